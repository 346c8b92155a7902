/- What the rests come to. -/
import Derived.Test.YtodjfebceljjgaaM4
namespace Go.Proofs.Ytodjfebceljjgaa.U
open Go.RowKit Q2

def cells2 (l : List T2) : List Value := l.flatMap fun x => [.int .i64 x.1, .int .i64 x.2]
theorem cells2_append (a b : List T2) : cells2 (a ++ b) = cells2 a ++ cells2 b := by simp [cells2]
def lenV : Value → Nat | .slice _ n _ => n | _ => 0
/-- The rows that a call makes and the queue. -/
structure LeftI (w wr : World) (ob : Nat) (wb : World) (qb : Nat) (S : List T2) (va : Value) (out : List T2) (ls : List (List T2)) (m : List Rs) (p : Nat) (v : Value) : Prop where
  row : wr.ownsRow w.heap.size 28 2 va out.length (cells2 out)
  qs : QS (E2 wb (madeE ob wb)) wr (wb.heap.size + 1) qb v m p
  rests : Rests ls m
  rises : ∀ q ∈ ls, risesB q = true
  sum : out ++ sortI ls.flatten = S
  kept : Kept (fun k => wb.heap.size + 1 ≤ k) w wr
  turn : p ≤ 1000 + out.length
  many : m.length ≤ 1000
theorem Q2.QS.ok2 {wb W0 w : World} {base qb p : Nat} {v : Value} {m : List Rs} (h : QS (E2 wb W0) w base qb v m p) {x : Rs} (hx : x ∈ m) : RT wb (rv x) x.l ∧ x.l ≠ [] := by
  obtain ⟨xs, k1, k2, _⟩ := h
  exact k1.oks x (k2.mem_iff.2 hx)
theorem Q2.QS.size0 {wb w : World} {ob base qb p : Nat} {v : Value} {m : List Rs} (h : QS (E2 wb (madeE ob wb)) w base qb v m p) : wb.heap.size + 2 ≤ w.heap.size := by
  obtain ⟨xs, k1, _⟩ := h
  have := k1.size0
  have e : (E2 wb (madeE ob wb)).W0.heap.size = wb.heap.size + 2 := made_size ob wb
  omega
theorem Q2.QS.own {E : En Rs} {w : World} {base qb p : Nat} {v : Value} {m : List Rs} (h : QS E w base qb v m p) {g : Nat} (hg : v.ownBlock = some g) : base ≤ g ∧ g < w.heap.size ∧ ∃ cur, w.heap[g]? = some (.cells cur 103 (0, 0)) := by
  obtain ⟨xs, k1, _⟩ := h
  exact own_block k1.row hg
theorem Q2.QS.bx {E : En Rs} {w : World} {base qb p : Nat} {v : Value} {m : List Rs} (h : QS E w base qb v m p) : qb < w.heap.size ∧ ∃ cur, w.heap[qb]? = some (.cells cur 109 (0, 0)) := by
  obtain ⟨xs, k1, _⟩ := h
  exact ⟨k1.lt, _, k1.box⟩
theorem Q2.QS.snap {wb w : World} {ob base qb p : Nat} {v : Value} {m : List Rs} (h : QS (E2 wb (madeE ob wb)) w base qb v m p) {k : Nat} (hk : k ≤ wb.heap.size) : w.heap[k]? = (madeE ob wb).heap[k]? := by
  obtain ⟨xs, k1, _⟩ := h
  exact k1.snap k hk
/-- One thing more is told. -/
theorem LeftI.step {w wr w4 W w5 wb : World} {ob p p4 : Nat} {S out : List T2} {ls ls' : List (List T2)} {va va' v v4 : Value} {m m4 : List Rs} {y : T2} (h : LeftI w wr ob wb (wb.heap.size + 1) S va out ls m p v)
    (hq : QS (E2 wb (madeE ob wb)) w4 (wb.heap.size + 1) (wb.heap.size + 1) v4 m4 p4) (hk : Kept (SQ (wb.heap.size + 1) v) wr w4) (hW : Below w4.heap.size w4 W)
    (hown : w5.ownsRow w.heap.size 28 2 va' (out.length + 1) (cells2 out ++ [.int .i64 y.1, .int .i64 y.2])) (hg : W.grownBy w5 va.ownBlock)
    (hr : Rests ls' m4) (hri : ∀ q ∈ ls', risesB q = true) (hsum : sortI ls.flatten = y :: sortI ls'.flatten) (hp4 : p4 ≤ p + 1) (hm4 : m4.length ≤ m.length) (hwb : wb.heap.size + 2 ≤ w.heap.size) :
    LeftI w w5 ob wb (wb.heap.size + 1) S va' (out ++ [y]) ls' m4 p4 v4 ∧ W.ownsRow w.heap.size 28 2 va out.length (cells2 out) := by
  have hs0 := h.qs.size0
  have hk1 := h.kept.size
  have hk2 := hk.size
  have hk3 := hW.size
  have hva : ∀ g, va.ownBlock = some g → w.heap.size ≤ g ∧ g < wr.heap.size ∧ ∃ cur, wr.heap[g]? = some (.cells cur 28 (0, 0)) := fun g hg => own_block h.row hg
  have hsq : ∀ g, va.ownBlock = some g → ¬ SQ (wb.heap.size + 1) v g := fun g hg e => by
    obtain ⟨k1, k2, cur, k3⟩ := hva g hg
    rcases e with e | e
    · obtain ⟨_, cur2, k5⟩ := h.qs.bx
      rw [← e, k3] at k5
      simp at k5
    · obtain ⟨_, _, cur2, k5⟩ := h.qs.own e
      rw [k3] at k5
      simp at k5
  have hrowW : W.ownsRow w.heap.size 28 2 va out.length (cells2 out) := own_keep h.row (fun g hg => by
    obtain ⟨k1, k2, _⟩ := hva g hg
    exact (hW.block g (by omega)).trans (hk.block g k2 (hsq g hg)))
  have hqW := hq.below hW
  have hkw : Kept (fun k => va.ownBlock = some k) W w5 := (Kept.refl _ W).grown hg (fun k e => .inr e)
  have hWg : ∀ g, va.ownBlock = some g → ∃ cur, W.heap[g]? = some (.cells cur 28 (0, 0)) := fun g hg => (own_block hrowW hg).2.2
  refine ⟨⟨by rw [List.length_append, cells2_append]; exact hown, hqW.keep hkw (fun e => ?_) (fun g hg' e => ?_) (fun k hd e => ?_), hr, hri, ?_, ?_, ?_, by have := h.many; omega⟩, hrowW⟩
  · obtain ⟨cur, k1⟩ := hWg _ e
    obtain ⟨_, cur2, k2⟩ := hqW.bx
    rw [k1] at k2
    simp at k2
  · obtain ⟨cur, k1⟩ := hWg _ e
    obtain ⟨_, _, cur2, k2⟩ := hqW.own hg'
    rw [k1] at k2
    simp at k2
  · have h1 : k ≤ wb.heap.size := hd
    have := (hva k e).1
    omega
  · rw [List.append_assoc, List.singleton_append, ← hsum]; exact h.sum
  · have k1 : Kept (fun k => wb.heap.size + 1 ≤ k) w w4 := h.kept.trans hk (fun i _ e => by
      rcases e with e | e
      · have e : i = wb.heap.size + 1 := e
        show wb.heap.size + 1 ≤ i
        omega
      · exact (h.qs.own e).1)
    have k2 : Kept (fun k => wb.heap.size + 1 ≤ k) w W := k1.trans (Kept.of_below (S := fun _ => False) hW) (fun _ _ e => e.elim)
    exact k2.grown hg (fun k e => .inl (hva k e).1)
  · have := h.turn; simp; omega
theorem set_mem {α : Type} {l : List α} {i : Nat} {x y : α} (h : y ∈ l.set i x) : y ∈ l ∨ y = x := List.mem_or_eq_of_mem_set h
theorem cell_two_new (w : World) (a b : Value) (T : TypeId) : ∀ j u, [a, b][j]? = some u → (w.alloc (.cells #[a, b] T)).cell? ((⟨w.heap.size, 0, none⟩ : Addr).add j) = some u := fun j u hu => by
  rw [add_zero_at]
  match j, hu with
  | 0, hu => simp at hu; subst hu; simp [go_sem]
  | 1, hu => simp at hu; subst hu; simp [go_sem]
theorem infoTh : (Try.prog.info? 28).map (fun i => (i.zero, i.size, i.bytes)) = some (some (.agg #[.int .i64 0, .int .i64 0]), 2, 16) := by kernel_rfl
/-- A rest is taken. -/
theorem take2 {ob c : Nat} {wb : World} (hcl : Clo2 ob c wb) {w : World} {v : Value} {m : List Rs} {p : Nat} (h : QS (E2 wb (madeE ob wb)) w (wb.heap.size + 1) (wb.heap.size + 1) v m p) (hm : m ≠ []) (hml : m.length ≤ 1000) :
    Calls Try.prog 57 #[.pointer (some ⟨wb.heap.size + 1, 0, none⟩)] w fun e w' => ∃ (x : Rs) (r : List Rs), m.Perm (x :: r) ∧ IsMin (E2 wb (madeE ob wb)) m x ∧ e = .returned (.tuple #[.agg #[.slice x.a x.n x.c, .int .i64 x.i], .int .i64 0]) ∧ After (E2 wb (madeE ob wb)) w (wb.heap.size + 1) (wb.heap.size + 1) v r p w' :=
  take_any (E2 wb (madeE ob wb)) (ahead2 hcl) (one2 _ _) ord_r _ _ p v m w h hm (by omega)
/-- A rest is put. -/
theorem put2 {ob c : Nat} {wb : World} (hcl : Clo2 ob c wb) {w : World} {v : Value} {m : List Rs} {p : Nat} (h : QS (E2 wb (madeE ob wb)) w (wb.heap.size + 1) (wb.heap.size + 1) v m p) (hml : m.length ≤ 1000) (hp : p ≤ 500000) (a : Option Addr) (n k : Nat) (l : List T2) (i : Int) (hx : RT wb (.slice a n k) l) (hl : l ≠ []) :
    Calls Try.prog 38 #[.pointer (some ⟨wb.heap.size + 1, 0, none⟩), .agg #[.slice a n k, .int .i64 i]] w fun e w' => e = .returned (.int .i64 0) ∧ After (E2 wb (madeE ob wb)) w (wb.heap.size + 1) (wb.heap.size + 1) v (⟨a, n, k, l, i, p⟩ :: m) (p + 1) w' :=
  put_any (E2 wb (madeE ob wb)) (ahead2 hcl) (one2 _ _) ord_r _ _ p v m ⟨a, n, k, l, i, p⟩ w h ⟨hx, hl⟩ rfl (by omega) (by omega)
theorem Q2.QS.cellOf {wb w : World} {ob base qb p : Nat} {v : Value} {m : List Rs} (h : QS (E2 wb (madeE ob wb)) w base qb v m p) {a : Addr} {u : Value} (hc : wb.cell? a = some u) : w.cell? a = some u := by
  have hk := blk_of_cell hc
  exact (World.cell?_of_block ((h.snap (Nat.le_of_lt hk)).trans ((made_below ob wb).block _ hk))).trans hc
set_option maxHeartbeats 2000000 in
set_option maxRecDepth 10000 in
theorem left_any (ob c : Nat) (w wb : World) (hcl : Clo2 ob c wb) (v : Value) (ls : List (List T2)) (m : List Rs) (p : Nat) (h : QS (E2 wb (madeE ob wb)) w (wb.heap.size + 1) (wb.heap.size + 1) v m p) (hr : Rests ls m) (hri : ∀ q ∈ ls, risesB q = true) (hp : p ≤ 1000) (hm : m.length ≤ 1000) (hs : ls.flatten.length ≤ 100000) :
    Calls Try.prog 39 #[.pointer (some ⟨wb.heap.size + 1, 0, none⟩)] w fun e w' => ∃ vo, e = .returned vo ∧ w'.ownsRow w.heap.size 28 2 vo (sortI ls.flatten).length (cells2 (sortI ls.flatten)) ∧ Kept (fun k => wb.heap.size + 1 ≤ k) w w' ∧ ∀ k, k ≤ wb.heap.size → w'.heap[k]? = (madeE ob wb).heap[k]? := by
  obtain ⟨S, hS⟩ : ∃ S, S = sortI ls.flatten := ⟨_, rfl⟩
  have HSL : Hid (S.length ≤ 100000) := Lib.hid (by rw [hS, sort_len]; exact hs)
  have HI0 : Hid (LeftI w w ob wb (wb.heap.size + 1) S (.slice none 0 0) [] ls m p v) := Lib.hid ⟨World.ownsRow_nil _ _ _ _, h, hr, hri, by rw [hS]; rfl, Kept.refl _ _, by simp; omega, hm⟩
  have HCL := Lib.hid hcl
  have HWB : Hid (wb.heap.size + 2 ≤ w.heap.size) := Lib.hid h.size0
  obtain ⟨i0, hi, hz0, hz1, hz2⟩ := info_parts infoTh
  have hse : Try.prog.underlying 31 = some (.slice 28) := Try.underlying31
  rw [← hS]
  clear h hr hri hp hm hs hS hcl
  go_enter Try.func39, Try.ntmps39
  go_wp2_with fail
  go_step3
  go_wp2_with fail
  go_step3
  go_wp2_with fail
  go_loopw [3] (fun va wr => ∃ (out : List T2) (ls : List (List T2)) (m : List Rs) (p : Nat) (v : Value) (aa : Option Addr) (ac : Nat), va = .slice aa out.length ac ∧ Hid (LeftI w wr ob wb (wb.heap.size + 1) S va out ls m p v)) (fun va _ => S.length - lenV va)
  case atStart => exact ⟨[], ls, m, p, v, none, 0, rfl, HI0⟩
  case round =>
    clear HI0 ls m p v
    obtain ⟨out, ls, m, p, v, aa, ac, rfl, HI⟩ := hrel
    have HB := Lib.hid HI.out.turn
    have hsum := HI.out.sum
    have HOL : Hid (out.length + ls.flatten.length = S.length) := Lib.hid (by rw [← hsum, List.length_append, sort_len])
    by_cases hm : m = []
    · subst hm
      have HT := Lib.hid (take_none _ wr _ _ p v HI.out.qs)
      have HF := Lib.hid (rests_none HI.out.rests)
      clear hsum
      go_wp2_with fail
      refine HT.out.mono ?_
      rintro e w2 ⟨rfl, hb2⟩
      have HB2 := Lib.hid hb2
      clear hb2
      go_wp2_with fail
      rw [Exit.noGoto_ret]
      go_ret
      have e1 : out = S := by
        have := HI.out.sum
        rw [HF.out] at this
        simpa [sortI] using this
      refine ⟨_, rfl, ?_, ?_, fun k hk => ?_⟩
      · rw [← e1]
        have hb3 := HB2.out.alloc HB2.out.size (.cells #[.slice none 0 0, .int .i64 0] 77)
        exact own_keep HI.out.row (fun g hg => hb3.block g (own_block HI.out.row hg).2.1)
      · exact HI.out.kept.trans (Kept.of_below (S := fun _ => False) (HB2.out.alloc HB2.out.size _)) (fun _ _ e => e.elim)
      · exact (QS.below HI.out.qs (HB2.out.alloc HB2.out.size _)).snap hk
    · have HT := Lib.hid (take2 HCL.out HI.out.qs hm HI.out.many)
      clear hsum hm
      go_wp2_with fail
      refine HT.out.mono ?_
      rintro e w2 ⟨x, r, hpr, hmin, rfl, v2, hq2, hk2, hv2⟩
      obtain ⟨hrt, hne⟩ := HI.out.qs.ok2 hmin.1
      obtain ⟨j, y, t, hj, hl, hlj, hsum⟩ := rests_min HI.out.rests hmin.1 hmin.2 HI.out.rises
      obtain ⟨xa, xn, xc, xl, xi, xt⟩ := x
      simp only [rv] at hrt hl hj
      subst hl hj
      obtain ⟨g, o, rfl, hn0, cg1, cg2⟩ := hrt.first
      have hxn : xn = t.length + 1 := by
        obtain ⟨a', c', e, _⟩ := hrt
        simp only [Value.slice.injEq, List.length_cons] at e
        exact e.2.1
      subst hxn
      obtain ⟨W3, hW3⟩ : ∃ W3, W3 = w2.alloc (.cells #[.slice (some ⟨g, o, none⟩) (t.length + 1) xc, .int .i64 (j : Int)] 77) := ⟨_, rfl⟩
      have HN0 := Lib.hid hn0
      have HSUM := Lib.hid hsum
      have HLJ := Lib.hid hlj
      have HFL : Hid (0 < ls.flatten.length) := Lib.hid (by
        have h9 := congrArg List.length hsum
        rw [sort_len] at h9
        rw [h9]
        simp)
      have hre0 := HI.out.rests.perm hpr
      have hml : m.length = r.length + 1 := by have := hpr.length_eq; simpa using this
      have HRI : Hid (∀ q ∈ ls.set j t, risesB q = true) := Lib.hid (fun q hq => by
        rcases set_mem hq with h9 | h9
        · exact HI.out.rises q h9
        · rw [h9]; exact rises_tail (HI.out.rises _ (List.mem_of_getElem? hlj)))
      have hq3 : QS (E2 wb (madeE ob wb)) W3 (wb.heap.size + 1) (wb.heap.size + 1) v2 r p := by rw [hW3]; exact Q2.QS.below hq2 (al (Below.refl _ w2) (Nat.le_refl _) _)
      have hk3 : Kept (SQ (wb.heap.size + 1) v) wr W3 := by rw [hW3]; exact hk2.alloc _
      have hl0 : W3.cell? ⟨w2.heap.size, 0, none⟩ = some (.slice (some ⟨g, o, none⟩) (t.length + 1) xc) := by rw [hW3]; simp [go_sem]
      have hl1 : W3.cell? ⟨w2.heap.size, 1, none⟩ = some (.int .i64 (j : Int)) := by rw [hW3]; simp [go_sem]
      have hv3 : v2.ownBlock = v.ownBlock ∨ ∃ g, v2.ownBlock = some g ∧ wr.heap.size ≤ g := hv2
      dsimp only
      go_upto_region 3 with fail
      rw [← hW3]
      cases t with
      | nil =>
        have HRE : Hid (Rests (ls.set j []) r) := Lib.hid (by
          have := hre0.next (z := ⟨some ⟨g, o, none⟩, 1, xc, [], (j : Int), xt⟩) (j := j) (t := []) rfl rfl rfl
          simpa using this)
        have HPP : Hid (p ≤ p + 1) := Lib.hid (by omega)
        have HMM : Hid (r.length ≤ m.length) := Lib.hid (by omega)
        have HQ4 := Lib.hid hq3
        have HK4 := Lib.hid hk3
        have y1 : W3.cell? ⟨g, o, none⟩ = some (.int .i64 y.1) := hq3.cellOf cg1
        have y2 : W3.cell? ⟨g, o + 1, none⟩ = some (.int .i64 y.2) := hq3.cellOf cg2
        have HROW : Hid ((W3.alloc (.cells #[.int .i64 y.1, .int .i64 y.2] 28)).ownsRow w.heap.size 28 2 (.slice aa out.length ac) out.length (cells2 out)) := Lib.hid (own_keep HI.out.row (fun gg hgg => by
          obtain ⟨a1, a2, cur, a3⟩ := own_block HI.out.row hgg
          rw [Below.heap_alloc _ _ _ (by have := hk3.size; omega)]
          refine hk3.block gg a2 (fun e => ?_)
          rcases e with e | e
          · obtain ⟨_, cur2, k5⟩ := HI.out.qs.bx
            rw [← e, a3] at k5
            simp at k5
          · obtain ⟨_, _, cur2, k5⟩ := HI.out.qs.own e
            rw [a3] at k5
            simp at k5))
        clear hrt hpr hmin hne hlj hsum hn0 hq2 hk2 hv2 hv3 hre0 hml hq3 hk3 cg1 cg2 hW3
        go_upto_region 6 with fail
        go_wp2_with (at_builtin; refine wpList_append_own _ rfl _ _ 31 rfl w.heap.size 28 i0 (.agg #[.int .i64 0, .int .i64 0]) 2 16 hse hi hz0 hz1 hz2 rfl (by decide) _ _ _ rfl HROW.out ⟨W3.heap.size, 0, none⟩ 1 1 [.int .i64 y.1, .int .i64 y.2] rfl rfl (cell_two_new _ _ _ _) (by simp [Value.oneCell']) (by unfold maxLen; have := HSL.out; have := HOL.out; omega) (by have := HSL.out; have := HOL.out; omega) (by have := HI.out.kept.size; have := HK4.out.size; simp; omega) ?_; intro v5 w5 hown5 hgrow5 _)
        obtain ⟨ba, bc, rfl, _, _⟩ := own_at hown5
        obtain ⟨hfin, _⟩ := HI.out.step HQ4.out HK4.out (al (Below.refl _ _) (Nat.le_refl _) _) hown5 hgrow5 HRE.out HRI.out HSUM.out HPP.out HMM.out HWB.out
        have HFIN := Lib.hid hfin
        clear hfin hown5 hgrow5
        go_wp2_with fail
        go_roundw
        case rel => exact ⟨_, _, _, _, _, ba, bc, by simp, HFIN⟩
        case measure => simp only [lenV]; have := HOL.out; have := HFL.out; omega
      | cons z t2 =>
        obtain ⟨T, hT⟩ : ∃ T, T = z :: t2 := ⟨_, rfl⟩
        rw [← hT] at hrt HSUM HLJ HRI hl0 hsum hlj hre0 hpr hmin ⊢
        have hTn : T ≠ [] := by rw [hT]; simp
        have hTl : 0 < T.length := by rw [hT]; simp
        have hxc : T.length + 1 ≤ xc := by
          obtain ⟨a', c', e, h9, _⟩ := hrt
          simp only [Value.slice.injEq, List.length_cons] at e
          obtain ⟨_, _, e⟩ := e
          simp at h9
          omega
        have hxc1 : ¬ xc = 1 := by omega
        have hxc2 : ¬ 1 = xc := by omega
        have hxc3 : 1 < xc := by omega
        have hd1 : decide ((1 : Int) < (T.length : Int) + 1) = true := by simp; omega
        have hd2 : decide (1 < T.length + 1) = true := by simp; omega
        have hd3 : (1 : Int) < (T.length : Int) + 1 := by omega
        have hd4 : (1 : Int) ≤ (T.length : Int) + 1 := by omega
        have hq3d : QS (E2 wb (madeE ob wb)) W3.drew (wb.heap.size + 1) (wb.heap.size + 1) v2 r p := Q2.QS.below hq3 (Below.refl _ W3).drew
        have HPUT := Lib.hid (put2 HCL.out hq3d (by have := HI.out.many; omega) (by have := HB.out; have := HSL.out; have := HOL.out; omega) (some ⟨g, o + 2, none⟩) T.length (xc - 1) T (j : Int) hrt.tail hTn)
        have HNX := Lib.hid (fun (q : Rs) (h1 : q.i = (j : Int)) (h2 : q.l = T) => hre0.next (z := q) (j := j) (t := T) rfl h1 h2)
        have HML := Lib.hid hml
        have hk3d : Kept (SQ (wb.heap.size + 1) v) wr W3.drew := hk3.drew
        have HK3 := Lib.hid hk3d
        have HQ3 := Lib.hid hq3d
        have HV3 := Lib.hid hv3
        have HTN := Lib.hid hTn
        have ld0 : W3.drew.cell? ⟨w2.heap.size, 0, none⟩ = some (.slice (some ⟨g, o, none⟩) (T.length + 1) xc) := hl0
        have ld1 : W3.drew.cell? ⟨w2.heap.size, 1, none⟩ = some (.int .i64 (j : Int)) := hl1
        have hgb : w2.heap.size < W3.drew.heap.size := by show w2.heap.size < W3.heap.size; rw [hW3]; simp
        have HGB := Lib.hid hgb
        have HOW2 : Hid (v2.ownBlock ≠ some w2.heap.size ∧ wb.heap.size + 1 ≠ w2.heap.size) := Lib.hid ⟨fun e => by have := (Q2.QS.own hq2 e).2.1; omega, fun e => by have := (Q2.QS.bx hq2).1; omega⟩
        clear hrt hpr hmin hne hlj hsum hn0 hq2 hk2 hv2 hv3 hre0 hml hq3 hk3 hW3 hq3d hk3d hTn hT hgb
        go_upto_region 5 with fail
        go_still_tail 7, (by kernel_rfl)
        change wpList _ _ _ _ _ W3.drew
        generalize W3.drew = W4 at HPUT HK3 HQ3 ld0 ld1 HGB ⊢
        clear hl0 hl1
        go_wp2_with fail
        (with_reducible refine HPUT.out.mono ?_)
        rintro e w6 ⟨rfl, v6, hq6, hk6, hv6⟩
        have HQ4 := Lib.hid hq6
        have HK4 : Hid (Kept (SQ (wb.heap.size + 1) v) wr w6) := Lib.hid (HK3.out.trans hk6 (fun i hi9 e => by
          rcases e with e | e
          · exact .inl e
          · rcases HV3.out with h9 | ⟨g9, h9, h10⟩
            · exact .inr (h9.symm.trans e)
            · rw [h9] at e
              have := Option.some.inj e
              omega))
        have hnsq : ¬ SQ (wb.heap.size + 1) v2 w2.heap.size := fun e => by
          rcases e with e | e
          · exact HOW2.out.2 e.symm
          · exact HOW2.out.1 e
        have l60 : w6.cell? ⟨w2.heap.size, 0, none⟩ = some (.slice (some ⟨g, o, none⟩) (T.length + 1) xc) := (hk6.cell (p := ⟨w2.heap.size, 0, none⟩) HGB.out hnsq).trans ld0
        have y1 : w6.cell? ⟨g, o, none⟩ = some (.int .i64 y.1) := hq6.cellOf cg1
        have y2 : w6.cell? ⟨g, o + 1, none⟩ = some (.int .i64 y.2) := hq6.cellOf cg2
        have HRE : Hid (Rests (ls.set j T) (⟨some ⟨g, o + 2, none⟩, T.length, xc - 1, T, (j : Int), (p : Int)⟩ :: r)) := Lib.hid (by
          have := HNX.out ⟨some ⟨g, o + 2, none⟩, T.length, xc - 1, T, (j : Int), (p : Int)⟩ rfl rfl
          rw [if_neg HTN.out] at this
          exact this)
        have HPP : Hid (p + 1 ≤ p + 1) := Lib.hid (Nat.le_refl _)
        have HMM : Hid ((⟨some ⟨g, o + 2, none⟩, T.length, xc - 1, T, (j : Int), (p : Int)⟩ :: r : List Rs).length ≤ m.length) := Lib.hid (by rw [HML.out]; simp)
        have hk6b := HK4.out
        have HROW : Hid ((w6.alloc (.cells #[.int .i64 y.1, .int .i64 y.2] 28)).ownsRow w.heap.size 28 2 (.slice aa out.length ac) out.length (cells2 out)) := Lib.hid (own_keep HI.out.row (fun gg hgg => by
          obtain ⟨a1, a2, cur, a3⟩ := own_block HI.out.row hgg
          rw [Below.heap_alloc _ _ _ (by have := hk6b.size; omega)]
          refine hk6b.block gg a2 (fun e => ?_)
          rcases e with e | e
          · obtain ⟨_, cur2, k5⟩ := HI.out.qs.bx
            rw [← e, a3] at k5
            simp at k5
          · obtain ⟨_, _, cur2, k5⟩ := HI.out.qs.own e
            rw [a3] at k5
            simp at k5))
        have hl9 : (0 : Int) < (T.length : Int) + 1 := by omega
        clear hq6 hk6 hv6 hnsq hk6b cg1 cg2 ld0 ld1
        dsimp only
        go_upto_region 6 with fail
        go_wp2_with (at_builtin; refine wpList_append_own _ rfl _ _ 31 rfl w.heap.size 28 i0 (.agg #[.int .i64 0, .int .i64 0]) 2 16 hse hi hz0 hz1 hz2 rfl (by decide) _ _ _ rfl HROW.out ⟨w6.heap.size, 0, none⟩ 1 1 [.int .i64 y.1, .int .i64 y.2] rfl rfl (cell_two_new _ _ _ _) (by simp [Value.oneCell']) (by unfold maxLen; have := HSL.out; have := HOL.out; omega) (by have := HSL.out; have := HOL.out; omega) (by have := HI.out.kept.size; have := HK4.out.size; simp; omega) ?_; intro v5 w5 hown5 hgrow5 _)
        obtain ⟨ba, bc, rfl, _, _⟩ := own_at hown5
        obtain ⟨hfin, _⟩ := HI.out.step HQ4.out HK4.out (al (Below.refl _ _) (Nat.le_refl _) _) hown5 hgrow5 HRE.out HRI.out HSUM.out HPP.out HMM.out HWB.out
        have HFIN := Lib.hid hfin
        clear hfin hown5 hgrow5
        go_wp2_with fail
        go_roundw
        case rel => exact ⟨_, _, _, _, _, ba, bc, by simp, HFIN⟩
        case measure => simp only [lenV]; have := HOL.out; have := HFL.out; omega
end Go.Proofs.Ytodjfebceljjgaa.U
