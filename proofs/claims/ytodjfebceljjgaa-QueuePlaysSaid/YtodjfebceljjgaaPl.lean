/- QueuePlays: its walk. -/
import Derived.Test.YtodjfebceljjgaaPl0
import Derived.Test.YtodjfebceljjgaaSo1
import Derived.Deep.QuietTactic
import Derived.BigQuiet
namespace Go.Proofs.Ytodjfebceljjgaa.U
open Go.RowKit Q1

theorem PlayR.next {w w1 wr : World} {c d qb k r p : Nat} {R : List T2} {m : List Th} {v vr : Value} (h : PlayR w w1 wr c d qb k r p R m v vr) (hk : k + 1 ≤ 100) : PlayR w w1 wr c d qb (k + 1) r p R m v vr :=
  ⟨h.qs, h.kept, h.pair, h.row, h.len, by have := h.turn; omega, by have := h.many; omega, hk⟩
/-- A variable beside the queue and the row is written. -/
theorem PlayR.aside {w w1 wr w2 : World} {c d qb k r p X : Nat} {R : List T2} {m : List Th} {v vr : Value} {cur : Array Value} (h : PlayR w w1 wr c d qb k r p R m v vr) (hcl : Clo 10 c d w1) (hx : wr.heap[X]? = some (.cells cur 28 (0, 0))) (hX : w.heap.size ≤ X) (hne : vr.ownBlock ≠ some X) (hk : Kept (fun q => q = X) wr w2) : PlayR w w1 w2 c d qb k r p R m v vr := by
  refine ⟨QS.keep h.qs hk (fun e => ?_) (fun g hg e => ?_) (fun q hq e => ?_), h.kept.trans (hk.below h.kept.size (fun q hq e => by have e : q = X := e; omega)), h.pair, own_keep h.row (fun g hg => hk.block g (own_low h.row g hg) (fun e => hne (by rw [hg]; exact congrArg some e))), h.len, h.turn, h.many, h.hund⟩
  · have e : qb = X := e
    obtain ⟨_, _, cur2, k2⟩ := Q1.QS.bx h.qs
    rw [e, hx] at k2; simp at k2
  · have e : g = X := e
    obtain ⟨_, _, cur2, k2⟩ := Q1.QS.own h.qs hg
    rw [e, hx] at k2; simp at k2
  · have e : q = X := e
    obtain ⟨xs, q1, _⟩ := h.qs
    have hq' := q1.snap q hq
    rw [e, hx] at hq'
    rcases hq with e2 | e2
    · have h8 := hcl.hc
      rw [← e2, e] at h8
      have h9 := hq'.trans h8
      simp at h9
    · have h8 := hcl.hd
      rw [← e2, e] at h8
      have h9 := hq'.trans h8
      simp at h9
theorem qs_aside {wr w1 w2 : World} {c d base qb p X : Nat} {m : List Th} {v : Value} {cur : Array Value} (h : QS (E1 gUp c d w1) wr base qb v m p) (hcl : Clo 10 c d w1) (hx : wr.heap[X]? = some (.cells cur 28 (0, 0))) (hk : Kept (fun q => q = X) wr w2) : QS (E1 gUp c d w1) w2 base qb v m p := by
  refine QS.keep h hk (fun e => ?_) (fun g hg e => ?_) (fun q hq e => ?_)
  · have e : qb = X := e
    obtain ⟨_, _, cur2, k2⟩ := Q1.QS.bx h
    rw [e, hx] at k2; simp at k2
  · have e : g = X := e
    obtain ⟨_, _, cur2, k2⟩ := Q1.QS.own h hg
    rw [e, hx] at k2; simp at k2
  · have e : q = X := e
    obtain ⟨xs, q1, _⟩ := h
    have hq' := q1.snap q hq
    rw [e, hx] at hq'
    rcases hq with e2 | e2
    · have h8 := hcl.hc
      rw [← e2, e] at h8
      have h9 := hq'.trans h8
      simp at h9
    · have h8 := hcl.hd
      rw [← e2, e] at h8
      have h9 := hq'.trans h8
      simp at h9
theorem drewN_below {B : Nat} (w : World) (n : Nat) : Below B w (w.drewN n) := ⟨rfl, rfl, rfl, Nat.le_refl _, fun _ _ => rfl⟩
theorem kept_two (w : World) (X : Nat) (u v : Value) : Kept (fun q => q = X) w ((w.setCell ⟨X, 0, none⟩ u).setCell ⟨X, 1, none⟩ v) :=
  ((Kept.refl (fun q => q = X) w).setCell (p := ⟨X, 0, none⟩) (.inr rfl) u).setCell (p := ⟨X, 1, none⟩) (.inr rfl) v
set_option maxHeartbeats 1000000 in
set_option maxRecDepth 10000 in
theorem plays_far (v : Value) (l : List T2) (w : World) (h : RT w v l) (hl : 100 < l.length) : Calls Try.prog 3 #[v] w fun e w' => e = .returned (.bool true) ∧ Below w.heap.size w w' := by
  obtain ⟨a, cp, rfl, h1, h2, _⟩ := h
  obtain ⟨n, hn⟩ : ∃ n, n = l.length := ⟨_, rfl⟩
  have hw0 : wrap64 (n : Int) = n := by unfold maxLen at h2; unfold wrap64; omega
  rw [← hn] at hl ⊢
  have k0 : (100 : Int) < n := by omega
  clear h1 h2 hn hl
  go_enter Try.func3, Try.ntmps3
  go_wp2_with fail
  refine (new_any 10 gUp _).mono ?_
  rintro e w1 ⟨c, d, qb, rfl, hb1, hqb, hcl, hqs⟩
  have HB1 := Lib.hid hb1
  clear hb1 hqb hcl hqs
  go_wp2_with fail
  refine (awake_any _).mono ?_
  rintro e w2 ⟨rfl, hb2⟩
  have HB2 := Lib.hid (th HB1.out (Nat.le_refl _) hb2)
  clear hb2
  go_wp2_with fail
  go_ret
  exact ⟨rfl, HB2.out⟩
set_option maxHeartbeats 4000000 in
set_option maxRecDepth 10000 in
theorem plays_near (v : Value) (l : List T2) (w : World) (h : RT w v l) (hl : l.length ≤ 100) : Calls Try.prog 3 #[v] w fun e w' => e = .returned (.bool true) ∧ Below w.heap.size w w' := by
  obtain ⟨i0, hi, hz0, hz1, hz2⟩ := info_parts infoTh
  have hse : Try.prog.underlying 31 = some (.slice 28) := Try.underlying31
  obtain ⟨a, cp, rfl, h1, h2, h3⟩ := h
  have H3 := Lib.hid h3
  obtain ⟨n, hn⟩ : ∃ n, n = l.length := ⟨_, rfl⟩
  have HN := Lib.hid hn
  rw [← hn] at hl ⊢
  have hw0 : wrap64 (n : Int) = n := by unfold wrap64; omega
  have k0 : ¬ (100 : Int) < n := by omega
  have k1 : (n : Int) ≤ 100 := by omega
  have HW1 : Hid (∀ k : Nat, k < n → wrap64 ((k : Int) + 1) = (k : Int) + 1) := Lib.hid (fun k hk => by unfold wrap64; omega)
  have HLN := Lib.hid hl
  clear h1 h2 h3 hl hn
  go_enter Try.func3, Try.ntmps3
  go_wp2_with fail
  refine (new_any 10 gUp _).mono ?_
  rintro e w1 ⟨c, d, qb, rfl, hb1, hqb, hcl, hqs⟩
  have HCL := Lib.hid hcl
  have HP0 : Hid (PlayR w w1 w1 c d qb 0 0 0 [] [] (.slice none 0 0) (.slice none 0 0)) := Lib.hid ⟨hqs _ (Nat.le_refl _), hb1, Pair.start, World.ownsRow_nil _ _ _ _, rfl, Nat.le_refl _, Nat.le_refl _, by omega⟩
  clear hb1 hqb hcl hqs
  go_wp2_with fail
  go_loopw [5, 6] (fun vr i wr => ∃ (k r p : Nat) (R : List T2) (m : List Th) (v : Value) (ra : Option Addr) (rc : Nat), i = .int .i64 k ∧ k ≤ n ∧ vr = .slice ra r rc ∧ Hid (PlayR w w1 wr c d qb k r p R m v (.slice ra r rc))) (fun _ i _ => n - (intOf i).toNat)
  case atStart => exact ⟨0, 0, 0, [], [], _, none, 0, rfl, by omega, rfl, HP0⟩
  case round =>
    clear HP0
    obtain ⟨k, r, p, R, m, v, ra, rc, rfl, hk, rfl, HI⟩ := hrel
    by_cases hlt : k < n
    · obtain ⟨x, hx⟩ : ∃ x, l[k]? = some x := ⟨_, List.getElem?_eq_getElem (by rw [← HN.out]; exact hlt)⟩
      obtain ⟨g, o, rfl, h5⟩ := H3.out (by rw [← HN.out]; omega)
      have HX0 : Hid (∀ W, Below w.heap.size w W → W.cell? ⟨g, o + k * 2, none⟩ = some (.int .i64 x.1) ∧ W.cell? ⟨g, o + k * 2 + 1, none⟩ = some (.int .i64 x.2)) := Lib.hid (fun W hb => by
        obtain ⟨q1, q2⟩ := h5 k x hx
        exact ⟨(hb.cell (blk_of_cell q1)).trans q1, (hb.cell (blk_of_cell q2)).trans q2⟩)
      obtain ⟨c0, c1⟩ := HX0.out wr HI.out.kept
      have hi0 : (0 : Int) ≤ k := by omega
      have hi1 : (k : Int) < n := by omega
      have hd1 : decide ((k : Int) < n) = true := by simp; omega
      have HKN := Lib.hid hlt
      have HRB : Hid (r ≤ 100 ∧ p ≤ 100 ∧ m.length = r) := Lib.hid (by
        have a1 := HI.out.many
        have a2 := HI.out.turn
        have a3 := HI.out.hund
        have a4 := HI.out.pair.len
        have a5 := HI.out.len
        omega)
      obtain ⟨ask, hask⟩ : ∃ q, q = x.1 := ⟨_, rfl⟩
      obtain ⟨rank, hrank⟩ : ∃ q, q = x.2 := ⟨_, rfl⟩
      rw [← hask, ← hrank] at HX0
      rw [← hask] at c0
      rw [← hrank] at c1
      clear hx h5 hk hlt hask hrank
      by_cases ha0 : ask = 0
      · subst ha0
        obtain ⟨w2, hw2⟩ : ∃ w2, w2 = wr.alloc (.cells #[.int .i64 rank, .int .i64 (k : Int)] 28) := ⟨_, rfl⟩
        have hb2 : Below wr.heap.size wr w2 := by rw [hw2]; exact al (Below.refl _ _) (Nat.le_refl _) _
        have hg2 : w2.heap[wr.heap.size]? = some (.cells #[.int .i64 rank, .int .i64 (k : Int)] 28 (0, 0)) := by rw [hw2]; exact heap_new0 _ _
        have z0 : w2.cell? ⟨wr.heap.size, 0, none⟩ = some (.int .i64 rank) := by rw [Lib.cell_of_heap hg2]; rfl
        have z1 : w2.cell? ⟨wr.heap.size, 1, none⟩ = some (.int .i64 (k : Int)) := by rw [Lib.cell_of_heap hg2]; rfl
        have HI2 := Lib.hid (HI.out.below hb2)
        have HZ := Lib.hid (And.intro z0 z1)
        have HRL := Lib.hid (own_low HI.out.row)
        have HS2 : Hid (wr.heap.size < w2.heap.size) := Lib.hid (Array.getElem?_eq_some_iff.1 hg2).1
        clear hb2 hg2
        go_upto_region 10 with fail
        rw [← hw2]
        clear hw2
        go_wp2_with (at_builtin; refine wpList_append_own _ rfl _ _ 31 rfl w.heap.size 28 i0 (.agg #[.int .i64 0, .int .i64 0]) 2 16 hse hi hz0 hz1 hz2 rfl (by decide) _ _ _ rfl (HI2.out.row.alloc _) ⟨w2.heap.size, 0, none⟩ 1 1 [.int .i64 rank, .int .i64 (k : Int)] rfl rfl (cell_two_new _ _ _ _) (by simp [Value.oneCell']) (by unfold maxLen; have := HRB.out; omega) (by have := HRB.out; omega) (by have := HI2.out.kept.size; simp; omega) ?_; intro v5 w5 hown5 hgrow5 _; obtain ⟨ba, bc, rfl, _, _⟩ := own_at hown5; have y0 : w5.cell? ⟨wr.heap.size, 0, none⟩ = some (.int .i64 rank) := hgrow5.cell ((World.cell?_alloc_lt _ _ _ HS2.out).trans HZ.out.1) (fun e => Nat.lt_irrefl _ (HRL.out _ e.symm)); have y1 : w5.cell? ⟨wr.heap.size, 1, none⟩ = some (.int .i64 (k : Int)) := hgrow5.cell ((World.cell?_alloc_lt _ _ _ HS2.out).trans HZ.out.2) (fun e => Nat.lt_irrefl _ (HRL.out _ e.symm)))
        obtain ⟨r1, hr1⟩ : ∃ q, q = r + 1 := ⟨_, rfl⟩
        rw [← hr1] at hown5 ⊢
        have hwr1 : wrap64 (r1 : Int) = r1 := by have := HRB.out; unfold wrap64; omega
        have hqs5 := (HI2.out.below (al (Below.refl _ _) (Nat.le_refl _) _)).grown HCL.out hgrow5
        have HB5 : Hid (Below w.heap.size w w5) := Lib.hid ((al HI2.out.kept (Nat.le_refl _) _).grown hgrow5 (by have := HI2.out.kept.size; simp; omega) (fun q e => (own_block HI2.out.row e).1))
        have HPUT := Lib.hid (put1 ordU ord_up HCL.out hqs5 (by have := HRB.out; omega) (by have := HRB.out; omega) rank (k : Int))
        have HQ5 := Lib.hid hqs5
        have HO5 := Lib.hid hown5
        have HR1 := Lib.hid hr1
        have HPR := Lib.hid (HI.out.pair.put rank (k : Int))
        clear hown5 hgrow5 hqs5 hr1 z0 z1
        (with_reducible refine HPUT.out.mono ?_)
        rintro e w6 ⟨rfl, v6, hq6, hk6, _⟩
        have HQL : Hid (Calls Try.prog 13 #[.pointer (some ⟨qb, 0, none⟩)] w6 fun e w' => e = .returned (.int .i64 (r1 : Nat)) ∧ w' = w6) := Lib.hid (by
          have h9 := qlen_any (E1 gUp c d w1) w6 w.heap.size qb (p + 1) v6 _ hq6
          rw [show ((rank, (k : Int), (p : Int)) :: m).length = r1 by rw [List.length_cons]; have := HRB.out; have := HR1.out; omega] at h9
          exact h9)
        have HFIN : Hid (PlayR w w1 w6 c d qb (k + 1) r1 (p + 1) (R ++ [(rank, (k : Int))]) ((rank, (k : Int), (p : Int)) :: m) v6 (.slice ba r1 bc)) := Lib.hid (by
          have h9 := row_aside HQ5.out HO5.out hk6
          refine ⟨hq6, HB5.out.trans (kept_below HQ5.out hk6), HPR.out, by rw [cells2_append]; exact h9, by rw [HR1.out, List.length_append, HI.out.len]; rfl, by have := HI.out.turn; omega, by have := HI.out.many; have := HR1.out; omega, by have := HLN.out; have := HKN.out; omega⟩)
        clear hq6 hk6 y0 y1
        go_wp2_with fail
        refine HQL.out.mono ?_
        rintro e w7 ⟨rfl, rfl⟩
        go_wp2_with fail
        go_roundw
        case rel => exact ⟨k + 1, r1, p + 1, _, _, v6, ba, bc, by (try rw [HW1.out k HKN.out]); go_num, by have := HKN.out; omega, rfl, HFIN⟩
        case measure => (try rw [HW1.out k HKN.out]); have := HKN.out; simp only [intOf]; omega
      · skip
        have hwr : wrap64 (r : Int) = r := by have := HRB.out; unfold wrap64; omega
        have HRT : Hid (RT wr (.slice ra r rc) R) := Lib.hid (by
          have h9 := HI.out.row
          rw [HI.out.len] at h9 ⊢
          exact RT.of_own h9)
        have HFI := Lib.hid (first_any _ R wr HRT.out (by rw [← HI.out.len]; have := HRB.out; omega))
        have hn0 : ¬ (0 : Int) = ask := fun e => ha0 e.symm
        have ha2 : (ask == 0) = false := by rw [beq_eq_false_iff_ne]; exact ha0
        have HK1 : Hid (k + 1 ≤ 100) := Lib.hid (by have := HLN.out; have := HKN.out; omega)
        go_wp2_with fail
        refine HFI.out.mono ?_
        rintro e w2 ⟨hp, hb2⟩
        have HROW : Hid (∀ W : World, wr.heap.size ≤ W.heap.size → Value.ownBlock (.slice ra r rc) ≠ some W.heap.size) := Lib.hid (fun W hW e => by have := own_low HI.out.row _ e; omega)
        have HZ2 : Hid (wr.heap.size ≤ w2.heap.size ∧ w.heap.size ≤ wr.heap.size) := Lib.hid ⟨hb2.size, HI.out.kept.size⟩
        rcases hp with ⟨hre, rfl⟩ | ⟨q, y, rfl, hfa⟩
        · have hme : m = [] := List.eq_nil_of_length_eq_zero (by rw [← HI.out.pair.len, hre]; rfl)
          have HI2 := Lib.hid (HI.out.below hb2)
          rw [hme] at HI2
          have HPK := Lib.hid (peek_none _ w2 w.heap.size qb p v HI2.out.qs)
          clear hb2 hme hre
          go_wp2_with fail
          refine HPK.out.mono ?_
          rintro e w3 ⟨rfl, hb3⟩
          obtain ⟨w4, hw4⟩ : ∃ w4, w4 = w3.alloc (.cells #[.int .i64 0, .int .i64 0] 28) := ⟨_, rfl⟩
          have hb4 : Below w2.heap.size w2 w4 := by rw [hw4]; exact al hb3 (Nat.le_refl _) _
          have hg4 : w4.heap[w3.heap.size]? = some (.cells #[.int .i64 0, .int .i64 0] 28 (0, 0)) := by rw [hw4]; exact heap_new0 _ _
          have HI4 := Lib.hid (HI2.out.below hb4)
          have HG4 := Lib.hid hg4
          have HZ3 : Hid (w2.heap.size ≤ w3.heap.size) := Lib.hid hb3.size
          have HNE : Hid (Value.ownBlock (.slice ra r rc) ≠ some w3.heap.size) := Lib.hid (HROW.out w3 (Nat.le_trans HZ2.out.1 HZ3.out))
          obtain ⟨c2, c3⟩ := HX0.out w4 HI4.out.kept
          have z0 : w4.cell? ⟨w3.heap.size, 0, none⟩ = some (.int .i64 0) := by rw [Lib.cell_of_heap hg4]; rfl
          have z1 : w4.cell? ⟨w3.heap.size, 1, none⟩ = some (.int .i64 0) := by rw [Lib.cell_of_heap hg4]; rfl
          clear hb3 hb4 hg4
          go_upto_region 15 with fail
          rw [← hw4]
          clear hw4
          by_cases ha1 : ask = 1
          · subst ha1
            have HTK := Lib.hid (take_none _ w4 w.heap.size qb p v HI4.out.qs)
            clear z0 z1
            go_wp2_with fail
            refine HTK.out.mono ?_
            rintro e w5 ⟨rfl, hb5⟩
            have hg5 := (hb5.block _ (Array.getElem?_eq_some_iff.1 HG4.out).1).trans HG4.out
            obtain ⟨w6, hw6⟩ : ∃ w6, w6 = (w5.setCell ⟨w3.heap.size, 0, none⟩ (.int .i64 0)).setCell ⟨w3.heap.size, 1, none⟩ (.int .i64 0) := ⟨_, rfl⟩
            have z0 : w5.cell? ⟨w3.heap.size, 0, none⟩ = some (.int .i64 0) := by rw [Lib.cell_of_heap hg5]; rfl
            have z1 : w5.cell? ⟨w3.heap.size, 1, none⟩ = some (.int .i64 0) := by rw [Lib.cell_of_heap hg5]; rfl
            have f0 : w5.frozen? ⟨w3.heap.size, 0, none⟩ = false := Lib.frozen_of_heap hg5 0
            have f1 : w5.frozen? ⟨w3.heap.size, 1, none⟩ = false := Lib.frozen_of_heap hg5 1
            have hg6 : w6.heap[w3.heap.size]? = some (.cells #[.int .i64 0, .int .i64 0] 28 (0, 0)) := by rw [hw6]; exact heap_set2 hg5
            have y0 : w6.cell? ⟨w3.heap.size, 0, none⟩ = some (.int .i64 0) := by rw [Lib.cell_of_heap hg6]; rfl
            have y1 : w6.cell? ⟨w3.heap.size, 1, none⟩ = some (.int .i64 0) := by rw [Lib.cell_of_heap hg6]; rfl
            have HFIN := Lib.hid (((HI4.out.below hb5).aside HCL.out hg5 (Nat.le_trans HZ2.out.2 (Nat.le_trans HZ2.out.1 HZ3.out)) HNE.out (by rw [hw6]; exact kept_two _ _ _ _ : Kept _ w5 w6)).next HK1.out)
            clear hg5 hb5 hg6
            go_upto_region 17 with fail
            rw [← hw6]
            clear hw6 z0 z1 f0 f1
            go_wp2_with fail
            go_roundw
            case rel => exact ⟨k + 1, r, p, _, _, v, ra, rc, by (try rw [HW1.out k HKN.out]); go_num, by have := HKN.out; omega, rfl, HFIN⟩
            case measure => (try rw [HW1.out k HKN.out]); have := HKN.out; simp only [intOf]; omega
          · have ha3 : (ask == 1) = false := by rw [beq_eq_false_iff_ne]; exact ha1
            have hn1 : ¬ (1 : Int) = ask := fun e => ha1 e.symm
            have HFIN := Lib.hid (HI4.out.next HK1.out)
            go_wp2_with fail
            go_roundw
            case rel => exact ⟨k + 1, r, p, _, _, v, ra, rc, by (try rw [HW1.out k HKN.out]); go_num, by have := HKN.out; omega, rfl, HFIN⟩
            case measure => (try rw [HW1.out k HKN.out]); have := HKN.out; simp only [intOf]; omega
        · have hme : m ≠ [] := fun e => by
            have h9 := HI.out.pair.len
            have := hfa.1
            rw [e] at h9
            simp at h9
            rw [h9] at this
            simp at this
          have HI2 := Lib.hid (HI.out.below hb2)
          have HME := Lib.hid hme
          have HFA := Lib.hid hfa
          have HPK := Lib.hid (peek1 gUp ord_up HI2.out.qs hme)
          clear hb2 hme
          go_wp2_with fail
          refine HPK.out.mono ?_
          rintro e w3 ⟨xx, hmin, rfl, hb3⟩
          obtain ⟨hy, _⟩ := HI.out.pair.min hmin HFA.out
          obtain ⟨yr, hyr⟩ : ∃ q, q = y.1 := ⟨_, rfl⟩
          obtain ⟨yi, hyi⟩ : ∃ q, q = y.2 := ⟨_, rfl⟩
          rw [show xx.1 = yr by rw [hyr, hy], show xx.2.1 = yi by rw [hyi, hy]]
          obtain ⟨w4, hw4⟩ : ∃ w4, w4 = w3.alloc (.cells #[.int .i64 yr, .int .i64 yi] 28) := ⟨_, rfl⟩
          have hb4 : Below w2.heap.size w2 w4 := by rw [hw4]; exact al hb3 (Nat.le_refl _) _
          have hg4 : w4.heap[w3.heap.size]? = some (.cells #[.int .i64 yr, .int .i64 yi] 28 (0, 0)) := by rw [hw4]; exact heap_new0 _ _
          have HI4 := Lib.hid (HI2.out.below hb4)
          have HG4 := Lib.hid hg4
          have HZ3 : Hid (w2.heap.size ≤ w3.heap.size) := Lib.hid hb3.size
          have HNE : Hid (Value.ownBlock (.slice ra r rc) ≠ some w3.heap.size) := Lib.hid (HROW.out w3 (Nat.le_trans HZ2.out.1 HZ3.out))
          obtain ⟨c2, c3⟩ := HX0.out w4 HI4.out.kept
          have hqr : q < r := by have := hfa.1; rw [HI.out.len]; exact this
          obtain ⟨rg, rc', e9, _, _⟩ := own_some HI4.out.row (by omega : 0 < r)
          simp only [Value.slice.injEq, true_and] at e9
          obtain ⟨rfl, rfl⟩ := e9
          have HRC : Hid (∀ W, W.ownsRow w.heap.size 28 2 (.slice (some ⟨rg, 0, none⟩) r rc) r (cells2 R) → W.cell? ⟨rg, q * 2, none⟩ = some (.int .i64 yr) ∧ W.cell? ⟨rg, q * 2 + 1, none⟩ = some (.int .i64 yi) ∧ RT W (.slice (some ⟨rg, 0, none⟩) r rc) R) := Lib.hid (fun W hW => by
            rw [HI.out.len] at hW
            have hrt := RT.of_own hW
            have hrt2 := hrt
            obtain ⟨a', c', e1, _, _, h5⟩ := hrt
            obtain ⟨g', o', e2, h6⟩ := h5 (by have := HFA.out.1; omega)
            simp only [Value.slice.injEq] at e1
            rw [← e1.1] at e2
            simp only [Option.some.injEq, Addr.mk.injEq, and_true] at e2
            obtain ⟨rfl, rfl⟩ := e2
            obtain ⟨q1, q2⟩ := h6 q y HFA.out.2.1
            rw [Nat.zero_add] at q1 q2
            rw [hyr, hyi]
            exact ⟨q1, q2, by rw [HI.out.len]; exact hrt2⟩)
          have HQR := Lib.hid hqr
          have HYR := Lib.hid hyr
          have HYI := Lib.hid hyi
          have hq0 : (0 : Int) ≤ q := by omega
          have hq1 : (q : Int) < r := by omega
          have hq2 : decide ((q : Int) < 0) = false := by simp
          clear hb3 hb4 hg4 hmin hy hyr hyi hqr hfa
          go_upto_region 15 with fail
          rw [← hw4]
          clear hw4
          by_cases ha1 : ask = 1
          · subst ha1
            have HTK := Lib.hid (take1 ordU ord_up HCL.out HI4.out.qs HME.out (by have := HRB.out; omega))
            go_wp2_with fail
            refine HTK.out.mono ?_
            rintro e w5 ⟨xx2, rr, hpr, hmin, rfl, v5, hq5, hk5, _⟩
            obtain ⟨hy, hnx⟩ := HI.out.pair.min hmin HFA.out
            rw [show xx2.1 = yr by rw [HYR.out, hy], show xx2.2.1 = yi by rw [HYI.out, hy]]
            have HPR := Lib.hid (hnx rr hpr)
            have hg5 := kept_aside HI4.out.qs hk5 HG4.out (by decide) (by decide)
            have hro5 := row_aside HI4.out.qs HI4.out.row hk5
            have hbw5 := HI4.out.kept.trans (kept_below HI4.out.qs hk5)
            obtain ⟨w6, hw6⟩ : ∃ w6, w6 = (w5.setCell ⟨w3.heap.size, 0, none⟩ (.int .i64 yr)).setCell ⟨w3.heap.size, 1, none⟩ (.int .i64 yi) := ⟨_, rfl⟩
            have hk6 : Kept (fun q => q = w3.heap.size) w5 w6 := by rw [hw6]; exact kept_two _ _ _ _
            have z0 : w5.cell? ⟨w3.heap.size, 0, none⟩ = some (.int .i64 yr) := by rw [Lib.cell_of_heap hg5]; rfl
            have z1 : w5.cell? ⟨w3.heap.size, 1, none⟩ = some (.int .i64 yi) := by rw [Lib.cell_of_heap hg5]; rfl
            have f0 : w5.frozen? ⟨w3.heap.size, 0, none⟩ = false := Lib.frozen_of_heap hg5 0
            have f1 : w5.frozen? ⟨w3.heap.size, 1, none⟩ = false := Lib.frozen_of_heap hg5 1
            have hg6 : w6.heap[w3.heap.size]? = some (.cells #[.int .i64 yr, .int .i64 yi] 28 (0, 0)) := by rw [hw6]; exact heap_set2 hg5
            have y0 : w6.cell? ⟨w3.heap.size, 0, none⟩ = some (.int .i64 yr) := by rw [Lib.cell_of_heap hg6]; rfl
            have y1 : w6.cell? ⟨w3.heap.size, 1, none⟩ = some (.int .i64 yi) := by rw [Lib.cell_of_heap hg6]; rfl
            have HQ6 := Lib.hid (qs_aside hq5 HCL.out hg5 hk6)
            have HRO6 := Lib.hid (own_keep hro5 (fun g hg => hk6.block g (own_low hro5 g hg) (fun e => HNE.out (by rw [hg]; exact congrArg some e))))
            have HBW6 : Hid (Below w.heap.size w w6) := Lib.hid (hbw5.trans (hk6.below hbw5.size (fun q hq e => by
              have e : q = w3.heap.size := e
              have h8 := HZ2.out
              have h9 := HZ3.out
              omega)))
            obtain ⟨r0, r1, hrt6⟩ := HRC.out w6 HRO6.out
            have HRT6 := Lib.hid hrt6
            obtain ⟨c4, _⟩ := HX0.out w6 HBW6.out
            obtain ⟨r2, hr2⟩ : ∃ q9, q9 = (outL R q).length := ⟨_, rfl⟩
            have HR2 := Lib.hid hr2
            have HR3 : Hid (r2 + 1 = r) := Lib.hid (by rw [hr2, outL_len HFA.out.1, HI.out.len])
            have hwr2 : wrap64 (r2 : Int) = r2 := by have := HR3.out; have := HRB.out; unfold wrap64; omega
            have HOUT : Hid (∀ W, Below w6.heap.size w6 W → Calls Try.prog 17 #[.slice (some ⟨rg, 0, none⟩) r rc, .int .i64 (q : Nat)] W fun e w' => ∃ na nc, e = .returned (.slice na r2 nc) ∧ w'.ownsRow W.heap.size 28 2 (.slice na r2 nc) r2 (cells2 (outL R q)) ∧ Below W.heap.size W w') := Lib.hid (fun W hW => (out_any _ R q W (HRT6.out.below hW) HFA.out.1 (by rw [← HI.out.len]; have := HRB.out; omega)).mono fun e w' ⟨vo, he, hown, hb⟩ => by
              obtain ⟨na, nc, rfl, _, _⟩ := own_at hown
              rw [← HR2.out] at he hown
              exact ⟨na, nc, he, hown, hb⟩)
            have HRL : Hid (rr.length = r2) := Lib.hid (by
              have h9 := HPR.out.len
              rw [← h9, HR2.out])
            clear hg5 hro5 hbw5 hk6 hg6 hq5 hk5 hmin hpr hy hnx hrt6 hr2
            go_upto_region 17 with fail
            rw [← hw6]
            clear hw6 z0 z1 f0 f1 c2 c3
            go_wp2_with fail
            go_quiet (fail)
            go_wp2_with fail
            refine (HOUT.out _ (drewN_below _ _)).mono ?_
            rintro e w8 ⟨na, nc, rfl, hown8, hb8⟩
            have hq8 := QS.below (QS.below HQ6.out (drewN_below _ _)) hb8
            have HFIN : Hid (PlayR w w1 w8 c d qb (k + 1) r2 p (outL R q) rr v5 (.slice na r2 nc)) := Lib.hid ⟨hq8, th (HBW6.out.trans (drewN_below _ _)) (Nat.le_refl _) hb8, HPR.out, own_base hown8 HBW6.out.size, HR2.out, by have := HI.out.turn; omega, by have := HI.out.many; have := HR3.out; omega, HK1.out⟩
            have HQL : Hid (Calls Try.prog 13 #[.pointer (some ⟨qb, 0, none⟩)] w8 fun e w' => e = .returned (.int .i64 (r2 : Nat)) ∧ w' = w8) := Lib.hid (by
              have h9 := qlen_any (E1 gUp c d w1) w8 w.heap.size qb p v5 rr HFIN.out.qs
              rw [HRL.out] at h9
              exact h9)
            clear hown8 hb8 hq8 y0 y1 r0 r1
            go_wp2_with fail
            refine HQL.out.mono ?_
            rintro e w9 ⟨rfl, rfl⟩
            go_wp2_with fail
            go_roundw
            case rel => exact ⟨k + 1, r2, p, _, _, v5, na, nc, by (try rw [HW1.out k HKN.out]); go_num, by have := HKN.out; omega, rfl, HFIN⟩
            case measure => (try rw [HW1.out k HKN.out]); have := HKN.out; simp only [intOf]; omega
          · have ha3 : (ask == 1) = false := by rw [beq_eq_false_iff_ne]; exact ha1
            have hn1 : ¬ (1 : Int) = ask := fun e => ha1 e.symm
            have z0 : w4.cell? ⟨w3.heap.size, 0, none⟩ = some (.int .i64 yr) := by rw [Lib.cell_of_heap HG4.out]; rfl
            have z1 : w4.cell? ⟨w3.heap.size, 1, none⟩ = some (.int .i64 yi) := by rw [Lib.cell_of_heap HG4.out]; rfl
            obtain ⟨r0, r1, _⟩ := HRC.out w4 HI4.out.row
            have HFIN : Hid (∀ W, Below w4.heap.size w4 W → PlayR w w1 W c d qb (k + 1) r p R m v (.slice (some ⟨rg, 0, none⟩) r rc)) := Lib.hid (fun W hW => (HI4.out.below hW).next HK1.out)
            have HQL : Hid (∀ W, Below w4.heap.size w4 W → Calls Try.prog 13 #[.pointer (some ⟨qb, 0, none⟩)] W fun e w' => e = .returned (.int .i64 (r : Nat)) ∧ w' = W) := Lib.hid (fun W hW => by
              have h9 := qlen_any (E1 gUp c d w1) W w.heap.size qb p v m (HFIN.out W hW).qs
              rw [HRB.out.2.2] at h9
              exact h9)
            go_wp2_with fail
            go_quiet (fail)
            go_wp2_with fail
            refine (HQL.out _ (drewN_below _ _)).mono ?_
            rintro e w7 ⟨rfl, rfl⟩
            go_wp2_with fail
            go_roundw
            case rel => exact ⟨k + 1, r, p, _, _, v, _, rc, by (try rw [HW1.out k HKN.out]); go_num, by have := HKN.out; omega, rfl, Lib.hid (HFIN.out _ (drewN_below _ _))⟩
            case measure => (try rw [HW1.out k HKN.out]); have := HKN.out; simp only [intOf]; omega
    · have hd1 : decide ((k : Int) < n) = false := by simp; omega
      have hd2 : decide (k < n) = false := by simp; omega
      have HKP := Lib.hid HI.out.kept
      clear hlt hk HI
      go_wp2_with fail
      refine (awake_any _).mono ?_
      rintro e w6 ⟨rfl, hb6⟩
      have HB6 := Lib.hid (th HKP.out (Nat.le_refl _) hb6)
      clear hb6
      go_wp2_with fail
      go_ret
      exact ⟨rfl, HB6.out⟩
end Go.Proofs.Ytodjfebceljjgaa.U
