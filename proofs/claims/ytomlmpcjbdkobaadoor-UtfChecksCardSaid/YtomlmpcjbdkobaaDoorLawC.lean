/- The walk of the law UtfChecks. -/
import Derived.Test.YtomlmpcjbdkobaaDoorAll
import Derived.Test.YtomlmpcjbdkobaaDoorRefAll
import Derived.Test.YtomlmpcjbdkobaaDoorLeave
import Derived.Test.YtomlmpcjbdkobaaDoorOpen
namespace Go.Proofs.YtomlmpcjbdkobaaDoor.U
open Go.RowKit Go.Shelf
attribute [local go_sem] Oper.semAt_some

theorem pre_next {α : Type} {l zs : List α} {r : α} (h : l <+: zs) : (l ++ [r] <+: zs) ↔ zs[l.length]? = some r := by
  obtain ⟨t, rfl⟩ := h
  cases t with
  | nil =>
    constructor
    · intro h
      have h2 := h.length_le
      simp only [List.append_nil, List.length_append, List.length_cons, List.length_nil] at h2
      omega
    · intro h
      simp at h
  | cons c t =>
    simp only [List.prefix_append_right_inj]
    constructor
    · intro h
      have := List.cons_prefix_cons.1 h
      simp [this.1]
    · intro h
      simp at h
      subst h
      exact ⟨t, rfl⟩
theorem prs_get (p : Nat) (rs : List Int) (k : Nat) : (prs p rs)[k]? = rs[k]?.map fun r => (p + sizes (rs.take k), r) := by
  induction rs generalizing p k with
  | nil => rfl
  | cons r rs ih =>
    cases k with
    | zero => simp [prs, sizes]
    | succ k => simp [prs, ih, sizes, Nat.add_assoc]
theorem pre_take {pre : List Ch} {bs : List Int} (h : pre.map (·.1) <+: prsC bs) : pre.map (·.1.2) = (runesC bs).take pre.length := by
  have h1 := h.map (·.2)
  rw [prsC, prs_snd, List.map_map] at h1
  have h2 := List.prefix_iff_eq_take.1 h1
  rw [List.length_map] at h2
  exact h2
theorem chk_snoc {pre : List Ch} {x : Ch} {bs : List Int} {k pl : Nat} {y : Int} (h : pre.map (·.1) <+: prsC bs) (hk : pre.length = k) (hkn : k < (runesC bs).length) (hy : (runesC bs)[k]?.getD 0 = y) (hpl : sizes (pre.map (·.1.2)) = pl) :
    ((pre ++ [x]).map (·.1) <+: prsC bs) ↔ x.1 = (pl, y) := by
  have e : (pre ++ [x]).map (·.1) = pre.map (·.1) ++ [x.1] := by simp
  have hlen : (pre.map (·.1)).length = k := by rw [List.length_map]; exact hk
  rw [e, pre_next h, hlen, prsC, prs_get, List.getElem?_eq_getElem hkn, Option.map_some, Option.some.injEq, Nat.zero_add]
  rw [List.getElem?_eq_getElem hkn, Option.getD_some] at hy
  rw [pre_take h, hk] at hpl
  rw [hpl, hy]
  exact ⟨fun h => h.symm, fun h => h.symm⟩
theorem sizes_append (a b : List Int) : sizes (a ++ b) = sizes a + sizes b := by simp [sizes]
theorem sizes_pre {pre : List Ch} {bs : List Int} (h : pre.map (·.1) <+: prsC bs) : sizes (pre.map (·.1.2)) ≤ bs.length := by
  have h1 := chkC_le bs
  have h2 : chkC bs = sizes ((runesC bs).take pre.length) + sizes ((runesC bs).drop pre.length) := by
    rw [← sizes_append, List.take_append_drop]; rfl
  rw [pre_take h]
  omega
theorem runes_get {bs : List Int} {k : Nat} {y : Int} (hy : (runesC bs)[k]?.getD 0 = y) (hk : k < (runesC bs).length) : isC y = true := by
  rw [List.getElem?_eq_getElem hk, Option.getD_some] at hy
  rw [← hy]
  exact List.all_eq_true.1 (runes_all bs) _ (List.getElem_mem hk)
/-- The end of a round: the two counters have gone on. -/
theorem checks_round (B : Nat) {W w' w5 : World} {bs : List Int} {pre : List Ch} {x : Ch} {k p : Nat} {r : Int} (hk : pre.length = k) (hx : x.1.2 = r) (hpl : sizes (pre.map (·.1.2)) = p) (hb2 : Below W.drew.heap.size W.drew w')
    (hbn : Boxed W w5.heap.size 3 (.int .i64 (k : Nat))) (hbp : Boxed W (w5.heap.size + 1) 3 (.int .i64 (p : Nat))) (hB : Below w5.heap.size w5 W) (hpre : (pre ++ [x]).map (·.1) <+: prsC bs) :
    KeepsFrom B W ((w'.setCell ⟨w5.heap.size + 1, 0, none⟩ (.int .i64 ((p : Int) + ((encC r).length : Nat)))).setCell ⟨w5.heap.size, 0, none⟩ (.int .i64 ((k : Int) + 1))) ∧
    Below w5.heap.size W ((w'.setCell ⟨w5.heap.size + 1, 0, none⟩ (.int .i64 ((p : Int) + ((encC r).length : Nat)))).setCell ⟨w5.heap.size, 0, none⟩ (.int .i64 ((k : Int) + 1))) ∧
    ((Boxed ((w'.setCell ⟨w5.heap.size + 1, 0, none⟩ (.int .i64 ((p : Int) + ((encC r).length : Nat)))).setCell ⟨w5.heap.size, 0, none⟩ (.int .i64 ((k : Int) + 1))) w5.heap.size 3 (.int .i64 ((pre ++ [x]).length : Nat)) ∧
      Boxed ((w'.setCell ⟨w5.heap.size + 1, 0, none⟩ (.int .i64 ((p : Int) + ((encC r).length : Nat)))).setCell ⟨w5.heap.size, 0, none⟩ (.int .i64 ((k : Int) + 1))) (w5.heap.size + 1) 3 (.int .i64 (sizes ((pre ++ [x]).map (·.1.2)) : Nat))) ∧ Hid ((pre ++ [x]).map (·.1) <+: prsC bs)) ∧
    Below w5.heap.size w5 ((w'.setCell ⟨w5.heap.size + 1, 0, none⟩ (.int .i64 ((p : Int) + ((encC r).length : Nat)))).setCell ⟨w5.heap.size, 0, none⟩ (.int .i64 ((k : Int) + 1))) := by
  have hko : KeepsOthers W w' := ⟨hb2.size, fun i _ hi _ => (hb2.block i (Array.getElem?_eq_some_iff.1 hi).1).trans hi⟩
  have hbw : Below w5.heap.size W w' := (Below.refl _ W).drew.trans (hb2.mono hB.size)
  have b1 : Boxed w' w5.heap.size 3 (.int .i64 (k : Nat)) := (hb2.block _ hbn.lt).trans hbn
  have b2 : Boxed w' (w5.heap.size + 1) 3 (.int .i64 (p : Nat)) := (hb2.block _ hbp.lt).trans hbp
  have e1 : ((((pre ++ [x]).length : Nat)) : Int) = (k : Int) + 1 := by simp [hk]
  have e2 : ((sizes ((pre ++ [x]).map (·.1.2)) : Nat) : Int) = (p : Int) + ((encC r).length : Nat) := by
    rw [List.map_append, sizes_append, hpl, encC_len]
    simp [sizes, hx]
  have hs := ((Below.refl w5.heap.size w').setCell (p := ⟨w5.heap.size + 1, 0, none⟩) (by simp) (.int .i64 ((p : Int) + ((encC r).length : Nat)))).setCell (p := ⟨w5.heap.size, 0, none⟩) (Nat.le_refl _) (.int .i64 ((k : Int) + 1))
  refine ⟨((hko.trans (KeepsOthers.setCell _ _ _)).trans (KeepsOthers.setCell _ _ _)).from _, hbw.trans hs, ⟨⟨?_, ?_⟩, hpre⟩, hB.trans (hbw.trans hs)⟩
  · rw [e1]
    exact Boxed.set _ (b1.other (by omega) _)
  · rw [e2]
    exact (Boxed.set _ b2).other (by omega) _

theorem func_nil (p : Value) (w : World) : (binOp .eql 38 (.func (.func 22) #[] #[p]) .nilFunc).run Tryd.prog w = .ok (.bool false) w := by kernel_rfl
theorem owned_ints {w : World} {base n : Nat} {v : Value} {zs : List Int} (h : w.ownsRow base 3 1 v n (zs.map (Value.int .i64))) : ∃ a cap, v = .slice a n cap ∧ (0 < n → ∃ g, a = some ⟨g, 0, none⟩ ∧ ∀ i, i < n → w.cell? ⟨g, i, none⟩ = some (.int .i64 (zs[i]?.getD 0))) := by
  obtain ⟨hlen, h2⟩ := h
  have hl : zs.length = n := by simpa using hlen
  rcases h2 with ⟨rfl, rfl⟩ | ⟨g, cap, cur, rfl, _, hh, hc, _, _, ht⟩
  · exact ⟨none, 0, rfl, fun h => absurd h (by omega)⟩
  · refine ⟨_, cap, rfl, fun _ => ⟨g, rfl, fun i hi => ?_⟩⟩
    rw [cell_of_row w g i cur 3 (0, 0) hh]
    have h3 : (cur.toList.take (n * 1))[i]? = (zs.map (Value.int .i64))[i]? := by rw [ht]
    rw [List.getElem?_take_of_lt (by omega), List.getElem?_map] at h3
    rw [← Array.getElem?_toList, h3, List.getElem?_eq_getElem (by omega)]
    rfl

set_option maxRecDepth 100000 in
set_option maxHeartbeats 2000000 in
theorem checks_far (b : Option Addr) (lb cb : Nat) (w : World) (hl : Lay w) (h : 200 < lb) : Calls Tryd.prog 4 #[.slice b lb cb] w fun e w' => e = .returned (.bool true) ∧ Below w.heap.size w w' := by
  have HL := Lib.hid hl
  clear hl
  refine (callsIn_wide (n := 3)).1 ?_
  refine callsIn_of_wp_marks Tryd.func4 rfl trivial ?_ rfl
  simp only [Tryd.ntmps4, List.size_toArray, List.length_cons, List.length_nil, Nat.reduceAdd, Nat.reduceSub, Array.replicate_succ, Array.replicate_zero, List.push_toArray, List.append_toArray, List.nil_append, List.cons_append]
  gi_wp2_with fail
  have hR := Boxed.new w 4 (.bool false)
  have hb0 : Below w.heap.size w (w.alloc (.cells #[.bool false] 4)) := al (Below.refl _ _) (Nat.le_refl _) _
  refine ⟨trivial, (callsIn_wide.2 (awake_any _ (HL.out.below hb0 HL.out.size))).mono ?_⟩
  rintro e w1 ⟨rfl, hb1⟩
  have hR1 : Boxed w1 w.heap.size 4 (.bool false) := (hb1.block _ hR.lt).trans hR
  have hc1 := hR1.cell
  have hf1 := hR1.frozen
  have HR1 := Lib.hid hR1
  have HB1 := Lib.hid (th hb0 (Nat.le_refl _) hb1)
  clear hR hb0 hR1 hb1
  gi_wp2
  exact leave0 rfl Tryd.underlying4 rfl (HR1.out.set _) (HB1.out.setCell (p := ⟨w.heap.size, 0, none⟩) (by simp) _)

set_option maxRecDepth 100000 in
set_option maxHeartbeats 4000000 in
theorem checks_near (b : Option Addr) (lb cb : Nat) (bs : List Int) (w : World) (hl : Lay w) (hb : Byt w b lb cb bs) (h2 : lb ≤ 200) :
    Calls Tryd.prog 4 #[.slice b lb cb] w fun e w' => e = .returned (.bool true) ∧ Below w.heap.size w w' := by
  have HL := Lib.hid hl
  have HBY := Lib.hid hb
  clear hl hb
  refine (callsIn_wide (n := 5)).1 ?_
  refine callsIn_of_wp_marks Tryd.func4 rfl trivial ?_ rfl
  simp only [Tryd.ntmps4, List.size_toArray, List.length_cons, List.length_nil, Nat.reduceAdd, Nat.reduceSub, Array.replicate_succ, Array.replicate_zero, List.push_toArray, List.append_toArray, List.nil_append, List.cons_append]
  gi_wp2_with fail
  have hR0 := Boxed.new w 4 (.bool false)
  have hb0 : Below w.heap.size w (w.alloc (.cells #[.bool false] 4)) := al (Below.refl _ _) (Nat.le_refl _) _
  refine ⟨trivial, (callsIn_wide.2 (refAll_any b lb cb bs _ (HBY.out.below hb0 (Nat.le_refl _)) (by omega))).mono ?_⟩
  rintro e w1 ⟨v1, rfl, hown1, hb1⟩
  obtain ⟨a1, c1, rfl, hrd⟩ := owned_ints hown1
  have HB1 := Lib.hid (th hb0 (Nat.le_refl _) hb1)
  have HR1 := Lib.hid (show Boxed w1 w.heap.size 4 (.bool false) from (hb1.block _ hR0.lt).trans hR0)
  have HRD := Lib.hid hrd
  clear hR0 hb0 hb1 hown1 hrd
  gi_wp2_with fail
  have hbW : Below w1.heap.size w1 (w1.alloc (.cells #[.slice a1 (runesC bs).length c1] 32)) := (Below.refl _ _).alloc (Nat.le_refl _) _
  have hW2 := Boxed.new w1 32 (.slice a1 (runesC bs).length c1)
  have hB2 := HB1.out.trans (hbW.mono HB1.out.size)
  refine ⟨trivial, (callsIn_wide.2 (check_any b lb cb bs _ (HL.out.below hB2 HL.out.size) (HBY.out.below hB2 (Nat.le_refl _)))).mono ?_⟩
  rintro e w3 ⟨rfl, hb3⟩
  have HB3 := Lib.hid (th hB2 (Nat.le_refl _) hb3)
  have HB13 := Lib.hid (th hbW (Nat.le_refl _) hb3)
  have HW3 := Lib.hid (show Boxed w3 w1.heap.size 32 _ from (hb3.block _ hW2.lt).trans hW2)
  have HR3 := Lib.hid (show Boxed w3 w.heap.size 4 _ from (HB13.out.block _ HR1.out.lt).trans HR1.out)
  clear hbW hW2 hB2 hb3
  gi_wp2_with fail
  refine ⟨trivial, (callsIn_wide.2 (all_any b lb cb bs _ (HBY.out.below HB3.out (Nat.le_refl _)))).mono ?_⟩
  rintro e w5 ⟨g5, a5, c5, rfl, _, hcg5, hby5, hb5⟩
  have HY5 := Lib.hid hby5
  have HCG5 := Lib.hid hcg5
  have HB5 := Lib.hid (th HB3.out (Nat.le_refl _) hb5)
  have HB15 := Lib.hid (HB13.out.trans (hb5.mono HB13.out.size))
  have HR5 := Lib.hid (show Boxed w5 _ _ _ from (hb5.block _ HR3.out.lt).trans HR3.out)
  have HW5 := Lib.hid (show Boxed w5 _ _ _ from (hb5.block _ HW3.out.lt).trans HW3.out)
  have HGL5 := Lib.hid (show g5 < w5.heap.size by simpa using block_lt_of_cell hcg5)
  have hfn5 := fun wx : World => func_nil (.pointer (some ⟨g5, 0, none⟩)) wx
  have hbl := HBY.out.eqLen
  have hce : chkE bs = if chkC bs < lb then 10 else 0 := by unfold chkE; rw [hbl]
  have hcl := chkC_le bs
  have HCL := Lib.hid hcl
  obtain ⟨cc, hcc⟩ : ∃ cc, chkC bs = cc := ⟨_, rfl⟩
  have HCC := Lib.hid hcc
  rw [hcc] at hcl hce ⊢
  rw [hbl] at hcl
  have hself : ((cc : Int) != cc) = false := by simp
  clear hby5 hcg5 hb5 hcc hbl
  by_cases hlt : cc < lb
  · have hq : chkE bs = 10 := by rw [hce, if_pos hlt]
    have hql : ((cc : Int) == lb) = false := by rw [beq_eq_false_iff_ne]; omega
    rw [hq]
    clear hce hq
    gi_wp2_with fail
    have hn5 : 2 ≤ w5.heap.size := (HL.out.below HB5.out HL.out.size).size
    have hbA : Below w5.heap.size w5 ((w5.alloc (.cells #[.int .i64 0] 3)).alloc (.cells #[.int .i64 0] 3)) := al (al (Below.refl _ _) (Nat.le_refl _) _) (Nat.le_refl _) _
    have hseq := all_stops (5 - 1) g5 w5.heap.size a5 lb c5 bs ((w5.alloc (.cells #[.int .i64 0] 3)).alloc (.cells #[.int .i64 0] 3)) ((HL.out.below HB5.out HL.out.size).below hbA hn5) hn5 (by simp; omega) HGL5.out
      ((hbA.cell (p := ⟨g5, 0, none⟩) HGL5.out).trans HCG5.out) (HY5.out.below hbA (Nat.le_refl _)) (fun b off h0 e => by
        obtain ⟨b', off', e', hc⟩ := HY5.out.cells h0
        rw [e] at e'
        cases e'
        simpa using block_lt_of_cell (hc 0 h0))
    have bP := Boxed.new (w5.alloc (.cells #[.int .i64 0] 3)) 3 (.int .i64 0)
    rw [World.size_alloc] at bP
    refine wpIn_rangeFunc_ownG rfl (by omega) (gf := 22) (lb := #[.pointer (some ⟨g5, 0, none⟩)]) rfl trivial (enters_of Tryd.func22 (by kernel_rfl) rfl) hseq belowK_t (belowK_b (by simp; omega)) (Below.refl _ _) (fun _ => rfl)
      (fun pre W => ((Boxed W w5.heap.size 3 (.int .i64 (pre.length : Nat)) ∧ Boxed W (w5.heap.size + 1) 3 (.int .i64 (sizes (pre.map (·.1.2)) : Nat))) ∧ Hid (pre.map (·.1) <+: prsC bs)) ∧ Below w5.heap.size w5 W)
      (fun _ pre _ => ¬ (pre.map (·.1) <+: prsC bs))
      (OwnFrom.and (Own.from (fun s A B row hs hg hr => ⟨⟨boxed_own w5.heap.size 3 (fun _ : Unit => _) () A B row hs.1.1 hg hr, boxed_own (w5.heap.size + 1) 3 (fun _ : Unit => _) () A B row hs.1.2 hg hr⟩, hs.2⟩) _) (ownFrom_below (Nat.le_refl _) (by simp; omega)))
      (fun _ => ownFrom_pure _ _)
      ⟨⟨⟨(Boxed.new w5 3 _).alloc _, bP⟩, by unfold Hid; simp⟩, hbA⟩
      ?aA ?assignA ?bodyA ?doneA ?stopA
    case assignA =>
      intro l x W K hK
      gi_wp2
      exact hK
    case bodyA =>
      rintro l pre x W ⟨⟨⟨hbn, hbp⟩, hpre⟩, hB⟩ hlen
      have hkn : pre.length < (runesC bs).length := by rw [prsC, prs_len] at hlen; exact hlen
      obtain ⟨k, hk⟩ : ∃ k, pre.length = k := ⟨_, rfl⟩
      obtain ⟨y, hy⟩ : ∃ y, (runesC bs)[k]?.getD 0 = y := ⟨_, rfl⟩
      obtain ⟨pl, hpl⟩ : ∃ pl, sizes (pre.map (·.1.2)) = pl := ⟨_, rfl⟩
      have hsn := chk_snoc (x := x) hpre.out hk (by rw [hk] at hkn; exact hkn) hy hpl
      have hplb := sizes_pre hpre.out
      rw [hpl] at hplb hbp
      rw [hk] at hkn hbn
      have hbl := HBY.out.eqLen
      have hpl2 : pl ≤ 200 := by omega
      have hk2 : k ≤ 200 := by have := runes_len' bs; omega
      obtain ⟨gw, hgw, hcw⟩ := HRD.out (by omega)
      subst hgw
      have hcy1 := hcw k hkn
      rw [hy] at hcy1
      have hcy : W.cell? ⟨gw, k, none⟩ = some (.int .i64 y) := ((HB15.out.trans (hB.mono HB15.out.size)).cell (p := ⟨gw, k, none⟩) (by simpa using block_lt_of_cell hcy1)).trans hcy1
      have hwW : Boxed W w1.heap.size 32 _ := (hB.block _ HW5.out.lt).trans HW5.out
      have hrW : Boxed W w.heap.size 4 _ := (hB.block _ HR5.out.lt).trans HR5.out
      have k1 := hbn.cell
      have k2 := hbn.frozen
      have k3 := hbp.cell
      have k4 := hbp.frozen
      have k5 := hwW.cell
      have k6 := hrW.cell
      have k7 := hrW.frozen
      have HYC := Lib.hid (runes_get hy hkn)
      have HSN := Lib.hid hsn
      have HBN := Lib.hid hbn
      have HBP := Lib.hid hbp
      have HWW := Lib.hid hwW
      have HBW := Lib.hid hB
      have HK := Lib.hid hk
      have HPL := Lib.hid hpl
      clear hsn hk hpl hy hbn hbp hwW hrW hB hlen hcw hcy1 hplb hbl hpre
      obtain ⟨⟨p, r⟩, hp, hr⟩ := x
      have hrb := isC_bounds hr
      by_cases hry : r = y
      · subst hry
        have hne : (r != r) = false := by simp
        by_cases hpp : p = pl
        · subst hpp
          have hne2 : ((p : Int) != p) = false := by simp
          have hm4 : (encC r).length ≤ 4 := by rw [encC_len]; unfold sizeC; repeat' split
                                               all_goals omega
          have hmx : Tryd.prog.follows .mixedOrders = true := by kernel_rfl
          have hlb : w5.heap.size < W.heap.size := HBN.out.lt
          have hlp : w5.heap.size + 1 < W.heap.size := HBP.out.lt
          gi_wp2_with fail
          gi_region_with_o ((try refine ⟨trivial, ?_⟩); gi_at_call 10; refine (CallsIn.inRound l (callsIn_wide.2 (refBytes_any r _ hr))).mono ?_; rintro e w' ⟨g, rfl, _, hb2⟩; have q1 := (hb2.cell (p := ⟨w5.heap.size, 0, none⟩) hlb).trans k1; have q2 := (hb2.frozen (p := ⟨w5.heap.size, 0, none⟩) hlb).trans k2; have q3 := (hb2.cell (p := ⟨w5.heap.size + 1, 0, none⟩) hlp).trans k3; have q4 := (hb2.frozen (p := ⟨w5.heap.size + 1, 0, none⟩) hlp).trans k4)
          all_goals gi_wp2
          all_goals exact checks_round _ HK.out rfl HPL.out hb2 HBN.out HBP.out HBW.out (by first | exact HSN.out.2 rfl | exact HSN.out.2 trivial)
        · have hne2 : ((p : Int) != pl) = true := by rw [bne_iff_ne]; omega
          have HPP := Lib.hid hpp
          clear hpp
          gi_wp2
          exact ⟨(KeepsOthers.setCell _ _ _).from _, fun h => HPP.out (congrArg Prod.fst (HSN.out.1 h))⟩
      · have hne : (r != y) = true := by rw [bne_iff_ne]; exact hry
        have HRY := Lib.hid hry
        clear hry
        gi_wp2
        exact ⟨(KeepsOthers.setCell _ _ _).from _, fun h => HRY.out (congrArg Prod.snd (HSN.out.1 h))⟩
    case doneA =>
      rintro D ys W hD hys ⟨⟨⟨hbn, hbp⟩, hpre⟩, hB⟩ hK
      have hyl : ys.length = (runesC bs).length := by
        have h1 := congrArg List.length hys
        rw [List.length_map, prsC, prs_len] at h1
        exact h1
      rw [hyl] at hbn
      have hwW : Boxed W w1.heap.size 32 _ := (hB.block _ HW5.out.lt).trans HW5.out
      have hrW : Boxed W w.heap.size 4 _ := (hB.block _ HR5.out.lt).trans HR5.out
      have k1 := hbn.cell
      have k5 := hwW.cell
      have HRW := Lib.hid hrW
      have HBW := Lib.hid (HB5.out.trans (hB.mono HB5.out.size))
      have HKD := Lib.hid hK
      have HDn := Lib.hid (show w.heap.size ≤ D by have := HB5.out.size; simp only [World.size_alloc] at hD; omega)
      have hll : (((runesC bs).length : Int) == (runesC bs).length) = true := by simp
      clear hys hyl hbn hbp hpre hB hK hwW hrW hD
      gi_wp2_with fail
      refine ⟨trivial, (callsIn_wide.2 (awake_any _ (HL.out.below HBW.out HL.out.size))).mono ?_⟩
      rintro e wx ⟨rfl, hbx⟩
      have hrx := (show Boxed wx _ _ _ from (hbx.block _ HRW.out.lt).trans HRW.out)
      have hcx := hrx.cell
      have hfx := hrx.frozen
      have HRX := Lib.hid hrx
      have HKDX := Lib.hid ((hbx.block D (Array.getElem?_eq_some_iff.1 HKD.out).1).trans HKD.out)
      have HBX := Lib.hid (th HBW.out (Nat.le_refl _) hbx)
      clear hrx hbx
      gi_wp2
      exact leave1 rfl Tryd.underlying4 rfl (HRX.out.set _) (HBX.out.setCell (p := ⟨w.heap.size, 0, none⟩) (by simp) _) ((KeepsOthers.setCell wx _ _).same D _ HKDX.out rfl) HDn.out
    case stopA =>
      rintro D c pre W hD hpre hx hK
      exact absurd hpre hx
  · have hq : chkE bs = 0 := by rw [hce, if_neg hlt]
    have hql : ((cc : Int) == lb) = true := by rw [beq_iff_eq]; omega
    rw [hq]
    clear hce hq
    gi_wp2_with fail
    have hn5 : 2 ≤ w5.heap.size := (HL.out.below HB5.out HL.out.size).size
    have hbA : Below w5.heap.size w5 ((w5.alloc (.cells #[.int .i64 0] 3)).alloc (.cells #[.int .i64 0] 3)) := al (al (Below.refl _ _) (Nat.le_refl _) _) (Nat.le_refl _) _
    have hseq := all_stops (5 - 1) g5 w5.heap.size a5 lb c5 bs ((w5.alloc (.cells #[.int .i64 0] 3)).alloc (.cells #[.int .i64 0] 3)) ((HL.out.below HB5.out HL.out.size).below hbA hn5) hn5 (by simp; omega) HGL5.out
      ((hbA.cell (p := ⟨g5, 0, none⟩) HGL5.out).trans HCG5.out) (HY5.out.below hbA (Nat.le_refl _)) (fun b off h0 e => by
        obtain ⟨b', off', e', hc⟩ := HY5.out.cells h0
        rw [e] at e'
        cases e'
        simpa using block_lt_of_cell (hc 0 h0))
    have bP := Boxed.new (w5.alloc (.cells #[.int .i64 0] 3)) 3 (.int .i64 0)
    rw [World.size_alloc] at bP
    refine wpIn_rangeFunc_ownG rfl (by omega) (gf := 22) (lb := #[.pointer (some ⟨g5, 0, none⟩)]) rfl trivial (enters_of Tryd.func22 (by kernel_rfl) rfl) hseq belowK_t (belowK_b (by simp; omega)) (Below.refl _ _) (fun _ => rfl)
      (fun pre W => ((Boxed W w5.heap.size 3 (.int .i64 (pre.length : Nat)) ∧ Boxed W (w5.heap.size + 1) 3 (.int .i64 (sizes (pre.map (·.1.2)) : Nat))) ∧ Hid (pre.map (·.1) <+: prsC bs)) ∧ Below w5.heap.size w5 W)
      (fun _ pre _ => ¬ (pre.map (·.1) <+: prsC bs))
      (OwnFrom.and (Own.from (fun s A B row hs hg hr => ⟨⟨boxed_own w5.heap.size 3 (fun _ : Unit => _) () A B row hs.1.1 hg hr, boxed_own (w5.heap.size + 1) 3 (fun _ : Unit => _) () A B row hs.1.2 hg hr⟩, hs.2⟩) _) (ownFrom_below (Nat.le_refl _) (by simp; omega)))
      (fun _ => ownFrom_pure _ _)
      ⟨⟨⟨(Boxed.new w5 3 _).alloc _, bP⟩, by unfold Hid; simp⟩, hbA⟩
      ?aB ?assignB ?bodyB ?doneB ?stopB
    case assignB =>
      intro l x W K hK
      gi_wp2
      exact hK
    case bodyB =>
      rintro l pre x W ⟨⟨⟨hbn, hbp⟩, hpre⟩, hB⟩ hlen
      have hkn : pre.length < (runesC bs).length := by rw [prsC, prs_len] at hlen; exact hlen
      obtain ⟨k, hk⟩ : ∃ k, pre.length = k := ⟨_, rfl⟩
      obtain ⟨y, hy⟩ : ∃ y, (runesC bs)[k]?.getD 0 = y := ⟨_, rfl⟩
      obtain ⟨pl, hpl⟩ : ∃ pl, sizes (pre.map (·.1.2)) = pl := ⟨_, rfl⟩
      have hsn := chk_snoc (x := x) hpre.out hk (by rw [hk] at hkn; exact hkn) hy hpl
      have hplb := sizes_pre hpre.out
      rw [hpl] at hplb hbp
      rw [hk] at hkn hbn
      have hbl := HBY.out.eqLen
      have hpl2 : pl ≤ 200 := by omega
      have hk2 : k ≤ 200 := by have := runes_len' bs; omega
      obtain ⟨gw, hgw, hcw⟩ := HRD.out (by omega)
      subst hgw
      have hcy1 := hcw k hkn
      rw [hy] at hcy1
      have hcy : W.cell? ⟨gw, k, none⟩ = some (.int .i64 y) := ((HB15.out.trans (hB.mono HB15.out.size)).cell (p := ⟨gw, k, none⟩) (by simpa using block_lt_of_cell hcy1)).trans hcy1
      have hwW : Boxed W w1.heap.size 32 _ := (hB.block _ HW5.out.lt).trans HW5.out
      have hrW : Boxed W w.heap.size 4 _ := (hB.block _ HR5.out.lt).trans HR5.out
      have k1 := hbn.cell
      have k2 := hbn.frozen
      have k3 := hbp.cell
      have k4 := hbp.frozen
      have k5 := hwW.cell
      have k6 := hrW.cell
      have k7 := hrW.frozen
      have HYC := Lib.hid (runes_get hy hkn)
      have HSN := Lib.hid hsn
      have HBN := Lib.hid hbn
      have HBP := Lib.hid hbp
      have HWW := Lib.hid hwW
      have HBW := Lib.hid hB
      have HK := Lib.hid hk
      have HPL := Lib.hid hpl
      clear hsn hk hpl hy hbn hbp hwW hrW hB hlen hcw hcy1 hplb hbl hpre
      obtain ⟨⟨p, r⟩, hp, hr⟩ := x
      have hrb := isC_bounds hr
      by_cases hry : r = y
      · subst hry
        have hne : (r != r) = false := by simp
        by_cases hpp : p = pl
        · subst hpp
          have hne2 : ((p : Int) != p) = false := by simp
          have hm4 : (encC r).length ≤ 4 := by rw [encC_len]; unfold sizeC; repeat' split
                                               all_goals omega
          have hmx : Tryd.prog.follows .mixedOrders = true := by kernel_rfl
          have hlb : w5.heap.size < W.heap.size := HBN.out.lt
          have hlp : w5.heap.size + 1 < W.heap.size := HBP.out.lt
          gi_wp2_with fail
          gi_region_with_o ((try refine ⟨trivial, ?_⟩); gi_at_call 10; refine (CallsIn.inRound l (callsIn_wide.2 (refBytes_any r _ hr))).mono ?_; rintro e w' ⟨g, rfl, _, hb2⟩; have q1 := (hb2.cell (p := ⟨w5.heap.size, 0, none⟩) hlb).trans k1; have q2 := (hb2.frozen (p := ⟨w5.heap.size, 0, none⟩) hlb).trans k2; have q3 := (hb2.cell (p := ⟨w5.heap.size + 1, 0, none⟩) hlp).trans k3; have q4 := (hb2.frozen (p := ⟨w5.heap.size + 1, 0, none⟩) hlp).trans k4)
          all_goals gi_wp2
          all_goals exact checks_round _ HK.out rfl HPL.out hb2 HBN.out HBP.out HBW.out (by first | exact HSN.out.2 rfl | exact HSN.out.2 trivial)
        · have hne2 : ((p : Int) != pl) = true := by rw [bne_iff_ne]; omega
          have HPP := Lib.hid hpp
          clear hpp
          gi_wp2
          exact ⟨(KeepsOthers.setCell _ _ _).from _, fun h => HPP.out (congrArg Prod.fst (HSN.out.1 h))⟩
      · have hne : (r != y) = true := by rw [bne_iff_ne]; exact hry
        have HRY := Lib.hid hry
        clear hry
        gi_wp2
        exact ⟨(KeepsOthers.setCell _ _ _).from _, fun h => HRY.out (congrArg Prod.snd (HSN.out.1 h))⟩
    case doneB =>
      rintro D ys W hD hys ⟨⟨⟨hbn, hbp⟩, hpre⟩, hB⟩ hK
      have hyl : ys.length = (runesC bs).length := by
        have h1 := congrArg List.length hys
        rw [List.length_map, prsC, prs_len] at h1
        exact h1
      rw [hyl] at hbn
      have hwW : Boxed W w1.heap.size 32 _ := (hB.block _ HW5.out.lt).trans HW5.out
      have hrW : Boxed W w.heap.size 4 _ := (hB.block _ HR5.out.lt).trans HR5.out
      have k1 := hbn.cell
      have k5 := hwW.cell
      have HRW := Lib.hid hrW
      have HBW := Lib.hid (HB5.out.trans (hB.mono HB5.out.size))
      have HKD := Lib.hid hK
      have HDn := Lib.hid (show w.heap.size ≤ D by have := HB5.out.size; simp only [World.size_alloc] at hD; omega)
      have hll : (((runesC bs).length : Int) == (runesC bs).length) = true := by simp
      clear hys hyl hbn hbp hpre hB hK hwW hrW hD
      gi_wp2_with fail
      refine ⟨trivial, (callsIn_wide.2 (awake_any _ (HL.out.below HBW.out HL.out.size))).mono ?_⟩
      rintro e wx ⟨rfl, hbx⟩
      have hrx := (show Boxed wx _ _ _ from (hbx.block _ HRW.out.lt).trans HRW.out)
      have hcx := hrx.cell
      have hfx := hrx.frozen
      have HRX := Lib.hid hrx
      have HKDX := Lib.hid ((hbx.block D (Array.getElem?_eq_some_iff.1 HKD.out).1).trans HKD.out)
      have HBX := Lib.hid (th HBW.out (Nat.le_refl _) hbx)
      clear hrx hbx
      gi_wp2
      exact leave1 rfl Tryd.underlying4 rfl (HRX.out.set _) (HBX.out.setCell (p := ⟨w.heap.size, 0, none⟩) (by simp) _) ((KeepsOthers.setCell wx _ _).same D _ HKDX.out rfl) HDn.out
    case stopB =>
      rintro D c pre W hD hpre hx hK
      exact absurd hpre hx
end Go.Proofs.YtomlmpcjbdkobaaDoor.U
