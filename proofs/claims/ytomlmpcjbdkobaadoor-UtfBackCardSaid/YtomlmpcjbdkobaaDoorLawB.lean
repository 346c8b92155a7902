/- The walk of the law UtfBack. -/
import Derived.Test.YtomlmpcjbdkobaaDoorAll
import Derived.Test.YtomlmpcjbdkobaaDoorBack
import Derived.Test.YtomlmpcjbdkobaaDoorOpen
import Derived.Test.YtomlmpcjbdkobaaDoorLeave
namespace Go.Proofs.YtomlmpcjbdkobaaDoor.U
open Go.RowKit Go.Shelf
attribute [local go_sem] Oper.semAt_some

theorem pre_snoc {l zs : List Int} {r : Int} (h : l <+: zs) : (l ++ [r] <+: zs) ↔ (l.length < zs.length ∧ zs[l.length]?.getD 0 = r) := by
  obtain ⟨t, rfl⟩ := h
  cases t with
  | nil =>
    constructor
    · intro h
      have h2 := h.length_le
      simp only [List.append_nil, List.length_append, List.length_cons, List.length_nil] at h2
      omega
    · rintro ⟨h, _⟩
      simp at h
  | cons c t =>
    simp only [List.prefix_append_right_inj, List.length_append, List.length_cons]
    constructor
    · intro h
      have := List.cons_prefix_cons.1 h
      exact ⟨by omega, by simp [this.1]⟩
    · rintro ⟨_, h⟩
      simp at h
      subst h
      exact ⟨t, rfl⟩
theorem keeps_of_below {w w' : World} (h : Below w.heap.size w w') : KeepsOthers w w' :=
  ⟨h.size, fun k _ hk _ => (h.block k (Array.getElem?_eq_some_iff.1 hk).1).trans hk⟩

theorem runes_encs' {zs : List Int} (h : zs.all isC = true) : runesC (encs zs) = zs := runes_encs h

theorem info21 : (Tryd.prog.info? 21).map (fun i => (i.zero, i.size, i.bytes)) = some (some (.int .i32 0), 1, 4) := by kernel_rfl
theorem runes_len (l : List Int) : (runesC l).length ≤ l.length := by
  obtain ⟨m, hm⟩ : ∃ m, l.length ≤ m := ⟨_, Nat.le_refl _⟩
  induction m generalizing l with
  | zero =>
    obtain rfl : l = [] := List.eq_nil_of_length_eq_zero (by omega)
    exact Nat.le_refl _
  | succ m ih =>
    cases h : decC l with
    | none => rw [runesC_none h]; simp
    | some x =>
      obtain ⟨r, n⟩ := x
      have hs := decC_some h
      rw [runesC_some h]
      have := ih (l.drop n) (by simp; omega)
      simp only [List.length_drop, List.length_cons] at this ⊢
      omega
theorem owned_reads {w : World} {base n : Nat} {v : Value} {zs : List Int} (h : w.ownsRow base 21 1 v n (zs.map (Value.int .i32))) : ∃ a cap, v = .slice a n cap ∧ Reads .i32 w a n zs := by
  obtain ⟨hlen, h2⟩ := h
  have hl : zs.length = n := by simpa using hlen
  rcases h2 with ⟨rfl, rfl⟩ | ⟨g, cap, cur, rfl, _, hh, hc, _, _, ht⟩
  · exact ⟨none, 0, rfl, hl, fun h => absurd h (by omega)⟩
  · refine ⟨_, cap, rfl, hl, fun _ => ⟨g, 0, rfl, fun i hi => ?_⟩⟩
    have e : (⟨g, 0 + i, none⟩ : Addr) = ⟨g, i, none⟩ := by simp
    rw [e, cell_of_row w g i cur 21 (0, 0) hh]
    have h3 : (cur.toList.take (n * 1))[i]? = (zs.map (Value.int .i32))[i]? := by rw [ht]
    rw [List.getElem?_take_of_lt (by omega), List.getElem?_map] at h3
    rw [← Array.getElem?_toList, h3, List.getElem?_eq_getElem (by omega)]
    simp [List.getElem?_eq_getElem (show i < zs.length by omega)]
theorem byt_take {w : World} {a : Option Addr} {len cap : Nat} {zs : List Int} (h : Byt w a len cap zs) {n : Nat} (hn : n ≤ len) : Byt w a n cap (zs.take n) := by
  refine ⟨by have := h.eqLen; simp; omega, Nat.le_trans hn h.leCap, Nat.le_trans hn h.lim, fun z hz => h.byte z (List.mem_of_mem_take hz), fun h0 => ?_⟩
  obtain ⟨b, off, ha, hc⟩ := h.cells (by omega)
  exact ⟨b, off, ha, fun i hi => by rw [hc i (by omega), List.getElem?_take_of_lt hi]⟩

/-- A box that holds a slice of the characters that have come. -/
def RowBox (nn : Nat) (pre : List Ch) (W : World) : Prop := ∃ v, Boxed W nn 22 v ∧ W.ownsRow nn 21 1 v pre.length ((pre.map (·.1.2)).map (Value.int .i32))
theorem rowBox_own (nn : Nat) : Own (RowBox nn) := by
  rintro s A B row ⟨v, hv, hr⟩ hg hrow
  obtain ⟨v', h1, h2, _⟩ := holdsRow_own nn nn 22 21 1 (fun pre : List Ch => pre.length) (fun pre => (pre.map (·.1.2)).map (Value.int .i32)) (fun _ _ => True) s A B row ⟨v, hv, hr, trivial⟩ hg hrow
  exact ⟨v', h1, h2⟩
theorem rowBox_snoc {W : World} {nn : Nat} {v : Value} {pre : List Ch} {x : Ch} (h : W.ownsRow nn 21 1 v (pre.length + 1) ((pre.map (·.1.2)).map (Value.int .i32) ++ [.int .i32 x.1.2])) :
    W.ownsRow nn 21 1 v (pre ++ [x]).length (((pre ++ [x]).map (·.1.2)).map (Value.int .i32)) := by
  simpa using h

theorem func_not_nil (p : Value) (w : World) : (binOp .eql 38 (.func (.func 22) #[] #[p]) .nilFunc).run Tryd.prog w = .ok (.bool false) w := by kernel_rfl

theorem Reads.below {k : IntKind} {w w' : World} {a : Option Addr} {len : Nat} {zs : List Int} {B : Nat} (h : Reads k w a len zs) (hb : Below B w w') (hB : w.heap.size ≤ B) : Reads k w' a len zs :=
  ⟨h.1, fun h0 => by
    obtain ⟨b, off, ha, hc⟩ := h.2 h0
    refine ⟨b, off, ha, fun i hi => ?_⟩
    have h1 := hc i hi
    have h2 : b < w.heap.size := by simpa using block_lt_of_cell h1
    exact (hb.cell (p := ⟨b, off + i, none⟩) (by simp; omega)).trans h1⟩

set_option maxRecDepth 100000 in
set_option maxHeartbeats 2000000 in
theorem back_far (a b : Option Addr) (la ca lb cb : Nat) (w : World) (hl : Lay w) (h : 100 < la ∨ 200 < lb) : Calls Tryd.prog 5 #[.slice a la ca, .slice b lb cb] w fun e w' => e = .returned (.bool true) ∧ Below w.heap.size w w' := by
  have HL := Lib.hid hl
  clear hl
  have hg : (100 < la) ∨ (¬ 100 < la ∧ 200 < lb) := by omega
  clear h
  rcases hg with h1 | ⟨h1, h2⟩
  · refine (callsIn_wide (n := 3)).1 ?_
    refine callsIn_of_wp_marks Tryd.func5 rfl trivial ?_ rfl
    simp only [Tryd.ntmps5, List.size_toArray, List.length_cons, List.length_nil, Nat.reduceAdd, Nat.reduceSub, Array.replicate_succ, Array.replicate_zero, List.push_toArray, List.append_toArray, List.nil_append, List.cons_append]
    gi_wp2_with fail
    have hR := (Boxed.new (w.alloc (.cells #[.slice a la ca] 22)) 4 (.bool false))
    have hb0 : Below w.heap.size w ((w.alloc (.cells #[.slice a la ca] 22)).alloc (.cells #[.bool false] 4)) := al (al (Below.refl _ _) (Nat.le_refl _) _) (Nat.le_refl _) _
    rw [World.size_alloc] at hR
    refine ⟨trivial, (callsIn_wide.2 (awake_any _ (HL.out.below hb0 HL.out.size))).mono ?_⟩
    rintro e w1 ⟨rfl, hb1⟩
    have hR1 : Boxed w1 (w.heap.size + 1) 4 (.bool false) := (hb1.block _ hR.lt).trans hR
    have hc1 := hR1.cell
    have hf1 := hR1.frozen
    have HR1 := Lib.hid hR1
    have HB1 := Lib.hid (th hb0 (Nat.le_refl _) hb1)
    clear hR hb0 hR1 hb1
    gi_wp2
    exact leave0 rfl Tryd.underlying4 rfl (HR1.out.set _) (HB1.out.setCell (p := ⟨w.heap.size + 1, 0, none⟩) (by simp) _)
  · have hd : decide ((100 : Int) < la) = false := by simp; omega
    refine (callsIn_wide (n := 3)).1 ?_
    refine callsIn_of_wp_marks Tryd.func5 rfl trivial ?_ rfl
    simp only [Tryd.ntmps5, List.size_toArray, List.length_cons, List.length_nil, Nat.reduceAdd, Nat.reduceSub, Array.replicate_succ, Array.replicate_zero, List.push_toArray, List.append_toArray, List.nil_append, List.cons_append]
    gi_wp2_with fail
    have hR := (Boxed.new (w.alloc (.cells #[.slice a la ca] 22)) 4 (.bool false))
    have hb0 : Below w.heap.size w ((w.alloc (.cells #[.slice a la ca] 22)).alloc (.cells #[.bool false] 4)) := al (al (Below.refl _ _) (Nat.le_refl _) _) (Nat.le_refl _) _
    rw [World.size_alloc] at hR
    refine ⟨trivial, (callsIn_wide.2 (awake_any _ (HL.out.below hb0 HL.out.size))).mono ?_⟩
    rintro e w1 ⟨rfl, hb1⟩
    have hR1 : Boxed w1 (w.heap.size + 1) 4 (.bool false) := (hb1.block _ hR.lt).trans hR
    have hc1 := hR1.cell
    have hf1 := hR1.frozen
    have HR1 := Lib.hid hR1
    have HB1 := Lib.hid (th hb0 (Nat.le_refl _) hb1)
    clear hR hb0 hR1 hb1
    gi_wp2
    exact leave0 rfl Tryd.underlying4 rfl (HR1.out.set _) (HB1.out.setCell (p := ⟨w.heap.size + 1, 0, none⟩) (by simp) _)

set_option maxRecDepth 100000 in
set_option maxHeartbeats 2000000 in
theorem back_near (a b : Option Addr) (la ca lb cb : Nat) (zs bs : List Int) (w : World) (hl : Lay w) (ha : Reads .i32 w a la zs) (hb : Byt w b lb cb bs) (h1 : la ≤ 100) (h2 : lb ≤ 200) (hbd : ∀ z ∈ zs, -2147483648 ≤ z ∧ z ≤ 2147483647) :
    Calls Tryd.prog 5 #[.slice a la ca, .slice b lb cb] w fun e w' => e = .returned (.bool true) ∧ Below w.heap.size w w' := by
  have HL := Lib.hid hl
  have HA := Lib.hid ha
  have HBY := Lib.hid hb
  have HBD := Lib.hid hbd
  have hd : decide ((100 : Int) < la) = false := by simp; omega
  have hd2 : decide ((200 : Int) < lb) = false := by simp; omega
  clear hl ha hb hbd
  refine (callsIn_wide (n := 5)).1 ?_
  refine callsIn_of_wp_marks Tryd.func5 rfl trivial ?_ rfl
  simp only [Tryd.ntmps5, List.size_toArray, List.length_cons, List.length_nil, Nat.reduceAdd, Nat.reduceSub, Array.replicate_succ, Array.replicate_zero, List.push_toArray, List.append_toArray, List.nil_append, List.cons_append]
  gi_wp2_with fail
  have hLx := Boxed.new w 22 (.slice a la ca)
  have hRx := Boxed.new (w.alloc (.cells #[.slice a la ca] 22)) 4 (.bool false)
  rw [World.size_alloc] at hRx
  have hLx2 := hLx.alloc (.cells #[.bool false] 4)
  have hb0 : Below w.heap.size w ((w.alloc (.cells #[.slice a la ca] 22)).alloc (.cells #[.bool false] 4)) := al (al (Below.refl _ _) (Nat.le_refl _) _) (Nat.le_refl _) _
  refine ⟨trivial, (callsIn_wide.2 (encode_any a la ca zs _ (HL.out.below hb0 HL.out.size) (HA.out.below hb0 (Nat.le_refl _)) (by omega))).mono ?_⟩
  rintro e w1 ⟨hb1, he⟩
  have hB1 := th hb0 (Nat.le_refl _) hb1
  have hL1 : Boxed w1 w.heap.size 22 (.slice a la ca) := (hb1.block _ hLx2.lt).trans hLx2
  have hR1 : Boxed w1 (w.heap.size + 1) 4 (.bool false) := (hb1.block _ hRx.lt).trans hRx
  clear hLx hRx hLx2 hb0 hb1
  have HB1 := Lib.hid hB1
  have HL1 := Lib.hid hL1
  have HR1 := Lib.hid hR1
  have hcl := hL1.cell
  clear hB1 hR1
  rcases he with ⟨hf, rfl⟩ | ⟨ht, v, rfl, hown⟩
  · clear hL1
    gi_wp2_with fail
    have HAB4 := Lib.hid (HBY.out.below HB1.out (Nat.le_refl _))
    refine ⟨trivial, (callsIn_wide.2 (all_any b lb cb bs _ HAB4.out)).mono ?_⟩
    rintro e w5 ⟨g5, a5, c5, rfl, _, hcg5, hby5, hb5⟩
    have HY5 := Lib.hid hby5
    have HCG5 := Lib.hid hcg5
    have HB5 := Lib.hid (th HB1.out (Nat.le_refl _) hb5)
    have HR5 := Lib.hid (show Boxed w5 _ _ _ from (hb5.block _ HR1.out.lt).trans HR1.out)
    have HGL5 := Lib.hid (show g5 < w5.heap.size by simpa using block_lt_of_cell hcg5)
    have hfn5 := fun wx : World => func_not_nil (.pointer (some ⟨g5, 0, none⟩)) wx
    clear hby5 hcg5 hb5
    gi_wp2_with fail
    have hn5 : 2 ≤ w5.heap.size := (HL.out.below HB5.out HL.out.size).size
    have hbA5 : Below w5.heap.size w5 (w5.alloc (.cells #[.slice none 0 0] 22)) := (Below.refl _ _).alloc (Nat.le_refl _) _
    have hseq5 := all_stops (5 - 1) g5 w5.heap.size a5 lb c5 bs (w5.alloc (.cells #[.slice none 0 0] 22)) ((HL.out.below HB5.out HL.out.size).below hbA5 hn5) hn5 (by simp) HGL5.out
      ((hbA5.cell (p := ⟨g5, 0, none⟩) HGL5.out).trans HCG5.out) (HY5.out.below hbA5 (Nat.le_refl _)) (fun b off h0 e => by
        obtain ⟨b', off', e', hc⟩ := HY5.out.cells h0
        rw [e] at e'
        cases e'
        simpa using block_lt_of_cell (hc 0 h0))
    refine wpIn_rangeFunc_ownG rfl (by omega) (gf := 22) (lb := #[.pointer (some ⟨g5, 0, none⟩)]) rfl trivial (enters_of Tryd.func22 (by kernel_rfl) rfl) hseq5 belowK_t (belowK_b (by simp)) (Below.refl _ _) (fun _ => rfl)
      (fun pre W => RowBox w5.heap.size pre W ∧ Below w5.heap.size w5 W)
      (fun _ _ _ => False)
      (OwnFrom.and (Own.from (rowBox_own w5.heap.size) _) (ownFrom_below (Nat.le_refl _) (by simp)))
      (fun _ _ _ _ _ hs _ _ => hs)
      ⟨⟨_, Boxed.new _ _ _, World.ownsRow_nil _ _ _ _⟩, hbA5⟩
      ?a3 ?assign3 ?body3 ?done3 ?stop3
    case assign3 =>
      intro l x W K hK
      gi_wp2
      exact hK
    case body3 =>
      rintro l pre x W ⟨⟨v, hv, hrow⟩, hB⟩ hlen
      have hpl : pre.length ≤ 1000 := by
        have h1 : (prsC bs).length ≤ bs.length := by rw [prsC, prs_len]; exact runes_len bs
        have h2 := HBY.out.eqLen
        omega
      have hcv := hv.cell
      have HROW := Lib.hid hrow
      have HV := Lib.hid hv
      have HB' := Lib.hid hB
      obtain ⟨i0, hi, hz0, hz1, hz2⟩ := info_parts info21
      clear hrow hlen hv hB
      gi_wp2_with (gi_at_builtin; refine wpListIn_append_own _ rfl _ _ 22 rfl w5.heap.size 21 i0 (.int .i32 0) 1 4 Tryd.underlying22 hi hz0 hz1 hz2 rfl (by decide) _ _ _ rfl (HROW.out.alloc _) ⟨W.heap.size, 0, none⟩ 1 1 [.int .i32 x.1.2] rfl rfl (cell_one_new _ _ _) (by simp [Value.oneCell']) (by unfold maxLen; omega) (by omega) (by have := HB'.out.size; simp; omega) ?_; intro v' w1' hown' hgrow' _; obtain ⟨g', cap', rfl⟩ := ownsRow_succ hown'; obtain ⟨hv1, hv2, hr2, hk2, hb2'⟩ := HV.out.appended (by decide) HROW.out HB'.out.size (Nat.le_refl _) hown' hgrow'; have hc1' := hv1.cell; have hf1' := hv1.frozen; have HV2 := Lib.hid hv2; have HR2' := Lib.hid hr2; have HK2 := Lib.hid hk2; have HB2' := Lib.hid hb2'; clear hown' hgrow' hv1 hv2 hr2 hk2 hb2')
      exact ⟨HK2.out.from _, HB2'.out, ⟨_, HV2.out, rowBox_snoc HR2'.out⟩, HB'.out.trans HB2'.out⟩
    case done3 =>
      rintro E ys W hE hys ⟨⟨v, hv, hrow⟩, hB⟩ hK
      have hmap : ys.map (·.1.2) = runesC bs := by
        have h1 := congrArg (List.map (·.2)) hys
        rw [prsC, prs_snd, List.map_map] at h1
        exact h1
      have hyl : ys.length = (runesC bs).length := by rw [← hmap]; simp
      rw [hmap, hyl] at hrow
      obtain ⟨am, cm, rfl, hrd⟩ := owned_reads hrow
      have HRD := Lib.hid hrd
      have hcm := hv.cell
      have HB6 := Lib.hid (HB5.out.trans (hB.mono HB5.out.size))
      have HR6 := Lib.hid (show Boxed W _ _ _ from (hB.block _ HR5.out.lt).trans HR5.out)
      have HKE6 := Lib.hid hK
      have HEn := Lib.hid hE
      have HRL := Lib.hid (show (runesC bs).length ≤ 1000 by have := runes_len bs; have h2 := HBY.out.eqLen; omega)
      clear hys hmap hyl hrow hrd hv hB hK hE
      gi_wp2_with fail
      refine ⟨trivial, (callsIn_wide.2 (encode_any am _ cm (runesC bs) _ (HL.out.below HB6.out HL.out.size) HRD.out HRL.out)).mono ?_⟩
      rintro e w7 ⟨hb7, he⟩
      rcases he with ⟨hf, _⟩ | ⟨_, vd, rfl, hown7⟩
      · rw [runes_all] at hf; cases hf
      have e7 : encs (runesC bs) = bs.take (chkC bs) := encs_runes bs
      have hel7 := encs_len (runesC bs)
      rw [e7] at hown7 hel7
      have hcl := chkC_le bs
      have hbl := HBY.out.eqLen
      have hlt7 : (bs.take (chkC bs)).length = chkC bs := by simp; omega
      rw [hlt7] at hown7
      obtain ⟨ad, cd, rfl, hbyd⟩ := owned_byt hown7 (fun z hz => HBY.out.byte z (List.mem_of_mem_take hz)) (by omega)
      have HYD := Lib.hid hbyd
      have HB7 := Lib.hid (th HB6.out (Nat.le_refl _) hb7)
      have HR7 := Lib.hid (show Boxed w7 _ _ _ from (hb7.block _ HR6.out.lt).trans HR6.out)
      have HKE7 := Lib.hid ((hb7.block E (Array.getElem?_eq_some_iff.1 HKE6.out).1).trans HKE6.out)
      clear hown7 hbyd hb7 hel7 e7 hlt7 hcm
      gi_wp2_with fail
      refine ⟨trivial, (callsIn_wide.2 (check_any b lb cb bs _ (HL.out.below HB7.out HL.out.size) (HBY.out.below HB7.out (Nat.le_refl _)))).mono ?_⟩
      rintro e w8 ⟨rfl, hb8⟩
      have HB8 := Lib.hid (th HB7.out (Nat.le_refl _) hb8)
      have HR8 := Lib.hid (show Boxed w8 _ _ _ from (hb8.block _ HR7.out.lt).trans HR7.out)
      have HKE8 := Lib.hid ((hb8.block E (Array.getElem?_eq_some_iff.1 HKE7.out).1).trans HKE7.out)
      have HYD8 := Lib.hid (HYD.out.below hb8 (Nat.le_refl _))
      have HYT8 := Lib.hid (byt_take (HBY.out.below HB8.out (Nat.le_refl _)) (by omega : chkC bs ≤ lb))
      clear hb8
      have hce : chkE bs = if chkC bs < lb then 10 else 0 := by unfold chkE; rw [hbl]
      obtain ⟨cc, hcc⟩ : ∃ cc, chkC bs = cc := ⟨_, rfl⟩
      have HCC := Lib.hid hcc
      rw [hcc] at hcl hce HYD8 HYT8 ⊢
      clear hcc
      rw [hbl] at hcl
      have hcz : (0 : Int) ≤ cc := by omega
      have hcz2 : (cc : Int) ≤ lb := by omega
      clear hbl
      have hcap := HBY.out.leCap
      have fin : ∀ q : Bool, True := fun _ => trivial
      clear fin
      by_cases hlt : cc < lb
      all_goals
        first
        | (have hq : chkE bs = 10 := (by rw [hce, if_pos hlt]); have hql : ((cc : Int) == lb) = false := by rw [beq_eq_false_iff_ne]; omega)
        | (have hq : chkE bs = 0 := (by rw [hce, if_neg hlt]); have hql : ((cc : Int) == lb) = true := by rw [beq_iff_eq]; omega)
        rw [hq]
        clear hce hq
        gi_wp2_with fail
        refine ⟨trivial, (callsIn_wide.2 (bytes_yes ad b cc _ _ (bs.take cc) _ HYD8.out HYT8.out)).mono ?_⟩
        rintro e w9 ⟨rfl, hb9⟩
        have HB9 := Lib.hid (th HB8.out (Nat.le_refl _) hb9)
        have HR9 := Lib.hid (show Boxed w9 _ _ _ from (hb9.block _ HR8.out.lt).trans HR8.out)
        have HKE9 := Lib.hid ((hb9.block E (Array.getElem?_eq_some_iff.1 HKE8.out).1).trans HKE8.out)
        clear hb9
        gi_wp2_with fail
        refine ⟨trivial, (callsIn_wide.2 (awake_any _ (HL.out.below HB9.out HL.out.size))).mono ?_⟩
        rintro e wx ⟨rfl, hbx⟩
        have hrx := (show Boxed wx _ _ _ from (hbx.block _ HR9.out.lt).trans HR9.out)
        have hcx := hrx.cell
        have hfx := hrx.frozen
        have HRX := Lib.hid hrx
        have HKEX := Lib.hid ((hbx.block E (Array.getElem?_eq_some_iff.1 HKE9.out).1).trans HKE9.out)
        have HBX := Lib.hid (th HB9.out (Nat.le_refl _) hbx)
        have hEn := HEn.out
        simp only [World.size_alloc] at hEn
        have HE1 := Lib.hid (show w.heap.size ≤ E by have := HB5.out.size; omega)
        clear hrx hbx hEn
        gi_wp2
        exact leave1 rfl Tryd.underlying4 rfl (HRX.out.set _) (HBX.out.setCell (p := ⟨w.heap.size + 1, 0, none⟩) (by simp) _) ((KeepsOthers.setCell wx _ _).same E _ HKEX.out rfl) HE1.out
    case stop3 =>
      rintro D c pre W _ _ h _
      exact h.elim
  · have HT := Lib.hid ht
    have hel := encs_len zs
    obtain ⟨va, vc, rfl, hby1⟩ := owned_byt hown (encs_bytes zs ht) (by have := HA.out.1; omega)
    have HY1 := Lib.hid hby1
    have HEL := Lib.hid hel
    clear ht hown hby1 hel
    gi_wp2_with fail
    refine ⟨trivial, (callsIn_wide.2 (all_any va _ vc (encs zs) _ HY1.out)).mono ?_⟩
    rintro e w2 ⟨g, a2, c2, rfl, hg, hcg, hby2, hb2⟩
    have HY2 := Lib.hid hby2
    have HCG := Lib.hid hcg
    have HB2 := Lib.hid (th HB1.out (Nat.le_refl _) hb2)
    have HB12 := Lib.hid hb2
    have hL2 : Boxed w2 w.heap.size 22 (.slice a la ca) := (hb2.block _ hL1.lt).trans hL1
    have hR2 : Boxed w2 (w.heap.size + 1) 4 (.bool false) := (hb2.block _ HR1.out.lt).trans HR1.out
    have HL2 := Lib.hid hL2
    have HR2 := Lib.hid hR2
    have hcl2 := hL2.cell
    have HGL := Lib.hid (show g < w2.heap.size by simpa using block_lt_of_cell hcg)
    clear hby2 hcg hb2 hL2 hR2 hL1 hcl
    have hfn := fun wx : World => func_not_nil (.pointer (some ⟨g, 0, none⟩)) wx
    gi_wp2_with fail
    have hn2 : 2 ≤ w2.heap.size := (HL.out.below HB2.out HL.out.size).size
    have hbA : Below w2.heap.size w2 (w2.alloc (.cells #[.int .i64 0] 3)) := (Below.refl _ _).alloc (Nat.le_refl _) _
    have hseq := all_stops (5 - 1) g w2.heap.size a2 (encs zs).length c2 (encs zs) (w2.alloc (.cells #[.int .i64 0] 3)) ((HL.out.below HB2.out HL.out.size).below hbA hn2) hn2 (by simp) HGL.out
      ((hbA.cell (p := ⟨g, 0, none⟩) HGL.out).trans HCG.out) (HY2.out.below hbA (Nat.le_refl _)) (fun b off h0 e => by
        obtain ⟨b', off', e', hc⟩ := HY2.out.cells h0
        rw [e] at e'
        cases e'
        simpa using block_lt_of_cell (hc 0 h0))
    refine wpIn_rangeFunc_ownG rfl (by omega) (gf := 22) (lb := #[.pointer (some ⟨g, 0, none⟩)]) rfl trivial (enters_of Tryd.func22 (by kernel_rfl) rfl) hseq belowK_t (belowK_b (by simp)) (Below.refl _ _) (fun _ => rfl)
      (fun pre W => (Boxed W w2.heap.size 3 (.int .i64 (pre.length : Nat)) ∧ Hid (pre.map (·.1.2) <+: zs)) ∧ Below w2.heap.size w2 W)
      (fun _ pre _ => ¬ (pre.map (·.1.2) <+: zs))
      (OwnFrom.and (Own.from (fun s A B row hs hg hr => ⟨boxed_own w2.heap.size 3 (fun _ : Unit => _) () A B row hs.1 hg hr, hs.2⟩) _) (ownFrom_below (Nat.le_refl _) (by simp)))
      (fun _ => ownFrom_pure _ _)
      ⟨⟨Boxed.new _ _ _, by unfold Hid; simp⟩, hbA⟩
      ?a1 ?assign ?body ?done ?stop
    case assign =>
      intro l x W K hK
      gi_wp2
      exact hK
    case body =>
      rintro l pre x W ⟨⟨hbn, hpre⟩, hB⟩ hlen
      have hpl : pre.length ≤ zs.length := by have := hpre.out.length_le; simpa using this
      have hsn := pre_snoc (r := x.1.2) hpre.out
      rw [List.length_map] at hsn
      have hmap : (pre ++ [x]).map (·.1.2) = pre.map (·.1.2) ++ [x.1.2] := by simp
      rw [← hmap] at hsn
      have HSN := Lib.hid hsn
      clear hmap hsn
      have hlW : Boxed W w.heap.size 22 (.slice a la ca) := (hB.block _ HL2.out.lt).trans HL2.out
      have hrW : Boxed W (w.heap.size + 1) 4 (.bool false) := (hB.block _ HR2.out.lt).trans HR2.out
      have hclW := hlW.cell
      have hcrW := hrW.cell
      have hfrW := hrW.frozen
      have hcnW := hbn.cell
      have hfnW := hbn.frozen
      have HLW := Lib.hid hlW
      have HRW := Lib.hid hrW
      have HBN := Lib.hid hbn
      have HBW := Lib.hid hB
      have hzl := HA.out.1
      have hnr : w2.heap.size ≠ w.heap.size + 1 := by have := HR2.out.lt; omega
      clear hlW hrW hbn hB hcl2
      obtain ⟨k, hk⟩ : ∃ k, pre.length = k := ⟨_, rfl⟩
      rw [hk] at hcnW hpl HSN
      have HK := Lib.hid hk
      clear hk hlen
      obtain ⟨⟨p, r⟩, hp, hr⟩ := x
      by_cases hlt : k < la
      · obtain ⟨b0, off0, rfl, hcs⟩ := HA.out.2 (by omega)
        obtain ⟨y, hy⟩ : ∃ y, zs[k]?.getD 0 = y := ⟨_, rfl⟩
        have hcy : W.cell? ⟨b0, off0 + k, none⟩ = some (.int .i32 y) := by
          have h3 := hcs k hlt
          have h4 : b0 < w.heap.size := by simpa using block_lt_of_cell h3
          rw [← hy]
          have h5 := ((HB2.out.trans (HBW.out.mono HB2.out.size)).cell (p := ⟨b0, off0 + k, none⟩) h4).trans h3
          simpa using h5
        have HY := Lib.hid hy
        have hkl : k < zs.length := by omega
        have HKL := Lib.hid hkl
        clear hcs hy hzl hkl
        by_cases hry : r = y
        · subst hry
          have hne : (r != r) = false := by simp
          have hlayW := HL.out.below (HB2.out.trans (HBW.out.mono HB2.out.size)) HL.out.size
          have HLAYW := Lib.hid hlayW
          clear hlayW
          gi_wp2_with fail
          refine ⟨trivial, (CallsIn.inRound l (callsIn_wide.2 (is_any r _ HLAYW.out))).mono ?_⟩
          rintro e w3 ⟨rfl, hb3⟩
          rw [hr]
          have hcn3 := (hb3.cell (p := ⟨w2.heap.size, 0, none⟩) HBN.out.lt).trans hcnW
          have hfn3 := (hb3.frozen (p := ⟨w2.heap.size, 0, none⟩) HBN.out.lt).trans hfnW
          have HB3 := Lib.hid hb3
          clear hb3 hcnW hfnW
          gi_wp2
          refine ⟨((keeps_of_below HB3.out).trans (KeepsOthers.setCell _ _ _)).from _, (HB3.out.mono HBW.out.size).setCell (p := ⟨w2.heap.size, 0, none⟩) (Nat.le_refl _) _, ⟨?_, HSN.out.2 ⟨HKL.out, HY.out⟩⟩, (HBW.out.trans (HB3.out.mono HBW.out.size)).setCell (p := ⟨w2.heap.size, 0, none⟩) (Nat.le_refl _) _⟩
          have e1 : (((pre ++ [(⟨(p, r), hp, hr⟩ : Ch)]).length : Nat) : Int) = (k : Int) + 1 := by simp [HK.out]
          rw [e1]
          exact Boxed.set _ (show Boxed w3 _ _ _ from (HB3.out.block _ HBN.out.lt).trans HBN.out)
        · have hne : (r != y) = true := by rw [bne_iff_ne]; exact hry
          have HRY := Lib.hid hry
          clear hry
          gi_wp2
          refine ⟨trivial, ?_⟩
          gi_wp2
          exact ⟨(KeepsOthers.setCell _ _ _).from _, fun h => HRY.out ((HSN.out.1 h).2.symm.trans HY.out)⟩
      · gi_wp2
        refine ⟨trivial, ?_⟩
        gi_wp2
        exact ⟨(KeepsOthers.setCell _ _ _).from _, fun h => by have := (HSN.out.1 h).1; omega⟩
    case done =>
      rintro D ys W hD hys ⟨⟨hbn, hpre⟩, hB⟩ hK
      have hyl : ys.length = la := by
        have h1 := congrArg List.length hys
        rw [List.length_map, prsC, prs_len, runes_encs' HT.out] at h1
        rw [h1]; exact HA.out.1
      rw [hyl] at hbn
      have hlW : Boxed W w.heap.size 22 (.slice a la ca) := (hB.block _ HL2.out.lt).trans HL2.out
      have hrW : Boxed W (w.heap.size + 1) 4 (.bool false) := (hB.block _ HR2.out.lt).trans HR2.out
      have hcnW := hbn.cell
      have hclW := hlW.cell
      have HRW := Lib.hid hrW
      have HBW := Lib.hid (HB2.out.trans (hB.mono HB2.out.size))
      have HKD := Lib.hid hK
      have HYW := Lib.hid (HY1.out.below (HB12.out.trans (hB.mono HB12.out.size)) (Nat.le_refl _))
      have HDn := Lib.hid hD
      have HLW := Lib.hid hlW
      have HNW := Lib.hid hbn
      clear hys hpre hyl hrW hbn hlW hB hK hD
      gi_wp2_with fail
      refine ⟨trivial, (callsIn_wide.2 (check_any va _ vc (encs zs) _ (HL.out.below HBW.out HL.out.size) HYW.out)).mono ?_⟩
      rintro e w4 ⟨rfl, hb4⟩
      rw [show chkC (encs zs) = (encs zs).length from chk_encs HT.out, show chkE (encs zs) = 0 from by unfold chkE; rw [if_neg (by rw [show chkC (encs zs) = (encs zs).length from chk_encs HT.out]; omega)]]
      have hcn4 := (hb4.cell (p := ⟨w2.heap.size, 0, none⟩) HNW.out.lt).trans hcnW
      have hcl4 := (hb4.cell (p := ⟨w.heap.size, 0, none⟩) HLW.out.lt).trans hclW
      have HB4 := Lib.hid (th HBW.out (Nat.le_refl _) hb4)
      have HR4 := Lib.hid (show Boxed w4 _ _ _ from (hb4.block _ HRW.out.lt).trans HRW.out)
      have HKD4 := Lib.hid ((hb4.block D (Array.getElem?_eq_some_iff.1 HKD.out).1).trans HKD.out)
      have hll : ((la : Int) != la) = false := by simp
      have hcc : (((encs zs).length : Int) != (encs zs).length) = false := by simp
      clear hb4 hcnW hclW
      gi_wp2_with fail
      have HAB4 := Lib.hid (HBY.out.below HB4.out (Nat.le_refl _))
      refine ⟨trivial, (callsIn_wide.2 (all_any b lb cb bs _ HAB4.out)).mono ?_⟩
      rintro e w5 ⟨g5, a5, c5, rfl, _, hcg5, hby5, hb5⟩
      have HY5 := Lib.hid hby5
      have HCG5 := Lib.hid hcg5
      have HB5 := Lib.hid (th HB4.out (Nat.le_refl _) hb5)
      have HR5 := Lib.hid (show Boxed w5 _ _ _ from (hb5.block _ HR4.out.lt).trans HR4.out)
      have HKD5 := Lib.hid ((hb5.block D (Array.getElem?_eq_some_iff.1 HKD4.out).1).trans HKD4.out)
      have HDL := Lib.hid (Array.getElem?_eq_some_iff.1 HKD5.out).1
      have HGL5 := Lib.hid (show g5 < w5.heap.size by simpa using block_lt_of_cell hcg5)
      have hfn5 := fun wx : World => func_not_nil (.pointer (some ⟨g5, 0, none⟩)) wx
      clear hby5 hcg5 hb5
      gi_wp2_with fail
      have hn5 : 2 ≤ w5.heap.size := (HL.out.below HB5.out HL.out.size).size
      have hbA5 : Below w5.heap.size w5 (w5.alloc (.cells #[.slice none 0 0] 22)) := (Below.refl _ _).alloc (Nat.le_refl _) _
      have hseq5 := all_stops (5 - 1) g5 w5.heap.size a5 lb c5 bs (w5.alloc (.cells #[.slice none 0 0] 22)) ((HL.out.below HB5.out HL.out.size).below hbA5 hn5) hn5 (by simp) HGL5.out
        ((hbA5.cell (p := ⟨g5, 0, none⟩) HGL5.out).trans HCG5.out) (HY5.out.below hbA5 (Nat.le_refl _)) (fun b off h0 e => by
          obtain ⟨b', off', e', hc⟩ := HY5.out.cells h0
          rw [e] at e'
          cases e'
          simpa using block_lt_of_cell (hc 0 h0))
      refine wpIn_rangeFunc_ownG rfl (by omega) (gf := 22) (lb := #[.pointer (some ⟨g5, 0, none⟩)]) rfl trivial (enters_of Tryd.func22 (by kernel_rfl) rfl) hseq5 belowK_t (belowK_b (by simp)) (Below.refl _ _) (fun _ => rfl)
        (fun pre W => RowBox w5.heap.size pre W ∧ Below w5.heap.size w5 W)
        (fun _ _ _ => False)
        (OwnFrom.and (Own.from (rowBox_own w5.heap.size) _) (ownFrom_below (Nat.le_refl _) (by simp)))
        (fun _ _ _ _ _ hs _ _ => hs)
        ⟨⟨_, Boxed.new _ _ _, World.ownsRow_nil _ _ _ _⟩, hbA5⟩
        ?a2 ?assign2 ?body2 ?done2 ?stop2
      case assign2 =>
        intro l x W K hK
        gi_wp2
        exact hK
      case body2 =>
        rintro l pre x W ⟨⟨v, hv, hrow⟩, hB⟩ hlen
        have hpl : pre.length ≤ 1000 := by
          have h1 : (prsC bs).length ≤ bs.length := by rw [prsC, prs_len]; exact runes_len bs
          have h2 := HBY.out.eqLen
          omega
        have hcv := hv.cell
        have HROW := Lib.hid hrow
        have HV := Lib.hid hv
        have HB' := Lib.hid hB
        obtain ⟨i0, hi, hz0, hz1, hz2⟩ := info_parts info21
        clear hrow hlen hv hB
        gi_wp2_with (gi_at_builtin; refine wpListIn_append_own _ rfl _ _ 22 rfl w5.heap.size 21 i0 (.int .i32 0) 1 4 Tryd.underlying22 hi hz0 hz1 hz2 rfl (by decide) _ _ _ rfl (HROW.out.alloc _) ⟨W.heap.size, 0, none⟩ 1 1 [.int .i32 x.1.2] rfl rfl (cell_one_new _ _ _) (by simp [Value.oneCell']) (by unfold maxLen; omega) (by omega) (by have := HB'.out.size; simp; omega) ?_; intro v' w1' hown' hgrow' _; obtain ⟨g', cap', rfl⟩ := ownsRow_succ hown'; obtain ⟨hv1, hv2, hr2, hk2, hb2'⟩ := HV.out.appended (by decide) HROW.out HB'.out.size (Nat.le_refl _) hown' hgrow'; have hc1' := hv1.cell; have hf1' := hv1.frozen; have HV2 := Lib.hid hv2; have HR2' := Lib.hid hr2; have HK2 := Lib.hid hk2; have HB2' := Lib.hid hb2'; clear hown' hgrow' hv1 hv2 hr2 hk2 hb2')
        exact ⟨HK2.out.from _, HB2'.out, ⟨_, HV2.out, rowBox_snoc HR2'.out⟩, HB'.out.trans HB2'.out⟩
      case done2 =>
        rintro E ys W hE hys ⟨⟨v, hv, hrow⟩, hB⟩ hK
        have hmap : ys.map (·.1.2) = runesC bs := by
          have h1 := congrArg (List.map (·.2)) hys
          rw [prsC, prs_snd, List.map_map] at h1
          exact h1
        have hyl : ys.length = (runesC bs).length := by rw [← hmap]; simp
        rw [hmap, hyl] at hrow
        obtain ⟨am, cm, rfl, hrd⟩ := owned_reads hrow
        have HRD := Lib.hid hrd
        have hcm := hv.cell
        have HB6 := Lib.hid (HB5.out.trans (hB.mono HB5.out.size))
        have HR6 := Lib.hid (show Boxed W _ _ _ from (hB.block _ HR5.out.lt).trans HR5.out)
        have HKE6 := Lib.hid hK
        have HEn := Lib.hid hE
        have HKD6 := Lib.hid ((hB.block D HDL.out).trans HKD5.out)
        have HRL := Lib.hid (show (runesC bs).length ≤ 1000 by have := runes_len bs; have h2 := HBY.out.eqLen; omega)
        clear hys hmap hyl hrow hrd hv hB hK hE
        gi_wp2_with fail
        refine ⟨trivial, (callsIn_wide.2 (encode_any am _ cm (runesC bs) _ (HL.out.below HB6.out HL.out.size) HRD.out HRL.out)).mono ?_⟩
        rintro e w7 ⟨hb7, he⟩
        rcases he with ⟨hf, _⟩ | ⟨_, vd, rfl, hown7⟩
        · rw [runes_all] at hf; cases hf
        have e7 : encs (runesC bs) = bs.take (chkC bs) := encs_runes bs
        have hel7 := encs_len (runesC bs)
        rw [e7] at hown7 hel7
        have hcl := chkC_le bs
        have hbl := HBY.out.eqLen
        have hlt7 : (bs.take (chkC bs)).length = chkC bs := by simp; omega
        rw [hlt7] at hown7
        obtain ⟨ad, cd, rfl, hbyd⟩ := owned_byt hown7 (fun z hz => HBY.out.byte z (List.mem_of_mem_take hz)) (by omega)
        have HYD := Lib.hid hbyd
        have HB7 := Lib.hid (th HB6.out (Nat.le_refl _) hb7)
        have HR7 := Lib.hid (show Boxed w7 _ _ _ from (hb7.block _ HR6.out.lt).trans HR6.out)
        have HKE7 := Lib.hid ((hb7.block E (Array.getElem?_eq_some_iff.1 HKE6.out).1).trans HKE6.out)
        have HKD7 := Lib.hid ((hb7.block D (Array.getElem?_eq_some_iff.1 HKD6.out).1).trans HKD6.out)
        clear hown7 hbyd hb7 hel7 e7 hlt7 hcm
        gi_wp2_with fail
        refine ⟨trivial, (callsIn_wide.2 (check_any b lb cb bs _ (HL.out.below HB7.out HL.out.size) (HBY.out.below HB7.out (Nat.le_refl _)))).mono ?_⟩
        rintro e w8 ⟨rfl, hb8⟩
        have HB8 := Lib.hid (th HB7.out (Nat.le_refl _) hb8)
        have HR8 := Lib.hid (show Boxed w8 _ _ _ from (hb8.block _ HR7.out.lt).trans HR7.out)
        have HKE8 := Lib.hid ((hb8.block E (Array.getElem?_eq_some_iff.1 HKE7.out).1).trans HKE7.out)
        have HKD8 := Lib.hid ((hb8.block D (Array.getElem?_eq_some_iff.1 HKD7.out).1).trans HKD7.out)
        have HYD8 := Lib.hid (HYD.out.below hb8 (Nat.le_refl _))
        have HYT8 := Lib.hid (byt_take (HBY.out.below HB8.out (Nat.le_refl _)) (by omega : chkC bs ≤ lb))
        clear hb8
        have hce : chkE bs = if chkC bs < lb then 10 else 0 := by unfold chkE; rw [hbl]
        obtain ⟨cc, hcc⟩ : ∃ cc, chkC bs = cc := ⟨_, rfl⟩
        have HCC := Lib.hid hcc
        rw [hcc] at hcl hce HYD8 HYT8 ⊢
        clear hcc
        rw [hbl] at hcl
        have hcz : (0 : Int) ≤ cc := by omega
        have hcz2 : (cc : Int) ≤ lb := by omega
        clear hbl
        have hcap := HBY.out.leCap
        have fin : ∀ q : Bool, True := fun _ => trivial
        clear fin
        by_cases hlt : cc < lb
        all_goals
          first
          | (have hq : chkE bs = 10 := (by rw [hce, if_pos hlt]); have hql : ((cc : Int) == lb) = false := by rw [beq_eq_false_iff_ne]; omega)
          | (have hq : chkE bs = 0 := (by rw [hce, if_neg hlt]); have hql : ((cc : Int) == lb) = true := by rw [beq_iff_eq]; omega)
          rw [hq]
          clear hce hq
          gi_wp2_with fail
          refine ⟨trivial, (callsIn_wide.2 (bytes_yes ad b cc _ _ (bs.take cc) _ HYD8.out HYT8.out)).mono ?_⟩
          rintro e w9 ⟨rfl, hb9⟩
          have HB9 := Lib.hid (th HB8.out (Nat.le_refl _) hb9)
          have HR9 := Lib.hid (show Boxed w9 _ _ _ from (hb9.block _ HR8.out.lt).trans HR8.out)
          have HKE9 := Lib.hid ((hb9.block E (Array.getElem?_eq_some_iff.1 HKE8.out).1).trans HKE8.out)
          have HKD9 := Lib.hid ((hb9.block D (Array.getElem?_eq_some_iff.1 HKD8.out).1).trans HKD8.out)
          clear hb9
          gi_wp2_with fail
          refine ⟨trivial, (callsIn_wide.2 (awake_any _ (HL.out.below HB9.out HL.out.size))).mono ?_⟩
          rintro e wx ⟨rfl, hbx⟩
          have hrx := (show Boxed wx _ _ _ from (hbx.block _ HR9.out.lt).trans HR9.out)
          have hcx := hrx.cell
          have hfx := hrx.frozen
          have HRX := Lib.hid hrx
          have HKEX := Lib.hid ((hbx.block E (Array.getElem?_eq_some_iff.1 HKE9.out).1).trans HKE9.out)
          have HKDX := Lib.hid ((hbx.block D (Array.getElem?_eq_some_iff.1 HKD9.out).1).trans HKD9.out)
          have HBX := Lib.hid (th HB9.out (Nat.le_refl _) hbx)
          have hEn := HEn.out
          have hDn := HDn.out
          simp only [World.size_alloc] at hEn hDn
          have HE1 := Lib.hid (show w.heap.size ≤ E by have := HB5.out.size; omega)
          have HD1 := Lib.hid (show w.heap.size ≤ D by have := HB2.out.size; omega)
          have HDE := Lib.hid (show D ≠ E by have := HDL.out; omega)
          clear hrx hbx hEn hDn
          gi_wp2
          exact leave2 rfl Tryd.underlying4 rfl (HRX.out.set _) (HBX.out.setCell (p := ⟨w.heap.size + 1, 0, none⟩) (by simp) _) ((KeepsOthers.setCell wx _ _).same E _ HKEX.out rfl) HE1.out ((KeepsOthers.setCell wx _ _).same D _ HKDX.out rfl) HD1.out HDE.out
      case stop2 =>
        rintro D c pre W _ _ h _
        exact h.elim
    case stop =>
      rintro D c pre W hD hpre hx hK
      exact absurd (by
        have h1 := hpre.map (·.2)
        rw [prsC, prs_snd, runes_encs' HT.out, List.map_map] at h1
        exact h1) hx
end Go.Proofs.YtomlmpcjbdkobaaDoor.U
