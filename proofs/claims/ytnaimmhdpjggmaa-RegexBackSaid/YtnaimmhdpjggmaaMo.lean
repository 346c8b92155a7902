/- The contract of a matcher's step. -/
import Derived.Test.YtnaimmhdpjggmaaMn
namespace Go.Proofs.Ytnaimmhdpjggmaa.U
open Go.RowKit

/-- What a matcher holds. -/
structure MatV (w : World) (vn ve : Value) (L : List Nd) (em : List Bool) : Prop where
  nodes : NR w vn L
  emp : ∃ g, ve = .slice (some ⟨g, 0, none⟩) L.length L.length ∧ WR w g 4 (em.map eB)
  elen : em.length = L.length
theorem MatV.below {w w' : World} {vn ve : Value} {L : List Nd} {em : List Bool} (h : MatV w vn ve L em) (hb : Below w.heap.size w w') : MatV w' vn ve L em := by
  obtain ⟨g, h1, h2⟩ := h.emp
  exact ⟨h.nodes.below hb, ⟨g, h1, h2.below hb⟩, h.elen⟩
theorem HereC.below {g : Nat} {cap : Array Value} {w w' : World} {n : Nat} {here : Nat → Bool} (h : HereC g cap w n here) (hb : Below w.heap.size w w') : HereC g cap w' n here :=
  ⟨h.1, fun k W hk hbW => h.2 k W hk (th hb (Nat.le_refl _) hbW)⟩
/-- What a step leaves. -/
def StepPost (L : List Nd) (em : List Bool) (beg : Bool) (here : Nat → Bool) (w : World) (e : Ending) (w' : World) : Prop :=
  Below w.heap.size w w' ∧ ∃ g, e = .returned (.tuple #[.slice (some ⟨g, 0, none⟩) L.length L.length, .bool (endsB L em beg here)]) ∧ WR w' g 4 ((nextL L em beg here).map eB)
/-- The rounds of a step. -/
structure StI (w wr : World) (L : List Nd) (D : List Bool) (g B k : Nat) : Prop where
  row : WR wr g 4 (((D.mapIdx (nextN L)).take k ++ D.drop k).map eB)
  kept : Below B w wr
theorem mid_step {D : List Bool} {L : List Nd} {k : Nat} {y : Bool} (h : D[k]? = some y) : ((D.mapIdx (nextN L)).take k ++ D.drop k).set k (nextN L k y) = (D.mapIdx (nextN L)).take (k + 1) ++ D.drop (k + 1) := by
  obtain ⟨hk, he⟩ := List.getElem?_eq_some_iff.1 h
  have h1 : (D.mapIdx (nextN L))[k]? = some (nextN L k y) := by rw [List.getElem?_mapIdx, h]; rfl
  have e : D.drop k = y :: D.drop (k + 1) := by rw [← he, ← List.drop_eq_getElem_cons hk]
  rw [List.set_append_right _ _ (by rw [List.length_take]; omega), List.length_take, List.length_mapIdx, Nat.min_eq_left (Nat.le_of_lt hk), Nat.sub_self, e, List.set_cons_zero, List.take_add_one, h1]
  simp
theorem mid_at {D : List Bool} {L : List Nd} {k : Nat} {y : Bool} (h : D[k]? = some y) : ((D.mapIdx (nextN L)).take k ++ D.drop k)[k]? = some y := by
  obtain ⟨hk, he⟩ := List.getElem?_eq_some_iff.1 h
  rw [List.getElem?_append_right (by rw [List.length_take]; omega), List.length_take, List.length_mapIdx, Nat.min_eq_left (Nat.le_of_lt hk), Nat.sub_self, List.getElem?_drop, Nat.add_zero, h]
set_option maxHeartbeats 8000000 in
set_option maxRecDepth 20000 in
theorem mstep_any (vn ve : Value) (L : List Nd) (em : List Bool) (beg : Bool) (gh : Nat) (hcap : Array Value) (here : Nat → Bool) (w : World) (h : MatV w vn ve L em) (hf : formB L = true) (hl : L.length ≤ 1024) (hh : HereC gh hcap w L.length here) :
    Calls Try.prog 26 #[.agg #[vn, ve], .bool beg, .func (.func gh) #[] hcap] w fun e w' => StepPost L em beg here w e w' := by
  obtain ⟨n, hn⟩ : ∃ n, n = L.length := ⟨_, rfl⟩
  have h0 := form_pos hf
  obtain ⟨m, hm⟩ : ∃ m, n = m + 1 := ⟨n - 1, by omega⟩
  obtain ⟨W2, hW2⟩ : ∃ W2, W2 = (w.alloc (.cells #[vn, ve] 55)).alloc (.cells #[.func (.func gh) #[] hcap] 60) := ⟨_, rfl⟩
  have HB2 : Hid (Below w.heap.size w W2) := Lib.hid (by rw [hW2]; exact ((Below.refl _ w).alloc (Nat.le_refl _) _).alloc (by simp) _)
  have wm2 : WR W2 w.heap.size 55 [vn, ve] := by rw [hW2]; exact (WR.new w 55 [vn, ve]).alloc _
  have wh2 : WR W2 (w.heap.size + 1) 60 [.func (.func gh) #[] hcap] := by
    rw [hW2]
    have := WR.new (w.alloc (.cells #[vn, ve] 55)) 60 [.func (.func gh) #[] hcap]
    simpa using this
  have hm2 := h.below HB2.out
  obtain ⟨eb, rfl, hemp⟩ := h.emp
  have hbo : BoolsAt W2 ⟨w.heap.size, 1, none⟩ eb L.length em := ⟨wm2.cell rfl, hemp.below HB2.out, h.elen⟩
  have c2n : W2.cell? ⟨w.heap.size, 0, none⟩ = some vn := wm2.cell rfl
  have HM2 := Lib.hid hm2
  have HWM2 := Lib.hid wm2
  have HBO2 := Lib.hid hbo
  have HUP := Lib.hid (upB_any 48 #[.pointer (some ⟨w.heap.size, 0, none⟩), .pointer (some ⟨w.heap.size + 1, 0, none⟩)] vn L W2 (endT L em here) hm2.nodes hl (fun args w => enters_of Try.func48 (by kernel_rfl) rfl args w) (end_tell hf hm2.nodes c2n hbo (wh2.cell rfl) (hh.below HB2.out)))
  obtain ⟨va, vc, rfl, _⟩ := h.nodes.at
  have HW2 := Lib.hid hW2
  have HF := Lib.hid hf
  have HL := Lib.hid hl
  have HN := Lib.hid hn
  have hL63 : L.length ≤ 1024 := hl
  have hm1 : (L.length : Int) - 1 = (m : Int) := by omega
  have HMm : Hid (m + 1 = L.length) := Lib.hid (by omega)
  clear h hW2 hf hl h0 wm2 wh2 hm2 hemp hbo c2n hh hm hn
  go_enter Try.func26, Try.ntmps26
  go_wp2_with fail
  rw [← HW2.out]
  refine HUP.out.mono ?_
  rintro e w3 ⟨rfl, hrow3, hb3⟩
  obtain ⟨W4, hW4⟩ : ∃ W4, W4 = w3.alloc (.cells #[.slice (some ⟨W2.heap.size, 0, none⟩) L.length L.length] 53) := ⟨_, rfl⟩
  have hb4 : Below w3.heap.size w3 W4 := by rw [hW4]; exact (Below.refl _ _).alloc (Nat.le_refl _) _
  have HB3 := Lib.hid (th HB2.out (Nat.le_refl _) hb3)
  have HB4 := Lib.hid (th HB3.out (Nat.le_refl _) hb4)
  have HM4 := Lib.hid ((HM2.out.below hb3).below hb4)
  have HWM4 := Lib.hid ((HWM2.out.below hb3).below hb4)
  have HBO4 := Lib.hid ((HBO2.out.below hb3).below hb4)
  have WE4 : Hid (BoolsAt W4 ⟨w3.heap.size, 0, none⟩ W2.heap.size L.length (endL L em here)) := Lib.hid ⟨by rw [hW4]; simp, hrow3.below hb4, by unfold endL; rw [upA_len]⟩
  have WV4 : Hid (WR W4 w3.heap.size 53 [.slice (some ⟨W2.heap.size, 0, none⟩) L.length L.length]) := Lib.hid (by rw [hW4]; exact WR.new w3 _ _)
  have cm3 : w3.cell? ⟨w.heap.size, 0, none⟩ = some (.slice va L.length vc) := (HWM2.out.below hb3).cell rfl
  have cm4s := cell_al (.cells #[.slice (some ⟨W2.heap.size, 0, none⟩) L.length L.length] 53) cm3
  have HDN := Lib.hid (down_any 50 #[.pointer (some ⟨w.heap.size, 0, none⟩), .pointer (some ⟨w3.heap.size, 0, none⟩)] _ L beg W4 (nextT L em (endL L em here)) HM4.out.nodes HL.out HF.out (fun args w => enters_of Try.func50 (by kernel_rfl) rfl args w) (next_tell HF.out HM4.out.nodes (HWM4.out.cell rfl) HBO4.out WE4.out))
  have HW4 := Lib.hid hW4
  clear hrow3 hb3 hb4 hW4
  go_wp2_with fail
  rw [← HW4.out]
  refine HDN.out.mono ?_
  rintro e w5 ⟨rfl, hrow5, hb5⟩
  have HB5 := Lib.hid (th HB4.out (Nat.le_refl _) hb5)
  have HM5 := Lib.hid (HM4.out.below hb5)
  have HWM5 := Lib.hid (HWM4.out.below hb5)
  have HBO5 := Lib.hid (HBO4.out.below hb5)
  have WE5 := Lib.hid (WE4.out.below hb5)
  have WV5 := Lib.hid (WV4.out.below hb5)
  obtain ⟨D, hD⟩ : ∃ D, D = nextD L em beg here := ⟨_, rfl⟩
  have HDL : Hid (D.length = L.length) := Lib.hid (by rw [hD]; unfold nextD; rw [downA_len])
  have HI0 : Hid (StI W4 w5 L D W4.heap.size W4.heap.size 0) := Lib.hid ⟨by rw [List.take_zero, List.nil_append, List.drop_zero, hD]; exact hrow5, hb5⟩
  have HD := Lib.hid hD
  clear hrow5 hb5 hD cm3 cm4s
  have cn5 := HWM5.out.cell (j := 0) rfl
  go_wp2_with fail
  go_loopw [29] (fun i wr => ∃ k : Nat, i = .int .i64 k ∧ k ≤ L.length ∧ Hid (StI W4 wr L D W4.heap.size W4.heap.size k)) (fun i _ => L.length - (intOf i).toNat)
  case atStart => exact ⟨0, rfl, by omega, HI0⟩
  case round =>
    obtain ⟨k, rfl, hk, HI⟩ := hrel
    by_cases hlt : k < L.length
    · obtain ⟨x, hx⟩ : ∃ x, L[k]? = some x := ⟨_, List.getElem?_eq_getElem hlt⟩
      obtain ⟨y, hy⟩ : ∃ y, D[k]? = some y := ⟨_, List.getElem?_eq_getElem (by rw [HDL.out]; exact hlt)⟩
      obtain ⟨a', c', e1, _, _, h4⟩ := (HM4.out.nodes.th HI.out.kept (Nat.le_refl _)).at
      obtain ⟨g1, o1, e2, k1, k2, k3, k4⟩ := h4 k x hx
      simp only [Value.slice.injEq] at e1
      obtain ⟨rfl, -, rfl⟩ := e1
      subst e2
      have s0 : wr.cell? ⟨W4.heap.size, k, none⟩ = some (.bool y) := HI.out.row.cell (by rw [List.getElem?_map, mid_at hy]; rfl)
      have HX := Lib.hid hx
      have HY := Lib.hid hy
      have HLT := Lib.hid hlt
      have hi0 : (0 : Int) ≤ k := by omega
      have hi1 : (k : Int) < L.length := by omega
      have hd1 : decide ((k : Int) < L.length) = true := by simp; omega
      obtain ⟨W6, hW6⟩ : ∃ W6, W6 = wr.alloc (.cells #[.int .i64 x.op, .string ⟨x.sym.toArray⟩, .int .i64 x.a, .int .i64 x.b] 45) := ⟨_, rfl⟩
      have hb6 : Below wr.heap.size wr W6 := by rw [hW6]; exact (Below.refl _ _).alloc (Nat.le_refl _) _
      have HR6 := Lib.hid (HI.out.row.below hb6)
      have HK6 := Lib.hid (HI.out.kept.trans (hb6.mono HI.out.kept.size))
      have q0 : W6.cell? ⟨wr.heap.size, 0, none⟩ = some (.int .i64 x.op) := by rw [hW6]; simp
      have s6 := up_cell hb6 (Nat.le_refl _) s0
      have f6 := HR6.out.froz k
      have HW6 := Lib.hid hW6
      have hnd := nd_at hx
      have HND := Lib.hid hnd
      clear hx hy hlt hk h4 hb6 hW6 s0 hnd
      go_upto_region 7 with fail
      rw [← HW6.out]
      have HFIN : Hid (∀ b : Bool, b = nextN L k y → StI W4 (W6.setCell ⟨W4.heap.size, k, none⟩ (.bool b)) L D W4.heap.size W4.heap.size (k + 1)) := Lib.hid (fun b hb => by
        refine ⟨?_, HK6.out.setCell (Nat.le_refl _) _⟩
        have h9 := HR6.out.set k (eB b)
        rw [map_set, hb, mid_step HY.out, ← hb] at h9
        exact h9)
      cases y with
      | false =>
        go_wp2_with fail
        go_roundw
        case rel => exact ⟨k + 1, by go_num, by have := HLT.out; omega, Lib.hid (HFIN.out false (by unfold nextN; rfl))⟩
        case measure => have := HLT.out; simp [intOf]; omega
      | true =>
        by_cases h2 : x.op = 2
        · rw [h2] at q0
          have H2 := Lib.hid h2
          clear h2
          go_wp2_with fail
          go_roundw
          case rel => exact ⟨k + 1, by go_num, by have := HLT.out; omega, Lib.hid (HFIN.out true (by unfold nextN; rw [HND.out, H2.out]; rfl))⟩
          case measure => have := HLT.out; simp [intOf]; omega
        · have e2 := ieq_f h2
          have H2 := Lib.hid h2
          clear h2
          go_wp2_with fail
          go_roundw
          case rel => exact ⟨k + 1, by go_num, by have := HLT.out; omega, Lib.hid (HFIN.out false (by unfold nextN; rw [HND.out, decide_eq_false H2.out]; rfl))⟩
          case measure => have := HLT.out; simp [intOf]; omega
    · have hd1 : decide ((k : Int) < L.length) = false := by simp; omega
      have hd2 : decide (k < L.length) = false := by simp; omega
      have hkn : k = L.length := by omega
      have HKN := Lib.hid hkn
      have hmz : (0 : Int) ≤ m := by omega
      have hmn : (m : Int) < L.length := by omega
      have hml : m < L.length := by omega
      have v1 : wr.cell? ⟨w3.heap.size, 0, none⟩ = some (.slice (some ⟨W2.heap.size, 0, none⟩) L.length L.length) := up_cell HI.out.kept (Nat.le_refl _) WE4.out.var
      have v2 : wr.cell? ⟨W2.heap.size, m, none⟩ = some (.bool (tl (endL L em here) (m : Nat))) := up_cell HI.out.kept (Nat.le_refl _) (WE4.out.get hml)
      have v3 : wr.cell? ⟨w.heap.size, 1, none⟩ = some (.slice (some ⟨eb, 0, none⟩) L.length L.length) := up_cell HI.out.kept (Nat.le_refl _) HBO4.out.var
      have v4 : wr.cell? ⟨eb, m, none⟩ = some (.bool (tl em (m : Nat))) := up_cell HI.out.kept (Nat.le_refl _) (HBO4.out.get hml)
      have HV : Hid (endsB L em beg here = (tl (endL L em here) (m : Nat) || (beg && tl em (m : Nat)))) := Lib.hid (by
        unfold endsB
        rw [getD_tl, getD_tl, show L.length - 1 = m by omega])
      have HBW := Lib.hid (HB4.out.trans (HI.out.kept.mono HB4.out.size))
      generalize tl (endL L em here) (m : Nat) = y1 at v2 HV
      generalize tl em (m : Nat) = y2 at v4 HV
      clear hlt hk hkn hml
      go_wp2_with fail
      cases y1
      all_goals cases beg
      all_goals cases y2
      all_goals (
        go_quiet (fail)
        go_wp2_with fail
        go_ret2
        refine ⟨HBW.out.trans ((below_draws _ _).mono HBW.out.size), W4.heap.size, ?_, ?_⟩
        · rw [HV.out]; rfl
        · have h9 := HI.out.row
          rw [HKN.out, List.take_of_length_le (by rw [List.length_mapIdx, HDL.out]; exact Nat.le_refl _), List.drop_of_length_le (by rw [HDL.out]; exact Nat.le_refl _), List.append_nil, HD.out] at h9
          exact h9)
end Go.Proofs.Ytnaimmhdpjggmaa.U
