/- Lists of things in memory; whether one rises. -/
import Derived.Test.YtodjfebceljjgaaS0
import Derived.Test.YtodjfebceljjgaaN1
namespace Go.Proofs.Ytodjfebceljjgaa.U
open Go.RowKit

/-- A list of things, wherever it lies. -/
def RT (w : World) (v : Value) (l : List T2) : Prop :=
  ∃ a c, v = .slice a l.length c ∧ l.length ≤ c ∧ c ≤ maxLen ∧ (0 < l.length → ∃ g o, a = some ⟨g, o, none⟩ ∧ ∀ i x, l[i]? = some x → w.cell? ⟨g, o + i * 2, none⟩ = some (.int .i64 x.1) ∧ w.cell? ⟨g, o + i * 2 + 1, none⟩ = some (.int .i64 x.2))
theorem blk_of_cell {w : World} {p : Addr} {u : Value} (h : w.cell? p = some u) : p.block < w.heap.size := World.block_lt_of_cell? w p h
theorem RT.below {w w' : World} {v : Value} {l : List T2} (h : RT w v l) (hb : Below w.heap.size w w') : RT w' v l := by
  obtain ⟨a, c, h1, h2, h3, h4⟩ := h
  refine ⟨a, c, h1, h2, h3, fun h0 => ?_⟩
  obtain ⟨g, o, e, h5⟩ := h4 h0
  refine ⟨g, o, e, fun i x hx => ?_⟩
  obtain ⟨k1, k2⟩ := h5 i x hx
  exact ⟨(hb.cell (blk_of_cell k1)).trans k1, (hb.cell (blk_of_cell k2)).trans k2⟩
theorem RT.tail {w : World} {g o n c : Nat} {x : T2} {l : List T2} (h : RT w (.slice (some ⟨g, o, none⟩) (n + 1) c) (x :: l)) : RT w (.slice (some ⟨g, o + 2, none⟩) n (c - 1)) l := by
  obtain ⟨a, c', e, h2, h3, h4⟩ := h
  simp only [Value.slice.injEq, List.length_cons] at e
  obtain ⟨rfl, e2, rfl⟩ := e
  have hn : n = l.length := by omega
  subst hn
  refine ⟨_, _, rfl, by simp at h2; omega, by omega, fun h0 => ?_⟩
  obtain ⟨g', o', e, h5⟩ := h4 (by simp)
  simp only [Option.some.injEq, Addr.mk.injEq, and_true] at e
  obtain ⟨rfl, rfl⟩ := e
  refine ⟨g, o + 2, rfl, fun i y hy => ?_⟩
  have := h5 (i + 1) y (by simpa using hy)
  rw [show o + (i + 1) * 2 = o + 2 + i * 2 by omega] at this
  exact this
theorem cmp_pos (a b : Int) : 0 < cmpI a b ↔ b < a := by
  rcases three a b with ⟨_, _, h, k⟩ | ⟨_, _, h, k⟩ | ⟨_, _, h, k⟩ <;> rw [h] <;> omega
set_option maxHeartbeats 2000000 in
set_option maxRecDepth 10000 in
theorem rises_any (c : Nat) (v : Value) (l : List T2) (w : World) (h : RT w v l) (hc : w.cell? ⟨c, 0, none⟩ = some (.func (.func 10) #[] #[])) :
    Calls Try.prog 32 #[.func (.func 50) #[] #[.pointer (some ⟨c, 0, none⟩)], v] w fun e w' => e = .returned (.bool (risesB l)) ∧ Below w.heap.size w w' := by
  obtain ⟨a, cp, rfl, h1, h2, h3⟩ := h
  have hw1 : ∀ k : Nat, k + 1 < l.length → wrap64 ((k : Int) + 1 + 1) = (k : Int) + 1 + 1 := fun k hk => by unfold maxLen at h2; unfold wrap64; omega
  have hw2 : ∀ k : Nat, k < l.length → wrap64 (k : Int) = (k : Int) ∧ IntKind.i64.wrap (k : Int) = k := fun k hk => by
    unfold maxLen at h2
    exact ⟨by unfold wrap64; omega, wrap_small _ (by omega) (by omega)⟩
  have HW1 := Lib.hid hw1
  have HW2 := Lib.hid hw2
  have H3 := Lib.hid h3
  have HCL : Hid (∀ W, Below w.heap.size w W → ∀ x y : T2, Calls Try.prog 50 #[.agg #[.int .i64 x.1, .int .i64 x.2], .agg #[.int .i64 y.1, .int .i64 y.2], .pointer (some ⟨c, 0, none⟩)] W fun e w' => e = .returned (.int .i64 (cmpI x.1 y.1)) ∧ Below w.heap.size w w') := Lib.hid (fun W hb x y =>
    (calm_any ord10 c x.1 x.2 y.1 y.2 W ((hb.cell (blk_of_cell hc)).trans hc) (by have := blk_of_cell hc; have := hb.size; simp only [] at *; omega)).mono (fun e w' k => ⟨k.1, th hb (Nat.le_refl _) k.2⟩))
  obtain ⟨n, hn⟩ : ∃ n, n = l.length := ⟨_, rfl⟩
  have HN := Lib.hid hn
  rw [← hn]
  clear h1 h2 h3 hc hw1 hw2 hn
  go_enter Try.func32, Try.ntmps32
  go_wp2_with fail
  go_loopw [5] (fun i wr => ∃ k : Nat, i = .int .i64 ((k : Int) + 1) ∧ (k + 1 ≤ n ∨ k = 0) ∧ Hid (∀ i x y, i < k → l[i]? = some x → l[i + 1]? = some y → x.1 ≤ y.1) ∧ Hid (Below w.heap.size w wr)) (fun i _ => n - (intOf i).toNat)
  case atStart => exact ⟨0, rfl, .inr rfl, Lib.hid (fun i x y h => by omega), Lib.hid (Below.refl _ _)⟩
  case round =>
    obtain ⟨k, rfl, hk, HG, HB⟩ := hrel
    by_cases hlt : k + 1 < n
    · obtain ⟨x, hx⟩ : ∃ x, l[k]? = some x := ⟨_, List.getElem?_eq_getElem (by rw [← HN.out]; omega)⟩
      obtain ⟨y, hy⟩ : ∃ y, l[k + 1]? = some y := ⟨_, List.getElem?_eq_getElem (by rw [← HN.out]; omega)⟩
      obtain ⟨g, o, rfl, h5⟩ := H3.out (by rw [← HN.out]; omega)
      have HKEEP : Hid (∀ W, Below w.heap.size w W → W.cell? ⟨g, o + k * 2, none⟩ = some (.int .i64 x.1) ∧ W.cell? ⟨g, o + k * 2 + 1, none⟩ = some (.int .i64 x.2) ∧ W.cell? ⟨g, o + (k + 1) * 2, none⟩ = some (.int .i64 y.1) ∧ W.cell? ⟨g, o + (k + 1) * 2 + 1, none⟩ = some (.int .i64 y.2) ∧ Hid (Below w.heap.size w W)) := Lib.hid (fun W hb => by
        obtain ⟨k1, k2⟩ := h5 k x hx
        obtain ⟨k3, k4⟩ := h5 (k + 1) y hy
        exact ⟨(hb.cell (blk_of_cell k1)).trans k1, (hb.cell (blk_of_cell k2)).trans k2, (hb.cell (blk_of_cell k3)).trans k3, (hb.cell (blk_of_cell k4)).trans k4, hb⟩)
      have hw1 := HW1.out k (by rw [← HN.out]; omega)
      obtain ⟨hw2, hw4⟩ := HW2.out k (by rw [← HN.out]; omega)
      have hi0 : (0 : Int) ≤ k := by omega
      have hi1 : (k : Int) < n := by omega
      have hi2 : (0 : Int) ≤ (k : Int) + 1 := by omega
      have hi4 : (k : Int) + 1 < n := by omega
      have hd1 : decide ((k : Int) + 1 < n) = true := by simp; omega
      have HX := Lib.hid hx
      have HY := Lib.hid hy
      have HLT := Lib.hid hlt
      have HC := Lib.hid (fun W hb => HCL.out W hb x y)
      have HR := Lib.hid (cmp_pos x.1 y.1)
      generalize cmpI x.1 y.1 = r at HC HR
      clear hx hy h5 hk
      go_wp2_with fail
      go_region_held3 (fun W => W.cell? ⟨g, o + k * 2, none⟩ = some (.int .i64 x.1) ∧ W.cell? ⟨g, o + k * 2 + 1, none⟩ = some (.int .i64 x.2) ∧ W.cell? ⟨g, o + (k + 1) * 2, none⟩ = some (.int .i64 y.1) ∧ W.cell? ⟨g, o + (k + 1) * 2 + 1, none⟩ = some (.int .i64 y.2) ∧ Hid (Below w.heap.size w W)) (first | (refine HKEEP.out _ ?_; first | assumption | exact HB.out.drew)) (first | (go_at_call 50; go_split_ands; refine (HC.out _ (Hid.out (by assumption))).mono ?_; rintro e w7 ⟨rfl, hM7⟩))
      all_goals (
        go_split_ands
        rename_i hMv
        have HBN := Lib.hid hMv.out
        by_cases hlt2 : y.1 < x.1
        · have hr1 : 0 < r := HR.out.2 hlt2
          have HL2 := Lib.hid hlt2
          clear hlt2
          go_wp2_with fail
          go_ret
          exact ⟨by
            have : risesB l = false := by
              rw [bF, rises_at]
              intro hall
              have h1 := hall k x y HX.out HY.out
              have h2 := HL2.out
              omega
            rw [this]; rfl, HBN.out⟩
        · have hr1 : ¬ 0 < r := (not_congr HR.out).2 hlt2
          have hr2 : r ≤ 0 := Int.not_lt.1 hr1
          have HL2 := Lib.hid hlt2
          clear hlt2
          go_wp2_with fail
          go_roundw
          case rel => exact ⟨k + 1, by rw [hw1]; go_num, .inl (by have := HLT.out; omega), Lib.hid (fun i a b hi ha hb => by
            by_cases e : i = k
            · subst e
              rw [HX.out] at ha
              rw [HY.out] at hb
              rw [← Option.some.inj ha, ← Option.some.inj hb]
              have := HL2.out; omega
            · exact HG.out i a b (by omega) ha hb), HBN⟩
          case measure => rw [hw1]; have := HLT.out; simp only [intOf]; omega)
    · have hd1 : decide ((k : Int) + 1 < n) = false := by simp; omega
      have hd2 : decide (k + 1 < n) = false := by simp; omega
      have HLT := Lib.hid hlt
      clear hlt hk
      go_wp2_with fail
      go_ret
      exact ⟨by
        have : risesB l = true := by
          rw [rises_at]
          intro i x y hx hy
          have h1 := (List.getElem?_eq_some_iff.1 hy).1
          have h2 := HN.out
          have h3 := HLT.out
          exact HG.out i x y (by omega) hx hy
        rw [this]; rfl, HB.out⟩
end Go.Proofs.Ytodjfebceljjgaa.U
