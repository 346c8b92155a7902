/- The document's Rises. -/
import Derived.Test.YtodjfebceljjgaaF2
namespace Go.Proofs.Ytodjfebceljjgaa.U
open Go.RowKit

set_option maxHeartbeats 2000000 in
set_option maxRecDepth 10000 in
theorem risesR_any (v : Value) (l : List T2) (w : World) (h : RT w v l) :
    Calls Try.prog 19 #[v] w fun e w' => e = .returned (.bool (risesB l)) ∧ Below w.heap.size w w' := by
  obtain ⟨a, cp, rfl, h1, h2, h3⟩ := h
  have hw1 : ∀ k : Nat, k + 1 < l.length → wrap64 ((k : Int) + 1 + 1) = (k : Int) + 1 + 1 := fun k hk => by unfold maxLen at h2; unfold wrap64; omega
  have hw2 : ∀ k : Nat, k < l.length → wrap64 (k : Int) = (k : Int) ∧ IntKind.i64.wrap (k : Int) = k := fun k hk => by
    unfold maxLen at h2
    exact ⟨by unfold wrap64; omega, wrap_small _ (by omega) (by omega)⟩
  have hn0 : wrap64 (l.length : Int) = l.length := by unfold maxLen at h2; unfold wrap64; omega
  have HW1 := Lib.hid hw1
  have HW2 := Lib.hid hw2
  have H3 := Lib.hid h3
  obtain ⟨n, hn⟩ : ∃ n, n = l.length := ⟨_, rfl⟩
  have HN := Lib.hid hn
  rw [← hn] at hn0 ⊢
  clear h1 h2 h3 hw1 hw2 hn
  go_enter Try.func19, Try.ntmps19
  go_wp2_with fail
  go_loopw [3] (fun i wr => ∃ k : Nat, i = .int .i64 ((k : Int) + 1) ∧ (k + 1 ≤ n ∨ k = 0) ∧ Hid (∀ i x y, i < k → l[i]? = some x → l[i + 1]? = some y → x.1 ≤ y.1) ∧ Hid (Below w.heap.size w wr)) (fun i _ => n - (intOf i).toNat)
  case atStart => exact ⟨0, rfl, .inr rfl, Lib.hid (fun i x y h => by omega), Lib.hid (Below.refl _ _)⟩
  case round =>
    obtain ⟨k, rfl, hk, HG, HB⟩ := hrel
    by_cases hlt : k + 1 < n
    · obtain ⟨x, hx⟩ : ∃ x, l[k]? = some x := ⟨_, List.getElem?_eq_getElem (by rw [← HN.out]; omega)⟩
      obtain ⟨y, hy⟩ : ∃ y, l[k + 1]? = some y := ⟨_, List.getElem?_eq_getElem (by rw [← HN.out]; omega)⟩
      obtain ⟨g, o, rfl, h5⟩ := H3.out (by rw [← HN.out]; omega)
      obtain ⟨q1, _⟩ := h5 k x hx
      obtain ⟨q2, _⟩ := h5 (k + 1) y hy
      have x1 : wr.cell? ⟨g, o + k * 2, none⟩ = some (.int .i64 x.1) := (HB.out.cell (blk_of_cell q1)).trans q1
      have y1 : wr.cell? ⟨g, o + (k + 1) * 2, none⟩ = some (.int .i64 y.1) := (HB.out.cell (blk_of_cell q2)).trans q2
      have hw1 := HW1.out k (by rw [← HN.out]; omega)
      obtain ⟨hw2, hw4⟩ := HW2.out k (by rw [← HN.out]; omega)
      have hi0 : (0 : Int) ≤ k := by omega
      have hi1 : (k : Int) < n := by omega
      have hi2 : (0 : Int) ≤ (k : Int) + 1 := by omega
      have hi4 : (k : Int) + 1 < n := by omega
      have hd1 : decide ((k : Int) + 1 < n) = true := by simp; omega
      have HX := Lib.hid hx
      have HY := Lib.hid hy
      have HLT := Lib.hid hlt
      by_cases hlt2 : y.1 < x.1
      · have hc1 : decide (y.1 < x.1) = true := by simp [hlt2]
        have HL2 := Lib.hid hlt2
        clear hx hy h5 hk q1 q2 hlt2
        go_wp2_with fail
        go_quiet (fail)
        go_wp2_with fail
        go_ret
        exact ⟨by
          have : risesB l = false := by
            rw [bF, rises_at]
            intro hall
            have h1 := hall k x y HX.out HY.out
            have h2 := HL2.out
            omega
          rw [this]; rfl, HB.out.trans ⟨rfl, rfl, rfl, Nat.le_refl _, fun _ _ => rfl⟩⟩
      · have hc1 : decide (y.1 < x.1) = false := by simp; omega
        have HL2 := Lib.hid hlt2
        clear hx hy h5 hk q1 q2 hlt2
        go_wp2_with fail
        go_quiet (fail)
        go_wp2_with fail
        go_roundw
        case rel => exact ⟨k + 1, by rw [hw1]; go_num, .inl (by have := HLT.out; omega), Lib.hid (fun i a b hi ha hb => by
          by_cases e : i = k
          · subst e
            rw [HX.out] at ha
            rw [HY.out] at hb
            rw [← Option.some.inj ha, ← Option.some.inj hb]
            have := HL2.out; omega
          · exact HG.out i a b (by omega) ha hb), Lib.hid (HB.out.trans ⟨rfl, rfl, rfl, Nat.le_refl _, fun _ _ => rfl⟩)⟩
        case measure => rw [hw1]; have := HLT.out; simp only [intOf]; omega
    · have hd1 : decide ((k : Int) + 1 < n) = false := by simp; omega
      have hd2 : decide (k + 1 < n) = false := by simp; omega
      have HLT := Lib.hid hlt
      clear hlt hk
      go_wp2_with fail
      go_ret
      exact ⟨by
        have : risesB l = true := by
          rw [rises_at]
          intro i x y hx hy
          have h1 := (List.getElem?_eq_some_iff.1 hy).1
          have h2 := HN.out
          have h3 := HLT.out
          exact HG.out i x y (by omega) hx hy
        rw [this]; rfl, HB.out⟩
end Go.Proofs.Ytodjfebceljjgaa.U
