/- The document's First: the least one, of several the first. -/
import Derived.Test.YtodjfebceljjgaaOi
import Derived.Deep.QuietTactic
import Derived.BigQuiet
namespace Go.Proofs.Ytodjfebceljjgaa.U
open Go.RowKit

/-- The place of the least one among the first k. -/
def FirstAt (l : List T2) (k j : Nat) (x : T2) : Prop := j < k ∧ l[j]? = some x ∧ (∀ i y, i < j → l[i]? = some y → x.1 < y.1) ∧ ∀ i y, j ≤ i → i < k → l[i]? = some y → x.1 ≤ y.1
theorem FirstAt.zero {l : List T2} {x : T2} (h : l[0]? = some x) : FirstAt l 1 0 x := ⟨by omega, h, fun i y hi => by omega, fun i y _ hi hy => by
  obtain rfl : i = 0 := by omega
  rw [h] at hy
  rw [Option.some.inj hy]; exact Int.le_refl _⟩
theorem FirstAt.keep {l : List T2} {k j : Nat} {x y : T2} (h : FirstAt l k j x) (hy : l[k]? = some y) (hle : ¬ y.1 < x.1) : FirstAt l (k + 1) j x := ⟨by have := h.1; omega, h.2.1, h.2.2.1, fun i z h1 h2 hz => by
  by_cases e : i = k
  · subst e
    rw [hy] at hz
    rw [← Option.some.inj hz]; omega
  · exact h.2.2.2 i z h1 (by omega) hz⟩
theorem FirstAt.turn {l : List T2} {k j : Nat} {x y : T2} (h : FirstAt l k j x) (hy : l[k]? = some y) (hlt : y.1 < x.1) : FirstAt l (k + 1) k y := ⟨by omega, hy, fun i z hi hz => by
  by_cases e : i < j
  · have := h.2.2.1 i z e hz; omega
  · have := h.2.2.2 i z (by omega) hi hz; omega, fun i z h1 h2 hz => by
  obtain rfl : i = k := by omega
  rw [hy] at hz
  rw [← Option.some.inj hz]; exact Int.le_refl _⟩
def FirstPost (l : List T2) (e : Ending) : Prop := (l = [] ∧ e = .returned (.int .i64 (-1))) ∨ ∃ j x, e = .returned (.int .i64 (j : Nat)) ∧ FirstAt l l.length j x
set_option maxHeartbeats 2000000 in
set_option maxRecDepth 10000 in
theorem first_any (v : Value) (l : List T2) (w : World) (h : RT w v l) (hl : l.length ≤ 100000) : Calls Try.prog 14 #[v] w fun e w' => FirstPost l e ∧ Below w.heap.size w w' := by
  obtain ⟨a, c, rfl, h1, h2, h3⟩ := h
  obtain ⟨n, hn⟩ : ∃ n, n = l.length := ⟨_, rfl⟩
  have HW : Hid (∀ k : Nat, k < n → wrap64 ((k : Int) + 1) = (k : Int) + 1) := Lib.hid (fun k hk => by unfold wrap64; omega)
  have hn0 : wrap64 (n : Int) = n := by unfold wrap64; omega
  have HN := Lib.hid hn
  have H3 := Lib.hid h3
  rw [← hn]
  clear h1 h2 h3 hl hn
  go_enter Try.func14, Try.ntmps14
  go_wp2_with fail
  go_loopw [3, 4] (fun b i wr => ∃ k : Nat, i = .int .i64 k ∧ k ≤ n ∧ ((k = 0 ∧ b = .int .i64 (-1)) ∨ ∃ (j : Nat) (x : T2), b = .int .i64 j ∧ Hid (FirstAt l k j x)) ∧ Hid (Below w.heap.size w wr)) (fun _ i _ => n - (intOf i).toNat)
  case atStart => exact ⟨0, rfl, by omega, .inl ⟨rfl, rfl⟩, Lib.hid (Below.refl _ _)⟩
  case round =>
    obtain ⟨k, rfl, hk, hb, HB⟩ := hrel
    by_cases hlt : k < n
    · obtain ⟨y, hy⟩ : ∃ y, l[k]? = some y := ⟨_, List.getElem?_eq_getElem (by rw [← HN.out]; exact hlt)⟩
      obtain ⟨g, o, rfl, h5⟩ := H3.out (by rw [← HN.out]; omega)
      obtain ⟨q1, q2⟩ := h5 k y hy
      have y1 : wr.cell? ⟨g, o + k * 2, none⟩ = some (.int .i64 y.1) := (HB.out.cell (blk_of_cell q1)).trans q1
      have hw1 := HW.out k hlt
      have hi0 : (0 : Int) ≤ k := by omega
      have hi1 : (k : Int) < n := by omega
      have hd1 : decide ((k : Int) < n) = true := by simp; omega
      have HY := Lib.hid hy
      have HLT := Lib.hid hlt
      rcases hb with ⟨rfl, rfl⟩ | ⟨j, x, rfl, HF⟩
      · clear hy h5 q1 q2 hk
        go_wp2_with fail
        go_quiet (fail)
        go_wp2_with fail
        go_roundw
        case rel => exact ⟨1, by go_num, by have := HLT.out; omega, .inr ⟨0, y, rfl, Lib.hid (FirstAt.zero HY.out)⟩, Lib.hid (HB.out.trans ⟨rfl, rfl, rfl, Nat.le_refl _, fun _ _ => rfl⟩)⟩
        case measure => have := HLT.out; simp [intOf]; omega
      · obtain ⟨q3, _⟩ := h5 j x HF.out.2.1
        have x1 : wr.cell? ⟨g, o + j * 2, none⟩ = some (.int .i64 x.1) := (HB.out.cell (blk_of_cell q3)).trans q3
        have hj0 : (0 : Int) ≤ j := by omega
        have hj1 : (j : Int) < n := by have := HF.out.1; omega
        have hj2 : decide ((j : Int) < 0) = false := by simp
        by_cases hc : y.1 < x.1
        · have hc1 : decide (y.1 < x.1) = true := by simp [hc]
          have HC := Lib.hid hc
          clear hy h5 q1 q2 q3 hk hc
          go_wp2_with fail
          go_quiet (fail)
          go_wp2_with fail
          go_roundw
          case rel => exact ⟨k + 1, by rw [hw1]; go_num, by have := HLT.out; omega, .inr ⟨k, y, rfl, Lib.hid (HF.out.turn HY.out HC.out)⟩, Lib.hid (HB.out.trans ⟨rfl, rfl, rfl, Nat.le_refl _, fun _ _ => rfl⟩)⟩
          case measure => rw [hw1]; have := HLT.out; simp only [intOf]; omega
        · have hc1 : decide (y.1 < x.1) = false := by simp; omega
          have HC := Lib.hid hc
          clear hy h5 q1 q2 q3 hk hc
          go_wp2_with fail
          go_quiet (fail)
          go_wp2_with fail
          go_roundw
          case rel => exact ⟨k + 1, by rw [hw1]; go_num, by have := HLT.out; omega, .inr ⟨j, x, rfl, Lib.hid (HF.out.keep HY.out (Int.not_lt.2 HC.out))⟩, Lib.hid (HB.out.trans ⟨rfl, rfl, rfl, Nat.le_refl _, fun _ _ => rfl⟩)⟩
          case measure => rw [hw1]; have := HLT.out; simp only [intOf]; omega
    · have hd1 : decide ((k : Int) < n) = false := by simp; omega
      have hd2 : decide (k < n) = false := by simp; omega
      have hkn : k = n := by omega
      have HKN := Lib.hid hkn
      clear hlt hk hkn
      go_wp2_with fail
      go_ret
      refine ⟨?_, HB.out⟩
      rcases hb with ⟨e1, e2⟩ | ⟨j, x, e1, HF⟩
      · exact .inl ⟨List.eq_nil_of_length_eq_zero (by rw [← HN.out, ← HKN.out, e1]), by rw [e2]; rfl⟩
      · exact .inr ⟨j, x, by rw [e1]; rfl, by rw [← HN.out, ← HKN.out]; exact HF.out⟩
end Go.Proofs.Ytodjfebceljjgaa.U
