/- The law's own helper Things, of two lists that are the same. -/
import Derived.Test.YtodjfebceljjgaaL0
namespace Go.Proofs.Ytodjfebceljjgaa.U
open Go.RowKit

set_option maxHeartbeats 2000000 in
set_option maxRecDepth 10000 in
theorem things_any (va vb : Value) (l : List T2) (w : World) (ha : RT w va l) (hb : RT w vb l) :
    Calls Try.prog 21 #[va, vb] w fun e w' => e = .returned (.bool true) ∧ Below w.heap.size w w' := by
  obtain ⟨a, c, rfl, h1, h2, h3⟩ := ha
  obtain ⟨b, d, rfl, h4, h5, h6⟩ := hb
  have HW : Hid (∀ k : Nat, k < l.length → wrap64 ((k : Int) + 1) = (k : Int) + 1) := Lib.hid (fun k hk => by unfold maxLen at h2; unfold wrap64; omega)
  have hn0 : wrap64 (l.length : Int) = l.length := by unfold maxLen at h2; unfold wrap64; omega
  obtain ⟨n, hn⟩ : ∃ n, n = l.length := ⟨_, rfl⟩
  have HN := Lib.hid hn
  rw [← hn] at HW hn0 ⊢
  have H3 := Lib.hid h3
  have H6 := Lib.hid h6
  clear h1 h2 h3 h4 h5 h6 hn
  go_enter Try.func21, Try.ntmps21
  go_wp2_with fail
  go_loopw [5] (fun i wr => ∃ k : Nat, i = .int .i64 k ∧ k ≤ n ∧ Hid (Below w.heap.size w wr)) (fun i _ => n - (intOf i).toNat)
  case atStart => exact ⟨0, rfl, by omega, Lib.hid (Below.refl _ _)⟩
  case round =>
    obtain ⟨k, rfl, hk, HB⟩ := hrel
    by_cases hlt : k < n
    · obtain ⟨x, hx⟩ : ∃ x, l[k]? = some x := ⟨_, List.getElem?_eq_getElem (by rw [← HN.out]; exact hlt)⟩
      obtain ⟨g, o, rfl, q3⟩ := H3.out (by rw [← HN.out]; omega)
      obtain ⟨g', o', rfl, q6⟩ := H6.out (by rw [← HN.out]; omega)
      obtain ⟨a1, a2⟩ := q3 k x hx
      obtain ⟨b1, b2⟩ := q6 k x hx
      have HKEEP : Hid (∀ W, Below w.heap.size w W → W.cell? ⟨g, o + k * 2, none⟩ = some (.int .i64 x.1) ∧ W.cell? ⟨g, o + k * 2 + 1, none⟩ = some (.int .i64 x.2) ∧ W.cell? ⟨g', o' + k * 2, none⟩ = some (.int .i64 x.1) ∧ W.cell? ⟨g', o' + k * 2 + 1, none⟩ = some (.int .i64 x.2) ∧ Hid (Below w.heap.size w W)) := Lib.hid (fun W h => by
        have t : ∀ {p : Addr} {u : Value}, w.cell? p = some u → W.cell? p = some u := fun hp => (h.cell (blk_of_cell hp)).trans hp
        exact ⟨t a1, t a2, t b1, t b2, h⟩)
      have hw1 := HW.out k hlt
      have hi0 : (0 : Int) ≤ k := by omega
      have hi1 : (k : Int) < n := by omega
      have hd1 : decide ((k : Int) < n) = true := by simp; omega
      have HLT := Lib.hid hlt
      clear hx q3 q6 a1 a2 b1 b2 hk
      go_wp2_with fail
      go_region_held3 (fun W => W.cell? ⟨g, o + k * 2, none⟩ = some (.int .i64 x.1) ∧ W.cell? ⟨g, o + k * 2 + 1, none⟩ = some (.int .i64 x.2) ∧ W.cell? ⟨g', o' + k * 2, none⟩ = some (.int .i64 x.1) ∧ W.cell? ⟨g', o' + k * 2 + 1, none⟩ = some (.int .i64 x.2) ∧ Hid (Below w.heap.size w W)) (first | (refine HKEEP.out _ ?_; first | assumption | exact HB.out.drew)) (first | fail)
      all_goals (
        go_split_ands
        rename_i hMv
        have HBN := Lib.hid hMv.out
        go_wp2_with fail
        go_roundw
        case rel => exact ⟨k + 1, by rw [hw1]; go_num, by have := HLT.out; omega, HBN⟩
        case measure => rw [hw1]; have := HLT.out; simp only [intOf]; omega)
    · have hd1 : decide ((k : Int) < n) = false := by simp; omega
      have hd2 : decide (k < n) = false := by simp; omega
      clear hlt hk
      go_wp2_with fail
      go_ret
      exact ⟨rfl, HB.out⟩
end Go.Proofs.Ytodjfebceljjgaa.U
