/- Which thing is ahead. -/
import Derived.Test.YtodjfebceljjgaaA1
namespace Go.Proofs.Ytodjfebceljjgaa.U
open Go.RowKit

set_option maxHeartbeats 1000000 in
/-- Whether a thing is ahead of another one. -/
theorem ahead_any {f : Nat} {g : Int × Int → Int × Int → Int} (hg : OrdC f g) (c d : Nat) (a i s b j t : Int) (w : World) (hc : w.cell? ⟨c, 0, none⟩ = some (.func (.func f) #[] #[])) (hlc : c < w.heap.size) (hd : w.cell? ⟨d, 0, none⟩ = some (.func (.func 50) #[] #[.pointer (some ⟨c, 0, none⟩)])) (hld : d < w.heap.size) :
    Calls Try.prog 49 #[.agg #[.int .i64 a, .int .i64 i, .int .i64 s], .agg #[.int .i64 b, .int .i64 j, .int .i64 t], .pointer (some ⟨d, 0, none⟩)] w fun e w' => e = .returned (.bool (decide (orI (g (a, i) (b, j)) (cmpI s t) < 0))) ∧ Below w.heap.size w w' := by
  obtain ⟨W0, hW0⟩ : ∃ W0, W0 = (w.alloc (.cells #[.int .i64 a, .int .i64 i, .int .i64 s] 70)).alloc (.cells #[.int .i64 b, .int .i64 j, .int .i64 t] 70) := ⟨_, rfl⟩
  have hb0 : Below w.heap.size w W0 := by rw [hW0]; exact two_new _ _ _
  have HB0 : Hid (Below w.heap.size w W0) := Lib.hid hb0
  have hsz : W0.heap.size = w.heap.size + 2 := by rw [hW0]; simp
  have hc0 : W0.cell? ⟨c, 0, none⟩ = some (.func (.func f) #[] #[]) := (hb0.cell hlc).trans hc
  have hd0 : W0.cell? ⟨d, 0, none⟩ = some (.func (.func 50) #[] #[.pointer (some ⟨c, 0, none⟩)]) := (hb0.cell hld).trans hd
  have x0 : W0.cell? ⟨w.heap.size, 0, none⟩ = some (.int .i64 a) := by rw [hW0]; simp [go_sem]
  have x1 : W0.cell? ⟨w.heap.size, 1, none⟩ = some (.int .i64 i) := by rw [hW0]; simp [go_sem]
  have x2 : W0.cell? ⟨w.heap.size, 2, none⟩ = some (.int .i64 s) := by rw [hW0]; simp [go_sem]
  have y0 : W0.cell? ⟨w.heap.size + 1, 0, none⟩ = some (.int .i64 b) := by rw [hW0]; simp [go_sem]
  have y1 : W0.cell? ⟨w.heap.size + 1, 1, none⟩ = some (.int .i64 j) := by rw [hW0]; simp [go_sem]
  have y2 : W0.cell? ⟨w.heap.size + 1, 2, none⟩ = some (.int .i64 t) := by rw [hW0]; simp [go_sem]
  have HLC := Lib.hid hlc
  have HSZ := Lib.hid hsz
  have HKEEP : Hid (∀ W, Below W0.heap.size W0 W → W.cell? ⟨w.heap.size, 0, none⟩ = some (.int .i64 a) ∧ W.cell? ⟨w.heap.size, 1, none⟩ = some (.int .i64 i) ∧ W.cell? ⟨w.heap.size, 2, none⟩ = some (.int .i64 s) ∧ W.cell? ⟨w.heap.size + 1, 0, none⟩ = some (.int .i64 b) ∧ W.cell? ⟨w.heap.size + 1, 1, none⟩ = some (.int .i64 j) ∧ W.cell? ⟨w.heap.size + 1, 2, none⟩ = some (.int .i64 t) ∧ W.cell? ⟨c, 0, none⟩ = some (.func (.func f) #[] #[]) ∧ W.cell? ⟨d, 0, none⟩ = some (.func (.func 50) #[] #[.pointer (some ⟨c, 0, none⟩)]) ∧ Hid (Below W0.heap.size W0 W)) := Lib.hid (fun W h => by
    have k : ∀ (p : Addr), p.block < W0.heap.size → W.cell? p = W0.cell? p := fun p hp => h.cell hp
    refine ⟨(k _ ?_).trans x0, (k _ ?_).trans x1, (k _ ?_).trans x2, (k _ ?_).trans y0, (k _ ?_).trans y1, (k _ ?_).trans y2, (k _ ?_).trans hc0, (k _ ?_).trans hd0, h⟩ <;> simp only [] <;> omega)
  have HO : Hid (∀ W, Below W0.heap.size W0 W → Calls Try.prog 50 #[.agg #[.int .i64 a, .int .i64 i], .agg #[.int .i64 b, .int .i64 j], .pointer (some ⟨c, 0, none⟩)] W fun e w' => e = .returned (.int .i64 (g (a, i) (b, j))) ∧ Below W0.heap.size W0 w') := Lib.hid (fun W h => (calm_any hg c a i b j W ((h.cell (p := ⟨c, 0, none⟩) (by simp only []; omega)).trans hc0) (by have := h.size; omega)).mono (fun e w' k => ⟨k.1, th h (Nat.le_refl _) k.2⟩))
  clear hg hc0 hd0 x0 x1 x2 y0 y1 y2 hc hd hlc hld hsz hb0
  obtain ⟨r, hr⟩ : ∃ r, r = g (a, i) (b, j) := ⟨_, rfl⟩
  rw [← hr] at HO ⊢
  clear hr
  obtain ⟨q, hq⟩ : ∃ q, q = cmpI s t := ⟨_, rfl⟩
  have HC := Lib.hid (fun W => compare_any s t W)
  rw [← hq] at HC ⊢
  clear hq
  go_enter Try.func49, Try.ntmps49
  go_wp2_with fail
  rw [← hW0]
  clear hW0
  go_region_held3 (fun W => W.cell? ⟨w.heap.size, 0, none⟩ = some (.int .i64 a) ∧ W.cell? ⟨w.heap.size, 1, none⟩ = some (.int .i64 i) ∧ W.cell? ⟨w.heap.size, 2, none⟩ = some (.int .i64 s) ∧ W.cell? ⟨w.heap.size + 1, 0, none⟩ = some (.int .i64 b) ∧ W.cell? ⟨w.heap.size + 1, 1, none⟩ = some (.int .i64 j) ∧ W.cell? ⟨w.heap.size + 1, 2, none⟩ = some (.int .i64 t) ∧ W.cell? ⟨c, 0, none⟩ = some (.func (.func f) #[] #[]) ∧ W.cell? ⟨d, 0, none⟩ = some (.func (.func 50) #[] #[.pointer (some ⟨c, 0, none⟩)]) ∧ Hid (Below W0.heap.size W0 W)) (first | (refine HKEEP.out _ ?_; first | assumption | exact (Below.refl _ _).drew | exact al (by assumption) (Nat.le_refl _) _)) (first | (go_at_call 50; go_split_ands; refine (HO.out _ (Hid.out (by assumption))).mono ?_; rintro e w7 ⟨rfl, hM7⟩) | (go_at_call 37; refine (HC.out _).mono ?_; rintro e w8 ⟨rfl, rfl⟩) | (go_at_call 36; refine (or_any 2 _ r q _ (by simp [go_sem]) (by simp [go_sem])).mono ?_; rintro e w9 ⟨rfl, rfl⟩))
  all_goals (
    go_split_ands
    rename_i hMv
    have HBN := Lib.hid (th HB0.out (Nat.le_refl _) hMv.out)
    go_wp2
    go_ret
    exact ⟨rfl, HBN.out⟩)
end Go.Proofs.Ytodjfebceljjgaa.U
