/- The contracts of utf.size and utf.begin. -/
import Derived.Test.YtihijgghcecpmaaGreatDoorBase
import Derived.Deep.DeepMust
namespace Go.Proofs.YtihijgghcecpmaaGreatDoor.U
open Go.RowKit

/-- The rows' cells, one by one. -/
theorem Lay.row {w : World} (h : Lay w) : w.cell? ⟨0, 0, none⟩ = some (.int .i32 128) ∧ w.cell? ⟨0, 1, none⟩ = some (.int .u8 0) ∧ w.cell? ⟨0, 2, none⟩ = some (.int .u8 127) ∧ w.cell? ⟨0, 3, none⟩ = some (.int .i32 2048) ∧ w.cell? ⟨0, 4, none⟩ = some (.int .u8 192) ∧ w.cell? ⟨0, 5, none⟩ = some (.int .u8 223) ∧ w.cell? ⟨0, 6, none⟩ = some (.int .i32 65536) ∧ w.cell? ⟨0, 7, none⟩ = some (.int .u8 224) ∧ w.cell? ⟨0, 8, none⟩ = some (.int .u8 239) ∧ w.cell? ⟨0, 9, none⟩ = some (.int .i32 2097152) ∧ w.cell? ⟨0, 10, none⟩ = some (.int .u8 240) ∧ w.cell? ⟨0, 11, none⟩ = some (.int .u8 247) := by
  obtain ⟨t, f, h1⟩ := h.rows
  refine ⟨?_, ?_, ?_, ?_, ?_, ?_, ?_, ?_, ?_, ?_, ?_, ?_⟩ <;> rw [cell_of_row w 0 _ _ t f h1] <;> rfl

set_option maxHeartbeats 1000000 in
theorem size_any (r : Int) (w : World) (hl : Lay w) : Calls Tryz.prog 77 #[.int .i32 r] w fun e w' => e = .returned (.int .i64 (sizeC r)) ∧ w = w' := by
  obtain ⟨c0, _, _, c3, _, _, c6, _, _, _, _, _⟩ := hl.row
  rcases (show r < 128 ∨ (128 ≤ r ∧ r < 2048) ∨ (2048 ≤ r ∧ r < 65536) ∨ 65536 ≤ r by omega) with h | ⟨h, h'⟩ | ⟨h, h'⟩ | h
  · have HC := Lib.hid (sizeC_1 h)
    go_enter Tryz.func77, Tryz.ntmps77
    go_wp2
    refine wp_loop_rounds 1 ?_; rw [rounds_succ]
    go_wp2
    go_ret
    exact ⟨by rw [HC.out]; rfl, rfl⟩
  · have HC := Lib.hid (sizeC_2 h h')
    go_enter Tryz.func77, Tryz.ntmps77
    go_wp2
    refine wp_loop_rounds 2 ?_; rw [rounds_succ]
    go_wp2
    rw [rounds_succ]
    go_wp2
    go_ret
    exact ⟨by rw [HC.out]; rfl, rfl⟩
  · have HC := Lib.hid (sizeC_3 h h')
    go_enter Tryz.func77, Tryz.ntmps77
    go_wp2
    refine wp_loop_rounds 3 ?_; rw [rounds_succ]
    go_wp2
    rw [rounds_succ]
    go_wp2
    rw [rounds_succ]
    go_wp2
    go_ret
    exact ⟨by rw [HC.out]; rfl, rfl⟩
  · have HC := Lib.hid (sizeC_4 h)
    go_enter Tryz.func77, Tryz.ntmps77
    go_wp2
    refine wp_loop_rounds 4 ?_; rw [rounds_succ]
    go_wp2
    rw [rounds_succ]
    go_wp2
    rw [rounds_succ]
    go_wp2
    rw [rounds_succ]
    go_wp2
    go_ret
    exact ⟨by rw [HC.out]; rfl, rfl⟩
end Go.Proofs.YtihijgghcecpmaaGreatDoor.U
