/- The contract of utf.begin. -/
import Derived.Test.YtcfnmhadihhfaaaDoorBase
import Derived.Test.YtcfnmhadihhfaaaDoorEnc
import Derived.Test.YtcfnmhadihhfaaaDoorSmall
namespace Go.Proofs.YtcfnmhadihhfaaaDoor.U
open Go.RowKit

theorem rx0 (c0 c1 c2 c3 c4 c5 c6 c7 c8 c9 c10 c11 : Value) (w : World) : (Instr.index 90 (.agg #[c0, c1, c2, c3, c4, c5, c6, c7, c8, c9, c10, c11]) (.int .i64 0)).run Tryd.prog w = .ok (.agg #[c0, c1, c2]) w := by kernel_rfl
theorem rx1 (c0 c1 c2 c3 c4 c5 c6 c7 c8 c9 c10 c11 : Value) (w : World) : (Instr.index 90 (.agg #[c0, c1, c2, c3, c4, c5, c6, c7, c8, c9, c10, c11]) (.int .i64 1)).run Tryd.prog w = .ok (.agg #[c3, c4, c5]) w := by kernel_rfl
theorem rx2 (c0 c1 c2 c3 c4 c5 c6 c7 c8 c9 c10 c11 : Value) (w : World) : (Instr.index 90 (.agg #[c0, c1, c2, c3, c4, c5, c6, c7, c8, c9, c10, c11]) (.int .i64 2)).run Tryd.prog w = .ok (.agg #[c6, c7, c8]) w := by kernel_rfl
theorem rx3 (c0 c1 c2 c3 c4 c5 c6 c7 c8 c9 c10 c11 : Value) (w : World) : (Instr.index 90 (.agg #[c0, c1, c2, c3, c4, c5, c6, c7, c8, c9, c10, c11]) (.int .i64 3)).run Tryd.prog w = .ok (.agg #[c9, c10, c11]) w := by kernel_rfl

set_option maxHeartbeats 2000000 in
theorem begin_any (c : Int) (w : World) (hl : Lay w) (h0 : 0 ≤ c) (h1 : c ≤ 255) : Calls Tryd.prog 54 #[.int .u8 c] w fun e w' => e = .returned (.tuple #[.int .i32 (begV c), .int .i64 (begN c)]) ∧ Below w.heap.size w w' := by
  obtain ⟨t0, f0, hr⟩ := hl.rows
  have hsz := hl.size
  have i0 := @rx0
  have i1 := @rx1
  have i2 := @rx2
  have i3 := @rx3
  rcases (show c ≤ 127 ∨ (127 < c ∧ c < 192) ∨ (192 ≤ c ∧ c ≤ 223) ∨ (224 ≤ c ∧ c ≤ 239) ∨ (240 ≤ c ∧ c ≤ 247) ∨ 247 < c by omega) with h | ⟨h, h'⟩ | ⟨h, h'⟩ | ⟨h, h'⟩ | ⟨h, h'⟩ | h
  · have HC := Lib.hid (show begV c = c ∧ begN c = 1 by unfold begV begN; constructor <;> (repeat (first | rw [if_pos (by omega)] | rw [if_neg (by omega)])))
    go_enter Tryd.func54, Tryd.ntmps54
    go_wp2_with (refine wpList_load_row rfl 90 _ rfl 2 rfl t0 _ f0 _ hr Tryd.underlying90 rfl (by kernel_rfl) ?_)
    refine wp_loop_rounds 1 ?_
    rw [rounds_succ]
    go_wp2
    go_ret2
    exact ⟨by rw [HC.out.1, HC.out.2]; rfl, by repeat (first | exact Below.refl _ _ | refine al ?_ (Nat.le_refl _) _)⟩
  · have HC := Lib.hid (show begV c = 0 ∧ begN c = 0 by unfold begV begN; constructor <;> (repeat (first | rw [if_pos (by omega)] | rw [if_neg (by omega)])))
    go_enter Tryd.func54, Tryd.ntmps54
    go_wp2_with (refine wpList_load_row rfl 90 _ rfl 2 rfl t0 _ f0 _ hr Tryd.underlying90 rfl (by kernel_rfl) ?_)
    refine wp_loop_rounds 5 ?_
    rw [rounds_succ]
    go_wp2
    rw [rounds_succ]
    go_wp2
    rw [rounds_succ]
    go_wp2
    rw [rounds_succ]
    go_wp2
    rw [rounds_succ]
    go_wp2
    go_ret2
    exact ⟨by rw [HC.out.1, HC.out.2]; rfl, by repeat (first | exact Below.refl _ _ | refine al ?_ (Nat.le_refl _) _)⟩
  · have HC := Lib.hid (show begV c = c - 192 ∧ begN c = 2 by unfold begV begN; constructor <;> (repeat (first | rw [if_pos (by omega)] | rw [if_neg (by omega)])))
    go_enter Tryd.func54, Tryd.ntmps54
    go_wp2_with (refine wpList_load_row rfl 90 _ rfl 2 rfl t0 _ f0 _ hr Tryd.underlying90 rfl (by kernel_rfl) ?_)
    refine wp_loop_rounds 2 ?_
    rw [rounds_succ]
    go_wp2
    rw [rounds_succ]
    go_wp2
    go_ret2
    exact ⟨by rw [HC.out.1, HC.out.2]; rfl, by repeat (first | exact Below.refl _ _ | refine al ?_ (Nat.le_refl _) _)⟩
  · have HC := Lib.hid (show begV c = c - 224 ∧ begN c = 3 by unfold begV begN; constructor <;> (repeat (first | rw [if_pos (by omega)] | rw [if_neg (by omega)])))
    go_enter Tryd.func54, Tryd.ntmps54
    go_wp2_with (refine wpList_load_row rfl 90 _ rfl 2 rfl t0 _ f0 _ hr Tryd.underlying90 rfl (by kernel_rfl) ?_)
    refine wp_loop_rounds 3 ?_
    rw [rounds_succ]
    go_wp2
    rw [rounds_succ]
    go_wp2
    rw [rounds_succ]
    go_wp2
    go_ret2
    exact ⟨by rw [HC.out.1, HC.out.2]; rfl, by repeat (first | exact Below.refl _ _ | refine al ?_ (Nat.le_refl _) _)⟩
  · have HC := Lib.hid (show begV c = c - 240 ∧ begN c = 4 by unfold begV begN; constructor <;> (repeat (first | rw [if_pos (by omega)] | rw [if_neg (by omega)])))
    go_enter Tryd.func54, Tryd.ntmps54
    go_wp2_with (refine wpList_load_row rfl 90 _ rfl 2 rfl t0 _ f0 _ hr Tryd.underlying90 rfl (by kernel_rfl) ?_)
    refine wp_loop_rounds 4 ?_
    rw [rounds_succ]
    go_wp2
    rw [rounds_succ]
    go_wp2
    rw [rounds_succ]
    go_wp2
    rw [rounds_succ]
    go_wp2
    go_ret2
    exact ⟨by rw [HC.out.1, HC.out.2]; rfl, by repeat (first | exact Below.refl _ _ | refine al ?_ (Nat.le_refl _) _)⟩
  · have HC := Lib.hid (show begV c = 0 ∧ begN c = 0 by unfold begV begN; constructor <;> (repeat (first | rw [if_pos (by omega)] | rw [if_neg (by omega)])))
    go_enter Tryd.func54, Tryd.ntmps54
    go_wp2_with (refine wpList_load_row rfl 90 _ rfl 2 rfl t0 _ f0 _ hr Tryd.underlying90 rfl (by kernel_rfl) ?_)
    refine wp_loop_rounds 5 ?_
    rw [rounds_succ]
    go_wp2
    rw [rounds_succ]
    go_wp2
    rw [rounds_succ]
    go_wp2
    rw [rounds_succ]
    go_wp2
    rw [rounds_succ]
    go_wp2
    go_ret2
    exact ⟨by rw [HC.out.1, HC.out.2]; rfl, by repeat (first | exact Below.refl _ _ | refine al ?_ (Nat.le_refl _) _)⟩
end Go.Proofs.YtcfnmhadihhfaaaDoor.U
