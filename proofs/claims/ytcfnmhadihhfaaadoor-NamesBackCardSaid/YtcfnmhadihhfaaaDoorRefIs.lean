/- The contract of ref.Is. -/
import Derived.Test.YtcfnmhadihhfaaaDoorBase
namespace Go.Proofs.YtcfnmhadihhfaaaDoor.U
open Go.RowKit

set_option maxHeartbeats 1000000 in
theorem refIs_any (n : Int) (w : World) : Calls Tryd.prog 40 #[.int .i64 n] w fun e w' => e = .returned (.bool (isC n)) ∧ w = w' := by
  rcases (show n < 9 ∨ (9 ≤ n ∧ n ≤ 9) ∨ (10 ≤ n ∧ n ≤ 10) ∨ (10 < n ∧ n < 13) ∨ (13 ≤ n ∧ n ≤ 13) ∨ (13 < n ∧ n < 32) ∨ (32 ≤ n ∧ n ≤ 55295) ∨ (55295 < n ∧ n < 57344) ∨ (57344 ≤ n ∧ n ≤ 65533) ∨ (65533 < n ∧ n < 65536) ∨ (65536 ≤ n ∧ n ≤ 1114111) ∨ 1114111 < n by omega) with h | ⟨h, h'⟩ | ⟨h, h'⟩ | ⟨h, h'⟩ | ⟨h, h'⟩ | ⟨h, h'⟩ | ⟨h, h'⟩ | ⟨h, h'⟩ | ⟨h, h'⟩ | ⟨h, h'⟩ | ⟨h, h'⟩ | h
  all_goals
    first
    | (have HC := Lib.hid (isC_yes (r := n) (by omega)))
    | (have HC := Lib.hid (isC_no (r := n) (by omega)))
  all_goals
    go_enter Tryd.func40, Tryd.ntmps40
    go_wp2
    go_ret
    exact ⟨by rw [HC.out]; first | rfl | (simp; done) | (simp; omega), rfl⟩
end Go.Proofs.YtcfnmhadihhfaaaDoor.U
