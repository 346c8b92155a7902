/- The plain functions of layer 1: which numbers are characters, how many bytes each has. No dump is read here. -/
import Derived.Below
namespace Go.Proofs.YtcfnmhadihhfaaaDoor.U

/-- Whether a number is a character. -/
def isC (r : Int) : Bool := decide ((9 ≤ r ∧ r ≤ 10) ∨ (13 ≤ r ∧ r ≤ 13) ∨ (32 ≤ r ∧ r ≤ 55295) ∨ (57344 ≤ r ∧ r ≤ 65533) ∨ (65536 ≤ r ∧ r ≤ 1114111))
theorem isC_yes {r : Int} (h : (9 ≤ r ∧ r ≤ 10) ∨ (13 ≤ r ∧ r ≤ 13) ∨ (32 ≤ r ∧ r ≤ 55295) ∨ (57344 ≤ r ∧ r ≤ 65533) ∨ (65536 ≤ r ∧ r ≤ 1114111)) : isC r = true := by
  simp only [isC, decide_eq_true_eq]; exact h
theorem isC_no {r : Int} (h : ¬ ((9 ≤ r ∧ r ≤ 10) ∨ (13 ≤ r ∧ r ≤ 13) ∨ (32 ≤ r ∧ r ≤ 55295) ∨ (57344 ≤ r ∧ r ≤ 65533) ∨ (65536 ≤ r ∧ r ≤ 1114111))) : isC r = false := by
  simp only [isC, decide_eq_false_iff_not]; exact h
theorem isC_iff {r : Int} : isC r = true ↔ ((9 ≤ r ∧ r ≤ 10) ∨ (13 ≤ r ∧ r ≤ 13) ∨ (32 ≤ r ∧ r ≤ 55295) ∨ (57344 ≤ r ∧ r ≤ 65533) ∨ (65536 ≤ r ∧ r ≤ 1114111)) := by
  simp only [isC, decide_eq_true_eq]
theorem isC_bounds {r : Int} (h : isC r = true) : 9 ≤ r ∧ r ≤ 1114111 := by
  rw [isC_iff] at h; omega

/-- How many bytes a character has. -/
def sizeC (r : Int) : Nat := if r < 128 then 1 else if r < 2048 then 2 else if r < 65536 then 3 else 4
theorem sizeC_1 {r : Int} (h : r < 128) : sizeC r = 1 := by simp [sizeC, h]
theorem sizeC_2 {r : Int} (h1 : 128 ≤ r) (h : r < 2048) : sizeC r = 2 := by
  unfold sizeC; rw [if_neg (by omega), if_pos h]
theorem sizeC_3 {r : Int} (h1 : 2048 ≤ r) (h : r < 65536) : sizeC r = 3 := by
  unfold sizeC; rw [if_neg (by omega), if_neg (by omega), if_pos h]
theorem sizeC_4 {r : Int} (h1 : 65536 ≤ r) : sizeC r = 4 := by
  unfold sizeC; rw [if_neg (by omega), if_neg (by omega), if_neg (by omega)]
end Go.Proofs.YtcfnmhadihhfaaaDoor.U
