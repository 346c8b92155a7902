/- The plain functions of layer 2: what a reference tells. No dump is read here. -/
import Derived.Test.YtcfnmhadihhfaaaDoorNum
import Derived.Test.YtcfnmhadihhfaaaDoorFns
import Derived.Lib.Strings
import Derived.Lib.Bytealg
import Derived.Lib.RuneBytes
import Derived.RowKit3
namespace Go.Proofs.YtcfnmhadihhfaaaDoor.U
open Go.RowKit

/-- The number that a reference's word tells; 0: it tells none. -/
def wordV (l : List UInt8) : Int :=
  if l = [97, 109, 112] then 38 else if l = [108, 116] then 60 else if l = [103, 116] then 62 else if l = [113, 117, 111, 116] then 34 else if l = [97, 112, 111, 115] then 39
  else if Lib.hasPrefix l [35, 120] = true then (numL 16 (l.drop 2)).getD 0 else if Lib.hasPrefix l [35] = true then (numL 10 (l.drop 1)).getD 0 else 0

theorem wordV_bound (l : List UInt8) : 0 ≤ wordV l ∧ wordV l < 4294967296 := by
  unfold wordV
  repeat' split
  · omega
  · omega
  · omega
  · omega
  · omega
  · cases h : numL 16 (l.drop 2) with
    | none => simp
    | some n => exact numL_bound (by omega) h
  · cases h : numL 10 (l.drop 1) with
    | none => simp
    | some n => exact numL_bound (by omega) h
  · omega

theorem wrap32_lit {n : Int} (h : 0 ≤ n ∧ n < 2147483648) : wrap32 n = n := by unfold wrap32; omega
theorem isC_wrap {n : Int} (h0 : 0 ≤ n) (h1 : n < 4294967296) : isC (wrap32 n) = isC n := by
  unfold isC wrap32
  simp only [decide_eq_decide]
  omega
theorem wrap_isC {n : Int} (h : isC n = true) : wrap32 n = n := by
  have := isC_bounds h
  unfold wrap32
  omega

/-- How far it is to the first semicolon. -/
def semi (l : List UInt8) : Nat := (l.takeWhile fun b => b != 59).length
/-- The reference behind an ampersand: its character, and how many bytes it has (with the semicolon). -/
def refL (l : List UInt8) : Option (Int × Nat) :=
  if semi l < l.length ∧ isC (wordV (l.take (semi l))) = true then some (wordV (l.take (semi l)), semi l + 1) else none

theorem semi_le (l : List UInt8) : semi l ≤ l.length := by
  unfold semi; exact List.Sublist.length_le (List.takeWhile_sublist _)
theorem semi_cons_no {b : UInt8} {l : List UInt8} (h : b ≠ 59) : semi (b :: l) = semi l + 1 := by
  unfold semi; rw [List.takeWhile_cons_of_pos (by simpa using h)]; rfl
theorem semi_cons_yes {l : List UInt8} : semi (59 :: l) = 0 := by
  unfold semi; rw [List.takeWhile_cons_of_neg (by simp)]; rfl
/-- What strings.IndexByte tells of it. -/
theorem index_semi (l : List UInt8) : Lib.indexByte l 59 = if semi l < l.length then (semi l : Int) else -1 := by
  induction l with
  | nil => rfl
  | cons b t ih =>
    by_cases h : b = 59
    · subst h
      rw [semi_cons_yes]
      simp [Lib.indexByte]
    · rw [semi_cons_no h]
      have hb : (b == 59) = false := by simpa using h
      simp only [Lib.indexByte, hb, ih, List.length_cons, Bool.false_eq_true, if_false]
      by_cases h2 : semi t < t.length
      · have : ((semi t : Int) == -1) = false := by simp
        rw [if_pos h2, this, if_pos (show semi t + 1 < t.length + 1 by omega)]
        simp
      · rw [if_neg h2, if_neg (show ¬ semi t + 1 < t.length + 1 by omega)]
        rfl
theorem prefix2 {l : List UInt8} : Lib.hasPrefix l [35, 120] = true ↔ 2 ≤ l.length ∧ l[0]?.getD 0 = 35 ∧ l[1]?.getD 0 = 120 := by
  unfold Lib.hasPrefix
  match l with
  | [] => simp
  | [a] => simp [List.isPrefixOf]
  | a :: b :: t => simp [List.isPrefixOf]; constructor <;> (rintro ⟨rfl, rfl⟩; exact ⟨rfl, rfl⟩)
theorem prefix1 {l : List UInt8} : Lib.hasPrefix l [35] = true ↔ 1 ≤ l.length ∧ l[0]?.getD 0 = 35 := by
  unfold Lib.hasPrefix
  match l with
  | [] => simp
  | a :: t => simp [List.isPrefixOf]; constructor <;> (rintro rfl; rfl)
end Go.Proofs.YtcfnmhadihhfaaaDoor.U
