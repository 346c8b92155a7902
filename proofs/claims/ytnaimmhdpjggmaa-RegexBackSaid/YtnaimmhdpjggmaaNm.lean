/- The plain functions of layer 2: names and blanks. No dump is read here. -/
import Derived.Below
import Derived.Laws.RangeAny
namespace Go.Proofs.Ytnaimmhdpjggmaa.U

/-- A letter; what may stand in a name; a blank. -/
def letterI (c : Int) : Bool := decide ((97 ≤ c ∧ c ≤ 122) ∨ (65 ≤ c ∧ c ≤ 90) ∨ c = 95)
def namedI (c : Int) : Bool := decide ((97 ≤ c ∧ c ≤ 122) ∨ (65 ≤ c ∧ c ≤ 90) ∨ c = 95 ∨ (48 ≤ c ∧ c ≤ 57) ∨ c = 45 ∨ c = 46)
def blankI (c : Int) : Bool := decide (c = 9 ∨ c = 10 ∨ c = 13 ∨ c = 32)

/-- Whether all bytes are of a kind. -/
def allL (p : Int → Bool) (l : List UInt8) : Bool := l.all fun b => p b.toNat

/-- Whether bytes are a name. -/
def nameL (l : List UInt8) : Bool := decide (1 ≤ l.length ∧ l.length ≤ 64) && (allL letterI (l.take 1) && allL namedI l)

/-- The bytes of a text. -/
def bts (s : ByteArray) : List UInt8 := s.data.toList
theorem bts_len (s : ByteArray) : (bts s).length = s.size := by unfold bts; simp
theorem bts_get (s : ByteArray) (i : Nat) (h : i < s.size) : (bts s)[i]'(by rw [bts_len]; exact h) = s[i]'h := by unfold bts; simp; rfl
theorem bts_drop (s : ByteArray) (i : Nat) (h : i < s.size) : (bts s).drop i = s[i]'h :: (bts s).drop (i + 1) := by
  rw [List.drop_eq_getElem_cons (by rw [bts_len]; exact h), bts_get s i h]
theorem bts_take (s : ByteArray) (i : Nat) (h : i < s.size) : (bts s).take (i + 1) = (bts s).take i ++ [s[i]'h] := by
  rw [List.take_succ_eq_append_getElem (by rw [bts_len]; exact h), bts_get s i h]
theorem bts_mk (l : List UInt8) : bts ⟨l.toArray⟩ = l := by simp [bts]
theorem str_size (l : List UInt8) : (⟨l.toArray⟩ : ByteArray).size = l.length := by show l.toArray.size = _; simp
theorem mk_bts (s : ByteArray) : (⟨(bts s).toArray⟩ : ByteArray) = s := by cases s; simp [bts]
theorem bts_extract (s : ByteArray) (a b : Nat) : bts (s.extract a b) = ((bts s).take b).drop a := by
  unfold bts; rw [ByteArray.data_extract, Array.toList_extract]; simp [List.drop_take]
theorem bts_inj {s t : ByteArray} (h : bts s = bts t) : s = t := by rw [← mk_bts s, ← mk_bts t, h]
theorem bts_append (s t : ByteArray) : bts (s ++ t) = bts s ++ bts t := by unfold bts; simp [ByteArray.data_append]
theorem allL_false {p : Int → Bool} (s : ByteArray) (i : Nat) (h : i < s.size) (hp : p (s[i]'h).toNat = false) : allL p (bts s) = false := by
  unfold allL
  rw [List.all_eq_false]
  exact ⟨s[i]'h, by rw [← bts_get s i h]; exact List.getElem_mem _, by simp [hp]⟩
end Go.Proofs.Ytnaimmhdpjggmaa.U
