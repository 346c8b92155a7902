/- The plain functions of layer 2: what digits tell. No dump is read here. -/
import Derived.Test.YtcfnmhadihhfaaaDoorNm
namespace Go.Proofs.YtcfnmhadihhfaaaDoor.U

/-- A digit's number; -1: it is none. -/
def digV (c : Int) : Int := if 48 ≤ c ∧ c ≤ 57 then c - 48 else if 97 ≤ c ∧ c ≤ 102 then c - 87 else if 65 ≤ c ∧ c ≤ 70 then c - 55 else -1
/-- What digits tell behind a number. -/
def numA (base : Int) : Int → List UInt8 → Option Int
  | a, [] => some a
  | a, c :: t => if 0 ≤ digV c.toNat ∧ digV c.toNat < base then numA base (a * base + digV c.toNat) t else none
/-- What digits tell, from one to eight of them. -/
def numL (base : Int) (l : List UInt8) : Option Int := if 1 ≤ l.length ∧ l.length ≤ 8 then numA base 0 l else none

theorem digV_1 {c : Int} (h : 48 ≤ c ∧ c ≤ 57) : digV c = c - 48 := by unfold digV; rw [if_pos h]
theorem digV_2 {c : Int} (h : 97 ≤ c ∧ c ≤ 102) : digV c = c - 87 := by unfold digV; rw [if_neg (by omega), if_pos h]
theorem digV_3 {c : Int} (h : 65 ≤ c ∧ c ≤ 70) : digV c = c - 55 := by unfold digV; rw [if_neg (by omega), if_neg (by omega), if_pos h]
theorem digV_4 {c : Int} (h : ¬ (48 ≤ c ∧ c ≤ 57) ∧ ¬ (97 ≤ c ∧ c ≤ 102) ∧ ¬ (65 ≤ c ∧ c ≤ 70)) : digV c = -1 := by unfold digV; rw [if_neg h.1, if_neg h.2.1, if_neg h.2.2]
theorem digV_lt (c : Int) : -1 ≤ digV c ∧ digV c < 16 := by
  unfold digV; repeat' split
  all_goals omega

theorem numA_cons {base a d : Int} {c : UInt8} {t : List UInt8} (h : digV c.toNat = d) (h0 : 0 ≤ d) (h1 : d < base) : numA base a (c :: t) = numA base (a * base + d) t := by
  simp only [numA, h]; rw [if_pos ⟨h0, h1⟩]
theorem numA_none {base a d : Int} {c : UInt8} {t : List UInt8} (h : digV c.toNat = d) (h0 : d < 0 ∨ base ≤ d) : numA base a (c :: t) = none := by
  simp only [numA, h]; rw [if_neg (by omega)]
theorem numA_digit {base a : Int} {c : UInt8} {t : List UInt8} (h : 48 ≤ c.toNat ∧ c.toNat ≤ 57) (hb : 10 ≤ base) : numA base a (c :: t) = numA base (a * base + ((c.toNat : Int) - 48)) t :=
  numA_cons (digV_1 (by omega)) (by omega) (by omega)
theorem numA_letter {base a : Int} {c : UInt8} {t : List UInt8} (h : 97 ≤ c.toNat ∧ c.toNat ≤ 122) (hb : (c.toNat : Int) - 87 < base ∧ base ≤ 16) : numA base a (c :: t) = numA base (a * base + ((c.toNat : Int) - 87)) t :=
  numA_cons (digV_2 (by omega)) (by omega) (by omega)
theorem numA_upper {base a : Int} {c : UInt8} {t : List UInt8} (h : 65 ≤ c.toNat ∧ c.toNat ≤ 90) (hb : (c.toNat : Int) + 32 - 87 < base ∧ base ≤ 16) : numA base a (c :: t) = numA base (a * base + ((c.toNat : Int) + 32 - 87)) t :=
  numA_cons ((digV_3 (by omega)).trans (by omega)) (by omega) (by omega)
theorem numA_letter_no {base a : Int} {c : UInt8} {t : List UInt8} (h : 97 ≤ c.toNat ∧ c.toNat ≤ 122) (hb : ¬ ((c.toNat : Int) - 87 < base) ∧ base ≤ 16) : numA base a (c :: t) = none := by
  by_cases h1 : c.toNat ≤ 102
  · exact numA_none (digV_2 (by omega)) (by omega)
  · exact numA_none (digV_4 (by omega)) (by omega)
theorem numA_upper_no {base a : Int} {c : UInt8} {t : List UInt8} (h : 65 ≤ c.toNat ∧ c.toNat ≤ 90) (hb : ¬ ((c.toNat : Int) + 32 - 87 < base) ∧ base ≤ 16) : numA base a (c :: t) = none := by
  by_cases h1 : c.toNat ≤ 70
  · exact numA_none (digV_3 (by omega)) (by omega)
  · exact numA_none (digV_4 (by omega)) (by omega)
theorem numA_no {base a : Int} {c : UInt8} {t : List UInt8} (h : ¬ (48 ≤ c.toNat ∧ c.toNat ≤ 57)) (h' : ¬ ((65 ≤ c.toNat ∧ c.toNat ≤ 90) ∨ (97 ≤ c.toNat ∧ c.toNat ≤ 122))) : numA base a (c :: t) = none :=
  numA_none (digV_4 (by omega)) (by omega)

/-- Up to eight digits tell less than 2 to the 32nd. -/
theorem numA_bound {base : Int} (hb : 10 ≤ base ∧ base ≤ 16) : ∀ (l : List UInt8) (a : Int) (k : Nat) (n : Int), 0 ≤ a → a < 16 ^ k → numA base a l = some n → 0 ≤ n ∧ n < 16 ^ (k + l.length) := by
  intro l
  induction l with
  | nil => intro a k n h0 h1 h; simp only [numA, Option.some.injEq] at h; subst h; simpa using ⟨h0, h1⟩
  | cons c t ih =>
    intro a k n h0 h1 h
    simp only [numA] at h
    split at h
    · rename_i hd
      have hp : (16 : Int) ^ (k + 1) = 16 ^ k * 16 := Int.pow_succ _ _
      have hm : a * base ≤ a * 16 := Int.mul_le_mul_of_nonneg_left hb.2 h0
      have hm0 : 0 ≤ a * base := Int.mul_nonneg h0 (by omega)
      have hd2 := (digV_lt c.toNat).2
      have := ih (a * base + digV c.toNat) (k + 1) n (by omega) (by omega) h
      rw [List.length_cons, show k + (t.length + 1) = k + 1 + t.length by omega]
      exact this
    · cases h
theorem numL_bound {base : Int} (hb : 10 ≤ base ∧ base ≤ 16) {l : List UInt8} {n : Int} (h : numL base l = some n) : 0 ≤ n ∧ n < 4294967296 := by
  unfold numL at h
  split at h
  · rename_i hl
    have h1 := numA_bound hb l 0 0 n (by omega) (by decide) h
    have h2 : (16 : Int) ^ (0 + l.length) ≤ 16 ^ 8 := by
      have : (16 : Nat) ^ (0 + l.length) ≤ 16 ^ 8 := Nat.pow_le_pow_right (by omega) (by omega)
      exact_mod_cast this
    have h3 : (16 : Int) ^ 8 = 4294967296 := by decide
    omega
  · cases h
end Go.Proofs.YtcfnmhadihhfaaaDoor.U
