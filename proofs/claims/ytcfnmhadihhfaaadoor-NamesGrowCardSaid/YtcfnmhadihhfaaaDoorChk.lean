/- The plain functions of layer 1: up to where bytes are characters, and which ones. No dump is read here. -/
import Derived.Test.YtcfnmhadihhfaaaDoorDec
namespace Go.Proofs.YtcfnmhadihhfaaaDoor.U
open Go.RowKit

theorem decC_some {l : List Int} {r : Int} {n : Nat} (h : decC l = some (r, n)) : 1 ≤ n ∧ n ≤ 4 ∧ n ≤ l.length ∧ isC r = true ∧ sizeC r = n := by
  cases l with
  | nil => cases h
  | cons c t =>
    rw [decC_cons] at h
    split at h
    · cases h
    · rename_i hn
      split at h
      · cases h
      · split at h
        · rename_i hc
          simp only [Option.some.injEq, Prod.mk.injEq] at h
          obtain ⟨rfl, rfl⟩ := h
          have := begN_le c
          exact ⟨by omega, by omega, by simp; omega, hc.1, hc.2⟩
        · cases h

/-- The characters at the head of bytes, with fuel. -/
def runesF : Nat → List Int → List Int
  | 0, _ => []
  | f + 1, l => match decC l with
    | none => []
    | some (r, n) => r :: runesF f (l.drop n)
def runesC (l : List Int) : List Int := runesF l.length l
theorem runesF_more (f g : Nat) (l : List Int) (hf : l.length ≤ f) (hg : l.length ≤ g) : runesF f l = runesF g l := by
  induction f generalizing g l with
  | zero =>
    obtain rfl : l = [] := List.eq_nil_of_length_eq_zero (by omega)
    cases g with
    | zero => rfl
    | succ g => rfl
  | succ f ih =>
    cases g with
    | zero =>
      obtain rfl : l = [] := List.eq_nil_of_length_eq_zero (by omega)
      rfl
    | succ g =>
      simp only [runesF]
      split
      · rfl
      · rename_i r n h
        have := decC_some h
        rw [ih g (l.drop n) (by simp; omega) (by simp; omega)]
theorem runesC_none {l : List Int} (h : decC l = none) : runesC l = [] := by
  unfold runesC
  cases l with
  | nil => rfl
  | cons c t => simp only [List.length_cons, runesF, h]
theorem runesC_some {l : List Int} {r : Int} {n : Nat} (h : decC l = some (r, n)) : runesC l = r :: runesC (l.drop n) := by
  have hs := decC_some h
  unfold runesC
  cases l with
  | nil => cases h
  | cons c t =>
    have e : runesF (c :: t).length (c :: t) = r :: runesF t.length ((c :: t).drop n) := by
      simp only [List.length_cons, runesF, h]
    rw [e]
    congr 1
    refine runesF_more _ _ _ ?_ (Nat.le_refl _)
    simp only [List.length_drop, List.length_cons]; omega

/-- How many bytes characters have, in all. -/
def sizes (rs : List Int) : Nat := (rs.map sizeC).sum
/-- Up to where bytes are characters. -/
def chkC (l : List Int) : Nat := sizes (runesC l)
theorem chkC_none {l : List Int} (h : decC l = none) : chkC l = 0 := by unfold chkC; rw [runesC_none h]; rfl
theorem chkC_some {l : List Int} {r : Int} {n : Nat} (h : decC l = some (r, n)) : chkC l = n + chkC (l.drop n) := by
  unfold chkC; rw [runesC_some h]; simp [sizes, (decC_some h).2.2.2.2]
theorem chkC_nil : chkC [] = 0 := rfl
theorem chkC_le (l : List Int) : chkC l ≤ l.length := by
  obtain ⟨m, hm⟩ : ∃ m, l.length ≤ m := ⟨_, Nat.le_refl _⟩
  induction m generalizing l with
  | zero =>
    obtain rfl : l = [] := List.eq_nil_of_length_eq_zero (by omega)
    simp [chkC_nil]
  | succ m ih =>
    cases h : decC l with
    | none => rw [chkC_none h]; omega
    | some x =>
      obtain ⟨r, n⟩ := x
      have hs := decC_some h
      rw [chkC_some h]
      have := ih (l.drop n) (by simp; omega)
      simp only [List.length_drop] at this
      omega
end Go.Proofs.YtcfnmhadihhfaaaDoor.U
