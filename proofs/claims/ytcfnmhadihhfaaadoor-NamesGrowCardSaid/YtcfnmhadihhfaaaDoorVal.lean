/- The plain laws of layer 1: the document's way to read a character, by trying how many bytes it may have. No dump is read here. -/
import Derived.Test.YtcfnmhadihhfaaaDoorBack
namespace Go.Proofs.YtcfnmhadihhfaaaDoor.U
open Go.RowKit

/-- The number that s bytes would be. -/
def valC (s : Nat) (c0 c1 c2 c3 : Int) : Int :=
  if s = 1 then c0 else if s = 2 then 64 * (c0 - 192) + c1 - 128 else if s = 3 then 64 * (64 * (c0 - 224) + c1 - 128) + c2 - 128 else 64 * (64 * (64 * (c0 - 240) + c1 - 128) + c2 - 128) + c3 - 128

theorem read_yes {l : List Int} {n : Int} {s : Nat} (hs : s ≤ l.length) (hn : isC n = true) (h : encC n = l.take s) : decC l = some (n, s) := by
  have e : l = encC n ++ l.drop s := by rw [h, List.take_append_drop]
  have h2 := dec_enc hn (l.drop s)
  rw [← e] at h2
  have h3 : sizeC n = s := by rw [← encC_len, h]; simp; omega
  rw [h2, h3]

theorem get_take {l : List Int} {s i : Nat} (h : i < s) : (l.take s)[i]?.getD 0 = l[i]?.getD 0 := by rw [List.getElem?_take_of_lt h]

theorem read_val {l : List Int} {r : Int} {s : Nat} (h : decC l = some (r, s)) : valC s (l[0]?.getD 0) (l[1]?.getD 0) (l[2]?.getD 0) (l[3]?.getD 0) = r := by
  have hs := decC_some h
  have hb := isC_bounds hs.2.2.2.1
  have he := enc_dec h
  have hz := hs.2.2.2.2
  by_cases k1 : r < 128
  · rw [sizeC_1 k1] at hz; subst hz
    have g0 := get_take (l := l) (s := 1) (i := 0) (by omega)
    rw [he, encC_1 k1] at g0
    rw [← g0]; rfl
  · by_cases k2 : r < 2048
    · rw [sizeC_2 (by omega) k2] at hz; subst hz
      have g0 := get_take (l := l) (s := 2) (i := 0) (by omega)
      have g1 := get_take (l := l) (s := 2) (i := 1) (by omega)
      rw [he, encC_2 (by omega) k2] at g0 g1
      rw [← g0, ← g1]
      simp only [valC, List.getElem?_cons_zero, List.getElem?_cons_succ, Option.getD_some]
      rw [if_neg (by omega), if_pos trivial]; omega
    · by_cases k3 : r < 65536
      · rw [sizeC_3 (by omega) k3] at hz; subst hz
        have g0 := get_take (l := l) (s := 3) (i := 0) (by omega)
        have g1 := get_take (l := l) (s := 3) (i := 1) (by omega)
        have g2 := get_take (l := l) (s := 3) (i := 2) (by omega)
        rw [he, encC_3 (by omega) k3] at g0 g1 g2
        rw [← g0, ← g1, ← g2]
        simp only [valC, List.getElem?_cons_zero, List.getElem?_cons_succ, Option.getD_some]
        rw [if_neg (by omega), if_neg (by omega), if_pos trivial]; omega
      · rw [sizeC_4 (by omega)] at hz; subst hz
        have g0 := get_take (l := l) (s := 4) (i := 0) (by omega)
        have g1 := get_take (l := l) (s := 4) (i := 1) (by omega)
        have g2 := get_take (l := l) (s := 4) (i := 2) (by omega)
        have g3 := get_take (l := l) (s := 4) (i := 3) (by omega)
        rw [he, encC_4 (by omega)] at g0 g1 g2 g3
        rw [← g0, ← g1, ← g2, ← g3]
        simp only [valC, List.getElem?_cons_zero, List.getElem?_cons_succ, Option.getD_some]
        rw [if_neg (by omega), if_neg (by omega), if_neg (by omega)]; omega

/-- At s bytes there is no character: its number is none, or its bytes are others. -/
theorem read_no {l : List Int} {s : Nat} {n : Int} (hv : valC s (l[0]?.getD 0) (l[1]?.getD 0) (l[2]?.getD 0) (l[3]?.getD 0) = n) (h : isC n = false ∨ encC n ≠ l.take s) (r : Int) : decC l ≠ some (r, s) := by
  intro hd
  have h1 := read_val hd
  rw [hv] at h1
  subst h1
  rcases h with h | h
  · rw [(decC_some hd).2.2.2.1] at h; cases h
  · exact h (enc_dec hd).symm
theorem runes_len' (l : List Int) : (runesC l).length ≤ l.length := by
  obtain ⟨m, hm⟩ : ∃ m, l.length ≤ m := ⟨_, Nat.le_refl _⟩
  induction m generalizing l with
  | zero =>
    obtain rfl : l = [] := List.eq_nil_of_length_eq_zero (by omega)
    exact Nat.le_refl _
  | succ m ih =>
    cases h : decC l with
    | none => rw [runesC_none h]; simp
    | some x =>
      obtain ⟨r, n⟩ := x
      have hs := decC_some h
      rw [runesC_some h]
      have := ih (l.drop n) (by simp; omega)
      simp only [List.length_drop, List.length_cons] at this ⊢
      omega
end Go.Proofs.YtcfnmhadihhfaaaDoor.U
