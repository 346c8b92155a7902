/- The plain functions of layer 2: how a text is written. No dump is read here. -/
import Derived.Test.YtcfnmhadihhfaaaDoorDc
namespace Go.Proofs.YtcfnmhadihhfaaaDoor.U

/-- What is written in place of a character; nothing: it itself. -/
def escT (v : Bool) (r : Int) : List UInt8 :=
  if r = 38 then [38, 97, 109, 112, 59] else if r = 60 then [38, 108, 116, 59] else if r = 62 then [38, 103, 116, 59] else if r = 13 then [38, 35, 49, 51, 59]
  else if v = true ∧ r = 34 then [38, 113, 117, 111, 116, 59] else if v = true ∧ r = 9 then [38, 35, 57, 59] else if v = true ∧ r = 10 then [38, 35, 49, 48, 59] else []
/-- What is written for a byte, for a character, for bytes. -/
def escB (v : Bool) (b : UInt8) : List UInt8 := if escT v b.toNat = [] then [b] else escT v b.toNat
def escR (v : Bool) (r : Int) : List UInt8 := if escT v r = [] then Lib.encodeRune r else escT v r
def escL (v : Bool) (l : List UInt8) : List UInt8 := l.flatMap (escB v)

theorem escT_high {v : Bool} {r : Int} (h : 63 ≤ r) : escT v r = [] := by
  unfold escT
  rw [if_neg (by omega), if_neg (by omega), if_neg (by omega), if_neg (by omega), if_neg (by omega), if_neg (by omega), if_neg (by omega)]
theorem escT_len (v : Bool) (r : Int) : (escT v r).length ≤ 6 := by
  unfold escT; repeat' split
  all_goals simp
theorem escB_len (v : Bool) (b : UInt8) : 1 ≤ (escB v b).length ∧ (escB v b).length ≤ 6 := by
  unfold escB; split
  · simp
  · rename_i h
    have := escT_len v b.toNat
    exact ⟨List.length_pos_iff.2 h, this⟩
theorem escL_len (v : Bool) (l : List UInt8) : l.length ≤ (escL v l).length ∧ (escL v l).length ≤ 6 * l.length := by
  induction l with
  | nil => simp [escL]
  | cons b t ih =>
    have := escB_len v b
    simp only [escL, List.flatMap_cons, List.length_append, List.length_cons] at ih ⊢
    omega

theorem encC_low {r : Int} (h : isC r = true) (h1 : 128 ≤ r) : ∀ x ∈ encC r, 128 ≤ x := by
  have hb := isC_bounds h
  intro x hx
  rcases (show r < 2048 ∨ (2048 ≤ r ∧ r < 65536) ∨ 65536 ≤ r by omega) with h2 | ⟨h2, h3⟩ | h2
  · rw [encC_2 h1 h2] at hx; simp at hx; omega
  · rw [encC_3 h2 h3] at hx; simp at hx; omega
  · rw [encC_4 h2] at hx; simp at hx; omega
/-- A character from 128 on has no byte below 128. -/
theorem encode_high {r : Int} (h : isC r = true) (h1 : 128 ≤ r) : ∀ b ∈ Lib.encodeRune r, 128 ≤ b.toNat := by
  intro b hb
  have : (b.toNat : Int) ∈ encC r := by rw [← ints_encode h]; exact List.mem_map_of_mem hb
  have := encC_low h h1 _ this
  omega
/-- One below 128 is its own byte. -/
theorem encode_low {r : Int} (h : isC r = true) (h1 : r < 128) : ∃ b : UInt8, Lib.encodeRune r = [b] ∧ (b.toNat : Int) = r := by
  have h2 := ints_encode h
  rw [encC_1 h1] at h2
  match hl : Lib.encodeRune r, h2 with
  | [b], h2 => exact ⟨b, rfl, by simpa [ints] using h2⟩

theorem flat_high (v : Bool) (l : List UInt8) (h : ∀ b ∈ l, 128 ≤ b.toNat) : l.flatMap (escB v) = l := by
  induction l with
  | nil => rfl
  | cons b t ih =>
    have := h b (by simp)
    rw [List.flatMap_cons, ih (fun x hx => h x (by simp [hx]))]
    unfold escB
    rw [if_pos (escT_high (by omega))]
    rfl
/-- Byte by byte is character by character. -/
theorem esc_rune (v : Bool) {r : Int} (h : isC r = true) : (Lib.encodeRune r).flatMap (escB v) = escR v r := by
  by_cases h1 : r < 128
  · obtain ⟨b, e1, e2⟩ := encode_low h h1
    unfold escR
    rw [e1, ← e2]
    simp [escB]
  · rw [flat_high v _ (encode_high h (by omega))]
    unfold escR
    rw [if_pos (escT_high (by omega))]
theorem esc_runes (v : Bool) {zs : List Int} (hz : zs.all isC = true) : escL v (zs.flatMap Lib.encodeRune) = zs.flatMap (escR v) := by
  unfold escL
  induction zs with
  | nil => rfl
  | cons r t ih =>
    simp only [List.all_cons, Bool.and_eq_true] at hz
    rw [List.flatMap_cons, List.flatMap_append, List.flatMap_cons, esc_rune v hz.1, ih hz.2]
theorem escR_len (v : Bool) {r : Int} (h : isC r = true) : (escR v r).length ≤ 6 := by
  unfold escR; split
  · rw [encode_len h]; unfold sizeC; repeat' split
    all_goals omega
  · exact escT_len v r
end Go.Proofs.YtcfnmhadihhfaaaDoor.U
