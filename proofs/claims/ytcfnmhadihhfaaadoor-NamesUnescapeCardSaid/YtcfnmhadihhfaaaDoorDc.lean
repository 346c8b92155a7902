/- The plain laws between the model's own reading of a text and that of layer 1. No dump is read here. -/
import Derived.Test.YtcfnmhadihhfaaaDoorNm
import Derived.Test.YtcfnmhadihhfaaaDoorBack
import Derived.Lib.RuneBytes
namespace Go.Proofs.YtcfnmhadihhfaaaDoor.U

/-- Bytes as numbers. -/
def ints (l : List UInt8) : List Int := l.map fun b => (b.toNat : Int)
theorem ints_append (a b : List UInt8) : ints (a ++ b) = ints a ++ ints b := by simp [ints]
theorem ints_len (a : List UInt8) : (ints a).length = a.length := by simp [ints]
theorem ints_drop (a : List UInt8) (n : Nat) : ints (a.drop n) = (ints a).drop n := by simp [ints]
theorem ints_take (a : List UInt8) (n : Nat) : ints (a.take n) = (ints a).take n := by simp [ints]
theorem ints_inj {a b : List UInt8} (h : ints a = ints b) : a = b := by
  unfold ints at h
  refine (List.map_inj_right ?_).1 h
  intro x y hxy
  exact UInt8.toNat.inj (by exact_mod_cast hxy)

/-- The bytes of a character, as bytes. -/
theorem encodeZ_is {r : Int} (h : isC r = true) : Lib.encodeRuneZ r = encC r := by
  have hb := isC_iff.1 h
  rcases (show r < 128 ∨ (128 ≤ r ∧ r < 2048) ∨ (2048 ≤ r ∧ r < 65536) ∨ 65536 ≤ r by omega) with h1 | ⟨h1, h2⟩ | ⟨h1, h2⟩ | h1
  · rw [Lib.encodeRuneZ_one (by omega) (by omega), encC_1 h1]
  · rw [Lib.encodeRuneZ_two (by omega) (by omega), encC_2 h1 h2]
  · rw [Lib.encodeRuneZ_three (by omega), encC_3 h1 h2]
  · rw [Lib.encodeRuneZ_four (by omega) (by omega), encC_4 h1]
theorem ints_encode {r : Int} (h : isC r = true) : ints (Lib.encodeRune r) = encC r := by
  rw [← encodeZ_is h]
  unfold Lib.encodeRune ints
  rw [List.map_map]
  have hb := Lib.encodeRuneZ_byte r
  conv => rhs; rw [← List.map_id (Lib.encodeRuneZ r)]
  refine List.map_congr_left ?_
  intro x hx
  have := hb x hx
  simp only [Function.comp, id]
  have h2 : x.toNat.toUInt8.toNat = x.toNat := by simp; omega
  rw [h2]; omega
theorem encode_len {r : Int} (h : isC r = true) : (Lib.encodeRune r).length = sizeC r := by rw [← encC_len, ← ints_encode h, ints_len]

/-- A text's byte at a place, as the model gets it. -/
theorem get_drop (s : ByteArray) (pos k : Nat) (b : Int) (h : (ints ((bts s).drop pos))[k]? = some b) : ((s.get! (pos + k)).toNat : Int) = b ∧ pos + k < s.size := by
  unfold ints at h
  rw [List.getElem?_map, List.getElem?_drop] at h
  have hlt : pos + k < s.size := by
    rcases Nat.lt_or_ge (pos + k) s.size with h' | h'
    · exact h'
    · rw [List.getElem?_eq_none (by rw [bts_len]; exact h')] at h; cases h
  rw [List.getElem?_eq_getElem (by rw [bts_len]; exact hlt), bts_get s _ hlt] at h
  have hg := get_at s (pos + k) hlt
  rw [Nat.add_zero] at hg
  rw [hg]
  exact ⟨by simpa using h, hlt⟩

/-- A character at a place is what the model's range over a text tells there. -/
theorem dec_link (s : ByteArray) (pos : Nat) (r : Int) (m : List Int) (hr : isC r = true) (h : ints ((bts s).drop pos) = encC r ++ m) : Utf8.decode s pos = (r.toNat, sizeC r) ∧ pos + sizeC r ≤ s.size := by
  have hb := isC_iff.1 hr
  obtain ⟨k, rfl⟩ : ∃ k : Nat, r = k := ⟨r.toNat, by omega⟩
  rcases (show (k : Int) < 128 ∨ (128 ≤ (k : Int) ∧ (k : Int) < 2048) ∨ (2048 ≤ (k : Int) ∧ (k : Int) < 65536) ∨ 65536 ≤ (k : Int) by omega) with h1 | ⟨h1, h2⟩ | ⟨h1, h2⟩ | h1
  · rw [encC_1 h1] at h
    obtain ⟨g0, l0⟩ := get_drop s pos 0 k (by rw [h]; rfl)
    have e0 : (s.get! (pos + 0)).toNat = k := by omega
    rw [sizeC_1 h1]
    refine ⟨?_, by omega⟩
    simp only [Utf8.decode, e0]
    rw [if_pos (by omega)]
    simp
  · rw [encC_2 h1 h2] at h
    obtain ⟨g0, l0⟩ := get_drop s pos 0 _ (by rw [h]; rfl)
    obtain ⟨g1, l1⟩ := get_drop s pos 1 _ (by rw [h]; rfl)
    have e0 : (s.get! (pos + 0)).toNat = 192 + k / 64 := by omega
    have e1 : (s.get! (pos + 1)).toNat = 128 + k % 64 := by omega
    rw [sizeC_2 h1 h2]
    refine ⟨?_, by omega⟩
    simp only [Utf8.decode, e0, e1]
    rw [if_neg (by omega), if_pos (by simp; omega), if_pos (by omega)]
    simp; omega
  · rw [encC_3 h1 h2] at h
    obtain ⟨g0, l0⟩ := get_drop s pos 0 _ (by rw [h]; rfl)
    obtain ⟨g1, l1⟩ := get_drop s pos 1 _ (by rw [h]; rfl)
    obtain ⟨g2, l2⟩ := get_drop s pos 2 _ (by rw [h]; rfl)
    have e0 : (s.get! (pos + 0)).toNat = 224 + k / 4096 := by omega
    have e1 : (s.get! (pos + 1)).toNat = 128 + k / 64 % 64 := by omega
    have e2 : (s.get! (pos + 2)).toNat = 128 + k % 64 := by omega
    rw [sizeC_3 h1 h2]
    refine ⟨?_, by omega⟩
    have ev : ((224 + k / 4096) % 16) * 4096 + ((128 + k / 64 % 64) % 64) * 64 + (128 + k % 64) % 64 = k := by omega
    simp only [Utf8.decode, e0, e1, e2, ev]
    rw [if_neg (by omega), if_neg (by simp; omega), if_pos (by simp; omega), if_pos (by simp [Utf8.valid]; omega)]
    simp
  · rw [encC_4 h1] at h
    obtain ⟨g0, l0⟩ := get_drop s pos 0 _ (by rw [h]; rfl)
    obtain ⟨g1, l1⟩ := get_drop s pos 1 _ (by rw [h]; rfl)
    obtain ⟨g2, l2⟩ := get_drop s pos 2 _ (by rw [h]; rfl)
    obtain ⟨g3, l3⟩ := get_drop s pos 3 _ (by rw [h]; rfl)
    have e0 : (s.get! (pos + 0)).toNat = 240 + k / 262144 := by omega
    have e1 : (s.get! (pos + 1)).toNat = 128 + k / 4096 % 64 := by omega
    have e2 : (s.get! (pos + 2)).toNat = 128 + k / 64 % 64 := by omega
    have e3 : (s.get! (pos + 3)).toNat = 128 + k % 64 := by omega
    rw [sizeC_4 h1]
    refine ⟨?_, by omega⟩
    have ev : ((240 + k / 262144) % 8) * 262144 + ((128 + k / 4096 % 64) % 64) * 4096 + ((128 + k / 64 % 64) % 64) * 64 + (128 + k % 64) % 64 = k := by omega
    simp only [Utf8.decode, e0, e1, e2, e3, ev]
    rw [if_neg (by omega), if_neg (by simp; omega), if_neg (by simp; omega), if_pos (by simp; omega), if_pos (by simp [Utf8.valid]; omega)]
    simp

/-- A text of characters alone. -/
def Whole (l : List UInt8) : Prop := chkC (ints l) = l.length
def wholeB (l : List UInt8) : Bool := decide (chkC (ints l) = l.length)
theorem wholeB_iff (l : List UInt8) : wholeB l = true ↔ Whole l := by unfold wholeB Whole; exact decide_eq_true_iff
theorem Whole.runes {l : List UInt8} (h : Whole l) : ints l = (runesC (ints l)).flatMap encC := by
  rw [encs_runes, h, ← ints_len l, List.take_length]
theorem whole_of {l : List UInt8} {zs : List Int} (hz : zs.all isC = true) (h : ints l = zs.flatMap encC) : Whole l := by
  unfold Whole; rw [h, chk_encs hz, ← h, ints_len]

/-- The characters of a whole text, written, are the text. -/
theorem encodes_of {l : List UInt8} {zs : List Int} (hz : zs.all isC = true) (h : ints l = zs.flatMap encC) : l = zs.flatMap Lib.encodeRune := by
  apply ints_inj
  rw [h]
  clear h
  induction zs with
  | nil => rfl
  | cons r t ih =>
    simp only [List.all_cons, Bool.and_eq_true] at hz
    rw [List.flatMap_cons, List.flatMap_cons, ints_append, ints_encode hz.1, ← ih hz.2]
end Go.Proofs.YtcfnmhadihhfaaaDoor.U
