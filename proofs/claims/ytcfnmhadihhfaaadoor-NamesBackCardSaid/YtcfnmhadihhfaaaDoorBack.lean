/- The plain laws of layer 1: what is encoded is decoded, and what is decoded is encoded. No dump is read here. -/
import Derived.Test.YtcfnmhadihhfaaaDoorPrs
namespace Go.Proofs.YtcfnmhadihhfaaaDoor.U
open Go.RowKit


theorem begN_1 {c : Int} (h : c ≤ 127) : begN c = 1 ∧ begV c = c := by unfold begN begV; simp [h]
theorem begN_2 {c : Int} (h : 192 ≤ c) (h' : c ≤ 223) : begN c = 2 ∧ begV c = c - 192 := by
  unfold begN begV; constructor <;> (rw [if_neg (by omega), if_neg (by omega), if_pos (by omega)])
theorem begN_3 {c : Int} (h : 224 ≤ c) (h' : c ≤ 239) : begN c = 3 ∧ begV c = c - 224 := by
  unfold begN begV; constructor <;> (rw [if_neg (by omega), if_neg (by omega), if_neg (by omega), if_pos (by omega)])
theorem begN_4 {c : Int} (h : 240 ≤ c) (h' : c ≤ 247) : begN c = 4 ∧ begV c = c - 240 := by
  unfold begN begV; constructor <;> (rw [if_neg (by omega), if_neg (by omega), if_neg (by omega), if_neg (by omega), if_pos (by omega)])
theorem begN_0 {c : Int} (h : (127 < c ∧ c < 192) ∨ 247 < c) : begN c = 0 := by
  unfold begN
  rcases h with ⟨h, h'⟩ | h
  · rw [if_neg (by omega), if_pos (by omega)]
  · rw [if_neg (by omega), if_neg (by omega), if_neg (by omega), if_neg (by omega), if_neg (by omega)]

theorem contC_one {v x : Int} (h : 128 ≤ x ∧ x < 192) (t : List Int) : contC v (x :: t) = contC (v * 64 + x % 64) t := by
  simp only [contC, if_pos h]

/-- What is encoded is decoded. -/
theorem dec_enc {r : Int} (hr : isC r = true) (m : List Int) : decC (encC r ++ m) = some (r, sizeC r) := by
  have hb := isC_bounds hr
  by_cases h1 : r < 128
  · obtain ⟨e1, e2⟩ := begN_1 (c := r) (by omega)
    rw [encC_1 h1, sizeC_1 h1, List.cons_append, decC_cons, e1, e2, if_neg (by omega)]
    simp only [Nat.sub_self, List.take_zero, contC]
    rw [if_pos ⟨hr, sizeC_1 h1⟩]
  · by_cases h2 : r < 2048
    · obtain ⟨e1, e2⟩ := begN_2 (c := 192 + r / 64) (by omega) (by omega)
      rw [encC_2 (by omega) h2, sizeC_2 (by omega) h2]
      simp only [List.cons_append, List.nil_append]
      rw [decC_cons, e1, e2, if_neg (by simp)]
      simp only [Nat.add_one_sub_one, List.take_succ_cons, List.take_zero]
      rw [contC_one (by omega), show (192 + r / 64 - 192) * 64 + (128 + r % 64) % 64 = r by omega]
      simp only [contC]
      rw [if_pos ⟨hr, sizeC_2 (by omega) h2⟩]
    · by_cases h3 : r < 65536
      · obtain ⟨e1, e2⟩ := begN_3 (c := 224 + r / 4096) (by omega) (by omega)
        rw [encC_3 (by omega) h3, sizeC_3 (by omega) h3]
        simp only [List.cons_append, List.nil_append]
        rw [decC_cons, e1, e2, if_neg (by simp)]
        simp only [Nat.add_one_sub_one, List.take_succ_cons, List.take_zero]
        rw [contC_one (by omega), contC_one (by omega), show ((224 + r / 4096 - 224) * 64 + (128 + r / 64 % 64) % 64) * 64 + (128 + r % 64) % 64 = r by omega]
        simp only [contC]
        rw [if_pos ⟨hr, sizeC_3 (by omega) h3⟩]
      · obtain ⟨e1, e2⟩ := begN_4 (c := 240 + r / 262144) (by omega) (by omega)
        rw [encC_4 (by omega), sizeC_4 (by omega)]
        simp only [List.cons_append, List.nil_append]
        rw [decC_cons, e1, e2, if_neg (by simp)]
        simp only [Nat.add_one_sub_one, List.take_succ_cons, List.take_zero]
        rw [contC_one (by omega), contC_one (by omega), contC_one (by omega), show (((240 + r / 262144 - 240) * 64 + (128 + r / 4096 % 64) % 64) * 64 + (128 + r / 64 % 64) % 64) * 64 + (128 + r % 64) % 64 = r by omega]
        simp only [contC]
        rw [if_pos ⟨hr, sizeC_4 (by omega)⟩]

theorem contC_some {v u : Int} {x : Int} {t : List Int} (h : contC v (x :: t) = some u) : (128 ≤ x ∧ x < 192) ∧ contC (v * 64 + x % 64) t = some u := by
  simp only [contC] at h
  split at h
  · rename_i hx; exact ⟨hx, h⟩
  · cases h

/-- What is decoded is encoded. -/
theorem enc_dec {l : List Int} {r : Int} {n : Nat} (h : decC l = some (r, n)) : l.take n = encC r := by
  have hs := decC_some h
  have hb := isC_bounds hs.2.2.2.1
  cases l with
  | nil => cases h
  | cons c t =>
    rw [decC_cons] at h
    split at h
    · cases h
    · rename_i hn
      split at h
      · cases h
      · rename_i u hu
        split at h
        · rename_i hc
          simp only [Option.some.injEq, Prod.mk.injEq] at h
          obtain ⟨rfl, rfl⟩ := h
          by_cases k1 : c ≤ 127
          · obtain ⟨e1, e2⟩ := begN_1 k1
            rw [e1, e2] at hu
            rw [e1] at hc ⊢
            simp only [Nat.sub_self, List.take_zero, contC, Option.some.injEq] at hu
            subst hu
            rw [encC_1 (by omega)]; rfl
          · by_cases k0 : c < 192
            · have := begN_0 (c := c) (by omega); omega
            · by_cases k2 : c ≤ 223
              · obtain ⟨e1, e2⟩ := begN_2 (c := c) (by omega) k2
                rw [e1, e2] at hu
                rw [e1] at hc hn ⊢
                match t, hn, hu with
                | [], hn, _ => simp at hn
                | x :: t, _, hu =>
                  simp only [Nat.add_one_sub_one, List.take_succ_cons, List.take_zero] at hu ⊢
                  obtain ⟨hx, hu⟩ := contC_some hu
                  simp only [contC, Option.some.injEq] at hu
                  have hsz := hc.2
                  have h1 : 128 ≤ u := by
                    rcases Int.lt_or_le u 128 with h | h
                    · rw [sizeC_1 h] at hsz; cases hsz
                    · exact h
                  rw [encC_2 h1 (by omega)]
                  simp only [List.cons.injEq, and_true]
                  omega
              · by_cases k3 : c ≤ 239
                · obtain ⟨e1, e2⟩ := begN_3 (c := c) (by omega) k3
                  rw [e1, e2] at hu
                  rw [e1] at hc hn ⊢
                  match t, hn, hu with
                  | [], hn, _ => simp at hn
                  | [x], hn, _ => simp at hn
                  | x :: y :: t, _, hu =>
                    simp only [Nat.add_one_sub_one, List.take_succ_cons, List.take_zero] at hu ⊢
                    obtain ⟨hx, hu⟩ := contC_some hu
                    obtain ⟨hy, hu⟩ := contC_some hu
                    simp only [contC, Option.some.injEq] at hu
                    have hsz := hc.2
                    have h1 : 2048 ≤ u := by
                      rcases Int.lt_or_le u 2048 with h | h
                      · rcases Int.lt_or_le u 128 with h' | h'
                        · rw [sizeC_1 h'] at hsz; cases hsz
                        · rw [sizeC_2 h' h] at hsz; cases hsz
                      · exact h
                    rw [encC_3 h1 (by omega)]
                    simp only [List.cons.injEq, and_true]
                    omega
                · by_cases k4 : c ≤ 247
                  · obtain ⟨e1, e2⟩ := begN_4 (c := c) (by omega) k4
                    rw [e1, e2] at hu
                    rw [e1] at hc hn ⊢
                    match t, hn, hu with
                    | [], hn, _ => simp at hn
                    | [x], hn, _ => simp at hn
                    | [x, y], hn, _ => simp at hn
                    | x :: y :: z :: t, _, hu =>
                      simp only [Nat.add_one_sub_one, List.take_succ_cons, List.take_zero] at hu ⊢
                      obtain ⟨hx, hu⟩ := contC_some hu
                      obtain ⟨hy, hu⟩ := contC_some hu
                      obtain ⟨hz, hu⟩ := contC_some hu
                      simp only [contC, Option.some.injEq] at hu
                      have hsz := hc.2
                      have h1 : 65536 ≤ u := by
                        rcases Int.lt_or_le u 65536 with h | h
                        · rcases Int.lt_or_le u 2048 with h' | h'
                          · rcases Int.lt_or_le u 128 with h'' | h''
                            · rw [sizeC_1 h''] at hsz; cases hsz
                            · rw [sizeC_2 h'' h'] at hsz; cases hsz
                          · rw [sizeC_3 h' h] at hsz; cases hsz
                        · exact h
                      rw [encC_4 h1]
                      simp only [List.cons.injEq, and_true]
                      omega
                  · have := begN_0 (c := c) (by omega); omega
        · cases h

/-- The characters of encoded ones. -/
theorem runes_encs {zs : List Int} (h : zs.all isC = true) : runesC (zs.flatMap encC) = zs := by
  induction zs with
  | nil => rfl
  | cons r zs ih =>
    simp only [List.all_cons, Bool.and_eq_true] at h
    rw [List.flatMap_cons, runesC_some (dec_enc h.1 _)]
    have e : (encC r ++ zs.flatMap encC).drop (sizeC r) = zs.flatMap encC := by
      rw [← encC_len r, List.drop_left]
    rw [e, ih h.2]
theorem sizes_len (zs : List Int) : sizes zs = (zs.flatMap encC).length := by
  induction zs with
  | nil => rfl
  | cons r zs ih =>
    rw [List.flatMap_cons, List.length_append, encC_len, ← ih]; rfl
theorem chk_encs {zs : List Int} (h : zs.all isC = true) : chkC (zs.flatMap encC) = (zs.flatMap encC).length := by
  unfold chkC; rw [runes_encs h, sizes_len]

theorem runes_all (l : List Int) : (runesC l).all isC = true := by
  obtain ⟨m, hm⟩ : ∃ m, l.length ≤ m := ⟨_, Nat.le_refl _⟩
  induction m generalizing l with
  | zero =>
    obtain rfl : l = [] := List.eq_nil_of_length_eq_zero (by omega)
    rfl
  | succ m ih =>
    cases h : decC l with
    | none => rw [runesC_none h]; rfl
    | some x =>
      obtain ⟨r, n⟩ := x
      have hs := decC_some h
      rw [runesC_some h]
      simp only [List.all_cons, hs.2.2.2.1, Bool.true_and]
      exact ih _ (by simp; omega)
theorem encs_runes (l : List Int) : (runesC l).flatMap encC = l.take (chkC l) := by
  obtain ⟨m, hm⟩ : ∃ m, l.length ≤ m := ⟨_, Nat.le_refl _⟩
  induction m generalizing l with
  | zero =>
    obtain rfl : l = [] := List.eq_nil_of_length_eq_zero (by omega)
    rfl
  | succ m ih =>
    cases h : decC l with
    | none => rw [runesC_none h, chkC_none h]; rfl
    | some x =>
      obtain ⟨r, n⟩ := x
      have hs := decC_some h
      rw [runesC_some h, chkC_some h, List.flatMap_cons, ih _ (by simp; omega), ← enc_dec h, ← List.take_add]
end Go.Proofs.YtcfnmhadihhfaaaDoor.U
