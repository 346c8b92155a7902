/- The plain laws of layer 2: what is written is read as it was. No dump is read here. -/
import Derived.Test.YtcfnmhadihhfaaaDoorUn
namespace Go.Proofs.YtcfnmhadihhfaaaDoor.U

/-- The word of what is written in place of a character. -/
theorem esc_word (v : Bool) (r : Int) (h : escT v r ≠ []) : ∃ wd : List UInt8, (∀ t, escT v r ++ t = 38 :: (wd ++ 59 :: t)) ∧ (∀ b ∈ wd, b ≠ 59) ∧ wordV wd = r ∧ isC r = true := by
  unfold escT at h ⊢
  by_cases h1 : r = 38
  · subst h1; exact ⟨[97, 109, 112], fun t => by simp, by decide, by decide, by decide⟩
  by_cases h2 : r = 60
  · subst h2; exact ⟨[108, 116], fun t => by simp, by decide, by decide, by decide⟩
  by_cases h3 : r = 62
  · subst h3; exact ⟨[103, 116], fun t => by simp, by decide, by decide, by decide⟩
  by_cases h4 : r = 13
  · subst h4; exact ⟨[35, 49, 51], fun t => by simp, by decide, by decide +kernel, by decide⟩
  rw [if_neg h1, if_neg h2, if_neg h3, if_neg h4] at h ⊢
  by_cases h5 : v = true ∧ r = 34
  · rw [if_pos h5]; obtain ⟨_, rfl⟩ := h5; exact ⟨[113, 117, 111, 116], fun t => by simp, by decide, by decide, by decide⟩
  rw [if_neg h5] at h ⊢
  by_cases h6 : v = true ∧ r = 9
  · rw [if_pos h6]; obtain ⟨_, rfl⟩ := h6; exact ⟨[35, 57], fun t => by simp, by decide, by decide +kernel, by decide⟩
  rw [if_neg h6] at h ⊢
  by_cases h7 : v = true ∧ r = 10
  · rw [if_pos h7]; obtain ⟨_, rfl⟩ := h7; exact ⟨[35, 49, 48], fun t => by simp, by decide, by decide +kernel, by decide⟩
  rw [if_neg h7] at h
  exact absurd rfl h

theorem semi_word (wd t : List UInt8) (h : ∀ b ∈ wd, b ≠ 59) : semi (wd ++ 59 :: t) = wd.length := by
  induction wd with
  | nil => exact semi_cons_yes
  | cons b r ih =>
    rw [List.cons_append, semi_cons_no (h b (by simp)), ih (fun x hx => h x (by simp [hx]))]
    rfl

/-- One character: what is written is read as its bytes. -/
theorem un_esc_one (v : Bool) {r : Int} (hr : isC r = true) (acc t : List UInt8) : unL acc (escR v r ++ t) = unL (acc ++ Lib.encodeRune r) t := by
  unfold escR
  by_cases h : escT v r = []
  · rw [if_pos h]
    have h60 : r ≠ 60 := by rintro rfl; revert h; cases v <;> decide
    have h38 : r ≠ 38 := by rintro rfl; revert h; cases v <;> decide
    exact unL_rune hr h60 h38 acc t
  · rw [if_neg h]
    obtain ⟨wd, e, hw, hv, hc⟩ := esc_word v r h
    rw [e]
    have hs := semi_word wd t hw
    have hr2 : refL (wd ++ 59 :: t) = some (r, wd.length + 1) := by
      unfold refL
      rw [hs, List.take_left, hv, if_pos ⟨by simp, hc⟩]
    rw [unL_some hr2, List.drop_append, List.drop_of_length_le (by omega), show wd.length + 1 - wd.length = 1 by omega]
    rfl
theorem un_esc (v : Bool) (zs : List Int) : ∀ acc, zs.all isC = true → unL acc (zs.flatMap (escR v)) = .ok (acc ++ zs.flatMap Lib.encodeRune) := by
  induction zs with
  | nil => intro acc _; simp [unL_nil]
  | cons r t ih =>
    intro acc hz
    simp only [List.all_cons, Bool.and_eq_true] at hz
    rw [List.flatMap_cons, un_esc_one v hz.1, ih _ hz.2, List.flatMap_cons, List.append_assoc]

/-- What is written for characters is characters. -/
theorem escT_chars (v : Bool) (r : Int) : ∀ b ∈ escT v r, isC (b.toNat : Int) = true ∧ b.toNat < 128 := by
  unfold escT
  repeat' split
  all_goals decide
theorem escR_chars (v : Bool) {r : Int} (hr : isC r = true) : ∃ zs : List Int, zs.all isC = true ∧ ints (escR v r) = zs.flatMap encC := by
  unfold escR
  by_cases h : escT v r = []
  · rw [if_pos h]
    exact ⟨[r], by simp [hr], by simp [ints_encode hr]⟩
  · rw [if_neg h]
    refine ⟨ints (escT v r), ?_, ?_⟩
    · rw [List.all_eq_true]
      intro x hx
      unfold ints at hx
      obtain ⟨b, hb, rfl⟩ := List.mem_map.1 hx
      exact (escT_chars v r b hb).1
    · have hb := escT_chars v r
      generalize escT v r = l at hb
      induction l with
      | nil => rfl
      | cons b t ih =>
        have h1 := (hb b (by simp)).2
        have e : ints (b :: t) = (b.toNat : Int) :: ints t := rfl
        rw [e, List.flatMap_cons, encC_1 (by omega), ← ih (fun x hx => hb x (by simp [hx]))]; rfl
theorem escs_whole (v : Bool) (zs : List Int) : zs.all isC = true → ∃ ys : List Int, ys.all isC = true ∧ ints (zs.flatMap (escR v)) = ys.flatMap encC := by
  induction zs with
  | nil => intro _; exact ⟨[], rfl, rfl⟩
  | cons r t ih =>
    intro hz
    simp only [List.all_cons, Bool.and_eq_true] at hz
    obtain ⟨a, ha, ea⟩ := escR_chars v hz.1
    obtain ⟨b, hb, eb⟩ := ih hz.2
    exact ⟨a ++ b, by rw [List.all_append, ha, hb]; rfl, by rw [List.flatMap_cons, ints_append, ea, eb, List.flatMap_append]⟩

/-- THE STAGE's THEOREM, plainly: a whole text, written, is whole, and is read as it was. -/
theorem back (v : Bool) {l : List UInt8} (h : Whole l) : Whole (escL v l) ∧ unL [] (escL v l) = .ok l := by
  have hrun := h.runes
  have hall := runes_all (ints l)
  have hesc : escL v l = (runesC (ints l)).flatMap (escR v) := by
    conv => lhs; rw [encodes_of hall hrun]
    exact esc_runes v hall
  obtain ⟨ys, h1, h2⟩ := escs_whole v _ hall
  refine ⟨whole_of h1 (by rw [hesc, h2]), ?_⟩
  rw [hesc, un_esc v _ [] hall, List.nil_append, ← encodes_of hall hrun]

/-- The bytes that what is written never has. -/
def badB (v : Bool) (c : Int) : Bool := decide (c = 60 ∨ c = 62 ∨ c = 13 ∨ (v = true ∧ (c = 34 ∨ c = 9 ∨ c = 10)))
theorem escB_good (v : Bool) (b : UInt8) : ∀ x ∈ escB v b, badB v x.toNat = false := by
  intro x hx
  unfold escB at hx
  by_cases h : escT v b.toNat = []
  · rw [if_pos h] at hx
    obtain rfl := List.mem_singleton.1 hx
    simp only [badB, decide_eq_false_iff_not]
    unfold escT at h
    intro hb
    revert h
    rcases hb with hb | hb | hb | ⟨rfl, hb | hb | hb⟩ <;> rw [hb] <;> simp
  · rw [if_neg h] at hx
    revert hx
    unfold escT
    repeat' split
    all_goals (cases v <;> simp [badB] <;> (try (rintro (rfl | rfl | rfl | rfl | rfl | rfl) <;> decide)) <;> (try (rintro (rfl | rfl | rfl | rfl | rfl) <;> decide)) <;> (try (rintro (rfl | rfl | rfl | rfl) <;> decide)))
theorem esc_good (v : Bool) (l : List UInt8) : ∀ x ∈ escL v l, badB v x.toNat = false := by
  intro x hx
  unfold escL at hx
  obtain ⟨b, _, hb⟩ := List.mem_flatMap.1 hx
  exact escB_good v b x hb
end Go.Proofs.YtcfnmhadihhfaaaDoor.U
