/- The plain functions of layer 2: which text is written so. No dump is read here. -/
import Derived.Test.YtcfnmhadihhfaaaDoorEsc
import Derived.Test.YtcfnmhadihhfaaaDoorRef
namespace Go.Proofs.YtcfnmhadihhfaaaDoor.U

theorem sizeC_le (r : Int) : 1 ≤ sizeC r ∧ sizeC r ≤ 4 := by
  unfold sizeC; repeat' split
  all_goals omega

/-- The text that bytes are read as, behind what was read; or what is wrong (12: ErrForm, 13: ErrRef). -/
def unA : Nat → List UInt8 → List UInt8 → Except Int (List UInt8)
  | 0, acc, _ => .ok acc
  | _ + 1, acc, [] => .ok acc
  | f + 1, acc, c :: t =>
    if c = 60 then .error 12 else if c = 38 then
      match refL t with
      | none => .error 13
      | some (r, n) => unA f (acc ++ Lib.encodeRune r) (t.drop n)
    else unA f (acc ++ [c]) t

theorem unA_fuel : ∀ (f g : Nat) (acc l : List UInt8), l.length ≤ f → l.length ≤ g → unA f acc l = unA g acc l := by
  intro f
  induction f with
  | zero =>
    intro g acc l hf hg
    obtain rfl : l = [] := List.eq_nil_of_length_eq_zero (by omega)
    cases g <;> rfl
  | succ f ih =>
    intro g acc l hf hg
    match g, l with
    | 0, [] => rfl
    | g + 1, [] => rfl
    | g + 1, c :: t =>
      simp only [List.length_cons] at hf hg
      simp only [unA]
      split
      · rfl
      · split
        · cases refL t with
          | none => rfl
          | some x => exact ih g _ _ (by simp; omega) (by simp; omega)
        · exact ih g _ _ (by omega) (by omega)

def unL (acc l : List UInt8) : Except Int (List UInt8) := unA l.length acc l
theorem unL_nil (acc : List UInt8) : unL acc [] = .ok acc := rfl
theorem unL_form (acc t : List UInt8) : unL acc (60 :: t) = .error 12 := by simp [unL, unA]
theorem unL_none {acc t : List UInt8} (h : refL t = none) : unL acc (38 :: t) = .error 13 := by simp [unL, unA, h]
theorem unL_some {acc t : List UInt8} {r : Int} {n : Nat} (h : refL t = some (r, n)) : unL acc (38 :: t) = unL (acc ++ Lib.encodeRune r) (t.drop n) := by
  simp only [unL, List.length_cons, unA, h]
  rw [if_neg (by decide), if_true]
  exact unA_fuel _ _ _ _ (by simp) (Nat.le_refl _)
theorem unL_other {acc t : List UInt8} {c : UInt8} (h1 : c ≠ 60) (h2 : c ≠ 38) : unL acc (c :: t) = unL (acc ++ [c]) t := by
  simp only [unL, List.length_cons, unA]
  rw [if_neg h1, if_neg h2]
theorem unL_plain (l : List UInt8) (h : ∀ b ∈ l, b ≠ 60 ∧ b ≠ 38) : ∀ acc t, unL acc (l ++ t) = unL (acc ++ l) t := by
  induction l with
  | nil => intro acc t; simp
  | cons c l ih =>
    intro acc t
    have hc := h c (by simp)
    rw [List.cons_append, unL_other hc.1 hc.2, ih (fun b hb => h b (by simp [hb])), List.append_assoc]
    rfl
/-- A character that is no mark. -/
theorem unL_rune {r : Int} (hr : isC r = true) (h1 : r ≠ 60) (h2 : r ≠ 38) (acc t : List UInt8) : unL acc (Lib.encodeRune r ++ t) = unL (acc ++ Lib.encodeRune r) t := by
  refine unL_plain _ ?_ _ _
  intro b hb
  by_cases h : r < 128
  · obtain ⟨c, e1, e2⟩ := encode_low hr h
    rw [e1] at hb
    obtain rfl := List.mem_singleton.1 hb
    refine ⟨?_, ?_⟩ <;> (rintro rfl; simp at e2; omega)
  · have := encode_high hr (by omega) b hb
    refine ⟨?_, ?_⟩ <;> (rintro rfl; simp at this)

def unR : Except Int (List UInt8) → List UInt8 × Int
  | .ok x => (x, 0)
  | .error e => ([], e)
/-- What Unescape answers. -/
def unP (l : List UInt8) : List UInt8 × Int :=
  if wholeB l = true then unR (unL [] l) else ([], 10)

theorem semi_get : ∀ (l : List UInt8), semi l < l.length → l[semi l]? = some 59 := by
  intro l
  induction l with
  | nil => intro h; simp at h
  | cons b t ih =>
    intro h
    by_cases hb : b = 59
    · subst hb; rw [semi_cons_yes]; rfl
    · rw [semi_cons_no hb] at h ⊢
      rw [List.getElem?_cons_succ]
      exact ih (by simpa using h)
theorem refL_some {t : List UInt8} {r : Int} {n : Nat} (h : refL t = some (r, n)) : 1 ≤ n ∧ n ≤ t.length ∧ t[n - 1]? = some 59 ∧ isC r = true := by
  unfold refL at h
  split at h
  · rename_i hc
    simp only [Option.some.injEq, Prod.mk.injEq] at h
    obtain ⟨rfl, rfl⟩ := h
    exact ⟨by omega, by omega, semi_get t hc.1, hc.2⟩
  · cases h
end Go.Proofs.YtcfnmhadihhfaaaDoor.U
