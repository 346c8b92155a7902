/- How lines end: the two replacements of package token are the document's Lines; the contract of token.lines. -/
import Derived.Test.YtihijgghcecpmaaGreatDoorSc
import Derived.Test.YtihijgghcecpmaaGreatDoorQ2
namespace Go.Proofs.YtihijgghcecpmaaGreatDoor.U
open Go.RowKit Go.Shelf

/-- Each instance, from the left, replaced. -/
def repF (old new : List UInt8) : Nat → List UInt8 → List UInt8
  | 0, l => l
  | _ + 1, [] => []
  | f + 1, c :: t => if begL old (c :: t) = true then new ++ repF old new f ((c :: t).drop old.length) else c :: repF old new f t
theorem index_cons (old : List UInt8) (c : UInt8) (t : List UInt8) (h : begL old (c :: t) = false) : Lib.index (c :: t) old = if Lib.index t old == -1 then -1 else Lib.index t old + 1 := by
  simp only [Lib.index]
  rw [if_neg (show ¬ old.isPrefixOf (c :: t) = true by unfold begL at h; rw [h]; simp)]
theorem index_zero (old : List UInt8) (l : List UInt8) (h : begL old l = true) (hne : l ≠ []) : Lib.index l old = 0 := by
  cases l with
  | nil => exact absurd rfl hne
  | cons c t =>
    simp only [Lib.index]
    rw [if_pos (show old.isPrefixOf (c :: t) = true from h)]
theorem rep_eq (old new : List UInt8) (h1 : old ≠ []) : ∀ (f : Nat) (l : List UInt8), l.length ≤ f → Lib.replaceK old new (Lib.count l old) l = repF old new f l := by
  intro f
  induction f with
  | zero =>
    intro l hl
    obtain rfl : l = [] := List.eq_nil_of_length_eq_zero (by omega)
    have hi : Lib.index [] old = -1 := by cases old with | nil => exact absurd rfl h1 | cons a t => rfl
    rw [Lib.count_miss hi]
    rfl
  | succ f ih =>
    intro l hl
    have hlen : 1 ≤ old.length := by cases old with | nil => exact absurd rfl h1 | cons a t => simp
    cases l with
    | nil =>
      have hi : Lib.index [] old = -1 := by cases old with | nil => exact absurd rfl h1 | cons a t => rfl
      rw [Lib.count_miss hi]
      rfl
    | cons c t =>
      cases hb : begL old (c :: t) with
      | true =>
        have hi : Lib.index (c :: t) old = ((0 : Nat) : Int) := index_zero old _ hb (by simp)
        rw [Lib.count_hit h1 hi, Nat.zero_add, show 1 + Lib.count ((c :: t).drop old.length) old = Lib.count ((c :: t).drop old.length) old + 1 by omega, Lib.replaceK_hit _ _ _ _ 0 hi]
        simp only [repF]
        rw [if_pos hb, Nat.zero_add, List.take_zero, List.nil_append, ih _ (by rw [List.length_drop]; simp only [List.length_cons] at hl ⊢; omega)]
      | false =>
        have hi := index_cons old c t hb
        simp only [repF]
        rw [if_neg (by rw [hb]; simp), ← ih t (by simpa using hl)]
        have hge := Lib.index_ge t old
        by_cases hm : Lib.index t old = -1
        · rw [hm] at hi
          rw [Lib.count_miss (show Lib.index (c :: t) old = -1 from hi), Lib.count_miss hm]
          rfl
        · obtain ⟨i, hti⟩ : ∃ i : Nat, Lib.index t old = i := ⟨(Lib.index t old).toNat, by omega⟩
          have hi2 : Lib.index (c :: t) old = ((i + 1 : Nat) : Int) := by
            rw [hi, hti, if_neg (by simp)]
            rfl
          rw [Lib.count_hit h1 hi2, Lib.count_hit h1 hti]
          rw [show i + 1 + old.length = (i + old.length) + 1 by omega, List.drop_succ_cons]
          rw [show 1 + Lib.count (t.drop (i + old.length)) old = Lib.count (t.drop (i + old.length)) old + 1 by omega]
          rw [Lib.replaceK_hit _ _ _ _ (i + 1) hi2, Lib.replaceK_hit _ _ _ _ i hti]
          rw [show i + 1 + old.length = (i + old.length) + 1 by omega, List.drop_succ_cons]
          rfl
theorem replaceAll_rep {old new : List UInt8} (h1 : old ≠ []) (hne : old ≠ new) (l : List UInt8) : Lib.replaceAll l old new = repF old new l.length l := by
  unfold Lib.replaceAll Lib.replace Lib.replaceNum
  rw [if_neg (by simpa using hne), if_pos (.inl (by omega))]
  exact rep_eq old new h1 _ _ (Nat.le_refl _)
theorem rep_len (old new : List UInt8) (hl : new.length ≤ old.length) : ∀ (f : Nat) (l : List UInt8), (repF old new f l).length ≤ l.length := by
  intro f
  induction f with
  | zero => intro l; exact Nat.le_refl _
  | succ f ih =>
    intro l
    cases l with
    | nil => exact Nat.le_refl _
    | cons c t =>
      simp only [repF]
      split
      · rename_i hb
        have h2 := begL_len hb
        have h3 := ih ((c :: t).drop old.length)
        rw [List.length_drop] at h3
        rw [List.length_append]
        omega
      · simp only [List.length_cons]
        have := ih t
        omega
theorem rep_fuel (old new : List UInt8) (h1 : 1 ≤ old.length) : ∀ (f g : Nat) (l : List UInt8), l.length ≤ f → l.length ≤ g → repF old new f l = repF old new g l := by
  intro f
  induction f with
  | zero =>
    intro g l hf _
    obtain rfl : l = [] := List.eq_nil_of_length_eq_zero (by omega)
    cases g <;> rfl
  | succ f ih =>
    intro g l hf hg
    cases l with
    | nil => cases g <;> rfl
    | cons c t =>
      cases g with
      | zero => simp at hg
      | succ g =>
        simp only [repF]
        split
        · rw [ih g _ (by rw [List.length_drop]; simp only [List.length_cons] at hf ⊢; omega) (by rw [List.length_drop]; simp only [List.length_cons] at hg ⊢; omega)]
        · rw [ih g _ (by simpa using hf) (by simpa using hg)]

theorem lines_rep : ∀ (f g : Nat) (l : List UInt8), l.length ≤ f → l.length ≤ g → repF [13] [10] g (repF [13, 10] [10] f l) = linesL l := by
  intro f
  induction f with
  | zero =>
    intro g l hf _
    obtain rfl : l = [] := List.eq_nil_of_length_eq_zero (by omega)
    cases g <;> rfl
  | succ f ih =>
    intro g l hf hg
    cases l with
    | nil => cases g <;> rfl
    | cons c t =>
      cases g with
      | zero => simp at hg
      | succ g =>
        simp only [List.length_cons] at hf hg
        by_cases hb : begL [13, 10] (c :: t) = true
        · obtain ⟨r, hr⟩ := begL_iff.1 hb
          simp only [List.cons_append, List.nil_append, List.cons.injEq] at hr
          obtain ⟨rfl, rfl⟩ := hr
          simp only [repF]
          rw [if_pos hb]
          simp only [List.singleton_append, List.length_cons, List.length_nil, List.drop_succ_cons, List.drop_zero]
          rw [show repF [13] [10] (g + 1) (10 :: repF [13, 10] [10] f r) = 10 :: repF [13] [10] g (repF [13, 10] [10] f r) from rfl]
          rw [ih g r (by simp at hf; omega) (by simp at hg; omega)]
          simp [linesL]
        · simp only [repF]
          rw [if_neg hb]
          simp only [repF]
          by_cases hc : c = 13
          · subst hc
            have hh : t.head? ≠ some 10 := by
              intro e
              cases t with
              | nil => cases e
              | cons a r => simp at e; subst e; exact hb rfl
            rw [if_pos (show begL [13] (13 :: repF [13, 10] [10] f t) = true from rfl)]
            simp only [List.singleton_append, List.length_cons, List.length_nil, List.drop_succ_cons, List.drop_zero, linesL]
            rw [if_pos trivial, if_neg hh, ih g t (by omega) (by omega)]
          · rw [if_neg (by rw [begL_cons]; simp [Ne.symm hc])]
            simp only [linesL]
            rw [if_neg hc, ih g t (by omega) (by omega)]
theorem lines_both_ways (l : List UInt8) : Lib.replaceAll (Lib.replaceAll l [13, 10] [10]) [13] [10] = linesL l := by
  rw [replaceAll_rep (by simp) (by simp), replaceAll_rep (by simp) (by simp)]
  rw [rep_fuel [13] [10] (by simp) _ l.length _ (Nat.le_refl _) (rep_len _ _ (by simp) _ _)]
  exact lines_rep _ _ _ (Nat.le_refl _) (Nat.le_refl _)

set_option maxHeartbeats 1000000 in
theorem tlines_any (s : ByteArray) (w : World) (hm : LayT w) (hs : s.size ≤ 1000000) :
    Calls Tryz.prog 19 #[.string s] w fun e w' => e = .returned (.string ⟨(linesL (bts s)).toArray⟩) ∧ Below w.heap.size w w' := by
  have h1 : (Lib.replaceAll (bts s) [13, 10] [10]).length ≤ s.size := by
    rw [replaceAll_rep (by simp) (by simp), ← bts_len]
    exact rep_len _ _ (by simp) _ _
  obtain ⟨m, hmx⟩ := hm.mx
  have HC1 : Hid (Calls Tryz.prog 29 #[.string s, .string ⟨#[13, 10]⟩, .string ⟨#[10]⟩] w fun e w' => e = .returned (.string ⟨(Lib.replaceAll (bts s) [13, 10] [10]).toArray⟩) ∧ Below w.heap.size w w') := Lib.hid (S.strings_ReplaceAll s ⟨#[13, 10]⟩ ⟨#[10]⟩ m w (by omega) hmx (by decide) (by
    have := Lib.count_le s.data.toList [13, 10]
    have h2 : s.data.toList.length = s.size := bts_len s
    show s.size + Lib.count s.data.toList [13, 10] * 1 ≤ _
    omega))
  obtain ⟨y, hy⟩ : ∃ y : ByteArray, y = ⟨(Lib.replaceAll (bts s) [13, 10] [10]).toArray⟩ := ⟨_, rfl⟩
  have hby : bts y = Lib.replaceAll (bts s) [13, 10] [10] := by rw [hy, bts_mk]
  have hys : y.size ≤ s.size := by rw [← bts_len, hby]; exact h1
  have HC2 : Hid (∀ W, LayT W → Calls Tryz.prog 29 #[.string y, .string ⟨#[13]⟩, .string ⟨#[10]⟩] W fun e w' => e = .returned (.string ⟨(linesL (bts s)).toArray⟩) ∧ Below W.heap.size W w') := Lib.hid (fun W k => by
    obtain ⟨m', hm'⟩ := k.mx
    have := S.strings_ReplaceAll y ⟨#[13]⟩ ⟨#[10]⟩ m' W (by omega) hm' (by decide) (by
      have := Lib.count_le y.data.toList [13]
      have h2 : y.data.toList.length = y.size := bts_len y
      show y.size + Lib.count y.data.toList [13] * 1 ≤ _
      omega)
    have e : Lib.replaceAll y.data.toList [13] [10] = linesL (bts s) := by
      show Lib.replaceAll (bts y) [13] [10] = _
      rw [hby, lines_both_ways]
    refine this.mono ?_
    rintro r w' ⟨h3, h4⟩
    refine ⟨?_, h4⟩
    rw [h3]
    show Ending.returned (.string ⟨(Lib.replaceAll y.data.toList [13] [10]).toArray⟩) = _
    rw [e])
  rw [← hy] at HC1
  have HM := Lib.hid hm
  clear hy hby hys h1 hmx hm
  go_enter Tryz.func19, Tryz.ntmps19
  go_wp2_with fail
  refine HC1.out.mono ?_
  rintro e w2 ⟨rfl, hb2⟩
  have HB2 := Lib.hid hb2
  have HM2 := Lib.hid (HM.out.below hb2 HM.out.size)
  clear hb2
  go_wp2_with fail
  refine (HC2.out _ HM2.out).mono ?_
  rintro e w3 ⟨rfl, hb3⟩
  have HB3 := Lib.hid (th HB2.out (Nat.le_refl _) hb3)
  clear hb3
  go_wp2
  go_ret
  exact ⟨rfl, HB3.out⟩
end Go.Proofs.YtihijgghcecpmaaGreatDoor.U
