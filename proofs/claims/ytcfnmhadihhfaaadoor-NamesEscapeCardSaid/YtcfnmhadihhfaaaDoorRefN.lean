/- The contracts of the document's answer for layer 2: Blank, Is, instead, digit, number. -/
import Derived.Test.YtcfnmhadihhfaaaDoorKind
import Derived.Test.YtcfnmhadihhfaaaDoorEsc
import Derived.Test.YtcfnmhadihhfaaaDoorNum
import Derived.Test.YtcfnmhadihhfaaaDoorConv
namespace Go.Proofs.YtcfnmhadihhfaaaDoor.U
open Go.RowKit Go.Shelf

set_option maxHeartbeats 1000000 in
theorem refBlank_any (c : Int) (w : World) : Calls Tryd.prog 9 #[.int .u8 c] w fun e w' => e = .returned (.bool (blankI c)) ∧ w = w' := by
  rcases (show c = 9 ∨ c = 10 ∨ c = 13 ∨ c = 32 ∨ (c ≠ 9 ∧ c ≠ 10 ∧ c ≠ 13 ∧ c ≠ 32) by omega) with h | h | h | h | ⟨h, h1, h2, h3⟩
  all_goals
    first
      | (have hv : blankI c = true := by (simp only [blankI, decide_eq_true_eq]; omega)
         rw [hv]; clear hv)
      | (have hv : blankI c = false := by (simp only [blankI, decide_eq_false_iff_not]; omega)
         rw [hv]; clear hv)
    first | subst h | skip
    go_enter Tryd.func9, Tryd.ntmps9
    go_wp2
    go_ret
    refine ⟨?_, rfl⟩
    first | rfl | (simp; done) | (simp; omega)

set_option maxHeartbeats 1000000 in
theorem digit_any (c : Int) (h0 : 0 ≤ c) (h1 : c < 256) (w : World) : Calls Tryd.prog 49 #[.int .u8 c] w fun e w' => e = .returned (.int .i64 (digV c)) ∧ w = w' := by
  rcases (show c < 48 ∨ (48 ≤ c ∧ c ≤ 57) ∨ (58 ≤ c ∧ c < 65) ∨ (65 ≤ c ∧ c ≤ 70) ∨ (71 ≤ c ∧ c < 97) ∨ (97 ≤ c ∧ c ≤ 102) ∨ 102 < c by omega) with h | ⟨h, h'⟩ | ⟨h, h'⟩ | ⟨h, h'⟩ | ⟨h, h'⟩ | ⟨h, h'⟩ | h
  · rw [digV_4 (by omega)]
    go_enter Tryd.func49, Tryd.ntmps49
    go_wp2
    go_ret
    exact ⟨rfl, rfl⟩
  · rw [digV_1 (by omega)]
    go_enter Tryd.func49, Tryd.ntmps49
    go_wp2
    go_ret
    exact ⟨by first | rfl | (simp; omega), rfl⟩
  · rw [digV_4 (by omega)]
    go_enter Tryd.func49, Tryd.ntmps49
    go_wp2
    go_ret
    exact ⟨rfl, rfl⟩
  · rw [digV_3 (by omega)]
    go_enter Tryd.func49, Tryd.ntmps49
    go_wp2
    go_ret
    exact ⟨by first | rfl | (simp; omega), rfl⟩
  · rw [digV_4 (by omega)]
    go_enter Tryd.func49, Tryd.ntmps49
    go_wp2
    go_ret
    exact ⟨rfl, rfl⟩
  · rw [digV_2 (by omega)]
    go_enter Tryd.func49, Tryd.ntmps49
    go_wp2
    go_ret
    exact ⟨by first | rfl | (simp; omega), rfl⟩
  · rw [digV_4 (by omega)]
    go_enter Tryd.func49, Tryd.ntmps49
    go_wp2
    go_ret
    exact ⟨rfl, rfl⟩

set_option maxHeartbeats 1000000 in
theorem instead_any (v : Bool) (r : Int) (w : World) : Calls Tryd.prog 28 #[.int .u8 r, .bool v] w fun e w' => e = .returned (.string ⟨(escT v r).toArray⟩) ∧ Below w.heap.size w w' := by
  cases v
  · rcases (show r = 38 ∨ r = 60 ∨ r = 62 ∨ r = 13 ∨ (r ≠ 38 ∧ r ≠ 60 ∧ r ≠ 62 ∧ r ≠ 13) by omega) with h | h | h | h | ⟨h1, h2, h3, h4⟩
    · subst h
      go_enter Tryd.func28, Tryd.ntmps28
      go_wp2
      go_ret
      exact ⟨rfl, Below.refl _ _⟩
    · subst h
      go_enter Tryd.func28, Tryd.ntmps28
      go_wp2
      go_ret
      exact ⟨rfl, Below.refl _ _⟩
    · subst h
      go_enter Tryd.func28, Tryd.ntmps28
      go_wp2
      go_ret
      exact ⟨rfl, Below.refl _ _⟩
    · subst h
      go_enter Tryd.func28, Tryd.ntmps28
      go_wp2
      go_ret
      exact ⟨rfl, Below.refl _ _⟩
    · have HV : Hid (escT false r = []) := Lib.hid (by unfold escT; simp [h1, h2, h3, h4])
      go_enter Tryd.func28, Tryd.ntmps28
      go_wp2
      go_ret
      exact ⟨by rw [HV.out]; rfl, Below.refl _ _⟩
  · rcases (show r = 38 ∨ r = 60 ∨ r = 62 ∨ r = 13 ∨ r = 34 ∨ r = 9 ∨ r = 10 ∨ (r ≠ 38 ∧ r ≠ 60 ∧ r ≠ 62 ∧ r ≠ 13 ∧ r ≠ 34 ∧ r ≠ 9 ∧ r ≠ 10) by omega) with h | h | h | h | h | h | h | ⟨h1, h2, h3, h4, h5, h6, h7⟩
    · subst h
      go_enter Tryd.func28, Tryd.ntmps28
      go_wp2
      go_ret
      exact ⟨rfl, Below.refl _ _⟩
    · subst h
      go_enter Tryd.func28, Tryd.ntmps28
      go_wp2
      go_ret
      exact ⟨rfl, Below.refl _ _⟩
    · subst h
      go_enter Tryd.func28, Tryd.ntmps28
      go_wp2
      go_ret
      exact ⟨rfl, Below.refl _ _⟩
    · subst h
      go_enter Tryd.func28, Tryd.ntmps28
      go_wp2
      go_ret
      exact ⟨rfl, Below.refl _ _⟩
    · subst h
      go_enter Tryd.func28, Tryd.ntmps28
      go_wp2
      go_ret
      exact ⟨rfl, Below.refl _ _⟩
    · subst h
      go_enter Tryd.func28, Tryd.ntmps28
      go_wp2
      go_ret
      exact ⟨rfl, Below.refl _ _⟩
    · subst h
      go_enter Tryd.func28, Tryd.ntmps28
      go_wp2
      go_ret
      exact ⟨rfl, Below.refl _ _⟩
    · have HV : Hid (escT true r = []) := Lib.hid (by unfold escT; simp [h1, h2, h3, h4, h5, h6, h7])
      go_enter Tryd.func28, Tryd.ntmps28
      go_wp2
      go_ret
      exact ⟨by rw [HV.out]; rfl, Below.refl _ _⟩
end Go.Proofs.YtcfnmhadihhfaaaDoor.U
