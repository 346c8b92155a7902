/- The walks of NamesEscape and NamesUnescape. -/
import Derived.Test.YtcfnmhadihhfaaaDoorWake
import Derived.Test.YtcfnmhadihhfaaaDoorRefUn
namespace Go.Proofs.YtcfnmhadihhfaaaDoor.U
open Go.RowKit Go.Shelf

set_option maxHeartbeats 1000000 in
theorem lawEscape_any (s : ByteArray) (v : Bool) (w : World) (hl : LayS w) : Calls Tryd.prog 4 #[.string s, .bool v] w fun e w' => e = .returned (.bool true) ∧ Below w.heap.size w w' := by
  have HL := Lib.hid hl
  clear hl
  by_cases hs : 200 < s.size
  · go_enter Tryd.func4, Tryd.ntmps4
    go_wp2_with fail
    refine (awake_any _ HL.out).mono ?_
    rintro e w1 ⟨rfl, hb1⟩
    go_wp2
    go_ret
    exact ⟨rfl, hb1⟩
  · have HE := Lib.hid (escape_any v s w HL.out.lay (by omega))
    have HC := Lib.hid (fun W => chars_any s W (by omega))
    have HR := Lib.hid (fun W => refEscape_any v s W (by omega))
    cases hw : wholeB (bts s) with
    | false =>
      have hp : escP v (bts s) = ([], 10) := by unfold escP; rw [if_neg (by rw [hw]; simp)]
      rw [hp] at HE
      rw [hw] at HC
      clear hp hw HR
      go_enter Tryd.func4, Tryd.ntmps4
      go_wp2_with fail
      refine HE.out.mono ?_
      rintro e w1 ⟨rfl, hb1⟩
      have HL1 := Lib.hid (HL.out.below hb1 HL.out.size)
      have HB1 := Lib.hid hb1
      clear hb1
      go_wp2_with fail
      refine (HC.out _).mono ?_
      rintro e w2 ⟨rfl, hb2⟩
      have HL2 := Lib.hid (HL1.out.below hb2 HL1.out.size)
      have HB2 := Lib.hid (th HB1.out (Nat.le_refl _) hb2)
      clear hb2
      go_wp2_with fail
      refine (awake_any _ HL2.out).mono ?_
      rintro e w3 ⟨rfl, hb3⟩
      have HB3 := Lib.hid (th HB2.out (Nat.le_refl _) hb3)
      clear hb3
      go_wp2
      go_ret
      exact ⟨rfl, HB3.out⟩
    | true =>
      have hp : escP v (bts s) = (escL v (bts s), 0) := by unfold escP; rw [if_pos hw]
      rw [hp] at HE
      rw [hw] at HC
      clear hp hw
      generalize escL v (bts s) = E at HE HR
      go_enter Tryd.func4, Tryd.ntmps4
      go_wp2_with fail
      refine HE.out.mono ?_
      rintro e w1 ⟨rfl, hb1⟩
      have HL1 := Lib.hid (HL.out.below hb1 HL.out.size)
      have HB1 := Lib.hid hb1
      clear hb1
      go_wp2_with fail
      refine (HC.out _).mono ?_
      rintro e w2 ⟨rfl, hb2⟩
      have HL2 := Lib.hid (HL1.out.below hb2 HL1.out.size)
      have HB2 := Lib.hid (th HB1.out (Nat.le_refl _) hb2)
      clear hb2
      go_wp2_with fail
      refine (HR.out _).mono ?_
      rintro e w3 ⟨rfl, hb3⟩
      have HL3 := Lib.hid (HL2.out.below hb3 HL2.out.size)
      have HB3 := Lib.hid (th HB2.out (Nat.le_refl _) hb3)
      clear hb3
      go_wp2_with fail
      refine (awake_any _ HL3.out).mono ?_
      rintro e w4 ⟨rfl, hb4⟩
      have HB4 := Lib.hid (th HB3.out (Nat.le_refl _) hb4)
      clear hb4
      go_wp2
      go_ret
      exact ⟨rfl, HB4.out⟩

set_option maxHeartbeats 1000000 in
theorem lawUnescape_any (s : ByteArray) (w : World) (hl : LayS w) : Calls Tryd.prog 5 #[.string s] w fun e w' => e = .returned (.bool true) ∧ Below w.heap.size w w' := by
  have HL := Lib.hid hl
  clear hl
  by_cases hs : 200 < s.size
  · go_enter Tryd.func5, Tryd.ntmps5
    go_wp2_with fail
    refine (awake_any _ HL.out).mono ?_
    rintro e w1 ⟨rfl, hb1⟩
    go_wp2
    go_ret
    exact ⟨rfl, hb1⟩
  · have HE := Lib.hid (unescape_any s w HL.out (by omega))
    have HC := Lib.hid (fun W => chars_any s W (by omega))
    have HR := Lib.hid (fun W => refUnescape_any s W (by omega))
    cases hw : wholeB (bts s) with
    | false =>
      have hp : unP (bts s) = ([], 10) := by unfold unP; rw [if_neg (by rw [hw]; simp)]
      rw [hp] at HE
      rw [hw] at HC
      clear hp hw HR
      go_enter Tryd.func5, Tryd.ntmps5
      go_wp2_with fail
      refine HE.out.mono ?_
      rintro e w1 ⟨rfl, hb1⟩
      have HL1 := Lib.hid (HL.out.below hb1 HL.out.size)
      have HB1 := Lib.hid hb1
      clear hb1
      go_wp2_with fail
      refine (HC.out _).mono ?_
      rintro e w2 ⟨rfl, hb2⟩
      have HL2 := Lib.hid (HL1.out.below hb2 HL1.out.size)
      have HB2 := Lib.hid (th HB1.out (Nat.le_refl _) hb2)
      clear hb2
      go_wp2_with fail
      refine (awake_any _ HL2.out).mono ?_
      rintro e w3 ⟨rfl, hb3⟩
      have HB3 := Lib.hid (th HB2.out (Nat.le_refl _) hb3)
      clear hb3
      go_wp2
      go_ret
      exact ⟨rfl, HB3.out⟩
    | true =>
      have hp : unP (bts s) = unR (unL [] (bts s)) := by unfold unP; rw [if_pos hw]
      rw [hp] at HE
      rw [hw] at HC
      clear hp hw
      generalize unR (unL [] (bts s)) = R at HE HR
      obtain ⟨E, c⟩ := R
      simp only at HE HR
      go_enter Tryd.func5, Tryd.ntmps5
      go_wp2_with fail
      refine HE.out.mono ?_
      rintro e w1 ⟨rfl, hb1⟩
      have HL1 := Lib.hid (HL.out.below hb1 HL.out.size)
      have HB1 := Lib.hid hb1
      clear hb1
      go_wp2_with fail
      refine (HC.out _).mono ?_
      rintro e w2 ⟨rfl, hb2⟩
      have HL2 := Lib.hid (HL1.out.below hb2 HL1.out.size)
      have HB2 := Lib.hid (th HB1.out (Nat.le_refl _) hb2)
      clear hb2
      go_wp2_with fail
      refine (HR.out _).mono ?_
      rintro e w3 ⟨rfl, hb3⟩
      have HL3 := Lib.hid (HL2.out.below hb3 HL2.out.size)
      have HB3 := Lib.hid (th HB2.out (Nat.le_refl _) hb3)
      clear hb3
      go_wp2_with fail
      refine (awake_any _ HL3.out).mono ?_
      rintro e w4 ⟨rfl, hb4⟩
      have HB4 := Lib.hid (th HB3.out (Nat.le_refl _) hb4)
      clear hb4
      go_wp2
      go_ret
      exact ⟨rfl, HB4.out⟩
end Go.Proofs.YtcfnmhadihhfaaaDoor.U
