/- The contract of the law's awake. -/
import Derived.Test.YtcfnmhadihhfaaaDoorUnesc
namespace Go.Proofs.YtcfnmhadihhfaaaDoor.U
open Go.RowKit Go.Shelf

theorem esc_ex : escP true (bts ⟨#[97, 60, 98, 34]⟩) = ([97, 38, 108, 116, 59, 98, 38, 113, 117, 111, 116, 59], 0) := by decide +kernel
theorem un_ex : unP (bts ⟨#[38, 35, 54, 53, 59, 38, 35, 120, 52, 50, 59, 38, 97, 112, 111, 115, 59]⟩) = ([65, 66, 39], 0) := by decide +kernel

set_option maxHeartbeats 1000000 in
set_option maxRecDepth 10000 in
theorem awake_any (w : World) (hl : LayS w) : Calls Tryd.prog 8 #[] w fun e w' => e = .returned (.bool true) ∧ Below w.heap.size w w' := by
  have HL := Lib.hid hl
  have HE := Lib.hid (fun W hW => escape_any true ⟨#[97, 60, 98, 34]⟩ W hW (by decide))
  have HU := Lib.hid (fun W hW => unescape_any ⟨#[38, 35, 54, 53, 59, 38, 35, 120, 52, 50, 59, 38, 97, 112, 111, 115, 59]⟩ W hW (by decide))
  simp only [esc_ex, un_ex] at HE HU
  clear hl
  go_enter Tryd.func8, Tryd.ntmps8
  go_wp2_with fail
  refine (HE.out _ HL.out.lay).mono ?_
  rintro e w1 ⟨rfl, hb1⟩
  have HL1 := Lib.hid (HL.out.below hb1 HL.out.size)
  have HB1 := Lib.hid hb1
  clear hb1
  go_wp2_with fail
  refine (HU.out _ HL1.out).mono ?_
  rintro e w2 ⟨rfl, hb2⟩
  have HB2 := Lib.hid (th HB1.out (Nat.le_refl _) hb2)
  clear hb2
  go_wp2
  go_ret
  exact ⟨rfl, HB2.out⟩
end Go.Proofs.YtcfnmhadihhfaaaDoor.U
