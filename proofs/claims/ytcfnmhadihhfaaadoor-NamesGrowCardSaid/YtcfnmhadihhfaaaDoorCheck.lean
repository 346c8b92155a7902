/- The contracts of utf.Check, of the law's Bytes and of ref.Bytes. -/
import Derived.Test.YtcfnmhadihhfaaaDoorWalk
import Derived.BigQuiet
import Derived.Deep.QuietTactic
namespace Go.Proofs.YtcfnmhadihhfaaaDoor.U
open Go.RowKit

/-- Bytes in memory: a slice of len bytes zs. -/
structure Byt (w : World) (a : Option Addr) (len cap : Nat) (zs : List Int) : Prop where
  eqLen : zs.length = len
  leCap : len ≤ cap
  lim : len ≤ 140737488351232
  byte : ∀ z ∈ zs, 0 ≤ z ∧ z ≤ 255
  cells : 0 < len → ∃ b off, a = some ⟨b, off, none⟩ ∧ ∀ i, i < len → w.cell? ⟨b, off + i, none⟩ = some (.int .u8 (zs[i]?.getD 0))

theorem Byt.below {w w' : World} {a : Option Addr} {len cap : Nat} {zs : List Int} {B : Nat} (h : Byt w a len cap zs) (hb : Below B w w') (hB : w.heap.size ≤ B) : Byt w' a len cap zs := by
  refine ⟨h.eqLen, h.leCap, h.lim, h.byte, fun h0 => ?_⟩
  obtain ⟨b, off, ha, hc⟩ := h.cells h0
  refine ⟨b, off, ha, fun i hi => ?_⟩
  have h1 := hc i hi
  have h2 : b < w.heap.size := by simpa using block_lt_of_cell h1
  exact (hb.cell (p := ⟨b, off + i, none⟩) (by simp; omega)).trans h1

/-- What Check answers. -/
def chkE (zs : List Int) : Int := if chkC zs < zs.length then 10 else 0

set_option maxHeartbeats 1000000 in
theorem walk_zero (a : Option Addr) (cap : Nat) (f : Value) (w : World) : Calls Tryd.prog 41 #[.slice a 0 cap, f] w fun e w' => e = .returned (.int .i64 0) ∧ w = w' := by
  go_enter Tryd.func41, Tryd.ntmps41
  go_wp2_with fail
  go_step3
  go_wp2_with fail
  go_step3
  go_wp2_with fail
  refine wp_loop_rounds 1 ?_
  rw [rounds_succ]
  go_wp2
  rw [Exit.noGoto_ret]
  go_ret
  exact ⟨rfl, rfl⟩

set_option maxHeartbeats 1000000 in
theorem check_any (a : Option Addr) (len cap : Nat) (zs : List Int) (w : World) (hl : Lay w) (hz : Byt w a len cap zs) :
    Calls Tryd.prog 32 #[.slice a len cap] w fun e w' => e = .returned (.tuple #[.int .i64 (chkC zs), .int .i64 (chkE zs)]) ∧ Below w.heap.size w w' := by
  have HL := Lib.hid hl
  have hlim := hz.lim
  have HLN := Lib.hid hz.eqLen
  have hle := chkC_le zs
  rw [hz.eqLen] at hle
  by_cases h0 : len = 0
  · have HZ : zs = [] := List.eq_nil_of_length_eq_zero (by rw [hz.eqLen]; exact h0)
    subst HZ
    subst h0
    clear hz hle
    go_enter Tryd.func32, Tryd.ntmps32
    go_wp2_with fail
    refine (walk_zero a cap _ _).mono ?_
    rintro e w2 ⟨rfl, rfl⟩
    go_wp2
    go_ret2
    exact ⟨rfl, Below.refl _ _⟩
  · obtain ⟨b, off, rfl, hc⟩ := hz.cells (by omega)
    have hbw : b < w.heap.size := by simpa using block_lt_of_cell (hc 0 (by omega))
    have HC := Lib.hid hc
    have HZ := Lib.hid hz
    clear hz hc hl
    by_cases hlt : chkC zs < len
    · have HE := Lib.hid (show chkE zs = 10 by unfold chkE; rw [HLN.out, if_pos hlt])
      go_enter Tryd.func32, Tryd.ntmps32
      go_wp2_with fail
      refine (walk_check b off len cap zs _ HL.out HLN.out HZ.out.leCap HZ.out.byte HC.out hlim hbw).mono ?_
      rintro e w2 ⟨rfl, hb2⟩
      go_wp2
      go_ret2
      exact ⟨by rw [HE.out]; rfl, hb2⟩
    · have HE := Lib.hid (show chkE zs = 0 by unfold chkE; rw [HLN.out, if_neg hlt])
      go_enter Tryd.func32, Tryd.ntmps32
      go_wp2_with fail
      refine (walk_check b off len cap zs _ HL.out HLN.out HZ.out.leCap HZ.out.byte HC.out hlim hbw).mono ?_
      rintro e w2 ⟨rfl, hb2⟩
      go_wp2
      go_ret2
      exact ⟨by rw [HE.out]; rfl, hb2⟩
end Go.Proofs.YtcfnmhadihhfaaaDoor.U
