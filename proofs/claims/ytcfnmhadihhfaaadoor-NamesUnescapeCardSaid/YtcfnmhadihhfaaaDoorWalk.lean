/- The contracts of utf.walk, for utf.Check's closure, and of utf.Check. -/
import Derived.Test.YtcfnmhadihhfaaaDoorDecode
import Derived.Test.YtcfnmhadihhfaaaDoorChk
namespace Go.Proofs.YtcfnmhadihhfaaaDoor.U
open Go.RowKit

set_option maxHeartbeats 1000000 in
theorem walk_check (b off len cap : Nat) (zs : List Int) (w : World) (hl : Lay w) (hzl : zs.length = len) (hcap : len ≤ cap) (hb : ∀ z ∈ zs, 0 ≤ z ∧ z ≤ 255)
    (hcell : ∀ i, i < len → w.cell? ⟨b, off + i, none⟩ = some (.int .u8 (zs[i]?.getD 0))) (hlen : len ≤ 140737488351232) (hbw : b < w.heap.size) :
    Calls Tryd.prog 41 #[.slice (some ⟨b, off, none⟩) len cap, .func (.func 42) #[] #[]] w fun e w' => e = .returned (.int .i64 (chkC zs)) ∧ Below w.heap.size w w' := by
  have HL := Lib.hid hl
  have HZ := Lib.hid hzl
  have HB := Lib.hid hb
  have HC := Lib.hid hcell
  clear hl hzl hb hcell
  go_enter Tryd.func41, Tryd.ntmps41
  go_wp2_with fail
  go_step3
  go_wp2_with fail
  go_step3
  go_wp2_with fail
  go_loopw [5] (fun i wr => ∃ p : Nat, p ≤ len ∧ i = .int .i64 p ∧ Hid (p + chkC (zs.drop p) = chkC zs) ∧ Below w.heap.size w wr)
    (fun i _ => len - (intOf i).toNat)
  case atStart => exact ⟨0, by omega, rfl, by unfold Hid; simp, Below.refl _ _⟩
  case round =>
    obtain ⟨p, hp, rfl, hch, hB⟩ := hrel
    have hlay := Lib.hid (HL.out.below hB HL.out.size)
    by_cases hlt : p < len
    · have hc2 : ∀ i, i < len → wr.cell? ⟨b, off + i, none⟩ = some (.int .u8 (zs[i]?.getD 0)) := fun i hi => (hB.cell (p := ⟨b, off + i, none⟩) hbw).trans (HC.out i hi)
      have HC2 := Lib.hid hc2
      clear hc2
      have HBe := Lib.hid hB
      clear hB
      go_wp2_with fail
      refine (decode_in b off len cap p zs _ hlay.out HZ.out hcap HB.out HC2.out hlen hlt).mono ?_
      rintro e w2 ⟨hb2, he⟩
      cases hd : decC (zs.drop p) with
      | none =>
        rw [hd] at he
        subst he
        have HD := Lib.hid (chkC_none hd)
        clear hd
        go_wp2
        rw [Exit.noGoto_ret]
        go_ret
        exact ⟨by have := hch.out; rw [HD.out] at this; rw [← this]; rfl, HBe.out.trans (hb2.mono HBe.out.size)⟩
      | some x =>
        obtain ⟨r, n⟩ := x
        rw [hd] at he
        subst he
        have HS := decC_some hd
        have HD := Lib.hid (chkC_some hd)
        clear hd
        have hln : p + n ≤ len := by
          have h3 := HS.2.2.1
          have h4 := HZ.out
          simp only [List.length_drop] at h3
          omega
        have hn1 := HS.1
        have HSS := Lib.hid HS
        clear HS
        go_wp2
        exact ⟨⟨p + n, by omega, by go_num, by have := hch.out; unfold Hid; rw [HD.out, List.drop_drop] at this; omega, th HBe.out (Nat.le_refl _) hb2⟩, by simp [intOf]; omega⟩
    · obtain rfl : p = len := by omega
      go_wp2
      rw [Exit.noGoto_ret]
      go_ret
      exact ⟨by have := hch.out; rw [List.drop_of_length_le (by have := HZ.out; omega), chkC_nil] at this; rw [← this]; rfl, hB⟩
end Go.Proofs.YtcfnmhadihhfaaaDoor.U
