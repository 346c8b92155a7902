/- The walk of NamesAre. -/
import Derived.Test.YtcfnmhadihhfaaaDoorWake
import Derived.Test.YtcfnmhadihhfaaaDoorRefIsN
namespace Go.Proofs.YtcfnmhadihhfaaaDoor.U
open Go.RowKit Go.Shelf

set_option maxHeartbeats 1000000 in
theorem lawAre_any (s : ByteArray) (w : World) (hl : LayS w) : Calls Tryd.prog 3 #[.string s] w fun e w' => e = .returned (.bool true) ∧ Below w.heap.size w w' := by
  have HL := Lib.hid hl
  clear hl
  by_cases hs : 200 < s.size
  · go_enter Tryd.func3, Tryd.ntmps3
    go_wp2_with fail
    refine (awake_any _ HL.out).mono ?_
    rintro e w1 ⟨rfl, hb1⟩
    go_wp2
    go_ret
    exact ⟨rfl, hb1⟩
  · have HI := Lib.hid (fun W => refIsN_any s W (by omega))
    go_enter Tryd.func3, Tryd.ntmps3
    go_wp2_with fail
    go_loopw [3, 4] (fun v i wr => ∃ k : Nat, k ≤ s.size ∧ v = .bool (allL blankI ((bts s).take k)) ∧ i = .int .i64 k ∧ Hid (Below w.heap.size w wr)) (fun _ i _ => s.size - (intOf i).toNat)
    case atStart => exact ⟨0, by omega, rfl, rfl, Below.refl _ _⟩
    case round =>
      obtain ⟨k, hk, rfl, rfl, hB⟩ := hrel
      by_cases hlt : k < s.size
      · have HS : Hid (allL blankI ((bts s).take (k + 1)) = (allL blankI ((bts s).take k) && blankI (s[k]'hlt).toNat)) := Lib.hid (by rw [bts_take s k hlt, allL_snoc])
        cases hc : allL blankI ((bts s).take k) with
        | true =>
          rw [hc] at HS
          clear hc
          go_wp2_with fail
          refine (refBlank_any _ _).mono ?_
          rintro e w2 ⟨rfl, rfl⟩
          go_wp2
          exact ⟨⟨k + 1, by omega, by rw [HS.out]; rfl, by go_num, hB⟩, by simp [intOf]; omega⟩
        | false =>
          rw [hc] at HS
          clear hc
          go_wp2
          exact ⟨⟨k + 1, by omega, by rw [HS.out]; rfl, by go_num, hB⟩, by simp [intOf]; omega⟩
      · have hkk : k = s.size := by omega
        have HF : Hid ((bts s).take k = bts s) := Lib.hid (by rw [hkk, List.take_of_length_le (Nat.le_of_eq (bts_len s))])
        rw [HF.out]
        subst hkk
        obtain ⟨q, hq⟩ : ∃ q, q = nameL (bts s) := ⟨_, rfl⟩
        obtain ⟨p, hp⟩ : ∃ p, p = allL blankI (bts s) := ⟨_, rfl⟩
        have HQ := Lib.hid hq
        have HP := Lib.hid hp
        rw [← hp]
        clear hq hp
        have HLW := Lib.hid (HL.out.below hB.out HL.out.size)
        go_wp2_with fail
        refine (isName_any s _).mono ?_
        rintro e w1 ⟨rfl, hb1⟩
        rw [← HQ.out]
        have HL1 := Lib.hid (HLW.out.below hb1 HLW.out.size)
        have HB1 := Lib.hid (th hB.out (Nat.le_refl _) hb1)
        clear hb1
        go_wp2_with fail
        refine (HI.out _).mono ?_
        rintro e w2 ⟨rfl, hb2⟩
        rw [← HQ.out]
        have HL2 := Lib.hid (HL1.out.below hb2 HL1.out.size)
        have HB2 := Lib.hid (th HB1.out (Nat.le_refl _) hb2)
        clear hb2
        go_wp2_with fail
        refine (blankS_any s _).mono ?_
        rintro e w3 ⟨rfl, hb3⟩
        rw [← HP.out]
        have HL3 := Lib.hid (HL2.out.below hb3 HL2.out.size)
        have HB3 := Lib.hid (th HB2.out (Nat.le_refl _) hb3)
        clear hb3
        go_wp2_with fail
        refine (awake_any _ HL3.out).mono ?_
        rintro e w4 ⟨rfl, hb4⟩
        have HB4 := Lib.hid (th HB3.out (Nat.le_refl _) hb4)
        clear hb4
        go_wp2
        go_ret
        exact ⟨rfl, HB4.out⟩
end Go.Proofs.YtcfnmhadihhfaaaDoor.U
