/- The walk of NamesBack. -/
import Derived.Test.YtcfnmhadihhfaaaDoorWake
import Derived.Test.YtcfnmhadihhfaaaDoorBk
namespace Go.Proofs.YtcfnmhadihhfaaaDoor.U
open Go.RowKit Go.Shelf

theorem bad_not {v : Bool} {c : Int} (h : badB v c = false) : c ≠ 60 ∧ c ≠ 62 ∧ c ≠ 13 ∧ (v = true → c ≠ 34 ∧ c ≠ 9 ∧ c ≠ 10) := by
  simp only [badB, decide_eq_false_iff_not] at h
  refine ⟨fun e => h (.inl e), fun e => h (.inr (.inl e)), fun e => h (.inr (.inr (.inl e))), fun hv => ⟨fun e => h (.inr (.inr (.inr ⟨hv, .inl e⟩))), fun e => h (.inr (.inr (.inr ⟨hv, .inr (.inl e)⟩))), fun e => h (.inr (.inr (.inr ⟨hv, .inr (.inr e)⟩)))⟩⟩

set_option maxHeartbeats 2000000 in
set_option maxRecDepth 10000 in
theorem lawBack_any (s : ByteArray) (v : Bool) (w : World) (hl : LayS w) : Calls Tryd.prog 6 #[.string s, .bool v] w fun e w' => e = .returned (.bool true) ∧ Below w.heap.size w w' := by
  have HL := Lib.hid hl
  clear hl
  by_cases hs : 200 < s.size
  · go_enter Tryd.func6, Tryd.ntmps6
    go_wp2_with fail
    refine (awake_any _ HL.out).mono ?_
    rintro e w1 ⟨rfl, hb1⟩
    go_wp2
    go_ret
    exact ⟨rfl, hb1⟩
  · have HE := Lib.hid (escape_any v s w HL.out.lay (by omega))
    cases hw : wholeB (bts s) with
    | false =>
      have hp : escP v (bts s) = ([], 10) := by unfold escP; rw [if_neg (by rw [hw]; simp)]
      rw [hp] at HE
      clear hp hw
      go_enter Tryd.func6, Tryd.ntmps6
      go_wp2_with fail
      refine HE.out.mono ?_
      rintro e w1 ⟨rfl, hb1⟩
      have HL1 := Lib.hid (HL.out.below hb1 HL.out.size)
      have HB1 := Lib.hid hb1
      clear hb1
      go_wp2_with fail
      refine (awake_any _ HL1.out).mono ?_
      rintro e w3 ⟨rfl, hb3⟩
      have HB3 := Lib.hid (th HB1.out (Nat.le_refl _) hb3)
      clear hb3
      go_wp2
      go_ret
      exact ⟨rfl, HB3.out⟩
    | true =>
      have hp : escP v (bts s) = (escL v (bts s), 0) := by unfold escP; rw [if_pos hw]
      rw [hp] at HE
      obtain ⟨hwh, hun⟩ := back v ((wholeB_iff _).1 hw)
      obtain ⟨x, hx⟩ : ∃ x : ByteArray, x = ⟨(escL v (bts s)).toArray⟩ := ⟨_, rfl⟩
      have hbx : bts x = escL v (bts s) := by rw [hx]; exact bts_mk _
      have hlx := escL_len v (bts s)
      rw [← hbx, bts_len, bts_len] at hlx
      rw [← hbx] at hwh hun
      have HUP : Hid (unP (bts x) = (bts s, 0)) := Lib.hid (by unfold unP; rw [if_pos ((wholeB_iff _).2 hwh), hun]; rfl)
      have HU := Lib.hid (fun W hW => unescape_any x W hW (by omega))
      rw [HUP.out] at HU
      simp only [mk_bts] at HU
      have HG : Hid (∀ k (h : k < x.size), badB v (x[k]'h).toNat = false) := Lib.hid (fun k h => by
        have := esc_good v (bts s) ((bts x)[k]'(by rw [bts_len]; exact h)) (by rw [← hbx]; exact List.getElem_mem _)
        rwa [bts_get x k h] at this)
      rw [← hx] at HE
      obtain ⟨hlx1, hlx2⟩ := hlx
      have hxs : x.size ≤ 1200 := by omega
      clear hp hw hwh hun hx hbx hlx2
      go_enter Tryd.func6, Tryd.ntmps6
      go_wp2_with fail
      refine HE.out.mono ?_
      rintro e w1 ⟨rfl, hb1⟩
      have HL1 := Lib.hid (HL.out.below hb1 HL.out.size)
      have HB1 := Lib.hid hb1
      clear hb1
      go_wp2_with fail
      go_loopw [7] (fun i wr => ∃ k : Nat, k ≤ x.size ∧ i = .int .i64 k ∧ Hid (Below w.heap.size w wr)) (fun i _ => x.size - (intOf i).toNat)
      case atStart => exact ⟨0, by omega, rfl, HB1.out⟩
      case round =>
        obtain ⟨k, hk, rfl, hB⟩ := hrel
        by_cases hlt : k < x.size
        · obtain ⟨n1, n2, n3, n4⟩ := bad_not (HG.out k hlt)
          cases v with
          | false =>
            clear n4
            go_wp2
            all_goals first
              | exact ⟨⟨k + 1, by omega, by go_num, hB⟩, by simp [intOf]; omega⟩
              | (exfalso; simp_all; done)
              | (exfalso; simp_all; omega)
          | true =>
            obtain ⟨n5, n6, n7⟩ := n4 rfl
            clear n4
            go_wp2
            all_goals first
              | exact ⟨⟨k + 1, by omega, by go_num, hB⟩, by simp [intOf]; omega⟩
              | (exfalso; simp_all; done)
              | (exfalso; simp_all; omega)
        · have hkk : k = x.size := by omega
          subst hkk
          have HLW := Lib.hid (HL.out.below hB.out HL.out.size)
          go_wp2_with fail
          refine (HU.out _ HLW.out).mono ?_
          rintro e w2 ⟨rfl, hb2⟩
          have HL2 := Lib.hid (HLW.out.below hb2 HLW.out.size)
          have HB2 := Lib.hid (th hB.out (Nat.le_refl _) hb2)
          clear hb2
          go_wp2_with fail
          refine (awake_any _ HL2.out).mono ?_
          rintro e w3 ⟨rfl, hb3⟩
          have HB3 := Lib.hid (th HB2.out (Nat.le_refl _) hb3)
          clear hb3
          go_wp2
          go_ret
          exact ⟨by first | rfl | (simp; omega), HB3.out⟩
end Go.Proofs.YtcfnmhadihhfaaaDoor.U
