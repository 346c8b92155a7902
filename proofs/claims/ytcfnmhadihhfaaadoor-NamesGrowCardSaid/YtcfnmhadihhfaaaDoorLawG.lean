/- The walk of NamesGrow. -/
import Derived.Test.YtcfnmhadihhfaaaDoorWake
import Derived.Test.YtcfnmhadihhfaaaDoorRefIsN
namespace Go.Proofs.YtcfnmhadihhfaaaDoor.U
open Go.RowKit Go.Shelf

theorem name_parts {l : List UInt8} (h : nameL l = true) : (1 ≤ l.length ∧ l.length ≤ 64) ∧ allL letterI (l.take 1) = true ∧ allL namedI l = true := by
  unfold nameL at h
  simp only [Bool.and_eq_true, decide_eq_true_eq] at h
  exact h
theorem grow_blank {l : List UInt8} (h : nameL l = true) : allL blankI l = false := by
  obtain ⟨h1, h2, _⟩ := name_parts h
  match l, h1, h2 with
  | c :: t, _, h2 =>
    have hc : letterI c.toNat = true := by simpa [allL] using h2
    simp only [letterI, decide_eq_true_eq] at hc
    have hb : blankI c.toNat = false := by simp only [blankI, decide_eq_false_iff_not]; omega
    simp [allL, hb]
theorem grow_whole {l : List UInt8} (h : allL namedI l = true) : Whole l := by
  have hb : ∀ r ∈ ints l, namedI r = true := by
    intro r hr
    unfold ints at hr
    obtain ⟨b, hb, rfl⟩ := List.mem_map.1 hr
    exact List.all_eq_true.1 h b hb
  refine whole_of (zs := ints l) ?_ ?_
  · rw [List.all_eq_true]
    intro r hr
    have := hb r hr
    simp only [namedI, decide_eq_true_eq] at this
    exact isC_yes (by omega)
  · generalize ints l = zs at hb
    induction zs with
    | nil => rfl
    | cons r t ih =>
      have := hb r (by simp)
      simp only [namedI, decide_eq_true_eq] at this
      rw [List.flatMap_cons, encC_1 (by omega), ← ih (fun x hx => hb x (by simp [hx]))]
      rfl
theorem grow_esc {l : List UInt8} (v : Bool) (h : allL namedI l = true) : escL v l = l := by
  unfold escL
  induction l with
  | nil => rfl
  | cons b t ih =>
    simp only [allL, List.all_cons, Bool.and_eq_true] at h
    have hb := h.1
    simp only [namedI, decide_eq_true_eq] at hb
    have he : escT v (b.toNat : Int) = [] := by
      unfold escT
      rw [if_neg (by omega), if_neg (by omega), if_neg (by omega), if_neg (by omega), if_neg (by omega), if_neg (by omega), if_neg (by omega)]
    rw [List.flatMap_cons, ih h.2]
    unfold escB
    rw [if_pos he]
    rfl
theorem grow_more {l : List UInt8} (h : nameL l = true) : nameL (95 :: l) = decide (l.length < 64) := by
  obtain ⟨h1, h2, h3⟩ := name_parts h
  have e1 : allL letterI ((95 :: l).take 1) = true := by simp [allL]; decide
  have e2 : allL namedI (95 :: l) = true := by
    unfold allL at h3 ⊢
    rw [List.all_cons, h3]; decide
  unfold nameL
  rw [e1, e2]
  simp
  omega
theorem grow_less {l : List UInt8} (h : nameL l = true) (hl : 1 < l.length) : nameL (l.take (l.length - 1)) = true := by
  obtain ⟨h1, h2, h3⟩ := name_parts h
  have e1 : (l.take (l.length - 1)).take 1 = l.take 1 := by rw [List.take_take, show min 1 (l.length - 1) = 1 by omega]
  have e2 : allL namedI (l.take (l.length - 1)) = true := by
    unfold allL at h3 ⊢
    rw [List.all_eq_true] at h3 ⊢
    exact fun b hb => h3 b (List.mem_of_mem_take hb)
  unfold nameL
  rw [e1, h2, e2]
  simp
  omega

theorem bts_under (s : ByteArray) : bts ((⟨#[95]⟩ : ByteArray) ++ s) = 95 :: bts s := by rw [bts_append]; rfl

set_option maxHeartbeats 2000000 in
theorem lawGrow_any (s : ByteArray) (w : World) (hl : LayS w) : Calls Tryd.prog 7 #[.string s] w fun e w' => e = .returned (.bool true) ∧ Below w.heap.size w w' := by
  have HL := Lib.hid hl
  clear hl
  by_cases hs : 200 < s.size
  · go_enter Tryd.func7, Tryd.ntmps7
    go_wp2_with fail
    refine (awake_any _ HL.out).mono ?_
    rintro e w1 ⟨rfl, hb1⟩
    go_wp2
    go_ret
    exact ⟨rfl, hb1⟩
  · cases hn : nameL (bts s) with
    | false =>
      have HN := Lib.hid hn
      clear hn
      go_enter Tryd.func7, Tryd.ntmps7
      go_wp2_with fail
      refine (isName_any s _).mono ?_
      rintro e w1 ⟨rfl, hb1⟩
      rw [HN.out]
      have HL1 := Lib.hid (HL.out.below hb1 HL.out.size)
      have HB1 := Lib.hid hb1
      clear hb1
      go_wp2_with fail
      refine (awake_any _ HL1.out).mono ?_
      rintro e w2 ⟨rfl, hb2⟩
      have HB2 := Lib.hid (th HB1.out (Nat.le_refl _) hb2)
      clear hb2
      go_wp2
      go_ret
      exact ⟨rfl, HB2.out⟩
    | true =>
      have HN := Lib.hid hn
      have hlen := bts_len s
      have hpart := name_parts hn
      have HP : Hid (escP true (bts s) = (bts s, 0)) := Lib.hid (by unfold escP; rw [if_pos ((wholeB_iff _).2 (grow_whole hpart.2.2)), grow_esc true hpart.2.2])
      have HE := Lib.hid (fun W hW => escape_any true s W hW (by omega))
      rw [HP.out] at HE
      have HBL := Lib.hid (grow_blank hn)
      have HM := Lib.hid (grow_more hn)
      have hsz : 1 ≤ s.size ∧ s.size ≤ 64 := by rw [← hlen]; exact hpart.1
      obtain ⟨hs1, hs2⟩ := hsz
      simp only [mk_bts] at HE
      clear hpart hlen
      have HLS : Hid (1 < s.size → nameL (bts (s.extract 0 (s.size - 1))) = true) := Lib.hid (fun h => by
        have := grow_less hn (by rw [bts_len]; exact h)
        rw [bts_len] at this
        rw [bts_extract]; exact this)
      have HU : Hid (nameL (bts ((⟨#[95]⟩ : ByteArray) ++ s)) = decide (s.size < 64)) := Lib.hid (by rw [bts_under, HM.out, bts_len])
      clear hn
      go_enter Tryd.func7, Tryd.ntmps7
      go_wp2_with fail
      refine (isName_any s _).mono ?_
      rintro e w1 ⟨rfl, hb1⟩
      rw [HN.out]
      have HL1 := Lib.hid (HL.out.below hb1 HL.out.size)
      have HB1 := Lib.hid hb1
      clear hb1
      go_wp2_with fail
      refine (HE.out _ HL1.out.lay).mono ?_
      rintro e w2 ⟨rfl, hb2⟩
      have HL2 := Lib.hid (HL1.out.below hb2 HL1.out.size)
      have HB2 := Lib.hid (th HB1.out (Nat.le_refl _) hb2)
      clear hb2
      go_wp2_with fail
      refine (blankS_any s _).mono ?_
      rintro e w3 ⟨rfl, hb3⟩
      rw [HBL.out]
      have HL3 := Lib.hid (HL2.out.below hb3 HL2.out.size)
      have HB3 := Lib.hid (th HB2.out (Nat.le_refl _) hb3)
      clear hb3
      go_wp2_with fail
      refine (isName_any _ _).mono ?_
      rintro e w4 ⟨rfl, hb4⟩
      rw [HU.out]
      have HL4 := Lib.hid (HL3.out.below hb4 HL3.out.size)
      have HB4 := Lib.hid (th HB3.out (Nat.le_refl _) hb4)
      clear hb4
      by_cases h1 : s.size = 1
      · have h64 : s.size < 64 := by omega
        rw [decide_eq_true h64]
        go_wp2_with fail
        refine (awake_any _ HL4.out).mono ?_
        rintro e w5 ⟨rfl, hb5⟩
        have HB5 := Lib.hid (th HB4.out (Nat.le_refl _) hb5)
        clear hb5
        go_wp2
        go_ret
        exact ⟨rfl, HB5.out⟩
      · have HI := Lib.hid (HLS.out (by omega))
        have HIS := Lib.hid (fun W => isName_any (s.extract 0 (s.size - 1)) W)
        rw [HI.out] at HIS
        by_cases h64 : s.size < 64
        · rw [decide_eq_true h64]
          go_wp2_with fail
          refine (HIS.out _).mono ?_
          rintro e w5 ⟨rfl, hb5⟩
          have HL5 := Lib.hid (HL4.out.below hb5 HL4.out.size)
          have HB5 := Lib.hid (th HB4.out (Nat.le_refl _) hb5)
          clear hb5
          go_wp2_with fail
          refine (awake_any _ HL5.out).mono ?_
          rintro e w6 ⟨rfl, hb6⟩
          have HB6 := Lib.hid (th HB5.out (Nat.le_refl _) hb6)
          clear hb6
          go_wp2
          go_ret
          exact ⟨rfl, HB6.out⟩
        · rw [decide_eq_false h64]
          go_wp2_with fail
          refine (HIS.out _).mono ?_
          rintro e w5 ⟨rfl, hb5⟩
          have HL5 := Lib.hid (HL4.out.below hb5 HL4.out.size)
          have HB5 := Lib.hid (th HB4.out (Nat.le_refl _) hb5)
          clear hb5
          go_wp2_with fail
          refine (awake_any _ HL5.out).mono ?_
          rintro e w6 ⟨rfl, hb6⟩
          have HB6 := Lib.hid (th HB5.out (Nat.le_refl _) hb6)
          clear hb6
          go_wp2
          go_ret
          exact ⟨by first | rfl | (simp; omega), HB6.out⟩
end Go.Proofs.YtcfnmhadihhfaaaDoor.U
