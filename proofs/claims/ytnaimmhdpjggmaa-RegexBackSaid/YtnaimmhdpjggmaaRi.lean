/- The contract of the document's answer for layer 2: Is. -/
import Derived.Test.YtnaimmhdpjggmaaKi
namespace Go.Proofs.Ytnaimmhdpjggmaa.U
open Go.RowKit Go.Shelf

theorem allL_snoc (p : Int → Bool) (l : List UInt8) (b : UInt8) : allL p (l ++ [b]) = (allL p l && p b.toNat) := by simp [allL]
theorem name_step (s : ByteArray) (k : Nat) (hlt : k < s.size) (ha : allL namedI ((bts s).take k) = true) (hb : allL letterI (((bts s).take k).take 1) = true) (hn : namedI (s[k]'hlt).toNat = true) (hl : k = 0 → letterI (s[k]'hlt).toNat = true) :
    allL namedI ((bts s).take (k + 1)) = true ∧ allL letterI (((bts s).take (k + 1)).take 1) = true := by
  rw [bts_take s k hlt, allL_snoc, ha, hn]
  refine ⟨rfl, ?_⟩
  by_cases h : k = 0
  · subst h
    simpa [allL] using hl rfl
  · rw [List.take_append_of_le_length (by rw [List.length_take, bts_len]; omega)]
    exact hb
theorem name_no (s : ByteArray) (k : Nat) (hlt : k < s.size) (h : namedI (s[k]'hlt).toNat = false ∨ (k = 0 ∧ letterI (s[k]'hlt).toNat = false)) : nameL (bts s) = false := by
  rcases h with h | ⟨rfl, h⟩
  · unfold nameL; rw [allL_false s k hlt h]; simp
  · have : allL letterI ((bts s).take 1) = false := by rw [bts_take s 0 hlt, allL_snoc, h]; simp
    unfold nameL; rw [this]; simp
theorem name_end (s : ByteArray) (ha : allL namedI (bts s) = true) (hb : allL letterI ((bts s).take 1) = true) : nameL (bts s) = decide (1 ≤ s.size ∧ s.size ≤ 64) := by
  unfold nameL; rw [ha, hb, bts_len]; simp

set_option maxHeartbeats 4000000 in
theorem refIsN_any (s : ByteArray) (w : World) (hs : s.size ≤ 1000000) : Calls Try.prog 20 #[.string s] w fun e w' => e = .returned (.bool (nameL (bts s))) ∧ Below w.heap.size w w' := by
  go_enter Try.func20, Try.ntmps20
  go_wp2_with fail
  go_loopw [3] (fun i wr => ∃ k : Nat, k ≤ s.size ∧ i = .int .i64 k ∧ Below w.heap.size w wr ∧ allL namedI ((bts s).take k) = true ∧ allL letterI (((bts s).take k).take 1) = true) (fun i _ => s.size - (intOf i).toNat)
  case atStart => exact ⟨0, by omega, rfl, Below.refl _ _, rfl, rfl⟩
  case round =>
    obtain ⟨k, hk, rfl, hB, ha, hb⟩ := hrel
    by_cases hlt : k < s.size
    · by_cases hk0 : k = 0
      · subst hk0
        rcases (show ((s[0]'hlt).toNat < 45) ∨ ((s[0]'hlt).toNat = 45) ∨ ((s[0]'hlt).toNat = 46) ∨ ((s[0]'hlt).toNat = 47) ∨ (48 ≤ (s[0]'hlt).toNat ∧ (s[0]'hlt).toNat ≤ 57) ∨ (58 ≤ (s[0]'hlt).toNat ∧ (s[0]'hlt).toNat ≤ 64) ∨ (65 ≤ (s[0]'hlt).toNat ∧ (s[0]'hlt).toNat ≤ 90) ∨ (91 ≤ (s[0]'hlt).toNat ∧ (s[0]'hlt).toNat ≤ 94) ∨ ((s[0]'hlt).toNat = 95) ∨ ((s[0]'hlt).toNat = 96) ∨ (97 ≤ (s[0]'hlt).toNat ∧ (s[0]'hlt).toNat ≤ 122) ∨ (122 < (s[0]'hlt).toNat) by omega) with h1 | h1 | h1 | h1 | ⟨h1, h2⟩ | ⟨h1, h2⟩ | ⟨h1, h2⟩ | ⟨h1, h2⟩ | h1 | h1 | ⟨h1, h2⟩ | h1
        · have HN := Lib.hid (name_no s 0 hlt (.inr ⟨rfl, by simp only [letterI, decide_eq_false_iff_not]; omega⟩))
          clear ha hb
          go_wp2
          all_goals first
            | (go_ret; exact ⟨by rw [HN.out]; rfl, hB⟩)
            | (exfalso; simp_all; done)
            | (exfalso; simp_all; omega)
        · have HN := Lib.hid (name_no s 0 hlt (.inr ⟨rfl, by simp only [letterI, decide_eq_false_iff_not]; omega⟩))
          clear ha hb
          go_wp2
          all_goals first
            | (go_ret; exact ⟨by rw [HN.out]; rfl, hB⟩)
            | (exfalso; simp_all; done)
            | (exfalso; simp_all; omega)
        · have HN := Lib.hid (name_no s 0 hlt (.inr ⟨rfl, by simp only [letterI, decide_eq_false_iff_not]; omega⟩))
          clear ha hb
          go_wp2
          all_goals first
            | (go_ret; exact ⟨by rw [HN.out]; rfl, hB⟩)
            | (exfalso; simp_all; done)
            | (exfalso; simp_all; omega)
        · have HN := Lib.hid (name_no s 0 hlt (.inr ⟨rfl, by simp only [letterI, decide_eq_false_iff_not]; omega⟩))
          clear ha hb
          go_wp2
          all_goals first
            | (go_ret; exact ⟨by rw [HN.out]; rfl, hB⟩)
            | (exfalso; simp_all; done)
            | (exfalso; simp_all; omega)
        · have HN := Lib.hid (name_no s 0 hlt (.inr ⟨rfl, by simp only [letterI, decide_eq_false_iff_not]; omega⟩))
          clear ha hb
          go_wp2
          all_goals first
            | (go_ret; exact ⟨by rw [HN.out]; rfl, hB⟩)
            | (exfalso; simp_all; done)
            | (exfalso; simp_all; omega)
        · have HN := Lib.hid (name_no s 0 hlt (.inr ⟨rfl, by simp only [letterI, decide_eq_false_iff_not]; omega⟩))
          clear ha hb
          go_wp2
          all_goals first
            | (go_ret; exact ⟨by rw [HN.out]; rfl, hB⟩)
            | (exfalso; simp_all; done)
            | (exfalso; simp_all; omega)
        · have HS := Lib.hid (name_step s 0 hlt ha hb (by simp only [namedI, decide_eq_true_eq]; omega) (fun _ => by simp only [letterI, decide_eq_true_eq]; omega))
          clear ha hb
          go_wp2
          all_goals first
            | exact ⟨⟨1, by omega, by go_num, hB, HS.out.1, HS.out.2⟩, by simp [intOf]; omega⟩
            | (exfalso; simp_all; done)
            | (exfalso; simp_all; omega)
        · have HN := Lib.hid (name_no s 0 hlt (.inr ⟨rfl, by simp only [letterI, decide_eq_false_iff_not]; omega⟩))
          clear ha hb
          go_wp2
          all_goals first
            | (go_ret; exact ⟨by rw [HN.out]; rfl, hB⟩)
            | (exfalso; simp_all; done)
            | (exfalso; simp_all; omega)
        · have HS := Lib.hid (name_step s 0 hlt ha hb (by simp only [namedI, decide_eq_true_eq]; omega) (fun _ => by simp only [letterI, decide_eq_true_eq]; omega))
          clear ha hb
          go_wp2
          all_goals first
            | exact ⟨⟨1, by omega, by go_num, hB, HS.out.1, HS.out.2⟩, by simp [intOf]; omega⟩
            | (exfalso; simp_all; done)
            | (exfalso; simp_all; omega)
        · have HN := Lib.hid (name_no s 0 hlt (.inr ⟨rfl, by simp only [letterI, decide_eq_false_iff_not]; omega⟩))
          clear ha hb
          go_wp2
          all_goals first
            | (go_ret; exact ⟨by rw [HN.out]; rfl, hB⟩)
            | (exfalso; simp_all; done)
            | (exfalso; simp_all; omega)
        · have HS := Lib.hid (name_step s 0 hlt ha hb (by simp only [namedI, decide_eq_true_eq]; omega) (fun _ => by simp only [letterI, decide_eq_true_eq]; omega))
          clear ha hb
          go_wp2
          all_goals first
            | exact ⟨⟨1, by omega, by go_num, hB, HS.out.1, HS.out.2⟩, by simp [intOf]; omega⟩
            | (exfalso; simp_all; done)
            | (exfalso; simp_all; omega)
        · have HN := Lib.hid (name_no s 0 hlt (.inr ⟨rfl, by simp only [letterI, decide_eq_false_iff_not]; omega⟩))
          clear ha hb
          go_wp2
          all_goals first
            | (go_ret; exact ⟨by rw [HN.out]; rfl, hB⟩)
            | (exfalso; simp_all; done)
            | (exfalso; simp_all; omega)
      · rcases (show ((s[k]'hlt).toNat < 45) ∨ ((s[k]'hlt).toNat = 45) ∨ ((s[k]'hlt).toNat = 46) ∨ ((s[k]'hlt).toNat = 47) ∨ (48 ≤ (s[k]'hlt).toNat ∧ (s[k]'hlt).toNat ≤ 57) ∨ (58 ≤ (s[k]'hlt).toNat ∧ (s[k]'hlt).toNat ≤ 64) ∨ (65 ≤ (s[k]'hlt).toNat ∧ (s[k]'hlt).toNat ≤ 90) ∨ (91 ≤ (s[k]'hlt).toNat ∧ (s[k]'hlt).toNat ≤ 94) ∨ ((s[k]'hlt).toNat = 95) ∨ ((s[k]'hlt).toNat = 96) ∨ (97 ≤ (s[k]'hlt).toNat ∧ (s[k]'hlt).toNat ≤ 122) ∨ (122 < (s[k]'hlt).toNat) by omega) with h1 | h1 | h1 | h1 | ⟨h1, h2⟩ | ⟨h1, h2⟩ | ⟨h1, h2⟩ | ⟨h1, h2⟩ | h1 | h1 | ⟨h1, h2⟩ | h1
        · have HN := Lib.hid (name_no s k hlt (.inl (by simp only [namedI, decide_eq_false_iff_not]; omega)))
          clear ha hb
          go_wp2
          all_goals first
            | (go_ret; exact ⟨by rw [HN.out]; rfl, hB⟩)
            | (exfalso; simp_all; done)
            | (exfalso; simp_all; omega)
        · have HS := Lib.hid (name_step s k hlt ha hb (by simp only [namedI, decide_eq_true_eq]; omega) (fun _ => by omega))
          clear ha hb
          go_wp2
          all_goals first
            | exact ⟨⟨k + 1, by omega, by go_num, hB, HS.out.1, HS.out.2⟩, by simp [intOf]; omega⟩
            | (exfalso; simp_all; done)
            | (exfalso; simp_all; omega)
        · have HS := Lib.hid (name_step s k hlt ha hb (by simp only [namedI, decide_eq_true_eq]; omega) (fun _ => by omega))
          clear ha hb
          go_wp2
          all_goals first
            | exact ⟨⟨k + 1, by omega, by go_num, hB, HS.out.1, HS.out.2⟩, by simp [intOf]; omega⟩
            | (exfalso; simp_all; done)
            | (exfalso; simp_all; omega)
        · have HN := Lib.hid (name_no s k hlt (.inl (by simp only [namedI, decide_eq_false_iff_not]; omega)))
          clear ha hb
          go_wp2
          all_goals first
            | (go_ret; exact ⟨by rw [HN.out]; rfl, hB⟩)
            | (exfalso; simp_all; done)
            | (exfalso; simp_all; omega)
        · have HS := Lib.hid (name_step s k hlt ha hb (by simp only [namedI, decide_eq_true_eq]; omega) (fun _ => by omega))
          clear ha hb
          go_wp2
          all_goals first
            | exact ⟨⟨k + 1, by omega, by go_num, hB, HS.out.1, HS.out.2⟩, by simp [intOf]; omega⟩
            | (exfalso; simp_all; done)
            | (exfalso; simp_all; omega)
        · have HN := Lib.hid (name_no s k hlt (.inl (by simp only [namedI, decide_eq_false_iff_not]; omega)))
          clear ha hb
          go_wp2
          all_goals first
            | (go_ret; exact ⟨by rw [HN.out]; rfl, hB⟩)
            | (exfalso; simp_all; done)
            | (exfalso; simp_all; omega)
        · have HS := Lib.hid (name_step s k hlt ha hb (by simp only [namedI, decide_eq_true_eq]; omega) (fun _ => by omega))
          clear ha hb
          go_wp2
          all_goals first
            | exact ⟨⟨k + 1, by omega, by go_num, hB, HS.out.1, HS.out.2⟩, by simp [intOf]; omega⟩
            | (exfalso; simp_all; done)
            | (exfalso; simp_all; omega)
        · have HN := Lib.hid (name_no s k hlt (.inl (by simp only [namedI, decide_eq_false_iff_not]; omega)))
          clear ha hb
          go_wp2
          all_goals first
            | (go_ret; exact ⟨by rw [HN.out]; rfl, hB⟩)
            | (exfalso; simp_all; done)
            | (exfalso; simp_all; omega)
        · have HS := Lib.hid (name_step s k hlt ha hb (by simp only [namedI, decide_eq_true_eq]; omega) (fun _ => by omega))
          clear ha hb
          go_wp2
          all_goals first
            | exact ⟨⟨k + 1, by omega, by go_num, hB, HS.out.1, HS.out.2⟩, by simp [intOf]; omega⟩
            | (exfalso; simp_all; done)
            | (exfalso; simp_all; omega)
        · have HN := Lib.hid (name_no s k hlt (.inl (by simp only [namedI, decide_eq_false_iff_not]; omega)))
          clear ha hb
          go_wp2
          all_goals first
            | (go_ret; exact ⟨by rw [HN.out]; rfl, hB⟩)
            | (exfalso; simp_all; done)
            | (exfalso; simp_all; omega)
        · have HS := Lib.hid (name_step s k hlt ha hb (by simp only [namedI, decide_eq_true_eq]; omega) (fun _ => by omega))
          clear ha hb
          go_wp2
          all_goals first
            | exact ⟨⟨k + 1, by omega, by go_num, hB, HS.out.1, HS.out.2⟩, by simp [intOf]; omega⟩
            | (exfalso; simp_all; done)
            | (exfalso; simp_all; omega)
        · have HN := Lib.hid (name_no s k hlt (.inl (by simp only [namedI, decide_eq_false_iff_not]; omega)))
          clear ha hb
          go_wp2
          all_goals first
            | (go_ret; exact ⟨by rw [HN.out]; rfl, hB⟩)
            | (exfalso; simp_all; done)
            | (exfalso; simp_all; omega)
    · have hkk : k = s.size := by omega
      rw [hkk, List.take_of_length_le (Nat.le_of_eq (bts_len s))] at ha hb
      have HE := Lib.hid (name_end s ha hb)
      clear ha hb
      subst hkk
      rcases (show s.size < 1 ∨ (1 ≤ s.size ∧ s.size ≤ 64) ∨ 64 < s.size by omega) with h | ⟨h, h'⟩ | h
      · have HV : Hid (decide (1 ≤ s.size ∧ s.size ≤ 64) = false) := Lib.hid (by rw [decide_eq_false_iff_not]; omega)
        go_wp2
        go_ret
        refine ⟨?_, hB⟩
        rw [HE.out, HV.out]
        first | rfl | (simp; omega)
      · have HV : Hid (decide (1 ≤ s.size ∧ s.size ≤ 64) = true) := Lib.hid (by rw [decide_eq_true_eq]; omega)
        go_wp2
        go_ret
        refine ⟨?_, hB⟩
        rw [HE.out, HV.out]
        first | rfl | (simp; omega)
      · have HV : Hid (decide (1 ≤ s.size ∧ s.size ≤ 64) = false) := Lib.hid (by rw [decide_eq_false_iff_not]; omega)
        go_wp2
        go_ret
        refine ⟨?_, hB⟩
        rw [HE.out, HV.out]
        first | rfl | (simp; omega)
end Go.Proofs.Ytnaimmhdpjggmaa.U
