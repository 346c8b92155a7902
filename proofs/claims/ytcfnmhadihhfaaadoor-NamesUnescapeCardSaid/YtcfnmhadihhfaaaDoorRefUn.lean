/- The contract of the document's answer for layer 2: Unescape. -/
import Derived.Test.YtcfnmhadihhfaaaDoorRefNum
import Derived.Test.YtcfnmhadihhfaaaDoorRefEsc
import Derived.Test.YtcfnmhadihhfaaaDoorUn
namespace Go.Proofs.YtcfnmhadihhfaaaDoor.U
open Go.RowKit Go.Shelf

theorem semi_drop {s : ByteArray} {j : Nat} (h : j < s.size) (hb : (s[j]'h).toNat ≠ 59) : semi ((bts s).drop j) = semi ((bts s).drop (j + 1)) + 1 := by
  rw [bts_drop s j h, semi_cons_no (by rintro e; rw [e] at hb; exact hb rfl)]
theorem semi_here {s : ByteArray} {j : Nat} (h : j < s.size) (hb : (s[j]'h).toNat = 59) : semi ((bts s).drop j) = 0 := by
  rw [bts_drop s j h, show s[j]'h = 59 from UInt8.toNat.inj hb, semi_cons_yes]
theorem semi_none {s : ByteArray} {j : Nat} (h : s.size ≤ j) : semi ((bts s).drop j) = 0 := by
  rw [List.drop_of_length_le (by rw [bts_len]; exact h)]; rfl

theorem un_byte {s : ByteArray} {k : Nat} {acc : List UInt8} (h : k < s.size) (h1 : (s[k]'h).toNat ≠ 60) (h2 : (s[k]'h).toNat ≠ 38) (hu : unL acc ((bts s).drop k) = unL [] (bts s)) : unL (acc ++ [s[k]'h]) ((bts s).drop (k + 1)) = unL [] (bts s) := by
  rw [← hu, bts_drop s k h, unL_other (by rintro e; rw [e] at h1; exact h1 rfl) (by rintro e; rw [e] at h2; exact h2 rfl)]
theorem un_form {s : ByteArray} {k : Nat} {acc : List UInt8} (h : k < s.size) (h1 : (s[k]'h).toNat = 60) (hu : unL acc ((bts s).drop k) = unL [] (bts s)) : unL [] (bts s) = .error 12 := by
  rw [← hu, bts_drop s k h, show s[k]'h = 60 from UInt8.toNat.inj h1, unL_form]
theorem un_ref {s : ByteArray} {k : Nat} {acc : List UInt8} (h : k < s.size) (h1 : (s[k]'h).toNat = 38) (hu : unL acc ((bts s).drop k) = unL [] (bts s)) : unL acc (38 :: (bts s).drop (k + 1)) = unL [] (bts s) := by
  rw [← hu, bts_drop s k h, show s[k]'h = 38 from UInt8.toNat.inj h1]
/-- The document's answer, at a reference: which number, and what is read. -/
theorem un_named {s : ByteArray} {k j : Nat} {acc : List UInt8} (hk : k < s.size) (h1 : (s[k]'hk).toNat = 38) (hj : j < s.size) (hsm : semi ((bts s).drop (k + 1)) = j - (k + 1)) (hkj : k + 1 ≤ j) (hu : unL acc ((bts s).drop k) = unL [] (bts s)) :
    (nameV (bts (s.extract (k + 1) j)) = 0 → unL [] (bts s) = .error 13) ∧ (nameV (bts (s.extract (k + 1) j)) ≠ 0 → isC (nameV (bts (s.extract (k + 1) j))) = true ∧ unL (acc ++ Lib.encodeRune (nameV (bts (s.extract (k + 1) j)))) ((bts s).drop (j + 1)) = unL [] (bts s)) := by
  have hu2 := un_ref hk h1 hu
  have hl := bts_len s
  have hx : bts (s.extract (k + 1) j) = ((bts s).drop (k + 1)).take (semi ((bts s).drop (k + 1))) := by
    rw [bts_extract, hsm, List.take_drop, show k + 1 + (j - (k + 1)) = j by omega]
  rw [hx]
  generalize ht : (bts s).drop (k + 1) = t at *
  have htl : t.length = s.size - (k + 1) := by rw [← ht, List.length_drop, hl]
  unfold nameV
  by_cases hc : isC (wordV (t.take (semi t))) = true
  · have hp : wordV (t.take (semi t)) ≠ 0 := by intro e; rw [e] at hc; revert hc; decide
    rw [if_pos hc]
    refine ⟨fun e => absurd e hp, fun _ => ⟨hc, ?_⟩⟩
    have hr : refL t = some (wordV (t.take (semi t)), semi t + 1) := by unfold refL; rw [if_pos ⟨by omega, hc⟩]
    rw [← hu2, unL_some hr, ← ht, List.drop_drop, ht, hsm, show k + 1 + (j - (k + 1) + 1) = j + 1 by omega]
  · rw [if_neg hc]
    refine ⟨fun _ => ?_, fun e => absurd rfl e⟩
    have hr : refL t = none := by unfold refL; rw [if_neg (fun h => hc h.2)]
    rw [← hu2, unL_none hr]
theorem un_far {s : ByteArray} {k : Nat} {acc : List UInt8} (hk : k < s.size) (h1 : (s[k]'hk).toNat = 38) (hsm : semi ((bts s).drop (k + 1)) = s.size - (k + 1)) (hu : unL acc ((bts s).drop k) = unL [] (bts s)) : unL [] (bts s) = .error 13 := by
  have hu2 := un_ref hk h1 hu
  rw [← hu2, unL_none]
  unfold refL
  rw [if_neg (by rw [hsm, List.length_drop, bts_len]; omega)]

set_option maxHeartbeats 2000000 in
set_option maxRecDepth 10000 in
theorem refUnescape_any (s : ByteArray) (w : World) (hs : s.size ≤ 100000) :
    Calls Tryd.prog 17 #[.string s] w fun e w' => e = .returned (.tuple #[.string ⟨(unR (unL [] (bts s))).1.toArray⟩, .int .i64 (unR (unL [] (bts s))).2]) ∧ Below w.heap.size w w' := by
  obtain ⟨i0, hi, hz0, hz1, hz2⟩ := info_parts info5
  go_enter Tryd.func17, Tryd.ntmps17
  go_wp2_with fail
  go_loopw [4, 5] (fun u i wr => ∃ (k : Nat) (acc : List UInt8), k ≤ s.size ∧ i = .int .i64 k ∧ wr.ownsRow w.heap.size 5 1 u acc.length (Lib.byteCells acc) ∧ Below w.heap.size w wr ∧ Hid (unL acc ((bts s).drop k) = unL [] (bts s)) ∧ acc.length ≤ 4 * k) (fun _ i _ => s.size - (intOf i).toNat)
  case atStart => exact ⟨0, [], by omega, rfl, World.ownsRow_nil _ _ _ _, Below.refl _ _, rfl, by simp⟩
  case round =>
    obtain ⟨k, acc, hk, rfl, hown, hB, HU, hal⟩ := hrel
    have HO := Lib.hid hown
    have HB := Lib.hid hB
    clear hown hB
    by_cases hlt : k < s.size
    · by_cases h60 : (s[k]'hlt).toNat = 60
      · have HF := Lib.hid (un_form hlt h60 HU.out)
        go_wp2
        go_ret2
        refine ⟨?_, HB.out⟩
        rw [HF.out]
        rfl
      · by_cases h38 : (s[k]'hlt).toNat = 38
        · have H38 := Lib.hid h38
          go_wp2_with fail
          clear h38 h60
          go_loopw [6] (fun e w2 => ∃ j : Nat, k + 1 ≤ j ∧ j ≤ s.size ∧ e = .int .i64 j ∧ Below wr.heap.size wr w2 ∧ Hid (semi ((bts s).drop (k + 1)) = j - (k + 1) + semi ((bts s).drop j))) (fun e _ => s.size - (intOf e).toNat)
          case atStart => exact ⟨k + 1, by omega, by omega, by go_num, Below.refl _ _, by rw [Nat.sub_self, Nat.zero_add]; rfl⟩
          case round =>
            obtain ⟨j, hkj, hj, rfl, hb2, HJ⟩ := hrel
            by_cases hjl : j < s.size
            · by_cases h59 : (s[j]'hjl).toNat = 59
              · have HSM : Hid (semi ((bts s).drop (k + 1)) = j - (k + 1)) := Lib.hid (by rw [HJ.out, semi_here hjl h59, Nat.add_zero])
                obtain ⟨hz, hnz⟩ := un_named hlt H38.out hjl HSM.out hkj HU.out
                have HR := Lib.hid (refNamed_any (s.extract (k + 1) j))
                obtain ⟨n, hn⟩ : ∃ n, n = nameV (bts (s.extract (k + 1) j)) := ⟨_, rfl⟩
                rw [← hn] at hz hnz
                have HR2 : Hid (∀ w, Calls Tryd.prog 30 #[.string (s.extract (k + 1) j)] w fun e w' => e = .returned (.int .i64 n) ∧ Below w.heap.size w w') := Lib.hid (by rw [hn]; exact HR.out)
                have HB2 := Lib.hid (th HB.out (Nat.le_refl _) hb2)
                have HO2 := Lib.hid (own_below HO.out hb2)
                clear HR hb2 hn
                by_cases hn0 : n = 0
                · have HF := Lib.hid (hz hn0)
                  subst hn0
                  clear hz hnz
                  go_wp2_with fail
                  refine (HR2.out _).mono ?_
                  rintro e w3 ⟨rfl, hb3⟩
                  go_wp2
                  go_ret2
                  refine ⟨?_, th HB2.out (Nat.le_refl _) hb3⟩
                  rw [HF.out]
                  rfl
                · have HC := Lib.hid (hnz hn0).1
                  have HN := Lib.hid (hnz hn0).2
                  clear hz hnz
                  go_wp2_with fail
                  refine (HR2.out _).mono ?_
                  rintro e w3 ⟨rfl, hb3⟩
                  have HB3 := Lib.hid (th HB2.out (Nat.le_refl _) hb3)
                  have HO3 := Lib.hid (own_below HO2.out hb3)
                  clear hb3
                  go_wp2_with fail
                  refine (refBytes_any n _ HC.out).mono ?_
                  rintro e w4 ⟨g, rfl, hcells, hb4⟩
                  have HB4 := Lib.hid (th HB3.out (Nat.le_refl _) hb4)
                  have HO4 := Lib.hid (own_below HO3.out hb4)
                  have HCL := Lib.hid hcells
                  have HEL := Lib.hid (encC_len n)
                  have HE4 := Lib.hid (sizeC_le n).2
                  clear hb4 hcells
                  go_wp2_with (at_builtin; refine wpList_append_own _ rfl _ _ 36 rfl w.heap.size 5 i0 (.int .u8 0) 1 1 Tryd.underlying36 hi hz0 hz1 hz2 rfl (by decide) _ _ _ rfl HO4.out ⟨g, 0, none⟩ _ _ ((encC n).map (Value.int .u8)) rfl (by rw [List.length_map, Nat.mul_one]) HCL.out (by simp [Value.oneCell']) (by unfold maxLen; have := HEL.out; have := HE4.out; omega) (by have := HEL.out; have := HE4.out; omega) (by have := HB4.out.size; omega) ?_; intro v5 w5 hown5 hgrow5 _)
                  have HB5 := Lib.hid (HB4.out.grown hgrow5 (by have := HB4.out.size; omega) (fun k e => (HO4.out.lt k e).1))
                  have HO5 : Hid (w5.ownsRow w.heap.size 5 1 v5 (acc ++ Lib.encodeRune n).length (Lib.byteCells (acc ++ Lib.encodeRune n))) := Lib.hid (by
                    rw [Lib.byteCells_append, Lib.byteCells_encodeRune, List.length_append, encode_len HC.out]
                    unfold Lib.runeCells
                    rw [encodeZ_is HC.out, ← HEL.out]
                    exact hown5)
                  clear hown5 hgrow5
                  go_wp2
                  exact ⟨⟨j + 1, acc ++ Lib.encodeRune n, by omega, by go_num, HO5.out, HB5.out, HN.out, by rw [List.length_append, encode_len HC.out]; have := HE4.out; omega⟩, by simp [intOf]; omega⟩
              · have HJ2 : Hid (semi ((bts s).drop (k + 1)) = j + 1 - (k + 1) + semi ((bts s).drop (j + 1))) := Lib.hid (by rw [HJ.out, semi_drop hjl h59]; omega)
                go_wp2
                exact ⟨⟨j + 1, by omega, by omega, by go_num, hb2, HJ2.out⟩, by simp [intOf]; omega⟩
            · have hjj : j = s.size := by omega
              have HF := Lib.hid (un_far hlt H38.out (by rw [HJ.out, hjj, semi_none (Nat.le_refl _), Nat.add_zero]) HU.out)
              have HB2 := Lib.hid (th HB.out (Nat.le_refl _) hb2)
              go_wp2
              go_ret2
              refine ⟨?_, HB2.out⟩
              rw [HF.out]
              rfl
        · have HN := Lib.hid (un_byte hlt h60 h38 HU.out)
          go_wp2_with (at_builtin; refine wpList_append_own _ rfl _ _ 36 rfl w.heap.size 5 i0 (.int .u8 0) 1 1 Tryd.underlying36 hi hz0 hz1 hz2 rfl (by decide) _ _ _ rfl (HO.out.alloc _) ⟨wr.heap.size, 0, none⟩ 1 1 [.int .u8 ((s[k]'hlt).toNat : Int)] rfl rfl (cell_one_new _ _ _) (by simp [Value.oneCell']) (by unfold maxLen; omega) (by omega) (by have := HB.out.size; simp; omega) ?_; intro v3 w3 hown3 hgrow3 _)
          have HB3 := Lib.hid ((al HB.out (Nat.le_refl _) _).grown hgrow3 (by have := HB.out.size; simp; omega) (fun k e => (HO.out.lt k e).1))
          have HO3 : Hid (w3.ownsRow w.heap.size 5 1 v3 (acc ++ [s[k]'hlt]).length (Lib.byteCells (acc ++ [s[k]'hlt]))) := Lib.hid (by
            rw [Lib.byteCells_append, List.length_append]
            exact hown3)
          exact ⟨⟨k + 1, acc ++ [s[k]'hlt], by omega, by go_num, HO3.out, HB3.out, HN.out, by rw [List.length_append]; simp; omega⟩, by simp [intOf]; omega⟩
    · have hkk : k = s.size := by omega
      have HF : Hid (unL [] (bts s) = .ok acc) := Lib.hid (by rw [← HU.out, hkk, List.drop_of_length_le (Nat.le_of_eq (bts_len s)), unL_nil])
      have hcb := conv_own _ _ _ _ HO.out
      subst hkk
      go_wp2
      go_ret2
      refine ⟨?_, HB.out⟩
      rw [HF.out]
      rfl
end Go.Proofs.YtcfnmhadihhfaaaDoor.U
