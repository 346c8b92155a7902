/- The contracts of the document's answer for layer 2: number, named. -/
import Derived.Test.YtcfnmhadihhfaaaDoorRefN
import Derived.Test.YtcfnmhadihhfaaaDoorRefIs
import Derived.Test.YtcfnmhadihhfaaaDoorMean
namespace Go.Proofs.YtcfnmhadihhfaaaDoor.U
open Go.RowKit Go.Shelf

theorem numA_step (base : Int) (s : ByteArray) (k : Nat) (h : k < s.size) (a : Int) (h0 : 0 ≤ digV (s[k]'h).toNat) (h1 : digV (s[k]'h).toNat < base) (ha : numA base 0 (bts s) = numA base a ((bts s).drop k)) : numA base 0 (bts s) = numA base (base * a + digV (s[k]'h).toNat) ((bts s).drop (k + 1)) := by
  rw [ha, bts_drop s k h, numA_cons rfl h0 h1, Int.mul_comm]
theorem numA_stop (base : Int) (s : ByteArray) (k : Nat) (h : k < s.size) (a : Int) (h0 : digV (s[k]'h).toNat < 0 ∨ base ≤ digV (s[k]'h).toNat) (ha : numA base 0 (bts s) = numA base a ((bts s).drop k)) : numA base 0 (bts s) = none := by
  rw [ha, bts_drop s k h, numA_none rfl h0]

set_option maxHeartbeats 4000000 in
theorem refNumber_any (base : Int) (hb : 10 ≤ base ∧ base ≤ 16) (s : ByteArray) (w : World) :
    Calls Tryd.prog 39 #[.string s, .int .i64 base] w fun e w' => e = .returned (.int .i64 ((numL base (bts s)).getD (-1))) ∧ Below w.heap.size w w' := by
  have hlen := bts_len s
  by_cases h8 : 8 < s.size
  · have HN : Hid (numL base (bts s) = none) := Lib.hid (by unfold numL; rw [if_neg (by omega)])
    go_enter Tryd.func39, Tryd.ntmps39
    go_wp2
    go_ret
    exact ⟨by rw [HN.out]; rfl, Below.refl _ _⟩
  by_cases h0 : s.size < 1
  · have HN : Hid (numL base (bts s) = none) := Lib.hid (by unfold numL; rw [if_neg (by omega)])
    go_enter Tryd.func39, Tryd.ntmps39
    go_wp2
    go_ret
    exact ⟨by rw [HN.out]; rfl, Below.refl _ _⟩
  have HN : Hid (numL base (bts s) = numA base 0 (bts s)) := Lib.hid (by unfold numL; rw [if_pos (by omega)])
  have HB := Lib.hid hb
  obtain ⟨hb0, hb1⟩ := hb
  clear hlen
  go_enter Tryd.func39, Tryd.ntmps39
  go_wp2_with fail
  go_loopw [5, 6] (fun v i wr => ∃ (k : Nat) (a : Int), k ≤ s.size ∧ v = .int .i64 a ∧ i = .int .i64 k ∧ Below w.heap.size w wr ∧ Hid (0 ≤ a ∧ a < 16 ^ k ∧ numA base 0 (bts s) = numA base a ((bts s).drop k))) (fun _ i _ => s.size - (intOf i).toNat)
  case atStart => exact ⟨0, 0, by omega, rfl, rfl, Below.refl _ _, by omega, by decide, rfl⟩
  case round =>
    obtain ⟨k, a, hk, rfl, rfl, hB, hh⟩ := hrel
    obtain ⟨a0, hak, ha⟩ := hh.out
    clear hh
    have HBE := Lib.hid hB
    by_cases hlt : k < s.size
    · have hc256 : (s[k]'hlt).toNat < 256 := (s[k]'hlt).toNat_lt
      have a1 : a < 268435456 := by
        have : (16 : Int) ^ k ≤ 16 ^ 7 := by
          have : (16 : Nat) ^ k ≤ 16 ^ 7 := Nat.pow_le_pow_right (by omega) (by omega)
          exact_mod_cast this
        have h7 : (16 : Int) ^ 7 = 268435456 := by decide
        omega
      have hpow : (16 : Int) ^ (k + 1) = 16 ^ k * 16 := Int.pow_succ _ _
      have hd1 := digV_lt (s[k]'hlt).toNat
      have hm0 : 0 ≤ base * a := Int.mul_nonneg (by omega) a0
      have hm1 : base * a ≤ 16 * a := Int.mul_le_mul_of_nonneg_right hb1 a0
      have hdig := digit_any ((s[k]'hlt).toNat : Int) (by omega) (by omega) wr
      have hst := numA_step base s k hlt a
      have hsp := numA_stop base s k hlt a
      obtain ⟨d, hd⟩ : ∃ d, d = digV (s[k]'hlt).toNat := ⟨_, rfl⟩
      obtain ⟨m, hm⟩ : ∃ m, m = base * a := ⟨_, rfl⟩
      rw [← hd] at hd1 hst hsp hdig
      rw [← hm] at hm0 hm1 hst
      have HD := Lib.hid hdig
      have HM := Lib.hid hm
      by_cases hd0 : d < 0
      · have HS := Lib.hid (hsp (.inl hd0) ha)
        clear hpow hst hsp ha hdig hd hm hak
        go_wp2_with fail
        refine HD.out.mono ?_
        rintro e w2 ⟨rfl, rfl⟩
        go_wp2
        go_ret
        exact ⟨by rw [HN.out, HS.out]; rfl, HBE.out⟩
      · by_cases hdb : d < base
        · have HS := Lib.hid (hst (by omega) hdb ha)
          have HP : Hid (0 ≤ m + d ∧ m + d < 16 ^ (k + 1)) := Lib.hid ⟨by omega, by omega⟩
          have hmul : wrap64 (base * a) = m := by rw [← hm]; unfold wrap64; omega
          have hmd0 : 0 ≤ m + d := by omega
          have hmd1 : m + d < 4294967296 := by omega
          clear hpow hst hsp ha hdig hd hak
          go_wp2_with fail
          refine HD.out.mono ?_
          rintro e w2 ⟨rfl, rfl⟩
          go_wp2
          exact ⟨⟨k + 1, m + d, by omega, by first | rfl | (congr 1; omega), by go_num, HBE.out, HP.out.1, HP.out.2, HS.out⟩, by simp [intOf]; omega⟩
        · have HS := Lib.hid (hsp (.inr (by omega)) ha)
          clear hpow hst hsp ha hdig hd hm hak
          go_wp2_with fail
          refine HD.out.mono ?_
          rintro e w2 ⟨rfl, rfl⟩
          go_wp2
          go_ret
          exact ⟨by rw [HN.out, HS.out]; rfl, HBE.out⟩
    · have hkk : k = s.size := by omega
      have HS : Hid (numA base 0 (bts s) = some a) := Lib.hid (by rw [ha, List.drop_of_length_le (by rw [bts_len]; omega)]; rfl)
      subst hkk
      clear ha hak
      go_wp2
      go_ret
      exact ⟨by rw [HN.out, HS.out]; rfl, HBE.out⟩

/-- What the document's answer says of a word: its character, or 0. -/
def nameV (l : List UInt8) : Int := if isC (wordV l) = true then wordV l else 0
theorem nameV_lit {l : List UInt8} {n : Int} (h : wordV l = n) (hn : isC n = true) : nameV l = n := by unfold nameV; rw [h, if_pos hn]

theorem bts_at (s : ByteArray) (i : Nat) (h : i < s.size) : (bts s)[i]?.getD 0 = s[i]'h := by
  rw [List.getElem?_eq_getElem (by rw [bts_len]; exact h), Option.getD_some, bts_get s i h]

/-- Behind the switch: the number that is told by digits, or -1. -/
def digN (l : List UInt8) : Int := if Lib.hasPrefix l [35, 120] = true then (numL 16 (l.drop 2)).getD (-1) else if Lib.hasPrefix l [35] = true then (numL 10 (l.drop 1)).getD (-1) else -1
theorem nameV_dig {l : List UInt8} (h1 : l ≠ [97, 109, 112]) (h2 : l ≠ [108, 116]) (h3 : l ≠ [103, 116]) (h4 : l ≠ [113, 117, 111, 116]) (h5 : l ≠ [97, 112, 111, 115]) : nameV l = if isC (digN l) = true then digN l else 0 := by
  have h0 : isC 0 = false := by decide
  have h9 : isC (-1) = false := by decide
  unfold nameV wordV digN
  rw [if_neg h1, if_neg h2, if_neg h3, if_neg h4, if_neg h5]
  split
  · cases numL 16 (l.drop 2) with
    | none => simp [h0, h9]
    | some n => rfl
  · split
    · cases numL 10 (l.drop 1) with
      | none => simp [h0, h9]
      | some n => rfl
    · simp [h0, h9]

set_option maxHeartbeats 1000000 in
theorem refNamed_any (s : ByteArray) (w : World) :
    Calls Tryd.prog 30 #[.string s] w fun e w' => e = .returned (.int .i64 (nameV (bts s))) ∧ Below w.heap.size w w' := by
  by_cases h1 : bts s = [97, 109, 112]
  · obtain rfl := bts_eq_of h1
    go_enter Tryd.func30, Tryd.ntmps30
    go_wp2
    go_ret
    exact ⟨by rw [h1, nameV_lit (n := 38) (by decide) (by decide)]; rfl, Below.refl _ _⟩
  by_cases h2 : bts s = [108, 116]
  · obtain rfl := bts_eq_of h2
    go_enter Tryd.func30, Tryd.ntmps30
    go_wp2
    go_ret
    exact ⟨by rw [h2, nameV_lit (n := 60) (by decide) (by decide)]; rfl, Below.refl _ _⟩
  by_cases h3 : bts s = [103, 116]
  · obtain rfl := bts_eq_of h3
    go_enter Tryd.func30, Tryd.ntmps30
    go_wp2
    go_ret
    exact ⟨by rw [h3, nameV_lit (n := 62) (by decide) (by decide)]; rfl, Below.refl _ _⟩
  by_cases h4 : bts s = [113, 117, 111, 116]
  · obtain rfl := bts_eq_of h4
    go_enter Tryd.func30, Tryd.ntmps30
    go_wp2
    go_ret
    exact ⟨by rw [h4, nameV_lit (n := 34) (by decide) (by decide)]; rfl, Below.refl _ _⟩
  by_cases h5 : bts s = [97, 112, 111, 115]
  · obtain rfl := bts_eq_of h5
    go_enter Tryd.func30, Tryd.ntmps30
    go_wp2
    go_ret
    exact ⟨by rw [h5, nameV_lit (n := 39) (by decide) (by decide)]; rfl, Below.refl _ _⟩
  have n1 := str_ne h1
  have n2 := str_ne h2
  have n3 := str_ne h3
  have n4 := str_ne h4
  have n5 := str_ne h5
  have HV := Lib.hid (nameV_dig h1 h2 h3 h4 h5)
  clear h1 h2 h3 h4 h5
  have hlen := bts_len s
  by_cases ha : ∃ h : 1 < s.size, (s[0]'(by omega)).toNat = 35 ∧ (s[1]'h).toNat = 120
  · obtain ⟨hz, e0, e1⟩ := ha
    have hx : Lib.hasPrefix (bts s) [35, 120] = true := prefix2.2 ⟨by omega, by rw [bts_at s 0 (by omega)]; exact UInt8.toNat.inj e0, by rw [bts_at s 1 hz]; exact UInt8.toNat.inj e1⟩
    have HE : Hid (digN (bts s) = (numL 16 (bts (s.extract 2 s.size))).getD (-1)) := Lib.hid (by
      unfold digN; rw [if_pos hx, show bts (s.extract 2 s.size) = (bts s).drop 2 by rw [bts_extract, List.take_of_length_le (Nat.le_of_eq hlen)]])
    have HR := Lib.hid (refNumber_any 16 (by omega) (s.extract 2 s.size) w)
    obtain ⟨d, hd⟩ : ∃ d, d = digN (bts s) := ⟨_, rfl⟩
    rw [← HE.out, ← hd] at HR
    rw [← hd] at HV
    clear hx HE hlen hd
    cases hc : isC d with
    | true =>
      have HC := Lib.hid hc
      clear hc
      go_enter Tryd.func30, Tryd.ntmps30
      go_wp2_with fail
      refine HR.out.mono ?_
      rintro e w2 ⟨rfl, hb⟩
      go_wp2_with fail
      refine (refIs_any _ _).mono ?_
      rintro e w3 ⟨rfl, rfl⟩
      rw [HC.out]
      go_wp2
      go_ret
      exact ⟨by rw [HV.out, if_pos HC.out]; rfl, hb⟩
    | false =>
      have HC := Lib.hid hc
      clear hc
      go_enter Tryd.func30, Tryd.ntmps30
      go_wp2_with fail
      refine HR.out.mono ?_
      rintro e w2 ⟨rfl, hb⟩
      go_wp2_with fail
      refine (refIs_any _ _).mono ?_
      rintro e w3 ⟨rfl, rfl⟩
      rw [HC.out]
      go_wp2
      go_ret
      exact ⟨by rw [HV.out, if_neg (by rw [HC.out]; simp)]; rfl, hb⟩
  have hx : Lib.hasPrefix (bts s) [35, 120] = false := by
    cases h : Lib.hasPrefix (bts s) [35, 120]
    · rfl
    · obtain ⟨p1, p2, p3⟩ := prefix2.1 h
      rw [bts_at s 0 (by omega)] at p2
      rw [bts_at s 1 (by omega)] at p3
      exact absurd ⟨by omega, by rw [p2]; rfl, by rw [p3]; rfl⟩ ha
  by_cases hb : ∃ h : 0 < s.size, (s[0]'h).toNat = 35
  · obtain ⟨hz, e0⟩ := hb
    have hy : Lib.hasPrefix (bts s) [35] = true := prefix1.2 ⟨by omega, by rw [bts_at s 0 hz]; exact UInt8.toNat.inj e0⟩
    have HE : Hid (digN (bts s) = (numL 10 (bts (s.extract 1 s.size))).getD (-1)) := Lib.hid (by
      unfold digN; rw [if_neg (by rw [hx]; simp), if_pos hy, show bts (s.extract 1 s.size) = (bts s).drop 1 by rw [bts_extract, List.take_of_length_le (Nat.le_of_eq hlen)]])
    have HR := Lib.hid (refNumber_any 10 (by omega) (s.extract 1 s.size) w)
    obtain ⟨d, hd⟩ : ∃ d, d = digN (bts s) := ⟨_, rfl⟩
    rw [← HE.out, ← hd] at HR
    rw [← hd] at HV
    have h1x : s.size = 1 ∨ ∃ h : 1 < s.size, (s[1]'h).toNat ≠ 120 := by
      rcases Nat.lt_or_ge 1 s.size with h | h
      · exact .inr ⟨h, fun e => ha ⟨h, e0, e⟩⟩
      · exact .inl (by omega)
    clear hx hy HE hlen hd ha
    rcases h1x with h1 | ⟨h1, h1x⟩
    · rw [h1, show s.extract 1 1 = ByteArray.empty by simp] at HR
      cases hc : isC d with
      | true =>
        have HC := Lib.hid hc
        clear hc
        go_enter Tryd.func30, Tryd.ntmps30
        go_wp2_with fail
        refine HR.out.mono ?_
        rintro e w2 ⟨rfl, hb⟩
        go_wp2_with fail
        refine (refIs_any _ _).mono ?_
        rintro e w3 ⟨rfl, rfl⟩
        rw [HC.out]
        go_wp2
        go_ret
        exact ⟨by rw [HV.out, if_pos HC.out]; rfl, hb⟩
      | false =>
        have HC := Lib.hid hc
        clear hc
        go_enter Tryd.func30, Tryd.ntmps30
        go_wp2_with fail
        refine HR.out.mono ?_
        rintro e w2 ⟨rfl, hb⟩
        go_wp2_with fail
        refine (refIs_any _ _).mono ?_
        rintro e w3 ⟨rfl, rfl⟩
        rw [HC.out]
        go_wp2
        go_ret
        exact ⟨by rw [HV.out, if_neg (by rw [HC.out]; simp)]; rfl, hb⟩
    · skip
      cases hc : isC d with
      | true =>
        have HC := Lib.hid hc
        clear hc
        go_enter Tryd.func30, Tryd.ntmps30
        go_wp2_with fail
        refine HR.out.mono ?_
        rintro e w2 ⟨rfl, hb⟩
        go_wp2_with fail
        refine (refIs_any _ _).mono ?_
        rintro e w3 ⟨rfl, rfl⟩
        rw [HC.out]
        go_wp2
        go_ret
        exact ⟨by rw [HV.out, if_pos HC.out]; rfl, hb⟩
      | false =>
        have HC := Lib.hid hc
        clear hc
        go_enter Tryd.func30, Tryd.ntmps30
        go_wp2_with fail
        refine HR.out.mono ?_
        rintro e w2 ⟨rfl, hb⟩
        go_wp2_with fail
        refine (refIs_any _ _).mono ?_
        rintro e w3 ⟨rfl, rfl⟩
        rw [HC.out]
        go_wp2
        go_ret
        exact ⟨by rw [HV.out, if_neg (by rw [HC.out]; simp)]; rfl, hb⟩
  have hy : Lib.hasPrefix (bts s) [35] = false := by
    cases h : Lib.hasPrefix (bts s) [35]
    · rfl
    · obtain ⟨p1, p2⟩ := prefix1.1 h
      rw [bts_at s 0 (by omega)] at p2
      exact absurd ⟨by omega, by rw [p2]; rfl⟩ hb
  have HE : Hid (digN (bts s) = -1) := Lib.hid (by unfold digN; rw [if_neg (by rw [hx]; simp), if_neg (by rw [hy]; simp)])
  have h1x : s.size = 0 ∨ (s.size = 1 ∧ ∃ h : 0 < s.size, (s[0]'h).toNat ≠ 35) ∨ ∃ h : 1 < s.size, (s[0]'(by omega)).toNat ≠ 35 := by
    rcases Nat.lt_or_ge 0 s.size with h | h
    · rcases Nat.lt_or_ge 1 s.size with h' | h'
      · exact .inr (.inr ⟨h', fun e => hb ⟨h, e⟩⟩)
      · exact .inr (.inl ⟨by omega, h, fun e => hb ⟨h, e⟩⟩)
    · exact .inl (by omega)
  clear hx hy hlen ha hb
  rcases h1x with h1 | ⟨h1, h0, h1x⟩ | ⟨h1, h1x⟩
  all_goals
    go_enter Tryd.func30, Tryd.ntmps30
    go_wp2_with fail
    refine (refIs_any _ _).mono ?_
    rintro e w3 ⟨rfl, rfl⟩
    rw [show isC (-1) = false by decide]
    go_wp2
    go_ret
    exact ⟨by rw [HV.out, HE.out, if_neg (by decide)]; rfl, Below.refl _ _⟩
end Go.Proofs.YtcfnmhadihhfaaaDoor.U
