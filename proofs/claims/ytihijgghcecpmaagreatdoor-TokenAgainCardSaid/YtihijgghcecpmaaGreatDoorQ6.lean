/- The contracts of the library's reading of numbers, for up to eight digits. -/
import Derived.Test.YtihijgghcecpmaaGreatDoorQ1
import Derived.Test.YtihijgghcecpmaaGreatDoorShelf
import Derived.Test.YtihijgghcecpmaaGreatDoorConv
import Derived.Lib.Walk
import Derived.Laws.Strings3
import Derived.Laws.Closers25
import Derived.Laws.Closers25b
import Derived.BigCall
import Derived.BigGuard
namespace Go.Proofs.YtihijgghcecpmaaGreatDoor.U
open Go.RowKit Go.Shelf

theorem low_fact : ∀ n : Fin 256, (65 ≤ n.val ∧ n.val ≤ 90 → bits .or .u8 (n.val : Int) 32 = (n.val : Int) + 32) ∧ (97 ≤ n.val ∧ n.val ≤ 122 → bits .or .u8 (n.val : Int) 32 = (n.val : Int)) ∧ ((n.val < 65 ∨ (90 < n.val ∧ n.val < 97) ∨ 122 < n.val) → bits .or .u8 (n.val : Int) 32 < 97 ∨ 122 < bits .or .u8 (n.val : Int) 32) ∧ 0 ≤ bits .or .u8 (n.val : Int) 32 ∧ bits .or .u8 (n.val : Int) 32 < 256 := by decide +kernel

theorem lower_any (c : Int) (w : World) : Calls Tryz.prog 150 #[.int .u8 c] w fun e w' => e = .returned (.int .u8 (bits .or .u8 c 32)) ∧ w' = w := by
  go_enter Tryz.func150, Tryz.ntmps150
  go_wp2
  go_ret
  exact ⟨rfl, rfl⟩

/-- What the inner ParseUint hands back. -/
def uintV : Option Int → Value
  | some n => .tuple #[.int .u64 n, .nilIface]
  | none => .tuple #[.int .u64 0, .iface 214 (.int .i64 2)]

set_option maxHeartbeats 32000000 in
set_option maxRecDepth 100000 in
theorem inner_10 (t : ByteArray) (hne : t.size ≠ 0) (h8 : t.size ≤ 8) (w : World) :
    Calls Tryz.prog 139 #[.string t, .int .i64 10, .int .i64 32] w fun e w' => e = .returned (uintV (numA 10 0 (bts t))) ∧ w' = Lib.bytesWorld w 5 t := by
  have hemp := emp_no hne
  have hcv := conv_any w t
  have hB : ∀ j, j < t.size → (Lib.bytesWorld w 5 t).cell? ⟨w.heap.size, j, none⟩ = some (.int .u8 (t.data.toList.getD j 0).toNat) := fun j hj => Lib.bytesWorld_cell w 5 t j hj
  obtain ⟨W1, hW1⟩ : ∃ W1, W1 = Lib.bytesWorld w 5 t := ⟨_, rfl⟩
  rw [← hW1] at hcv hB ⊢
  clear hW1
  obtain ⟨bs, hL⟩ : ∃ bs, bs = bts t := ⟨_, rfl⟩
  have hLn : bs.length = t.size := by rw [hL, bts_len]
  rw [show t.data.toList = bs from hL.symm] at hB
  rw [← hL]
  clear hL
  have hmv : IntKind.u64.wrap (IntKind.u64.wrap 4294967296 - 1) = 4294967295 := by
    rw [IntKind.wrap_u64, IntKind.wrap_u64]
    decide
  go_enter Tryz.func139, Tryz.ntmps139
  go_wp2
  go_loop [12, 13, 101] (fun vu vn vi => ∃ (k : Nat) (a : Int), vu = .bool false ∧ vn = .int .u64 a ∧ vi = .int .i64 k ∧ k ≤ t.size ∧ Hid (0 ≤ a ∧ a < 16 ^ k ∧ numA 10 0 bs = numA 10 a (bs.drop k)))
    (fun _ _ vi => t.size - (intOf vi).toNat)
  case atStart => exact ⟨0, 0, rfl, rfl, rfl, by omega, by omega, by decide, rfl⟩
  case round =>
    obtain ⟨k, a, rfl, rfl, rfl, hk, hh⟩ := hrel
    obtain ⟨a0, hak, hdec⟩ := hh.out
    clear hh
    by_cases hkn : k < t.size
    · have hc := hB k hkn
      have hdrop : bs.drop k = bs[k]'(by omega) :: bs.drop (k + 1) := List.drop_eq_getElem_cons (by omega)
      have hget : bs.getD k 0 = bs[k]'(by omega) := by simp [List.getD, List.getElem?_eq_getElem (show k < bs.length by omega)]
      rw [hdrop] at hdec
      rw [hget] at hc
      generalize bs[k]'(by omega) = c at hc hdec
      have hc256 : c.toNat < 256 := c.toNat_lt
      clear hB hdrop hget
      have a1 : a < 268435456 := by
        have : (16 : Int) ^ k ≤ 16 ^ 7 := by
          have : (16 : Nat) ^ k ≤ 16 ^ 7 := Nat.pow_le_pow_right (by omega) (by omega)
          exact_mod_cast this
        have h7 : (16 : Int) ^ 7 = 268435456 := by decide
        omega
      have hpow : (16 : Int) ^ (k + 1) = 16 ^ k * 16 := Int.pow_succ _ _
      obtain ⟨l1, l2, l3, l4, l5⟩ := low_fact ⟨c.toNat, hc256⟩
      simp only at l1 l2 l3 l4 l5
      by_cases hdig : 48 ≤ c.toNat ∧ c.toNat ≤ 57
      · obtain ⟨hd0, hd1⟩ := hdig
        have hF : numA 10 a (c :: bs.drop (k + 1)) = numA 10 (a * 10 + ((c.toNat : Int) - 48)) (bs.drop (k + 1)) := numA_digit (by omega) (by omega)
        have HN : Hid (0 ≤ a * 10 + ((c.toNat : Int) - 48) ∧ a * 10 + ((c.toNat : Int) - 48) < 16 ^ (k + 1) ∧ numA 10 0 bs = numA 10 (a * 10 + ((c.toNat : Int) - 48)) (bs.drop (k + 1))) := Lib.hid ⟨by omega, by omega, hdec.trans hF⟩
        have iov : a * 10 + ((c.toNat : Int) - 48) ≤ 4294967295 := by omega
        clear hF hdec hak hpow l1 l2 l3 l4 l5
        go_wp2
        refine ⟨⟨k + 1, a * 10 + ((c.toNat : Int) - 48), rfl, (by first | rfl | (congr 1; omega)), (by first | rfl | (congr 1; omega)), by omega, HN⟩, by simp [intOf]; omega⟩
      · obtain ⟨x, hx⟩ : ∃ x, x = bits .or .u8 (c.toNat : Int) 32 := ⟨_, rfl⟩
        rw [← hx] at l1 l2 l3 l4 l5
        have LX := Lib.hid hx
        clear hx
        by_cases hlet : (65 ≤ c.toNat ∧ c.toNat ≤ 90) ∨ (97 ≤ c.toNat ∧ c.toNat ≤ 122)
        · have hx0 : 97 ≤ x ∧ x ≤ 122 := by omega
          have hc57 : 57 < c.toNat := by omega
          have hc48 : 48 ≤ c.toNat := by omega
          clear hdig
          have hdb : ¬ x - 87 < 10 := by omega
          have hF : numA 10 a (c :: bs.drop (k + 1)) = none := by
            rcases hlet with h | h
            · exact numA_upper_no h (by have := l1 h; omega)
            · exact numA_letter_no h (by have := l2 h; omega)
          have HD := Lib.hid (hdec.trans hF)
          obtain ⟨hxa, hxb⟩ := hx0
          have hu : ¬ c.toNat = 95 := by omega
          clear hF hdec hak hpow l1 l2 l3 l4 l5 hlet
          go_wp2_with (go_at_call 150; refine (lower_any _ _).mono ?_; rintro e w' ⟨rfl, rfl⟩; rw [← LX.out])
          go_ret2
          exact ⟨by rw [HD.out]; rfl, rfl⟩
        · have hF : numA 10 a (c :: bs.drop (k + 1)) = none := numA_no (by omega) (by omega)
          have HD := Lib.hid (hdec.trans hF)
          have l3' := l3 (by omega)
          clear hF hdec hak hpow l1 l2 l3 hlet
          rcases l3' with hx1 | hx1
          all_goals (
            go_wp2_with (go_at_call 150; refine (lower_any _ _).mono ?_; rintro e w' ⟨rfl, rfl⟩; first | rw [← LX.out] | rw [show bits .or .u8 95 32 = 127 by decide])
            all_goals go_ret2
            all_goals exact ⟨by rw [HD.out]; rfl, rfl⟩)
    · have hkk : k = t.size := by omega
      subst hkk
      have hF : numA 10 a (bs.drop t.size) = some a := by rw [List.drop_eq_nil_of_le (by omega)]; rfl
      have HD := Lib.hid (hdec.trans hF)
      clear hF hdec hak
      go_wp2
      go_ret2
      exact ⟨by rw [HD.out]; rfl, rfl⟩
end Go.Proofs.YtihijgghcecpmaaGreatDoor.U

/- The contract of the library's reading of hexadecimal numbers, for up to eight digits. -/
namespace Go.Proofs.YtihijgghcecpmaaGreatDoor.U
open Go.RowKit Go.Shelf

set_option maxHeartbeats 32000000 in
set_option maxRecDepth 100000 in
theorem inner_16 (t : ByteArray) (hne : t.size ≠ 0) (h8 : t.size ≤ 8) (w : World) :
    Calls Tryz.prog 139 #[.string t, .int .i64 16, .int .i64 32] w fun e w' => e = .returned (uintV (numA 16 0 (bts t))) ∧ w' = Lib.bytesWorld w 5 t := by
  have hemp := emp_no hne
  have hcv := conv_any w t
  have hB : ∀ j, j < t.size → (Lib.bytesWorld w 5 t).cell? ⟨w.heap.size, j, none⟩ = some (.int .u8 (t.data.toList.getD j 0).toNat) := fun j hj => Lib.bytesWorld_cell w 5 t j hj
  obtain ⟨W1, hW1⟩ : ∃ W1, W1 = Lib.bytesWorld w 5 t := ⟨_, rfl⟩
  rw [← hW1] at hcv hB ⊢
  clear hW1
  obtain ⟨bs, hL⟩ : ∃ bs, bs = bts t := ⟨_, rfl⟩
  have hLn : bs.length = t.size := by rw [hL, bts_len]
  rw [show t.data.toList = bs from hL.symm] at hB
  rw [← hL]
  clear hL
  have hmv : IntKind.u64.wrap (IntKind.u64.wrap 4294967296 - 1) = 4294967295 := by
    rw [IntKind.wrap_u64, IntKind.wrap_u64]
    decide
  go_enter Tryz.func139, Tryz.ntmps139
  go_wp2
  go_loop [12, 13, 101] (fun vu vn vi => ∃ (k : Nat) (a : Int), vu = .bool false ∧ vn = .int .u64 a ∧ vi = .int .i64 k ∧ k ≤ t.size ∧ Hid (0 ≤ a ∧ a < 16 ^ k ∧ numA 16 0 bs = numA 16 a (bs.drop k)))
    (fun _ _ vi => t.size - (intOf vi).toNat)
  case atStart => exact ⟨0, 0, rfl, rfl, rfl, by omega, by omega, by decide, rfl⟩
  case round =>
    obtain ⟨k, a, rfl, rfl, rfl, hk, hh⟩ := hrel
    obtain ⟨a0, hak, hdec⟩ := hh.out
    clear hh
    by_cases hkn : k < t.size
    · have hc := hB k hkn
      have hdrop : bs.drop k = bs[k]'(by omega) :: bs.drop (k + 1) := List.drop_eq_getElem_cons (by omega)
      have hget : bs.getD k 0 = bs[k]'(by omega) := by simp [List.getD, List.getElem?_eq_getElem (show k < bs.length by omega)]
      rw [hdrop] at hdec
      rw [hget] at hc
      generalize bs[k]'(by omega) = c at hc hdec
      have hc256 : c.toNat < 256 := c.toNat_lt
      clear hB hdrop hget
      have a1 : a < 268435456 := by
        have : (16 : Int) ^ k ≤ 16 ^ 7 := by
          have : (16 : Nat) ^ k ≤ 16 ^ 7 := Nat.pow_le_pow_right (by omega) (by omega)
          exact_mod_cast this
        have h7 : (16 : Int) ^ 7 = 268435456 := by decide
        omega
      have hpow : (16 : Int) ^ (k + 1) = 16 ^ k * 16 := Int.pow_succ _ _
      obtain ⟨l1, l2, l3, l4, l5⟩ := low_fact ⟨c.toNat, hc256⟩
      simp only at l1 l2 l3 l4 l5
      by_cases hdig : 48 ≤ c.toNat ∧ c.toNat ≤ 57
      · obtain ⟨hd0, hd1⟩ := hdig
        have hF : numA 16 a (c :: bs.drop (k + 1)) = numA 16 (a * 16 + ((c.toNat : Int) - 48)) (bs.drop (k + 1)) := numA_digit (by omega) (by omega)
        have HN : Hid (0 ≤ a * 16 + ((c.toNat : Int) - 48) ∧ a * 16 + ((c.toNat : Int) - 48) < 16 ^ (k + 1) ∧ numA 16 0 bs = numA 16 (a * 16 + ((c.toNat : Int) - 48)) (bs.drop (k + 1))) := Lib.hid ⟨by omega, by omega, hdec.trans hF⟩
        have iov : a * 16 + ((c.toNat : Int) - 48) ≤ 4294967295 := by omega
        clear hF hdec hak hpow l1 l2 l3 l4 l5
        go_wp2
        refine ⟨⟨k + 1, a * 16 + ((c.toNat : Int) - 48), rfl, (by first | rfl | (congr 1; omega)), (by first | rfl | (congr 1; omega)), by omega, HN⟩, by simp [intOf]; omega⟩
      · obtain ⟨x, hx⟩ : ∃ x, x = bits .or .u8 (c.toNat : Int) 32 := ⟨_, rfl⟩
        rw [← hx] at l1 l2 l3 l4 l5
        have LX := Lib.hid hx
        clear hx
        by_cases hlet : (65 ≤ c.toNat ∧ c.toNat ≤ 90) ∨ (97 ≤ c.toNat ∧ c.toNat ≤ 122)
        · have hx0 : 97 ≤ x ∧ x ≤ 122 := by omega
          have hc57 : 57 < c.toNat := by omega
          have hc48 : 48 ≤ c.toNat := by omega
          clear hdig
          by_cases hdb : x - 87 < 16
          · have hF : numA 16 a (c :: bs.drop (k + 1)) = numA 16 (a * 16 + (x - 87)) (bs.drop (k + 1)) := by
              rcases hlet with h | h
              · rw [l1 h]; exact numA_upper h (by have := l1 h; omega)
              · rw [l2 h]; exact numA_letter h (by have := l2 h; omega)
            have HN : Hid (0 ≤ a * 16 + (x - 87) ∧ a * 16 + (x - 87) < 16 ^ (k + 1) ∧ numA 16 0 bs = numA 16 (a * 16 + (x - 87)) (bs.drop (k + 1))) := Lib.hid ⟨by omega, by omega, hdec.trans hF⟩
            have iov : a * 16 + (x - 87) ≤ 4294967295 := by omega
            have hu : ¬ c.toNat = 95 := by omega
            obtain ⟨hxa, hxb⟩ := hx0
            clear hF hdec hak hpow l1 l2 l3 l4 l5 hlet
            go_wp2_with (go_at_call 150; refine (lower_any _ _).mono ?_; rintro e w' ⟨rfl, rfl⟩; rw [← LX.out])
            refine ⟨⟨k + 1, a * 16 + (x - 87), rfl, (by first | rfl | (congr 1; omega)), (by first | rfl | (congr 1; omega)), by omega, HN⟩, by simp [intOf]; omega⟩
          · have hF : numA 16 a (c :: bs.drop (k + 1)) = none := by
              rcases hlet with h | h
              · exact numA_upper_no h (by have := l1 h; omega)
              · exact numA_letter_no h (by have := l2 h; omega)
            have HD := Lib.hid (hdec.trans hF)
            obtain ⟨hxa, hxb⟩ := hx0
            have hu : ¬ c.toNat = 95 := by omega
            clear hF hdec hak hpow l1 l2 l3 l4 l5 hlet
            go_wp2_with (go_at_call 150; refine (lower_any _ _).mono ?_; rintro e w' ⟨rfl, rfl⟩; rw [← LX.out])
            go_ret2
            exact ⟨by rw [HD.out]; rfl, rfl⟩
        · have hF : numA 16 a (c :: bs.drop (k + 1)) = none := numA_no (by omega) (by omega)
          have HD := Lib.hid (hdec.trans hF)
          have l3' := l3 (by omega)
          clear hF hdec hak hpow l1 l2 l3 hlet
          rcases l3' with hx1 | hx1
          all_goals (
            go_wp2_with (go_at_call 150; refine (lower_any _ _).mono ?_; rintro e w' ⟨rfl, rfl⟩; first | rw [← LX.out] | rw [show bits .or .u8 95 32 = 127 by decide])
            all_goals go_ret2
            all_goals exact ⟨by rw [HD.out]; rfl, rfl⟩)
    · have hkk : k = t.size := by omega
      subst hkk
      have hF : numA 16 a (bs.drop t.size) = some a := by rw [List.drop_eq_nil_of_le (by omega)]; rfl
      have HD := Lib.hid (hdec.trans hF)
      clear hF hdec hak
      go_wp2
      go_ret2
      exact ⟨by rw [HD.out]; rfl, rfl⟩
end Go.Proofs.YtihijgghcecpmaaGreatDoor.U
