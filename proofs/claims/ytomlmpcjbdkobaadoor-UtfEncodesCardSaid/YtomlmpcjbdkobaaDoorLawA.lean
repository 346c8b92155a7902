/- The walk of the law UtfEncodes: the law's Go text returns true at every list of numbers. -/
import Derived.Test.YtomlmpcjbdkobaaDoorAwake
import Derived.Test.YtomlmpcjbdkobaaDoorRefIs
namespace Go.Proofs.YtomlmpcjbdkobaaDoor.U
open Go.RowKit

theorem one_all (l : List Int) : ∀ u ∈ l.map (Value.int .u8), u.oneCell' = true := by
  intro u hu
  simp only [List.mem_map] at hu
  obtain ⟨x, _, rfl⟩ := hu
  rfl

set_option maxHeartbeats 1000000 in
theorem encodes_far (a : Option Addr) (len cap : Nat) (w : World) (hl : Lay w) (h : 100 < len) : Calls Tryd.prog 3 #[.slice a len cap] w fun e w' => e = .returned (.bool true) ∧ Below w.heap.size w w' := by
  have HL := Lib.hid hl
  clear hl
  go_enter Tryd.func3, Tryd.ntmps3
  go_wp2_with fail
  refine (awake_any _ HL.out).mono ?_
  rintro e w1 ⟨rfl, hb1⟩
  go_wp2
  go_ret
  exact ⟨rfl, hb1⟩

set_option maxHeartbeats 1000000 in
theorem encodes_near (a : Option Addr) (len cap : Nat) (zs : List Int) (w : World) (hl : Lay w) (hz : Reads .i32 w a len zs) (hlen : len ≤ 100) (hb : ∀ z ∈ zs, -2147483648 ≤ z ∧ z ≤ 2147483647) :
    Calls Tryd.prog 3 #[.slice a len cap] w fun e w' => e = .returned (.bool true) ∧ Below w.heap.size w w' := by
  have HL := Lib.hid hl
  have HZ := Lib.hid hz
  have HBD := Lib.hid hb
  obtain ⟨b, off, hab, hcell⟩ : ∃ b off, (0 < len → a = some ⟨b, off, none⟩) ∧ ∀ i, i < len → w.cell? ⟨b, off + i, none⟩ = some (.int .i32 (zs[i]?.getD 0)) := by
    by_cases h0 : 0 < len
    · obtain ⟨b, off, h1, h2⟩ := hz.2 h0
      exact ⟨b, off, fun _ => h1, fun i hi => by simpa using h2 i hi⟩
    · exact ⟨0, 0, fun h => absurd h h0, fun i hi => absurd hi (by omega)⟩
  have hbB : 0 < len → b < w.heap.size := fun h => by have := block_lt_of_cell (hcell 0 h); simpa using this
  have HAB := Lib.hid hab
  have HC := Lib.hid hcell
  obtain ⟨i0, hi, hz0, hz1, hz2⟩ := info_parts info5
  clear hl hz hb hab hcell
  go_enter Tryd.func3, Tryd.ntmps3
  go_wp2_with fail
  refine (encode_any a len cap zs _ HL.out HZ.out (by omega)).mono ?_
  rintro e w1 ⟨hb1, he⟩
  have hs1 := hb1.size
  have HL1 := Lib.hid (HL.out.below hb1 HL.out.size)
  have hc1 : ∀ i, i < len → w1.cell? ⟨b, off + i, none⟩ = some (.int .i32 (zs[i]?.getD 0)) := fun i hi => (hb1.cell (p := ⟨b, off + i, none⟩) (hbB (by omega))).trans (HC.out i hi)
  clear HC
  have HC := Lib.hid hc1
  have HB1 := Lib.hid hb1
  clear hc1 hb1
  rcases he with ⟨hf, rfl⟩ | ⟨ht, v, rfl, hown⟩
  · have HF := Lib.hid hf
    clear hf
    go_wp2_with fail
    go_loopw [5, 6] (fun v i wr => ∃ k : Nat, k ≤ len ∧ i = .int .i64 k ∧ Hid ((zs.take k).all isC = true) ∧ wr.ownsRow w1.heap.size 5 1 v (encs (zs.take k)).length ((encs (zs.take k)).map (Value.int .u8)) ∧ Below w1.heap.size w1 wr)
      (fun _ i _ => len - (intOf i).toNat)
    case atStart => exact ⟨0, by omega, rfl, rfl, World.ownsRow_nil _ _ _ _, Below.refl _ _⟩
    case round =>
      obtain ⟨k, hk, rfl, hall, hown, hB⟩ := hrel
      by_cases hlt : k < len
      · obtain rfl := HAB.out (by omega)
        obtain ⟨r, hr⟩ : ∃ r, r = zs[k]?.getD 0 := ⟨_, rfl⟩
        have hc : wr.cell? ⟨b, off + k, none⟩ = some (.int .i32 r) := by rw [hr]; exact (hB.cell (p := ⟨b, off + k, none⟩) (Nat.lt_of_lt_of_le (hbB (by omega)) hs1)).trans (HC.out k hlt)
        have hkz : k < zs.length := by rw [HZ.out.1]; exact hlt
        have hrm : r ∈ zs := by rw [hr, List.getElem?_eq_getElem hkz]; exact List.getElem_mem hkz
        obtain ⟨hr0, hr1⟩ := HBD.out r hrm
        have HR := Lib.hid hr
        have HKZ := Lib.hid hkz
        have HRM := Lib.hid hrm
        clear hr hkz hrm
        cases hcc : isC r with
        | true =>
          have HCC := Lib.hid hcc
          clear hcc
          have hn : (encs (zs.take k)).length ≤ 1000000 := by have := encs_len (zs.take k); have h2 := List.length_take_le k zs; omega
          have hm : (encC r).length ≤ 4 := by rw [encC_len]; unfold sizeC; repeat' split
                                              all_goals omega
          go_wp2_with fail
          refine (refIs_any _ _).mono ?_
          rintro e w2 ⟨rfl, rfl⟩
          rw [HCC.out]
          go_wp2_with fail
          refine (refBytes_any _ _ HCC.out).mono ?_
          rintro e w2 ⟨g, rfl, hcs, hb2⟩
          have HCS := Lib.hid hcs
          have HOWN2 := Lib.hid (own_below hown hb2)
          have HB2 := Lib.hid (th hB (Nat.le_refl _) hb2)
          clear hcs hown hB hb2 hc
          go_wp2_with (at_builtin; refine wpList_append_own _ rfl _ _ 24 rfl w1.heap.size 5 i0 (.int .u8 0) 1 1 Tryd.underlying24 hi hz0 hz1 hz2 rfl (by decide) _ _ _ rfl HOWN2.out ⟨g, 0, none⟩ _ _ ((encC r).map (Value.int .u8)) rfl (by simp) HCS.out (one_all _) (by unfold maxLen; omega) (by omega) HB2.out.size ?_; intro v3 w3 hown3 hgrow3 _)
          have HOWN3 := Lib.hid (enc_step HKZ.out (by rw [← HR.out]; exact hown3))
          have HB3 := Lib.hid (HB2.out.grown hgrow3 HB2.out.size (fun k e => (HOWN2.out.lt k e).1))
          clear hown3 hgrow3
          go_wp2
          go_roundw
          case rel => exact ⟨k + 1, by omega, by go_num, by unfold Hid; rw [all_snoc HKZ.out, hall.out, ← HR.out, HCC.out]; rfl, HOWN3.out, HB3.out⟩
          case measure => simp [intOf]; omega
        | false =>
          have HCC := Lib.hid hcc
          clear hcc
          go_wp2_with fail
          refine (refIs_any _ _).mono ?_
          rintro e w2 ⟨rfl, rfl⟩
          rw [HCC.out]
          have hlay := HL1.out.below hB HL1.out.size
          have HB := Lib.hid hB
          clear hB hown hc
          go_wp2_with fail
          refine (awake_any _ hlay).mono ?_
          rintro e w3 ⟨rfl, hb3⟩
          go_wp2
          go_ret
          exact ⟨rfl, th (HB1.out.trans (HB.out.mono hs1)) (Nat.le_refl _) hb3⟩
      · obtain rfl : k = len := by omega
        have ht : zs.take k = zs := List.take_of_length_le (by rw [HZ.out.1]; omega)
        have := hall.out
        rw [ht, HF.out] at this
        cases this
  · have HT := Lib.hid ht
    obtain ⟨va, vc, rfl, hbyt⟩ := owned_byt hown (encs_bytes zs ht) (by have := encs_len zs; have := HZ.out.1; omega)
    have HBY := Lib.hid hbyt
    have HVO := Lib.hid hown
    clear ht hown hbyt
    go_wp2_with fail
    go_loopw [5, 6] (fun v i wr => ∃ k : Nat, k ≤ len ∧ i = .int .i64 k ∧ Hid ((zs.take k).all isC = true) ∧ wr.ownsRow w1.heap.size 5 1 v (encs (zs.take k)).length ((encs (zs.take k)).map (Value.int .u8)) ∧ Below w1.heap.size w1 wr)
      (fun _ i _ => len - (intOf i).toNat)
    case atStart => exact ⟨0, by omega, rfl, rfl, World.ownsRow_nil _ _ _ _, Below.refl _ _⟩
    case round =>
      obtain ⟨k, hk, rfl, hall, hown, hB⟩ := hrel
      by_cases hlt : k < len
      · obtain rfl := HAB.out (by omega)
        obtain ⟨r, hr⟩ : ∃ r, r = zs[k]?.getD 0 := ⟨_, rfl⟩
        have hc : wr.cell? ⟨b, off + k, none⟩ = some (.int .i32 r) := by rw [hr]; exact (hB.cell (p := ⟨b, off + k, none⟩) (Nat.lt_of_lt_of_le (hbB (by omega)) hs1)).trans (HC.out k hlt)
        have hkz : k < zs.length := by rw [HZ.out.1]; exact hlt
        have hrm : r ∈ zs := by rw [hr, List.getElem?_eq_getElem hkz]; exact List.getElem_mem hkz
        obtain ⟨hr0, hr1⟩ := HBD.out r hrm
        have HR := Lib.hid hr
        have HKZ := Lib.hid hkz
        have HRM := Lib.hid hrm
        clear hr hkz hrm
        cases hcc : isC r with
        | true =>
          have HCC := Lib.hid hcc
          clear hcc
          have hn : (encs (zs.take k)).length ≤ 1000000 := by have := encs_len (zs.take k); have h2 := List.length_take_le k zs; omega
          have hm : (encC r).length ≤ 4 := by rw [encC_len]; unfold sizeC; repeat' split
                                              all_goals omega
          go_wp2_with fail
          refine (refIs_any _ _).mono ?_
          rintro e w2 ⟨rfl, rfl⟩
          rw [HCC.out]
          go_wp2_with fail
          refine (refBytes_any _ _ HCC.out).mono ?_
          rintro e w2 ⟨g, rfl, hcs, hb2⟩
          have HCS := Lib.hid hcs
          have HOWN2 := Lib.hid (own_below hown hb2)
          have HB2 := Lib.hid (th hB (Nat.le_refl _) hb2)
          clear hcs hown hB hb2 hc
          go_wp2_with (at_builtin; refine wpList_append_own _ rfl _ _ 24 rfl w1.heap.size 5 i0 (.int .u8 0) 1 1 Tryd.underlying24 hi hz0 hz1 hz2 rfl (by decide) _ _ _ rfl HOWN2.out ⟨g, 0, none⟩ _ _ ((encC r).map (Value.int .u8)) rfl (by simp) HCS.out (one_all _) (by unfold maxLen; omega) (by omega) HB2.out.size ?_; intro v3 w3 hown3 hgrow3 _)
          have HOWN3 := Lib.hid (enc_step HKZ.out (by rw [← HR.out]; exact hown3))
          have HB3 := Lib.hid (HB2.out.grown hgrow3 HB2.out.size (fun k e => (HOWN2.out.lt k e).1))
          clear hown3 hgrow3
          go_wp2
          go_roundw
          case rel => exact ⟨k + 1, by omega, by go_num, by unfold Hid; rw [all_snoc HKZ.out, hall.out, ← HR.out, HCC.out]; rfl, HOWN3.out, HB3.out⟩
          case measure => simp [intOf]; omega
        | false =>
          have h1 := List.all_eq_true.1 HT.out r HRM.out
          rw [hcc] at h1
          cases h1
      · obtain rfl : k = len := by omega
        have ht : zs.take k = zs := List.take_of_length_le (by rw [HZ.out.1]; omega)
        rw [ht] at hown
        obtain ⟨a2, c2, rfl, hby2⟩ := owned_byt hown (encs_bytes zs HT.out) (by have := encs_len zs; have := HZ.out.1; omega)
        have hby1 := HBY.out.below hB (Nat.le_refl _)
        have hlay := Lib.hid (HL1.out.below hB HL1.out.size)
        have HY1 := Lib.hid hby1
        have HY2 := Lib.hid hby2
        have HB := Lib.hid hB
        clear hB hown hby1 hby2 ht
        go_wp2_with fail
        refine (bytes_yes _ _ _ _ _ (encs zs) _ HY1.out HY2.out).mono ?_
        rintro e w2 ⟨rfl, hb2⟩
        have hlay2 := Lib.hid (hlay.out.below hb2 hlay.out.size)
        go_wp2_with fail
        refine (awake_any _ hlay2.out).mono ?_
        rintro e w3 ⟨rfl, hb3⟩
        go_wp2
        go_ret
        exact ⟨rfl, th (th (HB1.out.trans (HB.out.mono hs1)) (Nat.le_refl _) hb2) (Nat.le_refl _) hb3⟩
end Go.Proofs.YtomlmpcjbdkobaaDoor.U
