/- The law TokenLines. -/
import Derived.Test.YtihijgghcecpmaaGreatDoorLr
namespace Go.Proofs.YtihijgghcecpmaaGreatDoor.U
open Go.RowKit Go.Shelf

theorem ints_byte (l : List UInt8) : ∀ z ∈ ints l, 0 ≤ z ∧ z ≤ 255 := by
  intro z hz
  unfold ints at hz
  obtain ⟨b, _, rfl⟩ := List.mem_map.1 hz
  have := UInt8.toNat_lt b
  omega
theorem own_byt {w : World} {base n c : Nat} {a : Option Addr} {l : List UInt8} (h : w.ownsRow base 5 1 (.slice a n c) n (Lib.byteCells l)) (hn : n ≤ 140737488351232) : Byt w a n c (ints l) := by
  have hl : l.length = n := by have := h.1; rw [Lib.byteCells_length] at this; omega
  by_cases h0 : 0 < n
  · obtain ⟨g, rfl, hc, hx⟩ := own_at0 h h0
    refine ⟨by rw [ints_len]; exact hl, hc, hn, ints_byte l, fun _ => ⟨g, 0, rfl, fun i hi => ?_⟩⟩
    rw [Nat.zero_add]
    refine hx i _ ?_
    unfold Lib.byteCells ints
    rw [List.getElem?_map, List.getElem?_map, List.getElem?_eq_getElem (by omega)]
    rfl
  · exact ⟨by rw [ints_len]; exact hl, by omega, hn, ints_byte l, fun h1 => absurd h1 h0⟩
/-- A list of bytes, byte by byte in memory. -/
theorem byt_cells {w : World} {a : Option Addr} {len cap : Nat} {l : List UInt8} (hz : Byt w a len cap (ints l)) : ∃ b off, (0 < len → a = some ⟨b, off, none⟩) ∧ (0 < len → b < w.heap.size) ∧ ∀ i (h : i < l.length), w.cell? ⟨b, off + i, none⟩ = some (.int .u8 ((l[i]'h).toNat : Int)) := by
  have hll : l.length = len := by have := hz.eqLen; unfold ints at this; rw [List.length_map] at this; omega
  by_cases h0 : 0 < len
  · obtain ⟨b, off, h1, h2⟩ := hz.cells h0
    have hc : ∀ i (h : i < l.length), w.cell? ⟨b, off + i, none⟩ = some (.int .u8 ((l[i]'h).toNat : Int)) := fun i hi => by
      rw [h2 i (by omega)]
      unfold ints
      rw [List.getElem?_map, List.getElem?_eq_getElem hi]
      rfl
    exact ⟨b, off, fun _ => h1, fun _ => by have := block_lt_of_cell (hc 0 (by omega)); simpa using this, hc⟩
  · exact ⟨0, 0, fun h => absurd h h0, fun h => absurd h h0, fun i hi => absurd hi (by omega)⟩
theorem flat_snoc {l : List UInt8} {p : Nat} (h : p < l.length) (f : UInt8 → List UInt8) : (l.take (p + 1)).flatMap f = (l.take p).flatMap f ++ f l[p] := by
  rw [List.take_succ_eq_append_getElem h, List.flatMap_append]; simp

set_option maxHeartbeats 4000000 in
theorem tlines_far (a : Option Addr) (len cap : Nat) (hv : Int) (w : World) (hm : LayT w) (hfar : 600 < len ∨ hv < 0 ∨ 1 < hv) :
    Calls Tryz.prog 7 #[.slice a len cap, .int .i64 hv] w fun e w' => e = .returned (.bool true) ∧ Below w.heap.size w w' := by
  have HAW : Hid (∀ W, Below w.heap.size w W → Calls Tryz.prog 8 #[] W fun e w' => e = .returned (.bool true) ∧ Below w.heap.size w w') := Lib.hid (fun W hb => (awake3_any W (hm.below hb hm.size)).mono (fun e w' r => ⟨r.1, th hb (Nat.le_refl _) r.2⟩))
  clear hm
  by_cases h1 : 600 < len
  · clear hfar
    go_enter Tryz.func7, Tryz.ntmps7
    go_wp2_with fail
    refine (HAW.out _ (Below.refl _ _)).mono ?_
    rintro e wz ⟨rfl, hbz⟩
    go_wp2
    go_ret
    exact ⟨rfl, hbz⟩
  · by_cases h2 : hv < 0
    · clear hfar
      go_enter Tryz.func7, Tryz.ntmps7
      go_wp2_with fail
      refine (HAW.out _ (Below.refl _ _)).mono ?_
      rintro e wz ⟨rfl, hbz⟩
      go_wp2
      go_ret
      exact ⟨rfl, hbz⟩
    · have h3 : 1 < hv := by omega
      clear hfar
      go_enter Tryz.func7, Tryz.ntmps7
      go_wp2_with fail
      refine (HAW.out _ (Below.refl _ _)).mono ?_
      rintro e wz ⟨rfl, hbz⟩
      go_wp2
      go_ret
      exact ⟨rfl, hbz⟩
set_option maxHeartbeats 4000000 in
set_option maxRecDepth 20000 in
theorem tlines_has (a : Option Addr) (len cap : Nat) (l : List UInt8) (hv : Int) (h : Bool) (hh : hv = if h = true then 1 else 0) (w : World) (hm : LayT w) (hz : Byt w a len cap (ints l)) (hbig : ¬ 600 < len) (has : ¬ ∀ x ∈ l, x ≠ 13) :
    Calls Tryz.prog 7 #[.slice a len cap, .int .i64 hv] w fun e w' => e = .returned (.bool true) ∧ Below w.heap.size w w' := by
  have hlim := hz.lim
  have hcap := hz.leCap
  have hll : l.length = len := by rw [← ints_len]; exact hz.eqLen
  have hv0 : ¬ hv < 0 := by rw [hh]; split <;> omega
  have hv1 : ¬ 1 < hv := by rw [hh]; split <;> omega
  have HAW : Hid (∀ W, Below w.heap.size w W → Calls Tryz.prog 8 #[] W fun e w' => e = .returned (.bool true) ∧ Below w.heap.size w w') := Lib.hid (fun W hb => (awake3_any W (hm.below hb hm.size)).mono (fun e w' r => ⟨r.1, th hb (Nat.le_refl _) r.2⟩))
  obtain ⟨i0, hi, hz0, hz1, hz2⟩ := info_parts info5
  obtain ⟨b, off, hab, hbB, hcell⟩ := byt_cells hz
  have HAB := Lib.hid hab
  have HC := Lib.hid hcell
  have HBB := Lib.hid hbB
  have HLL := Lib.hid hll
  have HM := Lib.hid hm
  have HZ := Lib.hid hz
  have HH := Lib.hid hh
  have HAS := Lib.hid has
  clear has
  clear hm hz hab hbB hcell hll hh
  go_enter Tryz.func7, Tryz.ntmps7
  go_wp2_with fail
  go_loopw [5, 6] (fun v i wr => ∃ (p : Nat) (pre : List UInt8), p ≤ len ∧ i = .int .i64 p ∧ pre.length ≤ 2 * p ∧ Hid (pre = (l.take p).flatMap (lineB h)) ∧ Hid (∀ x ∈ l.take p, x ≠ 13) ∧ Hid (wr.ownsRow w.heap.size 5 1 v pre.length (Lib.byteCells pre)) ∧ Hid (Below w.heap.size w wr))
    (fun _ i _ => len - (intOf i).toNat)
  case atStart => exact ⟨0, [], by omega, rfl, by simp, Lib.hid rfl, Lib.hid (fun x hx => by cases hx), Lib.hid (World.ownsRow_nil _ _ _ _), Lib.hid (Below.refl _ _)⟩
  case round =>
    obtain ⟨p, pre, hp, rfl, hpl, HF, HNO, HO, HB⟩ := hrel
    by_cases hlt : p < len
    · obtain rfl := HAB.out (by omega)
      have hpl2 : p < l.length := by rw [HLL.out]; exact hlt
      have c0 : wr.cell? ⟨b, off + p, none⟩ = some (.int .u8 ((l[p]'hpl2).toNat : Int)) := (HB.out.cell (p := ⟨b, off + p, none⟩) (HBB.out (by omega))).trans (HC.out p hpl2)
      have hB1 : (l[p]'hpl2).toNat < 256 := UInt8.toNat_lt _
      by_cases h13 : (l[p]'hpl2).toNat = 13
      · have hb13 : ((((l[p]'hpl2).toNat : Int)) == 13) = true := by rw [h13]; rfl
        clear h13
        go_wp2_with fail
        refine (HAW.out _ HB.out).mono ?_
        rintro e wz ⟨rfl, hbz⟩
        go_wp2
        go_ret
        exact ⟨rfl, hbz⟩
      · have hb13 : ((((l[p]'hpl2).toNat : Int)) == 13) = false := by rw [beq_eq_false_iff_ne]; omega
        have HNN : Hid (∀ x ∈ l.take (p + 1), x ≠ 13) := Lib.hid (fun x hx => by
          rw [List.take_succ_eq_append_getElem hpl2] at hx
          rcases List.mem_append.1 hx with h1 | h1
          · exact HNO.out x h1
          · obtain rfl := List.mem_singleton.1 h1
            intro e
            exact h13 (by rw [e]; rfl))
        have HFS := Lib.hid (flat_snoc hpl2 (lineB h))
        by_cases h10 : (l[p]'hpl2).toNat = 10
        · have hb10 : ((((l[p]'hpl2).toNat : Int)) == 10) = true := by rw [h10]; rfl
          have h10' : l[p]'hpl2 = 10 := UInt8.toNat.inj h10
          clear h13 h10
          cases h with
          | false =>
            have hv2 : (hv == 1) = false := by rw [HH.out]; rfl
            have HFN : Hid (pre ++ [13] = (l.take (p + 1)).flatMap (lineB false)) := Lib.hid (by rw [HFS.out, ← HF.out, h10']; rfl)
            clear h10'
            go_wp2_with (at_builtin; refine wpList_append_own _ rfl _ _ 22 rfl w.heap.size 5 i0 (.int .u8 0) 1 1 Tryz.underlying22 hi hz0 hz1 hz2 rfl (by decide) _ _ _ rfl (HO.out.alloc _) ⟨wr.heap.size, 0, none⟩ 1 1 [.int .u8 13] rfl rfl (cell_one_new _ _ _) (by simp [Value.oneCell']) (by unfold maxLen; omega) (by omega) (by have := HB.out.size; simp; omega) ?_; intro v3 w3 hown3 hgrow3 _)
            all_goals (try (exfalso; simp_all; done))
            go_wp2
            exact ⟨⟨p + 1, pre ++ [13], by omega, by go_num, by simp; omega, HFN, HNN, Lib.hid (by rw [Lib.byteCells_append, List.length_append]; exact hown3), Lib.hid ((al HB.out (Nat.le_refl _) _).grown hgrow3 (by have := HB.out.size; simp; omega) (fun k e => (HO.out.lt k e).1))⟩, by simp [intOf]; omega⟩
          | true =>
            have hv2 : (hv == 1) = true := by rw [HH.out]; rfl
            have HFN : Hid ((pre ++ [13]) ++ [10] = (l.take (p + 1)).flatMap (lineB true)) := Lib.hid (by rw [HFS.out, ← HF.out, h10', List.append_assoc]; rfl)
            clear h10'
            have hpl3 : (pre ++ [13]).length ≤ 2 * p + 1 := by simp; omega
            go_wp2_with (first | (at_builtin; refine wpList_append_own _ rfl _ _ 22 rfl w.heap.size 5 i0 (.int .u8 0) 1 1 Tryz.underlying22 hi hz0 hz1 hz2 rfl (by decide) _ _ _ rfl (HO.out.alloc _) ⟨wr.heap.size, 0, none⟩ 1 1 [.int .u8 13] rfl rfl (cell_one_new _ _ _) (by simp [Value.oneCell']) (by unfold maxLen; omega) (by omega) (by have := HB.out.size; simp; omega) ?_; intro v3 w3 hown3 hgrow3 _; have HO3 : Hid (w3.ownsRow w.heap.size 5 1 v3 (pre ++ [13]).length (Lib.byteCells (pre ++ [13]))) := Lib.hid (by rw [Lib.byteCells_append, List.length_append]; exact hown3); have HB3 : Hid (Below w.heap.size w w3) := Lib.hid ((al HB.out (Nat.le_refl _) _).grown hgrow3 (by have := HB.out.size; simp; omega) (fun k e => (HO.out.lt k e).1)); clear hown3 hgrow3) | (at_builtin; refine wpList_append_own _ rfl _ _ 22 rfl w.heap.size 5 i0 (.int .u8 0) 1 1 Tryz.underlying22 hi hz0 hz1 hz2 rfl (by decide) _ _ _ rfl (HO3.out.alloc _) ⟨w3.heap.size, 0, none⟩ 1 1 [.int .u8 10] rfl rfl (cell_one_new _ _ _) (by simp [Value.oneCell']) (by unfold maxLen; omega) (by omega) (by have := HB3.out.size; simp; omega) ?_; intro v4 w4 hown4 hgrow4 _))
            all_goals (try (exfalso; simp_all; done))
            go_wp2
            exact ⟨⟨p + 1, (pre ++ [13]) ++ [10], by omega, by go_num, by simp; omega, HFN, HNN, Lib.hid (by rw [Lib.byteCells_append, List.length_append]; exact hown4), Lib.hid ((al HB3.out (Nat.le_refl _) _).grown hgrow4 (by have := HB3.out.size; simp; omega) (fun k e => (HO3.out.lt k e).1))⟩, by simp [intOf]; omega⟩
        · have hb10 : ((((l[p]'hpl2).toNat : Int)) == 10) = false := by rw [beq_eq_false_iff_ne]; omega
          have HFN : Hid (pre ++ [l[p]'hpl2] = (l.take (p + 1)).flatMap (lineB h)) := Lib.hid (by
            rw [HFS.out, ← HF.out]
            unfold lineB
            rw [if_neg (fun e => h10 (by rw [e]; rfl))])
          clear h13 h10
          go_wp2_with (at_builtin; refine wpList_append_own _ rfl _ _ 22 rfl w.heap.size 5 i0 (.int .u8 0) 1 1 Tryz.underlying22 hi hz0 hz1 hz2 rfl (by decide) _ _ _ rfl (HO.out.alloc _) ⟨wr.heap.size, 0, none⟩ 1 1 [.int .u8 ((l[p]'hpl2).toNat : Int)] rfl rfl (cell_one_new _ _ _) (by simp [Value.oneCell']) (by unfold maxLen; omega) (by omega) (by have := HB.out.size; simp; omega) ?_; intro v3 w3 hown3 hgrow3 _)
          all_goals (try (exfalso; simp_all; done))
          go_wp2
          exact ⟨⟨p + 1, pre ++ [l[p]'hpl2], by omega, by go_num, by simp; omega, HFN, HNN, Lib.hid (by rw [Lib.byteCells_append, List.length_append]; exact hown3), Lib.hid ((al HB.out (Nat.le_refl _) _).grown hgrow3 (by have := HB.out.size; simp; omega) (fun k e => (HO.out.lt k e).1))⟩, by simp [intOf]; omega⟩
    · obtain rfl : p = len := by omega
      have HFE : Hid (pre = l.flatMap (lineB h)) := Lib.hid (by
        have := HF.out
        rwa [List.take_of_length_le (by rw [HLL.out]; omega)] at this)
      refine absurd ?_ HAS.out
      have := HNO.out
      rwa [List.take_of_length_le (by rw [HLL.out]; omega)] at this
set_option maxHeartbeats 4000000 in
set_option maxRecDepth 20000 in
theorem tlines_e10 (a : Option Addr) (len cap : Nat) (l : List UInt8) (hv : Int) (h : Bool) (hh : hv = if h = true then 1 else 0) (w : World) (hm : LayT w) (hz : Byt w a len cap (ints l)) (hbig : ¬ 600 < len) (hno : ∀ x ∈ l, x ≠ 13) (p1 p2 : Nat) (he1 : allT l = .error (p1, 10)) (he2 : allT (l.flatMap (lineB h)) = .error (p2, 10)) :
    Calls Tryz.prog 7 #[.slice a len cap, .int .i64 hv] w fun e w' => e = .returned (.bool true) ∧ Below w.heap.size w w' := by
  have hlim := hz.lim
  have hcap := hz.leCap
  have hll : l.length = len := by rw [← ints_len]; exact hz.eqLen
  have hv0 : ¬ hv < 0 := by rw [hh]; split <;> omega
  have hv1 : ¬ 1 < hv := by rw [hh]; split <;> omega
  have HAW : Hid (∀ W, Below w.heap.size w W → Calls Tryz.prog 8 #[] W fun e w' => e = .returned (.bool true) ∧ Below w.heap.size w w') := Lib.hid (fun W hb => (awake3_any W (hm.below hb hm.size)).mono (fun e w' r => ⟨r.1, th hb (Nat.le_refl _) r.2⟩))
  obtain ⟨i0, hi, hz0, hz1, hz2⟩ := info_parts info5
  obtain ⟨b, off, hab, hbB, hcell⟩ := byt_cells hz
  have HAB := Lib.hid hab
  have HC := Lib.hid hcell
  have HBB := Lib.hid hbB
  have HLL := Lib.hid hll
  have HM := Lib.hid hm
  have HZ := Lib.hid hz
  have HH := Lib.hid hh
  have HE1 : Hid (∀ W, Below w.heap.size w W → Calls Tryz.prog 9 #[.slice a len cap] W fun e w' => e = .returned (.tuple #[.slice none 0 0, .int .i64 p1, .int .i64 10]) ∧ Below W.heap.size W w') := Lib.hid (fun W hb => (tall_at a len cap l W (hm.below hb hm.size) (hz.below hb (Nat.le_refl _))).mono (by
    rintro e w' ⟨h1, ⟨_, _, _, h2, _⟩ | ⟨_, _, h2, rfl⟩⟩
    · rw [he1] at h2; cases h2
    · rw [he1] at h2
      injection h2 with h2
      obtain ⟨rfl, rfl⟩ := Prod.mk.inj h2
      exact ⟨rfl, h1⟩))
  have HE2 : Hid (∀ W a5 n5 c5, Below w.heap.size w W → Byt W a5 n5 c5 (ints (l.flatMap (lineB h))) → Calls Tryz.prog 9 #[.slice a5 n5 c5] W fun e w' => e = .returned (.tuple #[.slice none 0 0, .int .i64 p2, .int .i64 10]) ∧ Below W.heap.size W w') := Lib.hid (fun W a5 n5 c5 hb hz5 => (tall_at a5 n5 c5 _ W (hm.below hb hm.size) hz5).mono (by
    rintro e w' ⟨h1, ⟨_, _, _, h2, _⟩ | ⟨_, _, h2, rfl⟩⟩
    · rw [he2] at h2; cases h2
    · rw [he2] at h2
      injection h2 with h2
      obtain ⟨rfl, rfl⟩ := Prod.mk.inj h2
      exact ⟨rfl, h1⟩))
  clear he1 he2
  have HN13 := Lib.hid hno
  clear hno
  clear hm hz hab hbB hcell hll hh
  go_enter Tryz.func7, Tryz.ntmps7
  go_wp2_with fail
  go_loopw [5, 6] (fun v i wr => ∃ (p : Nat) (pre : List UInt8), p ≤ len ∧ i = .int .i64 p ∧ pre.length ≤ 2 * p ∧ Hid (pre = (l.take p).flatMap (lineB h)) ∧ Hid (∀ x ∈ l.take p, x ≠ 13) ∧ Hid (wr.ownsRow w.heap.size 5 1 v pre.length (Lib.byteCells pre)) ∧ Hid (Below w.heap.size w wr))
    (fun _ i _ => len - (intOf i).toNat)
  case atStart => exact ⟨0, [], by omega, rfl, by simp, Lib.hid rfl, Lib.hid (fun x hx => by cases hx), Lib.hid (World.ownsRow_nil _ _ _ _), Lib.hid (Below.refl _ _)⟩
  case round =>
    obtain ⟨p, pre, hp, rfl, hpl, HF, HNO, HO, HB⟩ := hrel
    by_cases hlt : p < len
    · obtain rfl := HAB.out (by omega)
      have hpl2 : p < l.length := by rw [HLL.out]; exact hlt
      have c0 : wr.cell? ⟨b, off + p, none⟩ = some (.int .u8 ((l[p]'hpl2).toNat : Int)) := (HB.out.cell (p := ⟨b, off + p, none⟩) (HBB.out (by omega))).trans (HC.out p hpl2)
      have hB1 : (l[p]'hpl2).toNat < 256 := UInt8.toNat_lt _
      by_cases h13 : (l[p]'hpl2).toNat = 13
      · exact absurd (UInt8.toNat.inj h13) (HN13.out _ (List.getElem_mem hpl2))
      · have hb13 : ((((l[p]'hpl2).toNat : Int)) == 13) = false := by rw [beq_eq_false_iff_ne]; omega
        have HNN : Hid (∀ x ∈ l.take (p + 1), x ≠ 13) := Lib.hid (fun x hx => by
          rw [List.take_succ_eq_append_getElem hpl2] at hx
          rcases List.mem_append.1 hx with h1 | h1
          · exact HNO.out x h1
          · obtain rfl := List.mem_singleton.1 h1
            intro e
            exact h13 (by rw [e]; rfl))
        have HFS := Lib.hid (flat_snoc hpl2 (lineB h))
        by_cases h10 : (l[p]'hpl2).toNat = 10
        · have hb10 : ((((l[p]'hpl2).toNat : Int)) == 10) = true := by rw [h10]; rfl
          have h10' : l[p]'hpl2 = 10 := UInt8.toNat.inj h10
          clear h13 h10
          cases h with
          | false =>
            have hv2 : (hv == 1) = false := by rw [HH.out]; rfl
            have HFN : Hid (pre ++ [13] = (l.take (p + 1)).flatMap (lineB false)) := Lib.hid (by rw [HFS.out, ← HF.out, h10']; rfl)
            clear h10'
            go_wp2_with (at_builtin; refine wpList_append_own _ rfl _ _ 22 rfl w.heap.size 5 i0 (.int .u8 0) 1 1 Tryz.underlying22 hi hz0 hz1 hz2 rfl (by decide) _ _ _ rfl (HO.out.alloc _) ⟨wr.heap.size, 0, none⟩ 1 1 [.int .u8 13] rfl rfl (cell_one_new _ _ _) (by simp [Value.oneCell']) (by unfold maxLen; omega) (by omega) (by have := HB.out.size; simp; omega) ?_; intro v3 w3 hown3 hgrow3 _)
            all_goals (try (exfalso; simp_all; done))
            go_wp2
            exact ⟨⟨p + 1, pre ++ [13], by omega, by go_num, by simp; omega, HFN, HNN, Lib.hid (by rw [Lib.byteCells_append, List.length_append]; exact hown3), Lib.hid ((al HB.out (Nat.le_refl _) _).grown hgrow3 (by have := HB.out.size; simp; omega) (fun k e => (HO.out.lt k e).1))⟩, by simp [intOf]; omega⟩
          | true =>
            have hv2 : (hv == 1) = true := by rw [HH.out]; rfl
            have HFN : Hid ((pre ++ [13]) ++ [10] = (l.take (p + 1)).flatMap (lineB true)) := Lib.hid (by rw [HFS.out, ← HF.out, h10', List.append_assoc]; rfl)
            clear h10'
            have hpl3 : (pre ++ [13]).length ≤ 2 * p + 1 := by simp; omega
            go_wp2_with (first | (at_builtin; refine wpList_append_own _ rfl _ _ 22 rfl w.heap.size 5 i0 (.int .u8 0) 1 1 Tryz.underlying22 hi hz0 hz1 hz2 rfl (by decide) _ _ _ rfl (HO.out.alloc _) ⟨wr.heap.size, 0, none⟩ 1 1 [.int .u8 13] rfl rfl (cell_one_new _ _ _) (by simp [Value.oneCell']) (by unfold maxLen; omega) (by omega) (by have := HB.out.size; simp; omega) ?_; intro v3 w3 hown3 hgrow3 _; have HO3 : Hid (w3.ownsRow w.heap.size 5 1 v3 (pre ++ [13]).length (Lib.byteCells (pre ++ [13]))) := Lib.hid (by rw [Lib.byteCells_append, List.length_append]; exact hown3); have HB3 : Hid (Below w.heap.size w w3) := Lib.hid ((al HB.out (Nat.le_refl _) _).grown hgrow3 (by have := HB.out.size; simp; omega) (fun k e => (HO.out.lt k e).1)); clear hown3 hgrow3) | (at_builtin; refine wpList_append_own _ rfl _ _ 22 rfl w.heap.size 5 i0 (.int .u8 0) 1 1 Tryz.underlying22 hi hz0 hz1 hz2 rfl (by decide) _ _ _ rfl (HO3.out.alloc _) ⟨w3.heap.size, 0, none⟩ 1 1 [.int .u8 10] rfl rfl (cell_one_new _ _ _) (by simp [Value.oneCell']) (by unfold maxLen; omega) (by omega) (by have := HB3.out.size; simp; omega) ?_; intro v4 w4 hown4 hgrow4 _))
            all_goals (try (exfalso; simp_all; done))
            go_wp2
            exact ⟨⟨p + 1, (pre ++ [13]) ++ [10], by omega, by go_num, by simp; omega, HFN, HNN, Lib.hid (by rw [Lib.byteCells_append, List.length_append]; exact hown4), Lib.hid ((al HB3.out (Nat.le_refl _) _).grown hgrow4 (by have := HB3.out.size; simp; omega) (fun k e => (HO3.out.lt k e).1))⟩, by simp [intOf]; omega⟩
        · have hb10 : ((((l[p]'hpl2).toNat : Int)) == 10) = false := by rw [beq_eq_false_iff_ne]; omega
          have HFN : Hid (pre ++ [l[p]'hpl2] = (l.take (p + 1)).flatMap (lineB h)) := Lib.hid (by
            rw [HFS.out, ← HF.out]
            unfold lineB
            rw [if_neg (fun e => h10 (by rw [e]; rfl))])
          clear h13 h10
          go_wp2_with (at_builtin; refine wpList_append_own _ rfl _ _ 22 rfl w.heap.size 5 i0 (.int .u8 0) 1 1 Tryz.underlying22 hi hz0 hz1 hz2 rfl (by decide) _ _ _ rfl (HO.out.alloc _) ⟨wr.heap.size, 0, none⟩ 1 1 [.int .u8 ((l[p]'hpl2).toNat : Int)] rfl rfl (cell_one_new _ _ _) (by simp [Value.oneCell']) (by unfold maxLen; omega) (by omega) (by have := HB.out.size; simp; omega) ?_; intro v3 w3 hown3 hgrow3 _)
          all_goals (try (exfalso; simp_all; done))
          go_wp2
          exact ⟨⟨p + 1, pre ++ [l[p]'hpl2], by omega, by go_num, by simp; omega, HFN, HNN, Lib.hid (by rw [Lib.byteCells_append, List.length_append]; exact hown3), Lib.hid ((al HB.out (Nat.le_refl _) _).grown hgrow3 (by have := HB.out.size; simp; omega) (fun k e => (HO.out.lt k e).1))⟩, by simp [intOf]; omega⟩
    · obtain rfl : p = len := by omega
      have HFE : Hid (pre = l.flatMap (lineB h)) := Lib.hid (by
        have := HF.out
        rwa [List.take_of_length_le (by rw [HLL.out]; omega)] at this)
      obtain ⟨a5, c5, hv5⟩ := own_slice HO.out
      subst hv5
      have hby5 : ∀ q, pre = q → Byt wr a5 pre.length c5 (ints q) := fun q hq => by rw [← hq]; exact own_byt HO.out (by omega)
      have HBY := Lib.hid (hby5 _ HFE.out)
      clear hby5
      go_wp2_with fail
      refine (HE1.out _ HB.out).mono ?_
      rintro e w1 ⟨rfl, hb1⟩
      have HB1 := Lib.hid (th HB.out (Nat.le_refl _) hb1)
      have HBY1 := Lib.hid (HBY.out.below hb1 (Nat.le_refl _))
      clear hb1
      go_wp2_with fail
      refine (HE2.out _ _ _ _ HB1.out HBY1.out).mono ?_
      rintro e w2 ⟨rfl, hb2⟩
      have HB2 := Lib.hid (th HB1.out (Nat.le_refl _) hb2)
      clear hb2
      go_wp2_with fail
      refine wp_loop_rounds 1 ?_
      rw [rounds_succ]
      go_wp2_with fail
      refine (HAW.out _ HB2.out).mono ?_
      rintro e wz ⟨rfl, hbz⟩
      go_wp2
      go_ret
      exact ⟨rfl, hbz⟩
set_option maxHeartbeats 4000000 in
set_option maxRecDepth 20000 in
theorem tlines_e12 (a : Option Addr) (len cap : Nat) (l : List UInt8) (hv : Int) (h : Bool) (hh : hv = if h = true then 1 else 0) (w : World) (hm : LayT w) (hz : Byt w a len cap (ints l)) (hbig : ¬ 600 < len) (hno : ∀ x ∈ l, x ≠ 13) (p1 : Nat) (he1 : allT l = .error (p1, 12)) (he2 : allT (l.flatMap (lineB h)) = .error (p1, 12)) :
    Calls Tryz.prog 7 #[.slice a len cap, .int .i64 hv] w fun e w' => e = .returned (.bool true) ∧ Below w.heap.size w w' := by
  have hlim := hz.lim
  have hcap := hz.leCap
  have hll : l.length = len := by rw [← ints_len]; exact hz.eqLen
  have hv0 : ¬ hv < 0 := by rw [hh]; split <;> omega
  have hv1 : ¬ 1 < hv := by rw [hh]; split <;> omega
  have HAW : Hid (∀ W, Below w.heap.size w W → Calls Tryz.prog 8 #[] W fun e w' => e = .returned (.bool true) ∧ Below w.heap.size w w') := Lib.hid (fun W hb => (awake3_any W (hm.below hb hm.size)).mono (fun e w' r => ⟨r.1, th hb (Nat.le_refl _) r.2⟩))
  obtain ⟨i0, hi, hz0, hz1, hz2⟩ := info_parts info5
  obtain ⟨b, off, hab, hbB, hcell⟩ := byt_cells hz
  have HAB := Lib.hid hab
  have HC := Lib.hid hcell
  have HBB := Lib.hid hbB
  have HLL := Lib.hid hll
  have HM := Lib.hid hm
  have HZ := Lib.hid hz
  have HH := Lib.hid hh
  have HE1 : Hid (∀ W, Below w.heap.size w W → Calls Tryz.prog 9 #[.slice a len cap] W fun e w' => e = .returned (.tuple #[.slice none 0 0, .int .i64 p1, .int .i64 12]) ∧ Below W.heap.size W w') := Lib.hid (fun W hb => (tall_at a len cap l W (hm.below hb hm.size) (hz.below hb (Nat.le_refl _))).mono (by
    rintro e w' ⟨h1, ⟨_, _, _, h2, _⟩ | ⟨_, _, h2, rfl⟩⟩
    · rw [he1] at h2; cases h2
    · rw [he1] at h2
      injection h2 with h2
      obtain ⟨rfl, rfl⟩ := Prod.mk.inj h2
      exact ⟨rfl, h1⟩))
  have HE2 : Hid (∀ W a5 n5 c5, Below w.heap.size w W → Byt W a5 n5 c5 (ints (l.flatMap (lineB h))) → Calls Tryz.prog 9 #[.slice a5 n5 c5] W fun e w' => e = .returned (.tuple #[.slice none 0 0, .int .i64 p1, .int .i64 12]) ∧ Below W.heap.size W w') := Lib.hid (fun W a5 n5 c5 hb hz5 => (tall_at a5 n5 c5 _ W (hm.below hb hm.size) hz5).mono (by
    rintro e w' ⟨h1, ⟨_, _, _, h2, _⟩ | ⟨_, _, h2, rfl⟩⟩
    · rw [he2] at h2; cases h2
    · rw [he2] at h2
      injection h2 with h2
      obtain ⟨rfl, rfl⟩ := Prod.mk.inj h2
      exact ⟨rfl, h1⟩))
  clear he1 he2
  have HN13 := Lib.hid hno
  clear hno
  clear hm hz hab hbB hcell hll hh
  go_enter Tryz.func7, Tryz.ntmps7
  go_wp2_with fail
  go_loopw [5, 6] (fun v i wr => ∃ (p : Nat) (pre : List UInt8), p ≤ len ∧ i = .int .i64 p ∧ pre.length ≤ 2 * p ∧ Hid (pre = (l.take p).flatMap (lineB h)) ∧ Hid (∀ x ∈ l.take p, x ≠ 13) ∧ Hid (wr.ownsRow w.heap.size 5 1 v pre.length (Lib.byteCells pre)) ∧ Hid (Below w.heap.size w wr))
    (fun _ i _ => len - (intOf i).toNat)
  case atStart => exact ⟨0, [], by omega, rfl, by simp, Lib.hid rfl, Lib.hid (fun x hx => by cases hx), Lib.hid (World.ownsRow_nil _ _ _ _), Lib.hid (Below.refl _ _)⟩
  case round =>
    obtain ⟨p, pre, hp, rfl, hpl, HF, HNO, HO, HB⟩ := hrel
    by_cases hlt : p < len
    · obtain rfl := HAB.out (by omega)
      have hpl2 : p < l.length := by rw [HLL.out]; exact hlt
      have c0 : wr.cell? ⟨b, off + p, none⟩ = some (.int .u8 ((l[p]'hpl2).toNat : Int)) := (HB.out.cell (p := ⟨b, off + p, none⟩) (HBB.out (by omega))).trans (HC.out p hpl2)
      have hB1 : (l[p]'hpl2).toNat < 256 := UInt8.toNat_lt _
      by_cases h13 : (l[p]'hpl2).toNat = 13
      · exact absurd (UInt8.toNat.inj h13) (HN13.out _ (List.getElem_mem hpl2))
      · have hb13 : ((((l[p]'hpl2).toNat : Int)) == 13) = false := by rw [beq_eq_false_iff_ne]; omega
        have HNN : Hid (∀ x ∈ l.take (p + 1), x ≠ 13) := Lib.hid (fun x hx => by
          rw [List.take_succ_eq_append_getElem hpl2] at hx
          rcases List.mem_append.1 hx with h1 | h1
          · exact HNO.out x h1
          · obtain rfl := List.mem_singleton.1 h1
            intro e
            exact h13 (by rw [e]; rfl))
        have HFS := Lib.hid (flat_snoc hpl2 (lineB h))
        by_cases h10 : (l[p]'hpl2).toNat = 10
        · have hb10 : ((((l[p]'hpl2).toNat : Int)) == 10) = true := by rw [h10]; rfl
          have h10' : l[p]'hpl2 = 10 := UInt8.toNat.inj h10
          clear h13 h10
          cases h with
          | false =>
            have hv2 : (hv == 1) = false := by rw [HH.out]; rfl
            have HFN : Hid (pre ++ [13] = (l.take (p + 1)).flatMap (lineB false)) := Lib.hid (by rw [HFS.out, ← HF.out, h10']; rfl)
            clear h10'
            go_wp2_with (at_builtin; refine wpList_append_own _ rfl _ _ 22 rfl w.heap.size 5 i0 (.int .u8 0) 1 1 Tryz.underlying22 hi hz0 hz1 hz2 rfl (by decide) _ _ _ rfl (HO.out.alloc _) ⟨wr.heap.size, 0, none⟩ 1 1 [.int .u8 13] rfl rfl (cell_one_new _ _ _) (by simp [Value.oneCell']) (by unfold maxLen; omega) (by omega) (by have := HB.out.size; simp; omega) ?_; intro v3 w3 hown3 hgrow3 _)
            all_goals (try (exfalso; simp_all; done))
            go_wp2
            exact ⟨⟨p + 1, pre ++ [13], by omega, by go_num, by simp; omega, HFN, HNN, Lib.hid (by rw [Lib.byteCells_append, List.length_append]; exact hown3), Lib.hid ((al HB.out (Nat.le_refl _) _).grown hgrow3 (by have := HB.out.size; simp; omega) (fun k e => (HO.out.lt k e).1))⟩, by simp [intOf]; omega⟩
          | true =>
            have hv2 : (hv == 1) = true := by rw [HH.out]; rfl
            have HFN : Hid ((pre ++ [13]) ++ [10] = (l.take (p + 1)).flatMap (lineB true)) := Lib.hid (by rw [HFS.out, ← HF.out, h10', List.append_assoc]; rfl)
            clear h10'
            have hpl3 : (pre ++ [13]).length ≤ 2 * p + 1 := by simp; omega
            go_wp2_with (first | (at_builtin; refine wpList_append_own _ rfl _ _ 22 rfl w.heap.size 5 i0 (.int .u8 0) 1 1 Tryz.underlying22 hi hz0 hz1 hz2 rfl (by decide) _ _ _ rfl (HO.out.alloc _) ⟨wr.heap.size, 0, none⟩ 1 1 [.int .u8 13] rfl rfl (cell_one_new _ _ _) (by simp [Value.oneCell']) (by unfold maxLen; omega) (by omega) (by have := HB.out.size; simp; omega) ?_; intro v3 w3 hown3 hgrow3 _; have HO3 : Hid (w3.ownsRow w.heap.size 5 1 v3 (pre ++ [13]).length (Lib.byteCells (pre ++ [13]))) := Lib.hid (by rw [Lib.byteCells_append, List.length_append]; exact hown3); have HB3 : Hid (Below w.heap.size w w3) := Lib.hid ((al HB.out (Nat.le_refl _) _).grown hgrow3 (by have := HB.out.size; simp; omega) (fun k e => (HO.out.lt k e).1)); clear hown3 hgrow3) | (at_builtin; refine wpList_append_own _ rfl _ _ 22 rfl w.heap.size 5 i0 (.int .u8 0) 1 1 Tryz.underlying22 hi hz0 hz1 hz2 rfl (by decide) _ _ _ rfl (HO3.out.alloc _) ⟨w3.heap.size, 0, none⟩ 1 1 [.int .u8 10] rfl rfl (cell_one_new _ _ _) (by simp [Value.oneCell']) (by unfold maxLen; omega) (by omega) (by have := HB3.out.size; simp; omega) ?_; intro v4 w4 hown4 hgrow4 _))
            all_goals (try (exfalso; simp_all; done))
            go_wp2
            exact ⟨⟨p + 1, (pre ++ [13]) ++ [10], by omega, by go_num, by simp; omega, HFN, HNN, Lib.hid (by rw [Lib.byteCells_append, List.length_append]; exact hown4), Lib.hid ((al HB3.out (Nat.le_refl _) _).grown hgrow4 (by have := HB3.out.size; simp; omega) (fun k e => (HO3.out.lt k e).1))⟩, by simp [intOf]; omega⟩
        · have hb10 : ((((l[p]'hpl2).toNat : Int)) == 10) = false := by rw [beq_eq_false_iff_ne]; omega
          have HFN : Hid (pre ++ [l[p]'hpl2] = (l.take (p + 1)).flatMap (lineB h)) := Lib.hid (by
            rw [HFS.out, ← HF.out]
            unfold lineB
            rw [if_neg (fun e => h10 (by rw [e]; rfl))])
          clear h13 h10
          go_wp2_with (at_builtin; refine wpList_append_own _ rfl _ _ 22 rfl w.heap.size 5 i0 (.int .u8 0) 1 1 Tryz.underlying22 hi hz0 hz1 hz2 rfl (by decide) _ _ _ rfl (HO.out.alloc _) ⟨wr.heap.size, 0, none⟩ 1 1 [.int .u8 ((l[p]'hpl2).toNat : Int)] rfl rfl (cell_one_new _ _ _) (by simp [Value.oneCell']) (by unfold maxLen; omega) (by omega) (by have := HB.out.size; simp; omega) ?_; intro v3 w3 hown3 hgrow3 _)
          all_goals (try (exfalso; simp_all; done))
          go_wp2
          exact ⟨⟨p + 1, pre ++ [l[p]'hpl2], by omega, by go_num, by simp; omega, HFN, HNN, Lib.hid (by rw [Lib.byteCells_append, List.length_append]; exact hown3), Lib.hid ((al HB.out (Nat.le_refl _) _).grown hgrow3 (by have := HB.out.size; simp; omega) (fun k e => (HO.out.lt k e).1))⟩, by simp [intOf]; omega⟩
    · obtain rfl : p = len := by omega
      have HFE : Hid (pre = l.flatMap (lineB h)) := Lib.hid (by
        have := HF.out
        rwa [List.take_of_length_le (by rw [HLL.out]; omega)] at this)
      obtain ⟨a5, c5, hv5⟩ := own_slice HO.out
      subst hv5
      have hby5 : ∀ q, pre = q → Byt wr a5 pre.length c5 (ints q) := fun q hq => by rw [← hq]; exact own_byt HO.out (by omega)
      have HBY := Lib.hid (hby5 _ HFE.out)
      clear hby5
      go_wp2_with fail
      refine (HE1.out _ HB.out).mono ?_
      rintro e w1 ⟨rfl, hb1⟩
      have HB1 := Lib.hid (th HB.out (Nat.le_refl _) hb1)
      have HBY1 := Lib.hid (HBY.out.below hb1 (Nat.le_refl _))
      clear hb1
      go_wp2_with fail
      refine (HE2.out _ _ _ _ HB1.out HBY1.out).mono ?_
      rintro e w2 ⟨rfl, hb2⟩
      have HB2 := Lib.hid (th HB1.out (Nat.le_refl _) hb2)
      clear hb2
      go_wp2_with fail
      refine wp_loop_rounds 1 ?_
      rw [rounds_succ]
      go_wp2_with fail
      refine (HAW.out _ HB2.out).mono ?_
      rintro e wz ⟨rfl, hbz⟩
      go_wp2
      go_ret
      exact ⟨rfl, hbz⟩
set_option maxHeartbeats 4000000 in
set_option maxRecDepth 20000 in
theorem tlines_ok (a : Option Addr) (len cap : Nat) (l : List UInt8) (hv : Int) (h : Bool) (hh : hv = if h = true then 1 else 0) (w : World) (hm : LayT w) (hz : Byt w a len cap (ints l)) (hbig : ¬ 600 < len) (hno : ∀ x ∈ l, x ≠ 13) (ts : List Tok) (he1 : allT l = .ok ts) (he2 : allT (l.flatMap (lineB h)) = .ok ts) (hfw : ∀ t ∈ ts, t.attrs.length ≤ 100000) (hfl : ts.length ≤ 100000) :
    Calls Tryz.prog 7 #[.slice a len cap, .int .i64 hv] w fun e w' => e = .returned (.bool true) ∧ Below w.heap.size w w' := by
  have hlim := hz.lim
  have hcap := hz.leCap
  have hll : l.length = len := by rw [← ints_len]; exact hz.eqLen
  have hv0 : ¬ hv < 0 := by rw [hh]; split <;> omega
  have hv1 : ¬ 1 < hv := by rw [hh]; split <;> omega
  have HAW : Hid (∀ W, Below w.heap.size w W → Calls Tryz.prog 8 #[] W fun e w' => e = .returned (.bool true) ∧ Below w.heap.size w w') := Lib.hid (fun W hb => (awake3_any W (hm.below hb hm.size)).mono (fun e w' r => ⟨r.1, th hb (Nat.le_refl _) r.2⟩))
  obtain ⟨i0, hi, hz0, hz1, hz2⟩ := info_parts info5
  obtain ⟨b, off, hab, hbB, hcell⟩ := byt_cells hz
  have HAB := Lib.hid hab
  have HC := Lib.hid hcell
  have HBB := Lib.hid hbB
  have HLL := Lib.hid hll
  have HM := Lib.hid hm
  have HZ := Lib.hid hz
  have HH := Lib.hid hh
  have HFW := Lib.hid hfw
  have HE1 : Hid (∀ W, Below w.heap.size w W → Calls Tryz.prog 9 #[.slice a len cap] W fun e w' => ∃ a1 c1, e = .returned (.tuple #[.slice a1 ts.length c1, .int .i64 0, .int .i64 0]) ∧ Below W.heap.size W w' ∧ TokAt w' (.slice a1 ts.length c1) ts) := Lib.hid (fun W hb => (tall_at a len cap l W (hm.below hb hm.size) (hz.below hb (Nat.le_refl _))).mono (by
    rintro e w' ⟨h1, ⟨ts', a1, c1, h2, rfl, h3⟩ | ⟨_, _, h2, _⟩⟩
    · rw [he1] at h2
      injection h2 with h2
      subst h2
      exact ⟨a1, c1, rfl, h1, h3⟩
    · rw [he1] at h2; cases h2))
  have HE2 : Hid (∀ W a5 n5 c5, Below w.heap.size w W → Byt W a5 n5 c5 (ints (l.flatMap (lineB h))) → Calls Tryz.prog 9 #[.slice a5 n5 c5] W fun e w' => ∃ a1 c1, e = .returned (.tuple #[.slice a1 ts.length c1, .int .i64 0, .int .i64 0]) ∧ Below W.heap.size W w' ∧ TokAt w' (.slice a1 ts.length c1) ts) := Lib.hid (fun W a5 n5 c5 hb hz5 => (tall_at a5 n5 c5 _ W (hm.below hb hm.size) hz5).mono (by
    rintro e w' ⟨h1, ⟨ts', a1, c1, h2, rfl, h3⟩ | ⟨_, _, h2, _⟩⟩
    · rw [he2] at h2
      injection h2 with h2
      subst h2
      exact ⟨a1, c1, rfl, h1, h3⟩
    · rw [he2] at h2; cases h2))
  clear he1 he2 hfw
  have HN13 := Lib.hid hno
  clear hno
  clear hm hz hab hbB hcell hll hh
  go_enter Tryz.func7, Tryz.ntmps7
  go_wp2_with fail
  go_loopw [5, 6] (fun v i wr => ∃ (p : Nat) (pre : List UInt8), p ≤ len ∧ i = .int .i64 p ∧ pre.length ≤ 2 * p ∧ Hid (pre = (l.take p).flatMap (lineB h)) ∧ Hid (∀ x ∈ l.take p, x ≠ 13) ∧ Hid (wr.ownsRow w.heap.size 5 1 v pre.length (Lib.byteCells pre)) ∧ Hid (Below w.heap.size w wr))
    (fun _ i _ => len - (intOf i).toNat)
  case atStart => exact ⟨0, [], by omega, rfl, by simp, Lib.hid rfl, Lib.hid (fun x hx => by cases hx), Lib.hid (World.ownsRow_nil _ _ _ _), Lib.hid (Below.refl _ _)⟩
  case round =>
    obtain ⟨p, pre, hp, rfl, hpl, HF, HNO, HO, HB⟩ := hrel
    by_cases hlt : p < len
    · obtain rfl := HAB.out (by omega)
      have hpl2 : p < l.length := by rw [HLL.out]; exact hlt
      have c0 : wr.cell? ⟨b, off + p, none⟩ = some (.int .u8 ((l[p]'hpl2).toNat : Int)) := (HB.out.cell (p := ⟨b, off + p, none⟩) (HBB.out (by omega))).trans (HC.out p hpl2)
      have hB1 : (l[p]'hpl2).toNat < 256 := UInt8.toNat_lt _
      by_cases h13 : (l[p]'hpl2).toNat = 13
      · exact absurd (UInt8.toNat.inj h13) (HN13.out _ (List.getElem_mem hpl2))
      · have hb13 : ((((l[p]'hpl2).toNat : Int)) == 13) = false := by rw [beq_eq_false_iff_ne]; omega
        have HNN : Hid (∀ x ∈ l.take (p + 1), x ≠ 13) := Lib.hid (fun x hx => by
          rw [List.take_succ_eq_append_getElem hpl2] at hx
          rcases List.mem_append.1 hx with h1 | h1
          · exact HNO.out x h1
          · obtain rfl := List.mem_singleton.1 h1
            intro e
            exact h13 (by rw [e]; rfl))
        have HFS := Lib.hid (flat_snoc hpl2 (lineB h))
        by_cases h10 : (l[p]'hpl2).toNat = 10
        · have hb10 : ((((l[p]'hpl2).toNat : Int)) == 10) = true := by rw [h10]; rfl
          have h10' : l[p]'hpl2 = 10 := UInt8.toNat.inj h10
          clear h13 h10
          cases h with
          | false =>
            have hv2 : (hv == 1) = false := by rw [HH.out]; rfl
            have HFN : Hid (pre ++ [13] = (l.take (p + 1)).flatMap (lineB false)) := Lib.hid (by rw [HFS.out, ← HF.out, h10']; rfl)
            clear h10'
            go_wp2_with (at_builtin; refine wpList_append_own _ rfl _ _ 22 rfl w.heap.size 5 i0 (.int .u8 0) 1 1 Tryz.underlying22 hi hz0 hz1 hz2 rfl (by decide) _ _ _ rfl (HO.out.alloc _) ⟨wr.heap.size, 0, none⟩ 1 1 [.int .u8 13] rfl rfl (cell_one_new _ _ _) (by simp [Value.oneCell']) (by unfold maxLen; omega) (by omega) (by have := HB.out.size; simp; omega) ?_; intro v3 w3 hown3 hgrow3 _)
            all_goals (try (exfalso; simp_all; done))
            go_wp2
            exact ⟨⟨p + 1, pre ++ [13], by omega, by go_num, by simp; omega, HFN, HNN, Lib.hid (by rw [Lib.byteCells_append, List.length_append]; exact hown3), Lib.hid ((al HB.out (Nat.le_refl _) _).grown hgrow3 (by have := HB.out.size; simp; omega) (fun k e => (HO.out.lt k e).1))⟩, by simp [intOf]; omega⟩
          | true =>
            have hv2 : (hv == 1) = true := by rw [HH.out]; rfl
            have HFN : Hid ((pre ++ [13]) ++ [10] = (l.take (p + 1)).flatMap (lineB true)) := Lib.hid (by rw [HFS.out, ← HF.out, h10', List.append_assoc]; rfl)
            clear h10'
            have hpl3 : (pre ++ [13]).length ≤ 2 * p + 1 := by simp; omega
            go_wp2_with (first | (at_builtin; refine wpList_append_own _ rfl _ _ 22 rfl w.heap.size 5 i0 (.int .u8 0) 1 1 Tryz.underlying22 hi hz0 hz1 hz2 rfl (by decide) _ _ _ rfl (HO.out.alloc _) ⟨wr.heap.size, 0, none⟩ 1 1 [.int .u8 13] rfl rfl (cell_one_new _ _ _) (by simp [Value.oneCell']) (by unfold maxLen; omega) (by omega) (by have := HB.out.size; simp; omega) ?_; intro v3 w3 hown3 hgrow3 _; have HO3 : Hid (w3.ownsRow w.heap.size 5 1 v3 (pre ++ [13]).length (Lib.byteCells (pre ++ [13]))) := Lib.hid (by rw [Lib.byteCells_append, List.length_append]; exact hown3); have HB3 : Hid (Below w.heap.size w w3) := Lib.hid ((al HB.out (Nat.le_refl _) _).grown hgrow3 (by have := HB.out.size; simp; omega) (fun k e => (HO.out.lt k e).1)); clear hown3 hgrow3) | (at_builtin; refine wpList_append_own _ rfl _ _ 22 rfl w.heap.size 5 i0 (.int .u8 0) 1 1 Tryz.underlying22 hi hz0 hz1 hz2 rfl (by decide) _ _ _ rfl (HO3.out.alloc _) ⟨w3.heap.size, 0, none⟩ 1 1 [.int .u8 10] rfl rfl (cell_one_new _ _ _) (by simp [Value.oneCell']) (by unfold maxLen; omega) (by omega) (by have := HB3.out.size; simp; omega) ?_; intro v4 w4 hown4 hgrow4 _))
            all_goals (try (exfalso; simp_all; done))
            go_wp2
            exact ⟨⟨p + 1, (pre ++ [13]) ++ [10], by omega, by go_num, by simp; omega, HFN, HNN, Lib.hid (by rw [Lib.byteCells_append, List.length_append]; exact hown4), Lib.hid ((al HB3.out (Nat.le_refl _) _).grown hgrow4 (by have := HB3.out.size; simp; omega) (fun k e => (HO3.out.lt k e).1))⟩, by simp [intOf]; omega⟩
        · have hb10 : ((((l[p]'hpl2).toNat : Int)) == 10) = false := by rw [beq_eq_false_iff_ne]; omega
          have HFN : Hid (pre ++ [l[p]'hpl2] = (l.take (p + 1)).flatMap (lineB h)) := Lib.hid (by
            rw [HFS.out, ← HF.out]
            unfold lineB
            rw [if_neg (fun e => h10 (by rw [e]; rfl))])
          clear h13 h10
          go_wp2_with (at_builtin; refine wpList_append_own _ rfl _ _ 22 rfl w.heap.size 5 i0 (.int .u8 0) 1 1 Tryz.underlying22 hi hz0 hz1 hz2 rfl (by decide) _ _ _ rfl (HO.out.alloc _) ⟨wr.heap.size, 0, none⟩ 1 1 [.int .u8 ((l[p]'hpl2).toNat : Int)] rfl rfl (cell_one_new _ _ _) (by simp [Value.oneCell']) (by unfold maxLen; omega) (by omega) (by have := HB.out.size; simp; omega) ?_; intro v3 w3 hown3 hgrow3 _)
          all_goals (try (exfalso; simp_all; done))
          go_wp2
          exact ⟨⟨p + 1, pre ++ [l[p]'hpl2], by omega, by go_num, by simp; omega, HFN, HNN, Lib.hid (by rw [Lib.byteCells_append, List.length_append]; exact hown3), Lib.hid ((al HB.out (Nat.le_refl _) _).grown hgrow3 (by have := HB.out.size; simp; omega) (fun k e => (HO.out.lt k e).1))⟩, by simp [intOf]; omega⟩
    · obtain rfl : p = len := by omega
      have HFE : Hid (pre = l.flatMap (lineB h)) := Lib.hid (by
        have := HF.out
        rwa [List.take_of_length_le (by rw [HLL.out]; omega)] at this)
      obtain ⟨a5, c5, hv5⟩ := own_slice HO.out
      subst hv5
      have hby5 : ∀ q, pre = q → Byt wr a5 pre.length c5 (ints q) := fun q hq => by rw [← hq]; exact own_byt HO.out (by omega)
      have HBY := Lib.hid (hby5 _ HFE.out)
      clear hby5
      go_wp2_with fail
      refine (HE1.out _ HB.out).mono ?_
      rintro e w1 ⟨a1, c1, rfl, hb1, hT1⟩
      have HB1 := Lib.hid (th HB.out (Nat.le_refl _) hb1)
      have HBY1 := Lib.hid (HBY.out.below hb1 (Nat.le_refl _))
      have HT1 := Lib.hid hT1
      clear hb1 hT1
      go_wp2_with fail
      refine (HE2.out _ _ _ _ HB1.out HBY1.out).mono ?_
      rintro e w4 ⟨a2, c2, rfl, hb2, hT2⟩
      have HB4 := Lib.hid (th HB1.out (Nat.le_refl _) hb2)
      have HTA4 := Lib.hid (HT1.out.below hb2 (Nat.le_refl _))
      have HTB4 := Lib.hid hT2
      clear hb2 hT2 HBY HBY1 HT1 HE1 HE2 HO HF HFE HNO
      go_wp2_with fail
      obtain ⟨g1, o1, hag1, hc1⟩ := HTA4.out.cells
      obtain ⟨g2, o2, hag2, hc2⟩ := HTB4.out.cells
      have HAG1 := Lib.hid hag1
      have HAG2 := Lib.hid hag2
      have HC1 := Lib.hid hc1
      have HC2 := Lib.hid hc2
      clear hag1 hag2 hc1 hc2
      go_loopw [13] (fun i wr => ∃ k : Nat, k ≤ ts.length ∧ i = .int .i64 k ∧ Hid (Below w4.heap.size w4 wr)) (fun i _ => ts.length - (intOf i).toNat)
      case atStart => exact ⟨0, by omega, rfl, Lib.hid (Below.refl _ _)⟩
      case round =>
        obtain ⟨k, hk, rfl, HB⟩ := hrel
        by_cases hlt : k < ts.length
        · obtain rfl := HAG1.out (by omega)
          obtain rfl := HAG2.out (by omega)
          obtain ⟨x1, y1, p0, p1, p2, p3, p4, hp⟩ := HC1.out k hlt
          obtain ⟨x2, y2, q0, q1, q2, q3, q4, hq⟩ := HC2.out k hlt
          have hfk := HFW.out _ (List.getElem_mem hlt)
          have hi0 : (0 : Int) ≤ k := by omega
          have hi1 : (k : Int) < ts.length := by omega
          generalize ts[k]'hlt = t at p0 p1 p2 p3 p4 hp q0 q1 q2 q3 q4 hq hfk
          have HKEEP : Hid (∀ W, Below w4.heap.size w4 W → W.cell? ⟨g1, o1 + k * 5, none⟩ = some (.int .i64 t.kind) ∧ W.cell? ⟨g1, o1 + k * 5 + 1, none⟩ = some (.string ⟨t.name.toArray⟩) ∧ W.cell? ⟨g1, o1 + k * 5 + 2, none⟩ = some (.string ⟨t.text.toArray⟩) ∧ W.cell? ⟨g1, o1 + k * 5 + 3, none⟩ = some (.slice x1 t.attrs.length y1) ∧ W.cell? ⟨g1, o1 + k * 5 + 4, none⟩ = some (.bool t.empty) ∧ W.cell? ⟨g2, o2 + k * 5, none⟩ = some (.int .i64 t.kind) ∧ W.cell? ⟨g2, o2 + k * 5 + 1, none⟩ = some (.string ⟨t.name.toArray⟩) ∧ W.cell? ⟨g2, o2 + k * 5 + 2, none⟩ = some (.string ⟨t.text.toArray⟩) ∧ W.cell? ⟨g2, o2 + k * 5 + 3, none⟩ = some (.slice x2 t.attrs.length y2) ∧ W.cell? ⟨g2, o2 + k * 5 + 4, none⟩ = some (.bool t.empty) ∧ Hid (Below w4.heap.size w4 W)) := Lib.hid (fun W hb => by
            have up : ∀ {p : Addr} {u : Value}, w4.cell? p = some u → W.cell? p = some u := fun h => (hb.cell (block_lt_of_cell h)).trans h
            exact ⟨up p0, up p1, up p2, up p3, up p4, up q0, up q1, up q2, up q3, up q4, Lib.hid hb⟩)
          have HPL : Hid (∀ x y W, Below w4.heap.size w4 W → Calls Tryz.prog 14 #[.agg #[.int .i64 t.kind, .string ⟨t.name.toArray⟩, .string ⟨t.text.toArray⟩, .slice x t.attrs.length y, .bool t.empty]] W fun e w' => e = .returned (.agg #[.int .i64 t.kind, .string ⟨t.name.toArray⟩, .string ⟨t.text.toArray⟩, .slice x t.attrs.length y, .bool t.empty]) ∧ Below w4.heap.size w4 w') := Lib.hid (fun x y W hb => (plain_any _ _ _ x _ y _ W).mono (fun e w' r => ⟨r.1, th hb (Nat.le_refl _) r.2⟩))
          have HSM : Hid (∀ W, Below w4.heap.size w4 W → Calls Tryz.prog 13 #[.agg #[.int .i64 t.kind, .string ⟨t.name.toArray⟩, .string ⟨t.text.toArray⟩, .slice x1 t.attrs.length y1, .bool t.empty], .agg #[.int .i64 t.kind, .string ⟨t.name.toArray⟩, .string ⟨t.text.toArray⟩, .slice x2 t.attrs.length y2, .bool t.empty]] W fun e w' => e = .returned (.bool true) ∧ Below w4.heap.size w4 w') := Lib.hid (fun W hb => (same_any t t (.slice x1 t.attrs.length y1) (.slice x2 t.attrs.length y2) W (hp.below hb (Nat.le_refl _)) (hq.below hb (Nat.le_refl _)) hfk).mono (fun e w' r => ⟨by rw [r.1, same_self], th hb (Nat.le_refl _) r.2⟩))
          obtain ⟨p0, p1, p2, p3, p4, q0, q1, q2, q3, q4, _⟩ := HKEEP.out _ HB.out
          clear hp hq hfk
          go_wp2_with fail
          go_region_held3 (fun W => W.cell? ⟨g1, o1 + k * 5, none⟩ = some (.int .i64 t.kind) ∧ W.cell? ⟨g1, o1 + k * 5 + 1, none⟩ = some (.string ⟨t.name.toArray⟩) ∧ W.cell? ⟨g1, o1 + k * 5 + 2, none⟩ = some (.string ⟨t.text.toArray⟩) ∧ W.cell? ⟨g1, o1 + k * 5 + 3, none⟩ = some (.slice x1 t.attrs.length y1) ∧ W.cell? ⟨g1, o1 + k * 5 + 4, none⟩ = some (.bool t.empty) ∧ W.cell? ⟨g2, o2 + k * 5, none⟩ = some (.int .i64 t.kind) ∧ W.cell? ⟨g2, o2 + k * 5 + 1, none⟩ = some (.string ⟨t.name.toArray⟩) ∧ W.cell? ⟨g2, o2 + k * 5 + 2, none⟩ = some (.string ⟨t.text.toArray⟩) ∧ W.cell? ⟨g2, o2 + k * 5 + 3, none⟩ = some (.slice x2 t.attrs.length y2) ∧ W.cell? ⟨g2, o2 + k * 5 + 4, none⟩ = some (.bool t.empty) ∧ Hid (Below w4.heap.size w4 W)) (first | (refine HKEEP.out _ ?_; first | assumption | exact HB.out.drew | exact HB.out)) (first | (go_at_call 14; go_split_ands; refine (HPL.out _ _ _ (Hid.out (by assumption))).mono ?_; rintro e w5 ⟨rfl, hM5⟩) | (go_at_call 13; go_split_ands; refine (HSM.out _ (Hid.out (by assumption))).mono ?_; rintro e w5 ⟨rfl, hM5⟩))
          all_goals (
            clear p0 p1 p2 p3 p4 q0 q1 q2 q3 q4
            go_split_ands
            rename_i hMv
            have HBN := Lib.hid hMv.out
            go_wp2
            exact ⟨⟨k + 1, by omega, by go_num, HBN⟩, by simp [intOf]; omega⟩)
        · obtain rfl : k = ts.length := by omega
          go_wp2_with fail
          refine (HAW.out _ (th HB4.out (Nat.le_refl _) HB.out)).mono ?_
          rintro e wz ⟨rfl, hbz⟩
          go_wp2
          go_ret
          exact ⟨rfl, hbz⟩
theorem tlines_law (a : Option Addr) (len cap : Nat) (l : List UInt8) (hv : Int) (h : Bool) (hh : hv = if h = true then 1 else 0) (w : World) (hm : LayT w) (hz : Byt w a len cap (ints l))  :
    Calls Tryz.prog 7 #[.slice a len cap, .int .i64 hv] w fun e w' => e = .returned (.bool true) ∧ Below w.heap.size w w' := by
  by_cases hbig : 600 < len
  · exact tlines_far a len cap hv w hm (.inl hbig)
  · have hll : l.length = len := by rw [← ints_len]; exact hz.eqLen
    by_cases hno : ∀ x ∈ l, x ≠ 13
    · have hle : (l.flatMap (lineB h)).length ≤ 2 * l.length := by
        have : ∀ m : List UInt8, (m.flatMap (lineB h)).length ≤ 2 * m.length := by
          intro m
          induction m with
          | nil => simp
          | cons c r ih =>
            simp only [List.flatMap_cons, List.length_append, List.length_cons]
            have : (lineB h c).length ≤ 2 := by unfold lineB; cases h <;> (split <;> simp)
            omega
        exact this l
      have e1 : linesL (l.flatMap (lineB h)) = l := lines_how h hno
      have e2 : linesL l = l := by have := lines_plain l [] hno; simpa [linesL] using this
      have hw := lines_how_whole h hno
      by_cases hwl : Whole l
      · have c1 : ¬ chkC (ints l) < l.length := by
          have h4 : chkC (ints l) = l.length := hwl
          omega
        have c2 : ¬ chkC (ints (l.flatMap (lineB h))) < (l.flatMap (lineB h)).length := by
          have h4 : chkC (ints (l.flatMap (lineB h))) = (l.flatMap (lineB h)).length := hw.2 hwl
          omega
        have t1 := allT_whole (l := l) (by omega) c1
        have t2 := allT_whole (l := l.flatMap (lineB h)) (by omega) c2
        rw [e2] at t1
        rw [e1] at t2
        cases h3 : allL3 l with
        | error p => exact tlines_e12 a len cap l hv h hh w hm hz hbig hno p (t1.2 p h3) (t2.2 p h3)
        | ok ts =>
          have hf := (all_few hwl hno h3).1
          have hs := all_short3 hwl hno h3
          exact tlines_ok a len cap l hv h hh w hm hz hbig hno ts (t1.1 ts h3) (t2.1 ts h3) (fun t ht => by have := hf t ht; omega) (by omega)
      · have c1 : chkC (ints l) < l.length := by
          have hle := chkC_le (ints l)
          rw [ints_len] at hle
          rcases Nat.lt_or_ge (chkC (ints l)) l.length with h1 | h1
          · exact h1
          · exact absurd (show chkC (ints l) = l.length by omega) hwl
        have c2 : chkC (ints (l.flatMap (lineB h))) < (l.flatMap (lineB h)).length := by
          have hle := chkC_le (ints (l.flatMap (lineB h)))
          rw [ints_len] at hle
          rcases Nat.lt_or_ge (chkC (ints (l.flatMap (lineB h)))) (l.flatMap (lineB h)).length with h1 | h1
          · exact h1
          · exact absurd (hw.1 (show chkC (ints (l.flatMap (lineB h))) = (l.flatMap (lineB h)).length by omega)) hwl
        exact tlines_e10 a len cap l hv h hh w hm hz hbig hno _ _ (allT_ck (by omega) c1) (allT_ck (by omega) c2)
    · exact tlines_has a len cap l hv h hh w hm hz hbig hno
theorem tlaw_lines (a : Option Addr) (len cap : Nat) (l : List UInt8) (hv : Int) (w : World) (hm : LayT w) (hz : Byt w a len cap (ints l)) :
    Calls Tryz.prog 7 #[.slice a len cap, .int .i64 hv] w fun e w' => e = .returned (.bool true) ∧ Below w.heap.size w w' := by
  by_cases h0 : hv = 0
  · exact tlines_law a len cap l hv false (by rw [h0]; rfl) w hm hz
  · by_cases h1 : hv = 1
    · exact tlines_law a len cap l hv true (by rw [h1]; rfl) w hm hz
    · exact tlines_far a len cap hv w hm (by omega)
end Go.Proofs.YtihijgghcecpmaaGreatDoor.U
