/- The law TokenReads. -/
import Derived.Test.YtihijgghcecpmaaGreatDoorQ20
import Derived.Test.YtihijgghcecpmaaGreatDoorQ11
import Derived.Test.YtihijgghcecpmaaGreatDoorQ4
import Derived.Test.YtihijgghcecpmaaGreatDoorQ2
namespace Go.Proofs.YtihijgghcecpmaaGreatDoor.U
open Go.RowKit Go.Shelf

/-- What package token answers, for the laws. -/
theorem tall_at (a : Option Addr) (len cap : Nat) (l : List UInt8) (w : World) (hm : LayT w) (hz : Byt w a len cap (ints l)) :
    Calls Tryz.prog 9 #[.slice a len cap] w fun e w' => Below w.heap.size w w' ∧ ((∃ ts a1 c1, allT l = .ok ts ∧ e = .returned (.tuple #[.slice a1 ts.length c1, .int .i64 0, .int .i64 0]) ∧ TokAt w' (.slice a1 ts.length c1) ts) ∨ (∃ (p : Nat) (z : Int), allT l = .error (p, z) ∧ e = .returned (.tuple #[.slice none 0 0, .int .i64 p, .int .i64 z]))) :=
  (tall_any a len cap l w hm hz).mono (by
    rintro e w' ⟨hb, ⟨a1, c1, l1, h1, h2, h3⟩ | h⟩
    · refine ⟨hb, .inl ⟨_, a1, c1, h1, ?_, ?_⟩⟩
      · rw [List.length_map]; exact h2
      · rw [List.length_map]; exact h3.at
    · exact ⟨hb, .inr h⟩)
theorem all3_at (s : ByteArray) (w : World) (hs : s.size ≤ 100000) (hw : Whole (bts s)) (h13 : ∀ b ∈ bts s, b ≠ 13) :
    Calls Tryz.prog 11 #[.string s] w fun e w' => Below w.heap.size w w' ∧ ((∃ ts a1 c1, allL3 (bts s) = .ok ts ∧ e = .returned (.tuple #[.slice a1 ts.length c1, .int .i64 (-1)]) ∧ TokAt w' (.slice a1 ts.length c1) ts) ∨ (∃ p : Nat, allL3 (bts s) = .error p ∧ e = .returned (.tuple #[.slice none 0 0, .int .i64 p]))) :=
  (all3_any s w hs hw h13).mono (by
    rintro e w' ⟨hb, ⟨v, l1, h1, h2, h3⟩ | h⟩
    · have h4 := h3.at
      obtain ⟨a1, c1, hv⟩ := h4.slice
      subst hv
      exact ⟨hb, .inl ⟨_, a1, c1, h1, h2, h4⟩⟩
    · exact ⟨hb, .inr h⟩)

theorem allT_whole {l : List UInt8} (h1 : ¬ 65536 < l.length) (h2 : ¬ chkC (ints l) < l.length) : (∀ ts, allL3 (linesL l) = .ok ts → allT l = .ok ts) ∧ (∀ p, allL3 (linesL l) = .error p → allT l = .error (p, 12)) := by
  unfold allT
  rw [if_neg h1, if_neg h2]
  exact ⟨fun ts h => by rw [h], fun p h => by rw [h]⟩
theorem allT_ck {l : List UInt8} (h1 : ¬ 65536 < l.length) (h2 : chkC (ints l) < l.length) : allT l = .error (chkC (ints l), 10) := by
  unfold allT
  rw [if_neg h1, if_pos h2]

theorem same_self (t : Tok) : sameT t t = true := by unfold sameT; simp

set_option maxHeartbeats 4000000 in
set_option maxRecDepth 20000 in
theorem treads_big (a : Option Addr) (len cap : Nat) (w : World) (hm : LayT w) (hbig : 600 < len) :
    Calls Tryz.prog 3 #[.slice a len cap] w fun e w' => e = .returned (.bool true) ∧ Below w.heap.size w w' := by
  have HAW : Hid (∀ W, Below w.heap.size w W → Calls Tryz.prog 8 #[] W fun e w' => e = .returned (.bool true) ∧ Below w.heap.size w w') := Lib.hid (fun W hb => (awake3_any W (hm.below hb hm.size)).mono (fun e w' r => ⟨r.1, th hb (Nat.le_refl _) r.2⟩))
  clear hm
  go_enter Tryz.func3, Tryz.ntmps3
  go_wp2_with fail
  refine (HAW.out _ (Below.refl _ _)).mono ?_
  rintro e wz ⟨rfl, hbz⟩
  go_wp2
  go_ret
  exact ⟨rfl, hbz⟩
set_option maxHeartbeats 4000000 in
set_option maxRecDepth 20000 in
theorem treads_ck (a : Option Addr) (len cap : Nat) (l : List UInt8) (w : World) (hm : LayT w) (hz : Byt w a len cap (ints l)) (hbig : ¬ 600 < len) (hck : chkC (ints l) < l.length) :
    Calls Tryz.prog 3 #[.slice a len cap] w fun e w' => e = .returned (.bool true) ∧ Below w.heap.size w w' := by
  have hlen : l.length = len := by rw [← ints_len]; exact hz.eqLen
  have hlim := hz.lim
  have HAW : Hid (∀ W, Below w.heap.size w W → Calls Tryz.prog 8 #[] W fun e w' => e = .returned (.bool true) ∧ Below w.heap.size w w') := Lib.hid (fun W hb => (awake3_any W (hm.below hb hm.size)).mono (fun e w' r => ⟨r.1, th hb (Nat.le_refl _) r.2⟩))
  have HTA := Lib.hid (tall_at a len cap l w hm hz)
  have HRA : Hid (∀ W, Below w.heap.size w W → Calls Tryz.prog 10 #[.slice a len cap] W fun e w' => (∃ v x y, e = .returned (.tuple #[.slice v x y, .int .i64 (chkC (ints l))])) ∧ Below W.heap.size W w') := Lib.hid (fun W hb => (refAll_any a len cap (ints l) W (hz.below hb (Nat.le_refl _)) (by omega)).mono (by
    rintro e w' ⟨v, h1, h2, h3⟩
    obtain ⟨va, vc, rfl⟩ := own_slice h2
    exact ⟨⟨va, _, vc, h1⟩, h3⟩))
  have hck0 := chkC_le (ints l)
  rw [ints_len] at hck0
  have hE : allT l = .error (chkC (ints l), 10) := by unfold allT; rw [if_neg (by omega), if_pos hck]
  rw [hE] at HTA
  have hck1 : chkC (ints l) < len := by omega
  clear hlen hz hm hck0 hck hE
  generalize chkC (ints l) = cc at HTA HRA hck1
  go_enter Tryz.func3, Tryz.ntmps3
  go_wp2_with fail
  refine HTA.out.mono ?_
  rintro e w1 ⟨hb1, ⟨_, _, _, ho, _⟩ | ⟨p, z, ho, rfl⟩⟩
  · cases ho
  injection ho with ho
  obtain ⟨rfl, rfl⟩ := Prod.mk.inj ho
  have HB1 := Lib.hid hb1
  clear hb1 ho
  go_wp2_with fail
  refine (HRA.out _ HB1.out).mono ?_
  rintro e w2 ⟨⟨v, x, y, rfl⟩, hb2⟩
  have HB2 := Lib.hid (th HB1.out (Nat.le_refl _) hb2)
  clear hb2
  go_wp2_with fail
  refine (HAW.out _ HB2.out).mono ?_
  rintro e wz ⟨rfl, hbz⟩
  go_wp2
  go_ret
  exact ⟨rfl, hbz⟩
set_option maxHeartbeats 4000000 in
set_option maxRecDepth 20000 in
theorem treads_err (a : Option Addr) (len cap : Nat) (l : List UInt8) (w : World) (hm : LayT w) (hz : Byt w a len cap (ints l)) (hbig : ¬ 600 < len) (hck : ¬ chkC (ints l) < l.length) (p : Nat) (h30 : allL3 (linesL l) = .error p) :
    Calls Tryz.prog 3 #[.slice a len cap] w fun e w' => e = .returned (.bool true) ∧ Below w.heap.size w w' := by
  have hlen : l.length = len := by rw [← ints_len]; exact hz.eqLen
  have hlim := hz.lim
  have HAW : Hid (∀ W, Below w.heap.size w W → Calls Tryz.prog 8 #[] W fun e w' => e = .returned (.bool true) ∧ Below w.heap.size w w') := Lib.hid (fun W hb => (awake3_any W (hm.below hb hm.size)).mono (fun e w' r => ⟨r.1, th hb (Nat.le_refl _) r.2⟩))
  have HTA := Lib.hid (tall_at a len cap l w hm hz)
  have HRA : Hid (∀ W, Below w.heap.size w W → Calls Tryz.prog 10 #[.slice a len cap] W fun e w' => (∃ v x y, e = .returned (.tuple #[.slice v x y, .int .i64 (chkC (ints l))])) ∧ Below W.heap.size W w') := Lib.hid (fun W hb => (refAll_any a len cap (ints l) W (hz.below hb (Nat.le_refl _)) (by omega)).mono (by
    rintro e w' ⟨v, h1, h2, h3⟩
    obtain ⟨va, vc, rfl⟩ := own_slice h2
    exact ⟨⟨va, _, vc, h1⟩, h3⟩))
  have hck0 := chkC_le (ints l)
  rw [ints_len] at hck0
  have hcc : chkC (ints l) = len := by omega
  have hwh : Whole l := (wholeB_iff l).1 (by simp [wholeB]; omega)
  rw [hcc] at HRA
  obtain ⟨doc, hdoc⟩ : ∃ doc : ByteArray, doc = ⟨(linesL l).toArray⟩ := ⟨_, rfl⟩
  have hbd : bts doc = linesL l := by rw [hdoc, bts_mk]
  have hlw : Whole (bts doc) := by rw [hbd]; exact lines_whole hwh
  have h13 : ∀ c ∈ bts doc, c ≠ 13 := by rw [hbd]; exact lines_no13 l
  have hds : doc.size ≤ 600 := by
    have := lines_len l
    rw [← bts_len, hbd]; omega
  have HLN : Hid (∀ W, Below w.heap.size w W → Calls Tryz.prog 12 #[.slice a len cap] W fun e w' => e = .returned (.string doc) ∧ Below W.heap.size W w') := Lib.hid (fun W hb => (lines_any a len cap l W (hz.below hb (Nat.le_refl _)) (by omega)).mono (fun e w' r => ⟨by rw [hdoc]; exact r.1, r.2⟩))
  have HR3 : Hid (∀ W, Calls Tryz.prog 11 #[.string doc] W fun e w' => Below W.heap.size W w' ∧ _) := Lib.hid (fun W => all3_at doc W (by omega) hlw h13)
  have hE := allT_whole (l := l) (by omega) (by omega)
  rw [← hbd] at hE
  have h3 : allL3 (bts doc) = .error p := by rw [hbd]; exact h30
  rw [h3] at HR3
  rw [hE.2 p h3] at HTA
  clear hlen hz hm hck0 hck hE hcc hwh hdoc hbd hlw h13 h3 h30
  go_enter Tryz.func3, Tryz.ntmps3
  go_wp2_with fail
  refine HTA.out.mono ?_
  rintro e w1 ⟨hb1, ⟨_, _, _, ho, _⟩ | ⟨p', z, ho, rfl⟩⟩
  · cases ho
  injection ho with ho
  obtain ⟨rfl, rfl⟩ := Prod.mk.inj ho
  have HB1 := Lib.hid hb1
  clear hb1 ho
  go_wp2_with fail
  refine (HRA.out _ HB1.out).mono ?_
  rintro e w2 ⟨⟨v, x, y, rfl⟩, hb2⟩
  have HB2 := Lib.hid (th HB1.out (Nat.le_refl _) hb2)
  clear hb2
  go_wp2_with fail
  refine (HLN.out _ HB2.out).mono ?_
  rintro e w3 ⟨rfl, hb3⟩
  have HB3 := Lib.hid (th HB2.out (Nat.le_refl _) hb3)
  clear hb3
  go_wp2_with fail
  refine (HR3.out _).mono ?_
  rintro e w4 ⟨hb4, ⟨_, _, _, ho, _⟩ | ⟨p', ho, rfl⟩⟩
  · cases ho
  injection ho with ho
  subst ho
  have HB4 := Lib.hid (th HB3.out (Nat.le_refl _) hb4)
  clear hb4
  go_wp2_with fail
  refine (HAW.out _ HB4.out).mono ?_
  rintro e wz ⟨rfl, hbz⟩
  go_wp2
  go_ret
  exact ⟨rfl, hbz⟩
set_option maxHeartbeats 4000000 in
set_option maxRecDepth 20000 in
theorem treads_ok (a : Option Addr) (len cap : Nat) (l : List UInt8) (w : World) (hm : LayT w) (hz : Byt w a len cap (ints l)) (hbig : ¬ 600 < len) (hck : ¬ chkC (ints l) < l.length) (ts : List Tok) (h30 : allL3 (linesL l) = .ok ts) :
    Calls Tryz.prog 3 #[.slice a len cap] w fun e w' => e = .returned (.bool true) ∧ Below w.heap.size w w' := by
  have hlen : l.length = len := by rw [← ints_len]; exact hz.eqLen
  have hlim := hz.lim
  have HAW : Hid (∀ W, Below w.heap.size w W → Calls Tryz.prog 8 #[] W fun e w' => e = .returned (.bool true) ∧ Below w.heap.size w w') := Lib.hid (fun W hb => (awake3_any W (hm.below hb hm.size)).mono (fun e w' r => ⟨r.1, th hb (Nat.le_refl _) r.2⟩))
  have HTA := Lib.hid (tall_at a len cap l w hm hz)
  have HRA : Hid (∀ W, Below w.heap.size w W → Calls Tryz.prog 10 #[.slice a len cap] W fun e w' => (∃ v x y, e = .returned (.tuple #[.slice v x y, .int .i64 (chkC (ints l))])) ∧ Below W.heap.size W w') := Lib.hid (fun W hb => (refAll_any a len cap (ints l) W (hz.below hb (Nat.le_refl _)) (by omega)).mono (by
    rintro e w' ⟨v, h1, h2, h3⟩
    obtain ⟨va, vc, rfl⟩ := own_slice h2
    exact ⟨⟨va, _, vc, h1⟩, h3⟩))
  have hck0 := chkC_le (ints l)
  rw [ints_len] at hck0
  have hcc : chkC (ints l) = len := by omega
  have hwh : Whole l := (wholeB_iff l).1 (by simp [wholeB]; omega)
  rw [hcc] at HRA
  obtain ⟨doc, hdoc⟩ : ∃ doc : ByteArray, doc = ⟨(linesL l).toArray⟩ := ⟨_, rfl⟩
  have hbd : bts doc = linesL l := by rw [hdoc, bts_mk]
  have hlw : Whole (bts doc) := by rw [hbd]; exact lines_whole hwh
  have h13 : ∀ c ∈ bts doc, c ≠ 13 := by rw [hbd]; exact lines_no13 l
  have hds : doc.size ≤ 600 := by
    have := lines_len l
    rw [← bts_len, hbd]; omega
  have HLN : Hid (∀ W, Below w.heap.size w W → Calls Tryz.prog 12 #[.slice a len cap] W fun e w' => e = .returned (.string doc) ∧ Below W.heap.size W w') := Lib.hid (fun W hb => (lines_any a len cap l W (hz.below hb (Nat.le_refl _)) (by omega)).mono (fun e w' r => ⟨by rw [hdoc]; exact r.1, r.2⟩))
  have HR3 : Hid (∀ W, Calls Tryz.prog 11 #[.string doc] W fun e w' => Below W.heap.size W w' ∧ _) := Lib.hid (fun W => all3_at doc W (by omega) hlw h13)
  have hE := allT_whole (l := l) (by omega) (by omega)
  rw [← hbd] at hE
  have h3 : allL3 (bts doc) = .ok ts := by rw [hbd]; exact h30
  have hfl : ts.length ≤ 100000 := by have := all_short3 hlw h13 h3; rw [bts_len] at this; omega
  have hfew := (all_few hlw h13 h3).1
  have HFW : Hid (∀ t ∈ ts, t.attrs.length ≤ 100000) := Lib.hid (fun t ht => by have := hfew t ht; rw [bts_len] at this; omega)
  rw [h3] at HR3
  rw [hE.1 ts h3] at HTA
  clear hlen hz hm hck0 hck hE hcc hwh hdoc hbd hlw h13 h3 h30 hfew
  go_enter Tryz.func3, Tryz.ntmps3
  go_wp2_with fail
  refine HTA.out.mono ?_
  rintro e w1 ⟨hb1, ⟨ts', a1, c1, ho, rfl, hT⟩ | ⟨_, _, ho, _⟩⟩
  rotate_left
  · cases ho
  injection ho with ho
  subst ho
  have HB1 := Lib.hid hb1
  have HT1 := Lib.hid hT
  clear hb1 hT
  go_wp2_with fail
  refine (HRA.out _ HB1.out).mono ?_
  rintro e w2 ⟨⟨v, x, y, rfl⟩, hb2⟩
  have HB2 := Lib.hid (th HB1.out (Nat.le_refl _) hb2)
  have HT2 := Lib.hid (HT1.out.below hb2 (Nat.le_refl _))
  clear hb2
  go_wp2_with fail
  refine (HLN.out _ HB2.out).mono ?_
  rintro e w3 ⟨rfl, hb3⟩
  have HB3 := Lib.hid (th HB2.out (Nat.le_refl _) hb3)
  have HT3 := Lib.hid (HT2.out.below hb3 (Nat.le_refl _))
  clear hb3
  go_wp2_with fail
  refine (HR3.out _).mono ?_
  rintro e w4 ⟨hb4, ⟨ts', a2, c2, ho, rfl, hR⟩ | ⟨_, ho, _⟩⟩
  rotate_left
  · cases ho
  injection ho with ho
  subst ho
  have HB4 := Lib.hid (th HB3.out (Nat.le_refl _) hb4)
  have HTA4 := Lib.hid (HT3.out.below hb4 (Nat.le_refl _))
  have HTB4 := Lib.hid hR
  clear hb4 hR
  go_wp2_with fail
  obtain ⟨g1, o1, hag1, hc1⟩ := HTA4.out.cells
  obtain ⟨g2, o2, hag2, hc2⟩ := HTB4.out.cells
  have HAG1 := Lib.hid hag1
  have HAG2 := Lib.hid hag2
  have HC1 := Lib.hid hc1
  have HC2 := Lib.hid hc2
  clear hag1 hag2 hc1 hc2
  go_loopw [10] (fun i wr => ∃ k : Nat, k ≤ ts.length ∧ i = .int .i64 k ∧ Hid (Below w4.heap.size w4 wr)) (fun i _ => ts.length - (intOf i).toNat)
  case atStart => exact ⟨0, by omega, rfl, Lib.hid (Below.refl _ _)⟩
  case round =>
    obtain ⟨k, hk, rfl, HB⟩ := hrel
    by_cases hlt : k < ts.length
    · obtain rfl := HAG1.out (by omega)
      obtain rfl := HAG2.out (by omega)
      obtain ⟨x1, y1, p0, p1, p2, p3, p4, hp⟩ := HC1.out k hlt
      obtain ⟨x2, y2, q0, q1, q2, q3, q4, hq⟩ := HC2.out k hlt
      have hfk := HFW.out _ (List.getElem_mem hlt)
      have hi0 : (0 : Int) ≤ k := by omega
      have hi1 : (k : Int) < ts.length := by omega
      generalize ts[k]'hlt = t at p0 p1 p2 p3 p4 hp q0 q1 q2 q3 q4 hq hfk
      have HKEEP : Hid (∀ W, Below w4.heap.size w4 W → W.cell? ⟨g1, o1 + k * 5, none⟩ = some (.int .i64 t.kind) ∧ W.cell? ⟨g1, o1 + k * 5 + 1, none⟩ = some (.string ⟨t.name.toArray⟩) ∧ W.cell? ⟨g1, o1 + k * 5 + 2, none⟩ = some (.string ⟨t.text.toArray⟩) ∧ W.cell? ⟨g1, o1 + k * 5 + 3, none⟩ = some (.slice x1 t.attrs.length y1) ∧ W.cell? ⟨g1, o1 + k * 5 + 4, none⟩ = some (.bool t.empty) ∧ W.cell? ⟨g2, o2 + k * 5, none⟩ = some (.int .i64 t.kind) ∧ W.cell? ⟨g2, o2 + k * 5 + 1, none⟩ = some (.string ⟨t.name.toArray⟩) ∧ W.cell? ⟨g2, o2 + k * 5 + 2, none⟩ = some (.string ⟨t.text.toArray⟩) ∧ W.cell? ⟨g2, o2 + k * 5 + 3, none⟩ = some (.slice x2 t.attrs.length y2) ∧ W.cell? ⟨g2, o2 + k * 5 + 4, none⟩ = some (.bool t.empty) ∧ Hid (Below w4.heap.size w4 W)) := Lib.hid (fun W hb => by
        have up : ∀ {p : Addr} {u : Value}, w4.cell? p = some u → W.cell? p = some u := fun h => (hb.cell (block_lt_of_cell h)).trans h
        exact ⟨up p0, up p1, up p2, up p3, up p4, up q0, up q1, up q2, up q3, up q4, Lib.hid hb⟩)
      have HPL : Hid (∀ x y W, Below w4.heap.size w4 W → Calls Tryz.prog 14 #[.agg #[.int .i64 t.kind, .string ⟨t.name.toArray⟩, .string ⟨t.text.toArray⟩, .slice x t.attrs.length y, .bool t.empty]] W fun e w' => e = .returned (.agg #[.int .i64 t.kind, .string ⟨t.name.toArray⟩, .string ⟨t.text.toArray⟩, .slice x t.attrs.length y, .bool t.empty]) ∧ Below w4.heap.size w4 w') := Lib.hid (fun x y W hb => (plain_any _ _ _ x _ y _ W).mono (fun e w' r => ⟨r.1, th hb (Nat.le_refl _) r.2⟩))
      have HSM : Hid (∀ W, Below w4.heap.size w4 W → Calls Tryz.prog 13 #[.agg #[.int .i64 t.kind, .string ⟨t.name.toArray⟩, .string ⟨t.text.toArray⟩, .slice x1 t.attrs.length y1, .bool t.empty], .agg #[.int .i64 t.kind, .string ⟨t.name.toArray⟩, .string ⟨t.text.toArray⟩, .slice x2 t.attrs.length y2, .bool t.empty]] W fun e w' => e = .returned (.bool true) ∧ Below w4.heap.size w4 w') := Lib.hid (fun W hb => (same_any t t (.slice x1 t.attrs.length y1) (.slice x2 t.attrs.length y2) W (hp.below hb (Nat.le_refl _)) (hq.below hb (Nat.le_refl _)) hfk).mono (fun e w' r => ⟨by rw [r.1, same_self], th hb (Nat.le_refl _) r.2⟩))
      obtain ⟨p0, p1, p2, p3, p4, q0, q1, q2, q3, q4, _⟩ := HKEEP.out _ HB.out
      clear hp hq hfk
      go_wp2_with fail
      go_region_held3 (fun W => W.cell? ⟨g1, o1 + k * 5, none⟩ = some (.int .i64 t.kind) ∧ W.cell? ⟨g1, o1 + k * 5 + 1, none⟩ = some (.string ⟨t.name.toArray⟩) ∧ W.cell? ⟨g1, o1 + k * 5 + 2, none⟩ = some (.string ⟨t.text.toArray⟩) ∧ W.cell? ⟨g1, o1 + k * 5 + 3, none⟩ = some (.slice x1 t.attrs.length y1) ∧ W.cell? ⟨g1, o1 + k * 5 + 4, none⟩ = some (.bool t.empty) ∧ W.cell? ⟨g2, o2 + k * 5, none⟩ = some (.int .i64 t.kind) ∧ W.cell? ⟨g2, o2 + k * 5 + 1, none⟩ = some (.string ⟨t.name.toArray⟩) ∧ W.cell? ⟨g2, o2 + k * 5 + 2, none⟩ = some (.string ⟨t.text.toArray⟩) ∧ W.cell? ⟨g2, o2 + k * 5 + 3, none⟩ = some (.slice x2 t.attrs.length y2) ∧ W.cell? ⟨g2, o2 + k * 5 + 4, none⟩ = some (.bool t.empty) ∧ Hid (Below w4.heap.size w4 W)) (first | (refine HKEEP.out _ ?_; first | assumption | exact HB.out.drew | exact HB.out)) (first | (go_at_call 14; go_split_ands; refine (HPL.out _ _ _ (Hid.out (by assumption))).mono ?_; rintro e w5 ⟨rfl, hM5⟩) | (go_at_call 13; go_split_ands; refine (HSM.out _ (Hid.out (by assumption))).mono ?_; rintro e w5 ⟨rfl, hM5⟩))
      all_goals (
        clear p0 p1 p2 p3 p4 q0 q1 q2 q3 q4
        go_split_ands
        rename_i hMv
        have HBN := Lib.hid hMv.out
        go_wp2
        exact ⟨⟨k + 1, by omega, by go_num, HBN⟩, by simp [intOf]; omega⟩)
    · obtain rfl : k = ts.length := by omega
      go_wp2_with fail
      refine (HAW.out _ (th HB4.out (Nat.le_refl _) HB.out)).mono ?_
      rintro e wz ⟨rfl, hbz⟩
      go_wp2
      go_ret
      exact ⟨rfl, hbz⟩

theorem treads_any (a : Option Addr) (len cap : Nat) (l : List UInt8) (w : World) (hm : LayT w) (hz : Byt w a len cap (ints l)) :
    Calls Tryz.prog 3 #[.slice a len cap] w fun e w' => e = .returned (.bool true) ∧ Below w.heap.size w w' := by
  by_cases hbig : 600 < len
  · exact treads_big a len cap w hm hbig
  · by_cases hck : chkC (ints l) < l.length
    · exact treads_ck a len cap l w hm hz hbig hck
    · cases h3 : allL3 (linesL l) with
      | error p => exact treads_err a len cap l w hm hz hbig hck p h3
      | ok ts => exact treads_ok a len cap l w hm hz hbig hck ts h3
end Go.Proofs.YtihijgghcecpmaaGreatDoor.U
