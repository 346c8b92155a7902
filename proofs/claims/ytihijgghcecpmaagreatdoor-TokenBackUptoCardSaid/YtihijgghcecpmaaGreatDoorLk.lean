/- The law TokenBack. -/
import Derived.Test.YtihijgghcecpmaaGreatDoorLg
import Derived.Test.YtihijgghcecpmaaGreatDoorFw
namespace Go.Proofs.YtihijgghcecpmaaGreatDoor.U
open Go.RowKit Go.Shelf

set_option maxHeartbeats 4000000 in
set_option maxRecDepth 20000 in
theorem tback_err (a : Option Addr) (cap : Nat) (ts : List Tok) (w : World) (hm : LayT w) (hv : TokAt w (.slice a ts.length cap) ts) (hn : ts.length ≤ 2000000) (hb : ∀ t ∈ ts, t.name.length ≤ 2000000 ∧ t.text.length ≤ 2000000 ∧ t.attrs.length ≤ 2000000 ∧ sumA t.attrs ≤ 2000000) (hno : ¬ (okAll true ts = true ∧ (ts.flatMap textT).length ≤ 65536)) :
    Calls Tryz.prog 4 #[.slice a ts.length cap] w fun e w' => e = .returned (.bool true) ∧ Below w.heap.size w w' := by
  have HAW : Hid (∀ W, Below w.heap.size w W → Calls Tryz.prog 8 #[] W fun e w' => e = .returned (.bool true) ∧ Below w.heap.size w w') := Lib.hid (fun W hb => (awake3_any W (hm.below hb hm.size)).mono (fun e w' r => ⟨r.1, th hb (Nat.le_refl _) r.2⟩))
  have HFE : Hid (∀ W, Below w.heap.size w W → Calls Tryz.prog 16 #[.slice a ts.length cap] W fun e w' => SomeB e ∧ Below W.heap.size W w') := Lib.hid (fun W hb' => few_any a cap ts.length ts W rfl (hv.below hb' (Nat.le_refl _)) hn (fun t ht => (hb t ht).2.2.1))
  have HNT : Hid (∀ W, Below w.heap.size w W → Calls Tryz.prog 17 #[.slice a ts.length cap] W fun e w' => e = .returned (.bool (neatL ts)) ∧ Below W.heap.size W w') := Lib.hid (fun W hb' => (neat_any a cap ts.length ts W rfl (hv.below hb' (Nat.le_refl _)) hn).mono (fun e w' r => ⟨r.1, r.2⟩))
  have HWR : Hid (Calls Tryz.prog 15 #[.slice a ts.length cap] w fun e w' => (∃ z, (z != 0) = true ∧ e = .returned (.tuple #[.slice none 0 0, .int .i64 z])) ∧ Below w.heap.size w w') := Lib.hid ((twrite_any a cap ts w hm hv hn hb).mono (by
    rintro e w' ⟨hb', ⟨h1, h2, _⟩ | ⟨_, h3⟩⟩
    · exact absurd ⟨h1, h2⟩ hno
    · exact ⟨h3, hb'⟩))
  clear hm hv hb hno
  generalize neatL ts = nt at HNT
  go_enter Tryz.func4, Tryz.ntmps4
  go_wp2_with fail
  refine HWR.out.mono ?_
  rintro e w1 ⟨⟨z, hz, rfl⟩, hb1⟩
  have HB1 := Lib.hid hb1
  have hz2 : ¬ z = 0 := by simpa using hz
  clear hb1 hz
  go_wp2_with fail
  refine (HFE.out _ HB1.out).mono ?_
  rintro e w2 ⟨⟨b, rfl⟩, hb2⟩
  have HB2 := Lib.hid (th HB1.out (Nat.le_refl _) hb2)
  clear hb2
  cases b with
  | false =>
    go_wp2_with fail
    refine (HAW.out _ HB2.out).mono ?_
    rintro e wz ⟨rfl, hbz⟩
    go_wp2
    go_ret
    exact ⟨rfl, hbz⟩
  | true =>
    go_wp2_with fail
    refine (HNT.out _ HB2.out).mono ?_
    rintro e w3 ⟨rfl, hb3⟩
    have HB3 := Lib.hid (th HB2.out (Nat.le_refl _) hb3)
    clear hb3
    cases nt with
    | false =>
      go_wp2_with fail
      refine (HAW.out _ HB3.out).mono ?_
      rintro e wz ⟨rfl, hbz⟩
      go_wp2
      go_ret
      exact ⟨rfl, hbz⟩
    | true =>
      go_wp2_with fail
      refine (HAW.out _ HB3.out).mono ?_
      rintro e wz ⟨rfl, hbz⟩
      go_wp2
      go_ret
      exact ⟨rfl, hbz⟩
set_option maxHeartbeats 4000000 in
set_option maxRecDepth 20000 in
theorem tback_no (a : Option Addr) (cap : Nat) (ts : List Tok) (w : World) (hm : LayT w) (hv : TokAt w (.slice a ts.length cap) ts) (hn : ts.length ≤ 2000000) (hb : ∀ t ∈ ts, t.name.length ≤ 2000000 ∧ t.text.length ≤ 2000000 ∧ t.attrs.length ≤ 2000000 ∧ sumA t.attrs ≤ 2000000) (h1 : okAll true ts = true) (h2 : (ts.flatMap textT).length ≤ 65536) (hne : neatL ts = false) :
    Calls Tryz.prog 4 #[.slice a ts.length cap] w fun e w' => e = .returned (.bool true) ∧ Below w.heap.size w w' := by
  have HAW : Hid (∀ W, Below w.heap.size w W → Calls Tryz.prog 8 #[] W fun e w' => e = .returned (.bool true) ∧ Below w.heap.size w w') := Lib.hid (fun W hb => (awake3_any W (hm.below hb hm.size)).mono (fun e w' r => ⟨r.1, th hb (Nat.le_refl _) r.2⟩))
  have HFE : Hid (∀ W, Below w.heap.size w W → Calls Tryz.prog 16 #[.slice a ts.length cap] W fun e w' => SomeB e ∧ Below W.heap.size W w') := Lib.hid (fun W hb' => few_any a cap ts.length ts W rfl (hv.below hb' (Nat.le_refl _)) hn (fun t ht => (hb t ht).2.2.1))
  have HNT : Hid (∀ W, Below w.heap.size w W → Calls Tryz.prog 17 #[.slice a ts.length cap] W fun e w' => e = .returned (.bool false) ∧ Below W.heap.size W w') := Lib.hid (fun W hb' => (neat_any a cap ts.length ts W rfl (hv.below hb' (Nat.le_refl _)) hn).mono (fun e w' r => ⟨by rw [r.1, hne], r.2⟩))
  obtain ⟨FL, hFL⟩ : ∃ FL, (ts.flatMap textT).length = FL := ⟨_, rfl⟩
  have hFL2 : FL ≤ 65536 := by omega
  have HWR : Hid (Calls Tryz.prog 15 #[.slice a ts.length cap] w fun e w' => ∃ a5 c5, e = .returned (.tuple #[.slice a5 FL c5, .int .i64 0]) ∧ Below w.heap.size w w' ∧ Byt w' a5 FL c5 (ints (ts.flatMap textT))) := Lib.hid ((twrite_any a cap ts w hm hv hn hb).mono (by
    rintro e w' ⟨hb', ⟨_, _, a5, c5, he, ho⟩ | ⟨hno, _⟩⟩
    · rw [hFL] at he ho
      exact ⟨a5, c5, he, hb', own_byt ho (by omega)⟩
    · exact absurd ⟨h1, h2⟩ hno))
  clear hm hv hb h1 h2 hne hFL
  go_enter Tryz.func4, Tryz.ntmps4
  go_wp2_with fail
  refine HWR.out.mono ?_
  rintro e w1 ⟨a5, c5, rfl, hb1, hby⟩
  have HB1 := Lib.hid hb1
  have HBY := Lib.hid hby
  clear hb1 hby
  go_wp2_with fail
  refine (HFE.out _ HB1.out).mono ?_
  rintro e w2 ⟨⟨b, rfl⟩, hb2⟩
  have HB2 := Lib.hid (th HB1.out (Nat.le_refl _) hb2)
  clear hb2
  cases b with
  | false =>
    go_wp2_with fail
    refine (HAW.out _ HB2.out).mono ?_
    rintro e wz ⟨rfl, hbz⟩
    go_wp2
    go_ret
    exact ⟨rfl, hbz⟩
  | true =>
    go_wp2_with fail
    refine (HNT.out _ HB2.out).mono ?_
    rintro e w3 ⟨rfl, hb3⟩
    have HB3 := Lib.hid (th HB2.out (Nat.le_refl _) hb3)
    clear hb3
    go_wp2_with fail
    refine (HAW.out _ HB3.out).mono ?_
    rintro e wz ⟨rfl, hbz⟩
    go_wp2
    go_ret
    exact ⟨rfl, hbz⟩
set_option maxHeartbeats 4000000 in
set_option maxRecDepth 20000 in
theorem tback_ok (a : Option Addr) (cap : Nat) (ts : List Tok) (w : World) (hm : LayT w) (hv : TokAt w (.slice a ts.length cap) ts) (hn : ts.length ≤ 2000000) (hb : ∀ t ∈ ts, t.name.length ≤ 2000000 ∧ t.text.length ≤ 2000000 ∧ t.attrs.length ≤ 2000000 ∧ sumA t.attrs ≤ 2000000) (h1 : okAll true ts = true) (h2 : (ts.flatMap textT).length ≤ 65536) (hne : neatL ts = true) :
    Calls Tryz.prog 4 #[.slice a ts.length cap] w fun e w' => e = .returned (.bool true) ∧ Below w.heap.size w w' := by
  have HAW : Hid (∀ W, Below w.heap.size w W → Calls Tryz.prog 8 #[] W fun e w' => e = .returned (.bool true) ∧ Below w.heap.size w w') := Lib.hid (fun W hb => (awake3_any W (hm.below hb hm.size)).mono (fun e w' r => ⟨r.1, th hb (Nat.le_refl _) r.2⟩))
  have HFE : Hid (∀ W, Below w.heap.size w W → Calls Tryz.prog 16 #[.slice a ts.length cap] W fun e w' => SomeB e ∧ Below W.heap.size W w') := Lib.hid (fun W hb' => few_any a cap ts.length ts W rfl (hv.below hb' (Nat.le_refl _)) hn (fun t ht => (hb t ht).2.2.1))
  have HNT : Hid (∀ W, Below w.heap.size w W → Calls Tryz.prog 17 #[.slice a ts.length cap] W fun e w' => e = .returned (.bool true) ∧ Below W.heap.size W w') := Lib.hid (fun W hb' => (neat_any a cap ts.length ts W rfl (hv.below hb' (Nat.le_refl _)) hn).mono (fun e w' r => ⟨by rw [r.1, hne], r.2⟩))
  obtain ⟨FL, hFL⟩ : ∃ FL, (ts.flatMap textT).length = FL := ⟨_, rfl⟩
  have hFL2 : FL ≤ 65536 := by omega
  have HWR : Hid (Calls Tryz.prog 15 #[.slice a ts.length cap] w fun e w' => ∃ a5 c5, e = .returned (.tuple #[.slice a5 FL c5, .int .i64 0]) ∧ Below w.heap.size w w' ∧ Byt w' a5 FL c5 (ints (ts.flatMap textT))) := Lib.hid ((twrite_any a cap ts w hm hv hn hb).mono (by
    rintro e w' ⟨hb', ⟨_, _, a5, c5, he, ho⟩ | ⟨hno, _⟩⟩
    · rw [hFL] at he ho
      exact ⟨a5, c5, he, hb', own_byt ho (by omega)⟩
    · exact absurd ⟨h1, h2⟩ hno))
  have h3 := again_plain h1 hne h2
  have hsh : ts.length ≤ 65536 := by
    obtain ⟨e1, e2, e3, _⟩ := allT_ok h3
    have e4 := all_short3 (lines_whole e1) (lines_no13 _) e2
    have e5 := lines_len (ts.flatMap textT)
    omega
  have HA2 : Hid (∀ W a5 c5, Below w.heap.size w W → Byt W a5 FL c5 (ints (ts.flatMap textT)) → Calls Tryz.prog 9 #[.slice a5 FL c5] W fun e w' => ∃ a1 c1, e = .returned (.tuple #[.slice a1 ts.length c1, .int .i64 0, .int .i64 0]) ∧ Below W.heap.size W w' ∧ TokAt w' (.slice a1 ts.length c1) ts) := Lib.hid (fun W a5 c5 hb' hz5 => tall_ok a5 FL c5 _ W (hm.below hb' hm.size) hz5 h3)
  have HFW : Hid (∀ t ∈ ts, t.attrs.length ≤ 100000) := Lib.hid (fun t ht => by
    obtain ⟨g, hg⟩ := okAll_mem h1 t ht
    obtain ⟨_, _, s3, _⟩ := tok_small hg (neat_mem hne t ht)
    have := textT_mem ht
    omega)
  have HV := Lib.hid hv
  clear hm hv hb h1 h2 h3 hne hFL hn
  go_enter Tryz.func4, Tryz.ntmps4
  go_wp2_with fail
  refine HWR.out.mono ?_
  rintro e w1 ⟨a5, c5, rfl, hb1, hby⟩
  have HB1 := Lib.hid hb1
  have HBY := Lib.hid hby
  clear hb1 hby
  go_wp2_with fail
  refine (HFE.out _ HB1.out).mono ?_
  rintro e w2 ⟨⟨b, rfl⟩, hb2⟩
  have HB2 := Lib.hid (th HB1.out (Nat.le_refl _) hb2)
  have HBY1 := Lib.hid (HBY.out.below hb2 (Nat.le_refl _))
  clear hb2
  cases b with
  | false =>
    go_wp2_with fail
    refine (HAW.out _ HB2.out).mono ?_
    rintro e wz ⟨rfl, hbz⟩
    go_wp2
    go_ret
    exact ⟨rfl, hbz⟩
  | true =>
    go_wp2_with fail
    refine (HNT.out _ HB2.out).mono ?_
    rintro e w3 ⟨rfl, hb3⟩
    have HB3 := Lib.hid (th HB2.out (Nat.le_refl _) hb3)
    have HBY2 := Lib.hid (HBY1.out.below hb3 (Nat.le_refl _))
    clear hb3
    have HBY3 := HBY2
    go_wp2_with fail
    refine (HA2.out _ _ _ HB3.out HBY3.out).mono ?_
    rintro e w4 ⟨a2, c2, rfl, hb4, hT4⟩
    have HB4 := Lib.hid (th HB3.out (Nat.le_refl _) hb4)
    have HTA4 := Lib.hid (HV.out.below HB4.out (Nat.le_refl _))
    have HTB4 := Lib.hid hT4
    clear hb4 hT4 HBY HBY1 HBY2 HBY3 HA2 HWR HNT HFE HV
    go_wp2_with fail
    obtain ⟨g1, o1, hag1, hc1⟩ := HTA4.out.cells
    obtain ⟨g2, o2, hag2, hc2⟩ := HTB4.out.cells
    have HAG1 := Lib.hid hag1
    have HAG2 := Lib.hid hag2
    have HC1 := Lib.hid hc1
    have HC2 := Lib.hid hc2
    clear hag1 hag2 hc1 hc2
    go_loopw [8] (fun i wr => ∃ k : Nat, k ≤ ts.length ∧ i = .int .i64 k ∧ Hid (Below w4.heap.size w4 wr)) (fun i _ => ts.length - (intOf i).toNat)
    case atStart => exact ⟨0, by omega, rfl, Lib.hid (Below.refl _ _)⟩
    case round =>
      obtain ⟨k, hk, rfl, HB⟩ := hrel
      by_cases hlt : k < ts.length
      · obtain rfl := HAG1.out (by omega)
        obtain rfl := HAG2.out (by omega)
        obtain ⟨x1, y1, p0, p1, p2, p3, p4, hp⟩ := HC1.out k hlt
        obtain ⟨x2, y2, q0, q1, q2, q3, q4, hq⟩ := HC2.out k hlt
        have hfk := HFW.out _ (List.getElem_mem hlt)
        have hi0 : (0 : Int) ≤ k := by omega
        have hi1 : (k : Int) < ts.length := by omega
        generalize ts[k]'hlt = t at p0 p1 p2 p3 p4 hp q0 q1 q2 q3 q4 hq hfk
        have HKEEP : Hid (∀ W, Below w4.heap.size w4 W → W.cell? ⟨g1, o1 + k * 5, none⟩ = some (.int .i64 t.kind) ∧ W.cell? ⟨g1, o1 + k * 5 + 1, none⟩ = some (.string ⟨t.name.toArray⟩) ∧ W.cell? ⟨g1, o1 + k * 5 + 2, none⟩ = some (.string ⟨t.text.toArray⟩) ∧ W.cell? ⟨g1, o1 + k * 5 + 3, none⟩ = some (.slice x1 t.attrs.length y1) ∧ W.cell? ⟨g1, o1 + k * 5 + 4, none⟩ = some (.bool t.empty) ∧ W.cell? ⟨g2, o2 + k * 5, none⟩ = some (.int .i64 t.kind) ∧ W.cell? ⟨g2, o2 + k * 5 + 1, none⟩ = some (.string ⟨t.name.toArray⟩) ∧ W.cell? ⟨g2, o2 + k * 5 + 2, none⟩ = some (.string ⟨t.text.toArray⟩) ∧ W.cell? ⟨g2, o2 + k * 5 + 3, none⟩ = some (.slice x2 t.attrs.length y2) ∧ W.cell? ⟨g2, o2 + k * 5 + 4, none⟩ = some (.bool t.empty) ∧ Hid (Below w4.heap.size w4 W)) := Lib.hid (fun W hb => by
          have up : ∀ {p : Addr} {u : Value}, w4.cell? p = some u → W.cell? p = some u := fun h => (hb.cell (block_lt_of_cell h)).trans h
          exact ⟨up p0, up p1, up p2, up p3, up p4, up q0, up q1, up q2, up q3, up q4, Lib.hid hb⟩)
        have HPL : Hid (∀ x y W, Below w4.heap.size w4 W → Calls Tryz.prog 14 #[.agg #[.int .i64 t.kind, .string ⟨t.name.toArray⟩, .string ⟨t.text.toArray⟩, .slice x t.attrs.length y, .bool t.empty]] W fun e w' => e = .returned (.agg #[.int .i64 t.kind, .string ⟨t.name.toArray⟩, .string ⟨t.text.toArray⟩, .slice x t.attrs.length y, .bool t.empty]) ∧ Below w4.heap.size w4 w') := Lib.hid (fun x y W hb => (plain_any _ _ _ x _ y _ W).mono (fun e w' r => ⟨r.1, th hb (Nat.le_refl _) r.2⟩))
        have HSM : Hid (∀ W, Below w4.heap.size w4 W → Calls Tryz.prog 13 #[.agg #[.int .i64 t.kind, .string ⟨t.name.toArray⟩, .string ⟨t.text.toArray⟩, .slice x1 t.attrs.length y1, .bool t.empty], .agg #[.int .i64 t.kind, .string ⟨t.name.toArray⟩, .string ⟨t.text.toArray⟩, .slice x2 t.attrs.length y2, .bool t.empty]] W fun e w' => e = .returned (.bool true) ∧ Below w4.heap.size w4 w') := Lib.hid (fun W hb => (same_any t t (.slice x1 t.attrs.length y1) (.slice x2 t.attrs.length y2) W (hp.below hb (Nat.le_refl _)) (hq.below hb (Nat.le_refl _)) hfk).mono (fun e w' r => ⟨by rw [r.1, same_self], th hb (Nat.le_refl _) r.2⟩))
        obtain ⟨p0, p1, p2, p3, p4, q0, q1, q2, q3, q4, _⟩ := HKEEP.out _ HB.out
        clear hp hq hfk
        go_wp2_with fail
        go_region_held3 (fun W => W.cell? ⟨g1, o1 + k * 5, none⟩ = some (.int .i64 t.kind) ∧ W.cell? ⟨g1, o1 + k * 5 + 1, none⟩ = some (.string ⟨t.name.toArray⟩) ∧ W.cell? ⟨g1, o1 + k * 5 + 2, none⟩ = some (.string ⟨t.text.toArray⟩) ∧ W.cell? ⟨g1, o1 + k * 5 + 3, none⟩ = some (.slice x1 t.attrs.length y1) ∧ W.cell? ⟨g1, o1 + k * 5 + 4, none⟩ = some (.bool t.empty) ∧ W.cell? ⟨g2, o2 + k * 5, none⟩ = some (.int .i64 t.kind) ∧ W.cell? ⟨g2, o2 + k * 5 + 1, none⟩ = some (.string ⟨t.name.toArray⟩) ∧ W.cell? ⟨g2, o2 + k * 5 + 2, none⟩ = some (.string ⟨t.text.toArray⟩) ∧ W.cell? ⟨g2, o2 + k * 5 + 3, none⟩ = some (.slice x2 t.attrs.length y2) ∧ W.cell? ⟨g2, o2 + k * 5 + 4, none⟩ = some (.bool t.empty) ∧ Hid (Below w4.heap.size w4 W)) (first | (refine HKEEP.out _ ?_; first | assumption | exact HB.out.drew | exact HB.out)) (first | (go_at_call 14; go_split_ands; refine (HPL.out _ _ _ (Hid.out (by assumption))).mono ?_; rintro e w5 ⟨rfl, hM5⟩) | (go_at_call 13; go_split_ands; refine (HSM.out _ (Hid.out (by assumption))).mono ?_; rintro e w5 ⟨rfl, hM5⟩))
        all_goals (
          clear p0 p1 p2 p3 p4 q0 q1 q2 q3 q4
          go_split_ands
          rename_i hMv
          have HBN := Lib.hid hMv.out
          go_wp2
          exact ⟨⟨k + 1, by omega, by go_num, HBN⟩, by simp [intOf]; omega⟩)
      · obtain rfl : k = ts.length := by omega
        go_wp2_with fail
        refine (HAW.out _ (th HB4.out (Nat.le_refl _) HB.out)).mono ?_
        rintro e wz ⟨rfl, hbz⟩
        go_wp2
        go_ret
        exact ⟨rfl, hbz⟩
/-- The law TokenBack. -/
theorem tlaw_back (a : Option Addr) (cap : Nat) (ts : List Tok) (w : World) (hm : LayT w) (hv : TokAt w (.slice a ts.length cap) ts) (hn : ts.length ≤ 2000000) (hb : ∀ t ∈ ts, t.name.length ≤ 2000000 ∧ t.text.length ≤ 2000000 ∧ t.attrs.length ≤ 2000000 ∧ sumA t.attrs ≤ 2000000) :
    Calls Tryz.prog 4 #[.slice a ts.length cap] w fun e w' => e = .returned (.bool true) ∧ Below w.heap.size w w' := by
  by_cases h : okAll true ts = true ∧ (ts.flatMap textT).length ≤ 65536
  · cases hne : neatL ts with
    | false => exact tback_no a cap ts w hm hv hn hb h.1 h.2 hne
    | true => exact tback_ok a cap ts w hm hv hn hb h.1 h.2 hne
  · exact tback_err a cap ts w hm hv hn hb h
end Go.Proofs.YtihijgghcecpmaaGreatDoor.U
