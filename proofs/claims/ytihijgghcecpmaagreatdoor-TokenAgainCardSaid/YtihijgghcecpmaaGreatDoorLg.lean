/- The law TokenAgain. -/
import Derived.Test.YtihijgghcecpmaaGreatDoorNt
import Derived.Test.YtihijgghcecpmaaGreatDoorWt
namespace Go.Proofs.YtihijgghcecpmaaGreatDoor.U
open Go.RowKit Go.Shelf

theorem flat_sum : ∀ al : List (List UInt8 × List UInt8), sumA al ≤ (al.flatMap attrT).length := by
  intro al
  induction al with
  | nil => simp [sumA]
  | cons c t ih =>
    have h1 := attrT_len c
    have h2 := (escL_len true c.2).1
    unfold sumA at *
    simp only [List.flatMap_cons, List.length_append, List.map_cons, List.sum_cons]
    omega
/-- A piece that may be written is no longer than what is written of it. -/
theorem tok_small {f : Bool} {t : Tok} (ok : okT f t = true) (pl : plainT t = true) : t.name.length ≤ (textT t).length + 5 ∧ t.text.length ≤ (textT t).length + 5 ∧ t.attrs.length ≤ (textT t).length + 5 ∧ sumA t.attrs ≤ (textT t).length + 5 := by
  have hk := okT_kind ok
  have hd : t.kind = 1 → t.text.length ≤ 5 := fun h => by
    rcases (okT_decl h ok).2 with h1 | h1 <;> rw [h1] <;> simp [sUtf]
  clear ok
  obtain ⟨k, n, x, al, em⟩ := t
  simp only at hk hd
  unfold plainT at pl
  have h4 := (escL_len false x).1
  have h5 := flat_ge al
  have h6 := flat_sum al
  rcases hk with rfl | rfl | rfl | rfl | rfl
  · simp at pl
    obtain ⟨rfl, rfl, rfl⟩ := pl
    have := hd rfl
    refine ⟨by simp, by simp only; omega, by simp, by simp [sumA]⟩
  · simp at pl
    subst pl
    rw [show textT ⟨2, n, [], al, em⟩ = 60 :: (n ++ al.flatMap attrT ++ (if em = true then [47, 62] else [62])) from rfl]
    simp only [List.length_cons, List.length_append, List.length_nil]
    refine ⟨by omega, by omega, by omega, by omega⟩
  · simp at pl
    obtain ⟨rfl, rfl, rfl⟩ := pl
    rw [show textT ⟨3, n, [], [], false⟩ = 60 :: 47 :: (n ++ [62]) from rfl]
    simp only [List.length_cons, List.length_append, List.length_nil]
    refine ⟨by omega, by omega, by omega, by simp [sumA]⟩
  · simp at pl
    obtain ⟨⟨rfl, rfl, rfl⟩, _⟩ := pl
    rw [show textT ⟨4, [], x, [], false⟩ = escL false x from rfl]
    refine ⟨by simp, by simp only; omega, by simp, by simp [sumA]⟩
  · simp at pl
    obtain ⟨rfl, rfl, rfl⟩ := pl
    rw [show textT ⟨5, [], x, [], false⟩ = sCom ++ x ++ [45, 45, 62] from rfl]
    simp only [List.length_append]
    refine ⟨by simp, by omega, by simp, by simp [sumA]⟩
theorem okAll_mem : ∀ {ts : List Tok} {f : Bool}, okAll f ts = true → ∀ t ∈ ts, ∃ g, okT g t = true := by
  intro ts
  induction ts with
  | nil => intro f _ t ht; cases ht
  | cons c r ih =>
    intro f h t ht
    simp only [okAll, Bool.and_eq_true] at h
    rcases List.mem_cons.1 ht with rfl | ht
    · exact ⟨_, h.1⟩
    · exact ih h.2 t ht
theorem neat_mem : ∀ {ts : List Tok}, neatL ts = true → ∀ t ∈ ts, plainT t = true := by
  intro ts
  induction ts with
  | nil => intro _ t ht; cases ht
  | cons c r ih =>
    intro h t ht
    simp only [neatL, Bool.and_eq_true] at h
    rcases List.mem_cons.1 ht with rfl | ht
    · exact h.1.1
    · exact ih h.2 t ht
/-- What Write says of pieces is what All tells again. -/
theorem again_plain {ts : List Tok} (hok : okAll true ts = true) (hne : neatL ts = true) (hl : (ts.flatMap textT).length ≤ 65536) : allT (ts.flatMap textT) = .ok ts := by
  obtain ⟨h1, h2, h3⟩ := write_back ts hok hne
  have h4 : chkC (ints (ts.flatMap textT)) = (ts.flatMap textT).length := h1
  exact (allT_whole (by omega) (by omega)).1 _ (by rw [h2]; exact h3)
theorem allT_place {l : List UInt8} {p : Nat} {z : Int} (hl : l.length ≤ 65536) (h : allT l = .error (p, z)) : p ≤ l.length := by
  unfold allT at h
  rw [if_neg (by omega)] at h
  split at h
  · rename_i h1
    cases h
    omega
  · rename_i h1
    have h2 := chkC_le (ints l)
    rw [ints_len] at h2
    have hw : Whole l := show chkC (ints l) = l.length by omega
    cases h3 : allL3 (linesL l) with
    | ok us => rw [h3] at h; cases h
    | error q =>
      rw [h3] at h
      have h4 := ((all_ok _ 0 [] (linesL l) (lines_whole hw) (lines_no13 l) (Nat.le_refl _)).2 q h3).2
      have h5 := lines_len l
      simp only [Except.error.injEq, Prod.mk.injEq] at h
      omega

set_option maxHeartbeats 4000000 in
theorem tagain_far (a : Option Addr) (len cap : Nat) (w : World) (hm : LayT w) (hbig : 600 < len) :
    Calls Tryz.prog 5 #[.slice a len cap] w fun e w' => e = .returned (.bool true) ∧ Below w.heap.size w w' := by
  have HAW : Hid (∀ W, Below w.heap.size w W → Calls Tryz.prog 8 #[] W fun e w' => e = .returned (.bool true) ∧ Below w.heap.size w w') := Lib.hid (fun W hb => (awake3_any W (hm.below hb hm.size)).mono (fun e w' r => ⟨r.1, th hb (Nat.le_refl _) r.2⟩))
  clear hm
  go_enter Tryz.func5, Tryz.ntmps5
  go_wp2_with fail
  refine (HAW.out _ (Below.refl _ _)).mono ?_
  rintro e wz ⟨rfl, hbz⟩
  go_wp2
  go_ret
  exact ⟨rfl, hbz⟩
set_option maxHeartbeats 4000000 in
set_option maxRecDepth 20000 in
theorem tagain_err (a : Option Addr) (len cap : Nat) (l : List UInt8) (w : World) (hm : LayT w) (hz : Byt w a len cap (ints l)) (hbig : ¬ 600 < len) {p : Nat} {z : Int} (h1 : allT l = .error (p, z)) :
    Calls Tryz.prog 5 #[.slice a len cap] w fun e w' => e = .returned (.bool true) ∧ Below w.heap.size w w' := by
  have hlim := hz.lim
  have hlen : l.length = len := by rw [← ints_len]; exact hz.eqLen
  have HAW : Hid (∀ W, Below w.heap.size w W → Calls Tryz.prog 8 #[] W fun e w' => e = .returned (.bool true) ∧ Below w.heap.size w w') := Lib.hid (fun W hb => (awake3_any W (hm.below hb hm.size)).mono (fun e w' r => ⟨r.1, th hb (Nat.le_refl _) r.2⟩))
  have HA : Hid (Calls Tryz.prog 9 #[.slice a len cap] w fun e w' => e = .returned (.tuple #[.slice none 0 0, .int .i64 p, .int .i64 z]) ∧ Below w.heap.size w w') := Lib.hid (tall_err a len cap l w hm hz h1)
  have hz2 := allT_nz h1
  have hpl := allT_place (by omega) h1
  have hp0 : (0 : Int) ≤ (p : Int) := by omega
  have hp1 : (p : Int) ≤ (len : Int) := by omega
  clear hm hz h1 hlen hpl
  go_enter Tryz.func5, Tryz.ntmps5
  go_wp2_with fail
  refine HA.out.mono ?_
  rintro e w1 ⟨rfl, hb1⟩
  have HB1 := Lib.hid hb1
  clear hb1
  go_wp2_with fail
  refine (HAW.out _ HB1.out).mono ?_
  rintro e wz ⟨rfl, hbz⟩
  go_wp2
  go_ret
  exact ⟨rfl, hbz⟩
set_option maxHeartbeats 4000000 in
set_option maxRecDepth 20000 in
theorem tagain_no (a : Option Addr) (len cap : Nat) (l : List UInt8) (w : World) (hm : LayT w) (hz : Byt w a len cap (ints l)) (hbig : ¬ 600 < len) {ts : List Tok} (h1 : allT l = .ok ts) (hne : neatL ts = false) :
    Calls Tryz.prog 5 #[.slice a len cap] w fun e w' => e = .returned (.bool true) ∧ Below w.heap.size w w' := by
  have hlim := hz.lim
  have hlen : l.length = len := by rw [← ints_len]; exact hz.eqLen
  have HAW : Hid (∀ W, Below w.heap.size w W → Calls Tryz.prog 8 #[] W fun e w' => e = .returned (.bool true) ∧ Below w.heap.size w w') := Lib.hid (fun W hb => (awake3_any W (hm.below hb hm.size)).mono (fun e w' r => ⟨r.1, th hb (Nat.le_refl _) r.2⟩))
  have HA : Hid (Calls Tryz.prog 9 #[.slice a len cap] w fun e w' => ∃ a1 c1, e = .returned (.tuple #[.slice a1 ts.length c1, .int .i64 0, .int .i64 0]) ∧ Below w.heap.size w w' ∧ TokAt w' (.slice a1 ts.length c1) ts) := Lib.hid (tall_ok a len cap l w hm hz h1)
  obtain ⟨wl, rl, _, _⟩ := allT_ok h1
  have hwl := lines_whole wl
  have h13 := lines_no13 l
  have hll := lines_len l
  have hsh := all_short3 hwl h13 rl
  have HNT : Hid (∀ W a1 c1, TokAt W (.slice a1 ts.length c1) ts → Calls Tryz.prog 17 #[.slice a1 ts.length c1] W fun e w' => e = .returned (.bool false) ∧ Below W.heap.size W w') := Lib.hid (fun W a1 c1 hv => (neat_any a1 c1 ts.length ts W rfl hv (by omega)).mono (fun e w' r => ⟨by rw [r.1, hne], r.2⟩))
  clear hm hz h1 hlen hne wl rl hwl h13 hll hsh
  go_enter Tryz.func5, Tryz.ntmps5
  go_wp2_with fail
  refine HA.out.mono ?_
  rintro e w1 ⟨a1, c1, rfl, hb1, hT1⟩
  have HB1 := Lib.hid hb1
  have HT1 := Lib.hid hT1
  clear hb1 hT1
  go_wp2_with fail
  refine (HNT.out _ _ _ HT1.out).mono ?_
  rintro e w2 ⟨rfl, hb2⟩
  have HB2 := Lib.hid (th HB1.out (Nat.le_refl _) hb2)
  have HT2 := Lib.hid (HT1.out.below hb2 (Nat.le_refl _))
  clear hb2 HT1
  go_wp2_with fail
  refine (HAW.out _ HB2.out).mono ?_
  rintro e wz ⟨rfl, hbz⟩
  go_wp2
  go_ret
  exact ⟨rfl, hbz⟩
set_option maxHeartbeats 4000000 in
set_option maxRecDepth 20000 in
theorem tagain_ok (a : Option Addr) (len cap : Nat) (l : List UInt8) (w : World) (hm : LayT w) (hz : Byt w a len cap (ints l)) (hbig : ¬ 600 < len) {ts : List Tok} (h1 : allT l = .ok ts) (hne : neatL ts = true) :
    Calls Tryz.prog 5 #[.slice a len cap] w fun e w' => e = .returned (.bool true) ∧ Below w.heap.size w w' := by
  have hlim := hz.lim
  have hlen : l.length = len := by rw [← ints_len]; exact hz.eqLen
  have HAW : Hid (∀ W, Below w.heap.size w W → Calls Tryz.prog 8 #[] W fun e w' => e = .returned (.bool true) ∧ Below w.heap.size w w') := Lib.hid (fun W hb => (awake3_any W (hm.below hb hm.size)).mono (fun e w' r => ⟨r.1, th hb (Nat.le_refl _) r.2⟩))
  have HA : Hid (Calls Tryz.prog 9 #[.slice a len cap] w fun e w' => ∃ a1 c1, e = .returned (.tuple #[.slice a1 ts.length c1, .int .i64 0, .int .i64 0]) ∧ Below w.heap.size w w' ∧ TokAt w' (.slice a1 ts.length c1) ts) := Lib.hid (tall_ok a len cap l w hm hz h1)
  obtain ⟨wl, rl, _, _⟩ := allT_ok h1
  have hwl := lines_whole wl
  have h13 := lines_no13 l
  have hll := lines_len l
  have hsh := all_short3 hwl h13 rl
  have HNT : Hid (∀ W a1 c1, TokAt W (.slice a1 ts.length c1) ts → Calls Tryz.prog 17 #[.slice a1 ts.length c1] W fun e w' => e = .returned (.bool true) ∧ Below W.heap.size W w') := Lib.hid (fun W a1 c1 hv => (neat_any a1 c1 ts.length ts W rfl hv (by omega)).mono (fun e w' r => ⟨by rw [r.1, hne], r.2⟩))
  obtain ⟨hf1, hf2, hf3⟩ := all_few hwl h13 rl
  have h2 := again_plain hf2 hne (by omega)
  have hsm : ∀ t ∈ ts, t.name.length ≤ 2000000 ∧ t.text.length ≤ 2000000 ∧ t.attrs.length ≤ 2000000 ∧ sumA t.attrs ≤ 2000000 := fun t ht => by
    obtain ⟨g, hg⟩ := okAll_mem hf2 t ht
    obtain ⟨s1, s2, s3, s4⟩ := tok_small hg (neat_mem hne t ht)
    have := textT_mem ht
    omega
  obtain ⟨FL, hFL⟩ : ∃ FL, (ts.flatMap textT).length = FL := ⟨_, rfl⟩
  have hFL2 : FL ≤ 65536 := by omega
  have HWR : Hid (∀ W a1 c1, Below w.heap.size w W → TokAt W (.slice a1 ts.length c1) ts → Calls Tryz.prog 15 #[.slice a1 ts.length c1] W fun e w' => ∃ a5 c5, e = .returned (.tuple #[.slice a5 FL c5, .int .i64 0]) ∧ Below W.heap.size W w' ∧ Byt w' a5 FL c5 (ints (ts.flatMap textT))) := Lib.hid (fun W a1 c1 hb hv => (twrite_any a1 c1 ts W (hm.below hb hm.size) hv (by omega) hsm).mono (by
    rintro e w' ⟨hb', ⟨_, _, a5, c5, he, ho⟩ | ⟨hno, _⟩⟩
    · rw [hFL] at he ho
      exact ⟨a5, c5, he, hb', own_byt ho (by omega)⟩
    · exact absurd ⟨hf2, by omega⟩ hno))
  have HA2 : Hid (∀ W a5 c5, Below w.heap.size w W → Byt W a5 FL c5 (ints (ts.flatMap textT)) → Calls Tryz.prog 9 #[.slice a5 FL c5] W fun e w' => ∃ a1 c1, e = .returned (.tuple #[.slice a1 ts.length c1, .int .i64 0, .int .i64 0]) ∧ Below W.heap.size W w' ∧ TokAt w' (.slice a1 ts.length c1) ts) := Lib.hid (fun W a5 c5 hb hz5 => tall_ok a5 FL c5 _ W (hm.below hb hm.size) hz5 h2)
  have HFW : Hid (∀ t ∈ ts, t.attrs.length ≤ 100000) := Lib.hid (fun t ht => by have := hf1 t ht; omega)
  have hfl : ts.length ≤ 100000 := by omega
  clear hm hz h1 hlen hne wl rl hwl h13 hll hsh hf1 hf2 hf3 h2 hsm hFL
  go_enter Tryz.func5, Tryz.ntmps5
  go_wp2_with fail
  refine HA.out.mono ?_
  rintro e w1 ⟨a1, c1, rfl, hb1, hT1⟩
  have HB1 := Lib.hid hb1
  have HT1 := Lib.hid hT1
  clear hb1 hT1
  go_wp2_with fail
  refine (HNT.out _ _ _ HT1.out).mono ?_
  rintro e w2 ⟨rfl, hb2⟩
  have HB2 := Lib.hid (th HB1.out (Nat.le_refl _) hb2)
  have HT2 := Lib.hid (HT1.out.below hb2 (Nat.le_refl _))
  clear hb2 HT1
  go_wp2_with fail
  refine (HWR.out _ _ _ HB2.out HT2.out).mono ?_
  rintro e w3 ⟨a5, c5, rfl, hb3, hby⟩
  have HB3 := Lib.hid (th HB2.out (Nat.le_refl _) hb3)
  have HT3 := Lib.hid (HT2.out.below hb3 (Nat.le_refl _))
  have HBY := Lib.hid hby
  clear hb3 hby HT2
  go_wp2_with fail
  refine (HA2.out _ _ _ HB3.out HBY.out).mono ?_
  rintro e w4 ⟨a2, c2, rfl, hb4, hT4⟩
  have HB4 := Lib.hid (th HB3.out (Nat.le_refl _) hb4)
  have HTA4 := Lib.hid (HT3.out.below hb4 (Nat.le_refl _))
  have HTB4 := Lib.hid hT4
  clear hb4 hT4 HT3 HBY HA HA2 HWR HNT
  go_wp2_with fail
  obtain ⟨g1, o1, hag1, hc1⟩ := HTA4.out.cells
  obtain ⟨g2, o2, hag2, hc2⟩ := HTB4.out.cells
  have HAG1 := Lib.hid hag1
  have HAG2 := Lib.hid hag2
  have HC1 := Lib.hid hc1
  have HC2 := Lib.hid hc2
  clear hag1 hag2 hc1 hc2
  go_loopw [11] (fun i wr => ∃ k : Nat, k ≤ ts.length ∧ i = .int .i64 k ∧ Hid (Below w4.heap.size w4 wr)) (fun i _ => ts.length - (intOf i).toNat)
  case atStart => exact ⟨0, by omega, rfl, Lib.hid (Below.refl _ _)⟩
  case round =>
    obtain ⟨k, hk, rfl, HB⟩ := hrel
    by_cases hlt : k < ts.length
    · obtain rfl := HAG1.out (by omega)
      obtain rfl := HAG2.out (by omega)
      obtain ⟨x1, y1, p0, p1, p2, p3, p4, hp⟩ := HC1.out k hlt
      obtain ⟨x2, y2, q0, q1, q2, q3, q4, hq⟩ := HC2.out k hlt
      have hfk := HFW.out _ (List.getElem_mem hlt)
      have hi0 : (0 : Int) ≤ k := by omega
      have hi1 : (k : Int) < ts.length := by omega
      generalize ts[k]'hlt = t at p0 p1 p2 p3 p4 hp q0 q1 q2 q3 q4 hq hfk
      have HKEEP : Hid (∀ W, Below w4.heap.size w4 W → W.cell? ⟨g1, o1 + k * 5, none⟩ = some (.int .i64 t.kind) ∧ W.cell? ⟨g1, o1 + k * 5 + 1, none⟩ = some (.string ⟨t.name.toArray⟩) ∧ W.cell? ⟨g1, o1 + k * 5 + 2, none⟩ = some (.string ⟨t.text.toArray⟩) ∧ W.cell? ⟨g1, o1 + k * 5 + 3, none⟩ = some (.slice x1 t.attrs.length y1) ∧ W.cell? ⟨g1, o1 + k * 5 + 4, none⟩ = some (.bool t.empty) ∧ W.cell? ⟨g2, o2 + k * 5, none⟩ = some (.int .i64 t.kind) ∧ W.cell? ⟨g2, o2 + k * 5 + 1, none⟩ = some (.string ⟨t.name.toArray⟩) ∧ W.cell? ⟨g2, o2 + k * 5 + 2, none⟩ = some (.string ⟨t.text.toArray⟩) ∧ W.cell? ⟨g2, o2 + k * 5 + 3, none⟩ = some (.slice x2 t.attrs.length y2) ∧ W.cell? ⟨g2, o2 + k * 5 + 4, none⟩ = some (.bool t.empty) ∧ Hid (Below w4.heap.size w4 W)) := Lib.hid (fun W hb => by
        have up : ∀ {p : Addr} {u : Value}, w4.cell? p = some u → W.cell? p = some u := fun h => (hb.cell (block_lt_of_cell h)).trans h
        exact ⟨up p0, up p1, up p2, up p3, up p4, up q0, up q1, up q2, up q3, up q4, Lib.hid hb⟩)
      have HPL : Hid (∀ x y W, Below w4.heap.size w4 W → Calls Tryz.prog 14 #[.agg #[.int .i64 t.kind, .string ⟨t.name.toArray⟩, .string ⟨t.text.toArray⟩, .slice x t.attrs.length y, .bool t.empty]] W fun e w' => e = .returned (.agg #[.int .i64 t.kind, .string ⟨t.name.toArray⟩, .string ⟨t.text.toArray⟩, .slice x t.attrs.length y, .bool t.empty]) ∧ Below w4.heap.size w4 w') := Lib.hid (fun x y W hb => (plain_any _ _ _ x _ y _ W).mono (fun e w' r => ⟨r.1, th hb (Nat.le_refl _) r.2⟩))
      have HSM : Hid (∀ W, Below w4.heap.size w4 W → Calls Tryz.prog 13 #[.agg #[.int .i64 t.kind, .string ⟨t.name.toArray⟩, .string ⟨t.text.toArray⟩, .slice x1 t.attrs.length y1, .bool t.empty], .agg #[.int .i64 t.kind, .string ⟨t.name.toArray⟩, .string ⟨t.text.toArray⟩, .slice x2 t.attrs.length y2, .bool t.empty]] W fun e w' => e = .returned (.bool true) ∧ Below w4.heap.size w4 w') := Lib.hid (fun W hb => (same_any t t (.slice x1 t.attrs.length y1) (.slice x2 t.attrs.length y2) W (hp.below hb (Nat.le_refl _)) (hq.below hb (Nat.le_refl _)) hfk).mono (fun e w' r => ⟨by rw [r.1, same_self], th hb (Nat.le_refl _) r.2⟩))
      obtain ⟨p0, p1, p2, p3, p4, q0, q1, q2, q3, q4, _⟩ := HKEEP.out _ HB.out
      clear hp hq hfk
      go_wp2_with fail
      go_region_held3 (fun W => W.cell? ⟨g1, o1 + k * 5, none⟩ = some (.int .i64 t.kind) ∧ W.cell? ⟨g1, o1 + k * 5 + 1, none⟩ = some (.string ⟨t.name.toArray⟩) ∧ W.cell? ⟨g1, o1 + k * 5 + 2, none⟩ = some (.string ⟨t.text.toArray⟩) ∧ W.cell? ⟨g1, o1 + k * 5 + 3, none⟩ = some (.slice x1 t.attrs.length y1) ∧ W.cell? ⟨g1, o1 + k * 5 + 4, none⟩ = some (.bool t.empty) ∧ W.cell? ⟨g2, o2 + k * 5, none⟩ = some (.int .i64 t.kind) ∧ W.cell? ⟨g2, o2 + k * 5 + 1, none⟩ = some (.string ⟨t.name.toArray⟩) ∧ W.cell? ⟨g2, o2 + k * 5 + 2, none⟩ = some (.string ⟨t.text.toArray⟩) ∧ W.cell? ⟨g2, o2 + k * 5 + 3, none⟩ = some (.slice x2 t.attrs.length y2) ∧ W.cell? ⟨g2, o2 + k * 5 + 4, none⟩ = some (.bool t.empty) ∧ Hid (Below w4.heap.size w4 W)) (first | (refine HKEEP.out _ ?_; first | assumption | exact HB.out.drew | exact HB.out)) (first | (go_at_call 14; go_split_ands; refine (HPL.out _ _ _ (Hid.out (by assumption))).mono ?_; rintro e w5 ⟨rfl, hM5⟩) | (go_at_call 13; go_split_ands; refine (HSM.out _ (Hid.out (by assumption))).mono ?_; rintro e w5 ⟨rfl, hM5⟩))
      all_goals (
        clear p0 p1 p2 p3 p4 q0 q1 q2 q3 q4
        go_split_ands
        rename_i hMv
        have HBN := Lib.hid hMv.out
        go_wp2
        exact ⟨⟨k + 1, by omega, by go_num, HBN⟩, by simp [intOf]; omega⟩)
    · obtain rfl : k = ts.length := by omega
      go_wp2_with fail
      refine (HAW.out _ (th HB4.out (Nat.le_refl _) HB.out)).mono ?_
      rintro e wz ⟨rfl, hbz⟩
      go_wp2
      go_ret
      exact ⟨rfl, hbz⟩
/-- The law TokenAgain. -/
theorem tlaw_again (a : Option Addr) (len cap : Nat) (l : List UInt8) (w : World) (hm : LayT w) (hz : Byt w a len cap (ints l)) :
    Calls Tryz.prog 5 #[.slice a len cap] w fun e w' => e = .returned (.bool true) ∧ Below w.heap.size w w' := by
  by_cases hbig : 600 < len
  · exact tagain_far a len cap w hm hbig
  cases h1 : allT l with
  | error x => exact tagain_err a len cap l w hm hz hbig (p := x.1) (z := x.2) h1
  | ok ts =>
    cases hne : neatL ts with
    | false => exact tagain_no a len cap l w hm hz hbig h1 hne
    | true => exact tagain_ok a len cap l w hm hz hbig h1 hne
end Go.Proofs.YtihijgghcecpmaaGreatDoor.U
