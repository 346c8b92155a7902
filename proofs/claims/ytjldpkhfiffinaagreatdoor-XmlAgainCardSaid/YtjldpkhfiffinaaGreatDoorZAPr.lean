/- The law XmlAgain holds: at every list of bytes it returns true and leaves what it was given as it was. Conditions: the listed package variables (the tables of package utf, the library's errors and tables) start as the program's text lays them, one of Go's own tables as it is pinned by name (the card ties them). -/
import Derived.Test.YtjldpkhfiffinaaGreatDoorZA23
import Derived.Test.YtjldpkhfiffinaaGreatDoorZA04
import Derived.Deep.RegionHeld3
import Derived.Test.YtjldpkhfiffinaaGreatDoorZA09
import Derived.Shelf.Vars
import Derived.HandedShaped
import Derived.Lay
import Derived.Stop.LaidErr
import Derived.ProofKit
import Derived.LaidMore
import Derived.OpenShut
import Derived.Stop.Joined
import Derived.Deep.Strs
import Derived.ShutString
import Derived.ChangeOld
import Derived.Test.YtjldpkhfiffinaaGreatDoorCards
import Derived.Test.YtjldpkhfiffinaaGreatDoorTie
import Derived.ChangeMaps5
namespace Go.Proofs.YtjldpkhfiffinaaGreatDoor.U
open Go.RowKit Go.Shelf
/-- What the call owns lies at the beginning of a block. -/
theorem own_at0 {w : World} {base n size : Nat} {e : TypeId} {a : Option Addr} {c : Nat} {xs : List Value} (h : w.ownsRow base e size (.slice a n c) n xs) (h0 : 0 < n) : ∃ g, a = some ⟨g, 0, none⟩ ∧ n ≤ c ∧ ∀ j u, xs[j]? = some u → w.cell? ⟨g, j, none⟩ = some u := by
  rcases h.2 with ⟨_, h1⟩ | ⟨g, cap, cur, hv, hr⟩
  · omega
  · injection hv with e1 e2 e3
    subst e1 e3
    refine ⟨g, rfl, hr.2.2.1, fun j u hu => ?_⟩
    have := h.cells rfl j u hu
    have e2 : (⟨g, 0, none⟩ : Addr).add j = ⟨g, j, none⟩ := by unfold Addr.add; split <;> simp_all
    rw [e2] at this
    exact this
theorem ints_byte (l : List UInt8) : ∀ z ∈ ints l, 0 ≤ z ∧ z ≤ 255 := by
  intro z hz
  unfold ints at hz
  obtain ⟨b, _, rfl⟩ := List.mem_map.1 hz
  have := UInt8.toNat_lt b
  omega
theorem own_byt {w : World} {base n c : Nat} {a : Option Addr} {l : List UInt8} (h : w.ownsRow base 5 1 (.slice a n c) n (Lib.byteCells l)) (hn : n ≤ 140737488351232) : Byt w a n c (ints l) := by
  have hl : l.length = n := by have := h.1; rw [Lib.byteCells_length] at this; omega
  by_cases h0 : 0 < n
  · obtain ⟨g, rfl, hc, hx⟩ := own_at0 h h0
    refine ⟨by rw [ints_len]; exact hl, hc, hn, ints_byte l, fun _ => ⟨g, 0, rfl, fun i hi => ?_⟩⟩
    rw [Nat.zero_add]
    refine hx i _ ?_
    unfold Lib.byteCells ints
    rw [List.getElem?_map, List.getElem?_map, List.getElem?_eq_getElem (by omega)]
    rfl
  · exact ⟨by rw [ints_len]; exact hl, by omega, hn, ints_byte l, fun h1 => absurd h1 h0⟩
set_option maxHeartbeats 1000000 in
theorem bytes_yes (a b : Option Addr) (len ca cb : Nat) (zs : List Int) (w : World) (ha : Byt w a len ca zs) (hb : Byt w b len cb zs) :
    Calls Tryz.prog 26 #[.slice a len ca, .slice b len cb] w fun e w' => e = .returned (.bool true) ∧ Below w.heap.size w w' := by
  have hlim := ha.lim
  have hne : ((len : Int) != len) = false := by simp
  by_cases h0 : len = 0
  · subst h0
    clear ha hb
    go_enter Tryz.func26, Tryz.ntmps26
    go_wp2_with fail
    refine wp_loop_rounds 1 ?_
    rw [rounds_succ]
    go_wp2
    go_ret
    exact ⟨rfl, Below.refl _ _⟩
  · obtain ⟨b1, o1, rfl, hc1⟩ := ha.cells (by omega)
    obtain ⟨b2, o2, rfl, hc2⟩ := hb.cells (by omega)
    have hw1 : b1 < w.heap.size := by simpa using block_lt_of_cell (hc1 0 (by omega))
    have hw2 : b2 < w.heap.size := by simpa using block_lt_of_cell (hc2 0 (by omega))
    have HC1 := Lib.hid hc1
    have HC2 := Lib.hid hc2
    clear ha hb hc1 hc2
    go_enter Tryz.func26, Tryz.ntmps26
    go_wp2_with fail
    go_loopw [5] (fun i wr => ∃ k : Nat, k ≤ len ∧ i = .int .i64 k ∧ Below w.heap.size w wr)
      (fun i _ => len - (intOf i).toNat)
    case atStart => exact ⟨0, by omega, rfl, Below.refl _ _⟩
    case round =>
      obtain ⟨k, hk, rfl, hB⟩ := hrel
      by_cases hlt : k < len
      · obtain ⟨x, hx⟩ : ∃ x, x = zs[k]?.getD 0 := ⟨_, rfl⟩
        have c1 : wr.cell? ⟨b1, o1 + k, none⟩ = some (.int .u8 x) := by rw [hx]; exact (hB.cell (p := ⟨b1, o1 + k, none⟩) hw1).trans (HC1.out k hlt)
        have c2 : wr.cell? ⟨b2, o2 + k, none⟩ = some (.int .u8 x) := by rw [hx]; exact (hB.cell (p := ⟨b2, o2 + k, none⟩) hw2).trans (HC2.out k hlt)
        have hxx : (x != x) = false := by simp
        have hi0 : (0 : Int) ≤ k := by omega
        have hi1 : (k : Int) < len := by omega
        clear hx
        go_wp2_with fail
        go_quiet (fail)
        go_wp2
        exact ⟨⟨k + 1, by omega, by go_num, below_drewN hB _⟩, by simp [intOf]; omega⟩
      · obtain rfl : k = len := by omega
        go_wp2
        go_ret
        exact ⟨rfl, hB⟩
theorem allT_whole {l : List UInt8} (h1 : ¬ 65536 < l.length) (h2 : ¬ chkC (ints l) < l.length) : (∀ ts, allL3 (linesL l) = .ok ts → allT l = .ok ts) ∧ (∀ p, allL3 (linesL l) = .error p → allT l = .error (p, 12)) := by
  unfold allT
  rw [if_neg h1, if_neg h2]
  exact ⟨fun ts h => by rw [h], fun p h => by rw [h]⟩
/-- What Write says of pieces is what All tells again. -/
theorem again_plain {ts : List Tok} (hok : okAll true ts = true) (hne : neatL ts = true) (hl : (ts.flatMap textT).length ≤ 65536) : allT (ts.flatMap textT) = .ok ts := by
  obtain ⟨h1, h2, h3⟩ := write_back ts hok hne
  have h4 : chkC (ints (ts.flatMap textT)) = (ts.flatMap textT).length := h1
  exact (allT_whole (by omega) (by omega)).1 _ (by rw [h2]; exact h3)
theorem allT_place {l : List UInt8} {p : Nat} {z : Int} (hl : l.length ≤ 65536) (h : allT l = .error (p, z)) : p ≤ l.length := by
  unfold allT at h
  rw [if_neg (by omega)] at h
  split at h
  · rename_i h1
    cases h
    omega
  · rename_i h1
    have h2 := chkC_le (ints l)
    rw [ints_len] at h2
    have hw : Whole l := show chkC (ints l) = l.length by omega
    cases h3 : allL3 (linesL l) with
    | ok us => rw [h3] at h; cases h
    | error q =>
      rw [h3] at h
      have h4 := ((all_ok _ 0 [] (linesL l) (lines_whole hw) (lines_no13 l) (Nat.le_refl _)).2 q h3).2
      have h5 := lines_len l
      simp only [Except.error.injEq, Prod.mk.injEq] at h
      omega
theorem tree_err : ∀ (l : List Tok) (i : Nat) (fs : List Fr) (root : Option Tr), FsOk fs root → (∀ t ∈ l, t.kind = 2 → t.name ≠ []) → (∀ f ∈ fs, f.lb ≠ []) → ∀ j, treeA i fs root l = .error j → j ≤ i + l.length := by
  intro l
  induction l with
  | nil =>
    intro i fs root _ _ _ j hj
    cases fs with
    | cons f q => simp [treeA] at hj; simp; omega
    | nil =>
      cases root with
      | none => simp [treeA] at hj; simp; omega
      | some t => simp [treeA] at hj
  | cons t r ih =>
    intro i fs root hok hn hl j hj
    rw [stepA_tree hok] at hj
    cases hs : stepA fs root t with
    | none => rw [hs] at hj; simp at hj; simp; omega
    | some x =>
      obtain ⟨fs', root'⟩ := x
      rw [hs] at hj
      obtain ⟨g1, g2, _⟩ := stepA_ok hok (hn t (by simp)) hl hs
      have := ih (i + 1) fs' root' g1 (fun u hu => hn u (by simp [hu])) g2 j hj
      simp
      omega
/-- Where a document is none. -/
theorem parseX_place {l : List UInt8} {p : Nat} {z : Int} (hl : l.length ≤ 65536) (h : parseX l = .error (p, z)) : p ≤ l.length := by
  unfold parseX at h
  cases h1 : allT l with
  | error x =>
    rw [h1] at h
    simp only at h
    injection h with h
    subst h
    exact allT_place hl h1
  | ok ts =>
    rw [h1] at h
    simp only at h
    obtain ⟨hw, h3, _⟩ := allT_okX h1
    have hsh := all_short3 (lines_whole hw) (lines_no13 l) h3
    have hll := lines_len l
    cases h2 : treeL ts with
    | error i =>
      rw [h2] at h
      simp only [Except.error.injEq, Prod.mk.injEq] at h
      have h4 := tree_err ts 0 [] none ⟨fun h => absurd rfl h, fun f hf => by cases hf⟩ (fun t ht hk => ((allT_facts h1).2.2.2.2 t ht).1 hk |>.1) (fun f hf => by cases hf) i h2
      omega
    | ok T =>
      rw [h2] at h
      simp only at h
      split at h
      · cases h
      · simp only [Except.error.injEq, Prod.mk.injEq] at h
        omega
/-- What is read of a document, and of what is written of it. -/
theorem parse_facts {l : List UInt8} {T : Tr} (h : parseX l = .ok T) : bareA T = true ∧ trL T ≠ [] ∧ chkT T = 0 ∧ wT T ≤ 6 * l.length + 5 * l.length ∧ (textX T).length ≤ 6 * l.length := by
  obtain ⟨ts, h1, h2, h3⟩ := parseX_inv h
  obtain ⟨hw, h4, hl⟩ := allT_okX h1
  have hf := allT_facts h1
  have hn : ∀ t ∈ ts, t.kind = 2 → t.name ≠ [] := fun t ht hk => ((hf.2.2.2.2 t ht).1 hk).1
  obtain ⟨b1, b2⟩ := treeL_bare hn h2
  have hlen := treeL_len hn h2
  have hsh := all_short3 (lines_whole hw) (lines_no13 l) h4
  have hll := lines_len l
  have hww := all_w _ _ _ _ _ (fun t ht => by cases ht) h4
  have hsw := sumW_flat hww
  have hwt := treeL_w hn h2
  refine ⟨b1, ?_, h3, by have := hf.2.2.2.1; omega, by have := hf.2.2.2.1; omega⟩
  cases T with
  | node a b c d => simpa [isTx, trL] using b2
theorem again_tree {T : Tr} (h1 : bareA T = true) (h2 : trL T ≠ []) (h3 : chkT T = 0) (h4 : (textX T).length ≤ 65536) : parseX (textX T) = .ok T := by
  have hx : isTx T = false := by
    cases T with
    | node a b c d => simpa [isTx, trL] using h2
  have hc : checkS (stepsT T) = 0 := by rw [← chk_steps h1]; exact h3
  obtain ⟨d1, d2, _⟩ := doc_back hc hx
  exact parseX_ok (again_plain d1 d2 h4) (doc_tree h1 hx hc) h3
theorem sizeT_w (t : Tr) : wT t ≤ 100000 → sizeT t = true := by
  refine Tr.rec (motive_1 := fun t => wT t ≤ 100000 → sizeT t = true) (motive_2 := fun ks => wK ks ≤ 100000 → sizeK ks = true) ?_ ?_ ?_ t
  · intro lb tx al ks ih h
    simp only [wT] at h
    have h1 := wA_len al
    have h2 := wK_len ks
    simp only [sizeT, Bool.and_eq_true, decide_eq_true_eq]
    exact ⟨⟨by omega, by omega⟩, ih (by omega)⟩
  · intro _; rfl
  · intro t ks i1 i2 h
    simp only [wK] at h
    simp only [sizeK, Bool.and_eq_true]
    exact ⟨i1 (by omega), i2 (by omega)⟩
theorem none_treeX (w : World) : TreeV w (.node [] [] [] []) [.string ⟨#[]⟩, .string ⟨#[]⟩, .slice none 0 0, .slice none 0 0] := by
  rw [TreeV.eq]
  exact ⟨_, _, rfl, ⟨none, 0, rfl, Nat.le_refl _, rfl, fun h => absurd h (by simp)⟩, [], by rw [KidsV], ⟨none, 0, rfl, Nat.le_refl _, rfl, fun h => absurd h (by simp)⟩⟩
theorem none_none (w : World) : Calls Tryz.prog 11 #[.agg #[.string ⟨#[]⟩, .string ⟨#[]⟩, .slice none 0 0, .slice none 0 0]] w fun e w' => e = .returned (.bool true) ∧ Below w.heap.size w w' :=
  none_any (.node [] [] [] []) _ w rfl (none_treeX w)
end Go.Proofs.YtjldpkhfiffinaaGreatDoor.U

namespace Go.Proofs.YtjldpkhfiffinaaGreatDoor.U
open Go.RowKit Go.Shelf
set_option maxHeartbeats 4000000 in
theorem xagain_far (a : Option Addr) (len cap : Nat) (w : World) (hm : LayT w) (hbig : 600 < len) :
    Calls Tryz.prog 6 #[.slice a len cap] w fun e w' => e = .returned (.bool true) ∧ Below w.heap.size w w' := by
  have HAW : Hid (∀ W, Below w.heap.size w W → Calls Tryz.prog 8 #[] W fun e w' => e = .returned (.bool true) ∧ Below w.heap.size w w') := Lib.hid (fun W hb => (awake5_any W (hm.below hb hm.size)).mono (fun e w' r => ⟨r.1, th hb (Nat.le_refl _) r.2⟩))
  clear hm
  go_enter Tryz.func6, Tryz.ntmps6
  go_wp2_with fail
  refine (HAW.out _ (Below.refl _ _)).mono ?_
  rintro e wz ⟨rfl, hbz⟩
  go_wp2
  go_ret
  exact ⟨rfl, hbz⟩
set_option maxHeartbeats 4000000 in
set_option maxRecDepth 20000 in
theorem xagain_near (a : Option Addr) (len cap : Nat) (l : List UInt8) (w : World) (hm : LayT w) (hz : Byt w a len cap (ints l)) (hbig : ¬ 600 < len) :
    Calls Tryz.prog 6 #[.slice a len cap] w fun e w' => e = .returned (.bool true) ∧ Below w.heap.size w w' := by
  have hlen : l.length = len := by rw [← ints_len]; exact hz.eqLen
  have HAW : Hid (∀ W, Below w.heap.size w W → Calls Tryz.prog 8 #[] W fun e w' => e = .returned (.bool true) ∧ Below w.heap.size w w') := Lib.hid (fun W hb => (awake5_any W (hm.below hb hm.size)).mono (fun e w' r => ⟨r.1, th hb (Nat.le_refl _) r.2⟩))
  have HPA := Lib.hid (parse_any a len cap l w hm hz)
  have HM := Lib.hid hm
  have HLN := Lib.hid hlen
  clear hm hz hlen
  go_enter Tryz.func6, Tryz.ntmps6
  go_wp2_with fail
  refine HPA.out.mono ?_
  rintro e w1 ⟨hb1, ⟨p, z, her, hz0, rfl⟩ | ⟨T, a1, n1, c1, a2, n2, c2, hok, rfl, htr⟩⟩
  · have hpl : p ≤ len := by rw [← HLN.out]; exact parseX_place (by rw [HLN.out]; omega) her
    have hzb : (z == 0) = false := beq_eq_false_iff_ne.2 hz0
    have hp0 : (0 : Int) ≤ (p : Int) := by omega
    have hp1 : (p : Int) ≤ (len : Int) := by omega
    obtain ⟨W2, hW2⟩ : ∃ W2, W2 = w1.alloc (.cells #[.string ⟨#[]⟩, .string ⟨#[]⟩, .slice none 0 0, .slice none 0 0] 27) := ⟨_, rfl⟩
    have HB2 : Hid (Below w1.heap.size w1 W2) := Lib.hid (by rw [hW2]; exact (Below.refl _ w1).alloc (Nat.le_refl _) _)
    have HB1 := Lib.hid (th hb1 (Nat.le_refl _) HB2.out)
    have HX2 : Hid (Box4 w1.heap.size ⟨#[]⟩ ⟨#[]⟩ (.slice none 0 0) (.slice none 0 0) W2) := Lib.hid (by rw [hW2]; exact Box4.made _ _ _ _ _)
    clear hb1 her hz0 hpl
    go_upto_region 4 with fail
    rw [← hW2]
    clear hW2
    obtain ⟨x0, x1, x2, x3⟩ := HX2.out.at
    go_wp2_with fail
    refine (none_none _).mono ?_
    rintro e w3 ⟨rfl, hb3⟩
    have HB3 := Lib.hid (th HB1.out (Nat.le_refl _) hb3)
    clear hb3
    go_wp2_with fail
    refine (HAW.out _ HB3.out).mono ?_
    rintro e wz ⟨rfl, hbz⟩
    go_wp2
    go_ret
    exact ⟨rfl, hbz⟩
  · obtain ⟨f1, f2, f3, f4, f5⟩ := parse_facts hok
    rw [HLN.out] at f4 f5
    have HF1 := Lib.hid f1
    have HF2 := Lib.hid f2
    have HF3 := Lib.hid f3
    have HF4 := Lib.hid (show wT T ≤ 6600 by omega)
    have HF5 := Lib.hid (show (textX T).length ≤ 3600 by omega)
    have HAG := Lib.hid (again_tree f1 f2 f3 (by omega))
    have HTR := Lib.hid htr
    have hne := emp_iff (trL T)
    rw [decide_eq_false f2] at hne
    have hbx : bareA T = true := f1
    obtain ⟨lbb, hlbb⟩ : ∃ x : ByteArray, x = ⟨(trL T).toArray⟩ := ⟨_, rfl⟩
    obtain ⟨txb, htxb⟩ : ∃ x : ByteArray, x = ⟨(trX T).toArray⟩ := ⟨_, rfl⟩
    have HLB := Lib.hid hlbb
    have HTB := Lib.hid htxb
    rw [← hlbb] at hne
    rw [← hlbb, ← htxb] at HTR ⊢
    have HB1 := Lib.hid hb1
    have HM1 := Lib.hid (HM.out.below hb1 HM.out.size)
    clear hb1 hok f1 f2 f3 f4 f5 htr hlbb htxb hbx
    obtain ⟨W2, hW2⟩ : ∃ W2, W2 = w1.alloc (.cells #[.string lbb, .string txb, .slice a1 n1 c1, .slice a2 n2 c2] 27) := ⟨_, rfl⟩
    have HB2 : Hid (Below w1.heap.size w1 W2) := Lib.hid (by rw [hW2]; exact (Below.refl _ w1).alloc (Nat.le_refl _) _)
    have HX2 : Hid (Box4 w1.heap.size lbb txb (.slice a1 n1 c1) (.slice a2 n2 c2) W2) := Lib.hid (by rw [hW2]; exact Box4.made _ _ _ _ _)
    have HM2 := Lib.hid (HM1.out.below HB2.out HM1.out.size)
    have HT2 := Lib.hid (HTR.out.below HB2.out (Nat.le_refl _))
    have HG2 := Lib.hid (th HB1.out (Nat.le_refl _) HB2.out)
    have HW2 := Lib.hid (write_any T _ W2 HM2.out HT2.out (by have := HF4.out; omega) HF1.out)
    go_upto_region 4 with fail
    rw [← hW2]
    clear hW2
    obtain ⟨x0, x1, x2, x3⟩ := HX2.out.at
    go_wp2_with fail
    refine HW2.out.mono ?_
    rintro e w3 ⟨hb3, ⟨h1, _⟩ | ⟨_, h1, _⟩ | ⟨_, _, _, a5, c5, rfl, hrow⟩ | ⟨_, _, h1, _⟩⟩
    · exact absurd h1 HF2.out
    · exact absurd HF3.out h1
    · obtain ⟨FL, hFL⟩ : ∃ FL, FL = (textX T).length := ⟨_, rfl⟩
      rw [← hFL] at hrow ⊢
      have hbt := own_byt hrow (by have := HF5.out; omega)
      have HB3 := Lib.hid hb3
      have HG3 := Lib.hid (th HG2.out (Nat.le_refl _) hb3)
      have HM3 := Lib.hid (HM2.out.below hb3 HM2.out.size)
      have HX3 := Lib.hid (HX2.out.below hb3 (Nat.le_refl _))
      have HT3 := Lib.hid (HT2.out.below hb3 (Nat.le_refl _))
      have HBY := Lib.hid hbt
      have HFL := Lib.hid hFL
      have HP3 := Lib.hid (parse_any a5 FL c5 (textX T) w3 HM3.out HBY.out)
      clear hb3 hrow hbt hFL x0 x1 x2 x3
      go_wp2_with fail
      refine HP3.out.mono ?_
      rintro e w4 ⟨hb4, ⟨p, z, her, hz0, rfl⟩ | ⟨U, a3, n3, c3, a4, n4, c4, hok, rfl, htr⟩⟩
      · rw [HAG.out] at her; cases her
      · rw [HAG.out] at hok
        injection hok with hok
        subst hok
        rw [← HLB.out, ← HTB.out] at htr ⊢
        have HB4 := Lib.hid hb4
        have HG4 := Lib.hid (th HG3.out (Nat.le_refl _) hb4)
        have HM4 := Lib.hid (HM3.out.below hb4 HM3.out.size)
        have HX4 := Lib.hid (HX3.out.below hb4 (Nat.le_refl _))
        have HT4 := Lib.hid (HT3.out.below hb4 (Nat.le_refl _))
        have HU4 := Lib.hid htr
        have HY4 := Lib.hid (HBY.out.below hb4 (Nat.le_refl _))
        clear hb4 htr
        obtain ⟨W5, hW5⟩ : ∃ W5, W5 = w4.alloc (.cells #[.string lbb, .string txb, .slice a3 n3 c3, .slice a4 n4 c4] 27) := ⟨_, rfl⟩
        have HB5 : Hid (Below w4.heap.size w4 W5) := Lib.hid (by rw [hW5]; exact (Below.refl _ w4).alloc (Nat.le_refl _) _)
        have HY5 : Hid (Box4 w4.heap.size lbb txb (.slice a3 n3 c3) (.slice a4 n4 c4) W5) := Lib.hid (by rw [hW5]; exact Box4.made _ _ _ _ _)
        have HG5 := Lib.hid (th HG4.out (Nat.le_refl _) HB5.out)
        have HM5 := Lib.hid (HM4.out.below HB5.out HM4.out.size)
        have HX5 := Lib.hid (HX4.out.below HB5.out (Nat.le_refl _))
        have HT5 := Lib.hid (HT4.out.below HB5.out (Nat.le_refl _))
        have HU5 := Lib.hid (HU4.out.below HB5.out (Nat.le_refl _))
        have HZ5 := Lib.hid (HY4.out.below HB5.out (Nat.le_refl _))
        have HW5 := Lib.hid (write_any T _ W5 HM5.out HU5.out (by have := HF4.out; omega) HF1.out)
        go_upto_region 8 with fail
        rw [← hW5]
        clear hW5
        obtain ⟨y0, y1, y2, y3⟩ := HY5.out.at
        go_wp2_with fail
        refine HW5.out.mono ?_
        rintro e w6 ⟨hb6, ⟨h1, _⟩ | ⟨_, h1, _⟩ | ⟨_, _, _, a7, c7, rfl, hrow⟩ | ⟨_, _, h1, _⟩⟩
        · exact absurd h1 HF2.out
        · exact absurd HF3.out h1
        · rw [← HFL.out] at hrow ⊢
          have HG6 := Lib.hid (th HG5.out (Nat.le_refl _) hb6)
          have HM6 := Lib.hid (HM5.out.below hb6 HM5.out.size)
          have HX6 := Lib.hid (HX5.out.below hb6 (Nat.le_refl _))
          have HY6 := Lib.hid (HY5.out.below hb6 (Nat.le_refl _))
          have HT6 := Lib.hid (HT5.out.below hb6 (Nat.le_refl _))
          have HU6 := Lib.hid (HU5.out.below hb6 (Nat.le_refl _))
          have HZ6 := Lib.hid (HZ5.out.below hb6 (Nat.le_refl _))
          have HQ6 := Lib.hid (own_byt hrow (by have := HF5.out; have := HFL.out; omega))
          have HCK := Lib.hid (checkT_any T _ w6 HM6.out.lay.lay HT6.out (fitT_w (by have := HF4.out; omega)))
          rw [HF3.out] at HCK
          clear hb6 hrow y0 y1 y2 y3
          obtain ⟨x0, x1, x2, x3⟩ := HX6.out.at
          go_wp2_with fail
          refine HCK.out.mono ?_
          rintro e w7 ⟨rfl, hb7⟩
          have HG7 := Lib.hid (th HG6.out (Nat.le_refl _) hb7)
          have HX7 := Lib.hid (HX6.out.below hb7 (Nat.le_refl _))
          have HY7 := Lib.hid (HY6.out.below hb7 (Nat.le_refl _))
          have HT7 := Lib.hid (HT6.out.below hb7 (Nat.le_refl _))
          have HU7 := Lib.hid (HU6.out.below hb7 (Nat.le_refl _))
          have HZ7 := Lib.hid (HZ6.out.below hb7 (Nat.le_refl _))
          have HQ7 := Lib.hid (HQ6.out.below hb7 (Nat.le_refl _))
          have HSA := Lib.hid (sameTr_any T (sizeT_w T (by have := HF4.out; omega)) T _ _ w7 HT7.out HU7.out)
          rw [eqT_self] at HSA
          clear hb7 x0 x1 x2 x3
          obtain ⟨x0, x1, x2, x3⟩ := HX7.out.at
          obtain ⟨y0, y1, y2, y3⟩ := HY7.out.at
          go_wp2_with fail
          refine HSA.out.mono ?_
          rintro e w8 ⟨rfl, hb8⟩
          have HG8 := Lib.hid (th HG7.out (Nat.le_refl _) hb8)
          have HBB := Lib.hid (bytes_yes a5 a7 FL c5 c7 (ints (textX T)) w8 (HZ7.out.below hb8 (Nat.le_refl _)) (HQ7.out.below hb8 (Nat.le_refl _)))
          clear hb8 x0 x1 x2 x3 y0 y1 y2 y3
          go_wp2_with fail
          refine HBB.out.mono ?_
          rintro e w9 ⟨rfl, hb9⟩
          have HG9 := Lib.hid (th HG8.out (Nat.le_refl _) hb9)
          clear hb9
          go_wp2_with fail
          refine (HAW.out _ HG9.out).mono ?_
          rintro e wz ⟨rfl, hbz⟩
          go_wp2
          go_ret
          exact ⟨rfl, hbz⟩
        · have := HF5.out; omega
    · have := HF5.out; omega
theorem xagain_any (a : Option Addr) (len cap : Nat) (l : List UInt8) (w : World) (hm : LayT w) (hz : Byt w a len cap (ints l)) :
    Calls Tryz.prog 6 #[.slice a len cap] w fun e w' => e = .returned (.bool true) ∧ Below w.heap.size w w' := by
  by_cases h : 600 < len
  · exact xagain_far a len cap w hm h
  · exact xagain_near a len cap l w hm hz h
end Go.Proofs.YtjldpkhfiffinaaGreatDoor.U

namespace Go.Proofs.YtjldpkhfiffinaaGreatDoor.U
open Go.ChangeShapes Go.WideShapes Go.ChangeAt Go.WideMaps Go.WideElems Go.RowKit
def laid3 : List (String × DataW Unit) := [("math/bits.deBruijn32tab", Rows.laid_math_bits_deBruijn32tab), ("math/bits.deBruijn64tab", Rows.laid_math_bits_deBruijn64tab), ("internal/strconv.uint64pow10", Rows.laid_internal_strconv_uint64pow10), ("unicode/utf8.acceptRanges", Rows.laid_unicode_utf8_acceptRanges), ("strconv.ErrRange", Rows.laid_strconv_ErrRange), ("strconv.ErrSyntax", Rows.laid_strconv_ErrSyntax), ("spyglass/utf.spans", Rows.laid_spyglass_utf_spans), ("spyglass/utf.rows", Rows.laid_spyglass_utf_rows), ("unicode/utf8.first", Rows.laid_unicode_utf8_first)]
theorem own : ownKnob Tryz.prog.godebug = none := by kernel_rfl
theorem laidOut : laidOutB Tryz.prog = true := by kernel_rfl
theorem gSpans : Tryz.prog.globalNamed "spyglass/utf.spans" = some 1 := by kernel_rfl
theorem gRows : Tryz.prog.globalNamed "spyglass/utf.rows" = some 0 := by kernel_rfl
theorem tSpans : (Tryz.prog.globals[1]?).map (·.type) = some 207 := by kernel_rfl
theorem tRows : (Tryz.prog.globals[0]?).map (·.type) = some 203 := by kernel_rfl
theorem cells54 : Tryz.prog.cellsOf 207 = 10 := by kernel_rfl
theorem cells61 : Tryz.prog.cellsOf 203 = 12 := by kernel_rfl
theorem cells52 : Tryz.prog.cellsOf 205 = 2 := by kernel_rfl
theorem cells60 : Tryz.prog.cellsOf 202 = 3 := by kernel_rfl
theorem cells21 : Tryz.prog.cellsOf 21 = 1 := by kernel_rfl
theorem cells5 : Tryz.prog.cellsOf 5 = 1 := by kernel_rfl
/-- A heap that meets the condition. -/
theorem door_met (os : Os) (args : Array Value) : laidMetH Tryz.prog laid3 ((World.laidAll Tryz.prog os laid3).forCall (fun _ _ => 0) ⟨#[], args, []⟩).memory := by
  rw [MakeChecks.laidMetH_plain _ _ _ (by kernel_rfl)]; exact laidMet_laidAll _ (by kernel_rfl) (by kernel_rfl)
variable {W : World}
/-- A span that reads as two numbers holds these. -/
theorem span_cells {fuel : Nat} {c0 c1 : Value} {a b : Int} {p : List MemPlace} (h : DataW.trod (fun _ => ()) Tryz.prog W 0 (fun _ => true) false fuel 205 [c0, c1] = some (.agg [.lit (.int .i32 a), .lit (.int .i32 b)], p)) : c0 = .int .i32 a ∧ c1 = .int .i32 b := by
  obtain ⟨y0, y1, n, hx, _, h0, h1⟩ := trod_struct2 Tryz.underlying205 h
  simp only [Prod.mk.injEq, DataW.agg.injEq, List.cons.injEq, and_true] at hx
  simp only [cells21, List.drop_zero, List.take_succ_cons, List.take_zero, List.drop_succ_cons] at h0 h1
  obtain ⟨a', e0, rfl, _⟩ := DataW.trod_int Tryz.underlying21 h0
  obtain ⟨b', e1, rfl, _⟩ := DataW.trod_int Tryz.underlying21 h1
  simp only [DataW.lit.injEq, Lit.int.injEq, true_and] at hx
  simp only [List.cons.injEq, and_true] at e0 e1
  rw [e0, e1, hx.1.1, hx.1.2]
  exact ⟨rfl, rfl⟩
/-- A row that reads as three numbers holds these. -/
theorem row_cells {fuel : Nat} {c0 c1 c2 : Value} {a b c : Int} {p : List MemPlace} (h : DataW.trod (fun _ => ()) Tryz.prog W 0 (fun _ => true) false fuel 202 [c0, c1, c2] = some (.agg [.lit (.int .i32 a), .lit (.int .u8 b), .lit (.int .u8 c)], p)) : c0 = .int .i32 a ∧ c1 = .int .u8 b ∧ c2 = .int .u8 c := by
  obtain ⟨y0, y1, y2, n, hx, _, h0, h1, h2⟩ := Deep.trod_struct3 Tryz.underlying202 h
  simp only [Prod.mk.injEq, DataW.agg.injEq, List.cons.injEq, and_true] at hx
  simp only [cells21, cells5, List.drop_zero, List.take_succ_cons, List.take_zero, List.drop_succ_cons] at h0 h1 h2
  obtain ⟨a', e0, rfl, _⟩ := DataW.trod_int Tryz.underlying21 h0
  obtain ⟨b', e1, rfl, _⟩ := DataW.trod_int Tryz.underlying5 h1
  obtain ⟨c', e2, rfl, _⟩ := DataW.trod_int Tryz.underlying5 h2
  simp only [DataW.lit.injEq, Lit.int.injEq, true_and] at hx
  simp only [List.cons.injEq, and_true] at e0 e1 e2
  rw [e0, e1, e2, hx.1.1, hx.1.2.1, hx.1.2.2]
  exact ⟨rfl, rfl, rfl⟩
theorem block_of_var {P : Program} {n : String} {g : Nat} {cs : Array Value} (hg : P.globalNamed n = some g) (h : W.var? P n = some cs) : ∃ t fr, W.heap[g]? = some (.cells cs t fr) := by
  simp only [World.var?, hg, Option.bind_some] at h
  split at h
  · rename_i c t fr he
    cases h
    exact ⟨t, fr, he⟩
  · cases h
theorem gSyn : Tryz.prog.globalNamed "strconv.ErrSyntax" = some 5 := by kernel_rfl
theorem tSyn : (Tryz.prog.globals[5]?).map (·.type) = some 102 := by kernel_rfl
theorem star : "*" ++ "errors.errorString" = "*errors.errorString" := by decide
theorem ptrSyn (u : TypeId) (h : Tryz.prog.typeName? 3 u = some "*errors.errorString") : u = 308 :=
  typeName_ptr_named (nm := "errors.errorString") (by rw [star]; kernel_rfl) (by kernel_rfl) (by decide) u (by rw [star]; exact h)
set_option maxRecDepth 20000 in
theorem of_laid (h : laidMetH Tryz.prog laid3 W) : LayS W := by
  rw [MakeChecks.laidMetH_plain _ _ _ (by kernel_rfl)] at h
  have h4 := h.tail.tail.tail.tail.tail
  refine ⟨?_, ?_⟩
  rotate_left
  · obtain ⟨a, s, hv, _⟩ := laid_sentinel h4 gSyn tSyn Tryz.underlying102 ptrSyn Tryz.underlying308 Tryz.underlying310 rfl rfl Tryz.underlying9 (by kernel_rfl) (by kernel_rfl)
    exact ⟨_, _, by simpa using World.var?_cell gSyn hv 0⟩
  replace h := h4.tail
  obtain ⟨ps, ⟨g0, t0, cs0, f0, p0, q0, hg0, ht0, hv0, hd0, ⟨g1, t1, cs1, f1, p1, q1, hg1, ht1, hv1, hd1, _, _⟩, _⟩, _, _⟩ := h
  obtain rfl := Option.some.inj (gSpans.symm.trans hg0)
  obtain rfl := Option.some.inj (gRows.symm.trans hg1)
  obtain rfl := Option.some.inj (tSpans.symm.trans ht0)
  obtain rfl := Option.some.inj (tRows.symm.trans ht1)
  obtain ⟨ta, fa, ha⟩ := block_of_var gSpans hv0
  obtain ⟨tb, fb, hb⟩ := block_of_var gRows hv1
  refine ⟨⟨ta, fa, ?_⟩, ⟨tb, fb, ?_⟩⟩
  · rw [ha]
    obtain ⟨xs, m1, rfl, hx, hlen, hn, hel⟩ := DataW.trod_array Tryz.underlying207 hd0
    rw [cells54] at hlen
    simp only [cells52] at hel
    obtain ⟨l⟩ := cs0
    simp only [Rows.laid_spyglass_utf_spans, Prod.mk.injEq, DataW.agg.injEq] at hx
    match l, hlen, xs, hn, hx, hel with
    | [c0, c1, c2, c3, c4, c5, c6, c7, c8, c9], _, [x0, x1, x2, x3, x4], _, hx, hel =>
      simp only [List.map_cons, List.map_nil, List.cons.injEq, and_true] at hx
      obtain ⟨d0, u0⟩ := x0
      obtain ⟨d1, u1⟩ := x1
      obtain ⟨d2, u2⟩ := x2
      obtain ⟨d3, u3⟩ := x3
      obtain ⟨d4, u4⟩ := x4
      obtain ⟨⟨rfl, rfl, rfl, rfl, rfl⟩, _⟩ := hx
      obtain ⟨rfl, rfl⟩ := span_cells (c0 := c0) (c1 := c1) (hel 0 (by decide))
      obtain ⟨rfl, rfl⟩ := span_cells (c0 := c2) (c1 := c3) (hel 1 (by decide))
      obtain ⟨rfl, rfl⟩ := span_cells (c0 := c4) (c1 := c5) (hel 2 (by decide))
      obtain ⟨rfl, rfl⟩ := span_cells (c0 := c6) (c1 := c7) (hel 3 (by decide))
      obtain ⟨rfl, rfl⟩ := span_cells (c0 := c8) (c1 := c9) (hel 4 (by decide))
      rfl
  · rw [hb]
    obtain ⟨xs, m1, rfl, hx, hlen, hn, hel⟩ := DataW.trod_array Tryz.underlying203 hd1
    rw [cells61] at hlen
    simp only [cells60] at hel
    obtain ⟨l⟩ := cs1
    simp only [Rows.laid_spyglass_utf_rows, Prod.mk.injEq, DataW.agg.injEq] at hx
    match l, hlen, xs, hn, hx, hel with
    | [c0, c1, c2, c3, c4, c5, c6, c7, c8, c9, c10, c11], _, [x0, x1, x2, x3], _, hx, hel =>
      simp only [List.map_cons, List.map_nil, List.cons.injEq, and_true] at hx
      obtain ⟨d0, u0⟩ := x0
      obtain ⟨d1, u1⟩ := x1
      obtain ⟨d2, u2⟩ := x2
      obtain ⟨d3, u3⟩ := x3
      obtain ⟨⟨rfl, rfl, rfl, rfl⟩, _⟩ := hx
      obtain ⟨rfl, rfl, rfl⟩ := row_cells (c0 := c0) (c1 := c1) (c2 := c2) (hel 0 (by decide))
      obtain ⟨rfl, rfl, rfl⟩ := row_cells (c0 := c3) (c1 := c4) (c2 := c5) (hel 1 (by decide))
      obtain ⟨rfl, rfl, rfl⟩ := row_cells (c0 := c6) (c1 := c7) (c2 := c8) (hel 2 (by decide))
      obtain ⟨rfl, rfl, rfl⟩ := row_cells (c0 := c9) (c1 := c10) (c2 := c11) (hel 3 (by decide))
      rfl
theorem mx_open (h : W.ShapedOpen Tryz.prog) : Mx W :=
  cell_of_shapedOpen_int (t := 3) (zero := #[.int .i64 0]) h (of_decide_eq_true (by kernel_rfl)) (by kernel_rfl) rfl (by kernel_rfl) (by kernel_rfl) Tryz.underlying3
theorem t_of_laid (h : laidMetH Tryz.prog laid3 W) (ho : W.ShapedOpen Tryz.prog) : LayT W := ⟨of_laid h, mx_open ho⟩
theorem exists_ints : ∀ zs : List Int, (∀ z ∈ zs, 0 ≤ z ∧ z ≤ 255) → ∃ l : List UInt8, ints l = zs := by
  intro zs
  induction zs with
  | nil => intro _; exact ⟨[], rfl⟩
  | cons z r ih =>
    intro h
    obtain ⟨l, rfl⟩ := ih (fun y hy => h y (List.mem_cons_of_mem _ hy))
    obtain ⟨h0, h1⟩ := h z (List.mem_cons_self ..)
    refine ⟨UInt8.ofNat z.toNat :: l, ?_⟩
    unfold ints
    rw [List.map_cons]
    congr 1
    show ((UInt8.ofNat z.toNat).toNat : Int) = z
    rw [UInt8.toNat_ofNat']
    omega
/-- What a call returns, where the listed variables read so and the variables have their shape. -/
theorem handed_both {H : Type} {enc : TypeId × Value → H} {a : Assume} {C : Checked} {os : Os} {f : FuncId} {fn : Func} {s : ChangeSpec} {conds : List PathCond} {apart fresh handsOn again : Bool} {X : World → Array Value → Prop}
    (hX : ∀ (w w' : World) (args : Array Value), w.heap = w'.heap → X w args → X w' args)
    (own : ownKnob C.prog.godebug = none) (started : os.Started) (noInit : C.prog.inits.idxOf? f = none) (hfn : C.prog.funcs[f]? = some fn)
    (witness : ∃ (w : World) (tape : Tape) (i : Input), w.os = os ∧ (w.forCall tape i).Shaped C.prog ∧ i.vars = [] ∧ Input.okWide C.prog (w.forCall tape i) .any w.heap.size f i ∧
      ((s.pre enc C.prog fn conds apart (w.forCall tape i).memory i.args ∧ X (w.forCall tape i).memory i.args) ∧ sizedMet enc C.prog fn (OpenSpec.ofChange s) apart (w.forCall tape i).memory i.args) ∧ a.holds C.prog (lone (Frame.enter C.prog f i.args .normal) [] (w.forCall tape i)))
    (contract : ∀ (W : World) (base : Nat) (args : Array Value) (ds gs : List (DataW H)) (before : List MemPlace),
      (∀ (j : Nat) t v, fn.params[j]? = some t → args[j]? = some v → Value.okWide C.prog W .any base t v) →
      DataW.Whole enc C.prog fn.params.toList s.vars apart W args.toList ds gs before → X W args → W.ShapedOpen C.prog →
      Calls C.prog f args W fun e W' => ∃ v, e = .returned v ∧ s.post enc C.prog fn apart fresh handsOn again W args v W') :
    ReturnsInHanded a C os f .any (fun w args => (s.pre enc C.prog fn conds apart w args ∧ X w args) ∧ sizedMet enc C.prog fn (OpenSpec.ofChange s) apart w args) (s.post enc C.prog fn apart fresh handsOn again) := by
  refine returnsInHanded_of_calls own started noInit witness ?_
  intro w tape i _ hsh _ hok hpre hholds
  obtain ⟨_, _, _, fn', hfn', _, _, _, _, hval⟩ := hok
  have e : fn' = fn := Option.some.inj (hfn'.symm.trans hfn)
  subst e
  obtain ⟨⟨⟨ds, gs, before, hw, hc⟩, hx⟩, hz⟩ := hpre
  have hw' := DataW.Whole.of_heap (w' := w.forCall tape i) (by rfl) hw
  refine (contract (w.forCall tape i) w.heap.size i.args ds gs before hval hw' (hX _ _ _ (by rfl) hx) hsh).mono fun e W' ⟨v, he, hp⟩ => ?_
  subst he
  exact ChangeSpec.post_blind hp
end Go.Proofs.YtjldpkhfiffinaaGreatDoor.U

namespace Go.Proofs.YtjldpkhfiffinaaGreatDoor.U
open Go.ChangeShapes Go.WideShapes Go.ChangeAt Go.RowKit
theorem IsRow.cellAt {k : IntKind} {w : World} {a : Option Addr} {len cap : Nat} {z : List Int} (h : IsRow k w a len cap z) (h0 : 0 < len) :
    ∃ b off, a = some ⟨b, off, none⟩ ∧ ∀ i, i < len → w.cell? ⟨b, off + i, none⟩ = some (.int k ((z.take len)[i]?.getD 0)) := by
  rcases h with ⟨_, h1, _⟩ | ⟨x, rfl, hl, hm, hz, hcell, hwz⟩
  · omega
  · obtain ⟨b, off, spot⟩ := x
    have hspot : spot = none := by simpa [Addr.add] using World.cell?_spot (hcell 0 (by omega))
    subst hspot
    refine ⟨b, off, rfl, fun i hi => ?_⟩
    have := hcell i (by omega)
    have e : (⟨b, off, none⟩ : Addr).add i = ⟨b, off + i, none⟩ := by unfold Addr.add; split <;> simp_all
    rw [e] at this
    rw [this, List.getElem?_take_of_lt hi]
    rfl
theorem IsRow.lens {k : IntKind} {w : World} {a : Option Addr} {len cap : Nat} {z : List Int} (h : IsRow k w a len cap z) : (z.take len).length = len ∧ len ≤ cap := by
  rcases h with ⟨rfl, rfl, rfl, rfl⟩ | ⟨x, rfl, hl, hm, hz, hcell, hwz⟩
  · simp
  · exact ⟨by simp; omega, hl⟩
theorem IsRow.wfs {k : IntKind} {w : World} {a : Option Addr} {len cap : Nat} {z : List Int} (h : IsRow k w a len cap z) : ∀ n ∈ z.take len, (Lit.int k n).wf = true := by
  intro n hn
  have hn := List.mem_of_mem_take hn
  rcases h with ⟨rfl, rfl, rfl, rfl⟩ | ⟨x, rfl, hl, hm, hz, hcell, hwz⟩
  · cases hn
  · exact hwz n hn
theorem IsRow.byt {w : World} {a : Option Addr} {len cap : Nat} {z : List Int} (h : IsRow .u8 w a len cap z) (hl : len ≤ 140737488351232) : Byt w a len cap (z.take len) :=
  ⟨h.lens.1, h.lens.2, hl, fun n hn => bounds_u8 (h.wfs n hn), h.cellAt⟩
theorem open_ints_row {H : Type} {enc : TypeId × Value → H} {W : World} {k : IntKind} {t e : TypeId} (ht : Tryz.prog.underlying t = some (.slice e)) (he : Tryz.prog.underlying e = some (.int k)) (hc : Tryz.prog.cellsOf e = 1) {a : Option Addr} {len cap : Nat} {d : DataW H} {p : List MemPlace} {fuel : Nat}
    (h : DataW.trod enc Tryz.prog W 0 (fun _ => true) true fuel t (Value.slice a len cap).cells.toList = some (d, p)) : ∃ zs, IsRow k W a len cap zs := by
  rcases open_ints ht he hc h with ⟨hcs, _⟩ | ⟨x, l, c, zs, hcs, _, hl, hm, hz, _, hcell, hwz⟩
  · simp [Value.cells] at hcs
    obtain ⟨rfl, rfl, rfl⟩ := hcs
    exact ⟨[], .inl ⟨rfl, rfl, rfl, rfl⟩⟩
  · simp [Value.cells] at hcs
    obtain ⟨rfl, rfl, rfl⟩ := hcs
    exact ⟨zs, .inr ⟨_, rfl, hl, hm, by simpa using hz, hcell, hwz⟩⟩
end Go.Proofs.YtjldpkhfiffinaaGreatDoor.U

namespace Go.Proofs.YtjldpkhfiffinaaGreatDoor.XmlAgainP
open Go.ChangeShapes Go.WideShapes Go.ChangeAt Go.WideMaps Go.WideElems Go.RowKit U
open Go.ChangeMaps (open_string shut_string)
theorem walk (a0 : Option Addr) (len0 cap0 : Nat) (z0 : List Int) (w : World) (w0 : IsRow .u8 w a0 len0 cap0 z0) (hl : LayT w) :
    Calls Tryz.prog 6 #[.slice a0 len0 cap0] w fun e w' => e = .returned (.bool true) ∧ Below w.heap.size w w' := by
  by_cases h : 600 < len0
  · exact xagain_far a0 len0 cap0 w hl h
  · have hz := w0.byt (by omega)
    obtain ⟨l, hl2⟩ := exists_ints _ hz.byte
    rw [← hl2] at hz
    exact xagain_any a0 len0 cap0 l w hl hz
set_option maxRecDepth 100000 in
theorem lifted (os : Os) (started : os.Started) (H : Type) (enc : TypeId × Value → H) :
    ReturnsInHanded {} Tryz.checked os 6 .any (fun w args => (Rows.xmlAgainSpec.pre enc Tryz.prog Tryz.f6 [] false w args ∧ laidMetH Tryz.prog laid3 w) ∧ sizedMet enc Tryz.prog Tryz.f6 (OpenSpec.ofChange Rows.xmlAgainSpec) false w args)
      (Rows.xmlAgainSpec.post enc Tryz.prog Tryz.f6 false true false false) := by
  refine handed_both (C := Tryz.checked) (X := fun w _ => laidMetH Tryz.prog laid3 w) (fun _ _ _ hh h => h.of_heap hh) own started (by kernel_rfl) Tryz.func6
    (ChangeSpec.witness_shaped (enc := enc) (C := Tryz.checked) (os := os) (X := fun w _ => laidMetH Tryz.prog laid3 w) false (World.laidAll Tryz.prog os laid3) #[.slice none 0 0] 8 (World.laidAll_os _ _ _) (World.shaped_of_ZipB (by kernel_rfl) (by kernel_rfl)) (by kernel_rfl) (by kernel_rfl) (by kernel_rfl) (door_met os _)) ?_
  intro W base args ds gs before hval0 hW hL hO
  have hval : ∀ (j : Nat) t v, Tryz.f6.params[j]? = some t → args[j]? = some v → Value.okWide Tryz.prog W .any base t v := hval0
  have hW' := hW
  obtain ⟨p, q, hA0, hV, rfl, hfz, hnd⟩ := hW
  have hA : DataW.TrodAll enc Tryz.prog W 0 (fun _ => true) true Tryz.f6.params.toList args.toList ds p := hA0
  rw [Tryz.params6] at hA hval
  obtain ⟨v0, vs0, d0, ds0, p0, q0, hargs, rfl, rfl, h0, r0⟩ := trodAll_cons hA
  obtain ⟨rfl, rfl, rfl⟩ := trodAll_nil r0
  obtain rfl : args = #[v0] := by cases args; simp_all
  obtain ⟨rfl, rfl⟩ := trodVars_none hV
  obtain ⟨a0, len0, cap0, rfl⟩ := okWide_slice Tryz.underlying22 (hval 0 22 v0 rfl rfl)
  have k0 := h0
  have lt0 : ∀ x ∈ p0, x.block < W.heap.size := by obtain ⟨m, hm⟩ := k0; exact DataW.trod_lt m _ _ _ hm
  obtain ⟨f0, hf0⟩ := h0
  obtain ⟨z0, w0⟩ := open_ints_row (k := .u8) Tryz.underlying22 Tryz.underlying5 cells5 hf0
  clear hA0 hval0
  refine (walk a0 len0 cap0 z0 W w0 (t_of_laid hL hO)).mono fun e W' ⟨he, bel⟩ => ?_
  subst he
  exact ⟨_, rfl, _, _, _, [], _, [], hW', trodAll_mk1 (shut_bool Tryz.underlying4 _), (trodAll_cons_mk (Below.trod laidOut (by kernel_rfl) (of_decide_eq_true (by kernel_rfl)) k0 bel lt0) trodAll_mk0), rfl, bel.frame _, fun h => by cases h⟩
theorem over : Rows.xmlAgainRow.holds Tryz.pinned (OpenSpec.ofChange Rows.xmlAgainSpec) :=
  OpenClaim.holds_of_wide 6 Tryz.f6 rfl rfl rfl rfl rfl rfl rfl ⟨rfl, rfl, rfl, rfl, rfl⟩ rfl rfl rfl rfl rfl (by kernel_rfl) Tryz.func6 (by kernel_rfl)
    (of_decide_eq_true (by kernel_rfl)) (by unfold Func.isWrapper; first | (rw [if_pos (by decide +kernel)]; kernel_rfl) | (rw [if_neg (by decide +kernel)]; exact ⟨rfl, rfl⟩))
    (fun os started H enc _ => lifted os started H enc)
end Go.Proofs.YtjldpkhfiffinaaGreatDoor.XmlAgainP
namespace Go.Proofs.YtjldpkhfiffinaaGreatDoor
/-- The tied card of XmlAgain. -/
theorem xmlAgain_proved : Rows.XmlAgainCardSaid :=
  Claim7.holds_tied_plain_at .later [] [.data, .data, .data, .data, .sentinel, .sentinel, .data, .data, .pinned] true (true, "4148650d6e0846488ce487377aadbf32be7dd7120a5a7c6cb84a32f3e199f1d9") true
    XmlAgainP.over (fun _ h => by cases h) (by kernel_rfl) (fun _ h => by cases h) xmlAgain_row_tie rfl ⟨rfl, rfl⟩ (by kernel_rfl) rfl
    (fun f fn hf hfn => by
      obtain rfl : f = 6 := Option.some.inj ((show Tryz.prog.funcNamed "spyglass/spyglasslaw05.XmlAgain" = some 6 by kernel_rfl).symm.trans hf) |>.symm
      obtain rfl : fn = Tryz.f6 := (Option.some.inj (Tryz.func6.symm.trans hfn)).symm
      exact ⟨by kernel_rfl, fun j t ht => by
        rw [Tryz.params6] at ht
        have hm : t ∈ [22] := by simpa using Array.mem_of_getElem? ht
        have hall : ([22].all fun u => !Tryz.prog.wantsStandIn u) = true := by kernel_rfl
        exact (show Tryz.prog.wantsStandIn t = false by simpa using List.all_eq_true.1 hall t hm)⟩)
    (by kernel_rfl)
#print axioms xmlAgain_proved
end Go.Proofs.YtjldpkhfiffinaaGreatDoor
