/- The contract of the document's answer for layer 3: Piece, a Close. -/
import Derived.Test.YtihijgghcecpmaaGreatDoorQ10
import Derived.Deep.RegionWith
import Derived.Test.YtihijgghcecpmaaGreatDoorQ9
import Derived.Test.YtihijgghcecpmaaGreatDoorQ4
namespace Go.Proofs.YtihijgghcecpmaaGreatDoor.U
open Go.RowKit Go.Shelf

theorem Box5.drew {b : Nat} {ki : Int} {x y : ByteArray} {v : Value} {em : Bool} {w : World} (h : Box5 b ki x y v em w) : Box5 b ki x y v em w.drew := h

set_option maxHeartbeats 4000000 in
set_option maxRecDepth 10000 in
theorem pieceClose_any (s : ByteArray) (k : Nat) (w : World) (hk : k < s.size) (hs : s.size ≤ 100000) (h0 : ¬ ((k == 0) = true ∧ begL sXml ((bts s).drop k) = true)) (h1 : begL sCom ((bts s).drop k) = false) (h2 : begL sCd ((bts s).drop k) = false) (h3 : begL [60, 47] ((bts s).drop k) = true) :
    Calls Tryz.prog 24 #[.string s, .int .i64 k] w fun e w' => PiecePost k (pieceL (k == 0) ((bts s).drop k)) w e w' := by
  have hl := bts_len s
  have HP := Lib.hid (pc_close h0 h1 h2 h3)
  have hk2 : k + 2 ≤ s.size := by
    have := begL_len h3
    rw [List.length_drop, hl] at this
    simp at this
    omega
  have HX : k = 0 → Hid (BegC s 0 ⟨#[60, 63, 120, 109, 108]⟩ false) := fun e => Lib.hid (by
    subst e
    exact beg_c (k := 0) (by omega) hs (by decide) (by cases hb : begL sXml (bts s) with | false => exact hb | true => exact absurd ⟨rfl, hb⟩ h0))
  have HC : Hid (BegC s k ⟨#[60, 33, 45, 45]⟩ false) := Lib.hid (beg_c (by omega) hs (by decide) h1)
  have HD : Hid (BegC s k ⟨#[60, 33, 91, 67, 68, 65, 84, 65, 91]⟩ false) := Lib.hid (beg_c (by omega) hs (by decide) h2)
  have HS : Hid (BegC s k ⟨#[60, 47]⟩ true) := Lib.hid (beg_c (by omega) hs (by decide) h3)
  have HK0 := Lib.hid (Box5.new w)
  have HB0 : Hid (Below w.heap.size w (w.alloc (.cells #[.int .i64 0, .string ⟨#[]⟩, .string ⟨#[]⟩, .slice none 0 0, .bool false] 38))) := Lib.hid ((Below.refl _ w).alloc (Nat.le_refl _) _)
  obtain ⟨L, hL⟩ : ∃ L, L = (bts s).drop (k + 2) := ⟨_, rfl⟩
  have hd2 : ((bts s).drop k).drop 2 = L := by rw [List.drop_drop, hL]
  obtain ⟨n, hn⟩ : ∃ n, n = nameN L := ⟨_, rfl⟩
  have hnl := nameN_le L
  rw [← hn, hL, List.length_drop, hl] at hnl
  have HNM : Hid (∀ W, Calls Tryz.prog 41 #[.string s, .int .i64 ((k : Int) + 2)] W fun e w' => e = .returned (.int .i64 (nameZ (k + 2) L)) ∧ Below W.heap.size W w') := Lib.hid (fun W => by
    have := name3_any s (k + 2) W hk2 hs
    rw [← hL] at this
    exact this)
  cases hq : nameL (L.take n) with
  | false =>
    have hz : nameZ (k + 2) L = -1 := by unfold nameZ; rw [← hn, hq]; simp
    rw [hz] at HNM
    have HA : Hid (pieceL (k == 0) ((bts s).drop k) = none) := Lib.hid (by rw [HP.out, close_none (by rw [hd2, ← hn]; exact hq)])
    clear h0 h1 h2 h3 hz hq hn hnl hd2 hL
    go_enter Tryz.func24, Tryz.ntmps24
    cases hkb : ((k : Int) == 0)
    case' true =>
      have HX := HX (by simpa using hkb)
      go_wp2_with fail
      refine (HX.out _).mono ?_
      rintro e w2 ⟨rfl, rfl⟩
      go_wp2_with fail
    case' false => go_wp2_with fail
    all_goals
      refine (HC.out _).mono ?_
      rintro e w2 ⟨rfl, rfl⟩
      go_wp2_with fail
      refine (HD.out _).mono ?_
      rintro e w2 ⟨rfl, rfl⟩
      go_wp2_with fail
      refine (HS.out _).mono ?_
      rintro e w2 ⟨rfl, rfl⟩
      go_wp2_with fail
      refine (HNM.out _).mono ?_
      rintro e w3 ⟨rfl, hb3⟩
      have HK3 := Lib.hid (HK0.out.below hb3)
      have HB3 := Lib.hid (th HB0.out (Nat.le_refl _) hb3)
      clear hb3
      obtain ⟨c0, c1, c2, c3, c4, f0, f1, f2, f3, f4⟩ := HK3.out.at
      go_wp2
      (try simp only [Exit.inBlock, Exit.then])
      refine ret_cell rfl rfl (HK3.out.set _ _ _ _ _) Tryz.underlying38 rfl (by kernel_rfl) rfl ?_
      exact ⟨set5_below HB3.out (Nat.le_refl _) _ _ _ _ _, .inr ⟨HA.out, rfl⟩⟩
  | true =>
    obtain ⟨E, hE⟩ : ∃ E, E = k + 2 + n := ⟨_, rfl⟩
    have hz : nameZ (k + 2) L = (E : Int) := by unfold nameZ; rw [← hn, hq, hE]; simp
    rw [hz] at HNM
    have hEs : E ≤ s.size := by omega
    have hkE : k + 2 ≤ E := by omega
    have hkE2 : (k : Int) + 2 ≤ E := by omega
    have hdE : L.drop n = (bts s).drop E := by rw [hL, List.drop_drop, hE]
    obtain ⟨b, hb⟩ : ∃ b, b = blankN ((bts s).drop E) := ⟨_, rfl⟩
    obtain ⟨G, hG⟩ : ∃ G, G = E + b := ⟨_, rfl⟩
    have hb1 := blankN_le ((bts s).drop E)
    rw [List.length_drop, hl, ← hb] at hb1
    have hGs : G ≤ s.size := by omega
    have hdG : ((bts s).drop E).drop b = (bts s).drop G := by rw [List.drop_drop, hG]
    have HBK := Lib.hid (fun W => blanks_any s E W hEs hs)
    rw [← hb, ← hG] at HBK
    cases hg : begL [62] ((bts s).drop G) with
    | false =>
      have HG : Hid (BegC s G ⟨#[62]⟩ false) := Lib.hid (beg_c hGs hs (by decide) hg)
      have HA : Hid (pieceL (k == 0) ((bts s).drop k) = none) := Lib.hid (by rw [HP.out, close_not (by rw [hd2, ← hn]; exact hq) (by rw [hd2, ← hn, hdE, ← hb, hdG]; exact hg)])
      clear h0 h1 h2 h3 hz hq hn hnl hd2 hL hE hdE hb hG hb1 hdG hg
      go_enter Tryz.func24, Tryz.ntmps24
      cases hkb : ((k : Int) == 0)
      case' true =>
        have HX := HX (by simpa using hkb)
        go_wp2_with fail
        refine (HX.out _).mono ?_
        rintro e w2 ⟨rfl, rfl⟩
        go_wp2_with fail
      case' false => go_wp2_with fail
      all_goals
        refine (HC.out _).mono ?_
        rintro e w2 ⟨rfl, rfl⟩
        go_wp2_with fail
        refine (HD.out _).mono ?_
        rintro e w2 ⟨rfl, rfl⟩
        go_wp2_with fail
        refine (HS.out _).mono ?_
        rintro e w2 ⟨rfl, rfl⟩
        go_wp2_with fail
        refine (HNM.out _).mono ?_
        rintro e w3 ⟨rfl, hb3⟩
        have HK3 := Lib.hid (HK0.out.below hb3)
        have HB3 := Lib.hid (th HB0.out (Nat.le_refl _) hb3)
        clear hb3
        go_wp2_with fail
        refine (HBK.out _).mono ?_
        rintro e w2 ⟨rfl, rfl⟩
        go_wp2_with fail
        refine (HG.out _).mono ?_
        rintro e w2 ⟨rfl, rfl⟩
        obtain ⟨c0, c1, c2, c3, c4, f0, f1, f2, f3, f4⟩ := HK3.out.at
        go_wp2
        (try simp only [Exit.inBlock, Exit.then])
        refine ret_cell rfl rfl (HK3.out.set _ _ _ _ _) Tryz.underlying38 rfl (by kernel_rfl) rfl ?_
        exact ⟨set5_below HB3.out (Nat.le_refl _) _ _ _ _ _, .inr ⟨HA.out, rfl⟩⟩
    | true =>
      have HG : Hid (BegC s G ⟨#[62]⟩ true) := Lib.hid (beg_c hGs hs (by decide) hg)
      have HA : Hid (pieceL (k == 0) ((bts s).drop k) = some (⟨3, bts (s.extract (k + 2) E), [], [], false⟩, 2 + n + b + 1)) := Lib.hid (by
        rw [HP.out, close_ok (by rw [hd2, ← hn]; exact hq) (by rw [hd2, ← hn, hdE, ← hb, hdG]; exact hg), hd2, ← hn, hdE, ← hb, bts_extract, hL, List.take_drop, hE])
      have HI : Hid (((k + (2 + n + b + 1) : Nat) : Int) = (G : Int) + 1) := Lib.hid (by omega)
      clear h0 h1 h2 h3 hz hq hn hnl hd2 hL hE hdE hb hG hb1 hdG hg
      go_enter Tryz.func24, Tryz.ntmps24
      cases hkb : ((k : Int) == 0)
      case' true =>
        have HX := HX (by simpa using hkb)
        go_wp2_with fail
        refine (HX.out _).mono ?_
        rintro e w2 ⟨rfl, rfl⟩
        go_wp2_with fail
      case' false => go_wp2_with fail
      all_goals
        refine (HC.out _).mono ?_
        rintro e w2 ⟨rfl, rfl⟩
        go_wp2_with fail
        refine (HD.out _).mono ?_
        rintro e w2 ⟨rfl, rfl⟩
        go_wp2_with fail
        refine (HS.out _).mono ?_
        rintro e w2 ⟨rfl, rfl⟩
        go_wp2_with fail
        refine (HNM.out _).mono ?_
        rintro e w3 ⟨rfl, hb3⟩
        have HK3 := Lib.hid (HK0.out.below hb3)
        have HB3 := Lib.hid (th HB0.out (Nat.le_refl _) hb3)
        clear hb3
        go_wp2_with fail
        refine (HBK.out _).mono ?_
        rintro e w2 ⟨rfl, rfl⟩
        go_wp2_with fail
        refine (HG.out _).mono ?_
        rintro e w2 ⟨rfl, rfl⟩
        go_wp2_with fail
        obtain ⟨c0, c1, c2, c3, c4, f0, f1, f2, f3, f4⟩ := HK3.out.at
        have n1 : 0 ≤ (k : Int) + 2 := by omega
        have n2 : ((k : Int) + 2).toNat = k + 2 := by omega
        have w1 : IntKind.i64.wrap ((k : Int) + 2) = (k : Int) + 2 := wrap_small _ (by omega) (by omega)
        have w2 : IntKind.i64.wrap ((G : Int) + 1) = (G : Int) + 1 := wrap_small _ (by omega) (by omega)
        go_region_with (go_at_call 42; refine (HBK.out _).mono ?_; rintro e w2 ⟨rfl, rfl⟩)
        all_goals
          clear n1 n2 w1 w2
          (try go_wp2)
          (try simp only [Exit.inBlock, Exit.then])
          refine ret_cell rfl rfl ((Box5.drew HK3.out).set _ _ _ _ _) Tryz.underlying38 rfl (by kernel_rfl) rfl ?_
          refine ⟨set5_below HB3.out.drew (Nat.le_refl _) _ _ _ _ _, .inl ⟨_, _, .slice none 0 0, HA.out, ?_, World.ownsRow_nil _ _ _ _⟩⟩
          unfold tokCells
          simp only [mk_bts, HI.out]
          rfl
end Go.Proofs.YtihijgghcecpmaaGreatDoor.U

/- The contract of the document's answer for layer 3: Piece, text. -/
namespace Go.Proofs.YtihijgghcecpmaaGreatDoor.U
open Go.RowKit Go.Shelf

set_option maxHeartbeats 4000000 in
set_option maxRecDepth 10000 in
theorem pieceText_any (s : ByteArray) (k : Nat) (w : World) (hk : k < s.size) (hs : s.size ≤ 100000) (h0 : ¬ ((k == 0) = true ∧ begL sXml ((bts s).drop k) = true)) (h1 : begL sCom ((bts s).drop k) = false) (h2 : begL sCd ((bts s).drop k) = false) (h3 : begL [60, 47] ((bts s).drop k) = false) (h4 : begL [60] ((bts s).drop k) = false) :
    Calls Tryz.prog 24 #[.string s, .int .i64 k] w fun e w' => PiecePost k (pieceL (k == 0) ((bts s).drop k)) w e w' := by
  have hl := bts_len s
  have HP := Lib.hid (pc_text h0 h1 h2 h3 h4)
  have HX : k = 0 → Hid (BegC s 0 ⟨#[60, 63, 120, 109, 108]⟩ false) := fun e => Lib.hid (by
    subst e
    exact beg_c (k := 0) (by omega) hs (by decide) (by cases hb : begL sXml (bts s) with | false => exact hb | true => exact absurd ⟨rfl, hb⟩ h0))
  have HC : Hid (BegC s k ⟨#[60, 33, 45, 45]⟩ false) := Lib.hid (beg_c (by omega) hs (by decide) h1)
  have HD : Hid (BegC s k ⟨#[60, 33, 91, 67, 68, 65, 84, 65, 91]⟩ false) := Lib.hid (beg_c (by omega) hs (by decide) h2)
  have HS : Hid (BegC s k ⟨#[60, 47]⟩ false) := Lib.hid (beg_c (by omega) hs (by decide) h3)
  have HO : Hid (BegC s k ⟨#[60]⟩ false) := Lib.hid (beg_c (by omega) hs (by decide) h4)
  have HK0 := Lib.hid (Box5.new w)
  have HB0 : Hid (Below w.heap.size w (w.alloc (.cells #[.int .i64 0, .string ⟨#[]⟩, .string ⟨#[]⟩, .slice none 0 0, .bool false] 38))) := Lib.hid ((Below.refl _ w).alloc (Nat.le_refl _) _)
  obtain ⟨E, fz, hE, hEs, hkE, hfz⟩ : ∃ (E : Nat) (fz : Int), E = k + (findL [60] ((bts s).drop k)).getD ((bts s).drop k).length ∧ E ≤ s.size ∧ k ≤ E ∧ (foundZ k (findL [60] ((bts s).drop k)) = fz ∧ ((fz = -1 ∧ E = s.size) ∨ fz = E)) := by
    cases hf : findL [60] ((bts s).drop k) with
    | none => exact ⟨s.size, -1, by rw [Option.getD_none, List.length_drop, hl]; omega, by omega, by omega, rfl, .inl ⟨rfl, rfl⟩⟩
    | some e =>
      have hel := findL_len hf
      rw [List.length_drop, hl] at hel
      exact ⟨k + e, ((k + e : Nat) : Int), rfl, by omega, by omega, rfl, .inr rfl⟩
  obtain ⟨hfz, hfe⟩ := hfz
  have HF : Hid (FindC s k ⟨#[60]⟩ fz) := Lib.hid (find_c (by omega) hs (by decide) hfz)
  have hx : bts (s.extract k E) = ((bts s).drop k).take ((findL [60] ((bts s).drop k)).getD ((bts s).drop k).length) := by rw [bts_extract, List.take_drop, hE]
  obtain ⟨m, hm⟩ : ∃ m, m = (findL [60] ((bts s).drop k)).getD ((bts s).drop k).length := ⟨_, rfl⟩
  rw [← hm] at hx hE
  have hxs : (s.extract k E).size ≤ 100000 := by rw [ByteArray.size_extract]; omega
  have HUR := refUnescape_any (s.extract k E) (hs := hxs)
  rw [hx] at HUR
  have HFE := fun W => find_any (s.extract k E) 0 ⟨#[93, 93, 62]⟩ W (by omega) hxs (by decide)
  rw [List.drop_zero, hx, show bts ⟨#[93, 93, 62]⟩ = sEnd from rfl] at HFE
  cases hu : unL [] (((bts s).drop k).take m) with
  | error z =>
    have HA : Hid (pieceL (k == 0) ((bts s).drop k) = none) := Lib.hid (by rw [HP.out, text_err hm hu])
    have hz := unL_err hu
    rw [hu] at HUR
    simp only [unR] at HUR
    have HUN := Lib.hid HUR
    clear h0 h1 h2 h3 h4 hu hE hfz hx hm hxs HUR HFE
    rcases hfe with ⟨rfl, rfl⟩ | rfl
    all_goals
      rcases hz with rfl | rfl
      all_goals
        go_enter Tryz.func24, Tryz.ntmps24
        cases hkb : ((k : Int) == 0)
        case' true =>
          have HX := HX (by simpa using hkb)
          go_wp2_with fail
          refine (HX.out _).mono ?_
          rintro e w2 ⟨rfl, rfl⟩
          go_wp2_with fail
        case' false => go_wp2_with fail
        all_goals
          refine (HC.out _).mono ?_
          rintro e w2 ⟨rfl, rfl⟩
          go_wp2_with fail
          refine (HD.out _).mono ?_
          rintro e w2 ⟨rfl, rfl⟩
          go_wp2_with fail
          refine (HS.out _).mono ?_
          rintro e w2 ⟨rfl, rfl⟩
          go_wp2_with fail
          refine (HO.out _).mono ?_
          rintro e w2 ⟨rfl, rfl⟩
          go_wp2_with fail
          refine (HF.out _).mono ?_
          rintro e w2 ⟨rfl, rfl⟩
          go_wp2_with fail
          refine (HUN.out _).mono ?_
          rintro e w3 ⟨rfl, hb3⟩
          have HK3 := Lib.hid (HK0.out.below hb3)
          have HB3 := Lib.hid (th HB0.out (Nat.le_refl _) hb3)
          clear hb3
          obtain ⟨c0, c1, c2, c3, c4, f0, f1, f2, f3, f4⟩ := HK3.out.at
          go_wp2
          (try simp only [Exit.inBlock, Exit.then])
          refine ret_cell rfl rfl (HK3.out.set _ _ _ _ _) Tryz.underlying38 rfl (by kernel_rfl) rfl ?_
          exact ⟨set5_below HB3.out (Nat.le_refl _) _ _ _ _ _, .inr ⟨HA.out, rfl⟩⟩
  | ok x =>
    rw [hu] at HUR
    simp only [unR] at HUR
    have HUN := Lib.hid HUR
    cases hg : findL sEnd (((bts s).drop k).take m) with
    | some e2 =>
      have HA : Hid (pieceL (k == 0) ((bts s).drop k) = none) := Lib.hid (by rw [HP.out, text_not hm hu (by rw [hg]; simp)])
      have HG : Hid (FindC (s.extract k E) 0 ⟨#[93, 93, 62]⟩ (e2 : Int)) := Lib.hid (fun W => by
        have := HFE W
        rw [hg] at this
        simp only [foundZ, Nat.zero_add] at this
        exact this)
      clear h0 h1 h2 h3 h4 hu hE hfz hx hm hxs HUR HFE hg
      rcases hfe with ⟨rfl, rfl⟩ | rfl
      all_goals
        go_enter Tryz.func24, Tryz.ntmps24
        cases hkb : ((k : Int) == 0)
        case' true =>
          have HX := HX (by simpa using hkb)
          go_wp2_with fail
          refine (HX.out _).mono ?_
          rintro e w2 ⟨rfl, rfl⟩
          go_wp2_with fail
        case' false => go_wp2_with fail
        all_goals
          refine (HC.out _).mono ?_
          rintro e w2 ⟨rfl, rfl⟩
          go_wp2_with fail
          refine (HD.out _).mono ?_
          rintro e w2 ⟨rfl, rfl⟩
          go_wp2_with fail
          refine (HS.out _).mono ?_
          rintro e w2 ⟨rfl, rfl⟩
          go_wp2_with fail
          refine (HO.out _).mono ?_
          rintro e w2 ⟨rfl, rfl⟩
          go_wp2_with fail
          refine (HF.out _).mono ?_
          rintro e w2 ⟨rfl, rfl⟩
          go_wp2_with fail
          refine (HUN.out _).mono ?_
          rintro e w3 ⟨rfl, hb3⟩
          have HK3 := Lib.hid (HK0.out.below hb3)
          have HB3 := Lib.hid (th HB0.out (Nat.le_refl _) hb3)
          clear hb3
          go_wp2_with fail
          refine (HG.out _).mono ?_
          rintro e w2 ⟨rfl, rfl⟩
          obtain ⟨c0, c1, c2, c3, c4, f0, f1, f2, f3, f4⟩ := HK3.out.at
          go_wp2
          (try simp only [Exit.inBlock, Exit.then])
          refine ret_cell rfl rfl (HK3.out.set _ _ _ _ _) Tryz.underlying38 rfl (by kernel_rfl) rfl ?_
          exact ⟨set5_below HB3.out (Nat.le_refl _) _ _ _ _ _, .inr ⟨HA.out, rfl⟩⟩
    | none =>
      have HA : Hid (pieceL (k == 0) ((bts s).drop k) = some (⟨4, [], x, [], false⟩, m)) := Lib.hid (by rw [HP.out, text_ok hm hu hg])
      have HG : Hid (FindC (s.extract k E) 0 ⟨#[93, 93, 62]⟩ (-1)) := Lib.hid (fun W => by
        have := HFE W
        rw [hg] at this
        exact this)
      have HI : Hid (((k + m : Nat) : Int) = (E : Int)) := Lib.hid (by omega)
      clear h0 h1 h2 h3 h4 hu hE hfz hx hm hxs HUR HFE hg
      rcases hfe with ⟨rfl, rfl⟩ | rfl
      all_goals
        go_enter Tryz.func24, Tryz.ntmps24
        cases hkb : ((k : Int) == 0)
        case' true =>
          have HX := HX (by simpa using hkb)
          go_wp2_with fail
          refine (HX.out _).mono ?_
          rintro e w2 ⟨rfl, rfl⟩
          go_wp2_with fail
        case' false => go_wp2_with fail
        all_goals
          refine (HC.out _).mono ?_
          rintro e w2 ⟨rfl, rfl⟩
          go_wp2_with fail
          refine (HD.out _).mono ?_
          rintro e w2 ⟨rfl, rfl⟩
          go_wp2_with fail
          refine (HS.out _).mono ?_
          rintro e w2 ⟨rfl, rfl⟩
          go_wp2_with fail
          refine (HO.out _).mono ?_
          rintro e w2 ⟨rfl, rfl⟩
          go_wp2_with fail
          refine (HF.out _).mono ?_
          rintro e w2 ⟨rfl, rfl⟩
          go_wp2_with fail
          refine (HUN.out _).mono ?_
          rintro e w3 ⟨rfl, hb3⟩
          have HK3 := Lib.hid (HK0.out.below hb3)
          have HB3 := Lib.hid (th HB0.out (Nat.le_refl _) hb3)
          clear hb3
          go_wp2_with fail
          refine (HG.out _).mono ?_
          rintro e w2 ⟨rfl, rfl⟩
          obtain ⟨c0, c1, c2, c3, c4, f0, f1, f2, f3, f4⟩ := HK3.out.at
          go_wp2
          (try simp only [Exit.inBlock, Exit.then])
          refine ret_cell rfl rfl (HK3.out.set _ _ _ _ _) Tryz.underlying38 rfl (by kernel_rfl) rfl ?_
          refine ⟨set5_below HB3.out (Nat.le_refl _) _ _ _ _ _, .inl ⟨_, _, .slice none 0 0, HA.out, ?_, World.ownsRow_nil _ _ _ _⟩⟩
          unfold tokCells
          rw [HI.out]
          rfl
end Go.Proofs.YtihijgghcecpmaaGreatDoor.U

/- The contract of the document's answer for layer 3: Piece, an Open. -/
namespace Go.Proofs.YtihijgghcecpmaaGreatDoor.U
open Go.RowKit Go.Shelf

set_option maxHeartbeats 4000000 in
set_option maxRecDepth 10000 in
theorem pieceOpen_any (s : ByteArray) (k : Nat) (w : World) (hk : k < s.size) (hs : s.size ≤ 100000) (h0 : ¬ ((k == 0) = true ∧ begL sXml ((bts s).drop k) = true)) (h1 : begL sCom ((bts s).drop k) = false) (h2 : begL sCd ((bts s).drop k) = false) (h3 : begL [60, 47] ((bts s).drop k) = false) (h4 : begL [60] ((bts s).drop k) = true) :
    Calls Tryz.prog 24 #[.string s, .int .i64 k] w fun e w' => PiecePost k (pieceL (k == 0) ((bts s).drop k)) w e w' := by
  have hl := bts_len s
  have HP := Lib.hid (pc_open h0 h1 h2 h3 h4)
  have HX : k = 0 → Hid (BegC s 0 ⟨#[60, 63, 120, 109, 108]⟩ false) := fun e => Lib.hid (by
    subst e
    exact beg_c (k := 0) (by omega) hs (by decide) (by cases hb : begL sXml (bts s) with | false => exact hb | true => exact absurd ⟨rfl, hb⟩ h0))
  have HC : Hid (BegC s k ⟨#[60, 33, 45, 45]⟩ false) := Lib.hid (beg_c (by omega) hs (by decide) h1)
  have HD : Hid (BegC s k ⟨#[60, 33, 91, 67, 68, 65, 84, 65, 91]⟩ false) := Lib.hid (beg_c (by omega) hs (by decide) h2)
  have HS : Hid (BegC s k ⟨#[60, 47]⟩ false) := Lib.hid (beg_c (by omega) hs (by decide) h3)
  have HO : Hid (BegC s k ⟨#[60]⟩ true) := Lib.hid (beg_c (by omega) hs (by decide) h4)
  have HOP := Lib.hid (fun W => open_any s k W hk hs)
  clear h0 h1 h2 h3 h4
  have HK0 := Lib.hid (Box5.new w)
  have HB0 : Hid (Below w.heap.size w (w.alloc (.cells #[.int .i64 0, .string ⟨#[]⟩, .string ⟨#[]⟩, .slice none 0 0, .bool false] 38))) := Lib.hid ((Below.refl _ w).alloc (Nat.le_refl _) _)
  go_enter Tryz.func24, Tryz.ntmps24
  cases hkb : ((k : Int) == 0)
  case' true =>
    have HX := HX (by simpa using hkb)
    go_wp2_with fail
    refine (HX.out _).mono ?_
    rintro e w2 ⟨rfl, rfl⟩
    go_wp2_with fail
  case' false => go_wp2_with fail
  all_goals
    refine (HC.out _).mono ?_
    rintro e w2 ⟨rfl, rfl⟩
    go_wp2_with fail
    refine (HD.out _).mono ?_
    rintro e w2 ⟨rfl, rfl⟩
    go_wp2_with fail
    refine (HS.out _).mono ?_
    rintro e w2 ⟨rfl, rfl⟩
    go_wp2_with fail
    refine (HO.out _).mono ?_
    rintro e w2 ⟨rfl, rfl⟩
    go_wp2_with fail
    refine (HOP.out _).mono ?_
    rintro e w3 ⟨hb3, ⟨t, n, v, ho, rfl, hv⟩ | ⟨ho, rfl⟩⟩
    · obtain ⟨va, vc, rfl⟩ := own_slice hv
      have HA : Hid (pieceL (k == 0) ((bts s).drop k) = some (t, n)) := Lib.hid (by rw [HP.out, ho])
      have HK3 := Lib.hid (HK0.out.below hb3)
      have HB3 := Lib.hid (th HB0.out (Nat.le_refl _) hb3)
      have HV := Lib.hid hv
      clear hb3 hv ho
      unfold tokCells
      obtain ⟨c0, c1, c2, c3, c4, f0, f1, f2, f3, f4⟩ := HK3.out.at
      go_wp2
      (try simp only [Exit.inBlock, Exit.then])
      refine ret_cell rfl rfl (HK3.out.set _ _ _ _ _) Tryz.underlying38 rfl (by kernel_rfl) rfl ?_
      exact ⟨set5_below HB3.out (Nat.le_refl _) _ _ _ _ _, .inl ⟨_, _, _, HA.out, rfl, own_mono (own_set5 HV.out (by simp) _ _ _ _ _) (by simp)⟩⟩
    · have HA : Hid (pieceL (k == 0) ((bts s).drop k) = none) := Lib.hid (by rw [HP.out, ho])
      have HK3 := Lib.hid (HK0.out.below hb3)
      have HB3 := Lib.hid (th HB0.out (Nat.le_refl _) hb3)
      clear hb3 ho
      unfold tokCells
      obtain ⟨c0, c1, c2, c3, c4, f0, f1, f2, f3, f4⟩ := HK3.out.at
      go_wp2
      (try simp only [Exit.inBlock, Exit.then])
      refine ret_cell rfl rfl (HK3.out.set _ _ _ _ _) Tryz.underlying38 rfl (by kernel_rfl) rfl ?_
      exact ⟨set5_below HB3.out (Nat.le_refl _) _ _ _ _ _, .inr ⟨HA.out, rfl⟩⟩
end Go.Proofs.YtihijgghcecpmaaGreatDoor.U

/- The contract of the document's answer for layer 3: Piece, character data. -/
namespace Go.Proofs.YtihijgghcecpmaaGreatDoor.U
open Go.RowKit Go.Shelf

set_option maxHeartbeats 4000000 in
set_option maxRecDepth 10000 in
theorem pieceCd_any (s : ByteArray) (k : Nat) (w : World) (hk : k < s.size) (hs : s.size ≤ 100000) (h0 : ¬ ((k == 0) = true ∧ begL sXml ((bts s).drop k) = true)) (h1 : begL sCom ((bts s).drop k) = false) (h2 : begL sCd ((bts s).drop k) = true) :
    Calls Tryz.prog 24 #[.string s, .int .i64 k] w fun e w' => PiecePost k (pieceL (k == 0) ((bts s).drop k)) w e w' := by
  have hl := bts_len s
  have HP := Lib.hid (pc_cd h0 h1 h2)
  have hk9 : k + 9 ≤ s.size := by
    have := begL_len h2
    rw [List.length_drop, hl] at this
    simp [sCd] at this
    omega
  have HX : k = 0 → Hid (BegC s 0 ⟨#[60, 63, 120, 109, 108]⟩ false) := fun e => Lib.hid (by
    subst e
    exact beg_c (k := 0) (by omega) hs (by decide) (by cases hb : begL sXml (bts s) with | false => exact hb | true => exact absurd ⟨rfl, hb⟩ h0))
  have HC : Hid (BegC s k ⟨#[60, 33, 45, 45]⟩ false) := Lib.hid (beg_c (by omega) hs (by decide) h1)
  have HD : Hid (BegC s k ⟨#[60, 33, 91, 67, 68, 65, 84, 65, 91]⟩ true) := Lib.hid (beg_c (by omega) hs (by decide) h2)
  have hd9 : ((bts s).drop k).drop 9 = (bts s).drop (k + 9) := by rw [List.drop_drop]
  cases hf : findL sEnd ((bts s).drop (k + 9)) with
  | none =>
    have HF : Hid (FindC s ((k : Int) + 9) ⟨#[93, 93, 62]⟩ (-1)) := Lib.hid (find_c (k := k + 9) hk9 hs (by decide) (by rw [show bts ⟨#[93, 93, 62]⟩ = sEnd from rfl, hf]; rfl))
    have HA : Hid (pieceL (k == 0) ((bts s).drop k) = none) := Lib.hid (by rw [HP.out, cd_none (by rw [hd9]; exact hf)])
    clear h0 h1 h2 hf hd9
    go_enter Tryz.func24, Tryz.ntmps24
    cases hkb : ((k : Int) == 0)
    case' true =>
      have HX := HX (by simpa using hkb)
      go_wp2_with fail
      refine (HX.out _).mono ?_
      rintro e w2 ⟨rfl, rfl⟩
      go_wp2_with fail
    case' false => go_wp2_with fail
    all_goals
      refine (HC.out _).mono ?_
      rintro e w2 ⟨rfl, rfl⟩
      go_wp2_with fail
      refine (HD.out _).mono ?_
      rintro e w2 ⟨rfl, rfl⟩
      go_wp2_with fail
      refine (HF.out _).mono ?_
      rintro e w2 ⟨rfl, rfl⟩
      go_wp2
      (try simp only [Exit.inBlock, Exit.then])
      refine ret_cell rfl rfl (Box5.made _ _ _ _ _) Tryz.underlying38 rfl (by kernel_rfl) rfl ?_
      exact ⟨(Below.refl _ w).alloc (Nat.le_refl _) _, .inr ⟨HA.out, rfl⟩⟩
  | some e =>
    have hel := findL_len hf
    rw [List.length_drop, hl] at hel
    simp only [sEnd, List.length_cons, List.length_nil] at hel
    obtain ⟨E, hE⟩ : ∃ E, E = k + 9 + e := ⟨_, rfl⟩
    have hEs : E < s.size := by omega
    have hkE : k + 9 ≤ E := by omega
    have hkE2 : (k : Int) + 9 ≤ E := by omega
    have HF : Hid (FindC s ((k : Int) + 9) ⟨#[93, 93, 62]⟩ E) := Lib.hid (find_c (k := k + 9) hk9 hs (by decide) (by rw [show bts ⟨#[93, 93, 62]⟩ = sEnd from rfl, hf, hE]; rfl))
    have HA : Hid (pieceL (k == 0) ((bts s).drop k) = some (⟨4, [], bts (s.extract (k + 9) E), [], false⟩, e + 12)) := Lib.hid (by
      rw [HP.out, cd_ok (by rw [hd9]; exact hf), hd9, bts_extract, List.take_drop, hE])
    have HI : Hid (((k + (e + 12) : Nat) : Int) = (E : Int) + 3) := Lib.hid (by omega)
    clear h0 h1 h2 hf hd9 hE hel
    go_enter Tryz.func24, Tryz.ntmps24
    cases hkb : ((k : Int) == 0)
    case' true =>
      have HX := HX (by simpa using hkb)
      go_wp2_with fail
      refine (HX.out _).mono ?_
      rintro e w2 ⟨rfl, rfl⟩
      go_wp2_with fail
    case' false => go_wp2_with fail
    all_goals
      refine (HC.out _).mono ?_
      rintro e w2 ⟨rfl, rfl⟩
      go_wp2_with fail
      refine (HD.out _).mono ?_
      rintro e w2 ⟨rfl, rfl⟩
      go_wp2_with fail
      refine (HF.out _).mono ?_
      rintro e w2 ⟨rfl, rfl⟩
      go_wp2
      (try simp only [Exit.inBlock, Exit.then])
      refine ret_cell rfl rfl (Box5.made _ _ _ _ _) Tryz.underlying38 rfl (by kernel_rfl) rfl ?_
      refine ⟨(Below.refl _ w).alloc (Nat.le_refl _) _, .inl ⟨_, _, .slice none 0 0, HA.out, ?_, World.ownsRow_nil _ _ _ _⟩⟩
      unfold tokCells
      simp only [mk_bts, HI.out]
      rfl
end Go.Proofs.YtihijgghcecpmaaGreatDoor.U

/- The contract of the document's answer for layer 3: Piece, whole. -/
namespace Go.Proofs.YtihijgghcecpmaaGreatDoor.U
open Go.RowKit Go.Shelf

theorem piece_any (s : ByteArray) (k : Nat) (w : World) (hk : k < s.size) (hs : s.size ≤ 100000) :
    Calls Tryz.prog 24 #[.string s, .int .i64 k] w fun e w' => PiecePost k (pieceL (k == 0) ((bts s).drop k)) w e w' := by
  by_cases h0 : (k == 0) = true ∧ begL sXml ((bts s).drop k) = true
  · obtain ⟨h1, h2⟩ := h0
    obtain rfl : k = 0 := by simpa using h1
    exact pieceDec_any s w hk hs h2
  cases h1 : begL sCom ((bts s).drop k) with
  | true => exact pieceCom_any s k w hk hs h0 h1
  | false =>
    cases h2 : begL sCd ((bts s).drop k) with
    | true => exact pieceCd_any s k w hk hs h0 h1 h2
    | false =>
      cases h3 : begL [60, 47] ((bts s).drop k) with
      | true => exact pieceClose_any s k w hk hs h0 h1 h2 h3
      | false =>
        cases h4 : begL [60] ((bts s).drop k) with
        | true => exact pieceOpen_any s k w hk hs h0 h1 h2 h3 h4
        | false => exact pieceText_any s k w hk hs h0 h1 h2 h3 h4
end Go.Proofs.YtihijgghcecpmaaGreatDoor.U

/- The contract of the document's answer for layer 3: All. -/
namespace Go.Proofs.YtihijgghcecpmaaGreatDoor.U
open Go.RowKit Go.Shelf

/-- A row of pieces that the call owns: each with its attributes' value. -/
def tvCells (l : List (Tok × Value)) : List Value := l.flatMap fun x => (tokCells x.1 x.2).toList
def TokRow (w : World) (base : Nat) (v : Value) (l : List (Tok × Value)) : Prop :=
  w.ownsRow base 38 5 v l.length (tvCells l) ∧ ∀ x ∈ l, w.ownsRow base 48 2 x.2 x.1.attrs.length (attrCells x.1.attrs)
theorem own_ne {w : World} {base base' size size' n n' : Nat} {e e' : TypeId} {v v' : Value} {xs xs' : List Value} (h : w.ownsRow base e size v n xs) (h' : w.ownsRow base' e' size' v' n' xs') (hne : e ≠ e') : v.ownBlock = none ∨ v.ownBlock ≠ v'.ownBlock := by
  rcases h.2 with ⟨rfl, _⟩ | ⟨g, cap, cur, rfl, _, hg, _⟩
  · exact .inl rfl
  · refine .inr fun he => ?_
    rcases h'.2 with ⟨rfl, _⟩ | ⟨g', cap', cur', rfl, _, hg', _⟩
    · simp [Value.ownBlock] at he
    · simp only [Value.ownBlock, Option.some.injEq] at he
      subst he
      rw [hg] at hg'
      simp only [Option.some.injEq, Obj.cells.injEq] at hg'
      exact hne hg'.2.1
theorem TokRow.below {w w' : World} {base : Nat} {v : Value} {l : List (Tok × Value)} (h : TokRow w base v l) (hb : Below w.heap.size w w') : TokRow w' base v l :=
  ⟨ownBelow h.1 hb, fun x hx => ownBelow (h.2 x hx) hb⟩
theorem TokRow.more {w w' : World} {base : Nat} {v v' : Value} {l : List (Tok × Value)} {x : Tok × Value} (h : TokRow w base v l) (hx : w.ownsRow base 48 2 x.2 x.1.attrs.length (attrCells x.1.attrs))
    (h1 : w'.ownsRow base 38 5 v' (l.length + 1) (tvCells l ++ (tokCells x.1 x.2).toList)) (hg : w.grownBy w' v.ownBlock) : TokRow w' base v' (l ++ [x]) := by
  refine ⟨?_, fun y hy => ?_⟩
  · rw [List.length_append, List.length_singleton, show tvCells (l ++ [x]) = tvCells l ++ (tokCells x.1 x.2).toList by unfold tvCells; rw [List.flatMap_append]; simp]
    exact h1
  · rcases List.mem_append.1 hy with h2 | h2
    · exact (h.2 y h2).kept hg (own_ne (h.2 y h2) h.1 (by decide))
    · obtain rfl := List.mem_singleton.1 h2
      exact hx.kept hg (own_ne hx h.1 (by decide))

/-- What All leaves. -/
def AllPost3 (o : Except Nat (List Tok)) (w : World) (e : Ending) (w' : World) : Prop :=
  Below w.heap.size w w' ∧ ((∃ v l, o = .ok (l.map (·.1)) ∧ e = .returned (.tuple #[v, .int .i64 (-1)]) ∧ TokRow w' w.heap.size v l) ∨
    (∃ p : Nat, o = .error p ∧ e = .returned (.tuple #[.slice none 0 0, .int .i64 p])))

theorem allA_cons {f p : Nat} {acc : List Tok} {l : List UInt8} (h : l ≠ []) : allA (f + 1) p acc l = match pieceL (p == 0) l with
    | none => .error p
    | some (x, n) => allA f (p + n) (acc ++ [x]) (l.drop n) := by
  cases l with
  | nil => exact absurd rfl h
  | cons c t => rfl
theorem infoT : (Tryz.prog.info? 38).map (fun i => (i.zero, i.size, i.bytes)) = some (some (.agg #[.int .i64 0, .string ⟨#[]⟩, .string ⟨#[]⟩, .slice none 0 0, .bool false]), 5, 72) := by kernel_rfl
theorem cell_five_new (w : World) (a b c d e : Value) (t : TypeId) : ∀ j u, [a, b, c, d, e][j]? = some u → (w.alloc (.cells #[a, b, c, d, e] t)).cell? ((⟨w.heap.size, 0, none⟩ : Addr).add j) = some u := by
  intro j u hj
  match j, hj with
  | 0, hj => simp at hj; subst hj; simp [Addr.add]
  | 1, hj => simp at hj; subst hj; simp [Addr.add]
  | 2, hj => simp at hj; subst hj; simp [Addr.add]
  | 3, hj => simp at hj; subst hj; simp [Addr.add]
  | 4, hj => simp at hj; subst hj; simp [Addr.add]

set_option maxHeartbeats 4000000 in
set_option maxRecDepth 10000 in
theorem all3_any (s : ByteArray) (w : World) (hs : s.size ≤ 100000) (hw : Whole (bts s)) (h13 : ∀ b ∈ bts s, b ≠ 13) :
    Calls Tryz.prog 11 #[.string s] w fun e w' => AllPost3 (allL3 (bts s)) w e w' := by
  have hl := bts_len s
  have HIT := Lib.hid infoT
  have H13 := Lib.hid h13
  have HW := Lib.hid hw
  clear h13 hw
  go_enter Tryz.func11, Tryz.ntmps11
  go_wp2_with fail
  go_loopw [4, 5] (fun v i wr => ∃ (p f : Nat) (l : List (Tok × Value)), p ≤ s.size ∧ s.size - p ≤ f ∧ i = .int .i64 p ∧ l.length ≤ p ∧ Hid (Whole ((bts s).drop p)) ∧ Hid (allL3 (bts s) = allA f p (l.map (·.1)) ((bts s).drop p)) ∧ Hid (TokRow wr w.heap.size v l) ∧ Hid (Below w.heap.size w wr)) (fun _ i _ => s.size - (intOf i).toNat)
  case atStart => exact ⟨0, s.size, [], by omega, by omega, rfl, by simp, HW, Lib.hid (by unfold allL3; rw [hl]; rfl), Lib.hid ⟨World.ownsRow_nil _ _ _ _, fun x hx => by cases hx⟩, Lib.hid (Below.refl _ _)⟩
  case round =>
    obtain ⟨p, f, l, hp, hf, rfl, hll, HWP, HA, HT, HB⟩ := hrel
    by_cases hlt : p < s.size
    · obtain ⟨f, rfl⟩ : ∃ g, f = g + 1 := ⟨f - 1, by omega⟩
      have hne : (bts s).drop p ≠ [] := by rw [bts_drop s p hlt]; simp
      have h13p : ∀ b ∈ (bts s).drop p, b ≠ 13 := fun b hb => H13.out b (List.mem_of_mem_drop hb)
      have HPC := Lib.hid (fun W => piece_any s p W hlt hs)
      have HST := Lib.hid (allA_cons (f := f) (p := p) (acc := l.map (·.1)) hne)
      cases hpc : pieceL (p == 0) ((bts s).drop p) with
      | none =>
        have HC : Hid (∀ W, Calls Tryz.prog 24 #[.string s, .int .i64 p] W fun e w' => Below W.heap.size W w' ∧ e = .returned (.tuple #[.agg #[.int .i64 0, .string ⟨#[]⟩, .string ⟨#[]⟩, .slice none 0 0, .bool false], .int .i64 (-1)])) := Lib.hid (fun W => (HPC.out W).mono (by
          rintro e w' ⟨h1, ⟨_, _, _, h2, _⟩ | ⟨_, h2⟩⟩
          · rw [hpc] at h2; cases h2
          · exact ⟨h1, h2⟩))
        have HE : Hid (allL3 (bts s) = .error p) := Lib.hid (by rw [HA.out, HST.out, hpc])
        clear hne h13p hpc
        go_wp2_with fail
        refine (HC.out _).mono ?_
        rintro e w2 ⟨hb2, rfl⟩
        have HB2 := Lib.hid (al (th HB.out (Nat.le_refl _) hb2) (Nat.le_refl _) (.cells #[.int .i64 0, .string ⟨#[]⟩, .string ⟨#[]⟩, .slice none 0 0, .bool false] 38))
        clear hb2
        go_wp2
        go_ret2
        exact ⟨HB2.out, .inr ⟨p, HE.out, rfl⟩⟩
      | some y =>
        obtain ⟨t, n⟩ := y
        obtain ⟨_, hn1, hn2, _, hwn⟩ := piece_ok HWP.out h13p hne hpc
        rw [List.length_drop, hl] at hn2
        rw [List.drop_drop] at hwn
        obtain ⟨q, hq⟩ : ∃ q, q = p + n := ⟨_, rfl⟩
        have HC : Hid (∀ W, Calls Tryz.prog 24 #[.string s, .int .i64 p] W fun e w' => Below W.heap.size W w' ∧ ∃ va vc, e = .returned (.tuple #[.agg #[.int .i64 t.kind, .string ⟨t.name.toArray⟩, .string ⟨t.text.toArray⟩, .slice va t.attrs.length vc, .bool t.empty], .int .i64 q]) ∧ w'.ownsRow W.heap.size 48 2 (.slice va t.attrs.length vc) t.attrs.length (attrCells t.attrs)) := Lib.hid (fun W => (HPC.out W).mono (by
          rintro e w' ⟨h1, ⟨t', n', v', h2, h3, h4⟩ | ⟨h2, _⟩⟩
          · rw [hpc] at h2
            obtain ⟨rfl, rfl⟩ := Prod.mk.inj (Option.some.inj h2)
            obtain ⟨va, vc, rfl⟩ := own_slice h4
            exact ⟨h1, va, vc, by rw [h3, hq]; rfl, h4⟩
          · rw [hpc] at h2; cases h2))
        rw [← hq] at hwn
        have HWN := Lib.hid hwn
        have HE : Hid (allL3 (bts s) = allA f q (l.map (·.1) ++ [t]) ((bts s).drop q)) := Lib.hid (by rw [HA.out, HST.out, hpc]; simp only [List.drop_drop, ← hq])
        have hqs : q ≤ s.size := by omega
        have hpq : p < q := by omega
        have hqn : ¬ ((q : Int) < 0) := by omega
        clear hne h13p hpc hwn hn1 hn2 hq
        go_wp2_with fail
        refine (HC.out _).mono ?_
        rintro e w2 ⟨hb2, va, vc, rfl, hrow⟩
        have HT2 := Lib.hid ((HT.out.below hb2).below ((Below.refl _ w2).alloc (Nat.le_refl _) (.cells #[.int .i64 t.kind, .string ⟨t.name.toArray⟩, .string ⟨t.text.toArray⟩, .slice va t.attrs.length vc, .bool t.empty] 38)))
        have HB2 := Lib.hid (al (th HB.out (Nat.le_refl _) hb2) (Nat.le_refl _) (.cells #[.int .i64 t.kind, .string ⟨t.name.toArray⟩, .string ⟨t.text.toArray⟩, .slice va t.attrs.length vc, .bool t.empty] 38))
        have HR2 := Lib.hid ((own_mono hrow HB.out.size).alloc (.cells #[.int .i64 t.kind, .string ⟨t.name.toArray⟩, .string ⟨t.text.toArray⟩, .slice va t.attrs.length vc, .bool t.empty] 38))
        have HK2 := Lib.hid (Box5.made t.kind ⟨t.name.toArray⟩ ⟨t.text.toArray⟩ (.slice va t.attrs.length vc) w2 (em := t.empty))
        clear hb2 hrow
        obtain ⟨c0, c1, c2, c3, c4, _⟩ := HK2.out.at
        obtain ⟨i0, hi, hz0, hz1, hz2⟩ := info_parts HIT.out
        have HN2 := Lib.hid (cell_five_new (w2.alloc (.cells #[.int .i64 t.kind, .string ⟨t.name.toArray⟩, .string ⟨t.text.toArray⟩, .slice va t.attrs.length vc, .bool t.empty] 38)) (.int .i64 t.kind) (.string ⟨t.name.toArray⟩) (.string ⟨t.text.toArray⟩) (.slice va t.attrs.length vc) (.bool t.empty) 38)
        rw [show (w2.alloc (.cells #[.int .i64 t.kind, .string ⟨t.name.toArray⟩, .string ⟨t.text.toArray⟩, .slice va t.attrs.length vc, .bool t.empty] 38)).heap.size = w2.heap.size + 1 by simp] at HN2
        go_wp2_with (at_builtin; go_loud (refine wpList_append_own _ rfl _ _ 31 rfl w.heap.size 38 i0 (.agg #[.int .i64 0, .string ⟨#[]⟩, .string ⟨#[]⟩, .slice none 0 0, .bool false]) 5 72 Tryz.underlying31 hi hz0 hz1 hz2 rfl (by decide) _ _ _ rfl (HT2.out.1.alloc _) ⟨w2.heap.size + 1, 0, none⟩ 1 1 [.int .i64 t.kind, .string ⟨t.name.toArray⟩, .string ⟨t.text.toArray⟩, .slice va t.attrs.length vc, .bool t.empty] rfl rfl HN2.out (by simp [Value.oneCell']) (by unfold maxLen; omega) (by omega) (by have := HB2.out.size; simp at this ⊢; omega) ?_); intro v5 w5 hown5 hgrow5 _)
        refine ⟨⟨q, f, l ++ [(t, .slice va t.attrs.length vc)], hqs, by omega, rfl, by simp; omega, HWN, ?_, ?_, ?_⟩, by show s.size - ((q : Int)).toNat < s.size - ((p : Int)).toNat; omega⟩
        · exact Lib.hid (by rw [HE.out, List.map_append]; rfl)
        · exact Lib.hid ((HT2.out.below ((Below.refl _ _).alloc (Nat.le_refl _) _)).more (HR2.out.alloc _) hown5 hgrow5)
        · exact Lib.hid (Below.grown (al HB2.out (Nat.le_refl _) _) hgrow5 (by have := HB2.out.size; simp at this ⊢; omega) (fun k e => (HT2.out.1.lt k e).1))
    · obtain rfl : p = s.size := by omega
      have HE : Hid (allL3 (bts s) = .ok (l.map (·.1))) := Lib.hid (by
        rw [HA.out, List.drop_of_length_le (by omega)]
        cases f <;> rfl)
      go_wp2
      go_ret2
      exact ⟨HB.out, .inl ⟨_, l, HE.out, rfl, HT.out⟩⟩
end Go.Proofs.YtihijgghcecpmaaGreatDoor.U

/- The contract of the document's answer for layer 3: Lines. -/
namespace Go.Proofs.YtihijgghcecpmaaGreatDoor.U
open Go.RowKit Go.Shelf

theorem lines_keep {c : UInt8} {t : List UInt8} (h : c ≠ 13) : linesL (c :: t) = c :: linesL t := by simp only [linesL]; rw [if_neg h]
theorem lines_both {c : UInt8} {t : List UInt8} (h : c = 13) (h2 : t.head? = some 10) : linesL (c :: t) = linesL t := by simp only [linesL]; rw [if_pos h, if_pos h2]
theorem lines_one {c : UInt8} {t : List UInt8} (h : c = 13) (h2 : t.head? ≠ some 10) : linesL (c :: t) = 10 :: linesL t := by simp only [linesL]; rw [if_pos h, if_neg h2]

set_option maxRecDepth 20000 in
set_option maxHeartbeats 2000000 in
theorem lines_any (a : Option Addr) (len cap : Nat) (l : List UInt8) (w : World) (hz : Byt w a len cap (ints l)) (hlen : len ≤ 100000) :
    Calls Tryz.prog 12 #[.slice a len cap] w fun e w' => e = .returned (.string ⟨(linesL l).toArray⟩) ∧ Below w.heap.size w w' := by
  have hcap := hz.leCap
  have hll : l.length = len := by have := hz.eqLen; unfold ints at this; rw [List.length_map] at this; omega
  obtain ⟨i0, hi, hz0, hz1, hz2⟩ := info_parts info5
  obtain ⟨b, off, hab, hcell⟩ : ∃ b off, (0 < len → a = some ⟨b, off, none⟩) ∧ ∀ i (h : i < l.length), w.cell? ⟨b, off + i, none⟩ = some (.int .u8 ((l[i]'h).toNat : Int)) := by
    by_cases h0 : 0 < len
    · obtain ⟨b, off, h1, h2⟩ := hz.cells h0
      refine ⟨b, off, fun _ => h1, fun i hi => ?_⟩
      rw [h2 i (by omega)]
      unfold ints
      rw [List.getElem?_map, List.getElem?_eq_getElem hi]
      rfl
    · exact ⟨0, 0, fun h => absurd h h0, fun i hi => absurd hi (by omega)⟩
  have hbB : 0 < len → b < w.heap.size := fun h => by have := block_lt_of_cell (hcell 0 (by omega)); simpa using this
  have HAB := Lib.hid hab
  have HC := Lib.hid hcell
  have HBB := Lib.hid hbB
  have HLL := Lib.hid hll
  clear hz hab hcell hbB hll
  go_enter Tryz.func12, Tryz.ntmps12
  go_wp2_with fail
  go_loopw [3, 4] (fun v i wr => ∃ (p : Nat) (pre : List UInt8), p ≤ len ∧ i = .int .i64 p ∧ pre.length ≤ p ∧ Hid (pre ++ linesL (l.drop p) = linesL l) ∧ Hid (wr.ownsRow w.heap.size 5 1 v pre.length (Lib.byteCells pre)) ∧ Hid (Below w.heap.size w wr))
    (fun _ i _ => len - (intOf i).toNat)
  case atStart => exact ⟨0, [], by omega, rfl, by simp, Lib.hid rfl, Lib.hid (World.ownsRow_nil _ _ _ _), Lib.hid (Below.refl _ _)⟩
  case round =>
    obtain ⟨p, pre, hp, rfl, hpl, HF, HO, HB⟩ := hrel
    by_cases hlt : p < len
    · obtain rfl := HAB.out (by omega)
      have hpl2 : p < l.length := by rw [HLL.out]; exact hlt
      have hd : l.drop p = l[p] :: l.drop (p + 1) := List.drop_eq_getElem_cons hpl2
      have hcl : ∀ i (h : i < l.length), wr.cell? ⟨b, off + i, none⟩ = some (.int .u8 ((l[i]'h).toNat : Int)) := fun i h => (HB.out.cell (p := ⟨b, off + i, none⟩) (HBB.out (by omega))).trans (HC.out i h)
      have c0 := hcl p hpl2
      have hB1 : (l[p]'hpl2).toNat < 256 := UInt8.toNat_lt _
      by_cases h13 : (l[p]'hpl2).toNat = 13
      · have hc13 : l[p] = 13 := UInt8.toNat.inj h13
        have hb13 : ((((l[p]'hpl2).toNat : Int)) == 13) = true := by rw [h13]; rfl
        by_cases hnx : p + 1 < len
        · have hpn : p + 1 < l.length := by rw [HLL.out]; exact hnx
          have c1 : wr.cell? ⟨b, off + (p + 1), none⟩ = some (.int .u8 ((l[p + 1]'hpn).toNat : Int)) := hcl (p + 1) hpn
          have hh : (l.drop (p + 1)).head? = some (l[p + 1]'hpn) := by rw [List.drop_eq_getElem_cons hpn]; rfl
          have hnx2 : ¬ ((len : Int) ≤ (p : Int) + 1) := by omega
          by_cases h10 : (l[p + 1]'hpn).toNat = 10
          · have hb10 : ((((l[p + 1]'hpn).toNat : Int)) == 10) = true := by rw [h10]; rfl
            have HN : Hid (pre ++ linesL (l.drop (p + 1)) = linesL l) := Lib.hid (by rw [← HF.out, hd, lines_both hc13 (by rw [hh]; congr 1; exact UInt8.toNat.inj h10)])
            clear hd hcl h13 hc13 hh h10
            go_wp2
            all_goals (try (exfalso; simp_all; done))
            exact ⟨⟨p + 1, pre, by omega, by go_num, by omega, HN, HO, HB⟩, by simp [intOf]; omega⟩
          · have hb10 : ((((l[p + 1]'hpn).toNat : Int)) == 10) = false := by rw [beq_eq_false_iff_ne]; omega
            have HN : Hid ((pre ++ [10]) ++ linesL (l.drop (p + 1)) = linesL l) := Lib.hid (by
              rw [← HF.out, hd, lines_one hc13 (by rw [hh]; intro e; exact h10 (by rw [Option.some.inj e]; rfl)), List.append_assoc]; rfl)
            clear hd hcl h13 hc13 hh h10
            go_wp2_with (at_builtin; refine wpList_append_own _ rfl _ _ 22 rfl w.heap.size 5 i0 (.int .u8 0) 1 1 Tryz.underlying22 hi hz0 hz1 hz2 rfl (by decide) _ _ _ rfl (HO.out.alloc _) ⟨wr.heap.size, 0, none⟩ 1 1 [.int .u8 10] rfl rfl (cell_one_new _ _ _) (by simp [Value.oneCell']) (by unfold maxLen; omega) (by omega) (by have := HB.out.size; simp; omega) ?_; intro v3 w3 hown3 hgrow3 _)
            all_goals (try (exfalso; simp_all; done))
            exact ⟨⟨p + 1, pre ++ [10], by omega, by go_num, by simp; omega, HN, Lib.hid (by rw [Lib.byteCells_append, List.length_append]; exact hown3), Lib.hid ((al HB.out (Nat.le_refl _) _).grown hgrow3 (by have := HB.out.size; simp; omega) (fun k e => (HO.out.lt k e).1))⟩, by simp [intOf]; omega⟩
        · have hnx2 : (len : Int) ≤ (p : Int) + 1 := by omega
          have HN : Hid ((pre ++ [10]) ++ linesL (l.drop (p + 1)) = linesL l) := Lib.hid (by
            rw [← HF.out, hd, lines_one hc13 (by rw [List.drop_of_length_le (by rw [HLL.out]; omega)]; simp), List.append_assoc]; rfl)
          clear hd hcl h13 hc13
          go_wp2_with (at_builtin; refine wpList_append_own _ rfl _ _ 22 rfl w.heap.size 5 i0 (.int .u8 0) 1 1 Tryz.underlying22 hi hz0 hz1 hz2 rfl (by decide) _ _ _ rfl (HO.out.alloc _) ⟨wr.heap.size, 0, none⟩ 1 1 [.int .u8 10] rfl rfl (cell_one_new _ _ _) (by simp [Value.oneCell']) (by unfold maxLen; omega) (by omega) (by have := HB.out.size; simp; omega) ?_; intro v3 w3 hown3 hgrow3 _)
          all_goals (try (exfalso; simp_all; done))
          exact ⟨⟨p + 1, pre ++ [10], by omega, by go_num, by simp; omega, HN, Lib.hid (by rw [Lib.byteCells_append, List.length_append]; exact hown3), Lib.hid ((al HB.out (Nat.le_refl _) _).grown hgrow3 (by have := HB.out.size; simp; omega) (fun k e => (HO.out.lt k e).1))⟩, by simp [intOf]; omega⟩
      · have hb13 : ((((l[p]'hpl2).toNat : Int)) == 13) = false := by rw [beq_eq_false_iff_ne]; omega
        have HN : Hid ((pre ++ [l[p]'hpl2]) ++ linesL (l.drop (p + 1)) = linesL l) := Lib.hid (by
          rw [← HF.out, hd, lines_keep (fun e => h13 (by rw [e]; rfl)), List.append_assoc]; rfl)
        clear hd hcl h13
        go_wp2_with (at_builtin; refine wpList_append_own _ rfl _ _ 22 rfl w.heap.size 5 i0 (.int .u8 0) 1 1 Tryz.underlying22 hi hz0 hz1 hz2 rfl (by decide) _ _ _ rfl (HO.out.alloc _) ⟨wr.heap.size, 0, none⟩ 1 1 [.int .u8 ((l[p]'hpl2).toNat : Int)] rfl rfl (cell_one_new _ _ _) (by simp [Value.oneCell']) (by unfold maxLen; omega) (by omega) (by have := HB.out.size; simp; omega) ?_; intro v3 w3 hown3 hgrow3 _)
        all_goals (try (exfalso; simp_all; done))
        exact ⟨⟨p + 1, pre ++ [l[p]'hpl2], by omega, by go_num, by simp; omega, HN, Lib.hid (by rw [Lib.byteCells_append, List.length_append]; exact hown3), Lib.hid ((al HB.out (Nat.le_refl _) _).grown hgrow3 (by have := HB.out.size; simp; omega) (fun k e => (HO.out.lt k e).1))⟩, by simp [intOf]; omega⟩
    · obtain rfl : p = len := by omega
      have HE : Hid (linesL l = pre) := Lib.hid (by rw [← HF.out, List.drop_of_length_le (by rw [HLL.out]; omega)]; simp [linesL])
      have hcb := conv_own _ _ _ _ HO.out
      go_wp2
      go_ret
      exact ⟨by rw [HE.out]; rfl, HB.out⟩
end Go.Proofs.YtihijgghcecpmaaGreatDoor.U
