/- A reader's words. -/
import Derived.Test.YtnaimmhdpjggmaaMw
namespace Go.Proofs.Ytnaimmhdpjggmaa.U
open Go.RowKit

theorem word_end {L : Wd} {k : Nat} (h : ∀ c ∈ L.take k, namedI c.toNat = true) (hk : k ≤ L.length) (he : k = L.length ∨ ∃ c, L[k]? = some c ∧ namedI c.toNat = false) : wordW L = L.take k ∧ (wordW L).length = k := by
  have e : wordW L = L.take k := by
    have e1 : L = L.take k ++ L.drop k := (List.take_append_drop k L).symm
    unfold wordW
    conv => lhs; rw [e1]
    rw [List.takeWhile_append_of_pos (by simpa using h)]
    have : (L.drop k).takeWhile (fun c => namedI c.toNat) = [] := by
      rcases he with rfl | ⟨c, hc, hn⟩
      · rw [List.drop_length]; rfl
      · have hlt := (List.getElem?_eq_some_iff.1 hc).1
        have e2 : L.drop k = c :: L.drop (k + 1) := by
          rw [List.drop_eq_getElem_cons hlt]
          have := (List.getElem?_eq_some_iff.1 hc).2
          rw [this]
        rw [e2, List.takeWhile_cons, if_neg (by simp [hn])]
    rw [this, List.append_nil]
  exact ⟨e, by rw [e, List.length_take]; omega⟩
theorem addS_left (st : PS) (ns : List Nd) : (addS st ns).left = st.left := by unfold addS; split <;> rfl
theorem bs_take {L : Wd} {k : Nat} : (bs L).extract 0 k = bs (L.take k) := by
  apply bts_inj
  rw [bts_extract, bs_bts, bs_bts]; rfl
theorem bs_drop {L : Wd} {k : Nat} : (bs L).extract k (bs L).size = bs (L.drop k) := by
  apply bts_inj
  rw [bts_extract, bs_bts, bs_bts, bs_size, List.take_of_length_le (Nat.le_refl _)]
theorem letter_named {c : Int} (h : letterI c = true) : namedI c = true := by
  simp only [letterI, namedI, decide_eq_true_eq] at h ⊢; omega
theorem name_one (x : UInt8) : nameL [x] = letterI x.toNat := by
  cases h : letterI x.toNat with
  | false => simp [nameL, allL, h]
  | true => simp [nameL, allL, h, letter_named h]
theorem name_two (c : UInt8) : nameL [97, c] = namedI c.toNat := by
  have e : letterI (97 : UInt8).toNat = true := by decide
  have e2 := letter_named e
  simp only [nameL, allL, List.take, List.all_cons, List.all_nil, e, e2, List.length_cons, List.length_nil]
  simp
theorem bs_at {L : Wd} {k : Nat} {c : UInt8} (h : L[k]? = some c) : bts ((bs L).extract k (k + 1)) = [c] := by
  rw [bts_extract, bs_bts]
  have hlt := (List.getElem?_eq_some_iff.1 h).1
  have e2 : L.drop k = c :: L.drop (k + 1) := by
    rw [List.drop_eq_getElem_cons hlt]
    have := (List.getElem?_eq_some_iff.1 h).2
    rw [this]
  rw [List.drop_take, e2, show k + 1 - k = 1 by omega]; rfl
/-- What a word leaves, once where it ends is known. -/
theorem word_tail (st : PS) (L : Wd) (k : Nat) (x : UInt8) (r : Wd) (hL : L = skipW st.left) (hx : L = x :: r) (hl : letterI x.toNat = true) (hk : wordW L = L.take k ∧ (wordW L).length = k) :
    wordS st = (true, { addS { st with left := L, long := st.long || decide (64 < k) } [⟨2, L.take k, 0, 0⟩] with left := L.drop k }) := by
  unfold wordS
  rw [← hL, hk.2, hk.1, if_pos (by rw [hx]; exact hl)]
def WordPost (rb : Nat) (st : PS) (w : World) (e : Ending) (w' : World) : Prop := e = .returned (.bool (wordS st).1) ∧ RdM w' rb (wordS st).2 ∧ Below rb w w'
set_option maxHeartbeats 8000000 in
set_option maxRecDepth 10000 in
theorem word_any (rb : Nat) (st : PS) (w : World) (h : RdM w rb st) (hl : st.left.length ≤ 65536) : Calls Try.prog 87 #[.pointer (some ⟨rb, 0, none⟩)] w fun e w' => WordPost rb st w e w' := by
  have HSK := Lib.hid (skip_any rb st w h)
  clear h
  obtain ⟨L, hL⟩ : ∃ L, L = skipW st.left := ⟨_, rfl⟩
  have HLEN : Hid (L.length ≤ 65536) := Lib.hid (by
    rw [hL]
    have := (List.dropWhile_sublist (l := st.left) (fun c : UInt8 => blankI c.toNat)).length_le
    unfold skipW; omega)
  have HL := Lib.hid hL
  clear hL hl
  have HNM := Lib.hid (fun s W => isName_any s W)
  go_enter Try.func87, Try.ntmps87
  go_wp2_with fail
  refine HSK.out.mono ?_
  rintro e w2 ⟨rfl, hr, hb⟩
  rw [← HL.out] at hr
  have HB := Lib.hid hb
  have HR := Lib.hid hr
  have hlt := hr.lt
  obtain ⟨v, h1, h2⟩ := hr.row
  have c0 := h1.cell (j := 0) rfl
  have c1 := h1.cell (j := 1) rfl
  have f0 := h1.froz 0
  have f1 := h1.froz 1
  clear hr hb h1 h2
  cases L with
  | nil =>
    have e0 : bs ([] : Wd) = ⟨#[]⟩ := rfl
    simp only [e0] at c0
    have HT : Hid (wordS st = (false, { st with left := [] })) := Lib.hid (by unfold wordS; rw [← HL.out]; rfl)
    go_wp2_with fail
    go_ret
    exact ⟨by rw [HT.out]; rfl, by rw [HT.out]; exact HR.out, HB.out⟩
  | cons x r =>
    have hsz := bs_size (x :: r)
    have hne := emp_no (s := bs (x :: r)) (by rw [hsz]; simp)
    have h11 : (1 : Int) ≤ (bs (x :: r)).size := by rw [hsz]; simp; omega
    have h12 : 1 ≤ (bs (x :: r)).size := by rw [hsz]; simp
    have hnm1 : nameL (bts ((bs (x :: r)).extract 0 1)) = letterI x.toNat := by rw [bs_head, bs_bts, name_one]
    have HN1 := Lib.hid (fun W => isName_any ((bs (x :: r)).extract 0 1) W)
    rw [hnm1] at HN1
    cases hx : letterI x.toNat with
    | false =>
      have HT : Hid (wordS st = (false, { st with left := x :: r })) := Lib.hid (by unfold wordS; rw [← HL.out]; simp [isLet, hx])
      rw [hx] at HN1
      generalize bs (x :: r) = S at c0 hne h11 h12 HN1
      obtain ⟨S1, hS1⟩ : ∃ S1, S1 = S.extract 0 1 := ⟨_, rfl⟩
      rw [← hS1] at HN1
      have hS1' := hS1.symm
      clear hsz hnm1 hS1 hx
      go_wp2_with fail
      refine (HN1.out _).mono ?_
      rintro e w3 ⟨rfl, hb3⟩
      have HB3 := Lib.hid hb3
      clear hb3
      go_wp2_with fail
      go_ret
      refine ⟨by rw [HT.out]; rfl, ?_, HB.out.trans (rb_below (Nat.le_of_lt hlt) HB3.out)⟩
      rw [HT.out]
      exact HR.out.below HB3.out
    | true =>
      rw [hx] at HN1
      have HX1 := Lib.hid hx
      obtain ⟨L, hL2⟩ : ∃ L, L = x :: r := ⟨_, rfl⟩
      rw [← hL2] at c0 hne h11 h12 HN1 hsz HR HL HLEN
      have HLX := Lib.hid hL2
      obtain ⟨S, hS⟩ : ∃ S, S = bs L := ⟨_, rfl⟩
      rw [← hS] at c0 hne h11 h12 HN1 hsz
      have HS := Lib.hid hS
      have HSZ := Lib.hid hsz
      obtain ⟨S1, hS1⟩ : ∃ S1, S1 = S.extract 0 1 := ⟨_, rfl⟩
      rw [← hS1] at HN1
      have hS1' := hS1.symm
      clear hsz hnm1 hS1 hx hL2 hS
      go_wp2_with fail
      refine (HN1.out _).mono ?_
      rintro e w3 ⟨rfl, hb3⟩
      have HR3 := Lib.hid (HR.out.below hb3)
      have HB3 := Lib.hid (HB.out.trans (rb_below (Nat.le_of_lt hlt) hb3))
      have hlt3 : rb < w3.heap.size := HR3.out.lt
      clear hb3 c0 c1 f0 f1 HR HB HN1 hS1' hlt
      go_wp2_with fail
      go_loopw [3] (fun e wr => ∃ k : Nat, e = .int .i64 k ∧ 1 ≤ k ∧ k ≤ S.size ∧ Hid (∀ c ∈ L.take k, namedI c.toNat = true) ∧ Hid (Below w3.heap.size w3 wr)) (fun e _ => S.size - (intOf e).toNat)
      case atStart => exact ⟨1, rfl, by omega, h12, Lib.hid (by rw [HLX.out]; simp; exact letter_named HX1.out), Lib.hid (Below.refl _ _)⟩
      case round =>
        obtain ⟨k, rfl, hk1, hk, HALL, HBW⟩ := hrel
        have HR4 := Lib.hid (HR3.out.below HBW.out)
        have HB4 := Lib.hid (HB3.out.trans (rb_below (Nat.le_of_lt hlt3) HBW.out))
        obtain ⟨v4, h41, h42⟩ := HR4.out.row
        have c0 := h41.cell (j := 0) rfl
        rw [← HS.out] at c0
        have c1 := h41.cell (j := 1) rfl
        have f0 := h41.froz 0
        have f1 := h41.froz 1
        clear h41 h42
        by_cases hlast : k < S.size
        · obtain ⟨c, hc⟩ : ∃ c, L[k]? = some c := ⟨_, List.getElem?_eq_getElem (by rw [← HSZ.out]; exact hlast)⟩
          have hnm2 : nameL (bts (⟨#[97]⟩ ++ S.extract k (k + 1))) = namedI c.toNat := by
            rw [bts_append, HS.out, bs_at hc]; exact name_two c
          have HN2 := Lib.hid (fun W => isName_any (⟨#[97]⟩ ++ S.extract k (k + 1)) W)
          rw [hnm2] at HN2
          have HC := Lib.hid hc
          have hk63 : (k : Int) ≤ 65536 := by have := HLEN.out; have := HSZ.out; omega
          have hk64 : (0 : Int) ≤ (k : Int) + 1 := by omega
          have hk65 : (k : Int) + 1 ≤ (S.size : Int) := by omega
          have hk66 : (k : Int) ≤ (k : Int) + 1 := by omega
          have hk67 : k ≤ k + 1 := by omega
          have hk68 : k + 1 ≤ S.size := by omega
          have hk69 : ¬ (9223372036854775807 : Int) < 1 + ((k + 1 : Nat) - k : Nat) := by omega
          have hd1 : decide ((k : Int) < (S.size : Int)) = true := by simp; omega
          clear hnm2 hc
          cases hx : namedI c.toNat with
          | true =>
            rw [hx] at HN2
            have HX := Lib.hid hx
            clear hx
            go_wp2_with fail
            refine (HN2.out _).mono ?_
            rintro e w5 ⟨rfl, hb5⟩
            have HB5 := Lib.hid hb5
            clear hb5
            go_wp2_with fail
            go_roundw
            case rel =>
              refine ⟨k + 1, by go_num, by omega, hk68, Lib.hid ?_, Lib.hid (HBW.out.trans (rb_below HBW.out.size HB5.out))⟩
              intro c' hc'
              rw [List.take_add_one, HC.out] at hc'
              rcases List.mem_append.1 hc' with h9 | h9
              · exact HALL.out c' h9
              · have e9 : c' = c := by simpa using h9
                rw [e9]; exact HX.out
            case measure => simp [intOf]; omega
          | false =>
            rw [hx] at HN2
            have HX := Lib.hid hx
            clear hx
            have HEND := Lib.hid (word_end HALL.out (by rw [← HSZ.out]; exact hk) (.inr ⟨c, HC.out, HX.out⟩))
            go_wp2_with fail
            refine (HN2.out _).mono ?_
            rintro e w5 ⟨rfl, hb5⟩
            have HR5 := Lib.hid (HR4.out.below hb5)
            have HB5 := Lib.hid (HB4.out.trans (rb_below (Nat.le_of_lt HR4.out.lt) hb5))
            clear hb5 c0 c1 f0 f1
            obtain ⟨v5, h51, h52⟩ := HR5.out.row
            have c0 := h51.cell (j := 0) rfl
            rw [← HS.out] at c0
            have c1 := h51.cell (j := 1) rfl
            have f0 := h51.froz 0
            have f1 := h51.froz 1
            clear h51 h52
            have hkS0 : k ≤ S.size := by omega
            cases hlong : st.long with
            | true =>
              have HV : Hid (wordS st = (true, { addS { st with left := L, long := true } [⟨2, L.take k, 0, 0⟩] with left := L.drop k })) := Lib.hid (by
                rw [word_tail st L k x r HL.out HLX.out HX1.out HEND.out, hlong, show decide (64 < k) = decide ((64 : Int) < (k : Int)) from decide_eq_decide.2 (by omega)]
                simp)
              rw [hlong] at c1
              clear hlong
              go_upto_region 8 with fail
              obtain ⟨W6, hW6⟩ : ∃ W6, W6 = World.setCell w5 ⟨rb, 1, none⟩ (.bool (true)) := ⟨_, rfl⟩
              rw [← hW6]
              have HR6 : Hid (RdM W6 rb { st with left := L, long := true }) := Lib.hid (by rw [hW6]; exact HR5.out.setLong _)
              have HB6 : Hid (Below rb w W6) := Lib.hid (by rw [hW6]; exact HB5.out.trans (setAt_below _))
              clear hW6 c0 c1 f0 f1 HR5 HB5
              have HKS : Hid (∀ W', RdM W' rb { st with left := L, long := true } → W'.cell? ⟨rb, 0, none⟩ = some (.string S)) := Lib.hid (fun W' h9 => by
                obtain ⟨v9, h91, _⟩ := h9.row
                rw [HS.out]; exact h91.cell rfl)
              refine wp_region_held_drew (S := (fun W' => W'.cell? ⟨rb, 0, none⟩ = some (.string S) ∧ Hid (Below rb W6 W'))) (by kernel_rfl) ?_ (fun hHeld => ?_)
              · (try dsimp only)
                exact ⟨HKS.out _ (HR6.out.below (below_draw _)), Lib.hid (rb_below (Nat.le_of_lt HR6.out.lt) (below_draw _))⟩
              obtain ⟨Wd, hWd⟩ : ∃ Wd, Wd = W6.drew := ⟨_, rfl⟩
              rw [← hWd] at hHeld ⊢
              have HRD : Hid (RdM Wd rb { st with left := L, long := true }) := Lib.hid (by rw [hWd]; exact HR6.out.below (below_draw _))
              have HBD : Hid (Below rb W6 Wd) := Lib.hid (by rw [hWd]; exact rb_below (Nat.le_of_lt HR6.out.lt) (below_draw _))
              clear hWd
              have hk0 : (0 : Int) ≤ k := by omega
              have hkS : (k : Int) ≤ (S.size : Int) := by omega
              obtain ⟨S2, hS2⟩ : ∃ S2, S2 = S.extract 0 k := ⟨_, rfl⟩
              have hS2' := hS2.symm
              have HADD : Hid (Calls Try.prog 82 #[.pointer (some ⟨rb, 2, none⟩), .slice (some ⟨Wd.heap.size, 0, none⟩) 1 1] (Wd.alloc (.cells #[.int .i64 2, .string S2, .int .i64 0, .int .i64 0] 45)) fun e w' => AddPost rb (addS { st with left := L, long := true } [⟨2, L.take k, 0, 0⟩]) Wd e w') := Lib.hid (by
                have h9 := add_lit rb { st with left := L, long := true } ⟨2, L.take k, 0, 0⟩ 45 Wd HRD.out
                rw [hS2, HS.out, bs_take]; exact h9)
              clear hS2
              refine wpAnyH_take (i := 0) (oi := { dst := some 52, op := Op.move (Operand.tmp 0), type := 88, pos := "text.go:102", after := #[], guard := none }) (v := ?rv1) rfl (by kernel_rfl) (by kernel_rfl) (by kernel_rfl) (fun _ _ _ h => h) (Or.inl ⟨by rfl, ?rhy1⟩) (by assumption) ?rrest1
              case rhy1 => (intro w hSw; (try dsimp only at hSw); first | (go_simp; done) | (go_simp; with_reducible rfl))
              case rrest1 =>
              try simp only [Act.put, List.setIfInBounds_toArray, List.set_cons_zero, List.set_cons_succ]
              refine wpAnyH_take (i := 1) (oi := { dst := some 53, op := Op.nilCheck (Operand.tmp 52), type := 0, pos := "text.go:102", after := #[{ on := 0, ground := Ground.data }], guard := none }) (v := ?rv2) rfl (by kernel_rfl) (by kernel_rfl) (by kernel_rfl) (fun _ _ _ h => h) (Or.inl ⟨by rfl, ?rhy2⟩) (by assumption) ?rrest2
              case rhy2 => (intro w hSw; (try dsimp only at hSw); first | (go_simp; done) | (go_simp; with_reducible rfl))
              case rrest2 =>
              try simp only [Act.put, List.setIfInBounds_toArray, List.set_cons_zero, List.set_cons_succ]
              refine wpAnyH_take (i := 2) (oi := { dst := some 54, op := Op.fieldAddr 70 (Operand.tmp 53) 2, type := 0, pos := "text.go:102", after := #[{ on := 1, ground := Ground.data }], guard := none }) (v := ?rv3) rfl (by kernel_rfl) (by kernel_rfl) (by kernel_rfl) (fun _ _ _ h => h) (Or.inl ⟨by rfl, ?rhy3⟩) (by assumption) ?rrest3
              case rhy3 => (intro w hSw; (try dsimp only at hSw); first | (go_simp; done) | (go_simp; with_reducible rfl))
              case rrest3 =>
              try simp only [Act.put, List.setIfInBounds_toArray, List.set_cons_zero, List.set_cons_succ]
              refine wpAnyH_take (i := 3) (oi := { dst := some 55, op := Op.move (Operand.tmp 0), type := 88, pos := "text.go:102", after := #[], guard := none }) (v := ?rv4) rfl (by kernel_rfl) (by kernel_rfl) (by kernel_rfl) (fun _ _ _ h => h) (Or.inl ⟨by rfl, ?rhy4⟩) (by assumption) ?rrest4
              case rhy4 => (intro w hSw; (try dsimp only at hSw); first | (go_simp; done) | (go_simp; with_reducible rfl))
              case rrest4 =>
              try simp only [Act.put, List.setIfInBounds_toArray, List.set_cons_zero, List.set_cons_succ]
              refine wpAnyH_take (i := 4) (oi := { dst := some 56, op := Op.nilCheck (Operand.tmp 55), type := 0, pos := "text.go:102", after := #[{ on := 3, ground := Ground.data }], guard := none }) (v := ?rv5) rfl (by kernel_rfl) (by kernel_rfl) (by kernel_rfl) (fun _ _ _ h => h) (Or.inl ⟨by rfl, ?rhy5⟩) (by assumption) ?rrest5
              case rhy5 => (intro w hSw; (try dsimp only at hSw); first | (go_simp; done) | (go_simp; with_reducible rfl))
              case rrest5 =>
              try simp only [Act.put, List.setIfInBounds_toArray, List.set_cons_zero, List.set_cons_succ]
              refine wpAnyH_take (i := 5) (oi := { dst := some 57, op := Op.fieldAddr 70 (Operand.tmp 56) 0, type := 0, pos := "text.go:102", after := #[{ on := 4, ground := Ground.data }], guard := none }) (v := ?rv6) rfl (by kernel_rfl) (by kernel_rfl) (by kernel_rfl) (fun _ _ _ h => h) (Or.inl ⟨by rfl, ?rhy6⟩) (by assumption) ?rrest6
              case rhy6 => (intro w hSw; (try dsimp only at hSw); first | (go_simp; done) | (go_simp; with_reducible rfl))
              case rrest6 =>
              try simp only [Act.put, List.setIfInBounds_toArray, List.set_cons_zero, List.set_cons_succ]
              refine wpAnyH_take (i := 6) (oi := { dst := some 58, op := Op.load 9 (Operand.tmp 57), type := 9, pos := "text.go:102", after := #[{ on := 5, ground := Ground.data }], guard := none }) (v := ?rv7) rfl (by kernel_rfl) (by kernel_rfl) (by kernel_rfl) (fun _ _ _ h => h) (Or.inl ⟨by rfl, ?rhy7⟩) (by assumption) ?rrest7
              case rhy7 => (intro w hSw; (try dsimp only at hSw); first | (go_simp; done) | (go_simp; with_reducible rfl))
              case rrest7 =>
              try simp only [Act.put, List.setIfInBounds_toArray, List.set_cons_zero, List.set_cons_succ]
              refine wpAnyH_take (i := 7) (oi := { dst := some 59, op := Op.move (Operand.tmp 3), type := 3, pos := "text.go:102", after := #[], guard := none }) (v := ?rv8) rfl (by kernel_rfl) (by kernel_rfl) (by kernel_rfl) (fun _ _ _ h => h) (Or.inl ⟨by rfl, ?rhy8⟩) (by assumption) ?rrest8
              case rhy8 => (intro w hSw; (try dsimp only at hSw); first | (go_simp; done) | (go_simp; with_reducible rfl))
              case rrest8 =>
              try simp only [Act.put, List.setIfInBounds_toArray, List.set_cons_zero, List.set_cons_succ]
              refine wpAnyH_take (i := 8) (oi := { dst := some 60, op := Op.slice 9 (Operand.tmp 58) none (some (Operand.tmp 59)) none, type := 9, pos := "text.go:102", after := #[{ on := 6, ground := Ground.data }, { on := 7, ground := Ground.data }], guard := none }) (v := ?rv9) rfl (by kernel_rfl) (by kernel_rfl) (by kernel_rfl) (fun _ _ _ h => h) (Or.inl ⟨by rfl, ?rhy9⟩) (by assumption) ?rrest9
              case rhy9 => (intro w hSw; (try dsimp only at hSw); first | (go_simp; done) | (go_simp; with_reducible rfl))
              case rrest9 =>
              try simp only [Act.put, List.setIfInBounds_toArray, List.set_cons_zero, List.set_cons_succ]
              refine wpAnyH_take (i := 9) (oi := { dst := some 61, op := Op.build 45 #[(0, Operand.const (Value.int IntKind.i64 2)), (1, Operand.tmp 60)], type := 45, pos := "text.go:102", after := #[{ on := 8, ground := Ground.data }], guard := none }) (v := ?rv10) rfl (by kernel_rfl) (by kernel_rfl) (by kernel_rfl) (fun _ _ _ h => h) (Or.inl ⟨by rfl, ?rhy10⟩) (by assumption) ?rrest10
              case rhy10 => (intro w hSw; (try dsimp only at hSw); first | (go_simp; done) | (go_simp; with_reducible rfl))
              case rrest10 =>
              try simp only [Act.put, List.setIfInBounds_toArray, List.set_cons_zero, List.set_cons_succ]
              refine wpAnyH_ready (rs := [10]) (by kernel_rfl) (by simp) ?_
              refine AllReadyH.cons (o := { dst := some 62, op := Op.buildSlice 22 1 #[(0, Operand.tmp 61)], type := 22, pos := "text.go:102", after := #[{ on := 9, ground := Ground.data }], guard := none }) rfl (fun K hK => ?_) AllReadyH.nil
              go_simp
              obtain ⟨wb, hwb⟩ : ∃ W7, W7 = World.alloc Wd (.cells #[.int .i64 2, .string S2, .int .i64 0, .int .i64 0] 45) := ⟨_, rfl⟩
              rw [← hwb] at HADD ⊢
              have bwb : Below Wd.heap.size Wd wb := by rw [hwb]; exact (Below.refl _ _).alloc (Nat.le_refl _) _
              refine hK.out _ _ ?_ (fun hHeld => ?_)
              · (try dsimp only)
                exact ⟨HKS.out _ (HRD.out.below bwb), Lib.hid (hHeld.2.out.trans (rb_below (Nat.le_of_lt HRD.out.lt) bwb))⟩
              clear hK K hwb bwb
              try simp only [Act.put, List.setIfInBounds_toArray, List.set_cons_zero, List.set_cons_succ]
              refine wpAnyH_ready (rs := [11]) (by kernel_rfl) (by simp) ?_
              refine AllReadyH.cons (o := { dst := some 63, op := Op.call { callee := Callee.value (Operand.func 82), args := #[Operand.tmp 54, Operand.tmp 62], argTypes := #[68, 22] }, type := 0, pos := "text.go:102", after := #[{ on := 2, ground := Ground.data }, { on := 10, ground := Ground.data }], guard := none }) rfl (fun K hK => ?_) AllReadyH.nil
              go_simp
              refine HADD.out.mono ?_
              rintro e wc hp
              have HP := Lib.hid hp
              obtain ⟨rfl, -, -⟩ := hp
              have HRC := Lib.hid HP.out.2.1
              obtain ⟨v9, h91, h92⟩ := HRC.out.row
              have c9 := h91.cell (j := 0) rfl
              rw [addS_left, ← HS.out] at c9
              have f9 := h91.froz 0
              clear h91 h92
              go_wp2_with fail
              refine hK.out _ _ ?_ (fun hHeld => ?_)
              · (try dsimp only)
                exact ⟨c9, Lib.hid (HBD.out.trans HP.out.2.2)⟩
              clear hK K
              try simp only [Act.put, List.setIfInBounds_toArray, List.set_cons_zero, List.set_cons_succ]
              refine wpAnyH_done (by kernel_rfl) ?_ _
              have HBC : Hid (Below rb w wc) := Lib.hid (HB6.out.trans (HBD.out.trans HP.out.2.2))
              have HT : Hid (S.extract k S.size = bs (L.drop k)) := Lib.hid (by rw [HS.out]; exact bs_drop)
              have hset := HRC.out.setLeft (L.drop k)
              rw [← HT.out] at hset
              have HFIN := Lib.hid hset
              clear hHeld hset
              go_wp2_with fail
              go_ret
              exact ⟨by rw [HV.out]; rfl, by rw [HV.out]; exact HFIN.out, HBC.out.trans (setAt_below _)⟩
            | false =>
              have HV : Hid (wordS st = (true, { addS { st with left := L, long := decide ((64 : Int) < (k : Int)) } [⟨2, L.take k, 0, 0⟩] with left := L.drop k })) := Lib.hid (by
                rw [word_tail st L k x r HL.out HLX.out HX1.out HEND.out, hlong, show decide (64 < k) = decide ((64 : Int) < (k : Int)) from decide_eq_decide.2 (by omega)]
                simp)
              rw [hlong] at c1
              clear hlong
              go_upto_region 8 with fail
              obtain ⟨W6, hW6⟩ : ∃ W6, W6 = World.setCell w5 ⟨rb, 1, none⟩ (.bool (decide ((64 : Int) < (k : Int)))) := ⟨_, rfl⟩
              rw [← hW6]
              have HR6 : Hid (RdM W6 rb { st with left := L, long := decide ((64 : Int) < (k : Int)) }) := Lib.hid (by rw [hW6]; exact HR5.out.setLong _)
              have HB6 : Hid (Below rb w W6) := Lib.hid (by rw [hW6]; exact HB5.out.trans (setAt_below _))
              clear hW6 c0 c1 f0 f1 HR5 HB5
              have HKS : Hid (∀ W', RdM W' rb { st with left := L, long := decide ((64 : Int) < (k : Int)) } → W'.cell? ⟨rb, 0, none⟩ = some (.string S)) := Lib.hid (fun W' h9 => by
                obtain ⟨v9, h91, _⟩ := h9.row
                rw [HS.out]; exact h91.cell rfl)
              refine wp_region_held_drew (S := (fun W' => W'.cell? ⟨rb, 0, none⟩ = some (.string S) ∧ Hid (Below rb W6 W'))) (by kernel_rfl) ?_ (fun hHeld => ?_)
              · (try dsimp only)
                exact ⟨HKS.out _ (HR6.out.below (below_draw _)), Lib.hid (rb_below (Nat.le_of_lt HR6.out.lt) (below_draw _))⟩
              obtain ⟨Wd, hWd⟩ : ∃ Wd, Wd = W6.drew := ⟨_, rfl⟩
              rw [← hWd] at hHeld ⊢
              have HRD : Hid (RdM Wd rb { st with left := L, long := decide ((64 : Int) < (k : Int)) }) := Lib.hid (by rw [hWd]; exact HR6.out.below (below_draw _))
              have HBD : Hid (Below rb W6 Wd) := Lib.hid (by rw [hWd]; exact rb_below (Nat.le_of_lt HR6.out.lt) (below_draw _))
              clear hWd
              have hk0 : (0 : Int) ≤ k := by omega
              have hkS : (k : Int) ≤ (S.size : Int) := by omega
              obtain ⟨S2, hS2⟩ : ∃ S2, S2 = S.extract 0 k := ⟨_, rfl⟩
              have hS2' := hS2.symm
              have HADD : Hid (Calls Try.prog 82 #[.pointer (some ⟨rb, 2, none⟩), .slice (some ⟨Wd.heap.size, 0, none⟩) 1 1] (Wd.alloc (.cells #[.int .i64 2, .string S2, .int .i64 0, .int .i64 0] 45)) fun e w' => AddPost rb (addS { st with left := L, long := decide ((64 : Int) < (k : Int)) } [⟨2, L.take k, 0, 0⟩]) Wd e w') := Lib.hid (by
                have h9 := add_lit rb { st with left := L, long := decide ((64 : Int) < (k : Int)) } ⟨2, L.take k, 0, 0⟩ 45 Wd HRD.out
                rw [hS2, HS.out, bs_take]; exact h9)
              clear hS2
              refine wpAnyH_take (i := 0) (oi := { dst := some 52, op := Op.move (Operand.tmp 0), type := 88, pos := "text.go:102", after := #[], guard := none }) (v := ?rv11) rfl (by kernel_rfl) (by kernel_rfl) (by kernel_rfl) (fun _ _ _ h => h) (Or.inl ⟨by rfl, ?rhy11⟩) (by assumption) ?rrest11
              case rhy11 => (intro w hSw; (try dsimp only at hSw); first | (go_simp; done) | (go_simp; with_reducible rfl))
              case rrest11 =>
              try simp only [Act.put, List.setIfInBounds_toArray, List.set_cons_zero, List.set_cons_succ]
              refine wpAnyH_take (i := 1) (oi := { dst := some 53, op := Op.nilCheck (Operand.tmp 52), type := 0, pos := "text.go:102", after := #[{ on := 0, ground := Ground.data }], guard := none }) (v := ?rv12) rfl (by kernel_rfl) (by kernel_rfl) (by kernel_rfl) (fun _ _ _ h => h) (Or.inl ⟨by rfl, ?rhy12⟩) (by assumption) ?rrest12
              case rhy12 => (intro w hSw; (try dsimp only at hSw); first | (go_simp; done) | (go_simp; with_reducible rfl))
              case rrest12 =>
              try simp only [Act.put, List.setIfInBounds_toArray, List.set_cons_zero, List.set_cons_succ]
              refine wpAnyH_take (i := 2) (oi := { dst := some 54, op := Op.fieldAddr 70 (Operand.tmp 53) 2, type := 0, pos := "text.go:102", after := #[{ on := 1, ground := Ground.data }], guard := none }) (v := ?rv13) rfl (by kernel_rfl) (by kernel_rfl) (by kernel_rfl) (fun _ _ _ h => h) (Or.inl ⟨by rfl, ?rhy13⟩) (by assumption) ?rrest13
              case rhy13 => (intro w hSw; (try dsimp only at hSw); first | (go_simp; done) | (go_simp; with_reducible rfl))
              case rrest13 =>
              try simp only [Act.put, List.setIfInBounds_toArray, List.set_cons_zero, List.set_cons_succ]
              refine wpAnyH_take (i := 3) (oi := { dst := some 55, op := Op.move (Operand.tmp 0), type := 88, pos := "text.go:102", after := #[], guard := none }) (v := ?rv14) rfl (by kernel_rfl) (by kernel_rfl) (by kernel_rfl) (fun _ _ _ h => h) (Or.inl ⟨by rfl, ?rhy14⟩) (by assumption) ?rrest14
              case rhy14 => (intro w hSw; (try dsimp only at hSw); first | (go_simp; done) | (go_simp; with_reducible rfl))
              case rrest14 =>
              try simp only [Act.put, List.setIfInBounds_toArray, List.set_cons_zero, List.set_cons_succ]
              refine wpAnyH_take (i := 4) (oi := { dst := some 56, op := Op.nilCheck (Operand.tmp 55), type := 0, pos := "text.go:102", after := #[{ on := 3, ground := Ground.data }], guard := none }) (v := ?rv15) rfl (by kernel_rfl) (by kernel_rfl) (by kernel_rfl) (fun _ _ _ h => h) (Or.inl ⟨by rfl, ?rhy15⟩) (by assumption) ?rrest15
              case rhy15 => (intro w hSw; (try dsimp only at hSw); first | (go_simp; done) | (go_simp; with_reducible rfl))
              case rrest15 =>
              try simp only [Act.put, List.setIfInBounds_toArray, List.set_cons_zero, List.set_cons_succ]
              refine wpAnyH_take (i := 5) (oi := { dst := some 57, op := Op.fieldAddr 70 (Operand.tmp 56) 0, type := 0, pos := "text.go:102", after := #[{ on := 4, ground := Ground.data }], guard := none }) (v := ?rv16) rfl (by kernel_rfl) (by kernel_rfl) (by kernel_rfl) (fun _ _ _ h => h) (Or.inl ⟨by rfl, ?rhy16⟩) (by assumption) ?rrest16
              case rhy16 => (intro w hSw; (try dsimp only at hSw); first | (go_simp; done) | (go_simp; with_reducible rfl))
              case rrest16 =>
              try simp only [Act.put, List.setIfInBounds_toArray, List.set_cons_zero, List.set_cons_succ]
              refine wpAnyH_take (i := 6) (oi := { dst := some 58, op := Op.load 9 (Operand.tmp 57), type := 9, pos := "text.go:102", after := #[{ on := 5, ground := Ground.data }], guard := none }) (v := ?rv17) rfl (by kernel_rfl) (by kernel_rfl) (by kernel_rfl) (fun _ _ _ h => h) (Or.inl ⟨by rfl, ?rhy17⟩) (by assumption) ?rrest17
              case rhy17 => (intro w hSw; (try dsimp only at hSw); first | (go_simp; done) | (go_simp; with_reducible rfl))
              case rrest17 =>
              try simp only [Act.put, List.setIfInBounds_toArray, List.set_cons_zero, List.set_cons_succ]
              refine wpAnyH_take (i := 7) (oi := { dst := some 59, op := Op.move (Operand.tmp 3), type := 3, pos := "text.go:102", after := #[], guard := none }) (v := ?rv18) rfl (by kernel_rfl) (by kernel_rfl) (by kernel_rfl) (fun _ _ _ h => h) (Or.inl ⟨by rfl, ?rhy18⟩) (by assumption) ?rrest18
              case rhy18 => (intro w hSw; (try dsimp only at hSw); first | (go_simp; done) | (go_simp; with_reducible rfl))
              case rrest18 =>
              try simp only [Act.put, List.setIfInBounds_toArray, List.set_cons_zero, List.set_cons_succ]
              refine wpAnyH_take (i := 8) (oi := { dst := some 60, op := Op.slice 9 (Operand.tmp 58) none (some (Operand.tmp 59)) none, type := 9, pos := "text.go:102", after := #[{ on := 6, ground := Ground.data }, { on := 7, ground := Ground.data }], guard := none }) (v := ?rv19) rfl (by kernel_rfl) (by kernel_rfl) (by kernel_rfl) (fun _ _ _ h => h) (Or.inl ⟨by rfl, ?rhy19⟩) (by assumption) ?rrest19
              case rhy19 => (intro w hSw; (try dsimp only at hSw); first | (go_simp; done) | (go_simp; with_reducible rfl))
              case rrest19 =>
              try simp only [Act.put, List.setIfInBounds_toArray, List.set_cons_zero, List.set_cons_succ]
              refine wpAnyH_take (i := 9) (oi := { dst := some 61, op := Op.build 45 #[(0, Operand.const (Value.int IntKind.i64 2)), (1, Operand.tmp 60)], type := 45, pos := "text.go:102", after := #[{ on := 8, ground := Ground.data }], guard := none }) (v := ?rv20) rfl (by kernel_rfl) (by kernel_rfl) (by kernel_rfl) (fun _ _ _ h => h) (Or.inl ⟨by rfl, ?rhy20⟩) (by assumption) ?rrest20
              case rhy20 => (intro w hSw; (try dsimp only at hSw); first | (go_simp; done) | (go_simp; with_reducible rfl))
              case rrest20 =>
              try simp only [Act.put, List.setIfInBounds_toArray, List.set_cons_zero, List.set_cons_succ]
              refine wpAnyH_ready (rs := [10]) (by kernel_rfl) (by simp) ?_
              refine AllReadyH.cons (o := { dst := some 62, op := Op.buildSlice 22 1 #[(0, Operand.tmp 61)], type := 22, pos := "text.go:102", after := #[{ on := 9, ground := Ground.data }], guard := none }) rfl (fun K hK => ?_) AllReadyH.nil
              go_simp
              obtain ⟨wb, hwb⟩ : ∃ W7, W7 = World.alloc Wd (.cells #[.int .i64 2, .string S2, .int .i64 0, .int .i64 0] 45) := ⟨_, rfl⟩
              rw [← hwb] at HADD ⊢
              have bwb : Below Wd.heap.size Wd wb := by rw [hwb]; exact (Below.refl _ _).alloc (Nat.le_refl _) _
              refine hK.out _ _ ?_ (fun hHeld => ?_)
              · (try dsimp only)
                exact ⟨HKS.out _ (HRD.out.below bwb), Lib.hid (hHeld.2.out.trans (rb_below (Nat.le_of_lt HRD.out.lt) bwb))⟩
              clear hK K hwb bwb
              try simp only [Act.put, List.setIfInBounds_toArray, List.set_cons_zero, List.set_cons_succ]
              refine wpAnyH_ready (rs := [11]) (by kernel_rfl) (by simp) ?_
              refine AllReadyH.cons (o := { dst := some 63, op := Op.call { callee := Callee.value (Operand.func 82), args := #[Operand.tmp 54, Operand.tmp 62], argTypes := #[68, 22] }, type := 0, pos := "text.go:102", after := #[{ on := 2, ground := Ground.data }, { on := 10, ground := Ground.data }], guard := none }) rfl (fun K hK => ?_) AllReadyH.nil
              go_simp
              refine HADD.out.mono ?_
              rintro e wc hp
              have HP := Lib.hid hp
              obtain ⟨rfl, -, -⟩ := hp
              have HRC := Lib.hid HP.out.2.1
              obtain ⟨v9, h91, h92⟩ := HRC.out.row
              have c9 := h91.cell (j := 0) rfl
              rw [addS_left, ← HS.out] at c9
              have f9 := h91.froz 0
              clear h91 h92
              go_wp2_with fail
              refine hK.out _ _ ?_ (fun hHeld => ?_)
              · (try dsimp only)
                exact ⟨c9, Lib.hid (HBD.out.trans HP.out.2.2)⟩
              clear hK K
              try simp only [Act.put, List.setIfInBounds_toArray, List.set_cons_zero, List.set_cons_succ]
              refine wpAnyH_done (by kernel_rfl) ?_ _
              have HBC : Hid (Below rb w wc) := Lib.hid (HB6.out.trans (HBD.out.trans HP.out.2.2))
              have HT : Hid (S.extract k S.size = bs (L.drop k)) := Lib.hid (by rw [HS.out]; exact bs_drop)
              have hset := HRC.out.setLeft (L.drop k)
              rw [← HT.out] at hset
              have HFIN := Lib.hid hset
              clear hHeld hset
              go_wp2_with fail
              go_ret
              exact ⟨by rw [HV.out]; rfl, by rw [HV.out]; exact HFIN.out, HBC.out.trans (setAt_below _)⟩
        · have hd1 : decide ((k : Int) < (S.size : Int)) = false := by simp; omega
          have HEND := Lib.hid (word_end HALL.out (by rw [← HSZ.out]; exact hk) (.inl (by rw [← HSZ.out]; omega)))
          have HR5 := HR4
          have HB5 := HB4
          clear c0 c1 f0 f1
          obtain ⟨v5, h51, h52⟩ := HR5.out.row
          have c0 := h51.cell (j := 0) rfl
          rw [← HS.out] at c0
          have c1 := h51.cell (j := 1) rfl
          have f0 := h51.froz 0
          have f1 := h51.froz 1
          clear h51 h52
          have hkS0 : k ≤ S.size := by omega
          cases hlong : st.long with
          | true =>
            have HV : Hid (wordS st = (true, { addS { st with left := L, long := true } [⟨2, L.take k, 0, 0⟩] with left := L.drop k })) := Lib.hid (by
              rw [word_tail st L k x r HL.out HLX.out HX1.out HEND.out, hlong, show decide (64 < k) = decide ((64 : Int) < (k : Int)) from decide_eq_decide.2 (by omega)]
              simp)
            rw [hlong] at c1
            clear hlong
            go_upto_region 8 with fail
            obtain ⟨W6, hW6⟩ : ∃ W6, W6 = World.setCell wr ⟨rb, 1, none⟩ (.bool (true)) := ⟨_, rfl⟩
            rw [← hW6]
            have HR6 : Hid (RdM W6 rb { st with left := L, long := true }) := Lib.hid (by rw [hW6]; exact HR5.out.setLong _)
            have HB6 : Hid (Below rb w W6) := Lib.hid (by rw [hW6]; exact HB5.out.trans (setAt_below _))
            clear hW6 c0 c1 f0 f1 HR5 HB5
            have HKS : Hid (∀ W', RdM W' rb { st with left := L, long := true } → W'.cell? ⟨rb, 0, none⟩ = some (.string S)) := Lib.hid (fun W' h9 => by
              obtain ⟨v9, h91, _⟩ := h9.row
              rw [HS.out]; exact h91.cell rfl)
            refine wp_region_held_drew (S := (fun W' => W'.cell? ⟨rb, 0, none⟩ = some (.string S) ∧ Hid (Below rb W6 W'))) (by kernel_rfl) ?_ (fun hHeld => ?_)
            · (try dsimp only)
              exact ⟨HKS.out _ (HR6.out.below (below_draw _)), Lib.hid (rb_below (Nat.le_of_lt HR6.out.lt) (below_draw _))⟩
            obtain ⟨Wd, hWd⟩ : ∃ Wd, Wd = W6.drew := ⟨_, rfl⟩
            rw [← hWd] at hHeld ⊢
            have HRD : Hid (RdM Wd rb { st with left := L, long := true }) := Lib.hid (by rw [hWd]; exact HR6.out.below (below_draw _))
            have HBD : Hid (Below rb W6 Wd) := Lib.hid (by rw [hWd]; exact rb_below (Nat.le_of_lt HR6.out.lt) (below_draw _))
            clear hWd
            have hk0 : (0 : Int) ≤ k := by omega
            have hkS : (k : Int) ≤ (S.size : Int) := by omega
            obtain ⟨S2, hS2⟩ : ∃ S2, S2 = S.extract 0 k := ⟨_, rfl⟩
            have hS2' := hS2.symm
            have HADD : Hid (Calls Try.prog 82 #[.pointer (some ⟨rb, 2, none⟩), .slice (some ⟨Wd.heap.size, 0, none⟩) 1 1] (Wd.alloc (.cells #[.int .i64 2, .string S2, .int .i64 0, .int .i64 0] 45)) fun e w' => AddPost rb (addS { st with left := L, long := true } [⟨2, L.take k, 0, 0⟩]) Wd e w') := Lib.hid (by
              have h9 := add_lit rb { st with left := L, long := true } ⟨2, L.take k, 0, 0⟩ 45 Wd HRD.out
              rw [hS2, HS.out, bs_take]; exact h9)
            clear hS2
            refine wpAnyH_take (i := 0) (oi := { dst := some 52, op := Op.move (Operand.tmp 0), type := 88, pos := "text.go:102", after := #[], guard := none }) (v := ?rv21) rfl (by kernel_rfl) (by kernel_rfl) (by kernel_rfl) (fun _ _ _ h => h) (Or.inl ⟨by rfl, ?rhy21⟩) (by assumption) ?rrest21
            case rhy21 => (intro w hSw; (try dsimp only at hSw); first | (go_simp; done) | (go_simp; with_reducible rfl))
            case rrest21 =>
            try simp only [Act.put, List.setIfInBounds_toArray, List.set_cons_zero, List.set_cons_succ]
            refine wpAnyH_take (i := 1) (oi := { dst := some 53, op := Op.nilCheck (Operand.tmp 52), type := 0, pos := "text.go:102", after := #[{ on := 0, ground := Ground.data }], guard := none }) (v := ?rv22) rfl (by kernel_rfl) (by kernel_rfl) (by kernel_rfl) (fun _ _ _ h => h) (Or.inl ⟨by rfl, ?rhy22⟩) (by assumption) ?rrest22
            case rhy22 => (intro w hSw; (try dsimp only at hSw); first | (go_simp; done) | (go_simp; with_reducible rfl))
            case rrest22 =>
            try simp only [Act.put, List.setIfInBounds_toArray, List.set_cons_zero, List.set_cons_succ]
            refine wpAnyH_take (i := 2) (oi := { dst := some 54, op := Op.fieldAddr 70 (Operand.tmp 53) 2, type := 0, pos := "text.go:102", after := #[{ on := 1, ground := Ground.data }], guard := none }) (v := ?rv23) rfl (by kernel_rfl) (by kernel_rfl) (by kernel_rfl) (fun _ _ _ h => h) (Or.inl ⟨by rfl, ?rhy23⟩) (by assumption) ?rrest23
            case rhy23 => (intro w hSw; (try dsimp only at hSw); first | (go_simp; done) | (go_simp; with_reducible rfl))
            case rrest23 =>
            try simp only [Act.put, List.setIfInBounds_toArray, List.set_cons_zero, List.set_cons_succ]
            refine wpAnyH_take (i := 3) (oi := { dst := some 55, op := Op.move (Operand.tmp 0), type := 88, pos := "text.go:102", after := #[], guard := none }) (v := ?rv24) rfl (by kernel_rfl) (by kernel_rfl) (by kernel_rfl) (fun _ _ _ h => h) (Or.inl ⟨by rfl, ?rhy24⟩) (by assumption) ?rrest24
            case rhy24 => (intro w hSw; (try dsimp only at hSw); first | (go_simp; done) | (go_simp; with_reducible rfl))
            case rrest24 =>
            try simp only [Act.put, List.setIfInBounds_toArray, List.set_cons_zero, List.set_cons_succ]
            refine wpAnyH_take (i := 4) (oi := { dst := some 56, op := Op.nilCheck (Operand.tmp 55), type := 0, pos := "text.go:102", after := #[{ on := 3, ground := Ground.data }], guard := none }) (v := ?rv25) rfl (by kernel_rfl) (by kernel_rfl) (by kernel_rfl) (fun _ _ _ h => h) (Or.inl ⟨by rfl, ?rhy25⟩) (by assumption) ?rrest25
            case rhy25 => (intro w hSw; (try dsimp only at hSw); first | (go_simp; done) | (go_simp; with_reducible rfl))
            case rrest25 =>
            try simp only [Act.put, List.setIfInBounds_toArray, List.set_cons_zero, List.set_cons_succ]
            refine wpAnyH_take (i := 5) (oi := { dst := some 57, op := Op.fieldAddr 70 (Operand.tmp 56) 0, type := 0, pos := "text.go:102", after := #[{ on := 4, ground := Ground.data }], guard := none }) (v := ?rv26) rfl (by kernel_rfl) (by kernel_rfl) (by kernel_rfl) (fun _ _ _ h => h) (Or.inl ⟨by rfl, ?rhy26⟩) (by assumption) ?rrest26
            case rhy26 => (intro w hSw; (try dsimp only at hSw); first | (go_simp; done) | (go_simp; with_reducible rfl))
            case rrest26 =>
            try simp only [Act.put, List.setIfInBounds_toArray, List.set_cons_zero, List.set_cons_succ]
            refine wpAnyH_take (i := 6) (oi := { dst := some 58, op := Op.load 9 (Operand.tmp 57), type := 9, pos := "text.go:102", after := #[{ on := 5, ground := Ground.data }], guard := none }) (v := ?rv27) rfl (by kernel_rfl) (by kernel_rfl) (by kernel_rfl) (fun _ _ _ h => h) (Or.inl ⟨by rfl, ?rhy27⟩) (by assumption) ?rrest27
            case rhy27 => (intro w hSw; (try dsimp only at hSw); first | (go_simp; done) | (go_simp; with_reducible rfl))
            case rrest27 =>
            try simp only [Act.put, List.setIfInBounds_toArray, List.set_cons_zero, List.set_cons_succ]
            refine wpAnyH_take (i := 7) (oi := { dst := some 59, op := Op.move (Operand.tmp 3), type := 3, pos := "text.go:102", after := #[], guard := none }) (v := ?rv28) rfl (by kernel_rfl) (by kernel_rfl) (by kernel_rfl) (fun _ _ _ h => h) (Or.inl ⟨by rfl, ?rhy28⟩) (by assumption) ?rrest28
            case rhy28 => (intro w hSw; (try dsimp only at hSw); first | (go_simp; done) | (go_simp; with_reducible rfl))
            case rrest28 =>
            try simp only [Act.put, List.setIfInBounds_toArray, List.set_cons_zero, List.set_cons_succ]
            refine wpAnyH_take (i := 8) (oi := { dst := some 60, op := Op.slice 9 (Operand.tmp 58) none (some (Operand.tmp 59)) none, type := 9, pos := "text.go:102", after := #[{ on := 6, ground := Ground.data }, { on := 7, ground := Ground.data }], guard := none }) (v := ?rv29) rfl (by kernel_rfl) (by kernel_rfl) (by kernel_rfl) (fun _ _ _ h => h) (Or.inl ⟨by rfl, ?rhy29⟩) (by assumption) ?rrest29
            case rhy29 => (intro w hSw; (try dsimp only at hSw); first | (go_simp; done) | (go_simp; with_reducible rfl))
            case rrest29 =>
            try simp only [Act.put, List.setIfInBounds_toArray, List.set_cons_zero, List.set_cons_succ]
            refine wpAnyH_take (i := 9) (oi := { dst := some 61, op := Op.build 45 #[(0, Operand.const (Value.int IntKind.i64 2)), (1, Operand.tmp 60)], type := 45, pos := "text.go:102", after := #[{ on := 8, ground := Ground.data }], guard := none }) (v := ?rv30) rfl (by kernel_rfl) (by kernel_rfl) (by kernel_rfl) (fun _ _ _ h => h) (Or.inl ⟨by rfl, ?rhy30⟩) (by assumption) ?rrest30
            case rhy30 => (intro w hSw; (try dsimp only at hSw); first | (go_simp; done) | (go_simp; with_reducible rfl))
            case rrest30 =>
            try simp only [Act.put, List.setIfInBounds_toArray, List.set_cons_zero, List.set_cons_succ]
            refine wpAnyH_ready (rs := [10]) (by kernel_rfl) (by simp) ?_
            refine AllReadyH.cons (o := { dst := some 62, op := Op.buildSlice 22 1 #[(0, Operand.tmp 61)], type := 22, pos := "text.go:102", after := #[{ on := 9, ground := Ground.data }], guard := none }) rfl (fun K hK => ?_) AllReadyH.nil
            go_simp
            obtain ⟨wb, hwb⟩ : ∃ W7, W7 = World.alloc Wd (.cells #[.int .i64 2, .string S2, .int .i64 0, .int .i64 0] 45) := ⟨_, rfl⟩
            rw [← hwb] at HADD ⊢
            have bwb : Below Wd.heap.size Wd wb := by rw [hwb]; exact (Below.refl _ _).alloc (Nat.le_refl _) _
            refine hK.out _ _ ?_ (fun hHeld => ?_)
            · (try dsimp only)
              exact ⟨HKS.out _ (HRD.out.below bwb), Lib.hid (hHeld.2.out.trans (rb_below (Nat.le_of_lt HRD.out.lt) bwb))⟩
            clear hK K hwb bwb
            try simp only [Act.put, List.setIfInBounds_toArray, List.set_cons_zero, List.set_cons_succ]
            refine wpAnyH_ready (rs := [11]) (by kernel_rfl) (by simp) ?_
            refine AllReadyH.cons (o := { dst := some 63, op := Op.call { callee := Callee.value (Operand.func 82), args := #[Operand.tmp 54, Operand.tmp 62], argTypes := #[68, 22] }, type := 0, pos := "text.go:102", after := #[{ on := 2, ground := Ground.data }, { on := 10, ground := Ground.data }], guard := none }) rfl (fun K hK => ?_) AllReadyH.nil
            go_simp
            refine HADD.out.mono ?_
            rintro e wc hp
            have HP := Lib.hid hp
            obtain ⟨rfl, -, -⟩ := hp
            have HRC := Lib.hid HP.out.2.1
            obtain ⟨v9, h91, h92⟩ := HRC.out.row
            have c9 := h91.cell (j := 0) rfl
            rw [addS_left, ← HS.out] at c9
            have f9 := h91.froz 0
            clear h91 h92
            go_wp2_with fail
            refine hK.out _ _ ?_ (fun hHeld => ?_)
            · (try dsimp only)
              exact ⟨c9, Lib.hid (HBD.out.trans HP.out.2.2)⟩
            clear hK K
            try simp only [Act.put, List.setIfInBounds_toArray, List.set_cons_zero, List.set_cons_succ]
            refine wpAnyH_done (by kernel_rfl) ?_ _
            have HBC : Hid (Below rb w wc) := Lib.hid (HB6.out.trans (HBD.out.trans HP.out.2.2))
            have HT : Hid (S.extract k S.size = bs (L.drop k)) := Lib.hid (by rw [HS.out]; exact bs_drop)
            have hset := HRC.out.setLeft (L.drop k)
            rw [← HT.out] at hset
            have HFIN := Lib.hid hset
            clear hHeld hset
            go_wp2_with fail
            go_ret
            exact ⟨by rw [HV.out]; rfl, by rw [HV.out]; exact HFIN.out, HBC.out.trans (setAt_below _)⟩
          | false =>
            have HV : Hid (wordS st = (true, { addS { st with left := L, long := decide ((64 : Int) < (k : Int)) } [⟨2, L.take k, 0, 0⟩] with left := L.drop k })) := Lib.hid (by
              rw [word_tail st L k x r HL.out HLX.out HX1.out HEND.out, hlong, show decide (64 < k) = decide ((64 : Int) < (k : Int)) from decide_eq_decide.2 (by omega)]
              simp)
            rw [hlong] at c1
            clear hlong
            go_upto_region 8 with fail
            obtain ⟨W6, hW6⟩ : ∃ W6, W6 = World.setCell wr ⟨rb, 1, none⟩ (.bool (decide ((64 : Int) < (k : Int)))) := ⟨_, rfl⟩
            rw [← hW6]
            have HR6 : Hid (RdM W6 rb { st with left := L, long := decide ((64 : Int) < (k : Int)) }) := Lib.hid (by rw [hW6]; exact HR5.out.setLong _)
            have HB6 : Hid (Below rb w W6) := Lib.hid (by rw [hW6]; exact HB5.out.trans (setAt_below _))
            clear hW6 c0 c1 f0 f1 HR5 HB5
            have HKS : Hid (∀ W', RdM W' rb { st with left := L, long := decide ((64 : Int) < (k : Int)) } → W'.cell? ⟨rb, 0, none⟩ = some (.string S)) := Lib.hid (fun W' h9 => by
              obtain ⟨v9, h91, _⟩ := h9.row
              rw [HS.out]; exact h91.cell rfl)
            refine wp_region_held_drew (S := (fun W' => W'.cell? ⟨rb, 0, none⟩ = some (.string S) ∧ Hid (Below rb W6 W'))) (by kernel_rfl) ?_ (fun hHeld => ?_)
            · (try dsimp only)
              exact ⟨HKS.out _ (HR6.out.below (below_draw _)), Lib.hid (rb_below (Nat.le_of_lt HR6.out.lt) (below_draw _))⟩
            obtain ⟨Wd, hWd⟩ : ∃ Wd, Wd = W6.drew := ⟨_, rfl⟩
            rw [← hWd] at hHeld ⊢
            have HRD : Hid (RdM Wd rb { st with left := L, long := decide ((64 : Int) < (k : Int)) }) := Lib.hid (by rw [hWd]; exact HR6.out.below (below_draw _))
            have HBD : Hid (Below rb W6 Wd) := Lib.hid (by rw [hWd]; exact rb_below (Nat.le_of_lt HR6.out.lt) (below_draw _))
            clear hWd
            have hk0 : (0 : Int) ≤ k := by omega
            have hkS : (k : Int) ≤ (S.size : Int) := by omega
            obtain ⟨S2, hS2⟩ : ∃ S2, S2 = S.extract 0 k := ⟨_, rfl⟩
            have hS2' := hS2.symm
            have HADD : Hid (Calls Try.prog 82 #[.pointer (some ⟨rb, 2, none⟩), .slice (some ⟨Wd.heap.size, 0, none⟩) 1 1] (Wd.alloc (.cells #[.int .i64 2, .string S2, .int .i64 0, .int .i64 0] 45)) fun e w' => AddPost rb (addS { st with left := L, long := decide ((64 : Int) < (k : Int)) } [⟨2, L.take k, 0, 0⟩]) Wd e w') := Lib.hid (by
              have h9 := add_lit rb { st with left := L, long := decide ((64 : Int) < (k : Int)) } ⟨2, L.take k, 0, 0⟩ 45 Wd HRD.out
              rw [hS2, HS.out, bs_take]; exact h9)
            clear hS2
            refine wpAnyH_take (i := 0) (oi := { dst := some 52, op := Op.move (Operand.tmp 0), type := 88, pos := "text.go:102", after := #[], guard := none }) (v := ?rv31) rfl (by kernel_rfl) (by kernel_rfl) (by kernel_rfl) (fun _ _ _ h => h) (Or.inl ⟨by rfl, ?rhy31⟩) (by assumption) ?rrest31
            case rhy31 => (intro w hSw; (try dsimp only at hSw); first | (go_simp; done) | (go_simp; with_reducible rfl))
            case rrest31 =>
            try simp only [Act.put, List.setIfInBounds_toArray, List.set_cons_zero, List.set_cons_succ]
            refine wpAnyH_take (i := 1) (oi := { dst := some 53, op := Op.nilCheck (Operand.tmp 52), type := 0, pos := "text.go:102", after := #[{ on := 0, ground := Ground.data }], guard := none }) (v := ?rv32) rfl (by kernel_rfl) (by kernel_rfl) (by kernel_rfl) (fun _ _ _ h => h) (Or.inl ⟨by rfl, ?rhy32⟩) (by assumption) ?rrest32
            case rhy32 => (intro w hSw; (try dsimp only at hSw); first | (go_simp; done) | (go_simp; with_reducible rfl))
            case rrest32 =>
            try simp only [Act.put, List.setIfInBounds_toArray, List.set_cons_zero, List.set_cons_succ]
            refine wpAnyH_take (i := 2) (oi := { dst := some 54, op := Op.fieldAddr 70 (Operand.tmp 53) 2, type := 0, pos := "text.go:102", after := #[{ on := 1, ground := Ground.data }], guard := none }) (v := ?rv33) rfl (by kernel_rfl) (by kernel_rfl) (by kernel_rfl) (fun _ _ _ h => h) (Or.inl ⟨by rfl, ?rhy33⟩) (by assumption) ?rrest33
            case rhy33 => (intro w hSw; (try dsimp only at hSw); first | (go_simp; done) | (go_simp; with_reducible rfl))
            case rrest33 =>
            try simp only [Act.put, List.setIfInBounds_toArray, List.set_cons_zero, List.set_cons_succ]
            refine wpAnyH_take (i := 3) (oi := { dst := some 55, op := Op.move (Operand.tmp 0), type := 88, pos := "text.go:102", after := #[], guard := none }) (v := ?rv34) rfl (by kernel_rfl) (by kernel_rfl) (by kernel_rfl) (fun _ _ _ h => h) (Or.inl ⟨by rfl, ?rhy34⟩) (by assumption) ?rrest34
            case rhy34 => (intro w hSw; (try dsimp only at hSw); first | (go_simp; done) | (go_simp; with_reducible rfl))
            case rrest34 =>
            try simp only [Act.put, List.setIfInBounds_toArray, List.set_cons_zero, List.set_cons_succ]
            refine wpAnyH_take (i := 4) (oi := { dst := some 56, op := Op.nilCheck (Operand.tmp 55), type := 0, pos := "text.go:102", after := #[{ on := 3, ground := Ground.data }], guard := none }) (v := ?rv35) rfl (by kernel_rfl) (by kernel_rfl) (by kernel_rfl) (fun _ _ _ h => h) (Or.inl ⟨by rfl, ?rhy35⟩) (by assumption) ?rrest35
            case rhy35 => (intro w hSw; (try dsimp only at hSw); first | (go_simp; done) | (go_simp; with_reducible rfl))
            case rrest35 =>
            try simp only [Act.put, List.setIfInBounds_toArray, List.set_cons_zero, List.set_cons_succ]
            refine wpAnyH_take (i := 5) (oi := { dst := some 57, op := Op.fieldAddr 70 (Operand.tmp 56) 0, type := 0, pos := "text.go:102", after := #[{ on := 4, ground := Ground.data }], guard := none }) (v := ?rv36) rfl (by kernel_rfl) (by kernel_rfl) (by kernel_rfl) (fun _ _ _ h => h) (Or.inl ⟨by rfl, ?rhy36⟩) (by assumption) ?rrest36
            case rhy36 => (intro w hSw; (try dsimp only at hSw); first | (go_simp; done) | (go_simp; with_reducible rfl))
            case rrest36 =>
            try simp only [Act.put, List.setIfInBounds_toArray, List.set_cons_zero, List.set_cons_succ]
            refine wpAnyH_take (i := 6) (oi := { dst := some 58, op := Op.load 9 (Operand.tmp 57), type := 9, pos := "text.go:102", after := #[{ on := 5, ground := Ground.data }], guard := none }) (v := ?rv37) rfl (by kernel_rfl) (by kernel_rfl) (by kernel_rfl) (fun _ _ _ h => h) (Or.inl ⟨by rfl, ?rhy37⟩) (by assumption) ?rrest37
            case rhy37 => (intro w hSw; (try dsimp only at hSw); first | (go_simp; done) | (go_simp; with_reducible rfl))
            case rrest37 =>
            try simp only [Act.put, List.setIfInBounds_toArray, List.set_cons_zero, List.set_cons_succ]
            refine wpAnyH_take (i := 7) (oi := { dst := some 59, op := Op.move (Operand.tmp 3), type := 3, pos := "text.go:102", after := #[], guard := none }) (v := ?rv38) rfl (by kernel_rfl) (by kernel_rfl) (by kernel_rfl) (fun _ _ _ h => h) (Or.inl ⟨by rfl, ?rhy38⟩) (by assumption) ?rrest38
            case rhy38 => (intro w hSw; (try dsimp only at hSw); first | (go_simp; done) | (go_simp; with_reducible rfl))
            case rrest38 =>
            try simp only [Act.put, List.setIfInBounds_toArray, List.set_cons_zero, List.set_cons_succ]
            refine wpAnyH_take (i := 8) (oi := { dst := some 60, op := Op.slice 9 (Operand.tmp 58) none (some (Operand.tmp 59)) none, type := 9, pos := "text.go:102", after := #[{ on := 6, ground := Ground.data }, { on := 7, ground := Ground.data }], guard := none }) (v := ?rv39) rfl (by kernel_rfl) (by kernel_rfl) (by kernel_rfl) (fun _ _ _ h => h) (Or.inl ⟨by rfl, ?rhy39⟩) (by assumption) ?rrest39
            case rhy39 => (intro w hSw; (try dsimp only at hSw); first | (go_simp; done) | (go_simp; with_reducible rfl))
            case rrest39 =>
            try simp only [Act.put, List.setIfInBounds_toArray, List.set_cons_zero, List.set_cons_succ]
            refine wpAnyH_take (i := 9) (oi := { dst := some 61, op := Op.build 45 #[(0, Operand.const (Value.int IntKind.i64 2)), (1, Operand.tmp 60)], type := 45, pos := "text.go:102", after := #[{ on := 8, ground := Ground.data }], guard := none }) (v := ?rv40) rfl (by kernel_rfl) (by kernel_rfl) (by kernel_rfl) (fun _ _ _ h => h) (Or.inl ⟨by rfl, ?rhy40⟩) (by assumption) ?rrest40
            case rhy40 => (intro w hSw; (try dsimp only at hSw); first | (go_simp; done) | (go_simp; with_reducible rfl))
            case rrest40 =>
            try simp only [Act.put, List.setIfInBounds_toArray, List.set_cons_zero, List.set_cons_succ]
            refine wpAnyH_ready (rs := [10]) (by kernel_rfl) (by simp) ?_
            refine AllReadyH.cons (o := { dst := some 62, op := Op.buildSlice 22 1 #[(0, Operand.tmp 61)], type := 22, pos := "text.go:102", after := #[{ on := 9, ground := Ground.data }], guard := none }) rfl (fun K hK => ?_) AllReadyH.nil
            go_simp
            obtain ⟨wb, hwb⟩ : ∃ W7, W7 = World.alloc Wd (.cells #[.int .i64 2, .string S2, .int .i64 0, .int .i64 0] 45) := ⟨_, rfl⟩
            rw [← hwb] at HADD ⊢
            have bwb : Below Wd.heap.size Wd wb := by rw [hwb]; exact (Below.refl _ _).alloc (Nat.le_refl _) _
            refine hK.out _ _ ?_ (fun hHeld => ?_)
            · (try dsimp only)
              exact ⟨HKS.out _ (HRD.out.below bwb), Lib.hid (hHeld.2.out.trans (rb_below (Nat.le_of_lt HRD.out.lt) bwb))⟩
            clear hK K hwb bwb
            try simp only [Act.put, List.setIfInBounds_toArray, List.set_cons_zero, List.set_cons_succ]
            refine wpAnyH_ready (rs := [11]) (by kernel_rfl) (by simp) ?_
            refine AllReadyH.cons (o := { dst := some 63, op := Op.call { callee := Callee.value (Operand.func 82), args := #[Operand.tmp 54, Operand.tmp 62], argTypes := #[68, 22] }, type := 0, pos := "text.go:102", after := #[{ on := 2, ground := Ground.data }, { on := 10, ground := Ground.data }], guard := none }) rfl (fun K hK => ?_) AllReadyH.nil
            go_simp
            refine HADD.out.mono ?_
            rintro e wc hp
            have HP := Lib.hid hp
            obtain ⟨rfl, -, -⟩ := hp
            have HRC := Lib.hid HP.out.2.1
            obtain ⟨v9, h91, h92⟩ := HRC.out.row
            have c9 := h91.cell (j := 0) rfl
            rw [addS_left, ← HS.out] at c9
            have f9 := h91.froz 0
            clear h91 h92
            go_wp2_with fail
            refine hK.out _ _ ?_ (fun hHeld => ?_)
            · (try dsimp only)
              exact ⟨c9, Lib.hid (HBD.out.trans HP.out.2.2)⟩
            clear hK K
            try simp only [Act.put, List.setIfInBounds_toArray, List.set_cons_zero, List.set_cons_succ]
            refine wpAnyH_done (by kernel_rfl) ?_ _
            have HBC : Hid (Below rb w wc) := Lib.hid (HB6.out.trans (HBD.out.trans HP.out.2.2))
            have HT : Hid (S.extract k S.size = bs (L.drop k)) := Lib.hid (by rw [HS.out]; exact bs_drop)
            have hset := HRC.out.setLeft (L.drop k)
            rw [← HT.out] at hset
            have HFIN := Lib.hid hset
            clear hHeld hset
            go_wp2_with fail
            go_ret
            exact ⟨by rw [HV.out]; rfl, by rw [HV.out]; exact HFIN.out, HBC.out.trans (setAt_below _)⟩
end Go.Proofs.Ytnaimmhdpjggmaa.U
