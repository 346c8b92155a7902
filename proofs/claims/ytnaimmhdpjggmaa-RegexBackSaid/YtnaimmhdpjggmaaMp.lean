/- The contracts of Nullable and Match. -/
import Derived.Test.YtnaimmhdpjggmaaMo
namespace Go.Proofs.Ytnaimmhdpjggmaa.U
open Go.RowKit

set_option maxHeartbeats 400000 in
theorem nowhere_here (w : World) (n : Nat) : HereC 27 #[] w n nowh := by
  refine ⟨fun args w => enters_of Try.func27 (by kernel_rfl) rfl args w, fun k W _ _ => ?_⟩
  show Calls Try.prog 27 #[.int .i64 (k : Int)] W _
  go_enter Try.func27, Try.ntmps27
  go_wp2_with fail
  go_ret
  exact ⟨rfl, Below.refl _ _⟩
set_option maxHeartbeats 2000000 in
set_option maxRecDepth 10000 in
theorem match1_here {w : World} {vn : Value} {L : List Nd} {may : List Bool} {x : Wd} {yb mb wb g : Nat} (hn : NR w vn L) (hm : BoolsAt w ⟨yb, 0, none⟩ g L.length may) (hv : w.cell? ⟨mb, 0, none⟩ = some vn) (hx : w.cell? ⟨wb, 0, none⟩ = some (.string ⟨x.toArray⟩)) :
    HereC 28 #[.pointer (some ⟨yb, 0, none⟩), .pointer (some ⟨mb, 0, none⟩), .pointer (some ⟨wb, 0, none⟩)] w L.length (hereW L may x) := by
  refine ⟨fun args w => enters_of Try.func28 (by kernel_rfl) rfl args w, fun k W hk hb => ?_⟩
  obtain ⟨a, c, rfl, h2, h3, h4⟩ := (hn.th hb (Nat.le_refl _)).at
  obtain ⟨z, hz⟩ : ∃ z, L[k]? = some z := ⟨_, List.getElem?_eq_getElem hk⟩
  obtain ⟨g1, o, rfl, k1, k2, k3, k4⟩ := h4 k z hz
  have HV : Hid (hereW L may x k = (tl may (k : Nat) && decide (z.sym = x))) := Lib.hid (by unfold hereW; rw [getD_tl, nd_at hz])
  have hmb := hm.below hb
  have c1 := hmb.var
  have c2 := hmb.get hk
  have c3 := up_cell hb (Nat.le_refl _) hv
  have c4 := up_cell hb (Nat.le_refl _) hx
  have hi0 : (0 : Int) ≤ k := by omega
  have hi1 : (k : Int) < L.length := by omega
  generalize tl may (k : Nat) = y at c2 HV
  clear h2 h3 h4 hz hmb hm hn hv hx hk
  show Calls Try.prog 28 #[.int .i64 (k : Int), .pointer (some ⟨yb, 0, none⟩), .pointer (some ⟨mb, 0, none⟩), .pointer (some ⟨wb, 0, none⟩)] W _
  cases y with
  | false =>
    go_enter Try.func28, Try.ntmps28
    go_wp2_with fail
    go_quiet (fail)
    go_wp2_with fail
    go_ret
    exact ⟨bool_ret (by rw [HV.out]; rfl), below_draws _ _⟩
  | true =>
    by_cases he : z.sym = x
    · have e1 : (z.sym == x) = true := by simp [he]
      have e2 : (x == x) = true := by simp
      have HE := Lib.hid he
      rw [he] at k2
      clear he
      go_enter Try.func28, Try.ntmps28
      go_wp2_with fail
      go_quiet (fail)
      go_wp2_with fail
      go_ret
      exact ⟨bool_ret (by rw [HV.out, decide_eq_true HE.out]; rfl), below_draws _ _⟩
    · have e1 : (z.sym == x) = false := by simp [he]
      have HE := Lib.hid he
      clear he
      go_enter Try.func28, Try.ntmps28
      go_wp2_with fail
      go_quiet (fail)
      go_wp2_with fail
      go_ret
      exact ⟨bool_ret (by rw [HV.out, decide_eq_false HE.out]; rfl), below_draws _ _⟩
theorem emL_len (l : List Nd) : (emL l).length = l.length := by unfold emL; rw [upA_len]
theorem chk_ne {l : List Nd} (h : chkP l ≠ 0) : (chkP l == 0) = false ∧ (chkP l != 0) = true := by simp [h]
/-- What nothing less than a right expression says. -/
def nullP (l : List Nd) : Bool := if chkP l = 0 then nullG l else false
def matchP (l : List Nd) (ws : List Wd) : Bool := if chkP l = 0 then matchG l ws else false
def RStepPost (l : List Nd) (w : World) (e : Ending) (w' : World) : Prop := Below w.heap.size w w' ∧ ∃ v, e = .returned (.tuple #[v, .bool (nullP l)])
set_option maxHeartbeats 4000000 in
set_option maxRecDepth 20000 in
theorem rstep_any (v : Value) (l : List Nd) (w : World) (h : NR w v l) :
    Calls Try.prog 29 #[.agg #[v], .bool true, .func (.func 27) #[] #[]] w fun e w' => RStepPost l w e w' := by
  obtain ⟨W1, hW1⟩ : ∃ W1, W1 = w.alloc (.cells #[v] 24) := ⟨_, rfl⟩
  have HB1 : Hid (Below w.heap.size w W1) := Lib.hid (by rw [hW1]; exact (Below.refl _ w).alloc (Nat.le_refl _) _)
  have HMO := Lib.hid (matcherOf_any v l W1 (h.below HB1.out))
  obtain ⟨a, cc, rfl, h2, h3, h4⟩ := h.at
  have HW1 := Lib.hid hW1
  clear h h2 h3 h4 hW1
  go_enter Try.func29, Try.ntmps29
  go_wp2_with fail
  rw [← HW1.out]
  refine HMO.out.mono ?_
  rintro e w2 ⟨hb2, hp⟩
  have HB2 := Lib.hid (th HB1.out (Nat.le_refl _) hb2)
  clear hb2
  rcases hp with ⟨hc, rfl⟩ | ⟨hc, vn, g, rfl, hn, he⟩
  · have HV : Hid (nullP l = false) := Lib.hid (by unfold nullP; rw [if_neg hc])
    clear hc
    go_wp2_with fail
    go_ret2
    exact ⟨HB2.out.alloc HB2.out.size _, _, by rw [HV.out]; rfl⟩
  · have HV : Hid (nullP l = nullG l) := Lib.hid (by unfold nullP; rw [if_pos hc])
    obtain ⟨hf, _, hl⟩ := chk0 hc
    obtain ⟨W3, hW3⟩ : ∃ W3, W3 = w2.alloc (.cells #[vn, .slice (some ⟨g, 0, none⟩) l.length l.length] 55) := ⟨_, rfl⟩
    have hb3 : Below w2.heap.size w2 W3 := by rw [hW3]; exact (Below.refl _ _).alloc (Nat.le_refl _) _
    have HB3 := Lib.hid (th HB2.out (Nat.le_refl _) hb3)
    have HST := Lib.hid (mstep_any vn (.slice (some ⟨g, 0, none⟩) l.length l.length) (livL l) (emL (livL l)) true 27 #[] nowh W3 ⟨hn.below hb3, ⟨g, by rw [liv_len], he.below hb3⟩, emL_len _⟩ (liv_form hf) (by rw [liv_len]; exact hl) (nowhere_here _ _))
    obtain ⟨va, vc, rfl, _⟩ := hn.at
    have HW3 := Lib.hid hW3
    clear hc hf hl hb3 hW3 hn he
    go_wp2_with fail
    rw [← HW3.out]
    refine HST.out.mono ?_
    rintro e w4 ⟨hb4, g4, rfl, hr4⟩
    have HB4 := Lib.hid (th HB3.out (Nat.le_refl _) hb4)
    clear hb4 hr4
    have hen : endsB (livL l) (emL (livL l)) true nowh = nullG l := rfl
    rw [hen]
    generalize hy : nullG l = y
    have HY := Lib.hid hy
    clear hy hen
    go_wp2_with fail
    go_ret2
    exact ⟨HB4.out, _, by rw [HV.out, HY.out]; rfl⟩
set_option maxHeartbeats 1000000 in
theorem nullable_any (v : Value) (l : List Nd) (w : World) (h : NR w v l) :
    Calls Try.prog 11 #[.agg #[v]] w fun e w' => e = .returned (.bool (nullP l)) ∧ Below w.heap.size w w' := by
  obtain ⟨W1, hW1⟩ : ∃ W1, W1 = w.alloc (.cells #[v] 24) := ⟨_, rfl⟩
  have HB1 : Hid (Below w.heap.size w W1) := Lib.hid (by rw [hW1]; exact (Below.refl _ w).alloc (Nat.le_refl _) _)
  have HST := Lib.hid (rstep_any v l W1 (h.below HB1.out))
  obtain ⟨a, cc, rfl, h2, h3, h4⟩ := h.at
  have HW1 := Lib.hid hW1
  clear h h2 h3 h4 hW1
  go_enter Try.func11, Try.ntmps11
  go_wp2_with fail
  rw [← HW1.out]
  refine HST.out.mono ?_
  rintro e w2 ⟨hb2, v2, rfl⟩
  have HB2 := Lib.hid (th HB1.out (Nat.le_refl _) hb2)
  clear hb2
  generalize hy : nullP l = y
  have HY := Lib.hid hy
  clear hy
  go_wp2_with fail
  go_ret
  exact ⟨by rw [HY.out]; rfl, HB2.out⟩
/-- The rounds of Match. -/
structure MtI (w wr : World) (l : List Nd) (ws : List Wd) (k g : Nat) (e : Bool) : Prop where
  row : ∃ may, may.length = l.length ∧ WR wr g 4 (may.map eB) ∧ goL (livL l) (emL (livL l)) may e (ws.drop k) = matchG l ws
  kept : Below w.heap.size w wr
theorem nextL_len (L : List Nd) (em : List Bool) (b : Bool) (here : Nat → Bool) : (nextL L em b here).length = L.length := by unfold nextL nextD; rw [List.length_mapIdx, downA_len]
set_option maxHeartbeats 4000000 in
set_option maxRecDepth 20000 in
theorem matchG_any (v u : Value) (l : List Nd) (ws : List Wd) (w : World) (h : NR w v l) (hu : VR eS w u ws) (hws : ws.length ≤ 1000) :
    Calls Try.prog 10 #[.agg #[v], u] w fun e w' => e = .returned (.bool (matchP l ws)) ∧ Below w.heap.size w w' := by
  obtain ⟨W1, hW1⟩ : ∃ W1, W1 = w.alloc (.cells #[v] 24) := ⟨_, rfl⟩
  have HB1 : Hid (Below w.heap.size w W1) := Lib.hid (by rw [hW1]; exact (Below.refl _ w).alloc (Nat.le_refl _) _)
  have HMO := Lib.hid (matcherOf_any v l W1 (h.below HB1.out))
  obtain ⟨a, cc, rfl, h2, h3, h4⟩ := h.at
  obtain ⟨ua, uc, rfl, u2, u3, u4⟩ := hu.at
  have HW1 := Lib.hid hW1
  have HU4 := Lib.hid u4
  obtain ⟨n, hn⟩ : ∃ n, n = ws.length := ⟨_, rfl⟩
  have HN := Lib.hid hn
  rw [← hn] at hws ⊢
  clear h h2 h3 h4 hW1 hu u2 u3 u4 hn
  go_enter Try.func10, Try.ntmps10
  go_wp2_with fail
  rw [← HW1.out]
  refine HMO.out.mono ?_
  rintro e w2 ⟨hb2, hp⟩
  have HB2 := Lib.hid (th HB1.out (Nat.le_refl _) hb2)
  clear hb2
  rcases hp with ⟨hc, rfl⟩ | ⟨hc, vn, g, rfl, hno, he⟩
  · have HV : Hid (matchP l ws = false) := Lib.hid (by unfold matchP; rw [if_neg hc])
    clear hc
    go_wp2_with fail
    go_ret
    exact ⟨by rw [HV.out]; rfl, HB2.out.alloc HB2.out.size _⟩
  · have HV : Hid (matchP l ws = matchG l ws) := Lib.hid (by unfold matchP; rw [if_pos hc])
    obtain ⟨hf, _, hl⟩ := chk0 hc
    have HF := Lib.hid (liv_form hf)
    have HL : Hid ((livL l).length ≤ 1024) := Lib.hid (by rw [liv_len]; exact hl)
    obtain ⟨W3, hW3⟩ : ∃ W3, W3 = w2.alloc (.cells #[vn, .slice (some ⟨g, 0, none⟩) l.length l.length] 55) := ⟨_, rfl⟩
    have hb3 : Below w2.heap.size w2 W3 := by rw [hW3]; exact (Below.refl _ _).alloc (Nat.le_refl _) _
    have HB3 := Lib.hid (th HB2.out (Nat.le_refl _) hb3)
    have HMV : Hid (MatV W3 vn (.slice (some ⟨g, 0, none⟩) l.length l.length) (livL l) (emL (livL l))) := Lib.hid ⟨hno.below hb3, ⟨g, by rw [liv_len], he.below hb3⟩, emL_len _⟩
    have HWM : Hid (WR W3 w2.heap.size 55 [vn, .slice (some ⟨g, 0, none⟩) l.length l.length]) := Lib.hid (by rw [hW3]; exact WR.new w2 _ _)
    have HST := Lib.hid (mstep_any vn (.slice (some ⟨g, 0, none⟩) l.length l.length) (livL l) (emL (livL l)) true 27 #[] nowh W3 HMV.out HF.out HL.out (nowhere_here _ _))
    obtain ⟨va, vc, rfl, _⟩ := hno.at
    rw [liv_len] at HMV HWM HST hW3 ⊢
    have HW3 := Lib.hid hW3
    clear hc hf hl hb3 hW3 hno he
    go_wp2_with fail
    rw [← HW3.out]
    refine HST.out.mono ?_
    rintro e w4 ⟨hb4, g4, rfl, hr4⟩
    rw [liv_len]
    have HI0 : Hid (MtI W3 w4 l ws 0 g4 (endsB (livL l) (emL (livL l)) true nowh)) := Lib.hid ⟨⟨_, by rw [nextL_len, liv_len], hr4, rfl⟩, hb4⟩
    generalize endsB (livL l) (emL (livL l)) true nowh = e0 at HI0
    clear hb4 hr4
    go_wp2_with fail
    go_loopw [7, 8, 26] (fun nx en i wr => ∃ (k g : Nat) (e : Bool), i = .int .i64 k ∧ k ≤ n ∧ nx = .slice (some ⟨g, 0, none⟩) l.length l.length ∧ en = .bool e ∧ Hid (MtI W3 wr l ws k g e)) (fun _ _ i _ => n - (intOf i).toNat)
    case atStart => exact ⟨0, g4, e0, rfl, by omega, rfl, rfl, HI0⟩
    case round =>
      obtain ⟨k, gk, ek, rfl, hk, rfl, rfl, HI⟩ := hrel
      by_cases hlt : k < n
      · obtain ⟨x, hx⟩ : ∃ x, ws[k]? = some x := ⟨_, List.getElem?_eq_getElem (by rw [← HN.out]; exact hlt)⟩
        obtain ⟨ug, uo, rfl, s1⟩ := HU4.out k x hx
        unfold eS at s1
        have HBW := Lib.hid (th HB3.out (Nat.le_refl _) HI.out.kept)
        have s2 := up_cell HBW.out (Nat.le_refl _) s1
        have hi0 : (0 : Int) ≤ k := by omega
        have hi1 : (k : Int) < n := by omega
        have hd1 : decide ((k : Int) < n) = true := by simp; omega
        have HX := Lib.hid hx
        have HLT := Lib.hid hlt
        obtain ⟨may, hml, hmr, hgo⟩ := HI.out.row
        obtain ⟨W5, hW5⟩ : ∃ W5, W5 = (wr.alloc (.cells #[.string ⟨x.toArray⟩] 9)).alloc (.cells #[.slice (some ⟨gk, 0, none⟩) l.length l.length] 53) := ⟨_, rfl⟩
        have hb5 : Below wr.heap.size wr W5 := by rw [hW5]; exact ((Below.refl _ _).alloc (Nat.le_refl _) _).alloc (by simp) _
        have HK5 := Lib.hid (th HI.out.kept (Nat.le_refl _) hb5)
        have c5w : W5.cell? ⟨wr.heap.size, 0, none⟩ = some (.string ⟨x.toArray⟩) := by
          rw [hW5]; exact cell_al _ (by simp)
        have c5m : W5.cell? ⟨wr.heap.size + 1, 0, none⟩ = some (.slice (some ⟨gk, 0, none⟩) l.length l.length) := by
          rw [hW5]
          have h9 := (WR.new (wr.alloc (.cells #[.string ⟨x.toArray⟩] 9)) 53 [.slice (some ⟨gk, 0, none⟩) l.length l.length]).cell (j := 0) rfl
          rw [show (wr.alloc (.cells #[.string ⟨x.toArray⟩] 9)).heap.size = wr.heap.size + 1 by simp] at h9
          exact h9
        have HMV5 := Lib.hid (HMV.out.below HK5.out)
        have HWM5 := Lib.hid (HWM.out.below HK5.out)
        have hbo : BoolsAt W5 ⟨wr.heap.size + 1, 0, none⟩ gk (livL l).length may := ⟨by rw [liv_len]; exact c5m, hmr.below hb5, by rw [liv_len]; exact hml⟩
        have HST5 := Lib.hid (mstep_any _ _ (livL l) (emL (livL l)) false 28 #[.pointer (some ⟨wr.heap.size + 1, 0, none⟩), .pointer (some ⟨w2.heap.size, 0, none⟩), .pointer (some ⟨wr.heap.size, 0, none⟩)] (hereW (livL l) may x) W5 HMV5.out HF.out HL.out (match1_here HMV5.out.nodes hbo (HWM5.out.cell rfl) c5w))
        have m0 := (HWM.out.below HI.out.kept).cell (j := 0) rfl
        have m1 := (HWM.out.below HI.out.kept).cell (j := 1) rfl
        have m0s := cell_al (.cells #[.slice (some ⟨gk, 0, none⟩) l.length l.length] 53) (cell_al (.cells #[.string ⟨x.toArray⟩] 9) m0)
        have m1s := cell_al (.cells #[.slice (some ⟨gk, 0, none⟩) l.length l.length] 53) (cell_al (.cells #[.string ⟨x.toArray⟩] 9) m1)
        have HGO := Lib.hid hgo
        have HW5 := Lib.hid hW5
        clear hx hlt hk s1 hml hmr hgo hb5 c5w c5m hbo hW5 m0 m1
        go_wp2_with fail
        rw [← HW5.out]
        refine HST5.out.mono ?_
        rintro e w6 ⟨hb6, g6, rfl, hr6⟩
        rw [liv_len]
        have hstep : goL (livL l) (emL (livL l)) (nextL (livL l) (emL (livL l)) false (hereW (livL l) may x)) (endsB (livL l) (emL (livL l)) false (hereW (livL l) may x)) (ws.drop (k + 1)) = matchG l ws := by
          rw [← HGO.out]
          have e : ws.drop k = x :: ws.drop (k + 1) := by
            obtain ⟨hk, he⟩ := List.getElem?_eq_some_iff.1 HX.out
            rw [← he, ← List.drop_eq_getElem_cons hk]
          rw [e]; rfl
        have HFIN : Hid (MtI W3 w6 l ws (k + 1) g6 (endsB (livL l) (emL (livL l)) false (hereW (livL l) may x))) := Lib.hid ⟨⟨_, by rw [nextL_len, liv_len], hr6, hstep⟩, th HK5.out (Nat.le_refl _) hb6⟩
        generalize endsB (livL l) (emL (livL l)) false (hereW (livL l) may x) = e6 at HFIN
        clear hb6 hr6 hstep m0s m1s s2
        go_wp2_with fail
        go_roundw
        case rel => exact ⟨k + 1, g6, e6, by go_num, by have := HLT.out; omega, rfl, rfl, HFIN⟩
        case measure => have := HLT.out; simp [intOf]; omega
      · have hd1 : decide ((k : Int) < n) = false := by simp; omega
        have hd2 : decide (k < n) = false := by simp; omega
        have hkn : k = n := by omega
        have HKN := Lib.hid hkn
        clear hlt hk hkn
        go_wp2_with fail
        go_ret
        refine ⟨bool_ret ?_, th HB3.out (Nat.le_refl _) HI.out.kept⟩
        obtain ⟨may, _, _, hgo⟩ := HI.out.row
        rw [HKN.out, HN.out, List.drop_length] at hgo
        rw [HV.out, ← hgo]; rfl
end Go.Proofs.Ytnaimmhdpjggmaa.U
