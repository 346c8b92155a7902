/- The document's answer: Match. -/
import Derived.Test.YtnaimmhdpjggmaaMd
namespace Go.Proofs.Ytnaimmhdpjggmaa.U
open Go.RowKit

theorem add00 : ∀ a : Option Addr, a.map (·.add 0) = a := by
  intro a
  cases a with
  | none => rfl
  | some a => obtain ⟨b, o, p⟩ := a; simp [Addr.add]
/-- A cut of a row of things of one cell, as values: the run, and what they are rows of. -/
theorem cut_row {T : TypeId} (ht : Try.prog.underlying T = some (.slice (Try.prog.elem T))) (hsz : (sizeOf (Try.prog.elem T)).run Try.prog = fun w => .ok 1 w) {a : Option Addr} {n c k : Nat} (hk : k ≤ n) (hc : n ≤ c) :
    ∃ vt vd, (∀ w, (Instr.slice T (.slice a n c) none (some (.int .i64 (k : Int))) none).run Try.prog w = .ok vt w) ∧ (∀ w, (Instr.slice T (.slice a n c) (some (.int .i64 (k : Int))) none none).run Try.prog w = .ok vd w) ∧
      ∀ {α : Type} (e : α → Value) (w : World) (l : List α), VR e w (.slice a n c) l → VR e w vt (l.take k) ∧ VR e w vd (l.drop k) := by
  refine ⟨.slice a k c, .slice (if c = k then a else a.map (·.add (k * 1))) (n - k) (c - k), fun w => ?_, fun w => ?_, ?_⟩
  · rw [run_slice_h (w := w) T a n c ht .i64 k (by omega) (by omega), hsz]
    simp only [sliced, Result.andThen, Int.toNat_natCast, Nat.zero_mul, Nat.sub_zero, add00]
    split <;> rfl
  · rw [run_slice_l (w := w) T a n c ht .i64 k (by omega) (by omega), hsz]
    simp [sliced, Result.andThen]
  · intro α e w l h
    obtain ⟨a', c', h1, h2, h3, h4⟩ := h
    simp only [Value.slice.injEq] at h1
    obtain ⟨rfl, rfl, rfl⟩ := h1
    refine ⟨⟨a, c, by rw [List.length_take, Nat.min_eq_left hk], by rw [List.length_take]; omega, h3, fun h0 => ?_⟩, ⟨_, _, by rw [List.length_drop], by rw [List.length_drop]; omega, by omega, fun h0 => ?_⟩⟩
    · rw [List.length_take] at h0
      obtain ⟨g, o, rfl, h5⟩ := h4 (by omega)
      refine ⟨g, o, rfl, fun i x hx => h5 i x ?_⟩
      rw [List.getElem?_take] at hx
      split at hx
      · exact hx
      · cases hx
    · rw [List.length_drop] at h0
      obtain ⟨g, o, rfl, h5⟩ := h4 (by omega)
      refine ⟨g, o + k, ?_, fun i x hx => ?_⟩
      · rw [if_neg (by omega)]
        simp [Addr.add]
      · rw [List.getElem?_drop] at hx
        have := h5 _ _ hx
        rwa [Nat.add_assoc]
theorem cut_words {a : Option Addr} {n c k : Nat} (hk : k ≤ n) (hc : n ≤ c) :
    ∃ vt vd, (∀ w, (Instr.slice 25 (.slice a n c) none (some (.int .i64 (k : Int))) none).run Try.prog w = .ok vt w) ∧ (∀ w, (Instr.slice 25 (.slice a n c) (some (.int .i64 (k : Int))) none none).run Try.prog w = .ok vd w) ∧
      ∀ (w : World) (l : List Wd), VR eS w (.slice a n c) l → VR eS w vt (l.take k) ∧ VR eS w vd (l.drop k) := by
  have he : Try.prog.elem 25 = 9 := by kernel_rfl
  obtain ⟨vt, vd, h1, h2, h3⟩ := cut_row (T := 25) (a := a) (by rw [he]; exact Try.underlying25) (by rw [he]; funext w; exact Try.sizeOf9 w) hk hc
  exact ⟨vt, vd, h1, h2, fun w l h => h3 eS w l h⟩
open Classical in
/-- Whether a tree matches words. -/
noncomputable def lgB (t : RE) (w : List Wd) : Bool := decide (Lg t w)
theorem lgB_iff {t : RE} {w : List Wd} : lgB t w = true ↔ Lg t w := by unfold lgB; simp
theorem lgB_f {t : RE} {w : List Wd} (h : ¬ Lg t w) : lgB t w = false := by rw [bF, lgB_iff]; exact h
theorem lgB_t {t : RE} {w : List Wd} (h : Lg t w) : lgB t w = true := lgB_iff.2 h
theorem lgB_no {t : RE} {w : List Wd} (h : lgB t w = false) : ¬ Lg t w := by rw [bF, lgB_iff] at h; exact h
theorem no_split {s t : RE} {w : List Wd} (h : ∀ j, j < w.length + 1 → ¬ (Lg s (w.take j) ∧ Lg t (w.drop j))) : ¬ Lg (.cat s t) w := by
  intro k
  obtain ⟨u, v, rfl, h1, h2⟩ := Lg.cat_iff.1 k
  exact h u.length (by simp; omega) ⟨by simpa using h1, by simpa using h2⟩
theorem no_star {s : RE} {w : List Wd} (hw : w ≠ []) (h : ∀ j, 1 ≤ j → j < w.length + 1 → ¬ (Lg s (w.take j) ∧ Lg (.star s) (w.drop j))) : ¬ Lg (.star s) w := by
  intro k
  cases w with
  | nil => exact hw rfl
  | cons x w =>
    obtain ⟨u, v, rfl, h1, h2⟩ := Lg.star_cons.1 k
    exact h (u.length + 1) (by omega) (by simp; omega) ⟨by simpa using h1, by simpa using h2⟩
theorem yes_split {s t : RE} {w : List Wd} {j : Nat} (h1 : Lg s (w.take j)) (h2 : Lg t (w.drop j)) : Lg (.cat s t) w := by
  have := Lg.cat h1 h2
  rwa [List.take_append_drop] at this
theorem yes_star {s : RE} {w : List Wd} {j : Nat} (h1 : Lg s (w.take j)) (h2 : Lg (.star s) (w.drop j)) : Lg (.star s) w := by
  have := Lg.more h1 h2
  rwa [List.take_append_drop] at this
/-- What a call of Match comes to. -/
def MatP (b : Bool) (W : World) (e : Ending) (w' : World) : Prop := e = .returned (.bool b) ∧ Below W.heap.size W w'
/-- That a callee answers for a tree. -/
def MatC (v : Value) (i : Nat) (t : RE) (w : World) : Prop := ∀ (ws : List Wd) (u : Value) (W : World), Below w.heap.size w W → VR eS W u ws → ws.length ≤ 1000 → Calls Try.prog 13 #[v, .int .i64 (i : Int), u] W fun e w' => MatP (lgB t ws) W e w'
set_option maxHeartbeats 4000000 in
set_option maxRecDepth 20000 in
theorem match_none {l : List Nd} {i : Nat}  (ws : List Wd) (v u : Value) (w : World) (hv : NR w v l) (hu : VR eS w u ws) (hl : ws.length ≤ 1000) (h : l[i]? = some ⟨0, [], 0, 0⟩) : Calls Try.prog 13 #[v, .int .i64 (i : Int), u] w fun e w' => MatP (lgB .none ws) w e w' := by
  obtain ⟨g, o, c, rfl, hi1, hn63, s1, s2, s3, s4⟩ := hv.node h
  have hi0 : (0 : Int) ≤ i := by omega
  have HB := Lib.hid ((Below.refl w.heap.size w).alloc (Nat.le_refl _) (.cells (ndC ⟨0, [], 0, 0⟩).toArray 46))
  clear hv h
  obtain ⟨n, hn⟩ : ∃ n, n = l.length := ⟨_, rfl⟩
  rw [← hn] at hi1 hn63 ⊢
  clear hn
  obtain ⟨ua, uc, rfl, u2, u3, u4⟩ := hu.at
  obtain ⟨m, hm⟩ : ∃ m, m = ws.length := ⟨_, rfl⟩
  have hm63 : m ≤ 1000 := by omega
  have HM := Lib.hid hm
  rw [← hm]
  clear hu u2 u3 u4 hm hl
  go_enter Try.func13, Try.ntmps13
  go_wp2_with fail
  go_ret
  exact ⟨bool_ret (lgB_f (fun k => Lg.none_iff.1 k)).symm, HB.out⟩
set_option maxHeartbeats 4000000 in
set_option maxRecDepth 20000 in
theorem match_empty {l : List Nd} {i : Nat}  (ws : List Wd) (v u : Value) (w : World) (hv : NR w v l) (hu : VR eS w u ws) (hl : ws.length ≤ 1000) (h : l[i]? = some ⟨1, [], 0, 0⟩) : Calls Try.prog 13 #[v, .int .i64 (i : Int), u] w fun e w' => MatP (lgB .empty ws) w e w' := by
  obtain ⟨g, o, c, rfl, hi1, hn63, s1, s2, s3, s4⟩ := hv.node h
  have hi0 : (0 : Int) ≤ i := by omega
  have HB := Lib.hid ((Below.refl w.heap.size w).alloc (Nat.le_refl _) (.cells (ndC ⟨1, [], 0, 0⟩).toArray 46))
  clear hv h
  obtain ⟨n, hn⟩ : ∃ n, n = l.length := ⟨_, rfl⟩
  rw [← hn] at hi1 hn63 ⊢
  clear hn
  obtain ⟨ua, uc, rfl, u2, u3, u4⟩ := hu.at
  obtain ⟨m, hm⟩ : ∃ m, m = ws.length := ⟨_, rfl⟩
  have hm63 : m ≤ 1000 := by omega
  have HM := Lib.hid hm
  rw [← hm]
  clear hu u2 u3 u4 hm hl
  have HE : Hid ((((m : Int) == 0) : Bool) = lgB .empty ws) := Lib.hid (by
    rw [Bool.eq_iff_iff, lgB_iff, Lg.empty_iff, ← List.length_eq_zero_iff, ← HM.out]; simp)
  go_enter Try.func13, Try.ntmps13
  go_wp2_with fail
  go_ret
  exact ⟨by rw [← HE.out]; first | rfl | simp, HB.out⟩
set_option maxHeartbeats 4000000 in
set_option maxRecDepth 20000 in
theorem match_sym {l : List Nd} {i : Nat} {s : Wd} (ws : List Wd) (v u : Value) (w : World) (hv : NR w v l) (hu : VR eS w u ws) (hl : ws.length ≤ 1000) (h : l[i]? = some ⟨2, s, 0, 0⟩) : Calls Try.prog 13 #[v, .int .i64 (i : Int), u] w fun e w' => MatP (lgB (.sym s) ws) w e w' := by
  obtain ⟨g, o, c, rfl, hi1, hn63, s1, s2, s3, s4⟩ := hv.node h
  have hi0 : (0 : Int) ≤ i := by omega
  have HB := Lib.hid ((Below.refl w.heap.size w).alloc (Nat.le_refl _) (.cells (ndC ⟨2, s, 0, 0⟩).toArray 46))
  clear hv h
  obtain ⟨n, hn⟩ : ∃ n, n = l.length := ⟨_, rfl⟩
  rw [← hn] at hi1 hn63 ⊢
  clear hn
  obtain ⟨ua, uc, rfl, u2, u3, u4⟩ := hu.at
  obtain ⟨m, hm⟩ : ∃ m, m = ws.length := ⟨_, rfl⟩
  have hm63 : m ≤ 1000 := by omega
  have HM := Lib.hid hm
  rw [← hm]
  by_cases h1 : m = 1
  · obtain ⟨x, hx⟩ : ∃ x, ws = [x] := by
      obtain ⟨x, hx⟩ := List.length_eq_one_iff.1 (by rw [← hm]; exact h1)
      exact ⟨x, hx⟩
    obtain ⟨ga, go', rfl, hc1⟩ := u4 0 x (by rw [hx]; rfl)
    unfold eS at hc1
    rw [Nat.add_zero] at hc1
    have HX := Lib.hid hx
    have hlt : ga < w.heap.size := blk_of_cell hc1
    subst h1
    clear hu u2 u3 u4 hm hl HM hx hm63
    by_cases hxs : x = s
    · subst hxs
      have he : (x == x) = true := by simp
      go_enter Try.func13, Try.ntmps13
      go_wp2_with fail
      go_quiet (fail)
      go_wp2_with fail
      go_ret
      exact ⟨bool_ret (lgB_t (Lg.sym_iff.2 HX.out)).symm, HB.out.trans ((below_draws _ _).mono HB.out.size)⟩
    · have he : (x == s) = false := by simp [hxs]
      have HXS := Lib.hid hxs
      clear hxs
      go_enter Try.func13, Try.ntmps13
      go_wp2_with fail
      go_quiet (fail)
      go_wp2_with fail
      go_ret
      exact ⟨bool_ret (lgB_f (fun k => HXS.out (by have := (Lg.sym_iff.1 k); rw [HX.out] at this; simpa using this))).symm, HB.out.trans ((below_draws _ _).mono HB.out.size)⟩
  · have e1 : ((m : Int) == 1) = false := by simp; omega
    have e2 : (m == 1) = false := by simp; omega
    have H1 := Lib.hid h1
    clear hu u2 u3 u4 hm hl h1
    go_enter Try.func13, Try.ntmps13
    go_wp2_with fail
    go_quiet (fail)
    go_wp2_with fail
    go_ret
    exact ⟨bool_ret (lgB_f (fun k => H1.out (by have := (Lg.sym_iff.1 k); rw [HM.out, this]; rfl))).symm, HB.out.trans ((below_draws _ _).mono HB.out.size)⟩
set_option maxHeartbeats 4000000 in
set_option maxRecDepth 20000 in
theorem match_alt {l : List Nd} {i : Nat} {a b : Nat} {s t : RE} (ws : List Wd) (v u : Value) (w : World) (hv : NR w v l) (hu : VR eS w u ws) (hl : ws.length ≤ 1000) (h : l[i]? = some ⟨4, [], (a : Int), (b : Int)⟩) (i1 : MatC v a s w) (i2 : MatC v b t w) : Calls Try.prog 13 #[v, .int .i64 (i : Int), u] w fun e w' => MatP (lgB (.alt s t) ws) w e w' := by
  obtain ⟨g, o, c, rfl, hi1, hn63, s1, s2, s3, s4⟩ := hv.node h
  have hi0 : (0 : Int) ≤ i := by omega
  have HB := Lib.hid ((Below.refl w.heap.size w).alloc (Nat.le_refl _) (.cells (ndC ⟨4, [], (a : Int), (b : Int)⟩).toArray 46))
  have C3 := Lib.hid (show (w.alloc (.cells (ndC ⟨4, [], (a : Int), (b : Int)⟩).toArray 46)).cell? ⟨w.heap.size, 3, none⟩ = some (.int .i64 (b : Int)) by simp [ndC])
  have HU := Lib.hid (fun (W : World) (hb : Below w.heap.size w W) => hu.below hb)
  have HC1 := Lib.hid i1
  have HC2 := Lib.hid i2
  have HL := Lib.hid hl
  clear hv h i1 i2
  obtain ⟨n, hn⟩ : ∃ n, n = l.length := ⟨_, rfl⟩
  rw [← hn] at hi1 hn63 HC1 HC2 ⊢
  clear hn
  obtain ⟨ua, uc, rfl, u2, u3, u4⟩ := hu.at
  obtain ⟨m, hm⟩ : ∃ m, m = ws.length := ⟨_, rfl⟩
  have hm63 : m ≤ 1000 := by omega
  have HM := Lib.hid hm
  rw [← hm] at HU ⊢
  clear hu u2 u3 u4 hm hl
  go_enter Try.func13, Try.ntmps13
  go_wp2_with fail
  refine (HC1.out ws _ _ HB.out (HU.out _ HB.out) HL.out).mono ?_
  rintro e w2 ⟨rfl, hb⟩
  have c3 : w2.cell? ⟨w.heap.size, 3, none⟩ = some (.int .i64 (b : Int)) := up_cell hb (Nat.le_refl _) C3.out
  have HB2 := Lib.hid (th HB.out (Nat.le_refl _) hb)
  clear hb
  cases h9 : lgB s ws with
  | true =>
    have H9 := Lib.hid h9
    clear h9
    go_wp2_with fail
    go_ret
    exact ⟨bool_ret (lgB_t (.alt1 (lgB_iff.1 H9.out))).symm, HB2.out⟩
  | false =>
    have H9 := Lib.hid h9
    clear h9
    go_wp2_with fail
    refine (HC2.out ws _ _ HB2.out (HU.out _ HB2.out) HL.out).mono ?_
    rintro e w3 ⟨rfl, hb⟩
    have HB3 := Lib.hid (th HB2.out (Nat.le_refl _) hb)
    clear hb
    generalize hy : lgB t ws = y
    have HY := Lib.hid hy
    clear hy
    go_wp2_with fail
    go_ret
    refine ⟨bool_ret ?_, HB3.out⟩
    rw [← HY.out]
    cases h9 : lgB t ws with
    | true => exact (lgB_t (.alt2 (lgB_iff.1 h9))).symm
    | false => exact (lgB_f (fun k => by rcases Lg.alt_iff.1 k with k | k; exact lgB_no H9.out k; exact lgB_no h9 k)).symm
set_option maxHeartbeats 4000000 in
set_option maxRecDepth 20000 in
theorem match_cat {l : List Nd} {i : Nat} {a b : Nat} {s t : RE} (ws : List Wd) (v u : Value) (w : World) (hv : NR w v l) (hu : VR eS w u ws) (hl : ws.length ≤ 1000) (h : l[i]? = some ⟨3, [], (a : Int), (b : Int)⟩) (i1 : MatC v a s w) (i2 : MatC v b t w) : Calls Try.prog 13 #[v, .int .i64 (i : Int), u] w fun e w' => MatP (lgB (.cat s t) ws) w e w' := by
  obtain ⟨g, o, c, rfl, hi1, hn63, s1, s2, s3, s4⟩ := hv.node h
  have hi0 : (0 : Int) ≤ i := by omega
  have HB := Lib.hid ((Below.refl w.heap.size w).alloc (Nat.le_refl _) (.cells (ndC ⟨3, [], (a : Int), (b : Int)⟩).toArray 46))
  have C2 := Lib.hid (show (w.alloc (.cells (ndC ⟨3, [], (a : Int), (b : Int)⟩).toArray 46)).cell? ⟨w.heap.size, 2, none⟩ = some (.int .i64 (a : Int)) by simp [ndC])
  have C3 := Lib.hid (show (w.alloc (.cells (ndC ⟨3, [], (a : Int), (b : Int)⟩).toArray 46)).cell? ⟨w.heap.size, 3, none⟩ = some (.int .i64 ((b : Int))) by simp [ndC])
  have HU := Lib.hid (fun (W : World) (hb : Below w.heap.size w W) => hu.below hb)
  have HC1 := Lib.hid i1
  have HC2 := Lib.hid i2
  have HL := Lib.hid hl
  clear hv h i1 i2
  obtain ⟨n, hn⟩ : ∃ n, n = l.length := ⟨_, rfl⟩
  rw [← hn] at hi1 hn63 HC1 HC2 ⊢
  clear hn
  obtain ⟨ua, uc, rfl, u2, u3, u4⟩ := hu.at
  obtain ⟨m, hm⟩ : ∃ m, m = ws.length := ⟨_, rfl⟩
  have hm63 : m ≤ 1000 := by omega
  have HM := Lib.hid hm
  rw [← hm] at HU ⊢
  have HUC := Lib.hid u2
  clear hu u2 u3 u4 hm hl
  go_enter Try.func13, Try.ntmps13
  go_wp2_with fail
  go_loopw [8] (fun i wr => ∃ k : Nat, i = .int .i64 k ∧ k ≤ m + 1 ∧ Hid (∀ j, j < k → ¬ (Lg s (ws.take j) ∧ Lg t (ws.drop j))) ∧ wr.cell? ⟨w.heap.size, 2, none⟩ = some (.int .i64 (a : Int)) ∧ wr.cell? ⟨w.heap.size, 3, none⟩ = some (.int .i64 ((b : Int))) ∧ Hid (Below w.heap.size w wr)) (fun i _ => m + 1 - (intOf i).toNat)
  case atStart => exact ⟨0, rfl, by omega, Lib.hid (fun j hj => by omega), C2.out, C3.out, HB⟩
  case round =>
    obtain ⟨k, rfl, hk, HA, c2, c3, HBr⟩ := hrel
    by_cases hlt : k ≤ m
    · obtain ⟨vt, vd, hrt, hrd, hcut⟩ := cut_words (a := ua) (n := m) (c := uc) (k := k) hlt (by have := HUC.out; have := HM.out; omega)
      have hd1 : decide ((k : Int) ≤ m) = true := by simp; omega
      have hd2 : decide (k ≤ m) = true := by simp; omega
      have HLT := Lib.hid hlt
      have HT := Lib.hid (fun (W : World) (hb : Below w.heap.size w W) => hcut W ws (HU.out W hb))
      have HK1 := Lib.hid (fun (W : World) (hb : Below wr.heap.size wr W) => HC1.out (ws.take k) vt W (th HBr.out (Nat.le_refl _) hb) (HT.out W (th HBr.out (Nat.le_refl _) hb)).1 (by have := HL.out; rw [List.length_take]; omega))
      have HK2 := Lib.hid (fun (W : World) (hb : Below wr.heap.size wr W) => HC2.out (ws.drop k) vd W (th HBr.out (Nat.le_refl _) hb) (HT.out W (th HBr.out (Nat.le_refl _) hb)).2 (by have := HL.out; rw [List.length_drop]; omega))
      have KP : Hid (∀ W, Below wr.heap.size wr W → W.cell? ⟨w.heap.size, 2, none⟩ = some (.int .i64 (a : Int)) ∧ W.cell? ⟨w.heap.size, 3, none⟩ = some (.int .i64 ((b : Int))) ∧ Hid (Below wr.heap.size wr W)) := Lib.hid (fun W hb => ⟨up_cell hb (Nat.le_refl _) c2, up_cell hb (Nat.le_refl _) c3, Lib.hid hb⟩)
      have hk0 : (0 : Int) ≤ k := by omega
      have hw1 : wrap64 ((k : Int) + 1) = (k : Int) + 1 := by unfold wrap64; omega
      have HHK := Lib.hid hk
      clear hlt hcut c2 c3 hk
      cases h9 : lgB s (ws.take k) with
      | true =>
        have H9 := Lib.hid h9
        clear h9
        cases h10 : lgB t (ws.drop k) with
        | true =>
          have H10 := Lib.hid h10
          clear h10
          go_wp2_with fail
          refine wp_region_held_drew (S := (fun W => W.cell? ⟨w.heap.size, 2, none⟩ = some (.int .i64 (a : Int)) ∧ W.cell? ⟨w.heap.size, 3, none⟩ = some (.int .i64 ((b : Int))) ∧ Hid (Below wr.heap.size wr W))) (by kernel_rfl) ?_ (fun hHeld => ?_)
          · (try dsimp only)
            exact KP.out _ (below_draw _)
          refine wpAnyH_take (i := 0) (oi := { dst := some 42, op := Op.move (Operand.tmp 0), type := 28, pos := "ref.go:147", after := #[], guard := none }) (v := ?rv1) rfl (by kernel_rfl) (by kernel_rfl) (by kernel_rfl) (fun _ _ _ h => h) (Or.inl ⟨by rfl, ?rhy1⟩) (by assumption) ?rrest1
          case rhy1 => (intro w hSw; (try dsimp only at hSw); first | (go_simp; done) | (go_simp; with_reducible rfl))
          case rrest1 =>
          try simp only [Act.put, List.setIfInBounds_toArray, List.set_cons_zero, List.set_cons_succ]
          refine wpAnyH_take (i := 1) (oi := { dst := some 43, op := Op.fieldAddr 46 (Operand.tmp 7) 2, type := 0, pos := "ref.go:147", after := #[], guard := none }) (v := ?rv2) rfl (by kernel_rfl) (by kernel_rfl) (by kernel_rfl) (fun _ _ _ h => h) (Or.inl ⟨by rfl, ?rhy2⟩) (by assumption) ?rrest2
          case rhy2 => (intro w hSw; (try dsimp only at hSw); first | (go_simp; done) | (go_simp; with_reducible rfl))
          case rrest2 =>
          try simp only [Act.put, List.setIfInBounds_toArray, List.set_cons_zero, List.set_cons_succ]
          refine wpAnyH_take (i := 2) (oi := { dst := some 44, op := Op.load 3 (Operand.tmp 43), type := 3, pos := "ref.go:147", after := #[{ on := 1, ground := Ground.data }], guard := none }) (v := ?rv3) rfl (by kernel_rfl) (by kernel_rfl) (by kernel_rfl) (fun _ _ _ h => h) (Or.inl ⟨by rfl, ?rhy3⟩) (by assumption) ?rrest3
          case rhy3 => (intro w hSw; (try dsimp only at hSw); first | (go_simp; done) | (go_simp; with_reducible rfl))
          case rrest3 =>
          try simp only [Act.put, List.setIfInBounds_toArray, List.set_cons_zero, List.set_cons_succ]
          refine wpAnyH_take (i := 3) (oi := { dst := some 45, op := Op.move (Operand.tmp 2), type := 25, pos := "ref.go:147", after := #[], guard := none }) (v := ?rv4) rfl (by kernel_rfl) (by kernel_rfl) (by kernel_rfl) (fun _ _ _ h => h) (Or.inl ⟨by rfl, ?rhy4⟩) (by assumption) ?rrest4
          case rhy4 => (intro w hSw; (try dsimp only at hSw); first | (go_simp; done) | (go_simp; with_reducible rfl))
          case rrest4 =>
          try simp only [Act.put, List.setIfInBounds_toArray, List.set_cons_zero, List.set_cons_succ]
          refine wpAnyH_take (i := 4) (oi := { dst := some 46, op := Op.move (Operand.tmp 8), type := 3, pos := "ref.go:147", after := #[], guard := none }) (v := ?rv5) rfl (by kernel_rfl) (by kernel_rfl) (by kernel_rfl) (fun _ _ _ h => h) (Or.inl ⟨by rfl, ?rhy5⟩) (by assumption) ?rrest5
          case rhy5 => (intro w hSw; (try dsimp only at hSw); first | (go_simp; done) | (go_simp; with_reducible rfl))
          case rrest5 =>
          try simp only [Act.put, List.setIfInBounds_toArray, List.set_cons_zero, List.set_cons_succ]
          refine wpAnyH_take (i := 5) (oi := { dst := some 47, op := Op.slice 25 (Operand.tmp 45) none (some (Operand.tmp 46)) none, type := 25, pos := "ref.go:147", after := #[{ on := 3, ground := Ground.data }, { on := 4, ground := Ground.data }], guard := none }) (v := ?rv6) rfl (by kernel_rfl) (by kernel_rfl) (by kernel_rfl) (fun _ _ _ h => h) (Or.inl ⟨by rfl, ?rhy6⟩) (by assumption) ?rrest6
          case rhy6 => (intro w hSw; (try dsimp only at hSw); first | (go_simp; done) | (go_simp; with_reducible rfl))
          case rrest6 =>
          try simp only [Act.put, List.setIfInBounds_toArray, List.set_cons_zero, List.set_cons_succ]
          refine wpAnyH_ready (rs := [6]) (by kernel_rfl) (by simp) ?_
          refine AllReadyH.cons (o := { dst := some 48, op := Op.call { callee := Callee.value (Operand.func 13), args := #[Operand.tmp 42, Operand.tmp 44, Operand.tmp 47], argTypes := #[28, 3, 25] }, type := 4, pos := "ref.go:147", after := #[{ on := 0, ground := Ground.data }, { on := 2, ground := Ground.data }, { on := 5, ground := Ground.data }], guard := none }) rfl (fun K hK => ?_) AllReadyH.nil
          go_simp
          refine (HK1.out _ hHeld.2.2.out).mono ?_; rintro e w6 ⟨rfl, hM5⟩; rw [H9.out]
          go_wp2_with fail
          refine hK.out _ _ ?_ (fun hHeld => ?_)
          · (try dsimp only)
            exact KP.out _ (th hHeld.2.2.out (Nat.le_refl _) hM5)
          clear hK K
          try simp only [Act.put, List.setIfInBounds_toArray, List.set_cons_zero, List.set_cons_succ]
          refine wpAnyH_take (i := 7) (oi := { dst := some 49, op := Op.move (Operand.tmp 48), type := 4, pos := "ref.go:147", after := #[{ on := 6, ground := Ground.data }, { on := 6, ground := Ground.chain }], guard := none }) (v := ?rv7) rfl (by kernel_rfl) (by kernel_rfl) (by kernel_rfl) (fun _ _ _ h => h) (Or.inl ⟨by rfl, ?rhy7⟩) (by assumption) ?rrest7
          case rhy7 => (intro w hSw; (try dsimp only at hSw); first | (go_simp; done) | (go_simp; with_reducible rfl))
          case rrest7 =>
          try simp only [Act.put, List.setIfInBounds_toArray, List.set_cons_zero, List.set_cons_succ]
          refine wpAnyH_take (i := 8) (oi := { dst := some 50, op := Op.move (Operand.tmp 0), type := 28, pos := "ref.go:147", after := #[{ on := 7, ground := Ground.guard }], guard := some (7, true) }) (v := ?rv8) rfl (by kernel_rfl) (by kernel_rfl) (by kernel_rfl) (fun _ _ _ h => h) (Or.inl ⟨by rfl, ?rhy8⟩) (by assumption) ?rrest8
          case rhy8 => (intro w hSw; (try dsimp only at hSw); first | (go_simp; done) | (go_simp; with_reducible rfl))
          case rrest8 =>
          try simp only [Act.put, List.setIfInBounds_toArray, List.set_cons_zero, List.set_cons_succ]
          refine wpAnyH_take (i := 9) (oi := { dst := some 51, op := Op.fieldAddr 46 (Operand.tmp 7) 3, type := 0, pos := "ref.go:147", after := #[{ on := 7, ground := Ground.guard }], guard := some (7, true) }) (v := ?rv9) rfl (by kernel_rfl) (by kernel_rfl) (by kernel_rfl) (fun _ _ _ h => h) (Or.inl ⟨by rfl, ?rhy9⟩) (by assumption) ?rrest9
          case rhy9 => (intro w hSw; (try dsimp only at hSw); first | (go_simp; done) | (go_simp; with_reducible rfl))
          case rrest9 =>
          try simp only [Act.put, List.setIfInBounds_toArray, List.set_cons_zero, List.set_cons_succ]
          refine wpAnyH_take (i := 10) (oi := { dst := some 52, op := Op.load 3 (Operand.tmp 51), type := 3, pos := "ref.go:147", after := #[{ on := 9, ground := Ground.data }, { on := 7, ground := Ground.guard }], guard := some (7, true) }) (v := ?rv10) rfl (by kernel_rfl) (by kernel_rfl) (by kernel_rfl) (fun _ _ _ h => h) (Or.inl ⟨by rfl, ?rhy10⟩) (by assumption) ?rrest10
          case rhy10 => (intro w hSw; (try dsimp only at hSw); first | (go_simp; done) | (go_simp; with_reducible rfl))
          case rrest10 =>
          try simp only [Act.put, List.setIfInBounds_toArray, List.set_cons_zero, List.set_cons_succ]
          refine wpAnyH_take (i := 11) (oi := { dst := some 53, op := Op.move (Operand.tmp 2), type := 25, pos := "ref.go:147", after := #[{ on := 7, ground := Ground.guard }], guard := some (7, true) }) (v := ?rv11) rfl (by kernel_rfl) (by kernel_rfl) (by kernel_rfl) (fun _ _ _ h => h) (Or.inl ⟨by rfl, ?rhy11⟩) (by assumption) ?rrest11
          case rhy11 => (intro w hSw; (try dsimp only at hSw); first | (go_simp; done) | (go_simp; with_reducible rfl))
          case rrest11 =>
          try simp only [Act.put, List.setIfInBounds_toArray, List.set_cons_zero, List.set_cons_succ]
          refine wpAnyH_take (i := 12) (oi := { dst := some 54, op := Op.move (Operand.tmp 8), type := 3, pos := "ref.go:147", after := #[{ on := 7, ground := Ground.guard }], guard := some (7, true) }) (v := ?rv12) rfl (by kernel_rfl) (by kernel_rfl) (by kernel_rfl) (fun _ _ _ h => h) (Or.inl ⟨by rfl, ?rhy12⟩) (by assumption) ?rrest12
          case rhy12 => (intro w hSw; (try dsimp only at hSw); first | (go_simp; done) | (go_simp; with_reducible rfl))
          case rrest12 =>
          try simp only [Act.put, List.setIfInBounds_toArray, List.set_cons_zero, List.set_cons_succ]
          refine wpAnyH_take (i := 13) (oi := { dst := some 55, op := Op.slice 25 (Operand.tmp 53) (some (Operand.tmp 54)) none none, type := 25, pos := "ref.go:147", after := #[{ on := 11, ground := Ground.data }, { on := 12, ground := Ground.data }, { on := 7, ground := Ground.guard }], guard := some (7, true) }) (v := ?rv13) rfl (by kernel_rfl) (by kernel_rfl) (by kernel_rfl) (fun _ _ _ h => h) (Or.inl ⟨by rfl, ?rhy13⟩) (by assumption) ?rrest13
          case rhy13 => (intro w hSw; (try dsimp only at hSw); first | (go_simp; done) | (go_simp; with_reducible rfl))
          case rrest13 =>
          try simp only [Act.put, List.setIfInBounds_toArray, List.set_cons_zero, List.set_cons_succ]
          refine wpAnyH_ready (rs := [14]) (by kernel_rfl) (by simp) ?_
          refine AllReadyH.cons (o := { dst := some 56, op := Op.call { callee := Callee.value (Operand.func 13), args := #[Operand.tmp 50, Operand.tmp 52, Operand.tmp 55], argTypes := #[28, 3, 25] }, type := 4, pos := "ref.go:147", after := #[{ on := 8, ground := Ground.data }, { on := 10, ground := Ground.data }, { on := 13, ground := Ground.data }, { on := 7, ground := Ground.chain }, { on := 7, ground := Ground.guard }], guard := some (7, true) }) rfl (fun K hK => ?_) AllReadyH.nil
          go_simp
          refine (HK2.out _ hHeld.2.2.out).mono ?_; rintro e w6 ⟨rfl, hM5⟩; rw [H10.out]
          go_wp2_with fail
          refine hK.out _ _ ?_ (fun hHeld => ?_)
          · (try dsimp only)
            exact KP.out _ (th hHeld.2.2.out (Nat.le_refl _) hM5)
          clear hK K
          try simp only [Act.put, List.setIfInBounds_toArray, List.set_cons_zero, List.set_cons_succ]
          refine wpAnyH_take (i := 15) (oi := { dst := some 57, op := Op.pick (Operand.tmp 49) (Operand.tmp 56) (Operand.const (Value.bool false)), type := 4, pos := "ref.go:147", after := #[{ on := 7, ground := Ground.data }, { on := 14, ground := Ground.data }], guard := none }) (v := ?rv14) rfl (by kernel_rfl) (by kernel_rfl) (by kernel_rfl) (fun _ _ _ h => h) (Or.inl ⟨by rfl, ?rhy14⟩) (by assumption) ?rrest14
          case rhy14 => (intro w hSw; (try dsimp only at hSw); first | (go_simp; done) | (go_simp; with_reducible rfl))
          case rrest14 =>
          try simp only [Act.put, List.setIfInBounds_toArray, List.set_cons_zero, List.set_cons_succ]
          refine wpAnyH_done (by kernel_rfl) ?_ _
          have HB6 := Lib.hid (th HBr.out (Nat.le_refl _) hHeld.2.2.out)
          clear hHeld
          go_wp2_with fail
          go_ret
          exact ⟨bool_ret (lgB_t (yes_split (lgB_iff.1 H9.out) (lgB_iff.1 H10.out))).symm, HB6.out⟩
        | false =>
          have H10 := Lib.hid h10
          clear h10
          go_wp2_with fail
          refine wp_region_held_drew (S := (fun W => W.cell? ⟨w.heap.size, 2, none⟩ = some (.int .i64 (a : Int)) ∧ W.cell? ⟨w.heap.size, 3, none⟩ = some (.int .i64 ((b : Int))) ∧ Hid (Below wr.heap.size wr W))) (by kernel_rfl) ?_ (fun hHeld => ?_)
          · (try dsimp only)
            exact KP.out _ (below_draw _)
          refine wpAnyH_take (i := 0) (oi := { dst := some 42, op := Op.move (Operand.tmp 0), type := 28, pos := "ref.go:147", after := #[], guard := none }) (v := ?rv15) rfl (by kernel_rfl) (by kernel_rfl) (by kernel_rfl) (fun _ _ _ h => h) (Or.inl ⟨by rfl, ?rhy15⟩) (by assumption) ?rrest15
          case rhy15 => (intro w hSw; (try dsimp only at hSw); first | (go_simp; done) | (go_simp; with_reducible rfl))
          case rrest15 =>
          try simp only [Act.put, List.setIfInBounds_toArray, List.set_cons_zero, List.set_cons_succ]
          refine wpAnyH_take (i := 1) (oi := { dst := some 43, op := Op.fieldAddr 46 (Operand.tmp 7) 2, type := 0, pos := "ref.go:147", after := #[], guard := none }) (v := ?rv16) rfl (by kernel_rfl) (by kernel_rfl) (by kernel_rfl) (fun _ _ _ h => h) (Or.inl ⟨by rfl, ?rhy16⟩) (by assumption) ?rrest16
          case rhy16 => (intro w hSw; (try dsimp only at hSw); first | (go_simp; done) | (go_simp; with_reducible rfl))
          case rrest16 =>
          try simp only [Act.put, List.setIfInBounds_toArray, List.set_cons_zero, List.set_cons_succ]
          refine wpAnyH_take (i := 2) (oi := { dst := some 44, op := Op.load 3 (Operand.tmp 43), type := 3, pos := "ref.go:147", after := #[{ on := 1, ground := Ground.data }], guard := none }) (v := ?rv17) rfl (by kernel_rfl) (by kernel_rfl) (by kernel_rfl) (fun _ _ _ h => h) (Or.inl ⟨by rfl, ?rhy17⟩) (by assumption) ?rrest17
          case rhy17 => (intro w hSw; (try dsimp only at hSw); first | (go_simp; done) | (go_simp; with_reducible rfl))
          case rrest17 =>
          try simp only [Act.put, List.setIfInBounds_toArray, List.set_cons_zero, List.set_cons_succ]
          refine wpAnyH_take (i := 3) (oi := { dst := some 45, op := Op.move (Operand.tmp 2), type := 25, pos := "ref.go:147", after := #[], guard := none }) (v := ?rv18) rfl (by kernel_rfl) (by kernel_rfl) (by kernel_rfl) (fun _ _ _ h => h) (Or.inl ⟨by rfl, ?rhy18⟩) (by assumption) ?rrest18
          case rhy18 => (intro w hSw; (try dsimp only at hSw); first | (go_simp; done) | (go_simp; with_reducible rfl))
          case rrest18 =>
          try simp only [Act.put, List.setIfInBounds_toArray, List.set_cons_zero, List.set_cons_succ]
          refine wpAnyH_take (i := 4) (oi := { dst := some 46, op := Op.move (Operand.tmp 8), type := 3, pos := "ref.go:147", after := #[], guard := none }) (v := ?rv19) rfl (by kernel_rfl) (by kernel_rfl) (by kernel_rfl) (fun _ _ _ h => h) (Or.inl ⟨by rfl, ?rhy19⟩) (by assumption) ?rrest19
          case rhy19 => (intro w hSw; (try dsimp only at hSw); first | (go_simp; done) | (go_simp; with_reducible rfl))
          case rrest19 =>
          try simp only [Act.put, List.setIfInBounds_toArray, List.set_cons_zero, List.set_cons_succ]
          refine wpAnyH_take (i := 5) (oi := { dst := some 47, op := Op.slice 25 (Operand.tmp 45) none (some (Operand.tmp 46)) none, type := 25, pos := "ref.go:147", after := #[{ on := 3, ground := Ground.data }, { on := 4, ground := Ground.data }], guard := none }) (v := ?rv20) rfl (by kernel_rfl) (by kernel_rfl) (by kernel_rfl) (fun _ _ _ h => h) (Or.inl ⟨by rfl, ?rhy20⟩) (by assumption) ?rrest20
          case rhy20 => (intro w hSw; (try dsimp only at hSw); first | (go_simp; done) | (go_simp; with_reducible rfl))
          case rrest20 =>
          try simp only [Act.put, List.setIfInBounds_toArray, List.set_cons_zero, List.set_cons_succ]
          refine wpAnyH_ready (rs := [6]) (by kernel_rfl) (by simp) ?_
          refine AllReadyH.cons (o := { dst := some 48, op := Op.call { callee := Callee.value (Operand.func 13), args := #[Operand.tmp 42, Operand.tmp 44, Operand.tmp 47], argTypes := #[28, 3, 25] }, type := 4, pos := "ref.go:147", after := #[{ on := 0, ground := Ground.data }, { on := 2, ground := Ground.data }, { on := 5, ground := Ground.data }], guard := none }) rfl (fun K hK => ?_) AllReadyH.nil
          go_simp
          refine (HK1.out _ hHeld.2.2.out).mono ?_; rintro e w6 ⟨rfl, hM5⟩; rw [H9.out]
          go_wp2_with fail
          refine hK.out _ _ ?_ (fun hHeld => ?_)
          · (try dsimp only)
            exact KP.out _ (th hHeld.2.2.out (Nat.le_refl _) hM5)
          clear hK K
          try simp only [Act.put, List.setIfInBounds_toArray, List.set_cons_zero, List.set_cons_succ]
          refine wpAnyH_take (i := 7) (oi := { dst := some 49, op := Op.move (Operand.tmp 48), type := 4, pos := "ref.go:147", after := #[{ on := 6, ground := Ground.data }, { on := 6, ground := Ground.chain }], guard := none }) (v := ?rv21) rfl (by kernel_rfl) (by kernel_rfl) (by kernel_rfl) (fun _ _ _ h => h) (Or.inl ⟨by rfl, ?rhy21⟩) (by assumption) ?rrest21
          case rhy21 => (intro w hSw; (try dsimp only at hSw); first | (go_simp; done) | (go_simp; with_reducible rfl))
          case rrest21 =>
          try simp only [Act.put, List.setIfInBounds_toArray, List.set_cons_zero, List.set_cons_succ]
          refine wpAnyH_take (i := 8) (oi := { dst := some 50, op := Op.move (Operand.tmp 0), type := 28, pos := "ref.go:147", after := #[{ on := 7, ground := Ground.guard }], guard := some (7, true) }) (v := ?rv22) rfl (by kernel_rfl) (by kernel_rfl) (by kernel_rfl) (fun _ _ _ h => h) (Or.inl ⟨by rfl, ?rhy22⟩) (by assumption) ?rrest22
          case rhy22 => (intro w hSw; (try dsimp only at hSw); first | (go_simp; done) | (go_simp; with_reducible rfl))
          case rrest22 =>
          try simp only [Act.put, List.setIfInBounds_toArray, List.set_cons_zero, List.set_cons_succ]
          refine wpAnyH_take (i := 9) (oi := { dst := some 51, op := Op.fieldAddr 46 (Operand.tmp 7) 3, type := 0, pos := "ref.go:147", after := #[{ on := 7, ground := Ground.guard }], guard := some (7, true) }) (v := ?rv23) rfl (by kernel_rfl) (by kernel_rfl) (by kernel_rfl) (fun _ _ _ h => h) (Or.inl ⟨by rfl, ?rhy23⟩) (by assumption) ?rrest23
          case rhy23 => (intro w hSw; (try dsimp only at hSw); first | (go_simp; done) | (go_simp; with_reducible rfl))
          case rrest23 =>
          try simp only [Act.put, List.setIfInBounds_toArray, List.set_cons_zero, List.set_cons_succ]
          refine wpAnyH_take (i := 10) (oi := { dst := some 52, op := Op.load 3 (Operand.tmp 51), type := 3, pos := "ref.go:147", after := #[{ on := 9, ground := Ground.data }, { on := 7, ground := Ground.guard }], guard := some (7, true) }) (v := ?rv24) rfl (by kernel_rfl) (by kernel_rfl) (by kernel_rfl) (fun _ _ _ h => h) (Or.inl ⟨by rfl, ?rhy24⟩) (by assumption) ?rrest24
          case rhy24 => (intro w hSw; (try dsimp only at hSw); first | (go_simp; done) | (go_simp; with_reducible rfl))
          case rrest24 =>
          try simp only [Act.put, List.setIfInBounds_toArray, List.set_cons_zero, List.set_cons_succ]
          refine wpAnyH_take (i := 11) (oi := { dst := some 53, op := Op.move (Operand.tmp 2), type := 25, pos := "ref.go:147", after := #[{ on := 7, ground := Ground.guard }], guard := some (7, true) }) (v := ?rv25) rfl (by kernel_rfl) (by kernel_rfl) (by kernel_rfl) (fun _ _ _ h => h) (Or.inl ⟨by rfl, ?rhy25⟩) (by assumption) ?rrest25
          case rhy25 => (intro w hSw; (try dsimp only at hSw); first | (go_simp; done) | (go_simp; with_reducible rfl))
          case rrest25 =>
          try simp only [Act.put, List.setIfInBounds_toArray, List.set_cons_zero, List.set_cons_succ]
          refine wpAnyH_take (i := 12) (oi := { dst := some 54, op := Op.move (Operand.tmp 8), type := 3, pos := "ref.go:147", after := #[{ on := 7, ground := Ground.guard }], guard := some (7, true) }) (v := ?rv26) rfl (by kernel_rfl) (by kernel_rfl) (by kernel_rfl) (fun _ _ _ h => h) (Or.inl ⟨by rfl, ?rhy26⟩) (by assumption) ?rrest26
          case rhy26 => (intro w hSw; (try dsimp only at hSw); first | (go_simp; done) | (go_simp; with_reducible rfl))
          case rrest26 =>
          try simp only [Act.put, List.setIfInBounds_toArray, List.set_cons_zero, List.set_cons_succ]
          refine wpAnyH_take (i := 13) (oi := { dst := some 55, op := Op.slice 25 (Operand.tmp 53) (some (Operand.tmp 54)) none none, type := 25, pos := "ref.go:147", after := #[{ on := 11, ground := Ground.data }, { on := 12, ground := Ground.data }, { on := 7, ground := Ground.guard }], guard := some (7, true) }) (v := ?rv27) rfl (by kernel_rfl) (by kernel_rfl) (by kernel_rfl) (fun _ _ _ h => h) (Or.inl ⟨by rfl, ?rhy27⟩) (by assumption) ?rrest27
          case rhy27 => (intro w hSw; (try dsimp only at hSw); first | (go_simp; done) | (go_simp; with_reducible rfl))
          case rrest27 =>
          try simp only [Act.put, List.setIfInBounds_toArray, List.set_cons_zero, List.set_cons_succ]
          refine wpAnyH_ready (rs := [14]) (by kernel_rfl) (by simp) ?_
          refine AllReadyH.cons (o := { dst := some 56, op := Op.call { callee := Callee.value (Operand.func 13), args := #[Operand.tmp 50, Operand.tmp 52, Operand.tmp 55], argTypes := #[28, 3, 25] }, type := 4, pos := "ref.go:147", after := #[{ on := 8, ground := Ground.data }, { on := 10, ground := Ground.data }, { on := 13, ground := Ground.data }, { on := 7, ground := Ground.chain }, { on := 7, ground := Ground.guard }], guard := some (7, true) }) rfl (fun K hK => ?_) AllReadyH.nil
          go_simp
          refine (HK2.out _ hHeld.2.2.out).mono ?_; rintro e w6 ⟨rfl, hM5⟩; rw [H10.out]
          go_wp2_with fail
          refine hK.out _ _ ?_ (fun hHeld => ?_)
          · (try dsimp only)
            exact KP.out _ (th hHeld.2.2.out (Nat.le_refl _) hM5)
          clear hK K
          try simp only [Act.put, List.setIfInBounds_toArray, List.set_cons_zero, List.set_cons_succ]
          refine wpAnyH_take (i := 15) (oi := { dst := some 57, op := Op.pick (Operand.tmp 49) (Operand.tmp 56) (Operand.const (Value.bool false)), type := 4, pos := "ref.go:147", after := #[{ on := 7, ground := Ground.data }, { on := 14, ground := Ground.data }], guard := none }) (v := ?rv28) rfl (by kernel_rfl) (by kernel_rfl) (by kernel_rfl) (fun _ _ _ h => h) (Or.inl ⟨by rfl, ?rhy28⟩) (by assumption) ?rrest28
          case rhy28 => (intro w hSw; (try dsimp only at hSw); first | (go_simp; done) | (go_simp; with_reducible rfl))
          case rrest28 =>
          try simp only [Act.put, List.setIfInBounds_toArray, List.set_cons_zero, List.set_cons_succ]
          refine wpAnyH_done (by kernel_rfl) ?_ _
          have HB6 := Lib.hid (th HBr.out (Nat.le_refl _) hHeld.2.2.out)
          have c2 := hHeld.1
          have c3 := hHeld.2.1
          clear hHeld
          go_wp2_with fail
          go_roundw
          case rel =>
            have h1 := HLT.out
            exact ⟨k + 1, by rw [hw1]; go_num, by omega, Lib.hid (fun j hj => by
              by_cases e : j = k
              · subst e; exact fun q => lgB_no H10.out q.2
              · exact HA.out j (by omega)), c2, c3, HB6⟩
          case measure => have h1 := HLT.out; rw [hw1]; simp only [intOf]; omega
      | false =>
        have H9 := Lib.hid h9
        clear h9
        go_wp2_with fail
        refine wp_region_held_drew (S := (fun W => W.cell? ⟨w.heap.size, 2, none⟩ = some (.int .i64 (a : Int)) ∧ W.cell? ⟨w.heap.size, 3, none⟩ = some (.int .i64 ((b : Int))) ∧ Hid (Below wr.heap.size wr W))) (by kernel_rfl) ?_ (fun hHeld => ?_)
        · (try dsimp only)
          exact KP.out _ (below_draw _)
        refine wpAnyH_take (i := 0) (oi := { dst := some 42, op := Op.move (Operand.tmp 0), type := 28, pos := "ref.go:147", after := #[], guard := none }) (v := ?rv29) rfl (by kernel_rfl) (by kernel_rfl) (by kernel_rfl) (fun _ _ _ h => h) (Or.inl ⟨by rfl, ?rhy29⟩) (by assumption) ?rrest29
        case rhy29 => (intro w hSw; (try dsimp only at hSw); first | (go_simp; done) | (go_simp; with_reducible rfl))
        case rrest29 =>
        try simp only [Act.put, List.setIfInBounds_toArray, List.set_cons_zero, List.set_cons_succ]
        refine wpAnyH_take (i := 1) (oi := { dst := some 43, op := Op.fieldAddr 46 (Operand.tmp 7) 2, type := 0, pos := "ref.go:147", after := #[], guard := none }) (v := ?rv30) rfl (by kernel_rfl) (by kernel_rfl) (by kernel_rfl) (fun _ _ _ h => h) (Or.inl ⟨by rfl, ?rhy30⟩) (by assumption) ?rrest30
        case rhy30 => (intro w hSw; (try dsimp only at hSw); first | (go_simp; done) | (go_simp; with_reducible rfl))
        case rrest30 =>
        try simp only [Act.put, List.setIfInBounds_toArray, List.set_cons_zero, List.set_cons_succ]
        refine wpAnyH_take (i := 2) (oi := { dst := some 44, op := Op.load 3 (Operand.tmp 43), type := 3, pos := "ref.go:147", after := #[{ on := 1, ground := Ground.data }], guard := none }) (v := ?rv31) rfl (by kernel_rfl) (by kernel_rfl) (by kernel_rfl) (fun _ _ _ h => h) (Or.inl ⟨by rfl, ?rhy31⟩) (by assumption) ?rrest31
        case rhy31 => (intro w hSw; (try dsimp only at hSw); first | (go_simp; done) | (go_simp; with_reducible rfl))
        case rrest31 =>
        try simp only [Act.put, List.setIfInBounds_toArray, List.set_cons_zero, List.set_cons_succ]
        refine wpAnyH_take (i := 3) (oi := { dst := some 45, op := Op.move (Operand.tmp 2), type := 25, pos := "ref.go:147", after := #[], guard := none }) (v := ?rv32) rfl (by kernel_rfl) (by kernel_rfl) (by kernel_rfl) (fun _ _ _ h => h) (Or.inl ⟨by rfl, ?rhy32⟩) (by assumption) ?rrest32
        case rhy32 => (intro w hSw; (try dsimp only at hSw); first | (go_simp; done) | (go_simp; with_reducible rfl))
        case rrest32 =>
        try simp only [Act.put, List.setIfInBounds_toArray, List.set_cons_zero, List.set_cons_succ]
        refine wpAnyH_take (i := 4) (oi := { dst := some 46, op := Op.move (Operand.tmp 8), type := 3, pos := "ref.go:147", after := #[], guard := none }) (v := ?rv33) rfl (by kernel_rfl) (by kernel_rfl) (by kernel_rfl) (fun _ _ _ h => h) (Or.inl ⟨by rfl, ?rhy33⟩) (by assumption) ?rrest33
        case rhy33 => (intro w hSw; (try dsimp only at hSw); first | (go_simp; done) | (go_simp; with_reducible rfl))
        case rrest33 =>
        try simp only [Act.put, List.setIfInBounds_toArray, List.set_cons_zero, List.set_cons_succ]
        refine wpAnyH_take (i := 5) (oi := { dst := some 47, op := Op.slice 25 (Operand.tmp 45) none (some (Operand.tmp 46)) none, type := 25, pos := "ref.go:147", after := #[{ on := 3, ground := Ground.data }, { on := 4, ground := Ground.data }], guard := none }) (v := ?rv34) rfl (by kernel_rfl) (by kernel_rfl) (by kernel_rfl) (fun _ _ _ h => h) (Or.inl ⟨by rfl, ?rhy34⟩) (by assumption) ?rrest34
        case rhy34 => (intro w hSw; (try dsimp only at hSw); first | (go_simp; done) | (go_simp; with_reducible rfl))
        case rrest34 =>
        try simp only [Act.put, List.setIfInBounds_toArray, List.set_cons_zero, List.set_cons_succ]
        refine wpAnyH_ready (rs := [6]) (by kernel_rfl) (by simp) ?_
        refine AllReadyH.cons (o := { dst := some 48, op := Op.call { callee := Callee.value (Operand.func 13), args := #[Operand.tmp 42, Operand.tmp 44, Operand.tmp 47], argTypes := #[28, 3, 25] }, type := 4, pos := "ref.go:147", after := #[{ on := 0, ground := Ground.data }, { on := 2, ground := Ground.data }, { on := 5, ground := Ground.data }], guard := none }) rfl (fun K hK => ?_) AllReadyH.nil
        go_simp
        refine (HK1.out _ hHeld.2.2.out).mono ?_; rintro e w6 ⟨rfl, hM5⟩; rw [H9.out]
        go_wp2_with fail
        refine hK.out _ _ ?_ (fun hHeld => ?_)
        · (try dsimp only)
          exact KP.out _ (th hHeld.2.2.out (Nat.le_refl _) hM5)
        clear hK K
        try simp only [Act.put, List.setIfInBounds_toArray, List.set_cons_zero, List.set_cons_succ]
        refine wpAnyH_take (i := 7) (oi := { dst := some 49, op := Op.move (Operand.tmp 48), type := 4, pos := "ref.go:147", after := #[{ on := 6, ground := Ground.data }, { on := 6, ground := Ground.chain }], guard := none }) (v := ?rv35) rfl (by kernel_rfl) (by kernel_rfl) (by kernel_rfl) (fun _ _ _ h => h) (Or.inl ⟨by rfl, ?rhy35⟩) (by assumption) ?rrest35
        case rhy35 => (intro w hSw; (try dsimp only at hSw); first | (go_simp; done) | (go_simp; with_reducible rfl))
        case rrest35 =>
        try simp only [Act.put, List.setIfInBounds_toArray, List.set_cons_zero, List.set_cons_succ]
        refine wpAnyH_take (i := 8) (oi := { dst := some 50, op := Op.move (Operand.tmp 0), type := 28, pos := "ref.go:147", after := #[{ on := 7, ground := Ground.guard }], guard := some (7, true) }) (v := undef) rfl (by kernel_rfl) (by kernel_rfl) (by kernel_rfl) (fun _ _ _ h => h) (Or.inr ⟨by rfl, rfl⟩) (by assumption) ?_
        try simp only [Act.put, List.setIfInBounds_toArray, List.set_cons_zero, List.set_cons_succ]
        refine wpAnyH_take (i := 9) (oi := { dst := some 51, op := Op.fieldAddr 46 (Operand.tmp 7) 3, type := 0, pos := "ref.go:147", after := #[{ on := 7, ground := Ground.guard }], guard := some (7, true) }) (v := undef) rfl (by kernel_rfl) (by kernel_rfl) (by kernel_rfl) (fun _ _ _ h => h) (Or.inr ⟨by rfl, rfl⟩) (by assumption) ?_
        try simp only [Act.put, List.setIfInBounds_toArray, List.set_cons_zero, List.set_cons_succ]
        refine wpAnyH_take (i := 10) (oi := { dst := some 52, op := Op.load 3 (Operand.tmp 51), type := 3, pos := "ref.go:147", after := #[{ on := 9, ground := Ground.data }, { on := 7, ground := Ground.guard }], guard := some (7, true) }) (v := undef) rfl (by kernel_rfl) (by kernel_rfl) (by kernel_rfl) (fun _ _ _ h => h) (Or.inr ⟨by rfl, rfl⟩) (by assumption) ?_
        try simp only [Act.put, List.setIfInBounds_toArray, List.set_cons_zero, List.set_cons_succ]
        refine wpAnyH_take (i := 11) (oi := { dst := some 53, op := Op.move (Operand.tmp 2), type := 25, pos := "ref.go:147", after := #[{ on := 7, ground := Ground.guard }], guard := some (7, true) }) (v := undef) rfl (by kernel_rfl) (by kernel_rfl) (by kernel_rfl) (fun _ _ _ h => h) (Or.inr ⟨by rfl, rfl⟩) (by assumption) ?_
        try simp only [Act.put, List.setIfInBounds_toArray, List.set_cons_zero, List.set_cons_succ]
        refine wpAnyH_take (i := 12) (oi := { dst := some 54, op := Op.move (Operand.tmp 8), type := 3, pos := "ref.go:147", after := #[{ on := 7, ground := Ground.guard }], guard := some (7, true) }) (v := undef) rfl (by kernel_rfl) (by kernel_rfl) (by kernel_rfl) (fun _ _ _ h => h) (Or.inr ⟨by rfl, rfl⟩) (by assumption) ?_
        try simp only [Act.put, List.setIfInBounds_toArray, List.set_cons_zero, List.set_cons_succ]
        refine wpAnyH_take (i := 13) (oi := { dst := some 55, op := Op.slice 25 (Operand.tmp 53) (some (Operand.tmp 54)) none none, type := 25, pos := "ref.go:147", after := #[{ on := 11, ground := Ground.data }, { on := 12, ground := Ground.data }, { on := 7, ground := Ground.guard }], guard := some (7, true) }) (v := undef) rfl (by kernel_rfl) (by kernel_rfl) (by kernel_rfl) (fun _ _ _ h => h) (Or.inr ⟨by rfl, rfl⟩) (by assumption) ?_
        try simp only [Act.put, List.setIfInBounds_toArray, List.set_cons_zero, List.set_cons_succ]
        refine wpAnyH_take (i := 14) (oi := { dst := some 56, op := Op.call { callee := Callee.value (Operand.func 13), args := #[Operand.tmp 50, Operand.tmp 52, Operand.tmp 55], argTypes := #[28, 3, 25] }, type := 4, pos := "ref.go:147", after := #[{ on := 8, ground := Ground.data }, { on := 10, ground := Ground.data }, { on := 13, ground := Ground.data }, { on := 7, ground := Ground.chain }, { on := 7, ground := Ground.guard }], guard := some (7, true) }) (v := undef) rfl (by kernel_rfl) (by kernel_rfl) (by kernel_rfl) (fun _ _ _ h => h) (Or.inr ⟨by rfl, rfl⟩) (by assumption) ?_
        try simp only [Act.put, List.setIfInBounds_toArray, List.set_cons_zero, List.set_cons_succ]
        refine wpAnyH_take (i := 15) (oi := { dst := some 57, op := Op.pick (Operand.tmp 49) (Operand.tmp 56) (Operand.const (Value.bool false)), type := 4, pos := "ref.go:147", after := #[{ on := 7, ground := Ground.data }, { on := 14, ground := Ground.data }], guard := none }) (v := ?rv36) rfl (by kernel_rfl) (by kernel_rfl) (by kernel_rfl) (fun _ _ _ h => h) (Or.inl ⟨by rfl, ?rhy36⟩) (by assumption) ?rrest36
        case rhy36 => (intro w hSw; (try dsimp only at hSw); first | (go_simp; done) | (go_simp; with_reducible rfl))
        case rrest36 =>
        try simp only [Act.put, List.setIfInBounds_toArray, List.set_cons_zero, List.set_cons_succ]
        refine wpAnyH_done (by kernel_rfl) ?_ _
        have HB6 := Lib.hid (th HBr.out (Nat.le_refl _) hHeld.2.2.out)
        have c2 := hHeld.1
        have c3 := hHeld.2.1
        clear hHeld
        go_wp2_with fail
        go_roundw
        case rel =>
          have h1 := HLT.out
          exact ⟨k + 1, by rw [hw1]; go_num, by omega, Lib.hid (fun j hj => by
            by_cases e : j = k
            · subst e; exact fun q => lgB_no H9.out q.1
            · exact HA.out j (by omega)), c2, c3, HB6⟩
        case measure => have h1 := HLT.out; rw [hw1]; simp only [intOf]; omega
    · have hd1 : decide ((k : Int) ≤ m) = false := by simp; omega
      have hd2 : decide (k ≤ m) = false := by simp; omega
      have hkm : k = m + 1 := by omega
      have HKM := Lib.hid hkm
      clear hlt hk hkm c2 c3
      go_wp2_with fail
      go_ret
      refine ⟨bool_ret (lgB_f ?_).symm, HBr.out⟩
      exact no_split fun j hj => HA.out j (by have := HKM.out; have := HM.out; omega)
set_option maxHeartbeats 4000000 in
set_option maxRecDepth 20000 in
theorem match_star {l : List Nd} {i : Nat} {a : Nat} {s : RE} (ws : List Wd) (v u : Value) (w : World) (hv : NR w v l) (hu : VR eS w u ws) (hl : ws.length ≤ 1000) (h : l[i]? = some ⟨5, [], (a : Int), 0⟩) (i1 : MatC v a s w) (i2 : ∀ (ws1 : List Wd) (u1 : Value) (W : World), Below w.heap.size w W → VR eS W u1 ws1 → ws1.length < ws.length → Calls Try.prog 13 #[v, .int .i64 (i : Int), u1] W fun e w' => MatP (lgB (.star s) ws1) W e w') (hne : ws ≠ []) : Calls Try.prog 13 #[v, .int .i64 (i : Int), u] w fun e w' => MatP (lgB (.star s) ws) w e w' := by
  obtain ⟨g, o, c, rfl, hi1, hn63, s1, s2, s3, s4⟩ := hv.node h
  have hi0 : (0 : Int) ≤ i := by omega
  have HB := Lib.hid ((Below.refl w.heap.size w).alloc (Nat.le_refl _) (.cells (ndC ⟨5, [], (a : Int), 0⟩).toArray 46))
  have C2 := Lib.hid (show (w.alloc (.cells (ndC ⟨5, [], (a : Int), 0⟩).toArray 46)).cell? ⟨w.heap.size, 2, none⟩ = some (.int .i64 (a : Int)) by simp [ndC])
  have C3 := Lib.hid (show (w.alloc (.cells (ndC ⟨5, [], (a : Int), 0⟩).toArray 46)).cell? ⟨w.heap.size, 3, none⟩ = some (.int .i64 (0)) by simp [ndC])
  have HU := Lib.hid (fun (W : World) (hb : Below w.heap.size w W) => hu.below hb)
  have HC1 := Lib.hid i1
  have HC2 := Lib.hid i2
  have HL := Lib.hid hl
  clear hv h i1 i2
  obtain ⟨n, hn⟩ : ∃ n, n = l.length := ⟨_, rfl⟩
  rw [← hn] at hi1 hn63 HC1 HC2 ⊢
  clear hn
  obtain ⟨ua, uc, rfl, u2, u3, u4⟩ := hu.at
  obtain ⟨m, hm⟩ : ∃ m, m = ws.length := ⟨_, rfl⟩
  have hm63 : m ≤ 1000 := by omega
  have HM := Lib.hid hm
  have hm0 : 0 < m := by rw [hm]; exact List.length_pos_iff.2 hne
  have HM0 := Lib.hid hm0
  have em1 : ((m : Int) == 0) = false := by simp; omega
  have em2 : (m == 0) = false := by simp; omega
  have HNE := Lib.hid hne
  clear hne hm0
  rw [← hm] at HU ⊢
  have HUC := Lib.hid u2
  clear hu u2 u3 u4 hm hl
  go_enter Try.func13, Try.ntmps13
  go_wp2_with fail
  go_loopw [9] (fun i wr => ∃ k : Nat, i = .int .i64 k ∧ 1 ≤ k ∧ k ≤ m + 1 ∧ Hid (∀ j, 1 ≤ j → j < k → ¬ (Lg s (ws.take j) ∧ Lg (.star s) (ws.drop j))) ∧ wr.cell? ⟨w.heap.size, 2, none⟩ = some (.int .i64 (a : Int)) ∧ wr.cell? ⟨w.heap.size, 3, none⟩ = some (.int .i64 (0)) ∧ Hid (Below w.heap.size w wr)) (fun i _ => m + 1 - (intOf i).toNat)
  case atStart => exact ⟨1, rfl, by omega, by omega, Lib.hid (fun j hj hk => by omega), C2.out, C3.out, HB⟩
  case round =>
    obtain ⟨k, rfl, hk1, hk, HA, c2, c3, HBr⟩ := hrel
    by_cases hlt : k ≤ m
    · obtain ⟨vt, vd, hrt, hrd, hcut⟩ := cut_words (a := ua) (n := m) (c := uc) (k := k) hlt (by have := HUC.out; have := HM.out; omega)
      have hd1 : decide ((k : Int) ≤ m) = true := by simp; omega
      have hd2 : decide (k ≤ m) = true := by simp; omega
      have HLT := Lib.hid hlt
      have HK9 := Lib.hid hk1
      have HT := Lib.hid (fun (W : World) (hb : Below w.heap.size w W) => hcut W ws (HU.out W hb))
      have HK1 := Lib.hid (fun (W : World) (hb : Below wr.heap.size wr W) => HC1.out (ws.take k) vt W (th HBr.out (Nat.le_refl _) hb) (HT.out W (th HBr.out (Nat.le_refl _) hb)).1 (by have := HL.out; rw [List.length_take]; omega))
      have HK2 := Lib.hid (fun (W : World) (hb : Below wr.heap.size wr W) => HC2.out (ws.drop k) vd W (th HBr.out (Nat.le_refl _) hb) (HT.out W (th HBr.out (Nat.le_refl _) hb)).2 (by have := HM0.out; have := HM.out; rw [List.length_drop]; omega))
      have KP : Hid (∀ W, Below wr.heap.size wr W → W.cell? ⟨w.heap.size, 2, none⟩ = some (.int .i64 (a : Int)) ∧ W.cell? ⟨w.heap.size, 3, none⟩ = some (.int .i64 (0)) ∧ Hid (Below wr.heap.size wr W)) := Lib.hid (fun W hb => ⟨up_cell hb (Nat.le_refl _) c2, up_cell hb (Nat.le_refl _) c3, Lib.hid hb⟩)
      have hk0 : (0 : Int) ≤ k := by omega
      have hw1 : wrap64 ((k : Int) + 1) = (k : Int) + 1 := by unfold wrap64; omega
      have HHK := Lib.hid hk
      clear hlt hcut c2 c3 hk hk1
      cases h9 : lgB s (ws.take k) with
      | true =>
        have H9 := Lib.hid h9
        clear h9
        cases h10 : lgB (.star s) (ws.drop k) with
        | true =>
          have H10 := Lib.hid h10
          clear h10
          go_wp2_with fail
          refine wp_region_held_drew (S := (fun W => W.cell? ⟨w.heap.size, 2, none⟩ = some (.int .i64 (a : Int)) ∧ W.cell? ⟨w.heap.size, 3, none⟩ = some (.int .i64 (0)) ∧ Hid (Below wr.heap.size wr W))) (by kernel_rfl) ?_ (fun hHeld => ?_)
          · (try dsimp only)
            exact KP.out _ (below_draw _)
          refine wpAnyH_take (i := 0) (oi := { dst := some 83, op := Op.move (Operand.tmp 0), type := 28, pos := "ref.go:158", after := #[], guard := none }) (v := ?rv37) rfl (by kernel_rfl) (by kernel_rfl) (by kernel_rfl) (fun _ _ _ h => h) (Or.inl ⟨by rfl, ?rhy37⟩) (by assumption) ?rrest37
          case rhy37 => (intro w hSw; (try dsimp only at hSw); first | (go_simp; done) | (go_simp; with_reducible rfl))
          case rrest37 =>
          try simp only [Act.put, List.setIfInBounds_toArray, List.set_cons_zero, List.set_cons_succ]
          refine wpAnyH_take (i := 1) (oi := { dst := some 84, op := Op.fieldAddr 46 (Operand.tmp 7) 2, type := 0, pos := "ref.go:158", after := #[], guard := none }) (v := ?rv38) rfl (by kernel_rfl) (by kernel_rfl) (by kernel_rfl) (fun _ _ _ h => h) (Or.inl ⟨by rfl, ?rhy38⟩) (by assumption) ?rrest38
          case rhy38 => (intro w hSw; (try dsimp only at hSw); first | (go_simp; done) | (go_simp; with_reducible rfl))
          case rrest38 =>
          try simp only [Act.put, List.setIfInBounds_toArray, List.set_cons_zero, List.set_cons_succ]
          refine wpAnyH_take (i := 2) (oi := { dst := some 85, op := Op.load 3 (Operand.tmp 84), type := 3, pos := "ref.go:158", after := #[{ on := 1, ground := Ground.data }], guard := none }) (v := ?rv39) rfl (by kernel_rfl) (by kernel_rfl) (by kernel_rfl) (fun _ _ _ h => h) (Or.inl ⟨by rfl, ?rhy39⟩) (by assumption) ?rrest39
          case rhy39 => (intro w hSw; (try dsimp only at hSw); first | (go_simp; done) | (go_simp; with_reducible rfl))
          case rrest39 =>
          try simp only [Act.put, List.setIfInBounds_toArray, List.set_cons_zero, List.set_cons_succ]
          refine wpAnyH_take (i := 3) (oi := { dst := some 86, op := Op.move (Operand.tmp 2), type := 25, pos := "ref.go:158", after := #[], guard := none }) (v := ?rv40) rfl (by kernel_rfl) (by kernel_rfl) (by kernel_rfl) (fun _ _ _ h => h) (Or.inl ⟨by rfl, ?rhy40⟩) (by assumption) ?rrest40
          case rhy40 => (intro w hSw; (try dsimp only at hSw); first | (go_simp; done) | (go_simp; with_reducible rfl))
          case rrest40 =>
          try simp only [Act.put, List.setIfInBounds_toArray, List.set_cons_zero, List.set_cons_succ]
          refine wpAnyH_take (i := 4) (oi := { dst := some 87, op := Op.move (Operand.tmp 9), type := 3, pos := "ref.go:158", after := #[], guard := none }) (v := ?rv41) rfl (by kernel_rfl) (by kernel_rfl) (by kernel_rfl) (fun _ _ _ h => h) (Or.inl ⟨by rfl, ?rhy41⟩) (by assumption) ?rrest41
          case rhy41 => (intro w hSw; (try dsimp only at hSw); first | (go_simp; done) | (go_simp; with_reducible rfl))
          case rrest41 =>
          try simp only [Act.put, List.setIfInBounds_toArray, List.set_cons_zero, List.set_cons_succ]
          refine wpAnyH_take (i := 5) (oi := { dst := some 88, op := Op.slice 25 (Operand.tmp 86) none (some (Operand.tmp 87)) none, type := 25, pos := "ref.go:158", after := #[{ on := 3, ground := Ground.data }, { on := 4, ground := Ground.data }], guard := none }) (v := ?rv42) rfl (by kernel_rfl) (by kernel_rfl) (by kernel_rfl) (fun _ _ _ h => h) (Or.inl ⟨by rfl, ?rhy42⟩) (by assumption) ?rrest42
          case rhy42 => (intro w hSw; (try dsimp only at hSw); first | (go_simp; done) | (go_simp; with_reducible rfl))
          case rrest42 =>
          try simp only [Act.put, List.setIfInBounds_toArray, List.set_cons_zero, List.set_cons_succ]
          refine wpAnyH_ready (rs := [6]) (by kernel_rfl) (by simp) ?_
          refine AllReadyH.cons (o := { dst := some 89, op := Op.call { callee := Callee.value (Operand.func 13), args := #[Operand.tmp 83, Operand.tmp 85, Operand.tmp 88], argTypes := #[28, 3, 25] }, type := 4, pos := "ref.go:158", after := #[{ on := 0, ground := Ground.data }, { on := 2, ground := Ground.data }, { on := 5, ground := Ground.data }], guard := none }) rfl (fun K hK => ?_) AllReadyH.nil
          go_simp
          refine (HK1.out _ hHeld.2.2.out).mono ?_; rintro e w6 ⟨rfl, hM5⟩; rw [H9.out]
          go_wp2_with fail
          refine hK.out _ _ ?_ (fun hHeld => ?_)
          · (try dsimp only)
            exact KP.out _ (th hHeld.2.2.out (Nat.le_refl _) hM5)
          clear hK K
          try simp only [Act.put, List.setIfInBounds_toArray, List.set_cons_zero, List.set_cons_succ]
          refine wpAnyH_take (i := 7) (oi := { dst := some 90, op := Op.move (Operand.tmp 89), type := 4, pos := "ref.go:158", after := #[{ on := 6, ground := Ground.data }, { on := 6, ground := Ground.chain }], guard := none }) (v := ?rv43) rfl (by kernel_rfl) (by kernel_rfl) (by kernel_rfl) (fun _ _ _ h => h) (Or.inl ⟨by rfl, ?rhy43⟩) (by assumption) ?rrest43
          case rhy43 => (intro w hSw; (try dsimp only at hSw); first | (go_simp; done) | (go_simp; with_reducible rfl))
          case rrest43 =>
          try simp only [Act.put, List.setIfInBounds_toArray, List.set_cons_zero, List.set_cons_succ]
          refine wpAnyH_take (i := 8) (oi := { dst := some 91, op := Op.move (Operand.tmp 0), type := 28, pos := "ref.go:158", after := #[{ on := 7, ground := Ground.guard }], guard := some (7, true) }) (v := ?rv44) rfl (by kernel_rfl) (by kernel_rfl) (by kernel_rfl) (fun _ _ _ h => h) (Or.inl ⟨by rfl, ?rhy44⟩) (by assumption) ?rrest44
          case rhy44 => (intro w hSw; (try dsimp only at hSw); first | (go_simp; done) | (go_simp; with_reducible rfl))
          case rrest44 =>
          try simp only [Act.put, List.setIfInBounds_toArray, List.set_cons_zero, List.set_cons_succ]
          refine wpAnyH_take (i := 9) (oi := { dst := some 92, op := Op.move (Operand.tmp 1), type := 3, pos := "ref.go:158", after := #[{ on := 7, ground := Ground.guard }], guard := some (7, true) }) (v := ?rv45) rfl (by kernel_rfl) (by kernel_rfl) (by kernel_rfl) (fun _ _ _ h => h) (Or.inl ⟨by rfl, ?rhy45⟩) (by assumption) ?rrest45
          case rhy45 => (intro w hSw; (try dsimp only at hSw); first | (go_simp; done) | (go_simp; with_reducible rfl))
          case rrest45 =>
          try simp only [Act.put, List.setIfInBounds_toArray, List.set_cons_zero, List.set_cons_succ]
          refine wpAnyH_take (i := 10) (oi := { dst := some 93, op := Op.move (Operand.tmp 2), type := 25, pos := "ref.go:158", after := #[{ on := 7, ground := Ground.guard }], guard := some (7, true) }) (v := ?rv46) rfl (by kernel_rfl) (by kernel_rfl) (by kernel_rfl) (fun _ _ _ h => h) (Or.inl ⟨by rfl, ?rhy46⟩) (by assumption) ?rrest46
          case rhy46 => (intro w hSw; (try dsimp only at hSw); first | (go_simp; done) | (go_simp; with_reducible rfl))
          case rrest46 =>
          try simp only [Act.put, List.setIfInBounds_toArray, List.set_cons_zero, List.set_cons_succ]
          refine wpAnyH_take (i := 11) (oi := { dst := some 94, op := Op.move (Operand.tmp 9), type := 3, pos := "ref.go:158", after := #[{ on := 7, ground := Ground.guard }], guard := some (7, true) }) (v := ?rv47) rfl (by kernel_rfl) (by kernel_rfl) (by kernel_rfl) (fun _ _ _ h => h) (Or.inl ⟨by rfl, ?rhy47⟩) (by assumption) ?rrest47
          case rhy47 => (intro w hSw; (try dsimp only at hSw); first | (go_simp; done) | (go_simp; with_reducible rfl))
          case rrest47 =>
          try simp only [Act.put, List.setIfInBounds_toArray, List.set_cons_zero, List.set_cons_succ]
          refine wpAnyH_take (i := 12) (oi := { dst := some 95, op := Op.slice 25 (Operand.tmp 93) (some (Operand.tmp 94)) none none, type := 25, pos := "ref.go:158", after := #[{ on := 10, ground := Ground.data }, { on := 11, ground := Ground.data }, { on := 7, ground := Ground.guard }], guard := some (7, true) }) (v := ?rv48) rfl (by kernel_rfl) (by kernel_rfl) (by kernel_rfl) (fun _ _ _ h => h) (Or.inl ⟨by rfl, ?rhy48⟩) (by assumption) ?rrest48
          case rhy48 => (intro w hSw; (try dsimp only at hSw); first | (go_simp; done) | (go_simp; with_reducible rfl))
          case rrest48 =>
          try simp only [Act.put, List.setIfInBounds_toArray, List.set_cons_zero, List.set_cons_succ]
          refine wpAnyH_ready (rs := [13]) (by kernel_rfl) (by simp) ?_
          refine AllReadyH.cons (o := { dst := some 96, op := Op.call { callee := Callee.value (Operand.func 13), args := #[Operand.tmp 91, Operand.tmp 92, Operand.tmp 95], argTypes := #[28, 3, 25] }, type := 4, pos := "ref.go:158", after := #[{ on := 8, ground := Ground.data }, { on := 9, ground := Ground.data }, { on := 12, ground := Ground.data }, { on := 7, ground := Ground.chain }, { on := 7, ground := Ground.guard }], guard := some (7, true) }) rfl (fun K hK => ?_) AllReadyH.nil
          go_simp
          refine (HK2.out _ hHeld.2.2.out).mono ?_; rintro e w6 ⟨rfl, hM5⟩; rw [H10.out]
          go_wp2_with fail
          refine hK.out _ _ ?_ (fun hHeld => ?_)
          · (try dsimp only)
            exact KP.out _ (th hHeld.2.2.out (Nat.le_refl _) hM5)
          clear hK K
          try simp only [Act.put, List.setIfInBounds_toArray, List.set_cons_zero, List.set_cons_succ]
          refine wpAnyH_take (i := 14) (oi := { dst := some 97, op := Op.pick (Operand.tmp 90) (Operand.tmp 96) (Operand.const (Value.bool false)), type := 4, pos := "ref.go:158", after := #[{ on := 7, ground := Ground.data }, { on := 13, ground := Ground.data }], guard := none }) (v := ?rv49) rfl (by kernel_rfl) (by kernel_rfl) (by kernel_rfl) (fun _ _ _ h => h) (Or.inl ⟨by rfl, ?rhy49⟩) (by assumption) ?rrest49
          case rhy49 => (intro w hSw; (try dsimp only at hSw); first | (go_simp; done) | (go_simp; with_reducible rfl))
          case rrest49 =>
          try simp only [Act.put, List.setIfInBounds_toArray, List.set_cons_zero, List.set_cons_succ]
          refine wpAnyH_done (by kernel_rfl) ?_ _
          have HB6 := Lib.hid (th HBr.out (Nat.le_refl _) hHeld.2.2.out)
          clear hHeld
          go_wp2_with fail
          go_ret
          exact ⟨bool_ret (lgB_t (yes_star (lgB_iff.1 H9.out) (lgB_iff.1 H10.out))).symm, HB6.out⟩
        | false =>
          have H10 := Lib.hid h10
          clear h10
          go_wp2_with fail
          refine wp_region_held_drew (S := (fun W => W.cell? ⟨w.heap.size, 2, none⟩ = some (.int .i64 (a : Int)) ∧ W.cell? ⟨w.heap.size, 3, none⟩ = some (.int .i64 (0)) ∧ Hid (Below wr.heap.size wr W))) (by kernel_rfl) ?_ (fun hHeld => ?_)
          · (try dsimp only)
            exact KP.out _ (below_draw _)
          refine wpAnyH_take (i := 0) (oi := { dst := some 83, op := Op.move (Operand.tmp 0), type := 28, pos := "ref.go:158", after := #[], guard := none }) (v := ?rv50) rfl (by kernel_rfl) (by kernel_rfl) (by kernel_rfl) (fun _ _ _ h => h) (Or.inl ⟨by rfl, ?rhy50⟩) (by assumption) ?rrest50
          case rhy50 => (intro w hSw; (try dsimp only at hSw); first | (go_simp; done) | (go_simp; with_reducible rfl))
          case rrest50 =>
          try simp only [Act.put, List.setIfInBounds_toArray, List.set_cons_zero, List.set_cons_succ]
          refine wpAnyH_take (i := 1) (oi := { dst := some 84, op := Op.fieldAddr 46 (Operand.tmp 7) 2, type := 0, pos := "ref.go:158", after := #[], guard := none }) (v := ?rv51) rfl (by kernel_rfl) (by kernel_rfl) (by kernel_rfl) (fun _ _ _ h => h) (Or.inl ⟨by rfl, ?rhy51⟩) (by assumption) ?rrest51
          case rhy51 => (intro w hSw; (try dsimp only at hSw); first | (go_simp; done) | (go_simp; with_reducible rfl))
          case rrest51 =>
          try simp only [Act.put, List.setIfInBounds_toArray, List.set_cons_zero, List.set_cons_succ]
          refine wpAnyH_take (i := 2) (oi := { dst := some 85, op := Op.load 3 (Operand.tmp 84), type := 3, pos := "ref.go:158", after := #[{ on := 1, ground := Ground.data }], guard := none }) (v := ?rv52) rfl (by kernel_rfl) (by kernel_rfl) (by kernel_rfl) (fun _ _ _ h => h) (Or.inl ⟨by rfl, ?rhy52⟩) (by assumption) ?rrest52
          case rhy52 => (intro w hSw; (try dsimp only at hSw); first | (go_simp; done) | (go_simp; with_reducible rfl))
          case rrest52 =>
          try simp only [Act.put, List.setIfInBounds_toArray, List.set_cons_zero, List.set_cons_succ]
          refine wpAnyH_take (i := 3) (oi := { dst := some 86, op := Op.move (Operand.tmp 2), type := 25, pos := "ref.go:158", after := #[], guard := none }) (v := ?rv53) rfl (by kernel_rfl) (by kernel_rfl) (by kernel_rfl) (fun _ _ _ h => h) (Or.inl ⟨by rfl, ?rhy53⟩) (by assumption) ?rrest53
          case rhy53 => (intro w hSw; (try dsimp only at hSw); first | (go_simp; done) | (go_simp; with_reducible rfl))
          case rrest53 =>
          try simp only [Act.put, List.setIfInBounds_toArray, List.set_cons_zero, List.set_cons_succ]
          refine wpAnyH_take (i := 4) (oi := { dst := some 87, op := Op.move (Operand.tmp 9), type := 3, pos := "ref.go:158", after := #[], guard := none }) (v := ?rv54) rfl (by kernel_rfl) (by kernel_rfl) (by kernel_rfl) (fun _ _ _ h => h) (Or.inl ⟨by rfl, ?rhy54⟩) (by assumption) ?rrest54
          case rhy54 => (intro w hSw; (try dsimp only at hSw); first | (go_simp; done) | (go_simp; with_reducible rfl))
          case rrest54 =>
          try simp only [Act.put, List.setIfInBounds_toArray, List.set_cons_zero, List.set_cons_succ]
          refine wpAnyH_take (i := 5) (oi := { dst := some 88, op := Op.slice 25 (Operand.tmp 86) none (some (Operand.tmp 87)) none, type := 25, pos := "ref.go:158", after := #[{ on := 3, ground := Ground.data }, { on := 4, ground := Ground.data }], guard := none }) (v := ?rv55) rfl (by kernel_rfl) (by kernel_rfl) (by kernel_rfl) (fun _ _ _ h => h) (Or.inl ⟨by rfl, ?rhy55⟩) (by assumption) ?rrest55
          case rhy55 => (intro w hSw; (try dsimp only at hSw); first | (go_simp; done) | (go_simp; with_reducible rfl))
          case rrest55 =>
          try simp only [Act.put, List.setIfInBounds_toArray, List.set_cons_zero, List.set_cons_succ]
          refine wpAnyH_ready (rs := [6]) (by kernel_rfl) (by simp) ?_
          refine AllReadyH.cons (o := { dst := some 89, op := Op.call { callee := Callee.value (Operand.func 13), args := #[Operand.tmp 83, Operand.tmp 85, Operand.tmp 88], argTypes := #[28, 3, 25] }, type := 4, pos := "ref.go:158", after := #[{ on := 0, ground := Ground.data }, { on := 2, ground := Ground.data }, { on := 5, ground := Ground.data }], guard := none }) rfl (fun K hK => ?_) AllReadyH.nil
          go_simp
          refine (HK1.out _ hHeld.2.2.out).mono ?_; rintro e w6 ⟨rfl, hM5⟩; rw [H9.out]
          go_wp2_with fail
          refine hK.out _ _ ?_ (fun hHeld => ?_)
          · (try dsimp only)
            exact KP.out _ (th hHeld.2.2.out (Nat.le_refl _) hM5)
          clear hK K
          try simp only [Act.put, List.setIfInBounds_toArray, List.set_cons_zero, List.set_cons_succ]
          refine wpAnyH_take (i := 7) (oi := { dst := some 90, op := Op.move (Operand.tmp 89), type := 4, pos := "ref.go:158", after := #[{ on := 6, ground := Ground.data }, { on := 6, ground := Ground.chain }], guard := none }) (v := ?rv56) rfl (by kernel_rfl) (by kernel_rfl) (by kernel_rfl) (fun _ _ _ h => h) (Or.inl ⟨by rfl, ?rhy56⟩) (by assumption) ?rrest56
          case rhy56 => (intro w hSw; (try dsimp only at hSw); first | (go_simp; done) | (go_simp; with_reducible rfl))
          case rrest56 =>
          try simp only [Act.put, List.setIfInBounds_toArray, List.set_cons_zero, List.set_cons_succ]
          refine wpAnyH_take (i := 8) (oi := { dst := some 91, op := Op.move (Operand.tmp 0), type := 28, pos := "ref.go:158", after := #[{ on := 7, ground := Ground.guard }], guard := some (7, true) }) (v := ?rv57) rfl (by kernel_rfl) (by kernel_rfl) (by kernel_rfl) (fun _ _ _ h => h) (Or.inl ⟨by rfl, ?rhy57⟩) (by assumption) ?rrest57
          case rhy57 => (intro w hSw; (try dsimp only at hSw); first | (go_simp; done) | (go_simp; with_reducible rfl))
          case rrest57 =>
          try simp only [Act.put, List.setIfInBounds_toArray, List.set_cons_zero, List.set_cons_succ]
          refine wpAnyH_take (i := 9) (oi := { dst := some 92, op := Op.move (Operand.tmp 1), type := 3, pos := "ref.go:158", after := #[{ on := 7, ground := Ground.guard }], guard := some (7, true) }) (v := ?rv58) rfl (by kernel_rfl) (by kernel_rfl) (by kernel_rfl) (fun _ _ _ h => h) (Or.inl ⟨by rfl, ?rhy58⟩) (by assumption) ?rrest58
          case rhy58 => (intro w hSw; (try dsimp only at hSw); first | (go_simp; done) | (go_simp; with_reducible rfl))
          case rrest58 =>
          try simp only [Act.put, List.setIfInBounds_toArray, List.set_cons_zero, List.set_cons_succ]
          refine wpAnyH_take (i := 10) (oi := { dst := some 93, op := Op.move (Operand.tmp 2), type := 25, pos := "ref.go:158", after := #[{ on := 7, ground := Ground.guard }], guard := some (7, true) }) (v := ?rv59) rfl (by kernel_rfl) (by kernel_rfl) (by kernel_rfl) (fun _ _ _ h => h) (Or.inl ⟨by rfl, ?rhy59⟩) (by assumption) ?rrest59
          case rhy59 => (intro w hSw; (try dsimp only at hSw); first | (go_simp; done) | (go_simp; with_reducible rfl))
          case rrest59 =>
          try simp only [Act.put, List.setIfInBounds_toArray, List.set_cons_zero, List.set_cons_succ]
          refine wpAnyH_take (i := 11) (oi := { dst := some 94, op := Op.move (Operand.tmp 9), type := 3, pos := "ref.go:158", after := #[{ on := 7, ground := Ground.guard }], guard := some (7, true) }) (v := ?rv60) rfl (by kernel_rfl) (by kernel_rfl) (by kernel_rfl) (fun _ _ _ h => h) (Or.inl ⟨by rfl, ?rhy60⟩) (by assumption) ?rrest60
          case rhy60 => (intro w hSw; (try dsimp only at hSw); first | (go_simp; done) | (go_simp; with_reducible rfl))
          case rrest60 =>
          try simp only [Act.put, List.setIfInBounds_toArray, List.set_cons_zero, List.set_cons_succ]
          refine wpAnyH_take (i := 12) (oi := { dst := some 95, op := Op.slice 25 (Operand.tmp 93) (some (Operand.tmp 94)) none none, type := 25, pos := "ref.go:158", after := #[{ on := 10, ground := Ground.data }, { on := 11, ground := Ground.data }, { on := 7, ground := Ground.guard }], guard := some (7, true) }) (v := ?rv61) rfl (by kernel_rfl) (by kernel_rfl) (by kernel_rfl) (fun _ _ _ h => h) (Or.inl ⟨by rfl, ?rhy61⟩) (by assumption) ?rrest61
          case rhy61 => (intro w hSw; (try dsimp only at hSw); first | (go_simp; done) | (go_simp; with_reducible rfl))
          case rrest61 =>
          try simp only [Act.put, List.setIfInBounds_toArray, List.set_cons_zero, List.set_cons_succ]
          refine wpAnyH_ready (rs := [13]) (by kernel_rfl) (by simp) ?_
          refine AllReadyH.cons (o := { dst := some 96, op := Op.call { callee := Callee.value (Operand.func 13), args := #[Operand.tmp 91, Operand.tmp 92, Operand.tmp 95], argTypes := #[28, 3, 25] }, type := 4, pos := "ref.go:158", after := #[{ on := 8, ground := Ground.data }, { on := 9, ground := Ground.data }, { on := 12, ground := Ground.data }, { on := 7, ground := Ground.chain }, { on := 7, ground := Ground.guard }], guard := some (7, true) }) rfl (fun K hK => ?_) AllReadyH.nil
          go_simp
          refine (HK2.out _ hHeld.2.2.out).mono ?_; rintro e w6 ⟨rfl, hM5⟩; rw [H10.out]
          go_wp2_with fail
          refine hK.out _ _ ?_ (fun hHeld => ?_)
          · (try dsimp only)
            exact KP.out _ (th hHeld.2.2.out (Nat.le_refl _) hM5)
          clear hK K
          try simp only [Act.put, List.setIfInBounds_toArray, List.set_cons_zero, List.set_cons_succ]
          refine wpAnyH_take (i := 14) (oi := { dst := some 97, op := Op.pick (Operand.tmp 90) (Operand.tmp 96) (Operand.const (Value.bool false)), type := 4, pos := "ref.go:158", after := #[{ on := 7, ground := Ground.data }, { on := 13, ground := Ground.data }], guard := none }) (v := ?rv62) rfl (by kernel_rfl) (by kernel_rfl) (by kernel_rfl) (fun _ _ _ h => h) (Or.inl ⟨by rfl, ?rhy62⟩) (by assumption) ?rrest62
          case rhy62 => (intro w hSw; (try dsimp only at hSw); first | (go_simp; done) | (go_simp; with_reducible rfl))
          case rrest62 =>
          try simp only [Act.put, List.setIfInBounds_toArray, List.set_cons_zero, List.set_cons_succ]
          refine wpAnyH_done (by kernel_rfl) ?_ _
          have HB6 := Lib.hid (th HBr.out (Nat.le_refl _) hHeld.2.2.out)
          have c2 := hHeld.1
          have c3 := hHeld.2.1
          clear hHeld
          go_wp2_with fail
          go_roundw
          case rel =>
            have h1 := HLT.out
            exact ⟨k + 1, by rw [hw1]; go_num, by omega, by omega, Lib.hid (fun j hj1 hj => by
              by_cases e : j = k
              · subst e; exact fun q => lgB_no H10.out q.2
              · exact HA.out j hj1 (by omega)), c2, c3, HB6⟩
          case measure => have h1 := HLT.out; rw [hw1]; simp only [intOf]; omega
      | false =>
        have H9 := Lib.hid h9
        clear h9
        go_wp2_with fail
        refine wp_region_held_drew (S := (fun W => W.cell? ⟨w.heap.size, 2, none⟩ = some (.int .i64 (a : Int)) ∧ W.cell? ⟨w.heap.size, 3, none⟩ = some (.int .i64 (0)) ∧ Hid (Below wr.heap.size wr W))) (by kernel_rfl) ?_ (fun hHeld => ?_)
        · (try dsimp only)
          exact KP.out _ (below_draw _)
        refine wpAnyH_take (i := 0) (oi := { dst := some 83, op := Op.move (Operand.tmp 0), type := 28, pos := "ref.go:158", after := #[], guard := none }) (v := ?rv63) rfl (by kernel_rfl) (by kernel_rfl) (by kernel_rfl) (fun _ _ _ h => h) (Or.inl ⟨by rfl, ?rhy63⟩) (by assumption) ?rrest63
        case rhy63 => (intro w hSw; (try dsimp only at hSw); first | (go_simp; done) | (go_simp; with_reducible rfl))
        case rrest63 =>
        try simp only [Act.put, List.setIfInBounds_toArray, List.set_cons_zero, List.set_cons_succ]
        refine wpAnyH_take (i := 1) (oi := { dst := some 84, op := Op.fieldAddr 46 (Operand.tmp 7) 2, type := 0, pos := "ref.go:158", after := #[], guard := none }) (v := ?rv64) rfl (by kernel_rfl) (by kernel_rfl) (by kernel_rfl) (fun _ _ _ h => h) (Or.inl ⟨by rfl, ?rhy64⟩) (by assumption) ?rrest64
        case rhy64 => (intro w hSw; (try dsimp only at hSw); first | (go_simp; done) | (go_simp; with_reducible rfl))
        case rrest64 =>
        try simp only [Act.put, List.setIfInBounds_toArray, List.set_cons_zero, List.set_cons_succ]
        refine wpAnyH_take (i := 2) (oi := { dst := some 85, op := Op.load 3 (Operand.tmp 84), type := 3, pos := "ref.go:158", after := #[{ on := 1, ground := Ground.data }], guard := none }) (v := ?rv65) rfl (by kernel_rfl) (by kernel_rfl) (by kernel_rfl) (fun _ _ _ h => h) (Or.inl ⟨by rfl, ?rhy65⟩) (by assumption) ?rrest65
        case rhy65 => (intro w hSw; (try dsimp only at hSw); first | (go_simp; done) | (go_simp; with_reducible rfl))
        case rrest65 =>
        try simp only [Act.put, List.setIfInBounds_toArray, List.set_cons_zero, List.set_cons_succ]
        refine wpAnyH_take (i := 3) (oi := { dst := some 86, op := Op.move (Operand.tmp 2), type := 25, pos := "ref.go:158", after := #[], guard := none }) (v := ?rv66) rfl (by kernel_rfl) (by kernel_rfl) (by kernel_rfl) (fun _ _ _ h => h) (Or.inl ⟨by rfl, ?rhy66⟩) (by assumption) ?rrest66
        case rhy66 => (intro w hSw; (try dsimp only at hSw); first | (go_simp; done) | (go_simp; with_reducible rfl))
        case rrest66 =>
        try simp only [Act.put, List.setIfInBounds_toArray, List.set_cons_zero, List.set_cons_succ]
        refine wpAnyH_take (i := 4) (oi := { dst := some 87, op := Op.move (Operand.tmp 9), type := 3, pos := "ref.go:158", after := #[], guard := none }) (v := ?rv67) rfl (by kernel_rfl) (by kernel_rfl) (by kernel_rfl) (fun _ _ _ h => h) (Or.inl ⟨by rfl, ?rhy67⟩) (by assumption) ?rrest67
        case rhy67 => (intro w hSw; (try dsimp only at hSw); first | (go_simp; done) | (go_simp; with_reducible rfl))
        case rrest67 =>
        try simp only [Act.put, List.setIfInBounds_toArray, List.set_cons_zero, List.set_cons_succ]
        refine wpAnyH_take (i := 5) (oi := { dst := some 88, op := Op.slice 25 (Operand.tmp 86) none (some (Operand.tmp 87)) none, type := 25, pos := "ref.go:158", after := #[{ on := 3, ground := Ground.data }, { on := 4, ground := Ground.data }], guard := none }) (v := ?rv68) rfl (by kernel_rfl) (by kernel_rfl) (by kernel_rfl) (fun _ _ _ h => h) (Or.inl ⟨by rfl, ?rhy68⟩) (by assumption) ?rrest68
        case rhy68 => (intro w hSw; (try dsimp only at hSw); first | (go_simp; done) | (go_simp; with_reducible rfl))
        case rrest68 =>
        try simp only [Act.put, List.setIfInBounds_toArray, List.set_cons_zero, List.set_cons_succ]
        refine wpAnyH_ready (rs := [6]) (by kernel_rfl) (by simp) ?_
        refine AllReadyH.cons (o := { dst := some 89, op := Op.call { callee := Callee.value (Operand.func 13), args := #[Operand.tmp 83, Operand.tmp 85, Operand.tmp 88], argTypes := #[28, 3, 25] }, type := 4, pos := "ref.go:158", after := #[{ on := 0, ground := Ground.data }, { on := 2, ground := Ground.data }, { on := 5, ground := Ground.data }], guard := none }) rfl (fun K hK => ?_) AllReadyH.nil
        go_simp
        refine (HK1.out _ hHeld.2.2.out).mono ?_; rintro e w6 ⟨rfl, hM5⟩; rw [H9.out]
        go_wp2_with fail
        refine hK.out _ _ ?_ (fun hHeld => ?_)
        · (try dsimp only)
          exact KP.out _ (th hHeld.2.2.out (Nat.le_refl _) hM5)
        clear hK K
        try simp only [Act.put, List.setIfInBounds_toArray, List.set_cons_zero, List.set_cons_succ]
        refine wpAnyH_take (i := 7) (oi := { dst := some 90, op := Op.move (Operand.tmp 89), type := 4, pos := "ref.go:158", after := #[{ on := 6, ground := Ground.data }, { on := 6, ground := Ground.chain }], guard := none }) (v := ?rv69) rfl (by kernel_rfl) (by kernel_rfl) (by kernel_rfl) (fun _ _ _ h => h) (Or.inl ⟨by rfl, ?rhy69⟩) (by assumption) ?rrest69
        case rhy69 => (intro w hSw; (try dsimp only at hSw); first | (go_simp; done) | (go_simp; with_reducible rfl))
        case rrest69 =>
        try simp only [Act.put, List.setIfInBounds_toArray, List.set_cons_zero, List.set_cons_succ]
        refine wpAnyH_take (i := 8) (oi := { dst := some 91, op := Op.move (Operand.tmp 0), type := 28, pos := "ref.go:158", after := #[{ on := 7, ground := Ground.guard }], guard := some (7, true) }) (v := undef) rfl (by kernel_rfl) (by kernel_rfl) (by kernel_rfl) (fun _ _ _ h => h) (Or.inr ⟨by rfl, rfl⟩) (by assumption) ?_
        try simp only [Act.put, List.setIfInBounds_toArray, List.set_cons_zero, List.set_cons_succ]
        refine wpAnyH_take (i := 9) (oi := { dst := some 92, op := Op.move (Operand.tmp 1), type := 3, pos := "ref.go:158", after := #[{ on := 7, ground := Ground.guard }], guard := some (7, true) }) (v := undef) rfl (by kernel_rfl) (by kernel_rfl) (by kernel_rfl) (fun _ _ _ h => h) (Or.inr ⟨by rfl, rfl⟩) (by assumption) ?_
        try simp only [Act.put, List.setIfInBounds_toArray, List.set_cons_zero, List.set_cons_succ]
        refine wpAnyH_take (i := 10) (oi := { dst := some 93, op := Op.move (Operand.tmp 2), type := 25, pos := "ref.go:158", after := #[{ on := 7, ground := Ground.guard }], guard := some (7, true) }) (v := undef) rfl (by kernel_rfl) (by kernel_rfl) (by kernel_rfl) (fun _ _ _ h => h) (Or.inr ⟨by rfl, rfl⟩) (by assumption) ?_
        try simp only [Act.put, List.setIfInBounds_toArray, List.set_cons_zero, List.set_cons_succ]
        refine wpAnyH_take (i := 11) (oi := { dst := some 94, op := Op.move (Operand.tmp 9), type := 3, pos := "ref.go:158", after := #[{ on := 7, ground := Ground.guard }], guard := some (7, true) }) (v := undef) rfl (by kernel_rfl) (by kernel_rfl) (by kernel_rfl) (fun _ _ _ h => h) (Or.inr ⟨by rfl, rfl⟩) (by assumption) ?_
        try simp only [Act.put, List.setIfInBounds_toArray, List.set_cons_zero, List.set_cons_succ]
        refine wpAnyH_take (i := 12) (oi := { dst := some 95, op := Op.slice 25 (Operand.tmp 93) (some (Operand.tmp 94)) none none, type := 25, pos := "ref.go:158", after := #[{ on := 10, ground := Ground.data }, { on := 11, ground := Ground.data }, { on := 7, ground := Ground.guard }], guard := some (7, true) }) (v := undef) rfl (by kernel_rfl) (by kernel_rfl) (by kernel_rfl) (fun _ _ _ h => h) (Or.inr ⟨by rfl, rfl⟩) (by assumption) ?_
        try simp only [Act.put, List.setIfInBounds_toArray, List.set_cons_zero, List.set_cons_succ]
        refine wpAnyH_take (i := 13) (oi := { dst := some 96, op := Op.call { callee := Callee.value (Operand.func 13), args := #[Operand.tmp 91, Operand.tmp 92, Operand.tmp 95], argTypes := #[28, 3, 25] }, type := 4, pos := "ref.go:158", after := #[{ on := 8, ground := Ground.data }, { on := 9, ground := Ground.data }, { on := 12, ground := Ground.data }, { on := 7, ground := Ground.chain }, { on := 7, ground := Ground.guard }], guard := some (7, true) }) (v := undef) rfl (by kernel_rfl) (by kernel_rfl) (by kernel_rfl) (fun _ _ _ h => h) (Or.inr ⟨by rfl, rfl⟩) (by assumption) ?_
        try simp only [Act.put, List.setIfInBounds_toArray, List.set_cons_zero, List.set_cons_succ]
        refine wpAnyH_take (i := 14) (oi := { dst := some 97, op := Op.pick (Operand.tmp 90) (Operand.tmp 96) (Operand.const (Value.bool false)), type := 4, pos := "ref.go:158", after := #[{ on := 7, ground := Ground.data }, { on := 13, ground := Ground.data }], guard := none }) (v := ?rv70) rfl (by kernel_rfl) (by kernel_rfl) (by kernel_rfl) (fun _ _ _ h => h) (Or.inl ⟨by rfl, ?rhy70⟩) (by assumption) ?rrest70
        case rhy70 => (intro w hSw; (try dsimp only at hSw); first | (go_simp; done) | (go_simp; with_reducible rfl))
        case rrest70 =>
        try simp only [Act.put, List.setIfInBounds_toArray, List.set_cons_zero, List.set_cons_succ]
        refine wpAnyH_done (by kernel_rfl) ?_ _
        have HB6 := Lib.hid (th HBr.out (Nat.le_refl _) hHeld.2.2.out)
        have c2 := hHeld.1
        have c3 := hHeld.2.1
        clear hHeld
        go_wp2_with fail
        go_roundw
        case rel =>
          have h1 := HLT.out
          exact ⟨k + 1, by rw [hw1]; go_num, by omega, by omega, Lib.hid (fun j hj1 hj => by
            by_cases e : j = k
            · subst e; exact fun q => lgB_no H9.out q.1
            · exact HA.out j hj1 (by omega)), c2, c3, HB6⟩
        case measure => have h1 := HLT.out; rw [hw1]; simp only [intOf]; omega
    · have hd1 : decide ((k : Int) ≤ m) = false := by simp; omega
      have hd2 : decide (k ≤ m) = false := by simp; omega
      have hkm : k = m + 1 := by omega
      have HKM := Lib.hid hkm
      clear hlt hk hkm c2 c3 hk1
      go_wp2_with fail
      go_ret
      refine ⟨bool_ret (lgB_f ?_).symm, HBr.out⟩
      exact no_star HNE.out fun j h1 hj => HA.out j h1 (by have := HKM.out; have := HM.out; omega)
set_option maxHeartbeats 4000000 in
set_option maxRecDepth 20000 in
theorem match_star0 {l : List Nd} {i : Nat} {a : Nat} {s : RE} (ws : List Wd) (v u : Value) (w : World) (hv : NR w v l) (hu : VR eS w u ws) (hl : ws.length ≤ 1000) (h : l[i]? = some ⟨5, [], (a : Int), 0⟩) (h0 : ws = []) : Calls Try.prog 13 #[v, .int .i64 (i : Int), u] w fun e w' => MatP (lgB (.star s) ws) w e w' := by
  obtain ⟨g, o, c, rfl, hi1, hn63, s1, s2, s3, s4⟩ := hv.node h
  have hi0 : (0 : Int) ≤ i := by omega
  have HB := Lib.hid ((Below.refl w.heap.size w).alloc (Nat.le_refl _) (.cells (ndC ⟨5, [], (a : Int), 0⟩).toArray 46))
  clear hv h
  obtain ⟨n, hn⟩ : ∃ n, n = l.length := ⟨_, rfl⟩
  rw [← hn] at hi1 hn63 ⊢
  clear hn
  obtain ⟨ua, uc, rfl, u2, u3, u4⟩ := hu.at
  obtain ⟨m, hm⟩ : ∃ m, m = ws.length := ⟨_, rfl⟩
  have hm63 : m ≤ 1000 := by omega
  have HM := Lib.hid hm
  rw [← hm]
  have H0 := Lib.hid h0
  have e0 : m = 0 := by rw [hm, h0]; rfl
  subst e0
  clear hu u2 u3 u4 hm hl h0 HM hm63
  go_enter Try.func13, Try.ntmps13
  go_wp2_with fail
  go_ret
  exact ⟨bool_ret (lgB_t (by rw [H0.out]; exact .nil)).symm, HB.out⟩
/-- The document's Match. -/
theorem matchR_any {l : List Nd} {i : Nat} {t : RE} (hs : Sh l i t) : ∀ (ws : List Wd) (v u : Value) (w : World), NR w v l → VR eS w u ws → ws.length ≤ 1000 → Calls Try.prog 13 #[v, .int .i64 (i : Int), u] w fun e w' => MatP (lgB t ws) w e w' := by
  induction hs with
  | none h => exact fun ws v u w hv hu hl => match_none ws v u w hv hu hl h
  | empty h => exact fun ws v u w hv hu hl => match_empty ws v u w hv hu hl h
  | sym h => exact fun ws v u w hv hu hl => match_sym ws v u w hv hu hl h
  | cat h _ _ _ _ i1 i2 => exact fun ws v u w hv hu hl => match_cat ws v u w hv hu hl h (fun ws u W hb hu hl => i1 ws v u W (hv.below hb) hu hl) (fun ws u W hb hu hl => i2 ws v u W (hv.below hb) hu hl)
  | alt h _ _ _ _ i1 i2 => exact fun ws v u w hv hu hl => match_alt ws v u w hv hu hl h (fun ws u W hb hu hl => i1 ws v u W (hv.below hb) hu hl) (fun ws u W hb hu hl => i2 ws v u W (hv.below hb) hu hl)
  | @star i a s h _ _ i1 =>
    have key : ∀ (n : Nat) (ws : List Wd) (v u : Value) (w : World), ws.length ≤ n → NR w v l → VR eS w u ws → ws.length ≤ 1000 → Calls Try.prog 13 #[v, .int .i64 (i : Int), u] w fun e w' => MatP (lgB (.star s) ws) w e w' := by
      intro n
      induction n with
      | zero => exact fun ws v u w hn hv hu hl => match_star0 ws v u w hv hu hl h (List.eq_nil_of_length_eq_zero (by omega))
      | succ n ih =>
        intro ws v u w hn hv hu hl
        by_cases h0 : ws = []
        · exact match_star0 ws v u w hv hu hl h h0
        · exact match_star ws v u w hv hu hl h (fun ws u W hb hu hl => i1 ws v u W (hv.below hb) hu hl) (fun ws1 u1 W hb hu1 hlt => ih ws1 v u1 W (by omega) (hv.below hb) hu1 (by omega)) h0
    exact fun ws v u w hv hu hl => key ws.length ws v u w (Nat.le_refl _) hv hu hl
end Go.Proofs.Ytnaimmhdpjggmaa.U
