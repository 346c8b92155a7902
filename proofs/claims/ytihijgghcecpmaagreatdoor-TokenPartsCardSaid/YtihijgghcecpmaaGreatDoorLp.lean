/- The law TokenParts. -/
import Derived.Test.YtihijgghcecpmaaGreatDoorLl0
namespace Go.Proofs.YtihijgghcecpmaaGreatDoor.U
open Go.RowKit Go.Shelf

theorem tall_err (a : Option Addr) (len cap : Nat) (l : List UInt8) (w : World) (hm : LayT w) (hz : Byt w a len cap (ints l)) {p : Nat} {z : Int} (h : allT l = .error (p, z)) :
    Calls Tryz.prog 9 #[.slice a len cap] w fun e w' => e = .returned (.tuple #[.slice none 0 0, .int .i64 p, .int .i64 z]) ∧ Below w.heap.size w w' :=
  (tall_at a len cap l w hm hz).mono (by
    rintro e w' ⟨h1, ⟨_, _, _, h2, _⟩ | ⟨_, _, h2, rfl⟩⟩
    · rw [h] at h2; cases h2
    · rw [h] at h2
      injection h2 with h2
      obtain ⟨rfl, rfl⟩ := Prod.mk.inj h2
      exact ⟨rfl, h1⟩)
theorem tall_ok (a : Option Addr) (len cap : Nat) (l : List UInt8) (w : World) (hm : LayT w) (hz : Byt w a len cap (ints l)) {ts : List Tok} (h : allT l = .ok ts) :
    Calls Tryz.prog 9 #[.slice a len cap] w fun e w' => ∃ a1 c1, e = .returned (.tuple #[.slice a1 ts.length c1, .int .i64 0, .int .i64 0]) ∧ Below w.heap.size w w' ∧ TokAt w' (.slice a1 ts.length c1) ts :=
  (tall_at a len cap l w hm hz).mono (by
    rintro e w' ⟨h1, ⟨ts', a1, c1, h2, h3, h4⟩ | ⟨_, _, h2, _⟩⟩
    · rw [h] at h2
      injection h2 with h2
      subst h2
      exact ⟨a1, c1, h3, h1, h4⟩
    · rw [h] at h2; cases h2)
theorem tall_some (a : Option Addr) (len cap : Nat) (l : List UInt8) (w : World) (hm : LayT w) (hz : Byt w a len cap (ints l)) :
    Calls Tryz.prog 9 #[.slice a len cap] w fun e w' => ∃ v n c y z, e = .returned (.tuple #[.slice v n c, .int .i64 y, .int .i64 z]) ∧ Below w.heap.size w w' :=
  (tall_at a len cap l w hm hz).mono (by
    rintro e w' ⟨h1, ⟨_, _, _, _, h3, _⟩ | ⟨_, _, _, h3⟩⟩
    · exact ⟨_, _, _, _, _, h3, h1⟩
    · exact ⟨_, _, _, _, _, h3, h1⟩)
theorem allT_nz {l : List UInt8} {p : Nat} {z : Int} (h : allT l = .error (p, z)) : ¬ z = 0 := by
  unfold allT at h
  split at h
  · cases h; decide
  · split at h
    · cases h; decide
    · split at h
      · cases h
      · cases h; decide
theorem allT_pos {l : List UInt8} {ts : List Tok} (h : allT l = .ok ts) (hne : ts ≠ []) : 0 < l.length := by
  cases l with
  | nil =>
    have h0 : allT [] = .ok [] := by rfl
    rw [h0] at h
    cases h
    exact absurd rfl hne
  | cons c t => simp
theorem allT_ok {l : List UInt8} {ts : List Tok} (h : allT l = .ok ts) : Whole l ∧ allL3 (linesL l) = .ok ts ∧ l.length ≤ 65536 ∧ ¬ chkC (ints l) < l.length := by
  unfold allT at h
  split at h
  · cases h
  · split at h
    · cases h
    · rename_i h1 h2
      have h3 := chkC_le (ints l)
      rw [ints_len] at h3
      refine ⟨(wholeB_iff l).1 (by simp [wholeB]; omega), ?_, by omega, h2⟩
      cases h4 : allL3 (linesL l) with
      | ok us => rw [h4] at h; simpa using h
      | error p => rw [h4] at h; cases h
theorem byt_ints (l : List UInt8) : Lib.byteCells l = (ints l).map (Value.int .u8) := by
  unfold Lib.byteCells ints
  rw [List.map_map]
  rfl
/-- The cells of bytes that came in, for append. -/
theorem byt_news {w : World} {b off len cap : Nat} {l : List UInt8} (hz : Byt w (some ⟨b, off, none⟩) len cap (ints l)) : ∀ j u, (Lib.byteCells l)[j]? = some u → w.cell? ((⟨b, off, none⟩ : Addr).add j) = some u := by
  intro j u hj
  have hll : l.length = len := by have := hz.eqLen; rw [ints_len] at this; exact this
  have hjl : j < l.length := by
    rcases Nat.lt_or_ge j l.length with h1 | h1
    · exact h1
    · rw [List.getElem?_eq_none (by rw [Lib.byteCells_length]; exact h1)] at hj; cases hj
  obtain ⟨b', off', h1, h2⟩ := hz.cells (by omega)
  injection h1 with h1
  injection h1 with e1 e2 e3
  subst e1 e2
  have h3 := h2 j (by omega)
  have e : ((⟨b, off, none⟩ : Addr).add j) = ⟨b, off + j, none⟩ := by unfold Addr.add; split <;> simp_all
  rw [e, h3, ← hj]
  unfold Lib.byteCells ints
  rw [List.getElem?_map, List.getElem?_map, List.getElem?_eq_getElem hjl]
  rfl
theorem one_cells (l : List UInt8) : ∀ u ∈ Lib.byteCells l, u.oneCell' = true := by
  intro u hu
  unfold Lib.byteCells at hu
  obtain ⟨x, _, rfl⟩ := List.mem_map.1 hu
  rfl
theorem byt_addr {w : World} {a : Option Addr} {len cap : Nat} {zs : List Int} (hz : Byt w a len cap zs) (h0 : 0 < len) : ∃ b off, a = some ⟨b, off, none⟩ := by
  obtain ⟨b, off, h, _⟩ := hz.cells h0
  exact ⟨b, off, h⟩
theorem all_len {l : List UInt8} {ts : List Tok} (h : allT l = .ok ts) (hl : l.length ≤ 300) : ts.length ≤ 300 := by
  obtain ⟨h1, h2, _⟩ := allT_ok h
  have h3 := all_short3 (lines_whole h1) (lines_no13 l) h2
  have h4 := lines_len l
  omega
/-- The cells of a row of pieces, piece by piece. -/
theorem tok_get {w : World} {a : Option Addr} {c n : Nat} {ts : List Tok} (hn : ts.length = n) (h : TokAt w (.slice a n c) ts) : ∃ g off, (0 < n → a = some ⟨g, off, none⟩) ∧
    ∀ k t, ts[k]? = some t → ∃ a' c', w.cell? ⟨g, off + k * 5, none⟩ = some (.int .i64 t.kind) ∧ w.cell? ⟨g, off + k * 5 + 1, none⟩ = some (.string ⟨t.name.toArray⟩) ∧ w.cell? ⟨g, off + k * 5 + 2, none⟩ = some (.string ⟨t.text.toArray⟩) ∧ w.cell? ⟨g, off + k * 5 + 3, none⟩ = some (.slice a' t.attrs.length c') ∧ w.cell? ⟨g, off + k * 5 + 4, none⟩ = some (.bool t.empty) ∧ AtRow w (.slice a' t.attrs.length c') t.attrs.length 2 (attrCells t.attrs) := by
  subst hn
  obtain ⟨g, off, h1, h2⟩ := h.cells
  refine ⟨g, off, h1, fun k t hk => ?_⟩
  obtain ⟨hk1, rfl⟩ := List.getElem?_eq_some_iff.1 hk
  exact h2 k hk1
/-- The kinds of the first piece and of the last one. -/
theorem tok_first {w : World} {a : Option Addr} {c n : Nat} {t : Tok} {ts : List Tok} (hn : ts.length = n) (hh : ts.head? = some t) (h : TokAt w (.slice a n c) ts) : ∃ g off, a = some ⟨g, off, none⟩ ∧ w.cell? ⟨g, off, none⟩ = some (.int .i64 t.kind) := by
  obtain ⟨g, off, h1, h2⟩ := tok_get hn h
  obtain ⟨_, _, h3, _⟩ := h2 0 t (by rw [← hh, List.head?_eq_getElem?])
  refine ⟨g, off, h1 ?_, by simpa using h3⟩
  cases ts with
  | nil => cases hh
  | cons x r => rw [← hn]; simp
theorem tok_last {w : World} {a : Option Addr} {c n : Nat} {ts : List Tok} {k : Nat} {t : Tok} (hn : ts.length = n) (hk : n = k + 1) (hl : ts.getLast? = some t) (h : TokAt w (.slice a n c) ts) : ∃ g off, a = some ⟨g, off, none⟩ ∧ w.cell? ⟨g, off + k * 5, none⟩ = some (.int .i64 t.kind) := by
  obtain ⟨g, off, h1, h2⟩ := tok_get hn h
  obtain ⟨_, _, h3, _⟩ := h2 k t (by rw [← hl, List.getLast?_eq_getElem?, hn, hk]; rfl)
  exact ⟨g, off, h1 (by omega), h3⟩

set_option maxHeartbeats 4000000 in
theorem tparts_far (a b : Option Addr) (la ca lb cb : Nat) (w : World) (hm : LayT w) (hfar : 300 < la ∨ 300 < lb) :
    Calls Tryz.prog 6 #[.slice a la ca, .slice b lb cb] w fun e w' => e = .returned (.bool true) ∧ Below w.heap.size w w' := by
  have HAW : Hid (∀ W, Below w.heap.size w W → Calls Tryz.prog 8 #[] W fun e w' => e = .returned (.bool true) ∧ Below w.heap.size w w') := Lib.hid (fun W hb => (awake3_any W (hm.below hb hm.size)).mono (fun e w' r => ⟨r.1, th hb (Nat.le_refl _) r.2⟩))
  clear hm
  by_cases h1 : 300 < la
  · clear hfar
    go_enter Tryz.func6, Tryz.ntmps6
    go_wp2_with fail
    refine (HAW.out _ (Below.refl _ _)).mono ?_
    rintro e wz ⟨rfl, hbz⟩
    go_wp2
    go_ret
    exact ⟨rfl, hbz⟩
  · have h2 : 300 < lb := by omega
    have h3 : decide ((300 : Int) < la) = false := by simp; omega
    clear hfar h1
    go_enter Tryz.func6, Tryz.ntmps6
    go_wp2_with fail
    refine (HAW.out _ (Below.refl _ _)).mono ?_
    rintro e wz ⟨rfl, hbz⟩
    go_wp2
    go_ret
    exact ⟨rfl, hbz⟩
set_option maxHeartbeats 4000000 in
set_option maxRecDepth 20000 in
theorem tparts_ea (a b : Option Addr) (la ca lb cb : Nat) (l1 l2 : List UInt8) (w : World) (hm : LayT w) (hza : Byt w a la ca (ints l1)) (hzb : Byt w b lb cb (ints l2)) (hbA : ¬ 300 < la) (hbB : ¬ 300 < lb) {p : Nat} {z : Int} (h1 : allT l1 = .error (p, z)) :
    Calls Tryz.prog 6 #[.slice a la ca, .slice b lb cb] w fun e w' => e = .returned (.bool true) ∧ Below w.heap.size w w' := by
  have hlimA := hza.lim
  have hlimB := hzb.lim
  have hnA : decide ((300 : Int) < la) = false := by simp; omega
  have hnB : decide ((300 : Int) < lb) = false := by simp; omega
  have HAW : Hid (∀ W, Below w.heap.size w W → Calls Tryz.prog 8 #[] W fun e w' => e = .returned (.bool true) ∧ Below w.heap.size w w') := Lib.hid (fun W hb => (awake3_any W (hm.below hb hm.size)).mono (fun e w' r => ⟨r.1, th hb (Nat.le_refl _) r.2⟩))
  have HA : Hid (∀ W, Below w.heap.size w W → Calls Tryz.prog 9 #[.slice a la ca] W fun e w' => e = .returned (.tuple #[.slice none 0 0, .int .i64 p, .int .i64 z]) ∧ Below W.heap.size W w') := Lib.hid (fun W hb => tall_err a la ca l1 W (hm.below hb hm.size) (hza.below hb (Nat.le_refl _)) h1)
  have HB : Hid (∀ W, Below w.heap.size w W → Calls Tryz.prog 9 #[.slice b lb cb] W fun e w' => ∃ v n c y z, e = .returned (.tuple #[.slice v n c, .int .i64 y, .int .i64 z]) ∧ Below W.heap.size W w') := Lib.hid (fun W hb => tall_some b lb cb l2 W (hm.below hb hm.size) (hzb.below hb (Nat.le_refl _)))
  have hz2 := allT_nz h1
  clear hm hza hzb h1 hbA hbB
  go_enter Tryz.func6, Tryz.ntmps6
  go_wp2_with fail
  refine (HA.out _ (Below.refl _ _)).mono ?_
  rintro e w1 ⟨rfl, hb1⟩
  have HB1 := Lib.hid hb1
  clear hb1
  go_wp2_with fail
  refine (HB.out _ HB1.out).mono ?_
  rintro e w2 ⟨v, n, c, y, z2, rfl, hb2⟩
  have HB2 := Lib.hid (th HB1.out (Nat.le_refl _) hb2)
  clear hb2
  go_wp2_with fail
  refine (HAW.out _ HB2.out).mono ?_
  rintro e wz ⟨rfl, hbz⟩
  go_wp2
  go_ret
  exact ⟨rfl, hbz⟩
set_option maxHeartbeats 4000000 in
set_option maxRecDepth 20000 in
theorem tparts_eb (a b : Option Addr) (la ca lb cb : Nat) (l1 l2 : List UInt8) (w : World) (hm : LayT w) (hza : Byt w a la ca (ints l1)) (hzb : Byt w b lb cb (ints l2)) (hbA : ¬ 300 < la) (hbB : ¬ 300 < lb) {p : Nat} {z : Int} {ts : List Tok} (h1 : allT l1 = .ok ts) (h2 : allT l2 = .error (p, z)) :
    Calls Tryz.prog 6 #[.slice a la ca, .slice b lb cb] w fun e w' => e = .returned (.bool true) ∧ Below w.heap.size w w' := by
  have hlimA := hza.lim
  have hlimB := hzb.lim
  have hnA : decide ((300 : Int) < la) = false := by simp; omega
  have hnB : decide ((300 : Int) < lb) = false := by simp; omega
  have HAW : Hid (∀ W, Below w.heap.size w W → Calls Tryz.prog 8 #[] W fun e w' => e = .returned (.bool true) ∧ Below w.heap.size w w') := Lib.hid (fun W hb => (awake3_any W (hm.below hb hm.size)).mono (fun e w' r => ⟨r.1, th hb (Nat.le_refl _) r.2⟩))
  have HA : Hid (∀ W, Below w.heap.size w W → Calls Tryz.prog 9 #[.slice a la ca] W fun e w' => ∃ a1 c1, e = .returned (.tuple #[.slice a1 ts.length c1, .int .i64 0, .int .i64 0]) ∧ Below W.heap.size W w' ∧ TokAt w' (.slice a1 ts.length c1) ts) := Lib.hid (fun W hb => tall_ok a la ca l1 W (hm.below hb hm.size) (hza.below hb (Nat.le_refl _)) h1)
  have HB : Hid (∀ W, Below w.heap.size w W → Calls Tryz.prog 9 #[.slice b lb cb] W fun e w' => e = .returned (.tuple #[.slice none 0 0, .int .i64 p, .int .i64 z]) ∧ Below W.heap.size W w') := Lib.hid (fun W hb => tall_err b lb cb l2 W (hm.below hb hm.size) (hzb.below hb (Nat.le_refl _)) h2)
  have hz2 := allT_nz h2
  clear hm hza hzb h1 h2 hbA hbB
  go_enter Tryz.func6, Tryz.ntmps6
  go_wp2_with fail
  refine (HA.out _ (Below.refl _ _)).mono ?_
  rintro e w1 ⟨a1, c1, rfl, hb1, _⟩
  have HB1 := Lib.hid hb1
  clear hb1
  go_wp2_with fail
  refine (HB.out _ HB1.out).mono ?_
  rintro e w2 ⟨rfl, hb2⟩
  have HB2 := Lib.hid (th HB1.out (Nat.le_refl _) hb2)
  clear hb2
  go_wp2_with fail
  refine (HAW.out _ HB2.out).mono ?_
  rintro e wz ⟨rfl, hbz⟩
  go_wp2
  go_ret
  exact ⟨rfl, hbz⟩
set_option maxHeartbeats 4000000 in
set_option maxRecDepth 20000 in
theorem tparts_na (a b : Option Addr) (la ca lb cb : Nat) (l1 l2 : List UInt8) (w : World) (hm : LayT w) (hza : Byt w a la ca (ints l1)) (hzb : Byt w b lb cb (ints l2)) (hbA : ¬ 300 < la) (hbB : ¬ 300 < lb) {ts : List Tok} (h1 : allT l1 = .ok []) (h2 : allT l2 = .ok ts) :
    Calls Tryz.prog 6 #[.slice a la ca, .slice b lb cb] w fun e w' => e = .returned (.bool true) ∧ Below w.heap.size w w' := by
  have hlimA := hza.lim
  have hlimB := hzb.lim
  have hnA : decide ((300 : Int) < la) = false := by simp; omega
  have hnB : decide ((300 : Int) < lb) = false := by simp; omega
  have HAW : Hid (∀ W, Below w.heap.size w W → Calls Tryz.prog 8 #[] W fun e w' => e = .returned (.bool true) ∧ Below w.heap.size w w') := Lib.hid (fun W hb => (awake3_any W (hm.below hb hm.size)).mono (fun e w' r => ⟨r.1, th hb (Nat.le_refl _) r.2⟩))
  have HA : Hid (∀ W, Below w.heap.size w W → Calls Tryz.prog 9 #[.slice a la ca] W fun e w' => ∃ a1 c1, e = .returned (.tuple #[.slice a1 0 c1, .int .i64 0, .int .i64 0]) ∧ Below W.heap.size W w' ∧ TokAt w' (.slice a1 0 c1) []) := Lib.hid (fun W hb => tall_ok a la ca l1 W (hm.below hb hm.size) (hza.below hb (Nat.le_refl _)) h1)
  have HB : Hid (∀ W, Below w.heap.size w W → Calls Tryz.prog 9 #[.slice b lb cb] W fun e w' => ∃ a1 c1, e = .returned (.tuple #[.slice a1 ts.length c1, .int .i64 0, .int .i64 0]) ∧ Below W.heap.size W w' ∧ TokAt w' (.slice a1 ts.length c1) ts) := Lib.hid (fun W hb => tall_ok b lb cb l2 W (hm.below hb hm.size) (hzb.below hb (Nat.le_refl _)) h2)
  clear hm hza hzb h1 h2 hbA hbB
  go_enter Tryz.func6, Tryz.ntmps6
  go_wp2_with fail
  refine (HA.out _ (Below.refl _ _)).mono ?_
  rintro e w1 ⟨a1, c1, rfl, hb1, hT1⟩
  have HB1 := Lib.hid hb1
  have HT1 := Lib.hid hT1
  clear hb1 hT1
  go_wp2_with fail
  refine (HB.out _ HB1.out).mono ?_
  rintro e w2 ⟨a2, c2, rfl, hb2, hT2⟩
  have HB2 := Lib.hid (th HB1.out (Nat.le_refl _) hb2)
  have HTA := Lib.hid (HT1.out.below hb2 (Nat.le_refl _))
  have HTB := Lib.hid hT2
  clear hb2 hT2 HT1
  go_wp2_with fail
  refine (HAW.out _ HB2.out).mono ?_
  rintro e wz ⟨rfl, hbz⟩
  go_wp2
  go_ret
  exact ⟨rfl, hbz⟩
set_option maxHeartbeats 4000000 in
set_option maxRecDepth 20000 in
theorem tparts_nb (a b : Option Addr) (la ca lb cb : Nat) (l1 l2 : List UInt8) (w : World) (hm : LayT w) (hza : Byt w a la ca (ints l1)) (hzb : Byt w b lb cb (ints l2)) (hbA : ¬ 300 < la) (hbB : ¬ 300 < lb) {ts : List Tok} (hne : ts ≠ []) (h1 : allT l1 = .ok ts) (h2 : allT l2 = .ok []) :
    Calls Tryz.prog 6 #[.slice a la ca, .slice b lb cb] w fun e w' => e = .returned (.bool true) ∧ Below w.heap.size w w' := by
  have hlimA := hza.lim
  have hlimB := hzb.lim
  have hnA : decide ((300 : Int) < la) = false := by simp; omega
  have hnB : decide ((300 : Int) < lb) = false := by simp; omega
  have HAW : Hid (∀ W, Below w.heap.size w W → Calls Tryz.prog 8 #[] W fun e w' => e = .returned (.bool true) ∧ Below w.heap.size w w') := Lib.hid (fun W hb => (awake3_any W (hm.below hb hm.size)).mono (fun e w' r => ⟨r.1, th hb (Nat.le_refl _) r.2⟩))
  have HA : Hid (∀ W, Below w.heap.size w W → Calls Tryz.prog 9 #[.slice a la ca] W fun e w' => ∃ a1 c1, e = .returned (.tuple #[.slice a1 ts.length c1, .int .i64 0, .int .i64 0]) ∧ Below W.heap.size W w' ∧ TokAt w' (.slice a1 ts.length c1) ts) := Lib.hid (fun W hb => tall_ok a la ca l1 W (hm.below hb hm.size) (hza.below hb (Nat.le_refl _)) h1)
  have HB : Hid (∀ W, Below w.heap.size w W → Calls Tryz.prog 9 #[.slice b lb cb] W fun e w' => ∃ a1 c1, e = .returned (.tuple #[.slice a1 0 c1, .int .i64 0, .int .i64 0]) ∧ Below W.heap.size W w' ∧ TokAt w' (.slice a1 0 c1) []) := Lib.hid (fun W hb => tall_ok b lb cb l2 W (hm.below hb hm.size) (hzb.below hb (Nat.le_refl _)) h2)
  have hn0 : ((ts.length : Int) == 0) = false := by rw [beq_eq_false_iff_ne]; intro e; exact hne (List.eq_nil_of_length_eq_zero (by omega))
  clear hm hza hzb h1 h2 hbA hbB hne
  go_enter Tryz.func6, Tryz.ntmps6
  go_wp2_with fail
  refine (HA.out _ (Below.refl _ _)).mono ?_
  rintro e w1 ⟨a1, c1, rfl, hb1, hT1⟩
  have HB1 := Lib.hid hb1
  have HT1 := Lib.hid hT1
  clear hb1 hT1
  go_wp2_with fail
  refine (HB.out _ HB1.out).mono ?_
  rintro e w2 ⟨a2, c2, rfl, hb2, hT2⟩
  have HB2 := Lib.hid (th HB1.out (Nat.le_refl _) hb2)
  have HTA := Lib.hid (HT1.out.below hb2 (Nat.le_refl _))
  have HTB := Lib.hid hT2
  clear hb2 hT2 HT1
  go_wp2_with fail
  refine (HAW.out _ HB2.out).mono ?_
  rintro e wz ⟨rfl, hbz⟩
  go_wp2
  go_ret
  exact ⟨rfl, hbz⟩
set_option maxHeartbeats 4000000 in
set_option maxRecDepth 20000 in
theorem tparts_d (a b : Option Addr) (la ca lb cb : Nat) (l1 l2 : List UInt8) (w : World) (hm : LayT w) (hza : Byt w a la ca (ints l1)) (hzb : Byt w b lb cb (ints l2)) (hbA : ¬ 300 < la) (hbB : ¬ 300 < lb) {ts us : List Tok} {t u : Tok} {k1 n1 n2 : Nat} (hn1 : ts.length = n1) (hn2 : us.length = n2) (hk1 : n1 = k1 + 1) (hm1 : 0 < n2) (hlast : ts.getLast? = some t) (hhead : us.head? = some u) (h1 : allT l1 = .ok ts) (h2 : allT l2 = .ok us) (hd : u.kind = 1) :
    Calls Tryz.prog 6 #[.slice a la ca, .slice b lb cb] w fun e w' => e = .returned (.bool true) ∧ Below w.heap.size w w' := by
  have hlimA := hza.lim
  have hlimB := hzb.lim
  have hnA : decide ((300 : Int) < la) = false := by simp; omega
  have hnB : decide ((300 : Int) < lb) = false := by simp; omega
  have HAW : Hid (∀ W, Below w.heap.size w W → Calls Tryz.prog 8 #[] W fun e w' => e = .returned (.bool true) ∧ Below w.heap.size w w') := Lib.hid (fun W hb => (awake3_any W (hm.below hb hm.size)).mono (fun e w' r => ⟨r.1, th hb (Nat.le_refl _) r.2⟩))
  have HA : Hid (∀ W, Below w.heap.size w W → Calls Tryz.prog 9 #[.slice a la ca] W fun e w' => ∃ a1 c1, e = .returned (.tuple #[.slice a1 ts.length c1, .int .i64 0, .int .i64 0]) ∧ Below W.heap.size W w' ∧ TokAt w' (.slice a1 ts.length c1) ts) := Lib.hid (fun W hb => tall_ok a la ca l1 W (hm.below hb hm.size) (hza.below hb (Nat.le_refl _)) h1)
  have HB : Hid (∀ W, Below w.heap.size w W → Calls Tryz.prog 9 #[.slice b lb cb] W fun e w' => ∃ a1 c1, e = .returned (.tuple #[.slice a1 us.length c1, .int .i64 0, .int .i64 0]) ∧ Below W.heap.size W w' ∧ TokAt w' (.slice a1 us.length c1) us) := Lib.hid (fun W hb => tall_ok b lb cb l2 W (hm.below hb hm.size) (hzb.below hb (Nat.le_refl _)) h2)
  rw [hn1] at HA
  rw [hn2] at HB
  have hllA : l1.length = la := by rw [← ints_len]; exact hza.eqLen
  have hllB : l2.length = lb := by rw [← ints_len]; exact hzb.eqLen
  have hn0 : ((n1 : Int) == 0) = false := by rw [beq_eq_false_iff_ne]; omega
  have hm0 : ((n2 : Int) == 0) = false := by rw [beq_eq_false_iff_ne]; omega
  have hsh : n1 ≤ 300 := by rw [← hn1]; exact all_len h1 (by omega)
  have hsb : n2 ≤ 300 := by rw [← hn2]; exact all_len h2 (by omega)
  have hx1 : (n1 : Int) - 1 = (k1 : Int) := by omega
  have hx2 : IntKind.i64.wrap ((n1 : Int) - 1) = (k1 : Int) := by rw [hx1]; exact wrap_small _ (by omega) (by omega)
  have hx3 : (k1 : Int) < (n1 : Int) := by omega
  have hx4 : (0 : Int) ≤ (k1 : Int) := by omega
  have hx5 : (0 : Int) < (n2 : Int) := by omega
  have hd1 : (u.kind == 1) = true := by rw [hd]; rfl
  clear hd
  have HK1 := Lib.hid hk1
  clear hm hza hzb h1 h2 hbA hbB hllA hllB hk1
  go_enter Tryz.func6, Tryz.ntmps6
  go_wp2_with fail
  refine (HA.out _ (Below.refl _ _)).mono ?_
  rintro e w1 ⟨a1, c1, rfl, hb1, hT1⟩
  have HB1 := Lib.hid hb1
  have HT1 := Lib.hid hT1
  clear hb1 hT1
  go_wp2_with fail
  refine (HB.out _ HB1.out).mono ?_
  rintro e w2 ⟨a2, c2, rfl, hb2, hT2⟩
  have HB2 := Lib.hid (th HB1.out (Nat.le_refl _) hb2)
  have HTA := Lib.hid (HT1.out.below hb2 (Nat.le_refl _))
  have HTB := Lib.hid hT2
  clear hb2 hT2 HT1
  obtain ⟨g2, o2, hag2, hc2⟩ := tok_first hn2 hhead HTB.out
  obtain ⟨g1, o1, hag1, hc1⟩ := tok_last hn1 HK1.out hlast HTA.out
  subst hag1 hag2
  clear hlast hhead hn1 hn2
  generalize u.kind = ku at *
  generalize t.kind = kt at *
  go_wp2_with fail
  refine (HAW.out _ HB2.out).mono ?_
  rintro e wz ⟨rfl, hbz⟩
  go_wp2
  go_ret
  exact ⟨rfl, hbz⟩
set_option maxHeartbeats 4000000 in
set_option maxRecDepth 20000 in
theorem tparts_x (a b : Option Addr) (la ca lb cb : Nat) (l1 l2 : List UInt8) (w : World) (hm : LayT w) (hza : Byt w a la ca (ints l1)) (hzb : Byt w b lb cb (ints l2)) (hbA : ¬ 300 < la) (hbB : ¬ 300 < lb) {ts us : List Tok} {t u : Tok} {k1 n1 n2 : Nat} (hn1 : ts.length = n1) (hn2 : us.length = n2) (hk1 : n1 = k1 + 1) (hm1 : 0 < n2) (hlast : ts.getLast? = some t) (hhead : us.head? = some u) (h1 : allT l1 = .ok ts) (h2 : allT l2 = .ok us) (hd : ¬ u.kind = 1) (hx : t.kind = 4) :
    Calls Tryz.prog 6 #[.slice a la ca, .slice b lb cb] w fun e w' => e = .returned (.bool true) ∧ Below w.heap.size w w' := by
  have hlimA := hza.lim
  have hlimB := hzb.lim
  have hnA : decide ((300 : Int) < la) = false := by simp; omega
  have hnB : decide ((300 : Int) < lb) = false := by simp; omega
  have HAW : Hid (∀ W, Below w.heap.size w W → Calls Tryz.prog 8 #[] W fun e w' => e = .returned (.bool true) ∧ Below w.heap.size w w') := Lib.hid (fun W hb => (awake3_any W (hm.below hb hm.size)).mono (fun e w' r => ⟨r.1, th hb (Nat.le_refl _) r.2⟩))
  have HA : Hid (∀ W, Below w.heap.size w W → Calls Tryz.prog 9 #[.slice a la ca] W fun e w' => ∃ a1 c1, e = .returned (.tuple #[.slice a1 ts.length c1, .int .i64 0, .int .i64 0]) ∧ Below W.heap.size W w' ∧ TokAt w' (.slice a1 ts.length c1) ts) := Lib.hid (fun W hb => tall_ok a la ca l1 W (hm.below hb hm.size) (hza.below hb (Nat.le_refl _)) h1)
  have HB : Hid (∀ W, Below w.heap.size w W → Calls Tryz.prog 9 #[.slice b lb cb] W fun e w' => ∃ a1 c1, e = .returned (.tuple #[.slice a1 us.length c1, .int .i64 0, .int .i64 0]) ∧ Below W.heap.size W w' ∧ TokAt w' (.slice a1 us.length c1) us) := Lib.hid (fun W hb => tall_ok b lb cb l2 W (hm.below hb hm.size) (hzb.below hb (Nat.le_refl _)) h2)
  rw [hn1] at HA
  rw [hn2] at HB
  have hllA : l1.length = la := by rw [← ints_len]; exact hza.eqLen
  have hllB : l2.length = lb := by rw [← ints_len]; exact hzb.eqLen
  have hn0 : ((n1 : Int) == 0) = false := by rw [beq_eq_false_iff_ne]; omega
  have hm0 : ((n2 : Int) == 0) = false := by rw [beq_eq_false_iff_ne]; omega
  have hsh : n1 ≤ 300 := by rw [← hn1]; exact all_len h1 (by omega)
  have hsb : n2 ≤ 300 := by rw [← hn2]; exact all_len h2 (by omega)
  have hx1 : (n1 : Int) - 1 = (k1 : Int) := by omega
  have hx2 : IntKind.i64.wrap ((n1 : Int) - 1) = (k1 : Int) := by rw [hx1]; exact wrap_small _ (by omega) (by omega)
  have hx3 : (k1 : Int) < (n1 : Int) := by omega
  have hx4 : (0 : Int) ≤ (k1 : Int) := by omega
  have hx5 : (0 : Int) < (n2 : Int) := by omega
  have hd1 : (u.kind == 1) = false := by rw [beq_eq_false_iff_ne]; exact hd
  have hd2 : (t.kind == 4) = true := by rw [hx]; rfl
  clear hd hx
  have HK1 := Lib.hid hk1
  clear hm hza hzb h1 h2 hbA hbB hllA hllB hk1
  go_enter Tryz.func6, Tryz.ntmps6
  go_wp2_with fail
  refine (HA.out _ (Below.refl _ _)).mono ?_
  rintro e w1 ⟨a1, c1, rfl, hb1, hT1⟩
  have HB1 := Lib.hid hb1
  have HT1 := Lib.hid hT1
  clear hb1 hT1
  go_wp2_with fail
  refine (HB.out _ HB1.out).mono ?_
  rintro e w2 ⟨a2, c2, rfl, hb2, hT2⟩
  have HB2 := Lib.hid (th HB1.out (Nat.le_refl _) hb2)
  have HTA := Lib.hid (HT1.out.below hb2 (Nat.le_refl _))
  have HTB := Lib.hid hT2
  clear hb2 hT2 HT1
  obtain ⟨g2, o2, hag2, hc2⟩ := tok_first hn2 hhead HTB.out
  obtain ⟨g1, o1, hag1, hc1⟩ := tok_last hn1 HK1.out hlast HTA.out
  subst hag1 hag2
  clear hlast hhead hn1 hn2
  generalize u.kind = ku at *
  generalize t.kind = kt at *
  go_wp2_with fail
  refine (HAW.out _ HB2.out).mono ?_
  rintro e wz ⟨rfl, hbz⟩
  go_wp2
  go_ret
  exact ⟨rfl, hbz⟩
set_option maxHeartbeats 4000000 in
set_option maxRecDepth 20000 in
theorem tparts_y (a b : Option Addr) (la ca lb cb : Nat) (l1 l2 : List UInt8) (w : World) (hm : LayT w) (hza : Byt w a la ca (ints l1)) (hzb : Byt w b lb cb (ints l2)) (hbA : ¬ 300 < la) (hbB : ¬ 300 < lb) {ts us : List Tok} {t u : Tok} {k1 n1 n2 : Nat} (hn1 : ts.length = n1) (hn2 : us.length = n2) (hk1 : n1 = k1 + 1) (hm1 : 0 < n2) (hlast : ts.getLast? = some t) (hhead : us.head? = some u) (h1 : allT l1 = .ok ts) (h2 : allT l2 = .ok us) (hd : ¬ u.kind = 1) (hx : ¬ t.kind = 4) (hy : u.kind = 4) :
    Calls Tryz.prog 6 #[.slice a la ca, .slice b lb cb] w fun e w' => e = .returned (.bool true) ∧ Below w.heap.size w w' := by
  have hlimA := hza.lim
  have hlimB := hzb.lim
  have hnA : decide ((300 : Int) < la) = false := by simp; omega
  have hnB : decide ((300 : Int) < lb) = false := by simp; omega
  have HAW : Hid (∀ W, Below w.heap.size w W → Calls Tryz.prog 8 #[] W fun e w' => e = .returned (.bool true) ∧ Below w.heap.size w w') := Lib.hid (fun W hb => (awake3_any W (hm.below hb hm.size)).mono (fun e w' r => ⟨r.1, th hb (Nat.le_refl _) r.2⟩))
  have HA : Hid (∀ W, Below w.heap.size w W → Calls Tryz.prog 9 #[.slice a la ca] W fun e w' => ∃ a1 c1, e = .returned (.tuple #[.slice a1 ts.length c1, .int .i64 0, .int .i64 0]) ∧ Below W.heap.size W w' ∧ TokAt w' (.slice a1 ts.length c1) ts) := Lib.hid (fun W hb => tall_ok a la ca l1 W (hm.below hb hm.size) (hza.below hb (Nat.le_refl _)) h1)
  have HB : Hid (∀ W, Below w.heap.size w W → Calls Tryz.prog 9 #[.slice b lb cb] W fun e w' => ∃ a1 c1, e = .returned (.tuple #[.slice a1 us.length c1, .int .i64 0, .int .i64 0]) ∧ Below W.heap.size W w' ∧ TokAt w' (.slice a1 us.length c1) us) := Lib.hid (fun W hb => tall_ok b lb cb l2 W (hm.below hb hm.size) (hzb.below hb (Nat.le_refl _)) h2)
  rw [hn1] at HA
  rw [hn2] at HB
  have hllA : l1.length = la := by rw [← ints_len]; exact hza.eqLen
  have hllB : l2.length = lb := by rw [← ints_len]; exact hzb.eqLen
  have hn0 : ((n1 : Int) == 0) = false := by rw [beq_eq_false_iff_ne]; omega
  have hm0 : ((n2 : Int) == 0) = false := by rw [beq_eq_false_iff_ne]; omega
  have hsh : n1 ≤ 300 := by rw [← hn1]; exact all_len h1 (by omega)
  have hsb : n2 ≤ 300 := by rw [← hn2]; exact all_len h2 (by omega)
  have hx1 : (n1 : Int) - 1 = (k1 : Int) := by omega
  have hx2 : IntKind.i64.wrap ((n1 : Int) - 1) = (k1 : Int) := by rw [hx1]; exact wrap_small _ (by omega) (by omega)
  have hx3 : (k1 : Int) < (n1 : Int) := by omega
  have hx4 : (0 : Int) ≤ (k1 : Int) := by omega
  have hx5 : (0 : Int) < (n2 : Int) := by omega
  have hd1 : (u.kind == 1) = false := by rw [beq_eq_false_iff_ne]; exact hd
  have hd2 : (t.kind == 4) = false := by rw [beq_eq_false_iff_ne]; exact hx
  have hd3 : (u.kind == 4) = true := by rw [hy]; rfl
  clear hd hx hy
  have HK1 := Lib.hid hk1
  clear hm hza hzb h1 h2 hbA hbB hllA hllB hk1
  go_enter Tryz.func6, Tryz.ntmps6
  go_wp2_with fail
  refine (HA.out _ (Below.refl _ _)).mono ?_
  rintro e w1 ⟨a1, c1, rfl, hb1, hT1⟩
  have HB1 := Lib.hid hb1
  have HT1 := Lib.hid hT1
  clear hb1 hT1
  go_wp2_with fail
  refine (HB.out _ HB1.out).mono ?_
  rintro e w2 ⟨a2, c2, rfl, hb2, hT2⟩
  have HB2 := Lib.hid (th HB1.out (Nat.le_refl _) hb2)
  have HTA := Lib.hid (HT1.out.below hb2 (Nat.le_refl _))
  have HTB := Lib.hid hT2
  clear hb2 hT2 HT1
  obtain ⟨g2, o2, hag2, hc2⟩ := tok_first hn2 hhead HTB.out
  obtain ⟨g1, o1, hag1, hc1⟩ := tok_last hn1 HK1.out hlast HTA.out
  subst hag1 hag2
  clear hlast hhead hn1 hn2
  generalize u.kind = ku at *
  generalize t.kind = kt at *
  go_wp2_with fail
  refine (HAW.out _ HB2.out).mono ?_
  rintro e wz ⟨rfl, hbz⟩
  go_wp2
  go_ret
  exact ⟨rfl, hbz⟩
set_option maxHeartbeats 4000000 in
set_option maxRecDepth 20000 in
theorem tparts_main (a b : Option Addr) (la ca lb cb : Nat) (l1 l2 : List UInt8) (w : World) (hm : LayT w) (hza : Byt w a la ca (ints l1)) (hzb : Byt w b lb cb (ints l2)) (hbA : ¬ 300 < la) (hbB : ¬ 300 < lb) {ts us : List Tok} {t u : Tok} {k1 n1 n2 : Nat} (hn1 : ts.length = n1) (hn2 : us.length = n2) (hk1 : n1 = k1 + 1) (hm1 : 0 < n2) (hlast : ts.getLast? = some t) (hhead : us.head? = some u) (h1 : allT l1 = .ok ts) (h2 : allT l2 = .ok us) {n3 : Nat} (hn3 : (ts ++ us).length = n3) (h3 : allT (l1 ++ l2) = .ok (ts ++ us)) (hd : ¬ u.kind = 1) (hx : ¬ t.kind = 4) (hy : ¬ u.kind = 4) (hfw : ∀ t ∈ ts ++ us, t.attrs.length ≤ 100000) :
    Calls Tryz.prog 6 #[.slice a la ca, .slice b lb cb] w fun e w' => e = .returned (.bool true) ∧ Below w.heap.size w w' := by
  have hlimA := hza.lim
  have hlimB := hzb.lim
  have hnA : decide ((300 : Int) < la) = false := by simp; omega
  have hnB : decide ((300 : Int) < lb) = false := by simp; omega
  have HAW : Hid (∀ W, Below w.heap.size w W → Calls Tryz.prog 8 #[] W fun e w' => e = .returned (.bool true) ∧ Below w.heap.size w w') := Lib.hid (fun W hb => (awake3_any W (hm.below hb hm.size)).mono (fun e w' r => ⟨r.1, th hb (Nat.le_refl _) r.2⟩))
  have HA : Hid (∀ W, Below w.heap.size w W → Calls Tryz.prog 9 #[.slice a la ca] W fun e w' => ∃ a1 c1, e = .returned (.tuple #[.slice a1 ts.length c1, .int .i64 0, .int .i64 0]) ∧ Below W.heap.size W w' ∧ TokAt w' (.slice a1 ts.length c1) ts) := Lib.hid (fun W hb => tall_ok a la ca l1 W (hm.below hb hm.size) (hza.below hb (Nat.le_refl _)) h1)
  have HB : Hid (∀ W, Below w.heap.size w W → Calls Tryz.prog 9 #[.slice b lb cb] W fun e w' => ∃ a1 c1, e = .returned (.tuple #[.slice a1 us.length c1, .int .i64 0, .int .i64 0]) ∧ Below W.heap.size W w' ∧ TokAt w' (.slice a1 us.length c1) us) := Lib.hid (fun W hb => tall_ok b lb cb l2 W (hm.below hb hm.size) (hzb.below hb (Nat.le_refl _)) h2)
  rw [hn1] at HA
  rw [hn2] at HB
  have HN : Hid (∀ W a5 n5 c5, Below w.heap.size w W → Byt W a5 n5 c5 (ints (l1 ++ l2)) → Calls Tryz.prog 9 #[.slice a5 n5 c5] W fun e w' => ∃ a1 c1, e = .returned (.tuple #[.slice a1 (ts ++ us).length c1, .int .i64 0, .int .i64 0]) ∧ Below W.heap.size W w' ∧ TokAt w' (.slice a1 (ts ++ us).length c1) (ts ++ us)) := Lib.hid (fun W a5 n5 c5 hb hz5 => tall_ok a5 n5 c5 _ W (hm.below hb hm.size) hz5 h3)
  rw [hn3] at HN
  have hllA : l1.length = la := by rw [← ints_len]; exact hza.eqLen
  have hllB : l2.length = lb := by rw [← ints_len]; exact hzb.eqLen
  have hn0 : ((n1 : Int) == 0) = false := by rw [beq_eq_false_iff_ne]; omega
  have hm0 : ((n2 : Int) == 0) = false := by rw [beq_eq_false_iff_ne]; omega
  have hsh : n1 ≤ 300 := by rw [← hn1]; exact all_len h1 (by omega)
  have hsb : n2 ≤ 300 := by rw [← hn2]; exact all_len h2 (by omega)
  have hx1 : (n1 : Int) - 1 = (k1 : Int) := by omega
  have hx2 : IntKind.i64.wrap ((n1 : Int) - 1) = (k1 : Int) := by rw [hx1]; exact wrap_small _ (by omega) (by omega)
  have hx3 : (k1 : Int) < (n1 : Int) := by omega
  have hx4 : (0 : Int) ≤ (k1 : Int) := by omega
  have hx5 : (0 : Int) < (n2 : Int) := by omega
  have hd1 : (u.kind == 1) = false := by rw [beq_eq_false_iff_ne]; exact hd
  have hd2 : (t.kind == 4) = false := by rw [beq_eq_false_iff_ne]; exact hx
  have hd3 : (u.kind == 4) = false := by rw [beq_eq_false_iff_ne]; exact hy
  have hsum : n1 + n2 = n3 := by rw [← hn3, List.length_append, hn1, hn2]
  have hs1 : (n1 : Int) + (n2 : Int) = (n3 : Int) := by omega
  have hs2 : IntKind.i64.wrap ((n1 : Int) + (n2 : Int)) = (n3 : Int) := by rw [hs1]; exact wrap_small _ (by omega) (by omega)
  have hla0 : 0 < la := by rw [← hllA]; exact allT_pos h1 (by rintro rfl; simp at hn1; omega)
  have hlb0 : 0 < lb := by rw [← hllB]; exact allT_pos h2 (by rintro rfl; simp at hn2; omega)
  obtain ⟨ba, oa, rfl⟩ := byt_addr hza hla0
  obtain ⟨bb, ob, rfl⟩ := byt_addr hzb hlb0
  have hla3 : la ≤ 300 := by omega
  have hlb3 : lb ≤ 300 := by omega
  have HLA := Lib.hid hllA
  have HLB := Lib.hid hllB
  have HNA : Hid (∀ W, Below w.heap.size w W → ∀ j u, (Lib.byteCells l1)[j]? = some u → W.cell? ((⟨ba, oa, none⟩ : Addr).add j) = some u) := Lib.hid (fun W hb => byt_news (hza.below hb (Nat.le_refl _)))
  have HNB : Hid (∀ W, Below w.heap.size w W → ∀ j u, (Lib.byteCells l2)[j]? = some u → W.cell? ((⟨bb, ob, none⟩ : Addr).add j) = some u) := Lib.hid (fun W hb => byt_news (hzb.below hb (Nat.le_refl _)))
  have HFW := Lib.hid hfw
  have HK1 := Lib.hid hk1
  have HN1 := Lib.hid hn1
  have HN2 := Lib.hid hn2
  have HN3 := Lib.hid hn3
  obtain ⟨i0, hi, hz0, hz1, hz2⟩ := info_parts info5
  clear hd hx hy hm hza hzb h1 h2 h3 hbA hbB hllA hllB hk1 hfw hn3
  go_enter Tryz.func6, Tryz.ntmps6
  go_wp2_with fail
  refine (HA.out _ (Below.refl _ _)).mono ?_
  rintro e w1 ⟨a1, c1, rfl, hb1, hT1⟩
  have HB1 := Lib.hid hb1
  have HT1 := Lib.hid hT1
  clear hb1 hT1
  go_wp2_with fail
  refine (HB.out _ HB1.out).mono ?_
  rintro e w2 ⟨a2, c2, rfl, hb2, hT2⟩
  have HB2 := Lib.hid (th HB1.out (Nat.le_refl _) hb2)
  have HTA := Lib.hid (HT1.out.below hb2 (Nat.le_refl _))
  have HTB := Lib.hid hT2
  clear hb2 hT2 HT1
  obtain ⟨g2, o2, hag2, hc2⟩ := tok_first hn2 hhead HTB.out
  obtain ⟨g1, o1, hag1, hc1⟩ := tok_last hn1 HK1.out hlast HTA.out
  subst hag1 hag2
  clear hlast hhead hn1 hn2
  generalize u.kind = ku at *
  generalize t.kind = kt at *
  go_wp2_with (first | (at_builtin; refine wpList_append_own _ rfl _ _ 22 rfl w2.heap.size 5 i0 (.int .u8 0) 1 1 Tryz.underlying22 hi hz0 hz1 hz2 rfl (by decide) _ 0 [] rfl (World.ownsRow_nil _ _ _ _) ⟨ba, oa, none⟩ la ca (Lib.byteCells l1) rfl (by rw [Lib.byteCells_length, HLA.out, Nat.mul_one]) (HNA.out _ HB2.out) (one_cells _) (by unfold maxLen; omega) (by omega) (Nat.le_refl _) ?_; intro v3 w3 hown3 hgrow3 _; rw [Nat.zero_add, List.nil_append] at hown3; have HO3 := Lib.hid hown3; have HS3 : Hid (Below w2.heap.size w2 w3) := Lib.hid ((Below.refl _ w2).grown hgrow3 (Nat.le_refl _) (fun k e => by cases e)); clear hown3 hgrow3) | (at_builtin; refine wpList_append_own _ rfl _ _ 22 rfl w2.heap.size 5 i0 (.int .u8 0) 1 1 Tryz.underlying22 hi hz0 hz1 hz2 rfl (by decide) _ la (Lib.byteCells l1) rfl HO3.out ⟨bb, ob, none⟩ lb cb (Lib.byteCells l2) rfl (by rw [Lib.byteCells_length, HLB.out, Nat.mul_one]) (HNB.out _ (th HB2.out (Nat.le_refl _) HS3.out)) (one_cells _) (by unfold maxLen; omega) (by omega) HS3.out.size ?_; intro v4 w4 hown4 hgrow4 _))
  have HS4 : Hid (Below w2.heap.size w2 w4) := Lib.hid (HS3.out.grown hgrow4 HS3.out.size (fun k e => (HO3.out.lt k e).1))
  rw [← Lib.byteCells_append] at hown4
  obtain ⟨a5, c5, hv5⟩ := own_slice hown4
  subst hv5
  have HBY4 := Lib.hid (own_byt hown4 (by omega))
  have HB4 := Lib.hid (th HB2.out (Nat.le_refl _) HS4.out)
  have HTA4 := Lib.hid (HTA.out.below HS4.out (Nat.le_refl _))
  have HTB4 := Lib.hid (HTB.out.below HS4.out (Nat.le_refl _))
  clear hown4 hgrow4 HO3 HS3 HS4 HTA HTB hc1 hc2 HA HB HNA HNB
  go_wp2_with fail
  refine (HN.out _ _ _ _ HB4.out HBY4.out).mono ?_
  rintro e w5 ⟨a3, c3, rfl, hb5, hT3⟩
  have HB5 := Lib.hid (th HB4.out (Nat.le_refl _) hb5)
  obtain ⟨G1, O1, hag1, hc1⟩ := tok_get HN1.out (HTA4.out.below hb5 (Nat.le_refl _))
  obtain ⟨G2, O2, hag2, hc2⟩ := tok_get HN2.out (HTB4.out.below hb5 (Nat.le_refl _))
  obtain ⟨g3, o3, hag3, hc3⟩ := tok_get HN3.out hT3
  have hag1 := hag1 (by omega)
  injection hag1 with hag1
  injection hag1 with e1 e2 _
  subst e1 e2
  have hag2 := hag2 (by omega)
  injection hag2 with hag2
  injection hag2 with e1 e2 _
  subst e1 e2
  obtain rfl := hag3 (by omega)
  have HC1 := Lib.hid hc1
  have HC2 := Lib.hid hc2
  have HC3 := Lib.hid hc3
  clear hb5 hT3 hag3 hc1 hc2 hc3 HTA4 HTB4 HBY4 HN
  go_wp2_with fail
  go_loopw [15] (fun i wr => ∃ k : Nat, k ≤ n3 ∧ i = .int .i64 k ∧ Hid (Below w5.heap.size w5 wr)) (fun i _ => n3 - (intOf i).toNat)
  case atStart => exact ⟨0, by omega, rfl, Lib.hid (Below.refl _ _)⟩
  case round =>
    obtain ⟨k, hk, rfl, HB⟩ := hrel
    by_cases hlt : k < n3
    · by_cases hlt1 : k < n1
      · obtain ⟨t, HT⟩ : ∃ t, ts[k]? = some t := ⟨_, List.getElem?_eq_getElem (by rw [HN1.out]; omega)⟩
        have HT3 : (ts ++ us)[k]? = some t := (by rw [List.getElem?_append_left (by rw [HN1.out]; omega)]; exact HT)
        obtain ⟨x1, y1, p0, p1, p2, p3, p4, hp⟩ := HC3.out k t HT3
        obtain ⟨x2, y2, q0, q1, q2, q3, q4, hq⟩ := HC1.out k t HT
        have hfk := HFW.out t (List.mem_of_getElem? HT3)
        clear HT HT3
        have hi0 : (0 : Int) ≤ k := by omega
        have hi1 : (k : Int) < n3 := by omega
        have hk4 : (k : Int) < (n1 : Int) := by omega
        have hk5 : decide ((n1 : Int) ≤ (k : Int)) = false := by simp; omega
        have hk6 : decide (n1 ≤ k) = false := by simp; omega
        have HKEEP : Hid (∀ W, Below w5.heap.size w5 W → W.cell? ⟨g3, o3 + k * 5, none⟩ = some (.int .i64 t.kind) ∧ W.cell? ⟨g3, o3 + k * 5 + 1, none⟩ = some (.string ⟨t.name.toArray⟩) ∧ W.cell? ⟨g3, o3 + k * 5 + 2, none⟩ = some (.string ⟨t.text.toArray⟩) ∧ W.cell? ⟨g3, o3 + k * 5 + 3, none⟩ = some (.slice x1 t.attrs.length y1) ∧ W.cell? ⟨g3, o3 + k * 5 + 4, none⟩ = some (.bool t.empty) ∧ W.cell? ⟨g1, o1 + k * 5, none⟩ = some (.int .i64 t.kind) ∧ W.cell? ⟨g1, o1 + k * 5 + 1, none⟩ = some (.string ⟨t.name.toArray⟩) ∧ W.cell? ⟨g1, o1 + k * 5 + 2, none⟩ = some (.string ⟨t.text.toArray⟩) ∧ W.cell? ⟨g1, o1 + k * 5 + 3, none⟩ = some (.slice x2 t.attrs.length y2) ∧ W.cell? ⟨g1, o1 + k * 5 + 4, none⟩ = some (.bool t.empty) ∧ Hid (Below w5.heap.size w5 W)) := Lib.hid (fun W hb => by
          have up : ∀ {p : Addr} {u : Value}, w5.cell? p = some u → W.cell? p = some u := fun h => (hb.cell (block_lt_of_cell h)).trans h
          exact ⟨up p0, up p1, up p2, up p3, up p4, up q0, up q1, up q2, up q3, up q4, Lib.hid hb⟩)
        have HPL : Hid (∀ x y W, Below w5.heap.size w5 W → Calls Tryz.prog 14 #[.agg #[.int .i64 t.kind, .string ⟨t.name.toArray⟩, .string ⟨t.text.toArray⟩, .slice x t.attrs.length y, .bool t.empty]] W fun e w' => e = .returned (.agg #[.int .i64 t.kind, .string ⟨t.name.toArray⟩, .string ⟨t.text.toArray⟩, .slice x t.attrs.length y, .bool t.empty]) ∧ Below w5.heap.size w5 w') := Lib.hid (fun x y W hb => (plain_any _ _ _ x _ y _ W).mono (fun e w' r => ⟨r.1, th hb (Nat.le_refl _) r.2⟩))
        have HSM : Hid (∀ W, Below w5.heap.size w5 W → Calls Tryz.prog 13 #[.agg #[.int .i64 t.kind, .string ⟨t.name.toArray⟩, .string ⟨t.text.toArray⟩, .slice x1 t.attrs.length y1, .bool t.empty], .agg #[.int .i64 t.kind, .string ⟨t.name.toArray⟩, .string ⟨t.text.toArray⟩, .slice x2 t.attrs.length y2, .bool t.empty]] W fun e w' => e = .returned (.bool true) ∧ Below w5.heap.size w5 w') := Lib.hid (fun W hb => (same_any t t (.slice x1 t.attrs.length y1) (.slice x2 t.attrs.length y2) W (hp.below hb (Nat.le_refl _)) (hq.below hb (Nat.le_refl _)) hfk).mono (fun e w' r => ⟨by rw [r.1, same_self], th hb (Nat.le_refl _) r.2⟩))
        obtain ⟨p0, p1, p2, p3, p4, q0, q1, q2, q3, q4, _⟩ := HKEEP.out _ HB.out
        clear hp hq hfk
        go_wp2_with fail
        refine wp_region_held_drew (S := (fun W => W.cell? ⟨g3, o3 + k * 5, none⟩ = some (.int .i64 t.kind) ∧ W.cell? ⟨g3, o3 + k * 5 + 1, none⟩ = some (.string ⟨t.name.toArray⟩) ∧ W.cell? ⟨g3, o3 + k * 5 + 2, none⟩ = some (.string ⟨t.text.toArray⟩) ∧ W.cell? ⟨g3, o3 + k * 5 + 3, none⟩ = some (.slice x1 t.attrs.length y1) ∧ W.cell? ⟨g3, o3 + k * 5 + 4, none⟩ = some (.bool t.empty) ∧ W.cell? ⟨g1, o1 + k * 5, none⟩ = some (.int .i64 t.kind) ∧ W.cell? ⟨g1, o1 + k * 5 + 1, none⟩ = some (.string ⟨t.name.toArray⟩) ∧ W.cell? ⟨g1, o1 + k * 5 + 2, none⟩ = some (.string ⟨t.text.toArray⟩) ∧ W.cell? ⟨g1, o1 + k * 5 + 3, none⟩ = some (.slice x2 t.attrs.length y2) ∧ W.cell? ⟨g1, o1 + k * 5 + 4, none⟩ = some (.bool t.empty) ∧ Hid (Below w5.heap.size w5 W))) (by kernel_rfl) ?_ (fun hHeld => ?_)
        · (try dsimp only)
          exact HKEEP.out _ HB.out.drew
        refine wpAnyH_take (i := 0) (oi := { dst := some 108, op := Op.move (Operand.tmp 15), type := 3, pos := "law.go:174", after := #[], guard := none }) (v := ?v1) rfl (by kernel_rfl) (by kernel_rfl) (by kernel_rfl) (fun _ _ _ h => h) (Or.inl ⟨by rfl, ?hy1⟩) (by assumption) ?rest1
        case hy1 => (intro w hSw; (try dsimp only at hSw); first | (go_simp; done) | (go_simp; with_reducible rfl))
        case rest1 =>
        try simp only [Act.put, List.setIfInBounds_toArray, List.set_cons_zero, List.set_cons_succ]
        refine wpAnyH_take (i := 1) (oi := { dst := some 109, op := Op.move (Operand.tmp 5), type := 24, pos := "law.go:174", after := #[], guard := none }) (v := ?v2) rfl (by kernel_rfl) (by kernel_rfl) (by kernel_rfl) (fun _ _ _ h => h) (Or.inl ⟨by rfl, ?hy2⟩) (by assumption) ?rest2
        case hy2 => (intro w hSw; (try dsimp only at hSw); first | (go_simp; done) | (go_simp; with_reducible rfl))
        case rest2 =>
        try simp only [Act.put, List.setIfInBounds_toArray, List.set_cons_zero, List.set_cons_succ]
        refine wpAnyH_take (i := 2) (oi := { dst := some 110, op := Op.call { callee := Callee.builtin Builtin.len, args := #[Operand.tmp 109], argTypes := #[24] }, type := 3, pos := "law.go:174", after := #[{ on := 1, ground := Ground.data }], guard := none }) (v := ?v3) rfl (by kernel_rfl) (by kernel_rfl) (by kernel_rfl) (fun _ _ _ h => h) (Or.inl ⟨by rfl, ?hy3⟩) (by assumption) ?rest3
        case hy3 => (intro w hSw; (try dsimp only at hSw); first | (go_simp; done) | (go_simp; with_reducible rfl))
        case rest3 =>
        try simp only [Act.put, List.setIfInBounds_toArray, List.set_cons_zero, List.set_cons_succ]
        refine wpAnyH_take (i := 3) (oi := { dst := some 111, op := Op.binOp BinOp.lss 3 (Operand.tmp 108) (Operand.tmp 110) 3, type := 4, pos := "law.go:174", after := #[{ on := 0, ground := Ground.data }, { on := 2, ground := Ground.data }], guard := none }) (v := ?v4) rfl (by kernel_rfl) (by kernel_rfl) (by kernel_rfl) (fun _ _ _ h => h) (Or.inl ⟨by rfl, ?hy4⟩) (by assumption) ?rest4
        case hy4 => (intro w hSw; (try dsimp only at hSw); first | (go_simp; done) | (go_simp; with_reducible rfl))
        case rest4 =>
        try simp only [Act.put, List.setIfInBounds_toArray, List.set_cons_zero, List.set_cons_succ]
        refine wpAnyH_take (i := 4) (oi := { dst := some 112, op := Op.move (Operand.tmp 111), type := 4, pos := "law.go:174", after := #[{ on := 3, ground := Ground.data }], guard := none }) (v := ?v5) rfl (by kernel_rfl) (by kernel_rfl) (by kernel_rfl) (fun _ _ _ h => h) (Or.inl ⟨by rfl, ?hy5⟩) (by assumption) ?rest5
        case hy5 => (intro w hSw; (try dsimp only at hSw); first | (go_simp; done) | (go_simp; with_reducible rfl))
        case rest5 =>
        try simp only [Act.put, List.setIfInBounds_toArray, List.set_cons_zero, List.set_cons_succ]
        refine wpAnyH_take (i := 5) (oi := { dst := some 113, op := Op.move (Operand.tmp 12), type := 24, pos := "law.go:174", after := #[{ on := 4, ground := Ground.guard }], guard := some (4, true) }) (v := ?v6) rfl (by kernel_rfl) (by kernel_rfl) (by kernel_rfl) (fun _ _ _ h => h) (Or.inl ⟨by rfl, ?hy6⟩) (by assumption) ?rest6
        case hy6 => (intro w hSw; (try dsimp only at hSw); first | (go_simp; done) | (go_simp; with_reducible rfl))
        case rest6 =>
        try simp only [Act.put, List.setIfInBounds_toArray, List.set_cons_zero, List.set_cons_succ]
        refine wpAnyH_take (i := 6) (oi := { dst := some 114, op := Op.move (Operand.tmp 15), type := 3, pos := "law.go:174", after := #[{ on := 4, ground := Ground.guard }], guard := some (4, true) }) (v := ?v7) rfl (by kernel_rfl) (by kernel_rfl) (by kernel_rfl) (fun _ _ _ h => h) (Or.inl ⟨by rfl, ?hy7⟩) (by assumption) ?rest7
        case hy7 => (intro w hSw; (try dsimp only at hSw); first | (go_simp; done) | (go_simp; with_reducible rfl))
        case rest7 =>
        try simp only [Act.put, List.setIfInBounds_toArray, List.set_cons_zero, List.set_cons_succ]
        refine wpAnyH_take (i := 7) (oi := { dst := some 115, op := Op.indexAddr 24 (Operand.tmp 113) (Operand.tmp 114), type := 0, pos := "law.go:174", after := #[{ on := 5, ground := Ground.data }, { on := 6, ground := Ground.data }, { on := 4, ground := Ground.guard }], guard := some (4, true) }) (v := ?v8) rfl (by kernel_rfl) (by kernel_rfl) (by kernel_rfl) (fun _ _ _ h => h) (Or.inl ⟨by rfl, ?hy8⟩) (by assumption) ?rest8
        case hy8 => (intro w hSw; (try dsimp only at hSw); first | (go_simp; done) | (go_simp; with_reducible rfl))
        case rest8 =>
        try simp only [Act.put, List.setIfInBounds_toArray, List.set_cons_zero, List.set_cons_succ]
        refine wpAnyH_take (i := 8) (oi := { dst := some 116, op := Op.load 40 (Operand.tmp 115), type := 40, pos := "law.go:174", after := #[{ on := 7, ground := Ground.data }, { on := 4, ground := Ground.guard }], guard := some (4, true) }) (v := ?v9) rfl (by kernel_rfl) (by kernel_rfl) (by kernel_rfl) (fun _ _ _ h => h) (Or.inl ⟨by rfl, ?hy9⟩) (by assumption) ?rest9
        case hy9 => (intro w hSw; (try dsimp only at hSw); first | (go_simp; done) | (go_simp; with_reducible rfl))
        case rest9 =>
        try simp only [Act.put, List.setIfInBounds_toArray, List.set_cons_zero, List.set_cons_succ]
        refine wpAnyH_take (i := 10) (oi := { dst := some 118, op := Op.move (Operand.tmp 5), type := 24, pos := "law.go:174", after := #[{ on := 4, ground := Ground.guard }], guard := some (4, true) }) (v := ?v10) rfl (by kernel_rfl) (by kernel_rfl) (by kernel_rfl) (fun _ _ _ h => h) (Or.inl ⟨by rfl, ?hy10⟩) (by assumption) ?rest10
        case hy10 => (intro w hSw; (try dsimp only at hSw); first | (go_simp; done) | (go_simp; with_reducible rfl))
        case rest10 =>
        try simp only [Act.put, List.setIfInBounds_toArray, List.set_cons_zero, List.set_cons_succ]
        refine wpAnyH_take (i := 11) (oi := { dst := some 119, op := Op.move (Operand.tmp 15), type := 3, pos := "law.go:174", after := #[{ on := 4, ground := Ground.guard }], guard := some (4, true) }) (v := ?v11) rfl (by kernel_rfl) (by kernel_rfl) (by kernel_rfl) (fun _ _ _ h => h) (Or.inl ⟨by rfl, ?hy11⟩) (by assumption) ?rest11
        case hy11 => (intro w hSw; (try dsimp only at hSw); first | (go_simp; done) | (go_simp; with_reducible rfl))
        case rest11 =>
        try simp only [Act.put, List.setIfInBounds_toArray, List.set_cons_zero, List.set_cons_succ]
        refine wpAnyH_take (i := 12) (oi := { dst := some 120, op := Op.indexAddr 24 (Operand.tmp 118) (Operand.tmp 119), type := 0, pos := "law.go:174", after := #[{ on := 10, ground := Ground.data }, { on := 11, ground := Ground.data }, { on := 4, ground := Ground.guard }], guard := some (4, true) }) (v := ?v12) rfl (by kernel_rfl) (by kernel_rfl) (by kernel_rfl) (fun _ _ _ h => h) (Or.inl ⟨by rfl, ?hy12⟩) (by assumption) ?rest12
        case hy12 => (intro w hSw; (try dsimp only at hSw); first | (go_simp; done) | (go_simp; with_reducible rfl))
        case rest12 =>
        try simp only [Act.put, List.setIfInBounds_toArray, List.set_cons_zero, List.set_cons_succ]
        refine wpAnyH_take (i := 13) (oi := { dst := some 121, op := Op.load 40 (Operand.tmp 120), type := 40, pos := "law.go:174", after := #[{ on := 12, ground := Ground.data }, { on := 4, ground := Ground.guard }], guard := some (4, true) }) (v := ?v13) rfl (by kernel_rfl) (by kernel_rfl) (by kernel_rfl) (fun _ _ _ h => h) (Or.inl ⟨by rfl, ?hy13⟩) (by assumption) ?rest13
        case hy13 => (intro w hSw; (try dsimp only at hSw); first | (go_simp; done) | (go_simp; with_reducible rfl))
        case rest13 =>
        try simp only [Act.put, List.setIfInBounds_toArray, List.set_cons_zero, List.set_cons_succ]
        refine wpAnyH_ready (rs := [9]) (by kernel_rfl) (by simp) ?_
        refine AllReadyH.cons (o := { dst := some 117, op := Op.call { callee := Callee.value (Operand.func 14), args := #[Operand.tmp 116], argTypes := #[40] }, type := 38, pos := "law.go:174", after := #[{ on := 8, ground := Ground.data }, { on := 4, ground := Ground.chain }, { on := 4, ground := Ground.guard }], guard := some (4, true) }) rfl (fun K hK => ?_) AllReadyH.nil
        go_simp
        refine (HPL.out _ _ _ hHeld.2.2.2.2.2.2.2.2.2.2.out).mono ?_; rintro e w6 ⟨rfl, hM5⟩
        go_wp2_with fail
        refine hK.out _ _ ?_ (fun hHeld => ?_)
        · (try dsimp only)
          exact HKEEP.out _ hM5
        clear hK K
        try simp only [Act.put, List.setIfInBounds_toArray, List.set_cons_zero, List.set_cons_succ]
        refine wpAnyH_ready (rs := [14]) (by kernel_rfl) (by simp) ?_
        refine AllReadyH.cons (o := { dst := some 122, op := Op.call { callee := Callee.value (Operand.func 14), args := #[Operand.tmp 121], argTypes := #[40] }, type := 38, pos := "law.go:174", after := #[{ on := 13, ground := Ground.data }, { on := 9, ground := Ground.chain }, { on := 4, ground := Ground.guard }], guard := some (4, true) }) rfl (fun K hK => ?_) AllReadyH.nil
        go_simp
        refine (HPL.out _ _ _ hHeld.2.2.2.2.2.2.2.2.2.2.out).mono ?_; rintro e w6 ⟨rfl, hM5⟩
        go_wp2_with fail
        refine hK.out _ _ ?_ (fun hHeld => ?_)
        · (try dsimp only)
          exact HKEEP.out _ hM5
        clear hK K
        try simp only [Act.put, List.setIfInBounds_toArray, List.set_cons_zero, List.set_cons_succ]
        refine wpAnyH_ready (rs := [15]) (by kernel_rfl) (by simp) ?_
        refine AllReadyH.cons (o := { dst := some 123, op := Op.call { callee := Callee.value (Operand.func 13), args := #[Operand.tmp 117, Operand.tmp 122], argTypes := #[38, 38] }, type := 4, pos := "law.go:174", after := #[{ on := 9, ground := Ground.data }, { on := 14, ground := Ground.data }, { on := 14, ground := Ground.chain }, { on := 4, ground := Ground.guard }], guard := some (4, true) }) rfl (fun K hK => ?_) AllReadyH.nil
        go_simp
        refine (HSM.out _ hHeld.2.2.2.2.2.2.2.2.2.2.out).mono ?_; rintro e w6 ⟨rfl, hM5⟩
        go_wp2_with fail
        refine hK.out _ _ ?_ (fun hHeld => ?_)
        · (try dsimp only)
          exact HKEEP.out _ hM5
        clear hK K
        try simp only [Act.put, List.setIfInBounds_toArray, List.set_cons_zero, List.set_cons_succ]
        refine wpAnyH_take (i := 16) (oi := { dst := some 124, op := Op.unOp UnOp.not 4 (Operand.tmp 123), type := 4, pos := "law.go:174", after := #[{ on := 15, ground := Ground.data }, { on := 4, ground := Ground.guard }], guard := some (4, true) }) (v := ?v14) rfl (by kernel_rfl) (by kernel_rfl) (by kernel_rfl) (fun _ _ _ h => h) (Or.inl ⟨by rfl, ?hy14⟩) (by assumption) ?rest14
        case hy14 => (intro w hSw; (try dsimp only at hSw); first | (go_simp; done) | (go_simp; with_reducible rfl))
        case rest14 =>
        try simp only [Act.put, List.setIfInBounds_toArray, List.set_cons_zero, List.set_cons_succ]
        refine wpAnyH_take (i := 17) (oi := { dst := some 125, op := Op.pick (Operand.tmp 112) (Operand.tmp 124) (Operand.const (Value.bool false)), type := 4, pos := "law.go:174", after := #[{ on := 4, ground := Ground.data }, { on := 16, ground := Ground.data }], guard := none }) (v := ?v15) rfl (by kernel_rfl) (by kernel_rfl) (by kernel_rfl) (fun _ _ _ h => h) (Or.inl ⟨by rfl, ?hy15⟩) (by assumption) ?rest15
        case hy15 => (intro w hSw; (try dsimp only at hSw); first | (go_simp; done) | (go_simp; with_reducible rfl))
        case rest15 =>
        try simp only [Act.put, List.setIfInBounds_toArray, List.set_cons_zero, List.set_cons_succ]
        refine wpAnyH_take (i := 18) (oi := { dst := some 126, op := Op.move (Operand.tmp 125), type := 4, pos := "law.go:174", after := #[{ on := 17, ground := Ground.data }, { on := 15, ground := Ground.chain }], guard := none }) (v := ?v16) rfl (by kernel_rfl) (by kernel_rfl) (by kernel_rfl) (fun _ _ _ h => h) (Or.inl ⟨by rfl, ?hy16⟩) (by assumption) ?rest16
        case hy16 => (intro w hSw; (try dsimp only at hSw); first | (go_simp; done) | (go_simp; with_reducible rfl))
        case rest16 =>
        try simp only [Act.put, List.setIfInBounds_toArray, List.set_cons_zero, List.set_cons_succ]
        refine wpAnyH_take (i := 19) (oi := { dst := some 127, op := Op.move (Operand.tmp 15), type := 3, pos := "law.go:174", after := #[{ on := 18, ground := Ground.guard }], guard := some (18, false) }) (v := ?v17) rfl (by kernel_rfl) (by kernel_rfl) (by kernel_rfl) (fun _ _ _ h => h) (Or.inl ⟨by rfl, ?hy17⟩) (by assumption) ?rest17
        case hy17 => (intro w hSw; (try dsimp only at hSw); first | (go_simp; done) | (go_simp; with_reducible rfl))
        case rest17 =>
        try simp only [Act.put, List.setIfInBounds_toArray, List.set_cons_zero, List.set_cons_succ]
        refine wpAnyH_take (i := 20) (oi := { dst := some 128, op := Op.move (Operand.tmp 5), type := 24, pos := "law.go:174", after := #[{ on := 18, ground := Ground.guard }], guard := some (18, false) }) (v := ?v18) rfl (by kernel_rfl) (by kernel_rfl) (by kernel_rfl) (fun _ _ _ h => h) (Or.inl ⟨by rfl, ?hy18⟩) (by assumption) ?rest18
        case hy18 => (intro w hSw; (try dsimp only at hSw); first | (go_simp; done) | (go_simp; with_reducible rfl))
        case rest18 =>
        try simp only [Act.put, List.setIfInBounds_toArray, List.set_cons_zero, List.set_cons_succ]
        refine wpAnyH_take (i := 21) (oi := { dst := some 129, op := Op.call { callee := Callee.builtin Builtin.len, args := #[Operand.tmp 128], argTypes := #[24] }, type := 3, pos := "law.go:174", after := #[{ on := 20, ground := Ground.data }, { on := 18, ground := Ground.guard }], guard := some (18, false) }) (v := ?v19) rfl (by kernel_rfl) (by kernel_rfl) (by kernel_rfl) (fun _ _ _ h => h) (Or.inl ⟨by rfl, ?hy19⟩) (by assumption) ?rest19
        case hy19 => (intro w hSw; (try dsimp only at hSw); first | (go_simp; done) | (go_simp; with_reducible rfl))
        case rest19 =>
        try simp only [Act.put, List.setIfInBounds_toArray, List.set_cons_zero, List.set_cons_succ]
        refine wpAnyH_take (i := 22) (oi := { dst := some 130, op := Op.binOp BinOp.geq 3 (Operand.tmp 127) (Operand.tmp 129) 3, type := 4, pos := "law.go:174", after := #[{ on := 19, ground := Ground.data }, { on := 21, ground := Ground.data }, { on := 18, ground := Ground.guard }], guard := some (18, false) }) (v := ?v20) rfl (by kernel_rfl) (by kernel_rfl) (by kernel_rfl) (fun _ _ _ h => h) (Or.inl ⟨by rfl, ?hy20⟩) (by assumption) ?rest20
        case hy20 => (intro w hSw; (try dsimp only at hSw); first | (go_simp; done) | (go_simp; with_reducible rfl))
        case rest20 =>
        try simp only [Act.put, List.setIfInBounds_toArray, List.set_cons_zero, List.set_cons_succ]
        refine wpAnyH_take (i := 23) (oi := { dst := some 131, op := Op.move (Operand.tmp 130), type := 4, pos := "law.go:174", after := #[{ on := 22, ground := Ground.data }, { on := 18, ground := Ground.chain }, { on := 18, ground := Ground.guard }], guard := some (18, false) }) (v := ?v21) rfl (by kernel_rfl) (by kernel_rfl) (by kernel_rfl) (fun _ _ _ h => h) (Or.inl ⟨by rfl, ?hy21⟩) (by assumption) ?rest21
        case hy21 => (intro w hSw; (try dsimp only at hSw); first | (go_simp; done) | (go_simp; with_reducible rfl))
        case rest21 =>
        try simp only [Act.put, List.setIfInBounds_toArray, List.set_cons_zero, List.set_cons_succ]
        refine wpAnyH_take (i := 24) (oi := { dst := some 132, op := Op.move (Operand.tmp 12), type := 24, pos := "law.go:174", after := #[{ on := 23, ground := Ground.guard }], guard := some (23, true) }) (v := undef) rfl (by kernel_rfl) (by kernel_rfl) (by kernel_rfl) (fun _ _ _ h => h) (Or.inr ⟨by rfl, rfl⟩) (by assumption) ?_
        try simp only [Act.put, List.setIfInBounds_toArray, List.set_cons_zero, List.set_cons_succ]
        refine wpAnyH_take (i := 25) (oi := { dst := some 133, op := Op.move (Operand.tmp 15), type := 3, pos := "law.go:174", after := #[{ on := 23, ground := Ground.guard }], guard := some (23, true) }) (v := undef) rfl (by kernel_rfl) (by kernel_rfl) (by kernel_rfl) (fun _ _ _ h => h) (Or.inr ⟨by rfl, rfl⟩) (by assumption) ?_
        try simp only [Act.put, List.setIfInBounds_toArray, List.set_cons_zero, List.set_cons_succ]
        refine wpAnyH_take (i := 26) (oi := { dst := some 134, op := Op.indexAddr 24 (Operand.tmp 132) (Operand.tmp 133), type := 0, pos := "law.go:174", after := #[{ on := 24, ground := Ground.data }, { on := 25, ground := Ground.data }, { on := 23, ground := Ground.guard }], guard := some (23, true) }) (v := undef) rfl (by kernel_rfl) (by kernel_rfl) (by kernel_rfl) (fun _ _ _ h => h) (Or.inr ⟨by rfl, rfl⟩) (by assumption) ?_
        try simp only [Act.put, List.setIfInBounds_toArray, List.set_cons_zero, List.set_cons_succ]
        refine wpAnyH_take (i := 27) (oi := { dst := some 135, op := Op.load 40 (Operand.tmp 134), type := 40, pos := "law.go:174", after := #[{ on := 26, ground := Ground.data }, { on := 23, ground := Ground.guard }], guard := some (23, true) }) (v := undef) rfl (by kernel_rfl) (by kernel_rfl) (by kernel_rfl) (fun _ _ _ h => h) (Or.inr ⟨by rfl, rfl⟩) (by assumption) ?_
        try simp only [Act.put, List.setIfInBounds_toArray, List.set_cons_zero, List.set_cons_succ]
        refine wpAnyH_take (i := 28) (oi := { dst := some 136, op := Op.call { callee := Callee.value (Operand.func 14), args := #[Operand.tmp 135], argTypes := #[40] }, type := 38, pos := "law.go:174", after := #[{ on := 27, ground := Ground.data }, { on := 23, ground := Ground.chain }, { on := 23, ground := Ground.guard }], guard := some (23, true) }) (v := undef) rfl (by kernel_rfl) (by kernel_rfl) (by kernel_rfl) (fun _ _ _ h => h) (Or.inr ⟨by rfl, rfl⟩) (by assumption) ?_
        try simp only [Act.put, List.setIfInBounds_toArray, List.set_cons_zero, List.set_cons_succ]
        refine wpAnyH_take (i := 29) (oi := { dst := some 137, op := Op.move (Operand.tmp 8), type := 24, pos := "law.go:174", after := #[{ on := 23, ground := Ground.guard }], guard := some (23, true) }) (v := undef) rfl (by kernel_rfl) (by kernel_rfl) (by kernel_rfl) (fun _ _ _ h => h) (Or.inr ⟨by rfl, rfl⟩) (by assumption) ?_
        try simp only [Act.put, List.setIfInBounds_toArray, List.set_cons_zero, List.set_cons_succ]
        refine wpAnyH_take (i := 30) (oi := { dst := some 138, op := Op.move (Operand.tmp 15), type := 3, pos := "law.go:174", after := #[{ on := 23, ground := Ground.guard }], guard := some (23, true) }) (v := undef) rfl (by kernel_rfl) (by kernel_rfl) (by kernel_rfl) (fun _ _ _ h => h) (Or.inr ⟨by rfl, rfl⟩) (by assumption) ?_
        try simp only [Act.put, List.setIfInBounds_toArray, List.set_cons_zero, List.set_cons_succ]
        refine wpAnyH_take (i := 31) (oi := { dst := some 139, op := Op.move (Operand.tmp 5), type := 24, pos := "law.go:174", after := #[{ on := 23, ground := Ground.guard }], guard := some (23, true) }) (v := undef) rfl (by kernel_rfl) (by kernel_rfl) (by kernel_rfl) (fun _ _ _ h => h) (Or.inr ⟨by rfl, rfl⟩) (by assumption) ?_
        try simp only [Act.put, List.setIfInBounds_toArray, List.set_cons_zero, List.set_cons_succ]
        refine wpAnyH_take (i := 32) (oi := { dst := some 140, op := Op.call { callee := Callee.builtin Builtin.len, args := #[Operand.tmp 139], argTypes := #[24] }, type := 3, pos := "law.go:174", after := #[{ on := 31, ground := Ground.data }, { on := 23, ground := Ground.guard }], guard := some (23, true) }) (v := undef) rfl (by kernel_rfl) (by kernel_rfl) (by kernel_rfl) (fun _ _ _ h => h) (Or.inr ⟨by rfl, rfl⟩) (by assumption) ?_
        try simp only [Act.put, List.setIfInBounds_toArray, List.set_cons_zero, List.set_cons_succ]
        refine wpAnyH_take (i := 33) (oi := { dst := some 141, op := Op.binOp BinOp.sub 3 (Operand.tmp 138) (Operand.tmp 140) 3, type := 3, pos := "law.go:174", after := #[{ on := 30, ground := Ground.data }, { on := 32, ground := Ground.data }, { on := 23, ground := Ground.guard }], guard := some (23, true) }) (v := undef) rfl (by kernel_rfl) (by kernel_rfl) (by kernel_rfl) (fun _ _ _ h => h) (Or.inr ⟨by rfl, rfl⟩) (by assumption) ?_
        try simp only [Act.put, List.setIfInBounds_toArray, List.set_cons_zero, List.set_cons_succ]
        refine wpAnyH_take (i := 34) (oi := { dst := some 142, op := Op.indexAddr 24 (Operand.tmp 137) (Operand.tmp 141), type := 0, pos := "law.go:174", after := #[{ on := 29, ground := Ground.data }, { on := 33, ground := Ground.data }, { on := 23, ground := Ground.guard }], guard := some (23, true) }) (v := undef) rfl (by kernel_rfl) (by kernel_rfl) (by kernel_rfl) (fun _ _ _ h => h) (Or.inr ⟨by rfl, rfl⟩) (by assumption) ?_
        try simp only [Act.put, List.setIfInBounds_toArray, List.set_cons_zero, List.set_cons_succ]
        refine wpAnyH_take (i := 35) (oi := { dst := some 143, op := Op.load 40 (Operand.tmp 142), type := 40, pos := "law.go:174", after := #[{ on := 34, ground := Ground.data }, { on := 23, ground := Ground.guard }], guard := some (23, true) }) (v := undef) rfl (by kernel_rfl) (by kernel_rfl) (by kernel_rfl) (fun _ _ _ h => h) (Or.inr ⟨by rfl, rfl⟩) (by assumption) ?_
        try simp only [Act.put, List.setIfInBounds_toArray, List.set_cons_zero, List.set_cons_succ]
        refine wpAnyH_take (i := 36) (oi := { dst := some 144, op := Op.call { callee := Callee.value (Operand.func 14), args := #[Operand.tmp 143], argTypes := #[40] }, type := 38, pos := "law.go:174", after := #[{ on := 35, ground := Ground.data }, { on := 28, ground := Ground.chain }, { on := 23, ground := Ground.guard }], guard := some (23, true) }) (v := undef) rfl (by kernel_rfl) (by kernel_rfl) (by kernel_rfl) (fun _ _ _ h => h) (Or.inr ⟨by rfl, rfl⟩) (by assumption) ?_
        try simp only [Act.put, List.setIfInBounds_toArray, List.set_cons_zero, List.set_cons_succ]
        refine wpAnyH_take (i := 37) (oi := { dst := some 145, op := Op.call { callee := Callee.value (Operand.func 13), args := #[Operand.tmp 136, Operand.tmp 144], argTypes := #[38, 38] }, type := 4, pos := "law.go:174", after := #[{ on := 28, ground := Ground.data }, { on := 36, ground := Ground.data }, { on := 36, ground := Ground.chain }, { on := 23, ground := Ground.guard }], guard := some (23, true) }) (v := undef) rfl (by kernel_rfl) (by kernel_rfl) (by kernel_rfl) (fun _ _ _ h => h) (Or.inr ⟨by rfl, rfl⟩) (by assumption) ?_
        try simp only [Act.put, List.setIfInBounds_toArray, List.set_cons_zero, List.set_cons_succ]
        refine wpAnyH_take (i := 38) (oi := { dst := some 146, op := Op.unOp UnOp.not 4 (Operand.tmp 145), type := 4, pos := "law.go:174", after := #[{ on := 37, ground := Ground.data }, { on := 23, ground := Ground.guard }], guard := some (23, true) }) (v := undef) rfl (by kernel_rfl) (by kernel_rfl) (by kernel_rfl) (fun _ _ _ h => h) (Or.inr ⟨by rfl, rfl⟩) (by assumption) ?_
        try simp only [Act.put, List.setIfInBounds_toArray, List.set_cons_zero, List.set_cons_succ]
        refine wpAnyH_take (i := 39) (oi := { dst := some 147, op := Op.pick (Operand.tmp 131) (Operand.tmp 146) (Operand.const (Value.bool false)), type := 4, pos := "law.go:174", after := #[{ on := 23, ground := Ground.data }, { on := 38, ground := Ground.data }, { on := 18, ground := Ground.guard }], guard := some (18, false) }) (v := ?v22) rfl (by kernel_rfl) (by kernel_rfl) (by kernel_rfl) (fun _ _ _ h => h) (Or.inl ⟨by rfl, ?hy22⟩) (by assumption) ?rest22
        case hy22 => (intro w hSw; (try dsimp only at hSw); first | (go_simp; done) | (go_simp; with_reducible rfl))
        case rest22 =>
        try simp only [Act.put, List.setIfInBounds_toArray, List.set_cons_zero, List.set_cons_succ]
        refine wpAnyH_take (i := 40) (oi := { dst := some 148, op := Op.pick (Operand.tmp 126) (Operand.const (Value.bool true)) (Operand.tmp 147), type := 4, pos := "law.go:174", after := #[{ on := 18, ground := Ground.data }, { on := 39, ground := Ground.data }], guard := none }) (v := ?v23) rfl (by kernel_rfl) (by kernel_rfl) (by kernel_rfl) (fun _ _ _ h => h) (Or.inl ⟨by rfl, ?hy23⟩) (by assumption) ?rest23
        case hy23 => (intro w hSw; (try dsimp only at hSw); first | (go_simp; done) | (go_simp; with_reducible rfl))
        case rest23 =>
        try simp only [Act.put, List.setIfInBounds_toArray, List.set_cons_zero, List.set_cons_succ]
        refine wpAnyH_done (by kernel_rfl) ?_ _
        clear p0 p1 p2 p3 p4 q0 q1 q2 q3 q4
        have HBN := Lib.hid hHeld.2.2.2.2.2.2.2.2.2.2.out
        go_wp2
        exact ⟨⟨k + 1, by omega, by go_num, HBN⟩, by simp [intOf]; omega⟩
      · obtain ⟨j, hj⟩ : ∃ j, k = n1 + j := ⟨k - n1, by omega⟩
        obtain ⟨t, HT⟩ : ∃ t, us[j]? = some t := ⟨_, List.getElem?_eq_getElem (by rw [HN2.out]; omega)⟩
        have HT3 : (ts ++ us)[k]? = some t := (by rw [List.getElem?_append_right (by rw [HN1.out]; omega), HN1.out, show k - n1 = j by omega]; exact HT)
        obtain ⟨x1, y1, p0, p1, p2, p3, p4, hp⟩ := HC3.out k t HT3
        obtain ⟨x2, y2, q0, q1, q2, q3, q4, hq⟩ := HC2.out j t HT
        have hfk := HFW.out t (List.mem_of_getElem? HT3)
        clear HT HT3
        have hi0 : (0 : Int) ≤ k := by omega
        have hi1 : (k : Int) < n3 := by omega
        have hk4 : decide ((k : Int) < (n1 : Int)) = false := by simp; omega
        have hk4' : decide (k < n1) = false := by simp; omega
        have hk5 : (n1 : Int) ≤ (k : Int) := by omega
        have hk6 : (k : Int) - (n1 : Int) = (j : Int) := by omega
        have hk7 : IntKind.i64.wrap ((k : Int) - (n1 : Int)) = (j : Int) := by rw [hk6]; exact wrap_small _ (by omega) (by omega)
        have hk7' : IntKind.i64.wrap (j : Int) = (j : Int) := wrap_small _ (by omega) (by omega)
        have hk8 : (0 : Int) ≤ (j : Int) := by omega
        have hk9 : (j : Int) < (n2 : Int) := by omega
        clear hj
        have HKEEP : Hid (∀ W, Below w5.heap.size w5 W → W.cell? ⟨g3, o3 + k * 5, none⟩ = some (.int .i64 t.kind) ∧ W.cell? ⟨g3, o3 + k * 5 + 1, none⟩ = some (.string ⟨t.name.toArray⟩) ∧ W.cell? ⟨g3, o3 + k * 5 + 2, none⟩ = some (.string ⟨t.text.toArray⟩) ∧ W.cell? ⟨g3, o3 + k * 5 + 3, none⟩ = some (.slice x1 t.attrs.length y1) ∧ W.cell? ⟨g3, o3 + k * 5 + 4, none⟩ = some (.bool t.empty) ∧ W.cell? ⟨g2, o2 + j * 5, none⟩ = some (.int .i64 t.kind) ∧ W.cell? ⟨g2, o2 + j * 5 + 1, none⟩ = some (.string ⟨t.name.toArray⟩) ∧ W.cell? ⟨g2, o2 + j * 5 + 2, none⟩ = some (.string ⟨t.text.toArray⟩) ∧ W.cell? ⟨g2, o2 + j * 5 + 3, none⟩ = some (.slice x2 t.attrs.length y2) ∧ W.cell? ⟨g2, o2 + j * 5 + 4, none⟩ = some (.bool t.empty) ∧ Hid (Below w5.heap.size w5 W)) := Lib.hid (fun W hb => by
          have up : ∀ {p : Addr} {u : Value}, w5.cell? p = some u → W.cell? p = some u := fun h => (hb.cell (block_lt_of_cell h)).trans h
          exact ⟨up p0, up p1, up p2, up p3, up p4, up q0, up q1, up q2, up q3, up q4, Lib.hid hb⟩)
        have HPL : Hid (∀ x y W, Below w5.heap.size w5 W → Calls Tryz.prog 14 #[.agg #[.int .i64 t.kind, .string ⟨t.name.toArray⟩, .string ⟨t.text.toArray⟩, .slice x t.attrs.length y, .bool t.empty]] W fun e w' => e = .returned (.agg #[.int .i64 t.kind, .string ⟨t.name.toArray⟩, .string ⟨t.text.toArray⟩, .slice x t.attrs.length y, .bool t.empty]) ∧ Below w5.heap.size w5 w') := Lib.hid (fun x y W hb => (plain_any _ _ _ x _ y _ W).mono (fun e w' r => ⟨r.1, th hb (Nat.le_refl _) r.2⟩))
        have HSM : Hid (∀ W, Below w5.heap.size w5 W → Calls Tryz.prog 13 #[.agg #[.int .i64 t.kind, .string ⟨t.name.toArray⟩, .string ⟨t.text.toArray⟩, .slice x1 t.attrs.length y1, .bool t.empty], .agg #[.int .i64 t.kind, .string ⟨t.name.toArray⟩, .string ⟨t.text.toArray⟩, .slice x2 t.attrs.length y2, .bool t.empty]] W fun e w' => e = .returned (.bool true) ∧ Below w5.heap.size w5 w') := Lib.hid (fun W hb => (same_any t t (.slice x1 t.attrs.length y1) (.slice x2 t.attrs.length y2) W (hp.below hb (Nat.le_refl _)) (hq.below hb (Nat.le_refl _)) hfk).mono (fun e w' r => ⟨by rw [r.1, same_self], th hb (Nat.le_refl _) r.2⟩))
        obtain ⟨p0, p1, p2, p3, p4, q0, q1, q2, q3, q4, _⟩ := HKEEP.out _ HB.out
        clear hp hq hfk
        go_wp2_with fail
        refine wp_region_held_drew (S := (fun W => W.cell? ⟨g3, o3 + k * 5, none⟩ = some (.int .i64 t.kind) ∧ W.cell? ⟨g3, o3 + k * 5 + 1, none⟩ = some (.string ⟨t.name.toArray⟩) ∧ W.cell? ⟨g3, o3 + k * 5 + 2, none⟩ = some (.string ⟨t.text.toArray⟩) ∧ W.cell? ⟨g3, o3 + k * 5 + 3, none⟩ = some (.slice x1 t.attrs.length y1) ∧ W.cell? ⟨g3, o3 + k * 5 + 4, none⟩ = some (.bool t.empty) ∧ W.cell? ⟨g2, o2 + j * 5, none⟩ = some (.int .i64 t.kind) ∧ W.cell? ⟨g2, o2 + j * 5 + 1, none⟩ = some (.string ⟨t.name.toArray⟩) ∧ W.cell? ⟨g2, o2 + j * 5 + 2, none⟩ = some (.string ⟨t.text.toArray⟩) ∧ W.cell? ⟨g2, o2 + j * 5 + 3, none⟩ = some (.slice x2 t.attrs.length y2) ∧ W.cell? ⟨g2, o2 + j * 5 + 4, none⟩ = some (.bool t.empty) ∧ Hid (Below w5.heap.size w5 W))) (by kernel_rfl) ?_ (fun hHeld => ?_)
        · (try dsimp only)
          exact HKEEP.out _ HB.out.drew
        refine wpAnyH_take (i := 0) (oi := { dst := some 108, op := Op.move (Operand.tmp 15), type := 3, pos := "law.go:174", after := #[], guard := none }) (v := ?v24) rfl (by kernel_rfl) (by kernel_rfl) (by kernel_rfl) (fun _ _ _ h => h) (Or.inl ⟨by rfl, ?hy24⟩) (by assumption) ?rest24
        case hy24 => (intro w hSw; (try dsimp only at hSw); first | (go_simp; done) | (go_simp; with_reducible rfl))
        case rest24 =>
        try simp only [Act.put, List.setIfInBounds_toArray, List.set_cons_zero, List.set_cons_succ]
        refine wpAnyH_take (i := 1) (oi := { dst := some 109, op := Op.move (Operand.tmp 5), type := 24, pos := "law.go:174", after := #[], guard := none }) (v := ?v25) rfl (by kernel_rfl) (by kernel_rfl) (by kernel_rfl) (fun _ _ _ h => h) (Or.inl ⟨by rfl, ?hy25⟩) (by assumption) ?rest25
        case hy25 => (intro w hSw; (try dsimp only at hSw); first | (go_simp; done) | (go_simp; with_reducible rfl))
        case rest25 =>
        try simp only [Act.put, List.setIfInBounds_toArray, List.set_cons_zero, List.set_cons_succ]
        refine wpAnyH_take (i := 2) (oi := { dst := some 110, op := Op.call { callee := Callee.builtin Builtin.len, args := #[Operand.tmp 109], argTypes := #[24] }, type := 3, pos := "law.go:174", after := #[{ on := 1, ground := Ground.data }], guard := none }) (v := ?v26) rfl (by kernel_rfl) (by kernel_rfl) (by kernel_rfl) (fun _ _ _ h => h) (Or.inl ⟨by rfl, ?hy26⟩) (by assumption) ?rest26
        case hy26 => (intro w hSw; (try dsimp only at hSw); first | (go_simp; done) | (go_simp; with_reducible rfl))
        case rest26 =>
        try simp only [Act.put, List.setIfInBounds_toArray, List.set_cons_zero, List.set_cons_succ]
        refine wpAnyH_take (i := 3) (oi := { dst := some 111, op := Op.binOp BinOp.lss 3 (Operand.tmp 108) (Operand.tmp 110) 3, type := 4, pos := "law.go:174", after := #[{ on := 0, ground := Ground.data }, { on := 2, ground := Ground.data }], guard := none }) (v := ?v27) rfl (by kernel_rfl) (by kernel_rfl) (by kernel_rfl) (fun _ _ _ h => h) (Or.inl ⟨by rfl, ?hy27⟩) (by assumption) ?rest27
        case hy27 => (intro w hSw; (try dsimp only at hSw); first | (go_simp; done) | (go_simp; with_reducible rfl))
        case rest27 =>
        try simp only [Act.put, List.setIfInBounds_toArray, List.set_cons_zero, List.set_cons_succ]
        refine wpAnyH_take (i := 4) (oi := { dst := some 112, op := Op.move (Operand.tmp 111), type := 4, pos := "law.go:174", after := #[{ on := 3, ground := Ground.data }], guard := none }) (v := ?v28) rfl (by kernel_rfl) (by kernel_rfl) (by kernel_rfl) (fun _ _ _ h => h) (Or.inl ⟨by rfl, ?hy28⟩) (by assumption) ?rest28
        case hy28 => (intro w hSw; (try dsimp only at hSw); first | (go_simp; done) | (go_simp; with_reducible rfl))
        case rest28 =>
        try simp only [Act.put, List.setIfInBounds_toArray, List.set_cons_zero, List.set_cons_succ]
        refine wpAnyH_take (i := 5) (oi := { dst := some 113, op := Op.move (Operand.tmp 12), type := 24, pos := "law.go:174", after := #[{ on := 4, ground := Ground.guard }], guard := some (4, true) }) (v := undef) rfl (by kernel_rfl) (by kernel_rfl) (by kernel_rfl) (fun _ _ _ h => h) (Or.inr ⟨by rfl, rfl⟩) (by assumption) ?_
        try simp only [Act.put, List.setIfInBounds_toArray, List.set_cons_zero, List.set_cons_succ]
        refine wpAnyH_take (i := 6) (oi := { dst := some 114, op := Op.move (Operand.tmp 15), type := 3, pos := "law.go:174", after := #[{ on := 4, ground := Ground.guard }], guard := some (4, true) }) (v := undef) rfl (by kernel_rfl) (by kernel_rfl) (by kernel_rfl) (fun _ _ _ h => h) (Or.inr ⟨by rfl, rfl⟩) (by assumption) ?_
        try simp only [Act.put, List.setIfInBounds_toArray, List.set_cons_zero, List.set_cons_succ]
        refine wpAnyH_take (i := 7) (oi := { dst := some 115, op := Op.indexAddr 24 (Operand.tmp 113) (Operand.tmp 114), type := 0, pos := "law.go:174", after := #[{ on := 5, ground := Ground.data }, { on := 6, ground := Ground.data }, { on := 4, ground := Ground.guard }], guard := some (4, true) }) (v := undef) rfl (by kernel_rfl) (by kernel_rfl) (by kernel_rfl) (fun _ _ _ h => h) (Or.inr ⟨by rfl, rfl⟩) (by assumption) ?_
        try simp only [Act.put, List.setIfInBounds_toArray, List.set_cons_zero, List.set_cons_succ]
        refine wpAnyH_take (i := 8) (oi := { dst := some 116, op := Op.load 40 (Operand.tmp 115), type := 40, pos := "law.go:174", after := #[{ on := 7, ground := Ground.data }, { on := 4, ground := Ground.guard }], guard := some (4, true) }) (v := undef) rfl (by kernel_rfl) (by kernel_rfl) (by kernel_rfl) (fun _ _ _ h => h) (Or.inr ⟨by rfl, rfl⟩) (by assumption) ?_
        try simp only [Act.put, List.setIfInBounds_toArray, List.set_cons_zero, List.set_cons_succ]
        refine wpAnyH_take (i := 9) (oi := { dst := some 117, op := Op.call { callee := Callee.value (Operand.func 14), args := #[Operand.tmp 116], argTypes := #[40] }, type := 38, pos := "law.go:174", after := #[{ on := 8, ground := Ground.data }, { on := 4, ground := Ground.chain }, { on := 4, ground := Ground.guard }], guard := some (4, true) }) (v := undef) rfl (by kernel_rfl) (by kernel_rfl) (by kernel_rfl) (fun _ _ _ h => h) (Or.inr ⟨by rfl, rfl⟩) (by assumption) ?_
        try simp only [Act.put, List.setIfInBounds_toArray, List.set_cons_zero, List.set_cons_succ]
        refine wpAnyH_take (i := 10) (oi := { dst := some 118, op := Op.move (Operand.tmp 5), type := 24, pos := "law.go:174", after := #[{ on := 4, ground := Ground.guard }], guard := some (4, true) }) (v := undef) rfl (by kernel_rfl) (by kernel_rfl) (by kernel_rfl) (fun _ _ _ h => h) (Or.inr ⟨by rfl, rfl⟩) (by assumption) ?_
        try simp only [Act.put, List.setIfInBounds_toArray, List.set_cons_zero, List.set_cons_succ]
        refine wpAnyH_take (i := 11) (oi := { dst := some 119, op := Op.move (Operand.tmp 15), type := 3, pos := "law.go:174", after := #[{ on := 4, ground := Ground.guard }], guard := some (4, true) }) (v := undef) rfl (by kernel_rfl) (by kernel_rfl) (by kernel_rfl) (fun _ _ _ h => h) (Or.inr ⟨by rfl, rfl⟩) (by assumption) ?_
        try simp only [Act.put, List.setIfInBounds_toArray, List.set_cons_zero, List.set_cons_succ]
        refine wpAnyH_take (i := 12) (oi := { dst := some 120, op := Op.indexAddr 24 (Operand.tmp 118) (Operand.tmp 119), type := 0, pos := "law.go:174", after := #[{ on := 10, ground := Ground.data }, { on := 11, ground := Ground.data }, { on := 4, ground := Ground.guard }], guard := some (4, true) }) (v := undef) rfl (by kernel_rfl) (by kernel_rfl) (by kernel_rfl) (fun _ _ _ h => h) (Or.inr ⟨by rfl, rfl⟩) (by assumption) ?_
        try simp only [Act.put, List.setIfInBounds_toArray, List.set_cons_zero, List.set_cons_succ]
        refine wpAnyH_take (i := 13) (oi := { dst := some 121, op := Op.load 40 (Operand.tmp 120), type := 40, pos := "law.go:174", after := #[{ on := 12, ground := Ground.data }, { on := 4, ground := Ground.guard }], guard := some (4, true) }) (v := undef) rfl (by kernel_rfl) (by kernel_rfl) (by kernel_rfl) (fun _ _ _ h => h) (Or.inr ⟨by rfl, rfl⟩) (by assumption) ?_
        try simp only [Act.put, List.setIfInBounds_toArray, List.set_cons_zero, List.set_cons_succ]
        refine wpAnyH_take (i := 14) (oi := { dst := some 122, op := Op.call { callee := Callee.value (Operand.func 14), args := #[Operand.tmp 121], argTypes := #[40] }, type := 38, pos := "law.go:174", after := #[{ on := 13, ground := Ground.data }, { on := 9, ground := Ground.chain }, { on := 4, ground := Ground.guard }], guard := some (4, true) }) (v := undef) rfl (by kernel_rfl) (by kernel_rfl) (by kernel_rfl) (fun _ _ _ h => h) (Or.inr ⟨by rfl, rfl⟩) (by assumption) ?_
        try simp only [Act.put, List.setIfInBounds_toArray, List.set_cons_zero, List.set_cons_succ]
        refine wpAnyH_take (i := 15) (oi := { dst := some 123, op := Op.call { callee := Callee.value (Operand.func 13), args := #[Operand.tmp 117, Operand.tmp 122], argTypes := #[38, 38] }, type := 4, pos := "law.go:174", after := #[{ on := 9, ground := Ground.data }, { on := 14, ground := Ground.data }, { on := 14, ground := Ground.chain }, { on := 4, ground := Ground.guard }], guard := some (4, true) }) (v := undef) rfl (by kernel_rfl) (by kernel_rfl) (by kernel_rfl) (fun _ _ _ h => h) (Or.inr ⟨by rfl, rfl⟩) (by assumption) ?_
        try simp only [Act.put, List.setIfInBounds_toArray, List.set_cons_zero, List.set_cons_succ]
        refine wpAnyH_take (i := 16) (oi := { dst := some 124, op := Op.unOp UnOp.not 4 (Operand.tmp 123), type := 4, pos := "law.go:174", after := #[{ on := 15, ground := Ground.data }, { on := 4, ground := Ground.guard }], guard := some (4, true) }) (v := undef) rfl (by kernel_rfl) (by kernel_rfl) (by kernel_rfl) (fun _ _ _ h => h) (Or.inr ⟨by rfl, rfl⟩) (by assumption) ?_
        try simp only [Act.put, List.setIfInBounds_toArray, List.set_cons_zero, List.set_cons_succ]
        refine wpAnyH_take (i := 17) (oi := { dst := some 125, op := Op.pick (Operand.tmp 112) (Operand.tmp 124) (Operand.const (Value.bool false)), type := 4, pos := "law.go:174", after := #[{ on := 4, ground := Ground.data }, { on := 16, ground := Ground.data }], guard := none }) (v := ?v29) rfl (by kernel_rfl) (by kernel_rfl) (by kernel_rfl) (fun _ _ _ h => h) (Or.inl ⟨by rfl, ?hy29⟩) (by assumption) ?rest29
        case hy29 => (intro w hSw; (try dsimp only at hSw); first | (go_simp; done) | (go_simp; with_reducible rfl))
        case rest29 =>
        try simp only [Act.put, List.setIfInBounds_toArray, List.set_cons_zero, List.set_cons_succ]
        refine wpAnyH_take (i := 18) (oi := { dst := some 126, op := Op.move (Operand.tmp 125), type := 4, pos := "law.go:174", after := #[{ on := 17, ground := Ground.data }, { on := 15, ground := Ground.chain }], guard := none }) (v := ?v30) rfl (by kernel_rfl) (by kernel_rfl) (by kernel_rfl) (fun _ _ _ h => h) (Or.inl ⟨by rfl, ?hy30⟩) (by assumption) ?rest30
        case hy30 => (intro w hSw; (try dsimp only at hSw); first | (go_simp; done) | (go_simp; with_reducible rfl))
        case rest30 =>
        try simp only [Act.put, List.setIfInBounds_toArray, List.set_cons_zero, List.set_cons_succ]
        refine wpAnyH_take (i := 19) (oi := { dst := some 127, op := Op.move (Operand.tmp 15), type := 3, pos := "law.go:174", after := #[{ on := 18, ground := Ground.guard }], guard := some (18, false) }) (v := ?v31) rfl (by kernel_rfl) (by kernel_rfl) (by kernel_rfl) (fun _ _ _ h => h) (Or.inl ⟨by rfl, ?hy31⟩) (by assumption) ?rest31
        case hy31 => (intro w hSw; (try dsimp only at hSw); first | (go_simp; done) | (go_simp; with_reducible rfl))
        case rest31 =>
        try simp only [Act.put, List.setIfInBounds_toArray, List.set_cons_zero, List.set_cons_succ]
        refine wpAnyH_take (i := 20) (oi := { dst := some 128, op := Op.move (Operand.tmp 5), type := 24, pos := "law.go:174", after := #[{ on := 18, ground := Ground.guard }], guard := some (18, false) }) (v := ?v32) rfl (by kernel_rfl) (by kernel_rfl) (by kernel_rfl) (fun _ _ _ h => h) (Or.inl ⟨by rfl, ?hy32⟩) (by assumption) ?rest32
        case hy32 => (intro w hSw; (try dsimp only at hSw); first | (go_simp; done) | (go_simp; with_reducible rfl))
        case rest32 =>
        try simp only [Act.put, List.setIfInBounds_toArray, List.set_cons_zero, List.set_cons_succ]
        refine wpAnyH_take (i := 21) (oi := { dst := some 129, op := Op.call { callee := Callee.builtin Builtin.len, args := #[Operand.tmp 128], argTypes := #[24] }, type := 3, pos := "law.go:174", after := #[{ on := 20, ground := Ground.data }, { on := 18, ground := Ground.guard }], guard := some (18, false) }) (v := ?v33) rfl (by kernel_rfl) (by kernel_rfl) (by kernel_rfl) (fun _ _ _ h => h) (Or.inl ⟨by rfl, ?hy33⟩) (by assumption) ?rest33
        case hy33 => (intro w hSw; (try dsimp only at hSw); first | (go_simp; done) | (go_simp; with_reducible rfl))
        case rest33 =>
        try simp only [Act.put, List.setIfInBounds_toArray, List.set_cons_zero, List.set_cons_succ]
        refine wpAnyH_take (i := 22) (oi := { dst := some 130, op := Op.binOp BinOp.geq 3 (Operand.tmp 127) (Operand.tmp 129) 3, type := 4, pos := "law.go:174", after := #[{ on := 19, ground := Ground.data }, { on := 21, ground := Ground.data }, { on := 18, ground := Ground.guard }], guard := some (18, false) }) (v := ?v34) rfl (by kernel_rfl) (by kernel_rfl) (by kernel_rfl) (fun _ _ _ h => h) (Or.inl ⟨by rfl, ?hy34⟩) (by assumption) ?rest34
        case hy34 => (intro w hSw; (try dsimp only at hSw); first | (go_simp; done) | (go_simp; with_reducible rfl))
        case rest34 =>
        try simp only [Act.put, List.setIfInBounds_toArray, List.set_cons_zero, List.set_cons_succ]
        refine wpAnyH_take (i := 23) (oi := { dst := some 131, op := Op.move (Operand.tmp 130), type := 4, pos := "law.go:174", after := #[{ on := 22, ground := Ground.data }, { on := 18, ground := Ground.chain }, { on := 18, ground := Ground.guard }], guard := some (18, false) }) (v := ?v35) rfl (by kernel_rfl) (by kernel_rfl) (by kernel_rfl) (fun _ _ _ h => h) (Or.inl ⟨by rfl, ?hy35⟩) (by assumption) ?rest35
        case hy35 => (intro w hSw; (try dsimp only at hSw); first | (go_simp; done) | (go_simp; with_reducible rfl))
        case rest35 =>
        try simp only [Act.put, List.setIfInBounds_toArray, List.set_cons_zero, List.set_cons_succ]
        refine wpAnyH_take (i := 24) (oi := { dst := some 132, op := Op.move (Operand.tmp 12), type := 24, pos := "law.go:174", after := #[{ on := 23, ground := Ground.guard }], guard := some (23, true) }) (v := ?v36) rfl (by kernel_rfl) (by kernel_rfl) (by kernel_rfl) (fun _ _ _ h => h) (Or.inl ⟨by rfl, ?hy36⟩) (by assumption) ?rest36
        case hy36 => (intro w hSw; (try dsimp only at hSw); first | (go_simp; done) | (go_simp; with_reducible rfl))
        case rest36 =>
        try simp only [Act.put, List.setIfInBounds_toArray, List.set_cons_zero, List.set_cons_succ]
        refine wpAnyH_take (i := 25) (oi := { dst := some 133, op := Op.move (Operand.tmp 15), type := 3, pos := "law.go:174", after := #[{ on := 23, ground := Ground.guard }], guard := some (23, true) }) (v := ?v37) rfl (by kernel_rfl) (by kernel_rfl) (by kernel_rfl) (fun _ _ _ h => h) (Or.inl ⟨by rfl, ?hy37⟩) (by assumption) ?rest37
        case hy37 => (intro w hSw; (try dsimp only at hSw); first | (go_simp; done) | (go_simp; with_reducible rfl))
        case rest37 =>
        try simp only [Act.put, List.setIfInBounds_toArray, List.set_cons_zero, List.set_cons_succ]
        refine wpAnyH_take (i := 26) (oi := { dst := some 134, op := Op.indexAddr 24 (Operand.tmp 132) (Operand.tmp 133), type := 0, pos := "law.go:174", after := #[{ on := 24, ground := Ground.data }, { on := 25, ground := Ground.data }, { on := 23, ground := Ground.guard }], guard := some (23, true) }) (v := ?v38) rfl (by kernel_rfl) (by kernel_rfl) (by kernel_rfl) (fun _ _ _ h => h) (Or.inl ⟨by rfl, ?hy38⟩) (by assumption) ?rest38
        case hy38 => (intro w hSw; (try dsimp only at hSw); first | (go_simp; done) | (go_simp; with_reducible rfl))
        case rest38 =>
        try simp only [Act.put, List.setIfInBounds_toArray, List.set_cons_zero, List.set_cons_succ]
        refine wpAnyH_take (i := 27) (oi := { dst := some 135, op := Op.load 40 (Operand.tmp 134), type := 40, pos := "law.go:174", after := #[{ on := 26, ground := Ground.data }, { on := 23, ground := Ground.guard }], guard := some (23, true) }) (v := ?v39) rfl (by kernel_rfl) (by kernel_rfl) (by kernel_rfl) (fun _ _ _ h => h) (Or.inl ⟨by rfl, ?hy39⟩) (by assumption) ?rest39
        case hy39 => (intro w hSw; (try dsimp only at hSw); first | (go_simp; done) | (go_simp; with_reducible rfl))
        case rest39 =>
        try simp only [Act.put, List.setIfInBounds_toArray, List.set_cons_zero, List.set_cons_succ]
        refine wpAnyH_take (i := 29) (oi := { dst := some 137, op := Op.move (Operand.tmp 8), type := 24, pos := "law.go:174", after := #[{ on := 23, ground := Ground.guard }], guard := some (23, true) }) (v := ?v40) rfl (by kernel_rfl) (by kernel_rfl) (by kernel_rfl) (fun _ _ _ h => h) (Or.inl ⟨by rfl, ?hy40⟩) (by assumption) ?rest40
        case hy40 => (intro w hSw; (try dsimp only at hSw); first | (go_simp; done) | (go_simp; with_reducible rfl))
        case rest40 =>
        try simp only [Act.put, List.setIfInBounds_toArray, List.set_cons_zero, List.set_cons_succ]
        refine wpAnyH_take (i := 30) (oi := { dst := some 138, op := Op.move (Operand.tmp 15), type := 3, pos := "law.go:174", after := #[{ on := 23, ground := Ground.guard }], guard := some (23, true) }) (v := ?v41) rfl (by kernel_rfl) (by kernel_rfl) (by kernel_rfl) (fun _ _ _ h => h) (Or.inl ⟨by rfl, ?hy41⟩) (by assumption) ?rest41
        case hy41 => (intro w hSw; (try dsimp only at hSw); first | (go_simp; done) | (go_simp; with_reducible rfl))
        case rest41 =>
        try simp only [Act.put, List.setIfInBounds_toArray, List.set_cons_zero, List.set_cons_succ]
        refine wpAnyH_take (i := 31) (oi := { dst := some 139, op := Op.move (Operand.tmp 5), type := 24, pos := "law.go:174", after := #[{ on := 23, ground := Ground.guard }], guard := some (23, true) }) (v := ?v42) rfl (by kernel_rfl) (by kernel_rfl) (by kernel_rfl) (fun _ _ _ h => h) (Or.inl ⟨by rfl, ?hy42⟩) (by assumption) ?rest42
        case hy42 => (intro w hSw; (try dsimp only at hSw); first | (go_simp; done) | (go_simp; with_reducible rfl))
        case rest42 =>
        try simp only [Act.put, List.setIfInBounds_toArray, List.set_cons_zero, List.set_cons_succ]
        refine wpAnyH_take (i := 32) (oi := { dst := some 140, op := Op.call { callee := Callee.builtin Builtin.len, args := #[Operand.tmp 139], argTypes := #[24] }, type := 3, pos := "law.go:174", after := #[{ on := 31, ground := Ground.data }, { on := 23, ground := Ground.guard }], guard := some (23, true) }) (v := ?v43) rfl (by kernel_rfl) (by kernel_rfl) (by kernel_rfl) (fun _ _ _ h => h) (Or.inl ⟨by rfl, ?hy43⟩) (by assumption) ?rest43
        case hy43 => (intro w hSw; (try dsimp only at hSw); first | (go_simp; done) | (go_simp; with_reducible rfl))
        case rest43 =>
        try simp only [Act.put, List.setIfInBounds_toArray, List.set_cons_zero, List.set_cons_succ]
        refine wpAnyH_take (i := 33) (oi := { dst := some 141, op := Op.binOp BinOp.sub 3 (Operand.tmp 138) (Operand.tmp 140) 3, type := 3, pos := "law.go:174", after := #[{ on := 30, ground := Ground.data }, { on := 32, ground := Ground.data }, { on := 23, ground := Ground.guard }], guard := some (23, true) }) (v := ?v44) rfl (by kernel_rfl) (by kernel_rfl) (by kernel_rfl) (fun _ _ _ h => h) (Or.inl ⟨by rfl, ?hy44⟩) (by assumption) ?rest44
        case hy44 => (intro w hSw; (try dsimp only at hSw); first | (go_simp; done) | (go_simp; with_reducible rfl))
        case rest44 =>
        try simp only [Act.put, List.setIfInBounds_toArray, List.set_cons_zero, List.set_cons_succ]
        refine wpAnyH_take (i := 34) (oi := { dst := some 142, op := Op.indexAddr 24 (Operand.tmp 137) (Operand.tmp 141), type := 0, pos := "law.go:174", after := #[{ on := 29, ground := Ground.data }, { on := 33, ground := Ground.data }, { on := 23, ground := Ground.guard }], guard := some (23, true) }) (v := ?v45) rfl (by kernel_rfl) (by kernel_rfl) (by kernel_rfl) (fun _ _ _ h => h) (Or.inl ⟨by rfl, ?hy45⟩) (by assumption) ?rest45
        case hy45 => (intro w hSw; (try dsimp only at hSw); first | (go_simp; done) | (go_simp; with_reducible rfl))
        case rest45 =>
        try simp only [Act.put, List.setIfInBounds_toArray, List.set_cons_zero, List.set_cons_succ]
        refine wpAnyH_take (i := 35) (oi := { dst := some 143, op := Op.load 40 (Operand.tmp 142), type := 40, pos := "law.go:174", after := #[{ on := 34, ground := Ground.data }, { on := 23, ground := Ground.guard }], guard := some (23, true) }) (v := ?v46) rfl (by kernel_rfl) (by kernel_rfl) (by kernel_rfl) (fun _ _ _ h => h) (Or.inl ⟨by rfl, ?hy46⟩) (by assumption) ?rest46
        case hy46 => (intro w hSw; (try dsimp only at hSw); first | (go_simp; done) | (go_simp; with_reducible rfl))
        case rest46 =>
        try simp only [Act.put, List.setIfInBounds_toArray, List.set_cons_zero, List.set_cons_succ]
        refine wpAnyH_ready (rs := [28]) (by kernel_rfl) (by simp) ?_
        refine AllReadyH.cons (o := { dst := some 136, op := Op.call { callee := Callee.value (Operand.func 14), args := #[Operand.tmp 135], argTypes := #[40] }, type := 38, pos := "law.go:174", after := #[{ on := 27, ground := Ground.data }, { on := 23, ground := Ground.chain }, { on := 23, ground := Ground.guard }], guard := some (23, true) }) rfl (fun K hK => ?_) AllReadyH.nil
        go_simp
        refine (HPL.out _ _ _ hHeld.2.2.2.2.2.2.2.2.2.2.out).mono ?_; rintro e w6 ⟨rfl, hM5⟩
        go_wp2_with fail
        refine hK.out _ _ ?_ (fun hHeld => ?_)
        · (try dsimp only)
          exact HKEEP.out _ hM5
        clear hK K
        try simp only [Act.put, List.setIfInBounds_toArray, List.set_cons_zero, List.set_cons_succ]
        refine wpAnyH_ready (rs := [36]) (by kernel_rfl) (by simp) ?_
        refine AllReadyH.cons (o := { dst := some 144, op := Op.call { callee := Callee.value (Operand.func 14), args := #[Operand.tmp 143], argTypes := #[40] }, type := 38, pos := "law.go:174", after := #[{ on := 35, ground := Ground.data }, { on := 28, ground := Ground.chain }, { on := 23, ground := Ground.guard }], guard := some (23, true) }) rfl (fun K hK => ?_) AllReadyH.nil
        go_simp
        refine (HPL.out _ _ _ hHeld.2.2.2.2.2.2.2.2.2.2.out).mono ?_; rintro e w6 ⟨rfl, hM5⟩
        go_wp2_with fail
        refine hK.out _ _ ?_ (fun hHeld => ?_)
        · (try dsimp only)
          exact HKEEP.out _ hM5
        clear hK K
        try simp only [Act.put, List.setIfInBounds_toArray, List.set_cons_zero, List.set_cons_succ]
        refine wpAnyH_ready (rs := [37]) (by kernel_rfl) (by simp) ?_
        refine AllReadyH.cons (o := { dst := some 145, op := Op.call { callee := Callee.value (Operand.func 13), args := #[Operand.tmp 136, Operand.tmp 144], argTypes := #[38, 38] }, type := 4, pos := "law.go:174", after := #[{ on := 28, ground := Ground.data }, { on := 36, ground := Ground.data }, { on := 36, ground := Ground.chain }, { on := 23, ground := Ground.guard }], guard := some (23, true) }) rfl (fun K hK => ?_) AllReadyH.nil
        go_simp
        refine (HSM.out _ hHeld.2.2.2.2.2.2.2.2.2.2.out).mono ?_; rintro e w6 ⟨rfl, hM5⟩
        go_wp2_with fail
        refine hK.out _ _ ?_ (fun hHeld => ?_)
        · (try dsimp only)
          exact HKEEP.out _ hM5
        clear hK K
        try simp only [Act.put, List.setIfInBounds_toArray, List.set_cons_zero, List.set_cons_succ]
        refine wpAnyH_take (i := 38) (oi := { dst := some 146, op := Op.unOp UnOp.not 4 (Operand.tmp 145), type := 4, pos := "law.go:174", after := #[{ on := 37, ground := Ground.data }, { on := 23, ground := Ground.guard }], guard := some (23, true) }) (v := ?v47) rfl (by kernel_rfl) (by kernel_rfl) (by kernel_rfl) (fun _ _ _ h => h) (Or.inl ⟨by rfl, ?hy47⟩) (by assumption) ?rest47
        case hy47 => (intro w hSw; (try dsimp only at hSw); first | (go_simp; done) | (go_simp; with_reducible rfl))
        case rest47 =>
        try simp only [Act.put, List.setIfInBounds_toArray, List.set_cons_zero, List.set_cons_succ]
        refine wpAnyH_take (i := 39) (oi := { dst := some 147, op := Op.pick (Operand.tmp 131) (Operand.tmp 146) (Operand.const (Value.bool false)), type := 4, pos := "law.go:174", after := #[{ on := 23, ground := Ground.data }, { on := 38, ground := Ground.data }, { on := 18, ground := Ground.guard }], guard := some (18, false) }) (v := ?v48) rfl (by kernel_rfl) (by kernel_rfl) (by kernel_rfl) (fun _ _ _ h => h) (Or.inl ⟨by rfl, ?hy48⟩) (by assumption) ?rest48
        case hy48 => (intro w hSw; (try dsimp only at hSw); first | (go_simp; done) | (go_simp; with_reducible rfl))
        case rest48 =>
        try simp only [Act.put, List.setIfInBounds_toArray, List.set_cons_zero, List.set_cons_succ]
        refine wpAnyH_take (i := 40) (oi := { dst := some 148, op := Op.pick (Operand.tmp 126) (Operand.const (Value.bool true)) (Operand.tmp 147), type := 4, pos := "law.go:174", after := #[{ on := 18, ground := Ground.data }, { on := 39, ground := Ground.data }], guard := none }) (v := ?v49) rfl (by kernel_rfl) (by kernel_rfl) (by kernel_rfl) (fun _ _ _ h => h) (Or.inl ⟨by rfl, ?hy49⟩) (by assumption) ?rest49
        case hy49 => (intro w hSw; (try dsimp only at hSw); first | (go_simp; done) | (go_simp; with_reducible rfl))
        case rest49 =>
        try simp only [Act.put, List.setIfInBounds_toArray, List.set_cons_zero, List.set_cons_succ]
        refine wpAnyH_done (by kernel_rfl) ?_ _
        clear p0 p1 p2 p3 p4 q0 q1 q2 q3 q4
        have HBN := Lib.hid hHeld.2.2.2.2.2.2.2.2.2.2.out
        go_wp2
        exact ⟨⟨k + 1, by omega, by go_num, HBN⟩, by simp [intOf]; omega⟩
    · obtain rfl : k = n3 := by omega
      go_wp2_with fail
      refine (HAW.out _ (th HB5.out (Nat.le_refl _) HB.out)).mono ?_
      rintro e wz ⟨rfl, hbz⟩
      go_wp2
      go_ret
      exact ⟨rfl, hbz⟩
/-- The law TokenParts. -/
theorem tlaw_parts (a b : Option Addr) (la ca lb cb : Nat) (l1 l2 : List UInt8) (w : World) (hm : LayT w) (hza : Byt w a la ca (ints l1)) (hzb : Byt w b lb cb (ints l2)) :
    Calls Tryz.prog 6 #[.slice a la ca, .slice b lb cb] w fun e w' => e = .returned (.bool true) ∧ Below w.heap.size w w' := by
  by_cases hbA : 300 < la
  · exact tparts_far a b la ca lb cb w hm (.inl hbA)
  by_cases hbB : 300 < lb
  · exact tparts_far a b la ca lb cb w hm (.inr hbB)
  have hllA : l1.length = la := by rw [← ints_len]; exact hza.eqLen
  have hllB : l2.length = lb := by rw [← ints_len]; exact hzb.eqLen
  cases h1 : allT l1 with
  | error x => exact tparts_ea a b la ca lb cb l1 l2 w hm hza hzb hbA hbB (p := x.1) (z := x.2) h1
  | ok ts =>
    cases h2 : allT l2 with
    | error x => exact tparts_eb a b la ca lb cb l1 l2 w hm hza hzb hbA hbB (p := x.1) (z := x.2) h1 h2
    | ok us =>
      by_cases hne : ts = []
      · subst hne
        exact tparts_na a b la ca lb cb l1 l2 w hm hza hzb hbA hbB h1 h2
      by_cases hnf : us = []
      · subst hnf
        exact tparts_nb a b la ca lb cb l1 l2 w hm hza hzb hbA hbB hne h1 h2
      obtain ⟨u, r, hu⟩ := List.exists_cons_of_ne_nil hnf
      have hhead : us.head? = some u := by rw [hu]; rfl
      have hm1 : 0 < us.length := List.length_pos_iff.2 hnf
      have hp1 : 0 < ts.length := List.length_pos_iff.2 hne
      have hlast : ts.getLast? = some (ts.getLast hne) := List.getLast?_eq_some_getLast hne
      have hk1 : ts.length = (ts.length - 1) + 1 := by omega
      by_cases hd : u.kind = 1
      · exact tparts_d a b la ca lb cb l1 l2 w hm hza hzb hbA hbB rfl rfl hk1 hm1 hlast hhead h1 h2 hd
      by_cases hx : (ts.getLast hne).kind = 4
      · exact tparts_x a b la ca lb cb l1 l2 w hm hza hzb hbA hbB rfl rfl hk1 hm1 hlast hhead h1 h2 hd hx
      by_cases hy : u.kind = 4
      · exact tparts_y a b la ca lb cb l1 l2 w hm hza hzb hbA hbB rfl rfl hk1 hm1 hlast hhead h1 h2 hd hx hy
      obtain ⟨wA, rA, lenA, _⟩ := allT_ok h1
      obtain ⟨wB, rB, lenB, _⟩ := allT_ok h2
      obtain ⟨wN, rN⟩ := parts_plain wA wB rA rB hne (fun t ht => by rw [hlast] at ht; injection ht with ht; rw [← ht]; exact hx) (fun t ht => by rw [hhead] at ht; injection ht with ht; rw [← ht]; exact hd)
      have cN : ¬ chkC (ints (l1 ++ l2)) < (l1 ++ l2).length := by
        have h4 : chkC (ints (l1 ++ l2)) = (l1 ++ l2).length := wN
        omega
      have h3 : allT (l1 ++ l2) = .ok (ts ++ us) := (allT_whole (by rw [List.length_append]; omega) cN).1 _ rN
      have hf := (all_few (lines_whole wN) (lines_no13 _) rN).1
      exact tparts_main a b la ca lb cb l1 l2 w hm hza hzb hbA hbB rfl rfl hk1 hm1 hlast hhead h1 h2 rfl h3 hd hx hy (fun t ht => by
        have h4 := hf t ht
        have h5 := lines_len (l1 ++ l2)
        rw [List.length_append] at h5
        omega)
end Go.Proofs.YtihijgghcecpmaaGreatDoor.U
