/- The document's answer: parts, Null. -/
import Derived.Test.YtnaimmhdpjggmaaMc
namespace Go.Proofs.Ytnaimmhdpjggmaa.U
open Go.RowKit

theorem VR.nil {α : Type} (e : α → Value) (w : World) : VR e w (.slice none 0 0) ([] : List α) := ⟨none, 0, rfl, by simp, by unfold maxLen; omega, fun h => by simp at h⟩
theorem VR.new1 {α : Type} {e : α → Value} (w : World) (x : α) (t : TypeId) : VR e (w.alloc (.cells #[e x] t)) (.slice (some ⟨w.heap.size, 0, none⟩) 1 1) [x] :=
  ⟨_, 1, rfl, by simp, by unfold maxLen; omega, fun _ => ⟨w.heap.size, 0, rfl, fun i y hy => by
    cases i with
    | zero => cases hy; simp
    | succ i => simp at hy⟩⟩
theorem VR.new2 {α : Type} {e : α → Value} (w : World) (x y : α) (t : TypeId) : VR e (w.alloc (.cells #[e x, e y] t)) (.slice (some ⟨w.heap.size, 0, none⟩) 2 2) [x, y] :=
  ⟨_, 2, rfl, by simp, by unfold maxLen; omega, fun _ => ⟨w.heap.size, 0, rfl, fun i z hz => by
    match i, hz with
    | 0, hz => cases hz; simp
    | 1, hz => cases hz; simp
    | i + 2, hz => simp at hz⟩⟩
theorem ieq_t {a b : Int} (h : a = b) : (a == b) = true := by simp [h]
theorem ieq_f {a b : Int} (h : a ≠ b) : (a == b) = false := by simp [h]
def PartsPost (n : Nd) (w : World) (e : Ending) (w' : World) : Prop := ∃ v, e = .returned v ∧ VR eI w' v (partsN n) ∧ Below w.heap.size w w'
theorem parts34 {n : Nd} (h : n.op = 3 ∨ n.op = 4) : partsN n = [n.a, n.b] := by unfold partsN; rw [if_pos h]
theorem parts5 {n : Nd} (h : n.op = 5) : partsN n = [n.a] := by unfold partsN; rw [if_neg (by omega), if_pos h]
theorem parts0 {n : Nd} (h3 : n.op ≠ 3) (h4 : n.op ≠ 4) (h5 : n.op ≠ 5) : partsN n = [] := by unfold partsN; rw [if_neg (by omega), if_neg h5]
set_option maxHeartbeats 1000000 in
theorem parts_any (n : Nd) (w : World) : Calls Try.prog 19 #[.agg #[.int .i64 n.op, .string ⟨n.sym.toArray⟩, .int .i64 n.a, .int .i64 n.b]] w fun e w' => PartsPost n w e w' := by
  have HB := Lib.hid ((Below.refl w.heap.size w).alloc (Nat.le_refl _) (.cells #[.int .i64 n.op, .string ⟨n.sym.toArray⟩, .int .i64 n.a, .int .i64 n.b] 46))
  rcases (show n.op = 3 ∨ n.op = 4 ∨ n.op = 5 ∨ (n.op ≠ 3 ∧ n.op ≠ 4 ∧ n.op ≠ 5) by omega) with h | h | h | ⟨h3, h4, h5⟩
  · have hp := Lib.hid (parts34 (.inl h))
    obtain ⟨op, sym, a, b⟩ := n
    obtain rfl : op = 3 := h
    go_enter Try.func19, Try.ntmps19
    go_wp2_with fail
    go_ret
    refine ⟨_, rfl, by rw [hp.out]; have := VR.new2 (e := eI) (w.alloc (.cells #[.int .i64 3, .string ⟨sym.toArray⟩, .int .i64 a, .int .i64 b] 46)) a b 3; simpa [eI] using this, HB.out.alloc (by simp) _⟩
  · have hp := Lib.hid (parts34 (.inr h))
    obtain ⟨op, sym, a, b⟩ := n
    obtain rfl : op = 4 := h
    go_enter Try.func19, Try.ntmps19
    go_wp2_with fail
    go_ret
    refine ⟨_, rfl, by rw [hp.out]; have := VR.new2 (e := eI) (w.alloc (.cells #[.int .i64 4, .string ⟨sym.toArray⟩, .int .i64 a, .int .i64 b] 46)) a b 3; simpa [eI] using this, HB.out.alloc (by simp) _⟩
  · have hp := Lib.hid (parts5 h)
    obtain ⟨op, sym, a, b⟩ := n
    obtain rfl : op = 5 := h
    go_enter Try.func19, Try.ntmps19
    go_wp2_with fail
    go_ret
    refine ⟨_, rfl, by rw [hp.out]; have := VR.new1 (e := eI) (w.alloc (.cells #[.int .i64 5, .string ⟨sym.toArray⟩, .int .i64 a, .int .i64 b] 46)) a 3; simpa [eI] using this, HB.out.alloc (by simp) _⟩
  · have hp := Lib.hid (parts0 h3 h4 h5)
    have e3 := ieq_f h3
    have e4 := ieq_f h4
    have e5 := ieq_f h5
    clear h3 h4 h5
    go_enter Try.func19, Try.ntmps19
    go_wp2_with fail
    go_ret
    exact ⟨_, rfl, by rw [hp.out]; exact VR.nil _ _, HB.out⟩

/-- Whether a tree matches nothing. -/
def nullT : RE → Bool
  | .none => false
  | .empty => true
  | .sym _ => false
  | .cat s t => nullT s && nullT t
  | .alt s t => nullT s || nullT t
  | .star _ => true
theorem null_lg (t : RE) : nullT t = true ↔ Lg t [] := by
  induction t with
  | none => rw [nullT, Lg.none_iff]; simp
  | empty => rw [nullT, Lg.empty_iff]; simp
  | sym s => rw [nullT, Lg.sym_iff]; simp
  | cat s t i1 i2 =>
    rw [nullT, Bool.and_eq_true, i1, i2, Lg.cat_iff]
    constructor
    · rintro ⟨h, k⟩; exact ⟨[], [], rfl, h, k⟩
    · rintro ⟨u, v, e, h, k⟩
      obtain ⟨rfl, rfl⟩ := List.append_eq_nil_iff.1 e.symm
      exact ⟨h, k⟩
  | alt s t i1 i2 => rw [nullT, Bool.or_eq_true, i1, i2, Lg.alt_iff]
  | star s => rw [nullT]; exact ⟨fun _ => .nil, fun _ => rfl⟩
/-- A node's cells at its place, and what the walk wants of the place. -/
theorem NR.node {w : World} {v : Value} {l : List Nd} (h : NR w v l) {i : Nat} {n : Nd} (hn : l[i]? = some n) : ∃ g o c, v = .slice (some ⟨g, o, none⟩) l.length c ∧ (i : Int) < l.length ∧ l.length ≤ 9223372036854775807 ∧ NC w g (o + i * 4) n := by
  obtain ⟨a, c, rfl, h2, h3, h4⟩ := h.at
  obtain ⟨g, o, rfl, h5⟩ := h4 i n hn
  have := (List.getElem?_eq_some_iff.1 hn).1
  unfold maxLen at h3
  exact ⟨g, o, c, rfl, by omega, by omega, h5⟩
set_option maxHeartbeats 2000000 in
set_option maxRecDepth 10000 in
theorem null_any {l : List Nd} {i : Nat} {t : RE} (hs : Sh l i t) : ∀ (v : Value) (w : World), NR w v l → Calls Try.prog 14 #[v, .int .i64 (i : Int)] w fun e w' => e = .returned (.bool (nullT t)) ∧ Below w.heap.size w w' := by
  induction hs with
  | @none i h =>
    intro v w hv
    obtain ⟨g, o, c, rfl, hi1, hn63, s1, s2, s3, s4⟩ := hv.node h
    have hi0 : (0 : Int) ≤ i := by omega
    have HB := Lib.hid ((Below.refl w.heap.size w).alloc (Nat.le_refl _) (.cells (ndC ⟨0, [], 0, 0⟩).toArray 46))
    clear hv h
    obtain ⟨n, hn⟩ : ∃ n, n = l.length := ⟨_, rfl⟩
    rw [← hn] at hi1 hn63 ⊢
    clear hn
    go_enter Try.func14, Try.ntmps14
    go_wp2_with fail
    go_ret
    exact ⟨rfl, HB.out⟩
  | @empty i h =>
    intro v w hv
    obtain ⟨g, o, c, rfl, hi1, hn63, s1, s2, s3, s4⟩ := hv.node h
    have hi0 : (0 : Int) ≤ i := by omega
    have HB := Lib.hid ((Below.refl w.heap.size w).alloc (Nat.le_refl _) (.cells (ndC ⟨1, [], 0, 0⟩).toArray 46))
    clear hv h
    obtain ⟨n, hn⟩ : ∃ n, n = l.length := ⟨_, rfl⟩
    rw [← hn] at hi1 hn63 ⊢
    clear hn
    go_enter Try.func14, Try.ntmps14
    go_wp2_with fail
    go_ret
    exact ⟨rfl, HB.out⟩
  | @sym i s h =>
    intro v w hv
    obtain ⟨g, o, c, rfl, hi1, hn63, s1, s2, s3, s4⟩ := hv.node h
    have hi0 : (0 : Int) ≤ i := by omega
    have HB := Lib.hid ((Below.refl w.heap.size w).alloc (Nat.le_refl _) (.cells (ndC ⟨2, s, 0, 0⟩).toArray 46))
    clear hv h
    obtain ⟨n, hn⟩ : ∃ n, n = l.length := ⟨_, rfl⟩
    rw [← hn] at hi1 hn63 ⊢
    clear hn
    go_enter Try.func14, Try.ntmps14
    go_wp2_with fail
    go_ret
    exact ⟨rfl, HB.out⟩
  | @cat i a b s t h ha hb hs ht i1 i2 =>
    intro v w hv
    obtain ⟨g, o, c, rfl, hi1, hn63, s1, s2, s3, s4⟩ := hv.node h
    have hi0 : (0 : Int) ≤ i := by omega
    have HB := Lib.hid ((Below.refl w.heap.size w).alloc (Nat.le_refl _) (.cells (ndC ⟨3, [], a, b⟩).toArray 46))
    have C3 := Lib.hid (show (w.alloc (.cells (ndC ⟨3, [], a, b⟩).toArray 46)).cell? ⟨w.heap.size, 3, none⟩ = some (.int .i64 (b : Int)) by simp [ndC])
    have HC1 := Lib.hid (fun (W : World) (hb : Below w.heap.size w W) => i1 _ W (hv.below hb))
    have HC2 := Lib.hid (fun (W : World) (hb : Below w.heap.size w W) => i2 _ W (hv.below hb))
    clear hv h ha hb hs ht i1 i2
    obtain ⟨n, hn⟩ : ∃ n, n = l.length := ⟨_, rfl⟩
    rw [← hn] at hi1 hn63 HC1 HC2 ⊢
    clear hn
    go_enter Try.func14, Try.ntmps14
    go_wp2_with fail
    refine (HC1.out _ HB.out).mono ?_
    rintro e w2 ⟨rfl, hb⟩
    have c3 : w2.cell? ⟨w.heap.size, 3, none⟩ = some (.int .i64 (b : Int)) := up_cell hb (Nat.le_refl _) C3.out
    have HB2 := Lib.hid (th HB.out (Nat.le_refl _) hb)
    clear hb
    cases h9 : nullT s with
    | true =>
      have H9 := Lib.hid h9
      clear h9
      go_wp2_with fail
      refine (HC2.out _ HB2.out).mono ?_
      rintro e w3 ⟨rfl, hb⟩
      have HB3 := Lib.hid (th HB2.out (Nat.le_refl _) hb)
      clear hb
      generalize hy : nullT t = y
      have HY := Lib.hid hy
      clear hy
      go_wp2_with fail
      go_ret
      exact ⟨by rw [show nullT (.cat s t) = (nullT s && nullT t) from rfl, H9.out, HY.out]; simp, HB3.out⟩
    | false =>
      have H9 := Lib.hid h9
      clear h9
      go_wp2_with fail
      go_ret
      exact ⟨by rw [show nullT (.cat s t) = (nullT s && nullT t) from rfl, H9.out]; simp, HB2.out⟩
  | @alt i a b s t h ha hb hs ht i1 i2 =>
    intro v w hv
    obtain ⟨g, o, c, rfl, hi1, hn63, s1, s2, s3, s4⟩ := hv.node h
    have hi0 : (0 : Int) ≤ i := by omega
    have HB := Lib.hid ((Below.refl w.heap.size w).alloc (Nat.le_refl _) (.cells (ndC ⟨4, [], a, b⟩).toArray 46))
    have C3 := Lib.hid (show (w.alloc (.cells (ndC ⟨4, [], a, b⟩).toArray 46)).cell? ⟨w.heap.size, 3, none⟩ = some (.int .i64 (b : Int)) by simp [ndC])
    have HC1 := Lib.hid (fun (W : World) (hb : Below w.heap.size w W) => i1 _ W (hv.below hb))
    have HC2 := Lib.hid (fun (W : World) (hb : Below w.heap.size w W) => i2 _ W (hv.below hb))
    clear hv h ha hb hs ht i1 i2
    obtain ⟨n, hn⟩ : ∃ n, n = l.length := ⟨_, rfl⟩
    rw [← hn] at hi1 hn63 HC1 HC2 ⊢
    clear hn
    go_enter Try.func14, Try.ntmps14
    go_wp2_with fail
    refine (HC1.out _ HB.out).mono ?_
    rintro e w2 ⟨rfl, hb⟩
    have c3 : w2.cell? ⟨w.heap.size, 3, none⟩ = some (.int .i64 (b : Int)) := up_cell hb (Nat.le_refl _) C3.out
    have HB2 := Lib.hid (th HB.out (Nat.le_refl _) hb)
    clear hb
    cases h9 : nullT s with
    | true =>
      have H9 := Lib.hid h9
      clear h9
      go_wp2_with fail
      go_ret
      exact ⟨by rw [show nullT (.alt s t) = (nullT s || nullT t) from rfl, H9.out]; simp, HB2.out⟩
    | false =>
      have H9 := Lib.hid h9
      clear h9
      go_wp2_with fail
      refine (HC2.out _ HB2.out).mono ?_
      rintro e w3 ⟨rfl, hb⟩
      have HB3 := Lib.hid (th HB2.out (Nat.le_refl _) hb)
      clear hb
      generalize hy : nullT t = y
      have HY := Lib.hid hy
      clear hy
      go_wp2_with fail
      go_ret
      exact ⟨by rw [show nullT (.alt s t) = (nullT s || nullT t) from rfl, H9.out, HY.out]; simp, HB3.out⟩
  | @star i a s h _ _ _ =>
    intro v w hv
    obtain ⟨g, o, c, rfl, hi1, hn63, s1, s2, s3, s4⟩ := hv.node h
    have hi0 : (0 : Int) ≤ i := by omega
    have HB := Lib.hid ((Below.refl w.heap.size w).alloc (Nat.le_refl _) (.cells (ndC ⟨5, [], a, 0⟩).toArray 46))
    clear hv h
    obtain ⟨n, hn⟩ : ∃ n, n = l.length := ⟨_, rfl⟩
    rw [← hn] at hi1 hn63 ⊢
    clear hn
    go_enter Try.func14, Try.ntmps14
    go_wp2_with fail
    go_ret
    exact ⟨rfl, HB.out⟩
end Go.Proofs.Ytnaimmhdpjggmaa.U
