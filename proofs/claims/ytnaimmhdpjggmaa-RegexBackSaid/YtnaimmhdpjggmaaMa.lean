/- Nodes, words and numbers in rows, wherever they lie; the law's own helpers. -/
import Derived.Test.YtnaimmhdpjggmaaKi
import Derived.Test.YtnaimmhdpjggmaaRx0
namespace Go.Proofs.Ytnaimmhdpjggmaa.U
open Go.RowKit

/-- A row of things of one cell each, wherever it lies. -/
def VR {α : Type} (e : α → Value) (w : World) (v : Value) (l : List α) : Prop :=
  ∃ a c, v = .slice a l.length c ∧ l.length ≤ c ∧ c ≤ maxLen ∧ (0 < l.length → ∃ g o, a = some ⟨g, o, none⟩ ∧ ∀ i x, l[i]? = some x → w.cell? ⟨g, o + i, none⟩ = some (e x))
theorem VR.below {α : Type} {e : α → Value} {w w' : World} {v : Value} {l : List α} (h : VR e w v l) (hb : Below w.heap.size w w') : VR e w' v l := by
  obtain ⟨a, c, h1, h2, h3, h4⟩ := h
  refine ⟨a, c, h1, h2, h3, fun h0 => ?_⟩
  obtain ⟨g, o, e, h5⟩ := h4 h0
  exact ⟨g, o, e, fun i x hx => (hb.cell (blk_of_cell (h5 i x hx))).trans (h5 i x hx)⟩
theorem VR.th {α : Type} {e : α → Value} {w w' : World} {B : Nat} {v : Value} {l : List α} (h : VR e w v l) (hb : Below B w w') (hB : w.heap.size ≤ B) : VR e w' v l := h.below (hb.mono hB)
/-- A word, a number, a bool as a value. -/
def eS (s : Wd) : Value := .string ⟨s.toArray⟩
def eI (n : Int) : Value := .int .i64 n
def eB (b : Bool) : Value := .bool b
/-- The cells of a node. -/
def NC (w : World) (g o : Nat) (n : Nd) : Prop :=
  w.cell? ⟨g, o, none⟩ = some (.int .i64 n.op) ∧ w.cell? ⟨g, o + 1, none⟩ = some (.string ⟨n.sym.toArray⟩) ∧ w.cell? ⟨g, o + 2, none⟩ = some (.int .i64 n.a) ∧ w.cell? ⟨g, o + 3, none⟩ = some (.int .i64 n.b)
theorem NC.below {w w' : World} {g o : Nat} {n : Nd} {B : Nat} (h : NC w g o n) (hb : Below B w w') (hB : w.heap.size ≤ B) : NC w' g o n :=
  ⟨up_cell hb hB h.1, up_cell hb hB h.2.1, up_cell hb hB h.2.2.1, up_cell hb hB h.2.2.2⟩
/-- A row of nodes, wherever it lies. -/
def NR (w : World) (v : Value) (l : List Nd) : Prop :=
  ∃ a c, v = .slice a l.length c ∧ l.length ≤ c ∧ c ≤ maxLen ∧ (0 < l.length → ∃ g o, a = some ⟨g, o, none⟩ ∧ ∀ i n, l[i]? = some n → NC w g (o + i * 4) n)
theorem NR.below {w w' : World} {v : Value} {l : List Nd} (h : NR w v l) (hb : Below w.heap.size w w') : NR w' v l := by
  obtain ⟨a, c, h1, h2, h3, h4⟩ := h
  refine ⟨a, c, h1, h2, h3, fun h0 => ?_⟩
  obtain ⟨g, o, e, h5⟩ := h4 h0
  exact ⟨g, o, e, fun i x hx => (h5 i x hx).below hb (Nat.le_refl _)⟩
theorem NR.th {w w' : World} {B : Nat} {v : Value} {l : List Nd} (h : NR w v l) (hb : Below B w w') (hB : w.heap.size ≤ B) : NR w' v l := h.below (hb.mono hB)
/-- What is wanted of a row of nodes in a walk. -/
theorem NR.at {w : World} {v : Value} {l : List Nd} (h : NR w v l) : ∃ a c, v = .slice a l.length c ∧ l.length ≤ c ∧ c ≤ maxLen ∧ ∀ i n, l[i]? = some n → ∃ g o, a = some ⟨g, o, none⟩ ∧ NC w g (o + i * 4) n := by
  obtain ⟨a, c, h1, h2, h3, h4⟩ := h
  refine ⟨a, c, h1, h2, h3, fun i n hn => ?_⟩
  obtain ⟨g, o, e, h5⟩ := h4 (by have := (List.getElem?_eq_some_iff.1 hn).1; omega)
  exact ⟨g, o, e, h5 i n hn⟩
theorem bool_ret {a b : Bool} (h : a = b) : Ending.returned (.bool a) = .returned (.bool b) := by rw [h]
theorem ss (s : Wd) : (⟨s.toArray⟩ : ByteArray).size = s.length := str_size s

/-- Whether an expression has few nodes, and short words. -/
def smallB (l : List Nd) : Bool := l.all (fun n => decide (n.sym.length ≤ 80)) && decide (l.length ≤ 24)
set_option maxHeartbeats 1000000 in
set_option maxRecDepth 10000 in
theorem small_any (v : Value) (l : List Nd) (w : World) (h : NR w v l) : Calls Try.prog 5 #[.agg #[v]] w fun e w' => e = .returned (.bool (smallB l)) ∧ Below w.heap.size w w' := by
  obtain ⟨a, c, rfl, h2, h3, h4⟩ := h.at
  obtain ⟨n, hn⟩ : ∃ n, n = l.length := ⟨_, rfl⟩
  have hn63 : n ≤ 9223372036854775807 := by unfold maxLen at h3; omega
  have HN := Lib.hid hn
  have H4 := Lib.hid h4
  have HB := Lib.hid ((Below.refl w.heap.size w).alloc (Nat.le_refl _) (.cells #[.slice a n c] 24))
  rw [← hn]
  clear h h2 h3 h4 hn
  go_enter Try.func5, Try.ntmps5
  go_wp2_with fail
  go_loop [3] (fun i => ∃ k : Nat, i = .int .i64 k ∧ k ≤ n ∧ Hid ((l.take k).all (fun n => decide (n.sym.length ≤ 80)) = true)) (fun i => n - (intOf i).toNat)
  case atStart => exact ⟨0, rfl, by omega, Lib.hid (by simp)⟩
  case round =>
    obtain ⟨k, rfl, hk, HA⟩ := hrel
    by_cases hlt : k < n
    · obtain ⟨x, hx⟩ : ∃ x, l[k]? = some x := ⟨_, List.getElem?_eq_getElem (by rw [← HN.out]; exact hlt)⟩
      obtain ⟨g, o, rfl, k1, k2, k3, k4⟩ := H4.out k x hx
      have s1 := up_cell HB.out (Nat.le_refl _) k2
      have hi0 : (0 : Int) ≤ k := by omega
      have hi1 : (k : Int) < n := by omega
      have HX := Lib.hid hx
      by_cases h80 : x.sym.length ≤ 80
      · have hc : decide ((80 : Int) < (x.sym.length : Int)) = false := by simp; omega
        have hc2 : decide (80 < x.sym.length) = false := by simp; omega
        have H80 := Lib.hid h80
        clear k1 k2 k3 k4 hx h80
        go_wp2_with fail
        go_round
        case rel => exact ⟨k + 1, by go_num, by omega, Lib.hid (by rw [List.take_add_one, HX.out, List.all_append, HA.out]; simp [H80.out])⟩
        case measure => simp [intOf]; omega
      · have hc : decide ((80 : Int) < (x.sym.length : Int)) = true := by simp; omega
        have hc2 : decide (80 < x.sym.length) = true := by simp; omega
        have H80 := Lib.hid h80
        clear k1 k2 k3 k4 hx h80
        go_wp2_with fail
        go_ret
        refine ⟨bool_ret ?_, HB.out⟩
        rw [eq_comm, bF]
        intro hall
        unfold smallB at hall
        rw [Bool.and_eq_true] at hall
        have := List.all_eq_true.1 hall.1 x (List.mem_of_getElem? HX.out)
        exact H80.out (by simpa using this)
    · have hkn : k = n := by omega
      have HKN := Lib.hid hkn
      have hd : decide ((k : Int) < n) = false := by simp; omega
      have hd2 : decide (k < n) = false := by simp; omega
      clear hkn hlt hk
      go_wp2_with fail
      go_ret
      refine ⟨bool_ret ?_, HB.out⟩
      have h1 := HA.out
      rw [List.take_of_length_le (by rw [← HN.out, HKN.out]; exact Nat.le_refl _)] at h1
      unfold smallB
      rw [h1, ← HN.out]
      simp
      omega
end Go.Proofs.Ytnaimmhdpjggmaa.U
