/- Blocks of the call's own, known whole; what make leaves. -/
import Derived.Test.YtnaimmhdpjggmaaMd
namespace Go.Proofs.Ytnaimmhdpjggmaa.U
open Go.RowKit

/-- A block of one's own whose cells are these. -/
def WR (w : World) (g : Nat) (t : TypeId) (xs : List Value) : Prop := w.heap[g]? = some (.cells xs.toArray t (0, 0))
theorem WR.lt {w : World} {g : Nat} {t : TypeId} {xs : List Value} (h : WR w g t xs) : g < w.heap.size := lt_of_block h
theorem WR.cell {w : World} {g : Nat} {t : TypeId} {xs : List Value} (h : WR w g t xs) {j : Nat} {u : Value} (hj : xs[j]? = some u) : w.cell? ⟨g, j, none⟩ = some u := by
  rw [Lib.cell_of_heap h]
  simpa using hj
theorem WR.froz {w : World} {g : Nat} {t : TypeId} {xs : List Value} (h : WR w g t xs) (j : Nat) : w.frozen? ⟨g, j, none⟩ = false := Lib.frozen_of_heap h j
theorem WR.set {w : World} {g : Nat} {t : TypeId} {xs : List Value} (h : WR w g t xs) (j : Nat) (u : Value) : WR (w.setCell ⟨g, j, none⟩ u) g t (xs.set j u) := by
  unfold WR at h ⊢
  rw [← List.setIfInBounds_toArray]
  simp [World.setCell, Array.getElem?_modify, h]
theorem WR.other {w : World} {g : Nat} {t : TypeId} {xs : List Value} (h : WR w g t xs) {p : Addr} (hp : p.block ≠ g) (u : Value) : WR (w.setCell p u) g t xs := by
  unfold WR at h ⊢
  rw [Below.heap_setCell w p u g (fun e => hp e.symm)]; exact h
theorem WR.below {w w' : World} {g : Nat} {t : TypeId} {xs : List Value} (h : WR w g t xs) (hb : Below w.heap.size w w') : WR w' g t xs := by
  have h1 := h.lt
  unfold WR at h ⊢
  rw [hb.block g h1]; exact h
theorem WR.new (w : World) (t : TypeId) (xs : List Value) : WR (w.alloc (.cells xs.toArray t)) w.heap.size t xs := by
  unfold WR
  show (w.heap.push _)[w.heap.size]? = _
  simp
theorem WR.alloc {w : World} {g : Nat} {t : TypeId} {xs : List Value} (h : WR w g t xs) (o : Obj) : WR (w.alloc o) g t xs := h.below ((Below.refl _ w).alloc (Nat.le_refl _) o)
theorem WR.row {α : Type} {e : α → Value} {w : World} {g : Nat} {t : TypeId} {l : List α} (h : WR w g t (l.map e)) (hl : l.length ≤ 1000000) : VR e w (.slice (some ⟨g, 0, none⟩) l.length l.length) l :=
  ⟨_, _, rfl, Nat.le_refl _, by unfold maxLen; omega, fun _ => ⟨g, 0, rfl, fun i x hx => by rw [Nat.zero_add]; exact h.cell (by rw [List.getElem?_map, hx]; rfl)⟩⟩

theorem made_rep (z : Value) (hz : z.cells = #[z]) (n : Nat) : madeCells z.cells n = (List.replicate n z).toArray := by
  refine Array.ext (by simp [madeCells]) (fun i h1 h2 => ?_)
  simp [madeCells, hz, Nat.mod_one]
theorem infoI : (Try.prog.info? 3).map (fun i => (i.zero, i.size, i.bytes)) = some (some (.int .i64 0), 1, 8) := by kernel_rfl
theorem infoB : (Try.prog.info? 4).map (fun i => (i.zero, i.size, i.bytes)) = some (some (.bool false), 1, 1) := by kernel_rfl
theorem infoS : (Try.prog.info? 9).map (fun i => (i.zero, i.size, i.bytes)) = some (some (.string ⟨#[]⟩), 1, 16) := by kernel_rfl
theorem make_i (n : Nat) (h : n ≤ 100000) (w : World) : (Instr.makeSlice 47 (.int .i64 (n : Int)) (.int .i64 (n : Int))).run Try.prog w = .ok (.slice (some ⟨w.heap.size, 0, none⟩) n n) (w.alloc (.cells (List.replicate n (.int .i64 0)).toArray 3)) := by
  obtain ⟨i0, hi, hz0, hz1, hz2⟩ := info_parts infoI
  have hr := run_make (P := Try.prog) w 47 3 i0 (.int .i64 0) Try.underlying47 hi hz0 .i64 .i64 (n : Int) (n : Int) (by omega) (by omega) (by rw [hz2]; omega) (by omega)
  rw [hr, hz1, Nat.mul_one, Int.toNat_natCast, made_rep _ rfl]
theorem make_b (n : Nat) (h : n ≤ 100000) (w : World) : (Instr.makeSlice 53 (.int .i64 (n : Int)) (.int .i64 (n : Int))).run Try.prog w = .ok (.slice (some ⟨w.heap.size, 0, none⟩) n n) (w.alloc (.cells (List.replicate n (.bool false)).toArray 4)) := by
  obtain ⟨i0, hi, hz0, hz1, hz2⟩ := info_parts infoB
  have hr := run_make (P := Try.prog) w 53 4 i0 (.bool false) Try.underlying53 hi hz0 .i64 .i64 (n : Int) (n : Int) (by omega) (by omega) (by rw [hz2]; omega) (by omega)
  rw [hr, hz1, Nat.mul_one, Int.toNat_natCast, made_rep _ rfl]
theorem make_s (n : Nat) (h : n ≤ 100000) (w : World) : (Instr.makeSlice 25 (.int .i64 (n : Int)) (.int .i64 (n : Int))).run Try.prog w = .ok (.slice (some ⟨w.heap.size, 0, none⟩) n n) (w.alloc (.cells (List.replicate n (.string ⟨#[]⟩)).toArray 9)) := by
  obtain ⟨i0, hi, hz0, hz1, hz2⟩ := info_parts infoS
  have hr := run_make (P := Try.prog) w 25 9 i0 (.string ⟨#[]⟩) Try.underlying25 hi hz0 .i64 .i64 (n : Int) (n : Int) (by omega) (by omega) (by rw [hz2]; omega) (by omega)
  rw [hr, hz1, Nat.mul_one, Int.toNat_natCast, made_rep _ rfl]
/-- A row of things of one cell in blocks from a number on. -/
def VF {α : Type} (e : α → Value) (B : Nat) (w : World) (v : Value) (l : List α) : Prop :=
  ∃ a c, v = .slice a l.length c ∧ l.length ≤ c ∧ c ≤ maxLen ∧ (0 < l.length → ∃ g o, a = some ⟨g, o, none⟩ ∧ B ≤ g ∧ ∀ i x, l[i]? = some x → w.cell? ⟨g, o + i, none⟩ = some (e x))
theorem VF.vr {α : Type} {e : α → Value} {B : Nat} {w : World} {v : Value} {l : List α} (h : VF e B w v l) : VR e w v l := by
  obtain ⟨a, c, h1, h2, h3, h4⟩ := h
  refine ⟨a, c, h1, h2, h3, fun h0 => ?_⟩
  obtain ⟨g, o, e, _, h5⟩ := h4 h0
  exact ⟨g, o, e, h5⟩
theorem VF.below {α : Type} {e : α → Value} {B : Nat} {w w' : World} {v : Value} {l : List α} (h : VF e B w v l) (hb : Below w.heap.size w w') : VF e B w' v l := by
  obtain ⟨a, c, h1, h2, h3, h4⟩ := h
  refine ⟨a, c, h1, h2, h3, fun h0 => ?_⟩
  obtain ⟨g, o, e, hg, h5⟩ := h4 h0
  exact ⟨g, o, e, hg, fun i x hx => up_cell hb (Nat.le_refl _) (h5 i x hx)⟩
theorem VF.set {α : Type} {e : α → Value} {B : Nat} {w : World} {v : Value} {l : List α} (h : VF e B w v l) {p : Addr} (hp : p.block < B) (u : Value) : VF e B (w.setCell p u) v l := by
  obtain ⟨a, c, h1, h2, h3, h4⟩ := h
  refine ⟨a, c, h1, h2, h3, fun h0 => ?_⟩
  obtain ⟨g, o, e, hg, h5⟩ := h4 h0
  refine ⟨g, o, e, hg, fun i x hx => ?_⟩
  have hne : g ≠ p.block := by omega
  have := h5 i x hx
  rw [World.cell?_of_block (w' := w.setCell p u) (w := w) (a := ⟨g, o + i, none⟩) (Below.heap_setCell w p u g hne)]
  exact this
theorem VF.nil {α : Type} (e : α → Value) (B : Nat) (w : World) : VF e B w (.slice none 0 0) ([] : List α) := ⟨none, 0, rfl, by simp, by unfold maxLen; omega, fun h => by simp at h⟩
theorem VF.at1 {α : Type} {e : α → Value} {B : Nat} {w : World} {g : Nat} (x : α) (hB : B ≤ g) (h : w.cell? ⟨g, 0, none⟩ = some (e x)) : VF e B w (.slice (some ⟨g, 0, none⟩) 1 1) [x] :=
  ⟨_, 1, rfl, by simp, by unfold maxLen; omega, fun _ => ⟨g, 0, rfl, hB, fun i y hy => by
    cases i with
    | zero => cases hy; simpa using h
    | succ i => simp at hy⟩⟩
theorem VF.at2 {α : Type} {e : α → Value} {B : Nat} {w : World} {g : Nat} (x y : α) (hB : B ≤ g) (h : w.cell? ⟨g, 0, none⟩ = some (e x)) (k : w.cell? ⟨g, 1, none⟩ = some (e y)) : VF e B w (.slice (some ⟨g, 0, none⟩) 2 2) [x, y] :=
  ⟨_, 2, rfl, by simp, by unfold maxLen; omega, fun _ => ⟨g, 0, rfl, hB, fun i z hz => by
    match i, hz with
    | 0, hz => cases hz; simpa using h
    | 1, hz => cases hz; simpa using k
    | i + 2, hz => simp at hz⟩⟩
/-- What is wanted of a row in a walk. -/
theorem VF.at {α : Type} {e : α → Value} {B : Nat} {w : World} {v : Value} {l : List α} (h : VF e B w v l) : ∃ a c, v = .slice a l.length c ∧ l.length ≤ c ∧ c ≤ maxLen ∧ ∀ i x, l[i]? = some x → ∃ g o, a = some ⟨g, o, none⟩ ∧ B ≤ g ∧ w.cell? ⟨g, o + i, none⟩ = some (e x) := by
  obtain ⟨a, c, h1, h2, h3, h4⟩ := h
  refine ⟨a, c, h1, h2, h3, fun i n hn => ?_⟩
  obtain ⟨g, o, e, hg, h5⟩ := h4 (by have := (List.getElem?_eq_some_iff.1 hn).1; omega)
  exact ⟨g, o, e, hg, h5 i n hn⟩
end Go.Proofs.Ytnaimmhdpjggmaa.U
