/- QueueSorts: its walk. -/
import Derived.Test.YtodjfebceljjgaaSo0
import Derived.Deep.QuietTactic
import Derived.BigQuiet
import Derived.Deep.Cut
namespace Go.Proofs.Ytodjfebceljjgaa.U
open Go.RowKit Q1

theorem infoI : (Try.prog.info? 3).map (fun i => (i.zero, i.size, i.bytes)) = some (some (.int .i64 0), 1, 8) := by kernel_rfl
set_option maxRecDepth 10000 in
theorem make_ints (n : Nat) (h : n ≤ 1000) (w : World) : (Instr.makeSlice 41 (.int .i64 (n : Int)) (.int .i64 (n : Int))).run Try.prog w = .ok (.slice (some ⟨w.heap.size, 0, none⟩) n n) (w.alloc (.cells (seenA [] n) 3)) := by
  obtain ⟨i0, hi, hz0, hz1, hz2⟩ := info_parts infoI
  have hr := run_make (P := Try.prog) w 41 3 i0 (.int .i64 0) Try.underlying41 hi hz0 .i64 .i64 (n : Int) (n : Int) (by omega) (by omega) (by rw [hz2]; omega) (by omega)
  rw [hr, hz1]
  simp only [Int.toNat_natCast]
  rw [seenA_new]
  congr 3
  refine Array.ext (by simp [madeCells, Value.cells]) (fun i h1 h2 => ?_)
  simp [madeCells, Value.cells, Nat.mod_one]
theorem peek1 (g : Int × Int → Int × Int → Int) (ho : Ord (ltT g)) {c d : Nat} {W0 w : World} {base qb p : Nat} {v : Value} {m : List Th} (h : QS (E1 g c d W0) w base qb v m p) (hm : m ≠ []) :
    Calls Try.prog 15 #[.pointer (some ⟨qb, 0, none⟩)] w fun e w' => ∃ x : Th, IsMin (E1 g c d W0) m x ∧ e = .returned (.tuple #[.agg #[.int .i64 x.1, .int .i64 x.2.1], .int .i64 0]) ∧ Below w.heap.size w w' := by
  obtain ⟨xs, k1, k2, k3⟩ := h
  obtain ⟨h0, hmin⟩ := min_first ho k2 k3 hm
  exact (peek_any (E1 g c d W0) (one1 g c d W0) w base qb p v xs k1 h0).mono fun e w' ⟨he, hb⟩ => ⟨_, hmin, he, hb⟩
theorem setCell_seen {w : World} {sb n j : Nat} {tk : List Th} {x : Th} (h : w.heap[sb]? = some (.cells (seenA tk n) 3 (0, 0))) (hx : x.2.1 = (j : Int)) : (w.setCell ⟨sb, j, none⟩ (.int .i64 1)).heap[sb]? = some (.cells (seenA (x :: tk) n) 3 (0, 0)) := by
  rw [← seenA_set tk n j x hx]
  simp [World.setCell, Array.getElem?_modify, h]
set_option maxHeartbeats 1000000 in
set_option maxRecDepth 10000 in
theorem sorts_far (v : Value) (l : List Int) (w : World) (h : IT w v l) (hl : 100 < l.length) : Calls Try.prog 4 #[v] w fun e w' => e = .returned (.bool true) ∧ Below w.heap.size w w' := by
  obtain ⟨a, cp, rfl, h1, h2, _⟩ := h
  obtain ⟨n, hn⟩ : ∃ n, n = l.length := ⟨_, rfl⟩
  have hw0 : wrap64 (n : Int) = n := by unfold maxLen at h2; unfold wrap64; omega
  rw [← hn] at hl ⊢
  have k0 : (100 : Int) < n := by omega
  clear h1 h2 hn hl
  go_enter Try.func4, Try.ntmps4
  go_wp2_with fail
  refine (new_any 10 gUp _).mono ?_
  rintro e w1 ⟨c, d, qb, rfl, hb1, hqb, hcl, hqs⟩
  have HB1 := Lib.hid hb1
  clear hb1 hqb hcl hqs
  go_wp2_with fail
  refine (awake_any _).mono ?_
  rintro e w2 ⟨rfl, hb2⟩
  have HB2 := Lib.hid (th HB1.out (Nat.le_refl _) hb2)
  clear hb2
  go_wp2_with fail
  go_ret
  exact ⟨rfl, HB2.out⟩
/-- The rounds that put. -/
structure PutR (w w1 wr : World) (c d qb : Nat) (l : List Int) (k : Nat) (v : Value) : Prop where
  qs : QS (E1 gUp c d w1) wr w.heap.size qb v (thR l k) k
  kept : Below w.heap.size w wr
/-- The rounds that take. -/
structure TakeR (w w1 wr : World) (c d qb sb lb : Nat) (l : List Int) (n : Nat) (k : Nat) (tk m : List Th) (v : Value) (lr li : Int) : Prop where
  qs : QS (E1 gUp c d w1) wr w.heap.size qb v m n
  kept : Below w.heap.size w wr
  half : Half l n tk m
  count : tk.length = k
  seen : wr.heap[sb]? = some (.cells (seenA tk n) 3 (0, 0))
  last : wr.heap[lb]? = some (.cells #[.int .i64 lr, .int .i64 li] 28 (0, 0))
  high : w.heap.size ≤ sb ∧ w.heap.size ≤ lb
  lead : 0 < k → ∃ r, tk = (lr, li, li) :: r
end Go.Proofs.Ytodjfebceljjgaa.U
