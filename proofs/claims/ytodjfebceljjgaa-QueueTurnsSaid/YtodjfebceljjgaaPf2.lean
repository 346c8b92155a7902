/- What a queue's Len and Peek answer. -/
import Derived.Test.YtodjfebceljjgaaPe2
namespace Go.Proofs.Ytodjfebceljjgaa.U.Q2
open Go.RowKit

variable {α : Type} [Inhabited α]
omit [Inhabited α] in
set_option maxHeartbeats 400000 in
theorem len_eq (E : En α) (w : World) (base qb p : Nat) (v : Value) (xs : Array α) (h : QAt E w base qb v xs p) : Calls Try.prog 68 #[.pointer (some ⟨qb, 0, none⟩)] w fun e w' => e = .returned (.int .i64 xs.size) ∧ w' = w := by
  obtain ⟨a, c, rfl, hc1, hc2⟩ := own_at h.row
  have c0 := h.c0
  clear h hc1 hc2
  go_enter Try.func68, Try.ntmps68
  go_wp2
  go_ret
  exact ⟨rfl, rfl⟩
omit [Inhabited α] in
set_option maxHeartbeats 400000 in
theorem qlen_at (E : En α) (w : World) (base qb p : Nat) (v : Value) (xs : Array α) (h : QAt E w base qb v xs p) : Calls Try.prog 66 #[.pointer (some ⟨qb, 0, none⟩)] w fun e w' => e = .returned (.int .i64 xs.size) ∧ w' = w := by
  have HL := Lib.hid (len_eq E w base qb p v xs h)
  clear h
  go_enter Try.func66, Try.ntmps66
  go_wp2_with (go_at_call 68; refine HL.out.mono ?_; rintro e w1 ⟨rfl, rfl⟩)
  go_ret
  exact ⟨rfl, rfl⟩
theorem qlen_any (E : En α) (w : World) (base qb p : Nat) (v : Value) (m : List α) (h : QS E w base qb v m p) : Calls Try.prog 66 #[.pointer (some ⟨qb, 0, none⟩)] w fun e w' => e = .returned (.int .i64 m.length) ∧ w' = w := by
  obtain ⟨xs, hq, hl⟩ := h.len
  have HL := qlen_at E w base qb p v xs hq
  rw [hl] at HL
  exact HL
set_option maxHeartbeats 400000 in
theorem qlen_nil (w : World) : Calls Try.prog 66 #[.pointer none] w fun e w' => e = .returned (.int .i64 0) ∧ w' = w := by
  go_enter Try.func66, Try.ntmps66
  go_wp2
  go_ret
  exact ⟨rfl, rfl⟩
set_option maxHeartbeats 1000000 in
theorem peek_nil (w : World) : Calls Try.prog 64 #[.pointer none] w fun e w' => e = .returned (.tuple #[.agg #[.slice none 0 0, .int .i64 0], .int .i64 2]) ∧ Below w.heap.size w w' := by
  go_enter Try.func64, Try.ntmps64
  go_wp2
  refine ret_cell rfl rfl (heap_new1 _ _ _) Try.underlying77 rfl (by kernel_rfl) rfl ?_
  exact ⟨rfl, two_new _ _ _⟩
set_option maxHeartbeats 1000000 in
theorem peek_none (E : En α) (w : World) (base qb p : Nat) (v : Value) (h : QS E w base qb v [] p) : Calls Try.prog 64 #[.pointer (some ⟨qb, 0, none⟩)] w fun e w' => e = .returned (.tuple #[.agg #[.slice none 0 0, .int .i64 0], .int .i64 16]) ∧ Below w.heap.size w w' := by
  have HL := Lib.hid (qlen_any E _ base qb p v [] (h.below (two_new w (.cells #[.slice none 0 0, .int .i64 0] 77) (.cells #[.slice none 0 0, .int .i64 0] 77))))
  clear h
  go_enter Try.func64, Try.ntmps64
  go_wp2_with (go_at_call 66; refine HL.out.mono ?_; rintro e w1 ⟨rfl, rfl⟩)
  refine ret_cell rfl rfl (heap_new1 _ _ _) Try.underlying77 rfl (by kernel_rfl) rfl ?_
  exact ⟨rfl, two_new _ _ _⟩
/-- The one that is ahead. -/
def IsMin (E : En α) (m : List α) (x : α) : Prop := x ∈ m ∧ ∀ y ∈ m, E.lt y x = false
theorem min_first {E : En α} (ho : Ord E.lt) {xs : Array α} {m : List α} (hp : xs.toList.Perm m) (hh : HeapF E.lt (fun k => xs[k]!) xs.size) (hm : m ≠ []) : 0 < xs.size ∧ IsMin E m xs[0]! := by
  have hl : xs.size = m.length := by have := hp.length_eq; simpa using this
  have h0 : 0 < xs.size := by
    rw [hl]
    exact List.length_pos_iff.2 hm
  refine ⟨h0, hp.mem_iff.1 ?_, fun y hy => ?_⟩
  · rw [getElem!_pos xs 0 h0, ← Array.getElem_toList]
    exact List.getElem_mem _
  · have hy2 := hp.mem_iff.2 hy
    obtain ⟨k, hk, rfl⟩ := List.mem_iff_getElem.1 hy2
    have hk2 : k < xs.size := by simpa using hk
    have := heap_first ho hh k hk2
    simp only [getElem!_pos xs k hk2] at this
    rw [Array.getElem_toList]
    exact this
set_option maxHeartbeats 2000000 in
theorem peek_any (E : En α) (h1 : OneC E) (w : World) (base qb p : Nat) (v : Value) (xs : Array α) (h : QAt E w base qb v xs p) (h0 : 0 < xs.size) : Calls Try.prog 64 #[.pointer (some ⟨qb, 0, none⟩)] w fun e w' => e = .returned (.tuple #[.agg #[E.e0 xs[0]!, E.e1 xs[0]!], .int .i64 0]) ∧ Below w.heap.size w w' := by
  obtain ⟨W2, hW2⟩ : ∃ W2, W2 = (w.alloc (.cells #[.slice none 0 0, .int .i64 0] 77)).alloc (.cells #[.slice none 0 0, .int .i64 0] 77) := ⟨_, rfl⟩
  have hb : Below w.heap.size w W2 := by rw [hW2]; exact two_new _ _ _
  have hq := h.below hb
  obtain ⟨g, c, hv, hc1, hc2⟩ := own_some hq.row h0
  obtain ⟨x, hx⟩ : ∃ x, x = xs[0]! := ⟨_, rfl⟩
  have hx1 : xs.toList[0]? = some x := by rw [hx, getElem!_pos xs 0 h0]; simp [h0]
  rw [← hx]
  obtain ⟨n, hn⟩ : ∃ n, n = xs.size := ⟨_, rfl⟩
  rw [← hn] at hv
  have c0 : W2.cell? ⟨qb, 0, none⟩ = some (.slice (some ⟨g, 0, none⟩) n c) := by rw [hq.c0, hv]
  have hHL := qlen_at E W2 base qb p v xs hq
  rw [← hn] at hHL
  have HL := Lib.hid hHL
  have hn0 : ((n : Int) == 0) = false := by rw [beq_eq_false_iff_ne]; omega
  have hn1 : (0 : Int) < n := by omega
  have hn2 : 0 < n := by omega
  obtain ⟨a0, a1, a2⟩ := hq.at hv 0 x hx1
  rw [Nat.zero_mul] at a0 a1 a2
  have hgw : W2.heap[w.heap.size]? = some (.cells #[.slice none 0 0, .int .i64 0] 77 (0, 0)) := by rw [hW2]; exact heap_new1 _ _ _
  have hrw : Rw w.heap.size 2 W2 := ⟨_, _, hgw, by simp⟩
  have s0 : ∀ m, (store ⟨w.heap.size, 0, none⟩ (E.e0 x) m).run Try.prog W2 = .ok () (W2.setCell ⟨w.heap.size, 0, none⟩ (E.e0 x)) := fun m => hrw.store (by omega) (h1.c0 x) m
  have s1 : ∀ m, (store ⟨w.heap.size, 1, none⟩ (E.e1 x) m).run Try.prog (W2.setCell ⟨w.heap.size, 0, none⟩ (E.e0 x)) = .ok () ((W2.setCell ⟨w.heap.size, 0, none⟩ (E.e0 x)).setCell ⟨w.heap.size, 1, none⟩ (E.e1 x)) := fun m => (hrw.set _ _ _).store (by omega) (h1.c1 x) m
  have HG := Lib.hid hgw
  have HB := Lib.hid hb
  have HW2 := Lib.hid hW2
  clear h hb hq hv hc1 hc2 hx hx1 hHL hrw h1 hgw h0 hn hW2
  go_enter Try.func64, Try.ntmps64
  go_upto_region 4 with fail
  rw [← HW2.out]
  go_wp2_with (go_at_call 66; refine HL.out.mono ?_; rintro e w1 ⟨rfl, rfl⟩)
  refine ret_cell rfl rfl (heap_set2 HG.out) Try.underlying77 rfl (by kernel_rfl) rfl ?_
  exact ⟨rfl, (HB.out.setCell (Nat.le_refl _) _).setCell (Nat.le_refl _) _⟩
end Go.Proofs.Ytodjfebceljjgaa.U.Q2
