/- QueueNil: its walk. -/
import Derived.Test.YtodjfebceljjgaaL2
namespace Go.Proofs.Ytodjfebceljjgaa.U
open Go.RowKit Q1

theorem eql_nil (W : World) : (binOp .eql 79 .nilFunc .nilFunc).run Try.prog W = .ok (.bool true) W := by kernel_rfl
set_option maxRecDepth 10000 in
theorem new_nil (w : World) : Calls Try.prog 23 #[.nilFunc] w fun e w' => e = .returned (.tuple #[.pointer none, .int .i64 2]) ∧ w' = w := by
  have hef := eql_nil
  go_enter Try.func23, Try.ntmps23
  go_wp2
  go_ret2
  exact ⟨rfl, rfl⟩
set_option maxRecDepth 10000 in
theorem merge_nil (v : Value) (w : World) : Calls Try.prog 24 #[.nilFunc, v] w fun e w' => e = .returned (.tuple #[.slice none 0 0, .int .i64 2]) ∧ Below w.heap.size w w' := by
  have hef := eql_nil
  go_enter Try.func24, Try.ntmps24
  go_wp2
  go_ret2
  exact ⟨rfl, al (Below.refl _ _) (Nat.le_refl _) _⟩
theorem put_nil (a b : Int) (w : World) : Calls Try.prog 12 #[.pointer none, .agg #[.int .i64 a, .int .i64 b]] w fun e w' => e = .returned (.int .i64 2) ∧ Below w.heap.size w w' := by
  go_enter Try.func12, Try.ntmps12
  go_wp2
  go_ret
  exact ⟨rfl, al (Below.refl _ _) (Nat.le_refl _) _⟩
set_option maxHeartbeats 4000000 in
set_option maxRecDepth 10000 in
theorem nil_walk (n : Int) (w : World) : Calls Try.prog 7 #[.int .i64 n] w fun e w' => e = .returned (.bool true) ∧ Below w.heap.size w w' := by
  go_enter Try.func7, Try.ntmps7
  go_wp2_with fail
  refine (take_nil _).mono ?_
  rintro e w1 ⟨rfl, hb1⟩
  obtain ⟨w2, hw2⟩ : ∃ w2, w2 = w1.alloc (.cells #[.int .i64 0, .int .i64 0] 28) := ⟨_, rfl⟩
  have HB2 : Hid (Below w.heap.size w w2) := Lib.hid (by rw [hw2]; exact al hb1 (Nat.le_refl _) _)
  have HG2 : Hid (w2.heap[w1.heap.size]? = some (.cells #[.int .i64 0, .int .i64 0] 28 (0, 0))) := Lib.hid (by rw [hw2]; exact heap_new0 _ _)
  clear hb1
  go_upto_region 3 with fail
  rw [← hw2]
  clear hw2
  go_wp2_with fail
  refine (peek_nil _).mono ?_
  rintro e w3 ⟨rfl, hb3⟩
  obtain ⟨w4, hw4⟩ : ∃ w4, w4 = w3.alloc (.cells #[.int .i64 0, .int .i64 0] 28) := ⟨_, rfl⟩
  have HB24 : Hid (Below w2.heap.size w2 w4) := Lib.hid (by rw [hw4]; exact al hb3 (Nat.le_refl _) _)
  have HG4 : Hid (w4.heap[w3.heap.size]? = some (.cells #[.int .i64 0, .int .i64 0] 28 (0, 0))) := Lib.hid (by rw [hw4]; exact heap_new0 _ _)
  have HG24 : Hid (w4.heap[w1.heap.size]? = some (.cells #[.int .i64 0, .int .i64 0] 28 (0, 0))) := Lib.hid ((HB24.out.block _ (Array.getElem?_eq_some_iff.1 HG2.out).1).trans HG2.out)
  clear hb3
  go_upto_region 4 with fail
  rw [← hw4]
  clear hw4
  go_wp2_with (first | (go_at_call 23; refine (new_nil _).mono ?_; rintro e w5 ⟨rfl, hw5⟩; rw [hw5]; clear hw5 w5))
  refine (merge_nil _ _).mono ?_
  rintro e w6 ⟨rfl, hb6⟩
  have HB46 : Hid (Below w4.heap.size w4 w6) := Lib.hid ((((Below.refl _ w4).alloc (Nat.le_refl _) _).alloc (by simp) _).trans (hb6.mono (by simp; omega)))
  clear hb6
  go_wp2_with fail
  refine (put_nil n 0 _).mono ?_
  rintro e w7 ⟨rfl, hb7⟩
  have HB47 : Hid (Below w4.heap.size w4 w7) := Lib.hid (th HB46.out (Nat.le_refl _) hb7)
  have hg1 := (HB47.out.block _ (Array.getElem?_eq_some_iff.1 HG24.out).1).trans HG24.out
  have hg2 := (HB47.out.block _ (Array.getElem?_eq_some_iff.1 HG4.out).1).trans HG4.out
  have x0 : w7.cell? ⟨w1.heap.size, 0, none⟩ = some (.int .i64 0) := by rw [Lib.cell_of_heap hg1]; rfl
  have x1 : w7.cell? ⟨w1.heap.size, 1, none⟩ = some (.int .i64 0) := by rw [Lib.cell_of_heap hg1]; rfl
  have y0 : w7.cell? ⟨w3.heap.size, 0, none⟩ = some (.int .i64 0) := by rw [Lib.cell_of_heap hg2]; rfl
  have y1 : w7.cell? ⟨w3.heap.size, 1, none⟩ = some (.int .i64 0) := by rw [Lib.cell_of_heap hg2]; rfl
  clear hb7 hg1 hg2
  go_wp2_with (first | (go_at_call 13; refine (qlen_nil _).mono ?_; rintro e w8 ⟨rfl, hw8⟩; rw [hw8]; clear hw8 w8) | (go_at_call 11; refine (awake_any _).mono ?_; rintro e w9 ⟨rfl, hb9⟩))
  go_ret
  exact ⟨rfl, HB2.out.trans ((HB24.out.trans ((th HB47.out (Nat.le_refl _) hb9).mono HB24.out.size)).mono HB2.out.size)⟩
end Go.Proofs.Ytodjfebceljjgaa.U
