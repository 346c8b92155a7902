/- A maker's pairs and stars. -/
import Derived.Test.YtnaimmhdpjggmaaMv
namespace Go.Proofs.Ytnaimmhdpjggmaa.U
open Go.RowKit

theorem nc_fresh (w : World) (x : Nd) (t : TypeId) : NC (w.alloc (.cells #[.int .i64 x.op, .string ⟨x.sym.toArray⟩, .int .i64 x.a, .int .i64 x.b] t)) w.heap.size 0 x := by
  have h := WR.new w t [.int .i64 x.op, .string ⟨x.sym.toArray⟩, .int .i64 x.a, .int .i64 x.b]
  exact ⟨h.cell rfl, h.cell rfl, h.cell rfl, h.cell rfl⟩
/-- The contract of add behind a literal of one node. -/
theorem add_lit (rb : Nat) (st : PS) (x : Nd) (t : TypeId) (w : World) (h : RdM w rb st) : Calls Try.prog 82 #[.pointer (some ⟨rb, 2, none⟩), .slice (some ⟨w.heap.size, 0, none⟩) 1 1] (w.alloc (.cells #[.int .i64 x.op, .string ⟨x.sym.toArray⟩, .int .i64 x.a, .int .i64 x.b] t)) fun e w' => AddPost rb (addS st [x]) w e w' := by
  have hb : Below w.heap.size w (w.alloc (.cells #[.int .i64 x.op, .string ⟨x.sym.toArray⟩, .int .i64 x.a, .int .i64 x.b] t)) := (Below.refl _ w).alloc (Nat.le_refl _) _
  refine (add_one rb w.heap.size st x _ (h.below hb) (nc_fresh w x t)).mono ?_
  rintro e w' ⟨h1, h2, h3⟩
  exact ⟨h1, h2, (rb_below (Nat.le_of_lt h.lt) hb).trans h3⟩
set_option maxHeartbeats 2000000 in
theorem pair_any (rb : Nat) (kind a : Int) (st : PS) (w : World) (h : RdM w rb st) : Calls Try.prog 73 #[.pointer (some ⟨rb, 2, none⟩), .int .i64 kind, .int .i64 a] w fun e w' => AddPost rb (pairS st kind a) w e w' := by
  have HL := Lib.hid (last_any rb st w h)
  have HA := Lib.hid (add_lit rb st ⟨kind, [], a, lastS st⟩ 45 w h)
  clear h
  go_enter Try.func73, Try.ntmps73
  go_wp2_with fail
  refine HL.out.mono ?_
  rintro e w2 ⟨rfl, rfl⟩
  go_wp2_with fail
  refine HA.out.mono ?_
  rintro e w2 hp
  have HP := Lib.hid hp
  obtain ⟨rfl, -, -⟩ := hp
  go_wp2_with fail
  go_end0
  exact HP.out
set_option maxHeartbeats 2000000 in
theorem star_any (rb : Nat) (st : PS) (w : World) (h : RdM w rb st) : Calls Try.prog 84 #[.pointer (some ⟨rb, 2, none⟩)] w fun e w' => AddPost rb (starS st) w e w' := by
  have HL := Lib.hid (last_any rb st w h)
  have HA := Lib.hid (add_lit rb st ⟨5, [], lastS st, 0⟩ 45 w h)
  clear h
  go_enter Try.func84, Try.ntmps84
  go_wp2_with fail
  refine HL.out.mono ?_
  rintro e w2 ⟨rfl, rfl⟩
  go_wp2_with fail
  refine HA.out.mono ?_
  rintro e w2 hp
  have HP := Lib.hid hp
  obtain ⟨rfl, -, -⟩ := hp
  go_wp2_with fail
  go_end0
  exact HP.out
end Go.Proofs.Ytnaimmhdpjggmaa.U
