/- What the walks of layer 1 lean on: the two tables of package utf in memory. -/
import Derived.Test.YtihijgghcecpmaaGreatDoorRows
import Derived.Test.YtihijgghcecpmaaGreatDoorQ1
import Derived.WalkKit
import Derived.WalkSpells
import Derived.WalkLawsBesides
import Derived.Lib.Hide
import Derived.Laws.Rows
namespace Go.Proofs.YtihijgghcecpmaaGreatDoor.U
open Go.RowKit

/-- What the two tables of package utf hold: the blocks of the two package-level variables. -/
structure Lay (w : World) : Prop where
  spans : ∃ t fr, w.heap[1]? = some (.cells #[.int .i32 9, .int .i32 10, .int .i32 13, .int .i32 13, .int .i32 32, .int .i32 55295, .int .i32 57344, .int .i32 65533, .int .i32 65536, .int .i32 1114111] t fr)
  rows : ∃ t fr, w.heap[0]? = some (.cells #[.int .i32 128, .int .u8 0, .int .u8 127, .int .i32 2048, .int .u8 192, .int .u8 223, .int .i32 65536, .int .u8 224, .int .u8 239, .int .i32 2097152, .int .u8 240, .int .u8 247] t fr)

theorem Lay.size {w : World} (h : Lay w) : 2 ≤ w.heap.size := by
  obtain ⟨_, _, h1⟩ := h.rows
  obtain ⟨_, _, h2⟩ := h.spans
  have := lt_of_block h1
  have := lt_of_block h2
  omega

theorem Lay.below {w w' : World} {B : Nat} (h : Lay w) (hb : Below B w w') (hB : 2 ≤ B) : Lay w' := by
  obtain ⟨⟨t, f, h0⟩, ⟨t', f', h1⟩⟩ := h
  exact ⟨⟨t, f, by rw [hb.block 1 (by omega)]; exact h0⟩, ⟨t', f', by rw [hb.block 0 (by omega)]; exact h1⟩⟩

end Go.Proofs.YtihijgghcecpmaaGreatDoor.U
