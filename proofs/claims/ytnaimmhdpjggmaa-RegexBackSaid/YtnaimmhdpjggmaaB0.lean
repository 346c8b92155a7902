/- What the walks of this seat lean on. -/
import Derived.Test.YtnaimmhdpjggmaaRows
import Derived.Test.YtnaimmhdpjggmaaNm
import Derived.WalkKit
import Derived.WalkSpells
import Derived.WalkLawsBesides
import Derived.Lib.Hide
import Derived.Laws.Rows
import Derived.Lib.OthersKept
import Derived.Shelf.Abstract
import Derived.Lib.Strings
import Derived.Deep.QuietTactic
import Derived.BigQuiet
import Derived.BigCall
import Derived.Deep.Cut
import Derived.Deep.RegionHeld3
import Derived.Deep.RegionLaw
import Derived.Maps.AppendAt
import Derived.IntWalk
namespace Go.Proofs.Ytnaimmhdpjggmaa.U
open Go.RowKit

/-- A new block, said of the heap's size at the call's begin alone. -/
theorem al {B : Nat} {a w : World} (h : Below B a w) (hB : B ≤ a.heap.size) (o : Obj) : Below B a (w.alloc o) := h.alloc (Nat.le_trans hB h.size) o
/-- What a callee leaves alone. -/
theorem th {B : Nat} {a w w' : World} (h : Below B a w) (hB : B ≤ a.heap.size) (h' : Below w.heap.size w w') : Below B a w' := h.trans (h'.mono (Nat.le_trans hB h.size))
theorem blk_of_cell {w : World} {p : Addr} {u : Value} (h : w.cell? p = some u) : p.block < w.heap.size := World.block_lt_of_cell? w p h
theorem bF {b : Bool} : b = false ↔ ¬ b = true := by cases b <;> simp
theorem below_draw (w : World) : Below w.heap.size w w.drew := ⟨rfl, rfl, rfl, Nat.le_refl _, fun _ _ => rfl⟩
theorem below_draws (w : World) (n : Nat) : Below w.heap.size w (w.drewN n) := ⟨rfl, rfl, rfl, Nat.le_refl _, fun _ _ => rfl⟩
theorem up_cell {B : Nat} {w w' : World} {p : Addr} {u : Value} (hb : Below B w w') (hB : w.heap.size ≤ B) (h : w.cell? p = some u) : w'.cell? p = some u := (hb.cell (Nat.lt_of_lt_of_le (blk_of_cell h) hB)).trans h
theorem emp_no {s : ByteArray} (h : s.size ≠ 0) : s.toList.isEmpty = false := by
  rw [← decide_eq_emptyBytes]
  exact decide_eq_false (fun e => h (by rw [e]; rfl))
theorem bts_one (s : ByteArray) : bts (s.extract 0 1) = (bts s).take 1 := by rw [bts_extract]; rfl
end Go.Proofs.Ytnaimmhdpjggmaa.U
