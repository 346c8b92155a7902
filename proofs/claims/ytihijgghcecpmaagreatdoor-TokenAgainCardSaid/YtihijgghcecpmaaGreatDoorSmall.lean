/- Small laws on what a call has left alone. No dump is read here. -/
import Derived.WalkSpells
namespace Go.Proofs.YtihijgghcecpmaaGreatDoor.U
open Go.RowKit

/-- A new block, said of the heap's size at the call's begin alone. -/
theorem al {B : Nat} {a w : World} (h : Below B a w) (hB : B ≤ a.heap.size) (o : Obj) : Below B a (w.alloc o) := h.alloc (Nat.le_trans hB h.size) o
/-- What a callee leaves alone. -/
theorem th {B : Nat} {a w w' : World} (h : Below B a w) (hB : B ≤ a.heap.size) (h' : Below w.heap.size w w') : Below B a w' := h.trans (h'.mono (Nat.le_trans hB h.size))
end Go.Proofs.YtihijgghcecpmaaGreatDoor.U
