/- How a function that answers one truth value out of a box is left, behind no, one or two loops over an iterator. No dump is read here. -/
import Derived.RangeFuncNested
import Derived.RangeFuncBox
import Derived.RangeFuncLeaves
import Derived.WalkSpells
namespace Go.Proofs.YtomlmpcjbdkobaaDoor.U
open Go.RowKit

theorem res_box {P : Program} {fn : Func} {tmps : Array Value} {w : World} {p B : Nat} {v : Bool} (hf : fn.results = #[.cell p 4]) (hp : tmps[p]?.getD undef = .pointer (some ⟨B, 0, none⟩)) (ht : P.underlying 4 = some .bool) (hb : Boxed w B 4 (.bool v)) :
    (results fn tmps).run P w = .ok (.bool v) w := by
  have hc := hb.cell
  have hagg : (isAgg 4).run P w = .ok false w := by
    unfold isAgg
    rw [Sem.run_bind, run_underlying ht w]
    simp
  simp [results, hf, hp, go_sem, hc, hagg]

theorem box_putObj {w : World} {B D t : Nat} {v : Value} {o : Obj} (h : Boxed w B t v) (hD : w.heap[D]? = some (.deferred (some []))) : Boxed (w.putObj D o) B t v := by
  refine h.kept (grownBy_putObj' w D o) (fun e => ?_)
  cases e
  rw [show w.heap[B]? = _ from h] at hD
  cases hD

theorem below_putObj {n₀ : Nat} {W w : World} {D : Nat} {o : Obj} (h : Below n₀ W w) (hn : n₀ ≤ D) (hD : n₀ ≤ w.heap.size) : Below n₀ W (w.putObj D o) :=
  h.grown (grownBy_putObj' w D o) hD (fun k e => by cases e; exact hn)

theorem leave0 {F : Fence} {n : Nat} {P : Program} {fn : Func} {tmps : Array Value} {W w : World} {p B : Nat} (hf : fn.results = #[.cell p 4]) (ht : P.underlying 4 = some .bool) (hp : tmps[p]?.getD undef = .pointer (some ⟨B, 0, none⟩)) (hb : Boxed w B 4 (.bool true)) (hB : Below W.heap.size W w) :
    LeavesInM F n P fn tmps (fun e w' => e = .returned (.bool true) ∧ Below W.heap.size W w') [] .returning w :=
  ⟨_, res_box hf hp ht hb, rfl, hB⟩

theorem leave1 {F : Fence} {n : Nat} {P : Program} {fn : Func} {tmps : Array Value} {W w : World} {p B D : Nat} (hf : fn.results = #[.cell p 4]) (ht : P.underlying 4 = some .bool) (hp : tmps[p]?.getD undef = .pointer (some ⟨B, 0, none⟩)) (hb : Boxed w B 4 (.bool true)) (hB : Below W.heap.size W w)
    (hD : w.heap[D]? = some (.deferred (some []))) (hDn : W.heap.size ≤ D) :
    LeavesInM F n P fn tmps (fun e w' => e = .returned (.bool true) ∧ Below W.heap.size W w') [{ target := .collected D, args := #[] }] .returning w :=
  ⟨by simp, .inl ⟨D, _, rfl, run_takeDeferred hD, leave0 hf ht hp (box_putObj hb hD) (below_putObj hB hDn hB.size)⟩⟩

theorem leave2 {F : Fence} {n : Nat} {P : Program} {fn : Func} {tmps : Array Value} {W w : World} {p B D E : Nat} (hf : fn.results = #[.cell p 4]) (ht : P.underlying 4 = some .bool) (hp : tmps[p]?.getD undef = .pointer (some ⟨B, 0, none⟩)) (hb : Boxed w B 4 (.bool true)) (hB : Below W.heap.size W w)
    (hD : w.heap[D]? = some (.deferred (some []))) (hDn : W.heap.size ≤ D) (hE : w.heap[E]? = some (.deferred (some []))) (hEn : W.heap.size ≤ E) (hDE : E ≠ D) :
    LeavesInM F n P fn tmps (fun e w' => e = .returned (.bool true) ∧ Below W.heap.size W w') [{ target := .collected D, args := #[] }, { target := .collected E, args := #[] }] .returning w :=
  ⟨by simp, .inl ⟨D, _, rfl, run_takeDeferred hD, leave1 hf ht hp (box_putObj hb hD) (below_putObj hB hDn hB.size) ((World.putObj_heap_other hDE).trans hE) hEn⟩⟩
end Go.Proofs.YtomlmpcjbdkobaaDoor.U
