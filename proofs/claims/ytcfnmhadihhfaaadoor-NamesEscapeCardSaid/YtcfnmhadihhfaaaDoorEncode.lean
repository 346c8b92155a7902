/- The contract of utf.Encode. -/
import Derived.Test.YtcfnmhadihhfaaaDoorPut
import Derived.Test.YtcfnmhadihhfaaaDoorIs
namespace Go.Proofs.YtcfnmhadihhfaaaDoor.U
open Go.RowKit

/-- The bytes of the first k numbers. -/
def encs (zs : List Int) : List Int := zs.flatMap encC

theorem encs_snoc (zs : List Int) (r : Int) : encs (zs ++ [r]) = encs zs ++ encC r := by simp [encs]
theorem encs_len (zs : List Int) : (encs zs).length ≤ 4 * zs.length := by
  induction zs with
  | nil => simp [encs]
  | cons r l ih =>
    have h1 : (encC r).length ≤ 4 := by rw [encC_len]; unfold sizeC; repeat' split
                                        all_goals omega
    simp only [encs, List.flatMap_cons, List.length_append, List.length_cons] at ih ⊢
    omega

/-- What a slice of integers that came in is: nil; or it leads to a row of cells. -/
def IsRow (k : IntKind) (w : World) (a : Option Addr) (len cap : Nat) (zs : List Int) : Prop :=
  (a = none ∧ len = 0 ∧ cap = 0 ∧ zs = []) ∨
  ∃ x, a = some x ∧ len ≤ cap ∧ cap ≤ maxLen ∧ zs.length = cap ∧ (∀ i, i < zs.length → w.cell? (x.add i) = some (.int k (zs.getD i 0))) ∧ ∀ n ∈ zs, (Lit.int k n).wf = true

/-- A slice of len numbers zs: where there is an element, its cells lie in one block. -/
def Reads (k : IntKind) (w : World) (a : Option Addr) (len : Nat) (zs : List Int) : Prop :=
  zs.length = len ∧ (0 < len → ∃ b off, a = some ⟨b, off, none⟩ ∧ ∀ i, i < len → w.cell? ⟨b, off + i, none⟩ = some (.int k (zs.getD i 0)))

theorem take_snoc {zs : List Int} {k : Nat} (h : k < zs.length) : zs.take (k + 1) = zs.take k ++ [zs[k]?.getD 0] := by
  rw [List.take_succ_eq_append_getElem h, List.getElem?_eq_getElem h]; rfl
theorem all_snoc {zs : List Int} {k : Nat} (h : k < zs.length) : (zs.take (k + 1)).all isC = ((zs.take k).all isC && isC (zs[k]?.getD 0)) := by
  rw [take_snoc h]; simp
theorem all_false {zs : List Int} {k : Nat} (h : k < zs.length) (hc : isC (zs[k]?.getD 0) = false) : zs.all isC = false := by
  rw [List.all_eq_false]
  refine ⟨zs[k], List.getElem_mem h, ?_⟩
  rw [List.getElem?_eq_getElem h] at hc
  simpa using hc

/-- What the call owns stays owned behind a callee that leaves alone what was there. -/
theorem own_below {w w' : World} {base : Nat} {e : TypeId} {size : Nat} {v : Value} {n : Nat} {xs : List Value} (h : w.ownsRow base e size v n xs) (hb : Below w.heap.size w w') : w'.ownsRow base e size v n xs :=
  h.kept (row := none) ⟨hb.os, hb.tape, hb.output, hb.size, fun k hk _ => hb.block k hk⟩ (by cases v.ownBlock <;> simp)

end Go.Proofs.YtcfnmhadihhfaaaDoor.U
