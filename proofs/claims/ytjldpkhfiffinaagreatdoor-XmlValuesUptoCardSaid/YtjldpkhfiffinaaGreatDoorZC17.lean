/- Contracts and plain facts that the law stands on: Q11. -/
import Derived.Test.YtjldpkhfiffinaaGreatDoorZC08
import Derived.Deep.RegionWith
import Derived.Test.YtjldpkhfiffinaaGreatDoorZC07
import Derived.Test.YtjldpkhfiffinaaGreatDoorZC05
namespace Go.Proofs.YtjldpkhfiffinaaGreatDoor.U
open Go.RowKit Go.Shelf
def TokRow (w : World) (base : Nat) (v : Value) (l : List (Tok × Value)) : Prop:=
 w.ownsRow base 73 5 v l.length (tvCells l) ∧ ∀ x ∈ l,w.ownsRow base 82 2 x.2 x.1.attrs.length (attrCells x.1.attrs)
theorem own_ne {w : World} {base base' size size' n n' : Nat} {e e' : TypeId} {v v' : Value} {xs xs' : List Value} (h : w.ownsRow base e size v n xs) (h' : w.ownsRow base' e' size' v' n' xs') (hne : e ≠ e') : v.ownBlock = none ∨ v.ownBlock ≠ v'.ownBlock:=by
 rcases h.2 with ⟨rfl,_⟩ | ⟨g,cap,cur,rfl,_,hg,_⟩
 ·exact .inl rfl
 ·refine .inr fun he=>?_
  rcases h'.2 with ⟨rfl,_⟩ | ⟨g',cap',cur',rfl,_,hg',_⟩
  ·simp [Value.ownBlock] at he
  ·simp only [Value.ownBlock,Option.some.injEq] at he
   subst he
   rw [hg] at hg'
   simp only [Option.some.injEq,Obj.cells.injEq] at hg'
   exact hne hg'.2.1
def AllPost3 (o : Except Nat (List Tok)) (w : World) (e : Ending) (w' : World) : Prop:=
 Below w.heap.size w w' ∧ ((∃ v l,o = .ok (l.map (·.1)) ∧ e = .returned (.tuple #[v,.int .i64 (-1)]) ∧ TokRow w' w.heap.size v l) ∨
  (∃ p : Nat,o = .error p ∧ e = .returned (.tuple #[.slice none 0 0,.int .i64 p])))
theorem allA_cons {f p : Nat} {acc : List Tok} {l : List UInt8} (h : l ≠ []) : allA (f + 1) p acc l = match pieceL (p == 0) l with
  | none=>.error p
  | some (x,n)=>allA f (p + n) (acc ++ [x]) (l.drop n):=by
 cases l with
 | nil=>exact absurd rfl h
 | cons c t=>rfl
theorem cell_five_new (w : World) (a b c d e : Value) (t : TypeId) : ∀ j u,[a,b,c,d,e][j]? = some u → (w.alloc (.cells #[a,b,c,d,e] t)).cell? ((⟨w.heap.size,0,none⟩ : Addr).add j) = some u:=by
 intro j u hj
 match j,hj with
 | 0,hj=>simp at hj;subst hj;simp [Addr.add]
 | 1,hj=>simp at hj;subst hj;simp [Addr.add]
 | 2,hj=>simp at hj;subst hj;simp [Addr.add]
 | 3,hj=>simp at hj;subst hj;simp [Addr.add]
 | 4,hj=>simp at hj;subst hj;simp [Addr.add]
end Go.Proofs.YtjldpkhfiffinaaGreatDoor.U
