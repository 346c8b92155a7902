/- Contracts and plain facts that the law stands on: Srt0, Rr0, Lb, TrG. -/
import Derived.Test.YtjldpkhfiffinaaGreatDoorZC10
import Derived.Test.YtjldpkhfiffinaaGreatDoorZC08
import Derived.Shelf.GgSortFunc.InsertionK
import Derived.Test.YtjldpkhfiffinaaGreatDoorZC12
import Derived.Test.YtjldpkhfiffinaaGreatDoorZC24
import Derived.Test.YtjldpkhfiffinaaGreatDoorZC17
import Derived.Test.YtjldpkhfiffinaaGreatDoorZC02
import Derived.Test.YtjldpkhfiffinaaGreatDoorZC03
namespace Go.Proofs.YtjldpkhfiffinaaGreatDoor.U
open Go.RowKit
def OneName (l : List (List UInt8 × List UInt8)) : Prop:=l.Pairwise fun a b=>a.1 ≠ b.1
theorem hasA_false {l : List (List UInt8 × List UInt8)} {n : List UInt8} (h : hasA l n = false) : ∀ a ∈ l,a.1 ≠ n:=by
 intro a ha e
 unfold hasA at h
 rw [List.any_eq_false] at h
 exact h a ha (by simp [e])
theorem oneName_of : ∀ {l p : List (List UInt8 × List UInt8)},dupA p l = false → OneName l ∧ ∀ a ∈ p,∀ b ∈ l,a.1 ≠ b.1:=by
 intro l
 induction l with
 | nil=>intro p _;exact ⟨List.Pairwise.nil,fun a _ b hb=>by cases hb⟩
 | cons x r ih=>
  intro p h
  unfold dupA at h
  rw [Bool.or_eq_false_iff] at h
  obtain ⟨h1,h2⟩:=ih h.2
  have h3:=hasA_false h.1
  refine ⟨List.Pairwise.cons (fun b hb=>h2 x (by simp) b hb) h1,fun a ha b hb=>?_⟩
  rcases List.mem_cons.1 hb with rfl | hb
  ·exact h3 a ha
  ·exact h2 a (by simp [ha]) b hb
theorem insA_perm (a : List UInt8 × List UInt8) : ∀ l,(insA a l).Perm (a :: l):=by
 intro l
 induction l with
 | nil=>exact List.Perm.refl _
 | cons b r ih=>
  unfold insA
  split
  ·exact (ih.cons b).trans (List.Perm.swap _ _ _)
  ·exact List.Perm.refl _
theorem foldA_perm : ∀ (l acc : List (List UInt8 × List UInt8)),(l.foldl (fun acc a=>insA a acc) acc).Perm (acc ++ l):=by
 intro l
 induction l with
 | nil=>intro acc;rw [List.append_nil];exact List.Perm.refl _
 | cons a r ih=>
  intro acc
  rw [List.foldl_cons]
  refine (ih _).trans (((insA_perm a acc).append_right r).trans ?_)
  rw [List.cons_append]
  exact List.perm_middle.symm
theorem sortA_perm (l : List (List UInt8 × List UInt8)) : (sortA l).Perm l:=by
 have:=foldA_perm l []
 rw [List.nil_append] at this
 exact this
theorem ltB_tri {a b : List UInt8} (h : a ≠ b) (h1 : ltB a b = false) : ltB b a = true:=by
 have:=ltB_total h1
 rw [Bool.or_eq_true] at this
 rcases this with h2 | h2
 ·exact h2
 ·exact absurd (beq_iff_eq.1 h2).symm h
def upA (a b : List UInt8 × List UInt8) : Prop:=ltB a.1 b.1 = true
theorem insA_up (a : List UInt8 × List UInt8) : ∀ l,List.Pairwise upA l → (∀ b ∈ l,b.1 ≠ a.1) → List.Pairwise upA (insA a l):=by
 intro l
 induction l with
 | nil=>intro _ _;exact List.pairwise_singleton _ _
 | cons b r ih=>
  intro h hn
  obtain ⟨h1,h2⟩:=List.pairwise_cons.1 h
  unfold insA
  split
  ·next hb=>
   refine List.pairwise_cons.2 ⟨fun c hc=>?_,ih h2 (fun c hc=>hn c (by simp [hc]))⟩
   rcases List.mem_cons.1 ((insA_perm a r).subset hc) with rfl | hc
   ·exact hb
   ·exact h1 c hc
  ·next hb=>
   have hab : upA a b:=ltB_tri (hn b (by simp)) (by simpa using hb)
   refine List.pairwise_cons.2 ⟨fun c hc=>?_,h⟩
   rcases List.mem_cons.1 hc with rfl | hc
   ·exact hab
   ·exact ltB_trans hab (h1 c hc)
theorem foldA_up : ∀ (l acc : List (List UInt8 × List UInt8)),List.Pairwise upA acc → OneName l → (∀ a ∈ acc,∀ b ∈ l,a.1 ≠ b.1) → List.Pairwise upA (l.foldl (fun acc a=>insA a acc) acc):=by
 intro l
 induction l with
 | nil=>intro acc h _ _;exact h
 | cons a r ih=>
  intro acc h hn hd
  obtain ⟨h1,h2⟩:=List.pairwise_cons.1 hn
  rw [List.foldl_cons]
  refine ih _ (insA_up a acc h (fun b hb=>hd b hb a (by simp))) h2 (fun b hb c hc=>?_)
  rcases List.mem_cons.1 ((insA_perm a acc).subset hb) with rfl | hb
  ·exact h1 c hc
  ·exact hd b hb c (by simp [hc])
theorem sortA_up {l : List (List UInt8 × List UInt8)} (h : OneName l) : List.Pairwise upA (sortA l):=foldA_up l [] List.Pairwise.nil h (fun a ha=>by cases ha)
theorem sortA_only {l d : List (List UInt8 × List UInt8)} (hn : OneName l) (hp : d.Perm l) (hs : ∀ i j (hj : j < d.length) (hi : i < j),ltB (d[j]'hj).1 (d[i]'(by omega)).1 = false) : d = sortA l:=by
 have hnd : OneName d:=by
  refine (List.Perm.pairwise_iff (fun h e=>h e.symm) hp).2 hn
 have hd : List.Pairwise upA d:=by
  rw [List.pairwise_iff_getElem]
  intro i j hi hj hij
  unfold OneName at hnd
  rw [List.pairwise_iff_getElem] at hnd
  exact ltB_tri (fun e=>hnd i j hi hj hij e.symm) (hs i j hj hij)
 refine List.Perm.eq_of_pairwise (le:=upA) (fun a b _ _ h1 h2=>?_) hd (sortA_up hn) (hp.trans (sortA_perm l).symm)
 unfold upA at h1 h2
 rw [ltB_asymm h1] at h2
 cases h2
theorem sortA_length (l : List (List UInt8 × List UInt8)) : (sortA l).length = l.length:=(sortA_perm l).length_eq
def cmpB (a b : List UInt8) : Int:=if ltB a b = true then -1 else if ltB b a = true then 1 else 0
theorem cmpB_lt (a b : List UInt8) : decide (cmpB a b < 0) = ltB a b:=by
 unfold cmpB
 cases h : ltB a b with
 | true=>simp
 | false=>
  cases h2 : ltB b a with
  | true=>simp
  | false=>simp
def encA (x : List UInt8 × List UInt8) : List Value:=[.string ⟨x.1.toArray⟩,.string ⟨x.2.toArray⟩]
open Go.Sort in
theorem flat_attr (l : List (List UInt8 × List UInt8)) : flatK encA 2 l.toArray = (attrCells l).toArray:=by
 apply ext_get!
 ·rw [size_flatK];simp [attrCells_len]
 ·intro t ht
  rw [size_flatK] at ht
  have ht' : t < l.length * 2:=by simpa using ht
  rw [get_flatK _ _ _ _ ht]
  have hd : t / 2 < l.length:=by omega
  obtain ⟨h1,h2⟩:=attrCells_get l (t / 2) hd
  have hl : l.toArray[t / 2]! = l[t / 2]:=by
   rw [getElem!_pos _ _ (by simpa using hd)]
   simp
  rw [hl]
  have hg : ∀ v,(attrCells l)[t]? = some v → (attrCells l).toArray[t]! = v:=fun v hv=>by
   obtain ⟨h5,h6⟩:=List.getElem?_eq_some_iff.1 hv
   rw [getElem!_pos _ _ (by simpa using h5)]
   simpa using h6
  rcases Nat.mod_two_eq_zero_or_one t with hm | hm
  ·rw [hm,hg _ (by have:=h1;rw [show t / 2 * 2 = t by omega] at this;exact this)]
   rfl
  ·rw [hm,hg _ (by have:=h2;rw [show t / 2 * 2 + 1 = t by omega] at this;exact this)]
   rfl
open Go.Sort in
theorem own_sorted {w : World} {base g cap m : Nat} {l d : List (List UInt8 × List UInt8)} {os : Array Obj} (h : w.ownsRow base 82 2 (.slice (some ⟨g,0,none⟩) l.length cap) l.length (attrCells l)) (hd : d.length = l.length) :
  (sortWorldK encA 2 w g 0 m d.toArray os).ownsRow base 82 2 (.slice (some ⟨g,0,none⟩) l.length cap) l.length (attrCells d) ∧ w.grownBy (sortWorldK encA 2 w g 0 m d.toArray os) (some g):=by
 obtain ⟨h0,h⟩:=h
 rcases h with ⟨h,_⟩ | ⟨g',cap',cur,e,h2,h3,h4,h5,h6,h7⟩
 ·cases h
 ·simp only [Value.slice.injEq,Option.some.injEq,Addr.mk.injEq,and_true,true_and] at e
  obtain ⟨rfl,rfl⟩:=e
  have hgl:=(Array.getElem?_eq_some_iff.1 h3).1
  have hh : ∀ k,k < w.heap.size → (sortWorldK encA 2 w g 0 m d.toArray os).heap[k]? = (w.heap.modify g (onCells (putCells id 0 (flatK encA 2 d.toArray))))[k]?:=fun k hk=>by
   show (w.heap.modify g _ ++ os)[k]? = _
   rw [Array.getElem?_append_left (by simpa using hk)]
  refine ⟨⟨by rw [attrCells_len,hd],.inr ⟨g,cap,putCells id 0 (flatK encA 2 d.toArray) cur,rfl,h2,?_,h4,h5,?_,?_⟩⟩,⟨rfl,rfl,rfl,?_,fun k hk hne=>?_⟩⟩
  ·rw [hh g hgl,Array.getElem?_modify,if_pos rfl,h3]
   rfl
  ·unfold putCells;rw [Array.size_mapIdx];exact h6
  ·rw [flat_attr]
   apply List.ext_getElem?
   intro k
   have hsz : (attrCells d).length = l.length * 2:=by rw [attrCells_len,hd]
   rw [List.getElem?_take]
   split
   ·next hk=>
    unfold putCells
    rw [Array.getElem?_toList,Array.getElem?_mapIdx,Array.getElem?_eq_getElem (by rw [h6];have:=Nat.mul_le_mul_right 2 h4;omega),Option.map_some]
    rw [if_pos (by simp;omega)]
    rw [Nat.sub_zero,getElem!_pos _ _ (by simp;omega)]
    first | (simp;done) | (simp;omega)
   ·next hk=>rw [List.getElem?_eq_none (by omega)]
  ·show w.heap.size ≤ (w.heap.modify g _ ++ os).size
   simp
  ·rw [hh k hk,Array.getElem?_modify,if_neg (fun e=>hne (by rw [e]))]
open Go.Sort in
theorem holds_attr {w : World} {base g cap : Nat} {l : List (List UInt8 × List UInt8)} (h : w.ownsRow base 82 2 (.slice (some ⟨g,0,none⟩) l.length cap) l.length (attrCells l)) : HoldsK encA 2 w g 0 l.toArray:=by
 unfold HoldsK
 rw [flat_attr]
 intro j hj
 have hj' : j < (attrCells l).length:=by simpa using hj
 have hc:=h.cells rfl j _ (List.getElem?_eq_getElem hj')
 rw [add_zero_at] at hc
 rw [Nat.zero_add]
 refine ⟨by rw [hc];show _ = some ((attrCells l).toArray[j]!);rw [getElem!_pos (attrCells l).toArray j hj];simp,?_⟩
 rcases h.2 with ⟨h9,_⟩ | ⟨g',cap',cur,e,_,h3,_⟩
 ·cases h9
 ·simp only [Value.slice.injEq,Option.some.injEq,Addr.mk.injEq,and_true,true_and] at e
  obtain ⟨rfl,rfl⟩:=e
  exact Lib.frozen_of_heap h3 j
def ixOf : Nat → List (Tok × Value) → Nat → Option Nat
 | _,[],_=>none
 | i,x :: r,b=>if x.2.ownBlock = some b then some i else ixOf (i + 1) r b
theorem ixOf_get : ∀ {l : List (Tok × Value)} {i k b : Nat} {x : Tok × Value},ApartT l → l[k]? = some x → x.2.ownBlock = some b → ixOf i l b = some (i + k):=by
 intro l
 induction l with
 | nil=>intro i k b x _ h;simp at h
 | cons y r ih=>
  intro i k b x ha h hb
  unfold ApartT at ha
  obtain ⟨h1,h2⟩:=List.pairwise_cons.1 ha
  unfold ixOf
  cases k with
  | zero=>
   simp only [List.getElem?_cons_zero,Option.some.injEq] at h
   subst h
   rw [if_pos hb]
   rfl
  | succ k=>
   simp only [List.getElem?_cons_succ] at h
   have h3:=h1 x (List.mem_of_getElem? h)
   rw [if_neg (fun e=>by rcases h3 with h3 | h3;rw [h3] at e;cases e;exact h3 (e.trans hb.symm))]
   rw [ih h2 h hb]
   congr 1
   omega
def part0 (l : List (Tok × Value)) (n0 : Nat) : Part:=fun b=>
 if b = n0 + 1 then (2,0) else if b = n0 + 2 then (1,0) else if b = n0 + 3 then (6,0)
 else match ixOf 0 l b with
  | some j=>(5,j)
  | none=>if b ≤ n0 then (7,0) else (0,0)
def sumX (ts : List Tok) : Nat:=(ts.map (fun t=>t.text.length)).sum
theorem sumX_snoc (ts : List Tok) (t : Tok) : sumX (ts ++ [t]) = sumX ts + t.text.length:=by unfold sumX;simp
def Small (k B : Nat) (fs : List Fr) : Prop:=fs.length ≤ k ∧ ∀ f ∈ fs,f.kids.length ≤ k ∧ ∀ T ∈ f.kids,(trX T).length ≤ B
theorem stepA_small {fs fs' : List Fr} {root root' : Option Tr} {t : Tok} {k B : Nat} (h : Small k B fs) (hs : stepA fs root t = some (fs',root')) : Small (k + 1) (B + t.text.length) fs':=by
 have add : ∀ (T : Tr) (gs : List Fr),trX T = [] → (∀ f ∈ gs,f ∈ fs) → gs.length ≤ k → (addTr T gs root) = (fs',root') → Small (k + 1) (B + t.text.length) fs':=by
  intro T gs hT hg hlen e
  cases gs with
  | nil=>
   simp only [addTr,Prod.mk.injEq] at e
   obtain ⟨rfl,rfl⟩:=e
   exact ⟨by simp,fun f hf=>by cases hf⟩
  | cons g q=>
   simp only [addTr,Prod.mk.injEq] at e
   obtain ⟨rfl,rfl⟩:=e
   refine ⟨by simp at hlen ⊢;omega,fun f hf=>?_⟩
   rcases List.mem_cons.1 hf with rfl | hf
   ·obtain ⟨h1,h2⟩:=h.2 g (hg g (by simp))
    refine ⟨by simp;omega,fun U hU=>?_⟩
    simp only at hU
    rcases List.mem_append.1 hU with hU | hU
    ·have:=h2 U hU;omega
    ·rw [List.mem_singleton.1 hU,hT];simp
   ·obtain ⟨h1,h2⟩:=h.2 f (hg f (by simp [hf]))
    exact ⟨by omega,fun U hU=>by have:=h2 U hU;omega⟩
 have more : ∀ f ∈ fs,f.kids.length ≤ k + 1 ∧ ∀ T ∈ f.kids,(trX T).length ≤ B + t.text.length:=fun f hf=>by
  obtain ⟨h1,h2⟩:=h.2 f hf
  exact ⟨by omega,fun U hU=>by have:=h2 U hU;omega⟩
 have hl:=h.1
 unfold stepA at hs
 split at hs
 ·split at hs
  ·cases hs
  ·split at hs
   ·injection hs with hs
    exact add _ fs rfl (fun f hf=>hf) hl hs
   ·injection hs with hs
    simp only [Prod.mk.injEq] at hs
    obtain ⟨rfl,rfl⟩:=hs
    refine ⟨by simp;omega,fun f hf=>?_⟩
    rcases List.mem_cons.1 hf with rfl | hf
    ·exact ⟨by simp,fun T hT=>by cases hT⟩
    ·exact more f hf
 ·split at hs
  ·cases fs with
   | nil=>cases hs
   | cons f q=>
    simp only at hs
    split at hs
    ·cases hs
    ·injection hs with hs
     exact add _ q rfl (fun g hg=>by simp [hg]) (by simp at hl;omega) hs
  ·split at hs
   ·cases fs with
    | nil=>
     simp only at hs
     split at hs
     ·cases hs
     ·injection hs with hs
      simp only [Prod.mk.injEq] at hs
      obtain ⟨rfl,rfl⟩:=hs
      exact ⟨by simp,fun f hf=>by cases hf⟩
    | cons f q=>
     simp only at hs
     split at hs
     ·injection hs with hs
      simp only [Prod.mk.injEq] at hs
      obtain ⟨rfl,rfl⟩:=hs
      exact ⟨by omega,more⟩
     ·injection hs with hs
      simp only [Prod.mk.injEq] at hs
      obtain ⟨rfl,rfl⟩:=hs
      refine ⟨by simp at hl ⊢;omega,fun g hg=>?_⟩
      rcases List.mem_cons.1 hg with rfl | hg
      ·obtain ⟨h1,h2⟩:=h.2 f (by simp)
       refine ⟨?_,fun U hU=>?_⟩
       ·simp only
        unfold addTx
        split
        ·simp;omega
        ·simp;omega
       ·simp only at hU
        unfold addTx at hU
        split at hU
        ·next tx a b hlast=>
         rcases List.mem_append.1 hU with hU | hU
         ·have:=h2 U ((List.dropLast_sublist _).subset hU);omega
         ·rw [List.mem_singleton.1 hU]
          have:=h2 _ (List.mem_of_getLast? hlast)
          simp only [trX,List.length_append] at this ⊢
          omega
        ·rcases List.mem_append.1 hU with hU | hU
         ·have:=h2 U hU;omega
         ·rw [List.mem_singleton.1 hU];simp [trX]
      ·exact more g (by simp [hg])
   ·injection hs with hs
    simp only [Prod.mk.injEq] at hs
    obtain ⟨rfl,rfl⟩:=hs
    exact ⟨by omega,more⟩
def RInv (l : List (Tok × Value)) (base : Nat) (a : Option Addr) (c rb : Nat) (w : World) (k : Nat) (fs : List Fr) (root : Option Tr) (ρ : Part) (ps : List Nat) (vs : List (Value × Value)) (g cg : Nat) (wr : World) : Prop:=
 k ≤ l.length ∧ treeL (l.map (·.1)) = treeA k fs root ((l.map (·.1)).drop k) ∧ FsOk fs root ∧ (∀ f ∈ fs,f.lb ≠ []) ∧ Small k (sumX ((l.map (·.1)).take k)) fs ∧ RdV ρ wr base rb (stk fs root) ps vs g cg ∧
  wr.ownsRow base 119 5 (.slice a l.length c) l.length (tvCells l) ∧ (∀ b,(Value.slice a l.length c).ownBlock = some b → ρ b = (7,0)) ∧
  (∀ j x,k ≤ j → l[j]? = some x → wr.ownsRow base 82 2 x.2 x.1.attrs.length (attrCells x.1.attrs) ∧ ∀ b,x.2.ownBlock = some b → ρ b = (5,j)) ∧ Below base w wr ∧ w.heap.size ≤ wr.heap.size ∧ ρ w.heap.size = (7,0)
theorem RInv.next {l : List (Tok × Value)} {base : Nat} {a : Option Addr} {c rb : Nat} {w : World} {k : Nat} {fs fs' : List Fr} {root root' : Option Tr} {ρ ρ' : Part} {ps ps' : List Nat} {vs vs' : List (Value × Value)} {g cg g' cg' : Nat} {wr w' : World} {x : Tok × Value} (h : RInv l base a c rb w k fs root ρ ps vs g cg wr) (hx : l[k]? = some x) (hn : x.1.kind = 2 → x.1.name ≠ [])
  (hs : stepA fs root x.1 = some (fs',root')) (hR : RdV ρ' w' base rb (stk fs' root') ps' vs' g' cg') (hf : ∀ b,b < wr.heap.size → Fix k (ρ b) → ρ' b = ρ b ∧ w'.heap[b]? = wr.heap[b]?) (hb : Below base wr w') (h0 : w.heap.size < wr.heap.size) : RInv l base a c rb w (k + 1) fs' root' ρ' ps' vs' g' cg' w':=by
 obtain ⟨h1,h2,h3,h4,h5,h6,h7,h8,h9,h10,h11,h12⟩:=h
 have hk : k < l.length:=(List.getElem?_eq_some_iff.1 hx).1
 have hxm : (l.map (·.1))[k]? = some x.1:=by rw [List.getElem?_map,hx];rfl
 obtain ⟨g1,g2,_⟩:=stepA_ok h3 hn h4 hs
 have hdrop : (l.map (·.1)).drop k = x.1 :: (l.map (·.1)).drop (k + 1):=by
  rw [List.drop_eq_getElem_cons (by simpa using hk)]
  congr 1
  have:=List.getElem?_eq_some_iff.1 hxm
  exact this.2
 have htake : (l.map (·.1)).take (k + 1) = (l.map (·.1)).take k ++ [x.1]:=by rw [List.take_add_one,hxm];rfl
 have hsm:=stepA_small h5 hs
 refine ⟨by omega,?_,g1,g2,by rw [htake,sumX_snoc];exact hsm,hR,?_,?_,?_,h10.trans hb,Nat.le_trans h11 hb.size,?_⟩
 ·rw [h2,hdrop,stepA_tree h3,hs]
 ·refine own_heap h7 (fun b hb=>(hf b (h7.lt b hb).2 (.inl (h8 b hb))).2)
 ·intro b hb
  rw [(hf b (h7.lt b hb).2 (.inl (h8 b hb))).1]
  exact h8 b hb
 ·intro j y hj hy
  obtain ⟨k1,k2⟩:=h9 j y (by omega) hy
  have hfix : ∀ b,y.2.ownBlock = some b → Fix k (ρ b):=fun b hb=>.inr (by rw [k2 b hb];exact ⟨rfl,by simp;omega⟩)
  exact ⟨own_heap k1 (fun b hb=>(hf b (k1.lt b hb).2 (hfix b hb)).2),fun b hb=>by rw [(hf b (k1.lt b hb).2 (hfix b hb)).1];exact k2 b hb⟩
 ·rw [(hf _ h0 (.inl h12)).1];exact h12
theorem RInv.start {l : List (Tok × Value)} {base : Nat} {a : Option Addr} {c : Nat} {w W : World} (h : TokRowK w base (.slice a l.length c) l) (hap : ApartT l) (hb0 : base ≤ w.heap.size) (hW : Below w.heap.size w W)
  (hp : Box4 (w.heap.size + 1) ⟨#[]⟩ ⟨#[]⟩ (.slice none 0 0) (.slice none 0 0) W) (hg : W.heap[w.heap.size + 2]? = some (.cells #[.pointer (some ⟨w.heap.size + 1,0,none⟩)] 122 (0,0))) (hr : W.heap[w.heap.size + 3]? = some (.cells #[.slice (some ⟨w.heap.size + 2,0,none⟩) 1 1] 125 (0,0))) :
  RInv l base a c (w.heap.size + 3) w 0 [] none (part0 l w.heap.size) [w.heap.size + 1] [(.slice none 0 0,.slice none 0 0)] (w.heap.size + 2) 1 W:=by
 have hlow : ∀ b,b ≤ w.heap.size → ixOf 0 l b = none → part0 l w.heap.size b = (7,0):=fun b hb hi=>by
  unfold part0
  rw [if_neg (by omega),if_neg (by omega),if_neg (by omega),hi]
  simp only
  rw [if_pos hb]
 have hno : ∀ (l : List (Tok × Value)) (i b : Nat),(∀ x ∈ l,x.2.ownBlock ≠ some b) → ixOf i l b = none:=by
  intro l
  induction l with
  | nil=>intro i b _;rfl
  | cons y r ih=>
   intro i b hy
   unfold ixOf
   rw [if_neg (hy y (by simp))]
   exact ih (i + 1) b (fun x hx=>hy x (by simp [hx]))
 refine ⟨Nat.zero_le _,rfl,⟨fun h=>absurd rfl h,fun f hf=>by cases hf⟩,fun f hf=>(by cases hf),⟨by simp,fun f hf=>by cases hf⟩,⟨hr,by omega,by unfold part0;simp,?_,by unfold part0;simp,?_⟩,own_bel h.1 hW,?_,?_,hW.mono hb0,hW.size,?_⟩
 ·refine ⟨_,hg,by omega,by simp [stk],by simp,by unfold maxLen;decide,by simp [stk,ptrCells],by simp [stk,ptrCells,ptrV],.inr (by simp)⟩
 ·show OpenP _ _ _ [.node [] [] [] []] _ _
  rw [OpenP]
  refine ⟨_,_,_,[],[],[],rfl,rfl,hp,by omega,by unfold part0;simp,World.ownsRow_nil _ _ _ _,fun b hb=>by simp [Value.ownBlock] at hb,World.ownsRow_nil _ _ _ _,fun b hb=>by simp [Value.ownBlock] at hb,by rw [show trK (.node [] [] [] []) = [] from rfl,KidsS],by rw [OpenP];exact ⟨rfl,rfl⟩⟩
 ·intro b hb
  have hbl:=(h.1.lt b hb).2
  refine hlow b (by omega) (hno l 0 b (fun x hx e=>?_))
  have:=own_ne (h.2 x hx) h.1 (by decide)
  rcases this with h9 | h9
  ·rw [h9] at e;cases e
  ·exact h9 (e.trans hb.symm)
 ·intro j x _ hx
  refine ⟨own_bel (h.2 x (List.mem_of_getElem? hx)) hW,fun b hb=>?_⟩
  have hbl:=((h.2 x (List.mem_of_getElem? hx)).lt b hb).2
  unfold part0
  rw [if_neg (by omega),if_neg (by omega),if_neg (by omega),ixOf_get hap hx hb]
  simp
 ·refine hlow _ (Nat.le_refl _) (hno l 0 _ (fun x hx e=>?_))
  have:=((h.2 x hx).lt _ e).2
  omega
theorem RdV.only {ρ : Part} {w : World} {base rb g c : Nat} {T : Tr} {ps : List Nat} {vs : List (Value × Value)} (h : RdV ρ w base rb (stk [] (some T)) ps vs g c) :
  ∃ p b cc va2 vk2,ps = [p] ∧ w.cell? ⟨p,3,none⟩ = some (.slice (some ⟨b,0,none⟩) 1 cc) ∧ TreeS (fun g=>base ≤ g ∧ ρ g = (0,0)) w T [.string ⟨(trL T).toArray⟩,.string ⟨(trX T).toArray⟩,va2,vk2] ∧ w.cell? ⟨b,0,none⟩ = some (.string ⟨(trL T).toArray⟩) ∧ w.cell? ⟨b,1,none⟩ = some (.string ⟨(trX T).toArray⟩) ∧ w.cell? ⟨b,2,none⟩ = some va2 ∧ w.cell? ⟨b,3,none⟩ = some vk2:=by
 obtain ⟨_,_,_,_,_,h6⟩:=h
 have e : stk [] (some T) = [.node [] [] [] [T]]:=rfl
 rw [e,OpenP] at h6
 obtain ⟨p,va,vk,qs,q,lk,e1,e2,k1,k2,k3,k4,k5,k6,k7,k8,k9⟩:=h6
 rw [OpenP] at k9
 obtain ⟨rfl,rfl⟩:=k9
 have k8' : KidsS (fun g=>base ≤ g ∧ ρ g = (0,0)) w ([] ++ [T]) lk:=k8
 obtain ⟨lq,hs,rfl,l1,l2,l3⟩:=k8'.split
 have hlq : lq = []:=by rw [KidsS] at l1;exact l1
 subst hlq
 obtain ⟨lb,tx,al,js⟩:=T
 have l2':=l2
 rw [TreeS.eq] at l2
 obtain ⟨va2,vk2,rfl,l4,l5⟩:=l2
 have k6' : w.ownsRow base 27 4 vk 1 [.string ⟨lb.toArray⟩,.string ⟨tx.toArray⟩,va2,vk2]:=k6
 obtain ⟨b,cc,rfl,hb1,_⟩:=k6'.form (by simp)
 have hc:=k6'.cells rfl
 have lcell : ∀ i v,([.string ⟨lb.toArray⟩,.string ⟨tx.toArray⟩,va2,vk2] : List Value)[i]? = some v → w.cell? ⟨b,i,none⟩ = some v:=fun i v hi=>by
  have h9:=hc i v hi
  rw [add_zero_at] at h9
  exact h9
 exact ⟨p,b,cc,va2,vk2,e1,k1.at.2.2.2,l2',lcell 0 _ rfl,lcell 1 _ rfl,lcell 2 _ rfl,lcell 3 _ rfl⟩
theorem piece_kind {f : Bool} {l : List UInt8} {t : Tok} {n : Nat} (h : pieceL f l = some (t,n)) : t.kind = 2 ∨ t.attrs = []:=by
 unfold pieceL at h
 split at h
 ·unfold decL at h
  split at h
  ·cases h;exact .inr rfl
  ·split at h
   ·cases h;exact .inr rfl
   ·cases h
 ·split at h
  ·unfold comL at h
   split at h
   ·cases h
   ·split at h
    ·cases h;exact .inr rfl
    ·cases h
  ·split at h
   ·unfold cdL at h
    split at h
    ·cases h
    ·cases h;exact .inr rfl
   ·split at h
    ·unfold closeL at h
     simp only at h
     split at h
     ·split at h
      ·cases h;exact .inr rfl
      ·cases h
     ·cases h
    ·split at h
     ·unfold openL at h
      simp only at h
      split at h
      ·split at h
       ·cases h
       ·cases h;exact .inl rfl
      ·cases h
     ·unfold textL at h
      simp only at h
      split at h
      ·cases h
      ·split at h
       ·cases h;exact .inr rfl
       ·cases h
theorem all_kind : ∀ (f p : Nat) (acc : List Tok) (l : List UInt8) (res : List Tok),(∀ t ∈ acc,t.kind = 2 ∨ t.attrs = []) → allA f p acc l = .ok res → ∀ t ∈ res,t.kind = 2 ∨ t.attrs = []:=by
 intro f
 induction f with
 | zero=>
  intro p acc l res ha h
  cases l with
  | nil=>
   simp only [allA,Except.ok.injEq] at h
   rw [← h];exact ha
  | cons c r=>
   simp only [allA] at h
   cases h
 | succ f ih=>
  intro p acc l res ha h
  cases l with
  | nil=>
   simp only [allA,Except.ok.injEq] at h
   rw [← h];exact ha
  | cons c r=>
   simp only [allA] at h
   split at h
   ·cases h
   ·rename_i x n hp
    refine ih _ _ _ _ ?_ h
    intro t ht
    rcases List.mem_append.1 ht with h1 | h1
    ·exact ha t h1
    ·obtain rfl:=List.mem_singleton.1 h1
     exact piece_kind hp
theorem all_short : ∀ (f p : Nat) (acc : List Tok) (l : List UInt8),Whole l → (∀ b ∈ l,b ≠ 13) → ∀ res,allA f p acc l = .ok res → res.length ≤ acc.length + l.length:=by
 intro f
 induction f with
 | zero=>
  intro p acc l _ _ res h
  cases l with
  | nil=>
   simp only [allA,Except.ok.injEq] at h
   rw [← h];simp
  | cons c r=>
   simp only [allA] at h
   cases h
 | succ f ih=>
  intro p acc l hw h13 res h
  cases l with
  | nil=>
   simp only [allA,Except.ok.injEq] at h
   rw [← h];simp
  | cons c r=>
   simp only [allA] at h
   split at h
   ·cases h
   ·rename_i x n hp
    obtain ⟨_,h1,h2,_,h4⟩:=piece_ok hw h13 (by simp) hp
    have:=ih _ _ _ h4 (fun b hb=>h13 b (List.mem_of_mem_drop hb)) res h
    rw [List.length_append,List.length_singleton,List.length_drop] at this
    omega
theorem flat_ge : ∀ al : List (List UInt8 × List UInt8),al.length ≤ (al.flatMap attrT).length:=by
 intro al
 induction al with
 | nil=>simp
 | cons a r ih=>
  simp only [List.flatMap_cons,List.length_append,List.length_cons]
  have : 1 ≤ (attrT a).length:=by unfold attrT;simp
  omega
theorem textT_mem {t : Tok} {ts : List Tok} (h : t ∈ ts) : (textT t).length ≤ (ts.flatMap textT).length:=by
 induction ts with
 | nil=>cases h
 | cons x r ih=>
  simp only [List.flatMap_cons,List.length_append]
  rcases List.mem_cons.1 h with rfl | h
  ·omega
  ·have:=ih h;omega
theorem all_short3 {l : List UInt8} {ts : List Tok} (hw : Whole l) (h13 : ∀ b ∈ l,b ≠ 13) (h : allL3 l = .ok ts) : ts.length ≤ l.length:=by
 have:=all_short l.length 0 [] l hw h13 ts h
 simpa using this
theorem all_few {l : List UInt8} {ts : List Tok} (hw : Whole l) (h13 : ∀ b ∈ l,b ≠ 13) (h : allL3 l = .ok ts) : (∀ t ∈ ts,t.attrs.length ≤ 6 * l.length) ∧ okAll true ts = true ∧ (ts.flatMap textT).length ≤ 6 * l.length:=by
 unfold allL3 at h
 obtain ⟨us,h1,h2,h3⟩:=(all_ok l.length 0 [] l hw h13 (Nat.le_refl _)).1 ts h
 rw [List.nil_append] at h1
 subst h1
 refine ⟨fun t ht=>?_,h2,h3⟩
 rcases all_kind _ _ _ _ _ (fun t ht=>by cases ht) h t ht with hk | ha
 ·have h4:=textT_mem ht
  have h5 : t.attrs.length ≤ (textT t).length:=by
   unfold textT
   rw [if_neg (by rw [hk];decide),if_pos hk]
   have:=flat_ge t.attrs
   simp only [List.length_cons,List.length_append]
   omega
  omega
 ·rw [ha];simp
def lenK (ks : List Tr) : Nat:=((toksK ks).flatMap textT).length
theorem toksK_append : ∀ (a b : List Tr),toksK (a ++ b) = toksK a ++ toksK b:=by
 intro a
 induction a with
 | nil=>intro b;simp [toksK]
 | cons t r ih=>intro b;simp [toksK,ih]
def lenF : List Fr → Nat
 | []=>0
 | f :: r=>2 + f.lb.length + (f.al.flatMap attrT).length + lenK f.kids + lenF r
def lenR (root : Option Tr) : Nat:=lenK root.toList
end Go.Proofs.YtjldpkhfiffinaaGreatDoor.U
