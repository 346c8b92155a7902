/- Contracts and plain facts that the law stands on: Rd1, Re. -/
import Derived.Test.YtjldpkhfiffinaaGreatDoorZC10
import Derived.Test.YtjldpkhfiffinaaGreatDoorZC08
import Derived.Deep.QuietTactic
import Derived.BigQuiet
namespace Go.Proofs.YtjldpkhfiffinaaGreatDoor.U
open Go.RowKit
theorem RdV.kid {ρ : Part} {w w4 : World} {base rb p g c : Nat} {t T : Tr} {r : List Tr} {qs : List Nat} {va vk vk' : Value} {q : List (Value × Value)} {hs : List Value} (h : RdV ρ w base rb (t :: r) (p :: qs) ((va,vk) :: q) g c)
  (hT : TreeS (fun g=>base ≤ g ∧ ρ g = (0,0)) w T hs) (hsz : w.heap.size ≤ w4.heap.size)
  (heq : ∀ b,b < w.heap.size → b ≠ p → some b ≠ vk.ownBlock → w4.heap[b]? = w.heap[b]?)
  (hat : vk'.ownBlock = vk.ownBlock ∨ ∃ b,vk'.ownBlock = some b ∧ w.heap.size ≤ b)
  (hk : ∀ xs,w.ownsRow base 27 4 vk (trK t).length xs → w4.ownsRow base 27 4 vk' ((trK t).length + 1) (xs ++ hs))
  (hb : Box4 p ⟨(trL t).toArray⟩ ⟨(trX t).toArray⟩ va vk' w4) :
  ∃ ρ',RdV ρ' w4 base rb (.node (trL t) (trX t) (trA t) (trK t ++ [T]) :: r) (p :: qs) ((va,vk') :: q) g c ∧ ∀ b,b < w.heap.size → ρ' b = ρ b:=by
 obtain ⟨h1,h2,h3,h4,h5,h6⟩:=h
 have hrb : rb < w.heap.size:=(Array.getElem?_eq_some_iff.1 h1).1
 rw [OpenP] at h6
 obtain ⟨p0,va0,vk0,qs0,q0,lk,e1,e2,k1,k2,k3,k4,k5,k6,k7,k8,k9⟩:=h6
 simp only [List.cons.injEq,Prod.mk.injEq] at e1 e2
 obtain ⟨rfl,rfl⟩:=e1
 obtain ⟨⟨rfl,rfl⟩,rfl⟩:=e2
 obtain ⟨ρ',hρ⟩ : ∃ ρ' : Part,ρ' = fun b=>if vk'.ownBlock = some b then (4,r.length) else ρ b:=⟨_,rfl⟩
 have hold : ∀ b,b < w.heap.size → ρ' b = ρ b:=fun b hb=>by
  rw [hρ]
  simp only
  split
  ·next e=>
   rcases hat with h | ⟨b',h,hb'⟩
   ·rw [h] at e;exact (k7 b e).symm
   ·rw [h] at e;injection e with e;omega
  ·rfl
 have hst : Still base r.length ρ ρ' w w4:=fun b h7 h8 h9=>by
  refine ⟨hold b h8,heq b h8 (fun e=>?_) (fun e=>?_)⟩
  ·subst e
   rw [k3] at h9
   rcases h9 with h9 | h9
   ·simp at h9
   ·simp at h9
  ·have:=k7 b e.symm
   rw [this] at h9
   rcases h9 with h9 | h9
   ·simp at h9
   ·simp at h9
 have hne : ∀ b,ρ b = (6,0) ∨ ρ b = (1,0) ∨ (∃ i,ρ b = (3,i)) → b < w.heap.size → w4.heap[b]? = w.heap[b]?:=fun b h7 h8=>by
  refine heq b h8 (fun e=>?_) (fun e=>?_)
  ·subst e
   rw [k3] at h7
   rcases h7 with h7 | h7 | ⟨i,h7⟩ <;> simp at h7
  ·have:=k7 b e.symm
   rw [this] at h7
   rcases h7 with h7 | h7 | ⟨i,h7⟩ <;> simp at h7
 refine ⟨ρ',⟨(hne rb (.inl h3) hrb).trans h1,h2,by rw [hold rb hrb];exact h3,h4.keep (hne g (.inr (.inl h5)) h4.lt),by rw [hold g h4.lt];exact h5,?_⟩,hold⟩
 rw [OpenP]
 refine ⟨p,va,vk',qs,q,lk ++ [hs],rfl,rfl,hb,k2,by rw [hold p k1.lt];exact k3,own_heap k4 (fun b hb=>hne b (.inr (.inr ⟨_,k5 b hb⟩)) (k4.lt b hb).2),fun b hb=>by rw [hold b (k4.lt b hb).2];exact k5 b hb,?_,fun b hb=>?_,KidsS.snoc (tree_still hT hsz hst) (kids_still k8 hsz hst),OpenP.keep hsz k9 hst⟩
 ·rw [show trK (.node (trL t) (trX t) (trA t) (trK t ++ [T])) = trK t ++ [T] from rfl,List.length_append,List.flatten_append,List.flatten_singleton]
  exact hk _ k6
 ·rw [hρ];simp only;rw [if_pos hb]
theorem RdV.push {ρ : Part} {w w3 : World} {base rb pb j g c g' c' : Nat} {st : List Tr} {ps : List Nat} {vs : List (Value × Value)} {va : Value} (nm : List UInt8) (al : List (List UInt8 × List UInt8)) (h : RdV ρ w base rb st ps vs g c) (hsz : w.heap.size ≤ w3.heap.size)
  (heq : ∀ b,b < w.heap.size → b ≠ rb → b ≠ g → ρ b ≠ (5,j) → w3.heap[b]? = w.heap[b]?)
  (hpb : w.heap.size ≤ pb) (hbox : Box4 pb ⟨nm.toArray⟩ ⟨#[]⟩ va (.slice none 0 0) w3) (hva : w3.ownsRow base 82 2 va al.length (attrCells al)) (hvb : ∀ b,va.ownBlock = some b → ρ b = (5,j) ∧ b < w.heap.size)
  (hrow : RowP w3 base g' (st.length + 1) c' (ptrCells ps ++ [ptrV pb])) (hg' : g' = g ∨ w.heap.size ≤ g') (hgp : g' ≠ pb)
  (hrd : w3.heap[rb]? = some (.cells #[.slice (some ⟨g',0,none⟩) (st.length + 1) c'] 125 (0,0))) :
  ∃ ρ',RdV ρ' w3 base rb (.node nm [] al [] :: st) (pb :: ps) ((va,.slice none 0 0) :: vs) g' c' ∧ ∀ b,b < w.heap.size → ρ b ≠ (5,j) → ρ' b = ρ b:=by
 obtain ⟨h1,h2,h3,h4,h5,h6⟩:=h
 have hrb : rb < w.heap.size:=(Array.getElem?_eq_some_iff.1 h1).1
 have hgl:=h4.lt
 obtain ⟨ρ',hρ⟩ : ∃ ρ' : Part,ρ' = fun b=>if b = pb then (2,st.length) else if b = g' then (1,0) else if ρ b = (5,j) then (3,st.length) else ρ b:=⟨_,rfl⟩
 have hold : ∀ b,b < w.heap.size → ρ b ≠ (5,j) → ρ' b = ρ b:=fun b hb h7=>by
  rw [hρ]
  simp only
  rw [if_neg (by omega)]
  split
  ·next e=>
   rcases hg' with h | h
   ·rw [e,h];exact h5.symm
   ·omega
  ·first | rfl | rw [if_neg h7]
 have hst : Still base st.length ρ ρ' w w3:=fun b h7 h8 h9=>by
  have hj : ρ b ≠ (5,j):=fun e=>by
   rw [e] at h9
   rcases h9 with h9 | h9
   ·simp at h9
   ·simp at h9
  refine ⟨hold b h8 hj,heq b h8 (fun e=>?_) (fun e=>?_) hj⟩
  ·subst e
   rw [h3] at h9
   rcases h9 with h9 | h9
   ·simp at h9
   ·simp at h9
  ·subst e
   rw [h5] at h9
   rcases h9 with h9 | h9
   ·simp at h9
   ·simp at h9
 have hgr : g' ≠ rb:=fun e=>by
  rcases hg' with h | h
  ·rw [← h,e,h3] at h5;simp at h5
  ·omega
 refine ⟨ρ',⟨by rw [List.length_cons];exact hrd,h2,by rw [hold rb hrb (by rw [h3];simp)];exact h3,by rw [List.length_cons,ptrCells_cons];exact hrow,by rw [hρ];simp only;rw [if_neg hgp,if_pos trivial],?_⟩,hold⟩
 have hb0 : base ≤ w.heap.size:=by omega
 rw [OpenP]
 refine ⟨pb,va,.slice none 0 0,ps,vs,[],rfl,rfl,hbox,by omega,by rw [hρ];simp,hva,fun b hb=>?_,World.ownsRow_nil _ _ _ _,fun b hb=>by simp [Value.ownBlock] at hb,by rw [show trK (.node nm [] al []) = [] from rfl,KidsS],OpenP.keep hsz h6 hst⟩
 obtain ⟨h7,h8⟩:=hvb b hb
 rw [hρ]
 simp only
 rw [if_neg (by omega),if_neg ?_,if_pos h7]
 rintro rfl
 rcases hg' with h | h
 ·rw [h,h5] at h7;simp at h7
 ·omega
theorem RdV.pop {ρ : Part} {w w' : World} {base rb p g c : Nat} {t u : Tr} {r : List Tr} {qs : List Nat} {va vk : Value} {q : List (Value × Value)} (h : RdV ρ w base rb (t :: u :: r) (p :: qs) ((va,vk) :: q) g c)
  (hsz : w.heap.size ≤ w'.heap.size) (heq : ∀ b,b < w.heap.size → b ≠ rb → w'.heap[b]? = w.heap[b]?)
  (hrd : w'.heap[rb]? = some (.cells #[.slice (some ⟨g,0,none⟩) (u :: r).length (u :: r).length] 125 (0,0))) :
  ∃ ρ',RdV ρ' w' base rb (u :: r) qs q g (u :: r).length ∧ TreeS (fun g=>base ≤ g ∧ ρ' g = (0,0)) w' t (headOf t (va,vk)) ∧ ∀ b,5 ≤ (ρ b).1 → ρ' b = ρ b:=by
 obtain ⟨h1,h2,h3,h4,h5,h6⟩:=h
 have hrb : rb < w.heap.size:=(Array.getElem?_eq_some_iff.1 h1).1
 have hgl:=h4.lt
 have hlen:=h6.len
 rw [OpenP] at h6
 obtain ⟨p0,va0,vk0,qs0,q0,lk,e1,e2,k1,k2,k3,k4,k5,k6,k7,k8,k9⟩:=h6
 simp only [List.cons.injEq,Prod.mk.injEq] at e1 e2
 obtain ⟨rfl,rfl⟩:=e1
 obtain ⟨⟨rfl,rfl⟩,rfl⟩:=e2
 obtain ⟨ρ',hρ⟩ : ∃ ρ' : Part,ρ' = fun b=>if ρ b = (3,(u :: r).length) ∨ ρ b = (4,(u :: r).length) then (0,0) else ρ b:=⟨_,rfl⟩
 have hold : ∀ b,ρ b ≠ (3,(u :: r).length) → ρ b ≠ (4,(u :: r).length) → ρ' b = ρ b:=fun b h7 h8=>by
  rw [hρ]
  simp only
  rw [if_neg (by simp only [not_or];exact ⟨h7,h8⟩)]
 have hst : Still base (u :: r).length ρ ρ' w w':=fun b h7 h8 h9=>by
  refine ⟨hold b (fun e=>?_) (fun e=>?_),heq b h8 (fun e=>?_)⟩
  ·rw [e] at h9
   rcases h9 with h9 | h9
   ·simp at h9
   ·simp at h9
  ·rw [e] at h9
   rcases h9 with h9 | h9
   ·simp at h9
   ·simp at h9
  ·subst e
   rw [h3] at h9
   rcases h9 with h9 | h9
   ·simp at h9
   ·simp at h9
 have hgr : g ≠ rb:=fun e=>by rw [e,h3] at h5;simp at h5
 have hcut:=(h4.keep (heq g hgl hgr)).cut (m:=(u :: r).length) (by simp)
 have e4 : (ptrCells (p :: qs)).take (u :: r).length = ptrCells qs:=by
  rw [ptrCells_cons,List.take_left']
  rw [ptrCells_len]
  simpa using hlen
 rw [e4] at hcut
 refine ⟨ρ',⟨hrd,h2,by rw [hold rb (by rw [h3];simp) (by rw [h3];simp)];exact h3,hcut,by rw [hold g (by rw [h5];simp) (by rw [h5];simp)];exact h5,OpenP.keep hsz k9 hst⟩,?_,fun b hb=>hold b (fun e=>by rw [e] at hb;simp at hb) (fun e=>by rw [e] at hb;simp at hb)⟩
 have za : ∀ b,va.ownBlock = some b → base ≤ b ∧ ρ' b = (0,0):=fun b hb=>⟨(k4.lt b hb).1,by rw [hρ];simp only;rw [if_pos (.inl (k5 b hb))]⟩
 have zk : ∀ b,vk.ownBlock = some b → base ≤ b ∧ ρ' b = (0,0):=fun b hb=>⟨(k6.lt b hb).1,by rw [hρ];simp only;rw [if_pos (.inr (k7 b hb))]⟩
 have sa : w'.ownsRow base 82 2 va (trA t).length (attrCells (trA t)):=own_heap k4 (fun b hb=>heq b (k4.lt b hb).2 (fun e=>by have:=k5 b hb;rw [e,h3] at this;simp at this))
 have sk : w'.ownsRow base 27 4 vk (trK t).length lk.flatten:=own_heap k6 (fun b hb=>heq b (k6.lt b hb).2 (fun e=>by have:=k7 b hb;rw [e,h3] at this;simp at this))
 obtain ⟨lb,tx,al,ks⟩:=t
 rw [TreeS.eq]
 exact ⟨va,vk,rfl,AtRowS.of_own sa za,lk,kids_still k8 hsz hst,AtRowS.of_own sk zk⟩
theorem KidsS.split {S : Nat → Prop} {w : World} {T : Tr} : ∀ {ks : List Tr} {l : List (List Value)},KidsS S w (ks ++ [T]) l → ∃ q h,l = q ++ [h] ∧ KidsS S w ks q ∧ TreeS S w T h ∧ q.flatten.length = ks.length * 4:=by
 intro ks
 induction ks with
 | nil=>
  intro l h
  rw [List.nil_append,KidsS] at h
  obtain ⟨a,q,rfl,h1,h2⟩:=h
  rw [KidsS] at h2
  subst h2
  exact ⟨[],a,rfl,by rw [KidsS],h1,rfl⟩
 | cons t r ih=>
  intro l h
  rw [List.cons_append,KidsS] at h
  obtain ⟨a,q,rfl,h1,h2⟩:=h
  obtain ⟨q2,b,rfl,h3,h4,h5⟩:=ih h2
  refine ⟨a :: q2,b,rfl,?_,h4,?_⟩
  ·rw [KidsS];exact ⟨a,q2,rfl,h1,h3⟩
  ·obtain ⟨_,_,_,_,_,_,_,_,h6⟩:=h1.four
   rw [List.flatten_cons,List.length_append,h5,h6]
   simp
   omega
theorem RdV.more {ρ : Part} {w : World} {base rb p g c b n cc : Nat} {t : Tr} {r : List Tr} {qs : List Nat} {va : Value} {q : List (Value × Value)} {ks : List Tr} {tx : List UInt8} (x : List UInt8) (h : RdV ρ w base rb (t :: r) (p :: qs) ((va,.slice (some ⟨b,0,none⟩) n cc) :: q) g c) (hk : trK t = ks ++ [.node [] tx [] []]) :
  RdV ρ (w.setCell ⟨b,ks.length * 4 + 1,none⟩ (.string ⟨(tx ++ x).toArray⟩)) base rb (.node (trL t) (trX t) (trA t) (ks ++ [.node [] (tx ++ x) [] []]) :: r) (p :: qs) ((va,.slice (some ⟨b,0,none⟩) n cc) :: q) g c ∧ ρ b = (4,r.length) ∧ w.cell? ⟨b,ks.length * 4,none⟩ = some (.string ⟨#[]⟩) ∧ w.cell? ⟨b,ks.length * 4 + 1,none⟩ = some (.string ⟨tx.toArray⟩):=by
 obtain ⟨h1,h2,h3,h4,h5,h6⟩:=h
 rw [OpenP] at h6
 obtain ⟨p0,va0,vk0,qs0,q0,lk,e1,e2,k1,k2,k3,k4,k5,k6,k7,k8,k9⟩:=h6
 simp only [List.cons.injEq,Prod.mk.injEq] at e1 e2
 obtain ⟨rfl,rfl⟩:=e1
 obtain ⟨⟨rfl,rfl⟩,rfl⟩:=e2
 have hb : ρ b = (4,r.length):=k7 b rfl
 have hg:=grownBy_setAt w b (ks.length * 4 + 1) (.string ⟨(tx ++ x).toArray⟩)
 have heq : ∀ a,a < w.heap.size → ρ a ≠ (4,r.length) → (w.setCell ⟨b,ks.length * 4 + 1,none⟩ (.string ⟨(tx ++ x).toArray⟩)).heap[a]? = w.heap[a]?:=fun a h7 h8=>hg.block a h7 (fun e=>h8 (by cases e;exact hb))
 have hst : Still base r.length ρ ρ w (w.setCell ⟨b,ks.length * 4 + 1,none⟩ (.string ⟨(tx ++ x).toArray⟩)):=fun a h7 h8 h9=>⟨rfl,heq a h8 (fun e=>by
  rw [e] at h9
  rcases h9 with h9 | h9
  ·simp at h9
  ·simp at h9)⟩
 have hrb : rb < w.heap.size:=(Array.getElem?_eq_some_iff.1 h1).1
 rw [hk] at k6 k8
 obtain ⟨lq,hs,rfl,l1,l2,l3⟩:=k8.split
 rw [TreeS.eq] at l2
 obtain ⟨va2,vk2,rfl,l4,l5⟩:=l2
 obtain rfl : n = (ks ++ [Tr.node [] tx [] []]).length:=by
  obtain ⟨a0,c0,e⟩:=own_sl k6
  injection e
 have hc:=k6.cells rfl
 have lcell : ∀ i v,([.string ⟨#[]⟩,.string ⟨tx.toArray⟩,va2,vk2] : List Value)[i]? = some v → w.cell? ⟨b,ks.length * 4 + i,none⟩ = some v:=fun i v hi=>by
  have h9:=hc (ks.length * 4 + i) v (by
   rw [List.flatten_append,List.getElem?_append_right (by omega),l3,Nat.add_sub_cancel_left,List.flatten_singleton]
   exact hi)
  rw [add_zero_at] at h9
  exact h9
 refine ⟨⟨(heq rb hrb (by rw [h3];simp)).trans h1,h2,h3,h4.keep (heq g h4.lt (by rw [h5];simp)),h5,?_⟩,hb,lcell 0 _ rfl,lcell 1 _ rfl⟩
 rw [OpenP]
 refine ⟨p,va,_,qs,q,lq ++ [[.string ⟨#[]⟩,.string ⟨(tx ++ x).toArray⟩,va2,vk2]],rfl,rfl,(heq p k1.lt (by rw [k3];simp)).trans k1,k2,k3,own_heap k4 (fun a ha=>heq a (k4.lt a ha).2 (by rw [k5 a ha];simp)),k5,?_,k7,?_,OpenP.keep hg.size k9 hst⟩
 ·have hu:=own_upd (i:=ks.length * 4 + 1) (u:=.string ⟨(tx ++ x).toArray⟩) k6 (by rw [List.length_append,List.length_singleton];omega)
  have e : (lq ++ [[.string ⟨#[]⟩,.string ⟨tx.toArray⟩,va2,vk2]]).flatten.set (ks.length * 4 + 1) (.string ⟨(tx ++ x).toArray⟩) = (lq ++ [[.string ⟨#[]⟩,.string ⟨(tx ++ x).toArray⟩,va2,vk2]]).flatten:=by
   rw [List.flatten_append,List.flatten_append,List.set_append_right _ _ (by omega),l3,Nat.add_sub_cancel_left]
   rfl
  rw [e] at hu
  rw [show trK (.node (trL t) (trX t) (trA t) (ks ++ [Tr.node [] (tx ++ x) [] []])) = ks ++ [Tr.node [] (tx ++ x) [] []] from rfl]
  simp only [List.length_append,List.length_singleton] at hu ⊢
  exact hu
 ·refine KidsS.snoc ?_ (kids_still l1 hg.size hst)
  have l6 : TreeS (fun g=>base ≤ g ∧ ρ g = (0,0)) w (.node [] (tx ++ x) [] []) [.string ⟨#[]⟩,.string ⟨(tx ++ x).toArray⟩,va2,vk2]:=by
   rw [TreeS.eq]
   exact ⟨va2,vk2,rfl,l4,l5⟩
  exact tree_still l6 hg.size hst
def stk (fs : List Fr) (root : Option Tr) : List Tr:=fs.map (fun f=>.node f.lb [] f.al f.kids) ++ [.node [] [] [] root.toList]
theorem stk_len (fs : List Fr) (root : Option Tr) : (stk fs root).length = fs.length + 1:=by simp [stk]
theorem stk_add {T : Tr} {fs : List Fr} {root : Option Tr} (h : fs = [] → root = none) {t : Tr} {r : List Tr} (hs : stk fs root = t :: r) : stk (addTr T fs root).1 (addTr T fs root).2 = .node (trL t) (trX t) (trA t) (trK t ++ [T]) :: r:=by
 cases fs with
 | nil=>
  rw [h rfl] at hs ⊢
  simp only [stk,List.map_nil,List.nil_append,List.cons.injEq,Option.toList_none] at hs
  obtain ⟨rfl,rfl⟩:=hs
  simp [stk,addTr,trL,trX,trA,trK]
 | cons f q=>
  simp only [stk,List.map_cons,List.cons_append,List.cons.injEq] at hs
  obtain ⟨rfl,rfl⟩:=hs
  simp [stk,addTr,trL,trX,trA,trK]
open Go.RowKit
theorem RdV.lt {ρ : Part} {w : World} {base rb g c : Nat} {st : List Tr} {ps : List Nat} {vs : List (Value × Value)} (h : RdV ρ w base rb st ps vs g c) : rb < w.heap.size:=(Array.getElem?_eq_some_iff.1 h.1).1
theorem RdV.below {ρ : Part} {w w' : World} {base rb g c : Nat} {st : List Tr} {ps : List Nat} {vs : List (Value × Value)} (h : RdV ρ w base rb st ps vs g c) (hb : Below w.heap.size w w') : RdV ρ w' base rb st ps vs g c:=by
 have hl:=h.lt
 obtain ⟨h1,h2,h3,h4,h5,h6⟩:=h
 exact ⟨(hb.block rb hl).trans h1,h2,h3,h4.keep (hb.block g h4.lt),h5,h6.keep hb.size (fun a _ ha _=>⟨rfl,hb.block a ha⟩)⟩
theorem RdV.at {ρ : Part} {w : World} {base rb g c : Nat} {st : List Tr} {ps : List Nat} {vs : List (Value × Value)} (h : RdV ρ w base rb st ps vs g c) : w.cell? ⟨rb,0,none⟩ = some (.slice (some ⟨g,0,none⟩) st.length c) ∧ w.frozen? ⟨rb,0,none⟩ = false ∧ st.length ≤ maxLen ∧ st.length ≤ c:=by
 obtain ⟨h1,_,_,⟨cur,_,_,h4,_,h6,_⟩,_⟩:=h
 exact ⟨by rw [Lib.cell_of_heap h1];rfl,Lib.frozen_of_heap h1 0,by omega,h4⟩
theorem RdV.tops {ρ : Part} {w : World} {base rb g c p : Nat} {t : Tr} {r : List Tr} {qs : List Nat} {va vk : Value} {q : List (Value × Value)} (h : RdV ρ w base rb (t :: r) (p :: qs) ((va,vk) :: q) g c) : w.cell? ⟨g,r.length,none⟩ = some (.pointer (some ⟨p,0,none⟩)) ∧ Box4 p ⟨(trL t).toArray⟩ ⟨(trX t).toArray⟩ va vk w ∧ w.ownsRow base 82 2 va (trA t).length (attrCells (trA t)) ∧ ρ p = (2,r.length) ∧ (∀ b,vk.ownBlock = some b → ρ b = (4,r.length)) ∧ ∃ xs,w.ownsRow base 27 4 vk (trK t).length xs:=by
 obtain ⟨_,_,_,h4,_,h6⟩:=h
 have hl:=h6.len
 rw [OpenP] at h6
 obtain ⟨p0,va0,vk0,qs0,q0,lk,e1,e2,k1,k2,k3,k4,k5,k6,k7,_,_⟩:=h6
 simp only [List.cons.injEq,Prod.mk.injEq] at e1 e2
 obtain ⟨rfl,rfl⟩:=e1
 obtain ⟨⟨rfl,rfl⟩,rfl⟩:=e2
 refine ⟨h4.cell _ _ ?_,k1,k4,k3,k7,_,k6⟩
 have hq : qs.length = r.length:=by simpa using hl
 rw [ptrCells_cons,List.getElem?_append_right (by rw [ptrCells_len];omega),ptrCells_len,hq,Nat.sub_self]
 rfl
theorem OpenP.bot {ρ : Part} {w : World} {base : Nat} {t : Tr} : ∀ {st : List Tr} {ps : List Nat} {vs : List (Value × Value)},OpenP ρ w base (st ++ [t]) ps vs → ∃ p a cc,(ptrCells ps)[0]? = some (ptrV p) ∧ w.cell? ⟨p,3,none⟩ = some (.slice a (trK t).length cc):=by
 intro st
 induction st with
 | nil=>
  intro ps vs h
  rw [List.nil_append,OpenP] at h
  obtain ⟨p,va,vk,qs,q,lk,rfl,rfl,k1,_,_,_,_,k6,_,_,k9⟩:=h
  rw [OpenP] at k9
  obtain ⟨rfl,rfl⟩:=k9
  obtain ⟨a,cc,rfl⟩:=own_sl k6
  exact ⟨p,a,cc,rfl,k1.at.2.2.2⟩
 | cons u r ih=>
  intro ps vs h
  rw [List.cons_append,OpenP] at h
  obtain ⟨p,va,vk,qs,q,lk,rfl,rfl,_,_,_,_,_,_,_,_,k9⟩:=h
  obtain ⟨p0,a,cc,h1,h2⟩:=ih k9
  refine ⟨p0,a,cc,?_,h2⟩
  have:=(List.getElem?_eq_some_iff.1 h1).1
  rw [ptrCells_cons,List.getElem?_append_left this]
  exact h1
theorem RdV.bottom {ρ : Part} {w : World} {base rb g c : Nat} {fs : List Fr} {root : Option Tr} {ps : List Nat} {vs : List (Value × Value)} (h : RdV ρ w base rb (stk fs root) ps vs g c) : ∃ p a cc,w.cell? ⟨g,0,none⟩ = some (.pointer (some ⟨p,0,none⟩)) ∧ w.cell? ⟨p,3,none⟩ = some (.slice a root.toList.length cc):=by
 obtain ⟨_,_,_,h4,_,h6⟩:=h
 obtain ⟨p,a,cc,h1,h2⟩:=OpenP.bot (st:=fs.map (fun f=>.node f.lb [] f.al f.kids)) (t:=.node [] [] [] root.toList) h6
 exact ⟨p,a,cc,h4.cell _ _ h1,h2⟩
set_option maxHeartbeats 2000000 in
theorem top_any {ρ : Part} {w : World} {base rb g c p : Nat} {t : Tr} {r : List Tr} {qs : List Nat} {va vk : Value} {q : List (Value × Value)} (h : RdV ρ w base rb (t :: r) (p :: qs) ((va,vk) :: q) g c) :
  Calls Tryz.prog 62 #[.pointer (some ⟨rb,0,none⟩)] w fun e w'=>e = .returned (.pointer (some ⟨p,0,none⟩)) ∧ Below w.heap.size w w':=by
 obtain ⟨x0,_,x1,x2⟩:=h.at
 obtain ⟨x3,_⟩:=h.tops
 obtain ⟨m,hm⟩ : ∃ m,m = r.length:=⟨_,rfl⟩
 rw [List.length_cons,← hm] at x0 x1 x2
 rw [← hm] at x3
 unfold maxLen at x1
 have hmw : IntKind.i64.wrap (m : Int) = m:=wrap_small _ (by omega) (by omega)
 have hm0 : (0 : Int) ≤ m:=by omega
 have hm1 : (m : Int) < (m : Int) + 1:=by omega
 clear h hm
 go_enter Tryz.func62,Tryz.ntmps62
 go_wp2_with fail
 go_quiet (fail)
 go_wp2
 go_ret
 exact ⟨rfl,below_drewN (Below.refl _ w) _⟩
theorem outside_any {ρ : Part} {w : World} {base rb g c : Nat} {st : List Tr} {ps : List Nat} {vs : List (Value × Value)} (h : RdV ρ w base rb st ps vs g c) :
  Calls Tryz.prog 140 #[.pointer (some ⟨rb,0,none⟩)] w fun e w'=>e = .returned (.bool (decide (st.length = 1))) ∧ Below w.heap.size w w':=by
 obtain ⟨x0,_⟩:=h.at
 obtain ⟨m,hm⟩ : ∃ m,m = st.length:=⟨_,rfl⟩
 rw [← hm] at x0 ⊢
 clear h hm
 have hb : ((m : Int) == 1) = decide (m = 1):=by by_cases h : m = 1 <;> simp [h];omega
 go_enter Tryz.func140,Tryz.ntmps140
 go_wp2
 go_ret
 exact ⟨by rw [← hb];rfl,Below.refl _ w⟩
set_option maxHeartbeats 2000000 in
theorem whole_any {ρ : Part} {w : World} {base rb g c : Nat} {fs : List Fr} {root : Option Tr} {ps : List Nat} {vs : List (Value × Value)} (h : RdV ρ w base rb (stk fs root) ps vs g c) :
  Calls Tryz.prog 61 #[.pointer (some ⟨rb,0,none⟩)] w fun e w'=>e = .returned (.bool root.isSome) ∧ Below w.heap.size w w':=by
 obtain ⟨x0,_⟩:=h.at
 obtain ⟨p,a,cc,x1,x2⟩:=h.bottom
 obtain ⟨m,hm⟩ : ∃ m,m = fs.length:=⟨_,rfl⟩
 rw [stk_len,← hm] at x0
 have hm1 : (0 : Int) < (m : Int) + 1:=by omega
 have hm2 : 0 < m + 1:=by omega
 clear h hm
 cases root with
 | none=>
  simp only [Option.toList_none,List.length_nil] at x2
  go_enter Tryz.func61,Tryz.ntmps61
  go_wp2
  go_ret
  exact ⟨rfl,Below.refl _ w⟩
 | some u=>
  simp only [Option.toList_some,List.length_singleton] at x2
  go_enter Tryz.func61,Tryz.ntmps61
  go_wp2
  go_ret
  exact ⟨rfl,Below.refl _ w⟩
def tokV (t : Tok) (v : Value) : Value:=.agg (tokCells t v)
theorem pass_any (rb : Nat) (t : Tok) (v : Value) (w : World) :
  Calls Tryz.prog 112 #[.pointer (some ⟨rb,0,none⟩),tokV t v] w fun e w'=>e = .returned (.bool true) ∧ Below w.heap.size w w':=by
 unfold tokV tokCells
 go_enter Tryz.func112,Tryz.ntmps112
 go_wp2
 go_ret
 exact ⟨rfl,(Below.refl _ w).alloc (Nat.le_refl _) _⟩
def takerF (k : Int) : Nat:=if k = 2 then 109 else if k = 3 then 110 else if k = 4 then 111 else 112
theorem taker_any (rb : Nat) (k : Int) (w : World) :
  Calls Tryz.prog 60 #[.pointer (some ⟨rb,0,none⟩),.int .i64 k] w fun e w'=>e = .returned (.func (.func (takerF k)) #[.pointer (some ⟨rb,0,none⟩)] #[]) ∧ w' = w:=by
 unfold takerF
 by_cases h2 : k = 2
 ·subst h2
  go_enter Tryz.func60,Tryz.ntmps60
  go_wp2
  go_ret
  exact ⟨rfl,rfl⟩
 ·rw [if_neg h2]
  have b2 : (k == 2) = false:=beq_eq_false_iff_ne.2 h2
  by_cases h3 : k = 3
  ·subst h3
   go_enter Tryz.func60,Tryz.ntmps60
   go_wp2
   go_ret
   exact ⟨rfl,rfl⟩
  ·rw [if_neg h3]
   have b3 : (k == 3) = false:=beq_eq_false_iff_ne.2 h3
   by_cases h4 : k = 4
   ·subst h4
    go_enter Tryz.func60,Tryz.ntmps60
    go_wp2
    go_ret
    exact ⟨rfl,rfl⟩
   ·rw [if_neg h4]
    have b4 : (k == 4) = false:=beq_eq_false_iff_ne.2 h4
    go_enter Tryz.func60,Tryz.ntmps60
    go_wp2
    go_ret
    exact ⟨rfl,rfl⟩
end Go.Proofs.YtjldpkhfiffinaaGreatDoor.U
