/- Contracts and plain facts that the law stands on: T6. -/
import Derived.Test.YtjldpkhfiffinaaGreatDoorZC09
import Derived.TacticsIn
import Derived.TacticsInMore
import Derived.LoopIn
import Derived.Laws.EntriesVeiled
namespace Go.Proofs.YtjldpkhfiffinaaGreatDoor.U
open Go.RowKit Go.Shelf
attribute [local go_sem] Oper.semAt_some
def Kb (n₀ nW : Nat) (A B : World) : Prop:=A.heap.size ≤ B.heap.size ∧ ∀ k,(k < n₀ ∨ nW ≤ k) → k < A.heap.size → B.heap[k]? = A.heap[k]?
theorem Kb.trans {n₀ nW : Nat} {A B C : World} (h : Kb n₀ nW A B) (k : Kb n₀ nW B C) : Kb n₀ nW A C:=
 ⟨Nat.le_trans h.1 k.1,fun i hi hl=>(k.2 i hi (by have:=h.1;omega)).trans (h.2 i hi hl)⟩
theorem Kb.below {n₀ nW : Nat} {A B : World} (h : Below A.heap.size A B) : Kb n₀ nW A B:=⟨h.size,fun k _ hk=>h.block k hk⟩
theorem Kb.sk {n₀ nW nV : Nat} {A B : World} (h : Kb n₀ nW A B) (hn : nW ≤ nV) : Sk n₀ nV none A B:=
 ⟨h.1,fun k o hk _ ho _=>(h.2 k (by omega) (Array.getElem?_eq_some_iff.1 ho).1).trans ho⟩
theorem Sk.putObj {n₀ nW l : Nat} {W : World} {r : Loop} (o : Obj) (h : W.heap[l]? = some (.loop r)) : Sk n₀ nW none W (W.putObj l o):=
 ⟨by simp [World.putObj],fun k o' _ _ ho hc=>by
  by_cases e : k = l
  ·subst e;rw [h] at ho;cases ho;cases hc
  ·exact (World.putObj_heap_other e).trans ho⟩
theorem below_put {n : Nat} {W : World} {l : Nat} {o' : Obj} (o : Obj) (h : W.heap[l]? = some o') (hn : n ≤ l) : Below n W (W.putObj l o):=
 (Below.refl n W).grown (grownBy_putObj' W l o) (by have:=(Array.getElem?_eq_some_iff.1 h).1;omega) (fun k e=>by cases e;omega)
def BPost (n₀ nW : Nat) (I : List (Nat × Tr) → World → Prop) (Ix : Code → List (Nat × Tr) → World → Prop) (xs : List (Nat × Tr)) (W : World) : Exit → Act → World → Prop
 | .normal,_,W'=>Kb n₀ nW W W' ∧ I xs W'
 | .ret,_,W'=>Kb n₀ nW W W' ∧ Ix .ret xs W'
 | .exit id,_,W'=>Kb n₀ nW W W' ∧ Ix (.exit id) xs W'
 | .goto t,_,W'=>Kb n₀ nW W W' ∧ Ix (.goto t) xs W'
 | .panic _,_,_=>False
 | .outgrown,_,_=>False
set_option maxRecDepth 100000 in
set_option maxHeartbeats 1000000 in
theorem all1_any (l b N : Nat) (Fit : Nat × Tr → Prop) (w0 W : World) (J Jx : List (Nat × Tr) → World → Prop) (hNb : N ≤ 1000000000) (hn : w0.heap.size ≤ W.heap.size) (hJ : ∀ pre A B,J pre A → Below W.heap.size A B → J pre B) (HY : YieldsV N l W.heap.size Fit w0 J Jx)
  (t : Tr) (lb tx : ByteArray) (va vk : Value) (hd : depthT t ≤ 1000000) (h0 : J [] W) (hD : Dk w0 W) (ht : TreeV w0 t [.string lb,.string tx,va,vk]) (hb : Box4 b lb tx va vk W) (hN : (nodesT 0 t).length ≤ N) (hFit : ∀ x ∈ nodesT 0 t,Fit x) :
  Calls Tryz.prog 95 #[.func (.yield l) #[] #[],.pointer (some ⟨b,0,none⟩)] W fun e W'=>(∃ v,e = .returned v) ∧ (J (nodesT 0 t) W' ∨ ∃ q s,nodesT 0 t = q ++ s ∧ Jx q W'):=by
 have HV:=Lib.hid (visit_any N l W.heap.size Fit w0 J Jx hNb hn hJ HY t [] 0 (.slice none 0 0) [] _ W (by omega) h0 (World.ownsRow_nil _ _ _ _) hD ht (Nat.le_refl _) (by simpa using hN) hFit)
 obtain ⟨x0,x1,x2,x3⟩:=hb.at
 clear HY hJ h0 hD ht hb hFit
 go_enter Tryz.func95,Tryz.ntmps95
 go_wp2_with fail
 refine HV.out.mono ?_
 rintro e w2 ⟨b2,rfl,_,_,hv⟩
 have HV2:=Lib.hid hv
 clear x0 x1 x2 x3 hv
 go_wp2
 go_end0
 refine ⟨⟨_,rfl⟩,?_⟩
 rcases HV2.out with ⟨_,h⟩ | ⟨_,q,s,h1,h2⟩
 ·exact .inl (by simpa using h)
 ·exact .inr ⟨q,s,h1,by simpa using h2⟩
theorem enters_all1 : ∀ args w,(callFunc 95 args).run Tryz.prog w = .ok (.enter 95 args) w:=enters_of Tryz.func95 (by kernel_rfl) rfl
theorem wpIn_rangeAll {n : Nat} {g : Operand} {p1 p2 : Tmp} {assign body : Code} {Q : Exit → Act → World → Prop} {a : Act} {w : World} (b : Nat)
  (hg : a.eval g = .func (.func 95) #[] #[.pointer (some ⟨b,0,none⟩)]) (w0 : World) (t : Tr) (lb tx : ByteArray) (va vk : Value) (hd : depthT t ≤ 1000000) (N : Nat) (hN : (nodesT 0 t).length ≤ N) (hNb : N ≤ 1000000000) (Fit : Nat × Tr → Prop) (hFit : ∀ x ∈ nodesT 0 t,Fit x)
  (hD : Dk w0 w) (hn : w0.heap.size ≤ w.heap.size) (ht : TreeV w0 t [.string lb,.string tx,va,vk]) (hb : Box4 b lb tx va vk w)
  (I : List (Nat × Tr) → World → Prop) (Ix : Code → List (Nat × Tr) → World → Prop) (hI : ∀ pre A B,I pre A → Below w.heap.size A B → I pre B) (hIx : ∀ c pre A B,Ix c pre A → Below w.heap.size A B → Ix c pre B) (h0 : I [] w)
  (hround : ∀ (m l : Nat) (pre : List (Nat × Tr)) (d : Nat) (u : Tr) (v : Value) (xs hs : List Value) (W : World),l = w.heap.size + 1 → l < W.heap.size → I pre W → W.ownsRow (w.heap.size + 2) 3 1 v d xs → Dk w0 W → TreeV w0 u hs → pre.length < N → d ≤ 1000000 → Fit (d,u) →
   assign.wpIn (Fence.wide.inRound l) m Tryz.prog (Exit.then (fun a₁ w₁=>Kb w0.heap.size w.heap.size W w₁ ∧ (∀ r,I r W → I r w₁) ∧ ∀ o : Obj,body.wpIn (Fence.wide.inRound l) m Tryz.prog (BPost w0.heap.size w.heap.size I Ix (pre ++ [(d,u)]) (w₁.putObj l o)) a₁ (w₁.putObj l o)) (fun _ _ _=>False))
    { tmps:=(#[p1,p2].zip #[v,.agg hs.toArray]).foldl (fun t (p,v)=>t.setIfInBounds p v) a.tmps,defers:=[] } W)
  (hdone : ∀ W,I (nodesT 0 t) W → W.heap[w.heap.size]? = some (.deferred (some [])) → Q .normal { a with defers:={ target:=.collected w.heap.size,args:=#[] } :: a.defers } W)
  (hstop : ∀ (c : Code) (q s : List (Nat × Tr)) (W : World),nodesT 0 t = q ++ s → Ix c q W → W.heap[w.heap.size]? = some (.deferred (some [])) → c.wpIn Fence.wide n Tryz.prog Q { a with defers:={ target:=.collected w.heap.size,args:=#[] } :: a.defers } W) :
  (Code.rangeFunc g #[p1,p2] assign body).wpIn Fence.wide n Tryz.prog Q a w:=by
 refine wpIn_rangeFunc ?_
 intro fn hfn
 rw [show Fence.wide.round = none from rfl]
 obtain ⟨rec,hrec⟩ : ∃ rec : LoopState → Option Code → Loop,rec = fun st pe=>{ state:=st,pending:=pe,fn,tmps:=a.tmps,params:=#[p1,p2],assign,body,defers:=w.heap.size }:=⟨_,rfl⟩
 obtain ⟨W1,hW1⟩ : ∃ W1,(w.alloc (.deferred (some []))).alloc (.loop (rec .ready none)) = W1:=⟨_,rfl⟩
 have hs1 : W1.heap.size = w.heap.size + 2:=by rw [← hW1];simp
 have hL1 : W1.heap[w.heap.size + 1]? = some (.loop (rec .ready none)):=by
  rw [← hW1];have:=World.alloc_heap_new (w.alloc (.deferred (some []))) (.loop (rec .ready none));rwa [World.size_alloc] at this
 have hK1 : W1.heap[w.heap.size]? = some (.deferred (some [])):=by
  rw [← hW1];exact (Below.heap_alloc _ _ _ (by simp)).trans (World.alloc_heap_new w _)
 have hB1 : Below w.heap.size w W1:=by rw [← hW1];exact ((Below.refl _ w).alloc (Nat.le_refl _) _).alloc (by simp) _
 refine ⟨w.heap.size + 1,[{ target:=.collected w.heap.size,args:=#[] }],W1,{ target:=.fn (.func 95) #[.pointer (some ⟨b,0,none⟩)],args:=#[.func (.yield (w.heap.size + 1)) #[] #[]] },W1,95,
  #[.func (.yield (w.heap.size + 1)) #[] #[],.pointer (some ⟨b,0,none⟩)],W1,?_,?_,?_,?_,(fun h=>by cases h),?_⟩
 ·rw [← hW1,hrec];exact run_enterLoop_outer _ _ _ _ _
 ·simp only [resolve,hg]
  simp [go_sem]
 ·intro f' hf';trivial
 ·have:=enters_all1 #[.func (.yield (w.heap.size + 1)) #[] #[],.pointer (some ⟨b,0,none⟩)]
  simp [invoke,go_sem,this]
 ·refine callsIn_wide.2 ((all1_any (w.heap.size + 1) b N Fit w0 W1
   (fun pre W=>I pre W ∧ W.heap[w.heap.size + 1]? = some (.loop (rec .ready none)) ∧ W.heap[w.heap.size]? = some (.deferred (some [])))
   (fun pre W=>∃ c,Ix c pre W ∧ W.heap[w.heap.size + 1]? = some (.loop (rec .done (some c))) ∧ W.heap[w.heap.size]? = some (.deferred (some [])))
   hNb (by omega) (fun pre A B h hb=>⟨hI _ _ _ h.1 (hb.mono (by omega)),(hb.block _ (by omega)).trans h.2.1,(hb.block _ (by omega)).trans h.2.2⟩) ?_ t lb tx va vk hd ⟨hI _ _ _ h0 hB1,hL1,hK1⟩ (hD.below hB1 hn) ht (hb.below hB1 (Nat.le_refl _)) hN hFit).mono ?_)
  ·-- one round
   rintro m pre d u v xs hs W ⟨hi,hl,hk⟩ ho hDk htr hsz hlen hd1 hfit
   have hlt : w.heap.size + 1 < W.heap.size:=(Array.getElem?_eq_some_iff.1 hl).1
   have hy:=run_yield (P:=Tryz.prog) (args:=#[v,.agg hs.toArray]) hl (by rw [hrec];rfl)
   rw [hrec] at hy
   rw [hs1] at ho
   refine ⟨fn,_,assign,body,hy,roundIn_of_wpIn hfn (wpIn_mono (hround _ _ pre d u v xs hs W rfl hlt hi ho hDk htr hlen hd1 hfit) ?_)⟩
   clear hy
   rintro e a1 w1 hp
   cases e with
   | normal=>
    obtain ⟨hkb,hi1,hbody⟩:=hp
    have hl1 : w1.heap[w.heap.size + 1]? = some (.loop (rec .ready none)):=(hkb.2 _ (.inr (by omega)) hlt).trans hl
    have hk1 : w1.heap[w.heap.size]? = some (.deferred (some [])):=(hkb.2 _ (.inr (by omega)) (by omega)).trans hk
    have hlt1 : w.heap.size + 1 < w1.heap.size:=by have:=hkb.1;omega
    refine ⟨_,run_beginRound hl1 (by rw [hrec]),?_⟩
    refine wpIn_mono (hbody _) ?_
    obtain ⟨W2,hW2⟩ : ∃ W2,w1.putObj (w.heap.size + 1) (.loop { rec .ready none with state:=.busy }) = W2:=⟨_,rfl⟩
    rw [hW2]
    have hl2 : W2.heap[w.heap.size + 1]? = some (.loop { rec .ready none with state:=.busy }):=by rw [← hW2];exact World.putObj_heap_same hlt1
    have hk2 : W2.heap[w.heap.size]? = some (.deferred (some [])):=by rw [← hW2];exact (World.putObj_heap_other (by omega)).trans hk1
    have hsk2 : Sk w0.heap.size W1.heap.size none W W2:=(hkb.sk (by omega)).trans (by rw [← hW2];exact Sk.putObj _ hl1)
    have fin : ∀ (jump : Option Code) (W3 : World),Kb w0.heap.size w.heap.size W2 W3 →
      (Instr.endRound (w.heap.size + 1) jump).run Tryz.prog W3 = .ok (.bool jump.isNone) (W3.putObj (w.heap.size + 1) (.loop (rec (if jump.isNone then .ready else .done) jump))) ∧
      W3.heap[w.heap.size + 1]? = some (.loop { rec .ready none with state:=.busy }) ∧
      (W3.putObj (w.heap.size + 1) (.loop (rec (if jump.isNone then .ready else .done) jump))).heap[w.heap.size + 1]? = some (.loop (rec (if jump.isNone then .ready else .done) jump)) ∧
      (W3.putObj (w.heap.size + 1) (.loop (rec (if jump.isNone then .ready else .done) jump))).heap[w.heap.size]? = some (.deferred (some [])) ∧
      Sk w0.heap.size W1.heap.size none W (W3.putObj (w.heap.size + 1) (.loop (rec (if jump.isNone then .ready else .done) jump))):=fun jump W3 hk3=>by
     have hlt2 : w.heap.size + 1 < W2.heap.size:=(Array.getElem?_eq_some_iff.1 hl2).1
     have hl3 : W3.heap[w.heap.size + 1]? = some (.loop { rec .ready none with state:=.busy }):=(hk3.2 _ (.inr (by omega)) hlt2).trans hl2
     have:=run_endRound (P:=Tryz.prog) jump hl3
     rw [hrec] at this ⊢
     exact ⟨this,by rw [hrec] at hl3;exact hl3,World.putObj_heap_same (Array.getElem?_eq_some_iff.1 hl3).1,(World.putObj_heap_other (by omega)).trans ((hk3.2 _ (.inr (by omega)) (by omega)).trans hk2),(hsk2.trans (hk3.sk (by omega))).trans (Sk.putObj _ hl3)⟩
    rintro e a3 W3 hp
    cases e with
    | normal=>
     obtain ⟨hk3,hi3⟩:=hp
     obtain ⟨hr,hl3,hl4,hk4,hsk4⟩:=fin none W3 hk3
     exact ⟨_,_,hr,.inl ⟨rfl,⟨hI _ _ _ hi3 (below_put _ hl3 (by omega)),hl4,hk4⟩,hsk4⟩⟩
    | ret=>
     obtain ⟨hk3,hi3⟩:=hp
     obtain ⟨hr,hl3,hl4,hk4,hsk4⟩:=fin (some .ret) W3 hk3
     exact ⟨_,_,hr,.inr ⟨rfl,⟨.ret,hIx _ _ _ _ hi3 (below_put _ hl3 (by omega)),hl4,hk4⟩,hsk4⟩⟩
    | exit id=>
     obtain ⟨hk3,hi3⟩:=hp
     obtain ⟨hr,hl3,hl4,hk4,hsk4⟩:=fin (some (.exit id)) W3 hk3
     exact ⟨_,_,hr,.inr ⟨rfl,⟨.exit id,hIx _ _ _ _ hi3 (below_put _ hl3 (by omega)),hl4,hk4⟩,hsk4⟩⟩
    | goto t=>
     obtain ⟨hk3,hi3⟩:=hp
     obtain ⟨hr,hl3,hl4,hk4,hsk4⟩:=fin (some (.goto t)) W3 hk3
     exact ⟨_,_,hr,.inr ⟨rfl,⟨.goto t,hIx _ _ _ _ hi3 (below_put _ hl3 (by omega)),hl4,hk4⟩,hsk4⟩⟩
    | panic ch=>exact hp.elim
    | outgrown=>exact hp.elim
   | ret=>exact hp.elim
   | exit id=>exact hp.elim
   | goto t=>exact hp.elim
   | panic ch=>exact hp.elim
   | outgrown=>exact hp.elim
  ·rintro e W2 ⟨⟨v,rfl⟩,(⟨hi,hl,hk⟩ | ⟨q,s,hqs,c,hi,hl,hk⟩)⟩
   ·exact ⟨none,_,by have:=run_endLoop (P:=Tryz.prog) hl (by rw [hrec];simp);rw [hrec] at this;exact this,hdone _ (hI _ _ _ hi (below_put _ hl (by omega))) ((World.putObj_heap_other (by omega)).trans hk)⟩
   ·exact ⟨some c,_,by have:=run_endLoop (P:=Tryz.prog) hl (by rw [hrec];simp);rw [hrec] at this;exact this,hstop c q s _ hqs (hIx _ _ _ _ hi (below_put _ hl (by omega))) ((World.putObj_heap_other (by omega)).trans hk)⟩
attribute [local go_sem] Oper.semAt_some
structure But (cb : Nat) (W W' : World) : Prop where
 os : W'.os = W.os
 tape : W'.tape = W.tape
 output : W'.output = W.output
 size : W.heap.size ≤ W'.heap.size
 block : ∀ k,k < W.heap.size → k ≠ cb → W'.heap[k]? = W.heap[k]?
theorem But.of_below {cb : Nat} {W W' : World} (h : Below W.heap.size W W') : But cb W W':=⟨h.os,h.tape,h.output,h.size,fun k hk _=>h.block k hk⟩
theorem But.setCell {cb : Nat} {W W' : World} (h : But cb W W') (v : Value) : But cb W (W'.setCell ⟨cb,0,none⟩ v):=
 ⟨h.os,h.tape,h.output,by have:=(grownBy_setCell' W' cb v).size;have:=h.size;omega,fun k hk hc=>((grownBy_setCell' W' cb v).block k (by have:=h.size;omega) (fun e=>hc (by cases e;rfl))).trans (h.block k hk hc)⟩
def badBound (n d : Nat) : Bool:=decide (4096 < n + 1) || decide (32 ≤ d)
set_option maxRecDepth 100000 in
set_option maxHeartbeats 2000000 in
theorem bound_any (n d c cb : Nat) (a : Option Addr) (t : Tr) (hs : List Value) (w : World) (ht : TreeV w t hs) (hn : n ≤ 1000000000) (hd : d ≤ 1000000000) (hc : Boxed w cb 3 (.int .i64 n)) :
  Calls Tryz.prog 79 #[.slice a d c,.agg hs.toArray,.pointer (some ⟨cb,0,none⟩)] w fun e w'=>e = .returned (.bool (badBound n d)) ∧ But cb w w' ∧ Boxed w' cb 3 (.int .i64 ((n + 1 : Nat) : Int)):=by
 obtain ⟨lb,tx,al,ks⟩:=t
 rw [TreeV.eq] at ht
 obtain ⟨va,vk,rfl,⟨a1,c1,rfl,_⟩,lk,_,⟨a2,c2,rfl,_⟩⟩:=ht
 generalize al.length = n1
 generalize ks.length = n2
 have HB:=Lib.hid ((Below.refl _ w).alloc (Nat.le_refl _) (.cells #[.string ⟨lb.toArray⟩,.string ⟨tx.toArray⟩,.slice a1 n1 c1,.slice a2 n2 c2] 27))
 have hx:=hc.cell
 have hf:=hc.frozen
 have hlt:=hc.lt
 have HC:=Lib.hid hc
 have HBT : Hid (∀ v : Value,But cb w ((w.setCell ⟨cb,0,none⟩ v).alloc (.cells #[.string ⟨lb.toArray⟩,.string ⟨tx.toArray⟩,.slice a1 n1 c1,.slice a2 n2 c2] 27))):=Lib.hid (fun v=>by
  have h1:=(But.of_below (cb:=cb) (Below.refl w.heap.size w)).setCell v
  exact ⟨h1.os,h1.tape,h1.output,by have:=h1.size;simp,fun k hk hc=>(Below.heap_alloc _ _ k (by have:=h1.size;omega)).trans (h1.block k hk hc)⟩)
 clear hc
 have hw : IntKind.i64.wrap ((n : Int) + 1) = ((n + 1 : Nat) : Int):=by rw [wrap_small _ (by omega) (by omega)];omega
 have HW:=Lib.hid hw
 by_cases h1 : 4096 < n + 1
 ·have HE : Hid (badBound n d = true):=Lib.hid (by simp [badBound,h1])
  have h2 : decide ((4096 : Int) < (n : Int) + 1) = true:=by simp;omega
  have h3 : (4096 : Int) < (n : Int) + 1:=by omega
  clear hw h1
  go_enter Tryz.func79,Tryz.ntmps79
  go_wp2
  go_ret
  refine ⟨by rw [HE.out];rfl,HBT.out _,?_⟩
  (try rw [show (((n + 1 : Nat) : Int)) = (n : Int) + 1 by omega])
  exact (HC.out.set _).alloc _
 ·have h2 : decide ((4096 : Int) < (n : Int) + 1) = false:=by simp;omega
  have h3 : ¬ (4096 : Int) < (n : Int) + 1:=by omega
  by_cases h4 : 32 ≤ d
  ·have HE : Hid (badBound n d = true):=Lib.hid (by simp [badBound,h4])
   have h5 : (32 : Int) ≤ d:=by omega
   clear hw h1
   go_enter Tryz.func79,Tryz.ntmps79
   go_wp2
   go_ret
   refine ⟨by rw [HE.out];first | rfl | (simp;omega),HBT.out _,?_⟩
   (try rw [show (((n + 1 : Nat) : Int)) = (n : Int) + 1 by omega])
   exact (HC.out.set _).alloc _
  ·have HE : Hid (badBound n d = false):=Lib.hid (by simp [badBound];omega)
   have h5 : ¬ (32 : Int) ≤ d:=by omega
   clear hw h1
   go_enter Tryz.func79,Tryz.ntmps79
   go_wp2
   go_ret
   refine ⟨by rw [HE.out];first | rfl | (simp;omega),HBT.out _,?_⟩
   (try rw [show (((n + 1 : Nat) : Int)) = (n : Int) + 1 by omega])
   exact (HC.out.set _).alloc _
def faultCells (cb : Nat) : List Value:=
 [.int .i64 17,.func (.func 79) #[] #[.pointer (some ⟨cb,0,none⟩)],.int .i64 12,.func (.func 80) #[] #[],.int .i64 11,.func (.func 82) #[] #[],
  .int .i64 10,.func (.func 85) #[] #[],.int .i64 18,.func (.func 88) #[] #[],.int .i64 14,.func (.func 89) #[] #[],.int .i64 15,.func (.func 92) #[] #[]]
set_option maxHeartbeats 2000000 in
theorem faults_any (w : World) : Calls Tryz.prog 45 #[] w fun e w'=>e = .returned (.slice (some ⟨w.heap.size + 1,0,none⟩) 7 7) ∧ Below w.heap.size w w' ∧ Boxed w' w.heap.size 3 (.int .i64 0) ∧ w'.heap[w.heap.size + 1]? = some (.cells (faultCells w.heap.size).toArray 92 (0,0)):=by
 have HB:=Lib.hid (((Below.refl _ w).alloc (Nat.le_refl _) (.cells #[.int .i64 0] 3)).alloc (by simp) (.cells (faultCells w.heap.size).toArray 92))
 have HX:=Lib.hid ((Boxed.new w 3 (.int .i64 0)).alloc (.cells (faultCells w.heap.size).toArray 92))
 have HY:=Lib.hid (heap_alloc_new (w.alloc (.cells #[.int .i64 0] 3)) (.cells (faultCells w.heap.size).toArray 92))
 go_enter Tryz.func45,Tryz.ntmps45
 go_wp2
 go_ret
 exact ⟨rfl,HB.out,HX.out,by have:=HY.out;rw [World.size_alloc] at this;exact this⟩
def Marks (n₀ : Nat) (ds : List Deferred) (w : World) : Prop:=∃ Ds : List Nat,ds = Ds.map (fun D=>{ target:=.collected D,args:=#[] }) ∧ Ds.Nodup ∧ ∀ D ∈ Ds,n₀ ≤ D ∧ w.heap[D]? = some (.deferred (some []))
theorem Marks.nil (n₀ : Nat) (w : World) : Marks n₀ [] w:=⟨[],rfl,List.nodup_nil,fun _ h=>by cases h⟩
theorem leave_marks {n : Nat} {P : Program} {fn : Func} {tmps : Array Value} {W : World} {v : Value} (hres : ∀ w,(results fn tmps).run P w = .ok v w) : ∀ (ds : List Deferred) (w : World),Marks W.heap.size ds w → Below W.heap.size W w →
  LeavesInM Fence.wide n P fn tmps (fun e w'=>e = .returned v ∧ Below W.heap.size W w') ds .returning w:=by
 intro ds
 induction ds with
 | nil=>intro w _ hb;exact ⟨v,hres w,rfl,hb⟩
 | cons d ds ih=>
  intro w hm hb
  obtain ⟨Ds,h1,h2,h3⟩:=hm
  cases Ds with
  | nil=>cases h1
  | cons D Ds=>
   injection h1 with h4 h5
   subst h4
   obtain ⟨hD1,hD2⟩:=h3 D (by simp)
   obtain ⟨hn1,hn2⟩:=List.nodup_cons.1 h2
   refine ⟨by simp,.inl ⟨D,_,rfl,run_takeDeferred hD2,ih _ ⟨Ds,h5,hn2,fun E hE=>?_⟩ (hb.trans (below_put _ hD2 hD1))⟩⟩
   obtain ⟨h6,h7⟩:=h3 E (by simp [hE])
   exact ⟨h6,(World.putObj_heap_other (fun e=>hn1 (by rw [← e];exact hE))).trans h7⟩
def badAt (p : Nat → Nat → Tr → Bool) : Nat → List (Nat × Tr) → Bool
 | _,[]=>false
 | n,(d,t) :: r=>p n d t || badAt p (n + 1) r
theorem badAt_append (p : Nat → Nat → Tr → Bool) : ∀ (a b : List (Nat × Tr)) (n : Nat),badAt p n (a ++ b) = (badAt p n a || badAt p (n + a.length) b):=by
 intro a
 induction a with
 | nil=>intro b n;simp [badAt]
 | cons x r ih=>
  intro b n
  obtain ⟨d,t⟩:=x
  simp only [List.cons_append,badAt,ih,List.length_cons,Bool.or_assoc]
  rw [show n + 1 + r.length = n + (r.length + 1) by omega]
theorem badAt_snoc (p : Nat → Nat → Tr → Bool) (a : List (Nat × Tr)) (d : Nat) (t : Tr) : badAt p 0 (a ++ [(d,t)]) = (badAt p 0 a || p a.length d t):=by
 rw [badAt_append,Nat.zero_add]
 simp [badAt]
def badOrder : Tr → Bool
 | .node _ _ al _=>pairB notUp al
def badThere : Tr → Bool
 | .node _ _ _ ks=>pairB twoTx ks
def tabP : List (Int × (Nat → Nat → Tr → Bool)):=
 [(17,fun n d _=>badBound n d),(12,fun _ _ t=>badForm t),(11,fun _ _ t=>badName t),(10,fun _ _ t=>badUTF t),(18,fun _ _ t=>badEmpty t),(14,fun _ _ t=>badOrder t),(15,fun _ _ t=>badThere t)]
def chkF : List (Int × (Nat → Nat → Tr → Bool)) → List (Nat × Tr) → Int
 | [],_=>0
 | (e,p) :: r,ns=>if badAt p 0 ns = true then e else chkF r ns
def chkT (t : Tr) : Int:=chkF tabP (nodesT 0 t)
theorem chkF_hit : ∀ (l : List (Int × (Nat → Nat → Tr → Bool))) (ns : List (Nat × Tr)) (k : Nat) (e : Int) (p : Nat → Nat → Tr → Bool),(∀ (j : Nat) (e' : Int) (p' : Nat → Nat → Tr → Bool),j < k → l[j]? = some (e',p') → badAt p' 0 ns = false) → l[k]? = some (e,p) → badAt p 0 ns = true → chkF l ns = e:=by
 intro l
 induction l with
 | nil=>intro ns k e p _ h;simp at h
 | cons x r ih=>
  intro ns k e p h1 h2 h3
  obtain ⟨e0,p0⟩:=x
  cases k with
  | zero=>
   simp only [List.getElem?_cons_zero,Option.some.injEq,Prod.mk.injEq] at h2
   obtain ⟨rfl,rfl⟩:=h2
   simp [chkF,h3]
  | succ k=>
   have h4:=h1 0 e0 p0 (by omega) rfl
   simp only [chkF,h4]
   rw [if_neg (by simp)]
   exact ih ns k e p (fun j e' p' hj h=>h1 (j + 1) e' p' (by omega) (by simpa using h)) (by simpa using h2) h3
theorem chkF_none : ∀ (l : List (Int × (Nat → Nat → Tr → Bool))) (ns : List (Nat × Tr)),(∀ (j : Nat) (e' : Int) (p' : Nat → Nat → Tr → Bool),l[j]? = some (e',p') → badAt p' 0 ns = false) → chkF l ns = 0:=by
 intro l
 induction l with
 | nil=>intro ns _;rfl
 | cons x r ih=>
  intro ns h1
  obtain ⟨e0,p0⟩:=x
  have h4:=h1 0 e0 p0 rfl
  simp only [chkF,h4]
  rw [if_neg (by simp)]
  exact ih ns (fun j e' p' h=>h1 (j + 1) e' p' (by simpa using h))
structure FaultC (cb kf : Nat) (lb : Array Value) (p : Nat → Nat → Tr → Bool) (cnt : Nat → Nat) : Prop where
 enters : ∀ args w,(callFunc kf args).run Tryz.prog w = .ok (.enter kf args) w
 tells : ∀ (n d c : Nat) (a : Option Addr) (hs : List Value) (u : Tr) (W : World),n ≤ 1000000000 → d ≤ 1000000 → Lay W → TreeV W u hs → fitN u → Boxed W cb 3 (.int .i64 (cnt n : Nat)) →
  Calls Tryz.prog kf (#[.slice a d c,.agg hs.toArray] ++ lb) W fun e W'=>e = .returned (.bool (p n d u)) ∧ But cb W W' ∧ Boxed W' cb 3 (.int .i64 (cnt (n + 1) : Nat))
theorem FaultC.plain {cb kf C : Nat} {p : Tr → Bool} (he : ∀ args w,(callFunc kf args).run Tryz.prog w = .ok (.enter kf args) w)
  (h : ∀ (v : Value) (u : Tr) (hs : List Value) (W : World),Lay W → TreeV W u hs → fitN u → Calls Tryz.prog kf #[v,.agg hs.toArray] W fun e W'=>e = .returned (.bool (p u)) ∧ Below W.heap.size W W') : FaultC cb kf #[] (fun _ _ t=>p t) (fun _=>C):=
 ⟨he,fun _ _ _ _ hs u W _ _ hl ht hf hc=>(h _ u hs W hl ht hf).mono (fun _ _ ⟨h1,h2⟩=>⟨h1,But.of_below h2,(h2.block _ hc.lt).trans hc⟩)⟩
theorem fault_bound (cb : Nat) : FaultC cb 79 #[.pointer (some ⟨cb,0,none⟩)] (fun n d _=>badBound n d) (fun n=>n):=
 ⟨enters_of Tryz.func79 (by kernel_rfl) rfl,fun n d c a hs u W hn hd _ ht _ hc=>bound_any n d c cb a u hs W ht hn (by omega) hc⟩
def tabFl (cb : Nat) : List (Nat × Array Value):=
 [(79,#[.pointer (some ⟨cb,0,none⟩)]),(80,#[]),(82,#[]),(85,#[]),(88,#[]),(89,#[]),(92,#[])]
theorem fault_at (cb C k : Nat) (hk : k < 7) : ∃ e p kf lb cnt,tabP[k]? = some (e,p) ∧ FaultC cb kf lb p cnt ∧ (lb = #[] ∨ lb = #[.pointer (some ⟨cb,0,none⟩)]) ∧ (k = 0 → ∀ n,cnt n = n) ∧ (k ≠ 0 → ∀ n,cnt n = C) ∧
  (faultCells cb)[k * 2]? = some (.int .i64 e) ∧ (faultCells cb)[k * 2 + 1]? = some (.func (.func kf) #[] lb) ∧ -1000 ≤ e ∧ e ≤ 1000:=by
 match k,hk with
 | 0,_=>exact ⟨17,_,_,_,_,rfl,fault_bound cb,.inr rfl,fun _ _=>rfl,fun h=>absurd rfl h,rfl,rfl,by omega,by omega⟩
 | 1,_=>exact ⟨12,_,_,_,_,rfl,FaultC.plain (C:=C) (enters_of Tryz.func80 (by kernel_rfl) rfl) (fun v u hs W _ ht _=>form_any v u hs W ht),.inl rfl,fun h=>by omega,fun _ _=>rfl,rfl,rfl,by omega,by omega⟩
 | 2,_=>exact ⟨11,_,_,_,_,rfl,FaultC.plain (C:=C) (enters_of Tryz.func82 (by kernel_rfl) rfl) (fun v u hs W _ ht hf=>name_any v u hs W ht hf),.inl rfl,fun h=>by omega,fun _ _=>rfl,rfl,rfl,by omega,by omega⟩
 | 3,_=>exact ⟨10,_,_,_,_,rfl,FaultC.plain (C:=C) (enters_of Tryz.func85 (by kernel_rfl) rfl) (fun v u hs W hl ht hf=>utf_any v u hs W hl ht hf),.inl rfl,fun h=>by omega,fun _ _=>rfl,rfl,rfl,by omega,by omega⟩
 | 4,_=>exact ⟨18,_,_,_,_,rfl,FaultC.plain (C:=C) (enters_of Tryz.func88 (by kernel_rfl) rfl) (fun v u hs W _ ht _=>noText_any v u hs W ht),.inl rfl,fun h=>by omega,fun _ _=>rfl,rfl,rfl,by omega,by omega⟩
 | 5,_=>exact ⟨14,_,_,_,_,rfl,FaultC.plain (C:=C) (enters_of Tryz.func89 (by kernel_rfl) rfl) (fun v u hs W _ ht hf=>by cases u;exact order_any v _ hs W ht hf),.inl rfl,fun h=>by omega,fun _ _=>rfl,rfl,rfl,by omega,by omega⟩
 | 6,_=>exact ⟨15,_,_,_,_,rfl,FaultC.plain (C:=C) (enters_of Tryz.func92 (by kernel_rfl) rfl) (fun v u hs W _ ht hf=>by cases u;exact there_any v _ hs W ht hf),.inl rfl,fun h=>by omega,fun _ _=>rfl,rfl,rfl,by omega,by omega⟩
 | k + 7,h=>exact absurd h (by omega)
theorem Kb.of_but {n₀ nW cb : Nat} {A B : World} (h : But cb A B) (h1 : n₀ ≤ cb) (h2 : cb < nW) : Kb n₀ nW A B:=⟨h.size,fun k hk hl=>h.block k hl (by omega)⟩
theorem Kb.set {n₀ nW b : Nat} {A B : World} (h : Kb n₀ nW A B) (h1 : n₀ ≤ b) (h2 : b < nW) (v : Value) : Kb n₀ nW A (B.setCell ⟨b,0,none⟩ v):=
 ⟨by have:=(grownBy_setCell' B b v).size;have:=h.1;omega,fun k hk hl=>((grownBy_setCell' B b v).block k (by have:=h.1;omega) (fun e=>by cases e;omega)).trans (h.2 k hk hl)⟩
structure CInv (wR : World) (bw cb : Nat) (wrong : Int) (W : World) : Prop where
 os : W.os = wR.os
 tape : W.tape = wR.tape
 output : W.output = wR.output
 size : wR.heap.size ≤ W.heap.size
 block : ∀ k,k < wR.heap.size → k ≠ bw → k ≠ cb → W.heap[k]? = wR.heap[k]?
 wr : Boxed W bw 28 (.int .i64 wrong)
theorem CInv.below {wR A B : World} {bw cb : Nat} {x : Int} (h : CInv wR bw cb x A) (hb : Below wR.heap.size A B) (h1 : bw < wR.heap.size) : CInv wR bw cb x B:=
 ⟨hb.os.trans h.os,hb.tape.trans h.tape,hb.output.trans h.output,Nat.le_trans h.size hb.size,fun k hk a b=>(hb.block k hk).trans (h.block k hk a b),(hb.block _ h1).trans h.wr⟩
theorem CInv.bel {wR W w : World} {bw cb : Nat} {x : Int} (h : CInv wR bw cb x W) (hb : Below w.heap.size w wR) (h1 : w.heap.size ≤ bw) (h2 : w.heap.size ≤ cb) : Below w.heap.size w W:=
 ⟨h.os.trans hb.os,h.tape.trans hb.tape,h.output.trans hb.output,Nat.le_trans hb.size h.size,fun k hk=>(h.block k (by have:=hb.size;omega) (by omega) (by omega)).trans (hb.block k hk)⟩
theorem CInv.but {wR A B : World} {bw cb : Nat} {x : Int} (h : CInv wR bw cb x A) (hb : But cb A B) (h1 : bw ≠ cb) : CInv wR bw cb x B:=
 ⟨hb.os.trans h.os,hb.tape.trans h.tape,hb.output.trans h.output,Nat.le_trans h.size hb.size,fun k hk a b=>(hb.block k (by have:=h.size;omega) b).trans (h.block k hk a b),(hb.block _ h.wr.lt h1).trans h.wr⟩
theorem CInv.put {wR A : World} {bw cb : Nat} {x : Int} (h : CInv wR bw cb x A) (y : Int) : CInv wR bw cb y (A.setCell ⟨bw,0,none⟩ (.int .i64 y)):=
 ⟨h.os,h.tape,h.output,by have:=(grownBy_setCell' A bw (.int .i64 y)).size;have:=h.size;omega,fun k hk a b=>((grownBy_setCell' A bw (.int .i64 y)).block k (by have:=h.size;omega) (fun e=>a (by cases e;rfl))).trans (h.block k hk a b),h.wr.set _⟩
theorem Marks.on {n₀ bw cb : Nat} {ds : List Deferred} {wr wR W : World} {x y : Value} {t s : TypeId} {z : Int} (hm : Marks n₀ ds wr) (hb : Below wr.heap.size wr wR) (hw : Boxed wr bw t x) (hc : Boxed wr cb s y) (hi : CInv wR bw cb z W)
  (hn : n₀ ≤ wR.heap.size) (hmk : W.heap[wR.heap.size]? = some (.deferred (some []))) : Marks n₀ ({ target:=.collected wR.heap.size,args:=#[] } :: ds) W:=by
 obtain ⟨Ds,rfl,h2,h3⟩:=hm
 refine ⟨wR.heap.size :: Ds,rfl,List.nodup_cons.2 ⟨fun h=>?_,h2⟩,fun D hD=>?_⟩
 ·have h4:=(Array.getElem?_eq_some_iff.1 (h3 _ h).2).1
  have:=hb.size
  omega
 ·rcases List.mem_cons.1 hD with rfl | hD
  ·exact ⟨hn,hmk⟩
  ·obtain ⟨h4,h5⟩:=h3 D hD
   have h6:=(Array.getElem?_eq_some_iff.1 h5).1
   refine ⟨h4,(hi.block D (by have:=hb.size;omega) (fun e=>?_) (fun e=>?_)).trans ((hb.block _ h6).trans h5)⟩
   ·subst e;rw [show wr.heap[D]? = _ from hw] at h5;cases h5
   ·subst e;rw [show wr.heap[D]? = _ from hc] at h5;cases h5
attribute [local go_sem] Oper.semAt_some
set_option maxHeartbeats 1000000 in
theorem all_any2 (lb tx : ByteArray) (a d : Option Addr) (n1 c1 n2 c2 : Nat) (w : World) :
  Calls Tryz.prog 46 #[.agg #[.string lb,.string tx,.slice a n1 c1,.slice d n2 c2]] w fun e w'=>e = .returned (.func (.func 95) #[] #[.pointer (some ⟨w.heap.size,0,none⟩)]) ∧ Below w.heap.size w w' ∧ Box4 w.heap.size lb tx (.slice a n1 c1) (.slice d n2 c2) w':=by
 have HB:=Lib.hid ((Below.refl _ w).alloc (Nat.le_refl _) (.cells #[.string lb,.string tx,.slice a n1 c1,.slice d n2 c2] 27))
 have HX:=Lib.hid (Box4.made lb tx (.slice a n1 c1) (.slice d n2 c2) w)
 go_enter Tryz.func46,Tryz.ntmps46
 go_wp2
 go_ret
 exact ⟨rfl,HB.out,HX.out⟩
def fitT (t : Tr) : Prop:=depthT t ≤ 1000000 ∧ (nodesT 0 t).length ≤ 1000000000 ∧ ∀ x ∈ nodesT 0 t,fitN x.2
set_option maxRecDepth 100000 in
set_option maxHeartbeats 4000000 in
theorem checkT_any (t : Tr) (hs : List Value) (w : World) (hl : Lay w) (ht : TreeV w t hs) (hf : fitT t) :
  Calls Tryz.prog 25 #[.agg hs.toArray] w fun e w'=>e = .returned (.int .i64 (chkT t)) ∧ Below w.heap.size w w':=by
 obtain ⟨hd,hN,hfn⟩:=hf
 have ht0:=ht
 obtain ⟨lb,tx,al,ks⟩:=t
 rw [TreeV.eq] at ht
 obtain ⟨va,vk,rfl,⟨a1,c1,rfl,_⟩,lk,_,⟨a2,c2,rfl,_⟩⟩:=ht
 generalize hT : Tr.node lb tx al ks = T at ht0 hd hN hfn ⊢
 clear hT
 generalize al.length = n1 at ht0 ⊢
 generalize ks.length = n2 at ht0 ⊢
 generalize (⟨lb.toArray⟩ : ByteArray) = lbb at ht0 ⊢
 generalize (⟨tx.toArray⟩ : ByteArray) = txb at ht0 ⊢
 have HL:=Lib.hid hl
 have HT:=Lib.hid ht0
 have HD:=Lib.hid hd
 have HN:=Lib.hid hN
 have HFN:=Lib.hid hfn
 have HX0:=Lib.hid ((Box4.made lbb txb (.slice a1 n1 c1) (.slice a2 n2 c2) w).below ((Below.refl _ _).alloc (Nat.le_refl _) (.cells #[.int .i64 0] 28)) (Nat.le_refl _))
 have HBW:=Lib.hid (Boxed.new (w.alloc (.cells #[.string lbb,.string txb,.slice a1 n1 c1,.slice a2 n2 c2] 27)) 28 (.int .i64 0))
 have HB0:=Lib.hid (((Below.refl _ w).alloc (Nat.le_refl _) (.cells #[.string lbb,.string txb,.slice a1 n1 c1,.slice a2 n2 c2] 27)).alloc (by simp) (.cells #[.int .i64 0] 28))
 clear hl ht0 hd hN hfn
 refine (callsIn_wide (n:=3)).1 ?_
 refine callsIn_of_wp_marks Tryz.func25 rfl trivial ?_ rfl
 simp only [Tryz.ntmps25,List.size_toArray,List.length_cons,List.length_nil,Nat.reduceAdd,Nat.reduceSub,Array.replicate_succ,Array.replicate_zero,List.push_toArray,List.append_toArray,List.nil_append,List.cons_append]
 gi_wp2_with fail
 refine wpIn_wide.2 (wp_scope_straight ((wpIn_wide (n:=3)).1 ?_))
 gi_wp2_with fail
 refine wpIn_label ?_
 gi_wp2_with fail
 refine ⟨trivial,(callsIn_wide.2 (faults_any _)).mono ?_⟩
 rintro e w3 ⟨rfl,hb3,hc3,hf3⟩
 have HB3:=Lib.hid (th HB0.out (Nat.le_refl _) hb3)
 have HX3:=Lib.hid (HX0.out.below hb3 (by simp))
 have HW3 : Hid (Boxed w3 (w.heap.size + 1) 28 (.int .i64 0)):=Lib.hid (by have:=(hb3.block _ HBW.out.lt).trans HBW.out;rw [World.size_alloc] at this;exact this)
 rw [World.size_alloc,World.size_alloc] at hc3 hf3
 have HC3:=Lib.hid hc3
 have HF3:=Lib.hid hf3
 clear hb3 hc3 hf3 HX0 HBW HB0
 gi_wp2_with fail
 refine wpIn_loop (fun a wr=>∃ (k C : Nat) (ds : List Deferred) (u5 u11 u12 u13 u14 u15 u25 : Value),k ≤ 7 ∧ a = { tmps:=#[.agg #[.string lbb,.string txb,.slice a1 n1 c1,.slice a2 n2 c2],.pointer (some ⟨w.heap.size,0,none⟩),.int .i64 0,.pointer (some ⟨w.heap.size + 1,0,none⟩),undef,u5,undef,undef,
   .slice (some ⟨w.heap.size + 1 + 1 + 1,0,none⟩) 7 7,.int .i64 7,.int .i64 k,u11,u12,u13,u14,u15,undef,undef,undef,undef,undef,undef,undef,undef,undef,u25,undef],defers:=ds } ∧
   Hid (Marks w.heap.size ds wr) ∧ Hid (Below w.heap.size w wr) ∧ Hid (Box4 w.heap.size lbb txb (.slice a1 n1 c1) (.slice a2 n2 c2) wr) ∧ Hid (Boxed wr (w.heap.size + 1) 28 (.int .i64 0)) ∧ Hid (Boxed wr (w.heap.size + 1 + 1) 3 (.int .i64 C)) ∧ Hid (k = 0 → C = 0) ∧
   Hid (wr.heap[w.heap.size + 1 + 1 + 1]? = some (.cells (faultCells (w.heap.size + 1 + 1)).toArray 92 (0,0))) ∧ Hid (∀ (j : Nat) (e' : Int) (p' : Nat → Nat → Tr → Bool),j < k → tabP[j]? = some (e',p') → badAt p' 0 (nodesT 0 T) = false))
  (fun a _=>7 - (intOf (a.tmps.getD 10 undef)).toNat) ?_ ?_
 ·exact ⟨0,0,[],_,_,_,_,_,_,_,by omega,rfl,Lib.hid (Marks.nil _ _),HB3,HX3,HW3,HC3,Lib.hid (fun _=>rfl),HF3,Lib.hid (fun _ _ _ h=>absurd h (by omega))⟩
 ·rintro a wr ⟨k,C,ds,u5,u11,u12,u13,u14,u15,u25,hk,rfl,HM,HB,HX,HW,HC,HC0,HF,HG⟩
  clear HB3 HX3 HW3 HC3 HF3
  by_cases hlt : k < 7
  ·obtain ⟨e0,p0,kf,lb0,cnt,ht0,hfc,hlb,hcz,hcn,hc1,hc2,he1,he2⟩:=fault_at (w.heap.size + 1 + 1) C k hlt
   have hs1 : wr.cell? ⟨w.heap.size + 1 + 1 + 1,k * 2,none⟩ = some (.int .i64 e0):=by
    rw [cell_of_row wr _ _ _ 92 (0,0) HF.out]
    rw [List.getElem?_toArray]
    exact hc1
   have hs2 : wr.cell? ⟨w.heap.size + 1 + 1 + 1,k * 2 + 1,none⟩ = some (.func (.func kf) #[] lb0):=by
    rw [cell_of_row wr _ _ _ 92 (0,0) HF.out]
    rw [List.getElem?_toArray]
    exact hc2
   have hi0 : (0 : Int) ≤ k:=by omega
   have hi1 : (k : Int) < 7:=by omega
   have HT0:=Lib.hid ht0
   have HFC:=Lib.hid hfc.tells
   have eg:=hfc.enters
   have HLB:=Lib.hid hlb
   have HCZ:=Lib.hid hcz
   have HCN:=Lib.hid hcn
   have HLT:=Lib.hid hlt
   have HE1:=Lib.hid he1
   have HE2:=Lib.hid he2
   obtain ⟨x0,x1,x2,x3⟩:=HX.out.at
   have hxl:=HX.out.lt
   clear ht0 hfc hlb hcz hcn hc1 hc2 he1 he2 hlt
   gi_wp2_with fail
   refine ⟨trivial,(callsIn_wide.2 (all_any2 _ _ _ _ _ _ _ _ _)).mono ?_⟩
   rintro e w5 ⟨rfl,hb5,hx5⟩
   have hfb : (wr.alloc (.cells #[.int .i64 e0,.func (.func kf) #[] lb0] 92)).heap[wr.heap.size]? = some (.cells #[.int .i64 e0,.func (.func kf) #[] lb0] 92 (0,0)):=heap_alloc_new wr _
   have hbr5 : Below wr.heap.size wr w5:=th ((Below.refl _ wr).alloc (Nat.le_refl _) _) (Nat.le_refl _) hb5
   have HFB:=Lib.hid ((hb5.block _ (by simp)).trans hfb)
   rw [World.size_alloc] at hx5
   have HX5:=Lib.hid hx5
   have HBR:=Lib.hid hbr5
   have HB5:=Lib.hid (th HB.out (Nat.le_refl _) hbr5)
   have HSZ : Hid (wr.heap.size + 2 ≤ w5.heap.size):=Lib.hid (by have:=HX5.out.lt;omega)
   have HMW:=Lib.hid HW.out.lt
   have HMC:=Lib.hid HC.out.lt
   clear hb5 hx5 hfb hbr5 x0 x1 x2 x3 hs1 hs2
   gi_wp2_with fail
   refine wpIn_rangeAll (wr.heap.size + 1) rfl w T lbb txb (.slice a1 n1 c1) (.slice a2 n2 c2) HD.out 1000000000 HN.out (by omega) (fun x=>fitN x.2) HFN.out ((Dk.refl w).below HB5.out (Nat.le_refl _)) HB5.out.size HT.out HX5.out
    (fun pre W=>CInv w5 (w.heap.size + 1) (w.heap.size + 1 + 1) 0 W ∧ Boxed W (w.heap.size + 1 + 1) 3 (.int .i64 (cnt pre.length : Nat)) ∧ badAt p0 0 pre = false)
    (fun c q W=>c = .exit 0 ∧ CInv w5 (w.heap.size + 1) (w.heap.size + 1 + 1) e0 W ∧ badAt p0 0 q = true)
    ?hI ?hIx ?h0 ?hround ?hdone ?hstop
   case hI=>exact fun pre A B h hb=>⟨h.1.below hb (by have:=HMW.out;have:=HSZ.out;omega),(hb.block _ (by have:=HMC.out;have:=HSZ.out;omega)).trans h.2.1,h.2.2⟩
   case hIx=>exact fun c pre A B h hb=>⟨h.1,h.2.1.below hb (by have:=HMW.out;have:=HSZ.out;omega),h.2.2⟩
   case h0=>
    refine ⟨⟨rfl,rfl,rfl,Nat.le_refl _,fun _ _ _ _=>rfl,(HBR.out.block _ HMW.out).trans HW.out⟩,?_,rfl⟩
    have h9 : (cnt 0 : Nat) = C:=by
     by_cases hk0 : k = 0
     ·rw [HCZ.out hk0,HC0.out hk0]
     ·exact HCN.out hk0 0
    show Boxed w5 _ _ (.int .i64 (cnt 0 : Nat))
    rw [h9]
    exact (HBR.out.block _ HMC.out).trans HC.out
   case hround=>
    rintro m l pre d u v xs hs W hl1 hl2 ⟨hci,hcb,hbad⟩ hown hDk htr hlen hd1 hfu
    obtain ⟨av,cv,rfl⟩:=own_sl hown
    obtain ⟨ulb,utx,ual,uks⟩:=u
    have htr':=htr
    rw [TreeV.eq] at htr'
    obtain ⟨va,vk,rfl,⟨b1,d1,rfl,_⟩,_,_,⟨b2,d2,rfl,_⟩⟩:=htr'
    have HCI:=Lib.hid hci
    have HCB:=Lib.hid hcb
    have HBAD:=Lib.hid hbad
    have HDK:=Lib.hid hDk
    have HTR:=Lib.hid htr
    have HFU : Hid (fitN (.node ulb utx ual uks)):=Lib.hid hfu
    clear hci hcb hbad hDk htr hown hfu
    generalize Tr.node ulb utx ual uks = u at HTR HFU ⊢
    generalize (⟨ulb.toArray⟩ : ByteArray) = lu at HTR ⊢
    generalize (⟨utx.toArray⟩ : ByteArray) = tu at HTR ⊢
    generalize ual.length = m1 at HTR ⊢
    generalize uks.length = m2 at HTR ⊢
    gi_wp2
    have hba : Below w5.heap.size W (W.alloc (.cells #[.string lu,.string tu,.slice b1 m1 d1,.slice b2 m2 d2] 27)):=(Below.refl _ W).alloc HCI.out.size _
    have hbw5 : w.heap.size + 1 < w5.heap.size:=by have:=HMW.out;have:=HSZ.out;omega
    have hbc5 : w.heap.size + 1 + 1 < w5.heap.size:=by have:=HMC.out;have:=HSZ.out;omega
    refine ⟨Kb.below ((Below.refl _ W).alloc (Nat.le_refl _) _),fun r h=>⟨h.1.below hba hbw5,(hba.block _ hbc5).trans h.2.1,h.2.2⟩,fun o=>?_⟩
    obtain ⟨W2,hW2⟩ : ∃ W2,(W.alloc (.cells #[.string lu,.string tu,.slice b1 m1 d1,.slice b2 m2 d2] 27)).putObj l o = W2:=⟨_,rfl⟩
    have hb2 : Below w5.heap.size W W2:=by
     rw [← hW2]
     exact hba.trans (below_put o (by rw [Below.heap_alloc _ _ _ hl2];exact Array.getElem?_eq_getElem hl2) (by omega))
    have hx2 : Box4 W.heap.size lu tu (.slice b1 m1 d1) (.slice b2 m2 d2) W2:=by
     rw [← hW2]
     exact (World.putObj_heap_other (by omega)).trans (Box4.made lu tu (.slice b1 m1 d1) (.slice b2 m2 d2) W)
    rw [hW2]
    have HW2:=Lib.hid hW2
    clear hW2
    have HCI2:=Lib.hid (HCI.out.below hb2 hbw5)
    have HCB2:=Lib.hid (show Boxed W2 _ _ _ from (hb2.block _ hbc5).trans HCB.out)
    have hfb2 : W2.heap[wr.heap.size]? = some (.cells #[.int .i64 e0,.func (.func kf) #[] lb0] 92 (0,0)):=(HCI2.out.block _ (by have:=HSZ.out;omega) (by have:=HMW.out;omega) (by have:=HMC.out;omega)).trans HFB.out
    have HFB2:=Lib.hid hfb2
    have y0 : W2.cell? ⟨wr.heap.size,0,none⟩ = some (.int .i64 e0):=by rw [Lib.cell_of_heap hfb2];rfl
    have y1 : W2.cell? ⟨wr.heap.size,1,none⟩ = some (.func (.func kf) #[] lb0):=by rw [Lib.cell_of_heap hfb2];rfl
    obtain ⟨z0,z1,z2,z3⟩:=hx2.at
    have HCALL:=Lib.hid (HFC.out pre.length d cv av _ u W2 (by omega) hd1 (HL.out.below (HCI2.out.bel HB5.out (by omega) (by omega)) HL.out.size) (TreeV.dk (HDK.out.below hb2 HB5.out.size) u _ HTR.out) HFU.out HCB2.out)
    clear hba hb2 hx2 hfb2
    cases hp : p0 pre.length d u with
    | true=>
     rw [hp] at HCALL
     have HP:=Lib.hid hp
     clear hp
     gi_wp2_with fail
     refine ⟨trivial,wideV_le,((callsIn_wide.2 HCALL.out).inRound _).mono ?_⟩
     rintro e w6 ⟨rfl,hb6,hc6⟩
     have hci6:=HCI2.out.but hb6 (by omega)
     have y6 : w6.cell? ⟨wr.heap.size,0,none⟩ = some (.int .i64 e0):=by
      rw [Lib.cell_of_heap ((hb6.block _ (Array.getElem?_eq_some_iff.1 HFB2.out).1 (by have:=HMC.out;omega)).trans HFB2.out)];rfl
     have v6:=hci6.wr.cell
     have f6:=hci6.wr.frozen
     have HCI6:=Lib.hid hci6
     have HKB6:=Lib.hid (Kb.of_but (n₀:=w.heap.size) (nW:=w5.heap.size) hb6 (by omega) hbc5)
     clear hci6 hb6 hc6 y0 y1 z0 z1 z2 z3
     gi_wp2
     exact ⟨HKB6.out.set (by omega) hbw5 _,rfl,HCI6.out.put _,by rw [badAt_snoc,HP.out,Bool.or_true]⟩
    | false=>
     rw [hp] at HCALL
     have HP:=Lib.hid hp
     clear hp
     gi_wp2_with fail
     refine ⟨trivial,wideV_le,((callsIn_wide.2 HCALL.out).inRound _).mono ?_⟩
     rintro e w6 ⟨rfl,hb6,hc6⟩
     have HCI6:=Lib.hid (HCI2.out.but hb6 (by omega))
     have HC6:=Lib.hid hc6
     have HKB6:=Lib.hid (Kb.of_but (n₀:=w.heap.size) (nW:=w5.heap.size) hb6 (by omega) hbc5)
     clear hb6 hc6 y0 y1 z0 z1 z2 z3
     gi_wp2
     exact ⟨HKB6.out,HCI6.out,by rw [List.length_append];exact HC6.out,by rw [badAt_snoc,HP.out,HBAD.out];rfl⟩
   case hdone=>
    rintro W ⟨hci,hcb,hbad⟩ hmk
    have HM2:=Lib.hid (HM.out.on HBR.out HW.out HC.out hci (by have:=HB5.out.size;omega) hmk)
    have HB2:=Lib.hid (hci.bel HB5.out (by omega) (by omega))
    have HX2 : Hid (Box4 w.heap.size lbb txb (.slice a1 n1 c1) (.slice a2 n2 c2) W):=Lib.hid ((hci.block _ (by have:=HSZ.out;omega) (by omega) (by omega)).trans ((HBR.out.block _ hxl).trans HX.out))
    have HW2:=Lib.hid hci.wr
    have hgl : w.heap.size + 1 + 1 + 1 < wr.heap.size:=(Array.getElem?_eq_some_iff.1 HF.out).1
    have HF2:=Lib.hid ((hci.block _ (by have:=HSZ.out;omega) (by omega) (by omega)).trans ((HBR.out.block _ hgl).trans HF.out))
    have HC2:=Lib.hid hcb
    have HG2 : Hid (∀ (j : Nat) (e' : Int) (p' : Nat → Nat → Tr → Bool),j < k + 1 → tabP[j]? = some (e',p') → badAt p' 0 (nodesT 0 T) = false):=Lib.hid (fun j e' p' hj h=>by
     by_cases hjk : j = k
     ·subst hjk
      rw [HT0.out] at h
      injection h with h
      injection h with h5 h6
      subst h6
      exact hbad
     ·exact HG.out j e' p' (by omega) h)
    clear hci hcb hbad hmk hgl
    dsimp only
    gi_wp2
    exact ⟨⟨k + 1,_,_,_,_,_,_,_,_,_,by have:=HLT.out;omega,rfl,HM2,HB2,HX2,HW2,HC2,Lib.hid (fun h=>absurd h (by omega)),HF2,HG2⟩,by have:=HLT.out;simp [intOf];omega⟩
   case hstop=>
    rintro c q s W hqs ⟨rfl,hci,hbad⟩ hmk
    have HM2:=Lib.hid (HM.out.on HBR.out HW.out HC.out hci (by have:=HB5.out.size;omega) hmk)
    have HB2:=Lib.hid (hci.bel HB5.out (by omega) (by omega))
    have HE : Hid (chkT T = e0):=Lib.hid (chkF_hit tabP _ k e0 p0 HG.out HT0.out (by rw [hqs,badAt_append,hbad];rfl))
    have v6:=hci.wr.cell
    have hwl:=hci.wr.lt
    clear hci hbad hmk
    dsimp only
    gi_wp2
    rw [Exit.noGoto_ret]
    show LeavesInM _ _ _ _ _ (fun e w'=>e = .returned (.int .i64 (chkT T)) ∧ Below w.heap.size w w') _ _ _
    rw [HE.out]
    exact leave_marks (fun w'=>by exact results_tmp (fn:=Tryz.f25) (t:=2) rfl _ _ _) _ _ HM2.out HB2.out
  ·obtain rfl : k = 7:=by omega
   have HE : Hid (chkT T = 0):=Lib.hid (chkF_none tabP _ (fun j e' p' h=>HG.out j e' p' (by have:=(List.getElem?_eq_some_iff.1 h).1;simpa [tabP] using this) h))
   have v6:=HW.out.cell
   have hwl:=HW.out.lt
   gi_wp2
   rw [Exit.noGoto_ret]
   show LeavesInM _ _ _ _ _ (fun e w'=>e = .returned (.int .i64 (chkT T)) ∧ Below w.heap.size w w') _ _ _
   rw [HE.out]
   exact leave_marks (fun w'=>by exact results_tmp (fn:=Tryz.f25) (t:=2) rfl _ _ _) _ _ HM.out HB.out
theorem bare_text_parts {tx : List UInt8} {al : List (List UInt8 × List UInt8)} {ks : List Tr} (h : bareA (.node [] tx al ks) = true) : al = [] ∧ ks = []:=by
 simp [bareA] at h
 exact ⟨h.1.1,h.1.2⟩
theorem bare_elem_parts {lb tx : List UInt8} {al : List (List UInt8 × List UInt8)} {ks : List Tr} (hlb : lb ≠ []) (h : bareA (.node lb tx al ks) = true) : tx = [] ∧ bareK ks = true:=by
 simp [bareA,hlb] at h
 exact h
theorem countS_attrs (al : List (List UInt8 × List UInt8)) (s : Int × Int × Int) (r : List Stp) : countS (al.map attrS ++ r) s = countS r s:=by
 induction al with
 | nil=>rfl
 | cons a q ih=>rw [List.map_cons,List.cons_append,countS_cons,show stepC (attrS a) s = s by simp [stepC,attrS],ih]
theorem count_steps (t : Tr) : bareA t = true → ∀ (n d m : Int) (r : List Stp) (j : Nat),countS (stepsT t ++ r) (n,d,m) = countS r (n + (nodesT j t).length,d,max m (d + depthT t)):=by
 refine Tr.rec (motive_1:=fun t=>bareA t = true → ∀ (n d m : Int) (r : List Stp) (j : Nat),countS (stepsT t ++ r) (n,d,m) = countS r (n + (nodesT j t).length,d,max m (d + depthT t)))
  (motive_2:=fun ks=>bareK ks = true → ∀ (n d m : Int) (r : List Stp) (j : Nat),d ≤ m → countS (stepsK ks ++ r) (n,d,m) = countS r (n + (nodesK j ks).length,d,max m (d + depthK ks))) ?_ ?_ ?_ t
 ·intro lb tx al ks ih hb n d m r j
  by_cases hlb : lb = []
  ·subst hlb
   obtain ⟨rfl,rfl⟩:=bare_text_parts hb
   rw [stepsT_text,List.cons_append,List.nil_append,countS_cons,nodesT_eq]
   simp [stepC,nodesK,depthT,depthK]
  ·obtain ⟨rfl,hk⟩:=bare_elem_parts hlb hb
   rw [stepsT_elem _ _ _ hlb,List.cons_append,countS_cons,List.append_assoc,countS_attrs,List.append_assoc,show stepC ⟨1,lb,[]⟩ (n,d,m) = (n + 1,d + 1,max m (d + 1)) by simp [stepC],ih hk _ _ _ _ (j + 1) (by omega),List.cons_append,List.nil_append,countS_cons,nodesT_eq]
   have h4 : ∀ a b c : Int,stepC ⟨4,[],[]⟩ (a,b,c) = (a,b - 1,c):=fun a b c=>by simp [stepC]
   rw [h4]
   simp only [depthT,List.length_cons]
   congr 1
   ext
   ·simp;omega
   ·simp
   ·simp;omega
 ·intro _ n d m r j hm
  simp [stepsK,nodesK,depthK]
  congr 1
  ext <;> simp
  omega
 ·intro t ks ih1 ih2 hb n d m r j hm
  simp only [bareK,Bool.and_eq_true] at hb
  simp only [stepsK,nodesK,depthK,List.append_assoc,List.length_append]
  rw [ih1 hb.1 n d m _ j,ih2 hb.2 _ _ _ _ j (by omega)]
  congr 1
  ext
  ·simp;omega
  ·simp
  ·simp;omega
theorem nodes_far (t : Tr) : ∀ d,(∀ x ∈ nodesT d t,x.1 < d + depthT t) ∧ ∃ x ∈ nodesT d t,x.1 + 1 = d + depthT t:=by
 refine Tr.rec (motive_1:=fun t=>∀ d,(∀ x ∈ nodesT d t,x.1 < d + depthT t) ∧ ∃ x ∈ nodesT d t,x.1 + 1 = d + depthT t)
  (motive_2:=fun ks=>∀ d,(∀ x ∈ nodesK d ks,x.1 < d + depthK ks) ∧ (ks = [] ∨ ∃ x ∈ nodesK d ks,x.1 + 1 = d + depthK ks)) ?_ ?_ ?_ t
 ·intro lb tx al ks ih d
  obtain ⟨h1,h2⟩:=ih (d + 1)
  rw [nodesT_eq]
  refine ⟨fun x hx=>?_,?_⟩
  ·rcases List.mem_cons.1 hx with rfl | hx
   ·simp only [depthT];omega
   ·have:=h1 x hx;simp only [depthT];omega
  ·rcases h2 with rfl | ⟨x,hx,he⟩
   ·exact ⟨(d,.node lb tx al []),by simp,by simp [depthT,depthK]⟩
   ·exact ⟨x,List.mem_cons_of_mem _ hx,by simp only [depthT];omega⟩
 ·intro d
  exact ⟨fun x hx=>by simp [nodesK] at hx,.inl rfl⟩
 ·intro t ks ih1 ih2 d
  obtain ⟨h1,x1,hx1,he1⟩:=ih1 d
  obtain ⟨h2,h3⟩:=ih2 d
  simp only [nodesK,depthK]
  refine ⟨fun x hx=>?_,.inr ?_⟩
  ·rcases List.mem_append.1 hx with hx | hx
   ·have:=h1 x hx;omega
   ·have:=h2 x hx;omega
  ·rcases h3 with rfl | ⟨x,hx,he⟩
   ·refine ⟨x1,by simp [hx1],?_⟩
    simp only [depthK];omega
   ·by_cases hd : depthT t ≤ depthK ks
    ·exact ⟨x,by simp [hx],by omega⟩
    ·exact ⟨x1,by simp [hx1],by omega⟩
theorem badBound_all : ∀ (ns : List (Nat × Tr)) (n : Nat),badAt (fun n d _=>badBound n d) n ns = (decide (ns ≠ [] ∧ 4096 < n + ns.length) || ns.any (fun x=>decide (32 ≤ x.1))):=by
 intro ns
 induction ns with
 | nil=>intro n;simp [badAt]
 | cons x r ih=>
  intro n
  obtain ⟨d,t⟩:=x
  rw [show badAt (fun n d _=>badBound n d) n ((d,t) :: r) = (badBound n d || badAt (fun n d _=>badBound n d) (n + 1) r) from rfl,ih,badBound,Bool.eq_iff_iff]
  simp only [Bool.or_eq_true,decide_eq_true_eq,List.any_cons,List.length_cons]
  by_cases hr : r = []
  ·subst hr;simp
  ·generalize r.any (fun x=>decide (32 ≤ x.1)) = A
   cases A <;> simp [hr]
   omega
theorem badAt_any (p : Tr → Bool) : ∀ (ns : List (Nat × Tr)) (n : Nat),badAt (fun _ _ t=>p t) n ns = ns.any (fun x=>p x.2):=by
 intro ns
 induction ns with
 | nil=>intro n;rfl
 | cons x r ih=>intro n;obtain ⟨d,t⟩:=x;simp [badAt,ih]
theorem any_steps (p : Tr → Bool) (q : Stp → Bool) (h4 : q ⟨4,[],[]⟩ = false) (ht : ∀ tx,p (.node [] tx [] []) = q ⟨3,[],tx⟩)
  (he : ∀ lb al ks,lb ≠ [] → p (.node lb [] al ks) = (q ⟨1,lb,[]⟩ || al.any (fun a=>q (attrS a)))) (t : Tr) : bareA t = true → ∀ d,(nodesT d t).any (fun x=>p x.2) = (stepsT t).any q:=by
 refine Tr.rec (motive_1:=fun t=>bareA t = true → ∀ d,(nodesT d t).any (fun x=>p x.2) = (stepsT t).any q)
  (motive_2:=fun ks=>bareK ks = true → ∀ d,(nodesK d ks).any (fun x=>p x.2) = (stepsK ks).any q) ?_ ?_ ?_ t
 ·intro lb tx al ks ih hb d
  by_cases hlb : lb = []
  ·subst hlb
   obtain ⟨rfl,rfl⟩:=bare_text_parts hb
   rw [stepsT_text,nodesT_eq]
   simp [nodesK,ht]
  ·obtain ⟨rfl,hk⟩:=bare_elem_parts hlb hb
   rw [stepsT_elem _ _ _ hlb,nodesT_eq]
   simp only [List.any_cons,List.any_append,ih hk,he lb al ks hlb,List.any_map,h4,List.any_nil,Bool.or_false,Bool.or_assoc]
   rfl
 ·intro _ d
  simp [nodesK,stepsK]
 ·intro t ks ih1 ih2 hb d
  simp only [bareK,Bool.and_eq_true] at hb
  simp only [nodesK,stepsK,List.any_append,ih1 hb.1,ih2 hb.2]
theorem badForm_bare (t : Tr) : bareA t = true → ∀ d,(nodesT d t).any (fun x=>badForm x.2) = false:=by
 refine Tr.rec (motive_1:=fun t=>bareA t = true → ∀ d,(nodesT d t).any (fun x=>badForm x.2) = false)
  (motive_2:=fun ks=>bareK ks = true → ∀ d,(nodesK d ks).any (fun x=>badForm x.2) = false) ?_ ?_ ?_ t
 ·intro lb tx al ks ih hb d
  by_cases hlb : lb = []
  ·subst hlb
   obtain ⟨rfl,rfl⟩:=bare_text_parts hb
   rw [nodesT_eq]
   simp [nodesK,badForm]
  ·obtain ⟨rfl,hk⟩:=bare_elem_parts hlb hb
   rw [nodesT_eq,List.any_cons,ih hk]
   simp [badForm,hlb]
 ·intro _ d
  simp [nodesK]
 ·intro t ks ih1 ih2 hb d
  simp only [bareK,Bool.and_eq_true] at hb
  simp only [nodesK,List.any_append,ih1 hb.1,ih2 hb.2]
  rfl
def lastKind : List Stp → Int
 | []=>0
 | [x]=>x.kind
 | _ :: b :: r=>lastKind (b :: r)
theorem lastKind_app (a : List Stp) (x : Stp) : lastKind (a ++ [x]) = x.kind:=by
 induction a with
 | nil=>rfl
 | cons y r ih=>
  cases r with
  | nil=>rfl
  | cons z s=>exact ih
theorem lastKind_steps (t : Tr) : lastKind (stepsT t) = if isTx t = true then 3 else 4:=by
 obtain ⟨lb,tx,al,ks⟩:=t
 by_cases hlb : lb = []
 ·subst hlb;rw [stepsT_text];simp [isTx,lastKind]
 ·rw [stepsT_elem _ _ _ hlb,← List.cons_append,← List.append_assoc,lastKind_app];simp [isTx,hlb]
theorem orderS_app : ∀ {a b : List Stp},lastKind a ≠ 2 → orderS (a ++ b) = (orderS a && orderS b):=by
 intro a
 induction a with
 | nil=>intro b _;simp [orderS]
 | cons x r ih=>
  intro b h
  cases r with
  | nil=>
   cases b with
   | nil=>simp [orderS]
   | cons y s=>simp [lastKind] at h;simp [orderS,h]
  | cons y s=>
   have:=ih (b:=b) h
   simp only [List.cons_append,orderS] at this ⊢
   rw [this,Bool.and_assoc]
theorem orderS_attrs : ∀ (al : List (List UInt8 × List UInt8)) (r : List Stp),(∀ x ∈ r.head?,x.kind ≠ 2) → orderS (al.map attrS ++ r) = (!pairB notUp al && orderS r):=by
 intro al
 induction al with
 | nil=>intro r _;simp [pairB]
 | cons a q ih=>
  intro r h
  cases q with
  | nil=>
   cases r with
   | nil=>simp [pairB,orderS]
   | cons y s=>have:=h y (by simp);simp [pairB,orderS,this]
  | cons b s=>
   have:=ih r h
   simp only [List.map_cons,List.cons_append,orderS,pairB] at this ⊢
   rw [this]
   simp [attrS,notUp,Bool.and_assoc]
theorem order_steps (t : Tr) : bareA t = true → ∀ d,(nodesT d t).any (fun x=>badOrder x.2) = !orderS (stepsT t):=by
 refine Tr.rec (motive_1:=fun t=>bareA t = true → ∀ d,(nodesT d t).any (fun x=>badOrder x.2) = !orderS (stepsT t))
  (motive_2:=fun ks=>bareK ks = true → ∀ d,(nodesK d ks).any (fun x=>badOrder x.2) = !orderS (stepsK ks ++ [⟨4,[],[]⟩])) ?_ ?_ ?_ t
 ·intro lb tx al ks ih hb d
  by_cases hlb : lb = []
  ·subst hlb
   obtain ⟨rfl,rfl⟩:=bare_text_parts hb
   rw [stepsT_text,nodesT_eq]
   simp [nodesK,badOrder,pairB,orderS]
  ·obtain ⟨rfl,hk⟩:=bare_elem_parts hlb hb
   rw [stepsT_elem _ _ _ hlb,nodesT_eq]
   have h1 : orderS (⟨1,lb,[]⟩ :: (al.map attrS ++ (stepsK ks ++ [⟨4,[],[]⟩]))) = orderS (al.map attrS ++ (stepsK ks ++ [⟨4,[],[]⟩])):=orderS_app (a:=[⟨1,lb,[]⟩]) (by simp [lastKind])
   rw [h1,orderS_attrs _ _ (headK_stp ks []),List.any_cons,ih hk]
   simp [badOrder,Bool.not_and]
 ·intro _ d
  simp [nodesK,stepsK,orderS]
 ·intro t ks ih1 ih2 hb d
  simp only [bareK,Bool.and_eq_true] at hb
  simp only [nodesK,stepsK,List.any_append,List.append_assoc]
  rw [orderS_app (a:=stepsT t) (by rw [lastKind_steps];split <;> decide),Bool.not_and,ih1 hb.1,← ih2 hb.2 d]
def head3 : List Stp → Bool
 | []=>false
 | y :: _=>decide (y.kind = 3)
theorem thereS_app : ∀ {a b : List Stp},a ≠ [] → thereS (a ++ b) = (thereS a && !(decide (lastKind a = 3) && head3 b) && thereS b):=by
 intro a
 induction a with
 | nil=>intro b h;exact absurd rfl h
 | cons x r ih=>
  intro b _
  cases r with
  | nil=>
   cases b with
   | nil=>simp [thereS,lastKind,head3]
   | cons y s=>simp [thereS,lastKind,head3];rfl
  | cons y s=>
   have:=ih (b:=b) (by simp)
   simp only [List.cons_append,thereS,lastKind] at this ⊢
   rw [this]
   simp only [Bool.and_assoc]
   rfl
theorem thereS_one (x : Stp) (r : List Stp) (h : x.kind ≠ 3) : thereS (x :: r) = thereS r:=by
 cases r with
 | nil=>rfl
 | cons y s=>simp [thereS,h]
theorem thereS_attrs (al : List (List UInt8 × List UInt8)) (r : List Stp) : thereS (al.map attrS ++ r) = thereS r:=by
 induction al with
 | nil=>rfl
 | cons a q ih=>rw [List.map_cons,List.cons_append,thereS_one _ _ (by simp [attrS]),ih]
theorem head_steps (t : Tr) (r : List Stp) : head3 (stepsT t ++ r) = isTx t:=by
 obtain ⟨lb,tx,al,ks⟩:=t
 by_cases hlb : lb = []
 ·subst hlb;rw [stepsT_text];simp [isTx,head3]
 ·rw [stepsT_elem _ _ _ hlb];simp [isTx,hlb,head3]
theorem there_steps (t : Tr) : bareA t = true → ∀ d,(nodesT d t).any (fun x=>badThere x.2) = !thereS (stepsT t):=by
 refine Tr.rec (motive_1:=fun t=>bareA t = true → ∀ d,(nodesT d t).any (fun x=>badThere x.2) = !thereS (stepsT t))
  (motive_2:=fun ks=>bareK ks = true → ∀ d,(pairB twoTx ks || (nodesK d ks).any (fun x=>badThere x.2)) = !thereS (stepsK ks ++ [⟨4,[],[]⟩])) ?_ ?_ ?_ t
 ·intro lb tx al ks ih hb d
  by_cases hlb : lb = []
  ·subst hlb
   obtain ⟨rfl,rfl⟩:=bare_text_parts hb
   rw [stepsT_text,nodesT_eq]
   simp [nodesK,badThere,pairB,thereS]
  ·obtain ⟨rfl,hk⟩:=bare_elem_parts hlb hb
   rw [stepsT_elem _ _ _ hlb,nodesT_eq,thereS_one _ _ (by simp),thereS_attrs,List.any_cons,← ih hk (d + 1)]
   rfl
 ·intro _ d
  simp [nodesK,stepsK,thereS,pairB]
 ·intro t ks ih1 ih2 hb d
  simp only [bareK,Bool.and_eq_true] at hb
  have h2:=ih2 hb.2 d
  simp only [nodesK,stepsK,List.any_append,ih1 hb.1,List.append_assoc]
  rw [thereS_app (steps_ne t),lastKind_steps]
  have h5 : (decide ((if isTx t = true then (3 : Int) else 4) = 3)) = isTx t:=by cases isTx t <;> rfl
  rw [h5]
  cases ks with
  | nil=>
   simp [stepsK,pairB,thereS,nodesK,head3]
  | cons u r=>
   have h6 : head3 (stepsK (u :: r) ++ [⟨4,[],[]⟩]) = isTx u:=by
    rw [show stepsK (u :: r) = stepsT u ++ stepsK r by simp [stepsK],List.append_assoc]
    exact head_steps u _
   rw [h6]
   simp only [pairB]
   rw [show thereS (stepsK (u :: r) ++ [⟨4,[],[]⟩]) = !(pairB twoTx (u :: r) || (nodesK d (u :: r)).any (fun x=>badThere x.2)) by rw [h2];simp]
   generalize thereS (stepsT t) = X
   generalize pairB twoTx (u :: r) = Y
   generalize (nodesK d (u :: r)).any (fun x=>badThere x.2) = Z
   unfold twoTx
   cases X <;> cases Y <;> cases Z <;> cases isTx t <;> cases isTx u <;> rfl
theorem chk_steps {t : Tr} (hb : bareA t = true) : chkT t = checkS (stepsT t):=by
 have hc:=count_steps t hb 0 0 0 [] 0
 rw [List.append_nil] at hc
 have hn : nodesS (stepsT t) = (nodesT 0 t).length:=by unfold nodesS;rw [hc];simp [countS]
 have hd : deepS (stepsT t) = depthT t:=by
  unfold deepS
  rw [hc]
  simp [countS]
 have hne : nodesT 0 t ≠ []:=by obtain ⟨lb,tx,al,ks⟩:=t;rw [nodesT_eq];simp
 have h1 : badAt (fun n d _=>badBound n d) 0 (nodesT 0 t) = decide (4096 < nodesS (stepsT t) ∨ 32 < deepS (stepsT t)):=by
  rw [badBound_all,hn,hd,Bool.eq_iff_iff]
  simp only [Bool.or_eq_true,decide_eq_true_eq,List.any_eq_true]
  obtain ⟨f1,x,hx,hx2⟩:=nodes_far t 0
  constructor
  ·rintro (⟨_,h⟩ | ⟨y,hy,h⟩)
   ·left;omega
   ·right;have:=f1 y hy;omega
  ·rintro (h | h)
   ·left;exact ⟨hne,by omega⟩
   ·right;exact ⟨x,hx,by omega⟩
 have h2 : badAt (fun _ _ t=>badForm t) 0 (nodesT 0 t) = false:=by rw [badAt_any];exact badForm_bare t hb 0
 have h3 : badAt (fun _ _ t=>badName t) 0 (nodesT 0 t) = (stepsT t).any (fun x=>decide (x.kind ≤ 2) && !nameL x.name):=by
  rw [badAt_any]
  exact any_steps badName _ (by simp) (fun tx=>by simp [badName]) (fun lb al ks h=>by simp [badName,h,attrS]) t hb 0
 have h4 : badAt (fun _ _ t=>badUTF t) 0 (nodesT 0 t) = (stepsT t).any (fun x=>!wholeB x.text):=by
  rw [badAt_any]
  exact any_steps badUTF _ (by decide +kernel) (fun tx=>by simp [badUTF]) (fun lb al ks h=>by simp [badUTF,attrS]) t hb 0
 have h5 : badAt (fun _ _ t=>badEmpty t) 0 (nodesT 0 t) = (stepsT t).any (fun x=>decide (x.kind = 3) && decide (x.text = [])):=by
  rw [badAt_any]
  exact any_steps badEmpty _ (by simp) (fun tx=>by simp [badEmpty]) (fun lb al ks h=>by simp [badEmpty,h,attrS]) t hb 0
 have h6 : badAt (fun _ _ t=>badOrder t) 0 (nodesT 0 t) = !orderS (stepsT t):=by rw [badAt_any];exact order_steps t hb 0
 have h7 : badAt (fun _ _ t=>badThere t) 0 (nodesT 0 t) = !thereS (stepsT t):=by rw [badAt_any];exact there_steps t hb 0
 unfold chkT tabP checkS
 simp only [chkF,h1,h2,h3,h4,h5,h6,h7]
 simp only [decide_eq_true_eq,Bool.not_eq_true',Bool.false_eq_true,if_false]
end Go.Proofs.YtjldpkhfiffinaaGreatDoor.U
