/- Contracts and plain facts that the law stands on: T5. -/
import Derived.Test.YtjldpkhfiffinaaGreatDoorZC08
import Derived.RangeFuncNested
import Derived.RangeFuncBound
import Derived.RangeFuncLeaves
import Derived.Shelf.Abstract
import Derived.Shelf.RegionOpen
import Derived.OwnWalkIn
import Derived.TacticsInMore
import Derived.LoopNIn
import Derived.LoopIn
import Derived.Deep.RegionHeld3
import Derived.Test.YtjldpkhfiffinaaGreatDoorZC05
namespace Go.Proofs.YtjldpkhfiffinaaGreatDoor.U
open Go.RowKit
mutual
def nodesT : Nat → Tr → List (Nat × Tr)
 | d,.node lb tx al ks=>(d,.node lb tx al ks) :: nodesK (d + 1) ks
def nodesK : Nat → List Tr → List (Nat × Tr)
 | _,[]=>[]
 | d,t :: r=>nodesT d t ++ nodesK d r
end
mutual
def depthT : Tr → Nat
 | .node _ _ _ ks=>depthK ks + 1
def depthK : List Tr → Nat
 | []=>0
 | t :: r=>max (depthT t) (depthK r)
end
theorem nodesT_eq (d : Nat) (lb tx : List UInt8) (al : List (List UInt8 × List UInt8)) (ks : List Tr) : nodesT d (.node lb tx al ks) = (d,.node lb tx al ks) :: nodesK (d + 1) ks:=by
 rw [nodesT]
theorem nodesK_append (d : Nat) : ∀ a b : List Tr,nodesK d (a ++ b) = nodesK d a ++ nodesK d b:=by
 intro a
 induction a with
 | nil=>intro b;simp [nodesK]
 | cons t r ih=>intro b;simp [nodesK,ih,List.append_assoc]
theorem nodesK_take {ks : List Tr} {k : Nat} {t : Tr} {d : Nat} (h : ks[k]? = some t) : nodesK d (ks.take (k + 1)) = nodesK d (ks.take k) ++ nodesT d t:=by
 rw [List.take_add_one,h]
 show nodesK d (ks.take k ++ [t]) = _
 rw [nodesK_append]
 simp [nodesK]
theorem nodesK_le (d : Nat) (ks : List Tr) (k : Nat) : ∃ s,nodesK d ks = nodesK d (ks.take k) ++ s:=⟨nodesK d (ks.drop k),by rw [← nodesK_append,List.take_append_drop]⟩
theorem nodesK_count : ∀ (ks : List Tr) (d : Nat),ks.length ≤ (nodesK d ks).length:=by
 intro ks
 induction ks with
 | nil=>intro d;simp
 | cons t r ih=>
  intro d
  cases t with
  | node lb tx al js=>
   have:=ih d
   simp only [nodesK,nodesT_eq,List.length_append,List.length_cons]
   omega
theorem nodesK_mem : ∀ {ks : List Tr} {k d : Nat} {t : Tr},ks[k]? = some t → ∀ x ∈ nodesT d t,x ∈ nodesK d ks:=by
 intro ks
 induction ks with
 | nil=>intro k d t h;simp at h
 | cons u r ih=>
  intro k d t h x hx
  simp only [nodesK,List.mem_append]
  cases k with
  | zero=>simp only [List.getElem?_cons_zero,Option.some.injEq] at h;rw [h];exact .inl hx
  | succ k=>exact .inr (ih (by simpa using h) x hx)
theorem depthK_get : ∀ {ks : List Tr} {k : Nat} {t : Tr},ks[k]? = some t → depthT t ≤ depthK ks:=by
 intro ks
 induction ks with
 | nil=>intro k t h;simp at h
 | cons u r ih=>
  intro k t h
  cases k with
  | zero=>simp only [List.getElem?_cons_zero,Option.some.injEq] at h;rw [← h];simp only [depthK];omega
  | succ k=>have:=ih (by simpa using h : r[k]? = some t);simp only [depthK];omega
structure Sk (n₀ nW : Nat) (r : Option Nat) (A B : World) : Prop where
 size : A.heap.size ≤ B.heap.size
 same : ∀ (k : Nat) (o : Obj),(k < n₀ ∨ nW ≤ k) → some k ≠ r → A.heap[k]? = some o → o.isCells = true → B.heap[k]? = some o
theorem Sk.refl (n₀ nW : Nat) (r : Option Nat) (A : World) : Sk n₀ nW r A A:=⟨Nat.le_refl _,fun _ _ _ _ h _=>h⟩
theorem Sk.trans {n₀ nW : Nat} {r : Option Nat} {A B C : World} (h : Sk n₀ nW r A B) (k : Sk n₀ nW r B C) : Sk n₀ nW r A C:=
 ⟨Nat.le_trans h.size k.size,fun i o hi hr ho hc=>k.same i o hi hr (h.same i o hi hr ho hc) hc⟩
theorem Sk.weak {n₀ nW : Nat} {r : Option Nat} {A B : World} (h : Sk n₀ nW none A B) : Sk n₀ nW r A B:=
 ⟨h.size,fun i o hi _ ho hc=>h.same i o hi (by simp) ho hc⟩
theorem Sk.fresh {n₀ nW g : Nat} {r : Option Nat} {A B : World} (h : Sk n₀ nW (some g) A B) (hg : A.heap.size ≤ g) : Sk n₀ nW r A B:=
 ⟨h.size,fun i o hi _ ho hc=>h.same i o hi (fun e=>by cases e;have:=(Array.getElem?_eq_some_iff.1 ho).1;omega) ho hc⟩
theorem Sk.grown {n₀ nW : Nat} {r : Option Nat} {A B C : World} (h : Sk n₀ nW r A B) (hg : B.grownBy C r) : Sk n₀ nW r A C:=
 ⟨Nat.le_trans h.size hg.size,fun i o hi hr ho hc=>by
  have h1:=h.same i o hi hr ho hc
  exact (hg.block i (Array.getElem?_eq_some_iff.1 h1).1 hr).trans h1⟩
theorem Sk.grown0 {n₀ nW : Nat} {r : Option Nat} {A B C : World} (h : Sk n₀ nW r A B) (hg : B.grownBy C none) : Sk n₀ nW r A C:=
 ⟨Nat.le_trans h.size hg.size,fun i o hi hr ho hc=>by
  have h1:=h.same i o hi hr ho hc
  exact (hg.block i (Array.getElem?_eq_some_iff.1 h1).1 (by simp)).trans h1⟩
theorem grownBy_alloc_drew (w : World) (o : Obj) : w.grownBy (w.alloc o).drew none:=⟨rfl,rfl,rfl,by simp,fun k hk _=>Below.heap_alloc w o k hk⟩
def Dk (A B : World) : Prop:=∀ (k : Nat) (o : Obj),A.heap[k]? = some o → o.isCells = true → B.heap[k]? = some o
theorem Dk.refl (A : World) : Dk A A:=fun _ _ h _=>h
theorem Dk.sk {n₀ nW : Nat} {r : Option Nat} {A B C : World} (h : Dk A B) (k : Sk n₀ nW r B C) (hn : A.heap.size ≤ n₀) (hr : ∀ g,r = some g → A.heap.size ≤ g) : Dk A C:=fun i o hi hc=>by
 have hlt:=(Array.getElem?_eq_some_iff.1 hi).1
 exact k.same i o (.inl (by omega)) (fun e=>by have:=hr i e.symm;omega) (h i o hi hc) hc
theorem Dk.below {A B C : World} {N : Nat} (h : Dk A B) (k : Below N B C) (hn : A.heap.size ≤ N) : Dk A C:=fun i o hi hc=>by
 have hlt:=(Array.getElem?_eq_some_iff.1 hi).1
 exact (k.block i (by omega)).trans (h i o hi hc)
theorem Dk.cell {A B : World} (h : Dk A B) {p : Addr} {v : Value} (hp : A.cell? p = some v) : B.cell? p = some v:=by
 cases ho : A.heap[p.block]? with
 | none=>unfold World.cell? at hp;rw [ho] at hp;simp at hp
 | some o=>
  have hc : o.isCells = true:=by
   unfold World.cell? at hp
   rw [ho] at hp
   cases o <;> first | rfl | (simp at hp)
  exact (World.cell?_of_block ((h _ _ ho hc).trans ho.symm)).trans hp
theorem AtRow.dk {A B : World} (h : Dk A B) {v : Value} {n size : Nat} {xs : List Value} (hx : AtRow A v n size xs) : AtRow B v n size xs:=by
 obtain ⟨a,cap,hv,hc,hl,hx⟩:=hx
 refine ⟨a,cap,hv,hc,hl,fun h0=>?_⟩
 obtain ⟨g,off,ha,hj⟩:=hx h0
 exact ⟨g,off,ha,fun j u hu=>h.cell (hj j u hu)⟩
theorem TreeV.dk {A B : World} (hd : Dk A B) (t : Tr) : ∀ hs,TreeV A t hs → TreeV B t hs:=by
 refine Tr.rec (motive_1:=fun t=>∀ hs,TreeV A t hs → TreeV B t hs) (motive_2:=fun ks=>∀ l,KidsV A ks l → KidsV B ks l) ?_ ?_ ?_ t
 ·intro lb tx al ks ih hs h
  rw [TreeV.eq] at h ⊢
  obtain ⟨va,vk,h1,h2,l,h3,h4⟩:=h
  exact ⟨va,vk,h1,h2.dk hd,l,ih l h3,h4.dk hd⟩
 ·intro l h
  rw [KidsV] at h ⊢
  exact h
 ·intro t ks ih1 ih2 l h
  rw [KidsV] at h ⊢
  obtain ⟨a,q,h1,h2,h3⟩:=h
  exact ⟨a,q,h1,ih1 a h2,ih2 q h3⟩
theorem own_prefix {w : World} {base n c : Nat} {e : TypeId} {a : Option Addr} {xs : List Value} {x : Value} (h : w.ownsRow base e 1 (.slice a (n + 1) c) (n + 1) (xs ++ [x])) : w.ownsRow base e 1 (.slice a n c) n xs:=by
 have hl : xs.length = n:=by have:=h.1;simp at this;omega
 refine ⟨by omega,?_⟩
 rcases h.2 with ⟨_,h0⟩ | ⟨g,cap,cur,hv,h1,h2,h3,h4,h5,h6⟩
 ·omega
 ·injection hv with e1 e2 e3
  subst e1 e3
  refine .inr ⟨g,c,cur,rfl,h1,h2,by omega,h4,h5,?_⟩
  rw [Nat.mul_one] at h6 ⊢
  have h7 : (cur.toList.take (n + 1)).take n = xs:=by rw [h6,← hl,List.take_left]
  rwa [List.take_take,Nat.min_eq_left (by omega)] at h7
theorem own_same {n₀ nW : Nat} {r : Option Nat} {w w' : World} {n : Nat} {e : TypeId} {v : Value} {xs : List Value} (h : w.ownsRow nW e 1 v n xs) (hs : Sk n₀ nW r w w') (hr : v.ownBlock = none ∨ v.ownBlock ≠ r) : w'.ownsRow nW e 1 v n xs:=by
 refine ⟨h.1,?_⟩
 rcases h.2 with h1 | ⟨g,cap,cur,rfl,h1,h2,h3⟩
 ·exact .inl h1
 ·exact .inr ⟨g,cap,cur,rfl,h1,hs.same g _ (.inr h1) (by simpa [Value.ownBlock] using hr) h2 rfl,h3⟩
theorem run_append_keep {P : Program} (w : World) (base : Nat) (t ty e : TypeId) (i : TypeInfo) (z : Value) (bytes : Nat) (ht : P.underlying t = some (.slice e)) (hi : P.info? e = some i) (hz : i.zero = some z)
  (hsize : i.size = 1) (hby : i.bytes = bytes) (hzs : z.cells.size = 1) (v : Value) (n : Nat) (xs : List Value) (hown : w.ownsRow base e 1 v n xs)
  (a : Addr) (c : Nat) (x : Value) (hx : w.cell? a = some x) (h1 : x.oneCell' = true) (h63 : n + 1 ≤ maxLen) (hbytes : (n + 1) * bytes ≤ 140737488355328) (hbase : base ≤ w.heap.size) :
  ∃ v' w',(Builtin.append_ #[t,t] ty #[v,.slice (some a) 1 c]).run P w = .ok v' w' ∧ w'.ownsRow base e 1 v' (n + 1) (xs ++ [x]) ∧ w.grownBy w' v.ownBlock ∧ w'.ownsRow base e 1 v n xs ∧
   ((∃ b cp,v = .slice b n cp ∧ v' = .slice b (n + 1) cp) ∨ (v'.ownBlock = some w.heap.size ∧ w.grownBy w' none)):=by
 have hc : ∀ j u,[x][j]? = some u → w.cell? (a.add j) = some u:=fun j u hu=>by
  cases j with
  | zero=>simp at hu;subst hu;rw [show a.add 0 = a by unfold Addr.add;split <;> simp_all];exact hx
  | succ j=>simp at hu
 have h1' : ∀ u ∈ [x],u.oneCell' = true:=fun u hu=>by rw [List.mem_singleton.1 hu];exact h1
 rcases hown.2 with ⟨rfl,rfl⟩ | ⟨g,cap,cur,rfl,hbg,hg,hnc,hcm,hcs,htake⟩
 ·obtain ⟨v',w',r1,r2,r3,_,r5⟩:=run_append_own_at (P:=P) w base t ty e i z 1 bytes ht hi hz hsize hby hzs (by omega) _ 0 xs hown a 1 c [x] rfl hc h1' (by omega) hbytes hbase
  refine ⟨v',w',r1,r2,r3,?_,.inr ⟨?_,r3⟩⟩
  ·have : xs = []:=List.eq_nil_of_length_eq_zero (by simpa using hown.1)
   rw [this];exact World.ownsRow_nil _ _ _ _
  ·rcases r5 with r5 | r5
   ·obtain ⟨g,cap,rfl⟩:=ownsRow_succ r2
    simp [Value.ownBlock] at r5
   ·exact r5
 ·by_cases hroom : n + 1 ≤ cap
  ·obtain ⟨w',hrun,r1,r2⟩:=run_append_fits (P:=P) w base t ty e i 1 ht hi hsize g n cap xs hown a 1 c [x] rfl hc h1' hroom
   exact ⟨_,w',hrun,r1,r2,own_prefix r1,.inl ⟨_,cap,rfl,rfl⟩⟩
  ·have hr:=run_append_grow (P:=P) w t ty e i z ht hi hz ⟨g,0,none⟩ n cap xs (by rw [hsize];exact hown.1) (hown.cells (g:=g) rfl) a 1 c [x] (by rw [hsize];rfl) hc (by omega) (by simp only [maxLen] at h63;omega) (growslice_fits (by omega) (by rw [hby];exact hbytes))
   have hge:=grownCap_ge w (n + 1) cap e
   have hcm2 : grownCap w (n + 1) cap e ≤ maxLen:=grownCap_le_maxLen w (n + 1) cap e h63
   have hgr : w.grownBy (w.drew.alloc (.cells (xs.toArray ++ [x].toArray ++ Builtin.zeroCells z.cells (grownCap w (n + 1) cap e - (n + 1))) e)) none:=⟨rfl,rfl,rfl,by simp,fun k hk _=>Below.heap_alloc w.drew _ k hk⟩
   refine ⟨_,_,hr,⟨by simp;have:=hown.1;omega,.inr ⟨w.heap.size,_,_,rfl,hbase,heap_alloc_new w.drew _,hge,hcm2,?_,?_⟩⟩,⟨rfl,rfl,rfl,by simp,fun k hk _=>Below.heap_alloc w.drew _ k hk⟩,?_,.inr ⟨rfl,hgr⟩⟩
   ·simp only [Array.size_append,List.size_toArray,size_zeroCells,hzs,hown.1,List.length_cons,List.length_nil]
    omega
   ·simp only [Array.toList_append,List.append_assoc]
    rw [← List.append_assoc]
    have hl : (xs ++ [x]).length = (n + 1) * 1:=by simp;have:=hown.1;omega
    rw [← hl]
    exact List.take_left
   ·exact hown.kept hgr (by simp [Value.ownBlock])
attribute [local go_sem] Oper.semAt_some
theorem infoInt : (Tryz.prog.info? 3).map (fun i=>(i.zero,i.size,i.bytes)) = some (some (.int .i64 0),1,8):=by kernel_rfl
theorem wideV_le {n : Nat} : Fence.wide.depth.isSome = true → 1 ≤ n:=fun h=>by cases h
def YieldsV (N l nW : Nat) (Fit : Nat × Tr → Prop) (w0 : World) (J Jx : List (Nat × Tr) → World → Prop) : Prop:=
 ∀ (m : Nat) (pre : List (Nat × Tr)) (d : Nat) (t : Tr) (v : Value) (xs hs : List Value) (W : World),J pre W → W.ownsRow nW 3 1 v d xs → Dk w0 W → TreeV w0 t hs → nW ≤ W.heap.size → pre.length < N → d ≤ 1000000 → Fit (d,t) →
  YieldAt Fence.wide m Tryz.prog l #[v,.agg hs.toArray] W fun e W'=>(e = .returned (.bool true) ∧ J (pre ++ [(d,t)]) W' ∧ Sk w0.heap.size nW none W W') ∨ (e = .returned (.bool false) ∧ Jx (pre ++ [(d,t)]) W' ∧ Sk w0.heap.size nW none W W')
theorem step_append_keep {P : Program} {ops : Array Oper} {o : Oper} {a : Act} {w : World} {K : Act → World → Prop} {Q : Exit → Act → World → Prop} {E : Prop} (hg : o.guard = none) (s x : Operand) (t : TypeId)
  (ho : o.op = .call { callee:=.builtin .append,args:=#[s,x],argTypes:=#[t,t] })
  (base : Nat) (e : TypeId) (i : TypeInfo) (z : Value) (bytes : Nat) (ht : P.underlying t = some (.slice e)) (hi : P.info? e = some i) (hz : i.zero = some z)
  (hsize : i.size = 1) (hby : i.bytes = bytes) (hzs : z.cells.size = 1)
  (v : Value) (n : Nat) (xs : List Value) (hs : a.eval s = v) (hown : w.ownsRow base e 1 v n xs)
  (ad : Addr) (c : Nat) (u : Value) (hx : a.eval x = .slice (some ad) 1 c) (hu : w.cell? ad = some u) (h1 : u.oneCell' = true)
  (h63 : n + 1 ≤ maxLen) (hbytes : (n + 1) * bytes ≤ 140737488355328) (hbase : base ≤ w.heap.size)
  (h : ∀ v' w',w'.ownsRow base e 1 v' (n + 1) (xs ++ [u]) → w.grownBy w' v.ownBlock → w'.ownsRow base e 1 v n xs →
   ((∃ b cp,v = .slice b n cp ∧ v' = .slice b (n + 1) cp) ∨ (v'.ownBlock = some w.heap.size ∧ w.grownBy w' none)) → K (a.put o.dst v') w') :
  if Region.wanted o (yielded ops a.tmps) = true then Oper.wp P o a w K Q else E:=by
 have hw : Region.wanted o (yielded ops a.tmps) = true:=by simp [Region.wanted,hg]
 rw [if_pos hw]
 obtain ⟨v',w',hr,h2,h3,h4,h5⟩:=run_append_keep (P:=P) w base t o.type e i z bytes ht hi hz hsize hby hzs v n xs hown ad c u hu h1 h63 hbytes hbase
 unfold Oper.wp execOp
 simp only [ho,resolve,invoke,builtin,Sem.run_bind,Sem.run_pure,Result.andThen_ok,List.map_toArray,List.map_cons,List.map_nil,hs,hx,hr]
 exact h v' w' h2 h3 h4 h5
def VisitB (nW : Nat) (w0 : World) (J Jx : List (Nat × Tr) → World → Prop) (pre ns : List (Nat × Tr)) (v : Value) (d : Nat) (xs : List Value) (W : World) (b : Bool) (W' : World) : Prop:=
 W'.ownsRow nW 3 1 v d xs ∧ Sk w0.heap.size nW v.ownBlock W W' ∧ ((b = true ∧ J (pre ++ ns) W') ∨ (b = false ∧ ∃ q s,ns = q ++ s ∧ Jx (pre ++ q) W'))
def VisitPost (nW : Nat) (w0 : World) (J Jx : List (Nat × Tr) → World → Prop) (pre ns : List (Nat × Tr)) (v : Value) (d : Nat) (xs : List Value) (W : World) (e : Ending) (W' : World) : Prop:=
 ∃ b,e = .returned (.bool b) ∧ VisitB nW w0 J Jx pre ns v d xs W b W'
theorem Box4.sk {b n₀ nW : Nat} {r : Option Nat} {lb tx : ByteArray} {va vk : Value} {w w' : World} (h : Box4 b lb tx va vk w) (hs : Sk n₀ nW r w w') (hb : nW ≤ b) (hr : some b ≠ r) : Box4 b lb tx va vk w':=hs.same _ _ (.inr hb) hr h rfl
theorem Box4.grown {b : Nat} {r : Option Nat} {lb tx : ByteArray} {va vk : Value} {w w' : World} (h : Box4 b lb tx va vk w) (hs : w.grownBy w' r) (hr : some b ≠ r) : Box4 b lb tx va vk w':=(hs.block _ h.lt hr).trans h
set_option maxRecDepth 100000 in
set_option maxHeartbeats 2000000 in
theorem visit_elem (N l nW : Nat) (Fit : Nat × Tr → Prop) (w0 : World) (J Jx : List (Nat × Tr) → World → Prop) (hNb : N ≤ 1000000000) (hn : w0.heap.size ≤ nW) (hJ : ∀ pre A B,J pre A → Below nW A B → J pre B) (HY : Hid (YieldsV N l nW Fit w0 J Jx))
  (lb tx : List UInt8) (al : List (List UInt8 × List UInt8)) (ks : List Tr)
  (IH : ∀ (k : Nat) (t : Tr),ks[k]? = some t → ∀ (pre : List (Nat × Tr)) (d : Nat) (v : Value) (xs hs : List Value) (W : World),d + depthT t ≤ 1000000 → J pre W → W.ownsRow nW 3 1 v d xs → Dk w0 W → TreeV w0 t hs → nW ≤ W.heap.size → pre.length + (nodesT d t).length ≤ N → (∀ x ∈ nodesT d t,Fit x) →
   Calls Tryz.prog 96 #[v,.agg hs.toArray,.func (.yield l) #[] #[]] W fun e w'=>VisitPost nW w0 J Jx pre (nodesT d t) v d xs W e w')
  (pre : List (Nat × Tr)) (d c : Nat) (a : Option Addr) (xs : List Value) (va vk : Value) (W : World) (hd : d + (depthK ks + 1) ≤ 1000000) (h0 : J pre W) (ho : W.ownsRow nW 3 1 (.slice a d c) d xs) (hD : Dk w0 W)
  (ht : TreeV w0 (.node lb tx al ks) [.string ⟨lb.toArray⟩,.string ⟨tx.toArray⟩,va,vk]) (hW : nW ≤ W.heap.size) (hN : pre.length + (nodesT d (.node lb tx al ks)).length ≤ N) (hFit : ∀ x ∈ nodesT d (.node lb tx al ks),Fit x) :
  Calls Tryz.prog 96 #[.slice a d c,.agg #[.string ⟨lb.toArray⟩,.string ⟨tx.toArray⟩,va,vk],.func (.yield l) #[] #[]] W fun e w'=>VisitPost nW w0 J Jx pre (nodesT d (.node lb tx al ks)) (.slice a d c) d xs W e w':=by
 have hl1 : pre.length < N:=by rw [nodesT_eq] at hN;simp at hN;omega
 have HB1:=(Below.refl nW W).alloc hW (.cells #[.string ⟨lb.toArray⟩,.string ⟨tx.toArray⟩,va,vk] 27)
 have HX1:=Box4.made ⟨lb.toArray⟩ ⟨tx.toArray⟩ va vk W
 have hsk1 : Sk w0.heap.size nW (none : Option Nat) W (W.alloc (.cells #[.string ⟨lb.toArray⟩,.string ⟨tx.toArray⟩,va,vk] 27)):=(Sk.refl _ _ _ W).grown0 (World.grownBy_alloc _ _ _)
 have hJ1:=hJ _ _ _ h0 HB1
 have ho1:=ho.alloc (.cells #[.string ⟨lb.toArray⟩,.string ⟨tx.toArray⟩,va,vk] 27)
 have hD1:=hD.sk hsk1 (Nat.le_refl _) (by simp)
 obtain ⟨fn,tmps,assign,body,hy,hR⟩:=HY.out 0 pre d _ _ xs _ _ hJ1 ho1 hD1 ht (by have:=HB1.size;omega) hl1 (by omega) (hFit _ (by rw [nodesT_eq];simp))
 have HFIT:=Lib.hid hFit
 clear hFit
 have HR:=Lib.hid hR
 have HSK1:=Lib.hid hsk1
 have HBW : Hid (∀ g,(Value.slice a d c).ownBlock = some g → g < W.heap.size):=Lib.hid (fun g hg=>(ho.lt g hg).2)
 have HBX:=Lib.hid HX1
 have HBB:=Lib.hid HB1
 have HO:=Lib.hid ho1
 have HJ:=Lib.hid hJ
 have HD:=Lib.hid hD
 have HT:=Lib.hid ht
 have HN:=Lib.hid hN
 have HIH:=Lib.hid IH
 clear hR hsk1 ho1 hJ1 hD1 hJ hD ht hN HB1 h0 ho IH
 obtain ⟨c0,c1,c2,c3⟩:=HX1.at
 refine (callsIn_wide (n:=1)).1 ?_
 refine callsIn_of_wp Tryz.func96 rfl trivial ?_ rfl
 simp only [Tryz.ntmps96,List.size_toArray,List.length_cons,List.length_nil,Nat.reduceAdd,Nat.reduceSub,Array.replicate_succ,Array.replicate_zero,List.push_toArray,List.append_toArray,List.nil_append,List.cons_append]
 gi_wp2_with fail
 refine HR.out.mono ?_
 rintro e w2 (⟨rfl,hj2,hs2⟩ | ⟨rfl,hj2,hs2⟩)
 ·have HX2 : Hid (Box4 W.heap.size ⟨lb.toArray⟩ ⟨tx.toArray⟩ va vk w2):=Lib.hid (hs2.same _ _ (.inr hW) (by simp) HBX.out rfl)
  have HSK2:=Lib.hid (HSK1.out.trans hs2)
  have HO2:=Lib.hid (own_same HO.out hs2 (by cases (Value.slice a d c).ownBlock <;> simp))
  have HJ2:=Lib.hid hj2
  have HD2:=Lib.hid (HD.out.sk HSK2.out (Nat.le_refl _) (by simp))
  obtain ⟨va',vk',e1,_,lk,h4,h5⟩:=TreeV.eq.1 HT.out
  injection e1 with _ e1
  injection e1 with _ e1
  injection e1 with e2 e1
  injection e1 with e3 _
  subst e2 e3
  obtain ⟨a1,c1',gk,ok,rfl,hak,hkc⟩:=kid_at h4 h5
  have HAK:=Lib.hid hak
  have HKC:=Lib.hid hkc
  clear h4 h5 hak hkc hj2 hs2 c0 c1 c2 c3 HR hy
  obtain ⟨c0,c1,c2,c3⟩:=HX2.out.at
  have HKL : Hid (ks.length = ks.length):=Lib.hid rfl
  obtain ⟨n2,hn2⟩ : ∃ n,n = ks.length:=⟨_,rfl⟩
  rw [← hn2] at c3 HX2 HAK
  have hn2':=hn2
  rw [← hn2]
  have HN2:=Lib.hid hn2'
  have hn2b : n2 ≤ 1000000000:=by
   have h1:=HN.out
   have h2:=nodesK_count ks (d + 1)
   rw [nodesT_eq] at h1
   simp only [List.length_cons] at h1
   omega
  clear hn2 hn2' HKL HX1 HSK1 HO HBX HBB
  gi_wp2_with fail
  clear c0 c1 c2 c3
  gi_loopw [17] (fun i wr=>∃ k : Nat,k ≤ n2 ∧ i = .int .i64 k ∧ Hid (J (pre ++ (d,Tr.node lb tx al ks) :: nodesK (d + 1) (ks.take k)) wr) ∧ Hid (wr.ownsRow nW 3 1 (.slice a d c) d xs) ∧ Hid (Box4 W.heap.size ⟨lb.toArray⟩ ⟨tx.toArray⟩ va (.slice a1 n2 c1') wr) ∧ Hid (Sk w0.heap.size nW (Value.slice a d c).ownBlock W wr)) (fun i _=>n2 - (intOf i).toNat)
  case atStart=>exact ⟨0,by omega,rfl,by simpa [nodesK] using HJ2,HO2,HX2,Lib.hid HSK2.out.weak⟩
  case round=>
   obtain ⟨k,hk,rfl,HJr,HOr,HXr,HSr⟩:=hrel
   have HDr:=Lib.hid (HD.out.sk HSr.out (Nat.le_refl _) (fun g hg=>by have:=(HOr.out.lt g hg).1;omega))
   obtain ⟨x0,x1,x2,x3⟩:=HXr.out.at
   by_cases hlt : k < n2
   ·obtain rfl:=HAK.out (by omega)
    obtain ⟨⟨l1,t1,al1,js1⟩,hp⟩ : ∃ b,ks[k]? = some b:=⟨_,List.getElem?_eq_getElem (by rw [← HN2.out];omega)⟩
    obtain ⟨wa,wk,r1,r2,r3,r4,r5⟩:=HKC.out k _ _ _ _ hp
    obtain ⟨wa',wk',e5,⟨a6,c6,f6,_⟩,lk',_,⟨a7,c7,f7,_⟩⟩:=TreeV.eq.1 r5
    injection e5 with _ e5
    injection e5 with _ e5
    injection e5 with e6 e5
    injection e5 with e7 _
    rw [← e6] at f6
    rw [← e7] at f7
    subst f6 f7
    clear e6 e7
    have s1:=HDr.out.cell r1
    have s2:=HDr.out.cell r2
    have s3:=HDr.out.cell r3
    have s4:=HDr.out.cell r4
    have hi0 : (0 : Int) ≤ k:=by omega
    have hi1 : (k : Int) < n2:=by omega
    have HR5:=Lib.hid r5
    have HP:=Lib.hid hp
    have HXL:=Lib.hid HXr.out.lt
    clear r1 r2 r3 r4 r5 hp
    gi_wp2_with fail
    have HSL : Hid (∀ k' t',ks[k']? = some t' → d + 1 + depthT t' ≤ 1000000):=Lib.hid (fun k' t' h=>by have:=depthK_get h;omega)
    have HNK : Hid ((pre ++ (d,Tr.node lb tx al ks) :: nodesK (d + 1) (ks.take k)).length + (nodesT (d + 1) (Tr.node l1 t1 al1 js1)).length ≤ N):=Lib.hid (by
     have h1:=HN.out
     obtain ⟨s9,h9⟩:=nodesK_le (d + 1) ks (k + 1)
     rw [nodesT_eq,h9,nodesK_take HP.out] at h1
     simp only [List.length_append,List.length_cons] at h1 ⊢
     omega)
    have HLT:=Lib.hid hlt
    have hnr : nW ≤ wr.heap.size:=by have:=HSr.out.size;omega
    have HWB : Hid (Box4 wr.heap.size ⟨l1.toArray⟩ ⟨t1.toArray⟩ (.slice a6 al1.length c6) (.slice a7 js1.length c7) (wr.alloc (.cells #[.string ⟨l1.toArray⟩,.string ⟨t1.toArray⟩,.slice a6 al1.length c6,.slice a7 js1.length c7] 27))):=Lib.hid (Box4.made _ _ _ _ _)
    have hbr : ∀ g,(Value.slice a d c).ownBlock = some g → nW ≤ g ∧ g < wr.heap.size:=fun g hg=>HOr.out.lt g hg
    have HBR:=Lib.hid hbr
    obtain ⟨i0,hi,hz0,hz1,hz2⟩:=info_parts infoInt
    clear hbr
    have HOX:=Lib.hid ((((HOr.out.alloc (.cells #[.string ⟨l1.toArray⟩,.string ⟨t1.toArray⟩,.slice a6 al1.length c6,.slice a7 js1.length c7] 27)).alloc (.cells #[.int .i64 (k : Int)] 3)).drew))
    have HCX : Hid ((((wr.alloc (.cells #[.string ⟨l1.toArray⟩,.string ⟨t1.toArray⟩,.slice a6 al1.length c6,.slice a7 js1.length c7] 27)).alloc (.cells #[.int .i64 (k : Int)] 3)).drew).cell? ⟨wr.heap.size + 1,0,none⟩ = some (.int .i64 (k : Int))):=Lib.hid (by
     have h9:=heap_alloc_new (wr.alloc (.cells #[.string ⟨l1.toArray⟩,.string ⟨t1.toArray⟩,.slice a6 al1.length c6,.slice a7 js1.length c7] 27)) (.cells #[.int .i64 (k : Int)] 3)
     rw [World.size_alloc] at h9
     unfold World.cell?
     rw [show ((((wr.alloc (.cells #[.string ⟨l1.toArray⟩,.string ⟨t1.toArray⟩,.slice a6 al1.length c6,.slice a7 js1.length c7] 27)).alloc (.cells #[.int .i64 (k : Int)] 3)).drew).heap[wr.heap.size + 1]?) = _ from h9]
     rfl)
    have HBX' : Hid (nW ≤ (((wr.alloc (.cells #[.string ⟨l1.toArray⟩,.string ⟨t1.toArray⟩,.slice a6 al1.length c6,.slice a7 js1.length c7] 27)).alloc (.cells #[.int .i64 (k : Int)] 3)).drew).heap.size):=Lib.hid (by simp;omega)
    have HKX : Hid (∀ w3 : World,(((wr.alloc (.cells #[.string ⟨l1.toArray⟩,.string ⟨t1.toArray⟩,.slice a6 al1.length c6,.slice a7 js1.length c7] 27)).alloc (.cells #[.int .i64 (k : Int)] 3)).drew).grownBy w3 (Value.slice a d c).ownBlock → Box4 wr.heap.size ⟨l1.toArray⟩ ⟨t1.toArray⟩ (.slice a6 al1.length c6) (.slice a7 js1.length c7) w3):=Lib.hid (fun w3 hg=>by
     have h8 : Box4 wr.heap.size ⟨l1.toArray⟩ ⟨t1.toArray⟩ (.slice a6 al1.length c6) (.slice a7 js1.length c7) (((wr.alloc (.cells #[.string ⟨l1.toArray⟩,.string ⟨t1.toArray⟩,.slice a6 al1.length c6,.slice a7 js1.length c7] 27)).alloc (.cells #[.int .i64 (k : Int)] 3)).drew):=HWB.out.grown (grownBy_alloc_drew _ (.cells #[.int .i64 (k : Int)] 3)) (by simp)
     exact h8.grown hg (fun e=>by have:=(HBR.out _ e.symm).2;omega))
    have HKY : Hid (∀ (v3 : Value) (w3 w5 : World),(((wr.alloc (.cells #[.string ⟨l1.toArray⟩,.string ⟨t1.toArray⟩,.slice a6 al1.length c6,.slice a7 js1.length c7] 27)).alloc (.cells #[.int .i64 (k : Int)] 3)).drew).grownBy w3 (Value.slice a d c).ownBlock →
      ((∃ b cp,Value.slice a d c = .slice b d cp ∧ v3 = .slice b (d + 1) cp) ∨ (v3.ownBlock = some (((wr.alloc (.cells #[.string ⟨l1.toArray⟩,.string ⟨t1.toArray⟩,.slice a6 al1.length c6,.slice a7 js1.length c7] 27)).alloc (.cells #[.int .i64 (k : Int)] 3)).drew).heap.size ∧ (((wr.alloc (.cells #[.string ⟨l1.toArray⟩,.string ⟨t1.toArray⟩,.slice a6 al1.length c6,.slice a7 js1.length c7] 27)).alloc (.cells #[.int .i64 (k : Int)] 3)).drew).grownBy w3 none)) →
      Sk w0.heap.size nW v3.ownBlock w3 w5 → Box4 wr.heap.size ⟨l1.toArray⟩ ⟨t1.toArray⟩ (.slice a6 al1.length c6) (.slice a7 js1.length c7) w5):=Lib.hid (fun v3 w3 w5 hg hw hs=>by
     refine (HKX.out _ hg).sk hs (by omega) (fun e=>?_)
     rcases hw with ⟨b,cp,e1,rfl⟩ | ⟨e1,_⟩
     ·have e2 : (Value.slice b (d + 1) cp).ownBlock = (Value.slice a d c).ownBlock:=by rw [e1];cases b <;> rfl
      rw [e2] at e
      have:=(HBR.out _ e.symm).2
      omega
     ·rw [e1] at e
      simp at e
      omega)
    have HCL : Hid (∀ (v3 : Value) (w3 : World),w3.ownsRow nW 3 1 v3 (d + 1) (xs ++ [.int .i64 (k : Int)]) → (((wr.alloc (.cells #[.string ⟨l1.toArray⟩,.string ⟨t1.toArray⟩,.slice a6 al1.length c6,.slice a7 js1.length c7] 27)).alloc (.cells #[.int .i64 (k : Int)] 3)).drew).grownBy w3 (Value.slice a d c).ownBlock →
      Calls Tryz.prog 96 #[v3,.agg #[.string ⟨l1.toArray⟩,.string ⟨t1.toArray⟩,.slice a6 al1.length c6,.slice a7 js1.length c7],.func (.yield l) #[] #[]] w3 fun e w'=>VisitPost nW w0 J Jx (pre ++ (d,Tr.node lb tx al ks) :: nodesK (d + 1) (ks.take k)) (nodesT (d + 1) (Tr.node l1 t1 al1 js1)) v3 (d + 1) (xs ++ [.int .i64 (k : Int)]) w3 e w'):=Lib.hid (fun v3 w3 ho3 hg3=>by
     have hB3 : Below nW wr w3:=((((Below.refl nW wr).alloc hnr (.cells #[.string ⟨l1.toArray⟩,.string ⟨t1.toArray⟩,.slice a6 al1.length c6,.slice a7 js1.length c7] 27)).alloc (by simp;omega) (.cells #[.int .i64 (k : Int)] 3)).drew).grown hg3 (by simp;omega) (fun g e=>(HBR.out g e).1)
     exact HIH.out k _ HP.out _ (d + 1) v3 _ _ w3 (HSL.out k _ HP.out) (HJ.out _ _ _ HJr.out hB3) ho3 (HDr.out.below hB3 hn) HR5.out (by have:=hB3.size;omega) HNK.out (fun x hx=>HFIT.out x (by rw [nodesT_eq];exact List.mem_cons_of_mem _ (nodesK_mem HP.out x hx))))
    have HKZ : Hid (∀ (v3 : Value) (w3 w5 : World),(((wr.alloc (.cells #[.string ⟨l1.toArray⟩,.string ⟨t1.toArray⟩,.slice a6 al1.length c6,.slice a7 js1.length c7] 27)).alloc (.cells #[.int .i64 (k : Int)] 3)).drew).grownBy w3 (Value.slice a d c).ownBlock → w3.ownsRow nW 3 1 (.slice a d c) d xs →
      ((∃ b cp,Value.slice a d c = .slice b d cp ∧ v3 = .slice b (d + 1) cp) ∨ (v3.ownBlock = some (((wr.alloc (.cells #[.string ⟨l1.toArray⟩,.string ⟨t1.toArray⟩,.slice a6 al1.length c6,.slice a7 js1.length c7] 27)).alloc (.cells #[.int .i64 (k : Int)] 3)).drew).heap.size ∧ (((wr.alloc (.cells #[.string ⟨l1.toArray⟩,.string ⟨t1.toArray⟩,.slice a6 al1.length c6,.slice a7 js1.length c7] 27)).alloc (.cells #[.int .i64 (k : Int)] 3)).drew).grownBy w3 none)) →
      w5.ownsRow nW 3 1 v3 (d + 1) (xs ++ [.int .i64 (k : Int)]) → Sk w0.heap.size nW v3.ownBlock w3 w5 → w5.ownsRow nW 3 1 (.slice a d c) d xs ∧ Sk w0.heap.size nW (Value.slice a d c).ownBlock wr w5):=Lib.hid (fun v3 w3 w5 hg hold hw ho5 hs=>by
     have hsx : ∀ r,Sk w0.heap.size nW r wr (((wr.alloc (.cells #[.string ⟨l1.toArray⟩,.string ⟨t1.toArray⟩,.slice a6 al1.length c6,.slice a7 js1.length c7] 27)).alloc (.cells #[.int .i64 (k : Int)] 3)).drew):=fun r=>((Sk.refl _ _ r wr).grown0 (World.grownBy_alloc wr _ none)).grown0 (grownBy_alloc_drew _ _)
     rcases hw with ⟨b,cp,e1,rfl⟩ | ⟨e1,hg0⟩
     ·have e2 : (Value.slice b (d + 1) cp).ownBlock = (Value.slice a d c).ownBlock:=by rw [e1];cases b <;> rfl
      rw [e2] at hs
      refine ⟨?_,((hsx _).grown hg).trans hs⟩
      rw [e1]
      exact own_prefix ho5
     ·refine ⟨own_same hold hs ?_,?_⟩
      ·rw [e1]
       refine .inr (fun e=>?_)
       have:=(HBR.out _ e).2
       simp at this
       omega
      ·rw [e1] at hs
       exact (((hsx _).grown0 hg0).trans hs).fresh (by simp;omega))
    refine wpIn_wide.2 ?_
    go_region_held3 (fun w'=>w'.cell? ⟨wr.heap.size,0,none⟩ = some (.string ⟨l1.toArray⟩) ∧ w'.cell? ⟨wr.heap.size,1,none⟩ = some (.string ⟨t1.toArray⟩) ∧ w'.cell? ⟨wr.heap.size,2,none⟩ = some (.slice a6 al1.length c6) ∧ w'.cell? ⟨wr.heap.size,3,none⟩ = some (.slice a7 js1.length c7))
     (first | go_keep | exact (HKX.out _ HGROW3.out).at | exact (HKY.out _ _ _ HGROW3.out HWH3.out HV5.out.2.1).at)
     (first
      | (refine step_append_keep (by rfl) (.tmp 22) (.tmp 24) 31 (by rfl) nW 3 i0 (.int .i64 0) 8 Tryz.underlying31 hi hz0 hz1 hz2 rfl (.slice a d c) d xs (by rfl) HOX.out ⟨wr.heap.size + 1,0,none⟩ 1 (.int .i64 k) (by rfl) HCX.out rfl (by unfold maxLen;omega) (by omega) HBX'.out ?_
         intro v3 w3 hown3 hgrow3 hold3 hwh3
         have HOWN3:=Lib.hid hown3
         have HGROW3:=Lib.hid hgrow3
         have HOLD3:=Lib.hid hold3
         have HWH3:=Lib.hid hwh3
         clear hown3 hgrow3 hold3 hwh3)
      | (go_at_call 96
         refine (HCL.out _ _ HOWN3.out HGROW3.out).mono ?_
         rintro e w5 ⟨b5,rfl,hv5⟩
         have HV5:=Lib.hid hv5
         clear hv5))
    obtain ⟨ho6,hs6⟩:=HKZ.out _ _ _ HGROW3.out HOLD3.out HWH3.out HV5.out.1 HV5.out.2.1
    have HB6 : Hid (Box4 W.heap.size ⟨lb.toArray⟩ ⟨tx.toArray⟩ va (.slice (some ⟨gk,ok,none⟩) n2 c1') w5):=Lib.hid (HXr.out.sk hs6 (by omega) (fun e=>by have:=HBW.out _ e.symm;omega))
    have HS6:=Lib.hid (HSr.out.trans hs6)
    have HO6:=Lib.hid ho6
    clear ho6 hs6 HKX HKY HKZ HCL HOX HCX HBX' HWB x0 x1 x2 x3 s1 s2 s3 s4
    rcases HV5.out.2.2 with ⟨rfl,hj5⟩ | ⟨rfl,hq5⟩
    ·have HJ6 : Hid (J (pre ++ (d,Tr.node lb tx al ks) :: nodesK (d + 1) (ks.take (k + 1))) w5):=Lib.hid (by rw [nodesK_take HP.out];simpa using hj5)
     clear hj5 HV5
     gi_wp2
     exact ⟨⟨k + 1,by have:=HLT.out;omega,by go_num,HJ6,HO6,HB6,HS6⟩,by have:=HLT.out;simp [intOf];omega⟩
    ·have HQ6:=Lib.hid hq5
     clear hq5 HV5
     gi_wp2
     go_ret
     refine ⟨false,rfl,HO6.out,HS6.out,.inr ⟨rfl,?_⟩⟩
     obtain ⟨q,s9,h9,hx9⟩:=HQ6.out
     obtain ⟨s8,h8⟩:=nodesK_le (d + 1) ks (k + 1)
     refine ⟨(d,Tr.node lb tx al ks) :: nodesK (d + 1) (ks.take k) ++ q,s9 ++ s8,?_,by simpa using hx9⟩
     rw [nodesT_eq,h8,nodesK_take HP.out,h9]
     simp
   ·obtain rfl : n2 = k:=by omega
    have HJ6 : Hid (J (pre ++ nodesT d (Tr.node lb tx al ks)) wr):=Lib.hid (by have h9:=HJr.out;rw [List.take_of_length_le (by rw [← HN2.out];omega)] at h9;rw [nodesT_eq];exact h9)
    clear HJr
    gi_wp2
    go_ret
    exact ⟨true,rfl,HOr.out,HSr.out,.inl ⟨rfl,HJ6.out⟩⟩
 ·have HSK2:=Lib.hid (HSK1.out.trans hs2)
  have HO2:=Lib.hid (own_same HO.out hs2 (by cases (Value.slice a d c).ownBlock <;> simp))
  clear HO HX1 HSK1 hs2
  gi_wp2
  go_ret
  exact ⟨false,rfl,HO2.out,HSK2.out.weak,.inr ⟨rfl,[_],nodesK (d + 1) ks,by rw [nodesT_eq];rfl,hj2⟩⟩
theorem visit_any (N l nW : Nat) (Fit : Nat × Tr → Prop) (w0 : World) (J Jx : List (Nat × Tr) → World → Prop) (hNb : N ≤ 1000000000) (hn : w0.heap.size ≤ nW) (hJ : ∀ pre A B,J pre A → Below nW A B → J pre B) (HY : YieldsV N l nW Fit w0 J Jx) (t : Tr) :
  ∀ (pre : List (Nat × Tr)) (d : Nat) (v : Value) (xs hs : List Value) (W : World),d + depthT t ≤ 1000000 → J pre W → W.ownsRow nW 3 1 v d xs → Dk w0 W → TreeV w0 t hs → nW ≤ W.heap.size → pre.length + (nodesT d t).length ≤ N → (∀ x ∈ nodesT d t,Fit x) →
   Calls Tryz.prog 96 #[v,.agg hs.toArray,.func (.yield l) #[] #[]] W fun e w'=>VisitPost nW w0 J Jx pre (nodesT d t) v d xs W e w':=by
 refine Tr.rec (motive_1:=fun t=>∀ (pre : List (Nat × Tr)) (d : Nat) (v : Value) (xs hs : List Value) (W : World),d + depthT t ≤ 1000000 → J pre W → W.ownsRow nW 3 1 v d xs → Dk w0 W → TreeV w0 t hs → nW ≤ W.heap.size → pre.length + (nodesT d t).length ≤ N → (∀ x ∈ nodesT d t,Fit x) →
   Calls Tryz.prog 96 #[v,.agg hs.toArray,.func (.yield l) #[] #[]] W fun e w'=>VisitPost nW w0 J Jx pre (nodesT d t) v d xs W e w')
  (motive_2:=fun ks=>∀ (k : Nat) (t : Tr),ks[k]? = some t → ∀ (pre : List (Nat × Tr)) (d : Nat) (v : Value) (xs hs : List Value) (W : World),d + depthT t ≤ 1000000 → J pre W → W.ownsRow nW 3 1 v d xs → Dk w0 W → TreeV w0 t hs → nW ≤ W.heap.size → pre.length + (nodesT d t).length ≤ N → (∀ x ∈ nodesT d t,Fit x) →
   Calls Tryz.prog 96 #[v,.agg hs.toArray,.func (.yield l) #[] #[]] W fun e w'=>VisitPost nW w0 J Jx pre (nodesT d t) v d xs W e w') ?_ ?_ ?_ t
 ·intro lb tx al ks ih pre d v xs hs W h1 h2 h3 h4 h5 h6 h7 h8
  obtain ⟨a,c,rfl⟩:=own_sl h3
  have h5':=h5
  rw [TreeV.eq] at h5'
  obtain ⟨va,vk,rfl,_⟩:=h5'
  simp only [depthT] at h1
  exact visit_elem N l nW Fit w0 J Jx hNb hn hJ HY lb tx al ks ih pre d c a xs va vk W h1 h2 h3 h4 h5 h6 h7 h8
 ·intro k t h
  simp at h
 ·intro t ks ih1 ih2 k u hk
  cases k with
  | zero=>
   simp only [List.getElem?_cons_zero,Option.some.injEq] at hk
   rw [← hk]
   exact ih1
  | succ k=>exact ih2 k u (by simpa using hk)
structure AttrC (g : Nat) (lbs : Array Value) (L : World → Prop) (fit : List UInt8 × List UInt8 → Prop) (p : List UInt8 × List UInt8 → Bool) : Prop where
 enters : ∀ args w,(callFunc g args).run Tryz.prog w = .ok (.enter g args) w
 tells : ∀ (a : List UInt8 × List UInt8) (w : World),L w → fit a → Calls Tryz.prog g (#[.agg #[.string ⟨a.1.toArray⟩,.string ⟨a.2.toArray⟩]] ++ lbs) w fun e w'=>e = .returned (.bool (p a)) ∧ Below w.heap.size w w'
def IdxPost (p : List UInt8 × List UInt8 → Bool) (al : List (List UInt8 × List UInt8)) (w : World) (e : Ending) (w' : World) : Prop:=
 ∃ r : Int,e = .returned (.int .i64 r) ∧ decide (0 ≤ r) = al.any p ∧ Below w.heap.size w w'
theorem any_take {α : Type} {p : α → Bool} {l : List α} {k : Nat} {a : α} (h : l[k]? = some a) (h1 : (l.take k).any p = false) (h2 : p a = false) : (l.take (k + 1)).any p = false:=by
 rw [List.take_add_one,h,List.any_append,h1]
 simp [h2]
theorem any_at {α : Type} {p : α → Bool} {l : List α} {k : Nat} {a : α} (h : l[k]? = some a) (h2 : p a = true) : l.any p = true:=
 List.any_eq_true.2 ⟨a,List.mem_of_getElem? h,h2⟩
set_option maxRecDepth 10000 in
set_option maxHeartbeats 2000000 in
theorem index_any (g : Nat) (L : World → Prop) (hL : ∀ A B : World,L A → Below A.heap.size A B → L B) (fit : List UInt8 × List UInt8 → Prop) (p : List UInt8 × List UInt8 → Bool) (hg : AttrC g #[] L fit p)
  (al : List (List UInt8 × List UInt8)) (v : Value) (w : World) (hw : L w) (hv : AtRow w v al.length 2 (attrCells al)) (hf : ∀ a ∈ al,fit a) (hn : al.length ≤ 1000000000) :
  Calls Tryz.prog 121 #[v,.func (.func g) #[] #[]] w fun e w'=>IdxPost p al w e w':=by
 obtain ⟨a,c,ga,off,rfl,ha,hc⟩:=attr_at hv
 obtain ⟨n,hn1⟩ : ∃ n,n = al.length:=⟨_,rfl⟩
 rw [← hn1] at ha hn ⊢
 have eg:=hg.enters
 have HG:=Lib.hid hg.tells
 have HA:=Lib.hid ha
 have HC:=Lib.hid hc
 have HN:=Lib.hid hn1
 have HF:=Lib.hid hf
 have HL:=Lib.hid hL
 have HW:=Lib.hid hw
 clear ha hc hn1 hf hL hw hv hg
 go_enter Tryz.func121,Tryz.ntmps121
 go_wp2_with fail
 go_loopw [8] (fun i wr=>∃ k : Nat,k ≤ n ∧ i = .int .i64 k ∧ Hid ((al.take k).any p = false) ∧ Hid (Below w.heap.size w wr) ∧ Hid (L wr)) (fun i _=>n - (intOf i).toNat)
 case atStart=>exact ⟨0,by omega,rfl,Lib.hid rfl,Lib.hid (Below.refl _ _),HW⟩
 case round=>
  obtain ⟨k,hk,rfl,HT,HB,HLr⟩:=hrel
  by_cases hlt : k < n
  ·obtain rfl:=HA.out (by omega)
   obtain ⟨⟨p1,p2⟩,hp⟩ : ∃ b,al[k]? = some b:=⟨_,List.getElem?_eq_getElem (by rw [← HN.out];omega)⟩
   obtain ⟨r1,r2⟩:=HC.out k _ hp
   simp only at r1 r2
   have up : ∀ {p : Addr} {u : Value},w.cell? p = some u → wr.cell? p = some u:=fun h=>(HB.out.cell (block_lt_of_cell h)).trans h
   have s1:=up r1
   have s2:=up r2
   have hi0 : (0 : Int) ≤ k:=by omega
   have hi1 : (k : Int) < n:=by omega
   have HP:=Lib.hid hp
   have HFI:=Lib.hid (HF.out _ (List.mem_of_getElem? hp))
   have HLT:=Lib.hid hlt
   clear r1 r2 up hp
   cases hpp : p (p1,p2) with
   | true=>
    have HPP:=Lib.hid hpp
    clear hpp
    go_wp2_with fail
    refine (HG.out (p1,p2) _ HLr.out HFI.out).mono ?_
    rintro e w2 ⟨rfl,hb⟩
    rw [HPP.out]
    go_wp2
    go_ret
    exact ⟨_,rfl,by rw [any_at HP.out HPP.out];simp,th HB.out (Nat.le_refl _) hb⟩
   | false=>
    have HPP:=Lib.hid hpp
    clear hpp
    go_wp2_with fail
    refine (HG.out (p1,p2) _ HLr.out HFI.out).mono ?_
    rintro e w2 ⟨rfl,hb⟩
    rw [HPP.out]
    have HB2:=Lib.hid (th HB.out (Nat.le_refl _) hb)
    have HL2:=Lib.hid (HL.out _ _ HLr.out hb)
    clear hb
    go_wp2
    exact ⟨⟨k + 1,by have:=HLT.out;omega,by go_num,Lib.hid (any_take HP.out HT.out HPP.out),HB2,HL2⟩,by have:=HLT.out;simp [intOf];omega⟩
  ·obtain rfl : n = k:=by omega
   go_wp2
   go_ret
   exact ⟨_,rfl,by have h9:=HT.out;rw [List.take_of_length_le (by rw [← HN.out];omega)] at h9;rw [h9];decide,HB.out⟩
set_option maxHeartbeats 1000000 in
theorem contains_any (g : Nat) (L : World → Prop) (hL : ∀ A B : World,L A → Below A.heap.size A B → L B) (fit : List UInt8 × List UInt8 → Prop) (p : List UInt8 × List UInt8 → Bool) (hg : AttrC g #[] L fit p)
  (al : List (List UInt8 × List UInt8)) (v : Value) (w : World) (hw : L w) (hv : AtRow w v al.length 2 (attrCells al)) (hf : ∀ a ∈ al,fit a) (hn : al.length ≤ 1000000000) :
  Calls Tryz.prog 84 #[v,.func (.func g) #[] #[]] w fun e w'=>e = .returned (.bool (al.any p)) ∧ Below w.heap.size w w':=by
 have HC:=Lib.hid (index_any g L hL fit p hg al v w hw hv hf hn)
 clear hg hL hw hv hf
 go_enter Tryz.func84,Tryz.ntmps84
 go_wp2_with fail
 refine HC.out.mono ?_
 rintro e w2 ⟨r,rfl,hr,hb⟩
 have HR:=Lib.hid hr
 clear hr
 go_wp2
 go_ret
 exact ⟨by rw [← HR.out];rfl,hb⟩
set_option maxHeartbeats 1000000 in
theorem writtenT_any (s : List UInt8) (w : World) (hl : Lay w) (hs : s.length ≤ 1000000000) :
  Calls Tryz.prog 87 #[.string ⟨s.toArray⟩] w fun e w'=>e = .returned (.bool (wholeB s)) ∧ Below w.heap.size w w':=by
 have hsz : (⟨s.toArray⟩ : ByteArray).size = s.length:=by have:=bts_len ⟨s.toArray⟩;rw [bts_mk] at this;omega
 have hcv:=conv_any w ⟨s.toArray⟩
 have hB:=bytes_below w ⟨s.toArray⟩
 have HZ:=Lib.hid (bytes_byt w ⟨s.toArray⟩ (by omega))
 have HL:=Lib.hid (hl.below hB hl.size)
 have hch : ((chkE (ints (bts ⟨s.toArray⟩)) : Int) == 0) = wholeB s:=by
  rw [bts_mk]
  unfold chkE wholeB
  rw [Bool.eq_iff_iff]
  have h1:=chkC_le (ints s)
  rw [ints_len] at h1 ⊢
  by_cases h : chkC (ints s) < s.length
  ·rw [if_pos h];simp;omega
  ·rw [if_neg h];simp;omega
 have HCH:=Lib.hid hch
 generalize Lib.bytesWorld w 5 ⟨s.toArray⟩ = w1 at hcv hB HZ HL
 have HB:=Lib.hid hB
 clear hB hl hs hsz hch
 go_enter Tryz.func87,Tryz.ntmps87
 go_wp2_with fail
 refine (check_any _ _ _ _ _ HL.out HZ.out).mono ?_
 rintro e w2 ⟨rfl,hb⟩
 have HB2:=Lib.hid (HB.out.trans (hb.mono HB.out.size))
 clear hb
 generalize chkE (ints (bts ⟨s.toArray⟩)) = E at HCH
 go_wp2
 go_ret
 exact ⟨by rw [← HCH.out];rfl,HB2.out⟩
theorem lay_bel {A B : World} (h : Lay A) (hb : Below A.heap.size A B) : Lay B:=h.below hb h.size
def fitA (a : List UInt8 × List UInt8) : Prop:=a.1.length ≤ 1000000000 ∧ a.2.length ≤ 1000000000
set_option maxHeartbeats 1000000 in
theorem nameless_any (a : List UInt8 × List UInt8) (w : World) :
  Calls Tryz.prog 83 #[.agg #[.string ⟨a.1.toArray⟩,.string ⟨a.2.toArray⟩]] w fun e w'=>e = .returned (.bool (!nameL a.1)) ∧ Below w.heap.size w w':=by
 have HB:=Lib.hid ((Below.refl _ w).alloc (Nat.le_refl _) (.cells #[.string ⟨a.1.toArray⟩,.string ⟨a.2.toArray⟩] 82))
 go_enter Tryz.func83,Tryz.ntmps83
 go_wp2_with fail
 refine (isName_any _ _).mono ?_
 rintro e w2 ⟨rfl,hb⟩
 rw [bts_mk]
 have HB2:=Lib.hid (HB.out.trans (hb.mono HB.out.size))
 clear hb
 generalize hb1 : nameL a.1 = b
 have HB1:=Lib.hid hb1
 clear hb1
 go_wp2
 go_ret
 exact ⟨by rw [HB1.out];cases b <;> rfl,HB2.out⟩
set_option maxHeartbeats 1000000 in
theorem strange_any (a : List UInt8 × List UInt8) (w : World) (hl : Lay w) (hf : fitA a) :
  Calls Tryz.prog 86 #[.agg #[.string ⟨a.1.toArray⟩,.string ⟨a.2.toArray⟩]] w fun e w'=>e = .returned (.bool (!wholeB a.2)) ∧ Below w.heap.size w w':=by
 have HB:=Lib.hid ((Below.refl _ w).alloc (Nat.le_refl _) (.cells #[.string ⟨a.1.toArray⟩,.string ⟨a.2.toArray⟩] 82))
 have HL:=Lib.hid (lay_bel hl HB.out)
 have HF:=Lib.hid hf
 clear hl hf
 go_enter Tryz.func86,Tryz.ntmps86
 go_wp2_with fail
 refine (writtenT_any _ _ HL.out HF.out.2).mono ?_
 rintro e w2 ⟨rfl,hb⟩
 have HB2:=Lib.hid (HB.out.trans (hb.mono HB.out.size))
 clear hb
 generalize hb1 : wholeB a.2 = b
 have HB1:=Lib.hid hb1
 clear hb1
 go_wp2
 go_ret
 exact ⟨by rw [HB1.out];cases b <;> rfl,HB2.out⟩
theorem nameless_attr : AttrC 83 #[] (fun _=>True) (fun _=>True) (fun a=>!nameL a.1):=
 ⟨enters_of Tryz.func83 (by kernel_rfl) rfl,fun a w _ _=>nameless_any a w⟩
theorem strange_attr : AttrC 86 #[] Lay fitA (fun a=>!wholeB a.2):=
 ⟨enters_of Tryz.func86 (by kernel_rfl) rfl,fun a w hl hf=>strange_any a w hl hf⟩
theorem emp_iff (lb : List UInt8) : ((⟨lb.toArray⟩ : ByteArray).toList.isEmpty) = decide (lb = []):=by
 rw [ByteArray.toList_eq]
 cases lb <;> simp
set_option maxHeartbeats 1000000 in
theorem isText_any (lb : List UInt8) (tx : ByteArray) (va vk : Value) (b : Bool) (hb : decide (lb = []) = b) (w : World) :
  Calls Tryz.prog 81 #[.agg #[.string ⟨lb.toArray⟩,.string tx,va,vk]] w fun e w'=>e = .returned (.bool b) ∧ Below w.heap.size w w':=by
 have h1:=emp_iff lb
 rw [hb] at h1
 generalize (⟨lb.toArray⟩ : ByteArray) = lbb at h1
 have HB:=Lib.hid ((Below.refl _ w).alloc (Nat.le_refl _) (.cells #[.string lbb,.string tx,va,vk] 27))
 clear hb
 go_enter Tryz.func81,Tryz.ntmps81
 go_wp2
 go_ret
 exact ⟨rfl,HB.out⟩
def badForm : Tr → Bool
 | .node lb tx al ks=>if decide (lb = []) = true then decide (0 < al.length) || decide (0 < ks.length) else !decide (tx = [])
def badName : Tr → Bool
 | .node lb _ al _=>(!decide (lb = []) && !nameL lb) || al.any (fun a=>!nameL a.1)
def badUTF : Tr → Bool
 | .node _ tx al _=>!wholeB tx || al.any (fun a=>!wholeB a.2)
def badEmpty : Tr → Bool
 | .node lb tx _ _=>decide (lb = []) && decide (tx = [])
set_option maxHeartbeats 2000000 in
theorem form_any (pv : Value) (t : Tr) (hs : List Value) (w : World) (ht : TreeV w t hs) :
  Calls Tryz.prog 80 #[pv,.agg hs.toArray] w fun e w'=>e = .returned (.bool (badForm t)) ∧ Below w.heap.size w w':=by
 obtain ⟨lb,tx,al,ks⟩:=t
 rw [TreeV.eq] at ht
 obtain ⟨va,vk,rfl,⟨a,c,rfl,_⟩,lk,_,⟨d,c1,rfl,_⟩⟩:=ht
 obtain ⟨n1,h1⟩ : ∃ n,n = al.length:=⟨_,rfl⟩
 obtain ⟨n2,h2⟩ : ∃ n,n = ks.length:=⟨_,rfl⟩
 have HE : Hid (badForm (.node lb tx al ks) = if decide (lb = []) = true then decide (0 < n1) || decide (0 < n2) else !decide (tx = [])):=Lib.hid (by rw [h1,h2];rfl)
 rw [← h1,← h2]
 clear h1 h2
 generalize badForm (.node lb tx al ks) = R at HE
 have htx:=emp_iff tx
 cases hb : decide (lb = []) with
 | true=>
  have HIT:=Lib.hid (fun (W : World)=>isText_any lb ⟨tx.toArray⟩ (.slice a n1 c) (.slice d n2 c1) true hb W)
  rw [hb,if_pos rfl] at HE
  clear htx
  generalize (⟨lb.toArray⟩ : ByteArray) = lbb at HIT
  generalize (⟨tx.toArray⟩ : ByteArray) = txb at HIT
  have HB:=Lib.hid ((Below.refl _ w).alloc (Nat.le_refl _) (.cells #[.string lbb,.string txb,.slice a n1 c,.slice d n2 c1] 27))
  have HX:=Lib.hid (Box4.made lbb txb (.slice a n1 c) (.slice d n2 c1) w)
  clear hb
  obtain ⟨x0,x1,x2,x3⟩:=HX.out.at
  rcases Nat.eq_zero_or_pos n1 with h1 | h1
  ·subst h1
   rcases Nat.eq_zero_or_pos n2 with h2 | h2
   ·subst h2
    go_enter Tryz.func80,Tryz.ntmps80
    go_wp2_with fail
    refine (HIT.out _).mono ?_
    rintro e w2 ⟨rfl,hb2⟩
    have HB2:=Lib.hid (HB.out.trans (hb2.mono HB.out.size))
    have HX2:=Lib.hid (HX.out.below hb2 (Nat.le_refl _))
    obtain ⟨y0,y1,y2,y3⟩:=HX2.out.at
    clear hb2 x0 x1 x2 x3
    go_wp2
    go_ret
    exact ⟨by rw [HE.out];rfl,HB2.out⟩
   ·have hi : (0 : Int) < n2:=by omega
    go_enter Tryz.func80,Tryz.ntmps80
    go_wp2_with fail
    refine (HIT.out _).mono ?_
    rintro e w2 ⟨rfl,hb2⟩
    have HB2:=Lib.hid (HB.out.trans (hb2.mono HB.out.size))
    have HX2:=Lib.hid (HX.out.below hb2 (Nat.le_refl _))
    obtain ⟨y0,y1,y2,y3⟩:=HX2.out.at
    clear hb2 x0 x1 x2 x3
    go_wp2
    go_ret
    exact ⟨by rw [HE.out,decide_eq_true h2];rfl,HB2.out⟩
  ·have hi : (0 : Int) < n1:=by omega
   go_enter Tryz.func80,Tryz.ntmps80
   go_wp2_with fail
   refine (HIT.out _).mono ?_
   rintro e w2 ⟨rfl,hb2⟩
   have HB2:=Lib.hid (HB.out.trans (hb2.mono HB.out.size))
   have HX2:=Lib.hid (HX.out.below hb2 (Nat.le_refl _))
   obtain ⟨y0,y1,y2,y3⟩:=HX2.out.at
   clear hb2 x0 x1 x2 x3
   go_wp2
   go_ret
   exact ⟨by rw [HE.out,decide_eq_true h1];rfl,HB2.out⟩
 | false=>
  have HIT:=Lib.hid (fun (W : World)=>isText_any lb ⟨tx.toArray⟩ (.slice a n1 c) (.slice d n2 c1) false hb W)
  rw [hb,if_neg (by simp)] at HE
  generalize (⟨lb.toArray⟩ : ByteArray) = lbb at HIT
  generalize (⟨tx.toArray⟩ : ByteArray) = txb at HIT htx
  have HB:=Lib.hid ((Below.refl _ w).alloc (Nat.le_refl _) (.cells #[.string lbb,.string txb,.slice a n1 c,.slice d n2 c1] 27))
  have HX:=Lib.hid (Box4.made lbb txb (.slice a n1 c) (.slice d n2 c1) w)
  obtain ⟨x0,x1,x2,x3⟩:=HX.out.at
  clear hb
  generalize decide (tx = []) = b2 at htx HE
  go_enter Tryz.func80,Tryz.ntmps80
  go_wp2_with fail
  refine (HIT.out _).mono ?_
  rintro e w2 ⟨rfl,hb2⟩
  have HB2:=Lib.hid (HB.out.trans (hb2.mono HB.out.size))
  have HX2:=Lib.hid (HX.out.below hb2 (Nat.le_refl _))
  obtain ⟨y0,y1,y2,y3⟩:=HX2.out.at
  clear hb2 x0 x1 x2 x3
  go_wp2
  go_ret
  exact ⟨by rw [HE.out];cases b2 <;> rfl,HB2.out⟩
set_option maxHeartbeats 2000000 in
theorem noText_any (pv : Value) (t : Tr) (hs : List Value) (w : World) (ht : TreeV w t hs) :
  Calls Tryz.prog 88 #[pv,.agg hs.toArray] w fun e w'=>e = .returned (.bool (badEmpty t)) ∧ Below w.heap.size w w':=by
 obtain ⟨lb,tx,al,ks⟩:=t
 rw [TreeV.eq] at ht
 obtain ⟨va,vk,rfl,⟨a,c,rfl,_⟩,lk,_,⟨d,c1,rfl,_⟩⟩:=ht
 have HE : Hid (badEmpty (.node lb tx al ks) = (decide (lb = []) && decide (tx = []))):=Lib.hid rfl
 generalize badEmpty (.node lb tx al ks) = R at HE
 generalize al.length = n1
 generalize ks.length = n2
 have htx:=emp_iff tx
 cases hb : decide (lb = []) with
 | true=>
  have HIT:=Lib.hid (fun (W : World)=>isText_any lb ⟨tx.toArray⟩ (.slice a n1 c) (.slice d n2 c1) true hb W)
  rw [hb] at HE
  generalize (⟨lb.toArray⟩ : ByteArray) = lbb at HIT
  generalize (⟨tx.toArray⟩ : ByteArray) = txb at HIT htx
  have HB:=Lib.hid ((Below.refl _ w).alloc (Nat.le_refl _) (.cells #[.string lbb,.string txb,.slice a n1 c,.slice d n2 c1] 27))
  have HX:=Lib.hid (Box4.made lbb txb (.slice a n1 c) (.slice d n2 c1) w)
  obtain ⟨x0,x1,x2,x3⟩:=HX.out.at
  clear hb
  generalize decide (tx = []) = b2 at htx HE
  go_enter Tryz.func88,Tryz.ntmps88
  go_wp2_with fail
  refine (HIT.out _).mono ?_
  rintro e w2 ⟨rfl,hb2⟩
  have HB2:=Lib.hid (HB.out.trans (hb2.mono HB.out.size))
  have HX2:=Lib.hid (HX.out.below hb2 (Nat.le_refl _))
  obtain ⟨y0,y1,y2,y3⟩:=HX2.out.at
  clear hb2 x0 x1 x2 x3
  go_wp2
  go_ret
  exact ⟨by rw [HE.out];cases b2 <;> rfl,HB2.out⟩
 | false=>
  have HIT:=Lib.hid (fun (W : World)=>isText_any lb ⟨tx.toArray⟩ (.slice a n1 c) (.slice d n2 c1) false hb W)
  rw [hb] at HE
  generalize (⟨lb.toArray⟩ : ByteArray) = lbb at HIT
  generalize (⟨tx.toArray⟩ : ByteArray) = txb at HIT htx
  have HB:=Lib.hid ((Below.refl _ w).alloc (Nat.le_refl _) (.cells #[.string lbb,.string txb,.slice a n1 c,.slice d n2 c1] 27))
  have HX:=Lib.hid (Box4.made lbb txb (.slice a n1 c) (.slice d n2 c1) w)
  obtain ⟨x0,x1,x2,x3⟩:=HX.out.at
  clear hb htx
  go_enter Tryz.func88,Tryz.ntmps88
  go_wp2_with fail
  refine (HIT.out _).mono ?_
  rintro e w2 ⟨rfl,hb2⟩
  have HB2:=Lib.hid (HB.out.trans (hb2.mono HB.out.size))
  have HX2:=Lib.hid (HX.out.below hb2 (Nat.le_refl _))
  obtain ⟨y0,y1,y2,y3⟩:=HX2.out.at
  clear hb2 x0 x1 x2 x3
  go_wp2
  go_ret
  exact ⟨by rw [HE.out];rfl,HB2.out⟩
def fitN : Tr → Prop
 | .node _ tx al ks=>tx.length ≤ 1000000000 ∧ (∀ a ∈ al,fitA a) ∧ al.length ≤ 1000000000 ∧ ks.length ≤ 1000000000
set_option maxHeartbeats 2000000 in
theorem name_any (pv : Value) (t : Tr) (hs : List Value) (w : World) (ht : TreeV w t hs) (hf : fitN t) :
  Calls Tryz.prog 82 #[pv,.agg hs.toArray] w fun e w'=>e = .returned (.bool (badName t)) ∧ Below w.heap.size w w':=by
 obtain ⟨lb,tx,al,ks⟩:=t
 rw [TreeV.eq] at ht
 obtain ⟨va,vk,rfl,hat,lk,_,⟨d,c1,rfl,_⟩⟩:=ht
 have hat':=hat
 obtain ⟨a,c,rfl,_⟩:=hat'
 have HCT:=Lib.hid (fun (W : World) (hb : Below w.heap.size w W)=>contains_any _ (fun _=>True) (fun _ _ _ _=>trivial) (fun _=>True) _ nameless_attr al _ W trivial (hat.below hb (Nat.le_refl _)) (fun _ _=>trivial) hf.2.2.1)
 have HE : Hid (badName (.node lb tx al ks) = ((!decide (lb = []) && !nameL lb) || al.any (fun a=>!nameL a.1))):=Lib.hid rfl
 generalize badName (.node lb tx al ks) = R at HE
 generalize al.any (fun a=>!nameL a.1) = ba at HE HCT
 clear hat hf
 generalize al.length = n1 at HCT
 generalize ks.length = n2
 have HNM:=Lib.hid (fun (W : World)=>isName_any ⟨lb.toArray⟩ W)
 rw [bts_mk] at HNM
 cases hb : decide (lb = []) with
 | true=>
  have HIT:=Lib.hid (fun (W : World)=>isText_any lb ⟨tx.toArray⟩ (.slice a n1 c) (.slice d n2 c1) true hb W)
  rw [hb] at HE
  clear HNM
  generalize (⟨lb.toArray⟩ : ByteArray) = lbb at HIT
  generalize (⟨tx.toArray⟩ : ByteArray) = txb at HIT
  have HB:=Lib.hid ((Below.refl _ w).alloc (Nat.le_refl _) (.cells #[.string lbb,.string txb,.slice a n1 c,.slice d n2 c1] 27))
  have HX:=Lib.hid (Box4.made lbb txb (.slice a n1 c) (.slice d n2 c1) w)
  obtain ⟨x0,x1,x2,x3⟩:=HX.out.at
  clear hb
  go_enter Tryz.func82,Tryz.ntmps82
  go_wp2_with fail
  refine (HIT.out _).mono ?_
  rintro e w2 ⟨rfl,hb2⟩
  have HB2:=Lib.hid (HB.out.trans (hb2.mono HB.out.size))
  have HX2:=Lib.hid (HX.out.below hb2 (Nat.le_refl _))
  obtain ⟨y0,y1,y2,y3⟩:=HX2.out.at
  clear hb2 x0 x1 x2 x3
  go_wp2_with fail
  refine (HCT.out _ HB2.out).mono ?_
  rintro e w3 ⟨rfl,hb3⟩
  have HB3:=Lib.hid (th HB2.out (Nat.le_refl _) hb3)
  clear hb3 y0 y1 y2 y3
  go_wp2
  go_ret
  exact ⟨by rw [HE.out];cases ba <;> rfl,HB3.out⟩
 | false=>
  have HIT:=Lib.hid (fun (W : World)=>isText_any lb ⟨tx.toArray⟩ (.slice a n1 c) (.slice d n2 c1) false hb W)
  rw [hb] at HE
  generalize (⟨lb.toArray⟩ : ByteArray) = lbb at HIT HNM
  generalize (⟨tx.toArray⟩ : ByteArray) = txb at HIT
  have HB:=Lib.hid ((Below.refl _ w).alloc (Nat.le_refl _) (.cells #[.string lbb,.string txb,.slice a n1 c,.slice d n2 c1] 27))
  have HX:=Lib.hid (Box4.made lbb txb (.slice a n1 c) (.slice d n2 c1) w)
  obtain ⟨x0,x1,x2,x3⟩:=HX.out.at
  clear hb
  cases hnl : nameL lb with
  | false=>
   rw [hnl] at HE HNM
   clear hnl
   go_enter Tryz.func82,Tryz.ntmps82
   go_wp2_with fail
   refine (HIT.out _).mono ?_
   rintro e w2 ⟨rfl,hb2⟩
   have HB2:=Lib.hid (HB.out.trans (hb2.mono HB.out.size))
   have HX2:=Lib.hid (HX.out.below hb2 (Nat.le_refl _))
   obtain ⟨y0,y1,y2,y3⟩:=HX2.out.at
   clear hb2 x0 x1 x2 x3
   go_wp2_with fail
   refine (HNM.out _).mono ?_
   rintro e w3 ⟨rfl,hb3⟩
   have HB3:=Lib.hid (th HB2.out (Nat.le_refl _) hb3)
   clear hb3 y0 y1 y2 y3
   go_wp2
   go_ret
   exact ⟨by rw [HE.out];rfl,HB3.out⟩
  | true=>
   rw [hnl] at HE HNM
   clear hnl
   go_enter Tryz.func82,Tryz.ntmps82
   go_wp2_with fail
   refine (HIT.out _).mono ?_
   rintro e w2 ⟨rfl,hb2⟩
   have HB2:=Lib.hid (HB.out.trans (hb2.mono HB.out.size))
   have HX2:=Lib.hid (HX.out.below hb2 (Nat.le_refl _))
   obtain ⟨y0,y1,y2,y3⟩:=HX2.out.at
   clear hb2 x0 x1 x2 x3
   go_wp2_with fail
   refine (HNM.out _).mono ?_
   rintro e w3 ⟨rfl,hb3⟩
   have HB3:=Lib.hid (th HB2.out (Nat.le_refl _) hb3)
   have HX3:=Lib.hid (HX2.out.below hb3 (Nat.le_refl _))
   obtain ⟨z0,z1,z2,z3⟩:=HX3.out.at
   clear hb3 y0 y1 y2 y3
   go_wp2_with fail
   refine (HCT.out _ HB3.out).mono ?_
   rintro e w4 ⟨rfl,hb4⟩
   have HB4:=Lib.hid (th HB3.out (Nat.le_refl _) hb4)
   clear hb4 z0 z1 z2 z3
   go_wp2
   go_ret
   exact ⟨by rw [HE.out];cases ba <;> rfl,HB4.out⟩
set_option maxHeartbeats 2000000 in
theorem utf_any (pv : Value) (t : Tr) (hs : List Value) (w : World) (hl : Lay w) (ht : TreeV w t hs) (hf : fitN t) :
  Calls Tryz.prog 85 #[pv,.agg hs.toArray] w fun e w'=>e = .returned (.bool (badUTF t)) ∧ Below w.heap.size w w':=by
 obtain ⟨lb,tx,al,ks⟩:=t
 rw [TreeV.eq] at ht
 obtain ⟨va,vk,rfl,hat,lk,_,⟨d,c1,rfl,_⟩⟩:=ht
 have hat':=hat
 obtain ⟨a,c,rfl,_⟩:=hat'
 have HCT:=Lib.hid (fun (W : World) (hb : Below w.heap.size w W)=>contains_any _ Lay (fun _ _ h1 h2=>lay_bel h1 h2) fitA _ strange_attr al _ W (hl.below hb hl.size) (hat.below hb (Nat.le_refl _)) hf.2.1 hf.2.2.1)
 have HWR:=Lib.hid (fun (W : World) (hb : Below w.heap.size w W)=>writtenT_any tx W (hl.below hb hl.size) hf.1)
 have HE : Hid (badUTF (.node lb tx al ks) = (!wholeB tx || al.any (fun a=>!wholeB a.2))):=Lib.hid rfl
 generalize badUTF (.node lb tx al ks) = R at HE
 generalize al.any (fun a=>!wholeB a.2) = ba at HE HCT
 clear hat hf hl
 generalize al.length = n1 at HCT
 generalize ks.length = n2
 generalize (⟨lb.toArray⟩ : ByteArray) = lbb
 generalize (⟨tx.toArray⟩ : ByteArray) = txb at HWR
 have HB:=Lib.hid ((Below.refl _ w).alloc (Nat.le_refl _) (.cells #[.string lbb,.string txb,.slice a n1 c,.slice d n2 c1] 27))
 have HX:=Lib.hid (Box4.made lbb txb (.slice a n1 c) (.slice d n2 c1) w)
 obtain ⟨x0,x1,x2,x3⟩:=HX.out.at
 cases hw : wholeB tx with
 | false=>
  rw [hw] at HE HWR
  clear hw
  go_enter Tryz.func85,Tryz.ntmps85
  go_wp2_with fail
  refine (HWR.out _ HB.out).mono ?_
  rintro e w2 ⟨rfl,hb2⟩
  have HB2:=Lib.hid (HB.out.trans (hb2.mono HB.out.size))
  clear hb2 x0 x1 x2 x3
  go_wp2
  go_ret
  exact ⟨by rw [HE.out];rfl,HB2.out⟩
 | true=>
  rw [hw] at HE HWR
  clear hw
  go_enter Tryz.func85,Tryz.ntmps85
  go_wp2_with fail
  refine (HWR.out _ HB.out).mono ?_
  rintro e w2 ⟨rfl,hb2⟩
  have HB2:=Lib.hid (HB.out.trans (hb2.mono HB.out.size))
  have HX2:=Lib.hid (HX.out.below hb2 (Nat.le_refl _))
  obtain ⟨y0,y1,y2,y3⟩:=HX2.out.at
  clear hb2 x0 x1 x2 x3
  go_wp2_with fail
  refine (HCT.out _ HB2.out).mono ?_
  rintro e w3 ⟨rfl,hb3⟩
  have HB3:=Lib.hid (th HB2.out (Nat.le_refl _) hb3)
  clear hb3 y0 y1 y2 y3
  go_wp2
  go_ret
  exact ⟨by rw [HE.out];cases ba <;> rfl,HB3.out⟩
def pairB {α : Type} (q : α → α → Bool) : List α → Bool
 | []=>false
 | [_]=>false
 | a :: b :: r=>q a b || pairB q (b :: r)
theorem pairB_at {α : Type} {q : α → α → Bool} : ∀ {l : List α} {k : Nat} {a b : α},l[k]? = some a → l[k + 1]? = some b → q a b = true → pairB q l = true:=by
 intro l
 induction l with
 | nil=>intro k a b h;simp at h
 | cons x r ih=>
  intro k a b h1 h2 h3
  cases r with
  | nil=>simp at h2
  | cons y s=>
   cases k with
   | zero=>
    simp only [List.getElem?_cons_zero,List.getElem?_cons_succ,Option.some.injEq] at h1 h2
    subst h1 h2
    simp [pairB,h3]
   | succ k=>
    have:=ih (by simpa using h1) (by simpa using h2) h3
    simp [pairB,this]
theorem pairB_none {α : Type} {q : α → α → Bool} : ∀ {l : List α},(∀ (k : Nat) (a b : α),l[k]? = some a → l[k + 1]? = some b → q a b = false) → pairB q l = false:=by
 intro l
 induction l with
 | nil=>intro _;rfl
 | cons x r ih=>
  intro h
  cases r with
  | nil=>rfl
  | cons y s=>
   simp only [pairB,Bool.or_eq_false_iff]
   exact ⟨h 0 x y rfl rfl,ih (fun k a b h1 h2=>h (k + 1) a b (by simpa using h1) (by simpa using h2))⟩
def notUp (a b : List UInt8 × List UInt8) : Bool:=!ltB a.1 b.1
set_option maxHeartbeats 2000000 in
theorem notUp_any (a b : List UInt8 × List UInt8) (w : World) :
  Calls Tryz.prog 91 #[.agg #[.string ⟨a.1.toArray⟩,.string ⟨a.2.toArray⟩],.agg #[.string ⟨b.1.toArray⟩,.string ⟨b.2.toArray⟩]] w fun e w'=>e = .returned (.bool (notUp a b)) ∧ Below w.heap.size w w':=by
 obtain ⟨a1,a2⟩:=a
 obtain ⟨b1,b2⟩:=b
 have HB:=Lib.hid (((Below.refl _ w).alloc (Nat.le_refl _) (.cells #[.string ⟨a1.toArray⟩,.string ⟨a2.toArray⟩] 82)).alloc (by simp) (.cells #[.string ⟨b1.toArray⟩,.string ⟨b2.toArray⟩] 82))
 go_enter Tryz.func91,Tryz.ntmps91
 go_wp2
 go_ret
 refine ⟨?_,HB.out⟩
 show Ending.returned (.bool (!Op.bytesLess a1 b1)) = _
 rw [less_ltB]
 rfl
theorem below_of_drew {w w' : World} (h : Below w.drew.heap.size w.drew w') : Below w.heap.size w w':=((Below.refl w.heap.size w).drew).trans h
theorem enters_notUp : ∀ args w,(callFunc 91 args).run Tryz.prog w = .ok (.enter 91 args) w:=enters_of Tryz.func91 (by kernel_rfl) rfl
set_option maxRecDepth 10000 in
set_option maxHeartbeats 2000000 in
theorem pairsA_any (al : List (List UInt8 × List UInt8)) (v : Value) (w : World) (hv : AtRow w v al.length 2 (attrCells al)) (hn : al.length ≤ 1000000000) :
  Calls Tryz.prog 90 #[v,.func (.func 91) #[] #[]] w fun e w'=>e = .returned (.bool (pairB notUp al)) ∧ Below w.heap.size w w':=by
 obtain ⟨a,c,ga,off,rfl,ha,hc⟩:=attr_at hv
 obtain ⟨n,hn1⟩ : ∃ n,n = al.length:=⟨_,rfl⟩
 rw [← hn1] at ha hn ⊢
 have eg:=enters_notUp
 have HA:=Lib.hid ha
 have HC:=Lib.hid hc
 have HN:=Lib.hid hn1
 clear ha hc hn1 hv
 go_enter Tryz.func90,Tryz.ntmps90
 go_wp2_with fail
 go_loopw [5] (fun i wr=>∃ k : Nat,i = .int .i64 k ∧ 1 ≤ k ∧ (k ≤ n ∨ k = 1) ∧ Hid (∀ (m : Nat) (a b : List UInt8 × List UInt8),m + 1 < k → al[m]? = some a → al[m + 1]? = some b → notUp a b = false) ∧ Hid (Below w.heap.size w wr)) (fun i _=>n - (intOf i).toNat)
 case atStart=>exact ⟨1,rfl,by omega,.inr rfl,Lib.hid (fun m a b hm=>absurd hm (by omega)),Lib.hid (Below.refl _ _)⟩
 case round=>
  obtain ⟨k,rfl,hk1,hk2,HG,HB⟩:=hrel
  by_cases hlt : k < n
  ·obtain ⟨j,rfl⟩ : ∃ j,k = j + 1:=⟨k - 1,by omega⟩
   obtain rfl:=HA.out (by omega)
   obtain ⟨⟨q1,q2⟩,hq⟩ : ∃ b,al[j + 1]? = some b:=⟨_,List.getElem?_eq_getElem (by rw [← HN.out];omega)⟩
   obtain ⟨⟨p1,p2⟩,hp⟩ : ∃ b,al[j]? = some b:=⟨_,List.getElem?_eq_getElem (by rw [← HN.out];omega)⟩
   obtain ⟨r1,r2⟩:=HC.out _ _ hq
   obtain ⟨r3,r4⟩:=HC.out _ _ hp
   simp only at r1 r2 r3 r4
   have up : ∀ {p : Addr} {u : Value},w.cell? p = some u → wr.cell? p = some u:=fun h=>(HB.out.cell (block_lt_of_cell h)).trans h
   have s1:=up r1
   have s2:=up r2
   have s3:=up r3
   have s4:=up r4
   obtain ⟨k,hkj⟩ : ∃ k,k = j + 1:=⟨_,rfl⟩
   rw [← hkj] at s1 s2 hlt
   have hi0 : (0 : Int) ≤ (k : Int):=by omega
   have hi1 : (k : Int) < n:=by omega
   have hj1 : (k : Int) - 1 = (j : Int):=by omega
   have hj2 : IntKind.i64.wrap ((k : Int) - 1) = (j : Int):=by rw [hj1];exact wrap_small _ (by omega) (by omega)
   have hj5 : IntKind.i64.wrap (j : Int) = (j : Int):=wrap_small _ (by omega) (by omega)
   have hj3 : (0 : Int) ≤ (j : Int):=by omega
   have hj4 : (j : Int) < n:=by omega
   have HQ:=Lib.hid hq
   have HPP:=Lib.hid hp
   have HKJ:=Lib.hid hkj
   have HLT:=Lib.hid hlt
   have HNU:=Lib.hid (fun W : World=>notUp_any (p1,p2) (q1,q2) W)
   have HKS : Hid (∀ W : World,Below wr.heap.size wr W → W.cell? ⟨ga,off + k * 2,none⟩ = some (.string ⟨q1.toArray⟩) ∧ W.cell? ⟨ga,off + k * 2 + 1,none⟩ = some (.string ⟨q2.toArray⟩) ∧ W.cell? ⟨ga,off + j * 2,none⟩ = some (.string ⟨p1.toArray⟩) ∧ W.cell? ⟨ga,off + j * 2 + 1,none⟩ = some (.string ⟨p2.toArray⟩)):=
    Lib.hid (fun W hb=>⟨(hb.cell (block_lt_of_cell s1)).trans s1,(hb.cell (block_lt_of_cell s2)).trans s2,(hb.cell (block_lt_of_cell s3)).trans s3,(hb.cell (block_lt_of_cell s4)).trans s4⟩)
   rw [← hkj]
   clear r1 r2 r3 r4 up hq hp hk2
   clear hkj
   cases hnu : notUp (p1,p2) (q1,q2) with
   | true=>
    rw [hnu] at HNU
    have HNU2:=Lib.hid hnu
    clear hnu
    go_wp2_with fail
    go_region_held3 (fun W=>W.cell? ⟨ga,off + k * 2,none⟩ = some (.string ⟨q1.toArray⟩) ∧ W.cell? ⟨ga,off + k * 2 + 1,none⟩ = some (.string ⟨q2.toArray⟩) ∧ W.cell? ⟨ga,off + j * 2,none⟩ = some (.string ⟨p1.toArray⟩) ∧ W.cell? ⟨ga,off + j * 2 + 1,none⟩ = some (.string ⟨p2.toArray⟩))
     (first | go_keep | exact HKS.out _ (below_of_drew HB5.out))
     (first
      | (refine (HNU.out _).mono ?_
         rintro e w5 ⟨rfl,hb5⟩
         have HB5:=Lib.hid hb5
         clear hb5)
      | fail)
    go_wp2
    go_ret
    exact ⟨by rw [pairB_at HPP.out HQ.out HNU2.out];rfl,th HB.out (Nat.le_refl _) (below_of_drew HB5.out)⟩
   | false=>
    rw [hnu] at HNU
    have HNU2:=Lib.hid hnu
    have HGN : Hid (∀ (m : Nat) (a b : List UInt8 × List UInt8),m + 1 < k + 1 → al[m]? = some a → al[m + 1]? = some b → notUp a b = false):=Lib.hid (fun m a b hm h7 h8=>by
     by_cases hmj : m = j
     ·subst hmj
      rw [HPP.out] at h7
      rw [HQ.out] at h8
      injection h7 with h7
      injection h8 with h8
      subst h7 h8
      exact HNU2.out
     ·exact HG.out m a b (by have:=HKJ.out;omega) h7 h8)
    clear hnu
    go_wp2_with fail
    go_region_held3 (fun W=>W.cell? ⟨ga,off + k * 2,none⟩ = some (.string ⟨q1.toArray⟩) ∧ W.cell? ⟨ga,off + k * 2 + 1,none⟩ = some (.string ⟨q2.toArray⟩) ∧ W.cell? ⟨ga,off + j * 2,none⟩ = some (.string ⟨p1.toArray⟩) ∧ W.cell? ⟨ga,off + j * 2 + 1,none⟩ = some (.string ⟨p2.toArray⟩))
     (first | go_keep | exact HKS.out _ (below_of_drew HB5.out))
     (first
      | (refine (HNU.out _).mono ?_
         rintro e w5 ⟨rfl,hb5⟩
         have HB5:=Lib.hid hb5
         clear hb5)
      | fail)
    have HB6:=Lib.hid (th HB.out (Nat.le_refl _) (below_of_drew HB5.out))
    go_wp2
    exact ⟨⟨k + 1,by go_num,by omega,.inl (by have:=HLT.out;omega),HGN,HB6⟩,by have:=HLT.out;simp [intOf];omega⟩
  ·have HGF : Hid (pairB notUp al = false):=Lib.hid (pairB_none (fun m a b h7 h8=>HG.out m a b (by have h9:=(List.getElem?_eq_some_iff.1 h8).1;have h0:=HN.out;omega) h7 h8))
   go_wp2
   go_ret
   exact ⟨by rw [HGF.out];rfl,HB.out⟩
theorem sl_of {w : World} {t : Tr} {x y va vk : Value} (h : TreeV w t [x,y,va,vk]) : (∃ a n c,va = .slice a n c) ∧ (∃ a n c,vk = .slice a n c):=by
 obtain ⟨lb,tx,al,ks⟩:=t
 rw [TreeV.eq] at h
 obtain ⟨va',vk',e,⟨a,c,e1,_⟩,lk,_,⟨a',c',e2,_⟩⟩:=h
 injection e with _ e
 injection e with _ e
 injection e with e3 e
 injection e with e4 _
 exact ⟨⟨_,_,_,e3.trans e1⟩,⟨_,_,_,e4.trans e2⟩⟩
def twoTx (a b : Tr) : Bool:=isTx a && isTx b
set_option maxHeartbeats 2000000 in
theorem twoTx_any (p1 p2 : List UInt8) (p3 : List (List UInt8 × List UInt8)) (p4 : List Tr) (pa pk : Value) (q1 q2 : List UInt8) (q3 : List (List UInt8 × List UInt8)) (q4 : List Tr) (qa qk : Value) (w : World)
  (h1 : ∃ a n c,pa = .slice a n c) (h2 : ∃ a n c,pk = .slice a n c) (h3 : ∃ a n c,qa = .slice a n c) (h4 : ∃ a n c,qk = .slice a n c) :
  Calls Tryz.prog 94 #[.agg #[.string ⟨p1.toArray⟩,.string ⟨p2.toArray⟩,pa,pk],.agg #[.string ⟨q1.toArray⟩,.string ⟨q2.toArray⟩,qa,qk]] w fun e w'=>e = .returned (.bool (twoTx (.node p1 p2 p3 p4) (.node q1 q2 q3 q4))) ∧ Below w.heap.size w w':=by
 obtain ⟨a1,n1,c1,rfl⟩:=h1
 obtain ⟨a2,n2,c2,rfl⟩:=h2
 obtain ⟨a3,n3,c3,rfl⟩:=h3
 obtain ⟨a4,n4,c4,rfl⟩:=h4
 have HE : Hid (twoTx (.node p1 p2 p3 p4) (.node q1 q2 q3 q4) = (decide (p1 = []) && decide (q1 = []))):=Lib.hid rfl
 generalize twoTx (.node p1 p2 p3 p4) (.node q1 q2 q3 q4) = R at HE
 have HB:=Lib.hid (((Below.refl _ w).alloc (Nat.le_refl _) (.cells #[.string ⟨p1.toArray⟩,.string ⟨p2.toArray⟩,.slice a1 n1 c1,.slice a2 n2 c2] 27)).alloc (by simp) (.cells #[.string ⟨q1.toArray⟩,.string ⟨q2.toArray⟩,.slice a3 n3 c3,.slice a4 n4 c4] 27))
 have HX:=Lib.hid (Box4.made ⟨q1.toArray⟩ ⟨q2.toArray⟩ (.slice a3 n3 c3) (.slice a4 n4 c4) (w.alloc (.cells #[.string ⟨p1.toArray⟩,.string ⟨p2.toArray⟩,.slice a1 n1 c1,.slice a2 n2 c2] 27)))
 have HIQ:=Lib.hid (fun (W : World)=>isText_any q1 ⟨q2.toArray⟩ (.slice a3 n3 c3) (.slice a4 n4 c4) _ rfl W)
 generalize decide (q1 = []) = bq at HE HIQ
 cases hb : decide (p1 = []) with
 | true=>
  have HIP:=Lib.hid (fun (W : World)=>isText_any p1 ⟨p2.toArray⟩ (.slice a1 n1 c1) (.slice a2 n2 c2) true hb W)
  rw [hb] at HE
  clear hb
  obtain ⟨x0,x1,x2,x3⟩:=HX.out.at
  rw [World.size_alloc] at x0 x1 x2 x3
  go_enter Tryz.func94,Tryz.ntmps94
  go_wp2_with fail
  refine (HIP.out _).mono ?_
  rintro e w2 ⟨rfl,hb2⟩
  have HB2:=Lib.hid (HB.out.trans (hb2.mono HB.out.size))
  have HX2:=Lib.hid (HX.out.below hb2 (Nat.le_refl _))
  obtain ⟨y0,y1,y2,y3⟩:=HX2.out.at
  rw [World.size_alloc] at y0 y1 y2 y3
  clear hb2 x0 x1 x2 x3
  go_wp2_with fail
  refine (HIQ.out _).mono ?_
  rintro e w3 ⟨rfl,hb3⟩
  have HB3:=Lib.hid (th HB2.out (Nat.le_refl _) hb3)
  clear hb3 y0 y1 y2 y3
  go_wp2
  go_ret
  exact ⟨by rw [HE.out];cases bq <;> rfl,HB3.out⟩
 | false=>
  have HIP:=Lib.hid (fun (W : World)=>isText_any p1 ⟨p2.toArray⟩ (.slice a1 n1 c1) (.slice a2 n2 c2) false hb W)
  rw [hb] at HE
  clear hb
  go_enter Tryz.func94,Tryz.ntmps94
  go_wp2_with fail
  refine (HIP.out _).mono ?_
  rintro e w2 ⟨rfl,hb2⟩
  have HB2:=Lib.hid (HB.out.trans (hb2.mono HB.out.size))
  clear hb2
  go_wp2
  go_ret
  exact ⟨by rw [HE.out];rfl,HB2.out⟩
theorem enters_twoTx : ∀ args w,(callFunc 94 args).run Tryz.prog w = .ok (.enter 94 args) w:=enters_of Tryz.func94 (by kernel_rfl) rfl
set_option maxRecDepth 10000 in
set_option maxHeartbeats 2000000 in
theorem pairsT_any (al : List Tr) (lk : List (List Value)) (v : Value) (w : World) (hk0 : KidsV w al lk) (hv : AtRow w v al.length 4 lk.flatten) (hn : al.length ≤ 1000000000) :
  Calls Tryz.prog 93 #[v,.func (.func 94) #[] #[]] w fun e w'=>e = .returned (.bool (pairB twoTx al)) ∧ Below w.heap.size w w':=by
 obtain ⟨a,c,ga,off,rfl,ha,hc⟩:=kid_at hk0 hv
 obtain ⟨n,hn1⟩ : ∃ n,n = al.length:=⟨_,rfl⟩
 rw [← hn1] at ha hn ⊢
 have eg:=enters_twoTx
 have HA:=Lib.hid ha
 have HC:=Lib.hid hc
 have HN:=Lib.hid hn1
 clear ha hc hn1 hv hk0
 go_enter Tryz.func93,Tryz.ntmps93
 go_wp2_with fail
 go_loopw [5] (fun i wr=>∃ k : Nat,i = .int .i64 k ∧ 1 ≤ k ∧ (k ≤ n ∨ k = 1) ∧ Hid (∀ (m : Nat) (a b : Tr),m + 1 < k → al[m]? = some a → al[m + 1]? = some b → twoTx a b = false) ∧ Hid (Below w.heap.size w wr)) (fun i _=>n - (intOf i).toNat)
 case atStart=>exact ⟨1,rfl,by omega,.inr rfl,Lib.hid (fun m a b hm=>absurd hm (by omega)),Lib.hid (Below.refl _ _)⟩
 case round=>
  obtain ⟨k,rfl,hk1,hk2,HG,HB⟩:=hrel
  by_cases hlt : k < n
  ·obtain ⟨j,rfl⟩ : ∃ j,k = j + 1:=⟨k - 1,by omega⟩
   obtain rfl:=HA.out (by omega)
   obtain ⟨⟨q1,q2,q3,q4⟩,hq⟩ : ∃ b,al[j + 1]? = some b:=⟨_,List.getElem?_eq_getElem (by rw [← HN.out];omega)⟩
   obtain ⟨⟨p1,p2,p3,p4⟩,hp⟩ : ∃ b,al[j]? = some b:=⟨_,List.getElem?_eq_getElem (by rw [← HN.out];omega)⟩
   obtain ⟨qa,qk,r1,r2,r5,r6,r9⟩:=HC.out _ _ _ _ _ hq
   obtain ⟨pa,pk,r3,r4,r7,r8,r0⟩:=HC.out _ _ _ _ _ hp
   have up : ∀ {p : Addr} {u : Value},w.cell? p = some u → wr.cell? p = some u:=fun h=>(HB.out.cell (block_lt_of_cell h)).trans h
   have s1:=up r1
   have s2:=up r2
   have s3:=up r3
   have s4:=up r4
   have s5:=up r5
   have s6:=up r6
   have s7:=up r7
   have s8:=up r8
   obtain ⟨k,hkj⟩ : ∃ k,k = j + 1:=⟨_,rfl⟩
   rw [← hkj] at s1 s2 s5 s6 hlt
   have hi0 : (0 : Int) ≤ (k : Int):=by omega
   have hi1 : (k : Int) < n:=by omega
   have hj1 : (k : Int) - 1 = (j : Int):=by omega
   have hj2 : IntKind.i64.wrap ((k : Int) - 1) = (j : Int):=by rw [hj1];exact wrap_small _ (by omega) (by omega)
   have hj5 : IntKind.i64.wrap (j : Int) = (j : Int):=wrap_small _ (by omega) (by omega)
   have hj3 : (0 : Int) ≤ (j : Int):=by omega
   have hj4 : (j : Int) < n:=by omega
   have HQ:=Lib.hid hq
   have HPP:=Lib.hid hp
   have HKJ:=Lib.hid hkj
   have HLT:=Lib.hid hlt
   have HNU:=Lib.hid (fun W : World=>twoTx_any p1 p2 p3 p4 pa pk q1 q2 q3 q4 qa qk W (sl_of r0).1 (sl_of r0).2 (sl_of r9).1 (sl_of r9).2)
   have HKS : Hid (∀ W : World,Below wr.heap.size wr W → W.cell? ⟨ga,off + k * 4,none⟩ = some (.string ⟨q1.toArray⟩) ∧ W.cell? ⟨ga,off + k * 4 + 1,none⟩ = some (.string ⟨q2.toArray⟩) ∧ W.cell? ⟨ga,off + k * 4 + 2,none⟩ = some qa ∧ W.cell? ⟨ga,off + k * 4 + 3,none⟩ = some qk ∧ W.cell? ⟨ga,off + j * 4,none⟩ = some (.string ⟨p1.toArray⟩) ∧ W.cell? ⟨ga,off + j * 4 + 1,none⟩ = some (.string ⟨p2.toArray⟩) ∧ W.cell? ⟨ga,off + j * 4 + 2,none⟩ = some pa ∧ W.cell? ⟨ga,off + j * 4 + 3,none⟩ = some pk):=
    Lib.hid (fun W hb=>⟨(hb.cell (block_lt_of_cell s1)).trans s1,(hb.cell (block_lt_of_cell s2)).trans s2,(hb.cell (block_lt_of_cell s5)).trans s5,(hb.cell (block_lt_of_cell s6)).trans s6,(hb.cell (block_lt_of_cell s3)).trans s3,(hb.cell (block_lt_of_cell s4)).trans s4,(hb.cell (block_lt_of_cell s7)).trans s7,(hb.cell (block_lt_of_cell s8)).trans s8⟩)
   rw [← hkj]
   clear r1 r2 r3 r4 r5 r6 r7 r8 r9 r0 up hq hp hk2
   clear hkj
   cases hnu : twoTx (.node p1 p2 p3 p4) (.node q1 q2 q3 q4) with
   | true=>
    rw [hnu] at HNU
    have HNU2:=Lib.hid hnu
    clear hnu
    go_wp2_with fail
    go_region_held3 (fun W=>W.cell? ⟨ga,off + k * 4,none⟩ = some (.string ⟨q1.toArray⟩) ∧ W.cell? ⟨ga,off + k * 4 + 1,none⟩ = some (.string ⟨q2.toArray⟩) ∧ W.cell? ⟨ga,off + k * 4 + 2,none⟩ = some qa ∧ W.cell? ⟨ga,off + k * 4 + 3,none⟩ = some qk ∧ W.cell? ⟨ga,off + j * 4,none⟩ = some (.string ⟨p1.toArray⟩) ∧ W.cell? ⟨ga,off + j * 4 + 1,none⟩ = some (.string ⟨p2.toArray⟩) ∧ W.cell? ⟨ga,off + j * 4 + 2,none⟩ = some pa ∧ W.cell? ⟨ga,off + j * 4 + 3,none⟩ = some pk)
     (first | go_keep | exact HKS.out _ (below_of_drew HB5.out))
     (first
      | (refine (HNU.out _).mono ?_
         rintro e w5 ⟨rfl,hb5⟩
         have HB5:=Lib.hid hb5
         clear hb5)
      | fail)
    go_wp2
    go_ret
    exact ⟨by rw [pairB_at HPP.out HQ.out HNU2.out];rfl,th HB.out (Nat.le_refl _) (below_of_drew HB5.out)⟩
   | false=>
    rw [hnu] at HNU
    have HNU2:=Lib.hid hnu
    have HGN : Hid (∀ (m : Nat) (a b : Tr),m + 1 < k + 1 → al[m]? = some a → al[m + 1]? = some b → twoTx a b = false):=Lib.hid (fun m a b hm h7 h8=>by
     by_cases hmj : m = j
     ·subst hmj
      rw [HPP.out] at h7
      rw [HQ.out] at h8
      injection h7 with h7
      injection h8 with h8
      subst h7 h8
      exact HNU2.out
     ·exact HG.out m a b (by have:=HKJ.out;omega) h7 h8)
    clear hnu
    go_wp2_with fail
    go_region_held3 (fun W=>W.cell? ⟨ga,off + k * 4,none⟩ = some (.string ⟨q1.toArray⟩) ∧ W.cell? ⟨ga,off + k * 4 + 1,none⟩ = some (.string ⟨q2.toArray⟩) ∧ W.cell? ⟨ga,off + k * 4 + 2,none⟩ = some qa ∧ W.cell? ⟨ga,off + k * 4 + 3,none⟩ = some qk ∧ W.cell? ⟨ga,off + j * 4,none⟩ = some (.string ⟨p1.toArray⟩) ∧ W.cell? ⟨ga,off + j * 4 + 1,none⟩ = some (.string ⟨p2.toArray⟩) ∧ W.cell? ⟨ga,off + j * 4 + 2,none⟩ = some pa ∧ W.cell? ⟨ga,off + j * 4 + 3,none⟩ = some pk)
     (first | go_keep | exact HKS.out _ (below_of_drew HB5.out))
     (first
      | (refine (HNU.out _).mono ?_
         rintro e w5 ⟨rfl,hb5⟩
         have HB5:=Lib.hid hb5
         clear hb5)
      | fail)
    have HB6:=Lib.hid (th HB.out (Nat.le_refl _) (below_of_drew HB5.out))
    go_wp2
    exact ⟨⟨k + 1,by go_num,by omega,.inl (by have:=HLT.out;omega),HGN,HB6⟩,by have:=HLT.out;simp [intOf];omega⟩
  ·have HGF : Hid (pairB twoTx al = false):=Lib.hid (pairB_none (fun m a b h7 h8=>HG.out m a b (by have h9:=(List.getElem?_eq_some_iff.1 h8).1;have h0:=HN.out;omega) h7 h8))
   go_wp2
   go_ret
   exact ⟨by rw [HGF.out];rfl,HB.out⟩
theorem KidsV.below {w w' : World} (hb : Below w.heap.size w w') : ∀ {ks : List Tr} {l : List (List Value)},KidsV w ks l → KidsV w' ks l:=by
 intro ks
 induction ks with
 | nil=>intro l h;rw [KidsV] at h ⊢;exact h
 | cons t r ih=>
  intro l h
  rw [KidsV] at h ⊢
  obtain ⟨a,q,h1,h2,h3⟩:=h
  exact ⟨a,q,h1,h2.below hb (Nat.le_refl _),ih h3⟩
set_option maxHeartbeats 1000000 in
theorem order_any (pv : Value) (t : Tr) (hs : List Value) (w : World) (ht : TreeV w t hs) (hf : fitN t) :
  Calls Tryz.prog 89 #[pv,.agg hs.toArray] w fun e w'=>e = .returned (.bool (match t with | .node _ _ al _=>pairB notUp al)) ∧ Below w.heap.size w w':=by
 obtain ⟨lb,tx,al,ks⟩:=t
 rw [TreeV.eq] at ht
 obtain ⟨va,vk,rfl,hat,lk,_,⟨d,c1,rfl,_⟩⟩:=ht
 have hat':=hat
 obtain ⟨a,c,rfl,_⟩:=hat'
 have HCT:=Lib.hid (fun (W : World) (hb : Below w.heap.size w W)=>pairsA_any al _ W (hat.below hb (Nat.le_refl _)) hf.2.2.1)
 show Calls _ _ _ _ fun e w'=>e = .returned (.bool (pairB notUp al)) ∧ _
 generalize pairB notUp al = R at HCT
 clear hat hf
 generalize al.length = n1 at HCT
 generalize ks.length = n2
 have HB:=Lib.hid ((Below.refl _ w).alloc (Nat.le_refl _) (.cells #[.string ⟨lb.toArray⟩,.string ⟨tx.toArray⟩,.slice a n1 c,.slice d n2 c1] 27))
 go_enter Tryz.func89,Tryz.ntmps89
 go_wp2_with fail
 refine (HCT.out _ HB.out).mono ?_
 rintro e w2 ⟨rfl,hb2⟩
 have HB2:=Lib.hid (HB.out.trans (hb2.mono HB.out.size))
 clear hb2
 go_wp2
 go_ret
 exact ⟨rfl,HB2.out⟩
set_option maxHeartbeats 1000000 in
theorem there_any (pv : Value) (t : Tr) (hs : List Value) (w : World) (ht : TreeV w t hs) (hf : fitN t) :
  Calls Tryz.prog 92 #[pv,.agg hs.toArray] w fun e w'=>e = .returned (.bool (match t with | .node _ _ _ ks=>pairB twoTx ks)) ∧ Below w.heap.size w w':=by
 obtain ⟨lb,tx,al,ks⟩:=t
 rw [TreeV.eq] at ht
 obtain ⟨va,vk,rfl,⟨a,c,rfl,_⟩,lk,hk1,hk2⟩:=ht
 have hk2':=hk2
 obtain ⟨d,c1,rfl,_⟩:=hk2'
 have HCT:=Lib.hid (fun (W : World) (hb : Below w.heap.size w W)=>pairsT_any ks lk _ W (KidsV.below hb hk1) (hk2.below hb (Nat.le_refl _)) hf.2.2.2)
 show Calls _ _ _ _ fun e w'=>e = .returned (.bool (pairB twoTx ks)) ∧ _
 generalize pairB twoTx ks = R at HCT
 clear hk1 hk2 hf
 generalize al.length = n1
 generalize ks.length = n2 at HCT
 have HB:=Lib.hid ((Below.refl _ w).alloc (Nat.le_refl _) (.cells #[.string ⟨lb.toArray⟩,.string ⟨tx.toArray⟩,.slice a n1 c,.slice d n2 c1] 27))
 go_enter Tryz.func92,Tryz.ntmps92
 go_wp2_with fail
 refine (HCT.out _ HB.out).mono ?_
 rintro e w2 ⟨rfl,hb2⟩
 have HB2:=Lib.hid (HB.out.trans (hb2.mono HB.out.size))
 clear hb2
 go_wp2
 go_ret
 exact ⟨rfl,HB2.out⟩
end Go.Proofs.YtjldpkhfiffinaaGreatDoor.U
