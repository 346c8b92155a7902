/- Contracts and plain facts that the law stands on: T4, T7, T8, T9, Rd0. -/
import Derived.Test.YtjldpkhfiffinaaGreatDoorZC08
import Derived.Test.YtjldpkhfiffinaaGreatDoorRows
import Derived.Test.YtjldpkhfiffinaaGreatDoorZC01
import Derived.Test.YtjldpkhfiffinaaGreatDoorZC09
import Derived.Laws.ResultCell
import Derived.Deep.CutBlock
import Derived.Deep.DeepCutAuto
import Derived.Deep.RegionLaw
import Derived.Deep.AppendLies
import Derived.StillTailTactics
import Derived.Laws.AppendOwnNone
import Derived.Deep.QuietTactic
import Derived.BigQuiet
import Derived.Test.YtjldpkhfiffinaaGreatDoorZC03
import Derived.ArgAppend
namespace Go.Proofs.YtjldpkhfiffinaaGreatDoor.U
open Go.RowKit
open Go.RowKit
def fewS (l : List Stp) : Bool:=l.all (fun s=>decide (s.name.length ≤ 100) && decide (s.text.length ≤ 100)) && decide (l.length ≤ 60)
open Go.RowKit
open Go.RowKit
def AtRowS (S : Nat → Prop) (w : World) (v : Value) (n size : Nat) (xs : List Value) : Prop:=
 ∃ a cap,v = .slice a n cap ∧ n ≤ cap ∧ xs.length = n * size ∧ (0 < n → ∃ g off,a = some ⟨g,off,none⟩ ∧ S g ∧ g < w.heap.size ∧ ∀ j u,xs[j]? = some u → w.cell? ⟨g,off + j,none⟩ = some u)
theorem AtRowS.v {S : Nat → Prop} {w : World} {v : Value} {n size : Nat} {xs : List Value} (h : AtRowS S w v n size xs) : AtRow w v n size xs:=by
 obtain ⟨a,c,h1,h2,h3,h4⟩:=h
 exact ⟨a,c,h1,h2,h3,fun h0=>by obtain ⟨g,off,h5,_,_,h6⟩:=h4 h0;exact ⟨g,off,h5,h6⟩⟩
theorem AtRowS.mono {S S' : Nat → Prop} {w : World} {v : Value} {n size : Nat} {xs : List Value} (h : AtRowS S w v n size xs) (hs : ∀ g,S g → g < w.heap.size → S' g) : AtRowS S' w v n size xs:=by
 obtain ⟨a,c,h1,h2,h3,h4⟩:=h
 exact ⟨a,c,h1,h2,h3,fun h0=>by obtain ⟨g,off,h5,h6,h7,h8⟩:=h4 h0;exact ⟨g,off,h5,hs g h6 h7,h7,h8⟩⟩
theorem AtRowS.keep {S : Nat → Prop} {w w' : World} {v : Value} {n size : Nat} {xs : List Value} (h : AtRowS S w v n size xs) (hsz : w.heap.size ≤ w'.heap.size) (hs : ∀ g,S g → g < w.heap.size → w'.heap[g]? = w.heap[g]?) : AtRowS S w' v n size xs:=by
 obtain ⟨a,c,h1,h2,h3,h4⟩:=h
 exact ⟨a,c,h1,h2,h3,fun h0=>by obtain ⟨g,off,h5,h6,h7,h8⟩:=h4 h0;exact ⟨g,off,h5,h6,by omega,fun j u hu=>(World.cell?_of_block (hs g h6 h7)).trans (h8 j u hu)⟩⟩
theorem AtRowS.of_own {S : Nat → Prop} {w : World} {base n size : Nat} {e : TypeId} {v : Value} {xs : List Value} (h : w.ownsRow base e size v n xs) (hs : ∀ g,v.ownBlock = some g → S g) : AtRowS S w v n size xs:=by
 obtain ⟨a,c,h1,h2,h3,h4⟩:=AtRow.of_own h
 subst h1
 refine ⟨a,c,rfl,h2,h3,fun h0=>?_⟩
 obtain ⟨g,off,h5,h6⟩:=h4 h0
 subst h5
 exact ⟨g,off,rfl,hs g rfl,(h.lt g rfl).2,h6⟩
mutual
def TreeS (S : Nat → Prop) (w : World) : Tr → List Value → Prop
 | .node lb tx al ks,hs=>∃ va vk,hs = [.string ⟨lb.toArray⟩,.string ⟨tx.toArray⟩,va,vk] ∧ AtRowS S w va al.length 2 (attrCells al) ∧ ∃ l : List (List Value),KidsS S w ks l ∧ AtRowS S w vk ks.length 4 l.flatten
def KidsS (S : Nat → Prop) (w : World) : List Tr → List (List Value) → Prop
 | [],l=>l = []
 | t :: r,l=>∃ h q,l = h :: q ∧ TreeS S w t h ∧ KidsS S w r q
end
theorem TreeS.eq {S : Nat → Prop} {w : World} {lb tx : List UInt8} {al : List (List UInt8 × List UInt8)} {ks : List Tr} {hs : List Value} : TreeS S w (.node lb tx al ks) hs ↔ ∃ va vk,hs = [.string ⟨lb.toArray⟩,.string ⟨tx.toArray⟩,va,vk] ∧ AtRowS S w va al.length 2 (attrCells al) ∧ ∃ l : List (List Value),KidsS S w ks l ∧ AtRowS S w vk ks.length 4 l.flatten:=by
 rw [TreeS]
theorem TreeS.map {S S' : Nat → Prop} {w w' : World} (hr : ∀ {v : Value} {n size : Nat} {xs : List Value},AtRowS S w v n size xs → AtRowS S' w' v n size xs) (t : Tr) : ∀ hs,TreeS S w t hs → TreeS S' w' t hs:=by
 refine Tr.rec (motive_1:=fun t=>∀ hs,TreeS S w t hs → TreeS S' w' t hs) (motive_2:=fun ks=>∀ l,KidsS S w ks l → KidsS S' w' ks l) ?_ ?_ ?_ t
 ·intro lb tx al ks ih hs h
  rw [TreeS.eq] at h ⊢
  obtain ⟨va,vk,h1,h2,l,h3,h4⟩:=h
  exact ⟨va,vk,h1,hr h2,l,ih l h3,hr h4⟩
 ·intro l h
  rw [KidsS] at h ⊢
  exact h
 ·intro t ks ih1 ih2 l h
  rw [KidsS] at h ⊢
  obtain ⟨a,q,h1,h2,h3⟩:=h
  exact ⟨a,q,h1,ih1 a h2,ih2 q h3⟩
theorem KidsS.map {S S' : Nat → Prop} {w w' : World} (hr : ∀ {v : Value} {n size : Nat} {xs : List Value},AtRowS S w v n size xs → AtRowS S' w' v n size xs) : ∀ {ks : List Tr} {l : List (List Value)},KidsS S w ks l → KidsS S' w' ks l:=by
 intro ks
 induction ks with
 | nil=>intro l h;rw [KidsS] at h ⊢;exact h
 | cons t r ih=>
  intro l h
  rw [KidsS] at h ⊢
  obtain ⟨a,q,h1,h2,h3⟩:=h
  exact ⟨a,q,h1,TreeS.map hr t a h2,ih h3⟩
theorem TreeS.mono {S S' : Nat → Prop} {w : World} {t : Tr} {hs : List Value} (h : TreeS S w t hs) (hm : ∀ g,S g → g < w.heap.size → S' g) : TreeS S' w t hs:=TreeS.map (fun h=>h.mono hm) t hs h
theorem TreeS.keep {S : Nat → Prop} {w w' : World} {t : Tr} {hs : List Value} (h : TreeS S w t hs) (hsz : w.heap.size ≤ w'.heap.size) (hk : ∀ g,S g → g < w.heap.size → w'.heap[g]? = w.heap[g]?) : TreeS S w' t hs:=TreeS.map (fun h=>h.keep hsz hk) t hs h
theorem KidsS.mono {S S' : Nat → Prop} {w : World} {ks : List Tr} {l : List (List Value)} (h : KidsS S w ks l) (hm : ∀ g,S g → g < w.heap.size → S' g) : KidsS S' w ks l:=KidsS.map (fun h=>h.mono hm) h
theorem KidsS.keep {S : Nat → Prop} {w w' : World} {ks : List Tr} {l : List (List Value)} (h : KidsS S w ks l) (hsz : w.heap.size ≤ w'.heap.size) (hk : ∀ g,S g → g < w.heap.size → w'.heap[g]? = w.heap[g]?) : KidsS S w' ks l:=KidsS.map (fun h=>h.keep hsz hk) h
theorem TreeS.v {S : Nat → Prop} {w : World} (t : Tr) : ∀ hs,TreeS S w t hs → TreeV w t hs:=by
 refine Tr.rec (motive_1:=fun t=>∀ hs,TreeS S w t hs → TreeV w t hs) (motive_2:=fun ks=>∀ l,KidsS S w ks l → KidsV w ks l) ?_ ?_ ?_ t
 ·intro lb tx al ks ih hs h
  rw [TreeS.eq] at h
  rw [TreeV.eq]
  obtain ⟨va,vk,h1,h2,l,h3,h4⟩:=h
  exact ⟨va,vk,h1,h2.v,l,ih l h3,h4.v⟩
 ·intro l h
  rw [KidsS] at h
  rw [KidsV]
  exact h
 ·intro t ks ih1 ih2 l h
  rw [KidsS] at h
  rw [KidsV]
  obtain ⟨a,q,h1,h2,h3⟩:=h
  exact ⟨a,q,h1,ih1 a h2,ih2 q h3⟩
theorem KidsS.snoc {S : Nat → Prop} {w : World} {t : Tr} {h : List Value} (ht : TreeS S w t h) : ∀ {ks : List Tr} {l : List (List Value)},KidsS S w ks l → KidsS S w (ks ++ [t]) (l ++ [h]):=by
 intro ks
 induction ks with
 | nil=>
  intro l hl
  rw [KidsS] at hl
  subst hl
  rw [List.nil_append,List.nil_append,KidsS]
  exact ⟨h,[],rfl,ht,by rw [KidsS]⟩
 | cons u r ih=>
  intro l hl
  rw [KidsS] at hl
  obtain ⟨a,q,rfl,h2,h3⟩:=hl
  rw [List.cons_append,List.cons_append,KidsS]
  exact ⟨a,q ++ [h],rfl,h2,ih h3⟩
theorem TreeS.four {S : Nat → Prop} {w : World} {t : Tr} {hs : List Value} (h : TreeS S w t hs) : ∃ (lb tx : ByteArray) (a d : Option Addr) (n c m e : Nat),hs = [.string lb,.string tx,.slice a n c,.slice d m e]:=by
 obtain ⟨lb,tx,al,ks⟩:=t
 rw [TreeS.eq] at h
 obtain ⟨va,vk,h1,⟨a,c,rfl,_⟩,lk,_,⟨d,e,rfl,_⟩⟩:=h
 exact ⟨_,_,a,d,_,c,_,e,h1⟩
theorem step_append_at {P : Program} {ops : Array Oper} {o : Oper} {a : Act} {w : World} {K : Act → World → Prop} {Q : Exit → Act → World → Prop} {E : Prop} (hg : o.guard = none) (s x : Operand) (t : TypeId)
  (ho : o.op = .call { callee:=.builtin .append,args:=#[s,x],argTypes:=#[t,t] })
  (base : Nat) (e : TypeId) (i : TypeInfo) (z : Value) (size bytes : Nat) (ht : P.underlying t = some (.slice e)) (hi : P.info? e = some i) (hz : i.zero = some z)
  (hsize : i.size = size) (hby : i.bytes = bytes) (hzs : z.cells.size = size) (hsz : 0 < size)
  (v : Value) (n : Nat) (xs : List Value) (hs : a.eval s = v) (hown : w.ownsRow base e size v n xs)
  (ad : Addr) (m c : Nat) (news : List Value) (hx : a.eval x = .slice (some ad) m c) (hl : news.length = m * size) (hnews : ∀ j u,news[j]? = some u → w.cell? (ad.add j) = some u) (h1 : ∀ u ∈ news,u.oneCell' = true)
  (h63 : n + m ≤ maxLen) (hbytes : (n + m) * bytes ≤ 140737488355328) (hbase : base ≤ w.heap.size)
  (h : ∀ v' w',w'.ownsRow base e size v' (n + m) (xs ++ news) → w.grownBy w' v.ownBlock → (v'.ownBlock = v.ownBlock ∨ v'.ownBlock = some w.heap.size) → K (a.put o.dst v') w') :
  if Region.wanted o (yielded ops a.tmps) = true then Oper.wp P o a w K Q else E:=by
 have hw : Region.wanted o (yielded ops a.tmps) = true:=by simp [Region.wanted,hg]
 rw [if_pos hw]
 obtain ⟨v',w',hr,h2,h3,_,h5⟩:=run_append_own_at (P:=P) w base t o.type e i z size bytes ht hi hz hsize hby hzs hsz v n xs hown ad m c news hl hnews h1 h63 hbytes hbase
 unfold Oper.wp execOp
 simp only [ho,resolve,invoke,builtin,Sem.run_bind,Sem.run_pure,Result.andThen_ok,List.map_toArray,List.map_cons,List.map_nil,hs,hx,hr]
 exact h v' w' h2 h3 h5
theorem grownBy_setAt (W : World) (b i : Nat) (v : Value) : W.grownBy (W.setCell ⟨b,i,none⟩ v) (some b):=
 ⟨rfl,rfl,rfl,(KeepsWalks.setCell W _ v).size,fun k _ hk=>Below.heap_setCell _ _ _ k (fun e=>hk (by rw [e]))⟩
theorem cell_four_new (w : World) (a b c d : Value) (t : TypeId) : ∀ j u,[a,b,c,d][j]? = some u → (w.alloc (.cells #[a,b,c,d] t)).cell? ((⟨w.heap.size,0,none⟩ : Addr).add j) = some u:=by
 intro j u hj
 match j,hj with
 | 0,hj=>simp at hj;subst hj;simp [Addr.add]
 | 1,hj=>simp at hj;subst hj;simp [Addr.add]
 | 2,hj=>simp at hj;subst hj;simp [Addr.add]
 | 3,hj=>simp at hj;subst hj;simp [Addr.add]
theorem AtRowS.setAt {S : Nat → Prop} {w : World} {v : Value} {n size b i : Nat} {xs : List Value} (h : AtRowS S w v n size xs) (hS : ∀ g,S g → g ≠ b) (c : Value) : AtRowS S (w.setCell ⟨b,i,none⟩ c) v n size xs:=
 h.keep (grownBy_setAt w b i c).size (fun g hg hl=>(grownBy_setAt w b i c).block g hl (fun e=>hS g hg (by cases e;rfl)))
theorem AtRowS.set4 {S : Nat → Prop} {w : World} {v : Value} {n size b : Nat} {xs : List Value} (h : AtRowS S w v n size xs) (hS : ∀ g,S g → g ≠ b) (c0 c1 c2 c3 : Value) :
  AtRowS S ((((w.setCell ⟨b,0,none⟩ c0).setCell ⟨b,1,none⟩ c1).setCell ⟨b,2,none⟩ c2).setCell ⟨b,3,none⟩ c3) v n size xs:=(((h.setAt hS c0).setAt hS c1).setAt hS c2).setAt hS c3
open Go.RowKit
def plainS (s : Stp) : Bool:=
 if s.kind = 1 then decide (s.text = []) else if s.kind = 3 then decide (s.name = []) else decide (s.kind = 2) || (decide (s.kind = 4) && decide (s.name = []) && decide (s.text = []))
theorem Box4.thaw {b : Nat} {lb tx : ByteArray} {va vk : Value} {w : World} (h : Box4 b lb tx va vk w) (i : Nat) : w.frozen? ⟨b,i,none⟩ = false:=Lib.frozen_of_heap h i
theorem Box4.setK {b : Nat} {lb tx : ByteArray} {va vk : Value} {w : World} (h : Box4 b lb tx va vk w) (v : Value) : Box4 b lb tx va v (w.setCell ⟨b,3,none⟩ v):=by
 unfold Box4 at h ⊢
 simp [World.setCell,Array.getElem?_modify,h]
theorem Box4.set4 {b : Nat} {lb tx : ByteArray} {va vk : Value} {w : World} (h : Box4 b lb tx va vk w) (l' t' : ByteArray) (a' k' : Value) :
  Box4 b l' t' a' k' ((((w.setCell ⟨b,0,none⟩ (.string l')).setCell ⟨b,1,none⟩ (.string t')).setCell ⟨b,2,none⟩ a').setCell ⟨b,3,none⟩ k'):=by
 unfold Box4 at h ⊢
 simp [World.setCell,Array.getElem?_modify,h]
theorem below_set4 {n b : Nat} {w w' : World} (h : Below n w w') (hb : n ≤ b) (l' t' : Value) (a' k' : Value) : Below n w ((((w'.setCell ⟨b,0,none⟩ l').setCell ⟨b,1,none⟩ t').setCell ⟨b,2,none⟩ a').setCell ⟨b,3,none⟩ k'):=
 (((h.setCell (p:=⟨b,0,none⟩) hb _).setCell (p:=⟨b,1,none⟩) hb _).setCell (p:=⟨b,2,none⟩) hb _).setCell (p:=⟨b,3,none⟩) hb _
def NodePost (l : List Stp) (p : Nat) (w : World) (e : Ending) (w' : World) : Prop:=
 Below w.heap.size w w' ∧ ∃ (x y : ByteArray) (a d : Option Addr) (n c m f : Nat) (r : Int),e = .returned (.tuple #[.agg #[.string x,.string y,.slice a n c,.slice d m f],.int .i64 r]) ∧
  (r = -1 ∨ ∃ (T : Tr) (k : Nat),r = k ∧ p < k ∧ k ≤ l.length ∧ TreeS (fun g=>w.heap.size ≤ g) w' T [.string x,.string y,.slice a n c,.slice d m f] ∧ bareA T = true ∧ l.take k = l.take p ++ stepsT T)
theorem infoTree : (Tryz.prog.info? 27).map (fun i=>(i.zero,i.size,i.bytes)) = some (some (.agg #[.string ⟨#[]⟩,.string ⟨#[]⟩,.slice none 0 0,.slice none 0 0]),4,80):=by kernel_rfl
def NRel1 (l : List Stp) (n p : Nat) (lb : List UInt8) (lbb : ByteArray) (b0 bt : Nat) (w : World) (q : Nat) (al : List (List UInt8 × List UInt8)) (a5 : Option Addr) (c5 : Nat) (W : World) : Prop:=
 p + 1 ≤ q ∧ q ≤ n ∧ l.take q = l.take p ++ (⟨1,lb,[]⟩ :: al.map attrS) ∧ W.ownsRow (bt + 1) 82 2 (.slice a5 al.length c5) al.length (attrCells al) ∧ Box4 bt lbb ⟨#[]⟩ (.slice a5 al.length c5) (.slice none 0 0) W ∧
  Box4 b0 ⟨#[]⟩ ⟨#[]⟩ (.slice none 0 0) (.slice none 0 0) W ∧ Below w.heap.size w W
def NRel2 (l : List Stp) (n p : Nat) (lb : List UInt8) (lbb : ByteArray) (b0 bt : Nat) (w : World) (q : Nat) (al : List (List UInt8 × List UInt8)) (ks : List Tr) (lk : List (List Value)) (a5 a7 : Option Addr) (c5 c7 : Nat) (W : World) : Prop:=
 p + 1 ≤ q ∧ q ≤ n ∧ l.take q = l.take p ++ (⟨1,lb,[]⟩ :: (al.map attrS ++ stepsK ks)) ∧ bareK ks = true ∧ W.ownsRow (bt + 1) 82 2 (.slice a5 al.length c5) al.length (attrCells al) ∧
  W.ownsRow (bt + 1) 27 4 (.slice a7 ks.length c7) ks.length lk.flatten ∧ KidsS (fun g=>bt + 1 ≤ g ∧ some g ≠ (Value.slice a7 ks.length c7).ownBlock) W ks lk ∧ Box4 bt lbb ⟨#[]⟩ (.slice a5 al.length c5) (.slice a7 ks.length c7) W ∧
  Box4 b0 ⟨#[]⟩ ⟨#[]⟩ (.slice none 0 0) (.slice none 0 0) W ∧ Below w.heap.size w W
def StepsAt (l : List Stp) (g off : Nat) (w : World) : Prop:=∀ k s,l[k]? = some s → w.cell? ⟨g,off + k * 3,none⟩ = some (.int .i64 s.kind) ∧ w.cell? ⟨g,off + k * 3 + 1,none⟩ = some (.string ⟨s.name.toArray⟩) ∧ w.cell? ⟨g,off + k * 3 + 2,none⟩ = some (.string ⟨s.text.toArray⟩)
def RawPost (l : List Stp) (w : World) (e : Ending) (w' : World) : Prop:=
 Below w.heap.size w w' ∧ ∃ (x y : ByteArray) (a d : Option Addr) (n c m f : Nat) (is : Bool),e = .returned (.tuple #[.agg #[.string x,.string y,.slice a n c,.slice d m f],.bool is]) ∧
  (is = true → ∃ T : Tr,TreeS (fun g=>w.heap.size ≤ g) w' T [.string x,.string y,.slice a n c,.slice d m f] ∧ bareA T = true ∧ stepsT T = l)
open Go.RowKit
theorem add_zero_at (b i : Nat) : (⟨b,0,none⟩ : Addr).add i = ⟨b,i,none⟩:=by unfold Addr.add;split <;> simp_all
theorem own_form {w : World} {base size n c : Nat} {a : Option Addr} {e : TypeId} {xs : List Value} (h : w.ownsRow base e size (.slice a n c) n xs) : (a = none ∧ c = 0 ∧ n = 0) ∨ ∃ g,a = some ⟨g,0,none⟩ ∧ (∀ j u,xs[j]? = some u → w.cell? ((⟨g,0,none⟩ : Addr).add j) = some u) ∧ n ≤ c:=by
 rcases h.2 with ⟨h2,h3⟩ | ⟨g',cap,cur,hv,_,_,h3,_⟩
 ·injection h2 with e1 e2 e3
  exact .inl ⟨e1,e3,h3⟩
 ·injection hv with e1 e2 e3
  subst e1 e3
  exact .inr ⟨g',rfl,fun j u hu=>h.cells rfl j u hu,h3⟩
open Go.RowKit
def szX (l : List Tok) : Nat:=(l.map fun t=>t.attrs.length + t.text.length + 2).sum
def XInv (l : List Tok) (k : Nat) (op : List (List UInt8)) (done : Bool) (out : List Stp) : Prop:=
 xmlL l = xmlA k op done out (l.drop k) ∧ out.length + szX (l.drop k) ≤ szX l ∧ op.length ≤ out.length ∧ ∀ s,out.getLast? = some s → s.kind = 3 → s.text.length + szX (l.drop k) ≤ szX l
def strVs (op : List (List UInt8)) : List Value:=op.reverse.map fun x=>.string ⟨x.toArray⟩
theorem own_upd {w : World} {base size n c g i : Nat} {e : TypeId} {u : Value} {xs : List Value} (h : w.ownsRow base e size (.slice (some ⟨g,0,none⟩) n c) n xs) (_hi : i < n * size) : (w.setCell ⟨g,i,none⟩ u).ownsRow base e size (.slice (some ⟨g,0,none⟩) n c) n (xs.set i u):=by
 refine ⟨by rw [List.length_set];exact h.1,?_⟩
 rcases h.2 with ⟨h1,h2⟩ | ⟨g',cap,cur,hv,hb,hg,h3,h4,h5,h6⟩
 ·simp at h1
 ·injection hv with e1 e2 e3
  simp only [Option.some.injEq,Addr.mk.injEq,and_true] at e1
  subst e1 e3
  refine .inr ⟨g,c,cur.set! i u,rfl,hb,?_,h3,h4,by simpa using h5,?_⟩
  ·simp [World.setCell,Array.getElem?_modify,hg]
  ·rw [← h6]
   simp [List.take_set]
def XStepsPost (r : Except Nat (List Stp)) (w : World) (e : Ending) (w' : World) : Prop:=
 Below w.heap.size w w' ∧ ((∃ s a c,r = .ok s ∧ e = .returned (.tuple #[.slice a s.length c,.int .i64 (-1)]) ∧ w'.ownsRow w.heap.size 78 3 (.slice a s.length c) s.length (stepCells s)) ∨
  ∃ i : Nat,r = .error i ∧ e = .returned (.tuple #[.slice none 0 0,.int .i64 i]))
open Go.RowKit
def popT (t : Tr) : List Tr → Option (List Tr)
 | []=>none
 | .node lb tx al ks :: q=>some (.node lb tx al (ks ++ [t]) :: q)
def bStep : List Tr → Stp → Option (List Tr)
 | [],_=>none
 | .node lb tx al ks :: r,s=>
  if s = ⟨1,s.name,[]⟩ ∧ s.name ≠ [] then some (.node s.name [] [] [] :: .node lb tx al ks :: r)
  else if s = ⟨2,s.name,s.text⟩ ∧ r ≠ [] ∧ ks = [] then some (.node lb tx (al ++ [(s.name,s.text)]) ks :: r)
  else if s = ⟨3,[],s.text⟩ then some (.node lb tx al (ks ++ [.node [] s.text [] []]) :: r)
  else if s = ⟨4,[],[]⟩ then popT (.node lb tx al ks) r
  else none
def bAll : List Tr → List Stp → Option (List Tr)
 | st,[]=>some st
 | st,s :: r=>match bStep st s with
  | none=>none
  | some st'=>bAll st' r
def builtL (l : List Stp) : Option Tr:=match bAll [.node [] [] [] []] l with
 | some [.node _ _ _ [t]]=>some t
 | _=>none
def stS : List Tr → List Stp
 | []=>[]
 | [.node _ _ _ ks]=>stepsK ks
 | .node lb _ al ks :: u :: r=>stS (u :: r) ++ (⟨1,lb,[]⟩ :: (al.map attrS ++ stepsK ks))
def stOk : List Tr → Prop
 | []=>False
 | [.node lb tx al ks]=>lb = [] ∧ tx = [] ∧ al = [] ∧ bareK ks = true
 | .node lb tx _ ks :: u :: r=>lb ≠ [] ∧ tx = [] ∧ bareK ks = true ∧ stOk (u :: r)
open Go.RowKit
open Go.RowKit
def trL : Tr → List UInt8 | .node lb _ _ _=>lb
def trX : Tr → List UInt8 | .node _ tx _ _=>tx
def trA : Tr → List (List UInt8 × List UInt8) | .node _ _ al _=>al
def trK : Tr → List Tr | .node _ _ _ ks=>ks
def headOf (t : Tr) (p : Value × Value) : List Value:=[.string ⟨(trL t).toArray⟩,.string ⟨(trX t).toArray⟩,p.1,p.2]
def stCells : List Tr → List (Value × Value) → List Value
 | t :: r,p :: q=>stCells r q ++ headOf t p
 | _,_=>[]
def blk (vs : List (Value × Value)) : List Nat:=vs.flatMap fun p=>p.1.ownBlock.toList ++ p.2.ownBlock.toList
def OpenS (S : Nat → Prop) (w : World) (base : Nat) : List Tr → List (Value × Value) → Prop
 | [],vs=>vs = []
 | t :: r,vs=>∃ va vk q lk,vs = (va,vk) :: q ∧ w.ownsRow base 82 2 va (trA t).length (attrCells (trA t)) ∧ w.ownsRow base 27 4 vk (trK t).length lk.flatten ∧ KidsS S w (trK t) lk ∧ OpenS S w base r q
def StackV (w : World) (base : Nat) (v : Value) (st : List Tr) (vs : List (Value × Value)) : Prop:=
 w.ownsRow base 27 4 v st.length (stCells st vs) ∧ OpenS (fun g=>base ≤ g ∧ g ∉ v.ownBlock.toList ++ blk vs) w base st vs ∧ (v.ownBlock.toList ++ blk vs).Nodup
theorem own_heap {w w' : World} {base size n : Nat} {e : TypeId} {v : Value} {xs : List Value} (h : w.ownsRow base e size v n xs) (hk : ∀ g,v.ownBlock = some g → w'.heap[g]? = w.heap[g]?) : w'.ownsRow base e size v n xs:=by
 refine ⟨h.1,?_⟩
 rcases h.2 with h1 | ⟨g,cap,cur,rfl,h2,h3,h4⟩
 ·exact .inl h1
 ·exact .inr ⟨g,cap,cur,rfl,h2,by rw [hk g rfl];exact h3,h4⟩
theorem own_unique {w : World} {b1 b2 size n : Nat} {e1 e2 : TypeId} {v : Value} {xs ys : List Value} (h : w.ownsRow b1 e1 size v n xs) (k : w.ownsRow b2 e2 size v n ys) : xs = ys:=by
 rcases h.2 with ⟨rfl,rfl⟩ | ⟨g,cap,cur,rfl,_,h3,_,_,_,h7⟩
 ·have e1 : xs = []:=List.eq_nil_of_length_eq_zero (by rw [h.1,Nat.zero_mul])
  have e2 : ys = []:=List.eq_nil_of_length_eq_zero (by rw [k.1,Nat.zero_mul])
  rw [e1,e2]
 ·rcases k.2 with ⟨k1,_⟩ | ⟨g',cap',cur',k1,_,k3,_,_,_,k7⟩
  ·simp at k1
  ·injection k1 with e1 e2 e3
   simp only [Option.some.injEq,Addr.mk.injEq,and_true] at e1
   subst e1
   rw [h3] at k3
   simp only [Option.some.injEq,Obj.cells.injEq] at k3
   rw [← h7,← k7,k3.1]
theorem text_treeS (S : Nat → Prop) (w : World) (x : List UInt8) : TreeS S w (.node [] x [] []) [.string ⟨#[]⟩,.string ⟨x.toArray⟩,.slice none 0 0,.slice none 0 0]:=by
 rw [TreeS.eq]
 exact ⟨_,_,rfl,⟨none,0,rfl,Nat.le_refl _,rfl,fun h=>absurd h (by simp)⟩,[],by rw [KidsS],⟨none,0,rfl,Nat.le_refl _,rfl,fun h=>absurd h (by simp)⟩⟩
open Go.RowKit
abbrev Part:=Nat → Nat × Nat
def ptrV (p : Nat) : Value:=.pointer (some ⟨p,0,none⟩)
def ptrCells (ps : List Nat) : List Value:=ps.reverse.map ptrV
theorem ptrCells_len (ps : List Nat) : (ptrCells ps).length = ps.length:=by simp [ptrCells]
theorem ptrCells_cons (p : Nat) (ps : List Nat) : ptrCells (p :: ps) = ptrCells ps ++ [ptrV p]:=by simp [ptrCells]
def OpenP (ρ : Part) (w : World) (base : Nat) : List Tr → List Nat → List (Value × Value) → Prop
 | [],ps,vs=>ps = [] ∧ vs = []
 | t :: r,ps,vs=>∃ p va vk qs q lk,ps = p :: qs ∧ vs = (va,vk) :: q ∧ Box4 p ⟨(trL t).toArray⟩ ⟨(trX t).toArray⟩ va vk w ∧ base ≤ p ∧ ρ p = (2,r.length) ∧
   w.ownsRow base 82 2 va (trA t).length (attrCells (trA t)) ∧ (∀ g,va.ownBlock = some g → ρ g = (3,r.length)) ∧
   w.ownsRow base 27 4 vk (trK t).length lk.flatten ∧ (∀ g,vk.ownBlock = some g → ρ g = (4,r.length)) ∧
   KidsS (fun g=>base ≤ g ∧ ρ g = (0,0)) w (trK t) lk ∧ OpenP ρ w base r qs q
theorem OpenP.len {ρ : Part} {w : World} {base : Nat} : ∀ {st : List Tr} {ps : List Nat} {vs : List (Value × Value)},OpenP ρ w base st ps vs → ps.length = st.length:=by
 intro st
 induction st with
 | nil=>intro ps vs h;rw [OpenP] at h;rw [h.1];rfl
 | cons t r ih=>
  intro ps vs h
  rw [OpenP] at h
  obtain ⟨p,va,vk,qs,q,lk,rfl,rfl,_,_,_,_,_,_,_,_,h9⟩:=h
  simp [ih h9]
def Still (base n : Nat) (ρ ρ' : Part) (w w' : World) : Prop:=
 ∀ g,base ≤ g → g < w.heap.size → (ρ g = (0,0) ∨ (2 ≤ (ρ g).1 ∧ (ρ g).1 ≤ 4 ∧ (ρ g).2 < n)) → ρ' g = ρ g ∧ w'.heap[g]? = w.heap[g]?
theorem Still.less {base n m : Nat} {ρ ρ' : Part} {w w' : World} (h : Still base n ρ ρ' w w') (hm : m ≤ n) : Still base m ρ ρ' w w':=
 fun g h1 h2 h3=>h g h1 h2 (by rcases h3 with h3 | h3;exact .inl h3;exact .inr ⟨h3.1,h3.2.1,by omega⟩)
theorem kids_still {base n : Nat} {ρ ρ' : Part} {w w' : World} {ks : List Tr} {lk : List (List Value)} (h : KidsS (fun g=>base ≤ g ∧ ρ g = (0,0)) w ks lk) (hsz : w.heap.size ≤ w'.heap.size) (hs : Still base n ρ ρ' w w') : KidsS (fun g=>base ≤ g ∧ ρ' g = (0,0)) w' ks lk:=by
 have k1 : KidsS (fun g=>(base ≤ g ∧ ρ g = (0,0)) ∧ g < w.heap.size) w ks lk:=h.mono (fun g h5 h6=>⟨h5,h6⟩)
 refine (k1.keep hsz (fun g h5 h6=>(hs g h5.1.1 h6 (.inl h5.1.2)).2)).mono (fun g h5 _=>⟨h5.1.1,?_⟩)
 rw [(hs g h5.1.1 h5.2 (.inl h5.1.2)).1]
 exact h5.1.2
theorem tree_still {base n : Nat} {ρ ρ' : Part} {w w' : World} {t : Tr} {hs : List Value} (h : TreeS (fun g=>base ≤ g ∧ ρ g = (0,0)) w t hs) (hsz : w.heap.size ≤ w'.heap.size) (hst : Still base n ρ ρ' w w') : TreeS (fun g=>base ≤ g ∧ ρ' g = (0,0)) w' t hs:=by
 have k1 : TreeS (fun g=>(base ≤ g ∧ ρ g = (0,0)) ∧ g < w.heap.size) w t _:=h.mono (fun g h5 h6=>⟨h5,h6⟩)
 refine (k1.keep hsz (fun g h5 h6=>(hst g h5.1.1 h6 (.inl h5.1.2)).2)).mono (fun g h5 _=>⟨h5.1.1,?_⟩)
 rw [(hst g h5.1.1 h5.2 (.inl h5.1.2)).1]
 exact h5.1.2
theorem OpenP.keep {base : Nat} {ρ ρ' : Part} {w w' : World} (hsz : w.heap.size ≤ w'.heap.size) : ∀ {st : List Tr} {ps : List Nat} {vs : List (Value × Value)},OpenP ρ w base st ps vs → Still base st.length ρ ρ' w w' → OpenP ρ' w' base st ps vs:=by
 intro st
 induction st with
 | nil=>intro ps vs h _;rw [OpenP] at h ⊢;exact h
 | cons t r ih=>
  intro ps vs h hs
  rw [OpenP] at h ⊢
  obtain ⟨p,va,vk,qs,q,lk,rfl,rfl,h1,h2,h3,h4,h5,h6,h7,h8,h9⟩:=h
  have own : ∀ {e : TypeId} {size n : Nat} {v : Value} {xs : List Value} {i : Nat},w.ownsRow base e size v n xs → 2 ≤ i → i ≤ 4 → (∀ g,v.ownBlock = some g → ρ g = (i,r.length)) → w'.ownsRow base e size v n xs ∧ (∀ g,v.ownBlock = some g → ρ' g = (i,r.length)):=fun {e size n v xs i} ho hi1 hi2 hr=>by
   have k : ∀ g,v.ownBlock = some g → ρ' g = ρ g ∧ w'.heap[g]? = w.heap[g]?:=fun g hg=>by
    have:=ho.lt g hg
    have e1:=hr g hg
    exact hs g this.1 this.2 (.inr (by rw [e1];exact ⟨hi1,hi2,by simp⟩))
   exact ⟨own_heap ho (fun g hg=>(k g hg).2),fun g hg=>by rw [(k g hg).1];exact hr g hg⟩
  obtain ⟨a1,a2⟩:=own h4 (by omega) (by omega) h5
  obtain ⟨k1,k2⟩:=own h6 (by omega) (by omega) h7
  have hp:=hs p h2 h1.lt (.inr (by rw [h3];exact ⟨by simp,by simp,by simp⟩))
  exact ⟨p,va,vk,qs,q,lk,rfl,rfl,hp.2.trans h1,h2,by rw [hp.1];exact h3,a1,a2,k1,k2,kids_still h8 hsz hs,ih h9 (hs.less (by simp))⟩
def RowP (w : World) (base g n c : Nat) (xs : List Value) : Prop:=
 ∃ cur : Array Value,w.heap[g]? = some (.cells cur 122 (0,0)) ∧ base ≤ g ∧ n ≤ c ∧ c ≤ cur.size ∧ c ≤ maxLen ∧ xs.length = n ∧ cur.toList.take n = xs ∧ (c = n ∨ cur.size = c)
theorem RowP.lt {w : World} {base g n c : Nat} {xs : List Value} (h : RowP w base g n c xs) : g < w.heap.size:=by
 obtain ⟨cur,h1,_⟩:=h
 exact (Array.getElem?_eq_some_iff.1 h1).1
theorem RowP.keep {w w' : World} {base g n c : Nat} {xs : List Value} (h : RowP w base g n c xs) (hk : w'.heap[g]? = w.heap[g]?) : RowP w' base g n c xs:=by
 obtain ⟨cur,h1,h2⟩:=h
 exact ⟨cur,hk.trans h1,h2⟩
theorem RowP.cell {w : World} {base g n c : Nat} {xs : List Value} (h : RowP w base g n c xs) (j : Nat) (u : Value) (hu : xs[j]? = some u) : w.cell? ⟨g,j,none⟩ = some u:=by
 obtain ⟨cur,h1,_,_,_,_,_,h7,_⟩:=h
 rw [Lib.cell_of_heap h1,← Array.getElem?_toList]
 rw [← h7,List.getElem?_take] at hu
 split at hu
 ·exact hu
 ·cases hu
theorem RowP.cut {w : World} {base g n c m : Nat} {xs : List Value} (h : RowP w base g n c xs) (hm : m ≤ n) : RowP w base g m m (xs.take m):=by
 obtain ⟨cur,h1,h2,h3,h4,h5,h6,h7,_⟩:=h
 refine ⟨cur,h1,h2,Nat.le_refl _,by omega,by omega,by rw [List.length_take];omega,?_,.inl rfl⟩
 rw [← h7,List.take_take,Nat.min_eq_left hm]
theorem RowP.of_own {w : World} {base n : Nat} {v : Value} {xs : List Value} (h : w.ownsRow base 122 1 v n xs) (hn : 0 < n) : ∃ g c,v = .slice (some ⟨g,0,none⟩) n c ∧ RowP w base g n c xs:=by
 obtain ⟨h0,h⟩:=h
 rcases h with ⟨_,h⟩ | ⟨g,cap,cur,rfl,h2,h3,h4,h5,h6,h7⟩
 ·omega
 ·exact ⟨g,cap,rfl,cur,h3,h2,h4,by omega,h5,by omega,by rw [Nat.mul_one] at h7;exact h7,.inr (by omega)⟩
theorem RowP.own {w : World} {base g n c : Nat} {xs : List Value} (h : RowP w base g n c xs) (hc : c ≠ n) : w.ownsRow base 122 1 (.slice (some ⟨g,0,none⟩) n c) n xs:=by
 obtain ⟨cur,h1,h2,h3,h4,h5,h6,h7,h8⟩:=h
 refine ⟨by omega,.inr ⟨g,c,cur,rfl,h2,h1,h3,h5,?_,by rw [Nat.mul_one];exact h7⟩⟩
 rcases h8 with h8 | h8
 ·exact absurd h8 hc
 ·omega
theorem wpList_append_rowP {P : Program} {ops : Array Oper} {rest : List Oper} {o : Oper} {a : Act} {w : World} {Q : Exit → Act → World → Prop} (hgd : o.guard = none) (s x : Operand) (t : TypeId)
  (ho : o.op = .call { callee:=.builtin .append,args:=#[s,x],argTypes:=#[t,t] })
  (base : Nat) (i : TypeInfo) (z : Value) (bytes : Nat) (ht : P.underlying t = some (.slice 122)) (hi : P.info? 122 = some i) (hz : i.zero = some z)
  (hsize : i.size = 1) (hby : i.bytes = bytes) (hzs : z.cells.size = 1)
  (g n c : Nat) (xs : List Value) (hs : a.eval s = .slice (some ⟨g,0,none⟩) n c) (hrow : RowP w base g n c xs)
  (ad : Addr) (c2 : Nat) (u : Value) (hx : a.eval x = .slice (some ad) 1 c2) (hnews : w.cell? (ad.add 0) = some u) (h1 : u.oneCell' = true)
  (h63 : n + 1 ≤ maxLen) (hbytes : (n + 1) * bytes ≤ 140737488355328) (hbase : base ≤ w.heap.size)
  (h : ∀ g' c' w',RowP w' base g' (n + 1) c' (xs ++ [u]) → w.grownBy w' (some g) → (g' = g ∨ w.heap.size ≤ g') → wpList P ops Q rest (a.put o.dst (.slice (some ⟨g',0,none⟩) (n + 1) c')) w') : wpList P ops Q (o :: rest) a w:=by
 have hn1 : ∀ j v,[u][j]? = some v → w.cell? (ad.add j) = some v:=fun j v hj=>by
  match j,hj with
  | 0,hj=>simp at hj;subst hj;exact hnews
 by_cases hc : c = n
 ·subst hc
  obtain ⟨cur,k1,k2,k3,k4,k5,k6,k7,k8⟩:=hrow
  refine wpList_append_grows w hgd s x t ho 122 i z 1 bytes ht hi hz hsize hby hzs (by decide) (some ⟨g,0,none⟩) c c xs hs (fun e=>by cases e) (by omega) ?_ ad 1 c2 [u] hx rfl hn1 (by simpa using h1) (by omega) h63 hbytes ?_
  ·intro b e j v hj
   obtain rfl:=Option.some.inj e
   rw [add_zero_at]
   exact RowP.cell ⟨cur,k1,k2,k3,k4,k5,k6,k7,k8⟩ j v hj
  ·intro v' w' hown hg
   have hgw : w.grownBy w' (some g):=⟨hg.os,hg.tape,hg.output,hg.size,fun k h5 _=>hg.block k h5 (by simp)⟩
   obtain ⟨g',c',rfl,hr⟩:=RowP.of_own hown (by omega)
   obtain ⟨cur',l1,l2,l3⟩:=hr
   exact h g' c' w' ⟨cur',l1,by omega,l3⟩ hgw (.inr l2)
 ·have hown:=hrow.own hc
  refine wpList_append_own_at w hgd s x t ho base 122 i z 1 bytes ht hi hz hsize hby hzs (by decide) _ n xs hs hown ad 1 c2 [u] hx rfl hn1 (by simpa using h1) h63 hbytes hbase ?_
  intro v' w' hown' hg _ hat
  obtain ⟨g',c',rfl,hr⟩:=RowP.of_own hown' (by omega)
  refine h g' c' w' hr hg ?_
  rcases hat with hat | hat
  ·left;simpa [Value.ownBlock] using hat
  ·right;simp [Value.ownBlock] at hat;omega
def RdV (ρ : Part) (w : World) (base rb : Nat) (st : List Tr) (ps : List Nat) (vs : List (Value × Value)) (g c : Nat) : Prop:=
 w.heap[rb]? = some (.cells #[.slice (some ⟨g,0,none⟩) st.length c] 125 (0,0)) ∧ base ≤ rb ∧ ρ rb = (6,0) ∧ RowP w base g st.length c (ptrCells ps) ∧ ρ g = (1,0) ∧ OpenP ρ w base st ps vs
def Fix (j : Nat) (r : Nat × Nat) : Prop:=r = (7,0) ∨ (r.1 = 5 ∧ r.2 ≠ j)
def StepR (base j : Nat) (ρ ρ' : Part) (w w' : World) : Prop:=
 Below base w w' ∧ w.heap.size ≤ w'.heap.size ∧ ∀ g,base ≤ g → g < w.heap.size → Fix j (ρ g) → ρ' g = ρ g ∧ w'.heap[g]? = w.heap[g]?
end Go.Proofs.YtjldpkhfiffinaaGreatDoor.U
