/- Contracts and plain facts that the law stands on: Ps0, Shelf2, Srt. -/
import Derived.Test.YtjldpkhfiffinaaGreatDoorZC25
import Derived.Test.YtjldpkhfiffinaaGreatDoorZC26
import Derived.Shelf.SlSortCmp.NoneTotal
import Derived.Ground.SlsfProg
import Derived.Test.YtjldpkhfiffinaaGreatDoorProg
import Derived.Shelf.SlSorted.Search
namespace Go.Proofs.YtjldpkhfiffinaaGreatDoor.U
open Go.RowKit Go.Shelf
def wA (al : List (List UInt8 × List UInt8)) : Nat:=(al.map fun a=>1 + a.1.length + a.2.length).sum
def wTok (t : Tok) : Nat:=1 + t.name.length + t.text.length + wA t.attrs
theorem wA_flat : ∀ al : List (List UInt8 × List UInt8),wA al ≤ (al.flatMap attrT).length:=by
 intro al
 induction al with
 | nil=>simp [wA]
 | cons a r ih=>
  rw [List.flatMap_cons,List.length_append]
  have h1:=(escL_len true a.2).1
  have h2 : wA (a :: r) = 1 + a.1.length + a.2.length + wA r:=by simp [wA]
  have h3 : (attrT a).length = a.1.length + (escL true a.2).length + 4:=by unfold attrT;simp;omega
  omega
theorem w1 (x : List UInt8) : wTok ⟨1,[],x,[],false⟩ = 1 + x.length:=by simp [wTok,wA]
theorem w4 (x : List UInt8) : wTok ⟨4,[],x,[],false⟩ ≤ (textT ⟨4,[],x,[],false⟩).length + 5:=by
 have:=(escL_len false x).1
 simp [wTok,wA,textT]
 omega
theorem piece_w {f : Bool} {l : List UInt8} {t : Tok} {n : Nat} (h : pieceL f l = some (t,n)) : wTok t ≤ (textT t).length + 5:=by
 unfold pieceL at h
 split at h
 ·unfold decL at h
  split at h
  ·cases h;rw [w1];simp [textT,sDec1]
  ·split at h
   ·cases h;rw [w1];simp [textT,sDec2,sUtf]
   ·cases h
 ·split at h
  ·unfold comL at h
   split at h
   ·cases h
   ·split at h
    ·cases h;simp [wTok,wA,textT,sCom];omega
    ·cases h
  ·split at h
   ·unfold cdL at h
    split at h
    ·cases h
    ·cases h;exact w4 _
   ·split at h
    ·unfold closeL at h
     simp only at h
     split at h
     ·split at h
      ·cases h;simp [wTok,wA,textT];omega
      ·cases h
     ·cases h
    ·split at h
     ·unfold openL at h
      simp only at h
      split at h
      ·split at h
       ·cases h
       ·next ats em k he=>
        cases h
        have h1:=wA_flat ats
        have h2 : ∀ (x : List UInt8),(textT ⟨2,x,[],ats,em⟩).length = 1 + (x.length + (ats.flatMap attrT).length + (if em = true then [(47 : UInt8),62] else [62]).length):=by
         intro x
         unfold textT
         rw [if_neg (by show ¬ (2 : Int) = 1;decide),if_pos rfl]
         simp only [List.length_cons,List.length_append]
         omega
        have h3 : 1 ≤ (if em = true then [(47 : UInt8),62] else [62]).length:=by cases em <;> simp
        rw [h2]
        unfold wTok
        simp only [List.length_nil]
        omega
      ·cases h
     ·unfold textL at h
      simp only at h
      split at h
      ·cases h
      ·split at h
       ·cases h;exact w4 _
       ·cases h
theorem all_w : ∀ (f p : Nat) (acc : List Tok) (l : List UInt8) (res : List Tok),(∀ t ∈ acc,wTok t ≤ (textT t).length + 5) → allA f p acc l = .ok res → ∀ t ∈ res,wTok t ≤ (textT t).length + 5:=by
 intro f
 induction f with
 | zero=>
  intro p acc l res ha h
  cases l with
  | nil=>
   simp only [allA,Except.ok.injEq] at h
   rw [← h];exact ha
  | cons c r=>
   simp only [allA] at h
   cases h
 | succ f ih=>
  intro p acc l res ha h
  cases l with
  | nil=>
   simp only [allA,Except.ok.injEq] at h
   rw [← h];exact ha
  | cons c r=>
   simp only [allA] at h
   split at h
   ·cases h
   ·rename_i x n hp
    refine ih _ _ _ _ ?_ h
    intro t ht
    rcases List.mem_append.1 ht with h1 | h1
    ·exact ha t h1
    ·obtain rfl:=List.mem_singleton.1 h1
     exact piece_w hp
def sumW (ts : List Tok) : Nat:=(ts.map wTok).sum
theorem sumW_flat : ∀ {ts : List Tok},(∀ t ∈ ts,wTok t ≤ (textT t).length + 5) → sumW ts ≤ (ts.flatMap textT).length + 5 * ts.length:=by
 intro ts
 induction ts with
 | nil=>intro _;simp [sumW]
 | cons t r ih=>
  intro h
  have h1:=ih (fun u hu=>h u (by simp [hu]))
  have h2:=h t (by simp)
  have h3 : sumW (t :: r) = wTok t + sumW r:=by simp [sumW]
  rw [List.flatMap_cons,List.length_append,List.length_cons]
  omega
theorem sumX_w : ∀ ts : List Tok,sumX ts ≤ sumW ts:=by
 intro ts
 induction ts with
 | nil=>simp [sumX,sumW]
 | cons t r ih=>
  have h1 : sumX (t :: r) = t.text.length + sumX r:=by simp [sumX]
  have h2 : sumW (t :: r) = wTok t + sumW r:=by simp [sumW]
  have h3 : t.text.length ≤ wTok t:=by unfold wTok;omega
  omega
theorem mem_w : ∀ {ts : List Tok} {t : Tok},t ∈ ts → wTok t ≤ sumW ts:=by
 intro ts
 induction ts with
 | nil=>intro t h;cases h
 | cons u r ih=>
  intro t h
  have h2 : sumW (u :: r) = wTok u + sumW r:=by simp [sumW]
  rcases List.mem_cons.1 h with rfl | h
  ·omega
  ·have:=ih h;omega
theorem wA_len (al : List (List UInt8 × List UInt8)) : al.length ≤ wA al:=by
 induction al with
 | nil=>simp [wA]
 | cons a r ih=>
  have h2 : wA (a :: r) = 1 + a.1.length + a.2.length + wA r:=by simp [wA]
  rw [List.length_cons];omega
theorem okAll_memX : ∀ {ts : List Tok} {f : Bool},okAll f ts = true → ∀ t ∈ ts,∃ g,okT g t = true:=by
 intro ts
 induction ts with
 | nil=>intro f _ t ht;cases ht
 | cons c r ih=>
  intro f h t ht
  simp only [okAll,Bool.and_eq_true] at h
  rcases List.mem_cons.1 ht with rfl | ht
  ·exact ⟨_,h.1⟩
  ·exact ih h.2 t ht
theorem allT_okX {l : List UInt8} {ts : List Tok} (h : allT l = .ok ts) : Whole l ∧ allL3 (linesL l) = .ok ts ∧ l.length ≤ 65536:=by
 unfold allT at h
 split at h
 ·cases h
 ·split at h
  ·cases h
  ·next h1 h2=>
   have hw : Whole l:=(wholeB_iff l).1 (by
    have:=chkC_le (ints l)
    rw [ints_len] at this
    simp [wholeB];omega)
   cases h3 : allL3 (linesL l) with
   | error p=>rw [h3] at h;cases h
   | ok us=>rw [h3] at h;cases h;exact ⟨hw,rfl,by omega⟩
theorem allT_facts {l : List UInt8} {ts : List Tok} (h : allT l = .ok ts) : ts.length ≤ 65536 ∧ sumW ts ≤ 720896 ∧ okAll true ts = true ∧ (ts.flatMap textT).length ≤ 6 * l.length ∧ (∀ t ∈ ts,(t.kind = 2 → t.name ≠ [] ∧ OneName t.attrs) ∧ t.attrs.length ≤ 1000000 ∧ t.text.length ≤ 1000000):=by
 obtain ⟨hw,h3,hl⟩:=allT_okX h
 have h13:=lines_no13 l
 have hwl:=lines_whole hw
 have hll:=lines_len l
 obtain ⟨_,hok,hfl⟩:=all_few hwl h13 h3
 have hsh:=all_short3 hwl h13 h3
 have hww:=all_w _ _ _ _ _ (fun t ht=>by cases ht) h3
 have hsw:=sumW_flat hww
 refine ⟨by omega,by omega,hok,by omega,fun t ht=>?_⟩
 have h5:=mem_w ht
 have h6 : t.text.length + wA t.attrs ≤ wTok t:=by unfold wTok;omega
 have h7:=wA_len t.attrs
 refine ⟨fun hk=>?_,by omega,by omega⟩
 obtain ⟨g,hg⟩:=okAll_memX hok t ht
 obtain ⟨o1,_,o3⟩:=okT_open hk hg
 exact ⟨fun e=>by rw [e] at o1;exact absurd o1 (by decide),(oneName_of o3).1⟩
mutual
def wT : Tr → Nat
 | .node lb tx al ks=>1 + lb.length + tx.length + wA al + wK ks
def wK : List Tr → Nat
 | []=>0
 | t :: r=>wT t + wK r
end
theorem wK_append : ∀ a b : List Tr,wK (a ++ b) = wK a + wK b:=by
 intro a
 induction a with
 | nil=>intro b;simp [wK]
 | cons t r ih=>intro b;simp [wK,ih];omega
theorem wA_perm {a b : List (List UInt8 × List UInt8)} (h : a.Perm b) : wA a = wA b:=by
 unfold wA
 exact (h.map _).sum_nat
def wF : List Fr → Nat
 | []=>0
 | f :: r=>1 + f.lb.length + wA f.al + wK f.kids + wF r
theorem wF_add (t : Tr) (fs : List Fr) : wF (addTr t fs none).1 + wK (addTr t fs none).2.toList = wF fs + wT t:=by
 cases fs with
 | nil=>simp [addTr,wF,wK]
 | cons f q=>
  simp only [addTr,wF,Option.toList_none,wK]
  rw [wK_append]
  simp [wK]
  omega
theorem wK_addTx (x : List UInt8) (ks : List Tr) : wK (addTx x ks) ≤ wK ks + (1 + x.length):=by
 rcases List.eq_nil_or_concat ks with rfl | ⟨q,t,rfl⟩
 ·simp [addTx,wK,wT,wA]
 ·rw [List.concat_eq_append]
  unfold addTx
  rw [List.getLast?_concat]
  cases t with
  | node lb tx al ks2=>
   cases lb with
   | nil=>
    simp only [List.dropLast_concat]
    rw [wK_append,wK_append]
    simp [wK,wT,wA]
    omega
   | cons c d=>
    simp only
    rw [wK_append]
    simp [wK,wT,wA]
theorem stepA_w {fs fs' : List Fr} {root root' : Option Tr} {t : Tok} (h : FsOk fs root) (hs : stepA fs root t = some (fs',root')) : wF fs' + wK root'.toList ≤ wF fs + wK root.toList + wTok t:=by
 have hw : 1 + t.name.length + t.text.length + wA t.attrs = wTok t:=rfl
 unfold stepA at hs
 split at hs
 ·split at hs
  ·cases hs
  ·next hr=>
   have hroot : root = none:=by simpa using hr
   subst hroot
   split at hs
   ·injection hs with hs
    have h3:=wF_add (.node t.name [] (sortA t.attrs) []) fs
    rw [hs] at h3
    simp only [wT,wK,List.length_nil,Option.toList_none] at h3 ⊢
    rw [wA_perm (sortA_perm t.attrs)] at h3
    omega
   ·injection hs with hs
    simp only [Prod.mk.injEq] at hs
    obtain ⟨rfl,rfl⟩:=hs
    simp only [wF,wK]
    rw [wA_perm (sortA_perm t.attrs)]
    omega
 ·split at hs
  ·cases fs with
   | nil=>cases hs
   | cons f q=>
    have hroot:=h.1 (by simp)
    subst hroot
    simp only at hs
    split at hs
    ·cases hs
    ·injection hs with hs
     have h3:=wF_add (.node f.lb [] f.al f.kids) q
     rw [hs] at h3
     simp only [wT,List.length_nil] at h3
     simp only [wF,wK,Option.toList_none]
     omega
  ·split at hs
   ·cases fs with
    | nil=>
     simp only at hs
     split at hs
     ·cases hs
     ·injection hs with hs
      simp only [Prod.mk.injEq] at hs
      obtain ⟨rfl,rfl⟩:=hs
      omega
    | cons f q=>
     simp only at hs
     split at hs
     ·injection hs with hs
      simp only [Prod.mk.injEq] at hs
      obtain ⟨rfl,rfl⟩:=hs
      omega
     ·injection hs with hs
      simp only [Prod.mk.injEq] at hs
      obtain ⟨rfl,rfl⟩:=hs
      have:=wK_addTx t.text f.kids
      simp only [wF]
      omega
   ·injection hs with hs
    simp only [Prod.mk.injEq] at hs
    obtain ⟨rfl,rfl⟩:=hs
    omega
theorem tree_w : ∀ (l : List Tok) (i : Nat) (fs : List Fr) (root : Option Tr),(∀ t ∈ l,t.kind = 2 → t.name ≠ []) → FsOk fs root → (∀ f ∈ fs,f.lb ≠ []) → ∀ u,treeA i fs root l = .ok u → wT u ≤ wF fs + wK root.toList + sumW l:=by
 intro l
 induction l with
 | nil=>
  intro i fs root _ _ _ u hu
  cases fs with
  | cons f q=>simp [treeA] at hu
  | nil=>
   cases root with
   | none=>simp [treeA] at hu
   | some t=>
    simp only [treeA,Except.ok.injEq] at hu
    rw [← hu]
    simp [wF,wK,sumW]
 | cons t r ih=>
  intro i fs root hn hok hl u hu
  rw [stepA_tree hok] at hu
  cases hs : stepA fs root t with
  | none=>rw [hs] at hu;cases hu
  | some x=>
   obtain ⟨fs',root'⟩:=x
   rw [hs] at hu
   obtain ⟨g1,g2,_⟩:=stepA_ok hok (hn t (by simp)) hl hs
   have h1:=ih (i + 1) fs' root' (fun u hu=>hn u (by simp [hu])) g1 g2 u hu
   have h2:=stepA_w hok hs
   have h3 : sumW (t :: r) = wTok t + sumW r:=by simp [sumW]
   omega
theorem treeL_w {l : List Tok} {u : Tr} (h : ∀ t ∈ l,t.kind = 2 → t.name ≠ []) (hu : treeL l = .ok u) : wT u ≤ sumW l:=by
 have:=tree_w l 0 [] none h ⟨fun h=>absurd rfl h,fun f hf=>by cases hf⟩ (fun f hf=>by cases hf) u hu
 simpa [wF,wK] using this
theorem fit_w (t : Tr) : ∀ d,depthT t ≤ wT t ∧ (nodesT d t).length ≤ wT t ∧ ∀ x ∈ nodesT d t,wT x.2 ≤ wT t:=by
 refine Tr.rec (motive_1:=fun t=>∀ d,depthT t ≤ wT t ∧ (nodesT d t).length ≤ wT t ∧ ∀ x ∈ nodesT d t,wT x.2 ≤ wT t) (motive_2:=fun ks=>∀ d,depthK ks ≤ wK ks ∧ (nodesK d ks).length ≤ wK ks ∧ ∀ x ∈ nodesK d ks,wT x.2 ≤ wK ks) ?_ ?_ ?_ t
 ·intro lb tx al ks ih d
  obtain ⟨h1,h2,h3⟩:=ih (d + 1)
  refine ⟨by simp only [depthT,wT];omega,by rw [nodesT];simp only [List.length_cons,wT];omega,fun x hx=>?_⟩
  rw [nodesT] at hx
  rcases List.mem_cons.1 hx with rfl | hx
  ·exact Nat.le_refl _
  ·have:=h3 x hx;simp only [wT];omega
 ·intro d
  exact ⟨by simp [depthK],by simp [nodesK],fun x hx=>by rw [nodesK] at hx;cases hx⟩
 ·intro t ks ih1 ih2 d
  obtain ⟨h1,h2,h3⟩:=ih1 d
  obtain ⟨k1,k2,k3⟩:=ih2 d
  refine ⟨by simp only [depthK,wK];omega,by rw [nodesK,List.length_append];simp only [wK];omega,fun x hx=>?_⟩
  rw [nodesK] at hx
  simp only [wK]
  rcases List.mem_append.1 hx with hx | hx
  ·have:=h3 x hx;omega
  ·have:=k3 x hx;omega
theorem wK_len : ∀ ks : List Tr,ks.length ≤ wK ks:=by
 intro ks
 induction ks with
 | nil=>simp
 | cons t r ih=>
  have h1 : 1 ≤ wT t:=by obtain ⟨lb,tx,al,js⟩:=t;simp only [wT];omega
  simp only [List.length_cons,wK]
  omega
theorem wA_mem : ∀ {al : List (List UInt8 × List UInt8)} {a : List UInt8 × List UInt8},a ∈ al → a.1.length + a.2.length ≤ wA al:=by
 intro al
 induction al with
 | nil=>intro a h;cases h
 | cons b r ih=>
  intro a h
  have h2 : wA (b :: r) = 1 + b.1.length + b.2.length + wA r:=by simp [wA]
  rcases List.mem_cons.1 h with rfl | h
  ·omega
  ·have:=ih h;omega
theorem fitT_w {t : Tr} (h : wT t ≤ 1000000) : fitT t:=by
 obtain ⟨h1,h2,h3⟩:=fit_w t 0
 refine ⟨by omega,by omega,fun x hx=>?_⟩
 have h4:=h3 x hx
 obtain ⟨d,lb,tx,al,ks⟩:=x
 simp only [wT] at h4
 have h5:=wA_len al
 have h6:=wK_len ks
 exact ⟨by omega,fun a ha=>by have:=wA_mem ha;exact ⟨by omega,by omega⟩,by omega,by omega⟩
def parseX (l : List UInt8) : Except (Nat × Int) Tr:=
 match allT l with
 | .error x=>.error x
 | .ok ts=>match treeL ts with
  | .error i=>.error (i,12)
  | .ok T=>if chkT T = 0 then .ok T else .error (0,chkT T)
theorem parseX_err {l : List UInt8} {x : Nat × Int} (h : allT l = .error x) : parseX l = .error x:=by unfold parseX;rw [h]
theorem parseX_no {l : List UInt8} {ts : List Tok} {i : Nat} (h : allT l = .ok ts) (h2 : treeL ts = .error i) : parseX l = .error (i,12):=by unfold parseX;rw [h];simp only;rw [h2]
theorem parseX_bad {l : List UInt8} {ts : List Tok} {T : Tr} (h : allT l = .ok ts) (h2 : treeL ts = .ok T) (h3 : chkT T ≠ 0) : parseX l = .error (0,chkT T):=by unfold parseX;rw [h];simp only;rw [h2];simp only;rw [if_neg h3]
theorem parseX_ok {l : List UInt8} {ts : List Tok} {T : Tr} (h : allT l = .ok ts) (h2 : treeL ts = .ok T) (h3 : chkT T = 0) : parseX l = .ok T:=by unfold parseX;rw [h];simp only;rw [h2];simp only;rw [if_pos h3]
open Go.Shelf
def S.sortA_ren : Go.Shelf.Ren:=⟨fun | 6=>136 | 15=>162 | 14=>161 | 28=>185 | 29=>186 | 20=>177 | 21=>178 | 22=>179 | 23=>180 | 24=>181 | 25=>182 | 26=>183 | 27=>184 | 46=>197 | 47=>198 | 48=>199 | 49=>200 | 50=>201 | 57=>212 | n=>n,fun | 22=>24 | 24=>82 | 25=>182 | 3=>3 | 39=>187 | 0=>0 | 53=>169 | 55=>236 | 4=>4 | 46=>228 | 45=>227 | 50=>232 | 5=>5 | 9=>9 | 66=>246 | 70=>250 | 76=>270 | 77=>70 | n=>n,fun | n=>n⟩
theorem S.sortA : Go.Proofs.SlLaysF0.n6 Tryz.prog S.sortA_ren:={
 mixed:=by kernel_rfl
 f6:=⟨Tryz.f136.name,by decide,Tryz.func136.trans (congrArg some (by kernel_rfl))⟩
 f14:=⟨Tryz.f161.name,by decide,Tryz.func161.trans (congrArg some (by kernel_rfl))⟩
 f15:=Tryz.func162.trans (congrArg some (by kernel_rfl))
 f20:=⟨Tryz.f177.name,by decide,Tryz.func177.trans (congrArg some (by kernel_rfl))⟩
 f21:=⟨Tryz.f178.name,by decide,Tryz.func178.trans (congrArg some (by kernel_rfl))⟩
 f22:=⟨Tryz.f179.name,by decide,Tryz.func179.trans (congrArg some (by kernel_rfl))⟩
 f23:=⟨Tryz.f180.name,by decide,Tryz.func180.trans (congrArg some (by kernel_rfl))⟩
 f24:=⟨Tryz.f181.name,by decide,Tryz.func181.trans (congrArg some (by kernel_rfl))⟩
 f25:=⟨Tryz.f182.name,by decide,Tryz.func182.trans (congrArg some (by kernel_rfl))⟩
 f26:=⟨Tryz.f183.name,by decide,Tryz.func183.trans (congrArg some (by kernel_rfl))⟩
 f27:=⟨Tryz.f184.name,by decide,Tryz.func184.trans (congrArg some (by kernel_rfl))⟩
 f28:=Tryz.func185.trans (congrArg some (by kernel_rfl))
 f29:=Tryz.func186.trans (congrArg some (by kernel_rfl))
 f46:=⟨Tryz.f197.name,by decide,Tryz.func197.trans (congrArg some (by kernel_rfl))⟩
 f47:=Tryz.func198.trans (congrArg some (by kernel_rfl))
 f48:=Tryz.func199.trans (congrArg some (by kernel_rfl))
 f49:=⟨Tryz.f200.name,by decide,Tryz.func200.trans (congrArg some (by kernel_rfl))⟩
 f50:=⟨Tryz.f201.name,by decide,Tryz.func201.trans (congrArg some (by kernel_rfl))⟩
 f57:=⟨Tryz.f212.name,by decide,Tryz.func212.trans (congrArg some (by kernel_rfl))⟩
 t0:=Tryz.underlying0
 a0:=Tryz.isAgg0
 z0:=Tryz.sizeOf0
 v0:=Tryz.zeroValue0
 t3:=Tryz.underlying3
 a3:=Tryz.isAgg3
 z3:=Tryz.sizeOf3
 v3:=Tryz.zeroValue3
 t4:=Tryz.underlying4
 a4:=Tryz.isAgg4
 z4:=Tryz.sizeOf4
 v4:=Tryz.zeroValue4
 t5:=Tryz.underlying5
 a5:=Tryz.isAgg5
 z5:=Tryz.sizeOf5
 v5:=Tryz.zeroValue5
 t9:=Tryz.underlying9
 a9:=Tryz.isAgg9
 z9:=Tryz.sizeOf9
 v9:=Tryz.zeroValue9
 t22:=Tryz.underlying24
 a22:=Tryz.isAgg24
 z22:=Tryz.sizeOf24
 v22:=Tryz.zeroValue24
 t25:=Tryz.underlying182
 a25:=Tryz.isAgg182
 z25:=Tryz.sizeOf182
 v25:=Tryz.zeroValue182
 t39:=Tryz.underlying187
 a39:=Tryz.isAgg187
 z39:=Tryz.sizeOf187
 v39:=Tryz.zeroValue187
 t45:=Tryz.underlying227
 a45:=Tryz.isAgg227
 z45:=Tryz.sizeOf227
 v45:=Tryz.zeroValue227
 t46:=Tryz.underlying228
 a46:=Tryz.isAgg228
 z46:=Tryz.sizeOf228
 v46:=Tryz.zeroValue228
 t50:=Tryz.underlying232
 a50:=Tryz.isAgg232
 z50:=Tryz.sizeOf232
 v50:=Tryz.zeroValue232
 t53:=Tryz.underlying169
 a53:=Tryz.isAgg169
 z53:=Tryz.sizeOf169
 v53:=Tryz.zeroValue169
 t55:=Tryz.underlying236
 a55:=Tryz.isAgg236
 z55:=Tryz.sizeOf236
 v55:=Tryz.zeroValue236
 t66:=Tryz.underlying246
 a66:=Tryz.isAgg246
 z66:=Tryz.sizeOf246
 v66:=Tryz.zeroValue246
 t70:=Tryz.underlying250
 a70:=Tryz.isAgg250
 z70:=Tryz.sizeOf250
 v70:=Tryz.zeroValue250
 t76:=Tryz.underlying270
 a76:=Tryz.isAgg270
 z76:=Tryz.sizeOf270
 v76:=Tryz.zeroValue270
 t77:=Tryz.underlying70
 a77:=Tryz.isAgg70
 z77:=Tryz.sizeOf70
 v77:=Tryz.zeroValue70 }
open Go.RowKit
theorem nan_str (x : ByteArray) (w : World) : Calls Tryz.prog 163 #[.string x] w fun e w'=>e = .returned (.bool false) ∧ w' = w:=by
 have hl : (x.toList != x.toList) = false:=by simp
 go_enter Tryz.func163,Tryz.ntmps163
 go_wp2
 go_ret
 exact ⟨rfl,rfl⟩
set_option maxHeartbeats 2000000 in
theorem cmp_str (a b : List UInt8) (w : World) : Calls Tryz.prog 138 #[.string ⟨a.toArray⟩,.string ⟨b.toArray⟩] w fun e w'=>e = .returned (.int .i64 (cmpB a b)) ∧ w' = w:=by
 have hab:=less_ltB a b
 have hba:=less_ltB b a
 have HC:=Lib.hid (rfl : cmpB a b = if ltB a b = true then -1 else if ltB b a = true then 1 else 0)
 cases h1 : ltB a b with
 | true=>
  rw [h1] at hab
  have hr : cmpB a b = -1:=by unfold cmpB;rw [if_pos h1]
  rw [hr]
  clear hba h1 hr HC
  go_enter Tryz.func138,Tryz.ntmps138
  go_wp2_with (go_at_call 163;refine (nan_str _ _).mono ?_;rintro e w1 ⟨rfl,rfl⟩)
  go_ret
  exact ⟨rfl,rfl⟩
 | false=>
  rw [h1] at hab
  cases h2 : ltB b a with
  | true=>
   have hle : (Op.bytesLess a b || a == b) = false:=by
    rw [hab,Bool.false_or]
    rw [beq_eq_false_iff_ne]
    rintro rfl
    rw [ltB_irrefl] at h2
    cases h2
   have hne : (a == b) = false:=by rw [hab,Bool.false_or] at hle;exact hle
   have hr : cmpB a b = 1:=by unfold cmpB;rw [if_neg (by rw [h1];simp),if_pos h2]
   rw [hr]
   clear hba h1 hr h2 HC
   go_enter Tryz.func138,Tryz.ntmps138
   go_wp2_with (go_at_call 163;refine (nan_str _ _).mono ?_;rintro e w1 ⟨rfl,rfl⟩)
   go_ret
   exact ⟨rfl,rfl⟩
  | false=>
   have hle : (Op.bytesLess a b || a == b) = true:=by
    have:=ltB_total h2
    rw [hab,Bool.false_or]
    rw [Bool.or_eq_true,h1] at this
    rcases this with h | h
    ·cases h
    ·exact h
   have hne : (a == b) = true:=by rw [hab,Bool.false_or] at hle;exact hle
   have he : a = b:=beq_iff_eq.1 hne
   have hr : cmpB a b = 0:=by unfold cmpB;rw [if_neg (by rw [h1];simp),if_neg (by rw [h2];simp)]
   rw [hr]
   subst he
   clear hba h1 hr h2 HC hne hle
   have hlf : Op.bytesLess a a = false:=hab
   go_enter Tryz.func138,Tryz.ntmps138
   go_wp2_with (go_at_call 163;refine (nan_str _ _).mono ?_;rintro e w1 ⟨rfl,rfl⟩)
   go_ret
   exact ⟨rfl,rfl⟩
open Go.Sort in
set_option maxHeartbeats 2000000 in
theorem byName_any (x y : List UInt8 × List UInt8) (W : World) : Calls Tryz.prog 137 #[.agg (encA x).toArray,.agg (encA y).toArray] W fun e w'=>e = .returned (.int .i64 (cmpB x.1 y.1)) ∧ ∃ q os',w' = grow (W.drewN q) os':=by
 have HC:=Lib.hid (fun W' : World=>cmp_str x.1 y.1 W')
 obtain ⟨r,hr⟩ : ∃ r,r = cmpB x.1 y.1:=⟨_,rfl⟩
 rw [← hr] at HC ⊢
 clear hr
 show Calls Tryz.prog 137 #[.agg #[.string ⟨x.1.toArray⟩,.string ⟨x.2.toArray⟩],.agg #[.string ⟨y.1.toArray⟩,.string ⟨y.2.toArray⟩]] W _
 go_enter Tryz.func137,Tryz.ntmps137
 go_wp2_with (go_at_call 138;refine (HC.out _).mono ?_;rintro e w' ⟨rfl,rfl⟩)
 go_ret
 exact ⟨rfl,0,_,by rw [alloc_eq_grow,alloc_eq_grow,grow_grow];rfl⟩
open Go.Sort in
theorem swoA : SWO (Go.Proofs.ltOf fun x y : List UInt8 × List UInt8=>cmpB x.1 y.1) where
 irrefl x:=by unfold Go.Proofs.ltOf;rw [cmpB_lt];exact ltB_irrefl _
 trans x y z h1 h2:=by unfold Go.Proofs.ltOf at *;rw [cmpB_lt] at *;exact ltB_trans h1 h2
 ntrans x y z h1 h2:=by
  unfold Go.Proofs.ltOf at *
  rw [cmpB_lt] at *
  cases h : ltB x.1 z.1 with
  | false=>rfl
  | true=>
   exfalso
   have h3:=ltB_total h1
   rw [Bool.or_eq_true] at h3
   rcases h3 with h3 | h3
   ·rw [ltB_trans h3 h] at h2;cases h2
   ·rw [beq_iff_eq.1 h3,h] at h2;cases h2
open Go.Sort in
set_option maxHeartbeats 2000000 in
theorem sort_any {base n : Nat} {va : Value} (l : List (List UInt8 × List UInt8)) (hn : l.length = n) (w : World) (h : w.ownsRow base 82 2 va n (attrCells l)) (h1 : OneName l) (hsz : n ≤ 1000000) :
  Calls Tryz.prog 136 #[va,.func (.func 137) #[] #[]] w fun e w'=>e = .returned (.tuple #[]) ∧ w'.ownsRow base 82 2 va n (attrCells (sortA l)) ∧ w.grownBy w' va.ownBlock:=by
 subst hn
 rcases h.2 with ⟨rfl,h0⟩ | ⟨g,cap,cur,rfl,h2,h3,_⟩
 ·have hl : l = []:=List.eq_nil_of_length_eq_zero h0
  subst hl
  have hcon:=AnyF.slices_SortFunc_none S.sortA none 0 (.func (.func 137) #[] #[]) w
  refine hcon.mono ?_
  rintro e w' ⟨rfl,rfl⟩
  exact ⟨rfl,h,⟨rfl,rfl,rfl,Nat.le_refl _,fun _ _ _=>rfl⟩⟩
 ·have eg : ∀ args w,(callFunc 137 args).run Tryz.prog w = .ok (.enter 137 args) w:=enters_of Tryz.func137 (by kernel_rfl) rfl
  have hcon:=AnyQ.slices_SortFunc S.sortA 2 Tryz.isAgg82 Tryz.sizeOf82 encA (fun _=>rfl) (fun x v hv=>by simp [encA] at hv;rcases hv with rfl | rfl <;> rfl) (fun x y=>cmpB x.1 y.1) swoA 137 #[] g 0 cap l.toArray w eg (fun _ _ _ _ x y=>byName_any x y _) (holds_attr h) (Array.getElem?_eq_some_iff.1 h3).1 (by simp;omega)
  refine hcon.mono ?_
  rintro e w' ⟨rfl,d',m,os,hp,hs,rfl⟩
  obtain ⟨hp1,_,hp3⟩:=hp
  have hpl : d'.toList.Perm l:=by
   have e1 : d'.extract 0 l.toArray.size = d':=by rw [← hp1,Array.extract_size]
   have e2 : l.toArray.extract 0 l.toArray.size = l.toArray:=Array.extract_size
   rw [e1,e2] at hp3
   exact hp3
  have hd : d'.toList = sortA l:=by
   refine sortA_only h1 hpl (fun i j hj hi=>?_)
   have hj2 : j < d'.size:=by simpa using hj
   have:=hs i j (Nat.zero_le _) hi (by rw [← hp1];exact hj2)
   rw [getElem!_pos d' j hj2,getElem!_pos d' i (by omega)] at this
   unfold Go.Proofs.ltOf at this
   rw [cmpB_lt] at this
   simpa using this
  obtain ⟨k1,k2⟩:=own_sorted (m:=m) (os:=os) (d:=d'.toList) h hpl.length_eq
  rw [hd] at k1
  have e3 : d'.toList.toArray = d':=by simp
  rw [e3] at k2
  have e4 : (sortA l).toArray = d':=by rw [← hd,e3]
  rw [e4] at k1
  exact ⟨rfl,k1,k2⟩
end Go.Proofs.YtjldpkhfiffinaaGreatDoor.U
