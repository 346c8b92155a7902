/- Contracts and plain facts that the law stands on: Rf, Rg. -/
import Derived.Test.YtjldpkhfiffinaaGreatDoorZC11
import Derived.Test.YtjldpkhfiffinaaGreatDoorZC10
import Derived.Sort.Row
namespace Go.Proofs.YtjldpkhfiffinaaGreatDoor.U
open Go.RowKit
theorem own_last4 {w : World} {base g n cap : Nat} {e : TypeId} {xs : List Value} {z0 z1 z2 z3 : Value} (h : w.ownsRow base e 4 (.slice (some ⟨g,0,none⟩) (n + 1) cap) (n + 1) (xs ++ [z0,z1,z2,z3])) (hl : xs.length = n * 4) (a b c d : Value) :
  ((((w.setCell ⟨g,n * 4,none⟩ a).setCell ⟨g,n * 4 + 1,none⟩ b).setCell ⟨g,n * 4 + 2,none⟩ c).setCell ⟨g,n * 4 + 3,none⟩ d).ownsRow base e 4 (.slice (some ⟨g,0,none⟩) (n + 1) cap) (n + 1) (xs ++ [a,b,c,d]):=by
 have h1:=own_upd (u:=a) h (i:=n * 4) (by omega)
 have h2:=own_upd (u:=b) h1 (i:=n * 4 + 1) (by omega)
 have h3:=own_upd (u:=c) h2 (i:=n * 4 + 2) (by omega)
 have h4:=own_upd (u:=d) h3 (i:=n * 4 + 3) (by omega)
 rw [List.set_append_right _ _ (by omega),List.set_append_right _ _ (by omega),List.set_append_right _ _ (by omega),List.set_append_right _ _ (by omega),hl,Nat.sub_self,Nat.add_sub_cancel_left,Nat.add_sub_cancel_left,Nat.add_sub_cancel_left] at h4
 exact h4
theorem own_frozen {w : World} {base size n g c : Nat} {e : TypeId} {xs : List Value} (h : w.ownsRow base e size (.slice (some ⟨g,0,none⟩) n c) n xs) (i : Nat) : w.frozen? ⟨g,i,none⟩ = false:=by
 rcases h.2 with ⟨h9,_⟩ | ⟨g',cap',cur',e,_,h3,_⟩
 ·cases h9
 ·simp only [Value.slice.injEq,Option.some.injEq,Addr.mk.injEq,and_true,true_and] at e
  obtain ⟨rfl,rfl⟩:=e
  exact Lib.frozen_of_heap h3 i
theorem own_last {w : World} {base g n c : Nat} {e : TypeId} {xs : List Value} {z0 z1 z2 z3 : Value} (h : w.ownsRow base e 4 (.slice (some ⟨g,0,none⟩) (n + 1) c) (n + 1) (xs ++ [z0,z1,z2,z3])) : w.cell? ⟨g,n * 4,none⟩ = some z0 ∧ w.cell? ⟨g,n * 4 + 1,none⟩ = some z1 ∧ w.cell? ⟨g,n * 4 + 2,none⟩ = some z2 ∧ w.cell? ⟨g,n * 4 + 3,none⟩ = some z3:=by
 have hl : xs.length = n * 4:=by
  have:=h.1
  simp only [List.length_append,List.length_cons,List.length_nil] at this
  omega
 have get : ∀ i v,[z0,z1,z2,z3][i]? = some v → w.cell? ⟨g,n * 4 + i,none⟩ = some v:=fun i v hv=>by
  have h9:=h.cells rfl (n * 4 + i) v (by rw [List.getElem?_append_right (by omega),hl,Nat.add_sub_cancel_left];exact hv)
  rw [add_zero_at] at h9
  exact h9
 exact ⟨get 0 _ rfl,get 1 _ rfl,get 2 _ rfl,get 3 _ rfl⟩
open Go.Sort in
theorem setCell_far {W : World} {p g i k : Nat} (h : ¬ p = g) (e a : Value) : (W.setCell ⟨p,i,none⟩ e).setCell ⟨g,k,none⟩ a = (W.setCell ⟨g,k,none⟩ a).setCell ⟨p,i,none⟩ e:=by
 rw [setCell_eq,setCell_eq,setCell_eq,setCell_eq]
 unfold mapBlock
 congr 1
 apply Array.ext_getElem?
 intro n
 simp only [Array.getElem?_modify]
 by_cases h1 : g = n
 ·by_cases h2 : p = n
  ·exact absurd (h2.trans h1.symm) h
  ·simp [h1,h2]
 ·by_cases h2 : p = n
  ·simp [h1,h2]
  ·simp [h1,h2]
theorem setCell_far5 {W : World} {p g i k0 k1 k2 k3 : Nat} (h : ¬ p = g) {e a b c d : Value} : ((((W.setCell ⟨p,i,none⟩ e).setCell ⟨g,k0,none⟩ a).setCell ⟨g,k1,none⟩ b).setCell ⟨g,k2,none⟩ c).setCell ⟨g,k3,none⟩ d = ((((W.setCell ⟨g,k0,none⟩ a).setCell ⟨g,k1,none⟩ b).setCell ⟨g,k2,none⟩ c).setCell ⟨g,k3,none⟩ d).setCell ⟨p,i,none⟩ e:=by
 rw [setCell_far h,setCell_far h,setCell_far h,setCell_far h]
theorem own_setFar {w : World} {base n size b i : Nat} {e : TypeId} {v u : Value} {xs : List Value} (h : w.ownsRow base e size v n xs) (hb : v.ownBlock ≠ some b) : (w.setCell ⟨b,i,none⟩ u).ownsRow base e size v n xs:=
 h.kept (grownBy_setAt w b i u) (.inr hb)
theorem add_fin {ρ : Part} {w w1 WX w3 : World} {base rb g c p m g3 c3 ck n1 c1 n2 c2 : Nat} {ak a1 a2 : Option Addr} {lb tx : ByteArray} {t T : Tr} {r : List Tr} {qs : List Nat} {va : Value} {q : List (Value × Value)} {xs : List Value} (h : RdV ρ w base rb (t :: r) (p :: qs) ((va,.slice ak m ck) :: q) g c)
  (hT : TreeS (fun g=>base ≤ g ∧ ρ g = (0,0)) w T [.string lb,.string tx,.slice a1 n1 c1,.slice a2 n2 c2]) (hm : m = (trK t).length) (hb1 : Below w.heap.size w w1) (hrk : ∀ b,(Value.slice ak m ck).ownBlock = some b → ρ b = (4,r.length)) (hrp : ρ p = (2,r.length)) (hxs : w1.ownsRow base 27 4 (.slice ak m ck) m xs)
  (hgx : w1.grownBy WX none) (ho3 : w3.ownsRow base 27 4 (.slice (some ⟨g3,0,none⟩) (m + 1) c3) (m + 1) (xs ++ [.string ⟨#[]⟩,.string ⟨#[]⟩,.slice none 0 0,.slice none 0 0])) (hg3 : WX.grownBy w3 (Value.slice ak m ck).ownBlock) (hat : (Value.slice (some ⟨g3,0,none⟩) (m + 1) c3).ownBlock = (Value.slice ak m ck).ownBlock ∨ (Value.slice (some ⟨g3,0,none⟩) (m + 1) c3).ownBlock = some WX.heap.size) (hp3 : Box4 p ⟨(trL t).toArray⟩ ⟨(trX t).toArray⟩ va (.slice ak m ck) w3) (hb0 : base ≤ w.heap.size) :
  Below base w (((((w3.setCell ⟨g3,m * 4,none⟩ (.string lb)).setCell ⟨g3,m * 4 + 1,none⟩ (.string tx)).setCell ⟨g3,m * 4 + 2,none⟩ (.slice a1 n1 c1)).setCell ⟨g3,m * 4 + 3,none⟩ (.slice a2 n2 c2)).setCell ⟨p,3,none⟩ (.slice (some ⟨g3,0,none⟩) (m + 1) c3)) ∧
   ∃ ρ' vk',RdV ρ' (((((w3.setCell ⟨g3,m * 4,none⟩ (.string lb)).setCell ⟨g3,m * 4 + 1,none⟩ (.string tx)).setCell ⟨g3,m * 4 + 2,none⟩ (.slice a1 n1 c1)).setCell ⟨g3,m * 4 + 3,none⟩ (.slice a2 n2 c2)).setCell ⟨p,3,none⟩ (.slice (some ⟨g3,0,none⟩) (m + 1) c3)) base rb (.node (trL t) (trX t) (trA t) (trK t ++ [T]) :: r) (p :: qs) ((va,vk') :: q) g c ∧ (∀ b,b < w.heap.size → ρ' b = ρ b) ∧
    ∀ b,b < w.heap.size → b ≠ p → some b ≠ (Value.slice ak m ck).ownBlock → (((((w3.setCell ⟨g3,m * 4,none⟩ (.string lb)).setCell ⟨g3,m * 4 + 1,none⟩ (.string tx)).setCell ⟨g3,m * 4 + 2,none⟩ (.slice a1 n1 c1)).setCell ⟨g3,m * 4 + 3,none⟩ (.slice a2 n2 c2)).setCell ⟨p,3,none⟩ (.slice (some ⟨g3,0,none⟩) (m + 1) c3)).heap[b]? = w.heap[b]?:=by
 obtain ⟨_,hbp,_,_,_,ys,hys⟩:=h.tops
 have hpl:=hbp.lt
 have hbasep : base ≤ p:=by
  obtain ⟨_,_,_,_,_,h6⟩:=h
  rw [OpenP] at h6
  obtain ⟨p0,va0,vk0,qs0,q0,lk,e1,e2,k1,k2,_⟩:=h6
  simp only [List.cons.injEq] at e1
  rw [e1.1]
  exact k2
 have hs1:=hb1.size
 have hsx:=hgx.size
 have hs3:=hg3.size
 have hg3b : base ≤ g3:=(ho3.lt g3 rfl).1
 have hgp : ¬ g3 = p:=fun e=>by
  rcases hat with h9 | h9
  ·have e1:=hrk g3 h9.symm
   rw [e,hrp] at e1
   simp at e1
  ·have e2 : g3 = WX.heap.size:=Option.some.inj h9
   omega
 have hxl : xs.length = m * 4:=hxs.1
 have hys2 : ys = xs:=by
  have h9:=own_bel hys hb1
  rw [← hm] at h9
  exact own_unique h9 hxs
 obtain ⟨W4,hW4⟩ : ∃ W4,W4 = (((w3.setCell ⟨g3,m * 4,none⟩ (.string lb)).setCell ⟨g3,m * 4 + 1,none⟩ (.string tx)).setCell ⟨g3,m * 4 + 2,none⟩ (.slice a1 n1 c1)).setCell ⟨g3,m * 4 + 3,none⟩ (.slice a2 n2 c2):=⟨_,rfl⟩
 rw [← hW4]
 have hown4 : W4.ownsRow base 27 4 (.slice (some ⟨g3,0,none⟩) (m + 1) c3) (m + 1) (xs ++ [.string lb,.string tx,.slice a1 n1 c1,.slice a2 n2 c2]):=by rw [hW4];exact own_last4 ho3 hxl _ _ _ _
 have hb34 : Below base w3 W4:=by
  rw [hW4]
  exact ((((Below.refl base w3).setCell hg3b _).setCell hg3b _).setCell hg3b _).setCell hg3b _
 have heq4 : ∀ k,k ≠ g3 → W4.heap[k]? = w3.heap[k]?:=fun k hk=>by
  rw [hW4,Below.heap_setCell _ ⟨g3,m * 4 + 3,none⟩ _ k (by simpa using hk),Below.heap_setCell _ ⟨g3,m * 4 + 2,none⟩ _ k (by simpa using hk),Below.heap_setCell _ ⟨g3,m * 4 + 1,none⟩ _ k (by simpa using hk),Below.heap_setCell _ ⟨g3,m * 4,none⟩ _ k (by simpa using hk)]
 have hp4 : Box4 p ⟨(trL t).toArray⟩ ⟨(trX t).toArray⟩ va (.slice ak m ck) W4:=(heq4 p (fun e=>hgp e.symm)).trans hp3
 have hsz4 : W4.heap.size = w3.heap.size:=by rw [hW4];simp
 have heqw : ∀ b,b < w.heap.size → b ≠ p → some b ≠ (Value.slice ak m ck).ownBlock → (W4.setCell ⟨p,3,none⟩ (.slice (some ⟨g3,0,none⟩) (m + 1) c3)).heap[b]? = w.heap[b]?:=fun b hb hbp2 hbk=>by
  have hbg : b ≠ g3:=fun e=>by
   rcases hat with h9 | h9
   ·exact hbk (by rw [← h9,e];rfl)
   ·have e2 : g3 = WX.heap.size:=Option.some.inj h9
    omega
  rw [Below.heap_setCell _ ⟨p,3,none⟩ _ b (by simpa using hbp2),heq4 b hbg,hg3.block b (by omega) hbk,hgx.block b (by omega) (by simp),hb1.block b hb]
 have hkid:=RdV.kid (w4:=W4.setCell ⟨p,3,none⟩ (.slice (some ⟨g3,0,none⟩) (m + 1) c3)) (vk':=.slice (some ⟨g3,0,none⟩) (m + 1) c3) h hT (by simp;omega) heqw (by
   rcases hat with h9 | h9
   ·exact .inl h9
   ·exact .inr ⟨WX.heap.size,h9,by omega⟩) (fun zs hz=>by
   have e9 : zs = xs:=by
    have h9:=own_bel hz hb1
    rw [← hm] at h9
    exact own_unique h9 hxs
   rw [e9,← hm]
   exact own_setFar hown4 (fun e=>hgp (Option.some.inj e))) (hp4.setK _)
 obtain ⟨ρ',k1,k2⟩:=hkid
 have hbel : Below base w (W4.setCell ⟨p,3,none⟩ (.slice (some ⟨g3,0,none⟩) (m + 1) c3)):=by
  have b1 : Below base w w1:=hb1.mono hb0
  have b2 : Below base w WX:=b1.grown hgx (by omega) (fun k e=>by cases e)
  have b3 : Below base w w3:=b2.grown hg3 (by omega) (fun k e=>(hxs.lt k e).1)
  exact (b3.trans hb34).setCell hbasep _
 exact ⟨hbel,ρ',_,k1,k2,heqw⟩
set_option maxHeartbeats 4000000 in
set_option maxRecDepth 20000 in
theorem addR_any {ρ : Part} {w : World} {base rb g c p : Nat} {t T : Tr} {r : List Tr} {qs : List Nat} {va vk : Value} {q : List (Value × Value)} {hs : List Value} (h : RdV ρ w base rb (t :: r) (p :: qs) ((va,vk) :: q) g c)
  (hT : TreeS (fun g=>base ≤ g ∧ ρ g = (0,0)) w T hs) (hn : (trK t).length ≤ 1000000) (hb0 : base ≤ w.heap.size) :
  Calls Tryz.prog 139 #[.pointer (some ⟨rb,0,none⟩),.agg hs.toArray] w fun e w'=>e = .returned (.tuple #[]) ∧ Below base w w' ∧ ∃ ρ' vk',RdV ρ' w' base rb (.node (trL t) (trX t) (trA t) (trK t ++ [T]) :: r) (p :: qs) ((va,vk') :: q) g c ∧ (∀ b,b < w.heap.size → ρ' b = ρ b) ∧ ∀ b,b < w.heap.size → b ≠ p → some b ≠ vk.ownBlock → w'.heap[b]? = w.heap[b]?:=by
 obtain ⟨lb,tx,a1,a2,n1,c1,n2,c2,rfl⟩:=hT.four
 obtain ⟨W0,hW0⟩ : ∃ W0,W0 = w.alloc (.cells #[.string lb,.string tx,.slice a1 n1 c1,.slice a2 n2 c2] 27):=⟨_,rfl⟩
 have HB0 : Hid (Below w.heap.size w W0):=Lib.hid (by rw [hW0];exact (Below.refl _ w).alloc (Nat.le_refl _) _)
 have HX0 : Hid (Box4 w.heap.size lb tx (.slice a1 n1 c1) (.slice a2 n2 c2) W0):=Lib.hid (by rw [hW0];exact Box4.made _ _ _ _ _)
 have HR0:=Lib.hid (h.below HB0.out)
 have HTP:=Lib.hid (top_any HR0.out)
 have HH:=Lib.hid h
 have HT:=Lib.hid hT
 obtain ⟨m,hm⟩ : ∃ m,m = (trK t).length:=⟨_,rfl⟩
 rw [← hm] at hn
 have HM:=Lib.hid hm
 clear h hT hm
 go_enter Tryz.func139,Tryz.ntmps139
 go_wp2_with fail
 rw [← hW0]
 clear hW0
 (with_reducible refine HTP.out.mono ?_)
 rintro e w1 ⟨rfl,hb1⟩
 have HB1:=Lib.hid (th HB0.out (Nat.le_refl _) hb1)
 have HX1:=Lib.hid (HX0.out.below hb1 (Nat.le_refl _))
 have HR1:=Lib.hid (HR0.out.below hb1)
 clear hb1
 obtain ⟨_,hbx,_,hrp,hrk,xs,hxs⟩:=HR1.out.tops
 rw [← HM.out] at hxs
 obtain ⟨ak,ck,rfl⟩:=own_sl hxs
 have HXP:=Lib.hid hbx
 have HXS:=Lib.hid hxs
 have HRK:=Lib.hid hrk
 have HRP:=Lib.hid hrp
 obtain ⟨x0,x1,x2,x3⟩:=HXP.out.at
 obtain ⟨y0,y1,y2,y3⟩:=HX1.out.at
 have f3:=HXP.out.thaw 3
 have hm0 : (0 : Int) ≤ m:=by omega
 have hm1 : (m : Int) < (m : Int) + 1:=by omega
 clear hbx hxs hrk hrp
 have HKL : Hid (∀ k,(Value.slice ak m ck).ownBlock = some k → k < w.heap.size ∧ k ≠ p ∧ base ≤ k):=Lib.hid (fun k hk=>by
  obtain ⟨_,_,_,_,_,ys,hys⟩:=HH.out.tops
  refine ⟨(hys.lt k hk).2,fun e=>?_,(hys.lt k hk).1⟩
  have e1:=HRK.out k hk
  rw [e,HRP.out] at e1
  simp at e1)
 obtain ⟨WX,hWX⟩ : ∃ WX,WX = (w1.alloc (.cells #[.string ⟨#[]⟩,.string ⟨#[]⟩,.slice none 0 0,.slice none 0 0] 27)).drew:=⟨_,rfl⟩
 have HGX : Hid (w1.grownBy WX none):=Lib.hid (by rw [hWX];exact ⟨rfl,rfl,rfl,by simp [World.drew],fun k hk _=>by show (w1.heap.push _)[k]? = _;rw [Array.getElem?_push,if_neg (by omega)]⟩)
 have HOX : Hid (WX.ownsRow base 27 4 (.slice ak m ck) m xs):=Lib.hid (by rw [hWX];exact (HXS.out.alloc _).drew)
 have HPX : Hid (Box4 p ⟨(trL t).toArray⟩ ⟨(trX t).toArray⟩ va (.slice ak m ck) WX):=Lib.hid (HXP.out.grown HGX.out (by simp))
 have HTX : Hid (Box4 w.heap.size lb tx (.slice a1 n1 c1) (.slice a2 n2 c2) WX):=Lib.hid (HX1.out.grown HGX.out (by simp))
 have HNX : Hid (∀ j u,[Value.string ⟨#[]⟩,.string ⟨#[]⟩,.slice none 0 0,.slice none 0 0][j]? = some u → WX.cell? ((⟨w1.heap.size,0,none⟩ : Addr).add j) = some u):=Lib.hid (by rw [hWX];exact cell_four_new w1 _ _ _ _ _)
 have HBX : Hid (base ≤ WX.heap.size):=Lib.hid (by have:=HB1.out.size;have:=HGX.out.size;omega)
 have HWX : Hid (WX = (w1.alloc (.cells #[.string ⟨#[]⟩,.string ⟨#[]⟩,.slice none 0 0,.slice none 0 0] 27)).drew):=Lib.hid hWX
 obtain ⟨z0,z1,z2,z3⟩:=HPX.out.at
 obtain ⟨v0,v1,v2,v3⟩:=HTX.out.at
 rw [hWX] at z0 z1 z2 z3 v0 v1 v2 v3
 obtain ⟨i0,hi,hz0,hz1,hz2⟩:=info_parts infoTree
 clear hWX
 go_wp2_with fail
 go_region_law (refine step_append_at rfl (.tmp 10) (.tmp 13) 25 rfl base 27 i0 (.agg #[.string ⟨#[]⟩,.string ⟨#[]⟩,.slice none 0 0,.slice none 0 0]) 4 80 Tryz.underlying25 hi hz0 hz1 hz2 rfl (by decide) (.slice ak m ck) m xs (by first | rfl | (simp [Act.eval];done) | (simp [Act.eval,Act.put];done)) (by rw [← HWX.out];exact HOX.out) ⟨w1.heap.size,0,none⟩ 1 1 [.string ⟨#[]⟩,.string ⟨#[]⟩,.slice none 0 0,.slice none 0 0] (by first | rfl | (simp [Act.eval];done) | (simp [Act.eval,Act.put];done)) rfl (by rw [← HWX.out];exact HNX.out) (by simp [Value.oneCell']) (by unfold maxLen;omega) (by omega) (by rw [← HWX.out];exact HBX.out) ?_;intro v3 w3 hown3 hgrow3 hat3;rw [← HWX.out] at hgrow3 hat3;obtain ⟨g3,c3,rfl,hg3b,hg3l⟩:=hown3.form (by omega);have HO3:=Lib.hid hown3;have HG3:=Lib.hid hgrow3;have HA3:=Lib.hid hat3;have HP3 : Hid (Box4 p ⟨(trL t).toArray⟩ ⟨(trX t).toArray⟩ va (.slice ak m ck) w3):=Lib.hid (HPX.out.grown hgrow3 (fun e=>(HKL.out p e.symm).2.1 rfl));have HT3 : Hid (Box4 w.heap.size lb tx (.slice a1 n1 c1) (.slice a2 n2 c2) w3):=Lib.hid (HTX.out.grown hgrow3 (fun e=>by have:=(HKL.out _ e.symm).1;omega));obtain ⟨q0,q1,q2,q3⟩:=HP3.out.at;obtain ⟨u0,u1,u2,u3⟩:=HT3.out.at;have k3:=HP3.out.thaw 3;have k4 : ∀ i,w3.frozen? ⟨g3,i,none⟩ = false:=(own_frozen hown3);obtain ⟨t0,t1,t2,t3⟩:=own_last hown3;have hpg : ¬ p = g3:=(fun e=>by subst e;exact hat3.elim (fun h9=>(HKL.out p h9.symm).2.1 rfl) (fun h9=>absurd HPX.out.lt (by rw [show p = WX.heap.size from Option.some.inj h9];exact Nat.lt_irrefl _)));have hgp : ¬ g3 = p:=(fun e=>hpg e.symm);clear hown3 hgrow3 hat3)
 all_goals (
  go_wp2
  (try rw [setCell_far5 hpg])
  go_end0
  refine ⟨rfl,?_⟩
  exact add_fin HH.out HT.out HM.out HB1.out HRK.out HRP.out HXS.out HGX.out HO3.out HG3.out HA3.out HP3.out hb0)
open Go.RowKit
def stepA (fs : List Fr) (root : Option Tr) (t : Tok) : Option (List Fr × Option Tr):=
 if t.kind = 2 then (if root.isSome = true then none else if t.empty = true then some (addTr (.node t.name [] (sortA t.attrs) []) fs root) else some (⟨t.name,sortA t.attrs,[]⟩ :: fs,root))
 else if t.kind = 3 then match fs with
  | []=>none
  | f :: q=>if f.lb ≠ t.name then none else some (addTr (.node f.lb [] f.al f.kids) q root)
 else if t.kind = 4 then match fs with
  | []=>if t.text.all (fun b=>blankI b.toNat) = false then none else some ([],root)
  | f :: q=>if t.text = [] then some (f :: q,root) else some (⟨f.lb,f.al,addTx t.text f.kids⟩ :: q,root)
 else some (fs,root)
def FsOk (fs : List Fr) (root : Option Tr) : Prop:=(fs ≠ [] → root = none) ∧ ∀ f ∈ fs,bareK f.kids = true
theorem stepA_tree {fs : List Fr} {root : Option Tr} (h : FsOk fs root) (i : Nat) (t : Tok) (r : List Tok) : treeA i fs root (t :: r) = match stepA fs root t with | none=>.error i | some x=>treeA (i + 1) x.1 x.2 r:=by
 conv=>lhs;unfold treeA
 unfold stepA
 by_cases h2 : t.kind = 2
 ·rw [if_pos h2,if_pos h2]
  by_cases hr : root.isSome = true
  ·rw [if_pos hr]
   have hf : fs = []:=by
    cases fs with
    | nil=>rfl
    | cons f q=>rw [h.1 (by simp)] at hr;cases hr
   rw [if_pos ⟨hr,hf⟩]
  ·rw [if_neg hr,if_neg (fun e=>hr e.1)]
   split <;> rfl
 ·rw [if_neg h2,if_neg h2]
  by_cases h3 : t.kind = 3
  ·rw [if_pos h3,if_pos h3]
   cases fs with
   | nil=>rfl
   | cons f q=>
    simp only
    split <;> rfl
  ·rw [if_neg h3,if_neg h3]
   by_cases h4 : t.kind = 4
   ·rw [if_pos h4,if_pos h4]
    cases fs with
    | nil=>
     simp only
     split <;> rfl
    | cons f q=>
     simp only
     split <;> rfl
   ·rw [if_neg h4,if_neg h4]
theorem stepA_ok {fs fs' : List Fr} {root root' : Option Tr} {t : Tok} (h : FsOk fs root) (hn : t.kind = 2 → t.name ≠ []) (hl : ∀ f ∈ fs,f.lb ≠ []) (hs : stepA fs root t = some (fs',root')) : FsOk fs' root' ∧ (∀ f ∈ fs',f.lb ≠ []) ∧ fs'.length ≤ fs.length + 1:=by
 have add : ∀ (T : Tr) (gs : List Fr),bareA T = true → (∀ f ∈ gs,f ∈ fs) → gs.length ≤ fs.length + 1 → (addTr T gs root) = (fs',root') → FsOk fs' root' ∧ (∀ f ∈ fs',f.lb ≠ []) ∧ fs'.length ≤ fs.length + 1:=by
  intro T gs hT hg hlen e
  cases gs with
  | nil=>
   simp only [addTr,Prod.mk.injEq] at e
   obtain ⟨rfl,rfl⟩:=e
   exact ⟨⟨fun h=>absurd rfl h,fun f hf=>by cases hf⟩,(fun f hf=>by cases hf),by simp⟩
  | cons g q=>
   simp only [addTr,Prod.mk.injEq] at e
   obtain ⟨rfl,rfl⟩:=e
   refine ⟨⟨fun _=>h.1 (List.ne_nil_of_mem (hg g (by simp))),fun f hf=>?_⟩,fun f hf=>?_,by simpa using hlen⟩
   ·rcases List.mem_cons.1 hf with rfl | hf
    ·simp only
     rw [bareK_append,h.2 g (hg g (by simp))]
     simp [bareK,hT]
    ·exact h.2 f (hg f (by simp [hf]))
   ·rcases List.mem_cons.1 hf with rfl | hf
    ·exact hl g (hg g (by simp))
    ·exact hl f (hg f (by simp [hf]))
 unfold stepA at hs
 split at hs
 ·next h2=>
  split at hs
  ·cases hs
  ·next hr=>
   split at hs
   ·injection hs with hs
    exact add _ fs (by simp [bareA,bareK,hn h2]) (fun f hf=>hf) (by omega) hs
   ·injection hs with hs
    simp only [Prod.mk.injEq] at hs
    obtain ⟨rfl,rfl⟩:=hs
    refine ⟨⟨fun _=>by simpa using hr,fun f hf=>?_⟩,fun f hf=>?_,by simp⟩
    ·rcases List.mem_cons.1 hf with rfl | hf
     ·simp [bareK]
     ·exact h.2 f hf
    ·rcases List.mem_cons.1 hf with rfl | hf
     ·exact hn h2
     ·exact hl f hf
 ·split at hs
  ·cases fs with
   | nil=>cases hs
   | cons f q=>
    simp only at hs
    split at hs
    ·cases hs
    ·injection hs with hs
     exact add _ q (by simp [bareA,hl f (by simp),h.2 f (by simp)]) (fun g hg=>by simp [hg]) (by simp;omega) hs
  ·split at hs
   ·cases fs with
    | nil=>
     simp only at hs
     split at hs
     ·cases hs
     ·injection hs with hs
      simp only [Prod.mk.injEq] at hs
      obtain ⟨rfl,rfl⟩:=hs
      exact ⟨h,hl,by simp⟩
    | cons f q=>
     simp only at hs
     split at hs
     ·injection hs with hs
      simp only [Prod.mk.injEq] at hs
      obtain ⟨rfl,rfl⟩:=hs
      exact ⟨h,hl,by simp⟩
     ·injection hs with hs
      simp only [Prod.mk.injEq] at hs
      obtain ⟨rfl,rfl⟩:=hs
      refine ⟨⟨fun _=>h.1 (by simp),fun g hg=>?_⟩,fun g hg=>?_,by simp⟩
      ·rcases List.mem_cons.1 hg with rfl | hg
       ·exact bare_addTx (h.2 f (by simp))
       ·exact h.2 g (by simp [hg])
      ·rcases List.mem_cons.1 hg with rfl | hg
       ·exact hl f (by simp)
       ·exact hl g (by simp [hg])
   ·injection hs with hs
    simp only [Prod.mk.injEq] at hs
    obtain ⟨rfl,rfl⟩:=hs
    exact ⟨h,hl,by omega⟩
def TakePost (base rb j : Nat) (ρ : Part) (w : World) (o : Option (List Fr × Option Tr)) (e : Ending) (w' : World) : Prop:=
 Below base w w' ∧ ((o = none ∧ e = .returned (.bool false) ∧ Below w.heap.size w w') ∨ ∃ fs' root' ρ' ps' vs' g' c',o = some (fs',root') ∧ e = .returned (.bool true) ∧ RdV ρ' w' base rb (stk fs' root') ps' vs' g' c' ∧ ∀ b,b < w.heap.size → Fix j (ρ b) → ρ' b = ρ b ∧ w'.heap[b]? = w.heap[b]?)
theorem RdV.turn {ρ : Part} {w w' : World} {base rb j g c : Nat} {st : List Tr} {ps : List Nat} {vs : List (Value × Value)} (h : RdV ρ w base rb st ps vs g c) (hsz : w.heap.size ≤ w'.heap.size) (heq : ∀ b,b < w.heap.size → ρ b ≠ (5,j) → w'.heap[b]? = w.heap[b]?) :
  RdV (fun b=>if ρ b = (5,j) then (0,0) else ρ b) w' base rb st ps vs g c ∧ RdV ρ w' base rb st ps vs g c:=by
 have hl:=h.lt
 obtain ⟨h1,h2,h3,h4,h5,h6⟩:=h
 have e1:=heq rb hl (by rw [h3];simp)
 have e2:=heq g h4.lt (by rw [h5];simp)
 refine ⟨⟨e1.trans h1,h2,(if_neg (by rw [h3];simp)).trans h3,h4.keep e2,(if_neg (by rw [h5];simp)).trans h5,h6.keep hsz ?_⟩,⟨e1.trans h1,h2,h3,h4.keep e2,h5,h6.keep hsz ?_⟩⟩
 ·intro b _ hb hr
  have hne : ρ b ≠ (5,j):=fun e=>by
   rw [e] at hr
   rcases hr with hr | hr
   ·simp at hr
   ·simp at hr
  exact ⟨if_neg hne,heq b hb hne⟩
 ·intro b _ hb hr
  have hne : ρ b ≠ (5,j):=fun e=>by
   rw [e] at hr
   rcases hr with hr | hr
   ·simp at hr
   ·simp at hr
  exact ⟨rfl,heq b hb hne⟩
theorem RdV.cons {ρ : Part} {w : World} {base rb g c : Nat} {t : Tr} {r : List Tr} {ps : List Nat} {vs : List (Value × Value)} (h : RdV ρ w base rb (t :: r) ps vs g c) : ∃ p qs va vk q,ps = p :: qs ∧ vs = (va,vk) :: q:=by
 obtain ⟨_,_,_,_,_,h6⟩:=h
 rw [OpenP] at h6
 obtain ⟨p,va,vk,qs,q,lk,rfl,rfl,_⟩:=h6
 exact ⟨p,qs,va,vk,q,rfl,rfl⟩
theorem stk_cons (fs : List Fr) (root : Option Tr) : ∃ u r,stk fs root = u :: r ∧ (∀ B,(∀ f ∈ fs,f.kids.length ≤ B) → 1 ≤ B → (trK u).length ≤ B):=by
 cases fs with
 | nil=>
  refine ⟨_,_,rfl,fun B _ hB=>?_⟩
  cases root with
  | none=>simp [trK]
  | some u=>simpa [trK] using hB
 | cons f q=>exact ⟨_,_,rfl,fun B h _=>h f (by simp)⟩
end Go.Proofs.YtjldpkhfiffinaaGreatDoor.U
