/- Contracts and plain facts that the law stands on: Rx, Rr. -/
import Derived.Test.YtjldpkhfiffinaaGreatDoorZC12
import Derived.Test.YtjldpkhfiffinaaGreatDoorZC04
import Derived.Test.YtjldpkhfiffinaaGreatDoorZC16
import Derived.Test.YtjldpkhfiffinaaGreatDoorZC18
import Derived.Test.YtjldpkhfiffinaaGreatDoorZC09
import Derived.Test.YtjldpkhfiffinaaGreatDoorZC25
import Derived.Test.YtjldpkhfiffinaaGreatDoorZC28
import Derived.Test.YtjldpkhfiffinaaGreatDoorZC29
namespace Go.Proofs.YtjldpkhfiffinaaGreatDoor.U
open Go.RowKit Go.Shelf
set_option maxHeartbeats 1000000 in
theorem isTextX_any (lb : List UInt8) (tx : ByteArray) (va vk : Value) (b : Bool) (hb : decide (lb = []) = b) (w : World) :
  Calls Tryz.prog 40 #[.agg #[.string ⟨lb.toArray⟩,.string tx,va,vk]] w fun e w'=>e = .returned (.bool b) ∧ Below w.heap.size w w':=by
 have h1:=emp_iff lb
 rw [hb] at h1
 generalize (⟨lb.toArray⟩ : ByteArray) = lbb at h1
 have HB:=Lib.hid ((Below.refl _ w).alloc (Nat.le_refl _) (.cells #[.string lbb,.string tx,va,vk] 27))
 clear hb
 go_enter Tryz.func40,Tryz.ntmps40
 go_wp2
 go_ret
 exact ⟨rfl,HB.out⟩
theorem RdV.last {ρ : Part} {w : World} {base rb g c p : Nat} {t T : Tr} {r : List Tr} {qs : List Nat} {va vk : Value} {q : List (Value × Value)} {ks : List Tr} (h : RdV ρ w base rb (t :: r) (p :: qs) ((va,vk) :: q) g c) (hk : trK t = ks ++ [T]) :
  ∃ b cc va2 vk2,vk = .slice (some ⟨b,0,none⟩) (ks.length + 1) cc ∧ w.cell? ⟨b,ks.length * 4,none⟩ = some (.string ⟨(trL T).toArray⟩) ∧ w.cell? ⟨b,ks.length * 4 + 1,none⟩ = some (.string ⟨(trX T).toArray⟩) ∧ w.cell? ⟨b,ks.length * 4 + 2,none⟩ = some va2 ∧ w.cell? ⟨b,ks.length * 4 + 3,none⟩ = some vk2 ∧ (∀ i,w.frozen? ⟨b,i,none⟩ = false) ∧ base ≤ b:=by
 obtain ⟨_,_,_,_,_,h6⟩:=h
 rw [OpenP] at h6
 obtain ⟨p0,va0,vk0,qs0,q0,lk,e1,e2,k1,k2,k3,k4,k5,k6,k7,k8,k9⟩:=h6
 simp only [List.cons.injEq,Prod.mk.injEq] at e1 e2
 obtain ⟨rfl,rfl⟩:=e1
 obtain ⟨⟨rfl,rfl⟩,rfl⟩:=e2
 rw [hk] at k6 k8
 obtain ⟨lq,hs,rfl,l1,l2,l3⟩:=k8.split
 obtain ⟨lb,tx,al,js⟩:=T
 rw [TreeS.eq] at l2
 obtain ⟨va2,vk2,rfl,l4,l5⟩:=l2
 obtain ⟨b,cc,rfl,hb1,_⟩:=k6.form (by simp)
 have hc:=k6.cells rfl
 have lcell : ∀ i v,([.string ⟨lb.toArray⟩,.string ⟨tx.toArray⟩,va2,vk2] : List Value)[i]? = some v → w.cell? ⟨b,ks.length * 4 + i,none⟩ = some v:=fun i v hi=>by
  have h9:=hc (ks.length * 4 + i) v (by
   rw [List.flatten_append,List.getElem?_append_right (by omega),l3,Nat.add_sub_cancel_left,List.flatten_singleton]
   exact hi)
  rw [add_zero_at] at h9
  exact h9
 exact ⟨b,cc,va2,vk2,by simp,lcell 0 _ rfl,lcell 1 _ rfl,lcell 2 _ rfl,lcell 3 _ rfl,own_frozen k6,hb1⟩
set_option maxHeartbeats 4000000 in
set_option maxRecDepth 20000 in
theorem takeText_out {ρ : Part} {w : World} {base rb g c j : Nat} {root : Option Tr} {ps : List Nat} {vs : List (Value × Value)} (t : Tok) (va : Value) (h : RdV ρ w base rb (stk [] root) ps vs g c) (hk : t.kind = 4) (hb0 : base ≤ w.heap.size) :
  Calls Tryz.prog 111 #[.pointer (some ⟨rb,0,none⟩),tokV t va] w fun e w'=>TakePost base rb j ρ w (stepA [] root t) e w':=by
 obtain ⟨ki,nm,tx,al,em⟩:=t
 simp only at hk
 subst hk
 unfold tokV tokCells
 simp only
 obtain ⟨W0,hW0⟩ : ∃ W0,W0 = w.alloc (.cells #[.int .i64 4,.string ⟨nm.toArray⟩,.string ⟨tx.toArray⟩,va,.bool em] 119):=⟨_,rfl⟩
 have HB0 : Hid (Below w.heap.size w W0):=Lib.hid (by rw [hW0];exact (Below.refl _ w).alloc (Nat.le_refl _) _)
 have HX0 : Hid (BoxK w.heap.size 4 ⟨nm.toArray⟩ ⟨tx.toArray⟩ va em W0):=Lib.hid (by rw [hW0];exact BoxK.made _ _ _ _ _ _)
 have HR0:=Lib.hid (h.below HB0.out)
 have HH:=Lib.hid h
 have HOU : Hid (Calls Tryz.prog 140 #[.pointer (some ⟨rb,0,none⟩)] W0 fun e w'=>e = .returned (.bool true) ∧ Below W0.heap.size W0 w'):=Lib.hid (outside_any HR0.out)
 have HBL : Hid (∀ W : World,Calls Tryz.prog 141 #[.string ⟨tx.toArray⟩] W fun e w'=>e = .returned (.bool (tx.all fun b=>blankI b.toNat)) ∧ Below W.heap.size W w'):=Lib.hid (fun W=>by
  have h9:=blankS_any ⟨tx.toArray⟩ W
  rw [bts_mk] at h9
  exact h9)
 obtain ⟨bl,hbl⟩ : ∃ bl,bl = tx.all fun b=>blankI b.toNat:=⟨_,rfl⟩
 rw [← hbl] at HBL
 have HBB:=Lib.hid hbl
 clear h hbl
 go_enter Tryz.func111,Tryz.ntmps111
 go_wp2_with fail
 rw [← hW0]
 clear hW0
 (with_reducible refine HOU.out.mono ?_)
 rintro e w1 ⟨rfl,hb1⟩
 have HX1:=Lib.hid (HX0.out.below hb1)
 have HB1:=Lib.hid (th HB0.out (Nat.le_refl _) hb1)
 obtain ⟨y0,y1,y2,y3,y4,_⟩:=HX1.out.at
 clear hb1
 go_wp2_with fail
 (with_reducible refine (HBL.out _).mono ?_)
 rintro e w2 ⟨rfl,hb2⟩
 have HB2:=Lib.hid (th HB1.out (Nat.le_refl _) hb2)
 clear hb2 y0 y1 y2 y3 y4
 go_wp2
 go_ret
 cases bl with
 | false=>exact ⟨HB2.out.mono hb0,.inl ⟨by simp only [stepA];rw [if_neg (by decide),if_neg (by decide),if_pos trivial,if_pos HBB.out.symm],rfl,HB2.out⟩⟩
 | true=>exact ⟨HB2.out.mono hb0,.inr ⟨[],root,ρ,ps,vs,g,c,by simp only [stepA];rw [if_neg (by decide),if_neg (by decide),if_pos trivial,if_neg (by rw [← HBB.out];decide)],rfl,HH.out.below HB2.out,fun b hb _=>⟨rfl,HB2.out.block b hb⟩⟩⟩
set_option maxHeartbeats 4000000 in
set_option maxRecDepth 20000 in
theorem takeText_in {ρ : Part} {w : World} {base rb g c j : Nat} {root : Option Tr} {f : Fr} {q : List Fr} {ps : List Nat} {vs : List (Value × Value)} (t : Tok) (va : Value) (h : RdV ρ w base rb (stk (f :: q) root) ps vs g c) (hk : t.kind = 4) (hb0 : base ≤ w.heap.size) (hkl : f.kids.length ≤ 1000000) (hbk : bareK f.kids = true) (hxl : t.text.length ≤ 1000000) (hkt : ∀ T ∈ f.kids,(trX T).length ≤ 1000000) :
  Calls Tryz.prog 111 #[.pointer (some ⟨rb,0,none⟩),tokV t va] w fun e w'=>TakePost base rb j ρ w (stepA (f :: q) root t) e w':=by
 obtain ⟨ki,nm,tx,al,em⟩:=t
 simp only at hk hxl
 subst hk
 unfold tokV tokCells
 simp only
 obtain ⟨W0,hW0⟩ : ∃ W0,W0 = w.alloc (.cells #[.int .i64 4,.string ⟨nm.toArray⟩,.string ⟨tx.toArray⟩,va,.bool em] 119):=⟨_,rfl⟩
 have HB0 : Hid (Below w.heap.size w W0):=Lib.hid (by rw [hW0];exact (Below.refl _ w).alloc (Nat.le_refl _) _)
 have HX0 : Hid (BoxK w.heap.size 4 ⟨nm.toArray⟩ ⟨tx.toArray⟩ va em W0):=Lib.hid (by rw [hW0];exact BoxK.made _ _ _ _ _ _)
 have hstk : stk (f :: q) root = .node f.lb [] f.al f.kids :: stk q root:=rfl
 have HH0:=Lib.hid h
 rw [hstk] at h
 obtain ⟨p,qs,va1,vk1,q1,rfl,rfl⟩:=h.cons
 have HH:=Lib.hid h
 have HR0:=Lib.hid (h.below HB0.out)
 have HOU : Hid (Calls Tryz.prog 140 #[.pointer (some ⟨rb,0,none⟩)] W0 fun e w'=>e = .returned (.bool false) ∧ Below W0.heap.size W0 w'):=Lib.hid (by
  have h9:=outside_any HR0.out
  rw [decide_eq_false (by rw [List.length_cons,stk_len];omega)] at h9
  exact h9)
 have hte:=emp_iff tx
 have HKL:=Lib.hid hkl
 have HBK:=Lib.hid hbk
 have HKT:=Lib.hid hkt
 clear h hstk hbk hkt hkl
 by_cases htx : tx = []
 ·subst htx
  have HFI : Hid (stepA (f :: q) root ⟨4,nm,[],al,em⟩ = some (f :: q,root)):=Lib.hid (by simp [stepA])
  clear hte
  go_enter Tryz.func111,Tryz.ntmps111
  go_wp2_with fail
  rw [← hW0]
  clear hW0
  (with_reducible refine HOU.out.mono ?_)
  rintro e w1 ⟨rfl,hb1⟩
  have HX1:=Lib.hid (HX0.out.below hb1)
  have HB1:=Lib.hid (th HB0.out (Nat.le_refl _) hb1)
  obtain ⟨y0,y1,y2,y3,y4,_⟩:=HX1.out.at
  clear hb1
  go_wp2
  go_ret
  exact ⟨HB1.out.mono hb0,.inr ⟨f :: q,root,ρ,_,_,g,c,HFI.out,rfl,HH.out.below HB1.out,fun b hb _=>⟨rfl,HB1.out.block b hb⟩⟩⟩
 ·rw [decide_eq_false htx] at hte
  obtain ⟨txb,htxb⟩ : ∃ txb : ByteArray,txb = ⟨tx.toArray⟩:=⟨_,rfl⟩
  have HTE:=Lib.hid htxb
  have HTX:=Lib.hid htx
  rw [← htxb] at hte HX0 hW0 ⊢
  clear htxb htx
  go_enter Tryz.func111,Tryz.ntmps111
  go_wp2_with fail
  rw [← hW0]
  clear hW0
  (with_reducible refine HOU.out.mono ?_)
  rintro e w1 ⟨rfl,hb1⟩
  have HX1:=Lib.hid (HX0.out.below hb1)
  have HB1:=Lib.hid (th HB0.out (Nat.le_refl _) hb1)
  have HR1:=Lib.hid (HR0.out.below hb1)
  obtain ⟨y0,y1,y2,y3,y4,_⟩:=HX1.out.at
  have HTP:=Lib.hid (top_any HR1.out)
  clear hb1
  go_wp2_with fail
  (with_reducible refine HTP.out.mono ?_)
  rintro e w2 ⟨rfl,hb2⟩
  have HX2:=Lib.hid (HX1.out.below hb2)
  have HB2:=Lib.hid (th HB1.out (Nat.le_refl _) hb2)
  have HR2:=Lib.hid (HR1.out.below hb2)
  clear hb2 y0 y1 y2 y3 y4
  obtain ⟨y0,y1,y2,y3,y4,_⟩:=HX2.out.at
  obtain ⟨_,x4,_,_,_,ys,x9⟩:=HR2.out.tops
  obtain ⟨z0,z1,z2,z3⟩:=x4.at
  have HFINA : Hid (∀ (W w8 : World) (ρ8 : Part) (vk8 : Value),Below w.heap.size w W → addTx tx f.kids = f.kids ++ [.node [] tx [] []] → Below base W w8 → RdV ρ8 w8 base rb (.node f.lb [] f.al (f.kids ++ [.node [] tx [] []]) :: stk q root) (p :: qs) ((va1,vk8) :: q1) g c → (∀ b,b < W.heap.size → ρ8 b = ρ b) → (∀ b,b < W.heap.size → b ≠ p → some b ≠ vk1.ownBlock → w8.heap[b]? = W.heap[b]?) → TakePost base rb j ρ w (stepA (f :: q) root ⟨4,nm,tx,al,em⟩) (.returned (.bool true)) w8):=Lib.hid (by
   intro W w8 ρ8 vk8 hW hadd hb8 hR8 hρ8 heq8
   have hsW:=hW.size
   refine ⟨(hW.mono hb0).trans hb8,.inr ⟨⟨f.lb,f.al,addTx tx f.kids⟩ :: q,root,ρ8,p :: qs,(va1,vk8) :: q1,g,c,?_,rfl,?_,fun b hb hf=>?_⟩⟩
   ·simp only [stepA]
    rw [if_neg (by decide),if_neg (by decide),if_pos trivial,if_neg HTX.out]
   ·rw [hadd];exact hR8
   ·have hbad : ∀ i n,i ≤ 4 ∨ i = 6 → ρ b ≠ (i,n):=fun i n hi e=>by
     rcases hf with hf | ⟨hf,_⟩
     ·rw [e] at hf;simp at hf;omega
     ·rw [e] at hf;simp at hf;omega
    refine ⟨hρ8 b (by omega),(heq8 b (by omega) (fun e=>?_) (fun e=>?_)).trans (hW.block b hb)⟩
    ·have h9:=HH.out.tops.2.2.2.1
     rw [← e] at h9
     exact hbad 2 _ (.inl (by omega)) h9
    ·exact hbad 4 _ (.inl (by omega)) (HH.out.tops.2.2.2.2.1 b e.symm))
  have HADD : Hid (∀ W,Below w.heap.size w W → Calls Tryz.prog 139 #[.pointer (some ⟨rb,0,none⟩),.agg #[.string ⟨#[]⟩,.string txb,.slice none 0 0,.slice none 0 0]] W fun e w'=>e = .returned (.tuple #[]) ∧ Below base W w' ∧ ∃ ρ' vk',RdV ρ' w' base rb (.node f.lb [] f.al (f.kids ++ [.node [] tx [] []]) :: stk q root) (p :: qs) ((va1,vk') :: q1) g c ∧ (∀ b,b < W.heap.size → ρ' b = ρ b) ∧ ∀ b,b < W.heap.size → b ≠ p → some b ≠ vk1.ownBlock → w'.heap[b]? = W.heap[b]?):=Lib.hid (fun W hW=>by
   rw [HTE.out]
   exact addR_any (HH.out.below hW) (text_treeS _ W tx) HKL.out (by have:=hW.size;omega))
  rcases List.eq_nil_or_concat f.kids with hnil | ⟨ks,T,hcat⟩
  ·have HA9 : Hid (addTx tx f.kids = f.kids ++ [.node [] tx [] []]):=Lib.hid (by rw [hnil];rfl)
   obtain ⟨ak,ck,hvk⟩:=own_sl x9
   rw [show (trK (.node f.lb [] f.al f.kids)).length = f.kids.length from rfl,hnil] at hvk
   simp only [List.length_nil] at hvk
   subst hvk
   clear x4 x9 hnil
   go_wp2_with fail
   (with_reducible refine (HADD.out _ HB2.out).mono ?_)
   rintro e w8 ⟨rfl,hb8,ρ8,vk8,hR8,hρ8,heq8⟩
   have HFIN:=Lib.hid (HFINA.out _ _ _ _ HB2.out HA9.out hb8 hR8 hρ8 heq8)
   clear hb8 hR8 hρ8 heq8
   go_wp2
   go_ret
   exact HFIN.out
  ·rw [List.concat_eq_append] at hcat
   obtain ⟨b,cc,va2,vk2,hvk,l0,l1,l2,l3,l4,hbb⟩:=HR2.out.last (ks:=ks) (T:=T) hcat
   subst hvk
   have hbT : bareA T = true:=by
    have:=HBK.out
    rw [hcat,bareK_append,Bool.and_eq_true] at this
    simpa [bareK] using this.2
   have HCAT:=Lib.hid hcat
   obtain ⟨n,hn⟩ : ∃ n,n = ks.length:=⟨_,rfl⟩
   have hn6 : n ≤ 1000000:=by
    have:=HKL.out
    rw [hcat] at this
    simp at this
    omega
   rw [← hn] at l0 l1 l2 l3 HR2 HH HR0 HH0 z3 HFINA HADD
   have HN:=Lib.hid hn
   have hnw : IntKind.i64.wrap (n : Int) = n:=wrap_small _ (by omega) (by omega)
   have hn0 : (0 : Int) ≤ n:=by omega
   have hn1 : (n : Int) < (n : Int) + 1:=by omega
   clear x4 x9 hcat hn
   obtain ⟨lt,xt,at_,kt⟩:=T
   simp only [trL,trX] at l0 l1
   by_cases hlt : lt = []
   ·subst hlt
    have hbare : at_ = [] ∧ kt = []:=by
     unfold bareA at hbT
     rw [Bool.and_eq_true] at hbT
     simpa using hbT.1
    obtain ⟨rfl,rfl⟩:=hbare
    have hxt : xt.length ≤ 1000000:=HKT.out (.node [] xt [] []) (by rw [HCAT.out];simp)
    have HIT:=Lib.hid (fun W : World=>isTextX_any [] ⟨xt.toArray⟩ va2 vk2 true rfl W)
    have HA9 : Hid (addTx tx f.kids = ks ++ [.node [] (xt ++ tx) [] []]):=Lib.hid (by
     rw [HCAT.out]
     unfold addTx
     rw [List.getLast?_concat]
     simp only [List.dropLast_concat])
    clear hbT
    go_wp2_with fail
    (with_reducible refine (HIT.out _).mono ?_)
    rintro e w3 ⟨rfl,hb3⟩
    have HX3:=Lib.hid (HX2.out.below hb3)
    have HB3:=Lib.hid (th HB2.out (Nat.le_refl _) hb3)
    have HR3:=Lib.hid (HR2.out.below hb3)
    have hbl : b < w2.heap.size:=by simpa using block_lt_of_cell l0
    have l1' : w3.cell? ⟨b,n * 4 + 1,none⟩ = some (.string ⟨xt.toArray⟩):=(hb3.cell (by simpa using hbl)).trans l1
    have l4' : w3.frozen? ⟨b,n * 4 + 1,none⟩ = false:=(World.frozen?_of_block (a:=⟨b,n * 4 + 1,none⟩) (hb3.block b hbl)).trans (l4 _)
    clear hb3 y0 y1 y2 y3 y4 z0 z1 z2 z3 l0 l1 l2 l3 l4 hbl
    obtain ⟨y0,y1,y2,y3,y4,_⟩:=HX3.out.at
    rw [HTE.out] at y2
    have hadd : ∀ W : World,(Op.stringOp .add ⟨xt.toArray⟩ ⟨tx.toArray⟩).run Tryz.prog W = .ok (.string ⟨(xt ++ tx).toArray⟩) W:=fun W=>run_string_add_lists W xt tx (by omega) (by omega)
    go_upto_region 8 with fail
    go_still_tail 10,(by kernel_rfl)
    change wpList _ _ _ _ _ w3.drew
    have x5 : w3.drew.cell? ⟨b,n * 4 + 1,none⟩ = some (.string ⟨xt.toArray⟩):=l1'
    have f5 : w3.drew.frozen? ⟨b,n * 4 + 1,none⟩ = false:=l4'
    have HB4 : Hid (Below w.heap.size w w3.drew):=Lib.hid HB3.out.drew
    have HR4:=Lib.hid (HR3.out.below ((Below.refl _ w3).drew))
    obtain ⟨W4,hW4⟩ : ∃ W4,W4 = w3.drew:=⟨_,rfl⟩
    rw [← hW4] at x5 f5 HB4 HR4 ⊢
    clear hW4 l1' l4' y0 y1 y2 y3 y4 hadd
    have HFIN : Hid (TakePost base rb j ρ w (stepA (f :: q) root ⟨4,nm,tx,al,em⟩) (.returned (.bool true)) (W4.setCell ⟨b,n * 4 + 1,none⟩ (.string ⟨(xt ++ tx).toArray⟩))):=Lib.hid (by
     obtain ⟨m1,m2,_,_⟩:=HR4.out.more (ks:=ks) (tx:=xt) tx HCAT.out
     rw [← HN.out] at m1
     have hs4:=HB4.out.size
     refine ⟨(HB4.out.mono hb0).setCell hbb _,.inr ⟨⟨f.lb,f.al,addTx tx f.kids⟩ :: q,root,ρ,p :: qs,(va1,.slice (some ⟨b,0,none⟩) (n + 1) cc) :: q1,g,c,?_,rfl,?_,fun a ha hf=>⟨rfl,?_⟩⟩⟩
     ·simp only [stepA]
      rw [if_neg (by decide),if_neg (by decide),if_pos trivial,if_neg HTX.out]
     ·rw [HA9.out];exact m1
     ·refine ((grownBy_setAt W4 b _ _).block a (by omega) (fun e=>?_)).trans (HB4.out.block a ha)
      rw [Option.some.inj e] at hf
      rcases hf with hf | ⟨hf,_⟩
      ·rw [m2] at hf;simp at hf
      ·rw [m2] at hf;simp at hf)
    go_wp2
    go_ret
    exact HFIN.out
   ·have HIT:=Lib.hid (fun W : World=>isTextX_any lt ⟨xt.toArray⟩ va2 vk2 false (decide_eq_false hlt) W)
    have HA9 : Hid (addTx tx f.kids = f.kids ++ [.node [] tx [] []]):=Lib.hid (by
     rw [HCAT.out]
     unfold addTx
     rw [List.getLast?_concat]
     cases lt with
     | nil=>exact absurd rfl hlt
     | cons a d=>rfl)
    clear hbT hlt
    go_wp2_with fail
    (with_reducible refine (HIT.out _).mono ?_)
    rintro e w3 ⟨rfl,hb3⟩
    have HX3:=Lib.hid (HX2.out.below hb3)
    have HB3:=Lib.hid (th HB2.out (Nat.le_refl _) hb3)
    clear hb3 y0 y1 y2 y3 y4 z0 z1 z2 z3 l0 l1 l2 l3 l4
    obtain ⟨y0,y1,y2,y3,y4,_⟩:=HX3.out.at
    go_wp2_with fail
    (with_reducible refine (HADD.out _ HB3.out).mono ?_)
    rintro e w8 ⟨rfl,hb8,ρ8,vk8,hR8,hρ8,heq8⟩
    have HFIN:=Lib.hid (HFINA.out _ _ _ _ HB3.out HA9.out hb8 hR8 hρ8 heq8)
    clear hb8 hR8 hρ8 heq8
    go_wp2
    go_ret
    exact HFIN.out
theorem tag_of {l : List (Tok × Value)} {k : Nat} (h : k < l.length) : ∃ x,l[k]? = some x:=⟨_,List.getElem?_eq_getElem h⟩
theorem take_any {ρ : Part} {w : World} {base rb g c j : Nat} {fs : List Fr} {root : Option Tr} {ps : List Nat} {vs : List (Value × Value)} (t : Tok) (va : Value) (h : RdV ρ w base rb (stk fs root) ps vs g c) (hok : FsOk fs root)
  (hva : w.ownsRow base 82 2 va t.attrs.length (attrCells t.attrs)) (hvb : ∀ b,va.ownBlock = some b → ρ b = (5,j)) (hone : t.kind = 2 → OneName t.attrs) (hal : t.attrs.length ≤ 1000000) (hsm : Small 1000000 1000000 fs) (hxl : t.text.length ≤ 1000000) (hb0 : base ≤ w.heap.size) :
  Calls Tryz.prog (takerF t.kind) #[.pointer (some ⟨rb,0,none⟩),tokV t va] w fun e w'=>TakePost base rb j ρ w (stepA fs root t) e w':=by
 by_cases h2 : t.kind = 2
 ·have e : takerF t.kind = 109:=by rw [h2];rfl
  rw [e]
  exact takeOpen_any t va h h2 hva hvb (hone h2) hal hsm.1 (fun f hf=>(hsm.2 f hf).1) hb0
 ·by_cases h3 : t.kind = 3
  ·have e : takerF t.kind = 110:=by rw [h3];rfl
   rw [e]
   cases fs with
   | nil=>exact takeClose_out t va h h3 hb0
   | cons f q=>exact takeClose_in t va h h3 hb0 (fun f1 hf=>(hsm.2 f1 hf).1) (hok.1 (by simp))
  ·by_cases h4 : t.kind = 4
   ·have e : takerF t.kind = 111:=by rw [h4];rfl
    rw [e]
    cases fs with
    | nil=>exact takeText_out t va h h4 hb0
    | cons f q=>exact takeText_in t va h h4 hb0 (hsm.2 f (by simp)).1 (hok.2 f (by simp)) hxl (hsm.2 f (by simp)).2
   ·have e : takerF t.kind = 112:=by unfold takerF;rw [if_neg h2,if_neg h3,if_neg h4]
    rw [e]
    refine (pass_any rb t va w).mono ?_
    rintro e w' ⟨rfl,hb⟩
    exact ⟨hb.mono hb0,.inr ⟨fs,root,ρ,ps,vs,g,c,by unfold stepA;rw [if_neg h2,if_neg h3,if_neg h4],rfl,h.below hb,fun b hb' _=>⟨rfl,hb.block b hb'⟩⟩⟩
theorem ret_tree2 {fn : Func} {R : Ending → World → Prop} {a : Act} {w : World} {p u v : Tmp} {g : Nat} {lb tx : ByteArray} {va vk : Value}
  (h : fn.results = #[.cell p 27,.tmp u,.tmp v]) (hp : a.tmps.getD p undef = .pointer (some ⟨g,0,none⟩)) (hg : Box4 g lb tx va vk w) (hf : a.defers = [])
  (hR : R (.returned (.tuple #[.agg #[.string lb,.string tx,va,vk],a.tmps.getD u undef,a.tmps.getD v undef])) w) : bodyPost Tryz.prog fn R .ret a w:=by
 refine bodyPost_ret (v:=.tuple #[.agg #[.string lb,.string tx,va,vk],a.tmps.getD u undef,a.tmps.getD v undef]) ?_ hf hR
 have hp' : a.tmps[p]?.getD undef = .pointer (some ⟨g,0,none⟩):=by simpa using hp
 simp only [results,h]
 simp [Result.andThen,hp',asAddr,run_loadVar_row w g 27 27 #[.string lb,.string tx,va,vk] (0,0) _ hg Tryz.underlying27 rfl (by kernel_rfl)]
theorem takerF_four (k : Int) : takerF k = 109 ∨ takerF k = 110 ∨ takerF k = 111 ∨ takerF k = 112:=by
 unfold takerF
 by_cases h2 : k = 2
 ·rw [if_pos h2];exact .inl rfl
 ·rw [if_neg h2]
  by_cases h3 : k = 3
  ·rw [if_pos h3];exact .inr (.inl rfl)
  ·rw [if_neg h3]
   by_cases h4 : k = 4
   ·rw [if_pos h4];exact .inr (.inr (.inl rfl))
   ·rw [if_neg h4];exact .inr (.inr (.inr rfl))
theorem sumX_mono (ts : List Tok) (k : Nat) : sumX (ts.take k) ≤ sumX ts:=by
 unfold sumX
 conv=>rhs;rw [← List.take_append_drop k ts]
 rw [List.map_append,List.sum_append]
 omega
def ReadXP (ts : List Tok) (base : Nat) (w : World) (e : Ending) (w' : World) : Prop:=
 Below base w w' ∧ ((∃ i : Nat,treeL ts = .error i ∧ e = .returned (.tuple #[.agg #[.string ⟨#[]⟩,.string ⟨#[]⟩,.slice none 0 0,.slice none 0 0],.int .i64 i,.bool false])) ∨
  ∃ T va vk,treeL ts = .ok T ∧ e = .returned (.tuple #[.agg #[.string ⟨(trL T).toArray⟩,.string ⟨(trX T).toArray⟩,va,vk],.int .i64 0,.bool true]) ∧ TreeS (fun g=>base ≤ g) w' T [.string ⟨(trL T).toArray⟩,.string ⟨(trX T).toArray⟩,va,vk])
set_option maxHeartbeats 4000000 in
set_option maxRecDepth 20000 in
theorem xread_any {base : Nat} (l : List (Tok × Value)) (a : Option Addr) (c : Nat) (w : World) (h : TokRowK w base (.slice a l.length c) l) (hap : ApartT l) (hb0 : base ≤ w.heap.size) (hn : l.length ≤ 1000000) (hx : sumX (l.map (·.1)) ≤ 1000000)
  (hok : ∀ x ∈ l,(x.1.kind = 2 → x.1.name ≠ [] ∧ OneName x.1.attrs) ∧ x.1.attrs.length ≤ 1000000 ∧ x.1.text.length ≤ 1000000) :
  Calls Tryz.prog 31 #[.slice a l.length c] w fun e w'=>ReadXP (l.map (·.1)) base w e w':=by
 have HH:=Lib.hid h
 have HAP:=Lib.hid hap
 have HOK:=Lib.hid hok
 obtain ⟨n,hnl⟩ : ∃ n,n = l.length:=⟨_,rfl⟩
 rw [← hnl] at hn ⊢
 have HN:=Lib.hid hnl
 clear h hap hok hnl
 go_enter Tryz.func31,Tryz.ntmps31
 go_wp2_with fail
 go_step3
 go_wp2_with fail
 go_step3
 go_wp2_with fail
 obtain ⟨W1,hW1⟩ : ∃ W1,W1 = ((((w.alloc (.cells #[.string ⟨#[]⟩,.string ⟨#[]⟩,.slice none 0 0,.slice none 0 0] 27)).alloc (.cells #[.string ⟨#[]⟩,.string ⟨#[]⟩,.slice none 0 0,.slice none 0 0] 27)).alloc (.cells #[.pointer (some ⟨w.heap.size + 1,0,none⟩)] 122)).alloc (.cells #[.slice (some ⟨w.heap.size + 1 + 1,0,none⟩) 1 1] 125)):=⟨_,rfl⟩
 have HB1 : Hid (Below w.heap.size w W1):=Lib.hid (by rw [hW1];exact ((((Below.refl _ w).alloc (Nat.le_refl _) _).alloc (by simp) _).alloc (by simp;omega) _).alloc (by simp;omega) _)
 have HRC1 : Hid (Box4 w.heap.size ⟨#[]⟩ ⟨#[]⟩ (.slice none 0 0) (.slice none 0 0) W1):=Lib.hid (by rw [hW1];show ((((w.heap.push _).push _).push _).push _)[_]? = _;rw [Array.getElem?_push,if_neg (by simp only [Array.size_push];omega),Array.getElem?_push,if_neg (by simp only [Array.size_push];omega),Array.getElem?_push,if_neg (by simp only [Array.size_push];omega),Array.getElem?_push,if_pos rfl])
 have HP1 : Hid (Box4 (w.heap.size + 1) ⟨#[]⟩ ⟨#[]⟩ (.slice none 0 0) (.slice none 0 0) W1):=Lib.hid (by rw [hW1];show ((((w.heap.push _).push _).push _).push _)[_]? = _;rw [Array.getElem?_push,if_neg (by simp only [Array.size_push];omega),Array.getElem?_push,if_neg (by simp only [Array.size_push];omega),Array.getElem?_push,if_pos (by simp only [Array.size_push])])
 have HG1 : Hid (W1.heap[w.heap.size + 2]? = some (.cells #[.pointer (some ⟨w.heap.size + 1,0,none⟩)] 122 (0,0))):=Lib.hid (by rw [hW1];show ((((w.heap.push _).push _).push _).push _)[_]? = _;rw [Array.getElem?_push,if_neg (by simp only [Array.size_push];omega),Array.getElem?_push,if_pos (by simp only [Array.size_push])])
 have HR1 : Hid (W1.heap[w.heap.size + 3]? = some (.cells #[.slice (some ⟨w.heap.size + 2,0,none⟩) 1 1] 125 (0,0))):=Lib.hid (by rw [hW1];show ((((w.heap.push _).push _).push _).push _)[_]? = _;rw [Array.getElem?_push,if_pos (by simp only [Array.size_push])])
 have HI1:=Lib.hid (RInv.start HH.out HAP.out hb0 HB1.out HP1.out HG1.out HR1.out)
 rw [← hW1]
 clear hW1
 obtain ⟨rb,hrb⟩ : ∃ rb,rb = w.heap.size + 3:=⟨_,rfl⟩
 rw [← hrb] at HI1
 rw [show w.heap.size + 1 + 1 + 1 = rb by omega]
 have HRBQ:=Lib.hid hrb
 clear hrb
 go_loopw [6,16] (fun o i wr=>∃ (k : Nat) (fs : List Fr) (root : Option Tr) (ρ : Part) (ps : List Nat) (vs : List (Value × Value)) (g cg : Nat),k ≤ n ∧ o = .int .i64 k ∧ i = .int .i64 k ∧ Hid (RInv l base a c rb w k fs root ρ ps vs g cg wr) ∧ Hid (Box4 w.heap.size ⟨#[]⟩ ⟨#[]⟩ (.slice none 0 0) (.slice none 0 0) wr)) (fun _ i _=>n - (intOf i).toNat)
 case atStart=>exact ⟨0,[],none,_,_,_,_,_,by omega,rfl,rfl,HI1,HRC1⟩
 case round=>
  obtain ⟨k,fs,root,ρ,ps,vs,g,cg,hk,rfl,rfl,HI,HRC⟩:=hrel
  have hrcl:=HRC.out.lt
  by_cases hlt : k < n
  ·obtain ⟨x,hxk⟩:=tag_of (l:=l) (k:=k) (by rw [← HN.out];exact hlt)
   have HX:=Lib.hid hxk
   have hxm : x ∈ l:=List.mem_of_getElem? hxk
   obtain ⟨q1,q2,q3⟩:=HOK.out x hxm
   obtain ⟨h1,h2,h3,h4,h5,h6,h7,h8,h9,h10,h11,h12⟩:=HI.out
   rw [← HN.out] at h7
   rcases own_form h7 with ⟨_,_,h99⟩ | ⟨gt,rfl,hct,hnc⟩
   ·omega
   ·have cell : ∀ i v,(tokCells x.1 x.2).toList[i]? = some v → wr.cell? ⟨gt,k * 5 + i,none⟩ = some v:=fun i v hv=>by
     have hkl : k < l.length:=by rw [← HN.out];exact hlt
     have e1 : l[k]'hkl = x:=by
      have:=List.getElem?_eq_some_iff.1 hxk
      exact this.2
     have h8:=hct _ _ (tv_get l k hkl i v (by rw [e1];exact hv))
     rw [add_zero_at] at h8
     exact h8
    have t0:=cell 0 _ rfl
    have t1:=cell 1 _ rfl
    have t2:=cell 2 _ rfl
    have t3:=cell 3 _ rfl
    have t4:=cell 4 _ rfl
    rw [Nat.add_zero] at t0
    obtain ⟨x1,x2⟩:=x
    obtain ⟨ki,nm,tx,al,em⟩:=x1
    simp only at t0 t1 t2 t3 t4
    obtain ⟨ax,cx,hx2⟩:=own_sl (h9 k _ (Nat.le_refl _) hxk).1
    simp only at hx2
    obtain ⟨na,hna⟩ : ∃ na,na = al.length:=⟨_,rfl⟩
    rw [← hna] at hx2
    have HNA:=Lib.hid hna
    subst hx2
    clear hna
    have hi0 : (0 : Int) ≤ k:=by omega
    have hi1 : (k : Int) < n:=by omega
    have hsB : base ≤ wr.heap.size:=by omega
    have hsm : Small 1000000 1000000 fs:=by
     have hk6:=h5.1
     have:=sumX_mono (l.map (·.1)) k
     exact ⟨by omega,fun f hf=>⟨by have:=(h5.2 f hf).1;omega,fun T hT=>by have:=(h5.2 f hf).2 T hT;omega⟩⟩
    have HTK : Hid (∀ W,Below wr.heap.size wr W → Calls Tryz.prog (takerF ki) #[.pointer (some ⟨rb,0,none⟩),.agg #[.int .i64 ki,.string ⟨nm.toArray⟩,.string ⟨tx.toArray⟩,.slice ax na cx,.bool em]] W fun e w'=>TakePost base rb k ρ W (stepA fs root ⟨ki,nm,tx,al,em⟩) e w'):=Lib.hid (fun W hW=>by
     have h13:=h9 k _ (Nat.le_refl _) hxk
     exact take_any ⟨ki,nm,tx,al,em⟩ (.slice ax na cx) (h6.below hW) h3 (own_bel h13.1 hW) h13.2 (fun e=>(q1 e).2) q2 hsm q3 (Nat.le_trans hsB hW.size))
    have HNX : Hid (∀ W w' fs' root' ρ' ps' vs' g' cg',Below wr.heap.size wr W → Below base W w' → stepA fs root ⟨ki,nm,tx,al,em⟩ = some (fs',root') → RdV ρ' w' base rb (stk fs' root') ps' vs' g' cg' → (∀ b,b < W.heap.size → Fix k (ρ b) → ρ' b = ρ b ∧ w'.heap[b]? = W.heap[b]?) → RInv l base (some ⟨gt,0,none⟩) c rb w (k + 1) fs' root' ρ' ps' vs' g' cg' w' ∧ Box4 w.heap.size ⟨#[]⟩ ⟨#[]⟩ (.slice none 0 0) (.slice none 0 0) w'):=Lib.hid (by
     intro W w' fs' root' ρ' ps' vs' g' cg' hW hb hs hR hf
     have hf2 : ∀ b,b < wr.heap.size → Fix k (ρ b) → ρ' b = ρ b ∧ w'.heap[b]? = wr.heap[b]?:=fun b hb2 hfx=>by
      have h13:=hf b (by have:=hW.size;omega) hfx
      exact ⟨h13.1,h13.2.trans (hW.block b hb2)⟩
     refine ⟨HI.out.next HX.out (fun e=>(q1 e).1) hs hR hf2 ((hW.mono hsB).trans hb) hrcl,?_⟩
     exact (hf2 _ hrcl (.inl h12)).2.trans HRC.out)
    have HER : Hid (stepA fs root ⟨ki,nm,tx,al,em⟩ = none → treeL (l.map (·.1)) = .error k):=Lib.hid (fun e=>by
     have hxm2 : (l.map (·.1))[k]? = some ⟨ki,nm,tx,al,em⟩:=by rw [List.getElem?_map,HX.out];rfl
     obtain ⟨hk7,hk8⟩:=List.getElem?_eq_some_iff.1 hxm2
     rw [h2,List.drop_eq_getElem_cons hk7,hk8,stepA_tree h3,e])
    have HBW:=Lib.hid h10
    have HLT:=Lib.hid hlt
    clear h1 h2 h3 h4 h5 h6 h7 h8 h9 h10 h11 h12 q1 q2 q3 hxm hxk hct cell hsm
    go_wp2_with fail
    obtain ⟨W2,hW2⟩ : ∃ W2,W2 = wr.alloc (.cells #[.int .i64 ki,.string ⟨nm.toArray⟩,.string ⟨tx.toArray⟩,.slice ax na cx,.bool em] 119):=⟨_,rfl⟩
    have HB2 : Hid (Below wr.heap.size wr W2):=Lib.hid (by rw [hW2];exact (Below.refl _ wr).alloc (Nat.le_refl _) _)
    have HX2 : Hid (BoxK wr.heap.size ki ⟨nm.toArray⟩ ⟨tx.toArray⟩ (.slice ax na cx) em W2):=Lib.hid (by rw [hW2];exact BoxK.made _ _ _ _ _ _)
    rw [← hW2]
    clear hW2 t0 t1 t2 t3 t4
    obtain ⟨t0,t1,t2,t3,t4,_⟩:=HX2.out.at
    (with_reducible refine (taker_any rb ki _).mono ?_)
    rintro e w3 ⟨rfl,rfl⟩
    have HTK2:=Lib.hid (HTK.out _ HB2.out)
    rcases takerF_four ki with hF | hF | hF | hF
    all_goals (
     rw [hF] at HTK2 ⊢
     clear HTK
     go_wp2_with fail
     (with_reducible refine HTK2.out.mono ?_)
     rintro e w4 ⟨hb4,⟨hno,rfl,hbn⟩ | ⟨fs4,root4,ρ4,ps4,vs4,g4,c4,hst,rfl,hR4,hf4⟩⟩
     ·have HE:=Lib.hid (HER.out hno)
      have HB4 : Hid (Below base w w4):=Lib.hid (HBW.out.trans ((HB2.out.mono hsB).trans hb4))
      have HRZ:=Lib.hid ((HRC.out.below HB2.out (Nat.le_refl _)).below hbn (Nat.le_refl _))
      obtain ⟨r0,r1,r2,r3⟩:=HRZ.out.at
      have fr0:=HRZ.out.thaw 0
      have fr1:=HRZ.out.thaw 1
      have fr2:=HRZ.out.thaw 2
      have fr3:=HRZ.out.thaw 3
      clear hb4 hno hF hbn
      go_wp2_with fail
      (try rw [Exit.noGoto_ret])
      refine ret_tree2 rfl rfl (HRZ.out.set4 _ _ _ _) rfl ?_
      exact ⟨below_set4 HB4.out hb0 _ _ _ _,.inl ⟨k,HE.out,rfl⟩⟩
     ·obtain ⟨hI,hB⟩:=HNX.out _ _ _ _ _ _ _ _ _ HB2.out hb4 hst hR4 hf4
      have HI9:=Lib.hid hI
      have HB9:=Lib.hid hB
      clear hb4 hst hR4 hf4 hI hB hF
      go_wp2
      exact ⟨⟨k + 1,fs4,root4,ρ4,ps4,vs4,g4,c4,by omega,by go_num,by go_num,HI9,HB9⟩,by simp [intOf];omega⟩)
  ·obtain rfl : n = k:=by omega
   obtain ⟨h1,h2,h3,h4,h5,h6,h7,h8,h9,h10,h11,h12⟩:=HI.out
   rw [List.drop_of_length_le (by rw [List.length_map,← HN.out];omega)] at h2
   have HWH:=Lib.hid (whole_any h6)
   have HT:=Lib.hid h2
   have HBW:=Lib.hid h10
   have HOK3:=Lib.hid h3
   clear h1 h2 h3 h4 h5 h6 h7 h8 h9 h10 h11 h12
   cases root with
   | none=>
    have HE : Hid (treeL (l.map (·.1)) = .error n):=Lib.hid (by
     rw [HT.out]
     unfold treeA
     cases fs <;> rfl)
    obtain ⟨wf,hwf⟩ : ∃ wf,wf = wr:=⟨_,rfl⟩
    go_wp2_with fail
    (with_reducible refine HWH.out.mono ?_)
    rintro e w4 ⟨rfl,hb4⟩
    have HRZ:=Lib.hid (HRC.out.below hb4 (Nat.le_refl _))
    have HB4 : Hid (Below base w w4):=Lib.hid (HBW.out.trans (hb4.mono (by omega)))
    obtain ⟨r0,r1,r2,r3⟩:=HRZ.out.at
    have fr0:=HRZ.out.thaw 0
    have fr1:=HRZ.out.thaw 1
    have fr2:=HRZ.out.thaw 2
    have fr3:=HRZ.out.thaw 3
    clear hb4
    go_wp2_with fail
    (try rw [Exit.noGoto_ret])
    refine ret_tree2 rfl rfl (HRZ.out.set4 _ _ _ _) rfl ?_
    exact ⟨below_set4 HB4.out hb0 _ _ _ _,.inl ⟨n,HE.out,rfl⟩⟩
   | some T=>
    have hfs : fs = []:=by
     cases fs with
     | nil=>rfl
     | cons f q=>have:=HOK3.out.1 (by simp);cases this
    subst hfs
    have HE : Hid (treeL (l.map (·.1)) = .ok T):=Lib.hid HT.out
    go_wp2_with fail
    (with_reducible refine HWH.out.mono ?_)
    rintro e w4 ⟨rfl,hb4⟩
    have HRZ:=Lib.hid (HRC.out.below hb4 (Nat.le_refl _))
    have HB4 : Hid (Below base w w4):=Lib.hid (HBW.out.trans (hb4.mono (by omega)))
    have HR4:=Lib.hid (HI.out.2.2.2.2.2.1.below hb4)
    clear hb4
    have HPZ : Hid (ρ w.heap.size = (7,0)):=Lib.hid HI.out.2.2.2.2.2.2.2.2.2.2.2
    obtain ⟨p9,qs9,va9,vk9,q9,e9,rfl⟩:=HR4.out.cons (t:=.node [] [] [] [T]) (r:=[])
    subst e9
    have HTP:=Lib.hid (top_any (t:=.node [] [] [] [T]) (r:=[]) HR4.out)
    go_wp2_with fail
    (with_reducible refine HTP.out.mono ?_)
    rintro e w5 ⟨rfl,hb5⟩
    have HRY:=Lib.hid (HRZ.out.below hb5 (Nat.le_refl _))
    have HB5 : Hid (Below base w w5):=Lib.hid (HB4.out.trans (hb5.mono (by have:=HB4.out.size;omega)))
    obtain ⟨p,b,cc,va2,vk2,ep,c3,hT5,c4,c5,c6,c7⟩:=(HR4.out.below hb5).only
    obtain ⟨rfl,rfl⟩:=List.cons.inj ep
    obtain ⟨_,_,a6,d6,n6,k6,m6,j6,e6⟩:=hT5.four
    simp only [List.cons.injEq] at e6
    obtain ⟨_,_,rfl,rfl,_⟩:=e6
    have HT5:=Lib.hid hT5
    obtain ⟨r0,r1,r2,r3⟩:=HRY.out.at
    have fr0:=HRY.out.thaw 0
    have fr1:=HRY.out.thaw 1
    have fr2:=HRY.out.thaw 2
    have fr3:=HRY.out.thaw 3
    clear hb5 hT5 ep
    go_wp2_with fail
    (try rw [Exit.noGoto_ret])
    refine ret_tree2 rfl rfl (HRY.out.set4 _ _ _ _) rfl ?_
    refine ⟨below_set4 HB5.out hb0 _ _ _ _,.inr ⟨T,_,_,HE.out,rfl,?_⟩⟩
    exact (TreeS.map (fun h=>h.set4 (fun g hg e=>by rw [e,HPZ.out] at hg;simp at hg) _ _ _ _) T _ HT5.out).mono (fun g hg _=>hg.1)
end Go.Proofs.YtjldpkhfiffinaaGreatDoor.U
