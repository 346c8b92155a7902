/- Contracts and plain facts that the law stands on: Ro. -/
import Derived.Test.YtjldpkhfiffinaaGreatDoorZC12
import Derived.Test.YtjldpkhfiffinaaGreatDoorZC27
import Derived.Test.YtjldpkhfiffinaaGreatDoorZC16
import Derived.Test.YtjldpkhfiffinaaGreatDoorZC18
namespace Go.Proofs.YtjldpkhfiffinaaGreatDoor.U
open Go.RowKit
theorem infoPtr : (Tryz.prog.info? 122).map (fun i=>(i.zero,i.size,i.bytes)) = some (some (.pointer none),1,8):=by kernel_rfl
set_option maxHeartbeats 4000000 in
set_option maxRecDepth 20000 in
theorem takeOpen_any {ρ : Part} {w : World} {base rb g c j : Nat} {fs : List Fr} {root : Option Tr} {ps : List Nat} {vs : List (Value × Value)} (t : Tok) (va : Value) (h : RdV ρ w base rb (stk fs root) ps vs g c) (hk : t.kind = 2)
  (hva : w.ownsRow base 82 2 va t.attrs.length (attrCells t.attrs)) (hvb : ∀ b,va.ownBlock = some b → ρ b = (5,j)) (hone : OneName t.attrs) (hal : t.attrs.length ≤ 1000000) (hfl : fs.length ≤ 1000000) (hkl : ∀ f ∈ fs,f.kids.length ≤ 1000000) (hb0 : base ≤ w.heap.size) :
  Calls Tryz.prog 109 #[.pointer (some ⟨rb,0,none⟩),tokV t va] w fun e w'=>TakePost base rb j ρ w (stepA fs root t) e w':=by
 obtain ⟨ki,nm,tx,al,em⟩:=t
 simp only at hk hva hone hal
 subst hk
 unfold tokV tokCells
 simp only
 obtain ⟨W0,hW0⟩ : ∃ W0,W0 = w.alloc (.cells #[.int .i64 2,.string ⟨nm.toArray⟩,.string ⟨tx.toArray⟩,va,.bool em] 119):=⟨_,rfl⟩
 have HB0 : Hid (Below w.heap.size w W0):=Lib.hid (by rw [hW0];exact (Below.refl _ w).alloc (Nat.le_refl _) _)
 have HX0 : Hid (BoxK w.heap.size 2 ⟨nm.toArray⟩ ⟨tx.toArray⟩ va em W0):=Lib.hid (by rw [hW0];exact BoxK.made _ _ _ _ _ _)
 have HR0:=Lib.hid (h.below HB0.out)
 have HWH:=Lib.hid (whole_any HR0.out)
 have HH:=Lib.hid h
 have HV:=Lib.hid hva
 have HVB:=Lib.hid hvb
 have HON:=Lib.hid hone
 have HKL:=Lib.hid hkl
 clear h hva hvb hone hkl
 cases root with
 | some u=>
  go_enter Tryz.func109,Tryz.ntmps109
  go_wp2_with fail
  rw [← hW0]
  clear hW0
  (with_reducible refine HWH.out.mono ?_)
  rintro e w1 ⟨rfl,hb1⟩
  have HB1:=Lib.hid (th HB0.out (Nat.le_refl _) hb1)
  clear hb1
  go_wp2
  go_ret
  exact ⟨HB1.out.mono hb0,.inl ⟨by simp [stepA],rfl,HB1.out⟩⟩
 | none=>
  obtain ⟨n,hn⟩ : ∃ n,n = al.length:=⟨_,rfl⟩
  obtain ⟨av,cv,hvs⟩:=own_sl HV.out
  rw [← hn] at hvs hal
  subst hvs
  have HN:=Lib.hid hn
  clear hn
  go_enter Tryz.func109,Tryz.ntmps109
  go_wp2_with fail
  rw [← hW0]
  clear hW0
  (with_reducible refine HWH.out.mono ?_)
  rintro e w1 ⟨rfl,hb1⟩
  have HB1:=Lib.hid (th HB0.out (Nat.le_refl _) hb1)
  have HX1:=Lib.hid (HX0.out.below hb1)
  have HV1 : Hid (w1.ownsRow base 82 2 (.slice av n cv) n (attrCells al)):=Lib.hid (by have:=own_bel HV.out HB1.out;rw [← HN.out] at this;exact this)
  obtain ⟨y0,y1,y2,y3,y4,_⟩:=HX1.out.at
  clear hb1
  have HSO:=Lib.hid (sort_any al HN.out.symm w1 HV1.out HON.out hal)
  go_wp2_with fail
  (with_reducible refine HSO.out.mono ?_)
  rintro e w2 ⟨rfl,hown2,hg2⟩
  have hvl : ∀ b,(Value.slice av n cv).ownBlock = some b → b < w.heap.size:=fun b hb=>(HV.out.lt b hb).2
  have HX2 : Hid (BoxK w.heap.size 2 ⟨nm.toArray⟩ ⟨tx.toArray⟩ (.slice av n cv) em w2):=Lib.hid ((hg2.block _ HX1.out.lt (fun e=>by have:=hvl _ e.symm;omega)).trans HX1.out)
  have HO2:=Lib.hid hown2
  have HG2 : Hid (w.heap.size ≤ w2.heap.size ∧ Below base w w2 ∧ ∀ b,b < w.heap.size → ρ b ≠ (5,j) → w2.heap[b]? = w.heap[b]?):=Lib.hid ⟨by have:=HB1.out.size;have:=hg2.size;omega,(HB1.out.mono hb0).grown hg2 (by have:=HB1.out.size;omega) (fun k e=>(HV.out.lt k e).1),fun b hb hne=>(hg2.block b (by have:=HB1.out.size;omega) (fun e=>hne (HVB.out b e.symm))).trans (HB1.out.block b hb)⟩
  have HSL : Hid (w.heap.size < w2.heap.size):=Lib.hid HX2.out.lt
  clear y0 y1 y2 y3 y4 hown2 hg2 hvl
  obtain ⟨y0,y1,y2,y3,y4,_⟩:=HX2.out.at
  have hsl:=HSL.out
  have HRT : Hid (RdV (fun b=>if ρ b = (5,j) then (0,0) else ρ b) w2 base rb (stk fs none) ps vs g c ∧ RdV ρ w2 base rb (stk fs none) ps vs g c):=Lib.hid (HH.out.turn HG2.out.1 HG2.out.2.2)
  obtain ⟨W3,hW3⟩ : ∃ W3,W3 = w2.alloc (.cells #[.string ⟨nm.toArray⟩,.string ⟨#[]⟩,.slice av n cv,.slice none 0 0] 27):=⟨_,rfl⟩
  have HW3 : Hid (Below w2.heap.size w2 W3):=Lib.hid (by rw [hW3];exact (Below.refl _ w2).alloc (Nat.le_refl _) _)
  have HX3:=Lib.hid (HX2.out.below HW3.out)
  have HT3 : Hid (Box4 w2.heap.size ⟨nm.toArray⟩ ⟨#[]⟩ (.slice av n cv) (.slice none 0 0) W3):=Lib.hid (by rw [hW3];exact Box4.made _ _ _ _ _)
  have HO3 : Hid (W3.ownsRow base 82 2 (.slice av n cv) n (attrCells (sortA al))):=Lib.hid (own_bel HO2.out HW3.out)
  obtain ⟨x0,x1,x2,x3⟩:=HT3.out.at
  have hsz3 : W3.heap.size = w2.heap.size + 1:=by rw [hW3];simp
  cases em with
  | true=>
   go_upto_region 5 with fail
   rw [← hW3]
   obtain ⟨z0,z1,z2,z3,z4,_⟩:=HX3.out.at
   clear hW3 y0 y1 y2 y3 y4 hsz3
   obtain ⟨u,r,hst,hul⟩:=stk_cons fs none
   have hul1:=hul 1000000 HKL.out (by omega)
   have hR3:=HRT.out.1.below HW3.out
   rw [hst] at hR3
   obtain ⟨p,qs,va9,vk9,q,rfl,rfl⟩:=hR3.cons
   have hT3 : TreeS (fun g=>base ≤ g ∧ (if ρ g = (5,j) then (0,0) else ρ g) = (0,0)) W3 (.node nm [] (sortA al) []) [.string ⟨nm.toArray⟩,.string ⟨#[]⟩,.slice av n cv,.slice none 0 0]:=by
    rw [TreeS.eq]
    refine ⟨_,_,rfl,?_,[],by rw [KidsS],⟨none,0,rfl,Nat.le_refl _,rfl,fun h=>absurd h (by simp)⟩⟩
    have h9:=AtRowS.of_own (S:=fun g=>base ≤ g ∧ (if ρ g = (5,j) then (0,0) else ρ g) = (0,0)) HO3.out (fun b hb=>⟨(HO3.out.lt b hb).1,if_pos (HVB.out b hb)⟩)
    rw [sortA_length,← HN.out]
    exact h9
   have HADD:=Lib.hid (addR_any hR3 hT3 hul1 (by have:=HG2.out.1;have:=HW3.out.size;omega))
   have HST : Hid (stk (addTr (.node nm [] (sortA al) []) fs none).1 (addTr (.node nm [] (sortA al) []) fs none).2 = .node (trL u) (trX u) (trA u) (trK u ++ [.node nm [] (sortA al) []]) :: r):=Lib.hid (stk_add (fun _=>rfl) hst)
   have HTP : Hid ((fun b=>if ρ b = (5,j) then (0,0) else ρ b) p = (2,r.length) ∧ ∀ b,vk9.ownBlock = some b → (fun b=>if ρ b = (5,j) then (0,0) else ρ b) b = (4,r.length)):=Lib.hid ⟨hR3.tops.2.2.2.1,hR3.tops.2.2.2.2.1⟩
   clear hR3 hT3 hul hst
   go_wp2_with fail
   (with_reducible refine HADD.out.mono ?_)
   rintro e w4 ⟨rfl,hb4,ρ4,vk4,hR4,hρ4,heq4⟩
   have HB4:=Lib.hid (HG2.out.2.1.trans ((HW3.out.mono (by have:=HG2.out.1;omega)).trans hb4))
   have HFIN : Hid (TakePost base rb j ρ w (stepA fs none ⟨2,nm,tx,al,true⟩) (.returned (.bool true)) w4):=Lib.hid (by
    refine ⟨HB4.out,.inr ⟨(addTr (.node nm [] (sortA al) []) fs none).1,(addTr (.node nm [] (sortA al) []) fs none).2,ρ4,_,_,g,c,by simp [stepA],rfl,by rw [HST.out];exact hR4,fun b hb hf=>?_⟩⟩
    have hne : ρ b ≠ (5,j):=fun e=>by
     rcases hf with hf | ⟨_,hf⟩
     ·rw [e] at hf;simp at hf
     ·rw [e] at hf;exact hf rfl
    have hs2:=HG2.out.1
    have hs3:=HW3.out.size
    have hρ : (fun b=>if ρ b = (5,j) then (0,0) else ρ b) b = ρ b:=if_neg hne
    have hbad : ∀ i,i = 2 ∨ i = 4 → ρ b ≠ (i,r.length):=fun i hi e=>by
     rcases hf with hf | ⟨hf,_⟩
     ·rw [e] at hf;simp at hf;omega
     ·rw [e] at hf;simp at hf;omega
    refine ⟨(hρ4 b (by omega)).trans hρ,(heq4 b (by omega) (fun e=>?_) (fun e=>?_)).trans ((HW3.out.block b (by omega)).trans (HG2.out.2.2 b hb hne))⟩
    ·have h9:=HTP.out.1
     rw [← e] at h9
     exact hbad 2 (.inl rfl) (hρ.symm.trans h9)
    ·have h9:=HTP.out.2 b e.symm
     exact hbad 4 (.inr rfl) (hρ.symm.trans h9))
   clear hb4 hR4 hρ4 heq4
   go_wp2
   go_ret
   exact HFIN.out
  | false=>
   go_upto_region 5 with fail
   rw [← hW3]
   obtain ⟨z0,z1,z2,z3,z4,_⟩:=HX3.out.at
   clear hW3 y0 y1 y2 y3 y4
   have hR3:=HRT.out.2.below HW3.out
   obtain ⟨k0,k1,_,k3⟩:=hR3.at
   obtain ⟨N,hN⟩ : ∃ N,N = (stk fs none).length:=⟨_,rfl⟩
   rw [← hN] at k0 k3
   have HNL : Hid (N = fs.length + 1):=Lib.hid (by rw [hN,stk_len])
   obtain ⟨W4,hW4⟩ : ∃ W4,W4 = W3.alloc (.cells #[.pointer (some ⟨w2.heap.size,0,none⟩)] 122):=⟨_,rfl⟩
   have HW4 : Hid (Below W3.heap.size W3 W4):=Lib.hid (by rw [hW4];exact (Below.refl _ W3).alloc (Nat.le_refl _) _)
   have HROW : Hid (RowP W4 base g N c (ptrCells ps)):=Lib.hid (by rw [hN];exact hR3.2.2.2.1.keep (HW4.out.block g hR3.2.2.2.1.lt))
   have HNEW : Hid (W4.cell? ((⟨w2.heap.size + 1,0,none⟩ : Addr).add 0) = some (ptrV w2.heap.size)):=Lib.hid (by
    rw [add_zero_at,← hsz3,hW4]
    unfold ptrV
    simp)
   have HBW : Hid (base ≤ W4.heap.size):=Lib.hid (by have:=HG2.out.1;have:=HW3.out.size;have:=HW4.out.size;omega)
   have HN9:=Lib.hid hN
   have HRDL : Hid (rb < W3.heap.size ∧ g < W3.heap.size):=Lib.hid ⟨hR3.lt,hR3.2.2.2.1.lt⟩
   have HGR : Hid (rb ≠ g):=Lib.hid (fun e=>by have h9:=hR3.2.2.1;have h8:=hR3.2.2.2.2.1;rw [e,h8] at h9;simp at h9)
   have HR3:=Lib.hid hR3
   obtain ⟨i0,hi,hz0,hz1,hz2⟩:=info_parts infoPtr
   have HHW4 : Hid (W4 = W3.alloc (.cells #[.pointer (some ⟨w2.heap.size,0,none⟩)] 122)):=Lib.hid hW4
   have hN6 : N + 1 ≤ maxLen ∧ (N + 1) * 8 ≤ 140737488355328:=by have:=HNL.out;unfold maxLen;omega
   clear hN hR3 hW4
   go_wp2_with (at_builtin;rw [← HHW4.out];refine wpList_append_rowP rfl (.tmp 25) (.tmp 26) 123 rfl base i0 (.pointer none) 8 Tryz.underlying123 hi hz0 hz1 hz2 rfl g N c (ptrCells ps) rfl HROW.out ⟨w2.heap.size + 1,0,none⟩ 1 (ptrV w2.heap.size) (by rw [← hsz3];rfl) HNEW.out rfl hN6.1 hN6.2 HBW.out ?_;intro g5 c5 w5 hrow5 hg5 hat5;have HROW5:=Lib.hid hrow5;have HG5:=Lib.hid hg5;have HAT5:=Lib.hid hat5;have HRB5 : Hid (w5.heap[rb]? = W3.heap[rb]?):=Lib.hid ((hg5.block rb (by have:=HRDL.out.1;have:=HW4.out.size;omega) (fun e=>HGR.out (Option.some.inj e))).trans (HW4.out.block rb HRDL.out.1));have q0:=(World.cell?_of_block (a:=⟨rb,0,none⟩) HRB5.out).trans k0;have q1:=(World.frozen?_of_block (a:=⟨rb,0,none⟩) HRB5.out).trans k1;clear hrow5 hg5 hat5)
   have HFIN : Hid (TakePost base rb j ρ w (stepA fs none ⟨2,nm,tx,al,false⟩) (.returned (.bool true)) (w5.setCell ⟨rb,0,none⟩ (.slice (some ⟨g5,0,none⟩) (N + 1) c5))):=Lib.hid (by
    have hs2:=HG2.out.1
    have hs3:=HW3.out.size
    have hs4:=HW4.out.size
    have hs5:=HG5.out.size
    have hbr : base ≤ rb:=HR3.out.2.1
    have hrbw : rb < w.heap.size:=HH.out.lt
    have hgw : g < w.heap.size:=HH.out.2.2.2.1.lt
    have hset:=grownBy_setAt w5 rb 0 (.slice (some ⟨g5,0,none⟩) (N + 1) c5)
    have hgb : base ≤ g:=by obtain ⟨_,_,h9,_⟩:=HH.out.2.2.2.1;exact h9
    have hbel : Below base w (w5.setCell ⟨rb,0,none⟩ (.slice (some ⟨g5,0,none⟩) (N + 1) c5)):=
     ((HG2.out.2.1.trans ((HW3.out.mono (by omega)).trans (HW4.out.mono (by omega)))).grown HG5.out (by omega) (fun k e=>by injection e with e;omega)).setCell hbr _
    have heq : ∀ b,b < w.heap.size → b ≠ rb → b ≠ g → ρ b ≠ (5,j) → (w5.setCell ⟨rb,0,none⟩ (.slice (some ⟨g5,0,none⟩) (N + 1) c5)).heap[b]? = w.heap[b]?:=fun b hb h1 h2 h3=>by
     rw [hset.block b (by omega) (fun e=>h1 (Option.some.inj e)),HG5.out.block b (by omega) (fun e=>h2 (Option.some.inj e)),HW4.out.block b (by omega),HW3.out.block b (by omega)]
     exact HG2.out.2.2 b hb h3
    have hg5 : g5 ≠ rb:=fun e=>by
     rcases HAT5.out with h | h
     ·exact HGR.out (e.symm.trans h)
     ·omega
    have hp5 : g5 ≠ w2.heap.size:=fun e=>by
     rcases HAT5.out with h | h
     ·omega
     ·have:=HT3.out.lt;omega
    have hbox : Box4 w2.heap.size ⟨nm.toArray⟩ ⟨#[]⟩ (.slice av n cv) (.slice none 0 0) (w5.setCell ⟨rb,0,none⟩ (.slice (some ⟨g5,0,none⟩) (N + 1) c5)):=by
     have h1:=HT3.out.lt
     exact ((hset.block _ (by omega) (fun e=>by have:=Option.some.inj e;omega)).trans ((HG5.out.block _ (by omega) (fun e=>by have:=Option.some.inj e;omega)).trans (HW4.out.block _ (by omega)))).trans HT3.out
    have hown : (w5.setCell ⟨rb,0,none⟩ (.slice (some ⟨g5,0,none⟩) (N + 1) c5)).ownsRow base 82 2 (.slice av n cv) (sortA al).length (attrCells (sortA al)):=by
     rw [sortA_length,← HN.out]
     refine own_heap HO3.out (fun b hb=>?_)
     have h1:=HVB.out b hb
     have h2:=(HO3.out.lt b hb).2
     have h3:=(HV.out.lt b hb).2
     exact (hset.block b (by omega) (fun e=>by rw [Option.some.inj e] at h1;rw [HH.out.2.2.1] at h1;simp at h1)).trans ((HG5.out.block b (by omega) (fun e=>by rw [Option.some.inj e] at h1;rw [HH.out.2.2.2.2.1] at h1;simp at h1)).trans (HW4.out.block b (by omega)))
    have hrd : (w5.setCell ⟨rb,0,none⟩ (.slice (some ⟨g5,0,none⟩) (N + 1) c5)).heap[rb]? = some (.cells #[.slice (some ⟨g5,0,none⟩) ((stk fs none).length + 1) c5] 125 (0,0)):=by
     rw [← HN9.out]
     have h9:=HRB5.out.trans (HR3.out.1)
     rw [Go.Sort.setCell_eq]
     unfold Go.Sort.mapBlock
     rw [Array.getElem?_modify,if_pos rfl,h9]
     rfl
    have hrow : RowP (w5.setCell ⟨rb,0,none⟩ (.slice (some ⟨g5,0,none⟩) (N + 1) c5)) base g5 ((stk fs none).length + 1) c5 (ptrCells ps ++ [ptrV w2.heap.size]):=by
     rw [← HN9.out]
     exact HROW5.out.keep (hset.block _ HROW5.out.lt (fun e=>hg5 (Option.some.inj e)))
    obtain ⟨ρ',hR,hρ⟩:=RdV.push nm (sortA al) HH.out (by simp;omega) heq hs2 hbox hown (fun b hb=>⟨HVB.out b hb,(HV.out.lt b hb).2⟩) hrow (by rcases HAT5.out with h | h;exact .inl h;exact .inr (by omega)) hp5 hrd
    refine ⟨hbel,.inr ⟨⟨nm,sortA al,[]⟩ :: fs,none,ρ',_,_,g5,c5,by simp [stepA],rfl,hR,fun b hb hf=>?_⟩⟩
    have hne : ρ b ≠ (5,j):=fun e=>by
     rcases hf with hf | ⟨_,hf⟩
     ·rw [e] at hf;simp at hf
     ·rw [e] at hf;exact hf rfl
    refine ⟨hρ b hb hne,heq b hb (fun e=>?_) (fun e=>?_) hne⟩
    ·rw [e,HH.out.2.2.1] at hf
     rcases hf with hf | ⟨hf,_⟩
     ·simp at hf
     ·simp at hf
    ·rw [e,HH.out.2.2.2.2.1] at hf
     rcases hf with hf | ⟨hf,_⟩
     ·simp at hf
     ·simp at hf)
   go_wp2
   go_ret
   exact HFIN.out
end Go.Proofs.YtjldpkhfiffinaaGreatDoor.U
