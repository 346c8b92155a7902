/- Contracts and plain facts that the law stands on: Q16. -/
import Derived.Test.YtjldpkhfiffinaaGreatDoorZC19
namespace Go.Proofs.YtjldpkhfiffinaaGreatDoor.U
open Go.RowKit Go.Shelf
set_option maxHeartbeats 4000000 in
set_option maxRecDepth 10000 in
theorem readOpen_c4 (b k : Nat) (doc : ByteArray) (v : Value) (w : World) (hm : LayT w) (hbt : 6 ≤ b) (h : BoxS b doc (k + 1) v w) (hs : doc.size ≤ 100000) (hk : k + 1 ≤ doc.size) (hw : Whole ((bts doc).drop (k + 1))) (hc : OpenC4 k doc) :
  Calls Tryz.prog 106 #[.pointer (some ⟨b,0,none⟩)] w fun e w'=>ReadP b k doc v (openL ((bts doc).drop k)) w e w':=by
 have hl:=bts_len doc
 have HST:=Lib.hid (StK.start h)
 have HS1:=HST
 have HLAY : Hid (∀ q W,StK b doc v q w W → LayT W):=Lib.hid (fun q W k=>hm.grown k.mv.grown h.lt hbt)
 have hd : ((bts doc).drop k).drop 1 = (bts doc).drop (k + 1):=by rw [List.drop_drop]
 obtain ⟨n,hn⟩ : ∃ n,n = nameN ((bts doc).drop (k + 1)):=⟨_,rfl⟩
 have hnl:=nameN_le ((bts doc).drop (k + 1))
 rw [← hn,List.length_drop,hl] at hnl
 obtain ⟨E,hE⟩ : ∃ E,E = k + 1 + n:=⟨_,rfl⟩
 have hEs : E ≤ doc.size:=by omega
 have hdE : ((bts doc).drop (k + 1)).drop n = (bts doc).drop E:=by rw [List.drop_drop,hE]
 have hwE : Whole ((bts doc).drop E):=by
  have:=whole_name hw
  rwa [← hn,hdE] at this
 obtain ⟨nm,hnm⟩ : ∃ nm,nm = ((bts doc).drop (k + 1)).take n:=⟨_,rfl⟩
 have HNM:=Lib.hid (fun W (c : StK b doc v (k + 1) w W)=>sname_any b (k + 1) doc v W c.mv.box hk hs)
 rw [← hn,← hE,← hnm] at HNM
 have hz : w.heap.size + 1 = (w.alloc (.cells #[.int .i64 0,.string ⟨#[]⟩,.string ⟨#[]⟩,.slice none 0 0,.bool false] 119)).heap.size:=by simp
 have HS2:=Lib.hid (HST.out.below ((Below.refl _ _).alloc (Nat.le_refl _) (.cells #[.int .i64 2,.string ⟨#[]⟩,.string ⟨#[]⟩,.slice none 0 0,.bool false] 119)))
 have HK2 : Hid (BoxK (w.heap.size + 1) 2 ⟨#[]⟩ ⟨#[]⟩ (.slice none 0 0) false ((w.alloc (.cells #[.int .i64 0,.string ⟨#[]⟩,.string ⟨#[]⟩,.slice none 0 0,.bool false] 119)).alloc (.cells #[.int .i64 2,.string ⟨#[]⟩,.string ⟨#[]⟩,.slice none 0 0,.bool false] 119))):=Lib.hid (by rw [hz];exact BoxK.made _ _ _ _ _ _)
 have HBN : Hid (b < w.heap.size):=Lib.hid HST.out.lt
 have HBT:=Lib.hid hbt
 clear hz
 cases hq : nameL nm with
 | false=>
  rw [hq] at HNM
  have HA:=Lib.hid (open_none (l:=(bts doc).drop k) (by rw [hd,← hn,← hnm];exact hq))
  clear hq hn hnl hd hE hdE hwE hnm hw h hm hbt hc
  go_enter Tryz.func106,Tryz.ntmps106
  go_wp2_with fail
  refine (HNM.out _ HS2.out).mono ?_
  rintro e w3 ⟨rfl,hm3⟩
  have HS3:=Lib.hid (HS2.out.go hm3)
  have HK3:=Lib.hid (HK2.out.kept hm3.grown (by have:=HBN.out;omega))
  clear hm3
  obtain ⟨y0,y1,y2,y3,y4,t0,t1,t2,t3,t4⟩:=HK3.out.at
  have HS4:=Lib.hid (HS3.out.other (g:=w.heap.size + 1) (grow_set w3 _ 1 (.string ⟨nm.toArray⟩)) (by omega))
  obtain ⟨c0,c1,c2,c3,c4,f0,f1,f2,f3,f4⟩:=HS4.out.bx.at
  go_wp2
  (try simp only [Exit.inBlock,Exit.then])
  refine ret_cell rfl rfl (HS4.out.bx.set _ _ _ _ _) Tryz.underlying119 rfl (by kernel_rfl) rfl ?_
  exact .inr ⟨HA.out,_,_,_,_,_,_,_,E,hEs,rfl,HS4.out.mv.own5 HS4.out.lt _ _ _ _ _⟩
 | true=>
  rw [hq] at HNM
  obtain ⟨RES,hRES⟩ : ∃ RES,RES = attrsB (doc.size - (k + 1) + 1) [] ((bts doc).drop E):=⟨_,rfl⟩
  have HAO : Hid (openL ((bts doc).drop k) = (finB ((bts doc).drop E) RES).map fun x=>(⟨2,nm,[],x.1,x.2.1⟩,1 + n + x.2.2)):=Lib.hid (by
   rw [open_some (l:=(bts doc).drop k) (by rw [hd,← hn,← hnm];exact hq),hd,← hn,hdE,← hnm,attrs_same _ _ _ rfl,List.length_drop,hl,hRES])
  have HRES:=Lib.hid hRES
  have HCC : Hid (∀ al m,RES = some (al,m) → begL [47,62] ((bts doc).drop (E + m)) = false ∧ begL [62] ((bts doc).drop (E + m)) = true ∧ dupA [] al = true):=Lib.hid (fun al m e=>by
   have:=hc al m (by rw [← hn,← hE,← hRES];exact e)
   rw [← hn,← hE] at this
   exact this)
  have HWE:=Lib.hid hwE
  have HE:=Lib.hid hE
  have HIA:=Lib.hid infoA
  have hkE : k + 1 ≤ E:=by omega
  clear hq hn hnl hd hE hdE hwE hnm hw h hm hbt hRES hc
  go_enter Tryz.func106,Tryz.ntmps106
  go_wp2_with fail
  refine (HNM.out _ HS2.out).mono ?_
  rintro e w3 ⟨rfl,hm3⟩
  have HS3:=Lib.hid (HS2.out.go hm3)
  have HK3:=Lib.hid (HK2.out.kept hm3.grown (by have:=HBN.out;omega))
  clear hm3
  obtain ⟨y0,y1,y2,y3,y4,t0,t1,t2,t3,t4⟩:=HK3.out.at
  have HS4:=Lib.hid (HS3.out.other (g:=w.heap.size + 1) (grow_set w3 _ 1 (.string ⟨nm.toArray⟩)) (by omega))
  have HO4 : Hid (StO b doc v E ⟨nm.toArray⟩ [] (.slice none 0 0) false w (w3.setCell ⟨w.heap.size + 1,1,none⟩ (.string ⟨nm.toArray⟩))):=Lib.hid ⟨HS4.out,HK3.out.setN _,World.ownsRow_nil _ _ _ _⟩
  clear y0 y2 y3 y4 t0 t2 t3 t4
  go_wp2_with fail
  clear y1 t1
  go_loopw [] (fun wr=>∃ (p f : Nat) (acc : List (List UInt8 × List UInt8)) (va : Option Addr) (vc : Nat),E ≤ p ∧ p ≤ doc.size ∧ doc.size - p < f ∧ acc.length ≤ p ∧ Hid (StO b doc v p ⟨nm.toArray⟩ acc (.slice va acc.length vc) false w wr) ∧ Hid (Whole ((bts doc).drop p)) ∧ Hid (RES = (attrsB f acc ((bts doc).drop p)).map fun x=>(x.1,p - E + x.2)) ∧ Hid (∀ a ∈ acc,a.1.length ≤ 64)) (fun wr=>doc.size - placeOf b wr)
  case atStart=>exact ⟨E,doc.size - (k + 1) + 1,[],none,0,Nat.le_refl _,hEs,by omega,by simp,HO4,HWE,Lib.hid (by
   rw [HRES.out]
   cases attrsB (doc.size - (k + 1) + 1) [] ((bts doc).drop E) with
   | none=>rfl
   | some x=>simp),Lib.hid (fun a ha=>by cases ha)⟩
  case round=>
   obtain ⟨p,f,acc,va,vc,hEp,hp,hf,hacc,HO,HW,HR,HN⟩:=hrel
   obtain ⟨f,rfl⟩ : ∃ g,f = g + 1:=⟨f - 1,by omega⟩
   obtain ⟨b1,hb1⟩ : ∃ b1,b1 = blankN ((bts doc).drop p):=⟨_,rfl⟩
   obtain ⟨p2,hp2⟩ : ∃ p2,p2 = p + b1:=⟨_,rfl⟩
   have hbl:=blankN_le ((bts doc).drop p)
   rw [List.length_drop,hl,← hb1] at hbl
   have h2s : p2 ≤ doc.size:=by omega
   have hE2 : E ≤ p2:=by omega
   have hd2 : ((bts doc).drop p).drop b1 = (bts doc).drop p2:=by rw [List.drop_drop,hp2]
   have HW2 : Hid (Whole ((bts doc).drop p2)):=Lib.hid (by
    have:=whole_blank HW.out
    rwa [← hb1,hd2] at this)
   have HBK:=Lib.hid (fun W em (c : StO b doc v p ⟨nm.toArray⟩ acc (.slice va acc.length vc) em w W)=>sblanks_any b p doc v W c.st.mv.box hp hs)
   rw [← hb1,← hp2] at HBK
   have HEN:=Lib.hid (fun W em (c : StO b doc v p2 ⟨nm.toArray⟩ acc (.slice va acc.length vc) em w W)=>ends_any b p2 doc v W c.st.mv.box h2s)
   obtain ⟨q0,hq0⟩ : ∃ q0,q0 = decide (0 < b1):=⟨_,rfl⟩
   obtain ⟨qe,hqe⟩ : ∃ qe,qe = (begL [47,62] ((bts doc).drop p2) || begL [62] ((bts doc).drop p2)):=⟨_,rfl⟩
   rw [← hq0] at HBK
   rw [← hqe] at HEN
   have HPL:=Lib.hid (placeOf_box HO.out.st.mv.box)
   by_cases hgo : q0 = true ∧ qe = false
   ·obtain ⟨rfl,rfl⟩:=hgo
    have hb0 : 0 < b1:=by simpa using hq0.symm
    have hp2p : p < p2:=by omega
    have HRA:=Lib.hid (fun W em (c : StO b doc v p2 ⟨nm.toArray⟩ acc (.slice va acc.length vc) em w W)=>readAttr_any b p2 doc v W (HLAY.out _ _ c.st) HBT.out c.st.mv.box h2s hs HW2.out)
    have hst : attrsB (f + 1) acc ((bts doc).drop p) = match attrL ((bts doc).drop p2) with
      | none=>none
      | some (a,j)=>(attrsB f (acc ++ [a]) ((bts doc).drop (p2 + j))).map fun x=>(x.1,b1 + j + x.2):=by
     simp only [attrsB]
     rw [← hb1,if_neg (by omega),hd2,if_neg (by rw [← hqe];simp)]
     cases attrL ((bts doc).drop p2) with
     | none=>rfl
     | some y=>obtain ⟨a,j⟩:=y;simp only [List.drop_drop]
    cases ha : attrL ((bts doc).drop p2) with
    | none=>
     have HA : Hid (openL ((bts doc).drop k) = none):=Lib.hid (by rw [HAO.out,HR.out,hst,ha];rfl)
     have HRN : Hid (∀ W em,StO b doc v p2 ⟨nm.toArray⟩ acc (.slice va acc.length vc) em w W → Calls Tryz.prog 130 #[.pointer (some ⟨b,0,none⟩)] W fun e w'=>∃ x y q,q ≤ doc.size ∧ e = .returned (.tuple #[.agg #[.string x,.string y],.bool false]) ∧ Moves b doc v q W w'):=Lib.hid (fun W em c=>(HRA.out W em c).mono (by
      rintro e w' (⟨_,_,h1,_⟩ | ⟨_,h2⟩)
      ·rw [ha] at h1;cases h1
      ·exact h2))
     clear hb1 hp2 hbl hd2 hq0 hqe hst ha
     go_wp2_with fail
     refine (HBK.out _ _ HO.out).mono ?_
     rintro e w5 ⟨rfl,hm5⟩
     have HO5:=Lib.hid (HO.out.go hm5)
     clear hm5
     go_wp2_with fail
     refine (HEN.out _ _ HO5.out).mono ?_
     rintro e w6 ⟨rfl,hm6⟩
     have HO6:=Lib.hid (HO5.out.go hm6)
     clear hm6
     go_wp2_with fail
     refine (HRN.out _ _ HO6.out).mono ?_
     rintro e w7 ⟨x,y,q,hqs,rfl,hm7⟩
     have HO7:=Lib.hid ((HO6.out.go hm7).below ((Below.refl _ w7).alloc (Nat.le_refl _) (.cells #[.string x,.string y] 82)))
     have HS7:=Lib.hid HO7.out.st
     clear hm7
     obtain ⟨c0,c1,c2,c3,c4,f0,f1,f2,f3,f4⟩:=HS7.out.bx.at
     go_wp2
     (try simp only [Exit.inBlock,Exit.then])
     refine ret_cell rfl rfl (HS7.out.bx.set _ _ _ _ _) Tryz.underlying119 rfl (by kernel_rfl) rfl ?_
     exact .inr ⟨HA.out,_,_,_,_,_,_,_,q,hqs,rfl,HS7.out.mv.own5 HS7.out.lt _ _ _ _ _⟩
    | some y=>
     obtain ⟨a,j⟩:=y
     obtain ⟨_,_,hj1,hj2,hwj⟩:=attr_ok HW2.out ha
     have hnl2:=attr_name_len HW2.out ha
     rw [List.length_drop,hl] at hj2
     rw [List.drop_drop] at hwj
     obtain ⟨p3,hp3⟩ : ∃ p3,p3 = p2 + j:=⟨_,rfl⟩
     rw [← hp3] at hwj
     have hst2:=hst
     rw [ha] at hst2
     simp only [← hp3] at hst2
     have HRN : Hid (∀ W em,StO b doc v p2 ⟨nm.toArray⟩ acc (.slice va acc.length vc) em w W → Calls Tryz.prog 130 #[.pointer (some ⟨b,0,none⟩)] W fun e w'=>e = .returned (.tuple #[.agg #[.string ⟨a.1.toArray⟩,.string ⟨a.2.toArray⟩],.bool true]) ∧ Moves b doc v p3 W w'):=Lib.hid (fun W em c=>(HRA.out W em c).mono (by
      rintro e w' (⟨a',n',h1,h2,h3⟩ | ⟨h1,_⟩)
      ·rw [ha] at h1
       obtain ⟨rfl,rfl⟩:=Prod.mk.inj (Option.some.inj h1)
       rw [← hp3] at h3
       exact ⟨h2,h3⟩
      ·rw [ha] at h1;cases h1))
     have HRX : Hid (RES = (attrsB f (acc ++ [a]) ((bts doc).drop p3)).map fun x=>(x.1,p3 - E + x.2)):=Lib.hid (by
      rw [HR.out,hst2,Option.map_map]
      congr 1
      funext x
      simp only [Function.comp]
      rw [show p - E + (b1 + j + x.2) = p3 - E + x.2 by omega])
     have HNX : Hid (∀ c ∈ acc ++ [a],c.1.length ≤ 64):=Lib.hid (fun c hc=>by
      rcases List.mem_append.1 hc with h | h
      ·exact HN.out c h
      ·obtain rfl:=List.mem_singleton.1 h;exact hnl2)
     have HWJ:=Lib.hid hwj
     have h3s : p3 ≤ doc.size:=by omega
     have hp3p : p < p3:=by omega
     clear hb1 hp2 hbl hd2 hq0 hqe hst hst2 ha hj1 hj2 hwj hnl2 hp3
     go_wp2_with fail
     refine (HBK.out _ _ HO.out).mono ?_
     rintro e w5 ⟨rfl,hm5⟩
     have HO5:=Lib.hid (HO.out.go hm5)
     clear hm5
     go_wp2_with fail
     refine (HEN.out _ _ HO5.out).mono ?_
     rintro e w6 ⟨rfl,hm6⟩
     have HO6:=Lib.hid (HO5.out.go hm6)
     clear hm6
     go_wp2_with fail
     refine (HRN.out _ _ HO6.out).mono ?_
     rintro e w7 ⟨rfl,hm7⟩
     have HO7:=Lib.hid ((HO6.out.go hm7).below ((Below.refl _ w7).alloc (Nat.le_refl _) (.cells #[.string ⟨a.1.toArray⟩,.string ⟨a.2.toArray⟩] 82)))
     have HBX:=Lib.hid (Box2.new 82 ⟨a.1.toArray⟩ ⟨a.2.toArray⟩ w7)
     have HZ7 : Hid (w.heap.size + 2 ≤ w7.heap.size):=Lib.hid (by have:=(HO6.out.go hm7).bk.lt;omega)
     clear hm7
     obtain ⟨_,_,_,y3,_,_,_,_,t3,_⟩:=HO7.out.bk.at
     obtain ⟨x0,x1,_,_⟩:=HBX.out.at
     obtain ⟨i0,hi,hz0,hz1,hz2⟩:=info_parts HIA.out
     have HN2:=Lib.hid (cell_two_new (w7.alloc (.cells #[.string ⟨a.1.toArray⟩,.string ⟨a.2.toArray⟩] 82)) (.string ⟨a.1.toArray⟩) (.string ⟨a.2.toArray⟩) 82)
     rw [show (w7.alloc (.cells #[.string ⟨a.1.toArray⟩,.string ⟨a.2.toArray⟩] 82)).heap.size = w7.heap.size + 1 by simp] at HN2
     have HO8:=Lib.hid (HO7.out.below ((Below.refl _ _).alloc (Nat.le_refl _) (.cells #[.string ⟨a.1.toArray⟩,.string ⟨a.2.toArray⟩] 82)))
     go_wp2_with (at_builtin;go_loud (refine wpList_append_own _ rfl _ _ 24 rfl (w.heap.size + 2) 82 i0 (.agg #[.string ⟨#[]⟩,.string ⟨#[]⟩]) 2 32 Tryz.underlying24 hi hz0 hz1 hz2 rfl (by decide) _ _ _ rfl HO8.out.ow ⟨w7.heap.size + 1,0,none⟩ 1 1 [.string ⟨a.1.toArray⟩,.string ⟨a.2.toArray⟩] rfl rfl HN2.out (by simp [Value.oneCell']) (by unfold maxLen;omega) (by omega) (by have:=HZ7.out;simp;omega) ?_);intro v9 w9 hown9 hgrow9 _;obtain ⟨va9,vc9,rfl⟩:=own_slice hown9;have HB9:=Lib.hid (HO8.out.bk.grow hgrow9 (fun j e=>by have:=(HO8.out.ow.lt j e).1;omega));have HS9:=Lib.hid (HO8.out.st.grow hgrow9 (fun j e=>by have:=(HO8.out.ow.lt j e).1;omega));have HOW9:=Lib.hid hown9;clear hgrow9 hown9;obtain ⟨_,_,_,z3,_,_,_,_,u3,_⟩:=HB9.out.at)
     have HO9 : Hid (StO b doc v p3 ⟨nm.toArray⟩ (acc ++ [a]) (.slice va9 (acc ++ [a]).length vc9) false w (w9.setCell ⟨w.heap.size + 1,3,none⟩ (.slice va9 (acc.length + 1) vc9))):=Lib.hid ⟨HS9.out.other (grow_set w9 (w.heap.size + 1) 3 _) (by omega),by rw [List.length_append,List.length_singleton];exact HB9.out.setV _,by
      rw [List.length_append,List.length_singleton,show attrCells (acc ++ [a]) = attrCells acc ++ [.string ⟨a.1.toArray⟩,.string ⟨a.2.toArray⟩] by unfold attrCells;rw [List.flatMap_append];rfl]
      exact ownsRow_setCell_below HOW9.out (a:=⟨w.heap.size + 1,3,none⟩) (by simp) _⟩
     exact ⟨⟨p3,f,acc ++ [a],va9,vc9,by omega,h3s,by omega,by simp;omega,HO9,HWJ,HRX,HNX⟩,by rw [placeOf_box HO9.out.st.mv.box,HPL.out];omega⟩
   ·have HQE : Hid (q0 = true → qe = true):=Lib.hid (fun e=>by cases qe with | true=>rfl | false=>exact absurd ⟨e,rfl⟩ hgo)
    have HQ : Hid (RES = some (acc,p2 - E)):=Lib.hid (by
     rw [HR.out]
     simp only [attrsB]
     rw [← hb1,hd2]
     by_cases h0 : b1 = 0
     ·rw [if_pos h0];simp;omega
     ·rw [if_neg h0,if_pos (by rw [← hqe];exact HQE.out (by rw [hq0];simp;omega))];simp;omega)
    have hdr : ((bts doc).drop E).drop (p2 - E) = (bts doc).drop p2:=by rw [List.drop_drop,show E + (p2 - E) = p2 by omega]
    have HF : Hid (openL ((bts doc).drop k) = (if begL [47,62] ((bts doc).drop p2) = true then (if dupA [] acc = true then none else some (acc,true,p2 - E + 2))
      else if begL [62] ((bts doc).drop p2) = true then (if dupA [] acc = true then none else some (acc,false,p2 - E + 1)) else none).map fun x=>(⟨2,nm,[],x.1,x.2.1⟩,1 + n + x.2.2)):=Lib.hid (by rw [HAO.out,HQ.out];simp only [finB];rw [hdr])
    have HTW : Hid (∀ W p em,StO b doc v p ⟨nm.toArray⟩ acc (.slice va acc.length vc) em w W → Calls Tryz.prog 131 #[.slice va acc.length vc] W fun e w'=>e = .returned (.bool (dupA [] acc)) ∧ StO b doc v p ⟨nm.toArray⟩ acc (.slice va acc.length vc) em w w'):=Lib.hid (fun W p em c=>(twice_any acc (.slice va acc.length vc) W c.row (by omega) (fun a ha=>by have:=HN.out a ha;omega)).mono (by
     rintro e w' ⟨h1,h2⟩
     exact ⟨h1,c.below h2⟩))
    have HC2:=HCC.out _ _ HQ.out
    rw [show E + (p2 - E) = p2 by omega] at HC2
    clear hb1 hp2 hbl hd2 hq0 hqe hgo hdr
    obtain ⟨hE,hG,hD⟩:=HC2
    have HSE:=Lib.hid (fun W em (c : StO b doc v p2 ⟨nm.toArray⟩ acc (.slice va acc.length vc) em w W)=>skip_no b p2 doc ⟨#[47,62]⟩ v W c.st.mv.box h2s hs hE)
    have h1e : p2 + 1 ≤ doc.size:=by have:=begL_len hG;rw [List.length_drop,hl] at this;simp at this;omega
    have HSG : Hid (∀ W em,StO b doc v p2 ⟨nm.toArray⟩ acc (.slice va acc.length vc) em w W → Calls Tryz.prog 107 #[.pointer (some ⟨b,0,none⟩),.string ⟨#[62]⟩] W fun r w'=>r = .returned (.bool true) ∧ Moves b doc v (p2 + 1) W w'):=Lib.hid (fun W em c=>skip_yes b p2 doc ⟨#[62]⟩ v W c.st.mv.box h2s hs hG)
    have HA : Hid (openL ((bts doc).drop k) = none):=Lib.hid (by rw [HF.out,hE,hG,hD];rfl)
    rw [hD] at HTW
    clear hE hG hD
    cases q0
    case' false=>
     go_wp2_with fail
     refine (HBK.out _ _ HO.out).mono ?_
     rintro e w9 ⟨rfl,hm9⟩
     have HO9:=Lib.hid (HO.out.go hm9)
     clear hm9
    case' true=>
     obtain rfl:=HQE.out rfl
     go_wp2_with fail
     refine (HBK.out _ _ HO.out).mono ?_
     rintro e w8 ⟨rfl,hm8⟩
     have HO8:=Lib.hid (HO.out.go hm8)
     clear hm8
     go_wp2_with fail
     refine (HEN.out _ _ HO8.out).mono ?_
     rintro e w9 ⟨rfl,hm9⟩
     have HO9:=Lib.hid (HO8.out.go hm9)
     clear hm9
    all_goals
     go_wp2_with fail
     refine (HSE.out _ _ HO9.out).mono ?_
     rintro e w10 ⟨rfl,hm10⟩
     have HO10:=Lib.hid (HO9.out.go hm10)
     clear hm10
     obtain ⟨_,_,_,_,y4,_,_,_,_,t4⟩:=HO10.out.bk.at
     go_wp2_with fail
     have HO11:=Lib.hid (HO10.out.setE false)
     clear y4 t4
     obtain ⟨y0,y1,y2,y3,y4,_,_,_,_,_⟩:=HO11.out.bk.at
     obtain ⟨c0,c1,c2,c3,c4,f0,f1,f2,f3,f4⟩:=HO11.out.st.bx.at
     (first | go_region_with (first | (go_at_call 107;refine (HSG.out _ _ (StO.drew HO11.out)).mono ?_;rintro e w12 ⟨rfl,hm12⟩;have HO12:=Lib.hid ((StO.drew HO11.out).go hm12);clear hm12;obtain ⟨z0,z1,z2,z3,z4,_,_,_,_,_⟩:=HO12.out.bk.at;obtain ⟨k0,k1,k2,k3,k4,l0,l1,l2,l3,l4⟩:=HO12.out.st.bx.at) | (go_at_call 131;refine (HTW.out _ _ _ HO12.out).mono ?_;rintro e w13 ⟨rfl,hs13⟩;have HO13:=Lib.hid hs13;clear hs13;obtain ⟨r0,r1,r2,r3,r4,_,_,_,_,_⟩:=HO13.out.bk.at;obtain ⟨x0,x1,x2,x3,x4,u0,u1,u2,u3,u4⟩:=HO13.out.st.bx.at)) | fail)
     all_goals
      (try go_wp2)
      (try simp only [Exit.inBlock,Exit.then])
      refine ret_cell rfl rfl (HO13.out.st.bx.set _ _ _ _ _) Tryz.underlying119 rfl (by kernel_rfl) rfl ?_
      exact .inr ⟨HA.out,_,_,_,_,_,_,_,p2 + 1,h1e,rfl,HO13.out.st.mv.own5 HO13.out.st.lt _ _ _ _ _⟩
set_option maxHeartbeats 4000000 in
set_option maxRecDepth 10000 in
theorem readOpen_c5 (b k : Nat) (doc : ByteArray) (v : Value) (w : World) (hm : LayT w) (hbt : 6 ≤ b) (h : BoxS b doc (k + 1) v w) (hs : doc.size ≤ 100000) (hk : k + 1 ≤ doc.size) (hw : Whole ((bts doc).drop (k + 1))) (hc : OpenC5 k doc) :
  Calls Tryz.prog 106 #[.pointer (some ⟨b,0,none⟩)] w fun e w'=>ReadP b k doc v (openL ((bts doc).drop k)) w e w':=by
 have hl:=bts_len doc
 have HST:=Lib.hid (StK.start h)
 have HS1:=HST
 have HLAY : Hid (∀ q W,StK b doc v q w W → LayT W):=Lib.hid (fun q W k=>hm.grown k.mv.grown h.lt hbt)
 have hd : ((bts doc).drop k).drop 1 = (bts doc).drop (k + 1):=by rw [List.drop_drop]
 obtain ⟨n,hn⟩ : ∃ n,n = nameN ((bts doc).drop (k + 1)):=⟨_,rfl⟩
 have hnl:=nameN_le ((bts doc).drop (k + 1))
 rw [← hn,List.length_drop,hl] at hnl
 obtain ⟨E,hE⟩ : ∃ E,E = k + 1 + n:=⟨_,rfl⟩
 have hEs : E ≤ doc.size:=by omega
 have hdE : ((bts doc).drop (k + 1)).drop n = (bts doc).drop E:=by rw [List.drop_drop,hE]
 have hwE : Whole ((bts doc).drop E):=by
  have:=whole_name hw
  rwa [← hn,hdE] at this
 obtain ⟨nm,hnm⟩ : ∃ nm,nm = ((bts doc).drop (k + 1)).take n:=⟨_,rfl⟩
 have HNM:=Lib.hid (fun W (c : StK b doc v (k + 1) w W)=>sname_any b (k + 1) doc v W c.mv.box hk hs)
 rw [← hn,← hE,← hnm] at HNM
 have hz : w.heap.size + 1 = (w.alloc (.cells #[.int .i64 0,.string ⟨#[]⟩,.string ⟨#[]⟩,.slice none 0 0,.bool false] 119)).heap.size:=by simp
 have HS2:=Lib.hid (HST.out.below ((Below.refl _ _).alloc (Nat.le_refl _) (.cells #[.int .i64 2,.string ⟨#[]⟩,.string ⟨#[]⟩,.slice none 0 0,.bool false] 119)))
 have HK2 : Hid (BoxK (w.heap.size + 1) 2 ⟨#[]⟩ ⟨#[]⟩ (.slice none 0 0) false ((w.alloc (.cells #[.int .i64 0,.string ⟨#[]⟩,.string ⟨#[]⟩,.slice none 0 0,.bool false] 119)).alloc (.cells #[.int .i64 2,.string ⟨#[]⟩,.string ⟨#[]⟩,.slice none 0 0,.bool false] 119))):=Lib.hid (by rw [hz];exact BoxK.made _ _ _ _ _ _)
 have HBN : Hid (b < w.heap.size):=Lib.hid HST.out.lt
 have HBT:=Lib.hid hbt
 clear hz
 cases hq : nameL nm with
 | false=>
  rw [hq] at HNM
  have HA:=Lib.hid (open_none (l:=(bts doc).drop k) (by rw [hd,← hn,← hnm];exact hq))
  clear hq hn hnl hd hE hdE hwE hnm hw h hm hbt hc
  go_enter Tryz.func106,Tryz.ntmps106
  go_wp2_with fail
  refine (HNM.out _ HS2.out).mono ?_
  rintro e w3 ⟨rfl,hm3⟩
  have HS3:=Lib.hid (HS2.out.go hm3)
  have HK3:=Lib.hid (HK2.out.kept hm3.grown (by have:=HBN.out;omega))
  clear hm3
  obtain ⟨y0,y1,y2,y3,y4,t0,t1,t2,t3,t4⟩:=HK3.out.at
  have HS4:=Lib.hid (HS3.out.other (g:=w.heap.size + 1) (grow_set w3 _ 1 (.string ⟨nm.toArray⟩)) (by omega))
  obtain ⟨c0,c1,c2,c3,c4,f0,f1,f2,f3,f4⟩:=HS4.out.bx.at
  go_wp2
  (try simp only [Exit.inBlock,Exit.then])
  refine ret_cell rfl rfl (HS4.out.bx.set _ _ _ _ _) Tryz.underlying119 rfl (by kernel_rfl) rfl ?_
  exact .inr ⟨HA.out,_,_,_,_,_,_,_,E,hEs,rfl,HS4.out.mv.own5 HS4.out.lt _ _ _ _ _⟩
 | true=>
  rw [hq] at HNM
  obtain ⟨RES,hRES⟩ : ∃ RES,RES = attrsB (doc.size - (k + 1) + 1) [] ((bts doc).drop E):=⟨_,rfl⟩
  have HAO : Hid (openL ((bts doc).drop k) = (finB ((bts doc).drop E) RES).map fun x=>(⟨2,nm,[],x.1,x.2.1⟩,1 + n + x.2.2)):=Lib.hid (by
   rw [open_some (l:=(bts doc).drop k) (by rw [hd,← hn,← hnm];exact hq),hd,← hn,hdE,← hnm,attrs_same _ _ _ rfl,List.length_drop,hl,hRES])
  have HRES:=Lib.hid hRES
  have HCC : Hid (∀ al m,RES = some (al,m) → begL [47,62] ((bts doc).drop (E + m)) = false ∧ begL [62] ((bts doc).drop (E + m)) = true ∧ dupA [] al = false):=Lib.hid (fun al m e=>by
   have:=hc al m (by rw [← hn,← hE,← hRES];exact e)
   rw [← hn,← hE] at this
   exact this)
  have HWE:=Lib.hid hwE
  have HE:=Lib.hid hE
  have HIA:=Lib.hid infoA
  have hkE : k + 1 ≤ E:=by omega
  clear hq hn hnl hd hE hdE hwE hnm hw h hm hbt hRES hc
  go_enter Tryz.func106,Tryz.ntmps106
  go_wp2_with fail
  refine (HNM.out _ HS2.out).mono ?_
  rintro e w3 ⟨rfl,hm3⟩
  have HS3:=Lib.hid (HS2.out.go hm3)
  have HK3:=Lib.hid (HK2.out.kept hm3.grown (by have:=HBN.out;omega))
  clear hm3
  obtain ⟨y0,y1,y2,y3,y4,t0,t1,t2,t3,t4⟩:=HK3.out.at
  have HS4:=Lib.hid (HS3.out.other (g:=w.heap.size + 1) (grow_set w3 _ 1 (.string ⟨nm.toArray⟩)) (by omega))
  have HO4 : Hid (StO b doc v E ⟨nm.toArray⟩ [] (.slice none 0 0) false w (w3.setCell ⟨w.heap.size + 1,1,none⟩ (.string ⟨nm.toArray⟩))):=Lib.hid ⟨HS4.out,HK3.out.setN _,World.ownsRow_nil _ _ _ _⟩
  clear y0 y2 y3 y4 t0 t2 t3 t4
  go_wp2_with fail
  clear y1 t1
  go_loopw [] (fun wr=>∃ (p f : Nat) (acc : List (List UInt8 × List UInt8)) (va : Option Addr) (vc : Nat),E ≤ p ∧ p ≤ doc.size ∧ doc.size - p < f ∧ acc.length ≤ p ∧ Hid (StO b doc v p ⟨nm.toArray⟩ acc (.slice va acc.length vc) false w wr) ∧ Hid (Whole ((bts doc).drop p)) ∧ Hid (RES = (attrsB f acc ((bts doc).drop p)).map fun x=>(x.1,p - E + x.2)) ∧ Hid (∀ a ∈ acc,a.1.length ≤ 64)) (fun wr=>doc.size - placeOf b wr)
  case atStart=>exact ⟨E,doc.size - (k + 1) + 1,[],none,0,Nat.le_refl _,hEs,by omega,by simp,HO4,HWE,Lib.hid (by
   rw [HRES.out]
   cases attrsB (doc.size - (k + 1) + 1) [] ((bts doc).drop E) with
   | none=>rfl
   | some x=>simp),Lib.hid (fun a ha=>by cases ha)⟩
  case round=>
   obtain ⟨p,f,acc,va,vc,hEp,hp,hf,hacc,HO,HW,HR,HN⟩:=hrel
   obtain ⟨f,rfl⟩ : ∃ g,f = g + 1:=⟨f - 1,by omega⟩
   obtain ⟨b1,hb1⟩ : ∃ b1,b1 = blankN ((bts doc).drop p):=⟨_,rfl⟩
   obtain ⟨p2,hp2⟩ : ∃ p2,p2 = p + b1:=⟨_,rfl⟩
   have hbl:=blankN_le ((bts doc).drop p)
   rw [List.length_drop,hl,← hb1] at hbl
   have h2s : p2 ≤ doc.size:=by omega
   have hE2 : E ≤ p2:=by omega
   have hd2 : ((bts doc).drop p).drop b1 = (bts doc).drop p2:=by rw [List.drop_drop,hp2]
   have HW2 : Hid (Whole ((bts doc).drop p2)):=Lib.hid (by
    have:=whole_blank HW.out
    rwa [← hb1,hd2] at this)
   have HBK:=Lib.hid (fun W em (c : StO b doc v p ⟨nm.toArray⟩ acc (.slice va acc.length vc) em w W)=>sblanks_any b p doc v W c.st.mv.box hp hs)
   rw [← hb1,← hp2] at HBK
   have HEN:=Lib.hid (fun W em (c : StO b doc v p2 ⟨nm.toArray⟩ acc (.slice va acc.length vc) em w W)=>ends_any b p2 doc v W c.st.mv.box h2s)
   obtain ⟨q0,hq0⟩ : ∃ q0,q0 = decide (0 < b1):=⟨_,rfl⟩
   obtain ⟨qe,hqe⟩ : ∃ qe,qe = (begL [47,62] ((bts doc).drop p2) || begL [62] ((bts doc).drop p2)):=⟨_,rfl⟩
   rw [← hq0] at HBK
   rw [← hqe] at HEN
   have HPL:=Lib.hid (placeOf_box HO.out.st.mv.box)
   by_cases hgo : q0 = true ∧ qe = false
   ·obtain ⟨rfl,rfl⟩:=hgo
    have hb0 : 0 < b1:=by simpa using hq0.symm
    have hp2p : p < p2:=by omega
    have HRA:=Lib.hid (fun W em (c : StO b doc v p2 ⟨nm.toArray⟩ acc (.slice va acc.length vc) em w W)=>readAttr_any b p2 doc v W (HLAY.out _ _ c.st) HBT.out c.st.mv.box h2s hs HW2.out)
    have hst : attrsB (f + 1) acc ((bts doc).drop p) = match attrL ((bts doc).drop p2) with
      | none=>none
      | some (a,j)=>(attrsB f (acc ++ [a]) ((bts doc).drop (p2 + j))).map fun x=>(x.1,b1 + j + x.2):=by
     simp only [attrsB]
     rw [← hb1,if_neg (by omega),hd2,if_neg (by rw [← hqe];simp)]
     cases attrL ((bts doc).drop p2) with
     | none=>rfl
     | some y=>obtain ⟨a,j⟩:=y;simp only [List.drop_drop]
    cases ha : attrL ((bts doc).drop p2) with
    | none=>
     have HA : Hid (openL ((bts doc).drop k) = none):=Lib.hid (by rw [HAO.out,HR.out,hst,ha];rfl)
     have HRN : Hid (∀ W em,StO b doc v p2 ⟨nm.toArray⟩ acc (.slice va acc.length vc) em w W → Calls Tryz.prog 130 #[.pointer (some ⟨b,0,none⟩)] W fun e w'=>∃ x y q,q ≤ doc.size ∧ e = .returned (.tuple #[.agg #[.string x,.string y],.bool false]) ∧ Moves b doc v q W w'):=Lib.hid (fun W em c=>(HRA.out W em c).mono (by
      rintro e w' (⟨_,_,h1,_⟩ | ⟨_,h2⟩)
      ·rw [ha] at h1;cases h1
      ·exact h2))
     clear hb1 hp2 hbl hd2 hq0 hqe hst ha
     go_wp2_with fail
     refine (HBK.out _ _ HO.out).mono ?_
     rintro e w5 ⟨rfl,hm5⟩
     have HO5:=Lib.hid (HO.out.go hm5)
     clear hm5
     go_wp2_with fail
     refine (HEN.out _ _ HO5.out).mono ?_
     rintro e w6 ⟨rfl,hm6⟩
     have HO6:=Lib.hid (HO5.out.go hm6)
     clear hm6
     go_wp2_with fail
     refine (HRN.out _ _ HO6.out).mono ?_
     rintro e w7 ⟨x,y,q,hqs,rfl,hm7⟩
     have HO7:=Lib.hid ((HO6.out.go hm7).below ((Below.refl _ w7).alloc (Nat.le_refl _) (.cells #[.string x,.string y] 82)))
     have HS7:=Lib.hid HO7.out.st
     clear hm7
     obtain ⟨c0,c1,c2,c3,c4,f0,f1,f2,f3,f4⟩:=HS7.out.bx.at
     go_wp2
     (try simp only [Exit.inBlock,Exit.then])
     refine ret_cell rfl rfl (HS7.out.bx.set _ _ _ _ _) Tryz.underlying119 rfl (by kernel_rfl) rfl ?_
     exact .inr ⟨HA.out,_,_,_,_,_,_,_,q,hqs,rfl,HS7.out.mv.own5 HS7.out.lt _ _ _ _ _⟩
    | some y=>
     obtain ⟨a,j⟩:=y
     obtain ⟨_,_,hj1,hj2,hwj⟩:=attr_ok HW2.out ha
     have hnl2:=attr_name_len HW2.out ha
     rw [List.length_drop,hl] at hj2
     rw [List.drop_drop] at hwj
     obtain ⟨p3,hp3⟩ : ∃ p3,p3 = p2 + j:=⟨_,rfl⟩
     rw [← hp3] at hwj
     have hst2:=hst
     rw [ha] at hst2
     simp only [← hp3] at hst2
     have HRN : Hid (∀ W em,StO b doc v p2 ⟨nm.toArray⟩ acc (.slice va acc.length vc) em w W → Calls Tryz.prog 130 #[.pointer (some ⟨b,0,none⟩)] W fun e w'=>e = .returned (.tuple #[.agg #[.string ⟨a.1.toArray⟩,.string ⟨a.2.toArray⟩],.bool true]) ∧ Moves b doc v p3 W w'):=Lib.hid (fun W em c=>(HRA.out W em c).mono (by
      rintro e w' (⟨a',n',h1,h2,h3⟩ | ⟨h1,_⟩)
      ·rw [ha] at h1
       obtain ⟨rfl,rfl⟩:=Prod.mk.inj (Option.some.inj h1)
       rw [← hp3] at h3
       exact ⟨h2,h3⟩
      ·rw [ha] at h1;cases h1))
     have HRX : Hid (RES = (attrsB f (acc ++ [a]) ((bts doc).drop p3)).map fun x=>(x.1,p3 - E + x.2)):=Lib.hid (by
      rw [HR.out,hst2,Option.map_map]
      congr 1
      funext x
      simp only [Function.comp]
      rw [show p - E + (b1 + j + x.2) = p3 - E + x.2 by omega])
     have HNX : Hid (∀ c ∈ acc ++ [a],c.1.length ≤ 64):=Lib.hid (fun c hc=>by
      rcases List.mem_append.1 hc with h | h
      ·exact HN.out c h
      ·obtain rfl:=List.mem_singleton.1 h;exact hnl2)
     have HWJ:=Lib.hid hwj
     have h3s : p3 ≤ doc.size:=by omega
     have hp3p : p < p3:=by omega
     clear hb1 hp2 hbl hd2 hq0 hqe hst hst2 ha hj1 hj2 hwj hnl2 hp3
     go_wp2_with fail
     refine (HBK.out _ _ HO.out).mono ?_
     rintro e w5 ⟨rfl,hm5⟩
     have HO5:=Lib.hid (HO.out.go hm5)
     clear hm5
     go_wp2_with fail
     refine (HEN.out _ _ HO5.out).mono ?_
     rintro e w6 ⟨rfl,hm6⟩
     have HO6:=Lib.hid (HO5.out.go hm6)
     clear hm6
     go_wp2_with fail
     refine (HRN.out _ _ HO6.out).mono ?_
     rintro e w7 ⟨rfl,hm7⟩
     have HO7:=Lib.hid ((HO6.out.go hm7).below ((Below.refl _ w7).alloc (Nat.le_refl _) (.cells #[.string ⟨a.1.toArray⟩,.string ⟨a.2.toArray⟩] 82)))
     have HBX:=Lib.hid (Box2.new 82 ⟨a.1.toArray⟩ ⟨a.2.toArray⟩ w7)
     have HZ7 : Hid (w.heap.size + 2 ≤ w7.heap.size):=Lib.hid (by have:=(HO6.out.go hm7).bk.lt;omega)
     clear hm7
     obtain ⟨_,_,_,y3,_,_,_,_,t3,_⟩:=HO7.out.bk.at
     obtain ⟨x0,x1,_,_⟩:=HBX.out.at
     obtain ⟨i0,hi,hz0,hz1,hz2⟩:=info_parts HIA.out
     have HN2:=Lib.hid (cell_two_new (w7.alloc (.cells #[.string ⟨a.1.toArray⟩,.string ⟨a.2.toArray⟩] 82)) (.string ⟨a.1.toArray⟩) (.string ⟨a.2.toArray⟩) 82)
     rw [show (w7.alloc (.cells #[.string ⟨a.1.toArray⟩,.string ⟨a.2.toArray⟩] 82)).heap.size = w7.heap.size + 1 by simp] at HN2
     have HO8:=Lib.hid (HO7.out.below ((Below.refl _ _).alloc (Nat.le_refl _) (.cells #[.string ⟨a.1.toArray⟩,.string ⟨a.2.toArray⟩] 82)))
     go_wp2_with (at_builtin;go_loud (refine wpList_append_own _ rfl _ _ 24 rfl (w.heap.size + 2) 82 i0 (.agg #[.string ⟨#[]⟩,.string ⟨#[]⟩]) 2 32 Tryz.underlying24 hi hz0 hz1 hz2 rfl (by decide) _ _ _ rfl HO8.out.ow ⟨w7.heap.size + 1,0,none⟩ 1 1 [.string ⟨a.1.toArray⟩,.string ⟨a.2.toArray⟩] rfl rfl HN2.out (by simp [Value.oneCell']) (by unfold maxLen;omega) (by omega) (by have:=HZ7.out;simp;omega) ?_);intro v9 w9 hown9 hgrow9 _;obtain ⟨va9,vc9,rfl⟩:=own_slice hown9;have HB9:=Lib.hid (HO8.out.bk.grow hgrow9 (fun j e=>by have:=(HO8.out.ow.lt j e).1;omega));have HS9:=Lib.hid (HO8.out.st.grow hgrow9 (fun j e=>by have:=(HO8.out.ow.lt j e).1;omega));have HOW9:=Lib.hid hown9;clear hgrow9 hown9;obtain ⟨_,_,_,z3,_,_,_,_,u3,_⟩:=HB9.out.at)
     have HO9 : Hid (StO b doc v p3 ⟨nm.toArray⟩ (acc ++ [a]) (.slice va9 (acc ++ [a]).length vc9) false w (w9.setCell ⟨w.heap.size + 1,3,none⟩ (.slice va9 (acc.length + 1) vc9))):=Lib.hid ⟨HS9.out.other (grow_set w9 (w.heap.size + 1) 3 _) (by omega),by rw [List.length_append,List.length_singleton];exact HB9.out.setV _,by
      rw [List.length_append,List.length_singleton,show attrCells (acc ++ [a]) = attrCells acc ++ [.string ⟨a.1.toArray⟩,.string ⟨a.2.toArray⟩] by unfold attrCells;rw [List.flatMap_append];rfl]
      exact ownsRow_setCell_below HOW9.out (a:=⟨w.heap.size + 1,3,none⟩) (by simp) _⟩
     exact ⟨⟨p3,f,acc ++ [a],va9,vc9,by omega,h3s,by omega,by simp;omega,HO9,HWJ,HRX,HNX⟩,by rw [placeOf_box HO9.out.st.mv.box,HPL.out];omega⟩
   ·have HQE : Hid (q0 = true → qe = true):=Lib.hid (fun e=>by cases qe with | true=>rfl | false=>exact absurd ⟨e,rfl⟩ hgo)
    have HQ : Hid (RES = some (acc,p2 - E)):=Lib.hid (by
     rw [HR.out]
     simp only [attrsB]
     rw [← hb1,hd2]
     by_cases h0 : b1 = 0
     ·rw [if_pos h0];simp;omega
     ·rw [if_neg h0,if_pos (by rw [← hqe];exact HQE.out (by rw [hq0];simp;omega))];simp;omega)
    have hdr : ((bts doc).drop E).drop (p2 - E) = (bts doc).drop p2:=by rw [List.drop_drop,show E + (p2 - E) = p2 by omega]
    have HF : Hid (openL ((bts doc).drop k) = (if begL [47,62] ((bts doc).drop p2) = true then (if dupA [] acc = true then none else some (acc,true,p2 - E + 2))
      else if begL [62] ((bts doc).drop p2) = true then (if dupA [] acc = true then none else some (acc,false,p2 - E + 1)) else none).map fun x=>(⟨2,nm,[],x.1,x.2.1⟩,1 + n + x.2.2)):=Lib.hid (by rw [HAO.out,HQ.out];simp only [finB];rw [hdr])
    have HTW : Hid (∀ W p em,StO b doc v p ⟨nm.toArray⟩ acc (.slice va acc.length vc) em w W → Calls Tryz.prog 131 #[.slice va acc.length vc] W fun e w'=>e = .returned (.bool (dupA [] acc)) ∧ StO b doc v p ⟨nm.toArray⟩ acc (.slice va acc.length vc) em w w'):=Lib.hid (fun W p em c=>(twice_any acc (.slice va acc.length vc) W c.row (by omega) (fun a ha=>by have:=HN.out a ha;omega)).mono (by
     rintro e w' ⟨h1,h2⟩
     exact ⟨h1,c.below h2⟩))
    have HC2:=HCC.out _ _ HQ.out
    rw [show E + (p2 - E) = p2 by omega] at HC2
    clear hb1 hp2 hbl hd2 hq0 hqe hgo hdr
    obtain ⟨hE,hG,hD⟩:=HC2
    have HSE:=Lib.hid (fun W em (c : StO b doc v p2 ⟨nm.toArray⟩ acc (.slice va acc.length vc) em w W)=>skip_no b p2 doc ⟨#[47,62]⟩ v W c.st.mv.box h2s hs hE)
    have h1e : p2 + 1 ≤ doc.size:=by have:=begL_len hG;rw [List.length_drop,hl] at this;simp at this;omega
    have HSG : Hid (∀ W em,StO b doc v p2 ⟨nm.toArray⟩ acc (.slice va acc.length vc) em w W → Calls Tryz.prog 107 #[.pointer (some ⟨b,0,none⟩),.string ⟨#[62]⟩] W fun r w'=>r = .returned (.bool true) ∧ Moves b doc v (p2 + 1) W w'):=Lib.hid (fun W em c=>skip_yes b p2 doc ⟨#[62]⟩ v W c.st.mv.box h2s hs hG)
    have HA : Hid (openL ((bts doc).drop k) = some (⟨2,nm,[],acc,false⟩,1 + n + (p2 - E + 1))):=Lib.hid (by rw [HF.out,hE,hG,hD];rfl)
    have HJ : Hid (k + (1 + n + (p2 - E + 1)) = p2 + 1):=Lib.hid (by have:=HE.out;omega)
    rw [hD] at HTW
    clear hE hG hD
    cases q0
    case' false=>
     go_wp2_with fail
     refine (HBK.out _ _ HO.out).mono ?_
     rintro e w9 ⟨rfl,hm9⟩
     have HO9:=Lib.hid (HO.out.go hm9)
     clear hm9
    case' true=>
     obtain rfl:=HQE.out rfl
     go_wp2_with fail
     refine (HBK.out _ _ HO.out).mono ?_
     rintro e w8 ⟨rfl,hm8⟩
     have HO8:=Lib.hid (HO.out.go hm8)
     clear hm8
     go_wp2_with fail
     refine (HEN.out _ _ HO8.out).mono ?_
     rintro e w9 ⟨rfl,hm9⟩
     have HO9:=Lib.hid (HO8.out.go hm9)
     clear hm9
    all_goals
     go_wp2_with fail
     refine (HSE.out _ _ HO9.out).mono ?_
     rintro e w10 ⟨rfl,hm10⟩
     have HO10:=Lib.hid (HO9.out.go hm10)
     clear hm10
     obtain ⟨_,_,_,_,y4,_,_,_,_,t4⟩:=HO10.out.bk.at
     go_wp2_with fail
     have HO11:=Lib.hid (HO10.out.setE false)
     clear y4 t4
     obtain ⟨y0,y1,y2,y3,y4,_,_,_,_,_⟩:=HO11.out.bk.at
     obtain ⟨c0,c1,c2,c3,c4,f0,f1,f2,f3,f4⟩:=HO11.out.st.bx.at
     (first | go_region_with (first | (go_at_call 107;refine (HSG.out _ _ (StO.drew HO11.out)).mono ?_;rintro e w12 ⟨rfl,hm12⟩;have HO12:=Lib.hid ((StO.drew HO11.out).go hm12);clear hm12;obtain ⟨z0,z1,z2,z3,z4,_,_,_,_,_⟩:=HO12.out.bk.at;obtain ⟨k0,k1,k2,k3,k4,l0,l1,l2,l3,l4⟩:=HO12.out.st.bx.at) | (go_at_call 131;refine (HTW.out _ _ _ HO12.out).mono ?_;rintro e w13 ⟨rfl,hs13⟩;have HO13:=Lib.hid hs13;clear hs13;obtain ⟨r0,r1,r2,r3,r4,_,_,_,_,_⟩:=HO13.out.bk.at;obtain ⟨x0,x1,x2,x3,x4,u0,u1,u2,u3,u4⟩:=HO13.out.st.bx.at)) | fail)
     all_goals
      (try go_wp2)
      (try simp only [Exit.inBlock,Exit.then])
      refine ret_cell rfl rfl (HO13.out.st.bx.set _ _ _ _ _) Tryz.underlying119 rfl (by kernel_rfl) rfl ?_
      refine .inl ⟨_,_,_,HA.out,rfl,?_,own_mono (own_set5 HO13.out.ow (by omega) _ _ _ _ _) (by omega)⟩
      rw [HJ.out]
      exact HO13.out.st.mv.own5 HO13.out.st.lt _ _ _ _ _
end Go.Proofs.YtjldpkhfiffinaaGreatDoor.U
