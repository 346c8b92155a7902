/- Contracts and plain facts that the law stands on: Ps. -/
import Derived.Test.YtjldpkhfiffinaaGreatDoorZC27
import Derived.Test.YtjldpkhfiffinaaGreatDoorZC30
namespace Go.Proofs.YtjldpkhfiffinaaGreatDoor.U
open Go.RowKit Go.Shelf
theorem allT_nzX {l : List UInt8} {p : Nat} {z : Int} (h : allT l = .error (p,z)) : ¬ z = 0:=by
 unfold allT at h
 split at h
 ·cases h;decide
 ·split at h
  ·cases h;decide
  ·cases h3 : allL3 (linesL l) with
   | error p=>rw [h3] at h;cases h;decide
   | ok us=>rw [h3] at h;cases h
def ParseP (l : List UInt8) (w : World) (e : Ending) (w' : World) : Prop:=
 Below w.heap.size w w' ∧ ((∃ (p : Nat) (z : Int),parseX l = .error (p,z) ∧ ¬ z = 0 ∧ e = .returned (.tuple #[.agg #[.string ⟨#[]⟩,.string ⟨#[]⟩,.slice none 0 0,.slice none 0 0],.int .i64 p,.int .i64 z])) ∨
  ∃ T a1 n1 c1 a2 n2 c2,parseX l = .ok T ∧ e = .returned (.tuple #[.agg #[.string ⟨(trL T).toArray⟩,.string ⟨(trX T).toArray⟩,.slice a1 n1 c1,.slice a2 n2 c2],.int .i64 0,.int .i64 0]) ∧ TreeV w' T [.string ⟨(trL T).toArray⟩,.string ⟨(trX T).toArray⟩,.slice a1 n1 c1,.slice a2 n2 c2])
theorem TreeS.below {S : Nat → Prop} {w w' : World} {t : Tr} {hs : List Value} (h : TreeS S w t hs) (hb : Below w.heap.size w w') : TreeS S w' t hs:=h.keep hb.size (fun g _ hg=>hb.block g hg)
set_option maxHeartbeats 4000000 in
set_option maxRecDepth 20000 in
theorem parse_any (a : Option Addr) (len cap : Nat) (l : List UInt8) (w : World) (hm : LayT w) (hz : Byt w a len cap (ints l)) :
  Calls Tryz.prog 9 #[.slice a len cap] w fun e w'=>ParseP l w e w':=by
 obtain ⟨W0,hW0⟩ : ∃ W0,W0 = w.alloc (.cells #[.string ⟨#[]⟩,.string ⟨#[]⟩,.slice none 0 0,.slice none 0 0] 27):=⟨_,rfl⟩
 have HB0 : Hid (Below w.heap.size w W0):=Lib.hid (by rw [hW0];exact (Below.refl _ w).alloc (Nat.le_refl _) _)
 have HRC : Hid (Box4 w.heap.size ⟨#[]⟩ ⟨#[]⟩ (.slice none 0 0) (.slice none 0 0) W0):=Lib.hid (by rw [hW0];exact Box4.made _ _ _ _ _)
 have HM0 : Hid (LayT W0):=Lib.hid (hm.below HB0.out hm.size)
 have HAL:=Lib.hid (tall_anyD a len cap l W0 HM0.out (hz.below HB0.out (Nat.le_refl _)))
 clear hm hz
 go_enter Tryz.func9,Tryz.ntmps9
 go_wp2_with fail
 rw [← hW0]
 clear hW0
 (with_reducible refine HAL.out.mono ?_)
 rintro e w1 ⟨hb1,⟨a1,c1,l1,hok,rfl,hrow,hap⟩ | ⟨p,z,her,rfl⟩⟩
 ·have HF:=Lib.hid (allT_facts hok)
  have HOK:=Lib.hid hok
  have HM1:=Lib.hid (HM0.out.below hb1 HM0.out.size)
  have HB1:=Lib.hid (th HB0.out (Nat.le_refl _) hb1)
  have HRC1:=Lib.hid (HRC.out.below hb1 (Nat.le_refl _))
  have HRD:=Lib.hid (xread_any l1 a1 c1 w1 hrow hap hb1.size (by have:=HF.out.1;rw [List.length_map] at this;omega) (by have:=sumX_w (l1.map (·.1));have:=HF.out.2.1;omega) (fun x hx=>HF.out.2.2.2.2 x.1 (List.mem_map_of_mem hx)))
  have HWS : Hid (w.heap.size < W0.heap.size):=Lib.hid HRC.out.lt
  have HS1 : Hid (W0.heap.size ≤ w1.heap.size):=Lib.hid hb1.size
  clear hb1 hok hrow hap
  go_wp2_with fail
  (with_reducible refine HRD.out.mono ?_)
  rintro e w2 ⟨hb2,⟨i,hno,rfl⟩ | ⟨T,va,vk,hT,rfl,htr⟩⟩
  ·have HE:=Lib.hid (parseX_no HOK.out hno)
   have HRC2 : Hid (Box4 w.heap.size ⟨#[]⟩ ⟨#[]⟩ (.slice none 0 0) (.slice none 0 0) w2):=Lib.hid ((hb2.block _ HWS.out).trans HRC1.out)
   have HB2 : Hid (Below w.heap.size w w2):=Lib.hid (HB1.out.trans (hb2.mono (by have:=HWS.out;omega)))
   obtain ⟨W3,hW3⟩ : ∃ W3,W3 = w2.alloc (.cells #[.string ⟨#[]⟩,.string ⟨#[]⟩,.slice none 0 0,.slice none 0 0] 27):=⟨_,rfl⟩
   have HB3 : Hid (Below w2.heap.size w2 W3):=Lib.hid (by rw [hW3];exact (Below.refl _ w2).alloc (Nat.le_refl _) _)
   have HRC3:=Lib.hid (HRC2.out.below HB3.out (Nat.le_refl _))
   have HB4:=Lib.hid (th HB2.out (Nat.le_refl _) HB3.out)
   clear hb2 hno
   go_upto_region 5 with fail
   rw [← hW3]
   clear hW3
   obtain ⟨r0,r1,r2,r3⟩:=HRC3.out.at
   have fr0:=HRC3.out.thaw 0
   have fr1:=HRC3.out.thaw 1
   have fr2:=HRC3.out.thaw 2
   have fr3:=HRC3.out.thaw 3
   go_wp2_with fail
   (try rw [Exit.noGoto_ret])
   refine ret_tree2 rfl rfl (HRC3.out.set4 _ _ _ _) rfl ?_
   exact ⟨below_set4 HB4.out (Nat.le_refl _) _ _ _ _,.inl ⟨i,12,HE.out,by decide,rfl⟩⟩
  ·obtain ⟨ts,hts⟩ : ∃ ts,ts = l1.map (·.1):=⟨_,rfl⟩
   have HFT : Hid (fitT T):=Lib.hid (fitT_w (by
    have h1:=treeL_w (fun t ht hk=>((HF.out.2.2.2.2 t ht).1 hk).1) hT
    have:=HF.out.2.1
    omega))
   have htr':=htr
   obtain ⟨lb0,tx0,al0,ks0⟩:=T
   rw [TreeS.eq] at htr'
   obtain ⟨va',vk',e9,⟨d1,k1,ev1,_⟩,lk,_,⟨d2,k2,ev2,_⟩⟩:=htr'
   simp only [List.cons.injEq,and_true] at e9
   obtain ⟨_,_,rfl,rfl⟩:=e9
   subst ev1 ev2
   obtain ⟨n1,hn1⟩ : ∃ n1,n1 = al0.length:=⟨_,rfl⟩
   obtain ⟨n2,hn2⟩ : ∃ n2,n2 = ks0.length:=⟨_,rfl⟩
   rw [← hn1,← hn2] at htr ⊢
   clear hn1 hn2
   obtain ⟨T,hTT⟩ : ∃ T,T = Tr.node lb0 tx0 al0 ks0:=⟨_,rfl⟩
   rw [← hTT] at hT htr HFT ⊢
   clear hTT
   have HTL:=Lib.hid hT
   have HM2 : Hid (LayT w2):=Lib.hid (HM1.out.below hb2 HM0.out.size)
   have HRC2 : Hid (Box4 w.heap.size ⟨#[]⟩ ⟨#[]⟩ (.slice none 0 0) (.slice none 0 0) w2):=Lib.hid ((hb2.block _ HWS.out).trans HRC1.out)
   have HB2 : Hid (Below w.heap.size w w2):=Lib.hid (HB1.out.trans (hb2.mono (by have:=HWS.out;omega)))
   obtain ⟨lbb,hlbb⟩ : ∃ x : ByteArray,x = ⟨(trL T).toArray⟩:=⟨_,rfl⟩
   obtain ⟨txb,htxb⟩ : ∃ x : ByteArray,x = ⟨(trX T).toArray⟩:=⟨_,rfl⟩
   have HP9 : Hid (∀ w',Below w.heap.size w w' → chkT T = 0 → TreeV w' T [.string lbb,.string txb,.slice d1 n1 k1,.slice d2 n2 k2] → ParseP l w (.returned (.tuple #[.agg #[.string lbb,.string txb,.slice d1 n1 k1,.slice d2 n2 k2],.int .i64 0,.int .i64 0])) w'):=Lib.hid (fun w' h1 h2 h3=>⟨h1,.inr ⟨T,d1,n1,k1,d2,n2,k2,parseX_ok HOK.out HTL.out h2,by rw [hlbb,htxb],by rw [hlbb,htxb] at h3;exact h3⟩⟩)
   rw [← hlbb,← htxb] at htr ⊢
   have HTV:=Lib.hid htr
   clear hlbb htxb
   obtain ⟨W3,hW3⟩ : ∃ W3,W3 = w2.alloc (.cells #[.string lbb,.string txb,.slice d1 n1 k1,.slice d2 n2 k2] 27):=⟨_,rfl⟩
   have HB3 : Hid (Below w2.heap.size w2 W3):=Lib.hid (by rw [hW3];exact (Below.refl _ w2).alloc (Nat.le_refl _) _)
   have HX3 : Hid (Box4 w2.heap.size lbb txb (.slice d1 n1 k1) (.slice d2 n2 k2) W3):=Lib.hid (by rw [hW3];exact Box4.made _ _ _ _ _)
   have HRC3:=Lib.hid (HRC2.out.below HB3.out (Nat.le_refl _))
   have HB4:=Lib.hid (th HB2.out (Nat.le_refl _) HB3.out)
   have HM3:=Lib.hid (HM2.out.below HB3.out HM2.out.size)
   have HT3:=Lib.hid (HTV.out.below HB3.out)
   have HCK:=Lib.hid (checkT_any T _ W3 HM3.out.lay.lay (TreeS.v _ _ HT3.out) HFT.out)
   clear hb2 hT htr
   go_upto_region 5 with fail
   rw [← hW3]
   clear hW3
   obtain ⟨x0,x1,x2,x3⟩:=HX3.out.at
   obtain ⟨ck,hck⟩ : ∃ ck,ck = chkT T:=⟨_,rfl⟩
   rw [← hck] at HCK
   have HCQ:=Lib.hid hck
   clear hck
   go_wp2_with fail
   (with_reducible refine HCK.out.mono ?_)
   rintro e w4 ⟨rfl,hb4⟩
   have HRC4:=Lib.hid (HRC3.out.below hb4 (Nat.le_refl _))
   have HX4:=Lib.hid (HX3.out.below hb4 (Nat.le_refl _))
   have HB5:=Lib.hid (th HB4.out (Nat.le_refl _) hb4)
   have HT4:=Lib.hid (HT3.out.below hb4)
   clear hb4 x0 x1 x2 x3
   obtain ⟨x0,x1,x2,x3⟩:=HX4.out.at
   obtain ⟨r0,r1,r2,r3⟩:=HRC4.out.at
   have fr0:=HRC4.out.thaw 0
   have fr1:=HRC4.out.thaw 1
   have fr2:=HRC4.out.thaw 2
   have fr3:=HRC4.out.thaw 3
   by_cases hc0 : ck = 0
   ·subst hc0
    go_wp2_with fail
    (try rw [Exit.noGoto_ret])
    refine ret_tree2 rfl rfl (HRC4.out.set4 _ _ _ _) rfl ?_
    refine HP9.out _ (below_set4 HB5.out (Nat.le_refl _) _ _ _ _) HCQ.out.symm ?_
    exact TreeS.v _ _ (TreeS.map (fun h=>h.set4 (fun g hg e=>by have:=HWS.out;omega) _ _ _ _) T _ HT4.out)
   ·have hcb : (ck == 0) = false:=beq_eq_false_iff_ne.2 hc0
    have HC0:=Lib.hid hc0
    clear hc0
    go_wp2_with fail
    (try rw [Exit.noGoto_ret])
    refine ret_tree2 rfl rfl (HRC4.out.set4 _ _ _ _) rfl ?_
    exact ⟨below_set4 HB5.out (Nat.le_refl _) _ _ _ _,.inl ⟨0,ck,by rw [HCQ.out];exact parseX_bad HOK.out HTL.out (by rw [← HCQ.out];exact HC0.out),HC0.out,rfl⟩⟩
 ·have HE:=Lib.hid (parseX_err her)
  have HZ:=Lib.hid (allT_nzX her)
  have hzb : (z == 0) = false:=beq_eq_false_iff_ne.2 HZ.out
  have HRC1:=Lib.hid (HRC.out.below hb1 (Nat.le_refl _))
  have HB1:=Lib.hid (th HB0.out (Nat.le_refl _) hb1)
  clear hb1 her
  obtain ⟨r0,r1,r2,r3⟩:=HRC1.out.at
  have fr0:=HRC1.out.thaw 0
  have fr1:=HRC1.out.thaw 1
  have fr2:=HRC1.out.thaw 2
  have fr3:=HRC1.out.thaw 3
  go_wp2_with fail
  (try rw [Exit.noGoto_ret])
  refine ret_tree2 rfl rfl (HRC1.out.set4 _ _ _ _) rfl ?_
  exact ⟨below_set4 HB1.out (Nat.le_refl _) _ _ _ _,.inl ⟨p,z,HE.out,HZ.out,rfl⟩⟩
end Go.Proofs.YtjldpkhfiffinaaGreatDoor.U
