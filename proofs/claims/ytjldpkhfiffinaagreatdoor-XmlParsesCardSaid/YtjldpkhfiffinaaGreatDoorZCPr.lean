/- The law's own small functions of layer 5: awake. -/
import Derived.Test.YtjldpkhfiffinaaGreatDoorZC34
import Derived.Test.YtjldpkhfiffinaaGreatDoorZC27
import Derived.Test.YtjldpkhfiffinaaGreatDoorZC31
import Derived.Lib.SlBytesConst
namespace Go.Proofs.YtjldpkhfiffinaaGreatDoor.U
open Go.RowKit Go.Shelf
theorem AtRow.low {w : World} {v : Value} {n size : Nat} {xs : List Value} (hs : 0 < size) (h : AtRow w v n size xs) : AtRowS (fun g=>g < w.heap.size) w v n size xs:=by
 obtain ⟨a,c,rfl,h2,h3,h4⟩:=h
 refine ⟨a,c,rfl,h2,h3,fun h0=>?_⟩
 obtain ⟨g,off,h5,h6⟩:=h4 h0
 have hx : 0 < xs.length:=by rw [h3];exact Nat.mul_pos h0 hs
 have h7:=h6 0 _ (List.getElem?_eq_getElem hx)
 have h8 : g < w.heap.size:=by simpa using block_lt_of_cell h7
 exact ⟨g,off,h5,h8,h8,h6⟩
theorem TreeV.low {w : World} (t : Tr) : ∀ hs,TreeV w t hs → TreeS (fun g=>g < w.heap.size) w t hs:=by
 refine Tr.rec (motive_1:=fun t=>∀ hs,TreeV w t hs → TreeS (fun g=>g < w.heap.size) w t hs) (motive_2:=fun ks=>∀ l,KidsV w ks l → KidsS (fun g=>g < w.heap.size) w ks l) ?_ ?_ ?_ t
 ·intro lb tx al ks ih hs h
  rw [TreeV.eq] at h
  rw [TreeS.eq]
  obtain ⟨va,vk,h1,h2,l,h3,h4⟩:=h
  exact ⟨va,vk,h1,h2.low (by decide),l,ih l h3,h4.low (by decide)⟩
 ·intro l h
  rw [KidsV] at h
  rw [KidsS]
  exact h
 ·intro t ks ih1 ih2 l h
  rw [KidsV] at h
  rw [KidsS]
  obtain ⟨a,q,h1,h2,h3⟩:=h
  exact ⟨a,q,h1,ih1 a h2,ih2 q h3⟩
theorem sumA_w : ∀ al : List (List UInt8 × List UInt8),sumA al ≤ wA al:=by
 intro al
 induction al with
 | nil=>simp [sumA,wA]
 | cons a r ih=>
  have h1 : wA (a :: r) = 1 + a.1.length + a.2.length + wA r:=by simp [wA]
  have h2 : sumA (a :: r) = a.1.length + a.2.length + sumA r:=by simp [sumA]
  omega
theorem toks_w (t : Tr) : (toksT t).length ≤ 2 * wT t ∧ ∀ u ∈ toksT t,u.name.length ≤ wT t ∧ u.text.length ≤ wT t ∧ u.attrs.length ≤ wT t ∧ sumA u.attrs ≤ wT t:=by
 refine Tr.rec (motive_1:=fun t=>(toksT t).length ≤ 2 * wT t ∧ ∀ u ∈ toksT t,u.name.length ≤ wT t ∧ u.text.length ≤ wT t ∧ u.attrs.length ≤ wT t ∧ sumA u.attrs ≤ wT t)
  (motive_2:=fun ks=>(toksK ks).length ≤ 2 * wK ks ∧ ∀ u ∈ toksK ks,u.name.length ≤ wK ks ∧ u.text.length ≤ wK ks ∧ u.attrs.length ≤ wK ks ∧ sumA u.attrs ≤ wK ks) ?_ ?_ ?_ t
 ·intro lb tx al ks ih
  have h1:=sumA_w al
  have h2:=wA_len al
  have e : wT (.node lb tx al ks) = 1 + lb.length + tx.length + wA al + wK ks:=by simp only [wT]
  by_cases h : lb = []
  ·subst h
   rw [toksT_text]
   refine ⟨by simp;omega,fun u hu=>?_⟩
   obtain rfl:=List.mem_singleton.1 hu
   refine ⟨by simp,?_,by simp,by simp [sumA]⟩
   simp only
   omega
  ·cases ks with
   | nil=>
    rw [toksT_empty _ _ h]
    refine ⟨by simp;omega,fun u hu=>?_⟩
    obtain rfl:=List.mem_singleton.1 hu
    simp only [List.length_nil]
    exact ⟨by omega,by omega,by omega,by omega⟩
   | cons k q=>
    rw [toksT_kids _ _ _ _ h]
    obtain ⟨i1,i2⟩:=ih
    refine ⟨by simp only [List.length_cons,List.length_append,List.length_nil];omega,fun u hu=>?_⟩
    rcases List.mem_cons.1 hu with rfl | hu
    ·simp only [List.length_nil]
     exact ⟨by omega,by omega,by omega,by omega⟩
    ·rcases List.mem_append.1 hu with hu | hu
     ·obtain ⟨j1,j2,j3,j4⟩:=i2 u hu
      exact ⟨by omega,by omega,by omega,by omega⟩
     ·obtain rfl:=List.mem_singleton.1 hu
      simp only [List.length_nil]
      refine ⟨by omega,by omega,by omega,?_⟩
      simp [sumA]
 ·simp [toksK,wK]
 ·intro t ks ih1 ih2
  obtain ⟨a1,a2⟩:=ih1
  obtain ⟨b1,b2⟩:=ih2
  simp only [toksK,wK,List.length_append]
  refine ⟨by omega,fun u hu=>?_⟩
  rcases List.mem_append.1 hu with hu | hu
  ·obtain ⟨j1,j2,j3,j4⟩:=a2 u hu
   exact ⟨by omega,by omega,by omega,by omega⟩
  ·obtain ⟨j1,j2,j3,j4⟩:=b2 u hu
   exact ⟨by omega,by omega,by omega,by omega⟩
def WriteP (T : Tr) (w : World) (e : Ending) (w' : World) : Prop:=
 Below w.heap.size w w' ∧ ((trL T = [] ∧ e = .returned (.tuple #[.slice none 0 0,.int .i64 12])) ∨ (trL T ≠ [] ∧ chkT T ≠ 0 ∧ e = .returned (.tuple #[.slice none 0 0,.int .i64 (chkT T)])) ∨
  (trL T ≠ [] ∧ chkT T = 0 ∧ (textX T).length ≤ 65536 ∧ ∃ a5 c5,e = .returned (.tuple #[.slice a5 (textX T).length c5,.int .i64 0]) ∧ w'.ownsRow w.heap.size 5 1 (.slice a5 (textX T).length c5) (textX T).length (Lib.byteCells (textX T))) ∨
  (trL T ≠ [] ∧ chkT T = 0 ∧ 65536 < (textX T).length ∧ ∃ z,(z != 0) = true ∧ e = .returned (.tuple #[.slice none 0 0,.int .i64 z])))
set_option maxHeartbeats 4000000 in
set_option maxRecDepth 20000 in
theorem write_any (T : Tr) (hs : List Value) (w : World) (hm : LayT w) (ht : TreeV w T hs) (hw : wT T ≤ 400000) (hb : bareA T = true) :
  Calls Tryz.prog 20 #[.agg hs.toArray] w fun e w'=>WriteP T w e w':=by
 have hTW:=toks_w T
 have HFT:=Lib.hid (fitT_w (t:=T) (by omega))
 have HTW:=Lib.hid hTW
 have HBA:=Lib.hid hb
 have HV:=Lib.hid ht
 have HW:=Lib.hid hw
 have htv:=ht
 obtain ⟨lb,tx,al,ks⟩:=T
 rw [TreeV.eq] at ht
 obtain ⟨va,vk,rfl,⟨a1,c1,rfl,_⟩,lk,hlk,⟨a2,c2,rfl,_⟩⟩:=ht
 obtain ⟨n1,hn1⟩ : ∃ n1,n1 = al.length:=⟨_,rfl⟩
 obtain ⟨n2,hn2⟩ : ∃ n2,n2 = ks.length:=⟨_,rfl⟩
 obtain ⟨bt,hbt⟩ : ∃ bt,decide (lb = []) = bt:=⟨_,rfl⟩
 have HIT:=Lib.hid (fun W : World=>isTextX_any lb ⟨tx.toArray⟩ (.slice a1 n1 c1) (.slice a2 n2 c2) bt hbt W)
 have HBT : Hid (decide (trL (.node lb tx al ks) = []) = bt):=Lib.hid hbt
 rw [← hn1,← hn2] at HV ⊢
 obtain ⟨T,hT⟩ : ∃ T,T = Tr.node lb tx al ks:=⟨_,rfl⟩
 rw [← hT] at HV HFT HTW HBA HW HBT ⊢
 obtain ⟨lbb,hlbb⟩ : ∃ x : ByteArray,x = ⟨lb.toArray⟩:=⟨_,rfl⟩
 obtain ⟨txb,htxb⟩ : ∃ x : ByteArray,x = ⟨tx.toArray⟩:=⟨_,rfl⟩
 rw [← hlbb,← htxb] at HV HIT ⊢
 clear hlbb htxb hT hn1 hn2 hbt hlk htv hTW hw hb
 obtain ⟨W0,hW0⟩ : ∃ W0,W0 = w.alloc (.cells #[.string lbb,.string txb,.slice a1 n1 c1,.slice a2 n2 c2] 27):=⟨_,rfl⟩
 have HB0 : Hid (Below w.heap.size w W0):=Lib.hid (by rw [hW0];exact (Below.refl _ w).alloc (Nat.le_refl _) _)
 have HX0 : Hid (Box4 w.heap.size lbb txb (.slice a1 n1 c1) (.slice a2 n2 c2) W0):=Lib.hid (by rw [hW0];exact Box4.made _ _ _ _ _)
 have HM0:=Lib.hid (hm.below HB0.out hm.size)
 have HV0:=Lib.hid (HV.out.below HB0.out (Nat.le_refl _))
 clear hm
 go_enter Tryz.func20,Tryz.ntmps20
 go_wp2_with fail
 rw [← hW0]
 clear hW0
 (with_reducible refine (HIT.out _).mono ?_)
 rintro e w1 ⟨rfl,hb1⟩
 have HB1:=Lib.hid (th HB0.out (Nat.le_refl _) hb1)
 have HX1:=Lib.hid (HX0.out.below hb1 (Nat.le_refl _))
 have HM1:=Lib.hid (HM0.out.below hb1 HM0.out.size)
 have HV1:=Lib.hid (HV0.out.below hb1 (Nat.le_refl _))
 clear hb1
 obtain ⟨x0,x1,x2,x3⟩:=HX1.out.at
 cases bt with
 | true=>
  go_wp2
  go_ret2
  exact ⟨HB1.out,.inl ⟨of_decide_eq_true HBT.out,rfl⟩⟩
 | false=>
  have HNT : Hid (trL T ≠ []):=Lib.hid (of_decide_eq_false HBT.out)
  have HCK:=Lib.hid (checkT_any T _ w1 HM1.out.lay.lay HV1.out HFT.out)
  obtain ⟨ck,hck⟩ : ∃ ck,ck = chkT T:=⟨_,rfl⟩
  rw [← hck] at HCK
  have HCQ:=Lib.hid hck
  clear hck
  go_wp2_with fail
  (with_reducible refine HCK.out.mono ?_)
  rintro e w2 ⟨rfl,hb2⟩
  have HB2:=Lib.hid (th HB1.out (Nat.le_refl _) hb2)
  have HX2:=Lib.hid (HX1.out.below hb2 (Nat.le_refl _))
  have HM2:=Lib.hid (HM1.out.below hb2 HM1.out.size)
  have HV2:=Lib.hid (HV1.out.below hb2 (Nat.le_refl _))
  clear hb2 x0 x1 x2 x3
  obtain ⟨x0,x1,x2,x3⟩:=HX2.out.at
  by_cases hc0 : ck = 0
  ·subst hc0
   have HOK:=Lib.hid (doc_back (t:=T) (by rw [← chk_steps HBA.out];exact HCQ.out.symm) (by
    have:=HNT.out
    cases T with
    | node a b c d=>simp [isTx];exact this))
   have HPI:=Lib.hid (pieces_any (base:=w2.heap.size) T _ w2 none 0 [] (Nat.le_refl _) (TreeV.low T _ HV2.out) ⟨World.ownsRow_nil _ _ _ _,fun x hx=>by cases hx⟩ (by
    have:=HTW.out.1
    have:=HW.out
    simp only [List.length_nil]
    omega))
   rw [List.length_nil] at HPI
   go_wp2_with fail
   (with_reducible refine HPI.out.mono ?_)
   rintro e w3 ⟨a3,c3,l3,rfl,hmp,hrw,hgr⟩
   rw [List.map_nil,List.nil_append] at hmp
   have hb3 : Below w2.heap.size w2 w3:=hgr.below (Nat.le_refl _) (fun g e=>by cases e)
   have HB3:=Lib.hid (th HB2.out (Nat.le_refl _) hb3)
   have HM3:=Lib.hid (HM2.out.below hb3 HM2.out.size)
   have hta:=hrw.at
   rw [hmp] at hta
   have hl3 : l3.length = (toksT T).length:=by rw [← hmp,List.length_map]
   rw [hl3] at hta ⊢
   have HWR:=Lib.hid (twrite_any a3 c3 (toksT T) w3 HM3.out hta (by have:=HTW.out.1;have:=HW.out;omega) (fun t ht=>by
    obtain ⟨j1,j2,j3,j4⟩:=HTW.out.2 t ht
    have:=HW.out
    exact ⟨by omega,by omega,by omega,by omega⟩))
   obtain ⟨FL,hFL⟩ : ∃ FL,FL = ((toksT T).flatMap textT).length:=⟨_,rfl⟩
   have HFL : Hid (FL = (textX T).length):=Lib.hid hFL
   rw [← hFL] at HWR
   clear hb3 hgr hmp hrw hta hl3 hFL
   go_wp2_with fail
   (with_reducible refine HWR.out.mono ?_)
   rintro e w4 ⟨hb4,⟨hok,hlen,a5,c5,rfl,hrow⟩ | ⟨hno,z,hz,rfl⟩⟩
   ·have HB4:=Lib.hid (th HB3.out (Nat.le_refl _) hb4)
    have HRO:=Lib.hid hrow
    have HLE:=Lib.hid hlen
    clear hb4 hok hlen hrow
    go_wp2
    go_ret2
    exact ⟨HB4.out,.inr (.inr (.inl ⟨HNT.out,HCQ.out.symm,by rw [← HFL.out];exact HLE.out,a5,c5,by rw [← HFL.out];rfl,by rw [← HFL.out];exact own_mono HRO.out (by have:=HB3.out.size;omega)⟩))⟩
   ·have HB4:=Lib.hid (th HB3.out (Nat.le_refl _) hb4)
    have HNO : Hid (65536 < (textX T).length):=Lib.hid (by
     have h1:=HOK.out.1
     have h2 : ¬ FL ≤ 65536:=fun h=>hno ⟨h1,h⟩
     rw [← HFL.out]
     omega)
    clear hb4 hno
    go_wp2
    go_ret2
    exact ⟨HB4.out,.inr (.inr (.inr ⟨HNT.out,HCQ.out.symm,HNO.out,z,hz,rfl⟩))⟩
  ·have hcb : (ck == 0) = false:=beq_eq_false_iff_ne.2 hc0
   have HC0:=Lib.hid hc0
   clear hc0
   go_wp2
   go_ret2
   exact ⟨HB2.out,.inr (.inl ⟨HNT.out,by rw [← HCQ.out];exact HC0.out,by rw [← HCQ.out];rfl⟩)⟩
theorem built_mark (w : World) (zs : List Int) (fr : Nat × Nat) (hb : ∀ z ∈ zs,0 ≤ z ∧ z ≤ 255) (hn : zs.length ≤ 140737488351232) : Byt (w.alloc (.cells (zs.map (Value.int .u8)).toArray 5 fr)) (some ⟨w.heap.size,0,none⟩) zs.length zs.length zs:=by
 refine ⟨rfl,Nat.le_refl _,hn,hb,fun _=>⟨w.heap.size,0,rfl,fun i hi=>?_⟩⟩
 rw [World.cell?_alloc_mark]
 simp [List.getElem?_eq_getElem hi]
def exL5 : List UInt8:=[60,97,32,98,61,39,49,39,62,60,33,45,45,32,45,45,62,60,99,47,62,120,60,33,91,67,68,65,84,65,91,121,93,93,62,60,47,97,62,10]
def exT5 : Tr:=.node [97] [] [([98],[49])] [.node [99] [] [] [],.node [] [120,121] [] []]
def exX5 : List UInt8:=[60,97,32,98,61,34,49,34,62,60,99,47,62,120,121,60,47,97,62]
theorem ex_parse : parseX exL5 = .ok exT5:=by kernel_rfl
theorem ex_text : textX exT5 = exX5:=by kernel_rfl
theorem ex_bare : bareA exT5 = true:=by kernel_rfl
theorem ex_chk : chkT exT5 = 0:=by kernel_rfl
theorem ex_w : wT exT5 ≤ 400000:=by decide +kernel
set_option maxHeartbeats 4000000 in
set_option maxRecDepth 10000 in
theorem awake5_any (w : World) (hm : LayT w) : Calls Tryz.prog 8 #[] w fun e w'=>e = .returned (.bool true) ∧ Below w.heap.size w w':=by
 have HB1:=Lib.hid ((Below.refl _ w).alloc (Nat.le_refl _) (.cells ((ints exL5).map (Value.int .u8)).toArray 5 (40,41)))
 have hby:=built_mark w (ints exL5) (40,41) (by decide) (by decide)
 have hcv:=Lib.run_convert_bytes_const (P:=Tryz.prog) w 22 5 ((ints exL5).map (Value.int .u8)).toArray 40 40 Tryz.underlying22 Tryz.underlying5
 rw [show (((ints exL5).map (Value.int .u8)).toArray : Array Value) = #[.int .u8 60,.int .u8 97,.int .u8 32,.int .u8 98,.int .u8 61,.int .u8 39,.int .u8 49,.int .u8 39,.int .u8 62,.int .u8 60,.int .u8 33,.int .u8 45,.int .u8 45,.int .u8 32,.int .u8 45,.int .u8 45,.int .u8 62,.int .u8 60,.int .u8 99,.int .u8 47,.int .u8 62,.int .u8 120,.int .u8 60,.int .u8 33,.int .u8 91,.int .u8 67,.int .u8 68,.int .u8 65,.int .u8 84,.int .u8 65,.int .u8 91,.int .u8 121,.int .u8 93,.int .u8 93,.int .u8 62,.int .u8 60,.int .u8 47,.int .u8 97,.int .u8 62,.int .u8 10] from rfl] at hcv
 rw [show ((#[.int .u8 60,.int .u8 97,.int .u8 32,.int .u8 98,.int .u8 61,.int .u8 39,.int .u8 49,.int .u8 39,.int .u8 62,.int .u8 60,.int .u8 33,.int .u8 45,.int .u8 45,.int .u8 32,.int .u8 45,.int .u8 45,.int .u8 62,.int .u8 60,.int .u8 99,.int .u8 47,.int .u8 62,.int .u8 120,.int .u8 60,.int .u8 33,.int .u8 91,.int .u8 67,.int .u8 68,.int .u8 65,.int .u8 84,.int .u8 65,.int .u8 91,.int .u8 121,.int .u8 93,.int .u8 93,.int .u8 62,.int .u8 60,.int .u8 47,.int .u8 97,.int .u8 62,.int .u8 10] : Array Value)).size = 40 from rfl] at hcv
 have HM1:=Lib.hid (hm.below HB1.out hm.size)
 have HPA:=Lib.hid (parse_any (some ⟨w.heap.size,0,none⟩) 40 40 exL5 _ HM1.out hby)
 have HSZ:=Lib.hid hm.size
 clear hby hm
 go_enter Tryz.func8,Tryz.ntmps8
 go_wp2_with fail
 refine HPA.out.mono ?_
 rintro e w2 ⟨hb,⟨p,z,ho,_⟩ | ⟨T,a1,n1,c1,a2,n2,c2,ho,rfl,ht⟩⟩
 ·rw [ex_parse] at ho;cases ho
 ·rw [ex_parse] at ho
  injection ho with ho
  subst ho
  have HB2:=Lib.hid (HB1.out.trans (hb.mono HB1.out.size))
  have HM2:=Lib.hid (HM1.out.below hb HM1.out.size)
  have ht2 : TreeV w2 exT5 [.string ⟨#[97]⟩,.string ⟨#[]⟩,.slice a1 n1 c1,.slice a2 n2 c2]:=ht
  have HTV:=Lib.hid ht2
  rw [show (⟨(trL exT5).toArray⟩ : ByteArray) = ⟨#[97]⟩ from rfl,show (⟨(trX exT5).toArray⟩ : ByteArray) = ⟨#[]⟩ from rfl]
  clear hb ht ht2 hcv
  obtain ⟨W3,hW3⟩ : ∃ W3,W3 = w2.alloc (.cells #[.string ⟨#[97]⟩,.string ⟨#[]⟩,.slice a1 n1 c1,.slice a2 n2 c2] 27):=⟨_,rfl⟩
  have HB3 : Hid (Below w2.heap.size w2 W3):=Lib.hid (by rw [hW3];exact (Below.refl _ w2).alloc (Nat.le_refl _) _)
  have HX3 : Hid (Box4 w2.heap.size ⟨#[97]⟩ ⟨#[]⟩ (.slice a1 n1 c1) (.slice a2 n2 c2) W3):=Lib.hid (by rw [hW3];exact Box4.made _ _ _ _ _)
  have HM3:=Lib.hid (HM2.out.below HB3.out HM2.out.size)
  have HWR:=Lib.hid (write_any exT5 _ W3 HM3.out (HTV.out.below HB3.out (Nat.le_refl _)) ex_w ex_bare)
  go_upto_region 2 with fail
  rw [← hW3]
  clear hW3
  obtain ⟨x0,x1,x2,x3⟩:=HX3.out.at
  go_wp2_with fail
  refine HWR.out.mono ?_
  rintro e w4 ⟨hb4,⟨h1,_⟩ | ⟨_,h1,_⟩ | ⟨_,_,_,a5,c5,rfl,hrow⟩ | ⟨_,_,h1,_⟩⟩
  ·exact absurd h1 (by decide)
  ·exact absurd ex_chk h1
  ·rw [ex_text] at hrow ⊢
   have HB4:=Lib.hid ((HB2.out.trans (HB3.out.mono HB2.out.size)).trans (hb4.mono (by have:=HB2.out.size;have:=HB3.out.size;omega)))
   have hcv:=conv_own w4 _ _ exX5 hrow
   rw [show (⟨exX5.toArray⟩ : ByteArray) = ⟨#[60,97,32,98,61,34,49,34,62,60,99,47,62,120,121,60,47,97,62]⟩ from rfl] at hcv
   rw [show exX5.length = 19 from rfl] at hcv ⊢
   clear hb4 hrow x0 x1 x2 x3
   go_wp2
   go_ret
   exact ⟨rfl,HB4.out⟩
  ·rw [ex_text] at h1
   exact absurd h1 (by decide)
end Go.Proofs.YtjldpkhfiffinaaGreatDoor.U
