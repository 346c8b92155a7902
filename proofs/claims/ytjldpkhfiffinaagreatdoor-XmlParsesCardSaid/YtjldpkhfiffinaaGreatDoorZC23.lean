/- Contracts and plain facts that the law stands on: Q18. -/
import Derived.Test.YtjldpkhfiffinaaGreatDoorZC22
namespace Go.Proofs.YtjldpkhfiffinaaGreatDoor.U
open Go.RowKit Go.Shelf
set_option maxHeartbeats 8000000 in
set_option maxRecDepth 20000 in
theorem spiece_l (b k mb : Nat) (doc : ByteArray) (w : World) (hm : LayT w) (hbt : 6 ≤ b) (h : BoxS b doc k (.slice (some ⟨mb,0,none⟩) 5 5) w) (hmk : MarksAt mb w) (hs : doc.size ≤ 100000) (hk : k ≤ doc.size) (_hw : Whole ((bts doc).drop k)) (n0 : begL sXml ((bts doc).drop k) = false) (n1 : begL sCom ((bts doc).drop k) = false) (n2 : begL sCd ((bts doc).drop k) = false) (hb : begL [60,47] ((bts doc).drop k) = true) :
  Calls Tryz.prog 59 #[.pointer (some ⟨b,0,none⟩)] w fun e w'=>ReadP b k doc (.slice (some ⟨mb,0,none⟩) 5 5) (pieceL (k == 0) ((bts doc).drop k)) w e w':=by
 have hl:=bts_len doc
 have HST:=Lib.hid (StK.start h)
 have HMK:=Lib.hid (hmk.below ((Below.refl _ w).alloc (Nat.le_refl _) (.cells #[.int .i64 0,.string ⟨#[]⟩,.string ⟨#[]⟩,.slice none 0 0,.bool false] 119)))
 have HMB : Hid (mb ≠ b):=Lib.hid (fun e=>by
  subst e
  unfold BoxS at h
  unfold MarksAt at hmk
  rw [h] at hmk
  simp only [Option.some.injEq,Obj.cells.injEq] at hmk
  exact absurd hmk.2.1 (by decide))
 have HLAY : Hid (∀ q W,StK b doc (.slice (some ⟨mb,0,none⟩) 5 5) q w W → LayT W):=Lib.hid (fun q W k=>hm.grown k.mv.grown h.lt hbt)
 obtain ⟨d0,d1,d2,g0,g1,g2⟩:=HST.out.mv.box.at
 obtain ⟨L,hL⟩ : ∃ L,L = (bts doc).drop k:=⟨_,rfl⟩
 have hLl : L.length = doc.size - k:=by rw [hL,List.length_drop,hl]
 -- what each way comes to
 have HRL : begL [60,47] L = true → Hid (∀ W,StK b doc (.slice (some ⟨mb,0,none⟩) 5 5) (k + 2) w W → Calls Tryz.prog 105 #[.pointer (some ⟨b,0,none⟩)] W fun e w'=>ReadQ b k doc (.slice (some ⟨mb,0,none⟩) 5 5) (closeL L) W (w.heap.size + 1) e w'):=fun hb=>Lib.hid (fun W c=>(readClose_any b k doc _ W (HLAY.out _ _ c) hbt c.mv.box hs (by have:=begL_len hb;rw [hLl] at this;simp at this;omega)).mono (fun e w' r=>by rw [hL];exact r.spell c.bx.lt))
 have HN0 : begL sXml L = false → Hid (∀ W,StK b doc (.slice (some ⟨mb,0,none⟩) 5 5) k w W → Calls Tryz.prog 107 #[.pointer (some ⟨b,0,none⟩),.string ⟨#[60,63,120,109,108]⟩] W fun e w'=>e = .returned (.bool false) ∧ Moves b doc (.slice (some ⟨mb,0,none⟩) 5 5) k W w'):=fun hb=>Lib.hid (fun W c=>skip_no b k doc ⟨#[60,63,120,109,108]⟩ _ W c.mv.box hk hs (by rw [← hL];exact hb))
 have HN1 : begL sCom L = false → Hid (∀ W,StK b doc (.slice (some ⟨mb,0,none⟩) 5 5) k w W → Calls Tryz.prog 107 #[.pointer (some ⟨b,0,none⟩),.string ⟨#[60,33,45,45]⟩] W fun e w'=>e = .returned (.bool false) ∧ Moves b doc (.slice (some ⟨mb,0,none⟩) 5 5) k W w'):=fun hb=>Lib.hid (fun W c=>skip_no b k doc ⟨#[60,33,45,45]⟩ _ W c.mv.box hk hs (by rw [← hL];exact hb))
 have HN2 : begL sCd L = false → Hid (∀ W,StK b doc (.slice (some ⟨mb,0,none⟩) 5 5) k w W → Calls Tryz.prog 107 #[.pointer (some ⟨b,0,none⟩),.string ⟨#[60,33,91,67,68,65,84,65,91]⟩] W fun e w'=>e = .returned (.bool false) ∧ Moves b doc (.slice (some ⟨mb,0,none⟩) 5 5) k W w'):=fun hb=>Lib.hid (fun W c=>skip_no b k doc ⟨#[60,33,91,67,68,65,84,65,91]⟩ _ W c.mv.box hk hs (by rw [← hL];exact hb))
 have HY3 : begL [60,47] L = true → Hid (∀ W,StK b doc (.slice (some ⟨mb,0,none⟩) 5 5) k w W → Calls Tryz.prog 107 #[.pointer (some ⟨b,0,none⟩),.string ⟨#[60,47]⟩] W fun e w'=>e = .returned (.bool true) ∧ Moves b doc (.slice (some ⟨mb,0,none⟩) 5 5) (k + 2) W w'):=fun hb=>Lib.hid (fun W c=>skip_yes b k doc ⟨#[60,47]⟩ _ W c.mv.box hk hs (by rw [← hL];exact hb))
 have HPL : begL sXml L = false → begL sCom L = false → begL sCd L = false → begL [60,47] L = true → Hid (pieceL (k == 0) L = closeL L):=fun n0 n1 n2 h3=>Lib.hid (pc_close (fun e=>by rw [n0] at e;cases e.2) n1 n2 h3)
 rw [← hL]
 rw [← hL] at hb
 rw [← hL] at n0
 rw [← hL] at n1
 rw [← hL] at n2
 have HR:=HRL hb
 have HP:=HPL n0 n1 n2 hb
 have HY:=HY3 hb
 have HX0:=HN0 n0
 have HX1:=HN1 n1
 have HX2:=HN2 n2
 clear n0 n1 n2 HN0 HN1 HN2 hb HY3 HRL HPL hL hLl hm hbt h hmk _hw
 have HS0:=HST
 have HM0:=HMK
 go_enter Tryz.func59,Tryz.ntmps59
 go_wp2_with fail
 refine wp_loop_rounds 4 ?_
 rw [rounds_succ]
 obtain ⟨m0,m1,m2,m3,m4,m5,m6,m7,m8,m9⟩:=marks_cells HM0.out
 go_wp2_with fail
 clear m0 m1 m2 m3 m4 m5 m6 m7 m8 m9
 have HZ0:=Lib.hid (HM0.out.lt)
 have HSA0:=Lib.hid (HS0.out.below ((Below.refl _ _).alloc (Nat.le_refl _) (.cells #[.string ⟨#[60,63,120,109,108]⟩,.func (.func 102) #[] #[]] 157)))
 have HMA0:=Lib.hid (HM0.out.below ((Below.refl _ _).alloc (Nat.le_refl _) (.cells #[.string ⟨#[60,63,120,109,108]⟩,.func (.func 102) #[] #[]] 157)))
 go_region_with (go_at_call 107;refine (HX0.out _ (StK.drew HSA0.out)).mono ?_;rintro e w1 ⟨rfl,hm1⟩;have HS1:=Lib.hid ((StK.drew HSA0.out).go hm1);have HM1:=Lib.hid (MarksAt.kept (w:=World.drew _) HMA0.out hm1.grown HMB.out);clear hm1)
 go_wp2_with fail
 rw [rounds_succ]
 obtain ⟨m0,m1,m2,m3,m4,m5,m6,m7,m8,m9⟩:=marks_cells HM1.out
 go_wp2_with fail
 clear m0 m1 m2 m3 m4 m5 m6 m7 m8 m9
 have HZ1:=Lib.hid (HM1.out.lt)
 have HSA1:=Lib.hid (HS1.out.below ((Below.refl _ _).alloc (Nat.le_refl _) (.cells #[.string ⟨#[60,33,45,45]⟩,.func (.func 103) #[] #[]] 157)))
 have HMA1:=Lib.hid (HM1.out.below ((Below.refl _ _).alloc (Nat.le_refl _) (.cells #[.string ⟨#[60,33,45,45]⟩,.func (.func 103) #[] #[]] 157)))
 go_region_with (go_at_call 107;refine (HX1.out _ (StK.drew HSA1.out)).mono ?_;rintro e w2 ⟨rfl,hm2⟩;have HS2:=Lib.hid ((StK.drew HSA1.out).go hm2);have HM2:=Lib.hid (MarksAt.kept (w:=World.drew _) HMA1.out hm2.grown HMB.out);clear hm2)
 go_wp2_with fail
 rw [rounds_succ]
 obtain ⟨m0,m1,m2,m3,m4,m5,m6,m7,m8,m9⟩:=marks_cells HM2.out
 go_wp2_with fail
 clear m0 m1 m2 m3 m4 m5 m6 m7 m8 m9
 have HZ2:=Lib.hid (HM2.out.lt)
 have HSA2:=Lib.hid (HS2.out.below ((Below.refl _ _).alloc (Nat.le_refl _) (.cells #[.string ⟨#[60,33,91,67,68,65,84,65,91]⟩,.func (.func 104) #[] #[]] 157)))
 have HMA2:=Lib.hid (HM2.out.below ((Below.refl _ _).alloc (Nat.le_refl _) (.cells #[.string ⟨#[60,33,91,67,68,65,84,65,91]⟩,.func (.func 104) #[] #[]] 157)))
 go_region_with (go_at_call 107;refine (HX2.out _ (StK.drew HSA2.out)).mono ?_;rintro e w3 ⟨rfl,hm3⟩;have HS3:=Lib.hid ((StK.drew HSA2.out).go hm3);have HM3:=Lib.hid (MarksAt.kept (w:=World.drew _) HMA2.out hm3.grown HMB.out);clear hm3)
 go_wp2_with fail
 rw [rounds_succ]
 obtain ⟨m0,m1,m2,m3,m4,m5,m6,m7,m8,m9⟩:=marks_cells HM3.out
 go_wp2_with fail
 clear m0 m1 m2 m3 m4 m5 m6 m7 m8 m9
 have HZ3:=Lib.hid (HM3.out.lt)
 have HSA3:=Lib.hid (HS3.out.below ((Below.refl _ _).alloc (Nat.le_refl _) (.cells #[.string ⟨#[60,47]⟩,.func (.func 105) #[] #[]] 157)))
 have HMA3:=Lib.hid (HM3.out.below ((Below.refl _ _).alloc (Nat.le_refl _) (.cells #[.string ⟨#[60,47]⟩,.func (.func 105) #[] #[]] 157)))
 have HNB3:=Lib.hid HS3.out.mv.box.lt
 go_region_with (go_at_call 107;refine (HY.out _ (StK.drew HSA3.out)).mono ?_;rintro e w4 ⟨rfl,hm4⟩;have HS4:=Lib.hid ((StK.drew HSA3.out).go hm4);have HM4:=Lib.hid (MarksAt.kept (w:=World.drew _) HMA3.out hm4.grown HMB.out);have HV:=Lib.hid (mark_kept hm4.grown HNB3.out);clear hm4)
 obtain ⟨v0,v1⟩:=HV.out
 go_wp2_with fail
 refine (HR.out _ HS4.out).mono ?_
 rintro e w8 (⟨t,n,a,c,ho,rfl,hmv,how⟩ | ⟨ho,ki,x,y,a,c,d,em,q,hqs,rfl,hmv⟩)
 ·have HS8:=Lib.hid (HS4.out.go hmv)
  have HO8:=Lib.hid how
  have HR8 : Hid (pieceL (k == 0) L = some (t,n)):=Lib.hid (by rw [HP.out];exact ho)
  clear hmv how ho
  obtain ⟨c0,c1,c2,c3,c4,f0,f1,f2,f3,f4⟩:=HS8.out.bx.at
  go_wp2
  (try simp only [Exit.inBlock,Exit.then])
  refine ret_cell rfl rfl (HS8.out.bx.set _ _ _ _ _) Tryz.underlying119 rfl (by kernel_rfl) rfl ?_
  exact .inl ⟨t,n,_,HR8.out,rfl,HS8.out.mv.own5 HS8.out.lt _ _ _ _ _,own_mono (own_set5 HO8.out (Nat.lt_succ_self _) _ _ _ _ _) (Nat.le_succ _)⟩
 ·have HS8:=Lib.hid (HS4.out.go hmv)
  have HR8 : Hid (pieceL (k == 0) L = none):=Lib.hid (by rw [HP.out];exact ho)
  clear hmv ho
  obtain ⟨c0,c1,c2,c3,c4,f0,f1,f2,f3,f4⟩:=HS8.out.bx.at
  go_wp2
  (try simp only [Exit.inBlock,Exit.then])
  refine ret_cell rfl rfl (HS8.out.bx.set _ _ _ _ _) Tryz.underlying119 rfl (by kernel_rfl) rfl ?_
  exact .inr ⟨HR8.out,_,_,_,_,_,_,_,q,hqs,rfl,HS8.out.mv.own5 HS8.out.lt _ _ _ _ _⟩
set_option maxHeartbeats 8000000 in
set_option maxRecDepth 20000 in
theorem spiece_o (b k mb : Nat) (doc : ByteArray) (w : World) (hm : LayT w) (hbt : 6 ≤ b) (h : BoxS b doc k (.slice (some ⟨mb,0,none⟩) 5 5) w) (hmk : MarksAt mb w) (hs : doc.size ≤ 100000) (hk : k ≤ doc.size) (hw : Whole ((bts doc).drop k)) (n0 : begL sXml ((bts doc).drop k) = false) (n1 : begL sCom ((bts doc).drop k) = false) (n2 : begL sCd ((bts doc).drop k) = false) (n3 : begL [60,47] ((bts doc).drop k) = false) (hb : begL [60] ((bts doc).drop k) = true) :
  Calls Tryz.prog 59 #[.pointer (some ⟨b,0,none⟩)] w fun e w'=>ReadP b k doc (.slice (some ⟨mb,0,none⟩) 5 5) (pieceL (k == 0) ((bts doc).drop k)) w e w':=by
 have hl:=bts_len doc
 have HST:=Lib.hid (StK.start h)
 have HMK:=Lib.hid (hmk.below ((Below.refl _ w).alloc (Nat.le_refl _) (.cells #[.int .i64 0,.string ⟨#[]⟩,.string ⟨#[]⟩,.slice none 0 0,.bool false] 119)))
 have HMB : Hid (mb ≠ b):=Lib.hid (fun e=>by
  subst e
  unfold BoxS at h
  unfold MarksAt at hmk
  rw [h] at hmk
  simp only [Option.some.injEq,Obj.cells.injEq] at hmk
  exact absurd hmk.2.1 (by decide))
 have HLAY : Hid (∀ q W,StK b doc (.slice (some ⟨mb,0,none⟩) 5 5) q w W → LayT W):=Lib.hid (fun q W k=>hm.grown k.mv.grown h.lt hbt)
 obtain ⟨d0,d1,d2,g0,g1,g2⟩:=HST.out.mv.box.at
 obtain ⟨L,hL⟩ : ∃ L,L = (bts doc).drop k:=⟨_,rfl⟩
 have hLl : L.length = doc.size - k:=by rw [hL,List.length_drop,hl]
 -- what each way comes to
 have HRO : begL [60] L = true → Hid (∀ W,StK b doc (.slice (some ⟨mb,0,none⟩) 5 5) (k + 1) w W → Calls Tryz.prog 106 #[.pointer (some ⟨b,0,none⟩)] W fun e w'=>ReadQ b k doc (.slice (some ⟨mb,0,none⟩) 5 5) (openL L) W (w.heap.size + 1) e w'):=fun hb=>Lib.hid (fun W c=>(readOpen_any b k doc _ W (HLAY.out _ _ c) hbt c.mv.box hs (by have:=begL_len hb;rw [hLl] at this;simp at this;omega) (by
   have hsp:=beg_split hb
   rw [hL] at hsp
   rw [List.drop_drop] at hsp
   rw [hsp] at hw
   exact (whole_tail (by decide) hw).1)).mono (fun e w' r=>by rw [hL];exact r.spell c.bx.lt))
 have HN0 : begL sXml L = false → Hid (∀ W,StK b doc (.slice (some ⟨mb,0,none⟩) 5 5) k w W → Calls Tryz.prog 107 #[.pointer (some ⟨b,0,none⟩),.string ⟨#[60,63,120,109,108]⟩] W fun e w'=>e = .returned (.bool false) ∧ Moves b doc (.slice (some ⟨mb,0,none⟩) 5 5) k W w'):=fun hb=>Lib.hid (fun W c=>skip_no b k doc ⟨#[60,63,120,109,108]⟩ _ W c.mv.box hk hs (by rw [← hL];exact hb))
 have HN1 : begL sCom L = false → Hid (∀ W,StK b doc (.slice (some ⟨mb,0,none⟩) 5 5) k w W → Calls Tryz.prog 107 #[.pointer (some ⟨b,0,none⟩),.string ⟨#[60,33,45,45]⟩] W fun e w'=>e = .returned (.bool false) ∧ Moves b doc (.slice (some ⟨mb,0,none⟩) 5 5) k W w'):=fun hb=>Lib.hid (fun W c=>skip_no b k doc ⟨#[60,33,45,45]⟩ _ W c.mv.box hk hs (by rw [← hL];exact hb))
 have HN2 : begL sCd L = false → Hid (∀ W,StK b doc (.slice (some ⟨mb,0,none⟩) 5 5) k w W → Calls Tryz.prog 107 #[.pointer (some ⟨b,0,none⟩),.string ⟨#[60,33,91,67,68,65,84,65,91]⟩] W fun e w'=>e = .returned (.bool false) ∧ Moves b doc (.slice (some ⟨mb,0,none⟩) 5 5) k W w'):=fun hb=>Lib.hid (fun W c=>skip_no b k doc ⟨#[60,33,91,67,68,65,84,65,91]⟩ _ W c.mv.box hk hs (by rw [← hL];exact hb))
 have HN3 : begL [60,47] L = false → Hid (∀ W,StK b doc (.slice (some ⟨mb,0,none⟩) 5 5) k w W → Calls Tryz.prog 107 #[.pointer (some ⟨b,0,none⟩),.string ⟨#[60,47]⟩] W fun e w'=>e = .returned (.bool false) ∧ Moves b doc (.slice (some ⟨mb,0,none⟩) 5 5) k W w'):=fun hb=>Lib.hid (fun W c=>skip_no b k doc ⟨#[60,47]⟩ _ W c.mv.box hk hs (by rw [← hL];exact hb))
 have HY4 : begL [60] L = true → Hid (∀ W,StK b doc (.slice (some ⟨mb,0,none⟩) 5 5) k w W → Calls Tryz.prog 107 #[.pointer (some ⟨b,0,none⟩),.string ⟨#[60]⟩] W fun e w'=>e = .returned (.bool true) ∧ Moves b doc (.slice (some ⟨mb,0,none⟩) 5 5) (k + 1) W w'):=fun hb=>Lib.hid (fun W c=>skip_yes b k doc ⟨#[60]⟩ _ W c.mv.box hk hs (by rw [← hL];exact hb))
 have HPO : begL sXml L = false → begL sCom L = false → begL sCd L = false → begL [60,47] L = false → begL [60] L = true → Hid (pieceL (k == 0) L = openL L):=fun n0 n1 n2 n3 h4=>Lib.hid (pc_open (fun e=>by rw [n0] at e;cases e.2) n1 n2 n3 h4)
 rw [← hL]
 rw [← hL] at hb
 rw [← hL] at n0
 rw [← hL] at n1
 rw [← hL] at n2
 rw [← hL] at n3
 have HR:=HRO hb
 have HP:=HPO n0 n1 n2 n3 hb
 have HY:=HY4 hb
 have HX0:=HN0 n0
 have HX1:=HN1 n1
 have HX2:=HN2 n2
 have HX3:=HN3 n3
 clear n0 n1 n2 n3 HN0 HN1 HN2 HN3 hb HY4 HRO HPO hL hLl hm hbt h hmk hw
 have HS0:=HST
 have HM0:=HMK
 go_enter Tryz.func59,Tryz.ntmps59
 go_wp2_with fail
 refine wp_loop_rounds 5 ?_
 rw [rounds_succ]
 obtain ⟨m0,m1,m2,m3,m4,m5,m6,m7,m8,m9⟩:=marks_cells HM0.out
 go_wp2_with fail
 clear m0 m1 m2 m3 m4 m5 m6 m7 m8 m9
 have HZ0:=Lib.hid (HM0.out.lt)
 have HSA0:=Lib.hid (HS0.out.below ((Below.refl _ _).alloc (Nat.le_refl _) (.cells #[.string ⟨#[60,63,120,109,108]⟩,.func (.func 102) #[] #[]] 157)))
 have HMA0:=Lib.hid (HM0.out.below ((Below.refl _ _).alloc (Nat.le_refl _) (.cells #[.string ⟨#[60,63,120,109,108]⟩,.func (.func 102) #[] #[]] 157)))
 go_region_with (go_at_call 107;refine (HX0.out _ (StK.drew HSA0.out)).mono ?_;rintro e w1 ⟨rfl,hm1⟩;have HS1:=Lib.hid ((StK.drew HSA0.out).go hm1);have HM1:=Lib.hid (MarksAt.kept (w:=World.drew _) HMA0.out hm1.grown HMB.out);clear hm1)
 go_wp2_with fail
 rw [rounds_succ]
 obtain ⟨m0,m1,m2,m3,m4,m5,m6,m7,m8,m9⟩:=marks_cells HM1.out
 go_wp2_with fail
 clear m0 m1 m2 m3 m4 m5 m6 m7 m8 m9
 have HZ1:=Lib.hid (HM1.out.lt)
 have HSA1:=Lib.hid (HS1.out.below ((Below.refl _ _).alloc (Nat.le_refl _) (.cells #[.string ⟨#[60,33,45,45]⟩,.func (.func 103) #[] #[]] 157)))
 have HMA1:=Lib.hid (HM1.out.below ((Below.refl _ _).alloc (Nat.le_refl _) (.cells #[.string ⟨#[60,33,45,45]⟩,.func (.func 103) #[] #[]] 157)))
 go_region_with (go_at_call 107;refine (HX1.out _ (StK.drew HSA1.out)).mono ?_;rintro e w2 ⟨rfl,hm2⟩;have HS2:=Lib.hid ((StK.drew HSA1.out).go hm2);have HM2:=Lib.hid (MarksAt.kept (w:=World.drew _) HMA1.out hm2.grown HMB.out);clear hm2)
 go_wp2_with fail
 rw [rounds_succ]
 obtain ⟨m0,m1,m2,m3,m4,m5,m6,m7,m8,m9⟩:=marks_cells HM2.out
 go_wp2_with fail
 clear m0 m1 m2 m3 m4 m5 m6 m7 m8 m9
 have HZ2:=Lib.hid (HM2.out.lt)
 have HSA2:=Lib.hid (HS2.out.below ((Below.refl _ _).alloc (Nat.le_refl _) (.cells #[.string ⟨#[60,33,91,67,68,65,84,65,91]⟩,.func (.func 104) #[] #[]] 157)))
 have HMA2:=Lib.hid (HM2.out.below ((Below.refl _ _).alloc (Nat.le_refl _) (.cells #[.string ⟨#[60,33,91,67,68,65,84,65,91]⟩,.func (.func 104) #[] #[]] 157)))
 go_region_with (go_at_call 107;refine (HX2.out _ (StK.drew HSA2.out)).mono ?_;rintro e w3 ⟨rfl,hm3⟩;have HS3:=Lib.hid ((StK.drew HSA2.out).go hm3);have HM3:=Lib.hid (MarksAt.kept (w:=World.drew _) HMA2.out hm3.grown HMB.out);clear hm3)
 go_wp2_with fail
 rw [rounds_succ]
 obtain ⟨m0,m1,m2,m3,m4,m5,m6,m7,m8,m9⟩:=marks_cells HM3.out
 go_wp2_with fail
 clear m0 m1 m2 m3 m4 m5 m6 m7 m8 m9
 have HZ3:=Lib.hid (HM3.out.lt)
 have HSA3:=Lib.hid (HS3.out.below ((Below.refl _ _).alloc (Nat.le_refl _) (.cells #[.string ⟨#[60,47]⟩,.func (.func 105) #[] #[]] 157)))
 have HMA3:=Lib.hid (HM3.out.below ((Below.refl _ _).alloc (Nat.le_refl _) (.cells #[.string ⟨#[60,47]⟩,.func (.func 105) #[] #[]] 157)))
 go_region_with (go_at_call 107;refine (HX3.out _ (StK.drew HSA3.out)).mono ?_;rintro e w4 ⟨rfl,hm4⟩;have HS4:=Lib.hid ((StK.drew HSA3.out).go hm4);have HM4:=Lib.hid (MarksAt.kept (w:=World.drew _) HMA3.out hm4.grown HMB.out);clear hm4)
 go_wp2_with fail
 rw [rounds_succ]
 obtain ⟨m0,m1,m2,m3,m4,m5,m6,m7,m8,m9⟩:=marks_cells HM4.out
 go_wp2_with fail
 clear m0 m1 m2 m3 m4 m5 m6 m7 m8 m9
 have HZ4:=Lib.hid (HM4.out.lt)
 have HSA4:=Lib.hid (HS4.out.below ((Below.refl _ _).alloc (Nat.le_refl _) (.cells #[.string ⟨#[60]⟩,.func (.func 106) #[] #[]] 157)))
 have HMA4:=Lib.hid (HM4.out.below ((Below.refl _ _).alloc (Nat.le_refl _) (.cells #[.string ⟨#[60]⟩,.func (.func 106) #[] #[]] 157)))
 have HNB4:=Lib.hid HS4.out.mv.box.lt
 go_region_with (go_at_call 107;refine (HY.out _ (StK.drew HSA4.out)).mono ?_;rintro e w5 ⟨rfl,hm5⟩;have HS5:=Lib.hid ((StK.drew HSA4.out).go hm5);have HM5:=Lib.hid (MarksAt.kept (w:=World.drew _) HMA4.out hm5.grown HMB.out);have HV:=Lib.hid (mark_kept hm5.grown HNB4.out);clear hm5)
 obtain ⟨v0,v1⟩:=HV.out
 go_wp2_with fail
 refine (HR.out _ HS5.out).mono ?_
 rintro e w8 (⟨t,n,a,c,ho,rfl,hmv,how⟩ | ⟨ho,ki,x,y,a,c,d,em,q,hqs,rfl,hmv⟩)
 ·have HS8:=Lib.hid (HS5.out.go hmv)
  have HO8:=Lib.hid how
  have HR8 : Hid (pieceL (k == 0) L = some (t,n)):=Lib.hid (by rw [HP.out];exact ho)
  clear hmv how ho
  obtain ⟨c0,c1,c2,c3,c4,f0,f1,f2,f3,f4⟩:=HS8.out.bx.at
  go_wp2
  (try simp only [Exit.inBlock,Exit.then])
  refine ret_cell rfl rfl (HS8.out.bx.set _ _ _ _ _) Tryz.underlying119 rfl (by kernel_rfl) rfl ?_
  exact .inl ⟨t,n,_,HR8.out,rfl,HS8.out.mv.own5 HS8.out.lt _ _ _ _ _,own_mono (own_set5 HO8.out (Nat.lt_succ_self _) _ _ _ _ _) (Nat.le_succ _)⟩
 ·have HS8:=Lib.hid (HS5.out.go hmv)
  have HR8 : Hid (pieceL (k == 0) L = none):=Lib.hid (by rw [HP.out];exact ho)
  clear hmv ho
  obtain ⟨c0,c1,c2,c3,c4,f0,f1,f2,f3,f4⟩:=HS8.out.bx.at
  go_wp2
  (try simp only [Exit.inBlock,Exit.then])
  refine ret_cell rfl rfl (HS8.out.bx.set _ _ _ _ _) Tryz.underlying119 rfl (by kernel_rfl) rfl ?_
  exact .inr ⟨HR8.out,_,_,_,_,_,_,_,q,hqs,rfl,HS8.out.mv.own5 HS8.out.lt _ _ _ _ _⟩
set_option maxHeartbeats 8000000 in
set_option maxRecDepth 20000 in
theorem spiece_t (b k mb : Nat) (doc : ByteArray) (w : World) (hm : LayT w) (hbt : 6 ≤ b) (h : BoxS b doc k (.slice (some ⟨mb,0,none⟩) 5 5) w) (hmk : MarksAt mb w) (hs : doc.size ≤ 100000) (hk : k ≤ doc.size) (hw : Whole ((bts doc).drop k)) (n0 : begL sXml ((bts doc).drop k) = false) (n1 : begL sCom ((bts doc).drop k) = false) (n2 : begL sCd ((bts doc).drop k) = false) (n3 : begL [60,47] ((bts doc).drop k) = false) (n4 : begL [60] ((bts doc).drop k) = false) :
  Calls Tryz.prog 59 #[.pointer (some ⟨b,0,none⟩)] w fun e w'=>ReadP b k doc (.slice (some ⟨mb,0,none⟩) 5 5) (pieceL (k == 0) ((bts doc).drop k)) w e w':=by
 have hl:=bts_len doc
 have HST:=Lib.hid (StK.start h)
 have HMK:=Lib.hid (hmk.below ((Below.refl _ w).alloc (Nat.le_refl _) (.cells #[.int .i64 0,.string ⟨#[]⟩,.string ⟨#[]⟩,.slice none 0 0,.bool false] 119)))
 have HMB : Hid (mb ≠ b):=Lib.hid (fun e=>by
  subst e
  unfold BoxS at h
  unfold MarksAt at hmk
  rw [h] at hmk
  simp only [Option.some.injEq,Obj.cells.injEq] at hmk
  exact absurd hmk.2.1 (by decide))
 have HLAY : Hid (∀ q W,StK b doc (.slice (some ⟨mb,0,none⟩) 5 5) q w W → LayT W):=Lib.hid (fun q W k=>hm.grown k.mv.grown h.lt hbt)
 obtain ⟨d0,d1,d2,g0,g1,g2⟩:=HST.out.mv.box.at
 obtain ⟨L,hL⟩ : ∃ L,L = (bts doc).drop k:=⟨_,rfl⟩
 have hLl : L.length = doc.size - k:=by rw [hL,List.length_drop,hl]
 -- what each way comes to
 have HRT : Hid (∀ W,StK b doc (.slice (some ⟨mb,0,none⟩) 5 5) k w W → Calls Tryz.prog 108 #[.pointer (some ⟨b,0,none⟩)] W fun e w'=>ReadQ b k doc (.slice (some ⟨mb,0,none⟩) 5 5) (textL L) W (w.heap.size + 1) e w'):=Lib.hid (fun W c=>(readText_any b k doc _ W (HLAY.out _ _ c) hbt c.mv.box hs hk hw).mono (fun e w' r=>by rw [hL];exact r.spell c.bx.lt))
 have HN0 : begL sXml L = false → Hid (∀ W,StK b doc (.slice (some ⟨mb,0,none⟩) 5 5) k w W → Calls Tryz.prog 107 #[.pointer (some ⟨b,0,none⟩),.string ⟨#[60,63,120,109,108]⟩] W fun e w'=>e = .returned (.bool false) ∧ Moves b doc (.slice (some ⟨mb,0,none⟩) 5 5) k W w'):=fun hb=>Lib.hid (fun W c=>skip_no b k doc ⟨#[60,63,120,109,108]⟩ _ W c.mv.box hk hs (by rw [← hL];exact hb))
 have HN1 : begL sCom L = false → Hid (∀ W,StK b doc (.slice (some ⟨mb,0,none⟩) 5 5) k w W → Calls Tryz.prog 107 #[.pointer (some ⟨b,0,none⟩),.string ⟨#[60,33,45,45]⟩] W fun e w'=>e = .returned (.bool false) ∧ Moves b doc (.slice (some ⟨mb,0,none⟩) 5 5) k W w'):=fun hb=>Lib.hid (fun W c=>skip_no b k doc ⟨#[60,33,45,45]⟩ _ W c.mv.box hk hs (by rw [← hL];exact hb))
 have HN2 : begL sCd L = false → Hid (∀ W,StK b doc (.slice (some ⟨mb,0,none⟩) 5 5) k w W → Calls Tryz.prog 107 #[.pointer (some ⟨b,0,none⟩),.string ⟨#[60,33,91,67,68,65,84,65,91]⟩] W fun e w'=>e = .returned (.bool false) ∧ Moves b doc (.slice (some ⟨mb,0,none⟩) 5 5) k W w'):=fun hb=>Lib.hid (fun W c=>skip_no b k doc ⟨#[60,33,91,67,68,65,84,65,91]⟩ _ W c.mv.box hk hs (by rw [← hL];exact hb))
 have HN3 : begL [60,47] L = false → Hid (∀ W,StK b doc (.slice (some ⟨mb,0,none⟩) 5 5) k w W → Calls Tryz.prog 107 #[.pointer (some ⟨b,0,none⟩),.string ⟨#[60,47]⟩] W fun e w'=>e = .returned (.bool false) ∧ Moves b doc (.slice (some ⟨mb,0,none⟩) 5 5) k W w'):=fun hb=>Lib.hid (fun W c=>skip_no b k doc ⟨#[60,47]⟩ _ W c.mv.box hk hs (by rw [← hL];exact hb))
 have HN4 : begL [60] L = false → Hid (∀ W,StK b doc (.slice (some ⟨mb,0,none⟩) 5 5) k w W → Calls Tryz.prog 107 #[.pointer (some ⟨b,0,none⟩),.string ⟨#[60]⟩] W fun e w'=>e = .returned (.bool false) ∧ Moves b doc (.slice (some ⟨mb,0,none⟩) 5 5) k W w'):=fun hb=>Lib.hid (fun W c=>skip_no b k doc ⟨#[60]⟩ _ W c.mv.box hk hs (by rw [← hL];exact hb))
 have HPT : begL sXml L = false → begL sCom L = false → begL sCd L = false → begL [60,47] L = false → begL [60] L = false → Hid (pieceL (k == 0) L = textL L):=fun n0 n1 n2 n3 n4=>Lib.hid (pc_text (fun e=>by rw [n0] at e;cases e.2) n1 n2 n3 n4)
 rw [← hL]
 rw [← hL] at n0
 rw [← hL] at n1
 rw [← hL] at n2
 rw [← hL] at n3
 rw [← hL] at n4
 have HR:=HRT
 have HP:=HPT n0 n1 n2 n3 n4
 have HX0:=HN0 n0
 have HX1:=HN1 n1
 have HX2:=HN2 n2
 have HX3:=HN3 n3
 have HX4:=HN4 n4
 clear n0 n1 n2 n3 n4 HN0 HN1 HN2 HN3 HN4 HRT HPT hL hLl hm hbt h hmk hw
 have HS0:=HST
 have HM0:=HMK
 go_enter Tryz.func59,Tryz.ntmps59
 go_wp2_with fail
 refine wp_loop_rounds 6 ?_
 rw [rounds_succ]
 obtain ⟨m0,m1,m2,m3,m4,m5,m6,m7,m8,m9⟩:=marks_cells HM0.out
 go_wp2_with fail
 clear m0 m1 m2 m3 m4 m5 m6 m7 m8 m9
 have HZ0:=Lib.hid (HM0.out.lt)
 have HSA0:=Lib.hid (HS0.out.below ((Below.refl _ _).alloc (Nat.le_refl _) (.cells #[.string ⟨#[60,63,120,109,108]⟩,.func (.func 102) #[] #[]] 157)))
 have HMA0:=Lib.hid (HM0.out.below ((Below.refl _ _).alloc (Nat.le_refl _) (.cells #[.string ⟨#[60,63,120,109,108]⟩,.func (.func 102) #[] #[]] 157)))
 go_region_with (go_at_call 107;refine (HX0.out _ (StK.drew HSA0.out)).mono ?_;rintro e w1 ⟨rfl,hm1⟩;have HS1:=Lib.hid ((StK.drew HSA0.out).go hm1);have HM1:=Lib.hid (MarksAt.kept (w:=World.drew _) HMA0.out hm1.grown HMB.out);clear hm1)
 go_wp2_with fail
 rw [rounds_succ]
 obtain ⟨m0,m1,m2,m3,m4,m5,m6,m7,m8,m9⟩:=marks_cells HM1.out
 go_wp2_with fail
 clear m0 m1 m2 m3 m4 m5 m6 m7 m8 m9
 have HZ1:=Lib.hid (HM1.out.lt)
 have HSA1:=Lib.hid (HS1.out.below ((Below.refl _ _).alloc (Nat.le_refl _) (.cells #[.string ⟨#[60,33,45,45]⟩,.func (.func 103) #[] #[]] 157)))
 have HMA1:=Lib.hid (HM1.out.below ((Below.refl _ _).alloc (Nat.le_refl _) (.cells #[.string ⟨#[60,33,45,45]⟩,.func (.func 103) #[] #[]] 157)))
 go_region_with (go_at_call 107;refine (HX1.out _ (StK.drew HSA1.out)).mono ?_;rintro e w2 ⟨rfl,hm2⟩;have HS2:=Lib.hid ((StK.drew HSA1.out).go hm2);have HM2:=Lib.hid (MarksAt.kept (w:=World.drew _) HMA1.out hm2.grown HMB.out);clear hm2)
 go_wp2_with fail
 rw [rounds_succ]
 obtain ⟨m0,m1,m2,m3,m4,m5,m6,m7,m8,m9⟩:=marks_cells HM2.out
 go_wp2_with fail
 clear m0 m1 m2 m3 m4 m5 m6 m7 m8 m9
 have HZ2:=Lib.hid (HM2.out.lt)
 have HSA2:=Lib.hid (HS2.out.below ((Below.refl _ _).alloc (Nat.le_refl _) (.cells #[.string ⟨#[60,33,91,67,68,65,84,65,91]⟩,.func (.func 104) #[] #[]] 157)))
 have HMA2:=Lib.hid (HM2.out.below ((Below.refl _ _).alloc (Nat.le_refl _) (.cells #[.string ⟨#[60,33,91,67,68,65,84,65,91]⟩,.func (.func 104) #[] #[]] 157)))
 go_region_with (go_at_call 107;refine (HX2.out _ (StK.drew HSA2.out)).mono ?_;rintro e w3 ⟨rfl,hm3⟩;have HS3:=Lib.hid ((StK.drew HSA2.out).go hm3);have HM3:=Lib.hid (MarksAt.kept (w:=World.drew _) HMA2.out hm3.grown HMB.out);clear hm3)
 go_wp2_with fail
 rw [rounds_succ]
 obtain ⟨m0,m1,m2,m3,m4,m5,m6,m7,m8,m9⟩:=marks_cells HM3.out
 go_wp2_with fail
 clear m0 m1 m2 m3 m4 m5 m6 m7 m8 m9
 have HZ3:=Lib.hid (HM3.out.lt)
 have HSA3:=Lib.hid (HS3.out.below ((Below.refl _ _).alloc (Nat.le_refl _) (.cells #[.string ⟨#[60,47]⟩,.func (.func 105) #[] #[]] 157)))
 have HMA3:=Lib.hid (HM3.out.below ((Below.refl _ _).alloc (Nat.le_refl _) (.cells #[.string ⟨#[60,47]⟩,.func (.func 105) #[] #[]] 157)))
 go_region_with (go_at_call 107;refine (HX3.out _ (StK.drew HSA3.out)).mono ?_;rintro e w4 ⟨rfl,hm4⟩;have HS4:=Lib.hid ((StK.drew HSA3.out).go hm4);have HM4:=Lib.hid (MarksAt.kept (w:=World.drew _) HMA3.out hm4.grown HMB.out);clear hm4)
 go_wp2_with fail
 rw [rounds_succ]
 obtain ⟨m0,m1,m2,m3,m4,m5,m6,m7,m8,m9⟩:=marks_cells HM4.out
 go_wp2_with fail
 clear m0 m1 m2 m3 m4 m5 m6 m7 m8 m9
 have HZ4:=Lib.hid (HM4.out.lt)
 have HSA4:=Lib.hid (HS4.out.below ((Below.refl _ _).alloc (Nat.le_refl _) (.cells #[.string ⟨#[60]⟩,.func (.func 106) #[] #[]] 157)))
 have HMA4:=Lib.hid (HM4.out.below ((Below.refl _ _).alloc (Nat.le_refl _) (.cells #[.string ⟨#[60]⟩,.func (.func 106) #[] #[]] 157)))
 go_region_with (go_at_call 107;refine (HX4.out _ (StK.drew HSA4.out)).mono ?_;rintro e w5 ⟨rfl,hm5⟩;have HS5:=Lib.hid ((StK.drew HSA4.out).go hm5);have HM5:=Lib.hid (MarksAt.kept (w:=World.drew _) HMA4.out hm5.grown HMB.out);clear hm5)
 go_wp2_with fail
 rw [rounds_succ]
 go_wp2_with fail
 refine (HR.out _ HS5.out).mono ?_
 rintro e w8 (⟨t,n,a,c,ho,rfl,hmv,how⟩ | ⟨ho,ki,x,y,a,c,d,em,q,hqs,rfl,hmv⟩)
 ·have HS8:=Lib.hid (HS5.out.go hmv)
  have HO8:=Lib.hid how
  have HR8 : Hid (pieceL (k == 0) L = some (t,n)):=Lib.hid (by rw [HP.out];exact ho)
  clear hmv how ho
  obtain ⟨c0,c1,c2,c3,c4,f0,f1,f2,f3,f4⟩:=HS8.out.bx.at
  go_wp2
  (try simp only [Exit.inBlock,Exit.then])
  refine ret_cell rfl rfl (HS8.out.bx.set _ _ _ _ _) Tryz.underlying119 rfl (by kernel_rfl) rfl ?_
  exact .inl ⟨t,n,_,HR8.out,rfl,HS8.out.mv.own5 HS8.out.lt _ _ _ _ _,own_mono (own_set5 HO8.out (Nat.lt_succ_self _) _ _ _ _ _) (Nat.le_succ _)⟩
 ·have HS8:=Lib.hid (HS5.out.go hmv)
  have HR8 : Hid (pieceL (k == 0) L = none):=Lib.hid (by rw [HP.out];exact ho)
  clear hmv ho
  obtain ⟨c0,c1,c2,c3,c4,f0,f1,f2,f3,f4⟩:=HS8.out.bx.at
  go_wp2
  (try simp only [Exit.inBlock,Exit.then])
  refine ret_cell rfl rfl (HS8.out.bx.set _ _ _ _ _) Tryz.underlying119 rfl (by kernel_rfl) rfl ?_
  exact .inr ⟨HR8.out,_,_,_,_,_,_,_,q,hqs,rfl,HS8.out.mv.own5 HS8.out.lt _ _ _ _ _⟩
end Go.Proofs.YtjldpkhfiffinaaGreatDoor.U
