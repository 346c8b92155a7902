/- Contracts and plain facts that the law stands on: Q17. -/
import Derived.Test.YtjldpkhfiffinaaGreatDoorZC18
import Derived.Test.YtjldpkhfiffinaaGreatDoorZC20
import Derived.Test.YtjldpkhfiffinaaGreatDoorZC21
import Derived.Test.YtjldpkhfiffinaaGreatDoorZC17
import Derived.Laws.EntriesVeiled
namespace Go.Proofs.YtjldpkhfiffinaaGreatDoor.U
open Go.RowKit Go.Shelf
def MarksAt (mb : Nat) (w : World) : Prop:=w.heap[mb]? = some (.cells #[.string ⟨#[60,63,120,109,108]⟩,.func (.func 102) #[] #[],.string ⟨#[60,33,45,45]⟩,.func (.func 103) #[] #[],.string ⟨#[60,33,91,67,68,65,84,65,91]⟩,.func (.func 104) #[] #[],.string ⟨#[60,47]⟩,.func (.func 105) #[] #[],.string ⟨#[60]⟩,.func (.func 106) #[] #[]] 157 (0,0))
theorem MarksAt.lt {mb : Nat} {w : World} (h : MarksAt mb w) : mb < w.heap.size:=(Array.getElem?_eq_some_iff.1 h).1
theorem MarksAt.below {mb : Nat} {w w' : World} (h : MarksAt mb w) (hb : Below w.heap.size w w') : MarksAt mb w':=(hb.block mb h.lt).trans h
theorem MarksAt.kept {mb g : Nat} {w w' : World} (h : MarksAt mb w) (hg : w.grownBy w' (some g)) (hne : mb ≠ g) : MarksAt mb w':=(hg.block mb h.lt (fun e=>hne (Option.some.inj e))).trans h
set_option maxHeartbeats 1000000 in
theorem marks_any (w : World) : Calls Tryz.prog 57 #[] w fun e w'=>e = .returned (.slice (some ⟨w.heap.size,0,none⟩) 5 5) ∧ MarksAt w.heap.size w' ∧ Below w.heap.size w w':=by
 go_enter Tryz.func57,Tryz.ntmps57
 go_wp2
 go_ret
 exact ⟨rfl,heap_alloc_new w _,(Below.refl _ w).alloc (Nat.le_refl _) _⟩
theorem openL_ways (k : Nat) (doc : ByteArray) : OpenC1 k doc ∨ OpenC2 k doc ∨ OpenC3 k doc ∨ OpenC4 k doc ∨ OpenC5 k doc:=by
 unfold OpenC1 OpenC2 OpenC3 OpenC4 OpenC5
 cases h : attrsB (doc.size - (k + 1) + 1) [] ((bts doc).drop (k + 1 + nameN ((bts doc).drop (k + 1)))) with
 | none=>exact .inl (fun al m e=>by cases e)
 | some x=>
  obtain ⟨al0,m0⟩:=x
  have hx : ∀ al m,some (al0,m0) = some (al,m) → al = al0 ∧ m = m0:=fun al m e=>by
   obtain ⟨rfl,rfl⟩:=Prod.mk.inj (Option.some.inj e)
   exact ⟨rfl,rfl⟩
  cases h1 : begL [47,62] ((bts doc).drop (k + 1 + nameN ((bts doc).drop (k + 1)) + m0)) with
  | true=>
   cases h3 : dupA [] al0 with
   | true=>exact .inl (fun al m e=>by obtain ⟨rfl,rfl⟩:=hx al m e;exact ⟨h1,h3⟩)
   | false=>exact .inr (.inl (fun al m e=>by obtain ⟨rfl,rfl⟩:=hx al m e;exact ⟨h1,h3⟩))
  | false=>
   cases h2 : begL [62] ((bts doc).drop (k + 1 + nameN ((bts doc).drop (k + 1)) + m0)) with
   | false=>exact .inr (.inr (.inl (fun al m e=>by obtain ⟨rfl,rfl⟩:=hx al m e;exact ⟨h1,h2⟩)))
   | true=>
    cases h3 : dupA [] al0 with
    | true=>exact .inr (.inr (.inr (.inl (fun al m e=>by obtain ⟨rfl,rfl⟩:=hx al m e;exact ⟨h1,h2,h3⟩))))
    | false=>exact .inr (.inr (.inr (.inr (fun al m e=>by obtain ⟨rfl,rfl⟩:=hx al m e;exact ⟨h1,h2,h3⟩))))
theorem readOpen_any (b k : Nat) (doc : ByteArray) (v : Value) (w : World) (hm : LayT w) (hbt : 6 ≤ b) (h : BoxS b doc (k + 1) v w) (hs : doc.size ≤ 100000) (hk : k + 1 ≤ doc.size) (hw : Whole ((bts doc).drop (k + 1))) :
  Calls Tryz.prog 106 #[.pointer (some ⟨b,0,none⟩)] w fun e w'=>ReadP b k doc v (openL ((bts doc).drop k)) w e w':=by
 rcases openL_ways k doc with hc | hc | hc | hc | hc
 ·exact readOpen_c1 b k doc v w hm hbt h hs hk hw hc
 ·exact readOpen_c2 b k doc v w hm hbt h hs hk hw hc
 ·exact readOpen_c3 b k doc v w hm hbt h hs hk hw hc
 ·exact readOpen_c4 b k doc v w hm hbt h hs hk hw hc
 ·exact readOpen_c5 b k doc v w hm hbt h hs hk hw hc
theorem xml_open {l : List UInt8} (h : begL sXml l = true) : openL l = none:=by
 obtain ⟨r,rfl⟩:=begL_iff.1 h
 refine open_none ?_
 rfl
theorem xml_not {l : List UInt8} (h : begL sXml l = true) : begL sCom l = false ∧ begL sCd l = false ∧ begL [60,47] l = false ∧ begL [60] l = true:=by
 obtain ⟨r,rfl⟩:=begL_iff.1 h
 exact ⟨rfl,rfl,rfl,rfl⟩
theorem marks_cells {mb : Nat} {w : World} (h : MarksAt mb w) : w.cell? ⟨mb,0,none⟩ = some (.string ⟨#[60,63,120,109,108]⟩) ∧ w.cell? ⟨mb,1,none⟩ = some (.func (.func 102) #[] #[]) ∧ w.cell? ⟨mb,2,none⟩ = some (.string ⟨#[60,33,45,45]⟩) ∧ w.cell? ⟨mb,3,none⟩ = some (.func (.func 103) #[] #[]) ∧ w.cell? ⟨mb,4,none⟩ = some (.string ⟨#[60,33,91,67,68,65,84,65,91]⟩) ∧ w.cell? ⟨mb,5,none⟩ = some (.func (.func 104) #[] #[]) ∧ w.cell? ⟨mb,6,none⟩ = some (.string ⟨#[60,47]⟩) ∧ w.cell? ⟨mb,7,none⟩ = some (.func (.func 105) #[] #[]) ∧ w.cell? ⟨mb,8,none⟩ = some (.string ⟨#[60]⟩) ∧ w.cell? ⟨mb,9,none⟩ = some (.func (.func 106) #[] #[]):=
 ⟨by rw [Lib.cell_of_heap h];rfl,by rw [Lib.cell_of_heap h];rfl,by rw [Lib.cell_of_heap h];rfl,by rw [Lib.cell_of_heap h];rfl,by rw [Lib.cell_of_heap h];rfl,by rw [Lib.cell_of_heap h];rfl,by rw [Lib.cell_of_heap h];rfl,by rw [Lib.cell_of_heap h];rfl,by rw [Lib.cell_of_heap h];rfl,by rw [Lib.cell_of_heap h];rfl⟩
theorem mark_kept {w w' : World} {b : Nat} {x : ByteArray} {u : Value} (hg : (w.alloc (.cells #[.string x,u] 157)).drew.grownBy w' (some b)) (hb : b < w.heap.size) : w'.cell? ⟨w.heap.size,0,none⟩ = some (.string x) ∧ w'.cell? ⟨w.heap.size,1,none⟩ = some u:=
 ⟨hg.cell (a:=⟨w.heap.size,0,none⟩) (by simp [World.cell?_alloc_new]) (fun e=>by have:=Option.some.inj e;simp at this;omega),hg.cell (a:=⟨w.heap.size,1,none⟩) (by simp [World.cell?_alloc_new]) (fun e=>by have:=Option.some.inj e;simp at this;omega)⟩
def ReadQ (b k : Nat) (doc : ByteArray) (v : Value) (o : Option (Tok × Nat)) (W : World) (base : Nat) (e : Ending) (w' : World) : Prop:=
 (∃ t n a c,o = some (t,n) ∧ e = .returned (.tuple #[.agg #[.int .i64 t.kind,.string ⟨t.name.toArray⟩,.string ⟨t.text.toArray⟩,.slice a t.attrs.length c,.bool t.empty],.bool true]) ∧ Moves b doc v (k + n) W w' ∧ w'.ownsRow base 82 2 (.slice a t.attrs.length c) t.attrs.length (attrCells t.attrs)) ∨
  (o = none ∧ ∃ ki x y a c d em q,q ≤ doc.size ∧ e = .returned (.tuple #[.agg #[.int .i64 ki,.string x,.string y,.slice a c d,.bool em],.bool false]) ∧ Moves b doc v q W w')
theorem ReadP.spell {b k : Nat} {doc : ByteArray} {v : Value} {o : Option (Tok × Nat)} {W : World} {e : Ending} {w' : World} {base : Nat} (h : ReadP b k doc v o W e w') (hb : base ≤ W.heap.size) : ReadQ b k doc v o W base e w':=by
 rcases h with ⟨t,n,va,h1,h2,h3,h4⟩ | h
 ·obtain ⟨a,c,rfl⟩:=own_slice h4
  exact .inl ⟨t,n,a,c,h1,by rw [h2];rfl,h3,own_mono h4 hb⟩
 ·exact .inr h
set_option maxHeartbeats 8000000 in
set_option maxRecDepth 20000 in
theorem spiece_x (b k mb : Nat) (doc : ByteArray) (w : World) (hm : LayT w) (hbt : 6 ≤ b) (h : BoxS b doc k (.slice (some ⟨mb,0,none⟩) 5 5) w) (hmk : MarksAt mb w) (hs : doc.size ≤ 100000) (hk : k ≤ doc.size) (hw : Whole ((bts doc).drop k)) (hb : begL sXml ((bts doc).drop k) = true) :
  Calls Tryz.prog 59 #[.pointer (some ⟨b,0,none⟩)] w fun e w'=>ReadP b k doc (.slice (some ⟨mb,0,none⟩) 5 5) (pieceL (k == 0) ((bts doc).drop k)) w e w':=by
 have hl:=bts_len doc
 have HST:=Lib.hid (StK.start h)
 have HMK:=Lib.hid (hmk.below ((Below.refl _ w).alloc (Nat.le_refl _) (.cells #[.int .i64 0,.string ⟨#[]⟩,.string ⟨#[]⟩,.slice none 0 0,.bool false] 119)))
 have HMB : Hid (mb ≠ b):=Lib.hid (fun e=>by
  subst e
  unfold BoxS at h
  unfold MarksAt at hmk
  rw [h] at hmk
  simp only [Option.some.injEq,Obj.cells.injEq] at hmk
  exact absurd hmk.2.1 (by decide))
 have HLAY : Hid (∀ q W,StK b doc (.slice (some ⟨mb,0,none⟩) 5 5) q w W → LayT W):=Lib.hid (fun q W k=>hm.grown k.mv.grown h.lt hbt)
 obtain ⟨d0,d1,d2,g0,g1,g2⟩:=HST.out.mv.box.at
 obtain ⟨L,hL⟩ : ∃ L,L = (bts doc).drop k:=⟨_,rfl⟩
 have hLl : L.length = doc.size - k:=by rw [hL,List.length_drop,hl]
 -- what each way comes to
 have HRX : begL sXml L = true → Hid (∀ W,StK b doc (.slice (some ⟨mb,0,none⟩) 5 5) (k + 5) w W → Calls Tryz.prog 102 #[.pointer (some ⟨b,0,none⟩)] W fun e w'=>ReadQ b k doc (.slice (some ⟨mb,0,none⟩) 5 5) (if k = 0 then decL L else none) W (w.heap.size + 1) e w'):=fun hq=>Lib.hid (fun W c=>by
  by_cases h0 : k = 0
  ·subst h0
   rw [if_pos rfl]
   have hL0 : L = bts doc:=by rw [hL,List.drop_zero]
   rw [hL0]
   exact (readDecl_zero b doc _ W (HLAY.out _ _ c) hbt c.mv.box hs (by rw [← hL0];exact hq)).mono (fun e w' r=>r.spell c.bx.lt)
  ·rw [if_neg h0]
   exact (readDecl_far b k (k + 5) doc _ W c.mv.box (by omega) (by have:=begL_len hq;rw [hLl] at this;simp [sXml] at this;omega)).mono (fun e w' r=>r.spell c.bx.lt))
 have HY0 : begL sXml L = true → Hid (∀ W,StK b doc (.slice (some ⟨mb,0,none⟩) 5 5) k w W → Calls Tryz.prog 107 #[.pointer (some ⟨b,0,none⟩),.string ⟨#[60,63,120,109,108]⟩] W fun e w'=>e = .returned (.bool true) ∧ Moves b doc (.slice (some ⟨mb,0,none⟩) 5 5) (k + 5) W w'):=fun hb=>Lib.hid (fun W c=>skip_yes b k doc ⟨#[60,63,120,109,108]⟩ _ W c.mv.box hk hs (by rw [← hL];exact hb))
 have HPX : begL sXml L = true → Hid (pieceL (k == 0) L = if k = 0 then decL L else none):=fun hb=>Lib.hid (by
  by_cases h0 : k = 0
  ·rw [if_pos h0,pc_dec (by rw [h0];rfl) hb]
  ·rw [if_neg h0]
   obtain ⟨n1,n2,n3,n4⟩:=xml_not hb
   rw [pc_open (fun e=>h0 (by simpa using e.1)) n1 n2 n3 n4,xml_open hb])
 rw [← hL]
 rw [← hL] at hb
 have HR:=HRX hb
 have HP:=HPX  hb
 have HY:=HY0 hb
 clear hb HY0 HRX HPX hL hLl hm hbt h hmk hw
 have HS0:=HST
 have HM0:=HMK
 go_enter Tryz.func59,Tryz.ntmps59
 go_wp2_with fail
 refine wp_loop_rounds 1 ?_
 rw [rounds_succ]
 obtain ⟨m0,m1,m2,m3,m4,m5,m6,m7,m8,m9⟩:=marks_cells HM0.out
 go_wp2_with fail
 clear m0 m1 m2 m3 m4 m5 m6 m7 m8 m9
 have HZ0:=Lib.hid (HM0.out.lt)
 have HSA0:=Lib.hid (HS0.out.below ((Below.refl _ _).alloc (Nat.le_refl _) (.cells #[.string ⟨#[60,63,120,109,108]⟩,.func (.func 102) #[] #[]] 157)))
 have HMA0:=Lib.hid (HM0.out.below ((Below.refl _ _).alloc (Nat.le_refl _) (.cells #[.string ⟨#[60,63,120,109,108]⟩,.func (.func 102) #[] #[]] 157)))
 have HNB0:=Lib.hid HS0.out.mv.box.lt
 go_region_with (go_at_call 107;refine (HY.out _ (StK.drew HSA0.out)).mono ?_;rintro e w1 ⟨rfl,hm1⟩;have HS1:=Lib.hid ((StK.drew HSA0.out).go hm1);have HM1:=Lib.hid (MarksAt.kept (w:=World.drew _) HMA0.out hm1.grown HMB.out);have HV:=Lib.hid (mark_kept hm1.grown HNB0.out);clear hm1)
 rw [show (w.alloc (.cells #[.int .i64 0,.string ⟨#[]⟩,.string ⟨#[]⟩,.slice none 0 0,.bool false] 119)).heap.size = w.heap.size + 1 by simp] at HV
 obtain ⟨v0,v1⟩:=HV.out
 go_wp2_with fail
 refine (HR.out _ HS1.out).mono ?_
 rintro e w8 (⟨t,n,a,c,ho,rfl,hmv,how⟩ | ⟨ho,ki,x,y,a,c,d,em,q,hqs,rfl,hmv⟩)
 ·have HS8:=Lib.hid (HS1.out.go hmv)
  have HO8:=Lib.hid how
  have HR8 : Hid (pieceL (k == 0) L = some (t,n)):=Lib.hid (by rw [HP.out];exact ho)
  clear hmv how ho
  obtain ⟨c0,c1,c2,c3,c4,f0,f1,f2,f3,f4⟩:=HS8.out.bx.at
  go_wp2
  (try simp only [Exit.inBlock,Exit.then])
  refine ret_cell rfl rfl (HS8.out.bx.set _ _ _ _ _) Tryz.underlying119 rfl (by kernel_rfl) rfl ?_
  exact .inl ⟨t,n,_,HR8.out,rfl,HS8.out.mv.own5 HS8.out.lt _ _ _ _ _,own_mono (own_set5 HO8.out (Nat.lt_succ_self _) _ _ _ _ _) (Nat.le_succ _)⟩
 ·have HS8:=Lib.hid (HS1.out.go hmv)
  have HR8 : Hid (pieceL (k == 0) L = none):=Lib.hid (by rw [HP.out];exact ho)
  clear hmv ho
  obtain ⟨c0,c1,c2,c3,c4,f0,f1,f2,f3,f4⟩:=HS8.out.bx.at
  go_wp2
  (try simp only [Exit.inBlock,Exit.then])
  refine ret_cell rfl rfl (HS8.out.bx.set _ _ _ _ _) Tryz.underlying119 rfl (by kernel_rfl) rfl ?_
  exact .inr ⟨HR8.out,_,_,_,_,_,_,_,q,hqs,rfl,HS8.out.mv.own5 HS8.out.lt _ _ _ _ _⟩
set_option maxHeartbeats 8000000 in
set_option maxRecDepth 20000 in
theorem spiece_c (b k mb : Nat) (doc : ByteArray) (w : World) (hm : LayT w) (hbt : 6 ≤ b) (h : BoxS b doc k (.slice (some ⟨mb,0,none⟩) 5 5) w) (hmk : MarksAt mb w) (hs : doc.size ≤ 100000) (hk : k ≤ doc.size) (_hw : Whole ((bts doc).drop k)) (n0 : begL sXml ((bts doc).drop k) = false) (hb : begL sCom ((bts doc).drop k) = true) :
  Calls Tryz.prog 59 #[.pointer (some ⟨b,0,none⟩)] w fun e w'=>ReadP b k doc (.slice (some ⟨mb,0,none⟩) 5 5) (pieceL (k == 0) ((bts doc).drop k)) w e w':=by
 have hl:=bts_len doc
 have HST:=Lib.hid (StK.start h)
 have HMK:=Lib.hid (hmk.below ((Below.refl _ w).alloc (Nat.le_refl _) (.cells #[.int .i64 0,.string ⟨#[]⟩,.string ⟨#[]⟩,.slice none 0 0,.bool false] 119)))
 have HMB : Hid (mb ≠ b):=Lib.hid (fun e=>by
  subst e
  unfold BoxS at h
  unfold MarksAt at hmk
  rw [h] at hmk
  simp only [Option.some.injEq,Obj.cells.injEq] at hmk
  exact absurd hmk.2.1 (by decide))
 have HLAY : Hid (∀ q W,StK b doc (.slice (some ⟨mb,0,none⟩) 5 5) q w W → LayT W):=Lib.hid (fun q W k=>hm.grown k.mv.grown h.lt hbt)
 obtain ⟨d0,d1,d2,g0,g1,g2⟩:=HST.out.mv.box.at
 obtain ⟨L,hL⟩ : ∃ L,L = (bts doc).drop k:=⟨_,rfl⟩
 have hLl : L.length = doc.size - k:=by rw [hL,List.length_drop,hl]
 -- what each way comes to
 have HRC : begL sCom L = true → Hid (∀ W,StK b doc (.slice (some ⟨mb,0,none⟩) 5 5) (k + 4) w W → Calls Tryz.prog 103 #[.pointer (some ⟨b,0,none⟩)] W fun e w'=>ReadQ b k doc (.slice (some ⟨mb,0,none⟩) 5 5) (comL L) W (w.heap.size + 1) e w'):=fun hb=>Lib.hid (fun W c=>(readComment_any b k doc _ W (HLAY.out _ _ c) hbt c.mv.box hs (by have:=begL_len hb;rw [hLl] at this;simp [sCom] at this;omega)).mono (fun e w' r=>by rw [hL];exact r.spell c.bx.lt))
 have HN0 : begL sXml L = false → Hid (∀ W,StK b doc (.slice (some ⟨mb,0,none⟩) 5 5) k w W → Calls Tryz.prog 107 #[.pointer (some ⟨b,0,none⟩),.string ⟨#[60,63,120,109,108]⟩] W fun e w'=>e = .returned (.bool false) ∧ Moves b doc (.slice (some ⟨mb,0,none⟩) 5 5) k W w'):=fun hb=>Lib.hid (fun W c=>skip_no b k doc ⟨#[60,63,120,109,108]⟩ _ W c.mv.box hk hs (by rw [← hL];exact hb))
 have HY1 : begL sCom L = true → Hid (∀ W,StK b doc (.slice (some ⟨mb,0,none⟩) 5 5) k w W → Calls Tryz.prog 107 #[.pointer (some ⟨b,0,none⟩),.string ⟨#[60,33,45,45]⟩] W fun e w'=>e = .returned (.bool true) ∧ Moves b doc (.slice (some ⟨mb,0,none⟩) 5 5) (k + 4) W w'):=fun hb=>Lib.hid (fun W c=>skip_yes b k doc ⟨#[60,33,45,45]⟩ _ W c.mv.box hk hs (by rw [← hL];exact hb))
 have HPC : begL sXml L = false → begL sCom L = true → Hid (pieceL (k == 0) L = comL L):=fun n0 h1=>Lib.hid (pc_com (fun e=>by rw [n0] at e;cases e.2) h1)
 rw [← hL]
 rw [← hL] at hb
 rw [← hL] at n0
 have HR:=HRC hb
 have HP:=HPC n0 hb
 have HY:=HY1 hb
 have HX0:=HN0 n0
 clear n0 HN0 hb HY1 HRC HPC hL hLl hm hbt h hmk _hw
 have HS0:=HST
 have HM0:=HMK
 go_enter Tryz.func59,Tryz.ntmps59
 go_wp2_with fail
 refine wp_loop_rounds 2 ?_
 rw [rounds_succ]
 obtain ⟨m0,m1,m2,m3,m4,m5,m6,m7,m8,m9⟩:=marks_cells HM0.out
 go_wp2_with fail
 clear m0 m1 m2 m3 m4 m5 m6 m7 m8 m9
 have HZ0:=Lib.hid (HM0.out.lt)
 have HSA0:=Lib.hid (HS0.out.below ((Below.refl _ _).alloc (Nat.le_refl _) (.cells #[.string ⟨#[60,63,120,109,108]⟩,.func (.func 102) #[] #[]] 157)))
 have HMA0:=Lib.hid (HM0.out.below ((Below.refl _ _).alloc (Nat.le_refl _) (.cells #[.string ⟨#[60,63,120,109,108]⟩,.func (.func 102) #[] #[]] 157)))
 go_region_with (go_at_call 107;refine (HX0.out _ (StK.drew HSA0.out)).mono ?_;rintro e w1 ⟨rfl,hm1⟩;have HS1:=Lib.hid ((StK.drew HSA0.out).go hm1);have HM1:=Lib.hid (MarksAt.kept (w:=World.drew _) HMA0.out hm1.grown HMB.out);clear hm1)
 go_wp2_with fail
 rw [rounds_succ]
 obtain ⟨m0,m1,m2,m3,m4,m5,m6,m7,m8,m9⟩:=marks_cells HM1.out
 go_wp2_with fail
 clear m0 m1 m2 m3 m4 m5 m6 m7 m8 m9
 have HZ1:=Lib.hid (HM1.out.lt)
 have HSA1:=Lib.hid (HS1.out.below ((Below.refl _ _).alloc (Nat.le_refl _) (.cells #[.string ⟨#[60,33,45,45]⟩,.func (.func 103) #[] #[]] 157)))
 have HMA1:=Lib.hid (HM1.out.below ((Below.refl _ _).alloc (Nat.le_refl _) (.cells #[.string ⟨#[60,33,45,45]⟩,.func (.func 103) #[] #[]] 157)))
 have HNB1:=Lib.hid HS1.out.mv.box.lt
 go_region_with (go_at_call 107;refine (HY.out _ (StK.drew HSA1.out)).mono ?_;rintro e w2 ⟨rfl,hm2⟩;have HS2:=Lib.hid ((StK.drew HSA1.out).go hm2);have HM2:=Lib.hid (MarksAt.kept (w:=World.drew _) HMA1.out hm2.grown HMB.out);have HV:=Lib.hid (mark_kept hm2.grown HNB1.out);clear hm2)
 obtain ⟨v0,v1⟩:=HV.out
 go_wp2_with fail
 refine (HR.out _ HS2.out).mono ?_
 rintro e w8 (⟨t,n,a,c,ho,rfl,hmv,how⟩ | ⟨ho,ki,x,y,a,c,d,em,q,hqs,rfl,hmv⟩)
 ·have HS8:=Lib.hid (HS2.out.go hmv)
  have HO8:=Lib.hid how
  have HR8 : Hid (pieceL (k == 0) L = some (t,n)):=Lib.hid (by rw [HP.out];exact ho)
  clear hmv how ho
  obtain ⟨c0,c1,c2,c3,c4,f0,f1,f2,f3,f4⟩:=HS8.out.bx.at
  go_wp2
  (try simp only [Exit.inBlock,Exit.then])
  refine ret_cell rfl rfl (HS8.out.bx.set _ _ _ _ _) Tryz.underlying119 rfl (by kernel_rfl) rfl ?_
  exact .inl ⟨t,n,_,HR8.out,rfl,HS8.out.mv.own5 HS8.out.lt _ _ _ _ _,own_mono (own_set5 HO8.out (Nat.lt_succ_self _) _ _ _ _ _) (Nat.le_succ _)⟩
 ·have HS8:=Lib.hid (HS2.out.go hmv)
  have HR8 : Hid (pieceL (k == 0) L = none):=Lib.hid (by rw [HP.out];exact ho)
  clear hmv ho
  obtain ⟨c0,c1,c2,c3,c4,f0,f1,f2,f3,f4⟩:=HS8.out.bx.at
  go_wp2
  (try simp only [Exit.inBlock,Exit.then])
  refine ret_cell rfl rfl (HS8.out.bx.set _ _ _ _ _) Tryz.underlying119 rfl (by kernel_rfl) rfl ?_
  exact .inr ⟨HR8.out,_,_,_,_,_,_,_,q,hqs,rfl,HS8.out.mv.own5 HS8.out.lt _ _ _ _ _⟩
set_option maxHeartbeats 8000000 in
set_option maxRecDepth 20000 in
theorem spiece_d (b k mb : Nat) (doc : ByteArray) (w : World) (hm : LayT w) (hbt : 6 ≤ b) (h : BoxS b doc k (.slice (some ⟨mb,0,none⟩) 5 5) w) (hmk : MarksAt mb w) (hs : doc.size ≤ 100000) (hk : k ≤ doc.size) (_hw : Whole ((bts doc).drop k)) (n0 : begL sXml ((bts doc).drop k) = false) (n1 : begL sCom ((bts doc).drop k) = false) (hb : begL sCd ((bts doc).drop k) = true) :
  Calls Tryz.prog 59 #[.pointer (some ⟨b,0,none⟩)] w fun e w'=>ReadP b k doc (.slice (some ⟨mb,0,none⟩) 5 5) (pieceL (k == 0) ((bts doc).drop k)) w e w':=by
 have hl:=bts_len doc
 have HST:=Lib.hid (StK.start h)
 have HMK:=Lib.hid (hmk.below ((Below.refl _ w).alloc (Nat.le_refl _) (.cells #[.int .i64 0,.string ⟨#[]⟩,.string ⟨#[]⟩,.slice none 0 0,.bool false] 119)))
 have HMB : Hid (mb ≠ b):=Lib.hid (fun e=>by
  subst e
  unfold BoxS at h
  unfold MarksAt at hmk
  rw [h] at hmk
  simp only [Option.some.injEq,Obj.cells.injEq] at hmk
  exact absurd hmk.2.1 (by decide))
 have HLAY : Hid (∀ q W,StK b doc (.slice (some ⟨mb,0,none⟩) 5 5) q w W → LayT W):=Lib.hid (fun q W k=>hm.grown k.mv.grown h.lt hbt)
 obtain ⟨d0,d1,d2,g0,g1,g2⟩:=HST.out.mv.box.at
 obtain ⟨L,hL⟩ : ∃ L,L = (bts doc).drop k:=⟨_,rfl⟩
 have hLl : L.length = doc.size - k:=by rw [hL,List.length_drop,hl]
 -- what each way comes to
 have HRD : begL sCd L = true → Hid (∀ W,StK b doc (.slice (some ⟨mb,0,none⟩) 5 5) (k + 9) w W → Calls Tryz.prog 104 #[.pointer (some ⟨b,0,none⟩)] W fun e w'=>ReadQ b k doc (.slice (some ⟨mb,0,none⟩) 5 5) (cdL L) W (w.heap.size + 1) e w'):=fun hb=>Lib.hid (fun W c=>(readData_any b k doc _ W (HLAY.out _ _ c) hbt c.mv.box hs (by have:=begL_len hb;rw [hLl] at this;simp [sCd] at this;omega)).mono (fun e w' r=>by rw [hL];exact r.spell c.bx.lt))
 have HN0 : begL sXml L = false → Hid (∀ W,StK b doc (.slice (some ⟨mb,0,none⟩) 5 5) k w W → Calls Tryz.prog 107 #[.pointer (some ⟨b,0,none⟩),.string ⟨#[60,63,120,109,108]⟩] W fun e w'=>e = .returned (.bool false) ∧ Moves b doc (.slice (some ⟨mb,0,none⟩) 5 5) k W w'):=fun hb=>Lib.hid (fun W c=>skip_no b k doc ⟨#[60,63,120,109,108]⟩ _ W c.mv.box hk hs (by rw [← hL];exact hb))
 have HN1 : begL sCom L = false → Hid (∀ W,StK b doc (.slice (some ⟨mb,0,none⟩) 5 5) k w W → Calls Tryz.prog 107 #[.pointer (some ⟨b,0,none⟩),.string ⟨#[60,33,45,45]⟩] W fun e w'=>e = .returned (.bool false) ∧ Moves b doc (.slice (some ⟨mb,0,none⟩) 5 5) k W w'):=fun hb=>Lib.hid (fun W c=>skip_no b k doc ⟨#[60,33,45,45]⟩ _ W c.mv.box hk hs (by rw [← hL];exact hb))
 have HY2 : begL sCd L = true → Hid (∀ W,StK b doc (.slice (some ⟨mb,0,none⟩) 5 5) k w W → Calls Tryz.prog 107 #[.pointer (some ⟨b,0,none⟩),.string ⟨#[60,33,91,67,68,65,84,65,91]⟩] W fun e w'=>e = .returned (.bool true) ∧ Moves b doc (.slice (some ⟨mb,0,none⟩) 5 5) (k + 9) W w'):=fun hb=>Lib.hid (fun W c=>skip_yes b k doc ⟨#[60,33,91,67,68,65,84,65,91]⟩ _ W c.mv.box hk hs (by rw [← hL];exact hb))
 have HPD : begL sXml L = false → begL sCom L = false → begL sCd L = true → Hid (pieceL (k == 0) L = cdL L):=fun n0 n1 h2=>Lib.hid (pc_cd (fun e=>by rw [n0] at e;cases e.2) n1 h2)
 rw [← hL]
 rw [← hL] at hb
 rw [← hL] at n0
 rw [← hL] at n1
 have HR:=HRD hb
 have HP:=HPD n0 n1 hb
 have HY:=HY2 hb
 have HX0:=HN0 n0
 have HX1:=HN1 n1
 clear n0 n1 HN0 HN1 hb HY2 HRD HPD hL hLl hm hbt h hmk _hw
 have HS0:=HST
 have HM0:=HMK
 go_enter Tryz.func59,Tryz.ntmps59
 go_wp2_with fail
 refine wp_loop_rounds 3 ?_
 rw [rounds_succ]
 obtain ⟨m0,m1,m2,m3,m4,m5,m6,m7,m8,m9⟩:=marks_cells HM0.out
 go_wp2_with fail
 clear m0 m1 m2 m3 m4 m5 m6 m7 m8 m9
 have HZ0:=Lib.hid (HM0.out.lt)
 have HSA0:=Lib.hid (HS0.out.below ((Below.refl _ _).alloc (Nat.le_refl _) (.cells #[.string ⟨#[60,63,120,109,108]⟩,.func (.func 102) #[] #[]] 157)))
 have HMA0:=Lib.hid (HM0.out.below ((Below.refl _ _).alloc (Nat.le_refl _) (.cells #[.string ⟨#[60,63,120,109,108]⟩,.func (.func 102) #[] #[]] 157)))
 go_region_with (go_at_call 107;refine (HX0.out _ (StK.drew HSA0.out)).mono ?_;rintro e w1 ⟨rfl,hm1⟩;have HS1:=Lib.hid ((StK.drew HSA0.out).go hm1);have HM1:=Lib.hid (MarksAt.kept (w:=World.drew _) HMA0.out hm1.grown HMB.out);clear hm1)
 go_wp2_with fail
 rw [rounds_succ]
 obtain ⟨m0,m1,m2,m3,m4,m5,m6,m7,m8,m9⟩:=marks_cells HM1.out
 go_wp2_with fail
 clear m0 m1 m2 m3 m4 m5 m6 m7 m8 m9
 have HZ1:=Lib.hid (HM1.out.lt)
 have HSA1:=Lib.hid (HS1.out.below ((Below.refl _ _).alloc (Nat.le_refl _) (.cells #[.string ⟨#[60,33,45,45]⟩,.func (.func 103) #[] #[]] 157)))
 have HMA1:=Lib.hid (HM1.out.below ((Below.refl _ _).alloc (Nat.le_refl _) (.cells #[.string ⟨#[60,33,45,45]⟩,.func (.func 103) #[] #[]] 157)))
 go_region_with (go_at_call 107;refine (HX1.out _ (StK.drew HSA1.out)).mono ?_;rintro e w2 ⟨rfl,hm2⟩;have HS2:=Lib.hid ((StK.drew HSA1.out).go hm2);have HM2:=Lib.hid (MarksAt.kept (w:=World.drew _) HMA1.out hm2.grown HMB.out);clear hm2)
 go_wp2_with fail
 rw [rounds_succ]
 obtain ⟨m0,m1,m2,m3,m4,m5,m6,m7,m8,m9⟩:=marks_cells HM2.out
 go_wp2_with fail
 clear m0 m1 m2 m3 m4 m5 m6 m7 m8 m9
 have HZ2:=Lib.hid (HM2.out.lt)
 have HSA2:=Lib.hid (HS2.out.below ((Below.refl _ _).alloc (Nat.le_refl _) (.cells #[.string ⟨#[60,33,91,67,68,65,84,65,91]⟩,.func (.func 104) #[] #[]] 157)))
 have HMA2:=Lib.hid (HM2.out.below ((Below.refl _ _).alloc (Nat.le_refl _) (.cells #[.string ⟨#[60,33,91,67,68,65,84,65,91]⟩,.func (.func 104) #[] #[]] 157)))
 have HNB2:=Lib.hid HS2.out.mv.box.lt
 go_region_with (go_at_call 107;refine (HY.out _ (StK.drew HSA2.out)).mono ?_;rintro e w3 ⟨rfl,hm3⟩;have HS3:=Lib.hid ((StK.drew HSA2.out).go hm3);have HM3:=Lib.hid (MarksAt.kept (w:=World.drew _) HMA2.out hm3.grown HMB.out);have HV:=Lib.hid (mark_kept hm3.grown HNB2.out);clear hm3)
 obtain ⟨v0,v1⟩:=HV.out
 go_wp2_with fail
 refine (HR.out _ HS3.out).mono ?_
 rintro e w8 (⟨t,n,a,c,ho,rfl,hmv,how⟩ | ⟨ho,ki,x,y,a,c,d,em,q,hqs,rfl,hmv⟩)
 ·have HS8:=Lib.hid (HS3.out.go hmv)
  have HO8:=Lib.hid how
  have HR8 : Hid (pieceL (k == 0) L = some (t,n)):=Lib.hid (by rw [HP.out];exact ho)
  clear hmv how ho
  obtain ⟨c0,c1,c2,c3,c4,f0,f1,f2,f3,f4⟩:=HS8.out.bx.at
  go_wp2
  (try simp only [Exit.inBlock,Exit.then])
  refine ret_cell rfl rfl (HS8.out.bx.set _ _ _ _ _) Tryz.underlying119 rfl (by kernel_rfl) rfl ?_
  exact .inl ⟨t,n,_,HR8.out,rfl,HS8.out.mv.own5 HS8.out.lt _ _ _ _ _,own_mono (own_set5 HO8.out (Nat.lt_succ_self _) _ _ _ _ _) (Nat.le_succ _)⟩
 ·have HS8:=Lib.hid (HS3.out.go hmv)
  have HR8 : Hid (pieceL (k == 0) L = none):=Lib.hid (by rw [HP.out];exact ho)
  clear hmv ho
  obtain ⟨c0,c1,c2,c3,c4,f0,f1,f2,f3,f4⟩:=HS8.out.bx.at
  go_wp2
  (try simp only [Exit.inBlock,Exit.then])
  refine ret_cell rfl rfl (HS8.out.bx.set _ _ _ _ _) Tryz.underlying119 rfl (by kernel_rfl) rfl ?_
  exact .inr ⟨HR8.out,_,_,_,_,_,_,_,q,hqs,rfl,HS8.out.mv.own5 HS8.out.lt _ _ _ _ _⟩
end Go.Proofs.YtjldpkhfiffinaaGreatDoor.U
