/- Contracts and plain facts that the law stands on: Q13. -/
import Derived.Test.YtjldpkhfiffinaaGreatDoorZC16
import Derived.Test.YtjldpkhfiffinaaGreatDoorZC17
namespace Go.Proofs.YtjldpkhfiffinaaGreatDoor.U
open Go.RowKit Go.Shelf
def BoxK (b : Nat) (ki : Int) (x y : ByteArray) (v : Value) (em : Bool) (w : World) : Prop:=w.heap[b]? = some (.cells #[.int .i64 ki,.string x,.string y,v,.bool em] 119 (0,0))
theorem BoxK.at {b : Nat} {ki : Int} {x y : ByteArray} {v : Value} {em : Bool} {w : World} (h : BoxK b ki x y v em w) :
  w.cell? ⟨b,0,none⟩ = some (.int .i64 ki) ∧ w.cell? ⟨b,1,none⟩ = some (.string x) ∧ w.cell? ⟨b,2,none⟩ = some (.string y) ∧ w.cell? ⟨b,3,none⟩ = some v ∧ w.cell? ⟨b,4,none⟩ = some (.bool em) ∧
  w.frozen? ⟨b,0,none⟩ = false ∧ w.frozen? ⟨b,1,none⟩ = false ∧ w.frozen? ⟨b,2,none⟩ = false ∧ w.frozen? ⟨b,3,none⟩ = false ∧ w.frozen? ⟨b,4,none⟩ = false:=
 ⟨by rw [Lib.cell_of_heap h];rfl,by rw [Lib.cell_of_heap h];rfl,by rw [Lib.cell_of_heap h];rfl,by rw [Lib.cell_of_heap h];rfl,by rw [Lib.cell_of_heap h];rfl,
  Lib.frozen_of_heap h 0,Lib.frozen_of_heap h 1,Lib.frozen_of_heap h 2,Lib.frozen_of_heap h 3,Lib.frozen_of_heap h 4⟩
theorem BoxK.lt {b : Nat} {ki : Int} {x y : ByteArray} {v : Value} {em : Bool} {w : World} (h : BoxK b ki x y v em w) : b < w.heap.size:=(Array.getElem?_eq_some_iff.1 h).1
theorem BoxK.below {b : Nat} {ki : Int} {x y : ByteArray} {v : Value} {em : Bool} {w w' : World} (h : BoxK b ki x y v em w) (hb : Below w.heap.size w w') : BoxK b ki x y v em w':=(hb.block b h.lt).trans h
theorem BoxK.kept {b g : Nat} {ki : Int} {x y : ByteArray} {v : Value} {em : Bool} {w w' : World} (h : BoxK b ki x y v em w) (hg : w.grownBy w' (some g)) (hne : b ≠ g) : BoxK b ki x y v em w':=
 (hg.block b h.lt (fun e=>hne (Option.some.inj e))).trans h
theorem BoxK.made (ki : Int) (x y : ByteArray) (v : Value) (em : Bool) (w : World) : BoxK w.heap.size ki x y v em (w.alloc (.cells #[.int .i64 ki,.string x,.string y,v,.bool em] 119)):=by
 show (w.heap.push _)[w.heap.size]? = _
 simp
theorem BoxK.drew {b : Nat} {ki : Int} {x y : ByteArray} {v : Value} {em : Bool} {w : World} (h : BoxK b ki x y v em w) : BoxK b ki x y v em w.drew:=h
theorem BoxK.set {b : Nat} {ki : Int} {x y : ByteArray} {v : Value} {em : Bool} {w : World} (h : BoxK b ki x y v em w) (ki' : Int) (x' y' : ByteArray) (v' : Value) (em' : Bool) :
  BoxK b ki' x' y' v' em' (((((w.setCell ⟨b,0,none⟩ (.int .i64 ki')).setCell ⟨b,1,none⟩ (.string x')).setCell ⟨b,2,none⟩ (.string y')).setCell ⟨b,3,none⟩ v').setCell ⟨b,4,none⟩ (.bool em')):=by
 unfold BoxK at h ⊢
 simp [World.setCell,Array.getElem?_modify,h]
theorem BoxK.setN {b : Nat} {ki : Int} {x y : ByteArray} {v : Value} {em : Bool} {w : World} (h : BoxK b ki x y v em w) (x' : ByteArray) : BoxK b ki x' y v em (w.setCell ⟨b,1,none⟩ (.string x')):=by
 unfold BoxK at h ⊢
 simp [World.setCell,Array.getElem?_modify,h]
theorem BoxK.setT {b : Nat} {ki : Int} {x y : ByteArray} {v : Value} {em : Bool} {w : World} (h : BoxK b ki x y v em w) (y' : ByteArray) : BoxK b ki x y' v em (w.setCell ⟨b,2,none⟩ (.string y')):=by
 unfold BoxK at h ⊢
 simp [World.setCell,Array.getElem?_modify,h]
theorem BoxK.setV {b : Nat} {ki : Int} {x y : ByteArray} {v : Value} {em : Bool} {w : World} (h : BoxK b ki x y v em w) (v' : Value) : BoxK b ki x y v' em (w.setCell ⟨b,3,none⟩ v'):=by
 unfold BoxK at h ⊢
 simp [World.setCell,Array.getElem?_modify,h]
theorem BoxK.setE {b : Nat} {ki : Int} {x y : ByteArray} {v : Value} {em : Bool} {w : World} (h : BoxK b ki x y v em w) (em' : Bool) : BoxK b ki x y v em' (w.setCell ⟨b,4,none⟩ (.bool em')):=by
 unfold BoxK at h ⊢
 simp [World.setCell,Array.getElem?_modify,h]
theorem grow_set5 (w : World) (b : Nat) (v0 v1 v2 v3 v4 : Value) : w.grownBy (((((w.setCell ⟨b,0,none⟩ v0).setCell ⟨b,1,none⟩ v1).setCell ⟨b,2,none⟩ v2).setCell ⟨b,3,none⟩ v3).setCell ⟨b,4,none⟩ v4) (some b):=
 grow_trans (grow_trans (grow_trans (grow_trans (grow_set _ _ _ _) (grow_set _ _ _ _)) (grow_set _ _ _ _)) (grow_set _ _ _ _)) (grow_set _ _ _ _)
structure StK (b : Nat) (doc : ByteArray) (v : Value) (p : Nat) (w wr : World) : Prop where
 mv : Moves b doc v p w wr
 bx : BoxK w.heap.size 0 ⟨#[]⟩ ⟨#[]⟩ (.slice none 0 0) false wr
 lt : b < w.heap.size
theorem StK.start {b p : Nat} {doc : ByteArray} {v : Value} {w : World} (h : BoxS b doc p v w) : StK b doc v p w (w.alloc (.cells #[.int .i64 0,.string ⟨#[]⟩,.string ⟨#[]⟩,.slice none 0 0,.bool false] 119)):=
 ⟨(moves_stay h 0).below ((Below.refl _ w).alloc (Nat.le_refl _) _),BoxK.made 0 _ _ _ _ w,h.lt⟩
theorem StK.go {b p q : Nat} {doc : ByteArray} {v : Value} {w w1 w2 : World} (h : StK b doc v p w w1) (k : Moves b doc v q w1 w2) : StK b doc v q w w2:=
 ⟨h.mv.trans k,h.bx.kept k.grown (by have:=h.lt;omega),h.lt⟩
theorem StK.below {b p : Nat} {doc : ByteArray} {v : Value} {w w1 w2 : World} (h : StK b doc v p w w1) (k : Below w1.heap.size w1 w2) : StK b doc v p w w2:=⟨h.mv.below k,h.bx.below k,h.lt⟩
theorem StK.other {b p g : Nat} {doc : ByteArray} {v : Value} {w w1 w2 : World} (h : StK b doc v p w w1) (k : w1.grownBy w2 (some g)) (hg : w.heap.size < g) : StK b doc v p w w2:=
 ⟨h.mv.other k (by omega) h.lt,h.bx.kept k (by omega),h.lt⟩
theorem StK.drew {b p : Nat} {doc : ByteArray} {v : Value} {w w1 : World} (h : StK b doc v p w w1) : StK b doc v p w w1.drew:=h.go (Moves.drew ⟨grow_refl _ _,h.mv.box⟩)
theorem Moves.own5 {b p : Nat} {doc : ByteArray} {v : Value} {w w1 : World} (h : Moves b doc v p w w1) (hb : b < w.heap.size) (v0 v1 v2 v3 v4 : Value) :
  Moves b doc v p w (((((w1.setCell ⟨w.heap.size,0,none⟩ v0).setCell ⟨w.heap.size,1,none⟩ v1).setCell ⟨w.heap.size,2,none⟩ v2).setCell ⟨w.heap.size,3,none⟩ v3).setCell ⟨w.heap.size,4,none⟩ v4):=
 h.other (grow_set5 w1 _ v0 v1 v2 v3 v4) (Nat.le_refl _) hb
def ReadP (b k : Nat) (doc : ByteArray) (v : Value) (o : Option (Tok × Nat)) (w : World) (e : Ending) (w' : World) : Prop:=
 (∃ t n va,o = some (t,n) ∧ e = .returned (.tuple #[.agg (tokCells t va),.bool true]) ∧ Moves b doc v (k + n) w w' ∧ w'.ownsRow w.heap.size 82 2 va t.attrs.length (attrCells t.attrs)) ∨
  (o = none ∧ ∃ ki x y a c d em q,q ≤ doc.size ∧ e = .returned (.tuple #[.agg #[.int .i64 ki,.string x,.string y,.slice a c d,.bool em],.bool false]) ∧ Moves b doc v q w w')
set_option maxHeartbeats 4000000 in
set_option maxRecDepth 10000 in
theorem readComment_any (b k : Nat) (doc : ByteArray) (v : Value) (w : World) (hm : LayT w) (hbt : 6 ≤ b) (h : BoxS b doc (k + 4) v w) (hs : doc.size ≤ 100000) (hk : k + 4 ≤ doc.size) :
  Calls Tryz.prog 103 #[.pointer (some ⟨b,0,none⟩)] w fun e w'=>ReadP b k doc v (comL ((bts doc).drop k)) w e w':=by
 have hl:=bts_len doc
 have HST:=Lib.hid (StK.start h)
 have HS1:=HST
 have HLAY : Hid (∀ q W,StK b doc v q w W → LayT W):=Lib.hid (fun q W k=>hm.grown k.mv.grown h.lt hbt)
 have hd : ((bts doc).drop k).drop 4 = (bts doc).drop (k + 4):=by rw [List.drop_drop]
 cases hf : findL [45,45] ((bts doc).drop (k + 4)) with
 | none=>
  have HA:=Lib.hid (com_none (l:=(bts doc).drop k) (by rw [hd];exact hf))
  have HUN:=Lib.hid (fun W (c : StK b doc v (k + 4) w W)=>until_none b (k + 4) doc ⟨#[45,45]⟩ v W (HLAY.out _ _ c).mx c.mv.box hk hs hf)
  clear hf hd h hm hbt
  go_enter Tryz.func103,Tryz.ntmps103
  go_wp2_with fail
  refine (HUN.out _ HS1.out).mono ?_
  rintro e w2 ⟨rfl,hm2⟩
  have HS2:=Lib.hid (HS1.out.go hm2)
  clear hm2
  obtain ⟨c0,c1,c2,c3,c4,f0,f1,f2,f3,f4⟩:=HS2.out.bx.at
  go_wp2
  (try simp only [Exit.inBlock,Exit.then])
  refine ret_cell rfl rfl (HS2.out.bx.set _ _ _ _ _) Tryz.underlying119 rfl (by kernel_rfl) rfl ?_
  exact .inr ⟨HA.out,_,_,_,_,_,_,_,k + 4,hk,rfl,HS2.out.mv.own5 HS2.out.lt _ _ _ _ _⟩
 | some e=>
  have hel:=findL_len hf
  rw [List.length_drop,hl] at hel
  simp at hel
  have HUN : Hid (∀ W,StK b doc v (k + 4) w W → Calls Tryz.prog 126 #[.pointer (some ⟨b,0,none⟩),.string ⟨#[45,45]⟩] W fun r w'=>r = .returned (.tuple #[.string ⟨(((bts doc).drop (k + 4)).take e).toArray⟩,.bool true]) ∧ Moves b doc v (k + 6 + e) W w'):=Lib.hid (fun W c=>by
   have:=until_some b (k + 4) e doc ⟨#[45,45]⟩ v W (HLAY.out _ _ c).mx c.mv.box hk hs hf
   rwa [show k + 4 + (e + (⟨#[45,45]⟩ : ByteArray).size) = k + 6 + e by rw [show (⟨#[45,45]⟩ : ByteArray).size = 2 from rfl];omega] at this)
  have hes : k + 6 + e ≤ doc.size:=by omega
  have hsp : ((bts doc).drop (k + 4)).drop e = 45 :: 45 :: (bts doc).drop (k + 6 + e):=by
   have:=beg_split (findL_some hf).1
   simp only [List.drop_drop] at this ⊢
   rw [show k + 6 + e = k + 4 + e + 2 by omega]
   exact this
  have hg3 : begL [45,45,62] (((bts doc).drop (k + 4)).drop e) = begL [62] ((bts doc).drop (k + 6 + e)):=by rw [hsp];rfl
  cases hg : begL [62] ((bts doc).drop (k + 6 + e)) with
  | false=>
   have HA:=Lib.hid (com_not (l:=(bts doc).drop k) (e:=e) (by rw [hd];exact hf) (by rw [hd,hg3];exact hg))
   have HSK:=Lib.hid (fun W (c : StK b doc v (k + 6 + e) w W)=>skip_no b (k + 6 + e) doc ⟨#[62]⟩ v W c.mv.box hes hs hg)
   clear hf hd h hm hbt hg hg3 hsp
   go_enter Tryz.func103,Tryz.ntmps103
   go_wp2_with fail
   refine (HUN.out _ HS1.out).mono ?_
   rintro e w2 ⟨rfl,hm2⟩
   have HS2:=Lib.hid (HS1.out.go hm2)
   clear hm2
   go_wp2_with fail
   refine (HSK.out _ HS2.out).mono ?_
   rintro e w3 ⟨rfl,hm3⟩
   have HS3:=Lib.hid (HS2.out.go hm3)
   clear hm3
   obtain ⟨c0,c1,c2,c3,c4,f0,f1,f2,f3,f4⟩:=HS3.out.bx.at
   go_wp2
   (try simp only [Exit.inBlock,Exit.then])
   refine ret_cell rfl rfl (HS3.out.bx.set _ _ _ _ _) Tryz.underlying119 rfl (by kernel_rfl) rfl ?_
   exact .inr ⟨HA.out,_,_,_,_,_,_,_,k + 6 + e,hes,rfl,HS3.out.mv.own5 HS3.out.lt _ _ _ _ _⟩
  | true=>
   have HA:=Lib.hid (com_ok (l:=(bts doc).drop k) (e:=e) (by rw [hd];exact hf) (by rw [hd,hg3];exact hg))
   rw [hd] at HA
   have HSK : Hid (∀ W,StK b doc v (k + 6 + e) w W → Calls Tryz.prog 107 #[.pointer (some ⟨b,0,none⟩),.string ⟨#[62]⟩] W fun r w'=>r = .returned (.bool true) ∧ Moves b doc v (k + 6 + e + 1) W w'):=Lib.hid (fun W c=>skip_yes b (k + 6 + e) doc ⟨#[62]⟩ v W c.mv.box hes hs hg)
   have HJ : Hid (k + 6 + e + 1 = k + (e + 7)):=Lib.hid (by omega)
   clear hf hd h hm hbt hg hg3 hsp
   go_enter Tryz.func103,Tryz.ntmps103
   go_wp2_with fail
   refine (HUN.out _ HS1.out).mono ?_
   rintro e w2 ⟨rfl,hm2⟩
   have HS2:=Lib.hid (HS1.out.go hm2)
   clear hm2
   go_wp2_with fail
   refine (HSK.out _ HS2.out).mono ?_
   rintro e w3 ⟨rfl,hm3⟩
   have HS3:=Lib.hid (HS2.out.go hm3)
   clear hm3
   obtain ⟨c0,c1,c2,c3,c4,f0,f1,f2,f3,f4⟩:=HS3.out.bx.at
   go_wp2
   (try simp only [Exit.inBlock,Exit.then])
   refine ret_cell rfl rfl (HS3.out.bx.set _ _ _ _ _) Tryz.underlying119 rfl (by kernel_rfl) rfl ?_
   refine .inl ⟨_,_,.slice none 0 0,HA.out,rfl,?_,World.ownsRow_nil _ _ _ _⟩
   rw [← HJ.out]
   exact HS3.out.mv.own5 HS3.out.lt _ _ _ _ _
set_option maxHeartbeats 4000000 in
set_option maxRecDepth 10000 in
theorem readData_any (b k : Nat) (doc : ByteArray) (v : Value) (w : World) (hm : LayT w) (hbt : 6 ≤ b) (h : BoxS b doc (k + 9) v w) (hs : doc.size ≤ 100000) (hk : k + 9 ≤ doc.size) :
  Calls Tryz.prog 104 #[.pointer (some ⟨b,0,none⟩)] w fun e w'=>ReadP b k doc v (cdL ((bts doc).drop k)) w e w':=by
 have hl:=bts_len doc
 have HST:=Lib.hid (StK.start h)
 have HS1:=HST
 have HLAY : Hid (∀ q W,StK b doc v q w W → LayT W):=Lib.hid (fun q W k=>hm.grown k.mv.grown h.lt hbt)
 have hd : ((bts doc).drop k).drop 9 = (bts doc).drop (k + 9):=by rw [List.drop_drop]
 cases hf : findL sEnd ((bts doc).drop (k + 9)) with
 | none=>
  have HA:=Lib.hid (cd_none (l:=(bts doc).drop k) (by rw [hd];exact hf))
  have HUN:=Lib.hid (fun W (c : StK b doc v (k + 9) w W)=>until_none b (k + 9) doc ⟨#[93,93,62]⟩ v W (HLAY.out _ _ c).mx c.mv.box hk hs hf)
  clear hf hd h hm hbt
  go_enter Tryz.func104,Tryz.ntmps104
  go_wp2_with fail
  refine (HUN.out _ HS1.out).mono ?_
  rintro e w2 ⟨rfl,hm2⟩
  have HS2:=Lib.hid (HS1.out.go hm2)
  clear hm2
  obtain ⟨c0,c1,c2,c3,c4,f0,f1,f2,f3,f4⟩:=HS2.out.bx.at
  go_wp2
  (try simp only [Exit.inBlock,Exit.then])
  refine ret_cell rfl rfl (HS2.out.bx.set _ _ _ _ _) Tryz.underlying119 rfl (by kernel_rfl) rfl ?_
  exact .inr ⟨HA.out,_,_,_,_,_,_,_,k + 9,hk,rfl,HS2.out.mv.own5 HS2.out.lt _ _ _ _ _⟩
 | some e=>
  have HA:=Lib.hid (cd_ok (l:=(bts doc).drop k) (by rw [hd];exact hf))
  rw [hd] at HA
  have HUN : Hid (∀ W,StK b doc v (k + 9) w W → Calls Tryz.prog 126 #[.pointer (some ⟨b,0,none⟩),.string ⟨#[93,93,62]⟩] W fun r w'=>r = .returned (.tuple #[.string ⟨(((bts doc).drop (k + 9)).take e).toArray⟩,.bool true]) ∧ Moves b doc v (k + 9 + (e + 3)) W w'):=Lib.hid (fun W c=>until_some b (k + 9) e doc ⟨#[93,93,62]⟩ v W (HLAY.out _ _ c).mx c.mv.box hk hs hf)
  have HJ : Hid (k + 9 + (e + 3) = k + (e + 12)):=Lib.hid (by omega)
  clear hf hd h hm hbt
  go_enter Tryz.func104,Tryz.ntmps104
  go_wp2_with fail
  refine (HUN.out _ HS1.out).mono ?_
  rintro e w2 ⟨rfl,hm2⟩
  have HS2:=Lib.hid (HS1.out.go hm2)
  clear hm2
  obtain ⟨c0,c1,c2,c3,c4,f0,f1,f2,f3,f4⟩:=HS2.out.bx.at
  go_wp2
  (try simp only [Exit.inBlock,Exit.then])
  refine ret_cell rfl rfl (HS2.out.bx.set _ _ _ _ _) Tryz.underlying119 rfl (by kernel_rfl) rfl ?_
  refine .inl ⟨_,_,.slice none 0 0,HA.out,rfl,?_,World.ownsRow_nil _ _ _ _⟩
  rw [← HJ.out]
  exact HS2.out.mv.own5 HS2.out.lt _ _ _ _ _
set_option maxHeartbeats 4000000 in
set_option maxRecDepth 10000 in
theorem readClose_any (b k : Nat) (doc : ByteArray) (v : Value) (w : World) (hm : LayT w) (hbt : 6 ≤ b) (h : BoxS b doc (k + 2) v w) (hs : doc.size ≤ 100000) (hk : k + 2 ≤ doc.size) :
  Calls Tryz.prog 105 #[.pointer (some ⟨b,0,none⟩)] w fun e w'=>ReadP b k doc v (closeL ((bts doc).drop k)) w e w':=by
 have hl:=bts_len doc
 have HST:=Lib.hid (StK.start h)
 have HS1:=HST
 have HLAY : Hid (∀ q W,StK b doc v q w W → LayT W):=Lib.hid (fun q W k=>hm.grown k.mv.grown h.lt hbt)
 have hd : ((bts doc).drop k).drop 2 = (bts doc).drop (k + 2):=by rw [List.drop_drop]
 obtain ⟨n,hn⟩ : ∃ n,n = nameN ((bts doc).drop (k + 2)):=⟨_,rfl⟩
 have hnl:=nameN_le ((bts doc).drop (k + 2))
 rw [← hn,List.length_drop,hl] at hnl
 obtain ⟨E,hE⟩ : ∃ E,E = k + 2 + n:=⟨_,rfl⟩
 have hEs : E ≤ doc.size:=by omega
 have hdE : ((bts doc).drop (k + 2)).drop n = (bts doc).drop E:=by rw [List.drop_drop,hE]
 obtain ⟨b1,hb⟩ : ∃ b1,b1 = blankN ((bts doc).drop E):=⟨_,rfl⟩
 obtain ⟨G,hG⟩ : ∃ G,G = E + b1:=⟨_,rfl⟩
 have hb1:=blankN_le ((bts doc).drop E)
 rw [List.length_drop,hl,← hb] at hb1
 have hGs : G ≤ doc.size:=by omega
 have hdG : ((bts doc).drop E).drop b1 = (bts doc).drop G:=by rw [List.drop_drop,hG]
 have HNM:=Lib.hid (fun W (c : StK b doc v (k + 2) w W)=>sname_any b (k + 2) doc v W c.mv.box hk hs)
 rw [← hn,← hE] at HNM
 have HBK:=Lib.hid (fun W (c : StK b doc v E w W)=>sblanks_any b E doc v W c.mv.box hEs hs)
 rw [← hb,← hG] at HBK
 cases hq : nameL (((bts doc).drop (k + 2)).take n) with
 | false=>
  rw [hq] at HNM
  have HA:=Lib.hid (close_none (l:=(bts doc).drop k) (by rw [hd,← hn];exact hq))
  clear hq hn hnl hd hE hdE hb hG hb1 hdG h hm hbt
  go_enter Tryz.func105,Tryz.ntmps105
  go_wp2_with fail
  refine (HNM.out _ HS1.out).mono ?_
  rintro e w2 ⟨rfl,hm2⟩
  have HS2:=Lib.hid (HS1.out.go hm2)
  clear hm2
  go_wp2_with fail
  refine (HBK.out _ HS2.out).mono ?_
  rintro e w3 ⟨rfl,hm3⟩
  have HS3:=Lib.hid (HS2.out.go hm3)
  clear hm3
  obtain ⟨c0,c1,c2,c3,c4,f0,f1,f2,f3,f4⟩:=HS3.out.bx.at
  go_wp2
  (try simp only [Exit.inBlock,Exit.then])
  refine ret_cell rfl rfl (HS3.out.bx.set _ _ _ _ _) Tryz.underlying119 rfl (by kernel_rfl) rfl ?_
  exact .inr ⟨HA.out,_,_,_,_,_,_,_,G,hGs,rfl,HS3.out.mv.own5 HS3.out.lt _ _ _ _ _⟩
 | true=>
  rw [hq] at HNM
  cases hg : begL [62] ((bts doc).drop G) with
  | false=>
   have HSK:=Lib.hid (fun W (c : StK b doc v G w W)=>skip_no b G doc ⟨#[62]⟩ v W c.mv.box hGs hs hg)
   have HA:=Lib.hid (close_not (l:=(bts doc).drop k) (by rw [hd,← hn];exact hq) (by rw [hd,← hn,hdE,← hb,hdG];exact hg))
   clear hq hn hnl hd hE hdE hb hG hb1 hdG h hm hbt hg
   go_enter Tryz.func105,Tryz.ntmps105
   go_wp2_with fail
   refine (HNM.out _ HS1.out).mono ?_
   rintro e w2 ⟨rfl,hm2⟩
   have HS2:=Lib.hid (HS1.out.go hm2)
   clear hm2
   go_wp2_with fail
   refine (HBK.out _ HS2.out).mono ?_
   rintro e w3 ⟨rfl,hm3⟩
   have HS3:=Lib.hid (HS2.out.go hm3)
   clear hm3
   go_wp2_with fail
   refine (HSK.out _ HS3.out).mono ?_
   rintro e w4 ⟨rfl,hm4⟩
   have HS4:=Lib.hid (HS3.out.go hm4)
   clear hm4
   obtain ⟨c0,c1,c2,c3,c4,f0,f1,f2,f3,f4⟩:=HS4.out.bx.at
   go_wp2
   (try simp only [Exit.inBlock,Exit.then])
   refine ret_cell rfl rfl (HS4.out.bx.set _ _ _ _ _) Tryz.underlying119 rfl (by kernel_rfl) rfl ?_
   exact .inr ⟨HA.out,_,_,_,_,_,_,_,G,hGs,rfl,HS4.out.mv.own5 HS4.out.lt _ _ _ _ _⟩
  | true=>
   have HSK : Hid (∀ W,StK b doc v G w W → Calls Tryz.prog 107 #[.pointer (some ⟨b,0,none⟩),.string ⟨#[62]⟩] W fun r w'=>r = .returned (.bool true) ∧ Moves b doc v (G + 1) W w'):=Lib.hid (fun W c=>skip_yes b G doc ⟨#[62]⟩ v W c.mv.box hGs hs hg)
   have HA:=Lib.hid (close_ok (l:=(bts doc).drop k) (by rw [hd,← hn];exact hq) (by rw [hd,← hn,hdE,← hb,hdG];exact hg))
   rw [hd,← hn,hdE,← hb] at HA
   have HJ : Hid (G + 1 = k + (2 + n + b1 + 1)):=Lib.hid (by omega)
   clear hq hn hnl hd hE hdE hb hG hb1 hdG h hm hbt hg
   go_enter Tryz.func105,Tryz.ntmps105
   go_wp2_with fail
   refine (HNM.out _ HS1.out).mono ?_
   rintro e w2 ⟨rfl,hm2⟩
   have HS2:=Lib.hid (HS1.out.go hm2)
   clear hm2
   go_wp2_with fail
   refine (HBK.out _ HS2.out).mono ?_
   rintro e w3 ⟨rfl,hm3⟩
   have HS3:=Lib.hid (HS2.out.go hm3)
   clear hm3
   go_wp2_with fail
   refine (HSK.out _ HS3.out).mono ?_
   rintro e w4 ⟨rfl,hm4⟩
   have HS4:=Lib.hid (HS3.out.go hm4)
   clear hm4
   obtain ⟨c0,c1,c2,c3,c4,f0,f1,f2,f3,f4⟩:=HS4.out.bx.at
   go_wp2
   (try simp only [Exit.inBlock,Exit.then])
   refine ret_cell rfl rfl (HS4.out.bx.set _ _ _ _ _) Tryz.underlying119 rfl (by kernel_rfl) rfl ?_
   refine .inl ⟨_,_,.slice none 0 0,HA.out,rfl,?_,World.ownsRow_nil _ _ _ _⟩
   rw [← HJ.out]
   exact HS4.out.mv.own5 HS4.out.lt _ _ _ _ _
theorem contains_c {s x : ByteArray} (w : World) (hm : Mx w) (hs : s.size ≤ 1000000) {r : Bool} (hr : (findL (bts x) (bts s)).isSome = r) :
  Calls Tryz.prog 134 #[.string s,.string x] w fun e w'=>e = .returned (.bool r) ∧ w = w':=by
 obtain ⟨m,hm⟩:=hm
 refine (S.strings_Contains s x m w (by omega) hm).mono ?_
 rintro e w' ⟨rfl,rfl⟩
 refine ⟨?_,rfl⟩
 rw [← hr,← contains_find]
 rfl
theorem text_split {l : List UInt8} (hw : Whole l) : Whole (l.take ((findL [60] l).getD l.length)) ∧ (findL [60] l).getD l.length ≤ l.length:=by
 cases hf : findL [60] l with
 | none=>simp only [Option.getD_none];rw [List.take_of_length_le (Nat.le_refl _)];exact ⟨hw,Nat.le_refl _⟩
 | some e=>
  simp only [Option.getD_some]
  have hs:=find_split hf
  have hl:=findL_len hf
  rw [hs] at hw
  exact ⟨(whole_at (by decide) hw).1,by simp at hl;omega⟩
theorem cut_first (l : List UInt8) : ∃ z ok,Lib.cut l [60] = (l.take ((findL [60] l).getD l.length),z,ok):=by
 cases hf : findL [60] l with
 | none=>exact ⟨[],false,by rw [cut_none hf];simp⟩
 | some e=>exact ⟨_,_,by rw [cut_some hf];rfl⟩
set_option maxHeartbeats 4000000 in
set_option maxRecDepth 10000 in
theorem readText_any (b k : Nat) (doc : ByteArray) (v : Value) (w : World) (hm : LayT w) (hbt : 6 ≤ b) (h : BoxS b doc k v w) (hs : doc.size ≤ 100000) (hk : k ≤ doc.size) (hw : Whole ((bts doc).drop k)) :
  Calls Tryz.prog 108 #[.pointer (some ⟨b,0,none⟩)] w fun e w'=>ReadP b k doc v (textL ((bts doc).drop k)) w e w':=by
 have hl:=bts_len doc
 have HST:=Lib.hid (StK.start h)
 have HS1:=HST
 have HLAY : Hid (∀ q W,StK b doc v q w W → LayT W):=Lib.hid (fun q W k=>hm.grown k.mv.grown h.lt hbt)
 obtain ⟨hwt,hel⟩:=text_split hw
 obtain ⟨z,ok,hcut⟩:=cut_first ((bts doc).drop k)
 obtain ⟨m,hmm⟩ : ∃ m,m = (findL [60] ((bts doc).drop k)).getD ((bts doc).drop k).length:=⟨_,rfl⟩
 rw [← hmm] at hwt hel hcut
 rw [List.length_drop,hl] at hel
 obtain ⟨raw,hraw⟩ : ∃ raw,raw = ((bts doc).drop k).take m:=⟨_,rfl⟩
 rw [← hraw] at hwt hcut
 have hrl : raw.length = m:=by rw [hraw,List.length_take,List.length_drop,hl];omega
 obtain ⟨y,hy⟩ : ∃ y : ByteArray,y = ⟨raw.toArray⟩:=⟨_,rfl⟩
 have hby : bts y = raw:=by rw [hy,bts_mk]
 have hys : y.size = m:=by rw [← bts_len,hby,hrl]
 have hym : y.size ≤ 100000:=by omega
 have HYS:=Lib.hid hys
 have hes : k + m ≤ doc.size:=by omega
 have HC:=Lib.hid (fun n=>cut_c (s:=doc.extract k doc.size) (x:=⟨#[60]⟩) (HLAY.out _ _ HST.out).mx (by rw [ByteArray.size_extract];omega) n raw z ok (by rw [rest_bts];exact hcut))
 rw [← hy] at HC
 obtain ⟨d0,d1,d2,g0,g1,g2⟩:=HST.out.mv.box.at
 have HS2 : Hid (∀ n,StK b doc v (k + m) w (((w.alloc (.cells #[.int .i64 0,.string ⟨#[]⟩,.string ⟨#[]⟩,.slice none 0 0,.bool false] 119)).drewN n).setCell ⟨b,1,none⟩ (.int .i64 ((k : Int) + (y.size : Int))))):=Lib.hid (fun n=>HST.out.go (moves_set HST.out.mv.box n (k + m) (by omega)))
 have HU : Hid (∀ q W,StK b doc v q w W → Calls Tryz.prog 135 #[.string y] W fun r w'=>r = .returned (.tuple #[.string ⟨(unR (unL [] raw)).1.toArray⟩,.int .i64 (unR (unL [] raw)).2]) ∧ Below W.heap.size W w'):=Lib.hid (fun q W c=>by
  have:=unescape_any y W (HLAY.out _ _ c).lay (by omega)
  rw [hby] at this
  unfold unP at this
  rwa [if_pos ((wholeB_iff _).2 hwt)] at this)
 have hcon : ∀ r : Bool,(findL sEnd raw).isSome = r → Hid (∀ q W,StK b doc v q w W → Calls Tryz.prog 134 #[.string y,.string ⟨#[93,93,62]⟩] W fun e w'=>e = .returned (.bool r) ∧ StK b doc v q w w'):=fun r hr=>Lib.hid (fun q W c=>(contains_c (s:=y) (x:=⟨#[93,93,62]⟩) (r:=r) W (HLAY.out _ _ c).mx (by omega) (by rw [hby];exact hr)).mono (by
  rintro e w' ⟨h1,rfl⟩
  exact ⟨h1,c⟩))
 cases hg : findL sEnd raw with
 | some e2=>
  have HCO:=hcon true (by rw [hg];rfl)
  have HA : Hid (textL ((bts doc).drop k) = none):=Lib.hid (by
   cases hu : unL [] raw with
   | error z=>exact text_err hmm (by rw [← hraw];exact hu)
   | ok x=>exact text_not hmm (by rw [← hraw];exact hu) (by rw [← hraw,hg];simp))
  clear hwt hel hcut hmm hraw hrl hy hby hys hw h hm hbt hg hcon
  go_enter Tryz.func108,Tryz.ntmps108
  go_wp2_with fail
  go_quiet ((go_at_call 133;exact HC.out _))
  go_wp2_with fail
  refine (HCO.out _ _ (HS2.out _)).mono ?_
  rintro e w3 ⟨rfl,hs3⟩
  have HS3:=Lib.hid hs3
  clear hs3 d0 d1 d2 g0 g1 g2
  obtain ⟨c0,c1,c2,c3,c4,f0,f1,f2,f3,f4⟩:=HS3.out.bx.at
  go_wp2
  (try simp only [Exit.inBlock,Exit.then])
  refine ret_cell rfl rfl (HS3.out.bx.set _ _ _ _ _) Tryz.underlying119 rfl (by kernel_rfl) rfl ?_
  exact .inr ⟨HA.out,_,_,_,_,_,_,_,k + m,hes,rfl,HS3.out.mv.own5 HS3.out.lt _ _ _ _ _⟩
 | none=>
  have HCO:=hcon false (by rw [hg];rfl)
  cases hu : unL [] raw with
  | error z=>
   have HA : Hid (textL ((bts doc).drop k) = none):=Lib.hid (text_err hmm (by rw [← hraw];exact hu))
   have hz:=unL_err hu
   rw [hu] at HU
   simp only [unR] at HU
   clear hwt hel hcut hmm hraw hrl hy hby hys hw h hm hbt hg hu hcon
   rcases hz with rfl | rfl
   all_goals
    go_enter Tryz.func108,Tryz.ntmps108
    go_wp2_with fail
    go_quiet ((go_at_call 133;exact HC.out _))
    go_wp2_with fail
    refine (HCO.out _ _ (HS2.out _)).mono ?_
    rintro e w3 ⟨rfl,hs3⟩
    have HS3:=Lib.hid hs3
    clear hs3 d0 d1 d2 g0 g1 g2
    go_wp2_with fail
    refine (HU.out _ _ HS3.out).mono ?_
    rintro e w4 ⟨rfl,hb4⟩
    have HS4:=Lib.hid (HS3.out.below hb4)
    clear hb4
    obtain ⟨c0,c1,c2,c3,c4,f0,f1,f2,f3,f4⟩:=HS4.out.bx.at
    go_wp2
    (try simp only [Exit.inBlock,Exit.then])
    refine ret_cell rfl rfl (HS4.out.bx.set _ _ _ _ _) Tryz.underlying119 rfl (by kernel_rfl) rfl ?_
    exact .inr ⟨HA.out,_,_,_,_,_,_,_,k + m,hes,rfl,HS4.out.mv.own5 HS4.out.lt _ _ _ _ _⟩
  | ok x=>
   have HA : Hid (textL ((bts doc).drop k) = some (⟨4,[],x,[],false⟩,m)):=Lib.hid (text_ok hmm (by rw [← hraw];exact hu) (by rw [← hraw];exact hg))
   rw [hu] at HU
   simp only [unR] at HU
   clear hwt hel hcut hmm hraw hrl hy hby hys hw h hm hbt hg hu hcon
   go_enter Tryz.func108,Tryz.ntmps108
   go_wp2_with fail
   go_quiet ((go_at_call 133;exact HC.out _))
   go_wp2_with fail
   refine (HCO.out _ _ (HS2.out _)).mono ?_
   rintro e w3 ⟨rfl,hs3⟩
   have HS3:=Lib.hid hs3
   clear hs3 d0 d1 d2 g0 g1 g2
   go_wp2_with fail
   refine (HU.out _ _ HS3.out).mono ?_
   rintro e w4 ⟨rfl,hb4⟩
   have HS4:=Lib.hid (HS3.out.below hb4)
   clear hb4
   obtain ⟨c0,c1,c2,c3,c4,f0,f1,f2,f3,f4⟩:=HS4.out.bx.at
   go_wp2
   (try simp only [Exit.inBlock,Exit.then])
   refine ret_cell rfl rfl (HS4.out.bx.set _ _ _ _ _) Tryz.underlying119 rfl (by kernel_rfl) rfl ?_
   refine .inl ⟨_,_,.slice none 0 0,HA.out,rfl,?_,World.ownsRow_nil _ _ _ _⟩
   exact HS4.out.mv.own5 HS4.out.lt _ _ _ _ _
theorem begL_app (a b l : List UInt8) : begL (a ++ b) l = (begL a l && begL b (l.drop a.length)):=by
 rw [Bool.eq_iff_iff,Bool.and_eq_true,begL_iff,begL_iff,begL_iff]
 constructor
 ·rintro ⟨r,rfl⟩
  exact ⟨⟨b ++ r,by rw [List.append_assoc]⟩,⟨r,by rw [List.append_assoc,List.drop_left]⟩⟩
 ·rintro ⟨⟨r,rfl⟩,q,hq⟩
  rw [List.drop_left] at hq
  exact ⟨q,by rw [hq,List.append_assoc]⟩
theorem dec1_parts {l : List UInt8} (hx : begL sXml l = true) : begL sDec1 l = (begL [32,118,101,114,115,105,111,110,61,34,49,46,48,34] (l.drop 5) && begL [63,62] (l.drop 19)):=by
 rw [show sDec1 = (sXml ++ [32,118,101,114,115,105,111,110,61,34,49,46,48,34]) ++ [63,62] from rfl,begL_app,begL_app,hx,Bool.true_and]
 rfl
theorem dec2_parts {l : List UInt8} (hx : begL sXml l = true) : begL sDec2 l = (begL [32,118,101,114,115,105,111,110,61,34,49,46,48,34] (l.drop 5) && (begL [32,101,110,99,111,100,105,110,103,61,34,85,84,70,45,56,34] (l.drop 19) && begL [63,62] (l.drop 36))):=by
 rw [show sDec2 = ((sXml ++ [32,118,101,114,115,105,111,110,61,34,49,46,48,34]) ++ [32,101,110,99,111,100,105,110,103,61,34,85,84,70,45,56,34]) ++ [63,62] from rfl,begL_app,begL_app,begL_app,hx,Bool.true_and,Bool.and_assoc]
 rfl
theorem dec_no {l : List UInt8} (h1 : begL sDec1 l = false) (h2 : begL sDec2 l = false) : decL l = none:=by unfold decL;rw [if_neg (by rw [h1];simp),if_neg (by rw [h2];simp)]
theorem enc_not {l : List UInt8} (h : begL [32,101,110,99,111,100,105,110,103,61,34,85,84,70,45,56,34] l = true) : begL [63,62] l = false:=by
 obtain ⟨r,rfl⟩:=begL_iff.1 h
 rfl
set_option maxHeartbeats 4000000 in
set_option maxRecDepth 10000 in
theorem readDecl_far (b k p : Nat) (doc : ByteArray) (v : Value) (w : World) (h : BoxS b doc p v w) (hp : p ≠ 5) (hs : p ≤ doc.size) :
  Calls Tryz.prog 102 #[.pointer (some ⟨b,0,none⟩)] w fun e w'=>ReadP b k doc v none w e w':=by
 have HS1:=Lib.hid (StK.start h)
 have hne : ((p : Int) != 5) = true:=by rw [bne_iff_ne];omega
 obtain ⟨d0,d1,d2,g0,g1,g2⟩:=HS1.out.mv.box.at
 clear h hp
 go_enter Tryz.func102,Tryz.ntmps102
 go_wp2
 (try simp only [Exit.inBlock,Exit.then])
 refine ret_cell rfl rfl (BoxK.made _ _ _ _ _ w) Tryz.underlying119 rfl (by kernel_rfl) rfl ?_
 exact .inr ⟨rfl,_,_,_,_,_,_,_,p,hs,rfl,HS1.out.mv⟩
set_option maxHeartbeats 4000000 in
set_option maxRecDepth 10000 in
theorem readDecl_zero (b : Nat) (doc : ByteArray) (v : Value) (w : World) (hm : LayT w) (hbt : 6 ≤ b) (h : BoxS b doc 5 v w) (hs : doc.size ≤ 100000) (hx : begL sXml (bts doc) = true) :
  Calls Tryz.prog 102 #[.pointer (some ⟨b,0,none⟩)] w fun e w'=>ReadP b 0 doc v (decL (bts doc)) w e w':=by
 have hl:=bts_len doc
 have HST:=Lib.hid (StK.start h)
 have HS1:=HST
 have HLAY : Hid (∀ q W,StK b doc v q w W → LayT W):=Lib.hid (fun q W k=>hm.grown k.mv.grown h.lt hbt)
 have hk5 : 5 ≤ doc.size:=by have:=begL_len hx;rw [hl] at this;exact this
 have hne : ((5 : Int) != 5) = false:=rfl
 have h1:=dec1_parts hx
 have h2:=dec2_parts hx
 obtain ⟨d0,d1,d2,g0,g1,g2⟩:=HST.out.mv.box.at
 cases hv : begL [32,118,101,114,115,105,111,110,61,34,49,46,48,34] ((bts doc).drop 5) with
 | false=>
  have HSV:=Lib.hid (fun W (c : StK b doc v 5 w W)=>skip_no b 5 doc ⟨#[32,118,101,114,115,105,111,110,61,34,49,46,48,34]⟩ v W c.mv.box hk5 hs hv)
  have HA:=Lib.hid (dec_no (l:=bts doc) (by rw [h1,hv];rfl) (by rw [h2,hv];rfl))
  clear h1 h2 hv hx h hm hbt
  go_enter Tryz.func102,Tryz.ntmps102
  go_wp2_with fail
  refine (HSV.out _ HS1.out).mono ?_
  rintro e w2 ⟨rfl,hm2⟩
  have HS2:=Lib.hid (HS1.out.go hm2)
  clear hm2
  obtain ⟨c0,c1,c2,c3,c4,f0,f1,f2,f3,f4⟩:=HS2.out.bx.at
  go_wp2
  (try simp only [Exit.inBlock,Exit.then])
  refine ret_cell rfl rfl (HS2.out.bx.set _ _ _ _ _) Tryz.underlying119 rfl (by kernel_rfl) rfl ?_
  exact .inr ⟨HA.out,_,_,_,_,_,_,_,5,hk5,rfl,HS2.out.mv.own5 HS2.out.lt _ _ _ _ _⟩
 | true=>
  have hk19 : 19 ≤ doc.size:=by have:=begL_len hv;rw [List.length_drop,hl] at this;simp at this;omega
  have HSV : Hid (∀ W,StK b doc v 5 w W → Calls Tryz.prog 107 #[.pointer (some ⟨b,0,none⟩),.string ⟨#[32,118,101,114,115,105,111,110,61,34,49,46,48,34]⟩] W fun r w'=>r = .returned (.bool true) ∧ Moves b doc v 19 W w'):=Lib.hid (fun W c=>skip_yes b 5 doc ⟨#[32,118,101,114,115,105,111,110,61,34,49,46,48,34]⟩ v W c.mv.box hk5 hs hv)
  rw [hv,Bool.true_and] at h1 h2
  cases he : begL [32,101,110,99,111,100,105,110,103,61,34,85,84,70,45,56,34] ((bts doc).drop 19) with
  | false=>
   rw [he,Bool.false_and] at h2
   have HSN:=Lib.hid (fun W (c : StK b doc v 19 w W)=>skip_no b 19 doc ⟨#[32,101,110,99,111,100,105,110,103,61,34,85,84,70,45,56,34]⟩ v W c.mv.box hk19 hs he)
   cases hg : begL [63,62] ((bts doc).drop 19) with
   | false=>
    have HSE:=Lib.hid (fun W (c : StK b doc v 19 w W)=>skip_no b 19 doc ⟨#[63,62]⟩ v W c.mv.box hk19 hs hg)
    have HA:=Lib.hid (dec_no (l:=bts doc) (by rw [h1,hg]) h2)
    clear h1 h2 hv hx h hm hbt he hg
    go_enter Tryz.func102,Tryz.ntmps102
    go_wp2_with fail
    refine (HSV.out _ HS1.out).mono ?_
    rintro e w2 ⟨rfl,hm2⟩
    have HS2:=Lib.hid (HS1.out.go hm2)
    clear hm2
    go_wp2_with fail
    have HNB2 : Hid (w2.heap.size ≠ b):=Lib.hid (by have:=HS2.out.mv.box.lt;omega)
    have HGE2 : Hid (w.heap.size < w2.heap.size):=Lib.hid HS2.out.bx.lt
    have HK2:=Lib.hid (BoxK.made 1 ⟨#[]⟩ ⟨#[]⟩ (.slice none 0 0) false w2)
    have HSA:=Lib.hid (HS2.out.below ((Below.refl _ w2).alloc (Nat.le_refl _) (.cells #[.int .i64 1,.string ⟨#[]⟩,.string ⟨#[]⟩,.slice none 0 0,.bool false] 119)))
    refine (HSN.out _ HSA.out).mono ?_
    rintro e w3 ⟨rfl,hm3⟩
    have HS3:=Lib.hid (HSA.out.go hm3)
    have HK3:=Lib.hid (HK2.out.kept hm3.grown HNB2.out)
    clear hm3
    obtain ⟨c0,c1,c2,c3,c4,f0,f1,f2,f3,f4⟩:=HS3.out.bx.at
    obtain ⟨y0,y1,y2,y3,y4,_,_,_,_,_⟩:=HK3.out.at
    go_wp2_with fail
    go_region_with (go_at_call 107;refine (HSE.out _ (StK.drew HS3.out)).mono ?_;rintro e w9 ⟨rfl,hm9⟩;have HS9:=Lib.hid ((StK.drew HS3.out).go hm9);have HK9:=Lib.hid ((BoxK.drew HK3.out).kept hm9.grown HNB2.out);clear hm9;obtain ⟨z0,z1,z2,z3,z4,_,_,_,_,_⟩:=HK9.out.at;obtain ⟨x0,x1,x2,x3,x4,u0,u1,u2,u3,u4⟩:=HS9.out.bx.at)
    all_goals
     (try go_wp2)
     (try simp only [Exit.inBlock,Exit.then])
     refine ret_cell rfl rfl (HS9.out.bx.set _ _ _ _ _) Tryz.underlying119 rfl (by kernel_rfl) rfl ?_
     exact .inr ⟨HA.out,_,_,_,_,_,_,_,19,hk19,rfl,HS9.out.mv.own5 HS9.out.lt _ _ _ _ _⟩
   | true=>
    have HSE : Hid (∀ W,StK b doc v 19 w W → Calls Tryz.prog 107 #[.pointer (some ⟨b,0,none⟩),.string ⟨#[63,62]⟩] W fun r w'=>r = .returned (.bool true) ∧ Moves b doc v 21 W w'):=Lib.hid (fun W c=>skip_yes b 19 doc ⟨#[63,62]⟩ v W c.mv.box hk19 hs hg)
    have HA : Hid (decL (bts doc) = some (⟨1,[],[],[],false⟩,21)):=Lib.hid (by unfold decL;rw [if_pos (by rw [h1,hg])])
    clear h1 h2 hv hx h hm hbt he hg
    go_enter Tryz.func102,Tryz.ntmps102
    go_wp2_with fail
    refine (HSV.out _ HS1.out).mono ?_
    rintro e w2 ⟨rfl,hm2⟩
    have HS2:=Lib.hid (HS1.out.go hm2)
    clear hm2
    go_wp2_with fail
    have HNB2 : Hid (w2.heap.size ≠ b):=Lib.hid (by have:=HS2.out.mv.box.lt;omega)
    have HGE2 : Hid (w.heap.size < w2.heap.size):=Lib.hid HS2.out.bx.lt
    have HK2:=Lib.hid (BoxK.made 1 ⟨#[]⟩ ⟨#[]⟩ (.slice none 0 0) false w2)
    have HSA:=Lib.hid (HS2.out.below ((Below.refl _ w2).alloc (Nat.le_refl _) (.cells #[.int .i64 1,.string ⟨#[]⟩,.string ⟨#[]⟩,.slice none 0 0,.bool false] 119)))
    refine (HSN.out _ HSA.out).mono ?_
    rintro e w3 ⟨rfl,hm3⟩
    have HS3:=Lib.hid (HSA.out.go hm3)
    have HK3:=Lib.hid (HK2.out.kept hm3.grown HNB2.out)
    clear hm3
    obtain ⟨c0,c1,c2,c3,c4,f0,f1,f2,f3,f4⟩:=HS3.out.bx.at
    obtain ⟨y0,y1,y2,y3,y4,_,_,_,_,_⟩:=HK3.out.at
    go_wp2_with fail
    go_region_with (go_at_call 107;refine (HSE.out _ (StK.drew HS3.out)).mono ?_;rintro e w9 ⟨rfl,hm9⟩;have HS9:=Lib.hid ((StK.drew HS3.out).go hm9);have HK9:=Lib.hid ((BoxK.drew HK3.out).kept hm9.grown HNB2.out);clear hm9;obtain ⟨z0,z1,z2,z3,z4,_,_,_,_,_⟩:=HK9.out.at;obtain ⟨x0,x1,x2,x3,x4,u0,u1,u2,u3,u4⟩:=HS9.out.bx.at)
    all_goals
     (try go_wp2)
     (try simp only [Exit.inBlock,Exit.then])
     refine ret_cell rfl rfl (HS9.out.bx.set _ _ _ _ _) Tryz.underlying119 rfl (by kernel_rfl) rfl ?_
     exact .inl ⟨_,_,.slice none 0 0,HA.out,rfl,by simpa using HS9.out.mv.own5 HS9.out.lt _ _ _ _ _,World.ownsRow_nil _ _ _ _⟩
  | true=>
   have hg0:=enc_not he
   rw [hg0] at h1
   have hk36 : 36 ≤ doc.size:=by have:=begL_len he;rw [List.length_drop,hl] at this;simp at this;omega
   have HSN : Hid (∀ W,StK b doc v 19 w W → Calls Tryz.prog 107 #[.pointer (some ⟨b,0,none⟩),.string ⟨#[32,101,110,99,111,100,105,110,103,61,34,85,84,70,45,56,34]⟩] W fun r w'=>r = .returned (.bool true) ∧ Moves b doc v 36 W w'):=Lib.hid (fun W c=>skip_yes b 19 doc ⟨#[32,101,110,99,111,100,105,110,103,61,34,85,84,70,45,56,34]⟩ v W c.mv.box hk19 hs he)
   rw [he,Bool.true_and] at h2
   cases hg : begL [63,62] ((bts doc).drop 36) with
   | false=>
    have HSE:=Lib.hid (fun W (c : StK b doc v 36 w W)=>skip_no b 36 doc ⟨#[63,62]⟩ v W c.mv.box hk36 hs hg)
    have HA:=Lib.hid (dec_no (l:=bts doc) h1 (by rw [h2,hg]))
    clear h1 h2 hv hx h hm hbt he hg hg0
    go_enter Tryz.func102,Tryz.ntmps102
    go_wp2_with fail
    refine (HSV.out _ HS1.out).mono ?_
    rintro e w2 ⟨rfl,hm2⟩
    have HS2:=Lib.hid (HS1.out.go hm2)
    clear hm2
    go_wp2_with fail
    have HNB2 : Hid (w2.heap.size ≠ b):=Lib.hid (by have:=HS2.out.mv.box.lt;omega)
    have HGE2 : Hid (w.heap.size < w2.heap.size):=Lib.hid HS2.out.bx.lt
    have HK2:=Lib.hid (BoxK.made 1 ⟨#[]⟩ ⟨#[]⟩ (.slice none 0 0) false w2)
    have HSA:=Lib.hid (HS2.out.below ((Below.refl _ w2).alloc (Nat.le_refl _) (.cells #[.int .i64 1,.string ⟨#[]⟩,.string ⟨#[]⟩,.slice none 0 0,.bool false] 119)))
    refine (HSN.out _ HSA.out).mono ?_
    rintro e w3 ⟨rfl,hm3⟩
    have HS3:=Lib.hid (HSA.out.go hm3)
    have HK3:=Lib.hid (HK2.out.kept hm3.grown HNB2.out)
    clear hm3
    obtain ⟨_,_,y2,_,_,_,_,t2,_,_⟩:=HK3.out.at
    go_wp2_with fail
    have HK4:=Lib.hid (HK3.out.setT ⟨#[85,84,70,45,56]⟩)
    have HS4:=Lib.hid (HS3.out.other (grow_set w3 w2.heap.size 2 (.string ⟨#[85,84,70,45,56]⟩)) HGE2.out)
    clear y2 t2
    obtain ⟨c0,c1,c2,c3,c4,f0,f1,f2,f3,f4⟩:=HS4.out.bx.at
    obtain ⟨y0,y1,y2,y3,y4,_,_,_,_,_⟩:=HK4.out.at
    go_region_with (go_at_call 107;refine (HSE.out _ (StK.drew HS4.out)).mono ?_;rintro e w9 ⟨rfl,hm9⟩;have HS9:=Lib.hid ((StK.drew HS4.out).go hm9);have HK9:=Lib.hid ((BoxK.drew HK4.out).kept hm9.grown HNB2.out);clear hm9;obtain ⟨z0,z1,z2,z3,z4,_,_,_,_,_⟩:=HK9.out.at;obtain ⟨x0,x1,x2,x3,x4,u0,u1,u2,u3,u4⟩:=HS9.out.bx.at)
    all_goals
     (try go_wp2)
     (try simp only [Exit.inBlock,Exit.then])
     refine ret_cell rfl rfl (HS9.out.bx.set _ _ _ _ _) Tryz.underlying119 rfl (by kernel_rfl) rfl ?_
     exact .inr ⟨HA.out,_,_,_,_,_,_,_,36,hk36,rfl,HS9.out.mv.own5 HS9.out.lt _ _ _ _ _⟩
   | true=>
    have HSE : Hid (∀ W,StK b doc v 36 w W → Calls Tryz.prog 107 #[.pointer (some ⟨b,0,none⟩),.string ⟨#[63,62]⟩] W fun r w'=>r = .returned (.bool true) ∧ Moves b doc v 38 W w'):=Lib.hid (fun W c=>skip_yes b 36 doc ⟨#[63,62]⟩ v W c.mv.box hk36 hs hg)
    have HA : Hid (decL (bts doc) = some (⟨1,[],sUtf,[],false⟩,38)):=Lib.hid (by unfold decL;rw [if_neg (by rw [h1];simp),if_pos (by rw [h2,hg])])
    clear h1 h2 hv hx h hm hbt he hg hg0
    go_enter Tryz.func102,Tryz.ntmps102
    go_wp2_with fail
    refine (HSV.out _ HS1.out).mono ?_
    rintro e w2 ⟨rfl,hm2⟩
    have HS2:=Lib.hid (HS1.out.go hm2)
    clear hm2
    go_wp2_with fail
    have HNB2 : Hid (w2.heap.size ≠ b):=Lib.hid (by have:=HS2.out.mv.box.lt;omega)
    have HGE2 : Hid (w.heap.size < w2.heap.size):=Lib.hid HS2.out.bx.lt
    have HK2:=Lib.hid (BoxK.made 1 ⟨#[]⟩ ⟨#[]⟩ (.slice none 0 0) false w2)
    have HSA:=Lib.hid (HS2.out.below ((Below.refl _ w2).alloc (Nat.le_refl _) (.cells #[.int .i64 1,.string ⟨#[]⟩,.string ⟨#[]⟩,.slice none 0 0,.bool false] 119)))
    refine (HSN.out _ HSA.out).mono ?_
    rintro e w3 ⟨rfl,hm3⟩
    have HS3:=Lib.hid (HSA.out.go hm3)
    have HK3:=Lib.hid (HK2.out.kept hm3.grown HNB2.out)
    clear hm3
    obtain ⟨_,_,y2,_,_,_,_,t2,_,_⟩:=HK3.out.at
    go_wp2_with fail
    have HK4:=Lib.hid (HK3.out.setT ⟨#[85,84,70,45,56]⟩)
    have HS4:=Lib.hid (HS3.out.other (grow_set w3 w2.heap.size 2 (.string ⟨#[85,84,70,45,56]⟩)) HGE2.out)
    clear y2 t2
    obtain ⟨c0,c1,c2,c3,c4,f0,f1,f2,f3,f4⟩:=HS4.out.bx.at
    obtain ⟨y0,y1,y2,y3,y4,_,_,_,_,_⟩:=HK4.out.at
    go_region_with (go_at_call 107;refine (HSE.out _ (StK.drew HS4.out)).mono ?_;rintro e w9 ⟨rfl,hm9⟩;have HS9:=Lib.hid ((StK.drew HS4.out).go hm9);have HK9:=Lib.hid ((BoxK.drew HK4.out).kept hm9.grown HNB2.out);clear hm9;obtain ⟨z0,z1,z2,z3,z4,_,_,_,_,_⟩:=HK9.out.at;obtain ⟨x0,x1,x2,x3,x4,u0,u1,u2,u3,u4⟩:=HS9.out.bx.at)
    all_goals
     (try go_wp2)
     (try simp only [Exit.inBlock,Exit.then])
     refine ret_cell rfl rfl (HS9.out.bx.set _ _ _ _ _) Tryz.underlying119 rfl (by kernel_rfl) rfl ?_
     exact .inl ⟨_,_,.slice none 0 0,HA.out,rfl,by simpa using HS9.out.mv.own5 HS9.out.lt _ _ _ _ _,World.ownsRow_nil _ _ _ _⟩
end Go.Proofs.YtjldpkhfiffinaaGreatDoor.U
