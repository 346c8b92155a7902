/- Contracts and plain facts that the law stands on: Q10. -/
import Derived.Test.YtjldpkhfiffinaaGreatDoorZP04
import Derived.WalkKit
import Derived.WalkSpells
import Derived.WalkLawsBesides
import Derived.Lib.Hide
import Derived.Laws.Rows
import Derived.Laws.ResultCell
namespace Go.Proofs.YtjldpkhfiffinaaGreatDoor.U
open Go.RowKit
open Go.RowKit
theorem Box5.at {b : Nat} {ki : Int} {x y : ByteArray} {v : Value} {em : Bool} {w : World} (h : Box5 b ki x y v em w) :
  w.cell? ⟨b,0,none⟩ = some (.int .i64 ki) ∧ w.cell? ⟨b,1,none⟩ = some (.string x) ∧ w.cell? ⟨b,2,none⟩ = some (.string y) ∧ w.cell? ⟨b,3,none⟩ = some v ∧ w.cell? ⟨b,4,none⟩ = some (.bool em) ∧
  w.frozen? ⟨b,0,none⟩ = false ∧ w.frozen? ⟨b,1,none⟩ = false ∧ w.frozen? ⟨b,2,none⟩ = false ∧ w.frozen? ⟨b,3,none⟩ = false ∧ w.frozen? ⟨b,4,none⟩ = false:=
 ⟨by rw [Lib.cell_of_heap h];rfl,by rw [Lib.cell_of_heap h];rfl,by rw [Lib.cell_of_heap h];rfl,by rw [Lib.cell_of_heap h];rfl,by rw [Lib.cell_of_heap h];rfl,
  Lib.frozen_of_heap h 0,Lib.frozen_of_heap h 1,Lib.frozen_of_heap h 2,Lib.frozen_of_heap h 3,Lib.frozen_of_heap h 4⟩
theorem Box5.below {b : Nat} {ki : Int} {x y : ByteArray} {v : Value} {em : Bool} {w w' : World} (h : Box5 b ki x y v em w) (hb : Below w.heap.size w w') : Box5 b ki x y v em w':=
 (hb.block b (Array.getElem?_eq_some_iff.1 h).1).trans h
theorem Box5.new (w : World) : Box5 w.heap.size 0 ⟨#[]⟩ ⟨#[]⟩ (.slice none 0 0) false (w.alloc (.cells #[.int .i64 0,.string ⟨#[]⟩,.string ⟨#[]⟩,.slice none 0 0,.bool false] 73)):=by
 show (w.heap.push _)[w.heap.size]? = _
 simp
theorem Box5.made (ki : Int) (x y : ByteArray) (v : Value) (w : World) {em : Bool} : Box5 w.heap.size ki x y v em (w.alloc (.cells #[.int .i64 ki,.string x,.string y,v,.bool em] 73)):=by
 show (w.heap.push _)[w.heap.size]? = _
 simp
theorem Box5.other {b : Nat} {ki : Int} {x y : ByteArray} {v : Value} {em : Bool} {w : World} (h : Box5 b ki x y v em w) {c : Addr} (hc : b ≠ c.block) (u : Value) : Box5 b ki x y v em (w.setCell c u):=
 (Below.heap_setCell w c u b hc).trans h
theorem Box5.grown {b : Nat} {ki : Int} {x y : ByteArray} {v : Value} {em : Bool} {w w' : World} {row : Option Nat} (h : Box5 b ki x y v em w) (hg : w.grownBy w' row) (hr : ∀ k,row = some k → b < k) : Box5 b ki x y v em w':=
 (hg.block b (Array.getElem?_eq_some_iff.1 h).1 (fun e=>by have:=hr b e.symm;omega)).trans h
theorem Box5.alloc {b : Nat} {ki : Int} {x y : ByteArray} {v : Value} {em : Bool} {w : World} (h : Box5 b ki x y v em w) (o : Obj) : Box5 b ki x y v em (w.alloc o):=
 h.below ((Below.refl _ w).alloc (Nat.le_refl _) o)
theorem TokAt.slice {w : World} {v : Value} {ts : List Tok} (h : TokAt w v ts) : ∃ a c,v = .slice a ts.length c:=by
 obtain ⟨l,_,⟨a,c,h2,_⟩,_⟩:=h
 exact ⟨a,c,h2⟩
set_option maxHeartbeats 2000000 in
set_option maxRecDepth 10000 in
theorem attr_any (s : ByteArray) (k : Nat) (w : World) (hk : k ≤ s.size) (hs : s.size ≤ 100000) :
  Calls Tryz.prog 113 #[.string s,.int .i64 k] w fun e w'=>AttrPost k (attrL ((bts s).drop k)) w e w':=by
 have hl:=bts_len s
 obtain ⟨n,hn⟩ : ∃ n,n = nameN ((bts s).drop k):=⟨_,rfl⟩
 have hnl : k + n ≤ s.size:=by
  have:=nameN_le ((bts s).drop k)
  rw [List.length_drop,hl,← hn] at this;omega
 have HNM:=Lib.hid (fun W=>name3_any s k W hk hs)
 have HK0:=Lib.hid (Box2.new 82 ⟨#[]⟩ ⟨#[]⟩ w)
 have HB0 : Hid (Below w.heap.size w (w.alloc (.cells #[.string ⟨#[]⟩,.string ⟨#[]⟩] 82))):=Lib.hid ((Below.refl _ w).alloc (Nat.le_refl _) _)
 cases hq : nameL (((bts s).drop k).take n) with
 | false=>
  have hz : nameZ k ((bts s).drop k) = -1:=by unfold nameZ;rw [← hn,hq];simp
  rw [hz] at HNM
  have HA:=Lib.hid (attr_none1 (l:=(bts s).drop k) (by rw [← hn];exact hq))
  clear hq hn hz hnl
  go_enter Tryz.func113,Tryz.ntmps113
  go_wp2_with fail
  refine (HNM.out _).mono ?_
  rintro e w2 ⟨rfl,hb2⟩
  obtain ⟨c0,c1,f0,f1⟩:=(HK0.out.below hb2).at
  have HB2:=Lib.hid (th HB0.out (Nat.le_refl _) hb2)
  go_wp2
  (try simp only [Exit.inBlock,Exit.then])
  refine ret_cell rfl rfl ((HK0.out.below hb2).set ⟨#[]⟩ ⟨#[]⟩) Tryz.underlying82 rfl (by kernel_rfl) rfl ?_
  exact ⟨(HB2.out.setCell (p:=⟨w.heap.size,0,none⟩) (Nat.le_refl _) _).setCell (p:=⟨w.heap.size,1,none⟩) (Nat.le_refl _) _,.inr ⟨HA.out,_,_,rfl⟩⟩
 | true=>
  have hz : nameZ k ((bts s).drop k) = ((k + n : Nat) : Int):=by unfold nameZ;rw [← hn,hq];simp
  rw [hz] at HNM
  obtain ⟨e1,he1⟩ : ∃ e1,e1 = k + n:=⟨_,rfl⟩
  have hd1 : ((bts s).drop k).drop n = (bts s).drop e1:=by rw [List.drop_drop,he1]
  obtain ⟨b,hb⟩ : ∃ b,b = blankN ((bts s).drop e1):=⟨_,rfl⟩
  obtain ⟨e2,he2⟩ : ∃ e2,e2 = e1 + b:=⟨_,rfl⟩
  have hd2 : ((bts s).drop e1).drop b = (bts s).drop e2:=by rw [List.drop_drop,he2]
  have hb1:=blankN_le ((bts s).drop e1)
  rw [List.length_drop,hl,← hb] at hb1
  have h1s : e1 ≤ s.size:=by omega
  have h2s : e2 ≤ s.size:=by omega
  have hk1 : k ≤ e1:=by omega
  have HBK:=Lib.hid (fun W=>blanks_any s e1 W h1s hs)
  rw [← hb,← he2] at HBK
  have HBG : Hid (∀ W,Calls Tryz.prog 65 #[.string s,.int .i64 e2,.string ⟨#[61]⟩] W fun e w'=>e = .returned (.bool (begL [61] ((bts s).drop e2))) ∧ W = w'):=Lib.hid (fun W=>begins_any s e2 ⟨#[61]⟩ W h2s hs (by decide))
  rw [← he1] at HNM
  cases hg : begL [61] ((bts s).drop e2) with
  | false=>
   have HA:=Lib.hid (attr_none2 (l:=(bts s).drop k) (by rw [← hn];exact hq) (by rw [← hn,hd1,← hb,hd2];exact hg))
   rw [hg] at HBG
   clear hq hn hz hnl he1 hd1 hb he2 hd2 hb1 hg
   go_enter Tryz.func113,Tryz.ntmps113
   go_wp2_with fail
   refine (HNM.out _).mono ?_
   rintro e w2 ⟨rfl,hb2⟩
   have HK2:=Lib.hid (HK0.out.below hb2)
   have HB2:=Lib.hid (th HB0.out (Nat.le_refl _) hb2)
   clear hb2
   go_wp2_with fail
   refine (HBK.out _).mono ?_
   rintro e w3 ⟨rfl,rfl⟩
   go_wp2_with fail
   refine (HBG.out _).mono ?_
   rintro e w3 ⟨rfl,rfl⟩
   obtain ⟨c0,c1,f0,f1⟩:=HK2.out.at
   go_wp2
   (try simp only [Exit.inBlock,Exit.then])
   refine ret_cell rfl rfl (HK2.out.set ⟨#[]⟩ ⟨#[]⟩) Tryz.underlying82 rfl (by kernel_rfl) rfl ?_
   exact ⟨(HB2.out.setCell (p:=⟨w.heap.size,0,none⟩) (Nat.le_refl _) _).setCell (p:=⟨w.heap.size,1,none⟩) (Nat.le_refl _) _,.inr ⟨HA.out,_,_,rfl⟩⟩
  | true=>
   rw [hg] at HBG
   have hlt2 : e2 < s.size:=by
    have:=begL_len hg
    rw [List.length_drop,hl] at this
    simp at this
    omega
   obtain ⟨c,hc⟩ : ∃ c,c = blankN ((bts s).drop (e2 + 1)):=⟨_,rfl⟩
   obtain ⟨e4,he4⟩ : ∃ e4,e4 = e2 + 1 + c:=⟨_,rfl⟩
   have hd3 : ((bts s).drop e1).drop (b + 1) = (bts s).drop (e2 + 1):=by rw [List.drop_drop,he2];congr 1
   have hd4 : ((bts s).drop (e2 + 1)).drop c = (bts s).drop e4:=by rw [List.drop_drop,he4]
   have HBK2 : Hid (∀ W,Calls Tryz.prog 68 #[.string s,.int .i64 ((e2 : Int) + 1)] W fun e w'=>e = .returned (.int .i64 (e4 : Int)) ∧ W = w'):=Lib.hid (fun W=>by
    have:=blanks_any s (e2 + 1) W (by omega) hs
    rw [← hc,← he4] at this
    exact this)
   have HVL:=Lib.hid (fun W=>value_any s e4 W hs)
   have hx : bts (s.extract k e1) = ((bts s).drop k).take n:=by rw [bts_extract,List.take_drop,he1]
   have hxe : (⟨(((bts s).drop k).take n).toArray⟩ : ByteArray) = s.extract k e1:=by rw [← hx,mk_bts]
   have HXE:=Lib.hid hxe
   cases hv : valueL ((bts s).drop e4) with
   | none=>
    have HA:=Lib.hid (attr_none3 (l:=(bts s).drop k) (by rw [← hn];exact hq) (by rw [← hn,hd1,← hb,hd2];exact hg) (by rw [← hn,hd1,← hb,hd3,← hc,hd4];exact hv))
    rw [hv] at HVL
    simp only [valueZ] at HVL
    clear hq hn hz hnl he1 hd1 hb he2 hd2 hb1 hg hc he4 hd3 hd4 hv hx hxe
    go_enter Tryz.func113,Tryz.ntmps113
    go_wp2_with fail
    refine (HNM.out _).mono ?_
    rintro e w2 ⟨rfl,hb2⟩
    have HK2:=Lib.hid (HK0.out.below hb2)
    have HB2:=Lib.hid (th HB0.out (Nat.le_refl _) hb2)
    clear hb2
    go_wp2_with fail
    refine (HBK.out _).mono ?_
    rintro e w3 ⟨rfl,rfl⟩
    go_wp2_with fail
    refine (HBG.out _).mono ?_
    rintro e w3 ⟨rfl,rfl⟩
    go_wp2_with fail
    refine (HBK2.out _).mono ?_
    rintro e w3 ⟨rfl,rfl⟩
    go_wp2_with fail
    refine (HVL.out _).mono ?_
    rintro e w4 ⟨rfl,hb4⟩
    have HK4:=Lib.hid (HK2.out.below hb4)
    have HB4:=Lib.hid (th HB2.out (Nat.le_refl _) hb4)
    clear hb4
    obtain ⟨c0,c1,f0,f1⟩:=HK4.out.at
    go_wp2
    (try simp only [Exit.inBlock,Exit.then])
    refine ret_cell rfl rfl (HK4.out.set _ _) Tryz.underlying82 rfl (by kernel_rfl) rfl ?_
    exact ⟨(HB4.out.setCell (p:=⟨w.heap.size,0,none⟩) (Nat.le_refl _) _).setCell (p:=⟨w.heap.size,1,none⟩) (Nat.le_refl _) _,.inr ⟨HA.out,_,_,rfl⟩⟩
   | some y=>
    obtain ⟨x,j⟩:=y
    have HA:=Lib.hid (attr_some (l:=(bts s).drop k) (by rw [← hn];exact hq) (by rw [← hn,hd1,← hb,hd2];exact hg) (by rw [← hn,hd1,← hb,hd3,← hc,hd4];exact hv))
    have HJ : Hid (((e4 + j : Nat) : Int) = ((k + (n + b + 1 + c + j) : Nat) : Int)):=Lib.hid (by omega)
    rw [← hn,hd1,← hb,hd3,← hc] at HA
    rw [hv] at HVL
    simp only [valueZ] at HVL
    clear hq hn hz hnl he1 hd1 hb he2 hd2 hb1 hg hc he4 hd3 hd4 hv hx hxe
    go_enter Tryz.func113,Tryz.ntmps113
    go_wp2_with fail
    refine (HNM.out _).mono ?_
    rintro e w2 ⟨rfl,hb2⟩
    have HK2:=Lib.hid (HK0.out.below hb2)
    have HB2:=Lib.hid (th HB0.out (Nat.le_refl _) hb2)
    clear hb2
    go_wp2_with fail
    refine (HBK.out _).mono ?_
    rintro e w3 ⟨rfl,rfl⟩
    go_wp2_with fail
    refine (HBG.out _).mono ?_
    rintro e w3 ⟨rfl,rfl⟩
    go_wp2_with fail
    refine (HBK2.out _).mono ?_
    rintro e w3 ⟨rfl,rfl⟩
    go_wp2_with fail
    refine (HVL.out _).mono ?_
    rintro e w4 ⟨rfl,hb4⟩
    have HK4:=Lib.hid (HK2.out.below hb4)
    have HB4:=Lib.hid (th HB2.out (Nat.le_refl _) hb4)
    clear hb4
    obtain ⟨c0,c1,f0,f1⟩:=HK4.out.at
    go_wp2
    (try simp only [Exit.inBlock,Exit.then])
    refine ret_cell rfl rfl (HK4.out.set (s.extract k e1) ⟨x.toArray⟩) Tryz.underlying82 rfl (by kernel_rfl) rfl ?_
    refine ⟨(HB4.out.setCell (p:=⟨w.heap.size,0,none⟩) (Nat.le_refl _) _).setCell (p:=⟨w.heap.size,1,none⟩) (Nat.le_refl _) _,.inl ⟨_,_,HA.out,?_⟩⟩
    rw [HXE.out,← HJ.out]
    rfl
theorem hasA_snoc (al : List (List UInt8 × List UInt8)) (n : List UInt8) (i : Nat) (h : i < al.length) : hasA (al.take (i + 1)) n = (hasA (al.take i) n || (al[i].1 == n)):=by
 unfold hasA;rw [List.take_succ_eq_append_getElem h,List.any_append];simp
set_option maxHeartbeats 1000000 in
theorem has_any (al : List (List UInt8 × List UInt8)) (v : Value) (n : ByteArray) (w : World) (hv : AtRow w v al.length 2 (attrCells al)) (hl : al.length ≤ 100000) :
  Calls Tryz.prog 114 #[v,.string n] w fun e w'=>e = .returned (.bool (hasA al (bts n))) ∧ w = w':=by
 obtain ⟨a,cap,rfl,hc,_,hx⟩:=hv
 obtain ⟨g,off,hag,hcell⟩ : ∃ g off,(0 < al.length → a = some ⟨g,off,none⟩) ∧ ∀ j u,(attrCells al)[j]? = some u → w.cell? ⟨g,off + j,none⟩ = some u:=by
  by_cases h0 : 0 < al.length
  ·obtain ⟨g,off,h1,h2⟩:=hx h0
   exact ⟨g,off,fun _=>h1,h2⟩
  ·refine ⟨0,0,fun h=>absurd h h0,fun j u hu=>?_⟩
   have : (attrCells al).length = 0:=by rw [attrCells_len];omega
   rw [List.eq_nil_of_length_eq_zero this] at hu
   cases hu
 have HAG:=Lib.hid hag
 have HC:=Lib.hid hcell
 clear hx hag hcell
 go_enter Tryz.func114,Tryz.ntmps114
 go_wp2_with fail
 go_loopw [5] (fun i wr=>∃ k : Nat,k ≤ al.length ∧ i = .int .i64 k ∧ w = wr ∧ Hid (hasA (al.take k) (bts n) = false)) (fun i _=>al.length - (intOf i).toNat)
 case atStart=>exact ⟨0,by omega,rfl,rfl,rfl⟩
 case round=>
  obtain ⟨k,hk,rfl,rfl,HH⟩:=hrel
  by_cases hlt : k < al.length
  ·obtain rfl:=HAG.out (by omega)
   have c0:=HC.out (k * 2) _ (attrCells_get al k hlt).1
   have HS:=Lib.hid (hasA_snoc al (bts n) k hlt)
   have hnt : n.toList = bts n:=ByteArray.toList_eq n
   cases HB : al[k].1 == bts n
   ·have HB2 : (al[k].1 == n.toList) = false:=by rw [hnt];exact HB
    have HN : Hid (hasA (al.take (k + 1)) (bts n) = false):=Lib.hid (by rw [HS.out,HH.out,HB];rfl)
    clear HB hnt
    go_wp2
    exact ⟨⟨k + 1,by omega,rfl,trivial,HN⟩,by rw [show ((k : Int) + 1) = ((k + 1 : Nat) : Int) by omega];show al.length - (((k + 1 : Nat) : Int)).toNat < al.length - ((k : Int)).toNat;omega⟩
   ·have HB2 : (al[k].1 == n.toList) = true:=by rw [hnt];exact HB
    have HN : Hid (hasA al (bts n) = true):=Lib.hid (by
     unfold hasA
     rw [List.any_eq_true]
     exact ⟨al[k],List.getElem_mem hlt,HB⟩)
    clear HB hnt
    go_wp2
    go_ret
    exact ⟨by rw [HN.out];rfl,rfl⟩
  ·have HE : Hid (hasA al (bts n) = false):=Lib.hid (by have:=HH.out;rwa [List.take_of_length_le (by omega)] at this)
   go_wp2
   go_ret
   refine ⟨?_,rfl⟩
   rw [HE.out]
   rfl
theorem Box5.set {b : Nat} {ki : Int} {x y : ByteArray} {v : Value} {em : Bool} {w : World} (h : Box5 b ki x y v em w) (ki' : Int) (x' y' : ByteArray) (v' : Value) (em' : Bool) :
  Box5 b ki' x' y' v' em' (((((w.setCell ⟨b,0,none⟩ (.int .i64 ki')).setCell ⟨b,1,none⟩ (.string x')).setCell ⟨b,2,none⟩ (.string y')).setCell ⟨b,3,none⟩ v').setCell ⟨b,4,none⟩ (.bool em')):=by
 unfold Box5 at h ⊢
 simp [World.setCell,Array.getElem?_modify,h]
theorem set5_below {B b : Nat} {a w : World} (h : Below B a w) (hb : B ≤ b) (v0 v1 v2 v3 v4 : Value) : Below B a (((((w.setCell ⟨b,0,none⟩ v0).setCell ⟨b,1,none⟩ v1).setCell ⟨b,2,none⟩ v2).setCell ⟨b,3,none⟩ v3).setCell ⟨b,4,none⟩ v4):=
 ((((h.setCell (p:=⟨b,0,none⟩) hb _).setCell (p:=⟨b,1,none⟩) hb _).setCell (p:=⟨b,2,none⟩) hb _).setCell (p:=⟨b,3,none⟩) hb _).setCell (p:=⟨b,4,none⟩) hb _
theorem Box5.setE {b : Nat} {ki : Int} {x y : ByteArray} {v : Value} {em : Bool} {w : World} (h : Box5 b ki x y v em w) (em' : Bool) : Box5 b ki x y v em' (w.setCell ⟨b,4,none⟩ (.bool em')):=by
 unfold Box5 at h ⊢
 simp [World.setCell,Array.getElem?_modify,h]
theorem Box5.setV {b : Nat} {ki : Int} {x y : ByteArray} {v : Value} {em : Bool} {w : World} (h : Box5 b ki x y v em w) (v' : Value) : Box5 b ki x y v' em (w.setCell ⟨b,3,none⟩ v'):=by
 unfold Box5 at h ⊢
 simp [World.setCell,Array.getElem?_modify,h]
theorem open_done {l L nm : List UInt8} {n d c F : Nat} {acc al : List (List UInt8 × List UInt8)} {em : Bool} {RES : Option (List (List UInt8 × List UInt8) × Bool × Nat)}
  (HA : openL l = RES.map fun x=>(⟨2,nm,[],x.1,x.2.1⟩,1 + n + x.2.2)) (HR : RES = (attrsA F acc L).map fun x=>(x.1,x.2.1,d + x.2.2)) (HE : attrsA F acc L = some (al,em,c)) : openL l = some (⟨2,nm,[],al,em⟩,1 + n + (d + c)):=by
 rw [HA,HR,HE];rfl
theorem open_fail {l L nm : List UInt8} {n d F : Nat} {acc : List (List UInt8 × List UInt8)} {RES : Option (List (List UInt8 × List UInt8) × Bool × Nat)}
  (HA : openL l = RES.map fun x=>(⟨2,nm,[],x.1,x.2.1⟩,1 + n + x.2.2)) (HR : RES = (attrsA F acc L).map fun x=>(x.1,x.2.1,d + x.2.2)) (HE : attrsA F acc L = none) : openL l = none:=by
 rw [HA,HR,HE];rfl
theorem attrs_end1 {f : Nat} {acc : List (List UInt8 × List UInt8)} {l : List UInt8} (h : begL [62] (l.drop (blankN l)) = true) : attrsA (f + 1) acc l = some (acc,false,blankN l + 1):=by
 simp only [attrsA];rw [if_pos h]
theorem attrs_end2 {f : Nat} {acc : List (List UInt8 × List UInt8)} {l : List UInt8} (h1 : begL [62] (l.drop (blankN l)) = false) (h : begL [47,62] (l.drop (blankN l)) = true) : attrsA (f + 1) acc l = some (acc,true,blankN l + 2):=by
 simp only [attrsA];rw [if_neg (by rw [h1];simp),if_pos h]
theorem attrs_none0 {f : Nat} {acc : List (List UInt8 × List UInt8)} {l : List UInt8} (h1 : begL [62] (l.drop (blankN l)) = false) (h2 : begL [47,62] (l.drop (blankN l)) = false) (h : blankN l = 0) : attrsA (f + 1) acc l = none:=by
 simp only [attrsA];rw [if_neg (by rw [h1];simp),if_neg (by rw [h2];simp),if_pos h]
theorem attrs_none1 {f : Nat} {acc : List (List UInt8 × List UInt8)} {l : List UInt8} (h1 : begL [62] (l.drop (blankN l)) = false) (h2 : begL [47,62] (l.drop (blankN l)) = false) (h : blankN l ≠ 0) (ha : attrL (l.drop (blankN l)) = none) : attrsA (f + 1) acc l = none:=by
 simp only [attrsA];rw [if_neg (by rw [h1];simp),if_neg (by rw [h2];simp),if_neg h,ha]
theorem attrs_none2 {f : Nat} {acc : List (List UInt8 × List UInt8)} {l : List UInt8} {a : List UInt8 × List UInt8} {k : Nat} (h1 : begL [62] (l.drop (blankN l)) = false) (h2 : begL [47,62] (l.drop (blankN l)) = false) (h : blankN l ≠ 0)
  (ha : attrL (l.drop (blankN l)) = some (a,k)) (hh : hasA acc a.1 = true) : attrsA (f + 1) acc l = none:=by
 simp only [attrsA];rw [if_neg (by rw [h1];simp),if_neg (by rw [h2];simp),if_neg h,ha];simp only;rw [if_pos hh]
theorem attrs_go {f : Nat} {acc : List (List UInt8 × List UInt8)} {l : List UInt8} {a : List UInt8 × List UInt8} {k : Nat} (h1 : begL [62] (l.drop (blankN l)) = false) (h2 : begL [47,62] (l.drop (blankN l)) = false) (h : blankN l ≠ 0)
  (ha : attrL (l.drop (blankN l)) = some (a,k)) (hh : hasA acc a.1 = false) : attrsA (f + 1) acc l = (attrsA f (acc ++ [a]) ((l.drop (blankN l)).drop k)).map fun x=>(x.1,x.2.1,blankN l + k + x.2.2):=by
 simp only [attrsA];rw [if_neg (by rw [h1];simp),if_neg (by rw [h2];simp),if_neg h,ha];simp only;rw [if_neg (by rw [hh];simp)]
set_option maxHeartbeats 4000000 in
set_option maxRecDepth 10000 in
theorem open_any (s : ByteArray) (k : Nat) (w : World) (hk : k < s.size) (hs : s.size ≤ 100000) :
  Calls Tryz.prog 69 #[.string s,.int .i64 k] w fun e w'=>PiecePost k (openL ((bts s).drop k)) w e w':=by
 have hl:=bts_len s
 obtain ⟨L1,hL1⟩ : ∃ L1,L1 = (bts s).drop (k + 1):=⟨_,rfl⟩
 have hd0 : ((bts s).drop k).drop 1 = L1:=by rw [List.drop_drop,hL1]
 obtain ⟨n,hn⟩ : ∃ n,n = nameN L1:=⟨_,rfl⟩
 have hnl : k + 1 + n ≤ s.size:=by
  have:=nameN_le L1
  rw [← hn,hL1,List.length_drop,hl] at this;omega
 have HNM : Hid (∀ W,Calls Tryz.prog 67 #[.string s,.int .i64 ((k : Int) + 1)] W fun e w'=>e = .returned (.int .i64 (nameZ (k + 1) L1)) ∧ Below W.heap.size W w'):=Lib.hid (fun W=>by
  have:=name3_any s (k + 1) W (by omega) hs
  rw [← hL1] at this
  exact this)
 have HK0:=Lib.hid (Box5.new w)
 have HB0 : Hid (Below w.heap.size w (w.alloc (.cells #[.int .i64 0,.string ⟨#[]⟩,.string ⟨#[]⟩,.slice none 0 0,.bool false] 73))):=Lib.hid ((Below.refl _ w).alloc (Nat.le_refl _) _)
 cases hq : nameL (L1.take n) with
 | false=>
  have hz : nameZ (k + 1) L1 = -1:=by unfold nameZ;rw [← hn,hq];simp
  rw [hz] at HNM
  have HA:=Lib.hid (open_none (l:=(bts s).drop k) (by rw [hd0,← hn];exact hq))
  clear hq hn hz hnl hd0 hL1
  go_enter Tryz.func69,Tryz.ntmps69
  go_wp2_with fail
  refine (HNM.out _).mono ?_
  rintro e w2 ⟨rfl,hb2⟩
  obtain ⟨c0,c1,c2,c3,c4,f0,f1,f2,f3,f4⟩:=(HK0.out.below hb2).at
  have HB2:=Lib.hid (th HB0.out (Nat.le_refl _) hb2)
  go_wp2
  (try simp only [Exit.inBlock,Exit.then])
  refine ret_cell rfl rfl ((HK0.out.below hb2).set _ _ _ _ _) Tryz.underlying73 rfl (by kernel_rfl) rfl ?_
  exact ⟨set5_below HB2.out (Nat.le_refl _) _ _ _ _ _,.inr ⟨HA.out,rfl⟩⟩
 | true=>
  have hz : nameZ (k + 1) L1 = ((k + 1 + n : Nat) : Int):=by unfold nameZ;rw [← hn,hq];simp
  obtain ⟨e1,he1⟩ : ∃ e1,e1 = k + 1 + n:=⟨_,rfl⟩
  rw [hz,← he1] at HNM
  have h1s : e1 ≤ s.size:=by omega
  have hL2 : L1.drop n = (bts s).drop e1:=by rw [hL1,List.drop_drop,he1]
  have hx : bts (s.extract (k + 1) e1) = L1.take n:=by rw [bts_extract,hL1,List.take_drop,he1]
  have HXE : Hid ((⟨(L1.take n).toArray⟩ : ByteArray) = s.extract (k + 1) e1):=Lib.hid (by rw [← hx,mk_bts])
  obtain ⟨F,hF⟩ : ∃ F,F = L1.length + 1:=⟨_,rfl⟩
  have hFs : s.size - e1 < F:=by rw [hF,hL1,List.length_drop,hl];omega
  have HA:=Lib.hid (open_some (l:=(bts s).drop k) (by rw [hd0,← hn];exact hq))
  rw [hd0,← hn,hL2,← hF] at HA
  obtain ⟨nm,hnm⟩ : ∃ nm,nm = L1.take n:=⟨_,rfl⟩
  rw [← hnm] at HA HXE
  obtain ⟨RES,hRES⟩ : ∃ RES,RES = attrsA F [] ((bts s).drop e1):=⟨_,rfl⟩
  rw [← hRES] at HA
  have HR0 : Hid (RES = (attrsA F [] ((bts s).drop e1)).map (fun x=>(x.1,x.2.1,e1 - e1 + x.2.2))):=Lib.hid (by
   rw [hRES]
   cases attrsA F [] ((bts s).drop e1) with
   | none=>rfl
   | some x=>simp)
  have hk1 : k + 1 ≤ e1:=by omega
  have HE1:=Lib.hid he1
  clear hq hz hd0 hL1 hL2 hx hF hnm hRES hnl hn he1
  go_enter Tryz.func69,Tryz.ntmps69
  go_wp2_with fail
  refine (HNM.out _).mono ?_
  rintro e w2 ⟨rfl,hb2⟩
  have HK2:=Lib.hid (HK0.out.below hb2)
  have HB2:=Lib.hid (th HB0.out (Nat.le_refl _) hb2)
  clear hb2
  go_wp2_with fail
  go_loopw [6] (fun i wr=>∃ (p f : Nat) (acc : List (List UInt8 × List UInt8)) (v : Value),e1 ≤ p ∧ p ≤ s.size ∧ s.size - p < f ∧ i = .int .i64 p ∧ acc.length ≤ p - e1 ∧ Hid (RES = (attrsA f acc ((bts s).drop p)).map (fun x=>(x.1,x.2.1,p - e1 + x.2.2))) ∧
   Hid (Below w.heap.size w wr) ∧ Hid (Box5 w.heap.size 0 ⟨#[]⟩ ⟨#[]⟩ (.slice none 0 0) false wr) ∧ Hid (Box5 w2.heap.size 2 (s.extract (k + 1) e1) ⟨#[]⟩ v false wr) ∧ Hid (wr.ownsRow (w2.heap.size + 1) 82 2 v acc.length (attrCells acc)) ∧ Hid (w2.heap.size + 1 ≤ wr.heap.size)) (fun i _=>s.size + 1 - (intOf i).toNat)
  case atStart=>
   refine ⟨e1,F,[],.slice none 0 0,by omega,h1s,hFs,rfl,by simp,HR0,?_,?_,?_,?_,?_⟩
   ·exact Lib.hid (al HB2.out (Nat.le_refl _) _)
   ·exact Lib.hid (HK2.out.below ((Below.refl w2.heap.size w2).alloc (Nat.le_refl _) _))
   ·exact Lib.hid (Box5.made _ _ _ _ _)
   ·exact Lib.hid (World.ownsRow_nil _ _ _ _)
   ·exact Lib.hid (by simp)
  case round=>
   have HK4W:=Lib.hid HK2.out
   clear HNM HK0 HB0 HR0 HK2
   obtain ⟨p,f,acc,v,hp1,hp,hf,rfl,hacc,HR,HB,HK4,HK7,HO,HSZ⟩:=hrel
   obtain ⟨va,vc,rfl⟩:=own_slice HO.out
   obtain ⟨f,rfl⟩ : ∃ g,f = g + 1:=⟨f - 1,by omega⟩
   obtain ⟨b,hb⟩ : ∃ b,b = blankN ((bts s).drop p):=⟨_,rfl⟩
   obtain ⟨p2,hp2⟩ : ∃ p2,p2 = p + b:=⟨_,rfl⟩
   have hd2 : ((bts s).drop p).drop b = (bts s).drop p2:=by rw [List.drop_drop,hp2]
   have hb1:=blankN_le ((bts s).drop p)
   rw [List.length_drop,hl,← hb] at hb1
   have h2s : p2 ≤ s.size:=by omega
   have HBK:=Lib.hid (fun W=>blanks_any s p W hp hs)
   rw [← hb,← hp2] at HBK
   have HG1 : Hid (∀ W,Calls Tryz.prog 65 #[.string s,.int .i64 p2,.string ⟨#[62]⟩] W fun e w'=>e = .returned (.bool (begL [62] ((bts s).drop p2))) ∧ W = w'):=Lib.hid (fun W=>begins_any s p2 ⟨#[62]⟩ W h2s hs (by decide))
   have HG2 : Hid (∀ W,Calls Tryz.prog 65 #[.string s,.int .i64 p2,.string ⟨#[47,62]⟩] W fun e w'=>e = .returned (.bool (begL [47,62] ((bts s).drop p2))) ∧ W = w'):=Lib.hid (fun W=>begins_any s p2 ⟨#[47,62]⟩ W h2s hs (by decide))
   have HP2:=Lib.hid hp2
   cases hg1 : begL [62] ((bts s).drop p2) with
   | true=>
    have HE:=Lib.hid (attrs_end1 (f:=f) (acc:=acc) (l:=(bts s).drop p) (by rw [← hb,hd2];exact hg1))
    rw [← hb] at HE
    rw [hg1] at HG1
    clear hb hp2 hd2 hb1 hg1 HG2
    go_wp2_with fail
    refine (HBK.out _).mono ?_
    rintro e w3 ⟨rfl,rfl⟩
    go_wp2_with fail
    refine (HG1.out _).mono ?_
    rintro e w3 ⟨rfl,rfl⟩
    obtain ⟨a0,a1,a2,a3,a4,b0,b1,b2,b3,b4⟩:=HK7.out.at
    obtain ⟨c0,c1,c2,c3,c4,f0,f1,f2,f3,f4⟩:=HK4.out.at
    go_wp2
    (try simp only [Exit.inBlock,Exit.then])
    refine ret_cell rfl rfl (HK4.out.set _ _ _ _ _) Tryz.underlying73 rfl (by kernel_rfl) rfl ?_
    refine ⟨set5_below HB.out (Nat.le_refl _) _ _ _ _ _,.inl ⟨_,_,_,open_done HA.out HR.out HE.out,?_,own_mono (own_set5 HO.out (by have:=HB2.out.size;omega) _ _ _ _ _) (by have:=HB2.out.size;omega)⟩⟩
    have hi : ((k + (1 + n + (p - e1 + (b + 1))) : Nat) : Int) = (p2 : Int) + 1:=by have:=HP2.out;have:=HE1.out;omega
    unfold tokCells
    simp only [HXE.out,hi]
    rfl
   | false=>
    rw [hg1] at HG1
    cases hg2 : begL [47,62] ((bts s).drop p2) with
    | true=>
     have HE:=Lib.hid (attrs_end2 (f:=f) (acc:=acc) (l:=(bts s).drop p) (by rw [← hb,hd2];exact hg1) (by rw [← hb,hd2];exact hg2))
     rw [← hb] at HE
     rw [hg2] at HG2
     have HNE : Hid (w.heap.size < w2.heap.size):=Lib.hid (by have:=HB2.out.size;have:=(Array.getElem?_eq_some_iff.1 HK4W.out).1;omega)
     clear hb hp2 hd2 hb1 hg1 hg2
     go_wp2_with fail
     refine (HBK.out _).mono ?_
     rintro e w3 ⟨rfl,rfl⟩
     go_wp2_with fail
     refine (HG1.out _).mono ?_
     rintro e w3 ⟨rfl,rfl⟩
     go_wp2_with fail
     refine (HG2.out _).mono ?_
     rintro e w3 ⟨rfl,rfl⟩
     have HK4':=Lib.hid (HK4.out.other (c:=⟨w2.heap.size,4,none⟩) (by have:=HNE.out;simp;omega) (.bool true))
     have HK7':=Lib.hid (HK7.out.setE true)
     obtain ⟨_,_,_,_,a4,_,_,_,_,b4⟩:=HK7.out.at
     obtain ⟨d0,d1,d2,d3,d4,g0,g1,g2,g3,g4⟩:=HK7'.out.at
     obtain ⟨c0,c1,c2,c3,c4,f0,f1,f2,f3,f4⟩:=HK4'.out.at
     go_wp2
     (try simp only [Exit.inBlock,Exit.then])
     refine ret_cell rfl rfl (HK4'.out.set _ _ _ _ _) Tryz.underlying73 rfl (by kernel_rfl) rfl ?_
     refine ⟨set5_below (HB.out.setCell (p:=⟨w2.heap.size,4,none⟩) (by have:=HNE.out;simp;omega) _) (Nat.le_refl _) _ _ _ _ _,.inl ⟨_,_,_,open_done HA.out HR.out HE.out,?_,own_mono (own_set5 (ownsRow_setCell_below HO.out (a:=⟨w2.heap.size,4,none⟩) (by simp) _) (by have:=HNE.out;omega) _ _ _ _ _) (by have:=HNE.out;omega)⟩⟩
     have hi : ((k + (1 + n + (p - e1 + (b + 2))) : Nat) : Int) = (p2 : Int) + 2:=by have:=HP2.out;have:=HE1.out;omega
     unfold tokCells
     simp only [HXE.out,hi]
     rfl
    | false=>
     rw [hg2] at HG2
     have HNE : Hid (w.heap.size < w2.heap.size):=Lib.hid (by have:=HB2.out.size;have:=(Array.getElem?_eq_some_iff.1 HK4W.out).1;omega)
     rcases Nat.eq_zero_or_pos b with hb0 | hb0
     ·have HE:=Lib.hid (attrs_none0 (f:=f) (acc:=acc) (l:=(bts s).drop p) (by rw [← hb,hd2];exact hg1) (by rw [← hb,hd2];exact hg2) (by rw [← hb];exact hb0))
      obtain rfl : p2 = p:=by omega
      clear hb hp2 hd2 hb1 hg1 hg2
      go_wp2_with fail
      refine (HBK.out _).mono ?_
      rintro e w3 ⟨rfl,rfl⟩
      go_wp2_with fail
      refine (HG1.out _).mono ?_
      rintro e w3 ⟨rfl,rfl⟩
      go_wp2_with fail
      refine (HG2.out _).mono ?_
      rintro e w3 ⟨rfl,rfl⟩
      obtain ⟨c0,c1,c2,c3,c4,f0,f1,f2,f3,f4⟩:=HK4.out.at
      go_wp2
      (try simp only [Exit.inBlock,Exit.then])
      refine ret_cell rfl rfl (HK4.out.set _ _ _ _ _) Tryz.underlying73 rfl (by kernel_rfl) rfl ?_
      exact ⟨set5_below HB.out (Nat.le_refl _) _ _ _ _ _,.inr ⟨open_fail HA.out HR.out HE.out,rfl⟩⟩
     ·have hne : ¬ ((p2 : Int) = (p : Int)):=by omega
      cases ha : attrL ((bts s).drop p2) with
      | none=>
       have HE:=Lib.hid (attrs_none1 (f:=f) (acc:=acc) (l:=(bts s).drop p) (by rw [← hb,hd2];exact hg1) (by rw [← hb,hd2];exact hg2) (by rw [← hb];omega) (by rw [← hb,hd2];exact ha))
       have HAT : Hid (∀ W,Calls Tryz.prog 113 #[.string s,.int .i64 p2] W fun e w'=>Below W.heap.size W w' ∧ ∃ x y,e = .returned (.tuple #[.agg #[.string x,.string y],.int .i64 (-1)])):=Lib.hid (fun W=>(attr_any s p2 W h2s hs).mono (by
        rintro e w' ⟨h1,⟨_,_,h2,_⟩ | ⟨_,x,y,h2⟩⟩
        ·rw [ha] at h2;cases h2
        ·exact ⟨h1,x,y,h2⟩))
       clear hb hp2 hd2 hb1 hg1 hg2 ha
       go_wp2_with fail
       refine (HBK.out _).mono ?_
       rintro e w3 ⟨rfl,rfl⟩
       go_wp2_with fail
       refine (HG1.out _).mono ?_
       rintro e w3 ⟨rfl,rfl⟩
       go_wp2_with fail
       refine (HG2.out _).mono ?_
       rintro e w3 ⟨rfl,rfl⟩
       go_wp2_with fail
       refine (HAT.out _).mono ?_
       rintro e w3 ⟨hb3,x,y,rfl⟩
       have HK43:=Lib.hid ((HK4.out.below hb3).alloc (.cells #[.string x,.string y] 82))
       have HB3:=Lib.hid (al (th HB.out (Nat.le_refl _) hb3) (Nat.le_refl _) (.cells #[.string x,.string y] 82))
       clear hb3
       obtain ⟨c0,c1,c2,c3,c4,f0,f1,f2,f3,f4⟩:=HK43.out.at
       go_wp2
       (try simp only [Exit.inBlock,Exit.then])
       refine ret_cell rfl rfl (HK43.out.set _ _ _ _ _) Tryz.underlying73 rfl (by kernel_rfl) rfl ?_
       exact ⟨set5_below HB3.out (Nat.le_refl _) _ _ _ _ _,.inr ⟨open_fail HA.out HR.out HE.out,rfl⟩⟩
      | some y=>
       obtain ⟨a,j⟩:=y
       have hj:=(attr_more (r:=[]) ha).2
       rw [List.length_drop,hl] at hj
       have HAT : Hid (∀ W,Calls Tryz.prog 113 #[.string s,.int .i64 p2] W fun e w'=>Below W.heap.size W w' ∧ e = .returned (.tuple #[.agg #[.string ⟨a.1.toArray⟩,.string ⟨a.2.toArray⟩],.int .i64 ((p2 + j : Nat) : Int)])):=Lib.hid (fun W=>(attr_any s p2 W h2s hs).mono (by
        rintro e w' ⟨h1,⟨a',n',h2,h3⟩ | ⟨h2,_⟩⟩
        ·rw [ha] at h2
         obtain ⟨rfl,rfl⟩:=Prod.mk.inj (Option.some.inj h2)
         exact ⟨h1,h3⟩
        ·rw [ha] at h2;cases h2))
       obtain ⟨p3,hp3⟩ : ∃ p3,p3 = p2 + j:=⟨_,rfl⟩
       rw [← hp3] at HAT
       have HHS : Hid (∀ W,AtRow W (.slice va acc.length vc) acc.length 2 (attrCells acc) → Calls Tryz.prog 114 #[.slice va acc.length vc,.string ⟨a.1.toArray⟩] W fun e w'=>e = .returned (.bool (hasA acc a.1)) ∧ W = w'):=Lib.hid (fun W h=>by
        have:=has_any acc (.slice va acc.length vc) ⟨a.1.toArray⟩ W h (by omega)
        rwa [bts_mk] at this)
       cases hh : hasA acc a.1 with
       | true=>
        have HE:=Lib.hid (attrs_none2 (f:=f) (acc:=acc) (l:=(bts s).drop p) (by rw [← hb,hd2];exact hg1) (by rw [← hb,hd2];exact hg2) (by rw [← hb];omega) (by rw [← hb,hd2];exact ha) hh)
        rw [hh] at HHS
        have hpn : ¬ ((p3 : Int) < 0):=by omega
        clear hb hp2 hd2 hb1 hg1 hg2 ha hh hj hp3
        go_wp2_with fail
        refine (HBK.out _).mono ?_
        rintro e w3 ⟨rfl,rfl⟩
        go_wp2_with fail
        refine (HG1.out _).mono ?_
        rintro e w3 ⟨rfl,rfl⟩
        go_wp2_with fail
        refine (HG2.out _).mono ?_
        rintro e w3 ⟨rfl,rfl⟩
        go_wp2_with fail
        refine (HAT.out _).mono ?_
        rintro e w3 ⟨hb3,rfl⟩
        have HK43:=Lib.hid ((HK4.out.below hb3).alloc (.cells #[.string ⟨a.1.toArray⟩,.string ⟨a.2.toArray⟩] 82))
        have HK73:=Lib.hid ((HK7.out.below hb3).alloc (.cells #[.string ⟨a.1.toArray⟩,.string ⟨a.2.toArray⟩] 82))
        have HB3:=Lib.hid (al (th HB.out (Nat.le_refl _) hb3) (Nat.le_refl _) (.cells #[.string ⟨a.1.toArray⟩,.string ⟨a.2.toArray⟩] 82))
        have HAR:=Lib.hid (((AtRow.of_own HO.out).below hb3 (Nat.le_refl _)).below ((Below.refl _ w3).alloc (Nat.le_refl _) (.cells #[.string ⟨a.1.toArray⟩,.string ⟨a.2.toArray⟩] 82)) (Nat.le_refl _))
        have HBX:=Lib.hid (Box2.new 82 ⟨a.1.toArray⟩ ⟨a.2.toArray⟩ w3)
        clear hb3
        obtain ⟨_,_,_,a3,_,_,_,_,b3,_⟩:=HK73.out.at
        obtain ⟨x0,x1,_,_⟩:=HBX.out.at
        go_wp2_with fail
        refine (HHS.out _ HAR.out).mono ?_
        rintro e w4 ⟨rfl,rfl⟩
        obtain ⟨c0,c1,c2,c3,c4,f0,f1,f2,f3,f4⟩:=HK43.out.at
        go_wp2
        (try simp only [Exit.inBlock,Exit.then])
        refine ret_cell rfl rfl (HK43.out.set _ _ _ _ _) Tryz.underlying73 rfl (by kernel_rfl) rfl ?_
        exact ⟨set5_below HB3.out (Nat.le_refl _) _ _ _ _ _,.inr ⟨open_fail HA.out HR.out HE.out,rfl⟩⟩
       | false=>
        have HE:=Lib.hid (attrs_go (f:=f) (acc:=acc) (l:=(bts s).drop p) (by rw [← hb,hd2];exact hg1) (by rw [← hb,hd2];exact hg2) (by rw [← hb];omega) (by rw [← hb,hd2];exact ha) hh)
        rw [← hb,hd2,List.drop_drop,← hp3] at HE
        have HP3:=Lib.hid hp3
        have h3s : p3 ≤ s.size:=by omega
        have hp3p : p < p3:=by omega
        have HRN : Hid (RES = (attrsA f (acc ++ [a]) ((bts s).drop p3)).map (fun x=>(x.1,x.2.1,p3 - e1 + x.2.2))):=Lib.hid (by
         rw [HR.out,HE.out,Option.map_map]
         congr 1
         funext x
         simp only [Function.comp]
         have : p - e1 + (b + j + x.2.2) = p3 - e1 + x.2.2:=by omega
         rw [this])
        rw [hh] at HHS
        have hpn : ¬ ((p3 : Int) < 0):=by omega
        have HIA:=Lib.hid infoA
        clear hb hp2 hd2 hb1 hg1 hg2 ha hh hj hp3
        go_wp2_with fail
        refine (HBK.out _).mono ?_
        rintro e w3 ⟨rfl,rfl⟩
        go_wp2_with fail
        refine (HG1.out _).mono ?_
        rintro e w3 ⟨rfl,rfl⟩
        go_wp2_with fail
        refine (HG2.out _).mono ?_
        rintro e w3 ⟨rfl,rfl⟩
        go_wp2_with fail
        refine (HAT.out _).mono ?_
        rintro e w3 ⟨hb3,rfl⟩
        have HK43:=Lib.hid ((HK4.out.below hb3).alloc (.cells #[.string ⟨a.1.toArray⟩,.string ⟨a.2.toArray⟩] 82))
        have HK73:=Lib.hid ((HK7.out.below hb3).alloc (.cells #[.string ⟨a.1.toArray⟩,.string ⟨a.2.toArray⟩] 82))
        have HB3:=Lib.hid (al (th HB.out (Nat.le_refl _) hb3) (Nat.le_refl _) (.cells #[.string ⟨a.1.toArray⟩,.string ⟨a.2.toArray⟩] 82))
        have HO3:=Lib.hid ((ownBelow HO.out hb3).alloc (.cells #[.string ⟨a.1.toArray⟩,.string ⟨a.2.toArray⟩] 82))
        have HAR:=Lib.hid (AtRow.of_own HO3.out)
        have HBX:=Lib.hid (Box2.new 82 ⟨a.1.toArray⟩ ⟨a.2.toArray⟩ w3)
        have HS3 : Hid (w2.heap.size + 1 ≤ w3.heap.size):=Lib.hid (by have:=HSZ.out;have:=hb3.size;omega)
        clear hb3
        obtain ⟨_,_,_,a3,_,_,_,_,b3,_⟩:=HK73.out.at
        obtain ⟨x0,x1,_,_⟩:=HBX.out.at
        go_wp2_with fail
        refine (HHS.out _ HAR.out).mono ?_
        rintro e w4 ⟨rfl,rfl⟩
        obtain ⟨i0,hi,hz0,hz1,hz2⟩:=info_parts HIA.out
        have HN2:=Lib.hid (cell_two_new (w3.alloc (.cells #[.string ⟨a.1.toArray⟩,.string ⟨a.2.toArray⟩] 82)) (.string ⟨a.1.toArray⟩) (.string ⟨a.2.toArray⟩) 82)
        rw [show (w3.alloc (.cells #[.string ⟨a.1.toArray⟩,.string ⟨a.2.toArray⟩] 82)).heap.size = w3.heap.size + 1 by simp] at HN2
        go_wp2_with (at_builtin;go_loud (refine wpList_append_own _ rfl _ _ 24 rfl (w2.heap.size + 1) 82 i0 (.agg #[.string ⟨#[]⟩,.string ⟨#[]⟩]) 2 32 Tryz.underlying24 hi hz0 hz1 hz2 rfl (by decide) _ _ _ rfl (HO3.out.alloc _) ⟨w3.heap.size + 1,0,none⟩ 1 1 [.string ⟨a.1.toArray⟩,.string ⟨a.2.toArray⟩] rfl rfl HN2.out (by simp [Value.oneCell']) (by unfold maxLen;omega) (by omega) (by have:=HS3.out;simp;omega) ?_);intro v5 w5 hown5 hgrow5 _;obtain ⟨va5,vc5,rfl⟩:=own_slice hown5;have hK75:=Box5.grown (HK73.out.alloc (.cells #[.string ⟨a.1.toArray⟩,.string ⟨a.2.toArray⟩] 82)) hgrow5 (fun k e=>by have:=(HO3.out.lt k e).1;omega);have hK45:=Box5.grown (HK43.out.alloc (.cells #[.string ⟨a.1.toArray⟩,.string ⟨a.2.toArray⟩] 82)) hgrow5 (fun k e=>by have:=(HO3.out.lt k e).1;have:=HNE.out;omega);have hB5:=Below.grown (al HB3.out (Nat.le_refl _) (.cells #[.string ⟨a.1.toArray⟩,.string ⟨a.2.toArray⟩] 82)) hgrow5 (by have:=HB3.out.size;simp at this ⊢;omega) (fun k e=>by have:=(HO3.out.lt k e).1;have:=HNE.out;omega);have hS5:=hgrow5.size;have HK75:=Lib.hid hK75;have HK45:=Lib.hid hK45;have HB5:=Lib.hid hB5;have HO5:=Lib.hid hown5;have HS5:=Lib.hid hS5;clear hgrow5 hK75 hK45 hB5 hown5 hS5;obtain ⟨_,_,_,a5,_,_,_,_,b5,_⟩:=HK75.out.at)
        refine ⟨⟨p3,f,acc ++ [a],.slice va5 (acc.length + 1) vc5,by omega,h3s,by omega,rfl,by simp;omega,HRN,?_,?_,?_,?_,?_⟩,by show s.size + 1 - ((p3 : Int)).toNat < s.size + 1 - ((p : Int)).toNat;omega⟩
        ·exact Lib.hid (HB5.out.setCell (p:=⟨w2.heap.size,3,none⟩) (Nat.le_of_lt HNE.out) _)
        ·exact Lib.hid (HK45.out.other (c:=⟨w2.heap.size,3,none⟩) (Nat.ne_of_lt HNE.out) _)
        ·exact Lib.hid (HK75.out.setV _)
        ·refine Lib.hid ?_
         rw [List.length_append,List.length_singleton,show attrCells (acc ++ [a]) = attrCells acc ++ [.string ⟨a.1.toArray⟩,.string ⟨a.2.toArray⟩] by unfold attrCells;rw [List.flatMap_append];rfl]
         exact ownsRow_setCell_below HO5.out (a:=⟨w2.heap.size,3,none⟩) (Nat.lt_succ_self _) _
        ·refine Lib.hid ?_
         have h1:=HS5.out
         have h2:=HS3.out
         simp at h1 ⊢
         omega
theorem beg_c {s x : ByteArray} {k : Nat} {b : Bool} (hk : k ≤ s.size) (hs : s.size ≤ 100000) (hx : x.size ≤ 100) (h : begL (bts x) ((bts s).drop k) = b) : BegC s k x b:=by
 intro W;have:=begins_any s k x W hk hs hx;rwa [h] at this
theorem find_c {s x : ByteArray} {k : Nat} {b : Int} (hk : k ≤ s.size) (hs : s.size ≤ 100000) (hx : x.size ≤ 100) (h : foundZ k (findL (bts x) ((bts s).drop k)) = b) : FindC s k x b:=by
 intro W;have:=find_any s k x W hk hs hx;rwa [h] at this
set_option maxHeartbeats 4000000 in
set_option maxRecDepth 10000 in
theorem pieceDec_any (s : ByteArray) (w : World) (hk : 0 < s.size) (hs : s.size ≤ 100000) (h : begL sXml (bts s) = true) :
  Calls Tryz.prog 33 #[.string s,.int .i64 0] w fun e w'=>PiecePost 0 (pieceL true (bts s)) w e w':=by
 have HP:=Lib.hid (pc_dec (f:=true) rfl h)
 have HX : Hid (BegC s 0 ⟨#[60,63,120,109,108]⟩ true):=Lib.hid (beg_c (k:=0) (by omega) hs (by decide) h)
 cases h1 : begL sDec1 (bts s) with
 | true=>
  have H1 : Hid (BegC s 0 ⟨sDec1.toArray⟩ true):=Lib.hid (beg_c (k:=0) (by omega) hs (by decide) h1)
  have HA : Hid (pieceL true (bts s) = some (⟨1,[],[],[],false⟩,21)):=Lib.hid (by rw [HP.out];unfold decL;rw [if_pos h1])
  simp only [sDec1] at H1
  clear h1 h
  go_enter Tryz.func33,Tryz.ntmps33
  go_wp2_with fail
  refine (HX.out _).mono ?_
  rintro e w2 ⟨rfl,rfl⟩
  go_wp2_with fail
  refine (H1.out _).mono ?_
  rintro e w2 ⟨rfl,rfl⟩
  go_wp2
  (try simp only [Exit.inBlock,Exit.then])
  refine ret_cell rfl rfl (Box5.made _ _ _ _ _) Tryz.underlying73 rfl (by kernel_rfl) rfl ?_
  exact ⟨(Below.refl _ w).alloc (Nat.le_refl _) _,.inl ⟨_,_,.slice none 0 0,HA.out,rfl,World.ownsRow_nil _ _ _ _⟩⟩
 | false=>
  have H1 : Hid (BegC s 0 ⟨sDec1.toArray⟩ false):=Lib.hid (beg_c (k:=0) (by omega) hs (by decide) h1)
  simp only [sDec1] at H1
  cases h2 : begL sDec2 (bts s) with
  | true=>
   have H2 : Hid (BegC s 0 ⟨sDec2.toArray⟩ true):=Lib.hid (beg_c (k:=0) (by omega) hs (by decide) h2)
   have HA : Hid (pieceL true (bts s) = some (⟨1,[],sUtf,[],false⟩,38)):=Lib.hid (by rw [HP.out];unfold decL;rw [if_neg (by rw [h1];simp),if_pos h2])
   simp only [sDec2] at H2
   clear h1 h h2
   go_enter Tryz.func33,Tryz.ntmps33
   go_wp2_with fail
   refine (HX.out _).mono ?_
   rintro e w2 ⟨rfl,rfl⟩
   go_wp2_with fail
   refine (H1.out _).mono ?_
   rintro e w2 ⟨rfl,rfl⟩
   go_wp2_with fail
   refine (H2.out _).mono ?_
   rintro e w2 ⟨rfl,rfl⟩
   go_wp2
   (try simp only [Exit.inBlock,Exit.then])
   refine ret_cell rfl rfl (Box5.made _ _ _ _ _) Tryz.underlying73 rfl (by kernel_rfl) rfl ?_
   exact ⟨(Below.refl _ w).alloc (Nat.le_refl _) _,.inl ⟨_,_,.slice none 0 0,HA.out,rfl,World.ownsRow_nil _ _ _ _⟩⟩
  | false=>
   have H2 : Hid (BegC s 0 ⟨sDec2.toArray⟩ false):=Lib.hid (beg_c (k:=0) (by omega) hs (by decide) h2)
   have HA : Hid (pieceL true (bts s) = none):=Lib.hid (by rw [HP.out];unfold decL;rw [if_neg (by rw [h1];simp),if_neg (by rw [h2];simp)])
   simp only [sDec2] at H2
   clear h1 h h2
   go_enter Tryz.func33,Tryz.ntmps33
   go_wp2_with fail
   refine (HX.out _).mono ?_
   rintro e w2 ⟨rfl,rfl⟩
   go_wp2_with fail
   refine (H1.out _).mono ?_
   rintro e w2 ⟨rfl,rfl⟩
   go_wp2_with fail
   refine (H2.out _).mono ?_
   rintro e w2 ⟨rfl,rfl⟩
   go_wp2
   (try simp only [Exit.inBlock,Exit.then])
   refine ret_cell rfl rfl (Box5.made _ _ _ _ _) Tryz.underlying73 rfl (by kernel_rfl) rfl ?_
   exact ⟨(Below.refl _ w).alloc (Nat.le_refl _) _,.inr ⟨HA.out,rfl⟩⟩
set_option maxHeartbeats 4000000 in
set_option maxRecDepth 10000 in
theorem pieceCom_any (s : ByteArray) (k : Nat) (w : World) (hk : k < s.size) (hs : s.size ≤ 100000) (h0 : ¬ ((k == 0) = true ∧ begL sXml ((bts s).drop k) = true)) (h1 : begL sCom ((bts s).drop k) = true) :
  Calls Tryz.prog 33 #[.string s,.int .i64 k] w fun e w'=>PiecePost k (pieceL (k == 0) ((bts s).drop k)) w e w':=by
 have hl:=bts_len s
 have HP:=Lib.hid (pc_com h0 h1)
 have hk4 : k + 4 ≤ s.size:=by
  have:=begL_len h1
  rw [List.length_drop,hl] at this
  simp [sCom] at this
  omega
 have HX : k = 0 → Hid (BegC s 0 ⟨#[60,63,120,109,108]⟩ false):=fun e=>Lib.hid (by
  subst e
  exact beg_c (k:=0) (by omega) hs (by decide) (by cases hb : begL sXml (bts s) with | false=>exact hb | true=>exact absurd ⟨rfl,hb⟩ h0))
 have HC : Hid (BegC s k ⟨#[60,33,45,45]⟩ true):=Lib.hid (beg_c (by omega) hs (by decide) h1)
 have hd4 : ((bts s).drop k).drop 4 = (bts s).drop (k + 4):=by rw [List.drop_drop]
 cases hf : findL [45,45] ((bts s).drop (k + 4)) with
 | none=>
  have HF : Hid (FindC s ((k : Int) + 4) ⟨#[45,45]⟩ (-1)):=Lib.hid (find_c (k:=k + 4) hk4 hs (by decide) (by rw [show bts ⟨#[45,45]⟩ = [45,45] from rfl,hf];rfl))
  have HA : Hid (pieceL (k == 0) ((bts s).drop k) = none):=Lib.hid (by rw [HP.out,com_none (by rw [hd4];exact hf)])
  clear h0 h1 hf hd4
  go_enter Tryz.func33,Tryz.ntmps33
  cases hkb : ((k : Int) == 0)
  case' true=>
   have HX:=HX (by simpa using hkb)
   go_wp2_with fail
   refine (HX.out _).mono ?_
   rintro e w2 ⟨rfl,rfl⟩
   go_wp2_with fail
  case' false=>go_wp2_with fail
  all_goals
   refine (HC.out _).mono ?_
   rintro e w2 ⟨rfl,rfl⟩
   go_wp2_with fail
   refine (HF.out _).mono ?_
   rintro e w2 ⟨rfl,rfl⟩
   go_wp2
   (try simp only [Exit.inBlock,Exit.then])
   refine ret_cell rfl rfl (Box5.made _ _ _ _ _) Tryz.underlying73 rfl (by kernel_rfl) rfl ?_
   exact ⟨(Below.refl _ w).alloc (Nat.le_refl _) _,.inr ⟨HA.out,rfl⟩⟩
 | some e=>
  have hel:=findL_len hf
  rw [List.length_drop,hl] at hel
  simp only [List.length_cons,List.length_nil] at hel
  obtain ⟨E,hE⟩ : ∃ E,E = k + 4 + e:=⟨_,rfl⟩
  have hEs : E < s.size:=by omega
  have hkE : k + 4 ≤ E:=by omega
  have hkE2 : (k : Int) + 4 ≤ E:=by omega
  have HF : Hid (FindC s ((k : Int) + 4) ⟨#[45,45]⟩ E):=Lib.hid (find_c (k:=k + 4) hk4 hs (by decide) (by rw [show bts ⟨#[45,45]⟩ = [45,45] from rfl,hf,hE];rfl))
  have hdE : (((bts s).drop k).drop 4).drop e = (bts s).drop E:=by rw [hd4,List.drop_drop,hE]
  cases hg : begL [45,45,62] ((bts s).drop E) with
  | false=>
   have HA : Hid (pieceL (k == 0) ((bts s).drop k) = none):=Lib.hid (by rw [HP.out,com_not (by rw [hd4];exact hf) (by rw [hdE];exact hg)])
   have HG : Hid (BegC s E ⟨#[45,45,62]⟩ false):=Lib.hid (beg_c (Nat.le_of_lt hEs) hs (by decide) hg)
   clear h0 h1 hf hd4 hE hdE hg hel
   go_enter Tryz.func33,Tryz.ntmps33
   cases hkb : ((k : Int) == 0)
   case' true=>
    have HX:=HX (by simpa using hkb)
    go_wp2_with fail
    refine (HX.out _).mono ?_
    rintro e w2 ⟨rfl,rfl⟩
    go_wp2_with fail
   case' false=>go_wp2_with fail
   all_goals
    refine (HC.out _).mono ?_
    rintro e w2 ⟨rfl,rfl⟩
    go_wp2_with fail
    refine (HF.out _).mono ?_
    rintro e w2 ⟨rfl,rfl⟩
    go_wp2_with fail
    refine (HG.out _).mono ?_
    rintro e w2 ⟨rfl,rfl⟩
    go_wp2
    (try simp only [Exit.inBlock,Exit.then])
    refine ret_cell rfl rfl (Box5.made _ _ _ _ _) Tryz.underlying73 rfl (by kernel_rfl) rfl ?_
    exact ⟨(Below.refl _ w).alloc (Nat.le_refl _) _,.inr ⟨HA.out,rfl⟩⟩
  | true=>
   have HA : Hid (pieceL (k == 0) ((bts s).drop k) = some (⟨5,[],bts (s.extract (k + 4) E),[],false⟩,e + 7)):=Lib.hid (by
    rw [HP.out,com_ok (by rw [hd4];exact hf) (by rw [hdE];exact hg),hd4,bts_extract,List.take_drop,hE])
   have HG : Hid (BegC s E ⟨#[45,45,62]⟩ true):=Lib.hid (beg_c (Nat.le_of_lt hEs) hs (by decide) hg)
   have HI : Hid (((k + (e + 7) : Nat) : Int) = (E : Int) + 3):=Lib.hid (by omega)
   clear h0 h1 hf hd4 hE hdE hg hel
   go_enter Tryz.func33,Tryz.ntmps33
   cases hkb : ((k : Int) == 0)
   case' true=>
    have HX:=HX (by simpa using hkb)
    go_wp2_with fail
    refine (HX.out _).mono ?_
    rintro e w2 ⟨rfl,rfl⟩
    go_wp2_with fail
   case' false=>go_wp2_with fail
   all_goals
    refine (HC.out _).mono ?_
    rintro e w2 ⟨rfl,rfl⟩
    go_wp2_with fail
    refine (HF.out _).mono ?_
    rintro e w2 ⟨rfl,rfl⟩
    go_wp2_with fail
    refine (HG.out _).mono ?_
    rintro e w2 ⟨rfl,rfl⟩
    go_wp2
    (try simp only [Exit.inBlock,Exit.then])
    refine ret_cell rfl rfl (Box5.made _ _ _ _ _) Tryz.underlying73 rfl (by kernel_rfl) rfl ?_
    refine ⟨(Below.refl _ w).alloc (Nat.le_refl _) _,.inl ⟨_,_,.slice none 0 0,HA.out,?_,World.ownsRow_nil _ _ _ _⟩⟩
    unfold tokCells
    simp only [mk_bts,HI.out]
    rfl
end Go.Proofs.YtjldpkhfiffinaaGreatDoor.U
