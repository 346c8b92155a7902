/- Contracts and plain facts that the law stands on: Q21. -/
import Derived.Test.YtjldpkhfiffinaaGreatDoorZC15
import Derived.Test.YtjldpkhfiffinaaGreatDoorZC18
import Derived.Test.YtjldpkhfiffinaaGreatDoorZC19
import Derived.Test.YtjldpkhfiffinaaGreatDoorZC02
namespace Go.Proofs.YtjldpkhfiffinaaGreatDoor.U
open Go.RowKit Go.Shelf
set_option maxHeartbeats 4000000 in
theorem escape_big (v : Bool) (s : ByteArray) (w : World) (hl : Lay w) (hs : s.size ≤ 2000000) :
  Calls Tryz.prog 27 #[.string s,.bool v] w fun e w'=>e = .returned (.tuple #[.string ⟨(escP v (bts s)).1.toArray⟩,.int .i64 (escP v (bts s)).2]) ∧ Below w.heap.size w w':=by
 by_cases hw : wholeB (bts s) = true
 ·have he : chkE (ints (bts s)) = 0:=by
   have:=(wholeB_iff _).1 hw
   unfold Whole at this
   unfold chkE
   rw [if_neg (by rw [this,ints_len];omega)]
  have hp : escP v (bts s) = (escL v (bts s),0):=by unfold escP;rw [if_pos hw]
  rw [hp]
  have hrun:=((wholeB_iff _).1 hw).runes
  have hall:=runes_all (ints (bts s))
  have hesc : escL v (bts s) = (runesC (ints (bts s))).flatMap (escR v):=by
   conv=>lhs;rw [encodes_of hall hrun]
   exact esc_runes v hall
  rw [hesc]
  have hlen : (runesC (ints (bts s))).length ≤ s.size:=by
   have:=runes_len' (ints (bts s))
   rw [ints_len,bts_len] at this
   exact this
  generalize hrs : runesC (ints (bts s)) = rs at hrun hall hlen
  clear hrs hesc hp hw
  have HRUN:=Lib.hid hrun
  have HALL:=Lib.hid hall
  have HLEN:=Lib.hid hlen
  have HL:=Lib.hid hl
  have HS:=Lib.hid hs
  clear hrun hall hlen hl hs
  go_enter Tryz.func27,Tryz.ntmps27
  go_wp2_with fail
  refine (ncheck_any s _ HL.out (by have:=HS.out;omega)).mono ?_
  rintro e w1 ⟨rfl,hb1⟩
  rw [he]
  have HB1:=Lib.hid hb1
  have hsz1:=hb1.size
  clear hb1 he
  go_wp2
  go_loopw [] (fun wr=>∃ (pos : Nat) (rest : List Int) (acc : List UInt8),Lib.IsBuilderF 99 5 w1.heap.size w1.heap.size (Lib.byteCells acc) wr ∧ wr.heap[w1.heap.size + 1]? = some (.stringIter s pos) ∧ Below w1.heap.size w1 wr ∧ rest.all isC = true ∧ ints ((bts s).drop pos) = rest.flatMap encC ∧ acc ++ rest.flatMap (escR v) = rs.flatMap (escR v) ∧ acc.length ≤ 6 * pos) (fun wr=>s.size - wr.iterPos (w1.heap.size + 1))
  case atStart=>
   refine ⟨0,rs,[],(Lib.IsBuilderF.of (Lib.fresh_isBuilder 99 5 w1)).alloc _,?_,((Below.refl _ w1).alloc (Nat.le_refl _) _).alloc (by simp) _,HALL.out,HRUN.out,rfl,by simp⟩
   have:=World.iter_heap (w1.alloc (.cells #[.pointer none,.slice none 0 0] 99)) s 0
   simpa using this
  case round=>
   obtain ⟨pos,rest,acc,hI,hit,hbw,hra,hrest,hacc,hal⟩:=hrel
   have hsz : w1.heap.size + 1 < wr.heap.size:=(Array.getElem?_eq_some_iff.1 hit).1
   have HRA:=Lib.hid hra
   have HREST:=Lib.hid hrest
   have HACC:=Lib.hid hacc
   have HBW:=Lib.hid hbw
   clear hra hrest hacc hbw
   cases rest with
   | cons r rest=>
    have hrc : isC r = true:=by have:=HRA.out;simp only [List.all_cons,Bool.and_eq_true] at this;exact this.1
    have hrc2 : rest.all isC = true:=by have:=HRA.out;simp only [List.all_cons,Bool.and_eq_true] at this;exact this.2
    obtain ⟨hdec,hple⟩:=dec_link s pos r (rest.flatMap encC) hrc (by rw [HREST.out,List.flatMap_cons])
    have hsc : 1 ≤ sizeC r ∧ sizeC r ≤ 4:=by unfold sizeC;repeat' split
                                             all_goals omega
    have hp : pos < s.size:=by omega
    have hrest2 : ints ((bts s).drop (pos + sizeC r)) = rest.flatMap encC:=by
     rw [← List.drop_drop,ints_drop,HREST.out,List.flatMap_cons,List.drop_append_of_le_length (by rw [encC_len];omega),List.drop_of_length_le (by rw [encC_len];omega),List.nil_append]
    have hrb:=isC_bounds hrc
    have hnx : ∀ ty,(Instr.next (.pointer (some ⟨w1.heap.size + 1,0,none⟩)) true ty).run Tryz.prog wr = .ok (.tuple #[.bool true,.int .i64 pos,.int .i32 r]) (wr.iterAt (w1.heap.size + 1) s (pos + sizeC r)):=by
     intro ty
     rw [Lib.run_next_any_at wr (w1.heap.size + 1) s pos ty hit hp,hdec]
     have : ((r.toNat : Nat) : Int) = r:=by omega
     simp only [this]
    have hI2:=hI.iterAt hit (pos + sizeC r)
    have hit2:=Lib.iterAt_heap wr (w1.heap.size + 1) s pos (pos + sizeC r) hit
    have hbw2:=Lib.below_iterAt HBW.out (k:=w1.heap.size + 1) (by omega) s (pos + sizeC r)
    have hsz2 : (wr.iterAt (w1.heap.size + 1) s (pos + sizeC r)).heap.size = wr.heap.size:=Lib.iterAt_size ..
    have HSC:=Lib.hid hsc
    have HPLE:=Lib.hid hple
    have HREST2:=Lib.hid hrest2
    have HRC:=Lib.hid hrc
    have HRC2:=Lib.hid hrc2
    have HI2:=Lib.hid hI2
    have HIT2:=Lib.hid hit2
    have HBW2:=Lib.hid hbw2
    have HSZ2:=Lib.hid hsz2
    have HRB:=Lib.hid hrb
    have HAL:=Lib.hid hal
    have HIT:=Lib.hid hit
    clear hsc hple hrest2 hrc hrc2 hI2 hit2 hbw2 hsz2 hrb hdec hI hit hal
    go_wp2_with fail
    refine (escaped_any v r _).mono ?_
    rintro e w2 ⟨rfl,hb2⟩
    have HIT3 : Hid (w2.heap[w1.heap.size + 1]? = some (.stringIter s (pos + sizeC r))):=Lib.hid ((hb2.block _ (by rw [HSZ2.out];exact hsz)).trans HIT2.out)
    have HI3 : Hid (Lib.IsBuilderF 99 5 w1.heap.size w1.heap.size (Lib.byteCells acc) w2):=Lib.hid (bld_below HI2.out hb2)
    have HB3 : Hid (Below w1.heap.size w1 w2):=Lib.hid (HBW2.out.trans (hb2.mono (by rw [HSZ2.out];omega)))
    have hsz3 : w1.heap.size ≤ w2.heap.size:=HB3.out.size
    have HACL : Hid (acc.length ≤ 6 * s.size):=Lib.hid (by have:=HAL.out;omega)
    clear hb2
    by_cases hesc : escT v r = []
    ·have hE : escR v r = Lib.encodeRune r:=by unfold escR;rw [if_pos hesc]
     have HE:=Lib.hid hE
     rw [hesc]
     clear hE hesc
     go_wp2_with fail
     refine (writeRune_any w1.heap.size w1.heap.size (Lib.byteCells acc) r (by have:=HRB.out;omega) (by have:=HRB.out;omega) _ HI3.out (by rw [Lib.byteCells_length];have:=HACL.out;have:=HS.out;omega) hsz3).mono ?_
     rintro e w3 ⟨rfl,h1,b1,k1⟩
     go_wp2
     go_roundw
     case rel=>
      refine ⟨pos + sizeC r,rest,acc ++ Lib.encodeRune r,?_,k1.iter HIT3.out (by omega),HB3.out.trans b1,HRC2.out,HREST2.out,?_,?_⟩
      ·rw [Lib.byteCells_append,Lib.byteCells_encodeRune];exact Or.inr h1
      ·rw [← HACC.out,List.flatMap_cons,HE.out,List.append_assoc]
      ·rw [List.length_append,encode_len HRC.out];have:=HAL.out;have:=HSC.out;omega
     case measure=>
      simp only [World.iterPos,k1.iter HIT3.out (by omega),HIT.out]
      have:=HPLE.out;have:=HSC.out;omega
    ·have hE : escR v r = escT v r:=by unfold escR;rw [if_neg hesc]
     have HE:=Lib.hid hE
     have hne : (escT v r).isEmpty = false:=List.isEmpty_eq_false_iff.2 hesc
     have HLT : Hid ((escT v r).length ≤ 6):=Lib.hid (escT_len v r)
     clear hE hesc
     go_wp2_with fail
     refine (writeString_any w1.heap.size w1.heap.size (Lib.byteCells acc) ⟨(escT v r).toArray⟩ _ HI3.out (by rw [Lib.byteCells_length];have:=HACL.out;have:=HS.out;have:=HLT.out;rw [str_size];omega) hsz3).mono ?_
     rintro e w3 ⟨rfl,h1,b1,k1⟩
     go_wp2
     go_roundw
     case rel=>
      refine ⟨pos + sizeC r,rest,acc ++ escT v r,?_,k1.iter HIT3.out (by omega),HB3.out.trans b1,HRC2.out,HREST2.out,?_,?_⟩
      ·rw [Lib.byteCells_append,← bytes_str];exact Or.inr h1
      ·rw [← HACC.out,List.flatMap_cons,HE.out,List.append_assoc]
      ·rw [List.length_append];have:=HAL.out;have:=HSC.out;have:=HLT.out;omega
     case measure=>
      simp only [World.iterPos,k1.iter HIT3.out (by omega),HIT.out]
      have:=HPLE.out;have:=HSC.out;omega
   | nil=>
    have hp : ¬ pos < s.size:=by
     intro h
     have h1:=HREST.out
     rw [bts_drop s pos h] at h1
     cases h1
    have hnx : ∀ ty,(Instr.next (.pointer (some ⟨w1.heap.size + 1,0,none⟩)) true ty).run Tryz.prog wr = _:=fun ty=>Lib.run_next_end_at wr (w1.heap.size + 1) s pos ty hit hp
    go_wp2_with fail
    refine (S.Builder_String_any_k w1.heap.size w1.heap.size acc _ hI (by omega)).mono ?_
    rintro e w3 ⟨rfl,_,b1,_⟩
    go_wp2
    go_ret2
    have h1:=HACC.out
    rw [List.flatMap_nil,List.append_nil] at h1
    exact ⟨by rw [h1];rfl,HB1.out.trans ((HBW.out.trans b1).mono hsz1)⟩
 ·have he : chkE (ints (bts s)) = 10:=by
   have : ¬ Whole (bts s):=fun h=>hw ((wholeB_iff _).2 h)
   unfold Whole at this
   have h2:=chkC_le (ints (bts s))
   unfold chkE
   rw [if_pos (by rw [ints_len] at h2 ⊢;omega)]
  have hp : escP v (bts s) = ([],10):=by unfold escP;rw [if_neg hw]
  rw [hp]
  go_enter Tryz.func27,Tryz.ntmps27
  go_wp2_with fail
  refine (ncheck_any s _ hl (by omega)).mono ?_
  rintro e w1 ⟨rfl,hb1⟩
  rw [he]
  go_wp2
  go_ret2
  exact ⟨rfl,hb1⟩
theorem contains_w {s x : ByteArray} (w : World) (hm : Mx w) (hs : s.size ≤ 4000000) {r : Bool} (hr : (findL (bts x) (bts s)).isSome = r) :
  Calls Tryz.prog 134 #[.string s,.string x] w fun e w'=>e = .returned (.bool r) ∧ w = w':=by
 obtain ⟨m,hm⟩:=hm
 refine (S.strings_Contains s x m w (by omega) hm).mono ?_
 rintro e w' ⟨rfl,rfl⟩
 refine ⟨?_,rfl⟩
 rw [← hr,← contains_find]
 rfl
set_option maxHeartbeats 1000000 in
theorem wclose_any (n : List UInt8) (w : World) (hn : n.length ≤ 2000000) :
  Calls Tryz.prog 119 #[.string ⟨n.toArray⟩] w fun e w'=>Below w.heap.size w w' ∧ ((nameL n = true ∧ e = .returned (.tuple #[.string ⟨([60,47] ++ n ++ [62]).toArray⟩,.int .i64 0])) ∨ (nameL n = false ∧ e = .returned (.tuple #[.string ⟨#[]⟩,.int .i64 11]))):=by
 have HI:=Lib.hid (isName_any ⟨n.toArray⟩ w)
 rw [bts_mk] at HI
 have hs : (⟨n.toArray⟩ : ByteArray).size ≤ 2000000:=by rw [← bts_len,bts_mk];exact hn
 have HC : Hid ((⟨#[60,47]⟩ : ByteArray) ++ ⟨n.toArray⟩ ++ ⟨#[62]⟩ = ⟨([60,47] ++ n ++ [62]).toArray⟩):=Lib.hid (bts_inj (by rw [bts_append,bts_append,bts_mk,bts_mk];rfl))
 generalize (⟨n.toArray⟩ : ByteArray) = y at HI HC hs ⊢
 generalize (⟨([60,47] ++ n ++ [62]).toArray⟩ : ByteArray) = Z at HC ⊢
 cases hq : nameL n with
 | true=>
  rw [hq] at HI
  clear hq
  go_enter Tryz.func119,Tryz.ntmps119
  go_wp2_with fail
  refine HI.out.mono ?_
  rintro e w2 ⟨rfl,hb⟩
  go_wp2
  go_ret2
  refine ⟨hb,.inl ⟨trivial,?_⟩⟩
  rw [← HC.out]
  rfl
 | false=>
  rw [hq] at HI
  clear hq
  go_enter Tryz.func119,Tryz.ntmps119
  go_wp2_with fail
  refine HI.out.mono ?_
  rintro e w2 ⟨rfl,hb⟩
  go_wp2
  go_ret2
  exact ⟨hb,.inr ⟨trivial,rfl⟩⟩
def declT (first : Bool) (x : List UInt8) : List UInt8 × Int:=if first = true ∧ x = [] then (sDec1,0) else if first = true ∧ x = sUtf then (sDec2,0) else ([],1)
set_option maxHeartbeats 1000000 in
theorem wdecl_any (first : Bool) (x : List UInt8) (w : World) :
  Calls Tryz.prog 117 #[.string ⟨x.toArray⟩,.bool first] w fun e w'=>e = .returned (.tuple #[.string ⟨(declT first x).1.toArray⟩,.int .i64 (declT first x).2]) ∧ w = w':=by
 obtain ⟨y,hy⟩ : ∃ y : ByteArray,y = ⟨x.toArray⟩:=⟨_,rfl⟩
 have hby : bts y = x:=by rw [hy,bts_mk]
 rw [← hy]
 have hl : y.toList = x:=by rw [ByteArray.toList_eq];exact hby
 cases first with
 | false=>
  have HD : Hid (declT false x = ([],1)):=Lib.hid (by simp [declT])
  rw [HD.out]
  clear hy hby hl
  go_enter Tryz.func117,Tryz.ntmps117
  go_wp2
  go_ret2
  exact ⟨rfl,rfl⟩
 | true=>
  by_cases h0 : x = []
  ·have HD : Hid (declT true x = (sDec1,0)):=Lib.hid (by simp [declT,h0])
   rw [HD.out]
   have h1 : y.toList.isEmpty = true:=by rw [hl,h0];rfl
   clear hy hby hl h0
   go_enter Tryz.func117,Tryz.ntmps117
   go_wp2
   go_ret2
   exact ⟨rfl,rfl⟩
  ·have h1 : y.toList.isEmpty = false:=by rw [hl];cases x with | nil=>exact absurd rfl h0 | cons a t=>rfl
   by_cases h2 : x = sUtf
   ·have HD : Hid (declT true x = (sDec2,0)):=Lib.hid (by unfold declT;rw [if_neg (fun e=>h0 e.2),if_pos ⟨rfl,h2⟩])
    rw [HD.out]
    have h3 : (y.toList == [85,84,70,45,56]) = true:=by rw [hl,h2];rfl
    clear hy hby hl h0 h2
    go_enter Tryz.func117,Tryz.ntmps117
    go_wp2
    go_ret2
    exact ⟨rfl,rfl⟩
   ·have HD : Hid (declT true x = ([],1)):=Lib.hid (by simp [declT,h0,h2])
    rw [HD.out]
    have h3 : (y.toList == [85,84,70,45,56]) = false:=by rw [hl,beq_eq_false_iff_ne];exact h2
    clear hy hby hl h0 h2
    go_enter Tryz.func117,Tryz.ntmps117
    go_wp2
    go_ret2
    exact ⟨rfl,rfl⟩
def comOK (x : List UInt8) : Bool:=wholeB x && decide (findL [45,45] x = none) && !x.contains 13 && decide (x.getLast? ≠ some 45)
theorem find13 (x : List UInt8) : (findL [13] x).isSome = x.contains 13:=by
 cases h : findL [13] x with
 | some e=>
  have hs:=find_split h
  symm
  simp only [Option.isSome_some,List.contains_iff_mem]
  rw [hs]
  simp
 | none=>
  symm
  simp only [Option.isSome_none]
  rw [← Bool.not_eq_true,List.contains_iff_mem]
  intro hm
  obtain ⟨p,r,rfl⟩:=List.append_of_mem hm
  have h1:=findL_none h p.length (by simp)
  rw [List.drop_left] at h1
  cases h1
theorem suffix45 (x : List UInt8) : Lib.hasSuffix x [45] = decide (x.getLast? = some 45):=by
 unfold Lib.hasSuffix
 rw [Bool.eq_iff_iff,List.isSuffixOf_iff_suffix,decide_eq_true_iff]
 constructor
 ·rintro ⟨p,rfl⟩;simp
 ·intro h
  obtain ⟨ys,rfl⟩:=List.getLast?_eq_some_iff.1 h
  exact ⟨ys,rfl⟩
set_option maxHeartbeats 2000000 in
set_option maxRecDepth 10000 in
theorem wcomment_any (x : List UInt8) (w : World) (hm : LayT w) (hx : x.length ≤ 2000000) :
  Calls Tryz.prog 120 #[.string ⟨x.toArray⟩] w fun e w'=>Below w.heap.size w w' ∧ ((comOK x = true ∧ e = .returned (.tuple #[.string ⟨(sCom ++ x ++ [45,45,62]).toArray⟩,.int .i64 0])) ∨ (comOK x = false ∧ ∃ z,(z != 0) = true ∧ e = .returned (.tuple #[.string ⟨#[]⟩,.int .i64 z]))):=by
 obtain ⟨y,hy⟩ : ∃ y : ByteArray,y = ⟨x.toArray⟩:=⟨_,rfl⟩
 have hby : bts y = x:=by rw [hy,bts_mk]
 have hys : y.size ≤ 2000000:=by rw [← bts_len,hby];exact hx
 rw [← hy]
 have hcv:=conv_any w y
 have HB:=Lib.hid (bytes_below w y)
 have HM:=Lib.hid (hm.below HB.out hm.size)
 have HZ:=Lib.hid (bytes_byt w y (by omega))
 rw [hby] at HZ
 have HC : Hid ((⟨#[60,33,45,45]⟩ : ByteArray) ++ y ++ ⟨#[45,45,62]⟩ = ⟨(sCom ++ x ++ [45,45,62]).toArray⟩):=Lib.hid (bts_inj (by rw [bts_append,bts_append,hby,bts_mk];rfl))
 generalize Lib.bytesWorld w 5 y = w1 at hcv HB HZ HM
 have HCK:=Lib.hid (check_any _ _ _ _ w1 HM.out.lay.lay HZ.out)
 by_cases hw : wholeB x = true
 ·have hE : chkE (ints x) = 0:=by
   unfold chkE
   rw [if_neg]
   simp [wholeB] at hw
   rw [ints_len];omega
  rw [hE] at HCK
  have HD1 : Hid (∀ W,LayT W → Calls Tryz.prog 134 #[.string y,.string ⟨#[45,45]⟩] W fun e w'=>e = .returned (.bool (findL [45,45] x).isSome) ∧ W = w'):=Lib.hid (fun W k=>contains_w (s:=y) (x:=⟨#[45,45]⟩) W k.mx (by omega) (by rw [hby];rfl))
  have HD2 : Hid (∀ W,LayT W → Calls Tryz.prog 134 #[.string y,.string ⟨#[13]⟩] W fun e w'=>e = .returned (.bool (x.contains 13)) ∧ W = w'):=Lib.hid (fun W k=>contains_w (s:=y) (x:=⟨#[13]⟩) W k.mx (by omega) (by rw [hby,← find13];rfl))
  have HD3 : Hid (∀ W,Calls Tryz.prog 145 #[.string y,.string ⟨#[45]⟩] W fun e w'=>e = .returned (.bool (decide (x.getLast? = some 45))) ∧ W = w'):=Lib.hid (fun W=>(S.strings_HasSuffix y ⟨#[45]⟩ W (by omega)).mono (by
   rintro e w' ⟨h1,h2⟩
   refine ⟨?_,h2.symm⟩
   rw [h1,← suffix45,← hby]
   rfl))
  have hok : comOK x = (!(findL [45,45] x).isSome && !x.contains 13 && !decide (x.getLast? = some 45)):=by
   unfold comOK
   rw [hw,Bool.true_and]
   cases findL [45,45] x <;> simp
  rw [hok]
  clear hok hy hby hx hw hE hm
  generalize (findL [45,45] x).isSome = q1 at HD1 ⊢
  generalize x.contains 13 = q2 at HD2 ⊢
  generalize decide (x.getLast? = some 45) = q3 at HD3 ⊢
  go_enter Tryz.func120,Tryz.ntmps120
  go_wp2_with fail
  refine HCK.out.mono ?_
  rintro e w2 ⟨rfl,hb2⟩
  have HM2:=Lib.hid (HM.out.below hb2 HM.out.size)
  have HB2:=Lib.hid (th HB.out (Nat.le_refl _) hb2)
  clear hb2 hcv
  go_wp2_with fail
  refine (HD1.out _ HM2.out).mono ?_
  rintro e w3 ⟨rfl,rfl⟩
  cases q1 with
  | true=>
   go_wp2
   go_ret2
   exact ⟨HB2.out,.inr ⟨by simp,12,rfl,rfl⟩⟩
  | false=>
   go_wp2_with fail
   refine (HD2.out _ HM2.out).mono ?_
   rintro e w3 ⟨rfl,rfl⟩
   cases q2 with
   | true=>
    go_wp2
    go_ret2
    exact ⟨HB2.out,.inr ⟨by simp,12,rfl,rfl⟩⟩
   | false=>
    go_wp2_with fail
    refine (HD3.out _).mono ?_
    rintro e w3 ⟨rfl,rfl⟩
    cases q3 with
    | true=>
     go_wp2
     go_ret2
     exact ⟨HB2.out,.inr ⟨by simp,12,rfl,rfl⟩⟩
    | false=>
     go_wp2
     go_ret2
     refine ⟨HB2.out,.inl ⟨by simp,?_⟩⟩
     rw [← HC.out]
     rfl
 ·have hE : chkE (ints x) = 10:=by
   unfold chkE
   rw [if_pos]
   have:=chkC_le (ints x)
   simp [wholeB] at hw
   rw [ints_len] at this ⊢;omega
  have HO : Hid (comOK x = false):=Lib.hid (by unfold comOK;simp [hw])
  rw [hE] at HCK
  clear hy hby hx hw hE hm
  go_enter Tryz.func120,Tryz.ntmps120
  go_wp2_with fail
  refine HCK.out.mono ?_
  rintro e w2 ⟨rfl,hb2⟩
  have HB2:=Lib.hid (th HB.out (Nat.le_refl _) hb2)
  clear hb2 hcv
  go_wp2
  go_ret2
  exact ⟨HB2.out,.inr ⟨HO.out,10,rfl,rfl⟩⟩
def namesOK (n : List UInt8) (l : List (List UInt8 × List UInt8)) : Bool:=nameL n && l.all (fun a=>nameL a.1) && !dupA [] l
theorem all_take_succ {l : List (List UInt8 × List UInt8)} {k : Nat} (h : k < l.length) : (l.take (k + 1)).all (fun a=>nameL a.1) = ((l.take k).all (fun a=>nameL a.1) && nameL l[k].1):=by
 rw [List.take_succ_eq_append_getElem h,List.all_append];simp
set_option maxHeartbeats 2000000 in
set_option maxRecDepth 10000 in
theorem checkNames_any (ki : Int) (n x : List UInt8) (em : Bool) (l : List (List UInt8 × List UInt8)) (a : Option Addr) (cap : Nat) (w : World) (hv : AtRow w (.slice a l.length cap) l.length 2 (attrCells l)) (hl : l.length ≤ 2000000) (hn : ∀ a ∈ l,a.1.length ≤ 2000000) :
  Calls Tryz.prog 144 #[.agg #[.int .i64 ki,.string ⟨n.toArray⟩,.string ⟨x.toArray⟩,.slice a l.length cap,.bool em]] w fun e w'=>Below w.heap.size w w' ∧ ((namesOK n l = true ∧ e = .returned (.int .i64 0)) ∨ (namesOK n l = false ∧ ∃ z,(z != 0) = true ∧ e = .returned (.int .i64 z))):=by
 obtain ⟨w0,hw0⟩ : ∃ w0,w0 = w.alloc (.cells #[.int .i64 ki,.string ⟨n.toArray⟩,.string ⟨x.toArray⟩,.slice a l.length cap,.bool em] 119):=⟨_,rfl⟩
 have hB0 : Below w.heap.size w w0:=by rw [hw0];exact (Below.refl _ w).alloc (Nat.le_refl _) _
 have hK0 : BoxK w.heap.size ki ⟨n.toArray⟩ ⟨x.toArray⟩ (.slice a l.length cap) em w0:=by rw [hw0];exact BoxK.made _ _ _ _ _ _
 have HR:=Lib.hid (hv.below hB0 (Nat.le_refl _))
 have HB0:=Lib.hid hB0
 have HI : Hid (∀ W,Calls Tryz.prog 28 #[.string ⟨n.toArray⟩] W fun e w'=>e = .returned (.bool (nameL n)) ∧ Below W.heap.size W w'):=Lib.hid (fun W=>by
  have:=isName_any ⟨n.toArray⟩ W
  rwa [bts_mk] at this)
 obtain ⟨a',cap',hav,hc,_,hx⟩:=hv
 injection hav with e1 e2 e3
 subst e1 e3
 obtain ⟨g,off,hag,hcell⟩ : ∃ g off,(0 < l.length → a = some ⟨g,off,none⟩) ∧ ∀ j u,(attrCells l)[j]? = some u → w0.cell? ⟨g,off + j,none⟩ = some u:=by
  by_cases h0 : 0 < l.length
  ·obtain ⟨g,off,h1,h2⟩:=hx h0
   exact ⟨g,off,fun _=>h1,fun j u hu=>(hB0.cell (block_lt_of_cell (h2 j u hu))).trans (h2 j u hu)⟩
  ·refine ⟨0,0,fun h=>absurd h h0,fun j u hu=>?_⟩
   have : (attrCells l).length = 0:=by rw [attrCells_len];omega
   rw [List.eq_nil_of_length_eq_zero this] at hu
   cases hu
 have HAG:=Lib.hid hag
 have HC:=Lib.hid hcell
 have HNL:=Lib.hid hn
 have HTW:=Lib.hid (fun W (hb : Below w0.heap.size w0 W)=>twice_any l (.slice a l.length cap) W (HR.out.below hb (Nat.le_refl _)) hl hn)
 have HK0:=Lib.hid hK0
 clear hx hag hcell hn hB0 hK0
 cases hq : nameL n with
 | false=>
  rw [hq] at HI
  have HA : Hid (namesOK n l = false):=Lib.hid (by unfold namesOK;rw [hq];rfl)
  clear hq
  subst hw0
  obtain ⟨c0,c1,c2,c3,c4,_⟩:=HK0.out.at
  go_enter Tryz.func144,Tryz.ntmps144
  go_wp2_with fail
  refine (HI.out _).mono ?_
  rintro e w2 ⟨rfl,hb⟩
  have HB2:=Lib.hid (th HB0.out (Nat.le_refl _) hb)
  clear hb
  go_wp2
  go_ret
  exact ⟨HB2.out,.inr ⟨HA.out,11,rfl,rfl⟩⟩
 | true=>
  rw [hq] at HI
  have HQ:=Lib.hid hq
  have HW0:=Lib.hid hw0
  clear hq
  obtain ⟨c0,c1,c2,c3,c4,_⟩:=HK0.out.at
  rw [hw0] at c0 c1 c2 c3 c4
  clear hw0
  go_enter Tryz.func144,Tryz.ntmps144
  go_wp2_with fail
  rw [← HW0.out]
  refine (HI.out _).mono ?_
  rintro e w2 ⟨rfl,hb⟩
  have HB2:=Lib.hid hb
  have HK2:=Lib.hid (HK0.out.below hb)
  clear hb c0 c1 c2 c3 c4
  obtain ⟨c0,c1,c2,c3,c4,_⟩:=HK2.out.at
  go_wp2_with fail
  clear c0 c1 c2 c3 c4
  go_loopw [12] (fun i wr=>∃ k : Nat,k ≤ l.length ∧ i = .int .i64 k ∧ Hid (Below w0.heap.size w0 wr) ∧ Hid ((l.take k).all (fun a=>nameL a.1) = true)) (fun i _=>l.length - (intOf i).toNat)
  case atStart=>exact ⟨0,by omega,rfl,HB2,Lib.hid rfl⟩
  case round=>
   obtain ⟨k,hk,rfl,HB,HA⟩:=hrel
   by_cases hlt : k < l.length
   ·obtain rfl:=HAG.out (by omega)
    have q1:=HC.out _ _ (attrCells_get l k hlt).1
    have q2:=HC.out _ _ (attrCells_get l k hlt).2
    have up : ∀ {p : Addr} {u : Value},w0.cell? p = some u → wr.cell? p = some u:=fun h=>(HB.out.cell (block_lt_of_cell h)).trans h
    have d1:=up q1
    have d2 : wr.cell? ⟨g,off + k * 2 + 1,none⟩ = some (.string ⟨(l[k]'hlt).2.toArray⟩):=up q2
    have HIK : Hid (∀ W,Calls Tryz.prog 28 #[.string ⟨(l[k]'hlt).1.toArray⟩] W fun e w'=>e = .returned (.bool (nameL (l[k]'hlt).1)) ∧ Below W.heap.size W w'):=Lib.hid (fun W=>by
     have:=isName_any ⟨(l[k]'hlt).1.toArray⟩ W
     rwa [bts_mk] at this)
    have HTS:=Lib.hid (all_take_succ hlt)
    have HMEM : Hid (nameL (l[k]'hlt).1 = false → namesOK n l = false):=Lib.hid (fun e=>by
     unfold namesOK
     have : l.all (fun a=>nameL a.1) = false:=by
      rw [← Bool.not_eq_true,List.all_eq_true]
      intro h2
      have:=h2 _ (List.getElem_mem hlt)
      rw [e] at this;cases this
     rw [this];simp)
    have hi0 : (0 : Int) ≤ k:=by omega
    have hi1 : (k : Int) < l.length:=by omega
    clear q1 q2 up
    generalize (l[k]'hlt).1 = x1 at d1 HIK HTS HMEM
    generalize (l[k]'hlt).2 = x2 at d2
    cases hq : nameL x1 with
    | true=>
     rw [hq] at HIK
     have HNX : Hid ((l.take (k + 1)).all (fun a=>nameL a.1) = true):=Lib.hid (by rw [HTS.out,HA.out,hq];rfl)
     clear hq
     go_wp2_with fail
     refine (HIK.out _).mono ?_
     rintro e w3 ⟨rfl,hb3⟩
     have HB3:=Lib.hid (th (al HB.out (Nat.le_refl _) (.cells #[.string ⟨x1.toArray⟩,.string ⟨x2.toArray⟩] 82)) (Nat.le_refl _) hb3)
     clear hb3
     go_wp2
     exact ⟨⟨k + 1,by omega,by go_num,HB3,HNX⟩,by simp [intOf];omega⟩
    | false=>
     rw [hq] at HIK
     have HNO:=Lib.hid (HMEM.out hq)
     clear hq
     go_wp2_with fail
     refine (HIK.out _).mono ?_
     rintro e w3 ⟨rfl,hb3⟩
     have HB3:=Lib.hid (th (al HB.out (Nat.le_refl _) (.cells #[.string ⟨x1.toArray⟩,.string ⟨x2.toArray⟩] 82)) (Nat.le_refl _) hb3)
     clear hb3
     go_wp2
     go_ret
     exact ⟨HB0.out.trans (HB3.out.mono HB0.out.size),.inr ⟨HNO.out,11,rfl,rfl⟩⟩
   ·obtain rfl : k = l.length:=by omega
    have HAL : Hid (namesOK n l = !dupA [] l):=Lib.hid (by
     have:=HA.out
     rw [List.take_of_length_le (by omega)] at this
     unfold namesOK
     rw [HQ.out,this];rfl)
    have HK3:=Lib.hid (HK0.out.below HB.out)
    obtain ⟨c0,c1,c2,c3,c4,_⟩:=HK3.out.at
    cases hd : dupA [] l with
    | true=>
     rw [hd] at HAL HTW
     clear hd
     go_wp2_with fail
     refine (HTW.out _ HB.out).mono ?_
     rintro e w3 ⟨rfl,hb3⟩
     have HB3:=Lib.hid (th HB.out (Nat.le_refl _) hb3)
     clear hb3
     go_wp2
     go_ret
     exact ⟨HB0.out.trans (HB3.out.mono HB0.out.size),.inr ⟨HAL.out,15,rfl,rfl⟩⟩
    | false=>
     rw [hd] at HAL HTW
     clear hd
     go_wp2_with fail
     refine (HTW.out _ HB.out).mono ?_
     rintro e w3 ⟨rfl,hb3⟩
     have HB3:=Lib.hid (th HB.out (Nat.le_refl _) hb3)
     clear hb3
     go_wp2
     go_ret
     exact ⟨HB0.out.trans (HB3.out.mono HB0.out.size),.inl ⟨HAL.out,rfl⟩⟩
def sumA (l : List (List UInt8 × List UInt8)) : Nat:=(l.map fun a=>a.1.length + a.2.length).sum
theorem sumA_mem {l : List (List UInt8 × List UInt8)} {a : List UInt8 × List UInt8} (h : a ∈ l) : a.1.length + a.2.length ≤ sumA l:=by
 unfold sumA
 induction l with
 | nil=>cases h
 | cons c t ih=>
  simp only [List.map_cons,List.sum_cons]
  rcases List.mem_cons.1 h with rfl | h
  ·omega
  ·have:=ih h;omega
theorem flat_attr_len : ∀ l : List (List UInt8 × List UInt8),(l.flatMap attrT).length ≤ 4 * l.length + 6 * sumA l:=by
 intro l
 induction l with
 | nil=>simp
 | cons c t ih=>
  have h1:=attrT_len c
  have h2:=(escL_len true c.2).2
  unfold sumA at *
  simp only [List.flatMap_cons,List.length_append,List.length_cons,List.map_cons,List.sum_cons]
  omega
theorem take_mul (l : List (List UInt8 × List UInt8)) (k : Nat) : sumA (l.take k) ≤ sumA l:=by
 unfold sumA
 conv=>rhs;rw [← List.take_append_drop k l]
 rw [List.map_append,List.sum_append];omega
def openOK (n : List UInt8) (l : List (List UInt8 × List UInt8)) : Bool:=namesOK n l && l.all (fun a=>wholeB a.2)
theorem allw_take {l : List (List UInt8 × List UInt8)} {k : Nat} (h : k < l.length) : (l.take (k + 1)).all (fun a=>wholeB a.2) = ((l.take k).all (fun a=>wholeB a.2) && wholeB l[k].2):=by
 rw [List.take_succ_eq_append_getElem h,List.all_append];simp
theorem flat_take {l : List (List UInt8 × List UInt8)} {k : Nat} (h : k < l.length) : (l.take (k + 1)).flatMap attrT = (l.take k).flatMap attrT ++ attrT l[k]:=by
 rw [List.take_succ_eq_append_getElem h,List.flatMap_append];simp
theorem str_size2 (l : List UInt8) : (⟨l.toArray⟩ : ByteArray).size = l.length:=by rw [← bts_len,bts_mk]
theorem attr_str (x y : List UInt8) : (⟨#[32]⟩ : ByteArray) ++ ⟨x.toArray⟩ ++ ⟨#[61,34]⟩ ++ ⟨(escL true y).toArray⟩ ++ ⟨#[34]⟩ = ⟨(attrT (x,y)).toArray⟩:=bts_inj (by
 rw [bts_mk (attrT (x,y)),bts_append,bts_append,bts_append,bts_append,bts_mk x,bts_mk (escL true y)]
 unfold attrT
 show [32] ++ x ++ [61,34] ++ escL true y ++ [34] = _
 simp)
set_option maxHeartbeats 4000000 in
set_option maxRecDepth 20000 in
theorem wopen_any (ki : Int) (n x : List UInt8) (em : Bool) (l : List (List UInt8 × List UInt8)) (a : Option Addr) (cap : Nat) (w : World) (hm : LayT w) (hv : AtRow w (.slice a l.length cap) l.length 2 (attrCells l)) (hl : l.length ≤ 2000000) (hn : n.length ≤ 2000000) (hsum : sumA l ≤ 2000000) :
  Calls Tryz.prog 118 #[.agg #[.int .i64 ki,.string ⟨n.toArray⟩,.string ⟨x.toArray⟩,.slice a l.length cap,.bool em]] w fun e w'=>Below w.heap.size w w' ∧ ((openOK n l = true ∧ e = .returned (.tuple #[.string ⟨([60] ++ n ++ l.flatMap attrT ++ (if em = true then [47,62] else [62])).toArray⟩,.int .i64 0])) ∨ (openOK n l = false ∧ ∃ z,(z != 0) = true ∧ e = .returned (.tuple #[.string ⟨#[]⟩,.int .i64 z]))):=by
 have hnm : ∀ a ∈ l,a.1.length ≤ 2000000:=fun a ha=>by have:=sumA_mem ha;omega
 have hvm : ∀ a ∈ l,a.2.length ≤ 2000000:=fun a ha=>by have:=sumA_mem ha;omega
 obtain ⟨w0,hw0⟩ : ∃ w0,w0 = w.alloc (.cells #[.int .i64 ki,.string ⟨n.toArray⟩,.string ⟨x.toArray⟩,.slice a l.length cap,.bool em] 119):=⟨_,rfl⟩
 have hB0 : Below w.heap.size w w0:=by rw [hw0];exact (Below.refl _ w).alloc (Nat.le_refl _) _
 have hK0 : BoxK w.heap.size ki ⟨n.toArray⟩ ⟨x.toArray⟩ (.slice a l.length cap) em w0:=by rw [hw0];exact BoxK.made _ _ _ _ _ _
 have hR:=hv.below hB0 (Nat.le_refl _)
 have HCN:=Lib.hid (checkNames_any ki n x em l a cap w0 hR hl hnm)
 have HM0:=Lib.hid (hm.below hB0 hm.size)
 have HB0:=Lib.hid hB0
 obtain ⟨a',cap',hav,hc,_,hx⟩:=hv
 injection hav with e1 e2 e3
 subst e1 e3
 obtain ⟨g,off,hag,hcell⟩ : ∃ g off,(0 < l.length → a = some ⟨g,off,none⟩) ∧ ∀ j u,(attrCells l)[j]? = some u → w0.cell? ⟨g,off + j,none⟩ = some u:=by
  by_cases h0 : 0 < l.length
  ·obtain ⟨g,off,h1,h2⟩:=hx h0
   exact ⟨g,off,fun _=>h1,fun j u hu=>(hB0.cell (block_lt_of_cell (h2 j u hu))).trans (h2 j u hu)⟩
  ·refine ⟨0,0,fun h=>absurd h h0,fun j u hu=>?_⟩
   have : (attrCells l).length = 0:=by rw [attrCells_len];omega
   rw [List.eq_nil_of_length_eq_zero this] at hu
   cases hu
 have HAG:=Lib.hid hag
 have HC:=Lib.hid hcell
 have HVM:=Lib.hid hvm
 have HNM:=Lib.hid hnm
 have HK0:=Lib.hid hK0
 have HSUM:=Lib.hid hsum
 have HNL : Hid (n.length ≤ 2000000):=Lib.hid hn
 have hys : (⟨n.toArray⟩ : ByteArray).size ≤ 2000000:=by rw [str_size2];exact hn
 have HST : Hid ((⟨#[60]⟩ : ByteArray) ++ ⟨n.toArray⟩ = ⟨([60] ++ n).toArray⟩):=Lib.hid (bts_inj (by rw [bts_append,bts_mk,bts_mk];rfl))
 obtain ⟨c0,c1,c2,c3,c4,_⟩:=hK0.at
 rw [hw0] at c0 c1 c2 c3 c4
 have HW0:=Lib.hid hw0
 clear hx hag hcell hvm hnm hB0 hK0 hR hm hw0
 obtain ⟨Z,hZ⟩ : ∃ Z : ByteArray,Z = ⟨([60] ++ n ++ l.flatMap attrT ++ (if em = true then [47,62] else [62])).toArray⟩:=⟨_,rfl⟩
 rw [← hZ]
 have HZZ:=Lib.hid hZ
 clear hZ
 go_enter Tryz.func118,Tryz.ntmps118
 go_wp2_with fail
 rw [← HW0.out]
 refine HCN.out.mono ?_
 rintro e w2 ⟨hb2,(⟨hok,rfl⟩ | ⟨hno,z,hz,rfl⟩)⟩
 ·have HB2:=Lib.hid hb2
  have HM2:=Lib.hid (HM0.out.below hb2 HM0.out.size)
  have HK2:=Lib.hid (HK0.out.below hb2)
  have HOK:=Lib.hid hok
  clear hb2 hok c0 c1 c2 c3 c4
  obtain ⟨w3,hw3⟩ : ∃ w3,w3 = w2.alloc (.cells #[.pointer none,.slice none 0 0] 99):=⟨_,rfl⟩
  obtain ⟨b,hb⟩ : ∃ b,b = w2.heap.size:=⟨_,rfl⟩
  have HBL : Hid (Lib.IsBuilderF 99 5 b b (Lib.byteCells []) w3):=Lib.hid (by rw [hw3,hb];exact Lib.IsBuilderF.of (Lib.fresh_isBuilder 99 5 w2))
  have hB3 : Below w2.heap.size w2 w3:=by rw [hw3];exact (Below.refl _ w2).alloc (Nat.le_refl _) _
  have HB3:=Lib.hid (th HB2.out (Nat.le_refl _) hB3)
  have HM3:=Lib.hid (HM2.out.below hB3 HM2.out.size)
  have HK3:=Lib.hid (HK2.out.below hB3)
  have HBS : Hid (b < w3.heap.size):=Lib.hid (by rw [hw3,hb];simp)
  have HGB : Hid (w0.heap.size ≤ b):=Lib.hid (by rw [hb];exact HB2.out.size)
  have HKL : Hid (w.heap.size < w0.heap.size):=Lib.hid HK0.out.lt
  obtain ⟨c0,c1,c2,c3,c4,_⟩:=HK3.out.at
  rw [hw3] at c0 c1 c2 c3 c4
  have HW3:=Lib.hid hw3
  have HBE:=Lib.hid hb
  clear hB3 hw3 hb
  go_wp2_with fail
  rw [← HW3.out,HST.out,← HBE.out]
  clear c0 c1 c2 c3 c4
  have hle : (Lib.byteCells []).length + (⟨([60] ++ n).toArray⟩ : ByteArray).size ≤ 140737488355328:=by
   rw [str_size2,Lib.byteCells_length]
   have:=HNL.out
   simp only [List.length_append,List.length_cons,List.length_nil]
   omega
  have HWS:=Lib.hid (writeString_any b b (Lib.byteCells []) ⟨([60] ++ n).toArray⟩ w3 HBL.out hle (Nat.le_of_lt HBS.out))
  clear hle
  refine HWS.out.mono ?_
  rintro e w4 ⟨rfl,h4,b4,k4⟩
  have HI4 : Hid (Lib.IsBuilderF 99 5 b b (Lib.byteCells ([60] ++ n)) w4):=Lib.hid (.inr (by
   have:=h4
   rw [bytes_str,← Lib.byteCells_append,List.nil_append] at this
   exact this))
  have HB4 : Hid (Below b w3 w4):=Lib.hid b4
  have HS4 : Hid (w3.heap.size ≤ w4.heap.size):=Lib.hid b4.size
  clear h4 b4 k4
  have HK4 : Hid (BoxK w.heap.size ki ⟨n.toArray⟩ ⟨x.toArray⟩ (.slice a l.length cap) em w4):=Lib.hid ((HB4.out.block w.heap.size (by have:=HKL.out;have:=HGB.out;omega)).trans HK3.out)
  have HA4 : Hid (Below w0.heap.size w0 w4):=Lib.hid (HB3.out.trans (HB4.out.mono HGB.out))
  have HBS4 : Hid (b < w4.heap.size):=Lib.hid (by have:=HBS.out;have:=HS4.out;omega)
  obtain ⟨c0,c1,c2,c3,c4,_⟩:=HK4.out.at
  go_wp2_with fail
  clear c0 c1 c2 c3 c4
  go_loopw [22] (fun i wr=>∃ k : Nat,k ≤ l.length ∧ i = .int .i64 k ∧ Hid (Lib.IsBuilderF 99 5 b b (Lib.byteCells ([60] ++ n ++ (l.take k).flatMap attrT)) wr) ∧ Hid (Below w0.heap.size w0 wr) ∧ Hid (Below b w3 wr) ∧ Hid (b < wr.heap.size) ∧ Hid ((l.take k).all (fun a=>wholeB a.2) = true)) (fun i _=>l.length - (intOf i).toNat)
  case atStart=>exact ⟨0,by omega,rfl,Lib.hid (by rw [List.take_zero,List.flatMap_nil,List.append_nil];exact HI4.out),HA4,HB4,HBS4,Lib.hid rfl⟩
  case round=>
   obtain ⟨k,hk,rfl,HI,HB,HBb,HBS5,HA⟩:=hrel
   have HKR : Hid (BoxK w.heap.size ki ⟨n.toArray⟩ ⟨x.toArray⟩ (.slice a l.length cap) em wr):=Lib.hid ((HBb.out.block w.heap.size (by have:=HKL.out;have:=HGB.out;omega)).trans HK3.out)
   by_cases hlt : k < l.length
   ·obtain rfl:=HAG.out (by omega)
    have q1:=HC.out _ _ (attrCells_get l k hlt).1
    have q2:=HC.out _ _ (attrCells_get l k hlt).2
    have up : ∀ {p : Addr} {u : Value},w0.cell? p = some u → wr.cell? p = some u:=fun h=>(HB.out.cell (block_lt_of_cell h)).trans h
    have d1:=up q1
    have d2 : wr.cell? ⟨g,off + k * 2 + 1,none⟩ = some (.string ⟨(l[k]'hlt).2.toArray⟩):=up q2
    have HFT:=Lib.hid (flat_take hlt)
    have HTS:=Lib.hid (allw_take hlt)
    have HFL:=Lib.hid (flat_attr_len (l.take k))
    have HTM:=Lib.hid (take_mul l k)
    have HV2:=Lib.hid (HVM.out _ (List.getElem_mem hlt))
    have HN1:=Lib.hid (HNM.out _ (List.getElem_mem hlt))
    have HMEM : Hid (wholeB (l[k]'hlt).2 = false → openOK n l = false):=Lib.hid (fun e=>by
     unfold openOK
     have : l.all (fun a=>wholeB a.2) = false:=by
      rw [← Bool.not_eq_true,List.all_eq_true]
      intro h2
      have:=h2 _ (List.getElem_mem hlt)
      rw [e] at this;cases this
     rw [this];simp)
    have hi0 : (0 : Int) ≤ k:=by omega
    have hi1 : (k : Int) < l.length:=by omega
    have HLT : Hid ((l.take k).length ≤ 2000000):=Lib.hid (by rw [List.length_take];omega)
    clear q1 q2 up
    rw [show l[k] = ((l[k]'hlt).1,(l[k]'hlt).2) from rfl] at HFT
    generalize (l[k]'hlt).1 = x1 at d1 HFT HN1
    generalize (l[k]'hlt).2 = x2 at d2 HFT HTS HMEM HV2
    obtain ⟨w5,hw5⟩ : ∃ w5,w5 = wr.alloc (.cells #[.string ⟨x1.toArray⟩,.string ⟨x2.toArray⟩] 82):=⟨_,rfl⟩
    have hB5 : Below wr.heap.size wr w5:=by rw [hw5];exact (Below.refl _ wr).alloc (Nat.le_refl _) _
    have HB5:=Lib.hid (th HB.out (Nat.le_refl _) hB5)
    have HBb5:=Lib.hid (HBb.out.trans (hB5.mono (Nat.le_of_lt HBS5.out)))
    have HM5:=Lib.hid (HM0.out.below HB5.out HM0.out.size)
    have HI5:=Lib.hid (bld_below HI.out hB5)
    have HX5 : Hid (Box2 82 wr.heap.size ⟨x1.toArray⟩ ⟨x2.toArray⟩ w5):=Lib.hid (by rw [hw5];exact Box2.new _ _ _ _)
    have HBW5 : Hid (b < w5.heap.size):=Lib.hid (by have:=HBS5.out;have:=hB5.size;omega)
    have HES:=Lib.hid (escape_big true ⟨x2.toArray⟩ w5 HM5.out.lay.lay (by rw [str_size2];exact HV2.out))
    rw [bts_mk] at HES
    have HW5:=Lib.hid hw5
    clear hB5
    cases hq : wholeB x2 with
    | true=>
     have hep : escP true x2 = (escL true x2,0):=by unfold escP;rw [if_pos hq]
     rw [hep] at HES
     have HNX : Hid ((l.take (k + 1)).all (fun a=>wholeB a.2) = true):=Lib.hid (by rw [HTS.out,HA.out,hq];rfl)
     have HST5:=Lib.hid (attr_str x1 x2)
     have HAL : Hid ((attrT (x1,x2)).length ≤ 20000000):=Lib.hid (by
      have h1:=attrT_len (x1,x2)
      have h2:=(escL_len true x2).2
      have h3:=HV2.out
      have h4:=HN1.out
      simp only at h1
      omega)
     have hx1l:=HN1.out
     have hx2l : (escL true x2).length ≤ 12000000:=by have h2:=(escL_len true x2).2;have h3:=HV2.out;omega
     have hz1 : (⟨x1.toArray⟩ : ByteArray).size ≤ 2000000:=by rw [str_size2];exact HN1.out
     have hz2 : (⟨(escL true x2).toArray⟩ : ByteArray).size ≤ 12000000:=by rw [str_size2];have h2:=(escL_len true x2).2;have h3:=HV2.out;omega
     clear hq hep hw5
     go_wp2_with fail
     rw [← HW5.out]
     refine HES.out.mono ?_
     rintro e w6 ⟨rfl,hb6⟩
     have HI6:=Lib.hid (bld_below HI5.out hb6)
     have HX6:=Lib.hid (HX5.out.below hb6)
     have HB6:=Lib.hid (th HB5.out (Nat.le_refl _) hb6)
     have HBb6:=Lib.hid (HBb5.out.trans (hb6.mono (Nat.le_of_lt HBW5.out)))
     have HBW6 : Hid (b < w6.heap.size):=Lib.hid (by have:=HBW5.out;have:=hb6.size;omega)
     clear hb6
     obtain ⟨e0,e1,_,_⟩:=HX6.out.at
     go_wp2_with fail
     rw [HST5.out]
     have hle : (Lib.byteCells ([60] ++ n ++ (l.take k).flatMap attrT)).length + (⟨(attrT (x1,x2)).toArray⟩ : ByteArray).size ≤ 140737488355328:=by
      rw [str_size2,Lib.byteCells_length]
      have h1:=HNL.out
      have h2:=HFL.out
      have h3:=HTM.out
      have h4:=HSUM.out
      have h5:=HAL.out
      have h6:=HLT.out
      simp only [List.length_append,List.length_cons,List.length_nil]
      omega
     have HWS:=Lib.hid (writeString_any b b (Lib.byteCells ([60] ++ n ++ (l.take k).flatMap attrT)) ⟨(attrT (x1,x2)).toArray⟩ w6 HI6.out hle (Nat.le_of_lt HBW6.out))
     clear hle
     refine HWS.out.mono ?_
     rintro e w7 ⟨rfl,h7,b7,k7⟩
     have HI7 : Hid (Lib.IsBuilderF 99 5 b b (Lib.byteCells ([60] ++ n ++ (l.take (k + 1)).flatMap attrT)) w7):=Lib.hid (.inr (by
      have:=h7
      rw [bytes_str,← Lib.byteCells_append] at this
      rw [HFT.out,← List.append_assoc]
      exact this))
     have HBb7 : Hid (Below b w3 w7):=Lib.hid (HBb6.out.trans b7)
     have HB7 : Hid (Below w0.heap.size w0 w7):=Lib.hid (HB6.out.trans (b7.mono HGB.out))
     have HBW7 : Hid (b < w7.heap.size):=Lib.hid (by have:=HBW6.out;have:=b7.size;omega)
     clear h7 b7 k7 e0 e1
     go_wp2
     exact ⟨⟨k + 1,by omega,by go_num,HI7,HB7,HBb7,HBW7,HNX⟩,by simp [intOf];omega⟩
    | false=>
     have hep : escP true x2 = ([],10):=by unfold escP;rw [if_neg (by rw [hq];simp)]
     rw [hep] at HES
     have HNO:=Lib.hid (HMEM.out hq)
     clear hq hep hw5
     go_wp2_with fail
     rw [← HW5.out]
     refine HES.out.mono ?_
     rintro e w6 ⟨rfl,hb6⟩
     have HB6:=Lib.hid (th HB5.out (Nat.le_refl _) hb6)
     clear hb6
     go_wp2
     go_ret2
     exact ⟨HB0.out.trans (HB6.out.mono HB0.out.size),.inr ⟨HNO.out,10,by first | rfl | decide,rfl⟩⟩
   ·obtain rfl : k = l.length:=by omega
    have HOO : Hid (openOK n l = true):=Lib.hid (by
     have:=HA.out
     rw [List.take_of_length_le (by omega)] at this
     unfold openOK
     rw [HOK.out,this];rfl)
    have HI2 : Hid (Lib.IsBuilderF 99 5 b b (Lib.byteCells ([60] ++ n ++ l.flatMap attrT)) wr):=Lib.hid (by
     have:=HI.out
     rwa [List.take_of_length_le (by omega)] at this)
    have hzl : (⟨([60] ++ n ++ l.flatMap attrT).toArray⟩ : ByteArray).size ≤ 100000000:=by
     rw [str_size2]
     have h1:=flat_attr_len l
     have h2:=HSUM.out
     simp only [List.length_append,List.length_cons,List.length_nil]
     omega
    obtain ⟨c0,c1,c2,c3,c4,_⟩:=HKR.out.at
    cases em with
    | true=>
     have HST6 : Hid ((⟨([60] ++ n ++ l.flatMap attrT).toArray⟩ : ByteArray) ++ ⟨#[47,62]⟩ = Z):=Lib.hid (by
      rw [HZZ.out,if_pos rfl]
      exact bts_inj (by rw [bts_append,bts_mk ([60] ++ n ++ l.flatMap attrT),bts_mk ([60] ++ n ++ l.flatMap attrT ++ [47,62])];rfl))
     clear HZZ
     have HSB:=Lib.hid (S.Builder_String_any_k b b _ wr HI2.out (Nat.le_of_lt HBS5.out))
     generalize (⟨([60] ++ n ++ l.flatMap attrT).toArray⟩ : ByteArray) = Y at HST6 HSB hzl
     go_wp2_with fail
     refine HSB.out.mono ?_
     rintro e w8 ⟨rfl,_,b8,_⟩
     have HB8:=Lib.hid (HB.out.trans (b8.mono HGB.out))
     clear b8
     go_wp2
     go_ret2
     refine ⟨HB0.out.trans (HB8.out.mono HB0.out.size),.inl ⟨HOO.out,?_⟩⟩
     rw [← HST6.out]
     rfl
    | false=>
     have HST6 : Hid ((⟨([60] ++ n ++ l.flatMap attrT).toArray⟩ : ByteArray) ++ ⟨#[62]⟩ = Z):=Lib.hid (by
      rw [HZZ.out,if_neg (fun h=>Bool.noConfusion h : ¬ (false = true))]
      exact bts_inj (by rw [bts_append,bts_mk ([60] ++ n ++ l.flatMap attrT),bts_mk ([60] ++ n ++ l.flatMap attrT ++ [62])];rfl))
     clear HZZ
     have HSB:=Lib.hid (S.Builder_String_any_k b b _ wr HI2.out (Nat.le_of_lt HBS5.out))
     generalize (⟨([60] ++ n ++ l.flatMap attrT).toArray⟩ : ByteArray) = Y at HST6 HSB hzl
     go_wp2_with fail
     refine HSB.out.mono ?_
     rintro e w8 ⟨rfl,_,b8,_⟩
     have HB8:=Lib.hid (HB.out.trans (b8.mono HGB.out))
     clear b8
     go_wp2
     go_ret2
     refine ⟨HB0.out.trans (HB8.out.mono HB0.out.size),.inl ⟨HOO.out,?_⟩⟩
     rw [← HST6.out]
     rfl
 ·have HB2:=Lib.hid (th HB0.out (Nat.le_refl _) hb2)
  have HNO : Hid (openOK n l = false):=Lib.hid (by unfold openOK;rw [hno];rfl)
  clear hb2 hno c0 c1 c2 c3 c4
  have hz2 : ¬ z = 0:=by simpa using hz
  go_wp2
  go_ret2
  exact ⟨HB2.out,.inr ⟨HNO.out,z,by first | exact hz | (simpa using hz),rfl⟩⟩
theorem ok1 (f : Bool) (n x : List UInt8) (l : List (List UInt8 × List UInt8)) (em : Bool) : okT f ⟨1,n,x,l,em⟩ = (f && (decide (x = []) || decide (x = sUtf))):=rfl
theorem ok2 (f : Bool) (n x : List UInt8) (l : List (List UInt8 × List UInt8)) (em : Bool) : okT f ⟨2,n,x,l,em⟩ = openOK n l:=rfl
theorem ok3 (f : Bool) (n x : List UInt8) (l : List (List UInt8 × List UInt8)) (em : Bool) : okT f ⟨3,n,x,l,em⟩ = nameL n:=rfl
theorem ok4 (f : Bool) (n x : List UInt8) (l : List (List UInt8 × List UInt8)) (em : Bool) : okT f ⟨4,n,x,l,em⟩ = wholeB x:=rfl
theorem ok5 (f : Bool) (n x : List UInt8) (l : List (List UInt8 × List UInt8)) (em : Bool) : okT f ⟨5,n,x,l,em⟩ = comOK x:=rfl
theorem ok0 (f : Bool) (ki : Int) (n x : List UInt8) (l : List (List UInt8 × List UInt8)) (em : Bool) (h1 : ¬ ki = 1) (h2 : ¬ ki = 2) (h3 : ¬ ki = 3) (h4 : ¬ ki = 4) (h5 : ¬ ki = 5) : okT f ⟨ki,n,x,l,em⟩ = false:=by
 unfold okT;simp only;rw [if_neg h1,if_neg h2,if_neg h3,if_neg h4,if_neg h5]
theorem text2 (n x : List UInt8) (l : List (List UInt8 × List UInt8)) (em : Bool) : textT ⟨2,n,x,l,em⟩ = [60] ++ n ++ l.flatMap attrT ++ (if em = true then [47,62] else [62]):=by
 show 60 :: (n ++ l.flatMap attrT ++ (if em = true then [47,62] else [62])) = _
 simp
theorem text3 (n x : List UInt8) (l : List (List UInt8 × List UInt8)) (em : Bool) : textT ⟨3,n,x,l,em⟩ = [60,47] ++ n ++ [62]:=by
 show 60 :: 47 :: (n ++ [62]) = _
 simp
def WrQ (ok : Bool) (Y : ByteArray) (w : World) (e : Ending) (w' : World) : Prop:=
 Below w.heap.size w w' ∧ ((ok = true ∧ e = .returned (.tuple #[.string Y,.int .i64 0])) ∨ (ok = false ∧ ∃ x z,(z != 0) = true ∧ e = .returned (.tuple #[.string x,.int .i64 z])))
set_option maxHeartbeats 4000000 in
set_option maxRecDepth 10000 in
theorem written_any (t : Tok) (first : Bool) (a : Option Addr) (cap : Nat) (w : World) (hm : LayT w) (hv : AtRow w (.slice a t.attrs.length cap) t.attrs.length 2 (attrCells t.attrs)) (hl : t.attrs.length ≤ 2000000) (hn : t.name.length ≤ 2000000) (hx : t.text.length ≤ 2000000) (hsum : sumA t.attrs ≤ 2000000) :
  Calls Tryz.prog 73 #[.agg #[.int .i64 t.kind,.string ⟨t.name.toArray⟩,.string ⟨t.text.toArray⟩,.slice a t.attrs.length cap,.bool t.empty],.bool first] w fun e w'=>WrQ (okT first t) ⟨(textT t).toArray⟩ w e w':=by
 obtain ⟨ki,n,x,l,em⟩:=t
 simp only at hv hl hn hx hsum ⊢
 obtain ⟨w0,hw0⟩ : ∃ w0,w0 = w.alloc (.cells #[.int .i64 ki,.string ⟨n.toArray⟩,.string ⟨x.toArray⟩,.slice a l.length cap,.bool em] 119):=⟨_,rfl⟩
 have hB0 : Below w.heap.size w w0:=by rw [hw0];exact (Below.refl _ w).alloc (Nat.le_refl _) _
 have hK0 : BoxK w.heap.size ki ⟨n.toArray⟩ ⟨x.toArray⟩ (.slice a l.length cap) em w0:=by rw [hw0];exact BoxK.made _ _ _ _ _ _
 have hR:=hv.below hB0 (Nat.le_refl _)
 have hM0:=hm.below hB0 hm.size
 have HB0:=Lib.hid hB0
 have HW0:=Lib.hid hw0
 obtain ⟨c0,c1,c2,c3,c4,_⟩:=hK0.at
 rw [hw0] at c0 c1 c2 c3 c4
 obtain ⟨ok,hok⟩ : ∃ ok,ok = okT first ⟨ki,n,x,l,em⟩:=⟨_,rfl⟩
 obtain ⟨Y,hY⟩ : ∃ Y : ByteArray,Y = ⟨(textT ⟨ki,n,x,l,em⟩).toArray⟩:=⟨_,rfl⟩
 rw [← hok,← hY]
 by_cases h1 : ki = 1
 ·subst h1
  have hq : okT first ⟨1,n,x,l,em⟩ = true ∧ declT first x = (textT ⟨1,n,x,l,em⟩,0) ∨ okT first ⟨1,n,x,l,em⟩ = false ∧ declT first x = ([],1):=by
   rw [ok1]
   unfold declT
   show _ ∧ _ = ((if x = [] then sDec1 else sDec2),(0 : Int)) ∨ _
   by_cases hx0 : x = []
   ·subst hx0
    cases first <;> simp
   ·by_cases hx1 : x = sUtf
    ·subst hx1
     cases first <;> simp [hx0]
    ·cases first <;> simp [hx0,hx1]
  have HC : Hid (Calls Tryz.prog 117 #[.string ⟨x.toArray⟩,.bool first] w0 fun e w'=>WrQ ok Y w0 e w'):=Lib.hid ((wdecl_any first x w0).mono (by
   rintro e w' ⟨rfl,rfl⟩
   refine ⟨Below.refl _ _,?_⟩
   rw [hok,hY]
   rcases hq with ⟨h1,h2⟩ | ⟨h1,h2⟩
   ·exact .inl ⟨h1,by rw [h2]⟩
   ·exact .inr ⟨h1,_,1,rfl,by rw [h2]⟩))
  clear hq
  clear hok hY hv hm hR hM0 hw0 hB0 hK0
  go_enter Tryz.func73,Tryz.ntmps73
  go_wp2_with fail
  rw [← HW0.out]
  refine HC.out.mono ?_
  rintro e w2 ⟨hb,⟨rfl,rfl⟩ | ⟨rfl,x',z,hz,rfl⟩⟩
  ·have HB2:=Lib.hid (th HB0.out (Nat.le_refl _) hb)
   clear hb
   go_wp2
   go_ret2
   exact ⟨HB2.out,.inl ⟨rfl,rfl⟩⟩
  ·have HB2:=Lib.hid (th HB0.out (Nat.le_refl _) hb)
   clear hb
   go_wp2
   go_ret2
   exact ⟨HB2.out,.inr ⟨rfl,x',z,hz,rfl⟩⟩
 ·skip
  by_cases h2 : ki = 2
  ·subst h2
   have HC : Hid (Calls Tryz.prog 118 #[.agg #[.int .i64 2,.string ⟨n.toArray⟩,.string ⟨x.toArray⟩,.slice a l.length cap,.bool em]] w0 fun e w'=>WrQ ok Y w0 e w'):=Lib.hid ((wopen_any 2 n x em l a cap w0 hM0 hR hl hn hsum).mono (by
    rintro e w' ⟨hb,⟨h1,rfl⟩ | ⟨h1,z,hz,rfl⟩⟩
    ·exact ⟨hb,.inl ⟨by rw [hok,ok2];exact h1,by rw [hY,text2]⟩⟩
    ·exact ⟨hb,.inr ⟨by rw [hok,ok2];exact h1,_,z,hz,rfl⟩⟩))
   clear hok hY hv hm hR hM0 hw0 hB0 hK0
   go_enter Tryz.func73,Tryz.ntmps73
   go_wp2_with fail
   rw [← HW0.out]
   refine HC.out.mono ?_
   rintro e w2 ⟨hb,⟨rfl,rfl⟩ | ⟨rfl,x',z,hz,rfl⟩⟩
   ·have HB2:=Lib.hid (th HB0.out (Nat.le_refl _) hb)
    clear hb
    go_wp2
    go_ret2
    exact ⟨HB2.out,.inl ⟨rfl,rfl⟩⟩
   ·have HB2:=Lib.hid (th HB0.out (Nat.le_refl _) hb)
    clear hb
    go_wp2
    go_ret2
    exact ⟨HB2.out,.inr ⟨rfl,x',z,hz,rfl⟩⟩
  ·skip
   by_cases h3 : ki = 3
   ·subst h3
    have HC : Hid (Calls Tryz.prog 119 #[.string ⟨n.toArray⟩] w0 fun e w'=>WrQ ok Y w0 e w'):=Lib.hid ((wclose_any n w0 hn).mono (by
     rintro e w' ⟨hb,⟨h1,rfl⟩ | ⟨h1,rfl⟩⟩
     ·exact ⟨hb,.inl ⟨by rw [hok,ok3];exact h1,by rw [hY,text3]⟩⟩
     ·exact ⟨hb,.inr ⟨by rw [hok,ok3];exact h1,_,11,rfl,rfl⟩⟩))
    clear hok hY hv hm hR hM0 hw0 hB0 hK0
    go_enter Tryz.func73,Tryz.ntmps73
    go_wp2_with fail
    rw [← HW0.out]
    refine HC.out.mono ?_
    rintro e w2 ⟨hb,⟨rfl,rfl⟩ | ⟨rfl,x',z,hz,rfl⟩⟩
    ·have HB2:=Lib.hid (th HB0.out (Nat.le_refl _) hb)
     clear hb
     go_wp2
     go_ret2
     exact ⟨HB2.out,.inl ⟨rfl,rfl⟩⟩
    ·have HB2:=Lib.hid (th HB0.out (Nat.le_refl _) hb)
     clear hb
     go_wp2
     go_ret2
     exact ⟨HB2.out,.inr ⟨rfl,x',z,hz,rfl⟩⟩
   ·skip
    by_cases h4 : ki = 4
    ·subst h4
     have HC : Hid (Calls Tryz.prog 27 #[.string ⟨x.toArray⟩,.bool false] w0 fun e w'=>WrQ ok Y w0 e w'):=Lib.hid ((escape_big false ⟨x.toArray⟩ w0 hM0.lay.lay (by rw [str_size2];exact hx)).mono (by
      rintro e w' ⟨rfl,hb⟩
      refine ⟨hb,?_⟩
      rw [hok,hY,ok4,bts_mk x]
      unfold escP
      by_cases hw : wholeB x = true
      ·rw [if_pos hw];exact .inl ⟨hw,rfl⟩
      ·rw [if_neg hw];exact .inr ⟨by simpa using hw,_,10,rfl,rfl⟩))
     clear hok hY hv hm hR hM0 hw0 hB0 hK0
     go_enter Tryz.func73,Tryz.ntmps73
     go_wp2_with fail
     rw [← HW0.out]
     refine HC.out.mono ?_
     rintro e w2 ⟨hb,⟨rfl,rfl⟩ | ⟨rfl,x',z,hz,rfl⟩⟩
     ·have HB2:=Lib.hid (th HB0.out (Nat.le_refl _) hb)
      clear hb
      go_wp2
      go_ret2
      exact ⟨HB2.out,.inl ⟨rfl,rfl⟩⟩
     ·have HB2:=Lib.hid (th HB0.out (Nat.le_refl _) hb)
      clear hb
      go_wp2
      go_ret2
      exact ⟨HB2.out,.inr ⟨rfl,x',z,hz,rfl⟩⟩
    ·skip
     by_cases h5 : ki = 5
     ·subst h5
      have HC : Hid (Calls Tryz.prog 120 #[.string ⟨x.toArray⟩] w0 fun e w'=>WrQ ok Y w0 e w'):=Lib.hid ((wcomment_any x w0 hM0 hx).mono (by
       rintro e w' ⟨hb,⟨h1,rfl⟩ | ⟨h1,z,hz,rfl⟩⟩
       ·exact ⟨hb,.inl ⟨by rw [hok,ok5];exact h1,by rw [hY];rfl⟩⟩
       ·exact ⟨hb,.inr ⟨by rw [hok,ok5];exact h1,_,z,hz,rfl⟩⟩))
      clear hok hY hv hm hR hM0 hw0 hB0 hK0
      go_enter Tryz.func73,Tryz.ntmps73
      go_wp2_with fail
      rw [← HW0.out]
      refine HC.out.mono ?_
      rintro e w2 ⟨hb,⟨rfl,rfl⟩ | ⟨rfl,x',z,hz,rfl⟩⟩
      ·have HB2:=Lib.hid (th HB0.out (Nat.le_refl _) hb)
       clear hb
       go_wp2
       go_ret2
       exact ⟨HB2.out,.inl ⟨rfl,rfl⟩⟩
      ·have HB2:=Lib.hid (th HB0.out (Nat.le_refl _) hb)
       clear hb
       go_wp2
       go_ret2
       exact ⟨HB2.out,.inr ⟨rfl,x',z,hz,rfl⟩⟩
     ·skip
      have hno : ok = false:=by rw [hok];exact ok0 first ki n x l em h1 h2 h3 h4 h5
      have b1 : (ki == 1) = false:=by simpa using h1
      have b2 : (ki == 2) = false:=by simpa using h2
      have b3 : (ki == 3) = false:=by simpa using h3
      have b4 : (ki == 4) = false:=by simpa using h4
      have b5 : (ki == 5) = false:=by simpa using h5
      subst hno
      clear hok hY hv hm hR hM0 hB0 hK0
      rw [← hw0] at c0
      clear c0 c1 c2 c3 c4
      have HK0:=Lib.hid (BoxK.made ki ⟨n.toArray⟩ ⟨x.toArray⟩ (.slice a l.length cap) em w)
      obtain ⟨c0,_⟩:=HK0.out.at
      go_enter Tryz.func73,Tryz.ntmps73
      go_wp2
      go_ret2
      exact ⟨by rw [← hw0];exact HB0.out,.inr ⟨rfl,_,1,rfl,rfl⟩⟩
end Go.Proofs.YtjldpkhfiffinaaGreatDoor.U
