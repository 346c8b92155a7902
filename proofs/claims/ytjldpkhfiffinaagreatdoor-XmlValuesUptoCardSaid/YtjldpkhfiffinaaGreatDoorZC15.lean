/- Contracts and plain facts that the law stands on: Q8. -/
import Derived.Test.YtjldpkhfiffinaaGreatDoorZC01
import Derived.Test.YtjldpkhfiffinaaGreatDoorZC05
import Derived.Test.YtjldpkhfiffinaaGreatDoorZC14
import Derived.WalkMore
import Derived.Test.YtjldpkhfiffinaaGreatDoorZC07
namespace Go.Proofs.YtjldpkhfiffinaaGreatDoor.U
open Go.RowKit Go.Shelf
set_option maxHeartbeats 1000000 in
theorem escaped_any (v : Bool) (r : Int) (w : World) : Calls Tryz.prog 48 #[.int .i32 r,.bool v] w fun e w'=>e = .returned (.string ⟨(escT v r).toArray⟩) ∧ Below w.heap.size w w':=by
 cases v
 ·rcases (show r = 38 ∨ r = 60 ∨ r = 62 ∨ r = 13 ∨ (r ≠ 38 ∧ r ≠ 60 ∧ r ≠ 62 ∧ r ≠ 13) by omega) with h | h | h | h | ⟨h1,h2,h3,h4⟩
  ·subst h
   go_enter Tryz.func48,Tryz.ntmps48
   go_wp2
   go_ret
   exact ⟨rfl,Below.refl _ _⟩
  ·subst h
   go_enter Tryz.func48,Tryz.ntmps48
   go_wp2
   go_ret
   exact ⟨rfl,Below.refl _ _⟩
  ·subst h
   go_enter Tryz.func48,Tryz.ntmps48
   go_wp2
   go_ret
   exact ⟨rfl,Below.refl _ _⟩
  ·subst h
   go_enter Tryz.func48,Tryz.ntmps48
   go_wp2
   go_ret
   exact ⟨rfl,Below.refl _ _⟩
  have HV : Hid (escT false r = []):=Lib.hid (by unfold escT;simp [h1,h2,h3,h4])
  go_enter Tryz.func48,Tryz.ntmps48
  go_wp2
  go_ret
  exact ⟨by rw [HV.out];rfl,Below.refl _ _⟩
 ·rcases (show r = 38 ∨ r = 60 ∨ r = 62 ∨ r = 13 ∨ r = 34 ∨ r = 9 ∨ r = 10 ∨ (r ≠ 38 ∧ r ≠ 60 ∧ r ≠ 62 ∧ r ≠ 13 ∧ r ≠ 34 ∧ r ≠ 9 ∧ r ≠ 10) by omega) with h | h | h | h | h | h | h | ⟨h1,h2,h3,h4,h5,h6,h7⟩
  ·subst h
   go_enter Tryz.func48,Tryz.ntmps48
   go_wp2
   go_ret
   exact ⟨rfl,Below.refl _ _⟩
  ·subst h
   go_enter Tryz.func48,Tryz.ntmps48
   go_wp2
   go_ret
   exact ⟨rfl,Below.refl _ _⟩
  ·subst h
   go_enter Tryz.func48,Tryz.ntmps48
   go_wp2
   go_ret
   exact ⟨rfl,Below.refl _ _⟩
  ·subst h
   go_enter Tryz.func48,Tryz.ntmps48
   go_wp2
   go_ret
   exact ⟨rfl,Below.refl _ _⟩
  ·subst h
   go_enter Tryz.func48,Tryz.ntmps48
   go_wp2
   go_ret
   exact ⟨rfl,Below.refl _ _⟩
  ·subst h
   go_enter Tryz.func48,Tryz.ntmps48
   go_wp2
   go_ret
   exact ⟨rfl,Below.refl _ _⟩
  ·subst h
   go_enter Tryz.func48,Tryz.ntmps48
   go_wp2
   go_ret
   exact ⟨rfl,Below.refl _ _⟩
  have HV : Hid (escT true r = []):=Lib.hid (by unfold escT;simp [h1,h2,h3,h4,h5,h6,h7])
  go_enter Tryz.func48,Tryz.ntmps48
  go_wp2
  go_ret
  exact ⟨by rw [HV.out];rfl,Below.refl _ _⟩
def escP (v : Bool) (l : List UInt8) : List UInt8 × Int:=if wholeB l = true then (escL v l,0) else ([],10)
theorem bytes_str (l : List UInt8) : Lib.strCells ⟨l.toArray⟩ = Lib.byteCells l:=by simp [Lib.strCells,Lib.byteCells]
set_option maxHeartbeats 4000000 in
theorem escape_any (v : Bool) (s : ByteArray) (w : World) (hl : Lay w) (hs : s.size ≤ 1000000) :
  Calls Tryz.prog 27 #[.string s,.bool v] w fun e w'=>e = .returned (.tuple #[.string ⟨(escP v (bts s)).1.toArray⟩,.int .i64 (escP v (bts s)).2]) ∧ Below w.heap.size w w':=by
 by_cases hw : wholeB (bts s) = true
 ·have he : chkE (ints (bts s)) = 0:=by
   have:=(wholeB_iff _).1 hw
   unfold Whole at this
   unfold chkE
   rw [if_neg (by rw [this,ints_len];omega)]
  have hp : escP v (bts s) = (escL v (bts s),0):=by unfold escP;rw [if_pos hw]
  rw [hp]
  have hrun:=((wholeB_iff _).1 hw).runes
  have hall:=runes_all (ints (bts s))
  have hesc : escL v (bts s) = (runesC (ints (bts s))).flatMap (escR v):=by
   conv=>lhs;rw [encodes_of hall hrun]
   exact esc_runes v hall
  rw [hesc]
  have hlen : (runesC (ints (bts s))).length ≤ s.size:=by
   have:=runes_len' (ints (bts s))
   rw [ints_len,bts_len] at this
   exact this
  generalize hrs : runesC (ints (bts s)) = rs at hrun hall hlen
  clear hrs hesc hp hw
  have HRUN:=Lib.hid hrun
  have HALL:=Lib.hid hall
  have HLEN:=Lib.hid hlen
  have HL:=Lib.hid hl
  have HS:=Lib.hid hs
  clear hrun hall hlen hl hs
  go_enter Tryz.func27,Tryz.ntmps27
  go_wp2_with fail
  refine (ncheck_any s _ HL.out (by have:=HS.out;omega)).mono ?_
  rintro e w1 ⟨rfl,hb1⟩
  rw [he]
  have HB1:=Lib.hid hb1
  have hsz1:=hb1.size
  clear hb1 he
  go_wp2
  go_loopw [] (fun wr=>∃ (pos : Nat) (rest : List Int) (acc : List UInt8),Lib.IsBuilderF 99 5 w1.heap.size w1.heap.size (Lib.byteCells acc) wr ∧ wr.heap[w1.heap.size + 1]? = some (.stringIter s pos) ∧ Below w1.heap.size w1 wr ∧ rest.all isC = true ∧ ints ((bts s).drop pos) = rest.flatMap encC ∧ acc ++ rest.flatMap (escR v) = rs.flatMap (escR v) ∧ acc.length ≤ 6 * pos) (fun wr=>s.size - wr.iterPos (w1.heap.size + 1))
  case atStart=>
   refine ⟨0,rs,[],(Lib.IsBuilderF.of (Lib.fresh_isBuilder 99 5 w1)).alloc _,?_,((Below.refl _ w1).alloc (Nat.le_refl _) _).alloc (by simp) _,HALL.out,HRUN.out,rfl,by simp⟩
   have:=World.iter_heap (w1.alloc (.cells #[.pointer none,.slice none 0 0] 99)) s 0
   simpa using this
  case round=>
   obtain ⟨pos,rest,acc,hI,hit,hbw,hra,hrest,hacc,hal⟩:=hrel
   have hsz : w1.heap.size + 1 < wr.heap.size:=(Array.getElem?_eq_some_iff.1 hit).1
   have HRA:=Lib.hid hra
   have HREST:=Lib.hid hrest
   have HACC:=Lib.hid hacc
   have HBW:=Lib.hid hbw
   clear hra hrest hacc hbw
   cases rest with
   | cons r rest=>
    have hrc : isC r = true:=by have:=HRA.out;simp only [List.all_cons,Bool.and_eq_true] at this;exact this.1
    have hrc2 : rest.all isC = true:=by have:=HRA.out;simp only [List.all_cons,Bool.and_eq_true] at this;exact this.2
    obtain ⟨hdec,hple⟩:=dec_link s pos r (rest.flatMap encC) hrc (by rw [HREST.out,List.flatMap_cons])
    have hsc : 1 ≤ sizeC r ∧ sizeC r ≤ 4:=by unfold sizeC;repeat' split
                                             all_goals omega
    have hp : pos < s.size:=by omega
    have hrest2 : ints ((bts s).drop (pos + sizeC r)) = rest.flatMap encC:=by
     rw [← List.drop_drop,ints_drop,HREST.out,List.flatMap_cons,List.drop_append_of_le_length (by rw [encC_len];omega),List.drop_of_length_le (by rw [encC_len];omega),List.nil_append]
    have hrb:=isC_bounds hrc
    have hnx : ∀ ty,(Instr.next (.pointer (some ⟨w1.heap.size + 1,0,none⟩)) true ty).run Tryz.prog wr = .ok (.tuple #[.bool true,.int .i64 pos,.int .i32 r]) (wr.iterAt (w1.heap.size + 1) s (pos + sizeC r)):=by
     intro ty
     rw [Lib.run_next_any_at wr (w1.heap.size + 1) s pos ty hit hp,hdec]
     have : ((r.toNat : Nat) : Int) = r:=by omega
     simp only [this]
    have hI2:=hI.iterAt hit (pos + sizeC r)
    have hit2:=Lib.iterAt_heap wr (w1.heap.size + 1) s pos (pos + sizeC r) hit
    have hbw2:=Lib.below_iterAt HBW.out (k:=w1.heap.size + 1) (by omega) s (pos + sizeC r)
    have hsz2 : (wr.iterAt (w1.heap.size + 1) s (pos + sizeC r)).heap.size = wr.heap.size:=Lib.iterAt_size ..
    have HSC:=Lib.hid hsc
    have HPLE:=Lib.hid hple
    have HREST2:=Lib.hid hrest2
    have HRC:=Lib.hid hrc
    have HRC2:=Lib.hid hrc2
    have HI2:=Lib.hid hI2
    have HIT2:=Lib.hid hit2
    have HBW2:=Lib.hid hbw2
    have HSZ2:=Lib.hid hsz2
    have HRB:=Lib.hid hrb
    have HAL:=Lib.hid hal
    have HIT:=Lib.hid hit
    clear hsc hple hrest2 hrc hrc2 hI2 hit2 hbw2 hsz2 hrb hdec hI hit hal
    go_wp2_with fail
    refine (escaped_any v r _).mono ?_
    rintro e w2 ⟨rfl,hb2⟩
    have HIT3 : Hid (w2.heap[w1.heap.size + 1]? = some (.stringIter s (pos + sizeC r))):=Lib.hid ((hb2.block _ (by rw [HSZ2.out];exact hsz)).trans HIT2.out)
    have HI3 : Hid (Lib.IsBuilderF 99 5 w1.heap.size w1.heap.size (Lib.byteCells acc) w2):=Lib.hid (bld_below HI2.out hb2)
    have HB3 : Hid (Below w1.heap.size w1 w2):=Lib.hid (HBW2.out.trans (hb2.mono (by rw [HSZ2.out];omega)))
    have hsz3 : w1.heap.size ≤ w2.heap.size:=HB3.out.size
    have HACL : Hid (acc.length ≤ 6 * s.size):=Lib.hid (by have:=HAL.out;omega)
    clear hb2
    by_cases hesc : escT v r = []
    ·have hE : escR v r = Lib.encodeRune r:=by unfold escR;rw [if_pos hesc]
     have HE:=Lib.hid hE
     rw [hesc]
     clear hE hesc
     go_wp2_with fail
     refine (writeRune_any w1.heap.size w1.heap.size (Lib.byteCells acc) r (by have:=HRB.out;omega) (by have:=HRB.out;omega) _ HI3.out (by rw [Lib.byteCells_length];have:=HACL.out;have:=HS.out;omega) hsz3).mono ?_
     rintro e w3 ⟨rfl,h1,b1,k1⟩
     go_wp2
     go_roundw
     case rel=>
      refine ⟨pos + sizeC r,rest,acc ++ Lib.encodeRune r,?_,k1.iter HIT3.out (by omega),HB3.out.trans b1,HRC2.out,HREST2.out,?_,?_⟩
      ·rw [Lib.byteCells_append,Lib.byteCells_encodeRune];exact Or.inr h1
      ·rw [← HACC.out,List.flatMap_cons,HE.out,List.append_assoc]
      ·rw [List.length_append,encode_len HRC.out];have:=HAL.out;have:=HSC.out;omega
     case measure=>
      simp only [World.iterPos,k1.iter HIT3.out (by omega),HIT.out]
      have:=HPLE.out;have:=HSC.out;omega
    ·have hE : escR v r = escT v r:=by unfold escR;rw [if_neg hesc]
     have HE:=Lib.hid hE
     have hne : (escT v r).isEmpty = false:=List.isEmpty_eq_false_iff.2 hesc
     have HLT : Hid ((escT v r).length ≤ 6):=Lib.hid (escT_len v r)
     clear hE hesc
     go_wp2_with fail
     refine (writeString_any w1.heap.size w1.heap.size (Lib.byteCells acc) ⟨(escT v r).toArray⟩ _ HI3.out (by rw [Lib.byteCells_length];have:=HACL.out;have:=HS.out;have:=HLT.out;rw [str_size];omega) hsz3).mono ?_
     rintro e w3 ⟨rfl,h1,b1,k1⟩
     go_wp2
     go_roundw
     case rel=>
      refine ⟨pos + sizeC r,rest,acc ++ escT v r,?_,k1.iter HIT3.out (by omega),HB3.out.trans b1,HRC2.out,HREST2.out,?_,?_⟩
      ·rw [Lib.byteCells_append,← bytes_str];exact Or.inr h1
      ·rw [← HACC.out,List.flatMap_cons,HE.out,List.append_assoc]
      ·rw [List.length_append];have:=HAL.out;have:=HSC.out;have:=HLT.out;omega
     case measure=>
      simp only [World.iterPos,k1.iter HIT3.out (by omega),HIT.out]
      have:=HPLE.out;have:=HSC.out;omega
   | nil=>
    have hp : ¬ pos < s.size:=by
     intro h
     have h1:=HREST.out
     rw [bts_drop s pos h] at h1
     cases h1
    have hnx : ∀ ty,(Instr.next (.pointer (some ⟨w1.heap.size + 1,0,none⟩)) true ty).run Tryz.prog wr = _:=fun ty=>Lib.run_next_end_at wr (w1.heap.size + 1) s pos ty hit hp
    go_wp2_with fail
    refine (S.Builder_String_any_k w1.heap.size w1.heap.size acc _ hI (by omega)).mono ?_
    rintro e w3 ⟨rfl,_,b1,_⟩
    go_wp2
    go_ret2
    have h1:=HACC.out
    rw [List.flatMap_nil,List.append_nil] at h1
    exact ⟨by rw [h1];rfl,HB1.out.trans ((HBW.out.trans b1).mono hsz1)⟩
 ·have he : chkE (ints (bts s)) = 10:=by
   have : ¬ Whole (bts s):=fun h=>hw ((wholeB_iff _).2 h)
   unfold Whole at this
   have h2:=chkC_le (ints (bts s))
   unfold chkE
   rw [if_pos (by rw [ints_len] at h2 ⊢;omega)]
  have hp : escP v (bts s) = ([],10):=by unfold escP;rw [if_neg hw]
  rw [hp]
  go_enter Tryz.func27,Tryz.ntmps27
  go_wp2_with fail
  refine (ncheck_any s _ hl (by omega)).mono ?_
  rintro e w1 ⟨rfl,hb1⟩
  rw [he]
  go_wp2
  go_ret2
  exact ⟨rfl,hb1⟩
def Stand (s : ByteArray) (pos beh : Nat) (acc : List UInt8) : Prop:=
 (beh ≤ pos ∧ unL acc ((bts s).drop pos) = unL [] (bts s)) ∨ (pos < beh ∧ (bts s)[beh - 1]? = some 59 ∧ unL acc ((bts s).drop beh) = unL [] (bts s))
theorem rest_drop {s : ByteArray} {pos : Nat} {r : Int} {rest : List Int} (_hrc : isC r = true) (h : ints ((bts s).drop pos) = (r :: rest).flatMap encC) : ints ((bts s).drop (pos + sizeC r)) = rest.flatMap encC:=by
 have hsc:=encC_len r
 rw [← List.drop_drop,ints_drop,h,List.flatMap_cons,List.drop_append_of_le_length (by omega),List.drop_of_length_le (by omega),List.nil_append]
theorem rest_bytes {s : ByteArray} {pos : Nat} {r : Int} {rest : List Int} (hrc : isC r = true) (h : ints ((bts s).drop pos) = (r :: rest).flatMap encC) : (bts s).drop pos = Lib.encodeRune r ++ (bts s).drop (pos + sizeC r):=by
 apply ints_inj
 rw [ints_append,ints_encode hrc,rest_drop hrc h,h,List.flatMap_cons]
theorem stand_skip {s : ByteArray} {pos beh : Nat} {acc : List UInt8} {r : Int} {rest : List Int} (hrc : isC r = true) (h : ints ((bts s).drop pos) = (r :: rest).flatMap encC) (hp : pos < beh) (hs : Stand s pos beh acc) : Stand s (pos + sizeC r) beh acc:=by
 rcases hs with ⟨h1,_⟩ | ⟨_,h1,h2⟩
 ·omega
 ·have hle : pos + sizeC r ≤ beh:=by
   by_cases hlow : r < 128
   ·rw [sizeC_1 hlow];omega
   ·rcases Nat.lt_or_ge beh (pos + sizeC r) with h3 | h3
    ·exfalso
     have e:=rest_bytes hrc h
     have hel : (Lib.encodeRune r).length = sizeC r:=encode_len hrc
     have hg : ((bts s).drop pos)[beh - 1 - pos]? = some 59:=by rw [List.getElem?_drop,show pos + (beh - 1 - pos) = beh - 1 by omega];exact h1
     rw [e,List.getElem?_append_left (by omega)] at hg
     have:=encode_high hrc (by omega) 59 (List.mem_of_getElem? hg)
     simp at this
    ·exact h3
  rcases Nat.lt_or_ge (pos + sizeC r) beh with h3 | h3
  ·exact .inr ⟨h3,h1,h2⟩
  ·obtain rfl : beh = pos + sizeC r:=by omega
   exact .inl ⟨Nat.le_refl _,h2⟩
theorem stand_rune {s : ByteArray} {pos beh : Nat} {acc : List UInt8} {r : Int} {rest : List Int} (hrc : isC r = true) (h : ints ((bts s).drop pos) = (r :: rest).flatMap encC) (hp : beh ≤ pos) (h1 : r ≠ 60) (h2 : r ≠ 38) (hs : Stand s pos beh acc) : Stand s (pos + sizeC r) beh (acc ++ Lib.encodeRune r):=by
 rcases hs with ⟨_,h3⟩ | ⟨h3,_⟩
 ·refine .inl ⟨by omega,?_⟩
  rw [← h3,rest_bytes hrc h,unL_rune hrc h1 h2]
 ·omega
theorem byte_low {s : ByteArray} {pos : Nat} {r : Int} {rest : List Int} (b : UInt8) (hrc : isC r = true) (hr : r = b.toNat) (hlow : b.toNat < 128) (h : ints ((bts s).drop pos) = (r :: rest).flatMap encC) : (bts s).drop pos = b :: (bts s).drop (pos + 1):=by
 have e:=rest_bytes hrc h
 obtain ⟨c,e1,e2⟩:=encode_low hrc (by omega)
 have : c = b:=UInt8.toNat.inj (by omega)
 rw [e1,sizeC_1 (by omega),this] at e
 exact e
theorem stand_ref {s : ByteArray} {pos beh : Nat} {acc : List UInt8} {c : Int} {n : Nat} (hb : (bts s).drop pos = 38 :: (bts s).drop (pos + 1)) (hp : beh ≤ pos) (hr : refL ((bts s).drop (pos + 1)) = some (c,n)) (hs : Stand s pos beh acc) : Stand s (pos + 1) (pos + (n + 1)) (acc ++ Lib.encodeRune c) ∧ pos + (n + 1) ≤ s.size:=by
 obtain ⟨r1,r2,r3,_⟩:=refL_some hr
 have hl:=bts_len s
 rw [List.length_drop] at r2
 refine ⟨.inr ⟨by omega,?_,?_⟩,by omega⟩
 ·rw [List.getElem?_drop] at r3
  rw [show pos + (n + 1) - 1 = pos + 1 + (n - 1) by omega];exact r3
 ·rcases hs with ⟨_,h3⟩ | ⟨h3,_⟩
  ·rw [← h3,hb,unL_some hr,List.drop_drop,show pos + 1 + n = pos + (n + 1) by omega]
  ·omega
theorem stand_none {s : ByteArray} {pos beh : Nat} {acc : List UInt8} (hb : (bts s).drop pos = 38 :: (bts s).drop (pos + 1)) (hp : beh ≤ pos) (hr : refL ((bts s).drop (pos + 1)) = none) (hs : Stand s pos beh acc) : unL [] (bts s) = .error 13:=by
 rcases hs with ⟨_,h3⟩ | ⟨h3,_⟩
 ·rw [← h3,hb,unL_none hr]
 ·omega
theorem stand_form {s : ByteArray} {pos beh : Nat} {acc : List UInt8} (hb : (bts s).drop pos = 60 :: (bts s).drop (pos + 1)) (hp : beh ≤ pos) (hs : Stand s pos beh acc) : unL [] (bts s) = .error 12:=by
 rcases hs with ⟨_,h3⟩ | ⟨h3,_⟩
 ·rw [← h3,hb,unL_form]
 ·omega
theorem stand_end {s : ByteArray} {pos beh : Nat} {acc : List UInt8} (h : s.size ≤ pos) (hbs : beh ≤ s.size) (hs : Stand s pos beh acc) : unL [] (bts s) = .ok acc:=by
 rcases hs with ⟨_,h3⟩ | ⟨h3,_⟩
 ·rw [← h3,List.drop_of_length_le (by rw [bts_len];exact h),unL_nil]
 ·omega
set_option maxHeartbeats 4000000 in
theorem unescape_any (s : ByteArray) (w : World) (hl : LayS w) (hs : s.size ≤ 1000000) :
  Calls Tryz.prog 135 #[.string s] w fun e w'=>e = .returned (.tuple #[.string ⟨(unP (bts s)).1.toArray⟩,.int .i64 (unP (bts s)).2]) ∧ Below w.heap.size w w':=by
 by_cases hw : wholeB (bts s) = true
 ·have he : chkE (ints (bts s)) = 0:=by
   have:=(wholeB_iff _).1 hw
   unfold Whole at this
   unfold chkE
   rw [if_neg (by rw [this,ints_len];omega)]
  have hp : unP (bts s) = unR (unL [] (bts s)):=by unfold unP;rw [if_pos hw]
  have hrun:=((wholeB_iff _).1 hw).runes
  have hall:=runes_all (ints (bts s))
  generalize hrs : runesC (ints (bts s)) = rs at hrun hall
  clear hrs hw
  have HP:=Lib.hid hp
  have HRUN:=Lib.hid hrun
  have HALL:=Lib.hid hall
  have HL:=Lib.hid hl
  have HS:=Lib.hid hs
  clear hrun hall hl hs hp
  go_enter Tryz.func135,Tryz.ntmps135
  go_wp2_with fail
  go_step3
  go_wp2_with fail
  refine (ncheck_any s _ HL.out.lay (by have:=HS.out;omega)).mono ?_
  rintro e w1 ⟨rfl,hb1⟩
  rw [he]
  have HB1:=Lib.hid hb1
  have HL1:=Lib.hid (HL.out.below hb1 HL.out.size)
  have hsz1:=hb1.size
  clear hb1 he
  go_wp2_with fail
  go_step3
  go_wp2_with fail
  go_loopw [6,7] (fun v6 v7 wr=>∃ (pos beh : Nat) (rest : List Int) (acc : List UInt8),v6 = .int .i64 0 ∧ v7 = .int .i64 beh ∧ beh ≤ s.size ∧ pos ≤ s.size ∧ Lib.IsBuilderF 99 5 w1.heap.size w1.heap.size (Lib.byteCells acc) wr ∧ wr.heap[w1.heap.size + 1]? = some (.stringIter s pos) ∧ Below w1.heap.size w1 wr ∧ rest.all isC = true ∧ ints ((bts s).drop pos) = rest.flatMap encC ∧ Stand s pos beh acc ∧ acc.length ≤ 4 * pos) (fun _ _ wr=>s.size - wr.iterPos (w1.heap.size + 1))
  case atStart=>
   refine ⟨0,0,rs,[],rfl,rfl,by omega,by omega,(Lib.IsBuilderF.of (Lib.fresh_isBuilder 99 5 w1)).alloc _,?_,((Below.refl _ w1).alloc (Nat.le_refl _) _).alloc (by simp) _,HALL.out,HRUN.out,.inl ⟨by omega,rfl⟩,by simp⟩
   have:=World.iter_heap (w1.alloc (.cells #[.pointer none,.slice none 0 0] 99)) s 0
   simpa using this
  case round=>
   obtain ⟨pos,beh,rest,acc,rfl,rfl,hbs,hps,hI,hit,hbw,hra,hrest,hst,hal⟩:=hrel
   have hsz : w1.heap.size + 1 < wr.heap.size:=(Array.getElem?_eq_some_iff.1 hit).1
   have HRA:=Lib.hid hra
   have HREST:=Lib.hid hrest
   have HST:=Lib.hid hst
   have HBW:=Lib.hid hbw
   have HPS:=Lib.hid hps
   have HBS:=Lib.hid hbs
   clear hra hrest hst hbw hps hbs
   cases rest with
   | cons r rest=>
    have hrc : isC r = true:=by have:=HRA.out;simp only [List.all_cons,Bool.and_eq_true] at this;exact this.1
    have hrc2 : rest.all isC = true:=by have:=HRA.out;simp only [List.all_cons,Bool.and_eq_true] at this;exact this.2
    obtain ⟨hdec,hple⟩:=dec_link s pos r (rest.flatMap encC) hrc (by rw [HREST.out,List.flatMap_cons])
    have hsc:=sizeC_le r
    have hp : pos < s.size:=by omega
    have hrest2:=rest_drop hrc HREST.out
    have hrb:=isC_bounds hrc
    have hnx : ∀ ty,(Instr.next (.pointer (some ⟨w1.heap.size + 1,0,none⟩)) true ty).run Tryz.prog wr = .ok (.tuple #[.bool true,.int .i64 pos,.int .i32 r]) (wr.iterAt (w1.heap.size + 1) s (pos + sizeC r)):=by
     intro ty
     rw [Lib.run_next_any_at wr (w1.heap.size + 1) s pos ty hit hp,hdec]
     have : ((r.toNat : Nat) : Int) = r:=by omega
     simp only [this]
    have hI2:=hI.iterAt hit (pos + sizeC r)
    have hit2:=Lib.iterAt_heap wr (w1.heap.size + 1) s pos (pos + sizeC r) hit
    have hbw2:=Lib.below_iterAt HBW.out (k:=w1.heap.size + 1) (by omega) s (pos + sizeC r)
    have hsz2 : (wr.iterAt (w1.heap.size + 1) s (pos + sizeC r)).heap.size = wr.heap.size:=Lib.iterAt_size ..
    have HSC:=Lib.hid hsc
    have HPLE:=Lib.hid hple
    have HREST2:=Lib.hid hrest2
    have HRC:=Lib.hid hrc
    have HRC2:=Lib.hid hrc2
    have HI2:=Lib.hid hI2
    have HIT2:=Lib.hid hit2
    have HBW2:=Lib.hid hbw2
    have HSZ2:=Lib.hid hsz2
    have HRB:=Lib.hid hrb
    have HAL:=Lib.hid hal
    have HIT:=Lib.hid hit
    clear hsc hple hrest2 hrc hrc2 hI2 hit2 hbw2 hsz2 hrb hdec hI hit hal
    by_cases hbeh : pos < beh
    ·have HSTN:=Lib.hid (stand_skip HRC.out HREST.out hbeh HST.out)
     go_wp2
     go_roundw
     case rel=>
      exact ⟨pos + sizeC r,beh,rest,acc,rfl,rfl,HBS.out,HPLE.out,HI2.out,HIT2.out,HBW2.out,HRC2.out,HREST2.out,HSTN.out,by have:=HAL.out;have:=HSC.out;omega⟩
     case measure=>
      simp only [World.iterPos,HIT2.out,HIT.out]
      have:=HPLE.out;have:=HSC.out;omega
    ·by_cases h60 : r = 60
     ·have HF:=Lib.hid (stand_form (byte_low 60 HRC.out (by rw [h60];rfl) (by decide) HREST.out) (by omega) HST.out)
      subst h60
      go_wp2
      rw [Exit.noGoto_ret]
      go_ret2
      refine ⟨?_,HB1.out.trans (HBW2.out.mono hsz1)⟩
      rw [HP.out,HF.out]
      rfl
     ·by_cases h38 : r = 38
      ·have hby:=byte_low 38 HRC.out (by rw [h38];rfl) (by decide) HREST.out
       have hbe : bts (s.extract pos s.size) = 38 :: (bts s).drop (pos + 1):=by
        rw [bts_extract,List.take_of_length_le (by rw [bts_len];omega),hby]
       have HL2 : Hid (LayS (wr.iterAt (w1.heap.size + 1) s (pos + sizeC r))):=Lib.hid (HL1.out.below HBW2.out HL1.out.size)
       have HR:=Lib.hid (reference_any (s.extract pos s.size) _ _ HL2.out hbe (by rw [ByteArray.size_extract];have:=HS.out;omega))
       subst h38
       have hs1 : sizeC 38 = 1:=rfl
       rw [hs1] at HIT2 HI2 HBW2 HSZ2 HPLE HREST2 hnx HL2 HR
       cases hrf : refL ((bts s).drop (pos + 1)) with
       | none=>
        have HF:=Lib.hid (stand_none hby (by omega) hrf HST.out)
        rw [hrf] at HR
        clear hby hbe hrf hs1
        go_wp2_with fail
        refine HR.out.mono ?_
        rintro e w2 ⟨rfl,hb2⟩
        have HB2:=Lib.hid hb2
        clear hb2
        simp only [Option.map_none,refV]
        go_wp2
        rw [Exit.noGoto_ret]
        go_ret2
        refine ⟨?_,HB1.out.trans ((HBW2.out.trans (HB2.out.mono (by rw [HSZ2.out];omega))).mono hsz1)⟩
        rw [HP.out,HF.out]
        rfl
       | some x=>
        obtain ⟨c,n⟩:=x
        obtain ⟨hst2,hn2⟩:=stand_ref hby (by omega) hrf HST.out
        have hcc:=(refL_some hrf).2.2.2
        have HN1:=Lib.hid (refL_some hrf).1
        have HCB:=Lib.hid (isC_bounds hcc)
        have HCC:=Lib.hid hcc
        have HSTN:=Lib.hid hst2
        have HN2:=Lib.hid hn2
        rw [hrf] at HR
        clear hby hbe hrf hs1 hst2 hn2 hcc
        go_wp2_with fail
        refine HR.out.mono ?_
        rintro e w2 ⟨rfl,hb2⟩
        have HIT3 : Hid (w2.heap[w1.heap.size + 1]? = some (.stringIter s (pos + 1))):=Lib.hid ((hb2.block _ (by rw [HSZ2.out];exact hsz)).trans HIT2.out)
        have HI3 : Hid (Lib.IsBuilderF 99 5 w1.heap.size w1.heap.size (Lib.byteCells acc) w2):=Lib.hid (bld_below HI2.out hb2)
        have HB3 : Hid (Below w1.heap.size w1 w2):=Lib.hid (HBW2.out.trans (hb2.mono (by rw [HSZ2.out];omega)))
        have hsz3 : w1.heap.size ≤ w2.heap.size:=HB3.out.size
        have hn0 : ((n + 1 : Nat) : Int) ≠ 0:=by omega
        obtain ⟨m,hm⟩ : ∃ m,m = n + 1:=⟨_,rfl⟩
        clear hb2
        simp only [Option.map_some,refV]
        rw [← hm] at hn0 ⊢
        have HM:=Lib.hid hm
        clear hm
        have hm0 : 0 < m:=by omega
        have hmb : (pos : Int) + m ≤ 1000000:=by have:=HN2.out;have:=HS.out;have:=HM.out;omega
        go_wp2_with fail
        refine (writeRune_any w1.heap.size w1.heap.size (Lib.byteCells acc) c (by have:=HCB.out;omega) (by have:=HCB.out;omega) _ HI3.out (by rw [Lib.byteCells_length];have:=HAL.out;have:=HS.out;have:=HPS.out;omega) hsz3).mono ?_
        rintro e w3 ⟨rfl,h1,b1,k1⟩
        go_wp2
        go_roundw
        case rel=>
         refine ⟨pos + 1,pos + m,rest,acc ++ Lib.encodeRune c,rfl,by go_num,by rw [HM.out];exact HN2.out,HPLE.out,?_,k1.iter HIT3.out (by omega),HB3.out.trans b1,HRC2.out,HREST2.out,by rw [HM.out];exact HSTN.out,?_⟩
         ·rw [Lib.byteCells_append,Lib.byteCells_encodeRune];exact Or.inr h1
         ·rw [List.length_append,encode_len HCC.out];have:=HAL.out;have:=(sizeC_le c).2;omega
        case measure=>
         simp only [World.iterPos,k1.iter HIT3.out (by omega),HIT.out]
         have:=HPLE.out;omega
      ·have HSTN:=Lib.hid (stand_rune HRC.out HREST.out (by omega) h60 h38 HST.out)
       have hsz3 : w1.heap.size ≤ (wr.iterAt (w1.heap.size + 1) s (pos + sizeC r)).heap.size:=HBW2.out.size
       go_wp2_with fail
       refine (writeRune_any w1.heap.size w1.heap.size (Lib.byteCells acc) r (by have:=HRB.out;omega) (by have:=HRB.out;omega) _ HI2.out (by rw [Lib.byteCells_length];have:=HAL.out;have:=HS.out;have:=HPS.out;omega) hsz3).mono ?_
       rintro e w3 ⟨rfl,h1,b1,k1⟩
       go_wp2
       go_roundw
       case rel=>
        refine ⟨pos + sizeC r,beh,rest,acc ++ Lib.encodeRune r,rfl,rfl,HBS.out,HPLE.out,?_,k1.iter HIT2.out (by omega),HBW2.out.trans b1,HRC2.out,HREST2.out,HSTN.out,?_⟩
        ·rw [Lib.byteCells_append,Lib.byteCells_encodeRune];exact Or.inr h1
        ·rw [List.length_append,encode_len HRC.out];have:=HAL.out;have:=HSC.out;omega
       case measure=>
        simp only [World.iterPos,k1.iter HIT2.out (by omega),HIT.out]
        have:=HPLE.out;have:=HSC.out;omega
   | nil=>
    have hp : ¬ pos < s.size:=by
     intro h
     have h1:=HREST.out
     rw [bts_drop s pos h] at h1
     cases h1
    have HF:=Lib.hid (stand_end (by omega) HBS.out HST.out)
    have hnx : ∀ ty,(Instr.next (.pointer (some ⟨w1.heap.size + 1,0,none⟩)) true ty).run Tryz.prog wr = _:=fun ty=>Lib.run_next_end_at wr (w1.heap.size + 1) s pos ty hit hp
    go_wp2_with fail
    refine (S.Builder_String_any_k w1.heap.size w1.heap.size acc _ hI (by omega)).mono ?_
    rintro e w3 ⟨rfl,_,b1,_⟩
    go_wp2
    rw [Exit.noGoto_ret]
    go_ret2
    refine ⟨?_,HB1.out.trans ((HBW.out.trans b1).mono hsz1)⟩
    rw [HP.out,HF.out]
    rfl
 ·have he : chkE (ints (bts s)) = 10:=by
   have : ¬ Whole (bts s):=fun h=>hw ((wholeB_iff _).2 h)
   unfold Whole at this
   have h2:=chkC_le (ints (bts s))
   unfold chkE
   rw [if_pos (by rw [ints_len] at h2 ⊢;omega)]
  have hp : unP (bts s) = ([],10):=by unfold unP;rw [if_neg hw]
  rw [hp]
  go_enter Tryz.func135,Tryz.ntmps135
  go_wp2_with fail
  go_step3
  go_wp2_with fail
  refine (ncheck_any s _ hl.lay (by omega)).mono ?_
  rintro e w1 ⟨rfl,hb1⟩
  rw [he]
  go_wp2
  rw [Exit.noGoto_ret]
  go_ret2
  exact ⟨rfl,hb1⟩
end Go.Proofs.YtjldpkhfiffinaaGreatDoor.U
