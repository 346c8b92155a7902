/- The law XmlParses holds: at every list of bytes it returns true and leaves what it was given as it was. Conditions: the listed package variables (the tables of package utf, the library's errors and tables) start as the program's text lays them, one of Go's own tables as it is pinned by name (the card ties them). -/
import Derived.Test.YtjldpkhfiffinaaGreatDoorZP10
import Derived.Test.YtjldpkhfiffinaaGreatDoorRows
import Derived.WalkKit
import Derived.WalkSpells
import Derived.WalkLawsBesides
import Derived.Lib.Hide
import Derived.Laws.Rows
import Derived.Lib.OthersKept
import Derived.BigQuiet
import Derived.BigCall
import Derived.Shelf.Abstract
import Derived.Lib.Strings
import Derived.Deep.QuietTactic
import Derived.Lib.ConvBytes
import Derived.Shelf.Strings.Builder1
import Derived.Shelf.Strings.Builder2
import Derived.Shelf.Small.Strs
import Derived.Shelf.Small.Wraps
import Derived.Shelf.Strings.BuilderF
import Derived.Shelf.Strings.BuilderK
import Derived.Shelf.Strings.BuilderRune
import Derived.Ground.MpProg
import Derived.Shelf.Pu.ParseUintPublic10
import Derived.Shelf.Strings.Search1
import Derived.Shelf.Strings.Search2
import Derived.Shelf.Strings.Search3
import Derived.Shelf.Strings.Cut
import Derived.Shelf.Strings.Count
import Derived.Shelf.LaysM
import Derived.Shelf.Strings.Shaped
import Derived.Shelf.Strings.Prefix
import Derived.Shelf.Strings.Split
import Derived.Shelf.Strings.Replace
import Derived.Shelf.Strings.SplitShaped
import Derived.Shelf.Unicode.DecodeSlow
import Derived.Shelf.Vars
import Derived.HandedShaped
import Derived.Lay
import Derived.Stop.LaidErr
import Derived.ProofKit
import Derived.LaidMore
import Derived.OpenShut
import Derived.Stop.Joined
import Derived.Deep.Strs
import Derived.ShutString
import Derived.ChangeOld
import Derived.Test.YtjldpkhfiffinaaGreatDoorCards
import Derived.Test.YtjldpkhfiffinaaGreatDoorTie
import Derived.ChangeMaps5
namespace Go.Proofs.YtjldpkhfiffinaaGreatDoor.U
open Go.RowKit Go.Shelf
theorem all3_at (s : ByteArray) (w : World) (hs : s.size ≤ 100000) (hw : Whole (bts s)) (h13 : ∀ b ∈ bts s,b ≠ 13) :
  Calls Tryz.prog 12 #[.string s] w fun e w'=>Below w.heap.size w w' ∧ ((∃ ts a1 c1,allL3 (bts s) = .ok ts ∧ e = .returned (.tuple #[.slice a1 ts.length c1,.int .i64 (-1)]) ∧ TokAt w' (.slice a1 ts.length c1) ts) ∨ (∃ p : Nat,allL3 (bts s) = .error p ∧ e = .returned (.tuple #[.slice none 0 0,.int .i64 p]))):=
 (all3_any s w hs hw h13).mono (by
  rintro e w' ⟨hb,⟨v,l1,h1,h2,h3⟩ | h⟩
  ·have h4:=h3.at
   obtain ⟨a1,c1,hv⟩:=h4.slice
   subst hv
   exact ⟨hb,.inl ⟨_,a1,c1,h1,h2,h4⟩⟩
  ·exact ⟨hb,.inr h⟩)
theorem allT_ck {l : List UInt8} (h1 : ¬ 65536 < l.length) (h2 : chkC (ints l) < l.length) : allT l = .error (chkC (ints l),10):=by
 unfold allT
 rw [if_neg h1,if_pos h2]
set_option maxHeartbeats 4000000 in
set_option maxRecDepth 20000 in
theorem xparses_far (a : Option Addr) (len cap : Nat) (w : World) (hm : LayT w) (hbig : 600 < len) :
  Calls Tryz.prog 3 #[.slice a len cap] w fun e w'=>e = .returned (.bool true) ∧ Below w.heap.size w w':=by
 have HAW : Hid (∀ W,Below w.heap.size w W → Calls Tryz.prog 8 #[] W fun e w'=>e = .returned (.bool true) ∧ Below w.heap.size w w'):=Lib.hid (fun W hb=>(awake5_any W (hm.below hb hm.size)).mono (fun e w' r=>⟨r.1,th hb (Nat.le_refl _) r.2⟩))
 clear hm
 go_enter Tryz.func3,Tryz.ntmps3
 go_wp2_with fail
 refine (HAW.out _ (Below.refl _ _)).mono ?_
 rintro e wz ⟨rfl,hbz⟩
 go_wp2
 go_ret
 exact ⟨rfl,hbz⟩
set_option maxHeartbeats 4000000 in
set_option maxRecDepth 20000 in
theorem xparses_ck (a : Option Addr) (len cap : Nat) (l : List UInt8) (w : World) (hm : LayT w) (hz : Byt w a len cap (ints l)) (hbig : ¬ 600 < len) (hck : chkC (ints l) < l.length) :
  Calls Tryz.prog 3 #[.slice a len cap] w fun e w'=>e = .returned (.bool true) ∧ Below w.heap.size w w':=by
 have hlen : l.length = len:=by rw [← ints_len];exact hz.eqLen
 have hlim:=hz.lim
 have HAW : Hid (∀ W,Below w.heap.size w W → Calls Tryz.prog 8 #[] W fun e w'=>e = .returned (.bool true) ∧ Below w.heap.size w w'):=Lib.hid (fun W hb=>(awake5_any W (hm.below hb hm.size)).mono (fun e w' r=>⟨r.1,th hb (Nat.le_refl _) r.2⟩))
 have HPA:=Lib.hid (parse_any a len cap l w hm hz)
 have HRA : Hid (∀ W,Below w.heap.size w W → Calls Tryz.prog 10 #[.slice a len cap] W fun e w'=>(∃ v x y,e = .returned (.tuple #[.slice v x y,.int .i64 (chkC (ints l))])) ∧ Below W.heap.size W w'):=Lib.hid (fun W hb=>(refAll_any a len cap (ints l) W (hz.below hb (Nat.le_refl _)) (by omega)).mono (by
  rintro e w' ⟨v,h1,h2,h3⟩
  obtain ⟨va,vc,rfl⟩:=own_slice h2
  exact ⟨⟨va,_,vc,h1⟩,h3⟩))
 have hck0:=chkC_le (ints l)
 rw [ints_len] at hck0
 have HE:=Lib.hid (parseX_err (allT_ck (l:=l) (by omega) hck))
 have hck1 : chkC (ints l) < len:=by omega
 clear hlen hz hm hck0 hck
 generalize chkC (ints l) = cc at HE HRA hck1
 go_enter Tryz.func3,Tryz.ntmps3
 go_wp2_with fail
 refine HPA.out.mono ?_
 rintro e w1 ⟨hb1,⟨p',z',her,_,rfl⟩ | ⟨_,_,_,_,_,_,_,ho,_⟩⟩
 rotate_left
 ·rw [HE.out] at ho;cases ho
 rw [HE.out] at her
 injection her with her
 obtain ⟨rfl,rfl⟩:=Prod.mk.inj her
 obtain ⟨W2,hW2⟩ : ∃ W2,W2 = w1.alloc (.cells #[.string ⟨#[]⟩,.string ⟨#[]⟩,.slice none 0 0,.slice none 0 0] 27):=⟨_,rfl⟩
 have HB2 : Hid (Below w1.heap.size w1 W2):=Lib.hid (by rw [hW2];exact (Below.refl _ w1).alloc (Nat.le_refl _) _)
 have HG2:=Lib.hid (th hb1 (Nat.le_refl _) HB2.out)
 have HX2 : Hid (Box4 w1.heap.size ⟨#[]⟩ ⟨#[]⟩ (.slice none 0 0) (.slice none 0 0) W2):=Lib.hid (by rw [hW2];exact Box4.made _ _ _ _ _)
 clear hb1 her
 go_upto_region 4 with fail
 rw [← hW2]
 clear hW2
 go_wp2_with fail
 refine (HRA.out _ HG2.out).mono ?_
 rintro e w3 ⟨⟨v,x,y,rfl⟩,hb3⟩
 have HG3:=Lib.hid (th HG2.out (Nat.le_refl _) hb3)
 have HX3:=Lib.hid (HX2.out.below hb3 (Nat.le_refl _))
 clear hb3
 obtain ⟨x0,x1,x2,x3⟩:=HX3.out.at
 go_wp2_with fail
 refine (none_none _).mono ?_
 rintro e w8 ⟨rfl,hb8⟩
 have HG8:=Lib.hid (th HG3.out (Nat.le_refl _) hb8)
 clear hb8
 go_wp2_with fail
 refine (HAW.out _ HG8.out).mono ?_
 rintro e wz ⟨rfl,hbz⟩
 go_wp2
 go_ret
 exact ⟨rfl,hbz⟩
set_option maxHeartbeats 4000000 in
set_option maxRecDepth 20000 in
theorem xparses_err (a : Option Addr) (len cap : Nat) (l : List UInt8) (w : World) (hm : LayT w) (hz : Byt w a len cap (ints l)) (hbig : ¬ 600 < len) (hck : ¬ chkC (ints l) < l.length) (p : Nat) (h30 : allL3 (linesL l) = .error p) :
  Calls Tryz.prog 3 #[.slice a len cap] w fun e w'=>e = .returned (.bool true) ∧ Below w.heap.size w w':=by
 have hlen : l.length = len:=by rw [← ints_len];exact hz.eqLen
 have hlim:=hz.lim
 have HAW : Hid (∀ W,Below w.heap.size w W → Calls Tryz.prog 8 #[] W fun e w'=>e = .returned (.bool true) ∧ Below w.heap.size w w'):=Lib.hid (fun W hb=>(awake5_any W (hm.below hb hm.size)).mono (fun e w' r=>⟨r.1,th hb (Nat.le_refl _) r.2⟩))
 have HPA:=Lib.hid (parse_any a len cap l w hm hz)
 have HRA : Hid (∀ W,Below w.heap.size w W → Calls Tryz.prog 10 #[.slice a len cap] W fun e w'=>(∃ v x y,e = .returned (.tuple #[.slice v x y,.int .i64 (chkC (ints l))])) ∧ Below W.heap.size W w'):=Lib.hid (fun W hb=>(refAll_any a len cap (ints l) W (hz.below hb (Nat.le_refl _)) (by omega)).mono (by
  rintro e w' ⟨v,h1,h2,h3⟩
  obtain ⟨va,vc,rfl⟩:=own_slice h2
  exact ⟨⟨va,_,vc,h1⟩,h3⟩))
 have hck0:=chkC_le (ints l)
 rw [ints_len] at hck0
 have hcc : chkC (ints l) = len:=by omega
 have hwh : Whole l:=(wholeB_iff l).1 (by simp [wholeB];omega)
 rw [hcc] at HRA
 obtain ⟨doc,hdoc⟩ : ∃ doc : ByteArray,doc = ⟨(linesL l).toArray⟩:=⟨_,rfl⟩
 have hbd : bts doc = linesL l:=by rw [hdoc,bts_mk]
 have hlw : Whole (bts doc):=by rw [hbd];exact lines_whole hwh
 have h13 : ∀ c ∈ bts doc,c ≠ 13:=by rw [hbd];exact lines_no13 l
 have hds : doc.size ≤ 600:=by
  have:=lines_len l
  rw [← bts_len,hbd];omega
 have HLN : Hid (∀ W,Below w.heap.size w W → Calls Tryz.prog 13 #[.slice a len cap] W fun e w'=>e = .returned (.string doc) ∧ Below W.heap.size W w'):=Lib.hid (fun W hb=>(lines_any a len cap l W (hz.below hb (Nat.le_refl _)) (by omega)).mono (fun e w' r=>⟨by rw [hdoc];exact r.1,r.2⟩))
 have HR3 : Hid (∀ W,Calls Tryz.prog 12 #[.string doc] W fun e w'=>Below W.heap.size W w' ∧ _):=Lib.hid (fun W=>all3_at doc W (by omega) hlw h13)
 have hE:=allT_whole (l:=l) (by omega) (by omega)
 rw [← hbd] at hE
 have h3 : allL3 (bts doc) = .error p:=by rw [hbd];exact h30
 rw [h3] at HR3
 have HE:=Lib.hid (parseX_err (hE.2 p h3))
 clear hlen hz hm hck0 hck hE hcc hwh hdoc hbd hlw h13 h3 h30
 go_enter Tryz.func3,Tryz.ntmps3
 go_wp2_with fail
 refine HPA.out.mono ?_
 rintro e w1 ⟨hb1,⟨p',z',her,_,rfl⟩ | ⟨_,_,_,_,_,_,_,ho,_⟩⟩
 rotate_left
 ·rw [HE.out] at ho;cases ho
 rw [HE.out] at her
 injection her with her
 obtain ⟨rfl,rfl⟩:=Prod.mk.inj her
 obtain ⟨W2,hW2⟩ : ∃ W2,W2 = w1.alloc (.cells #[.string ⟨#[]⟩,.string ⟨#[]⟩,.slice none 0 0,.slice none 0 0] 27):=⟨_,rfl⟩
 have HB2 : Hid (Below w1.heap.size w1 W2):=Lib.hid (by rw [hW2];exact (Below.refl _ w1).alloc (Nat.le_refl _) _)
 have HG2:=Lib.hid (th hb1 (Nat.le_refl _) HB2.out)
 have HX2 : Hid (Box4 w1.heap.size ⟨#[]⟩ ⟨#[]⟩ (.slice none 0 0) (.slice none 0 0) W2):=Lib.hid (by rw [hW2];exact Box4.made _ _ _ _ _)
 clear hb1 her
 go_upto_region 4 with fail
 rw [← hW2]
 clear hW2
 go_wp2_with fail
 refine (HRA.out _ HG2.out).mono ?_
 rintro e w3 ⟨⟨v,x,y,rfl⟩,hb3⟩
 have HG3:=Lib.hid (th HG2.out (Nat.le_refl _) hb3)
 have HX3:=Lib.hid (HX2.out.below hb3 (Nat.le_refl _))
 clear hb3
 go_wp2_with fail
 refine (HLN.out _ HG3.out).mono ?_
 rintro e w4 ⟨rfl,hb4⟩
 have HG4:=Lib.hid (th HG3.out (Nat.le_refl _) hb4)
 have HX4:=Lib.hid (HX3.out.below hb4 (Nat.le_refl _))
 clear hb4
 go_wp2_with fail
 refine (HR3.out _).mono ?_
 rintro e w5 ⟨hb5,⟨_,_,_,ho,_⟩ | ⟨p',ho,rfl⟩⟩
 ·cases ho
 injection ho with ho
 subst ho
 have HG5:=Lib.hid (th HG4.out (Nat.le_refl _) hb5)
 have HX5:=Lib.hid (HX4.out.below hb5 (Nat.le_refl _))
 clear hb5
 obtain ⟨x0,x1,x2,x3⟩:=HX5.out.at
 go_wp2_with fail
 refine (none_none _).mono ?_
 rintro e w8 ⟨rfl,hb8⟩
 have HG8:=Lib.hid (th HG5.out (Nat.le_refl _) hb8)
 clear hb8
 go_wp2_with fail
 refine (HAW.out _ HG8.out).mono ?_
 rintro e wz ⟨rfl,hbz⟩
 go_wp2
 go_ret
 exact ⟨rfl,hbz⟩
set_option maxHeartbeats 4000000 in
set_option maxRecDepth 20000 in
theorem xparses_stop (a : Option Addr) (len cap : Nat) (l : List UInt8) (w : World) (hm : LayT w) (hz : Byt w a len cap (ints l)) (hbig : ¬ 600 < len) (hck : ¬ chkC (ints l) < l.length) (ts : List Tok) (h30 : allL3 (linesL l) = .ok ts) (i : Nat) (hX : xmlL ts = .error i) :
  Calls Tryz.prog 3 #[.slice a len cap] w fun e w'=>e = .returned (.bool true) ∧ Below w.heap.size w w':=by
 have hlen : l.length = len:=by rw [← ints_len];exact hz.eqLen
 have hlim:=hz.lim
 have HAW : Hid (∀ W,Below w.heap.size w W → Calls Tryz.prog 8 #[] W fun e w'=>e = .returned (.bool true) ∧ Below w.heap.size w w'):=Lib.hid (fun W hb=>(awake5_any W (hm.below hb hm.size)).mono (fun e w' r=>⟨r.1,th hb (Nat.le_refl _) r.2⟩))
 have HPA:=Lib.hid (parse_any a len cap l w hm hz)
 have HRA : Hid (∀ W,Below w.heap.size w W → Calls Tryz.prog 10 #[.slice a len cap] W fun e w'=>(∃ v x y,e = .returned (.tuple #[.slice v x y,.int .i64 (chkC (ints l))])) ∧ Below W.heap.size W w'):=Lib.hid (fun W hb=>(refAll_any a len cap (ints l) W (hz.below hb (Nat.le_refl _)) (by omega)).mono (by
  rintro e w' ⟨v,h1,h2,h3⟩
  obtain ⟨va,vc,rfl⟩:=own_slice h2
  exact ⟨⟨va,_,vc,h1⟩,h3⟩))
 have hck0:=chkC_le (ints l)
 rw [ints_len] at hck0
 have hcc : chkC (ints l) = len:=by omega
 have hwh : Whole l:=(wholeB_iff l).1 (by simp [wholeB];omega)
 rw [hcc] at HRA
 obtain ⟨doc,hdoc⟩ : ∃ doc : ByteArray,doc = ⟨(linesL l).toArray⟩:=⟨_,rfl⟩
 have hbd : bts doc = linesL l:=by rw [hdoc,bts_mk]
 have hlw : Whole (bts doc):=by rw [hbd];exact lines_whole hwh
 have h13 : ∀ c ∈ bts doc,c ≠ 13:=by rw [hbd];exact lines_no13 l
 have hds : doc.size ≤ 600:=by
  have:=lines_len l
  rw [← bts_len,hbd];omega
 have HLN : Hid (∀ W,Below w.heap.size w W → Calls Tryz.prog 13 #[.slice a len cap] W fun e w'=>e = .returned (.string doc) ∧ Below W.heap.size W w'):=Lib.hid (fun W hb=>(lines_any a len cap l W (hz.below hb (Nat.le_refl _)) (by omega)).mono (fun e w' r=>⟨by rw [hdoc];exact r.1,r.2⟩))
 have HR3 : Hid (∀ W,Calls Tryz.prog 12 #[.string doc] W fun e w'=>Below W.heap.size W w' ∧ _):=Lib.hid (fun W=>all3_at doc W (by omega) hlw h13)
 have hE:=allT_whole (l:=l) (by omega) (by omega)
 rw [← hbd] at hE
 have h3 : allL3 (bts doc) = .ok ts:=by rw [hbd];exact h30
 rw [h3] at HR3
 have hall:=hE.1 ts h3
 have hts:=(toks_small hall).1
 have hxs:=xml_steps hall
 have HE:=Lib.hid (hxs.1 i hX)
 have HX:=Lib.hid hX
 have hts2 : szX ts ≤ 1000000:=by omega
 clear hlen hz hm hck0 hck hE hcc hwh hdoc hbd hlw h13 h3 h30 hall hxs hX hts
 go_enter Tryz.func3,Tryz.ntmps3
 go_wp2_with fail
 refine HPA.out.mono ?_
 rintro e w1 ⟨hb1,⟨p',z',her,_,rfl⟩ | ⟨_,_,_,_,_,_,_,ho,_⟩⟩
 rotate_left
 ·rw [HE.out] at ho;cases ho
 rw [HE.out] at her
 injection her with her
 obtain ⟨rfl,rfl⟩:=Prod.mk.inj her
 obtain ⟨W2,hW2⟩ : ∃ W2,W2 = w1.alloc (.cells #[.string ⟨#[]⟩,.string ⟨#[]⟩,.slice none 0 0,.slice none 0 0] 27):=⟨_,rfl⟩
 have HB2 : Hid (Below w1.heap.size w1 W2):=Lib.hid (by rw [hW2];exact (Below.refl _ w1).alloc (Nat.le_refl _) _)
 have HG2:=Lib.hid (th hb1 (Nat.le_refl _) HB2.out)
 have HX2 : Hid (Box4 w1.heap.size ⟨#[]⟩ ⟨#[]⟩ (.slice none 0 0) (.slice none 0 0) W2):=Lib.hid (by rw [hW2];exact Box4.made _ _ _ _ _)
 clear hb1 her
 go_upto_region 4 with fail
 rw [← hW2]
 clear hW2
 go_wp2_with fail
 refine (HRA.out _ HG2.out).mono ?_
 rintro e w3 ⟨⟨v,x,y,rfl⟩,hb3⟩
 have HG3:=Lib.hid (th HG2.out (Nat.le_refl _) hb3)
 have HX3:=Lib.hid (HX2.out.below hb3 (Nat.le_refl _))
 clear hb3
 go_wp2_with fail
 refine (HLN.out _ HG3.out).mono ?_
 rintro e w4 ⟨rfl,hb4⟩
 have HG4:=Lib.hid (th HG3.out (Nat.le_refl _) hb4)
 have HX4:=Lib.hid (HX3.out.below hb4 (Nat.le_refl _))
 clear hb4
 go_wp2_with fail
 refine (HR3.out _).mono ?_
 rintro e w5 ⟨hb5,⟨ts',a5,c5,ho,rfl,hR⟩ | ⟨_,ho,_⟩⟩
 rotate_left
 ·cases ho
 injection ho with ho
 subst ho
 have HST:=Lib.hid (stepsX_any ts (.slice a5 ts.length c5) w5 hR hts2 refBlank_any)
 have HTK:=Lib.hid hR
 clear hR
 have HG5:=Lib.hid (th HG4.out (Nat.le_refl _) hb5)
 have HX5:=Lib.hid (HX4.out.below hb5 (Nat.le_refl _))
 clear hb5
 rw [HX.out] at HST
 go_wp2_with fail
 refine HST.out.mono ?_
 rintro e w6 ⟨hb6,⟨_,_,_,ho,_⟩ | ⟨i',ho,rfl⟩⟩
 ·cases ho
 injection ho with ho
 subst ho
 have HG6:=Lib.hid (th HG5.out (Nat.le_refl _) hb6)
 have HX6:=Lib.hid (HX5.out.below hb6 (Nat.le_refl _))
 clear hb6
 obtain ⟨x0,x1,x2,x3⟩:=HX6.out.at
 go_wp2_with fail
 refine (none_none _).mono ?_
 rintro e w8 ⟨rfl,hb8⟩
 have HG8:=Lib.hid (th HG6.out (Nat.le_refl _) hb8)
 clear hb8
 go_wp2_with fail
 refine (HAW.out _ HG8.out).mono ?_
 rintro e wz ⟨rfl,hbz⟩
 go_wp2
 go_ret
 exact ⟨rfl,hbz⟩
set_option maxHeartbeats 4000000 in
set_option maxRecDepth 20000 in
theorem xparses_bad (a : Option Addr) (len cap : Nat) (l : List UInt8) (w : World) (hm : LayT w) (hz : Byt w a len cap (ints l)) (hbig : ¬ 600 < len) (hck : ¬ chkC (ints l) < l.length) (ts : List Tok) (h30 : allL3 (linesL l) = .ok ts) (s : List Stp) (hX : xmlL ts = .ok s) (h0 : checkS s ≠ 0) :
  Calls Tryz.prog 3 #[.slice a len cap] w fun e w'=>e = .returned (.bool true) ∧ Below w.heap.size w w':=by
 have hlen : l.length = len:=by rw [← ints_len];exact hz.eqLen
 have hlim:=hz.lim
 have HAW : Hid (∀ W,Below w.heap.size w W → Calls Tryz.prog 8 #[] W fun e w'=>e = .returned (.bool true) ∧ Below w.heap.size w w'):=Lib.hid (fun W hb=>(awake5_any W (hm.below hb hm.size)).mono (fun e w' r=>⟨r.1,th hb (Nat.le_refl _) r.2⟩))
 have HPA:=Lib.hid (parse_any a len cap l w hm hz)
 have HRA : Hid (∀ W,Below w.heap.size w W → Calls Tryz.prog 10 #[.slice a len cap] W fun e w'=>(∃ v x y,e = .returned (.tuple #[.slice v x y,.int .i64 (chkC (ints l))])) ∧ Below W.heap.size W w'):=Lib.hid (fun W hb=>(refAll_any a len cap (ints l) W (hz.below hb (Nat.le_refl _)) (by omega)).mono (by
  rintro e w' ⟨v,h1,h2,h3⟩
  obtain ⟨va,vc,rfl⟩:=own_slice h2
  exact ⟨⟨va,_,vc,h1⟩,h3⟩))
 have hck0:=chkC_le (ints l)
 rw [ints_len] at hck0
 have hcc : chkC (ints l) = len:=by omega
 have hwh : Whole l:=(wholeB_iff l).1 (by simp [wholeB];omega)
 rw [hcc] at HRA
 obtain ⟨doc,hdoc⟩ : ∃ doc : ByteArray,doc = ⟨(linesL l).toArray⟩:=⟨_,rfl⟩
 have hbd : bts doc = linesL l:=by rw [hdoc,bts_mk]
 have hlw : Whole (bts doc):=by rw [hbd];exact lines_whole hwh
 have h13 : ∀ c ∈ bts doc,c ≠ 13:=by rw [hbd];exact lines_no13 l
 have hds : doc.size ≤ 600:=by
  have:=lines_len l
  rw [← bts_len,hbd];omega
 have HLN : Hid (∀ W,Below w.heap.size w W → Calls Tryz.prog 13 #[.slice a len cap] W fun e w'=>e = .returned (.string doc) ∧ Below W.heap.size W w'):=Lib.hid (fun W hb=>(lines_any a len cap l W (hz.below hb (Nat.le_refl _)) (by omega)).mono (fun e w' r=>⟨by rw [hdoc];exact r.1,r.2⟩))
 have HR3 : Hid (∀ W,Calls Tryz.prog 12 #[.string doc] W fun e w'=>Below W.heap.size W w' ∧ _):=Lib.hid (fun W=>all3_at doc W (by omega) hlw h13)
 have hE:=allT_whole (l:=l) (by omega) (by omega)
 rw [← hbd] at hE
 have h3 : allL3 (bts doc) = .ok ts:=by rw [hbd];exact h30
 rw [h3] at HR3
 have hall:=hE.1 ts h3
 have hts:=(toks_small hall).1
 have hxs:=xml_steps hall
 obtain ⟨T,hsT,hwT,hx1,hx2⟩:=hxs.2 s hX
 subst hsT
 have HX:=Lib.hid hX
 have HE:=Lib.hid (hx2 h0)
 have hsw:=steps_w T
 have hT0 : wT T ≤ 6600:=by omega
 have HSZ:=Lib.hid (steps_w T)
 have hts2 : szX ts ≤ 1000000:=by omega
 clear hlen hz hm hck0 hck hE hcc hwh hdoc hbd hlw h13 h3 h30 hall hxs hX hwT hx1 hx2 hts
 have hfb : (checkS (stepsT T) != 0) = true:=by simpa using h0
 obtain ⟨f,hf⟩ : ∃ f,f = checkS (stepsT T):=⟨_,rfl⟩
 rw [← hf] at HE hfb
 have HF:=Lib.hid hf
 clear hf h0
 go_enter Tryz.func3,Tryz.ntmps3
 go_wp2_with fail
 refine HPA.out.mono ?_
 rintro e w1 ⟨hb1,⟨p',z',her,_,rfl⟩ | ⟨_,_,_,_,_,_,_,ho,_⟩⟩
 rotate_left
 ·rw [HE.out] at ho;cases ho
 rw [HE.out] at her
 injection her with her
 obtain ⟨rfl,rfl⟩:=Prod.mk.inj her
 obtain ⟨W2,hW2⟩ : ∃ W2,W2 = w1.alloc (.cells #[.string ⟨#[]⟩,.string ⟨#[]⟩,.slice none 0 0,.slice none 0 0] 27):=⟨_,rfl⟩
 have HB2 : Hid (Below w1.heap.size w1 W2):=Lib.hid (by rw [hW2];exact (Below.refl _ w1).alloc (Nat.le_refl _) _)
 have HG2:=Lib.hid (th hb1 (Nat.le_refl _) HB2.out)
 have HX2 : Hid (Box4 w1.heap.size ⟨#[]⟩ ⟨#[]⟩ (.slice none 0 0) (.slice none 0 0) W2):=Lib.hid (by rw [hW2];exact Box4.made _ _ _ _ _)
 clear hb1 her
 go_upto_region 4 with fail
 rw [← hW2]
 clear hW2
 go_wp2_with fail
 refine (HRA.out _ HG2.out).mono ?_
 rintro e w3 ⟨⟨v,x,y,rfl⟩,hb3⟩
 have HG3:=Lib.hid (th HG2.out (Nat.le_refl _) hb3)
 have HX3:=Lib.hid (HX2.out.below hb3 (Nat.le_refl _))
 clear hb3
 go_wp2_with fail
 refine (HLN.out _ HG3.out).mono ?_
 rintro e w4 ⟨rfl,hb4⟩
 have HG4:=Lib.hid (th HG3.out (Nat.le_refl _) hb4)
 have HX4:=Lib.hid (HX3.out.below hb4 (Nat.le_refl _))
 clear hb4
 go_wp2_with fail
 refine (HR3.out _).mono ?_
 rintro e w5 ⟨hb5,⟨ts',a5,c5,ho,rfl,hR⟩ | ⟨_,ho,_⟩⟩
 rotate_left
 ·cases ho
 injection ho with ho
 subst ho
 have HST:=Lib.hid (stepsX_any ts (.slice a5 ts.length c5) w5 hR hts2 refBlank_any)
 have HTK:=Lib.hid hR
 clear hR
 have HG5:=Lib.hid (th HG4.out (Nat.le_refl _) hb5)
 have HX5:=Lib.hid (HX4.out.below hb5 (Nat.le_refl _))
 clear hb5
 rw [HX.out] at HST
 go_wp2_with fail
 refine HST.out.mono ?_
 rintro e w6 ⟨hb6,⟨s',a6,c6,ho,rfl,hR⟩ | ⟨_,ho,_⟩⟩
 rotate_left
 ·cases ho
 injection ho with ho
 subst ho
 have hA6:=AtRow.of_own hR
 have HCK:=Lib.hid (checkR_any (stepsT T) (.slice a6 (stepsT T).length c6) w6 hA6 (by omega) (fun x hx=>⟨by have:=hsw.2 x hx;omega,by have:=hsw.2 x hx;omega⟩)
  (fun s W hs _=>(refIsN_any ⟨s.toArray⟩ W (by rw [← bts_len,bts_mk];exact hs)).mono (fun e w' r=>by rw [bts_mk] at r;exact r))
  (fun s W hs _=>(chars_big ⟨s.toArray⟩ W (by rw [← bts_len,bts_mk];exact hs)).mono (fun e w' r=>by rw [bts_mk] at r;exact r)))
 rw [← HF.out] at HCK
 have HR6:=Lib.hid hA6
 clear hR hA6
 have HG6:=Lib.hid (th HG5.out (Nat.le_refl _) hb6)
 have HX6:=Lib.hid (HX5.out.below hb6 (Nat.le_refl _))
 clear hb6
 go_wp2_with fail
 refine HCK.out.mono ?_
 rintro e w7 ⟨rfl,hb7⟩
 have HG7:=Lib.hid (th HG6.out (Nat.le_refl _) hb7)
 have HX7:=Lib.hid (HX6.out.below hb7 (Nat.le_refl _))
 clear hb7
 obtain ⟨x0,x1,x2,x3⟩:=HX7.out.at
 go_wp2_with fail
 refine (none_none _).mono ?_
 rintro e w8 ⟨rfl,hb8⟩
 have HG8:=Lib.hid (th HG7.out (Nat.le_refl _) hb8)
 clear hb8
 go_wp2_with fail
 refine (HAW.out _ HG8.out).mono ?_
 rintro e wz ⟨rfl,hbz⟩
 go_wp2
 go_ret
 exact ⟨rfl,hbz⟩
set_option maxHeartbeats 4000000 in
set_option maxRecDepth 20000 in
theorem xparses_ok (a : Option Addr) (len cap : Nat) (l : List UInt8) (w : World) (hm : LayT w) (hz : Byt w a len cap (ints l)) (hbig : ¬ 600 < len) (hck : ¬ chkC (ints l) < l.length) (ts : List Tok) (h30 : allL3 (linesL l) = .ok ts) (s : List Stp) (hX : xmlL ts = .ok s) (h0 : checkS s = 0) :
  Calls Tryz.prog 3 #[.slice a len cap] w fun e w'=>e = .returned (.bool true) ∧ Below w.heap.size w w':=by
 have hlen : l.length = len:=by rw [← ints_len];exact hz.eqLen
 have hlim:=hz.lim
 have HAW : Hid (∀ W,Below w.heap.size w W → Calls Tryz.prog 8 #[] W fun e w'=>e = .returned (.bool true) ∧ Below w.heap.size w w'):=Lib.hid (fun W hb=>(awake5_any W (hm.below hb hm.size)).mono (fun e w' r=>⟨r.1,th hb (Nat.le_refl _) r.2⟩))
 have HPA:=Lib.hid (parse_any a len cap l w hm hz)
 have HRA : Hid (∀ W,Below w.heap.size w W → Calls Tryz.prog 10 #[.slice a len cap] W fun e w'=>(∃ v x y,e = .returned (.tuple #[.slice v x y,.int .i64 (chkC (ints l))])) ∧ Below W.heap.size W w'):=Lib.hid (fun W hb=>(refAll_any a len cap (ints l) W (hz.below hb (Nat.le_refl _)) (by omega)).mono (by
  rintro e w' ⟨v,h1,h2,h3⟩
  obtain ⟨va,vc,rfl⟩:=own_slice h2
  exact ⟨⟨va,_,vc,h1⟩,h3⟩))
 have hck0:=chkC_le (ints l)
 rw [ints_len] at hck0
 have hcc : chkC (ints l) = len:=by omega
 have hwh : Whole l:=(wholeB_iff l).1 (by simp [wholeB];omega)
 rw [hcc] at HRA
 obtain ⟨doc,hdoc⟩ : ∃ doc : ByteArray,doc = ⟨(linesL l).toArray⟩:=⟨_,rfl⟩
 have hbd : bts doc = linesL l:=by rw [hdoc,bts_mk]
 have hlw : Whole (bts doc):=by rw [hbd];exact lines_whole hwh
 have h13 : ∀ c ∈ bts doc,c ≠ 13:=by rw [hbd];exact lines_no13 l
 have hds : doc.size ≤ 600:=by
  have:=lines_len l
  rw [← bts_len,hbd];omega
 have HLN : Hid (∀ W,Below w.heap.size w W → Calls Tryz.prog 13 #[.slice a len cap] W fun e w'=>e = .returned (.string doc) ∧ Below W.heap.size W w'):=Lib.hid (fun W hb=>(lines_any a len cap l W (hz.below hb (Nat.le_refl _)) (by omega)).mono (fun e w' r=>⟨by rw [hdoc];exact r.1,r.2⟩))
 have HR3 : Hid (∀ W,Calls Tryz.prog 12 #[.string doc] W fun e w'=>Below W.heap.size W w' ∧ _):=Lib.hid (fun W=>all3_at doc W (by omega) hlw h13)
 have hE:=allT_whole (l:=l) (by omega) (by omega)
 rw [← hbd] at hE
 have h3 : allL3 (bts doc) = .ok ts:=by rw [hbd];exact h30
 rw [h3] at HR3
 have hall:=hE.1 ts h3
 have hts:=(toks_small hall).1
 have hxs:=xml_steps hall
 obtain ⟨T,hsT,hwT,hx1,hx2⟩:=hxs.2 s hX
 subst hsT
 have HX:=Lib.hid hX
 have HE:=Lib.hid (hx1 h0)
 have hsw:=steps_w T
 have hT0 : wT T ≤ 6600:=by omega
 have HSZ:=Lib.hid (steps_w T)
 have hts2 : szX ts ≤ 1000000:=by omega
 clear hlen hz hm hck0 hck hE hcc hwh hdoc hbd hlw h13 h3 h30 hall hxs hX hwT hx1 hx2 hts
 have HF:=Lib.hid h0
 clear h0
 go_enter Tryz.func3,Tryz.ntmps3
 go_wp2_with fail
 refine HPA.out.mono ?_
 rintro e w1 ⟨hb1,⟨_,_,ho,_⟩ | ⟨T',a1,n1,c1,a2,n2,c2,hok,rfl,htr⟩⟩
 ·rw [HE.out] at ho;cases ho
 rw [HE.out] at hok
 injection hok with hok
 subst hok
 obtain ⟨lbb,hlbb⟩ : ∃ x : ByteArray,x = ⟨(trL T).toArray⟩:=⟨_,rfl⟩
 obtain ⟨txb,htxb⟩ : ∃ x : ByteArray,x = ⟨(trX T).toArray⟩:=⟨_,rfl⟩
 have HTR:=Lib.hid htr
 rw [← hlbb,← htxb] at HTR ⊢
 obtain ⟨W2,hW2⟩ : ∃ W2,W2 = w1.alloc (.cells #[.string lbb,.string txb,.slice a1 n1 c1,.slice a2 n2 c2] 27):=⟨_,rfl⟩
 have HB2 : Hid (Below w1.heap.size w1 W2):=Lib.hid (by rw [hW2];exact (Below.refl _ w1).alloc (Nat.le_refl _) _)
 have HG2:=Lib.hid (th hb1 (Nat.le_refl _) HB2.out)
 have HX2 : Hid (Box4 w1.heap.size lbb txb (.slice a1 n1 c1) (.slice a2 n2 c2) W2):=Lib.hid (by rw [hW2];exact Box4.made _ _ _ _ _)
 have HT2:=Lib.hid (HTR.out.below HB2.out (Nat.le_refl _))
 clear hb1 htr hlbb htxb
 go_upto_region 4 with fail
 rw [← hW2]
 clear hW2
 go_wp2_with fail
 refine (HRA.out _ HG2.out).mono ?_
 rintro e w3 ⟨⟨v,x,y,rfl⟩,hb3⟩
 have HG3:=Lib.hid (th HG2.out (Nat.le_refl _) hb3)
 have HX3:=Lib.hid (HX2.out.below hb3 (Nat.le_refl _))
 have HT3:=Lib.hid (HT2.out.below hb3 (Nat.le_refl _))
 clear hb3
 go_wp2_with fail
 refine (HLN.out _ HG3.out).mono ?_
 rintro e w4 ⟨rfl,hb4⟩
 have HG4:=Lib.hid (th HG3.out (Nat.le_refl _) hb4)
 have HX4:=Lib.hid (HX3.out.below hb4 (Nat.le_refl _))
 have HT4:=Lib.hid (HT3.out.below hb4 (Nat.le_refl _))
 clear hb4
 go_wp2_with fail
 refine (HR3.out _).mono ?_
 rintro e w5 ⟨hb5,⟨ts',a5,c5,ho,rfl,hR⟩ | ⟨_,ho,_⟩⟩
 rotate_left
 ·cases ho
 injection ho with ho
 subst ho
 have HST:=Lib.hid (stepsX_any ts (.slice a5 ts.length c5) w5 hR hts2 refBlank_any)
 have HTK:=Lib.hid hR
 clear hR
 have HG5:=Lib.hid (th HG4.out (Nat.le_refl _) hb5)
 have HX5:=Lib.hid (HX4.out.below hb5 (Nat.le_refl _))
 have HT5:=Lib.hid (HT4.out.below hb5 (Nat.le_refl _))
 clear hb5
 rw [HX.out] at HST
 go_wp2_with fail
 refine HST.out.mono ?_
 rintro e w6 ⟨hb6,⟨s',a6,c6,ho,rfl,hR⟩ | ⟨_,ho,_⟩⟩
 rotate_left
 ·cases ho
 injection ho with ho
 subst ho
 have hA6:=AtRow.of_own hR
 have HCK:=Lib.hid (checkR_any (stepsT T) (.slice a6 (stepsT T).length c6) w6 hA6 (by omega) (fun x hx=>⟨by have:=hsw.2 x hx;omega,by have:=hsw.2 x hx;omega⟩)
  (fun s W hs _=>(refIsN_any ⟨s.toArray⟩ W (by rw [← bts_len,bts_mk];exact hs)).mono (fun e w' r=>by rw [bts_mk] at r;exact r))
  (fun s W hs _=>(chars_big ⟨s.toArray⟩ W (by rw [← bts_len,bts_mk];exact hs)).mono (fun e w' r=>by rw [bts_mk] at r;exact r)))
 rw [HF.out] at HCK
 have HR6:=Lib.hid hA6
 clear hR hA6
 have HG6:=Lib.hid (th HG5.out (Nat.le_refl _) hb6)
 have HX6:=Lib.hid (HX5.out.below hb6 (Nat.le_refl _))
 have HT6:=Lib.hid (HT5.out.below hb6 (Nat.le_refl _))
 clear hb6
 go_wp2_with fail
 refine HCK.out.mono ?_
 rintro e w7 ⟨rfl,hb7⟩
 have HQ7:=Lib.hid (HR6.out.below hb7 (Nat.le_refl _))
 have HG7:=Lib.hid (th HG6.out (Nat.le_refl _) hb7)
 have HX7:=Lib.hid (HX6.out.below hb7 (Nat.le_refl _))
 have HT7:=Lib.hid (HT6.out.below hb7 (Nat.le_refl _))
 clear hb7
 have HSR:=Lib.hid (stepsR_any T (by have:=HSZ.out.1;omega) _ w7 HT7.out)
 obtain ⟨x0,x1,x2,x3⟩:=HX7.out.at
 go_wp2_with fail
 refine HSR.out.mono ?_
 rintro e w8 ⟨hb8,a8,c8,rfl,hR⟩
 have HEQ:=Lib.hid (stepsEq_any (stepsT T) (stepsT T) (.slice a8 (stepsT T).length c8) (.slice a6 (stepsT T).length c6) w8 (AtRow.of_own hR) (HQ7.out.below hb8 (Nat.le_refl _)) (by have:=HSZ.out.1;omega))
 rw [decide_eq_true rfl] at HEQ
 have HG8:=Lib.hid (th HG7.out (Nat.le_refl _) hb8)
 clear hb8 hR x0 x1 x2 x3
 go_wp2_with fail
 refine HEQ.out.mono ?_
 rintro e w9 ⟨rfl,hb9⟩
 have HG9:=Lib.hid (th HG8.out (Nat.le_refl _) hb9)
 clear hb9
 go_wp2_with fail
 refine (HAW.out _ HG9.out).mono ?_
 rintro e wz ⟨rfl,hbz⟩
 go_wp2
 go_ret
 exact ⟨rfl,hbz⟩
theorem xparses_any (a : Option Addr) (len cap : Nat) (l : List UInt8) (w : World) (hm : LayT w) (hz : Byt w a len cap (ints l)) :
  Calls Tryz.prog 3 #[.slice a len cap] w fun e w'=>e = .returned (.bool true) ∧ Below w.heap.size w w':=by
 by_cases hbig : 600 < len
 ·exact xparses_far a len cap w hm hbig
 ·by_cases hck : chkC (ints l) < l.length
  ·exact xparses_ck a len cap l w hm hz hbig hck
  ·cases h3 : allL3 (linesL l) with
   | error p=>exact xparses_err a len cap l w hm hz hbig hck p h3
   | ok ts=>
    cases hX : xmlL ts with
    | error i=>exact xparses_stop a len cap l w hm hz hbig hck ts h3 i hX
    | ok s=>
     by_cases h0 : checkS s = 0
     ·exact xparses_ok a len cap l w hm hz hbig hck ts h3 s hX h0
     ·exact xparses_bad a len cap l w hm hz hbig hck ts h3 s hX h0
open Go.ChangeShapes Go.WideShapes Go.ChangeAt Go.WideMaps Go.WideElems Go.RowKit
def laid3 : List (String × DataW Unit) := [("math/bits.deBruijn32tab", Rows.laid_math_bits_deBruijn32tab), ("math/bits.deBruijn64tab", Rows.laid_math_bits_deBruijn64tab), ("internal/strconv.uint64pow10", Rows.laid_internal_strconv_uint64pow10), ("unicode/utf8.acceptRanges", Rows.laid_unicode_utf8_acceptRanges), ("strconv.ErrRange", Rows.laid_strconv_ErrRange), ("strconv.ErrSyntax", Rows.laid_strconv_ErrSyntax), ("spyglass/utf.spans", Rows.laid_spyglass_utf_spans), ("spyglass/utf.rows", Rows.laid_spyglass_utf_rows), ("unicode/utf8.first", Rows.laid_unicode_utf8_first)]
theorem own : ownKnob Tryz.prog.godebug = none:=by kernel_rfl
theorem laidOut : laidOutB Tryz.prog = true:=by kernel_rfl
theorem gSpans : Tryz.prog.globalNamed "spyglass/utf.spans" = some 1 := by kernel_rfl
theorem gRows : Tryz.prog.globalNamed "spyglass/utf.rows" = some 0 := by kernel_rfl
theorem tSpans : (Tryz.prog.globals[1]?).map (·.type) = some 207:=by kernel_rfl
theorem tRows : (Tryz.prog.globals[0]?).map (·.type) = some 203:=by kernel_rfl
theorem cells54 : Tryz.prog.cellsOf 207 = 10:=by kernel_rfl
theorem cells61 : Tryz.prog.cellsOf 203 = 12:=by kernel_rfl
theorem cells52 : Tryz.prog.cellsOf 205 = 2:=by kernel_rfl
theorem cells60 : Tryz.prog.cellsOf 202 = 3:=by kernel_rfl
theorem cells21 : Tryz.prog.cellsOf 21 = 1:=by kernel_rfl
theorem cells5 : Tryz.prog.cellsOf 5 = 1:=by kernel_rfl
theorem door_met (os : Os) (args : Array Value) : laidMetH Tryz.prog laid3 ((World.laidAll Tryz.prog os laid3).forCall (fun _ _=>0) ⟨#[],args,[]⟩).memory:=by
 rw [MakeChecks.laidMetH_plain _ _ _ (by kernel_rfl)];exact laidMet_laidAll _ (by kernel_rfl) (by kernel_rfl)
variable {W : World}
theorem span_cells {fuel : Nat} {c0 c1 : Value} {a b : Int} {p : List MemPlace} (h : DataW.trod (fun _=>()) Tryz.prog W 0 (fun _=>true) false fuel 205 [c0,c1] = some (.agg [.lit (.int .i32 a),.lit (.int .i32 b)],p)) : c0 = .int .i32 a ∧ c1 = .int .i32 b:=by
 obtain ⟨y0,y1,n,hx,_,h0,h1⟩:=trod_struct2 Tryz.underlying205 h
 simp only [Prod.mk.injEq,DataW.agg.injEq,List.cons.injEq,and_true] at hx
 simp only [cells21,List.drop_zero,List.take_succ_cons,List.take_zero,List.drop_succ_cons] at h0 h1
 obtain ⟨a',e0,rfl,_⟩:=DataW.trod_int Tryz.underlying21 h0
 obtain ⟨b',e1,rfl,_⟩:=DataW.trod_int Tryz.underlying21 h1
 simp only [DataW.lit.injEq,Lit.int.injEq,true_and] at hx
 simp only [List.cons.injEq,and_true] at e0 e1
 rw [e0,e1,hx.1.1,hx.1.2]
 exact ⟨rfl,rfl⟩
theorem row_cells {fuel : Nat} {c0 c1 c2 : Value} {a b c : Int} {p : List MemPlace} (h : DataW.trod (fun _=>()) Tryz.prog W 0 (fun _=>true) false fuel 202 [c0,c1,c2] = some (.agg [.lit (.int .i32 a),.lit (.int .u8 b),.lit (.int .u8 c)],p)) : c0 = .int .i32 a ∧ c1 = .int .u8 b ∧ c2 = .int .u8 c:=by
 obtain ⟨y0,y1,y2,n,hx,_,h0,h1,h2⟩:=Deep.trod_struct3 Tryz.underlying202 h
 simp only [Prod.mk.injEq,DataW.agg.injEq,List.cons.injEq,and_true] at hx
 simp only [cells21,cells5,List.drop_zero,List.take_succ_cons,List.take_zero,List.drop_succ_cons] at h0 h1 h2
 obtain ⟨a',e0,rfl,_⟩:=DataW.trod_int Tryz.underlying21 h0
 obtain ⟨b',e1,rfl,_⟩:=DataW.trod_int Tryz.underlying5 h1
 obtain ⟨c',e2,rfl,_⟩:=DataW.trod_int Tryz.underlying5 h2
 simp only [DataW.lit.injEq,Lit.int.injEq,true_and] at hx
 simp only [List.cons.injEq,and_true] at e0 e1 e2
 rw [e0,e1,e2,hx.1.1,hx.1.2.1,hx.1.2.2]
 exact ⟨rfl,rfl,rfl⟩
theorem block_of_var {P : Program} {n : String} {g : Nat} {cs : Array Value} (hg : P.globalNamed n = some g) (h : W.var? P n = some cs) : ∃ t fr,W.heap[g]? = some (.cells cs t fr):=by
 simp only [World.var?,hg,Option.bind_some] at h
 split at h
 ·rename_i c t fr he
  cases h
  exact ⟨t,fr,he⟩
 ·cases h
theorem gSyn : Tryz.prog.globalNamed "strconv.ErrSyntax" = some 5 := by kernel_rfl
theorem tSyn : (Tryz.prog.globals[5]?).map (·.type) = some 102:=by kernel_rfl
theorem star : "*" ++ "errors.errorString" = "*errors.errorString" := by decide
theorem ptrSyn (u : TypeId) (h : Tryz.prog.typeName? 3 u = some "*errors.errorString") : u = 308 :=
 typeName_ptr_named (nm := "errors.errorString") (by rw [star]; kernel_rfl) (by kernel_rfl) (by decide) u (by rw [star]; exact h)
set_option maxRecDepth 20000 in
theorem of_laid (h : laidMetH Tryz.prog laid3 W) : LayS W:=by
 rw [MakeChecks.laidMetH_plain _ _ _ (by kernel_rfl)] at h
 have h4:=h.tail.tail.tail.tail.tail
 refine ⟨?_,?_⟩
 rotate_left
 ·obtain ⟨a,s,hv,_⟩:=laid_sentinel h4 gSyn tSyn Tryz.underlying102 ptrSyn Tryz.underlying308 Tryz.underlying310 rfl rfl Tryz.underlying9 (by kernel_rfl) (by kernel_rfl)
  exact ⟨_,_,by simpa using World.var?_cell gSyn hv 0⟩
 replace h:=h4.tail
 obtain ⟨ps,⟨g0,t0,cs0,f0,p0,q0,hg0,ht0,hv0,hd0,⟨g1,t1,cs1,f1,p1,q1,hg1,ht1,hv1,hd1,_,_⟩,_⟩,_,_⟩:=h
 obtain rfl:=Option.some.inj (gSpans.symm.trans hg0)
 obtain rfl:=Option.some.inj (gRows.symm.trans hg1)
 obtain rfl:=Option.some.inj (tSpans.symm.trans ht0)
 obtain rfl:=Option.some.inj (tRows.symm.trans ht1)
 obtain ⟨ta,fa,ha⟩:=block_of_var gSpans hv0
 obtain ⟨tb,fb,hb⟩:=block_of_var gRows hv1
 refine ⟨⟨ta,fa,?_⟩,⟨tb,fb,?_⟩⟩
 ·rw [ha]
  obtain ⟨xs,m1,rfl,hx,hlen,hn,hel⟩:=DataW.trod_array Tryz.underlying207 hd0
  rw [cells54] at hlen
  simp only [cells52] at hel
  obtain ⟨l⟩:=cs0
  simp only [Rows.laid_spyglass_utf_spans,Prod.mk.injEq,DataW.agg.injEq] at hx
  match l,hlen,xs,hn,hx,hel with
  | [c0,c1,c2,c3,c4,c5,c6,c7,c8,c9],_,[x0,x1,x2,x3,x4],_,hx,hel=>
   simp only [List.map_cons,List.map_nil,List.cons.injEq,and_true] at hx
   obtain ⟨d0,u0⟩:=x0
   obtain ⟨d1,u1⟩:=x1
   obtain ⟨d2,u2⟩:=x2
   obtain ⟨d3,u3⟩:=x3
   obtain ⟨d4,u4⟩:=x4
   obtain ⟨⟨rfl,rfl,rfl,rfl,rfl⟩,_⟩:=hx
   obtain ⟨rfl,rfl⟩:=span_cells (c0:=c0) (c1:=c1) (hel 0 (by decide))
   obtain ⟨rfl,rfl⟩:=span_cells (c0:=c2) (c1:=c3) (hel 1 (by decide))
   obtain ⟨rfl,rfl⟩:=span_cells (c0:=c4) (c1:=c5) (hel 2 (by decide))
   obtain ⟨rfl,rfl⟩:=span_cells (c0:=c6) (c1:=c7) (hel 3 (by decide))
   obtain ⟨rfl,rfl⟩:=span_cells (c0:=c8) (c1:=c9) (hel 4 (by decide))
   rfl
 ·rw [hb]
  obtain ⟨xs,m1,rfl,hx,hlen,hn,hel⟩:=DataW.trod_array Tryz.underlying203 hd1
  rw [cells61] at hlen
  simp only [cells60] at hel
  obtain ⟨l⟩:=cs1
  simp only [Rows.laid_spyglass_utf_rows,Prod.mk.injEq,DataW.agg.injEq] at hx
  match l,hlen,xs,hn,hx,hel with
  | [c0,c1,c2,c3,c4,c5,c6,c7,c8,c9,c10,c11],_,[x0,x1,x2,x3],_,hx,hel=>
   simp only [List.map_cons,List.map_nil,List.cons.injEq,and_true] at hx
   obtain ⟨d0,u0⟩:=x0
   obtain ⟨d1,u1⟩:=x1
   obtain ⟨d2,u2⟩:=x2
   obtain ⟨d3,u3⟩:=x3
   obtain ⟨⟨rfl,rfl,rfl,rfl⟩,_⟩:=hx
   obtain ⟨rfl,rfl,rfl⟩:=row_cells (c0:=c0) (c1:=c1) (c2:=c2) (hel 0 (by decide))
   obtain ⟨rfl,rfl,rfl⟩:=row_cells (c0:=c3) (c1:=c4) (c2:=c5) (hel 1 (by decide))
   obtain ⟨rfl,rfl,rfl⟩:=row_cells (c0:=c6) (c1:=c7) (c2:=c8) (hel 2 (by decide))
   obtain ⟨rfl,rfl,rfl⟩:=row_cells (c0:=c9) (c1:=c10) (c2:=c11) (hel 3 (by decide))
   rfl
theorem mx_open (h : W.ShapedOpen Tryz.prog) : Mx W:=
 cell_of_shapedOpen_int (t:=3) (zero:=#[.int .i64 0]) h (of_decide_eq_true (by kernel_rfl)) (by kernel_rfl) rfl (by kernel_rfl) (by kernel_rfl) Tryz.underlying3
theorem t_of_laid (h : laidMetH Tryz.prog laid3 W) (ho : W.ShapedOpen Tryz.prog) : LayT W:=⟨of_laid h,mx_open ho⟩
theorem exists_ints : ∀ zs : List Int,(∀ z ∈ zs,0 ≤ z ∧ z ≤ 255) → ∃ l : List UInt8,ints l = zs:=by
 intro zs
 induction zs with
 | nil=>intro _;exact ⟨[],rfl⟩
 | cons z r ih=>
  intro h
  obtain ⟨l,rfl⟩:=ih (fun y hy=>h y (List.mem_cons_of_mem _ hy))
  obtain ⟨h0,h1⟩:=h z (List.mem_cons_self ..)
  refine ⟨UInt8.ofNat z.toNat :: l,?_⟩
  unfold ints
  rw [List.map_cons]
  congr 1
  show ((UInt8.ofNat z.toNat).toNat : Int) = z
  rw [UInt8.toNat_ofNat']
  omega
theorem handed_both {H : Type} {enc : TypeId × Value → H} {a : Assume} {C : Checked} {os : Os} {f : FuncId} {fn : Func} {s : ChangeSpec} {conds : List PathCond} {apart fresh handsOn again : Bool} {X : World → Array Value → Prop}
  (hX : ∀ (w w' : World) (args : Array Value),w.heap = w'.heap → X w args → X w' args)
  (own : ownKnob C.prog.godebug = none) (started : os.Started) (noInit : C.prog.inits.idxOf? f = none) (hfn : C.prog.funcs[f]? = some fn)
  (witness : ∃ (w : World) (tape : Tape) (i : Input),w.os = os ∧ (w.forCall tape i).Shaped C.prog ∧ i.vars = [] ∧ Input.okWide C.prog (w.forCall tape i) .any w.heap.size f i ∧
   ((s.pre enc C.prog fn conds apart (w.forCall tape i).memory i.args ∧ X (w.forCall tape i).memory i.args) ∧ sizedMet enc C.prog fn (OpenSpec.ofChange s) apart (w.forCall tape i).memory i.args) ∧ a.holds C.prog (lone (Frame.enter C.prog f i.args .normal) [] (w.forCall tape i)))
  (contract : ∀ (W : World) (base : Nat) (args : Array Value) (ds gs : List (DataW H)) (before : List MemPlace),
   (∀ (j : Nat) t v,fn.params[j]? = some t → args[j]? = some v → Value.okWide C.prog W .any base t v) →
   DataW.Whole enc C.prog fn.params.toList s.vars apart W args.toList ds gs before → X W args → W.ShapedOpen C.prog →
   Calls C.prog f args W fun e W'=>∃ v,e = .returned v ∧ s.post enc C.prog fn apart fresh handsOn again W args v W') :
  ReturnsInHanded a C os f .any (fun w args=>(s.pre enc C.prog fn conds apart w args ∧ X w args) ∧ sizedMet enc C.prog fn (OpenSpec.ofChange s) apart w args) (s.post enc C.prog fn apart fresh handsOn again):=by
 refine returnsInHanded_of_calls own started noInit witness ?_
 intro w tape i _ hsh _ hok hpre hholds
 obtain ⟨_,_,_,fn',hfn',_,_,_,_,hval⟩:=hok
 have e : fn' = fn:=Option.some.inj (hfn'.symm.trans hfn)
 subst e
 obtain ⟨⟨⟨ds,gs,before,hw,hc⟩,hx⟩,hz⟩:=hpre
 have hw':=DataW.Whole.of_heap (w':=w.forCall tape i) (by rfl) hw
 refine (contract (w.forCall tape i) w.heap.size i.args ds gs before hval hw' (hX _ _ _ (by rfl) hx) hsh).mono fun e W' ⟨v,he,hp⟩=>?_
 subst he
 exact ChangeSpec.post_blind hp
open Go.ChangeShapes Go.WideShapes Go.ChangeAt Go.RowKit
theorem IsRow.cellAt {k : IntKind} {w : World} {a : Option Addr} {len cap : Nat} {z : List Int} (h : IsRow k w a len cap z) (h0 : 0 < len) :
  ∃ b off,a = some ⟨b,off,none⟩ ∧ ∀ i,i < len → w.cell? ⟨b,off + i,none⟩ = some (.int k ((z.take len)[i]?.getD 0)):=by
 rcases h with ⟨_,h1,_⟩ | ⟨x,rfl,hl,hm,hz,hcell,hwz⟩
 ·omega
 ·obtain ⟨b,off,spot⟩:=x
  have hspot : spot = none:=by simpa [Addr.add] using World.cell?_spot (hcell 0 (by omega))
  subst hspot
  refine ⟨b,off,rfl,fun i hi=>?_⟩
  have:=hcell i (by omega)
  have e : (⟨b,off,none⟩ : Addr).add i = ⟨b,off + i,none⟩:=by unfold Addr.add;split <;> simp_all
  rw [e] at this
  rw [this,List.getElem?_take_of_lt hi]
  rfl
theorem IsRow.lens {k : IntKind} {w : World} {a : Option Addr} {len cap : Nat} {z : List Int} (h : IsRow k w a len cap z) : (z.take len).length = len ∧ len ≤ cap:=by
 rcases h with ⟨rfl,rfl,rfl,rfl⟩ | ⟨x,rfl,hl,hm,hz,hcell,hwz⟩
 ·simp
 ·exact ⟨by simp;omega,hl⟩
theorem IsRow.wfs {k : IntKind} {w : World} {a : Option Addr} {len cap : Nat} {z : List Int} (h : IsRow k w a len cap z) : ∀ n ∈ z.take len,(Lit.int k n).wf = true:=by
 intro n hn
 have hn:=List.mem_of_mem_take hn
 rcases h with ⟨rfl,rfl,rfl,rfl⟩ | ⟨x,rfl,hl,hm,hz,hcell,hwz⟩
 ·cases hn
 ·exact hwz n hn
theorem IsRow.byt {w : World} {a : Option Addr} {len cap : Nat} {z : List Int} (h : IsRow .u8 w a len cap z) (hl : len ≤ 140737488351232) : Byt w a len cap (z.take len):=
 ⟨h.lens.1,h.lens.2,hl,fun n hn=>bounds_u8 (h.wfs n hn),h.cellAt⟩
theorem open_ints_row {H : Type} {enc : TypeId × Value → H} {W : World} {k : IntKind} {t e : TypeId} (ht : Tryz.prog.underlying t = some (.slice e)) (he : Tryz.prog.underlying e = some (.int k)) (hc : Tryz.prog.cellsOf e = 1) {a : Option Addr} {len cap : Nat} {d : DataW H} {p : List MemPlace} {fuel : Nat}
  (h : DataW.trod enc Tryz.prog W 0 (fun _=>true) true fuel t (Value.slice a len cap).cells.toList = some (d,p)) : ∃ zs,IsRow k W a len cap zs:=by
 rcases open_ints ht he hc h with ⟨hcs,_⟩ | ⟨x,l,c,zs,hcs,_,hl,hm,hz,_,hcell,hwz⟩
 ·simp [Value.cells] at hcs
  obtain ⟨rfl,rfl,rfl⟩:=hcs
  exact ⟨[],.inl ⟨rfl,rfl,rfl,rfl⟩⟩
 ·simp [Value.cells] at hcs
  obtain ⟨rfl,rfl,rfl⟩:=hcs
  exact ⟨zs,.inr ⟨_,rfl,hl,hm,by simpa using hz,hcell,hwz⟩⟩
end Go.Proofs.YtjldpkhfiffinaaGreatDoor.U
namespace Go.Proofs.YtjldpkhfiffinaaGreatDoor.XmlParsesP
open Go.ChangeShapes Go.WideShapes Go.ChangeAt Go.WideMaps Go.WideElems Go.RowKit U
open Go.ChangeMaps (open_string shut_string)
theorem walk (a0 : Option Addr) (len0 cap0 : Nat) (z0 : List Int) (w : World) (w0 : IsRow .u8 w a0 len0 cap0 z0) (hl : LayT w) :
  Calls Tryz.prog 3 #[.slice a0 len0 cap0] w fun e w'=>e = .returned (.bool true) ∧ Below w.heap.size w w':=by
 by_cases h : 600 < len0
 ·exact xparses_far a0 len0 cap0 w hl h
 ·have hz:=w0.byt (by omega)
  obtain ⟨l,hl2⟩:=exists_ints _ hz.byte
  rw [← hl2] at hz
  exact xparses_any a0 len0 cap0 l w hl hz
set_option maxRecDepth 100000 in
theorem lifted (os : Os) (started : os.Started) (H : Type) (enc : TypeId × Value → H) :
  ReturnsInHanded {} Tryz.checked os 3 .any (fun w args=>(Rows.xmlParsesSpec.pre enc Tryz.prog Tryz.f3 [] false w args ∧ laidMetH Tryz.prog laid3 w) ∧ sizedMet enc Tryz.prog Tryz.f3 (OpenSpec.ofChange Rows.xmlParsesSpec) false w args)
   (Rows.xmlParsesSpec.post enc Tryz.prog Tryz.f3 false true false false):=by
 refine handed_both (C:=Tryz.checked) (X:=fun w _=>laidMetH Tryz.prog laid3 w) (fun _ _ _ hh h=>h.of_heap hh) own started (by kernel_rfl) Tryz.func3
  (ChangeSpec.witness_shaped (enc:=enc) (C:=Tryz.checked) (os:=os) (X:=fun w _=>laidMetH Tryz.prog laid3 w) false (World.laidAll Tryz.prog os laid3) #[.slice none 0 0] 8 (World.laidAll_os _ _ _) (World.shaped_of_ZipB (by kernel_rfl) (by kernel_rfl)) (by kernel_rfl) (by kernel_rfl) (by kernel_rfl) (door_met os _)) ?_
 intro W base args ds gs before hval0 hW hL hO
 have hval : ∀ (j : Nat) t v,Tryz.f3.params[j]? = some t → args[j]? = some v → Value.okWide Tryz.prog W .any base t v:=hval0
 have hW':=hW
 obtain ⟨p,q,hA0,hV,rfl,hfz,hnd⟩:=hW
 have hA : DataW.TrodAll enc Tryz.prog W 0 (fun _=>true) true Tryz.f3.params.toList args.toList ds p:=hA0
 rw [Tryz.params3] at hA hval
 obtain ⟨v0,vs0,d0,ds0,p0,q0,hargs,rfl,rfl,h0,r0⟩:=trodAll_cons hA
 obtain ⟨rfl,rfl,rfl⟩:=trodAll_nil r0
 obtain rfl : args = #[v0]:=by cases args;simp_all
 obtain ⟨rfl,rfl⟩:=trodVars_none hV
 obtain ⟨a0,len0,cap0,rfl⟩:=okWide_slice Tryz.underlying22 (hval 0 22 v0 rfl rfl)
 have k0:=h0
 have lt0 : ∀ x ∈ p0,x.block < W.heap.size:=by obtain ⟨m,hm⟩:=k0;exact DataW.trod_lt m _ _ _ hm
 obtain ⟨f0,hf0⟩:=h0
 obtain ⟨z0,w0⟩:=open_ints_row (k:=.u8) Tryz.underlying22 Tryz.underlying5 cells5 hf0
 clear hA0 hval0
 refine (walk a0 len0 cap0 z0 W w0 (t_of_laid hL hO)).mono fun e W' ⟨he,bel⟩=>?_
 subst he
 exact ⟨_,rfl,_,_,_,[],_,[],hW',trodAll_mk1 (shut_bool Tryz.underlying4 _),(trodAll_cons_mk (Below.trod laidOut (by kernel_rfl) (of_decide_eq_true (by kernel_rfl)) k0 bel lt0) trodAll_mk0),rfl,bel.frame _,fun h=>by cases h⟩
theorem over : Rows.xmlParsesRow.holds Tryz.pinned (OpenSpec.ofChange Rows.xmlParsesSpec):=
 OpenClaim.holds_of_wide 3 Tryz.f3 rfl rfl rfl rfl rfl rfl rfl ⟨rfl,rfl,rfl,rfl,rfl⟩ rfl rfl rfl rfl rfl (by kernel_rfl) Tryz.func3 (by kernel_rfl)
  (of_decide_eq_true (by kernel_rfl)) (by unfold Func.isWrapper;first | (rw [if_pos (by decide +kernel)];kernel_rfl) | (rw [if_neg (by decide +kernel)];exact ⟨rfl,rfl⟩))
  (fun os started H enc _=>lifted os started H enc)
end Go.Proofs.YtjldpkhfiffinaaGreatDoor.XmlParsesP
namespace Go.Proofs.YtjldpkhfiffinaaGreatDoor
theorem xmlParses_proved : Rows.XmlParsesCardSaid:=
 Claim7.holds_tied_plain_at .later [] [.data, .data, .data, .data, .sentinel, .sentinel, .data, .data, .pinned] true (true, "4148650d6e0846488ce487377aadbf32be7dd7120a5a7c6cb84a32f3e199f1d9") true
  XmlParsesP.over (fun _ h=>by cases h) (by kernel_rfl) (fun _ h=>by cases h) xmlParses_row_tie rfl ⟨rfl,rfl⟩ (by kernel_rfl) rfl
  (fun f fn hf hfn=>by
   obtain rfl : f = 3 := Option.some.inj ((show Tryz.prog.funcNamed "spyglass/spyglasslaw05.XmlParses" = some 3 by kernel_rfl).symm.trans hf) |>.symm
   obtain rfl : fn = Tryz.f3:=(Option.some.inj (Tryz.func3.symm.trans hfn)).symm
   exact ⟨by kernel_rfl,fun j t ht=>by
    rw [Tryz.params3] at ht
    have hm : t ∈ [22]:=by simpa using Array.mem_of_getElem? ht
    have hall : ([22].all fun u=>!Tryz.prog.wantsStandIn u) = true:=by kernel_rfl
    exact (show Tryz.prog.wantsStandIn t = false by simpa using List.all_eq_true.1 hall t hm)⟩)
  (by kernel_rfl)
#print axioms xmlParses_proved
end Go.Proofs.YtjldpkhfiffinaaGreatDoor
