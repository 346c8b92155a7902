/- The law XmlValues holds where the two texts hold together at most 1048576 letters: it returns true and leaves what it was given as it was. Conditions: that bound; the listed package variables (the tables of package utf, the library's errors and tables) start as the program's text lays them, one of Go's own tables as it is pinned by name (the card ties them). -/
import Derived.Test.YtjldpkhfiffinaaGreatDoorZV01
import Derived.Below
import Derived.Laws.RangeAny
import Derived.WalkLawsBesides
import Derived.Lib.RuneBytes
import Derived.Lib.Strings
import Derived.Lib.Bytealg
import Derived.RowKit3
import Derived.Test.YtjldpkhfiffinaaGreatDoorRows
import Derived.WalkKit
import Derived.WalkSpells
import Derived.Lib.Hide
import Derived.Laws.Rows
import Derived.Deep.DeepMust
import Derived.Deep.RegionLaw
import Derived.Maps.AppendAt
import Derived.BigRegion
import Derived.RangeFuncBox
import Derived.BigQuiet
import Derived.Deep.QuietTactic
import Derived.Lib.OthersKept
import Derived.BigCall
import Derived.Shelf.Abstract
import Derived.Lib.ConvBytes
import Derived.Shelf.Strings.Builder1
import Derived.Shelf.Strings.Builder2
import Derived.Shelf.Small.Strs
import Derived.Shelf.Small.Wraps
import Derived.Shelf.Strings.BuilderF
import Derived.Shelf.Strings.BuilderK
import Derived.Shelf.Strings.BuilderRune
import Derived.Ground.MpProg
import Derived.Shelf.Pu.ParseUintPublic10
import Derived.Shelf.Strings.Search1
import Derived.Shelf.Strings.Search2
import Derived.Shelf.Strings.Search3
import Derived.Shelf.Strings.Cut
import Derived.Shelf.Strings.Count
import Derived.Shelf.LaysM
import Derived.Shelf.Strings.Shaped
import Derived.Shelf.Strings.Prefix
import Derived.Shelf.Strings.Split
import Derived.Shelf.Strings.Replace
import Derived.Shelf.Strings.SplitShaped
import Derived.Shelf.Unicode.DecodeSlow
import Derived.Shelf.Vars
import Derived.HandedShaped
import Derived.Lay
import Derived.Stop.LaidErr
import Derived.ProofKit
import Derived.LaidMore
import Derived.OpenShut
import Derived.Stop.Joined
import Derived.Deep.Strs
import Derived.ShutString
import Derived.ChangeOld
import Derived.Test.YtjldpkhfiffinaaGreatDoorCards
import Derived.Test.YtjldpkhfiffinaaGreatDoorTie
import Derived.ChangeMaps5
import Derived.Deep.DeepHandedRow
import Derived.JoinedCond
namespace Go.Proofs.YtjldpkhfiffinaaGreatDoor.U
open Go.RowKit Go.Shelf
theorem mkb (s : ByteArray) : (⟨(bts s).toArray⟩ : ByteArray) = s:=bts_inj (by rw [bts_mk])
theorem sum_to {x y z : ByteArray} {a b : List UInt8} (hx : x = ⟨a.toArray⟩) (hy : y = ⟨b.toArray⟩) (hz : z = ⟨(a ++ b).toArray⟩) (ha : a.length ≤ 4000000) (hb : b.length ≤ 4000000) (W : World) : (Op.stringOp .add x y).run Tryz.prog W = .ok (.string z) W:=by
 rw [hx,hy,hz];exact add_any a b ha hb W
theorem value_one (n v : List UInt8) (nb vb : ByteArray) (hs : List Value) (W : World) (hn : nb = ⟨n.toArray⟩) (hv : vb = ⟨v.toArray⟩) (ht : TreeV W (.node [97] [] [(n,v)] []) hs) :
  Calls Tryz.prog 29 #[.agg hs.toArray,.string nb] W fun e w'=>e = .returned (.tuple #[.string vb,.bool true]) ∧ Below W.heap.size W w':=by
 have h:=valueT_any (.node [97] [] [(n,v)] []) hs n W ht (by simp)
 rw [hn]
 refine h.mono ?_
 rintro e w' ⟨he,hb⟩
 refine ⟨?_,hb⟩
 rw [he,hv]
 simp [valueA]
set_option maxHeartbeats 4000000 in
set_option maxRecDepth 20000 in
theorem xvalues_in (nb vb : ByteArray) (w : World) (hm : LayT w) (h1 : nb.size ≤ 60) (h2 : vb.size ≤ 100) (hn : nameL (bts nb) = true) (hw : wholeB (bts vb) = true) :
  Calls Tryz.prog 7 #[.string nb,.string vb] w fun e w'=>e = .returned (.bool true) ∧ Below w.heap.size w w':=by
 have HAW : Hid (∀ W,Below w.heap.size w W → Calls Tryz.prog 8 #[] W fun e w'=>e = .returned (.bool true) ∧ Below w.heap.size w w'):=Lib.hid (fun W hb=>(awake5_any W (hm.below hb hm.size)).mono (fun e w' r=>⟨r.1,th hb (Nat.le_refl _) r.2⟩))
 have HM:=Lib.hid hm
 have hvw : Whole (bts vb):=(wholeB_iff _).1 hw
 have h1b : (bts nb).length ≤ 60:=by rw [bts_len];exact h1
 have h2b : (bts vb).length ≤ 100:=by rw [bts_len];exact h2
 have HRV:=Lib.hid (read_docV hn hvw h1b h2b)
 have HRQ : Hid ((∀ b ∈ escL true (bts vb),b ≠ 39) → parseX (docQ (bts nb) (bts vb)) = .ok (.node [97] [] [(bts nb,bts vb)] [])):=Lib.hid (fun hq=>read_docQ hn hvw hq h1b h2b)
 have HES:=Lib.hid (escape_big true vb w hm.lay.lay (by omega))
 have hel:=(escL_len true (bts vb)).2
 have hep : escP true (bts vb) = (escL true (bts vb),0):=by unfold escP;rw [if_pos hw]
 rw [hep] at HES
 obtain ⟨eb,heb⟩ : ∃ eb : ByteArray,eb = ⟨(escL true (bts vb)).toArray⟩:=⟨_,rfl⟩
 rw [← heb] at HES
 have heq : bts eb = escL true (bts vb):=by rw [heb,bts_mk]
 have hes : eb.size ≤ 600:=by rw [← bts_len,heq];omega
 have HEQ:=Lib.hid heq
 have HIN : Hid (∀ W,Calls Tryz.prog 28 #[.string nb] W fun e w'=>e = .returned (.bool true) ∧ Below W.heap.size W w'):=Lib.hid (fun W=>by have h:=isName_any nb W;rw [hn] at h;exact h)
 obtain ⟨T,hTd⟩ : ∃ T : Tr,T = .node [97] [] [(bts nb,bts vb)] []:=⟨_,rfl⟩
 rw [← hTd] at HRV HRQ
 have HTD:=Lib.hid hTd
 have HTL : Hid ((⟨(trL T).toArray⟩ : ByteArray) = ⟨#[97]⟩ ∧ (⟨(trX T).toArray⟩ : ByteArray) = ⟨#[]⟩):=Lib.hid (by rw [hTd];exact ⟨rfl,rfl⟩)
 have HSZ : Hid (sizeT T = true):=Lib.hid (by rw [hTd];simp [sizeT,sizeK])
 obtain ⟨z1,zh1⟩ : ∃ x : ByteArray,x = ⟨([60,97,32] ++ bts nb).toArray⟩:=⟨_,rfl⟩
 obtain ⟨z2,zh2⟩ : ∃ x : ByteArray,x = ⟨([60,97,32] ++ bts nb ++ [32,61,10,34]).toArray⟩:=⟨_,rfl⟩
 obtain ⟨z3,zh3⟩ : ∃ x : ByteArray,x = ⟨([60,97,32] ++ bts nb ++ [32,61,10,34] ++ escL true (bts vb)).toArray⟩:=⟨_,rfl⟩
 obtain ⟨z4,zh4⟩ : ∃ x : ByteArray,x = ⟨([60,97,32] ++ bts nb ++ [32,61,10,34] ++ escL true (bts vb) ++ [34,47,62]).toArray⟩:=⟨_,rfl⟩
 have z1q : ∀ W : World,(Op.stringOp .add ⟨#[60,97,32]⟩ nb).run Tryz.prog W = .ok (.string z1) W:=fun W=>sum_to rfl (mkb nb).symm zh1 (by simp) (by omega) W
 have z2q : ∀ W : World,(Op.stringOp .add z1 ⟨#[32,61,10,34]⟩).run Tryz.prog W = .ok (.string z2) W:=fun W=>sum_to zh1 rfl zh2 (by simp;omega) (by simp) W
 have z3q : ∀ W : World,(Op.stringOp .add z2 eb).run Tryz.prog W = .ok (.string z3) W:=fun W=>sum_to zh2 heb zh3 (by simp;omega) (by omega) W
 have z4q : ∀ W : World,(Op.stringOp .add z3 ⟨#[34,47,62]⟩).run Tryz.prog W = .ok (.string z4) W:=fun W=>sum_to zh3 rfl zh4 (by simp;omega) (by simp) W
 have ZW4d : Hid (bts z4 = docV (bts nb) (bts vb)):=Lib.hid (by rw [zh4,bts_mk];unfold docV;simp)
 have ZW4s : Hid (z4.size ≤ 1000):=Lib.hid (by rw [← bts_len,zh4,bts_mk];simp;omega)
 obtain ⟨y1,yh1⟩ : ∃ x : ByteArray,x = ⟨([60,97,9] ++ bts nb).toArray⟩:=⟨_,rfl⟩
 obtain ⟨y2,yh2⟩ : ∃ x : ByteArray,x = ⟨([60,97,9] ++ bts nb ++ [61,39]).toArray⟩:=⟨_,rfl⟩
 obtain ⟨y3,yh3⟩ : ∃ x : ByteArray,x = ⟨([60,97,9] ++ bts nb ++ [61,39] ++ escL true (bts vb)).toArray⟩:=⟨_,rfl⟩
 obtain ⟨y4,yh4⟩ : ∃ x : ByteArray,x = ⟨([60,97,9] ++ bts nb ++ [61,39] ++ escL true (bts vb) ++ [39,32,62,60,47,97,32,62]).toArray⟩:=⟨_,rfl⟩
 have y1q : ∀ W : World,(Op.stringOp .add ⟨#[60,97,9]⟩ nb).run Tryz.prog W = .ok (.string y1) W:=fun W=>sum_to rfl (mkb nb).symm yh1 (by simp) (by omega) W
 have y2q : ∀ W : World,(Op.stringOp .add y1 ⟨#[61,39]⟩).run Tryz.prog W = .ok (.string y2) W:=fun W=>sum_to yh1 rfl yh2 (by simp;omega) (by simp) W
 have y3q : ∀ W : World,(Op.stringOp .add y2 eb).run Tryz.prog W = .ok (.string y3) W:=fun W=>sum_to yh2 heb yh3 (by simp;omega) (by omega) W
 have y4q : ∀ W : World,(Op.stringOp .add y3 ⟨#[39,32,62,60,47,97,32,62]⟩).run Tryz.prog W = .ok (.string y4) W:=fun W=>sum_to yh3 rfl yh4 (by simp;omega) (by simp) W
 have YW4d : Hid (bts y4 = docQ (bts nb) (bts vb)):=Lib.hid (by rw [yh4,bts_mk];unfold docQ;simp)
 have YW4s : Hid (y4.size ≤ 1000):=Lib.hid (by rw [← bts_len,yh4,bts_mk];simp;omega)
 have h1i : ¬ (60 : Int) < nb.size:=by omega
 have h2i : ¬ (100 : Int) < vb.size:=by omega
 clear hm hvw h1b h2b hel hep heb heq hTd hn hw zh1 zh2 zh3 zh4 yh1 yh2 yh3 yh4
 go_enter Tryz.func7,Tryz.ntmps7
 go_wp2_with fail
 refine HES.out.mono ?_
 rintro e w1 ⟨rfl,hb1⟩
 have HG1:=Lib.hid hb1
 clear hb1
 go_wp2_with fail
 refine (HIN.out _).mono ?_
 rintro e w2 ⟨rfl,hb2⟩
 have HG2:=Lib.hid (th HG1.out (Nat.le_refl _) hb2)
 clear hb2
 have hcv:=conv_any w2 z4
 have HB3:=Lib.hid (bytes_below w2 z4)
 have hby:=bytes_byt w2 z4 (by have:=ZW4s.out;omega)
 rw [ZW4d.out] at hby
 obtain ⟨cp,hcp⟩ : ∃ cp,cp = grownCap w2 z4.size 0 5:=⟨_,rfl⟩
 rw [← hcp] at hcv hby
 obtain ⟨w3,hw3⟩ : ∃ w3,w3 = Lib.bytesWorld w2 5 z4:=⟨_,rfl⟩
 rw [← hw3] at hcv hby HB3
 have HG3:=Lib.hid (th HG2.out (Nat.le_refl _) HB3.out)
 have HPA:=Lib.hid (parse_any (some ⟨w2.heap.size,0,none⟩) z4.size cp (docV (bts nb) (bts vb)) w3 (HM.out.below HG3.out HM.out.size) hby)
 clear hby hcp hw3
 go_wp2_with fail
 refine HPA.out.mono ?_
 rintro e w4 ⟨hb4,⟨_,_,ho,_⟩ | ⟨T',a1,n1,c1,a2,n2,c2,hok,rfl,htr⟩⟩
 ·rw [HRV.out] at ho;cases ho
 rw [HRV.out] at hok
 injection hok with hok
 subst hok
 rw [HTL.out.1,HTL.out.2] at htr ⊢
 obtain rfl : n1 = 1:=one_attr (by rw [HTD.out] at htr;exact htr)
 have HT4:=Lib.hid htr
 obtain ⟨W5,hW5⟩ : ∃ W5,W5 = w4.alloc (.cells #[.string ⟨#[97]⟩,.string ⟨#[]⟩,.slice a1 1 c1,.slice a2 n2 c2] 27):=⟨_,rfl⟩
 have HB5 : Hid (Below w4.heap.size w4 W5):=Lib.hid (by rw [hW5];exact (Below.refl _ w4).alloc (Nat.le_refl _) _)
 have HG4:=Lib.hid (th HG3.out (Nat.le_refl _) hb4)
 have HG5:=Lib.hid (th HG4.out (Nat.le_refl _) HB5.out)
 have HX5 : Hid (Box4 w4.heap.size ⟨#[97]⟩ ⟨#[]⟩ (.slice a1 1 c1) (.slice a2 n2 c2) W5):=Lib.hid (by rw [hW5];exact Box4.made _ _ _ _ _)
 have HT5:=Lib.hid (HT4.out.below HB5.out (Nat.le_refl _))
 clear hb4 htr hcv
 go_upto_region 5 with fail
 rw [← hW5]
 clear hW5
 have HVA:=Lib.hid (value_one (bts nb) (bts vb) nb vb _ W5 (mkb nb).symm (mkb vb).symm (by have h9:=HT5.out;rw [HTD.out] at h9;exact h9))
 obtain ⟨x0,x1,x2,x3⟩:=HX5.out.at
 go_wp2_with fail
 refine HVA.out.mono ?_
 rintro e w6 ⟨rfl,hb6⟩
 have HG6:=Lib.hid (th HG5.out (Nat.le_refl _) hb6)
 have HX6:=Lib.hid (HX5.out.below hb6 (Nat.le_refl _))
 have HT6:=Lib.hid (HT5.out.below hb6 (Nat.le_refl _))
 clear hb6 x0 x1 x2 x3
 obtain ⟨x0,x1,x2,x3⟩:=HX6.out.at
 go_wp2_with fail
 go_loopw [12] (fun i wr=>∃ k : Nat,k ≤ eb.size ∧ i = .int .i64 k ∧ Hid (∀ j b,j < k → (bts eb)[j]? = some b → b ≠ 39) ∧ Hid (Below w6.heap.size w6 wr)) (fun i _=>eb.size - (intOf i).toNat)
 case atStart=>exact ⟨0,by omega,rfl,Lib.hid (fun j b hj=>absurd hj (by omega)),Lib.hid (Below.refl _ _)⟩
 case round=>
  obtain ⟨k,hk,rfl,HGQ,HB⟩:=hrel
  by_cases hlt : k < eb.size
  ·have hi0 : (0 : Int) ≤ k:=by omega
   have hi1 : (k : Int) < eb.size:=by omega
   have hget : eb.data[k]! = eb[k]'hlt:=by
    show eb.data[k]! = eb.data[k]'hlt
    rw [getElem!_pos]
   by_cases hb : (eb[k]'hlt).toNat = 39
   ·have hb2 : (((eb[k]'hlt).toNat : Int) == 39) = true:=by rw [hb];rfl
    go_wp2_with fail
    refine (HAW.out _ (th HG6.out (Nat.le_refl _) HB.out)).mono ?_
    rintro e wz ⟨rfl,hbz⟩
    go_wp2
    go_ret
    exact ⟨rfl,hbz⟩
   ·have hb2 : (((eb[k]'hlt).toNat : Int) == 39) = false:=by rw [beq_eq_false_iff_ne];omega
    have HGN : Hid (∀ j b,j < k + 1 → (bts eb)[j]? = some b → b ≠ 39):=Lib.hid (fun j b hj hjb=>by
     rcases Nat.lt_or_ge j k with h | h
     ·exact HGQ.out j b h hjb
     ·obtain rfl : j = k:=by omega
      rw [List.getElem?_eq_getElem (by rw [bts_len];exact hlt)] at hjb
      injection hjb with hjb
      rw [bts_get eb j hlt] at hjb
      intro h39
      rw [h39] at hjb
      rw [hjb] at hb
      exact hb rfl)
    clear hb
    go_wp2_with fail
    exact ⟨⟨k + 1,by omega,by go_num,HGN,HB⟩,by simp [intOf];omega⟩
  ·obtain rfl : k = eb.size:=by omega
   have HQ:=Lib.hid (HRQ.out (by
    intro b hb
    rw [← HEQ.out] at hb
    obtain ⟨j,hj⟩:=List.getElem?_of_mem hb
    have hjl:=(List.getElem?_eq_some_iff.1 hj).1
    rw [bts_len] at hjl
    exact HGQ.out j b hjl hj))
   have HG7:=Lib.hid (th HG6.out (Nat.le_refl _) HB.out)
   have HX7:=Lib.hid (HX6.out.below HB.out (Nat.le_refl _))
   have HT7:=Lib.hid (HT6.out.below HB.out (Nat.le_refl _))
   have hcv:=conv_any wr y4
   have HB8:=Lib.hid (bytes_below wr y4)
   have hby:=bytes_byt wr y4 (by have:=YW4s.out;omega)
   rw [YW4d.out] at hby
   obtain ⟨cq,hcq⟩ : ∃ cq,cq = grownCap wr y4.size 0 5:=⟨_,rfl⟩
   rw [← hcq] at hcv hby
   obtain ⟨w8,hw8⟩ : ∃ w8,w8 = Lib.bytesWorld wr 5 y4:=⟨_,rfl⟩
   rw [← hw8] at hcv hby HB8
   have HG8:=Lib.hid (th HG7.out (Nat.le_refl _) HB8.out)
   have HX8:=Lib.hid (HX7.out.below HB8.out (Nat.le_refl _))
   have HT8:=Lib.hid (HT7.out.below HB8.out (Nat.le_refl _))
   have HPB:=Lib.hid (parse_any (some ⟨wr.heap.size,0,none⟩) y4.size cq (docQ (bts nb) (bts vb)) w8 (HM.out.below HG8.out HM.out.size) hby)
   clear hby hcq hw8 x0 x1 x2 x3
   go_wp2_with fail
   refine HPB.out.mono ?_
   rintro e w9 ⟨hb9,⟨_,_,ho,_⟩ | ⟨T',a3,n3,c3,a4,n4,c4,hok,rfl,htr⟩⟩
   ·rw [HQ.out] at ho;cases ho
   rw [HQ.out] at hok
   injection hok with hok
   subst hok
   rw [HTL.out.1,HTL.out.2] at htr ⊢
   have HG9:=Lib.hid (th HG8.out (Nat.le_refl _) hb9)
   have HX9:=Lib.hid (HX8.out.below hb9 (Nat.le_refl _))
   have HT9:=Lib.hid (HT8.out.below hb9 (Nat.le_refl _))
   obtain ⟨W10,hW10⟩ : ∃ W10,W10 = w9.alloc (.cells #[.string ⟨#[97]⟩,.string ⟨#[]⟩,.slice a3 n3 c3,.slice a4 n4 c4] 27):=⟨_,rfl⟩
   have HB10 : Hid (Below w9.heap.size w9 W10):=Lib.hid (by rw [hW10];exact (Below.refl _ w9).alloc (Nat.le_refl _) _)
   have HG10:=Lib.hid (th HG9.out (Nat.le_refl _) HB10.out)
   have HY10 : Hid (Box4 w9.heap.size ⟨#[97]⟩ ⟨#[]⟩ (.slice a3 n3 c3) (.slice a4 n4 c4) W10):=Lib.hid (by rw [hW10];exact Box4.made _ _ _ _ _)
   have HX10:=Lib.hid (HX9.out.below HB10.out (Nat.le_refl _))
   have HT10:=Lib.hid (HT9.out.below HB10.out (Nat.le_refl _))
   have hu : TreeV w9 T [.string ⟨#[97]⟩,.string ⟨#[]⟩,.slice a3 n3 c3,.slice a4 n4 c4]:=htr
   have HU10:=Lib.hid (hu.below HB10.out (Nat.le_refl _))
   have HSA:=Lib.hid (sameTr_any T HSZ.out T _ _ W10 HT10.out HU10.out)
   rw [eqT_self] at HSA
   clear hb9 htr hu hcv
   go_upto_region 14 with fail
   rw [← hW10]
   clear hW10
   obtain ⟨x0,x1,x2,x3⟩:=HX10.out.at
   obtain ⟨y0,y1',y2',y3'⟩:=HY10.out.at
   go_wp2_with fail
   refine HSA.out.mono ?_
   rintro e w11 ⟨rfl,hb11⟩
   have HG11:=Lib.hid (th HG10.out (Nat.le_refl _) hb11)
   clear hb11
   go_wp2_with fail
   refine (HAW.out _ HG11.out).mono ?_
   rintro e wz ⟨rfl,hbz⟩
   go_wp2
   go_ret
   exact ⟨rfl,hbz⟩
theorem xvalues_any (nb vb : ByteArray) (w : World) (hm : LayT w) (hvs : vb.size ≤ 2000000) :
  Calls Tryz.prog 7 #[.string nb,.string vb] w fun e w'=>e = .returned (.bool true) ∧ Below w.heap.size w w':=by
 by_cases h1 : 60 < nb.size
 ·exact xvalues_out nb vb w hm hvs (.inl h1)
 ·by_cases h2 : 100 < vb.size
  ·exact xvalues_out nb vb w hm hvs (.inr (.inl h2))
  ·cases hn : nameL (bts nb) with
   | false=>exact xvalues_out nb vb w hm hvs (.inr (.inr (.inl hn)))
   | true=>
    cases hw : wholeB (bts vb) with
    | false=>exact xvalues_out nb vb w hm hvs (.inr (.inr (.inr hw)))
    | true=>exact xvalues_in nb vb w hm (by omega) (by omega) hn hw
open Go.ChangeShapes Go.WideShapes Go.ChangeAt Go.WideMaps Go.WideElems Go.RowKit
def laid3 : List (String × DataW Unit) := [("math/bits.deBruijn32tab", Rows.laid_math_bits_deBruijn32tab), ("math/bits.deBruijn64tab", Rows.laid_math_bits_deBruijn64tab), ("internal/strconv.uint64pow10", Rows.laid_internal_strconv_uint64pow10), ("unicode/utf8.acceptRanges", Rows.laid_unicode_utf8_acceptRanges), ("strconv.ErrRange", Rows.laid_strconv_ErrRange), ("strconv.ErrSyntax", Rows.laid_strconv_ErrSyntax), ("spyglass/utf.spans", Rows.laid_spyglass_utf_spans), ("spyglass/utf.rows", Rows.laid_spyglass_utf_rows), ("unicode/utf8.first", Rows.laid_unicode_utf8_first)]
theorem own : ownKnob Tryz.prog.godebug = none:=by kernel_rfl
theorem gSpans : Tryz.prog.globalNamed "spyglass/utf.spans" = some 1 := by kernel_rfl
theorem gRows : Tryz.prog.globalNamed "spyglass/utf.rows" = some 0 := by kernel_rfl
theorem tSpans : (Tryz.prog.globals[1]?).map (·.type) = some 207:=by kernel_rfl
theorem tRows : (Tryz.prog.globals[0]?).map (·.type) = some 203:=by kernel_rfl
theorem cells54 : Tryz.prog.cellsOf 207 = 10:=by kernel_rfl
theorem cells61 : Tryz.prog.cellsOf 203 = 12:=by kernel_rfl
theorem cells52 : Tryz.prog.cellsOf 205 = 2:=by kernel_rfl
theorem cells60 : Tryz.prog.cellsOf 202 = 3:=by kernel_rfl
theorem cells21 : Tryz.prog.cellsOf 21 = 1:=by kernel_rfl
theorem cells5 : Tryz.prog.cellsOf 5 = 1:=by kernel_rfl
theorem door_met (os : Os) (args : Array Value) : laidMetH Tryz.prog laid3 ((World.laidAll Tryz.prog os laid3).forCall (fun _ _=>0) ⟨#[],args,[]⟩).memory:=by
 rw [MakeChecks.laidMetH_plain _ _ _ (by kernel_rfl)];exact laidMet_laidAll _ (by kernel_rfl) (by kernel_rfl)
variable {W : World}
theorem span_cells {fuel : Nat} {c0 c1 : Value} {a b : Int} {p : List MemPlace} (h : DataW.trod (fun _=>()) Tryz.prog W 0 (fun _=>true) false fuel 205 [c0,c1] = some (.agg [.lit (.int .i32 a),.lit (.int .i32 b)],p)) : c0 = .int .i32 a ∧ c1 = .int .i32 b:=by
 obtain ⟨y0,y1,n,hx,_,h0,h1⟩:=trod_struct2 Tryz.underlying205 h
 simp only [Prod.mk.injEq,DataW.agg.injEq,List.cons.injEq,and_true] at hx
 simp only [cells21,List.drop_zero,List.take_succ_cons,List.take_zero,List.drop_succ_cons] at h0 h1
 obtain ⟨a',e0,rfl,_⟩:=DataW.trod_int Tryz.underlying21 h0
 obtain ⟨b',e1,rfl,_⟩:=DataW.trod_int Tryz.underlying21 h1
 simp only [DataW.lit.injEq,Lit.int.injEq,true_and] at hx
 simp only [List.cons.injEq,and_true] at e0 e1
 rw [e0,e1,hx.1.1,hx.1.2]
 exact ⟨rfl,rfl⟩
theorem row_cells {fuel : Nat} {c0 c1 c2 : Value} {a b c : Int} {p : List MemPlace} (h : DataW.trod (fun _=>()) Tryz.prog W 0 (fun _=>true) false fuel 202 [c0,c1,c2] = some (.agg [.lit (.int .i32 a),.lit (.int .u8 b),.lit (.int .u8 c)],p)) : c0 = .int .i32 a ∧ c1 = .int .u8 b ∧ c2 = .int .u8 c:=by
 obtain ⟨y0,y1,y2,n,hx,_,h0,h1,h2⟩:=Deep.trod_struct3 Tryz.underlying202 h
 simp only [Prod.mk.injEq,DataW.agg.injEq,List.cons.injEq,and_true] at hx
 simp only [cells21,cells5,List.drop_zero,List.take_succ_cons,List.take_zero,List.drop_succ_cons] at h0 h1 h2
 obtain ⟨a',e0,rfl,_⟩:=DataW.trod_int Tryz.underlying21 h0
 obtain ⟨b',e1,rfl,_⟩:=DataW.trod_int Tryz.underlying5 h1
 obtain ⟨c',e2,rfl,_⟩:=DataW.trod_int Tryz.underlying5 h2
 simp only [DataW.lit.injEq,Lit.int.injEq,true_and] at hx
 simp only [List.cons.injEq,and_true] at e0 e1 e2
 rw [e0,e1,e2,hx.1.1,hx.1.2.1,hx.1.2.2]
 exact ⟨rfl,rfl,rfl⟩
theorem block_of_var {P : Program} {n : String} {g : Nat} {cs : Array Value} (hg : P.globalNamed n = some g) (h : W.var? P n = some cs) : ∃ t fr,W.heap[g]? = some (.cells cs t fr):=by
 simp only [World.var?,hg,Option.bind_some] at h
 split at h
 ·rename_i c t fr he
  cases h
  exact ⟨t,fr,he⟩
 ·cases h
theorem gSyn : Tryz.prog.globalNamed "strconv.ErrSyntax" = some 5 := by kernel_rfl
theorem tSyn : (Tryz.prog.globals[5]?).map (·.type) = some 102:=by kernel_rfl
theorem star : "*" ++ "errors.errorString" = "*errors.errorString" := by decide
theorem ptrSyn (u : TypeId) (h : Tryz.prog.typeName? 3 u = some "*errors.errorString") : u = 308 :=
 typeName_ptr_named (nm := "errors.errorString") (by rw [star]; kernel_rfl) (by kernel_rfl) (by decide) u (by rw [star]; exact h)
set_option maxRecDepth 20000 in
theorem of_laid (h : laidMetH Tryz.prog laid3 W) : LayS W:=by
 rw [MakeChecks.laidMetH_plain _ _ _ (by kernel_rfl)] at h
 have h4:=h.tail.tail.tail.tail.tail
 refine ⟨?_,?_⟩
 rotate_left
 ·obtain ⟨a,s,hv,_⟩:=laid_sentinel h4 gSyn tSyn Tryz.underlying102 ptrSyn Tryz.underlying308 Tryz.underlying310 rfl rfl Tryz.underlying9 (by kernel_rfl) (by kernel_rfl)
  exact ⟨_,_,by simpa using World.var?_cell gSyn hv 0⟩
 replace h:=h4.tail
 obtain ⟨ps,⟨g0,t0,cs0,f0,p0,q0,hg0,ht0,hv0,hd0,⟨g1,t1,cs1,f1,p1,q1,hg1,ht1,hv1,hd1,_,_⟩,_⟩,_,_⟩:=h
 obtain rfl:=Option.some.inj (gSpans.symm.trans hg0)
 obtain rfl:=Option.some.inj (gRows.symm.trans hg1)
 obtain rfl:=Option.some.inj (tSpans.symm.trans ht0)
 obtain rfl:=Option.some.inj (tRows.symm.trans ht1)
 obtain ⟨ta,fa,ha⟩:=block_of_var gSpans hv0
 obtain ⟨tb,fb,hb⟩:=block_of_var gRows hv1
 refine ⟨⟨ta,fa,?_⟩,⟨tb,fb,?_⟩⟩
 ·rw [ha]
  obtain ⟨xs,m1,rfl,hx,hlen,hn,hel⟩:=DataW.trod_array Tryz.underlying207 hd0
  rw [cells54] at hlen
  simp only [cells52] at hel
  obtain ⟨l⟩:=cs0
  simp only [Rows.laid_spyglass_utf_spans,Prod.mk.injEq,DataW.agg.injEq] at hx
  match l,hlen,xs,hn,hx,hel with
  | [c0,c1,c2,c3,c4,c5,c6,c7,c8,c9],_,[x0,x1,x2,x3,x4],_,hx,hel=>
   simp only [List.map_cons,List.map_nil,List.cons.injEq,and_true] at hx
   obtain ⟨d0,u0⟩:=x0
   obtain ⟨d1,u1⟩:=x1
   obtain ⟨d2,u2⟩:=x2
   obtain ⟨d3,u3⟩:=x3
   obtain ⟨d4,u4⟩:=x4
   obtain ⟨⟨rfl,rfl,rfl,rfl,rfl⟩,_⟩:=hx
   obtain ⟨rfl,rfl⟩:=span_cells (c0:=c0) (c1:=c1) (hel 0 (by decide))
   obtain ⟨rfl,rfl⟩:=span_cells (c0:=c2) (c1:=c3) (hel 1 (by decide))
   obtain ⟨rfl,rfl⟩:=span_cells (c0:=c4) (c1:=c5) (hel 2 (by decide))
   obtain ⟨rfl,rfl⟩:=span_cells (c0:=c6) (c1:=c7) (hel 3 (by decide))
   obtain ⟨rfl,rfl⟩:=span_cells (c0:=c8) (c1:=c9) (hel 4 (by decide))
   rfl
 ·rw [hb]
  obtain ⟨xs,m1,rfl,hx,hlen,hn,hel⟩:=DataW.trod_array Tryz.underlying203 hd1
  rw [cells61] at hlen
  simp only [cells60] at hel
  obtain ⟨l⟩:=cs1
  simp only [Rows.laid_spyglass_utf_rows,Prod.mk.injEq,DataW.agg.injEq] at hx
  match l,hlen,xs,hn,hx,hel with
  | [c0,c1,c2,c3,c4,c5,c6,c7,c8,c9,c10,c11],_,[x0,x1,x2,x3],_,hx,hel=>
   simp only [List.map_cons,List.map_nil,List.cons.injEq,and_true] at hx
   obtain ⟨d0,u0⟩:=x0
   obtain ⟨d1,u1⟩:=x1
   obtain ⟨d2,u2⟩:=x2
   obtain ⟨d3,u3⟩:=x3
   obtain ⟨⟨rfl,rfl,rfl,rfl⟩,_⟩:=hx
   obtain ⟨rfl,rfl,rfl⟩:=row_cells (c0:=c0) (c1:=c1) (c2:=c2) (hel 0 (by decide))
   obtain ⟨rfl,rfl,rfl⟩:=row_cells (c0:=c3) (c1:=c4) (c2:=c5) (hel 1 (by decide))
   obtain ⟨rfl,rfl,rfl⟩:=row_cells (c0:=c6) (c1:=c7) (c2:=c8) (hel 2 (by decide))
   obtain ⟨rfl,rfl,rfl⟩:=row_cells (c0:=c9) (c1:=c10) (c2:=c11) (hel 3 (by decide))
   rfl
theorem mx_open (h : W.ShapedOpen Tryz.prog) : Mx W:=
 cell_of_shapedOpen_int (t:=3) (zero:=#[.int .i64 0]) h (of_decide_eq_true (by kernel_rfl)) (by kernel_rfl) rfl (by kernel_rfl) (by kernel_rfl) Tryz.underlying3
theorem t_of_laid (h : laidMetH Tryz.prog laid3 W) (ho : W.ShapedOpen Tryz.prog) : LayT W:=⟨of_laid h,mx_open ho⟩
end Go.Proofs.YtjldpkhfiffinaaGreatDoor.U
namespace Go.Proofs.YtjldpkhfiffinaaGreatDoor.XmlValuesP
open Go.ChangeShapes Go.WideShapes Go.ChangeAt Go.WideMaps Go.WideElems Go.RowKit U
open Go.ChangeMaps (open_string shut_string)
theorem reads (os : Os) {H : Type} (enc : TypeId × Value → H) : ∃ places,DataW.whole enc Tryz.prog ((World.laidAll Tryz.prog os laid3).forCall (fun _ _=>0) ⟨#[],#[.string ⟨#[]⟩,.string ⟨#[]⟩],[]⟩).memory Tryz.f7.params.toList Rows.xmlValuesSpec.vars false #[Value.string ⟨#[]⟩,Value.string ⟨#[]⟩].toList 8 = some ([.lit (.string []),.lit (.string [])],[],places):=
 ⟨[],by kernel_rfl⟩
set_option maxRecDepth 100000 in
theorem lifted (os : Os) (started : os.Started) (H : Type) (enc : TypeId × Value → H) (F : Stop.Interp) :
  ReturnsInHanded {} Tryz.checked os 7 .any ((Rows.OpenSpec.upto Rows.xmlValuesSpec).preRow enc Tryz.prog Tryz.f7 Rows.xmlValuesUptoRow.domain false Rows.xmlValuesUptoRow.laid) (((Rows.OpenSpec.upto Rows.xmlValuesSpec).at F).post enc Tryz.prog Tryz.f7 false true false false):=by
 obtain ⟨places,hx⟩:=reads os enc
 refine returnsInHanded_of_row (C:=Tryz.checked) (s:=Rows.OpenSpec.upto Rows.xmlValuesSpec) own started (by kernel_rfl) Tryz.func7
  ⟨World.laidAll Tryz.prog os laid3,fun _ _=>0,⟨#[],#[.string ⟨#[]⟩,.string ⟨#[]⟩],[]⟩,World.laidAll_os _ _ _,World.shaped_of_ZipB (by kernel_rfl) (by kernel_rfl),rfl,(Input.okWide_of_okWideB (by kernel_rfl)).2,
   OpenSpec.preRow_of_cond 8 hx (by kernel_rfl) (fun k hk=>by cases hk;kernel_rfl) (by kernel_rfl) (door_met os _),by
    simp only [Assume.holds]
    exact ⟨by simp,by simp,fun _=>Modest.zero,by simp,by simp⟩⟩ ?_
 intro W base args ds gs before hval0 hW _ hcond _ hL hO _
 have hval : ∀ (j : Nat) t v,Tryz.f7.params[j]? = some t → args[j]? = some v → Value.okWide Tryz.prog W .any base t v:=hval0
 have hW':=hW
 obtain ⟨p,q,hA0,hV,rfl,hfz,hnd⟩:=hW
 have hA : DataW.TrodAll enc Tryz.prog W 0 (fun _=>true) true Tryz.f7.params.toList args.toList ds p:=hA0
 rw [Tryz.params7] at hA hval
 obtain ⟨v0,vs0,d0,ds0,p0,q0,hargs,rfl,rfl,h0,r0⟩:=trodAll_cons hA
 obtain ⟨v1,vs1,d1,ds1,p1,q1,rfl,rfl,rfl,h1,r1⟩:=trodAll_cons r0
 obtain ⟨rfl,rfl,rfl⟩:=trodAll_nil r1
 obtain rfl : args = #[v0,v1]:=by cases args;simp_all
 obtain ⟨rfl,rfl⟩:=trodVars_none hV
 obtain ⟨s0,rfl,rfl,rfl,ws0⟩:=open_string Tryz.underlying9 (hval 0 9 v0 rfl rfl) h0
 obtain ⟨s1,rfl,rfl,rfl,ws1⟩:=open_string Tryz.underlying9 (hval 1 9 v1 rfl rfl) h1
 have hk:=hcond _ rfl
 have hB : s1.size ≤ 1048576:=by
  have h:=of_decide_eq_true hk
  simp only [List.append_nil,Rows.uptoBulkAll,Rows.uptoBulk,Array.length_toList] at h
  have e : s1.data.size = s1.size:=rfl
  omega
 clear hA0 hval0 hk
 refine (xvalues_any s0 s1 W (t_of_laid hL hO) (by omega)).mono fun e W' ⟨he,bel⟩=>?_
 subst he
 exact ⟨_,rfl,_,_,_,[],_,[],hW',trodAll_mk1 (shut_bool Tryz.underlying4 _),(trodAll_cons_mk (shut_string Tryz.underlying9 ws0) (trodAll_cons_mk (shut_string Tryz.underlying9 ws1) trodAll_mk0)),rfl,bel.frame _,fun h=>by cases h⟩
theorem over : Rows.xmlValuesUptoRow.holds Tryz.pinned (Rows.OpenSpec.upto Rows.xmlValuesSpec):=
 OpenClaim.holds_of_cond 7 Tryz.f7 rfl rfl rfl rfl rfl rfl rfl ⟨rfl,rfl,rfl,rfl,rfl⟩ rfl rfl rfl rfl rfl (by kernel_rfl) Tryz.func7 (by kernel_rfl)
  (of_decide_eq_true (by kernel_rfl)) (by unfold Func.isWrapper;first | (rw [if_pos (by decide +kernel)];kernel_rfl) | (rw [if_neg (by decide +kernel)];exact ⟨rfl,rfl⟩))
  (fun os started H enc _ F=>by rw [OpenClaim.pre_eq_preRow];exact lifted os started H enc F)
end Go.Proofs.YtjldpkhfiffinaaGreatDoor.XmlValuesP
namespace Go.Proofs.YtjldpkhfiffinaaGreatDoor
theorem xmlValues_upto : Rows.XmlValuesUptoCardSaid:=
 Claim7.holds_tied_plain_at .later [] [.data, .data, .data, .data, .sentinel, .sentinel, .data, .data, .pinned] true (true, "4148650d6e0846488ce487377aadbf32be7dd7120a5a7c6cb84a32f3e199f1d9") true
  XmlValuesP.over (fun _ h=>by cases h) (by kernel_rfl) (fun _ h=>by cases h) xmlValuesUpto_row_tie rfl ⟨rfl,rfl⟩ (by kernel_rfl) rfl
  (fun f fn hf hfn=>by
   obtain rfl : f = 7 := Option.some.inj ((show Tryz.prog.funcNamed "spyglass/spyglasslaw05.XmlValues" = some 7 by kernel_rfl).symm.trans hf) |>.symm
   obtain rfl : fn = Tryz.f7:=(Option.some.inj (Tryz.func7.symm.trans hfn)).symm
   exact ⟨by kernel_rfl,fun j t ht=>by
    rw [Tryz.params7] at ht
    have hm : t ∈ [9,9]:=by simpa using Array.mem_of_getElem? ht
    have hall : ([9,9].all fun u=>!Tryz.prog.wantsStandIn u) = true:=by kernel_rfl
    exact (show Tryz.prog.wantsStandIn t = false by simpa using List.all_eq_true.1 hall t hm)⟩)
  (by kernel_rfl)
#print axioms xmlValues_upto
end Go.Proofs.YtjldpkhfiffinaaGreatDoor
