/- Contracts and plain facts that the law stands on: Wt. -/
import Derived.Test.YtjldpkhfiffinaaGreatDoorZC32
import Derived.Test.YtjldpkhfiffinaaGreatDoorZC25
import Derived.Lib.AppendStr
namespace Go.Proofs.YtjldpkhfiffinaaGreatDoor.U
open Go.RowKit Go.Shelf
theorem okAll_take : ∀ (ts : List Tok) (f : Bool) (k : Nat) (h : k < ts.length),okAll f (ts.take (k + 1)) = (okAll f (ts.take k) && okT (f && (k == 0)) (ts[k]'h)):=by
 intro ts
 induction ts with
 | nil=>intro f k h;simp at h
 | cons t r ih=>
  intro f k h
  cases k with
  | zero=>simp [okAll]
  | succ k=>
   have:=ih false k (by simpa using h)
   rw [List.take_succ_cons,List.take_succ_cons]
   simp only [okAll,this,List.getElem_cons_succ,Bool.and_assoc]
   simp
theorem okAll_bad : ∀ (ts : List Tok) (f : Bool) (k : Nat) (h : k < ts.length),okT (f && (k == 0)) (ts[k]'h) = false → okAll f ts = false:=by
 intro ts
 induction ts with
 | nil=>intro f k h;simp at h
 | cons t r ih=>
  intro f k h hb
  cases k with
  | zero=>simp [okAll] at hb ⊢;intro h1;rw [hb] at h1;cases h1
  | succ k=>
   have:=ih false k (by simpa using h) (by simpa using hb)
   simp [okAll,this]
theorem textT_small {t : Tok} (h1 : t.name.length ≤ 2000000) (h2 : t.text.length ≤ 2000000) (h3 : t.attrs.length ≤ 2000000) (h4 : sumA t.attrs ≤ 2000000) : (textT t).length ≤ 40000000:=by
 unfold textT
 have h5:=flat_attr_len t.attrs
 have h6:=(escL_len false t.text).2
 repeat' split
 all_goals (try simp only [List.length_cons,List.length_append,List.length_nil,sDec1,sDec2,sCom]
            omega)
theorem flat_text {ts : List Tok} {k : Nat} (h : k < ts.length) : (ts.take (k + 1)).flatMap textT = (ts.take k).flatMap textT ++ textT ts[k]:=by
 rw [List.take_succ_eq_append_getElem h,List.flatMap_append];simp
def OutW (pre f : List UInt8) : Prop:=(pre.length ≤ 65536 ∧ pre = f) ∨ (65536 < pre.length ∧ 65536 < f.length)
set_option maxHeartbeats 4000000 in
set_option maxRecDepth 20000 in
theorem twrite_any (a : Option Addr) (cap : Nat) (ts : List Tok) (w : World) (hm : LayT w) (hv : TokAt w (.slice a ts.length cap) ts) (hn : ts.length ≤ 2000000) (hb : ∀ t ∈ ts,t.name.length ≤ 2000000 ∧ t.text.length ≤ 2000000 ∧ t.attrs.length ≤ 2000000 ∧ sumA t.attrs ≤ 2000000) :
  Calls Tryz.prog 41 #[.slice a ts.length cap] w fun e w'=>Below w.heap.size w w' ∧ ((okAll true ts = true ∧ (ts.flatMap textT).length ≤ 65536 ∧ ∃ a5 c5,e = .returned (.tuple #[.slice a5 (ts.flatMap textT).length c5,.int .i64 0]) ∧ w'.ownsRow w.heap.size 5 1 (.slice a5 (ts.flatMap textT).length c5) (ts.flatMap textT).length (Lib.byteCells (ts.flatMap textT))) ∨
   (¬ (okAll true ts = true ∧ (ts.flatMap textT).length ≤ 65536) ∧ ∃ z,(z != 0) = true ∧ e = .returned (.tuple #[.slice none 0 0,.int .i64 z]))):=by
 obtain ⟨g,off,hag,hc⟩:=hv.cells
 have HAG:=Lib.hid hag
 have HC:=Lib.hid hc
 have HM:=Lib.hid hm
 have HBD:=Lib.hid hb
 have HV:=Lib.hid hv
 obtain ⟨i0,hi,hz0,hz1,hz2⟩:=info_parts info5
 clear hag hc hm hb hv
 go_enter Tryz.func41,Tryz.ntmps41
 go_wp2_with fail
 go_loopw [4,11] (fun v i wr=>∃ (k : Nat) (pre : List UInt8) (a5 : Option Addr) (c5 : Nat),k ≤ ts.length ∧ i = .int .i64 k ∧ v = .slice a5 pre.length c5 ∧ pre.length ≤ 40065536 ∧ Hid (OutW pre ((ts.take k).flatMap textT)) ∧ Hid (okAll true (ts.take k) = true) ∧ Hid (wr.ownsRow w.heap.size 5 1 (.slice a5 pre.length c5) pre.length (Lib.byteCells pre)) ∧ Hid (Below w.heap.size w wr)) (fun _ i _=>ts.length - (intOf i).toNat)
 case atStart=>exact ⟨0,[],none,0,by omega,rfl,rfl,by simp,Lib.hid (.inl ⟨by simp,rfl⟩),Lib.hid rfl,Lib.hid (World.ownsRow_nil _ _ _ _),Lib.hid (Below.refl _ _)⟩
 case round=>
  obtain ⟨k,pre,a5,c5,hk,rfl,rfl,hpl,HP,HOK,HO,HB⟩:=hrel
  by_cases hlt : k < ts.length
  ·obtain rfl:=HAG.out (by omega)
   obtain ⟨x1,y1,p0,p1,p2,p3,p4,hp⟩:=HC.out k hlt
   obtain ⟨b1,b2,b3,b4⟩:=HBD.out _ (List.getElem_mem hlt)
   have HFT:=Lib.hid (flat_text hlt)
   have HOT:=Lib.hid (okAll_take ts true k hlt)
   have HBAD:=Lib.hid (okAll_bad ts true k hlt)
   have HTS:=Lib.hid (textT_small b1 b2 b3 b4)
   have HWN : Hid (∀ W,Below w.heap.size w W → Calls Tryz.prog 73 #[.agg #[.int .i64 (ts[k]'hlt).kind,.string ⟨(ts[k]'hlt).name.toArray⟩,.string ⟨(ts[k]'hlt).text.toArray⟩,.slice x1 (ts[k]'hlt).attrs.length y1,.bool (ts[k]'hlt).empty],.bool ((k : Int) == 0)] W fun e w'=>WrQ (okT (true && (k == 0)) (ts[k]'hlt)) ⟨(textT (ts[k]'hlt)).toArray⟩ W e w'):=Lib.hid (fun W hb=>by
    have e : ((k : Int) == 0) = (true && (k == 0)):=by cases k <;> simp <;> omega
    rw [e]
    exact written_any (ts[k]'hlt) _ x1 y1 W (HM.out.below hb HM.out.size) (hp.below hb (Nat.le_refl _)) b3 b1 b2 b4)
   have up : ∀ {p : Addr} {u : Value},w.cell? p = some u → wr.cell? p = some u:=fun h=>(HB.out.cell (block_lt_of_cell h)).trans h
   have q0:=up p0
   have q1:=up p1
   have q2:=up p2
   have q3:=up p3
   have q4:=up p4
   have hi0 : (0 : Int) ≤ k:=by omega
   have hi1 : (k : Int) < ts.length:=by omega
   clear p0 p1 p2 p3 p4 hp b1 b2 b3 b4 up
   generalize okT (true && (k == 0)) (ts[k]'hlt) = ok at HWN HOT HBAD
   generalize textT (ts[k]'hlt) = Y at HWN HFT HTS
   generalize ts[k]'hlt = t at q0 q1 q2 q3 q4 HWN
   obtain ⟨w1,hw1⟩ : ∃ w1,w1 = wr.alloc (.cells #[.int .i64 t.kind,.string ⟨t.name.toArray⟩,.string ⟨t.text.toArray⟩,.slice x1 t.attrs.length y1,.bool t.empty] 119):=⟨_,rfl⟩
   have hB1 : Below wr.heap.size wr w1:=by rw [hw1];exact (Below.refl _ wr).alloc (Nat.le_refl _) _
   have HB1:=Lib.hid (th HB.out (Nat.le_refl _) hB1)
   have HO1:=Lib.hid (ownBelow HO.out hB1)
   have HW1:=Lib.hid hw1
   clear hw1 hB1
   go_wp2_with fail
   rw [← HW1.out]
   refine (HWN.out _ HB1.out).mono ?_
   rintro e w2 ⟨hb2,⟨rfl,rfl⟩ | ⟨rfl,x',z,hz,rfl⟩⟩
   ·have HB2:=Lib.hid (th HB1.out (Nat.le_refl _) hb2)
    have HO2:=Lib.hid (ownBelow HO1.out hb2)
    have HYL : Hid ((⟨Y.toArray⟩ : ByteArray).size = Y.length):=Lib.hid (str_size2 Y)
    have HOK2 : Hid (okAll true (ts.take (k + 1)) = true):=Lib.hid (by rw [HOT.out,HOK.out];rfl)
    have hyl : (⟨Y.toArray⟩ : ByteArray).size ≤ 40000000:=by rw [HYL.out];exact HTS.out
    clear hb2 q0 q1 q2 q3 q4
    by_cases hpre : pre.length ≤ 65536
    ·have HP2 : Hid (OutW (pre ++ Y) ((ts.take (k + 1)).flatMap textT)):=Lib.hid (by
      rw [HFT.out]
      rcases HP.out with ⟨_,h2⟩ | ⟨h1,_⟩
      ·rw [← h2]
       rcases Nat.lt_or_ge 65536 (pre ++ Y).length with h3 | h3
       ·exact .inr ⟨h3,h3⟩
       ·exact .inl ⟨h3,rfl⟩
      ·omega)
     go_wp2_with (at_builtin;refine Lib.wpList_append_own_string _ rfl _ _ 22 9 rfl w.heap.size 5 i0 Tryz.underlying22 Tryz.underlying9 hi hz0 hz1 hz2 _ _ _ rfl HO2.out ⟨Y.toArray⟩ rfl (by unfold maxLen;omega) (by omega) HB2.out.size ?_;intro v3 w3 hown3 hgrow3 _)
     rw [bytes_str,HYL.out] at hown3
     obtain ⟨a6,c6,hv6⟩:=own_slice hown3
     subst hv6
     go_wp2
     refine ⟨⟨k + 1,pre ++ Y,a6,c6,by omega,by go_num,by rw [List.length_append],by have:=HTS.out;rw [List.length_append];omega,HP2,HOK2,Lib.hid ?_,Lib.hid (HB2.out.grown hgrow3 HB2.out.size (fun k e=>(HO2.out.lt k e).1))⟩,by simp [intOf];omega⟩
     rw [Lib.byteCells_append,List.length_append]
     exact hown3
    ·have HP2 : Hid (OutW pre ((ts.take (k + 1)).flatMap textT)):=Lib.hid (by
      rw [HFT.out]
      rcases HP.out with ⟨h1,_⟩ | ⟨h1,h2⟩
      ·omega
      ·exact .inr ⟨h1,by rw [List.length_append];omega⟩)
     go_wp2
     exact ⟨⟨k + 1,pre,a5,c5,by omega,by go_num,rfl,hpl,HP2,HOK2,HO2,HB2⟩,by simp [intOf];omega⟩
   ·have HB2:=Lib.hid (th HB1.out (Nat.le_refl _) hb2)
    have HNO : Hid (¬ (okAll true ts = true ∧ (ts.flatMap textT).length ≤ 65536)):=Lib.hid (by rw [HBAD.out rfl];simp)
    have hz2' : ¬ z = 0:=by simpa using hz
    clear hb2 q0 q1 q2 q3 q4
    go_wp2
    go_ret2
    exact ⟨HB2.out,.inr ⟨HNO.out,z,hz,rfl⟩⟩
  ·obtain rfl : k = ts.length:=by omega
   have HOKA : Hid (okAll true ts = true):=Lib.hid (by have:=HOK.out;rwa [List.take_of_length_le (by omega)] at this)
   have HPA : Hid (OutW pre (ts.flatMap textT)):=Lib.hid (by have:=HP.out;rwa [List.take_of_length_le (by omega)] at this)
   by_cases hpre : pre.length ≤ 65536
   ·have HPE : Hid (pre = ts.flatMap textT):=Lib.hid (by
     rcases HPA.out with ⟨_,h⟩ | ⟨h,_⟩
     ·exact h
     ·omega)
    go_wp2
    go_ret2
    refine ⟨HB.out,.inl ⟨HOKA.out,?_⟩⟩
    rw [← HPE.out]
    exact ⟨hpre,a5,c5,rfl,HO.out⟩
   ·have HNO : Hid (¬ (okAll true ts = true ∧ (ts.flatMap textT).length ≤ 65536)):=Lib.hid (fun h=>by
     rcases HPA.out with ⟨h1,_⟩ | ⟨_,h1⟩
     ·omega
     ·omega)
    go_wp2
    go_ret2
    exact ⟨HB.out,.inr ⟨HNO.out,17,rfl,rfl⟩⟩
end Go.Proofs.YtjldpkhfiffinaaGreatDoor.U
