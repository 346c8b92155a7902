/- Contracts and plain facts that the law stands on: Q12. -/
import Derived.Test.YtjldpkhfiffinaaGreatDoorZC13
import Derived.Test.YtjldpkhfiffinaaGreatDoorZC04
import Derived.Test.YtjldpkhfiffinaaGreatDoorZC02
import Derived.Test.YtjldpkhfiffinaaGreatDoorZC07
import Derived.Deep.RegionHeld3
import Derived.Test.YtjldpkhfiffinaaGreatDoorZC14
import Derived.Test.YtjldpkhfiffinaaGreatDoorZC15
import Derived.Test.YtjldpkhfiffinaaGreatDoorZC08
namespace Go.Proofs.YtjldpkhfiffinaaGreatDoor.U
open Go.RowKit Go.Shelf
theorem Moves.drew {b p : Nat} {doc : ByteArray} {v : Value} {w w1 : World} (h : Moves b doc v p w w1) : Moves b doc v p w w1.drew:=h.trans ⟨⟨rfl,rfl,rfl,Nat.le_refl _,fun _ _ _=>rfl⟩,h.box⟩
theorem Moves.setc {b p : Nat} {doc : ByteArray} {v : Value} {w w1 : World} (h : Moves b doc v p w w1) (q : Nat) {z : Int} (hz : z = q) : Moves b doc v q w (w1.setCell ⟨b,1,none⟩ (.int .i64 z)):=by
 subst hz
 exact ⟨grow_trans h.grown (grow_set _ _ _ _),h.box.set q⟩
structure IsByteKind (g : Nat) (q : UInt8 → Bool) : Prop where
 enters : ∀ args w,(callFunc g args).run Tryz.prog w = .ok (.enter g args) w
 tells : ∀ s c w,bts s = [c] → Calls Tryz.prog g #[.string s] w fun e w'=>e = .returned (.bool (q c)) ∧ Below w.heap.size w w'
def placeOf (b : Nat) (w : World) : Nat:=match w.cell? ⟨b,1,none⟩ with | some (.int _ n)=>n.toNat | _=>0
theorem placeOf_box {b p : Nat} {doc : ByteArray} {v : Value} {w : World} (h : BoxS b doc p v w) : placeOf b w = p:=by
 unfold placeOf;rw [h.at.2.1];simp
def kindN (q : UInt8 → Bool) (l : List UInt8) : Nat:=(l.takeWhile q).length
theorem kindN_here {q : UInt8 → Bool} {s : ByteArray} {j : Nat} (h : j < s.size) (hb : q (s[j]'h) = true) : kindN q ((bts s).drop j) = kindN q ((bts s).drop (j + 1)) + 1:=by
 rw [bts_drop s j h];unfold kindN;rw [List.takeWhile_cons_of_pos hb];rfl
theorem kindN_stop {q : UInt8 → Bool} {s : ByteArray} {j : Nat} (h : j < s.size) (hb : q (s[j]'h) = false) : kindN q ((bts s).drop j) = 0:=by
 rw [bts_drop s j h];unfold kindN;rw [List.takeWhile_cons_of_neg (by rw [hb];simp)];rfl
theorem kindN_end {q : UInt8 → Bool} {s : ByteArray} {j : Nat} (h : s.size ≤ j) : kindN q ((bts s).drop j) = 0:=by
 rw [List.drop_of_length_le (by rw [bts_len];omega)];rfl
theorem kindN_le (q : UInt8 → Bool) (l : List UInt8) : kindN q l ≤ l.length:=by unfold kindN;exact List.Sublist.length_le (List.takeWhile_sublist _)
set_option maxHeartbeats 2000000 in
set_option maxRecDepth 10000 in
theorem run_any (g : Nat) (q : UInt8 → Bool) (hk : IsByteKind g q) (b p : Nat) (doc : ByteArray) (v : Value) (w : World) (h : BoxS b doc p v w) (hp : p ≤ doc.size) (hs : doc.size ≤ 100000) :
  Calls Tryz.prog 153 #[.pointer (some ⟨b,0,none⟩),.func (.func g) #[] #[]] w fun e w'=>e = .returned (.string (doc.extract p (p + kindN q ((bts doc).drop p)))) ∧ Moves b doc v (p + kindN q ((bts doc).drop p)) w w':=by
 have eg:=hk.enters
 have HT:=Lib.hid hk.tells
 have HN0:=kindN_le q ((bts doc).drop p)
 rw [List.length_drop,bts_len] at HN0
 have HN:=Lib.hid (show p + kindN q ((bts doc).drop p) ≤ doc.size by omega)
 obtain ⟨N,hN⟩ : ∃ N,N = p + kindN q ((bts doc).drop p):=⟨_,rfl⟩
 rw [← hN] at HN ⊢
 have HX:=Lib.hid hN
 have HM0:=Lib.hid (moves_stay h 0)
 obtain ⟨c0,c1,c2,f0,f1,f2⟩:=h.at
 clear h hN HN0
 go_enter Tryz.func153,Tryz.ntmps153
 go_wp2_with fail
 clear c0 c1 c2 f0 f1 f2
 go_loopw [] (fun wr=>∃ j : Nat,p ≤ j ∧ j ≤ doc.size ∧ Hid (Moves b doc v j w wr) ∧ Hid (j + kindN q ((bts doc).drop j) = N)) (fun wr=>doc.size - placeOf b wr)
 case atStart=>exact ⟨p,by omega,hp,HM0,Lib.hid (by rw [HX.out])⟩
 case round=>
  obtain ⟨j,hpj,hj,HM,HJ⟩:=hrel
  obtain ⟨c0,c1,c2,f0,f1,f2⟩:=HM.out.box.at
  by_cases hlt : j < doc.size
  ·have hd : decide (j < doc.size) = true:=decide_eq_true hlt
   have HMR : Hid (∀ W,Moves b doc v j w W → Calls Tryz.prog 58 #[.pointer (some ⟨b,0,none⟩)] W fun e w'=>e = .returned (.bool true) ∧ Moves b doc v j w w'):=Lib.hid (fun W hM=>(more_any b j doc v W hM.box).mono (by
    rintro e w' ⟨h1,n,rfl⟩
    rw [hd] at h1
    exact ⟨h1,hM.trans (moves_stay hM.box n)⟩))
   have HKR : Hid (∀ W,Moves b doc v j w W → Calls Tryz.prog g #[.string (doc.extract j (j + 1))] W fun e w'=>e = .returned (.bool (q (doc[j]'hlt))) ∧ Moves b doc v j w w'):=Lib.hid (fun W hM=>(HT.out _ _ W (bts_sub doc j hlt)).mono (by
    rintro e w' ⟨h1,h2⟩
    exact ⟨h1,hM.below h2⟩))
   have w1 : IntKind.i64.wrap ((j : Int) + 1) = (j : Int) + 1:=wrap_small _ (by omega) (by omega)
   have n0 : (0 : Int) ≤ (j : Int):=by omega
   have n1 : (0 : Int) ≤ (j : Int) + 1:=by omega
   have n2 : ((j : Int) + 1).toNat = j + 1:=by omega
   have n3 : (j : Int) + 1 ≤ (doc.size : Int):=by omega
   have n4 : (j : Int) ≤ (j : Int) + 1:=by omega
   cases hq : q (doc[j]'hlt) with
   | true=>
    have HJ2:=Lib.hid (kindN_here hlt hq)
    rw [hq] at HKR
    clear hq hd
    go_wp2_with fail
    go_region_held3 (fun W=>W.cell? ⟨b,0,none⟩ = some (.string doc) ∧ W.cell? ⟨b,1,none⟩ = some (.int .i64 j) ∧ Hid (Moves b doc v j w W)) (first | (exact ⟨HM.out.box.at.1,HM.out.box.at.2.1,Lib.hid HM.out.drew⟩) | (have hM2 : Hid _:=Lib.hid ‹Moves b doc v j w _›;exact ⟨hM2.out.box.at.1,hM2.out.box.at.2.1,hM2⟩)) (first | (go_at_call 58;go_split_ands;refine (HMR.out _ (Hid.out (by assumption))).mono ?_;rintro e w2 ⟨rfl,hM2⟩) | (go_split_ands;refine (HKR.out _ (Hid.out (by assumption))).mono ?_;rintro e w2 ⟨rfl,hM2⟩))
    clear w1 n0 n1 n2 n3 n4
    go_split_ands
    rename_i hMv
    have HM3:=Lib.hid hMv.out
    clear hMv
    obtain ⟨d0,d1,d2,g0,g1,g2⟩:=HM3.out.box.at
    go_wp2
    have HM4:=Lib.hid (HM3.out.setc (j + 1) (z:=(j : Int) + 1) (by omega))
    exact ⟨⟨j + 1,by omega,by omega,HM4,Lib.hid (by have:=HJ.out;have:=HJ2.out;omega)⟩,by rw [placeOf_box HM4.out.box,placeOf_box HM.out.box];omega⟩
   | false=>
    have HE : Hid (j = N):=Lib.hid (by have:=HJ.out;rw [kindN_stop hlt hq] at this;omega)
    rw [hq] at HKR
    clear hq hd
    go_wp2_with fail
    go_region_held3 (fun W=>W.cell? ⟨b,0,none⟩ = some (.string doc) ∧ W.cell? ⟨b,1,none⟩ = some (.int .i64 j) ∧ Hid (Moves b doc v j w W)) (first | (exact ⟨HM.out.box.at.1,HM.out.box.at.2.1,Lib.hid HM.out.drew⟩) | (have hM2 : Hid _:=Lib.hid ‹Moves b doc v j w _›;exact ⟨hM2.out.box.at.1,hM2.out.box.at.2.1,hM2⟩)) (first | (go_at_call 58;go_split_ands;refine (HMR.out _ (Hid.out (by assumption))).mono ?_;rintro e w2 ⟨rfl,hM2⟩) | (go_split_ands;refine (HKR.out _ (Hid.out (by assumption))).mono ?_;rintro e w2 ⟨rfl,hM2⟩))
    clear w1 n0 n1 n2 n3 n4
    go_split_ands
    rename_i hMv
    have HM3:=Lib.hid hMv.out
    clear hMv
    obtain ⟨d0,d1,d2,g0,g1,g2⟩:=HM3.out.box.at
    obtain rfl:=HE.out
    go_wp2_with fail
    go_quiet (fail)
    go_wp2
    go_ret
    exact ⟨rfl,HM3.out.trans (moves_stay HM3.out.box _)⟩
  ·have HE : Hid (j = N):=Lib.hid (by have:=HJ.out;rw [kindN_end (by omega)] at this;omega)
   have HMR : Hid (∀ n,Calls Tryz.prog 58 #[.pointer (some ⟨b,0,none⟩)] (wr.drewN n) fun e w'=>e = .returned (.bool false) ∧ ∃ m,w' = wr.drewN m):=Lib.hid (fun n=>Calls.quiet_of ((more_any b j doc v _ (HM.out.box.drewN n)).mono (by
    rintro e w' ⟨h1,h2⟩
    rw [decide_eq_false hlt] at h1
    exact ⟨h1,h2⟩)))
   obtain rfl:=HE.out
   go_wp2_with fail
   go_quiet ((go_at_call 58;exact HMR.out _))
   go_wp2_with fail
   go_quiet (fail)
   go_wp2
   go_ret
   exact ⟨rfl,HM.out.trans ((moves_stay HM.out.box _).trans (moves_stay (HM.out.box.drewN _) _))⟩
theorem kind_blankB : IsByteKind 141 (fun c=>blankI c.toNat):=⟨enters_of Tryz.func141 (by kernel_rfl) rfl,fun s c w h=>(blankS_any s w).mono (by
 rintro e w' ⟨h1,h2⟩
 rw [h] at h1
 refine ⟨?_,h2⟩
 rw [h1]
 simp [allL])⟩
theorem name_u (c : UInt8) : nameL (95 :: [c]) = namedI c.toNat:=by
 unfold nameL allL
 cases hn : namedI c.toNat <;> simp [hn] <;> decide
theorem named_s (s : ByteArray) (c : UInt8) (w : World) (h : bts s = [c]) : Calls Tryz.prog 154 #[.string s] w fun e w'=>e = .returned (.bool (namedI c.toNat)) ∧ Below w.heap.size w w':=by
 have HI : Hid (nameL (bts ((⟨#[95]⟩ : ByteArray) ++ s)) = namedI c.toNat):=Lib.hid (by rw [bts_append,h];exact name_u c)
 have hs : s.size ≤ 10:=by rw [← bts_len,h];simp
 clear h
 go_enter Tryz.func154,Tryz.ntmps154
 go_wp2_with fail
 refine (isName_any _ _).mono ?_
 rintro e w2 ⟨rfl,hb⟩
 go_wp2
 go_ret
 exact ⟨by rw [← HI.out];rfl,hb⟩
theorem kind_namedB : IsByteKind 154 (fun c=>namedI c.toNat):=⟨enters_of Tryz.func154 (by kernel_rfl) rfl,named_s⟩
set_option maxHeartbeats 1000000 in
theorem sblanks_any (b p : Nat) (doc : ByteArray) (v : Value) (w : World) (h : BoxS b doc p v w) (hp : p ≤ doc.size) (hs : doc.size ≤ 100000) :
  Calls Tryz.prog 128 #[.pointer (some ⟨b,0,none⟩)] w fun e w'=>e = .returned (.bool (decide (0 < blankN ((bts doc).drop p)))) ∧ Moves b doc v (p + blankN ((bts doc).drop p)) w w':=by
 have HR:=Lib.hid (run_any _ _ kind_blankB b p doc v w h hp hs)
 have hle:=kindN_le (fun c=>blankI c.toNat) ((bts doc).drop p)
 rw [List.length_drop,bts_len] at hle
 obtain ⟨n,hn⟩ : ∃ n,n = blankN ((bts doc).drop p):=⟨_,rfl⟩
 have hn2 : kindN (fun c=>blankI c.toNat) ((bts doc).drop p) = n:=hn.symm
 rw [hn2] at HR hle
 rw [← hn]
 have HS : Hid ((doc.extract p (p + n)).size = n):=Lib.hid (by rw [ByteArray.size_extract];omega)
 generalize doc.extract p (p + n) = x at HR HS
 clear hn hn2 h
 by_cases h0 : 0 < n
 ·rw [decide_eq_true h0]
  have hne:=emp_no (s:=x) (by have:=HS.out;omega)
  go_enter Tryz.func128,Tryz.ntmps128
  go_wp2_with fail
  refine HR.out.mono ?_
  rintro e w2 ⟨rfl,hm⟩
  go_wp2
  go_ret
  exact ⟨rfl,hm⟩
 ·rw [decide_eq_false h0]
  obtain rfl : n = 0:=by omega
  have e0 : bts x = bts ⟨#[]⟩:=by rw [show bts ⟨#[]⟩ = [] from rfl];exact List.eq_nil_of_length_eq_zero (by rw [bts_len];exact HS.out)
  have hx : x = ⟨#[]⟩:=bts_inj e0
  subst hx
  go_enter Tryz.func128,Tryz.ntmps128
  go_wp2_with fail
  refine HR.out.mono ?_
  rintro e w2 ⟨rfl,hm⟩
  go_wp2
  go_ret
  exact ⟨rfl,hm⟩
set_option maxHeartbeats 1000000 in
theorem sname_any (b p : Nat) (doc : ByteArray) (v : Value) (w : World) (h : BoxS b doc p v w) (hp : p ≤ doc.size) (hs : doc.size ≤ 100000) :
  Calls Tryz.prog 127 #[.pointer (some ⟨b,0,none⟩)] w fun e w'=>e = .returned (.tuple #[.string ⟨(((bts doc).drop p).take (nameN ((bts doc).drop p))).toArray⟩,.bool (nameL (((bts doc).drop p).take (nameN ((bts doc).drop p))))]) ∧ Moves b doc v (p + nameN ((bts doc).drop p)) w w':=by
 have HR:=Lib.hid (run_any _ _ kind_namedB b p doc v w h hp hs)
 have hle:=kindN_le (fun c=>namedI c.toNat) ((bts doc).drop p)
 rw [List.length_drop,bts_len] at hle
 obtain ⟨n,hn⟩ : ∃ n,n = nameN ((bts doc).drop p):=⟨_,rfl⟩
 have hn2 : kindN (fun c=>namedI c.toNat) ((bts doc).drop p) = n:=hn.symm
 rw [hn2] at HR hle
 rw [← hn]
 have e0 : bts (doc.extract p (p + n)) = bts ⟨(((bts doc).drop p).take n).toArray⟩:=by rw [bts_extract,bts_mk (((bts doc).drop p).take n),List.take_drop]
 have hx : doc.extract p (p + n) = ⟨(((bts doc).drop p).take n).toArray⟩:=bts_inj e0
 rw [hx] at HR
 have HI : Hid (∀ W,Calls Tryz.prog 28 #[.string ⟨(((bts doc).drop p).take n).toArray⟩] W fun e w'=>e = .returned (.bool (nameL (((bts doc).drop p).take n))) ∧ Below W.heap.size W w'):=Lib.hid (fun W=>by
  have:=isName_any ⟨(((bts doc).drop p).take n).toArray⟩ W
  rwa [bts_mk] at this)
 generalize ((bts doc).drop p).take n = x at HR HI ⊢
 generalize nameL x = ok at HI ⊢
 generalize (⟨x.toArray⟩ : ByteArray) = y at HR HI ⊢
 clear hn hn2 h hx
 go_enter Tryz.func127,Tryz.ntmps127
 go_wp2_with fail
 refine HR.out.mono ?_
 rintro e w2 ⟨rfl,hm⟩
 have HM:=Lib.hid hm
 clear hm
 go_wp2_with fail
 refine (HI.out _).mono ?_
 rintro e w3 ⟨rfl,hb⟩
 go_wp2
 go_ret2
 exact ⟨rfl,HM.out.below hb⟩
def quotedL : List UInt8 → Option (List UInt8 × Nat)
 | []=>none
 | q :: t=>if q = 34 ∨ q = 39 then (findL [q] t).map fun e=>(t.take e,e + 2) else none
def QuotedPost (b p : Nat) (doc : ByteArray) (v : Value) (o : Option (List UInt8 × Nat)) (w : World) (e : Ending) (w' : World) : Prop:=
 (∃ x n,o = some (x,n) ∧ e = .returned (.tuple #[.string ⟨x.toArray⟩,.bool true]) ∧ Moves b doc v (p + n) w w') ∨ (o = none ∧ ∃ x q,q ≤ doc.size ∧ e = .returned (.tuple #[.string x,.bool false]) ∧ Moves b doc v q w w')
theorem beg_one (c : UInt8) (l : List UInt8) : begL [c] l = (l.head? == some c):=by
 cases l with
 | nil=>rfl
 | cons a t=>
  rw [begL_cons,begL_nil,Bool.and_true]
  simp only [List.head?_cons]
  cases h : (c == a) with
  | true=>rw [beq_iff_eq] at h;subst h;simp
  | false=>
   rw [beq_eq_false_iff_ne] at h
   symm
   rw [beq_eq_false_iff_ne]
   exact fun e=>h (Option.some.inj e).symm
theorem quoted_not {l : List UInt8} (h1 : begL [34] l = false) (h2 : begL [39] l = false) : quotedL l = none:=by
 cases l with
 | nil=>rfl
 | cons a t=>
  rw [beg_one] at h1 h2
  simp at h1 h2
  simp only [quotedL]
  rw [if_neg (by simp [h1,h2])]
theorem cell_grown {w w' : World} {b g o : Nat} {u : Value} (hg : w.grownBy w' (some b)) (h : w.cell? ⟨g,o,none⟩ = some u) (hne : g ≠ b) : w'.cell? ⟨g,o,none⟩ = some u:=
 hg.cell h (fun e=>hne (Option.some.inj e))
set_option maxHeartbeats 4000000 in
set_option maxRecDepth 10000 in
theorem quoted_any (b p : Nat) (doc : ByteArray) (v : Value) (w : World) (hm : LayT w) (hbt : 6 ≤ b) (h : BoxS b doc p v w) (hp : p ≤ doc.size) (hs : doc.size ≤ 100000) :
  Calls Tryz.prog 155 #[.pointer (some ⟨b,0,none⟩)] w fun e w'=>QuotedPost b p doc v (quotedL ((bts doc).drop p)) w e w':=by
 have hlt:=h.lt
 have al1 : Below w.heap.size w (w.alloc (.cells #[.string ⟨#[34]⟩,.string ⟨#[39]⟩] 9)):=(Below.refl _ w).alloc (Nat.le_refl _) _
 have HM1:=Lib.hid ((moves_stay h 0).below al1)
 have HC1 : Hid ((w.alloc (.cells #[.string ⟨#[34]⟩,.string ⟨#[39]⟩] 9)).cell? ⟨w.heap.size,0,none⟩ = some (.string ⟨#[34]⟩) ∧ (w.alloc (.cells #[.string ⟨#[34]⟩,.string ⟨#[39]⟩] 9)).cell? ⟨w.heap.size,1,none⟩ = some (.string ⟨#[39]⟩)):=Lib.hid ⟨by simp [World.cell?_alloc_new],by simp [World.cell?_alloc_new]⟩
 have HNB : Hid (w.heap.size ≠ b):=Lib.hid (by omega)
 clear h al1
 go_enter Tryz.func155,Tryz.ntmps155
 go_wp2_with fail
 go_loopw [8] (fun i wr=>∃ k : Nat,k ≤ 2 ∧ i = .int .i64 k ∧ Hid (Moves b doc v p w wr) ∧ Hid (wr.cell? ⟨w.heap.size,0,none⟩ = some (.string ⟨#[34]⟩) ∧ wr.cell? ⟨w.heap.size,1,none⟩ = some (.string ⟨#[39]⟩)) ∧ Hid ((1 ≤ k → begL [34] ((bts doc).drop p) = false) ∧ (2 ≤ k → begL [39] ((bts doc).drop p) = false))) (fun i _=>2 - (intOf i).toNat)
 case atStart=>exact ⟨0,by omega,rfl,HM1,HC1,Lib.hid ⟨fun h=>by omega,fun h=>by omega⟩⟩
 case round=>
  obtain ⟨k,hk,rfl,HM,HC,HK⟩:=hrel
  obtain ⟨c0,c1⟩:=HC.out
  have hk' : k = 0 ∨ k = 1 ∨ k = 2:=by omega
  rcases hk' with rfl | rfl | rfl
  ·cases hb : begL [34] ((bts doc).drop p) with
   | true=>
    have hh:=beg_split hb
    have hp1 : p + 1 ≤ doc.size:=by have:=begL_len hb;rw [List.length_drop,bts_len] at this;simp at this;omega
    have HSK:=Lib.hid (fun W (hM : Moves b doc v p w W)=>skip_yes b p doc ⟨#[34]⟩ v W hM.box hp hs hb)
    have hd1 : ((bts doc).drop p).drop 1 = (bts doc).drop (p + 1):=by rw [List.drop_drop]
    cases hf : findL [34] ((bts doc).drop (p + 1)) with
    | some k=>
     have HQ : Hid (quotedL ((bts doc).drop p) = some (((bts doc).drop (p + 1)).take k,k + 2)):=Lib.hid (by rw [hh];simp only [List.singleton_append,List.length_singleton,hd1,quotedL];rw [if_pos (by decide),hf];rfl)
     have HUN:=Lib.hid (fun W (hM : Moves b doc v (p + 1) w W)=>until_some b (p + 1) k doc ⟨#[34]⟩ v W (hm.grown hM.grown hlt hbt).mx hM.box hp1 hs hf)
     clear hb hh hd1 hf
     go_wp2_with fail
     refine (HSK.out _ HM.out).mono ?_
     rintro e w2 ⟨rfl,hM2⟩
     have HM2:=Lib.hid (HM.out.trans hM2)
     clear hM2
     go_wp2_with fail
     refine (HUN.out _ HM2.out).mono ?_
     rintro e w3 ⟨rfl,hM3⟩
     have HM3:=Lib.hid (HM2.out.trans hM3)
     clear hM3
     go_wp2
     go_ret2
     exact .inl ⟨_,k + 2,HQ.out,rfl,by have:=HM3.out;rwa [show p + 1 + (k + (⟨#[34]⟩ : ByteArray).size) = p + (k + 2) by rw [show (⟨#[34]⟩ : ByteArray).size = 1 from rfl];omega] at this⟩
    | none=>
     have HQ : Hid (quotedL ((bts doc).drop p) = none):=Lib.hid (by rw [hh];simp only [List.singleton_append,List.length_singleton,hd1,quotedL];rw [if_pos (by decide),hf];rfl)
     have HUN:=Lib.hid (fun W (hM : Moves b doc v (p + 1) w W)=>until_none b (p + 1) doc ⟨#[34]⟩ v W (hm.grown hM.grown hlt hbt).mx hM.box hp1 hs hf)
     clear hb hh hd1 hf
     go_wp2_with fail
     refine (HSK.out _ HM.out).mono ?_
     rintro e w2 ⟨rfl,hM2⟩
     have HM2:=Lib.hid (HM.out.trans hM2)
     clear hM2
     go_wp2_with fail
     refine (HUN.out _ HM2.out).mono ?_
     rintro e w3 ⟨rfl,hM3⟩
     have HM3:=Lib.hid (HM2.out.trans hM3)
     clear hM3
     go_wp2
     go_ret2
     exact .inr ⟨HQ.out,_,p + 1,hp1,rfl,HM3.out⟩
   | false=>
    have HSK:=Lib.hid (fun W (hM : Moves b doc v p w W)=>skip_no b p doc ⟨#[34]⟩ v W hM.box hp hs hb)
    have HB:=Lib.hid hb
    clear hb
    go_wp2_with fail
    refine (HSK.out _ HM.out).mono ?_
    rintro e w2 ⟨rfl,hM2⟩
    have HM2:=Lib.hid (HM.out.trans hM2)
    have HC2:=Lib.hid (show _ ∧ _ from ⟨cell_grown hM2.grown HC.out.1 HNB.out,cell_grown hM2.grown HC.out.2 HNB.out⟩)
    clear hM2
    go_wp2
    exact ⟨⟨1,by omega,rfl,HM2,HC2,Lib.hid (by first | exact ⟨fun _=>HB.out,fun h=>by omega⟩ | (simp;done))⟩,by simp [intOf]⟩
  ·cases hb : begL [39] ((bts doc).drop p) with
   | true=>
    have hh:=beg_split hb
    have hp1 : p + 1 ≤ doc.size:=by have:=begL_len hb;rw [List.length_drop,bts_len] at this;simp at this;omega
    have HSK:=Lib.hid (fun W (hM : Moves b doc v p w W)=>skip_yes b p doc ⟨#[39]⟩ v W hM.box hp hs hb)
    have hd1 : ((bts doc).drop p).drop 1 = (bts doc).drop (p + 1):=by rw [List.drop_drop]
    cases hf : findL [39] ((bts doc).drop (p + 1)) with
    | some k=>
     have HQ : Hid (quotedL ((bts doc).drop p) = some (((bts doc).drop (p + 1)).take k,k + 2)):=Lib.hid (by rw [hh];simp only [List.singleton_append,List.length_singleton,hd1,quotedL];rw [if_pos (by decide),hf];rfl)
     have HUN:=Lib.hid (fun W (hM : Moves b doc v (p + 1) w W)=>until_some b (p + 1) k doc ⟨#[39]⟩ v W (hm.grown hM.grown hlt hbt).mx hM.box hp1 hs hf)
     clear hb hh hd1 hf
     go_wp2_with fail
     refine (HSK.out _ HM.out).mono ?_
     rintro e w2 ⟨rfl,hM2⟩
     have HM2:=Lib.hid (HM.out.trans hM2)
     clear hM2
     go_wp2_with fail
     refine (HUN.out _ HM2.out).mono ?_
     rintro e w3 ⟨rfl,hM3⟩
     have HM3:=Lib.hid (HM2.out.trans hM3)
     clear hM3
     go_wp2
     go_ret2
     exact .inl ⟨_,k + 2,HQ.out,rfl,by have:=HM3.out;rwa [show p + 1 + (k + (⟨#[39]⟩ : ByteArray).size) = p + (k + 2) by rw [show (⟨#[39]⟩ : ByteArray).size = 1 from rfl];omega] at this⟩
    | none=>
     have HQ : Hid (quotedL ((bts doc).drop p) = none):=Lib.hid (by rw [hh];simp only [List.singleton_append,List.length_singleton,hd1,quotedL];rw [if_pos (by decide),hf];rfl)
     have HUN:=Lib.hid (fun W (hM : Moves b doc v (p + 1) w W)=>until_none b (p + 1) doc ⟨#[39]⟩ v W (hm.grown hM.grown hlt hbt).mx hM.box hp1 hs hf)
     clear hb hh hd1 hf
     go_wp2_with fail
     refine (HSK.out _ HM.out).mono ?_
     rintro e w2 ⟨rfl,hM2⟩
     have HM2:=Lib.hid (HM.out.trans hM2)
     clear hM2
     go_wp2_with fail
     refine (HUN.out _ HM2.out).mono ?_
     rintro e w3 ⟨rfl,hM3⟩
     have HM3:=Lib.hid (HM2.out.trans hM3)
     clear hM3
     go_wp2
     go_ret2
     exact .inr ⟨HQ.out,_,p + 1,hp1,rfl,HM3.out⟩
   | false=>
    have HSK:=Lib.hid (fun W (hM : Moves b doc v p w W)=>skip_no b p doc ⟨#[39]⟩ v W hM.box hp hs hb)
    have HB:=Lib.hid hb
    clear hb
    go_wp2_with fail
    refine (HSK.out _ HM.out).mono ?_
    rintro e w2 ⟨rfl,hM2⟩
    have HM2:=Lib.hid (HM.out.trans hM2)
    have HC2:=Lib.hid (show _ ∧ _ from ⟨cell_grown hM2.grown HC.out.1 HNB.out,cell_grown hM2.grown HC.out.2 HNB.out⟩)
    clear hM2
    go_wp2
    exact ⟨⟨2,by omega,rfl,HM2,HC2,Lib.hid (by first | exact ⟨fun _=>HK.out.1 (by omega),fun _=>HB.out⟩ | (have h2:=HK.out;simp at h2;simp [h2];done))⟩,by simp [intOf]⟩
  ·have HQ:=Lib.hid (quoted_not (HK.out.1 (by omega)) (HK.out.2 (by omega)))
   go_wp2
   go_ret2
   exact .inr ⟨HQ.out,_,p,hp,rfl,HM.out⟩
theorem value_quoted (m : List UInt8) : valueL m = match quotedL m with | none=>none | some (raw,n)=>match unL [] (raw.map mapB) with | .error _=>none | .ok x=>some (x,n):=by
 cases m with
 | nil=>rfl
 | cons q t=>
  simp only [valueL,quotedL]
  by_cases hq : q = 34 ∨ q = 39
  ·rw [if_pos hq,if_pos hq]
   cases findL [q] t with
   | none=>rfl
   | some e=>rfl
  ·rw [if_neg hq,if_neg hq]
theorem quoted_whole {m raw : List UInt8} {n : Nat} (hw : Whole m) (h : quotedL m = some (raw,n)) : Whole raw ∧ n ≤ m.length ∧ raw.length ≤ m.length:=by
 cases m with
 | nil=>cases h
 | cons q t=>
  simp only [quotedL] at h
  split at h
  ·rename_i hq
   have hlow : q.toNat < 128:=by rcases hq with rfl | rfl <;> decide
   cases hf : findL [q] t with
   | none=>rw [hf] at h;cases h
   | some e=>
    rw [hf] at h
    simp only [Option.map_some,Option.some.injEq,Prod.mk.injEq] at h
    obtain ⟨rfl,rfl⟩:=h
    have hs:=find_split hf
    have hl:=findL_len hf
    have hwt:=(whole_tail hlow hw).1
    rw [hs] at hwt
    obtain ⟨w1,_⟩:=whole_at hlow hwt
    simp at hl
    exact ⟨w1,by simp;omega,by simp;omega⟩
  ·cases h
theorem grow_new {w w1 w2 : World} {r : Option Nat} {g : Nat} (h : w.grownBy w1 r) (k : w1.grownBy w2 (some g)) (hg : w.heap.size ≤ g) : w.grownBy w2 r:=
 ⟨k.os.trans h.os,k.tape.trans h.tape,k.output.trans h.output,Nat.le_trans h.size k.size,fun i hi hr=>(k.block i (Nat.lt_of_lt_of_le hi h.size) (fun e=>by have:=Option.some.inj e;omega)).trans (h.block i hi hr)⟩
theorem Moves.other {b p g : Nat} {doc : ByteArray} {v : Value} {w w1 w2 : World} (h : Moves b doc v p w w1) (k : w1.grownBy w2 (some g)) (hg : w.heap.size ≤ g) (hb : b < w.heap.size) : Moves b doc v p w w2:=
 ⟨grow_new h.grown k hg,(k.block b h.box.lt (fun e=>by have:=Option.some.inj e;omega)).trans h.box⟩
theorem Moves.own {b p g o : Nat} {doc : ByteArray} {v : Value} {w w1 : World} (h : Moves b doc v p w w1) (hg : w.heap.size ≤ g) (hb : b < w.heap.size) (u : Value) : Moves b doc v p w (w1.setCell ⟨g,o,none⟩ u):=h.other (grow_set w1 g o u) hg hb
theorem Box2.kept {t : TypeId} {g b : Nat} {x y : ByteArray} {w w' : World} (h : Box2 t g x y w) (hg : w.grownBy w' (some b)) (hne : g ≠ b) : Box2 t g x y w':=
 (hg.block g (Array.getElem?_eq_some_iff.1 h).1 (fun e=>hne (Option.some.inj e))).trans h
structure StA (b : Nat) (doc : ByteArray) (v : Value) (p : Nat) (w wr : World) : Prop where
 mv : Moves b doc v p w wr
 bx : Box2 82 w.heap.size ⟨#[]⟩ ⟨#[]⟩ wr
 lt : b < w.heap.size
theorem StA.start {b p : Nat} {doc : ByteArray} {v : Value} {w : World} (h : BoxS b doc p v w) : StA b doc v p w (w.alloc (.cells #[.string ⟨#[]⟩,.string ⟨#[]⟩] 82)):=
 ⟨(moves_stay h 0).below ((Below.refl _ w).alloc (Nat.le_refl _) _),Box2.new _ _ _ w,h.lt⟩
theorem StA.go {b p q : Nat} {doc : ByteArray} {v : Value} {w w1 w2 : World} (h : StA b doc v p w w1) (k : Moves b doc v q w1 w2) : StA b doc v q w w2:=
 ⟨h.mv.trans k,h.bx.kept k.grown (by have:=h.lt;omega),h.lt⟩
theorem StA.below {b p : Nat} {doc : ByteArray} {v : Value} {w w1 w2 : World} (h : StA b doc v p w w1) (k : Below w1.heap.size w1 w2) : StA b doc v p w w2:=
 ⟨h.mv.below k,h.bx.below k,h.lt⟩
theorem StA.other {b p g : Nat} {doc : ByteArray} {v : Value} {w w1 w2 : World} (h : StA b doc v p w w1) (k : w1.grownBy w2 (some g)) (hg : w.heap.size < g) : StA b doc v p w w2:=
 ⟨h.mv.other k (by omega) h.lt,h.bx.kept k (by omega),h.lt⟩
def AttrPostS (b p : Nat) (doc : ByteArray) (v : Value) (o : Option ((List UInt8 × List UInt8) × Nat)) (w : World) (e : Ending) (w' : World) : Prop:=
 (∃ a n,o = some (a,n) ∧ e = .returned (.tuple #[.agg #[.string ⟨a.1.toArray⟩,.string ⟨a.2.toArray⟩],.bool true]) ∧ Moves b doc v (p + n) w w') ∨
  (o = none ∧ ∃ x y q,q ≤ doc.size ∧ e = .returned (.tuple #[.agg #[.string x,.string y],.bool false]) ∧ Moves b doc v q w w')
set_option maxHeartbeats 4000000 in
set_option maxRecDepth 10000 in
theorem readAttr_any (b p : Nat) (doc : ByteArray) (v : Value) (w : World) (hm : LayT w) (hbt : 6 ≤ b) (h : BoxS b doc p v w) (hp : p ≤ doc.size) (hs : doc.size ≤ 100000) (hw : Whole ((bts doc).drop p)) :
  Calls Tryz.prog 130 #[.pointer (some ⟨b,0,none⟩)] w fun e w'=>AttrPostS b p doc v (attrL ((bts doc).drop p)) w e w':=by
 have hl:=bts_len doc
 have HST:=Lib.hid (StA.start h)
 have HLAY : Hid (∀ q W,StA b doc v q w W → LayT W):=Lib.hid (fun q W k=>hm.grown k.mv.grown h.lt hbt)
 have HBT:=Lib.hid hbt
 obtain ⟨n,hn⟩ : ∃ n,n = nameN ((bts doc).drop p):=⟨_,rfl⟩
 have hnl : p + n ≤ doc.size:=by
  have:=nameN_le ((bts doc).drop p)
  rw [List.length_drop,hl,← hn] at this;omega
 have HNM:=Lib.hid (fun W (k : StA b doc v p w W)=>sname_any b p doc v W k.mv.box hp hs)
 rw [← hn] at HNM
 cases hq : nameL (((bts doc).drop p).take n) with
 | false=>
  rw [hq] at HNM
  have HA:=Lib.hid (attr_none1 (l:=(bts doc).drop p) (by rw [← hn];exact hq))
  clear hq hn h hm hbt hw
  go_enter Tryz.func130,Tryz.ntmps130
  go_wp2_with fail
  refine (HNM.out _ HST.out).mono ?_
  rintro e w2 ⟨rfl,hm2⟩
  have HS2:=Lib.hid (HST.out.go hm2)
  clear hm2
  obtain ⟨c0,c1,f0,f1⟩:=HS2.out.bx.at
  go_wp2
  (try simp only [Exit.inBlock,Exit.then])
  refine ret_cell rfl rfl (HS2.out.bx.set ⟨#[]⟩ ⟨#[]⟩) Tryz.underlying82 rfl (by kernel_rfl) rfl ?_
  exact .inr ⟨HA.out,_,_,p + n,hnl,rfl,(HS2.out.mv.own (o:=0) (Nat.le_refl _) HS2.out.lt _).own (o:=1) (Nat.le_refl _) HS2.out.lt _⟩
 | true=>
  rw [hq] at HNM
  obtain ⟨e1,he1⟩ : ∃ e1,e1 = p + n:=⟨_,rfl⟩
  have hd1 : ((bts doc).drop p).drop n = (bts doc).drop e1:=by rw [List.drop_drop,he1]
  obtain ⟨b1,hb1⟩ : ∃ b1,b1 = blankN ((bts doc).drop e1):=⟨_,rfl⟩
  obtain ⟨e2,he2⟩ : ∃ e2,e2 = e1 + b1:=⟨_,rfl⟩
  have hd2 : ((bts doc).drop e1).drop b1 = (bts doc).drop e2:=by rw [List.drop_drop,he2]
  have hbl:=blankN_le ((bts doc).drop e1)
  rw [List.length_drop,hl,← hb1] at hbl
  have h1s : e1 ≤ doc.size:=by omega
  have h2s : e2 ≤ doc.size:=by omega
  have HBK:=Lib.hid (fun W (k : StA b doc v e1 w W)=>sblanks_any b e1 doc v W k.mv.box h1s hs)
  rw [← hb1,← he2] at HBK
  rw [← he1] at HNM
  have w1 : Whole ((bts doc).drop e2):=by
   have:=whole_blank (whole_name hw)
   rwa [← hn,hd1,← hb1,hd2] at this
  cases hg : begL [61] ((bts doc).drop e2) with
  | false=>
   have HSK:=Lib.hid (fun W (k : StA b doc v e2 w W)=>skip_no b e2 doc ⟨#[61]⟩ v W k.mv.box h2s hs hg)
   have HA:=Lib.hid (attr_none2 (l:=(bts doc).drop p) (by rw [← hn];exact hq) (by rw [← hn,hd1,← hb1,hd2];exact hg))
   clear hq hn hnl he1 hd1 hb1 he2 hd2 hbl hg h hm hbt hw w1
   go_enter Tryz.func130,Tryz.ntmps130
   go_wp2_with fail
   refine (HNM.out _ HST.out).mono ?_
   rintro e w2 ⟨rfl,hm2⟩
   have HS2:=Lib.hid (HST.out.go hm2)
   clear hm2
   go_wp2_with fail
   refine (HBK.out _ HS2.out).mono ?_
   rintro e w3 ⟨rfl,hm3⟩
   have HS3:=Lib.hid (HS2.out.go hm3)
   clear hm3
   go_wp2_with fail
   refine (HSK.out _ HS3.out).mono ?_
   rintro e w4 ⟨rfl,hm4⟩
   have HS4:=Lib.hid (HS3.out.go hm4)
   clear hm4
   obtain ⟨c0,c1,f0,f1⟩:=HS4.out.bx.at
   go_wp2
   (try simp only [Exit.inBlock,Exit.then])
   refine ret_cell rfl rfl (HS4.out.bx.set ⟨#[]⟩ ⟨#[]⟩) Tryz.underlying82 rfl (by kernel_rfl) rfl ?_
   exact .inr ⟨HA.out,_,_,e2,h2s,rfl,(HS4.out.mv.own (o:=0) (Nat.le_refl _) HS4.out.lt _).own (o:=1) (Nat.le_refl _) HS4.out.lt _⟩
  | true=>
   have hlt2 : e2 + 1 ≤ doc.size:=by
    have:=begL_len hg
    rw [List.length_drop,hl] at this
    simp at this
    omega
   have HSK : Hid (∀ W,StA b doc v e2 w W → Calls Tryz.prog 107 #[.pointer (some ⟨b,0,none⟩),.string ⟨#[61]⟩] W fun e w'=>e = .returned (.bool true) ∧ Moves b doc v (e2 + 1) W w'):=Lib.hid (fun W k=>skip_yes b e2 doc ⟨#[61]⟩ v W k.mv.box h2s hs hg)
   obtain ⟨c,hc⟩ : ∃ c,c = blankN ((bts doc).drop (e2 + 1)):=⟨_,rfl⟩
   obtain ⟨e4,he4⟩ : ∃ e4,e4 = e2 + 1 + c:=⟨_,rfl⟩
   have hd3 : ((bts doc).drop e1).drop (b1 + 1) = (bts doc).drop (e2 + 1):=by rw [List.drop_drop,he2];congr 1
   have hd4 : ((bts doc).drop (e2 + 1)).drop c = (bts doc).drop e4:=by rw [List.drop_drop,he4]
   have hcl:=blankN_le ((bts doc).drop (e2 + 1))
   rw [List.length_drop,hl,← hc] at hcl
   have h4s : e4 ≤ doc.size:=by omega
   have HBK2:=Lib.hid (fun W (k : StA b doc v (e2 + 1) w W)=>sblanks_any b (e2 + 1) doc v W k.mv.box hlt2 hs)
   rw [← hc,← he4] at HBK2
   have w4 : Whole ((bts doc).drop e4):=by
    have hsp : (bts doc).drop e2 = 61 :: (bts doc).drop (e2 + 1):=by
     have:=beg_split hg
     rw [List.drop_drop] at this
     exact this
    rw [hsp] at w1
    have:=whole_blank (whole_tail (by decide) w1).1
    rwa [← hc,hd4] at this
   have HQU:=Lib.hid (fun W (k : StA b doc v e4 w W)=>quoted_any b e4 doc v W (HLAY.out _ _ k) HBT.out k.mv.box h4s hs)
   cases hv : quotedL ((bts doc).drop e4) with
   | none=>
    have HA:=Lib.hid (attr_none3 (l:=(bts doc).drop p) (by rw [← hn];exact hq) (by rw [← hn,hd1,← hb1,hd2];exact hg) (by rw [← hn,hd1,← hb1,hd3,← hc,hd4,value_quoted,hv]))
    have HQN : Hid (∀ W,StA b doc v e4 w W → Calls Tryz.prog 155 #[.pointer (some ⟨b,0,none⟩)] W fun e w'=>∃ x q,q ≤ doc.size ∧ e = .returned (.tuple #[.string x,.bool false]) ∧ Moves b doc v q W w'):=Lib.hid (fun W k=>(HQU.out W k).mono (by
     rintro e w' (⟨_,_,h1,_⟩ | ⟨_,h2⟩)
     ·rw [hv] at h1;cases h1
     ·exact h2))
    clear hq hn hnl he1 hd1 hb1 he2 hd2 hbl hg h hm hbt hw w1 hc he4 hd3 hd4 hcl w4 hv
    go_enter Tryz.func130,Tryz.ntmps130
    go_wp2_with fail
    refine (HNM.out _ HST.out).mono ?_
    rintro e w2 ⟨rfl,hm2⟩
    have HS2:=Lib.hid (HST.out.go hm2)
    clear hm2
    go_wp2_with fail
    refine (HBK.out _ HS2.out).mono ?_
    rintro e w3 ⟨rfl,hm3⟩
    have HS3:=Lib.hid (HS2.out.go hm3)
    clear hm3
    go_wp2_with fail
    refine (HSK.out _ HS3.out).mono ?_
    rintro e w4 ⟨rfl,hm4⟩
    have HS4:=Lib.hid (HS3.out.go hm4)
    clear hm4
    go_wp2_with fail
    refine (HBK2.out _ HS4.out).mono ?_
    rintro e w5 ⟨rfl,hm5⟩
    have HS5:=Lib.hid (HS4.out.go hm5)
    clear hm5
    go_wp2_with fail
    refine (HQN.out _ HS5.out).mono ?_
    rintro e w6 ⟨x,q,hqs,rfl,hm6⟩
    have HS6:=Lib.hid (HS5.out.go hm6)
    clear hm6
    obtain ⟨c0,c1,f0,f1⟩:=HS6.out.bx.at
    go_wp2
    (try simp only [Exit.inBlock,Exit.then])
    refine ret_cell rfl rfl (HS6.out.bx.set ⟨#[]⟩ ⟨#[]⟩) Tryz.underlying82 rfl (by kernel_rfl) rfl ?_
    exact .inr ⟨HA.out,_,_,q,hqs,rfl,(HS6.out.mv.own (o:=0) (Nat.le_refl _) HS6.out.lt _).own (o:=1) (Nat.le_refl _) HS6.out.lt _⟩
   | some y=>
    obtain ⟨raw,j⟩:=y
    obtain ⟨r1,r2,r3⟩:=quoted_whole w4 hv
    rw [List.length_drop,hl] at r2 r3
    have HQN : Hid (∀ W,StA b doc v e4 w W → Calls Tryz.prog 155 #[.pointer (some ⟨b,0,none⟩)] W fun e w'=>e = .returned (.tuple #[.string ⟨raw.toArray⟩,.bool true]) ∧ Moves b doc v (e4 + j) W w'):=Lib.hid (fun W k=>(HQU.out W k).mono (by
     rintro e w' (⟨x',n',h1,h2⟩ | ⟨h1,_⟩)
     ·rw [hv] at h1
      obtain ⟨rfl,rfl⟩:=Prod.mk.inj (Option.some.inj h1)
      exact h2
     ·rw [hv] at h1;cases h1))
    have hes : e4 + j ≤ doc.size:=by omega
    have hrs : (⟨raw.toArray⟩ : ByteArray).size ≤ 100000:=by rw [← bts_len,bts_mk];omega
    have HRS:=Lib.hid hrs
    have HNR:=Lib.hid (fun a W (k : FourS a W)=>newReplacer_any a 4 W k)
    have HRP : Hid (∀ g W,Fresh g W → Calls Tryz.prog 157 #[.pointer (some ⟨g,0,none⟩),.string ⟨raw.toArray⟩] W fun e w'=>e = .returned (.string ⟨(raw.map mapB).toArray⟩) ∧ W.grownBy w' (some g)):=Lib.hid (fun g W k=>by
     have:=replace_any g ⟨raw.toArray⟩ W k (by omega)
     rwa [bts_mk] at this)
    have HUE : Hid (∀ W,LayS W → Calls Tryz.prog 135 #[.string ⟨(raw.map mapB).toArray⟩] W fun e w'=>e = .returned (.tuple #[.string ⟨(unR (unL [] (raw.map mapB))).1.toArray⟩,.int .i64 (unR (unL [] (raw.map mapB))).2]) ∧ Below W.heap.size W w'):=Lib.hid (fun W k=>by
     have h9 : (⟨(raw.map mapB).toArray⟩ : ByteArray).size ≤ 1000000:=by rw [← bts_len,bts_mk,List.length_map];omega
     have:=unescape_any ⟨(raw.map mapB).toArray⟩ W k h9
     rw [bts_mk] at this
     unfold unP at this
     rwa [if_pos ((wholeB_iff _).2 (map_whole r1))] at this)
    have hval : valueL ((bts doc).drop e4) = match unL [] (raw.map mapB) with | .error _=>none | .ok x=>some (x,j):=by rw [value_quoted,hv]
    cases hu : unL [] (raw.map mapB) with
    | error z=>
     rw [hu] at HUE hval
     simp only at hval
     have hz:=unL_err hu
     have HA:=Lib.hid (attr_none3 (l:=(bts doc).drop p) (by rw [← hn];exact hq) (by rw [← hn,hd1,← hb1,hd2];exact hg) (by rw [← hn,hd1,← hb1,hd3,← hc,hd4,hval]))
     simp only [unR] at HUE
     clear hq hn hnl he1 hd1 hb1 he2 hd2 hbl hg h hm hbt hw w1 hc he4 hd3 hd4 hcl w4 hv r1 r2 r3 hrs hval hu
     rcases hz with rfl | rfl
     all_goals
      go_enter Tryz.func130,Tryz.ntmps130
      go_wp2_with fail
      refine (HNM.out _ HST.out).mono ?_
      rintro e w2 ⟨rfl,hm2⟩
      have HS2:=Lib.hid (HST.out.go hm2)
      clear hm2
      go_wp2_with fail
      refine (HBK.out _ HS2.out).mono ?_
      rintro e w3 ⟨rfl,hm3⟩
      have HS3:=Lib.hid (HS2.out.go hm3)
      clear hm3
      go_wp2_with fail
      refine (HSK.out _ HS3.out).mono ?_
      rintro e w4 ⟨rfl,hm4⟩
      have HS4:=Lib.hid (HS3.out.go hm4)
      clear hm4
      go_wp2_with fail
      refine (HBK2.out _ HS4.out).mono ?_
      rintro e w5 ⟨rfl,hm5⟩
      have HS5:=Lib.hid (HS4.out.go hm5)
      clear hm5
      go_wp2_with fail
      refine (HQN.out _ HS5.out).mono ?_
      rintro e w6 ⟨rfl,hm6⟩
      have HS6:=Lib.hid (HS5.out.go hm6)
      clear hm6
      go_wp2_with fail
      have HS7:=Lib.hid (HS6.out.below ((Below.refl _ w6).alloc (Nat.le_refl _) (.cells #[.string ⟨#[9]⟩,.string ⟨#[32]⟩,.string ⟨#[10]⟩,.string ⟨#[32]⟩] 9)))
      have H6 : Hid (w.heap.size < w6.heap.size):=Lib.hid (Array.getElem?_eq_some_iff.1 HS6.out.bx).1
      have HF7 : Hid (FourS w6.heap.size (w6.alloc (.cells #[.string ⟨#[9]⟩,.string ⟨#[32]⟩,.string ⟨#[10]⟩,.string ⟨#[32]⟩] 9))):=Lib.hid ⟨by simp [World.cell?_alloc_new],by simp [World.cell?_alloc_new],by simp [World.cell?_alloc_new],by simp [World.cell?_alloc_new]⟩
      refine (HNR.out _ _ HF7.out).mono ?_
      rintro e w8 ⟨g,rfl,hg8,hf8,hb8⟩
      have HS8:=Lib.hid (HS7.out.below hb8)
      have HG8 : Hid (w.heap.size < g):=Lib.hid (by have:=H6.out;simp at hg8;omega)
      have HF8:=Lib.hid hf8
      clear hg8 hf8 hb8
      go_wp2_with fail
      refine (HRP.out _ _ HF8.out).mono ?_
      rintro e w9 ⟨rfl,hg9⟩
      have HS9:=Lib.hid (HS8.out.other hg9 HG8.out)
      clear hg9
      go_wp2_with fail
      refine (HUE.out _ (HLAY.out _ _ HS9.out).lay).mono ?_
      rintro e w10 ⟨rfl,hb10⟩
      have HS10:=Lib.hid (HS9.out.below hb10)
      clear hb10
      obtain ⟨c0,c1,f0,f1⟩:=HS10.out.bx.at
      go_wp2
      (try simp only [Exit.inBlock,Exit.then])
      refine ret_cell rfl rfl (HS10.out.bx.set _ _) Tryz.underlying82 rfl (by kernel_rfl) rfl ?_
      exact .inr ⟨HA.out,_,_,e4 + j,hes,rfl,(HS10.out.mv.own (o:=0) (Nat.le_refl _) HS10.out.lt _).own (o:=1) (Nat.le_refl _) HS10.out.lt _⟩
    | ok x=>
     rw [hu] at HUE hval
     simp only at hval
     have HA:=Lib.hid (attr_some (l:=(bts doc).drop p) (by rw [← hn];exact hq) (by rw [← hn,hd1,← hb1,hd2];exact hg) (by rw [← hn,hd1,← hb1,hd3,← hc,hd4];exact hval))
     rw [← hn,hd1,← hb1,hd3,← hc] at HA
     have HJ : Hid (e4 + j = p + (n + b1 + 1 + c + j)):=Lib.hid (by omega)
     simp only [unR] at HUE
     clear hq hn hnl he1 hd1 hb1 he2 hd2 hbl hg h hm hbt hw w1 hc he4 hd3 hd4 hcl w4 hv r1 r2 r3 hrs hval hu
     go_enter Tryz.func130,Tryz.ntmps130
     go_wp2_with fail
     refine (HNM.out _ HST.out).mono ?_
     rintro e w2 ⟨rfl,hm2⟩
     have HS2:=Lib.hid (HST.out.go hm2)
     clear hm2
     go_wp2_with fail
     refine (HBK.out _ HS2.out).mono ?_
     rintro e w3 ⟨rfl,hm3⟩
     have HS3:=Lib.hid (HS2.out.go hm3)
     clear hm3
     go_wp2_with fail
     refine (HSK.out _ HS3.out).mono ?_
     rintro e w4 ⟨rfl,hm4⟩
     have HS4:=Lib.hid (HS3.out.go hm4)
     clear hm4
     go_wp2_with fail
     refine (HBK2.out _ HS4.out).mono ?_
     rintro e w5 ⟨rfl,hm5⟩
     have HS5:=Lib.hid (HS4.out.go hm5)
     clear hm5
     go_wp2_with fail
     refine (HQN.out _ HS5.out).mono ?_
     rintro e w6 ⟨rfl,hm6⟩
     have HS6:=Lib.hid (HS5.out.go hm6)
     clear hm6
     go_wp2_with fail
     have HS7:=Lib.hid (HS6.out.below ((Below.refl _ w6).alloc (Nat.le_refl _) (.cells #[.string ⟨#[9]⟩,.string ⟨#[32]⟩,.string ⟨#[10]⟩,.string ⟨#[32]⟩] 9)))
     have H6 : Hid (w.heap.size < w6.heap.size):=Lib.hid (Array.getElem?_eq_some_iff.1 HS6.out.bx).1
     have HF7 : Hid (FourS w6.heap.size (w6.alloc (.cells #[.string ⟨#[9]⟩,.string ⟨#[32]⟩,.string ⟨#[10]⟩,.string ⟨#[32]⟩] 9))):=Lib.hid ⟨by simp [World.cell?_alloc_new],by simp [World.cell?_alloc_new],by simp [World.cell?_alloc_new],by simp [World.cell?_alloc_new]⟩
     refine (HNR.out _ _ HF7.out).mono ?_
     rintro e w8 ⟨g,rfl,hg8,hf8,hb8⟩
     have HS8:=Lib.hid (HS7.out.below hb8)
     have HG8 : Hid (w.heap.size < g):=Lib.hid (by have:=H6.out;simp at hg8;omega)
     have HF8:=Lib.hid hf8
     clear hg8 hf8 hb8
     go_wp2_with fail
     refine (HRP.out _ _ HF8.out).mono ?_
     rintro e w9 ⟨rfl,hg9⟩
     have HS9:=Lib.hid (HS8.out.other hg9 HG8.out)
     clear hg9
     go_wp2_with fail
     refine (HUE.out _ (HLAY.out _ _ HS9.out).lay).mono ?_
     rintro e w10 ⟨rfl,hb10⟩
     have HS10:=Lib.hid (HS9.out.below hb10)
     clear hb10
     obtain ⟨c0,c1,f0,f1⟩:=HS10.out.bx.at
     go_wp2
     (try simp only [Exit.inBlock,Exit.then])
     refine ret_cell rfl rfl (HS10.out.bx.set _ _) Tryz.underlying82 rfl (by kernel_rfl) rfl ?_
     refine .inl ⟨_,_,HA.out,rfl,?_⟩
     rw [← HJ.out]
     exact (HS10.out.mv.own (o:=0) (Nat.le_refl _) HS10.out.lt _).own (o:=1) (Nat.le_refl _) HS10.out.lt _
end Go.Proofs.YtjldpkhfiffinaaGreatDoor.U
