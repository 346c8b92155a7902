/- Contracts and plain facts that the law stands on: Q9. -/
import Derived.Test.YtjldpkhfiffinaaGreatDoorZP03
namespace Go.Proofs.YtjldpkhfiffinaaGreatDoor.U
open Go.RowKit Go.Shelf
theorem beg_at (s x : ByteArray) (k : Nat) : ((s.extract k (k + x.size)).toList == x.toList) = begL (bts x) ((bts s).drop k):=by
 rw [ByteArray.toList_eq,ByteArray.toList_eq]
 show (bts (s.extract k (k + x.size)) == bts x) = _
 have hl:=bts_len s
 have hx:=bts_len x
 rw [bts_extract,← List.take_drop,← hx]
 rw [Bool.eq_iff_iff,beq_iff_eq,begL_iff]
 constructor
 ·intro e
  exact ⟨((bts s).drop k).drop (bts x).length,by conv=>lhs;rw [← List.take_append_drop (bts x).length ((bts s).drop k),e]⟩
 ·rintro ⟨r,e⟩
  rw [e,List.take_left]
theorem beg_far {s x : ByteArray} {k : Nat} (hk : k ≤ s.size) (h : ¬ k + x.size ≤ s.size) : begL (bts x) ((bts s).drop k) = false:=by
 cases hb : begL (bts x) ((bts s).drop k) with
 | false=>rfl
 | true=>
  have:=begL_len hb
  rw [List.length_drop,bts_len,bts_len] at this
  omega
set_option maxHeartbeats 1000000 in
theorem begins_any (s : ByteArray) (k : Nat) (x : ByteArray) (w : World) (hk : k ≤ s.size) (hs : s.size ≤ 100000) (hx : x.size ≤ 100) :
  Calls Tryz.prog 65 #[.string s,.int .i64 k,.string x] w fun e w'=>e = .returned (.bool (begL (bts x) ((bts s).drop k))) ∧ w = w':=by
 by_cases h : k + x.size ≤ s.size
 ·have HB:=Lib.hid (beg_at s x k)
  go_enter Tryz.func65,Tryz.ntmps65
  go_wp2
  go_ret
  refine ⟨?_,rfl⟩
  rw [← HB.out]
  rfl
 ·have HB:=Lib.hid (beg_far hk h)
  go_enter Tryz.func65,Tryz.ntmps65
  go_wp2
  go_ret
  refine ⟨?_,rfl⟩
  rw [HB.out]
  rfl
set_option maxHeartbeats 1000000 in
theorem find_any (s : ByteArray) (k : Nat) (x : ByteArray) (w : World) (hk : k ≤ s.size) (hs : s.size ≤ 100000) (hx : x.size ≤ 100) :
  Calls Tryz.prog 66 #[.string s,.int .i64 k,.string x] w fun e w'=>e = .returned (.int .i64 (foundZ k (findL (bts x) ((bts s).drop k)))) ∧ w = w':=by
 have hlen:=bts_len s
 go_enter Tryz.func66,Tryz.ntmps66
 go_wp2_with fail
 go_loopw [7] (fun i wr=>∃ j : Nat,k ≤ j ∧ j ≤ s.size + 1 ∧ i = .int .i64 j ∧ w = wr ∧ Hid (∀ q,q < j - k → begL (bts x) (((bts s).drop k).drop q) = false)) (fun i _=>s.size + 1 - (intOf i).toNat)
 case atStart=>exact ⟨k,by omega,by omega,rfl,rfl,fun q hq=>by omega⟩
 case round=>
  obtain ⟨j,hkj,hj,rfl,rfl,HQ⟩:=hrel
  by_cases hlt : j ≤ s.size
  ·have HD : Hid (((bts s).drop k).drop (j - k) = (bts s).drop j):=Lib.hid (by rw [List.drop_drop,show k + (j - k) = j by omega])
   cases hb : begL (bts x) ((bts s).drop j) with
   | true=>
    have HF : Hid (findL (bts x) ((bts s).drop k) = some (j - k)):=Lib.hid (findL_eq _ (by rw [HD.out];exact hb) (by rw [List.length_drop,hlen];omega) HQ.out)
    have HB:=Lib.hid hb
    clear hb
    go_wp2_with fail
    refine (begins_any s j x _ hlt hs hx).mono ?_
    rintro e w2 ⟨rfl,rfl⟩
    rw [HB.out]
    go_wp2
    go_ret
    refine ⟨?_,rfl⟩
    rw [HF.out]
    show Ending.returned (.int .i64 (j : Int)) = .returned (.int .i64 ((k + (j - k) : Nat) : Int))
    rw [show k + (j - k) = j by omega]
   | false=>
    have HB:=Lib.hid hb
    have HQ2 : Hid (∀ q,q < j + 1 - k → begL (bts x) (((bts s).drop k).drop q) = false):=Lib.hid (fun q hq=>by
     rcases Nat.lt_or_ge q (j - k) with h1 | h1
     ·exact HQ.out q h1
     ·rw [show q = j - k by omega,HD.out];exact hb)
    clear hb
    go_wp2_with fail
    refine (begins_any s j x _ hlt hs hx).mono ?_
    rintro e w2 ⟨rfl,rfl⟩
    rw [HB.out]
    go_wp2
    exact ⟨⟨j + 1,by omega,by omega,by go_num,trivial,HQ2.out⟩,by simp [intOf];omega⟩
  ·have HF : Hid (findL (bts x) ((bts s).drop k) = none):=Lib.hid (findL_no fun q hq=>HQ.out q (by rw [List.length_drop,hlen] at hq;omega))
   go_wp2
   go_ret
   refine ⟨?_,rfl⟩
   rw [HF.out]
   rfl
theorem nameN_here {s : ByteArray} {j : Nat} (h : j < s.size) (hb : namedI (s[j]'h).toNat = true) : nameN ((bts s).drop j) = nameN ((bts s).drop (j + 1)) + 1:=by
 rw [bts_drop s j h];unfold nameN;rw [List.takeWhile_cons_of_pos (p:=fun b : UInt8=>namedI b.toNat) hb];rfl
theorem nameN_stop2 {s : ByteArray} {j : Nat} (h : j < s.size) (hb : namedI (s[j]'h).toNat = false) : nameN ((bts s).drop j) = 0:=by
 rw [bts_drop s j h];unfold nameN;rw [List.takeWhile_cons_of_neg (by simp [hb])];rfl
theorem nameN_end {s : ByteArray} {j : Nat} (h : s.size ≤ j) : nameN ((bts s).drop j) = 0:=by
 rw [List.drop_of_length_le (by rw [bts_len];exact h)];rfl
theorem blankN_here {s : ByteArray} {j : Nat} (h : j < s.size) (hb : blankI (s[j]'h).toNat = true) : blankN ((bts s).drop j) = blankN ((bts s).drop (j + 1)) + 1:=by
 rw [bts_drop s j h];unfold blankN;rw [List.takeWhile_cons_of_pos (p:=fun b : UInt8=>blankI b.toNat) hb];rfl
theorem blankN_stop2 {s : ByteArray} {j : Nat} (h : j < s.size) (hb : blankI (s[j]'h).toNat = false) : blankN ((bts s).drop j) = 0:=by
 rw [bts_drop s j h];unfold blankN;rw [List.takeWhile_cons_of_neg (by simp [hb])];rfl
theorem blankN_end {s : ByteArray} {j : Nat} (h : s.size ≤ j) : blankN ((bts s).drop j) = 0:=by
 rw [List.drop_of_length_le (by rw [bts_len];exact h)];rfl
theorem name_a {s : ByteArray} {j : Nat} (h : j < s.size) : nameL (bts ((⟨#[97]⟩ : ByteArray) ++ s.extract j (j + 1))) = namedI (s[j]'h).toNat:=by
 rw [bts_append,bts_sub s j h]
 show nameL (97 :: [s[j]'h]) = _
 unfold nameL allL
 cases hn : namedI (s[j]'h).toNat <;> simp [hn] <;> decide
set_option maxHeartbeats 1000000 in
set_option maxRecDepth 10000 in
theorem name3_any (s : ByteArray) (k : Nat) (w : World) (hk : k ≤ s.size) (hs : s.size ≤ 100000) :
  Calls Tryz.prog 67 #[.string s,.int .i64 k] w fun e w'=>e = .returned (.int .i64 (nameZ k ((bts s).drop k))) ∧ Below w.heap.size w w':=by
 go_enter Tryz.func67,Tryz.ntmps67
 go_wp2_with fail
 go_loopw [5] (fun i wr=>∃ j : Nat,k ≤ j ∧ j ≤ s.size ∧ i = .int .i64 j ∧ Hid (Below w.heap.size w wr) ∧ Hid (nameN ((bts s).drop k) = (j - k) + nameN ((bts s).drop j))) (fun i _=>s.size + 1 - (intOf i).toNat)
 case atStart=>exact ⟨k,by omega,by omega,rfl,Below.refl _ _,by rw [Nat.sub_self,Nat.zero_add];rfl⟩
 case round=>
  obtain ⟨j,hkj,hj,rfl,HB,HN⟩:=hrel
  by_cases hgo : ∃ h : j < s.size,namedI (s[j]'h).toNat = true
  ·obtain ⟨hlt,hn⟩:=hgo
   have HI:=Lib.hid ((name_a hlt).trans hn)
   have HN2 : Hid (nameN ((bts s).drop k) = (j + 1 - k) + nameN ((bts s).drop (j + 1))):=Lib.hid (by rw [HN.out,nameN_here hlt hn];omega)
   clear hn
   go_wp2_with fail
   refine (refIsN_any _ _ (by rw [ByteArray.size_append,ByteArray.size_extract];have : (⟨#[97]⟩ : ByteArray).size = 1:=rfl;omega)).mono ?_
   rintro e w2 ⟨rfl,hb2⟩
   rw [HI.out]
   have HB2:=Lib.hid (th HB.out (Nat.le_refl _) hb2)
   clear hb2
   go_wp2
   exact ⟨⟨j + 1,by omega,by omega,by go_num,HB2,HN2.out⟩,by simp [intOf];omega⟩
  ·have HE : Hid (nameN ((bts s).drop k) = j - k):=Lib.hid (by
    rw [HN.out]
    rcases Nat.lt_or_ge j s.size with h | h
    ·rw [nameN_stop2 h (by simpa using fun e=>hgo ⟨h,e⟩)];rfl
    ·rw [nameN_end h];rfl)
   have HX : Hid (bts (s.extract k j) = ((bts s).drop k).take (nameN ((bts s).drop k))):=Lib.hid (by rw [HE.out,bts_extract,List.take_drop,show k + (j - k) = j by omega])
   have HZ : Hid (∀ W,Calls Tryz.prog 37 #[.string (s.extract k j)] W fun e w'=>e = .returned (.bool (nameL (((bts s).drop k).take (nameN ((bts s).drop k))))) ∧ Below W.heap.size W w'):=Lib.hid (fun W=>by
    have:=refIsN_any (s.extract k j) W (by rw [ByteArray.size_extract];omega)
    rwa [HX.out] at this)
   have HV : Hid (nameZ k ((bts s).drop k) = if nameL (((bts s).drop k).take (nameN ((bts s).drop k))) = true then ((j : Nat) : Int) else -1):=Lib.hid (by
    unfold nameZ;rw [HE.out,show k + (j - k) = j by omega])
   rcases Nat.lt_or_ge j s.size with hlt | hge
   ·have HI : Hid (nameL (bts ((⟨#[97]⟩ : ByteArray) ++ s.extract j (j + 1))) = false):=Lib.hid ((name_a hlt).trans (by simpa using fun e=>hgo ⟨hlt,e⟩))
    clear hgo
    go_wp2_with fail
    refine (refIsN_any _ _ (by rw [ByteArray.size_append,ByteArray.size_extract];have : (⟨#[97]⟩ : ByteArray).size = 1:=rfl;omega)).mono ?_
    rintro e w2 ⟨rfl,hb2⟩
    rw [HI.out]
    have HB2:=Lib.hid (th HB.out (Nat.le_refl _) hb2)
    clear hb2
    go_wp2_with fail
    refine (HZ.out _).mono ?_
    rintro e w3 ⟨rfl,hb3⟩
    have HB3:=Lib.hid (th HB2.out (Nat.le_refl _) hb3)
    clear hb3
    cases hq : nameL (((bts s).drop k).take (nameN ((bts s).drop k)))
    ·have HQ:=Lib.hid hq
     clear hq
     go_wp2
     go_ret
     refine ⟨?_,HB3.out⟩
     rw [HV.out,if_neg (by rw [HQ.out];simp)]
     rfl
    ·have HQ:=Lib.hid hq
     clear hq
     go_wp2
     go_ret
     refine ⟨?_,HB3.out⟩
     rw [HV.out,if_pos HQ.out]
     rfl
   ·obtain rfl : j = s.size:=by omega
    clear hgo
    go_wp2_with fail
    refine (HZ.out _).mono ?_
    rintro e w3 ⟨rfl,hb3⟩
    have HB3:=Lib.hid (th HB.out (Nat.le_refl _) hb3)
    clear hb3
    cases hq : nameL (((bts s).drop k).take (nameN ((bts s).drop k)))
    ·have HQ:=Lib.hid hq
     clear hq
     go_wp2
     go_ret
     refine ⟨?_,HB3.out⟩
     rw [HV.out,if_neg (by rw [HQ.out];simp)]
     rfl
    ·have HQ:=Lib.hid hq
     clear hq
     go_wp2
     go_ret
     refine ⟨?_,HB3.out⟩
     rw [HV.out,if_pos HQ.out]
     rfl
set_option maxHeartbeats 1000000 in
theorem blanks_any (s : ByteArray) (k : Nat) (w : World) (hk : k ≤ s.size) (hs : s.size ≤ 100000) :
  Calls Tryz.prog 68 #[.string s,.int .i64 k] w fun e w'=>e = .returned (.int .i64 ((k + blankN ((bts s).drop k) : Nat) : Int)) ∧ w = w':=by
 go_enter Tryz.func68,Tryz.ntmps68
 go_wp2_with fail
 go_loopw [1] (fun i wr=>∃ j : Nat,k ≤ j ∧ j ≤ s.size ∧ i = .int .i64 j ∧ w = wr ∧ Hid (blankN ((bts s).drop k) = (j - k) + blankN ((bts s).drop j))) (fun i _=>s.size + 1 - (intOf i).toNat)
 case atStart=>exact ⟨k,by omega,by omega,rfl,rfl,by rw [Nat.sub_self,Nat.zero_add];rfl⟩
 case round=>
  obtain ⟨j,hkj,hj,rfl,rfl,HN⟩:=hrel
  by_cases hlt : j < s.size
  ·cases hb : blankI (s[j]'hlt).toNat with
   | true=>
    have HI:=Lib.hid hb
    have HN2 : Hid (blankN ((bts s).drop k) = (j + 1 - k) + blankN ((bts s).drop (j + 1))):=Lib.hid (by rw [HN.out,blankN_here hlt hb];omega)
    clear hb
    go_wp2_with fail
    refine (refBlank_any _ _).mono ?_
    rintro e w2 ⟨rfl,rfl⟩
    rw [HI.out]
    go_wp2
    exact ⟨⟨j + 1,by omega,by omega,by go_num,trivial,HN2.out⟩,by simp [intOf];omega⟩
   | false=>
    have HI:=Lib.hid hb
    have HE : Hid (k + blankN ((bts s).drop k) = j):=Lib.hid (by rw [HN.out,blankN_stop2 hlt hb];omega)
    clear hb
    go_wp2_with fail
    refine (refBlank_any _ _).mono ?_
    rintro e w2 ⟨rfl,rfl⟩
    rw [HI.out]
    go_wp2
    go_ret
    refine ⟨?_,rfl⟩
    rw [HE.out]
    rfl
  ·have HE : Hid (k + blankN ((bts s).drop k) = j):=Lib.hid (by rw [HN.out,blankN_end (by omega)];omega)
   go_wp2
   go_ret
   refine ⟨?_,rfl⟩
   rw [HE.out]
   rfl
theorem value_none {s : ByteArray} {k : Nat} (h : k < s.size) (hq : (s[k]'h).toNat = 34 ∨ (s[k]'h).toNat = 39) (hf : findL [s[k]'h] ((bts s).drop (k + 1)) = none) : valueL ((bts s).drop k) = none:=by
 rw [bts_drop s k h]
 simp only [valueL]
 rw [if_pos (hq.elim (fun e=>.inl (UInt8.toNat.inj e)) (fun e=>.inr (UInt8.toNat.inj e))),hf]
theorem value_err {s : ByteArray} {k e : Nat} {z : Int} (h : k < s.size) (hq : (s[k]'h).toNat = 34 ∨ (s[k]'h).toNat = 39) (hf : findL [s[k]'h] ((bts s).drop (k + 1)) = some e) (hu : unL [] ((((bts s).drop (k + 1)).take e).map mapB) = .error z) : valueL ((bts s).drop k) = none:=by
 rw [bts_drop s k h]
 simp only [valueL]
 rw [if_pos (hq.elim (fun e=>.inl (UInt8.toNat.inj e)) (fun e=>.inr (UInt8.toNat.inj e))),hf]
 simp only [hu]
theorem value_some {s : ByteArray} {k e : Nat} {x : List UInt8} (h : k < s.size) (hq : (s[k]'h).toNat = 34 ∨ (s[k]'h).toNat = 39) (hf : findL [s[k]'h] ((bts s).drop (k + 1)) = some e) (hu : unL [] ((((bts s).drop (k + 1)).take e).map mapB) = .ok x) : valueL ((bts s).drop k) = some (x,e + 2):=by
 rw [bts_drop s k h]
 simp only [valueL]
 rw [if_pos (hq.elim (fun e=>.inl (UInt8.toNat.inj e)) (fun e=>.inr (UInt8.toNat.inj e))),hf]
 simp only [hu]
theorem value_not {s : ByteArray} {k : Nat} (h : k < s.size) (h1 : (s[k]'h).toNat ≠ 34) (h2 : (s[k]'h).toNat ≠ 39) : valueL ((bts s).drop k) = none:=by
 rw [bts_drop s k h]
 simp only [valueL]
 rw [if_neg (fun h=>h.elim (fun e=>h1 (by rw [e];rfl)) (fun e=>h2 (by rw [e];rfl)))]
theorem raw_snoc {s : ByteArray} {k j : Nat} (h : j < s.size) (hk : k ≤ j) : (((bts s).drop k).take (j + 1 - k)).map mapB = (((bts s).drop k).take (j - k)).map mapB ++ [mapB (s[j]'h)]:=by
 have e : ((bts s).drop k).take (j + 1 - k) = ((bts s).drop k).take (j - k) ++ [s[j]'h]:=by
  rw [List.take_drop,List.take_drop,show k + (j + 1 - k) = j + 1 by omega,show k + (j - k) = j by omega,bts_take s j h,List.drop_append_of_le_length (by rw [List.length_take,bts_len];omega)]
 rw [e,List.map_append];rfl
set_option maxHeartbeats 2000000 in
set_option maxRecDepth 10000 in
theorem value_any (s : ByteArray) (k : Nat) (w : World) (hs : s.size ≤ 100000) :
  Calls Tryz.prog 142 #[.string s,.int .i64 k] w fun e w'=>e = .returned (valueZ k (valueL ((bts s).drop k))) ∧ Below w.heap.size w w':=by
 obtain ⟨i0,hi,hz0,hz1,hz2⟩:=info_parts info5
 rcases Nat.lt_or_ge k s.size with hlt | hge
 ·by_cases hq : (s[k]'hlt).toNat = 34 ∨ (s[k]'hlt).toNat = 39
  ·have HQ:=Lib.hid hq
   have HF : Hid (∀ W,Calls Tryz.prog 66 #[.string s,.int .i64 ((k : Int) + 1),.string (s.extract k (k + 1))] W fun e w'=>e = .returned (.int .i64 (foundZ (k + 1) (findL [s[k]'hlt] ((bts s).drop (k + 1))))) ∧ W = w'):=Lib.hid (fun W=>by
    have:=find_any s (k + 1) (s.extract k (k + 1)) W (by omega) hs (by rw [ByteArray.size_extract];omega)
    rw [bts_sub s k hlt] at this
    exact this)
   cases hf : findL [s[k]'hlt] ((bts s).drop (k + 1)) with
   | none=>
    have HN:=Lib.hid (value_none hlt HQ.out hf)
    have HF2 : Hid (∀ W,Calls Tryz.prog 66 #[.string s,.int .i64 ((k : Int) + 1),.string (s.extract k (k + 1))] W fun e w'=>e = .returned (.int .i64 (-1)) ∧ W = w'):=Lib.hid (fun W=>by
     have:=HF.out W
     rwa [hf] at this)
    clear hf HF
    rcases hq with hq | hq
    all_goals
     go_enter Tryz.func142,Tryz.ntmps142
     go_wp2_with fail
     refine (HF2.out _).mono ?_
     rintro e w2 ⟨rfl,rfl⟩
     go_wp2
     go_ret2
     refine ⟨?_,Below.refl _ _⟩
     rw [HN.out]
     rfl
   | some e=>
    have hel:=findL_len hf
    rw [List.length_drop,bts_len] at hel
    simp only [List.length_singleton] at hel
    have HFF:=Lib.hid hf
    obtain ⟨E,hE⟩ : ∃ E,E = k + 1 + e:=⟨_,rfl⟩
    have hEs : E < s.size:=by omega
    have hkE : k + 1 ≤ E:=by omega
    have HE:=Lib.hid hE
    rcases hq with hq | hq
    all_goals
     have HF2 : Hid (∀ W,Calls Tryz.prog 66 #[.string s,.int .i64 ((k : Int) + 1),.string (s.extract k (k + 1))] W fun e w'=>e = .returned (.int .i64 E) ∧ W = w'):=Lib.hid (fun W=>by
      have:=HF.out W
      rw [hf] at this
      simp only [foundZ] at this
      rwa [← hE] at this)
     clear hf hel HF hE
     go_enter Tryz.func142,Tryz.ntmps142
     go_wp2_with fail
     refine (HF2.out _).mono ?_
     rintro e w2 ⟨rfl,rfl⟩
     go_wp2_with fail
     go_loopw [7,8,9] (fun v i _ wr=>∃ j : Nat,k + 1 ≤ j ∧ j ≤ E ∧ i = .int .i64 j ∧ Hid (wr.ownsRow w.heap.size 5 1 v ((((bts s).drop (k + 1)).take (j - (k + 1))).map mapB).length (Lib.byteCells ((((bts s).drop (k + 1)).take (j - (k + 1))).map mapB))) ∧ Hid (Below w.heap.size w wr)) (fun _ i _ _=>E - (intOf i).toNat)
     case atStart=>exact ⟨k + 1,by omega,by omega,by go_num,by rw [Nat.sub_self];exact World.ownsRow_nil _ _ _ _,Below.refl _ _⟩
     case round=>
      obtain ⟨j,hkj,hj,rfl,HO,HB⟩:=hrel
      have HRL : Hid (((((bts s).drop (k + 1)).take (j - (k + 1))).map mapB).length ≤ 100000):=Lib.hid (by rw [List.length_map,List.length_take];omega)
      by_cases hjl : j < E
      ·have hjs : j < s.size:=by omega
       have HSN:=Lib.hid (raw_snoc (s:=s) (k:=k + 1) hjs hkj)
       by_cases h9 : (s[j]'hjs).toNat = 9
       ·have HM : Hid (Lib.byteCells [mapB (s[j]'hjs)] = [.int .u8 32]):=Lib.hid (by rw [show s[j]'hjs = 9 from UInt8.toNat.inj h9];rfl)
        go_wp2_with (at_builtin;refine wpList_append_own _ rfl _ _ 22 rfl w.heap.size 5 i0 (.int .u8 0) 1 1 Tryz.underlying22 hi hz0 hz1 hz2 rfl (by decide) _ _ _ rfl (HO.out.alloc _) ⟨wr.heap.size,0,none⟩ 1 1 [.int .u8 32] rfl rfl (cell_one_new _ _ _) (by simp [Value.oneCell']) (by unfold maxLen;have:=HRL.out;omega) (by have:=HRL.out;omega) (by have:=HB.out.size;simp;omega) ?_;intro v3 w3 hown3 hgrow3 _)
        all_goals first
         | (exfalso;simp_all;done)
         | skip
        have HB3:=Lib.hid ((al HB.out (Nat.le_refl _) _).grown hgrow3 (by have:=HB.out.size;simp;omega) (fun k e=>(HO.out.lt k e).1))
        have HO3 : Hid (w3.ownsRow w.heap.size 5 1 v3 ((((bts s).drop (k + 1)).take (j + 1 - (k + 1))).map mapB).length (Lib.byteCells ((((bts s).drop (k + 1)).take (j + 1 - (k + 1))).map mapB))):=Lib.hid (by
         rw [HSN.out,Lib.byteCells_append,List.length_append,HM.out]
         exact hown3)
        exact ⟨⟨j + 1,by omega,by omega,by go_num,HO3,HB3⟩,by simp [intOf];omega⟩
       ·by_cases h10 : (s[j]'hjs).toNat = 10
        ·have HM : Hid (Lib.byteCells [mapB (s[j]'hjs)] = [.int .u8 32]):=Lib.hid (by rw [show s[j]'hjs = 10 from UInt8.toNat.inj h10];rfl)
         go_wp2_with (at_builtin;refine wpList_append_own _ rfl _ _ 22 rfl w.heap.size 5 i0 (.int .u8 0) 1 1 Tryz.underlying22 hi hz0 hz1 hz2 rfl (by decide) _ _ _ rfl (HO.out.alloc _) ⟨wr.heap.size,0,none⟩ 1 1 [.int .u8 32] rfl rfl (cell_one_new _ _ _) (by simp [Value.oneCell']) (by unfold maxLen;have:=HRL.out;omega) (by have:=HRL.out;omega) (by have:=HB.out.size;simp;omega) ?_;intro v3 w3 hown3 hgrow3 _)
         all_goals first
          | (exfalso;simp_all;done)
          | skip
         have HB3:=Lib.hid ((al HB.out (Nat.le_refl _) _).grown hgrow3 (by have:=HB.out.size;simp;omega) (fun k e=>(HO.out.lt k e).1))
         have HO3 : Hid (w3.ownsRow w.heap.size 5 1 v3 ((((bts s).drop (k + 1)).take (j + 1 - (k + 1))).map mapB).length (Lib.byteCells ((((bts s).drop (k + 1)).take (j + 1 - (k + 1))).map mapB))):=Lib.hid (by
          rw [HSN.out,Lib.byteCells_append,List.length_append,HM.out]
          exact hown3)
         exact ⟨⟨j + 1,by omega,by omega,by go_num,HO3,HB3⟩,by simp [intOf];omega⟩
        ·have HM : Hid (Lib.byteCells [mapB (s[j]'hjs)] = [.int .u8 ((s[j]'hjs).toNat : Int)]):=Lib.hid (by
          unfold mapB
          rw [if_neg (fun h=>h.elim (fun e=>h9 (by rw [e];rfl)) (fun e=>h10 (by rw [e];rfl)))]
          rfl)
         have hb9 : (((s[j]'hjs).toNat : Int) == 9) = false:=by rw [beq_eq_false_iff_ne];omega
         have hb10 : (((s[j]'hjs).toNat : Int) == 10) = false:=by rw [beq_eq_false_iff_ne];omega
         go_wp2_with (at_builtin;refine wpList_append_own _ rfl _ _ 22 rfl w.heap.size 5 i0 (.int .u8 0) 1 1 Tryz.underlying22 hi hz0 hz1 hz2 rfl (by decide) _ _ _ rfl (HO.out.alloc _) ⟨wr.heap.size,0,none⟩ 1 1 [.int .u8 ((s[j]'hjs).toNat : Int)] rfl rfl (cell_one_new _ _ _) (by simp [Value.oneCell']) (by unfold maxLen;have:=HRL.out;omega) (by have:=HRL.out;omega) (by have:=HB.out.size;simp;omega) ?_;intro v3 w3 hown3 hgrow3 _)
         all_goals first
          | (exfalso;simp_all;done)
          | skip
         have HB3:=Lib.hid ((al HB.out (Nat.le_refl _) _).grown hgrow3 (by have:=HB.out.size;simp;omega) (fun k e=>(HO.out.lt k e).1))
         have HO3 : Hid (w3.ownsRow w.heap.size 5 1 v3 ((((bts s).drop (k + 1)).take (j + 1 - (k + 1))).map mapB).length (Lib.byteCells ((((bts s).drop (k + 1)).take (j + 1 - (k + 1))).map mapB))):=Lib.hid (by
          rw [HSN.out,Lib.byteCells_append,List.length_append,HM.out]
          exact hown3)
         exact ⟨⟨j + 1,by omega,by omega,by go_num,HO3,HB3⟩,by simp [intOf];omega⟩
      ·obtain rfl : j = E:=by omega
       obtain ⟨R,hR⟩ : ∃ R,R = (((bts s).drop (k + 1)).take (j - (k + 1))).map mapB:=⟨_,rfl⟩
       rw [← hR] at HO HRL
       have hRe : (((bts s).drop (k + 1)).take e).map mapB = R:=by rw [hR,HE.out,show k + 1 + e - (k + 1) = e by omega]
       have hcb:=conv_own _ _ _ _ HO.out
       have HU:=Lib.hid (fun W=>refUnescape_any ⟨R.toArray⟩ W (by rw [str_size];exact HRL.out))
       have HRE:=Lib.hid hRe
       clear hR hRe
       cases hu : unL [] R with
       | error z=>
        have hz:=unL_err hu
        have HN:=Lib.hid (value_err hlt HQ.out HFF.out (by rw [HRE.out];exact hu))
        have HU2 : Hid (∀ W,Calls Tryz.prog 70 #[.string ⟨R.toArray⟩] W fun e w'=>e = .returned (.tuple #[.string ⟨#[]⟩,.int .i64 z]) ∧ Below W.heap.size W w'):=Lib.hid (fun W=>by
         have:=HU.out W
         rw [show bts ⟨R.toArray⟩ = R from bts_mk R,hu] at this
         exact this)
        have hz0 : z ≠ 0:=by omega
        clear hu hz
        go_wp2_with fail
        refine (HU2.out _).mono ?_
        rintro e w4 ⟨rfl,hb4⟩
        go_wp2
        go_ret2
        refine ⟨?_,th HB.out (Nat.le_refl _) hb4⟩
        rw [HN.out]
        rfl
       | ok x=>
        have HN:=Lib.hid (value_some hlt HQ.out HFF.out (by rw [HRE.out];exact hu))
        have HU2 : Hid (∀ W,Calls Tryz.prog 70 #[.string ⟨R.toArray⟩] W fun e w'=>e = .returned (.tuple #[.string ⟨x.toArray⟩,.int .i64 0]) ∧ Below W.heap.size W w'):=Lib.hid (fun W=>by
         have:=HU.out W
         rw [show bts ⟨R.toArray⟩ = R from bts_mk R,hu] at this
         exact this)
        clear hu
        go_wp2_with fail
        refine (HU2.out _).mono ?_
        rintro e' w4 ⟨rfl,hb4⟩
        go_wp2
        go_ret2
        refine ⟨?_,th HB.out (Nat.le_refl _) hb4⟩
        rw [HN.out]
        show Ending.returned (.tuple #[.string ⟨x.toArray⟩,.int .i64 ((j : Int) + 1)]) = .returned (.tuple #[.string ⟨x.toArray⟩,.int .i64 ((k + (e + 2) : Nat) : Int)])
        rw [show ((k + (e + 2) : Nat) : Int) = (j : Int) + 1 by have:=HE.out;omega]
  ·obtain ⟨h1,h2⟩ : (s[k]'hlt).toNat ≠ 34 ∧ (s[k]'hlt).toNat ≠ 39:=⟨fun e=>hq (.inl e),fun e=>hq (.inr e)⟩
   have HV:=Lib.hid (value_not hlt h1 h2)
   clear hq
   go_enter Tryz.func142,Tryz.ntmps142
   go_wp2
   all_goals first
    | (go_ret2;refine ⟨?_,Below.refl _ _⟩;rw [HV.out];rfl)
    | (exfalso;simp_all;done)
    | (exfalso;simp_all;omega)
 ·have HV : Hid (valueL ((bts s).drop k) = none):=Lib.hid (by rw [List.drop_of_length_le (by rw [bts_len];exact hge)];rfl)
  go_enter Tryz.func142,Tryz.ntmps142
  go_wp2
  go_ret2
  refine ⟨?_,Below.refl _ _⟩
  rw [HV.out]
  rfl
end Go.Proofs.YtjldpkhfiffinaaGreatDoor.U
