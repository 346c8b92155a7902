/- Contracts and plain facts that the law stands on: Q5. -/
import Derived.Test.YtjldpkhfiffinaaGreatDoorZP02
import Derived.Test.YtjldpkhfiffinaaGreatDoorRows
import Derived.WalkKit
import Derived.WalkSpells
import Derived.WalkLawsBesides
import Derived.Lib.Hide
import Derived.Laws.Rows
import Derived.Lib.OthersKept
import Derived.BigQuiet
import Derived.BigCall
import Derived.Shelf.Abstract
import Derived.Lib.Strings
import Derived.Deep.QuietTactic
import Derived.Lib.ConvBytes
import Derived.Shelf.Strings.Builder1
import Derived.Shelf.Strings.Builder2
import Derived.Shelf.Small.Strs
import Derived.Shelf.Small.Wraps
import Derived.Shelf.Strings.BuilderF
import Derived.Shelf.Strings.BuilderK
import Derived.Shelf.Strings.BuilderRune
import Derived.Ground.MpProg
import Derived.Shelf.Pu.ParseUintPublic10
import Derived.Shelf.Strings.Search1
import Derived.Shelf.Strings.Search2
import Derived.Shelf.Strings.Search3
import Derived.Shelf.Strings.Cut
import Derived.Shelf.Strings.Count
import Derived.Shelf.LaysM
import Derived.Shelf.Strings.Shaped
import Derived.Shelf.Strings.Prefix
import Derived.Shelf.Strings.Split
import Derived.Shelf.Strings.Replace
import Derived.Shelf.Strings.SplitShaped
import Derived.Shelf.Unicode.DecodeSlow
import Derived.Lib.Walk
import Derived.Laws.Strings3
import Derived.Laws.Closers25
import Derived.Laws.Closers25b
import Derived.BigGuard
import Derived.Shelf.Pu.ToError
import Derived.Deep.DeepMust
import Derived.Laws.IdiomStrings
import Derived.Laws.BytesArg
namespace Go.Proofs.YtjldpkhfiffinaaGreatDoor.U
open Go.RowKit Go.Shelf
set_option maxHeartbeats 1000000 in
theorem refBlank_any (c : Int) (w : World) : Calls Tryz.prog 71 #[.int .u8 c] w fun e w'=>e = .returned (.bool (blankI c)) ∧ w = w':=by
 rcases (show c = 9 ∨ c = 10 ∨ c = 13 ∨ c = 32 ∨ (c ≠ 9 ∧ c ≠ 10 ∧ c ≠ 13 ∧ c ≠ 32) by omega) with h | h | h | h | ⟨h,h1,h2,h3⟩
 all_goals
  first
   | (have hv : blankI c = true:=by (simp only [blankI,decide_eq_true_eq];omega)
      rw [hv];clear hv)
   | (have hv : blankI c = false:=by (simp only [blankI,decide_eq_false_iff_not];omega)
      rw [hv];clear hv)
  first | subst h | skip
  go_enter Tryz.func71,Tryz.ntmps71
  go_wp2
  go_ret
  refine ⟨?_,rfl⟩
  first | rfl | (simp;done) | (simp;omega)
set_option maxHeartbeats 1000000 in
theorem digit_any (c : Int) (h0 : 0 ≤ c) (h1 : c < 256) (w : World) : Calls Tryz.prog 165 #[.int .u8 c] w fun e w'=>e = .returned (.int .i64 (digV c)) ∧ w = w':=by
 rcases (show c < 48 ∨ (48 ≤ c ∧ c ≤ 57) ∨ (58 ≤ c ∧ c < 65) ∨ (65 ≤ c ∧ c ≤ 70) ∨ (71 ≤ c ∧ c < 97) ∨ (97 ≤ c ∧ c ≤ 102) ∨ 102 < c by omega) with h | ⟨h,h'⟩ | ⟨h,h'⟩ | ⟨h,h'⟩ | ⟨h,h'⟩ | ⟨h,h'⟩ | h
 ·rw [digV_4 (by omega)]
  go_enter Tryz.func165,Tryz.ntmps165
  go_wp2
  go_ret
  exact ⟨rfl,rfl⟩
 ·rw [digV_1 (by omega)]
  go_enter Tryz.func165,Tryz.ntmps165
  go_wp2
  go_ret
  exact ⟨by first | rfl | (simp;omega),rfl⟩
 ·rw [digV_4 (by omega)]
  go_enter Tryz.func165,Tryz.ntmps165
  go_wp2
  go_ret
  exact ⟨rfl,rfl⟩
 ·rw [digV_3 (by omega)]
  go_enter Tryz.func165,Tryz.ntmps165
  go_wp2
  go_ret
  exact ⟨by first | rfl | (simp;omega),rfl⟩
 ·rw [digV_4 (by omega)]
  go_enter Tryz.func165,Tryz.ntmps165
  go_wp2
  go_ret
  exact ⟨rfl,rfl⟩
 ·rw [digV_2 (by omega)]
  go_enter Tryz.func165,Tryz.ntmps165
  go_wp2
  go_ret
  exact ⟨by first | rfl | (simp;omega),rfl⟩
 ·rw [digV_4 (by omega)]
  go_enter Tryz.func165,Tryz.ntmps165
  go_wp2
  go_ret
  exact ⟨rfl,rfl⟩
theorem allL_snoc (p : Int → Bool) (l : List UInt8) (b : UInt8) : allL p (l ++ [b]) = (allL p l && p b.toNat):=by simp [allL]
theorem name_step (s : ByteArray) (k : Nat) (hlt : k < s.size) (ha : allL namedI ((bts s).take k) = true) (hb : allL letterI (((bts s).take k).take 1) = true) (hn : namedI (s[k]'hlt).toNat = true) (hl : k = 0 → letterI (s[k]'hlt).toNat = true) :
  allL namedI ((bts s).take (k + 1)) = true ∧ allL letterI (((bts s).take (k + 1)).take 1) = true:=by
 rw [bts_take s k hlt,allL_snoc,ha,hn]
 refine ⟨rfl,?_⟩
 by_cases h : k = 0
 ·subst h
  simpa [allL] using hl rfl
 ·rw [List.take_append_of_le_length (by rw [List.length_take,bts_len];omega)]
  exact hb
theorem name_no (s : ByteArray) (k : Nat) (hlt : k < s.size) (h : namedI (s[k]'hlt).toNat = false ∨ (k = 0 ∧ letterI (s[k]'hlt).toNat = false)) : nameL (bts s) = false:=by
 rcases h with h | ⟨rfl,h⟩
 ·unfold nameL;rw [allL_false s k hlt h];simp
 ·have : allL letterI ((bts s).take 1) = false:=by rw [bts_take s 0 hlt,allL_snoc,h];simp
  unfold nameL;rw [this];simp
theorem name_end (s : ByteArray) (ha : allL namedI (bts s) = true) (hb : allL letterI ((bts s).take 1) = true) : nameL (bts s) = decide (1 ≤ s.size ∧ s.size ≤ 64):=by
 unfold nameL;rw [ha,hb,bts_len];simp
set_option maxHeartbeats 4000000 in
theorem refIsN_any (s : ByteArray) (w : World) (hs : s.size ≤ 1000000) : Calls Tryz.prog 37 #[.string s] w fun e w'=>e = .returned (.bool (nameL (bts s))) ∧ Below w.heap.size w w':=by
 go_enter Tryz.func37,Tryz.ntmps37
 go_wp2_with fail
 go_loopw [3] (fun i wr=>∃ k : Nat,k ≤ s.size ∧ i = .int .i64 k ∧ Below w.heap.size w wr ∧ allL namedI ((bts s).take k) = true ∧ allL letterI (((bts s).take k).take 1) = true) (fun i _=>s.size - (intOf i).toNat)
 case atStart=>exact ⟨0,by omega,rfl,Below.refl _ _,rfl,rfl⟩
 case round=>
  obtain ⟨k,hk,rfl,hB,ha,hb⟩:=hrel
  by_cases hlt : k < s.size
  ·by_cases hk0 : k = 0
   ·subst hk0
    rcases (show ((s[0]'hlt).toNat < 45) ∨ ((s[0]'hlt).toNat = 45) ∨ ((s[0]'hlt).toNat = 46) ∨ ((s[0]'hlt).toNat = 47) ∨ (48 ≤ (s[0]'hlt).toNat ∧ (s[0]'hlt).toNat ≤ 57) ∨ (58 ≤ (s[0]'hlt).toNat ∧ (s[0]'hlt).toNat ≤ 64) ∨ (65 ≤ (s[0]'hlt).toNat ∧ (s[0]'hlt).toNat ≤ 90) ∨ (91 ≤ (s[0]'hlt).toNat ∧ (s[0]'hlt).toNat ≤ 94) ∨ ((s[0]'hlt).toNat = 95) ∨ ((s[0]'hlt).toNat = 96) ∨ (97 ≤ (s[0]'hlt).toNat ∧ (s[0]'hlt).toNat ≤ 122) ∨ (122 < (s[0]'hlt).toNat) by omega) with h1 | h1 | h1 | h1 | ⟨h1,h2⟩ | ⟨h1,h2⟩ | ⟨h1,h2⟩ | ⟨h1,h2⟩ | h1 | h1 | ⟨h1,h2⟩ | h1
    ·have HN:=Lib.hid (name_no s 0 hlt (.inr ⟨rfl,by simp only [letterI,decide_eq_false_iff_not];omega⟩))
     clear ha hb
     go_wp2
     all_goals first
      | (go_ret;exact ⟨by rw [HN.out];rfl,hB⟩)
      | (exfalso;simp_all;done)
      | (exfalso;simp_all;omega)
    ·have HN:=Lib.hid (name_no s 0 hlt (.inr ⟨rfl,by simp only [letterI,decide_eq_false_iff_not];omega⟩))
     clear ha hb
     go_wp2
     all_goals first
      | (go_ret;exact ⟨by rw [HN.out];rfl,hB⟩)
      | (exfalso;simp_all;done)
      | (exfalso;simp_all;omega)
    ·have HN:=Lib.hid (name_no s 0 hlt (.inr ⟨rfl,by simp only [letterI,decide_eq_false_iff_not];omega⟩))
     clear ha hb
     go_wp2
     all_goals first
      | (go_ret;exact ⟨by rw [HN.out];rfl,hB⟩)
      | (exfalso;simp_all;done)
      | (exfalso;simp_all;omega)
    ·have HN:=Lib.hid (name_no s 0 hlt (.inr ⟨rfl,by simp only [letterI,decide_eq_false_iff_not];omega⟩))
     clear ha hb
     go_wp2
     all_goals first
      | (go_ret;exact ⟨by rw [HN.out];rfl,hB⟩)
      | (exfalso;simp_all;done)
      | (exfalso;simp_all;omega)
    ·have HN:=Lib.hid (name_no s 0 hlt (.inr ⟨rfl,by simp only [letterI,decide_eq_false_iff_not];omega⟩))
     clear ha hb
     go_wp2
     all_goals first
      | (go_ret;exact ⟨by rw [HN.out];rfl,hB⟩)
      | (exfalso;simp_all;done)
      | (exfalso;simp_all;omega)
    ·have HN:=Lib.hid (name_no s 0 hlt (.inr ⟨rfl,by simp only [letterI,decide_eq_false_iff_not];omega⟩))
     clear ha hb
     go_wp2
     all_goals first
      | (go_ret;exact ⟨by rw [HN.out];rfl,hB⟩)
      | (exfalso;simp_all;done)
      | (exfalso;simp_all;omega)
    ·have HS:=Lib.hid (name_step s 0 hlt ha hb (by simp only [namedI,decide_eq_true_eq];omega) (fun _=>by simp only [letterI,decide_eq_true_eq];omega))
     clear ha hb
     go_wp2
     all_goals first
      | exact ⟨⟨1,by omega,by go_num,hB,HS.out.1,HS.out.2⟩,by simp [intOf];omega⟩
      | (exfalso;simp_all;done)
      | (exfalso;simp_all;omega)
    ·have HN:=Lib.hid (name_no s 0 hlt (.inr ⟨rfl,by simp only [letterI,decide_eq_false_iff_not];omega⟩))
     clear ha hb
     go_wp2
     all_goals first
      | (go_ret;exact ⟨by rw [HN.out];rfl,hB⟩)
      | (exfalso;simp_all;done)
      | (exfalso;simp_all;omega)
    ·have HS:=Lib.hid (name_step s 0 hlt ha hb (by simp only [namedI,decide_eq_true_eq];omega) (fun _=>by simp only [letterI,decide_eq_true_eq];omega))
     clear ha hb
     go_wp2
     all_goals first
      | exact ⟨⟨1,by omega,by go_num,hB,HS.out.1,HS.out.2⟩,by simp [intOf];omega⟩
      | (exfalso;simp_all;done)
      | (exfalso;simp_all;omega)
    ·have HN:=Lib.hid (name_no s 0 hlt (.inr ⟨rfl,by simp only [letterI,decide_eq_false_iff_not];omega⟩))
     clear ha hb
     go_wp2
     all_goals first
      | (go_ret;exact ⟨by rw [HN.out];rfl,hB⟩)
      | (exfalso;simp_all;done)
      | (exfalso;simp_all;omega)
    ·have HS:=Lib.hid (name_step s 0 hlt ha hb (by simp only [namedI,decide_eq_true_eq];omega) (fun _=>by simp only [letterI,decide_eq_true_eq];omega))
     clear ha hb
     go_wp2
     all_goals first
      | exact ⟨⟨1,by omega,by go_num,hB,HS.out.1,HS.out.2⟩,by simp [intOf];omega⟩
      | (exfalso;simp_all;done)
      | (exfalso;simp_all;omega)
    ·have HN:=Lib.hid (name_no s 0 hlt (.inr ⟨rfl,by simp only [letterI,decide_eq_false_iff_not];omega⟩))
     clear ha hb
     go_wp2
     all_goals first
      | (go_ret;exact ⟨by rw [HN.out];rfl,hB⟩)
      | (exfalso;simp_all;done)
      | (exfalso;simp_all;omega)
   ·rcases (show ((s[k]'hlt).toNat < 45) ∨ ((s[k]'hlt).toNat = 45) ∨ ((s[k]'hlt).toNat = 46) ∨ ((s[k]'hlt).toNat = 47) ∨ (48 ≤ (s[k]'hlt).toNat ∧ (s[k]'hlt).toNat ≤ 57) ∨ (58 ≤ (s[k]'hlt).toNat ∧ (s[k]'hlt).toNat ≤ 64) ∨ (65 ≤ (s[k]'hlt).toNat ∧ (s[k]'hlt).toNat ≤ 90) ∨ (91 ≤ (s[k]'hlt).toNat ∧ (s[k]'hlt).toNat ≤ 94) ∨ ((s[k]'hlt).toNat = 95) ∨ ((s[k]'hlt).toNat = 96) ∨ (97 ≤ (s[k]'hlt).toNat ∧ (s[k]'hlt).toNat ≤ 122) ∨ (122 < (s[k]'hlt).toNat) by omega) with h1 | h1 | h1 | h1 | ⟨h1,h2⟩ | ⟨h1,h2⟩ | ⟨h1,h2⟩ | ⟨h1,h2⟩ | h1 | h1 | ⟨h1,h2⟩ | h1
    ·have HN:=Lib.hid (name_no s k hlt (.inl (by simp only [namedI,decide_eq_false_iff_not];omega)))
     clear ha hb
     go_wp2
     all_goals first
      | (go_ret;exact ⟨by rw [HN.out];rfl,hB⟩)
      | (exfalso;simp_all;done)
      | (exfalso;simp_all;omega)
    ·have HS:=Lib.hid (name_step s k hlt ha hb (by simp only [namedI,decide_eq_true_eq];omega) (fun _=>by omega))
     clear ha hb
     go_wp2
     all_goals first
      | exact ⟨⟨k + 1,by omega,by go_num,hB,HS.out.1,HS.out.2⟩,by simp [intOf];omega⟩
      | (exfalso;simp_all;done)
      | (exfalso;simp_all;omega)
    ·have HS:=Lib.hid (name_step s k hlt ha hb (by simp only [namedI,decide_eq_true_eq];omega) (fun _=>by omega))
     clear ha hb
     go_wp2
     all_goals first
      | exact ⟨⟨k + 1,by omega,by go_num,hB,HS.out.1,HS.out.2⟩,by simp [intOf];omega⟩
      | (exfalso;simp_all;done)
      | (exfalso;simp_all;omega)
    ·have HN:=Lib.hid (name_no s k hlt (.inl (by simp only [namedI,decide_eq_false_iff_not];omega)))
     clear ha hb
     go_wp2
     all_goals first
      | (go_ret;exact ⟨by rw [HN.out];rfl,hB⟩)
      | (exfalso;simp_all;done)
      | (exfalso;simp_all;omega)
    ·have HS:=Lib.hid (name_step s k hlt ha hb (by simp only [namedI,decide_eq_true_eq];omega) (fun _=>by omega))
     clear ha hb
     go_wp2
     all_goals first
      | exact ⟨⟨k + 1,by omega,by go_num,hB,HS.out.1,HS.out.2⟩,by simp [intOf];omega⟩
      | (exfalso;simp_all;done)
      | (exfalso;simp_all;omega)
    ·have HN:=Lib.hid (name_no s k hlt (.inl (by simp only [namedI,decide_eq_false_iff_not];omega)))
     clear ha hb
     go_wp2
     all_goals first
      | (go_ret;exact ⟨by rw [HN.out];rfl,hB⟩)
      | (exfalso;simp_all;done)
      | (exfalso;simp_all;omega)
    ·have HS:=Lib.hid (name_step s k hlt ha hb (by simp only [namedI,decide_eq_true_eq];omega) (fun _=>by omega))
     clear ha hb
     go_wp2
     all_goals first
      | exact ⟨⟨k + 1,by omega,by go_num,hB,HS.out.1,HS.out.2⟩,by simp [intOf];omega⟩
      | (exfalso;simp_all;done)
      | (exfalso;simp_all;omega)
    ·have HN:=Lib.hid (name_no s k hlt (.inl (by simp only [namedI,decide_eq_false_iff_not];omega)))
     clear ha hb
     go_wp2
     all_goals first
      | (go_ret;exact ⟨by rw [HN.out];rfl,hB⟩)
      | (exfalso;simp_all;done)
      | (exfalso;simp_all;omega)
    ·have HS:=Lib.hid (name_step s k hlt ha hb (by simp only [namedI,decide_eq_true_eq];omega) (fun _=>by omega))
     clear ha hb
     go_wp2
     all_goals first
      | exact ⟨⟨k + 1,by omega,by go_num,hB,HS.out.1,HS.out.2⟩,by simp [intOf];omega⟩
      | (exfalso;simp_all;done)
      | (exfalso;simp_all;omega)
    ·have HN:=Lib.hid (name_no s k hlt (.inl (by simp only [namedI,decide_eq_false_iff_not];omega)))
     clear ha hb
     go_wp2
     all_goals first
      | (go_ret;exact ⟨by rw [HN.out];rfl,hB⟩)
      | (exfalso;simp_all;done)
      | (exfalso;simp_all;omega)
    ·have HS:=Lib.hid (name_step s k hlt ha hb (by simp only [namedI,decide_eq_true_eq];omega) (fun _=>by omega))
     clear ha hb
     go_wp2
     all_goals first
      | exact ⟨⟨k + 1,by omega,by go_num,hB,HS.out.1,HS.out.2⟩,by simp [intOf];omega⟩
      | (exfalso;simp_all;done)
      | (exfalso;simp_all;omega)
    ·have HN:=Lib.hid (name_no s k hlt (.inl (by simp only [namedI,decide_eq_false_iff_not];omega)))
     clear ha hb
     go_wp2
     all_goals first
      | (go_ret;exact ⟨by rw [HN.out];rfl,hB⟩)
      | (exfalso;simp_all;done)
      | (exfalso;simp_all;omega)
  ·have hkk : k = s.size:=by omega
   rw [hkk,List.take_of_length_le (Nat.le_of_eq (bts_len s))] at ha hb
   have HE:=Lib.hid (name_end s ha hb)
   clear ha hb
   subst hkk
   rcases (show s.size < 1 ∨ (1 ≤ s.size ∧ s.size ≤ 64) ∨ 64 < s.size by omega) with h | ⟨h,h'⟩ | h
   ·have HV : Hid (decide (1 ≤ s.size ∧ s.size ≤ 64) = false):=Lib.hid (by rw [decide_eq_false_iff_not];omega)
    go_wp2
    go_ret
    refine ⟨?_,hB⟩
    rw [HE.out,HV.out]
    first | rfl | (simp;omega)
   ·have HV : Hid (decide (1 ≤ s.size ∧ s.size ≤ 64) = true):=Lib.hid (by rw [decide_eq_true_eq];omega)
    go_wp2
    go_ret
    refine ⟨?_,hB⟩
    rw [HE.out,HV.out]
    first | rfl | (simp;omega)
   ·have HV : Hid (decide (1 ≤ s.size ∧ s.size ≤ 64) = false):=Lib.hid (by rw [decide_eq_false_iff_not];omega)
    go_wp2
    go_ret
    refine ⟨?_,hB⟩
    rw [HE.out,HV.out]
    first | rfl | (simp;omega)
theorem numA_step (base : Int) (s : ByteArray) (k : Nat) (h : k < s.size) (a : Int) (h0 : 0 ≤ digV (s[k]'h).toNat) (h1 : digV (s[k]'h).toNat < base) (ha : numA base 0 (bts s) = numA base a ((bts s).drop k)) : numA base 0 (bts s) = numA base (base * a + digV (s[k]'h).toNat) ((bts s).drop (k + 1)):=by
 rw [ha,bts_drop s k h,numA_cons rfl h0 h1,Int.mul_comm]
theorem numA_stop (base : Int) (s : ByteArray) (k : Nat) (h : k < s.size) (a : Int) (h0 : digV (s[k]'h).toNat < 0 ∨ base ≤ digV (s[k]'h).toNat) (ha : numA base 0 (bts s) = numA base a ((bts s).drop k)) : numA base 0 (bts s) = none:=by
 rw [ha,bts_drop s k h,numA_none rfl h0]
set_option maxHeartbeats 4000000 in
theorem refNumber_any (base : Int) (hb : 10 ≤ base ∧ base ≤ 16) (s : ByteArray) (w : World) :
  Calls Tryz.prog 143 #[.string s,.int .i64 base] w fun e w'=>e = .returned (.int .i64 ((numL base (bts s)).getD (-1))) ∧ Below w.heap.size w w':=by
 have hlen:=bts_len s
 by_cases h8 : 8 < s.size
 ·have HN : Hid (numL base (bts s) = none):=Lib.hid (by unfold numL;rw [if_neg (by omega)])
  go_enter Tryz.func143,Tryz.ntmps143
  go_wp2
  go_ret
  exact ⟨by rw [HN.out];rfl,Below.refl _ _⟩
 by_cases h0 : s.size < 1
 ·have HN : Hid (numL base (bts s) = none):=Lib.hid (by unfold numL;rw [if_neg (by omega)])
  go_enter Tryz.func143,Tryz.ntmps143
  go_wp2
  go_ret
  exact ⟨by rw [HN.out];rfl,Below.refl _ _⟩
 have HN : Hid (numL base (bts s) = numA base 0 (bts s)):=Lib.hid (by unfold numL;rw [if_pos (by omega)])
 have HB:=Lib.hid hb
 obtain ⟨hb0,hb1⟩:=hb
 clear hlen
 go_enter Tryz.func143,Tryz.ntmps143
 go_wp2_with fail
 go_loopw [5,6] (fun v i wr=>∃ (k : Nat) (a : Int),k ≤ s.size ∧ v = .int .i64 a ∧ i = .int .i64 k ∧ Below w.heap.size w wr ∧ Hid (0 ≤ a ∧ a < 16 ^ k ∧ numA base 0 (bts s) = numA base a ((bts s).drop k))) (fun _ i _=>s.size - (intOf i).toNat)
 case atStart=>exact ⟨0,0,by omega,rfl,rfl,Below.refl _ _,by omega,by decide,rfl⟩
 case round=>
  obtain ⟨k,a,hk,rfl,rfl,hB,hh⟩:=hrel
  obtain ⟨a0,hak,ha⟩:=hh.out
  clear hh
  have HBE:=Lib.hid hB
  by_cases hlt : k < s.size
  ·have hc256 : (s[k]'hlt).toNat < 256:=(s[k]'hlt).toNat_lt
   have a1 : a < 268435456:=by
    have : (16 : Int) ^ k ≤ 16 ^ 7:=by
     have : (16 : Nat) ^ k ≤ 16 ^ 7:=Nat.pow_le_pow_right (by omega) (by omega)
     exact_mod_cast this
    have h7 : (16 : Int) ^ 7 = 268435456:=by decide
    omega
   have hpow : (16 : Int) ^ (k + 1) = 16 ^ k * 16:=Int.pow_succ _ _
   have hd1:=digV_lt (s[k]'hlt).toNat
   have hm0 : 0 ≤ base * a:=Int.mul_nonneg (by omega) a0
   have hm1 : base * a ≤ 16 * a:=Int.mul_le_mul_of_nonneg_right hb1 a0
   have hdig:=digit_any ((s[k]'hlt).toNat : Int) (by omega) (by omega) wr
   have hst:=numA_step base s k hlt a
   have hsp:=numA_stop base s k hlt a
   obtain ⟨d,hd⟩ : ∃ d,d = digV (s[k]'hlt).toNat:=⟨_,rfl⟩
   obtain ⟨m,hm⟩ : ∃ m,m = base * a:=⟨_,rfl⟩
   rw [← hd] at hd1 hst hsp hdig
   rw [← hm] at hm0 hm1 hst
   have HD:=Lib.hid hdig
   have HM:=Lib.hid hm
   by_cases hd0 : d < 0
   ·have HS:=Lib.hid (hsp (.inl hd0) ha)
    clear hpow hst hsp ha hdig hd hm hak
    go_wp2_with fail
    refine HD.out.mono ?_
    rintro e w2 ⟨rfl,rfl⟩
    go_wp2
    go_ret
    exact ⟨by rw [HN.out,HS.out];rfl,HBE.out⟩
   ·by_cases hdb : d < base
    ·have HS:=Lib.hid (hst (by omega) hdb ha)
     have HP : Hid (0 ≤ m + d ∧ m + d < 16 ^ (k + 1)):=Lib.hid ⟨by omega,by omega⟩
     have hmul : wrap64 (base * a) = m:=by rw [← hm];unfold wrap64;omega
     have hmd0 : 0 ≤ m + d:=by omega
     have hmd1 : m + d < 4294967296:=by omega
     clear hpow hst hsp ha hdig hd hak
     go_wp2_with fail
     refine HD.out.mono ?_
     rintro e w2 ⟨rfl,rfl⟩
     go_wp2
     exact ⟨⟨k + 1,m + d,by omega,by first | rfl | (congr 1;omega),by go_num,HBE.out,HP.out.1,HP.out.2,HS.out⟩,by simp [intOf];omega⟩
    ·have HS:=Lib.hid (hsp (.inr (by omega)) ha)
     clear hpow hst hsp ha hdig hd hm hak
     go_wp2_with fail
     refine HD.out.mono ?_
     rintro e w2 ⟨rfl,rfl⟩
     go_wp2
     go_ret
     exact ⟨by rw [HN.out,HS.out];rfl,HBE.out⟩
  ·have hkk : k = s.size:=by omega
   have HS : Hid (numA base 0 (bts s) = some a):=Lib.hid (by rw [ha,List.drop_of_length_le (by rw [bts_len];omega)];rfl)
   subst hkk
   clear ha hak
   go_wp2
   go_ret
   exact ⟨by rw [HN.out,HS.out];rfl,HBE.out⟩
theorem nameV_lit {l : List UInt8} {n : Int} (h : wordV l = n) (hn : isC n = true) : nameV l = n:=by unfold nameV;rw [h,if_pos hn]
theorem bts_at (s : ByteArray) (i : Nat) (h : i < s.size) : (bts s)[i]?.getD 0 = s[i]'h:=by
 rw [List.getElem?_eq_getElem (by rw [bts_len];exact h),Option.getD_some,bts_get s i h]
theorem nameV_dig {l : List UInt8} (h1 : l ≠ [97,109,112]) (h2 : l ≠ [108,116]) (h3 : l ≠ [103,116]) (h4 : l ≠ [113,117,111,116]) (h5 : l ≠ [97,112,111,115]) : nameV l = if isC (digN l) = true then digN l else 0:=by
 have h0 : isC 0 = false:=by decide
 have h9 : isC (-1) = false:=by decide
 unfold nameV wordV digN
 rw [if_neg h1,if_neg h2,if_neg h3,if_neg h4,if_neg h5]
 split
 ·cases numL 16 (l.drop 2) with
  | none=>simp [h0,h9]
  | some n=>rfl
 ·split
  ·cases numL 10 (l.drop 1) with
   | none=>simp [h0,h9]
   | some n=>rfl
  ·simp [h0,h9]
set_option maxHeartbeats 1000000 in
theorem refNamed_any (s : ByteArray) (w : World) :
  Calls Tryz.prog 115 #[.string s] w fun e w'=>e = .returned (.int .i64 (nameV (bts s))) ∧ Below w.heap.size w w':=by
 by_cases h1 : bts s = [97,109,112]
 ·obtain rfl:=bts_eq_of h1
  go_enter Tryz.func115,Tryz.ntmps115
  go_wp2
  go_ret
  exact ⟨by rw [h1,nameV_lit (n:=38) (by decide) (by decide)];rfl,Below.refl _ _⟩
 by_cases h2 : bts s = [108,116]
 ·obtain rfl:=bts_eq_of h2
  go_enter Tryz.func115,Tryz.ntmps115
  go_wp2
  go_ret
  exact ⟨by rw [h2,nameV_lit (n:=60) (by decide) (by decide)];rfl,Below.refl _ _⟩
 by_cases h3 : bts s = [103,116]
 ·obtain rfl:=bts_eq_of h3
  go_enter Tryz.func115,Tryz.ntmps115
  go_wp2
  go_ret
  exact ⟨by rw [h3,nameV_lit (n:=62) (by decide) (by decide)];rfl,Below.refl _ _⟩
 by_cases h4 : bts s = [113,117,111,116]
 ·obtain rfl:=bts_eq_of h4
  go_enter Tryz.func115,Tryz.ntmps115
  go_wp2
  go_ret
  exact ⟨by rw [h4,nameV_lit (n:=34) (by decide) (by decide)];rfl,Below.refl _ _⟩
 by_cases h5 : bts s = [97,112,111,115]
 ·obtain rfl:=bts_eq_of h5
  go_enter Tryz.func115,Tryz.ntmps115
  go_wp2
  go_ret
  exact ⟨by rw [h5,nameV_lit (n:=39) (by decide) (by decide)];rfl,Below.refl _ _⟩
 have n1:=str_ne h1
 have n2:=str_ne h2
 have n3:=str_ne h3
 have n4:=str_ne h4
 have n5:=str_ne h5
 have HV:=Lib.hid (nameV_dig h1 h2 h3 h4 h5)
 clear h1 h2 h3 h4 h5
 have hlen:=bts_len s
 by_cases ha : ∃ h : 1 < s.size,(s[0]'(by omega)).toNat = 35 ∧ (s[1]'h).toNat = 120
 ·obtain ⟨hz,e0,e1⟩:=ha
  have hx : Lib.hasPrefix (bts s) [35,120] = true:=prefix2.2 ⟨by omega,by rw [bts_at s 0 (by omega)];exact UInt8.toNat.inj e0,by rw [bts_at s 1 hz];exact UInt8.toNat.inj e1⟩
  have HE : Hid (digN (bts s) = (numL 16 (bts (s.extract 2 s.size))).getD (-1)):=Lib.hid (by
   unfold digN;rw [if_pos hx,show bts (s.extract 2 s.size) = (bts s).drop 2 by rw [bts_extract,List.take_of_length_le (Nat.le_of_eq hlen)]])
  have HR:=Lib.hid (refNumber_any 16 (by omega) (s.extract 2 s.size) w)
  obtain ⟨d,hd⟩ : ∃ d,d = digN (bts s):=⟨_,rfl⟩
  rw [← HE.out,← hd] at HR
  rw [← hd] at HV
  clear hx HE hlen hd
  cases hc : isC d with
  | true=>
   have HC:=Lib.hid hc
   clear hc
   go_enter Tryz.func115,Tryz.ntmps115
   go_wp2_with fail
   refine HR.out.mono ?_
   rintro e w2 ⟨rfl,hb⟩
   go_wp2_with fail
   refine (refIs_any _ _).mono ?_
   rintro e w3 ⟨rfl,rfl⟩
   rw [HC.out]
   go_wp2
   go_ret
   exact ⟨by rw [HV.out,if_pos HC.out];rfl,hb⟩
  | false=>
   have HC:=Lib.hid hc
   clear hc
   go_enter Tryz.func115,Tryz.ntmps115
   go_wp2_with fail
   refine HR.out.mono ?_
   rintro e w2 ⟨rfl,hb⟩
   go_wp2_with fail
   refine (refIs_any _ _).mono ?_
   rintro e w3 ⟨rfl,rfl⟩
   rw [HC.out]
   go_wp2
   go_ret
   exact ⟨by rw [HV.out,if_neg (by rw [HC.out];simp)];rfl,hb⟩
 have hx : Lib.hasPrefix (bts s) [35,120] = false:=by
  cases h : Lib.hasPrefix (bts s) [35,120]
  ·rfl
  ·obtain ⟨p1,p2,p3⟩:=prefix2.1 h
   rw [bts_at s 0 (by omega)] at p2
   rw [bts_at s 1 (by omega)] at p3
   exact absurd ⟨by omega,by rw [p2];rfl,by rw [p3];rfl⟩ ha
 by_cases hb : ∃ h : 0 < s.size,(s[0]'h).toNat = 35
 ·obtain ⟨hz,e0⟩:=hb
  have hy : Lib.hasPrefix (bts s) [35] = true:=prefix1.2 ⟨by omega,by rw [bts_at s 0 hz];exact UInt8.toNat.inj e0⟩
  have HE : Hid (digN (bts s) = (numL 10 (bts (s.extract 1 s.size))).getD (-1)):=Lib.hid (by
   unfold digN;rw [if_neg (by rw [hx];simp),if_pos hy,show bts (s.extract 1 s.size) = (bts s).drop 1 by rw [bts_extract,List.take_of_length_le (Nat.le_of_eq hlen)]])
  have HR:=Lib.hid (refNumber_any 10 (by omega) (s.extract 1 s.size) w)
  obtain ⟨d,hd⟩ : ∃ d,d = digN (bts s):=⟨_,rfl⟩
  rw [← HE.out,← hd] at HR
  rw [← hd] at HV
  have h1x : s.size = 1 ∨ ∃ h : 1 < s.size,(s[1]'h).toNat ≠ 120:=by
   rcases Nat.lt_or_ge 1 s.size with h | h
   ·exact .inr ⟨h,fun e=>ha ⟨h,e0,e⟩⟩
   ·exact .inl (by omega)
  clear hx hy HE hlen hd ha
  rcases h1x with h1 | ⟨h1,h1x⟩
  ·rw [h1,show s.extract 1 1 = ByteArray.empty by simp] at HR
   cases hc : isC d with
   | true=>
    have HC:=Lib.hid hc
    clear hc
    go_enter Tryz.func115,Tryz.ntmps115
    go_wp2_with fail
    refine HR.out.mono ?_
    rintro e w2 ⟨rfl,hb⟩
    go_wp2_with fail
    refine (refIs_any _ _).mono ?_
    rintro e w3 ⟨rfl,rfl⟩
    rw [HC.out]
    go_wp2
    go_ret
    exact ⟨by rw [HV.out,if_pos HC.out];rfl,hb⟩
   | false=>
    have HC:=Lib.hid hc
    clear hc
    go_enter Tryz.func115,Tryz.ntmps115
    go_wp2_with fail
    refine HR.out.mono ?_
    rintro e w2 ⟨rfl,hb⟩
    go_wp2_with fail
    refine (refIs_any _ _).mono ?_
    rintro e w3 ⟨rfl,rfl⟩
    rw [HC.out]
    go_wp2
    go_ret
    exact ⟨by rw [HV.out,if_neg (by rw [HC.out];simp)];rfl,hb⟩
  ·skip
   cases hc : isC d with
   | true=>
    have HC:=Lib.hid hc
    clear hc
    go_enter Tryz.func115,Tryz.ntmps115
    go_wp2_with fail
    refine HR.out.mono ?_
    rintro e w2 ⟨rfl,hb⟩
    go_wp2_with fail
    refine (refIs_any _ _).mono ?_
    rintro e w3 ⟨rfl,rfl⟩
    rw [HC.out]
    go_wp2
    go_ret
    exact ⟨by rw [HV.out,if_pos HC.out];rfl,hb⟩
   | false=>
    have HC:=Lib.hid hc
    clear hc
    go_enter Tryz.func115,Tryz.ntmps115
    go_wp2_with fail
    refine HR.out.mono ?_
    rintro e w2 ⟨rfl,hb⟩
    go_wp2_with fail
    refine (refIs_any _ _).mono ?_
    rintro e w3 ⟨rfl,rfl⟩
    rw [HC.out]
    go_wp2
    go_ret
    exact ⟨by rw [HV.out,if_neg (by rw [HC.out];simp)];rfl,hb⟩
 have hy : Lib.hasPrefix (bts s) [35] = false:=by
  cases h : Lib.hasPrefix (bts s) [35]
  ·rfl
  ·obtain ⟨p1,p2⟩:=prefix1.1 h
   rw [bts_at s 0 (by omega)] at p2
   exact absurd ⟨by omega,by rw [p2];rfl⟩ hb
 have HE : Hid (digN (bts s) = -1):=Lib.hid (by unfold digN;rw [if_neg (by rw [hx];simp),if_neg (by rw [hy];simp)])
 have h1x : s.size = 0 ∨ (s.size = 1 ∧ ∃ h : 0 < s.size,(s[0]'h).toNat ≠ 35) ∨ ∃ h : 1 < s.size,(s[0]'(by omega)).toNat ≠ 35:=by
  rcases Nat.lt_or_ge 0 s.size with h | h
  ·rcases Nat.lt_or_ge 1 s.size with h' | h'
   ·exact .inr (.inr ⟨h',fun e=>hb ⟨h,e⟩⟩)
   ·exact .inr (.inl ⟨by omega,h,fun e=>hb ⟨h,e⟩⟩)
  ·exact .inl (by omega)
 clear hx hy hlen ha hb
 rcases h1x with h1 | ⟨h1,h0,h1x⟩ | ⟨h1,h1x⟩
 all_goals
  go_enter Tryz.func115,Tryz.ntmps115
  go_wp2_with fail
  refine (refIs_any _ _).mono ?_
  rintro e w3 ⟨rfl,rfl⟩
  rw [show isC (-1) = false by decide]
  go_wp2
  go_ret
  exact ⟨by rw [HV.out,HE.out,if_neg (by decide)];rfl,Below.refl _ _⟩
theorem semi_drop {s : ByteArray} {j : Nat} (h : j < s.size) (hb : (s[j]'h).toNat ≠ 59) : semi ((bts s).drop j) = semi ((bts s).drop (j + 1)) + 1:=by
 rw [bts_drop s j h,semi_cons_no (by rintro e;rw [e] at hb;exact hb rfl)]
theorem semi_here {s : ByteArray} {j : Nat} (h : j < s.size) (hb : (s[j]'h).toNat = 59) : semi ((bts s).drop j) = 0:=by
 rw [bts_drop s j h,show s[j]'h = 59 from UInt8.toNat.inj hb,semi_cons_yes]
theorem semi_none {s : ByteArray} {j : Nat} (h : s.size ≤ j) : semi ((bts s).drop j) = 0:=by
 rw [List.drop_of_length_le (by rw [bts_len];exact h)];rfl
theorem un_byte {s : ByteArray} {k : Nat} {acc : List UInt8} (h : k < s.size) (h1 : (s[k]'h).toNat ≠ 60) (h2 : (s[k]'h).toNat ≠ 38) (hu : unL acc ((bts s).drop k) = unL [] (bts s)) : unL (acc ++ [s[k]'h]) ((bts s).drop (k + 1)) = unL [] (bts s):=by
 rw [← hu,bts_drop s k h,unL_other (by rintro e;rw [e] at h1;exact h1 rfl) (by rintro e;rw [e] at h2;exact h2 rfl)]
theorem un_form {s : ByteArray} {k : Nat} {acc : List UInt8} (h : k < s.size) (h1 : (s[k]'h).toNat = 60) (hu : unL acc ((bts s).drop k) = unL [] (bts s)) : unL [] (bts s) = .error 12:=by
 rw [← hu,bts_drop s k h,show s[k]'h = 60 from UInt8.toNat.inj h1,unL_form]
theorem un_ref {s : ByteArray} {k : Nat} {acc : List UInt8} (h : k < s.size) (h1 : (s[k]'h).toNat = 38) (hu : unL acc ((bts s).drop k) = unL [] (bts s)) : unL acc (38 :: (bts s).drop (k + 1)) = unL [] (bts s):=by
 rw [← hu,bts_drop s k h,show s[k]'h = 38 from UInt8.toNat.inj h1]
theorem un_named {s : ByteArray} {k j : Nat} {acc : List UInt8} (hk : k < s.size) (h1 : (s[k]'hk).toNat = 38) (hj : j < s.size) (hsm : semi ((bts s).drop (k + 1)) = j - (k + 1)) (hkj : k + 1 ≤ j) (hu : unL acc ((bts s).drop k) = unL [] (bts s)) :
  (nameV (bts (s.extract (k + 1) j)) = 0 → unL [] (bts s) = .error 13) ∧ (nameV (bts (s.extract (k + 1) j)) ≠ 0 → isC (nameV (bts (s.extract (k + 1) j))) = true ∧ unL (acc ++ Lib.encodeRune (nameV (bts (s.extract (k + 1) j)))) ((bts s).drop (j + 1)) = unL [] (bts s)):=by
 have hu2:=un_ref hk h1 hu
 have hl:=bts_len s
 have hx : bts (s.extract (k + 1) j) = ((bts s).drop (k + 1)).take (semi ((bts s).drop (k + 1))):=by
  rw [bts_extract,hsm,List.take_drop,show k + 1 + (j - (k + 1)) = j by omega]
 rw [hx]
 generalize ht : (bts s).drop (k + 1) = t at *
 have htl : t.length = s.size - (k + 1):=by rw [← ht,List.length_drop,hl]
 unfold nameV
 by_cases hc : isC (wordV (t.take (semi t))) = true
 ·have hp : wordV (t.take (semi t)) ≠ 0:=by intro e;rw [e] at hc;revert hc;decide
  rw [if_pos hc]
  refine ⟨fun e=>absurd e hp,fun _=>⟨hc,?_⟩⟩
  have hr : refL t = some (wordV (t.take (semi t)),semi t + 1):=by unfold refL;rw [if_pos ⟨by omega,hc⟩]
  rw [← hu2,unL_some hr,← ht,List.drop_drop,ht,hsm,show k + 1 + (j - (k + 1) + 1) = j + 1 by omega]
 ·rw [if_neg hc]
  refine ⟨fun _=>?_,fun e=>absurd rfl e⟩
  have hr : refL t = none:=by unfold refL;rw [if_neg (fun h=>hc h.2)]
  rw [← hu2,unL_none hr]
theorem un_far {s : ByteArray} {k : Nat} {acc : List UInt8} (hk : k < s.size) (h1 : (s[k]'hk).toNat = 38) (hsm : semi ((bts s).drop (k + 1)) = s.size - (k + 1)) (hu : unL acc ((bts s).drop k) = unL [] (bts s)) : unL [] (bts s) = .error 13:=by
 have hu2:=un_ref hk h1 hu
 rw [← hu2,unL_none]
 unfold refL
 rw [if_neg (by rw [hsm,List.length_drop,bts_len];omega)]
set_option maxHeartbeats 2000000 in
set_option maxRecDepth 10000 in
theorem refUnescape_any (s : ByteArray) (w : World) (hs : s.size ≤ 100000) :
  Calls Tryz.prog 70 #[.string s] w fun e w'=>e = .returned (.tuple #[.string ⟨(unR (unL [] (bts s))).1.toArray⟩,.int .i64 (unR (unL [] (bts s))).2]) ∧ Below w.heap.size w w':=by
 obtain ⟨i0,hi,hz0,hz1,hz2⟩:=info_parts info5
 go_enter Tryz.func70,Tryz.ntmps70
 go_wp2_with fail
 go_loopw [4,5] (fun u i wr=>∃ (k : Nat) (acc : List UInt8),k ≤ s.size ∧ i = .int .i64 k ∧ wr.ownsRow w.heap.size 5 1 u acc.length (Lib.byteCells acc) ∧ Below w.heap.size w wr ∧ Hid (unL acc ((bts s).drop k) = unL [] (bts s)) ∧ acc.length ≤ 4 * k) (fun _ i _=>s.size - (intOf i).toNat)
 case atStart=>exact ⟨0,[],by omega,rfl,World.ownsRow_nil _ _ _ _,Below.refl _ _,rfl,by simp⟩
 case round=>
  obtain ⟨k,acc,hk,rfl,hown,hB,HU,hal⟩:=hrel
  have HO:=Lib.hid hown
  have HB:=Lib.hid hB
  clear hown hB
  by_cases hlt : k < s.size
  ·by_cases h60 : (s[k]'hlt).toNat = 60
   ·have HF:=Lib.hid (un_form hlt h60 HU.out)
    go_wp2
    go_ret2
    refine ⟨?_,HB.out⟩
    rw [HF.out]
    rfl
   ·by_cases h38 : (s[k]'hlt).toNat = 38
    ·have H38:=Lib.hid h38
     go_wp2_with fail
     clear h38 h60
     go_loopw [6] (fun e w2=>∃ j : Nat,k + 1 ≤ j ∧ j ≤ s.size ∧ e = .int .i64 j ∧ Below wr.heap.size wr w2 ∧ Hid (semi ((bts s).drop (k + 1)) = j - (k + 1) + semi ((bts s).drop j))) (fun e _=>s.size - (intOf e).toNat)
     case atStart=>exact ⟨k + 1,by omega,by omega,by go_num,Below.refl _ _,by rw [Nat.sub_self,Nat.zero_add];rfl⟩
     case round=>
      obtain ⟨j,hkj,hj,rfl,hb2,HJ⟩:=hrel
      by_cases hjl : j < s.size
      ·by_cases h59 : (s[j]'hjl).toNat = 59
       ·have HSM : Hid (semi ((bts s).drop (k + 1)) = j - (k + 1)):=Lib.hid (by rw [HJ.out,semi_here hjl h59,Nat.add_zero])
        obtain ⟨hz,hnz⟩:=un_named hlt H38.out hjl HSM.out hkj HU.out
        have HR:=Lib.hid (refNamed_any (s.extract (k + 1) j))
        obtain ⟨n,hn⟩ : ∃ n,n = nameV (bts (s.extract (k + 1) j)):=⟨_,rfl⟩
        rw [← hn] at hz hnz
        have HR2 : Hid (∀ w,Calls Tryz.prog 115 #[.string (s.extract (k + 1) j)] w fun e w'=>e = .returned (.int .i64 n) ∧ Below w.heap.size w w'):=Lib.hid (by rw [hn];exact HR.out)
        have HB2:=Lib.hid (th HB.out (Nat.le_refl _) hb2)
        have HO2:=Lib.hid (own_below HO.out hb2)
        clear HR hb2 hn
        by_cases hn0 : n = 0
        ·have HF:=Lib.hid (hz hn0)
         subst hn0
         clear hz hnz
         go_wp2_with fail
         refine (HR2.out _).mono ?_
         rintro e w3 ⟨rfl,hb3⟩
         go_wp2
         go_ret2
         refine ⟨?_,th HB2.out (Nat.le_refl _) hb3⟩
         rw [HF.out]
         rfl
        ·have HC:=Lib.hid (hnz hn0).1
         have HN:=Lib.hid (hnz hn0).2
         clear hz hnz
         go_wp2_with fail
         refine (HR2.out _).mono ?_
         rintro e w3 ⟨rfl,hb3⟩
         have HB3:=Lib.hid (th HB2.out (Nat.le_refl _) hb3)
         have HO3:=Lib.hid (own_below HO2.out hb3)
         clear hb3
         go_wp2_with fail
         refine (refBytes_any n _ HC.out).mono ?_
         rintro e w4 ⟨g,rfl,hcells,hb4⟩
         have HB4:=Lib.hid (th HB3.out (Nat.le_refl _) hb4)
         have HO4:=Lib.hid (own_below HO3.out hb4)
         have HCL:=Lib.hid hcells
         have HEL:=Lib.hid (encC_len n)
         have HE4:=Lib.hid (sizeC_le n).2
         clear hb4 hcells
         go_wp2_with (at_builtin;refine wpList_append_own _ rfl _ _ 22 rfl w.heap.size 5 i0 (.int .u8 0) 1 1 Tryz.underlying22 hi hz0 hz1 hz2 rfl (by decide) _ _ _ rfl HO4.out ⟨g,0,none⟩ _ _ ((encC n).map (Value.int .u8)) rfl (by rw [List.length_map,Nat.mul_one]) HCL.out (by simp [Value.oneCell']) (by unfold maxLen;have:=HEL.out;have:=HE4.out;omega) (by have:=HEL.out;have:=HE4.out;omega) (by have:=HB4.out.size;omega) ?_;intro v5 w5 hown5 hgrow5 _)
         have HB5:=Lib.hid (HB4.out.grown hgrow5 (by have:=HB4.out.size;omega) (fun k e=>(HO4.out.lt k e).1))
         have HO5 : Hid (w5.ownsRow w.heap.size 5 1 v5 (acc ++ Lib.encodeRune n).length (Lib.byteCells (acc ++ Lib.encodeRune n))):=Lib.hid (by
          rw [Lib.byteCells_append,Lib.byteCells_encodeRune,List.length_append,encode_len HC.out]
          unfold Lib.runeCells
          rw [encodeZ_is HC.out,← HEL.out]
          exact hown5)
         clear hown5 hgrow5
         go_wp2
         exact ⟨⟨j + 1,acc ++ Lib.encodeRune n,by omega,by go_num,HO5.out,HB5.out,HN.out,by rw [List.length_append,encode_len HC.out];have:=HE4.out;omega⟩,by simp [intOf];omega⟩
       ·have HJ2 : Hid (semi ((bts s).drop (k + 1)) = j + 1 - (k + 1) + semi ((bts s).drop (j + 1))):=Lib.hid (by rw [HJ.out,semi_drop hjl h59];omega)
        go_wp2
        exact ⟨⟨j + 1,by omega,by omega,by go_num,hb2,HJ2.out⟩,by simp [intOf];omega⟩
      ·have hjj : j = s.size:=by omega
       have HF:=Lib.hid (un_far hlt H38.out (by rw [HJ.out,hjj,semi_none (Nat.le_refl _),Nat.add_zero]) HU.out)
       have HB2:=Lib.hid (th HB.out (Nat.le_refl _) hb2)
       go_wp2
       go_ret2
       refine ⟨?_,HB2.out⟩
       rw [HF.out]
       rfl
    ·have HN:=Lib.hid (un_byte hlt h60 h38 HU.out)
     go_wp2_with (at_builtin;refine wpList_append_own _ rfl _ _ 22 rfl w.heap.size 5 i0 (.int .u8 0) 1 1 Tryz.underlying22 hi hz0 hz1 hz2 rfl (by decide) _ _ _ rfl (HO.out.alloc _) ⟨wr.heap.size,0,none⟩ 1 1 [.int .u8 ((s[k]'hlt).toNat : Int)] rfl rfl (cell_one_new _ _ _) (by simp [Value.oneCell']) (by unfold maxLen;omega) (by omega) (by have:=HB.out.size;simp;omega) ?_;intro v3 w3 hown3 hgrow3 _)
     have HB3:=Lib.hid ((al HB.out (Nat.le_refl _) _).grown hgrow3 (by have:=HB.out.size;simp;omega) (fun k e=>(HO.out.lt k e).1))
     have HO3 : Hid (w3.ownsRow w.heap.size 5 1 v3 (acc ++ [s[k]'hlt]).length (Lib.byteCells (acc ++ [s[k]'hlt]))):=Lib.hid (by
      rw [Lib.byteCells_append,List.length_append]
      exact hown3)
     exact ⟨⟨k + 1,acc ++ [s[k]'hlt],by omega,by go_num,HO3.out,HB3.out,HN.out,by rw [List.length_append];simp;omega⟩,by simp [intOf];omega⟩
  ·have hkk : k = s.size:=by omega
   have HF : Hid (unL [] (bts s) = .ok acc):=Lib.hid (by rw [← HU.out,hkk,List.drop_of_length_le (Nat.le_of_eq (bts_len s)),unL_nil])
   have hcb:=conv_own _ _ _ _ HO.out
   subst hkk
   go_wp2
   go_ret2
   refine ⟨?_,HB.out⟩
   rw [HF.out]
   rfl
end Go.Proofs.YtjldpkhfiffinaaGreatDoor.U
