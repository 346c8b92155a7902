/- Contracts and plain facts that the law stands on: Kind, Size, Put, Is. -/
import Derived.Test.YtjldpkhfiffinaaGreatDoorZC01
import Derived.Test.YtjldpkhfiffinaaGreatDoorZC03
import Derived.Lib.OthersKept
import Derived.BigQuiet
import Derived.BigCall
import Derived.Shelf.Abstract
import Derived.Lib.Strings
import Derived.Deep.QuietTactic
import Derived.Deep.DeepMust
import Derived.Deep.RegionLaw
import Derived.Maps.AppendAt
import Derived.BigRegion
import Derived.RangeFuncBox
namespace Go.Proofs.YtjldpkhfiffinaaGreatDoor.U
open Go.RowKit Go.Shelf
set_option maxHeartbeats 1000000 in
theorem letter_any (c : Int) (w : World) : Calls Tryz.prog 53 #[.int .i32 c] w fun e w'=>e = .returned (.bool (letterI c)) ∧ Below w.heap.size w w':=by
 rcases (show c < 65 ∨ (65 ≤ c ∧ c ≤ 90) ∨ (91 ≤ c ∧ c ≤ 94) ∨ c = 95 ∨ c = 96 ∨ (97 ≤ c ∧ c ≤ 122) ∨ 122 < c by omega) with h | ⟨h,h'⟩ | ⟨h,h'⟩ | h | h | ⟨h,h'⟩ | h
 all_goals
  first
   | (have hv : letterI c = true:=by (simp only [letterI,decide_eq_true_eq];omega)
      rw [hv];clear hv)
   | (have hv : letterI c = false:=by (simp only [letterI,decide_eq_false_iff_not];omega)
      rw [hv];clear hv)
  first | subst h | skip
  go_enter Tryz.func53,Tryz.ntmps53
  go_wp2
  go_ret
  refine ⟨?_,Below.refl _ _⟩
  first | rfl | (simp;done) | (simp;omega)
set_option maxHeartbeats 1000000 in
theorem blank_any (c : Int) (w : World) : Calls Tryz.prog 164 #[.int .i32 c] w fun e w'=>e = .returned (.bool (blankI c)) ∧ Below w.heap.size w w':=by
 rcases (show c = 9 ∨ c = 10 ∨ c = 13 ∨ c = 32 ∨ (c ≠ 9 ∧ c ≠ 10 ∧ c ≠ 13 ∧ c ≠ 32) by omega) with h | h | h | h | ⟨h,h1,h2,h3⟩
 all_goals
  first
   | (have hv : blankI c = true:=by (simp only [blankI,decide_eq_true_eq];omega)
      rw [hv];clear hv)
   | (have hv : blankI c = false:=by (simp only [blankI,decide_eq_false_iff_not];omega)
      rw [hv];clear hv)
  first | subst h | skip
  go_enter Tryz.func164,Tryz.ntmps164
  go_wp2
  go_ret
  refine ⟨?_,Below.refl _ _⟩
  first | rfl | (simp;done) | (simp;omega)
set_option maxHeartbeats 1000000 in
theorem named_any (c : Int) (w : World) : Calls Tryz.prog 54 #[.int .i32 c] w fun e w'=>e = .returned (.bool (namedI c)) ∧ Below w.heap.size w w':=by
 by_cases hl : letterI c = true
 ·have hv : namedI c = true:=by
   simp only [letterI,decide_eq_true_eq] at hl
   simp only [namedI,decide_eq_true_eq];omega
  rw [hv];clear hv
  go_enter Tryz.func54,Tryz.ntmps54
  go_wp2_with fail
  refine (letter_any _ _).mono ?_
  rintro e w2 ⟨rfl,hb⟩
  rw [hl]
  go_wp2
  go_ret
  exact ⟨rfl,hb⟩
 ·have hf : letterI c = false:=by simpa using hl
  have hv : namedI c = decide ((48 ≤ c ∧ c ≤ 57) ∨ c = 45 ∨ c = 46):=by
   simp only [letterI,decide_eq_true_eq] at hl
   simp only [namedI,decide_eq_decide];omega
  rw [hv];clear hv hl
  rcases (show (48 ≤ c ∧ c ≤ 57) ∨ c = 45 ∨ c = 46 ∨ (c < 48 ∧ c ≠ 45 ∧ c ≠ 46) ∨ 57 < c by omega) with h | h | h | h | h
  all_goals
   first
    | (have hv : decide ((48 ≤ c ∧ c ≤ 57) ∨ c = 45 ∨ c = 46) = true:=by (simp only [decide_eq_true_eq];omega)
       rw [hv];clear hv)
    | (have hv : decide ((48 ≤ c ∧ c ≤ 57) ∨ c = 45 ∨ c = 46) = false:=by (simp only [decide_eq_false_iff_not];omega)
       rw [hv];clear hv)
   first | subst h | skip
   go_enter Tryz.func54,Tryz.ntmps54
   go_wp2_with fail
   refine (letter_any _ _).mono ?_
   rintro e w2 ⟨rfl,hb⟩
   rw [hf]
   go_wp2
   go_ret
   refine ⟨?_,hb⟩
   first | rfl | (simp;done) | (simp;omega)
structure IsKind (g : Nat) (p : Int → Bool) : Prop where
 enters : ∀ args w,(callFunc g args).run Tryz.prog w = .ok (.enter g args) w
 tells : ∀ c w,Calls Tryz.prog g #[.int .i32 c] w fun e w'=>e = .returned (.bool (p c)) ∧ Below w.heap.size w w'
 high : ∀ c,128 ≤ c → p c = false
theorem kind_letter : IsKind 53 letterI:=⟨enters_of Tryz.func53 (by kernel_rfl) rfl,letter_any,fun c h=>by simp only [letterI,decide_eq_false_iff_not];omega⟩
theorem kind_named : IsKind 54 namedI:=⟨enters_of Tryz.func54 (by kernel_rfl) rfl,named_any,fun c h=>by simp only [namedI,decide_eq_false_iff_not];omega⟩
theorem kind_blank : IsKind 164 blankI:=⟨enters_of Tryz.func164 (by kernel_rfl) rfl,blank_any,fun c h=>by simp only [blankI,decide_eq_false_iff_not];omega⟩
set_option maxHeartbeats 2000000 in
theorem all_any (g : Nat) (p : Int → Bool) (hk : IsKind g p) (s : ByteArray) (w : World) :
  Calls Tryz.prog 52 #[.string s,.func (.func g) #[] #[]] w fun e w'=>e = .returned (.bool (allL p (bts s))) ∧ Below w.heap.size w w':=by
 have eg:=hk.enters
 go_enter Tryz.func52,Tryz.ntmps52
 go_wp2
 go_loopw [] (fun wr=>∃ pos : Nat,pos ≤ s.size ∧ wr.heap[w.heap.size]? = some (.stringIter s pos) ∧ Below w.heap.size w wr ∧ allL p ((bts s).take pos) = true) (fun wr=>s.size - wr.iterPos w.heap.size)
 case atStart=>
  refine ⟨0,by omega,?_,(Below.refl _ w).alloc (Nat.le_refl _) _,rfl⟩
  have:=World.iter_heap w s 0
  simpa using this
 case round=>
  obtain ⟨pos,hle,hit,hB,hall⟩:=hrel
  by_cases hp : pos < s.size
  ·have hnx : ∀ ty,(Instr.next (.pointer (some ⟨w.heap.size,0,none⟩)) true ty).run Tryz.prog wr = _:=fun ty=>Lib.run_next_any_at wr w.heap.size s pos ty hit hp
   have hit2:=Lib.iterAt_heap wr w.heap.size s pos (pos + (Utf8.decode s pos).2) hit
   have hB2:=Lib.below_iterAt hB (k:=w.heap.size) (Nat.le_refl _) s (pos + (Utf8.decode s pos).2)
   have hlt2 : w.heap.size < (wr.iterAt w.heap.size s (pos + (Utf8.decode s pos).2)).heap.size:=(Array.getElem?_eq_some_iff.1 hit2).1
   have hke:=hk.tells
   have hfact : (p (Utf8.decode s pos).1 = false → allL p (bts s) = false) ∧ (p (Utf8.decode s pos).1 = true → (Utf8.decode s pos).2 = 1 ∧ allL p ((bts s).take (pos + 1)) = true):=by
    by_cases h8 : (s[pos]'hp).toNat < 128
    ·rw [decode_ascii s pos hp h8]
     refine ⟨fun h=>allL_false s pos hp h,fun h=>⟨rfl,?_⟩⟩
     rw [bts_take s pos hp]
     unfold allL at hall ⊢
     rw [List.all_append,hall]
     simpa using h
    ·have hd:=decode_high s pos hp (by omega)
     refine ⟨fun _=>allL_false s pos hp (hk.high _ (by omega)),fun h=>?_⟩
     have:=hk.high ((Utf8.decode s pos).1 : Int) (by omega)
     rw [this] at h
     cases h
   obtain ⟨hf0,hf1⟩:=hfact
   obtain ⟨r,hr⟩ : ∃ r,r = ((Utf8.decode s pos).1 : Int):=⟨_,rfl⟩
   rw [← hr] at hf0 hf1 hnx
   clear hr
   by_cases hpr : p r = true
   ·obtain ⟨h1,h2⟩:=hf1 hpr
    rw [h1] at hnx hit2 hB2 hlt2
    go_wp2_with fail
    refine (hke _ _).mono ?_
    rintro e w2 ⟨rfl,hb⟩
    rw [hpr]
    go_wp2
    go_roundw
    case rel=>exact ⟨pos + 1,by omega,(hb.block _ hlt2).trans hit2,th hB2 (by omega) hb,h2⟩
    case measure=>
     simp only [World.iterPos,(hb.block _ hlt2).trans hit2,hit]
     omega
   ·have hpf : p r = false:=by simpa using hpr
    have hres:=hf0 hpf
    go_wp2_with fail
    refine (hke _ _).mono ?_
    rintro e w2 ⟨rfl,hb⟩
    rw [hpf]
    go_wp2
    go_ret
    exact ⟨by rw [hres];rfl,th hB2 (by omega) hb⟩
  ·have hnx : ∀ ty,(Instr.next (.pointer (some ⟨w.heap.size,0,none⟩)) true ty).run Tryz.prog wr = _:=fun ty=>Lib.run_next_end_at wr w.heap.size s pos ty hit hp
   have hres : allL p (bts s) = true:=by rw [← hall,List.take_of_length_le (by rw [bts_len];omega)]
   go_wp2
   go_ret
   exact ⟨by rw [hres];rfl,hB⟩
theorem blankS_any (s : ByteArray) (w : World) : Calls Tryz.prog 141 #[.string s] w fun e w'=>e = .returned (.bool (allL blankI (bts s))) ∧ Below w.heap.size w w':=by
 go_enter Tryz.func141,Tryz.ntmps141
 go_wp2_with fail
 refine (all_any 164 blankI kind_blank _ _).mono ?_
 rintro e w2 ⟨rfl,hb⟩
 go_wp2
 go_ret
 exact ⟨rfl,hb⟩
theorem emp_no {s : ByteArray} (h : s.size ≠ 0) : s.toList.isEmpty = false:=by
 rw [← decide_eq_emptyBytes]
 exact decide_eq_false (fun e=>h (by rw [e];rfl))
theorem bts_one (s : ByteArray) : bts (s.extract 0 1) = (bts s).take 1:=by rw [bts_extract];rfl
set_option maxHeartbeats 1000000 in
theorem isName_any (s : ByteArray) (w : World) : Calls Tryz.prog 28 #[.string s] w fun e w'=>e = .returned (.bool (nameL (bts s))) ∧ Below w.heap.size w w':=by
 have hlen:=bts_len s
 by_cases h0 : s.size = 0
 ·have hs : s = ⟨#[]⟩:=bts_inj (by rw [bts_mk];exact List.eq_nil_of_length_eq_zero (hlen.trans h0))
  subst hs
  go_enter Tryz.func28,Tryz.ntmps28
  go_wp2
  go_ret
  exact ⟨rfl,Below.refl _ _⟩
 ·have hne : s ≠ ⟨#[]⟩:=by rintro rfl;exact h0 rfl
  have hne2:=emp_no h0
  by_cases h64 : 64 < s.size
  ·have hv : nameL (bts s) = false:=by unfold nameL;rw [hlen,decide_eq_false (by omega)];rfl
   rw [hv]
   go_enter Tryz.func28,Tryz.ntmps28
   go_wp2
   go_ret
   exact ⟨rfl,Below.refl _ _⟩
  ·have hv : nameL (bts s) = (allL letterI ((bts s).take 1) && allL namedI (bts s)):=by unfold nameL;rw [hlen,decide_eq_true (by omega)];rfl
   rw [hv,← bts_one]
   clear hv
   cases hl : allL letterI (bts (s.extract 0 1))
   ·go_enter Tryz.func28,Tryz.ntmps28
    go_wp2_with fail
    refine (all_any 53 letterI kind_letter _ _).mono ?_
    rintro e w2 ⟨rfl,hb⟩
    rw [hl]
    go_wp2
    go_ret
    exact ⟨rfl,hb⟩
   ·go_enter Tryz.func28,Tryz.ntmps28
    go_wp2_with fail
    refine (all_any 53 letterI kind_letter _ _).mono ?_
    rintro e w2 ⟨rfl,hb⟩
    rw [hl]
    go_wp2_with fail
    refine (all_any 54 namedI kind_named _ _).mono ?_
    rintro e w3 ⟨rfl,hb3⟩
    go_wp2
    go_ret
    exact ⟨rfl,hb.trans (hb3.mono hb.size)⟩
open Go.RowKit
theorem Lay.row {w : World} (h : Lay w) : w.cell? ⟨0,0,none⟩ = some (.int .i32 128) ∧ w.cell? ⟨0,1,none⟩ = some (.int .u8 0) ∧ w.cell? ⟨0,2,none⟩ = some (.int .u8 127) ∧ w.cell? ⟨0,3,none⟩ = some (.int .i32 2048) ∧ w.cell? ⟨0,4,none⟩ = some (.int .u8 192) ∧ w.cell? ⟨0,5,none⟩ = some (.int .u8 223) ∧ w.cell? ⟨0,6,none⟩ = some (.int .i32 65536) ∧ w.cell? ⟨0,7,none⟩ = some (.int .u8 224) ∧ w.cell? ⟨0,8,none⟩ = some (.int .u8 239) ∧ w.cell? ⟨0,9,none⟩ = some (.int .i32 2097152) ∧ w.cell? ⟨0,10,none⟩ = some (.int .u8 240) ∧ w.cell? ⟨0,11,none⟩ = some (.int .u8 247):=by
 obtain ⟨t,f,h1⟩:=h.rows
 refine ⟨?_,?_,?_,?_,?_,?_,?_,?_,?_,?_,?_,?_⟩ <;> rw [cell_of_row w 0 _ _ t f h1] <;> rfl
set_option maxHeartbeats 1000000 in
theorem size_any (r : Int) (w : World) (hl : Lay w) : Calls Tryz.prog 148 #[.int .i32 r] w fun e w'=>e = .returned (.int .i64 (sizeC r)) ∧ w = w':=by
 obtain ⟨c0,_,_,c3,_,_,c6,_,_,_,_,_⟩:=hl.row
 rcases (show r < 128 ∨ (128 ≤ r ∧ r < 2048) ∨ (2048 ≤ r ∧ r < 65536) ∨ 65536 ≤ r by omega) with h | ⟨h,h'⟩ | ⟨h,h'⟩ | h
 ·have HC:=Lib.hid (sizeC_1 h)
  go_enter Tryz.func148,Tryz.ntmps148
  go_wp2
  refine wp_loop_rounds 1 ?_;rw [rounds_succ]
  go_wp2
  go_ret
  exact ⟨by rw [HC.out];rfl,rfl⟩
 ·have HC:=Lib.hid (sizeC_2 h h')
  go_enter Tryz.func148,Tryz.ntmps148
  go_wp2
  refine wp_loop_rounds 2 ?_;rw [rounds_succ]
  go_wp2
  rw [rounds_succ]
  go_wp2
  go_ret
  exact ⟨by rw [HC.out];rfl,rfl⟩
 ·have HC:=Lib.hid (sizeC_3 h h')
  go_enter Tryz.func148,Tryz.ntmps148
  go_wp2
  refine wp_loop_rounds 3 ?_;rw [rounds_succ]
  go_wp2
  rw [rounds_succ]
  go_wp2
  rw [rounds_succ]
  go_wp2
  go_ret
  exact ⟨by rw [HC.out];rfl,rfl⟩
 ·have HC:=Lib.hid (sizeC_4 h)
  go_enter Tryz.func148,Tryz.ntmps148
  go_wp2
  refine wp_loop_rounds 4 ?_;rw [rounds_succ]
  go_wp2
  rw [rounds_succ]
  go_wp2
  rw [rounds_succ]
  go_wp2
  rw [rounds_succ]
  go_wp2
  go_ret
  exact ⟨by rw [HC.out];rfl,rfl⟩
open Go.RowKit
theorem size_is (r : Int) (n : Nat) (w : World) (hl : Lay w) (hn : sizeC r = n) : Calls Tryz.prog 148 #[.int .i32 r] w fun e w'=>e = .returned (.int .i64 n) ∧ w = w':=by
 subst hn;exact size_any r w hl
theorem info5 : (Tryz.prog.info? 5).map (fun i=>(i.zero,i.size,i.bytes)) = some (some (.int .u8 0),1,1):=by kernel_rfl
open Go.RowKit
theorem within_yes (a b r : Int) (B : Nat) (w : World) (hr : w.cell? ⟨B,0,none⟩ = some (.int .i32 r)) (h1 : a ≤ r) (h2 : r ≤ b) :
  Calls Tryz.prog 167 #[.agg #[.int .i32 a,.int .i32 b],.pointer (some ⟨B,0,none⟩)] w fun e w'=>e = .returned (.bool true) ∧ Below w.heap.size w w':=by
 have hB : B < w.heap.size:=block_lt_of_cell hr
 have hne : B ≠ w.heap.size:=by omega
 go_enter Tryz.func167,Tryz.ntmps167
 go_wp2
 go_ret
 exact ⟨rfl,(Below.refl _ _).alloc (Nat.le_refl _) _⟩
theorem within_no (a b r : Int) (B : Nat) (w : World) (hr : w.cell? ⟨B,0,none⟩ = some (.int .i32 r)) (h : r < a ∨ b < r) :
  Calls Tryz.prog 167 #[.agg #[.int .i32 a,.int .i32 b],.pointer (some ⟨B,0,none⟩)] w fun e w'=>e = .returned (.bool false) ∧ Below w.heap.size w w':=by
 have hB : B < w.heap.size:=block_lt_of_cell hr
 have hne : B ≠ w.heap.size:=by omega
 by_cases h1 : a ≤ r
 ·have h2' : decide (r ≤ b) = false:=by simp;omega
  clear h
  go_enter Tryz.func167,Tryz.ntmps167
  go_wp2
  go_ret
  exact ⟨rfl,(Below.refl _ _).alloc (Nat.le_refl _) _⟩
 ·have h1' : r < a:=by omega
  clear h h1
  go_enter Tryz.func167,Tryz.ntmps167
  go_wp2
  go_ret
  exact ⟨rfl,(Below.refl _ _).alloc (Nat.le_refl _) _⟩
theorem ix0 (c0 c1 c2 c3 c4 c5 c6 c7 c8 c9 : Value) (w : World) : (Instr.index 207 (.agg #[c0,c1,c2,c3,c4,c5,c6,c7,c8,c9]) (.int .i64 0)).run Tryz.prog w = .ok (.agg #[c0,c1]) w:=by kernel_rfl
theorem ix1 (c0 c1 c2 c3 c4 c5 c6 c7 c8 c9 : Value) (w : World) : (Instr.index 207 (.agg #[c0,c1,c2,c3,c4,c5,c6,c7,c8,c9]) (.int .i64 1)).run Tryz.prog w = .ok (.agg #[c2,c3]) w:=by kernel_rfl
theorem ix2 (c0 c1 c2 c3 c4 c5 c6 c7 c8 c9 : Value) (w : World) : (Instr.index 207 (.agg #[c0,c1,c2,c3,c4,c5,c6,c7,c8,c9]) (.int .i64 2)).run Tryz.prog w = .ok (.agg #[c4,c5]) w:=by kernel_rfl
theorem ix3 (c0 c1 c2 c3 c4 c5 c6 c7 c8 c9 : Value) (w : World) : (Instr.index 207 (.agg #[c0,c1,c2,c3,c4,c5,c6,c7,c8,c9]) (.int .i64 3)).run Tryz.prog w = .ok (.agg #[c6,c7]) w:=by kernel_rfl
theorem ix4 (c0 c1 c2 c3 c4 c5 c6 c7 c8 c9 : Value) (w : World) : (Instr.index 207 (.agg #[c0,c1,c2,c3,c4,c5,c6,c7,c8,c9]) (.int .i64 4)).run Tryz.prog w = .ok (.agg #[c8,c9]) w:=by kernel_rfl
def notIn (r : Int) (k : Nat) : Bool:=decide (¬ (1 ≤ k ∧ 9 ≤ r ∧ r ≤ 10) ∧ ¬ (2 ≤ k ∧ 13 ≤ r ∧ r ≤ 13) ∧ ¬ (3 ≤ k ∧ 32 ≤ r ∧ r ≤ 55295) ∧ ¬ (4 ≤ k ∧ 57344 ≤ r ∧ r ≤ 65533) ∧ ¬ (5 ≤ k ∧ 65536 ≤ r ∧ r ≤ 1114111))
theorem fin' {w wr w' : World} {o o' : Obj} (hb : Below (w.heap.size + 1) (w.alloc o) wr) (hs : w.heap.size + 1 ≤ wr.heap.size) (hb' : Below (wr.alloc o').heap.size (wr.alloc o') w') : Below (w.heap.size + 1) (w.alloc o) w':=
 (hb.alloc (by omega) _).trans (hb'.mono (by simp;omega))
theorem fin {w wr w' : World} {o o' : Obj} (hb : Below (w.heap.size + 1) (w.alloc o) wr) (hs : w.heap.size + 1 ≤ wr.heap.size) (hb' : Below (wr.alloc o').heap.size (wr.alloc o') w') : Below w.heap.size w w':=
 ((Below.refl _ _).alloc (Nat.le_refl _) _).trans ((fin' hb hs hb').mono (by omega))
set_option maxHeartbeats 1000000 in
theorem is_any (r : Int) (w : World) (hl : Lay w) : Calls Tryz.prog 147 #[.int .i32 r] w fun e w'=>e = .returned (.bool (isC r)) ∧ Below w.heap.size w w':=by
 obtain ⟨t0,f0,hs⟩:=hl.spans
 have hsz:=hl.size
 have hs1 : (w.alloc (.cells #[.int .i32 r] 21)).heap[1]? = some (.cells #[.int .i32 9,.int .i32 10,.int .i32 13,.int .i32 13,.int .i32 32,.int .i32 55295,.int .i32 57344,.int .i32 65533,.int .i32 65536,.int .i32 1114111] t0 f0):=by
  rw [Below.heap_alloc _ _ _ (by omega)];exact hs
 have i0:=@ix0
 have i1:=@ix1
 have i2:=@ix2
 have i3:=@ix3
 have i4:=@ix4
 clear hs hl
 go_enter Tryz.func147,Tryz.ntmps147
 go_wp2_with (refine wpList_load_row rfl 207 _ rfl 1 rfl t0 _ f0 _ hs1 Tryz.underlying207 rfl (by kernel_rfl) ?_)
 clear hs1
 go_loopw [8] (fun i wr=>∃ k : Nat,k ≤ 5 ∧ i = .int .i64 k ∧ notIn r k = true ∧ Below (w.heap.size + 1) (w.alloc (.cells #[.int .i32 r] 21)) wr)
  (fun i _=>5 - (intOf i).toNat)
 case atStart=>exact ⟨0,by omega,rfl,by simp [notIn],Below.refl _ _⟩
 case round=>
  obtain ⟨k,hk,rfl,hn,hb⟩:=hrel
  have hcr : wr.cell? ⟨w.heap.size,0,none⟩ = some (.int .i32 r):=(hb.cell (p:=⟨w.heap.size,0,none⟩) (by simp)).trans (by simp)
  have hsz2 : w.heap.size + 1 ≤ wr.heap.size:=by have:=hb.size;simpa using this
  have hne : w.heap.size ≠ wr.heap.size:=by omega
  have hltB : w.heap.size < wr.heap.size:=by omega
  rcases (show k = 0 ∨ k = 1 ∨ k = 2 ∨ k = 3 ∨ k = 4 ∨ k = 5 by omega) with rfl | rfl | rfl | rfl | rfl | rfl
  ·by_cases hin : 9 ≤ r ∧ r ≤ 10
   ·have HC:=Lib.hid (isC_yes (r:=r) (by omega))
    go_wp2_with fail
    refine (within_yes _ _ r w.heap.size _ ?hc (by omega) (by omega)).mono ?_
    case hc=>exact cell_later ((Below.refl _ _).alloc (Nat.le_refl _) _) hcr
    rintro e w' ⟨rfl,hb'⟩
    go_wp2
    go_ret
    exact ⟨by rw [HC.out];rfl,fin hb hsz2 hb'⟩
   ·have hn' : notIn r 1 = true:=by
     simp only [notIn,decide_eq_true_eq] at hn ⊢;omega
    go_wp2_with fail
    refine (within_no _ _ r w.heap.size _ ?hc (by omega)).mono ?_
    case hc=>exact cell_later ((Below.refl _ _).alloc (Nat.le_refl _) _) hcr
    rintro e w' ⟨rfl,hb'⟩
    go_wp2
    go_roundw
    case rel=>exact ⟨1,by omega,rfl,hn',fin' hb hsz2 hb'⟩
    case measure=>simp [intOf]
  ·by_cases hin : 13 ≤ r ∧ r ≤ 13
   ·have HC:=Lib.hid (isC_yes (r:=r) (by omega))
    go_wp2_with fail
    refine (within_yes _ _ r w.heap.size _ ?hc (by omega) (by omega)).mono ?_
    case hc=>exact cell_later ((Below.refl _ _).alloc (Nat.le_refl _) _) hcr
    rintro e w' ⟨rfl,hb'⟩
    go_wp2
    go_ret
    exact ⟨by rw [HC.out];rfl,fin hb hsz2 hb'⟩
   ·have hn' : notIn r 2 = true:=by
     simp only [notIn,decide_eq_true_eq] at hn ⊢;omega
    go_wp2_with fail
    refine (within_no _ _ r w.heap.size _ ?hc (by omega)).mono ?_
    case hc=>exact cell_later ((Below.refl _ _).alloc (Nat.le_refl _) _) hcr
    rintro e w' ⟨rfl,hb'⟩
    go_wp2
    go_roundw
    case rel=>exact ⟨2,by omega,rfl,hn',fin' hb hsz2 hb'⟩
    case measure=>simp [intOf]
  ·by_cases hin : 32 ≤ r ∧ r ≤ 55295
   ·have HC:=Lib.hid (isC_yes (r:=r) (by omega))
    go_wp2_with fail
    refine (within_yes _ _ r w.heap.size _ ?hc (by omega) (by omega)).mono ?_
    case hc=>exact cell_later ((Below.refl _ _).alloc (Nat.le_refl _) _) hcr
    rintro e w' ⟨rfl,hb'⟩
    go_wp2
    go_ret
    exact ⟨by rw [HC.out];rfl,fin hb hsz2 hb'⟩
   ·have hn' : notIn r 3 = true:=by
     simp only [notIn,decide_eq_true_eq] at hn ⊢;omega
    go_wp2_with fail
    refine (within_no _ _ r w.heap.size _ ?hc (by omega)).mono ?_
    case hc=>exact cell_later ((Below.refl _ _).alloc (Nat.le_refl _) _) hcr
    rintro e w' ⟨rfl,hb'⟩
    go_wp2
    go_roundw
    case rel=>exact ⟨3,by omega,rfl,hn',fin' hb hsz2 hb'⟩
    case measure=>simp [intOf]
  ·by_cases hin : 57344 ≤ r ∧ r ≤ 65533
   ·have HC:=Lib.hid (isC_yes (r:=r) (by omega))
    go_wp2_with fail
    refine (within_yes _ _ r w.heap.size _ ?hc (by omega) (by omega)).mono ?_
    case hc=>exact cell_later ((Below.refl _ _).alloc (Nat.le_refl _) _) hcr
    rintro e w' ⟨rfl,hb'⟩
    go_wp2
    go_ret
    exact ⟨by rw [HC.out];rfl,fin hb hsz2 hb'⟩
   ·have hn' : notIn r 4 = true:=by
     simp only [notIn,decide_eq_true_eq] at hn ⊢;omega
    go_wp2_with fail
    refine (within_no _ _ r w.heap.size _ ?hc (by omega)).mono ?_
    case hc=>exact cell_later ((Below.refl _ _).alloc (Nat.le_refl _) _) hcr
    rintro e w' ⟨rfl,hb'⟩
    go_wp2
    go_roundw
    case rel=>exact ⟨4,by omega,rfl,hn',fin' hb hsz2 hb'⟩
    case measure=>simp [intOf]
  ·by_cases hin : 65536 ≤ r ∧ r ≤ 1114111
   ·have HC:=Lib.hid (isC_yes (r:=r) (by omega))
    go_wp2_with fail
    refine (within_yes _ _ r w.heap.size _ ?hc (by omega) (by omega)).mono ?_
    case hc=>exact cell_later ((Below.refl _ _).alloc (Nat.le_refl _) _) hcr
    rintro e w' ⟨rfl,hb'⟩
    go_wp2
    go_ret
    exact ⟨by rw [HC.out];rfl,fin hb hsz2 hb'⟩
   ·have hn' : notIn r 5 = true:=by
     simp only [notIn,decide_eq_true_eq] at hn ⊢;omega
    go_wp2_with fail
    refine (within_no _ _ r w.heap.size _ ?hc (by omega)).mono ?_
    case hc=>exact cell_later ((Below.refl _ _).alloc (Nat.le_refl _) _) hcr
    rintro e w' ⟨rfl,hb'⟩
    go_wp2
    go_roundw
    case rel=>exact ⟨5,by omega,rfl,hn',fin' hb hsz2 hb'⟩
    case measure=>simp [intOf]
  ·have HC:=Lib.hid (isC_no (r:=r) (by simp only [notIn,decide_eq_true_eq] at hn;omega))
   go_wp2
   go_ret
   exact ⟨by rw [HC.out];rfl,((Below.refl _ _).alloc (Nat.le_refl _) _).trans (hb.mono (by omega))⟩
end Go.Proofs.YtjldpkhfiffinaaGreatDoor.U
