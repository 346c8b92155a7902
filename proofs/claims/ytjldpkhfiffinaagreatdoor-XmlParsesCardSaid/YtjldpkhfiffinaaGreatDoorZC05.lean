/- Contracts and plain facts that the law stands on: Q3, Q4, Conv. -/
import Derived.Test.YtjldpkhfiffinaaGreatDoorZC04
import Derived.Test.YtjldpkhfiffinaaGreatDoorZC03
import Derived.Test.YtjldpkhfiffinaaGreatDoorZC01
import Derived.BigQuiet
import Derived.Deep.QuietTactic
import Derived.Lib.ConvBytes
namespace Go.Proofs.YtjldpkhfiffinaaGreatDoor.U
open Go.RowKit
def encs (zs : List Int) : List Int:=zs.flatMap encC
def IsRow (k : IntKind) (w : World) (a : Option Addr) (len cap : Nat) (zs : List Int) : Prop:=
 (a = none ∧ len = 0 ∧ cap = 0 ∧ zs = []) ∨
 ∃ x,a = some x ∧ len ≤ cap ∧ cap ≤ maxLen ∧ zs.length = cap ∧ (∀ i,i < zs.length → w.cell? (x.add i) = some (.int k (zs.getD i 0))) ∧ ∀ n ∈ zs,(Lit.int k n).wf = true
def Reads (k : IntKind) (w : World) (a : Option Addr) (len : Nat) (zs : List Int) : Prop:=
 zs.length = len ∧ (0 < len → ∃ b off,a = some ⟨b,off,none⟩ ∧ ∀ i,i < len → w.cell? ⟨b,off + i,none⟩ = some (.int k (zs.getD i 0)))
open Go.RowKit
theorem rx0 (c0 c1 c2 c3 c4 c5 c6 c7 c8 c9 c10 c11 : Value) (w : World) : (Instr.index 203 (.agg #[c0,c1,c2,c3,c4,c5,c6,c7,c8,c9,c10,c11]) (.int .i64 0)).run Tryz.prog w = .ok (.agg #[c0,c1,c2]) w:=by kernel_rfl
theorem rx1 (c0 c1 c2 c3 c4 c5 c6 c7 c8 c9 c10 c11 : Value) (w : World) : (Instr.index 203 (.agg #[c0,c1,c2,c3,c4,c5,c6,c7,c8,c9,c10,c11]) (.int .i64 1)).run Tryz.prog w = .ok (.agg #[c3,c4,c5]) w:=by kernel_rfl
theorem rx2 (c0 c1 c2 c3 c4 c5 c6 c7 c8 c9 c10 c11 : Value) (w : World) : (Instr.index 203 (.agg #[c0,c1,c2,c3,c4,c5,c6,c7,c8,c9,c10,c11]) (.int .i64 2)).run Tryz.prog w = .ok (.agg #[c6,c7,c8]) w:=by kernel_rfl
theorem rx3 (c0 c1 c2 c3 c4 c5 c6 c7 c8 c9 c10 c11 : Value) (w : World) : (Instr.index 203 (.agg #[c0,c1,c2,c3,c4,c5,c6,c7,c8,c9,c10,c11]) (.int .i64 3)).run Tryz.prog w = .ok (.agg #[c9,c10,c11]) w:=by kernel_rfl
set_option maxHeartbeats 2000000 in
theorem begin_any (c : Int) (w : World) (hl : Lay w) (h0 : 0 ≤ c) (h1 : c ≤ 255) : Calls Tryz.prog 146 #[.int .u8 c] w fun e w'=>e = .returned (.tuple #[.int .i32 (begV c),.int .i64 (begN c)]) ∧ Below w.heap.size w w':=by
 obtain ⟨t0,f0,hr⟩:=hl.rows
 have hsz:=hl.size
 have i0:=@rx0
 have i1:=@rx1
 have i2:=@rx2
 have i3:=@rx3
 rcases (show c ≤ 127 ∨ (127 < c ∧ c < 192) ∨ (192 ≤ c ∧ c ≤ 223) ∨ (224 ≤ c ∧ c ≤ 239) ∨ (240 ≤ c ∧ c ≤ 247) ∨ 247 < c by omega) with h | ⟨h,h'⟩ | ⟨h,h'⟩ | ⟨h,h'⟩ | ⟨h,h'⟩ | h
 ·have HC:=Lib.hid (show begV c = c ∧ begN c = 1 by unfold begV begN;constructor <;> (repeat (first | rw [if_pos (by omega)] | rw [if_neg (by omega)])))
  go_enter Tryz.func146,Tryz.ntmps146
  go_wp2_with (refine wpList_load_row rfl 203 _ rfl 0 rfl t0 _ f0 _ hr Tryz.underlying203 rfl (by kernel_rfl) ?_)
  refine wp_loop_rounds 1 ?_
  rw [rounds_succ]
  go_wp2
  go_ret2
  exact ⟨by rw [HC.out.1,HC.out.2];rfl,by repeat (first | exact Below.refl _ _ | refine al ?_ (Nat.le_refl _) _)⟩
 ·have HC:=Lib.hid (show begV c = 0 ∧ begN c = 0 by unfold begV begN;constructor <;> (repeat (first | rw [if_pos (by omega)] | rw [if_neg (by omega)])))
  go_enter Tryz.func146,Tryz.ntmps146
  go_wp2_with (refine wpList_load_row rfl 203 _ rfl 0 rfl t0 _ f0 _ hr Tryz.underlying203 rfl (by kernel_rfl) ?_)
  refine wp_loop_rounds 5 ?_
  rw [rounds_succ]
  go_wp2
  rw [rounds_succ]
  go_wp2
  rw [rounds_succ]
  go_wp2
  rw [rounds_succ]
  go_wp2
  rw [rounds_succ]
  go_wp2
  go_ret2
  exact ⟨by rw [HC.out.1,HC.out.2];rfl,by repeat (first | exact Below.refl _ _ | refine al ?_ (Nat.le_refl _) _)⟩
 ·have HC:=Lib.hid (show begV c = c - 192 ∧ begN c = 2 by unfold begV begN;constructor <;> (repeat (first | rw [if_pos (by omega)] | rw [if_neg (by omega)])))
  go_enter Tryz.func146,Tryz.ntmps146
  go_wp2_with (refine wpList_load_row rfl 203 _ rfl 0 rfl t0 _ f0 _ hr Tryz.underlying203 rfl (by kernel_rfl) ?_)
  refine wp_loop_rounds 2 ?_
  rw [rounds_succ]
  go_wp2
  rw [rounds_succ]
  go_wp2
  go_ret2
  exact ⟨by rw [HC.out.1,HC.out.2];rfl,by repeat (first | exact Below.refl _ _ | refine al ?_ (Nat.le_refl _) _)⟩
 ·have HC:=Lib.hid (show begV c = c - 224 ∧ begN c = 3 by unfold begV begN;constructor <;> (repeat (first | rw [if_pos (by omega)] | rw [if_neg (by omega)])))
  go_enter Tryz.func146,Tryz.ntmps146
  go_wp2_with (refine wpList_load_row rfl 203 _ rfl 0 rfl t0 _ f0 _ hr Tryz.underlying203 rfl (by kernel_rfl) ?_)
  refine wp_loop_rounds 3 ?_
  rw [rounds_succ]
  go_wp2
  rw [rounds_succ]
  go_wp2
  rw [rounds_succ]
  go_wp2
  go_ret2
  exact ⟨by rw [HC.out.1,HC.out.2];rfl,by repeat (first | exact Below.refl _ _ | refine al ?_ (Nat.le_refl _) _)⟩
 ·have HC:=Lib.hid (show begV c = c - 240 ∧ begN c = 4 by unfold begV begN;constructor <;> (repeat (first | rw [if_pos (by omega)] | rw [if_neg (by omega)])))
  go_enter Tryz.func146,Tryz.ntmps146
  go_wp2_with (refine wpList_load_row rfl 203 _ rfl 0 rfl t0 _ f0 _ hr Tryz.underlying203 rfl (by kernel_rfl) ?_)
  refine wp_loop_rounds 4 ?_
  rw [rounds_succ]
  go_wp2
  rw [rounds_succ]
  go_wp2
  rw [rounds_succ]
  go_wp2
  rw [rounds_succ]
  go_wp2
  go_ret2
  exact ⟨by rw [HC.out.1,HC.out.2];rfl,by repeat (first | exact Below.refl _ _ | refine al ?_ (Nat.le_refl _) _)⟩
 ·have HC:=Lib.hid (show begV c = 0 ∧ begN c = 0 by unfold begV begN;constructor <;> (repeat (first | rw [if_pos (by omega)] | rw [if_neg (by omega)])))
  go_enter Tryz.func146,Tryz.ntmps146
  go_wp2_with (refine wpList_load_row rfl 203 _ rfl 0 rfl t0 _ f0 _ hr Tryz.underlying203 rfl (by kernel_rfl) ?_)
  refine wp_loop_rounds 5 ?_
  rw [rounds_succ]
  go_wp2
  rw [rounds_succ]
  go_wp2
  rw [rounds_succ]
  go_wp2
  rw [rounds_succ]
  go_wp2
  rw [rounds_succ]
  go_wp2
  go_ret2
  exact ⟨by rw [HC.out.1,HC.out.2];rfl,by repeat (first | exact Below.refl _ _ | refine al ?_ (Nat.le_refl _) _)⟩
open Go.RowKit
def DecPost (x : Option (Int × Nat)) (w : World) (e : Ending) (w' : World) : Prop:=
 Below w.heap.size w w' ∧ match x with
  | some (r,n)=>e = .returned (.tuple #[.int .i32 r,.int .i64 n,.int .i64 0])
  | none=>e = .returned (.tuple #[.int .i32 0,.int .i64 0,.int .i64 10])
set_option maxHeartbeats 1000000 in
theorem decode_in (b off len cap p : Nat) (zs : List Int) (w : World) (hl : Lay w) (hzl : zs.length = len) (hcap : len ≤ cap) (hb : ∀ z ∈ zs,0 ≤ z ∧ z ≤ 255)
  (hcell : ∀ i,i < len → w.cell? ⟨b,off + i,none⟩ = some (.int .u8 (zs[i]?.getD 0))) (hlen : len ≤ 140737488351232) (hp : p < len) :
  Calls Tryz.prog 124 #[.slice (some ⟨b,off,none⟩) len cap,.int .i64 p] w fun e w'=>DecPost (decC (zs.drop p)) w e w':=by
 obtain ⟨c,t,hdrop⟩ : ∃ c t,zs.drop p = c :: t:=by
  cases h : zs.drop p with
  | nil=>exact absurd (List.drop_eq_nil_iff.1 h) (by omega)
  | cons c t=>exact ⟨c,t,rfl⟩
 have hc : zs[p]?.getD 0 = c:=by
  have : (zs.drop p)[0]? = some c:=by rw [hdrop];rfl
  rw [List.getElem?_drop] at this
  simpa using congrArg (fun x=>x.getD 0) this
 have hcm : c ∈ zs:=List.mem_of_mem_drop (i:=p) (by rw [hdrop];simp)
 obtain ⟨hc0,hc1⟩:=hb c hcm
 have hcl : w.cell? ⟨b,off + p,none⟩ = some (.int .u8 c):=by rw [← hc];exact hcell p hp
 have hbw : b < w.heap.size:=block_lt_of_cell hcl
 have htl : t.length + 1 + p = len:=by
  have:=congrArg List.length hdrop
  simp only [List.length_drop,List.length_cons] at this
  omega
 have ht : ∀ i,i < t.length → w.cell? ⟨b,off + (p + 1) + i,none⟩ = some (.int .u8 (t[i]?.getD 0)):=by
  intro i hi
  have e : t[i]? = zs[p + 1 + i]?:=by
   have : (zs.drop p)[i + 1]? = t[i]?:=by rw [hdrop];rfl
   rw [← this,List.getElem?_drop]
   congr 1;omega
  rw [e,show off + (p + 1) + i = off + (p + 1 + i) by omega]
  exact hcell _ (by omega)
 have htb : ∀ z ∈ t,0 ≤ z ∧ z ≤ 255:=fun z hz=>hb z (List.mem_of_mem_drop (i:=p) (by rw [hdrop];simp [hz]))
 rw [hdrop]
 have HL:=Lib.hid hl
 have HT:=Lib.hid ht
 have HTB:=Lib.hid htb
 have HTL:=Lib.hid htl
 have hn4:=begN_le c
 have hbv:=begV_bounds c hc0
 clear hc hdrop hcm hb hcell hzl hl ht htb htl
 obtain ⟨n,hn⟩ : ∃ n,begN c = n:=⟨_,rfl⟩
 obtain ⟨v,hv⟩ : ∃ v,begV c = v:=⟨_,rfl⟩
 have HN:=Lib.hid hn
 have HV:=Lib.hid hv
 rw [hn] at hn4 hbv
 rw [hv] at hbv
 clear hn hv
 by_cases hbad : n = 0 ∨ len - p < n
 ·have HD:=Lib.hid (dec_bad (c:=c) (t:=t) (by rw [HN.out];have:=HTL.out;omega))
  by_cases hn0 : n = 0
  ·subst hn0
   go_enter Tryz.func124,Tryz.ntmps124
   go_wp2_with fail
   refine (begin_any c _ HL.out hc0 hc1).mono ?_
   rintro e w1 ⟨rfl,hb1⟩
   rw [HN.out,HV.out]
   go_wp2_with fail
   go_ret3
   exact ⟨hb1,by rw [HD.out];rfl⟩
  ·have hz : ((n : Int) == 0) = false:=by simp;omega
   have hlt : (len : Int) - p < n:=by omega
   clear hbad hn0
   go_enter Tryz.func124,Tryz.ntmps124
   go_wp2_with fail
   refine (begin_any c _ HL.out hc0 hc1).mono ?_
   rintro e w1 ⟨rfl,hb1⟩
   rw [HN.out,HV.out]
   go_wp2_with fail
   go_ret3
   exact ⟨hb1,by rw [HD.out];rfl⟩
 ·have hn0 : 1 ≤ n:=by omega
  have hnl : p + n ≤ len:=by omega
  clear hbad
  go_enter Tryz.func124,Tryz.ntmps124
  go_wp2_with fail
  refine (begin_any c _ HL.out hc0 hc1).mono ?_
  rintro e w1 ⟨rfl,hb1⟩
  rw [HN.out,HV.out]
  have hz : ((n : Int) == 0) = false:=by simp;omega
  by_cases h1 : n = 1
  ·subst h1
   have HCC:=Lib.hid (show contC v (t.take (1 - 1)) = some v from rfl)
   obtain ⟨u,hu⟩ : ∃ u,u = v:=⟨_,rfl⟩
   rw [← hu] at HCC
   subst hu
   have d1 : decide ((p : Int) < 0) = false:=by simp
   have d2 : decide ((len : Int) - p < (1 : Nat)) = false:=by simp;omega
   by_cases hcp : cap = p + 1
   all_goals
    go_wp2_with fail
    refine wp_loop_rounds 1 ?_
    rw [rounds_succ]
    have hl2:=Lib.hid (HL.out.below hb1 HL.out.size)
    have hfin:=@dec_not c t u
    have hfin2:=@dec_yes c t u
    rw [HN.out,HV.out] at hfin hfin2
    have HF:=Lib.hid hfin
    have HF2:=Lib.hid hfin2
    clear hfin hfin2
    cases hic : isC u with
    | false=>
     have HIC:=Lib.hid hic
     clear hic
     go_wp2_with fail
     refine (is_any u _ hl2.out).mono ?_
     rintro e w2 ⟨rfl,hb2⟩
     rw [HIC.out]
     go_wp2_with fail
     go_ret3
     exact ⟨th hb1 (Nat.le_refl _) hb2,by rw [HF.out hn0 (by have:=HTL.out;omega) HCC.out (by rw [HIC.out];simp)];rfl⟩
    | true=>
     have HIC:=Lib.hid hic
     clear hic
     obtain ⟨q,hq⟩ : ∃ q,sizeC u = q:=⟨_,rfl⟩
     have HQ:=Lib.hid hq
     clear hq
     by_cases hqn : q = 1
     ·subst hqn
      go_wp2_with fail
      refine (is_any u _ hl2.out).mono ?_
      rintro e w2 ⟨rfl,hb2⟩
      rw [HIC.out]
      go_wp2_with fail
      refine (size_is u _ _ (hl2.out.below hb2 hl2.out.size) HQ.out).mono ?_
      rintro e w3 ⟨rfl,rfl⟩
      go_wp2_with fail
      go_ret3
      exact ⟨th hb1 (Nat.le_refl _) hb2,by rw [HF2.out hn0 (by have:=HTL.out;omega) HCC.out HIC.out HQ.out];rfl⟩
     ·have hne : ((q : Int) != 1) = true:=by rw [bne_iff_ne];omega
      have hne2 : ((q : Int) == 1) = false:=by rw [beq_eq_false_iff_ne];omega
      have HQN:=Lib.hid hqn
      clear hqn
      go_wp2_with fail
      refine (is_any u _ hl2.out).mono ?_
      rintro e w2 ⟨rfl,hb2⟩
      rw [HIC.out]
      go_wp2_with fail
      refine (size_is u _ _ (hl2.out.below hb2 hl2.out.size) HQ.out).mono ?_
      rintro e w3 ⟨rfl,rfl⟩
      go_wp2_with fail
      go_ret3
      exact ⟨th hb1 (Nat.le_refl _) hb2,by rw [HF.out hn0 (by have:=HTL.out;omega) HCC.out (by rw [HQ.out];exact fun h=>HQN.out h.2)];rfl⟩
  ·have h2 : 2 ≤ n:=by omega
   have hcp : ¬ cap = p + 1:=by omega
   have d1 : decide ((p : Int) < 0) = false:=by simp
   have d2 : decide ((len : Int) - p < n) = false:=by simp;omega
   have hv2 : v < 32:=hbv.2.2 h2
   have hv0:=hbv.1
   clear hbv h1
   go_wp2_with fail
   go_loop [7,45] (fun r i=>∃ (k : Nat) (u : Int),k ≤ n - 1 ∧ i = .int .i64 k ∧ r = .int .i32 u ∧ contC v (t.take k) = some u ∧ 0 ≤ u ∧ Hid ((k ≤ 0 → u < 32) ∧ (k ≤ 1 → u < 2048) ∧ (k ≤ 2 → u < 131072) ∧ u < 8388608))
    (fun _ i=>n - 1 - (intOf i).toNat)
   case atStart=>exact ⟨0,v,by omega,rfl,rfl,rfl,hv0,by unfold Hid;omega⟩
   case round=>
    obtain ⟨k,u,hk,rfl,rfl,hcc,hu0,hub⟩:=hrel
    have HCC:=Lib.hid hcc
    clear hcc
    by_cases hlt : k < n - 1
    ·have hkt : k < t.length:=by have:=HTL.out;omega
     have hcx : w1.cell? ⟨b,off + (p + 1) + k,none⟩ = some (.int .u8 (t[k]?.getD 0)):=(hb1.cell (p:=⟨b,off + (p + 1) + k,none⟩) hbw).trans (HT.out k hkt)
     have hxm : t[k]?.getD 0 ∈ t:=by rw [List.getElem?_eq_getElem hkt];exact List.getElem_mem hkt
     obtain ⟨hx0,hx1⟩:=HTB.out _ hxm
     have HKT:=Lib.hid hkt
     have hu1 : u < 131072:=by have:=hub.out;omega
     obtain ⟨x,hx⟩ : ∃ x,x = t[k]?.getD 0:=⟨_,rfl⟩
     rw [← hx] at hcx hx0 hx1
     have HX:=Lib.hid hx
     clear hx hxm hkt
     have ha:=andNot63 x hx0 (by omega)
     by_cases hin : 128 ≤ x ∧ x < 192
     ·have hy : bits BinOp.andNot IntKind.u8 x 63 = 128:=by omega
      have hz2:=and63 x hx0 (by omega)
      have ho:=or_i32 u (x % 64) hu0 (by omega) (by omega) (by omega)
      clear ha
      go_wp2_with fail
      exact ⟨⟨k + 1,_,by omega,by go_num,rfl,contC_next HCC.out HKT.out HX.out hin,by omega,by have h:=hub.out;clear hy hz2 ho;unfold Hid;omega⟩,by simp [intOf];omega⟩
     ·have hy : ((x - x % 64 : Int) != 128) = true:=by rw [bne_iff_ne];omega
      have hy2 : ((x - x % 64 : Int) == 128) = false:=by rw [beq_eq_false_iff_ne];omega
      have hfin:=@dec_cont c t
      rw [HN.out,HV.out] at hfin
      have HD:=Lib.hid (hfin hn0 (by have:=HTL.out;omega) (contC_stop HCC.out HKT.out hlt HX.out hin))
      clear hfin hin
      go_wp2_with fail
      go_ret3
      exact ⟨hb1,by rw [HD.out];rfl⟩
    ·obtain rfl : k = n - 1:=by omega
     have hl2:=Lib.hid (HL.out.below hb1 HL.out.size)
     have hfin:=@dec_not c t u
     have hfin2:=@dec_yes c t u
     rw [HN.out,HV.out] at hfin hfin2
     have HF:=Lib.hid hfin
     have HF2:=Lib.hid hfin2
     clear hfin hfin2
     cases hic : isC u with
     | false=>
      have HIC:=Lib.hid hic
      clear hic
      go_wp2_with fail
      refine (is_any u _ hl2.out).mono ?_
      rintro e w2 ⟨rfl,hb2⟩
      rw [HIC.out]
      go_wp2_with fail
      go_ret3
      exact ⟨th hb1 (Nat.le_refl _) hb2,by rw [HF.out hn0 (by have:=HTL.out;omega) HCC.out (by rw [HIC.out];simp)];rfl⟩
     | true=>
      have HIC:=Lib.hid hic
      clear hic
      obtain ⟨q,hq⟩ : ∃ q,sizeC u = q:=⟨_,rfl⟩
      have HQ:=Lib.hid hq
      clear hq
      by_cases hqn : q = n
      ·subst hqn
       go_wp2_with fail
       refine (is_any u _ hl2.out).mono ?_
       rintro e w2 ⟨rfl,hb2⟩
       rw [HIC.out]
       go_wp2_with fail
       refine (size_is u _ _ (hl2.out.below hb2 hl2.out.size) HQ.out).mono ?_
       rintro e w3 ⟨rfl,rfl⟩
       go_wp2_with fail
       go_ret3
       exact ⟨th hb1 (Nat.le_refl _) hb2,by rw [HF2.out hn0 (by have:=HTL.out;omega) HCC.out HIC.out HQ.out];rfl⟩
      ·have hne : ((q : Int) != n) = true:=by rw [bne_iff_ne];omega
       have hne2 : ((q : Int) == n) = false:=by rw [beq_eq_false_iff_ne];omega
       have HQN:=Lib.hid hqn
       clear hqn
       go_wp2_with fail
       refine (is_any u _ hl2.out).mono ?_
       rintro e w2 ⟨rfl,hb2⟩
       rw [HIC.out]
       go_wp2_with fail
       refine (size_is u _ _ (hl2.out.below hb2 hl2.out.size) HQ.out).mono ?_
       rintro e w3 ⟨rfl,rfl⟩
       go_wp2_with fail
       go_ret3
       exact ⟨th hb1 (Nat.le_refl _) hb2,by rw [HF.out hn0 (by have:=HTL.out;omega) HCC.out (by rw [HQ.out];exact fun h=>HQN.out h.2)];rfl⟩
open Go.RowKit
set_option maxHeartbeats 1000000 in
theorem walk_check (b off len cap : Nat) (zs : List Int) (w : World) (hl : Lay w) (hzl : zs.length = len) (hcap : len ≤ cap) (hb : ∀ z ∈ zs,0 ≤ z ∧ z ≤ 255)
  (hcell : ∀ i,i < len → w.cell? ⟨b,off + i,none⟩ = some (.int .u8 (zs[i]?.getD 0))) (hlen : len ≤ 140737488351232) (hbw : b < w.heap.size) :
  Calls Tryz.prog 99 #[.slice (some ⟨b,off,none⟩) len cap,.func (.func 100) #[] #[]] w fun e w'=>e = .returned (.int .i64 (chkC zs)) ∧ Below w.heap.size w w':=by
 have HL:=Lib.hid hl
 have HZ:=Lib.hid hzl
 have HB:=Lib.hid hb
 have HC:=Lib.hid hcell
 clear hl hzl hb hcell
 go_enter Tryz.func99,Tryz.ntmps99
 go_wp2_with fail
 go_step3
 go_wp2_with fail
 go_step3
 go_wp2_with fail
 go_loopw [5] (fun i wr=>∃ p : Nat,p ≤ len ∧ i = .int .i64 p ∧ Hid (p + chkC (zs.drop p) = chkC zs) ∧ Below w.heap.size w wr)
  (fun i _=>len - (intOf i).toNat)
 case atStart=>exact ⟨0,by omega,rfl,by unfold Hid;simp,Below.refl _ _⟩
 case round=>
  obtain ⟨p,hp,rfl,hch,hB⟩:=hrel
  have hlay:=Lib.hid (HL.out.below hB HL.out.size)
  by_cases hlt : p < len
  ·have hc2 : ∀ i,i < len → wr.cell? ⟨b,off + i,none⟩ = some (.int .u8 (zs[i]?.getD 0)):=fun i hi=>(hB.cell (p:=⟨b,off + i,none⟩) hbw).trans (HC.out i hi)
   have HC2:=Lib.hid hc2
   clear hc2
   have HBe:=Lib.hid hB
   clear hB
   go_wp2_with fail
   refine (decode_in b off len cap p zs _ hlay.out HZ.out hcap HB.out HC2.out hlen hlt).mono ?_
   rintro e w2 ⟨hb2,he⟩
   cases hd : decC (zs.drop p) with
   | none=>
    rw [hd] at he
    subst he
    have HD:=Lib.hid (chkC_none hd)
    clear hd
    go_wp2
    rw [Exit.noGoto_ret]
    go_ret
    exact ⟨by have:=hch.out;rw [HD.out] at this;rw [← this];rfl,HBe.out.trans (hb2.mono HBe.out.size)⟩
   | some x=>
    obtain ⟨r,n⟩:=x
    rw [hd] at he
    subst he
    have HS:=decC_some hd
    have HD:=Lib.hid (chkC_some hd)
    clear hd
    have hln : p + n ≤ len:=by
     have h3:=HS.2.2.1
     have h4:=HZ.out
     simp only [List.length_drop] at h3
     omega
    have hn1:=HS.1
    have HSS:=Lib.hid HS
    clear HS
    go_wp2
    exact ⟨⟨p + n,by omega,by go_num,by have:=hch.out;unfold Hid;rw [HD.out,List.drop_drop] at this;omega,th HBe.out (Nat.le_refl _) hb2⟩,by simp [intOf];omega⟩
  ·obtain rfl : p = len:=by omega
   go_wp2
   rw [Exit.noGoto_ret]
   go_ret
   exact ⟨by have:=hch.out;rw [List.drop_of_length_le (by have:=HZ.out;omega),chkC_nil] at this;rw [← this];rfl,hB⟩
open Go.RowKit
structure Byt (w : World) (a : Option Addr) (len cap : Nat) (zs : List Int) : Prop where
 eqLen : zs.length = len
 leCap : len ≤ cap
 lim : len ≤ 140737488351232
 byte : ∀ z ∈ zs,0 ≤ z ∧ z ≤ 255
 cells : 0 < len → ∃ b off,a = some ⟨b,off,none⟩ ∧ ∀ i,i < len → w.cell? ⟨b,off + i,none⟩ = some (.int .u8 (zs[i]?.getD 0))
theorem Byt.below {w w' : World} {a : Option Addr} {len cap : Nat} {zs : List Int} {B : Nat} (h : Byt w a len cap zs) (hb : Below B w w') (hB : w.heap.size ≤ B) : Byt w' a len cap zs:=by
 refine ⟨h.eqLen,h.leCap,h.lim,h.byte,fun h0=>?_⟩
 obtain ⟨b,off,ha,hc⟩:=h.cells h0
 refine ⟨b,off,ha,fun i hi=>?_⟩
 have h1:=hc i hi
 have h2 : b < w.heap.size:=by simpa using block_lt_of_cell h1
 exact (hb.cell (p:=⟨b,off + i,none⟩) (by simp;omega)).trans h1
def chkE (zs : List Int) : Int:=if chkC zs < zs.length then 10 else 0
set_option maxHeartbeats 1000000 in
theorem walk_zero (a : Option Addr) (cap : Nat) (f : Value) (w : World) : Calls Tryz.prog 99 #[.slice a 0 cap,f] w fun e w'=>e = .returned (.int .i64 0) ∧ w = w':=by
 go_enter Tryz.func99,Tryz.ntmps99
 go_wp2_with fail
 go_step3
 go_wp2_with fail
 go_step3
 go_wp2_with fail
 refine wp_loop_rounds 1 ?_
 rw [rounds_succ]
 go_wp2
 rw [Exit.noGoto_ret]
 go_ret
 exact ⟨rfl,rfl⟩
set_option maxHeartbeats 1000000 in
theorem check_any (a : Option Addr) (len cap : Nat) (zs : List Int) (w : World) (hl : Lay w) (hz : Byt w a len cap zs) :
  Calls Tryz.prog 55 #[.slice a len cap] w fun e w'=>e = .returned (.tuple #[.int .i64 (chkC zs),.int .i64 (chkE zs)]) ∧ Below w.heap.size w w':=by
 have HL:=Lib.hid hl
 have hlim:=hz.lim
 have HLN:=Lib.hid hz.eqLen
 have hle:=chkC_le zs
 rw [hz.eqLen] at hle
 by_cases h0 : len = 0
 ·have HZ : zs = []:=List.eq_nil_of_length_eq_zero (by rw [hz.eqLen];exact h0)
  subst HZ
  subst h0
  clear hz hle
  go_enter Tryz.func55,Tryz.ntmps55
  go_wp2_with fail
  refine (walk_zero a cap _ _).mono ?_
  rintro e w2 ⟨rfl,rfl⟩
  go_wp2
  go_ret2
  exact ⟨rfl,Below.refl _ _⟩
 ·obtain ⟨b,off,rfl,hc⟩:=hz.cells (by omega)
  have hbw : b < w.heap.size:=by simpa using block_lt_of_cell (hc 0 (by omega))
  have HC:=Lib.hid hc
  have HZ:=Lib.hid hz
  clear hz hc hl
  by_cases hlt : chkC zs < len
  ·have HE:=Lib.hid (show chkE zs = 10 by unfold chkE;rw [HLN.out,if_pos hlt])
   go_enter Tryz.func55,Tryz.ntmps55
   go_wp2_with fail
   refine (walk_check b off len cap zs _ HL.out HLN.out HZ.out.leCap HZ.out.byte HC.out hlim hbw).mono ?_
   rintro e w2 ⟨rfl,hb2⟩
   go_wp2
   go_ret2
   exact ⟨by rw [HE.out];rfl,hb2⟩
  ·have HE:=Lib.hid (show chkE zs = 0 by unfold chkE;rw [HLN.out,if_neg hlt])
   go_enter Tryz.func55,Tryz.ntmps55
   go_wp2_with fail
   refine (walk_check b off len cap zs _ HL.out HLN.out HZ.out.leCap HZ.out.byte HC.out hlim hbw).mono ?_
   rintro e w2 ⟨rfl,hb2⟩
   go_wp2
   go_ret2
   exact ⟨by rw [HE.out];rfl,hb2⟩
open Go.RowKit
def valC (s : Nat) (c0 c1 c2 c3 : Int) : Int:=
 if s = 1 then c0 else if s = 2 then 64 * (c0 - 192) + c1 - 128 else if s = 3 then 64 * (64 * (c0 - 224) + c1 - 128) + c2 - 128 else 64 * (64 * (64 * (c0 - 240) + c1 - 128) + c2 - 128) + c3 - 128
theorem runes_len' (l : List Int) : (runesC l).length ≤ l.length:=by
 obtain ⟨m,hm⟩ : ∃ m,l.length ≤ m:=⟨_,Nat.le_refl _⟩
 induction m generalizing l with
 | zero=>
  obtain rfl : l = []:=List.eq_nil_of_length_eq_zero (by omega)
  exact Nat.le_refl _
 | succ m ih=>
  cases h : decC l with
  | none=>rw [runesC_none h];simp
  | some x=>
   obtain ⟨r,n⟩:=x
   have hs:=decC_some h
   rw [runesC_some h]
   have:=ih (l.drop n) (by simp;omega)
   simp only [List.length_drop,List.length_cons] at this ⊢
   omega
open Go.RowKit
def RefPost (r : Int) (w : World) (e : Ending) (w' : World) : Prop:=
 ∃ g,e = .returned (.slice (some ⟨g,0,none⟩) (encC r).length (encC r).length) ∧ (∀ j u,((encC r).map (Value.int .u8))[j]? = some u → w'.cell? ((⟨g,0,none⟩ : Addr).add j) = some u) ∧ Below w.heap.size w w'
open Go.RowKit
open Go.RowKit
def ReadPost (x : Option (Int × Nat)) (w : World) (e : Ending) (w' : World) : Prop:=
 Below w.heap.size w w' ∧ match x with
  | some (r,n)=>e = .returned (.tuple #[.int .i64 r,.int .i64 n])
  | none=>e = .returned (.tuple #[.int .i64 0,.int .i64 0])
def Same (a l : List Int) (q : Bool) (j : Nat) : Prop:=q = true ↔ a.take j = l.take j
open Go.RowKit
def RefAllPost (zs : List Int) (w : World) (e : Ending) (w' : World) : Prop:=
 ∃ v,e = .returned (.tuple #[v,.int .i64 (chkC zs)]) ∧ w'.ownsRow w.heap.size 3 1 v (runesC zs).length ((runesC zs).map (Value.int .i64)) ∧ Below w.heap.size w w'
def Far (zs pre : List Int) (p : Nat) : Prop:=pre ++ runesC (zs.drop p) = runesC zs ∧ p + chkC (zs.drop p) = chkC zs
structure LayS (w : World) : Prop where
 lay : Lay w
 syn : ∃ te pe,w.cell? ⟨5,0,none⟩ = some (.iface te pe)
theorem LayS.size {w : World} (h : LayS w) : 6 ≤ w.heap.size:=by
 have h0:=h.lay.size
 obtain ⟨_,_,h1⟩:=h.syn
 have:=block_lt_of_cell h1
 simp at this
 omega
theorem LayS.below {w w' : World} {B : Nat} (h : LayS w) (hb : Below B w w') (hB : 6 ≤ B) : LayS w':=by
 refine ⟨h.lay.below hb (by omega),?_⟩
 obtain ⟨te,pe,h1⟩:=h.syn
 exact ⟨te,pe,(hb.cell (p:=⟨5,0,none⟩) (by simp;omega)).trans h1⟩
theorem bytes_below (w : World) (s : ByteArray) : Below w.heap.size w (Lib.bytesWorld w 5 s):=
 ⟨rfl,rfl,rfl,by rw [Lib.bytesWorld_size];omega,fun j hj=>Lib.bytesWorld_at_old w 5 s j hj⟩
theorem bytes_byt (w : World) (s : ByteArray) (hs : s.size ≤ 140737488351232) : Byt (Lib.bytesWorld w 5 s) (some ⟨w.heap.size,0,none⟩) s.size (grownCap w s.size 0 5) (ints (bts s)):=by
 refine ⟨by rw [ints_len,bts_len],?_,hs,?_,fun h0=>⟨_,_,rfl,fun i hi=>?_⟩⟩
 ·exact grownCap_ge w s.size 0 5
 ·intro z hz
  unfold ints at hz
  obtain ⟨b,_,rfl⟩:=List.mem_map.1 hz
  have:=b.toNat_lt
  omega
 ·have:=Lib.bytesWorld_cell w 5 s i hi
  rw [Nat.zero_add,this]
  unfold ints bts
  rw [List.getElem?_map,List.getD_eq_getElem?_getD]
  cases h : s.data.toList[i]? with
  | none=>rfl
  | some b=>rfl
theorem conv_any (w : World) (s : ByteArray) : (convert 9 22 (.string s)).run Tryz.prog w = .ok (.slice (some ⟨w.heap.size,0,none⟩) s.size (grownCap w s.size 0 5)) (Lib.bytesWorld w 5 s):=
 Lib.run_convert_string_bytes (P:=Tryz.prog) w 9 22 5 s (u:=.string) Tryz.underlying9 Tryz.underlying22 Tryz.underlying5
set_option maxHeartbeats 1000000 in
theorem ncheck_any (s : ByteArray) (w : World) (hl : Lay w) (hs : s.size ≤ 140737488351232) :
  Calls Tryz.prog 47 #[.string s] w fun e w'=>e = .returned (.int .i64 (chkE (ints (bts s)))) ∧ Below w.heap.size w w':=by
 have hcv:=conv_any w s
 have hB:=bytes_below w s
 have HZ:=Lib.hid (bytes_byt w s hs)
 have HL:=Lib.hid (hl.below hB hl.size)
 generalize Lib.bytesWorld w 5 s = w1 at hcv hB HZ HL
 have HB:=Lib.hid hB
 clear hB hl hs
 go_enter Tryz.func47,Tryz.ntmps47
 go_wp2_with fail
 refine (check_any _ _ _ _ _ HL.out HZ.out).mono ?_
 rintro e w2 ⟨rfl,hb⟩
 go_wp2
 go_ret
 exact ⟨rfl,HB.out.trans (hb.mono HB.out.size)⟩
end Go.Proofs.YtjldpkhfiffinaaGreatDoor.U
