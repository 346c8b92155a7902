/- Contracts and plain facts that the law stands on: T1, Q3, Q4, Q5. -/
import Derived.Test.YtjldpkhfiffinaaGreatDoorZC01
import Derived.Test.YtjldpkhfiffinaaGreatDoorZC02
import Derived.Test.YtjldpkhfiffinaaGreatDoorZC03
import Derived.Test.YtjldpkhfiffinaaGreatDoorZC04
import Derived.Test.YtjldpkhfiffinaaGreatDoorZC05
import Derived.Test.YtjldpkhfiffinaaGreatDoorZC06
import Derived.Test.YtjldpkhfiffinaaGreatDoorZC07
import Derived.Test.YtjldpkhfiffinaaGreatDoorZC08
import Derived.Test.YtjldpkhfiffinaaGreatDoorZC09
import Derived.Test.YtjldpkhfiffinaaGreatDoorZC10
import Derived.Test.YtjldpkhfiffinaaGreatDoorZC11
import Derived.Test.YtjldpkhfiffinaaGreatDoorZC12
import Derived.Test.YtjldpkhfiffinaaGreatDoorZC13
import Derived.Test.YtjldpkhfiffinaaGreatDoorZC14
import Derived.Test.YtjldpkhfiffinaaGreatDoorZC15
import Derived.Test.YtjldpkhfiffinaaGreatDoorZC16
import Derived.Test.YtjldpkhfiffinaaGreatDoorZC17
import Derived.Test.YtjldpkhfiffinaaGreatDoorZC18
import Derived.Test.YtjldpkhfiffinaaGreatDoorZC19
import Derived.Test.YtjldpkhfiffinaaGreatDoorZC20
import Derived.Test.YtjldpkhfiffinaaGreatDoorZC21
import Derived.Test.YtjldpkhfiffinaaGreatDoorZC22
import Derived.Test.YtjldpkhfiffinaaGreatDoorZC23
import Derived.Test.YtjldpkhfiffinaaGreatDoorZC24
import Derived.Test.YtjldpkhfiffinaaGreatDoorZC25
import Derived.Test.YtjldpkhfiffinaaGreatDoorZC26
import Derived.Test.YtjldpkhfiffinaaGreatDoorZC27
import Derived.Test.YtjldpkhfiffinaaGreatDoorZC28
import Derived.Test.YtjldpkhfiffinaaGreatDoorZC29
import Derived.Test.YtjldpkhfiffinaaGreatDoorZC30
import Derived.Test.YtjldpkhfiffinaaGreatDoorZC31
import Derived.Test.YtjldpkhfiffinaaGreatDoorZC32
import Derived.Test.YtjldpkhfiffinaaGreatDoorZC33
import Derived.Test.YtjldpkhfiffinaaGreatDoorZC34
import Derived.Test.YtjldpkhfiffinaaGreatDoorZCPr
import Derived.Below
import Derived.Laws.RangeAny
import Derived.WalkLawsBesides
import Derived.Lib.RuneBytes
import Derived.Lib.Strings
import Derived.Lib.Bytealg
import Derived.RowKit3
import Derived.Test.YtjldpkhfiffinaaGreatDoorRows
import Derived.WalkKit
import Derived.WalkSpells
import Derived.Lib.Hide
import Derived.Laws.Rows
import Derived.Deep.DeepMust
import Derived.Deep.RegionLaw
import Derived.Maps.AppendAt
import Derived.BigRegion
import Derived.RangeFuncBox
import Derived.BigQuiet
import Derived.Deep.QuietTactic
import Derived.Lib.OthersKept
import Derived.BigCall
import Derived.Shelf.Abstract
import Derived.Lib.ConvBytes
import Derived.Shelf.Strings.Builder1
import Derived.Shelf.Strings.Builder2
import Derived.Shelf.Small.Strs
import Derived.Shelf.Small.Wraps
import Derived.Shelf.Strings.BuilderF
import Derived.Shelf.Strings.BuilderK
import Derived.Shelf.Strings.BuilderRune
import Derived.Ground.MpProg
import Derived.Shelf.Pu.ParseUintPublic10
import Derived.Shelf.Strings.Search1
import Derived.Shelf.Strings.Search2
import Derived.Shelf.Strings.Search3
import Derived.Shelf.Strings.Cut
import Derived.Shelf.Strings.Count
import Derived.Shelf.LaysM
import Derived.Shelf.Strings.Shaped
import Derived.Shelf.Strings.Prefix
import Derived.Shelf.Strings.Split
import Derived.Shelf.Strings.Replace
import Derived.Shelf.Strings.SplitShaped
import Derived.Shelf.Unicode.DecodeSlow
import Derived.Lib.Walk
import Derived.Laws.Strings3
import Derived.Laws.Closers25
import Derived.Laws.Closers25b
import Derived.BigGuard
import Derived.Shelf.Pu.ToError
import Derived.Laws.IdiomStrings
import Derived.Laws.BytesArg
namespace Go.Proofs.YtjldpkhfiffinaaGreatDoor.U
theorem stepsK_append : ∀ (a b : List Tr),stepsK (a ++ b) = stepsK a ++ stepsK b:=by
 intro a
 induction a with
 | nil=>intro b;simp [stepsK]
 | cons t r ih=>intro b;simp [stepsK,ih]
theorem stepsK_one (t : Tr) : stepsK [t] = stepsT t:=by simp [stepsK]
open Go.RowKit
theorem own_below {w w' : World} {base : Nat} {e : TypeId} {size : Nat} {v : Value} {n : Nat} {xs : List Value} (h : w.ownsRow base e size v n xs) (hb : Below w.heap.size w w') : w'.ownsRow base e size v n xs:=
 h.kept (row:=none) ⟨hb.os,hb.tape,hb.output,hb.size,fun k hk _=>hb.block k hk⟩ (by cases v.ownBlock <;> simp)
open Go.RowKit
open Go.RowKit
open Go.RowKit
open Go.RowKit
open Go.RowKit
theorem read_yes {l : List Int} {n : Int} {s : Nat} (hs : s ≤ l.length) (hn : isC n = true) (h : encC n = l.take s) : decC l = some (n,s):=by
 have e : l = encC n ++ l.drop s:=by rw [h,List.take_append_drop]
 have h2:=dec_enc hn (l.drop s)
 rw [← e] at h2
 have h3 : sizeC n = s:=by rw [← encC_len,h];simp;omega
 rw [h2,h3]
theorem get_take {l : List Int} {s i : Nat} (h : i < s) : (l.take s)[i]?.getD 0 = l[i]?.getD 0:=by rw [List.getElem?_take_of_lt h]
theorem read_val {l : List Int} {r : Int} {s : Nat} (h : decC l = some (r,s)) : valC s (l[0]?.getD 0) (l[1]?.getD 0) (l[2]?.getD 0) (l[3]?.getD 0) = r:=by
 have hs:=decC_some h
 have hb:=isC_bounds hs.2.2.2.1
 have he:=enc_dec h
 have hz:=hs.2.2.2.2
 by_cases k1 : r < 128
 ·rw [sizeC_1 k1] at hz;subst hz
  have g0:=get_take (l:=l) (s:=1) (i:=0) (by omega)
  rw [he,encC_1 k1] at g0
  rw [← g0];rfl
 ·by_cases k2 : r < 2048
  ·rw [sizeC_2 (by omega) k2] at hz;subst hz
   have g0:=get_take (l:=l) (s:=2) (i:=0) (by omega)
   have g1:=get_take (l:=l) (s:=2) (i:=1) (by omega)
   rw [he,encC_2 (by omega) k2] at g0 g1
   rw [← g0,← g1]
   simp only [valC,List.getElem?_cons_zero,List.getElem?_cons_succ,Option.getD_some]
   rw [if_neg (by omega),if_pos trivial];omega
  ·by_cases k3 : r < 65536
   ·rw [sizeC_3 (by omega) k3] at hz;subst hz
    have g0:=get_take (l:=l) (s:=3) (i:=0) (by omega)
    have g1:=get_take (l:=l) (s:=3) (i:=1) (by omega)
    have g2:=get_take (l:=l) (s:=3) (i:=2) (by omega)
    rw [he,encC_3 (by omega) k3] at g0 g1 g2
    rw [← g0,← g1,← g2]
    simp only [valC,List.getElem?_cons_zero,List.getElem?_cons_succ,Option.getD_some]
    rw [if_neg (by omega),if_neg (by omega),if_pos trivial];omega
   ·rw [sizeC_4 (by omega)] at hz;subst hz
    have g0:=get_take (l:=l) (s:=4) (i:=0) (by omega)
    have g1:=get_take (l:=l) (s:=4) (i:=1) (by omega)
    have g2:=get_take (l:=l) (s:=4) (i:=2) (by omega)
    have g3:=get_take (l:=l) (s:=4) (i:=3) (by omega)
    rw [he,encC_4 (by omega)] at g0 g1 g2 g3
    rw [← g0,← g1,← g2,← g3]
    simp only [valC,List.getElem?_cons_zero,List.getElem?_cons_succ,Option.getD_some]
    rw [if_neg (by omega),if_neg (by omega),if_neg (by omega)];omega
theorem read_no {l : List Int} {s : Nat} {n : Int} (hv : valC s (l[0]?.getD 0) (l[1]?.getD 0) (l[2]?.getD 0) (l[3]?.getD 0) = n) (h : isC n = false ∨ encC n ≠ l.take s) (r : Int) : decC l ≠ some (r,s):=by
 intro hd
 have h1:=read_val hd
 rw [hv] at h1
 subst h1
 rcases h with h | h
 ·rw [(decC_some hd).2.2.2.1] at h;cases h
 ·exact h (enc_dec hd).symm
open Go.RowKit
theorem cells_new (w : World) (cs : List Value) (t : TypeId) : ∀ j u,cs[j]? = some u → (w.alloc (.cells cs.toArray t)).cell? ((⟨w.heap.size,0,none⟩ : Addr).add j) = some u:=by
 intro j u hj
 have e : (⟨w.heap.size,0,none⟩ : Addr).add j = ⟨w.heap.size,j,none⟩:=by unfold Addr.add;split <;> simp_all
 rw [e,World.cell?_alloc_new]
 simpa using hj
set_option maxHeartbeats 1000000 in
theorem refBytes_1 (r : Int) (w : World) (h0 : 9 ≤ r) (h1 : r < 128) : Calls Tryz.prog 64 #[.int .i64 r] w fun e w'=>RefPost r w e w':=by
 have HE:=Lib.hid (encC_1 h1)
 have hw0 : IntKind.u8.wrap (r) = r:=wrap_u8_in _ (by omega) (by omega)
 go_enter Tryz.func64,Tryz.ntmps64
 go_wp2
 go_ret
 exact ⟨w.heap.size,by rw [HE.out];rfl,by rw [HE.out];exact cells_new w _ _,(Below.refl _ _).alloc (Nat.le_refl _) _⟩
set_option maxHeartbeats 1000000 in
theorem refBytes_2 (r : Int) (w : World) (h0 : 128 ≤ r) (h1 : r < 2048) : Calls Tryz.prog 64 #[.int .i64 r] w fun e w'=>RefPost r w e w':=by
 have HE:=Lib.hid (encC_2 h0 h1)
 have hw0 : IntKind.u8.wrap (192 + r / 64) = 192 + r / 64:=wrap_u8_in _ (by omega) (by omega)
 have hw1 : IntKind.u8.wrap (128 + r % 64) = 128 + r % 64:=wrap_u8_in _ (by omega) (by omega)
 go_enter Tryz.func64,Tryz.ntmps64
 go_wp2
 go_ret
 exact ⟨w.heap.size,by rw [HE.out];rfl,by rw [HE.out];exact cells_new w _ _,(Below.refl _ _).alloc (Nat.le_refl _) _⟩
set_option maxHeartbeats 1000000 in
theorem refBytes_3 (r : Int) (w : World) (h0 : 2048 ≤ r) (h1 : r < 65536) : Calls Tryz.prog 64 #[.int .i64 r] w fun e w'=>RefPost r w e w':=by
 have HE:=Lib.hid (encC_3 h0 h1)
 have hw0 : IntKind.u8.wrap (224 + r / 4096) = 224 + r / 4096:=wrap_u8_in _ (by omega) (by omega)
 have hw1 : IntKind.u8.wrap (128 + r / 64 % 64) = 128 + r / 64 % 64:=wrap_u8_in _ (by omega) (by omega)
 have hw2 : IntKind.u8.wrap (128 + r % 64) = 128 + r % 64:=wrap_u8_in _ (by omega) (by omega)
 go_enter Tryz.func64,Tryz.ntmps64
 go_wp2
 go_ret
 exact ⟨w.heap.size,by rw [HE.out];rfl,by rw [HE.out];exact cells_new w _ _,(Below.refl _ _).alloc (Nat.le_refl _) _⟩
set_option maxHeartbeats 1000000 in
theorem refBytes_4 (r : Int) (w : World) (h0 : 65536 ≤ r) (h1 : r < 2097152) : Calls Tryz.prog 64 #[.int .i64 r] w fun e w'=>RefPost r w e w':=by
 have HE:=Lib.hid (encC_4 h0)
 have hw0 : IntKind.u8.wrap (240 + r / 262144) = 240 + r / 262144:=wrap_u8_in _ (by omega) (by omega)
 have hw1 : IntKind.u8.wrap (128 + r / 4096 % 64) = 128 + r / 4096 % 64:=wrap_u8_in _ (by omega) (by omega)
 have hw2 : IntKind.u8.wrap (128 + r / 64 % 64) = 128 + r / 64 % 64:=wrap_u8_in _ (by omega) (by omega)
 have hw3 : IntKind.u8.wrap (128 + r % 64) = 128 + r % 64:=wrap_u8_in _ (by omega) (by omega)
 go_enter Tryz.func64,Tryz.ntmps64
 go_wp2
 go_ret
 exact ⟨w.heap.size,by rw [HE.out];rfl,by rw [HE.out];exact cells_new w _ _,(Below.refl _ _).alloc (Nat.le_refl _) _⟩
theorem refBytes_any (r : Int) (w : World) (hr : isC r = true) : Calls Tryz.prog 64 #[.int .i64 r] w fun e w'=>RefPost r w e w':=by
 have hb:=isC_bounds hr
 by_cases h1 : r < 128
 ·exact refBytes_1 r w (by omega) h1
 ·by_cases h2 : r < 2048
  ·exact refBytes_2 r w (by omega) h2
  ·by_cases h3 : r < 65536
   ·exact refBytes_3 r w (by omega) h3
   ·exact refBytes_4 r w (by omega) (by omega)
open Go.RowKit
set_option maxHeartbeats 1000000 in
theorem refIs_any (n : Int) (w : World) : Calls Tryz.prog 63 #[.int .i64 n] w fun e w'=>e = .returned (.bool (isC n)) ∧ w = w':=by
 rcases (show n < 9 ∨ (9 ≤ n ∧ n ≤ 9) ∨ (10 ≤ n ∧ n ≤ 10) ∨ (10 < n ∧ n < 13) ∨ (13 ≤ n ∧ n ≤ 13) ∨ (13 < n ∧ n < 32) ∨ (32 ≤ n ∧ n ≤ 55295) ∨ (55295 < n ∧ n < 57344) ∨ (57344 ≤ n ∧ n ≤ 65533) ∨ (65533 < n ∧ n < 65536) ∨ (65536 ≤ n ∧ n ≤ 1114111) ∨ 1114111 < n by omega) with h | ⟨h,h'⟩ | ⟨h,h'⟩ | ⟨h,h'⟩ | ⟨h,h'⟩ | ⟨h,h'⟩ | ⟨h,h'⟩ | ⟨h,h'⟩ | ⟨h,h'⟩ | ⟨h,h'⟩ | ⟨h,h'⟩ | h
 all_goals
  first
  | (have HC:=Lib.hid (isC_yes (r:=n) (by omega)))
  | (have HC:=Lib.hid (isC_no (r:=n) (by omega)))
 all_goals
  go_enter Tryz.func63,Tryz.ntmps63
  go_wp2
  go_ret
  exact ⟨by rw [HC.out];first | rfl | (simp;done) | (simp;omega),rfl⟩
open Go.RowKit
theorem no_more {l : List Int} {k : Nat} (h : ∀ s' r,s' < k → decC l ≠ some (r,s')) (h' : ∀ r,decC l ≠ some (r,k)) : ∀ s' r,s' < k + 1 → decC l ≠ some (r,s'):=by
 intro s' r hs
 by_cases he : s' = k
 ·subst he;exact h' r
 ·exact h s' r (by omega)
theorem take_next {a l : List Int} {j : Nat} (h : (true = true) → a.take j = l.take j) (ha : j < a.length) (hl : j < l.length) : true = true → (a.take (j + 1) = l.take (j + 1) ↔ a[j]?.getD 0 = l[j]?.getD 0):=by
 intro _
 rw [List.take_succ_eq_append_getElem ha,List.take_succ_eq_append_getElem hl,h rfl,List.getElem?_eq_getElem ha,List.getElem?_eq_getElem hl]
 simp only [Option.getD_some]
 exact ⟨fun e=>by have:=List.append_cancel_left e;simpa using this,fun e=>by rw [e]⟩
theorem read_none {l : List Int} {k : Nat} (h : ∀ s' r,s' < k → decC l ≠ some (r,s')) (h' : ∀ r n,decC l = some (r,n) → n < k) : decC l = none:=by
 cases hd : decC l with
 | none=>rfl
 | some x=>
  obtain ⟨r,n⟩:=x
  exact absurd hd (h n r (h' r n hd))
set_option maxRecDepth 100000 in
set_option maxHeartbeats 8000000 in
theorem read_any (b off len cap : Nat) (l : List Int) (w : World) (hll : l.length = len) (h0 : 0 < len) (hb : ∀ z ∈ l,0 ≤ z ∧ z ≤ 255)
  (hcell : ∀ i,i < len → w.cell? ⟨b,off + i,none⟩ = some (.int .u8 (l[i]?.getD 0))) (hlen : len ≤ 140737488351232) :
  Calls Tryz.prog 32 #[.slice (some ⟨b,off,none⟩) len cap] w fun e w'=>ReadPost (decC l) w e w':=by
 have HL:=Lib.hid hll
 have HB:=Lib.hid hb
 have HC:=Lib.hid hcell
 have hbw : b < w.heap.size:=by simpa using block_lt_of_cell (hcell 0 h0)
 obtain ⟨c0,hc0⟩ : ∃ c,l[0]?.getD 0 = c:=⟨_,rfl⟩
 obtain ⟨c1,hc1⟩ : ∃ c,l[1]?.getD 0 = c:=⟨_,rfl⟩
 obtain ⟨c2,hc2⟩ : ∃ c,l[2]?.getD 0 = c:=⟨_,rfl⟩
 obtain ⟨c3,hc3⟩ : ∃ c,l[3]?.getD 0 = c:=⟨_,rfl⟩
 have hbd : ∀ i : Nat,0 ≤ l[i]?.getD 0 ∧ l[i]?.getD 0 ≤ 255:=by
  intro i
  by_cases hi : i < l.length
  ·rw [List.getElem?_eq_getElem hi];exact hb _ (List.getElem_mem hi)
  ·rw [List.getElem?_eq_none (by omega)];simp
 have hb0:=hbd 0
 have hb1:=hbd 1
 have hb2:=hbd 2
 have hb3:=hbd 3
 rw [hc0] at hb0
 rw [hc1] at hb1
 rw [hc2] at hb2
 rw [hc3] at hb3
 have H0:=Lib.hid hc0
 have H1:=Lib.hid hc1
 have H2:=Lib.hid hc2
 have H3:=Lib.hid hc3
 clear hll hb hcell hbd hc0 hc1 hc2 hc3
 go_enter Tryz.func32,Tryz.ntmps32
 go_wp2_with fail
 go_loopw [4] (fun s wr=>∃ k : Nat,1 ≤ k ∧ k ≤ 5 ∧ s = .int .i64 k ∧ Hid (∀ s' r,s' < k → decC l ≠ some (r,s')) ∧ Below w.heap.size w wr)
  (fun s _=>5 - (intOf s).toNat)
 case atStart=>exact ⟨1,by omega,by omega,rfl,by unfold Hid;intro s' r hs h;have:=decC_some h;omega,Below.refl _ _⟩
 case round=>
  obtain ⟨k,hk1,hk5,rfl,hno,hB⟩:=hrel
  have hcw : ∀ i,i < len → wr.cell? ⟨b,off + i,none⟩ = some (.int .u8 (l[i]?.getD 0)):=fun i hi=>(hB.cell (p:=⟨b,off + i,none⟩) hbw).trans (HC.out i hi)
  have x0 : wr.cell? ⟨b,off,none⟩ = some (.int .u8 c0):=by have:=hcw 0 h0;rw [H0.out] at this;simpa using this
  have x1 : 1 < len → wr.cell? ⟨b,off + 1,none⟩ = some (.int .u8 c1):=fun h=>by have:=hcw 1 h;rw [H1.out] at this;exact this
  have x2 : 2 < len → wr.cell? ⟨b,off + 2,none⟩ = some (.int .u8 c2):=fun h=>by have:=hcw 2 h;rw [H2.out] at this;exact this
  have x3 : 3 < len → wr.cell? ⟨b,off + 3,none⟩ = some (.int .u8 c3):=fun h=>by have:=hcw 3 h;rw [H3.out] at this;exact this
  have HCW:=Lib.hid hcw
  clear hcw
  rcases (show k = 1 ∨ k = 2 ∨ k = 3 ∨ k = 4 ∨ k = 5 by omega) with rfl | rfl | rfl | rfl | rfl
  ·rw [show ((1 : Nat) : Int) = 1 from rfl]
   by_cases hl1 : 1 ≤ len
   ·have d2 : decide ((1 : Int) ≤ len) = true:=by simp;omega
    clear x1 x2 x3
    have HV:=Lib.hid (show valC 1 (l[0]?.getD 0) (l[1]?.getD 0) (l[2]?.getD 0) (l[3]?.getD 0) = c0 from H0.out)
    obtain ⟨n,hn⟩ : ∃ n,c0 = n:=⟨_,rfl⟩
    have HN:=Lib.hid hn
    rw [hn] at HV
    clear hn
    go_wp2_with fail
    refine wp_loop_rounds 1 ?_
    rw [rounds_succ]
    go_wp2_with fail
    refine (refIs_any c0 _).mono ?_
    rintro e w2 ⟨rfl,rfl⟩
    obtain ⟨wo,hwo⟩ : ∃ wo : World,wo = wr:=⟨_,rfl⟩
    subst hwo
    rw [HN.out]
    cases hic : isC n with
    | false=>
     have HNO:=Lib.hid (no_more hno.out (read_no HV.out (.inl hic)))
     clear hic
     go_wp2_with fail
     exact ⟨⟨2,by omega,by omega,rfl,HNO.out,hB⟩,by simp [intOf]⟩
    | true=>
     have HIC:=Lib.hid hic
     have hml:=encC_len n
     obtain ⟨m,hm⟩ : ∃ m,(encC n).length = m:=⟨_,rfl⟩
     have HM:=Lib.hid hm
     have hm4 : 1 ≤ m ∧ m ≤ 4:=by rw [← hm,hml];unfold sizeC;repeat' split
                                  all_goals omega
     clear hic hml hm
     go_wp2_with fail
     refine (refBytes_any n _ HIC.out).mono ?_
     rintro e w3 ⟨g,rfl,hcs,hb3⟩
     rw [HM.out]
     have hBx:=th hB (Nat.le_refl _) hb3
     have hgl : g < w3.heap.size:=by
      have h3:=hcs 0 (.int .u8 ((encC n)[0]'(by rw [HM.out];omega))) (by rw [List.getElem?_map,List.getElem?_eq_getElem (by rw [HM.out];omega)];rfl)
      have h4:=block_lt_of_cell h3
      unfold Addr.add at h4
      split at h4 <;> simp_all
     have HGL:=Lib.hid hgl
     have HCS:=Lib.hid hcs
     have HBX:=Lib.hid hBx
     have HB3:=Lib.hid hb3
     clear hcs hBx hB hb3 hgl
     by_cases hms : m = 1
     ·have HMS:=Lib.hid hms
      subst hms
      have hee : (((1 : Nat) : Int) == 1) = true:=by simp
      go_wp2_with fail
      go_loopw [8,9] (fun sm i wr=>∃ (q : Bool) (j : Nat),j ≤ 1 ∧ i = .int .i64 j ∧ sm = .bool q ∧ Same (encC n) l q j ∧ Below w3.heap.size w3 wr)
       (fun _ i _=>1 - (intOf i).toNat)
      case atStart=>exact ⟨true,0,by omega,rfl,rfl,by unfold Same;simp,Below.refl _ _⟩
      case round=>
       obtain ⟨q,j,hj,rfl,rfl,hq,hBr⟩:=hrel
       cases q with
       | false=>
        have HNO:=Lib.hid (no_more hno.out (read_no HV.out (.inr (fun h=>by
         have h1:=hq.2 (by rw [h,List.take_take,Nat.min_eq_left hj])
         cases h1))))
        have HBZ:=Lib.hid (th HBX.out (Nat.le_refl _) hBr)
        clear hBr
        go_wp2_with fail
        all_goals exact ⟨⟨2,by omega,by omega,rfl,HNO.out,HBZ.out⟩,by simp [intOf]⟩
       | true=>
        by_cases hjk : j < 1
        ·obtain ⟨y,hy⟩ : ∃ y,(encC n)[j]?.getD 0 = y:=⟨_,rfl⟩
         obtain ⟨z,hz⟩ : ∃ z,l[j]?.getD 0 = z:=⟨_,rfl⟩
         have hjm : j < (encC n).length:=by rw [HM.out];exact hjk
         have hjl : j < l.length:=by rw [HL.out];omega
         have cx : wr.cell? ⟨g,j,none⟩ = some (.int .u8 y):=by
          have h1:=HCS.out j (.int .u8 y) (by rw [List.getElem?_map,List.getElem?_eq_getElem hjm,← hy,List.getElem?_eq_getElem hjm];rfl)
          have e : (⟨g,0,none⟩ : Addr).add j = ⟨g,j,none⟩:=by unfold Addr.add;split <;> simp_all
          rw [e] at h1
          exact (hBr.cell (p:=⟨g,j,none⟩) HGL.out).trans h1
         have cb : wr.cell? ⟨b,off + j,none⟩ = some (.int .u8 z):=by
          have h1:=HC.out j (by omega)
          rw [hz] at h1
          exact ((HBX.out.trans (hBr.mono HBX.out.size)).cell (p:=⟨b,off + j,none⟩) hbw).trans h1
         have hnext:=take_next hq.1 hjm hjl
         rw [hy,hz] at hnext
         have HNX:=Lib.hid hnext
         have i0 : (0 : Int) ≤ j:=by omega
         have i1 : (j : Int) < 1:=by omega
         have i2 : (j : Int) < len:=by omega
         have HBR:=Lib.hid hBr
         clear hy hz hjm hjl hnext hBr
         by_cases hyz : y = z
         ·subst hyz
          have hyy : (y == y) = true:=by simp
          have HQ : Same (encC n) l true (j + 1):=⟨fun _=>(HNX.out rfl).2 rfl,fun _=>rfl⟩
          go_wp2_with fail
          go_quiet (fail)
          go_wp2
          exact ⟨⟨true,j + 1,by omega,by go_num,rfl,HQ,below_drewN HBR.out _⟩,by simp [intOf];omega⟩
         ·have hyy : (y == z) = false:=by rw [beq_eq_false_iff_ne];exact hyz
          have HQ : Same (encC n) l false (j + 1):=⟨fun h=>(by cases h),fun h=>absurd ((HNX.out rfl).1 h) hyz⟩
          clear hyz
          go_wp2_with fail
          go_quiet (fail)
          go_wp2
          exact ⟨⟨false,j + 1,by omega,by go_num,rfl,HQ,below_drewN HBR.out _⟩,by simp [intOf];omega⟩
        ·obtain rfl : j = 1:=by omega
         have HD:=Lib.hid (read_yes (l:=l) (n:=n) (s:=1) (by rw [HL.out];omega) HIC.out (by
          have h1:=hq.1 rfl
          rw [List.take_of_length_le (by rw [HM.out];omega)] at h1
          exact h1))
         have HBZ:=Lib.hid (th HBX.out (Nat.le_refl _) hBr)
         clear hBr
         go_wp2_with fail
         go_ret2
         exact ⟨HBZ.out,by rw [HD.out];rfl⟩
     ·have hee : ((m : Int) == 1) = false:=by rw [beq_eq_false_iff_ne];omega
      have HNO:=Lib.hid (no_more hno.out (read_no HV.out (.inr (fun h=>by have h1:=congrArg List.length h;rw [HM.out,List.length_take,HL.out] at h1;omega))))
      clear hms
      go_wp2_with fail
      refine wp_loop_rounds 1 ?_
      rw [rounds_succ]
      go_wp2_with fail
      exact ⟨⟨2,by omega,by omega,rfl,HNO.out,HBX.out⟩,by simp [intOf]⟩
   ·have HD:=Lib.hid (read_none hno.out (fun r n h=>by have:=decC_some h;have:=HL.out;omega))
    have d2 : decide ((1 : Int) ≤ len) = false:=by simp;omega
    clear x1 x2 x3
    go_wp2_with fail
    go_ret2
    exact ⟨hB,by rw [HD.out];rfl⟩
  ·rw [show ((2 : Nat) : Int) = 2 from rfl]
   by_cases hl2 : 2 ≤ len
   ·have d2 : decide ((2 : Int) ≤ len) = true:=by simp;omega
    have x1':=x1 (by omega)
    clear x1 x2 x3
    obtain ⟨n,hn⟩ : ∃ n,64 * (c0 - 192) + c1 - 128 = n:=⟨_,rfl⟩
    have HV:=Lib.hid (show valC 2 (l[0]?.getD 0) (l[1]?.getD 0) (l[2]?.getD 0) (l[3]?.getD 0) = n by rw [H0.out,H1.out,H2.out,H3.out];exact hn)
    have HN:=Lib.hid hn
    clear hn
    go_wp2_with fail
    refine wp_loop_rounds 2 ?_
    rw [rounds_succ]
    go_wp2_with fail
    rw [rounds_succ]
    go_wp2_with fail
    rw [HN.out]
    refine (refIs_any n _).mono ?_
    rintro e w2 ⟨rfl,rfl⟩
    obtain ⟨wo,hwo⟩ : ∃ wo : World,wo = wr:=⟨_,rfl⟩
    subst hwo
    cases hic : isC n with
    | false=>
     have HNO:=Lib.hid (no_more hno.out (read_no HV.out (.inl hic)))
     clear hic
     go_wp2_with fail
     exact ⟨⟨3,by omega,by omega,rfl,HNO.out,hB⟩,by simp [intOf]⟩
    | true=>
     have HIC:=Lib.hid hic
     have hml:=encC_len n
     obtain ⟨m,hm⟩ : ∃ m,(encC n).length = m:=⟨_,rfl⟩
     have HM:=Lib.hid hm
     have hm4 : 1 ≤ m ∧ m ≤ 4:=by rw [← hm,hml];unfold sizeC;repeat' split
                                  all_goals omega
     clear hic hml hm
     go_wp2_with fail
     refine (refBytes_any n _ HIC.out).mono ?_
     rintro e w3 ⟨g,rfl,hcs,hb3⟩
     rw [HM.out]
     have hBx:=th hB (Nat.le_refl _) hb3
     have hgl : g < w3.heap.size:=by
      have h3:=hcs 0 (.int .u8 ((encC n)[0]'(by rw [HM.out];omega))) (by rw [List.getElem?_map,List.getElem?_eq_getElem (by rw [HM.out];omega)];rfl)
      have h4:=block_lt_of_cell h3
      unfold Addr.add at h4
      split at h4 <;> simp_all
     have HGL:=Lib.hid hgl
     have HCS:=Lib.hid hcs
     have HBX:=Lib.hid hBx
     have HB3:=Lib.hid hb3
     clear hcs hBx hB hb3 hgl
     by_cases hms : m = 2
     ·have HMS:=Lib.hid hms
      subst hms
      have hee : (((2 : Nat) : Int) == 2) = true:=by simp
      go_wp2_with fail
      go_loopw [8,9] (fun sm i wr=>∃ (q : Bool) (j : Nat),j ≤ 2 ∧ i = .int .i64 j ∧ sm = .bool q ∧ Same (encC n) l q j ∧ Below w3.heap.size w3 wr)
       (fun _ i _=>2 - (intOf i).toNat)
      case atStart=>exact ⟨true,0,by omega,rfl,rfl,by unfold Same;simp,Below.refl _ _⟩
      case round=>
       obtain ⟨q,j,hj,rfl,rfl,hq,hBr⟩:=hrel
       cases q with
       | false=>
        have HNO:=Lib.hid (no_more hno.out (read_no HV.out (.inr (fun h=>by
         have h1:=hq.2 (by rw [h,List.take_take,Nat.min_eq_left hj])
         cases h1))))
        have HBZ:=Lib.hid (th HBX.out (Nat.le_refl _) hBr)
        clear hBr
        go_wp2_with fail
        all_goals exact ⟨⟨3,by omega,by omega,rfl,HNO.out,HBZ.out⟩,by simp [intOf]⟩
       | true=>
        by_cases hjk : j < 2
        ·obtain ⟨y,hy⟩ : ∃ y,(encC n)[j]?.getD 0 = y:=⟨_,rfl⟩
         obtain ⟨z,hz⟩ : ∃ z,l[j]?.getD 0 = z:=⟨_,rfl⟩
         have hjm : j < (encC n).length:=by rw [HM.out];exact hjk
         have hjl : j < l.length:=by rw [HL.out];omega
         have cx : wr.cell? ⟨g,j,none⟩ = some (.int .u8 y):=by
          have h1:=HCS.out j (.int .u8 y) (by rw [List.getElem?_map,List.getElem?_eq_getElem hjm,← hy,List.getElem?_eq_getElem hjm];rfl)
          have e : (⟨g,0,none⟩ : Addr).add j = ⟨g,j,none⟩:=by unfold Addr.add;split <;> simp_all
          rw [e] at h1
          exact (hBr.cell (p:=⟨g,j,none⟩) HGL.out).trans h1
         have cb : wr.cell? ⟨b,off + j,none⟩ = some (.int .u8 z):=by
          have h1:=HC.out j (by omega)
          rw [hz] at h1
          exact ((HBX.out.trans (hBr.mono HBX.out.size)).cell (p:=⟨b,off + j,none⟩) hbw).trans h1
         have hnext:=take_next hq.1 hjm hjl
         rw [hy,hz] at hnext
         have HNX:=Lib.hid hnext
         have i0 : (0 : Int) ≤ j:=by omega
         have i1 : (j : Int) < 2:=by omega
         have i2 : (j : Int) < len:=by omega
         have HBR:=Lib.hid hBr
         clear hy hz hjm hjl hnext hBr
         by_cases hyz : y = z
         ·subst hyz
          have hyy : (y == y) = true:=by simp
          have HQ : Same (encC n) l true (j + 1):=⟨fun _=>(HNX.out rfl).2 rfl,fun _=>rfl⟩
          go_wp2_with fail
          go_quiet (fail)
          go_wp2
          exact ⟨⟨true,j + 1,by omega,by go_num,rfl,HQ,below_drewN HBR.out _⟩,by simp [intOf];omega⟩
         ·have hyy : (y == z) = false:=by rw [beq_eq_false_iff_ne];exact hyz
          have HQ : Same (encC n) l false (j + 1):=⟨fun h=>(by cases h),fun h=>absurd ((HNX.out rfl).1 h) hyz⟩
          clear hyz
          go_wp2_with fail
          go_quiet (fail)
          go_wp2
          exact ⟨⟨false,j + 1,by omega,by go_num,rfl,HQ,below_drewN HBR.out _⟩,by simp [intOf];omega⟩
        ·obtain rfl : j = 2:=by omega
         have HD:=Lib.hid (read_yes (l:=l) (n:=n) (s:=2) (by rw [HL.out];omega) HIC.out (by
          have h1:=hq.1 rfl
          rw [List.take_of_length_le (by rw [HM.out];omega)] at h1
          exact h1))
         have HBZ:=Lib.hid (th HBX.out (Nat.le_refl _) hBr)
         clear hBr
         go_wp2_with fail
         go_ret2
         exact ⟨HBZ.out,by rw [HD.out];rfl⟩
     ·have hee : ((m : Int) == 2) = false:=by rw [beq_eq_false_iff_ne];omega
      have HNO:=Lib.hid (no_more hno.out (read_no HV.out (.inr (fun h=>by have h1:=congrArg List.length h;rw [HM.out,List.length_take,HL.out] at h1;omega))))
      clear hms
      go_wp2_with fail
      refine wp_loop_rounds 1 ?_
      rw [rounds_succ]
      go_wp2_with fail
      exact ⟨⟨3,by omega,by omega,rfl,HNO.out,HBX.out⟩,by simp [intOf]⟩
   ·have HD:=Lib.hid (read_none hno.out (fun r n h=>by have:=decC_some h;have:=HL.out;omega))
    have d2 : decide ((2 : Int) ≤ len) = false:=by simp;omega
    clear x1 x2 x3
    go_wp2_with fail
    go_ret2
    exact ⟨hB,by rw [HD.out];rfl⟩
  ·rw [show ((3 : Nat) : Int) = 3 from rfl]
   by_cases hl3 : 3 ≤ len
   ·have d2 : decide ((3 : Int) ≤ len) = true:=by simp;omega
    have x1':=x1 (by omega)
    have x2':=x2 (by omega)
    clear x1 x2 x3
    obtain ⟨n,hn⟩ : ∃ n,64 * (64 * (c0 - 224) + c1 - 128) + c2 - 128 = n:=⟨_,rfl⟩
    have HV:=Lib.hid (show valC 3 (l[0]?.getD 0) (l[1]?.getD 0) (l[2]?.getD 0) (l[3]?.getD 0) = n by rw [H0.out,H1.out,H2.out,H3.out];exact hn)
    have HN:=Lib.hid hn
    clear hn
    go_wp2_with fail
    refine wp_loop_rounds 3 ?_
    rw [rounds_succ]
    go_wp2_with fail
    rw [rounds_succ]
    go_wp2_with fail
    rw [rounds_succ]
    go_wp2_with fail
    rw [HN.out]
    refine (refIs_any n _).mono ?_
    rintro e w2 ⟨rfl,rfl⟩
    obtain ⟨wo,hwo⟩ : ∃ wo : World,wo = wr:=⟨_,rfl⟩
    subst hwo
    cases hic : isC n with
    | false=>
     have HNO:=Lib.hid (no_more hno.out (read_no HV.out (.inl hic)))
     clear hic
     go_wp2_with fail
     exact ⟨⟨4,by omega,by omega,rfl,HNO.out,hB⟩,by simp [intOf]⟩
    | true=>
     have HIC:=Lib.hid hic
     have hml:=encC_len n
     obtain ⟨m,hm⟩ : ∃ m,(encC n).length = m:=⟨_,rfl⟩
     have HM:=Lib.hid hm
     have hm4 : 1 ≤ m ∧ m ≤ 4:=by rw [← hm,hml];unfold sizeC;repeat' split
                                  all_goals omega
     clear hic hml hm
     go_wp2_with fail
     refine (refBytes_any n _ HIC.out).mono ?_
     rintro e w3 ⟨g,rfl,hcs,hb3⟩
     rw [HM.out]
     have hBx:=th hB (Nat.le_refl _) hb3
     have hgl : g < w3.heap.size:=by
      have h3:=hcs 0 (.int .u8 ((encC n)[0]'(by rw [HM.out];omega))) (by rw [List.getElem?_map,List.getElem?_eq_getElem (by rw [HM.out];omega)];rfl)
      have h4:=block_lt_of_cell h3
      unfold Addr.add at h4
      split at h4 <;> simp_all
     have HGL:=Lib.hid hgl
     have HCS:=Lib.hid hcs
     have HBX:=Lib.hid hBx
     have HB3:=Lib.hid hb3
     clear hcs hBx hB hb3 hgl
     by_cases hms : m = 3
     ·have HMS:=Lib.hid hms
      subst hms
      have hee : (((3 : Nat) : Int) == 3) = true:=by simp
      go_wp2_with fail
      go_loopw [8,9] (fun sm i wr=>∃ (q : Bool) (j : Nat),j ≤ 3 ∧ i = .int .i64 j ∧ sm = .bool q ∧ Same (encC n) l q j ∧ Below w3.heap.size w3 wr)
       (fun _ i _=>3 - (intOf i).toNat)
      case atStart=>exact ⟨true,0,by omega,rfl,rfl,by unfold Same;simp,Below.refl _ _⟩
      case round=>
       obtain ⟨q,j,hj,rfl,rfl,hq,hBr⟩:=hrel
       cases q with
       | false=>
        have HNO:=Lib.hid (no_more hno.out (read_no HV.out (.inr (fun h=>by
         have h1:=hq.2 (by rw [h,List.take_take,Nat.min_eq_left hj])
         cases h1))))
        have HBZ:=Lib.hid (th HBX.out (Nat.le_refl _) hBr)
        clear hBr
        go_wp2_with fail
        all_goals exact ⟨⟨4,by omega,by omega,rfl,HNO.out,HBZ.out⟩,by simp [intOf]⟩
       | true=>
        by_cases hjk : j < 3
        ·obtain ⟨y,hy⟩ : ∃ y,(encC n)[j]?.getD 0 = y:=⟨_,rfl⟩
         obtain ⟨z,hz⟩ : ∃ z,l[j]?.getD 0 = z:=⟨_,rfl⟩
         have hjm : j < (encC n).length:=by rw [HM.out];exact hjk
         have hjl : j < l.length:=by rw [HL.out];omega
         have cx : wr.cell? ⟨g,j,none⟩ = some (.int .u8 y):=by
          have h1:=HCS.out j (.int .u8 y) (by rw [List.getElem?_map,List.getElem?_eq_getElem hjm,← hy,List.getElem?_eq_getElem hjm];rfl)
          have e : (⟨g,0,none⟩ : Addr).add j = ⟨g,j,none⟩:=by unfold Addr.add;split <;> simp_all
          rw [e] at h1
          exact (hBr.cell (p:=⟨g,j,none⟩) HGL.out).trans h1
         have cb : wr.cell? ⟨b,off + j,none⟩ = some (.int .u8 z):=by
          have h1:=HC.out j (by omega)
          rw [hz] at h1
          exact ((HBX.out.trans (hBr.mono HBX.out.size)).cell (p:=⟨b,off + j,none⟩) hbw).trans h1
         have hnext:=take_next hq.1 hjm hjl
         rw [hy,hz] at hnext
         have HNX:=Lib.hid hnext
         have i0 : (0 : Int) ≤ j:=by omega
         have i1 : (j : Int) < 3:=by omega
         have i2 : (j : Int) < len:=by omega
         have HBR:=Lib.hid hBr
         clear hy hz hjm hjl hnext hBr
         by_cases hyz : y = z
         ·subst hyz
          have hyy : (y == y) = true:=by simp
          have HQ : Same (encC n) l true (j + 1):=⟨fun _=>(HNX.out rfl).2 rfl,fun _=>rfl⟩
          go_wp2_with fail
          go_quiet (fail)
          go_wp2
          exact ⟨⟨true,j + 1,by omega,by go_num,rfl,HQ,below_drewN HBR.out _⟩,by simp [intOf];omega⟩
         ·have hyy : (y == z) = false:=by rw [beq_eq_false_iff_ne];exact hyz
          have HQ : Same (encC n) l false (j + 1):=⟨fun h=>(by cases h),fun h=>absurd ((HNX.out rfl).1 h) hyz⟩
          clear hyz
          go_wp2_with fail
          go_quiet (fail)
          go_wp2
          exact ⟨⟨false,j + 1,by omega,by go_num,rfl,HQ,below_drewN HBR.out _⟩,by simp [intOf];omega⟩
        ·obtain rfl : j = 3:=by omega
         have HD:=Lib.hid (read_yes (l:=l) (n:=n) (s:=3) (by rw [HL.out];omega) HIC.out (by
          have h1:=hq.1 rfl
          rw [List.take_of_length_le (by rw [HM.out];omega)] at h1
          exact h1))
         have HBZ:=Lib.hid (th HBX.out (Nat.le_refl _) hBr)
         clear hBr
         go_wp2_with fail
         go_ret2
         exact ⟨HBZ.out,by rw [HD.out];rfl⟩
     ·have hee : ((m : Int) == 3) = false:=by rw [beq_eq_false_iff_ne];omega
      have HNO:=Lib.hid (no_more hno.out (read_no HV.out (.inr (fun h=>by have h1:=congrArg List.length h;rw [HM.out,List.length_take,HL.out] at h1;omega))))
      clear hms
      go_wp2_with fail
      refine wp_loop_rounds 1 ?_
      rw [rounds_succ]
      go_wp2_with fail
      exact ⟨⟨4,by omega,by omega,rfl,HNO.out,HBX.out⟩,by simp [intOf]⟩
   ·have HD:=Lib.hid (read_none hno.out (fun r n h=>by have:=decC_some h;have:=HL.out;omega))
    have d2 : decide ((3 : Int) ≤ len) = false:=by simp;omega
    clear x1 x2 x3
    go_wp2_with fail
    go_ret2
    exact ⟨hB,by rw [HD.out];rfl⟩
  ·rw [show ((4 : Nat) : Int) = 4 from rfl]
   by_cases hl4 : 4 ≤ len
   ·have d2 : decide ((4 : Int) ≤ len) = true:=by simp;omega
    have x1':=x1 (by omega)
    have x2':=x2 (by omega)
    have x3':=x3 (by omega)
    clear x1 x2 x3
    obtain ⟨n,hn⟩ : ∃ n,64 * (64 * (64 * (c0 - 240) + c1 - 128) + c2 - 128) + c3 - 128 = n:=⟨_,rfl⟩
    have HV:=Lib.hid (show valC 4 (l[0]?.getD 0) (l[1]?.getD 0) (l[2]?.getD 0) (l[3]?.getD 0) = n by rw [H0.out,H1.out,H2.out,H3.out];exact hn)
    have HN:=Lib.hid hn
    clear hn
    go_wp2_with fail
    refine wp_loop_rounds 4 ?_
    rw [rounds_succ]
    go_wp2_with fail
    rw [rounds_succ]
    go_wp2_with fail
    rw [rounds_succ]
    go_wp2_with fail
    rw [rounds_succ]
    go_wp2_with fail
    rw [HN.out]
    refine (refIs_any n _).mono ?_
    rintro e w2 ⟨rfl,rfl⟩
    obtain ⟨wo,hwo⟩ : ∃ wo : World,wo = wr:=⟨_,rfl⟩
    subst hwo
    cases hic : isC n with
    | false=>
     have HNO:=Lib.hid (no_more hno.out (read_no HV.out (.inl hic)))
     clear hic
     go_wp2_with fail
     exact ⟨⟨5,by omega,by omega,rfl,HNO.out,hB⟩,by simp [intOf]⟩
    | true=>
     have HIC:=Lib.hid hic
     have hml:=encC_len n
     obtain ⟨m,hm⟩ : ∃ m,(encC n).length = m:=⟨_,rfl⟩
     have HM:=Lib.hid hm
     have hm4 : 1 ≤ m ∧ m ≤ 4:=by rw [← hm,hml];unfold sizeC;repeat' split
                                  all_goals omega
     clear hic hml hm
     go_wp2_with fail
     refine (refBytes_any n _ HIC.out).mono ?_
     rintro e w3 ⟨g,rfl,hcs,hb3⟩
     rw [HM.out]
     have hBx:=th hB (Nat.le_refl _) hb3
     have hgl : g < w3.heap.size:=by
      have h3:=hcs 0 (.int .u8 ((encC n)[0]'(by rw [HM.out];omega))) (by rw [List.getElem?_map,List.getElem?_eq_getElem (by rw [HM.out];omega)];rfl)
      have h4:=block_lt_of_cell h3
      unfold Addr.add at h4
      split at h4 <;> simp_all
     have HGL:=Lib.hid hgl
     have HCS:=Lib.hid hcs
     have HBX:=Lib.hid hBx
     have HB3:=Lib.hid hb3
     clear hcs hBx hB hb3 hgl
     by_cases hms : m = 4
     ·have HMS:=Lib.hid hms
      subst hms
      have hee : (((4 : Nat) : Int) == 4) = true:=by simp
      go_wp2_with fail
      go_loopw [8,9] (fun sm i wr=>∃ (q : Bool) (j : Nat),j ≤ 4 ∧ i = .int .i64 j ∧ sm = .bool q ∧ Same (encC n) l q j ∧ Below w3.heap.size w3 wr)
       (fun _ i _=>4 - (intOf i).toNat)
      case atStart=>exact ⟨true,0,by omega,rfl,rfl,by unfold Same;simp,Below.refl _ _⟩
      case round=>
       obtain ⟨q,j,hj,rfl,rfl,hq,hBr⟩:=hrel
       cases q with
       | false=>
        have HNO:=Lib.hid (no_more hno.out (read_no HV.out (.inr (fun h=>by
         have h1:=hq.2 (by rw [h,List.take_take,Nat.min_eq_left hj])
         cases h1))))
        have HBZ:=Lib.hid (th HBX.out (Nat.le_refl _) hBr)
        clear hBr
        go_wp2_with fail
        all_goals exact ⟨⟨5,by omega,by omega,rfl,HNO.out,HBZ.out⟩,by simp [intOf]⟩
       | true=>
        by_cases hjk : j < 4
        ·obtain ⟨y,hy⟩ : ∃ y,(encC n)[j]?.getD 0 = y:=⟨_,rfl⟩
         obtain ⟨z,hz⟩ : ∃ z,l[j]?.getD 0 = z:=⟨_,rfl⟩
         have hjm : j < (encC n).length:=by rw [HM.out];exact hjk
         have hjl : j < l.length:=by rw [HL.out];omega
         have cx : wr.cell? ⟨g,j,none⟩ = some (.int .u8 y):=by
          have h1:=HCS.out j (.int .u8 y) (by rw [List.getElem?_map,List.getElem?_eq_getElem hjm,← hy,List.getElem?_eq_getElem hjm];rfl)
          have e : (⟨g,0,none⟩ : Addr).add j = ⟨g,j,none⟩:=by unfold Addr.add;split <;> simp_all
          rw [e] at h1
          exact (hBr.cell (p:=⟨g,j,none⟩) HGL.out).trans h1
         have cb : wr.cell? ⟨b,off + j,none⟩ = some (.int .u8 z):=by
          have h1:=HC.out j (by omega)
          rw [hz] at h1
          exact ((HBX.out.trans (hBr.mono HBX.out.size)).cell (p:=⟨b,off + j,none⟩) hbw).trans h1
         have hnext:=take_next hq.1 hjm hjl
         rw [hy,hz] at hnext
         have HNX:=Lib.hid hnext
         have i0 : (0 : Int) ≤ j:=by omega
         have i1 : (j : Int) < 4:=by omega
         have i2 : (j : Int) < len:=by omega
         have HBR:=Lib.hid hBr
         clear hy hz hjm hjl hnext hBr
         by_cases hyz : y = z
         ·subst hyz
          have hyy : (y == y) = true:=by simp
          have HQ : Same (encC n) l true (j + 1):=⟨fun _=>(HNX.out rfl).2 rfl,fun _=>rfl⟩
          go_wp2_with fail
          go_quiet (fail)
          go_wp2
          exact ⟨⟨true,j + 1,by omega,by go_num,rfl,HQ,below_drewN HBR.out _⟩,by simp [intOf];omega⟩
         ·have hyy : (y == z) = false:=by rw [beq_eq_false_iff_ne];exact hyz
          have HQ : Same (encC n) l false (j + 1):=⟨fun h=>(by cases h),fun h=>absurd ((HNX.out rfl).1 h) hyz⟩
          clear hyz
          go_wp2_with fail
          go_quiet (fail)
          go_wp2
          exact ⟨⟨false,j + 1,by omega,by go_num,rfl,HQ,below_drewN HBR.out _⟩,by simp [intOf];omega⟩
        ·obtain rfl : j = 4:=by omega
         have HD:=Lib.hid (read_yes (l:=l) (n:=n) (s:=4) (by rw [HL.out];omega) HIC.out (by
          have h1:=hq.1 rfl
          rw [List.take_of_length_le (by rw [HM.out];omega)] at h1
          exact h1))
         have HBZ:=Lib.hid (th HBX.out (Nat.le_refl _) hBr)
         clear hBr
         go_wp2_with fail
         go_ret2
         exact ⟨HBZ.out,by rw [HD.out];rfl⟩
     ·have hee : ((m : Int) == 4) = false:=by rw [beq_eq_false_iff_ne];omega
      have HNO:=Lib.hid (no_more hno.out (read_no HV.out (.inr (fun h=>by have h1:=congrArg List.length h;rw [HM.out,List.length_take,HL.out] at h1;omega))))
      clear hms
      go_wp2_with fail
      refine wp_loop_rounds 1 ?_
      rw [rounds_succ]
      go_wp2_with fail
      exact ⟨⟨5,by omega,by omega,rfl,HNO.out,HBX.out⟩,by simp [intOf]⟩
   ·have HD:=Lib.hid (read_none hno.out (fun r n h=>by have:=decC_some h;have:=HL.out;omega))
    have d2 : decide ((4 : Int) ≤ len) = false:=by simp;omega
    clear x1 x2 x3
    go_wp2_with fail
    go_ret2
    exact ⟨hB,by rw [HD.out];rfl⟩
  ·have HD:=Lib.hid (read_none hno.out (fun r n h=>by have:=decC_some h;omega))
   rw [show ((5 : Nat) : Int) = 5 from rfl]
   clear x1 x2 x3
   go_wp2_with fail
   go_ret2
   exact ⟨hB,by rw [HD.out];rfl⟩
open Go.RowKit
theorem info3 : (Tryz.prog.info? 3).map (fun i=>(i.zero,i.size,i.bytes)) = some (some (.int .i64 0),1,8):=by kernel_rfl
set_option maxHeartbeats 1000000 in
theorem refBlank_any (c : Int) (w : World) : Calls Tryz.prog 71 #[.int .u8 c] w fun e w'=>e = .returned (.bool (blankI c)) ∧ w = w':=by
 rcases (show c = 9 ∨ c = 10 ∨ c = 13 ∨ c = 32 ∨ (c ≠ 9 ∧ c ≠ 10 ∧ c ≠ 13 ∧ c ≠ 32) by omega) with h | h | h | h | ⟨h,h1,h2,h3⟩
 all_goals
  first
   | (have hv : blankI c = true:=by (simp only [blankI,decide_eq_true_eq];omega)
      rw [hv];clear hv)
   | (have hv : blankI c = false:=by (simp only [blankI,decide_eq_false_iff_not];omega)
      rw [hv];clear hv)
  first | subst h | skip
  go_enter Tryz.func71,Tryz.ntmps71
  go_wp2
  go_ret
  refine ⟨?_,rfl⟩
  first | rfl | (simp;done) | (simp;omega)
set_option maxHeartbeats 1000000 in
theorem digit_any (c : Int) (h0 : 0 ≤ c) (h1 : c < 256) (w : World) : Calls Tryz.prog 165 #[.int .u8 c] w fun e w'=>e = .returned (.int .i64 (digV c)) ∧ w = w':=by
 rcases (show c < 48 ∨ (48 ≤ c ∧ c ≤ 57) ∨ (58 ≤ c ∧ c < 65) ∨ (65 ≤ c ∧ c ≤ 70) ∨ (71 ≤ c ∧ c < 97) ∨ (97 ≤ c ∧ c ≤ 102) ∨ 102 < c by omega) with h | ⟨h,h'⟩ | ⟨h,h'⟩ | ⟨h,h'⟩ | ⟨h,h'⟩ | ⟨h,h'⟩ | h
 ·rw [digV_4 (by omega)]
  go_enter Tryz.func165,Tryz.ntmps165
  go_wp2
  go_ret
  exact ⟨rfl,rfl⟩
 ·rw [digV_1 (by omega)]
  go_enter Tryz.func165,Tryz.ntmps165
  go_wp2
  go_ret
  exact ⟨by first | rfl | (simp;omega),rfl⟩
 ·rw [digV_4 (by omega)]
  go_enter Tryz.func165,Tryz.ntmps165
  go_wp2
  go_ret
  exact ⟨rfl,rfl⟩
 ·rw [digV_3 (by omega)]
  go_enter Tryz.func165,Tryz.ntmps165
  go_wp2
  go_ret
  exact ⟨by first | rfl | (simp;omega),rfl⟩
 ·rw [digV_4 (by omega)]
  go_enter Tryz.func165,Tryz.ntmps165
  go_wp2
  go_ret
  exact ⟨rfl,rfl⟩
 ·rw [digV_2 (by omega)]
  go_enter Tryz.func165,Tryz.ntmps165
  go_wp2
  go_ret
  exact ⟨by first | rfl | (simp;omega),rfl⟩
 ·rw [digV_4 (by omega)]
  go_enter Tryz.func165,Tryz.ntmps165
  go_wp2
  go_ret
  exact ⟨rfl,rfl⟩
theorem allL_snoc (p : Int → Bool) (l : List UInt8) (b : UInt8) : allL p (l ++ [b]) = (allL p l && p b.toNat):=by simp [allL]
theorem name_step (s : ByteArray) (k : Nat) (hlt : k < s.size) (ha : allL namedI ((bts s).take k) = true) (hb : allL letterI (((bts s).take k).take 1) = true) (hn : namedI (s[k]'hlt).toNat = true) (hl : k = 0 → letterI (s[k]'hlt).toNat = true) :
  allL namedI ((bts s).take (k + 1)) = true ∧ allL letterI (((bts s).take (k + 1)).take 1) = true:=by
 rw [bts_take s k hlt,allL_snoc,ha,hn]
 refine ⟨rfl,?_⟩
 by_cases h : k = 0
 ·subst h
  simpa [allL] using hl rfl
 ·rw [List.take_append_of_le_length (by rw [List.length_take,bts_len];omega)]
  exact hb
theorem name_no (s : ByteArray) (k : Nat) (hlt : k < s.size) (h : namedI (s[k]'hlt).toNat = false ∨ (k = 0 ∧ letterI (s[k]'hlt).toNat = false)) : nameL (bts s) = false:=by
 rcases h with h | ⟨rfl,h⟩
 ·unfold nameL;rw [allL_false s k hlt h];simp
 ·have : allL letterI ((bts s).take 1) = false:=by rw [bts_take s 0 hlt,allL_snoc,h];simp
  unfold nameL;rw [this];simp
theorem name_end (s : ByteArray) (ha : allL namedI (bts s) = true) (hb : allL letterI ((bts s).take 1) = true) : nameL (bts s) = decide (1 ≤ s.size ∧ s.size ≤ 64):=by
 unfold nameL;rw [ha,hb,bts_len];simp
set_option maxHeartbeats 4000000 in
theorem refIsN_any (s : ByteArray) (w : World) (hs : s.size ≤ 1000000) : Calls Tryz.prog 37 #[.string s] w fun e w'=>e = .returned (.bool (nameL (bts s))) ∧ Below w.heap.size w w':=by
 go_enter Tryz.func37,Tryz.ntmps37
 go_wp2_with fail
 go_loopw [3] (fun i wr=>∃ k : Nat,k ≤ s.size ∧ i = .int .i64 k ∧ Below w.heap.size w wr ∧ allL namedI ((bts s).take k) = true ∧ allL letterI (((bts s).take k).take 1) = true) (fun i _=>s.size - (intOf i).toNat)
 case atStart=>exact ⟨0,by omega,rfl,Below.refl _ _,rfl,rfl⟩
 case round=>
  obtain ⟨k,hk,rfl,hB,ha,hb⟩:=hrel
  by_cases hlt : k < s.size
  ·by_cases hk0 : k = 0
   ·subst hk0
    rcases (show ((s[0]'hlt).toNat < 45) ∨ ((s[0]'hlt).toNat = 45) ∨ ((s[0]'hlt).toNat = 46) ∨ ((s[0]'hlt).toNat = 47) ∨ (48 ≤ (s[0]'hlt).toNat ∧ (s[0]'hlt).toNat ≤ 57) ∨ (58 ≤ (s[0]'hlt).toNat ∧ (s[0]'hlt).toNat ≤ 64) ∨ (65 ≤ (s[0]'hlt).toNat ∧ (s[0]'hlt).toNat ≤ 90) ∨ (91 ≤ (s[0]'hlt).toNat ∧ (s[0]'hlt).toNat ≤ 94) ∨ ((s[0]'hlt).toNat = 95) ∨ ((s[0]'hlt).toNat = 96) ∨ (97 ≤ (s[0]'hlt).toNat ∧ (s[0]'hlt).toNat ≤ 122) ∨ (122 < (s[0]'hlt).toNat) by omega) with h1 | h1 | h1 | h1 | ⟨h1,h2⟩ | ⟨h1,h2⟩ | ⟨h1,h2⟩ | ⟨h1,h2⟩ | h1 | h1 | ⟨h1,h2⟩ | h1
    ·have HN:=Lib.hid (name_no s 0 hlt (.inr ⟨rfl,by simp only [letterI,decide_eq_false_iff_not];omega⟩))
     clear ha hb
     go_wp2
     all_goals first
      | (go_ret;exact ⟨by rw [HN.out];rfl,hB⟩)
      | (exfalso;simp_all;done)
      | (exfalso;simp_all;omega)
    ·have HN:=Lib.hid (name_no s 0 hlt (.inr ⟨rfl,by simp only [letterI,decide_eq_false_iff_not];omega⟩))
     clear ha hb
     go_wp2
     all_goals first
      | (go_ret;exact ⟨by rw [HN.out];rfl,hB⟩)
      | (exfalso;simp_all;done)
      | (exfalso;simp_all;omega)
    ·have HN:=Lib.hid (name_no s 0 hlt (.inr ⟨rfl,by simp only [letterI,decide_eq_false_iff_not];omega⟩))
     clear ha hb
     go_wp2
     all_goals first
      | (go_ret;exact ⟨by rw [HN.out];rfl,hB⟩)
      | (exfalso;simp_all;done)
      | (exfalso;simp_all;omega)
    ·have HN:=Lib.hid (name_no s 0 hlt (.inr ⟨rfl,by simp only [letterI,decide_eq_false_iff_not];omega⟩))
     clear ha hb
     go_wp2
     all_goals first
      | (go_ret;exact ⟨by rw [HN.out];rfl,hB⟩)
      | (exfalso;simp_all;done)
      | (exfalso;simp_all;omega)
    ·have HN:=Lib.hid (name_no s 0 hlt (.inr ⟨rfl,by simp only [letterI,decide_eq_false_iff_not];omega⟩))
     clear ha hb
     go_wp2
     all_goals first
      | (go_ret;exact ⟨by rw [HN.out];rfl,hB⟩)
      | (exfalso;simp_all;done)
      | (exfalso;simp_all;omega)
    ·have HN:=Lib.hid (name_no s 0 hlt (.inr ⟨rfl,by simp only [letterI,decide_eq_false_iff_not];omega⟩))
     clear ha hb
     go_wp2
     all_goals first
      | (go_ret;exact ⟨by rw [HN.out];rfl,hB⟩)
      | (exfalso;simp_all;done)
      | (exfalso;simp_all;omega)
    ·have HS:=Lib.hid (name_step s 0 hlt ha hb (by simp only [namedI,decide_eq_true_eq];omega) (fun _=>by simp only [letterI,decide_eq_true_eq];omega))
     clear ha hb
     go_wp2
     all_goals first
      | exact ⟨⟨1,by omega,by go_num,hB,HS.out.1,HS.out.2⟩,by simp [intOf];omega⟩
      | (exfalso;simp_all;done)
      | (exfalso;simp_all;omega)
    ·have HN:=Lib.hid (name_no s 0 hlt (.inr ⟨rfl,by simp only [letterI,decide_eq_false_iff_not];omega⟩))
     clear ha hb
     go_wp2
     all_goals first
      | (go_ret;exact ⟨by rw [HN.out];rfl,hB⟩)
      | (exfalso;simp_all;done)
      | (exfalso;simp_all;omega)
    ·have HS:=Lib.hid (name_step s 0 hlt ha hb (by simp only [namedI,decide_eq_true_eq];omega) (fun _=>by simp only [letterI,decide_eq_true_eq];omega))
     clear ha hb
     go_wp2
     all_goals first
      | exact ⟨⟨1,by omega,by go_num,hB,HS.out.1,HS.out.2⟩,by simp [intOf];omega⟩
      | (exfalso;simp_all;done)
      | (exfalso;simp_all;omega)
    ·have HN:=Lib.hid (name_no s 0 hlt (.inr ⟨rfl,by simp only [letterI,decide_eq_false_iff_not];omega⟩))
     clear ha hb
     go_wp2
     all_goals first
      | (go_ret;exact ⟨by rw [HN.out];rfl,hB⟩)
      | (exfalso;simp_all;done)
      | (exfalso;simp_all;omega)
    ·have HS:=Lib.hid (name_step s 0 hlt ha hb (by simp only [namedI,decide_eq_true_eq];omega) (fun _=>by simp only [letterI,decide_eq_true_eq];omega))
     clear ha hb
     go_wp2
     all_goals first
      | exact ⟨⟨1,by omega,by go_num,hB,HS.out.1,HS.out.2⟩,by simp [intOf];omega⟩
      | (exfalso;simp_all;done)
      | (exfalso;simp_all;omega)
    ·have HN:=Lib.hid (name_no s 0 hlt (.inr ⟨rfl,by simp only [letterI,decide_eq_false_iff_not];omega⟩))
     clear ha hb
     go_wp2
     all_goals first
      | (go_ret;exact ⟨by rw [HN.out];rfl,hB⟩)
      | (exfalso;simp_all;done)
      | (exfalso;simp_all;omega)
   ·rcases (show ((s[k]'hlt).toNat < 45) ∨ ((s[k]'hlt).toNat = 45) ∨ ((s[k]'hlt).toNat = 46) ∨ ((s[k]'hlt).toNat = 47) ∨ (48 ≤ (s[k]'hlt).toNat ∧ (s[k]'hlt).toNat ≤ 57) ∨ (58 ≤ (s[k]'hlt).toNat ∧ (s[k]'hlt).toNat ≤ 64) ∨ (65 ≤ (s[k]'hlt).toNat ∧ (s[k]'hlt).toNat ≤ 90) ∨ (91 ≤ (s[k]'hlt).toNat ∧ (s[k]'hlt).toNat ≤ 94) ∨ ((s[k]'hlt).toNat = 95) ∨ ((s[k]'hlt).toNat = 96) ∨ (97 ≤ (s[k]'hlt).toNat ∧ (s[k]'hlt).toNat ≤ 122) ∨ (122 < (s[k]'hlt).toNat) by omega) with h1 | h1 | h1 | h1 | ⟨h1,h2⟩ | ⟨h1,h2⟩ | ⟨h1,h2⟩ | ⟨h1,h2⟩ | h1 | h1 | ⟨h1,h2⟩ | h1
    ·have HN:=Lib.hid (name_no s k hlt (.inl (by simp only [namedI,decide_eq_false_iff_not];omega)))
     clear ha hb
     go_wp2
     all_goals first
      | (go_ret;exact ⟨by rw [HN.out];rfl,hB⟩)
      | (exfalso;simp_all;done)
      | (exfalso;simp_all;omega)
    ·have HS:=Lib.hid (name_step s k hlt ha hb (by simp only [namedI,decide_eq_true_eq];omega) (fun _=>by omega))
     clear ha hb
     go_wp2
     all_goals first
      | exact ⟨⟨k + 1,by omega,by go_num,hB,HS.out.1,HS.out.2⟩,by simp [intOf];omega⟩
      | (exfalso;simp_all;done)
      | (exfalso;simp_all;omega)
    ·have HS:=Lib.hid (name_step s k hlt ha hb (by simp only [namedI,decide_eq_true_eq];omega) (fun _=>by omega))
     clear ha hb
     go_wp2
     all_goals first
      | exact ⟨⟨k + 1,by omega,by go_num,hB,HS.out.1,HS.out.2⟩,by simp [intOf];omega⟩
      | (exfalso;simp_all;done)
      | (exfalso;simp_all;omega)
    ·have HN:=Lib.hid (name_no s k hlt (.inl (by simp only [namedI,decide_eq_false_iff_not];omega)))
     clear ha hb
     go_wp2
     all_goals first
      | (go_ret;exact ⟨by rw [HN.out];rfl,hB⟩)
      | (exfalso;simp_all;done)
      | (exfalso;simp_all;omega)
    ·have HS:=Lib.hid (name_step s k hlt ha hb (by simp only [namedI,decide_eq_true_eq];omega) (fun _=>by omega))
     clear ha hb
     go_wp2
     all_goals first
      | exact ⟨⟨k + 1,by omega,by go_num,hB,HS.out.1,HS.out.2⟩,by simp [intOf];omega⟩
      | (exfalso;simp_all;done)
      | (exfalso;simp_all;omega)
    ·have HN:=Lib.hid (name_no s k hlt (.inl (by simp only [namedI,decide_eq_false_iff_not];omega)))
     clear ha hb
     go_wp2
     all_goals first
      | (go_ret;exact ⟨by rw [HN.out];rfl,hB⟩)
      | (exfalso;simp_all;done)
      | (exfalso;simp_all;omega)
    ·have HS:=Lib.hid (name_step s k hlt ha hb (by simp only [namedI,decide_eq_true_eq];omega) (fun _=>by omega))
     clear ha hb
     go_wp2
     all_goals first
      | exact ⟨⟨k + 1,by omega,by go_num,hB,HS.out.1,HS.out.2⟩,by simp [intOf];omega⟩
      | (exfalso;simp_all;done)
      | (exfalso;simp_all;omega)
    ·have HN:=Lib.hid (name_no s k hlt (.inl (by simp only [namedI,decide_eq_false_iff_not];omega)))
     clear ha hb
     go_wp2
     all_goals first
      | (go_ret;exact ⟨by rw [HN.out];rfl,hB⟩)
      | (exfalso;simp_all;done)
      | (exfalso;simp_all;omega)
    ·have HS:=Lib.hid (name_step s k hlt ha hb (by simp only [namedI,decide_eq_true_eq];omega) (fun _=>by omega))
     clear ha hb
     go_wp2
     all_goals first
      | exact ⟨⟨k + 1,by omega,by go_num,hB,HS.out.1,HS.out.2⟩,by simp [intOf];omega⟩
      | (exfalso;simp_all;done)
      | (exfalso;simp_all;omega)
    ·have HN:=Lib.hid (name_no s k hlt (.inl (by simp only [namedI,decide_eq_false_iff_not];omega)))
     clear ha hb
     go_wp2
     all_goals first
      | (go_ret;exact ⟨by rw [HN.out];rfl,hB⟩)
      | (exfalso;simp_all;done)
      | (exfalso;simp_all;omega)
    ·have HS:=Lib.hid (name_step s k hlt ha hb (by simp only [namedI,decide_eq_true_eq];omega) (fun _=>by omega))
     clear ha hb
     go_wp2
     all_goals first
      | exact ⟨⟨k + 1,by omega,by go_num,hB,HS.out.1,HS.out.2⟩,by simp [intOf];omega⟩
      | (exfalso;simp_all;done)
      | (exfalso;simp_all;omega)
    ·have HN:=Lib.hid (name_no s k hlt (.inl (by simp only [namedI,decide_eq_false_iff_not];omega)))
     clear ha hb
     go_wp2
     all_goals first
      | (go_ret;exact ⟨by rw [HN.out];rfl,hB⟩)
      | (exfalso;simp_all;done)
      | (exfalso;simp_all;omega)
  ·have hkk : k = s.size:=by omega
   rw [hkk,List.take_of_length_le (Nat.le_of_eq (bts_len s))] at ha hb
   have HE:=Lib.hid (name_end s ha hb)
   clear ha hb
   subst hkk
   rcases (show s.size < 1 ∨ (1 ≤ s.size ∧ s.size ≤ 64) ∨ 64 < s.size by omega) with h | ⟨h,h'⟩ | h
   ·have HV : Hid (decide (1 ≤ s.size ∧ s.size ≤ 64) = false):=Lib.hid (by rw [decide_eq_false_iff_not];omega)
    go_wp2
    go_ret
    refine ⟨?_,hB⟩
    rw [HE.out,HV.out]
    first | rfl | (simp;omega)
   ·have HV : Hid (decide (1 ≤ s.size ∧ s.size ≤ 64) = true):=Lib.hid (by rw [decide_eq_true_eq];omega)
    go_wp2
    go_ret
    refine ⟨?_,hB⟩
    rw [HE.out,HV.out]
    first | rfl | (simp;omega)
   ·have HV : Hid (decide (1 ≤ s.size ∧ s.size ≤ 64) = false):=Lib.hid (by rw [decide_eq_false_iff_not];omega)
    go_wp2
    go_ret
    refine ⟨?_,hB⟩
    rw [HE.out,HV.out]
    first | rfl | (simp;omega)
theorem bytes_news (w : World) (s : ByteArray) : ∀ j u,(Lib.byteCells (bts s))[j]? = some u → (Lib.bytesWorld w 5 s).cell? ((⟨w.heap.size,0,none⟩ : Addr).add j) = some u:=by
 intro j u hj
 have e : (⟨w.heap.size,0,none⟩ : Addr).add j = ⟨w.heap.size,j,none⟩:=by unfold Addr.add;split <;> simp_all
 have hlt : j < s.size:=by
  have:=(List.getElem?_eq_some_iff.1 hj).1
  rwa [Lib.byteCells_length,bts_len] at this
 rw [e,Lib.bytesWorld_cell w 5 s j hlt,← hj]
 unfold Lib.byteCells
 rw [List.getElem?_map,List.getElem?_eq_getElem (by rw [bts_len];exact hlt),List.getD_eq_getElem?_getD,List.getElem?_eq_getElem (by show j < (bts s).length;rw [bts_len];exact hlt)]
 rfl
theorem byteCells_one (l : List UInt8) : ∀ u ∈ Lib.byteCells l,u.oneCell' = true:=by
 intro u hu
 unfold Lib.byteCells at hu
 obtain ⟨b,_,rfl⟩:=List.mem_map.1 hu
 rfl
theorem escL_snoc (v : Bool) (s : ByteArray) (k : Nat) (h : k < s.size) : escL v ((bts s).take (k + 1)) = escL v ((bts s).take k) ++ escB v (s[k]'h):=by
 rw [bts_take s k h];unfold escL;rw [List.flatMap_append];simp
theorem own_bytes {w : World} {base : Nat} {l : List UInt8} {v : Value} (h : w.ownsRow base 5 1 v l.length (Lib.byteCells l)) (s : ByteArray) : (Lib.bytesWorld w 5 s).ownsRow base 5 1 v l.length (Lib.byteCells l):=
 own_below h (bytes_below w s)
end Go.Proofs.YtjldpkhfiffinaaGreatDoor.U
