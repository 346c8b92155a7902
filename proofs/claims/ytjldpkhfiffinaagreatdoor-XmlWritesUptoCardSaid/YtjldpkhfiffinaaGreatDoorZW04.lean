/- Contracts and plain facts that the law stands on: Lq0, Ee, Tx, Lw0, Lw, Os. -/
import Derived.Test.YtjldpkhfiffinaaGreatDoorZW03
import Derived.RangeFuncNested
import Derived.RangeFuncBound
import Derived.RangeFuncLeaves
import Derived.Shelf.Abstract
import Derived.Shelf.RegionOpen
import Derived.OwnWalkIn
import Derived.TacticsInMore
import Derived.LoopNIn
import Derived.LoopIn
import Derived.Deep.RegionHeld3
import Derived.Below
import Derived.Laws.RangeAny
import Derived.WalkLawsBesides
import Derived.Lib.RuneBytes
import Derived.Lib.Strings
import Derived.Lib.Bytealg
import Derived.RowKit3
import Derived.Test.YtjldpkhfiffinaaGreatDoorRows
import Derived.WalkKit
import Derived.WalkSpells
import Derived.Lib.Hide
import Derived.Laws.Rows
import Derived.Lib.OthersKept
import Derived.BigQuiet
import Derived.BigCall
import Derived.Deep.QuietTactic
import Derived.Lib.ConvBytes
import Derived.Deep.Slices
import Derived.Deep.Fields
import Derived.ChangeSame
namespace Go.Proofs.YtjldpkhfiffinaaGreatDoor.U
open Go.RowKit Go.Shelf
theorem wA_memS : ∀ {al : List (List UInt8 × List UInt8)} {a : List UInt8 × List UInt8},a ∈ al → a.1.length ≤ wA al ∧ a.2.length ≤ wA al:=by
 intro al
 induction al with
 | nil=>intro a h;cases h
 | cons b r ih=>
  intro a h
  have h2 : wA (b :: r) = 1 + b.1.length + b.2.length + wA r:=by simp [wA]
  rcases List.mem_cons.1 h with rfl | h
  ·omega
  ·have:=ih h;omega
theorem steps_w (t : Tr) : (stepsT t).length ≤ 2 * wT t ∧ ∀ x ∈ stepsT t,x.name.length ≤ wT t ∧ x.text.length ≤ wT t:=by
 refine Tr.rec (motive_1:=fun t=>(stepsT t).length ≤ 2 * wT t ∧ ∀ x ∈ stepsT t,x.name.length ≤ wT t ∧ x.text.length ≤ wT t)
  (motive_2:=fun ks=>(stepsK ks).length ≤ 2 * wK ks ∧ ∀ x ∈ stepsK ks,x.name.length ≤ wK ks ∧ x.text.length ≤ wK ks) ?_ ?_ ?_ t
 ·intro lb tx al ks ih
  obtain ⟨i1,i2⟩:=ih
  have hw : wT (.node lb tx al ks) = 1 + lb.length + tx.length + wA al + wK ks:=by rw [wT]
  rw [stepsT]
  by_cases h0 : lb = []
  ·rw [if_pos h0]
   refine ⟨by rw [hw,List.length_singleton];omega,fun x hx=>?_⟩
   obtain rfl:=List.mem_singleton.1 hx
   exact ⟨by simp,by rw [hw];show tx.length ≤ _;omega⟩
  ·rw [if_neg h0]
   have hl:=wA_len al
   refine ⟨by rw [hw];simp only [List.length_cons,List.length_append,List.length_map,List.length_nil];omega,fun x hx=>?_⟩
   rcases List.mem_cons.1 hx with rfl | hx
   ·exact ⟨by rw [hw];show lb.length ≤ _;omega,by simp⟩
   ·rcases List.mem_append.1 hx with hx | hx
    ·obtain ⟨a,ha,rfl⟩:=List.mem_map.1 hx
     have:=wA_memS ha
     exact ⟨by rw [hw];show a.1.length ≤ _;omega,by rw [hw];show a.2.length ≤ _;omega⟩
    ·rcases List.mem_append.1 hx with hx | hx
     ·have:=i2 x hx
      exact ⟨by omega,by omega⟩
     ·obtain rfl:=List.mem_singleton.1 hx
      exact ⟨by simp,by simp⟩
 ·exact ⟨by simp [stepsK],fun x hx=>by simp [stepsK] at hx⟩
 ·intro t ks i1 i2
  have hw : wK (t :: ks) = wT t + wK ks:=by rw [wK]
  rw [stepsK]
  refine ⟨by rw [List.length_append,hw];omega,fun x hx=>?_⟩
  rcases List.mem_append.1 hx with hx | hx
  ·have:=i1.2 x hx;exact ⟨by omega,by omega⟩
  ·have:=i2.2 x hx;exact ⟨by omega,by omega⟩
open Go.RowKit
set_option maxHeartbeats 1000000 in
theorem instead_any (v : Bool) (r : Int) (w : World) : Calls Tryz.prog 74 #[.int .u8 r,.bool v] w fun e w'=>e = .returned (.string ⟨(escT v r).toArray⟩) ∧ Below w.heap.size w w':=by
 cases v
 ·rcases (show r = 38 ∨ r = 60 ∨ r = 62 ∨ r = 13 ∨ (r ≠ 38 ∧ r ≠ 60 ∧ r ≠ 62 ∧ r ≠ 13) by omega) with h | h | h | h | ⟨h1,h2,h3,h4⟩
  ·subst h
   go_enter Tryz.func74,Tryz.ntmps74
   go_wp2
   go_ret
   exact ⟨rfl,Below.refl _ _⟩
  ·subst h
   go_enter Tryz.func74,Tryz.ntmps74
   go_wp2
   go_ret
   exact ⟨rfl,Below.refl _ _⟩
  ·subst h
   go_enter Tryz.func74,Tryz.ntmps74
   go_wp2
   go_ret
   exact ⟨rfl,Below.refl _ _⟩
  ·subst h
   go_enter Tryz.func74,Tryz.ntmps74
   go_wp2
   go_ret
   exact ⟨rfl,Below.refl _ _⟩
  ·have HV : Hid (escT false r = []):=Lib.hid (by unfold escT;simp [h1,h2,h3,h4])
   go_enter Tryz.func74,Tryz.ntmps74
   go_wp2
   go_ret
   exact ⟨by rw [HV.out];rfl,Below.refl _ _⟩
 ·rcases (show r = 38 ∨ r = 60 ∨ r = 62 ∨ r = 13 ∨ r = 34 ∨ r = 9 ∨ r = 10 ∨ (r ≠ 38 ∧ r ≠ 60 ∧ r ≠ 62 ∧ r ≠ 13 ∧ r ≠ 34 ∧ r ≠ 9 ∧ r ≠ 10) by omega) with h | h | h | h | h | h | h | ⟨h1,h2,h3,h4,h5,h6,h7⟩
  ·subst h
   go_enter Tryz.func74,Tryz.ntmps74
   go_wp2
   go_ret
   exact ⟨rfl,Below.refl _ _⟩
  ·subst h
   go_enter Tryz.func74,Tryz.ntmps74
   go_wp2
   go_ret
   exact ⟨rfl,Below.refl _ _⟩
  ·subst h
   go_enter Tryz.func74,Tryz.ntmps74
   go_wp2
   go_ret
   exact ⟨rfl,Below.refl _ _⟩
  ·subst h
   go_enter Tryz.func74,Tryz.ntmps74
   go_wp2
   go_ret
   exact ⟨rfl,Below.refl _ _⟩
  ·subst h
   go_enter Tryz.func74,Tryz.ntmps74
   go_wp2
   go_ret
   exact ⟨rfl,Below.refl _ _⟩
  ·subst h
   go_enter Tryz.func74,Tryz.ntmps74
   go_wp2
   go_ret
   exact ⟨rfl,Below.refl _ _⟩
  ·subst h
   go_enter Tryz.func74,Tryz.ntmps74
   go_wp2
   go_ret
   exact ⟨rfl,Below.refl _ _⟩
  ·have HV : Hid (escT true r = []):=Lib.hid (by unfold escT;simp [h1,h2,h3,h4,h5,h6,h7])
   go_enter Tryz.func74,Tryz.ntmps74
   go_wp2
   go_ret
   exact ⟨by rw [HV.out];rfl,Below.refl _ _⟩
set_option maxHeartbeats 2000000 in
theorem refEscape_any (v : Bool) (s : ByteArray) (w : World) (hs : s.size ≤ 100000) :
  Calls Tryz.prog 43 #[.string s,.bool v] w fun e w'=>e = .returned (.string ⟨(escL v (bts s)).toArray⟩) ∧ Below w.heap.size w w':=by
 obtain ⟨i0,hi,hz0,hz1,hz2⟩:=info_parts info5
 have hcv:=fun x W=>conv_any W x
 have HS:=Lib.hid hs
 clear hs
 go_enter Tryz.func43,Tryz.ntmps43
 go_wp2_with fail
 go_loopw [5,6] (fun u i wr=>∃ k : Nat,k ≤ s.size ∧ i = .int .i64 k ∧ wr.ownsRow w.heap.size 5 1 u (escL v ((bts s).take k)).length (Lib.byteCells (escL v ((bts s).take k))) ∧ Below w.heap.size w wr) (fun _ i _=>s.size - (intOf i).toNat)
 case atStart=>exact ⟨0,by omega,rfl,World.ownsRow_nil _ _ _ _,Below.refl _ _⟩
 case round=>
  obtain ⟨k,hk,rfl,hown,hB⟩:=hrel
  by_cases hlt : k < s.size
  ·have HO:=Lib.hid hown
   have HB:=Lib.hid hB
   have HESC:=Lib.hid (escL_snoc v s k hlt)
   have HSUB:=Lib.hid (bts_sub s k hlt)
   have HLEN : Hid ((escL v ((bts s).take k)).length ≤ 600000):=Lib.hid (by
    have h1:=(escL_len v ((bts s).take k)).2
    have h2 : ((bts s).take k).length ≤ s.size:=by rw [List.length_take,bts_len];omega
    have:=HS.out;omega)
   clear hown hB
   go_wp2_with fail
   refine (instead_any v _ _).mono ?_
   rintro e w2 ⟨rfl,hb2⟩
   have HO2:=Lib.hid (own_below HO.out hb2)
   have HB2:=Lib.hid (th HB.out (Nat.le_refl _) hb2)
   clear hb2
   by_cases hesc : escT v (s[k]'hlt).toNat = []
   ·rw [hesc]
    have HEB : Hid (escB v (s[k]'hlt) = [s[k]'hlt]):=Lib.hid (by unfold escB;rw [if_pos hesc])
    clear hesc
    have hk1 : (k : Int) + 1 ≤ 100000:=by have:=HS.out;omega
    go_wp2_with (at_builtin;refine wpList_append_own _ rfl _ _ 22 rfl w.heap.size 5 i0 (.int .u8 0) 1 1 Tryz.underlying22 hi hz0 hz1 hz2 rfl (by decide) _ _ _ rfl (own_bytes HO2.out _) ⟨w2.heap.size,0,none⟩ _ _ (Lib.byteCells (bts (s.extract k (k + 1)))) rfl (by rw [Lib.byteCells_length,HSUB.out];simp;omega) (bytes_news _ _) (byteCells_one _) (by unfold maxLen;have:=HLEN.out;omega) (by have:=HLEN.out;omega) (by have:=HB2.out.size;rw [Lib.bytesWorld_size];omega) ?_;intro v3 w3 hown3 hgrow3 _)
    rw [HSUB.out] at hown3
    have HB3:=Lib.hid (((HB2.out.trans ((bytes_below w2 _).mono HB2.out.size))).grown hgrow3 (by have:=HB2.out.size;rw [Lib.bytesWorld_size];omega) (fun k e=>(HO2.out.lt k e).1))
    have HO3 : Hid (w3.ownsRow w.heap.size 5 1 v3 (escL v ((bts s).take (k + 1))).length (Lib.byteCells (escL v ((bts s).take (k + 1))))):=Lib.hid (by
     rw [HESC.out,HEB.out,Lib.byteCells_append,List.length_append]
     have hm1 : min (k + 1) s.size - k = 1:=by omega
     simpa [hm1] using hown3)
    clear hown3 hgrow3
    go_wp2
    go_roundw
    case rel=>exact ⟨k + 1,by omega,by go_num,HO3.out,HB3.out⟩
    case measure=>simp [intOf];omega
   ·have HEB : Hid (escB v (s[k]'hlt) = escT v (s[k]'hlt).toNat):=Lib.hid (by unfold escB;rw [if_neg hesc])
    have hne : (escT v (s[k]'hlt).toNat).isEmpty = false:=List.isEmpty_eq_false_iff.2 hesc
    have HL6:=Lib.hid (escT_len v (s[k]'hlt).toNat)
    obtain ⟨x,hx⟩ : ∃ x,x = escT v (s[k]'hlt).toNat:=⟨_,rfl⟩
    rw [← hx] at HEB hne HL6 ⊢
    clear hesc hx
    have hk1 : (k : Int) + 1 ≤ 100000:=by have:=HS.out;omega
    go_wp2_with (at_builtin;refine wpList_append_own _ rfl _ _ 22 rfl w.heap.size 5 i0 (.int .u8 0) 1 1 Tryz.underlying22 hi hz0 hz1 hz2 rfl (by decide) _ _ _ rfl (own_bytes HO2.out _) ⟨w2.heap.size,0,none⟩ _ _ (Lib.byteCells (bts ⟨x.toArray⟩)) rfl (by rw [Lib.byteCells_length,bts_mk];simp) (bytes_news _ _) (byteCells_one _) (by unfold maxLen;have:=HLEN.out;have:=HL6.out;simp;omega) (by have:=HLEN.out;have:=HL6.out;simp;omega) (by have:=HB2.out.size;rw [Lib.bytesWorld_size];omega) ?_;intro v3 w3 hown3 hgrow3 _)
    rw [show bts ⟨x.toArray⟩ = x from bts_mk x] at hown3
    have HB3:=Lib.hid (((HB2.out.trans ((bytes_below w2 _).mono HB2.out.size))).grown hgrow3 (by have:=HB2.out.size;rw [Lib.bytesWorld_size];omega) (fun k e=>(HO2.out.lt k e).1))
    have HO3 : Hid (w3.ownsRow w.heap.size 5 1 v3 (escL v ((bts s).take (k + 1))).length (Lib.byteCells (escL v ((bts s).take (k + 1))))):=Lib.hid (by
     rw [HESC.out,HEB.out,Lib.byteCells_append,List.length_append]
     simpa using hown3)
    clear hown3 hgrow3
    go_wp2
    go_roundw
    case rel=>exact ⟨k + 1,by omega,by go_num,HO3.out,HB3.out⟩
    case measure=>simp [intOf];omega
  ·have hkk : k = s.size:=by omega
   rw [hkk,List.take_of_length_le (Nat.le_of_eq (bts_len s))] at hown
   have hcb:=conv_own _ _ _ _ hown
   have HB:=Lib.hid hB
   subst hkk
   clear hown hB
   go_wp2
   go_ret
   exact ⟨rfl,HB.out⟩
def attrsX (al : List (List UInt8 × List UInt8)) : List UInt8:=al.flatMap attrT
def kidsX (ks : List Tr) : List UInt8:=ks.flatMap textX
theorem textX_kidsK : ∀ ks : List Tr,(toksK ks).flatMap textT = kidsX ks:=by
 intro ks
 induction ks with
 | nil=>rfl
 | cons t r ih=>unfold toksK kidsX;rw [List.flatMap_append,List.flatMap_cons,ih];rfl
theorem textX_text (tx : List UInt8) (al : List (List UInt8 × List UInt8)) (ks : List Tr) : textX (.node [] tx al ks) = escL false tx:=by
 unfold textX;rw [toksT_text];simp [textT]
theorem textX_empty {lb : List UInt8} (tx : List UInt8) (al : List (List UInt8 × List UInt8)) (h : lb ≠ []) : textX (.node lb tx al []) = 60 :: lb ++ attrsX al ++ [47,62]:=by
 unfold textX;rw [toksT_empty _ _ h];simp [textT,attrsX]
theorem textX_elem {lb : List UInt8} (tx : List UInt8) (al : List (List UInt8 × List UInt8)) {ks : List Tr} (h : lb ≠ []) (hk : ks ≠ []) : textX (.node lb tx al ks) = 60 :: lb ++ attrsX al ++ [62] ++ kidsX ks ++ ([60,47] ++ lb ++ [62]):=by
 cases ks with
 | nil=>exact absurd rfl hk
 | cons k r=>
  unfold textX;rw [toksT_kids _ _ _ _ h,List.flatMap_cons,List.flatMap_append,textX_kidsK];simp [textT,attrsX]
theorem attrsX_take {al : List (List UInt8 × List UInt8)} {k : Nat} {a : List UInt8 × List UInt8} (h : al[k]? = some a) : attrsX (al.take (k + 1)) = attrsX (al.take k) ++ attrT a:=by
 rw [List.take_add_one,h];unfold attrsX;rw [List.flatMap_append];simp
theorem kidsX_take {ks : List Tr} {k : Nat} {t : Tr} (h : ks[k]? = some t) : kidsX (ks.take (k + 1)) = kidsX (ks.take k) ++ textX t:=by
 rw [List.take_add_one,h];unfold kidsX;rw [List.flatMap_append];simp
theorem attrsX_le (al : List (List UInt8 × List UInt8)) (k : Nat) : (attrsX (al.take k)).length ≤ (attrsX al).length:=by
 conv=>rhs;rw [← List.take_append_drop k al]
 unfold attrsX;rw [List.flatMap_append,List.length_append];omega
theorem kidsX_le (ks : List Tr) (k : Nat) : (kidsX (ks.take k)).length ≤ (kidsX ks).length:=by
 conv=>rhs;rw [← List.take_append_drop k ks]
 unfold kidsX;rw [List.flatMap_append,List.length_append];omega
def EscC : Prop:=∀ (v : Bool) (s : ByteArray) (w : World),s.size ≤ 100000 → Calls Tryz.prog 43 #[.string s,.bool v] w fun e w'=>e = .returned (.string ⟨(escL v (bts s)).toArray⟩) ∧ Below w.heap.size w w'
def shortN : Tr → Prop
 | .node _ tx al _=>tx.length ≤ 100000 ∧ ∀ a ∈ al,a.2.length ≤ 100000
theorem add_any (x y : List UInt8) (hx : x.length ≤ 4000000) (hy : y.length ≤ 4000000) (W : World) : (Op.stringOp .add ⟨x.toArray⟩ ⟨y.toArray⟩).run Tryz.prog W = .ok (.string ⟨(x ++ y).toArray⟩) W:=run_string_add_lists W x y (by omega) (by omega)
set_option maxRecDepth 10000 in
set_option maxHeartbeats 2000000 in
theorem textR_text (HES : EscC) (tx : List UInt8) (al : List (List UInt8 × List UInt8)) (ks : List Tr) (a d : Option Addr) (n1 c1 n2 c2 : Nat) (w : World) (hs : tx.length ≤ 100000) :
  Calls Tryz.prog 22 #[.agg #[.string ⟨#[]⟩,.string ⟨tx.toArray⟩,.slice a n1 c1,.slice d n2 c2]] w fun e w'=>e = .returned (.string ⟨(textX (.node [] tx al ks)).toArray⟩) ∧ Below w.heap.size w w':=by
 rw [textX_text]
 have HE:=Lib.hid (fun W : World=>HES false ⟨tx.toArray⟩ W (by have:=bts_len ⟨tx.toArray⟩;rw [bts_mk] at this;omega))
 rw [bts_mk] at HE
 have HB:=Lib.hid ((Below.refl _ w).alloc (Nat.le_refl _) (.cells #[.string ⟨#[]⟩,.string ⟨tx.toArray⟩,.slice a n1 c1,.slice d n2 c2] 27))
 generalize (⟨tx.toArray⟩ : ByteArray) = txb at HE HB ⊢
 go_enter Tryz.func22,Tryz.ntmps22
 go_wp2_with fail
 (with_reducible refine (HE.out _).mono ?_)
 rintro e w2 ⟨rfl,hb2⟩
 have HB2:=Lib.hid (th HB.out (Nat.le_refl _) hb2)
 clear hb2
 go_wp2
 go_ret
 exact ⟨rfl,HB2.out⟩
set_option maxRecDepth 100000 in
set_option maxHeartbeats 4000000 in
theorem textR_elem (HES : EscC) (lb tx : List UInt8) (hlb : lb ≠ []) (al : List (List UInt8 × List UInt8)) (ks : List Tr) (a d : Option Addr) (n1 c1 n2 c2 g off gk ok : Nat) (w : World)
  (hn1 : n1 = al.length) (hn2 : n2 = ks.length) (h1b : n1 ≤ 1000000) (h2b : n2 ≤ 1000000) (ha : 0 < n1 → a = some ⟨g,off,none⟩) (hc : ∀ k b,al[k]? = some b → w.cell? ⟨g,off + k * 2,none⟩ = some (.string ⟨b.1.toArray⟩) ∧ w.cell? ⟨g,off + k * 2 + 1,none⟩ = some (.string ⟨b.2.toArray⟩))
  (hd : 0 < n2 → d = some ⟨gk,ok,none⟩) (hkc : ∀ (k : Nat) (l1 t1 : List UInt8) (al1 : List (List UInt8 × List UInt8)) (js1 : List Tr),ks[k]? = some (.node l1 t1 al1 js1) → ∃ va vk,w.cell? ⟨gk,ok + k * 4,none⟩ = some (.string ⟨l1.toArray⟩) ∧ w.cell? ⟨gk,ok + k * 4 + 1,none⟩ = some (.string ⟨t1.toArray⟩) ∧ w.cell? ⟨gk,ok + k * 4 + 2,none⟩ = some va ∧ w.cell? ⟨gk,ok + k * 4 + 3,none⟩ = some vk ∧ TreeV w (.node l1 t1 al1 js1) [.string ⟨l1.toArray⟩,.string ⟨t1.toArray⟩,va,vk])
  (hs : ∀ b ∈ al,b.2.length ≤ 100000) (hL : (textX (.node lb tx al ks)).length ≤ 1000000)
  (IH : ∀ (k : Nat) (t : Tr),ks[k]? = some t → ∀ (hs : List Value) (W : World),TreeV W t hs → Calls Tryz.prog 22 #[.agg hs.toArray] W fun e w'=>e = .returned (.string ⟨(textX t).toArray⟩) ∧ Below W.heap.size W w') :
  Calls Tryz.prog 22 #[.agg #[.string ⟨lb.toArray⟩,.string ⟨tx.toArray⟩,.slice a n1 c1,.slice d n2 c2]] w fun e w'=>e = .returned (.string ⟨(textX (.node lb tx al ks)).toArray⟩) ∧ Below w.heap.size w w':=by
 have hbl : (⟨lb.toArray⟩ : ByteArray).toList.isEmpty = false:=by rw [emp_iff];simp [hlb]
 have hbl2 : lb.isEmpty = false:=by simp [hlb]
 have HB:=Lib.hid ((Below.refl _ w).alloc (Nat.le_refl _) (.cells #[.string ⟨lb.toArray⟩,.string ⟨tx.toArray⟩,.slice a n1 c1,.slice d n2 c2] 27))
 have HX:=Lib.hid (Box4.made ⟨lb.toArray⟩ ⟨tx.toArray⟩ (.slice a n1 c1) (.slice d n2 c2) w)
 have HN1:=Lib.hid hn1
 have HN2:=Lib.hid hn2
 have HA:=Lib.hid ha
 have HC:=Lib.hid hc
 have HD:=Lib.hid hd
 have HKC:=Lib.hid hkc
 have HSH:=Lib.hid hs
 have HIH:=Lib.hid IH
 have HES':=Lib.hid HES
 have HLB:=Lib.hid hlb
 have hll : lb.length ≤ 1000000 ∧ (attrsX al).length + lb.length ≤ 1000000:=by
  by_cases hk : ks = []
  ·subst hk;rw [textX_empty _ _ hlb] at hL;simp at hL;omega
  ·rw [textX_elem _ _ hlb hk] at hL;simp at hL;omega
 have hl1:=hll.1
 have HLL:=Lib.hid hll.2
 have HL:=Lib.hid hL
 clear hn1 hn2 ha hc hd hkc hs IH HES hlb hll hL
 go_enter Tryz.func22,Tryz.ntmps22
 go_wp2_with fail
 go_loopw [3,4] (fun v i wr=>∃ (k : Nat) (xl : List UInt8),k ≤ n1 ∧ i = .int .i64 k ∧ v = .string ⟨xl.toArray⟩ ∧ Hid (xl = 60 :: lb ++ attrsX (al.take k)) ∧ Hid (Box4 w.heap.size ⟨lb.toArray⟩ ⟨tx.toArray⟩ (.slice a n1 c1) (.slice d n2 c2) wr) ∧ Hid (Below w.heap.size w wr)) (fun _ i _=>n1 - (intOf i).toNat)
 case atStart=>exact ⟨0,60 :: lb,by omega,rfl,by rw [show (⟨#[60]⟩ : ByteArray) = ⟨[60].toArray⟩ from rfl,ByteArray.mk_append_mk];rfl,Lib.hid (by simp [attrsX]),HX,HB⟩
 case round=>
  obtain ⟨k,xl,hk,rfl,rfl,HXL,HXr,HBr⟩:=hrel
  obtain ⟨x0,x1,x2,x3⟩:=HXr.out.at
  have hxlt:=HXr.out.lt
  have hxl : xl.length ≤ 1000001:=by
   have h1:=attrsX_le al k
   have h2:=HLL.out
   rw [HXL.out]
   simp only [List.length_append,List.length_cons]
   omega
  by_cases hlt : k < n1
  ·obtain rfl:=HA.out (by omega)
   obtain ⟨⟨p1,p2⟩,hp⟩ : ∃ b,al[k]? = some b:=⟨_,List.getElem?_eq_getElem (by rw [← HN1.out];omega)⟩
   obtain ⟨r1,r2⟩:=HC.out k _ hp
   simp only at r1 r2
   have up : ∀ {p : Addr} {u : Value},w.cell? p = some u → wr.cell? p = some u:=fun h=>(HBr.out.cell (block_lt_of_cell h)).trans h
   have s1:=up r1
   have s2:=up r2
   have hi0 : (0 : Int) ≤ k:=by omega
   have hi1 : (k : Int) < n1:=by omega
   have HP:=Lib.hid hp
   have HLT:=Lib.hid hlt
   have HTK:=Lib.hid (attrsX_take hp)
   have HE:=Lib.hid (fun W : World=>HES'.out true ⟨p2.toArray⟩ W (by have h9:=bts_len ⟨p2.toArray⟩;rw [bts_mk] at h9;have:=HSH.out _ (List.mem_of_getElem? hp);simp only at this;omega))
   rw [bts_mk] at HE
   have hatt : p1.length + (escL true p2).length ≤ 1000000:=by
    have h1:=attrsX_le al (k + 1)
    have h2:=HLL.out
    rw [HTK.out] at h1
    simp only [attrT,List.length_append,List.length_cons] at h1
    omega
   have HAT : Hid (attrT (p1,p2) = 32 :: (p1 ++ 61 :: 34 :: (escL true p2 ++ [34]))):=Lib.hid rfl
   generalize escL true p2 = el at HE hatt HAT
   have hp1 : p1.length ≤ 1000000:=by omega
   have hel : el.length ≤ 1000000:=by omega
   have HKS : Hid (∀ W : World,Below wr.heap.size wr W → W.cell? ⟨w.heap.size,2,none⟩ = some (.slice (some ⟨g,off,none⟩) n1 c1) ∧ W.cell? ⟨g,off + k * 2,none⟩ = some (.string ⟨p1.toArray⟩) ∧ W.cell? ⟨g,off + k * 2 + 1,none⟩ = some (.string ⟨p2.toArray⟩)):=
    Lib.hid (fun W hb=>⟨(hb.cell (block_lt_of_cell x2)).trans x2,(hb.cell (block_lt_of_cell s1)).trans s1,(hb.cell (block_lt_of_cell s2)).trans s2⟩)
   clear r1 r2 up hp hatt
   obtain ⟨z1,hz1⟩ : ∃ z,z = xl ++ [32]:=⟨_,rfl⟩
   obtain ⟨z2,hz2⟩ : ∃ z,z = z1 ++ p1:=⟨_,rfl⟩
   obtain ⟨z3,hz3⟩ : ∃ z,z = z2 ++ [61,34]:=⟨_,rfl⟩
   obtain ⟨z4,hz4⟩ : ∃ z,z = z3 ++ el:=⟨_,rfl⟩
   obtain ⟨z5,hz5⟩ : ∃ z,z = z4 ++ [34]:=⟨_,rfl⟩
   have HZ5 : Hid (z5 = xl ++ attrT (p1,p2)):=Lib.hid (by rw [hz5,hz4,hz3,hz2,hz1,HAT.out];simp)
   have l1 : z1.length ≤ 1000002:=by rw [hz1];simp;omega
   have l2 : z2.length ≤ 2000002:=by rw [hz2,List.length_append];omega
   have l3 : z3.length ≤ 2000004:=by rw [hz3,List.length_append];simp;omega
   have l4 : z4.length ≤ 3000004:=by rw [hz4,List.length_append];omega
   have q1 : ∀ W : World,(Op.stringOp .add ⟨xl.toArray⟩ ⟨#[32]⟩).run Tryz.prog W = .ok (.string ⟨z1.toArray⟩) W:=fun W=>by rw [hz1];exact add_any xl [32] (by omega) (by simp) W
   have q2 : ∀ W : World,(Op.stringOp .add ⟨z1.toArray⟩ ⟨p1.toArray⟩).run Tryz.prog W = .ok (.string ⟨z2.toArray⟩) W:=fun W=>by rw [hz2];exact add_any z1 p1 (by omega) (by omega) W
   have q3 : ∀ W : World,(Op.stringOp .add ⟨z2.toArray⟩ ⟨#[61,34]⟩).run Tryz.prog W = .ok (.string ⟨z3.toArray⟩) W:=fun W=>by rw [hz3];exact add_any z2 [61,34] (by omega) (by simp) W
   have q4 : ∀ W : World,(Op.stringOp .add ⟨z3.toArray⟩ ⟨el.toArray⟩).run Tryz.prog W = .ok (.string ⟨z4.toArray⟩) W:=fun W=>by rw [hz4];exact add_any z3 el (by omega) (by omega) W
   have q5 : ∀ W : World,(Op.stringOp .add ⟨z4.toArray⟩ ⟨#[34]⟩).run Tryz.prog W = .ok (.string ⟨z5.toArray⟩) W:=fun W=>by rw [hz5];exact add_any z4 [34] (by omega) (by simp) W
   clear hz1 hz2 hz3 hz4 hz5 l1 l2 l3 l4
   go_wp2_with fail
   go_region_held3 (fun W=>W.cell? ⟨w.heap.size,2,none⟩ = some (.slice (some ⟨g,off,none⟩) n1 c1) ∧ W.cell? ⟨g,off + k * 2,none⟩ = some (.string ⟨p1.toArray⟩) ∧ W.cell? ⟨g,off + k * 2 + 1,none⟩ = some (.string ⟨p2.toArray⟩))
    (first | go_keep | exact HKS.out _ (below_of_drew HB5.out) | exact HKS.out _ HB5.out)
    (first
     | ((with_reducible refine (HE.out _).mono ?_)
        rintro e w5 ⟨rfl,hb5⟩
        have HB5:=Lib.hid hb5
        clear hb5)
     | fail)
   have HBN:=Lib.hid (th HBr.out (Nat.le_refl _) (below_of_drew HB5.out))
   have HXN:=Lib.hid (HXr.out.below (below_of_drew HB5.out) (Nat.le_refl _))
   have HZN : Hid (z5 = 60 :: lb ++ attrsX (al.take (k + 1))):=Lib.hid (by rw [HZ5.out,HXL.out,HTK.out];simp)
   clear q1 q2 q3 q4 q5
   go_wp2
   exact ⟨⟨k + 1,z5,by have:=HLT.out;omega,by go_num,rfl,HZN,HXN,HBN⟩,by have:=HLT.out;simp [intOf];omega⟩
  ·obtain rfl : n1 = k:=by omega
   have HXF : Hid (xl = 60 :: lb ++ attrsX al):=Lib.hid (by have h9:=HXL.out;rwa [List.take_of_length_le (by rw [← HN1.out];omega)] at h9)
   rcases Nat.eq_zero_or_pos n2 with h2 | h2
   ·subst h2
    have hks : ks = []:=List.eq_nil_of_length_eq_zero HN2.out.symm
    have HRES : Hid ((⟨xl.toArray⟩ : ByteArray) ++ ⟨#[47,62]⟩ = ⟨(textX (.node lb tx al ks)).toArray⟩):=Lib.hid (by
     rw [show (⟨#[47,62]⟩ : ByteArray) = ⟨[47,62].toArray⟩ from rfl,ByteArray.mk_append_mk,hks,textX_empty _ _ HLB.out,HXF.out])
    clear hks
    go_wp2
    go_ret
    exact ⟨by rw [← HRES.out];rfl,HBr.out⟩
   ·have hi2 : (0 : Int) < n2:=by omega
    have g2 : ((n2 : Int) == 0) = false:=by simp;omega
    have hkn : ks ≠ []:=by intro h;rw [h] at HN2;have:=HN2.out;simp at this;omega
    have HTX:=Lib.hid (textX_elem tx al HLB.out hkn)
    have hbd : (kidsX ks).length + (attrsX al).length + lb.length ≤ 1000000:=by
     have h9:=HL.out
     rw [HTX.out] at h9
     simp at h9
     omega
    have HBD:=Lib.hid hbd
    clear hkn hbd
    go_wp2_with fail
    clear x0 x1 x2 x3
    go_loopw [3,5] (fun v i wr=>∃ (k : Nat) (yl : List UInt8),k ≤ n2 ∧ i = .int .i64 k ∧ v = .string ⟨yl.toArray⟩ ∧ Hid (yl = 60 :: lb ++ attrsX al ++ [62] ++ kidsX (ks.take k)) ∧ Hid (Box4 w.heap.size ⟨lb.toArray⟩ ⟨tx.toArray⟩ (.slice a n1 c1) (.slice d n2 c2) wr) ∧ Hid (Below w.heap.size w wr)) (fun _ i _=>n2 - (intOf i).toNat)
    case atStart=>exact ⟨0,xl ++ [62],by omega,rfl,by rw [show (⟨#[62]⟩ : ByteArray) = ⟨[62].toArray⟩ from rfl,ByteArray.mk_append_mk],Lib.hid (by rw [HXF.out];simp [kidsX]),HXr,HBr⟩
    case round=>
     obtain ⟨j,yl,hj,rfl,rfl,HYL,HXq,HBq⟩:=hrel
     obtain ⟨x0,x1,x2,x3⟩:=HXq.out.at
     have hxlq:=HXq.out.lt
     have hyl : yl.length ≤ 1000002:=by
      have h1:=kidsX_le ks j
      have h2:=HBD.out
      rw [HYL.out]
      simp only [List.length_append,List.length_cons,List.length_nil]
      omega
     by_cases hlt : j < n2
     ·obtain rfl:=HD.out (by omega)
      obtain ⟨⟨l1,t1,al1,js1⟩,hp⟩ : ∃ b,ks[j]? = some b:=⟨_,List.getElem?_eq_getElem (by rw [← HN2.out];omega)⟩
      obtain ⟨va,vk,r1,r2,r3,r4,r5⟩:=HKC.out j _ _ _ _ hp
      have up : ∀ {p : Addr} {u : Value},w.cell? p = some u → wr.cell? p = some u:=fun h=>(HBq.out.cell (block_lt_of_cell h)).trans h
      have s1:=up r1
      have s2:=up r2
      have s3:=up r3
      have s4:=up r4
      have hj0 : (0 : Int) ≤ j:=by omega
      have hj1 : (j : Int) < n2:=by omega
      have HLT:=Lib.hid hlt
      have HTK:=Lib.hid (kidsX_take hp)
      have hkl : (textX (.node l1 t1 al1 js1)).length ≤ 1000000:=by
       have h1:=kidsX_le ks (j + 1)
       have h2:=HBD.out
       rw [HTK.out,List.length_append] at h1
       omega
      have HCL:=Lib.hid (HIH.out j _ hp _ wr (r5.below HBq.out (Nat.le_refl _)))
      generalize textX (.node l1 t1 al1 js1) = L at HTK hkl HCL
      have q1 : ∀ W : World,(Op.stringOp .add ⟨yl.toArray⟩ ⟨L.toArray⟩).run Tryz.prog W = .ok (.string ⟨(yl ++ L).toArray⟩) W:=fun W=>add_any yl L (by omega) (by omega) W
      clear r1 r2 r3 r4 r5 up hp
      go_wp2_with fail
      (with_reducible refine HCL.out.mono ?_)
      rintro e w5 ⟨rfl,hb5⟩
      have HBN:=Lib.hid (th HBq.out (Nat.le_refl _) hb5)
      have HXN:=Lib.hid (HXq.out.below hb5 (Nat.le_refl _))
      have HZN : Hid (yl ++ L = 60 :: lb ++ attrsX al ++ [62] ++ kidsX (ks.take (j + 1))):=Lib.hid (by rw [HYL.out,HTK.out];simp)
      clear hb5 x0 x1 x2 x3 s1 s2 s3 s4
      go_wp2
      exact ⟨⟨j + 1,yl ++ L,by have:=HLT.out;omega,by go_num,by first | rfl | (rw [ByteArray.mk_append_mk];done),HZN,HXN,HBN⟩,by have:=HLT.out;simp [intOf];omega⟩
     ·obtain rfl : n2 = j:=by omega
      have HYF : Hid (yl = 60 :: lb ++ attrsX al ++ [62] ++ kidsX ks):=Lib.hid (by have h9:=HYL.out;rwa [List.take_of_length_le (by rw [← HN2.out];omega)] at h9)
      obtain ⟨z1,hz1⟩ : ∃ z,z = yl ++ [60,47]:=⟨_,rfl⟩
      obtain ⟨z2,hz2⟩ : ∃ z,z = z1 ++ lb:=⟨_,rfl⟩
      obtain ⟨z3,hz3⟩ : ∃ z,z = z2 ++ [62]:=⟨_,rfl⟩
      have HZ3 : Hid (z3 = textX (.node lb tx al ks)):=Lib.hid (by rw [hz3,hz2,hz1,HYF.out,HTX.out];simp)
      have l1 : z1.length ≤ 1000010:=by rw [hz1,List.length_append];simp;omega
      have l2 : z2.length ≤ 2000010:=by rw [hz2,List.length_append];omega
      have q1 : ∀ W : World,(Op.stringOp .add ⟨yl.toArray⟩ ⟨#[60,47]⟩).run Tryz.prog W = .ok (.string ⟨z1.toArray⟩) W:=fun W=>by rw [hz1];exact add_any yl [60,47] (by omega) (by simp) W
      have q2 : ∀ W : World,(Op.stringOp .add ⟨z1.toArray⟩ ⟨lb.toArray⟩).run Tryz.prog W = .ok (.string ⟨z2.toArray⟩) W:=fun W=>by rw [hz2];exact add_any z1 lb (by omega) (by omega) W
      have q3 : ∀ W : World,(Op.stringOp .add ⟨z2.toArray⟩ ⟨#[62]⟩).run Tryz.prog W = .ok (.string ⟨z3.toArray⟩) W:=fun W=>by rw [hz3];exact add_any z2 [62] (by omega) (by simp) W
      clear hz1 hz2 hz3 l1 l2
      go_wp2
      go_ret
      exact ⟨by rw [← HZ3.out];rfl,HBq.out⟩
theorem textR_any (HES : EscC) (t : Tr) : sizeT t = true → ∀ d,(∀ x ∈ nodesT d t,shortN x.2) → (textX t).length ≤ 1000000 → ∀ (hs : List Value) (w : World),TreeV w t hs →
  Calls Tryz.prog 22 #[.agg hs.toArray] w fun e w'=>e = .returned (.string ⟨(textX t).toArray⟩) ∧ Below w.heap.size w w':=by
 refine Tr.rec (motive_1:=fun t=>sizeT t = true → ∀ d,(∀ x ∈ nodesT d t,shortN x.2) → (textX t).length ≤ 1000000 → ∀ (hs : List Value) (w : World),TreeV w t hs →
   Calls Tryz.prog 22 #[.agg hs.toArray] w fun e w'=>e = .returned (.string ⟨(textX t).toArray⟩) ∧ Below w.heap.size w w')
  (motive_2:=fun ks=>sizeK ks = true → ∀ d,(∀ x ∈ nodesK d ks,shortN x.2) → (kidsX ks).length ≤ 1000000 → ∀ (k : Nat) (t : Tr),ks[k]? = some t → ∀ (hs : List Value) (w : World),TreeV w t hs →
   Calls Tryz.prog 22 #[.agg hs.toArray] w fun e w'=>e = .returned (.string ⟨(textX t).toArray⟩) ∧ Below w.heap.size w w') ?_ ?_ ?_ t
 ·intro lb tx al ks ih hsz d hsh hlen hs w ht
  simp only [sizeT,Bool.and_eq_true,decide_eq_true_eq] at hsz
  have hsn : shortN (.node lb tx al ks):=hsh (d,.node lb tx al ks) (by rw [nodesT_eq];simp)
  rw [TreeV.eq] at ht
  obtain ⟨va,vk,rfl,h3,l,h4,h5⟩:=ht
  by_cases hlb : lb = []
  ·subst hlb
   obtain ⟨a,c,rfl,_⟩:=h3
   obtain ⟨a',c',rfl,_⟩:=h5
   exact textR_text HES tx al ks a a' _ c _ c' w hsn.1
  ·obtain ⟨a,c,g,off,rfl,ha,hc⟩:=attr_at h3
   obtain ⟨d',e0,gk,ok,rfl,hd,hkc⟩:=kid_at h4 h5
   have hkl : (kidsX ks).length ≤ 1000000:=by
    by_cases hk : ks = []
    ·rw [hk];simp [kidsX]
    ·rw [textX_elem tx al hlb hk] at hlen;simp at hlen;omega
   exact textR_elem HES lb tx hlb al ks a d' al.length c ks.length e0 g off gk ok w rfl rfl (by omega) (by omega) ha hc hd hkc hsn.2 hlen (ih hsz.2 (d + 1) (fun x hx=>hsh x (by rw [nodesT_eq];simp [hx])) hkl)
 ·intro _ _ _ _ k t h
  simp at h
 ·intro t ks ih1 ih2 hsz d hsh hlen k u hk
  simp only [sizeK,Bool.and_eq_true] at hsz
  have hlen2 : (textX t).length + (kidsX ks).length ≤ 1000000:=by
   have : kidsX (t :: ks) = textX t ++ kidsX ks:=rfl
   rw [this,List.length_append] at hlen
   exact hlen
  cases k with
  | zero=>
   simp only [List.getElem?_cons_zero,Option.some.injEq] at hk
   rw [← hk]
   exact ih1 hsz.1 d (fun x hx=>hsh x (by simp [nodesK,hx])) (by omega)
  | succ k=>exact ih2 hsz.2 d (fun x hx=>hsh x (by simp [nodesK,hx])) (by omega) k u (by simpa using hk)
def costS (l : List Stp) : Nat:=(l.map fun x=>2 * x.name.length + 6 * x.text.length + 8).sum
theorem costS_append (a b : List Stp) : costS (a ++ b) = costS a + costS b:=by simp [costS,List.map_append,List.sum_append]
theorem costS_cons (x : Stp) (b : List Stp) : costS (x :: b) = (2 * x.name.length + 6 * x.text.length + 8) + costS b:=by simp [costS]
theorem costS_attrs : ∀ al : List (List UInt8 × List UInt8),wA al ≤ costS (al.map attrS) ∧ (attrsX al).length ≤ costS (al.map attrS):=by
 intro al
 induction al with
 | nil=>exact ⟨by simp [wA,costS],by simp [attrsX]⟩
 | cons a r ih=>
  have h2 : wA (a :: r) = 1 + a.1.length + a.2.length + wA r:=by simp [wA]
  have h3 : (attrT a).length = a.1.length + (escL true a.2).length + 4:=by unfold attrT;simp;omega
  have h4:=(escL_len true a.2).2
  have h5 : attrsX (a :: r) = attrT a ++ attrsX r:=by unfold attrsX;rw [List.flatMap_cons]
  rw [List.map_cons,costS_cons,h5,List.length_append,h3,h2]
  show _ ≤ 2 * a.1.length + 6 * a.2.length + 8 + _ ∧ _ ≤ 2 * a.1.length + 6 * a.2.length + 8 + _
  omega
theorem cost_tree (t : Tr) : bareA t = true → wT t ≤ costS (stepsT t) ∧ (textX t).length ≤ costS (stepsT t):=by
 refine Tr.rec (motive_1:=fun t=>bareA t = true → wT t ≤ costS (stepsT t) ∧ (textX t).length ≤ costS (stepsT t))
  (motive_2:=fun ks=>bareK ks = true → wK ks ≤ costS (stepsK ks) ∧ (kidsX ks).length ≤ costS (stepsK ks)) ?_ ?_ ?_ t
 ·intro lb tx al ks ih hb
  have hw : wT (.node lb tx al ks) = 1 + lb.length + tx.length + wA al + wK ks:=by rw [wT]
  by_cases h0 : lb = []
  ·subst h0
   obtain ⟨ha,hk⟩:=bare_text_parts hb
   subst ha hk
   have he:=(escL_len false tx).2
   rw [hw,textX_text,stepsT,if_pos rfl,costS_cons]
   have e1 : wA ([] : List (List UInt8 × List UInt8)) = 0:=by simp [wA]
   have e2 : wK ([] : List Tr) = 0:=by rw [wK]
   have e3 : costS [] = 0:=by simp [costS]
   rw [e1,e2,e3]
   show 1 + 0 + tx.length + 0 + 0 ≤ 2 * 0 + 6 * tx.length + 8 + 0 ∧ _ ≤ 2 * 0 + 6 * tx.length + 8 + 0
   omega
  ·obtain ⟨htx,hk⟩:=bare_elem_parts h0 hb
   subst htx
   obtain ⟨i1,i2⟩:=ih hk
   obtain ⟨a1,a2⟩:=costS_attrs al
   rw [hw,stepsT,if_neg h0,costS_cons,costS_append,costS_append,costS_cons]
   have e3 : costS [] = 0:=by simp [costS]
   rw [e3]
   show 1 + lb.length + 0 + wA al + wK ks ≤ 2 * lb.length + 6 * 0 + 8 + (costS (al.map attrS) + (costS (stepsK ks) + (2 * 0 + 6 * 0 + 8 + 0))) ∧ _ ≤ 2 * lb.length + 6 * 0 + 8 + (costS (al.map attrS) + (costS (stepsK ks) + (2 * 0 + 6 * 0 + 8 + 0)))
   refine ⟨by omega,?_⟩
   by_cases hks : ks = []
   ·subst hks
    rw [textX_empty _ _ h0]
    simp only [List.length_append,List.length_cons,List.length_nil]
    omega
   ·rw [textX_elem _ _ h0 hks]
    simp only [List.length_append,List.length_cons,List.length_nil]
    omega
 ·intro _
  exact ⟨by rw [wK];omega,by simp [kidsX]⟩
 ·intro t ks i1 i2 hb
  have hb2 : bareA t = true ∧ bareK ks = true:=by rw [bareK] at hb;simpa using hb
  obtain ⟨b1,b2⟩:=hb2
  obtain ⟨j1,j2⟩:=i1 b1
  obtain ⟨k1,k2⟩:=i2 b2
  have hw : wK (t :: ks) = wT t + wK ks:=by rw [wK]
  rw [stepsK,costS_append,hw]
  have hx : kidsX (t :: ks) = textX t ++ kidsX ks:=by unfold kidsX;rw [List.flatMap_cons]
  rw [hx,List.length_append]
  omega
theorem few_cost {l : List Stp} (h : fewS l = true) : costS l ≤ 48480:=by
 unfold fewS at h
 simp only [Bool.and_eq_true,decide_eq_true_eq,List.all_eq_true] at h
 obtain ⟨h1,h2⟩:=h
 have h3 : ∀ q : List Stp,(∀ x ∈ q,x.name.length ≤ 100 ∧ x.text.length ≤ 100) → costS q ≤ q.length * 808:=by
  intro q
  induction q with
  | nil=>intro _;simp [costS]
  | cons x r ih=>
   intro hx
   have g1:=hx x (by simp)
   have g2:=ih (fun y hy=>hx y (by simp [hy]))
   rw [costS_cons,List.length_cons]
   omega
 have:=h3 l h1
 omega
theorem short_w (t : Tr) (h : wT t ≤ 100000) (d : Nat) : ∀ x ∈ nodesT d t,shortN x.2:=by
 intro x hx
 have h1:=(fit_w t d).2.2 x hx
 obtain ⟨k,lb,tx,al,ks⟩:=x
 have hw : wT (.node lb tx al ks) = 1 + lb.length + tx.length + wA al + wK ks:=by rw [wT]
 have h2 : wT (.node lb tx al ks) ≤ wT t:=h1
 refine ⟨by omega,fun a ha=>?_⟩
 have:=wA_memS ha
 omega
set_option maxHeartbeats 4000000 in
set_option maxRecDepth 20000 in
theorem xwrites_any (l : List Stp) (v : Value) (w : World) (hm : LayT w) (hv : AtRow w v l.length 3 (stepCells l)) (hl : l.length ≤ 1000000) :
  Calls Tryz.prog 4 #[v] w fun e w'=>e = .returned (.bool true) ∧ Below w.heap.size w w':=by
 have HAW : Hid (∀ W,Below w.heap.size w W → Calls Tryz.prog 8 #[] W fun e w'=>e = .returned (.bool true) ∧ Below w.heap.size w w'):=Lib.hid (fun W hb=>(awake5_any W (hm.below hb hm.size)).mono (fun e w' r=>⟨r.1,th hb (Nat.le_refl _) r.2⟩))
 have HRW:=Lib.hid (rawS_any l v w hv hl)
 have HM:=Lib.hid hm
 have HV:=Lib.hid hv
 have HL:=Lib.hid hl
 have hfe : fewS l = true ∨ fewS l = false:=by cases fewS l <;> simp
 clear hm hv hl
 go_enter Tryz.func4,Tryz.ntmps4
 go_wp2_with fail
 refine HRW.out.mono ?_
 rintro e w1 ⟨hb1,lbb,txb,a1,a2,n1,c1,n2,c2,is,rfl,hT⟩
 obtain ⟨W2,hW2⟩ : ∃ W2,W2 = w1.alloc (.cells #[.string lbb,.string txb,.slice a1 n1 c1,.slice a2 n2 c2] 27):=⟨_,rfl⟩
 have HB2 : Hid (Below w1.heap.size w1 W2):=Lib.hid (by rw [hW2];exact (Below.refl _ w1).alloc (Nat.le_refl _) _)
 have HG2:=Lib.hid (th hb1 (Nat.le_refl _) HB2.out)
 have HX2 : Hid (Box4 w1.heap.size lbb txb (.slice a1 n1 c1) (.slice a2 n2 c2) W2):=Lib.hid (by rw [hW2];exact Box4.made _ _ _ _ _)
 have HT:=Lib.hid hT
 clear hb1 hT
 go_upto_region 2 with fail
 rw [← hW2]
 clear hW2
 have HFW:=Lib.hid (fewS_any l v W2 (HV.out.below HG2.out (Nat.le_refl _)) HL.out)
 rcases hfe with hfe | hfe
 ·rw [hfe] at HFW
  cases is with
  | false=>
   go_wp2_with fail
   refine HFW.out.mono ?_
   rintro e w3 ⟨rfl,hb3⟩
   have HG3:=Lib.hid (th HG2.out (Nat.le_refl _) hb3)
   clear hb3
   go_wp2_with fail
   refine (HAW.out _ HG3.out).mono ?_
   rintro e wz ⟨rfl,hbz⟩
   go_wp2
   go_ret
   exact ⟨rfl,hbz⟩
  | true=>
   obtain ⟨T,hts,hbt,hst⟩:=HT.out rfl
   have htv:=TreeS.v _ _ hts
   have htv2:=htv.below HB2.out (Nat.le_refl _)
   obtain ⟨hc1,hc2⟩:=cost_tree T hbt
   rw [hst] at hc1 hc2
   have hc3:=few_cost hfe
   have HWT:=Lib.hid (show wT T ≤ 48480 by omega)
   have HXT:=Lib.hid (show (textX T).length ≤ 48480 by omega)
   have HBT:=Lib.hid hbt
   have HST:=Lib.hid hst
   have hlb : lbb = ⟨(trL T).toArray⟩:=by
    cases T with
    | node b x al ks=>
     rw [TreeV.eq] at htv
     obtain ⟨_,_,hh,_⟩:=htv
     simp only [List.cons.injEq,Value.string.injEq] at hh
     exact hh.1
   have HLB:=Lib.hid hlb
   have HT2:=Lib.hid htv2
   have HEM:=Lib.hid (emp_iff (trL T))
   clear hts hbt hst htv htv2 hc1 hc2 hc3 hfe hlb
   have HCK:=Lib.hid (chk_steps HBT.out)
   rw [HST.out] at HCK
   go_wp2_with fail
   refine HFW.out.mono ?_
   rintro e w3 ⟨rfl,hb3⟩
   have HG3:=Lib.hid (th HG2.out (Nat.le_refl _) hb3)
   have HX3:=Lib.hid (HX2.out.below hb3 (Nat.le_refl _))
   have HT3:=Lib.hid (HT2.out.below hb3 (Nat.le_refl _))
   have HM3:=Lib.hid (HM.out.below HG3.out HM.out.size)
   clear hb3
   have HWR:=Lib.hid (write_any T _ w3 HM3.out HT3.out (by have:=HWT.out;omega) HBT.out)
   obtain ⟨x0,x1,x2,x3⟩:=HX3.out.at
   go_wp2_with fail
   refine HWR.out.mono ?_
   rintro e w4 ⟨hb4,hcases⟩
   have HG4:=Lib.hid (th HG3.out (Nat.le_refl _) hb4)
   have HX4:=Lib.hid (HX3.out.below hb4 (Nat.le_refl _))
   have HT4:=Lib.hid (HT3.out.below hb4 (Nat.le_refl _))
   have HM4:=Lib.hid (HM3.out.below hb4 HM3.out.size)
   clear hb4 x0 x1 x2 x3
   obtain ⟨x0,x1,x2,x3⟩:=HX4.out.at
   rcases hcases with ⟨h1,rfl⟩ | ⟨h1,h2,rfl⟩ | ⟨h1,h2,h3,a5,c5,rfl,hrow⟩ | ⟨_,_,h1,_⟩
   ·have hlz : lbb = ⟨#[]⟩:=by rw [HLB.out,h1]
    clear HLB h1
    subst hlz
    go_wp2_with fail
    refine (HAW.out _ HG4.out).mono ?_
    rintro e wz ⟨rfl,hbz⟩
    go_wp2
    go_ret
    exact ⟨rfl,hbz⟩
   ·have hne:=HEM.out
    rw [decide_eq_false h1,← HLB.out] at hne
    have hfb : (chkT T != 0) = true:=by simpa using h2
    rw [HCK.out] at hfb ⊢
    obtain ⟨f,hf⟩ : ∃ f,f = checkS l:=⟨_,rfl⟩
    rw [← hf] at hfb ⊢
    have HF:=Lib.hid hf
    clear h1 h2 hf
    have HPL:=Lib.hid (plainS_any l v w4 (HV.out.below HG4.out (Nat.le_refl _)) HL.out)
    go_wp2_with fail
    refine HPL.out.mono ?_
    rintro e w5 ⟨hb5,a5,c5,rfl,hrow⟩
    have HG5:=Lib.hid (th HG4.out (Nat.le_refl _) hb5)
    have HCR:=Lib.hid (checkR_any l (.slice a5 l.length c5) w5 (AtRow.of_own hrow) HL.out (fun x hx=>by
      have h9:=(steps_w T).2 x (by rw [HST.out];exact hx)
      have:=HWT.out
      exact ⟨by omega,by omega⟩)
     (fun s W hs _=>(refIsN_any ⟨s.toArray⟩ W (by rw [← bts_len,bts_mk];exact hs)).mono (fun e w' r=>by rw [bts_mk] at r;exact r))
     (fun s W hs _=>(chars_big ⟨s.toArray⟩ W (by rw [← bts_len,bts_mk];exact hs)).mono (fun e w' r=>by rw [bts_mk] at r;exact r)))
    rw [← HF.out] at HCR
    clear hb5 hrow x0 x1 x2 x3
    go_wp2_with fail
    refine HCR.out.mono ?_
    rintro e w6 ⟨rfl,hb6⟩
    have HG6:=Lib.hid (th HG5.out (Nat.le_refl _) hb6)
    clear hb6
    go_wp2_with fail
    refine (HAW.out _ HG6.out).mono ?_
    rintro e wz ⟨rfl,hbz⟩
    go_wp2
    go_ret
    exact ⟨rfl,hbz⟩
   ·have hne:=HEM.out
    rw [decide_eq_false h1,← HLB.out] at hne
    rw [h2] at HCK
    have HF:=Lib.hid HCK.out.symm
    have HPL:=Lib.hid (plainS_any l v w4 (HV.out.below HG4.out (Nat.le_refl _)) HL.out)
    have HRO:=Lib.hid hrow
    obtain ⟨FL,hFL⟩ : ∃ FL,FL = (textX T).length:=⟨_,rfl⟩
    obtain ⟨tb,htb⟩ : ∃ tb : ByteArray,tb = ⟨(textX T).toArray⟩:=⟨_,rfl⟩
    rw [← hFL] at HRO ⊢
    have HFL:=Lib.hid hFL
    have HTB:=Lib.hid htb
    clear h1 h2 h3 hrow hFL htb
    go_wp2_with fail
    refine HPL.out.mono ?_
    rintro e w5 ⟨hb5,a6,c6,rfl,hrow⟩
    have HG5:=Lib.hid (th HG4.out (Nat.le_refl _) hb5)
    have HX5:=Lib.hid (HX4.out.below hb5 (Nat.le_refl _))
    have HT5:=Lib.hid (HT4.out.below hb5 (Nat.le_refl _))
    have HCR:=Lib.hid (checkR_any l (.slice a6 l.length c6) w5 (AtRow.of_own hrow) HL.out (fun x hx=>by
      have h9:=(steps_w T).2 x (by rw [HST.out];exact hx)
      have:=HWT.out
      exact ⟨by omega,by omega⟩)
     (fun s W hs _=>(refIsN_any ⟨s.toArray⟩ W (by rw [← bts_len,bts_mk];exact hs)).mono (fun e w' r=>by rw [bts_mk] at r;exact r))
     (fun s W hs _=>(chars_big ⟨s.toArray⟩ W (by rw [← bts_len,bts_mk];exact hs)).mono (fun e w' r=>by rw [bts_mk] at r;exact r)))
    rw [HF.out] at HCR
    have HR5:=Lib.hid (own_below HRO.out hb5)
    clear hb5 hrow x0 x1 x2 x3
    go_wp2_with fail
    refine HCR.out.mono ?_
    rintro e w6 ⟨rfl,hb6⟩
    have HG6:=Lib.hid (th HG5.out (Nat.le_refl _) hb6)
    have HX6:=Lib.hid (HX5.out.below hb6 (Nat.le_refl _))
    have HT6:=Lib.hid (HT5.out.below hb6 (Nat.le_refl _))
    have HR6:=Lib.hid (own_below HR5.out hb6)
    clear hb6
    have HKEEP : Hid (∀ W,Below w6.heap.size w6 W → W.cell? ⟨w1.heap.size,0,none⟩ = some (.string lbb) ∧ W.cell? ⟨w1.heap.size,1,none⟩ = some (.string txb) ∧ W.cell? ⟨w1.heap.size,2,none⟩ = some (.slice a1 n1 c1) ∧ W.cell? ⟨w1.heap.size,3,none⟩ = some (.slice a2 n2 c2) ∧ (convert 22 9 (.slice a5 FL c5)).run Tryz.prog W = .ok (.string tb) W ∧ Hid (Below w6.heap.size w6 W)):=Lib.hid (fun W hb=>by
     obtain ⟨z0,z1,z2,z3⟩:=(HX6.out.below hb (Nat.le_refl _)).at
     refine ⟨z0,z1,z2,z3,?_,Lib.hid hb⟩
     have h9:=own_below HR6.out hb
     rw [HFL.out] at h9 ⊢
     rw [HTB.out]
     exact conv_own W _ _ _ h9)
    have HTX : Hid (∀ W,Below w6.heap.size w6 W → Calls Tryz.prog 22 #[.agg #[.string lbb,.string txb,.slice a1 n1 c1,.slice a2 n2 c2]] W fun e w'=>e = .returned (.string tb) ∧ Below w6.heap.size w6 w'):=Lib.hid (fun W hb=>(textR_any (fun v s w hs=>refEscape_any v s w hs) T (sizeT_w T (by have:=HWT.out;omega)) 0 (short_w T (by have:=HWT.out;omega) 0) (by have:=HXT.out;omega) _ W (HT6.out.below hb (Nat.le_refl _))).mono (fun e w' r=>⟨by rw [HTB.out];exact r.1,th hb (Nat.le_refl _) r.2⟩))
    have HAX : Hid (∀ W,Below w6.heap.size w6 W → Calls Tryz.prog 8 #[] W fun e w'=>e = .returned (.bool true) ∧ Below w6.heap.size w6 w'):=Lib.hid (fun W hb=>(awake5_any W (HM.out.below (th HG6.out (Nat.le_refl _) hb) HM.out.size)).mono (fun e w' r=>⟨r.1,th hb (Nat.le_refl _) r.2⟩))
    obtain ⟨x0,x1,x2,x3,x4,_⟩:=HKEEP.out _ (Below.refl _ _)
    have HB6 : Hid (Below w6.heap.size w6 w6):=Lib.hid (Below.refl _ _)
    go_upto_region 10 with fail
    go_region_held3 (fun W=>W.cell? ⟨w1.heap.size,0,none⟩ = some (.string lbb) ∧ W.cell? ⟨w1.heap.size,1,none⟩ = some (.string txb) ∧ W.cell? ⟨w1.heap.size,2,none⟩ = some (.slice a1 n1 c1) ∧ W.cell? ⟨w1.heap.size,3,none⟩ = some (.slice a2 n2 c2) ∧ (convert 22 9 (.slice a5 FL c5)).run Tryz.prog W = .ok (.string tb) W ∧ Hid (Below w6.heap.size w6 W)) (first | (refine HKEEP.out _ ?_;first | assumption | exact HB6.out.drew | exact HB6.out)) (first | (go_at_call 22;go_split_ands;refine (HTX.out _ (Hid.out (by assumption))).mono ?_;rintro e w7 ⟨rfl,hM7⟩) | (go_at_call 8;go_split_ands;refine (HAX.out _ (Hid.out (by assumption))).mono ?_;rintro e w7 ⟨rfl,hM7⟩))
    all_goals (
     clear x0 x1 x2 x3 x4
     go_split_ands
     rename_i hMv
     have HBN:=Lib.hid (th HG6.out (Nat.le_refl _) hMv.out)
     go_wp2
     go_ret
     exact ⟨rfl,HBN.out⟩)
   ·have:=HXT.out;omega
 ·rw [hfe] at HFW
  go_wp2_with fail
  refine HFW.out.mono ?_
  rintro e w3 ⟨rfl,hb3⟩
  have HG3:=Lib.hid (th HG2.out (Nat.le_refl _) hb3)
  clear hb3
  go_wp2_with fail
  refine (HAW.out _ HG3.out).mono ?_
  rintro e wz ⟨rfl,hbz⟩
  go_wp2
  go_ret
  exact ⟨rfl,hbz⟩
open Go.RowKit Go.Shelf Go.ChangeShapes Go.WideShapes Go.Deep
theorem list_of {α : Type} [Inhabited α] {P : Nat → α → Prop} (n : Nat) (h : ∀ i,i < n → ∃ x,P i x) : ∃ l : List α,l.length = n ∧ ∀ i x,l[i]? = some x → P i x:=by
 induction n with
 | zero=>exact ⟨[],rfl,fun i x hx=>by simp at hx⟩
 | succ n ih=>
  obtain ⟨l,h1,h2⟩:=ih (fun i hi=>h i (by omega))
  obtain ⟨x,hx⟩:=h n (by omega)
  refine ⟨l ++ [x],by simp [h1],fun i y hy=>?_⟩
  rcases Nat.lt_or_ge i l.length with h3 | h3
  ·rw [List.getElem?_append_left h3] at hy
   exact h2 i y hy
  ·have h4 : i < (l ++ [x]).length:=(List.getElem?_eq_some_iff.1 hy).1
   rw [List.length_append,List.length_singleton] at h4
   have h5 : i = l.length:=by omega
   subst h5
   rw [List.getElem?_concat_length] at hy
   injection hy with hy
   rw [← hy,h1]
   exact hx
theorem sum_bulk {α H : Type} (f : α → Nat) (D : Nat → DataW H) : ∀ (l : List α) (k : Nat),(∀ i x,l[i]? = some x → f x ≤ Rows.uptoBulk (D (k + i))) → (l.map f).sum ≤ Rows.uptoBulkAll ((List.range' k l.length).map D):=by
 intro l
 induction l with
 | nil=>intro k _;simp
 | cons c t ih=>
  intro k h
  have h0:=h 0 c rfl
  have h1:=ih (k + 1) (fun i x hx=>by
   have:=h (i + 1) x (by simpa using hx)
   rwa [show k + (i + 1) = k + 1 + i by omega] at this)
  simp only [List.length_cons,List.range'_succ,List.map_cons,List.sum_cons,Rows.uptoBulkAll]
  rw [Nat.add_zero] at h0
  omega
theorem bulk_slice {H : Type} {α : Type} (f : α → Nat) (D : Nat → DataW H) (l : List α) (spare : List (DataW H)) (h : ∀ i x,l[i]? = some x → f x ≤ Rows.uptoBulk (D i)) : (l.map f).sum + 1 ≤ Rows.uptoBulk (.slice ((List.range l.length).map D) spare):=by
 have:=sum_bulk f D l 0 (fun i x hx=>by rw [Nat.zero_add];exact h i x hx)
 rw [← List.range_eq_range'] at this
 simp only [Rows.uptoBulk]
 omega
theorem sum_mem {α : Type} (f : α → Nat) : ∀ {l : List α} {x : α},x ∈ l → f x ≤ (l.map f).sum:=by
 intro l
 induction l with
 | nil=>intro x h;cases h
 | cons c t ih=>
  intro x h
  simp only [List.map_cons,List.sum_cons]
  rcases List.mem_cons.1 h with rfl | h
  ·omega
  ·have:=ih h;omega
theorem atRow_of {w : World} {x : Addr} {len cap size : Nat} {xs : List Value} (hs : 0 < size) (hl : xs.length = len * size) (hc : len ≤ cap) (h : ∀ j u,xs[j]? = some u → w.cell? (x.add j) = some u) : AtRow w (.slice (some x) len cap) len size xs:=by
 refine ⟨some x,cap,rfl,hc,hl,fun h0=>?_⟩
 obtain ⟨b,off,spot⟩:=x
 have hpos : 0 < xs.length:=by rw [hl];exact Nat.mul_pos h0 hs
 have hspot : spot = none:=by
  have:=World.cell?_spot (h 0 _ (List.getElem?_eq_getElem hpos))
  simpa [Addr.add] using this
 subst hspot
 refine ⟨b,off,rfl,fun j u hj=>?_⟩
 have:=h j u hj
 have e : (⟨b,off,none⟩ : Addr).add j = ⟨b,off + j,none⟩:=by unfold Addr.add;split <;> simp_all
 rwa [e] at this
theorem field_of {H : Type} {enc : TypeId × Value → H} {w : World} {base : Nat} {spare : Nat → Bool} {held : Bool} {fs : Array Field} (hone : oneCellFields Tryz.prog fs = true) {n : Nat} {cs : List Value} {xs : List (DataW H × List MemPlace)} (hlen : cs.length = fs.size) (hxs : xs.length = fs.size)
  (hf : ∀ (i : Nat) (f : Field),fs[i]? = some f → DataW.trod enc Tryz.prog w base spare held n f.type ((cs.drop f.offset).take (Tryz.prog.cellsOf f.type)) = xs[i]?) (j : Nat) (f : Field) (hj : fs[j]? = some f) :
  ∃ v y,cs[j]? = some v ∧ xs[j]? = some y ∧ DataW.trod enc Tryz.prog w base spare held n f.type [v] = some y:=by
 obtain ⟨ho,hk⟩:=hone_of hone j f hj
 have hjl : j < fs.size:=(Array.getElem?_eq_some_iff.1 hj).1
 have h1:=hf j f hj
 rw [ho,hk,List.drop_eq_getElem_cons (by omega)] at h1
 exact ⟨cs[j]'(by omega),xs[j]'(by omega),List.getElem?_eq_getElem (by omega),List.getElem?_eq_getElem (by omega),h1.trans (List.getElem?_eq_getElem (by omega))⟩
theorem step_cells_inv {l : List Stp} {w : World} {x : Addr} (h : ∀ i y,l[i]? = some y → ∀ r u,(stepCells [y])[r]? = some u → w.cell? (x.add (i * 3 + r)) = some u) :
  ∀ j u,(stepCells l)[j]? = some u → w.cell? (x.add j) = some u:=by
 induction l generalizing x with
 | nil=>intro j u hj;simp [stepCells] at hj
 | cons c t ih=>
  intro j u hj
  have e3 : (stepCells [c]).length = 3:=rfl
  have e : stepCells (c :: t) = stepCells [c] ++ stepCells t:=by rw [← stepCells_append];rfl
  rw [e] at hj
  rcases Nat.lt_or_ge j 3 with h1 | h1
  ·rw [List.getElem?_append_left (by rw [e3];exact h1)] at hj
   have:=h 0 c rfl j u hj
   rwa [Nat.zero_mul,Nat.zero_add] at this
  ·rw [List.getElem?_append_right (by rw [e3];exact h1),e3] at hj
   have:=ih (x:=x.add 3) (fun i y hy r u hr=>by
    rw [add_add,show 3 + (i * 3 + r) = (i + 1) * 3 + r by omega]
    exact h (i + 1) y (by simpa using hy) r u hr) (j - 3) u hj
   rw [add_add,show 3 + (j - 3) = j by omega] at this
   exact this
def bulkS (t : Stp) : Nat:=t.name.length + t.text.length + 4
theorem sum_four {α : Type} (f : α → Nat) (h1 : ∀ x,4 ≤ f x) : ∀ l : List α,4 * l.length ≤ (l.map f).sum:=by
 intro l
 induction l with
 | nil=>simp
 | cons c t ih=>have:=h1 c;simp only [List.length_cons,List.map_cons,List.sum_cons];omega
theorem open_steps {H : Type} {enc : TypeId × Value → H} {w : World} {held : Bool} {fuel : Nat} {v : Value} {y : DataW H × List MemPlace} (h : DataW.trod enc Tryz.prog w 0 (fun _=>true) held fuel 46 [v] = some y) :
  ∃ l : List Stp,AtRow w v l.length 3 (stepCells l) ∧ 4 * l.length ≤ Rows.uptoBulk y.1 ∧ ∀ x ∈ l,bulkS x ≤ Rows.uptoBulk y.1:=by
 rcases open_slice Tryz.underlying46 h with ⟨hcs,hx⟩ | ⟨x,len,cap,m,k,D,Pl,hcs,hb,hl,hm,hmm,hx,hi⟩
 ·injection hcs with hcs
  subst hcs
  exact ⟨[],⟨none,0,rfl,Nat.le_refl _,rfl,fun h=>absurd h (by simp)⟩,by simp,fun x hx=>by cases hx⟩
 ·injection hcs with hcs
  subst hcs
  rw [show Tryz.prog.cellsOf 83 = 3 by kernel_rfl] at hi
  simp only [if_true] at hmm
  subst hmm
  have : Inhabited Stp:=⟨⟨0,[],[]⟩⟩
  obtain ⟨l,hal,hp⟩:=list_of (α:=Stp) (P:=fun i z=>(∀ r u,(stepCells [z])[r]? = some u → w.cell? (x.add (i * 3 + r)) = some u) ∧ bulkS z ≤ Rows.uptoBulk (D i)) len (fun i hil=>by
   obtain ⟨cs',hc,ht⟩:=hi i (by omega)
   obtain ⟨xs,n,_,hy,hlen,hxl,hf⟩:=DataW.trod_struct Tryz.underlying83 ht
   obtain ⟨_,hcl,hat⟩:=World.cells?_some hc
   have hone:=field_of (H:=H) (by kernel_rfl) (by rw [hcl];rfl) hxl hf
   obtain ⟨v0,y0,g0,e0,t0⟩:=hone 0 _ rfl
   obtain ⟨v1,y1,g1,e1,t1⟩:=hone 1 _ rfl
   obtain ⟨v2,y2,g2,e2,t2⟩:=hone 2 _ rfl
   obtain ⟨i0,r0,z0,_⟩:=DataW.trod_int Tryz.underlying3 t0
   obtain ⟨s1,r1,z1,_⟩:=DataW.trod_string Tryz.underlying9 t1
   obtain ⟨s2,r2,z2,_⟩:=DataW.trod_string Tryz.underlying9 t2
   injection r0 with r0
   injection r1 with r1
   injection r2 with r2
   subst r0 r1 r2 z0 z1 z2
   refine ⟨⟨i0,s1.data.toList,s2.data.toList⟩,?_,?_⟩
   ·intro r u hr
    have hr5 : r < 3:=(List.getElem?_eq_some_iff.1 hr).1
    have h1:=hat r (by omega)
    rw [add_add] at h1
    rw [h1]
    match r,hr5,hr with
    | 0,_,hr=>rw [g0,← hr];rfl
    | 1,_,hr=>rw [g1,← hr];rfl
    | 2,_,hr=>rw [g2,← hr];rfl
   ·match xs,hxl,e0,e1,e2 with
    | [a,b,c],_,e0,e1,e2=>
     simp only [List.getElem?_cons_zero,List.getElem?_cons_succ,Option.some.injEq] at e0 e1 e2
     subst e0 e1 e2
     have h1:=(Prod.mk.inj hy).1
     rw [h1]
     simp only [List.map_cons,List.map_nil,Rows.uptoBulk,Rows.uptoBulkAll,bulkS]
     simp only [Array.length_toList]
     omega)
  subst hal
  have hsum:=bulk_slice bulkS D l ((List.range (m - l.length)).map fun j=>D (l.length + j)) (fun i a hia=>(hp i a hia).2)
  have e : y.1 = (.slice ((List.range l.length).map D) ((List.range (m - l.length)).map fun j=>D (l.length + j))):=by rw [hx]
  rw [e]
  refine ⟨l,atRow_of (by decide) (stepCells_len l) hl (step_cells_inv (fun i z hz=>(hp i z hz).1)),?_,fun z hz=>?_⟩
  ·exact Nat.le_trans (Nat.le_trans (sum_four _ (fun a=>by unfold bulkS;omega) l) (Nat.le_succ _)) hsum
  ·exact Nat.le_trans (Nat.le_trans (sum_mem bulkS hz) (Nat.le_succ _)) hsum
end Go.Proofs.YtjldpkhfiffinaaGreatDoor.U
