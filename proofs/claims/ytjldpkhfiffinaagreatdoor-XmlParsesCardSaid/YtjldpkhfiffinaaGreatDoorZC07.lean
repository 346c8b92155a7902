/- Contracts and plain facts that the law stands on: Q6, Q7, Q5, Q9. -/
import Derived.Test.YtjldpkhfiffinaaGreatDoorZC01
import Derived.Test.YtjldpkhfiffinaaGreatDoorZC06
import Derived.Test.YtjldpkhfiffinaaGreatDoorZC05
import Derived.Lib.Walk
import Derived.Laws.Strings3
import Derived.Laws.Closers25
import Derived.Laws.Closers25b
import Derived.BigCall
import Derived.BigGuard
import Derived.Shelf.Pu.ToError
import Derived.Test.YtjldpkhfiffinaaGreatDoorZC04
import Derived.Laws.IdiomStrings
import Derived.Laws.BytesArg
import Derived.Test.YtjldpkhfiffinaaGreatDoorZC02
namespace Go.Proofs.YtjldpkhfiffinaaGreatDoor.U
open Go.RowKit Go.Shelf
theorem low_fact : ∀ n : Fin 256,(65 ≤ n.val ∧ n.val ≤ 90 → bits .or .u8 (n.val : Int) 32 = (n.val : Int) + 32) ∧ (97 ≤ n.val ∧ n.val ≤ 122 → bits .or .u8 (n.val : Int) 32 = (n.val : Int)) ∧ ((n.val < 65 ∨ (90 < n.val ∧ n.val < 97) ∨ 122 < n.val) → bits .or .u8 (n.val : Int) 32 < 97 ∨ 122 < bits .or .u8 (n.val : Int) 32) ∧ 0 ≤ bits .or .u8 (n.val : Int) 32 ∧ bits .or .u8 (n.val : Int) 32 < 256:=by decide +kernel
theorem lower_any (c : Int) (w : World) : Calls Tryz.prog 230 #[.int .u8 c] w fun e w'=>e = .returned (.int .u8 (bits .or .u8 c 32)) ∧ w' = w:=by
 go_enter Tryz.func230,Tryz.ntmps230
 go_wp2
 go_ret
 exact ⟨rfl,rfl⟩
def uintV : Option Int → Value
 | some n=>.tuple #[.int .u64 n,.nilIface]
 | none=>.tuple #[.int .u64 0,.iface 296 (.int .i64 2)]
set_option maxHeartbeats 32000000 in
set_option maxRecDepth 100000 in
theorem inner_10 (t : ByteArray) (hne : t.size ≠ 0) (h8 : t.size ≤ 8) (w : World) :
  Calls Tryz.prog 219 #[.string t,.int .i64 10,.int .i64 32] w fun e w'=>e = .returned (uintV (numA 10 0 (bts t))) ∧ w' = Lib.bytesWorld w 5 t:=by
 have hemp:=emp_no hne
 have hcv:=conv_any w t
 have hB : ∀ j,j < t.size → (Lib.bytesWorld w 5 t).cell? ⟨w.heap.size,j,none⟩ = some (.int .u8 (t.data.toList.getD j 0).toNat):=fun j hj=>Lib.bytesWorld_cell w 5 t j hj
 obtain ⟨W1,hW1⟩ : ∃ W1,W1 = Lib.bytesWorld w 5 t:=⟨_,rfl⟩
 rw [← hW1] at hcv hB ⊢
 clear hW1
 obtain ⟨bs,hL⟩ : ∃ bs,bs = bts t:=⟨_,rfl⟩
 have hLn : bs.length = t.size:=by rw [hL,bts_len]
 rw [show t.data.toList = bs from hL.symm] at hB
 rw [← hL]
 clear hL
 have hmv : IntKind.u64.wrap (IntKind.u64.wrap 4294967296 - 1) = 4294967295:=by
  rw [IntKind.wrap_u64,IntKind.wrap_u64]
  decide
 go_enter Tryz.func219,Tryz.ntmps219
 go_wp2
 go_loop [12,13,101] (fun vu vn vi=>∃ (k : Nat) (a : Int),vu = .bool false ∧ vn = .int .u64 a ∧ vi = .int .i64 k ∧ k ≤ t.size ∧ Hid (0 ≤ a ∧ a < 16 ^ k ∧ numA 10 0 bs = numA 10 a (bs.drop k)))
  (fun _ _ vi=>t.size - (intOf vi).toNat)
 case atStart=>exact ⟨0,0,rfl,rfl,rfl,by omega,by omega,by decide,rfl⟩
 case round=>
  obtain ⟨k,a,rfl,rfl,rfl,hk,hh⟩:=hrel
  obtain ⟨a0,hak,hdec⟩:=hh.out
  clear hh
  by_cases hkn : k < t.size
  ·have hc:=hB k hkn
   have hdrop : bs.drop k = bs[k]'(by omega) :: bs.drop (k + 1):=List.drop_eq_getElem_cons (by omega)
   have hget : bs.getD k 0 = bs[k]'(by omega):=by simp [List.getD,List.getElem?_eq_getElem (show k < bs.length by omega)]
   rw [hdrop] at hdec
   rw [hget] at hc
   generalize bs[k]'(by omega) = c at hc hdec
   have hc256 : c.toNat < 256:=c.toNat_lt
   clear hB hdrop hget
   have a1 : a < 268435456:=by
    have : (16 : Int) ^ k ≤ 16 ^ 7:=by
     have : (16 : Nat) ^ k ≤ 16 ^ 7:=Nat.pow_le_pow_right (by omega) (by omega)
     exact_mod_cast this
    have h7 : (16 : Int) ^ 7 = 268435456:=by decide
    omega
   have hpow : (16 : Int) ^ (k + 1) = 16 ^ k * 16:=Int.pow_succ _ _
   obtain ⟨l1,l2,l3,l4,l5⟩:=low_fact ⟨c.toNat,hc256⟩
   simp only at l1 l2 l3 l4 l5
   by_cases hdig : 48 ≤ c.toNat ∧ c.toNat ≤ 57
   ·obtain ⟨hd0,hd1⟩:=hdig
    have hF : numA 10 a (c :: bs.drop (k + 1)) = numA 10 (a * 10 + ((c.toNat : Int) - 48)) (bs.drop (k + 1)):=numA_digit (by omega) (by omega)
    have HN : Hid (0 ≤ a * 10 + ((c.toNat : Int) - 48) ∧ a * 10 + ((c.toNat : Int) - 48) < 16 ^ (k + 1) ∧ numA 10 0 bs = numA 10 (a * 10 + ((c.toNat : Int) - 48)) (bs.drop (k + 1))):=Lib.hid ⟨by omega,by omega,hdec.trans hF⟩
    have iov : a * 10 + ((c.toNat : Int) - 48) ≤ 4294967295:=by omega
    clear hF hdec hak hpow l1 l2 l3 l4 l5
    go_wp2
    refine ⟨⟨k + 1,a * 10 + ((c.toNat : Int) - 48),rfl,(by first | rfl | (congr 1;omega)),(by first | rfl | (congr 1;omega)),by omega,HN⟩,by simp [intOf];omega⟩
   ·obtain ⟨x,hx⟩ : ∃ x,x = bits .or .u8 (c.toNat : Int) 32:=⟨_,rfl⟩
    rw [← hx] at l1 l2 l3 l4 l5
    have LX:=Lib.hid hx
    clear hx
    by_cases hlet : (65 ≤ c.toNat ∧ c.toNat ≤ 90) ∨ (97 ≤ c.toNat ∧ c.toNat ≤ 122)
    ·have hx0 : 97 ≤ x ∧ x ≤ 122:=by omega
     have hc57 : 57 < c.toNat:=by omega
     have hc48 : 48 ≤ c.toNat:=by omega
     clear hdig
     have hdb : ¬ x - 87 < 10:=by omega
     have hF : numA 10 a (c :: bs.drop (k + 1)) = none:=by
      rcases hlet with h | h
      ·exact numA_upper_no h (by have:=l1 h;omega)
      ·exact numA_letter_no h (by have:=l2 h;omega)
     have HD:=Lib.hid (hdec.trans hF)
     obtain ⟨hxa,hxb⟩:=hx0
     have hu : ¬ c.toNat = 95:=by omega
     clear hF hdec hak hpow l1 l2 l3 l4 l5 hlet
     go_wp2_with (go_at_call 230;refine (lower_any _ _).mono ?_;rintro e w' ⟨rfl,rfl⟩;rw [← LX.out])
     go_ret2
     exact ⟨by rw [HD.out];rfl,rfl⟩
    ·have hF : numA 10 a (c :: bs.drop (k + 1)) = none:=numA_no (by omega) (by omega)
     have HD:=Lib.hid (hdec.trans hF)
     have l3':=l3 (by omega)
     clear hF hdec hak hpow l1 l2 l3 hlet
     rcases l3' with hx1 | hx1
     all_goals (
      go_wp2_with (go_at_call 230;refine (lower_any _ _).mono ?_;rintro e w' ⟨rfl,rfl⟩;first | rw [← LX.out] | rw [show bits .or .u8 95 32 = 127 by decide])
      all_goals go_ret2
      all_goals exact ⟨by rw [HD.out];rfl,rfl⟩)
  ·have hkk : k = t.size:=by omega
   subst hkk
   have hF : numA 10 a (bs.drop t.size) = some a:=by rw [List.drop_eq_nil_of_le (by omega)];rfl
   have HD:=Lib.hid (hdec.trans hF)
   clear hF hdec hak
   go_wp2
   go_ret2
   exact ⟨by rw [HD.out];rfl,rfl⟩
set_option maxHeartbeats 32000000 in
set_option maxRecDepth 100000 in
theorem inner_16 (t : ByteArray) (hne : t.size ≠ 0) (h8 : t.size ≤ 8) (w : World) :
  Calls Tryz.prog 219 #[.string t,.int .i64 16,.int .i64 32] w fun e w'=>e = .returned (uintV (numA 16 0 (bts t))) ∧ w' = Lib.bytesWorld w 5 t:=by
 have hemp:=emp_no hne
 have hcv:=conv_any w t
 have hB : ∀ j,j < t.size → (Lib.bytesWorld w 5 t).cell? ⟨w.heap.size,j,none⟩ = some (.int .u8 (t.data.toList.getD j 0).toNat):=fun j hj=>Lib.bytesWorld_cell w 5 t j hj
 obtain ⟨W1,hW1⟩ : ∃ W1,W1 = Lib.bytesWorld w 5 t:=⟨_,rfl⟩
 rw [← hW1] at hcv hB ⊢
 clear hW1
 obtain ⟨bs,hL⟩ : ∃ bs,bs = bts t:=⟨_,rfl⟩
 have hLn : bs.length = t.size:=by rw [hL,bts_len]
 rw [show t.data.toList = bs from hL.symm] at hB
 rw [← hL]
 clear hL
 have hmv : IntKind.u64.wrap (IntKind.u64.wrap 4294967296 - 1) = 4294967295:=by
  rw [IntKind.wrap_u64,IntKind.wrap_u64]
  decide
 go_enter Tryz.func219,Tryz.ntmps219
 go_wp2
 go_loop [12,13,101] (fun vu vn vi=>∃ (k : Nat) (a : Int),vu = .bool false ∧ vn = .int .u64 a ∧ vi = .int .i64 k ∧ k ≤ t.size ∧ Hid (0 ≤ a ∧ a < 16 ^ k ∧ numA 16 0 bs = numA 16 a (bs.drop k)))
  (fun _ _ vi=>t.size - (intOf vi).toNat)
 case atStart=>exact ⟨0,0,rfl,rfl,rfl,by omega,by omega,by decide,rfl⟩
 case round=>
  obtain ⟨k,a,rfl,rfl,rfl,hk,hh⟩:=hrel
  obtain ⟨a0,hak,hdec⟩:=hh.out
  clear hh
  by_cases hkn : k < t.size
  ·have hc:=hB k hkn
   have hdrop : bs.drop k = bs[k]'(by omega) :: bs.drop (k + 1):=List.drop_eq_getElem_cons (by omega)
   have hget : bs.getD k 0 = bs[k]'(by omega):=by simp [List.getD,List.getElem?_eq_getElem (show k < bs.length by omega)]
   rw [hdrop] at hdec
   rw [hget] at hc
   generalize bs[k]'(by omega) = c at hc hdec
   have hc256 : c.toNat < 256:=c.toNat_lt
   clear hB hdrop hget
   have a1 : a < 268435456:=by
    have : (16 : Int) ^ k ≤ 16 ^ 7:=by
     have : (16 : Nat) ^ k ≤ 16 ^ 7:=Nat.pow_le_pow_right (by omega) (by omega)
     exact_mod_cast this
    have h7 : (16 : Int) ^ 7 = 268435456:=by decide
    omega
   have hpow : (16 : Int) ^ (k + 1) = 16 ^ k * 16:=Int.pow_succ _ _
   obtain ⟨l1,l2,l3,l4,l5⟩:=low_fact ⟨c.toNat,hc256⟩
   simp only at l1 l2 l3 l4 l5
   by_cases hdig : 48 ≤ c.toNat ∧ c.toNat ≤ 57
   ·obtain ⟨hd0,hd1⟩:=hdig
    have hF : numA 16 a (c :: bs.drop (k + 1)) = numA 16 (a * 16 + ((c.toNat : Int) - 48)) (bs.drop (k + 1)):=numA_digit (by omega) (by omega)
    have HN : Hid (0 ≤ a * 16 + ((c.toNat : Int) - 48) ∧ a * 16 + ((c.toNat : Int) - 48) < 16 ^ (k + 1) ∧ numA 16 0 bs = numA 16 (a * 16 + ((c.toNat : Int) - 48)) (bs.drop (k + 1))):=Lib.hid ⟨by omega,by omega,hdec.trans hF⟩
    have iov : a * 16 + ((c.toNat : Int) - 48) ≤ 4294967295:=by omega
    clear hF hdec hak hpow l1 l2 l3 l4 l5
    go_wp2
    refine ⟨⟨k + 1,a * 16 + ((c.toNat : Int) - 48),rfl,(by first | rfl | (congr 1;omega)),(by first | rfl | (congr 1;omega)),by omega,HN⟩,by simp [intOf];omega⟩
   ·obtain ⟨x,hx⟩ : ∃ x,x = bits .or .u8 (c.toNat : Int) 32:=⟨_,rfl⟩
    rw [← hx] at l1 l2 l3 l4 l5
    have LX:=Lib.hid hx
    clear hx
    by_cases hlet : (65 ≤ c.toNat ∧ c.toNat ≤ 90) ∨ (97 ≤ c.toNat ∧ c.toNat ≤ 122)
    ·have hx0 : 97 ≤ x ∧ x ≤ 122:=by omega
     have hc57 : 57 < c.toNat:=by omega
     have hc48 : 48 ≤ c.toNat:=by omega
     clear hdig
     by_cases hdb : x - 87 < 16
     ·have hF : numA 16 a (c :: bs.drop (k + 1)) = numA 16 (a * 16 + (x - 87)) (bs.drop (k + 1)):=by
       rcases hlet with h | h
       ·rw [l1 h];exact numA_upper h (by have:=l1 h;omega)
       ·rw [l2 h];exact numA_letter h (by have:=l2 h;omega)
      have HN : Hid (0 ≤ a * 16 + (x - 87) ∧ a * 16 + (x - 87) < 16 ^ (k + 1) ∧ numA 16 0 bs = numA 16 (a * 16 + (x - 87)) (bs.drop (k + 1))):=Lib.hid ⟨by omega,by omega,hdec.trans hF⟩
      have iov : a * 16 + (x - 87) ≤ 4294967295:=by omega
      have hu : ¬ c.toNat = 95:=by omega
      obtain ⟨hxa,hxb⟩:=hx0
      clear hF hdec hak hpow l1 l2 l3 l4 l5 hlet
      go_wp2_with (go_at_call 230;refine (lower_any _ _).mono ?_;rintro e w' ⟨rfl,rfl⟩;rw [← LX.out])
      refine ⟨⟨k + 1,a * 16 + (x - 87),rfl,(by first | rfl | (congr 1;omega)),(by first | rfl | (congr 1;omega)),by omega,HN⟩,by simp [intOf];omega⟩
     ·have hF : numA 16 a (c :: bs.drop (k + 1)) = none:=by
       rcases hlet with h | h
       ·exact numA_upper_no h (by have:=l1 h;omega)
       ·exact numA_letter_no h (by have:=l2 h;omega)
      have HD:=Lib.hid (hdec.trans hF)
      obtain ⟨hxa,hxb⟩:=hx0
      have hu : ¬ c.toNat = 95:=by omega
      clear hF hdec hak hpow l1 l2 l3 l4 l5 hlet
      go_wp2_with (go_at_call 230;refine (lower_any _ _).mono ?_;rintro e w' ⟨rfl,rfl⟩;rw [← LX.out])
      go_ret2
      exact ⟨by rw [HD.out];rfl,rfl⟩
    ·have hF : numA 16 a (c :: bs.drop (k + 1)) = none:=numA_no (by omega) (by omega)
     have HD:=Lib.hid (hdec.trans hF)
     have l3':=l3 (by omega)
     clear hF hdec hak hpow l1 l2 l3 hlet
     rcases l3' with hx1 | hx1
     all_goals (
      go_wp2_with (go_at_call 230;refine (lower_any _ _).mono ?_;rintro e w' ⟨rfl,rfl⟩;first | rw [← LX.out] | rw [show bits .or .u8 95 32 = 127 by decide])
      all_goals go_ret2
      all_goals exact ⟨by rw [HD.out];rfl,rfl⟩)
  ·have hkk : k = t.size:=by omega
   subst hkk
   have hF : numA 16 a (bs.drop t.size) = some a:=by rw [List.drop_eq_nil_of_le (by omega)];rfl
   have HD:=Lib.hid (hdec.trans hF)
   clear hF hdec hak
   go_wp2
   go_ret2
   exact ⟨by rw [HD.out];rfl,rfl⟩
set_option maxHeartbeats 8000000 in
set_option maxRecDepth 100000 in
theorem inner_empty (b : Int) (w : World) :
  Calls Tryz.prog 219 #[.string ⟨#[]⟩,.int .i64 b,.int .i64 32] w fun e w'=>e = .returned (.tuple #[.int .u64 0,.iface 296 (.int .i64 2)]) ∧ w' = w:=by
 go_enter Tryz.func219,Tryz.ntmps219
 go_wp2
 go_ret2
 exact ⟨rfl,rfl⟩
theorem toErr (fn s : ByteArray) (base bits : Int) (ev : Value) (w : World) (hlim : s.size ≤ 281474976710656) (hv : w.cell? ⟨5,0,none⟩ = some ev) (hev : ev = .nilIface ∨ ∃ te pe,ev = .iface te pe) :
  Calls Tryz.prog 220 #[.string fn,.string s,.int .i64 base,.int .i64 bits,.iface 296 (.int .i64 2)] w fun e w'=>∃ N,e = .returned (.iface 298 (.pointer (some ⟨N,0,none⟩))) ∧ w.heap.size ≤ N ∧ w'.heap[N]? = some (.cells #[.string fn,.string s,ev] 305 (0,0)) ∧ Below w.heap.size w w':=
 AnyPu.strconv_toError_syntax { S.laysPu14 with } fn s base bits ev w hlim hv hev
def PubPost (x : Option Int) (w : World) (e : Ending) (w' : World) : Prop:=
 Below w.heap.size w w' ∧ ((∃ n,x = some n ∧ e = .returned (.tuple #[.int .u64 n,.nilIface])) ∨ (x = none ∧ ∃ N,e = .returned (.tuple #[.int .u64 0,.iface 298 (.pointer (some ⟨N,0,none⟩))])))
set_option maxHeartbeats 8000000 in
theorem pub_10 (t : ByteArray) (h8 : t.size ≤ 8) (w : World) (hl : LayS w) :
  Calls Tryz.prog 211 #[.string t,.int .i64 10,.int .i64 32] w fun e w'=>PubPost (numL 10 (bts t)) w e w':=by
 have hlen:=bts_len t
 have HL:=Lib.hid hl
 by_cases h0 : t.size = 0
 ·have hs : t = ⟨#[]⟩:=bts_inj (by rw [bts_mk];exact List.eq_nil_of_length_eq_zero (hlen.trans h0))
  have HN : Hid (numL 10 (bts t) = none):=Lib.hid (by unfold numL;rw [if_neg (by omega)])
  subst hs
  obtain ⟨te,pe,hsy⟩:=hl.syn
  have HSY:=Lib.hid hsy
  clear hsy hl
  go_enter Tryz.func211,Tryz.ntmps211
  go_wp2_with fail
  refine (inner_empty 10 _).mono ?_
  rintro e w1 ⟨rfl,rfl⟩
  go_wp2_with fail
  refine (toErr ⟨#[80,97,114,115,101,85,105,110,116]⟩ ⟨#[]⟩ 10 32 _ _ (by show 0 ≤ _;omega) HSY.out (.inr ⟨te,pe,rfl⟩)).mono ?_
  rintro e w2 ⟨N,rfl,h1,h2,h3⟩
  go_wp2
  go_ret2
  exact ⟨h3,.inr ⟨HN.out,N,rfl⟩⟩
 ·have hN : numL 10 (bts t) = numA 10 0 (bts t):=by unfold numL;rw [if_pos (by omega)]
  have HBW:=Lib.hid (bytes_below w t)
  have hl1 : LayS (Lib.bytesWorld w 5 t):=hl.below (bytes_below w t) hl.size
  obtain ⟨te,pe,hsy⟩:=hl1.syn
  have HSY:=Lib.hid hsy
  have HI:=Lib.hid (inner_10 t h0 h8 w)
  rw [hN]
  clear hsy hl hl1 hN
  generalize Lib.bytesWorld w 5 t = w1 at HBW HSY HI
  cases hv : numA 10 0 (bts t) with
  | none=>
   rw [hv] at HI
   go_enter Tryz.func211,Tryz.ntmps211
   go_wp2_with fail
   refine HI.out.mono ?_
   unfold uintV
   rintro e w1 ⟨rfl,rfl⟩
   go_wp2_with fail
   refine (toErr ⟨#[80,97,114,115,101,85,105,110,116]⟩ t 10 32 _ _ (by omega) HSY.out (.inr ⟨te,pe,rfl⟩)).mono ?_
   rintro e w2 ⟨N,rfl,h1,h2,h3⟩
   go_wp2
   go_ret2
   exact ⟨HBW.out.trans (h3.mono HBW.out.size),.inr ⟨rfl,N,rfl⟩⟩
  | some n=>
   rw [hv] at HI
   go_enter Tryz.func211,Tryz.ntmps211
   go_wp2_with fail
   refine HI.out.mono ?_
   unfold uintV
   rintro e w1 ⟨rfl,rfl⟩
   go_wp2
   go_ret2
   exact ⟨HBW.out,.inl ⟨n,rfl,rfl⟩⟩
set_option maxHeartbeats 8000000 in
theorem pub_16 (t : ByteArray) (h8 : t.size ≤ 8) (w : World) (hl : LayS w) :
  Calls Tryz.prog 211 #[.string t,.int .i64 16,.int .i64 32] w fun e w'=>PubPost (numL 16 (bts t)) w e w':=by
 have hlen:=bts_len t
 have HL:=Lib.hid hl
 by_cases h0 : t.size = 0
 ·have hs : t = ⟨#[]⟩:=bts_inj (by rw [bts_mk];exact List.eq_nil_of_length_eq_zero (hlen.trans h0))
  have HN : Hid (numL 16 (bts t) = none):=Lib.hid (by unfold numL;rw [if_neg (by omega)])
  subst hs
  obtain ⟨te,pe,hsy⟩:=hl.syn
  have HSY:=Lib.hid hsy
  clear hsy hl
  go_enter Tryz.func211,Tryz.ntmps211
  go_wp2_with fail
  refine (inner_empty 16 _).mono ?_
  rintro e w1 ⟨rfl,rfl⟩
  go_wp2_with fail
  refine (toErr ⟨#[80,97,114,115,101,85,105,110,116]⟩ ⟨#[]⟩ 16 32 _ _ (by show 0 ≤ _;omega) HSY.out (.inr ⟨te,pe,rfl⟩)).mono ?_
  rintro e w2 ⟨N,rfl,h1,h2,h3⟩
  go_wp2
  go_ret2
  exact ⟨h3,.inr ⟨HN.out,N,rfl⟩⟩
 ·have hN : numL 16 (bts t) = numA 16 0 (bts t):=by unfold numL;rw [if_pos (by omega)]
  have HBW:=Lib.hid (bytes_below w t)
  have hl1 : LayS (Lib.bytesWorld w 5 t):=hl.below (bytes_below w t) hl.size
  obtain ⟨te,pe,hsy⟩:=hl1.syn
  have HSY:=Lib.hid hsy
  have HI:=Lib.hid (inner_16 t h0 h8 w)
  rw [hN]
  clear hsy hl hl1 hN
  generalize Lib.bytesWorld w 5 t = w1 at HBW HSY HI
  cases hv : numA 16 0 (bts t) with
  | none=>
   rw [hv] at HI
   go_enter Tryz.func211,Tryz.ntmps211
   go_wp2_with fail
   refine HI.out.mono ?_
   unfold uintV
   rintro e w1 ⟨rfl,rfl⟩
   go_wp2_with fail
   refine (toErr ⟨#[80,97,114,115,101,85,105,110,116]⟩ t 16 32 _ _ (by omega) HSY.out (.inr ⟨te,pe,rfl⟩)).mono ?_
   rintro e w2 ⟨N,rfl,h1,h2,h3⟩
   go_wp2
   go_ret2
   exact ⟨HBW.out.trans (h3.mono HBW.out.size),.inr ⟨rfl,N,rfl⟩⟩
  | some n=>
   rw [hv] at HI
   go_enter Tryz.func211,Tryz.ntmps211
   go_wp2_with fail
   refine HI.out.mono ?_
   unfold uintV
   rintro e w1 ⟨rfl,rfl⟩
   go_wp2
   go_ret2
   exact ⟨HBW.out,.inl ⟨n,rfl,rfl⟩⟩
set_option maxHeartbeats 4000000 in
theorem number_10 (s : ByteArray) (w : World) (hl : LayS w) :
  Calls Tryz.prog 196 #[.string s,.int .i64 10] w fun e w'=>e = .returned (.int .i32 (wrap32 ((numL 10 (bts s)).getD 0))) ∧ Below w.heap.size w w':=by
 by_cases h8 : 8 < s.size
 ·have HN : Hid (numL 10 (bts s) = none):=Lib.hid (by unfold numL;rw [if_neg (by rw [bts_len];omega)])
  clear hl
  go_enter Tryz.func196,Tryz.ntmps196
  go_wp2
  go_ret
  exact ⟨by rw [HN.out,Option.getD_none,wrap32_lit (n:=0) (by omega)];rfl,Below.refl _ _⟩
 ·go_enter Tryz.func196,Tryz.ntmps196
  go_wp2_with fail
  refine (pub_10 s (by omega) _ hl).mono ?_
  rintro e w1 ⟨hb,⟨n,hn,rfl⟩ | ⟨hn,N,rfl⟩⟩
  ·have HN:=Lib.hid hn
   have hbd:=numL_bound (by omega) hn
   clear hl hn
   go_wp2
   go_ret
   refine ⟨?_,hb⟩
   rw [HN.out]
   rfl
  ·have HN:=Lib.hid hn
   clear hl hn
   go_wp2
   go_ret
   exact ⟨by rw [HN.out,Option.getD_none,wrap32_lit (n:=0) (by omega)];rfl,hb⟩
set_option maxHeartbeats 4000000 in
theorem number_16 (s : ByteArray) (w : World) (hl : LayS w) :
  Calls Tryz.prog 196 #[.string s,.int .i64 16] w fun e w'=>e = .returned (.int .i32 (wrap32 ((numL 16 (bts s)).getD 0))) ∧ Below w.heap.size w w':=by
 by_cases h8 : 8 < s.size
 ·have HN : Hid (numL 16 (bts s) = none):=Lib.hid (by unfold numL;rw [if_neg (by rw [bts_len];omega)])
  clear hl
  go_enter Tryz.func196,Tryz.ntmps196
  go_wp2
  go_ret
  exact ⟨by rw [HN.out,Option.getD_none,wrap32_lit (n:=0) (by omega)];rfl,Below.refl _ _⟩
 ·go_enter Tryz.func196,Tryz.ntmps196
  go_wp2_with fail
  refine (pub_16 s (by omega) _ hl).mono ?_
  rintro e w1 ⟨hb,⟨n,hn,rfl⟩ | ⟨hn,N,rfl⟩⟩
  ·have HN:=Lib.hid hn
   have hbd:=numL_bound (by omega) hn
   clear hl hn
   go_wp2
   go_ret
   refine ⟨?_,hb⟩
   rw [HN.out]
   rfl
  ·have HN:=Lib.hid hn
   clear hl hn
   go_wp2
   go_ret
   exact ⟨by rw [HN.out,Option.getD_none,wrap32_lit (n:=0) (by omega)];rfl,hb⟩
theorem str_ne {s : ByteArray} {l : List UInt8} (h : bts s ≠ l) : (s.toList == l) = false:=by
 rw [ByteArray.toList_eq];exact beq_false_of_ne h
theorem bts_eq_of {s : ByteArray} {l : List UInt8} (h : bts s = l) : s = ⟨l.toArray⟩:=by rw [← h,mk_bts]
set_option maxHeartbeats 1000000 in
theorem meant_any (s : ByteArray) (w : World) (hl : LayS w) :
  Calls Tryz.prog 176 #[.string s] w fun e w'=>e = .returned (.int .i32 (wrap32 (wordV (bts s)))) ∧ Below w.heap.size w w':=by
 by_cases h1 : bts s = [97,109,112]
 ·obtain rfl:=bts_eq_of h1
  clear hl
  go_enter Tryz.func176,Tryz.ntmps176
  go_wp2
  go_ret
  exact ⟨by rw [h1,show wordV [97,109,112] = 38 by decide,wrap32_lit (n:=38) (by omega)];rfl,Below.refl _ _⟩
 by_cases h2 : bts s = [108,116]
 ·obtain rfl:=bts_eq_of h2
  clear hl
  go_enter Tryz.func176,Tryz.ntmps176
  go_wp2
  go_ret
  exact ⟨by rw [h2,show wordV [108,116] = 60 by decide,wrap32_lit (n:=60) (by omega)];rfl,Below.refl _ _⟩
 by_cases h3 : bts s = [103,116]
 ·obtain rfl:=bts_eq_of h3
  clear hl
  go_enter Tryz.func176,Tryz.ntmps176
  go_wp2
  go_ret
  exact ⟨by rw [h3,show wordV [103,116] = 62 by decide,wrap32_lit (n:=62) (by omega)];rfl,Below.refl _ _⟩
 by_cases h4 : bts s = [113,117,111,116]
 ·obtain rfl:=bts_eq_of h4
  clear hl
  go_enter Tryz.func176,Tryz.ntmps176
  go_wp2
  go_ret
  exact ⟨by rw [h4,show wordV [113,117,111,116] = 34 by decide,wrap32_lit (n:=34) (by omega)];rfl,Below.refl _ _⟩
 by_cases h5 : bts s = [97,112,111,115]
 ·obtain rfl:=bts_eq_of h5
  clear hl
  go_enter Tryz.func176,Tryz.ntmps176
  go_wp2
  go_ret
  exact ⟨by rw [h5,show wordV [97,112,111,115] = 39 by decide,wrap32_lit (n:=39) (by omega)];rfl,Below.refl _ _⟩
 have n1:=str_ne h1
 have n2:=str_ne h2
 have n3:=str_ne h3
 have n4:=str_ne h4
 have n5:=str_ne h5
 have hW : wordV (bts s) = if Lib.hasPrefix (bts s) [35,120] = true then (numL 16 ((bts s).drop 2)).getD 0 else if Lib.hasPrefix (bts s) [35] = true then (numL 10 ((bts s).drop 1)).getD 0 else 0:=by
  unfold wordV;rw [if_neg h1,if_neg h2,if_neg h3,if_neg h4,if_neg h5]
 have HL:=Lib.hid hl
 clear h1 h2 h3 h4 h5 hl
 cases hx : Lib.hasPrefix (bts s) [35,120] with
 | true=>
  have ht : Lib.trimPrefix (bts s) [35,120] = (bts s).drop 2:=by unfold Lib.trimPrefix;rw [if_pos hx];rfl
  obtain ⟨u,hu⟩ : ∃ u : ByteArray,u = ⟨((bts s).drop 2).toArray⟩:=⟨_,rfl⟩
  have HW : Hid (wordV (bts s) = (numL 16 (bts u)).getD 0):=Lib.hid (by rw [hW,if_pos hx,show bts u = (bts s).drop 2 by rw [hu];exact bts_mk _])
  have HC : Hid (Calls Tryz.prog 195 #[.string s,.string ⟨#[35,120]⟩] w fun e w'=>e = .returned (.tuple #[.string u,.bool true]) ∧ w' = w):=Lib.hid (by
   rw [hu]
   have:=S.strings_CutPrefix s ⟨#[35,120]⟩ w
   rw [show s.data.toList = bts s from rfl,show (⟨#[35,120]⟩ : ByteArray).data.toList = [35,120] from rfl,hx,ht] at this
   exact this)
  clear hW hx ht hu
  go_enter Tryz.func176,Tryz.ntmps176
  go_wp2_with fail
  refine HC.out.mono ?_
  rintro e w1 ⟨rfl,rfl⟩
  go_wp2_with fail
  refine (number_16 u _ HL.out).mono ?_
  rintro e w1 ⟨rfl,hb⟩
  go_wp2
  go_ret
  exact ⟨by rw [HW.out];rfl,hb⟩
 | false=>
  have HC : Hid (Calls Tryz.prog 195 #[.string s,.string ⟨#[35,120]⟩] w fun e w'=>∃ u,e = .returned (.tuple #[.string u,.bool false]) ∧ w' = w):=Lib.hid (by
   have:=S.strings_CutPrefix s ⟨#[35,120]⟩ w
   rw [show s.data.toList = bts s from rfl,show (⟨#[35,120]⟩ : ByteArray).data.toList = [35,120] from rfl,hx] at this
   exact this.mono (fun e w' h=>⟨_,h⟩))
  cases hy : Lib.hasPrefix (bts s) [35] with
  | true=>
   have ht : Lib.trimPrefix (bts s) [35] = (bts s).drop 1:=by unfold Lib.trimPrefix;rw [if_pos hy];rfl
   obtain ⟨u,hu⟩ : ∃ u : ByteArray,u = ⟨((bts s).drop 1).toArray⟩:=⟨_,rfl⟩
   have HW : Hid (wordV (bts s) = (numL 10 (bts u)).getD 0):=Lib.hid (by rw [hW,if_neg (by rw [hx];simp),if_pos hy,show bts u = (bts s).drop 1 by rw [hu];exact bts_mk _])
   have HC2 : Hid (Calls Tryz.prog 195 #[.string s,.string ⟨#[35]⟩] w fun e w'=>e = .returned (.tuple #[.string u,.bool true]) ∧ w' = w):=Lib.hid (by
    rw [hu]
    have:=S.strings_CutPrefix s ⟨#[35]⟩ w
    rw [show s.data.toList = bts s from rfl,show (⟨#[35]⟩ : ByteArray).data.toList = [35] from rfl,hy,ht] at this
    exact this)
   clear hW hx hy ht hu
   go_enter Tryz.func176,Tryz.ntmps176
   go_wp2_with fail
   refine HC.out.mono ?_
   rintro e w1 ⟨u',rfl,rfl⟩
   go_wp2_with fail
   refine HC2.out.mono ?_
   rintro e w1 ⟨rfl,rfl⟩
   go_wp2_with fail
   refine (number_10 u _ HL.out).mono ?_
   rintro e w1 ⟨rfl,hb⟩
   go_wp2
   go_ret
   exact ⟨by rw [HW.out];rfl,hb⟩
  | false=>
   have HW : Hid (wordV (bts s) = 0):=Lib.hid (by rw [hW,if_neg (by rw [hx];simp),if_neg (by rw [hy];simp)])
   have HC2 : Hid (Calls Tryz.prog 195 #[.string s,.string ⟨#[35]⟩] w fun e w'=>∃ u,e = .returned (.tuple #[.string u,.bool false]) ∧ w' = w):=Lib.hid (by
    have:=S.strings_CutPrefix s ⟨#[35]⟩ w
    rw [show s.data.toList = bts s from rfl,show (⟨#[35]⟩ : ByteArray).data.toList = [35] from rfl,hy] at this
    exact this.mono (fun e w' h=>⟨_,h⟩))
   clear hW hx hy
   go_enter Tryz.func176,Tryz.ntmps176
   go_wp2_with fail
   refine HC.out.mono ?_
   rintro e w1 ⟨u,rfl,rfl⟩
   go_wp2_with fail
   refine HC2.out.mono ?_
   rintro e w1 ⟨u2,rfl,rfl⟩
   go_wp2
   go_ret
   exact ⟨by rw [HW.out,wrap32_lit (n:=0) (by omega)];rfl,Below.refl _ _⟩
def refV (x : Option (Int × Nat)) : Value:=
 match x with
 | none=>.tuple #[.int .i32 0,.int .i64 0]
 | some (r,n)=>.tuple #[.int .i32 r,.int .i64 n]
set_option maxHeartbeats 1000000 in
theorem reference_any (s : ByteArray) (t : List UInt8) (w : World) (hl : LayS w) (hs : bts s = 38 :: t) (hlim : s.size ≤ 1000000) :
  Calls Tryz.prog 160 #[.string s] w fun e w'=>e = .returned (refV ((refL t).map fun x=>(x.1,x.2 + 1))) ∧ Below w.heap.size w w':=by
 have hidx : Lib.indexByte (bts s) 59 = if semi t < t.length then ((semi t + 1 : Nat) : Int) else -1:=by
  rw [index_semi,hs,semi_cons_no (by decide),List.length_cons]
  by_cases h : semi t < t.length
  ·rw [if_pos h,if_pos (by omega)]
  ·rw [if_neg h,if_neg (by omega)]
 have hIB : Calls Tryz.prog 175 #[.string s,.int .u8 59] w fun e w'=>e = .returned (.int .i64 (Lib.indexByte (bts s) 59)) ∧ w' = w:=S.strings_IndexByte s 59 w
 rw [hidx] at hIB
 have hlen : s.size = t.length + 1:=by rw [← bts_len,hs];rfl
 have HL:=Lib.hid hl
 by_cases hsm : semi t < t.length
 ·rw [if_pos hsm] at hIB
  obtain ⟨k,hk⟩ : ∃ k,k = semi t:=⟨_,rfl⟩
  have hw : bts (s.extract 1 (k + 1)) = t.take k:=by rw [bts_extract,hs];rfl
  have hb:=wordV_bound (t.take k)
  have hcw:=isC_wrap hb.1 hb.2
  rw [← hk] at hIB hsm
  have hk2 : (k : Int) + 1 ≤ s.size:=by omega
  cases hc : isC (wordV (t.take k)) with
  | true=>
   have HR : Hid (refL t = some (wordV (t.take k),k + 1)):=Lib.hid (by unfold refL;rw [← hk,if_pos ⟨hsm,hc⟩])
   have HC:=Lib.hid (hcw.trans hc)
   have HWR:=Lib.hid (wrap_isC hc)
   have HM : Hid (∀ w,LayS w → Calls Tryz.prog 176 #[.string (s.extract 1 (k + 1))] w fun e w'=>e = .returned (.int .i32 (wrap32 (wordV (t.take k)))) ∧ Below w.heap.size w w'):=Lib.hid (fun w h=>by have:=meant_any (s.extract 1 (k + 1)) w h;rwa [hw] at this)
   have HIB:=Lib.hid hIB
   clear hb hcw hc hidx hs hIB hk hw hl hsm
   generalize wordV (t.take k) = r at HR HC HWR HM
   go_enter Tryz.func160,Tryz.ntmps160
   go_wp2_with fail
   refine HIB.out.mono ?_
   rintro e w1 ⟨rfl,rfl⟩
   go_wp2_with fail
   refine (HM.out _ HL.out).mono ?_
   rintro e w1 ⟨rfl,hb1⟩
   have HL1:=Lib.hid (HL.out.below hb1 HL.out.size)
   have HB1:=Lib.hid hb1
   rw [HWR.out]
   clear hb1
   go_wp2_with fail
   refine (is_any _ _ HL1.out.lay).mono ?_
   rintro e w2 ⟨rfl,hb2⟩
   rw [show isC r = true by have:=HC.out;rwa [HWR.out] at this]
   go_wp2
   go_ret2
   refine ⟨?_,HB1.out.trans (hb2.mono HB1.out.size)⟩
   rw [HR.out]
   rfl
  | false=>
   have HR : Hid (refL t = none):=Lib.hid (by unfold refL;rw [← hk,if_neg (by rw [hc];simp)])
   have HC:=Lib.hid (hcw.trans hc)
   have HM : Hid (∀ w,LayS w → Calls Tryz.prog 176 #[.string (s.extract 1 (k + 1))] w fun e w'=>e = .returned (.int .i32 (wrap32 (wordV (t.take k)))) ∧ Below w.heap.size w w'):=Lib.hid (fun w h=>by have:=meant_any (s.extract 1 (k + 1)) w h;rwa [hw] at this)
   have HIB:=Lib.hid hIB
   clear hb hcw hc hidx hs hIB hk hw hl hsm
   generalize wordV (t.take k) = r at HC HM
   go_enter Tryz.func160,Tryz.ntmps160
   go_wp2_with fail
   refine HIB.out.mono ?_
   rintro e w1 ⟨rfl,rfl⟩
   go_wp2_with fail
   refine (HM.out _ HL.out).mono ?_
   rintro e w1 ⟨rfl,hb1⟩
   have HL1:=Lib.hid (HL.out.below hb1 HL.out.size)
   have HB1:=Lib.hid hb1
   clear hb1
   go_wp2_with fail
   refine (is_any _ _ HL1.out.lay).mono ?_
   rintro e w2 ⟨rfl,hb2⟩
   rw [HC.out]
   go_wp2
   go_ret2
   refine ⟨?_,HB1.out.trans (hb2.mono HB1.out.size)⟩
   rw [HR.out]
   rfl
 ·rw [if_neg hsm] at hIB
  have HR : Hid (refL t = none):=Lib.hid (by unfold refL;rw [if_neg (by omega)])
  have HIB:=Lib.hid hIB
  clear hidx hs hIB hl hsm
  go_enter Tryz.func160,Tryz.ntmps160
  go_wp2_with fail
  refine HIB.out.mono ?_
  rintro e w1 ⟨rfl,rfl⟩
  go_wp2
  go_ret2
  refine ⟨?_,Below.refl _ _⟩
  rw [HR.out]
  rfl
def nameV (l : List UInt8) : Int:=if isC (wordV l) = true then wordV l else 0
def digN (l : List UInt8) : Int:=if Lib.hasPrefix l [35,120] = true then (numL 16 (l.drop 2)).getD (-1) else if Lib.hasPrefix l [35] = true then (numL 10 (l.drop 1)).getD (-1) else -1
theorem conv_own (w : World) (base : Nat) (v : Value) (l : List UInt8) (h : w.ownsRow base 5 1 v l.length (Lib.byteCells l)) : (convert 22 9 v).run Tryz.prog w = .ok (.string ⟨l.toArray⟩) w:=by
 rcases h.2 with ⟨rfl,h0⟩ | ⟨g,cap,cur,rfl,_⟩
 ·obtain rfl : l = []:=List.eq_nil_of_length_eq_zero h0
  exact run_convert_bytes_nil (P:=Tryz.prog) w 22 5 Tryz.underlying22 Tryz.underlying5 0 0 9 Tryz.underlying9
 ·refine run_convert_bytes_back (P:=Tryz.prog) w 22 9 5 ⟨g,0,none⟩ cap l Tryz.underlying22 Tryz.underlying5 Tryz.underlying9 ?_
  intro j hj
  exact h.cells rfl j _ (by simp [Lib.byteCells,hj])
theorem bts_sub (s : ByteArray) (k : Nat) (h : k < s.size) : bts (s.extract k (k + 1)) = [s[k]'h]:=by
 rw [bts_extract,bts_take s k h,List.drop_append_of_le_length (by rw [List.length_take,bts_len];omega),List.drop_of_length_le (by rw [List.length_take,bts_len];omega)]
 rfl
def foundZ (k : Nat) : Option Nat → Int
 | some e=>((k + e : Nat) : Int)
 | none=>-1
def nameZ (k : Nat) (l : List UInt8) : Int:=if nameL (l.take (nameN l)) = true then ((k + nameN l : Nat) : Int) else -1
theorem unA_err : ∀ (f : Nat) (acc l : List UInt8) (z : Int),unA f acc l = .error z → z = 12 ∨ z = 13:=by
 intro f
 induction f with
 | zero=>intro acc l z h;cases h
 | succ f ih=>
  intro acc l z h
  cases l with
  | nil=>cases h
  | cons c t=>
   simp only [unA] at h
   split at h
   ·simp only [Except.error.injEq] at h;omega
   ·split at h
    ·cases hr : refL t with
     | none=>rw [hr] at h;simp only [Except.error.injEq] at h;omega
     | some y=>rw [hr] at h;exact ih _ _ _ h
    ·exact ih _ _ _ h
theorem unL_err {acc l : List UInt8} {z : Int} (h : unL acc l = .error z) : z = 12 ∨ z = 13:=unA_err _ _ _ _ h
def valueZ (k : Nat) : Option (List UInt8 × Nat) → Value
 | none=>.tuple #[.string ⟨#[]⟩,.int .i64 (-1)]
 | some (x,n)=>.tuple #[.string ⟨x.toArray⟩,.int .i64 ((k + n : Nat) : Int)]
end Go.Proofs.YtjldpkhfiffinaaGreatDoor.U
