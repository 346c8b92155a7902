/- Contracts and plain facts that the law stands on: Q1. -/
import Derived.Below
import Derived.Laws.RangeAny
import Derived.WalkLawsBesides
import Derived.Lib.RuneBytes
import Derived.Lib.Strings
import Derived.Lib.Bytealg
import Derived.RowKit3
namespace Go.Proofs.YtjldpkhfiffinaaGreatDoor.U
def letterI (c : Int) : Bool:=decide ((97 ≤ c ∧ c ≤ 122) ∨ (65 ≤ c ∧ c ≤ 90) ∨ c = 95)
def namedI (c : Int) : Bool:=decide ((97 ≤ c ∧ c ≤ 122) ∨ (65 ≤ c ∧ c ≤ 90) ∨ c = 95 ∨ (48 ≤ c ∧ c ≤ 57) ∨ c = 45 ∨ c = 46)
def blankI (c : Int) : Bool:=decide (c = 9 ∨ c = 10 ∨ c = 13 ∨ c = 32)
def allL (p : Int → Bool) (l : List UInt8) : Bool:=l.all fun b=>p b.toNat
def nameL (l : List UInt8) : Bool:=decide (1 ≤ l.length ∧ l.length ≤ 64) && (allL letterI (l.take 1) && allL namedI l)
def bts (s : ByteArray) : List UInt8:=s.data.toList
theorem bts_len (s : ByteArray) : (bts s).length = s.size:=by unfold bts;simp
theorem bts_get (s : ByteArray) (i : Nat) (h : i < s.size) : (bts s)[i]'(by rw [bts_len];exact h) = s[i]'h:=by unfold bts;simp;rfl
theorem bts_drop (s : ByteArray) (i : Nat) (h : i < s.size) : (bts s).drop i = s[i]'h :: (bts s).drop (i + 1):=by
 rw [List.drop_eq_getElem_cons (by rw [bts_len];exact h),bts_get s i h]
theorem bts_take (s : ByteArray) (i : Nat) (h : i < s.size) : (bts s).take (i + 1) = (bts s).take i ++ [s[i]'h]:=by
 rw [List.take_succ_eq_append_getElem (by rw [bts_len];exact h),bts_get s i h]
theorem bts_mk (l : List UInt8) : bts ⟨l.toArray⟩ = l:=by simp [bts]
theorem str_size (l : List UInt8) : (⟨l.toArray⟩ : ByteArray).size = l.length:=by show l.toArray.size = _;simp
theorem mk_bts (s : ByteArray) : (⟨(bts s).toArray⟩ : ByteArray) = s:=by cases s;simp [bts]
theorem bts_extract (s : ByteArray) (a b : Nat) : bts (s.extract a b) = ((bts s).take b).drop a:=by
 unfold bts;rw [ByteArray.data_extract,Array.toList_extract];simp [List.drop_take]
theorem bts_inj {s t : ByteArray} (h : bts s = bts t) : s = t:=by rw [← mk_bts s,← mk_bts t,h]
theorem bts_append (s t : ByteArray) : bts (s ++ t) = bts s ++ bts t:=by unfold bts;simp [ByteArray.data_append]
theorem allL_false {p : Int → Bool} (s : ByteArray) (i : Nat) (h : i < s.size) (hp : p (s[i]'h).toNat = false) : allL p (bts s) = false:=by
 unfold allL
 rw [List.all_eq_false]
 exact ⟨s[i]'h,by rw [← bts_get s i h];exact List.getElem_mem _,by simp [hp]⟩
def isC (r : Int) : Bool:=decide ((9 ≤ r ∧ r ≤ 10) ∨ (13 ≤ r ∧ r ≤ 13) ∨ (32 ≤ r ∧ r ≤ 55295) ∨ (57344 ≤ r ∧ r ≤ 65533) ∨ (65536 ≤ r ∧ r ≤ 1114111))
theorem isC_yes {r : Int} (h : (9 ≤ r ∧ r ≤ 10) ∨ (13 ≤ r ∧ r ≤ 13) ∨ (32 ≤ r ∧ r ≤ 55295) ∨ (57344 ≤ r ∧ r ≤ 65533) ∨ (65536 ≤ r ∧ r ≤ 1114111)) : isC r = true:=by
 simp only [isC,decide_eq_true_eq];exact h
theorem isC_no {r : Int} (h : ¬ ((9 ≤ r ∧ r ≤ 10) ∨ (13 ≤ r ∧ r ≤ 13) ∨ (32 ≤ r ∧ r ≤ 55295) ∨ (57344 ≤ r ∧ r ≤ 65533) ∨ (65536 ≤ r ∧ r ≤ 1114111))) : isC r = false:=by
 simp only [isC,decide_eq_false_iff_not];exact h
theorem isC_iff {r : Int} : isC r = true ↔ ((9 ≤ r ∧ r ≤ 10) ∨ (13 ≤ r ∧ r ≤ 13) ∨ (32 ≤ r ∧ r ≤ 55295) ∨ (57344 ≤ r ∧ r ≤ 65533) ∨ (65536 ≤ r ∧ r ≤ 1114111)):=by
 simp only [isC,decide_eq_true_eq]
theorem isC_bounds {r : Int} (h : isC r = true) : 9 ≤ r ∧ r ≤ 1114111:=by
 rw [isC_iff] at h;omega
def sizeC (r : Int) : Nat:=if r < 128 then 1 else if r < 2048 then 2 else if r < 65536 then 3 else 4
theorem sizeC_1 {r : Int} (h : r < 128) : sizeC r = 1:=by simp [sizeC,h]
theorem sizeC_2 {r : Int} (h1 : 128 ≤ r) (h : r < 2048) : sizeC r = 2:=by
 unfold sizeC;rw [if_neg (by omega),if_pos h]
theorem sizeC_3 {r : Int} (h1 : 2048 ≤ r) (h : r < 65536) : sizeC r = 3:=by
 unfold sizeC;rw [if_neg (by omega),if_neg (by omega),if_pos h]
theorem sizeC_4 {r : Int} (h1 : 65536 ≤ r) : sizeC r = 4:=by
 unfold sizeC;rw [if_neg (by omega),if_neg (by omega),if_neg (by omega)]
def encC (r : Int) : List Int:=if r < 128 then [r] else if r < 2048 then [192 + r / 64,128 + r % 64] else if r < 65536 then [224 + r / 4096,128 + r / 64 % 64,128 + r % 64] else [240 + r / 262144,128 + r / 4096 % 64,128 + r / 64 % 64,128 + r % 64]
theorem encC_1 {r : Int} (h : r < 128) : encC r = [r]:=by simp [encC,h]
theorem encC_2 {r : Int} (h1 : 128 ≤ r) (h : r < 2048) : encC r = [192 + r / 64,128 + r % 64]:=by
 unfold encC;rw [if_neg (by omega),if_pos h]
theorem encC_3 {r : Int} (h1 : 2048 ≤ r) (h : r < 65536) : encC r = [224 + r / 4096,128 + r / 64 % 64,128 + r % 64]:=by
 unfold encC;rw [if_neg (by omega),if_neg (by omega),if_pos h]
theorem encC_4 {r : Int} (h1 : 65536 ≤ r) : encC r = [240 + r / 262144,128 + r / 4096 % 64,128 + r / 64 % 64,128 + r % 64]:=by
 unfold encC;rw [if_neg (by omega),if_neg (by omega),if_neg (by omega)]
theorem encC_len (r : Int) : (encC r).length = sizeC r:=by
 unfold encC sizeC;repeat' split
 all_goals rfl
def begV (c : Int) : Int:=if c ≤ 127 then c else if c < 192 then 0 else if c ≤ 223 then c - 192 else if c ≤ 239 then c - 224 else if c ≤ 247 then c - 240 else 0
def begN (c : Int) : Nat:=if c ≤ 127 then 1 else if c < 192 then 0 else if c ≤ 223 then 2 else if c ≤ 239 then 3 else if c ≤ 247 then 4 else 0
open Go.RowKit
theorem and63_fin : ∀ x : Fin 256,bits BinOp.and IntKind.u8 (x.val : Int) 63 = (x.val : Int) % 64:=by decide +kernel
theorem andNot63_fin : ∀ x : Fin 256,bits BinOp.andNot IntKind.u8 (x.val : Int) 63 = (x.val : Int) - (x.val : Int) % 64:=by decide +kernel
theorem fin_int {P : Int → Prop} {n : Nat} (h : ∀ x : Fin n,P (x.val : Int)) (x : Int) (h0 : 0 ≤ x) (h1 : x < n) : P x:=by
 have:=h ⟨x.toNat,by omega⟩
 have e : ((x.toNat : Nat) : Int) = x:=by omega
 simpa only [e] using this
theorem and63 (x : Int) (h0 : 0 ≤ x) (h1 : x < 256) : bits BinOp.and IntKind.u8 x 63 = x % 64:=fin_int (P:=fun x=>bits BinOp.and IntKind.u8 x 63 = x % 64) and63_fin x h0 (by omega)
theorem andNot63 (x : Int) (h0 : 0 ≤ x) (h1 : x < 256) : bits BinOp.andNot IntKind.u8 x 63 = x - x % 64:=fin_int (P:=fun x=>bits BinOp.andNot IntKind.u8 x 63 = x - x % 64) andNot63_fin x h0 (by omega)
theorem wrap_u8 (x : Int) : IntKind.u8.wrap x = x % 256:=by
 unfold IntKind.wrap;simp [IntKind.bits,IntKind.signed]
theorem wrap_u8_in (x : Int) (h0 : 0 ≤ x) (h1 : x < 256) : IntKind.u8.wrap x = x:=by
 rw [wrap_u8 x];omega
open Go.RowKit
def contC : Int → List Int → Option Int
 | v,[]=>some v
 | v,c :: t=>if 128 ≤ c ∧ c < 192 then contC (v * 64 + c % 64) t else none
theorem contC_append (v : Int) (l m : List Int) : contC v (l ++ m) = (contC v l).bind fun u=>contC u m:=by
 induction l generalizing v with
 | nil=>rfl
 | cons c t ih=>
  simp only [List.cons_append,contC]
  split
  ·exact ih _
  ·rfl
theorem contC_snoc (v u c : Int) (l : List Int) (h : contC v l = some u) : contC v (l ++ [c]) = if 128 ≤ c ∧ c < 192 then some (u * 64 + c % 64) else none:=by
 rw [contC_append,h];simp [contC]
def decC (l : List Int) : Option (Int × Nat):=
 match l with
 | []=>none
 | c :: t=>if begN c = 0 ∨ l.length < begN c then none else
  match contC (begV c) (t.take (begN c - 1)) with
  | none=>none
  | some r=>if isC r = true ∧ sizeC r = begN c then some (r,begN c) else none
theorem begN_le (c : Int) : begN c ≤ 4:=by
 unfold begN;repeat' split
 all_goals omega
theorem begV_bounds (c : Int) (h0 : 0 ≤ c) : 0 ≤ begV c ∧ begV c < 128 ∧ (2 ≤ begN c → begV c < 32):=by
 unfold begV begN;repeat' split
 all_goals omega
theorem or_i32 (v x : Int) (h0 : 0 ≤ v) (h1 : v < 33554432) (h2 : 0 ≤ x) (h3 : x < 64) : bits BinOp.or IntKind.i32 (v * 64) x = v * 64 + x:=by
 obtain ⟨n,rfl⟩:=Int.eq_ofNat_of_zero_le h0
 obtain ⟨m,rfl⟩:=Int.eq_ofNat_of_zero_le h2
 have e1 : (BitVec.ofInt 32 ((n : Int) * 64)).toNat = n * 64:=by
  rw [BitVec.toNat_ofInt];omega
 have e2 : (BitVec.ofInt 32 (m : Int)).toNat = m:=by
  rw [BitVec.toNat_ofInt];omega
 have e3 : n * 64 ||| m = n * 64 + m:=nat_join 6 _ _ (by omega) (by omega)
 show IntKind.i32.wrap (((BitVec.ofInt 32 ((n : Int) * 64)) ||| (BitVec.ofInt 32 (m : Int))).toNat : Nat) = _
 rw [BitVec.toNat_or,e1,e2,e3]
 unfold IntKind.wrap
 simp [IntKind.bits,IntKind.signed]
 omega
theorem decC_cons (c : Int) (t : List Int) : decC (c :: t) = if begN c = 0 ∨ t.length + 1 < begN c then none else
  match contC (begV c) (t.take (begN c - 1)) with
  | none=>none
  | some r=>if isC r = true ∧ sizeC r = begN c then some (r,begN c) else none:=rfl
theorem dec_bad {c : Int} {t : List Int} (h : begN c = 0 ∨ t.length + 1 < begN c) : decC (c :: t) = none:=by
 rw [decC_cons,if_pos h]
theorem dec_cont {c : Int} {t : List Int} (h0 : 1 ≤ begN c) (h1 : begN c ≤ t.length + 1) (h : contC (begV c) (t.take (begN c - 1)) = none) : decC (c :: t) = none:=by
 rw [decC_cons,if_neg (by omega),h]
theorem dec_not {c : Int} {t : List Int} {u : Int} (h0 : 1 ≤ begN c) (h1 : begN c ≤ t.length + 1) (h : contC (begV c) (t.take (begN c - 1)) = some u) (h2 : ¬ (isC u = true ∧ sizeC u = begN c)) : decC (c :: t) = none:=by
 rw [decC_cons,if_neg (by omega),h];simp only [if_neg h2]
theorem dec_yes {c : Int} {t : List Int} {u : Int} (h0 : 1 ≤ begN c) (h1 : begN c ≤ t.length + 1) (h : contC (begV c) (t.take (begN c - 1)) = some u) (h2 : isC u = true) (h3 : sizeC u = begN c) : decC (c :: t) = some (u,begN c):=by
 rw [decC_cons,if_neg (by omega),h];simp only [if_pos (And.intro h2 h3)]
theorem contC_stop {v u x : Int} {t : List Int} {k m : Nat} (h : contC v (t.take k) = some u) (hk : k < t.length) (hm : k < m) (hx : x = t[k]?.getD 0) (hn : ¬ (128 ≤ x ∧ x < 192)) : contC v (t.take m) = none:=by
 have e : t.take m = t.take k ++ (t[k]?.getD 0 :: (t.drop (k + 1)).take (m - (k + 1))):=by
  have h1 : t = t.take k ++ (t[k]?.getD 0 :: t.drop (k + 1)):=by
   rw [List.getElem?_eq_getElem hk,Option.getD_some,← List.drop_eq_getElem_cons hk,List.take_append_drop]
  have h2 : (t.take k).length = k:=by simp;omega
  obtain ⟨d,rfl⟩ : ∃ d,m = k + 1 + d:=⟨m - (k + 1),by omega⟩
  conv=>lhs;rw [h1]
  rw [List.take_append,h2,List.take_take,show min (k + 1 + d) k = k by omega,show k + 1 + d - k = d + 1 by omega,List.take_succ_cons,show k + 1 + d - (k + 1) = d by omega]
 rw [e,contC_append,h]
 simp only [Option.bind_some,contC]
 rw [← hx,if_neg hn]
theorem contC_next {v u x : Int} {t : List Int} {k : Nat} (h : contC v (t.take k) = some u) (hk : k < t.length) (hx : x = t[k]?.getD 0) (hn : 128 ≤ x ∧ x < 192) : contC v (t.take (k + 1)) = some (u * 64 + x % 64):=by
 have e : t.take (k + 1) = t.take k ++ [t[k]?.getD 0]:=by
  rw [List.take_succ_eq_append_getElem hk,List.getElem?_eq_getElem hk];rfl
 rw [e,contC_snoc _ _ _ _ h,← hx,if_pos hn]
open Go.RowKit
theorem decC_some {l : List Int} {r : Int} {n : Nat} (h : decC l = some (r,n)) : 1 ≤ n ∧ n ≤ 4 ∧ n ≤ l.length ∧ isC r = true ∧ sizeC r = n:=by
 cases l with
 | nil=>cases h
 | cons c t=>
  rw [decC_cons] at h
  split at h
  ·cases h
  ·rename_i hn
   split at h
   ·cases h
   ·split at h
    ·rename_i hc
     simp only [Option.some.injEq,Prod.mk.injEq] at h
     obtain ⟨rfl,rfl⟩:=h
     have:=begN_le c
     exact ⟨by omega,by omega,by simp;omega,hc.1,hc.2⟩
    ·cases h
def runesF : Nat → List Int → List Int
 | 0,_=>[]
 | f + 1,l=>match decC l with
  | none=>[]
  | some (r,n)=>r :: runesF f (l.drop n)
def runesC (l : List Int) : List Int:=runesF l.length l
theorem runesF_more (f g : Nat) (l : List Int) (hf : l.length ≤ f) (hg : l.length ≤ g) : runesF f l = runesF g l:=by
 induction f generalizing g l with
 | zero=>
  obtain rfl : l = []:=List.eq_nil_of_length_eq_zero (by omega)
  cases g with
  | zero=>rfl
  | succ g=>rfl
 | succ f ih=>
  cases g with
  | zero=>
   obtain rfl : l = []:=List.eq_nil_of_length_eq_zero (by omega)
   rfl
  | succ g=>
   simp only [runesF]
   split
   ·rfl
   ·rename_i r n h
    have:=decC_some h
    rw [ih g (l.drop n) (by simp;omega) (by simp;omega)]
theorem runesC_none {l : List Int} (h : decC l = none) : runesC l = []:=by
 unfold runesC
 cases l with
 | nil=>rfl
 | cons c t=>simp only [List.length_cons,runesF,h]
theorem runesC_some {l : List Int} {r : Int} {n : Nat} (h : decC l = some (r,n)) : runesC l = r :: runesC (l.drop n):=by
 have hs:=decC_some h
 unfold runesC
 cases l with
 | nil=>cases h
 | cons c t=>
  have e : runesF (c :: t).length (c :: t) = r :: runesF t.length ((c :: t).drop n):=by
   simp only [List.length_cons,runesF,h]
  rw [e]
  congr 1
  refine runesF_more _ _ _ ?_ (Nat.le_refl _)
  simp only [List.length_drop,List.length_cons];omega
def sizes (rs : List Int) : Nat:=(rs.map sizeC).sum
def chkC (l : List Int) : Nat:=sizes (runesC l)
theorem chkC_none {l : List Int} (h : decC l = none) : chkC l = 0:=by unfold chkC;rw [runesC_none h];rfl
theorem chkC_some {l : List Int} {r : Int} {n : Nat} (h : decC l = some (r,n)) : chkC l = n + chkC (l.drop n):=by
 unfold chkC;rw [runesC_some h];simp [sizes,(decC_some h).2.2.2.2]
theorem chkC_nil : chkC [] = 0:=rfl
theorem chkC_le (l : List Int) : chkC l ≤ l.length:=by
 obtain ⟨m,hm⟩ : ∃ m,l.length ≤ m:=⟨_,Nat.le_refl _⟩
 induction m generalizing l with
 | zero=>
  obtain rfl : l = []:=List.eq_nil_of_length_eq_zero (by omega)
  simp [chkC_nil]
 | succ m ih=>
  cases h : decC l with
  | none=>rw [chkC_none h];omega
  | some x=>
   obtain ⟨r,n⟩:=x
   have hs:=decC_some h
   rw [chkC_some h]
   have:=ih (l.drop n) (by simp;omega)
   simp only [List.length_drop] at this
   omega
open Go.RowKit
def prs : Nat → List Int → List (Nat × Int)
 | _,[]=>[]
 | p,r :: rs=>(p,r) :: prs (p + sizeC r) rs
def prsC (zs : List Int) : List (Nat × Int):=prs 0 (runesC zs)
abbrev Ch:={ x : Nat × Int // x.1 ≤ 140737488351232 ∧ isC x.2 = true }
abbrev encCh (x : Ch) : Array Value:=#[.int .i64 (x.1.1 : Int),.int .i32 x.1.2]
open Go.RowKit
theorem begN_1 {c : Int} (h : c ≤ 127) : begN c = 1 ∧ begV c = c:=by unfold begN begV;simp [h]
theorem begN_2 {c : Int} (h : 192 ≤ c) (h' : c ≤ 223) : begN c = 2 ∧ begV c = c - 192:=by
 unfold begN begV;constructor <;> (rw [if_neg (by omega),if_neg (by omega),if_pos (by omega)])
theorem begN_3 {c : Int} (h : 224 ≤ c) (h' : c ≤ 239) : begN c = 3 ∧ begV c = c - 224:=by
 unfold begN begV;constructor <;> (rw [if_neg (by omega),if_neg (by omega),if_neg (by omega),if_pos (by omega)])
theorem begN_4 {c : Int} (h : 240 ≤ c) (h' : c ≤ 247) : begN c = 4 ∧ begV c = c - 240:=by
 unfold begN begV;constructor <;> (rw [if_neg (by omega),if_neg (by omega),if_neg (by omega),if_neg (by omega),if_pos (by omega)])
theorem begN_0 {c : Int} (h : (127 < c ∧ c < 192) ∨ 247 < c) : begN c = 0:=by
 unfold begN
 rcases h with ⟨h,h'⟩ | h
 ·rw [if_neg (by omega),if_pos (by omega)]
 ·rw [if_neg (by omega),if_neg (by omega),if_neg (by omega),if_neg (by omega),if_neg (by omega)]
theorem contC_one {v x : Int} (h : 128 ≤ x ∧ x < 192) (t : List Int) : contC v (x :: t) = contC (v * 64 + x % 64) t:=by
 simp only [contC,if_pos h]
theorem dec_enc {r : Int} (hr : isC r = true) (m : List Int) : decC (encC r ++ m) = some (r,sizeC r):=by
 have hb:=isC_bounds hr
 by_cases h1 : r < 128
 ·obtain ⟨e1,e2⟩:=begN_1 (c:=r) (by omega)
  rw [encC_1 h1,sizeC_1 h1,List.cons_append,decC_cons,e1,e2,if_neg (by omega)]
  simp only [Nat.sub_self,List.take_zero,contC]
  rw [if_pos ⟨hr,sizeC_1 h1⟩]
 ·by_cases h2 : r < 2048
  ·obtain ⟨e1,e2⟩:=begN_2 (c:=192 + r / 64) (by omega) (by omega)
   rw [encC_2 (by omega) h2,sizeC_2 (by omega) h2]
   simp only [List.cons_append,List.nil_append]
   rw [decC_cons,e1,e2,if_neg (by simp)]
   simp only [Nat.add_one_sub_one,List.take_succ_cons,List.take_zero]
   rw [contC_one (by omega),show (192 + r / 64 - 192) * 64 + (128 + r % 64) % 64 = r by omega]
   simp only [contC]
   rw [if_pos ⟨hr,sizeC_2 (by omega) h2⟩]
  ·by_cases h3 : r < 65536
   ·obtain ⟨e1,e2⟩:=begN_3 (c:=224 + r / 4096) (by omega) (by omega)
    rw [encC_3 (by omega) h3,sizeC_3 (by omega) h3]
    simp only [List.cons_append,List.nil_append]
    rw [decC_cons,e1,e2,if_neg (by simp)]
    simp only [Nat.add_one_sub_one,List.take_succ_cons,List.take_zero]
    rw [contC_one (by omega),contC_one (by omega),show ((224 + r / 4096 - 224) * 64 + (128 + r / 64 % 64) % 64) * 64 + (128 + r % 64) % 64 = r by omega]
    simp only [contC]
    rw [if_pos ⟨hr,sizeC_3 (by omega) h3⟩]
   ·obtain ⟨e1,e2⟩:=begN_4 (c:=240 + r / 262144) (by omega) (by omega)
    rw [encC_4 (by omega),sizeC_4 (by omega)]
    simp only [List.cons_append,List.nil_append]
    rw [decC_cons,e1,e2,if_neg (by simp)]
    simp only [Nat.add_one_sub_one,List.take_succ_cons,List.take_zero]
    rw [contC_one (by omega),contC_one (by omega),contC_one (by omega),show (((240 + r / 262144 - 240) * 64 + (128 + r / 4096 % 64) % 64) * 64 + (128 + r / 64 % 64) % 64) * 64 + (128 + r % 64) % 64 = r by omega]
    simp only [contC]
    rw [if_pos ⟨hr,sizeC_4 (by omega)⟩]
theorem contC_some {v u : Int} {x : Int} {t : List Int} (h : contC v (x :: t) = some u) : (128 ≤ x ∧ x < 192) ∧ contC (v * 64 + x % 64) t = some u:=by
 simp only [contC] at h
 split at h
 ·rename_i hx;exact ⟨hx,h⟩
 ·cases h
theorem enc_dec {l : List Int} {r : Int} {n : Nat} (h : decC l = some (r,n)) : l.take n = encC r:=by
 have hs:=decC_some h
 have hb:=isC_bounds hs.2.2.2.1
 cases l with
 | nil=>cases h
 | cons c t=>
  rw [decC_cons] at h
  split at h
  ·cases h
  ·rename_i hn
   split at h
   ·cases h
   ·rename_i u hu
    split at h
    ·rename_i hc
     simp only [Option.some.injEq,Prod.mk.injEq] at h
     obtain ⟨rfl,rfl⟩:=h
     by_cases k1 : c ≤ 127
     ·obtain ⟨e1,e2⟩:=begN_1 k1
      rw [e1,e2] at hu
      rw [e1] at hc ⊢
      simp only [Nat.sub_self,List.take_zero,contC,Option.some.injEq] at hu
      subst hu
      rw [encC_1 (by omega)];rfl
     ·by_cases k0 : c < 192
      ·have:=begN_0 (c:=c) (by omega);omega
      ·by_cases k2 : c ≤ 223
       ·obtain ⟨e1,e2⟩:=begN_2 (c:=c) (by omega) k2
        rw [e1,e2] at hu
        rw [e1] at hc hn ⊢
        match t,hn,hu with
        | [],hn,_=>simp at hn
        | x :: t,_,hu=>
         simp only [Nat.add_one_sub_one,List.take_succ_cons,List.take_zero] at hu ⊢
         obtain ⟨hx,hu⟩:=contC_some hu
         simp only [contC,Option.some.injEq] at hu
         have hsz:=hc.2
         have h1 : 128 ≤ u:=by
          rcases Int.lt_or_le u 128 with h | h
          ·rw [sizeC_1 h] at hsz;cases hsz
          ·exact h
         rw [encC_2 h1 (by omega)]
         simp only [List.cons.injEq,and_true]
         omega
       ·by_cases k3 : c ≤ 239
        ·obtain ⟨e1,e2⟩:=begN_3 (c:=c) (by omega) k3
         rw [e1,e2] at hu
         rw [e1] at hc hn ⊢
         match t,hn,hu with
         | [],hn,_=>simp at hn
         | [x],hn,_=>simp at hn
         | x :: y :: t,_,hu=>
          simp only [Nat.add_one_sub_one,List.take_succ_cons,List.take_zero] at hu ⊢
          obtain ⟨hx,hu⟩:=contC_some hu
          obtain ⟨hy,hu⟩:=contC_some hu
          simp only [contC,Option.some.injEq] at hu
          have hsz:=hc.2
          have h1 : 2048 ≤ u:=by
           rcases Int.lt_or_le u 2048 with h | h
           ·rcases Int.lt_or_le u 128 with h' | h'
            ·rw [sizeC_1 h'] at hsz;cases hsz
            ·rw [sizeC_2 h' h] at hsz;cases hsz
           ·exact h
          rw [encC_3 h1 (by omega)]
          simp only [List.cons.injEq,and_true]
          omega
        ·by_cases k4 : c ≤ 247
         ·obtain ⟨e1,e2⟩:=begN_4 (c:=c) (by omega) k4
          rw [e1,e2] at hu
          rw [e1] at hc hn ⊢
          match t,hn,hu with
          | [],hn,_=>simp at hn
          | [x],hn,_=>simp at hn
          | [x,y],hn,_=>simp at hn
          | x :: y :: z :: t,_,hu=>
           simp only [Nat.add_one_sub_one,List.take_succ_cons,List.take_zero] at hu ⊢
           obtain ⟨hx,hu⟩:=contC_some hu
           obtain ⟨hy,hu⟩:=contC_some hu
           obtain ⟨hz,hu⟩:=contC_some hu
           simp only [contC,Option.some.injEq] at hu
           have hsz:=hc.2
           have h1 : 65536 ≤ u:=by
            rcases Int.lt_or_le u 65536 with h | h
            ·rcases Int.lt_or_le u 2048 with h' | h'
             ·rcases Int.lt_or_le u 128 with h'' | h''
              ·rw [sizeC_1 h''] at hsz;cases hsz
              ·rw [sizeC_2 h'' h'] at hsz;cases hsz
             ·rw [sizeC_3 h' h] at hsz;cases hsz
            ·exact h
           rw [encC_4 h1]
           simp only [List.cons.injEq,and_true]
           omega
         ·have:=begN_0 (c:=c) (by omega);omega
    ·cases h
theorem runes_encs {zs : List Int} (h : zs.all isC = true) : runesC (zs.flatMap encC) = zs:=by
 induction zs with
 | nil=>rfl
 | cons r zs ih=>
  simp only [List.all_cons,Bool.and_eq_true] at h
  rw [List.flatMap_cons,runesC_some (dec_enc h.1 _)]
  have e : (encC r ++ zs.flatMap encC).drop (sizeC r) = zs.flatMap encC:=by
   rw [← encC_len r,List.drop_left]
  rw [e,ih h.2]
theorem sizes_len (zs : List Int) : sizes zs = (zs.flatMap encC).length:=by
 induction zs with
 | nil=>rfl
 | cons r zs ih=>
  rw [List.flatMap_cons,List.length_append,encC_len,← ih];rfl
theorem chk_encs {zs : List Int} (h : zs.all isC = true) : chkC (zs.flatMap encC) = (zs.flatMap encC).length:=by
 unfold chkC;rw [runes_encs h,sizes_len]
theorem runes_all (l : List Int) : (runesC l).all isC = true:=by
 obtain ⟨m,hm⟩ : ∃ m,l.length ≤ m:=⟨_,Nat.le_refl _⟩
 induction m generalizing l with
 | zero=>
  obtain rfl : l = []:=List.eq_nil_of_length_eq_zero (by omega)
  rfl
 | succ m ih=>
  cases h : decC l with
  | none=>rw [runesC_none h];rfl
  | some x=>
   obtain ⟨r,n⟩:=x
   have hs:=decC_some h
   rw [runesC_some h]
   simp only [List.all_cons,hs.2.2.2.1,Bool.true_and]
   exact ih _ (by simp;omega)
theorem encs_runes (l : List Int) : (runesC l).flatMap encC = l.take (chkC l):=by
 obtain ⟨m,hm⟩ : ∃ m,l.length ≤ m:=⟨_,Nat.le_refl _⟩
 induction m generalizing l with
 | zero=>
  obtain rfl : l = []:=List.eq_nil_of_length_eq_zero (by omega)
  rfl
 | succ m ih=>
  cases h : decC l with
  | none=>rw [runesC_none h,chkC_none h];rfl
  | some x=>
   obtain ⟨r,n⟩:=x
   have hs:=decC_some h
   rw [runesC_some h,chkC_some h,List.flatMap_cons,ih _ (by simp;omega),← enc_dec h,← List.take_add]
def ints (l : List UInt8) : List Int:=l.map fun b=>(b.toNat : Int)
theorem ints_append (a b : List UInt8) : ints (a ++ b) = ints a ++ ints b:=by simp [ints]
theorem ints_len (a : List UInt8) : (ints a).length = a.length:=by simp [ints]
theorem ints_drop (a : List UInt8) (n : Nat) : ints (a.drop n) = (ints a).drop n:=by simp [ints]
theorem ints_take (a : List UInt8) (n : Nat) : ints (a.take n) = (ints a).take n:=by simp [ints]
theorem ints_inj {a b : List UInt8} (h : ints a = ints b) : a = b:=by
 unfold ints at h
 refine (List.map_inj_right ?_).1 h
 intro x y hxy
 exact UInt8.toNat.inj (by exact_mod_cast hxy)
theorem encodeZ_is {r : Int} (h : isC r = true) : Lib.encodeRuneZ r = encC r:=by
 have hb:=isC_iff.1 h
 rcases (show r < 128 ∨ (128 ≤ r ∧ r < 2048) ∨ (2048 ≤ r ∧ r < 65536) ∨ 65536 ≤ r by omega) with h1 | ⟨h1,h2⟩ | ⟨h1,h2⟩ | h1
 ·rw [Lib.encodeRuneZ_one (by omega) (by omega),encC_1 h1]
 ·rw [Lib.encodeRuneZ_two (by omega) (by omega),encC_2 h1 h2]
 ·rw [Lib.encodeRuneZ_three (by omega),encC_3 h1 h2]
 ·rw [Lib.encodeRuneZ_four (by omega) (by omega),encC_4 h1]
theorem ints_encode {r : Int} (h : isC r = true) : ints (Lib.encodeRune r) = encC r:=by
 rw [← encodeZ_is h]
 unfold Lib.encodeRune ints
 rw [List.map_map]
 have hb:=Lib.encodeRuneZ_byte r
 conv=>rhs;rw [← List.map_id (Lib.encodeRuneZ r)]
 refine List.map_congr_left ?_
 intro x hx
 have:=hb x hx
 simp only [Function.comp,id]
 have h2 : x.toNat.toUInt8.toNat = x.toNat:=by simp;omega
 rw [h2];omega
theorem encode_len {r : Int} (h : isC r = true) : (Lib.encodeRune r).length = sizeC r:=by rw [← encC_len,← ints_encode h,ints_len]
theorem get_drop (s : ByteArray) (pos k : Nat) (b : Int) (h : (ints ((bts s).drop pos))[k]? = some b) : ((s.get! (pos + k)).toNat : Int) = b ∧ pos + k < s.size:=by
 unfold ints at h
 rw [List.getElem?_map,List.getElem?_drop] at h
 have hlt : pos + k < s.size:=by
  rcases Nat.lt_or_ge (pos + k) s.size with h' | h'
  ·exact h'
  ·rw [List.getElem?_eq_none (by rw [bts_len];exact h')] at h;cases h
 rw [List.getElem?_eq_getElem (by rw [bts_len];exact hlt),bts_get s _ hlt] at h
 have hg:=get_at s (pos + k) hlt
 rw [Nat.add_zero] at hg
 rw [hg]
 exact ⟨by simpa using h,hlt⟩
theorem dec_link (s : ByteArray) (pos : Nat) (r : Int) (m : List Int) (hr : isC r = true) (h : ints ((bts s).drop pos) = encC r ++ m) : Utf8.decode s pos = (r.toNat,sizeC r) ∧ pos + sizeC r ≤ s.size:=by
 have hb:=isC_iff.1 hr
 obtain ⟨k,rfl⟩ : ∃ k : Nat,r = k:=⟨r.toNat,by omega⟩
 rcases (show (k : Int) < 128 ∨ (128 ≤ (k : Int) ∧ (k : Int) < 2048) ∨ (2048 ≤ (k : Int) ∧ (k : Int) < 65536) ∨ 65536 ≤ (k : Int) by omega) with h1 | ⟨h1,h2⟩ | ⟨h1,h2⟩ | h1
 ·rw [encC_1 h1] at h
  obtain ⟨g0,l0⟩:=get_drop s pos 0 k (by rw [h];rfl)
  have e0 : (s.get! (pos + 0)).toNat = k:=by omega
  rw [sizeC_1 h1]
  refine ⟨?_,by omega⟩
  simp only [Utf8.decode,e0]
  rw [if_pos (by omega)]
  simp
 ·rw [encC_2 h1 h2] at h
  obtain ⟨g0,l0⟩:=get_drop s pos 0 _ (by rw [h];rfl)
  obtain ⟨g1,l1⟩:=get_drop s pos 1 _ (by rw [h];rfl)
  have e0 : (s.get! (pos + 0)).toNat = 192 + k / 64:=by omega
  have e1 : (s.get! (pos + 1)).toNat = 128 + k % 64:=by omega
  rw [sizeC_2 h1 h2]
  refine ⟨?_,by omega⟩
  simp only [Utf8.decode,e0,e1]
  rw [if_neg (by omega),if_pos (by simp;omega),if_pos (by omega)]
  simp;omega
 ·rw [encC_3 h1 h2] at h
  obtain ⟨g0,l0⟩:=get_drop s pos 0 _ (by rw [h];rfl)
  obtain ⟨g1,l1⟩:=get_drop s pos 1 _ (by rw [h];rfl)
  obtain ⟨g2,l2⟩:=get_drop s pos 2 _ (by rw [h];rfl)
  have e0 : (s.get! (pos + 0)).toNat = 224 + k / 4096:=by omega
  have e1 : (s.get! (pos + 1)).toNat = 128 + k / 64 % 64:=by omega
  have e2 : (s.get! (pos + 2)).toNat = 128 + k % 64:=by omega
  rw [sizeC_3 h1 h2]
  refine ⟨?_,by omega⟩
  have ev : ((224 + k / 4096) % 16) * 4096 + ((128 + k / 64 % 64) % 64) * 64 + (128 + k % 64) % 64 = k:=by omega
  simp only [Utf8.decode,e0,e1,e2,ev]
  rw [if_neg (by omega),if_neg (by simp;omega),if_pos (by simp;omega),if_pos (by simp [Utf8.valid];omega)]
  simp
 ·rw [encC_4 h1] at h
  obtain ⟨g0,l0⟩:=get_drop s pos 0 _ (by rw [h];rfl)
  obtain ⟨g1,l1⟩:=get_drop s pos 1 _ (by rw [h];rfl)
  obtain ⟨g2,l2⟩:=get_drop s pos 2 _ (by rw [h];rfl)
  obtain ⟨g3,l3⟩:=get_drop s pos 3 _ (by rw [h];rfl)
  have e0 : (s.get! (pos + 0)).toNat = 240 + k / 262144:=by omega
  have e1 : (s.get! (pos + 1)).toNat = 128 + k / 4096 % 64:=by omega
  have e2 : (s.get! (pos + 2)).toNat = 128 + k / 64 % 64:=by omega
  have e3 : (s.get! (pos + 3)).toNat = 128 + k % 64:=by omega
  rw [sizeC_4 h1]
  refine ⟨?_,by omega⟩
  have ev : ((240 + k / 262144) % 8) * 262144 + ((128 + k / 4096 % 64) % 64) * 4096 + ((128 + k / 64 % 64) % 64) * 64 + (128 + k % 64) % 64 = k:=by omega
  simp only [Utf8.decode,e0,e1,e2,e3,ev]
  rw [if_neg (by omega),if_neg (by simp;omega),if_neg (by simp;omega),if_pos (by simp;omega),if_pos (by simp [Utf8.valid];omega)]
  simp
def Whole (l : List UInt8) : Prop:=chkC (ints l) = l.length
def wholeB (l : List UInt8) : Bool:=decide (chkC (ints l) = l.length)
theorem wholeB_iff (l : List UInt8) : wholeB l = true ↔ Whole l:=by unfold wholeB Whole;exact decide_eq_true_iff
theorem Whole.runes {l : List UInt8} (h : Whole l) : ints l = (runesC (ints l)).flatMap encC:=by
 rw [encs_runes,h,← ints_len l,List.take_length]
theorem whole_of {l : List UInt8} {zs : List Int} (hz : zs.all isC = true) (h : ints l = zs.flatMap encC) : Whole l:=by
 unfold Whole;rw [h,chk_encs hz,← h,ints_len]
theorem encodes_of {l : List UInt8} {zs : List Int} (hz : zs.all isC = true) (h : ints l = zs.flatMap encC) : l = zs.flatMap Lib.encodeRune:=by
 apply ints_inj
 rw [h]
 clear h
 induction zs with
 | nil=>rfl
 | cons r t ih=>
  simp only [List.all_cons,Bool.and_eq_true] at hz
  rw [List.flatMap_cons,List.flatMap_cons,ints_append,ints_encode hz.1,← ih hz.2]
def escT (v : Bool) (r : Int) : List UInt8:=
 if r = 38 then [38,97,109,112,59] else if r = 60 then [38,108,116,59] else if r = 62 then [38,103,116,59] else if r = 13 then [38,35,49,51,59]
 else if v = true ∧ r = 34 then [38,113,117,111,116,59] else if v = true ∧ r = 9 then [38,35,57,59] else if v = true ∧ r = 10 then [38,35,49,48,59] else []
def escB (v : Bool) (b : UInt8) : List UInt8:=if escT v b.toNat = [] then [b] else escT v b.toNat
def escR (v : Bool) (r : Int) : List UInt8:=if escT v r = [] then Lib.encodeRune r else escT v r
def escL (v : Bool) (l : List UInt8) : List UInt8:=l.flatMap (escB v)
theorem escT_high {v : Bool} {r : Int} (h : 63 ≤ r) : escT v r = []:=by
 unfold escT
 rw [if_neg (by omega),if_neg (by omega),if_neg (by omega),if_neg (by omega),if_neg (by omega),if_neg (by omega),if_neg (by omega)]
theorem escT_len (v : Bool) (r : Int) : (escT v r).length ≤ 6:=by
 unfold escT;repeat' split
 all_goals simp
theorem escB_len (v : Bool) (b : UInt8) : 1 ≤ (escB v b).length ∧ (escB v b).length ≤ 6:=by
 unfold escB;split
 ·simp
 ·rename_i h
  have:=escT_len v b.toNat
  exact ⟨List.length_pos_iff.2 h,this⟩
theorem escL_len (v : Bool) (l : List UInt8) : l.length ≤ (escL v l).length ∧ (escL v l).length ≤ 6 * l.length:=by
 induction l with
 | nil=>simp [escL]
 | cons b t ih=>
  have:=escB_len v b
  simp only [escL,List.flatMap_cons,List.length_append,List.length_cons] at ih ⊢
  omega
theorem encC_low {r : Int} (h : isC r = true) (h1 : 128 ≤ r) : ∀ x ∈ encC r,128 ≤ x:=by
 have hb:=isC_bounds h
 intro x hx
 rcases (show r < 2048 ∨ (2048 ≤ r ∧ r < 65536) ∨ 65536 ≤ r by omega) with h2 | ⟨h2,h3⟩ | h2
 ·rw [encC_2 h1 h2] at hx;simp at hx;omega
 ·rw [encC_3 h2 h3] at hx;simp at hx;omega
 ·rw [encC_4 h2] at hx;simp at hx;omega
theorem encode_high {r : Int} (h : isC r = true) (h1 : 128 ≤ r) : ∀ b ∈ Lib.encodeRune r,128 ≤ b.toNat:=by
 intro b hb
 have : (b.toNat : Int) ∈ encC r:=by rw [← ints_encode h];exact List.mem_map_of_mem hb
 have:=encC_low h h1 _ this
 omega
theorem encode_low {r : Int} (h : isC r = true) (h1 : r < 128) : ∃ b : UInt8,Lib.encodeRune r = [b] ∧ (b.toNat : Int) = r:=by
 have h2:=ints_encode h
 rw [encC_1 h1] at h2
 match hl : Lib.encodeRune r,h2 with
 | [b],h2=>exact ⟨b,rfl,by simpa [ints] using h2⟩
theorem flat_high (v : Bool) (l : List UInt8) (h : ∀ b ∈ l,128 ≤ b.toNat) : l.flatMap (escB v) = l:=by
 induction l with
 | nil=>rfl
 | cons b t ih=>
  have:=h b (by simp)
  rw [List.flatMap_cons,ih (fun x hx=>h x (by simp [hx]))]
  unfold escB
  rw [if_pos (escT_high (by omega))]
  rfl
theorem esc_rune (v : Bool) {r : Int} (h : isC r = true) : (Lib.encodeRune r).flatMap (escB v) = escR v r:=by
 by_cases h1 : r < 128
 ·obtain ⟨b,e1,e2⟩:=encode_low h h1
  unfold escR
  rw [e1,← e2]
  simp [escB]
 ·rw [flat_high v _ (encode_high h (by omega))]
  unfold escR
  rw [if_pos (escT_high (by omega))]
theorem esc_runes (v : Bool) {zs : List Int} (hz : zs.all isC = true) : escL v (zs.flatMap Lib.encodeRune) = zs.flatMap (escR v):=by
 unfold escL
 induction zs with
 | nil=>rfl
 | cons r t ih=>
  simp only [List.all_cons,Bool.and_eq_true] at hz
  rw [List.flatMap_cons,List.flatMap_append,List.flatMap_cons,esc_rune v hz.1,ih hz.2]
def digV (c : Int) : Int:=if 48 ≤ c ∧ c ≤ 57 then c - 48 else if 97 ≤ c ∧ c ≤ 102 then c - 87 else if 65 ≤ c ∧ c ≤ 70 then c - 55 else -1
def numA (base : Int) : Int → List UInt8 → Option Int
 | a,[]=>some a
 | a,c :: t=>if 0 ≤ digV c.toNat ∧ digV c.toNat < base then numA base (a * base + digV c.toNat) t else none
def numL (base : Int) (l : List UInt8) : Option Int:=if 1 ≤ l.length ∧ l.length ≤ 8 then numA base 0 l else none
theorem digV_1 {c : Int} (h : 48 ≤ c ∧ c ≤ 57) : digV c = c - 48:=by unfold digV;rw [if_pos h]
theorem digV_2 {c : Int} (h : 97 ≤ c ∧ c ≤ 102) : digV c = c - 87:=by unfold digV;rw [if_neg (by omega),if_pos h]
theorem digV_3 {c : Int} (h : 65 ≤ c ∧ c ≤ 70) : digV c = c - 55:=by unfold digV;rw [if_neg (by omega),if_neg (by omega),if_pos h]
theorem digV_4 {c : Int} (h : ¬ (48 ≤ c ∧ c ≤ 57) ∧ ¬ (97 ≤ c ∧ c ≤ 102) ∧ ¬ (65 ≤ c ∧ c ≤ 70)) : digV c = -1:=by unfold digV;rw [if_neg h.1,if_neg h.2.1,if_neg h.2.2]
theorem digV_lt (c : Int) : -1 ≤ digV c ∧ digV c < 16:=by
 unfold digV;repeat' split
 all_goals omega
theorem numA_cons {base a d : Int} {c : UInt8} {t : List UInt8} (h : digV c.toNat = d) (h0 : 0 ≤ d) (h1 : d < base) : numA base a (c :: t) = numA base (a * base + d) t:=by
 simp only [numA,h];rw [if_pos ⟨h0,h1⟩]
theorem numA_none {base a d : Int} {c : UInt8} {t : List UInt8} (h : digV c.toNat = d) (h0 : d < 0 ∨ base ≤ d) : numA base a (c :: t) = none:=by
 simp only [numA,h];rw [if_neg (by omega)]
theorem numA_digit {base a : Int} {c : UInt8} {t : List UInt8} (h : 48 ≤ c.toNat ∧ c.toNat ≤ 57) (hb : 10 ≤ base) : numA base a (c :: t) = numA base (a * base + ((c.toNat : Int) - 48)) t:=
 numA_cons (digV_1 (by omega)) (by omega) (by omega)
theorem numA_letter {base a : Int} {c : UInt8} {t : List UInt8} (h : 97 ≤ c.toNat ∧ c.toNat ≤ 122) (hb : (c.toNat : Int) - 87 < base ∧ base ≤ 16) : numA base a (c :: t) = numA base (a * base + ((c.toNat : Int) - 87)) t:=
 numA_cons (digV_2 (by omega)) (by omega) (by omega)
theorem numA_upper {base a : Int} {c : UInt8} {t : List UInt8} (h : 65 ≤ c.toNat ∧ c.toNat ≤ 90) (hb : (c.toNat : Int) + 32 - 87 < base ∧ base ≤ 16) : numA base a (c :: t) = numA base (a * base + ((c.toNat : Int) + 32 - 87)) t:=
 numA_cons ((digV_3 (by omega)).trans (by omega)) (by omega) (by omega)
theorem numA_letter_no {base a : Int} {c : UInt8} {t : List UInt8} (h : 97 ≤ c.toNat ∧ c.toNat ≤ 122) (hb : ¬ ((c.toNat : Int) - 87 < base) ∧ base ≤ 16) : numA base a (c :: t) = none:=by
 by_cases h1 : c.toNat ≤ 102
 ·exact numA_none (digV_2 (by omega)) (by omega)
 ·exact numA_none (digV_4 (by omega)) (by omega)
theorem numA_upper_no {base a : Int} {c : UInt8} {t : List UInt8} (h : 65 ≤ c.toNat ∧ c.toNat ≤ 90) (hb : ¬ ((c.toNat : Int) + 32 - 87 < base) ∧ base ≤ 16) : numA base a (c :: t) = none:=by
 by_cases h1 : c.toNat ≤ 70
 ·exact numA_none (digV_3 (by omega)) (by omega)
 ·exact numA_none (digV_4 (by omega)) (by omega)
theorem numA_no {base a : Int} {c : UInt8} {t : List UInt8} (h : ¬ (48 ≤ c.toNat ∧ c.toNat ≤ 57)) (h' : ¬ ((65 ≤ c.toNat ∧ c.toNat ≤ 90) ∨ (97 ≤ c.toNat ∧ c.toNat ≤ 122))) : numA base a (c :: t) = none:=
 numA_none (digV_4 (by omega)) (by omega)
theorem numA_bound {base : Int} (hb : 10 ≤ base ∧ base ≤ 16) : ∀ (l : List UInt8) (a : Int) (k : Nat) (n : Int),0 ≤ a → a < 16 ^ k → numA base a l = some n → 0 ≤ n ∧ n < 16 ^ (k + l.length):=by
 intro l
 induction l with
 | nil=>intro a k n h0 h1 h;simp only [numA,Option.some.injEq] at h;subst h;simpa using ⟨h0,h1⟩
 | cons c t ih=>
  intro a k n h0 h1 h
  simp only [numA] at h
  split at h
  ·rename_i hd
   have hp : (16 : Int) ^ (k + 1) = 16 ^ k * 16:=Int.pow_succ _ _
   have hm : a * base ≤ a * 16:=Int.mul_le_mul_of_nonneg_left hb.2 h0
   have hm0 : 0 ≤ a * base:=Int.mul_nonneg h0 (by omega)
   have hd2:=(digV_lt c.toNat).2
   have:=ih (a * base + digV c.toNat) (k + 1) n (by omega) (by omega) h
   rw [List.length_cons,show k + (t.length + 1) = k + 1 + t.length by omega]
   exact this
  ·cases h
theorem numL_bound {base : Int} (hb : 10 ≤ base ∧ base ≤ 16) {l : List UInt8} {n : Int} (h : numL base l = some n) : 0 ≤ n ∧ n < 4294967296:=by
 unfold numL at h
 split at h
 ·rename_i hl
  have h1:=numA_bound hb l 0 0 n (by omega) (by decide) h
  have h2 : (16 : Int) ^ (0 + l.length) ≤ 16 ^ 8:=by
   have : (16 : Nat) ^ (0 + l.length) ≤ 16 ^ 8:=Nat.pow_le_pow_right (by omega) (by omega)
   exact_mod_cast this
  have h3 : (16 : Int) ^ 8 = 4294967296:=by decide
  omega
 ·cases h
open Go.RowKit
def wordV (l : List UInt8) : Int:=
 if l = [97,109,112] then 38 else if l = [108,116] then 60 else if l = [103,116] then 62 else if l = [113,117,111,116] then 34 else if l = [97,112,111,115] then 39
 else if Lib.hasPrefix l [35,120] = true then (numL 16 (l.drop 2)).getD 0 else if Lib.hasPrefix l [35] = true then (numL 10 (l.drop 1)).getD 0 else 0
theorem wordV_bound (l : List UInt8) : 0 ≤ wordV l ∧ wordV l < 4294967296:=by
 unfold wordV
 repeat' split
 ·omega
 ·omega
 ·omega
 ·omega
 ·omega
 ·cases h : numL 16 (l.drop 2) with
  | none=>simp
  | some n=>exact numL_bound (by omega) h
 ·cases h : numL 10 (l.drop 1) with
  | none=>simp
  | some n=>exact numL_bound (by omega) h
 ·omega
theorem wrap32_lit {n : Int} (h : 0 ≤ n ∧ n < 2147483648) : wrap32 n = n:=by unfold wrap32;omega
theorem isC_wrap {n : Int} (h0 : 0 ≤ n) (h1 : n < 4294967296) : isC (wrap32 n) = isC n:=by
 unfold isC wrap32
 simp only [decide_eq_decide]
 omega
theorem wrap_isC {n : Int} (h : isC n = true) : wrap32 n = n:=by
 have:=isC_bounds h
 unfold wrap32
 omega
def semi (l : List UInt8) : Nat:=(l.takeWhile fun b=>b != 59).length
def refL (l : List UInt8) : Option (Int × Nat):=
 if semi l < l.length ∧ isC (wordV (l.take (semi l))) = true then some (wordV (l.take (semi l)),semi l + 1) else none
theorem semi_cons_no {b : UInt8} {l : List UInt8} (h : b ≠ 59) : semi (b :: l) = semi l + 1:=by
 unfold semi;rw [List.takeWhile_cons_of_pos (by simpa using h)];rfl
theorem semi_cons_yes {l : List UInt8} : semi (59 :: l) = 0:=by
 unfold semi;rw [List.takeWhile_cons_of_neg (by simp)];rfl
theorem index_semi (l : List UInt8) : Lib.indexByte l 59 = if semi l < l.length then (semi l : Int) else -1:=by
 induction l with
 | nil=>rfl
 | cons b t ih=>
  by_cases h : b = 59
  ·subst h
   rw [semi_cons_yes]
   simp [Lib.indexByte]
  ·rw [semi_cons_no h]
   have hb : (b == 59) = false:=by simpa using h
   simp only [Lib.indexByte,hb,ih,List.length_cons,Bool.false_eq_true,if_false]
   by_cases h2 : semi t < t.length
   ·have : ((semi t : Int) == -1) = false:=by simp
    rw [if_pos h2,this,if_pos (show semi t + 1 < t.length + 1 by omega)]
    simp
   ·rw [if_neg h2,if_neg (show ¬ semi t + 1 < t.length + 1 by omega)]
    rfl
theorem sizeC_le (r : Int) : 1 ≤ sizeC r ∧ sizeC r ≤ 4:=by
 unfold sizeC;repeat' split
 all_goals omega
def unA : Nat → List UInt8 → List UInt8 → Except Int (List UInt8)
 | 0,acc,_=>.ok acc
 | _ + 1,acc,[]=>.ok acc
 | f + 1,acc,c :: t=>
  if c = 60 then .error 12 else if c = 38 then
   match refL t with
   | none=>.error 13
   | some (r,n)=>unA f (acc ++ Lib.encodeRune r) (t.drop n)
  else unA f (acc ++ [c]) t
theorem unA_fuel : ∀ (f g : Nat) (acc l : List UInt8),l.length ≤ f → l.length ≤ g → unA f acc l = unA g acc l:=by
 intro f
 induction f with
 | zero=>
  intro g acc l hf hg
  obtain rfl : l = []:=List.eq_nil_of_length_eq_zero (by omega)
  cases g <;> rfl
 | succ f ih=>
  intro g acc l hf hg
  match g,l with
  | 0,[]=>rfl
  | g + 1,[]=>rfl
  | g + 1,c :: t=>
   simp only [List.length_cons] at hf hg
   simp only [unA]
   split
   ·rfl
   ·split
    ·cases refL t with
     | none=>rfl
     | some x=>exact ih g _ _ (by simp;omega) (by simp;omega)
    ·exact ih g _ _ (by omega) (by omega)
def unL (acc l : List UInt8) : Except Int (List UInt8):=unA l.length acc l
theorem unL_nil (acc : List UInt8) : unL acc [] = .ok acc:=rfl
theorem unL_form (acc t : List UInt8) : unL acc (60 :: t) = .error 12:=by simp [unL,unA]
theorem unL_none {acc t : List UInt8} (h : refL t = none) : unL acc (38 :: t) = .error 13:=by simp [unL,unA,h]
theorem unL_some {acc t : List UInt8} {r : Int} {n : Nat} (h : refL t = some (r,n)) : unL acc (38 :: t) = unL (acc ++ Lib.encodeRune r) (t.drop n):=by
 simp only [unL,List.length_cons,unA,h]
 rw [if_neg (by decide),if_true]
 exact unA_fuel _ _ _ _ (by simp) (Nat.le_refl _)
theorem unL_other {acc t : List UInt8} {c : UInt8} (h1 : c ≠ 60) (h2 : c ≠ 38) : unL acc (c :: t) = unL (acc ++ [c]) t:=by
 simp only [unL,List.length_cons,unA]
 rw [if_neg h1,if_neg h2]
theorem unL_plain (l : List UInt8) (h : ∀ b ∈ l,b ≠ 60 ∧ b ≠ 38) : ∀ acc t,unL acc (l ++ t) = unL (acc ++ l) t:=by
 induction l with
 | nil=>intro acc t;simp
 | cons c l ih=>
  intro acc t
  have hc:=h c (by simp)
  rw [List.cons_append,unL_other hc.1 hc.2,ih (fun b hb=>h b (by simp [hb])),List.append_assoc]
  rfl
theorem unL_rune {r : Int} (hr : isC r = true) (h1 : r ≠ 60) (h2 : r ≠ 38) (acc t : List UInt8) : unL acc (Lib.encodeRune r ++ t) = unL (acc ++ Lib.encodeRune r) t:=by
 refine unL_plain _ ?_ _ _
 intro b hb
 by_cases h : r < 128
 ·obtain ⟨c,e1,e2⟩:=encode_low hr h
  rw [e1] at hb
  obtain rfl:=List.mem_singleton.1 hb
  refine ⟨?_,?_⟩ <;> (rintro rfl;simp at e2;omega)
 ·have:=encode_high hr (by omega) b hb
  refine ⟨?_,?_⟩ <;> (rintro rfl;simp at this)
def unR : Except Int (List UInt8) → List UInt8 × Int
 | .ok x=>(x,0)
 | .error e=>([],e)
def unP (l : List UInt8) : List UInt8 × Int:=
 if wholeB l = true then unR (unL [] l) else ([],10)
theorem semi_get : ∀ (l : List UInt8),semi l < l.length → l[semi l]? = some 59:=by
 intro l
 induction l with
 | nil=>intro h;simp at h
 | cons b t ih=>
  intro h
  by_cases hb : b = 59
  ·subst hb;rw [semi_cons_yes];rfl
  ·rw [semi_cons_no hb] at h ⊢
   rw [List.getElem?_cons_succ]
   exact ih (by simpa using h)
theorem refL_some {t : List UInt8} {r : Int} {n : Nat} (h : refL t = some (r,n)) : 1 ≤ n ∧ n ≤ t.length ∧ t[n - 1]? = some 59 ∧ isC r = true:=by
 unfold refL at h
 split at h
 ·rename_i hc
  simp only [Option.some.injEq,Prod.mk.injEq] at h
  obtain ⟨rfl,rfl⟩:=h
  exact ⟨by omega,by omega,semi_get t hc.1,hc.2⟩
 ·cases h
theorem esc_word (v : Bool) (r : Int) (h : escT v r ≠ []) : ∃ wd : List UInt8,(∀ t,escT v r ++ t = 38 :: (wd ++ 59 :: t)) ∧ (∀ b ∈ wd,b ≠ 59) ∧ wordV wd = r ∧ isC r = true:=by
 unfold escT at h ⊢
 by_cases h1 : r = 38
 ·subst h1;exact ⟨[97,109,112],fun t=>by simp,by decide,by decide,by decide⟩
 by_cases h2 : r = 60
 ·subst h2;exact ⟨[108,116],fun t=>by simp,by decide,by decide,by decide⟩
 by_cases h3 : r = 62
 ·subst h3;exact ⟨[103,116],fun t=>by simp,by decide,by decide,by decide⟩
 by_cases h4 : r = 13
 ·subst h4;exact ⟨[35,49,51],fun t=>by simp,by decide,by decide +kernel,by decide⟩
 rw [if_neg h1,if_neg h2,if_neg h3,if_neg h4] at h ⊢
 by_cases h5 : v = true ∧ r = 34
 ·rw [if_pos h5];obtain ⟨_,rfl⟩:=h5;exact ⟨[113,117,111,116],fun t=>by simp,by decide,by decide,by decide⟩
 rw [if_neg h5] at h ⊢
 by_cases h6 : v = true ∧ r = 9
 ·rw [if_pos h6];obtain ⟨_,rfl⟩:=h6;exact ⟨[35,57],fun t=>by simp,by decide,by decide +kernel,by decide⟩
 rw [if_neg h6] at h ⊢
 by_cases h7 : v = true ∧ r = 10
 ·rw [if_pos h7];obtain ⟨_,rfl⟩:=h7;exact ⟨[35,49,48],fun t=>by simp,by decide,by decide +kernel,by decide⟩
 rw [if_neg h7] at h
 exact absurd rfl h
theorem semi_word (wd t : List UInt8) (h : ∀ b ∈ wd,b ≠ 59) : semi (wd ++ 59 :: t) = wd.length:=by
 induction wd with
 | nil=>exact semi_cons_yes
 | cons b r ih=>
  rw [List.cons_append,semi_cons_no (h b (by simp)),ih (fun x hx=>h x (by simp [hx]))]
  rfl
theorem un_esc_one (v : Bool) {r : Int} (hr : isC r = true) (acc t : List UInt8) : unL acc (escR v r ++ t) = unL (acc ++ Lib.encodeRune r) t:=by
 unfold escR
 by_cases h : escT v r = []
 ·rw [if_pos h]
  have h60 : r ≠ 60:=by rintro rfl;revert h;cases v <;> decide
  have h38 : r ≠ 38:=by rintro rfl;revert h;cases v <;> decide
  exact unL_rune hr h60 h38 acc t
 ·rw [if_neg h]
  obtain ⟨wd,e,hw,hv,hc⟩:=esc_word v r h
  rw [e]
  have hs:=semi_word wd t hw
  have hr2 : refL (wd ++ 59 :: t) = some (r,wd.length + 1):=by
   unfold refL
   rw [hs,List.take_left,hv,if_pos ⟨by simp,hc⟩]
  rw [unL_some hr2,List.drop_append,List.drop_of_length_le (by omega),show wd.length + 1 - wd.length = 1 by omega]
  rfl
theorem un_esc (v : Bool) (zs : List Int) : ∀ acc,zs.all isC = true → unL acc (zs.flatMap (escR v)) = .ok (acc ++ zs.flatMap Lib.encodeRune):=by
 induction zs with
 | nil=>intro acc _;simp [unL_nil]
 | cons r t ih=>
  intro acc hz
  simp only [List.all_cons,Bool.and_eq_true] at hz
  rw [List.flatMap_cons,un_esc_one v hz.1,ih _ hz.2,List.flatMap_cons,List.append_assoc]
theorem escT_chars (v : Bool) (r : Int) : ∀ b ∈ escT v r,isC (b.toNat : Int) = true ∧ b.toNat < 128:=by
 unfold escT
 repeat' split
 all_goals decide
theorem escR_chars (v : Bool) {r : Int} (hr : isC r = true) : ∃ zs : List Int,zs.all isC = true ∧ ints (escR v r) = zs.flatMap encC:=by
 unfold escR
 by_cases h : escT v r = []
 ·rw [if_pos h]
  exact ⟨[r],by simp [hr],by simp [ints_encode hr]⟩
 ·rw [if_neg h]
  refine ⟨ints (escT v r),?_,?_⟩
  ·rw [List.all_eq_true]
   intro x hx
   unfold ints at hx
   obtain ⟨b,hb,rfl⟩:=List.mem_map.1 hx
   exact (escT_chars v r b hb).1
  ·have hb:=escT_chars v r
   generalize escT v r = l at hb
   induction l with
   | nil=>rfl
   | cons b t ih=>
    have h1:=(hb b (by simp)).2
    have e : ints (b :: t) = (b.toNat : Int) :: ints t:=rfl
    rw [e,List.flatMap_cons,encC_1 (by omega),← ih (fun x hx=>hb x (by simp [hx]))];rfl
theorem escs_whole (v : Bool) (zs : List Int) : zs.all isC = true → ∃ ys : List Int,ys.all isC = true ∧ ints (zs.flatMap (escR v)) = ys.flatMap encC:=by
 induction zs with
 | nil=>intro _;exact ⟨[],rfl,rfl⟩
 | cons r t ih=>
  intro hz
  simp only [List.all_cons,Bool.and_eq_true] at hz
  obtain ⟨a,ha,ea⟩:=escR_chars v hz.1
  obtain ⟨b,hb,eb⟩:=ih hz.2
  exact ⟨a ++ b,by rw [List.all_append,ha,hb];rfl,by rw [List.flatMap_cons,ints_append,ea,eb,List.flatMap_append]⟩
theorem back (v : Bool) {l : List UInt8} (h : Whole l) : Whole (escL v l) ∧ unL [] (escL v l) = .ok l:=by
 have hrun:=h.runes
 have hall:=runes_all (ints l)
 have hesc : escL v l = (runesC (ints l)).flatMap (escR v):=by
  conv=>lhs;rw [encodes_of hall hrun]
  exact esc_runes v hall
 obtain ⟨ys,h1,h2⟩:=escs_whole v _ hall
 refine ⟨whole_of h1 (by rw [hesc,h2]),?_⟩
 rw [hesc,un_esc v _ [] hall,List.nil_append,← encodes_of hall hrun]
def badB (v : Bool) (c : Int) : Bool:=decide (c = 60 ∨ c = 62 ∨ c = 13 ∨ (v = true ∧ (c = 34 ∨ c = 9 ∨ c = 10)))
theorem escB_good (v : Bool) (b : UInt8) : ∀ x ∈ escB v b,badB v x.toNat = false:=by
 intro x hx
 unfold escB at hx
 by_cases h : escT v b.toNat = []
 ·rw [if_pos h] at hx
  obtain rfl:=List.mem_singleton.1 hx
  simp only [badB,decide_eq_false_iff_not]
  unfold escT at h
  intro hb
  revert h
  rcases hb with hb | hb | hb | ⟨rfl,hb | hb | hb⟩ <;> rw [hb] <;> simp
 ·rw [if_neg h] at hx
  revert hx
  unfold escT
  repeat' split
  all_goals (cases v <;> simp [badB] <;> (try (rintro (rfl | rfl | rfl | rfl | rfl | rfl) <;> decide)) <;> (try (rintro (rfl | rfl | rfl | rfl | rfl) <;> decide)) <;> (try (rintro (rfl | rfl | rfl | rfl) <;> decide)))
theorem esc_good (v : Bool) (l : List UInt8) : ∀ x ∈ escL v l,badB v x.toNat = false:=by
 intro x hx
 unfold escL at hx
 obtain ⟨b,_,hb⟩:=List.mem_flatMap.1 hx
 exact escB_good v b x hb
end Go.Proofs.YtjldpkhfiffinaaGreatDoor.U
