/- Contracts and plain facts that the law stands on: Q2. -/
import Derived.Test.YtjldpkhfiffinaaGreatDoorZC01
namespace Go.Proofs.YtjldpkhfiffinaaGreatDoor.U
structure Tok where
 kind : Int
 name : List UInt8
 text : List UInt8
 attrs : List (List UInt8 × List UInt8)
 empty : Bool
def begL (x l : List UInt8) : Bool:=x.isPrefixOf l
theorem begL_iff {x l : List UInt8} : begL x l = true ↔ ∃ r,l = x ++ r:=by
 unfold begL
 rw [List.isPrefixOf_iff_prefix]
 constructor
 ·rintro ⟨r,rfl⟩;exact ⟨r,rfl⟩
 ·rintro ⟨r,rfl⟩;exact ⟨r,rfl⟩
theorem begL_append (x r : List UInt8) : begL x (x ++ r) = true:=begL_iff.2 ⟨r,rfl⟩
theorem begL_len {x l : List UInt8} (h : begL x l = true) : x.length ≤ l.length:=by
 obtain ⟨r,rfl⟩:=begL_iff.1 h;simp
theorem begL_more {x l r : List UInt8} (h : x.length ≤ l.length) : begL x (l ++ r) = begL x l:=by
 rw [Bool.eq_iff_iff,begL_iff,begL_iff]
 constructor
 ·rintro ⟨q,hq⟩
  refine ⟨l.drop x.length,?_⟩
  have h1:=congrArg (List.take x.length) hq
  rw [List.take_append_of_le_length h,List.take_left] at h1
  conv=>lhs;rw [← List.take_append_drop x.length l,h1]
 ·rintro ⟨q,rfl⟩
  exact ⟨q ++ r,by rw [List.append_assoc]⟩
theorem begL_cons (a c : UInt8) (x l : List UInt8) : begL (a :: x) (c :: l) = (a == c && begL x l):=rfl
theorem begL_nil (l : List UInt8) : begL [] l = true:=by cases l <;> rfl
def findL (x : List UInt8) : List UInt8 → Option Nat
 | []=>if begL x [] = true then some 0 else none
 | c :: t=>if begL x (c :: t) = true then some 0 else (findL x t).map (· + 1)
theorem findL_eq {x : List UInt8} : ∀ (e : Nat) {l : List UInt8},begL x (l.drop e) = true → e ≤ l.length → (∀ i,i < e → begL x (l.drop i) = false) → findL x l = some e:=by
 intro e
 induction e with
 | zero=>
  intro l h _ _
  rw [List.drop_zero] at h
  cases l with
  | nil=>simp only [findL];rw [if_pos h]
  | cons c t=>simp only [findL];rw [if_pos h]
 | succ e ih=>
  intro l h hl hn
  cases l with
  | nil=>simp at hl
  | cons c t=>
   simp only [findL]
   have h0:=hn 0 (by omega)
   rw [if_neg (by rw [show c :: t = (c :: t).drop 0 from rfl,h0];simp)]
   rw [ih (l:=t) h (by simpa using hl) (fun i hi=>hn (i + 1) (by omega))]
   rfl
theorem findL_some {x : List UInt8} : ∀ {l : List UInt8} {e : Nat},findL x l = some e → begL x (l.drop e) = true ∧ e ≤ l.length ∧ ∀ i,i < e → begL x (l.drop i) = false:=by
 intro l
 induction l with
 | nil=>
  intro e h
  simp only [findL] at h
  split at h
  ·rename_i hb
   obtain rfl:=Option.some.inj h
   exact ⟨hb,by simp,fun i hi=>by omega⟩
  ·cases h
 | cons c t ih=>
  intro e h
  simp only [findL] at h
  split at h
  ·rename_i hb
   obtain rfl:=Option.some.inj h
   exact ⟨hb,by simp,fun i hi=>by omega⟩
  ·rename_i hb
   rw [Option.map_eq_some_iff] at h
   obtain ⟨k,hk,rfl⟩:=h
   obtain ⟨h1,h2,h3⟩:=ih hk
   refine ⟨h1,by simpa using h2,fun i hi=>?_⟩
   cases i with
   | zero=>simpa using hb
   | succ i=>exact h3 i (by omega)
theorem findL_none {x : List UInt8} : ∀ {l : List UInt8},findL x l = none → ∀ i,i ≤ l.length → begL x (l.drop i) = false:=by
 intro l
 induction l with
 | nil=>
  intro h i hi
  simp only [findL] at h
  split at h
  ·cases h
  ·rename_i hb;simpa using hb
 | cons c t ih=>
  intro h i hi
  simp only [findL] at h
  split at h
  ·cases h
  ·rename_i hb
   rw [Option.map_eq_none_iff] at h
   cases i with
   | zero=>simpa using hb
   | succ i=>exact ih h i (by simpa using hi)
theorem findL_no {x l : List UInt8} (h : ∀ i,i ≤ l.length → begL x (l.drop i) = false) : findL x l = none:=by
 cases hf : findL x l with
 | none=>rfl
 | some e=>
  obtain ⟨h1,h2,_⟩:=findL_some hf
  rw [h e h2] at h1;cases h1
theorem findL_len {x l : List UInt8} {e : Nat} (h : findL x l = some e) : e + x.length ≤ l.length:=by
 obtain ⟨h1,h2,_⟩:=findL_some h
 have:=begL_len h1
 rw [List.length_drop] at this
 omega
theorem find_byte {c : UInt8} {p r : List UInt8} (h : ∀ b ∈ p,b ≠ c) : findL [c] (p ++ c :: r) = some p.length:=by
 refine findL_eq _ ?_ (by simp) ?_
 ·rw [List.drop_left];exact begL_append [c] r
 ·intro i hi
  rw [List.drop_append_of_le_length (by omega),List.drop_eq_getElem_cons hi,List.cons_append,begL_cons]
  have:=h _ (List.getElem_mem hi)
  have h2 : (c == p[i]) = false:=by simpa using fun e : c = p[i]=>this e.symm
  rw [h2];rfl
def nameN (l : List UInt8) : Nat:=(l.takeWhile fun b=>namedI b.toNat).length
def blankN (l : List UInt8) : Nat:=(l.takeWhile fun b=>blankI b.toNat).length
def mapB (b : UInt8) : UInt8:=if b = 9 ∨ b = 10 then 32 else b
def valueL : List UInt8 → Option (List UInt8 × Nat)
 | []=>none
 | q :: t=>
  if q = 34 ∨ q = 39 then
   match findL [q] t with
   | none=>none
   | some e=>
    match unL [] ((t.take e).map mapB) with
    | .error _=>none
    | .ok x=>some (x,e + 2)
  else none
def attrL (l : List UInt8) : Option ((List UInt8 × List UInt8) × Nat):=
 if nameL (l.take (nameN l)) = true then
  let r:=l.drop (nameN l)
  let b:=blankN r
  if begL [61] (r.drop b) = true then
   let s:=r.drop (b + 1)
   let c:=blankN s
   match valueL (s.drop c) with
   | none=>none
   | some (x,k)=>some ((l.take (nameN l),x),nameN l + b + 1 + c + k)
  else none
 else none
def hasA (ats : List (List UInt8 × List UInt8)) (n : List UInt8) : Bool:=ats.any fun a=>a.1 == n
def attrsA : Nat → List (List UInt8 × List UInt8) → List UInt8 → Option (List (List UInt8 × List UInt8) × Bool × Nat)
 | 0,_,_=>none
 | f + 1,acc,l=>
  let b:=blankN l
  let r:=l.drop b
  if begL [62] r = true then some (acc,false,b + 1)
  else if begL [47,62] r = true then some (acc,true,b + 2)
  else if b = 0 then none
  else match attrL r with
   | none=>none
   | some (a,k)=>if hasA acc a.1 = true then none else (attrsA f (acc ++ [a]) (r.drop k)).map fun x=>(x.1,x.2.1,b + k + x.2.2)
def sXml : List UInt8:=[60,63,120,109,108]
def sDec1 : List UInt8:=[60,63,120,109,108,32,118,101,114,115,105,111,110,61,34,49,46,48,34,63,62]
def sDec2 : List UInt8:=[60,63,120,109,108,32,118,101,114,115,105,111,110,61,34,49,46,48,34,32,101,110,99,111,100,105,110,103,61,34,85,84,70,45,56,34,63,62]
def sUtf : List UInt8:=[85,84,70,45,56]
def sCom : List UInt8:=[60,33,45,45]
def sCd : List UInt8:=[60,33,91,67,68,65,84,65,91]
def sEnd : List UInt8:=[93,93,62]
def comL (l : List UInt8) : Option (Tok × Nat):=
 match findL [45,45] (l.drop 4) with
 | none=>none
 | some e=>if begL [45,45,62] ((l.drop 4).drop e) = true then some (⟨5,[],(l.drop 4).take e,[],false⟩,e + 7) else none
def cdL (l : List UInt8) : Option (Tok × Nat):=
 match findL sEnd (l.drop 9) with
 | none=>none
 | some e=>some (⟨4,[],(l.drop 9).take e,[],false⟩,e + 12)
def closeL (l : List UInt8) : Option (Tok × Nat):=
 let m:=l.drop 2
 if nameL (m.take (nameN m)) = true then
  let r:=m.drop (nameN m)
  if begL [62] (r.drop (blankN r)) = true then some (⟨3,m.take (nameN m),[],[],false⟩,2 + nameN m + blankN r + 1) else none
 else none
def openL (l : List UInt8) : Option (Tok × Nat):=
 let m:=l.drop 1
 if nameL (m.take (nameN m)) = true then
  match attrsA (m.length + 1) [] (m.drop (nameN m)) with
  | none=>none
  | some (ats,em,k)=>some (⟨2,m.take (nameN m),[],ats,em⟩,1 + nameN m + k)
 else none
def textL (l : List UInt8) : Option (Tok × Nat):=
 let e:=(findL [60] l).getD l.length
 match unL [] (l.take e) with
 | .error _=>none
 | .ok x=>if findL sEnd (l.take e) = none then some (⟨4,[],x,[],false⟩,e) else none
def decL (l : List UInt8) : Option (Tok × Nat):=
 if begL sDec1 l = true then some (⟨1,[],[],[],false⟩,21)
 else if begL sDec2 l = true then some (⟨1,[],sUtf,[],false⟩,38) else none
def pieceL (first : Bool) (l : List UInt8) : Option (Tok × Nat):=
 if first = true ∧ begL sXml l = true then decL l
 else if begL sCom l = true then comL l
 else if begL sCd l = true then cdL l
 else if begL [60,47] l = true then closeL l
 else if begL [60] l = true then openL l
 else textL l
def allA : Nat → Nat → List Tok → List UInt8 → Except Nat (List Tok)
 | _,_,acc,[]=>.ok acc
 | 0,at',_,_ :: _=>.error at'
 | f + 1,at',acc,c :: t=>
  match pieceL (at' == 0) (c :: t) with
  | none=>.error at'
  | some (x,n)=>allA f (at' + n) (acc ++ [x]) ((c :: t).drop n)
def allL3 (l : List UInt8) : Except Nat (List Tok):=allA l.length 0 [] l
def linesL : List UInt8 → List UInt8
 | []=>[]
 | c :: t=>if c = 13 then (if t.head? = some 10 then linesL t else 10 :: linesL t) else c :: linesL t
def dupA : List (List UInt8 × List UInt8) → List (List UInt8 × List UInt8) → Bool
 | _,[]=>false
 | acc,a :: t=>hasA acc a.1 || dupA (acc ++ [a]) t
def okT (first : Bool) (t : Tok) : Bool:=
 if t.kind = 1 then first && (decide (t.text = []) || decide (t.text = sUtf))
 else if t.kind = 2 then nameL t.name && (t.attrs.all (fun a=>nameL a.1)) && !dupA [] t.attrs && t.attrs.all (fun a=>wholeB a.2)
 else if t.kind = 3 then nameL t.name
 else if t.kind = 4 then wholeB t.text
 else if t.kind = 5 then wholeB t.text && decide (findL [45,45] t.text = none) && !t.text.contains 13 && decide (t.text.getLast? ≠ some 45)
 else false
def attrT (a : List UInt8 × List UInt8) : List UInt8:=32 :: (a.1 ++ 61 :: 34 :: (escL true a.2 ++ [34]))
def textT (t : Tok) : List UInt8:=
 if t.kind = 1 then (if t.text = [] then sDec1 else sDec2)
 else if t.kind = 2 then 60 :: (t.name ++ t.attrs.flatMap attrT ++ (if t.empty = true then [47,62] else [62]))
 else if t.kind = 3 then 60 :: 47 :: (t.name ++ [62])
 else if t.kind = 4 then escL false t.text
 else sCom ++ t.text ++ [45,45,62]
def plainT (t : Tok) : Bool:=
 (decide (t.kind = 2 ∨ t.kind = 3) || decide (t.name = [])) && (!decide (t.kind = 2 ∨ t.kind = 3) || decide (t.text = [])) && (decide (t.kind = 2) || (decide (t.attrs = []) && !t.empty)) && (decide (t.kind ≠ 4) || decide (t.text ≠ []))
def neatL : List Tok → Bool
 | []=>true
 | t :: r=>plainT t && (match r with | []=>true | u :: _=>!(decide (t.kind = 4) && decide (u.kind = 4))) && neatL r
theorem tw_stop {p : UInt8 → Bool} {a r : List UInt8} {c : UInt8} (ha : ∀ b ∈ a,p b = true) (hc : p c = false) : (a ++ c :: r).takeWhile p = a:=by
 induction a with
 | nil=>rw [List.nil_append,List.takeWhile_cons_of_neg (by simp [hc])]
 | cons b t ih=>rw [List.cons_append,List.takeWhile_cons_of_pos (ha b (by simp)),ih (fun x hx=>ha x (by simp [hx]))]
theorem nameL_named {n : List UInt8} (h : nameL n = true) : ∀ b ∈ n,namedI b.toNat = true:=by
 unfold nameL allL at h
 simp only [Bool.and_eq_true] at h
 exact fun b hb=>List.all_eq_true.1 h.2.2 b hb
theorem nameN_stop {n r : List UInt8} {c : UInt8} (h : nameL n = true) (hc : namedI c.toNat = false) : nameN (n ++ c :: r) = n.length:=by
 unfold nameN;rw [tw_stop (nameL_named h) hc]
theorem nameL_head {n : List UInt8} (h : nameL n = true) : ∃ c t,n = c :: t ∧ letterI c.toNat = true:=by
 unfold nameL allL at h
 simp only [Bool.and_eq_true,decide_eq_true_eq] at h
 cases n with
 | nil=>simp at h
 | cons c t=>exact ⟨c,t,rfl,by simpa using h.2.1⟩
theorem letter_ne {c b : UInt8} (h : letterI c.toNat = true) (hb : letterI b.toNat = false) : (b == c) = false:=by
 have : b ≠ c:=by rintro rfl;rw [h] at hb;cases hb
 simpa using this
theorem blankN_zero {c : UInt8} {r : List UInt8} (h : blankI c.toNat = false) : blankN (c :: r) = 0:=by
 unfold blankN;rw [List.takeWhile_cons_of_neg (by simp [h])];rfl
theorem blankN_one {c : UInt8} {r : List UInt8} (h : blankI c.toNat = false) : blankN (32 :: c :: r) = 1:=by
 unfold blankN;rw [List.takeWhile_cons_of_pos (by decide),List.takeWhile_cons_of_neg (by simp [h])];rfl
theorem letter_noblank {c : UInt8} (h : letterI c.toNat = true) : blankI c.toNat = false:=by
 simp only [letterI,decide_eq_true_eq] at h
 simp only [blankI,decide_eq_false_iff_not];omega
theorem value_back {v : List UInt8} (hv : Whole v) (r : List UInt8) : valueL (34 :: (escL true v ++ 34 :: r)) = some (v,(escL true v).length + 2):=by
 have hg:=esc_good true v
 have hq : ∀ b ∈ escL true v,b ≠ 34:=by
  intro b hb e;have:=hg b hb;rw [e] at this;revert this;decide
 have hm : (escL true v).map mapB = escL true v:=by
  conv=>rhs;rw [← List.map_id (escL true v)]
  refine List.map_congr_left fun b hb=>?_
  have h1:=hg b hb
  unfold mapB
  rw [if_neg]
  ·rfl
  ·rintro (rfl | rfl) <;> (revert h1;decide)
 simp only [valueL]
 rw [if_pos (by simp),find_byte hq]
 simp only [List.take_left,hm,(back true hv).2]
theorem attr_back {a : List UInt8 × List UInt8} (hn : nameL a.1 = true) (hv : Whole a.2) (r : List UInt8) : attrL (a.1 ++ 61 :: 34 :: (escL true a.2 ++ 34 :: r)) = some (a,a.1.length + 3 + (escL true a.2).length):=by
 obtain ⟨n,v⟩:=a
 simp only at hn hv ⊢
 unfold attrL
 simp only [nameN_stop (r:=34 :: (escL true v ++ 34 :: r)) hn (show namedI (61 : UInt8).toNat = false by decide),List.take_left,hn,if_true,List.drop_left]
 rw [blankN_zero (by decide),List.drop_zero,begL_cons,begL_nil]
 simp only [beq_self_eq_true,Bool.and_true,if_true,Nat.zero_add,List.drop_succ_cons,List.drop_zero]
 rw [blankN_zero (by decide),List.drop_zero,value_back hv]
 simp;omega
theorem attrT_len (a : List UInt8 × List UInt8) : (attrT a).length = a.1.length + 4 + (escL true a.2).length:=by
 unfold attrT;simp;omega
theorem attrs_back (em : Bool) (r : List UInt8) : ∀ (ats acc : List (List UInt8 × List UInt8)) (f : Nat),ats.length < f → (∀ a ∈ ats,nameL a.1 = true ∧ Whole a.2) → dupA acc ats = false →
  attrsA f acc (ats.flatMap attrT ++ ((if em = true then [47,62] else [62]) ++ r)) = some (acc ++ ats,em,(ats.flatMap attrT).length + (if em = true then 2 else 1)):=by
 intro ats
 induction ats with
 | nil=>
  intro acc f hf _ _
  obtain ⟨f,rfl⟩ : ∃ g,f = g + 1:=⟨f - 1,by simp at hf;omega⟩
  cases em
  ·simp only [attrsA,List.flatMap_nil,List.nil_append,if_false,Bool.false_eq_true]
   rw [show ([62] ++ r : List UInt8) = 62 :: r from rfl,blankN_zero (by decide),List.drop_zero,begL_cons,begL_nil]
   simp
  ·simp only [attrsA,List.flatMap_nil,List.nil_append,if_true]
   rw [show ([47,62] ++ r : List UInt8) = 47 :: 62 :: r from rfl,blankN_zero (by decide),List.drop_zero,begL_cons,begL_cons,begL_cons,begL_nil,begL_nil]
   simp
 | cons a t ih=>
  intro acc f hf ha hd
  obtain ⟨f,rfl⟩ : ∃ g,f = g + 1:=⟨f - 1,by simp at hf;omega⟩
  obtain ⟨hn,hv⟩:=ha a (by simp)
  simp only [dupA,Bool.or_eq_false_iff] at hd
  obtain ⟨c,n',hc,hl⟩:=nameL_head hn
  obtain ⟨R,hR⟩ : ∃ R,R = t.flatMap attrT ++ ((if em = true then [47,62] else [62]) ++ r):=⟨_,rfl⟩
  have e : (a :: t).flatMap attrT ++ ((if em = true then [47,62] else [62]) ++ r) = 32 :: (a.1 ++ 61 :: 34 :: (escL true a.2 ++ 34 :: R)):=by
   rw [hR,List.flatMap_cons];unfold attrT;simp
  have e2 : blankN (32 :: (a.1 ++ 61 :: 34 :: (escL true a.2 ++ 34 :: R))) = 1:=by
   rw [hc,List.cons_append];exact blankN_one (letter_noblank hl)
  have e3 : begL [62] (a.1 ++ 61 :: 34 :: (escL true a.2 ++ 34 :: R)) = false:=by
   rw [hc,List.cons_append,begL_cons,letter_ne hl (by decide)];rfl
  have e4 : begL [47,62] (a.1 ++ 61 :: 34 :: (escL true a.2 ++ 34 :: R)) = false:=by
   rw [hc,List.cons_append,begL_cons,letter_ne hl (by decide)];rfl
  have e5 : (a.1 ++ 61 :: 34 :: (escL true a.2 ++ 34 :: R)).drop (a.1.length + 3 + (escL true a.2).length) = R:=by
   rw [List.drop_append,List.drop_of_length_le (by omega),List.nil_append,show a.1.length + 3 + (escL true a.2).length - a.1.length = 2 + ((escL true a.2).length + 1) by omega]
   rw [show (61 :: 34 :: (escL true a.2 ++ 34 :: R)) = [61,34] ++ (escL true a.2 ++ 34 :: R) from rfl,List.drop_append]
   rw [List.drop_append,List.drop_of_length_le (by simp),List.drop_of_length_le (by simp)]
   simp
  rw [e]
  simp only [attrsA,e2,List.drop_succ_cons,List.drop_zero,e3,e4,attr_back hn hv,hd.1,Bool.false_eq_true,if_false,e5]
  rw [if_neg (by decide),hR,ih (acc ++ [a]) f (by simp at hf;omega) (fun x hx=>ha x (by simp [hx])) hd.2]
  simp [attrT_len];omega
theorem whole_append {a b : List UInt8} (ha : Whole a) (hb : Whole b) : Whole (a ++ b):=by
 refine whole_of (zs:=runesC (ints a) ++ runesC (ints b)) (by rw [List.all_append,runes_all,runes_all];rfl) ?_
 rw [ints_append,List.flatMap_append,← ha.runes,← hb.runes]
theorem whole_dec {l : List UInt8} (h : wholeB l = true) : Whole l:=(wholeB_iff l).1 h
theorem whole_nil : Whole []:=rfl
theorem ascii_whole {l : List UInt8} (h : ∀ b ∈ l,isC (b.toNat : Int) = true ∧ b.toNat < 128) : Whole l:=by
 refine whole_of (zs:=ints l) ?_ ?_
 ·rw [List.all_eq_true]
  intro r hr
  unfold ints at hr
  obtain ⟨b,hb,rfl⟩:=List.mem_map.1 hr
  exact (h b hb).1
 ·induction l with
  | nil=>rfl
  | cons b t ih=>
   have h1:=(h b (by simp)).2
   have e : ints (b :: t) = (b.toNat : Int) :: ints t:=rfl
   rw [e,List.flatMap_cons,encC_1 (by omega),← ih (fun x hx=>h x (by simp [hx]))]
   rfl
theorem okT_open {f : Bool} {t : Tok} (hk : t.kind = 2) (h : okT f t = true) : nameL t.name = true ∧ (∀ a ∈ t.attrs,nameL a.1 = true ∧ Whole a.2) ∧ dupA [] t.attrs = false:=by
 unfold okT at h
 rw [if_neg (by omega),if_pos hk] at h
 simp only [Bool.and_eq_true,List.all_eq_true,Bool.not_eq_true'] at h
 exact ⟨h.1.1.1,fun a ha=>⟨h.1.1.2 a ha,(wholeB_iff _).1 (h.2 a ha)⟩,h.1.2⟩
def okAll : Bool → List Tok → Bool
 | _,[]=>true
 | f,t :: r=>okT f t && okAll false r
theorem whole_at_aux : ∀ (zs : List Int),zs.all isC = true → ∀ (a : List UInt8) (c : UInt8) (b : List UInt8),c.toNat < 128 → ints (a ++ c :: b) = zs.flatMap encC → Whole a ∧ Whole (c :: b):=by
 intro zs
 induction zs with
 | nil=>
  intro _ a c b _ h
  have:=congrArg List.length h
  simp [ints_len] at this
 | cons r zs ih=>
  intro hz a c b hc h
  have hz':=hz
  simp only [List.all_cons,Bool.and_eq_true] at hz
  cases a with
  | nil=>exact ⟨whole_nil,whole_of hz' h⟩
  | cons x a=>
   have hE:=ints_encode hz.1
   have hlen : (Lib.encodeRune r).length ≤ (x :: a).length:=by
    by_cases h1 : r < 128
    ·rw [encode_len hz.1,sizeC_1 h1];simp
    ·rcases Nat.lt_or_ge (x :: a).length (Lib.encodeRune r).length with h2 | h2
     ·exfalso
      rw [List.flatMap_cons,← hE] at h
      rw [ints_append] at h
      have h3 : (ints (x :: a) ++ ints (c :: b))[(x :: a).length]? = (ints (Lib.encodeRune r) ++ zs.flatMap encC)[(x :: a).length]?:=by rw [h]
      rw [List.getElem?_append_right (by rw [ints_len];exact Nat.le_refl _),ints_len,Nat.sub_self,List.getElem?_append_left (by rw [ints_len];exact h2)] at h3
      generalize (x :: a).length = k at h2 h3
      have h4:=encode_high hz.1 (by omega) _ (List.getElem_mem h2)
      unfold ints at h3
      rw [List.getElem?_map,List.getElem?_map,List.getElem?_eq_getElem h2] at h3
      simp only [List.getElem?_cons_zero,Option.map_some,Option.some.injEq] at h3
      omega
     ·exact h2
   rw [List.flatMap_cons,← hE] at h
   have hsp : x :: a = Lib.encodeRune r ++ (x :: a).drop (Lib.encodeRune r).length ∧ ints ((x :: a).drop (Lib.encodeRune r).length ++ c :: b) = zs.flatMap encC:=by
    have h5 : ints (x :: a ++ c :: b) = ints (x :: a) ++ ints (c :: b):=ints_append _ _
    have h6 : (ints (x :: a ++ c :: b)).take (Lib.encodeRune r).length = ints (Lib.encodeRune r):=by
     rw [h,List.take_append_of_le_length (by rw [ints_len];exact Nat.le_refl _),← ints_len (Lib.encodeRune r),List.take_length]
    have h7 : (ints (x :: a ++ c :: b)).drop (Lib.encodeRune r).length = zs.flatMap encC:=by
     rw [h,List.drop_append_of_le_length (by rw [ints_len];exact Nat.le_refl _),List.drop_of_length_le (by rw [ints_len];exact Nat.le_refl _),List.nil_append]
    refine ⟨?_,?_⟩
    ·have h8 : ints ((x :: a).take (Lib.encodeRune r).length) = ints (Lib.encodeRune r):=by
      rw [← h6,h5,ints_take,List.take_append_of_le_length (by rw [ints_len];exact hlen)]
     have h9:=ints_inj h8
     conv=>lhs;rw [← List.take_append_drop (Lib.encodeRune r).length (x :: a),h9]
    ·rw [← h7,ints_append,h5,List.drop_append_of_le_length (by rw [ints_len];exact hlen),ints_drop]
   obtain ⟨w1,w2⟩:=ih hz.2 _ c b hc hsp.2
   refine ⟨?_,w2⟩
   rw [hsp.1]
   exact whole_append (whole_of (zs:=[r]) (by simp [hz.1]) (by simp [hE])) w1
theorem whole_at {a b : List UInt8} {c : UInt8} (hc : c.toNat < 128) (h : Whole (a ++ c :: b)) : Whole a ∧ Whole (c :: b):=
 whole_at_aux _ (runes_all _) a c b hc h.runes
theorem whole_tail {b : List UInt8} {c : UInt8} (hc : c.toNat < 128) (h : Whole (c :: b)) : Whole b ∧ isC (c.toNat : Int) = true:=by
 have hr:=h.runes
 have ha:=runes_all (ints (c :: b))
 generalize runesC (ints (c :: b)) = zs at hr ha
 cases zs with
 | nil=>cases hr
 | cons r zs=>
  simp only [List.all_cons,Bool.and_eq_true] at ha
  have e : ints (c :: b) = (c.toNat : Int) :: ints b:=rfl
  rw [e,List.flatMap_cons] at hr
  have hlow : r < 128:=by
   rcases (show r < 128 ∨ (128 ≤ r ∧ r < 2048) ∨ (2048 ≤ r ∧ r < 65536) ∨ 65536 ≤ r by omega) with h1 | ⟨h1,h2⟩ | ⟨h1,h2⟩ | h1
   ·exact h1
   ·rw [encC_2 h1 h2] at hr;simp at hr;omega
   ·rw [encC_3 h1 h2] at hr;simp at hr;omega
   ·rw [encC_4 h1] at hr;simp at hr;omega
  rw [encC_1 hlow] at hr
  simp only [List.cons_append,List.nil_append,List.cons.injEq] at hr
  exact ⟨whole_of ha.2 hr.2,by rw [hr.1];exact ha.1⟩
theorem whole_behind {p : List UInt8} (hp : ∀ b ∈ p,b.toNat < 128) : ∀ {m : List UInt8},Whole (p ++ m) → Whole m:=by
 induction p with
 | nil=>intro m h;exact h
 | cons c t ih=>
  intro m h
  exact ih (fun b hb=>hp b (by simp [hb])) (whole_tail (hp c (by simp)) h).1
theorem takeWhile_mem {p : UInt8 → Bool} {l : List UInt8} : ∀ b ∈ l.takeWhile p,p b = true:=by
 induction l with
 | nil=>simp
 | cons c t ih=>
  intro b hb
  by_cases h : p c = true
  ·rw [List.takeWhile_cons_of_pos h] at hb
   rcases List.mem_cons.1 hb with rfl | hb
   ·exact h
   ·exact ih b hb
  ·rw [List.takeWhile_cons_of_neg h] at hb;simp at hb
theorem tw_split (p : UInt8 → Bool) (l : List UInt8) : l = l.takeWhile p ++ l.drop (l.takeWhile p).length:=by
 induction l with
 | nil=>rfl
 | cons c t ih=>
  by_cases h : p c = true
  ·rw [List.takeWhile_cons_of_pos h,List.length_cons,List.drop_succ_cons,List.cons_append,← ih]
  ·rw [List.takeWhile_cons_of_neg h];rfl
theorem blank_low {l : List UInt8} : ∀ b ∈ l.takeWhile (fun b=>blankI b.toNat),b.toNat < 128:=by
 intro b hb
 have:=takeWhile_mem b hb
 simp only [blankI,decide_eq_true_eq] at this
 omega
theorem name_low {l : List UInt8} : ∀ b ∈ l.takeWhile (fun b=>namedI b.toNat),b.toNat < 128:=by
 intro b hb
 have:=takeWhile_mem b hb
 simp only [namedI,decide_eq_true_eq] at this
 omega
theorem whole_blank {l : List UInt8} (h : Whole l) : Whole (l.drop (blankN l)):=by
 refine whole_behind (p:=l.takeWhile fun b=>blankI b.toNat) blank_low ?_
 unfold blankN
 rw [← tw_split];exact h
theorem whole_name {l : List UInt8} (h : Whole l) : Whole (l.drop (nameN l)):=by
 refine whole_behind (p:=l.takeWhile fun b=>namedI b.toNat) name_low ?_
 unfold nameN
 rw [← tw_split];exact h
theorem blankN_le (l : List UInt8) : blankN l ≤ l.length:=by unfold blankN;exact List.Sublist.length_le (List.takeWhile_sublist _)
theorem nameN_le (l : List UInt8) : nameN l ≤ l.length:=by unfold nameN;exact List.Sublist.length_le (List.takeWhile_sublist _)
theorem word_two {w : List UInt8} (h : isC (wordV w) = true) : 2 ≤ w.length:=by
 match w with
 | []=>revert h;decide
 | [c]=>
  exfalso
  have e : wordV [c] = 0:=by
   unfold wordV
   rw [if_neg (by simp),if_neg (by simp),if_neg (by simp),if_neg (by simp),if_neg (by simp),if_neg (by simp [Lib.hasPrefix,List.isPrefixOf])]
   split
   ·rfl
   ·rfl
  rw [e] at h;revert h;decide
 | _ :: _ :: _=>simp
theorem un_whole : ∀ (n : Nat) (l acc x : List UInt8),l.length ≤ n → Whole acc → Whole l → unL acc l = .ok x → Whole x ∧ x.length ≤ acc.length + l.length:=by
 intro n
 induction n with
 | zero=>
  intro l acc x hn ha _ h
  obtain rfl : l = []:=List.eq_nil_of_length_eq_zero (by omega)
  rw [unL_nil] at h
  obtain rfl:=Except.ok.inj h
  exact ⟨ha,by omega⟩
 | succ n ih=>
  intro l acc x hn ha hl h
  have hr:=hl.runes
  have hz:=runes_all (ints l)
  generalize runesC (ints l) = zs at hr hz
  cases zs with
  | nil=>
   obtain rfl : l = []:=by
    have:=congrArg List.length hr
    rw [ints_len] at this
    exact List.eq_nil_of_length_eq_zero (by simpa using this)
   rw [unL_nil] at h
   obtain rfl:=Except.ok.inj h
   exact ⟨ha,by omega⟩
  | cons r zs=>
   simp only [List.all_cons,Bool.and_eq_true] at hz
   have hE:=encodes_of (zs:=r :: zs) (by simp [hz.1,hz.2]) hr
   rw [List.flatMap_cons] at hE
   obtain ⟨t,ht⟩ : ∃ t,t = zs.flatMap Lib.encodeRune:=⟨_,rfl⟩
   rw [← ht] at hE
   have hsz:=sizeC_le r
   have hel:=encode_len hz.1
   have hwt : Whole t:=by
    refine whole_of (zs:=zs) hz.2 ?_
    rw [ht];clear hE ht hr
    induction zs with
    | nil=>rfl
    | cons q zs ih2=>
     simp only [List.all_cons,Bool.and_eq_true] at hz
     rw [List.flatMap_cons,List.flatMap_cons,ints_append,ints_encode hz.2.1,ih2 ⟨hz.1,hz.2.2⟩]
   have hone : Whole (Lib.encodeRune r):=whole_of (zs:=[r]) (by simp [hz.1]) (by simp [ints_encode hz.1])
   have hll : l.length = sizeC r + t.length:=by rw [hE,List.length_append,hel]
   by_cases h60 : r = 60
   ·subst h60
    rw [hE,show Lib.encodeRune 60 = [60] by decide,List.singleton_append,unL_form] at h
    cases h
   ·by_cases h38 : r = 38
    ·subst h38
     rw [hE,show Lib.encodeRune 38 = [38] by decide,List.singleton_append] at h
     cases hrf : refL t with
     | none=>rw [unL_none hrf] at h;cases h
     | some p=>
      obtain ⟨q,k⟩:=p
      rw [unL_some hrf] at h
      obtain ⟨r1,r2,r3,r4⟩:=refL_some hrf
      have hk3 : 3 ≤ k:=by
       unfold refL at hrf
       split at hrf
       ·rename_i hc
        simp only [Option.some.injEq,Prod.mk.injEq] at hrf
        have h2:=word_two hc.2
        rw [List.length_take] at h2
        omega
       ·cases hrf
      have hlt : k - 1 < t.length:=by omega
      have hsp : t = t.take (k - 1) ++ 59 :: t.drop k:=by
       rw [List.getElem?_eq_getElem hlt] at r3
       have h3:=Option.some.inj r3
       conv=>lhs;rw [← List.take_append_drop (k - 1) t,List.drop_eq_getElem_cons hlt,h3,show k - 1 + 1 = k by omega]
      have hwd : Whole (t.drop k):=by
       rw [hsp] at hwt
       exact (whole_tail (by decide) (whole_at (by decide) hwt).2).1
      have hq : Whole (Lib.encodeRune q):=whole_of (zs:=[q]) (by simp [r4]) (by simp [ints_encode r4])
      obtain ⟨a1,a2⟩:=ih (t.drop k) (acc ++ Lib.encodeRune q) x (by rw [List.length_drop];omega) (whole_append ha hq) hwd h
      refine ⟨a1,?_⟩
      rw [List.length_append,List.length_drop,encode_len r4] at a2
      have:=(sizeC_le q).2
      have h1 : sizeC 38 = 1:=rfl
      omega
    ·rw [hE,unL_rune hz.1 h60 h38] at h
     obtain ⟨a1,a2⟩:=ih t (acc ++ Lib.encodeRune r) x (by omega) (whole_append ha hone) hwt h
     refine ⟨a1,?_⟩
     rw [List.length_append,hel] at a2
     omega
theorem un_whole' {l x : List UInt8} (hl : Whole l) (h : unL [] l = .ok x) : Whole x ∧ x.length ≤ l.length:=by
 have:=un_whole l.length l [] x (Nat.le_refl _) whole_nil hl h
 simpa using this
theorem map_whole {l : List UInt8} (h : Whole l) : Whole (l.map mapB):=by
 have hr:=h.runes
 have hz:=runes_all (ints l)
 generalize runesC (ints l) = zs at hr hz
 have hE:=encodes_of hz hr
 rw [hE]
 clear hr hE h
 induction zs with
 | nil=>exact whole_nil
 | cons r zs ih=>
  simp only [List.all_cons,Bool.and_eq_true] at hz
  rw [List.flatMap_cons,List.map_append]
  refine whole_append ?_ (ih hz.2)
  by_cases h1 : r < 128
  ·obtain ⟨b,e1,e2⟩:=encode_low hz.1 h1
   rw [e1]
   refine ascii_whole fun c hc=>?_
   obtain rfl : c = mapB b:=by simpa using hc
   unfold mapB
   split
   ·decide
   ·exact ⟨by rw [e2];exact hz.1,by omega⟩
  ·have : (Lib.encodeRune r).map mapB = Lib.encodeRune r:=by
    conv=>rhs;rw [← List.map_id (Lib.encodeRune r)]
    refine List.map_congr_left fun b hb=>?_
    have:=encode_high hz.1 (by omega) b hb
    unfold mapB
    rw [if_neg]
    ·rfl
    ·rintro (rfl | rfl) <;> (revert this;decide)
   rw [this]
   exact whole_of (zs:=[r]) (by simp [hz.1]) (by simp [ints_encode hz.1])
theorem whole_drop {l : List UInt8} {m n : Nat} (h : Whole (l.drop m)) (e : m = n) : Whole (l.drop n):=by subst e;exact h
theorem beg_split {x l : List UInt8} (h : begL x l = true) : l = x ++ l.drop x.length:=by
 obtain ⟨r,rfl⟩:=begL_iff.1 h
 rw [List.drop_left]
theorem find_split {q : UInt8} {t : List UInt8} {e : Nat} (h : findL [q] t = some e) : t = t.take e ++ q :: t.drop (e + 1):=by
 obtain ⟨h1,h2,_⟩:=findL_some h
 have h3:=beg_split h1
 rw [List.drop_drop] at h3
 conv=>lhs;rw [← List.take_append_drop e t,h3]
 rfl
theorem value_ok {m x : List UInt8} {k : Nat} (hw : Whole m) (h : valueL m = some (x,k)) : Whole x ∧ x.length + 2 ≤ k ∧ k ≤ m.length ∧ Whole (m.drop k):=by
 cases m with
 | nil=>cases h
 | cons q t=>
  simp only [valueL] at h
  split at h
  ·rename_i hq
   have hlow : q.toNat < 128:=by rcases hq with rfl | rfl <;> decide
   cases hf : findL [q] t with
   | none=>rw [hf] at h;cases h
   | some e=>
    rw [hf] at h
    simp only at h
    cases hu : unL [] ((t.take e).map mapB) with
    | error z=>rw [hu] at h;cases h
    | ok y=>
     rw [hu] at h
     simp only [Option.some.injEq,Prod.mk.injEq] at h
     obtain ⟨rfl,rfl⟩:=h
     have hs:=find_split hf
     have hl:=findL_len hf
     have hwt:=(whole_tail hlow hw).1
     rw [hs] at hwt
     obtain ⟨w1,w2⟩:=whole_at hlow hwt
     obtain ⟨u1,u2⟩:=un_whole' (map_whole w1) hu
     simp only [List.length_map,List.length_take,List.length_singleton] at u2 hl
     refine ⟨u1,by omega,by simp only [List.length_cons];omega,?_⟩
     exact (whole_tail hlow w2).1
  ·cases h
theorem attr_ok {l : List UInt8} {a : List UInt8 × List UInt8} {k : Nat} (hw : Whole l) (h : attrL l = some (a,k)) : nameL a.1 = true ∧ Whole a.2 ∧ a.1.length + 3 + a.2.length ≤ k ∧ k ≤ l.length ∧ Whole (l.drop k):=by
 unfold attrL at h
 split at h
 ·rename_i hn
  simp only at h
  split at h
  ·rename_i hb
   have w1:=whole_blank (whole_name hw)
   have hs:=beg_split hb
   have hbl:=blankN_le (l.drop (nameN l))
   generalize blankN (l.drop (nameN l)) = b at *
   have hs2 : (l.drop (nameN l)).drop b = 61 :: (l.drop (nameN l)).drop (b + 1):=by
    conv=>lhs;rw [hs,List.drop_drop]
    rfl
   rw [hs2] at w1
   have w2:=whole_blank (whole_tail (by decide) w1).1
   have hl1:=nameN_le l
   have hl2:=begL_len hb
   rw [List.length_drop,List.length_drop] at hl2
   simp only [List.length_singleton] at hl2
   have hl3:=blankN_le ((l.drop (nameN l)).drop (b + 1))
   rw [List.length_drop,List.length_drop] at hl3
   generalize blankN ((l.drop (nameN l)).drop (b + 1)) = c at *
   cases hv : valueL (((l.drop (nameN l)).drop (b + 1)).drop c) with
   | none=>rw [hv] at h;cases h
   | some y=>
    obtain ⟨x,j⟩:=y
    rw [hv] at h
    simp only [Option.some.injEq,Prod.mk.injEq] at h
    obtain ⟨rfl,rfl⟩:=h
    obtain ⟨v1,v2,v3,v4⟩:=value_ok w2 hv
    rw [List.length_drop,List.length_drop,List.length_drop] at v3
    have htl : (l.take (nameN l)).length = nameN l:=by rw [List.length_take];omega
    refine ⟨hn,v1,?_,?_,?_⟩
    ·show (l.take (nameN l)).length + 3 + x.length ≤ _
     rw [htl];omega
    ·omega
    ·simp only [List.drop_drop] at v4
     exact whole_drop v4 (by omega)
  ·cases h
 ·cases h
theorem attrs_ok : ∀ (f : Nat) (acc : List (List UInt8 × List UInt8)) (l : List UInt8) (res : List (List UInt8 × List UInt8)) (em : Bool) (k : Nat),Whole l → attrsA f acc l = some (res,em,k) →
  ∃ ats,res = acc ++ ats ∧ (∀ a ∈ ats,nameL a.1 = true ∧ Whole a.2) ∧ dupA acc ats = false ∧ 1 ≤ k ∧ k ≤ l.length ∧ (ats.flatMap attrT).length + (if em = true then 2 else 1) ≤ 6 * k ∧ Whole (l.drop k):=by
 intro f
 induction f with
 | zero=>intro acc l res em k _ h;cases h
 | succ f ih=>
  intro acc l res em k hw h
  simp only [attrsA] at h
  have wb:=whole_blank hw
  have lb:=blankN_le l
  split at h
  ·rename_i h1
   simp only [Option.some.injEq,Prod.mk.injEq] at h
   obtain ⟨rfl,rfl,rfl⟩:=h
   have hl:=begL_len h1
   rw [List.length_drop] at hl
   simp only [List.length_singleton] at hl
   have hs:=beg_split h1
   rw [List.drop_drop] at hs
   rw [hs] at wb
   refine ⟨[],by simp,by simp,rfl,by omega,by omega,by simp;omega,?_⟩
   exact (whole_tail (by decide) wb).1
  ·split at h
   ·rename_i h1
    simp only [Option.some.injEq,Prod.mk.injEq] at h
    obtain ⟨rfl,rfl,rfl⟩:=h
    have hl:=begL_len h1
    rw [List.length_drop] at hl
    simp only [List.length_cons,List.length_nil] at hl
    have hs:=beg_split h1
    rw [List.drop_drop] at hs
    rw [hs] at wb
    refine ⟨[],by simp,by simp,rfl,by omega,by omega,by simp;omega,?_⟩
    exact (whole_tail (by decide) (whole_tail (by decide) wb).1).1
   ·split at h
    ·cases h
    ·rename_i hb0
     cases ha : attrL (l.drop (blankN l)) with
     | none=>rw [ha] at h;cases h
     | some y=>
      obtain ⟨a,j⟩:=y
      rw [ha] at h
      simp only at h
      split at h
      ·cases h
      ·rename_i hdup
       rw [Option.map_eq_some_iff] at h
       obtain ⟨⟨res',em',k'⟩,h1,h2⟩:=h
       simp only [Prod.mk.injEq] at h2
       obtain ⟨rfl,rfl,rfl⟩:=h2
       obtain ⟨a1,a2,a3,a4,a5⟩:=attr_ok wb ha
       obtain ⟨ats,e1,e2,e3,e4,e5,e6,e7⟩:=ih (acc ++ [a]) _ _ _ _ a5 h1
       rw [List.length_drop] at a4
       rw [List.length_drop,List.length_drop] at e5
       refine ⟨a :: ats,by rw [e1];simp,?_,?_,by omega,by omega,?_,?_⟩
       ·intro x hx
        rcases List.mem_cons.1 hx with rfl | hx
        ·exact ⟨a1,a2⟩
        ·exact e2 x hx
       ·simp only [dupA,Bool.or_eq_false_iff]
        exact ⟨by simpa using hdup,e3⟩
       ·rw [List.flatMap_cons,List.length_append,attrT_len]
        have:=(escL_len true a.2).2
        omega
       ·simp only [List.drop_drop] at e7
        exact whole_drop e7 (by omega)
theorem find_take {x l : List UInt8} {e : Nat} (hx : x ≠ []) (h : findL x l = some e) : findL x (l.take e) = none:=by
 obtain ⟨_,h2,h3⟩:=findL_some h
 refine findL_no fun i hi=>?_
 rw [List.length_take] at hi
 cases hb : begL x ((l.take e).drop i) with
 | false=>rfl
 | true=>
  exfalso
  have hlen0:=begL_len hb
  have hlen:=hlen0
  rw [List.length_drop,List.length_take] at hlen
  have hxl : 1 ≤ x.length:=by cases x with
   | nil=>exact absurd rfl hx
   | cons _ _=>simp
  have:=h3 i (by omega)
  have e2 : l.drop i = (l.take e).drop i ++ l.drop e:=by
   conv=>lhs;rw [← List.take_append_drop e l]
   rw [List.drop_append_of_le_length (by rw [List.length_take];omega)]
  rw [e2,begL_more hlen0,hb] at this
  cases this
theorem last_no {l : List UInt8} {e : Nat} (h : findL [45,45] l = some e) : (l.take e).getLast? ≠ some 45:=by
 intro hl
 obtain ⟨h1,h2,h3⟩:=findL_some h
 have hlen:=findL_len h
 simp only [List.length_cons,List.length_nil] at hlen
 have hne : l.take e ≠ []:=by rintro e0;rw [e0] at hl;cases hl
 have he : 0 < e:=by
  rcases Nat.eq_zero_or_pos e with rfl | h0
  ·simp at hne
  ·exact h0
 rw [List.getLast?_eq_some_getLast hne,List.getLast_eq_getElem] at hl
 simp only [List.length_take,List.getElem_take,Option.some.injEq] at hl
 have h4:=h3 (e - 1) (by omega)
 rw [List.drop_eq_getElem_cons (by omega),begL_cons,show e - 1 + 1 = e by omega] at h4
 obtain ⟨r,hr⟩:=begL_iff.1 h1
 rw [hr] at h4
 have hx : l[e - 1]'(by omega) = 45:=by
  rw [← hl];congr 1;omega
 rw [hx] at h4
 simp [begL_cons,begL_nil] at h4
theorem piece_ok {f : Bool} {l : List UInt8} {t : Tok} {n : Nat} (hw : Whole l) (h13 : ∀ b ∈ l,b ≠ 13) (hne : l ≠ []) (h : pieceL f l = some (t,n)) :
  okT f t = true ∧ 1 ≤ n ∧ n ≤ l.length ∧ (textT t).length ≤ 6 * n ∧ Whole (l.drop n):=by
 unfold pieceL at h
 split at h
 ·rename_i hx
  unfold decL at h
  split at h
  ·rename_i hb
   simp only [Option.some.injEq,Prod.mk.injEq] at h
   obtain ⟨rfl,rfl⟩:=h
   have hs:=beg_split hb
   have hl:=begL_len hb
   refine ⟨by rw [hx.1];decide,by omega,hl,by decide,?_⟩
   rw [hs] at hw
   exact whole_behind (by decide) hw
  ·split at h
   ·rename_i hb
    simp only [Option.some.injEq,Prod.mk.injEq] at h
    obtain ⟨rfl,rfl⟩:=h
    have hs:=beg_split hb
    have hl:=begL_len hb
    refine ⟨by rw [hx.1];decide,by omega,hl,by decide,?_⟩
    rw [hs] at hw
    exact whole_behind (by decide) hw
   ·cases h
 split at h
 ·rename_i hb
  have hs:=beg_split hb
  have hl:=begL_len hb
  unfold comL at h
  cases hf : findL [45,45] (l.drop 4) with
  | none=>rw [hf] at h;cases h
  | some e=>
   rw [hf] at h
   simp only at h
   split at h
   ·rename_i he
    simp only [Option.some.injEq,Prod.mk.injEq] at h
    obtain ⟨rfl,rfl⟩:=h
    have hw2 : Whole (l.drop 4):=by rw [hs] at hw;exact whole_behind (by decide) hw
    have hlen:=begL_len he
    rw [List.length_drop,List.length_drop] at hlen
    simp only [List.length_cons,List.length_nil] at hlen
    have hse:=beg_split he
    have hsp : l.drop 4 = (l.drop 4).take e ++ 45 :: 45 :: 62 :: (l.drop 4).drop (e + 3):=by
     conv=>lhs;rw [← List.take_append_drop e (l.drop 4),hse]
     rw [List.drop_drop];rfl
    rw [hsp] at hw2
    obtain ⟨w1,w2⟩:=whole_at (by decide) hw2
    have w3:=(whole_tail (by decide) (whole_tail (by decide) (whole_tail (by decide) w2).1).1).1
    have hc : ((l.drop 4).take e).contains 13 = false:=by
     rw [List.contains_eq_mem,decide_eq_false_iff_not]
     exact fun hm=>h13 13 (List.mem_of_mem_drop (List.mem_of_mem_take hm)) rfl
    have hok : okT f ⟨5,[],(l.drop 4).take e,[],false⟩ = true:=by
     simp only [okT]
     rw [if_neg (by decide),if_neg (by decide),if_neg (by decide),if_neg (by decide),if_pos trivial,(wholeB_iff _).2 w1,find_take (by simp) hf,hc,decide_eq_true (last_no hf)]
     rfl
    refine ⟨hok,by omega,by omega,?_,?_⟩
    ·simp only [textT]
     rw [if_neg (by decide),if_neg (by decide),if_neg (by decide),if_neg (by decide)]
     simp only [List.length_append,List.length_take,List.length_drop,sCom,List.length_cons,List.length_nil]
     omega
    ·rw [List.drop_drop] at w3
     exact whole_drop w3 (by omega)
   ·cases h
 split at h
 ·rename_i hb
  have hs:=beg_split hb
  have hl:=begL_len hb
  unfold cdL at h
  cases hf : findL sEnd (l.drop 9) with
  | none=>rw [hf] at h;cases h
  | some e=>
   rw [hf] at h
   simp only [Option.some.injEq,Prod.mk.injEq] at h
   obtain ⟨rfl,rfl⟩:=h
   obtain ⟨he,_,_⟩:=findL_some hf
   have hw2 : Whole (l.drop 9):=by rw [hs] at hw;exact whole_behind (by decide) hw
   have hlen:=begL_len he
   rw [List.length_drop,List.length_drop] at hlen
   simp only [sEnd,List.length_cons,List.length_nil] at hlen
   have hse:=beg_split he
   have hsp : l.drop 9 = (l.drop 9).take e ++ 93 :: 93 :: 62 :: (l.drop 9).drop (e + 3):=by
    conv=>lhs;rw [← List.take_append_drop e (l.drop 9),hse]
    rw [List.drop_drop];rfl
   rw [hsp] at hw2
   obtain ⟨w1,w2⟩:=whole_at (by decide) hw2
   have w3:=(whole_tail (by decide) (whole_tail (by decide) (whole_tail (by decide) w2).1).1).1
   refine ⟨?_,by omega,by omega,?_,?_⟩
   ·simp only [okT]
    rw [if_neg (by decide),if_neg (by decide),if_neg (by decide),if_pos trivial,(wholeB_iff _).2 w1]
   ·simp only [textT]
    rw [if_neg (by decide),if_neg (by decide),if_neg (by decide),if_pos trivial]
    have:=(escL_len false ((l.drop 9).take e)).2
    have h2 : ((l.drop 9).take e).length ≤ e:=by rw [List.length_take];omega
    omega
   ·rw [List.drop_drop] at w3
    exact whole_drop w3 (by omega)
 split at h
 ·rename_i hb
  have hs:=beg_split hb
  have hl:=begL_len hb
  unfold closeL at h
  simp only at h
  split at h
  ·rename_i hn
   split at h
   ·rename_i hg
    simp only [Option.some.injEq,Prod.mk.injEq] at h
    obtain ⟨rfl,rfl⟩:=h
    have hw2 : Whole (l.drop 2):=by rw [hs] at hw;exact whole_behind (by decide) hw
    have w1:=whole_blank (whole_name hw2)
    generalize blankN ((l.drop 2).drop (nameN (l.drop 2))) = b at *
    have hlen:=begL_len hg
    have hsg:=beg_split hg
    rw [List.length_drop,List.length_drop,List.length_drop] at hlen
    simp only [List.length_singleton] at hlen
    rw [hsg] at w1
    have w2:=(whole_tail (by decide) w1).1
    have hnl:=nameN_le (l.drop 2)
    rw [List.length_drop] at hnl
    refine ⟨?_,by omega,by omega,?_,?_⟩
    ·simp only [okT]
     rw [if_neg (by decide),if_neg (by decide),if_pos trivial,hn]
    ·simp only [textT]
     rw [if_neg (by decide),if_neg (by decide),if_pos trivial]
     simp only [List.length_cons,List.length_append,List.length_take,List.length_drop,List.length_nil]
     omega
    ·simp only [List.drop_drop,List.length_singleton] at w2
     exact whole_drop w2 (by omega)
   ·cases h
  ·cases h
 split at h
 ·rename_i hb
  have hs:=beg_split hb
  have hl:=begL_len hb
  unfold openL at h
  simp only at h
  split at h
  ·rename_i hn
   cases ha : attrsA ((l.drop 1).length + 1) [] ((l.drop 1).drop (nameN (l.drop 1))) with
   | none=>rw [ha] at h;cases h
   | some y=>
    obtain ⟨ats,em,k⟩:=y
    rw [ha] at h
    simp only [Option.some.injEq,Prod.mk.injEq] at h
    obtain ⟨rfl,rfl⟩:=h
    have hw2 : Whole (l.drop 1):=by rw [hs] at hw;exact whole_behind (by decide) hw
    obtain ⟨ats',e1,e2,e3,e4,e5,e6,e7⟩:=attrs_ok _ _ _ _ _ _ (whole_name hw2) ha
    rw [List.nil_append] at e1
    subst e1
    have hnl:=nameN_le (l.drop 1)
    rw [List.length_drop] at hnl
    rw [List.length_drop,List.length_drop] at e5
    refine ⟨?_,by omega,by omega,?_,?_⟩
    ·simp only [okT]
     rw [if_neg (by decide),if_pos trivial,hn,e3]
     simp only [Bool.not_false,Bool.and_true,Bool.true_and,Bool.and_eq_true,List.all_eq_true]
     exact ⟨fun a h=>(e2 a h).1,fun a h=>(wholeB_iff _).2 (e2 a h).2⟩
    ·simp only [textT]
     rw [if_neg (by decide),if_pos trivial]
     simp only [List.length_cons,List.length_append,List.length_take,List.length_drop]
     have : (if em = true then ([47,62] : List UInt8) else [62]).length = if em = true then 2 else 1:=by split <;> rfl
     rw [this]
     omega
    ·simp only [List.drop_drop] at e7
     exact whole_drop e7 (by omega)
  ·cases h
 ·rename_i hb60
  unfold textL at h
  simp only at h
  obtain ⟨e,he⟩ : ∃ e,e = (findL [60] l).getD l.length:=⟨_,rfl⟩
  rw [← he] at h
  cases hu : unL [] (l.take e) with
  | error z=>rw [hu] at h;cases h
  | ok x=>
   rw [hu] at h
   simp only at h
   split at h
   ·simp only [Option.some.injEq,Prod.mk.injEq] at h
    obtain ⟨rfl,rfl⟩:=h
    have hpos : 1 ≤ l.length:=by cases l with
     | nil=>exact absurd rfl hne
     | cons _ _=>simp
    have hsp : Whole (l.take e) ∧ Whole (l.drop e) ∧ 1 ≤ e ∧ e ≤ l.length:=by
     cases hf : findL [60] l with
     | none=>
      rw [hf] at he
      simp only [Option.getD_none] at he
      rw [he,List.take_length,List.drop_length]
      exact ⟨hw,whole_nil,hpos,Nat.le_refl _⟩
     | some j=>
      rw [hf] at he
      simp only [Option.getD_some] at he
      subst he
      have hsf:=find_split hf
      have hlf:=findL_len hf
      simp only [List.length_singleton] at hlf
      rw [hsf] at hw
      obtain ⟨w1,w2⟩:=whole_at (by decide) hw
      obtain ⟨b1,_,_⟩:=findL_some hf
      have hj : 1 ≤ e:=by
       rcases Nat.eq_zero_or_pos e with rfl | h0
       ·rw [List.drop_zero] at b1;exact absurd b1 hb60
       ·exact h0
      refine ⟨w1,?_,hj,by omega⟩
      have h3:=beg_split b1
      rw [List.drop_drop] at h3
      rw [h3];exact w2
    obtain ⟨w1,w2,h1,h2⟩:=hsp
    obtain ⟨u1,u2⟩:=un_whole' w1 hu
    rw [List.length_take] at u2
    refine ⟨?_,h1,h2,?_,w2⟩
    ·simp only [okT]
     rw [if_neg (by decide),if_neg (by decide),if_neg (by decide),if_pos trivial,(wholeB_iff _).2 u1]
    ·simp only [textT]
     rw [if_neg (by decide),if_neg (by decide),if_neg (by decide),if_pos trivial]
     have:=(escL_len false x).2
     omega
   ·cases h
theorem all_ok : ∀ (f at' : Nat) (acc : List Tok) (l : List UInt8),Whole l → (∀ b ∈ l,b ≠ 13) → l.length ≤ f →
  (∀ res,allA f at' acc l = .ok res → ∃ ts,res = acc ++ ts ∧ okAll (at' == 0) ts = true ∧ (ts.flatMap textT).length ≤ 6 * l.length) ∧ (∀ p,allA f at' acc l = .error p → at' ≤ p ∧ p ≤ at' + l.length):=by
 intro f
 induction f with
 | zero=>
  intro at' acc l _ _ hl
  obtain rfl : l = []:=List.eq_nil_of_length_eq_zero (by omega)
  refine ⟨fun res h=>?_,fun p h=>?_⟩
  ·simp only [allA,Except.ok.injEq] at h
   exact ⟨[],by rw [← h];simp,rfl,by simp⟩
  ·cases h
 | succ f ih=>
  intro at' acc l hw h13 hl
  cases l with
  | nil=>
   refine ⟨fun res h=>?_,fun p h=>?_⟩
   ·simp only [allA,Except.ok.injEq] at h
    exact ⟨[],by rw [← h];simp,rfl,by simp⟩
   ·cases h
  | cons c t=>
   simp only [allA]
   cases hp : pieceL (at' == 0) (c :: t) with
   | none=>
    refine ⟨fun res h=>?_,fun p h=>?_⟩
    ·cases h
    ·simp only [Except.error.injEq] at h
     omega
   | some y=>
    obtain ⟨x,n⟩:=y
    obtain ⟨p1,p2,p3,p4,p5⟩:=piece_ok hw h13 (by simp) hp
    have hz : (at' + n == 0) = false:=by rw [beq_eq_false_iff_ne];omega
    obtain ⟨i1,i2⟩:=ih (at' + n) (acc ++ [x]) ((c :: t).drop n) p5 (fun b hb=>h13 b (List.mem_of_mem_drop hb)) (by rw [List.length_drop];omega)
    refine ⟨fun res h=>?_,fun p h=>?_⟩
    ·obtain ⟨ts,e1,e2,e3⟩:=i1 res h
     refine ⟨x :: ts,by rw [e1];simp,?_,?_⟩
     ·simp only [okAll,Bool.and_eq_true]
      rw [hz] at e2
      exact ⟨p1,e2⟩
     ·rw [List.flatMap_cons,List.length_append]
      rw [List.length_drop] at e3
      omega
    ·have:=i2 p h
     rw [List.length_drop] at this
     omega
theorem lines_len (l : List UInt8) : (linesL l).length ≤ l.length:=by
 induction l with
 | nil=>simp [linesL]
 | cons c t ih=>
  simp only [linesL]
  split
  ·split
   ·simp;omega
   ·simp;omega
  ·simp;omega
theorem lines_no13 (l : List UInt8) : ∀ b ∈ linesL l,b ≠ 13:=by
 induction l with
 | nil=>simp [linesL]
 | cons c t ih=>
  simp only [linesL]
  split
  ·split
   ·exact ih
   ·intro b hb
    rcases List.mem_cons.1 hb with rfl | hb
    ·decide
    ·exact ih b hb
  ·rename_i hc
   intro b hb
   rcases List.mem_cons.1 hb with rfl | hb
   ·exact hc
   ·exact ih b hb
theorem lines_plain (e t : List UInt8) (h : ∀ b ∈ e,b ≠ 13) : linesL (e ++ t) = e ++ linesL t:=by
 induction e with
 | nil=>rfl
 | cons c e ih=>
  rw [List.cons_append]
  simp only [linesL]
  rw [if_neg (h c (by simp)),ih (fun b hb=>h b (by simp [hb]))]
  rfl
theorem lines_whole {l : List UInt8} (h : Whole l) : Whole (linesL l):=by
 have hr:=h.runes
 have hz:=runes_all (ints l)
 generalize runesC (ints l) = zs at hr hz
 have hE:=encodes_of hz hr
 clear hr h
 induction zs generalizing l with
 | nil=>rw [hE];exact whole_nil
 | cons r zs ih=>
  simp only [List.all_cons,Bool.and_eq_true] at hz
  have ih2:=ih (l:=zs.flatMap Lib.encodeRune) hz.2 rfl
  rw [hE,List.flatMap_cons]
  generalize zs.flatMap Lib.encodeRune = t at ih2
  by_cases h13 : r = 13
  ·subst h13
   rw [show Lib.encodeRune 13 = [13] by decide,List.singleton_append]
   simp only [linesL,if_true]
   split
   ·exact ih2
   ·exact whole_append (a:=[10]) (whole_dec (by decide +kernel)) ih2
  ·rw [lines_plain]
   ·exact whole_append (whole_of (zs:=[r]) (by simp [hz.1]) (by simp [ints_encode hz.1])) ih2
   ·intro b hb
    by_cases h1 : r < 128
    ·obtain ⟨c,e1,e2⟩:=encode_low hz.1 h1
     rw [e1] at hb
     obtain rfl:=List.mem_singleton.1 hb
     rintro rfl
     exact h13 e2.symm
    ·have:=encode_high hz.1 (by omega) b hb
     rintro rfl
     revert this;decide
def lineB (how : Bool) (b : UInt8) : List UInt8:=if b = 10 then (if how = true then [13,10] else [13]) else [b]
end Go.Proofs.YtjldpkhfiffinaaGreatDoor.U
