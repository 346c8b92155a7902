/- Contracts and plain facts that the law stands on: Tw, Sc8. -/
import Derived.Test.YtjldpkhfiffinaaGreatDoorZC08
import Derived.Maps.OwnSet
import Derived.Test.YtjldpkhfiffinaaGreatDoorZC18
import Derived.Deep.RegionWith
namespace Go.Proofs.YtjldpkhfiffinaaGreatDoor.U
open Go.RowKit Go.Shelf Go.Maps Go.WideMaps
theorem dupA_snoc (a : List UInt8 × List UInt8) : ∀ (l acc : List (List UInt8 × List UInt8)),dupA acc (l ++ [a]) = (dupA acc l || hasA (acc ++ l) a.1):=by
 intro l
 induction l with
 | nil=>intro acc;simp [dupA]
 | cons c t ih=>
  intro acc
  simp only [List.cons_append,dupA]
  rw [ih,List.append_assoc,Bool.or_assoc]
  rfl
theorem hasA_append (l r : List (List UInt8 × List UInt8)) (n : List UInt8) : hasA (l ++ r) n = (hasA l n || hasA r n):=by simp [hasA]
def keyS (x : List UInt8) : Lit:=.string x
theorem key_str (x : List UInt8) (h : x.length ≤ 2000000) : keyOf Tryz.prog 9 (.string ⟨x.toArray⟩) = some (keyS x):=by
 have hs : (⟨x.toArray⟩ : ByteArray).size ≤ maxLen:=by
  have:=bts_len ⟨x.toArray⟩
  rw [bts_mk] at this
  unfold maxLen;omega
 rw [keyOf_string_mk Tryz.underlying9 hs]
 simp [keyS]
theorem keyS_lit (x : List UInt8) : WideAt.IsKeyLit (keyS x):=by simp [keyS,WideAt.IsKeyLit]
theorem keyS_ne {x y : List UInt8} (h : x ≠ y) : keyS x ≠ keyS y:=fun e=>h (by unfold keyS at e;injection e)
def Names (D : DataW Unit) (l : List (List UInt8 × List UInt8)) : Prop:=
 (∀ x,has D (keyS x) = hasA l x) ∧ size D ≤ l.length ∧ decide (size D < l.length) = dupA [] l
theorem Names.nil : Names (.map []) []:=⟨fun _=>rfl,Nat.le_refl _,rfl⟩
theorem Names.snoc {D : DataW Unit} {l : List (List UInt8 × List UInt8)} {a : List UInt8 × List UInt8} (h : Names D l) (ht : Tidy D) (d : DataW Unit) : Names (D.put (keyS a.1) d) (l ++ [a]):=by
 obtain ⟨h1,h2,h3⟩:=h
 have hsz:=size_put ht (k:=keyS a.1) d
 rw [h1] at hsz
 refine ⟨fun x=>?_,?_,?_⟩
 ·rw [hasA_append]
  by_cases e : a.1 = x
  ·subst e
   rw [has_put_same ht.isMap (keyS_lit _)]
   simp [hasA]
  ·rw [has_put_other (fun e2=>keyS_ne e e2.symm),h1]
   have : (a.1 == x) = false:=beq_eq_false_iff_ne.2 e
   simp [hasA,this]
 ·rw [hsz,List.length_append,List.length_singleton]
  split <;> omega
 ·rw [dupA_snoc,List.nil_append,← h3,hsz,List.length_append,List.length_singleton]
  cases hh : hasA l a.1 with
  | true=>simp;omega
  | false=>simp
theorem makeMap_hint (n : Nat) (w : World) : (Instr.makeMap 197 (some (.int .i64 (n : Int)))).run Tryz.prog w = .ok (.map (some w.heap.size)) (w.alloc (.map #[] 0)):=by
 simp [Instr.makeMap,run_underlying Tryz.underlying197,asInt]
 rfl
set_option maxHeartbeats 2000000 in
set_option maxRecDepth 10000 in
theorem twice_any (l : List (List UInt8 × List UInt8)) (v : Value) (w : World) (hv : AtRow w v l.length 2 (attrCells l)) (hl : l.length ≤ 2000000) (hn : ∀ a ∈ l,a.1.length ≤ 2000000) :
  Calls Tryz.prog 131 #[v] w fun e w'=>e = .returned (.bool (dupA [] l)) ∧ Below w.heap.size w w':=by
 obtain ⟨a,cap,rfl,hc,_,hx⟩:=hv
 obtain ⟨g,off,hag,hcell⟩ : ∃ g off,(0 < l.length → a = some ⟨g,off,none⟩) ∧ ∀ j u,(attrCells l)[j]? = some u → w.cell? ⟨g,off + j,none⟩ = some u:=by
  by_cases h0 : 0 < l.length
  ·obtain ⟨g,off,h1,h2⟩:=hx h0
   exact ⟨g,off,fun _=>h1,h2⟩
  ·refine ⟨0,0,fun h=>absurd h h0,fun j u hu=>?_⟩
   have : (attrCells l).length = 0:=by rw [attrCells_len];omega
   rw [List.eq_nil_of_length_eq_zero this] at hu
   cases hu
 have HAG:=Lib.hid hag
 have HC:=Lib.hid hcell
 have HNL:=Lib.hid hn
 have hmm:=makeMap_hint l.length w
 have law : Keyed Tryz.prog 9:=string_keyed Tryz.underlying9
 have zero3 : ∀ w : World,(zeroValue 3).run Tryz.prog w = .ok (.int .i64 0) w:=fun w=>by kernel_rfl
 clear hx hag hcell hn
 go_enter Tryz.func131,Tryz.ntmps131
 go_wp2_with fail
 clear hmm
 go_loopw [11] (fun i wr=>∃ (k : Nat) (D : DataW Unit),k ≤ l.length ∧ i = .int .i64 k ∧ Hid (wr.ownsMap Tryz.prog 9 (plainElem Tryz.prog 3) w.heap.size k D) ∧ Hid (Names D (l.take k)) ∧ Hid (Below w.heap.size w wr)) (fun i _=>l.length - (intOf i).toNat)
 case atStart=>exact ⟨0,.map [],by omega,rfl,Lib.hid (World.ownsMap_made _ _ _ _),Lib.hid Names.nil,Lib.hid ((Below.refl _ w).alloc (Nat.le_refl _) _)⟩
 case round=>
  obtain ⟨k,D,hk,rfl,HO,HN,HB⟩:=hrel
  by_cases hlt : k < l.length
  ·obtain rfl:=HAG.out (by omega)
   have q1:=HC.out _ _ (attrCells_get l k hlt).1
   have q2:=HC.out _ _ (attrCells_get l k hlt).2
   have up : ∀ {p : Addr} {u : Value},w.cell? p = some u → wr.cell? p = some u:=fun h=>(HB.out.cell (block_lt_of_cell h)).trans h
   have c1:=up q1
   have c2 : wr.cell? ⟨g,off + k * 2 + 1,none⟩ = some (.string ⟨(l[k]'hlt).2.toArray⟩):=up q2
   have HK1:=Lib.hid (key_str (l[k]'hlt).1 (HNL.out _ (List.getElem_mem hlt)))
   have HNX:=Lib.hid (HN.out.snoc (a:=l[k]'hlt) (HO.out.tidy law))
   rw [← List.take_succ_eq_append_getElem hlt] at HNX
   have hi0 : (0 : Int) ≤ k:=by omega
   have hi1 : (k : Int) < l.length:=by omega
   clear q1 q2 up
   generalize (l[k]'hlt).1 = x1 at c1 HK1 HNX
   generalize (l[k]'hlt).2 = x2 at c2
   have HO2:=Lib.hid (HO.out.alloc (.cells #[.string ⟨x1.toArray⟩,.string ⟨x2.toArray⟩] 82))
   obtain ⟨c,hrun,_,_⟩:=HO2.out.lookup_int law Tryz.underlying197 Tryz.underlying3 (zero3 _) HK1.out
   go_wp2_with (at_mapUpdate;refine wpList_mapUpdate_own _ rfl _ _ _ 197 rfl 9 3 law Tryz.underlying197 _ w.heap.size k _ rfl HO2.out (by unfold maxLen;omega) _ _ _ rfl rfl HK1.out _ [] (plainElem_int Tryz.underlying3 (wrap64_wf _)) ?_;intro w1 hown1 hgrow1)
   exact ⟨⟨k + 1,_,by omega,by go_num,Lib.hid hown1,Lib.hid (HNX.out _),Lib.hid (Below.grown (al HB.out (Nat.le_refl _) _) hgrow1 (by have:=HB.out.size;simp at this ⊢;omega) (fun j e=>by have:=Option.some.inj e;omega))⟩,by simp [intOf];omega⟩
  ·obtain rfl : k = l.length:=by omega
   have HF : Hid (decide (size D < l.length) = dupA [] l):=Lib.hid (by have:=HN.out.2.2;rwa [List.take_of_length_le (by omega)] at this)
   go_wp2_with (at_len;refine wpList_len_own _ rfl _ 197 rfl 9 3 Tryz.underlying197 _ w.heap.size l.length D rfl HO.out ?_)
   go_ret
   refine ⟨?_,HB.out⟩
   rw [← HF.out]
   rfl
def attrsB : Nat → List (List UInt8 × List UInt8) → List UInt8 → Option (List (List UInt8 × List UInt8) × Nat)
 | 0,_,_=>none
 | f + 1,acc,l=>
  let b:=blankN l
  let r:=l.drop b
  if b = 0 then some (acc,0)
  else if (begL [47,62] r || begL [62] r) = true then some (acc,b)
  else match attrL r with
   | none=>none
   | some (a,k)=>(attrsB f (acc ++ [a]) (r.drop k)).map fun x=>(x.1,b + k + x.2)
def finB (l : List UInt8) : Option (List (List UInt8 × List UInt8) × Nat) → Option (List (List UInt8 × List UInt8) × Bool × Nat)
 | none=>none
 | some (al,n)=>
  if begL [47,62] (l.drop n) = true then (if dupA [] al = true then none else some (al,true,n + 2))
  else if begL [62] (l.drop n) = true then (if dupA [] al = true then none else some (al,false,n + 1)) else none
theorem dup_more (m : List (List UInt8 × List UInt8)) : ∀ (l acc : List (List UInt8 × List UInt8)),dupA acc l = true → dupA acc (l ++ m) = true:=by
 intro l
 induction l with
 | nil=>intro acc h;cases h
 | cons c t ih=>
  intro acc h
  simp only [List.cons_append,dupA,Bool.or_eq_true] at h ⊢
  rcases h with h | h
  ·exact .inl h
  ·exact .inr (ih _ h)
theorem attrsB_ext : ∀ (f : Nat) (acc : List (List UInt8 × List UInt8)) (l : List UInt8) (al : List (List UInt8 × List UInt8)) (n : Nat),attrsB f acc l = some (al,n) → ∃ m,al = acc ++ m:=by
 intro f
 induction f with
 | zero=>intro acc l al n h;cases h
 | succ f ih=>
  intro acc l al n h
  simp only [attrsB] at h
  split at h
  ·obtain ⟨rfl,rfl⟩:=Prod.mk.inj (Option.some.inj h);exact ⟨[],by simp⟩
  ·split at h
   ·obtain ⟨rfl,rfl⟩:=Prod.mk.inj (Option.some.inj h);exact ⟨[],by simp⟩
   ·split at h
    ·cases h
    ·rename_i a k _
     rw [Option.map_eq_some_iff] at h
     obtain ⟨⟨al2,n'⟩,h1,h2⟩:=h
     obtain ⟨m,rfl⟩:=ih _ _ _ _ h1
     obtain ⟨rfl,_⟩:=Prod.mk.inj h2
     exact ⟨a :: m,by simp⟩
theorem beg_both {l : List UInt8} (h1 : begL [62] l = true) : begL [47,62] l = false:=by
 obtain ⟨r,rfl⟩:=begL_iff.1 h1
 rfl
theorem attrs_same : ∀ (f : Nat) (acc : List (List UInt8 × List UInt8)) (l : List UInt8),dupA [] acc = false → attrsA f acc l = finB l (attrsB f acc l):=by
 intro f
 induction f with
 | zero=>intro acc l _;rfl
 | succ f ih=>
  intro acc l hd
  simp only [attrsA,attrsB]
  by_cases h1 : begL [62] (l.drop (blankN l)) = true
  ·rw [if_pos h1]
   have h2:=beg_both h1
   by_cases h0 : blankN l = 0
   ·rw [if_pos h0]
    rw [h0] at h1 h2 ⊢
    simp only [finB,h1,h2,hd]
    simp
   ·rw [if_neg h0,if_pos (by rw [h1];simp)]
    simp only [finB,h1,h2,hd]
    simp
  ·rw [if_neg h1]
   have h1' : begL [62] (l.drop (blankN l)) = false:=by simpa using h1
   by_cases h2 : begL [47,62] (l.drop (blankN l)) = true
   ·rw [if_pos h2]
    by_cases h0 : blankN l = 0
    ·rw [if_pos h0]
     rw [h0] at h1' h2 ⊢
     simp only [finB,h2,hd]
     simp
    ·rw [if_neg h0,if_pos (by rw [h2];simp)]
     simp only [finB,h2,hd]
     simp
   ·have h2' : begL [47,62] (l.drop (blankN l)) = false:=by simpa using h2
    rw [if_neg h2]
    by_cases h0 : blankN l = 0
    ·rw [if_pos h0,if_pos h0]
     rw [h0] at h1' h2'
     simp only [finB,h1',h2']
     simp
    ·rw [if_neg h0,if_neg h0,if_neg (by rw [h1',h2'];simp)]
     cases ha : attrL (l.drop (blankN l)) with
     | none=>rfl
     | some y=>
      obtain ⟨a,k⟩:=y
      simp only
      have hs:=dupA_snoc a acc []
      rw [hd,Bool.false_or,List.nil_append] at hs
      by_cases hh : hasA acc a.1 = true
      ·rw [if_pos hh]
       rw [hh] at hs
       cases hb : attrsB f (acc ++ [a]) ((l.drop (blankN l)).drop k) with
       | none=>rfl
       | some z=>
        obtain ⟨al,n⟩:=z
        obtain ⟨m,rfl⟩:=attrsB_ext _ _ _ _ _ hb
        have hdm:=dup_more m _ _ hs
        simp only [Option.map_some,finB,hdm]
        simp
      ·rw [if_neg hh,ih _ _ (by rw [hs];simpa using hh)]
       cases hb : attrsB f (acc ++ [a]) ((l.drop (blankN l)).drop k) with
       | none=>rfl
       | some z=>
        obtain ⟨al,n⟩:=z
        simp only [Option.map_some,finB,List.drop_drop,Nat.add_assoc]
        split
        ·split <;> simp
        ·split
         ·split <;> simp
         ·rfl
theorem StK.grow {b p : Nat} {doc : ByteArray} {v : Value} {w w1 w2 : World} {row : Option Nat} (h : StK b doc v p w w1) (k : w1.grownBy w2 row) (hg : ∀ j,row = some j → w.heap.size < j) : StK b doc v p w w2:=by
 cases row with
 | some g=>exact h.other k (hg g rfl)
 | none=>exact h.other (g:=w.heap.size + 1) ⟨k.os,k.tape,k.output,k.size,fun i hi _=>k.block i hi (by simp)⟩ (by omega)
theorem BoxK.grow {b : Nat} {ki : Int} {x y : ByteArray} {v : Value} {em : Bool} {w w' : World} {row : Option Nat} (h : BoxK b ki x y v em w) (hg : w.grownBy w' row) (hne : ∀ j,row = some j → b < j) : BoxK b ki x y v em w':=
 (hg.block b h.lt (fun e=>by have:=hne b e.symm;omega)).trans h
structure StO (b : Nat) (doc : ByteArray) (v : Value) (p : Nat) (nm : ByteArray) (acc : List (List UInt8 × List UInt8)) (va : Value) (em : Bool) (w wr : World) : Prop where
 st : StK b doc v p w wr
 bk : BoxK (w.heap.size + 1) 2 nm ⟨#[]⟩ va em wr
 ow : wr.ownsRow (w.heap.size + 2) 82 2 va acc.length (attrCells acc)
section
variable {b p q : Nat} {doc nm : ByteArray} {v va : Value} {acc : List (List UInt8 × List UInt8)} {em : Bool} {w w1 w2 : World}
theorem StO.go (h : StO b doc v p nm acc va em w w1) (k : Moves b doc v q w1 w2) : StO b doc v q nm acc va em w w2:=
 ⟨h.st.go k,h.bk.kept k.grown (by have:=h.st.lt;omega),h.ow.kept k.grown (by
  cases hv : va.ownBlock with
  | none=>exact .inl rfl
  | some g=>exact .inr (fun e=>by have:=(h.ow.lt g hv).1;have:=Option.some.inj e;have:=h.st.lt;omega))⟩
theorem StO.below (h : StO b doc v p nm acc va em w w1) (k : Below w1.heap.size w1 w2) : StO b doc v p nm acc va em w w2:=⟨h.st.below k,h.bk.below k,ownBelow h.ow k⟩
theorem StO.drew (h : StO b doc v p nm acc va em w w1) : StO b doc v p nm acc va em w w1.drew:=⟨h.st.drew,h.bk,h.ow⟩
theorem StO.setE (h : StO b doc v p nm acc va em w w1) (em' : Bool) : StO b doc v p nm acc va em' w (w1.setCell ⟨w.heap.size + 1,4,none⟩ (.bool em')):=
 ⟨h.st.other (grow_set w1 (w.heap.size + 1) 4 _) (by omega),h.bk.setE em',ownsRow_setCell_below h.ow (a:=⟨w.heap.size + 1,4,none⟩) (by simp) _⟩
theorem StO.row (h : StO b doc v p nm acc va em w w1) : AtRow w1 va acc.length 2 (attrCells acc):=AtRow.of_own h.ow
end
theorem attr_name_len {l : List UInt8} {a : List UInt8 × List UInt8} {k : Nat} (hw : Whole l) (h : attrL l = some (a,k)) : a.1.length ≤ 64:=by
 have:=(attr_ok hw h).1
 unfold nameL at this
 simp at this
 exact this.1.2
def OpenC1 (k : Nat) (doc : ByteArray) : Prop:=∀ al m,attrsB (doc.size - (k + 1) + 1) [] ((bts doc).drop (k + 1 + nameN ((bts doc).drop (k + 1)))) = some (al,m) → (begL [47,62] ((bts doc).drop (k + 1 + nameN ((bts doc).drop (k + 1)) + m)) = true ∧ dupA [] al = true)
def OpenC2 (k : Nat) (doc : ByteArray) : Prop:=∀ al m,attrsB (doc.size - (k + 1) + 1) [] ((bts doc).drop (k + 1 + nameN ((bts doc).drop (k + 1)))) = some (al,m) → (begL [47,62] ((bts doc).drop (k + 1 + nameN ((bts doc).drop (k + 1)) + m)) = true ∧ dupA [] al = false)
def OpenC3 (k : Nat) (doc : ByteArray) : Prop:=∀ al m,attrsB (doc.size - (k + 1) + 1) [] ((bts doc).drop (k + 1 + nameN ((bts doc).drop (k + 1)))) = some (al,m) → (begL [47,62] ((bts doc).drop (k + 1 + nameN ((bts doc).drop (k + 1)) + m)) = false ∧ begL [62] ((bts doc).drop (k + 1 + nameN ((bts doc).drop (k + 1)) + m)) = false)
def OpenC4 (k : Nat) (doc : ByteArray) : Prop:=∀ al m,attrsB (doc.size - (k + 1) + 1) [] ((bts doc).drop (k + 1 + nameN ((bts doc).drop (k + 1)))) = some (al,m) → (begL [47,62] ((bts doc).drop (k + 1 + nameN ((bts doc).drop (k + 1)) + m)) = false ∧ begL [62] ((bts doc).drop (k + 1 + nameN ((bts doc).drop (k + 1)) + m)) = true ∧ dupA [] al = true)
def OpenC5 (k : Nat) (doc : ByteArray) : Prop:=∀ al m,attrsB (doc.size - (k + 1) + 1) [] ((bts doc).drop (k + 1 + nameN ((bts doc).drop (k + 1)))) = some (al,m) → (begL [47,62] ((bts doc).drop (k + 1 + nameN ((bts doc).drop (k + 1)) + m)) = false ∧ begL [62] ((bts doc).drop (k + 1 + nameN ((bts doc).drop (k + 1)) + m)) = true ∧ dupA [] al = false)
end Go.Proofs.YtjldpkhfiffinaaGreatDoor.U
