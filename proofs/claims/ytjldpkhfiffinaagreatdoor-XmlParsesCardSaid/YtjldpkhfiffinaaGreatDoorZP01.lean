/- Contracts and plain facts that the law stands on: Q1, Q2, T1, Q3. -/
import Derived.Test.YtjldpkhfiffinaaGreatDoorZC01
import Derived.Test.YtjldpkhfiffinaaGreatDoorZC02
import Derived.Test.YtjldpkhfiffinaaGreatDoorZC03
import Derived.Test.YtjldpkhfiffinaaGreatDoorZC04
import Derived.Test.YtjldpkhfiffinaaGreatDoorZC05
import Derived.Test.YtjldpkhfiffinaaGreatDoorZC06
import Derived.Test.YtjldpkhfiffinaaGreatDoorZC07
import Derived.Test.YtjldpkhfiffinaaGreatDoorZC08
import Derived.Test.YtjldpkhfiffinaaGreatDoorZC09
import Derived.Test.YtjldpkhfiffinaaGreatDoorZC10
import Derived.Test.YtjldpkhfiffinaaGreatDoorZC11
import Derived.Test.YtjldpkhfiffinaaGreatDoorZC12
import Derived.Test.YtjldpkhfiffinaaGreatDoorZC13
import Derived.Test.YtjldpkhfiffinaaGreatDoorZC14
import Derived.Test.YtjldpkhfiffinaaGreatDoorZC15
import Derived.Test.YtjldpkhfiffinaaGreatDoorZC16
import Derived.Test.YtjldpkhfiffinaaGreatDoorZC17
import Derived.Test.YtjldpkhfiffinaaGreatDoorZC18
import Derived.Test.YtjldpkhfiffinaaGreatDoorZC19
import Derived.Test.YtjldpkhfiffinaaGreatDoorZC20
import Derived.Test.YtjldpkhfiffinaaGreatDoorZC21
import Derived.Test.YtjldpkhfiffinaaGreatDoorZC22
import Derived.Test.YtjldpkhfiffinaaGreatDoorZC23
import Derived.Test.YtjldpkhfiffinaaGreatDoorZC24
import Derived.Test.YtjldpkhfiffinaaGreatDoorZC25
import Derived.Test.YtjldpkhfiffinaaGreatDoorZC26
import Derived.Test.YtjldpkhfiffinaaGreatDoorZC27
import Derived.Test.YtjldpkhfiffinaaGreatDoorZC28
import Derived.Test.YtjldpkhfiffinaaGreatDoorZC29
import Derived.Test.YtjldpkhfiffinaaGreatDoorZC30
import Derived.Test.YtjldpkhfiffinaaGreatDoorZC31
import Derived.Test.YtjldpkhfiffinaaGreatDoorZC32
import Derived.Test.YtjldpkhfiffinaaGreatDoorZC33
import Derived.Test.YtjldpkhfiffinaaGreatDoorZC34
import Derived.Test.YtjldpkhfiffinaaGreatDoorZCPr
import Derived.Below
import Derived.Laws.RangeAny
import Derived.WalkLawsBesides
import Derived.Lib.RuneBytes
import Derived.Lib.Strings
import Derived.Lib.Bytealg
import Derived.RowKit3
import Derived.Test.YtjldpkhfiffinaaGreatDoorRows
import Derived.WalkKit
import Derived.WalkSpells
import Derived.Lib.Hide
import Derived.Laws.Rows
import Derived.Deep.DeepMust
import Derived.Deep.RegionLaw
import Derived.Maps.AppendAt
import Derived.BigRegion
import Derived.RangeFuncBox
namespace Go.Proofs.YtjldpkhfiffinaaGreatDoor.U
open Go.RowKit
open Go.RowKit
open Go.RowKit
open Go.RowKit
open Go.RowKit
open Go.RowKit
theorem prefix2 {l : List UInt8} : Lib.hasPrefix l [35,120] = true ↔ 2 ≤ l.length ∧ l[0]?.getD 0 = 35 ∧ l[1]?.getD 0 = 120:=by
 unfold Lib.hasPrefix
 match l with
 | []=>simp
 | [a]=>simp [List.isPrefixOf]
 | a :: b :: t=>simp [List.isPrefixOf];constructor <;> (rintro ⟨rfl,rfl⟩;exact ⟨rfl,rfl⟩)
theorem prefix1 {l : List UInt8} : Lib.hasPrefix l [35] = true ↔ 1 ≤ l.length ∧ l[0]?.getD 0 = 35:=by
 unfold Lib.hasPrefix
 match l with
 | []=>simp
 | a :: t=>simp [List.isPrefixOf];constructor <;> (rintro rfl;rfl)
theorem findL_more {x l r : List UInt8} {e : Nat} (h : findL x l = some e) : findL x (l ++ r) = some e:=by
 obtain ⟨h1,h2,h3⟩:=findL_some h
 have hl:=findL_len h
 refine findL_eq e ?_ (by simp;omega) ?_
 ·rw [List.drop_append_of_le_length h2,begL_more (begL_len h1)];exact h1
 ·intro i hi
  rw [List.drop_append_of_le_length (by omega),begL_more (by rw [List.length_drop];omega)]
  exact h3 i hi
theorem tw_more {p : UInt8 → Bool} {m r : List UInt8} (h : (m.takeWhile p).length < m.length) : (m ++ r).takeWhile p = m.takeWhile p:=by
 induction m with
 | nil=>simp at h
 | cons c t ih=>
  by_cases hc : p c = true
  ·rw [List.cons_append,List.takeWhile_cons_of_pos hc,List.takeWhile_cons_of_pos hc,ih (by rw [List.takeWhile_cons_of_pos hc] at h;simpa using h)]
  ·rw [List.cons_append,List.takeWhile_cons_of_neg hc,List.takeWhile_cons_of_neg hc]
theorem nameN_more {m r : List UInt8} (h : nameN m < m.length) : nameN (m ++ r) = nameN m:=by unfold nameN at h ⊢;rw [tw_more h]
theorem blankN_more {m r : List UInt8} (h : blankN m < m.length) : blankN (m ++ r) = blankN m:=by unfold blankN at h ⊢;rw [tw_more h]
theorem drop_more {m r : List UInt8} {n : Nat} (h : n ≤ m.length) : (m ++ r).drop n = m.drop n ++ r:=List.drop_append_of_le_length h
theorem take_more {m r : List UInt8} {n : Nat} (h : n ≤ m.length) : (m ++ r).take n = m.take n:=List.take_append_of_le_length h
theorem value_len {m x : List UInt8} {k : Nat} (h : valueL m = some (x,k)) : k ≤ m.length:=by
 cases m with
 | nil=>cases h
 | cons q t=>
  simp only [valueL] at h
  split at h
  ·cases hf : findL [q] t with
   | none=>rw [hf] at h;cases h
   | some e=>
    rw [hf] at h
    simp only at h
    cases hu : unL [] ((t.take e).map mapB) with
    | error z=>rw [hu] at h;cases h
    | ok y=>
     rw [hu] at h
     simp only [Option.some.injEq,Prod.mk.injEq] at h
     obtain ⟨_,rfl⟩:=h
     have:=findL_len hf
     simp only [List.length_singleton] at this
     simp only [List.length_cons];omega
  ·cases h
theorem value_more {m x r : List UInt8} {k : Nat} (h : valueL m = some (x,k)) : valueL (m ++ r) = some (x,k):=by
 cases m with
 | nil=>cases h
 | cons q t=>
  rw [List.cons_append]
  simp only [valueL] at h ⊢
  split at h
  ·rename_i hq
   rw [if_pos hq]
   cases hf : findL [q] t with
   | none=>rw [hf] at h;cases h
   | some e=>
    rw [hf] at h
    have:=findL_len hf
    simp only [List.length_singleton] at this
    rw [findL_more hf]
    simp only at h ⊢
    rw [take_more (by omega)]
    exact h
  ·cases h
theorem attr_more {l r : List UInt8} {a : List UInt8 × List UInt8} {k : Nat} (h : attrL l = some (a,k)) : attrL (l ++ r) = some (a,k) ∧ k ≤ l.length:=by
 unfold attrL at h ⊢
 split at h
 ·rename_i hn
  simp only at h ⊢
  split at h
  ·rename_i hb
   have hl2:=begL_len hb
   rw [List.length_drop,List.length_drop] at hl2
   simp only [List.length_singleton] at hl2
   have hN : nameN (l ++ r) = nameN l:=nameN_more (by omega)
   rw [hN]
   generalize nameN l = n at *
   have hbm : blankN (l.drop n ++ r) = blankN (l.drop n):=blankN_more (by rw [List.length_drop];omega)
   rw [take_more (by omega),drop_more (by omega),hbm]
   generalize blankN (l.drop n) = b at *
   have hbl : begL [61] ((l.drop n).drop b) = begL [61] ((l.drop n).drop b ++ r):=(begL_more (by rw [List.length_drop,List.length_drop];simp;omega)).symm
   rw [drop_more (n:=b) (by rw [List.length_drop];omega),← hbl,if_pos hn,if_pos hb,drop_more (n:=b + 1) (by rw [List.length_drop];omega)]
   cases hv : valueL (((l.drop n).drop (b + 1)).drop (blankN ((l.drop n).drop (b + 1)))) with
   | none=>rw [hv] at h;cases h
   | some y=>
    obtain ⟨x,j⟩:=y
    have hvl:=value_len hv
    have hv0 : 2 ≤ j ∨ True:=.inr trivial
    have hne : ((l.drop n).drop (b + 1)).drop (blankN ((l.drop n).drop (b + 1))) ≠ []:=by
     intro e;rw [e] at hv;cases hv
    have hlt : blankN ((l.drop n).drop (b + 1)) < ((l.drop n).drop (b + 1)).length:=by
     rcases Nat.lt_or_ge (blankN ((l.drop n).drop (b + 1))) ((l.drop n).drop (b + 1)).length with h1 | h1
     ·exact h1
     ·exact absurd (List.drop_of_length_le h1) hne
    rw [blankN_more hlt,drop_more (Nat.le_of_lt hlt),value_more hv]
    rw [hv] at h
    refine ⟨h,?_⟩
    simp only [Option.some.injEq,Prod.mk.injEq] at h
    rw [List.length_drop] at hvl
    rw [List.length_drop,List.length_drop] at hlt
    rw [List.length_drop,List.length_drop] at hvl
    omega
  ·cases h
 ·cases h
theorem stepsK_append : ∀ (a b : List Tr),stepsK (a ++ b) = stepsK a ++ stepsK b:=by
 intro a
 induction a with
 | nil=>intro b;simp [stepsK]
 | cons t r ih=>intro b;simp [stepsK,ih]
theorem stepsK_one (t : Tr) : stepsK [t] = stepsT t:=by simp [stepsK]
theorem addText_kids (pre : List Stp) (lb : List UInt8) (al : List (List UInt8 × List UInt8)) (ks : List Tr) (x : List UInt8) :
  addText (pre ++ (⟨1,lb,[]⟩ :: (al.map attrS ++ stepsK ks))) x = pre ++ (⟨1,lb,[]⟩ :: (al.map attrS ++ stepsK (addTx x ks))):=by
 rcases List.eq_nil_or_concat ks with rfl | ⟨q,t,rfl⟩
 ·have h1 : last3 (pre ++ (⟨1,lb,[]⟩ :: (al.map attrS ++ stepsK []))) = false:=by
   have:=last3_attr pre lb al
   simpa [stepsK] using this
  rw [addText_new h1]
  simp [addTx,stepsK,stepsT_text]
 ·rw [List.concat_eq_append]
  cases t with
  | node lb2 tx al2 ks2=>
   by_cases h : lb2 = []
   ·subst h
    have e : pre ++ (⟨1,lb,[]⟩ :: (al.map attrS ++ stepsK (q ++ [.node [] tx al2 ks2]))) = (pre ++ (⟨1,lb,[]⟩ :: (al.map attrS ++ stepsK q))) ++ [⟨3,[],tx⟩]:=by
     rw [stepsK_append,stepsK_one,stepsT_text]
     simp
    rw [e]
    unfold addText
    rw [List.getLast?_concat]
    simp only [if_true]
    rw [List.dropLast_concat]
    unfold addTx
    rw [List.getLast?_concat]
    simp only [List.dropLast_concat]
    rw [stepsK_append,stepsK_one,stepsT_text]
    simp
   ·have h1 : last3 (pre ++ (⟨1,lb,[]⟩ :: (al.map attrS ++ stepsK (q ++ [.node lb2 tx al2 ks2])))) = false:=by
     rw [stepsK_append,stepsK_one]
     have:=steps_last lb2 tx al2 ks2 h (pre ++ (⟨1,lb,[]⟩ :: (al.map attrS ++ stepsK q)))
     simpa using this
    rw [addText_new h1]
    have e : addTx x (q ++ [.node lb2 tx al2 ks2]) = (q ++ [.node lb2 tx al2 ks2]) ++ [.node [] x [] []]:=by
     unfold addTx
     rw [List.getLast?_concat]
     cases lb2 with
     | nil=>exact absurd rfl h
     | cons c d=>rfl
    rw [e,stepsK_append _ [Tr.node [] x [] []],stepsK_one (Tr.node [] x [] []),stepsT_text]
    simp
theorem addTr_steps {t : Tr} {fs : List Fr} {root : Option Tr} (h : fs = [] → root = none) : outF (addTr t fs root).1 (addTr t fs root).2 = outF fs root ++ stepsT t:=by
 cases fs with
 | nil=>
  rw [h rfl]
  simp [addTr,outF]
 | cons f q=>
  simp only [addTr,outF,stepsF]
  rw [stepsK_append,stepsK_one]
  simp
theorem addTr_open {t : Tr} {fs : List Fr} {root : Option Tr} : (addTr t fs root).1.map (·.lb) = fs.map (·.lb) ∧ (((addTr t fs root).2.isSome || !(addTr t fs root).1.isEmpty) = true):=by
 cases fs with
 | nil=>simp [addTr]
 | cons f q=>simp [addTr]
theorem tree_steps : ∀ (l : List Tok) (i : Nat) (fs : List Fr) (root : Option Tr),(∀ t ∈ l,t.kind = 2 → t.name ≠ []) → (∀ f ∈ fs,f.lb ≠ []) → (fs ≠ [] → root = none) →
  xmlA i (fs.map (·.lb)) (root.isSome || !fs.isEmpty) (outF fs root) l = (treeA i fs root l).map stepsT:=by
 intro l
 induction l with
 | nil=>
  intro i fs root _ _ hr
  cases fs with
  | nil=>
   cases root with
   | none=>simp [xmlA,treeA,Except.map]
   | some t=>simp [xmlA,treeA,outF,Except.map]
  | cons f q=>simp [xmlA,treeA,Except.map]
 | cons t r ih=>
  intro i fs root hn hf hr
  have hn2 : ∀ u ∈ r,u.kind = 2 → u.name ≠ []:=fun u hu=>hn u (by simp [hu])
  unfold xmlA treeA
  by_cases h2 : t.kind = 2
  ·rw [if_pos h2,if_pos h2]
   have hne:=hn t (by simp) h2
   by_cases hd : root.isSome = true ∧ fs = []
   ·rw [if_pos hd,if_pos (by rw [hd.2];simp [hd.1])]
    rfl
   ·have hd2 : ¬ ((root.isSome || !fs.isEmpty) = true ∧ fs.map (·.lb) = []):=by
     rintro ⟨h3,h4⟩
     have h5 : fs = []:=by simpa using h4
     subst h5
     exact hd ⟨by simpa using h3,rfl⟩
    rw [if_neg hd,if_neg hd2]
    have hroot : fs = [] → root = none:=fun h=>by
     cases root with
     | none=>rfl
     | some u=>exact absurd ⟨rfl,h⟩ hd
    by_cases he : t.empty = true
    ·rw [if_pos he,if_pos he]
     have hst : stepsT (.node t.name [] (sortA t.attrs) []) = (⟨1,t.name,[]⟩ :: (sortA t.attrs).map attrS) ++ [⟨4,[],[]⟩]:=by
      rw [stepsT_elem _ _ _ hne];simp [stepsK]
     have h3:=ih (i + 1) (addTr (.node t.name [] (sortA t.attrs) []) fs root).1 (addTr (.node t.name [] (sortA t.attrs) []) fs root).2 hn2 (by
      cases fs with
      | nil=>simp [addTr]
      | cons f q=>simpa [addTr] using hf) (by
      cases fs with
      | nil=>simp [addTr]
      | cons f q=>intro _;exact hr (by simp))
     rw [addTr_steps hroot,addTr_open.1,addTr_open.2,hst] at h3
     rw [← h3,List.append_assoc]
    ·rw [if_neg he,if_neg he]
     have h3:=ih (i + 1) (⟨t.name,sortA t.attrs,[]⟩ :: fs) root hn2 (fun f hf'=>by
      rcases List.mem_cons.1 hf' with rfl | hf'
      ·exact hne
      ·exact hf f hf') (fun _=>by
      cases fs with
      | nil=>exact hroot rfl
      | cons f q=>exact hr (by simp))
     rw [← h3]
     have e : outF (⟨t.name,sortA t.attrs,[]⟩ :: fs) root = outF fs root ++ (⟨1,t.name,[]⟩ :: (sortA t.attrs).map attrS):=by
      cases fs with
      | nil=>rw [hroot rfl];simp [outF,stepsF,stepsK]
      | cons f q=>simp [outF,stepsF,stepsK]
     rw [e]
     simp
  ·rw [if_neg h2,if_neg h2]
   by_cases h3 : t.kind = 3
   ·rw [if_pos h3,if_pos h3]
    cases fs with
    | nil=>rfl
    | cons f q=>
     simp only [List.map_cons]
     by_cases hl : f.lb = t.name
     ·rw [if_neg (by simp [hl]),if_neg (by simp [hl])]
      have hrn:=hr (by simp)
      have hfl:=hf f (by simp)
      have hst : stepsT (.node f.lb [] f.al f.kids) = ⟨1,f.lb,[]⟩ :: (f.al.map attrS ++ (stepsK f.kids ++ [⟨4,[],[]⟩])):=stepsT_elem _ _ _ hfl
      have h4:=ih (i + 1) (addTr (.node f.lb [] f.al f.kids) q root).1 (addTr (.node f.lb [] f.al f.kids) q root).2 hn2 (by
       cases q with
       | nil=>simp [addTr]
       | cons g q=>
        intro a ha
        simp only [addTr] at ha
        rcases List.mem_cons.1 ha with rfl | ha
        ·exact hf g (by simp)
        ·exact hf a (by simp [ha])) (by
       cases q with
       | nil=>simp [addTr]
       | cons g q=>intro _;exact hrn)
      rw [addTr_steps (fun _=>hrn),addTr_open.1,addTr_open.2,hst] at h4
      rw [← h4]
      have e : outF (f :: q) root ++ [⟨4,[],[]⟩] = outF q root ++ ⟨1,f.lb,[]⟩ :: (f.al.map attrS ++ (stepsK f.kids ++ [⟨4,[],[]⟩])):=by
       rw [hrn]
       cases q <;> simp [outF,stepsF]
      rw [e]
      simp
     ·rw [if_pos (by simpa using hl),if_pos (by simpa using hl)]
      rfl
   ·rw [if_neg h3,if_neg h3]
    by_cases h4 : t.kind = 4
    ·rw [if_pos h4,if_pos h4]
     cases fs with
     | nil=>
      rw [if_pos (by simp)]
      by_cases hb : t.text.all (fun b=>blankI b.toNat) = false
      ·rw [if_pos hb];simp only;rw [if_pos hb];rfl
      ·rw [if_neg hb];simp only;rw [if_neg hb]
       exact ih (i + 1) [] root hn2 hf hr
     | cons f q=>
      rw [if_neg (by simp)]
      simp only
      by_cases hx : t.text = []
      ·rw [if_pos hx,if_pos hx]
       exact ih (i + 1) (f :: q) root hn2 hf hr
      ·rw [if_neg hx,if_neg hx]
       have h5:=ih (i + 1) (⟨f.lb,f.al,addTx t.text f.kids⟩ :: q) root hn2 (fun g hg=>by
        rcases List.mem_cons.1 hg with rfl | hg
        ·exact hf f (by simp)
        ·exact hf g (by simp [hg])) (fun _=>hr (by simp))
       rw [← h5]
       have e : addText (outF (f :: q) root) t.text = outF (⟨f.lb,f.al,addTx t.text f.kids⟩ :: q) root:=by
        simp only [outF,stepsF]
        exact addText_kids _ _ _ _ _
       rw [e]
       rfl
    ·rw [if_neg h4,if_neg h4]
     exact ih (i + 1) fs root hn2 hf hr
theorem treeL_steps {l : List Tok} (h : ∀ t ∈ l,t.kind = 2 → t.name ≠ []) : xmlL l = (treeL l).map stepsT:=
 tree_steps l 0 [] none h (fun f hf=>by cases hf) (fun h=>absurd rfl h)
theorem bare_addTr {t : Tr} {fs : List Fr} {root : Option Tr} (ht : bareA t = true) (hf : ∀ f ∈ fs,bareK f.kids = true) (hr : ∀ u,root = some u → bareA u = true) :
  (∀ f ∈ (addTr t fs root).1,bareK f.kids = true) ∧ (∀ u,(addTr t fs root).2 = some u → bareA u = true):=by
 cases fs with
 | nil=>
  simp only [addTr]
  exact ⟨fun f hf=>(by cases hf),fun u hu=>by injection hu with hu;rw [← hu];exact ht⟩
 | cons f q=>
  simp only [addTr]
  refine ⟨fun g hg=>?_,hr⟩
  rcases List.mem_cons.1 hg with rfl | hg
  ·simp only
   rw [bareK_append,hf f (by simp)]
   simp [bareK,ht]
  ·exact hf g (by simp [hg])
theorem tree_bare : ∀ (l : List Tok) (i : Nat) (fs : List Fr) (root : Option Tr),(∀ t ∈ l,t.kind = 2 → t.name ≠ []) → (∀ f ∈ fs,f.lb ≠ [] ∧ bareK f.kids = true) → (∀ u,root = some u → bareA u = true ∧ isTx u = false) → ∀ u,treeA i fs root l = .ok u → bareA u = true ∧ isTx u = false:=by
 intro l
 induction l with
 | nil=>
  intro i fs root _ _ hr u hu
  cases fs with
  | cons f q=>simp [treeA] at hu
  | nil=>
   cases root with
   | none=>simp [treeA] at hu
   | some t=>
    simp only [treeA,Except.ok.injEq] at hu
    rw [← hu]
    exact hr t rfl
 | cons t r ih=>
  intro i fs root hn hf hr u hu
  have hn2 : ∀ u ∈ r,u.kind = 2 → u.name ≠ []:=fun u hu=>hn u (by simp [hu])
  have step : ∀ (v : Tr),bareA v = true → isTx v = false → ∀ (gs : List Fr),(∀ f ∈ gs,f.lb ≠ [] ∧ bareK f.kids = true) → treeA (i + 1) (addTr v gs root).1 (addTr v gs root).2 r = .ok u → bareA u = true ∧ isTx u = false:=by
   intro v hv hx gs hg h
   refine ih _ _ _ hn2 ?_ ?_ u h
   ·intro f hf'
    refine ⟨?_,(bare_addTr hv (fun f hf=>(hg f hf).2) (fun u hu=>(hr u hu).1)).1 f hf'⟩
    cases gs with
    | nil=>simp [addTr] at hf'
    | cons g q=>
     simp only [addTr] at hf'
     rcases List.mem_cons.1 hf' with rfl | hf'
     ·exact (hg g (by simp)).1
     ·exact (hg f (by simp [hf'])).1
   ·intro w hw
    cases gs with
    | nil=>
     simp only [addTr] at hw
     injection hw with hw
     rw [← hw]
     exact ⟨hv,hx⟩
    | cons g q=>exact hr w hw
  unfold treeA at hu
  split at hu
  ·rename_i h2
   have hne:=hn t (by simp) h2
   split at hu
   ·cases hu
   ·split at hu
    ·exact step _ (by simp [bareA,bareK,hne]) (by simp [isTx,hne]) fs hf hu
    ·refine ih _ _ _ hn2 (fun f hf'=>?_) hr u hu
     rcases List.mem_cons.1 hf' with rfl | hf'
     ·exact ⟨hne,by simp [bareK]⟩
     ·exact hf f hf'
  ·split at hu
   ·cases fs with
    | nil=>cases hu
    | cons f q=>
     simp only at hu
     split at hu
     ·cases hu
     ·obtain ⟨h5,h6⟩:=hf f (by simp)
      exact step _ (by simp [bareA,h5,h6]) (by simp [isTx,h5]) q (fun g hg=>hf g (by simp [hg])) hu
   ·split at hu
    ·cases fs with
     | nil=>
      simp only at hu
      split at hu
      ·cases hu
      ·exact ih _ _ _ hn2 hf hr u hu
     | cons f q=>
      simp only at hu
      split at hu
      ·exact ih _ _ _ hn2 hf hr u hu
      ·refine ih _ _ _ hn2 (fun g hg=>?_) hr u hu
       rcases List.mem_cons.1 hg with rfl | hg
       ·exact ⟨(hf f (by simp)).1,bare_addTx (hf f (by simp)).2⟩
       ·exact hf g (by simp [hg])
    ·exact ih _ _ _ hn2 hf hr u hu
theorem treeL_bare {l : List Tok} {u : Tr} (h : ∀ t ∈ l,t.kind = 2 → t.name ≠ []) (hu : treeL l = .ok u) : bareA u = true ∧ isTx u = false:=
 tree_bare l 0 [] none h (fun f hf=>by cases hf) (fun u hu=>by cases hu) u hu
open Go.RowKit
theorem own_below {w w' : World} {base : Nat} {e : TypeId} {size : Nat} {v : Value} {n : Nat} {xs : List Value} (h : w.ownsRow base e size v n xs) (hb : Below w.heap.size w w') : w'.ownsRow base e size v n xs:=
 h.kept (row:=none) ⟨hb.os,hb.tape,hb.output,hb.size,fun k hk _=>hb.block k hk⟩ (by cases v.ownBlock <;> simp)
open Go.RowKit
open Go.RowKit
open Go.RowKit
end Go.Proofs.YtjldpkhfiffinaaGreatDoor.U
