/- Contracts and plain facts that the law stands on: T1, Small, Base. -/
import Derived.Test.YtjldpkhfiffinaaGreatDoorZC02
import Derived.WalkSpells
import Derived.Test.YtjldpkhfiffinaaGreatDoorRows
import Derived.Test.YtjldpkhfiffinaaGreatDoorZC01
import Derived.WalkKit
import Derived.WalkLawsBesides
import Derived.Lib.Hide
import Derived.Laws.Rows
namespace Go.Proofs.YtjldpkhfiffinaaGreatDoor.U
inductive Tr where
 | node (label text : List UInt8) (attrs : List (List UInt8 × List UInt8)) (kids : List Tr)
structure Stp where
 kind : Int
 name : List UInt8
 text : List UInt8
deriving DecidableEq
def attrS (a : List UInt8 × List UInt8) : Stp:=⟨2,a.1,a.2⟩
mutual
def stepsT : Tr → List Stp
 | .node lb tx ats ks=>if lb = [] then [⟨3,[],tx⟩] else ⟨1,lb,[]⟩ :: (ats.map attrS ++ (stepsK ks ++ [⟨4,[],[]⟩]))
def stepsK : List Tr → List Stp
 | []=>[]
 | t :: r=>stepsT t ++ stepsK r
end
mutual
def toksT : Tr → List Tok
 | .node lb tx ats ks=>if lb = [] then [⟨4,[],tx,[],false⟩] else match ks with
  | []=>[⟨2,lb,[],ats,true⟩]
  | k :: r=>⟨2,lb,[],ats,false⟩ :: (toksT k ++ (toksK r ++ [⟨3,lb,[],[],false⟩]))
def toksK : List Tr → List Tok
 | []=>[]
 | t :: r=>toksT t ++ toksK r
end
def countS : List Stp → Int × Int × Int → Int × Int × Int
 | [],s=>s
 | x :: r,(n,d,m)=>countS r (if x.kind = 1 then (n + 1,d + 1,max m (d + 1)) else if x.kind = 3 then (n + 1,d,max m (d + 1)) else if x.kind = 4 then (n,d - 1,m) else (n,d,m))
def nodesS (l : List Stp) : Int:=(countS l (0,0,0)).1
def deepS (l : List Stp) : Int:=(countS l (0,0,0)).2.2
def ltB : List UInt8 → List UInt8 → Bool
 | [],[]=>false
 | [],_ :: _=>true
 | _ :: _,[]=>false
 | a :: x,b :: y=>decide (a < b) || (decide (a = b) && ltB x y)
def orderS : List Stp → Bool
 | []=>true
 | [_]=>true
 | a :: b :: r=>(!(decide (a.kind = 2) && decide (b.kind = 2)) || ltB a.name b.name) && orderS (b :: r)
def thereS : List Stp → Bool
 | []=>true
 | [_]=>true
 | a :: b :: r=>!(decide (a.kind = 3) && decide (b.kind = 3)) && thereS (b :: r)
def checkS (l : List Stp) : Int:=
 if 4096 < nodesS l ∨ 32 < deepS l then 17
 else if l.any (fun x=>decide (x.kind ≤ 2) && !nameL x.name) = true then 11
 else if l.any (fun x=>!wholeB x.text) = true then 10
 else if l.any (fun x=>decide (x.kind = 3) && decide (x.text = [])) = true then 18
 else if orderS l = false then 14
 else if thereS l = false then 15
 else 0
def insA (a : List UInt8 × List UInt8) : List (List UInt8 × List UInt8) → List (List UInt8 × List UInt8)
 | []=>[a]
 | b :: r=>if ltB b.1 a.1 = true then b :: insA a r else a :: b :: r
def sortA (l : List (List UInt8 × List UInt8)) : List (List UInt8 × List UInt8):=l.foldl (fun acc a=>insA a acc) []
def addText (out : List Stp) (x : List UInt8) : List Stp:=
 match out.getLast? with
 | some s=>if s.kind = 3 then out.dropLast ++ [⟨3,s.name,s.text ++ x⟩] else out ++ [⟨3,[],x⟩]
 | none=>out ++ [⟨3,[],x⟩]
def xmlA : Nat → List (List UInt8) → Bool → List Stp → List Tok → Except Nat (List Stp)
 | i,op,done,out,[]=>if done = false ∨ op ≠ [] then .error i else .ok out
 | i,op,done,out,t :: r=>
  if t.kind = 2 then
   if done = true ∧ op = [] then .error i
   else if t.empty = true then xmlA (i + 1) op true (out ++ (⟨1,t.name,[]⟩ :: (sortA t.attrs).map attrS) ++ [⟨4,[],[]⟩]) r
   else xmlA (i + 1) (t.name :: op) true (out ++ (⟨1,t.name,[]⟩ :: (sortA t.attrs).map attrS)) r
  else if t.kind = 3 then
   match op with
   | []=>.error i
   | n :: q=>if n ≠ t.name then .error i else xmlA (i + 1) q done (out ++ [⟨4,[],[]⟩]) r
  else if t.kind = 4 then
   if op = [] then (if t.text.all (fun b=>blankI b.toNat) = false then .error i else xmlA (i + 1) op done out r)
   else if t.text = [] then xmlA (i + 1) op done out r
   else xmlA (i + 1) op done (addText out t.text) r
  else xmlA (i + 1) op done out r
def xmlL (l : List Tok) : Except Nat (List Stp):=xmlA 0 [] false [] l
def textX (t : Tr) : List UInt8:=(toksT t).flatMap textT
def isTx : Tr → Bool
 | .node lb _ _ _=>decide (lb = [])
def headTx : List Tr → Bool
 | []=>false
 | t :: _=>isTx t
def apartK : List Tr → Bool
 | []=>true
 | t :: r=>!(isTx t && headTx r) && apartK r
def riseA : List (List UInt8 × List UInt8) → Bool
 | []=>true
 | [_]=>true
 | a :: b :: r=>ltB a.1 b.1 && riseA (b :: r)
mutual
def fineT : Tr → Bool
 | .node lb tx ats ks=>if lb = [] then decide (tx ≠ []) else riseA ats && (apartK ks && fineK ks)
def fineK : List Tr → Bool
 | []=>true
 | t :: r=>fineT t && fineK r
end
def last3 (out : List Stp) : Bool:=match out.getLast? with | some s=>decide (s.kind = 3) | none=>false
theorem ltB_irrefl : ∀ a : List UInt8,ltB a a = false:=by
 intro a
 induction a with
 | nil=>rfl
 | cons c t ih=>
  unfold ltB
  rw [ih]
  simp
theorem ltB_trans : ∀ {a b c : List UInt8},ltB a b = true → ltB b c = true → ltB a c = true:=by
 intro a
 induction a with
 | nil=>
  intro b c h1 h2
  cases c with
  | nil=>cases b <;> simp [ltB] at h2
  | cons z c=>rfl
 | cons x a ih=>
  intro b c h1 h2
  cases b with
  | nil=>simp [ltB] at h1
  | cons y b=>
   cases c with
   | nil=>simp [ltB] at h2
   | cons z c=>
    simp only [ltB,Bool.or_eq_true,decide_eq_true_eq,Bool.and_eq_true] at h1 h2 ⊢
    rcases h1 with h1 | ⟨rfl,h1⟩
    ·rcases h2 with h2 | ⟨rfl,_⟩
     ·exact .inl (UInt8.lt_trans h1 h2)
     ·exact .inl h1
    ·rcases h2 with h2 | ⟨rfl,h2⟩
     ·exact .inl h2
     ·exact .inr ⟨rfl,ih h1 h2⟩
theorem ltB_asymm {a b : List UInt8} (h : ltB a b = true) : ltB b a = false:=by
 cases h2 : ltB b a with
 | false=>rfl
 | true=>
  have:=ltB_trans h h2
  rw [ltB_irrefl] at this
  cases this
theorem riseA_tail {a : List UInt8 × List UInt8} {r : List (List UInt8 × List UInt8)} (h : riseA (a :: r) = true) : riseA r = true ∧ ∀ b ∈ r,ltB a.1 b.1 = true:=by
 induction r generalizing a with
 | nil=>exact ⟨rfl,fun b hb=>by cases hb⟩
 | cons c r ih=>
  simp only [riseA,Bool.and_eq_true] at h
  refine ⟨h.2,fun b hb=>?_⟩
  rcases List.mem_cons.1 hb with rfl | hb
  ·exact h.1
  ·exact ltB_trans h.1 ((ih h.2).2 b hb)
theorem insA_last {a : List UInt8 × List UInt8} : ∀ {l : List (List UInt8 × List UInt8)},(∀ b ∈ l,ltB b.1 a.1 = true) → insA a l = l ++ [a]:=by
 intro l
 induction l with
 | nil=>intro _;rfl
 | cons b r ih=>
  intro h
  unfold insA
  rw [if_pos (h b (by simp)),ih (fun c hc=>h c (by simp [hc]))]
  rfl
theorem sortA_rise {l : List (List UInt8 × List UInt8)} (h : riseA l = true) : sortA l = l:=by
 have : ∀ (r p : List (List UInt8 × List UInt8)),riseA r = true → (∀ b ∈ p,∀ c ∈ r,ltB b.1 c.1 = true) → r.foldl (fun acc a=>insA a acc) p = p ++ r:=by
  intro r
  induction r with
  | nil=>intro p _ _;simp
  | cons a r ih=>
   intro p hr hp
   obtain ⟨h1,h2⟩:=riseA_tail hr
   rw [List.foldl_cons,insA_last (fun b hb=>hp b hb a (by simp)),ih (p ++ [a]) h1]
   ·simp
   ·intro b hb c hc
    rcases List.mem_append.1 hb with hb | hb
    ·exact hp b hb c (by simp [hc])
    ·obtain rfl:=List.mem_singleton.1 hb
     exact h2 c hc
 have h2:=this l [] h (fun b hb=>by cases hb)
 rw [List.nil_append] at h2
 exact h2
theorem last3_four (out : List Stp) (l : List Stp) : last3 (out ++ (l ++ [⟨4,[],[]⟩])) = false:=by
 unfold last3
 rw [← List.append_assoc,List.getLast?_concat]
 rfl
theorem steps_last (lb tx : List UInt8) (ats : List (List UInt8 × List UInt8)) (ks : List Tr) (h : lb ≠ []) (out : List Stp) : last3 (out ++ stepsT (.node lb tx ats ks)) = false:=by
 unfold stepsT
 rw [if_neg h,← List.append_assoc,← List.cons_append]
 exact last3_four _ _
theorem last3_attr (out : List Stp) (lb : List UInt8) (ats : List (List UInt8 × List UInt8)) : last3 (out ++ (⟨1,lb,[]⟩ :: ats.map attrS)) = false:=by
 unfold last3
 rcases List.eq_nil_or_concat ats with rfl | ⟨l,a,rfl⟩
 ·simp
 ·rw [List.concat_eq_append,List.map_append,List.map_singleton,← List.cons_append,← List.append_assoc,List.getLast?_concat]
  rfl
theorem addText_new {out : List Stp} {x : List UInt8} (h : last3 out = false) : addText out x = out ++ [⟨3,[],x⟩]:=by
 unfold addText last3 at *
 cases h1 : out.getLast? with
 | none=>rfl
 | some s=>
  rw [h1] at h
  simp only [decide_eq_false_iff_not] at h
  simp only [h,if_false]
theorem xmlA_text {i : Nat} {op : List (List UInt8)} {done : Bool} {out : List Stp} {x : List UInt8} {r : List Tok} (h1 : op ≠ []) (h2 : x ≠ []) : xmlA i op done out (⟨4,[],x,[],false⟩ :: r) = xmlA (i + 1) op done (addText out x) r:=by
 simp [xmlA,h1,h2]
theorem xmlA_empty {i : Nat} {op : List (List UInt8)} {done : Bool} {out : List Stp} {n : List UInt8} {al : List (List UInt8 × List UInt8)} {r : List Tok} (h1 : ¬ (done = true ∧ op = [])) : xmlA i op done out (⟨2,n,[],al,true⟩ :: r) = xmlA (i + 1) op true (out ++ (⟨1,n,[]⟩ :: (sortA al).map attrS) ++ [⟨4,[],[]⟩]) r:=by
 simp only [xmlA,h1,if_true,if_false]
theorem xmlA_open {i : Nat} {op : List (List UInt8)} {done : Bool} {out : List Stp} {n : List UInt8} {al : List (List UInt8 × List UInt8)} {r : List Tok} (h1 : ¬ (done = true ∧ op = [])) : xmlA i op done out (⟨2,n,[],al,false⟩ :: r) = xmlA (i + 1) (n :: op) true (out ++ (⟨1,n,[]⟩ :: (sortA al).map attrS)) r:=by
 simp only [xmlA,h1,if_true,if_false,Bool.false_eq_true]
theorem xmlA_close {i : Nat} {op : List (List UInt8)} {done : Bool} {out : List Stp} {n : List UInt8} {r : List Tok} : xmlA i (n :: op) done out (⟨3,n,[],[],false⟩ :: r) = xmlA (i + 1) op done (out ++ [⟨4,[],[]⟩]) r:=by
 simp [xmlA]
theorem xml_toks (t : Tr) : fineT t = true → ∀ (i : Nat) (op : List (List UInt8)) (done : Bool) (out : List Stp) (r : List Tok),(isTx t = true → op ≠ [] ∧ last3 out = false) → (isTx t = false → ¬ (done = true ∧ op = [])) →
  xmlA i op done out (toksT t ++ r) = xmlA (i + (toksT t).length) op (done || !isTx t) (out ++ stepsT t) r:=by
 refine Tr.rec (motive_1:=fun t=>fineT t = true → ∀ (i : Nat) (op : List (List UInt8)) (done : Bool) (out : List Stp) (r : List Tok),(isTx t = true → op ≠ [] ∧ last3 out = false) → (isTx t = false → ¬ (done = true ∧ op = [])) →
  xmlA i op done out (toksT t ++ r) = xmlA (i + (toksT t).length) op (done || !isTx t) (out ++ stepsT t) r)
  (motive_2:=fun ks=>fineK ks = true → apartK ks = true → ∀ (i : Nat) (op : List (List UInt8)) (out : List Stp) (r : List Tok),op ≠ [] → (headTx ks = true → last3 out = false) →
   xmlA i op true out (toksK ks ++ r) = xmlA (i + (toksK ks).length) op true (out ++ stepsK ks) r) ?_ ?_ ?_ t
 ·intro lb tx ats ks ih hf i op done out r h1 h2
  by_cases hlb : lb = []
  ·subst hlb
   unfold fineT at hf
   rw [if_pos rfl] at hf
   have htx : tx ≠ []:=by simpa using hf
   obtain ⟨h3,h4⟩:=h1 rfl
   unfold toksT stepsT
   rw [if_pos rfl,if_pos rfl,List.singleton_append]
   rw [xmlA_text h3 htx,addText_new h4]
   simp [isTx]
  ·unfold fineT at hf
   rw [if_neg hlb] at hf
   simp only [Bool.and_eq_true] at hf
   have hno:=h2 (by simp [isTx,hlb])
   have hs:=sortA_rise hf.1
   have hi : isTx (.node lb tx ats ks) = false:=by simp [isTx,hlb]
   rw [hi]
   unfold stepsT
   rw [if_neg hlb]
   cases ks with
   | nil=>
    unfold toksT
    rw [if_neg hlb]
    simp only [List.singleton_append]
    rw [xmlA_empty hno,hs]
    simp [stepsK,List.append_assoc]
   | cons k q=>
    unfold toksT
    rw [if_neg hlb]
    simp only [List.cons_append]
    rw [xmlA_open hno,hs]
    have e : toksT k ++ (toksK q ++ [(⟨3,lb,[],[],false⟩ : Tok)]) ++ r = toksK (k :: q) ++ ((⟨3,lb,[],[],false⟩ : Tok) :: r):=by
     simp [toksK,List.append_assoc]
    rw [e,ih hf.2.2 hf.2.1 (i + 1) (lb :: op) _ _ (by simp) (fun _=>last3_attr _ _ _)]
    rw [xmlA_close]
    have el : i + 1 + (toksK (k :: q)).length + 1 = i + ((toksT k ++ (toksK q ++ [(⟨3,lb,[],[],false⟩ : Tok)])).length + 1):=by
     simp [toksK];omega
    rw [el]
    simp [List.append_assoc]
 ·intro _ _ i op out r _ _
  simp [toksK,stepsK]
 ·intro t ks ih1 ih2 hf ha i op out r hop hh
  simp only [fineK,Bool.and_eq_true] at hf
  simp only [apartK,Bool.and_eq_true,Bool.not_eq_true'] at ha
  unfold toksK stepsK
  rw [List.append_assoc,ih1 hf.1 i op true out (toksK ks ++ r) (fun h=>⟨hop,hh h⟩) (fun _=>by simp [hop]),Bool.true_or]
  rw [ih2 hf.2 ha.2 _ op _ r hop]
  ·rw [List.length_append,List.append_assoc,Nat.add_assoc]
  ·intro hk
   cases t with
   | node lb tx ats ks'=>
    by_cases hlb : lb = []
    ·have : isTx (.node lb tx ats ks') = true:=by simp [isTx,hlb]
     rw [this,hk] at ha
     simp at ha
    ·exact steps_last lb tx ats ks' hlb out
theorem xml_back {t : Tr} (hf : fineT t = true) (he : isTx t = false) : xmlL (toksT t) = .ok (stepsT t):=by
 have:=xml_toks t hf 0 [] false [] [] (fun h=>by rw [he] at h;cases h) (fun _=>by simp)
 rw [List.append_nil] at this
 unfold xmlL
 rw [this,he]
 unfold xmlA
 simp
theorem orderS_tail {a : Stp} {l : List Stp} (h : orderS (a :: l) = true) : orderS l = true:=by
 cases l with
 | nil=>rfl
 | cons b r=>simp only [orderS,Bool.and_eq_true] at h;exact h.2
theorem thereS_tail {a : Stp} {l : List Stp} (h : thereS (a :: l) = true) : thereS l = true:=by
 cases l with
 | nil=>rfl
 | cons b r=>simp only [thereS,Bool.and_eq_true] at h;exact h.2
theorem orderS_right {l m : List Stp} (h : orderS (l ++ m) = true) : orderS m = true:=by
 induction l with
 | nil=>exact h
 | cons a r ih=>exact ih (orderS_tail h)
theorem thereS_right {l m : List Stp} (h : thereS (l ++ m) = true) : thereS m = true:=by
 induction l with
 | nil=>exact h
 | cons a r ih=>exact ih (thereS_tail h)
theorem orderS_left {l m : List Stp} (h : orderS (l ++ m) = true) : orderS l = true:=by
 induction l with
 | nil=>rfl
 | cons a r ih=>
  cases r with
  | nil=>rfl
  | cons b q=>
   simp only [List.cons_append,orderS,Bool.and_eq_true] at h ⊢
   exact ⟨h.1,ih h.2⟩
theorem thereS_left {l m : List Stp} (h : thereS (l ++ m) = true) : thereS l = true:=by
 induction l with
 | nil=>rfl
 | cons a r ih=>
  cases r with
  | nil=>rfl
  | cons b q=>
   simp only [List.cons_append,thereS,Bool.and_eq_true] at h ⊢
   exact ⟨h.1,ih h.2⟩
theorem rise_of_order : ∀ {al : List (List UInt8 × List UInt8)},orderS (al.map attrS) = true → riseA al = true:=by
 intro al
 induction al with
 | nil=>intro _;rfl
 | cons a r ih=>
  intro h
  cases r with
  | nil=>rfl
  | cons b q=>
   simp only [List.map_cons,orderS,attrS,Bool.and_eq_true] at h
   simp only [riseA,Bool.and_eq_true]
   exact ⟨by simpa using h.1,ih h.2⟩
theorem stepsT_text (tx : List UInt8) (al : List (List UInt8 × List UInt8)) (ks : List Tr) : stepsT (.node [] tx al ks) = [⟨3,[],tx⟩]:=by
 unfold stepsT;rw [if_pos rfl]
theorem stepsT_elem {lb : List UInt8} (tx : List UInt8) (al : List (List UInt8 × List UInt8)) (ks : List Tr) (h : lb ≠ []) : stepsT (.node lb tx al ks) = ⟨1,lb,[]⟩ :: (al.map attrS ++ (stepsK ks ++ [⟨4,[],[]⟩])):=by
 unfold stepsT;rw [if_neg h]
theorem apart_of_there {t : Tr} {r : List Tr} (h : thereS (stepsT t ++ stepsK r) = true) : (isTx t && headTx r) = false:=by
 cases t with
 | node lb tx al ks=>
  by_cases hlb : lb = []
  ·subst hlb
   cases r with
   | nil=>simp [headTx]
   | cons u q=>
    cases u with
    | node lb2 tx2 al2 ks2=>
     by_cases h2 : lb2 = []
     ·subst h2
      unfold stepsK at h
      rw [stepsT_text,stepsT_text] at h
      simp [thereS] at h
     ·simp [headTx,isTx,h2]
  ·simp [isTx,hlb]
theorem fine_of (t : Tr) : (∀ x ∈ stepsT t,x.kind = 3 → x.text ≠ []) → orderS (stepsT t) = true → thereS (stepsT t) = true → fineT t = true:=by
 refine Tr.rec (motive_1:=fun t=>(∀ x ∈ stepsT t,x.kind = 3 → x.text ≠ []) → orderS (stepsT t) = true → thereS (stepsT t) = true → fineT t = true)
  (motive_2:=fun ks=>(∀ x ∈ stepsK ks,x.kind = 3 → x.text ≠ []) → orderS (stepsK ks) = true → thereS (stepsK ks) = true → apartK ks = true ∧ fineK ks = true) ?_ ?_ ?_ t
 ·intro lb tx al ks ih h1 h2 h3
  unfold fineT
  by_cases hlb : lb = []
  ·subst hlb
   rw [stepsT_text] at h1
   rw [if_pos rfl]
   simpa using h1 ⟨3,[],tx⟩ (by simp) rfl
  ·rw [stepsT_elem tx al ks hlb] at h1 h2 h3
   rw [if_neg hlb]
   have h4:=orderS_tail h2
   have h5:=thereS_tail h3
   have h6:=ih (fun x hx=>h1 x (by simp [hx])) (orderS_left (orderS_right h4)) (thereS_left (thereS_right h5))
   simp only [Bool.and_eq_true]
   exact ⟨rise_of_order (orderS_left h4),h6.1,h6.2⟩
 ·intro _ _ _
  exact ⟨rfl,rfl⟩
 ·intro t ks ih1 ih2 h1 h2 h3
  have e : stepsK (t :: ks) = stepsT t ++ stepsK ks:=by simp [stepsK]
  rw [e] at h1 h2 h3
  obtain ⟨h4,h5⟩:=ih2 (fun x hx=>h1 x (by simp [hx])) (orderS_right h2) (thereS_right h3)
  have h6:=ih1 (fun x hx=>h1 x (by simp [hx])) (orderS_left h2) (thereS_left h3)
  have h7:=apart_of_there h3
  simp only [apartK,fineK,Bool.and_eq_true,Bool.not_eq_true']
  exact ⟨⟨h7,h4⟩,h6,h5⟩
theorem check_parts {l : List Stp} (h : checkS l = 0) : nodesS l ≤ 4096 ∧ deepS l ≤ 32 ∧ (∀ x ∈ l,x.kind ≤ 2 → nameL x.name = true) ∧ (∀ x ∈ l,Whole x.text) ∧ (∀ x ∈ l,x.kind = 3 → x.text ≠ []) ∧ orderS l = true ∧ thereS l = true:=by
 unfold checkS at h
 split at h
 ·cases h
 rename_i g1
 split at h
 ·cases h
 rename_i g2
 split at h
 ·cases h
 rename_i g3
 split at h
 ·cases h
 rename_i g4
 split at h
 ·cases h
 rename_i g5
 split at h
 ·cases h
 rename_i g6
 refine ⟨by omega,by omega,fun x hx hk=>?_,fun x hx=>?_,fun x hx hk he=>?_,by simpa using g5,by simpa using g6⟩
 ·cases hn : nameL x.name with
  | true=>rfl
  | false=>exact absurd (List.any_eq_true.2 ⟨x,hx,by simp [hk,hn]⟩) g2
 ·refine (wholeB_iff _).1 ?_
  cases hn : wholeB x.text with
  | true=>rfl
  | false=>exact absurd (List.any_eq_true.2 ⟨x,hx,by simp [hn]⟩) g3
 ·exact absurd (List.any_eq_true.2 ⟨x,hx,by simp [hk,he]⟩) g4
theorem dup_rise : ∀ {al : List (List UInt8 × List UInt8)} (p : List (List UInt8 × List UInt8)),riseA al = true → (∀ b ∈ p,∀ c ∈ al,ltB b.1 c.1 = true) → dupA p al = false:=by
 intro al
 induction al with
 | nil=>intro p _ _;rfl
 | cons a r ih=>
  intro p h hp
  obtain ⟨h1,h2⟩:=riseA_tail h
  unfold dupA
  rw [ih (p ++ [a]) h1]
  ·rw [Bool.or_false]
   unfold hasA
   rw [List.any_eq_false]
   intro b hb
   have:=hp b hb a (by simp)
   simp only [beq_iff_eq]
   intro e
   rw [e,ltB_irrefl] at this
   cases this
  ·intro b hb c hc
   rcases List.mem_append.1 hb with hb | hb
   ·exact hp b hb c (by simp [hc])
   ·obtain rfl:=List.mem_singleton.1 hb
    exact h2 c hc
def pieceOK (t : Tok) : Prop:=t.kind ≠ 1 ∧ okT false t = true ∧ plainT t = true
theorem okAll_of : ∀ {l : List Tok} (f : Bool),(∀ t ∈ l,pieceOK t) → okAll f l = true:=by
 intro l
 induction l with
 | nil=>intro f _;rfl
 | cons t r ih=>
  intro f h
  simp only [okAll,Bool.and_eq_true]
  refine ⟨?_,ih false (fun u hu=>h u (by simp [hu]))⟩
  obtain ⟨h1,h2,_⟩:=h t (by simp)
  unfold okT at h2 ⊢
  rw [if_neg h1] at h2 ⊢
  exact h2
theorem toksT_text (tx : List UInt8) (al : List (List UInt8 × List UInt8)) (ks : List Tr) : toksT (.node [] tx al ks) = [⟨4,[],tx,[],false⟩]:=by
 unfold toksT;rw [if_pos rfl]
theorem toksT_empty {lb : List UInt8} (tx : List UInt8) (al : List (List UInt8 × List UInt8)) (h : lb ≠ []) : toksT (.node lb tx al []) = [⟨2,lb,[],al,true⟩]:=by
 unfold toksT;rw [if_neg h]
theorem toksT_kids {lb : List UInt8} (tx : List UInt8) (al : List (List UInt8 × List UInt8)) (k : Tr) (q : List Tr) (h : lb ≠ []) : toksT (.node lb tx al (k :: q)) = ⟨2,lb,[],al,false⟩ :: (toksK (k :: q) ++ [⟨3,lb,[],[],false⟩]):=by
 unfold toksT;rw [if_neg h];simp [toksK]
theorem open_ok {lb : List UInt8} {al : List (List UInt8 × List UInt8)} {em : Bool} (h1 : nameL lb = true) (h2 : ∀ a ∈ al,nameL a.1 = true ∧ Whole a.2) (h3 : riseA al = true) : pieceOK ⟨2,lb,[],al,em⟩:=by
 refine ⟨by simp,?_,by simp [plainT]⟩
 have h4:=dup_rise [] h3 (fun b hb=>by cases hb)
 have h5 : al.all (fun a=>nameL a.1) = true:=List.all_eq_true.2 (fun a ha=>(h2 a ha).1)
 have h6 : al.all (fun a=>wholeB a.2) = true:=List.all_eq_true.2 (fun a ha=>(wholeB_iff _).2 (h2 a ha).2)
 unfold okT
 simp [h1,h4]
 exact ⟨fun a b hab=>(h2 (a,b) hab).1,fun a b hab=>(wholeB_iff _).2 (h2 (a,b) hab).2⟩
theorem toks_ok (t : Tr) : fineT t = true → (∀ x ∈ stepsT t,x.kind ≤ 2 → nameL x.name = true) → (∀ x ∈ stepsT t,Whole x.text) → ∀ u ∈ toksT t,pieceOK u:=by
 refine Tr.rec (motive_1:=fun t=>fineT t = true → (∀ x ∈ stepsT t,x.kind ≤ 2 → nameL x.name = true) → (∀ x ∈ stepsT t,Whole x.text) → ∀ u ∈ toksT t,pieceOK u)
  (motive_2:=fun ks=>fineK ks = true → (∀ x ∈ stepsK ks,x.kind ≤ 2 → nameL x.name = true) → (∀ x ∈ stepsK ks,Whole x.text) → ∀ u ∈ toksK ks,pieceOK u) ?_ ?_ ?_ t
 ·intro lb tx al ks ih hf h1 h2 u hu
  unfold fineT at hf
  by_cases hlb : lb = []
  ·subst hlb
   rw [if_pos rfl] at hf
   rw [stepsT_text] at h2
   rw [toksT_text] at hu
   obtain rfl:=List.mem_singleton.1 hu
   have h3:=(wholeB_iff _).2 (h2 ⟨3,[],tx⟩ (by simp))
   refine ⟨by simp,by simpa [okT] using h3,?_⟩
   simp [plainT]
   simpa using hf
  ·rw [if_neg hlb] at hf
   simp only [Bool.and_eq_true] at hf
   rw [stepsT_elem tx al ks hlb] at h1 h2
   have hn : nameL lb = true:=h1 ⟨1,lb,[]⟩ (by simp) (by simp)
   have ha : ∀ a ∈ al,nameL a.1 = true ∧ Whole a.2:=fun a ha=>⟨h1 (attrS a) (by simp;exact .inr (.inl ⟨a.1,a.2,ha,rfl⟩)) (by simp [attrS]),h2 (attrS a) (by simp;exact .inr (.inl ⟨a.1,a.2,ha,rfl⟩))⟩
   cases ks with
   | nil=>
    rw [toksT_empty tx al hlb] at hu
    obtain rfl:=List.mem_singleton.1 hu
    exact open_ok hn ha hf.1
   | cons k q=>
    rw [toksT_kids tx al k q hlb] at hu
    rcases List.mem_cons.1 hu with rfl | hu
    ·exact open_ok hn ha hf.1
    rcases List.mem_append.1 hu with hu | hu
    ·exact ih hf.2.2 (fun x hx=>h1 x (by simp [hx])) (fun x hx=>h2 x (by simp [hx])) u hu
    ·obtain rfl:=List.mem_singleton.1 hu
     exact ⟨by simp,by simpa [okT] using hn,by simp [plainT]⟩
 ·intro _ _ _ u hu
  simp [toksK] at hu
 ·intro t ks ih1 ih2 hf h1 h2 u hu
  have e : stepsK (t :: ks) = stepsT t ++ stepsK ks:=by simp [stepsK]
  rw [e] at h1 h2
  simp only [fineK,Bool.and_eq_true] at hf
  unfold toksK at hu
  rcases List.mem_append.1 hu with hu | hu
  ·exact ih1 hf.1 (fun x hx=>h1 x (by simp [hx])) (fun x hx=>h2 x (by simp [hx])) u hu
  ·exact ih2 hf.2 (fun x hx=>h1 x (by simp [hx])) (fun x hx=>h2 x (by simp [hx])) u hu
def headK : List Tok → Bool
 | []=>false
 | u :: _=>decide (u.kind = 4)
def lastK (l : List Tok) : Bool:=match l.getLast? with | some u=>decide (u.kind = 4) | none=>false
def apart4 : List Tok → Bool
 | []=>true
 | t :: r=>!(decide (t.kind = 4) && headK r) && apart4 r
theorem neat_of : ∀ {l : List Tok},(∀ t ∈ l,plainT t = true) → apart4 l = true → neatL l = true:=by
 intro l
 induction l with
 | nil=>intro _ _;rfl
 | cons t r ih=>
  intro h1 h2
  simp only [apart4,Bool.and_eq_true] at h2
  simp only [neatL,Bool.and_eq_true]
  refine ⟨⟨h1 t (by simp),?_⟩,ih (fun u hu=>h1 u (by simp [hu])) h2.2⟩
  cases r with
  | nil=>rfl
  | cons u q=>exact h2.1
theorem lastK_cons {a b : Tok} {l : List Tok} : lastK (a :: b :: l) = lastK (b :: l):=by
 unfold lastK;rw [List.getLast?_cons_cons]
theorem apart4_append : ∀ {l m : List Tok},apart4 l = true → apart4 m = true → (lastK l && headK m) = false → apart4 (l ++ m) = true:=by
 intro l
 induction l with
 | nil=>intro m _ h _;exact h
 | cons t r ih=>
  intro m h1 h2 h3
  cases r with
  | nil=>
   simp only [List.cons_append,List.nil_append,apart4,Bool.and_eq_true]
   refine ⟨?_,h2⟩
   have : lastK [t] = decide (t.kind = 4):=rfl
   rw [this] at h3
   simp only [Bool.not_eq_true']
   exact h3
  | cons u q=>
   rw [lastK_cons] at h3
   simp only [apart4,Bool.and_eq_true] at h1
   have:=ih (m:=m) (by simp only [apart4,Bool.and_eq_true];exact h1.2) h2 h3
   simp only [List.cons_append] at this ⊢
   unfold apart4
   simp only [Bool.and_eq_true]
   exact ⟨h1.1,this⟩
theorem lastK_append {l m : List Tok} (h : m ≠ []) : lastK (l ++ m) = lastK m:=by
 unfold lastK
 rw [List.getLast?_append,List.getLast?_eq_some_getLast h]
 rfl
theorem toks_ne (t : Tr) : toksT t ≠ []:=by
 cases t with
 | node lb tx al ks=>
  by_cases h : lb = []
  ·subst h;rw [toksT_text];simp
  ·cases ks with
   | nil=>rw [toksT_empty tx al h];simp
   | cons k q=>rw [toksT_kids tx al k q h];simp
theorem head_toks (t : Tr) : headK (toksT t) = isTx t:=by
 cases t with
 | node lb tx al ks=>
  by_cases h : lb = []
  ·subst h;rw [toksT_text];simp [headK,isTx]
  ·cases ks with
   | nil=>rw [toksT_empty tx al h];simp [headK,isTx,h]
   | cons k q=>rw [toksT_kids tx al k q h];simp [headK,isTx,h]
theorem last_toks (t : Tr) : lastK (toksT t) = isTx t:=by
 cases t with
 | node lb tx al ks=>
  by_cases h : lb = []
  ·subst h;rw [toksT_text];simp [lastK,isTx]
  ·cases ks with
   | nil=>rw [toksT_empty tx al h];simp [lastK,isTx,h]
   | cons k q=>
    rw [toksT_kids tx al k q h,← List.cons_append,lastK_append (by simp)]
    simp [lastK,isTx,h]
theorem headK_append {l m : List Tok} (h : l ≠ []) : headK (l ++ m) = headK l:=by
 cases l with
 | nil=>exact absurd rfl h
 | cons a r=>rfl
theorem head_toksK (ks : List Tr) : headK (toksK ks) = headTx ks:=by
 cases ks with
 | nil=>simp [toksK,headK,headTx]
 | cons t r=>unfold toksK headTx;rw [headK_append (toks_ne t),head_toks]
theorem apart_toks (t : Tr) : fineT t = true → apart4 (toksT t) = true:=by
 refine Tr.rec (motive_1:=fun t=>fineT t = true → apart4 (toksT t) = true) (motive_2:=fun ks=>fineK ks = true → apartK ks = true → apart4 (toksK ks) = true) ?_ ?_ ?_ t
 ·intro lb tx al ks ih hf
  unfold fineT at hf
  by_cases h : lb = []
  ·subst h;rw [toksT_text];simp [apart4,headK]
  ·rw [if_neg h] at hf
   simp only [Bool.and_eq_true] at hf
   cases ks with
   | nil=>rw [toksT_empty tx al h];simp [apart4,headK]
   | cons k q=>
    rw [toksT_kids tx al k q h]
    unfold apart4
    simp only [Bool.and_eq_true]
    exact ⟨by simp,apart4_append (ih hf.2.2 hf.2.1) (by simp [apart4,headK]) (by simp [headK])⟩
 ·intro _ _
  simp [toksK,apart4]
 ·intro t ks ih1 ih2 hf ha
  simp only [fineK,Bool.and_eq_true] at hf
  simp only [apartK,Bool.and_eq_true,Bool.not_eq_true'] at ha
  unfold toksK
  exact apart4_append (ih1 hf.1) (ih2 hf.2 ha.2) (by rw [last_toks,head_toksK];exact ha.1)
theorem doc_back {t : Tr} (h : checkS (stepsT t) = 0) (he : isTx t = false) : okAll true (toksT t) = true ∧ neatL (toksT t) = true ∧ xmlL (toksT t) = .ok (stepsT t):=by
 obtain ⟨_,_,h1,h2,h3,h4,h5⟩:=check_parts h
 have hf:=fine_of t h3 h4 h5
 have hp:=toks_ok t hf h1 h2
 exact ⟨okAll_of true hp,neat_of (fun u hu=>(hp u hu).2.2) (apart_toks t hf),xml_back hf he⟩
/- A tree that has nothing that its steps don't tell. -/
mutual
def bareA : Tr → Bool
 | .node lb tx al ks=>(if lb = [] then decide (al = []) && ks.isEmpty else decide (tx = [])) && bareK ks
def bareK : List Tr → Bool
 | []=>true
 | t :: r=>bareA t && bareK r
end
structure Fr where
 lb : List UInt8
 al : List (List UInt8 × List UInt8)
 kids : List Tr
def addTr (t : Tr) : List Fr → Option Tr → List Fr × Option Tr
 | [],_=>([],some t)
 | f :: q,root=>(⟨f.lb,f.al,f.kids ++ [t]⟩ :: q,root)
def addTx (x : List UInt8) (ks : List Tr) : List Tr:=
 match ks.getLast? with
 | some (.node [] tx _ _)=>ks.dropLast ++ [.node [] (tx ++ x) [] []]
 | _=>ks ++ [.node [] x [] []]
def treeA : Nat → List Fr → Option Tr → List Tok → Except Nat Tr
 | i,fs,root,[]=>match fs,root with
  | [],some t=>.ok t
  | _,_=>.error i
 | i,fs,root,t :: r=>
  if t.kind = 2 then
   if root.isSome = true ∧ fs = [] then .error i
   else if t.empty = true then treeA (i + 1) (addTr (.node t.name [] (sortA t.attrs) []) fs root).1 (addTr (.node t.name [] (sortA t.attrs) []) fs root).2 r
   else treeA (i + 1) (⟨t.name,sortA t.attrs,[]⟩ :: fs) root r
  else if t.kind = 3 then
   match fs with
   | []=>.error i
   | f :: q=>if f.lb ≠ t.name then .error i else treeA (i + 1) (addTr (.node f.lb [] f.al f.kids) q root).1 (addTr (.node f.lb [] f.al f.kids) q root).2 r
  else if t.kind = 4 then
   match fs with
   | []=>if t.text.all (fun b=>blankI b.toNat) = false then .error i else treeA (i + 1) [] root r
   | f :: q=>if t.text = [] then treeA (i + 1) (f :: q) root r else treeA (i + 1) (⟨f.lb,f.al,addTx t.text f.kids⟩ :: q) root r
  else treeA (i + 1) fs root r
def stepsF : List Fr → List Stp
 | []=>[]
 | f :: r=>stepsF r ++ (⟨1,f.lb,[]⟩ :: (f.al.map attrS ++ stepsK f.kids))
def outF : List Fr → Option Tr → List Stp
 | [],none=>[]
 | [],some t=>stepsT t
 | f :: r,_=>stepsF (f :: r)
theorem steps_ne (t : Tr) : stepsT t ≠ []:=by
 cases t with
 | node lb tx al ks=>
  by_cases h : lb = []
  ·subst h;rw [stepsT_text];simp
  ·rw [stepsT_elem tx al ks h];simp
def treeL (l : List Tok) : Except Nat Tr:=treeA 0 [] none l
theorem headK_stp (ks : List Tr) (r : List Stp) : ∀ x ∈ (stepsK ks ++ (⟨4,[],[]⟩ :: r)).head?,x.kind ≠ 2:=by
 intro x hx
 cases ks with
 | nil=>
  simp only [stepsK,List.nil_append,List.head?_cons,Option.mem_some_iff] at hx
  subst hx;decide
 | cons t q=>
  cases t with
  | node lb tx al ks=>
   by_cases h : lb = []
   ·subst h
    unfold stepsK at hx
    rw [stepsT_text] at hx
    simp only [List.cons_append,List.head?_cons,Option.mem_some_iff] at hx
    subst hx
    show (3 : Int) ≠ 2
    decide
   ·unfold stepsK at hx
    rw [stepsT_elem tx al ks h] at hx
    simp only [List.cons_append,List.head?_cons,Option.mem_some_iff] at hx
    subst hx
    show (1 : Int) ≠ 2
    decide
theorem bareK_append : ∀ (a b : List Tr),bareK (a ++ b) = (bareK a && bareK b):=by
 intro a
 induction a with
 | nil=>intro b;simp [bareK]
 | cons t r ih=>intro b;simp [bareK,ih,Bool.and_assoc]
theorem bare_text (x : List UInt8) : bareA (.node [] x [] []) = true:=by simp [bareA,bareK]
theorem bare_addTx {x : List UInt8} {ks : List Tr} (h : bareK ks = true) : bareK (addTx x ks) = true:=by
 rcases List.eq_nil_or_concat ks with rfl | ⟨q,t,rfl⟩
 ·simp [addTx,bareK,bare_text]
 ·rw [List.concat_eq_append] at h ⊢
  rw [bareK_append,Bool.and_eq_true] at h
  unfold addTx
  rw [List.getLast?_concat]
  cases t with
  | node lb tx al ks2=>
   cases lb with
   | nil=>
    simp only [List.dropLast_concat]
    rw [bareK_append,h.1]
    simp [bareK,bare_text]
   | cons c d=>
    simp only
    rw [bareK_append,bareK_append,h.1,h.2]
    simp [bareK,bare_text]
open Go.RowKit
theorem al {B : Nat} {a w : World} (h : Below B a w) (hB : B ≤ a.heap.size) (o : Obj) : Below B a (w.alloc o):=h.alloc (Nat.le_trans hB h.size) o
theorem th {B : Nat} {a w w' : World} (h : Below B a w) (hB : B ≤ a.heap.size) (h' : Below w.heap.size w w') : Below B a w':=h.trans (h'.mono (Nat.le_trans hB h.size))
open Go.RowKit
structure Lay (w : World) : Prop where
 spans : ∃ t fr,w.heap[1]? = some (.cells #[.int .i32 9,.int .i32 10,.int .i32 13,.int .i32 13,.int .i32 32,.int .i32 55295,.int .i32 57344,.int .i32 65533,.int .i32 65536,.int .i32 1114111] t fr)
 rows : ∃ t fr,w.heap[0]? = some (.cells #[.int .i32 128,.int .u8 0,.int .u8 127,.int .i32 2048,.int .u8 192,.int .u8 223,.int .i32 65536,.int .u8 224,.int .u8 239,.int .i32 2097152,.int .u8 240,.int .u8 247] t fr)
theorem Lay.size {w : World} (h : Lay w) : 2 ≤ w.heap.size:=by
 obtain ⟨_,_,h1⟩:=h.rows
 obtain ⟨_,_,h2⟩:=h.spans
 have:=lt_of_block h1
 have:=lt_of_block h2
 omega
theorem Lay.below {w w' : World} {B : Nat} (h : Lay w) (hb : Below B w w') (hB : 2 ≤ B) : Lay w':=by
 obtain ⟨⟨t,f,h0⟩,⟨t',f',h1⟩⟩:=h
 exact ⟨⟨t,f,by rw [hb.block 1 (by omega)];exact h0⟩,⟨t',f',by rw [hb.block 0 (by omega)];exact h1⟩⟩
end Go.Proofs.YtjldpkhfiffinaaGreatDoor.U
