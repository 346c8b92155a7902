/- Contracts and plain facts that the law stands on: T3, T4. -/
import Derived.Test.YtjldpkhfiffinaaGreatDoorZP06
import Derived.Deep.RegionLaw
import Derived.Maps.AppendAt
import Derived.BigRegion
import Derived.OwnWalk
import Derived.Test.YtjldpkhfiffinaaGreatDoorRows
namespace Go.Proofs.YtjldpkhfiffinaaGreatDoor.U
open Go.RowKit
theorem countS_snoc : ∀ (l : List Stp) (x : Stp) (s : Int × Int × Int),countS (l ++ [x]) s = stepC x (countS l s):=by
 intro l
 induction l with
 | nil=>intro x s;rw [List.nil_append,countS_cons];rfl
 | cons y r ih=>intro x s;rw [List.cons_append,countS_cons,countS_cons,ih]
set_option maxHeartbeats 4000000 in
theorem count_any (l : List Stp) (v : Value) (w : World) (hv : AtRow w v l.length 3 (stepCells l)) (hl : l.length ≤ 1000000) :
  Calls Tryz.prog 36 #[v] w fun e w'=>e = .returned (.tuple #[.int .i64 (nodesS l),.int .i64 (deepS l)]) ∧ Below w.heap.size w w':=by
 obtain ⟨a,c,g,off,rfl,ha,hc⟩:=step_at hv
 obtain ⟨n,hn⟩ : ∃ n,l.length = n:=⟨_,rfl⟩
 rw [hn] at ha hl ⊢
 have HA:=Lib.hid ha
 have HC:=Lib.hid hc
 have HN:=Lib.hid hn
 clear hv ha hc hn
 go_enter Tryz.func36,Tryz.ntmps36
 go_wp2_with fail
 go_loopw [4,5,6,7] (fun x4 x5 x6 i wr=>∃ (k : Nat) (p d m : Int),k ≤ n ∧ i = .int .i64 k ∧ x4 = .int .i64 p ∧ x5 = .int .i64 d ∧ x6 = .int .i64 m ∧ 0 ≤ p ∧ p ≤ k ∧ -(k : Int) ≤ d ∧ d ≤ k ∧ 0 ≤ m ∧ m ≤ (k : Int) + 1 ∧ Hid (countS (l.take k) (0,0,0) = (p,d,m)) ∧ Hid (Below w.heap.size w wr)) (fun _ _ _ i _=>n - (intOf i).toNat)
 case atStart=>exact ⟨0,0,0,0,by omega,rfl,rfl,rfl,rfl,by omega,by omega,by omega,by omega,by omega,by omega,Lib.hid rfl,Lib.hid (Below.refl _ _)⟩
 case round=>
  obtain ⟨k,p,d,m,hk,rfl,rfl,rfl,rfl,hp0,hp1,hd0,hd1,hm0,hm1,HT,HB⟩:=hrel
  by_cases hlt : k < n
  ·obtain rfl:=HA.out (by omega)
   obtain ⟨⟨q0,q1,q2⟩,hq⟩ : ∃ b,l[k]? = some b:=⟨_,List.getElem?_eq_getElem (by rw [HN.out];omega)⟩
   obtain ⟨r1,_,_⟩:=HC.out k _ hq
   simp only at r1
   have s1:=(HB.out.cell (block_lt_of_cell r1)).trans r1
   have hi0 : (0 : Int) ≤ k:=by omega
   have hi1 : (k : Int) < n:=by omega
   have HS : Hid (countS (l.take (k + 1)) (0,0,0) = stepC ⟨q0,q1,q2⟩ (p,d,m)):=Lib.hid (by
    rw [List.take_add_one,hq]
    show countS (l.take k ++ [⟨q0,q1,q2⟩]) _ = _
    rw [countS_snoc,HT.out])
   clear r1 hq
   by_cases h1 : q0 = 1
   ·subst h1
    have HS2 : Hid (countS (l.take (k + 1)) (0,0,0) = (p + 1,d + 1,max m (d + 1))):=Lib.hid (by rw [HS.out];rfl)
    by_cases hmx : m ≤ d + 1
    ·have e : max m (d + 1) = d + 1:=by omega
     rw [e] at HS2
     go_wp2
     exact ⟨⟨k + 1,p + 1,d + 1,d + 1,by omega,by go_num,by go_num,by go_num,by go_num,by omega,by omega,by omega,by omega,by omega,by omega,HS2,HB⟩,by simp [intOf];omega⟩
    ·have e : max m (d + 1) = m:=by omega
     rw [e] at HS2
     go_wp2
     exact ⟨⟨k + 1,p + 1,d + 1,m,by omega,by go_num,by go_num,by go_num,by go_num,by omega,by omega,by omega,by omega,by omega,by omega,HS2,HB⟩,by simp [intOf];omega⟩
   ·by_cases h3 : q0 = 3
    ·subst h3
     have HS2 : Hid (countS (l.take (k + 1)) (0,0,0) = (p + 1,d,max m (d + 1))):=Lib.hid (by rw [HS.out];rfl)
     by_cases hmx : m ≤ d + 1
     ·have e : max m (d + 1) = d + 1:=by omega
      rw [e] at HS2
      go_wp2
      exact ⟨⟨k + 1,p + 1,d,d + 1,by omega,by go_num,by go_num,by go_num,by go_num,by omega,by omega,by omega,by omega,by omega,by omega,HS2,HB⟩,by simp [intOf];omega⟩
     ·have e : max m (d + 1) = m:=by omega
      rw [e] at HS2
      go_wp2
      exact ⟨⟨k + 1,p + 1,d,m,by omega,by go_num,by go_num,by go_num,by go_num,by omega,by omega,by omega,by omega,by omega,by omega,HS2,HB⟩,by simp [intOf];omega⟩
    ·by_cases h4 : q0 = 4
     ·subst h4
      have HS2 : Hid (countS (l.take (k + 1)) (0,0,0) = (p,d - 1,m)):=Lib.hid (by rw [HS.out];rfl)
      go_wp2
      exact ⟨⟨k + 1,p,d - 1,m,by omega,by go_num,by go_num,by go_num,by go_num,by omega,by omega,by omega,by omega,by omega,by omega,HS2,HB⟩,by simp [intOf];omega⟩
     ·have HS2 : Hid (countS (l.take (k + 1)) (0,0,0) = (p,d,m)):=Lib.hid (by rw [HS.out];unfold stepC;rw [if_neg h1,if_neg h3,if_neg h4])
      have hb1 : (q0 == 1) = false:=beq_eq_false_iff_ne.2 h1
      have hb3 : (q0 == 3) = false:=beq_eq_false_iff_ne.2 h3
      have hb4 : (q0 == 4) = false:=beq_eq_false_iff_ne.2 h4
      clear h1 h3 h4
      go_wp2
      exact ⟨⟨k + 1,p,d,m,by omega,by go_num,by go_num,by go_num,by go_num,by omega,by omega,by omega,by omega,by omega,by omega,HS2,HB⟩,by simp [intOf];omega⟩
  ·obtain rfl : k = n:=by omega
   have HE : Hid (nodesS l = p ∧ deepS l = m):=Lib.hid (by
    have:=HT.out
    rw [List.take_of_length_le (by rw [HN.out];omega)] at this
    unfold nodesS deepS
    rw [this]
    exact ⟨rfl,rfl⟩)
   go_wp2
   go_ret2
   exact ⟨by rw [HE.out.1,HE.out.2];rfl,HB.out⟩
open Go.RowKit
theorem orderS_bad {l : List Stp} {k : Nat} {a b : Stp} (h1 : l[k]? = some a) (h2 : l[k + 1]? = some b) (ha : a.kind = 2) (hb : b.kind = 2) (h : ltB a.name b.name = false) : orderS l = false:=by
 induction l generalizing k with
 | nil=>simp at h1
 | cons x r ih=>
  cases r with
  | nil=>simp at h2
  | cons y q=>
   cases k with
   | zero=>
    simp only [List.getElem?_cons_zero,List.getElem?_cons_succ,Option.some.injEq] at h1 h2
    subst h1 h2
    simp [orderS,ha,hb,h]
   | succ k=>
    have:=ih (k:=k) (by simpa using h1) (by simpa using h2)
    simp [orderS,this]
theorem thereS_bad {l : List Stp} {k : Nat} {a b : Stp} (h1 : l[k]? = some a) (h2 : l[k + 1]? = some b) (ha : a.kind = 3) (hb : b.kind = 3) : thereS l = false:=by
 induction l generalizing k with
 | nil=>simp at h1
 | cons x r ih=>
  cases r with
  | nil=>simp at h2
  | cons y q=>
   cases k with
   | zero=>
    simp only [List.getElem?_cons_zero,List.getElem?_cons_succ,Option.some.injEq] at h1 h2
    subst h1 h2
    simp [thereS,ha,hb]
   | succ k=>
    have:=ih (k:=k) (by simpa using h1) (by simpa using h2)
    simp [thereS,this]
theorem orderS_good : ∀ {l : List Stp},(∀ (k : Nat) (a b : Stp),l[k]? = some a → l[k + 1]? = some b → a.kind = 2 → b.kind = 2 → ltB a.name b.name = true) → orderS l = true:=by
 intro l
 induction l with
 | nil=>intro _;rfl
 | cons x r ih=>
  intro h
  cases r with
  | nil=>rfl
  | cons y q=>
   simp only [orderS,Bool.and_eq_true]
   refine ⟨?_,ih (fun k a b h1 h2=>h (k + 1) a b (by simpa using h1) (by simpa using h2))⟩
   by_cases hx : x.kind = 2
   ·by_cases hy : y.kind = 2
    ·simp [h 0 x y rfl rfl hx hy]
    ·simp [hy]
   ·simp [hx]
theorem thereS_good : ∀ {l : List Stp},(∀ (k : Nat) (a b : Stp),l[k]? = some a → l[k + 1]? = some b → a.kind = 3 → ¬ b.kind = 3) → thereS l = true:=by
 intro l
 induction l with
 | nil=>intro _;rfl
 | cons x r ih=>
  intro h
  cases r with
  | nil=>rfl
  | cons y q=>
   simp only [thereS,Bool.and_eq_true]
   refine ⟨?_,ih (fun k a b h1 h2=>h (k + 1) a b (by simpa using h1) (by simpa using h2))⟩
   by_cases hx : x.kind = 3
   ·simp [h 0 x y rfl rfl hx]
   ·simp [hx]
theorem check_bound {l : List Stp} (h : 4096 < nodesS l ∨ 32 < deepS l) : checkS l = 17:=by unfold checkS;rw [if_pos h]
theorem check_name {l : List Stp} (h0 : ¬ (4096 < nodesS l ∨ 32 < deepS l)) {k : Nat} {x : Stp} (hx : l[k]? = some x) (h1 : x.kind ≤ 2) (h2 : nameL x.name = false) : checkS l = 11:=by
 unfold checkS;rw [if_neg h0,if_pos (List.any_eq_true.2 ⟨x,List.mem_of_getElem? hx,by simp [h1,h2]⟩)]
theorem names_any {l : List Stp} (h : namesOKS l) : ¬ l.any (fun x=>decide (x.kind ≤ 2) && !nameL x.name) = true:=by
 intro e
 obtain ⟨x,hx,h1⟩:=List.any_eq_true.1 e
 simp only [Bool.and_eq_true,decide_eq_true_eq,Bool.not_eq_true'] at h1
 exact h x hx h1
theorem texts_any {l : List Stp} (h : textsOK l) : ¬ l.any (fun x=>!wholeB x.text) = true:=by
 intro e
 obtain ⟨x,hx,h1⟩:=List.any_eq_true.1 e
 rw [h x hx] at h1
 cases h1
theorem empty_any {l : List Stp} (h : emptyOK l) : ¬ l.any (fun x=>decide (x.kind = 3) && decide (x.text = [])) = true:=by
 intro e
 obtain ⟨x,hx,h1⟩:=List.any_eq_true.1 e
 simp only [Bool.and_eq_true,decide_eq_true_eq] at h1
 exact h x hx h1
theorem check_text {l : List Stp} (h0 : ¬ (4096 < nodesS l ∨ 32 < deepS l)) (h1 : namesOKS l) {k : Nat} {x : Stp} (hx : l[k]? = some x) (h2 : wholeB x.text = false) : checkS l = 10:=by
 unfold checkS;rw [if_neg h0,if_neg (names_any h1),if_pos (List.any_eq_true.2 ⟨x,List.mem_of_getElem? hx,by simp [h2]⟩)]
theorem check_empty {l : List Stp} (h0 : ¬ (4096 < nodesS l ∨ 32 < deepS l)) (h1 : namesOKS l) (h2 : textsOK l) {k : Nat} {x : Stp} (hx : l[k]? = some x) (h3 : x.kind = 3) (h4 : x.text = []) : checkS l = 18:=by
 unfold checkS;rw [if_neg h0,if_neg (names_any h1),if_neg (texts_any h2),if_pos (List.any_eq_true.2 ⟨x,List.mem_of_getElem? hx,by simp [h3,h4]⟩)]
theorem check_order {l : List Stp} (h0 : ¬ (4096 < nodesS l ∨ 32 < deepS l)) (h1 : namesOKS l) (h2 : textsOK l) (h3 : emptyOK l) (h4 : orderS l = false) : checkS l = 14:=by
 unfold checkS;rw [if_neg h0,if_neg (names_any h1),if_neg (texts_any h2),if_neg (empty_any h3),if_pos h4]
theorem check_there {l : List Stp} (h0 : ¬ (4096 < nodesS l ∨ 32 < deepS l)) (h1 : namesOKS l) (h2 : textsOK l) (h3 : emptyOK l) (h4 : orderS l = true) (h5 : thereS l = false) : checkS l = 15:=by
 unfold checkS;rw [if_neg h0,if_neg (names_any h1),if_neg (texts_any h2),if_neg (empty_any h3),if_neg (by rw [h4];simp),if_pos h5]
theorem check_ok {l : List Stp} (h0 : ¬ (4096 < nodesS l ∨ 32 < deepS l)) (h1 : namesOKS l) (h2 : textsOK l) (h3 : emptyOK l) (h4 : orderS l = true) (h5 : thereS l = true) : checkS l = 0:=by
 unfold checkS;rw [if_neg h0,if_neg (names_any h1),if_neg (texts_any h2),if_neg (empty_any h3),if_neg (by rw [h4];simp),if_neg (by rw [h5];simp)]
set_option maxHeartbeats 8000000 in
set_option maxRecDepth 20000 in
theorem checkR_any (l : List Stp) (v : Value) (w : World) (hv : AtRow w v l.length 3 (stepCells l)) (hl : l.length ≤ 1000000) (hs : ∀ x ∈ l,x.name.length ≤ 1000000 ∧ x.text.length ≤ 1000000)
  (HIS0 : ∀ (s : List UInt8) (W : World),s.length ≤ 1000000 → Below w.heap.size w W → Calls Tryz.prog 37 #[.string ⟨s.toArray⟩] W fun e w'=>e = .returned (.bool (nameL s)) ∧ Below W.heap.size W w')
  (HCH0 : ∀ (s : List UInt8) (W : World),s.length ≤ 1000000 → Below w.heap.size w W → Calls Tryz.prog 38 #[.string ⟨s.toArray⟩] W fun e w'=>e = .returned (.bool (wholeB s)) ∧ Below W.heap.size W w') :
  Calls Tryz.prog 15 #[v] w fun e w'=>e = .returned (.int .i64 (checkS l)) ∧ Below w.heap.size w w':=by
 have HCN:=Lib.hid (count_any l v w hv hl)
 obtain ⟨a,c,g,off,rfl,ha,hc⟩:=step_at hv
 obtain ⟨n,hn⟩ : ∃ n,l.length = n:=⟨_,rfl⟩
 rw [hn] at ha hl HCN ⊢
 have HA:=Lib.hid ha
 have HC:=Lib.hid hc
 have HN:=Lib.hid hn
 have HSZ:=Lib.hid hs
 have HIS:=Lib.hid HIS0
 have HCH:=Lib.hid HCH0
 clear hv ha hc hn hs HIS0 HCH0
 obtain ⟨P,hP⟩ : ∃ P,nodesS l = P:=⟨_,rfl⟩
 obtain ⟨D,hD⟩ : ∃ D,deepS l = D:=⟨_,rfl⟩
 rw [hP,hD] at HCN
 go_enter Tryz.func15,Tryz.ntmps15
 go_wp2_with fail
 refine HCN.out.mono ?_
 rintro e w1 ⟨rfl,hb1⟩
 have HB1:=Lib.hid hb1
 clear hb1
 by_cases h0 : 4096 < P ∨ 32 < D
 ·have HE : Hid (checkS l = 17):=Lib.hid (check_bound (by rw [hP,hD];exact h0))
  clear hP hD
  by_cases h1 : 4096 < P
  ·clear h0
   go_wp2
   go_ret
   exact ⟨by rw [HE.out];rfl,HB1.out⟩
  ·have h2 : 32 < D:=by omega
   have h3 : decide (4096 < P) = false:=by simp;omega
   clear h0 h1
   go_wp2
   go_ret
   exact ⟨by rw [HE.out];rfl,HB1.out⟩
 have HP : Hid (¬ (4096 < nodesS l ∨ 32 < deepS l)):=Lib.hid (by rw [hP,hD];exact h0)
 have h1 : decide (4096 < P) = false:=by simp;omega
 have h2 : decide (32 < D) = false:=by simp;omega
 clear hP hD h0
 go_wp2_with fail
 go_loopw [5] (fun i wr=>∃ k : Nat,k ≤ n ∧ i = .int .i64 k ∧ Hid (namesOKS (l.take k)) ∧ Hid (Below w.heap.size w wr)) (fun i _=>n - (intOf i).toNat)
 case atStart=>exact ⟨0,by omega,rfl,Lib.hid (fun x hx=>by cases hx),HB1⟩
 case round=>
  obtain ⟨k,hk,rfl,HG,HB⟩:=hrel
  by_cases hlt : k < n
  ·obtain rfl:=HA.out (by omega)
   obtain ⟨⟨q0,q1,q2⟩,hq⟩ : ∃ b,l[k]? = some b:=⟨_,List.getElem?_eq_getElem (by rw [HN.out];omega)⟩
   obtain ⟨r1,r2,r3⟩:=HC.out k _ hq
   obtain ⟨z1,z2⟩:=HSZ.out _ (List.mem_of_getElem? hq)
   simp only at r1 r2 r3 z1 z2
   have up : ∀ {p : Addr} {u : Value},w.cell? p = some u → wr.cell? p = some u:=fun h=>(HB.out.cell (block_lt_of_cell h)).trans h
   have s1:=up r1
   have s2:=up r2
   have s3:=up r3
   have hi0 : (0 : Int) ≤ k:=by omega
   have hi1 : (k : Int) < n:=by omega
   have HQ:=Lib.hid hq
   clear r1 r2 r3 up hq
   by_cases h3 : q0 ≤ 2
   ·have HIX : Hid (∀ W,Below w.heap.size w W → Calls Tryz.prog 37 #[.string ⟨q1.toArray⟩] W fun e w'=>e = .returned (.bool (nameL q1)) ∧ Below w.heap.size w w'):=Lib.hid (fun W hb=>(HIS.out q1 W z1 hb).mono (fun e w' r=>⟨r.1,th hb (Nat.le_refl _) r.2⟩))
    cases hnm : nameL q1 with
    | true=>
     rw [hnm] at HIX
     have HGN : Hid (namesOKS (l.take (k + 1))):=Lib.hid (by
      rw [List.take_add_one,HQ.out]
      intro x hx
      rcases List.mem_append.1 hx with hx | hx
      ·exact HG.out x hx
      ·obtain rfl : x = ⟨q0,q1,q2⟩:=by simpa using hx
       rintro ⟨_,h9⟩;simp only at h9;rw [hnm] at h9;cases h9)
     clear hnm
     go_wp2_with fail
     refine (HIX.out _ HB.out).mono ?_
     rintro e w5 ⟨rfl,hb5⟩
     have HBN:=Lib.hid hb5
     clear hb5
     go_wp2
     exact ⟨⟨k + 1,by omega,by go_num,HGN,HBN⟩,by simp [intOf];omega⟩
    | false=>
     rw [hnm] at HIX
     have HE : Hid (checkS l = 11):=Lib.hid (check_name HP.out HQ.out h3 hnm)
     clear hnm
     go_wp2_with fail
     refine (HIX.out _ HB.out).mono ?_
     rintro e w5 ⟨rfl,hb5⟩
     have HBN:=Lib.hid hb5
     clear hb5
     go_wp2
     go_ret
     exact ⟨by rw [HE.out];rfl,HBN.out⟩
   ·have h4 : decide (q0 ≤ 2) = false:=by simp;omega
    have HGN : Hid (namesOKS (l.take (k + 1))):=Lib.hid (by
     rw [List.take_add_one,HQ.out]
     intro x hx
     rcases List.mem_append.1 hx with hx | hx
     ·exact HG.out x hx
     ·obtain rfl : x = ⟨q0,q1,q2⟩:=by simpa using hx
      rintro ⟨h9,_⟩;exact h3 h9)
    have HBN:=HB
    clear h3
    go_wp2
    exact ⟨⟨k + 1,by omega,by go_num,HGN,HBN⟩,by simp [intOf];omega⟩
  ·obtain rfl : n = k:=by omega
   have HG1 : Hid (namesOKS l):=Lib.hid (by have h9:=HG.out;rwa [List.take_of_length_le (by rw [HN.out];omega)] at h9)
   have HBA:=HB
   clear HG HB
   go_wp2_with fail
   go_loopw [6] (fun i wr=>∃ k : Nat,k ≤ n ∧ i = .int .i64 k ∧ Hid (textsOK (l.take k)) ∧ Hid (Below w.heap.size w wr)) (fun i _=>n - (intOf i).toNat)
   case atStart=>exact ⟨0,by omega,rfl,Lib.hid (fun x hx=>by cases hx),(HBA)⟩
   case round=>
    obtain ⟨k,hk,rfl,HG,HB⟩:=hrel
    by_cases hlt : k < n
    ·obtain rfl:=HA.out (by omega)
     obtain ⟨⟨q0,q1,q2⟩,hq⟩ : ∃ b,l[k]? = some b:=⟨_,List.getElem?_eq_getElem (by rw [HN.out];omega)⟩
     obtain ⟨r1,r2,r3⟩:=HC.out k _ hq
     obtain ⟨z1,z2⟩:=HSZ.out _ (List.mem_of_getElem? hq)
     simp only at r1 r2 r3 z1 z2
     have up : ∀ {p : Addr} {u : Value},w.cell? p = some u → wr.cell? p = some u:=fun h=>(HB.out.cell (block_lt_of_cell h)).trans h
     have s1:=up r1
     have s2:=up r2
     have s3:=up r3
     have hi0 : (0 : Int) ≤ k:=by omega
     have hi1 : (k : Int) < n:=by omega
     have HQ:=Lib.hid hq
     clear r1 r2 r3 up hq
     have HIX : Hid (∀ W,Below w.heap.size w W → Calls Tryz.prog 38 #[.string ⟨q2.toArray⟩] W fun e w'=>e = .returned (.bool (wholeB q2)) ∧ Below w.heap.size w w'):=Lib.hid (fun W hb=>(HCH.out q2 W z2 hb).mono (fun e w' r=>⟨r.1,th hb (Nat.le_refl _) r.2⟩))
     cases hnm : wholeB q2 with
     | true=>
      rw [hnm] at HIX
      have HGN : Hid (textsOK (l.take (k + 1))):=Lib.hid (by
       rw [List.take_add_one,HQ.out]
       intro x hx
       rcases List.mem_append.1 hx with hx | hx
       ·exact HG.out x hx
       ·obtain rfl : x = ⟨q0,q1,q2⟩:=by simpa using hx
        exact hnm)
      clear hnm
      go_wp2_with fail
      refine (HIX.out _ HB.out).mono ?_
      rintro e w5 ⟨rfl,hb5⟩
      have HBN:=Lib.hid hb5
      clear hb5
      go_wp2
      exact ⟨⟨k + 1,by omega,by go_num,HGN,HBN⟩,by simp [intOf];omega⟩
     | false=>
      rw [hnm] at HIX
      have HE : Hid (checkS l = 10):=Lib.hid (check_text HP.out HG1.out HQ.out hnm)
      clear hnm
      go_wp2_with fail
      refine (HIX.out _ HB.out).mono ?_
      rintro e w5 ⟨rfl,hb5⟩
      have HBN:=Lib.hid hb5
      clear hb5
      go_wp2
      go_ret
      exact ⟨by rw [HE.out];rfl,HBN.out⟩
    ·obtain rfl : n = k:=by omega
     have HG2 : Hid (textsOK l):=Lib.hid (by have h9:=HG.out;rwa [List.take_of_length_le (by rw [HN.out];omega)] at h9)
     have HBA:=HB
     clear HG HB
     go_wp2_with fail
     go_loopw [7] (fun i wr=>∃ k : Nat,k ≤ n ∧ i = .int .i64 k ∧ Hid (emptyOK (l.take k)) ∧ Hid (Below w.heap.size w wr)) (fun i _=>n - (intOf i).toNat)
     case atStart=>exact ⟨0,by omega,rfl,Lib.hid (fun x hx=>by cases hx),(HBA)⟩
     case round=>
      obtain ⟨k,hk,rfl,HG,HB⟩:=hrel
      by_cases hlt : k < n
      ·obtain rfl:=HA.out (by omega)
       obtain ⟨⟨q0,q1,q2⟩,hq⟩ : ∃ b,l[k]? = some b:=⟨_,List.getElem?_eq_getElem (by rw [HN.out];omega)⟩
       obtain ⟨r1,r2,r3⟩:=HC.out k _ hq
       obtain ⟨z1,z2⟩:=HSZ.out _ (List.mem_of_getElem? hq)
       simp only at r1 r2 r3 z1 z2
       have up : ∀ {p : Addr} {u : Value},w.cell? p = some u → wr.cell? p = some u:=fun h=>(HB.out.cell (block_lt_of_cell h)).trans h
       have s1:=up r1
       have s2:=up r2
       have s3:=up r3
       have hi0 : (0 : Int) ≤ k:=by omega
       have hi1 : (k : Int) < n:=by omega
       have HQ:=Lib.hid hq
       clear r1 r2 r3 up hq
       obtain ⟨tb,htb⟩ : ∃ y : ByteArray,y = ⟨q2.toArray⟩:=⟨_,rfl⟩
       have htl : tb.toList.isEmpty = decide (q2 = []):=by
        have : tb.toList = q2:=by rw [ByteArray.toList_eq,htb]
        rw [this];cases q2 <;> simp
       rw [← htb] at s3
       clear htb
       have HBN:=HB
       by_cases h3 : q0 = 3
       ·subst h3
        by_cases h4 : q2 = []
        ·have h5 : tb.toList.isEmpty = true:=by rw [htl];simp [h4]
         have HE : Hid (checkS l = 18):=Lib.hid (check_empty HP.out HG1.out HG2.out HQ.out rfl h4)
         clear htl h4
         go_wp2
         go_ret
         exact ⟨by rw [HE.out];rfl,HBN.out⟩
        ·have h5 : tb.toList.isEmpty = false:=by rw [htl];simp [h4]
         have HGN : Hid (emptyOK (l.take (k + 1))):=Lib.hid (by
          rw [List.take_add_one,HQ.out]
          intro x hx
          rcases List.mem_append.1 hx with hx | hx
          ·exact HG.out x hx
          ·obtain rfl : x = ⟨3,q1,q2⟩:=by simpa using hx
           rintro ⟨_,h9⟩;exact h4 h9)
         clear htl h4
         go_wp2
         exact ⟨⟨k + 1,by omega,by go_num,HGN,HBN⟩,by simp [intOf];omega⟩
       ·have h5 : (q0 == 3) = false:=beq_eq_false_iff_ne.2 h3
        have HGN : Hid (emptyOK (l.take (k + 1))):=Lib.hid (by
         rw [List.take_add_one,HQ.out]
         intro x hx
         rcases List.mem_append.1 hx with hx | hx
         ·exact HG.out x hx
         ·obtain rfl : x = ⟨q0,q1,q2⟩:=by simpa using hx
          rintro ⟨h9,_⟩;exact h3 h9)
        clear htl h3
        go_wp2
        exact ⟨⟨k + 1,by omega,by go_num,HGN,HBN⟩,by simp [intOf];omega⟩
      ·obtain rfl : n = k:=by omega
       have HG3 : Hid (emptyOK l):=Lib.hid (by have h9:=HG.out;rwa [List.take_of_length_le (by rw [HN.out];omega)] at h9)
       have HBA:=HB
       clear HG HB
       go_wp2_with fail
       go_loopw [8] (fun i wr=>∃ k : Nat,i = .int .i64 k ∧ 1 ≤ k ∧ (k ≤ n ∨ k = 1) ∧ Hid (∀ (m : Nat) (a b : Stp),m + 1 < k → l[m]? = some a → l[m + 1]? = some b → a.kind = 2 → b.kind = 2 → ltB a.name b.name = true) ∧ Hid (Below w.heap.size w wr)) (fun i _=>n - (intOf i).toNat)
       case atStart=>exact ⟨1,rfl,by omega,.inr rfl,Lib.hid (fun m a b hm=>absurd hm (by omega)),HBA⟩
       case round=>
        obtain ⟨k,rfl,hk1,hk2,HG,HB⟩:=hrel
        by_cases hlt : k < n
        ·obtain ⟨j,rfl⟩ : ∃ j,k = j + 1:=⟨k - 1,by omega⟩
         obtain rfl:=HA.out (by omega)
         obtain ⟨⟨q0,q1,q2⟩,hq⟩ : ∃ b,l[j + 1]? = some b:=⟨_,List.getElem?_eq_getElem (by rw [HN.out];omega)⟩
         obtain ⟨⟨p0,p1,p2⟩,hp⟩ : ∃ b,l[j]? = some b:=⟨_,List.getElem?_eq_getElem (by rw [HN.out];omega)⟩
         obtain ⟨r1,r2,_⟩:=HC.out _ _ hq
         obtain ⟨r3,r4,_⟩:=HC.out _ _ hp
         simp only at r1 r2 r3 r4
         have up : ∀ {p : Addr} {u : Value},w.cell? p = some u → wr.cell? p = some u:=fun h=>(HB.out.cell (block_lt_of_cell h)).trans h
         have s1:=up r1
         have s2:=up r2
         have s3:=up r3
         have s4:=up r4
         obtain ⟨k,hkj⟩ : ∃ k,k = j + 1:=⟨_,rfl⟩
         rw [← hkj] at s1 s2 hlt
         have hi0 : (0 : Int) ≤ (k : Int):=by omega
         have hi1 : (k : Int) < n:=by omega
         have hj1 : (k : Int) - 1 = (j : Int):=by omega
         have hj2 : IntKind.i64.wrap ((k : Int) - 1) = (j : Int):=by rw [hj1];exact wrap_small _ (by omega) (by omega)
         have hj5 : IntKind.i64.wrap (j : Int) = (j : Int):=wrap_small _ (by omega) (by omega)
         have hj3 : (0 : Int) ≤ (j : Int):=by omega
         have hj4 : (j : Int) < n:=by omega
         have HQ:=Lib.hid hq
         have HPP:=Lib.hid hp
         have HKJ:=Lib.hid hkj
         rw [← hkj]
         clear r1 r2 r3 r4 up hq hp hk2
         clear hkj
         by_cases h3 : q0 = 2
         ·subst h3
          by_cases h4 : p0 = 2
          ·subst h4
           have hle:=less_ltB q1 p1
           cases hlt2 : ltB p1 q1 with
           | true=>
            have h5 : Op.bytesLess q1 p1 = false:=by rw [hle];exact ltB_asymm hlt2
            have h6 : (q1 == p1) = false:=by
             rw [beq_eq_false_iff_ne]
             rintro rfl
             rw [ltB_irrefl] at hlt2
             cases hlt2
            have HGN : Hid (∀ (m : Nat) (a b : Stp),m + 1 < k + 1 → l[m]? = some a → l[m + 1]? = some b → a.kind = 2 → b.kind = 2 → ltB a.name b.name = true):=Lib.hid (fun m a b hm h7 h8=>by
             by_cases hmj : m = j
             ·subst hmj
              rw [HPP.out] at h7
              rw [HQ.out] at h8
              injection h7 with h7
              injection h8 with h8
              subst h7 h8
              exact fun _ _=>hlt2
             ·exact HG.out m a b (by have:=HKJ.out;omega) h7 h8)
            clear hle hlt2
            go_wp2_with fail
            go_quiet (fail)
            go_wp2
            exact ⟨⟨k + 1,by go_num,by omega,.inl (by omega),HGN,Lib.hid (below_drewN HB.out _)⟩,by simp [intOf];omega⟩
           | false=>
            have HE : Hid (checkS l = 14):=Lib.hid (check_order HP.out HG1.out HG2.out HG3.out (orderS_bad HPP.out HQ.out rfl rfl hlt2))
            have h5 : (Op.bytesLess q1 p1 || q1 == p1) = true:=by rw [hle];exact ltB_total hlt2
            clear hle hlt2
            cases h6 : Op.bytesLess q1 p1 with
            | true=>
             clear h5
             go_wp2_with fail
             go_quiet (fail)
             go_wp2
             go_ret
             exact ⟨by rw [HE.out];rfl,below_drewN HB.out _⟩
            | false=>
             rw [h6] at h5
             have h7 : (q1 == p1) = true:=by simpa using h5
             clear h5
             go_wp2_with fail
             go_quiet (fail)
             go_wp2
             go_ret
             exact ⟨by rw [HE.out];rfl,below_drewN HB.out _⟩
          ·have h5 : (p0 == 2) = false:=beq_eq_false_iff_ne.2 h4
           have HGN : Hid (∀ (m : Nat) (a b : Stp),m + 1 < k + 1 → l[m]? = some a → l[m + 1]? = some b → a.kind = 2 → b.kind = 2 → ltB a.name b.name = true):=Lib.hid (fun m a b hm h7 h8=>by
            by_cases hmj : m = j
            ·subst hmj
             rw [HPP.out] at h7
             rw [HQ.out] at h8
             injection h7 with h7
             injection h8 with h8
             subst h7 h8
             exact fun h9=>absurd h9 h4
            ·exact HG.out m a b (by have:=HKJ.out;omega) h7 h8)
           clear h4
           go_wp2_with fail
           go_quiet (fail)
           go_wp2
           exact ⟨⟨k + 1,by go_num,by omega,.inl (by omega),HGN,Lib.hid (below_drewN HB.out _)⟩,by simp [intOf];omega⟩
         ·have h5 : (q0 == 2) = false:=beq_eq_false_iff_ne.2 h3
          have HGN : Hid (∀ (m : Nat) (a b : Stp),m + 1 < k + 1 → l[m]? = some a → l[m + 1]? = some b → a.kind = 2 → b.kind = 2 → ltB a.name b.name = true):=Lib.hid (fun m a b hm h7 h8=>by
           by_cases hmj : m = j
           ·subst hmj
            rw [HPP.out] at h7
            rw [HQ.out] at h8
            injection h7 with h7
            injection h8 with h8
            subst h7 h8
            exact fun _ h9=>absurd h9 h3
           ·exact HG.out m a b (by have:=HKJ.out;omega) h7 h8)
          clear h3
          go_wp2_with fail
          go_quiet (fail)
          go_wp2
          exact ⟨⟨k + 1,by go_num,by omega,.inl (by omega),HGN,Lib.hid (below_drewN HB.out _)⟩,by simp [intOf];omega⟩
        ·have HG4 : Hid (orderS l = true):=Lib.hid (orderS_good (fun m a b h7 h8=>HG.out m a b (by have:=(List.getElem?_eq_some_iff.1 h8).1;rw [HN.out] at this;omega) h7 h8))
         have hkn : decide ((k : Int) < (n : Int)) = false:=by simp;omega
         have hkm : decide (k < n) = false:=by simp;omega
         have HBA:=HB
         clear HG HB
         go_wp2_with fail
         go_loopw [9] (fun i wr=>∃ k : Nat,i = .int .i64 k ∧ 1 ≤ k ∧ (k ≤ n ∨ k = 1) ∧ Hid (∀ (m : Nat) (a b : Stp),m + 1 < k → l[m]? = some a → l[m + 1]? = some b → a.kind = 3 → ¬ b.kind = 3) ∧ Hid (Below w.heap.size w wr)) (fun i _=>n - (intOf i).toNat)
         case atStart=>exact ⟨1,rfl,by omega,.inr rfl,Lib.hid (fun m a b hm=>absurd hm (by omega)),HBA⟩
         case round=>
          obtain ⟨k,rfl,hk1,hk2,HG,HB⟩:=hrel
          by_cases hlt : k < n
          ·obtain ⟨j,rfl⟩ : ∃ j,k = j + 1:=⟨k - 1,by omega⟩
           obtain rfl:=HA.out (by omega)
           obtain ⟨⟨q0,q1,q2⟩,hq⟩ : ∃ b,l[j + 1]? = some b:=⟨_,List.getElem?_eq_getElem (by rw [HN.out];omega)⟩
           obtain ⟨⟨p0,p1,p2⟩,hp⟩ : ∃ b,l[j]? = some b:=⟨_,List.getElem?_eq_getElem (by rw [HN.out];omega)⟩
           obtain ⟨r1,r2,_⟩:=HC.out _ _ hq
           obtain ⟨r3,r4,_⟩:=HC.out _ _ hp
           simp only at r1 r2 r3 r4
           have up : ∀ {p : Addr} {u : Value},w.cell? p = some u → wr.cell? p = some u:=fun h=>(HB.out.cell (block_lt_of_cell h)).trans h
           have s1:=up r1
           have s2:=up r2
           have s3:=up r3
           have s4:=up r4
           obtain ⟨k,hkj⟩ : ∃ k,k = j + 1:=⟨_,rfl⟩
           rw [← hkj] at s1 s2 hlt
           have hi0 : (0 : Int) ≤ (k : Int):=by omega
           have hi1 : (k : Int) < n:=by omega
           have hj1 : (k : Int) - 1 = (j : Int):=by omega
           have hj2 : IntKind.i64.wrap ((k : Int) - 1) = (j : Int):=by rw [hj1];exact wrap_small _ (by omega) (by omega)
           have hj5 : IntKind.i64.wrap (j : Int) = (j : Int):=wrap_small _ (by omega) (by omega)
           have hj3 : (0 : Int) ≤ (j : Int):=by omega
           have hj4 : (j : Int) < n:=by omega
           have HQ:=Lib.hid hq
           have HPP:=Lib.hid hp
           have HKJ:=Lib.hid hkj
           rw [← hkj]
           clear r1 r2 r3 r4 up hq hp hk2
           clear hkj
           by_cases h3 : q0 = 3
           ·subst h3
            by_cases h4 : p0 = 3
            ·subst h4
             have HE : Hid (checkS l = 15):=Lib.hid (check_there HP.out HG1.out HG2.out HG3.out HG4.out (thereS_bad HPP.out HQ.out rfl rfl))
             go_wp2_with fail
             go_wp2
             go_ret
             exact ⟨by rw [HE.out];rfl,HB.out⟩
            ·have h5 : (p0 == 3) = false:=beq_eq_false_iff_ne.2 h4
             have HGN : Hid (∀ (m : Nat) (a b : Stp),m + 1 < k + 1 → l[m]? = some a → l[m + 1]? = some b → a.kind = 3 → ¬ b.kind = 3):=Lib.hid (fun m a b hm h7 h8=>by
              by_cases hmj : m = j
              ·subst hmj
               rw [HPP.out] at h7
               rw [HQ.out] at h8
               injection h7 with h7
               injection h8 with h8
               subst h7 h8
               exact fun h9=>absurd h9 h4
              ·exact HG.out m a b (by have:=HKJ.out;omega) h7 h8)
             clear h4
             go_wp2_with fail
             go_wp2
             exact ⟨⟨k + 1,by go_num,by omega,.inl (by omega),HGN,Lib.hid (HB.out)⟩,by simp [intOf];omega⟩
           ·have h5 : (q0 == 3) = false:=beq_eq_false_iff_ne.2 h3
            have HGN : Hid (∀ (m : Nat) (a b : Stp),m + 1 < k + 1 → l[m]? = some a → l[m + 1]? = some b → a.kind = 3 → ¬ b.kind = 3):=Lib.hid (fun m a b hm h7 h8=>by
             by_cases hmj : m = j
             ·subst hmj
              rw [HPP.out] at h7
              rw [HQ.out] at h8
              injection h7 with h7
              injection h8 with h8
              subst h7 h8
              exact fun _ h9=>h3 h9
             ·exact HG.out m a b (by have:=HKJ.out;omega) h7 h8)
            clear h3
            go_wp2_with fail
            go_wp2
            exact ⟨⟨k + 1,by go_num,by omega,.inl (by omega),HGN,Lib.hid (HB.out)⟩,by simp [intOf];omega⟩
          ·have HG5 : Hid (thereS l = true):=Lib.hid (thereS_good (fun m a b h7 h8=>HG.out m a b (by have:=(List.getElem?_eq_some_iff.1 h8).1;rw [HN.out] at this;omega) h7 h8))
           have hkn : decide ((k : Int) < (n : Int)) = false:=by simp;omega
           have hkm : decide (k < n) = false:=by simp;omega
           have HBA:=HB
           clear HG HB
           have HE : Hid (checkS l = 0):=Lib.hid (check_ok HP.out HG1.out HG2.out HG3.out HG4.out HG5.out)
           go_wp2
           go_ret
           exact ⟨by rw [HE.out];rfl,HBA.out⟩
open Go.RowKit
theorem infoStp : (Tryz.prog.info? 78).map (fun i=>(i.zero,i.size,i.bytes)) = some (some (.agg #[.int .i64 0,.string ⟨#[]⟩,.string ⟨#[]⟩]),3,40):=by kernel_rfl
theorem cell_three_new (w : World) (a b c : Value) (t : TypeId) : ∀ j u,[a,b,c][j]? = some u → (w.alloc (.cells #[a,b,c] t)).cell? ((⟨w.heap.size,0,none⟩ : Addr).add j) = some u:=by
 intro j u hj
 match j,hj with
 | 0,hj=>simp at hj;subst hj;simp [Addr.add]
 | 1,hj=>simp at hj;subst hj;simp [Addr.add]
 | 2,hj=>simp at hj;subst hj;simp [Addr.add]
theorem own_three (w : World) (a b c : Value) (t : TypeId) (base : Nat) (hb : base ≤ w.heap.size) : (w.alloc (.cells #[a,b,c] t)).ownsRow base t 3 (.slice (some ⟨w.heap.size,0,none⟩) 1 1) 1 [a,b,c]:=
 ⟨rfl,.inr ⟨w.heap.size,1,#[a,b,c],rfl,hb,heap_alloc_new w _,Nat.le_refl _,by unfold maxLen;omega,rfl,rfl⟩⟩
theorem own_news {w : World} {base n size : Nat} {e : TypeId} {a : Option Addr} {c : Nat} {xs : List Value} (h : w.ownsRow base e size (.slice a n c) n xs) (h0 : 0 < n) : ∃ g,a = some ⟨g,0,none⟩ ∧ ∀ j u,xs[j]? = some u → w.cell? ((⟨g,0,none⟩ : Addr).add j) = some u:=by
 rcases h.2 with ⟨_,h1⟩ | ⟨g,cap,cur,hv,hr⟩
 ·omega
 ·injection hv with e1 e2 e3
  subst e1 e3
  exact ⟨g,rfl,fun j u hu=>h.cells rfl j u hu⟩
theorem own_mon {w : World} {base base' size n : Nat} {e : TypeId} {v : Value} {xs : List Value} (h : w.ownsRow base e size v n xs) (hb : base' ≤ base) : w.ownsRow base' e size v n xs:=by
 refine ⟨h.1,?_⟩
 rcases h.2 with h1 | ⟨g,cap,cur,h1,h2,h3⟩
 ·exact .inl h1
 ·exact .inr ⟨g,cap,cur,h1,Nat.le_trans hb h2,h3⟩
theorem one_steps (l : List Stp) : ∀ u ∈ stepCells l,u.oneCell' = true:=by
 intro u hu
 unfold stepCells at hu
 obtain ⟨s,_,hs⟩:=List.mem_flatMap.1 hu
 simp only [List.mem_cons,List.mem_nil_iff,or_false] at hs
 rcases hs with rfl | rfl | rfl <;> rfl
theorem stepsK_take {ks : List Tr} {k : Nat} {t : Tr} (h : ks[k]? = some t) : stepsK (ks.take (k + 1)) = stepsK (ks.take k) ++ stepsT t:=by
 rw [List.take_add_one,h]
 show stepsK (ks.take k ++ [t]) = _
 rw [stepsK_append,stepsK_one]
theorem stepsK_le (ks : List Tr) (k : Nat) : (stepsK (ks.take k)).length ≤ (stepsK ks).length:=by
 conv=>rhs;rw [← List.take_append_drop k ks]
 rw [stepsK_append,List.length_append];omega
theorem step_append_row {P : Program} {ops : Array Oper} {o : Oper} {a : Act} {w : World} {K : Act → World → Prop} {Q : Exit → Act → World → Prop} {E : Prop} (hg : o.guard = none) (s x : Operand) (t : TypeId)
  (ho : o.op = .call { callee:=.builtin .append,args:=#[s,x],argTypes:=#[t,t] })
  (base : Nat) (e : TypeId) (i : TypeInfo) (z : Value) (size bytes : Nat) (ht : P.underlying t = some (.slice e)) (hi : P.info? e = some i) (hz : i.zero = some z)
  (hsize : i.size = size) (hby : i.bytes = bytes) (hzs : z.cells.size = size) (hsz : 0 < size)
  (v : Value) (n : Nat) (xs : List Value) (hs : a.eval s = v) (hown : w.ownsRow base e size v n xs)
  (ad : Addr) (m c : Nat) (news : List Value) (hx : a.eval x = .slice (some ad) m c) (hl : news.length = m * size) (hnews : ∀ j u,news[j]? = some u → w.cell? (ad.add j) = some u) (h1 : ∀ u ∈ news,u.oneCell' = true)
  (h63 : n + m ≤ maxLen) (hbytes : (n + m) * bytes ≤ 140737488355328) (hbase : base ≤ w.heap.size)
  (h : ∀ v' w',w'.ownsRow base e size v' (n + m) (xs ++ news) → w.grownBy w' v.ownBlock → (v' = .slice none 0 0 ↔ v = .slice none 0 0 ∧ m = 0) → K (a.put o.dst v') w') :
  if Region.wanted o (yielded ops a.tmps) = true then Oper.wp P o a w K Q else E:=by
 have hw : Region.wanted o (yielded ops a.tmps) = true:=by simp [Region.wanted,hg]
 rw [if_pos hw]
 exact wp_append_own w s x t ho base e i z size bytes ht hi hz hsize hby hzs hsz v n xs hs hown ad m c news hx hl hnews h1 h63 hbytes hbase h
set_option maxHeartbeats 2000000 in
theorem stepsR_text (tx : List UInt8) (xs : List (List UInt8 × List UInt8)) (ks : List Tr) (va vk : Value) (w : World) :
  Calls Tryz.prog 17 #[.agg #[.string ⟨#[]⟩,.string ⟨tx.toArray⟩,va,vk]] w fun e w'=>StepsPost (stepsT (.node [] tx xs ks)) w e w':=by
 have HB1:=(Below.refl _ w).alloc (Nat.le_refl _) (.cells #[.string ⟨#[]⟩,.string ⟨tx.toArray⟩,va,vk] 27)
 obtain ⟨c0,c1,c2,c3⟩:=(Box4.made ⟨#[]⟩ ⟨tx.toArray⟩ va vk w).at
 have ho:=own_three (w.alloc (.cells #[.string ⟨#[]⟩,.string ⟨tx.toArray⟩,va,vk] 27)) (.int .i64 3) (.string ⟨#[]⟩) (.string ⟨tx.toArray⟩) 78 w.heap.size HB1.size
 rw [show (w.alloc (.cells #[.string ⟨#[]⟩,.string ⟨tx.toArray⟩,va,vk] 27)).heap.size = w.heap.size + 1 by simp] at ho
 have HO:=Lib.hid ho
 clear ho
 have HB2:=Lib.hid (al HB1 (Nat.le_refl _) (.cells #[.int .i64 3,.string ⟨#[]⟩,.string ⟨tx.toArray⟩] 78))
 clear HB1
 rw [show stepsT (.node [] tx xs ks) = [⟨3,[],tx⟩] from stepsT_text tx xs ks]
 go_enter Tryz.func17,Tryz.ntmps17
 go_wp2
 go_ret
 exact ⟨HB2.out,_,_,rfl,HO.out⟩
set_option maxHeartbeats 8000000 in
set_option maxRecDepth 20000 in
theorem stepsR_elem (lb tx : List UInt8) (hlb : lb ≠ []) (a d : Option Addr) (n1 c n2 e0 : Nat) (w : World) (xs : List (List UInt8 × List UInt8)) (g off : Nat) (hn : xs.length = n1) (ha : 0 < n1 → a = some ⟨g,off,none⟩)
  (hc : ∀ k b,xs[k]? = some b → w.cell? ⟨g,off + k * 2,none⟩ = some (.string ⟨b.1.toArray⟩) ∧ w.cell? ⟨g,off + k * 2 + 1,none⟩ = some (.string ⟨b.2.toArray⟩))
  (ks : List Tr) (gk ok : Nat) (hk : ks.length = n2) (hd : 0 < n2 → d = some ⟨gk,ok,none⟩)
  (hkc : ∀ (k : Nat) (l1 t1 : List UInt8) (al1 : List (List UInt8 × List UInt8)) (js1 : List Tr),ks[k]? = some (.node l1 t1 al1 js1) → ∃ va vk,w.cell? ⟨gk,ok + k * 4,none⟩ = some (.string ⟨l1.toArray⟩) ∧ w.cell? ⟨gk,ok + k * 4 + 1,none⟩ = some (.string ⟨t1.toArray⟩) ∧ w.cell? ⟨gk,ok + k * 4 + 2,none⟩ = some va ∧ w.cell? ⟨gk,ok + k * 4 + 3,none⟩ = some vk ∧ TreeV w (.node l1 t1 al1 js1) [.string ⟨l1.toArray⟩,.string ⟨t1.toArray⟩,va,vk])
  (IH : ∀ (k : Nat) (t : Tr),ks[k]? = some t → ∀ (hs : List Value) (W : World),TreeV W t hs → Calls Tryz.prog 17 #[.agg hs.toArray] W fun e w'=>StepsPost (stepsT t) W e w')
  (hN : n1 + (stepsK ks).length ≤ 1000000) (hl2 : n2 ≤ 1000000) :
  Calls Tryz.prog 17 #[.agg #[.string ⟨lb.toArray⟩,.string ⟨tx.toArray⟩,.slice a n1 c,.slice d n2 e0]] w fun e w'=>StepsPost (stepsT (.node lb tx xs ks)) w e w':=by
 obtain ⟨w1,hw1⟩ : ∃ w1,w1 = w.alloc (.cells #[.string ⟨lb.toArray⟩,.string ⟨tx.toArray⟩,.slice a n1 c,.slice d n2 e0] 27):=⟨_,rfl⟩
 have HB1 : Below w.heap.size w w1:=by rw [hw1];exact (Below.refl _ w).alloc (Nat.le_refl _) _
 have HK1 : Box4 w.heap.size ⟨lb.toArray⟩ ⟨tx.toArray⟩ (.slice a n1 c) (.slice d n2 e0) w1:=by rw [hw1];exact Box4.made _ _ _ _ _
 have hsz : w1.heap.size = w.heap.size + 1:=by rw [hw1];simp
 have ho:=own_three w1 (.int .i64 1) (.string ⟨lb.toArray⟩) (.string ⟨#[]⟩) 78 (w.heap.size + 1) (by omega)
 rw [hsz] at ho
 have HO0:=Lib.hid ho
 have HB0:=Lib.hid (al HB1 (Nat.le_refl _) (.cells #[.int .i64 1,.string ⟨lb.toArray⟩,.string ⟨#[]⟩] 78))
 have HK0:=Lib.hid (HK1.below ((Below.refl _ w1).alloc (Nat.le_refl _) (.cells #[.int .i64 1,.string ⟨lb.toArray⟩,.string ⟨#[]⟩] 78)) (Nat.le_refl _))
 obtain ⟨c0,c1,c3,c4⟩:=HK1.at
 have hbl : (⟨lb.toArray⟩ : ByteArray).toList.isEmpty = false:=by
  rw [ByteArray.toList_eq]
  cases lb with
  | nil=>exact absurd rfl hlb
  | cons x y=>rfl
 obtain ⟨lbb,hlbb⟩ : ∃ y : ByteArray,y = ⟨lb.toArray⟩:=⟨_,rfl⟩
 have HLB:=Lib.hid hlbb
 rw [← hlbb] at c0 hbl HO0 HB0 HK0
 have HST : Hid (stepsT (.node lb tx xs ks) = ⟨1,lb,[]⟩ :: (xs.map attrS ++ (stepsK ks ++ [⟨4,[],[]⟩]))):=Lib.hid (stepsT_elem tx xs ks hlb)
 have HA:=Lib.hid ha
 have HC:=Lib.hid hc
 have HN:=Lib.hid hn
 have HK:=Lib.hid hk
 have HD:=Lib.hid hd
 have HKC:=Lib.hid hkc
 have HIH:=Lib.hid IH
 rw [← hlbb]
 rw [← hlbb] at hw1
 subst hw1
 clear ho ha hc hn hk hd hkc IH hlb hlbb HB1 HK1 hsz
 obtain ⟨i0,hi,hz0,hz1,hz2⟩:=info_parts infoStp
 go_enter Tryz.func17,Tryz.ntmps17
 go_wp2_with fail
 clear c0 c1 c3 c4
 go_loopw [3,4] (fun v i wr=>∃ (k : Nat) (a5 : Option Addr) (c5 : Nat),k ≤ n1 ∧ i = .int .i64 k ∧ v = .slice a5 (1 + k) c5 ∧ Hid (wr.ownsRow (w.heap.size + 1) 78 3 (.slice a5 (1 + k) c5) (1 + k) (stepCells (⟨1,lb,[]⟩ :: (xs.take k).map attrS))) ∧ Hid (Box4 w.heap.size lbb ⟨tx.toArray⟩ (.slice a n1 c) (.slice d n2 e0) wr) ∧ Hid (Below w.heap.size w wr)) (fun _ i _=>n1 - (intOf i).toNat)
 case atStart=>exact ⟨0,_,_,by omega,rfl,rfl,Lib.hid (by have:=HO0.out;rw [HLB.out] at this ⊢;exact this),HK0,HB0⟩
 case round=>
  obtain ⟨k,a5,c5,hk,rfl,rfl,HO,HX,HB⟩:=hrel
  obtain ⟨x0,x1,x3,x4⟩:=HX.out.at
  by_cases hlt : k < n1
  ·obtain rfl:=HA.out (by omega)
   obtain ⟨⟨p1,p2⟩,hp⟩ : ∃ b,xs[k]? = some b:=⟨_,List.getElem?_eq_getElem (by rw [HN.out];omega)⟩
   obtain ⟨r1,r2⟩:=HC.out k _ hp
   simp only at r1 r2
   have up : ∀ {p : Addr} {u : Value},w.cell? p = some u → wr.cell? p = some u:=fun h=>(HB.out.cell (block_lt_of_cell h)).trans h
   have s1:=up r1
   have s2:=up r2
   have hi0 : (0 : Int) ≤ k:=by omega
   have hi1 : (k : Int) < n1:=by omega
   have HTK : Hid (stepCells (⟨1,lb,[]⟩ :: (xs.take (k + 1)).map attrS) = stepCells (⟨1,lb,[]⟩ :: (xs.take k).map attrS) ++ [.int .i64 2,.string ⟨p1.toArray⟩,.string ⟨p2.toArray⟩]):=Lib.hid (by
    rw [List.take_add_one,hp]
    show stepCells (⟨1,lb,[]⟩ :: (xs.take k ++ [(p1,p2)]).map attrS) = _
    rw [List.map_append,← List.cons_append,stepCells_append]
    rfl)
   have HBS:=HB.out.size
   clear r1 r2 up hp
   go_wp2_with fail
   go_region_law (refine step_append_row rfl (.tmp 24) (.tmp 38) 39 rfl (w.heap.size + 1) 78 i0 (.agg #[.int .i64 0,.string ⟨#[]⟩,.string ⟨#[]⟩]) 3 40 Tryz.underlying39 hi hz0 hz1 hz2 rfl (by decide) (.slice a5 (1 + k) c5) (1 + k) _ (by simp [Act.eval]) (HO.out.drew.alloc _) ⟨wr.heap.size,0,none⟩ 1 1 [.int .i64 2,.string ⟨p1.toArray⟩,.string ⟨p2.toArray⟩] (by simp [Act.eval]) rfl (cell_three_new _ _ _ _ _) (by simp [Value.oneCell']) (by unfold maxLen;omega) (by omega) (by have:=HX.out.lt;simp;omega) ?_;intro v3 w3 hown3 hgrow3 _)
   all_goals (
    obtain ⟨a6,c6,rfl⟩:=own_sl hown3
    have hbl9 : Below wr.heap.size wr (wr.drew.alloc (.cells #[.int .i64 2,.string ⟨p1.toArray⟩,.string ⟨p2.toArray⟩] 78)):=((Below.refl _ wr).drew).alloc (Nat.le_refl _) _
    have HX3 : Hid (Box4 w.heap.size lbb ⟨tx.toArray⟩ (.slice (some ⟨g,off,none⟩) n1 c) (.slice d n2 e0) w3):=Lib.hid (by
     have h8:=HX.out.below hbl9 (Nat.le_refl _)
     exact (hgrow3.block _ h8.lt (fun e=>by have:=(HO.out.lt _ e.symm).1;omega)).trans h8)
    have HB3 : Hid (Below w.heap.size w w3):=Lib.hid ((th HB.out (Nat.le_refl _) hbl9).grown hgrow3 (by have:=HB.out.size;simp;omega) (fun k e=>by have:=(HO.out.lt k e).1;omega))
    (try go_wp2)
    exact ⟨⟨k + 1,a6,c6,by omega,by go_num,rfl,Lib.hid (by rw [HTK.out];exact hown3),HX3,HB3⟩,by simp [intOf];omega⟩)
  ·obtain rfl : n1 = k:=by omega
   have HOA : Hid (wr.ownsRow (w.heap.size + 1) 78 3 (.slice a5 (1 + n1) c5) (1 + n1) (stepCells (⟨1,lb,[]⟩ :: xs.map attrS))):=Lib.hid (by have h9:=HO.out;rwa [List.take_of_length_le (by rw [HN.out];omega)] at h9)
   have HXA:=HX
   have HBA:=HB
   clear HO HX HB
   go_wp2_with fail
   clear x0 x1 x3 x4
   go_loopw [3,5] (fun v i wr=>∃ (k m : Nat) (a5 : Option Addr) (c5 : Nat),k ≤ n2 ∧ i = .int .i64 k ∧ v = .slice a5 m c5 ∧ Hid (m = 1 + n1 + (stepsK (ks.take k)).length) ∧ Hid (wr.ownsRow (w.heap.size + 1) 78 3 (.slice a5 m c5) m (stepCells (⟨1,lb,[]⟩ :: (xs.map attrS ++ stepsK (ks.take k))))) ∧ Hid (Box4 w.heap.size lbb ⟨tx.toArray⟩ (.slice a n1 c) (.slice d n2 e0) wr) ∧ Hid (Below w.heap.size w wr)) (fun _ i _=>n2 - (intOf i).toNat)
   case atStart=>exact ⟨0,1 + n1,a5,c5,by omega,rfl,rfl,Lib.hid (by simp [stepsK]),Lib.hid (by have h9:=HOA.out;simpa [stepsK] using h9),HXA,HBA⟩
   case round=>
    obtain ⟨k,m,a5,c5,hk,rfl,rfl,HM,HO,HX,HB⟩:=hrel
    obtain ⟨x0,x1,x3,x4⟩:=HX.out.at
    have hm5 : m ≤ 1000001:=by have h9:=HM.out;have h8:=stepsK_le ks k;omega
    by_cases hlt : k < n2
    ·obtain rfl:=HD.out (by omega)
     obtain ⟨⟨l1,t1,al1,js1⟩,hp⟩ : ∃ b,ks[k]? = some b:=⟨_,List.getElem?_eq_getElem (by rw [HK.out];omega)⟩
     obtain ⟨va,vk,r1,r2,r3,r4,r5⟩:=HKC.out k _ _ _ _ hp
     have up : ∀ {p : Addr} {u : Value},w.cell? p = some u → wr.cell? p = some u:=fun h=>(HB.out.cell (block_lt_of_cell h)).trans h
     have s1:=up r1
     have s2:=up r2
     have s3:=up r3
     have s4:=up r4
     have hi0 : (0 : Int) ≤ k:=by omega
     have hi1 : (k : Int) < n2:=by omega
     have HCL : Hid (∀ W,Below w.heap.size w W → Calls Tryz.prog 17 #[.agg #[.string ⟨l1.toArray⟩,.string ⟨t1.toArray⟩,va,vk]] W fun e w'=>StepsPost (stepsT (.node l1 t1 al1 js1)) W e w'):=Lib.hid (fun W hb=>HIH.out k _ hp _ W (r5.below hb (Nat.le_refl _)))
     have HTK:=Lib.hid (stepsK_take hp)
     have hL1 : 0 < (stepsT (.node l1 t1 al1 js1)).length:=List.length_pos_iff.2 (steps_ne _)
     have hL2 : m + (stepsT (.node l1 t1 al1 js1)).length ≤ 1000001:=by
      have h9:=HM.out
      have h8:=stepsK_le ks (k + 1)
      rw [HTK.out,List.length_append] at h8
      omega
     clear r1 r2 r3 r4 r5 up hp
     generalize stepsT (.node l1 t1 al1 js1) = L at HCL HTK hL1 hL2
     go_wp2_with fail
     refine (HCL.out _ HB.out).mono ?_
     rintro e w3 ⟨hb3,a7,c7,rfl,hown7⟩
     obtain ⟨g7,rfl,hnews⟩:=own_news hown7 hL1
     have HO3:=Lib.hid (own_bel HO.out hb3)
     have HX3:=Lib.hid (HX.out.below hb3 (Nat.le_refl _))
     have HB3:=Lib.hid (th HB.out (Nat.le_refl _) hb3)
     have HNW:=Lib.hid hnews
     have HXL:=Lib.hid HX3.out.lt
     clear hb3 hown7 hnews s1 s2 s3 s4 x0 x1 x3 x4
     go_wp2_with (at_builtin;refine wpList_append_own _ rfl _ _ 39 rfl (w.heap.size + 1) 78 i0 (.agg #[.int .i64 0,.string ⟨#[]⟩,.string ⟨#[]⟩]) 3 40 Tryz.underlying39 hi hz0 hz1 hz2 rfl (by decide) _ _ _ rfl HO3.out ⟨g7,0,none⟩ L.length c7 (stepCells L) rfl (by rw [stepCells_len]) HNW.out (one_steps _) (by unfold maxLen;omega) (by omega) (by have:=HXL.out;omega) ?_;intro v4 w4 hown4 hgrow4 _)
     obtain ⟨a6,c6,rfl⟩:=own_sl hown4
     have HX4 : Hid (Box4 w.heap.size lbb ⟨tx.toArray⟩ (.slice a n1 c) (.slice (some ⟨gk,ok,none⟩) n2 e0) w4):=Lib.hid ((hgrow4.block _ HX3.out.lt (fun e=>by have:=(HO3.out.lt _ e.symm).1;omega)).trans HX3.out)
     have HB4 : Hid (Below w.heap.size w w4):=Lib.hid (HB3.out.grown hgrow4 HB3.out.size (fun k e=>by have:=(HO3.out.lt k e).1;omega))
     go_wp2
     exact ⟨⟨k + 1,m + L.length,a6,c6,by omega,by go_num,rfl,Lib.hid (by rw [HTK.out,List.length_append,HM.out];omega),Lib.hid (by rw [HTK.out,← List.append_assoc,← List.cons_append,stepCells_append];exact hown4),HX4,HB4⟩,by simp [intOf];omega⟩
    ·obtain rfl : n2 = k:=by omega
     have hkk : ks.take n2 = ks:=List.take_of_length_le (by rw [HK.out];omega)
     have HOF : Hid (wr.ownsRow (w.heap.size + 1) 78 3 (.slice a5 m c5) m (stepCells (⟨1,lb,[]⟩ :: (xs.map attrS ++ stepsK ks)))):=Lib.hid (by have h9:=HO.out;rwa [hkk] at h9)
     have HMF : Hid (m = 1 + n1 + (stepsK ks).length):=Lib.hid (by have h9:=HM.out;rwa [hkk] at h9)
     have HXL:=Lib.hid HX.out.lt
     clear hkk HO HM
     go_wp2_with (at_builtin;refine wpList_append_own _ rfl _ _ 39 rfl (w.heap.size + 1) 78 i0 (.agg #[.int .i64 0,.string ⟨#[]⟩,.string ⟨#[]⟩]) 3 40 Tryz.underlying39 hi hz0 hz1 hz2 rfl (by decide) _ _ _ rfl (HOF.out.alloc _) ⟨wr.heap.size,0,none⟩ 1 1 [.int .i64 4,.string ⟨#[]⟩,.string ⟨#[]⟩] rfl rfl (cell_three_new _ _ _ _ _) (by simp [Value.oneCell']) (by unfold maxLen;omega) (by omega) (by have:=HXL.out;simp;omega) ?_;intro v4 w4 hown4 hgrow4 _)
     obtain ⟨a6,c6,rfl⟩:=own_sl hown4
     have HB4 : Hid (Below w.heap.size w w4):=Lib.hid ((al HB.out (Nat.le_refl _) _).grown hgrow4 (by have:=HB.out.size;simp;omega) (fun k e=>by have:=(HOF.out.lt k e).1;omega))
     have HOW : Hid (w4.ownsRow w.heap.size 78 3 (.slice a6 (m + 1) c6) (m + 1) (stepCells (⟨1,lb,[]⟩ :: (xs.map attrS ++ (stepsK ks ++ [⟨4,[],[]⟩]))))):=Lib.hid (by
      have h9 : stepCells (⟨1,lb,[]⟩ :: (xs.map attrS ++ (stepsK ks ++ [⟨4,[],[]⟩]))) = stepCells (⟨1,lb,[]⟩ :: (xs.map attrS ++ stepsK ks)) ++ [.int .i64 4,.string ⟨#[]⟩,.string ⟨#[]⟩]:=by
       rw [← List.append_assoc,← List.cons_append,stepCells_append]
       rfl
      rw [h9]
      exact own_mon hown4 (by omega))
     have HLN : Hid ((⟨1,lb,[]⟩ :: (xs.map attrS ++ (stepsK ks ++ [⟨4,[],[]⟩])) : List Stp).length = m + 1):=Lib.hid (by rw [HMF.out];simp [HN.out];omega)
     go_wp2
     go_ret
     refine ⟨HB4.out,a6,c6,?_⟩
     rw [HST.out,HLN.out]
     exact ⟨rfl,HOW.out⟩
open Go.RowKit
theorem stepsK_count : ∀ ks : List Tr,ks.length ≤ (stepsK ks).length:=by
 intro ks
 induction ks with
 | nil=>simp
 | cons t r ih=>
  have h1 : 0 < (stepsT t).length:=List.length_pos_iff.2 (steps_ne t)
  simp only [stepsK,List.length_append,List.length_cons]
  omega
theorem stepsR_any (t : Tr) : (stepsT t).length ≤ 1000000 → ∀ (hs : List Value) (w : World),TreeV w t hs →
  Calls Tryz.prog 17 #[.agg hs.toArray] w fun e w'=>StepsPost (stepsT t) w e w':=by
 refine Tr.rec (motive_1:=fun t=>(stepsT t).length ≤ 1000000 → ∀ (hs : List Value) (w : World),TreeV w t hs →
   Calls Tryz.prog 17 #[.agg hs.toArray] w fun e w'=>StepsPost (stepsT t) w e w')
  (motive_2:=fun ks=>(stepsK ks).length ≤ 1000000 → ∀ (k : Nat) (t : Tr),ks[k]? = some t → ∀ (hs : List Value) (w : World),TreeV w t hs →
   Calls Tryz.prog 17 #[.agg hs.toArray] w fun e w'=>StepsPost (stepsT t) w e w') ?_ ?_ ?_ t
 ·intro lb tx xs ks ih hsz hs w h1
  rw [TreeV.eq] at h1
  obtain ⟨va,vk,rfl,h3,l,h4,h5⟩:=h1
  by_cases hlb : lb = []
  ·subst hlb
   exact stepsR_text tx xs ks va vk w
  ·rw [stepsT_elem tx xs ks hlb] at hsz
   simp only [List.length_cons,List.length_append,List.length_map,List.length_nil] at hsz
   obtain ⟨a,c,g,off,rfl,ha,hc⟩:=attr_at h3
   obtain ⟨d,e0,gk,ok,rfl,hd,hkc⟩:=kid_at h4 h5
   have hcn:=stepsK_count ks
   exact stepsR_elem lb tx hlb a d xs.length c ks.length e0 w xs g off rfl ha hc ks gk ok rfl hd hkc (ih (by omega)) (by omega) (by omega)
 ·intro _ k t h
  simp at h
 ·intro t ks ih1 ih2 hsz k u hk
  simp only [stepsK,List.length_append] at hsz
  cases k with
  | zero=>
   simp only [List.getElem?_cons_zero,Option.some.injEq] at hk
   rw [← hk]
   exact ih1 (by omega)
  | succ k=>exact ih2 (by omega) k u (by simpa using hk)
open Go.RowKit
open Go.RowKit
open Go.RowKit
theorem take_blank {s : ByteArray} {k : Nat} (h : k < s.size) : ((bts s).take (k + 1)).all (fun b=>blankI b.toNat) = (((bts s).take k).all (fun b=>blankI b.toNat) && blankI (s[k]'h).toNat):=by
 have h1 : k < (bts s).length:=by rw [bts_len];exact h
 rw [List.take_succ_eq_append_getElem h1,List.all_append,bts_get s k h]
 simp
theorem drop_blank {s : ByteArray} {k : Nat} (h : k < s.size) (hb : blankI (s[k]'h).toNat = false) : ((bts s).all fun b=>blankI b.toNat) = false:=by
 rw [List.all_eq_false]
 have h1 : k < (bts s).length:=by rw [bts_len];exact h
 exact ⟨(bts s)[k]'h1,List.getElem_mem h1,by rw [bts_get s k h,hb];simp⟩
set_option maxHeartbeats 2000000 in
theorem blankR_any (s : ByteArray) (w : World) (hs : s.size ≤ 1000000) (HBL : ∀ (c : Int) (W : World),Calls Tryz.prog 71 #[.int .u8 c] W fun e w'=>e = .returned (.bool (blankI c)) ∧ W = w') :
  Calls Tryz.prog 35 #[.string s] w fun e w'=>e = .returned (.bool ((bts s).all fun b=>blankI b.toNat)) ∧ Below w.heap.size w w':=by
 have HBK:=Lib.hid HBL
 have HLN:=Lib.hid (bts_len s)
 clear HBL
 go_enter Tryz.func35,Tryz.ntmps35
 go_wp2_with fail
 go_loopw [3] (fun i wr=>∃ k : Nat,k ≤ s.size ∧ i = .int .i64 k ∧ Hid (((bts s).take k).all (fun b=>blankI b.toNat) = true) ∧ Hid (Below w.heap.size w wr)) (fun i _=>s.size - (intOf i).toNat)
 case atStart=>exact ⟨0,by omega,rfl,Lib.hid rfl,Lib.hid (Below.refl _ _)⟩
 case round=>
  obtain ⟨k,hk,rfl,HG,HB⟩:=hrel
  by_cases hlt : k < s.size
  ·have hi0 : (0 : Int) ≤ k:=by omega
   have hi1 : (k : Int) < s.size:=by omega
   have hget : s.data[k]! = s[k]'hlt:=by
    show s.data[k]! = s.data[k]'hlt
    rw [getElem!_pos]
   have HTK:=Lib.hid (take_blank hlt)
   cases hb : blankI (s[k]'hlt).toNat with
   | true=>
    have HGN : Hid (((bts s).take (k + 1)).all (fun b=>blankI b.toNat) = true):=Lib.hid (by rw [HTK.out,HG.out,hb];rfl)
    have HCL : Hid (∀ W,Calls Tryz.prog 71 #[.int .u8 ((s[k]'hlt).toNat : Int)] W fun e w'=>e = .returned (.bool true) ∧ W = w'):=Lib.hid (fun W=>(HBK.out _ W).mono (fun e w' r=>⟨by rw [r.1,hb],r.2⟩))
    clear hb
    go_wp2_with fail
    refine (HCL.out _).mono ?_
    rintro e w5 ⟨rfl,rfl⟩
    go_wp2
    exact ⟨⟨k + 1,by omega,by go_num,HGN,HB⟩,by simp [intOf];omega⟩
   | false=>
    have HE:=Lib.hid (drop_blank hlt hb)
    have HCL : Hid (∀ W,Calls Tryz.prog 71 #[.int .u8 ((s[k]'hlt).toNat : Int)] W fun e w'=>e = .returned (.bool false) ∧ W = w'):=Lib.hid (fun W=>(HBK.out _ W).mono (fun e w' r=>⟨by rw [r.1,hb],r.2⟩))
    clear hb
    go_wp2_with fail
    refine (HCL.out _).mono ?_
    rintro e w5 ⟨rfl,rfl⟩
    go_wp2
    go_ret
    exact ⟨by rw [HE.out];rfl,HB.out⟩
  ·obtain rfl : k = s.size:=by omega
   have HE : Hid (((bts s).all fun b=>blankI b.toNat) = true):=Lib.hid (by
    have h9:=HG.out
    rwa [List.take_of_length_le (by rw [HLN.out];omega)] at h9)
   go_wp2
   go_ret
   exact ⟨by rw [HE.out];rfl,HB.out⟩
end Go.Proofs.YtjldpkhfiffinaaGreatDoor.U
