/- Contracts and plain facts that the law stands on: T2. -/
import Derived.Test.YtjldpkhfiffinaaGreatDoorZP05
import Derived.Deep.QuietTactic
import Derived.BigQuiet
import Derived.Deep.RegionHeld3
import Derived.Test.YtjldpkhfiffinaaGreatDoorRows
namespace Go.Proofs.YtjldpkhfiffinaaGreatDoor.U
open Go.RowKit
open Go.RowKit
theorem eqK_take : ∀ {ks js : List Tr},ks.length = js.length → (∀ (k : Nat) (t u : Tr),ks[k]? = some t → js[k]? = some u → eqT t u = true) → eqK ks js = true:=by
 intro ks
 induction ks with
 | nil=>intro js hl _;cases js with | nil=>rfl | cons _ _=>simp at hl
 | cons t r ih=>
  intro js hl h
  cases js with
  | nil=>simp at hl
  | cons u q=>
   simp only [eqK,Bool.and_eq_true]
   exact ⟨h 0 t u rfl rfl,ih (by simpa using hl) (fun k a b ha hb=>h (k + 1) a b (by simpa using ha) (by simpa using hb))⟩
theorem eqK_len : ∀ {ks js : List Tr},eqK ks js = true → ks.length = js.length:=by
 intro ks
 induction ks with
 | nil=>intro js h;cases js with | nil=>rfl | cons _ _=>simp [eqK] at h
 | cons t r ih=>
  intro js h
  cases js with
  | nil=>simp [eqK] at h
  | cons u q=>
   simp only [eqK,Bool.and_eq_true] at h
   simp [ih h.2]
theorem eqK_bad {ks js : List Tr} {k : Nat} {t u : Tr} (h1 : ks[k]? = some t) (h2 : js[k]? = some u) (h : eqT t u = false) : eqK ks js = false:=by
 induction ks generalizing js k with
 | nil=>simp at h1
 | cons a r ih=>
  cases js with
  | nil=>simp at h2
  | cons b q=>
   cases k with
   | zero=>
    simp only [List.getElem?_cons_zero,Option.some.injEq] at h1 h2
    subst h1 h2
    simp [eqK,h]
   | succ k=>simp [eqK,ih (by simpa using h1) (by simpa using h2)]
open Go.RowKit
set_option maxHeartbeats 2000000 in
theorem sameTr_head (lb tx lb2 tx2 : List UInt8) (a d a2 d2 : Option Addr) (n1 c n2 e0 m1 c2 m2 e2 : Nat) (w : World) (h : ¬ (lb = lb2 ∧ tx = tx2 ∧ n1 = m1 ∧ n2 = m2)) :
  Calls Tryz.prog 24 #[.agg #[.string ⟨lb.toArray⟩,.string ⟨tx.toArray⟩,.slice a n1 c,.slice d n2 e0],.agg #[.string ⟨lb2.toArray⟩,.string ⟨tx2.toArray⟩,.slice a2 m1 c2,.slice d2 m2 e2]] w fun e w'=>e = .returned (.bool false) ∧ Below w.heap.size w w':=by
 obtain ⟨w1,hw1⟩ : ∃ w1,w1 = w.alloc (.cells #[.string ⟨lb.toArray⟩,.string ⟨tx.toArray⟩,.slice a n1 c,.slice d n2 e0] 27):=⟨_,rfl⟩
 have HB1 : Below w.heap.size w w1:=by rw [hw1];exact (Below.refl _ w).alloc (Nat.le_refl _) _
 have HB2 : Below w.heap.size w (w1.alloc (.cells #[.string ⟨lb2.toArray⟩,.string ⟨tx2.toArray⟩,.slice a2 m1 c2,.slice d2 m2 e2] 27)):=al HB1 (Nat.le_refl _) _
 have HK1 : Box4 w.heap.size ⟨lb.toArray⟩ ⟨tx.toArray⟩ (.slice a n1 c) (.slice d n2 e0) w1:=by rw [hw1];exact Box4.made _ _ _ _ _
 have HK1':=HK1.below ((Below.refl _ w1).alloc (Nat.le_refl _) (.cells #[.string ⟨lb2.toArray⟩,.string ⟨tx2.toArray⟩,.slice a2 m1 c2,.slice d2 m2 e2] 27)) (Nat.le_refl _)
 have HK2:=Box4.made ⟨lb2.toArray⟩ ⟨tx2.toArray⟩ (.slice a2 m1 c2) (.slice d2 m2 e2) w1
 subst hw1
 have HB2:=Lib.hid HB2
 obtain ⟨c0,c1,c3,c4⟩:=HK1'.at
 obtain ⟨d0,d1,d3,d4⟩:=HK2.at
 clear HK1 HK1' HK2 HB1
 by_cases h1 : lb = lb2
 ·subst h1
  by_cases h2 : tx = tx2
  ·subst h2
   by_cases h3 : n1 = m1
   ·subst h3
    have h4 : ((n2 : Int) == (m2 : Int)) = false:=by rw [beq_eq_false_iff_ne];intro e;exact h ⟨rfl,rfl,rfl,by omega⟩
    clear h
    go_enter Tryz.func24,Tryz.ntmps24
    go_wp2
    go_ret
    exact ⟨rfl,HB2.out⟩
   ·have h4 : ((n1 : Int) == (m1 : Int)) = false:=by rw [beq_eq_false_iff_ne];omega
    clear h h3
    go_enter Tryz.func24,Tryz.ntmps24
    go_wp2
    go_ret
    exact ⟨rfl,HB2.out⟩
  ·have h4 : (tx == tx2) = false:=beq_eq_false_iff_ne.2 h2
   clear h h2
   go_enter Tryz.func24,Tryz.ntmps24
   go_wp2
   go_ret
   exact ⟨rfl,HB2.out⟩
 ·have h4 : (lb == lb2) = false:=beq_eq_false_iff_ne.2 h1
  clear h h1
  go_enter Tryz.func24,Tryz.ntmps24
  go_wp2
  go_ret
  exact ⟨rfl,HB2.out⟩
set_option maxHeartbeats 4000000 in
set_option maxRecDepth 20000 in
theorem sameTr_attr (lb tx : List UInt8) (a d a2 d2 : Option Addr) (n1 c n2 e0 c2 e2 : Nat) (w : World) (xs ys : List (List UInt8 × List UInt8)) (g off g2 off2 : Nat) (hn : xs.length = n1) (hn2 : ys.length = n1) (hl : n1 ≤ 100000) (ha : 0 < n1 → a = some ⟨g,off,none⟩) (ha2 : 0 < n1 → a2 = some ⟨g2,off2,none⟩)
  (hc : ∀ k b,xs[k]? = some b → w.cell? ⟨g,off + k * 2,none⟩ = some (.string ⟨b.1.toArray⟩) ∧ w.cell? ⟨g,off + k * 2 + 1,none⟩ = some (.string ⟨b.2.toArray⟩))
  (hc2 : ∀ k b,ys[k]? = some b → w.cell? ⟨g2,off2 + k * 2,none⟩ = some (.string ⟨b.1.toArray⟩) ∧ w.cell? ⟨g2,off2 + k * 2 + 1,none⟩ = some (.string ⟨b.2.toArray⟩)) (hne : ¬ xs = ys) :
  Calls Tryz.prog 24 #[.agg #[.string ⟨lb.toArray⟩,.string ⟨tx.toArray⟩,.slice a n1 c,.slice d n2 e0],.agg #[.string ⟨lb.toArray⟩,.string ⟨tx.toArray⟩,.slice a2 n1 c2,.slice d2 n2 e2]] w fun e w'=>e = .returned (.bool false) ∧ Below w.heap.size w w':=by
 obtain ⟨w1,hw1⟩ : ∃ w1,w1 = w.alloc (.cells #[.string ⟨lb.toArray⟩,.string ⟨tx.toArray⟩,.slice a n1 c,.slice d n2 e0] 27):=⟨_,rfl⟩
 have HB1 : Below w.heap.size w w1:=by rw [hw1];exact (Below.refl _ w).alloc (Nat.le_refl _) _
 have HB2 : Below w.heap.size w (w1.alloc (.cells #[.string ⟨lb.toArray⟩,.string ⟨tx.toArray⟩,.slice a2 n1 c2,.slice d2 n2 e2] 27)):=al HB1 (Nat.le_refl _) _
 have HK1 : Box4 w.heap.size ⟨lb.toArray⟩ ⟨tx.toArray⟩ (.slice a n1 c) (.slice d n2 e0) w1:=by rw [hw1];exact Box4.made _ _ _ _ _
 have HK1':=HK1.below ((Below.refl _ w1).alloc (Nat.le_refl _) (.cells #[.string ⟨lb.toArray⟩,.string ⟨tx.toArray⟩,.slice a2 n1 c2,.slice d2 n2 e2] 27)) (Nat.le_refl _)
 have HK2:=Box4.made ⟨lb.toArray⟩ ⟨tx.toArray⟩ (.slice a2 n1 c2) (.slice d2 n2 e2) w1
 obtain ⟨w2,hw2⟩ : ∃ w2,w2 = w1.alloc (.cells #[.string ⟨lb.toArray⟩,.string ⟨tx.toArray⟩,.slice a2 n1 c2,.slice d2 n2 e2] 27):=⟨_,rfl⟩
 rw [← hw2] at HB2 HK1' HK2
 have hsz : w1.heap.size = w.heap.size + 1:=by rw [hw1];simp
 rw [hsz] at HK2
 have HW2 : Hid (w2 = (w.alloc (.cells #[.string ⟨lb.toArray⟩,.string ⟨tx.toArray⟩,.slice a n1 c,.slice d n2 e0] 27)).alloc (.cells #[.string ⟨lb.toArray⟩,.string ⟨tx.toArray⟩,.slice a2 n1 c2,.slice d2 n2 e2] 27)):=Lib.hid (by rw [hw2,hw1])
 obtain ⟨c0,c1,c3,c4⟩:=HK1'.at
 obtain ⟨d0,d1,d3,d4⟩:=HK2.at
 have HBX : Hid (∀ W,Below w2.heap.size w2 W → W.cell? ⟨w.heap.size,2,none⟩ = some (.slice a n1 c) ∧ W.cell? ⟨w.heap.size + 1,2,none⟩ = some (.slice a2 n1 c2) ∧ W.cell? ⟨w.heap.size,3,none⟩ = some (.slice d n2 e0) ∧ W.cell? ⟨w.heap.size + 1,3,none⟩ = some (.slice d2 n2 e2)):=Lib.hid (fun W hb=>⟨(hb.cell (block_lt_of_cell c3)).trans c3,(hb.cell (block_lt_of_cell d3)).trans d3,(hb.cell (block_lt_of_cell c4)).trans c4,(hb.cell (block_lt_of_cell d4)).trans d4⟩)
 have HB2:=Lib.hid HB2
 have HA:=Lib.hid ha
 have HA2:=Lib.hid ha2
 have HC:=Lib.hid hc
 have HC2:=Lib.hid hc2
 have HN1:=Lib.hid hn
 have HN2:=Lib.hid hn2
 clear ha ha2 hc hc2 hn hn2 c0 c1 c3 c4 d0 d1 d3 d4 HK1 HK1' HK2 HB1 hsz hw1 hw2
 have HNE:=Lib.hid hne
 clear hne
 go_enter Tryz.func24,Tryz.ntmps24
 go_wp2_with fail
 go_loopw [5] (fun i wr=>∃ k : Nat,k ≤ n1 ∧ i = .int .i64 k ∧ Hid (xs.take k = ys.take k) ∧ Hid (Below w2.heap.size w2 wr)) (fun i _=>n1 - (intOf i).toNat)
 case atStart=>exact ⟨0,by omega,rfl,Lib.hid rfl,Lib.hid (by rw [HW2.out];exact Below.refl _ _)⟩
 case round=>
  obtain ⟨k,hk,rfl,HT,HB⟩:=hrel
  obtain ⟨x3,y3,x4,y4⟩:=HBX.out _ HB.out
  by_cases hlt : k < n1
  ·obtain rfl:=HA.out (by omega)
   obtain rfl:=HA2.out (by omega)
   obtain ⟨⟨p1,p2⟩,hp⟩ : ∃ b,xs[k]? = some b:=⟨_,List.getElem?_eq_getElem (by rw [HN1.out];omega)⟩
   obtain ⟨⟨q1,q2⟩,hq⟩ : ∃ b,ys[k]? = some b:=⟨_,List.getElem?_eq_getElem (by rw [HN2.out];omega)⟩
   obtain ⟨r1,r2⟩:=HC.out k _ hp
   obtain ⟨r3,r4⟩:=HC2.out k _ hq
   simp only at r1 r2 r3 r4
   have up : ∀ {p : Addr} {u : Value},w.cell? p = some u → wr.cell? p = some u:=fun h=>(HB.out.cell (Nat.lt_of_lt_of_le (block_lt_of_cell h) HB2.out.size)).trans ((HB2.out.cell (block_lt_of_cell h)).trans h)
   have s1:=up r1
   have s2:=up r2
   have s3:=up r3
   have s4:=up r4
   have hi0 : (0 : Int) ≤ k:=by omega
   have hi1 : (k : Int) < n1:=by omega
   clear r1 r2 r3 r4 up
   by_cases he : p1 = q1 ∧ p2 = q2
   ·obtain ⟨rfl,rfl⟩:=he
    have HN : Hid (xs.take (k + 1) = ys.take (k + 1)):=Lib.hid (by
     rw [List.take_add_one,List.take_add_one,hp,hq,HT.out])
    clear hp hq
    go_wp2_with fail
    go_quiet (fail)
    go_wp2
    exact ⟨⟨k + 1,by omega,by go_num,HN,Lib.hid (below_drewN HB.out _)⟩,by simp [intOf];omega⟩
   ·have HBE:=Lib.hid (th HB2.out (Nat.le_refl _) HB.out)
    by_cases h1 : p1 = q1
    ·subst h1
     have hb2 : (p2 == q2) = false:=beq_eq_false_iff_ne.2 (fun h2=>he ⟨rfl,h2⟩)
     clear hp hq he
     go_wp2_with fail
     go_quiet (fail)
     go_wp2
     go_ret
     exact ⟨rfl,below_drewN HBE.out _⟩
    ·have hb1 : (p1 == q1) = false:=beq_eq_false_iff_ne.2 h1
     clear hp hq he h1
     go_wp2_with fail
     go_quiet (fail)
     go_wp2
     go_ret
     exact ⟨rfl,below_drewN HBE.out _⟩
  ·exfalso
   refine HNE.out ?_
   have h2:=HT.out
   rwa [List.take_of_length_le (by rw [HN1.out];omega),List.take_of_length_le (by rw [HN2.out];omega)] at h2
set_option maxHeartbeats 4000000 in
set_option maxRecDepth 20000 in
theorem sameTr_kids (lb tx : List UInt8) (a d a2 d2 : Option Addr) (n1 c n2 e0 c2 e2 : Nat) (w : World) (xs ys : List (List UInt8 × List UInt8)) (g off g2 off2 : Nat) (hn : xs.length = n1) (hn2 : ys.length = n1) (hl : n1 ≤ 100000) (ha : 0 < n1 → a = some ⟨g,off,none⟩) (ha2 : 0 < n1 → a2 = some ⟨g2,off2,none⟩)
  (hc : ∀ k b,xs[k]? = some b → w.cell? ⟨g,off + k * 2,none⟩ = some (.string ⟨b.1.toArray⟩) ∧ w.cell? ⟨g,off + k * 2 + 1,none⟩ = some (.string ⟨b.2.toArray⟩))
  (hc2 : ∀ k b,ys[k]? = some b → w.cell? ⟨g2,off2 + k * 2,none⟩ = some (.string ⟨b.1.toArray⟩) ∧ w.cell? ⟨g2,off2 + k * 2 + 1,none⟩ = some (.string ⟨b.2.toArray⟩)) (hxy : xs = ys) (ks js : List Tr) (gk ok gj oj : Nat) (hk : ks.length = n2) (hj : js.length = n2) (hl2 : n2 ≤ 100000) (hd : 0 < n2 → d = some ⟨gk,ok,none⟩) (hd2 : 0 < n2 → d2 = some ⟨gj,oj,none⟩) (hkc : ∀ (k : Nat) (l1 t1 : List UInt8) (al1 : List (List UInt8 × List UInt8)) (js1 : List Tr),ks[k]? = some (.node l1 t1 al1 js1) → ∃ va vk,w.cell? ⟨gk,ok + k * 4,none⟩ = some (.string ⟨l1.toArray⟩) ∧ w.cell? ⟨gk,ok + k * 4 + 1,none⟩ = some (.string ⟨t1.toArray⟩) ∧ w.cell? ⟨gk,ok + k * 4 + 2,none⟩ = some va ∧ w.cell? ⟨gk,ok + k * 4 + 3,none⟩ = some vk ∧ TreeV w (.node l1 t1 al1 js1) [.string ⟨l1.toArray⟩,.string ⟨t1.toArray⟩,va,vk]) (hjc : ∀ (k : Nat) (l1 t1 : List UInt8) (al1 : List (List UInt8 × List UInt8)) (js1 : List Tr),js[k]? = some (.node l1 t1 al1 js1) → ∃ va vk,w.cell? ⟨gj,oj + k * 4,none⟩ = some (.string ⟨l1.toArray⟩) ∧ w.cell? ⟨gj,oj + k * 4 + 1,none⟩ = some (.string ⟨t1.toArray⟩) ∧ w.cell? ⟨gj,oj + k * 4 + 2,none⟩ = some va ∧ w.cell? ⟨gj,oj + k * 4 + 3,none⟩ = some vk ∧ TreeV w (.node l1 t1 al1 js1) [.string ⟨l1.toArray⟩,.string ⟨t1.toArray⟩,va,vk])
  (IH : ∀ (k : Nat) (t : Tr),ks[k]? = some t → ∀ (u : Tr) (hs hs' : List Value) (W : World),TreeV W t hs → TreeV W u hs' → Calls Tryz.prog 24 #[.agg hs.toArray,.agg hs'.toArray] W fun e w'=>e = .returned (.bool (eqT t u)) ∧ Below W.heap.size W w') :
  Calls Tryz.prog 24 #[.agg #[.string ⟨lb.toArray⟩,.string ⟨tx.toArray⟩,.slice a n1 c,.slice d n2 e0],.agg #[.string ⟨lb.toArray⟩,.string ⟨tx.toArray⟩,.slice a2 n1 c2,.slice d2 n2 e2]] w fun e w'=>e = .returned (.bool (eqK ks js)) ∧ Below w.heap.size w w':=by
 obtain ⟨w1,hw1⟩ : ∃ w1,w1 = w.alloc (.cells #[.string ⟨lb.toArray⟩,.string ⟨tx.toArray⟩,.slice a n1 c,.slice d n2 e0] 27):=⟨_,rfl⟩
 have HB1 : Below w.heap.size w w1:=by rw [hw1];exact (Below.refl _ w).alloc (Nat.le_refl _) _
 have HB2 : Below w.heap.size w (w1.alloc (.cells #[.string ⟨lb.toArray⟩,.string ⟨tx.toArray⟩,.slice a2 n1 c2,.slice d2 n2 e2] 27)):=al HB1 (Nat.le_refl _) _
 have HK1 : Box4 w.heap.size ⟨lb.toArray⟩ ⟨tx.toArray⟩ (.slice a n1 c) (.slice d n2 e0) w1:=by rw [hw1];exact Box4.made _ _ _ _ _
 have HK1':=HK1.below ((Below.refl _ w1).alloc (Nat.le_refl _) (.cells #[.string ⟨lb.toArray⟩,.string ⟨tx.toArray⟩,.slice a2 n1 c2,.slice d2 n2 e2] 27)) (Nat.le_refl _)
 have HK2:=Box4.made ⟨lb.toArray⟩ ⟨tx.toArray⟩ (.slice a2 n1 c2) (.slice d2 n2 e2) w1
 obtain ⟨w2,hw2⟩ : ∃ w2,w2 = w1.alloc (.cells #[.string ⟨lb.toArray⟩,.string ⟨tx.toArray⟩,.slice a2 n1 c2,.slice d2 n2 e2] 27):=⟨_,rfl⟩
 rw [← hw2] at HB2 HK1' HK2
 have hsz : w1.heap.size = w.heap.size + 1:=by rw [hw1];simp
 rw [hsz] at HK2
 have HW2 : Hid (w2 = (w.alloc (.cells #[.string ⟨lb.toArray⟩,.string ⟨tx.toArray⟩,.slice a n1 c,.slice d n2 e0] 27)).alloc (.cells #[.string ⟨lb.toArray⟩,.string ⟨tx.toArray⟩,.slice a2 n1 c2,.slice d2 n2 e2] 27)):=Lib.hid (by rw [hw2,hw1])
 obtain ⟨c0,c1,c3,c4⟩:=HK1'.at
 obtain ⟨d0,d1,d3,d4⟩:=HK2.at
 have HBX : Hid (∀ W,Below w2.heap.size w2 W → W.cell? ⟨w.heap.size,2,none⟩ = some (.slice a n1 c) ∧ W.cell? ⟨w.heap.size + 1,2,none⟩ = some (.slice a2 n1 c2) ∧ W.cell? ⟨w.heap.size,3,none⟩ = some (.slice d n2 e0) ∧ W.cell? ⟨w.heap.size + 1,3,none⟩ = some (.slice d2 n2 e2)):=Lib.hid (fun W hb=>⟨(hb.cell (block_lt_of_cell c3)).trans c3,(hb.cell (block_lt_of_cell d3)).trans d3,(hb.cell (block_lt_of_cell c4)).trans c4,(hb.cell (block_lt_of_cell d4)).trans d4⟩)
 have HB2:=Lib.hid HB2
 have HA:=Lib.hid ha
 have HA2:=Lib.hid ha2
 have HC:=Lib.hid hc
 have HC2:=Lib.hid hc2
 have HN1:=Lib.hid hn
 have HN2:=Lib.hid hn2
 clear ha ha2 hc hc2 hn hn2 c0 c1 c3 c4 d0 d1 d3 d4 HK1 HK1' HK2 HB1 hsz hw1 hw2
 have HK:=Lib.hid hk
 have HJ:=Lib.hid hj
 have HD:=Lib.hid hd
 have HD2:=Lib.hid hd2
 have HKC:=Lib.hid hkc
 have HJC:=Lib.hid hjc
 have HIH:=Lib.hid IH
 have HXY:=Lib.hid hxy
 clear hk hj hd hd2 hkc hjc IH hxy
 go_enter Tryz.func24,Tryz.ntmps24
 go_wp2_with fail
 go_loopw [5] (fun i wr=>∃ k : Nat,k ≤ n1 ∧ i = .int .i64 k ∧ Hid (Below w2.heap.size w2 wr)) (fun i _=>n1 - (intOf i).toNat)
 case atStart=>exact ⟨0,by omega,rfl,Lib.hid (by rw [HW2.out];exact Below.refl _ _)⟩
 case round=>
  obtain ⟨k,hk,rfl,HB⟩:=hrel
  obtain ⟨x3,y3,x4,y4⟩:=HBX.out _ HB.out
  by_cases hlt : k < n1
  ·obtain rfl:=HA.out (by omega)
   obtain rfl:=HA2.out (by omega)
   obtain ⟨⟨p1,p2⟩,hp⟩ : ∃ b,xs[k]? = some b:=⟨_,List.getElem?_eq_getElem (by rw [HN1.out];omega)⟩
   obtain ⟨⟨q1,q2⟩,hq⟩ : ∃ b,ys[k]? = some b:=⟨_,List.getElem?_eq_getElem (by rw [HN2.out];omega)⟩
   obtain ⟨r1,r2⟩:=HC.out k _ hp
   obtain ⟨r3,r4⟩:=HC2.out k _ hq
   simp only at r1 r2 r3 r4
   have up : ∀ {p : Addr} {u : Value},w.cell? p = some u → wr.cell? p = some u:=fun h=>(HB.out.cell (Nat.lt_of_lt_of_le (block_lt_of_cell h) HB2.out.size)).trans ((HB2.out.cell (block_lt_of_cell h)).trans h)
   have s1:=up r1
   have s2:=up r2
   have s3:=up r3
   have s4:=up r4
   have hi0 : (0 : Int) ≤ k:=by omega
   have hi1 : (k : Int) < n1:=by omega
   clear r1 r2 r3 r4 up
   obtain ⟨rfl,rfl⟩ : p1 = q1 ∧ p2 = q2:=by
    rw [HXY.out] at hp
    have h5:=Option.some.inj (hp.symm.trans hq)
    exact ⟨congrArg Prod.fst h5,congrArg Prod.snd h5⟩
   clear hp hq
   go_wp2_with fail
   go_quiet (fail)
   go_wp2
   exact ⟨⟨k + 1,by omega,by go_num,Lib.hid (below_drewN HB.out _)⟩,by simp [intOf];omega⟩
  ·obtain rfl : k = n1:=by omega
   have HBA:=HB
   clear HB
   go_wp2_with fail
   clear x3 y3 x4 y4
   go_loopw [6] (fun i wr=>∃ k : Nat,k ≤ n2 ∧ i = .int .i64 k ∧ Hid (∀ (m : Nat),m < k → ∀ (t u : Tr),ks[m]? = some t → js[m]? = some u → eqT t u = true) ∧ Hid (Below w2.heap.size w2 wr)) (fun i _=>n2 - (intOf i).toNat)
   case atStart=>exact ⟨0,by omega,rfl,Lib.hid (fun m hm=>absurd hm (by omega)),HBA⟩
   case round=>
    obtain ⟨k,hk,rfl,HE,HB⟩:=hrel
    obtain ⟨x3,y3,x4,y4⟩:=HBX.out _ HB.out
    by_cases hlt : k < n2
    ·obtain rfl:=HD.out (by omega)
     obtain rfl:=HD2.out (by omega)
     obtain ⟨⟨l1,t1,al1,js1⟩,hp⟩ : ∃ b,ks[k]? = some b:=⟨_,List.getElem?_eq_getElem (by rw [HK.out];omega)⟩
     obtain ⟨⟨l2,t2,al2,js2⟩,hq⟩ : ∃ b,js[k]? = some b:=⟨_,List.getElem?_eq_getElem (by rw [HJ.out];omega)⟩
     obtain ⟨va,vk,r1,r2,r3,r4,r5⟩:=HKC.out k _ _ _ _ hp
     obtain ⟨vb,vm,r6,r7,r8,r9,r10⟩:=HJC.out k _ _ _ _ hq
     have hi0 : (0 : Int) ≤ k:=by omega
     have hi1 : (k : Int) < n2:=by omega
     have HKEEP : Hid (∀ W,Below w2.heap.size w2 W → W.cell? ⟨w.heap.size,3,none⟩ = some (.slice (some ⟨gk,ok,none⟩) n2 e0) ∧ W.cell? ⟨w.heap.size + 1,3,none⟩ = some (.slice (some ⟨gj,oj,none⟩) n2 e2) ∧ W.cell? ⟨gk,ok + k * 4,none⟩ = some (.string ⟨l1.toArray⟩) ∧ W.cell? ⟨gk,ok + k * 4 + 1,none⟩ = some (.string ⟨t1.toArray⟩) ∧ W.cell? ⟨gk,ok + k * 4 + 2,none⟩ = some (va) ∧ W.cell? ⟨gk,ok + k * 4 + 3,none⟩ = some (vk) ∧ W.cell? ⟨gj,oj + k * 4,none⟩ = some (.string ⟨l2.toArray⟩) ∧ W.cell? ⟨gj,oj + k * 4 + 1,none⟩ = some (.string ⟨t2.toArray⟩) ∧ W.cell? ⟨gj,oj + k * 4 + 2,none⟩ = some (vb) ∧ W.cell? ⟨gj,oj + k * 4 + 3,none⟩ = some (vm) ∧ Hid (Below w2.heap.size w2 W)):=Lib.hid (fun W hb=>by
      obtain ⟨_,_,z1,z2⟩:=HBX.out _ hb
      have up : ∀ {p : Addr} {u : Value},w.cell? p = some u → W.cell? p = some u:=fun h=>(hb.cell (Nat.lt_of_lt_of_le (block_lt_of_cell h) HB2.out.size)).trans ((HB2.out.cell (block_lt_of_cell h)).trans h)
      exact ⟨z1,z2,up r1,up r2,up r3,up r4,up r6,up r7,up r8,up r9,Lib.hid hb⟩)
     have IHX : Hid (∀ W,Below w2.heap.size w2 W → Calls Tryz.prog 24 #[.agg #[.string ⟨l1.toArray⟩,.string ⟨t1.toArray⟩,va,vk],.agg #[.string ⟨l2.toArray⟩,.string ⟨t2.toArray⟩,vb,vm]] W fun e w'=>e = .returned (.bool (eqT (.node l1 t1 al1 js1) (.node l2 t2 al2 js2))) ∧ Below w2.heap.size w2 w'):=Lib.hid (fun W hb=>(HIH.out k _ hp _ _ _ W ((r5.below HB2.out (Nat.le_refl _)).below hb (Nat.le_refl _)) ((r10.below HB2.out (Nat.le_refl _)).below hb (Nat.le_refl _))).mono (fun e w' r=>⟨r.1,th hb (Nat.le_refl _) r.2⟩))
     obtain ⟨s1,s2,s3,s4,s5,s6,s7,s8,s9,s10,_⟩:=HKEEP.out _ HB.out
     clear r1 r2 r3 r4 r5 r6 r7 r8 r9 r10 x3 y3 x4 y4
     cases hbv : eqT (.node l1 t1 al1 js1) (.node l2 t2 al2 js2) with
     | true=>
      have HEN : Hid (∀ (m : Nat),m < k + 1 → ∀ (t u : Tr),ks[m]? = some t → js[m]? = some u → eqT t u = true):=Lib.hid (fun m hm t u h1 h2=>by
       by_cases hmk : m < k
       ·exact HE.out m hmk t u h1 h2
       ·obtain rfl : m = k:=by omega
        rw [hp] at h1
        rw [hq] at h2
        injection h1 with h1
        injection h2 with h2
        rw [← h1,← h2]
        exact hbv)
      have HSM : Hid (∀ W,Below w2.heap.size w2 W → Calls Tryz.prog 24 #[.agg #[.string ⟨l1.toArray⟩,.string ⟨t1.toArray⟩,va,vk],.agg #[.string ⟨l2.toArray⟩,.string ⟨t2.toArray⟩,vb,vm]] W fun e w'=>e = .returned (.bool true) ∧ Below w2.heap.size w2 w'):=Lib.hid (fun W hb=>(IHX.out W hb).mono (fun e w' r=>⟨by rw [r.1,hbv],r.2⟩))
      clear hp hq hbv
      go_wp2_with fail
      go_region_held3 (fun W=>W.cell? ⟨w.heap.size,3,none⟩ = some (.slice (some ⟨gk,ok,none⟩) n2 e0) ∧ W.cell? ⟨w.heap.size + 1,3,none⟩ = some (.slice (some ⟨gj,oj,none⟩) n2 e2) ∧ W.cell? ⟨gk,ok + k * 4,none⟩ = some (.string ⟨l1.toArray⟩) ∧ W.cell? ⟨gk,ok + k * 4 + 1,none⟩ = some (.string ⟨t1.toArray⟩) ∧ W.cell? ⟨gk,ok + k * 4 + 2,none⟩ = some (va) ∧ W.cell? ⟨gk,ok + k * 4 + 3,none⟩ = some (vk) ∧ W.cell? ⟨gj,oj + k * 4,none⟩ = some (.string ⟨l2.toArray⟩) ∧ W.cell? ⟨gj,oj + k * 4 + 1,none⟩ = some (.string ⟨t2.toArray⟩) ∧ W.cell? ⟨gj,oj + k * 4 + 2,none⟩ = some (vb) ∧ W.cell? ⟨gj,oj + k * 4 + 3,none⟩ = some (vm) ∧ Hid (Below w2.heap.size w2 W)) (first | (refine HKEEP.out _ ?_;first | assumption | exact HB.out.drew | exact HB.out)) (first | (go_at_call 24;go_split_ands;refine (HSM.out _ (Hid.out (by assumption))).mono ?_;rintro e w5 ⟨rfl,hM5⟩))
      all_goals (
       clear s1 s2 s3 s4 s5 s6 s7 s8 s9 s10
       go_split_ands
       rename_i hMv
       have HBN:=Lib.hid hMv.out
       go_wp2
       exact ⟨⟨k + 1,by omega,by go_num,HEN,HBN⟩,by simp [intOf];omega⟩)
     | false=>
      have HEK : Hid (eqK ks js = false):=Lib.hid (eqK_bad hp hq hbv)
      have HSM : Hid (∀ W,Below w2.heap.size w2 W → Calls Tryz.prog 24 #[.agg #[.string ⟨l1.toArray⟩,.string ⟨t1.toArray⟩,va,vk],.agg #[.string ⟨l2.toArray⟩,.string ⟨t2.toArray⟩,vb,vm]] W fun e w'=>e = .returned (.bool false) ∧ Below w2.heap.size w2 w'):=Lib.hid (fun W hb=>(IHX.out W hb).mono (fun e w' r=>⟨by rw [r.1,hbv],r.2⟩))
      clear hp hq hbv
      go_wp2_with fail
      go_region_held3 (fun W=>W.cell? ⟨w.heap.size,3,none⟩ = some (.slice (some ⟨gk,ok,none⟩) n2 e0) ∧ W.cell? ⟨w.heap.size + 1,3,none⟩ = some (.slice (some ⟨gj,oj,none⟩) n2 e2) ∧ W.cell? ⟨gk,ok + k * 4,none⟩ = some (.string ⟨l1.toArray⟩) ∧ W.cell? ⟨gk,ok + k * 4 + 1,none⟩ = some (.string ⟨t1.toArray⟩) ∧ W.cell? ⟨gk,ok + k * 4 + 2,none⟩ = some (va) ∧ W.cell? ⟨gk,ok + k * 4 + 3,none⟩ = some (vk) ∧ W.cell? ⟨gj,oj + k * 4,none⟩ = some (.string ⟨l2.toArray⟩) ∧ W.cell? ⟨gj,oj + k * 4 + 1,none⟩ = some (.string ⟨t2.toArray⟩) ∧ W.cell? ⟨gj,oj + k * 4 + 2,none⟩ = some (vb) ∧ W.cell? ⟨gj,oj + k * 4 + 3,none⟩ = some (vm) ∧ Hid (Below w2.heap.size w2 W)) (first | (refine HKEEP.out _ ?_;first | assumption | exact HB.out.drew | exact HB.out)) (first | (go_at_call 24;go_split_ands;refine (HSM.out _ (Hid.out (by assumption))).mono ?_;rintro e w5 ⟨rfl,hM5⟩))
      all_goals (
       clear s1 s2 s3 s4 s5 s6 s7 s8 s9 s10
       go_split_ands
       rename_i hMv
       have HBN:=Lib.hid (th HB2.out (Nat.le_refl _) hMv.out)
       go_wp2
       go_ret
       exact ⟨by rw [HEK.out];rfl,HBN.out⟩)
    ·obtain rfl : k = n2:=by omega
     have HEK : Hid (eqK ks js = true):=Lib.hid (eqK_take (by rw [HK.out,HJ.out]) (fun m t u h1 h2=>HE.out m (by have:=(List.getElem?_eq_some_iff.1 h1).1;rw [HK.out] at this;exact this) t u h1 h2))
     have HBN:=Lib.hid (th HB2.out (Nat.le_refl _) HB.out)
     go_wp2
     go_ret
     exact ⟨by rw [HEK.out];rfl,HBN.out⟩
open Go.RowKit
theorem eqT_bad {lb tx lb2 tx2 : List UInt8} {al al2 : List (List UInt8 × List UInt8)} {ks ks2 : List Tr} (h : ¬ (lb = lb2 ∧ tx = tx2 ∧ al.length = al2.length ∧ ks.length = ks2.length)) : eqT (.node lb tx al ks) (.node lb2 tx2 al2 ks2) = false:=by
 cases he : eqT (.node lb tx al ks) (.node lb2 tx2 al2 ks2) with
 | false=>rfl
 | true=>
  exfalso
  simp only [eqT,Bool.and_eq_true,decide_eq_true_eq] at he
  exact h ⟨he.1.1.1,he.1.1.2,by rw [he.1.2],eqK_len he.2⟩
theorem sameTr_any (t : Tr) : sizeT t = true → ∀ (u : Tr) (hs hs' : List Value) (w : World),TreeV w t hs → TreeV w u hs' →
  Calls Tryz.prog 24 #[.agg hs.toArray,.agg hs'.toArray] w fun e w'=>e = .returned (.bool (eqT t u)) ∧ Below w.heap.size w w':=by
 refine Tr.rec (motive_1:=fun t=>sizeT t = true → ∀ (u : Tr) (hs hs' : List Value) (w : World),TreeV w t hs → TreeV w u hs' →
   Calls Tryz.prog 24 #[.agg hs.toArray,.agg hs'.toArray] w fun e w'=>e = .returned (.bool (eqT t u)) ∧ Below w.heap.size w w')
  (motive_2:=fun ks=>sizeK ks = true → ∀ (k : Nat) (t : Tr),ks[k]? = some t → ∀ (u : Tr) (hs hs' : List Value) (w : World),TreeV w t hs → TreeV w u hs' →
   Calls Tryz.prog 24 #[.agg hs.toArray,.agg hs'.toArray] w fun e w'=>e = .returned (.bool (eqT t u)) ∧ Below w.heap.size w w') ?_ ?_ ?_ t
 ·intro lb tx al ks ih hsz u hs hs' w h1 h2
  cases u with
  | node lb2 tx2 al2 ks2=>
   simp only [sizeT,Bool.and_eq_true,decide_eq_true_eq] at hsz
   rw [TreeV.eq] at h1 h2
   obtain ⟨va,vk,rfl,h3,l,h4,h5⟩:=h1
   obtain ⟨vb,vm,rfl,h6,m,h7,h8⟩:=h2
   obtain ⟨a,c,g,off,rfl,ha,hc⟩:=attr_at h3
   obtain ⟨a2,c2,g2,off2,rfl,ha2,hc2⟩:=attr_at h6
   obtain ⟨d,e0,gk,ok,rfl,hd,hkc⟩:=kid_at h4 h5
   obtain ⟨d2,e2,gj,oj,rfl,hd2,hjc⟩:=kid_at h7 h8
   by_cases h : lb = lb2 ∧ tx = tx2 ∧ al.length = al2.length ∧ ks.length = ks2.length
   ·obtain ⟨rfl,rfl,g1,g3⟩:=h
    rw [← g1] at ha2 ⊢
    rw [← g3] at hd2 ⊢
    by_cases hx : al = al2
    ·have e : eqT (.node lb tx al ks) (.node lb tx al2 ks2) = eqK ks ks2:=by simp [eqT,hx]
     rw [e]
     exact sameTr_kids lb tx a d a2 d2 al.length c ks.length e0 c2 e2 w al al2 g off g2 off2 rfl g1.symm hsz.1.1 ha ha2 hc hc2 hx ks ks2 gk ok gj oj rfl g3.symm hsz.1.2 hd hd2 hkc hjc (ih hsz.2)
    ·have e : eqT (.node lb tx al ks) (.node lb tx al2 ks2) = false:=by simp [eqT,hx]
     rw [e]
     exact sameTr_attr lb tx a d a2 d2 al.length c ks.length e0 c2 e2 w al al2 g off g2 off2 rfl g1.symm hsz.1.1 ha ha2 hc hc2 hx
   ·rw [eqT_bad h]
    exact sameTr_head lb tx lb2 tx2 a d a2 d2 al.length c ks.length e0 al2.length c2 ks2.length e2 w h
 ·intro _ k t h
  simp at h
 ·intro t ks ih1 ih2 hsz k u hk
  simp only [sizeK,Bool.and_eq_true] at hsz
  cases k with
  | zero=>
   simp only [List.getElem?_cons_zero,Option.some.injEq] at hk
   rw [← hk]
   exact ih1 hsz.1
  | succ k=>exact ih2 hsz.2 k u (by simpa using hk)
open Go.RowKit
theorem none_tree (W : World) : TreeV W (.node [] [] [] []) [.string ⟨#[]⟩,.string ⟨#[]⟩,.slice none 0 0,.slice none 0 0]:=by
 rw [TreeV.eq]
 refine ⟨.slice none 0 0,.slice none 0 0,rfl,⟨none,0,rfl,Nat.le_refl _,rfl,fun h=>absurd h (by simp)⟩,[],by rw [KidsV],⟨none,0,rfl,Nat.le_refl _,rfl,fun h=>absurd h (by simp)⟩⟩
set_option maxHeartbeats 1000000 in
theorem none_any (t : Tr) (hs : List Value) (w : World) (hz : sizeT t = true) (h : TreeV w t hs) :
  Calls Tryz.prog 11 #[.agg hs.toArray] w fun e w'=>e = .returned (.bool (eqT t (.node [] [] [] []))) ∧ Below w.heap.size w w':=by
 cases t with
 | node lb tx al ks=>
  have h0:=h
  rw [TreeV.eq] at h0
  obtain ⟨va,vk,rfl,_⟩:=h0
  have HS : Hid (∀ W,Below w.heap.size w W → Calls Tryz.prog 24 #[.agg #[.string ⟨lb.toArray⟩,.string ⟨tx.toArray⟩,va,vk],.agg #[.string ⟨#[]⟩,.string ⟨#[]⟩,.slice none 0 0,.slice none 0 0]] W fun e w'=>e = .returned (.bool (eqT (.node lb tx al ks) (.node [] [] [] []))) ∧ Below w.heap.size w w'):=Lib.hid (fun W hb=>(sameTr_any _ hz (.node [] [] [] []) _ _ W (h.below hb (Nat.le_refl _)) (none_tree W)).mono (fun e w' r=>⟨r.1,th hb (Nat.le_refl _) r.2⟩))
  have HB1:=Lib.hid ((Below.refl _ w).alloc (Nat.le_refl _) (.cells #[.string ⟨lb.toArray⟩,.string ⟨tx.toArray⟩,va,vk] 27))
  obtain ⟨c0,c1,c2,c3⟩:=(Box4.made ⟨lb.toArray⟩ ⟨tx.toArray⟩ va vk w).at
  clear h hz
  go_enter Tryz.func11,Tryz.ntmps11
  go_wp2_with fail
  refine (HS.out _ HB1.out).mono ?_
  rintro e w2 ⟨rfl,hb2⟩
  go_wp2
  go_ret
  exact ⟨rfl,hb2⟩
theorem stepCells_len (l : List Stp) : (stepCells l).length = l.length * 3:=by
 unfold stepCells
 induction l with
 | nil=>rfl
 | cons a t ih=>rw [List.flatMap_cons,List.length_append,ih,List.length_cons];simp;omega
theorem stepCells_append (a b : List Stp) : stepCells (a ++ b) = stepCells a ++ stepCells b:=by unfold stepCells;rw [List.flatMap_append]
theorem stepCells_get : ∀ (l : List Stp) (i : Nat) (s : Stp),l[i]? = some s → (stepCells l)[i * 3]? = some (.int .i64 s.kind) ∧ (stepCells l)[i * 3 + 1]? = some (.string ⟨s.name.toArray⟩) ∧ (stepCells l)[i * 3 + 2]? = some (.string ⟨s.text.toArray⟩):=by
 intro l
 induction l with
 | nil=>intro i s h;simp at h
 | cons a t ih=>
  intro i s h
  have e : stepCells (a :: t) = .int .i64 a.kind :: .string ⟨a.name.toArray⟩ :: .string ⟨a.text.toArray⟩ :: stepCells t:=rfl
  cases i with
  | zero=>
   simp only [List.getElem?_cons_zero,Option.some.injEq] at h
   subst h
   exact ⟨rfl,rfl,rfl⟩
  | succ i=>
   have:=ih i s (by simpa using h)
   rw [e,show (i + 1) * 3 = i * 3 + 1 + 1 + 1 by omega]
   simp only [List.getElem?_cons_succ]
   exact this
theorem step_at {w : World} {v : Value} {l : List Stp} (h : AtRow w v l.length 3 (stepCells l)) : ∃ a c g off,v = .slice a l.length c ∧ (0 < l.length → a = some ⟨g,off,none⟩) ∧
  ∀ k s,l[k]? = some s → w.cell? ⟨g,off + k * 3,none⟩ = some (.int .i64 s.kind) ∧ w.cell? ⟨g,off + k * 3 + 1,none⟩ = some (.string ⟨s.name.toArray⟩) ∧ w.cell? ⟨g,off + k * 3 + 2,none⟩ = some (.string ⟨s.text.toArray⟩):=by
 obtain ⟨a,c,rfl,_,_,hx⟩:=h
 by_cases h0 : 0 < l.length
 ·obtain ⟨g,off,hag,hc⟩:=hx h0
  refine ⟨a,c,g,off,rfl,fun _=>hag,fun k s hk=>?_⟩
  obtain ⟨h1,h2,h3⟩:=stepCells_get l k s hk
  exact ⟨hc _ _ h1,by rw [Nat.add_assoc];exact hc _ _ h2,by rw [Nat.add_assoc];exact hc _ _ h3⟩
 ·refine ⟨a,c,0,0,rfl,fun h=>absurd h h0,fun k s hk=>?_⟩
  have:=(List.getElem?_eq_some_iff.1 hk).1
  omega
set_option maxHeartbeats 4000000 in
theorem stepsEq_any (xs ys : List Stp) (v v' : Value) (w : World) (hv : AtRow w v xs.length 3 (stepCells xs)) (hv' : AtRow w v' ys.length 3 (stepCells ys)) (hl : xs.length ≤ 1000000) :
  Calls Tryz.prog 16 #[v,v'] w fun e w'=>e = .returned (.bool (decide (xs = ys))) ∧ Below w.heap.size w w':=by
 obtain ⟨a,c,g,off,rfl,ha,hc⟩:=step_at hv
 obtain ⟨a2,c2,g2,off2,rfl,ha2,hc2⟩:=step_at hv'
 by_cases hxy : xs.length = ys.length
 ·obtain ⟨n,hn⟩ : ∃ n,xs.length = n:=⟨_,rfl⟩
  have hn2 : ys.length = n:=by rw [← hxy,hn]
  rw [hn] at ha hl
  rw [hn2] at ha2
  rw [hn,hn2]
  have HA:=Lib.hid ha
  have HA2:=Lib.hid ha2
  have HC:=Lib.hid hc
  have HC2:=Lib.hid hc2
  have HN1:=Lib.hid hn
  have HN2:=Lib.hid hn2
  clear hv hv' ha ha2 hc hc2 hn hn2 hxy
  go_enter Tryz.func16,Tryz.ntmps16
  go_wp2_with fail
  go_loopw [5] (fun i wr=>∃ k : Nat,k ≤ n ∧ i = .int .i64 k ∧ Hid (xs.take k = ys.take k) ∧ Hid (Below w.heap.size w wr)) (fun i _=>n - (intOf i).toNat)
  case atStart=>exact ⟨0,by omega,rfl,Lib.hid rfl,Lib.hid (Below.refl _ _)⟩
  case round=>
   obtain ⟨k,hk,rfl,HT,HB⟩:=hrel
   by_cases hlt : k < n
   ·obtain rfl:=HA.out (by omega)
    obtain rfl:=HA2.out (by omega)
    obtain ⟨⟨p0,p1,p2⟩,hp⟩ : ∃ b,xs[k]? = some b:=⟨_,List.getElem?_eq_getElem (by rw [HN1.out];omega)⟩
    obtain ⟨⟨q0,q1,q2⟩,hq⟩ : ∃ b,ys[k]? = some b:=⟨_,List.getElem?_eq_getElem (by rw [HN2.out];omega)⟩
    obtain ⟨r1,r2,r3⟩:=HC.out k _ hp
    obtain ⟨r4,r5,r6⟩:=HC2.out k _ hq
    simp only at r1 r2 r3 r4 r5 r6
    have up : ∀ {p : Addr} {u : Value},w.cell? p = some u → wr.cell? p = some u:=fun h=>(HB.out.cell (block_lt_of_cell h)).trans h
    have s1:=up r1
    have s2:=up r2
    have s3:=up r3
    have s4:=up r4
    have s5:=up r5
    have s6:=up r6
    have hi0 : (0 : Int) ≤ k:=by omega
    have hi1 : (k : Int) < n:=by omega
    clear r1 r2 r3 r4 r5 r6 up
    by_cases he : p0 = q0 ∧ p1 = q1 ∧ p2 = q2
    ·obtain ⟨rfl,rfl,rfl⟩:=he
     have HN : Hid (xs.take (k + 1) = ys.take (k + 1)):=Lib.hid (by
      rw [List.take_add_one,List.take_add_one,hp,hq,HT.out])
     clear hp hq
     go_wp2_with fail
     go_quiet (fail)
     go_wp2
     exact ⟨⟨k + 1,by omega,by go_num,HN,Lib.hid (below_drewN HB.out _)⟩,by simp [intOf];omega⟩
    ·have HE : Hid (¬ xs = ys):=Lib.hid (fun e=>he (by
      subst e
      have h5:=Option.some.inj (hp.symm.trans hq)
      simp only [Stp.mk.injEq] at h5
      exact h5))
     by_cases h1 : p0 = q0
     ·subst h1
      by_cases h2 : p1 = q1
      ·subst h2
       have hb2 : (p2 == q2) = false:=beq_eq_false_iff_ne.2 (fun h2=>he ⟨rfl,rfl,h2⟩)
       clear hp hq he
       go_wp2_with fail
       go_quiet (fail)
       go_wp2
       go_ret
       exact ⟨by rw [decide_eq_false HE.out];rfl,below_drewN HB.out _⟩
      ·have hb1 : (p1 == q1) = false:=beq_eq_false_iff_ne.2 h2
       clear hp hq he h2
       go_wp2_with fail
       go_quiet (fail)
       go_wp2
       go_ret
       exact ⟨by rw [decide_eq_false HE.out];rfl,below_drewN HB.out _⟩
     ·have hb1 : (p0 == q0) = false:=beq_eq_false_iff_ne.2 h1
      clear hp hq he h1
      go_wp2_with fail
      go_quiet (fail)
      go_wp2
      go_ret
      exact ⟨by rw [decide_eq_false HE.out];rfl,below_drewN HB.out _⟩
   ·have HE : Hid (xs = ys):=Lib.hid (by have h2:=HT.out;rwa [List.take_of_length_le (by rw [HN1.out];omega),List.take_of_length_le (by rw [HN2.out];omega)] at h2)
    go_wp2
    go_ret
    exact ⟨by rw [decide_eq_true HE.out];rfl,HB.out⟩
 ·have hne : ((xs.length : Int) == (ys.length : Int)) = false:=by rw [beq_eq_false_iff_ne];omega
  have HE : Hid (¬ xs = ys):=Lib.hid (fun e=>hxy (by rw [e]))
  clear hv hv' ha ha2 hc hc2 hxy
  go_enter Tryz.func16,Tryz.ntmps16
  go_wp2
  go_ret
  exact ⟨by rw [decide_eq_false HE.out];rfl,Below.refl _ _⟩
end Go.Proofs.YtjldpkhfiffinaaGreatDoor.U
