/- Contracts and plain facts that the law stands on: Q2, T2, Law0, Tx, Lw0, Va0, Tl, Va. -/
import Derived.Test.YtjldpkhfiffinaaGreatDoorZC01
import Derived.Test.YtjldpkhfiffinaaGreatDoorZC02
import Derived.Test.YtjldpkhfiffinaaGreatDoorZC03
import Derived.Test.YtjldpkhfiffinaaGreatDoorZC04
import Derived.Test.YtjldpkhfiffinaaGreatDoorZC05
import Derived.Test.YtjldpkhfiffinaaGreatDoorZC06
import Derived.Test.YtjldpkhfiffinaaGreatDoorZC07
import Derived.Test.YtjldpkhfiffinaaGreatDoorZC08
import Derived.Test.YtjldpkhfiffinaaGreatDoorZC09
import Derived.Test.YtjldpkhfiffinaaGreatDoorZC10
import Derived.Test.YtjldpkhfiffinaaGreatDoorZC11
import Derived.Test.YtjldpkhfiffinaaGreatDoorZC12
import Derived.Test.YtjldpkhfiffinaaGreatDoorZC13
import Derived.Test.YtjldpkhfiffinaaGreatDoorZC14
import Derived.Test.YtjldpkhfiffinaaGreatDoorZC15
import Derived.Test.YtjldpkhfiffinaaGreatDoorZC16
import Derived.Test.YtjldpkhfiffinaaGreatDoorZC17
import Derived.Test.YtjldpkhfiffinaaGreatDoorZC18
import Derived.Test.YtjldpkhfiffinaaGreatDoorZC19
import Derived.Test.YtjldpkhfiffinaaGreatDoorZC20
import Derived.Test.YtjldpkhfiffinaaGreatDoorZC21
import Derived.Test.YtjldpkhfiffinaaGreatDoorZC22
import Derived.Test.YtjldpkhfiffinaaGreatDoorZC23
import Derived.Test.YtjldpkhfiffinaaGreatDoorZC24
import Derived.Test.YtjldpkhfiffinaaGreatDoorZC25
import Derived.Test.YtjldpkhfiffinaaGreatDoorZC26
import Derived.Test.YtjldpkhfiffinaaGreatDoorZC27
import Derived.Test.YtjldpkhfiffinaaGreatDoorZC28
import Derived.Test.YtjldpkhfiffinaaGreatDoorZC29
import Derived.Test.YtjldpkhfiffinaaGreatDoorZC30
import Derived.Test.YtjldpkhfiffinaaGreatDoorZC31
import Derived.Test.YtjldpkhfiffinaaGreatDoorZC32
import Derived.Test.YtjldpkhfiffinaaGreatDoorZC33
import Derived.Test.YtjldpkhfiffinaaGreatDoorZC34
import Derived.Test.YtjldpkhfiffinaaGreatDoorZCPr
import Derived.Below
import Derived.Laws.RangeAny
import Derived.WalkLawsBesides
import Derived.Lib.RuneBytes
import Derived.Lib.Strings
import Derived.Lib.Bytealg
import Derived.RowKit3
import Derived.WalkKit
import Derived.WalkSpells
import Derived.Lib.Hide
import Derived.Laws.Rows
import Derived.Test.YtjldpkhfiffinaaGreatDoorRows
import Derived.Lib.OthersKept
import Derived.BigQuiet
import Derived.BigCall
import Derived.Shelf.Abstract
import Derived.Deep.QuietTactic
import Derived.Deep.DeepMust
import Derived.Deep.RegionLaw
import Derived.Maps.AppendAt
import Derived.BigRegion
import Derived.RangeFuncBox
import Derived.Lib.ConvBytes
import Derived.Shelf.Strings.Builder1
import Derived.Shelf.Strings.Builder2
import Derived.Shelf.Small.Strs
import Derived.Shelf.Small.Wraps
import Derived.Shelf.Strings.BuilderF
import Derived.Shelf.Strings.BuilderK
import Derived.Shelf.Strings.BuilderRune
import Derived.Ground.MpProg
import Derived.Shelf.Pu.ParseUintPublic10
import Derived.Shelf.Strings.Search1
import Derived.Shelf.Strings.Search2
import Derived.Shelf.Strings.Search3
import Derived.Shelf.Strings.Cut
import Derived.Shelf.Strings.Count
import Derived.Shelf.LaysM
import Derived.Shelf.Strings.Shaped
import Derived.Shelf.Strings.Prefix
import Derived.Shelf.Strings.Split
import Derived.Shelf.Strings.Replace
import Derived.Shelf.Strings.SplitShaped
import Derived.Shelf.Unicode.DecodeSlow
import Derived.Lib.Walk
import Derived.Laws.Strings3
import Derived.Laws.Closers25
import Derived.Laws.Closers25b
import Derived.BigGuard
import Derived.Shelf.Pu.ToError
import Derived.Laws.IdiomStrings
import Derived.Laws.BytesArg
import Derived.Laws.ResultCell
import Derived.Deep.RegionHeld3
import Derived.OwnWalk
import Derived.RangeFuncNested
import Derived.RangeFuncBound
import Derived.RangeFuncLeaves
import Derived.Shelf.RegionOpen
import Derived.OwnWalkIn
import Derived.TacticsInMore
import Derived.LoopNIn
import Derived.LoopIn
import Derived.Deep.CutBlock
import Derived.Deep.DeepCutAuto
import Derived.Deep.AppendLies
import Derived.StillTailTactics
import Derived.Laws.AppendOwnNone
import Derived.ArgAppend
import Derived.Sort.Row
import Derived.Deep.MidRow
import Derived.Deep.WholeRow
import Derived.Defers
import Derived.Laws.Pointers
import Derived.Laws.LoneSync
import Derived.RegionTactic
import Derived.RegionCalls
import Derived.Lib.SliceRun
import Derived.WalkMore
import Derived.Deep.RegionWith
import Derived.Maps.OwnSet
import Derived.Laws.EntriesVeiled
import Derived.Shelf.GgSortFunc.InsertionK
import Derived.TacticsIn
import Derived.Shelf.SlSortCmp.NoneTotal
import Derived.Ground.SlsfProg
import Derived.Shelf.SlSorted.Search
import Derived.Lib.AppendStr
import Derived.Lib.SlBytesConst
namespace Go.Proofs.YtjldpkhfiffinaaGreatDoor.U
theorem name_whole {n : List UInt8} (h : nameL n = true) : Whole n:=ascii_whole fun b hb=>by
 have:=nameL_named h b hb
 simp only [namedI,decide_eq_true_eq] at this
 exact ⟨isC_yes (by omega),by omega⟩
theorem name_no13 {n : List UInt8} (h : nameL n = true) : ∀ b ∈ n,b ≠ 13:=by
 rintro b hb rfl
 have:=nameL_named h 13 hb
 revert this;decide
theorem esc_no13 (v : Bool) (l : List UInt8) : ∀ b ∈ escL v l,b ≠ 13:=by
 rintro b hb rfl
 have:=esc_good v l 13 hb
 revert this;cases v <;> decide
theorem linesL_id {l : List UInt8} (h : ∀ b ∈ l,b ≠ 13) : linesL l = l:=by
 induction l with
 | nil=>rfl
 | cons c t ih=>
  simp only [linesL]
  rw [if_neg (h c (by simp)),ih (fun b hb=>h b (by simp [hb]))]
open Go.RowKit
theorem eqT_self (t : Tr) : eqT t t = true:=by
 refine Tr.rec (motive_1:=fun t=>eqT t t = true) (motive_2:=fun ks=>eqK ks ks = true) ?_ ?_ ?_ t
 ·intro lb tx al ks ih
  simp [eqT,ih]
 ·rfl
 ·intro t ks h1 h2
  simp [eqK,h1,h2]
open Go.RowKit
theorem eqK_take : ∀ {ks js : List Tr},ks.length = js.length → (∀ (k : Nat) (t u : Tr),ks[k]? = some t → js[k]? = some u → eqT t u = true) → eqK ks js = true:=by
 intro ks
 induction ks with
 | nil=>intro js hl _;cases js with | nil=>rfl | cons _ _=>simp at hl
 | cons t r ih=>
  intro js hl h
  cases js with
  | nil=>simp at hl
  | cons u q=>
   simp only [eqK,Bool.and_eq_true]
   exact ⟨h 0 t u rfl rfl,ih (by simpa using hl) (fun k a b ha hb=>h (k + 1) a b (by simpa using ha) (by simpa using hb))⟩
theorem eqK_len : ∀ {ks js : List Tr},eqK ks js = true → ks.length = js.length:=by
 intro ks
 induction ks with
 | nil=>intro js h;cases js with | nil=>rfl | cons _ _=>simp [eqK] at h
 | cons t r ih=>
  intro js h
  cases js with
  | nil=>simp [eqK] at h
  | cons u q=>
   simp only [eqK,Bool.and_eq_true] at h
   simp [ih h.2]
theorem eqK_bad {ks js : List Tr} {k : Nat} {t u : Tr} (h1 : ks[k]? = some t) (h2 : js[k]? = some u) (h : eqT t u = false) : eqK ks js = false:=by
 induction ks generalizing js k with
 | nil=>simp at h1
 | cons a r ih=>
  cases js with
  | nil=>simp at h2
  | cons b q=>
   cases k with
   | zero=>
    simp only [List.getElem?_cons_zero,Option.some.injEq] at h1 h2
    subst h1 h2
    simp [eqK,h]
   | succ k=>simp [eqK,ih (by simpa using h1) (by simpa using h2)]
open Go.RowKit
set_option maxHeartbeats 2000000 in
theorem sameTr_head (lb tx lb2 tx2 : List UInt8) (a d a2 d2 : Option Addr) (n1 c n2 e0 m1 c2 m2 e2 : Nat) (w : World) (h : ¬ (lb = lb2 ∧ tx = tx2 ∧ n1 = m1 ∧ n2 = m2)) :
  Calls Tryz.prog 24 #[.agg #[.string ⟨lb.toArray⟩,.string ⟨tx.toArray⟩,.slice a n1 c,.slice d n2 e0],.agg #[.string ⟨lb2.toArray⟩,.string ⟨tx2.toArray⟩,.slice a2 m1 c2,.slice d2 m2 e2]] w fun e w'=>e = .returned (.bool false) ∧ Below w.heap.size w w':=by
 obtain ⟨w1,hw1⟩ : ∃ w1,w1 = w.alloc (.cells #[.string ⟨lb.toArray⟩,.string ⟨tx.toArray⟩,.slice a n1 c,.slice d n2 e0] 27):=⟨_,rfl⟩
 have HB1 : Below w.heap.size w w1:=by rw [hw1];exact (Below.refl _ w).alloc (Nat.le_refl _) _
 have HB2 : Below w.heap.size w (w1.alloc (.cells #[.string ⟨lb2.toArray⟩,.string ⟨tx2.toArray⟩,.slice a2 m1 c2,.slice d2 m2 e2] 27)):=al HB1 (Nat.le_refl _) _
 have HK1 : Box4 w.heap.size ⟨lb.toArray⟩ ⟨tx.toArray⟩ (.slice a n1 c) (.slice d n2 e0) w1:=by rw [hw1];exact Box4.made _ _ _ _ _
 have HK1':=HK1.below ((Below.refl _ w1).alloc (Nat.le_refl _) (.cells #[.string ⟨lb2.toArray⟩,.string ⟨tx2.toArray⟩,.slice a2 m1 c2,.slice d2 m2 e2] 27)) (Nat.le_refl _)
 have HK2:=Box4.made ⟨lb2.toArray⟩ ⟨tx2.toArray⟩ (.slice a2 m1 c2) (.slice d2 m2 e2) w1
 subst hw1
 have HB2:=Lib.hid HB2
 obtain ⟨c0,c1,c3,c4⟩:=HK1'.at
 obtain ⟨d0,d1,d3,d4⟩:=HK2.at
 clear HK1 HK1' HK2 HB1
 by_cases h1 : lb = lb2
 ·subst h1
  by_cases h2 : tx = tx2
  ·subst h2
   by_cases h3 : n1 = m1
   ·subst h3
    have h4 : ((n2 : Int) == (m2 : Int)) = false:=by rw [beq_eq_false_iff_ne];intro e;exact h ⟨rfl,rfl,rfl,by omega⟩
    clear h
    go_enter Tryz.func24,Tryz.ntmps24
    go_wp2
    go_ret
    exact ⟨rfl,HB2.out⟩
   ·have h4 : ((n1 : Int) == (m1 : Int)) = false:=by rw [beq_eq_false_iff_ne];omega
    clear h h3
    go_enter Tryz.func24,Tryz.ntmps24
    go_wp2
    go_ret
    exact ⟨rfl,HB2.out⟩
  ·have h4 : (tx == tx2) = false:=beq_eq_false_iff_ne.2 h2
   clear h h2
   go_enter Tryz.func24,Tryz.ntmps24
   go_wp2
   go_ret
   exact ⟨rfl,HB2.out⟩
 ·have h4 : (lb == lb2) = false:=beq_eq_false_iff_ne.2 h1
  clear h h1
  go_enter Tryz.func24,Tryz.ntmps24
  go_wp2
  go_ret
  exact ⟨rfl,HB2.out⟩
set_option maxHeartbeats 4000000 in
set_option maxRecDepth 20000 in
theorem sameTr_attr (lb tx : List UInt8) (a d a2 d2 : Option Addr) (n1 c n2 e0 c2 e2 : Nat) (w : World) (xs ys : List (List UInt8 × List UInt8)) (g off g2 off2 : Nat) (hn : xs.length = n1) (hn2 : ys.length = n1) (hl : n1 ≤ 100000) (ha : 0 < n1 → a = some ⟨g,off,none⟩) (ha2 : 0 < n1 → a2 = some ⟨g2,off2,none⟩)
  (hc : ∀ k b,xs[k]? = some b → w.cell? ⟨g,off + k * 2,none⟩ = some (.string ⟨b.1.toArray⟩) ∧ w.cell? ⟨g,off + k * 2 + 1,none⟩ = some (.string ⟨b.2.toArray⟩))
  (hc2 : ∀ k b,ys[k]? = some b → w.cell? ⟨g2,off2 + k * 2,none⟩ = some (.string ⟨b.1.toArray⟩) ∧ w.cell? ⟨g2,off2 + k * 2 + 1,none⟩ = some (.string ⟨b.2.toArray⟩)) (hne : ¬ xs = ys) :
  Calls Tryz.prog 24 #[.agg #[.string ⟨lb.toArray⟩,.string ⟨tx.toArray⟩,.slice a n1 c,.slice d n2 e0],.agg #[.string ⟨lb.toArray⟩,.string ⟨tx.toArray⟩,.slice a2 n1 c2,.slice d2 n2 e2]] w fun e w'=>e = .returned (.bool false) ∧ Below w.heap.size w w':=by
 obtain ⟨w1,hw1⟩ : ∃ w1,w1 = w.alloc (.cells #[.string ⟨lb.toArray⟩,.string ⟨tx.toArray⟩,.slice a n1 c,.slice d n2 e0] 27):=⟨_,rfl⟩
 have HB1 : Below w.heap.size w w1:=by rw [hw1];exact (Below.refl _ w).alloc (Nat.le_refl _) _
 have HB2 : Below w.heap.size w (w1.alloc (.cells #[.string ⟨lb.toArray⟩,.string ⟨tx.toArray⟩,.slice a2 n1 c2,.slice d2 n2 e2] 27)):=al HB1 (Nat.le_refl _) _
 have HK1 : Box4 w.heap.size ⟨lb.toArray⟩ ⟨tx.toArray⟩ (.slice a n1 c) (.slice d n2 e0) w1:=by rw [hw1];exact Box4.made _ _ _ _ _
 have HK1':=HK1.below ((Below.refl _ w1).alloc (Nat.le_refl _) (.cells #[.string ⟨lb.toArray⟩,.string ⟨tx.toArray⟩,.slice a2 n1 c2,.slice d2 n2 e2] 27)) (Nat.le_refl _)
 have HK2:=Box4.made ⟨lb.toArray⟩ ⟨tx.toArray⟩ (.slice a2 n1 c2) (.slice d2 n2 e2) w1
 obtain ⟨w2,hw2⟩ : ∃ w2,w2 = w1.alloc (.cells #[.string ⟨lb.toArray⟩,.string ⟨tx.toArray⟩,.slice a2 n1 c2,.slice d2 n2 e2] 27):=⟨_,rfl⟩
 rw [← hw2] at HB2 HK1' HK2
 have hsz : w1.heap.size = w.heap.size + 1:=by rw [hw1];simp
 rw [hsz] at HK2
 have HW2 : Hid (w2 = (w.alloc (.cells #[.string ⟨lb.toArray⟩,.string ⟨tx.toArray⟩,.slice a n1 c,.slice d n2 e0] 27)).alloc (.cells #[.string ⟨lb.toArray⟩,.string ⟨tx.toArray⟩,.slice a2 n1 c2,.slice d2 n2 e2] 27)):=Lib.hid (by rw [hw2,hw1])
 obtain ⟨c0,c1,c3,c4⟩:=HK1'.at
 obtain ⟨d0,d1,d3,d4⟩:=HK2.at
 have HBX : Hid (∀ W,Below w2.heap.size w2 W → W.cell? ⟨w.heap.size,2,none⟩ = some (.slice a n1 c) ∧ W.cell? ⟨w.heap.size + 1,2,none⟩ = some (.slice a2 n1 c2) ∧ W.cell? ⟨w.heap.size,3,none⟩ = some (.slice d n2 e0) ∧ W.cell? ⟨w.heap.size + 1,3,none⟩ = some (.slice d2 n2 e2)):=Lib.hid (fun W hb=>⟨(hb.cell (block_lt_of_cell c3)).trans c3,(hb.cell (block_lt_of_cell d3)).trans d3,(hb.cell (block_lt_of_cell c4)).trans c4,(hb.cell (block_lt_of_cell d4)).trans d4⟩)
 have HB2:=Lib.hid HB2
 have HA:=Lib.hid ha
 have HA2:=Lib.hid ha2
 have HC:=Lib.hid hc
 have HC2:=Lib.hid hc2
 have HN1:=Lib.hid hn
 have HN2:=Lib.hid hn2
 clear ha ha2 hc hc2 hn hn2 c0 c1 c3 c4 d0 d1 d3 d4 HK1 HK1' HK2 HB1 hsz hw1 hw2
 have HNE:=Lib.hid hne
 clear hne
 go_enter Tryz.func24,Tryz.ntmps24
 go_wp2_with fail
 go_loopw [5] (fun i wr=>∃ k : Nat,k ≤ n1 ∧ i = .int .i64 k ∧ Hid (xs.take k = ys.take k) ∧ Hid (Below w2.heap.size w2 wr)) (fun i _=>n1 - (intOf i).toNat)
 case atStart=>exact ⟨0,by omega,rfl,Lib.hid rfl,Lib.hid (by rw [HW2.out];exact Below.refl _ _)⟩
 case round=>
  obtain ⟨k,hk,rfl,HT,HB⟩:=hrel
  obtain ⟨x3,y3,x4,y4⟩:=HBX.out _ HB.out
  by_cases hlt : k < n1
  ·obtain rfl:=HA.out (by omega)
   obtain rfl:=HA2.out (by omega)
   obtain ⟨⟨p1,p2⟩,hp⟩ : ∃ b,xs[k]? = some b:=⟨_,List.getElem?_eq_getElem (by rw [HN1.out];omega)⟩
   obtain ⟨⟨q1,q2⟩,hq⟩ : ∃ b,ys[k]? = some b:=⟨_,List.getElem?_eq_getElem (by rw [HN2.out];omega)⟩
   obtain ⟨r1,r2⟩:=HC.out k _ hp
   obtain ⟨r3,r4⟩:=HC2.out k _ hq
   simp only at r1 r2 r3 r4
   have up : ∀ {p : Addr} {u : Value},w.cell? p = some u → wr.cell? p = some u:=fun h=>(HB.out.cell (Nat.lt_of_lt_of_le (block_lt_of_cell h) HB2.out.size)).trans ((HB2.out.cell (block_lt_of_cell h)).trans h)
   have s1:=up r1
   have s2:=up r2
   have s3:=up r3
   have s4:=up r4
   have hi0 : (0 : Int) ≤ k:=by omega
   have hi1 : (k : Int) < n1:=by omega
   clear r1 r2 r3 r4 up
   by_cases he : p1 = q1 ∧ p2 = q2
   ·obtain ⟨rfl,rfl⟩:=he
    have HN : Hid (xs.take (k + 1) = ys.take (k + 1)):=Lib.hid (by
     rw [List.take_add_one,List.take_add_one,hp,hq,HT.out])
    clear hp hq
    go_wp2_with fail
    go_quiet (fail)
    go_wp2
    exact ⟨⟨k + 1,by omega,by go_num,HN,Lib.hid (below_drewN HB.out _)⟩,by simp [intOf];omega⟩
   ·have HBE:=Lib.hid (th HB2.out (Nat.le_refl _) HB.out)
    by_cases h1 : p1 = q1
    ·subst h1
     have hb2 : (p2 == q2) = false:=beq_eq_false_iff_ne.2 (fun h2=>he ⟨rfl,h2⟩)
     clear hp hq he
     go_wp2_with fail
     go_quiet (fail)
     go_wp2
     go_ret
     exact ⟨rfl,below_drewN HBE.out _⟩
    ·have hb1 : (p1 == q1) = false:=beq_eq_false_iff_ne.2 h1
     clear hp hq he h1
     go_wp2_with fail
     go_quiet (fail)
     go_wp2
     go_ret
     exact ⟨rfl,below_drewN HBE.out _⟩
  ·exfalso
   refine HNE.out ?_
   have h2:=HT.out
   rwa [List.take_of_length_le (by rw [HN1.out];omega),List.take_of_length_le (by rw [HN2.out];omega)] at h2
set_option maxHeartbeats 4000000 in
set_option maxRecDepth 20000 in
theorem sameTr_kids (lb tx : List UInt8) (a d a2 d2 : Option Addr) (n1 c n2 e0 c2 e2 : Nat) (w : World) (xs ys : List (List UInt8 × List UInt8)) (g off g2 off2 : Nat) (hn : xs.length = n1) (hn2 : ys.length = n1) (hl : n1 ≤ 100000) (ha : 0 < n1 → a = some ⟨g,off,none⟩) (ha2 : 0 < n1 → a2 = some ⟨g2,off2,none⟩)
  (hc : ∀ k b,xs[k]? = some b → w.cell? ⟨g,off + k * 2,none⟩ = some (.string ⟨b.1.toArray⟩) ∧ w.cell? ⟨g,off + k * 2 + 1,none⟩ = some (.string ⟨b.2.toArray⟩))
  (hc2 : ∀ k b,ys[k]? = some b → w.cell? ⟨g2,off2 + k * 2,none⟩ = some (.string ⟨b.1.toArray⟩) ∧ w.cell? ⟨g2,off2 + k * 2 + 1,none⟩ = some (.string ⟨b.2.toArray⟩)) (hxy : xs = ys) (ks js : List Tr) (gk ok gj oj : Nat) (hk : ks.length = n2) (hj : js.length = n2) (hl2 : n2 ≤ 100000) (hd : 0 < n2 → d = some ⟨gk,ok,none⟩) (hd2 : 0 < n2 → d2 = some ⟨gj,oj,none⟩) (hkc : ∀ (k : Nat) (l1 t1 : List UInt8) (al1 : List (List UInt8 × List UInt8)) (js1 : List Tr),ks[k]? = some (.node l1 t1 al1 js1) → ∃ va vk,w.cell? ⟨gk,ok + k * 4,none⟩ = some (.string ⟨l1.toArray⟩) ∧ w.cell? ⟨gk,ok + k * 4 + 1,none⟩ = some (.string ⟨t1.toArray⟩) ∧ w.cell? ⟨gk,ok + k * 4 + 2,none⟩ = some va ∧ w.cell? ⟨gk,ok + k * 4 + 3,none⟩ = some vk ∧ TreeV w (.node l1 t1 al1 js1) [.string ⟨l1.toArray⟩,.string ⟨t1.toArray⟩,va,vk]) (hjc : ∀ (k : Nat) (l1 t1 : List UInt8) (al1 : List (List UInt8 × List UInt8)) (js1 : List Tr),js[k]? = some (.node l1 t1 al1 js1) → ∃ va vk,w.cell? ⟨gj,oj + k * 4,none⟩ = some (.string ⟨l1.toArray⟩) ∧ w.cell? ⟨gj,oj + k * 4 + 1,none⟩ = some (.string ⟨t1.toArray⟩) ∧ w.cell? ⟨gj,oj + k * 4 + 2,none⟩ = some va ∧ w.cell? ⟨gj,oj + k * 4 + 3,none⟩ = some vk ∧ TreeV w (.node l1 t1 al1 js1) [.string ⟨l1.toArray⟩,.string ⟨t1.toArray⟩,va,vk])
  (IH : ∀ (k : Nat) (t : Tr),ks[k]? = some t → ∀ (u : Tr) (hs hs' : List Value) (W : World),TreeV W t hs → TreeV W u hs' → Calls Tryz.prog 24 #[.agg hs.toArray,.agg hs'.toArray] W fun e w'=>e = .returned (.bool (eqT t u)) ∧ Below W.heap.size W w') :
  Calls Tryz.prog 24 #[.agg #[.string ⟨lb.toArray⟩,.string ⟨tx.toArray⟩,.slice a n1 c,.slice d n2 e0],.agg #[.string ⟨lb.toArray⟩,.string ⟨tx.toArray⟩,.slice a2 n1 c2,.slice d2 n2 e2]] w fun e w'=>e = .returned (.bool (eqK ks js)) ∧ Below w.heap.size w w':=by
 obtain ⟨w1,hw1⟩ : ∃ w1,w1 = w.alloc (.cells #[.string ⟨lb.toArray⟩,.string ⟨tx.toArray⟩,.slice a n1 c,.slice d n2 e0] 27):=⟨_,rfl⟩
 have HB1 : Below w.heap.size w w1:=by rw [hw1];exact (Below.refl _ w).alloc (Nat.le_refl _) _
 have HB2 : Below w.heap.size w (w1.alloc (.cells #[.string ⟨lb.toArray⟩,.string ⟨tx.toArray⟩,.slice a2 n1 c2,.slice d2 n2 e2] 27)):=al HB1 (Nat.le_refl _) _
 have HK1 : Box4 w.heap.size ⟨lb.toArray⟩ ⟨tx.toArray⟩ (.slice a n1 c) (.slice d n2 e0) w1:=by rw [hw1];exact Box4.made _ _ _ _ _
 have HK1':=HK1.below ((Below.refl _ w1).alloc (Nat.le_refl _) (.cells #[.string ⟨lb.toArray⟩,.string ⟨tx.toArray⟩,.slice a2 n1 c2,.slice d2 n2 e2] 27)) (Nat.le_refl _)
 have HK2:=Box4.made ⟨lb.toArray⟩ ⟨tx.toArray⟩ (.slice a2 n1 c2) (.slice d2 n2 e2) w1
 obtain ⟨w2,hw2⟩ : ∃ w2,w2 = w1.alloc (.cells #[.string ⟨lb.toArray⟩,.string ⟨tx.toArray⟩,.slice a2 n1 c2,.slice d2 n2 e2] 27):=⟨_,rfl⟩
 rw [← hw2] at HB2 HK1' HK2
 have hsz : w1.heap.size = w.heap.size + 1:=by rw [hw1];simp
 rw [hsz] at HK2
 have HW2 : Hid (w2 = (w.alloc (.cells #[.string ⟨lb.toArray⟩,.string ⟨tx.toArray⟩,.slice a n1 c,.slice d n2 e0] 27)).alloc (.cells #[.string ⟨lb.toArray⟩,.string ⟨tx.toArray⟩,.slice a2 n1 c2,.slice d2 n2 e2] 27)):=Lib.hid (by rw [hw2,hw1])
 obtain ⟨c0,c1,c3,c4⟩:=HK1'.at
 obtain ⟨d0,d1,d3,d4⟩:=HK2.at
 have HBX : Hid (∀ W,Below w2.heap.size w2 W → W.cell? ⟨w.heap.size,2,none⟩ = some (.slice a n1 c) ∧ W.cell? ⟨w.heap.size + 1,2,none⟩ = some (.slice a2 n1 c2) ∧ W.cell? ⟨w.heap.size,3,none⟩ = some (.slice d n2 e0) ∧ W.cell? ⟨w.heap.size + 1,3,none⟩ = some (.slice d2 n2 e2)):=Lib.hid (fun W hb=>⟨(hb.cell (block_lt_of_cell c3)).trans c3,(hb.cell (block_lt_of_cell d3)).trans d3,(hb.cell (block_lt_of_cell c4)).trans c4,(hb.cell (block_lt_of_cell d4)).trans d4⟩)
 have HB2:=Lib.hid HB2
 have HA:=Lib.hid ha
 have HA2:=Lib.hid ha2
 have HC:=Lib.hid hc
 have HC2:=Lib.hid hc2
 have HN1:=Lib.hid hn
 have HN2:=Lib.hid hn2
 clear ha ha2 hc hc2 hn hn2 c0 c1 c3 c4 d0 d1 d3 d4 HK1 HK1' HK2 HB1 hsz hw1 hw2
 have HK:=Lib.hid hk
 have HJ:=Lib.hid hj
 have HD:=Lib.hid hd
 have HD2:=Lib.hid hd2
 have HKC:=Lib.hid hkc
 have HJC:=Lib.hid hjc
 have HIH:=Lib.hid IH
 have HXY:=Lib.hid hxy
 clear hk hj hd hd2 hkc hjc IH hxy
 go_enter Tryz.func24,Tryz.ntmps24
 go_wp2_with fail
 go_loopw [5] (fun i wr=>∃ k : Nat,k ≤ n1 ∧ i = .int .i64 k ∧ Hid (Below w2.heap.size w2 wr)) (fun i _=>n1 - (intOf i).toNat)
 case atStart=>exact ⟨0,by omega,rfl,Lib.hid (by rw [HW2.out];exact Below.refl _ _)⟩
 case round=>
  obtain ⟨k,hk,rfl,HB⟩:=hrel
  obtain ⟨x3,y3,x4,y4⟩:=HBX.out _ HB.out
  by_cases hlt : k < n1
  ·obtain rfl:=HA.out (by omega)
   obtain rfl:=HA2.out (by omega)
   obtain ⟨⟨p1,p2⟩,hp⟩ : ∃ b,xs[k]? = some b:=⟨_,List.getElem?_eq_getElem (by rw [HN1.out];omega)⟩
   obtain ⟨⟨q1,q2⟩,hq⟩ : ∃ b,ys[k]? = some b:=⟨_,List.getElem?_eq_getElem (by rw [HN2.out];omega)⟩
   obtain ⟨r1,r2⟩:=HC.out k _ hp
   obtain ⟨r3,r4⟩:=HC2.out k _ hq
   simp only at r1 r2 r3 r4
   have up : ∀ {p : Addr} {u : Value},w.cell? p = some u → wr.cell? p = some u:=fun h=>(HB.out.cell (Nat.lt_of_lt_of_le (block_lt_of_cell h) HB2.out.size)).trans ((HB2.out.cell (block_lt_of_cell h)).trans h)
   have s1:=up r1
   have s2:=up r2
   have s3:=up r3
   have s4:=up r4
   have hi0 : (0 : Int) ≤ k:=by omega
   have hi1 : (k : Int) < n1:=by omega
   clear r1 r2 r3 r4 up
   obtain ⟨rfl,rfl⟩ : p1 = q1 ∧ p2 = q2:=by
    rw [HXY.out] at hp
    have h5:=Option.some.inj (hp.symm.trans hq)
    exact ⟨congrArg Prod.fst h5,congrArg Prod.snd h5⟩
   clear hp hq
   go_wp2_with fail
   go_quiet (fail)
   go_wp2
   exact ⟨⟨k + 1,by omega,by go_num,Lib.hid (below_drewN HB.out _)⟩,by simp [intOf];omega⟩
  ·obtain rfl : k = n1:=by omega
   have HBA:=HB
   clear HB
   go_wp2_with fail
   clear x3 y3 x4 y4
   go_loopw [6] (fun i wr=>∃ k : Nat,k ≤ n2 ∧ i = .int .i64 k ∧ Hid (∀ (m : Nat),m < k → ∀ (t u : Tr),ks[m]? = some t → js[m]? = some u → eqT t u = true) ∧ Hid (Below w2.heap.size w2 wr)) (fun i _=>n2 - (intOf i).toNat)
   case atStart=>exact ⟨0,by omega,rfl,Lib.hid (fun m hm=>absurd hm (by omega)),HBA⟩
   case round=>
    obtain ⟨k,hk,rfl,HE,HB⟩:=hrel
    obtain ⟨x3,y3,x4,y4⟩:=HBX.out _ HB.out
    by_cases hlt : k < n2
    ·obtain rfl:=HD.out (by omega)
     obtain rfl:=HD2.out (by omega)
     obtain ⟨⟨l1,t1,al1,js1⟩,hp⟩ : ∃ b,ks[k]? = some b:=⟨_,List.getElem?_eq_getElem (by rw [HK.out];omega)⟩
     obtain ⟨⟨l2,t2,al2,js2⟩,hq⟩ : ∃ b,js[k]? = some b:=⟨_,List.getElem?_eq_getElem (by rw [HJ.out];omega)⟩
     obtain ⟨va,vk,r1,r2,r3,r4,r5⟩:=HKC.out k _ _ _ _ hp
     obtain ⟨vb,vm,r6,r7,r8,r9,r10⟩:=HJC.out k _ _ _ _ hq
     have hi0 : (0 : Int) ≤ k:=by omega
     have hi1 : (k : Int) < n2:=by omega
     have HKEEP : Hid (∀ W,Below w2.heap.size w2 W → W.cell? ⟨w.heap.size,3,none⟩ = some (.slice (some ⟨gk,ok,none⟩) n2 e0) ∧ W.cell? ⟨w.heap.size + 1,3,none⟩ = some (.slice (some ⟨gj,oj,none⟩) n2 e2) ∧ W.cell? ⟨gk,ok + k * 4,none⟩ = some (.string ⟨l1.toArray⟩) ∧ W.cell? ⟨gk,ok + k * 4 + 1,none⟩ = some (.string ⟨t1.toArray⟩) ∧ W.cell? ⟨gk,ok + k * 4 + 2,none⟩ = some (va) ∧ W.cell? ⟨gk,ok + k * 4 + 3,none⟩ = some (vk) ∧ W.cell? ⟨gj,oj + k * 4,none⟩ = some (.string ⟨l2.toArray⟩) ∧ W.cell? ⟨gj,oj + k * 4 + 1,none⟩ = some (.string ⟨t2.toArray⟩) ∧ W.cell? ⟨gj,oj + k * 4 + 2,none⟩ = some (vb) ∧ W.cell? ⟨gj,oj + k * 4 + 3,none⟩ = some (vm) ∧ Hid (Below w2.heap.size w2 W)):=Lib.hid (fun W hb=>by
      obtain ⟨_,_,z1,z2⟩:=HBX.out _ hb
      have up : ∀ {p : Addr} {u : Value},w.cell? p = some u → W.cell? p = some u:=fun h=>(hb.cell (Nat.lt_of_lt_of_le (block_lt_of_cell h) HB2.out.size)).trans ((HB2.out.cell (block_lt_of_cell h)).trans h)
      exact ⟨z1,z2,up r1,up r2,up r3,up r4,up r6,up r7,up r8,up r9,Lib.hid hb⟩)
     have IHX : Hid (∀ W,Below w2.heap.size w2 W → Calls Tryz.prog 24 #[.agg #[.string ⟨l1.toArray⟩,.string ⟨t1.toArray⟩,va,vk],.agg #[.string ⟨l2.toArray⟩,.string ⟨t2.toArray⟩,vb,vm]] W fun e w'=>e = .returned (.bool (eqT (.node l1 t1 al1 js1) (.node l2 t2 al2 js2))) ∧ Below w2.heap.size w2 w'):=Lib.hid (fun W hb=>(HIH.out k _ hp _ _ _ W ((r5.below HB2.out (Nat.le_refl _)).below hb (Nat.le_refl _)) ((r10.below HB2.out (Nat.le_refl _)).below hb (Nat.le_refl _))).mono (fun e w' r=>⟨r.1,th hb (Nat.le_refl _) r.2⟩))
     obtain ⟨s1,s2,s3,s4,s5,s6,s7,s8,s9,s10,_⟩:=HKEEP.out _ HB.out
     clear r1 r2 r3 r4 r5 r6 r7 r8 r9 r10 x3 y3 x4 y4
     cases hbv : eqT (.node l1 t1 al1 js1) (.node l2 t2 al2 js2) with
     | true=>
      have HEN : Hid (∀ (m : Nat),m < k + 1 → ∀ (t u : Tr),ks[m]? = some t → js[m]? = some u → eqT t u = true):=Lib.hid (fun m hm t u h1 h2=>by
       by_cases hmk : m < k
       ·exact HE.out m hmk t u h1 h2
       ·obtain rfl : m = k:=by omega
        rw [hp] at h1
        rw [hq] at h2
        injection h1 with h1
        injection h2 with h2
        rw [← h1,← h2]
        exact hbv)
      have HSM : Hid (∀ W,Below w2.heap.size w2 W → Calls Tryz.prog 24 #[.agg #[.string ⟨l1.toArray⟩,.string ⟨t1.toArray⟩,va,vk],.agg #[.string ⟨l2.toArray⟩,.string ⟨t2.toArray⟩,vb,vm]] W fun e w'=>e = .returned (.bool true) ∧ Below w2.heap.size w2 w'):=Lib.hid (fun W hb=>(IHX.out W hb).mono (fun e w' r=>⟨by rw [r.1,hbv],r.2⟩))
      clear hp hq hbv
      go_wp2_with fail
      go_region_held3 (fun W=>W.cell? ⟨w.heap.size,3,none⟩ = some (.slice (some ⟨gk,ok,none⟩) n2 e0) ∧ W.cell? ⟨w.heap.size + 1,3,none⟩ = some (.slice (some ⟨gj,oj,none⟩) n2 e2) ∧ W.cell? ⟨gk,ok + k * 4,none⟩ = some (.string ⟨l1.toArray⟩) ∧ W.cell? ⟨gk,ok + k * 4 + 1,none⟩ = some (.string ⟨t1.toArray⟩) ∧ W.cell? ⟨gk,ok + k * 4 + 2,none⟩ = some (va) ∧ W.cell? ⟨gk,ok + k * 4 + 3,none⟩ = some (vk) ∧ W.cell? ⟨gj,oj + k * 4,none⟩ = some (.string ⟨l2.toArray⟩) ∧ W.cell? ⟨gj,oj + k * 4 + 1,none⟩ = some (.string ⟨t2.toArray⟩) ∧ W.cell? ⟨gj,oj + k * 4 + 2,none⟩ = some (vb) ∧ W.cell? ⟨gj,oj + k * 4 + 3,none⟩ = some (vm) ∧ Hid (Below w2.heap.size w2 W)) (first | (refine HKEEP.out _ ?_;first | assumption | exact HB.out.drew | exact HB.out)) (first | (go_at_call 24;go_split_ands;refine (HSM.out _ (Hid.out (by assumption))).mono ?_;rintro e w5 ⟨rfl,hM5⟩))
      all_goals (
       clear s1 s2 s3 s4 s5 s6 s7 s8 s9 s10
       go_split_ands
       rename_i hMv
       have HBN:=Lib.hid hMv.out
       go_wp2
       exact ⟨⟨k + 1,by omega,by go_num,HEN,HBN⟩,by simp [intOf];omega⟩)
     | false=>
      have HEK : Hid (eqK ks js = false):=Lib.hid (eqK_bad hp hq hbv)
      have HSM : Hid (∀ W,Below w2.heap.size w2 W → Calls Tryz.prog 24 #[.agg #[.string ⟨l1.toArray⟩,.string ⟨t1.toArray⟩,va,vk],.agg #[.string ⟨l2.toArray⟩,.string ⟨t2.toArray⟩,vb,vm]] W fun e w'=>e = .returned (.bool false) ∧ Below w2.heap.size w2 w'):=Lib.hid (fun W hb=>(IHX.out W hb).mono (fun e w' r=>⟨by rw [r.1,hbv],r.2⟩))
      clear hp hq hbv
      go_wp2_with fail
      go_region_held3 (fun W=>W.cell? ⟨w.heap.size,3,none⟩ = some (.slice (some ⟨gk,ok,none⟩) n2 e0) ∧ W.cell? ⟨w.heap.size + 1,3,none⟩ = some (.slice (some ⟨gj,oj,none⟩) n2 e2) ∧ W.cell? ⟨gk,ok + k * 4,none⟩ = some (.string ⟨l1.toArray⟩) ∧ W.cell? ⟨gk,ok + k * 4 + 1,none⟩ = some (.string ⟨t1.toArray⟩) ∧ W.cell? ⟨gk,ok + k * 4 + 2,none⟩ = some (va) ∧ W.cell? ⟨gk,ok + k * 4 + 3,none⟩ = some (vk) ∧ W.cell? ⟨gj,oj + k * 4,none⟩ = some (.string ⟨l2.toArray⟩) ∧ W.cell? ⟨gj,oj + k * 4 + 1,none⟩ = some (.string ⟨t2.toArray⟩) ∧ W.cell? ⟨gj,oj + k * 4 + 2,none⟩ = some (vb) ∧ W.cell? ⟨gj,oj + k * 4 + 3,none⟩ = some (vm) ∧ Hid (Below w2.heap.size w2 W)) (first | (refine HKEEP.out _ ?_;first | assumption | exact HB.out.drew | exact HB.out)) (first | (go_at_call 24;go_split_ands;refine (HSM.out _ (Hid.out (by assumption))).mono ?_;rintro e w5 ⟨rfl,hM5⟩))
      all_goals (
       clear s1 s2 s3 s4 s5 s6 s7 s8 s9 s10
       go_split_ands
       rename_i hMv
       have HBN:=Lib.hid (th HB2.out (Nat.le_refl _) hMv.out)
       go_wp2
       go_ret
       exact ⟨by rw [HEK.out];rfl,HBN.out⟩)
    ·obtain rfl : k = n2:=by omega
     have HEK : Hid (eqK ks js = true):=Lib.hid (eqK_take (by rw [HK.out,HJ.out]) (fun m t u h1 h2=>HE.out m (by have:=(List.getElem?_eq_some_iff.1 h1).1;rw [HK.out] at this;exact this) t u h1 h2))
     have HBN:=Lib.hid (th HB2.out (Nat.le_refl _) HB.out)
     go_wp2
     go_ret
     exact ⟨by rw [HEK.out];rfl,HBN.out⟩
open Go.RowKit
theorem eqT_bad {lb tx lb2 tx2 : List UInt8} {al al2 : List (List UInt8 × List UInt8)} {ks ks2 : List Tr} (h : ¬ (lb = lb2 ∧ tx = tx2 ∧ al.length = al2.length ∧ ks.length = ks2.length)) : eqT (.node lb tx al ks) (.node lb2 tx2 al2 ks2) = false:=by
 cases he : eqT (.node lb tx al ks) (.node lb2 tx2 al2 ks2) with
 | false=>rfl
 | true=>
  exfalso
  simp only [eqT,Bool.and_eq_true,decide_eq_true_eq] at he
  exact h ⟨he.1.1.1,he.1.1.2,by rw [he.1.2],eqK_len he.2⟩
theorem sameTr_any (t : Tr) : sizeT t = true → ∀ (u : Tr) (hs hs' : List Value) (w : World),TreeV w t hs → TreeV w u hs' →
  Calls Tryz.prog 24 #[.agg hs.toArray,.agg hs'.toArray] w fun e w'=>e = .returned (.bool (eqT t u)) ∧ Below w.heap.size w w':=by
 refine Tr.rec (motive_1:=fun t=>sizeT t = true → ∀ (u : Tr) (hs hs' : List Value) (w : World),TreeV w t hs → TreeV w u hs' →
   Calls Tryz.prog 24 #[.agg hs.toArray,.agg hs'.toArray] w fun e w'=>e = .returned (.bool (eqT t u)) ∧ Below w.heap.size w w')
  (motive_2:=fun ks=>sizeK ks = true → ∀ (k : Nat) (t : Tr),ks[k]? = some t → ∀ (u : Tr) (hs hs' : List Value) (w : World),TreeV w t hs → TreeV w u hs' →
   Calls Tryz.prog 24 #[.agg hs.toArray,.agg hs'.toArray] w fun e w'=>e = .returned (.bool (eqT t u)) ∧ Below w.heap.size w w') ?_ ?_ ?_ t
 ·intro lb tx al ks ih hsz u hs hs' w h1 h2
  cases u with
  | node lb2 tx2 al2 ks2=>
   simp only [sizeT,Bool.and_eq_true,decide_eq_true_eq] at hsz
   rw [TreeV.eq] at h1 h2
   obtain ⟨va,vk,rfl,h3,l,h4,h5⟩:=h1
   obtain ⟨vb,vm,rfl,h6,m,h7,h8⟩:=h2
   obtain ⟨a,c,g,off,rfl,ha,hc⟩:=attr_at h3
   obtain ⟨a2,c2,g2,off2,rfl,ha2,hc2⟩:=attr_at h6
   obtain ⟨d,e0,gk,ok,rfl,hd,hkc⟩:=kid_at h4 h5
   obtain ⟨d2,e2,gj,oj,rfl,hd2,hjc⟩:=kid_at h7 h8
   by_cases h : lb = lb2 ∧ tx = tx2 ∧ al.length = al2.length ∧ ks.length = ks2.length
   ·obtain ⟨rfl,rfl,g1,g3⟩:=h
    rw [← g1] at ha2 ⊢
    rw [← g3] at hd2 ⊢
    by_cases hx : al = al2
    ·have e : eqT (.node lb tx al ks) (.node lb tx al2 ks2) = eqK ks ks2:=by simp [eqT,hx]
     rw [e]
     exact sameTr_kids lb tx a d a2 d2 al.length c ks.length e0 c2 e2 w al al2 g off g2 off2 rfl g1.symm hsz.1.1 ha ha2 hc hc2 hx ks ks2 gk ok gj oj rfl g3.symm hsz.1.2 hd hd2 hkc hjc (ih hsz.2)
    ·have e : eqT (.node lb tx al ks) (.node lb tx al2 ks2) = false:=by simp [eqT,hx]
     rw [e]
     exact sameTr_attr lb tx a d a2 d2 al.length c ks.length e0 c2 e2 w al al2 g off g2 off2 rfl g1.symm hsz.1.1 ha ha2 hc hc2 hx
   ·rw [eqT_bad h]
    exact sameTr_head lb tx lb2 tx2 a d a2 d2 al.length c ks.length e0 al2.length c2 ks2.length e2 w h
 ·intro _ k t h
  simp at h
 ·intro t ks ih1 ih2 hsz k u hk
  simp only [sizeK,Bool.and_eq_true] at hsz
  cases k with
  | zero=>
   simp only [List.getElem?_cons_zero,Option.some.injEq] at hk
   rw [← hk]
   exact ih1 hsz.1
  | succ k=>exact ih2 hsz.2 k u (by simpa using hk)
open Go.RowKit
theorem allT_whole {l : List UInt8} (h1 : ¬ 65536 < l.length) (h2 : ¬ chkC (ints l) < l.length) : (∀ ts,allL3 (linesL l) = .ok ts → allT l = .ok ts) ∧ (∀ p,allL3 (linesL l) = .error p → allT l = .error (p,12)):=by
 unfold allT
 rw [if_neg h1,if_neg h2]
 exact ⟨fun ts h=>by rw [h],fun p h=>by rw [h]⟩
def attrsX (al : List (List UInt8 × List UInt8)) : List UInt8:=al.flatMap attrT
def kidsX (ks : List Tr) : List UInt8:=ks.flatMap textX
def EscC : Prop:=∀ (v : Bool) (s : ByteArray) (w : World),s.size ≤ 100000 → Calls Tryz.prog 43 #[.string s,.bool v] w fun e w'=>e = .returned (.string ⟨(escL v (bts s)).toArray⟩) ∧ Below w.heap.size w w'
def shortN : Tr → Prop
 | .node _ tx al _=>tx.length ≤ 100000 ∧ ∀ a ∈ al,a.2.length ≤ 100000
theorem add_any (x y : List UInt8) (hx : x.length ≤ 4000000) (hy : y.length ≤ 4000000) (W : World) : (Op.stringOp .add ⟨x.toArray⟩ ⟨y.toArray⟩).run Tryz.prog W = .ok (.string ⟨(x ++ y).toArray⟩) W:=run_string_add_lists W x y (by omega) (by omega)
def costS (l : List Stp) : Nat:=(l.map fun x=>2 * x.name.length + 6 * x.text.length + 8).sum
theorem mapB_esc (v : List UInt8) : (escL true v).map mapB = escL true v:=by
 have hg:=esc_good true v
 conv=>rhs;rw [← List.map_id (escL true v)]
 refine List.map_congr_left fun b hb=>?_
 have h1:=hg b hb
 unfold mapB
 rw [if_neg]
 ·rfl
 ·rintro (rfl | rfl) <;> (revert h1;decide)
theorem valueQ_back {v : List UInt8} (hv : Whole v) (hq : ∀ b ∈ escL true v,b ≠ 39) (r : List UInt8) : valueL (39 :: (escL true v ++ 39 :: r)) = some (v,(escL true v).length + 2):=by
 simp only [valueL]
 rw [if_pos (by simp),find_byte hq]
 simp only [List.take_left,mapB_esc,(back true hv).2]
theorem blankN_lf {c : UInt8} {r : List UInt8} (h : blankI c.toNat = false) : blankN (10 :: c :: r) = 1:=by
 unfold blankN;rw [List.takeWhile_cons_of_pos (by decide),List.takeWhile_cons_of_neg (by simp [h])];rfl
theorem blankN_tab {c : UInt8} {r : List UInt8} (h : blankI c.toNat = false) : blankN (9 :: c :: r) = 1:=by
 unfold blankN;rw [List.takeWhile_cons_of_pos (by decide),List.takeWhile_cons_of_neg (by simp [h])];rfl
theorem attr_one {n v : List UInt8} (hn : nameL n = true) (hv : Whole v) (r : List UInt8) : attrL (n ++ 32 :: 61 :: 10 :: 34 :: (escL true v ++ 34 :: r)) = some ((n,v),n.length + 5 + (escL true v).length):=by
 unfold attrL
 simp only [nameN_stop (r:=61 :: 10 :: 34 :: (escL true v ++ 34 :: r)) hn (show namedI (32 : UInt8).toNat = false by decide),List.take_left,hn,if_true,List.drop_left]
 rw [blankN_one (by decide)]
 simp only [List.drop_succ_cons,List.drop_zero]
 rw [begL_cons,begL_nil]
 simp only [beq_self_eq_true,Bool.and_true,if_true]
 rw [blankN_lf (by decide)]
 simp only [List.drop_succ_cons,List.drop_zero]
 rw [value_back hv]
 simp;omega
theorem attr_two {n v : List UInt8} (hn : nameL n = true) (hv : Whole v) (hq : ∀ b ∈ escL true v,b ≠ 39) (r : List UInt8) : attrL (n ++ 61 :: 39 :: (escL true v ++ 39 :: r)) = some ((n,v),n.length + 3 + (escL true v).length):=by
 unfold attrL
 simp only [nameN_stop (r:=39 :: (escL true v ++ 39 :: r)) hn (show namedI (61 : UInt8).toNat = false by decide),List.take_left,hn,if_true,List.drop_left]
 rw [blankN_zero (by decide),List.drop_zero,begL_cons,begL_nil]
 simp only [beq_self_eq_true,Bool.and_true,if_true,Nat.zero_add,List.drop_succ_cons,List.drop_zero]
 rw [blankN_zero (by decide),List.drop_zero,valueQ_back hv hq]
 simp;omega
theorem name_beg {n : List UInt8} (hn : nameL n = true) (b : UInt8) (hb : letterI b.toNat = false) (x r : List UInt8) : begL (b :: x) (n ++ r) = false:=by
 obtain ⟨c,n',hc,hl⟩:=nameL_head hn
 rw [hc,List.cons_append,begL_cons,letter_ne hl hb]
 simp
theorem name_cons {n : List UInt8} (hn : nameL n = true) (r : List UInt8) : ∃ c q,n ++ r = c :: q ∧ blankI c.toNat = false:=by
 obtain ⟨c,n',hc,hl⟩:=nameL_head hn
 exact ⟨c,n' ++ r,by rw [hc];rfl,letter_noblank hl⟩
theorem attrs_one {n v : List UInt8} (hn : nameL n = true) (hv : Whole v) (r : List UInt8) (f : Nat) : attrsA (f + 2) [] (32 :: (n ++ 32 :: 61 :: 10 :: 34 :: (escL true v ++ 34 :: 47 :: 62 :: r))) = some ([(n,v)],true,n.length + 8 + (escL true v).length):=by
 have hb : blankN (32 :: (n ++ 32 :: 61 :: 10 :: 34 :: (escL true v ++ 34 :: 47 :: 62 :: r))) = 1:=by
  obtain ⟨c,q,hq,hc⟩:=name_cons hn (32 :: 61 :: 10 :: 34 :: (escL true v ++ 34 :: 47 :: 62 :: r))
  rw [hq]
  exact blankN_one hc
 have hd : (n ++ 32 :: 61 :: 10 :: 34 :: (escL true v ++ 34 :: 47 :: 62 :: r)).drop (n.length + 5 + (escL true v).length) = 47 :: 62 :: r:=by
  rw [show n ++ 32 :: 61 :: 10 :: 34 :: (escL true v ++ 34 :: 47 :: 62 :: r) = (n ++ 32 :: 61 :: 10 :: 34 :: (escL true v ++ [34])) ++ 47 :: 62 :: r by simp]
  exact List.drop_left' (by simp;omega)
 unfold attrsA
 simp only [hb,List.drop_succ_cons,List.drop_zero]
 rw [if_neg (by rw [name_beg hn 62 (by decide)];simp),if_neg (by rw [name_beg hn 47 (by decide)];simp),if_neg (by decide),attr_one hn hv]
 simp only [hd]
 unfold attrsA
 rw [blankN_zero (by decide),if_neg (by simp [hasA])]
 simp only [List.drop_zero]
 rw [if_neg (by simp [begL_cons]),if_pos (by simp [begL_cons,begL_nil])]
 simp;omega
theorem attrs_two {n v : List UInt8} (hn : nameL n = true) (hv : Whole v) (hq : ∀ b ∈ escL true v,b ≠ 39) (r : List UInt8) (f : Nat) : attrsA (f + 2) [] (9 :: (n ++ 61 :: 39 :: (escL true v ++ 39 :: 32 :: 62 :: r))) = some ([(n,v)],false,n.length + 6 + (escL true v).length):=by
 have hb : blankN (9 :: (n ++ 61 :: 39 :: (escL true v ++ 39 :: 32 :: 62 :: r))) = 1:=by
  obtain ⟨c,q,hq,hc⟩:=name_cons hn (61 :: 39 :: (escL true v ++ 39 :: 32 :: 62 :: r))
  rw [hq]
  exact blankN_tab hc
 have hd : (n ++ 61 :: 39 :: (escL true v ++ 39 :: 32 :: 62 :: r)).drop (n.length + 3 + (escL true v).length) = 32 :: 62 :: r:=by
  rw [show n ++ 61 :: 39 :: (escL true v ++ 39 :: 32 :: 62 :: r) = (n ++ 61 :: 39 :: (escL true v ++ [39])) ++ 32 :: 62 :: r by simp]
  exact List.drop_left' (by simp;omega)
 unfold attrsA
 simp only [hb,List.drop_succ_cons,List.drop_zero]
 rw [if_neg (by rw [name_beg hn 62 (by decide)];simp),if_neg (by rw [name_beg hn 47 (by decide)];simp),if_neg (by decide),attr_two hn hv hq]
 simp only [hd]
 unfold attrsA
 rw [blankN_one (by decide),if_neg (by simp [hasA])]
 simp only [List.drop_succ_cons,List.drop_zero]
 rw [if_pos (by simp [begL_cons,begL_nil])]
 simp;omega
def docV (n v : List UInt8) : List UInt8:=60 :: 97 :: 32 :: (n ++ 32 :: 61 :: 10 :: 34 :: (escL true v ++ 34 :: 47 :: 62 :: []))
def docQ (n v : List UInt8) : List UInt8:=60 :: 97 :: 9 :: (n ++ 61 :: 39 :: (escL true v ++ 39 :: 32 :: 62 :: [60,47,97,32,62]))
theorem open_at (c : UInt8) (hc : namedI c.toNat = false) (X : List UInt8) (al : List (List UInt8 × List UInt8)) (em : Bool) (k : Nat) (h : attrsA ((97 :: c :: X).length + 1) [] (c :: X) = some (al,em,k)) : pieceL true (60 :: 97 :: c :: X) = some (⟨2,[97],[],al,em⟩,2 + k):=by
 have h1 : nameN (97 :: c :: X) = 1:=nameN_stop (n:=[97]) (r:=X) (c:=c) (by decide) hc
 have e1 : openL (60 :: 97 :: c :: X) = some (⟨2,[97],[],al,em⟩,2 + k):=by
  unfold openL
  simp only [List.drop_succ_cons,List.drop_zero,h1,List.take_succ_cons,List.take_zero]
  rw [if_pos (by decide),h]
 unfold pieceL
 rw [if_neg (by simp [sXml,begL_cons]),if_neg (by simp [sCom,begL_cons]),if_neg (by simp [sCd,begL_cons]),if_neg (by simp [begL_cons]),if_pos (by simp [begL_cons,begL_nil]),e1]
theorem all_docV {n v : List UInt8} (hn : nameL n = true) (hv : Whole v) : allL3 (docV n v) = .ok [⟨2,[97],[],[(n,v)],true⟩]:=by
 have hl : (docV n v).length = n.length + 10 + (escL true v).length:=by unfold docV;simp;omega
 have hp : pieceL true (docV n v) = some (⟨2,[97],[],[(n,v)],true⟩,2 + (n.length + 8 + (escL true v).length)):=by
  unfold docV
  refine open_at 32 (by decide) _ _ _ _ ?_
  exact attrs_one hn hv [] _
 have hd : (docV n v).drop (2 + (n.length + 8 + (escL true v).length)) = []:=List.drop_of_length_le (by omega)
 unfold allL3
 rw [hl,show n.length + 10 + (escL true v).length = (n.length + 9 + (escL true v).length) + 1 by omega]
 obtain ⟨c,T,hcT⟩ : ∃ c T,docV n v = c :: T:=⟨_,_,rfl⟩
 have e : ∀ g,allA (g + 1) 0 [] (docV n v) = (match pieceL (0 == 0) (docV n v) with | none=>.error 0 | some (x,m)=>allA g (0 + m) ([] ++ [x]) ((docV n v).drop m)):=by
  intro g;rw [hcT];rfl
 rw [e,show ((0 : Nat) == 0) = true from rfl,hp]
 simp only [hd]
 unfold allA
 rfl
theorem all_docQ {n v : List UInt8} (hn : nameL n = true) (hv : Whole v) (hq : ∀ b ∈ escL true v,b ≠ 39) : allL3 (docQ n v) = .ok [⟨2,[97],[],[(n,v)],false⟩,⟨3,[97],[],[],false⟩]:=by
 have hl : (docQ n v).length = n.length + 13 + (escL true v).length:=by unfold docQ;simp;omega
 have hp : pieceL true (docQ n v) = some (⟨2,[97],[],[(n,v)],false⟩,2 + (n.length + 6 + (escL true v).length)):=by
  unfold docQ
  refine open_at 9 (by decide) _ _ _ _ ?_
  exact attrs_two hn hv hq [60,47,97,32,62] _
 have hd : (docQ n v).drop (2 + (n.length + 6 + (escL true v).length)) = [60,47,97,32,62]:=by
  unfold docQ
  rw [show 60 :: 97 :: 9 :: (n ++ 61 :: 39 :: (escL true v ++ 39 :: 32 :: 62 :: [60,47,97,32,62])) = (60 :: 97 :: 9 :: (n ++ 61 :: 39 :: (escL true v ++ [39,32,62]))) ++ [60,47,97,32,62] by simp]
  exact List.drop_left' (by simp;omega)
 have hp2 : pieceL false [60,47,97,32,62] = some (⟨3,[97],[],[],false⟩,5):=by kernel_rfl
 unfold allL3
 rw [hl,show n.length + 13 + (escL true v).length = (n.length + 11 + (escL true v).length) + 1 + 1 by omega]
 obtain ⟨c,T,hcT⟩ : ∃ c T,docQ n v = c :: T:=⟨_,_,rfl⟩
 have e : ∀ g,allA (g + 1) 0 [] (docQ n v) = (match pieceL (0 == 0) (docQ n v) with | none=>.error 0 | some (x,m)=>allA g (0 + m) ([] ++ [x]) ((docQ n v).drop m)):=by
  intro g;rw [hcT];rfl
 rw [e,show ((0 : Nat) == 0) = true from rfl,hp]
 simp only [hd]
 unfold allA
 rw [show (0 + (2 + (n.length + 6 + (escL true v).length)) == 0) = false from beq_eq_false_iff_ne.2 (by omega),hp2]
 simp only
 unfold allA
 rfl
theorem chk_one {n v : List UInt8} (hn : nameL n = true) (hv : Whole v) : chkT (.node [97] [] [(n,v)] []) = 0:=by
 have hb : bareA (.node [97] [] [(n,v)] []) = true:=by simp [bareA,bareK]
 rw [chk_steps hb]
 have hw : wholeB v = true:=(wholeB_iff v).2 hv
 have hs : stepsT (.node [97] [] [(n,v)] []) = [⟨1,[97],[]⟩,⟨2,n,v⟩,⟨4,[],[]⟩]:=by simp [stepsT,stepsK,attrS]
 rw [hs]
 have ha : nameL [97] = true:=by decide
 have hw0 : wholeB [] = true:=by decide
 simp [checkS,nodesS,deepS,countS,hn,ha,hw,hw0,orderS,thereS]
 decide
theorem doc_read {l : List UInt8} {ts : List Tok} {T : Tr} (hw : Whole l) (h13 : ∀ b ∈ l,b ≠ 13) (hl : l.length ≤ 65536) (h3 : allL3 l = .ok ts) (ht : treeL ts = .ok T) (hc : chkT T = 0) : parseX l = .ok T:=by
 have h4 : chkC (ints l) = l.length:=hw
 exact parseX_ok ((allT_whole (by omega) (by omega)).1 _ (by rw [linesL_id h13];exact h3)) ht hc
theorem app_no13 {a b : List UInt8} (ha : ∀ c ∈ a,c ≠ 13) (hb : ∀ c ∈ b,c ≠ 13) : ∀ c ∈ a ++ b,c ≠ 13:=by
 intro c hc
 rcases List.mem_append.1 hc with h | h
 ·exact ha c h
 ·exact hb c h
theorem read_docV {n v : List UInt8} (hn : nameL n = true) (hv : Whole v) (h1 : n.length ≤ 60) (h2 : v.length ≤ 100) : parseX (docV n v) = .ok (.node [97] [] [(n,v)] []):=by
 have hl : (docV n v).length = n.length + 10 + (escL true v).length:=by unfold docV;simp;omega
 have h3:=(escL_len true v).2
 have e : docV n v = [60,97,32] ++ n ++ [32,61,10,34] ++ escL true v ++ [34,47,62]:=by unfold docV;simp
 refine doc_read ?_ ?_ (by omega) (all_docV hn hv) rfl (chk_one hn hv)
 ·rw [e]
  exact whole_append (whole_append (whole_append (whole_append (whole_dec (by decide +kernel)) (name_whole hn)) (whole_dec (by decide +kernel))) (back true hv).1) (whole_dec (by decide +kernel))
 ·rw [e]
  exact app_no13 (app_no13 (app_no13 (app_no13 (by decide) (name_no13 hn)) (by decide)) (esc_no13 true v)) (by decide)
theorem read_docQ {n v : List UInt8} (hn : nameL n = true) (hv : Whole v) (hq : ∀ b ∈ escL true v,b ≠ 39) (h1 : n.length ≤ 60) (h2 : v.length ≤ 100) : parseX (docQ n v) = .ok (.node [97] [] [(n,v)] []):=by
 have hl : (docQ n v).length = n.length + 13 + (escL true v).length:=by unfold docQ;simp;omega
 have h3:=(escL_len true v).2
 have e : docQ n v = [60,97,9] ++ n ++ [61,39] ++ escL true v ++ [39,32,62,60,47,97,32,62]:=by unfold docQ;simp
 refine doc_read ?_ ?_ (by omega) (all_docQ hn hv hq) rfl (chk_one hn hv)
 ·rw [e]
  exact whole_append (whole_append (whole_append (whole_append (whole_dec (by decide +kernel)) (name_whole hn)) (whole_dec (by decide +kernel))) (back true hv).1) (whole_dec (by decide +kernel))
 ·rw [e]
  exact app_no13 (app_no13 (app_no13 (app_no13 (by decide) (name_no13 hn)) (by decide)) (esc_no13 true v)) (by decide)
open Go.RowKit
def valueA (n : List UInt8) : List (List UInt8 × List UInt8) → List UInt8 × Bool
 | []=>([],false)
 | a :: r=>if a.1 = n then (a.2,true) else valueA n r
theorem valueA_hit {n : List UInt8} : ∀ {al : List (List UInt8 × List UInt8)} {k : Nat} {a : List UInt8 × List UInt8},(∀ (j : Nat) (b : List UInt8 × List UInt8),j < k → al[j]? = some b → b.1 ≠ n) → al[k]? = some a → a.1 = n → valueA n al = (a.2,true):=by
 intro al
 induction al with
 | nil=>intro k a _ h;simp at h
 | cons x r ih=>
  intro k a h1 h2 h3
  cases k with
  | zero=>simp only [List.getElem?_cons_zero,Option.some.injEq] at h2;subst h2;simp [valueA,h3]
  | succ k=>
   have h4:=h1 0 x (by omega) rfl
   simp only [valueA,h4,if_false]
   exact ih (k:=k) (fun j b hj hb=>h1 (j + 1) b (by omega) (by simpa using hb)) (by simpa using h2) h3
theorem valueA_none {n : List UInt8} : ∀ {al : List (List UInt8 × List UInt8)},(∀ (j : Nat) (b : List UInt8 × List UInt8),al[j]? = some b → b.1 ≠ n) → valueA n al = ([],false):=by
 intro al
 induction al with
 | nil=>intro _;rfl
 | cons x r ih=>
  intro h1
  have h4:=h1 0 x rfl
  simp only [valueA,h4,if_false]
  exact ih (fun j b hb=>h1 (j + 1) b (by simpa using hb))
set_option maxRecDepth 10000 in
set_option maxHeartbeats 2000000 in
theorem valueT_any (t : Tr) (hs : List Value) (nm : List UInt8) (w : World) (ht : TreeV w t hs) (hn : (match t with | .node _ _ al _=>al.length) ≤ 1000000000) :
  Calls Tryz.prog 29 #[.agg hs.toArray,.string ⟨nm.toArray⟩] w fun e w'=>e = .returned (.tuple #[.string ⟨(match t with | .node _ _ al _=>valueA nm al).1.toArray⟩,.bool (match t with | .node _ _ al _=>valueA nm al).2]) ∧ Below w.heap.size w w':=by
 obtain ⟨lb,tx,al,ks⟩:=t
 rw [TreeV.eq] at ht
 obtain ⟨va,vk,rfl,hat,lk,_,⟨d,c1,rfl,_⟩⟩:=ht
 obtain ⟨a,c,ga,off,rfl,ha,hc⟩:=attr_at hat
 obtain ⟨n,hn1⟩ : ∃ n,n = al.length:=⟨_,rfl⟩
 show Calls _ _ _ _ fun e w'=>e = .returned (.tuple #[.string ⟨(valueA nm al).1.toArray⟩,.bool (valueA nm al).2]) ∧ _
 replace hn : al.length ≤ 1000000000:=hn
 rw [← hn1] at ha hn ⊢
 generalize ks.length = n2
 generalize (⟨lb.toArray⟩ : ByteArray) = lbb
 generalize (⟨tx.toArray⟩ : ByteArray) = txb
 have HB0:=Lib.hid ((Below.refl _ w).alloc (Nat.le_refl _) (.cells #[.string lbb,.string txb,.slice a n c,.slice d n2 c1] 27))
 have HX0:=Lib.hid (Box4.made lbb txb (.slice a n c) (.slice d n2 c1) w)
 have HA:=Lib.hid ha
 have HC:=Lib.hid hc
 have HN:=Lib.hid hn1
 clear ha hc hn1 hat
 go_enter Tryz.func29,Tryz.ntmps29
 go_wp2_with fail
 go_loopw [11] (fun i wr=>∃ k : Nat,k ≤ n ∧ i = .int .i64 k ∧ Hid (∀ (j : Nat) (b : List UInt8 × List UInt8),j < k → al[j]? = some b → b.1 ≠ nm) ∧ Hid (Below w.heap.size w wr)) (fun i _=>n - (intOf i).toNat)
 case atStart=>exact ⟨0,by omega,rfl,Lib.hid (fun j b hj=>absurd hj (by omega)),HB0⟩
 case round=>
  obtain ⟨k,hk,rfl,HT,HB⟩:=hrel
  by_cases hlt : k < n
  ·obtain rfl:=HA.out (by omega)
   obtain ⟨⟨p1,p2⟩,hp⟩ : ∃ b,al[k]? = some b:=⟨_,List.getElem?_eq_getElem (by rw [← HN.out];omega)⟩
   obtain ⟨r1,r2⟩:=HC.out k _ hp
   simp only at r1 r2
   have up : ∀ {p : Addr} {u : Value},w.cell? p = some u → wr.cell? p = some u:=fun h=>(HB.out.cell (block_lt_of_cell h)).trans h
   have s1:=up r1
   have s2:=up r2
   have hi0 : (0 : Int) ≤ k:=by omega
   have hi1 : (k : Int) < n:=by omega
   have HP:=Lib.hid hp
   have HLT:=Lib.hid hlt
   have HBN:=Lib.hid (HB.out.alloc (HB.out.size) (.cells #[.string ⟨p1.toArray⟩,.string ⟨p2.toArray⟩] 82))
   clear r1 r2 up hp
   by_cases hpp : p1 = nm
   ·have HE : Hid (valueA nm al = (p2,true)):=Lib.hid (valueA_hit HT.out HP.out hpp)
    have h5 : (p1 == nm) = true:=by simp [hpp]
    clear hpp
    go_wp2
    go_ret2
    exact ⟨by rw [HE.out];rfl,HBN.out⟩
   ·have HTN : Hid (∀ (j : Nat) (b : List UInt8 × List UInt8),j < k + 1 → al[j]? = some b → b.1 ≠ nm):=Lib.hid (fun j b hj hb=>by
     by_cases hjk : j = k
     ·subst hjk;rw [HP.out] at hb;injection hb with hb;subst hb;exact hpp
     ·exact HT.out j b (by omega) hb)
    have h5 : (p1 == nm) = false:=beq_eq_false_iff_ne.2 hpp
    clear hpp
    go_wp2
    exact ⟨⟨k + 1,by have:=HLT.out;omega,by go_num,HTN,HBN⟩,by have:=HLT.out;simp [intOf];omega⟩
  ·obtain rfl : n = k:=by omega
   have HE : Hid (valueA nm al = ([],false)):=Lib.hid (valueA_none (fun j b hb=>HT.out j b (by have:=(List.getElem?_eq_some_iff.1 hb).1;have:=HN.out;omega) hb))
   go_wp2
   go_ret2
   exact ⟨by rw [HE.out];rfl,HB.out⟩
theorem one_attr {w : World} {n v : List UInt8} {x y : Value} {a1 a2 : Option Addr} {n1 c1 n2 c2 : Nat} (h : TreeV w (.node [97] [] [(n,v)] []) [x,y,.slice a1 n1 c1,.slice a2 n2 c2]) : n1 = 1:=by
 rw [TreeV.eq] at h
 obtain ⟨va,vk,hh,⟨a,c,hv,_⟩,_⟩:=h
 simp only [List.cons.injEq] at hh
 obtain ⟨_,_,h3,_⟩:=hh
 rw [hv] at h3
 injection h3
set_option maxHeartbeats 4000000 in
set_option maxRecDepth 20000 in
theorem xvalues_out (nb vb : ByteArray) (w : World) (hm : LayT w) (hvs : vb.size ≤ 2000000) (hout : 60 < nb.size ∨ 100 < vb.size ∨ nameL (bts nb) = false ∨ wholeB (bts vb) = false) :
  Calls Tryz.prog 7 #[.string nb,.string vb] w fun e w'=>e = .returned (.bool true) ∧ Below w.heap.size w w':=by
 have HAW : Hid (∀ W,Below w.heap.size w W → Calls Tryz.prog 8 #[] W fun e w'=>e = .returned (.bool true) ∧ Below w.heap.size w w'):=Lib.hid (fun W hb=>(awake5_any W (hm.below hb hm.size)).mono (fun e w' r=>⟨r.1,th hb (Nat.le_refl _) r.2⟩))
 have HES:=Lib.hid (escape_big true vb w hm.lay.lay hvs)
 obtain ⟨eb,heb⟩ : ∃ eb : ByteArray,eb = ⟨(escP true (bts vb)).1.toArray⟩:=⟨_,rfl⟩
 obtain ⟨ez,hez⟩ : ∃ ez,ez = (escP true (bts vb)).2:=⟨_,rfl⟩
 rw [← heb,← hez] at HES
 have hez2 : wholeB (bts vb) = false → (ez != 0) = true:=by intro h;rw [hez];unfold escP;rw [h];rfl
 have HEZ:=Lib.hid hez2
 have HIN : Hid (∀ W,Calls Tryz.prog 28 #[.string nb] W fun e w'=>e = .returned (.bool (nameL (bts nb))) ∧ Below W.heap.size W w'):=Lib.hid (fun W=>isName_any nb W)
 clear hm hvs heb hez hez2
 by_cases h1 : 60 < nb.size
 ·have h1i : (60 : Int) < nb.size:=by omega
  clear hout
  go_enter Tryz.func7,Tryz.ntmps7
  go_wp2_with fail
  refine HES.out.mono ?_
  rintro e w1 ⟨rfl,hb1⟩
  have HB1:=Lib.hid hb1
  clear hb1
  go_wp2_with fail
  refine (HAW.out _ HB1.out).mono ?_
  rintro e wz ⟨rfl,hbz⟩
  go_wp2
  go_ret
  exact ⟨rfl,hbz⟩
 ·have h1i : ¬ (60 : Int) < nb.size:=by omega
  by_cases h2 : 100 < vb.size
  ·have h2i : (100 : Int) < vb.size:=by omega
   clear hout
   go_enter Tryz.func7,Tryz.ntmps7
   go_wp2_with fail
   refine HES.out.mono ?_
   rintro e w1 ⟨rfl,hb1⟩
   have HB1:=Lib.hid hb1
   clear hb1
   go_wp2_with fail
   refine (HAW.out _ HB1.out).mono ?_
   rintro e wz ⟨rfl,hbz⟩
   go_wp2
   go_ret
   exact ⟨rfl,hbz⟩
  ·have h2i : ¬ (100 : Int) < vb.size:=by omega
   have hor : nameL (bts nb) = false ∨ (nameL (bts nb) = true ∧ wholeB (bts vb) = false):=by
    cases h9 : nameL (bts nb) with
    | false=>exact .inl rfl
    | true=>rcases hout with h | h | h | h
            ·omega
            ·omega
            ·rw [h9] at h;cases h
            ·exact .inr ⟨rfl,h⟩
   clear hout
   rcases hor with h | ⟨h,h4⟩
   ·rw [h] at HIN
    clear h
    go_enter Tryz.func7,Tryz.ntmps7
    go_wp2_with fail
    refine HES.out.mono ?_
    rintro e w1 ⟨rfl,hb1⟩
    have HB1:=Lib.hid hb1
    clear hb1
    go_wp2_with fail
    refine (HIN.out _).mono ?_
    rintro e w2 ⟨rfl,hb2⟩
    have HB2:=Lib.hid (th HB1.out (Nat.le_refl _) hb2)
    clear hb2
    go_wp2_with fail
    refine (HAW.out _ HB2.out).mono ?_
    rintro e wz ⟨rfl,hbz⟩
    go_wp2
    go_ret
    exact ⟨rfl,hbz⟩
   ·rw [h] at HIN
    have hzb:=HEZ.out h4
    clear h h4
    go_enter Tryz.func7,Tryz.ntmps7
    go_wp2_with fail
    refine HES.out.mono ?_
    rintro e w1 ⟨rfl,hb1⟩
    have HB1:=Lib.hid hb1
    clear hb1
    go_wp2_with fail
    refine (HIN.out _).mono ?_
    rintro e w2 ⟨rfl,hb2⟩
    have HB2:=Lib.hid (th HB1.out (Nat.le_refl _) hb2)
    clear hb2
    go_wp2_with fail
    refine (HAW.out _ HB2.out).mono ?_
    rintro e wz ⟨rfl,hbz⟩
    go_wp2
    go_ret
    exact ⟨rfl,hbz⟩
end Go.Proofs.YtjldpkhfiffinaaGreatDoor.U
