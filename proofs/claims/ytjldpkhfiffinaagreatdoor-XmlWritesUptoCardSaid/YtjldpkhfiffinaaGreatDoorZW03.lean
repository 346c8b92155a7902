/- Contracts and plain facts that the law stands on: T7, Law0, Cb. -/
import Derived.Test.YtjldpkhfiffinaaGreatDoorZW02
import Derived.RangeFuncNested
import Derived.RangeFuncBound
import Derived.RangeFuncLeaves
import Derived.Shelf.Abstract
import Derived.Shelf.RegionOpen
import Derived.OwnWalkIn
import Derived.TacticsInMore
import Derived.LoopNIn
import Derived.LoopIn
import Derived.Deep.RegionHeld3
import Derived.Below
import Derived.Laws.RangeAny
import Derived.WalkLawsBesides
import Derived.Lib.RuneBytes
import Derived.Lib.Strings
import Derived.Lib.Bytealg
import Derived.RowKit3
import Derived.Test.YtjldpkhfiffinaaGreatDoorRows
import Derived.WalkKit
import Derived.WalkSpells
import Derived.Lib.Hide
import Derived.Laws.Rows
import Derived.Lib.OthersKept
import Derived.BigQuiet
import Derived.BigCall
import Derived.Deep.QuietTactic
import Derived.Lib.ConvBytes
import Derived.Laws.ResultCell
import Derived.Deep.CutBlock
import Derived.Deep.DeepCutAuto
import Derived.Deep.RegionLaw
import Derived.Deep.AppendLies
import Derived.StillTailTactics
import Derived.Laws.AppendOwnNone
import Derived.ArgAppend
import Derived.Sort.Row
import Derived.Shelf.Strings.Builder1
import Derived.Shelf.Strings.Builder2
import Derived.Shelf.Small.Strs
import Derived.Shelf.Small.Wraps
import Derived.Shelf.Strings.BuilderF
import Derived.Shelf.Strings.BuilderK
import Derived.Shelf.Strings.BuilderRune
import Derived.Ground.MpProg
import Derived.Shelf.Pu.ParseUintPublic10
import Derived.Shelf.Strings.Search1
import Derived.Shelf.Strings.Search2
import Derived.Shelf.Strings.Search3
import Derived.Shelf.Strings.Cut
import Derived.Shelf.Strings.Count
import Derived.Shelf.LaysM
import Derived.Shelf.Strings.Shaped
import Derived.Shelf.Strings.Prefix
import Derived.Shelf.Strings.Split
import Derived.Shelf.Strings.Replace
import Derived.Shelf.Strings.SplitShaped
import Derived.Shelf.Unicode.DecodeSlow
import Derived.Deep.MidRow
import Derived.Deep.WholeRow
import Derived.Defers
import Derived.Laws.Pointers
import Derived.Laws.LoneSync
import Derived.RegionTactic
import Derived.RegionCalls
import Derived.Lib.SliceRun
import Derived.BigGuard
import Derived.WalkMore
import Derived.Lib.Walk
import Derived.Laws.Strings3
import Derived.Laws.Closers25
import Derived.Laws.Closers25b
import Derived.Shelf.Pu.ToError
import Derived.Deep.DeepMust
import Derived.Deep.RegionWith
import Derived.Maps.OwnSet
import Derived.Laws.EntriesVeiled
import Derived.Shelf.GgSortFunc.InsertionK
import Derived.TacticsIn
import Derived.Shelf.SlSortCmp.NoneTotal
import Derived.Ground.SlsfProg
import Derived.Shelf.SlSorted.Search
import Derived.Lib.AppendStr
import Derived.Lib.SlBytesConst
namespace Go.Proofs.YtjldpkhfiffinaaGreatDoor.U
open Go.RowKit
theorem own_apart {w : World} {b1 b2 n m s1 s2 : Nat} {e1 e2 : TypeId} {v u : Value} {xs ys : List Value} (h : w.ownsRow b1 e1 s1 v n xs) (k : w.ownsRow b2 e2 s2 u m ys) (he : e1 ≠ e2) : v.ownBlock = none ∨ v.ownBlock ≠ u.ownBlock:=by
 rcases h.2 with ⟨rfl,_⟩ | ⟨g,cap,cur,rfl,_,hg,_⟩
 ·exact .inl rfl
 ·refine .inr (fun e=>?_)
  rcases k.2 with ⟨rfl,_⟩ | ⟨g',cap',cur',rfl,_,hg',_⟩
  ·simp [Value.ownBlock] at e
  ·simp [Value.ownBlock] at e
   subst e
   rw [hg] at hg'
   injection hg' with h1
   injection h1 with _ h2
   exact he h2
theorem kids_push {bt i n : Nat} {wr w3 WX w4 : World} {e : TypeId} {v v' u : Value} {xs hs : List Value} {ks : List Tr} {lk : List (List Value)} {T : Tr} (hk : KidsS (fun g=>bt + 1 ≤ g ∧ some g ≠ v.ownBlock) wr ks lk) (hv : wr.ownsRow (bt + 1) e 4 v n xs)
  (h3 : Below wr.heap.size wr w3) (hx : w3.grownBy WX none) (h4 : WX.grownBy w4 v.ownBlock) (hat : v'.ownBlock = v.ownBlock ∨ v'.ownBlock = some WX.heap.size) (ht : TreeS (fun g=>wr.heap.size ≤ g) w3 T hs) (hbt : bt < wr.heap.size) :
  KidsS (fun g=>bt + 1 ≤ g ∧ some g ≠ v'.ownBlock) (w4.setCell ⟨bt,i,none⟩ u) (ks ++ [T]) (lk ++ [hs]):=by
 have hs3:=h3.size
 have hsx:=hx.size
 have hs4:=h4.size
 have k3 : KidsS (fun g=>bt + 1 ≤ g ∧ some g ≠ v.ownBlock) w3 ks lk:=hk.keep hs3 (fun g _ hg=>h3.block g hg)
 have t3 : TreeS (fun g=>bt + 1 ≤ g ∧ some g ≠ v.ownBlock) w3 T hs:=ht.mono (fun g h1 _=>⟨by omega,fun e1=>by have:=(hv.lt g e1.symm).2;omega⟩)
 have a3 : KidsS (fun g=>bt + 1 ≤ g ∧ some g ≠ v.ownBlock) w3 (ks ++ [T]) (lk ++ [hs]):=KidsS.snoc t3 k3
 have ax : KidsS (fun g=>bt + 1 ≤ g ∧ some g ≠ v.ownBlock) WX (ks ++ [T]) (lk ++ [hs]):=a3.keep hsx (fun g _ hg=>hx.block g hg (by simp))
 have ax2 : KidsS (fun g=>bt + 1 ≤ g ∧ some g ≠ v.ownBlock ∧ some g ≠ v'.ownBlock) WX (ks ++ [T]) (lk ++ [hs]):=ax.mono (fun g h1 hg=>⟨h1.1,h1.2,by
  rcases hat with h | h
  ·rw [h];exact h1.2
  ·rw [h];intro e1;cases e1;omega⟩)
 have a4 : KidsS (fun g=>bt + 1 ≤ g ∧ some g ≠ v.ownBlock ∧ some g ≠ v'.ownBlock) w4 (ks ++ [T]) (lk ++ [hs]):=ax2.keep hs4 (fun g h1 hg=>h4.block g hg h1.2.1)
 have hset:=grownBy_setAt w4 bt i u
 exact (a4.keep hset.size (fun g h1 hg=>hset.block g hg (fun e1=>by cases e1;omega))).mono (fun g h1 _=>⟨h1.1,h1.2.2⟩)
theorem own_setAt {w : World} {base n size b i : Nat} {e : TypeId} {v u : Value} {xs : List Value} (h : w.ownsRow base e size v n xs) (hb : b < base) : (w.setCell ⟨b,i,none⟩ u).ownsRow base e size v n xs:=
 h.kept (grownBy_setAt w b i u) (by
  by_cases h9 : v.ownBlock = none
  ·exact .inl h9
  ·exact .inr (fun e=>by have:=(h.lt _ e).1;omega))
open Go.RowKit
set_option maxHeartbeats 2000000 in
theorem plainR_any (s : Stp) (w : World) :
  Calls Tryz.prog 116 #[.agg #[.int .i64 s.kind,.string ⟨s.name.toArray⟩,.string ⟨s.text.toArray⟩]] w fun e w'=>e = .returned (.bool (plainS s)) ∧ Below w.heap.size w w':=by
 obtain ⟨k,n,t⟩:=s
 have hn:=emp_iff n
 have ht:=emp_iff t
 have HE : Hid (plainS ⟨k,n,t⟩ = if k = 1 then decide (t = []) else if k = 3 then decide (n = []) else decide (k = 2) || (decide (k = 4) && decide (n = []) && decide (t = []))):=Lib.hid rfl
 generalize plainS ⟨k,n,t⟩ = R at HE
 show Calls _ _ #[.agg #[.int .i64 k,.string ⟨n.toArray⟩,.string ⟨t.toArray⟩]] _ _
 generalize (⟨n.toArray⟩ : ByteArray) = nb at hn ⊢
 generalize (⟨t.toArray⟩ : ByteArray) = tb at ht ⊢
 generalize decide (n = []) = bn at hn HE
 generalize decide (t = []) = bt at ht HE
 have HB:=Lib.hid ((Below.refl _ w).alloc (Nat.le_refl _) (.cells #[.int .i64 k,.string nb,.string tb] 78))
 by_cases h1 : k = 1
 ·subst h1
  go_enter Tryz.func116,Tryz.ntmps116
  go_wp2
  go_ret
  exact ⟨by rw [HE.out];cases bt <;> rfl,HB.out⟩
 ·have g1 : (k == 1) = false:=beq_eq_false_iff_ne.2 h1
  by_cases h3 : k = 3
  ·subst h3
   go_enter Tryz.func116,Tryz.ntmps116
   go_wp2
   go_ret
   exact ⟨by rw [HE.out];cases bn <;> rfl,HB.out⟩
  ·have g3 : (k == 3) = false:=beq_eq_false_iff_ne.2 h3
   have HE2 : Hid (R = (decide (k = 2) || (decide (k = 4) && bn && bt))):=Lib.hid (by rw [HE.out,if_neg h1,if_neg h3])
   by_cases h2 : k = 2
   ·subst h2
    go_enter Tryz.func116,Tryz.ntmps116
    go_wp2
    go_ret
    exact ⟨by rw [HE2.out];rfl,HB.out⟩
   ·have g2 : (k == 2) = false:=beq_eq_false_iff_ne.2 h2
    by_cases h4 : k = 4
    ·subst h4
     cases bn with
     | false=>
      go_enter Tryz.func116,Tryz.ntmps116
      go_wp2
      go_ret
      exact ⟨by rw [HE2.out];rfl,HB.out⟩
     | true=>
      go_enter Tryz.func116,Tryz.ntmps116
      go_wp2
      go_ret
      exact ⟨by rw [HE2.out];cases bt <;> rfl,HB.out⟩
    ·have g4 : (k == 4) = false:=beq_eq_false_iff_ne.2 h4
     have HE3 : Hid (R = false):=Lib.hid (by rw [HE2.out];simp [h2,h4])
     clear h1 h2 h3 h4
     go_enter Tryz.func116,Tryz.ntmps116
     go_wp2
     go_ret
     exact ⟨by rw [HE3.out];rfl,HB.out⟩
theorem Box4.setA {b : Nat} {lb tx : ByteArray} {va vk : Value} {w : World} (h : Box4 b lb tx va vk w) (v : Value) : Box4 b lb tx v vk (w.setCell ⟨b,2,none⟩ v):=by
 unfold Box4 at h ⊢
 simp [World.setCell,Array.getElem?_modify,h]
theorem ret_tree {fn : Func} {R : Ending → World → Prop} {a : Act} {w : World} {p u : Tmp} {g : Nat} {lb tx : ByteArray} {va vk : Value}
  (h : fn.results = #[.cell p 27,.tmp u]) (hp : a.tmps.getD p undef = .pointer (some ⟨g,0,none⟩)) (hg : Box4 g lb tx va vk w) (hf : a.defers = [])
  (hR : R (.returned (.tuple #[.agg #[.string lb,.string tx,va,vk],a.tmps.getD u undef])) w) : bodyPost Tryz.prog fn R .ret a w:=by
 refine bodyPost_ret (v:=.tuple #[.agg #[.string lb,.string tx,va,vk],a.tmps.getD u undef]) ?_ hf hR
 have hp' : a.tmps[p]?.getD undef = .pointer (some ⟨g,0,none⟩):=by simpa using hp
 rw [results_cell_tmp h]
 simp [hp',asAddr,run_loadVar_row w g 27 27 #[.string lb,.string tx,va,vk] (0,0) _ hg Tryz.underlying27 rfl (by kernel_rfl),Result.andThen]
theorem nodePost_none {l : List Stp} {p : Nat} {w w' : World} (hb : Below w.heap.size w w') : NodePost l p w (.returned (.tuple #[.agg #[.string ⟨#[]⟩,.string ⟨#[]⟩,.slice none 0 0,.slice none 0 0],.int .i64 (-1)])) w':=
 ⟨hb,_,_,_,_,_,_,_,_,_,rfl,.inl rfl⟩
set_option maxRecDepth 10000 in
set_option maxHeartbeats 2000000 in
theorem node_far (l : List Stp) (n c p : Nat) (a : Option Addr) (w : World) (hn : n = l.length) (hp : n ≤ p) :
  Calls Tryz.prog 72 #[.slice a n c,.int .i64 p] w fun e w'=>NodePost l p w e w':=by
 have hd : decide ((n : Int) ≤ p) = true:=by simp;omega
 have hi : (n : Int) ≤ p:=by omega
 have HB:=Lib.hid ((Below.refl _ w).alloc (Nat.le_refl _) (.cells #[.string ⟨#[]⟩,.string ⟨#[]⟩,.slice none 0 0,.slice none 0 0] 27))
 have HX:=Lib.hid (Box4.made ⟨#[]⟩ ⟨#[]⟩ (.slice none 0 0) (.slice none 0 0) w)
 clear hn
 go_enter Tryz.func72,Tryz.ntmps72
 go_wp2
 (try simp only [Exit.inBlock,Exit.then])
 refine ret_tree rfl rfl HX.out rfl ?_
 exact nodePost_none HB.out
set_option maxRecDepth 10000 in
set_option maxHeartbeats 4000000 in
theorem node_odd (l : List Stp) (n c p g off : Nat) (k : Int) (nm tx : List UInt8) (w : World) (hn : n = l.length) (hs : l[p]? = some ⟨k,nm,tx⟩)
  (h0 : w.cell? ⟨g,off + p * 3,none⟩ = some (.int .i64 k)) (h1 : w.cell? ⟨g,off + p * 3 + 1,none⟩ = some (.string ⟨nm.toArray⟩)) (h2 : w.cell? ⟨g,off + p * 3 + 2,none⟩ = some (.string ⟨tx.toArray⟩))
  (hk : plainS ⟨k,nm,tx⟩ = false ∨ (plainS ⟨k,nm,tx⟩ = true ∧ k ≠ 1 ∧ k ≠ 3)) :
  Calls Tryz.prog 72 #[.slice (some ⟨g,off,none⟩) n c,.int .i64 p] w fun e w'=>NodePost l p w e w':=by
 have hgl : g < w.heap.size:=by simpa using block_lt_of_cell h0
 have hp : p < n:=by have:=(List.getElem?_eq_some_iff.1 hs).1;omega
 have hi0 : (0 : Int) ≤ p:=by omega
 have hi1 : (p : Int) < n:=by omega
 have hd : decide ((n : Int) ≤ p) = false:=by simp;omega
 have hni : ¬ (n : Int) ≤ p:=by omega
 have HB:=Lib.hid ((Below.refl _ w).alloc (Nat.le_refl _) (.cells #[.string ⟨#[]⟩,.string ⟨#[]⟩,.slice none 0 0,.slice none 0 0] 27))
 have HX:=Lib.hid (Box4.made ⟨#[]⟩ ⟨#[]⟩ (.slice none 0 0) (.slice none 0 0) w)
 have HPL : Hid (∀ W : World,Calls Tryz.prog 116 #[.agg #[.int .i64 k,.string ⟨nm.toArray⟩,.string ⟨tx.toArray⟩]] W fun e w'=>e = .returned (.bool (plainS ⟨k,nm,tx⟩)) ∧ Below W.heap.size W w'):=Lib.hid (fun W : World=>plainR_any ⟨k,nm,tx⟩ W)
 have HC : Hid (∀ W : World,Below w.heap.size w W → W.cell? ⟨g,off + p * 3,none⟩ = some (.int .i64 k) ∧ W.cell? ⟨g,off + p * 3 + 1,none⟩ = some (.string ⟨nm.toArray⟩) ∧ W.cell? ⟨g,off + p * 3 + 2,none⟩ = some (.string ⟨tx.toArray⟩)):=
  Lib.hid (fun W hb=>⟨(hb.cell (block_lt_of_cell h0)).trans h0,(hb.cell (block_lt_of_cell h1)).trans h1,(hb.cell (block_lt_of_cell h2)).trans h2⟩)
 have HN:=Lib.hid hn
 clear hn hs
 generalize (⟨nm.toArray⟩ : ByteArray) = nb at h1 HPL HC
 generalize (⟨tx.toArray⟩ : ByteArray) = tb at h2 HPL HC
 rcases hk with hps | ⟨hps,hk1,hk3⟩
 ·rw [hps] at HPL
  clear hps
  go_enter Tryz.func72,Tryz.ntmps72
  go_wp2_with fail
  (with_reducible refine (HPL.out _).mono ?_)
  rintro e w2 ⟨rfl,hb2⟩
  have HB2:=Lib.hid (th HB.out (Nat.le_refl _) hb2)
  have hx2:=HX.out.below hb2 (Nat.le_refl _)
  obtain ⟨x0,x1,x2,x3⟩:=hx2.at
  have f0:=hx2.thaw 0
  have f1:=hx2.thaw 1
  have f2:=hx2.thaw 2
  have f3:=hx2.thaw 3
  have HX2:=Lib.hid hx2
  clear hb2 hx2 h0 h1 h2
  go_wp2
  (try simp only [Exit.inBlock,Exit.then])
  refine ret_tree rfl rfl (HX2.out.set4 _ _ _ _) rfl ?_
  exact nodePost_none (below_set4 HB2.out (Nat.le_refl _) _ _ _ _)
 ·rw [hps] at HPL
  clear hps
  have g1 : (k == 1) = false:=beq_eq_false_iff_ne.2 hk1
  have g3 : (k == 3) = false:=beq_eq_false_iff_ne.2 hk3
  have g1' : (k != 1) = true:=by simp [hk1]
  have g3' : (k != 3) = true:=by simp [hk3]
  clear hk1 hk3
  go_enter Tryz.func72,Tryz.ntmps72
  go_wp2_with fail
  (with_reducible refine (HPL.out _).mono ?_)
  rintro e w2 ⟨rfl,hb2⟩
  have HB2:=Lib.hid (th HB.out (Nat.le_refl _) hb2)
  have hx2:=HX.out.below hb2 (Nat.le_refl _)
  obtain ⟨c0,c1,c2⟩:=HC.out _ HB2.out
  obtain ⟨x0,x1,x2,x3⟩:=hx2.at
  have f0:=hx2.thaw 0
  have f1:=hx2.thaw 1
  have f2:=hx2.thaw 2
  have f3:=hx2.thaw 3
  have HX2:=Lib.hid hx2
  clear hb2 hx2 h0 h1 h2
  go_wp2
  (try simp only [Exit.inBlock,Exit.then])
  refine ret_tree rfl rfl (HX2.out.set4 _ _ _ _) rfl ?_
  exact nodePost_none (below_set4 HB2.out (Nat.le_refl _) _ _ _ _)
set_option maxRecDepth 10000 in
set_option maxHeartbeats 4000000 in
theorem node_text (l : List Stp) (n c p g off : Nat) (tx : List UInt8) (w : World) (hn : n = l.length) (hl : n ≤ 1000000000) (hs : l[p]? = some ⟨3,[],tx⟩)
  (h0 : w.cell? ⟨g,off + p * 3,none⟩ = some (.int .i64 3)) (h1 : w.cell? ⟨g,off + p * 3 + 1,none⟩ = some (.string ⟨#[]⟩)) (h2 : w.cell? ⟨g,off + p * 3 + 2,none⟩ = some (.string ⟨tx.toArray⟩)) :
  Calls Tryz.prog 72 #[.slice (some ⟨g,off,none⟩) n c,.int .i64 p] w fun e w'=>NodePost l p w e w':=by
 have hgl : g < w.heap.size:=by simpa using block_lt_of_cell h0
 have hp : p < n:=by have:=(List.getElem?_eq_some_iff.1 hs).1;omega
 have hi0 : (0 : Int) ≤ p:=by omega
 have hi1 : (p : Int) < n:=by omega
 have hd : decide ((n : Int) ≤ p) = false:=by simp;omega
 have hni : ¬ (n : Int) ≤ p:=by omega
 have HB:=Lib.hid ((Below.refl _ w).alloc (Nat.le_refl _) (.cells #[.string ⟨#[]⟩,.string ⟨#[]⟩,.slice none 0 0,.slice none 0 0] 27))
 have HX:=Lib.hid (Box4.made ⟨#[]⟩ ⟨#[]⟩ (.slice none 0 0) (.slice none 0 0) w)
 have HPL : Hid (∀ W : World,Calls Tryz.prog 116 #[.agg #[.int .i64 3,.string ⟨#[]⟩,.string ⟨tx.toArray⟩]] W fun e w'=>e = .returned (.bool true) ∧ Below W.heap.size W w'):=Lib.hid (fun W : World=>plainR_any ⟨3,[],tx⟩ W)
 have HC : Hid (∀ W : World,Below w.heap.size w W → W.cell? ⟨g,off + p * 3,none⟩ = some (.int .i64 3) ∧ W.cell? ⟨g,off + p * 3 + 1,none⟩ = some (.string ⟨#[]⟩) ∧ W.cell? ⟨g,off + p * 3 + 2,none⟩ = some (.string ⟨tx.toArray⟩)):=
  Lib.hid (fun W hb=>⟨(hb.cell (block_lt_of_cell h0)).trans h0,(hb.cell (block_lt_of_cell h1)).trans h1,(hb.cell (block_lt_of_cell h2)).trans h2⟩)
 have HT : Hid (∀ w',Below w.heap.size w w' → NodePost l p w (.returned (.tuple #[.agg #[.string ⟨#[]⟩,.string ⟨tx.toArray⟩,.slice none 0 0,.slice none 0 0],.int .i64 ((p : Int) + 1)])) w'):=Lib.hid (fun w' hb=>
  ⟨hb,_,_,_,_,_,_,_,_,_,rfl,.inr ⟨.node [] tx [] [],p + 1,by omega,by omega,by omega,by
   rw [TreeS.eq]
   exact ⟨_,_,rfl,⟨none,0,rfl,Nat.le_refl _,rfl,fun h=>absurd h (by simp)⟩,[],by rw [KidsS],⟨none,0,rfl,Nat.le_refl _,rfl,fun h=>absurd h (by simp)⟩⟩,bare_text tx,by rw [stepsT_text,List.take_add_one,hs];rfl⟩⟩)
 have HN:=Lib.hid hn
 clear hn hs
 generalize (⟨tx.toArray⟩ : ByteArray) = tb at h2 HPL HC HT
 go_enter Tryz.func72,Tryz.ntmps72
 go_wp2_with fail
 (with_reducible refine (HPL.out _).mono ?_)
 rintro e w2 ⟨rfl,hb2⟩
 have HB2:=Lib.hid (th HB.out (Nat.le_refl _) hb2)
 have hx2:=HX.out.below hb2 (Nat.le_refl _)
 obtain ⟨c0,c1,c2⟩:=HC.out _ HB2.out
 obtain ⟨x0,x1,x2,x3⟩:=hx2.at
 have f0:=hx2.thaw 0
 have f1:=hx2.thaw 1
 have f2:=hx2.thaw 2
 have f3:=hx2.thaw 3
 have HX2:=Lib.hid hx2
 clear hb2 hx2 h0 h1 h2
 go_wp2
 (try simp only [Exit.inBlock,Exit.then])
 refine ret_tree rfl rfl (HX2.out.set4 _ _ _ _) rfl ?_
 exact HT.out _ (below_set4 HB2.out (Nat.le_refl _) _ _ _ _)
theorem infoAttr : (Tryz.prog.info? 82).map (fun i=>(i.zero,i.size,i.bytes)) = some (some (.agg #[.string ⟨#[]⟩,.string ⟨#[]⟩]),2,32):=by kernel_rfl
theorem grownBy_drew_alloc (w : World) (o : Obj) : w.grownBy (w.drew.alloc o) none:=⟨rfl,rfl,rfl,by simp,fun k hk _=>Below.heap_alloc w.drew o k hk⟩
theorem attrCells_snoc (al : List (List UInt8 × List UInt8)) (a : List UInt8 × List UInt8) : attrCells (al ++ [a]) = attrCells al ++ [.string ⟨a.1.toArray⟩,.string ⟨a.2.toArray⟩]:=by
 unfold attrCells
 rw [List.flatMap_append]
 rfl
set_option maxRecDepth 100000 in
set_option maxHeartbeats 4000000 in
theorem node_elem (l : List Stp) (n c p g off : Nat) (lb : List UInt8) (w : World) (hn : n = l.length) (hl : n ≤ 1000000) (hs : l[p]? = some ⟨1,lb,[]⟩) (hlb : lb ≠ [])
  (hc : ∀ k s,l[k]? = some s → w.cell? ⟨g,off + k * 3,none⟩ = some (.int .i64 s.kind) ∧ w.cell? ⟨g,off + k * 3 + 1,none⟩ = some (.string ⟨s.name.toArray⟩) ∧ w.cell? ⟨g,off + k * 3 + 2,none⟩ = some (.string ⟨s.text.toArray⟩))
  (IH : ∀ q,p < q → ∀ W : World,Below w.heap.size w W → Calls Tryz.prog 72 #[.slice (some ⟨g,off,none⟩) n c,.int .i64 (q : Nat)] W fun e w'=>NodePost l q W e w') :
  Calls Tryz.prog 72 #[.slice (some ⟨g,off,none⟩) n c,.int .i64 p] w fun e w'=>NodePost l p w e w':=by
 obtain ⟨h0,h1,h2⟩:=hc p _ hs
 have hgl : g < w.heap.size:=by simpa using block_lt_of_cell h0
 have hp : p < n:=by have:=(List.getElem?_eq_some_iff.1 hs).1;omega
 have hi0 : (0 : Int) ≤ p:=by omega
 have hi1 : (p : Int) < n:=by omega
 have hd : decide ((n : Int) ≤ p) = false:=by simp;omega
 have hni : ¬ (n : Int) ≤ p:=by omega
 have HB:=Lib.hid ((Below.refl _ w).alloc (Nat.le_refl _) (.cells #[.string ⟨#[]⟩,.string ⟨#[]⟩,.slice none 0 0,.slice none 0 0] 27))
 have HX:=Lib.hid (Box4.made ⟨#[]⟩ ⟨#[]⟩ (.slice none 0 0) (.slice none 0 0) w)
 have HPL : Hid (∀ W : World,Calls Tryz.prog 116 #[.agg #[.int .i64 1,.string ⟨lb.toArray⟩,.string ⟨#[]⟩]] W fun e w'=>e = .returned (.bool true) ∧ Below W.heap.size W w'):=Lib.hid (fun W : World=>plainR_any ⟨1,lb,[]⟩ W)
 have HC : Hid (∀ W : World,Below w.heap.size w W → ∀ k s,l[k]? = some s → W.cell? ⟨g,off + k * 3,none⟩ = some (.int .i64 s.kind) ∧ W.cell? ⟨g,off + k * 3 + 1,none⟩ = some (.string ⟨s.name.toArray⟩) ∧ W.cell? ⟨g,off + k * 3 + 2,none⟩ = some (.string ⟨s.text.toArray⟩)):=
  Lib.hid (fun W hb k s hk=>by
   obtain ⟨a0,a1,a2⟩:=hc k s hk
   exact ⟨(hb.cell (block_lt_of_cell a0)).trans a0,(hb.cell (block_lt_of_cell a1)).trans a1,(hb.cell (block_lt_of_cell a2)).trans a2⟩)
 have HPQ : Hid (∀ (s : Stp) (W : World),Calls Tryz.prog 116 #[.agg #[.int .i64 s.kind,.string ⟨s.name.toArray⟩,.string ⟨s.text.toArray⟩]] W fun e w'=>e = .returned (.bool (plainS s)) ∧ Below W.heap.size W w'):=Lib.hid (fun s W=>plainR_any s W)
 have HN:=Lib.hid hn
 have HS:=Lib.hid hs
 have HLB:=Lib.hid hlb
 have HIH:=Lib.hid IH
 clear hn hs hc hlb IH
 obtain ⟨lbb,hlbb⟩ : ∃ y : ByteArray,y = ⟨lb.toArray⟩:=⟨_,rfl⟩
 rw [← hlbb] at h1 HPL
 have HLBB:=Lib.hid hlbb
 clear hlbb
 go_enter Tryz.func72,Tryz.ntmps72
 go_wp2_with fail
 (with_reducible refine (HPL.out _).mono ?_)
 rintro e w2 ⟨rfl,hb2⟩
 have HB2:=Lib.hid (th HB.out (Nat.le_refl _) hb2)
 have HX2:=Lib.hid (HX.out.below hb2 (Nat.le_refl _))
 obtain ⟨c0,c1,c2⟩:=HC.out _ HB2.out _ _ HS.out
 simp only at c0 c1 c2
 rw [← HLBB.out] at c1
 have hgl2 : g < w2.heap.size:=by have:=HB2.out.size;omega
 clear hb2 h0 h1 h2
 have HR0 : Hid (NRel1 l n p lb lbb w.heap.size w2.heap.size w (p + 1) [] none 0 (w2.alloc (.cells #[.string lbb,.string ⟨#[]⟩,.slice none 0 0,.slice none 0 0] 27))):=Lib.hid
  ⟨by omega,by omega,by rw [List.take_add_one,HS.out];rfl,World.ownsRow_nil _ _ _ _,Box4.made _ _ _ _ _,HX2.out.below ((Below.refl _ w2).alloc (Nat.le_refl _) _) (Nat.le_refl _),HB2.out.alloc HB2.out.size _⟩
 have hb0 : w.heap.size < w2.heap.size:=HX2.out.lt
 obtain ⟨bt,hbt⟩ : ∃ bt,bt = w2.heap.size:=⟨_,rfl⟩
 rw [← hbt] at HR0 hb0
 have HBT:=Lib.hid hbt
 go_upto_block 0 with fail
 rw [← HBT.out]
 clear hbt
 go_cut [1] from 60 to 89 (fun s1 wx=>∃ (q : Nat) (al : List (List UInt8 × List UInt8)) (a5 : Option Addr) (c5 : Nat),s1 = .int .i64 q ∧ Hid (NRel1 l n p lb lbb w.heap.size bt w q al a5 c5 wx))
 case first=>
  go_wp2_with fail
  go_loopw [1] (fun s1 wr=>∃ (q : Nat) (al : List (List UInt8 × List UInt8)) (a5 : Option Addr) (c5 : Nat),s1 = .int .i64 q ∧ Hid (NRel1 l n p lb lbb w.heap.size bt w q al a5 c5 wr)) (fun s1 _=>n - (intOf s1).toNat)
  case atStart=>exact ⟨p + 1,[],none,0,by go_num,HR0⟩
  case round=>
   obtain ⟨q,al,a5,c5,rfl,HR⟩:=hrel
   obtain ⟨hq1,hq2,hq3,hq4,hq5,hq6,hq7⟩:=HR.out
   have HQ3:=Lib.hid hq3
   have HQ4:=Lib.hid hq4
   have HQ5:=Lib.hid hq5
   have HQ6:=Lib.hid hq6
   have HQ7:=Lib.hid hq7
   clear hq3 hq4 hq5 hq6 hq7
   by_cases hlt : q < n
   ·obtain ⟨⟨k,an,av⟩,hsq⟩ : ∃ s,l[q]? = some s:=⟨_,List.getElem?_eq_getElem (by rw [← HN.out];exact hlt)⟩
    have HSQ:=Lib.hid hsq
    obtain ⟨d0,d1,d2⟩:=HC.out _ HQ7.out _ _ hsq
    simp only at d0 d1 d2
    have hj0 : (0 : Int) ≤ q:=by omega
    have hj1 : (q : Int) < n:=by omega
    have hjd : decide ((q : Int) < n) = true:=by simp;omega
    have HLT:=Lib.hid hlt
    clear hsq
    by_cases hk : k = 2
    ·subst hk
     obtain ⟨x0,x1,x2,x3⟩:=HQ5.out.at
     have f2:=HQ5.out.thaw 2
     have hbl:=HQ5.out.lt
     have hwr:=HQ7.out.size
     have hal : al.length ≤ 1000000:=by
      have h9:=congrArg List.length HQ3.out
      simp only [List.length_take,List.length_append,List.length_cons,List.length_map] at h9
      omega
     have HCK : Hid (∀ W : World,Below w.heap.size w W → W.cell? ⟨g,off + q * 3 + 1,none⟩ = some (.string ⟨an.toArray⟩) ∧ W.cell? ⟨g,off + q * 3 + 2,none⟩ = some (.string ⟨av.toArray⟩)):=Lib.hid (fun W hb=>by
      obtain ⟨_,e1,e2⟩:=HC.out W hb _ _ HSQ.out
      exact ⟨e1,e2⟩)
     have HOX:=Lib.hid (HQ4.out.drew.alloc (.cells #[.string ⟨an.toArray⟩,.string ⟨av.toArray⟩] 82))
     have HNX : Hid (∀ j u,[Value.string ⟨an.toArray⟩,.string ⟨av.toArray⟩][j]? = some u → (wr.drew.alloc (.cells #[.string ⟨an.toArray⟩,.string ⟨av.toArray⟩] 82)).cell? ((⟨wr.heap.size,0,none⟩ : Addr).add j) = some u):=Lib.hid (World.news_of_block (cs:=#[.string ⟨an.toArray⟩,.string ⟨av.toArray⟩]) (t:=82) (fr:=(0,0)) (heap_alloc_new wr.drew _))
     have HBX : Hid (bt + 1 ≤ (wr.drew.alloc (.cells #[.string ⟨an.toArray⟩,.string ⟨av.toArray⟩] 82)).heap.size):=Lib.hid (by simp;omega)
     have HQB:=Lib.hid (HQ7.out.drew.alloc hwr (.cells #[.string ⟨an.toArray⟩,.string ⟨av.toArray⟩] 82))
     have HXX : Hid (Box4 bt lbb ⟨#[]⟩ (.slice a5 al.length c5) (.slice none 0 0) (wr.drew.alloc (.cells #[.string ⟨an.toArray⟩,.string ⟨av.toArray⟩] 82))):=Lib.hid (HQ5.out.grown (grownBy_drew_alloc _ _) (by simp))
     have HXZ : Hid (Box4 w.heap.size ⟨#[]⟩ ⟨#[]⟩ (.slice none 0 0) (.slice none 0 0) (wr.drew.alloc (.cells #[.string ⟨an.toArray⟩,.string ⟨av.toArray⟩] 82))):=Lib.hid (HQ6.out.grown (grownBy_drew_alloc _ _) (by simp))
     have HOB : Hid (∀ k,(Value.slice a5 al.length c5).ownBlock = some k → bt + 1 ≤ k):=Lib.hid (fun k e=>(HQ4.out.lt k e).1)
     obtain ⟨i0,hi,hz0,hz1,hz2⟩:=info_parts infoAttr
     go_wp2_with fail
     go_region_law (refine step_append_at rfl (.tmp 73) (.tmp 85) 24 rfl (bt + 1) 82 i0 (.agg #[.string ⟨#[]⟩,.string ⟨#[]⟩]) 2 32 Tryz.underlying24 hi hz0 hz1 hz2 rfl (by decide) (.slice a5 al.length c5) al.length (attrCells al) (by simp [Act.eval]) HOX.out ⟨wr.heap.size,0,none⟩ 1 1 [.string ⟨an.toArray⟩,.string ⟨av.toArray⟩] (by simp [Act.eval]) rfl HNX.out (by simp [Value.oneCell']) (by unfold maxLen;omega) (by omega) HBX.out ?_;intro v3 w3 hown3 hgrow3 hat3;have HB3 : Hid (Below w.heap.size w w3):=Lib.hid (HQB.out.grown hgrow3 (by simp;omega) (fun k e=>by have:=HOB.out k e;omega));have HX3 : Hid (Box4 bt lbb ⟨#[]⟩ (.slice a5 al.length c5) (.slice none 0 0) w3):=Lib.hid (HXX.out.grown hgrow3 (fun e=>by have:=HOB.out _ e.symm;omega));have HZ3 : Hid (Box4 w.heap.size ⟨#[]⟩ ⟨#[]⟩ (.slice none 0 0) (.slice none 0 0) w3):=Lib.hid (HXZ.out.grown hgrow3 (fun e=>by have:=HOB.out _ e.symm;omega));have y2:=HX3.out.at.2.2.1;have z2:=HX3.out.thaw 2;obtain ⟨a3,c3,rfl⟩:=own_sl hown3;have HO3:=Lib.hid hown3;clear hown3 hgrow3 hat3)
     all_goals (
      have HRN : Hid (NRel1 l n p lb lbb w.heap.size bt w (q + 1) (al ++ [(an,av)]) a3 c3 (w3.setCell ⟨bt,2,none⟩ (.slice a3 (al.length + 1) c3))):=Lib.hid
       ⟨by omega,by have:=HLT.out;omega,by rw [List.take_add_one,HQ3.out,HSQ.out];simp [attrS],by
        rw [attrCells_snoc,List.length_append]
        exact HO3.out.kept (grownBy_setAt _ _ _ _) (by
         by_cases h9 : (Value.slice a3 (al.length + 1) c3).ownBlock = none
         ·exact .inl h9
         ·exact .inr (fun e=>by have:=(HO3.out.lt _ e).1;omega)),by
        rw [List.length_append]
        exact HX3.out.setA _,HZ3.out.grown (grownBy_setAt _ _ _ _) (by simp;omega),HB3.out.setCell (p:=⟨bt,2,none⟩) (by simp;omega) _⟩
      go_wp2
      exact ⟨⟨q + 1,al ++ [(an,av)],a3,c3,by go_num,HRN⟩,by have:=HLT.out;simp [intOf];omega⟩)
    ·have g2 : (k == 2) = false:=beq_eq_false_iff_ne.2 hk
     clear hk
     go_wp2_with fail
     go_meet
     case rel=>exact ⟨q,al,a5,c5,rfl,HR⟩
   ·have hjd : decide ((q : Int) < n) = false:=by simp;omega
    have hji : ¬ (q : Int) < n:=by omega
    go_wp2_with fail
    go_meet
    case rel=>exact ⟨q,al,a5,c5,rfl,HR⟩
 case rest=>
  obtain ⟨q,al,a5,c5,rfl,HR⟩:=hcut
  have HR2 : Hid (NRel2 l n p lb lbb w.heap.size bt w q al [] [] a5 none c5 0 wc):=Lib.hid (by
   obtain ⟨g1,g2,g3,g4,g5,g6,g7⟩:=HR.out
   exact ⟨g1,g2,by rw [g3];simp [stepsK],rfl,g4,World.ownsRow_nil _ _ _ _,by rw [KidsS],g5,g6,g7⟩)
  clear HR
  go_upto_block 2 with fail
  go_cut [1,7,8] from 90 to 117 (fun s1 s7 s8 wx=>∃ (q : Nat) (ks : List Tr) (lk : List (List Value)) (a7 : Option Addr) (c7 : Nat),s1 = .int .i64 q ∧ Hid (q = n ∨ ∃ s,l[q]? = some s ∧ s.kind = 4) ∧ Hid (NRel2 l n p lb lbb w.heap.size bt w q al ks lk a5 a7 c5 c7 wx))
  case first=>
   go_wp2_with fail
   go_loopw [1] (fun s1 wr=>∃ (q : Nat) (ks : List Tr) (lk : List (List Value)) (a7 : Option Addr) (c7 : Nat),s1 = .int .i64 q ∧ Hid (NRel2 l n p lb lbb w.heap.size bt w q al ks lk a5 a7 c5 c7 wr)) (fun s1 _=>n - (intOf s1).toNat)
   case atStart=>exact ⟨q,[],[],none,0,rfl,HR2⟩
   case round=>
    obtain ⟨q,ks,lk,a7,c7,rfl,HR⟩:=hrel
    obtain ⟨hq1,hq2,hq3,hqb,hq4,hqk,hqs,hq5,hq6,hq7⟩:=HR.out
    have HQ3:=Lib.hid hq3
    have HQb:=Lib.hid hqb
    have HQ4:=Lib.hid hq4
    have HQk:=Lib.hid hqk
    have HQs:=Lib.hid hqs
    have HQ5:=Lib.hid hq5
    have HQ6:=Lib.hid hq6
    have HQ7:=Lib.hid hq7
    clear hq3 hqb hq4 hqk hqs hq5 hq6 hq7
    by_cases hlt : q < n
    ·obtain ⟨⟨k,an,av⟩,hsq⟩ : ∃ s,l[q]? = some s:=⟨_,List.getElem?_eq_getElem (by rw [← HN.out];exact hlt)⟩
     have HSQ:=Lib.hid hsq
     obtain ⟨d0,d1,d2⟩:=HC.out _ HQ7.out _ _ hsq
     simp only at d0 d1 d2
     have hj0 : (0 : Int) ≤ q:=by omega
     have hj1 : (q : Int) < n:=by omega
     have hjd : decide ((q : Int) < n) = true:=by simp;omega
     have HLT:=Lib.hid hlt
     clear hsq
     by_cases hk : k = 4
     ·subst hk
      go_wp2_with fail
      go_meet
      case rel=>exact ⟨q,ks,lk,a7,c7,rfl,Lib.hid (.inr ⟨_,HSQ.out,rfl⟩),HR⟩
     ·have g4 : (k == 4) = false:=beq_eq_false_iff_ne.2 hk
      have g4' : (k != 4) = true:=by simp [hk]
      clear hk
      go_wp2_with fail
      (with_reducible refine (HIH.out q (by omega) _ HQ7.out).mono ?_)
      rintro e w3 ⟨hb3,x,y,a',d',n',c',m',f',r,rfl,hpost⟩
      have HB3:=Lib.hid hb3
      have HW3:=Lib.hid (th HQ7.out (Nat.le_refl _) hb3)
      have HX3:=Lib.hid (HQ5.out.below hb3 (Nat.le_refl _))
      have HZ3:=Lib.hid (HQ6.out.below hb3 (Nat.le_refl _))
      clear hb3 d0 d1 d2
      rcases hpost with rfl | ⟨T,k',rfl,hk1,hk2,hts,hbr,htk⟩
      ·obtain ⟨z0,z1,z2,z3⟩:=HZ3.out.at
       have f0:=HZ3.out.thaw 0
       have f1:=HZ3.out.thaw 1
       have f2:=HZ3.out.thaw 2
       have f3:=HZ3.out.thaw 3
       have hzl:=HZ3.out.lt
       have hww:=HW3.out.size
       go_wp2
       (try simp only [Exit.inBlock,Exit.then])
       refine ret_tree rfl rfl ((HZ3.out.set4 _ _ _ _).grown (World.grownBy_alloc _ _ none) (by simp)) rfl ?_
       exact nodePost_none ((below_set4 HW3.out (Nat.le_refl _) _ _ _ _).alloc (by simp;omega) _)
      ·have hks : ks.length ≤ 1000000:=by
        have h9:=congrArg List.length HQ3.out
        have h8:=stepsK_count ks
        simp only [List.length_take,List.length_append,List.length_cons,List.length_map] at h9
        omega
       obtain ⟨x0,x1,x2,x3⟩:=HX3.out.at
       have f3:=HX3.out.thaw 3
       have hbl:=HX3.out.lt
       have hbr0 : bt < wr.heap.size:=HQ5.out.lt
       have hww:=HW3.out.size
       have hki : (0 : Int) ≤ k':=by omega
       have hkd : decide ((k' : Int) < 0) = false:=by simp
       have hkn : ¬ (k' : Int) < 0:=by omega
       have HTS:=Lib.hid hts
       have HBRR:=Lib.hid hbr
       have HTK:=Lib.hid htk
       have HK1:=Lib.hid hk1
       have HK2:=Lib.hid hk2
       have HOB : Hid (∀ k,(Value.slice a7 ks.length c7).ownBlock = some k → bt + 1 ≤ k ∧ k < w3.heap.size):=Lib.hid (fun k e=>by have h1:=HQk.out.lt k e;have h2:=HB3.out.size;exact ⟨h1.1,by omega⟩)
       have HOX:=Lib.hid (((own_bel HQk.out HB3.out).alloc (.cells #[.string x,.string y,.slice a' n' c',.slice d' m' f'] 27)).alloc (.cells #[.string x,.string y,.slice a' n' c',.slice d' m' f'] 27))
       have HNX:=Lib.hid (cell_four_new (w3.alloc (.cells #[.string x,.string y,.slice a' n' c',.slice d' m' f'] 27)) (.string x) (.string y) (.slice a' n' c') (.slice d' m' f') 27)
       have HGX : Hid (w3.grownBy ((w3.alloc (.cells #[.string x,.string y,.slice a' n' c',.slice d' m' f'] 27)).alloc (.cells #[.string x,.string y,.slice a' n' c',.slice d' m' f'] 27)) none):=Lib.hid ⟨rfl,rfl,rfl,by simp;omega,fun k hk _=>(Below.heap_alloc _ _ k (by simp;omega)).trans (Below.heap_alloc _ _ k hk)⟩
       have HOA:=Lib.hid (((own_bel HQ4.out HB3.out).alloc (.cells #[.string x,.string y,.slice a' n' c',.slice d' m' f'] 27)).alloc (.cells #[.string x,.string y,.slice a' n' c',.slice d' m' f'] 27))
       have HAP : Hid ((Value.slice a5 al.length c5).ownBlock = none ∨ (Value.slice a5 al.length c5).ownBlock ≠ (Value.slice a7 ks.length c7).ownBlock):=Lib.hid (own_apart HQ4.out HQk.out (by decide))
       clear hts hbr htk hk1 hk2
       obtain ⟨i0,hi,hz0,hz1,hz2⟩:=info_parts infoTree
       go_wp2_with (at_builtin;refine wpList_append_own_at _ rfl _ _ 25 rfl (bt + 1) 27 i0 (.agg #[.string ⟨#[]⟩,.string ⟨#[]⟩,.slice none 0 0,.slice none 0 0]) 4 80 Tryz.underlying25 hi hz0 hz1 hz2 rfl (by decide) _ _ _ rfl HOX.out ⟨w3.heap.size + 1,0,none⟩ 1 1 [.string x,.string y,.slice a' n' c',.slice d' m' f'] rfl rfl (by have h9:=HNX.out;rw [World.size_alloc] at h9;exact h9) (by simp [Value.oneCell']) (by unfold maxLen;omega) (by omega) (by simp;omega) ?_;intro v4 w4 hown4 hgrow4 _ hat4;obtain ⟨a4,c4,rfl⟩:=own_sl hown4;have HXW:=Lib.hid (((HX3.out.grown (World.grownBy_alloc _ (.cells #[.string x,.string y,.slice a' n' c',.slice d' m' f'] 27) none) (by simp)).grown (World.grownBy_alloc _ (.cells #[.string x,.string y,.slice a' n' c',.slice d' m' f'] 27) none) (by simp)).grown hgrow4 (fun e=>by have:=HOB.out _ e.symm;omega));have y3:=HXW.out.at.2.2.2;have g3:=HXW.out.thaw 3;have HO4:=Lib.hid hown4;have HG4:=Lib.hid hgrow4;have HA4:=Lib.hid hat4;clear hown4 hgrow4 hat4)
       have HRN : Hid (NRel2 l n p lb lbb w.heap.size bt w k' al (ks ++ [T]) (lk ++ [[.string x,.string y,.slice a' n' c',.slice d' m' f']]) a5 a4 c5 c4 (w4.setCell ⟨bt,3,none⟩ (.slice a4 (ks.length + 1) c4))):=Lib.hid (by
        have hsz4:=HG4.out.size
        refine ⟨by have:=HK1.out;omega,by have:=HK2.out;have:=HN.out;omega,?_,?_,?_,?_,?_,?_,?_,?_⟩
        ·rw [HTK.out,HQ3.out,stepsK_append,stepsK_one];simp
        ·rw [bareK_append,HQb.out];simp [bareK,HBRR.out]
        ·exact own_setAt (HOA.out.kept HG4.out HAP.out) (by omega)
        ·rw [List.length_append,List.flatten_append]
         exact own_setAt (by simpa using HO4.out) (by omega)
        ·rw [List.length_append]
         exact kids_push HQs.out HQk.out HB3.out HGX.out HG4.out HA4.out HTS.out hbr0
        ·rw [List.length_append]
         exact HXW.out.setK _
        ·exact (((HZ3.out.grown (World.grownBy_alloc _ (.cells #[.string x,.string y,.slice a' n' c',.slice d' m' f'] 27) none) (by simp)).grown (World.grownBy_alloc _ (.cells #[.string x,.string y,.slice a' n' c',.slice d' m' f'] 27) none) (by simp)).grown HG4.out (fun e=>by have:=HOB.out _ e.symm;omega)).grown (grownBy_setAt _ _ _ _) (by simp;omega)
        ·exact (((HW3.out.alloc HW3.out.size (.cells #[.string x,.string y,.slice a' n' c',.slice d' m' f'] 27)).alloc (by simp;omega) (.cells #[.string x,.string y,.slice a' n' c',.slice d' m' f'] 27)).grown HG4.out (by simp;omega) (fun k e=>by have:=HOB.out k e;omega)).setCell (p:=⟨bt,3,none⟩) (by simp;omega) _)
       go_wp2
       exact ⟨⟨k',ks ++ [T],_,a4,c4,rfl,HRN⟩,by have:=HK1.out;simp [intOf];omega⟩
    ·have hjd : decide ((q : Int) < n) = false:=by simp;omega
     have hji : ¬ (q : Int) < n:=by omega
     go_wp2_with fail
     go_meet
     case rel=>exact ⟨q,ks,lk,a7,c7,rfl,Lib.hid (.inl (by omega)),HR⟩
  case rest=>
   obtain ⟨q,ks,lk,a7,c7,rfl,HXQ,HR⟩:=hcut
   obtain ⟨hq1,hq2,hq3,hqb,hq4,hqk,hqs,hq5,hq6,hq7⟩:=HR.out
   have HQ3:=Lib.hid hq3
   have HQb:=Lib.hid hqb
   have HQ4:=Lib.hid hq4
   have HQk:=Lib.hid hqk
   have HQs:=Lib.hid hqs
   have HQ5:=Lib.hid hq5
   have HQ6:=Lib.hid hq6
   have HQ7:=Lib.hid hq7
   obtain ⟨z0,z1,z2,z3⟩:=hq6.at
   have f0:=hq6.thaw 0
   have f1:=hq6.thaw 1
   have f2:=hq6.thaw 2
   have f3:=hq6.thaw 3
   have hzl:=hq6.lt
   clear hq3 hqb hq4 hqk hqs hq5 hq6 hq7 HR2 HR
   by_cases hqn : q = n
   ·have hjd : decide ((n : Int) ≤ q) = true:=by simp;omega
    have hji : (n : Int) ≤ q:=by omega
    clear HXQ hqn
    go_wp2
    (try simp only [Exit.inBlock,Exit.then])
    refine ret_tree rfl rfl (HQ6.out.set4 _ _ _ _) rfl ?_
    exact nodePost_none (below_set4 HQ7.out (Nat.le_refl _) _ _ _ _)
   ·obtain ⟨⟨k,an,av⟩,hsq,hk4⟩:=HXQ.out.resolve_left hqn
    obtain rfl : k = 4:=hk4
    have HSQ:=Lib.hid hsq
    obtain ⟨d0,d1,d2⟩:=HC.out _ HQ7.out _ _ hsq
    simp only at d0 d1 d2
    have hj0 : (0 : Int) ≤ q:=by omega
    have hj1 : (q : Int) < n:=by omega
    have hjd : decide ((n : Int) ≤ q) = false:=by simp;omega
    have hji : ¬ (n : Int) ≤ q:=by omega
    have HP4 : Hid (∀ W : World,Calls Tryz.prog 116 #[.agg #[.int .i64 4,.string ⟨an.toArray⟩,.string ⟨av.toArray⟩]] W fun e w'=>e = .returned (.bool (plainS ⟨4,an,av⟩)) ∧ Below W.heap.size W w'):=Lib.hid (fun W=>HPQ.out ⟨4,an,av⟩ W)
    clear hsq hqn HXQ
    cases hps : plainS ⟨4,an,av⟩ with
    | false=>
     rw [hps] at HP4
     clear hps
     go_wp2_with fail
     (with_reducible refine (HP4.out _).mono ?_)
     rintro e w3 ⟨rfl,hb3⟩
     have HB3:=Lib.hid (th HQ7.out (Nat.le_refl _) hb3)
     have hx3:=HQ6.out.below hb3 (Nat.le_refl _)
     have HX3:=Lib.hid hx3
     obtain ⟨y0,y1,y2,y3⟩:=hx3.at
     have g0:=hx3.thaw 0
     have g1:=hx3.thaw 1
     have g2:=hx3.thaw 2
     have g3:=hx3.thaw 3
     clear hb3 hx3 z0 z1 z2 z3 f0 f1 f2 f3 d0 d1 d2
     go_wp2
     (try simp only [Exit.inBlock,Exit.then])
     refine ret_tree rfl rfl (HX3.out.set4 _ _ _ _) rfl ?_
     exact nodePost_none (below_set4 HB3.out (Nat.le_refl _) _ _ _ _)
    | true=>
     have hes : an = [] ∧ av = []:=by simpa [plainS] using hps
     obtain ⟨rfl,rfl⟩:=hes
     rw [hps] at HP4
     clear hps
     go_wp2_with fail
     (with_reducible refine (HP4.out _).mono ?_)
     rintro e w3 ⟨rfl,hb3⟩
     have HBB:=Lib.hid hb3
     have HB3:=Lib.hid (th HQ7.out (Nat.le_refl _) hb3)
     have hx3:=HQ6.out.below hb3 (Nat.le_refl _)
     have HX3:=Lib.hid hx3
     obtain ⟨y0,y1,y2,y3⟩:=hx3.at
     have g0:=hx3.thaw 0
     have g1:=hx3.thaw 1
     have g2:=hx3.thaw 2
     have g3:=hx3.thaw 3
     have HT3:=Lib.hid (HQ5.out.below hb3 (Nat.le_refl _))
     obtain ⟨t0,t1,t2,t3⟩:=HT3.out.at
     have htl:=HT3.out.lt
     clear hb3 hx3 z0 z1 z2 z3 f0 f1 f2 f3 d0 d1 d2
     go_wp2
     (try simp only [Exit.inBlock,Exit.then])
     refine ret_tree rfl rfl (HX3.out.set4 _ _ _ _) rfl ?_
     refine ⟨below_set4 HB3.out (Nat.le_refl _) _ _ _ _,lbb,⟨#[]⟩,a5,a7,_,c5,_,c7,((q + 1 : Nat) : Int),by first | rfl | (simp;done),.inr ⟨.node lb [] al ks,q + 1,rfl,by omega,by have:=HN.out;omega,?_,?_,?_⟩⟩
     ·rw [TreeS.eq]
      have keep : ∀ {S : Nat → Prop} {v : Value} {n' size : Nat} {xs : List Value},(∀ g,S g → bt + 1 ≤ g) → AtRowS S wc v n' size xs → AtRowS (fun g=>w.heap.size ≤ g) ((((w3.setCell ⟨w.heap.size,0,none⟩ (.string lbb)).setCell ⟨w.heap.size,1,none⟩ (.string ⟨#[]⟩)).setCell ⟨w.heap.size,2,none⟩ (.slice a5 al.length c5)).setCell ⟨w.heap.size,3,none⟩ (.slice a7 ks.length c7)) v n' size xs:=fun hS h=>
       ((h.keep HBB.out.size (fun g _ hg=>HBB.out.block g hg)).set4 (fun g hg=>by have:=hS g hg;omega) _ _ _ _).mono (fun g hg _=>by have:=hS g hg;omega)
      exact ⟨_,_,by rw [HLBB.out],keep (S:=fun g=>bt + 1 ≤ g) (fun g h=>h) (AtRowS.of_own HQ4.out (fun g hg=>(HQ4.out.lt g hg).1)),lk,KidsS.map (fun h=>keep (fun g hg=>hg.1) h) HQs.out,keep (S:=fun g=>bt + 1 ≤ g) (fun g h=>h) (AtRowS.of_own HQk.out (fun g hg=>(HQk.out.lt g hg).1))⟩
     ·have h9:=HQb.out
      unfold bareA
      rw [if_neg HLB.out,h9]
      rfl
     ·rw [List.take_add_one,HSQ.out,HQ3.out,stepsT_elem _ _ _ HLB.out]
      simp
theorem StepsAt.below {l : List Stp} {g off : Nat} {w W : World} (h : StepsAt l g off w) (hb : Below w.heap.size w W) : StepsAt l g off W:=fun k s hk=>by
 obtain ⟨a0,a1,a2⟩:=h k s hk
 exact ⟨(hb.cell (block_lt_of_cell a0)).trans a0,(hb.cell (block_lt_of_cell a1)).trans a1,(hb.cell (block_lt_of_cell a2)).trans a2⟩
theorem node_any (l : List Stp) (n c g off : Nat) (hn : n = l.length) (hl : n ≤ 1000000) (hne : ∀ s ∈ l,s.kind = 1 → s.name ≠ []) : ∀ (m q : Nat),n - q ≤ m → ∀ w : World,StepsAt l g off w →
  Calls Tryz.prog 72 #[.slice (some ⟨g,off,none⟩) n c,.int .i64 (q : Nat)] w fun e w'=>NodePost l q w e w':=by
 intro m
 induction m with
 | zero=>intro q hq w _;exact node_far l n c q _ w hn (by omega)
 | succ m ih=>
  intro q hq w hs
  by_cases hlt : q < n
  ·obtain ⟨⟨k,nm,tx⟩,hsq⟩ : ∃ s,l[q]? = some s:=⟨_,List.getElem?_eq_getElem (by rw [← hn];exact hlt)⟩
   obtain ⟨h0,h1,h2⟩:=hs q _ hsq
   cases hps : plainS ⟨k,nm,tx⟩ with
   | false=>exact node_odd l n c q g off k nm tx w hn hsq h0 h1 h2 (.inl hps)
   | true=>
    by_cases hk1 : k = 1
    ·subst hk1
     have htx : tx = []:=by simpa [plainS] using hps
     subst htx
     exact node_elem l n c q g off nm w hn hl hsq (hne _ (List.mem_of_getElem? hsq) rfl) hs (fun q' hq' W hb=>ih q' (by omega) W (StepsAt.below hs hb))
    ·by_cases hk3 : k = 3
     ·subst hk3
      have hnm : nm = []:=by simpa [plainS] using hps
      subst hnm
      exact node_text l n c q g off tx w hn (by omega) hsq h0 h1 h2
     ·exact node_odd l n c q g off k nm tx w hn hsq h0 h1 h2 (.inr ⟨hps,hk1,hk3⟩)
  ·exact node_far l n c q _ w hn (by omega)
theorem node_any0 (l : List Stp) (v : Value) (w : World) (hv : AtRow w v l.length 3 (stepCells l)) (hl : l.length ≤ 1000000) (hne : ∀ s ∈ l,s.kind = 1 → s.name ≠ []) :
  Calls Tryz.prog 72 #[v,.int .i64 0] w fun e w'=>NodePost l 0 w e w':=by
 obtain ⟨a,c,g,off,rfl,ha,hc⟩:=step_at hv
 by_cases h0 : 0 < l.length
 ·obtain rfl:=ha h0
  exact node_any l l.length c g off rfl hl hne l.length 0 (by omega) w hc
 ·exact node_far l l.length c 0 a w rfl (by omega)
set_option maxRecDepth 10000 in
set_option maxHeartbeats 4000000 in
theorem rawR_any (l : List Stp) (v : Value) (w : World) (hv : AtRow w v l.length 3 (stepCells l)) (hl : l.length ≤ 1000000) (hne : ∀ s ∈ l,s.kind = 1 → s.name ≠ []) :
  Calls Tryz.prog 39 #[v] w fun e w'=>RawPost l w e w':=by
 have HB:=Lib.hid ((Below.refl _ w).alloc (Nat.le_refl _) (.cells #[.string ⟨#[]⟩,.string ⟨#[]⟩,.slice none 0 0,.slice none 0 0] 27))
 have HX:=Lib.hid (Box4.made ⟨#[]⟩ ⟨#[]⟩ (.slice none 0 0) (.slice none 0 0) w)
 have HND:=Lib.hid (node_any0 l v _ (hv.below HB.out (Nat.le_refl _)) hl hne)
 obtain ⟨a0,c0,g0,off0,rfl,_,_⟩:=step_at hv
 obtain ⟨n,hn⟩ : ∃ n,n = l.length:=⟨_,rfl⟩
 rw [← hn] at HND hl ⊢
 have HN:=Lib.hid hn
 clear hv hne hn
 go_enter Tryz.func39,Tryz.ntmps39
 go_wp2_with fail
 (with_reducible refine HND.out.mono ?_)
 rintro e w3 ⟨hb3,x,y,a',d',n',c',m',f',r,rfl,hpost⟩
 have HBB:=Lib.hid hb3
 have HB3:=Lib.hid (th HB.out (Nat.le_refl _) hb3)
 have hx3:=HX.out.below hb3 (Nat.le_refl _)
 have HX3:=Lib.hid hx3
 obtain ⟨y0,y1,y2,y3⟩:=hx3.at
 have g0:=hx3.thaw 0
 have g1:=hx3.thaw 1
 have g2:=hx3.thaw 2
 have g3:=hx3.thaw 3
 have hlt3:=hx3.lt
 have HP:=Lib.hid hpost
 clear hb3 hx3 hpost
 by_cases hrn : r = (n : Int)
 ·have hre : (r == (n : Int)) = true:=by simp [hrn]
  have hre2 : ((n : Int) == (n : Int)) = true:=by simp
  subst hrn
  have hpos : 0 < n:=by
   rcases HP.out with h9 | ⟨T,k',h9,h8,_⟩
   ·omega
   ·omega
  have hi1 : (0 : Int) < n:=by omega
  clear hre
  go_wp2
  (try simp only [Exit.inBlock,Exit.then])
  refine ret_tree rfl rfl ((HX3.out.set4 _ _ _ _).grown (World.grownBy_alloc _ _ none) (by simp)) rfl ?_
  refine ⟨(below_set4 HB3.out (Nat.le_refl _) _ _ _ _).alloc (by simp;omega) _,x,y,a',d',n',c',m',f',true,by first | rfl | (simp;done),fun _=>?_⟩
  rcases HP.out with h9 | ⟨T,k',h9,h8,h7,hts,hbr,htk⟩
  ·omega
  ·obtain rfl : k' = n:=by omega
   refine ⟨T,?_,hbr,?_⟩
   ·have hge : ∀ g,(w.alloc (.cells #[.string ⟨#[]⟩,.string ⟨#[]⟩,.slice none 0 0,.slice none 0 0] 27)).heap.size ≤ g → w.heap.size + 1 ≤ g:=fun g hg=>by rw [World.size_alloc] at hg;exact hg
    have h6:=TreeS.map (S':=fun g=>w.heap.size ≤ g) (w':=((((w3.setCell ⟨w.heap.size,0,none⟩ (.string x)).setCell ⟨w.heap.size,1,none⟩ (.string y)).setCell ⟨w.heap.size,2,none⟩ (.slice a' n' c')).setCell ⟨w.heap.size,3,none⟩ (.slice d' m' f'))) (fun h=>(h.set4 (fun g hg=>by have:=hge g hg;omega) _ _ _ _).mono (fun g hg _=>by have:=hge g hg;omega)) T _ hts
    exact h6.keep (by simp) (fun g _ hg=>Below.heap_alloc _ _ g hg)
   ·have h5 : l.take k' = l:=List.take_of_length_le (by rw [← HN.out];omega)
    rw [h5] at htk
    simpa using htk.symm
 ·have hre : (r == (n : Int)) = false:=beq_eq_false_iff_ne.2 hrn
  clear hrn
  go_wp2
  (try simp only [Exit.inBlock,Exit.then])
  refine ret_tree rfl rfl ((HX3.out.set4 _ _ _ _).grown (World.grownBy_alloc _ _ none) (by simp)) rfl ?_
  exact ⟨(below_set4 HB3.out (Nat.le_refl _) _ _ _ _).alloc (by simp;omega) _,x,y,a',d',n',c',m',f',false,by first | rfl | (simp;done),fun h=>by cases h⟩
set_option maxRecDepth 10000 in
set_option maxHeartbeats 4000000 in
theorem rawS_any (l : List Stp) (v : Value) (w : World) (hv : AtRow w v l.length 3 (stepCells l)) (hl : l.length ≤ 1000000) :
  Calls Tryz.prog 18 #[v] w fun e w'=>RawPost l w e w':=by
 have HV:=Lib.hid hv
 obtain ⟨a,c,g,off,rfl,ha,hc⟩:=step_at hv
 obtain ⟨n,hn⟩ : ∃ n,n = l.length:=⟨_,rfl⟩
 rw [← hn] at ha hl HV ⊢
 have HA:=Lib.hid ha
 have HC:=Lib.hid hc
 have HN:=Lib.hid hn
 have HB:=Lib.hid ((Below.refl _ w).alloc (Nat.le_refl _) (.cells #[.string ⟨#[]⟩,.string ⟨#[]⟩,.slice none 0 0,.slice none 0 0] 27))
 have HX:=Lib.hid (Box4.made ⟨#[]⟩ ⟨#[]⟩ (.slice none 0 0) (.slice none 0 0) w)
 clear ha hc hn hv
 go_enter Tryz.func18,Tryz.ntmps18
 go_wp2_with fail
 go_loopw [4] (fun i wr=>∃ k : Nat,k ≤ n ∧ i = .int .i64 k ∧ Hid (∀ s ∈ l.take k,s.kind = 1 → s.name ≠ []) ∧ Hid (Box4 w.heap.size ⟨#[]⟩ ⟨#[]⟩ (.slice none 0 0) (.slice none 0 0) wr) ∧ Hid (Below w.heap.size w wr)) (fun i _=>n - (intOf i).toNat)
 case atStart=>exact ⟨0,by omega,rfl,Lib.hid (fun s hs=>by simp at hs),HX,HB⟩
 case round=>
  obtain ⟨k,hk,rfl,HG,HXr,HBr⟩:=hrel
  obtain ⟨y0,y1,y2,y3⟩:=HXr.out.at
  have f0:=HXr.out.thaw 0
  have f1:=HXr.out.thaw 1
  have f2:=HXr.out.thaw 2
  have f3:=HXr.out.thaw 3
  have hlt3:=HXr.out.lt
  by_cases hlt : k < n
  ·obtain rfl:=HA.out (by omega)
   obtain ⟨⟨q,nm,tx⟩,hq⟩ : ∃ b,l[k]? = some b:=⟨_,List.getElem?_eq_getElem (by rw [← HN.out];omega)⟩
   obtain ⟨r1,r2,r3⟩:=HC.out k _ hq
   simp only at r1 r2 r3
   have up : ∀ {p : Addr} {u : Value},w.cell? p = some u → wr.cell? p = some u:=fun h=>(HBr.out.cell (block_lt_of_cell h)).trans h
   have s1:=up r1
   have s2:=up r2
   have hi0 : (0 : Int) ≤ k:=by omega
   have hi1 : (k : Int) < n:=by omega
   have HQ:=Lib.hid hq
   have HLT:=Lib.hid hlt
   have hnm:=emp_iff nm
   clear r1 r2 r3 up hq
   have next : (q = 1 → nm ≠ []) → Hid (∀ s ∈ l.take (k + 1),s.kind = 1 → s.name ≠ []):=fun h=>Lib.hid (fun s hs hs1=>by
    rw [List.take_add_one,HQ.out] at hs
    rcases List.mem_append.1 hs with hs | hs
    ·exact HG.out s hs hs1
    ·obtain rfl : s = ⟨q,nm,tx⟩:=by simpa using hs
     exact h hs1)
   by_cases hq1 : q = 1
   ·subst hq1
    by_cases hne : nm = []
    ·have h5 : (⟨nm.toArray⟩ : ByteArray).toList.isEmpty = true:=by rw [hnm];simp [hne]
     generalize (⟨nm.toArray⟩ : ByteArray) = nb at s2 h5
     clear next hnm hne
     go_wp2
     (try simp only [Exit.inBlock,Exit.then])
     refine ret_tree rfl rfl (HXr.out.set4 _ _ _ _) rfl ?_
     exact ⟨below_set4 HBr.out (Nat.le_refl _) _ _ _ _,_,_,_,_,_,_,_,_,false,rfl,fun h=>by cases h⟩
    ·have h5 : (⟨nm.toArray⟩ : ByteArray).toList.isEmpty = false:=by rw [hnm];simp [hne]
     have HG2:=next (fun _=>hne)
     generalize (⟨nm.toArray⟩ : ByteArray) = nb at s2 h5
     clear next hnm hne
     go_wp2
     exact ⟨⟨k + 1,by have:=HLT.out;omega,by go_num,HG2,HXr,HBr⟩,by have:=HLT.out;simp [intOf];omega⟩
   ·have h5 : (q == 1) = false:=beq_eq_false_iff_ne.2 hq1
    have HG2:=next (fun h=>absurd h hq1)
    clear next hnm hq1
    go_wp2
    exact ⟨⟨k + 1,by have:=HLT.out;omega,by go_num,HG2,HXr,HBr⟩,by have:=HLT.out;simp [intOf];omega⟩
  ·obtain rfl : n = k:=by omega
   have HGF : Hid (∀ s ∈ l,s.kind = 1 → s.name ≠ []):=Lib.hid (by have h9:=HG.out;rwa [List.take_of_length_le (by rw [← HN.out];omega)] at h9)
   have HPS:=Lib.hid (plainS_any l (.slice a n c) wr (by rw [← HN.out];exact HV.out.below HBr.out (Nat.le_refl _)) (by rw [← HN.out];exact hl))
   go_wp2_with fail
   (with_reducible refine HPS.out.mono ?_)
   rintro e w4 ⟨hb4,a4,c4,rfl,hown4⟩
   have HRW:=Lib.hid (rawR_any l _ w4 (AtRow.of_own hown4) (by rw [← HN.out];exact hl) HGF.out)
   have HB4:=Lib.hid (th HBr.out (Nat.le_refl _) hb4)
   have HX4:=Lib.hid (HXr.out.below hb4 (Nat.le_refl _))
   clear hb4 hown4 y0 y1 y2 y3 f0 f1 f2 f3 hlt3
   go_wp2_with fail
   (with_reducible refine HRW.out.mono ?_)
   rintro e w5 ⟨hb5,x,y,a',d',n',c',m',f',is,rfl,hpost⟩
   have HB5:=Lib.hid (th HB4.out (Nat.le_refl _) hb5)
   have hx5:=HX4.out.below hb5 (Nat.le_refl _)
   have HX5:=Lib.hid hx5
   obtain ⟨y0,y1,y2,y3⟩:=hx5.at
   have f0:=hx5.thaw 0
   have f1:=hx5.thaw 1
   have f2:=hx5.thaw 2
   have f3:=hx5.thaw 3
   have HP:=Lib.hid hpost
   have h4l : w.heap.size < w4.heap.size:=HX4.out.lt
   clear hb5 hx5 hpost
   go_wp2
   (try simp only [Exit.inBlock,Exit.then])
   refine ret_tree rfl rfl (HX5.out.set4 _ _ _ _) rfl ?_
   refine ⟨below_set4 HB5.out (Nat.le_refl _) _ _ _ _,x,y,a',d',n',c',m',f',is,by first | rfl | (simp;done),fun his=>?_⟩
   obtain ⟨T,hts,hbr,hst⟩:=HP.out his
   exact ⟨T,TreeS.map (fun h=>(h.set4 (fun g hg=>by omega) _ _ _ _).mono (fun g hg _=>by omega)) T _ hts,hbr,hst⟩
theorem sizeT_w (t : Tr) : wT t ≤ 100000 → sizeT t = true:=by
 refine Tr.rec (motive_1:=fun t=>wT t ≤ 100000 → sizeT t = true) (motive_2:=fun ks=>wK ks ≤ 100000 → sizeK ks = true) ?_ ?_ ?_ t
 ·intro lb tx al ks ih h
  simp only [wT] at h
  have h1:=wA_len al
  have h2:=wK_len ks
  simp only [sizeT,Bool.and_eq_true,decide_eq_true_eq]
  exact ⟨⟨by omega,by omega⟩,ih (by omega)⟩
 ·intro _;rfl
 ·intro t ks i1 i2 h
  simp only [wK] at h
  simp only [sizeK,Bool.and_eq_true]
  exact ⟨i1 (by omega),i2 (by omega)⟩
open Go.RowKit
set_option maxHeartbeats 2000000 in
theorem refAll_big (a : Option Addr) (len cap : Nat) (zs : List Int) (w : World) (hz : Byt w a len cap zs) (hlen : len ≤ 1000000) :
  Calls Tryz.prog 10 #[.slice a len cap] w fun e w'=>RefAllPost zs w e w':=by
 have HZ:=Lib.hid hz
 have hcap:=hz.leCap
 obtain ⟨i0,hi,hz0,hz1,hz2⟩:=info_parts info3
 obtain ⟨b,off,hab,hcell⟩ : ∃ b off,(0 < len → a = some ⟨b,off,none⟩) ∧ ∀ i,i < len → w.cell? ⟨b,off + i,none⟩ = some (.int .u8 (zs[i]?.getD 0)):=by
  by_cases h0 : 0 < len
  ·obtain ⟨b,off,h1,h2⟩:=hz.cells h0
   exact ⟨b,off,fun _=>h1,h2⟩
  ·exact ⟨0,0,fun h=>absurd h h0,fun i hi=>absurd hi (by omega)⟩
 have hbB : 0 < len → b < w.heap.size:=fun h=>by have:=block_lt_of_cell (hcell 0 h);simpa using this
 have HAB:=Lib.hid hab
 have HC:=Lib.hid hcell
 clear hz hab hcell
 go_enter Tryz.func10,Tryz.ntmps10
 go_wp2_with fail
 go_loopw [4,5] (fun v i wr=>∃ (p : Nat) (pre : List Int),p ≤ len ∧ i = .int .i64 p ∧ Far zs pre p ∧ wr.ownsRow w.heap.size 3 1 v pre.length (pre.map (Value.int .i64)) ∧ Below w.heap.size w wr)
  (fun _ i _=>len - (intOf i).toNat)
 case atStart=>exact ⟨0,[],by omega,rfl,by simp [Far],World.ownsRow_nil _ _ _ _,Below.refl _ _⟩
 case round=>
  obtain ⟨p,pre,hp,rfl,hfar,hown,hB⟩:=hrel
  by_cases hlt : p < len
  ·obtain rfl:=HAB.out (by omega)
   have hcp : ¬ cap = p:=by omega
   have hc2 : ∀ i,i < len - p → wr.cell? ⟨b,off + p + i,none⟩ = some (.int .u8 ((zs.drop p)[i]?.getD 0)):=fun i hi=>by
    rw [List.getElem?_drop,show off + p + i = off + (p + i) by omega]
    exact (hB.cell (p:=⟨b,off + (p + i),none⟩) (hbB (by omega))).trans (HC.out (p + i) (by omega))
   have HC2:=Lib.hid hc2
   have HO:=Lib.hid hown
   have HBe:=Lib.hid hB
   have hpl : pre.length ≤ 1000000:=by
    have h1:=congrArg List.length hfar.1
    rw [List.length_append] at h1
    have h2:=runes_len' zs
    have h3:=HZ.out.eqLen
    omega
   clear hc2 hown hB
   go_wp2_with fail
   refine (read_any b (off + p) (len - p) (cap - p) (zs.drop p) _ (by have:=HZ.out.eqLen;simp;omega) (by omega) (fun z hz=>HZ.out.byte z (List.mem_of_mem_drop hz)) HC2.out (by omega)).mono ?_
   rintro e w2 ⟨hb2,he⟩
   have HO2:=Lib.hid (own_below HO.out hb2)
   have HB2:=Lib.hid (th HBe.out (Nat.le_refl _) hb2)
   clear hb2
   cases hd : decC (zs.drop p) with
   | none=>
    rw [hd] at he
    subst he
    have h1:=hfar.1
    have h2:=hfar.2
    rw [runesC_none hd,List.append_nil] at h1
    rw [chkC_none hd,Nat.add_zero] at h2
    have H1:=Lib.hid h1
    have H2:=Lib.hid h2
    clear hd h1 h2 hfar
    go_wp2
    go_ret2
    exact ⟨_,by rw [← H2.out];rfl,by rw [← H1.out];exact HO2.out,HB2.out⟩
   | some x=>
    obtain ⟨r,n⟩:=x
    rw [hd] at he
    subst he
    have hs:=decC_some hd
    have hpn : p + n ≤ len:=by
     have h1:=hs.2.2.1
     have h2:=HZ.out.eqLen
     simp only [List.length_drop] at h1
     omega
    have hfar2 : Far zs (pre ++ [r]) (p + n):=by
     have h1:=hfar.1
     have h2:=hfar.2
     rw [runesC_some hd,List.drop_drop] at h1
     rw [chkC_some hd,List.drop_drop] at h2
     exact ⟨by rw [← h1];simp,by omega⟩
    have hn0 : ((n : Int) == 0) = false:=by rw [beq_eq_false_iff_ne];have:=hs.1;omega
    have hn1:=hs.1
    clear hd hs hfar
    go_wp2_with (at_builtin;refine wpList_append_own _ rfl _ _ 31 rfl w.heap.size 3 i0 (.int .i64 0) 1 8 Tryz.underlying31 hi hz0 hz1 hz2 rfl (by decide) _ _ _ rfl (HO2.out.alloc _) ⟨w2.heap.size,0,none⟩ 1 1 [.int .i64 r] rfl rfl (cell_one_new _ _ _) (by simp [Value.oneCell']) (by unfold maxLen;omega) (by omega) (by have:=HB2.out.size;simp;omega) ?_;intro v3 w3 hown3 hgrow3 _)
    have HB3:=Lib.hid ((al HB2.out (Nat.le_refl _) _).grown hgrow3 (by have:=HB2.out.size;simp;omega) (fun k e=>(HO2.out.lt k e).1))
    have HO3:=Lib.hid (show w3.ownsRow w.heap.size 3 1 v3 (pre ++ [r]).length ((pre ++ [r]).map (Value.int .i64)) by simpa using hown3)
    clear hown3 hgrow3
    go_wp2
    go_roundw
    case rel=>exact ⟨p + n,pre ++ [r],hpn,by go_num,hfar2,HO3.out,HB3.out⟩
    case measure=>simp [intOf];omega
  ·obtain rfl : p = len:=by omega
   have h0 : zs.drop p = []:=List.drop_of_length_le (by have:=HZ.out.eqLen;omega)
   have h1:=hfar.1
   have h2:=hfar.2
   rw [h0] at h1 h2
   have H1:=Lib.hid (show pre = runesC zs by simpa [runesC,runesF] using h1)
   have H2:=Lib.hid (show p = chkC zs by simpa [chkC_nil] using h2)
   clear h0 h1 h2 hfar
   go_wp2
   go_ret2
   exact ⟨_,by rw [← H2.out];rfl,by rw [← H1.out];exact hown,hB⟩
set_option maxHeartbeats 1000000 in
theorem chars_big (s : ByteArray) (w : World) (hs : s.size ≤ 1000000) :
  Calls Tryz.prog 38 #[.string s] w fun e w'=>e = .returned (.bool (wholeB (bts s))) ∧ Below w.heap.size w w':=by
 have hcv:=conv_any w s
 have HB:=Lib.hid (bytes_below w s)
 have HZ:=Lib.hid (bytes_byt w s (by omega))
 have HS:=Lib.hid hs
 have HW : Hid (((chkC (ints (bts s)) : Int) == (s.size : Int)) = wholeB (bts s)):=Lib.hid (by
  rw [Bool.eq_iff_iff];simp [wholeB,bts_len];try omega)
 generalize Lib.bytesWorld w 5 s = w1 at hcv HB HZ
 clear hs
 go_enter Tryz.func38,Tryz.ntmps38
 go_wp2_with fail
 refine (refAll_big _ _ _ _ _ HZ.out HS.out).mono ?_
 rintro e w2 ⟨v,rfl,_,hb⟩
 go_wp2
 go_ret
 refine ⟨?_,HB.out.trans (hb.mono HB.out.size)⟩
 show Ending.returned (.bool _) = _
 rw [← HW.out]
end Go.Proofs.YtjldpkhfiffinaaGreatDoor.U
