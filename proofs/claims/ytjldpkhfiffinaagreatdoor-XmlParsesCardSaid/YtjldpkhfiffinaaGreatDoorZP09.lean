/- Contracts and plain facts that the law stands on: T8. -/
import Derived.Test.YtjldpkhfiffinaaGreatDoorZP08
import Derived.Deep.CutBlock
import Derived.Deep.DeepCutAuto
import Derived.Deep.RegionLaw
import Derived.Deep.AppendLies
import Derived.Laws.AppendOwnNone
import Derived.Deep.QuietTactic
import Derived.BigQuiet
import Derived.StillTailTactics
namespace Go.Proofs.YtjldpkhfiffinaaGreatDoor.U
open Go.RowKit
theorem add_none (b o i : Nat) : (⟨b,o,none⟩ : Addr).add i = ⟨b,o + i,none⟩:=by unfold Addr.add;split <;> simp_all
theorem insA_len (a : List UInt8 × List UInt8) : ∀ l,(insA a l).length = l.length + 1:=by
 intro l
 induction l with
 | nil=>rfl
 | cons b r ih=>unfold insA;split <;> simp [ih]
theorem sortA_take {al : List (List UInt8 × List UInt8)} {k : Nat} {a : List UInt8 × List UInt8} (h : al[k]? = some a) : sortA (al.take (k + 1)) = insA a (sortA (al.take k)):=by
 rw [List.take_add_one,h];unfold sortA;rw [List.foldl_append];rfl
theorem sortA_len : ∀ (n : Nat) (al : List (List UInt8 × List UInt8)),al.length = n → (sortA al).length = n:=by
 intro n
 induction n with
 | zero=>intro al h;rw [List.eq_nil_of_length_eq_zero h];rfl
 | succ n ih=>
  intro al h
  have h1 : al[n]? = some (al[n]'(by omega)):=List.getElem?_eq_getElem (by omega)
  have h2 : al.take (n + 1) = al:=List.take_of_length_le (by omega)
  rw [← h2,sortA_take h1,insA_len,ih _ (by rw [List.length_take];omega)]
theorem insA_split (a : List UInt8 × List UInt8) : ∀ (l : List (List UInt8 × List UInt8)) (j : Nat),(∀ (i : Nat) (b : List UInt8 × List UInt8),i < j → l[i]? = some b → ltB b.1 a.1 = true) → (j = l.length ∨ ∃ b,l[j]? = some b ∧ ltB b.1 a.1 = false) →
  insA a l = l.take j ++ a :: l.drop j:=by
 intro l
 induction l with
 | nil=>
  intro j _ h
  rcases h with rfl | ⟨b,h,_⟩
  ·rfl
  ·simp at h
 | cons x r ih=>
  intro j h1 h2
  cases j with
  | zero=>
   rcases h2 with h | ⟨b,h,hb⟩
   ·simp at h
   ·simp only [List.getElem?_cons_zero,Option.some.injEq] at h
    subst h
    simp [insA,hb]
  | succ j=>
   have h3:=h1 0 x (by omega) rfl
   have:=ih j (fun i b hi hb=>h1 (i + 1) b (by omega) (by simpa using hb)) (by
    rcases h2 with h | ⟨b,h,hb⟩
    ·exact .inl (by simpa using h)
    ·exact .inr ⟨b,by simpa using h,hb⟩)
   simp [insA,h3,this]
theorem attr_cells {S : List (List UInt8 × List UInt8)} {k : Nat} {b : List UInt8 × List UInt8} (h : S[k]? = some b) : (stepCells (S.map attrS))[k * 3 + 1]? = some (.string ⟨b.1.toArray⟩):=
 (stepCells_get (S.map attrS) k (attrS b) (by rw [List.getElem?_map,h];rfl)).2.1
theorem stepCells_take (l : List Stp) (j : Nat) : stepCells (l.take j) = (stepCells l).take (j * 3):=by
 conv=>rhs;rw [← List.take_append_drop j l,stepCells_append]
 by_cases h : j ≤ l.length
 ·rw [List.take_left' (by rw [stepCells_len,List.length_take,Nat.min_eq_left h])]
 ·rw [List.take_of_length_le (by omega),List.drop_of_length_le (by omega)]
  rw [List.take_of_length_le (by rw [List.length_append,stepCells_len];simp [stepCells];omega)]
  simp [stepCells]
theorem stepCells_drop (l : List Stp) (j : Nat) (h : j ≤ l.length) : stepCells (l.drop j) = (stepCells l).drop (j * 3):=by
 conv=>rhs;rw [← List.take_append_drop j l,stepCells_append]
 rw [List.drop_left' (by rw [stepCells_len,List.length_take,Nat.min_eq_left h])]
set_option maxRecDepth 100000 in
set_option maxHeartbeats 8000000 in
theorem sortedR_any (al : List (List UInt8 × List UInt8)) (v : Value) (w : World) (hv : AtRow w v al.length 2 (attrCells al)) (hn : al.length ≤ 1000000) :
  Calls Tryz.prog 34 #[v] w fun e w'=>StepsPost ((sortA al).map attrS) w e w':=by
 obtain ⟨a,c,g,off,rfl,ha,hc⟩:=attr_at hv
 obtain ⟨n,hn1⟩ : ∃ n,n = al.length:=⟨_,rfl⟩
 rw [← hn1] at ha hn ⊢
 have HA:=Lib.hid ha
 have HC:=Lib.hid hc
 have HN:=Lib.hid hn1
 clear ha hc hn1 hv
 obtain ⟨i0,hi,hz0,hz1,hz2⟩:=info_parts infoStp
 go_enter Tryz.func34,Tryz.ntmps34
 go_wp2_with fail
 go_loopw [3,4] (fun v i wr=>∃ (k : Nat) (a5 : Option Addr) (c5 : Nat),k ≤ n ∧ i = .int .i64 k ∧ v = .slice a5 k c5 ∧ Hid (wr.ownsRow w.heap.size 78 3 (.slice a5 k c5) k (stepCells ((sortA (al.take k)).map attrS))) ∧ Hid (Below w.heap.size w wr)) (fun _ i _=>n - (intOf i).toNat)
 case atStart=>exact ⟨0,none,0,by omega,rfl,rfl,Lib.hid (World.ownsRow_nil _ _ _ _),Lib.hid (Below.refl _ _)⟩
 case round=>
  obtain ⟨k,a5,c5,hk,rfl,rfl,HO,HB⟩:=hrel
  by_cases hlt : k < n
  ·obtain rfl:=HA.out (by omega)
   obtain ⟨⟨p1,p2⟩,hp⟩ : ∃ b,al[k]? = some b:=⟨_,List.getElem?_eq_getElem (by rw [← HN.out];omega)⟩
   have HP:=Lib.hid hp
   have HLT:=Lib.hid hlt
   have hi0 : (0 : Int) ≤ k:=by omega
   have hi1 : (k : Int) < n:=by omega
   have HSL : Hid ((sortA (al.take k)).length = k):=Lib.hid (sortA_len k _ (by rw [List.length_take,← HN.out];omega))
   have HST:=Lib.hid (sortA_take hp)
   generalize sortA (al.take k) = S at HO HSL HST
   have HAC : Hid (∀ W : World,Below w.heap.size w W → W.cell? ⟨g,off + k * 2,none⟩ = some (.string ⟨p1.toArray⟩) ∧ W.cell? ⟨g,off + k * 2 + 1,none⟩ = some (.string ⟨p2.toArray⟩)):=Lib.hid (fun W hb=>by
    obtain ⟨r1,r2⟩:=HC.out k _ hp
    exact ⟨(hb.cell (block_lt_of_cell r1)).trans r1,(hb.cell (block_lt_of_cell r2)).trans r2⟩)
   clear hp
   go_upto_block 2 with fail
   go_cut [5] from 13 to 31 (fun s5 wx=>∃ j : Nat,s5 = .int .i64 j ∧ j ≤ k ∧ Hid (insA (p1,p2) S = S.take j ++ (p1,p2) :: S.drop j) ∧ Hid (Below wr.heap.size wr wx))
   case first=>
    go_wp2_with fail
    go_loopw [5] (fun i wq=>∃ j : Nat,i = .int .i64 j ∧ j ≤ k ∧ Hid (∀ (i : Nat) (b : List UInt8 × List UInt8),i < j → S[i]? = some b → ltB b.1 p1 = true) ∧ Hid (Below wr.heap.size wr wq)) (fun i _=>k - (intOf i).toNat)
    case atStart=>exact ⟨0,rfl,by omega,Lib.hid (fun i b h=>absurd h (by omega)),Lib.hid (Below.refl _ _)⟩
    case round=>
     obtain ⟨j,rfl,hj,HG,HQ⟩:=hrel
     by_cases hjk : j < k
     ·obtain ⟨⟨q1,q2⟩,hq⟩ : ∃ b,S[j]? = some b:=⟨_,List.getElem?_eq_getElem (by rw [HSL.out];exact hjk)⟩
      have HOq:=own_bel HO.out HQ.out
      obtain ⟨g5,rfl,hcs⟩:=own_news HOq (by omega)
      have d1:=hcs _ _ (attr_cells hq)
      rw [add_zero_at] at d1
      obtain ⟨c1,c2⟩:=HAC.out _ (th HB.out (Nat.le_refl _) HQ.out)
      have hj0 : (0 : Int) ≤ j:=by omega
      have hj1 : (j : Int) < k:=by omega
      have hjd : decide ((j : Int) < k) = true:=by simp;omega
      have HSQ:=Lib.hid hq
      have HJK:=Lib.hid hjk
      have hle:=less_ltB q1 p1
      clear hcs hq HOq
      cases hlt2 : ltB q1 p1 with
      | true=>
       have HGN : Hid (∀ (i : Nat) (b : List UInt8 × List UInt8),i < j + 1 → S[i]? = some b → ltB b.1 p1 = true):=Lib.hid (fun i b hi hb=>by
        by_cases hij : i = j
        ·subst hij;rw [HSQ.out] at hb;injection hb with hb;subst hb;exact hlt2
        ·exact HG.out i b (by omega) hb)
       rw [hlt2] at hle
       clear hlt2
       go_wp2_with fail
       go_quiet (fail)
       go_wp2
       exact ⟨⟨j + 1,by go_num,by have:=HJK.out;omega,HGN,Lib.hid (below_drewN HQ.out _)⟩,by have:=HJK.out;simp [intOf];omega⟩
      | false=>
       have HIN : Hid (insA (p1,p2) S = S.take j ++ (p1,p2) :: S.drop j):=Lib.hid (insA_split _ _ _ HG.out (.inr ⟨_,HSQ.out,hlt2⟩))
       rw [hlt2] at hle
       clear hlt2
       go_wp2_with fail
       go_quiet (fail)
       go_wp2_with fail
       go_meet
       case rel=>exact ⟨j,rfl,hj,HIN,Lib.hid (below_drewN HQ.out _)⟩
     ·have HIN : Hid (insA (p1,p2) S = S.take j ++ (p1,p2) :: S.drop j):=Lib.hid (insA_split _ _ _ HG.out (.inl (by rw [HSL.out];omega)))
      have hjd : decide ((j : Int) < k) = false:=by simp;omega
      have hji : ¬ (j : Int) < k:=by omega
      go_wp2_with fail
      go_quiet (fail)
      go_wp2_with fail
      go_meet
      case rel=>exact ⟨j,rfl,hj,HIN,Lib.hid (below_drewN HQ.out _)⟩
   case rest=>
    obtain ⟨j,rfl,hj,HIN,HQ⟩:=hcut
    have HO1:=Lib.hid (own_bel HO.out HQ.out)
    have HB1:=Lib.hid (th HB.out (Nat.le_refl _) HQ.out)
    have HNX : Hid (wc.ownsRow wc.heap.size 78 3 (.slice none 0 0) 0 []):=Lib.hid (World.ownsRow_nil _ _ _ _)
    have HL1 : Hid ((stepCells ((S.take j).map attrS)).length = j * 3):=Lib.hid (by rw [stepCells_len,List.length_map,List.length_take,HSL.out,Nat.min_eq_left hj])
    have HJ:=Lib.hid hj
    have HE : Hid (stepCells ((S.take j).map attrS) ++ [.int .i64 2,.string ⟨p1.toArray⟩,.string ⟨p2.toArray⟩] ++ stepCells ((S.drop j).map attrS) = stepCells ((sortA (al.take (k + 1))).map attrS)):=Lib.hid (by
     rw [HST.out,HIN.out,List.map_append,List.map_cons,stepCells_append,List.append_assoc];rfl)
    have HL2 : Hid ((stepCells ((S.drop j).map attrS)).length = (k - j) * 3):=Lib.hid (by rw [stepCells_len,List.length_map,List.length_drop,HSL.out])
    clear HO HB HQ
    rcases own_form HO1.out with ⟨rfl,rfl,rfl⟩ | ⟨g5,rfl,hcs,hkc0⟩
    ·obtain rfl : j = 0:=by omega
     have HE0 : Hid ([.int .i64 2,.string ⟨p1.toArray⟩,.string ⟨p2.toArray⟩] = stepCells ((sortA (al.take 1)).map attrS)):=Lib.hid (by have h9:=HE.out;have h8:=List.eq_nil_of_length_eq_zero HSL.out;rw [h8] at h9;exact h9)
     rw [show ((0 : Nat) : Int) = 0 from rfl]
     go_wp2_with (at_builtin;refine wpList_append_own_none rfl (.tmp 32) (.tmp 35) 39 rfl wc.heap.size 78 i0 3 Tryz.underlying39 hi (.slice none 0 0) 0 [] rfl HNX.out rfl ?_)
     obtain ⟨d1,d2⟩:=HAC.out _ HB1.out
     rw [Nat.zero_mul,Nat.add_zero] at d1 d2
     go_region_law (refine step_append_at rfl (.tmp 37) (.tmp 49) 39 rfl wc.heap.size 78 i0 (.agg #[.int .i64 0,.string ⟨#[]⟩,.string ⟨#[]⟩]) 3 40 Tryz.underlying39 hi hz0 hz1 hz2 rfl (by decide) (.slice none 0 0) 0 [] (by simp [Act.eval]) (World.ownsRow_nil _ _ _ _) ⟨wc.heap.size,0,none⟩ 1 1 [.int .i64 2,.string ⟨p1.toArray⟩,.string ⟨p2.toArray⟩] (by simp [Act.eval]) rfl (cell_three_new _ _ _ _ _) (by simp [Value.oneCell']) (by unfold maxLen;omega) (by omega) (by simp) ?_;intro v10 w10 hown10 hgrow10 _)
     all_goals (
      obtain ⟨a10,c10,rfl⟩:=own_sl hown10
      have HN10 : Hid (w10.ownsRow wc.heap.size 78 3 (.slice a10 1 c10) 1 [.int .i64 2,.string ⟨p1.toArray⟩,.string ⟨p2.toArray⟩]):=Lib.hid hown10
      have hbl10 : Below wc.heap.size wc (wc.drew.alloc (.cells #[.int .i64 2,.string ⟨p1.toArray⟩,.string ⟨p2.toArray⟩] 78)):=((Below.refl _ wc).drew).alloc (Nat.le_refl _) _
      have HB10 : Hid (Below wc.heap.size wc w10):=Lib.hid (hbl10.grown hgrow10 (by simp) (fun k e=>by simp [Value.ownBlock] at e))
      clear hown10 hgrow10 hbl10
      go_wp2_with (at_builtin;refine wpList_append_own_none rfl (.tmp 51) (.tmp 54) 39 rfl wc.heap.size 78 i0 3 Tryz.underlying39 hi (.slice a10 1 c10) 1 _ rfl HN10.out rfl ?_)
      have h10:=HN10.out
      rw [HE0.out] at h10
      exact ⟨⟨1,a10,c10,by omega,rfl,rfl,Lib.hid (own_mon h10 HB1.out.size),Lib.hid (th HB1.out (Nat.le_refl _) HB10.out)⟩,by simp [intOf];omega⟩)
    ·have HC1 : Hid (∀ i u,(stepCells ((S.take j).map attrS))[i]? = some u → wc.cell? ((⟨g5,0,none⟩ : Addr).add i) = some u):=Lib.hid (fun i u h=>hcs i u (by
      rw [List.map_take,stepCells_take,List.getElem?_take] at h
      split at h
      ·exact h
      ·simp at h))
     have hg5 : g5 < wc.heap.size:=(HO1.out.lt g5 rfl).2
     have HC2 : Hid (∀ W : World,Below wc.heap.size wc W → ∀ i u,(stepCells ((S.drop j).map attrS))[i]? = some u → W.cell? ((⟨g5,j * 3,none⟩ : Addr).add i) = some u):=Lib.hid (fun W hb i u h=>by
      rw [List.map_drop,stepCells_drop _ _ (by rw [List.length_map,HSL.out];exact hj),List.getElem?_drop] at h
      have h1:=hcs _ u h
      rw [add_zero_at] at h1
      rw [add_none]
      exact (hb.cell hg5).trans h1)
     clear hcs
     by_cases hjc : c5 = j
     ·obtain rfl : k = j:=by omega
      obtain rfl : k = c5:=by omega
      have hkz : (0 : Int) ≤ k:=by omega
      have HL2 : Hid ((stepCells ((S.drop k).map attrS)).length = 0 * 3):=Lib.hid (by rw [stepCells_len,List.length_map,List.length_drop,HSL.out,Nat.sub_self])
      have HC2 : Hid (∀ (W : World) i u,(stepCells ((S.drop k).map attrS))[i]? = some u → W.cell? ((⟨g5,0,none⟩ : Addr).add i) = some u):=Lib.hid (fun W i u h=>by
       rw [List.eq_nil_of_length_eq_zero HL2.out] at h;simp at h)
      go_wp2_with (at_builtin;refine wpList_append_own _ rfl (.tmp 32) (.tmp 35) 39 rfl wc.heap.size 78 i0 (.agg #[.int .i64 0,.string ⟨#[]⟩,.string ⟨#[]⟩]) 3 40 Tryz.underlying39 hi hz0 hz1 hz2 rfl (by decide) (.slice none 0 0) 0 [] rfl HNX.out ⟨g5,0,none⟩ k k (stepCells ((S.take k).map attrS)) rfl HL1.out HC1.out (one_steps _) (by unfold maxLen;omega) (by omega) (Nat.le_refl _) ?_;intro v9 w9 hown9 hgrow9 _)
      obtain ⟨a9,c9,rfl⟩:=own_sl hown9
      have HB9 : Hid (Below wc.heap.size wc w9):=Lib.hid ((Below.refl _ _).grown hgrow9 (Nat.le_refl _) (fun k e=>by simp [Value.ownBlock] at e))
      have HN9 : Hid (w9.ownsRow wc.heap.size 78 3 (.slice a9 k c9) k (stepCells ((S.take k).map attrS))):=Lib.hid (by have h9:=hown9;rw [Nat.zero_add,List.nil_append] at h9;exact h9)
      rw [Nat.zero_add]
      clear hown9 hgrow9
      obtain ⟨d1,d2⟩:=HAC.out _ (th HB1.out (Nat.le_refl _) HB9.out)
      go_wp2_with fail
      go_region_law (refine step_append_at rfl (.tmp 37) (.tmp 49) 39 rfl wc.heap.size 78 i0 (.agg #[.int .i64 0,.string ⟨#[]⟩,.string ⟨#[]⟩]) 3 40 Tryz.underlying39 hi hz0 hz1 hz2 rfl (by decide) (.slice a9 k c9) k _ (by simp [Act.eval]) (HN9.out.drew.alloc _) ⟨w9.heap.size,0,none⟩ 1 1 [.int .i64 2,.string ⟨p1.toArray⟩,.string ⟨p2.toArray⟩] (by simp [Act.eval]) rfl (cell_three_new _ _ _ _ _) (by simp [Value.oneCell']) (by unfold maxLen;omega) (by omega) (by have:=HB9.out.size;simp;omega) ?_;intro v10 w10 hown10 hgrow10 _)
      all_goals (
       obtain ⟨a10,c10,rfl⟩:=own_sl hown10
       have HN10 : Hid (w10.ownsRow wc.heap.size 78 3 (.slice a10 (k + 1) c10) (k + 1) (stepCells ((S.take k).map attrS) ++ [.int .i64 2,.string ⟨p1.toArray⟩,.string ⟨p2.toArray⟩])):=Lib.hid hown10
       have hbl10 : Below w9.heap.size w9 (w9.drew.alloc (.cells #[.int .i64 2,.string ⟨p1.toArray⟩,.string ⟨p2.toArray⟩] 78)):=((Below.refl _ w9).drew).alloc (Nat.le_refl _) _
       have HB10 : Hid (Below wc.heap.size wc w10):=Lib.hid ((th HB9.out (Nat.le_refl _) hbl10).grown hgrow10 (by have:=HB9.out.size;simp;omega) (fun k e=>by have:=(HN9.out.lt k e).1;omega))
       clear hown10 hgrow10 hbl10
       go_wp2_with (at_builtin;refine wpList_append_own _ rfl (.tmp 51) (.tmp 54) 39 rfl wc.heap.size 78 i0 (.agg #[.int .i64 0,.string ⟨#[]⟩,.string ⟨#[]⟩]) 3 40 Tryz.underlying39 hi hz0 hz1 hz2 rfl (by decide) (.slice a10 (k + 1) c10) (k + 1) _ rfl HN10.out ⟨g5,0,none⟩ 0 0 (stepCells ((S.drop k).map attrS)) rfl HL2.out (HC2.out _) (one_steps _) (by unfold maxLen;omega) (by omega) (by have:=HB10.out.size;omega) ?_;intro v11 w11 hown11 hgrow11 _)
       rw [Nat.add_zero,HE.out] at hown11
       obtain ⟨a11,c11,rfl⟩:=own_sl hown11
       have HOF : Hid (w11.ownsRow w.heap.size 78 3 (.slice a11 (k + 1) c11) (k + 1) (stepCells ((sortA (al.take (k + 1))).map attrS))):=Lib.hid (own_mon hown11 HB1.out.size)
       have HBF : Hid (Below w.heap.size w w11):=Lib.hid (th HB1.out (Nat.le_refl _) (HB10.out.grown hgrow11 (by have:=HB10.out.size;omega) (fun k e=>(HN10.out.lt k e).1)))
       clear hown11 hgrow11
       (try go_wp2)
       exact ⟨⟨k + 1,a11,c11,by omega,by go_num,rfl,HOF,HBF⟩,by simp [intOf];omega⟩)
     ·have hjz : (0 : Int) ≤ j:=by omega
      have hjk : (j : Int) ≤ k:=by omega
      have hjc1 : (j : Int) ≤ c5:=by omega
      have hjc2 : j ≤ c5:=by omega
      have hkc : (k : Int) ≤ c5:=by omega
      go_wp2_with (at_builtin;refine wpList_append_own _ rfl (.tmp 32) (.tmp 35) 39 rfl wc.heap.size 78 i0 (.agg #[.int .i64 0,.string ⟨#[]⟩,.string ⟨#[]⟩]) 3 40 Tryz.underlying39 hi hz0 hz1 hz2 rfl (by decide) (.slice none 0 0) 0 [] rfl HNX.out ⟨g5,0,none⟩ j c5 (stepCells ((S.take j).map attrS)) rfl HL1.out HC1.out (one_steps _) (by unfold maxLen;omega) (by omega) (Nat.le_refl _) ?_;intro v9 w9 hown9 hgrow9 _)
      obtain ⟨a9,c9,rfl⟩:=own_sl hown9
      have HB9 : Hid (Below wc.heap.size wc w9):=Lib.hid ((Below.refl _ _).grown hgrow9 (Nat.le_refl _) (fun k e=>by simp [Value.ownBlock] at e))
      have HN9 : Hid (w9.ownsRow wc.heap.size 78 3 (.slice a9 j c9) j (stepCells ((S.take j).map attrS))):=Lib.hid (by have h9:=hown9;rw [Nat.zero_add,List.nil_append] at h9;exact h9)
      rw [Nat.zero_add]
      clear hown9 hgrow9
      obtain ⟨d1,d2⟩:=HAC.out _ (th HB1.out (Nat.le_refl _) HB9.out)
      go_wp2_with fail
      go_region_law (refine step_append_at rfl (.tmp 37) (.tmp 49) 39 rfl wc.heap.size 78 i0 (.agg #[.int .i64 0,.string ⟨#[]⟩,.string ⟨#[]⟩]) 3 40 Tryz.underlying39 hi hz0 hz1 hz2 rfl (by decide) (.slice a9 j c9) j _ (by simp [Act.eval]) (HN9.out.drew.alloc _) ⟨w9.heap.size,0,none⟩ 1 1 [.int .i64 2,.string ⟨p1.toArray⟩,.string ⟨p2.toArray⟩] (by simp [Act.eval]) rfl (cell_three_new _ _ _ _ _) (by simp [Value.oneCell']) (by unfold maxLen;omega) (by omega) (by have:=HB9.out.size;simp;omega) ?_;intro v10 w10 hown10 hgrow10 _)
      all_goals (
       obtain ⟨a10,c10,rfl⟩:=own_sl hown10
       have HN10 : Hid (w10.ownsRow wc.heap.size 78 3 (.slice a10 (j + 1) c10) (j + 1) (stepCells ((S.take j).map attrS) ++ [.int .i64 2,.string ⟨p1.toArray⟩,.string ⟨p2.toArray⟩])):=Lib.hid hown10
       have hbl10 : Below w9.heap.size w9 (w9.drew.alloc (.cells #[.int .i64 2,.string ⟨p1.toArray⟩,.string ⟨p2.toArray⟩] 78)):=((Below.refl _ w9).drew).alloc (Nat.le_refl _) _
       have HB10 : Hid (Below wc.heap.size wc w10):=Lib.hid ((th HB9.out (Nat.le_refl _) hbl10).grown hgrow10 (by have:=HB9.out.size;simp;omega) (fun k e=>by have:=(HN9.out.lt k e).1;omega))
       clear hown10 hgrow10 hbl10
       go_wp2_with (at_builtin;refine wpList_append_own _ rfl (.tmp 51) (.tmp 54) 39 rfl wc.heap.size 78 i0 (.agg #[.int .i64 0,.string ⟨#[]⟩,.string ⟨#[]⟩]) 3 40 Tryz.underlying39 hi hz0 hz1 hz2 rfl (by decide) (.slice a10 (j + 1) c10) (j + 1) _ rfl HN10.out ⟨g5,j * 3,none⟩ (k - j) (c5 - j) (stepCells ((S.drop j).map attrS)) rfl HL2.out (HC2.out _ HB10.out) (one_steps _) (by unfold maxLen;omega) (by omega) (by have:=HB10.out.size;omega) ?_;intro v11 w11 hown11 hgrow11 _)
       rw [show j + 1 + (k - j) = k + 1 by omega,HE.out] at hown11
       obtain ⟨a11,c11,rfl⟩:=own_sl hown11
       have HOF : Hid (w11.ownsRow w.heap.size 78 3 (.slice a11 (k + 1) c11) (k + 1) (stepCells ((sortA (al.take (k + 1))).map attrS))):=Lib.hid (own_mon hown11 HB1.out.size)
       have HBF : Hid (Below w.heap.size w w11):=Lib.hid (th HB1.out (Nat.le_refl _) (HB10.out.grown hgrow11 (by have:=HB10.out.size;omega) (fun k e=>(HN10.out.lt k e).1)))
       clear hown11 hgrow11
       (try go_wp2)
       exact ⟨⟨k + 1,a11,c11,by omega,by go_num,rfl,HOF,HBF⟩,by simp [intOf];omega⟩)
  ·obtain rfl : n = k:=by omega
   have HF : Hid (al.take n = al):=Lib.hid (List.take_of_length_le (by rw [← HN.out];omega))
   go_wp2
   go_ret
   refine ⟨HB.out,a5,c5,?_⟩
   have h1 : ((sortA al).map attrS).length = n:=by rw [List.length_map];exact sortA_len n al HN.out.symm
   have h2:=HO.out
   rw [HF.out] at h2
   rw [h1]
   exact ⟨rfl,h2⟩
open Go.RowKit
theorem drop_tok {l : List Tok} {k : Nat} {t : Tok} (h : l[k]? = some t) : l.drop k = t :: l.drop (k + 1):=by
 obtain ⟨h1,h2⟩:=List.getElem?_eq_some_iff.1 h
 rw [List.drop_eq_getElem_cons h1,h2]
theorem szX_drop {l : List Tok} {k : Nat} {t : Tok} (h : l[k]? = some t) : szX (l.drop k) = t.attrs.length + t.text.length + 2 + szX (l.drop (k + 1)):=by
 rw [drop_tok h];unfold szX;rw [List.map_cons,List.sum_cons]
theorem XInv.start (l : List Tok) : XInv l 0 [] false []:=⟨rfl,by simp,by simp,by simp⟩
theorem last_of {a b : List Stp} {s : Stp} (hb : b ≠ []) (h : (a ++ b).getLast? = some s) : s ∈ b:=by
 rw [List.getLast?_append] at h
 cases hl : b.getLast? with
 | none=>exact absurd (List.getLast?_eq_none_iff.1 hl) hb
 | some x=>rw [hl] at h;simp only [Option.some_or,Option.some.injEq] at h;subst h;exact List.mem_of_getLast? hl
theorem begin_kind {nm : List UInt8} {al : List (List UInt8 × List UInt8)} {s : Stp} (h : s ∈ (⟨1,nm,[]⟩ : Stp) :: al.map attrS) : s.kind ≠ 3:=by
 rcases List.mem_cons.1 h with rfl | h
 ·simp
 ·obtain ⟨a,_,rfl⟩:=List.mem_map.1 h;simp [attrS]
theorem XInv.empty {l : List Tok} {k : Nat} {op : List (List UInt8)} {done : Bool} {out : List Stp} (h : XInv l k op done out) {nm tx : List UInt8} {al : List (List UInt8 × List UInt8)} (ht : l[k]? = some ⟨2,nm,tx,al,true⟩) (hd : ¬ (done = true ∧ op = [])) :
  XInv l (k + 1) op true (out ++ (⟨1,nm,[]⟩ :: (sortA al).map attrS) ++ [⟨4,[],[]⟩]):=by
 obtain ⟨h1,h2,h3,h4⟩:=h
 have hs:=szX_drop ht
 have hl:=sortA_len _ al rfl
 simp only at hs
 refine ⟨?_,?_,?_,fun s e hk=>?_⟩
 ·rw [h1,drop_tok ht]
  conv=>lhs;unfold xmlA
  rw [if_pos rfl,if_neg hd,if_pos rfl]
 ·simp only [List.length_append,List.length_cons,List.length_map,List.length_nil];omega
 ·simp only [List.length_append,List.length_cons,List.length_map,List.length_nil];omega
 ·have:=last_of (by simp) e
  simp only [List.mem_singleton] at this
  subst this
  simp at hk
theorem XInv.more {l : List Tok} {k : Nat} {op : List (List UInt8)} {done : Bool} {out : List Stp} (h : XInv l k op done out) {nm tx : List UInt8} {al : List (List UInt8 × List UInt8)} (ht : l[k]? = some ⟨2,nm,tx,al,false⟩) (hd : ¬ (done = true ∧ op = [])) :
  XInv l (k + 1) (nm :: op) true (out ++ (⟨1,nm,[]⟩ :: (sortA al).map attrS)):=by
 obtain ⟨h1,h2,h3,h4⟩:=h
 have hs:=szX_drop ht
 have hl:=sortA_len _ al rfl
 simp only at hs
 refine ⟨?_,?_,?_,fun s e hk=>absurd hk (begin_kind (last_of (by simp) e))⟩
 ·rw [h1,drop_tok ht]
  conv=>lhs;unfold xmlA
  rw [if_pos rfl,if_neg hd,if_neg (by simp)]
 ·simp only [List.length_append,List.length_cons,List.length_map];omega
 ·simp only [List.length_append,List.length_cons,List.length_map];omega
theorem XInv.again {l : List Tok} {k : Nat} {op : List (List UInt8)} {done : Bool} {out : List Stp} (h : XInv l k op done out) {nm tx : List UInt8} {al : List (List UInt8 × List UInt8)} {em : Bool} (ht : l[k]? = some ⟨2,nm,tx,al,em⟩) (hd : done = true) (ho : op = []) : xmlL l = .error k:=by
 rw [h.1,drop_tok ht]
 unfold xmlA
 rw [if_pos rfl,if_pos ⟨hd,ho⟩]
theorem XInv.close {l : List Tok} {k : Nat} {q : List (List UInt8)} {done : Bool} {out : List Stp} {nm tx : List UInt8} (h : XInv l k (nm :: q) done out) {al : List (List UInt8 × List UInt8)} {em : Bool} (ht : l[k]? = some ⟨3,nm,tx,al,em⟩) : XInv l (k + 1) q done (out ++ [⟨4,[],[]⟩]):=by
 obtain ⟨h1,h2,h3,h4⟩:=h
 have hs:=szX_drop ht
 simp only at hs
 rw [List.length_cons] at h3
 refine ⟨?_,?_,?_,fun s e hk=>?_⟩
 ·rw [h1,drop_tok ht]
  conv=>lhs;unfold xmlA
  simp
 ·simp only [List.length_append,List.length_cons,List.length_nil];omega
 ·simp only [List.length_append,List.length_cons,List.length_nil];omega
 ·have:=last_of (by simp) e
  simp only [List.mem_singleton] at this
  subst this
  simp at hk
theorem XInv.wrong {l : List Tok} {k : Nat} {n : List UInt8} {q : List (List UInt8)} {done : Bool} {out : List Stp} {nm tx : List UInt8} (h : XInv l k (n :: q) done out) {al : List (List UInt8 × List UInt8)} {em : Bool} (ht : l[k]? = some ⟨3,nm,tx,al,em⟩) (hn : n ≠ nm) : xmlL l = .error k:=by
 rw [h.1,drop_tok ht]
 unfold xmlA
 simp [hn]
theorem XInv.shut {l : List Tok} {k : Nat} {done : Bool} {out : List Stp} {nm tx : List UInt8} (h : XInv l k [] done out) {al : List (List UInt8 × List UInt8)} {em : Bool} (ht : l[k]? = some ⟨3,nm,tx,al,em⟩) : xmlL l = .error k:=by
 rw [h.1,drop_tok ht]
 unfold xmlA
 simp
theorem XInv.next {l : List Tok} {k : Nat} {op : List (List UInt8)} {done : Bool} {out : List Stp} {t : Tok} (h : XInv l k op done out) (ht : l[k]? = some t) (he : xmlA k op done out (l.drop k) = xmlA (k + 1) op done out (l.drop (k + 1))) : XInv l (k + 1) op done out:=by
 obtain ⟨h1,h2,h3,h4⟩:=h
 have hs:=szX_drop ht
 exact ⟨h1.trans he,by omega,h3,fun s e hk=>by have:=h4 s e hk;omega⟩
theorem XInv.other {l : List Tok} {k : Nat} {op : List (List UInt8)} {done : Bool} {out : List Stp} {t : Tok} (h : XInv l k op done out) (ht : l[k]? = some t) (h2 : t.kind ≠ 2) (h3 : t.kind ≠ 3) (h4 : t.kind ≠ 4) : XInv l (k + 1) op done out:=
 h.next ht (by
  rw [drop_tok ht]
  conv=>lhs;unfold xmlA
  rw [if_neg h2,if_neg h3,if_neg h4])
theorem XInv.blank {l : List Tok} {k : Nat} {done : Bool} {out : List Stp} {nm tx : List UInt8} {al : List (List UInt8 × List UInt8)} {em : Bool} (h : XInv l k [] done out) (ht : l[k]? = some ⟨4,nm,tx,al,em⟩) (hb : tx.all (fun b=>blankI b.toNat) = true) : XInv l (k + 1) [] done out:=
 h.next ht (by
  rw [drop_tok ht]
  conv=>lhs;unfold xmlA
  simp [hb])
theorem XInv.loose {l : List Tok} {k : Nat} {done : Bool} {out : List Stp} {nm tx : List UInt8} {al : List (List UInt8 × List UInt8)} {em : Bool} (h : XInv l k [] done out) (ht : l[k]? = some ⟨4,nm,tx,al,em⟩) (hb : tx.all (fun b=>blankI b.toNat) = false) : xmlL l = .error k:=by
 rw [h.1,drop_tok ht]
 unfold xmlA
 simp [hb]
theorem XInv.none {l : List Tok} {k : Nat} {op : List (List UInt8)} {done : Bool} {out : List Stp} {nm : List UInt8} {al : List (List UInt8 × List UInt8)} {em : Bool} (h : XInv l k op done out) (ht : l[k]? = some ⟨4,nm,[],al,em⟩) (ho : op ≠ []) : XInv l (k + 1) op done out:=
 h.next ht (by
  rw [drop_tok ht]
  conv=>lhs;unfold xmlA
  simp [ho])
theorem XInv.text {l : List Tok} {k : Nat} {op : List (List UInt8)} {done : Bool} {out : List Stp} {nm tx : List UInt8} {al : List (List UInt8 × List UInt8)} {em : Bool} (h : XInv l k op done out) (ht : l[k]? = some ⟨4,nm,tx,al,em⟩) (ho : op ≠ []) (hx : tx ≠ []) {pre : List Stp} {s : Stp} (hp : out = pre ++ [s]) (hs3 : s.kind ≠ 3) :
  XInv l (k + 1) op done (out ++ [⟨3,[],tx⟩]):=by
 obtain ⟨h1,h2,h3,h4⟩:=h
 have hs:=szX_drop ht
 simp only at hs
 refine ⟨?_,?_,?_,fun s' e hk=>?_⟩
 ·rw [h1,drop_tok ht]
  conv=>lhs;unfold xmlA
  rw [if_neg (by simp),if_neg (by simp),if_pos rfl,if_neg ho,if_neg hx]
  unfold addText
  rw [hp,List.getLast?_concat]
  simp only
  rw [if_neg hs3]
 ·simp only [List.length_append,List.length_cons,List.length_nil];omega
 ·simp only [List.length_append,List.length_cons,List.length_nil];omega
 ·have:=last_of (by simp) e
  simp only [List.mem_singleton] at this
  subst this
  simp only
  omega
theorem XInv.join {l : List Tok} {k : Nat} {op : List (List UInt8)} {done : Bool} {nm tx : List UInt8} {al : List (List UInt8 × List UInt8)} {em : Bool} {pre : List Stp} {n9 x9 : List UInt8} (h : XInv l k op done (pre ++ [⟨3,n9,x9⟩])) (ht : l[k]? = some ⟨4,nm,tx,al,em⟩) (ho : op ≠ []) (hx : tx ≠ []) :
  XInv l (k + 1) op done (pre ++ [⟨3,n9,x9 ++ tx⟩]):=by
 obtain ⟨h1,h2,h3,h4⟩:=h
 have hs:=szX_drop ht
 simp only at hs
 have h5:=h4 _ List.getLast?_concat rfl
 simp only [List.length_append,List.length_cons,List.length_nil] at h2 h3 h5
 refine ⟨?_,?_,?_,fun s' e hk=>?_⟩
 ·rw [h1,drop_tok ht]
  conv=>lhs;unfold xmlA
  rw [if_neg (by simp),if_neg (by simp),if_pos rfl,if_neg ho,if_neg hx]
  unfold addText
  rw [List.getLast?_concat]
  simp
 ·simp only [List.length_append,List.length_cons,List.length_nil];omega
 ·simp only [List.length_append,List.length_cons,List.length_nil];omega
 ·rw [List.getLast?_concat] at e
  injection e with e
  subst e
  simp only [List.length_append]
  omega
theorem XInv.done {l : List Tok} {op : List (List UInt8)} {done : Bool} {out : List Stp} (h : XInv l l.length op done out) : xmlL l = if done = false ∨ op ≠ [] then .error l.length else .ok out:=by
 rw [h.1,List.drop_length]
 rfl
theorem strVs_cons (x : List UInt8) (op : List (List UInt8)) : strVs (x :: op) = strVs op ++ [.string ⟨x.toArray⟩]:=by unfold strVs;simp
theorem strVs_len (op : List (List UInt8)) : (strVs op).length = op.length:=by unfold strVs;simp
theorem own_less {w : World} {base size n m c : Nat} {e : TypeId} {a : Option Addr} {xs : List Value} (h : w.ownsRow base e size (.slice a n c) n xs) (hm : m ≤ n) : w.ownsRow base e size (.slice a m c) m (xs.take (m * size)):=by
 have hl:=h.1
 have hms:=Nat.mul_le_mul_right size hm
 refine ⟨by rw [List.length_take,hl,Nat.min_eq_left hms],?_⟩
 rcases h.2 with ⟨h1,h2⟩ | ⟨g,cap,cur,hv,hb,hg,h3,h4,h5,h6⟩
 ·injection h1 with e1 e2 e3
  subst e1 e3
  obtain rfl : m = 0:=by omega
  exact .inl ⟨rfl,rfl⟩
 ·injection hv with e1 e2 e3
  subst e1 e3
  refine .inr ⟨g,c,cur,rfl,hb,hg,by omega,h4,h5,?_⟩
  rw [← h6,List.take_take,Nat.min_eq_left hms]
theorem own_thaw {w : World} {base size n c g : Nat} {e : TypeId} {xs : List Value} (h : w.ownsRow base e size (.slice (some ⟨g,0,none⟩) n c) n xs) (i : Nat) : w.frozen? ⟨g,i,none⟩ = false:=by
 rcases h.2 with ⟨h1,h2⟩ | ⟨g',cap,cur,hv,hb,hg,_⟩
 ·simp at h1
 ·injection hv with e1 e2 e3
  simp only [Option.some.injEq,Addr.mk.injEq,and_true] at e1
  subst e1
  exact Lib.frozen_of_heap hg i
theorem box_apart {w : World} {b base size n : Nat} {e : TypeId} {ki : Int} {x y : ByteArray} {v u : Value} {em : Bool} {xs : List Value} (h : Box5 b ki x y v em w) (k : w.ownsRow base e size u n xs) (he : e ≠ 73) : some b ≠ u.ownBlock:=by
 rcases k.2 with ⟨rfl,_⟩ | ⟨g,cap,cur,rfl,_,hg,_⟩
 ·simp [Value.ownBlock]
 ·intro e9
  simp only [Value.ownBlock,Option.some.injEq] at e9
  subst e9
  unfold Box5 at h
  rw [h] at hg
  simp only [Option.some.injEq,Obj.cells.injEq] at hg
  exact he hg.2.1.symm
theorem stepCells_set (pre : List Stp) (n9 x9 tx : List UInt8) : (stepCells (pre ++ [⟨3,n9,x9⟩])).set (pre.length * 3 + 2) (.string ⟨(x9 ++ tx).toArray⟩) = stepCells (pre ++ [⟨3,n9,x9 ++ tx⟩]):=by
 rw [stepCells_append,stepCells_append,List.set_append_right _ _ (by rw [stepCells_len];omega),stepCells_len]
 rw [show pre.length * 3 + 2 - pre.length * 3 = 2 by omega]
 rfl
theorem infoOpen : (Tryz.prog.info? 9).map (fun i=>(i.zero,i.size,i.bytes)) = some (some (.string ⟨#[]⟩),1,16):=by kernel_rfl
theorem wpList_append_rows {P : Program} {ops : Array Oper} {rest : List Oper} {o : Oper} {a : Act} {w : World} {Q : Exit → Act → World → Prop} (hgd : o.guard = none) (s x : Operand) (t : TypeId)
  (ho : o.op = .call { callee:=.builtin .append,args:=#[s,x],argTypes:=#[t,t] })
  (base : Nat) (e : TypeId) (i : TypeInfo) (z : Value) (size bytes : Nat) (ht : P.underlying t = some (.slice e)) (hi : P.info? e = some i) (hz : i.zero = some z)
  (hsize : i.size = size) (hby : i.bytes = bytes) (hzs : z.cells.size = size) (hsz : 0 < size)
  (v : Value) (n : Nat) (xs : List Value) (hs : a.eval s = v) (hown : w.ownsRow base e size v n xs)
  (b2 : Nat) (ad : Option Addr) (m c : Nat) (news : List Value) (hx : a.eval x = .slice ad m c) (hsrc : w.ownsRow b2 e size (.slice ad m c) m news) (h1 : ∀ u ∈ news,u.oneCell' = true)
  (h63 : n + m ≤ maxLen) (hbytes : (n + m) * bytes ≤ 140737488355328) (hbase : base ≤ w.heap.size)
  (h : ∀ v' w',w'.ownsRow base e size v' (n + m) (xs ++ news) → w.grownBy w' v.ownBlock → wpList P ops Q rest (a.put o.dst v') w') : wpList P ops Q (o :: rest) a w:=by
 rcases own_form hsrc with ⟨rfl,rfl,rfl⟩ | ⟨g,rfl,hc,_⟩
 ·have hn : news = []:=List.eq_nil_of_length_eq_zero (by rw [hsrc.1,Nat.zero_mul])
  subst hn
  refine wpList_append_own_none hgd s x t ho base e i size ht hi v n xs hs hown hx ?_
  have h2:=h v w
  rw [Nat.add_zero,List.append_nil] at h2
  exact h2 hown ⟨rfl,rfl,rfl,Nat.le_refl _,fun k _ _=>rfl⟩
 ·exact wpList_append_own w hgd s x t ho base e i z size bytes ht hi hz hsize hby hzs hsz v n xs hs hown ⟨g,0,none⟩ m c news hx hsrc.1 hc h1 h63 hbytes hbase (fun v' w' h2 h3 _=>h v' w' h2 h3)
open Go.RowKit
set_option maxRecDepth 100000 in
set_option maxHeartbeats 8000000 in
theorem stepsX_any (l : List Tok) (v : Value) (w : World) (hv : TokAt w v l) (hs : szX l ≤ 1000000) (HBL : ∀ (c : Int) (W : World),Calls Tryz.prog 71 #[.int .u8 c] W fun e w'=>e = .returned (.bool (blankI c)) ∧ W = w') :
  Calls Tryz.prog 14 #[v] w fun e w'=>XStepsPost (xmlL l) w e w':=by
 obtain ⟨a,c,rfl⟩:=hv.slice
 obtain ⟨g,off,hag,hcs⟩:=hv.cells
 have hln : l.length ≤ szX l:=by
  have:=(XInv.start l).2.1
  clear hv hs hag hcs
  induction l with
  | nil=>simp
  | cons t r ih=>unfold szX at *;simp only [List.length_cons,List.map_cons,List.sum_cons];have:=ih (by simp);omega
 obtain ⟨n,hn⟩ : ∃ n,n = l.length:=⟨_,rfl⟩
 rw [← hn] at hag hln ⊢
 have HA:=Lib.hid hag
 have HC:=Lib.hid hcs
 have HN:=Lib.hid hn
 have HS:=Lib.hid hs
 have HBK:=Lib.hid HBL
 have hn6 : n ≤ 1000000:=by omega
 obtain ⟨i0,hi,hz0,hz1,hz2⟩:=info_parts infoStp
 obtain ⟨j0,hj,hy0,hy1,hy2⟩:=info_parts infoOpen
 clear hv hag hcs hn hln hs HBL
 go_enter Tryz.func14,Tryz.ntmps14
 go_wp2_with fail
 go_loopw [4,5,6,7] (fun o p d i wr=>∃ (k m q : Nat) (out : List Stp) (op : List (List UInt8)) (done : Bool) (a4 : Option Addr) (c4 : Nat) (a5 : Option Addr) (c5 : Nat),k ≤ n ∧ o = .slice a4 m c4 ∧ p = .slice a5 q c5 ∧ d = .bool done ∧ i = .int .i64 k ∧ Hid (m = out.length) ∧ Hid (q = op.length) ∧
  Hid (wr.ownsRow w.heap.size 78 3 (.slice a4 m c4) m (stepCells out)) ∧ Hid (wr.ownsRow w.heap.size 9 1 (.slice a5 q c5) q (strVs op)) ∧ Hid (XInv l k op done out) ∧ Hid (Below w.heap.size w wr)) (fun _ _ _ i _=>n - (intOf i).toNat)
 case atStart=>exact ⟨0,0,0,[],[],false,none,0,none,0,by omega,rfl,rfl,rfl,rfl,Lib.hid rfl,Lib.hid rfl,Lib.hid (World.ownsRow_nil _ _ _ _),Lib.hid (World.ownsRow_nil _ _ _ _),Lib.hid (XInv.start l),Lib.hid (Below.refl _ _)⟩
 case round=>
  obtain ⟨k,m,q,out,op,done,a4,c4,a5,c5,hk,rfl,rfl,rfl,rfl,HM,HQ,HO,HP,HX,HB⟩:=hrel
  by_cases hlt : k < n
  ·obtain rfl:=HA.out (by omega)
   obtain ⟨⟨ki,nm,tx,ak,em⟩,hp⟩ : ∃ b,l[k]? = some b:=⟨_,List.getElem?_eq_getElem (by rw [← HN.out];omega)⟩
   have HT:=Lib.hid hp
   have HLT:=Lib.hid hlt
   have hi0 : (0 : Int) ≤ k:=by omega
   have hi1 : (k : Int) < n:=by omega
   obtain ⟨b1,e1,r0,r1,r2,r3,r4,har⟩:=HC.out k (by rw [← HN.out];exact hlt)
   rw [(List.getElem?_eq_some_iff.1 hp).2] at r0 r1 r2 r3 r4 har
   simp only at r0 r1 r2 r3 r4 har
   obtain ⟨r,hr⟩ : ∃ r,r = ak.length:=⟨_,rfl⟩
   rw [← hr] at r3 har
   have HR:=Lib.hid hr
   have HAR:=Lib.hid har
   have up : ∀ {p : Addr} {u : Value},w.cell? p = some u → wr.cell? p = some u:=fun h=>(HB.out.cell (block_lt_of_cell h)).trans h
   have s0:=up r0
   have s1:=up r1
   have s2:=up r2
   have s3:=up r3
   have s4:=up r4
   have hsz:=szX_drop hp
   simp only at hsz
   rw [← hr] at hsz
   have hx2:=HX.out.2.1
   have hx3:=HX.out.2.2.1
   have hsl:=HS.out
   rw [← HM.out] at hx2 hx3
   rw [← HQ.out] at hx3
   have hm6 : m + r + tx.length + 2 ≤ 1000000:=by omega
   clear r0 r1 r2 r3 r4 up hp hsz hx2 har hsl hr
   by_cases h2 : ki = 2
   ·subst h2
    by_cases hd : done = true ∧ op = []
    ·obtain ⟨rfl,rfl⟩:=hd
     obtain rfl : q = 0:=HQ.out
     have HE:=Lib.hid (HX.out.again HT.out rfl rfl)
     go_wp2
     go_ret2
     exact ⟨HB.out.alloc HB.out.size _,.inr ⟨k,HE.out,rfl⟩⟩
    ·have HSR : Hid (∀ W : World,Below w.heap.size w W → Calls Tryz.prog 34 #[.slice b1 r e1] W fun e w'=>Below W.heap.size W w' ∧ ∃ a c,e = .returned (.slice a r c) ∧ w'.ownsRow W.heap.size 78 3 (.slice a r c) r (stepCells ((sortA ak).map attrS))):=Lib.hid (fun W hb=>by
      have h8:=HAR.out.below hb (Nat.le_refl _)
      rw [HR.out] at h8 ⊢
      have h9:=sortedR_any ak _ W h8 (by have:=HR.out;omega)
      unfold StepsPost at h9
      rw [List.length_map,sortA_len _ ak rfl] at h9
      exact h9)
     have HCN : Hid (∀ j u,([.int .i64 1,.string ⟨nm.toArray⟩,.string ⟨#[]⟩] : List Value)[j]? = some u → ((wr.alloc (.cells #[.int .i64 2,.string ⟨nm.toArray⟩,.string ⟨tx.toArray⟩,.slice b1 r e1,.bool em] 73)).alloc (.cells #[.int .i64 1,.string ⟨nm.toArray⟩,.string ⟨#[]⟩] 78)).cell? ((⟨wr.heap.size + 1,0,none⟩ : Addr).add j) = some u):=Lib.hid (by
      have h9:=cell_three_new (wr.alloc (.cells #[.int .i64 2,.string ⟨nm.toArray⟩,.string ⟨tx.toArray⟩,.slice b1 r e1,.bool em] 73)) (.int .i64 1) (.string ⟨nm.toArray⟩) (.string ⟨#[]⟩) 78
      rw [show (wr.alloc (.cells #[.int .i64 2,.string ⟨nm.toArray⟩,.string ⟨tx.toArray⟩,.slice b1 r e1,.bool em] 73)).heap.size = wr.heap.size + 1 by simp] at h9
      exact h9)
     have hbt : Below wr.heap.size wr ((wr.alloc (.cells #[.int .i64 2,.string ⟨nm.toArray⟩,.string ⟨tx.toArray⟩,.slice b1 r e1,.bool em] 73)).alloc (.cells #[.int .i64 1,.string ⟨nm.toArray⟩,.string ⟨#[]⟩] 78)):=((Below.refl _ wr).alloc (Nat.le_refl _) _).alloc (by simp) _
     have HOA:=Lib.hid (own_bel HO.out hbt)
     have HPA:=Lib.hid (own_bel HP.out hbt)
     have HBA:=Lib.hid (th HB.out (Nat.le_refl _) hbt)
     have HKA : Hid (Box5 wr.heap.size 2 ⟨nm.toArray⟩ ⟨tx.toArray⟩ (.slice b1 r e1) em ((wr.alloc (.cells #[.int .i64 2,.string ⟨nm.toArray⟩,.string ⟨tx.toArray⟩,.slice b1 r e1,.bool em] 73)).alloc (.cells #[.int .i64 1,.string ⟨nm.toArray⟩,.string ⟨#[]⟩] 78))):=Lib.hid ((Box5.made _ _ _ _ _).alloc _)
     clear hbt
     have hdd : done = false ∨ done = true ∧ 0 < q:=by
      cases hdn : done with
      | false=>exact .inl rfl
      | true=>
       refine .inr ⟨rfl,?_⟩
       rw [HQ.out]
       exact List.length_pos_iff.2 (fun h=>hd ⟨hdn,h⟩)
     have HD:=Lib.hid hd
     clear hd
     rcases hdd with rfl | ⟨rfl,hq0⟩
     all_goals (
      go_wp2_with (at_builtin;refine wpList_append_own _ rfl (.tmp 30) (.tmp 34) 39 rfl w.heap.size 78 i0 (.agg #[.int .i64 0,.string ⟨#[]⟩,.string ⟨#[]⟩]) 3 40 Tryz.underlying39 hi hz0 hz1 hz2 rfl (by decide) (.slice a4 m c4) m _ rfl HOA.out ⟨wr.heap.size + 1,0,none⟩ 1 1 [.int .i64 1,.string ⟨nm.toArray⟩,.string ⟨#[]⟩] rfl rfl HCN.out (by simp [Value.oneCell']) (by unfold maxLen;omega) (by omega) (by have:=HB.out.size;simp;omega) ?_;intro v3 w3 hown3 hgrow3 _;obtain ⟨a6,c6,rfl⟩:=own_sl hown3;have HO3 : Hid (w3.ownsRow w.heap.size 78 3 (.slice a6 (m + 1) c6) (m + 1) (stepCells (out ++ [⟨1,nm,[]⟩]))):=Lib.hid (by rw [stepCells_append];exact hown3);have HP3:=Lib.hid (HPA.out.kept hgrow3 (own_apart HPA.out HOA.out (by decide)));have HB3:=Lib.hid (HBA.out.grown hgrow3 HBA.out.size (fun k e=>(HOA.out.lt k e).1));have HK3 : Hid (Box5 wr.heap.size 2 ⟨nm.toArray⟩ ⟨tx.toArray⟩ (.slice b1 r e1) em w3):=Lib.hid ((hgrow3.block _ (Array.getElem?_eq_some_iff.1 HKA.out).1 (fun e=>by have:=(HO.out.lt _ e.symm).2;omega)).trans HKA.out);obtain ⟨d0,d1,d2,d3,d4,_⟩:=HK3.out.at;clear hown3 hgrow3 HOA HPA HBA HKA HCN)
      (with_reducible refine (HSR.out _ HB3.out).mono ?_)
      rintro e w4 ⟨hb4,a7,c7,rfl,hown4⟩
      have HO4:=Lib.hid (own_bel HO3.out hb4)
      have HP4:=Lib.hid (own_bel HP3.out hb4)
      have HK4:=Lib.hid (HK3.out.below hb4)
      have HB4:=Lib.hid (th HB3.out (Nat.le_refl _) hb4)
      have HS4:=Lib.hid hown4
      clear hb4 hown4 d0 d1 d2 d3 d4 HO3 HP3 HK3
      cases em with
      | true=>
       go_wp2_with (first | (at_builtin;refine wpList_append_rows rfl (.tmp 36) (.tmp 39) 39 rfl w.heap.size 78 i0 (.agg #[.int .i64 0,.string ⟨#[]⟩,.string ⟨#[]⟩]) 3 40 Tryz.underlying39 hi hz0 hz1 hz2 rfl (by decide) (.slice a6 (m + 1) c6) (m + 1) _ rfl HO4.out w3.heap.size a7 r c7 _ rfl HS4.out (one_steps _) (by unfold maxLen;omega) (by omega) HB4.out.size ?_;intro v5 w5 hown5 hgrow5;obtain ⟨a8,c8,rfl⟩:=own_sl hown5;have HO5 : Hid (w5.ownsRow w.heap.size 78 3 (.slice a8 (m + 1 + r) c8) (m + 1 + r) (stepCells (out ++ (⟨1,nm,[]⟩ :: (sortA ak).map attrS)))):=Lib.hid (by have h9:=hown5;rw [← stepCells_append,List.append_assoc] at h9;exact h9);have HP5:=Lib.hid (HP4.out.kept hgrow5 (own_apart HP4.out HO4.out (by decide)));have HB5:=Lib.hid (HB4.out.grown hgrow5 HB4.out.size (fun k e=>(HO4.out.lt k e).1));have HK5 : Hid (Box5 wr.heap.size 2 ⟨nm.toArray⟩ ⟨tx.toArray⟩ (.slice b1 r e1) true w5):=Lib.hid ((hgrow5.block _ (Array.getElem?_eq_some_iff.1 HK4.out).1 (fun e=>box_apart HK4.out HO4.out (by decide) e)).trans HK4.out);obtain ⟨d0,d1,d2,d3,d4,_⟩:=HK5.out.at;clear hown5 hgrow5 HO4 HP4 HB4 HK4 HS4 HK5) | (at_builtin;refine wpList_append_own _ rfl (.tmp 43) (.tmp 45) 39 rfl w.heap.size 78 i0 (.agg #[.int .i64 0,.string ⟨#[]⟩,.string ⟨#[]⟩]) 3 40 Tryz.underlying39 hi hz0 hz1 hz2 rfl (by decide) (.slice a8 (m + 1 + r) c8) (m + 1 + r) _ rfl (HO5.out.alloc _) ⟨w5.heap.size,0,none⟩ 1 1 [.int .i64 4,.string ⟨#[]⟩,.string ⟨#[]⟩] rfl rfl (cell_three_new _ _ _ _ _) (by simp [Value.oneCell']) (by unfold maxLen;omega) (by omega) (by have:=HB5.out.size;simp;omega) ?_;intro v6 w6 hown6 hgrow6 _))
       obtain ⟨a9,c9,rfl⟩:=own_sl hown6
       have HO6 : Hid (w6.ownsRow w.heap.size 78 3 (.slice a9 (m + 1 + r + 1) c9) (m + 1 + r + 1) (stepCells ((out ++ (⟨1,nm,[]⟩ :: (sortA ak).map attrS)) ++ [⟨4,[],[]⟩]))):=Lib.hid (by rw [stepCells_append];exact hown6)
       have HP6:=Lib.hid ((HP5.out.alloc _).kept hgrow6 (own_apart HP5.out HO5.out (by decide)))
       have HB6:=Lib.hid ((HB5.out.alloc HB5.out.size _).grown hgrow6 (by have:=HB5.out.size;simp;omega) (fun k e=>(HO5.out.lt k e).1))
       have HM6 : Hid (m + 1 + r + 1 = ((out ++ (⟨1,nm,[]⟩ :: (sortA ak).map attrS)) ++ [(⟨4,[],[]⟩ : Stp)]).length):=Lib.hid (by simp only [List.length_append,List.length_cons,List.length_map,List.length_nil];rw [sortA_len _ ak rfl,← HM.out,← HR.out];omega)
       have HXN:=Lib.hid (HX.out.empty HT.out (by first | exact (fun h=>absurd h.1 (by decide)) | exact (fun h=>HD.out ⟨trivial,h.2⟩)))
       clear hown6 hgrow6
       (try go_wp2)
       exact ⟨⟨k + 1,m + 1 + r + 1,q,(out ++ (⟨1,nm,[]⟩ :: (sortA ak).map attrS)) ++ [⟨4,[],[]⟩],op,true,a9,c9,a5,c5,by omega,rfl,rfl,rfl,by go_num,HM6,HQ,HO6,HP6,HXN,HB6⟩,by simp [intOf];omega⟩
      | false=>
       go_wp2_with (first | (at_builtin;refine wpList_append_rows rfl (.tmp 36) (.tmp 39) 39 rfl w.heap.size 78 i0 (.agg #[.int .i64 0,.string ⟨#[]⟩,.string ⟨#[]⟩]) 3 40 Tryz.underlying39 hi hz0 hz1 hz2 rfl (by decide) (.slice a6 (m + 1) c6) (m + 1) _ rfl HO4.out w3.heap.size a7 r c7 _ rfl HS4.out (one_steps _) (by unfold maxLen;omega) (by omega) HB4.out.size ?_;intro v5 w5 hown5 hgrow5;obtain ⟨a8,c8,rfl⟩:=own_sl hown5;have HO5 : Hid (w5.ownsRow w.heap.size 78 3 (.slice a8 (m + 1 + r) c8) (m + 1 + r) (stepCells (out ++ (⟨1,nm,[]⟩ :: (sortA ak).map attrS)))):=Lib.hid (by have h9:=hown5;rw [← stepCells_append,List.append_assoc] at h9;exact h9);have HP5:=Lib.hid (HP4.out.kept hgrow5 (own_apart HP4.out HO4.out (by decide)));have HB5:=Lib.hid (HB4.out.grown hgrow5 HB4.out.size (fun k e=>(HO4.out.lt k e).1));have HK5 : Hid (Box5 wr.heap.size 2 ⟨nm.toArray⟩ ⟨tx.toArray⟩ (.slice b1 r e1) false w5):=Lib.hid ((hgrow5.block _ (Array.getElem?_eq_some_iff.1 HK4.out).1 (fun e=>box_apart HK4.out HO4.out (by decide) e)).trans HK4.out);obtain ⟨d0,d1,d2,d3,d4,_⟩:=HK5.out.at;clear hown5 hgrow5 HO4 HP4 HB4 HK4 HS4 HK5) | (at_builtin;refine wpList_append_own _ rfl (.tmp 47) (.tmp 50) 76 rfl w.heap.size 9 j0 (.string ⟨#[]⟩) 1 16 Tryz.underlying76 hj hy0 hy1 hy2 rfl (by decide) (.slice a5 q c5) q _ rfl (HP5.out.alloc _) ⟨w5.heap.size,0,none⟩ 1 1 [.string ⟨nm.toArray⟩] rfl rfl (cell_one_new _ _ _) (by simp [Value.oneCell']) (by unfold maxLen;omega) (by omega) (by have:=HB5.out.size;simp;omega) ?_;intro v6 w6 hown6 hgrow6 _))
       obtain ⟨a9,c9,rfl⟩:=own_sl hown6
       have HP6 : Hid (w6.ownsRow w.heap.size 9 1 (.slice a9 (q + 1) c9) (q + 1) (strVs (nm :: op))):=Lib.hid (by rw [strVs_cons];exact hown6)
       have HO6:=Lib.hid ((HO5.out.alloc _).kept hgrow6 (own_apart HO5.out HP5.out (by decide)))
       have HB6:=Lib.hid ((HB5.out.alloc HB5.out.size _).grown hgrow6 (by have:=HB5.out.size;simp;omega) (fun k e=>(HP5.out.lt k e).1))
       have HM6 : Hid (m + 1 + r = (out ++ (⟨1,nm,[]⟩ :: (sortA ak).map attrS)).length):=Lib.hid (by simp only [List.length_append,List.length_cons,List.length_map];rw [sortA_len _ ak rfl,← HM.out,← HR.out];omega)
       have HQ6 : Hid (q + 1 = (nm :: op).length):=Lib.hid (by rw [List.length_cons,← HQ.out])
       have HXN:=Lib.hid (HX.out.more HT.out (by first | exact (fun h=>absurd h.1 (by decide)) | exact (fun h=>HD.out ⟨trivial,h.2⟩)))
       clear hown6 hgrow6
       (try go_wp2)
       exact ⟨⟨k + 1,m + 1 + r,q + 1,(out ++ (⟨1,nm,[]⟩ :: (sortA ak).map attrS)),nm :: op,true,a8,c8,a9,c9,by omega,rfl,rfl,rfl,by go_num,HM6,HQ6,HO6,HP6,HXN,HB6⟩,by simp [intOf];omega⟩)
   ·by_cases h3 : ki = 3
    ·subst h3
     rcases op with _ | ⟨o1,op⟩
     ·obtain rfl : q = 0:=HQ.out
      have HE:=Lib.hid (HX.out.shut HT.out)
      go_wp2_with fail
      go_quiet (fail)
      go_wp2
      go_ret2
      exact ⟨below_drewN (HB.out.alloc HB.out.size _) _,.inr ⟨k,HE.out,rfl⟩⟩
     ·obtain ⟨q,rfl⟩ : ∃ q',q = q' + 1:=⟨q - 1,by have:=HQ.out;rw [List.length_cons] at this;omega⟩
      have HQ1 : Hid (q = op.length):=Lib.hid (by have:=HQ.out;rw [List.length_cons] at this;omega)
      rcases own_form HP.out with ⟨_,_,h9⟩ | ⟨g5,rfl,hcs5,hqc⟩
      ·omega
      ·have h9:=hcs5 q (.string ⟨o1.toArray⟩) (by rw [strVs_cons,List.getElem?_append_right (by rw [strVs_len,HQ1.out];exact Nat.le_refl _),strVs_len,HQ1.out,Nat.sub_self];rfl)
       rw [add_zero_at] at h9
       have hgl:=(HP.out.lt g5 rfl).2
       have x5 : (wr.alloc (.cells #[.int .i64 3,.string ⟨nm.toArray⟩,.string ⟨tx.toArray⟩,.slice b1 r e1,.bool em] 73)).cell? ⟨g5,q,none⟩ = some (.string ⟨o1.toArray⟩):=((Below.refl _ wr).alloc (Nat.le_refl _) _ |>.cell hgl).trans h9
       obtain ⟨d0,d1,d2,d3,d4,_⟩:=(Box5.made 3 ⟨nm.toArray⟩ ⟨tx.toArray⟩ (.slice b1 r e1) wr (em:=em)).at
       clear h9 hcs5
       have hqw : IntKind.i64.wrap (q : Int) = q:=wrap_small _ (by omega) (by omega)
       have hqb : ((q : Int) + 1 == 0) = false:=by simp;omega
       have hq0 : (0 : Int) ≤ q:=by omega
       have hq1 : (q : Int) < (q : Int) + 1:=by omega
       have hq2 : (q : Int) < ((q + 1 : Nat) : Int):=by omega
       by_cases hon : o1 = nm
       ·subst hon
        go_wp2_with fail
        go_quiet (fail)
        obtain ⟨W5,hW5⟩ : ∃ W5,W5 = (wr.alloc (.cells #[.int .i64 3,.string ⟨o1.toArray⟩,.string ⟨tx.toArray⟩,.slice b1 r e1,.bool em] 73)).drewN nq:=⟨_,rfl⟩
        rw [← hW5]
        have HB5 : Hid (Below wr.heap.size wr W5):=Lib.hid (by rw [hW5];exact below_drewN ((Below.refl _ wr).alloc (Nat.le_refl _) _) _)
        clear hW5
        have HO5:=Lib.hid (own_bel HO.out HB5.out)
        have HP5 : Hid (W5.ownsRow w.heap.size 9 1 (.slice (some ⟨g5,0,none⟩) q c5) q (strVs op)):=Lib.hid (by
         have h9:=own_less (own_bel HP.out HB5.out) (Nat.le_succ q)
         rw [strVs_cons,Nat.mul_one,List.take_left' (by rw [strVs_len,HQ1.out])] at h9
         exact h9)
        have HBB:=Lib.hid (th HB.out (Nat.le_refl _) HB5.out)
        have HXN:=Lib.hid (HX.out.close HT.out)
        clear d0 d1 d2 d3 d4 x5
        go_wp2_with (at_builtin;refine wpList_append_own _ rfl (.tmp 74) (.tmp 76) 39 rfl w.heap.size 78 i0 (.agg #[.int .i64 0,.string ⟨#[]⟩,.string ⟨#[]⟩]) 3 40 Tryz.underlying39 hi hz0 hz1 hz2 rfl (by decide) (.slice a4 m c4) (m) _ rfl (HO5.out.alloc _) ⟨W5.heap.size,0,none⟩ 1 1 [.int .i64 4,.string ⟨#[]⟩,.string ⟨#[]⟩] rfl rfl (cell_three_new _ _ _ _ _) (by simp [Value.oneCell']) (by unfold maxLen;omega) (by omega) (by have:=HBB.out.size;simp;omega) ?_;intro v6 w6 hown6 hgrow6 _)
        obtain ⟨a6,c6,rfl⟩:=own_sl hown6
        have HO6 : Hid (w6.ownsRow w.heap.size 78 3 (.slice a6 (m + 1) c6) (m + 1) (stepCells (out ++ [⟨4,[],[]⟩]))):=Lib.hid (by rw [stepCells_append];exact hown6)
        have HP6:=Lib.hid ((HP5.out.alloc _).kept hgrow6 (own_apart HP5.out HO5.out (by decide)))
        have HB6:=Lib.hid ((HBB.out.alloc HBB.out.size _).grown hgrow6 (by have:=HBB.out.size;simp;omega) (fun k e=>(HO5.out.lt k e).1))
        have HM6 : Hid (m + 1 = (out ++ [(⟨4,[],[]⟩ : Stp)]).length):=Lib.hid (by rw [List.length_append,← HM.out];rfl)
        clear hown6 hgrow6
        (try go_wp2)
        exact ⟨⟨k + 1,m + 1,q,out ++ [⟨4,[],[]⟩],op,done,a6,c6,_,_,by omega,rfl,rfl,rfl,by go_num,HM6,HQ1,HO6,HP6,HXN,HB6⟩,by simp [intOf];omega⟩
       ·have HE:=Lib.hid (HX.out.wrong HT.out hon)
        have hob : (o1 == nm) = false:=by simp [hon]
        go_wp2_with fail
        go_quiet (fail)
        go_wp2
        go_ret2
        exact ⟨below_drewN (HB.out.alloc HB.out.size _) _,.inr ⟨k,HE.out,rfl⟩⟩
    ·by_cases h4 : ki = 4
     ·subst h4
      rcases op with _ | ⟨o1,op⟩
      ·obtain rfl : q = 0:=HQ.out
       have HBR : Hid (∀ W : World,Calls Tryz.prog 35 #[.string ⟨tx.toArray⟩] W fun e w'=>e = .returned (.bool (tx.all fun b=>blankI b.toNat)) ∧ Below W.heap.size W w'):=Lib.hid (fun W=>by
        have h9:=blankR_any ⟨tx.toArray⟩ W (by have:=bts_len ⟨tx.toArray⟩;rw [bts_mk] at this;omega) HBK.out
        rw [bts_mk] at h9;exact h9)
       cases hbl : tx.all fun b=>blankI b.toNat with
       | false=>
        have HE:=Lib.hid (HX.out.loose HT.out hbl)
        rw [hbl] at HBR
        clear hbl
        go_wp2_with fail
        (with_reducible refine (HBR.out _).mono ?_)
        rintro e w3 ⟨rfl,hb3⟩
        have HB3:=Lib.hid (th (HB.out.alloc HB.out.size (.cells #[.int .i64 4,.string ⟨nm.toArray⟩,.string ⟨tx.toArray⟩,.slice b1 r e1,.bool em] 73)) (Nat.le_refl _) hb3)
        clear hb3
        go_wp2
        go_ret2
        exact ⟨HB3.out,.inr ⟨k,HE.out,rfl⟩⟩
       | true=>
        have HXN:=Lib.hid (HX.out.blank HT.out hbl)
        rw [hbl] at HBR
        clear hbl
        go_wp2_with fail
        (with_reducible refine (HBR.out _).mono ?_)
        rintro e w3 ⟨rfl,hb3⟩
        have HO3:=Lib.hid (own_bel (HO.out.alloc (.cells #[.int .i64 4,.string ⟨nm.toArray⟩,.string ⟨tx.toArray⟩,.slice b1 r e1,.bool em] 73)) hb3)
        have HP3:=Lib.hid (own_bel (HP.out.alloc (.cells #[.int .i64 4,.string ⟨nm.toArray⟩,.string ⟨tx.toArray⟩,.slice b1 r e1,.bool em] 73)) hb3)
        have HB3:=Lib.hid (th (HB.out.alloc HB.out.size (.cells #[.int .i64 4,.string ⟨nm.toArray⟩,.string ⟨tx.toArray⟩,.slice b1 r e1,.bool em] 73)) (Nat.le_refl _) hb3)
        clear hb3
        go_wp2
        exact ⟨⟨k + 1,m,0,out,[],done,a4,c4,a5,c5,by omega,rfl,rfl,rfl,by go_num,HM,HQ,HO3,HP3,HXN,HB3⟩,by simp [intOf];omega⟩
      ·have hqp : 0 < q:=by rw [HQ.out];simp
       have hqz : ¬ (q : Int) = 0:=by omega
       have hqz2 : ¬ q = 0:=by omega
       have hqd : decide ((q : Int) = 0) = false:=by simp;omega
       by_cases htx : tx = []
       ·subst htx
        have HXN:=Lib.hid (HX.out.none HT.out (by simp))
        go_wp2_with fail
        exact ⟨⟨k + 1,m,q,out,o1 :: op,done,a4,c4,a5,c5,by omega,rfl,rfl,rfl,by go_num,HM,HQ,Lib.hid (HO.out.alloc _),Lib.hid (HP.out.alloc _),HXN,Lib.hid (HB.out.alloc HB.out.size _)⟩,by simp [intOf];omega⟩
       ·have htb : (tx == []) = false:=by simp [htx]
        have htd : decide (tx = []) = false:=by simp [htx]
        have hsp : out = [] ∨ ∃ pre s,out = pre ++ [s]:=by
         rcases List.eq_nil_or_concat out with h | ⟨u1,u2,h⟩
         ·exact .inl h
         ·exact .inr ⟨u1,u2,by rw [h,List.concat_eq_append]⟩
        rcases hsp with rfl | ⟨pre,⟨sk,sn,sx⟩,rfl⟩
        ·exact absurd HX.out.2.2.1 (by simp)
        ·obtain ⟨p9,rfl⟩ : ∃ p',m = p' + 1:=⟨m - 1,by have:=HM.out;simp at this;omega⟩
         have HM1 : Hid (p9 = pre.length):=Lib.hid (by have:=HM.out;simp at this;omega)
         rcases own_form HO.out with ⟨_,_,h9⟩ | ⟨g4,rfl,hcs4,hmc⟩
         ·omega
         ·obtain ⟨y0,_,y2⟩:=stepCells_get (pre ++ [⟨sk,sn,sx⟩]) p9 ⟨sk,sn,sx⟩ (by rw [HM1.out,List.getElem?_append_right (Nat.le_refl _),Nat.sub_self];rfl)
          have h7:=hcs4 _ _ y0
          have h8:=hcs4 _ _ y2
          rw [add_zero_at] at h7 h8
          have hgl:=(HO.out.lt g4 rfl).2
          have x0 : (wr.alloc (.cells #[.int .i64 4,.string ⟨nm.toArray⟩,.string ⟨tx.toArray⟩,.slice b1 r e1,.bool em] 73)).cell? ⟨g4,p9 * 3,none⟩ = some (.int .i64 sk):=((Below.refl _ wr).alloc (Nat.le_refl _) _ |>.cell hgl).trans h7
          have x2 : (wr.alloc (.cells #[.int .i64 4,.string ⟨nm.toArray⟩,.string ⟨tx.toArray⟩,.slice b1 r e1,.bool em] 73)).cell? ⟨g4,p9 * 3 + 2,none⟩ = some (.string ⟨sx.toArray⟩):=((Below.refl _ wr).alloc (Nat.le_refl _) _ |>.cell hgl).trans h8
          have hpw : IntKind.i64.wrap (p9 : Int) = p9:=wrap_small _ (by omega) (by omega)
          have hp0 : (0 : Int) ≤ p9:=by omega
          have hp1 : (p9 : Int) < (p9 : Int) + 1:=by omega
          have hp2 : (p9 : Int) < ((p9 + 1 : Nat) : Int):=by omega
          clear h7 h8 y0 y2 hcs4
          by_cases hsk : sk = 3
          ·subst hsk
           have hsx:=HX.out.2.2.2 _ List.getLast?_concat rfl
           simp only at hsx
           have hs7:=HS.out
           have hsx6 : sx.length ≤ 1000000:=by omega
           clear hsx hs7
           obtain ⟨d0,d1,d2,d3,d4,_⟩:=(Box5.made 4 ⟨nm.toArray⟩ ⟨tx.toArray⟩ (.slice b1 r e1) wr (em:=em)).at
           have hadd : ∀ W : World,(Op.stringOp .add ⟨sx.toArray⟩ ⟨tx.toArray⟩).run Tryz.prog W = .ok (.string ⟨(sx ++ tx).toArray⟩) W:=fun W=>run_string_add_lists W sx tx (by omega) (by omega)
           have f2 : (wr.alloc (.cells #[.int .i64 4,.string ⟨nm.toArray⟩,.string ⟨tx.toArray⟩,.slice b1 r e1,.bool em] 73)).frozen? ⟨g4,p9 * 3 + 2,none⟩ = false:=own_thaw (HO.out.alloc _) _
           go_wp2_with fail
           obtain ⟨W1,hW1⟩ : ∃ W1,W1 = wr.alloc (.cells #[.int .i64 4,.string ⟨nm.toArray⟩,.string ⟨tx.toArray⟩,.slice b1 r e1,.bool em] 73):=⟨_,rfl⟩
           rw [← hW1] at x0 x2 d0 d1 d2 d3 d4 f2 ⊢
           have HB1 : Hid (Below wr.heap.size wr W1):=Lib.hid (by rw [hW1];exact (Below.refl _ wr).alloc (Nat.le_refl _) _)
           clear hW1
           go_still_tail 14,(by kernel_rfl)
           change wpList _ _ _ _ _ W1.drew
           have x5 : W1.drew.cell? ⟨g4,p9 * 3 + 2,none⟩ = some (.string ⟨sx.toArray⟩):=x2
           have f5 : W1.drew.frozen? ⟨g4,p9 * 3 + 2,none⟩ = false:=f2
           have HB2 : Hid (Below wr.heap.size wr W1.drew):=Lib.hid HB1.out.drew
           obtain ⟨W2,hW2⟩ : ∃ W2,W2 = W1.drew:=⟨_,rfl⟩
           rw [← hW2] at x5 f5 HB2 ⊢
           clear hW2 x0 x2 d0 d1 d2 d3 d4 f2 hadd HB1
           have HO2:=Lib.hid (own_bel HO.out HB2.out)
           have HP2:=Lib.hid (own_bel HP.out HB2.out)
           have HO6 : Hid ((W2.setCell ⟨g4,p9 * 3 + 2,none⟩ (.string ⟨(sx ++ tx).toArray⟩)).ownsRow w.heap.size 78 3 (.slice (some ⟨g4,0,none⟩) (p9 + 1) c4) (p9 + 1) (stepCells (pre ++ [⟨3,sn,sx ++ tx⟩]))):=Lib.hid (by
            rw [← stepCells_set,← HM1.out]
            exact own_upd HO2.out (by omega))
           have HP6:=Lib.hid (HP2.out.kept (grownBy_setAt W2 g4 (p9 * 3 + 2) (.string ⟨(sx ++ tx).toArray⟩)) (own_apart HP2.out HO2.out (by decide)))
           have HB6:=Lib.hid ((th HB.out (Nat.le_refl _) HB2.out).setCell (p:=⟨g4,p9 * 3 + 2,none⟩) (HO.out.lt g4 rfl).1 (.string ⟨(sx ++ tx).toArray⟩))
           have HXN:=Lib.hid (HX.out.join HT.out (by simp) htx)
           have HM6 : Hid (p9 + 1 = (pre ++ [(⟨3,sn,sx ++ tx⟩ : Stp)]).length):=Lib.hid (by rw [List.length_append,← HM1.out];rfl)
           go_wp2
           exact ⟨⟨k + 1,p9 + 1,q,pre ++ [⟨3,sn,sx ++ tx⟩],o1 :: op,done,_,c4,a5,c5,by omega,rfl,rfl,rfl,by go_num,HM6,HQ,HO6,HP6,HXN,HB6⟩,by simp [intOf];omega⟩
          ·have hskb : (sk == 3) = false:=by simp [hsk]
           have HCN : Hid (∀ j u,([.int .i64 3,.string ⟨#[]⟩,.string ⟨tx.toArray⟩] : List Value)[j]? = some u → ((wr.alloc (.cells #[.int .i64 4,.string ⟨nm.toArray⟩,.string ⟨tx.toArray⟩,.slice b1 r e1,.bool em] 73)).alloc (.cells #[.int .i64 3,.string ⟨#[]⟩,.string ⟨tx.toArray⟩] 78)).cell? ((⟨wr.heap.size + 1,0,none⟩ : Addr).add j) = some u):=Lib.hid (by
            have h9:=cell_three_new (wr.alloc (.cells #[.int .i64 4,.string ⟨nm.toArray⟩,.string ⟨tx.toArray⟩,.slice b1 r e1,.bool em] 73)) (.int .i64 3) (.string ⟨#[]⟩) (.string ⟨tx.toArray⟩) 78
            rw [show (wr.alloc (.cells #[.int .i64 4,.string ⟨nm.toArray⟩,.string ⟨tx.toArray⟩,.slice b1 r e1,.bool em] 73)).heap.size = wr.heap.size + 1 by simp] at h9
            exact h9)
           have hbt : Below wr.heap.size wr ((wr.alloc (.cells #[.int .i64 4,.string ⟨nm.toArray⟩,.string ⟨tx.toArray⟩,.slice b1 r e1,.bool em] 73)).alloc (.cells #[.int .i64 3,.string ⟨#[]⟩,.string ⟨tx.toArray⟩] 78)):=((Below.refl _ wr).alloc (Nat.le_refl _) _).alloc (by simp) _
           have HOA:=Lib.hid (own_bel HO.out hbt)
           have HPA:=Lib.hid (own_bel HP.out hbt)
           have HBA:=Lib.hid (th HB.out (Nat.le_refl _) hbt)
           have HXN:=Lib.hid (HX.out.text HT.out (by simp) htx rfl hsk)
           clear hbt
           go_wp2_with (at_builtin;refine wpList_append_own _ rfl (.tmp 122) (.tmp 126) 39 rfl w.heap.size 78 i0 (.agg #[.int .i64 0,.string ⟨#[]⟩,.string ⟨#[]⟩]) 3 40 Tryz.underlying39 hi hz0 hz1 hz2 rfl (by decide) (.slice (some ⟨g4,0,none⟩) (p9 + 1) c4) (p9 + 1) _ rfl HOA.out ⟨wr.heap.size + 1,0,none⟩ 1 1 [.int .i64 3,.string ⟨#[]⟩,.string ⟨tx.toArray⟩] rfl rfl HCN.out (by simp [Value.oneCell']) (by unfold maxLen;omega) (by omega) (by have:=HB.out.size;simp;omega) ?_;intro v6 w6 hown6 hgrow6 _)
           obtain ⟨a6,c6,rfl⟩:=own_sl hown6
           have HO6 : Hid (w6.ownsRow w.heap.size 78 3 (.slice a6 (p9 + 1 + 1) c6) (p9 + 1 + 1) (stepCells (pre ++ [⟨sk,sn,sx⟩] ++ [⟨3,[],tx⟩]))):=Lib.hid (by rw [stepCells_append];exact hown6)
           have HP6:=Lib.hid (HPA.out.kept hgrow6 (own_apart HPA.out HOA.out (by decide)))
           have HB6:=Lib.hid (HBA.out.grown hgrow6 HBA.out.size (fun k e=>(HOA.out.lt k e).1))
           have HM6 : Hid (p9 + 1 + 1 = (pre ++ [(⟨sk,sn,sx⟩ : Stp)] ++ [(⟨3,[],tx⟩ : Stp)]).length):=Lib.hid (by rw [List.length_append,← HM.out];rfl)
           clear hown6 hgrow6
           (try go_wp2)
           exact ⟨⟨k + 1,p9 + 1 + 1,q,pre ++ [⟨sk,sn,sx⟩] ++ [⟨3,[],tx⟩],o1 :: op,done,a6,c6,a5,c5,by omega,rfl,rfl,rfl,by go_num,HM6,HQ,HO6,HP6,HXN,HB6⟩,by simp [intOf];omega⟩
     ·have hb2 : (ki == 2) = false:=by simp [h2]
      have hb3 : (ki == 3) = false:=by simp [h3]
      have hb4 : (ki == 4) = false:=by simp [h4]
      go_wp2_with fail
      exact ⟨⟨k + 1,m,q,out,op,done,a4,c4,a5,c5,by omega,rfl,rfl,rfl,by go_num,HM,HQ,Lib.hid (HO.out.alloc _),Lib.hid (HP.out.alloc _),Lib.hid (HX.out.other HT.out h2 h3 h4),Lib.hid (HB.out.alloc HB.out.size _)⟩,by simp [intOf];omega⟩
  ·obtain rfl : n = k:=by omega
   have h9:=HX.out
   rw [HN.out] at h9
   have HD:=Lib.hid h9.done
   rw [← HN.out] at HD
   clear h9
   cases done with
   | false=>
    have HE : Hid (xmlL l = .error n):=Lib.hid (by rw [HD.out];simp)
    go_wp2
    go_ret2
    exact ⟨HB.out,.inr ⟨n,HE.out,rfl⟩⟩
   | true=>
    rcases op with _ | ⟨o1,op⟩
    ·obtain rfl : q = 0:=HQ.out
     have HE : Hid (xmlL l = .ok out):=Lib.hid (by rw [HD.out];simp)
     have HF : Hid (XStepsPost (.ok out) w (.returned (.tuple #[.slice a4 m c4,.int .i64 (-1)])) wr):=Lib.hid ⟨HB.out,.inl ⟨out,a4,c4,rfl,by rw [HM.out],by have h9:=HO.out;rwa [HM.out] at h9⟩⟩
     go_wp2
     go_ret2
     rw [HE.out]
     exact HF.out
    ·have hqp : 0 < q:=by rw [HQ.out];simp
     have hqz : (0 : Int) < q:=by omega
     have hqd : decide ((0 : Int) < q) = true:=by simp;omega
     have HE : Hid (xmlL l = .error n):=Lib.hid (by rw [HD.out];simp)
     go_wp2
     go_ret2
     exact ⟨HB.out,.inr ⟨n,HE.out,rfl⟩⟩
end Go.Proofs.YtjldpkhfiffinaaGreatDoor.U
