/- The document's Merge. -/
import Derived.Test.YtodjfebceljjgaaRr
import Derived.Laws.AppendOwnNone
namespace Go.Proofs.Ytodjfebceljjgaa.U
open Go.RowKit

theorem wpList_append_none {P : Program} {w : World} {ops : Array Oper} {rest : List Oper} {o : Oper} {a : Act} {Q : Exit → Act → World → Prop} (hgd : o.guard = none) (s x : Operand) (t : TypeId)
    (ho : o.op = .call { callee := .builtin .append, args := #[s, x], argTypes := #[t, t] })
    (base : Nat) (e : TypeId) (i : TypeInfo) (size : Nat) (ht : P.underlying t = some (.slice e)) (hi : P.info? e = some i)
    (v : Value) (n c : Nat) (xs : List Value) (hs : a.eval s = v) (hown : w.ownsRow base e size v n xs) (hx : a.eval x = .slice none 0 c)
    (h : wpList P ops Q rest (a.put o.dst v) w) : wpList P ops Q (o :: rest) a w := by
  refine wpList_plain hgd fun K hK => ?_
  have hrun : (Builtin.append_ #[t, t] o.type #[v, .slice none 0 c]).run P w = .ok v w := by
    rcases hown.2 with ⟨rfl, rfl⟩ | ⟨g, cap, cur, rfl, _, _, hnc, _⟩
    · simp [Builtin.append_, run_underlying ht, sizeOf, typeInfo, hi, Builtin.lenOf, Builtin.firstCells]
    · simp [Builtin.append_, run_underlying ht, sizeOf, typeInfo, hi, Builtin.lenOf, Builtin.firstCells, hnc, storeCells]
  unfold Oper.wp
  simp [execOp, ho, resolve, invoke, builtin, hs, hx, hrun, Result.andThen]
  exact hK _ _ h
/-- append of a list of things, wherever it lies. -/
theorem append_rt {ops : Array Oper} {rest : List Oper} {o : Oper} {a : Act} {w : World} {Q : Exit → Act → World → Prop} (hgd : o.guard = none) (s x : Operand)
    (ho : o.op = .call { callee := .builtin .append, args := #[s, x], argTypes := #[31, 31] })
    (base : Nat) (v : Value) (n : Nat) (l0 : List T2) (hs : a.eval s = v) (hown : w.ownsRow base 28 2 v n (cells2 l0))
    (ad : Option Addr) (c : Nat) (l : List T2) (hx : a.eval x = .slice ad l.length c) (hsrc : RT w (.slice ad l.length c) l)
    (h63 : n + l.length ≤ 1000000) (hbase : base ≤ w.heap.size)
    (h : ∀ v' w', w'.ownsRow base 28 2 v' (n + l.length) (cells2 (l0 ++ l)) → w.grownBy w' v.ownBlock → wpList Try.prog ops Q rest (a.put o.dst v') w') : wpList Try.prog ops Q (o :: rest) a w := by
  obtain ⟨i0, hi, hz0, hz1, hz2⟩ := info_parts infoTh
  have hse : Try.prog.underlying 31 = some (.slice 28) := Try.underlying31
  rw [cells2_append] at h
  cases ad with
  | none =>
    have hl : l.length = 0 := by
      obtain ⟨a', c', e, h1, h2, h3⟩ := hsrc
      rcases Nat.eq_zero_or_pos l.length with h0 | h0
      · exact h0
      · obtain ⟨g, o', e2, _⟩ := h3 h0
        simp only [Value.slice.injEq] at e
        rw [← e.1] at e2
        cases e2
    have hle : l = [] := List.eq_nil_of_length_eq_zero hl
    subst hle
    refine wpList_append_none hgd s x 31 ho base 28 i0 2 hse hi v n c _ hs hown hx ?_
    have h2 := h v w
    simp only [List.length_nil, Nat.add_zero, cells2, List.flatMap_nil, List.append_nil] at h2
    exact h2 hown ⟨rfl, rfl, rfl, Nat.le_refl _, fun k _ _ => rfl⟩
  | some p =>
    refine wpList_append_own w hgd s x 31 ho base 28 i0 (.agg #[.int .i64 0, .int .i64 0]) 2 16 hse hi hz0 hz1 hz2 rfl (by decide) v n _ hs hown p l.length c (cells2 l) hx (cells2_len l) ?_ (cells2_one l) (by unfold maxLen; omega) (by omega) hbase (fun v' w' h2 h3 _ => h v' w' h2 h3)
    rcases Nat.eq_zero_or_pos l.length with h0 | h0
    · intro j u hu
      rw [List.eq_nil_of_length_eq_zero h0] at hu
      cases hu
    · have hcp := hsrc
      obtain ⟨a', c', e, h1, h2, h3⟩ := hcp
      obtain ⟨g, o', e2, _⟩ := h3 h0
      simp only [Value.slice.injEq] at e
      rw [← e.1] at e2
      obtain rfl := Option.some.inj e2
      have hn := RT.news hsrc 0 l.length
      simpa using hn
theorem flat_take {ls : List (List T2)} {k : Nat} {l : List T2} (h : ls[k]? = some l) : (ls.take (k + 1)).flatten = (ls.take k).flatten ++ l := by
  rw [List.take_add_one, h]
  simp
theorem flat_le (ls : List (List T2)) (k : Nat) : (ls.take k).flatten.length ≤ ls.flatten.length := by
  conv => rhs; rw [← List.take_append_drop k ls, List.flatten_append, List.length_append]
  omega
theorem split_at {A : List T2} {j : Nat} {x : T2} (h : A[j]? = some x) : A = A.take j ++ x :: A.drop (j + 1) := by
  have hj := (List.getElem?_eq_some_iff.1 h).1
  have h2 := (List.getElem?_eq_some_iff.1 h).2
  conv => lhs; rw [← List.take_append_drop j A, List.drop_eq_getElem_cons hj, h2]
theorem first_out {A : List T2} {j : Nat} {x : T2} (h : FirstAt A A.length j x) : sortI A = x :: sortI (outL A j) := by
  obtain ⟨h1, h2, h3, h4⟩ := h
  conv => lhs; rw [split_at h2]
  exact sort_first (fun z hz => by
    obtain ⟨i, hi⟩ := List.mem_iff_getElem?.1 hz
    rw [List.getElem?_take] at hi
    split at hi
    · exact h3 i z (by assumption) hi
    · cases hi) (fun z hz => by
    obtain ⟨i, hi⟩ := List.mem_iff_getElem?.1 hz
    rw [List.getElem?_drop] at hi
    exact h4 (j + 1 + i) z (by omega) (List.getElem?_eq_some_iff.1 hi).1 hi)
structure LoopA (w wr : World) (ls : List (List T2)) (k m : Nat) (v : Value) : Prop where
  own : wr.ownsRow w.heap.size 28 2 v m (cells2 (ls.take k).flatten)
  len : m = (ls.take k).flatten.length
  kept : Below w.heap.size w wr
structure LoopB (w wr : World) (F A O : List T2) (b m k : Nat) (va vo : Value) : Prop where
  all : wr.ownsRow b 28 2 va m (cells2 A)
  out : wr.ownsRow w.heap.size 28 2 vo k (cells2 O)
  lenA : m = A.length
  lenO : k = O.length
  count : m + k = F.length
  apart : ∀ q, vo.ownBlock = some q → q < b
  high : w.heap.size ≤ b
  sorted : sortI F = O ++ sortI A
  kept : Below w.heap.size w wr
theorem own_low {w : World} {base size n : Nat} {e : TypeId} {v : Value} {xs : List Value} (h : w.ownsRow base e size v n xs) : ∀ q, v.ownBlock = some q → q < w.heap.size := fun _ hq => (own_block h hq).2.1
set_option maxHeartbeats 4000000 in
set_option maxRecDepth 10000 in
theorem mergeR_any (v : Value) (ls : List (List T2)) (w : World) (h : LT w v ls) (hn : ls.length ≤ 900) (hs : ls.flatten.length ≤ 100000) : Calls Try.prog 22 #[v] w fun e w' => ∃ vo, e = .returned vo ∧ w'.ownsRow w.heap.size 28 2 vo (sortI ls.flatten).length (cells2 (sortI ls.flatten)) ∧ Below w.heap.size w w' := by
  obtain ⟨i0, hi, hz0, hz1, hz2⟩ := info_parts infoTh
  have hse : Try.prog.underlying 31 = some (.slice 28) := Try.underlying31
  have hcp := h
  obtain ⟨a, c, rfl, h1, h2, h3⟩ := hcp
  have H3 := Lib.hid h3
  have HLT := Lib.hid h
  obtain ⟨n, hnn⟩ : ∃ n, n = ls.length := ⟨_, rfl⟩
  have hn0 : wrap64 (n : Int) = n := by unfold wrap64; omega
  have HW : Hid (∀ k : Nat, k < n → wrap64 ((k : Int) + 1) = (k : Int) + 1) := Lib.hid (fun k hk => by unfold wrap64; omega)
  have HN := Lib.hid hnn
  obtain ⟨F, hF⟩ : ∃ F, F = ls.flatten := ⟨_, rfl⟩
  have HF := Lib.hid hF
  rw [← hF] at hs ⊢
  have HS := Lib.hid hs
  rw [← hnn] at hn ⊢
  clear h h1 h2 h3 hs hnn hF hn
  go_enter Try.func22, Try.ntmps22
  go_wp2_with fail
  go_loopw [3, 4] (fun va i wr => ∃ (k m : Nat) (aa : Option Addr) (ac : Nat), i = .int .i64 k ∧ k ≤ n ∧ va = .slice aa m ac ∧ Hid (LoopA w wr ls k m (.slice aa m ac))) (fun _ i _ => n - (intOf i).toNat)
  case atStart => exact ⟨0, 0, none, 0, rfl, by omega, rfl, Lib.hid ⟨by simpa [cells2] using World.ownsRow_nil _ _ _ _, by simp, Below.refl _ _⟩⟩
  case round =>
    obtain ⟨k, m, aa, ac, rfl, hk, rfl, HI⟩ := hrel
    by_cases hlt : k < n
    · obtain ⟨l, hl⟩ : ∃ l, ls[k]? = some l := ⟨_, List.getElem?_eq_getElem (by rw [← HN.out]; exact hlt)⟩
      obtain ⟨g, o, rfl, h5⟩ := H3.out (by rw [← HN.out]; omega)
      obtain ⟨u, q1, q2⟩ := h5 k l hl
      have c1 : wr.cell? ⟨g, o + k, none⟩ = some u := (HI.out.kept.cell (blk_of_cell q1)).trans q1
      have hru : RT wr u l := q2.below HI.out.kept
      have HRU := Lib.hid hru
      obtain ⟨ua, uc, rfl, _⟩ := hru
      have hw1 := HW.out k hlt
      have hi0 : (0 : Int) ≤ k := by omega
      have hi1 : (k : Int) < n := by omega
      have hd1 : decide ((k : Int) < n) = true := by simp; omega
      have HL := Lib.hid hl
      have HKN := Lib.hid hlt
      have HFL := Lib.hid (flat_take hl)
      have HML : Hid (m + l.length ≤ 100000) := Lib.hid (by
        have e1 := HI.out.len
        have e2 := HFL.out
        have e3 := flat_le ls (k + 1)
        rw [e2, List.length_append, ← HF.out] at e3
        have := HS.out
        omega)
      clear hl h5 q1 q2 hk
      go_wp2_with (at_builtin; refine append_rt rfl _ _ rfl w.heap.size _ m _ rfl HI.out.own ua uc l rfl HRU.out (by have := HML.out; omega) HI.out.kept.size ?_; intro v5 w5 hown5 hgrow5)
      obtain ⟨ba, bc, rfl, _, _⟩ := own_at hown5
      have HFIN : Hid (LoopA w w5 ls (k + 1) (m + l.length) (.slice ba (m + l.length) bc)) := Lib.hid ⟨by rw [HFL.out]; exact hown5, by rw [HFL.out, List.length_append, ← HI.out.len], HI.out.kept.grown hgrow5 HI.out.kept.size (fun q e => (own_block HI.out.own e).1)⟩
      clear hown5 hgrow5
      go_wp2_with fail
      go_roundw
      case rel => exact ⟨k + 1, _, ba, bc, by (try rw [hw1]); go_num, by have := HKN.out; omega, rfl, HFIN⟩
      case measure => (try rw [hw1]); have := HKN.out; simp only [intOf]; omega
    · have hd1 : decide ((k : Int) < n) = false := by simp; omega
      have hd2 : decide (k < n) = false := by simp; omega
      have hkn : k = n := by omega
      have htk : ls.take k = ls := List.take_of_length_le (by rw [← HN.out]; omega)
      have HB0 : Hid (LoopB w wr F F [] w.heap.size m 0 (.slice aa m ac) (.slice none 0 0)) := Lib.hid (by
        have h1 := HI.out.own
        have h2 := HI.out.len
        rw [htk, ← HF.out] at h1 h2
        exact ⟨h1, by simpa [cells2] using World.ownsRow_nil _ _ _ _, h2, rfl, by omega, (fun q e => by cases e), Nat.le_refl _, by simp, HI.out.kept⟩)
      clear hlt hk hkn htk HI
      go_wp2_with fail
      go_loopw [3, 5] (fun va vo wx => ∃ (A O : List T2) (b m j : Nat) (pa : Option Addr) (pc : Nat) (oa : Option Addr) (oc : Nat), va = .slice pa m pc ∧ vo = .slice oa j oc ∧ Hid (LoopB w wx F A O b m j (.slice pa m pc) (.slice oa j oc))) (fun va _ _ => lenV va)
      case atStart => exact ⟨_, _, _, m, 0, aa, ac, none, 0, rfl, rfl, HB0⟩
      case round =>
        clear HB0
        obtain ⟨A, O, b, m, j, pa, pc, oa, oc, rfl, rfl, HI⟩ := hrel
        by_cases h0 : 0 < m
        · obtain ⟨pg, pc', e9, hb1, hb2⟩ := own_some HI.out.all h0
          simp only [Value.slice.injEq] at e9
          obtain ⟨rfl, _, rfl⟩ := e9
          have HRA : Hid (RT wr (.slice (some ⟨pg, 0, none⟩) m pc) A) := Lib.hid (by
            have h9 := HI.out.all
            rw [HI.out.lenA] at h9 ⊢
            exact RT.of_own h9)
          have HSZ : Hid (m ≤ 100000 ∧ j + 1 ≤ 100000) := Lib.hid (by have := HI.out.count; have := HS.out; omega)
          have HNE : Hid (A ≠ []) := Lib.hid (by
            intro e
            have := HI.out.lenA
            rw [e] at this
            simp at this
            omega)
          have HFI := Lib.hid (first_any _ A wr HRA.out (by rw [← HI.out.lenA]; exact HSZ.out.1))
          have hm0 : wrap64 (m : Int) = m := by have := HSZ.out; unfold wrap64; omega
          have hd1 : decide ((0 : Int) < m) = true := by simp; omega
          have hd2 : (0 : Int) < m := by omega
          have HMP := Lib.hid h0
          have HPG : Hid (b ≤ pg) := Lib.hid (own_block HI.out.all rfl).1
          clear h0 hb1 hb2
          go_wp2_with fail
          refine HFI.out.mono ?_
          rintro e w2 ⟨hp, hb2⟩
          rcases hp with ⟨hp, _⟩ | ⟨q, x, rfl, hfa⟩
          · exact absurd hp HNE.out
          · have hcell := HRA.out
            obtain ⟨a', c', e1, _, _, h5⟩ := hcell
            obtain ⟨g', o', e2, h6⟩ := h5 (by have := hfa.1; omega)
            simp only [Value.slice.injEq] at e1
            rw [← e1.1] at e2
            simp only [Option.some.injEq, Addr.mk.injEq, and_true] at e2
            obtain ⟨rfl, rfl⟩ := e2
            obtain ⟨k1, k2⟩ := h6 q x hfa.2.1
            have x0 : w2.cell? ⟨pg, q * 2, none⟩ = some (.int .i64 x.1) := by rw [Nat.zero_add] at k1; exact (hb2.cell (blk_of_cell k1)).trans k1
            have x1 : w2.cell? ⟨pg, q * 2 + 1, none⟩ = some (.int .i64 x.2) := by rw [Nat.zero_add] at k2; exact (hb2.cell (blk_of_cell k2)).trans k2
            have HFA := Lib.hid hfa
            have hqm : q < m := by have := hfa.1; rw [HI.out.lenA]; exact this
            have HQM := Lib.hid hqm
            have hq0 : (0 : Int) ≤ q := by omega
            have hq1 : (q : Int) < m := by omega
            have hq2 : decide ((q : Int) < 0) = false := by simp
            have HB2 := Lib.hid (th HI.out.kept (Nat.le_refl _) hb2)
            have HO2 := Lib.hid (own_keep HI.out.out (fun g hg => hb2.block g (own_low HI.out.out g hg)))
            have HA2 := Lib.hid (own_keep HI.out.all (fun g hg => hb2.block g (own_low HI.out.all g hg)))
            have HZ2 : Hid (wr.heap.size ≤ w2.heap.size) := Lib.hid hb2.size
            clear hfa hb2 e1 h5 h6 k1 k2 hqm
            go_wp2_with (at_builtin; refine wpList_append_own _ rfl _ _ 31 rfl w.heap.size 28 i0 (.agg #[.int .i64 0, .int .i64 0]) 2 16 hse hi hz0 hz1 hz2 rfl (by decide) _ _ _ rfl (HO2.out.alloc _) ⟨w2.heap.size, 0, none⟩ 1 1 [.int .i64 x.1, .int .i64 x.2] rfl rfl (cell_two_new _ _ _ _) (by simp [Value.oneCell']) (by unfold maxLen; have := HSZ.out; omega) (by have := HSZ.out; omega) (by have := HB2.out.size; simp; omega) ?_; intro v5 w5 hown5 hgrow5 _)
            obtain ⟨ba, bc, rfl, _, _⟩ := own_at hown5
            have ha5 := (HA2.out.alloc (.cells #[.int .i64 x.1, .int .i64 x.2] 28)).kept hgrow5 (.inr (fun e => by
              have : pg < b := HI.out.apart pg e.symm
              have := HPG.out
              omega))
            have HB5 : Hid (Below w.heap.size w w5) := Lib.hid ((al HB2.out (Nat.le_refl _) _).grown hgrow5 (by have := HB2.out.size; simp; omega) (fun q e => (own_block HO2.out e).1))
            have HO5 : Hid (w5.ownsRow w.heap.size 28 2 (.slice ba (j + 1) bc) (j + 1) (cells2 (O ++ [x]))) := Lib.hid (by rw [cells2_append]; exact hown5)
            have HR5 : Hid (RT w5 (.slice (some ⟨pg, 0, none⟩) m pc) A) := Lib.hid (by
              rw [HI.out.lenA] at ha5 ⊢
              exact RT.of_own ha5)
            have HOU := Lib.hid (out_any _ A q w5 HR5.out HFA.out.1 (by rw [← HI.out.lenA]; exact HSZ.out.1))
            clear hown5 hgrow5 ha5 x0 x1
            go_wp2_with fail
            refine HOU.out.mono ?_
            rintro e w6 ⟨vo, rfl, hown6, hb6⟩
            obtain ⟨na, nc, rfl, _, _⟩ := own_at hown6
            obtain ⟨mm, hmm⟩ : ∃ mm, mm = (outL A q).length := ⟨_, rfl⟩
            rw [← hmm] at hown6 ⊢
            have HFIN : Hid (LoopB w w6 F (outL A q) (O ++ [x]) w5.heap.size mm (j + 1) (.slice na mm nc) (.slice ba (j + 1) bc)) := Lib.hid (by
              have hlo := outL_len HFA.out.1
              have hc := HI.out.count
              have hla := HI.out.lenA
              have hso := HI.out.sorted
              rw [first_out HFA.out] at hso
              refine ⟨hown6, own_keep HO5.out (fun g hg => hb6.block g (own_low HO5.out g hg)), hmm, by simp [HI.out.lenO], by omega, own_low HO5.out, HB5.out.size, by rw [hso]; simp, th HB5.out (Nat.le_refl _) hb6⟩)
            have HMM : Hid (mm < m) := Lib.hid (by
              have hlo := outL_len HFA.out.1
              have hla := HI.out.lenA
              omega)
            clear hown6 hb6 hmm
            go_wp2_with fail
            go_roundw
            case rel => exact ⟨_, _, _, mm, j + 1, na, nc, ba, bc, rfl, rfl, HFIN⟩
            case measure => have := HMM.out; simp only [lenV]; omega
        · have hm0 : m = 0 := by omega
          subst hm0
          have hd1 : decide ((0 : Int) < ((0 : Nat) : Int)) = false := by simp
          clear h0
          go_wp2_with fail
          go_ret
          have hA : A = [] := List.eq_nil_of_length_eq_zero HI.out.lenA.symm
          have hso := HI.out.sorted
          rw [hA] at hso
          have hso2 : sortI F = O := by rw [hso]; simp [sortI]
          refine ⟨_, rfl, ?_, HI.out.kept⟩
          have h9 := HI.out.out
          rw [hso2, ← HI.out.lenO]
          exact h9
end Go.Proofs.Ytodjfebceljjgaa.U
