/- The contract of queue.Merge at things, by their ranks. -/
import Derived.Test.YtodjfebceljjgaaM5
namespace Go.Proofs.Ytodjfebceljjgaa.U
open Go.RowKit Q2

theorem Rests.put {ls : List (List T2)} {m : List Rs} {k : Nat} (h : Rests (ls.take k) m) {l : List T2} (hl : ls[k]? = some l) (z : Rs) (hzi : z.i = k) (hzl : z.l = l) : Rests (ls.take (k + 1)) (if l = [] then m else z :: m) := by
  have hk : k < ls.length := (List.getElem?_eq_some_iff.1 hl).1
  have hlt : ∀ x ∈ m, ∃ i : Nat, x.i = i ∧ i < k ∧ ls[i]? = some x.l ∧ x.l ≠ [] := fun x hx => by
    obtain ⟨i, k1, k2, k3⟩ := h.of x hx
    rw [List.getElem?_take] at k2
    split at k2
    · exact ⟨i, k1, by assumption, k2, k3⟩
    · cases k2
  have hof : ∀ x ∈ m, ∃ i : Nat, x.i = i ∧ (ls.take (k + 1))[i]? = some x.l ∧ x.l ≠ [] := fun x hx => by
    obtain ⟨i, k1, k2, k3, k4⟩ := hlt x hx
    exact ⟨i, k1, by rw [List.getElem?_take, if_pos (by omega)]; exact k3, k4⟩
  have hall : ∀ (i : Nat) q, i ≠ k → (ls.take (k + 1))[i]? = some q → q ≠ [] → ∃ x ∈ m, x.i = (i : Int) := fun i q hik hq hn => by
    rw [List.getElem?_take] at hq
    split at hq
    · exact h.all i q (by rw [List.getElem?_take, if_pos (by omega)]; exact hq) hn
    · cases hq
  by_cases e : l = []
  · rw [if_pos e]
    refine ⟨hof, fun i q hq hn => ?_, h.one⟩
    by_cases hik : i = k
    · subst hik
      rw [List.getElem?_take, if_pos (by omega), hl] at hq
      exact absurd ((Option.some.inj hq).symm.trans e) hn
    · exact hall i q hik hq hn
  · rw [if_neg e]
    refine ⟨fun x hx => ?_, fun i q hq hn => ?_, List.pairwise_cons.2 ⟨fun x hx => ?_, h.one⟩⟩
    · rcases List.mem_cons.1 hx with rfl | hx
      · exact ⟨k, hzi, by rw [List.getElem?_take, if_pos (by omega), hzl]; exact hl, by rw [hzl]; exact e⟩
      · exact hof x hx
    · by_cases hik : i = k
      · subst hik
        exact ⟨z, by simp, hzi⟩
      · obtain ⟨x, hx, e2⟩ := hall i q hik hq hn
        exact ⟨x, by simp [hx], e2⟩
    · obtain ⟨i, k1, k2, _⟩ := hlt x hx
      omega
theorem heap_set1 {w : World} {g : Nat} {a u : Value} {T : TypeId} (h : w.heap[g]? = some (.cells #[a] T (0, 0))) : (w.setCell ⟨g, 0, none⟩ u).heap[g]? = some (.cells #[u] T (0, 0)) := by simp [World.setCell, Array.getElem?_modify, h]
theorem rests_nil : Rests [] [] := ⟨fun x hx => by simp at hx, fun i l hl => by simp at hl, List.Pairwise.nil⟩
set_option maxRecDepth 10000 in
theorem calm_new (w : World) : Calls Try.prog 27 #[.func (.func 10) #[] #[]] w fun e w' => e = .returned (.func (.func 50) #[] #[.pointer (some ⟨w.heap.size, 0, none⟩)]) ∧ w' = w.alloc (.cells #[.func (.func 10) #[] #[]] 29) := by
  have hmf : ∀ (fn : Fn) (first cap : Array Value) (w : World), (Instr.makeFunc fn first cap).run Try.prog w = .ok (.func fn first cap) w := fun _ _ _ _ => rfl
  go_enter Try.func27, Try.ntmps27
  go_wp2
  go_ret
  exact ⟨rfl, rfl⟩
/-- The lists so far are put. -/
structure PutI (ob : Nat) (wb wr : World) (ls : List (List T2)) (k : Nat) (m : List Rs) (p : Nat) (v : Value) : Prop where
  qs : QS (E2 wb (madeE ob wb)) wr (wb.heap.size + 1) (wb.heap.size + 1) v m p
  rests : Rests (ls.take k) m
  kept : Kept (fun i => wb.heap.size + 1 ≤ i) (madeE ob wb) wr
  turn : p ≤ k
  many : m.length ≤ k
def MergePost (ls : List (List T2)) (w : World) (e : Ending) (w' : World) : Prop :=
  Below w.heap.size w w' ∧ ((ls.all risesB = false ∧ e = .returned (.tuple #[.slice none 0 0, .int .i64 14])) ∨ (ls.all risesB = true ∧ ∃ vo, e = .returned (.tuple #[vo, .int .i64 0]) ∧ w'.ownsRow w.heap.size 28 2 vo (sortI ls.flatten).length (cells2 (sortI ls.flatten))))
theorem own_base {w : World} {base base' size n : Nat} {e : TypeId} {v : Value} {xs : List Value} (h : w.ownsRow base e size v n xs) (hb : base' ≤ base) : w.ownsRow base' e size v n xs := by
  refine ⟨h.1, ?_⟩
  rcases h.2 with h2 | ⟨g, cap, cur, rfl, k1, k2⟩
  · exact .inl h2
  · exact .inr ⟨g, cap, cur, rfl, Nat.le_trans hb k1, k2⟩
set_option maxHeartbeats 2000000 in
set_option maxRecDepth 10000 in
theorem merge_any (v : Value) (ls : List (List T2)) (w : World) (h : LT w v ls) (hn : ls.length ≤ 900) (hs : ls.flatten.length ≤ 100000) : Calls Try.prog 20 #[.func (.func 10) #[] #[], v] w fun e w' => MergePost ls w e w' := by
  have hmf : ∀ (fn : Fn) (first cap : Array Value) (w : World), (Instr.makeFunc fn first cap).run Try.prog w = .ok (.func fn first cap) w := fun _ _ _ _ => rfl
  have hef := eql_func
  obtain ⟨wb, hwb⟩ : ∃ wb, wb = ((w.alloc (.cells #[.func (.func 10) #[] #[]] 29)).alloc (.cells #[.func (.func 10) #[] #[]] 29)).setCell ⟨w.heap.size, 0, none⟩ (.func (.func 50) #[] #[.pointer (some ⟨w.heap.size + 1, 0, none⟩)]) := ⟨_, rfl⟩
  have hst : ∀ md, (store ⟨w.heap.size, 0, none⟩ (.func (.func 50) #[] #[.pointer (some ⟨w.heap.size + 1, 0, none⟩)]) md).run Try.prog ((w.alloc (.cells #[.func (.func 10) #[] #[]] 29)).alloc (.cells #[.func (.func 10) #[] #[]] 29)) = .ok () wb := fun md => by
    rw [hwb]
    exact (show Rw w.heap.size 1 _ from ⟨_, _, heap_new1 _ _ _, by simp⟩).store (by omega) rfl md
  have hbb : Below w.heap.size w wb := by rw [hwb]; exact (two_new _ _ _).setCell (Nat.le_refl _) _
  have hsz : wb.heap.size = w.heap.size + 2 := by rw [hwb]; simp
  have hclo : Clo2 w.heap.size (w.heap.size + 1) wb := by
    have e1 : wb.heap[w.heap.size]? = some (.cells #[.func (.func 50) #[] #[.pointer (some ⟨w.heap.size + 1, 0, none⟩)]] 29 (0, 0)) := by
      rw [hwb]
      exact heap_set1 (heap_new1 w _ _)
    have e2 : wb.heap[w.heap.size + 1]? = some (.cells #[.func (.func 10) #[] #[]] 29 (0, 0)) := by
      rw [hwb, Below.heap_setCell _ _ _ _ (by simp)]
      have e3 : (w.alloc (.cells #[.func (.func 10) #[] #[]] 29)).heap.size = w.heap.size + 1 := by simp
      rw [← e3]
      exact heap_new0 _ _
    exact ⟨by rw [Lib.cell_of_heap e1]; rfl, by rw [Lib.cell_of_heap e2]; rfl⟩
  have HBB := Lib.hid hbb
  have HSZ := Lib.hid hsz
  have HCLO := Lib.hid hclo
  have HLB := Lib.hid (h.below hbb)
  have HCON := Lib.hid (contains_any w.heap.size (w.heap.size + 1) v ls wb (h.below hbb) hclo.ho hclo.hc)
  have HS := Lib.hid hs
  have HN := Lib.hid hn
  obtain ⟨a, cp, rfl, h1, h2, h3⟩ := h
  have HC2 := Lib.hid h2
  obtain ⟨n, hn2⟩ : ∃ n, n = ls.length := ⟨_, rfl⟩
  have hn0 : wrap64 (n : Int) = n := by unfold maxLen at h2; unfold wrap64; omega
  have HNN := Lib.hid hn2
  rw [← hn2] at HCON HLB ⊢
  clear hn hs h1 h2 h3 hbb hsz hclo hn2
  cases hall : ls.all risesB with
  | false =>
    rw [hall] at HCON
    have HALL := Lib.hid hall
    clear hall hwb
    go_enter Try.func20, Try.ntmps20
    go_wp2_with (first | (go_at_call 27; refine (calm_new _).mono ?_; rintro e w1 ⟨rfl, rfl⟩) | (go_at_call 33; refine HCON.out.mono ?_; rintro e w2 ⟨rfl, hb2⟩))
    go_ret2
    exact ⟨HBB.out.trans (hb2.mono (by have := HSZ.out; omega)), .inl ⟨HALL.out, rfl⟩⟩
  | true =>
    rw [hall] at HCON
    have HALL : Hid (∀ q ∈ ls, risesB q = true) := Lib.hid (List.all_eq_true.1 hall)
    have HALL2 := Lib.hid hall
    clear hall hwb
    go_enter Try.func20, Try.ntmps20
    go_wp2_with (first | (go_at_call 27; refine (calm_new _).mono ?_; rintro e w1 ⟨rfl, rfl⟩) | (go_at_call 33; refine HCON.out.mono ?_; rintro e w2 ⟨rfl, hb2⟩; have HB2 := Lib.hid hb2; have HLB2 := Lib.hid (HLB.out.below hb2); have HCL2 : Hid (Clo2 w.heap.size (w.heap.size + 1) w2) := Lib.hid ⟨(hb2.cell (blk_of_cell HCLO.out.ho)).trans HCLO.out.ho, (hb2.cell (blk_of_cell HCLO.out.hc)).trans HCLO.out.hc⟩; clear hb2) | (go_at_call 34; refine (empty2_any _ _).mono ?_; rintro e w3 ⟨rfl, rfl⟩))
    have HBW : Hid (Below w.heap.size w w2) := Lib.hid (HBB.out.trans (HB2.out.mono (by have := HSZ.out; omega)))
    have HP0 : Hid (PutI w.heap.size w2 (madeE w.heap.size w2) ls 0 [] 0 (.slice none 0 0)) := Lib.hid ⟨qat2_new w.heap.size w2 (w2.heap.size + 1) (by omega), by simpa using rests_nil, Kept.refl _ _, Nat.le_refl _, Nat.le_refl _⟩
    have HWK : Hid (∀ k : Nat, k < n → wrap64 ((k : Int) + 1) = (k : Int) + 1) := Lib.hid (fun k hk => by have := HN.out; have := HNN.out; unfold wrap64; omega)
    obtain ⟨qb, hqb⟩ : ∃ qb, qb = w2.heap.size + 1 := ⟨_, rfl⟩
    rw [← hqb]
    have HQB := Lib.hid hqb
    clear hqb
    go_loopw [22] (fun i wr => ∃ (k : Nat) (m : List Rs) (p : Nat) (v : Value), i = .int .i64 k ∧ k ≤ n ∧ Hid (PutI w.heap.size w2 wr ls k m p v)) (fun i _ => n - (intOf i).toNat)
    case atStart => exact ⟨0, [], 0, _, rfl, by omega, HP0⟩
    case round =>
      clear HP0
      obtain ⟨k, m, p, v, rfl, hk, HI⟩ := hrel
      by_cases hlt : k < n
      · obtain ⟨l, hl⟩ : ∃ l, ls[k]? = some l := ⟨_, List.getElem?_eq_getElem (by rw [← HNN.out]; exact hlt)⟩
        obtain ⟨a', c', e, h1, h2, h3⟩ := HLB2.out
        obtain ⟨g, o, e9, h5⟩ := h3 (by rw [← HNN.out]; omega)
        simp only [Value.slice.injEq] at e
        obtain ⟨e1, e2, e3⟩ := e
        clear e2 e3
        have e10 : a = some ⟨g, o, none⟩ := e1.trans e9
        subst e10
        obtain ⟨u, k1, k2⟩ := h5 k l hl
        have c1 : wr.cell? ⟨g, o + k, none⟩ = some u := HI.out.qs.cellOf k1
        have HRT := Lib.hid k2
        obtain ⟨ua, uc, rfl, h6, h7, _⟩ := k2
        have hw1 := HWK.out k hlt
        have hi0 : (0 : Int) ≤ k := by omega
        have hi1 : (k : Int) < n := by omega
        have hd1 : decide ((k : Int) < n) = true := by simp; omega
        have HL1 := Lib.hid hl
        have HLT := Lib.hid hlt
        clear e1 e9 h1 h2 h3 h5 k1 hl hk
        cases hlc : l with
        | nil =>
          rw [hlc] at HL1 c1
          have HNX : Hid (Rests (ls.take (k + 1)) m) := Lib.hid (by
            have := HI.out.rests.put HL1.out ⟨none, 0, 0, [], (k : Int), 0⟩ rfl rfl
            simpa using this)
          clear hlc h6 h7
          go_wp2_with fail
          go_roundw
          case rel => exact ⟨k + 1, m, p, v, by rw [hw1]; go_num, by have := HLT.out; omega, Lib.hid ⟨HI.out.qs, HNX.out, HI.out.kept, by have := HI.out.turn; omega, by have := HI.out.many; omega⟩⟩
          case measure => rw [hw1]; have := HLT.out; simp only [intOf]; omega
        | cons z t =>
          have hlne : l ≠ [] := by rw [hlc]; simp
          have hl0 : (0 : Int) < (l.length : Int) := by rw [hlc, List.length_cons]; omega
          have hl1 : 0 < l.length := by rw [hlc]; simp
          have hlz : ((l.length : Int) == 0) = false := by rw [beq_eq_false_iff_ne]; omega
          have hd2 : decide ((0 : Int) < (l.length : Int)) = true := by simp; omega
          have HPUT := Lib.hid (put2 HCL2.out HI.out.qs (by have := HI.out.many; have := HN.out; have := HNN.out; omega) (by have := HI.out.turn; have := HN.out; have := HNN.out; omega) ua l.length uc l (k : Int) HRT.out hlne)
          rw [← HQB.out] at HPUT
          have HNX : Hid (Rests (ls.take (k + 1)) (⟨ua, l.length, uc, l, (k : Int), (p : Int)⟩ :: m)) := Lib.hid (by
            have := HI.out.rests.put HL1.out ⟨ua, l.length, uc, l, (k : Int), (p : Int)⟩ rfl rfl
            rw [if_neg hlne] at this
            exact this)
          clear hlc h6 h7 hlne
          go_wp2_with fail
          (with_reducible refine HPUT.out.mono ?_)
          rintro e w4 ⟨rfl, v4, hq4, hk4, hv4⟩
          rw [HQB.out] at hq4 hk4
          have HFIN : Hid (PutI w.heap.size w2 w4 ls (k + 1) (⟨ua, l.length, uc, l, (k : Int), (p : Int)⟩ :: m) (p + 1) v4) := Lib.hid ⟨hq4, HNX.out, HI.out.kept.trans hk4 (fun i _ e => by
            rcases e with e | e
            · have e : i = w2.heap.size + 1 := e
              show w2.heap.size + 1 ≤ i
              omega
            · exact (Q2.QS.own HI.out.qs e).1), by have := HI.out.turn; omega, by have := HI.out.many; simp; omega⟩
          clear hq4 hk4 hv4
          go_wp2_with fail
          go_roundw
          case rel => exact ⟨k + 1, _, _, v4, by rw [hw1]; go_num, by have := HLT.out; omega, HFIN⟩
          case measure => rw [hw1]; have := HLT.out; simp only [intOf]; omega
      · have hd1 : decide ((k : Int) < n) = false := by simp; omega
        have hd2 : decide (k < n) = false := by simp; omega
        have htk : ls.take k = ls := List.take_of_length_le (by rw [← HNN.out]; omega)
        have HRE := HI.out.rests
        rw [htk] at HRE
        have HLEFT := Lib.hid (left_any w.heap.size (w.heap.size + 1) wr w2 HCL2.out v ls m p HI.out.qs HRE HALL.out (by have := HI.out.turn; have := HN.out; have := HNN.out; omega) (by have := HI.out.many; have := HN.out; have := HNN.out; omega) HS.out)
        rw [← HQB.out] at HLEFT
        clear hlt hk htk HRE
        go_wp2_with (go_at_call 39; refine HLEFT.out.mono ?_; rintro e w4 ⟨vo, rfl, hown, hk4, hsn⟩)
        go_ret2
        refine ⟨?_, .inr ⟨HALL2.out, vo, rfl, ?_⟩⟩
        · have hkm : Kept (fun i => w2.heap.size + 1 ≤ i) (madeE w.heap.size w2) w4 := HI.out.kept.trans hk4 (fun i _ e => by rw [HQB.out] at e; exact e)
          have hb4 : Below w2.heap.size (madeE w.heap.size w2) w4 := hkm.below (by rw [made_size]; omega) (fun k hk e => by omega)
          exact HBW.out.trans (((made_below w.heap.size w2).trans hb4).mono HBW.out.size)
        · exact own_base hown (by
            have h1 := HI.out.kept.size
            rw [made_size] at h1
            have := HBW.out.size
            omega)
end Go.Proofs.Ytodjfebceljjgaa.U
