/- The document's Out: a list without the thing at a place. -/
import Derived.Test.YtodjfebceljjgaaF1
namespace Go.Proofs.Ytodjfebceljjgaa.U
open Go.RowKit

theorem cells2_take (l : List T2) (k : Nat) : (cells2 l).take (k * 2) = cells2 (l.take k) := by
  induction l generalizing k with
  | nil => simp [cells2]
  | cons y r ih =>
    have e : ∀ (z : T2) q, cells2 (z :: q) = .int .i64 z.1 :: .int .i64 z.2 :: cells2 q := fun _ _ => rfl
    cases k with
    | zero => simp [cells2]
    | succ k => rw [List.take_succ_cons, e, e, show (k + 1) * 2 = k * 2 + 1 + 1 by omega, List.take_succ_cons, List.take_succ_cons, ih]
theorem cells2_one (l : List T2) : ∀ u ∈ cells2 l, u.oneCell' = true := by
  intro u hu
  obtain ⟨x, _, hx⟩ := List.mem_flatMap.1 hu
  simp at hx
  rcases hx with rfl | rfl <;> rfl
/-- The cells of a list from a place on. -/
theorem RT.news {w : World} {g o n c : Nat} {l : List T2} (h : RT w (.slice (some ⟨g, o, none⟩) n c) l) (at_ m : Nat) : ∀ j u, (cells2 ((l.drop at_).take m))[j]? = some u → w.cell? ((⟨g, o + at_ * 2, none⟩ : Addr).add j) = some u := by
  intro j u hu
  have hjl : j < (cells2 ((l.drop at_).take m)).length := (List.getElem?_eq_some_iff.1 hu).1
  rw [cells2_len, List.length_take, List.length_drop] at hjl
  have h5 : ∀ i x, l[i]? = some x → w.cell? ⟨g, o + i * 2, none⟩ = some (.int .i64 x.1) ∧ w.cell? ⟨g, o + i * 2 + 1, none⟩ = some (.int .i64 x.2) := by
    obtain ⟨a', c', e, h1, h2, h3⟩ := h
    obtain ⟨g', o', e9, h5⟩ := h3 (by omega)
    injection e with e1 _ _
    have e10 := e1.trans e9
    simp only [Option.some.injEq, Addr.mk.injEq, and_true] at e10
    obtain ⟨rfl, rfl⟩ := e10
    exact h5
  have hx : ∃ x, ((l.drop at_).take m)[j / 2]? = some x := ⟨_, List.getElem?_eq_getElem (by rw [List.length_take, List.length_drop]; omega)⟩
  obtain ⟨x, hx⟩ := hx
  have hx2 : l[at_ + j / 2]? = some x := by
    rw [List.getElem?_take] at hx
    split at hx
    · rwa [List.getElem?_drop] at hx
    · cases hx
  obtain ⟨k1, k2⟩ := h5 _ _ hx2
  obtain ⟨q1, q2⟩ := cells2_get _ _ _ hx
  have ea : (⟨g, o + at_ * 2, none⟩ : Addr).add j = ⟨g, o + at_ * 2 + j, none⟩ := by unfold Addr.add; split <;> simp_all
  rw [ea]
  rcases Nat.mod_two_eq_zero_or_one j with hj | hj
  · rw [show j = j / 2 * 2 by omega, q1] at hu
    rw [← Option.some.inj hu, show o + at_ * 2 + j = o + (at_ + j / 2) * 2 by omega]
    exact k1
  · rw [show j = j / 2 * 2 + 1 by omega, q2] at hu
    rw [← Option.some.inj hu, show o + at_ * 2 + j = o + (at_ + j / 2) * 2 + 1 by omega]
    exact k2
def outL (l : List T2) (k : Nat) : List T2 := l.take k ++ l.drop (k + 1)
theorem outL_len {l : List T2} {k : Nat} (h : k < l.length) : (outL l k).length + 1 = l.length := by unfold outL; simp; omega
set_option maxHeartbeats 2000000 in
set_option maxRecDepth 10000 in
theorem out_any (v : Value) (l : List T2) (k : Nat) (w : World) (h : RT w v l) (hk : k < l.length) (hl : l.length ≤ 100000) : Calls Try.prog 17 #[v, .int .i64 k] w fun e w' => ∃ vo, e = .returned vo ∧ w'.ownsRow w.heap.size 28 2 vo (outL l k).length (cells2 (outL l k)) ∧ Below w.heap.size w w' := by
  have hcp := h
  obtain ⟨a, c, rfl, h1, h2, h3⟩ := hcp
  obtain ⟨g, o, rfl, _⟩ := h3 (by omega)
  have HR := Lib.hid h
  obtain ⟨i0, hi, hz0, hz1, hz2⟩ := info_parts infoTh
  have hse : Try.prog.underlying 31 = some (.slice 28) := Try.underlying31
  obtain ⟨n, hn⟩ : ∃ n, n = l.length := ⟨_, rfl⟩
  have HN := Lib.hid hn
  have hw1 : wrap64 ((k : Int) + 1) = ((k + 1 : Nat) : Int) := by unfold wrap64; omega
  have hi0 : (0 : Int) ≤ k := by omega
  have hi1 : (k : Int) ≤ c := by omega
  have hi2 : ((k + 1 : Nat) : Int) ≤ n := by omega
  have hi3 : (0 : Int) ≤ ((k + 1 : Nat) : Int) := by omega
  have hi4 : (k : Int) ≤ n := by omega
  have hi5 : (k : Int) + 1 ≤ n := by omega
  have hnc : n ≤ c := by omega
  have HT1 : Hid ((cells2 (l.take k)).length = k * 2) := Lib.hid (by rw [cells2_len, List.length_take]; omega)
  have HT2 : Hid ((cells2 (l.drop (k + 1))).length = (n - (k + 1)) * 2) := Lib.hid (by rw [cells2_len, List.length_drop, ← hn])
  have HW1 : Hid (∀ j u, (cells2 (l.take k))[j]? = some u → w.cell? ((⟨g, o, none⟩ : Addr).add j) = some u) := Lib.hid (by
    have := RT.news h 0 k
    simpa using this)
  have HW2 := Lib.hid (RT.news h (k + 1) (n - (k + 1)))
  rw [← hn] at HR ⊢
  rw [show (l.drop (k + 1)).take (n - (k + 1)) = l.drop (k + 1) from List.take_of_length_le (by rw [List.length_drop, ← hn]; exact Nat.le_refl _)] at HW2
  have HLN := Lib.hid (show n ≤ 100000 by omega)
  clear h h1 h2 h3 hn
  have HKL := Lib.hid (show k < n by omega)
  by_cases hck : k + 1 = c
  · have HT9 : Hid ((cells2 (l.drop (k + 1))).length = 0 * 2) := Lib.hid (by have := HT2.out; omega)
    have HC9 := Lib.hid hck
    have HNC := Lib.hid hnc
    have HW9 : Hid (∀ j u, (cells2 (l.drop (k + 1)))[j]? = some u → w.cell? ((⟨g, o, none⟩ : Addr).add j) = some u) := Lib.hid (fun j u hu => by
      have h1 := (List.getElem?_eq_some_iff.1 hu).1
      have h2 := HT2.out
      omega)
    go_enter Try.func17, Try.ntmps17
    go_wp2_with (first | (at_builtin; refine wpList_append_own _ rfl _ _ 31 rfl w.heap.size 28 i0 (.agg #[.int .i64 0, .int .i64 0]) 2 16 hse hi hz0 hz1 hz2 rfl (by decide) (.slice none 0 0) 0 [] rfl (World.ownsRow_nil _ _ _ _) ⟨g, o, none⟩ k c (cells2 (l.take k)) rfl HT1.out HW1.out (cells2_one _) (by unfold maxLen; have := HLN.out; omega) (by have := HLN.out; omega) (Nat.le_refl _) ?_; intro v1 w1 hown1 hgrow1 _; rw [Nat.zero_add, List.nil_append] at hown1; obtain ⟨a1, c1, rfl, _, _⟩ := own_at hown1; have HO1 := Lib.hid hown1; have HB1 : Hid (Below w.heap.size w w1) := Lib.hid ((Below.refl _ w).grown hgrow1 (Nat.le_refl _) (fun q e => by cases e)); clear hown1 hgrow1) | (at_builtin; refine wpList_append_own _ rfl _ _ 31 rfl w.heap.size 28 i0 (.agg #[.int .i64 0, .int .i64 0]) 2 16 hse hi hz0 hz1 hz2 rfl (by decide) _ _ _ rfl HO1.out ⟨g, o, none⟩ 0 (0) (cells2 (l.drop (k + 1))) rfl HT9.out (fun j u hu => ((HB1.out.cell (blk_of_cell (HW9.out j u hu))).trans (HW9.out j u hu))) (cells2_one _) (by unfold maxLen; have := HLN.out; omega) (by have := HLN.out; omega) HB1.out.size ?_; intro v2 w2 hown2 hgrow2 _))
    obtain ⟨a2, c2, rfl, _, _⟩ := own_at hown2
    have HB2 : Hid (Below w.heap.size w w2) := Lib.hid (HB1.out.grown hgrow2 HB1.out.size (fun q e => (own_block HO1.out e).1))
    have HO2 := Lib.hid hown2
    clear hown2 hgrow2
    go_wp2_with fail
    go_ret
    refine ⟨_, rfl, ?_, HB2.out⟩
    have h9 := HO2.out
    rw [← cells2_append] at h9
    have e9 : (outL l k).length = k + 0 := by
      have := HKL.out
      unfold outL
      rw [List.length_append, List.length_take, List.length_drop, ← HN.out]
      have := HC9.out
      have := HNC.out
      omega
    rw [e9]
    exact h9
  · have HW9 := HW2
    have hck2 : ¬ c = k + 1 := fun e => hck e.symm
    go_enter Try.func17, Try.ntmps17
    go_wp2_with (first | (at_builtin; refine wpList_append_own _ rfl _ _ 31 rfl w.heap.size 28 i0 (.agg #[.int .i64 0, .int .i64 0]) 2 16 hse hi hz0 hz1 hz2 rfl (by decide) (.slice none 0 0) 0 [] rfl (World.ownsRow_nil _ _ _ _) ⟨g, o, none⟩ k c (cells2 (l.take k)) rfl HT1.out HW1.out (cells2_one _) (by unfold maxLen; have := HLN.out; omega) (by have := HLN.out; omega) (Nat.le_refl _) ?_; intro v1 w1 hown1 hgrow1 _; rw [Nat.zero_add, List.nil_append] at hown1; obtain ⟨a1, c1, rfl, _, _⟩ := own_at hown1; have HO1 := Lib.hid hown1; have HB1 : Hid (Below w.heap.size w w1) := Lib.hid ((Below.refl _ w).grown hgrow1 (Nat.le_refl _) (fun q e => by cases e)); clear hown1 hgrow1) | (at_builtin; refine wpList_append_own _ rfl _ _ 31 rfl w.heap.size 28 i0 (.agg #[.int .i64 0, .int .i64 0]) 2 16 hse hi hz0 hz1 hz2 rfl (by decide) _ _ _ rfl HO1.out ⟨g, o + (k + 1) * 2, none⟩ (n - (k + 1)) (c - (k + 1)) (cells2 (l.drop (k + 1))) rfl HT2.out (fun j u hu => ((HB1.out.cell (blk_of_cell (HW9.out j u hu))).trans (HW9.out j u hu))) (cells2_one _) (by unfold maxLen; have := HLN.out; omega) (by have := HLN.out; omega) HB1.out.size ?_; intro v2 w2 hown2 hgrow2 _))
    obtain ⟨a2, c2, rfl, _, _⟩ := own_at hown2
    have HB2 : Hid (Below w.heap.size w w2) := Lib.hid (HB1.out.grown hgrow2 HB1.out.size (fun q e => (own_block HO1.out e).1))
    have HO2 := Lib.hid hown2
    clear hown2 hgrow2
    go_wp2_with fail
    go_ret
    refine ⟨_, rfl, ?_, HB2.out⟩
    have h9 := HO2.out
    rw [← cells2_append] at h9
    have e9 : (outL l k).length = k + (n - (k + 1)) := by
      have := HKL.out
      unfold outL
      rw [List.length_append, List.length_take, List.length_drop, ← HN.out]
      omega
    rw [e9]
    exact h9
end Go.Proofs.Ytodjfebceljjgaa.U
