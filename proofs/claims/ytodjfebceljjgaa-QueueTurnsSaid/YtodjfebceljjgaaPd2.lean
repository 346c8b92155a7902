/- What a pile's Pop does. -/
import Derived.Test.YtodjfebceljjgaaPc2
import Derived.Deep.Cut
namespace Go.Proofs.Ytodjfebceljjgaa.U.Q2
open Go.RowKit

variable {α : Type}
theorem own_cut {w : World} {base size n m c g : Nat} {e : TypeId} {xs : List Value} (h : w.ownsRow base e size (.slice (some ⟨g, 0, none⟩) n c) n xs) (hm : m ≤ n) : w.ownsRow base e size (.slice (some ⟨g, 0, none⟩) m c) m (xs.take (m * size)) := by
  have hms : m * size ≤ n * size := Nat.mul_le_mul_right _ hm
  refine ⟨by rw [List.length_take, h.1]; omega, ?_⟩
  rcases h.2 with ⟨h1, h2⟩ | ⟨g', cap, cur, hv, hb, hg, h3, h4, h5, h6⟩
  · simp at h1
  · injection hv with e1 e2 e3
    simp only [Option.some.injEq, Addr.mk.injEq, and_true] at e1
    subst e1 e3
    refine .inr ⟨g, c, cur, rfl, hb, hg, by omega, h4, h5, ?_⟩
    rw [← h6, List.take_take, Nat.min_eq_left hms]
theorem take_set3 (l : List Value) (k : Nat) (a b c : Value) : (((l.set k a).set (k + 1) b).set (k + 2) c).take k = l.take k := by
  apply List.ext_getElem?
  intro i
  rw [List.getElem?_take, List.getElem?_take]
  split
  · rw [List.getElem?_set_ne (by omega), List.getElem?_set_ne (by omega), List.getElem?_set_ne (by omega)]
  · rfl
/-- One less, and the row put in its field. -/
theorem QAt.shrink {E : En α} {w : World} {base qb p g n c : Nat} {v a b d : Value} {xs : Array α} (h : QAt E w base qb v xs p) (hv : v = .slice (some ⟨g, 0, none⟩) (n + 1) c) (hn : xs.size = n + 1) :
    QAt E ((((w.setCell ⟨g, n * 3, none⟩ a).setCell ⟨g, n * 3 + 1, none⟩ b).setCell ⟨g, n * 3 + 2, none⟩ d).setCell ⟨qb, 0, none⟩ (.slice (some ⟨g, 0, none⟩) n c)) base qb (.slice (some ⟨g, 0, none⟩) n c) xs.pop p ∧
      Kept (SQ qb v) w ((((w.setCell ⟨g, n * 3, none⟩ a).setCell ⟨g, n * 3 + 1, none⟩ b).setCell ⟨g, n * 3 + 2, none⟩ d).setCell ⟨qb, 0, none⟩ (.slice (some ⟨g, 0, none⟩) n c)) := by
  have hg : v.ownBlock = some g := by rw [hv]; rfl
  have hne : g ≠ qb := h.ne hg
  obtain ⟨W4, hW4⟩ : ∃ W4, W4 = ((w.setCell ⟨g, n * 3, none⟩ a).setCell ⟨g, n * 3 + 1, none⟩ b).setCell ⟨g, n * 3 + 2, none⟩ d := ⟨_, rfl⟩
  have heap : ∀ j, j ≠ g → W4.heap[j]? = w.heap[j]? := fun j hj => by
    rw [hW4, Below.heap_setCell _ _ _ _ (by simpa using hj), Below.heap_setCell _ _ _ _ (by simpa using hj), Below.heap_setCell _ _ _ _ (by simpa using hj)]
  have k4 : Kept (SQ qb v) w W4 := by
    rw [hW4]
    exact ((((Kept.refl _ w).setCell (.inr (.inr hg)) _).setCell (.inr (.inr hg)) _).setCell (.inr (.inr hg)) _)
  rw [← hW4]
  have k5 : Kept (SQ qb v) w (W4.setCell ⟨qb, 0, none⟩ (.slice (some ⟨g, 0, none⟩) n c)) := k4.setCell (.inr (.inl rfl)) _
  have hbox := (heap qb (Ne.symm hne)).trans h.box
  have htl : xs.pop.toList = xs.toList.take n := by
    rw [Array.toList_pop, List.dropLast_eq_take]
    simp [hn]
  refine ⟨⟨?_, h.low, ?_, Nat.le_trans h.size0 k5.size, h.dlt, fun k hd => ?_, ⟨h.apart.1, fun g' e => h.apart.2 g' (by rw [hg]; exact e)⟩, fun y hy => ?_⟩, k5⟩
  · simp [World.setCell, Array.getElem?_modify, hbox]
  · have h1 := h.row
    rw [hv, hn] at h1
    have h2 := own_upd (i := n * 3 + 2) (u := d) (own_upd (i := n * 3 + 1) (u := b) (own_upd (i := n * 3) (u := a) h1))
    rw [← hW4] at h2
    have h3 := own_cut h2 (show n ≤ n + 1 by omega)
    rw [take_set3, cellsR_take, ← htl] at h3
    rw [Array.size_pop, hn, Nat.add_sub_cancel]
    exact h3.kept (grownBy_setAt W4 qb 0 _) (.inr (fun e => hne (Option.some.inj e)))
  · have hk := h.dlt k hd
    have h0 := h.size0
    exact (k5.block k (by omega) (fun e => by
      rcases e with e | e
      · exact h.apart.1 (e ▸ hd)
      · exact h.apart.2 k e hd)).trans (h.snap k hd)
  · rw [htl] at hy
    exact h.oks y (List.mem_of_mem_take hy)
variable [Inhabited α]
theorem clearT (g k cp : Nat) (ty : TypeId) (W : World) (h : Rw g (k * 3 + 3) W) : (Builtin.clear_ #[105] ty #[.slice (some ⟨g, k * 3, none⟩) 1 cp]).run Try.prog W = .ok (.tuple #[]) (((W.setCell ⟨g, k * 3, none⟩ (.slice none 0 0)).setCell ⟨g, k * 3 + 1, none⟩ (.int .i64 0)).setCell ⟨g, k * 3 + 2, none⟩ (.int .i64 0)) := by
  have hse : Try.prog.underlying 105 = some (.slice 103) := Try.underlying105
  obtain ⟨i0, hi, hz0, hz1, hz2⟩ := info_parts infoT
  have e1 : ∀ m, (store ⟨g, k * 3, none⟩ (.slice none 0 0) m).run Try.prog W = .ok () (W.setCell ⟨g, k * 3, none⟩ (.slice none 0 0)) := fun m => h.store (by omega) rfl m
  have e2 : ∀ m, (store ⟨g, k * 3 + 1, none⟩ (.int .i64 0) m).run Try.prog (W.setCell ⟨g, k * 3, none⟩ (.slice none 0 0)) = .ok () ((W.setCell ⟨g, k * 3, none⟩ (.slice none 0 0)).setCell ⟨g, k * 3 + 1, none⟩ (.int .i64 0)) := fun m => (h.set _ _ _).store (by omega) rfl m
  have e3 : ∀ m, (store ⟨g, k * 3 + 2, none⟩ (.int .i64 0) m).run Try.prog ((W.setCell ⟨g, k * 3, none⟩ (.slice none 0 0)).setCell ⟨g, k * 3 + 1, none⟩ (.int .i64 0)) = .ok () (((W.setCell ⟨g, k * 3, none⟩ (.slice none 0 0)).setCell ⟨g, k * 3 + 1, none⟩ (.int .i64 0)).setCell ⟨g, k * 3 + 2, none⟩ (.int .i64 0)) := fun m => ((h.set _ _ _).set _ _ _).store (by omega) rfl m
  have a1 : ∀ j, (⟨g, k * 3, none⟩ : Addr).add j = ⟨g, k * 3 + j, none⟩ := fun j => by unfold Addr.add; split <;> simp_all
  have hzc : (Builtin.zeroCells (Value.agg #[.slice none 0 0, .int .i64 0, .int .i64 0]).cells 1).toList = ([(.slice none 0 0), .int .i64 0, .int .i64 0] : List Value) := by simp [Builtin.zeroCells, Value.cells, Array.range_succ]
  have hzv : (zeroValue 103).run Try.prog W = .ok (.agg #[.slice none 0 0, .int .i64 0, .int .i64 0]) W := by kernel_rfl
  simp [Builtin.clear_, run_underlying hse, hzv, hzc, storeCells, a1, e1, e2, e3]
set_option maxHeartbeats 4000000 in
set_option maxRecDepth 10000 in
theorem pop_any (E : En α) (h1 : OneC E) (base qb p n : Nat) (v : Value) (w0 : World) (xs : Array α) (w : World) (h : Iq E w0 base qb v p xs w) (hsz : xs.size = n + 1) (hmax : n < 1000000) :
    Calls Try.prog 97 #[.pointer (some ⟨qb, 0, none⟩)] w fun e w' => e = .returned (.iface 103 (.agg #[E.e0 xs[n]!, E.e1 xs[n]!, E.e2 xs[n]!])) ∧ FQ E w0 base qb v p xs.pop w' := by
  obtain ⟨g, c, hv, hc1, hc2⟩ := own_some h.1.row (by omega)
  obtain ⟨x, hx⟩ : ∃ x, x = xs[n]! := ⟨_, rfl⟩
  have hx1 : xs.toList[n]? = some x := by rw [hx, getElem!_pos xs n (by omega)]; simp [hsz]
  rw [← hx]
  rw [hsz] at hv hc1
  have q0 : w.cell? ⟨qb, 0, none⟩ = some (.slice (some ⟨g, 0, none⟩) (n + 1) c) := by rw [h.1.c0, hv]
  have x0 := h1.c0 x
  have x1 := h1.c1 x
  have x2 := h1.c2 x
  have hw1 : wrap64 (n : Int) = n := w64 _ (by omega)
  have hi0 : (0 : Int) ≤ n := by omega
  have hi1 : (n : Int) < n + 1 := by omega
  have HH := Lib.hid h
  have HV := Lib.hid hv
  have HSZ := Lib.hid hsz
  have HX1 := Lib.hid hx1
  have HLEN := Lib.hid (len_any E w0 base qb p v xs w h)
  rw [hsz] at HLEN
  clear h h1 hx hx1 hsz hv q0
  go_enter Try.func97, Try.ntmps97
  go_wp2_with fail
  refine HLEN.out.mono ?_
  rintro e w2 ⟨rfl, hI2⟩
  have HI2 := Lib.hid hI2
  have q0 : w2.cell? ⟨qb, 0, none⟩ = some (.slice (some ⟨g, 0, none⟩) (n + 1) c) := by rw [hI2.1.c0, HV.out]
  obtain ⟨a0, a1, a2⟩ := hI2.1.at HV.out n x HX1.out
  obtain ⟨W3, hW3⟩ : ∃ W3, W3 = w2.alloc (.cells #[E.e0 x, E.e1 x, E.e2 x] 103) := ⟨_, rfl⟩
  have HI3 : Hid (Iq E w0 base qb v p xs W3) := Lib.hid (by rw [hW3]; exact hI2.below (al (Below.refl _ w2) (Nat.le_refl _) _))
  have t0 : ∀ m a b c, (store ⟨w2.heap.size, 0, none⟩ (E.e0 x) m).run Try.prog (w2.alloc (.cells #[a, b, c] 103)) = .ok () (w2.alloc (.cells #[E.e0 x, b, c] 103)) := fun m a b c => store_new0 w2 a b c _ _ x0 m
  have t1 : ∀ m a b c, (store ⟨w2.heap.size, 1, none⟩ (E.e1 x) m).run Try.prog (w2.alloc (.cells #[a, b, c] 103)) = .ok () (w2.alloc (.cells #[a, E.e1 x, c] 103)) := fun m a b c => store_new1 w2 a b c _ _ x1 m
  have t2 : ∀ m a b c, (store ⟨w2.heap.size, 2, none⟩ (E.e2 x) m).run Try.prog (w2.alloc (.cells #[a, b, c] 103)) = .ok () (w2.alloc (.cells #[a, b, E.e2 x] 103)) := fun m a b c => store_new2 w2 a b c _ _ x2 m
  have hI3 := HI3.out
  have q3 : W3.cell? ⟨qb, 0, none⟩ = some (.slice (some ⟨g, 0, none⟩) (n + 1) c) := by rw [hI3.1.c0, HV.out]
  obtain ⟨W4, hW4⟩ : ∃ W4, W4 = ((W3.setCell ⟨g, n * 3, none⟩ (.slice none 0 0)).setCell ⟨g, n * 3 + 1, none⟩ (.int .i64 0)).setCell ⟨g, n * 3 + 2, none⟩ (.int .i64 0) := ⟨_, rfl⟩
  have hrw : Rw g (n * 3 + 3) W3 := by
    have := own_rw (c := c) (by have := hI3.1.row; rw [HSZ.out, HV.out] at this; exact this)
    rw [show (n + 1) * 3 = n * 3 + 3 by omega] at this
    exact this
  have hclr : ∀ ty cp, (Builtin.clear_ #[105] ty #[.slice (some ⟨g, n * 3, none⟩) 1 cp]).run Try.prog W3 = .ok (.tuple #[]) W4 := fun ty cp => by rw [hW4]; exact clearT g n cp ty W3 hrw
  have hgo : v.ownBlock = some g := by rw [HV.out]; rfl
  have hgq : g ≠ qb := hI3.1.ne hgo
  have h4 : ∀ k, k ≠ g → W4.heap[k]? = W3.heap[k]? := fun k hk => by
    rw [hW4, Below.heap_setCell _ _ _ _ (by simpa using hk), Below.heap_setCell _ _ _ _ (by simpa using hk), Below.heap_setCell _ _ _ _ (by simpa using hk)]
  have q4 : W4.cell? ⟨qb, 0, none⟩ = some (.slice (some ⟨g, 0, none⟩) (n + 1) c) := (World.cell?_of_block (w := W3) (a := ⟨qb, 0, none⟩) (h4 qb (Ne.symm hgq))).trans q3
  have z4 : W4.frozen? ⟨qb, 0, none⟩ = false := (World.frozen?_of_block (w := W3) (a := ⟨qb, 0, none⟩) (h4 qb (Ne.symm hgq))).trans (hI3.1.thaw 0)
  have hgl : g < w2.heap.size := (own_block hI2.1.row hgo).2.1
  have hql : qb < w2.heap.size := hI2.1.lt
  have hu : ∀ k, (W4.setCell ⟨qb, 0, none⟩ (.slice (some ⟨g, 0, none⟩) n c)).cell? ⟨w2.heap.size, k, none⟩ = W3.cell? ⟨w2.heap.size, k, none⟩ := fun k =>
    World.cell?_of_block (w := W3) (a := ⟨w2.heap.size, k, none⟩) ((Below.heap_setCell _ _ _ _ (by simp only []; omega)).trans (h4 _ (by simp only []; omega)))
  have u0 : (W4.setCell ⟨qb, 0, none⟩ (.slice (some ⟨g, 0, none⟩) n c)).cell? ⟨w2.heap.size, 0, none⟩ = some (E.e0 x) := (hu 0).trans (by rw [hW3]; simp [go_sem])
  have u1 : (W4.setCell ⟨qb, 0, none⟩ (.slice (some ⟨g, 0, none⟩) n c)).cell? ⟨w2.heap.size, 1, none⟩ = some (E.e1 x) := (hu 1).trans (by rw [hW3]; simp [go_sem])
  have u2 : (W4.setCell ⟨qb, 0, none⟩ (.slice (some ⟨g, 0, none⟩) n c)).cell? ⟨w2.heap.size, 2, none⟩ = some (E.e2 x) := (hu 2).trans (by rw [hW3]; simp [go_sem])
  have HW4 := Lib.hid hW4
  clear hI2 hI3 hW4 hrw hgo hgq h4 hgl hql hu
  go_upto_region 3 with fail
  rw [← hW3]
  clear hW3
  go_wp2_with fail
  go_ret
  refine ⟨rfl, ?_⟩
  rw [HW4.out]
  obtain ⟨m1, m2⟩ := HI3.out.1.shrink (a := (.slice none 0 0)) (b := .int .i64 0) (d := .int .i64 0) HV.out HSZ.out
  exact ⟨_, m1, HI3.out.2.trans m2 (fun _ _ e => e), .inl (by rw [HV.out]; rfl)⟩
end Go.Proofs.Ytodjfebceljjgaa.U.Q2
