/- Which rest of a list is ahead. -/
import Derived.Test.YtodjfebceljjgaaM2
import Derived.Test.YtodjfebceljjgaaPg2
namespace Go.Proofs.Ytodjfebceljjgaa.U
open Go.RowKit

theorem RT.first {w : World} {a : Option Addr} {n c : Nat} {x : T2} {l : List T2} (h : RT w (.slice a n c) (x :: l)) : ∃ g o, a = some ⟨g, o, none⟩ ∧ 0 < n ∧ w.cell? ⟨g, o, none⟩ = some (.int .i64 x.1) ∧ w.cell? ⟨g, o + 1, none⟩ = some (.int .i64 x.2) := by
  obtain ⟨a', c', e, h2, h3, h4⟩ := h
  simp only [Value.slice.injEq, List.length_cons] at e
  obtain ⟨rfl, rfl, rfl⟩ := e
  obtain ⟨g, o, rfl, h5⟩ := h4 (by simp)
  have := h5 0 x (by simp)
  exact ⟨g, o, rfl, by omega, by simpa using this.1, by simpa using this.2⟩
set_option maxHeartbeats 1000000 in
set_option maxRecDepth 10000 in
/-- Which of two rests comes first. -/
theorem rord_any (ob c : Nat) (a b : Option Addr) (n m p q : Nat) (i j : Int) (x y : T2) (l r : List T2) (w : World) (hx : RT w (.slice a n p) (x :: l)) (hy : RT w (.slice b m q) (y :: r)) (ho : w.cell? ⟨ob, 0, none⟩ = some (.func (.func 50) #[] #[.pointer (some ⟨c, 0, none⟩)])) (hc : w.cell? ⟨c, 0, none⟩ = some (.func (.func 10) #[] #[])) :
    Calls Try.prog 35 #[.agg #[.slice a n p, .int .i64 i], .agg #[.slice b m q, .int .i64 j], .pointer (some ⟨ob, 0, none⟩)] w fun e w' => e = .returned (.int .i64 (orI (cmpI x.1 y.1) (cmpI i j))) ∧ Below w.heap.size w w' := by
  obtain ⟨W0, hW0⟩ : ∃ W0, W0 = (w.alloc (.cells #[.slice a n p, .int .i64 i] 77)).alloc (.cells #[.slice b m q, .int .i64 j] 77) := ⟨_, rfl⟩
  have hb0 : Below w.heap.size w W0 := by rw [hW0]; exact two_new _ _ _
  have HB0 : Hid (Below w.heap.size w W0) := Lib.hid hb0
  have hsz : W0.heap.size = w.heap.size + 2 := by rw [hW0]; simp
  obtain ⟨g, o, rfl, hn, gx1, gx2⟩ := (hx.below hb0).first
  obtain ⟨g', o', rfl, hm, gy1, gy2⟩ := (hy.below hb0).first
  have ho0 : W0.cell? ⟨ob, 0, none⟩ = some (.func (.func 50) #[] #[.pointer (some ⟨c, 0, none⟩)]) := (hb0.cell (blk_of_cell ho)).trans ho
  have hc0 : W0.cell? ⟨c, 0, none⟩ = some (.func (.func 10) #[] #[]) := (hb0.cell (blk_of_cell hc)).trans hc
  have x0 : W0.cell? ⟨w.heap.size, 0, none⟩ = some (.slice (some ⟨g, o, none⟩) n p) := by rw [hW0]; simp [go_sem]
  have x1 : W0.cell? ⟨w.heap.size, 1, none⟩ = some (.int .i64 i) := by rw [hW0]; simp [go_sem]
  have y0 : W0.cell? ⟨w.heap.size + 1, 0, none⟩ = some (.slice (some ⟨g', o', none⟩) m q) := by rw [hW0]; simp [go_sem]
  have y1 : W0.cell? ⟨w.heap.size + 1, 1, none⟩ = some (.int .i64 j) := by rw [hW0]; simp [go_sem]
  have HKEEP : Hid (∀ W, Below W0.heap.size W0 W → W.cell? ⟨w.heap.size, 0, none⟩ = some (.slice (some ⟨g, o, none⟩) n p) ∧ W.cell? ⟨w.heap.size, 1, none⟩ = some (.int .i64 i) ∧ W.cell? ⟨w.heap.size + 1, 0, none⟩ = some (.slice (some ⟨g', o', none⟩) m q) ∧ W.cell? ⟨w.heap.size + 1, 1, none⟩ = some (.int .i64 j) ∧ W.cell? ⟨g, o, none⟩ = some (.int .i64 x.1) ∧ W.cell? ⟨g, o + 1, none⟩ = some (.int .i64 x.2) ∧ W.cell? ⟨g', o', none⟩ = some (.int .i64 y.1) ∧ W.cell? ⟨g', o' + 1, none⟩ = some (.int .i64 y.2) ∧ W.cell? ⟨ob, 0, none⟩ = some (.func (.func 50) #[] #[.pointer (some ⟨c, 0, none⟩)]) ∧ Hid (Below W0.heap.size W0 W)) := Lib.hid (fun W h => by
    have k : ∀ {p : Addr} {u : Value}, W0.cell? p = some u → W.cell? p = some u := fun hp => (h.cell (blk_of_cell hp)).trans hp
    exact ⟨k x0, k x1, k y0, k y1, k gx1, k gx2, k gy1, k gy2, k ho0, h⟩)
  have HO : Hid (∀ W, Below W0.heap.size W0 W → Calls Try.prog 50 #[.agg #[.int .i64 x.1, .int .i64 x.2], .agg #[.int .i64 y.1, .int .i64 y.2], .pointer (some ⟨c, 0, none⟩)] W fun e w' => e = .returned (.int .i64 (cmpI x.1 y.1)) ∧ Below W0.heap.size W0 w') := Lib.hid (fun W h => (calm_any ord10 c x.1 x.2 y.1 y.2 W ((h.cell (blk_of_cell hc0)).trans hc0) (by have := h.size; have := blk_of_cell hc0; simp only [] at *; omega)).mono (fun e w' k => ⟨k.1, th h (Nat.le_refl _) k.2⟩))
  have hn0 : (0 : Int) < n := by omega
  have hm0 : (0 : Int) < m := by omega
  clear gx1 gx2 gy1 gy2 hc0 ho0 x0 x1 y0 y1 hc ho hsz hb0 hx hy
  obtain ⟨rr, hr⟩ : ∃ r, r = cmpI x.1 y.1 := ⟨_, rfl⟩
  rw [← hr] at HO ⊢
  clear hr
  obtain ⟨qq, hq⟩ : ∃ q, q = cmpI i j := ⟨_, rfl⟩
  have HC := Lib.hid (fun W => compare_any i j W)
  rw [← hq] at HC ⊢
  clear hq
  go_enter Try.func35, Try.ntmps35
  go_wp2_with fail
  rw [← hW0]
  clear hW0
  go_region_held3 (fun W => W.cell? ⟨w.heap.size, 0, none⟩ = some (.slice (some ⟨g, o, none⟩) n p) ∧ W.cell? ⟨w.heap.size, 1, none⟩ = some (.int .i64 i) ∧ W.cell? ⟨w.heap.size + 1, 0, none⟩ = some (.slice (some ⟨g', o', none⟩) m q) ∧ W.cell? ⟨w.heap.size + 1, 1, none⟩ = some (.int .i64 j) ∧ W.cell? ⟨g, o, none⟩ = some (.int .i64 x.1) ∧ W.cell? ⟨g, o + 1, none⟩ = some (.int .i64 x.2) ∧ W.cell? ⟨g', o', none⟩ = some (.int .i64 y.1) ∧ W.cell? ⟨g', o' + 1, none⟩ = some (.int .i64 y.2) ∧ W.cell? ⟨ob, 0, none⟩ = some (.func (.func 50) #[] #[.pointer (some ⟨c, 0, none⟩)]) ∧ Hid (Below W0.heap.size W0 W)) (first | (refine HKEEP.out _ ?_; first | assumption | exact (Below.refl _ _).drew | exact al (by assumption) (Nat.le_refl _) _)) (first | (go_at_call 50; go_split_ands; refine (HO.out _ (Hid.out (by assumption))).mono ?_; rintro e w7 ⟨rfl, hM7⟩) | (go_at_call 37; refine (HC.out _).mono ?_; rintro e w8 ⟨rfl, rfl⟩) | (go_at_call 36; refine (or_any 2 _ rr qq _ (by simp [go_sem]) (by simp [go_sem])).mono ?_; rintro e w9 ⟨rfl, rfl⟩))
  all_goals (
    go_split_ands
    rename_i hMv
    have HBN := Lib.hid (th HB0.out (Nat.le_refl _) hMv.out)
    go_wp2
    go_ret
    exact ⟨rfl, HBN.out⟩)
set_option maxHeartbeats 1000000 in
set_option maxRecDepth 10000 in
/-- Whether a rest is ahead of another one. -/
theorem ahead2_any (ob c d : Nat) (a b : Option Addr) (n m p q : Nat) (i j s t : Int) (x y : T2) (l r : List T2) (w : World) (hx : RT w (.slice a n p) (x :: l)) (hy : RT w (.slice b m q) (y :: r)) (hd : w.cell? ⟨d, 0, none⟩ = some (.func (.func 35) #[] #[.pointer (some ⟨ob, 0, none⟩)])) (ho : w.cell? ⟨ob, 0, none⟩ = some (.func (.func 50) #[] #[.pointer (some ⟨c, 0, none⟩)])) (hc : w.cell? ⟨c, 0, none⟩ = some (.func (.func 10) #[] #[])) :
    Calls Try.prog 55 #[.agg #[.slice a n p, .int .i64 i, .int .i64 s], .agg #[.slice b m q, .int .i64 j, .int .i64 t], .pointer (some ⟨d, 0, none⟩)] w fun e w' => e = .returned (.bool (decide (orI (orI (cmpI x.1 y.1) (cmpI i j)) (cmpI s t) < 0))) ∧ Below w.heap.size w w' := by
  obtain ⟨W0, hW0⟩ : ∃ W0, W0 = (w.alloc (.cells #[.slice a n p, .int .i64 i, .int .i64 s] 103)).alloc (.cells #[.slice b m q, .int .i64 j, .int .i64 t] 103) := ⟨_, rfl⟩
  have hb0 : Below w.heap.size w W0 := by rw [hW0]; exact two_new _ _ _
  have HB0 : Hid (Below w.heap.size w W0) := Lib.hid hb0
  have hd0 : W0.cell? ⟨d, 0, none⟩ = some (.func (.func 35) #[] #[.pointer (some ⟨ob, 0, none⟩)]) := (hb0.cell (blk_of_cell hd)).trans hd
  have ho0 : W0.cell? ⟨ob, 0, none⟩ = some (.func (.func 50) #[] #[.pointer (some ⟨c, 0, none⟩)]) := (hb0.cell (blk_of_cell ho)).trans ho
  have hc0 : W0.cell? ⟨c, 0, none⟩ = some (.func (.func 10) #[] #[]) := (hb0.cell (blk_of_cell hc)).trans hc
  have hx0 := hx.below hb0
  have hy0 := hy.below hb0
  have x0 : W0.cell? ⟨w.heap.size, 0, none⟩ = some (.slice a n p) := by rw [hW0]; simp [go_sem]
  have x1 : W0.cell? ⟨w.heap.size, 1, none⟩ = some (.int .i64 i) := by rw [hW0]; simp [go_sem]
  have x2 : W0.cell? ⟨w.heap.size, 2, none⟩ = some (.int .i64 s) := by rw [hW0]; simp [go_sem]
  have y0 : W0.cell? ⟨w.heap.size + 1, 0, none⟩ = some (.slice b m q) := by rw [hW0]; simp [go_sem]
  have y1 : W0.cell? ⟨w.heap.size + 1, 1, none⟩ = some (.int .i64 j) := by rw [hW0]; simp [go_sem]
  have y2 : W0.cell? ⟨w.heap.size + 1, 2, none⟩ = some (.int .i64 t) := by rw [hW0]; simp [go_sem]
  have HKEEP : Hid (∀ W, Below W0.heap.size W0 W → W.cell? ⟨w.heap.size, 0, none⟩ = some (.slice a n p) ∧ W.cell? ⟨w.heap.size, 1, none⟩ = some (.int .i64 i) ∧ W.cell? ⟨w.heap.size, 2, none⟩ = some (.int .i64 s) ∧ W.cell? ⟨w.heap.size + 1, 0, none⟩ = some (.slice b m q) ∧ W.cell? ⟨w.heap.size + 1, 1, none⟩ = some (.int .i64 j) ∧ W.cell? ⟨w.heap.size + 1, 2, none⟩ = some (.int .i64 t) ∧ W.cell? ⟨d, 0, none⟩ = some (.func (.func 35) #[] #[.pointer (some ⟨ob, 0, none⟩)]) ∧ Hid (Below W0.heap.size W0 W)) := Lib.hid (fun W h => by
    have k : ∀ {p : Addr} {u : Value}, W0.cell? p = some u → W.cell? p = some u := fun hp => (h.cell (blk_of_cell hp)).trans hp
    exact ⟨k x0, k x1, k x2, k y0, k y1, k y2, k hd0, h⟩)
  have HO : Hid (∀ W, Below W0.heap.size W0 W → Calls Try.prog 35 #[.agg #[.slice a n p, .int .i64 i], .agg #[.slice b m q, .int .i64 j], .pointer (some ⟨ob, 0, none⟩)] W fun e w' => e = .returned (.int .i64 (orI (cmpI x.1 y.1) (cmpI i j))) ∧ Below W0.heap.size W0 w') := Lib.hid (fun W h => (rord_any ob c a b n m p q i j x y l r W (hx0.below h) (hy0.below h) ((h.cell (blk_of_cell ho0)).trans ho0) ((h.cell (blk_of_cell hc0)).trans hc0)).mono (fun e w' k => ⟨k.1, th h (Nat.le_refl _) k.2⟩))
  clear hx0 hy0 hc0 ho0 hd0 x0 x1 x2 y0 y1 y2 hc ho hd hb0 hx hy
  obtain ⟨rr, hr⟩ : ∃ r, r = orI (cmpI x.1 y.1) (cmpI i j) := ⟨_, rfl⟩
  rw [← hr] at HO ⊢
  clear hr
  obtain ⟨qq, hq⟩ : ∃ q, q = cmpI s t := ⟨_, rfl⟩
  have HC := Lib.hid (fun W => compare_any s t W)
  rw [← hq] at HC ⊢
  clear hq
  go_enter Try.func55, Try.ntmps55
  go_wp2_with fail
  rw [← hW0]
  clear hW0
  go_region_held3 (fun W => W.cell? ⟨w.heap.size, 0, none⟩ = some (.slice a n p) ∧ W.cell? ⟨w.heap.size, 1, none⟩ = some (.int .i64 i) ∧ W.cell? ⟨w.heap.size, 2, none⟩ = some (.int .i64 s) ∧ W.cell? ⟨w.heap.size + 1, 0, none⟩ = some (.slice b m q) ∧ W.cell? ⟨w.heap.size + 1, 1, none⟩ = some (.int .i64 j) ∧ W.cell? ⟨w.heap.size + 1, 2, none⟩ = some (.int .i64 t) ∧ W.cell? ⟨d, 0, none⟩ = some (.func (.func 35) #[] #[.pointer (some ⟨ob, 0, none⟩)]) ∧ Hid (Below W0.heap.size W0 W)) (first | (refine HKEEP.out _ ?_; first | assumption | exact (Below.refl _ _).drew | exact al (by assumption) (Nat.le_refl _) _)) (first | (go_at_call 35; go_split_ands; refine (HO.out _ (Hid.out (by assumption))).mono ?_; rintro e w7 ⟨rfl, hM7⟩) | (go_at_call 37; refine (HC.out _).mono ?_; rintro e w8 ⟨rfl, rfl⟩) | (go_at_call 36; refine (or_any 2 _ rr qq _ (by simp [go_sem]) (by simp [go_sem])).mono ?_; rintro e w9 ⟨rfl, rfl⟩))
  all_goals (
    go_split_ands
    rename_i hMv
    have HBN := Lib.hid (th HB0.out (Nat.le_refl _) hMv.out)
    go_wp2
    go_ret
    exact ⟨rfl, HBN.out⟩)
end Go.Proofs.Ytodjfebceljjgaa.U
