/- What a pile's Swap does. -/
import Derived.Test.YtodjfebceljjgaaPa1
namespace Go.Proofs.Ytodjfebceljjgaa.U.Q1
open Go.RowKit

variable {α : Type}
/-- A thing put in one's place. -/
theorem QAt.put {E : En α} {w : World} {base qb p g n c : Nat} {v : Value} {xs : Array α} (h : QAt E w base qb v xs p) (hv : v = .slice (some ⟨g, 0, none⟩) n c) (k : Nat) (x : α) (hk : k < xs.size) (hx : E.ok x) :
    QAt E (((w.setCell ⟨g, k * 3, none⟩ (E.e0 x)).setCell ⟨g, k * 3 + 1, none⟩ (E.e1 x)).setCell ⟨g, k * 3 + 2, none⟩ (E.e2 x)) base qb v (xs.set k x hk) p := by
  have hg : v.ownBlock = some g := by rw [hv]; rfl
  have hne : g ≠ qb := h.ne hg
  have heap : ∀ j, j ≠ g → (((w.setCell ⟨g, k * 3, none⟩ (E.e0 x)).setCell ⟨g, k * 3 + 1, none⟩ (E.e1 x)).setCell ⟨g, k * 3 + 2, none⟩ (E.e2 x)).heap[j]? = w.heap[j]? := fun j hj => by
    rw [Below.heap_setCell _ _ _ _ (by simpa using hj), Below.heap_setCell _ _ _ _ (by simpa using hj), Below.heap_setCell _ _ _ _ (by simpa using hj)]
  have hn : n = xs.size := by
    obtain ⟨a, c', e, _⟩ := own_at h.row
    rw [hv] at e
    simp at e
    exact e.2.1
  refine ⟨(heap qb (Ne.symm hne)).trans h.box, h.low, ?_, by simpa using h.size0, h.dlt, fun j hd => (heap j (fun e => (h.apart.2 g hg) (e ▸ hd))).trans (h.snap j hd), h.apart, fun y hy => ?_⟩
  · have h1 := h.row
    rw [hv, ← hn] at h1
    rw [Array.size_set, Array.toList_set, hv, ← hn]
    have h2 := own_upd (i := k * 3 + 2) (u := E.e2 x) (own_upd (i := k * 3 + 1) (u := E.e1 x) (own_upd (i := k * 3) (u := E.e0 x) h1))
    rw [← cellsR_set] at h2
    exact h2
  · rw [Array.toList_set] at hy
    rcases List.mem_or_eq_of_mem_set hy with h1 | h1
    · exact h.oks y h1
    · rw [h1]; exact hx
variable [Inhabited α]
set_option maxHeartbeats 4000000 in
set_option maxRecDepth 10000 in
theorem swap_any (E : En α) (h1 : OneC E) (w0 : World) (base qb p : Nat) (v : Value) : SwapC (.pointer (some ⟨qb, 0, none⟩)) (Iq E w0 base qb v p) 95 := by
  intro xs w i j hin hjn hi
  obtain ⟨g, c, hv, hc1, hc2⟩ := own_some hi.1.row (by omega)
  obtain ⟨x, hx⟩ : ∃ x, x = xs[i]! := ⟨_, rfl⟩
  obtain ⟨y, hy⟩ : ∃ y, y = xs[j]! := ⟨_, rfl⟩
  have hx1 : xs.toList[i]? = some x := by rw [hx, getElem!_pos xs i hin]; simp [hin]
  have hy1 : xs.toList[j]? = some y := by rw [hy, getElem!_pos xs j hjn]; simp [hjn]
  have HI := Lib.hid hi
  have hi0 : (0 : Int) ≤ i := by omega
  have hj0 : (0 : Int) ≤ j := by omega
  have hi1 : (i : Int) < xs.size := by omega
  have hj1 : (j : Int) < xs.size := by omega
  have HIN := Lib.hid hin
  have HJN := Lib.hid hjn
  obtain ⟨n, hn⟩ : ∃ n, n = xs.size := ⟨_, rfl⟩
  rw [← hn] at hv hi1 hj1 hin hjn
  obtain ⟨a0, a1, a2⟩ := hi.1.at hv i x hx1
  obtain ⟨b0, b1, b2⟩ := hi.1.at hv j y hy1
  have q0 : w.cell? ⟨qb, 0, none⟩ = some (.slice (some ⟨g, 0, none⟩) n c) := by rw [hi.1.c0, hv]
  have x0 := h1.c0 x
  have x1 := h1.c1 x
  have x2 := h1.c2 x
  have y0 := h1.c0 y
  have y1 := h1.c1 y
  have y2 := h1.c2 y
  have hr0 : Rw g (n * 3) w := own_rw (c := c) (by have := hi.1.row; rw [← hn, hv] at this; exact this)
  have hr1 : ∀ W, Rw g (n * 3) W.drew = Rw g (n * 3) W := fun W => rfl
  have hr2 : ∀ W b k u, Rw g (n * 3) (W.setCell ⟨b, k, none⟩ u) = Rw g (n * 3) W := fun W b k u => Rw.set_iff b k u
  have s0 : ∀ W m, Rw g (n * 3) W → (store ⟨g, i * 3, none⟩ (E.e0 y) m).run Try.prog W = .ok () (W.setCell ⟨g, i * 3, none⟩ (E.e0 y)) := fun W m h => h.store (by omega) y0 m
  have s1 : ∀ W m, Rw g (n * 3) W → (store ⟨g, i * 3 + 1, none⟩ (E.e1 y) m).run Try.prog W = .ok () (W.setCell ⟨g, i * 3 + 1, none⟩ (E.e1 y)) := fun W m h => h.store (by omega) y1 m
  have s2 : ∀ W m, Rw g (n * 3) W → (store ⟨g, i * 3 + 2, none⟩ (E.e2 y) m).run Try.prog W = .ok () (W.setCell ⟨g, i * 3 + 2, none⟩ (E.e2 y)) := fun W m h => h.store (by omega) y2 m
  have s3 : ∀ W m, Rw g (n * 3) W → (store ⟨g, j * 3, none⟩ (E.e0 x) m).run Try.prog W = .ok () (W.setCell ⟨g, j * 3, none⟩ (E.e0 x)) := fun W m h => h.store (by omega) x0 m
  have s4 : ∀ W m, Rw g (n * 3) W → (store ⟨g, j * 3 + 1, none⟩ (E.e1 x) m).run Try.prog W = .ok () (W.setCell ⟨g, j * 3 + 1, none⟩ (E.e1 x)) := fun W m h => h.store (by omega) x1 m
  have s5 : ∀ W m, Rw g (n * 3) W → (store ⟨g, j * 3 + 2, none⟩ (E.e2 x) m).run Try.prog W = .ok () (W.setCell ⟨g, j * 3 + 2, none⟩ (E.e2 x)) := fun W m h => h.store (by omega) x2 m
  have HX := Lib.hid hx
  have HY := Lib.hid hy
  have HV := Lib.hid hv
  have HN := Lib.hid hn
  clear hn hi hx hy hx1 hy1 hv hc1 hc2 h1
  go_enter Try.func95, Try.ntmps95
  go_wp2_with fail
  go_region
  go_end0
  refine ⟨rfl, ?_⟩
  have hI := HI.out
  have hgo : v.ownBlock = some g := by rw [HV.out]; rfl
  have hxk : E.ok x := hI.1.oks x (by rw [HX.out, getElem!_pos xs i HIN.out, ← Array.getElem_toList]; exact List.getElem_mem _)
  have hyk : E.ok y := hI.1.oks y (by rw [HY.out, getElem!_pos xs j HJN.out, ← Array.getElem_toList]; exact List.getElem_mem _)
  have r1 := hI.1.put HV.out i y HIN.out hyk
  have r2 := r1.put HV.out j x (by simpa using HJN.out) hxk
  have e : xs.swap i j HIN.out HJN.out = (xs.set i y HIN.out).set j x (by simpa using HJN.out) := by
    unfold Array.swap
    rw [HX.out, HY.out, getElem!_pos xs i HIN.out, getElem!_pos xs j HJN.out]
  rw [e]
  have k1 : ∀ (W : World) (k : Nat) (u : Value), Kept (SQ qb v) w0 W → Kept (SQ qb v) w0 (W.setCell ⟨g, k, none⟩ u) := fun W k u h => h.setCell (.inr (.inr hgo)) u
  exact ⟨r2.below (Below.refl _ _).drew, (k1 _ _ _ (k1 _ _ _ (k1 _ _ _ (k1 _ _ _ (k1 _ _ _ (k1 _ _ _ hI.2)))))).drew⟩
end Go.Proofs.Ytodjfebceljjgaa.U.Q1
