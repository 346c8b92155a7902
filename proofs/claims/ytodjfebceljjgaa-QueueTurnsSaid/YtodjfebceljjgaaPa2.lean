/- A queue in memory; what its pile's Len and Less answer. -/
import Derived.Test.YtodjfebceljjgaaH3
import Derived.Test.YtodjfebceljjgaaKe
import Derived.BigRegion
namespace Go.Proofs.Ytodjfebceljjgaa.U.Q2
open Go.RowKit

/-- What a queue's things are in memory, in which order, and what is read to tell it. -/
structure En (α : Type) where
  e0 : α → Value
  e1 : α → Value
  e2 : α → Value
  lt : α → α → Bool
  D : Nat → Prop
  W0 : World
  ok : α → Prop
  cap : Value
variable {α : Type}
def AheadC (E : En α) : Prop := ∀ x y W, E.W0.heap.size ≤ W.heap.size → (∀ k, E.D k → W.heap[k]? = E.W0.heap[k]?) → E.ok x → E.ok y → Calls Try.prog 55 #[.agg #[E.e0 x, E.e1 x, E.e2 x], .agg #[E.e0 y, E.e1 y, E.e2 y], E.cap] W fun e w' => e = .returned (.bool (E.lt x y)) ∧ Below W.heap.size W w'
structure OneC (E : En α) : Prop where
  c0 : ∀ x, (E.e0 x).oneCell' = true
  c1 : ∀ x, (E.e1 x).oneCell' = true
  c2 : ∀ x, (E.e2 x).oneCell' = true
def fnv (E : En α) : Value := .func (.func 55) #[] #[E.cap]
structure QAt (E : En α) (w : World) (base qb : Nat) (v : Value) (xs : Array α) (p : Nat) : Prop where
  box : w.heap[qb]? = some (.cells #[v, fnv E, .int .i64 p] 109 (0, 0))
  low : base ≤ qb
  row : w.ownsRow base 103 3 v xs.size (cellsR E.e0 E.e1 E.e2 xs.toList)
  size0 : E.W0.heap.size ≤ w.heap.size
  dlt : ∀ k, E.D k → k < E.W0.heap.size
  snap : ∀ k, E.D k → w.heap[k]? = E.W0.heap[k]?
  apart : ¬ E.D qb ∧ ∀ g, v.ownBlock = some g → ¬ E.D g
  oks : ∀ x ∈ xs.toList, E.ok x
def SQ (qb : Nat) (v : Value) : Nat → Prop := fun k => k = qb ∨ v.ownBlock = some k
theorem QAt.lt {E : En α} {w : World} {base qb p : Nat} {v : Value} {xs : Array α} (h : QAt E w base qb v xs p) : qb < w.heap.size := (Array.getElem?_eq_some_iff.1 h.box).1
theorem QAt.ne {E : En α} {w : World} {base qb p : Nat} {v : Value} {xs : Array α} (h : QAt E w base qb v xs p) {g : Nat} (hg : v.ownBlock = some g) : g ≠ qb := fun e => by
  obtain ⟨_, _, cur, hc⟩ := own_block h.row hg
  rw [e, h.box] at hc
  simp at hc
theorem QAt.keep {E : En α} {w w' : World} {base qb p : Nat} {v : Value} {xs : Array α} {S : Nat → Prop} (h : QAt E w base qb v xs p) (hk : Kept S w w') (h1 : ¬ S qb) (h2 : ∀ g, v.ownBlock = some g → ¬ S g) (h3 : ∀ k, E.D k → ¬ S k) : QAt E w' base qb v xs p :=
  ⟨(hk.block qb h.lt h1).trans h.box, h.low, own_keep h.row (fun g hg => hk.block g (own_block h.row hg).2.1 (h2 g hg)), Nat.le_trans h.size0 hk.size, h.dlt,
    fun k hd => (hk.block k (by have := h.dlt k hd; have := h.size0; omega) (h3 k hd)).trans (h.snap k hd), h.apart, h.oks⟩
theorem QAt.below {E : En α} {w w' : World} {base qb p : Nat} {v : Value} {xs : Array α} (h : QAt E w base qb v xs p) (hb : Below w.heap.size w w') : QAt E w' base qb v xs p :=
  h.keep (S := fun _ => False) (Kept.of_below hb) (fun e => e) (fun _ _ e => e) (fun _ _ e => e)
/-- A queue in memory, and all else as it was. -/
def Iq (E : En α) (w0 : World) (base qb : Nat) (v : Value) (p : Nat) : Array α → World → Prop := fun xs W => QAt E W base qb v xs p ∧ Kept (SQ qb v) w0 W
theorem Iq.below {E : En α} {w0 w w' : World} {base qb p : Nat} {v : Value} {xs : Array α} (h : Iq E w0 base qb v p xs w) (hb : Below w.heap.size w w') : Iq E w0 base qb v p xs w' :=
  ⟨h.1.below hb, h.2.trans (Kept.of_below (S := fun _ => False) hb) (fun _ _ e => e.elim)⟩
theorem QAt.c0 {E : En α} {w : World} {base qb p : Nat} {v : Value} {xs : Array α} (h : QAt E w base qb v xs p) : w.cell? ⟨qb, 0, none⟩ = some v := by rw [Lib.cell_of_heap h.box]; rfl
theorem QAt.c1 {E : En α} {w : World} {base qb p : Nat} {v : Value} {xs : Array α} (h : QAt E w base qb v xs p) : w.cell? ⟨qb, 1, none⟩ = some (fnv E) := by rw [Lib.cell_of_heap h.box]; rfl
theorem QAt.c2 {E : En α} {w : World} {base qb p : Nat} {v : Value} {xs : Array α} (h : QAt E w base qb v xs p) : w.cell? ⟨qb, 2, none⟩ = some (.int .i64 p) := by rw [Lib.cell_of_heap h.box]; rfl
theorem QAt.thaw {E : En α} {w : World} {base qb p : Nat} {v : Value} {xs : Array α} (h : QAt E w base qb v xs p) (i : Nat) : w.frozen? ⟨qb, i, none⟩ = false := Lib.frozen_of_heap h.box i
theorem QAt.at {E : En α} {w : World} {base qb p : Nat} {v : Value} {xs : Array α} (h : QAt E w base qb v xs p) {g n c : Nat} (hv : v = .slice (some ⟨g, 0, none⟩) n c) (i : Nat) (x : α) (hx : xs.toList[i]? = some x) : w.cell? ⟨g, i * 3, none⟩ = some (E.e0 x) ∧ w.cell? ⟨g, i * 3 + 1, none⟩ = some (E.e1 x) ∧ w.cell? ⟨g, i * 3 + 2, none⟩ = some (E.e2 x) := by
  obtain ⟨k0, k1, k2⟩ := cellsR_get E.e0 E.e1 E.e2 _ i x hx
  have get : ∀ j u, (cellsR E.e0 E.e1 E.e2 xs.toList)[j]? = some u → w.cell? ⟨g, j, none⟩ = some u := fun j u hu => by
    have := h.row.cells (g := g) (by rw [hv]; rfl) j u hu
    rw [add_zero_at] at this
    exact this
  exact ⟨get _ _ k0, get _ _ k1, get _ _ k2⟩
theorem QAt.thawRow {E : En α} {w : World} {base qb p : Nat} {v : Value} {xs : Array α} (h : QAt E w base qb v xs p) {g : Nat} (hg : v.ownBlock = some g) (i : Nat) : w.frozen? ⟨g, i, none⟩ = false := by
  obtain ⟨_, _, cur, hc⟩ := own_block h.row hg
  exact Lib.frozen_of_heap hc i
set_option maxHeartbeats 400000 in
theorem len_any (E : En α) (w0 : World) (base qb p : Nat) (v : Value) : LenC (.pointer (some ⟨qb, 0, none⟩)) (Iq E w0 base qb v p) 68 := by
  intro xs w hi
  obtain ⟨a, c, rfl, hc1, hc2⟩ := own_at hi.1.row
  have c0 := hi.1.c0
  have hn0 : wrap64 (xs.size : Int) = xs.size := by unfold maxLen at hc2; unfold wrap64; omega
  have HI := Lib.hid hi
  clear hi hc1 hc2
  go_enter Try.func68, Try.ntmps68
  go_wp2
  go_ret
  exact ⟨rfl, HI.out⟩
variable [Inhabited α]
set_option maxHeartbeats 2000000 in
set_option maxRecDepth 10000 in
theorem less_any (E : En α) (hE : AheadC E) (h1 : OneC E) (w0 : World) (base qb p : Nat) (v : Value) : LessC (.pointer (some ⟨qb, 0, none⟩)) E.lt (Iq E w0 base qb v p) 96 := by
  intro xs w i j hi hin hjn
  obtain ⟨g, c, hv, hc1, hc2⟩ := own_some hi.1.row (by omega)
  obtain ⟨x, hx⟩ : ∃ x, x = xs[i]! := ⟨_, rfl⟩
  obtain ⟨y, hy⟩ : ∃ y, y = xs[j]! := ⟨_, rfl⟩
  have hx1 : xs.toList[i]? = some x := by rw [hx, getElem!_pos xs i hin]; simp [hin]
  have hy1 : xs.toList[j]? = some y := by rw [hy, getElem!_pos xs j hjn]; simp [hjn]
  rw [← hx, ← hy]
  have hok1 : E.ok x := hi.1.oks x (List.mem_of_getElem? hx1)
  have hok2 : E.ok y := hi.1.oks y (List.mem_of_getElem? hy1)
  have HI := Lib.hid hi
  have hi0 : (0 : Int) ≤ i := by omega
  have hj0 : (0 : Int) ≤ j := by omega
  have hi1 : (i : Int) < xs.size := by omega
  have hj1 : (j : Int) < xs.size := by omega
  obtain ⟨n, hn⟩ : ∃ n, n = xs.size := ⟨_, rfl⟩
  rw [← hn] at hv hi1 hj1 hin hjn
  have HKEEP : Hid (∀ W, Below w.heap.size w W → W.cell? ⟨qb, 0, none⟩ = some (.slice (some ⟨g, 0, none⟩) n c) ∧ W.cell? ⟨qb, 1, none⟩ = some (.func (.func 55) #[] #[E.cap]) ∧ W.cell? ⟨g, i * 3, none⟩ = some (E.e0 x) ∧ W.cell? ⟨g, i * 3 + 1, none⟩ = some (E.e1 x) ∧ W.cell? ⟨g, i * 3 + 2, none⟩ = some (E.e2 x) ∧ W.cell? ⟨g, j * 3, none⟩ = some (E.e0 y) ∧ W.cell? ⟨g, j * 3 + 1, none⟩ = some (E.e1 y) ∧ W.cell? ⟨g, j * 3 + 2, none⟩ = some (E.e2 y) ∧ Hid (Below w.heap.size w W)) := Lib.hid (fun W h => by
    have hq := hi.1.below h
    obtain ⟨a0, a1, a2⟩ := hq.at hv i x hx1
    obtain ⟨b0, b1, b2⟩ := hq.at hv j y hy1
    exact ⟨by rw [hq.c0, hv], hq.c1, a0, a1, a2, b0, b1, b2, h⟩)
  have HL : Hid (∀ W, Below w.heap.size w W → Calls Try.prog 55 #[.agg #[E.e0 x, E.e1 x, E.e2 x], .agg #[E.e0 y, E.e1 y, E.e2 y], E.cap] W fun e w' => e = .returned (.bool (E.lt x y)) ∧ Below w.heap.size w w') := Lib.hid (fun W h => by
    have hq := hi.1.below h
    exact (hE x y W hq.size0 hq.snap hok1 hok2).mono (fun e w' k => ⟨k.1, th h (Nat.le_refl _) k.2⟩))
  have x0 := h1.c0 x
  have x1 := h1.c1 x
  have x2 := h1.c2 x
  have y0 := h1.c0 y
  have y1 := h1.c1 y
  have y2 := h1.c2 y
  generalize E.e0 x = a0 at *
  generalize E.e1 x = a1 at *
  generalize E.e2 x = a2 at *
  generalize E.e0 y = b0 at *
  generalize E.e1 y = b1 at *
  generalize E.e2 y = b2 at *
  generalize E.lt x y = r at *
  generalize hcap : E.cap = cap at HKEEP HL
  clear hn hi hx hy hx1 hy1 hok1 hok2 hv hc1 hc2 h1 hcap hE
  go_enter Try.func96, Try.ntmps96
  go_wp2_with fail
  go_region_held3 (fun W => W.cell? ⟨qb, 0, none⟩ = some (.slice (some ⟨g, 0, none⟩) n c) ∧ W.cell? ⟨qb, 1, none⟩ = some (.func (.func 55) #[] #[cap]) ∧ W.cell? ⟨g, i * 3, none⟩ = some a0 ∧ W.cell? ⟨g, i * 3 + 1, none⟩ = some a1 ∧ W.cell? ⟨g, i * 3 + 2, none⟩ = some a2 ∧ W.cell? ⟨g, j * 3, none⟩ = some b0 ∧ W.cell? ⟨g, j * 3 + 1, none⟩ = some b1 ∧ W.cell? ⟨g, j * 3 + 2, none⟩ = some b2 ∧ Hid (Below w.heap.size w W)) (first | (refine HKEEP.out _ ?_; first | assumption | exact (Below.refl _ _).drew)) (first | (go_at_call 55; go_split_ands; refine (HL.out _ (Hid.out (by assumption))).mono ?_; rintro e w7 ⟨rfl, hM7⟩))
  all_goals (
    go_split_ands
    rename_i hMv
    have HBN := Lib.hid (HI.out.below hMv.out)
    go_wp2
    go_ret
    exact ⟨rfl, HBN.out⟩)
end Go.Proofs.Ytodjfebceljjgaa.U.Q2
