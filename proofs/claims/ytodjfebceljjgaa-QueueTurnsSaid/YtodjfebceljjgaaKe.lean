/- What a call leaves alone, said of the blocks that it may write; rows of things of three cells. No function is read here. -/
import Derived.Test.YtodjfebceljjgaaH0
import Derived.Test.YtodjfebceljjgaaA1
namespace Go.Proofs.Ytodjfebceljjgaa.U
open Go.RowKit

/-- All but the blocks of S is as it was. -/
structure Kept (S : Nat → Prop) (w w' : World) : Prop where
  os : w'.os = w.os
  tape : w'.tape = w.tape
  output : w'.output = w.output
  size : w.heap.size ≤ w'.heap.size
  block : ∀ k, k < w.heap.size → ¬ S k → w'.heap[k]? = w.heap[k]?
theorem Kept.refl (S : Nat → Prop) (w : World) : Kept S w w := ⟨rfl, rfl, rfl, Nat.le_refl _, fun _ _ _ => rfl⟩
theorem Kept.trans {S S' : Nat → Prop} {a b c : World} (h : Kept S a b) (k : Kept S' b c) (hs : ∀ i, i < a.heap.size → S' i → S i) : Kept S a c :=
  ⟨k.os.trans h.os, k.tape.trans h.tape, k.output.trans h.output, Nat.le_trans h.size k.size, fun i hi hn => (k.block i (Nat.lt_of_lt_of_le hi h.size) (fun e => hn (hs i hi e))).trans (h.block i hi hn)⟩
theorem Kept.of_below {S : Nat → Prop} {w w' : World} (h : Below w.heap.size w w') : Kept S w w' := ⟨h.os, h.tape, h.output, h.size, fun k hk _ => h.block k hk⟩
theorem Kept.below {S : Nat → Prop} {B : Nat} {w w' : World} (h : Kept S w w') (hB : B ≤ w.heap.size) (hs : ∀ k, k < B → ¬ S k) : Below B w w' := ⟨h.os, h.tape, h.output, h.size, fun k hk => h.block k (by omega) (hs k hk)⟩
theorem Kept.mono {S S' : Nat → Prop} {w w' : World} (h : Kept S w w') (hs : ∀ k, k < w.heap.size → S k → S' k) : Kept S' w w' := ⟨h.os, h.tape, h.output, h.size, fun k hk hn => h.block k hk (fun e => hn (hs k hk e))⟩
theorem Kept.setCell {S : Nat → Prop} {a w : World} (h : Kept S a w) {p : Addr} (hp : a.heap.size ≤ p.block ∨ S p.block) (u : Value) : Kept S a (w.setCell p u) :=
  ⟨h.os, h.tape, h.output, by have := h.size; simpa using this, fun k hk hn => by
    rw [Below.heap_setCell w p u k (by rintro rfl; rcases hp with hp | hp; omega; exact hn hp)]
    exact h.block k hk hn⟩
theorem Kept.alloc {S : Nat → Prop} {a w : World} (h : Kept S a w) (o : Obj) : Kept S a (w.alloc o) :=
  ⟨h.os, h.tape, h.output, by have := h.size; simp; omega, fun k hk hn => by
    rw [Below.heap_alloc w o k (by have := h.size; omega)]
    exact h.block k hk hn⟩
theorem Kept.drew {S : Nat → Prop} {a w : World} (h : Kept S a w) : Kept S a w.drew := ⟨h.os, h.tape, h.output, h.size, h.block⟩
theorem Kept.grown {S : Nat → Prop} {a w w' : World} {row : Option Nat} (h : Kept S a w) (hg : w.grownBy w' row) (hr : ∀ k, row = some k → a.heap.size ≤ k ∨ S k) : Kept S a w' :=
  ⟨hg.os.trans h.os, hg.tape.trans h.tape, hg.output.trans h.output, Nat.le_trans h.size hg.size, fun k hk hn => (hg.block k (by have := h.size; omega) (fun e => by rcases hr k e.symm with h1 | h1; omega; exact hn h1)).trans (h.block k hk hn)⟩
theorem Kept.cell {S : Nat → Prop} {w w' : World} (h : Kept S w w') {p : Addr} (hp : p.block < w.heap.size) (hn : ¬ S p.block) : w'.cell? p = w.cell? p := World.cell?_of_block (w := w) (h.block p.block hp hn)

section
variable {α : Type} (e0 e1 e2 : α → Value)
def cellsR (xs : List α) : List Value := xs.flatMap fun x => [e0 x, e1 x, e2 x]
theorem cellsR_len (xs : List α) : (cellsR e0 e1 e2 xs).length = xs.length * 3 := by
  induction xs with
  | nil => rfl
  | cons x r ih => simp [cellsR] at ih ⊢; omega
theorem cellsR_append (xs ys : List α) : cellsR e0 e1 e2 (xs ++ ys) = cellsR e0 e1 e2 xs ++ cellsR e0 e1 e2 ys := by simp [cellsR]
theorem cellsR_get : ∀ (xs : List α) (i : Nat) (x : α), xs[i]? = some x → (cellsR e0 e1 e2 xs)[i * 3]? = some (e0 x) ∧ (cellsR e0 e1 e2 xs)[i * 3 + 1]? = some (e1 x) ∧ (cellsR e0 e1 e2 xs)[i * 3 + 2]? = some (e2 x) := by
  intro xs
  induction xs with
  | nil => intro i x h; simp at h
  | cons y r ih =>
    intro i x h
    have e : cellsR e0 e1 e2 (y :: r) = [e0 y, e1 y, e2 y] ++ cellsR e0 e1 e2 r := rfl
    rw [e]
    cases i with
    | zero => simp at h; subst h; simp
    | succ i =>
      have := ih i x (by simpa using h)
      rw [List.getElem?_append_right (by simp; omega), List.getElem?_append_right (by simp; omega), List.getElem?_append_right (by simp; omega)]
      simp only [List.length_cons, List.length_nil]
      rw [show (i + 1) * 3 - (0 + 1 + 1 + 1) = i * 3 by omega, show (i + 1) * 3 + 1 - (0 + 1 + 1 + 1) = i * 3 + 1 by omega, show (i + 1) * 3 + 2 - (0 + 1 + 1 + 1) = i * 3 + 2 by omega]
      exact this
theorem cellsR_set : ∀ (xs : List α) (i : Nat) (x : α), cellsR e0 e1 e2 (xs.set i x) = (((cellsR e0 e1 e2 xs).set (i * 3) (e0 x)).set (i * 3 + 1) (e1 x)).set (i * 3 + 2) (e2 x) := by
  intro xs
  induction xs with
  | nil => intro i x; simp [cellsR]
  | cons y r ih =>
    intro i x
    have e : ∀ (z : α) q, cellsR e0 e1 e2 (z :: q) = e0 z :: e1 z :: e2 z :: cellsR e0 e1 e2 q := fun _ _ => rfl
    cases i with
    | zero => simp [e]
    | succ i =>
      rw [List.set_cons_succ, e, e, ih, show (i + 1) * 3 = i * 3 + 1 + 1 + 1 by omega]
      simp only [List.set_cons_succ]
theorem cellsR_take (xs : List α) (n : Nat) : (cellsR e0 e1 e2 xs).take (n * 3) = cellsR e0 e1 e2 (xs.take n) := by
  induction xs generalizing n with
  | nil => simp [cellsR]
  | cons y r ih =>
    have e : ∀ (z : α) q, cellsR e0 e1 e2 (z :: q) = e0 z :: e1 z :: e2 z :: cellsR e0 e1 e2 q := fun _ _ => rfl
    cases n with
    | zero => simp [cellsR]
    | succ n =>
      rw [List.take_succ_cons, e, e, show (n + 1) * 3 = n * 3 + 1 + 1 + 1 by omega]
      simp only [List.take_succ_cons]
      rw [ih]
end
theorem add_zero_at (b i : Nat) : (⟨b, 0, none⟩ : Addr).add i = ⟨b, i, none⟩ := by unfold Addr.add; split <;> simp_all
theorem own_upd {w : World} {base size n c g i : Nat} {e : TypeId} {u : Value} {xs : List Value} (h : w.ownsRow base e size (.slice (some ⟨g, 0, none⟩) n c) n xs) : (w.setCell ⟨g, i, none⟩ u).ownsRow base e size (.slice (some ⟨g, 0, none⟩) n c) n (xs.set i u) := by
  refine ⟨by rw [List.length_set]; exact h.1, ?_⟩
  rcases h.2 with ⟨h1, h2⟩ | ⟨g', cap, cur, hv, hb, hg, h3, h4, h5, h6⟩
  · simp at h1
  · injection hv with e1 e2 e3
    simp only [Option.some.injEq, Addr.mk.injEq, and_true] at e1
    subst e1 e3
    refine .inr ⟨g, c, cur.set! i u, rfl, hb, ?_, h3, h4, by simpa using h5, ?_⟩
    · simp [World.setCell, Array.getElem?_modify, hg]
    · rw [← h6]
      simp [List.take_set]
/-- A block of n cells at least, that may be written. -/
def Rw (g n : Nat) (w : World) : Prop := ∃ cur T, w.heap[g]? = some (.cells cur T (0, 0)) ∧ n ≤ cur.size
theorem Rw.drew {g n : Nat} {w : World} (h : Rw g n w) : Rw g n w.drew := h
theorem Rw.set {g n : Nat} {w : World} (h : Rw g n w) (b i : Nat) (u : Value) : Rw g n (w.setCell ⟨b, i, none⟩ u) := by
  obtain ⟨cur, T, h1, h2⟩ := h
  by_cases e : g = b
  · exact ⟨cur.set! i u, T, by subst e; simp [World.setCell, Array.getElem?_modify, h1], by simpa using h2⟩
  · exact ⟨cur, T, (Below.heap_setCell w _ u g e).trans h1, h2⟩
theorem Rw.set_iff {g n : Nat} {w : World} (b i : Nat) (u : Value) : Rw g n (w.setCell ⟨b, i, none⟩ u) = Rw g n w := by
  refine propext ⟨fun h => ?_, fun h => h.set b i u⟩
  by_cases e : g = b
  · subst e
    obtain ⟨cur, T, h1, h2⟩ := h
    simp only [World.setCell, Array.getElem?_modify, if_pos] at h1
    cases ho : w.heap[g]? with
    | none => rw [ho] at h1; simp at h1
    | some o =>
      rw [ho] at h1
      cases o with
      | cells cs t r =>
        simp at h1
        obtain ⟨k1, k2, k3⟩ := h1
        refine ⟨cs, t, ?_, ?_⟩
        · rw [← k3]; exact ho
        · rw [← k1] at h2; simpa using h2
      | _ => simp at h1
  · obtain ⟨cur, T, h1, h2⟩ := h
    exact ⟨cur, T, (Below.heap_setCell w ⟨b, i, none⟩ u g e).symm.trans h1, h2⟩
theorem Rw.store {g n k : Nat} {w : World} {u : Value} {P : Program} (h : Rw g n w) (hk : k < n) (hu : u.oneCell' = true) (m : Mode) : (store ⟨g, k, none⟩ u m).run P w = .ok () (w.setCell ⟨g, k, none⟩ u) := by
  obtain ⟨cur, T, h1, h2⟩ := h
  have hc : w.cell? ⟨g, k, none⟩ = some cur[k] := by rw [Lib.cell_of_heap h1]; exact Array.getElem?_eq_getElem (by omega)
  have hf : w.frozen? ⟨g, k, none⟩ = false := Lib.frozen_of_heap h1 k
  rw [run_store P w _ u m hu, hc]
  simp [hf]
theorem store_new0 {P : Program} (w : World) (a b c u : Value) (T : TypeId) (hu : u.oneCell' = true) (m : Mode) : (store ⟨w.heap.size, 0, none⟩ u m).run P (w.alloc (.cells #[a, b, c] T)) = .ok () (w.alloc (.cells #[u, b, c] T)) := by
  rw [(show Rw w.heap.size 3 (w.alloc (.cells #[a, b, c] T)) from ⟨#[a, b, c], T, by show (w.heap.push _)[w.heap.size]? = _; simp, by simp⟩).store (by omega) hu m]
  simp [go_sem]
theorem store_new1 {P : Program} (w : World) (a b c u : Value) (T : TypeId) (hu : u.oneCell' = true) (m : Mode) : (store ⟨w.heap.size, 1, none⟩ u m).run P (w.alloc (.cells #[a, b, c] T)) = .ok () (w.alloc (.cells #[a, u, c] T)) := by
  rw [(show Rw w.heap.size 3 (w.alloc (.cells #[a, b, c] T)) from ⟨#[a, b, c], T, by show (w.heap.push _)[w.heap.size]? = _; simp, by simp⟩).store (by omega) hu m]
  simp [go_sem]
theorem store_new2 {P : Program} (w : World) (a b c u : Value) (T : TypeId) (hu : u.oneCell' = true) (m : Mode) : (store ⟨w.heap.size, 2, none⟩ u m).run P (w.alloc (.cells #[a, b, c] T)) = .ok () (w.alloc (.cells #[a, b, u] T)) := by
  rw [(show Rw w.heap.size 3 (w.alloc (.cells #[a, b, c] T)) from ⟨#[a, b, c], T, by show (w.heap.push _)[w.heap.size]? = _; simp, by simp⟩).store (by omega) hu m]
  simp [go_sem]
theorem store_two0 {P : Program} (w : World) (a b u : Value) (T : TypeId) (hu : u.oneCell' = true) (m : Mode) : (store ⟨w.heap.size, 0, none⟩ u m).run P (w.alloc (.cells #[a, b] T)) = .ok () (w.alloc (.cells #[u, b] T)) := by
  rw [(show Rw w.heap.size 2 (w.alloc (.cells #[a, b] T)) from ⟨#[a, b], T, by show (w.heap.push _)[w.heap.size]? = _; simp, by simp⟩).store (by omega) hu m]
  simp [go_sem]
theorem store_two1 {P : Program} (w : World) (a b u : Value) (T : TypeId) (hu : u.oneCell' = true) (m : Mode) : (store ⟨w.heap.size, 1, none⟩ u m).run P (w.alloc (.cells #[a, b] T)) = .ok () (w.alloc (.cells #[a, u] T)) := by
  rw [(show Rw w.heap.size 2 (w.alloc (.cells #[a, b] T)) from ⟨#[a, b], T, by show (w.heap.push _)[w.heap.size]? = _; simp, by simp⟩).store (by omega) hu m]
  simp [go_sem]
theorem own_rw {w : World} {base size n c g : Nat} {e : TypeId} {xs : List Value} (h : w.ownsRow base e size (.slice (some ⟨g, 0, none⟩) n c) n xs) : Rw g (n * size) w := by
  rcases h.2 with ⟨h1, h2⟩ | ⟨g', cap, cur, hv, hb, hg, h3, h4, h5, h6⟩
  · simp at h1
  · injection hv with e1 e2 e3
    simp only [Option.some.injEq, Addr.mk.injEq, and_true] at e1
    subst e1 e3
    exact ⟨cur, e, hg, by rw [h5]; exact Nat.mul_le_mul_right _ h3⟩
theorem own_keep {w w' : World} {base size n : Nat} {e : TypeId} {v : Value} {xs : List Value} (h : w.ownsRow base e size v n xs) (hk : ∀ g, v.ownBlock = some g → w'.heap[g]? = w.heap[g]?) : w'.ownsRow base e size v n xs := by
  refine ⟨h.1, ?_⟩
  rcases h.2 with h2 | ⟨g, cap, cur, rfl, k1, k2, k3⟩
  · exact .inl h2
  · exact .inr ⟨g, cap, cur, rfl, k1, (hk g rfl).trans k2, k3⟩
theorem own_at {w : World} {base size n : Nat} {e : TypeId} {v : Value} {xs : List Value} (h : w.ownsRow base e size v n xs) : ∃ a c, v = .slice a n c ∧ n ≤ c ∧ c ≤ maxLen := by
  rcases h.2 with ⟨rfl, rfl⟩ | ⟨g, cap, cur, rfl, _, _, k3, k4, _⟩
  · exact ⟨none, 0, rfl, Nat.le_refl _, by decide⟩
  · exact ⟨_, cap, rfl, k3, k4⟩
theorem own_block {w : World} {base size n : Nat} {e : TypeId} {v : Value} {xs : List Value} (h : w.ownsRow base e size v n xs) {g : Nat} (hg : v.ownBlock = some g) : base ≤ g ∧ g < w.heap.size ∧ ∃ cur, w.heap[g]? = some (.cells cur e (0, 0)) := by
  rcases h.2 with ⟨rfl, _⟩ | ⟨g', cap, cur, rfl, k1, k2, _⟩
  · cases hg
  · simp [Value.ownBlock] at hg
    subst hg
    exact ⟨k1, (Array.getElem?_eq_some_iff.1 k2).1, cur, k2⟩
theorem own_some {w : World} {base size n : Nat} {e : TypeId} {v : Value} {xs : List Value} (h : w.ownsRow base e size v n xs) (hn : 0 < n) : ∃ g c, v = .slice (some ⟨g, 0, none⟩) n c ∧ n ≤ c ∧ c ≤ maxLen := by
  rcases h.2 with ⟨_, h9⟩ | ⟨g, cap, cur, rfl, _, _, k3, k4, _⟩
  · omega
  · exact ⟨g, cap, rfl, k3, k4⟩
end Go.Proofs.Ytodjfebceljjgaa.U
