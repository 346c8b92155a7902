/- A heap, as a plain array: which swaps keep it. No function is read here. -/
import Derived.Below
namespace Go.Proofs.Ytodjfebceljjgaa.U
open Go.RowKit

/-- An order: nothing is ahead of itself; what is not behind goes on. -/
structure Ord {α : Type} (lt : α → α → Bool) : Prop where
  irr : ∀ x, lt x x = false
  asym : ∀ x y, lt x y = true → lt y x = false
  neg : ∀ x y z, lt y x = false → lt z y = false → lt z x = false
variable {α : Type} {lt : α → α → Bool}
def swapF (f : Nat → α) (i j : Nat) : Nat → α := fun k => if k = i then f j else if k = j then f i else f k
/-- No one of the first n is ahead of its parent. -/
def HeapF (lt : α → α → Bool) (f : Nat → α) (n : Nat) : Prop := ∀ k, 0 < k → k < n → lt (f k) (f ((k - 1) / 2)) = false
/-- But for the one at j, which may be ahead of its parent. -/
def UpF (lt : α → α → Bool) (f : Nat → α) (n j : Nat) : Prop :=
  (∀ k, 0 < k → k < n → k ≠ j → lt (f k) (f ((k - 1) / 2)) = false) ∧ (0 < j → ∀ k, 0 < k → k < n → (k - 1) / 2 = j → lt (f k) (f ((j - 1) / 2)) = false)
/-- But for the one at i, of which some child may be ahead. -/
def DownF (lt : α → α → Bool) (f : Nat → α) (n i : Nat) : Prop :=
  (∀ k, 0 < k → k < n → (k - 1) / 2 ≠ i → lt (f k) (f ((k - 1) / 2)) = false) ∧ (0 < i → ∀ k, 0 < k → k < n → (k - 1) / 2 = i → lt (f k) (f ((i - 1) / 2)) = false)
theorem up_done {f : Nat → α} {n j : Nat} (h : UpF lt f n j) (hj : j = 0 ∨ lt (f j) (f ((j - 1) / 2)) = false) : HeapF lt f n := fun k h0 hn => by
  by_cases e : k = j
  · subst e
    rcases hj with hj | hj
    · omega
    · exact hj
  · exact h.1 k h0 hn e
theorem up_step (ho : Ord lt) {f : Nat → α} {n j : Nat} (h : UpF lt f n j) (h0 : 0 < j) (hj : j < n) (hl : lt (f j) (f ((j - 1) / 2)) = true) : UpF lt (swapF f ((j - 1) / 2) j) n ((j - 1) / 2) := by
  obtain ⟨p, hp⟩ : ∃ p, p = (j - 1) / 2 := ⟨_, rfl⟩
  rw [← hp] at hl ⊢
  have hpj : p < j := by omega
  constructor
  · intro k k0 kn kp
    unfold swapF
    by_cases e : k = j
    · subst e
      rw [if_neg (by omega), if_pos rfl, if_pos hp.symm]
      exact ho.asym _ _ hl
    · rw [if_neg kp, if_neg e]
      by_cases e2 : (k - 1) / 2 = p
      · rw [if_pos e2]
        have h1 := h.1 k k0 kn e
        rw [e2] at h1
        exact ho.neg _ _ _ (ho.asym _ _ hl) h1
      · rw [if_neg e2]
        by_cases e3 : (k - 1) / 2 = j
        · rw [if_pos e3]
          have h1 := h.2 h0 k k0 kn e3
          rw [← hp] at h1
          exact h1
        · rw [if_neg e3]
          exact h.1 k k0 kn e
  · intro p0 k k0 kn kp
    unfold swapF
    have hpp : (p - 1) / 2 ≠ p := by omega
    have hpj2 : (p - 1) / 2 ≠ j := by omega
    rw [if_neg hpp, if_neg hpj2]
    have h1 := h.1 p p0 (by omega) (by omega)
    by_cases e : k = j
    · subst e
      rw [if_neg (by omega), if_pos rfl]
      exact h1
    · rw [if_neg (by omega), if_neg e]
      have h2 := h.1 k k0 kn e
      rw [kp] at h2
      exact ho.neg _ _ _ h1 h2
theorem down_done {f : Nat → α} {n i : Nat} (h : DownF lt f n i) (hi : ∀ k, 0 < k → k < n → (k - 1) / 2 = i → lt (f k) (f i) = false) : HeapF lt f n := fun k h0 hn => by
  by_cases e : (k - 1) / 2 = i
  · rw [e]; exact hi k h0 hn e
  · exact h.1 k h0 hn e
theorem down_step (ho : Ord lt) {f : Nat → α} {n i j : Nat} (h : DownF lt f n i) (h0 : 0 < j) (hj : j < n) (hp : (j - 1) / 2 = i) (hl : lt (f j) (f i) = true) (hb : ∀ k, 0 < k → k < n → (k - 1) / 2 = i → lt (f k) (f j) = false) : DownF lt (swapF f i j) n j := by
  have hij : i < j := by omega
  constructor
  · intro k k0 kn kp
    unfold swapF
    by_cases e : k = i
    · subst e
      rw [if_pos rfl, if_neg (by omega), if_neg (by omega)]
      exact h.2 k0 j h0 hj hp
    · rw [if_neg e]
      by_cases e2 : k = j
      · subst e2
        rw [if_pos rfl, if_pos hp]
        exact ho.asym _ _ hl
      · rw [if_neg e2]
        by_cases e3 : (k - 1) / 2 = i
        · rw [if_pos e3]
          exact hb k k0 kn e3
        · rw [if_neg e3, if_neg kp]
          exact h.1 k k0 kn e3
  · intro _ k k0 kn kp
    unfold swapF
    rw [hp, if_pos rfl, if_neg (by omega), if_neg (by omega)]
    have := h.1 k k0 kn (by omega)
    rw [kp] at this
    exact this
/-- The first one of a heap: no one is ahead of it. -/
theorem heap_first (ho : Ord lt) {f : Nat → α} {n : Nat} (h : HeapF lt f n) : ∀ k, k < n → lt (f k) (f 0) = false := by
  intro k
  induction k using Nat.strongRecOn with
  | _ k ih =>
    intro hk
    by_cases e : k = 0
    · subst e; exact ho.irr _
    · exact ho.neg _ _ _ (ih ((k - 1) / 2) (by omega) (by omega)) (h k (by omega) hk)
theorem heap_less {f : Nat → α} {n m : Nat} (h : HeapF lt f n) (hm : m ≤ n) : HeapF lt f m := fun k h0 hk => h k h0 (by omega)
theorem heap_congr {f g : Nat → α} {n : Nat} (h : HeapF lt f n) (e : ∀ k, k < n → g k = f k) : HeapF lt g n := fun k h0 hk => by
  rw [e k hk, e _ (by omega)]; exact h k h0 hk
theorem up_congr {f g : Nat → α} {n j : Nat} (h : UpF lt f n j) (hj : j < n) (e : ∀ k, k < n → g k = f k) : UpF lt g n j :=
  ⟨fun k h0 hk hne => by rw [e k hk, e _ (by omega)]; exact h.1 k h0 hk hne, fun h1 k h0 hk hne => by rw [e k hk, e _ (by omega)]; exact h.2 h1 k h0 hk hne⟩
theorem down_congr {f g : Nat → α} {n i : Nat} (h : DownF lt f n i) (hi : i ≤ n) (e : ∀ k, k < n → g k = f k) : DownF lt g n i :=
  ⟨fun k h0 hk hne => by rw [e k hk, e _ (by omega)]; exact h.1 k h0 hk hne, fun h1 k h0 hk hne => by rw [e k hk, e _ (by omega)]; exact h.2 h1 k h0 hk hne⟩
/-- One more behind a heap. -/
theorem up_snoc {f : Nat → α} {n : Nat} (h : HeapF lt f n) : UpF lt f (n + 1) n :=
  ⟨fun k h0 hk hne => h k h0 (by omega), fun _ k _ hk hne => by omega⟩
/-- The last one in the first one's place. -/
theorem down_top {f : Nat → α} {n : Nat} (h : HeapF lt f (n + 1)) : DownF lt (swapF f 0 n) n 0 :=
  ⟨fun k h0 hk hne => by unfold swapF; rw [if_neg (by omega), if_neg (by omega), if_neg hne, if_neg (by omega)]; exact h k h0 (by omega), fun h1 => by omega⟩
theorem perm_swap (xs : Array α) (i j : Nat) (hi : i < xs.size) (hj : j < xs.size) : (xs.swap i j hi hj).toList.Perm xs.toList := (Array.swap_perm hi hj).toList
variable [Inhabited α]
theorem get_swap (xs : Array α) (i j : Nat) (hi : i < xs.size) (hj : j < xs.size) (k : Nat) (hk : k < xs.size) : (xs.swap i j hi hj)[k]! = swapF (fun k => xs[k]!) i j k := by
  unfold swapF
  rw [getElem!_pos _ k (by simpa using hk), Array.getElem_swap]
  simp only [getElem!_pos xs i hi, getElem!_pos xs j hj, getElem!_pos xs k hk]
theorem swap_toList (xs : Array α) (i j : Nat) (hi : i < xs.size) (hj : j < xs.size) : (xs.swap i j hi hj).toList = (xs.toList.set i xs[j]!).set j xs[i]! := by
  rw [getElem!_pos xs i hi, getElem!_pos xs j hj]
  unfold Array.swap
  simp
end Go.Proofs.Ytodjfebceljjgaa.U
