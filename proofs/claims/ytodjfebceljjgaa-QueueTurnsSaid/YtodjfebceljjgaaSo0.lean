/- What is put, as plain lists; what is marked. No function is read here. -/
import Derived.Test.YtodjfebceljjgaaOi
namespace Go.Proofs.Ytodjfebceljjgaa.U
open Go.RowKit Q1

/-- The first k of a list, each with its number and turn, the last one first. -/
def thR (l : List Int) : Nat → List Th
  | 0 => []
  | k + 1 => (l.getD k 0, (k : Int), (k : Int)) :: thR l k
theorem thR_len (l : List Int) : ∀ k, (thR l k).length = k := by
  intro k
  induction k with
  | zero => rfl
  | succ k ih => simp [thR, ih]
theorem thR_mem (l : List Int) : ∀ k x, x ∈ thR l k → ∃ j : Nat, j < k ∧ x = (l.getD j 0, (j : Int), (j : Int)) := by
  intro k
  induction k with
  | zero => intro x h; simp [thR] at h
  | succ k ih =>
    intro x h
    rcases List.mem_cons.1 h with rfl | h
    · exact ⟨k, by omega, rfl⟩
    · obtain ⟨j, h1, h2⟩ := ih x h
      exact ⟨j, by omega, h2⟩
theorem thR_one (l : List Int) : ∀ k, (thR l k).Pairwise fun x y => x.2.1 ≠ y.2.1 := by
  intro k
  induction k with
  | zero => exact List.Pairwise.nil
  | succ k ih =>
    refine List.pairwise_cons.2 ⟨fun y hy => ?_, ih⟩
    obtain ⟨j, h1, rfl⟩ := thR_mem l k y hy
    simp only []
    omega
/-- The marks: of each that is taken 1. -/
def seenA (tk : List Th) (n : Nat) : Array Value := ((List.range n).map fun (j : Nat) => Value.int .i64 (if (tk.any fun y => y.2.1 == (j : Int)) = true then 1 else 0)).toArray
theorem seenA_size (tk : List Th) (n : Nat) : (seenA tk n).size = n := by simp [seenA]
theorem seenA_get (tk : List Th) (n j : Nat) (h : j < n) (hn : ∀ y ∈ tk, y.2.1 ≠ (j : Int)) : (seenA tk n)[j]? = some (.int .i64 0) := by
  unfold seenA
  rw [List.getElem?_toArray, List.getElem?_map, List.getElem?_range h]
  have : (tk.any fun y => y.2.1 == (j : Int)) = false := by
    rw [bF, List.any_eq_true]
    rintro ⟨y, hy, e⟩
    exact hn y hy (by simpa using e)
  simp [this]
theorem seenA_set (tk : List Th) (n j : Nat) (x : Th) (hx : x.2.1 = (j : Int)) : (seenA tk n).setIfInBounds j (.int .i64 1) = seenA (x :: tk) n := by
  apply Array.ext_getElem?
  intro i
  rw [Array.getElem?_setIfInBounds]
  by_cases e : j = i
  · subst e
    rw [if_pos rfl, seenA_size]
    by_cases h : j < n
    · rw [if_pos h]
      unfold seenA
      rw [List.getElem?_toArray, List.getElem?_map, List.getElem?_range h]
      simp [hx]
    · rw [if_neg h]
      rw [Array.getElem?_eq_none (by rw [seenA_size]; omega)]
  · rw [if_neg e]
    unfold seenA
    rw [List.getElem?_toArray, List.getElem?_toArray, List.getElem?_map, List.getElem?_map]
    by_cases h : i < n
    · rw [List.getElem?_range h]
      have e2 : (x.2.1 == (i : Int)) = false := by rw [beq_eq_false_iff_ne, hx]; omega
      have e3 : ((x :: tk).any fun y => y.2.1 == (i : Int)) = tk.any fun y => y.2.1 == (i : Int) := by rw [List.any_cons, e2, Bool.false_or]
      simp only [Option.map_some, e3]
    · rw [List.getElem?_eq_none (by simp; omega)]
      rfl
theorem seenA_new (n : Nat) : seenA [] n = (List.replicate n (Value.int .i64 0)).toArray := by
  unfold seenA
  congr 1
  apply List.ext_getElem?
  intro i
  rw [List.getElem?_map, List.getElem?_replicate]
  by_cases h : i < n
  · rw [List.getElem?_range h, if_pos h]; rfl
  · rw [List.getElem?_eq_none (by simp; omega), if_neg h]; rfl
/-- What is taken, and what is left, of what was put. -/
structure Half (l : List Int) (n : Nat) (tk m : List Th) : Prop where
  perm : (tk ++ m).Perm (thR l n)
  last : ∀ z r, tk = z :: r → ∀ y ∈ m, ltT gUp y z = false
theorem Half.of {l : List Int} {n : Nat} {tk m : List Th} (h : Half l n tk m) {x : Th} (hx : x ∈ m) : ∃ j : Nat, j < n ∧ x = (l.getD j 0, (j : Int), (j : Int)) ∧ ∀ y ∈ tk, y.2.1 ≠ (j : Int) := by
  have h1 := h.perm.mem_iff.1 (List.mem_append_right tk hx)
  obtain ⟨j, hj, e⟩ := thR_mem l n x h1
  refine ⟨j, hj, e, fun y hy he => ?_⟩
  have hp := (h.perm.pairwise_iff (fun hxy => Ne.symm hxy)).2 (thR_one l n)
  rw [List.pairwise_append] at hp
  exact hp.2.2 y hy x hx (by rw [he, e])
theorem Half.next {l : List Int} {n : Nat} {tk m r : List Th} {x : Th} (h : Half l n tk m) (hp : m.Perm (x :: r)) (hmin : ∀ y ∈ m, ltT gUp y x = false) : Half l n (x :: tk) r :=
  ⟨((List.perm_append_left_iff tk).2 hp |>.trans List.perm_middle).symm.trans h.perm |> fun q => q, fun z r' e y hy => by
    injection e with e1 _
    rw [← e1]
    exact hmin y (hp.mem_iff.2 (by simp [hy]))⟩
theorem Half.len {l : List Int} {n : Nat} {tk m : List Th} (h : Half l n tk m) : tk.length + m.length = n := by
  have := h.perm.length_eq
  rw [List.length_append, thR_len] at this
  exact this
/-- The one that is ahead is one alone. -/
theorem min_one {l : List Int} {n c d : Nat} {W0 : World} {tk m : List Th} {x y : Th} (h : Half l n tk m) (hx : IsMin (E1 gUp c d W0) m x) (hy : IsMin (E1 gUp c d W0) m y) : x = y := by
  have h1 : ltT gUp x y = false := hy.2 x hx.1
  have h2 : ltT gUp y x = false := hx.2 y hy.1
  rw [bF, lt_up] at h1 h2
  obtain ⟨j, _, rfl, _⟩ := h.of hx.1
  obtain ⟨i, _, rfl, _⟩ := h.of hy.1
  simp only [] at h1 h2
  have : i = j := by omega
  rw [this]
end Go.Proofs.Ytodjfebceljjgaa.U
