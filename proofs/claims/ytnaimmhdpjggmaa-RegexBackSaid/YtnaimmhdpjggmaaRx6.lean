/- What both checks count, as plain lists. No dump is read here. -/
import Derived.Test.YtnaimmhdpjggmaaRx5
namespace Go.Proofs.Ytnaimmhdpjggmaa.U

def tkL (n : Nat) (U : List Int) : List Bool := (List.range n).map fun j : Nat => decide ((j : Int) ∈ U)
def cntL (n : Nat) (U : List Int) : List Int := (List.range n).map fun j : Nat => ((U.count (j : Int) : Nat) : Int)
theorem tkL_len (n : Nat) (U : List Int) : (tkL n U).length = n := by simp [tkL]
theorem cntL_len (n : Nat) (U : List Int) : (cntL n U).length = n := by simp [cntL]
theorem tkL_get {n j : Nat} (U : List Int) (h : j < n) : (tkL n U)[j]? = some (decide ((j : Int) ∈ U)) := by
  unfold tkL; rw [List.getElem?_map, List.getElem?_range h]; rfl
theorem cntL_get {n j : Nat} (U : List Int) (h : j < n) : (cntL n U)[j]? = some ((U.count (j : Int) : Nat) : Int) := by
  unfold cntL; rw [List.getElem?_map, List.getElem?_range h]; rfl
theorem tkL_nil (n : Nat) : tkL n [] = List.replicate n false := by
  unfold tkL
  refine List.ext_getElem? fun i => ?_
  by_cases h : i < n
  · rw [List.getElem?_map, List.getElem?_range h]; simp [h]
  · rw [List.getElem?_eq_none (by simp; omega), List.getElem?_eq_none (by simp; omega)]
theorem cntL_nil (n : Nat) : cntL n [] = List.replicate n 0 := by
  unfold cntL
  refine List.ext_getElem? fun i => ?_
  by_cases h : i < n
  · rw [List.getElem?_map, List.getElem?_range h]; simp [h]
  · rw [List.getElem?_eq_none (by simp; omega), List.getElem?_eq_none (by simp; omega)]
theorem tkL_set {n p : Nat} (U : List Int) (h : p < n) : (tkL n U).set p true = tkL n (U ++ [(p : Int)]) := by
  refine List.ext_getElem? fun i => ?_
  by_cases hi : i < n
  · rw [tkL_get _ hi]
    by_cases e : p = i
    · subst e
      rw [List.getElem?_set_self (by rw [tkL_len]; exact h)]
      simp
    · rw [List.getElem?_set_ne e, tkL_get _ hi]
      congr 1
      rw [Bool.eq_iff_iff]
      simp only [decide_eq_true_eq, List.mem_append, List.mem_singleton]
      constructor
      · exact .inl
      · rintro (h1 | h1)
        · exact h1
        · exact absurd (cast_inj h1).symm e
  · rw [List.getElem?_eq_none (by rw [List.length_set, tkL_len]; omega), List.getElem?_eq_none (by rw [tkL_len]; omega)]
theorem cntL_set {n p : Nat} (U : List Int) (h : p < n) : (cntL n U).set p (((U.count (p : Int) : Nat) : Int) + 1) = cntL n (U ++ [(p : Int)]) := by
  refine List.ext_getElem? fun i => ?_
  by_cases hi : i < n
  · rw [cntL_get _ hi]
    by_cases e : p = i
    · subst e
      rw [List.getElem?_set_self (by rw [cntL_len]; exact h)]
      rw [List.count_append, count_one, if_pos rfl]
      simp
    · rw [List.getElem?_set_ne e, cntL_get _ hi, List.count_append, count_one, if_neg (fun h1 => e (cast_inj h1))]
      rfl
  · rw [List.getElem?_eq_none (by rw [List.length_set, cntL_len]; omega), List.getElem?_eq_none (by rw [cntL_len]; omega)]
theorem uses_snoc {l : List Nd} {k : Nat} {n : Nd} (h : l[k]? = some n) : usesL (l.take (k + 1)) = usesL (l.take k) ++ partsN n := by
  rw [List.take_add_one, h]
  unfold usesL
  rw [List.flatMap_append]
  simp
theorem take_snocP {P : List Int} {q : Nat} {p : Int} (h : P[q]? = some p) (U : List Int) : U ++ P.take (q + 1) = (U ++ P.take q) ++ [p] := by
  rw [List.take_add_one, h, ← List.append_assoc]; rfl
theorem partsN_len (n : Nd) : (partsN n).length ≤ 2 := by
  unfold partsN
  split
  · simp
  · split <;> simp
theorem uses_len (l : List Nd) : (usesL l).length ≤ 2 * l.length := by
  unfold usesL
  induction l with
  | nil => simp
  | cons x l ih =>
    have := partsN_len x
    rw [List.flatMap_cons, List.length_append, List.length_cons]
    omega
theorem form_not_at {l : List Nd} {i : Nat} {n : Nd} (h : l[i]? = some n) (k : okAt n i = false) : formB l = false := by
  cases hf : formB l with
  | false => rfl
  | true => rw [form_at hf h] at k; cases k
theorem form_not_use {l : List Nd} {j : Nat} (hj : j < l.length - 1) (k : (usesL l).count (j : Int) ≠ 1) : formB l = false := by
  cases hf : formB l with
  | false => rfl
  | true => exact absurd (form_use hf hj) k
theorem form_not_nil : formB ([] : List Nd) = false := rfl
/-- A part that was one already. -/
theorem form_twice {l : List Nd} {k q : Nat} {x : Nd} {p : Int} (hx : l[k]? = some x) (hq : (partsN x)[q]? = some p) (h0 : 0 ≤ p ∧ p < (k : Int)) (hm : p ∈ usesL (l.take k) ++ (partsN x).take q) : formB l = false := by
  obtain ⟨a, rfl, ha⟩ := nat_of h0
  have hk := (List.getElem?_eq_some_iff.1 hx).1
  refine form_not_use (j := a) (by omega) ?_
  have e : l = l.take (k + 1) ++ l.drop (k + 1) := (List.take_append_drop _ _).symm
  have h1 : 2 ≤ (usesL (l.take (k + 1))).count (a : Int) := by
    rw [uses_snoc hx]
    have e2 : partsN x = (partsN x).take q ++ ([(a : Int)] ++ (partsN x).drop (q + 1)) := by
      obtain ⟨hql, he⟩ := List.getElem?_eq_some_iff.1 hq
      rw [← he, List.singleton_append, ← List.drop_eq_getElem_cons hql, List.take_append_drop]
    have hm2 := List.count_pos_iff.2 hm
    rw [List.count_append] at hm2
    rw [e2, List.count_append, List.count_append, List.count_append, count_one, if_pos rfl]
    omega
  have h2 : (usesL l).count (a : Int) = (usesL (l.take (k + 1))).count (a : Int) + (usesL (l.drop (k + 1))).count (a : Int) := by
    conv => lhs; rw [e, uses_app, List.count_append]
  omega
/-- The uses are parts that stand ahead. -/
theorem use_mem {l : List Nd} (h : ∀ i n, l[i]? = some n → okAt n i = true) {p : Int} (hp : p ∈ usesL l) : ∃ a : Nat, p = a ∧ a + 1 < l.length := by
  unfold usesL at hp
  obtain ⟨n, hn, hpn⟩ := List.mem_flatMap.1 hp
  obtain ⟨i, hi, rfl⟩ := List.mem_iff_getElem.1 hn
  obtain ⟨_, h2⟩ := okAt_iff.1 (h i _ (List.getElem?_eq_getElem hi))
  obtain ⟨a, rfl, ha⟩ := nat_of (h2 p hpn)
  exact ⟨a, rfl, by omega⟩
theorem form_of_taken {l : List Nd} (h0 : 0 < l.length) (h1 : ∀ i n, l[i]? = some n → okAt n i = true) (hn : (usesL l).Nodup) : formB l = decide (∀ j : Nat, j < l.length - 1 → (j : Int) ∈ usesL l) := by
  rw [Bool.eq_iff_iff, decide_eq_true_eq]
  constructor
  · intro hf j hj
    exact List.count_pos_iff.1 (by rw [form_use hf hj]; omega)
  · intro h
    refine form_mk h0 h1 fun j hj => ?_
    have := List.count_pos_iff.2 (h j hj)
    have := List.nodup_iff_count.1 hn (j : Int)
    omega
end Go.Proofs.Ytnaimmhdpjggmaa.U
