/- Things in the order of their ranks, as plain lists: what a merge comes to. No function is read here. -/
import Derived.Test.YtodjfebceljjgaaKe
namespace Go.Proofs.Ytodjfebceljjgaa.U
open Go.RowKit

/-- A thing's rank and number. -/
abbrev T2 := Int × Int
/-- Put ahead of all that are not ahead of it. -/
def ins (x : T2) : List T2 → List T2
  | [] => [x]
  | y :: l => if x.1 ≤ y.1 then x :: y :: l else y :: ins x l
def sortI : List T2 → List T2
  | [] => []
  | x :: l => ins x (sortI l)
theorem ins_comm {x y : T2} (h : x.1 < y.1) : ∀ s, ins y (ins x s) = ins x (ins y s) := by
  intro s
  induction s with
  | nil => simp only [ins]; rw [if_neg (by omega), if_pos (by omega)]
  | cons z s ih =>
    simp only [ins]
    by_cases h1 : x.1 ≤ z.1
    · rw [if_pos h1]
      by_cases h2 : y.1 ≤ z.1
      · rw [if_pos h2]; simp only [ins]; rw [if_neg (by omega), if_pos h2, if_pos (by omega)]
      · rw [if_neg h2]; simp only [ins]; rw [if_neg (by omega), if_neg h2, if_pos h1]
    · rw [if_neg h1, if_neg (show ¬ y.1 ≤ z.1 by omega)]
      simp only [ins]
      rw [if_neg (by omega), if_neg h1, ih]
theorem ins_len (x : T2) : ∀ l, (ins x l).length = l.length + 1 := by
  intro l
  induction l with
  | nil => rfl
  | cons y l ih => simp only [ins]; split <;> simp [ih]
theorem sort_len : ∀ l, (sortI l).length = l.length := by
  intro l
  induction l with
  | nil => rfl
  | cons x l ih => simp only [sortI]; rw [ins_len, ih]; rfl
theorem ins_mem {x z : T2} : ∀ {l}, z ∈ ins x l → z = x ∨ z ∈ l := by
  intro l
  induction l with
  | nil => intro h; simp [ins] at h; exact .inl h
  | cons y l ih =>
    intro h
    simp only [ins] at h
    split at h
    · simpa using h
    · rcases List.mem_cons.1 h with h | h
      · exact .inr (by simp [h])
      · rcases ih h with h | h
        · exact .inl h
        · exact .inr (by simp [h])
theorem sort_mem {z : T2} : ∀ {l}, z ∈ sortI l → z ∈ l := by
  intro l
  induction l with
  | nil => intro h; exact h
  | cons x l ih =>
    intro h
    simp only [sortI] at h
    rcases ins_mem h with h | h
    · simp [h]
    · simp [ih h]
theorem ins_front {m : T2} : ∀ {l}, (∀ z ∈ l, m.1 ≤ z.1) → ins m l = m :: l := by
  intro l h
  cases l with
  | nil => rfl
  | cons y l => simp only [ins]; rw [if_pos (h y (by simp))]
theorem sort_pull {m : T2} : ∀ pre post, (∀ z ∈ pre, m.1 < z.1) → sortI (pre ++ m :: post) = ins m (sortI (pre ++ post)) := by
  intro pre
  induction pre with
  | nil => intro post _; rfl
  | cons y pre ih =>
    intro post h
    simp only [List.cons_append, sortI]
    rw [ih post (fun z hz => h z (by simp [hz])), ins_comm (h y (by simp))]
/-- The least one, of several the first, leads. -/
theorem sort_first {m : T2} {pre post : List T2} (h1 : ∀ z ∈ pre, m.1 < z.1) (h2 : ∀ z ∈ post, m.1 ≤ z.1) : sortI (pre ++ m :: post) = m :: sortI (pre ++ post) := by
  rw [sort_pull pre post h1]
  refine ins_front (fun z hz => ?_)
  rcases List.mem_append.1 (sort_mem hz) with h | h
  · exact Int.le_of_lt (h1 z h)
  · exact h2 z h
theorem sort_ins (x : T2) : ∀ l s, (ins x l).foldr ins s = ins x (l.foldr ins s) := by
  intro l
  induction l with
  | nil => intro s; rfl
  | cons y l ih =>
    intro s
    simp only [ins]
    split
    · rfl
    · simp only [List.foldr_cons]
      rw [ih s, ← ins_comm (by omega)]
theorem sort_foldr : ∀ l, sortI l = l.foldr ins [] := by
  intro l
  induction l with
  | nil => rfl
  | cons x l ih => simp only [sortI, List.foldr_cons, ih]
theorem foldr_sort : ∀ l s, (sortI l).foldr ins s = l.foldr ins s := by
  intro l
  induction l with
  | nil => intro s; rfl
  | cons x l ih => intro s; simp only [sortI, List.foldr_cons]; rw [sort_ins, ih]
/-- To sort a part first comes to the same. -/
theorem sort_part (a b : List T2) : sortI (sortI a ++ b) = sortI (a ++ b) := by
  rw [sort_foldr, sort_foldr (a ++ b), List.foldr_append, List.foldr_append, foldr_sort]
/-- A list's ranks do not fall. -/
def risesB : List T2 → Bool
  | [] => true
  | x :: l => (match l with | [] => true | y :: _ => decide (x.1 ≤ y.1)) && risesB l
theorem rises_at : ∀ l : List T2, risesB l = true ↔ ∀ i x y, l[i]? = some x → l[i + 1]? = some y → x.1 ≤ y.1 := by
  intro l
  induction l with
  | nil => simp [risesB]
  | cons x l ih =>
    simp only [risesB, Bool.and_eq_true]
    rw [ih]
    constructor
    · rintro ⟨h1, h2⟩ i a b ha hb
      cases i with
      | zero =>
        simp at ha hb
        subst ha
        cases l with
        | nil => simp at hb
        | cons y l => simp at hb h1; subst hb; exact h1
      | succ i => exact h2 i a b (by simpa using ha) (by simpa using hb)
    · intro h
      refine ⟨?_, fun i a b ha hb => h (i + 1) a b (by simpa using ha) (by simpa using hb)⟩
      cases l with
      | nil => rfl
      | cons y l => simp; exact h 0 x y (by simp) (by simp)
theorem rises_tail {x : T2} {l : List T2} (h : risesB (x :: l) = true) : risesB l = true := by
  simp only [risesB, Bool.and_eq_true] at h; exact h.2
theorem rises_head {x : T2} : ∀ {l : List T2}, risesB (x :: l) = true → ∀ z ∈ l, x.1 ≤ z.1 := by
  intro l
  induction l generalizing x with
  | nil => intro _ z hz; simp at hz
  | cons y l ih =>
    intro h z hz
    have h1 : x.1 ≤ y.1 := by simp only [risesB, Bool.and_eq_true, decide_eq_true_eq] at h; exact h.1
    rcases List.mem_cons.1 hz with rfl | hz
    · exact h1
    · exact Int.le_trans h1 (ih (rises_tail h) z hz)
theorem ins_rises {x : T2} : ∀ {l}, risesB l = true → risesB (ins x l) = true := by
  intro l
  induction l with
  | nil => intro _; rfl
  | cons y l ih =>
    intro h
    simp only [ins]
    split
    · simp only [risesB, Bool.and_eq_true, decide_eq_true_eq] at h ⊢
      exact ⟨by assumption, h⟩
    · have h2 := ih (rises_tail h)
      have h3 := rises_head h
      simp only [risesB, Bool.and_eq_true]
      refine ⟨?_, h2⟩
      cases hl : ins x l with
      | nil => rfl
      | cons z r =>
        simp
        have hz : z ∈ ins x l := by rw [hl]; simp
        rcases ins_mem hz with h4 | h4
        · rw [h4]; omega
        · exact h3 z h4
theorem sort_rises : ∀ l, risesB (sortI l) = true := by
  intro l
  induction l with
  | nil => rfl
  | cons x l ih => exact ins_rises ih
/-- One of several lists that rise: its first one is the least of all, and the first such. -/
theorem sort_lists {ls : List (List T2)} {j : Nat} {x : T2} {l : List T2} (hj : ls[j]? = some (x :: l)) (hr : ∀ q ∈ ls, risesB q = true) (hlo : ∀ i y q, i < j → ls[i]? = some (y :: q) → x.1 < y.1) (hhi : ∀ i y q, j ≤ i → ls[i]? = some (y :: q) → x.1 ≤ y.1) :
    sortI ls.flatten = x :: sortI (ls.set j l).flatten := by
  have hjl : j < ls.length := (List.getElem?_eq_some_iff.1 hj).1
  have e1 : ls = ls.take j ++ (x :: l) :: ls.drop (j + 1) := by
    have := List.take_append_drop j ls
    rw [List.drop_eq_getElem_cons hjl] at this
    rw [List.getElem?_eq_getElem hjl] at hj
    rw [Option.some.inj hj] at this
    exact this.symm
  have e2 : ls.set j l = ls.take j ++ l :: ls.drop (j + 1) := by
    rw [List.set_eq_take_append_cons_drop, if_pos hjl]
  have e3 : ls.flatten = (ls.take j).flatten ++ x :: (l ++ (ls.drop (j + 1)).flatten) := by
    conv => lhs; rw [e1]
    simp
  have e4 : (ls.set j l).flatten = (ls.take j).flatten ++ (l ++ (ls.drop (j + 1)).flatten) := by rw [e2]; simp
  rw [e3, e4]
  refine sort_first (fun z hz => ?_) (fun z hz => ?_)
  · obtain ⟨q, hq, hzq⟩ := List.mem_flatten.1 hz
    obtain ⟨i, hi, rfl⟩ := List.mem_iff_getElem.1 hq
    have hij : i < j := by simp at hi; omega
    rw [List.getElem_take] at hzq
    have hq2 : ls[i]? = some ls[i] := List.getElem?_eq_getElem (by omega)
    cases hc : ls[i] with
    | nil => rw [hc] at hzq; simp at hzq
    | cons y r =>
      rw [hc] at hzq hq2
      have h1 := hlo i y r hij hq2
      rcases List.mem_cons.1 hzq with rfl | h2
      · exact h1
      · have := rises_head (hr _ (List.mem_of_getElem? hq2)) z h2
        omega
  · rcases List.mem_append.1 hz with hz | hz
    · exact rises_head (hr _ (List.mem_of_getElem? hj)) z hz
    · obtain ⟨q, hq, hzq⟩ := List.mem_flatten.1 hz
      obtain ⟨i, hi, rfl⟩ := List.mem_iff_getElem.1 hq
      rw [List.getElem_drop] at hzq
      have hi2 : j + 1 + i < ls.length := by simp at hi; omega
      have hq2 : ls[j + 1 + i]? = some ls[j + 1 + i] := List.getElem?_eq_getElem hi2
      cases hc : ls[j + 1 + i] with
      | nil => rw [hc] at hzq; simp at hzq
      | cons y r =>
        rw [hc] at hzq hq2
        have h1 := hhi (j + 1 + i) y r (by omega) hq2
        rcases List.mem_cons.1 hzq with rfl | h2
        · exact h1
        · have := rises_head (hr _ (List.mem_of_getElem? hq2)) z h2
          omega
end Go.Proofs.Ytodjfebceljjgaa.U
