/- Regular expressions as plain things: nodes, what is wrong with them, their trees, and what they match. No dump is read here. -/
import Derived.Test.YtnaimmhdpjggmaaNm
namespace Go.Proofs.Ytnaimmhdpjggmaa.U

/-- A word. -/
abbrev Wd := List UInt8
/-- A node. -/
structure Nd where
  op : Int
  sym : Wd
  a : Int
  b : Int
deriving DecidableEq

def nd0 : Nd := ⟨0, [], 0, 0⟩
/-- The parts of a node. -/
def partsN (n : Nd) : List Int := if n.op = 3 ∨ n.op = 4 then [n.a, n.b] else if n.op = 5 then [n.a] else []
/-- Whether there is such a node wherever it stands. -/
def okN (n : Nd) : Bool := decide ((n.op = 0 ∨ n.op = 1) ∧ n.sym = [] ∧ n.a = 0 ∧ n.b = 0 ∨ n.op = 2 ∧ n.a = 0 ∧ n.b = 0 ∨ (n.op = 3 ∨ n.op = 4) ∧ n.sym = [] ∨ n.op = 5 ∧ n.sym = [] ∧ n.b = 0)
def usesL (l : List Nd) : List Int := l.flatMap partsN
/-- Whether a node may stand at a place. -/
def okAt (n : Nd) (i : Nat) : Bool := okN n && (partsN n).all fun p => decide (0 ≤ p ∧ p < (i : Int))
/-- Whether nodes are an expression, but for their number and names. -/
def formB (l : List Nd) : Bool := decide (0 < l.length) && ((List.range l.length).all (fun i => okAt (l.getD i nd0) i) && (List.range (l.length - 1)).all fun j => decide ((usesL l).count (j : Int) = 1))
def namesB (l : List Nd) : Bool := l.all fun n => decide (n.op ≠ 2) || nameL n.sym
/-- What is wrong with nodes. -/
def chkP (l : List Nd) : Int := if 1024 < l.length then 17 else if formB l = true then (if namesB l = true then 0 else 11) else 12

/-- A tree. -/
inductive RE where
  | none
  | empty
  | sym (s : Wd)
  | cat (s t : RE)
  | alt (s t : RE)
  | star (s : RE)
deriving DecidableEq

/-- The tree that stands at a place. -/
inductive Sh (l : List Nd) : Nat → RE → Prop
  | none {i : Nat} (h : l[i]? = some ⟨0, [], 0, 0⟩) : Sh l i .none
  | empty {i : Nat} (h : l[i]? = some ⟨1, [], 0, 0⟩) : Sh l i .empty
  | sym {i : Nat} {s : Wd} (h : l[i]? = some ⟨2, s, 0, 0⟩) : Sh l i (.sym s)
  | cat {i a b : Nat} {s t : RE} (h : l[i]? = some ⟨3, [], (a : Int), (b : Int)⟩) (ha : a < i) (hb : b < i) (hs : Sh l a s) (ht : Sh l b t) : Sh l i (.cat s t)
  | alt {i a b : Nat} {s t : RE} (h : l[i]? = some ⟨4, [], (a : Int), (b : Int)⟩) (ha : a < i) (hb : b < i) (hs : Sh l a s) (ht : Sh l b t) : Sh l i (.alt s t)
  | star {i a : Nat} {s : RE} (h : l[i]? = some ⟨5, [], (a : Int), 0⟩) (ha : a < i) (hs : Sh l a s) : Sh l i (.star s)

theorem form_at {l : List Nd} (h : formB l = true) {i : Nat} {n : Nd} (hn : l[i]? = some n) : okAt n i = true := by
  unfold formB at h
  rw [Bool.and_eq_true, Bool.and_eq_true, List.all_eq_true] at h
  have hi := (List.getElem?_eq_some_iff.1 hn).1
  have := h.2.1 i (List.mem_range.2 hi)
  rwa [List.getD_eq_getElem?_getD, hn] at this
theorem form_pos {l : List Nd} (h : formB l = true) : 0 < l.length := by
  unfold formB at h
  rw [Bool.and_eq_true] at h
  simpa using h.1
theorem form_use {l : List Nd} (h : formB l = true) {j : Nat} (hj : j < l.length - 1) : (usesL l).count (j : Int) = 1 := by
  unfold formB at h
  rw [Bool.and_eq_true, Bool.and_eq_true, List.all_eq_true (l := List.range (l.length - 1))] at h
  simpa using h.2.2 j (List.mem_range.2 hj)
theorem form_mk {l : List Nd} (h0 : 0 < l.length) (h1 : ∀ i n, l[i]? = some n → okAt n i = true) (h2 : ∀ j : Nat, j < l.length - 1 → (usesL l).count (j : Int) = 1) : formB l = true := by
  unfold formB
  rw [Bool.and_eq_true, Bool.and_eq_true, List.all_eq_true, List.all_eq_true]
  refine ⟨by simpa using h0, fun i hi => ?_, fun j hj => by simpa using h2 j (List.mem_range.1 hj)⟩
  have hi := List.mem_range.1 hi
  rw [List.getD_eq_getElem?_getD, List.getElem?_eq_getElem hi]
  exact h1 i _ (List.getElem?_eq_getElem hi)
theorem okAt_iff {n : Nd} {i : Nat} : okAt n i = true ↔ okN n = true ∧ ∀ p ∈ partsN n, 0 ≤ p ∧ p < (i : Int) := by
  unfold okAt
  rw [Bool.and_eq_true, List.all_eq_true]
  simp only [decide_eq_true_eq]
theorem nat_of {p : Int} {i : Nat} (h : 0 ≤ p ∧ p < (i : Int)) : ∃ a : Nat, p = a ∧ a < i := ⟨p.toNat, by omega, by omega⟩
theorem sh_of {l : List Nd} (h : formB l = true) : ∀ i, i < l.length → ∃ t, Sh l i t := by
  intro i
  induction i using Nat.strongRecOn with
  | ind i ih =>
    intro hi
    obtain ⟨n, hn⟩ : ∃ n, l[i]? = some n := ⟨_, List.getElem?_eq_getElem hi⟩
    obtain ⟨h1, h2⟩ := okAt_iff.1 (form_at h hn)
    obtain ⟨op, sym, a, b⟩ := n
    unfold okN at h1
    simp only [decide_eq_true_eq] at h1
    rcases h1 with ⟨rfl | rfl, rfl, rfl, rfl⟩ | ⟨rfl, rfl, rfl⟩ | ⟨rfl | rfl, rfl⟩ | ⟨rfl, rfl, rfl⟩
    · exact ⟨_, .none hn⟩
    · exact ⟨_, .empty hn⟩
    · exact ⟨_, .sym hn⟩
    · obtain ⟨a', rfl, ha⟩ := nat_of (h2 a (by simp [partsN]))
      obtain ⟨b', rfl, hb⟩ := nat_of (h2 b (by simp [partsN]))
      obtain ⟨s, hs⟩ := ih a' ha (by omega)
      obtain ⟨t, ht⟩ := ih b' hb (by omega)
      exact ⟨_, .cat hn ha hb hs ht⟩
    · obtain ⟨a', rfl, ha⟩ := nat_of (h2 a (by simp [partsN]))
      obtain ⟨b', rfl, hb⟩ := nat_of (h2 b (by simp [partsN]))
      obtain ⟨s, hs⟩ := ih a' ha (by omega)
      obtain ⟨t, ht⟩ := ih b' hb (by omega)
      exact ⟨_, .alt hn ha hb hs ht⟩
    · obtain ⟨a', rfl, ha⟩ := nat_of (h2 a (by simp [partsN]))
      obtain ⟨s, hs⟩ := ih a' ha (by omega)
      exact ⟨_, .star hn ha hs⟩
theorem Sh.lt {l : List Nd} {i : Nat} {t : RE} (h : Sh l i t) : i < l.length := by
  cases h <;> exact (List.getElem?_eq_some_iff.1 ‹_›).1
theorem cast_inj {a b : Nat} (h : (a : Int) = b) : a = b := by omega
theorem Sh.inj {l : List Nd} {i : Nat} {s t : RE} (h : Sh l i s) (k : Sh l i t) : s = t := by
  induction h generalizing t with
  | none h =>
    cases k with
    | none k => rfl
    | empty k | sym k | cat k | alt k | star k => rw [h] at k; simp at k
  | empty h =>
    cases k with
    | empty k => rfl
    | none k | sym k | cat k | alt k | star k => rw [h] at k; simp at k
  | sym h =>
    cases k with
    | sym k => rw [h] at k; simp at k; rw [k]
    | none k | empty k | cat k | alt k | star k => rw [h] at k; simp at k
  | @cat i a b s1 t1 h _ _ _ _ i1 i2 =>
    cases k with
    | none k | empty k | sym k | star k | alt k => rw [h] at k; simp at k
    | cat k _ _ k1 k2 =>
      rw [h] at k
      simp only [Option.some.injEq, Nd.mk.injEq] at k
      have e1 := cast_inj k.2.2.1
      have e2 := cast_inj k.2.2.2
      subst e1 e2
      rw [i1 k1, i2 k2]
  | @alt i a b s1 t1 h _ _ _ _ i1 i2 =>
    cases k with
    | none k | empty k | sym k | star k | cat k => rw [h] at k; simp at k
    | alt k _ _ k1 k2 =>
      rw [h] at k
      simp only [Option.some.injEq, Nd.mk.injEq] at k
      have e1 := cast_inj k.2.2.1
      have e2 := cast_inj k.2.2.2
      subst e1 e2
      rw [i1 k1, i2 k2]
  | star h _ _ i1 =>
    cases k with
    | none k | empty k | sym k | cat k | alt k => rw [h] at k; simp at k
    | star k _ k1 =>
      rw [h] at k
      simp only [Option.some.injEq, Nd.mk.injEq] at k
      have e1 := cast_inj k.2.2.1
      subst e1
      rw [i1 k1]

/-- What a tree matches. -/
inductive Lg : RE → List Wd → Prop
  | empty : Lg .empty []
  | sym (s : Wd) : Lg (.sym s) [s]
  | cat {s t : RE} {u v : List Wd} (h : Lg s u) (k : Lg t v) : Lg (.cat s t) (u ++ v)
  | alt1 {s t : RE} {u : List Wd} (h : Lg s u) : Lg (.alt s t) u
  | alt2 {s t : RE} {u : List Wd} (h : Lg t u) : Lg (.alt s t) u
  | nil {s : RE} : Lg (.star s) []
  | more {s : RE} {u v : List Wd} (h : Lg s u) (k : Lg (.star s) v) : Lg (.star s) (u ++ v)
theorem Lg.cat_iff {s t : RE} {w : List Wd} : Lg (.cat s t) w ↔ ∃ u v, w = u ++ v ∧ Lg s u ∧ Lg t v := by
  constructor
  · intro h
    cases h with
    | cat h k => exact ⟨_, _, rfl, h, k⟩
  · rintro ⟨u, v, rfl, h, k⟩
    exact .cat h k
theorem Lg.alt_iff {s t : RE} {w : List Wd} : Lg (.alt s t) w ↔ Lg s w ∨ Lg t w := by
  constructor
  · intro h
    cases h with
    | alt1 h => exact .inl h
    | alt2 h => exact .inr h
  · rintro (h | h)
    · exact .alt1 h
    · exact .alt2 h
theorem Lg.none_iff {w : List Wd} : Lg .none w ↔ False := ⟨fun h => (by cases h), False.elim⟩
theorem Lg.empty_iff {w : List Wd} : Lg .empty w ↔ w = [] := by
  constructor
  · intro h; cases h; rfl
  · rintro rfl; exact .empty
theorem Lg.sym_iff {s : Wd} {w : List Wd} : Lg (.sym s) w ↔ w = [s] := by
  constructor
  · intro h; cases h; rfl
  · rintro rfl; exact .sym s
/-- A row of a star begins with a part that is not nothing. -/
theorem Lg.star_cons {s : RE} {x : Wd} {w : List Wd} : Lg (.star s) (x :: w) ↔ ∃ u v, w = u ++ v ∧ Lg s (x :: u) ∧ Lg (.star s) v := by
  constructor
  · intro h
    generalize ht : RE.star s = t at h
    generalize hw : x :: w = y at h
    induction h generalizing w with
    | empty | sym | cat | alt1 | alt2 => cases ht
    | nil => cases hw
    | @more s' u v h k _ ih =>
      cases ht
      cases u with
      | nil => exact ih rfl (by simpa using hw)
      | cons y u =>
        simp only [List.cons_append, List.cons.injEq] at hw
        obtain ⟨rfl, rfl⟩ := hw
        exact ⟨u, v, rfl, h, k⟩
  · rintro ⟨u, v, rfl, h, k⟩
    exact .more h k
theorem Lg.star_iff {s : RE} {w : List Wd} : Lg (.star s) w ↔ w = [] ∨ ∃ x u v, w = x :: (u ++ v) ∧ Lg s (x :: u) ∧ Lg (.star s) v := by
  cases w with
  | nil => exact ⟨fun _ => .inl rfl, fun _ => .nil⟩
  | cons x w =>
    rw [Lg.star_cons]
    constructor
    · rintro ⟨u, v, rfl, h, k⟩; exact .inr ⟨x, u, v, rfl, h, k⟩
    · rintro (h | ⟨y, u, v, h, k, j⟩)
      · cases h
      · cases h; exact ⟨u, v, rfl, k, j⟩
end Go.Proofs.Ytnaimmhdpjggmaa.U
