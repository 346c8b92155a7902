/- A queue of rests is made; which lists it holds. -/
import Derived.Test.YtodjfebceljjgaaM3
namespace Go.Proofs.Ytodjfebceljjgaa.U
open Go.RowKit Q2

/-- What is left of a list: its value, its things, which one it is, its turn. -/
structure Rs where
  a : Option Addr
  n : Nat
  c : Nat
  l : List T2
  i : Int
  t : Int
instance : Inhabited Rs := ⟨⟨none, 0, 0, [], 0, 0⟩⟩
def hd (x : Rs) : Int := match x.l with | [] => 0 | y :: _ => y.1
def ltR (x y : Rs) : Bool := decide (orI (orI (cmpI (hd x) (hd y)) (cmpI x.i y.i)) (cmpI x.t y.t) < 0)
def rv (x : Rs) : Value := .slice x.a x.n x.c
/-- Rests over the world ahead of the queue's making. -/
def E2 (w W0 : World) : En Rs :=
  { e0 := rv, e1 := fun x => .int .i64 x.i, e2 := fun x => .int .i64 x.t, lt := ltR, D := fun k => k ≤ w.heap.size, W0 := W0, ok := fun x => RT w (rv x) x.l ∧ x.l ≠ [], cap := .pointer (some ⟨w.heap.size, 0, none⟩) }
theorem one2 (w W0 : World) : OneC (E2 w W0) := ⟨fun _ => rfl, fun _ => rfl, fun _ => rfl⟩
theorem or_zero (x y : Int) : orI x y = 0 ↔ x = 0 ∧ y = 0 := by
  unfold orI
  split
  · constructor <;> intro h <;> omega
  · constructor <;> intro h <;> omega
theorem lt_r (x y : Rs) : ltR x y = true ↔ hd x < hd y ∨ (hd x = hd y ∧ (x.i < y.i ∨ (x.i = y.i ∧ x.t < y.t))) := by
  unfold ltR
  rw [decide_eq_true_iff, or_neg, or_neg, or_zero, cmp_neg, cmp_neg, cmp_neg, cmp_zero, cmp_zero]
  omega
theorem ord_r : Ord ltR := ⟨fun x => by rw [bF, lt_r]; omega, fun x y h => by rw [lt_r] at h; rw [bF, lt_r]; omega, fun x y z h1 h2 => by rw [bF, lt_r] at h1 h2 ⊢; omega⟩
theorem RT.blocks {w W : World} {v : Value} {l : List T2} (h : RT w v l) (hb : ∀ k, k < w.heap.size → W.heap[k]? = w.heap[k]?) : RT W v l := by
  obtain ⟨a, c, h1, h2, h3, h4⟩ := h
  refine ⟨a, c, h1, h2, h3, fun h0 => ?_⟩
  obtain ⟨g, o, e, h5⟩ := h4 h0
  refine ⟨g, o, e, fun i x hx => ?_⟩
  obtain ⟨k1, k2⟩ := h5 i x hx
  exact ⟨(World.cell?_of_block (hb _ (blk_of_cell k1))).trans k1, (World.cell?_of_block (hb _ (blk_of_cell k2))).trans k2⟩
/-- What is read to tell which rest is ahead. -/
structure Clo2 (ob c : Nat) (w : World) : Prop where
  ho : w.cell? ⟨ob, 0, none⟩ = some (.func (.func 50) #[] #[.pointer (some ⟨c, 0, none⟩)])
  hc : w.cell? ⟨c, 0, none⟩ = some (.func (.func 10) #[] #[])
def madeE (ob : Nat) (w : World) : World := (w.alloc (.cells #[.func (.func 35) #[] #[.pointer (some ⟨ob, 0, none⟩)]] 80)).alloc (.cells #[.slice none 0 0, .func (.func 55) #[] #[.pointer (some ⟨w.heap.size, 0, none⟩)], .int .i64 0] 109)
theorem made_size (ob : Nat) (w : World) : (madeE ob w).heap.size = w.heap.size + 2 := by unfold madeE; simp
theorem made_below (ob : Nat) (w : World) : Below w.heap.size w (madeE ob w) := two_new _ _ _
theorem ahead2 {ob c : Nat} {w : World} (hcl : Clo2 ob c w) : AheadC (E2 w (madeE ob w)) := by
  intro x y W hs hsn hx hy
  obtain ⟨hx1, hx2⟩ := hx
  obtain ⟨hy1, hy2⟩ := hy
  have hbk : ∀ k, k < w.heap.size → W.heap[k]? = w.heap[k]? := fun k hk => (hsn k (Nat.le_of_lt hk)).trans ((made_below ob w).block k hk)
  have hd0 : W.cell? ⟨w.heap.size, 0, none⟩ = some (.func (.func 35) #[] #[.pointer (some ⟨ob, 0, none⟩)]) := by
    have h1 : W.heap[w.heap.size]? = _ := (hsn w.heap.size (Nat.le_refl _)).trans (heap_new1 w (.cells #[.func (.func 35) #[] #[.pointer (some ⟨ob, 0, none⟩)]] 80) _)
    rw [Lib.cell_of_heap h1]; rfl
  have ho := (World.cell?_of_block (hbk ob (blk_of_cell hcl.ho)) : W.cell? ⟨ob, 0, none⟩ = w.cell? ⟨ob, 0, none⟩).trans hcl.ho
  have hc := (World.cell?_of_block (hbk c (blk_of_cell hcl.hc)) : W.cell? ⟨c, 0, none⟩ = w.cell? ⟨c, 0, none⟩).trans hcl.hc
  obtain ⟨xa, xn, xc, xl, xi, xt⟩ := x
  obtain ⟨ya, yn, yc, yl, yi, yt⟩ := y
  cases xl with
  | nil => exact absurd rfl hx2
  | cons p l =>
    cases yl with
    | nil => exact absurd rfl hy2
    | cons q r => exact ahead2_any ob c w.heap.size xa ya xn yn xc yc xi yi xt yt p q l r W (hx1.blocks hbk) (hy1.blocks hbk) hd0 ho hc
theorem qat2_new (ob : Nat) (w : World) (base : Nat) (hb : base ≤ w.heap.size + 1) : QS (E2 w (madeE ob w)) (madeE ob w) base (w.heap.size + 1) (.slice none 0 0) [] 0 := by
  have hq : (madeE ob w).heap[w.heap.size + 1]? = some (.cells #[.slice none 0 0, fnv (E2 w (madeE ob w)), .int .i64 0] 109 (0, 0)) := by
    have e1 : (w.alloc (.cells #[.func (.func 35) #[] #[.pointer (some ⟨ob, 0, none⟩)]] 80)).heap.size = w.heap.size + 1 := by simp
    rw [← e1]
    exact heap_new0 _ _
  refine ⟨#[], ⟨hq, by omega, World.ownsRow_nil _ _ _ _, Nat.le_refl _, fun k hk => ?_, fun _ _ => rfl, ⟨fun hk => ?_, fun g' e => by cases e⟩, fun x hx => by simp at hx⟩, List.Perm.refl _, fun k h0 hk => by simp at hk⟩
  · have h1 : k ≤ w.heap.size := hk
    have h2 : (E2 w (madeE ob w)).W0.heap.size = w.heap.size + 2 := made_size ob w
    omega
  · have h1 : w.heap.size + 1 ≤ w.heap.size := hk
    omega
set_option maxRecDepth 10000 in
theorem empty2_any (ob : Nat) (w : World) : Calls Try.prog 34 #[.func (.func 35) #[] #[.pointer (some ⟨ob, 0, none⟩)]] w fun e w' => e = .returned (.pointer (some ⟨w.heap.size + 1, 0, none⟩)) ∧ w' = madeE ob w := by
  have hmf : ∀ (fn : Fn) (first cap : Array Value) (w : World), (Instr.makeFunc fn first cap).run Try.prog w = .ok (.func fn first cap) w := fun _ _ _ _ => rfl
  go_enter Try.func34, Try.ntmps34
  go_wp2
  go_ret
  exact ⟨rfl, rfl⟩
/-- The rests of lists: of each list that is not empty one. -/
structure Rests (ls : List (List T2)) (m : List Rs) : Prop where
  of : ∀ x ∈ m, ∃ i : Nat, x.i = i ∧ ls[i]? = some x.l ∧ x.l ≠ []
  all : ∀ (i : Nat) l, ls[i]? = some l → l ≠ [] → ∃ x ∈ m, x.i = (i : Int)
  one : m.Pairwise fun x y => x.i ≠ y.i
theorem Rests.perm {ls : List (List T2)} {m m' : List Rs} (h : Rests ls m) (hp : m.Perm m') : Rests ls m' :=
  ⟨fun x hx => h.of x (hp.mem_iff.2 hx), fun i l hl hn => by obtain ⟨x, hx, e⟩ := h.all i l hl hn; exact ⟨x, hp.mem_iff.1 hx, e⟩, (hp.pairwise_iff (fun hxy => Ne.symm hxy)).1 h.one⟩
/-- One list is shorter by its first. -/
theorem Rests.next {ls : List (List T2)} {x z : Rs} {r : List Rs} (h : Rests ls (x :: r)) {j : Nat} {t : List T2} (hj : x.i = j) (hzi : z.i = x.i) (hzl : z.l = t) : Rests (ls.set j t) (if t = [] then r else z :: r) := by
  obtain ⟨j', e1, e2, e3⟩ := h.of x (by simp)
  obtain rfl : j' = j := by omega
  have hjl : j' < ls.length := (List.getElem?_eq_some_iff.1 e2).1
  have hne : ∀ z ∈ r, z.i ≠ (j' : Int) := fun z hz e => (List.pairwise_cons.1 h.one).1 z hz (by omega)
  have hr : ∀ z ∈ r, ∃ i : Nat, z.i = i ∧ (ls.set j' t)[i]? = some z.l ∧ z.l ≠ [] := fun z hz => by
    obtain ⟨i, k1, k2, k3⟩ := h.of z (by simp [hz])
    exact ⟨i, k1, by rw [List.getElem?_set_ne (by intro e; exact hne z hz (by omega))]; exact k2, k3⟩
  have ha : ∀ (i : Nat) l, i ≠ j' → (ls.set j' t)[i]? = some l → l ≠ [] → ∃ z ∈ r, z.i = (i : Int) := fun i l hij hl hn => by
    rw [List.getElem?_set_ne (Ne.symm hij)] at hl
    obtain ⟨z, hz, e⟩ := h.all i l hl hn
    rcases List.mem_cons.1 hz with rfl | hz
    · omega
    · exact ⟨z, hz, e⟩
  have hp := (List.pairwise_cons.1 h.one).2
  by_cases ht : t = []
  · rw [if_pos ht]
    subst ht
    refine ⟨hr, fun i l hl hn => ?_, hp⟩
    by_cases e : i = j'
    · subst e
      rw [List.getElem?_set_self hjl] at hl
      exact absurd (Option.some.inj hl).symm hn
    · exact ha i l e hl hn
  · rw [if_neg ht]
    refine ⟨fun y hz => ?_, fun i l hl hn => ?_, List.pairwise_cons.2 ⟨fun y hz e => hne y hz (by omega), hp⟩⟩
    · rcases List.mem_cons.1 hz with rfl | hz
      · exact ⟨j', by omega, by rw [hzl]; exact List.getElem?_set_self hjl, by rw [hzl]; exact ht⟩
      · exact hr y hz
    · by_cases e : i = j'
      · subst e
        exact ⟨z, by simp, by omega⟩
      · obtain ⟨z, hz, e⟩ := ha i l e hl hn
        exact ⟨z, by simp [hz], e⟩
/-- The one that is ahead leads all that is left. -/
theorem rests_min {ls : List (List T2)} {m : List Rs} {x : Rs} (h : Rests ls m) (hmem : x ∈ m) (hmin : ∀ y ∈ m, ltR y x = false) (hr : ∀ q ∈ ls, risesB q = true) : ∃ (j : Nat) (y : T2) (t : List T2), x.i = j ∧ x.l = y :: t ∧ ls[j]? = some (y :: t) ∧ sortI ls.flatten = y :: sortI (ls.set j t).flatten := by
  obtain ⟨j, e1, e2, e3⟩ := h.of x hmem
  cases hl : x.l with
  | nil => exact absurd hl e3
  | cons y t =>
    rw [hl] at e2
    have hx : hd x = y.1 := by unfold hd; rw [hl]
    have key : ∀ (i : Nat) y' q, ls[i]? = some (y' :: q) → y.1 ≤ y'.1 ∧ (i < j → y.1 < y'.1) := fun i y' q hi => by
      obtain ⟨z, hz, ez⟩ := h.all i _ hi (by simp)
      obtain ⟨i', k1, k2, _⟩ := h.of z hz
      obtain rfl : i' = i := by omega
      rw [hi] at k2
      have hzl : z.l = y' :: q := (Option.some.inj k2).symm
      have hz1 : hd z = y'.1 := by unfold hd; rw [hzl]
      have := hmin z hz
      rw [bF, lt_r, hz1, hx] at this
      constructor
      · omega
      · intro hij; omega
    exact ⟨j, y, t, e1, rfl, e2, sort_lists e2 hr (fun i y' q hij hi => (key i y' q hi).2 hij) (fun i y' q _ hi => (key i y' q hi).1)⟩
theorem rests_none {ls : List (List T2)} (h : Rests ls []) : ls.flatten = [] := by
  rw [List.flatten_eq_nil_iff]
  intro l hl
  obtain ⟨i, hi, rfl⟩ := List.mem_iff_getElem.1 hl
  by_cases e : ls[i] = []
  · exact e
  · obtain ⟨x, hx, _⟩ := h.all i _ (List.getElem?_eq_getElem hi) e
    simp at hx
end Go.Proofs.Ytodjfebceljjgaa.U
