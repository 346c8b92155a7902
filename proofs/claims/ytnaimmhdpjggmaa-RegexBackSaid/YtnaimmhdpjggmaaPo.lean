/- What a law's expression and words are, and where they lie in memory. No function is read here. -/
import Derived.Test.YtnaimmhdpjggmaaMa
import Derived.Test.YtnaimmhdpjggmaaRows
import Derived.Deep.Slices
import Derived.Deep.Fields
import Derived.Deep.Strs
import Derived.ChangeSame
import Derived.ProofKit
namespace Go.Proofs.Ytnaimmhdpjggmaa.U
open Go.RowKit Go.ChangeShapes Go.WideShapes Go.Deep

theorem list_of {α : Type} {P : Nat → α → Prop} (n : Nat) (h : ∀ i, i < n → ∃ x, P i x) : ∃ l : List α, l.length = n ∧ ∀ i x, l[i]? = some x → P i x := by
  induction n with
  | zero => exact ⟨[], rfl, fun i x hx => by simp at hx⟩
  | succ n ih =>
    obtain ⟨l, h1, h2⟩ := ih (fun i hi => h i (by omega))
    obtain ⟨x, hx⟩ := h n (by omega)
    refine ⟨l ++ [x], by simp [h1], fun i y hy => ?_⟩
    rcases Nat.lt_or_ge i l.length with h3 | h3
    · rw [List.getElem?_append_left h3] at hy
      exact h2 i y hy
    · have h4 : i < (l ++ [x]).length := (List.getElem?_eq_some_iff.1 hy).1
      rw [List.length_append, List.length_singleton] at h4
      have h5 : i = l.length := by omega
      subst h5
      rw [List.getElem?_concat_length] at hy
      injection hy with hy
      rw [← hy, h1]
      exact hx
theorem field_of {H : Type} {enc : TypeId × Value → H} {w : World} {base : Nat} {spare : Nat → Bool} {held : Bool} {fs : Array Field} (hone : oneCellFields Try.prog fs = true) {n : Nat} {cs : List Value} {xs : List (DataW H × List MemPlace)} (hlen : cs.length = fs.size) (hxs : xs.length = fs.size)
    (hf : ∀ (i : Nat) (f : Field), fs[i]? = some f → DataW.trod enc Try.prog w base spare held n f.type ((cs.drop f.offset).take (Try.prog.cellsOf f.type)) = xs[i]?) (j : Nat) (f : Field) (hj : fs[j]? = some f) :
    ∃ v y, cs[j]? = some v ∧ xs[j]? = some y ∧ DataW.trod enc Try.prog w base spare held n f.type [v] = some y := by
  obtain ⟨ho, hk⟩ := hone_of hone j f hj
  have hjl : j < fs.size := (Array.getElem?_eq_some_iff.1 hj).1
  have h1 := hf j f hj
  rw [ho, hk, List.drop_eq_getElem_cons (by omega)] at h1
  exact ⟨cs[j]'(by omega), xs[j]'(by omega), List.getElem?_eq_getElem (by omega), List.getElem?_eq_getElem (by omega), h1.trans (List.getElem?_eq_getElem (by omega))⟩
/-- A slice of nodes that came in. -/
theorem open_nodes {H : Type} {enc : TypeId × Value → H} {w : World} {held : Bool} {fuel : Nat} {v : Value} {y : DataW H × List MemPlace} (h : DataW.trod enc Try.prog w 0 (fun _ => true) held fuel 22 [v] = some y) : ∃ l : List Nd, NR w v l := by
  rcases open_slice Try.underlying22 h with ⟨hcs, hx⟩ | ⟨x, len, cap, m, k, D, Pl, hcs, hb, hl, hm, hmm, hx, hi⟩
  · injection hcs with hcs
    subst hcs
    exact ⟨[], none, 0, rfl, by simp, by unfold maxLen; omega, fun h => by simp at h⟩
  · injection hcs with hcs
    subst hcs
    rw [show Try.prog.cellsOf 45 = 4 by kernel_rfl] at hi
    simp only [if_true] at hmm
    subst hmm
    obtain ⟨l, hal, hp⟩ := list_of (α := Nd) (P := fun i z => w.cell? (x.add (i * 4)) = some (.int .i64 z.op) ∧ w.cell? (x.add (i * 4 + 1)) = some (.string ⟨z.sym.toArray⟩) ∧ w.cell? (x.add (i * 4 + 2)) = some (.int .i64 z.a) ∧ w.cell? (x.add (i * 4 + 3)) = some (.int .i64 z.b)) len (fun i hil => by
      obtain ⟨cs', hc, ht⟩ := hi i (by omega)
      obtain ⟨xs, n, _, hy, hlen, hxl, hf⟩ := DataW.trod_struct Try.underlying45 ht
      obtain ⟨_, hcl, hat⟩ := World.cells?_some hc
      have hone := field_of (H := H) (by kernel_rfl) (by rw [hcl]; rfl) hxl hf
      obtain ⟨v0, y0, g0, e0, t0⟩ := hone 0 _ rfl
      obtain ⟨v1, y1, g1, e1, t1⟩ := hone 1 _ rfl
      obtain ⟨v2, y2, g2, e2, t2⟩ := hone 2 _ rfl
      obtain ⟨v3, y3, g3, e3, t3⟩ := hone 3 _ rfl
      obtain ⟨i0, r0, z0, _⟩ := DataW.trod_int Try.underlying3 t0
      obtain ⟨s1, r1, z1, _⟩ := DataW.trod_string Try.underlying9 t1
      obtain ⟨i2, r2, z2, _⟩ := DataW.trod_int Try.underlying3 t2
      obtain ⟨i3, r3, z3, _⟩ := DataW.trod_int Try.underlying3 t3
      injection r0 with r0
      injection r1 with r1
      injection r2 with r2
      injection r3 with r3
      subst r0 r1 r2 r3
      refine ⟨⟨i0, s1.data.toList, i2, i3⟩, ?_, ?_, ?_, ?_⟩
      · have := hat 0 (by omega)
        rw [add_add, Nat.add_zero, g0] at this
        rw [this]
      · have := hat 1 (by omega)
        rw [add_add, g1] at this
        rw [this]
      · have := hat 2 (by omega)
        rw [add_add, g2] at this
        rw [this]
      · have := hat 3 (by omega)
        rw [add_add, g3] at this
        rw [this])
    subst hal
    refine ⟨l, some x, m, rfl, hl, hm, fun h0 => ?_⟩
    obtain ⟨b, off, spot⟩ := x
    have hspot : spot = none := by
      have := World.cell?_spot (hp 0 _ (List.getElem?_eq_getElem h0)).1
      simpa [Addr.add] using this
    subst hspot
    have e : ∀ j, (⟨b, off, none⟩ : Addr).add j = ⟨b, off + j, none⟩ := fun j => by unfold Addr.add; split <;> simp_all
    refine ⟨b, off, rfl, fun i z hz => ?_⟩
    obtain ⟨p0, p1, p2, p3⟩ := hp i z hz
    rw [e] at p0 p1 p2 p3
    exact ⟨p0, by rw [Nat.add_assoc]; exact p1, by rw [Nat.add_assoc]; exact p2, by rw [Nat.add_assoc]; exact p3⟩
/-- An expression that came in. -/
theorem open_regex {H : Type} {enc : TypeId × Value → H} {w : World} {held : Bool} {fuel : Nat} {cs : List Value} {y : DataW H × List MemPlace} (h : DataW.trod enc Try.prog w 0 (fun _ => true) held fuel 24 cs = some y) (hl : cs.length = 1) : ∃ (v : Value) (l : List Nd), cs = [v] ∧ NR w v l := by
  obtain ⟨xs, n, _, hy, hlen, hxl, hf⟩ := DataW.trod_struct Try.underlying24 h
  have hone := field_of (H := H) (by kernel_rfl) (by rw [hl]; rfl) hxl hf
  obtain ⟨v0, y0, g0, e0, t0⟩ := hone 0 _ rfl
  obtain ⟨l, hn⟩ := open_nodes t0
  obtain ⟨c, rfl⟩ := List.length_eq_one_iff.1 hl
  simp only [List.getElem?_cons_zero, Option.some.injEq] at g0
  exact ⟨v0, l, by rw [g0], hn⟩
/-- Words that came in. -/
theorem open_words {H : Type} {enc : TypeId × Value → H} {w : World} {held : Bool} {fuel : Nat} {v : Value} {y : DataW H × List MemPlace} (h : DataW.trod enc Try.prog w 0 (fun _ => true) held fuel 25 [v] = some y) : ∃ l : List Wd, VR eS w v l := by
  rcases open_strs Try.underlying25 Try.underlying9 (by kernel_rfl) h with ⟨hcs, hx⟩ | ⟨x, len, cap, m, Sx, hcs, hb, hl, hm, hmm, hx, hi⟩
  · injection hcs with hcs
    subst hcs
    exact ⟨[], none, 0, rfl, by simp, by unfold maxLen; omega, fun h => by simp at h⟩
  · injection hcs with hcs
    subst hcs
    simp only [if_true] at hmm
    subst hmm
    obtain ⟨l, hal, hp⟩ := list_of (α := Wd) (P := fun i z => w.cell? (x.add i) = some (eS z)) len (fun i hil => ⟨(Sx i).data.toList, (hi i (by omega)).1⟩)
    subst hal
    refine ⟨l, some x, m, rfl, hl, hm, fun h0 => ?_⟩
    obtain ⟨b, off, spot⟩ := x
    have hspot : spot = none := by
      have := World.cell?_spot (hp 0 _ (List.getElem?_eq_getElem h0))
      simpa [Addr.add] using this
    subst hspot
    have e : ∀ j, (⟨b, off, none⟩ : Addr).add j = ⟨b, off + j, none⟩ := fun j => by unfold Addr.add; split <;> simp_all
    refine ⟨b, off, rfl, fun i z hz => ?_⟩
    have := hp i z hz
    rwa [e] at this
end Go.Proofs.Ytnaimmhdpjggmaa.U
