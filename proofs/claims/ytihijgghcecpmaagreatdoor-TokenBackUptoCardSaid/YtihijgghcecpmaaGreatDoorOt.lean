/- What a law's tokens are, where they lie in memory, and of what size they are together. No function is read here. -/
import Derived.Test.YtihijgghcecpmaaGreatDoorQ11
import Derived.Test.YtihijgghcecpmaaGreatDoorQ21
import Derived.Test.YtihijgghcecpmaaGreatDoorRows
import Derived.Deep.Slices
import Derived.Deep.Fields
import Derived.ChangeSame
namespace Go.Proofs.YtihijgghcecpmaaGreatDoor.U
open Go.RowKit Go.Shelf Go.ChangeShapes Go.WideShapes Go.Deep

theorem list_of {α : Type} [Inhabited α] {P : Nat → α → Prop} (n : Nat) (h : ∀ i, i < n → ∃ x, P i x) : ∃ l : List α, l.length = n ∧ ∀ i x, l[i]? = some x → P i x := by
  induction n with
  | zero => exact ⟨[], rfl, fun i x hx => by simp at hx⟩
  | succ n ih =>
    obtain ⟨l, h1, h2⟩ := ih (fun i hi => h i (by omega))
    obtain ⟨x, hx⟩ := h n (by omega)
    refine ⟨l ++ [x], by simp [h1], fun i y hy => ?_⟩
    rcases Nat.lt_or_ge i l.length with h3 | h3
    · rw [List.getElem?_append_left h3] at hy
      exact h2 i y hy
    · have h4 : i < (l ++ [x]).length := (List.getElem?_eq_some_iff.1 hy).1
      rw [List.length_append, List.length_singleton] at h4
      have h5 : i = l.length := by omega
      subst h5
      rw [List.getElem?_concat_length] at hy
      injection hy with hy
      rw [← hy, h1]
      exact hx
theorem sum_bulk {α H : Type} (f : α → Nat) (D : Nat → DataW H) : ∀ (l : List α) (k : Nat), (∀ i x, l[i]? = some x → f x ≤ Rows.uptoBulk (D (k + i))) → (l.map f).sum ≤ Rows.uptoBulkAll ((List.range' k l.length).map D) := by
  intro l
  induction l with
  | nil => intro k _; simp
  | cons c t ih =>
    intro k h
    have h0 := h 0 c rfl
    have h1 := ih (k + 1) (fun i x hx => by
      have := h (i + 1) x (by simpa using hx)
      rwa [show k + (i + 1) = k + 1 + i by omega] at this)
    simp only [List.length_cons, List.range'_succ, List.map_cons, List.sum_cons, Rows.uptoBulkAll]
    rw [Nat.add_zero] at h0
    omega
theorem bulk_slice {H : Type} {α : Type} (f : α → Nat) (D : Nat → DataW H) (l : List α) (spare : List (DataW H)) (h : ∀ i x, l[i]? = some x → f x ≤ Rows.uptoBulk (D i)) : (l.map f).sum + 1 ≤ Rows.uptoBulk (.slice ((List.range l.length).map D) spare) := by
  have := sum_bulk f D l 0 (fun i x hx => by rw [Nat.zero_add]; exact h i x hx)
  rw [← List.range_eq_range'] at this
  simp only [Rows.uptoBulk]
  omega
theorem sum_ge {α : Type} (f : α → Nat) (h1 : ∀ x, 1 ≤ f x) : ∀ l : List α, l.length ≤ (l.map f).sum := by
  intro l
  induction l with
  | nil => simp
  | cons c t ih => have := h1 c; simp only [List.length_cons, List.map_cons, List.sum_cons]; omega
theorem sum_mem {α : Type} (f : α → Nat) : ∀ {l : List α} {x : α}, x ∈ l → f x ≤ (l.map f).sum := by
  intro l
  induction l with
  | nil => intro x h; cases h
  | cons c t ih =>
    intro x h
    simp only [List.map_cons, List.sum_cons]
    rcases List.mem_cons.1 h with rfl | h
    · omega
    · have := ih h; omega
theorem attr_cells_inv {al : List (List UInt8 × List UInt8)} {w : World} {x : Addr} (h : ∀ i a, al[i]? = some a → w.cell? (x.add (i * 2)) = some (.string ⟨a.1.toArray⟩) ∧ w.cell? (x.add (i * 2 + 1)) = some (.string ⟨a.2.toArray⟩)) :
    ∀ j u, (attrCells al)[j]? = some u → w.cell? (x.add j) = some u := by
  intro j u hj
  have hl : j < (attrCells al).length := (List.getElem?_eq_some_iff.1 hj).1
  rw [attrCells_len] at hl
  have hi : j / 2 < al.length := by omega
  obtain ⟨h1, h2⟩ := attrCells_get al (j / 2) hi
  obtain ⟨h3, h4⟩ := h (j / 2) _ (List.getElem?_eq_getElem hi)
  rcases Nat.mod_two_eq_zero_or_one j with e | e
  · have e2 : j / 2 * 2 = j := by omega
    rw [e2] at h1 h3
    rw [h3, ← hj, h1]
  · have e2 : j / 2 * 2 + 1 = j := by omega
    rw [e2] at h2 h4
    rw [h4, ← hj, h2]
theorem tv_cells_inv {l : List (Tok × Value)} {w : World} {x : Addr} (h : ∀ i y, l[i]? = some y → ∀ r u, (tokCells y.1 y.2).toList[r]? = some u → w.cell? (x.add (i * 5 + r)) = some u) :
    ∀ j u, (tvCells l)[j]? = some u → w.cell? (x.add j) = some u := by
  induction l generalizing x with
  | nil => intro j u hj; simp [tvCells] at hj
  | cons c t ih =>
    intro j u hj
    have e5 : (tokCells c.1 c.2).toList.length = 5 := rfl
    have e : tvCells (c :: t) = (tokCells c.1 c.2).toList ++ tvCells t := by unfold tvCells; rw [List.flatMap_cons]
    rw [e] at hj
    rcases Nat.lt_or_ge j 5 with h1 | h1
    · rw [List.getElem?_append_left (by rw [e5]; exact h1)] at hj
      have := h 0 c rfl j u hj
      rwa [Nat.zero_mul, Nat.zero_add] at this
    · rw [List.getElem?_append_right (by rw [e5]; exact h1), e5] at hj
      have := ih (x := x.add 5) (fun i y hy r u hr => by
        rw [add_add, show 5 + (i * 5 + r) = (i + 1) * 5 + r by omega]
        exact h (i + 1) y (by simpa using hy) r u hr) (j - 5) u hj
      rw [add_add, show 5 + (j - 5) = j by omega] at this
      exact this
/-- A row at an address, as AtRow has it. -/
theorem atRow_of {w : World} {x : Addr} {len cap size : Nat} {xs : List Value} (hs : 0 < size) (hl : xs.length = len * size) (hc : len ≤ cap) (h : ∀ j u, xs[j]? = some u → w.cell? (x.add j) = some u) : AtRow w (.slice (some x) len cap) len size xs := by
  refine ⟨some x, cap, rfl, hc, hl, fun h0 => ?_⟩
  obtain ⟨b, off, spot⟩ := x
  have hpos : 0 < xs.length := by rw [hl]; exact Nat.mul_pos h0 hs
  have hspot : spot = none := by
    have := World.cell?_spot (h 0 _ (List.getElem?_eq_getElem hpos))
    simpa [Addr.add] using this
  subst hspot
  refine ⟨b, off, rfl, fun j u hj => ?_⟩
  have := h j u hj
  have e : (⟨b, off, none⟩ : Addr).add j = ⟨b, off + j, none⟩ := by unfold Addr.add; split <;> simp_all
  rwa [e] at this

/-- One field of one cell of a struct. -/
theorem field_of {H : Type} {enc : TypeId × Value → H} {w : World} {base : Nat} {spare : Nat → Bool} {held : Bool} {fs : Array Field} (hone : oneCellFields Tryz.prog fs = true) {n : Nat} {cs : List Value} {xs : List (DataW H × List MemPlace)} (hlen : cs.length = fs.size) (hxs : xs.length = fs.size)
    (hf : ∀ (i : Nat) (f : Field), fs[i]? = some f → DataW.trod enc Tryz.prog w base spare held n f.type ((cs.drop f.offset).take (Tryz.prog.cellsOf f.type)) = xs[i]?) (j : Nat) (f : Field) (hj : fs[j]? = some f) :
    ∃ v y, cs[j]? = some v ∧ xs[j]? = some y ∧ DataW.trod enc Tryz.prog w base spare held n f.type [v] = some y := by
  obtain ⟨ho, hk⟩ := hone_of hone j f hj
  have hjl : j < fs.size := (Array.getElem?_eq_some_iff.1 hj).1
  have h1 := hf j f hj
  rw [ho, hk, List.drop_eq_getElem_cons (by omega)] at h1
  exact ⟨cs[j]'(by omega), xs[j]'(by omega), List.getElem?_eq_getElem (by omega), List.getElem?_eq_getElem (by omega), h1.trans (List.getElem?_eq_getElem (by omega))⟩

/-- A slice of attributes that came in. -/
theorem open_attrs {H : Type} {enc : TypeId × Value → H} {w : World} {held : Bool} {fuel : Nat} {v : Value} {y : DataW H × List MemPlace} (h : DataW.trod enc Tryz.prog w 0 (fun _ => true) held fuel 36 [v] = some y) :
    ∃ al : List (List UInt8 × List UInt8), AtRow w v al.length 2 (attrCells al) ∧ al.length ≤ Rows.uptoBulk y.1 ∧ sumA al ≤ Rows.uptoBulk y.1 := by
  rcases open_slice Tryz.underlying36 h with ⟨hcs, hx⟩ | ⟨x, len, cap, m, k, D, Pl, hcs, hb, hl, hm, hmm, hx, hi⟩
  · injection hcs with hcs
    subst hcs
    exact ⟨[], ⟨none, 0, rfl, Nat.le_refl _, rfl, fun h => absurd h (by simp)⟩, by simp, by simp [sumA]⟩
  · injection hcs with hcs
    subst hcs
    rw [show Tryz.prog.cellsOf 48 = 2 by kernel_rfl] at hi
    simp only [if_true] at hmm
    subst hmm
    obtain ⟨al, hal, hp⟩ := list_of (α := List UInt8 × List UInt8) (P := fun i a => w.cell? (x.add (i * 2)) = some (.string ⟨a.1.toArray⟩) ∧ w.cell? (x.add (i * 2 + 1)) = some (.string ⟨a.2.toArray⟩) ∧ a.1.length + a.2.length + 1 ≤ Rows.uptoBulk (D i)) len (fun i hil => by
      obtain ⟨cs', hc, ht⟩ := hi i (by omega)
      obtain ⟨xs, n, _, hy, hlen, hxl, hf⟩ := DataW.trod_struct Tryz.underlying48 ht
      obtain ⟨_, hcl, hat⟩ := World.cells?_some hc
      have hone := field_of (H := H) (by kernel_rfl) (by rw [hcl]; rfl) hxl hf
      obtain ⟨v0, y0, g0, e0, t0⟩ := hone 0 _ rfl
      obtain ⟨v1, y1, g1, e1, t1⟩ := hone 1 _ rfl
      obtain ⟨s0, r0, z0, _⟩ := DataW.trod_string Tryz.underlying9 t0
      obtain ⟨s1, r1, z1, _⟩ := DataW.trod_string Tryz.underlying9 t1
      injection r0 with r0
      injection r1 with r1
      subst r0 r1 z0 z1
      refine ⟨(s0.data.toList, s1.data.toList), ?_, ?_, ?_⟩
      · have := hat 0 (by omega)
        rw [add_add, Nat.add_zero, g0] at this
        rw [this]
      · have := hat 1 (by omega)
        rw [add_add, g1] at this
        rw [this]
      · match xs, hxl, e0, e1 with
        | [a, b], _, e0, e1 =>
          simp only [List.getElem?_cons_zero, Option.some.injEq] at e0
          simp only [List.getElem?_cons_succ, List.getElem?_cons_zero, Option.some.injEq] at e1
          subst e0 e1
          have := (Prod.mk.inj hy).1
          rw [this]
          simp only [List.map_cons, List.map_nil, Rows.uptoBulk, Rows.uptoBulkAll]
          omega)
    have hx1 := (Prod.mk.inj hx).1
    subst hal
    have hsum := bulk_slice (fun a : List UInt8 × List UInt8 => a.1.length + a.2.length + 1) D al ((List.range (m - al.length)).map fun j => D (al.length + j)) (fun i a hia => (hp i a hia).2.2)
    have e : y.1 = (.slice ((List.range al.length).map D) ((List.range (m - al.length)).map fun j => D (al.length + j))) := by rw [hx]
    rw [e]
    refine ⟨al, atRow_of (by decide) (attrCells_len al) hl (attr_cells_inv (fun i a hia => ⟨(hp i a hia).1, (hp i a hia).2.1⟩)), ?_, ?_⟩
    · refine Nat.le_trans (Nat.le_trans (sum_ge _ (fun a => ?_) al) (Nat.le_succ _)) hsum
      omega
    · refine Nat.le_trans ?_ hsum
      unfold sumA
      have : ∀ l : List (List UInt8 × List UInt8), (l.map fun a => a.1.length + a.2.length).sum ≤ (l.map fun a => a.1.length + a.2.length + 1).sum := by
        intro l
        induction l with
        | nil => simp
        | cons c t ih => simp only [List.map_cons, List.sum_cons]; omega
      have := this al
      omega

/-- How much a piece is. -/
def bulkT (t : Tok) : Nat := t.name.length + t.text.length + t.attrs.length + 1
/-- A slice of pieces that came in. -/
theorem open_toks {H : Type} {enc : TypeId × Value → H} {w : World} {held : Bool} {fuel : Nat} {v : Value} {y : DataW H × List MemPlace} (h : DataW.trod enc Tryz.prog w 0 (fun _ => true) held fuel 24 [v] = some y) :
    ∃ l : List (Tok × Value), AtRow w v l.length 5 (tvCells l) ∧ (∀ x ∈ l, AtRow w x.2 x.1.attrs.length 2 (attrCells x.1.attrs)) ∧ l.length ≤ Rows.uptoBulk y.1 ∧ ∀ x ∈ l, bulkT x.1 ≤ Rows.uptoBulk y.1 ∧ sumA x.1.attrs ≤ Rows.uptoBulk y.1 := by
  rcases open_slice Tryz.underlying24 h with ⟨hcs, hx⟩ | ⟨x, len, cap, m, k, D, Pl, hcs, hb, hl, hm, hmm, hx, hi⟩
  · injection hcs with hcs
    subst hcs
    exact ⟨[], ⟨none, 0, rfl, Nat.le_refl _, rfl, fun h => absurd h (by simp)⟩, (fun x hx => by cases hx), by simp, fun x hx => by cases hx⟩
  · injection hcs with hcs
    subst hcs
    rw [show Tryz.prog.cellsOf 40 = 5 by kernel_rfl] at hi
    simp only [if_true] at hmm
    subst hmm
    have : Inhabited Tok := ⟨⟨0, [], [], [], false⟩⟩
    have : Inhabited (Tok × Value) := ⟨(default, .bool false)⟩
    obtain ⟨l, hal, hp⟩ := list_of (α := Tok × Value) (P := fun i z => (∀ r u, (tokCells z.1 z.2).toList[r]? = some u → w.cell? (x.add (i * 5 + r)) = some u) ∧ AtRow w z.2 z.1.attrs.length 2 (attrCells z.1.attrs) ∧ bulkT z.1 ≤ Rows.uptoBulk (D i) ∧ sumA z.1.attrs + 1 ≤ Rows.uptoBulk (D i)) len (fun i hil => by
      obtain ⟨cs', hc, ht⟩ := hi i (by omega)
      obtain ⟨xs, n, _, hy, hlen, hxl, hf⟩ := DataW.trod_struct Tryz.underlying40 ht
      obtain ⟨_, hcl, hat⟩ := World.cells?_some hc
      have hone := field_of (H := H) (by kernel_rfl) (by rw [hcl]; rfl) hxl hf
      obtain ⟨v0, y0, g0, e0, t0⟩ := hone 0 _ rfl
      obtain ⟨v1, y1, g1, e1, t1⟩ := hone 1 _ rfl
      obtain ⟨v2, y2, g2, e2, t2⟩ := hone 2 _ rfl
      obtain ⟨v3, y3, g3, e3, t3⟩ := hone 3 _ rfl
      obtain ⟨v4, y4, g4, e4, t4⟩ := hone 4 _ rfl
      obtain ⟨i0, r0, z0, _⟩ := DataW.trod_int Tryz.underlying3 t0
      obtain ⟨s1, r1, z1, _⟩ := DataW.trod_string Tryz.underlying9 t1
      obtain ⟨s2, r2, z2, _⟩ := DataW.trod_string Tryz.underlying9 t2
      obtain ⟨b4, r4, z4⟩ := DataW.trod_bool Tryz.underlying4 t4
      obtain ⟨al, ha1, ha2, ha3⟩ := open_attrs t3
      injection r0 with r0
      injection r1 with r1
      injection r2 with r2
      injection r4 with r4
      subst r0 r1 r2 r4 z0 z1 z2 z4
      refine ⟨(⟨i0, s1.data.toList, s2.data.toList, al, b4⟩, v3), ?_, ha1, ?_⟩
      · intro r u hr
        have hr5 : r < 5 := (List.getElem?_eq_some_iff.1 hr).1
        have h1 := hat r (by omega)
        rw [add_add] at h1
        rw [h1]
        match r, hr5, hr with
        | 0, _, hr => rw [g0, ← hr]; rfl
        | 1, _, hr => rw [g1, ← hr]; rfl
        | 2, _, hr => rw [g2, ← hr]; rfl
        | 3, _, hr => rw [g3, ← hr]; rfl
        | 4, _, hr => rw [g4, ← hr]; rfl
      · match xs, hxl, e0, e1, e2, e3, e4 with
        | [a, b, c, d, f], _, e0, e1, e2, e3, e4 =>
          simp only [List.getElem?_cons_zero, List.getElem?_cons_succ, Option.some.injEq] at e0 e1 e2 e3 e4
          subst e0 e1 e2 e3 e4
          have h1 := (Prod.mk.inj hy).1
          rw [h1]
          simp only [List.map_cons, List.map_nil, Rows.uptoBulk, Rows.uptoBulkAll, bulkT]
          simp only [Array.length_toList]
          constructor <;> omega)
    subst hal
    have hsum := bulk_slice (fun z : Tok × Value => bulkT z.1) D l ((List.range (m - l.length)).map fun j => D (l.length + j)) (fun i a hia => (hp i a hia).2.2.1)
    have hsum2 := bulk_slice (fun z : Tok × Value => sumA z.1.attrs) D l ((List.range (m - l.length)).map fun j => D (l.length + j)) (fun i a hia => by have := (hp i a hia).2.2.2; omega)
    have e : y.1 = (.slice ((List.range l.length).map D) ((List.range (m - l.length)).map fun j => D (l.length + j))) := by rw [hx]
    rw [e]
    have hcl : (tvCells l).length = l.length * 5 := by
      have : ∀ l : List (Tok × Value), (tvCells l).length = l.length * 5 := by
        intro l
        induction l with
        | nil => rfl
        | cons c t ih =>
          have e : tvCells (c :: t) = (tokCells c.1 c.2).toList ++ tvCells t := by unfold tvCells; rw [List.flatMap_cons]
          rw [e, List.length_append, ih, List.length_cons]
          show 5 + _ = _
          omega
      exact this l
    refine ⟨l, atRow_of (by decide) hcl hl (tv_cells_inv (fun i z hz => (hp i z hz).1)), fun z hz => ?_, ?_, fun z hz => ⟨?_, ?_⟩⟩
    · obtain ⟨i, hi⟩ := List.getElem?_of_mem hz
      exact (hp i z hi).2.1
    · exact Nat.le_trans (Nat.le_trans (sum_ge _ (fun a => by unfold bulkT; omega) l) (Nat.le_succ _)) hsum
    · exact Nat.le_trans (Nat.le_trans (sum_mem (fun z : Tok × Value => bulkT z.1) hz) (Nat.le_succ _)) hsum
    · exact Nat.le_trans (Nat.le_trans (sum_mem (fun z : Tok × Value => sumA z.1.attrs) hz) (Nat.le_succ _)) hsum2
end Go.Proofs.YtihijgghcecpmaaGreatDoor.U
