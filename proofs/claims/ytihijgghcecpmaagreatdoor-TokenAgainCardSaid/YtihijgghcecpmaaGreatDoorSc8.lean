/- Contracts of package token: readOpen. -/
import Derived.Test.YtihijgghcecpmaaGreatDoorQ13
import Derived.Test.YtihijgghcecpmaaGreatDoorTw
import Derived.Deep.RegionWith
namespace Go.Proofs.YtihijgghcecpmaaGreatDoor.U
open Go.RowKit Go.Shelf

/-- The attributes al the scanner reads them (names may be twice there), and where it stops. -/
def attrsB : Nat → List (List UInt8 × List UInt8) → List UInt8 → Option (List (List UInt8 × List UInt8) × Nat)
  | 0, _, _ => none
  | f + 1, acc, l =>
    let b := blankN l
    let r := l.drop b
    if b = 0 then some (acc, 0)
    else if (begL [47, 62] r || begL [62] r) = true then some (acc, b)
    else match attrL r with
      | none => none
      | some (a, k) => (attrsB f (acc ++ [a]) (r.drop k)).map fun x => (x.1, b + k + x.2)
/-- What the scanner makes of it. -/
def finB (l : List UInt8) : Option (List (List UInt8 × List UInt8) × Nat) → Option (List (List UInt8 × List UInt8) × Bool × Nat)
  | none => none
  | some (al, n) =>
    if begL [47, 62] (l.drop n) = true then (if dupA [] al = true then none else some (al, true, n + 2))
    else if begL [62] (l.drop n) = true then (if dupA [] al = true then none else some (al, false, n + 1)) else none
theorem dup_more (m : List (List UInt8 × List UInt8)) : ∀ (l acc : List (List UInt8 × List UInt8)), dupA acc l = true → dupA acc (l ++ m) = true := by
  intro l
  induction l with
  | nil => intro acc h; cases h
  | cons c t ih =>
    intro acc h
    simp only [List.cons_append, dupA, Bool.or_eq_true] at h ⊢
    rcases h with h | h
    · exact .inl h
    · exact .inr (ih _ h)
theorem attrsB_ext : ∀ (f : Nat) (acc : List (List UInt8 × List UInt8)) (l : List UInt8) (al : List (List UInt8 × List UInt8)) (n : Nat), attrsB f acc l = some (al, n) → ∃ m, al = acc ++ m := by
  intro f
  induction f with
  | zero => intro acc l al n h; cases h
  | succ f ih =>
    intro acc l al n h
    simp only [attrsB] at h
    split at h
    · obtain ⟨rfl, rfl⟩ := Prod.mk.inj (Option.some.inj h); exact ⟨[], by simp⟩
    · split at h
      · obtain ⟨rfl, rfl⟩ := Prod.mk.inj (Option.some.inj h); exact ⟨[], by simp⟩
      · split at h
        · cases h
        · rename_i a k _
          rw [Option.map_eq_some_iff] at h
          obtain ⟨⟨al2, n'⟩, h1, h2⟩ := h
          obtain ⟨m, rfl⟩ := ih _ _ _ _ h1
          obtain ⟨rfl, _⟩ := Prod.mk.inj h2
          exact ⟨a :: m, by simp⟩
theorem beg_both {l : List UInt8} (h1 : begL [62] l = true) : begL [47, 62] l = false := by
  obtain ⟨r, rfl⟩ := begL_iff.1 h1
  rfl
/-- The scanner's way and the document's are one. -/
theorem attrs_same : ∀ (f : Nat) (acc : List (List UInt8 × List UInt8)) (l : List UInt8), dupA [] acc = false → attrsA f acc l = finB l (attrsB f acc l) := by
  intro f
  induction f with
  | zero => intro acc l _; rfl
  | succ f ih =>
    intro acc l hd
    simp only [attrsA, attrsB]
    by_cases h1 : begL [62] (l.drop (blankN l)) = true
    · rw [if_pos h1]
      have h2 := beg_both h1
      by_cases h0 : blankN l = 0
      · rw [if_pos h0]
        rw [h0] at h1 h2 ⊢
        simp only [finB, h1, h2, hd]
        simp
      · rw [if_neg h0, if_pos (by rw [h1]; simp)]
        simp only [finB, h1, h2, hd]
        simp
    · rw [if_neg h1]
      have h1' : begL [62] (l.drop (blankN l)) = false := by simpa using h1
      by_cases h2 : begL [47, 62] (l.drop (blankN l)) = true
      · rw [if_pos h2]
        by_cases h0 : blankN l = 0
        · rw [if_pos h0]
          rw [h0] at h1' h2 ⊢
          simp only [finB, h2, hd]
          simp
        · rw [if_neg h0, if_pos (by rw [h2]; simp)]
          simp only [finB, h2, hd]
          simp
      · have h2' : begL [47, 62] (l.drop (blankN l)) = false := by simpa using h2
        rw [if_neg h2]
        by_cases h0 : blankN l = 0
        · rw [if_pos h0, if_pos h0]
          rw [h0] at h1' h2'
          simp only [finB, h1', h2']
          simp
        · rw [if_neg h0, if_neg h0, if_neg (by rw [h1', h2']; simp)]
          cases ha : attrL (l.drop (blankN l)) with
          | none => rfl
          | some y =>
            obtain ⟨a, k⟩ := y
            simp only
            have hs := dupA_snoc a acc []
            rw [hd, Bool.false_or, List.nil_append] at hs
            by_cases hh : hasA acc a.1 = true
            · rw [if_pos hh]
              rw [hh] at hs
              cases hb : attrsB f (acc ++ [a]) ((l.drop (blankN l)).drop k) with
              | none => rfl
              | some z =>
                obtain ⟨al, n⟩ := z
                obtain ⟨m, rfl⟩ := attrsB_ext _ _ _ _ _ hb
                have hdm := dup_more m _ _ hs
                simp only [Option.map_some, finB, hdm]
                simp
            · rw [if_neg hh, ih _ _ (by rw [hs]; simpa using hh)]
              cases hb : attrsB f (acc ++ [a]) ((l.drop (blankN l)).drop k) with
              | none => rfl
              | some z =>
                obtain ⟨al, n⟩ := z
                simp only [Option.map_some, finB, List.drop_drop, Nat.add_assoc]
                split
                · split <;> simp
                · split
                  · split <;> simp
                  · rfl

theorem StK.grow {b p : Nat} {doc : ByteArray} {v : Value} {w w1 w2 : World} {row : Option Nat} (h : StK b doc v p w w1) (k : w1.grownBy w2 row) (hg : ∀ j, row = some j → w.heap.size < j) : StK b doc v p w w2 := by
  cases row with
  | some g => exact h.other k (hg g rfl)
  | none => exact h.other (g := w.heap.size + 1) ⟨k.os, k.tape, k.output, k.size, fun i hi _ => k.block i hi (by simp)⟩ (by omega)
theorem BoxK.grow {b : Nat} {ki : Int} {x y : ByteArray} {v : Value} {em : Bool} {w w' : World} {row : Option Nat} (h : BoxK b ki x y v em w) (hg : w.grownBy w' row) (hne : ∀ j, row = some j → b < j) : BoxK b ki x y v em w' :=
  (hg.block b h.lt (fun e => by have := hne b e.symm; omega)).trans h

/-- readOpen under way: the place, its own block for what it tells, the piece's block, its attributes. -/
structure StO (b : Nat) (doc : ByteArray) (v : Value) (p : Nat) (nm : ByteArray) (acc : List (List UInt8 × List UInt8)) (va : Value) (em : Bool) (w wr : World) : Prop where
  st : StK b doc v p w wr
  bk : BoxK (w.heap.size + 1) 2 nm ⟨#[]⟩ va em wr
  ow : wr.ownsRow (w.heap.size + 2) 48 2 va acc.length (attrCells acc)
section
variable {b p q : Nat} {doc nm : ByteArray} {v va : Value} {acc : List (List UInt8 × List UInt8)} {em : Bool} {w w1 w2 : World}
theorem StO.go (h : StO b doc v p nm acc va em w w1) (k : Moves b doc v q w1 w2) : StO b doc v q nm acc va em w w2 :=
  ⟨h.st.go k, h.bk.kept k.grown (by have := h.st.lt; omega), h.ow.kept k.grown (by
    cases hv : va.ownBlock with
    | none => exact .inl rfl
    | some g => exact .inr (fun e => by have := (h.ow.lt g hv).1; have := Option.some.inj e; have := h.st.lt; omega))⟩
theorem StO.below (h : StO b doc v p nm acc va em w w1) (k : Below w1.heap.size w1 w2) : StO b doc v p nm acc va em w w2 := ⟨h.st.below k, h.bk.below k, ownBelow h.ow k⟩
theorem StO.drew (h : StO b doc v p nm acc va em w w1) : StO b doc v p nm acc va em w w1.drew := ⟨h.st.drew, h.bk, h.ow⟩
theorem StO.setE (h : StO b doc v p nm acc va em w w1) (em' : Bool) : StO b doc v p nm acc va em' w (w1.setCell ⟨w.heap.size + 1, 4, none⟩ (.bool em')) :=
  ⟨h.st.other (grow_set w1 (w.heap.size + 1) 4 _) (by omega), h.bk.setE em', ownsRow_setCell_below h.ow (a := ⟨w.heap.size + 1, 4, none⟩) (by simp) _⟩
theorem StO.row (h : StO b doc v p nm acc va em w w1) : AtRow w1 va acc.length 2 (attrCells acc) := AtRow.of_own h.ow
end

theorem attr_name_len {l : List UInt8} {a : List UInt8 × List UInt8} {k : Nat} (hw : Whole l) (h : attrL l = some (a, k)) : a.1.length ≤ 64 := by
  have := (attr_ok hw h).1
  unfold nameL at this
  simp at this
  exact this.1.2
/-- How an Open ends: one of five ways. -/
def OpenC1 (k : Nat) (doc : ByteArray) : Prop := ∀ al m, attrsB (doc.size - (k + 1) + 1) [] ((bts doc).drop (k + 1 + nameN ((bts doc).drop (k + 1)))) = some (al, m) → (begL [47, 62] ((bts doc).drop (k + 1 + nameN ((bts doc).drop (k + 1)) + m)) = true ∧ dupA [] al = true)
/-- How an Open ends: one of five ways. -/
def OpenC2 (k : Nat) (doc : ByteArray) : Prop := ∀ al m, attrsB (doc.size - (k + 1) + 1) [] ((bts doc).drop (k + 1 + nameN ((bts doc).drop (k + 1)))) = some (al, m) → (begL [47, 62] ((bts doc).drop (k + 1 + nameN ((bts doc).drop (k + 1)) + m)) = true ∧ dupA [] al = false)
/-- How an Open ends: one of five ways. -/
def OpenC3 (k : Nat) (doc : ByteArray) : Prop := ∀ al m, attrsB (doc.size - (k + 1) + 1) [] ((bts doc).drop (k + 1 + nameN ((bts doc).drop (k + 1)))) = some (al, m) → (begL [47, 62] ((bts doc).drop (k + 1 + nameN ((bts doc).drop (k + 1)) + m)) = false ∧ begL [62] ((bts doc).drop (k + 1 + nameN ((bts doc).drop (k + 1)) + m)) = false)
/-- How an Open ends: one of five ways. -/
def OpenC4 (k : Nat) (doc : ByteArray) : Prop := ∀ al m, attrsB (doc.size - (k + 1) + 1) [] ((bts doc).drop (k + 1 + nameN ((bts doc).drop (k + 1)))) = some (al, m) → (begL [47, 62] ((bts doc).drop (k + 1 + nameN ((bts doc).drop (k + 1)) + m)) = false ∧ begL [62] ((bts doc).drop (k + 1 + nameN ((bts doc).drop (k + 1)) + m)) = true ∧ dupA [] al = true)
/-- How an Open ends: one of five ways. -/
def OpenC5 (k : Nat) (doc : ByteArray) : Prop := ∀ al m, attrsB (doc.size - (k + 1) + 1) [] ((bts doc).drop (k + 1 + nameN ((bts doc).drop (k + 1)))) = some (al, m) → (begL [47, 62] ((bts doc).drop (k + 1 + nameN ((bts doc).drop (k + 1)) + m)) = false ∧ begL [62] ((bts doc).drop (k + 1 + nameN ((bts doc).drop (k + 1)) + m)) = true ∧ dupA [] al = false)
end Go.Proofs.YtihijgghcecpmaaGreatDoor.U
