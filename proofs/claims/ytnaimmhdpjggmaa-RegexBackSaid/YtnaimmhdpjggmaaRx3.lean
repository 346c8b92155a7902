/- What an expression is written as, and how a text is read, as plain lists. No dump is read here. -/
import Derived.Test.YtnaimmhdpjggmaaRx2
namespace Go.Proofs.Ytnaimmhdpjggmaa.U

def isAlt : RE → Bool
  | .alt _ _ => true
  | _ => false
def isCat : RE → Bool
  | .cat _ _ => true
  | _ => false
def par (b : Bool) (x : Wd) : Wd := if b = true then 40 :: (x ++ [41]) else x
/-- What a tree is written as. -/
def txt : RE → Wd
  | .none => [33]
  | .empty => [40, 41]
  | .sym s => s
  | .cat s t => par (isAlt s) (txt s) ++ (44 :: par (isCat t || isAlt t) (txt t))
  | .alt s t => txt s ++ (124 :: par (isAlt t) (txt t))
  | .star s => par (isCat s || isAlt s) (txt s) ++ [42]
def told (ts : List Wd) (p : Int) : Wd := ts.getD p.toNat []
/-- A part's text, shut in if the part is of one of some kinds. -/
def partT (l : List Nd) (ts : List Wd) (p : Int) (shut : List Int) : Wd := par (shut.contains (nd l p.toNat).op) (told ts p)
def txtT (l : List Nd) (i : Nat) (ts : List Wd) : Wd :=
  if (nd l i).op = 1 then [40, 41] else if (nd l i).op = 2 then (nd l i).sym
  else if (nd l i).op = 3 then partT l ts (nd l i).a [4] ++ (44 :: partT l ts (nd l i).b [3, 4])
  else if (nd l i).op = 4 then partT l ts (nd l i).a [] ++ (124 :: partT l ts (nd l i).b [4])
  else if (nd l i).op = 5 then partT l ts (nd l i).a [3, 4] ++ [42] else [33]
theorem told_low {l : List Nd} {n i j : Nat} (h : i ≤ n) (hj : j < i) : told (upA (txtT l) i) (j : Nat) = told (upA (txtT l) n) (j : Nat) := by
  unfold told
  rw [← upA_take (txtT l) n i h, List.getD_eq_getElem?_getD, List.getD_eq_getElem?_getD, List.getElem?_take_of_lt (by simpa using hj)]
theorem told_at {l : List Nd} {n i : Nat} (h : i < n) : told (upA (txtT l) n) (i : Nat) = txtT l i (upA (txtT l) i) := by
  unfold told
  rw [List.getD_eq_getElem?_getD, Int.toNat_natCast, upA_at (txtT l) h]
  rfl
theorem sh_op {l : List Nd} {i : Nat} {t : RE} (h : Sh l i t) : ((nd l i).op = 3 ↔ isCat t = true) ∧ ((nd l i).op = 4 ↔ isAlt t = true) := by
  cases h <;> rw [nd_at ‹_›] <;> simp [isCat, isAlt]
theorem sh4 {l : List Nd} {i : Nat} {t : RE} (h : Sh l i t) : ([4] : List Int).contains (nd l i).op = isAlt t := by
  rw [Bool.eq_iff_iff, ← (sh_op h).2]; simp
theorem sh34 {l : List Nd} {i : Nat} {t : RE} (h : Sh l i t) : ([3, 4] : List Int).contains (nd l i).op = (isCat t || isAlt t) := by
  rw [Bool.eq_iff_iff, Bool.or_eq_true, ← (sh_op h).1, ← (sh_op h).2]; simp
theorem txt_at {l : List Nd} {i : Nat} {t : RE} (h : Sh l i t) : txtT l i (upA (txtT l) i) = txt t := by
  induction h with
  | none h => rw [txtT, nd_at h]; rfl
  | empty h => rw [txtT, nd_at h]; rfl
  | sym h => rw [txtT, nd_at h]; rfl
  | @cat i a b s t h ha hb hs ht i1 i2 =>
    have j1 : told (upA (txtT l) i) (a : Nat) = txt s := by rw [told_at ha]; exact i1
    have j2 : told (upA (txtT l) i) (b : Nat) = txt t := by rw [told_at hb]; exact i2
    rw [txtT, nd_at h]
    simp only [Int.reduceEq, if_false, if_true]
    unfold partT
    rw [Int.toNat_natCast, Int.toNat_natCast, sh4 hs, sh34 ht, j1, j2]
    rfl
  | @alt i a b s t h ha hb hs ht i1 i2 =>
    have j1 : told (upA (txtT l) i) (a : Nat) = txt s := by rw [told_at ha]; exact i1
    have j2 : told (upA (txtT l) i) (b : Nat) = txt t := by rw [told_at hb]; exact i2
    rw [txtT, nd_at h]
    simp only [Int.reduceEq, if_false, if_true]
    unfold partT
    rw [Int.toNat_natCast, Int.toNat_natCast, sh4 ht, j1, j2]
    rfl
  | @star i a s h ha hs i1 =>
    have j1 : told (upA (txtT l) i) (a : Nat) = txt s := by rw [told_at ha]; exact i1
    rw [txtT, nd_at h]
    simp only [Int.reduceEq, if_false, if_true]
    unfold partT
    rw [Int.toNat_natCast, sh34 hs, j1]
    rfl
/-- What an expression is written as. -/
def textG (l : List Nd) : Wd := (upA (txtT l) l.length).getD (l.length - 1) []
theorem text_eq {l : List Nd} {t : RE} (h : Sh l (l.length - 1) t) : textG l = txt t := by
  have := h.lt
  unfold textG
  rw [List.getD_eq_getElem?_getD, upA_at (txtT l) this]
  exact txt_at h
end Go.Proofs.Ytnaimmhdpjggmaa.U
