/- The plain functions of layer 1: the character at the head of bytes. No dump is read here. -/
import Derived.Test.YtcfnmhadihhfaaaDoorEnc
import Derived.Test.YtcfnmhadihhfaaaDoorBits
namespace Go.Proofs.YtcfnmhadihhfaaaDoor.U
open Go.RowKit

/-- The bytes behind a first one, taken into the number. -/
def contC : Int → List Int → Option Int
  | v, [] => some v
  | v, c :: t => if 128 ≤ c ∧ c < 192 then contC (v * 64 + c % 64) t else none

theorem contC_append (v : Int) (l m : List Int) : contC v (l ++ m) = (contC v l).bind fun u => contC u m := by
  induction l generalizing v with
  | nil => rfl
  | cons c t ih =>
    simp only [List.cons_append, contC]
    split
    · exact ih _
    · rfl
theorem contC_snoc (v u c : Int) (l : List Int) (h : contC v l = some u) : contC v (l ++ [c]) = if 128 ≤ c ∧ c < 192 then some (u * 64 + c % 64) else none := by
  rw [contC_append, h]; simp [contC]

/-- The character at the head of bytes, and how many bytes it has. -/
def decC (l : List Int) : Option (Int × Nat) :=
  match l with
  | [] => none
  | c :: t => if begN c = 0 ∨ l.length < begN c then none else
    match contC (begV c) (t.take (begN c - 1)) with
    | none => none
    | some r => if isC r = true ∧ sizeC r = begN c then some (r, begN c) else none

theorem begN_le (c : Int) : begN c ≤ 4 := by
  unfold begN; repeat' split
  all_goals omega
theorem begV_bounds (c : Int) (h0 : 0 ≤ c) : 0 ≤ begV c ∧ begV c < 128 ∧ (2 ≤ begN c → begV c < 32) := by
  unfold begV begN; repeat' split
  all_goals omega

theorem or_i32 (v x : Int) (h0 : 0 ≤ v) (h1 : v < 33554432) (h2 : 0 ≤ x) (h3 : x < 64) : bits BinOp.or IntKind.i32 (v * 64) x = v * 64 + x := by
  obtain ⟨n, rfl⟩ := Int.eq_ofNat_of_zero_le h0
  obtain ⟨m, rfl⟩ := Int.eq_ofNat_of_zero_le h2
  have e1 : (BitVec.ofInt 32 ((n : Int) * 64)).toNat = n * 64 := by
    rw [BitVec.toNat_ofInt]; omega
  have e2 : (BitVec.ofInt 32 (m : Int)).toNat = m := by
    rw [BitVec.toNat_ofInt]; omega
  have e3 : n * 64 ||| m = n * 64 + m := nat_join 6 _ _ (by omega) (by omega)
  show IntKind.i32.wrap (((BitVec.ofInt 32 ((n : Int) * 64)) ||| (BitVec.ofInt 32 (m : Int))).toNat : Nat) = _
  rw [BitVec.toNat_or, e1, e2, e3]
  unfold IntKind.wrap
  simp [IntKind.bits, IntKind.signed]
  omega

theorem decC_cons (c : Int) (t : List Int) : decC (c :: t) = if begN c = 0 ∨ t.length + 1 < begN c then none else
    match contC (begV c) (t.take (begN c - 1)) with
    | none => none
    | some r => if isC r = true ∧ sizeC r = begN c then some (r, begN c) else none := rfl
theorem dec_bad {c : Int} {t : List Int} (h : begN c = 0 ∨ t.length + 1 < begN c) : decC (c :: t) = none := by
  rw [decC_cons, if_pos h]
theorem dec_cont {c : Int} {t : List Int} (h0 : 1 ≤ begN c) (h1 : begN c ≤ t.length + 1) (h : contC (begV c) (t.take (begN c - 1)) = none) : decC (c :: t) = none := by
  rw [decC_cons, if_neg (by omega), h]
theorem dec_not {c : Int} {t : List Int} {u : Int} (h0 : 1 ≤ begN c) (h1 : begN c ≤ t.length + 1) (h : contC (begV c) (t.take (begN c - 1)) = some u) (h2 : ¬ (isC u = true ∧ sizeC u = begN c)) : decC (c :: t) = none := by
  rw [decC_cons, if_neg (by omega), h]; simp only [if_neg h2]
theorem dec_yes {c : Int} {t : List Int} {u : Int} (h0 : 1 ≤ begN c) (h1 : begN c ≤ t.length + 1) (h : contC (begV c) (t.take (begN c - 1)) = some u) (h2 : isC u = true) (h3 : sizeC u = begN c) : decC (c :: t) = some (u, begN c) := by
  rw [decC_cons, if_neg (by omega), h]; simp only [if_pos (And.intro h2 h3)]
theorem contC_stop {v u x : Int} {t : List Int} {k m : Nat} (h : contC v (t.take k) = some u) (hk : k < t.length) (hm : k < m) (hx : x = t[k]?.getD 0) (hn : ¬ (128 ≤ x ∧ x < 192)) : contC v (t.take m) = none := by
  have e : t.take m = t.take k ++ (t[k]?.getD 0 :: (t.drop (k + 1)).take (m - (k + 1))) := by
    have h1 : t = t.take k ++ (t[k]?.getD 0 :: t.drop (k + 1)) := by
      rw [List.getElem?_eq_getElem hk, Option.getD_some, ← List.drop_eq_getElem_cons hk, List.take_append_drop]
    have h2 : (t.take k).length = k := by simp; omega
    obtain ⟨d, rfl⟩ : ∃ d, m = k + 1 + d := ⟨m - (k + 1), by omega⟩
    conv => lhs; rw [h1]
    rw [List.take_append, h2, List.take_take, show min (k + 1 + d) k = k by omega, show k + 1 + d - k = d + 1 by omega, List.take_succ_cons, show k + 1 + d - (k + 1) = d by omega]
  rw [e, contC_append, h]
  simp only [Option.bind_some, contC]
  rw [← hx, if_neg hn]
theorem contC_next {v u x : Int} {t : List Int} {k : Nat} (h : contC v (t.take k) = some u) (hk : k < t.length) (hx : x = t[k]?.getD 0) (hn : 128 ≤ x ∧ x < 192) : contC v (t.take (k + 1)) = some (u * 64 + x % 64) := by
  have e : t.take (k + 1) = t.take k ++ [t[k]?.getD 0] := by
    rw [List.take_succ_eq_append_getElem hk, List.getElem?_eq_getElem hk]; rfl
  rw [e, contC_snoc _ _ _ _ h, ← hx, if_pos hn]
end Go.Proofs.YtcfnmhadihhfaaaDoor.U
