/- The plain functions of layer 1: the places of characters. No dump is read here. -/
import Derived.Test.YtcfnmhadihhfaaaDoorChk
namespace Go.Proofs.YtcfnmhadihhfaaaDoor.U
open Go.RowKit

/-- Characters with their places, from a place on. -/
def prs : Nat → List Int → List (Nat × Int)
  | _, [] => []
  | p, r :: rs => (p, r) :: prs (p + sizeC r) rs
/-- The characters at the head of bytes, with their places. -/
def prsC (zs : List Int) : List (Nat × Int) := prs 0 (runesC zs)
theorem prs_snd (p : Nat) (rs : List Int) : (prs p rs).map (·.2) = rs := by
  induction rs generalizing p with
  | nil => rfl
  | cons r rs ih => simp [prs, ih]
theorem prs_len (p : Nat) (rs : List Int) : (prs p rs).length = rs.length := by
  induction rs generalizing p with
  | nil => rfl
  | cons r rs ih => simp [prs, ih]
theorem prs_append (p : Nat) (a b : List Int) : prs p (a ++ b) = prs p a ++ prs (p + sizes a) b := by
  induction a generalizing p with
  | nil => simp [prs, sizes]
  | cons r a ih => simp [prs, sizes, ih, Nat.add_assoc]

/-- A place and a character, as yield is handed them. -/
abbrev Ch := { x : Nat × Int // x.1 ≤ 140737488351232 ∧ isC x.2 = true }
abbrev encCh (x : Ch) : Array Value := #[.int .i64 (x.1.1 : Int), .int .i32 x.1.2]
end Go.Proofs.YtcfnmhadihhfaaaDoor.U
