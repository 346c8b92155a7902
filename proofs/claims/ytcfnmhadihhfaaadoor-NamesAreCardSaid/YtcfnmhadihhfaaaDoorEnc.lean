/- The plain functions of layer 1: the bytes of a character, and what a first byte tells. No dump is read here. -/
import Derived.Test.YtcfnmhadihhfaaaDoorFns
namespace Go.Proofs.YtcfnmhadihhfaaaDoor.U

/-- The bytes of a character. -/
def encC (r : Int) : List Int := if r < 128 then [r] else if r < 2048 then [192 + r / 64, 128 + r % 64] else if r < 65536 then [224 + r / 4096, 128 + r / 64 % 64, 128 + r % 64] else [240 + r / 262144, 128 + r / 4096 % 64, 128 + r / 64 % 64, 128 + r % 64]
theorem encC_1 {r : Int} (h : r < 128) : encC r = [r] := by simp [encC, h]
theorem encC_2 {r : Int} (h1 : 128 ≤ r) (h : r < 2048) : encC r = [192 + r / 64, 128 + r % 64] := by
  unfold encC; rw [if_neg (by omega), if_pos h]
theorem encC_3 {r : Int} (h1 : 2048 ≤ r) (h : r < 65536) : encC r = [224 + r / 4096, 128 + r / 64 % 64, 128 + r % 64] := by
  unfold encC; rw [if_neg (by omega), if_neg (by omega), if_pos h]
theorem encC_4 {r : Int} (h1 : 65536 ≤ r) : encC r = [240 + r / 262144, 128 + r / 4096 % 64, 128 + r / 64 % 64, 128 + r % 64] := by
  unfold encC; rw [if_neg (by omega), if_neg (by omega), if_neg (by omega)]
theorem encC_len (r : Int) : (encC r).length = sizeC r := by
  unfold encC sizeC; repeat' split
  all_goals rfl

/-- What a first byte holds of its number; how many bytes there are with it. -/
def begV (c : Int) : Int := if c ≤ 127 then c else if c < 192 then 0 else if c ≤ 223 then c - 192 else if c ≤ 239 then c - 224 else if c ≤ 247 then c - 240 else 0
def begN (c : Int) : Nat := if c ≤ 127 then 1 else if c < 192 then 0 else if c ≤ 223 then 2 else if c ≤ 239 then 3 else if c ≤ 247 then 4 else 0
end Go.Proofs.YtcfnmhadihhfaaaDoor.U
