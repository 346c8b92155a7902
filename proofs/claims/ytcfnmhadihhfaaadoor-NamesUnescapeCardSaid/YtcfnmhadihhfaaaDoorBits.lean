/- Bits of bytes, as numbers. No dump is read here. -/
import Derived.WalkLawsBesides
namespace Go.Proofs.YtcfnmhadihhfaaaDoor.U
open Go.RowKit

theorem or0_fin : ∀ x : Fin 256, bits BinOp.or IntKind.u8 0 (x.val : Int) = (x.val : Int) := by decide +kernel
theorem or192_fin : ∀ x : Fin 32, bits BinOp.or IntKind.u8 192 (x.val : Int) = 192 + (x.val : Int) := by decide +kernel
theorem or224_fin : ∀ x : Fin 16, bits BinOp.or IntKind.u8 224 (x.val : Int) = 224 + (x.val : Int) := by decide +kernel
theorem or240_fin : ∀ x : Fin 8, bits BinOp.or IntKind.u8 240 (x.val : Int) = 240 + (x.val : Int) := by decide +kernel
theorem or128_fin : ∀ x : Fin 64, bits BinOp.or IntKind.u8 128 (x.val : Int) = 128 + (x.val : Int) := by decide +kernel
theorem and63_fin : ∀ x : Fin 256, bits BinOp.and IntKind.u8 (x.val : Int) 63 = (x.val : Int) % 64 := by decide +kernel
theorem andNot63_fin : ∀ x : Fin 256, bits BinOp.andNot IntKind.u8 (x.val : Int) 63 = (x.val : Int) - (x.val : Int) % 64 := by decide +kernel

theorem fin_int {P : Int → Prop} {n : Nat} (h : ∀ x : Fin n, P (x.val : Int)) (x : Int) (h0 : 0 ≤ x) (h1 : x < n) : P x := by
  have := h ⟨x.toNat, by omega⟩
  have e : ((x.toNat : Nat) : Int) = x := by omega
  simpa only [e] using this

theorem or0 (x : Int) (h0 : 0 ≤ x) (h1 : x < 256) : bits BinOp.or IntKind.u8 0 x = x := fin_int (P := fun x => bits BinOp.or IntKind.u8 0 x = x) or0_fin x h0 (by omega)
theorem or192 (x : Int) (h0 : 0 ≤ x) (h1 : x < 32) : bits BinOp.or IntKind.u8 192 x = 192 + x := fin_int (P := fun x => bits BinOp.or IntKind.u8 192 x = 192 + x) or192_fin x h0 (by omega)
theorem or224 (x : Int) (h0 : 0 ≤ x) (h1 : x < 16) : bits BinOp.or IntKind.u8 224 x = 224 + x := fin_int (P := fun x => bits BinOp.or IntKind.u8 224 x = 224 + x) or224_fin x h0 (by omega)
theorem or240 (x : Int) (h0 : 0 ≤ x) (h1 : x < 8) : bits BinOp.or IntKind.u8 240 x = 240 + x := fin_int (P := fun x => bits BinOp.or IntKind.u8 240 x = 240 + x) or240_fin x h0 (by omega)
theorem or128 (x : Int) (h0 : 0 ≤ x) (h1 : x < 64) : bits BinOp.or IntKind.u8 128 x = 128 + x := fin_int (P := fun x => bits BinOp.or IntKind.u8 128 x = 128 + x) or128_fin x h0 (by omega)
theorem and63 (x : Int) (h0 : 0 ≤ x) (h1 : x < 256) : bits BinOp.and IntKind.u8 x 63 = x % 64 := fin_int (P := fun x => bits BinOp.and IntKind.u8 x 63 = x % 64) and63_fin x h0 (by omega)
theorem andNot63 (x : Int) (h0 : 0 ≤ x) (h1 : x < 256) : bits BinOp.andNot IntKind.u8 x 63 = x - x % 64 := fin_int (P := fun x => bits BinOp.andNot IntKind.u8 x 63 = x - x % 64) andNot63_fin x h0 (by omega)
theorem wrap_u8 (x : Int) : IntKind.u8.wrap x = x % 256 := by
  unfold IntKind.wrap; simp [IntKind.bits, IntKind.signed]
theorem wrap_u8_in (x : Int) (h0 : 0 ≤ x) (h1 : x < 256) : IntKind.u8.wrap x = x := by
  rw [wrap_u8 x]; omega
end Go.Proofs.YtcfnmhadihhfaaaDoor.U
