/- The contracts of utf.Is and of its closure. -/
import Derived.Test.YtihijgghcecpmaaGreatDoorBase
import Derived.Deep.DeepMust
namespace Go.Proofs.YtihijgghcecpmaaGreatDoor.U
open Go.RowKit

/-- One span: whether a number is in it. -/
theorem within_yes (a b r : Int) (B : Nat) (w : World) (hr : w.cell? ⟨B, 0, none⟩ = some (.int .i32 r)) (h1 : a ≤ r) (h2 : r ≤ b) :
    Calls Tryz.prog 99 #[.agg #[.int .i32 a, .int .i32 b], .pointer (some ⟨B, 0, none⟩)] w fun e w' => e = .returned (.bool true) ∧ Below w.heap.size w w' := by
  have hB : B < w.heap.size := block_lt_of_cell hr
  have hne : B ≠ w.heap.size := by omega
  go_enter Tryz.func99, Tryz.ntmps99
  go_wp2
  go_ret
  exact ⟨rfl, (Below.refl _ _).alloc (Nat.le_refl _) _⟩
theorem within_no (a b r : Int) (B : Nat) (w : World) (hr : w.cell? ⟨B, 0, none⟩ = some (.int .i32 r)) (h : r < a ∨ b < r) :
    Calls Tryz.prog 99 #[.agg #[.int .i32 a, .int .i32 b], .pointer (some ⟨B, 0, none⟩)] w fun e w' => e = .returned (.bool false) ∧ Below w.heap.size w w' := by
  have hB : B < w.heap.size := block_lt_of_cell hr
  have hne : B ≠ w.heap.size := by omega
  by_cases h1 : a ≤ r
  · have h2' : decide (r ≤ b) = false := by simp; omega
    clear h
    go_enter Tryz.func99, Tryz.ntmps99
    go_wp2
    go_ret
    exact ⟨rfl, (Below.refl _ _).alloc (Nat.le_refl _) _⟩
  · have h1' : r < a := by omega
    clear h h1
    go_enter Tryz.func99, Tryz.ntmps99
    go_wp2
    go_ret
    exact ⟨rfl, (Below.refl _ _).alloc (Nat.le_refl _) _⟩

theorem ix0 (c0 c1 c2 c3 c4 c5 c6 c7 c8 c9 : Value) (w : World) : (Instr.index 138 (.agg #[c0, c1, c2, c3, c4, c5, c6, c7, c8, c9]) (.int .i64 0)).run Tryz.prog w = .ok (.agg #[c0, c1]) w := by kernel_rfl
theorem ix1 (c0 c1 c2 c3 c4 c5 c6 c7 c8 c9 : Value) (w : World) : (Instr.index 138 (.agg #[c0, c1, c2, c3, c4, c5, c6, c7, c8, c9]) (.int .i64 1)).run Tryz.prog w = .ok (.agg #[c2, c3]) w := by kernel_rfl
theorem ix2 (c0 c1 c2 c3 c4 c5 c6 c7 c8 c9 : Value) (w : World) : (Instr.index 138 (.agg #[c0, c1, c2, c3, c4, c5, c6, c7, c8, c9]) (.int .i64 2)).run Tryz.prog w = .ok (.agg #[c4, c5]) w := by kernel_rfl
theorem ix3 (c0 c1 c2 c3 c4 c5 c6 c7 c8 c9 : Value) (w : World) : (Instr.index 138 (.agg #[c0, c1, c2, c3, c4, c5, c6, c7, c8, c9]) (.int .i64 3)).run Tryz.prog w = .ok (.agg #[c6, c7]) w := by kernel_rfl
theorem ix4 (c0 c1 c2 c3 c4 c5 c6 c7 c8 c9 : Value) (w : World) : (Instr.index 138 (.agg #[c0, c1, c2, c3, c4, c5, c6, c7, c8, c9]) (.int .i64 4)).run Tryz.prog w = .ok (.agg #[c8, c9]) w := by kernel_rfl

/-- None of the first k spans has the number. -/
def notIn (r : Int) (k : Nat) : Bool := decide (¬ (1 ≤ k ∧ 9 ≤ r ∧ r ≤ 10) ∧ ¬ (2 ≤ k ∧ 13 ≤ r ∧ r ≤ 13) ∧ ¬ (3 ≤ k ∧ 32 ≤ r ∧ r ≤ 55295) ∧ ¬ (4 ≤ k ∧ 57344 ≤ r ∧ r ≤ 65533) ∧ ¬ (5 ≤ k ∧ 65536 ≤ r ∧ r ≤ 1114111))

theorem fin' {w wr w' : World} {o o' : Obj} (hb : Below (w.heap.size + 1) (w.alloc o) wr) (hs : w.heap.size + 1 ≤ wr.heap.size) (hb' : Below (wr.alloc o').heap.size (wr.alloc o') w') : Below (w.heap.size + 1) (w.alloc o) w' :=
  (hb.alloc (by omega) _).trans (hb'.mono (by simp; omega))
theorem fin {w wr w' : World} {o o' : Obj} (hb : Below (w.heap.size + 1) (w.alloc o) wr) (hs : w.heap.size + 1 ≤ wr.heap.size) (hb' : Below (wr.alloc o').heap.size (wr.alloc o') w') : Below w.heap.size w w' :=
  ((Below.refl _ _).alloc (Nat.le_refl _) _).trans ((fin' hb hs hb').mono (by omega))

set_option maxHeartbeats 1000000 in
theorem is_any (r : Int) (w : World) (hl : Lay w) : Calls Tryz.prog 76 #[.int .i32 r] w fun e w' => e = .returned (.bool (isC r)) ∧ Below w.heap.size w w' := by
  obtain ⟨t0, f0, hs⟩ := hl.spans
  have hsz := hl.size
  have hs1 : (w.alloc (.cells #[.int .i32 r] 21)).heap[1]? = some (.cells #[.int .i32 9, .int .i32 10, .int .i32 13, .int .i32 13, .int .i32 32, .int .i32 55295, .int .i32 57344, .int .i32 65533, .int .i32 65536, .int .i32 1114111] t0 f0) := by
    rw [Below.heap_alloc _ _ _ (by omega)]; exact hs
  have i0 := @ix0
  have i1 := @ix1
  have i2 := @ix2
  have i3 := @ix3
  have i4 := @ix4
  clear hs hl
  go_enter Tryz.func76, Tryz.ntmps76
  go_wp2_with (refine wpList_load_row rfl 138 _ rfl 1 rfl t0 _ f0 _ hs1 Tryz.underlying138 rfl (by kernel_rfl) ?_)
  clear hs1
  go_loopw [8] (fun i wr => ∃ k : Nat, k ≤ 5 ∧ i = .int .i64 k ∧ notIn r k = true ∧ Below (w.heap.size + 1) (w.alloc (.cells #[.int .i32 r] 21)) wr)
    (fun i _ => 5 - (intOf i).toNat)
  case atStart => exact ⟨0, by omega, rfl, by simp [notIn], Below.refl _ _⟩
  case round =>
    obtain ⟨k, hk, rfl, hn, hb⟩ := hrel
    have hcr : wr.cell? ⟨w.heap.size, 0, none⟩ = some (.int .i32 r) := (hb.cell (p := ⟨w.heap.size, 0, none⟩) (by simp)).trans (by simp)
    have hsz2 : w.heap.size + 1 ≤ wr.heap.size := by have := hb.size; simpa using this
    have hne : w.heap.size ≠ wr.heap.size := by omega
    have hltB : w.heap.size < wr.heap.size := by omega
    rcases (show k = 0 ∨ k = 1 ∨ k = 2 ∨ k = 3 ∨ k = 4 ∨ k = 5 by omega) with rfl | rfl | rfl | rfl | rfl | rfl
    · by_cases hin : 9 ≤ r ∧ r ≤ 10
      · have HC := Lib.hid (isC_yes (r := r) (by omega))
        go_wp2_with fail
        refine (within_yes _ _ r w.heap.size _ ?hc (by omega) (by omega)).mono ?_
        case hc => exact cell_later ((Below.refl _ _).alloc (Nat.le_refl _) _) hcr
        rintro e w' ⟨rfl, hb'⟩
        go_wp2
        go_ret
        exact ⟨by rw [HC.out]; rfl, fin hb hsz2 hb'⟩
      · have hn' : notIn r 1 = true := by
          simp only [notIn, decide_eq_true_eq] at hn ⊢; omega
        go_wp2_with fail
        refine (within_no _ _ r w.heap.size _ ?hc (by omega)).mono ?_
        case hc => exact cell_later ((Below.refl _ _).alloc (Nat.le_refl _) _) hcr
        rintro e w' ⟨rfl, hb'⟩
        go_wp2
        go_roundw
        case rel => exact ⟨1, by omega, rfl, hn', fin' hb hsz2 hb'⟩
        case measure => simp [intOf]
    · by_cases hin : 13 ≤ r ∧ r ≤ 13
      · have HC := Lib.hid (isC_yes (r := r) (by omega))
        go_wp2_with fail
        refine (within_yes _ _ r w.heap.size _ ?hc (by omega) (by omega)).mono ?_
        case hc => exact cell_later ((Below.refl _ _).alloc (Nat.le_refl _) _) hcr
        rintro e w' ⟨rfl, hb'⟩
        go_wp2
        go_ret
        exact ⟨by rw [HC.out]; rfl, fin hb hsz2 hb'⟩
      · have hn' : notIn r 2 = true := by
          simp only [notIn, decide_eq_true_eq] at hn ⊢; omega
        go_wp2_with fail
        refine (within_no _ _ r w.heap.size _ ?hc (by omega)).mono ?_
        case hc => exact cell_later ((Below.refl _ _).alloc (Nat.le_refl _) _) hcr
        rintro e w' ⟨rfl, hb'⟩
        go_wp2
        go_roundw
        case rel => exact ⟨2, by omega, rfl, hn', fin' hb hsz2 hb'⟩
        case measure => simp [intOf]
    · by_cases hin : 32 ≤ r ∧ r ≤ 55295
      · have HC := Lib.hid (isC_yes (r := r) (by omega))
        go_wp2_with fail
        refine (within_yes _ _ r w.heap.size _ ?hc (by omega) (by omega)).mono ?_
        case hc => exact cell_later ((Below.refl _ _).alloc (Nat.le_refl _) _) hcr
        rintro e w' ⟨rfl, hb'⟩
        go_wp2
        go_ret
        exact ⟨by rw [HC.out]; rfl, fin hb hsz2 hb'⟩
      · have hn' : notIn r 3 = true := by
          simp only [notIn, decide_eq_true_eq] at hn ⊢; omega
        go_wp2_with fail
        refine (within_no _ _ r w.heap.size _ ?hc (by omega)).mono ?_
        case hc => exact cell_later ((Below.refl _ _).alloc (Nat.le_refl _) _) hcr
        rintro e w' ⟨rfl, hb'⟩
        go_wp2
        go_roundw
        case rel => exact ⟨3, by omega, rfl, hn', fin' hb hsz2 hb'⟩
        case measure => simp [intOf]
    · by_cases hin : 57344 ≤ r ∧ r ≤ 65533
      · have HC := Lib.hid (isC_yes (r := r) (by omega))
        go_wp2_with fail
        refine (within_yes _ _ r w.heap.size _ ?hc (by omega) (by omega)).mono ?_
        case hc => exact cell_later ((Below.refl _ _).alloc (Nat.le_refl _) _) hcr
        rintro e w' ⟨rfl, hb'⟩
        go_wp2
        go_ret
        exact ⟨by rw [HC.out]; rfl, fin hb hsz2 hb'⟩
      · have hn' : notIn r 4 = true := by
          simp only [notIn, decide_eq_true_eq] at hn ⊢; omega
        go_wp2_with fail
        refine (within_no _ _ r w.heap.size _ ?hc (by omega)).mono ?_
        case hc => exact cell_later ((Below.refl _ _).alloc (Nat.le_refl _) _) hcr
        rintro e w' ⟨rfl, hb'⟩
        go_wp2
        go_roundw
        case rel => exact ⟨4, by omega, rfl, hn', fin' hb hsz2 hb'⟩
        case measure => simp [intOf]
    · by_cases hin : 65536 ≤ r ∧ r ≤ 1114111
      · have HC := Lib.hid (isC_yes (r := r) (by omega))
        go_wp2_with fail
        refine (within_yes _ _ r w.heap.size _ ?hc (by omega) (by omega)).mono ?_
        case hc => exact cell_later ((Below.refl _ _).alloc (Nat.le_refl _) _) hcr
        rintro e w' ⟨rfl, hb'⟩
        go_wp2
        go_ret
        exact ⟨by rw [HC.out]; rfl, fin hb hsz2 hb'⟩
      · have hn' : notIn r 5 = true := by
          simp only [notIn, decide_eq_true_eq] at hn ⊢; omega
        go_wp2_with fail
        refine (within_no _ _ r w.heap.size _ ?hc (by omega)).mono ?_
        case hc => exact cell_later ((Below.refl _ _).alloc (Nat.le_refl _) _) hcr
        rintro e w' ⟨rfl, hb'⟩
        go_wp2
        go_roundw
        case rel => exact ⟨5, by omega, rfl, hn', fin' hb hsz2 hb'⟩
        case measure => simp [intOf]
    · have HC := Lib.hid (isC_no (r := r) (by simp only [notIn, decide_eq_true_eq] at hn; omega))
      go_wp2
      go_ret
      exact ⟨by rw [HC.out]; rfl, ((Below.refl _ _).alloc (Nat.le_refl _) _).trans (hb.mono (by omega))⟩
end Go.Proofs.YtihijgghcecpmaaGreatDoor.U
