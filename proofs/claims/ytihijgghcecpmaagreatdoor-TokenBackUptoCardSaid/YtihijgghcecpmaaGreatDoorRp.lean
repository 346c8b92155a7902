/- Contracts of the library's Replacer of two bytes by 32: build. -/
import Derived.Test.YtihijgghcecpmaaGreatDoorSc
import Derived.Test.YtihijgghcecpmaaGreatDoorQ1
import Derived.Deep.MidRow
import Derived.Deep.WholeRow
namespace Go.Proofs.YtihijgghcecpmaaGreatDoor.U
open Go.RowKit Go.Shelf

/-- A Replacer's block. -/
def BoxR (g : Nat) (d s : Int) (rv ov : Value) (w : World) : Prop := w.heap[g]? = some (.cells #[.int .u32 d, .int .i32 s, .int .u32 0, rv, ov] 156 (0, 0))
theorem BoxR.at {g : Nat} {d s : Int} {rv ov : Value} {w : World} (h : BoxR g d s rv ov w) :
    (w.cell? ⟨g, 0, none⟩ = some (.int .u32 d) ∧ w.cell? ⟨g, 1, none⟩ = some (.int .i32 s) ∧ w.cell? ⟨g, 3, none⟩ = some rv ∧ w.cell? ⟨g, 4, none⟩ = some ov) ∧
    w.frozen? ⟨g, 0, none⟩ = false ∧ w.frozen? ⟨g, 1, none⟩ = false ∧ w.frozen? ⟨g, 3, none⟩ = false ∧ w.frozen? ⟨g, 4, none⟩ = false :=
  ⟨⟨by rw [Lib.cell_of_heap h]; rfl, by rw [Lib.cell_of_heap h]; rfl, by rw [Lib.cell_of_heap h]; rfl, by rw [Lib.cell_of_heap h]; rfl⟩, Lib.frozen_of_heap h 0, Lib.frozen_of_heap h 1, Lib.frozen_of_heap h 3, Lib.frozen_of_heap h 4⟩
theorem BoxR.lt {g : Nat} {d s : Int} {rv ov : Value} {w : World} (h : BoxR g d s rv ov w) : g < w.heap.size := (Array.getElem?_eq_some_iff.1 h).1
theorem BoxR.below {g : Nat} {d s : Int} {rv ov : Value} {w w' : World} (h : BoxR g d s rv ov w) (hb : Below w.heap.size w w') : BoxR g d s rv ov w' := (hb.block g h.lt).trans h
/-- The four texts of the call. -/
def FourS (a : Nat) (w : World) : Prop := w.cell? ⟨a, 0, none⟩ = some (.string ⟨#[9]⟩) ∧ w.cell? ⟨a, 1, none⟩ = some (.string ⟨#[32]⟩) ∧ w.cell? ⟨a, 2, none⟩ = some (.string ⟨#[10]⟩) ∧ w.cell? ⟨a, 3, none⟩ = some (.string ⟨#[32]⟩)

/-- A table of bytes in a block. -/
def TabAt (t : Nat) (f : Nat → Nat) (n : Nat) (w : World) : Prop := ∃ C : Array Value, w.heap[t]? = some (.cells C 181 (0, 0)) ∧ C.size = 256 ∧ ∀ j, j < n → C[j]? = some (.int .u8 (f j))
theorem TabAt.set {t : Nat} {f g : Nat → Nat} {n m k x : Nat} {w : World} (h : TabAt t f n w) (hk : k < 256) (hm : ∀ j, j < m → j ≠ k → j < n ∧ f j = g j) (hx : x = g k) : TabAt t g m (w.setCell ⟨t, k, none⟩ (.int .u8 x)) := by
  obtain ⟨C, h1, h2, h3⟩ := h
  refine ⟨C.setIfInBounds k (.int .u8 x), ?_, by simp [h2], fun j hj => ?_⟩
  · simp [World.setCell, Array.getElem?_modify, h1]
  · rw [Array.getElem?_setIfInBounds]
    by_cases e : k = j
    · subst e; rw [if_pos rfl, if_pos (by omega), hx]
    · rw [if_neg e]
      obtain ⟨h4, h5⟩ := hm j hj (fun e2 => e e2.symm)
      rw [h3 j h4, h5]
theorem TabAt.cell {t : Nat} {f : Nat → Nat} {n k : Nat} {w : World} (h : TabAt t f n w) (hk : k < 256) : (∃ u, w.cell? ⟨t, k, none⟩ = some u) ∧ w.frozen? ⟨t, k, none⟩ = false ∧ (k < n → w.cell? ⟨t, k, none⟩ = some (.int .u8 (f k))) := by
  obtain ⟨C, h1, h2, h3⟩ := h
  refine ⟨⟨C[k]'(by omega), ?_⟩, Lib.frozen_of_heap h1 k, fun hn => ?_⟩
  · rw [Lib.cell_of_heap h1]; simp
  · rw [Lib.cell_of_heap h1]; exact h3 k hn
theorem TabAt.lt {t : Nat} {f : Nat → Nat} {n : Nat} {w : World} (h : TabAt t f n w) : t < w.heap.size := by obtain ⟨C, h1, _⟩ := h; exact (Array.getElem?_eq_some_iff.1 h1).1
theorem TabAt.below {t : Nat} {f : Nat → Nat} {n : Nat} {w w' : World} (h : TabAt t f n w) (hb : Below w.heap.size w w') : TabAt t f n w' := by
  have hl := h.lt
  obtain ⟨C, h1, h2⟩ := h
  exact ⟨C, (hb.block t hl).trans h1, h2⟩
/-- 32 for 9 and 10. -/
def tabF (j : Nat) : Nat := if j = 9 ∨ j = 10 then 32 else j

set_option maxHeartbeats 4000000 in
set_option maxRecDepth 20000 in
theorem build_any (g a cap : Nat) (d s : Int) (rv : Value) (w : World) (h : BoxR g d s rv (.slice (some ⟨a, 0, none⟩) 4 cap) w) (hf : FourS a w) :
    Calls Tryz.prog 120 #[.pointer (some ⟨g, 0, none⟩)] w fun e w' => ∃ t, e = .returned (.iface 182 (.pointer (some ⟨t, 0, none⟩))) ∧ w.heap.size ≤ t ∧ TabAt t tabF 256 w' ∧ Below w.heap.size w w' := by
  obtain ⟨⟨c0, c1, c3, c4⟩, f0, f1, f3, f4⟩ := h.at
  obtain ⟨t0, t1, t2, t3⟩ := hf
  clear h
  have hst := fun W : World => run_storeCells_new (P := Tryz.prog) W 181 Tryz.zeroCells181 Tryz.zeroCells181 (by kernel_rfl) rfl (by kernel_rfl)
  have hB1 : Below w.heap.size w (w.alloc (.cells Tryz.zeroCells181 181)) := (Below.refl _ w).alloc (Nat.le_refl _) _
  have HT1 : Hid (TabAt w.heap.size (fun j => j) 0 (w.alloc (.cells Tryz.zeroCells181 181))) := Lib.hid ⟨Tryz.zeroCells181, heap_alloc_last w _, Tryz.zeroCells181_size, fun j hj => by omega⟩
  have HB1 := Lib.hid hB1
  clear hB1
  go_enter Tryz.func120, Tryz.ntmps120
  go_wp2_with fail
  refine wp_loop_rounds 3 ?_
  rw [rounds_succ]
  go_wp2_with fail
  rw [rounds_succ]
  go_wp2_with fail
  rw [rounds_succ]
  go_wp2_with fail
  go_loopw [61] (fun i wr => ∃ k : Nat, k ≤ 256 ∧ i = .int .i64 k ∧ Hid (TabAt w.heap.size (fun j => j) k wr) ∧ Hid (Below w.heap.size w wr)) (fun i _ => 256 - (intOf i).toNat)
  case atStart => exact ⟨0, by omega, rfl, HT1, HB1⟩
  case round =>
    obtain ⟨k, hk, rfl, HT, HB⟩ := hrel
    by_cases hlt : k < 256
    · obtain ⟨⟨u, q0⟩, q1, _⟩ := HT.out.cell hlt
      have hw : IntKind.u8.wrap (k : Int) = (k : Int) := wrap_u8_in _ (by omega) (by omega)
      go_wp2
      exact ⟨⟨k + 1, by omega, by go_num, Lib.hid (HT.out.set hlt (fun j hj hne => ⟨by omega, rfl⟩) rfl), Lib.hid (HB.out.setCell (p := ⟨w.heap.size, k, none⟩) (Nat.le_refl _) _)⟩, by simp [intOf]; omega⟩
    · obtain rfl : k = 256 := by omega
      have hup : ∀ {p : Addr} {u : Value}, w.cell? p = some u → wr.cell? p = some u := fun h => (HB.out.cell (block_lt_of_cell h)).trans h
      have d0 := hup t0
      have d1 := hup t1
      have d2 := hup t2
      have d3 := hup t3
      clear hup t0 t1 t2 t3 c0 c1 c3 c4 f0 f1 f3 f4
      obtain ⟨⟨u10, q10⟩, p10, _⟩ := HT.out.cell (k := 10) (by omega)
      obtain ⟨⟨u9, q9⟩, p9, _⟩ := HT.out.cell (k := 9) (by omega)
      have hT2 := HT.out.set (k := 10) (x := 32) (m := 256) (g := fun j => if j = 10 then 32 else j) (by omega) (fun j hj hne => ⟨hj, by simp [hne]⟩) rfl
      have hT3 := Lib.hid (hT2.set (k := 9) (x := 32) (m := 256) (g := tabF) (by omega) (fun j hj hne => ⟨hj, by simp [tabF, hne]⟩) rfl)
      clear hT2
      have b10 : ∀ h, ((⟨#[10]⟩ : ByteArray)[0]'h).toNat = 10 := fun _ => rfl
      have b9 : ∀ h, ((⟨#[9]⟩ : ByteArray)[0]'h).toNat = 9 := fun _ => rfl
      have b32 : ∀ h, ((⟨#[32]⟩ : ByteArray)[0]'h).toNat = 32 := fun _ => rfl
      go_wp2_with fail
      refine wp_loop_rounds 3 ?_
      rw [rounds_succ]
      go_wp2_with fail
      rw [rounds_succ]
      go_wp2_with fail
      rw [rounds_succ]
      go_wp2_with fail
      go_ret
      exact ⟨_, rfl, Nat.le_refl _, hT3.out, (HB.out.setCell (p := ⟨w.heap.size, 10, none⟩) (Nat.le_refl _) _).setCell (p := ⟨w.heap.size, 9, none⟩) (Nat.le_refl _) _⟩
end Go.Proofs.YtihijgghcecpmaaGreatDoor.U
