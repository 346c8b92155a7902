/- The law TokenLines. -/
import Derived.Test.YtihijgghcecpmaaGreatDoorLr
namespace Go.Proofs.YtihijgghcecpmaaGreatDoor.U
open Go.RowKit Go.Shelf

theorem ints_byte (l : List UInt8) : ∀ z ∈ ints l, 0 ≤ z ∧ z ≤ 255 := by
  intro z hz
  unfold ints at hz
  obtain ⟨b, _, rfl⟩ := List.mem_map.1 hz
  have := UInt8.toNat_lt b
  omega
theorem own_byt {w : World} {base n c : Nat} {a : Option Addr} {l : List UInt8} (h : w.ownsRow base 5 1 (.slice a n c) n (Lib.byteCells l)) (hn : n ≤ 140737488351232) : Byt w a n c (ints l) := by
  have hl : l.length = n := by have := h.1; rw [Lib.byteCells_length] at this; omega
  by_cases h0 : 0 < n
  · obtain ⟨g, rfl, hc, hx⟩ := own_at0 h h0
    refine ⟨by rw [ints_len]; exact hl, hc, hn, ints_byte l, fun _ => ⟨g, 0, rfl, fun i hi => ?_⟩⟩
    rw [Nat.zero_add]
    refine hx i _ ?_
    unfold Lib.byteCells ints
    rw [List.getElem?_map, List.getElem?_map, List.getElem?_eq_getElem (by omega)]
    rfl
  · exact ⟨by rw [ints_len]; exact hl, by omega, hn, ints_byte l, fun h1 => absurd h1 h0⟩
/-- A list of bytes, byte by byte in memory. -/
theorem byt_cells {w : World} {a : Option Addr} {len cap : Nat} {l : List UInt8} (hz : Byt w a len cap (ints l)) : ∃ b off, (0 < len → a = some ⟨b, off, none⟩) ∧ (0 < len → b < w.heap.size) ∧ ∀ i (h : i < l.length), w.cell? ⟨b, off + i, none⟩ = some (.int .u8 ((l[i]'h).toNat : Int)) := by
  have hll : l.length = len := by have := hz.eqLen; unfold ints at this; rw [List.length_map] at this; omega
  by_cases h0 : 0 < len
  · obtain ⟨b, off, h1, h2⟩ := hz.cells h0
    have hc : ∀ i (h : i < l.length), w.cell? ⟨b, off + i, none⟩ = some (.int .u8 ((l[i]'h).toNat : Int)) := fun i hi => by
      rw [h2 i (by omega)]
      unfold ints
      rw [List.getElem?_map, List.getElem?_eq_getElem hi]
      rfl
    exact ⟨b, off, fun _ => h1, fun _ => by have := block_lt_of_cell (hc 0 (by omega)); simpa using this, hc⟩
  · exact ⟨0, 0, fun h => absurd h h0, fun h => absurd h h0, fun i hi => absurd hi (by omega)⟩
theorem flat_snoc {l : List UInt8} {p : Nat} (h : p < l.length) (f : UInt8 → List UInt8) : (l.take (p + 1)).flatMap f = (l.take p).flatMap f ++ f l[p] := by
  rw [List.take_succ_eq_append_getElem h, List.flatMap_append]; simp

end Go.Proofs.YtihijgghcecpmaaGreatDoor.U
