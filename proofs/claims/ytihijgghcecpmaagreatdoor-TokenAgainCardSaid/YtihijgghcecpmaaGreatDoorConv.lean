/- What the walks need of the memory, and the contracts of names.check and ref.Chars. -/
import Derived.Test.YtihijgghcecpmaaGreatDoorQ1
import Derived.Test.YtihijgghcecpmaaGreatDoorQ4
import Derived.Test.YtihijgghcecpmaaGreatDoorKind
import Derived.Lib.ConvBytes
namespace Go.Proofs.YtihijgghcecpmaaGreatDoor.U
open Go.RowKit Go.Shelf

/-- The two tables of package utf, and the library's error of a number's form. -/
structure LayS (w : World) : Prop where
  lay : Lay w
  syn : ∃ te pe, w.cell? ⟨5, 0, none⟩ = some (.iface te pe)
theorem LayS.size {w : World} (h : LayS w) : 6 ≤ w.heap.size := by
  have h0 := h.lay.size
  obtain ⟨_, _, h1⟩ := h.syn
  have := block_lt_of_cell h1
  simp at this
  omega
theorem LayS.below {w w' : World} {B : Nat} (h : LayS w) (hb : Below B w w') (hB : 6 ≤ B) : LayS w' := by
  refine ⟨h.lay.below hb (by omega), ?_⟩
  obtain ⟨te, pe, h1⟩ := h.syn
  exact ⟨te, pe, (hb.cell (p := ⟨5, 0, none⟩) (by simp; omega)).trans h1⟩

theorem bytes_below (w : World) (s : ByteArray) : Below w.heap.size w (Lib.bytesWorld w 5 s) :=
  ⟨rfl, rfl, rfl, by rw [Lib.bytesWorld_size]; omega, fun j hj => Lib.bytesWorld_at_old w 5 s j hj⟩

/-- A text that is turned into bytes. -/
theorem bytes_byt (w : World) (s : ByteArray) (hs : s.size ≤ 140737488351232) : Byt (Lib.bytesWorld w 5 s) (some ⟨w.heap.size, 0, none⟩) s.size (grownCap w s.size 0 5) (ints (bts s)) := by
  refine ⟨by rw [ints_len, bts_len], ?_, hs, ?_, fun h0 => ⟨_, _, rfl, fun i hi => ?_⟩⟩
  · exact grownCap_ge w s.size 0 5
  · intro z hz
    unfold ints at hz
    obtain ⟨b, _, rfl⟩ := List.mem_map.1 hz
    have := b.toNat_lt
    omega
  · have := Lib.bytesWorld_cell w 5 s i hi
    rw [Nat.zero_add, this]
    unfold ints bts
    rw [List.getElem?_map, List.getD_eq_getElem?_getD]
    cases h : s.data.toList[i]? with
    | none => rfl
    | some b => rfl

theorem conv_any (w : World) (s : ByteArray) : (convert 9 22 (.string s)).run Tryz.prog w = .ok (.slice (some ⟨w.heap.size, 0, none⟩) s.size (grownCap w s.size 0 5)) (Lib.bytesWorld w 5 s) :=
  Lib.run_convert_string_bytes (P := Tryz.prog) w 9 22 5 s (u := .string) Tryz.underlying9 Tryz.underlying22 Tryz.underlying5

set_option maxHeartbeats 1000000 in
theorem ncheck_any (s : ByteArray) (w : World) (hl : Lay w) (hs : s.size ≤ 140737488351232) :
    Calls Tryz.prog 71 #[.string s] w fun e w' => e = .returned (.int .i64 (chkE (ints (bts s)))) ∧ Below w.heap.size w w' := by
  have hcv := conv_any w s
  have hB := bytes_below w s
  have HZ := Lib.hid (bytes_byt w s hs)
  have HL := Lib.hid (hl.below hB hl.size)
  generalize Lib.bytesWorld w 5 s = w1 at hcv hB HZ HL
  have HB := Lib.hid hB
  clear hB hl hs
  go_enter Tryz.func71, Tryz.ntmps71
  go_wp2_with fail
  refine (check_any _ _ _ _ _ HL.out HZ.out).mono ?_
  rintro e w2 ⟨rfl, hb⟩
  go_wp2
  go_ret
  exact ⟨rfl, HB.out.trans (hb.mono HB.out.size)⟩

end Go.Proofs.YtihijgghcecpmaaGreatDoor.U
