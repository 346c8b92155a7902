/- The contract of the law's awake: the chapter's examples hold. -/
import Derived.Test.YtomlmpcjbdkobaaDoorBytes
import Derived.Test.YtomlmpcjbdkobaaDoorEncode
namespace Go.Proofs.YtomlmpcjbdkobaaDoor.U
open Go.RowKit

theorem encC_bytes (r : Int) (hr : isC r = true) : ∀ z ∈ encC r, 0 ≤ z ∧ z ≤ 255 := by
  have hb := isC_bounds hr
  unfold encC
  repeat' split
  all_goals (intro z hz; simp only [List.mem_cons, List.not_mem_nil, or_false] at hz; omega)
theorem encs_bytes (zs : List Int) (h : zs.all isC = true) : ∀ z ∈ encs zs, 0 ≤ z ∧ z ≤ 255 := by
  intro z hz
  simp only [encs, List.mem_flatMap] at hz
  obtain ⟨r, hr, hz⟩ := hz
  exact encC_bytes r (List.all_eq_true.1 h r hr) z hz

/-- What the call owns, as bytes in memory. -/
theorem owned_byt {w : World} {base n : Nat} {v : Value} {zs : List Int} (h : w.ownsRow base 5 1 v n (zs.map (Value.int .u8))) (hb : ∀ z ∈ zs, 0 ≤ z ∧ z ≤ 255) (hn : n ≤ 140737488351232) : ∃ a cap, v = .slice a n cap ∧ Byt w a n cap zs := by
  obtain ⟨hlen, h2⟩ := h
  have hl : zs.length = n := by simpa using hlen
  rcases h2 with ⟨rfl, rfl⟩ | ⟨g, cap, cur, rfl, _, hh, hc, _, _, ht⟩
  · exact ⟨none, 0, rfl, hl, Nat.le_refl _, by omega, hb, fun h => absurd h (by omega)⟩
  · refine ⟨_, cap, rfl, hl, hc, hn, hb, fun _ => ⟨g, 0, rfl, fun i hi => ?_⟩⟩
    have e : (⟨g, 0 + i, none⟩ : Addr) = ⟨g, i, none⟩ := by simp
    rw [e, cell_of_row w g i cur 5 (0, 0) hh]
    have h3 : (cur.toList.take (n * 1))[i]? = (zs.map (Value.int .u8))[i]? := by rw [ht]
    rw [List.getElem?_take_of_lt (by omega), List.getElem?_map] at h3
    rw [← Array.getElem?_toList, h3]
    rw [List.getElem?_eq_getElem (by omega)]
    rfl

/-- A list that has just been built. -/
theorem built_byt (w : World) (zs : List Int) (hb : ∀ z ∈ zs, 0 ≤ z ∧ z ≤ 255) (hn : zs.length ≤ 140737488351232) : Byt (w.alloc (.cells (zs.map (Value.int .u8)).toArray 5)) (some ⟨w.heap.size, 0, none⟩) zs.length zs.length zs := by
  refine ⟨rfl, Nat.le_refl _, hn, hb, fun _ => ⟨w.heap.size, 0, rfl, fun i hi => ?_⟩⟩
  rw [World.cell?_alloc_new]
  simp [List.getElem?_eq_getElem hi]

set_option maxHeartbeats 1000000 in
theorem awake_any (w : World) (hl : Lay w) : Calls Tryd.prog 7 #[] w fun e w' => e = .returned (.bool true) ∧ Below w.heap.size w w' := by
  have HL := Lib.hid hl
  clear hl
  go_enter Tryd.func7, Tryd.ntmps7
  go_wp2_with fail
  refine (encode_any _ 1 1 [233] _ (HL.out.below ((Below.refl _ _).alloc (Nat.le_refl _) _) HL.out.size) ⟨rfl, fun _ => ⟨w.heap.size, 0, rfl, fun i hi => ?_⟩⟩ (by omega)).mono ?_
  · obtain rfl : i = 0 := by omega
    rw [World.cell?_alloc_new]; rfl
  rintro e w1 ⟨hb1, he⟩
  rcases he with ⟨hf, _⟩ | ⟨_, v, rfl, hown⟩
  · exact absurd hf (by decide)
  have hb1' : Below w.heap.size w w1 := ((Below.refl _ _).alloc (Nat.le_refl _) _).trans (hb1.mono (by simp))
  have e1 : encs [233] = [195, 169] := by decide
  rw [e1] at hown
  obtain ⟨a, cap, rfl, hbyt⟩ := owned_byt hown (by decide) (by decide)
  have hl1 : Lay w1 := HL.out.below hb1' HL.out.size
  clear e1 hb1
  have HB1 := Lib.hid hb1'
  have HBY := Lib.hid hbyt
  have HL1 := Lib.hid hl1
  clear hown hb1' hbyt hl1
  rw [show ([195, 169] : List Int).length = 2 from rfl]
  go_wp2_with fail
  have hby2 := built_byt w1 [195, 169] (by decide) (by decide)
  have hd2 : Calls Tryd.prog 16 #[.slice (some ⟨w1.heap.size, 0, none⟩) 2 2, .int .i64 0] (w1.alloc (.cells #[.int .u8 195, .int .u8 169] 5)) fun e w' => DecPost (some (233, 2)) (w1.alloc (.cells #[.int .u8 195, .int .u8 169] 5)) e w' := by
    have h := decode_in w1.heap.size 0 2 2 0 [195, 169] (w1.alloc (.cells #[.int .u8 195, .int .u8 169] 5)) (HL1.out.below ((Below.refl _ _).alloc (Nat.le_refl _) _) HL1.out.size) rfl (Nat.le_refl _) (by decide) (fun i hi => by
      obtain ⟨b, off, hab, hc⟩ := hby2.cells (by decide)
      simp only [Option.some.injEq, Addr.mk.injEq] at hab
      obtain ⟨rfl, rfl, _⟩ := hab
      exact hc i hi) (by omega) (by omega)
    exact h
  clear hby2
  refine hd2.mono ?_
  rintro e w2 ⟨hb2, rfl⟩
  clear hd2
  have HB2 : Hid (Below w1.heap.size w1 w2) := ((Below.refl _ _).alloc (Nat.le_refl _) _).trans (hb2.mono (by simp))
  have HL2 : Hid (Lay w2) := HL1.out.below HB2.out HL1.out.size
  have HBY2 : Hid (Byt w2 a 2 cap [195, 169]) := HBY.out.below HB2.out (Nat.le_refl _)
  clear hb2
  go_wp2_with fail
  have hby3 := built_byt w2 [192, 128] (by decide) (by decide)
  refine (check_any _ 2 2 [192, 128] _ (HL2.out.below ((Below.refl _ _).alloc (Nat.le_refl _) _) HL2.out.size) hby3).mono ?_
  rintro e w3 ⟨rfl, hb3⟩
  rw [show ((chkC [192, 128] : Nat) : Int) = 0 from by decide, show chkE [192, 128] = 10 from by decide]
  clear hby3
  have HB3 : Hid (Below w2.heap.size w2 w3) := ((Below.refl _ _).alloc (Nat.le_refl _) _).trans (hb3.mono (by simp))
  have HBY3 : Hid (Byt w3 a 2 cap [195, 169]) := HBY2.out.below HB3.out (Nat.le_refl _)
  clear hb3
  go_wp2_with fail
  have hby4 := built_byt w3 [195, 169] (by decide) (by decide)
  refine (bytes_yes _ _ 2 _ _ [195, 169] _ (HBY3.out.below ((Below.refl _ _).alloc (Nat.le_refl _) _) (Nat.le_refl _)) hby4).mono ?_
  rintro e w4 ⟨rfl, hb4⟩
  clear hby4
  go_wp2
  go_ret
  exact ⟨rfl, (th (th HB1.out (Nat.le_refl _) HB2.out) (Nat.le_refl _) HB3.out).trans (((Below.refl _ _).alloc (Nat.le_refl _) _).trans (hb4.mono (by simp)) |>.mono (Nat.le_trans (Nat.le_trans HB1.out.size HB2.out.size) HB3.out.size))⟩
end Go.Proofs.YtomlmpcjbdkobaaDoor.U
