/- The contract of the document's answer for layer 2: Escape. -/
import Derived.Test.YtcfnmhadihhfaaaDoorRefN
import Derived.Test.YtcfnmhadihhfaaaDoorBytes
import Derived.Laws.IdiomStrings
import Derived.Laws.BytesArg
namespace Go.Proofs.YtcfnmhadihhfaaaDoor.U
open Go.RowKit Go.Shelf

/-- A row of bytes that the call owns, as a text. -/
theorem conv_own (w : World) (base : Nat) (v : Value) (l : List UInt8) (h : w.ownsRow base 5 1 v l.length (Lib.byteCells l)) : (convert 36 9 v).run Tryd.prog w = .ok (.string ⟨l.toArray⟩) w := by
  rcases h.2 with ⟨rfl, h0⟩ | ⟨g, cap, cur, rfl, _⟩
  · obtain rfl : l = [] := List.eq_nil_of_length_eq_zero h0
    exact run_convert_bytes_nil (P := Tryd.prog) w 36 5 Tryd.underlying36 Tryd.underlying5 0 0 9 Tryd.underlying9
  · refine run_convert_bytes_back (P := Tryd.prog) w 36 9 5 ⟨g, 0, none⟩ cap l Tryd.underlying36 Tryd.underlying5 Tryd.underlying9 ?_
    intro j hj
    exact h.cells rfl j _ (by simp [Lib.byteCells, hj])

/-- The row that a text is turned into: its cells. -/
theorem bytes_news (w : World) (s : ByteArray) : ∀ j u, (Lib.byteCells (bts s))[j]? = some u → (Lib.bytesWorld w 5 s).cell? ((⟨w.heap.size, 0, none⟩ : Addr).add j) = some u := by
  intro j u hj
  have e : (⟨w.heap.size, 0, none⟩ : Addr).add j = ⟨w.heap.size, j, none⟩ := by unfold Addr.add; split <;> simp_all
  have hlt : j < s.size := by
    have := (List.getElem?_eq_some_iff.1 hj).1
    rwa [Lib.byteCells_length, bts_len] at this
  rw [e, Lib.bytesWorld_cell w 5 s j hlt, ← hj]
  unfold Lib.byteCells
  rw [List.getElem?_map, List.getElem?_eq_getElem (by rw [bts_len]; exact hlt), List.getD_eq_getElem?_getD, List.getElem?_eq_getElem (by show j < (bts s).length; rw [bts_len]; exact hlt)]
  rfl
theorem byteCells_one (l : List UInt8) : ∀ u ∈ Lib.byteCells l, u.oneCell' = true := by
  intro u hu
  unfold Lib.byteCells at hu
  obtain ⟨b, _, rfl⟩ := List.mem_map.1 hu
  rfl

theorem escL_snoc (v : Bool) (s : ByteArray) (k : Nat) (h : k < s.size) : escL v ((bts s).take (k + 1)) = escL v ((bts s).take k) ++ escB v (s[k]'h) := by
  rw [bts_take s k h]; unfold escL; rw [List.flatMap_append]; simp
theorem bts_sub (s : ByteArray) (k : Nat) (h : k < s.size) : bts (s.extract k (k + 1)) = [s[k]'h] := by
  rw [bts_extract, bts_take s k h, List.drop_append_of_le_length (by rw [List.length_take, bts_len]; omega), List.drop_of_length_le (by rw [List.length_take, bts_len]; omega)]
  rfl
theorem own_bytes {w : World} {base : Nat} {l : List UInt8} {v : Value} (h : w.ownsRow base 5 1 v l.length (Lib.byteCells l)) (s : ByteArray) : (Lib.bytesWorld w 5 s).ownsRow base 5 1 v l.length (Lib.byteCells l) :=
  own_below h (bytes_below w s)

set_option maxHeartbeats 2000000 in
theorem refEscape_any (v : Bool) (s : ByteArray) (w : World) (hs : s.size ≤ 100000) :
    Calls Tryd.prog 15 #[.string s, .bool v] w fun e w' => e = .returned (.string ⟨(escL v (bts s)).toArray⟩) ∧ Below w.heap.size w w' := by
  obtain ⟨i0, hi, hz0, hz1, hz2⟩ := info_parts info5
  have hcv := fun x W => conv_any W x
  have HS := Lib.hid hs
  clear hs
  go_enter Tryd.func15, Tryd.ntmps15
  go_wp2_with fail
  go_loopw [5, 6] (fun u i wr => ∃ k : Nat, k ≤ s.size ∧ i = .int .i64 k ∧ wr.ownsRow w.heap.size 5 1 u (escL v ((bts s).take k)).length (Lib.byteCells (escL v ((bts s).take k))) ∧ Below w.heap.size w wr) (fun _ i _ => s.size - (intOf i).toNat)
  case atStart => exact ⟨0, by omega, rfl, World.ownsRow_nil _ _ _ _, Below.refl _ _⟩
  case round =>
    obtain ⟨k, hk, rfl, hown, hB⟩ := hrel
    by_cases hlt : k < s.size
    · have HO := Lib.hid hown
      have HB := Lib.hid hB
      have HESC := Lib.hid (escL_snoc v s k hlt)
      have HSUB := Lib.hid (bts_sub s k hlt)
      have HLEN : Hid ((escL v ((bts s).take k)).length ≤ 600000) := Lib.hid (by
        have h1 := (escL_len v ((bts s).take k)).2
        have h2 : ((bts s).take k).length ≤ s.size := by rw [List.length_take, bts_len]; omega
        have := HS.out; omega)
      clear hown hB
      go_wp2_with fail
      refine (instead_any v _ _).mono ?_
      rintro e w2 ⟨rfl, hb2⟩
      have HO2 := Lib.hid (own_below HO.out hb2)
      have HB2 := Lib.hid (th HB.out (Nat.le_refl _) hb2)
      clear hb2
      by_cases hesc : escT v (s[k]'hlt).toNat = []
      · rw [hesc]
        have HEB : Hid (escB v (s[k]'hlt) = [s[k]'hlt]) := Lib.hid (by unfold escB; rw [if_pos hesc])
        clear hesc
        have hk1 : (k : Int) + 1 ≤ 100000 := by have := HS.out; omega
        go_wp2_with (at_builtin; refine wpList_append_own _ rfl _ _ 36 rfl w.heap.size 5 i0 (.int .u8 0) 1 1 Tryd.underlying36 hi hz0 hz1 hz2 rfl (by decide) _ _ _ rfl (own_bytes HO2.out _) ⟨w2.heap.size, 0, none⟩ _ _ (Lib.byteCells (bts (s.extract k (k + 1)))) rfl (by rw [Lib.byteCells_length, HSUB.out]; simp; omega) (bytes_news _ _) (byteCells_one _) (by unfold maxLen; have := HLEN.out; omega) (by have := HLEN.out; omega) (by have := HB2.out.size; rw [Lib.bytesWorld_size]; omega) ?_; intro v3 w3 hown3 hgrow3 _)
        rw [HSUB.out] at hown3
        have HB3 := Lib.hid (((HB2.out.trans ((bytes_below w2 _).mono HB2.out.size))).grown hgrow3 (by have := HB2.out.size; rw [Lib.bytesWorld_size]; omega) (fun k e => (HO2.out.lt k e).1))
        have HO3 : Hid (w3.ownsRow w.heap.size 5 1 v3 (escL v ((bts s).take (k + 1))).length (Lib.byteCells (escL v ((bts s).take (k + 1))))) := Lib.hid (by
          rw [HESC.out, HEB.out, Lib.byteCells_append, List.length_append]
          have hm1 : min (k + 1) s.size - k = 1 := by omega
          simpa [hm1] using hown3)
        clear hown3 hgrow3
        go_wp2
        go_roundw
        case rel => exact ⟨k + 1, by omega, by go_num, HO3.out, HB3.out⟩
        case measure => simp [intOf]; omega
      · have HEB : Hid (escB v (s[k]'hlt) = escT v (s[k]'hlt).toNat) := Lib.hid (by unfold escB; rw [if_neg hesc])
        have hne : (escT v (s[k]'hlt).toNat).isEmpty = false := List.isEmpty_eq_false_iff.2 hesc
        have HL6 := Lib.hid (escT_len v (s[k]'hlt).toNat)
        obtain ⟨x, hx⟩ : ∃ x, x = escT v (s[k]'hlt).toNat := ⟨_, rfl⟩
        rw [← hx] at HEB hne HL6 ⊢
        clear hesc hx
        have hk1 : (k : Int) + 1 ≤ 100000 := by have := HS.out; omega
        go_wp2_with (at_builtin; refine wpList_append_own _ rfl _ _ 36 rfl w.heap.size 5 i0 (.int .u8 0) 1 1 Tryd.underlying36 hi hz0 hz1 hz2 rfl (by decide) _ _ _ rfl (own_bytes HO2.out _) ⟨w2.heap.size, 0, none⟩ _ _ (Lib.byteCells (bts ⟨x.toArray⟩)) rfl (by rw [Lib.byteCells_length, bts_mk]; simp) (bytes_news _ _) (byteCells_one _) (by unfold maxLen; have := HLEN.out; have := HL6.out; simp; omega) (by have := HLEN.out; have := HL6.out; simp; omega) (by have := HB2.out.size; rw [Lib.bytesWorld_size]; omega) ?_; intro v3 w3 hown3 hgrow3 _)
        rw [show bts ⟨x.toArray⟩ = x from bts_mk x] at hown3
        have HB3 := Lib.hid (((HB2.out.trans ((bytes_below w2 _).mono HB2.out.size))).grown hgrow3 (by have := HB2.out.size; rw [Lib.bytesWorld_size]; omega) (fun k e => (HO2.out.lt k e).1))
        have HO3 : Hid (w3.ownsRow w.heap.size 5 1 v3 (escL v ((bts s).take (k + 1))).length (Lib.byteCells (escL v ((bts s).take (k + 1))))) := Lib.hid (by
          rw [HESC.out, HEB.out, Lib.byteCells_append, List.length_append]
          simpa using hown3)
        clear hown3 hgrow3
        go_wp2
        go_roundw
        case rel => exact ⟨k + 1, by omega, by go_num, HO3.out, HB3.out⟩
        case measure => simp [intOf]; omega
    · have hkk : k = s.size := by omega
      rw [hkk, List.take_of_length_le (Nat.le_of_eq (bts_len s))] at hown
      have hcb := conv_own _ _ _ _ hown
      have HB := Lib.hid hB
      subst hkk
      clear hown hB
      go_wp2
      go_ret
      exact ⟨rfl, HB.out⟩
end Go.Proofs.YtcfnmhadihhfaaaDoor.U
