/- The contracts of names.escaped and Escape. -/
import Derived.Test.YtcfnmhadihhfaaaDoorEsc
import Derived.Test.YtcfnmhadihhfaaaDoorConv
import Derived.Test.YtcfnmhadihhfaaaDoorBld
import Derived.WalkMore
namespace Go.Proofs.YtcfnmhadihhfaaaDoor.U
open Go.RowKit Go.Shelf

set_option maxHeartbeats 1000000 in
theorem escaped_any (v : Bool) (r : Int) (w : World) : Calls Tryd.prog 23 #[.int .i32 r, .bool v] w fun e w' => e = .returned (.string ⟨(escT v r).toArray⟩) ∧ Below w.heap.size w w' := by
  cases v
  · rcases (show r = 38 ∨ r = 60 ∨ r = 62 ∨ r = 13 ∨ (r ≠ 38 ∧ r ≠ 60 ∧ r ≠ 62 ∧ r ≠ 13) by omega) with h | h | h | h | ⟨h1, h2, h3, h4⟩
    · subst h
      go_enter Tryd.func23, Tryd.ntmps23
      go_wp2
      go_ret
      exact ⟨rfl, Below.refl _ _⟩
    · subst h
      go_enter Tryd.func23, Tryd.ntmps23
      go_wp2
      go_ret
      exact ⟨rfl, Below.refl _ _⟩
    · subst h
      go_enter Tryd.func23, Tryd.ntmps23
      go_wp2
      go_ret
      exact ⟨rfl, Below.refl _ _⟩
    · subst h
      go_enter Tryd.func23, Tryd.ntmps23
      go_wp2
      go_ret
      exact ⟨rfl, Below.refl _ _⟩
    have HV : Hid (escT false r = []) := Lib.hid (by unfold escT; simp [h1, h2, h3, h4])
    go_enter Tryd.func23, Tryd.ntmps23
    go_wp2
    go_ret
    exact ⟨by rw [HV.out]; rfl, Below.refl _ _⟩
  · rcases (show r = 38 ∨ r = 60 ∨ r = 62 ∨ r = 13 ∨ r = 34 ∨ r = 9 ∨ r = 10 ∨ (r ≠ 38 ∧ r ≠ 60 ∧ r ≠ 62 ∧ r ≠ 13 ∧ r ≠ 34 ∧ r ≠ 9 ∧ r ≠ 10) by omega) with h | h | h | h | h | h | h | ⟨h1, h2, h3, h4, h5, h6, h7⟩
    · subst h
      go_enter Tryd.func23, Tryd.ntmps23
      go_wp2
      go_ret
      exact ⟨rfl, Below.refl _ _⟩
    · subst h
      go_enter Tryd.func23, Tryd.ntmps23
      go_wp2
      go_ret
      exact ⟨rfl, Below.refl _ _⟩
    · subst h
      go_enter Tryd.func23, Tryd.ntmps23
      go_wp2
      go_ret
      exact ⟨rfl, Below.refl _ _⟩
    · subst h
      go_enter Tryd.func23, Tryd.ntmps23
      go_wp2
      go_ret
      exact ⟨rfl, Below.refl _ _⟩
    · subst h
      go_enter Tryd.func23, Tryd.ntmps23
      go_wp2
      go_ret
      exact ⟨rfl, Below.refl _ _⟩
    · subst h
      go_enter Tryd.func23, Tryd.ntmps23
      go_wp2
      go_ret
      exact ⟨rfl, Below.refl _ _⟩
    · subst h
      go_enter Tryd.func23, Tryd.ntmps23
      go_wp2
      go_ret
      exact ⟨rfl, Below.refl _ _⟩
    have HV : Hid (escT true r = []) := Lib.hid (by unfold escT; simp [h1, h2, h3, h4, h5, h6, h7])
    go_enter Tryd.func23, Tryd.ntmps23
    go_wp2
    go_ret
    exact ⟨by rw [HV.out]; rfl, Below.refl _ _⟩

/-- What Escape answers. -/
def escP (v : Bool) (l : List UInt8) : List UInt8 × Int := if wholeB l = true then (escL v l, 0) else ([], 10)

theorem bytes_str (l : List UInt8) : Lib.strCells ⟨l.toArray⟩ = Lib.byteCells l := by simp [Lib.strCells, Lib.byteCells]

set_option maxHeartbeats 4000000 in
theorem escape_any (v : Bool) (s : ByteArray) (w : World) (hl : Lay w) (hs : s.size ≤ 1000000) :
    Calls Tryd.prog 13 #[.string s, .bool v] w fun e w' => e = .returned (.tuple #[.string ⟨(escP v (bts s)).1.toArray⟩, .int .i64 (escP v (bts s)).2]) ∧ Below w.heap.size w w' := by
  by_cases hw : wholeB (bts s) = true
  · have he : chkE (ints (bts s)) = 0 := by
      have := (wholeB_iff _).1 hw
      unfold Whole at this
      unfold chkE
      rw [if_neg (by rw [this, ints_len]; omega)]
    have hp : escP v (bts s) = (escL v (bts s), 0) := by unfold escP; rw [if_pos hw]
    rw [hp]
    have hrun := ((wholeB_iff _).1 hw).runes
    have hall := runes_all (ints (bts s))
    have hesc : escL v (bts s) = (runesC (ints (bts s))).flatMap (escR v) := by
      conv => lhs; rw [encodes_of hall hrun]
      exact esc_runes v hall
    rw [hesc]
    have hlen : (runesC (ints (bts s))).length ≤ s.size := by
      have := runes_len' (ints (bts s))
      rw [ints_len, bts_len] at this
      exact this
    generalize hrs : runesC (ints (bts s)) = rs at hrun hall hlen
    clear hrs hesc hp hw
    have HRUN := Lib.hid hrun
    have HALL := Lib.hid hall
    have HLEN := Lib.hid hlen
    have HL := Lib.hid hl
    have HS := Lib.hid hs
    clear hrun hall hlen hl hs
    go_enter Tryd.func13, Tryd.ntmps13
    go_wp2_with fail
    refine (ncheck_any s _ HL.out (by have := HS.out; omega)).mono ?_
    rintro e w1 ⟨rfl, hb1⟩
    rw [he]
    have HB1 := Lib.hid hb1
    have hsz1 := hb1.size
    clear hb1 he
    go_wp2
    go_loopw [] (fun wr => ∃ (pos : Nat) (rest : List Int) (acc : List UInt8), Lib.IsBuilderF 38 5 w1.heap.size w1.heap.size (Lib.byteCells acc) wr ∧ wr.heap[w1.heap.size + 1]? = some (.stringIter s pos) ∧ Below w1.heap.size w1 wr ∧ rest.all isC = true ∧ ints ((bts s).drop pos) = rest.flatMap encC ∧ acc ++ rest.flatMap (escR v) = rs.flatMap (escR v) ∧ acc.length ≤ 6 * pos) (fun wr => s.size - wr.iterPos (w1.heap.size + 1))
    case atStart =>
      refine ⟨0, rs, [], (Lib.IsBuilderF.of (Lib.fresh_isBuilder 38 5 w1)).alloc _, ?_, ((Below.refl _ w1).alloc (Nat.le_refl _) _).alloc (by simp) _, HALL.out, HRUN.out, rfl, by simp⟩
      have := World.iter_heap (w1.alloc (.cells #[.pointer none, .slice none 0 0] 38)) s 0
      simpa using this
    case round =>
      obtain ⟨pos, rest, acc, hI, hit, hbw, hra, hrest, hacc, hal⟩ := hrel
      have hsz : w1.heap.size + 1 < wr.heap.size := (Array.getElem?_eq_some_iff.1 hit).1
      have HRA := Lib.hid hra
      have HREST := Lib.hid hrest
      have HACC := Lib.hid hacc
      have HBW := Lib.hid hbw
      clear hra hrest hacc hbw
      cases rest with
      | cons r rest =>
        have hrc : isC r = true := by have := HRA.out; simp only [List.all_cons, Bool.and_eq_true] at this; exact this.1
        have hrc2 : rest.all isC = true := by have := HRA.out; simp only [List.all_cons, Bool.and_eq_true] at this; exact this.2
        obtain ⟨hdec, hple⟩ := dec_link s pos r (rest.flatMap encC) hrc (by rw [HREST.out, List.flatMap_cons])
        have hsc : 1 ≤ sizeC r ∧ sizeC r ≤ 4 := by unfold sizeC; repeat' split
                                                   all_goals omega
        have hp : pos < s.size := by omega
        have hrest2 : ints ((bts s).drop (pos + sizeC r)) = rest.flatMap encC := by
          rw [← List.drop_drop, ints_drop, HREST.out, List.flatMap_cons, List.drop_append_of_le_length (by rw [encC_len]; omega), List.drop_of_length_le (by rw [encC_len]; omega), List.nil_append]
        have hrb := isC_bounds hrc
        have hnx : ∀ ty, (Instr.next (.pointer (some ⟨w1.heap.size + 1, 0, none⟩)) true ty).run Tryd.prog wr = .ok (.tuple #[.bool true, .int .i64 pos, .int .i32 r]) (wr.iterAt (w1.heap.size + 1) s (pos + sizeC r)) := by
          intro ty
          rw [Lib.run_next_any_at wr (w1.heap.size + 1) s pos ty hit hp, hdec]
          have : ((r.toNat : Nat) : Int) = r := by omega
          simp only [this]
        have hI2 := hI.iterAt hit (pos + sizeC r)
        have hit2 := Lib.iterAt_heap wr (w1.heap.size + 1) s pos (pos + sizeC r) hit
        have hbw2 := Lib.below_iterAt HBW.out (k := w1.heap.size + 1) (by omega) s (pos + sizeC r)
        have hsz2 : (wr.iterAt (w1.heap.size + 1) s (pos + sizeC r)).heap.size = wr.heap.size := Lib.iterAt_size ..
        have HSC := Lib.hid hsc
        have HPLE := Lib.hid hple
        have HREST2 := Lib.hid hrest2
        have HRC := Lib.hid hrc
        have HRC2 := Lib.hid hrc2
        have HI2 := Lib.hid hI2
        have HIT2 := Lib.hid hit2
        have HBW2 := Lib.hid hbw2
        have HSZ2 := Lib.hid hsz2
        have HRB := Lib.hid hrb
        have HAL := Lib.hid hal
        have HIT := Lib.hid hit
        clear hsc hple hrest2 hrc hrc2 hI2 hit2 hbw2 hsz2 hrb hdec hI hit hal
        go_wp2_with fail
        refine (escaped_any v r _).mono ?_
        rintro e w2 ⟨rfl, hb2⟩
        have HIT3 : Hid (w2.heap[w1.heap.size + 1]? = some (.stringIter s (pos + sizeC r))) := Lib.hid ((hb2.block _ (by rw [HSZ2.out]; exact hsz)).trans HIT2.out)
        have HI3 : Hid (Lib.IsBuilderF 38 5 w1.heap.size w1.heap.size (Lib.byteCells acc) w2) := Lib.hid (bld_below HI2.out hb2)
        have HB3 : Hid (Below w1.heap.size w1 w2) := Lib.hid (HBW2.out.trans (hb2.mono (by rw [HSZ2.out]; omega)))
        have hsz3 : w1.heap.size ≤ w2.heap.size := HB3.out.size
        have HACL : Hid (acc.length ≤ 6 * s.size) := Lib.hid (by have := HAL.out; omega)
        clear hb2
        by_cases hesc : escT v r = []
        · have hE : escR v r = Lib.encodeRune r := by unfold escR; rw [if_pos hesc]
          have HE := Lib.hid hE
          rw [hesc]
          clear hE hesc
          go_wp2_with fail
          refine (writeRune_any w1.heap.size w1.heap.size (Lib.byteCells acc) r (by have := HRB.out; omega) (by have := HRB.out; omega) _ HI3.out (by rw [Lib.byteCells_length]; have := HACL.out; have := HS.out; omega) hsz3).mono ?_
          rintro e w3 ⟨rfl, h1, b1, k1⟩
          go_wp2
          go_roundw
          case rel =>
            refine ⟨pos + sizeC r, rest, acc ++ Lib.encodeRune r, ?_, k1.iter HIT3.out (by omega), HB3.out.trans b1, HRC2.out, HREST2.out, ?_, ?_⟩
            · rw [Lib.byteCells_append, Lib.byteCells_encodeRune]; exact Or.inr h1
            · rw [← HACC.out, List.flatMap_cons, HE.out, List.append_assoc]
            · rw [List.length_append, encode_len HRC.out]; have := HAL.out; have := HSC.out; omega
          case measure =>
            simp only [World.iterPos, k1.iter HIT3.out (by omega), HIT.out]
            have := HPLE.out; have := HSC.out; omega
        · have hE : escR v r = escT v r := by unfold escR; rw [if_neg hesc]
          have HE := Lib.hid hE
          have hne : (escT v r).isEmpty = false := List.isEmpty_eq_false_iff.2 hesc
          have HLT : Hid ((escT v r).length ≤ 6) := Lib.hid (escT_len v r)
          clear hE hesc
          go_wp2_with fail
          refine (writeString_any w1.heap.size w1.heap.size (Lib.byteCells acc) ⟨(escT v r).toArray⟩ _ HI3.out (by rw [Lib.byteCells_length]; have := HACL.out; have := HS.out; have := HLT.out; rw [str_size]; omega) hsz3).mono ?_
          rintro e w3 ⟨rfl, h1, b1, k1⟩
          go_wp2
          go_roundw
          case rel =>
            refine ⟨pos + sizeC r, rest, acc ++ escT v r, ?_, k1.iter HIT3.out (by omega), HB3.out.trans b1, HRC2.out, HREST2.out, ?_, ?_⟩
            · rw [Lib.byteCells_append, ← bytes_str]; exact Or.inr h1
            · rw [← HACC.out, List.flatMap_cons, HE.out, List.append_assoc]
            · rw [List.length_append]; have := HAL.out; have := HSC.out; have := HLT.out; omega
          case measure =>
            simp only [World.iterPos, k1.iter HIT3.out (by omega), HIT.out]
            have := HPLE.out; have := HSC.out; omega
      | nil =>
        have hp : ¬ pos < s.size := by
          intro h
          have h1 := HREST.out
          rw [bts_drop s pos h] at h1
          cases h1
        have hnx : ∀ ty, (Instr.next (.pointer (some ⟨w1.heap.size + 1, 0, none⟩)) true ty).run Tryd.prog wr = _ := fun ty => Lib.run_next_end_at wr (w1.heap.size + 1) s pos ty hit hp
        go_wp2_with fail
        refine (S.Builder_String_any_k w1.heap.size w1.heap.size acc _ hI (by omega)).mono ?_
        rintro e w3 ⟨rfl, _, b1, _⟩
        go_wp2
        go_ret2
        have h1 := HACC.out
        rw [List.flatMap_nil, List.append_nil] at h1
        exact ⟨by rw [h1]; rfl, HB1.out.trans ((HBW.out.trans b1).mono hsz1)⟩
  · have he : chkE (ints (bts s)) = 10 := by
      have : ¬ Whole (bts s) := fun h => hw ((wholeB_iff _).2 h)
      unfold Whole at this
      have h2 := chkC_le (ints (bts s))
      unfold chkE
      rw [if_pos (by rw [ints_len] at h2 ⊢; omega)]
    have hp : escP v (bts s) = ([], 10) := by unfold escP; rw [if_neg hw]
    rw [hp]
    go_enter Tryd.func13, Tryd.ntmps13
    go_wp2_with fail
    refine (ncheck_any s _ hl (by omega)).mono ?_
    rintro e w1 ⟨rfl, hb1⟩
    rw [he]
    go_wp2
    go_ret2
    exact ⟨rfl, hb1⟩
end Go.Proofs.YtcfnmhadihhfaaaDoor.U
