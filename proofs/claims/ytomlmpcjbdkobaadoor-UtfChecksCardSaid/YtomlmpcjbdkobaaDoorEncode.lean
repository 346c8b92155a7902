/- The contract of utf.Encode. -/
import Derived.Test.YtomlmpcjbdkobaaDoorPut
import Derived.Test.YtomlmpcjbdkobaaDoorIs
namespace Go.Proofs.YtomlmpcjbdkobaaDoor.U
open Go.RowKit

/-- The bytes of the first k numbers. -/
def encs (zs : List Int) : List Int := zs.flatMap encC

theorem encs_snoc (zs : List Int) (r : Int) : encs (zs ++ [r]) = encs zs ++ encC r := by simp [encs]
theorem encs_len (zs : List Int) : (encs zs).length ≤ 4 * zs.length := by
  induction zs with
  | nil => simp [encs]
  | cons r l ih =>
    have h1 : (encC r).length ≤ 4 := by rw [encC_len]; unfold sizeC; repeat' split
                                        all_goals omega
    simp only [encs, List.flatMap_cons, List.length_append, List.length_cons] at ih ⊢
    omega

/-- What Encode leaves: the bytes of all numbers in a row of its own, if all are characters. -/
def EncPost (zs : List Int) (w : World) (e : Ending) (w' : World) : Prop :=
  Below w.heap.size w w' ∧ ((zs.all isC = false ∧ e = .returned (.tuple #[.slice none 0 0, .int .i64 10])) ∨
    (zs.all isC = true ∧ ∃ v, e = .returned (.tuple #[v, .int .i64 0]) ∧ w'.ownsRow w.heap.size 5 1 v (encs zs).length ((encs zs).map (Value.int .u8))))

/-- What a slice of integers that came in is: nil; or it leads to a row of cells. -/
def IsRow (k : IntKind) (w : World) (a : Option Addr) (len cap : Nat) (zs : List Int) : Prop :=
  (a = none ∧ len = 0 ∧ cap = 0 ∧ zs = []) ∨
  ∃ x, a = some x ∧ len ≤ cap ∧ cap ≤ maxLen ∧ zs.length = cap ∧ (∀ i, i < zs.length → w.cell? (x.add i) = some (.int k (zs.getD i 0))) ∧ ∀ n ∈ zs, (Lit.int k n).wf = true

/-- A slice of len numbers zs: where there is an element, its cells lie in one block. -/
def Reads (k : IntKind) (w : World) (a : Option Addr) (len : Nat) (zs : List Int) : Prop :=
  zs.length = len ∧ (0 < len → ∃ b off, a = some ⟨b, off, none⟩ ∧ ∀ i, i < len → w.cell? ⟨b, off + i, none⟩ = some (.int k (zs.getD i 0)))

theorem take_snoc {zs : List Int} {k : Nat} (h : k < zs.length) : zs.take (k + 1) = zs.take k ++ [zs[k]?.getD 0] := by
  rw [List.take_succ_eq_append_getElem h, List.getElem?_eq_getElem h]; rfl
theorem all_snoc {zs : List Int} {k : Nat} (h : k < zs.length) : (zs.take (k + 1)).all isC = ((zs.take k).all isC && isC (zs[k]?.getD 0)) := by
  rw [take_snoc h]; simp
theorem all_false {zs : List Int} {k : Nat} (h : k < zs.length) (hc : isC (zs[k]?.getD 0) = false) : zs.all isC = false := by
  rw [List.all_eq_false]
  refine ⟨zs[k], List.getElem_mem h, ?_⟩
  rw [List.getElem?_eq_getElem h] at hc
  simpa using hc

/-- What the call owns stays owned behind a callee that leaves alone what was there. -/
theorem own_below {w w' : World} {base : Nat} {e : TypeId} {size : Nat} {v : Value} {n : Nat} {xs : List Value} (h : w.ownsRow base e size v n xs) (hb : Below w.heap.size w w') : w'.ownsRow base e size v n xs :=
  h.kept (row := none) ⟨hb.os, hb.tape, hb.output, hb.size, fun k hk _ => hb.block k hk⟩ (by cases v.ownBlock <;> simp)

/-- One round: the row has grown by a character's bytes. -/
theorem enc_step {zs : List Int} {k : Nat} (h : k < zs.length) {w1 : World} {B : Nat} {v : Value} (hown : w1.ownsRow B 5 1 v ((encs (zs.take k)).length + (encC (zs[k]?.getD 0)).length) ((encs (zs.take k)).map (Value.int .u8) ++ (encC (zs[k]?.getD 0)).map (Value.int .u8))) :
    w1.ownsRow B 5 1 v (encs (zs.take (k + 1))).length ((encs (zs.take (k + 1))).map (Value.int .u8)) := by
  rw [take_snoc h, encs_snoc, List.length_append, List.map_append]; exact hown

set_option maxHeartbeats 1000000 in
theorem encode_any (a : Option Addr) (len cap : Nat) (zs : List Int) (w : World) (hl : Lay w) (hz : Reads .i32 w a len zs) (hlen : len ≤ 1000) :
    Calls Tryd.prog 8 #[.slice a len cap] w fun e w' => EncPost zs w e w' := by
  obtain ⟨hzl, hzc⟩ := hz
  obtain ⟨i0, hi, hz0, hz1, hz2⟩ := info_parts info5
  obtain ⟨b, off, hab, hcell⟩ : ∃ b off, (0 < len → a = some ⟨b, off, none⟩) ∧ ∀ i, i < len → w.cell? ⟨b, off + i, none⟩ = some (.int .i32 (zs[i]?.getD 0)) := by
    by_cases h0 : 0 < len
    · obtain ⟨b, off, h1, h2⟩ := hzc h0
      exact ⟨b, off, fun _ => h1, fun i hi => by simpa using h2 i hi⟩
    · exact ⟨0, 0, fun h => absurd h h0, fun i hi => absurd hi (by omega)⟩
  have hbB : 0 < len → b < w.heap.size := fun h => by have := block_lt_of_cell (hcell 0 h); simpa using this
  have HL := Lib.hid hl
  have hl4 := encs_len
  have HZ := Lib.hid hzl
  have HCELL := Lib.hid hcell
  have HAB := Lib.hid hab
  have HL4 := Lib.hid hl4
  clear hzc hzl hcell hab hl hl4
  go_enter Tryd.func8, Tryd.ntmps8
  go_wp2_with (at_make; refine wpList_make_own _ rfl _ _ 24 rfl w.heap.size 5 i0 (.int .u8 0) 1 Tryd.underlying24 hi hz0 hz1 .i64 .i64 _ len rfl rfl rfl (by rw [hz2]; omega) (by unfold maxLen; omega) (Nat.le_refl _) ?_; intro w1 hown1 hgrow1)
  have hB1 : Below w.heap.size w w1 := (Below.refl _ _).grown hgrow1 (Nat.le_refl _) (fun k e => by cases e)
  clear hgrow1
  go_loopw [4, 12] (fun v i wr => ∃ k : Nat, k ≤ len ∧ i = .int .i64 k ∧ (zs.take k).all isC = true ∧ wr.ownsRow w.heap.size 5 1 v (encs (zs.take k)).length ((encs (zs.take k)).map (Value.int .u8)) ∧ Below w.heap.size w wr)
    (fun _ i _ => len - (intOf i).toNat)
  case atStart => exact ⟨0, by omega, rfl, rfl, hown1, hB1⟩
  case round =>
    obtain ⟨k, hk, rfl, hall, hown, hB⟩ := hrel
    clear hown1 hB1
    have HALL := Lib.hid hall
    have HOWN := Lib.hid hown
    clear hall
    by_cases hlt : k < len
    · obtain rfl := HAB.out (by omega)
      have hc : wr.cell? ⟨b, off + k, none⟩ = some (.int .i32 (zs[k]?.getD 0)) := (hB.cell (p := ⟨b, off + k, none⟩) (hbB (by omega))).trans (HCELL.out k hlt)
      have hkz : k < zs.length := by rw [HZ.out]; exact hlt
      have HKZ := Lib.hid hkz
      clear hkz
      have hn : (encs (zs.take k)).length ≤ 1000000 := by have := HL4.out (zs.take k); have h2 := List.length_take_le k zs; omega
      have hlay : Lay wr := HL.out.below hB HL.out.size
      have HLAY := Lib.hid hlay
      clear hlay
      by_cases hcc : isC (zs[k]?.getD 0) = true
      · have HCC := Lib.hid hcc
        clear hcc
        go_wp2_with fail
        refine (is_any _ _ HLAY.out).mono ?_
        rintro e w2 ⟨rfl, hb2⟩
        rw [HCC.out]
        have hB2 : Below w.heap.size w w2 := th hB (Nat.le_refl _) hb2
        have HOWN2 := Lib.hid (own_below HOWN.out hb2)
        have HLAY2 := Lib.hid (HL.out.below hB2 HL.out.size)
        have HB2 := Lib.hid hB2
        clear hB hb2 hown hB2 hc
        go_wp2_with fail
        refine (put_any _ _ _ _ w.heap.size _ HLAY2.out HB2.out.size HOWN2.out hn HCC.out).mono ?_
        rintro e w3 ⟨v3, rfl, hown3, hb3⟩
        have HOWN3 := Lib.hid (enc_step HKZ.out hown3)
        clear hown3
        go_wp2
        go_roundw
        case rel => exact ⟨k + 1, by omega, by go_num, by rw [all_snoc HKZ.out, HALL.out, HCC.out]; rfl, HOWN3.out, HB2.out.trans hb3⟩
        case measure => simp [intOf]; omega
      · have hcf : isC (zs[k]?.getD 0) = false := by simpa using hcc
        have HCF := Lib.hid hcf
        clear hcf hcc
        go_wp2_with fail
        refine (is_any _ _ HLAY.out).mono ?_
        rintro e w2 ⟨rfl, hb2⟩
        rw [HCF.out]
        have HB2 := Lib.hid (th hB (Nat.le_refl _) hb2)
        clear hB hb2 hown hc
        go_wp2
        go_ret2
        exact ⟨HB2.out, .inl ⟨all_false HKZ.out HCF.out, rfl⟩⟩
    · obtain rfl : k = len := by omega
      have ht : zs.take k = zs := List.take_of_length_le (by rw [HZ.out]; omega)
      rw [ht] at hown
      have HT := Lib.hid ht
      clear ht
      go_wp2
      go_ret2
      exact ⟨hB, .inr ⟨by have := HALL.out; rwa [HT.out] at this, _, rfl, hown⟩⟩
end Go.Proofs.YtomlmpcjbdkobaaDoor.U
