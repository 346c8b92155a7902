/- Contracts and plain facts that the law stands on: Q14, Bld, Q8. -/
import Derived.Test.YtjldpkhfiffinaaGreatDoorZA09
import Derived.Test.YtjldpkhfiffinaaGreatDoorZA05
import Derived.Lib.SliceRun
import Derived.WalkKit
import Derived.BigCall
import Derived.BigGuard
import Derived.Test.YtjldpkhfiffinaaGreatDoorZA01
import Derived.Test.YtjldpkhfiffinaaGreatDoorZA04
import Derived.WalkMore
namespace Go.Proofs.YtjldpkhfiffinaaGreatDoor.U
open Go.RowKit Go.Shelf
/-- Bytes that may be written, in a block. -/
def BufAt (g : Nat) (l : List UInt8) (w : World) : Prop := g < w.heap.size ∧ ∀ j (h : j < l.length), w.cell? ⟨g, j, none⟩ = some (.int .u8 (l[j].toNat : Int)) ∧ w.frozen? ⟨g, j, none⟩ = false
theorem BufAt.set {g k : Nat} {l l' : List UInt8} {w : World} (h : BufAt g l w) (x : UInt8) (he : l' = l.set k x) : BufAt g l' (w.setCell ⟨g, k, none⟩ (.int .u8 (x.toNat : Int))) := by
  subst he
  refine ⟨by simpa using h.1, fun j hj => ?_⟩
  have hj' : j < l.length := by simpa using hj
  obtain ⟨h1, h2⟩ := h.2 j hj'
  refine ⟨?_, by simpa using h2⟩
  by_cases e : k = j
  · subst e
    rw [World.cell?_setCell_same _ _ _ h1]
    simp
  · rw [World.cell?_setCell_other _ _ _ _ (fun e2 => e (by injection e2)), h1, List.getElem_set_ne e]
theorem BufAt.new (w : World) (s : ByteArray) : BufAt w.heap.size (bts s) (Lib.bytesWorld w 5 s) := by
  refine ⟨by rw [Lib.bytesWorld_size]; omega, fun j hj => ⟨?_, ?_⟩⟩
  · have hj2 : j < s.size := by rwa [bts_len] at hj
    rw [Lib.bytesWorld_cell w 5 s j hj2, List.getD_eq_getElem?_getD]
    show some (Value.int .u8 (((bts s)[j]?.getD 0).toNat : Int)) = _
    rw [List.getElem?_eq_getElem hj]
    rfl
  · have h := Lib.bytesWorld_at_new w 5 s
    have hn : s.size ≤ (Lib.bytesCells w 5 s).size := by
      simp [Lib.bytesCells]
    rw [bts_len] at hj
    simp [World.frozen?, h]
    omega
theorem tab_map (b : UInt8) : tabF b.toNat = (mapB b).toNat := by
  unfold tabF mapB
  by_cases h : b = 9 ∨ b = 10
  · rw [if_pos h, if_pos (by rcases h with rfl | rfl <;> simp)]; rfl
  · rw [if_neg h, if_neg (fun e => h (by
      rcases e with e | e
      · exact .inl (UInt8.toNat.inj e)
      · exact .inr (UInt8.toNat.inj e)))]
theorem map_set (l : List UInt8) (k : Nat) (h : k < l.length) : (l.take (k + 1)).map mapB ++ l.drop (k + 1) = ((l.take k).map mapB ++ l.drop k).set k (mapB (l[k]'h)) := by
  rw [List.set_append_right _ _ (by simp; omega)]
  rw [List.take_succ_eq_append_getElem h, List.map_append]
  simp [Nat.min_eq_left (Nat.le_of_lt h)]
  rw [List.drop_eq_getElem_cons h]
  rfl
set_option maxHeartbeats 2000000 in
set_option maxRecDepth 10000 in
theorem breplace_any (t : Nat) (s : ByteArray) (w : World) (h : TabAt t tabF 256 w) (hs : s.size ≤ 1000000) :
    Calls Tryz.prog 282 #[.pointer (some ⟨t, 0, none⟩), .string s] w fun e w' => e = .returned (.string ⟨((bts s).map mapB).toArray⟩) ∧ Below w.heap.size w w' := by
  have hl := bts_len s
  have HT := Lib.hid h
  have hq0 := fun (W : World) (a : Option Addr) (n c : Nat) => Lib.run_eql_slice_nil (P := Tryz.prog) W 22 5 a n c 0 0 Tryz.underlying22
  clear h
  go_enter Tryz.func282, Tryz.ntmps282
  go_wp2_with fail
  go_loopw [5, 6] (fun v i wr => ∃ k : Nat, k ≤ s.size ∧ i = .int .i64 k ∧ Hid (Below w.heap.size w wr) ∧ ((v = .slice none 0 0 ∧ Hid (((bts s).take k).map mapB = (bts s).take k)) ∨ (∃ g cap, v = .slice (some ⟨g, 0, none⟩) s.size cap ∧ w.heap.size ≤ g ∧ Hid (BufAt g (((bts s).take k).map mapB ++ (bts s).drop k) wr)))) (fun _ i _ => s.size - (intOf i).toNat)
  case atStart => exact ⟨0, by omega, rfl, Lib.hid (Below.refl _ _), .inl ⟨rfl, Lib.hid rfl⟩⟩
  case round =>
    obtain ⟨k, hk, rfl, HB, hst⟩ := hrel
    by_cases hlt : k < s.size
    · have hlt2 : k < (bts s).length := by rw [hl]; exact hlt
      have hTk := (HT.out.below (HB.out.mono (Nat.le_refl _))).cell (k := (s[k]'hlt).toNat) (by have := (s[k]'hlt).toNat_lt; omega)
      obtain ⟨_, _, hc⟩ := hTk
      have hc := hc (by have := (s[k]'hlt).toNat_lt; omega)
      rw [tab_map] at hc
      have hx : (bts s)[k]'hlt2 = s[k]'hlt := bts_get s k hlt
      have hi0 : (0 : Int) ≤ ((s[k]'hlt).toNat : Int) := by omega
      have hi1 : ((s[k]'hlt).toNat : Int) < 256 := by have := (s[k]'hlt).toNat_lt; omega
      by_cases hm : mapB (s[k]'hlt) = s[k]'hlt
      · have hb : (((mapB (s[k]'hlt)).toNat : Int) != ((s[k]'hlt).toNat : Int)) = false := by rw [hm]; simp
        rcases hst with ⟨rfl, HS⟩ | ⟨g, cap, rfl, hg, HS⟩
        · have HN : Hid (((bts s).take (k + 1)).map mapB = (bts s).take (k + 1)) := Lib.hid (by rw [List.take_succ_eq_append_getElem hlt2, List.map_append, HS.out]; simp [hx, hm])
          clear hx hm
          go_wp2
          exact ⟨⟨k + 1, by omega, by go_num, HB, .inl ⟨rfl, HN⟩⟩, by simp [intOf]; omega⟩
        · have HN : Hid (BufAt g (((bts s).take (k + 1)).map mapB ++ (bts s).drop (k + 1)) wr) := Lib.hid (by
            rw [map_set _ _ hlt2, hx, hm, ← hx]
            have : (((bts s).take k).map mapB ++ (bts s).drop k).set k ((bts s)[k]'hlt2) = ((bts s).take k).map mapB ++ (bts s).drop k := by
              rw [List.set_append_right _ _ (by simp; omega)]
              simp [Nat.min_eq_left (Nat.le_of_lt hlt2)]
              rw [List.drop_eq_getElem_cons hlt2]
              rfl
            rw [this]
            exact HS.out)
          clear hx hm
          go_wp2
          exact ⟨⟨k + 1, by omega, by go_num, HB, .inr ⟨g, cap, rfl, hg, HN⟩⟩, by simp [intOf]; omega⟩
      · have hb : (((mapB (s[k]'hlt)).toNat : Int) != ((s[k]'hlt).toNat : Int)) = true := by
          rw [bne_iff_ne]
          exact fun e => hm (UInt8.toNat.inj (by omega))
        rcases hst with ⟨rfl, HS⟩ | ⟨g, cap, rfl, hg, HS⟩
        · have hcv := conv_any wr s
          have HB2 := Lib.hid (th HB.out (Nat.le_refl _) (bytes_below wr s))
          have HBF : Hid (BufAt wr.heap.size (((bts s).take k).map mapB ++ (bts s).drop k) (Lib.bytesWorld wr 5 s)) := Lib.hid (by rw [HS.out, List.take_append_drop]; exact BufAt.new wr s)
          have HG : Hid (w.heap.size ≤ wr.heap.size) := Lib.hid HB.out.size
          have hc2 := (Lib.bytesWorld_old wr 5 s ⟨t, (s[k]'hlt).toNat, none⟩ (block_lt_of_cell hc)).trans hc
          generalize hcap : grownCap wr s.size 0 5 = cap at hcv
          obtain ⟨g, hg⟩ : ∃ g, g = wr.heap.size := ⟨_, rfl⟩
          rw [← hg] at hcv HBF HG
          generalize Lib.bytesWorld wr 5 s = w3 at hcv HB2 HBF hc2
          obtain ⟨b0, b1⟩ := HBF.out.2 k (by simp; omega)
          have HN : Hid (BufAt g (((bts s).take (k + 1)).map mapB ++ (bts s).drop (k + 1)) (w3.setCell ⟨g, k, none⟩ (.int .u8 ((mapB (s[k]'hlt)).toNat : Int)))) := Lib.hid (HBF.out.set (mapB (s[k]'hlt)) (by rw [map_set _ _ hlt2, hx]))
          clear hx hm hcap hg
          go_wp2
          exact ⟨⟨k + 1, by omega, by go_num, Lib.hid (HB2.out.setCell (p := ⟨g, k, none⟩) HG.out _), .inr ⟨g, cap, rfl, HG.out, HN⟩⟩, by simp [intOf]; omega⟩
        · obtain ⟨b0, b1⟩ := HS.out.2 k (by simp; omega)
          have HN : Hid (BufAt g (((bts s).take (k + 1)).map mapB ++ (bts s).drop (k + 1)) (wr.setCell ⟨g, k, none⟩ (.int .u8 ((mapB (s[k]'hlt)).toNat : Int)))) := Lib.hid (HS.out.set (mapB (s[k]'hlt)) (by rw [map_set _ _ hlt2, hx]))
          clear hx hm
          go_wp2
          exact ⟨⟨k + 1, by omega, by go_num, Lib.hid (HB.out.setCell (p := ⟨g, k, none⟩) hg _), .inr ⟨g, cap, rfl, hg, HN⟩⟩, by simp [intOf]; omega⟩
    · obtain rfl : k = s.size := by omega
      rcases hst with ⟨rfl, HS⟩ | ⟨g, cap, rfl, hg, HS⟩
      · have HE : Hid ((⟨((bts s).map mapB).toArray⟩ : ByteArray) = s) := Lib.hid (by
          have := HS.out
          rw [List.take_of_length_le (by omega)] at this
          rw [this, mk_bts])
        go_wp2
        go_ret
        exact ⟨by rw [HE.out]; rfl, HB.out⟩
      · have hsz : ((bts s).map mapB).length = s.size := by rw [List.length_map, hl]
        have hcv : ∀ c, (convert 22 9 (.slice (some ⟨g, 0, none⟩) s.size c)).run Tryz.prog wr = .ok (.string ⟨((bts s).map mapB).toArray⟩) wr := fun c => by
          have := run_convert_bytes_back (P := Tryz.prog) wr 22 9 5 ⟨g, 0, none⟩ c ((bts s).map mapB) Tryz.underlying22 Tryz.underlying5 Tryz.underlying9 (fun j hj => by
            have h2 := HS.out.2 j (by simp; rw [hsz] at hj; omega)
            have e : ((bts s).take s.size).map mapB ++ (bts s).drop s.size = (bts s).map mapB := by rw [List.take_of_length_le (by omega), List.drop_of_length_le (by omega), List.append_nil]
            have h3 := h2.1
            simp only [e] at h3
            rw [show (⟨g, 0, none⟩ : Addr).add j = ⟨g, j, none⟩ by unfold Addr.add; split <;> simp_all]
            exact h3)
          rwa [hsz] at this
        clear hsz
        go_wp2
        go_ret
        exact ⟨rfl, HB.out⟩
end Go.Proofs.YtjldpkhfiffinaaGreatDoor.U
namespace Go.Proofs.YtjldpkhfiffinaaGreatDoor.U
open Go.RowKit Go.Shelf
theorem infoStr : (Tryz.prog.info? 9).map (fun i => (i.zero, i.size, i.bytes)) = some (some (.string ⟨#[]⟩), 1, 16) := by kernel_rfl
theorem four_of_own {w : World} {base : Nat} {v : Value} (h : w.ownsRow base 9 1 v 4 [.string ⟨#[9]⟩, .string ⟨#[32]⟩, .string ⟨#[10]⟩, .string ⟨#[32]⟩]) : ∃ a cap, v = .slice (some ⟨a, 0, none⟩) 4 cap ∧ base ≤ a ∧ a < w.heap.size ∧ FourS a w := by
  rcases h.2 with ⟨rfl, h0⟩ | ⟨g, cap, cur, rfl, hg, hh, _⟩
  · omega
  · refine ⟨g, cap, rfl, hg, (Array.getElem?_eq_some_iff.1 hh).1, ?_, ?_, ?_, ?_⟩
    · exact h.cells rfl 0 _ rfl
    · exact h.cells rfl 1 _ rfl
    · exact h.cells rfl 2 _ rfl
    · exact h.cells rfl 3 _ rfl
/-- A new Replacer. -/
def Fresh (g : Nat) (w : World) : Prop := ∃ a cap, BoxR g 0 0 .nilIface (.slice (some ⟨a, 0, none⟩) 4 cap) w ∧ FourS a w ∧ a ≠ g
set_option maxHeartbeats 1000000 in
set_option maxRecDepth 10000 in
theorem newReplacer_any (a cap : Nat) (w : World) (hf : FourS a w) :
    Calls Tryz.prog 156 #[.slice (some ⟨a, 0, none⟩) 4 cap] w fun e w' => ∃ g, e = .returned (.pointer (some ⟨g, 0, none⟩)) ∧ w.heap.size ≤ g ∧ Fresh g w' ∧ Below w.heap.size w w' := by
  have HI := Lib.hid infoStr
  obtain ⟨i0, hi, hz0, hz1, hz2⟩ := info_parts HI.out
  have HN : ∀ j u, [Value.string ⟨#[9]⟩, .string ⟨#[32]⟩, .string ⟨#[10]⟩, .string ⟨#[32]⟩][j]? = some u → w.cell? ((⟨a, 0, none⟩ : Addr).add j) = some u := by
    intro j u hj
    match j, hj with
    | 0, hj => simp at hj; subst hj; exact hf.1
    | 1, hj => simp at hj; subst hj; exact hf.2.1
    | 2, hj => simp at hj; subst hj; exact hf.2.2.1
    | 3, hj => simp at hj; subst hj; exact hf.2.2.2
  have HN := Lib.hid HN
  clear hf
  go_enter Tryz.func156, Tryz.ntmps156
  go_wp2_with (at_builtin; go_loud (refine wpList_append_own _ rfl _ _ 76 rfl w.heap.size 9 i0 (.string ⟨#[]⟩) 1 16 Tryz.underlying76 hi hz0 hz1 hz2 rfl (by decide) _ _ _ rfl (World.ownsRow_nil w w.heap.size 9 1) ⟨a, 0, none⟩ 4 cap [.string ⟨#[9]⟩, .string ⟨#[32]⟩, .string ⟨#[10]⟩, .string ⟨#[32]⟩] rfl rfl HN.out (by simp [Value.oneCell']) (by decide) (by omega) (Nat.le_refl _) ?_); intro v1 w1 hown1 hgrow1 _; obtain ⟨a', cap', rfl, ha, hal, hf4⟩ := four_of_own hown1; have HF4 := Lib.hid hf4; clear hf4)
  go_ret
  have hB1 := Below.grown (Below.refl w.heap.size w) hgrow1 (Nat.le_refl _) (fun k e => by cases e)
  have hup : ∀ {p : Addr} {u : Value} (o : Obj), w1.cell? p = some u → (w1.alloc o).cell? p = some u := fun o h => (((Below.refl _ w1).alloc (Nat.le_refl _) o).cell (block_lt_of_cell h)).trans h
  refine ⟨w1.heap.size, rfl, hB1.size, ⟨a', cap', heap_alloc_last w1 _, ⟨hup _ HF4.out.1, hup _ HF4.out.2.1, hup _ HF4.out.2.2.1, hup _ HF4.out.2.2.2⟩, Nat.ne_of_lt hal⟩, al hB1 (Nat.le_refl _) _⟩
theorem meth_replace (n t : Nat) (w : World) : (method (n + 1) 263 (.pointer (some ⟨t, 0, none⟩)) "Replace").run Tryz.prog w = .ok (282, .pointer (some ⟨t, 0, none⟩)) w := by kernel_rfl
set_option maxHeartbeats 1000000 in
set_option maxRecDepth 10000 in
theorem replace_any (g : Nat) (s : ByteArray) (w : World) (h : Fresh g w) (hs : s.size ≤ 1000000) :
    Calls Tryz.prog 157 #[.pointer (some ⟨g, 0, none⟩), .string s] w fun e w' => e = .returned (.string ⟨((bts s).map mapB).toArray⟩) ∧ w.grownBy w' (some g) := by
  obtain ⟨a, cap, hb, hf, ha⟩ := h
  have HO := Lib.hid (once_any g a cap w hb hf ha)
  have HL := Lib.hid hb.lt
  have hmf : ∀ (fn : Fn) (first cap : Array Value) (w : World), (Instr.makeFunc fn first cap).run Tryz.prog w = .ok (.func fn first cap) w := fun _ _ _ _ => rfl
  clear hb hf
  go_enter Tryz.func157, Tryz.ntmps157
  go_wp2_with fail
  refine HO.out.mono ?_
  rintro e w2 ⟨rfl, t, hbx, hT, ht, hg⟩
  have HG := Lib.hid hg
  have HR := Lib.hid (breplace_any t s w2 hT hs)
  obtain ⟨⟨e0, e1, e3, e4⟩, z0, z1, z3, z4⟩ := hbx.at
  have hmt := meth_replace
  clear hbx hT hg
  go_wp2_with fail
  refine HR.out.mono ?_
  rintro e w3 ⟨rfl, hb3⟩
  go_wp2
  go_ret
  exact ⟨rfl, grow_trans HG.out (grow_below hb3 _)⟩
end Go.Proofs.YtjldpkhfiffinaaGreatDoor.U

namespace Go.Proofs.YtjldpkhfiffinaaGreatDoor.U
open Go.RowKit Go.Shelf
theorem bldSize : (Tryz.prog.info? 99).map (·.size) = some 2 := by kernel_rfl
theorem bldX : Builder.X72 Tryz.prog S.lays169_ren := S.Builder_Extra_169.toX72
set_option maxHeartbeats 2000000 in
set_option maxRecDepth 100000 in
theorem copyCheck_fresh (b : Nat) (w : World) (h0 : w.cell? ⟨b, 0, none⟩ = some (.pointer none)) (hsh : w.shape? b = some (99, 2)) (hfz : w.frozen? ⟨b, 0, none⟩ = false) :
    Calls Tryz.prog 97 #[.pointer (some ⟨b, 0, none⟩)] w fun e w' => e = .returned (.tuple #[]) ∧ w' = w.setCell ⟨b, 0, none⟩ (.pointer (some ⟨b, 0, none⟩)) := by
  obtain ⟨j, hj, hjs⟩ := Option.map_eq_some_iff.1 bldSize
  go_enter Tryz.func97, Tryz.ntmps97
  go_wp2
  rw [Lib.run_to_unsafe w ⟨b, 0, none⟩ Tryz.underlying97 Tryz.underlying167 hj (by rw [hjs]; decide) hsh (Nat.zero_lt_succ 1)]
  simp only [Result.andThen]
  rw [Oper.upon_value]
  go_wp2
  rw [run_callFunc_extern Tryz.func122 (by kernel_rfl) (by kernel_rfl) (by kernel_rfl) (e := Extern.AbiNoEscape.same) (by kernel_rfl)]
  rw [Lib.run_noEscape]
  simp only [Result.andThen]
  rw [Oper.upon_value]
  go_wp2
  rw [Lib.run_from_unsafe w ⟨b, 0, none⟩ Tryz.underlying167 Tryz.underlying97 hj hsh bldX.liesBuilder]
  simp only [Result.andThen]
  rw [Oper.upon_value]
  go_wp2
  go_end0
  exact ⟨rfl, rfl⟩
set_option maxHeartbeats 2000000 in
set_option maxRecDepth 100000 in
theorem copyCheck_used (b : Nat) (w : World) (h0 : w.cell? ⟨b, 0, none⟩ = some (.pointer (some ⟨b, 0, none⟩))) :
    Calls Tryz.prog 97 #[.pointer (some ⟨b, 0, none⟩)] w fun e w' => e = .returned (.tuple #[]) ∧ w' = w := by
  obtain ⟨j, hj, _⟩ := Option.map_eq_some_iff.1 bldSize
  go_enter Tryz.func97, Tryz.ntmps97
  go_wp2
  rw [Lib.run_neq_ptr_same w _ Tryz.underlying97 hj]
  go_wp2
  go_end0
  exact ⟨rfl, rfl⟩
/-- What a writing method leaves of the world: the builder with its bytes; what lay below base; every other block that is no row of bytes. -/
def BldPost (base b : Nat) (bs : List Value) (w w' : World) : Prop := Lib.BuilderAtF 99 5 base b (.pointer (some ⟨b, 0, none⟩)) bs w' ∧ Below base w w' ∧ Lib.OthersKept 5 (some b) w w'
theorem copyCheck_any (base b : Nat) (bs : List Value) (w : World) (h : Lib.IsBuilderF 99 5 base b bs w) :
    Calls Tryz.prog 97 #[.pointer (some ⟨b, 0, none⟩)] w fun e w' => e = .returned (.tuple #[]) ∧ BldPost base b bs w w' := by
  rcases h with h | h
  · refine (copyCheck_fresh b w h.cell0 h.shape h.frozen0).mono ?_
    rintro e w' ⟨rfl, rfl⟩
    exact ⟨rfl, h.used _, (Below.refl base w).setCell (p := ⟨b, 0, none⟩) h.1 _, (Lib.OthersKept.refl _ _ w).setCell ⟨b, 0, none⟩ rfl _⟩
  · refine (copyCheck_used b w h.cell0).mono ?_
    rintro e w' ⟨rfl, rfl⟩
    exact ⟨rfl, h, Below.refl base _, Lib.OthersKept.refl _ _ _⟩
theorem block_lt {w : World} {b : Nat} {o : Obj} (h : w.heap[b]? = some o) : b < w.heap.size := (Array.getElem?_eq_some_iff.1 h).1
set_option maxHeartbeats 4000000 in
set_option maxRecDepth 100000 in
theorem writeString_any (base b : Nat) (bs : List Value) (s : ByteArray) (w : World) (h : Lib.IsBuilderF 99 5 base b bs w) (hlen : bs.length + s.size ≤ 140737488355328) (hBw : base ≤ w.heap.size) :
    Calls Tryz.prog 49 #[.pointer (some ⟨b, 0, none⟩), .string s] w fun e w' => e = .returned (.tuple #[.int .i64 s.size, .nilIface]) ∧ BldPost base b (bs ++ Lib.strCells s) w w' := by
  obtain ⟨i0, hi, hz0, hz1, hz2⟩ := info_parts S.Builder_Extra_169.infoByte
  go_enter Tryz.func49, Tryz.ntmps49
  go_wp2_with fail
  refine (copyCheck_any base b bs _ h).mono ?_
  rintro e w1 ⟨rfl, h1, hb1, hk1⟩
  obtain ⟨hB, v, hbk, hown, hne⟩ := h1
  have hlt := block_lt hbk
  have hsz := hb1.size
  have c0 : w1.cell? ⟨b, 0, none⟩ = some (.pointer (some ⟨b, 0, none⟩)) := by rw [Lib.cell_of_heap hbk]; rfl
  have c1 : w1.cell? ⟨b, 1, none⟩ = some v := by rw [Lib.cell_of_heap hbk]; rfl
  go_wp2_with (at_builtin; refine Lib.wpList_append_own_stringF _ rfl _ _ 22 9 rfl base 5 i0 Tryz.underlying22 Tryz.underlying9 hi hz0 hz1 hz2 _ _ _ rfl hown s rfl ?c3 ?c4 ?c5 ?_)
  case c3 => unfold maxLen; omega
  case c4 => omega
  case c5 => omega
  intro v' w2 hown' hgrow _
  have hb2 : w2.heap[b]? = some (.cells #[.pointer (some ⟨b, 0, none⟩), v] 99 (0, 0)) := by
    rw [hgrow.block b hlt (fun e => hne e.symm)]
    exact hbk
  have d0 : w2.cell? ⟨b, 0, none⟩ = some (.pointer (some ⟨b, 0, none⟩)) := by rw [Lib.cell_of_heap hb2]; rfl
  have d1 : w2.cell? ⟨b, 1, none⟩ = some v := by rw [Lib.cell_of_heap hb2]; rfl
  have f1 : w2.frozen? ⟨b, 1, none⟩ = false := Lib.frozen_of_heap hb2 1
  obtain ⟨ao, n', cap, rfl⟩ : ∃ ao n' cap, v' = .slice ao n' cap := by
    rcases hown'.2 with ⟨hv, _⟩ | ⟨g, cap, cur, fz, hv, _⟩ <;> exact ⟨_, _, _, hv⟩
  go_wp2
  go_ret2
  refine ⟨rfl, ?_, ?_, (hk1.grown hgrow (Lib.ownsRowF_kind hown)).setCell ⟨b, 1, none⟩ rfl _⟩
  · exact Lib.BuilderAtF.put (T := 99) (e := 5) hB hb2 (bs' := bs ++ Lib.strCells s) (by simpa [Lib.strCells_length] using hown') (by decide)
  · exact (hb1.grown hgrow (by omega) (fun k hk => (hown.lt k hk).1)).setCell (p := ⟨b, 1, none⟩) hB _
set_option maxHeartbeats 4000000 in
set_option maxRecDepth 100000 in
theorem writeRune_any (base b : Nat) (bs : List Value) (r : Int) (hr0 : -2147483648 ≤ r) (hr1 : r ≤ 2147483647) (w : World) (h : Lib.IsBuilderF 99 5 base b bs w) (hlen : bs.length + 4 ≤ 140737488355328) (hBw : base ≤ w.heap.size) :
    Calls Tryz.prog 50 #[.pointer (some ⟨b, 0, none⟩), .int .i32 r] w fun e w' => e = .returned (.tuple #[.int .i64 (Lib.runeCells r).length, .nilIface]) ∧ BldPost base b (bs ++ Lib.runeCells r) w w' := by
  have hk4 := Lib.runeCells_le r
  go_enter Tryz.func50, Tryz.ntmps50
  go_wp2_with fail
  refine (copyCheck_any base b bs _ h).mono ?_
  rintro e w1 ⟨rfl, h1, hb1, hk1⟩
  obtain ⟨hB, v, hbk, hown, hne⟩ := h1
  have hlt := block_lt hbk
  have hsz := hb1.size
  obtain ⟨ao, cap, rfl⟩ : ∃ ao cap, v = .slice ao bs.length cap := by
    rcases hown.2 with ⟨hv, h0⟩ | ⟨g, cap, cur, fz, hv, _⟩
    · exact ⟨none, 0, by rw [hv, h0]⟩
    · exact ⟨_, _, hv⟩
  have c0 : w1.cell? ⟨b, 0, none⟩ = some (.pointer (some ⟨b, 0, none⟩)) := by rw [Lib.cell_of_heap hbk]; rfl
  have c1 : w1.cell? ⟨b, 1, none⟩ = some (.slice ao bs.length cap) := by rw [Lib.cell_of_heap hbk]; rfl
  go_wp2_with fail
  refine (Any.utf8_AppendRune_own S.lays242 S.Builder_Extra_242 base _ bs.length bs r hr0 hr1 _ hown hlen (by omega)).mono ?_
  rintro e w2 ⟨v', rfl, hown', o, hgrow⟩
  have hb2 : w2.heap[b]? = some (.cells #[.pointer (some ⟨b, 0, none⟩), .slice ao bs.length cap] 99 (0, 0)) := by
    rw [hgrow.block b (by simp; omega) (fun e => hne e.symm), Lib.alloc_old w1 _ b hlt]
    exact hbk
  have d0 : w2.cell? ⟨b, 0, none⟩ = some (.pointer (some ⟨b, 0, none⟩)) := by rw [Lib.cell_of_heap hb2]; rfl
  have d1 : w2.cell? ⟨b, 1, none⟩ = some (.slice ao bs.length cap) := by rw [Lib.cell_of_heap hb2]; rfl
  have f1 : w2.frozen? ⟨b, 1, none⟩ = false := Lib.frozen_of_heap hb2 1
  obtain ⟨g, cap', rfl⟩ : ∃ g cap', v' = .slice (some ⟨g, 0, none⟩) (bs.length + (Lib.runeCells r).length) cap' := by
    rcases hown'.2 with ⟨_, h0⟩ | ⟨g, cap', cur, fz, hv, _⟩
    · omega
    · exact ⟨g, cap', hv⟩
  go_wp2
  go_ret2
  refine ⟨?_, ?_, ?_, ((hk1.alloc _).grown hgrow (Lib.ownsRowF_kind (hown.alloc _))).setCell ⟨b, 1, none⟩ rfl _⟩
  · have e : ((bs.length : Int) + ((Lib.runeCells r).length : Int) - (bs.length : Int)) = ((Lib.runeCells r).length : Int) := by omega
    simp [e]
  · exact Lib.BuilderAtF.put (T := 99) (e := 5) hB hb2 (bs' := bs ++ Lib.runeCells r) (by rw [List.length_append]; exact hown') (by decide)
  · exact ((hb1.alloc (by omega) _).grown hgrow (by simp; omega) (fun k hk => (hown.lt k hk).1)).setCell (p := ⟨b, 1, none⟩) hB _
/-- A builder stays one behind a call that leaves alone what was there. -/
theorem bldAt_below {base b : Nat} {p : Value} {bs : List Value} {w w' : World} (h : Lib.BuilderAtF 99 5 base b p bs w) (hb : Below w.heap.size w w') : Lib.BuilderAtF 99 5 base b p bs w' := by
  obtain ⟨hB, v, hbk, hown, hne⟩ := h
  exact ⟨hB, v, (hb.block b (block_lt hbk)).trans hbk, hown.kept (row := none) ⟨hb.os, hb.tape, hb.output, hb.size, fun k hk _ => hb.block k hk⟩ (by cases v.ownBlock <;> simp), hne⟩
theorem bld_below {base b : Nat} {bs : List Value} {w w' : World} (h : Lib.IsBuilderF 99 5 base b bs w) (hb : Below w.heap.size w w') : Lib.IsBuilderF 99 5 base b bs w' :=
  h.elim (fun x => .inl (bldAt_below x hb)) (fun x => .inr (bldAt_below x hb))
end Go.Proofs.YtjldpkhfiffinaaGreatDoor.U

namespace Go.Proofs.YtjldpkhfiffinaaGreatDoor.U
open Go.RowKit Go.Shelf
set_option maxHeartbeats 1000000 in
theorem escaped_any (v : Bool) (r : Int) (w : World) : Calls Tryz.prog 48 #[.int .i32 r, .bool v] w fun e w' => e = .returned (.string ⟨(escT v r).toArray⟩) ∧ Below w.heap.size w w' := by
  cases v
  · rcases (show r = 38 ∨ r = 60 ∨ r = 62 ∨ r = 13 ∨ (r ≠ 38 ∧ r ≠ 60 ∧ r ≠ 62 ∧ r ≠ 13) by omega) with h | h | h | h | ⟨h1, h2, h3, h4⟩
    · subst h
      go_enter Tryz.func48, Tryz.ntmps48
      go_wp2
      go_ret
      exact ⟨rfl, Below.refl _ _⟩
    · subst h
      go_enter Tryz.func48, Tryz.ntmps48
      go_wp2
      go_ret
      exact ⟨rfl, Below.refl _ _⟩
    · subst h
      go_enter Tryz.func48, Tryz.ntmps48
      go_wp2
      go_ret
      exact ⟨rfl, Below.refl _ _⟩
    · subst h
      go_enter Tryz.func48, Tryz.ntmps48
      go_wp2
      go_ret
      exact ⟨rfl, Below.refl _ _⟩
    have HV : Hid (escT false r = []) := Lib.hid (by unfold escT; simp [h1, h2, h3, h4])
    go_enter Tryz.func48, Tryz.ntmps48
    go_wp2
    go_ret
    exact ⟨by rw [HV.out]; rfl, Below.refl _ _⟩
  · rcases (show r = 38 ∨ r = 60 ∨ r = 62 ∨ r = 13 ∨ r = 34 ∨ r = 9 ∨ r = 10 ∨ (r ≠ 38 ∧ r ≠ 60 ∧ r ≠ 62 ∧ r ≠ 13 ∧ r ≠ 34 ∧ r ≠ 9 ∧ r ≠ 10) by omega) with h | h | h | h | h | h | h | ⟨h1, h2, h3, h4, h5, h6, h7⟩
    · subst h
      go_enter Tryz.func48, Tryz.ntmps48
      go_wp2
      go_ret
      exact ⟨rfl, Below.refl _ _⟩
    · subst h
      go_enter Tryz.func48, Tryz.ntmps48
      go_wp2
      go_ret
      exact ⟨rfl, Below.refl _ _⟩
    · subst h
      go_enter Tryz.func48, Tryz.ntmps48
      go_wp2
      go_ret
      exact ⟨rfl, Below.refl _ _⟩
    · subst h
      go_enter Tryz.func48, Tryz.ntmps48
      go_wp2
      go_ret
      exact ⟨rfl, Below.refl _ _⟩
    · subst h
      go_enter Tryz.func48, Tryz.ntmps48
      go_wp2
      go_ret
      exact ⟨rfl, Below.refl _ _⟩
    · subst h
      go_enter Tryz.func48, Tryz.ntmps48
      go_wp2
      go_ret
      exact ⟨rfl, Below.refl _ _⟩
    · subst h
      go_enter Tryz.func48, Tryz.ntmps48
      go_wp2
      go_ret
      exact ⟨rfl, Below.refl _ _⟩
    have HV : Hid (escT true r = []) := Lib.hid (by unfold escT; simp [h1, h2, h3, h4, h5, h6, h7])
    go_enter Tryz.func48, Tryz.ntmps48
    go_wp2
    go_ret
    exact ⟨by rw [HV.out]; rfl, Below.refl _ _⟩
/-- What Escape answers. -/
def escP (v : Bool) (l : List UInt8) : List UInt8 × Int := if wholeB l = true then (escL v l, 0) else ([], 10)
theorem bytes_str (l : List UInt8) : Lib.strCells ⟨l.toArray⟩ = Lib.byteCells l := by simp [Lib.strCells, Lib.byteCells]
set_option maxHeartbeats 4000000 in
theorem escape_any (v : Bool) (s : ByteArray) (w : World) (hl : Lay w) (hs : s.size ≤ 1000000) :
    Calls Tryz.prog 27 #[.string s, .bool v] w fun e w' => e = .returned (.tuple #[.string ⟨(escP v (bts s)).1.toArray⟩, .int .i64 (escP v (bts s)).2]) ∧ Below w.heap.size w w' := by
  by_cases hw : wholeB (bts s) = true
  · have he : chkE (ints (bts s)) = 0 := by
      have := (wholeB_iff _).1 hw
      unfold Whole at this
      unfold chkE
      rw [if_neg (by rw [this, ints_len]; omega)]
    have hp : escP v (bts s) = (escL v (bts s), 0) := by unfold escP; rw [if_pos hw]
    rw [hp]
    have hrun := ((wholeB_iff _).1 hw).runes
    have hall := runes_all (ints (bts s))
    have hesc : escL v (bts s) = (runesC (ints (bts s))).flatMap (escR v) := by
      conv => lhs; rw [encodes_of hall hrun]
      exact esc_runes v hall
    rw [hesc]
    have hlen : (runesC (ints (bts s))).length ≤ s.size := by
      have := runes_len' (ints (bts s))
      rw [ints_len, bts_len] at this
      exact this
    generalize hrs : runesC (ints (bts s)) = rs at hrun hall hlen
    clear hrs hesc hp hw
    have HRUN := Lib.hid hrun
    have HALL := Lib.hid hall
    have HLEN := Lib.hid hlen
    have HL := Lib.hid hl
    have HS := Lib.hid hs
    clear hrun hall hlen hl hs
    go_enter Tryz.func27, Tryz.ntmps27
    go_wp2_with fail
    refine (ncheck_any s _ HL.out (by have := HS.out; omega)).mono ?_
    rintro e w1 ⟨rfl, hb1⟩
    rw [he]
    have HB1 := Lib.hid hb1
    have hsz1 := hb1.size
    clear hb1 he
    go_wp2
    go_loopw [] (fun wr => ∃ (pos : Nat) (rest : List Int) (acc : List UInt8), Lib.IsBuilderF 99 5 w1.heap.size w1.heap.size (Lib.byteCells acc) wr ∧ wr.heap[w1.heap.size + 1]? = some (.stringIter s pos) ∧ Below w1.heap.size w1 wr ∧ rest.all isC = true ∧ ints ((bts s).drop pos) = rest.flatMap encC ∧ acc ++ rest.flatMap (escR v) = rs.flatMap (escR v) ∧ acc.length ≤ 6 * pos) (fun wr => s.size - wr.iterPos (w1.heap.size + 1))
    case atStart =>
      refine ⟨0, rs, [], (Lib.IsBuilderF.of (Lib.fresh_isBuilder 99 5 w1)).alloc _, ?_, ((Below.refl _ w1).alloc (Nat.le_refl _) _).alloc (by simp) _, HALL.out, HRUN.out, rfl, by simp⟩
      have := World.iter_heap (w1.alloc (.cells #[.pointer none, .slice none 0 0] 99)) s 0
      simpa using this
    case round =>
      obtain ⟨pos, rest, acc, hI, hit, hbw, hra, hrest, hacc, hal⟩ := hrel
      have hsz : w1.heap.size + 1 < wr.heap.size := (Array.getElem?_eq_some_iff.1 hit).1
      have HRA := Lib.hid hra
      have HREST := Lib.hid hrest
      have HACC := Lib.hid hacc
      have HBW := Lib.hid hbw
      clear hra hrest hacc hbw
      cases rest with
      | cons r rest =>
        have hrc : isC r = true := by have := HRA.out; simp only [List.all_cons, Bool.and_eq_true] at this; exact this.1
        have hrc2 : rest.all isC = true := by have := HRA.out; simp only [List.all_cons, Bool.and_eq_true] at this; exact this.2
        obtain ⟨hdec, hple⟩ := dec_link s pos r (rest.flatMap encC) hrc (by rw [HREST.out, List.flatMap_cons])
        have hsc : 1 ≤ sizeC r ∧ sizeC r ≤ 4 := by unfold sizeC; repeat' split
                                                   all_goals omega
        have hp : pos < s.size := by omega
        have hrest2 : ints ((bts s).drop (pos + sizeC r)) = rest.flatMap encC := by
          rw [← List.drop_drop, ints_drop, HREST.out, List.flatMap_cons, List.drop_append_of_le_length (by rw [encC_len]; omega), List.drop_of_length_le (by rw [encC_len]; omega), List.nil_append]
        have hrb := isC_bounds hrc
        have hnx : ∀ ty, (Instr.next (.pointer (some ⟨w1.heap.size + 1, 0, none⟩)) true ty).run Tryz.prog wr = .ok (.tuple #[.bool true, .int .i64 pos, .int .i32 r]) (wr.iterAt (w1.heap.size + 1) s (pos + sizeC r)) := by
          intro ty
          rw [Lib.run_next_any_at wr (w1.heap.size + 1) s pos ty hit hp, hdec]
          have : ((r.toNat : Nat) : Int) = r := by omega
          simp only [this]
        have hI2 := hI.iterAt hit (pos + sizeC r)
        have hit2 := Lib.iterAt_heap wr (w1.heap.size + 1) s pos (pos + sizeC r) hit
        have hbw2 := Lib.below_iterAt HBW.out (k := w1.heap.size + 1) (by omega) s (pos + sizeC r)
        have hsz2 : (wr.iterAt (w1.heap.size + 1) s (pos + sizeC r)).heap.size = wr.heap.size := Lib.iterAt_size ..
        have HSC := Lib.hid hsc
        have HPLE := Lib.hid hple
        have HREST2 := Lib.hid hrest2
        have HRC := Lib.hid hrc
        have HRC2 := Lib.hid hrc2
        have HI2 := Lib.hid hI2
        have HIT2 := Lib.hid hit2
        have HBW2 := Lib.hid hbw2
        have HSZ2 := Lib.hid hsz2
        have HRB := Lib.hid hrb
        have HAL := Lib.hid hal
        have HIT := Lib.hid hit
        clear hsc hple hrest2 hrc hrc2 hI2 hit2 hbw2 hsz2 hrb hdec hI hit hal
        go_wp2_with fail
        refine (escaped_any v r _).mono ?_
        rintro e w2 ⟨rfl, hb2⟩
        have HIT3 : Hid (w2.heap[w1.heap.size + 1]? = some (.stringIter s (pos + sizeC r))) := Lib.hid ((hb2.block _ (by rw [HSZ2.out]; exact hsz)).trans HIT2.out)
        have HI3 : Hid (Lib.IsBuilderF 99 5 w1.heap.size w1.heap.size (Lib.byteCells acc) w2) := Lib.hid (bld_below HI2.out hb2)
        have HB3 : Hid (Below w1.heap.size w1 w2) := Lib.hid (HBW2.out.trans (hb2.mono (by rw [HSZ2.out]; omega)))
        have hsz3 : w1.heap.size ≤ w2.heap.size := HB3.out.size
        have HACL : Hid (acc.length ≤ 6 * s.size) := Lib.hid (by have := HAL.out; omega)
        clear hb2
        by_cases hesc : escT v r = []
        · have hE : escR v r = Lib.encodeRune r := by unfold escR; rw [if_pos hesc]
          have HE := Lib.hid hE
          rw [hesc]
          clear hE hesc
          go_wp2_with fail
          refine (writeRune_any w1.heap.size w1.heap.size (Lib.byteCells acc) r (by have := HRB.out; omega) (by have := HRB.out; omega) _ HI3.out (by rw [Lib.byteCells_length]; have := HACL.out; have := HS.out; omega) hsz3).mono ?_
          rintro e w3 ⟨rfl, h1, b1, k1⟩
          go_wp2
          go_roundw
          case rel =>
            refine ⟨pos + sizeC r, rest, acc ++ Lib.encodeRune r, ?_, k1.iter HIT3.out (by omega), HB3.out.trans b1, HRC2.out, HREST2.out, ?_, ?_⟩
            · rw [Lib.byteCells_append, Lib.byteCells_encodeRune]; exact Or.inr h1
            · rw [← HACC.out, List.flatMap_cons, HE.out, List.append_assoc]
            · rw [List.length_append, encode_len HRC.out]; have := HAL.out; have := HSC.out; omega
          case measure =>
            simp only [World.iterPos, k1.iter HIT3.out (by omega), HIT.out]
            have := HPLE.out; have := HSC.out; omega
        · have hE : escR v r = escT v r := by unfold escR; rw [if_neg hesc]
          have HE := Lib.hid hE
          have hne : (escT v r).isEmpty = false := List.isEmpty_eq_false_iff.2 hesc
          have HLT : Hid ((escT v r).length ≤ 6) := Lib.hid (escT_len v r)
          clear hE hesc
          go_wp2_with fail
          refine (writeString_any w1.heap.size w1.heap.size (Lib.byteCells acc) ⟨(escT v r).toArray⟩ _ HI3.out (by rw [Lib.byteCells_length]; have := HACL.out; have := HS.out; have := HLT.out; rw [str_size]; omega) hsz3).mono ?_
          rintro e w3 ⟨rfl, h1, b1, k1⟩
          go_wp2
          go_roundw
          case rel =>
            refine ⟨pos + sizeC r, rest, acc ++ escT v r, ?_, k1.iter HIT3.out (by omega), HB3.out.trans b1, HRC2.out, HREST2.out, ?_, ?_⟩
            · rw [Lib.byteCells_append, ← bytes_str]; exact Or.inr h1
            · rw [← HACC.out, List.flatMap_cons, HE.out, List.append_assoc]
            · rw [List.length_append]; have := HAL.out; have := HSC.out; have := HLT.out; omega
          case measure =>
            simp only [World.iterPos, k1.iter HIT3.out (by omega), HIT.out]
            have := HPLE.out; have := HSC.out; omega
      | nil =>
        have hp : ¬ pos < s.size := by
          intro h
          have h1 := HREST.out
          rw [bts_drop s pos h] at h1
          cases h1
        have hnx : ∀ ty, (Instr.next (.pointer (some ⟨w1.heap.size + 1, 0, none⟩)) true ty).run Tryz.prog wr = _ := fun ty => Lib.run_next_end_at wr (w1.heap.size + 1) s pos ty hit hp
        go_wp2_with fail
        refine (S.Builder_String_any_k w1.heap.size w1.heap.size acc _ hI (by omega)).mono ?_
        rintro e w3 ⟨rfl, _, b1, _⟩
        go_wp2
        go_ret2
        have h1 := HACC.out
        rw [List.flatMap_nil, List.append_nil] at h1
        exact ⟨by rw [h1]; rfl, HB1.out.trans ((HBW.out.trans b1).mono hsz1)⟩
  · have he : chkE (ints (bts s)) = 10 := by
      have : ¬ Whole (bts s) := fun h => hw ((wholeB_iff _).2 h)
      unfold Whole at this
      have h2 := chkC_le (ints (bts s))
      unfold chkE
      rw [if_pos (by rw [ints_len] at h2 ⊢; omega)]
    have hp : escP v (bts s) = ([], 10) := by unfold escP; rw [if_neg hw]
    rw [hp]
    go_enter Tryz.func27, Tryz.ntmps27
    go_wp2_with fail
    refine (ncheck_any s _ hl (by omega)).mono ?_
    rintro e w1 ⟨rfl, hb1⟩
    rw [he]
    go_wp2
    go_ret2
    exact ⟨rfl, hb1⟩
end Go.Proofs.YtjldpkhfiffinaaGreatDoor.U
namespace Go.Proofs.YtjldpkhfiffinaaGreatDoor.U
open Go.RowKit Go.Shelf
/-- Where the walk through a text stands: what has been read, and what is to come, behind the reference that was read last. -/
def Stand (s : ByteArray) (pos beh : Nat) (acc : List UInt8) : Prop :=
  (beh ≤ pos ∧ unL acc ((bts s).drop pos) = unL [] (bts s)) ∨ (pos < beh ∧ (bts s)[beh - 1]? = some 59 ∧ unL acc ((bts s).drop beh) = unL [] (bts s))
theorem rest_drop {s : ByteArray} {pos : Nat} {r : Int} {rest : List Int} (_hrc : isC r = true) (h : ints ((bts s).drop pos) = (r :: rest).flatMap encC) : ints ((bts s).drop (pos + sizeC r)) = rest.flatMap encC := by
  have hsc := encC_len r
  rw [← List.drop_drop, ints_drop, h, List.flatMap_cons, List.drop_append_of_le_length (by omega), List.drop_of_length_le (by omega), List.nil_append]
theorem rest_bytes {s : ByteArray} {pos : Nat} {r : Int} {rest : List Int} (hrc : isC r = true) (h : ints ((bts s).drop pos) = (r :: rest).flatMap encC) : (bts s).drop pos = Lib.encodeRune r ++ (bts s).drop (pos + sizeC r) := by
  apply ints_inj
  rw [ints_append, ints_encode hrc, rest_drop hrc h, h, List.flatMap_cons]
/-- A round that goes on behind a reference. -/
theorem stand_skip {s : ByteArray} {pos beh : Nat} {acc : List UInt8} {r : Int} {rest : List Int} (hrc : isC r = true) (h : ints ((bts s).drop pos) = (r :: rest).flatMap encC) (hp : pos < beh) (hs : Stand s pos beh acc) : Stand s (pos + sizeC r) beh acc := by
  rcases hs with ⟨h1, _⟩ | ⟨_, h1, h2⟩
  · omega
  · have hle : pos + sizeC r ≤ beh := by
      by_cases hlow : r < 128
      · rw [sizeC_1 hlow]; omega
      · rcases Nat.lt_or_ge beh (pos + sizeC r) with h3 | h3
        · exfalso
          have e := rest_bytes hrc h
          have hel : (Lib.encodeRune r).length = sizeC r := encode_len hrc
          have hg : ((bts s).drop pos)[beh - 1 - pos]? = some 59 := by rw [List.getElem?_drop, show pos + (beh - 1 - pos) = beh - 1 by omega]; exact h1
          rw [e, List.getElem?_append_left (by omega)] at hg
          have := encode_high hrc (by omega) 59 (List.mem_of_getElem? hg)
          simp at this
        · exact h3
    rcases Nat.lt_or_ge (pos + sizeC r) beh with h3 | h3
    · exact .inr ⟨h3, h1, h2⟩
    · obtain rfl : beh = pos + sizeC r := by omega
      exact .inl ⟨Nat.le_refl _, h2⟩
/-- A round that reads a character. -/
theorem stand_rune {s : ByteArray} {pos beh : Nat} {acc : List UInt8} {r : Int} {rest : List Int} (hrc : isC r = true) (h : ints ((bts s).drop pos) = (r :: rest).flatMap encC) (hp : beh ≤ pos) (h1 : r ≠ 60) (h2 : r ≠ 38) (hs : Stand s pos beh acc) : Stand s (pos + sizeC r) beh (acc ++ Lib.encodeRune r) := by
  rcases hs with ⟨_, h3⟩ | ⟨h3, _⟩
  · refine .inl ⟨by omega, ?_⟩
    rw [← h3, rest_bytes hrc h, unL_rune hrc h1 h2]
  · omega
theorem byte_low {s : ByteArray} {pos : Nat} {r : Int} {rest : List Int} (b : UInt8) (hrc : isC r = true) (hr : r = b.toNat) (hlow : b.toNat < 128) (h : ints ((bts s).drop pos) = (r :: rest).flatMap encC) : (bts s).drop pos = b :: (bts s).drop (pos + 1) := by
  have e := rest_bytes hrc h
  obtain ⟨c, e1, e2⟩ := encode_low hrc (by omega)
  have : c = b := UInt8.toNat.inj (by omega)
  rw [e1, sizeC_1 (by omega), this] at e
  exact e
/-- A round that reads a reference. -/
theorem stand_ref {s : ByteArray} {pos beh : Nat} {acc : List UInt8} {c : Int} {n : Nat} (hb : (bts s).drop pos = 38 :: (bts s).drop (pos + 1)) (hp : beh ≤ pos) (hr : refL ((bts s).drop (pos + 1)) = some (c, n)) (hs : Stand s pos beh acc) : Stand s (pos + 1) (pos + (n + 1)) (acc ++ Lib.encodeRune c) ∧ pos + (n + 1) ≤ s.size := by
  obtain ⟨r1, r2, r3, _⟩ := refL_some hr
  have hl := bts_len s
  rw [List.length_drop] at r2
  refine ⟨.inr ⟨by omega, ?_, ?_⟩, by omega⟩
  · rw [List.getElem?_drop] at r3
    rw [show pos + (n + 1) - 1 = pos + 1 + (n - 1) by omega]; exact r3
  · rcases hs with ⟨_, h3⟩ | ⟨h3, _⟩
    · rw [← h3, hb, unL_some hr, List.drop_drop, show pos + 1 + n = pos + (n + 1) by omega]
    · omega
theorem stand_none {s : ByteArray} {pos beh : Nat} {acc : List UInt8} (hb : (bts s).drop pos = 38 :: (bts s).drop (pos + 1)) (hp : beh ≤ pos) (hr : refL ((bts s).drop (pos + 1)) = none) (hs : Stand s pos beh acc) : unL [] (bts s) = .error 13 := by
  rcases hs with ⟨_, h3⟩ | ⟨h3, _⟩
  · rw [← h3, hb, unL_none hr]
  · omega
theorem stand_form {s : ByteArray} {pos beh : Nat} {acc : List UInt8} (hb : (bts s).drop pos = 60 :: (bts s).drop (pos + 1)) (hp : beh ≤ pos) (hs : Stand s pos beh acc) : unL [] (bts s) = .error 12 := by
  rcases hs with ⟨_, h3⟩ | ⟨h3, _⟩
  · rw [← h3, hb, unL_form]
  · omega
theorem stand_end {s : ByteArray} {pos beh : Nat} {acc : List UInt8} (h : s.size ≤ pos) (hbs : beh ≤ s.size) (hs : Stand s pos beh acc) : unL [] (bts s) = .ok acc := by
  rcases hs with ⟨_, h3⟩ | ⟨h3, _⟩
  · rw [← h3, List.drop_of_length_le (by rw [bts_len]; exact h), unL_nil]
  · omega
set_option maxHeartbeats 4000000 in
theorem unescape_any (s : ByteArray) (w : World) (hl : LayS w) (hs : s.size ≤ 1000000) :
    Calls Tryz.prog 135 #[.string s] w fun e w' => e = .returned (.tuple #[.string ⟨(unP (bts s)).1.toArray⟩, .int .i64 (unP (bts s)).2]) ∧ Below w.heap.size w w' := by
  by_cases hw : wholeB (bts s) = true
  · have he : chkE (ints (bts s)) = 0 := by
      have := (wholeB_iff _).1 hw
      unfold Whole at this
      unfold chkE
      rw [if_neg (by rw [this, ints_len]; omega)]
    have hp : unP (bts s) = unR (unL [] (bts s)) := by unfold unP; rw [if_pos hw]
    have hrun := ((wholeB_iff _).1 hw).runes
    have hall := runes_all (ints (bts s))
    generalize hrs : runesC (ints (bts s)) = rs at hrun hall
    clear hrs hw
    have HP := Lib.hid hp
    have HRUN := Lib.hid hrun
    have HALL := Lib.hid hall
    have HL := Lib.hid hl
    have HS := Lib.hid hs
    clear hrun hall hl hs hp
    go_enter Tryz.func135, Tryz.ntmps135
    go_wp2_with fail
    go_step3
    go_wp2_with fail
    refine (ncheck_any s _ HL.out.lay (by have := HS.out; omega)).mono ?_
    rintro e w1 ⟨rfl, hb1⟩
    rw [he]
    have HB1 := Lib.hid hb1
    have HL1 := Lib.hid (HL.out.below hb1 HL.out.size)
    have hsz1 := hb1.size
    clear hb1 he
    go_wp2_with fail
    go_step3
    go_wp2_with fail
    go_loopw [6, 7] (fun v6 v7 wr => ∃ (pos beh : Nat) (rest : List Int) (acc : List UInt8), v6 = .int .i64 0 ∧ v7 = .int .i64 beh ∧ beh ≤ s.size ∧ pos ≤ s.size ∧ Lib.IsBuilderF 99 5 w1.heap.size w1.heap.size (Lib.byteCells acc) wr ∧ wr.heap[w1.heap.size + 1]? = some (.stringIter s pos) ∧ Below w1.heap.size w1 wr ∧ rest.all isC = true ∧ ints ((bts s).drop pos) = rest.flatMap encC ∧ Stand s pos beh acc ∧ acc.length ≤ 4 * pos) (fun _ _ wr => s.size - wr.iterPos (w1.heap.size + 1))
    case atStart =>
      refine ⟨0, 0, rs, [], rfl, rfl, by omega, by omega, (Lib.IsBuilderF.of (Lib.fresh_isBuilder 99 5 w1)).alloc _, ?_, ((Below.refl _ w1).alloc (Nat.le_refl _) _).alloc (by simp) _, HALL.out, HRUN.out, .inl ⟨by omega, rfl⟩, by simp⟩
      have := World.iter_heap (w1.alloc (.cells #[.pointer none, .slice none 0 0] 99)) s 0
      simpa using this
    case round =>
      obtain ⟨pos, beh, rest, acc, rfl, rfl, hbs, hps, hI, hit, hbw, hra, hrest, hst, hal⟩ := hrel
      have hsz : w1.heap.size + 1 < wr.heap.size := (Array.getElem?_eq_some_iff.1 hit).1
      have HRA := Lib.hid hra
      have HREST := Lib.hid hrest
      have HST := Lib.hid hst
      have HBW := Lib.hid hbw
      have HPS := Lib.hid hps
      have HBS := Lib.hid hbs
      clear hra hrest hst hbw hps hbs
      cases rest with
      | cons r rest =>
        have hrc : isC r = true := by have := HRA.out; simp only [List.all_cons, Bool.and_eq_true] at this; exact this.1
        have hrc2 : rest.all isC = true := by have := HRA.out; simp only [List.all_cons, Bool.and_eq_true] at this; exact this.2
        obtain ⟨hdec, hple⟩ := dec_link s pos r (rest.flatMap encC) hrc (by rw [HREST.out, List.flatMap_cons])
        have hsc := sizeC_le r
        have hp : pos < s.size := by omega
        have hrest2 := rest_drop hrc HREST.out
        have hrb := isC_bounds hrc
        have hnx : ∀ ty, (Instr.next (.pointer (some ⟨w1.heap.size + 1, 0, none⟩)) true ty).run Tryz.prog wr = .ok (.tuple #[.bool true, .int .i64 pos, .int .i32 r]) (wr.iterAt (w1.heap.size + 1) s (pos + sizeC r)) := by
          intro ty
          rw [Lib.run_next_any_at wr (w1.heap.size + 1) s pos ty hit hp, hdec]
          have : ((r.toNat : Nat) : Int) = r := by omega
          simp only [this]
        have hI2 := hI.iterAt hit (pos + sizeC r)
        have hit2 := Lib.iterAt_heap wr (w1.heap.size + 1) s pos (pos + sizeC r) hit
        have hbw2 := Lib.below_iterAt HBW.out (k := w1.heap.size + 1) (by omega) s (pos + sizeC r)
        have hsz2 : (wr.iterAt (w1.heap.size + 1) s (pos + sizeC r)).heap.size = wr.heap.size := Lib.iterAt_size ..
        have HSC := Lib.hid hsc
        have HPLE := Lib.hid hple
        have HREST2 := Lib.hid hrest2
        have HRC := Lib.hid hrc
        have HRC2 := Lib.hid hrc2
        have HI2 := Lib.hid hI2
        have HIT2 := Lib.hid hit2
        have HBW2 := Lib.hid hbw2
        have HSZ2 := Lib.hid hsz2
        have HRB := Lib.hid hrb
        have HAL := Lib.hid hal
        have HIT := Lib.hid hit
        clear hsc hple hrest2 hrc hrc2 hI2 hit2 hbw2 hsz2 hrb hdec hI hit hal
        by_cases hbeh : pos < beh
        · have HSTN := Lib.hid (stand_skip HRC.out HREST.out hbeh HST.out)
          go_wp2
          go_roundw
          case rel =>
            exact ⟨pos + sizeC r, beh, rest, acc, rfl, rfl, HBS.out, HPLE.out, HI2.out, HIT2.out, HBW2.out, HRC2.out, HREST2.out, HSTN.out, by have := HAL.out; have := HSC.out; omega⟩
          case measure =>
            simp only [World.iterPos, HIT2.out, HIT.out]
            have := HPLE.out; have := HSC.out; omega
        · by_cases h60 : r = 60
          · have HF := Lib.hid (stand_form (byte_low 60 HRC.out (by rw [h60]; rfl) (by decide) HREST.out) (by omega) HST.out)
            subst h60
            go_wp2
            rw [Exit.noGoto_ret]
            go_ret2
            refine ⟨?_, HB1.out.trans (HBW2.out.mono hsz1)⟩
            rw [HP.out, HF.out]
            rfl
          · by_cases h38 : r = 38
            · have hby := byte_low 38 HRC.out (by rw [h38]; rfl) (by decide) HREST.out
              have hbe : bts (s.extract pos s.size) = 38 :: (bts s).drop (pos + 1) := by
                rw [bts_extract, List.take_of_length_le (by rw [bts_len]; omega), hby]
              have HL2 : Hid (LayS (wr.iterAt (w1.heap.size + 1) s (pos + sizeC r))) := Lib.hid (HL1.out.below HBW2.out HL1.out.size)
              have HR := Lib.hid (reference_any (s.extract pos s.size) _ _ HL2.out hbe (by rw [ByteArray.size_extract]; have := HS.out; omega))
              subst h38
              have hs1 : sizeC 38 = 1 := rfl
              rw [hs1] at HIT2 HI2 HBW2 HSZ2 HPLE HREST2 hnx HL2 HR
              cases hrf : refL ((bts s).drop (pos + 1)) with
              | none =>
                have HF := Lib.hid (stand_none hby (by omega) hrf HST.out)
                rw [hrf] at HR
                clear hby hbe hrf hs1
                go_wp2_with fail
                refine HR.out.mono ?_
                rintro e w2 ⟨rfl, hb2⟩
                have HB2 := Lib.hid hb2
                clear hb2
                simp only [Option.map_none, refV]
                go_wp2
                rw [Exit.noGoto_ret]
                go_ret2
                refine ⟨?_, HB1.out.trans ((HBW2.out.trans (HB2.out.mono (by rw [HSZ2.out]; omega))).mono hsz1)⟩
                rw [HP.out, HF.out]
                rfl
              | some x =>
                obtain ⟨c, n⟩ := x
                obtain ⟨hst2, hn2⟩ := stand_ref hby (by omega) hrf HST.out
                have hcc := (refL_some hrf).2.2.2
                have HN1 := Lib.hid (refL_some hrf).1
                have HCB := Lib.hid (isC_bounds hcc)
                have HCC := Lib.hid hcc
                have HSTN := Lib.hid hst2
                have HN2 := Lib.hid hn2
                rw [hrf] at HR
                clear hby hbe hrf hs1 hst2 hn2 hcc
                go_wp2_with fail
                refine HR.out.mono ?_
                rintro e w2 ⟨rfl, hb2⟩
                have HIT3 : Hid (w2.heap[w1.heap.size + 1]? = some (.stringIter s (pos + 1))) := Lib.hid ((hb2.block _ (by rw [HSZ2.out]; exact hsz)).trans HIT2.out)
                have HI3 : Hid (Lib.IsBuilderF 99 5 w1.heap.size w1.heap.size (Lib.byteCells acc) w2) := Lib.hid (bld_below HI2.out hb2)
                have HB3 : Hid (Below w1.heap.size w1 w2) := Lib.hid (HBW2.out.trans (hb2.mono (by rw [HSZ2.out]; omega)))
                have hsz3 : w1.heap.size ≤ w2.heap.size := HB3.out.size
                have hn0 : ((n + 1 : Nat) : Int) ≠ 0 := by omega
                obtain ⟨m, hm⟩ : ∃ m, m = n + 1 := ⟨_, rfl⟩
                clear hb2
                simp only [Option.map_some, refV]
                rw [← hm] at hn0 ⊢
                have HM := Lib.hid hm
                clear hm
                have hm0 : 0 < m := by omega
                have hmb : (pos : Int) + m ≤ 1000000 := by have := HN2.out; have := HS.out; have := HM.out; omega
                go_wp2_with fail
                refine (writeRune_any w1.heap.size w1.heap.size (Lib.byteCells acc) c (by have := HCB.out; omega) (by have := HCB.out; omega) _ HI3.out (by rw [Lib.byteCells_length]; have := HAL.out; have := HS.out; have := HPS.out; omega) hsz3).mono ?_
                rintro e w3 ⟨rfl, h1, b1, k1⟩
                go_wp2
                go_roundw
                case rel =>
                  refine ⟨pos + 1, pos + m, rest, acc ++ Lib.encodeRune c, rfl, by go_num, by rw [HM.out]; exact HN2.out, HPLE.out, ?_, k1.iter HIT3.out (by omega), HB3.out.trans b1, HRC2.out, HREST2.out, by rw [HM.out]; exact HSTN.out, ?_⟩
                  · rw [Lib.byteCells_append, Lib.byteCells_encodeRune]; exact Or.inr h1
                  · rw [List.length_append, encode_len HCC.out]; have := HAL.out; have := (sizeC_le c).2; omega
                case measure =>
                  simp only [World.iterPos, k1.iter HIT3.out (by omega), HIT.out]
                  have := HPLE.out; omega
            · have HSTN := Lib.hid (stand_rune HRC.out HREST.out (by omega) h60 h38 HST.out)
              have hsz3 : w1.heap.size ≤ (wr.iterAt (w1.heap.size + 1) s (pos + sizeC r)).heap.size := HBW2.out.size
              go_wp2_with fail
              refine (writeRune_any w1.heap.size w1.heap.size (Lib.byteCells acc) r (by have := HRB.out; omega) (by have := HRB.out; omega) _ HI2.out (by rw [Lib.byteCells_length]; have := HAL.out; have := HS.out; have := HPS.out; omega) hsz3).mono ?_
              rintro e w3 ⟨rfl, h1, b1, k1⟩
              go_wp2
              go_roundw
              case rel =>
                refine ⟨pos + sizeC r, beh, rest, acc ++ Lib.encodeRune r, rfl, rfl, HBS.out, HPLE.out, ?_, k1.iter HIT2.out (by omega), HBW2.out.trans b1, HRC2.out, HREST2.out, HSTN.out, ?_⟩
                · rw [Lib.byteCells_append, Lib.byteCells_encodeRune]; exact Or.inr h1
                · rw [List.length_append, encode_len HRC.out]; have := HAL.out; have := HSC.out; omega
              case measure =>
                simp only [World.iterPos, k1.iter HIT2.out (by omega), HIT.out]
                have := HPLE.out; have := HSC.out; omega
      | nil =>
        have hp : ¬ pos < s.size := by
          intro h
          have h1 := HREST.out
          rw [bts_drop s pos h] at h1
          cases h1
        have HF := Lib.hid (stand_end (by omega) HBS.out HST.out)
        have hnx : ∀ ty, (Instr.next (.pointer (some ⟨w1.heap.size + 1, 0, none⟩)) true ty).run Tryz.prog wr = _ := fun ty => Lib.run_next_end_at wr (w1.heap.size + 1) s pos ty hit hp
        go_wp2_with fail
        refine (S.Builder_String_any_k w1.heap.size w1.heap.size acc _ hI (by omega)).mono ?_
        rintro e w3 ⟨rfl, _, b1, _⟩
        go_wp2
        rw [Exit.noGoto_ret]
        go_ret2
        refine ⟨?_, HB1.out.trans ((HBW.out.trans b1).mono hsz1)⟩
        rw [HP.out, HF.out]
        rfl
  · have he : chkE (ints (bts s)) = 10 := by
      have : ¬ Whole (bts s) := fun h => hw ((wholeB_iff _).2 h)
      unfold Whole at this
      have h2 := chkC_le (ints (bts s))
      unfold chkE
      rw [if_pos (by rw [ints_len] at h2 ⊢; omega)]
    have hp : unP (bts s) = ([], 10) := by unfold unP; rw [if_neg hw]
    rw [hp]
    go_enter Tryz.func135, Tryz.ntmps135
    go_wp2_with fail
    go_step3
    go_wp2_with fail
    refine (ncheck_any s _ hl.lay (by omega)).mono ?_
    rintro e w1 ⟨rfl, hb1⟩
    rw [he]
    go_wp2
    rw [Exit.noGoto_ret]
    go_ret2
    exact ⟨rfl, hb1⟩
end Go.Proofs.YtjldpkhfiffinaaGreatDoor.U
