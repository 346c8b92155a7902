/- The contract of utf.Encode. -/
import Derived.Test.YtihijgghcecpmaaGreatDoorPut
import Derived.Test.YtihijgghcecpmaaGreatDoorIs
import Derived.Test.YtihijgghcecpmaaGreatDoorBase
import Derived.Test.YtihijgghcecpmaaGreatDoorQ1
import Derived.Test.YtihijgghcecpmaaGreatDoorSmall
namespace Go.Proofs.YtihijgghcecpmaaGreatDoor.U
open Go.RowKit

/-- The bytes of the first k numbers. -/
def encs (zs : List Int) : List Int := zs.flatMap encC

theorem encs_snoc (zs : List Int) (r : Int) : encs (zs ++ [r]) = encs zs ++ encC r := by simp [encs]
theorem encs_len (zs : List Int) : (encs zs).length ≤ 4 * zs.length := by
  induction zs with
  | nil => simp [encs]
  | cons r l ih =>
    have h1 : (encC r).length ≤ 4 := by rw [encC_len]; unfold sizeC; repeat' split
                                        all_goals omega
    simp only [encs, List.flatMap_cons, List.length_append, List.length_cons] at ih ⊢
    omega

/-- What a slice of integers that came in is: nil; or it leads to a row of cells. -/
def IsRow (k : IntKind) (w : World) (a : Option Addr) (len cap : Nat) (zs : List Int) : Prop :=
  (a = none ∧ len = 0 ∧ cap = 0 ∧ zs = []) ∨
  ∃ x, a = some x ∧ len ≤ cap ∧ cap ≤ maxLen ∧ zs.length = cap ∧ (∀ i, i < zs.length → w.cell? (x.add i) = some (.int k (zs.getD i 0))) ∧ ∀ n ∈ zs, (Lit.int k n).wf = true

/-- A slice of len numbers zs: where there is an element, its cells lie in one block. -/
def Reads (k : IntKind) (w : World) (a : Option Addr) (len : Nat) (zs : List Int) : Prop :=
  zs.length = len ∧ (0 < len → ∃ b off, a = some ⟨b, off, none⟩ ∧ ∀ i, i < len → w.cell? ⟨b, off + i, none⟩ = some (.int k (zs.getD i 0)))

theorem take_snoc {zs : List Int} {k : Nat} (h : k < zs.length) : zs.take (k + 1) = zs.take k ++ [zs[k]?.getD 0] := by
  rw [List.take_succ_eq_append_getElem h, List.getElem?_eq_getElem h]; rfl
theorem all_snoc {zs : List Int} {k : Nat} (h : k < zs.length) : (zs.take (k + 1)).all isC = ((zs.take k).all isC && isC (zs[k]?.getD 0)) := by
  rw [take_snoc h]; simp
theorem all_false {zs : List Int} {k : Nat} (h : k < zs.length) (hc : isC (zs[k]?.getD 0) = false) : zs.all isC = false := by
  rw [List.all_eq_false]
  refine ⟨zs[k], List.getElem_mem h, ?_⟩
  rw [List.getElem?_eq_getElem h] at hc
  simpa using hc

/-- What the call owns stays owned behind a callee that leaves alone what was there. -/
theorem own_below {w w' : World} {base : Nat} {e : TypeId} {size : Nat} {v : Value} {n : Nat} {xs : List Value} (h : w.ownsRow base e size v n xs) (hb : Below w.heap.size w w') : w'.ownsRow base e size v n xs :=
  h.kept (row := none) ⟨hb.os, hb.tape, hb.output, hb.size, fun k hk _ => hb.block k hk⟩ (by cases v.ownBlock <;> simp)

end Go.Proofs.YtihijgghcecpmaaGreatDoor.U

/- The contract of utf.begin. -/
namespace Go.Proofs.YtihijgghcecpmaaGreatDoor.U
open Go.RowKit

theorem rx0 (c0 c1 c2 c3 c4 c5 c6 c7 c8 c9 c10 c11 : Value) (w : World) : (Instr.index 134 (.agg #[c0, c1, c2, c3, c4, c5, c6, c7, c8, c9, c10, c11]) (.int .i64 0)).run Tryz.prog w = .ok (.agg #[c0, c1, c2]) w := by kernel_rfl
theorem rx1 (c0 c1 c2 c3 c4 c5 c6 c7 c8 c9 c10 c11 : Value) (w : World) : (Instr.index 134 (.agg #[c0, c1, c2, c3, c4, c5, c6, c7, c8, c9, c10, c11]) (.int .i64 1)).run Tryz.prog w = .ok (.agg #[c3, c4, c5]) w := by kernel_rfl
theorem rx2 (c0 c1 c2 c3 c4 c5 c6 c7 c8 c9 c10 c11 : Value) (w : World) : (Instr.index 134 (.agg #[c0, c1, c2, c3, c4, c5, c6, c7, c8, c9, c10, c11]) (.int .i64 2)).run Tryz.prog w = .ok (.agg #[c6, c7, c8]) w := by kernel_rfl
theorem rx3 (c0 c1 c2 c3 c4 c5 c6 c7 c8 c9 c10 c11 : Value) (w : World) : (Instr.index 134 (.agg #[c0, c1, c2, c3, c4, c5, c6, c7, c8, c9, c10, c11]) (.int .i64 3)).run Tryz.prog w = .ok (.agg #[c9, c10, c11]) w := by kernel_rfl

set_option maxHeartbeats 2000000 in
theorem begin_any (c : Int) (w : World) (hl : Lay w) (h0 : 0 ≤ c) (h1 : c ≤ 255) : Calls Tryz.prog 75 #[.int .u8 c] w fun e w' => e = .returned (.tuple #[.int .i32 (begV c), .int .i64 (begN c)]) ∧ Below w.heap.size w w' := by
  obtain ⟨t0, f0, hr⟩ := hl.rows
  have hsz := hl.size
  have i0 := @rx0
  have i1 := @rx1
  have i2 := @rx2
  have i3 := @rx3
  rcases (show c ≤ 127 ∨ (127 < c ∧ c < 192) ∨ (192 ≤ c ∧ c ≤ 223) ∨ (224 ≤ c ∧ c ≤ 239) ∨ (240 ≤ c ∧ c ≤ 247) ∨ 247 < c by omega) with h | ⟨h, h'⟩ | ⟨h, h'⟩ | ⟨h, h'⟩ | ⟨h, h'⟩ | h
  · have HC := Lib.hid (show begV c = c ∧ begN c = 1 by unfold begV begN; constructor <;> (repeat (first | rw [if_pos (by omega)] | rw [if_neg (by omega)])))
    go_enter Tryz.func75, Tryz.ntmps75
    go_wp2_with (refine wpList_load_row rfl 134 _ rfl 0 rfl t0 _ f0 _ hr Tryz.underlying134 rfl (by kernel_rfl) ?_)
    refine wp_loop_rounds 1 ?_
    rw [rounds_succ]
    go_wp2
    go_ret2
    exact ⟨by rw [HC.out.1, HC.out.2]; rfl, by repeat (first | exact Below.refl _ _ | refine al ?_ (Nat.le_refl _) _)⟩
  · have HC := Lib.hid (show begV c = 0 ∧ begN c = 0 by unfold begV begN; constructor <;> (repeat (first | rw [if_pos (by omega)] | rw [if_neg (by omega)])))
    go_enter Tryz.func75, Tryz.ntmps75
    go_wp2_with (refine wpList_load_row rfl 134 _ rfl 0 rfl t0 _ f0 _ hr Tryz.underlying134 rfl (by kernel_rfl) ?_)
    refine wp_loop_rounds 5 ?_
    rw [rounds_succ]
    go_wp2
    rw [rounds_succ]
    go_wp2
    rw [rounds_succ]
    go_wp2
    rw [rounds_succ]
    go_wp2
    rw [rounds_succ]
    go_wp2
    go_ret2
    exact ⟨by rw [HC.out.1, HC.out.2]; rfl, by repeat (first | exact Below.refl _ _ | refine al ?_ (Nat.le_refl _) _)⟩
  · have HC := Lib.hid (show begV c = c - 192 ∧ begN c = 2 by unfold begV begN; constructor <;> (repeat (first | rw [if_pos (by omega)] | rw [if_neg (by omega)])))
    go_enter Tryz.func75, Tryz.ntmps75
    go_wp2_with (refine wpList_load_row rfl 134 _ rfl 0 rfl t0 _ f0 _ hr Tryz.underlying134 rfl (by kernel_rfl) ?_)
    refine wp_loop_rounds 2 ?_
    rw [rounds_succ]
    go_wp2
    rw [rounds_succ]
    go_wp2
    go_ret2
    exact ⟨by rw [HC.out.1, HC.out.2]; rfl, by repeat (first | exact Below.refl _ _ | refine al ?_ (Nat.le_refl _) _)⟩
  · have HC := Lib.hid (show begV c = c - 224 ∧ begN c = 3 by unfold begV begN; constructor <;> (repeat (first | rw [if_pos (by omega)] | rw [if_neg (by omega)])))
    go_enter Tryz.func75, Tryz.ntmps75
    go_wp2_with (refine wpList_load_row rfl 134 _ rfl 0 rfl t0 _ f0 _ hr Tryz.underlying134 rfl (by kernel_rfl) ?_)
    refine wp_loop_rounds 3 ?_
    rw [rounds_succ]
    go_wp2
    rw [rounds_succ]
    go_wp2
    rw [rounds_succ]
    go_wp2
    go_ret2
    exact ⟨by rw [HC.out.1, HC.out.2]; rfl, by repeat (first | exact Below.refl _ _ | refine al ?_ (Nat.le_refl _) _)⟩
  · have HC := Lib.hid (show begV c = c - 240 ∧ begN c = 4 by unfold begV begN; constructor <;> (repeat (first | rw [if_pos (by omega)] | rw [if_neg (by omega)])))
    go_enter Tryz.func75, Tryz.ntmps75
    go_wp2_with (refine wpList_load_row rfl 134 _ rfl 0 rfl t0 _ f0 _ hr Tryz.underlying134 rfl (by kernel_rfl) ?_)
    refine wp_loop_rounds 4 ?_
    rw [rounds_succ]
    go_wp2
    rw [rounds_succ]
    go_wp2
    rw [rounds_succ]
    go_wp2
    rw [rounds_succ]
    go_wp2
    go_ret2
    exact ⟨by rw [HC.out.1, HC.out.2]; rfl, by repeat (first | exact Below.refl _ _ | refine al ?_ (Nat.le_refl _) _)⟩
  · have HC := Lib.hid (show begV c = 0 ∧ begN c = 0 by unfold begV begN; constructor <;> (repeat (first | rw [if_pos (by omega)] | rw [if_neg (by omega)])))
    go_enter Tryz.func75, Tryz.ntmps75
    go_wp2_with (refine wpList_load_row rfl 134 _ rfl 0 rfl t0 _ f0 _ hr Tryz.underlying134 rfl (by kernel_rfl) ?_)
    refine wp_loop_rounds 5 ?_
    rw [rounds_succ]
    go_wp2
    rw [rounds_succ]
    go_wp2
    rw [rounds_succ]
    go_wp2
    rw [rounds_succ]
    go_wp2
    rw [rounds_succ]
    go_wp2
    go_ret2
    exact ⟨by rw [HC.out.1, HC.out.2]; rfl, by repeat (first | exact Below.refl _ _ | refine al ?_ (Nat.le_refl _) _)⟩
end Go.Proofs.YtihijgghcecpmaaGreatDoor.U

/- The contract of utf.Decode. -/
namespace Go.Proofs.YtihijgghcecpmaaGreatDoor.U
open Go.RowKit

/-- What Decode leaves. -/
def DecPost (x : Option (Int × Nat)) (w : World) (e : Ending) (w' : World) : Prop :=
  Below w.heap.size w w' ∧ match x with
    | some (r, n) => e = .returned (.tuple #[.int .i32 r, .int .i64 n, .int .i64 0])
    | none => e = .returned (.tuple #[.int .i32 0, .int .i64 0, .int .i64 10])

set_option maxHeartbeats 1000000 in
theorem decode_out (a : Option Addr) (len cap : Nat) (i : Int) (w : World) (hi : i < 0 ∨ (len : Int) ≤ i) :
    Calls Tryz.prog 50 #[.slice a len cap, .int .i64 i] w fun e w' => e = .returned (.tuple #[.int .i32 0, .int .i64 0, .int .i64 1]) ∧ w = w' := by
  by_cases h : i < 0
  · clear hi
    go_enter Tryz.func50, Tryz.ntmps50
    go_wp2
    go_ret3
    exact ⟨rfl, rfl⟩
  · have h2 : (len : Int) ≤ i := by omega
    have h3 : 0 ≤ i := by omega
    clear hi h
    go_enter Tryz.func50, Tryz.ntmps50
    go_wp2
    go_ret3
    exact ⟨rfl, rfl⟩

set_option maxHeartbeats 1000000 in
theorem decode_in (b off len cap p : Nat) (zs : List Int) (w : World) (hl : Lay w) (hzl : zs.length = len) (hcap : len ≤ cap) (hb : ∀ z ∈ zs, 0 ≤ z ∧ z ≤ 255)
    (hcell : ∀ i, i < len → w.cell? ⟨b, off + i, none⟩ = some (.int .u8 (zs[i]?.getD 0))) (hlen : len ≤ 140737488351232) (hp : p < len) :
    Calls Tryz.prog 50 #[.slice (some ⟨b, off, none⟩) len cap, .int .i64 p] w fun e w' => DecPost (decC (zs.drop p)) w e w' := by
  obtain ⟨c, t, hdrop⟩ : ∃ c t, zs.drop p = c :: t := by
    cases h : zs.drop p with
    | nil => exact absurd (List.drop_eq_nil_iff.1 h) (by omega)
    | cons c t => exact ⟨c, t, rfl⟩
  have hc : zs[p]?.getD 0 = c := by
    have : (zs.drop p)[0]? = some c := by rw [hdrop]; rfl
    rw [List.getElem?_drop] at this
    simpa using congrArg (fun x => x.getD 0) this
  have hcm : c ∈ zs := List.mem_of_mem_drop (i := p) (by rw [hdrop]; simp)
  obtain ⟨hc0, hc1⟩ := hb c hcm
  have hcl : w.cell? ⟨b, off + p, none⟩ = some (.int .u8 c) := by rw [← hc]; exact hcell p hp
  have hbw : b < w.heap.size := block_lt_of_cell hcl
  have htl : t.length + 1 + p = len := by
    have := congrArg List.length hdrop
    simp only [List.length_drop, List.length_cons] at this
    omega
  have ht : ∀ i, i < t.length → w.cell? ⟨b, off + (p + 1) + i, none⟩ = some (.int .u8 (t[i]?.getD 0)) := by
    intro i hi
    have e : t[i]? = zs[p + 1 + i]? := by
      have : (zs.drop p)[i + 1]? = t[i]? := by rw [hdrop]; rfl
      rw [← this, List.getElem?_drop]
      congr 1; omega
    rw [e, show off + (p + 1) + i = off + (p + 1 + i) by omega]
    exact hcell _ (by omega)
  have htb : ∀ z ∈ t, 0 ≤ z ∧ z ≤ 255 := fun z hz => hb z (List.mem_of_mem_drop (i := p) (by rw [hdrop]; simp [hz]))
  rw [hdrop]
  have HL := Lib.hid hl
  have HT := Lib.hid ht
  have HTB := Lib.hid htb
  have HTL := Lib.hid htl
  have hn4 := begN_le c
  have hbv := begV_bounds c hc0
  clear hc hdrop hcm hb hcell hzl hl ht htb htl
  obtain ⟨n, hn⟩ : ∃ n, begN c = n := ⟨_, rfl⟩
  obtain ⟨v, hv⟩ : ∃ v, begV c = v := ⟨_, rfl⟩
  have HN := Lib.hid hn
  have HV := Lib.hid hv
  rw [hn] at hn4 hbv
  rw [hv] at hbv
  clear hn hv
  by_cases hbad : n = 0 ∨ len - p < n
  · have HD := Lib.hid (dec_bad (c := c) (t := t) (by rw [HN.out]; have := HTL.out; omega))
    by_cases hn0 : n = 0
    · subst hn0
      go_enter Tryz.func50, Tryz.ntmps50
      go_wp2_with fail
      refine (begin_any c _ HL.out hc0 hc1).mono ?_
      rintro e w1 ⟨rfl, hb1⟩
      rw [HN.out, HV.out]
      go_wp2_with fail
      go_ret3
      exact ⟨hb1, by rw [HD.out]; rfl⟩
    · have hz : ((n : Int) == 0) = false := by simp; omega
      have hlt : (len : Int) - p < n := by omega
      clear hbad hn0
      go_enter Tryz.func50, Tryz.ntmps50
      go_wp2_with fail
      refine (begin_any c _ HL.out hc0 hc1).mono ?_
      rintro e w1 ⟨rfl, hb1⟩
      rw [HN.out, HV.out]
      go_wp2_with fail
      go_ret3
      exact ⟨hb1, by rw [HD.out]; rfl⟩
  · have hn0 : 1 ≤ n := by omega
    have hnl : p + n ≤ len := by omega
    clear hbad
    go_enter Tryz.func50, Tryz.ntmps50
    go_wp2_with fail
    refine (begin_any c _ HL.out hc0 hc1).mono ?_
    rintro e w1 ⟨rfl, hb1⟩
    rw [HN.out, HV.out]
    have hz : ((n : Int) == 0) = false := by simp; omega
    by_cases h1 : n = 1
    · subst h1
      have HCC := Lib.hid (show contC v (t.take (1 - 1)) = some v from rfl)
      obtain ⟨u, hu⟩ : ∃ u, u = v := ⟨_, rfl⟩
      rw [← hu] at HCC
      subst hu
      have d1 : decide ((p : Int) < 0) = false := by simp
      have d2 : decide ((len : Int) - p < (1 : Nat)) = false := by simp; omega
      by_cases hcp : cap = p + 1
      all_goals
        go_wp2_with fail
        refine wp_loop_rounds 1 ?_
        rw [rounds_succ]
        have hl2 := Lib.hid (HL.out.below hb1 HL.out.size)
        have hfin := @dec_not c t u
        have hfin2 := @dec_yes c t u
        rw [HN.out, HV.out] at hfin hfin2
        have HF := Lib.hid hfin
        have HF2 := Lib.hid hfin2
        clear hfin hfin2
        cases hic : isC u with
        | false =>
          have HIC := Lib.hid hic
          clear hic
          go_wp2_with fail
          refine (is_any u _ hl2.out).mono ?_
          rintro e w2 ⟨rfl, hb2⟩
          rw [HIC.out]
          go_wp2_with fail
          go_ret3
          exact ⟨th hb1 (Nat.le_refl _) hb2, by rw [HF.out hn0 (by have := HTL.out; omega) HCC.out (by rw [HIC.out]; simp)]; rfl⟩
        | true =>
          have HIC := Lib.hid hic
          clear hic
          obtain ⟨q, hq⟩ : ∃ q, sizeC u = q := ⟨_, rfl⟩
          have HQ := Lib.hid hq
          clear hq
          by_cases hqn : q = 1
          · subst hqn
            go_wp2_with fail
            refine (is_any u _ hl2.out).mono ?_
            rintro e w2 ⟨rfl, hb2⟩
            rw [HIC.out]
            go_wp2_with fail
            refine (size_is u _ _ (hl2.out.below hb2 hl2.out.size) HQ.out).mono ?_
            rintro e w3 ⟨rfl, rfl⟩
            go_wp2_with fail
            go_ret3
            exact ⟨th hb1 (Nat.le_refl _) hb2, by rw [HF2.out hn0 (by have := HTL.out; omega) HCC.out HIC.out HQ.out]; rfl⟩
          · have hne : ((q : Int) != 1) = true := by rw [bne_iff_ne]; omega
            have hne2 : ((q : Int) == 1) = false := by rw [beq_eq_false_iff_ne]; omega
            have HQN := Lib.hid hqn
            clear hqn
            go_wp2_with fail
            refine (is_any u _ hl2.out).mono ?_
            rintro e w2 ⟨rfl, hb2⟩
            rw [HIC.out]
            go_wp2_with fail
            refine (size_is u _ _ (hl2.out.below hb2 hl2.out.size) HQ.out).mono ?_
            rintro e w3 ⟨rfl, rfl⟩
            go_wp2_with fail
            go_ret3
            exact ⟨th hb1 (Nat.le_refl _) hb2, by rw [HF.out hn0 (by have := HTL.out; omega) HCC.out (by rw [HQ.out]; exact fun h => HQN.out h.2)]; rfl⟩
    · have h2 : 2 ≤ n := by omega
      have hcp : ¬ cap = p + 1 := by omega
      have d1 : decide ((p : Int) < 0) = false := by simp
      have d2 : decide ((len : Int) - p < n) = false := by simp; omega
      have hv2 : v < 32 := hbv.2.2 h2
      have hv0 := hbv.1
      clear hbv h1
      go_wp2_with fail
      go_loop [7, 45] (fun r i => ∃ (k : Nat) (u : Int), k ≤ n - 1 ∧ i = .int .i64 k ∧ r = .int .i32 u ∧ contC v (t.take k) = some u ∧ 0 ≤ u ∧ Hid ((k ≤ 0 → u < 32) ∧ (k ≤ 1 → u < 2048) ∧ (k ≤ 2 → u < 131072) ∧ u < 8388608))
        (fun _ i => n - 1 - (intOf i).toNat)
      case atStart => exact ⟨0, v, by omega, rfl, rfl, rfl, hv0, by unfold Hid; omega⟩
      case round =>
        obtain ⟨k, u, hk, rfl, rfl, hcc, hu0, hub⟩ := hrel
        have HCC := Lib.hid hcc
        clear hcc
        by_cases hlt : k < n - 1
        · have hkt : k < t.length := by have := HTL.out; omega
          have hcx : w1.cell? ⟨b, off + (p + 1) + k, none⟩ = some (.int .u8 (t[k]?.getD 0)) := (hb1.cell (p := ⟨b, off + (p + 1) + k, none⟩) hbw).trans (HT.out k hkt)
          have hxm : t[k]?.getD 0 ∈ t := by rw [List.getElem?_eq_getElem hkt]; exact List.getElem_mem hkt
          obtain ⟨hx0, hx1⟩ := HTB.out _ hxm
          have HKT := Lib.hid hkt
          have hu1 : u < 131072 := by have := hub.out; omega
          obtain ⟨x, hx⟩ : ∃ x, x = t[k]?.getD 0 := ⟨_, rfl⟩
          rw [← hx] at hcx hx0 hx1
          have HX := Lib.hid hx
          clear hx hxm hkt
          have ha := andNot63 x hx0 (by omega)
          by_cases hin : 128 ≤ x ∧ x < 192
          · have hy : bits BinOp.andNot IntKind.u8 x 63 = 128 := by omega
            have hz2 := and63 x hx0 (by omega)
            have ho := or_i32 u (x % 64) hu0 (by omega) (by omega) (by omega)
            clear ha
            go_wp2_with fail
            exact ⟨⟨k + 1, _, by omega, by go_num, rfl, contC_next HCC.out HKT.out HX.out hin, by omega, by have h := hub.out; clear hy hz2 ho; unfold Hid; omega⟩, by simp [intOf]; omega⟩
          · have hy : ((x - x % 64 : Int) != 128) = true := by rw [bne_iff_ne]; omega
            have hy2 : ((x - x % 64 : Int) == 128) = false := by rw [beq_eq_false_iff_ne]; omega
            have hfin := @dec_cont c t
            rw [HN.out, HV.out] at hfin
            have HD := Lib.hid (hfin hn0 (by have := HTL.out; omega) (contC_stop HCC.out HKT.out hlt HX.out hin))
            clear hfin hin
            go_wp2_with fail
            go_ret3
            exact ⟨hb1, by rw [HD.out]; rfl⟩
        · obtain rfl : k = n - 1 := by omega
          have hl2 := Lib.hid (HL.out.below hb1 HL.out.size)
          have hfin := @dec_not c t u
          have hfin2 := @dec_yes c t u
          rw [HN.out, HV.out] at hfin hfin2
          have HF := Lib.hid hfin
          have HF2 := Lib.hid hfin2
          clear hfin hfin2
          cases hic : isC u with
          | false =>
            have HIC := Lib.hid hic
            clear hic
            go_wp2_with fail
            refine (is_any u _ hl2.out).mono ?_
            rintro e w2 ⟨rfl, hb2⟩
            rw [HIC.out]
            go_wp2_with fail
            go_ret3
            exact ⟨th hb1 (Nat.le_refl _) hb2, by rw [HF.out hn0 (by have := HTL.out; omega) HCC.out (by rw [HIC.out]; simp)]; rfl⟩
          | true =>
            have HIC := Lib.hid hic
            clear hic
            obtain ⟨q, hq⟩ : ∃ q, sizeC u = q := ⟨_, rfl⟩
            have HQ := Lib.hid hq
            clear hq
            by_cases hqn : q = n
            · subst hqn
              go_wp2_with fail
              refine (is_any u _ hl2.out).mono ?_
              rintro e w2 ⟨rfl, hb2⟩
              rw [HIC.out]
              go_wp2_with fail
              refine (size_is u _ _ (hl2.out.below hb2 hl2.out.size) HQ.out).mono ?_
              rintro e w3 ⟨rfl, rfl⟩
              go_wp2_with fail
              go_ret3
              exact ⟨th hb1 (Nat.le_refl _) hb2, by rw [HF2.out hn0 (by have := HTL.out; omega) HCC.out HIC.out HQ.out]; rfl⟩
            · have hne : ((q : Int) != n) = true := by rw [bne_iff_ne]; omega
              have hne2 : ((q : Int) == n) = false := by rw [beq_eq_false_iff_ne]; omega
              have HQN := Lib.hid hqn
              clear hqn
              go_wp2_with fail
              refine (is_any u _ hl2.out).mono ?_
              rintro e w2 ⟨rfl, hb2⟩
              rw [HIC.out]
              go_wp2_with fail
              refine (size_is u _ _ (hl2.out.below hb2 hl2.out.size) HQ.out).mono ?_
              rintro e w3 ⟨rfl, rfl⟩
              go_wp2_with fail
              go_ret3
              exact ⟨th hb1 (Nat.le_refl _) hb2, by rw [HF.out hn0 (by have := HTL.out; omega) HCC.out (by rw [HQ.out]; exact fun h => HQN.out h.2)]; rfl⟩
end Go.Proofs.YtihijgghcecpmaaGreatDoor.U

/- The contracts of utf.walk, for utf.Check's closure, and of utf.Check. -/
namespace Go.Proofs.YtihijgghcecpmaaGreatDoor.U
open Go.RowKit

set_option maxHeartbeats 1000000 in
theorem walk_check (b off len cap : Nat) (zs : List Int) (w : World) (hl : Lay w) (hzl : zs.length = len) (hcap : len ≤ cap) (hb : ∀ z ∈ zs, 0 ≤ z ∧ z ≤ 255)
    (hcell : ∀ i, i < len → w.cell? ⟨b, off + i, none⟩ = some (.int .u8 (zs[i]?.getD 0))) (hlen : len ≤ 140737488351232) (hbw : b < w.heap.size) :
    Calls Tryz.prog 27 #[.slice (some ⟨b, off, none⟩) len cap, .func (.func 28) #[] #[]] w fun e w' => e = .returned (.int .i64 (chkC zs)) ∧ Below w.heap.size w w' := by
  have HL := Lib.hid hl
  have HZ := Lib.hid hzl
  have HB := Lib.hid hb
  have HC := Lib.hid hcell
  clear hl hzl hb hcell
  go_enter Tryz.func27, Tryz.ntmps27
  go_wp2_with fail
  go_step3
  go_wp2_with fail
  go_step3
  go_wp2_with fail
  go_loopw [5] (fun i wr => ∃ p : Nat, p ≤ len ∧ i = .int .i64 p ∧ Hid (p + chkC (zs.drop p) = chkC zs) ∧ Below w.heap.size w wr)
    (fun i _ => len - (intOf i).toNat)
  case atStart => exact ⟨0, by omega, rfl, by unfold Hid; simp, Below.refl _ _⟩
  case round =>
    obtain ⟨p, hp, rfl, hch, hB⟩ := hrel
    have hlay := Lib.hid (HL.out.below hB HL.out.size)
    by_cases hlt : p < len
    · have hc2 : ∀ i, i < len → wr.cell? ⟨b, off + i, none⟩ = some (.int .u8 (zs[i]?.getD 0)) := fun i hi => (hB.cell (p := ⟨b, off + i, none⟩) hbw).trans (HC.out i hi)
      have HC2 := Lib.hid hc2
      clear hc2
      have HBe := Lib.hid hB
      clear hB
      go_wp2_with fail
      refine (decode_in b off len cap p zs _ hlay.out HZ.out hcap HB.out HC2.out hlen hlt).mono ?_
      rintro e w2 ⟨hb2, he⟩
      cases hd : decC (zs.drop p) with
      | none =>
        rw [hd] at he
        subst he
        have HD := Lib.hid (chkC_none hd)
        clear hd
        go_wp2
        rw [Exit.noGoto_ret]
        go_ret
        exact ⟨by have := hch.out; rw [HD.out] at this; rw [← this]; rfl, HBe.out.trans (hb2.mono HBe.out.size)⟩
      | some x =>
        obtain ⟨r, n⟩ := x
        rw [hd] at he
        subst he
        have HS := decC_some hd
        have HD := Lib.hid (chkC_some hd)
        clear hd
        have hln : p + n ≤ len := by
          have h3 := HS.2.2.1
          have h4 := HZ.out
          simp only [List.length_drop] at h3
          omega
        have hn1 := HS.1
        have HSS := Lib.hid HS
        clear HS
        go_wp2
        exact ⟨⟨p + n, by omega, by go_num, by have := hch.out; unfold Hid; rw [HD.out, List.drop_drop] at this; omega, th HBe.out (Nat.le_refl _) hb2⟩, by simp [intOf]; omega⟩
    · obtain rfl : p = len := by omega
      go_wp2
      rw [Exit.noGoto_ret]
      go_ret
      exact ⟨by have := hch.out; rw [List.drop_of_length_le (by have := HZ.out; omega), chkC_nil] at this; rw [← this]; rfl, hB⟩
end Go.Proofs.YtihijgghcecpmaaGreatDoor.U
