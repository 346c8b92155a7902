/- The contract of utf.Decode. -/
import Derived.Test.YtcfnmhadihhfaaaDoorEncode
import Derived.Test.YtcfnmhadihhfaaaDoorBegin
import Derived.Test.YtcfnmhadihhfaaaDoorDec
namespace Go.Proofs.YtcfnmhadihhfaaaDoor.U
open Go.RowKit

/-- What Decode leaves. -/
def DecPost (x : Option (Int × Nat)) (w : World) (e : Ending) (w' : World) : Prop :=
  Below w.heap.size w w' ∧ match x with
    | some (r, n) => e = .returned (.tuple #[.int .i32 r, .int .i64 n, .int .i64 0])
    | none => e = .returned (.tuple #[.int .i32 0, .int .i64 0, .int .i64 10])

set_option maxHeartbeats 1000000 in
theorem decode_out (a : Option Addr) (len cap : Nat) (i : Int) (w : World) (hi : i < 0 ∨ (len : Int) ≤ i) :
    Calls Tryd.prog 50 #[.slice a len cap, .int .i64 i] w fun e w' => e = .returned (.tuple #[.int .i32 0, .int .i64 0, .int .i64 1]) ∧ w = w' := by
  by_cases h : i < 0
  · clear hi
    go_enter Tryd.func50, Tryd.ntmps50
    go_wp2
    go_ret3
    exact ⟨rfl, rfl⟩
  · have h2 : (len : Int) ≤ i := by omega
    have h3 : 0 ≤ i := by omega
    clear hi h
    go_enter Tryd.func50, Tryd.ntmps50
    go_wp2
    go_ret3
    exact ⟨rfl, rfl⟩

set_option maxHeartbeats 1000000 in
theorem decode_in (b off len cap p : Nat) (zs : List Int) (w : World) (hl : Lay w) (hzl : zs.length = len) (hcap : len ≤ cap) (hb : ∀ z ∈ zs, 0 ≤ z ∧ z ≤ 255)
    (hcell : ∀ i, i < len → w.cell? ⟨b, off + i, none⟩ = some (.int .u8 (zs[i]?.getD 0))) (hlen : len ≤ 140737488351232) (hp : p < len) :
    Calls Tryd.prog 50 #[.slice (some ⟨b, off, none⟩) len cap, .int .i64 p] w fun e w' => DecPost (decC (zs.drop p)) w e w' := by
  obtain ⟨c, t, hdrop⟩ : ∃ c t, zs.drop p = c :: t := by
    cases h : zs.drop p with
    | nil => exact absurd (List.drop_eq_nil_iff.1 h) (by omega)
    | cons c t => exact ⟨c, t, rfl⟩
  have hc : zs[p]?.getD 0 = c := by
    have : (zs.drop p)[0]? = some c := by rw [hdrop]; rfl
    rw [List.getElem?_drop] at this
    simpa using congrArg (fun x => x.getD 0) this
  have hcm : c ∈ zs := List.mem_of_mem_drop (i := p) (by rw [hdrop]; simp)
  obtain ⟨hc0, hc1⟩ := hb c hcm
  have hcl : w.cell? ⟨b, off + p, none⟩ = some (.int .u8 c) := by rw [← hc]; exact hcell p hp
  have hbw : b < w.heap.size := block_lt_of_cell hcl
  have htl : t.length + 1 + p = len := by
    have := congrArg List.length hdrop
    simp only [List.length_drop, List.length_cons] at this
    omega
  have ht : ∀ i, i < t.length → w.cell? ⟨b, off + (p + 1) + i, none⟩ = some (.int .u8 (t[i]?.getD 0)) := by
    intro i hi
    have e : t[i]? = zs[p + 1 + i]? := by
      have : (zs.drop p)[i + 1]? = t[i]? := by rw [hdrop]; rfl
      rw [← this, List.getElem?_drop]
      congr 1; omega
    rw [e, show off + (p + 1) + i = off + (p + 1 + i) by omega]
    exact hcell _ (by omega)
  have htb : ∀ z ∈ t, 0 ≤ z ∧ z ≤ 255 := fun z hz => hb z (List.mem_of_mem_drop (i := p) (by rw [hdrop]; simp [hz]))
  rw [hdrop]
  have HL := Lib.hid hl
  have HT := Lib.hid ht
  have HTB := Lib.hid htb
  have HTL := Lib.hid htl
  have hn4 := begN_le c
  have hbv := begV_bounds c hc0
  clear hc hdrop hcm hb hcell hzl hl ht htb htl
  obtain ⟨n, hn⟩ : ∃ n, begN c = n := ⟨_, rfl⟩
  obtain ⟨v, hv⟩ : ∃ v, begV c = v := ⟨_, rfl⟩
  have HN := Lib.hid hn
  have HV := Lib.hid hv
  rw [hn] at hn4 hbv
  rw [hv] at hbv
  clear hn hv
  by_cases hbad : n = 0 ∨ len - p < n
  · have HD := Lib.hid (dec_bad (c := c) (t := t) (by rw [HN.out]; have := HTL.out; omega))
    by_cases hn0 : n = 0
    · subst hn0
      go_enter Tryd.func50, Tryd.ntmps50
      go_wp2_with fail
      refine (begin_any c _ HL.out hc0 hc1).mono ?_
      rintro e w1 ⟨rfl, hb1⟩
      rw [HN.out, HV.out]
      go_wp2_with fail
      go_ret3
      exact ⟨hb1, by rw [HD.out]; rfl⟩
    · have hz : ((n : Int) == 0) = false := by simp; omega
      have hlt : (len : Int) - p < n := by omega
      clear hbad hn0
      go_enter Tryd.func50, Tryd.ntmps50
      go_wp2_with fail
      refine (begin_any c _ HL.out hc0 hc1).mono ?_
      rintro e w1 ⟨rfl, hb1⟩
      rw [HN.out, HV.out]
      go_wp2_with fail
      go_ret3
      exact ⟨hb1, by rw [HD.out]; rfl⟩
  · have hn0 : 1 ≤ n := by omega
    have hnl : p + n ≤ len := by omega
    clear hbad
    go_enter Tryd.func50, Tryd.ntmps50
    go_wp2_with fail
    refine (begin_any c _ HL.out hc0 hc1).mono ?_
    rintro e w1 ⟨rfl, hb1⟩
    rw [HN.out, HV.out]
    have hz : ((n : Int) == 0) = false := by simp; omega
    by_cases h1 : n = 1
    · subst h1
      have HCC := Lib.hid (show contC v (t.take (1 - 1)) = some v from rfl)
      obtain ⟨u, hu⟩ : ∃ u, u = v := ⟨_, rfl⟩
      rw [← hu] at HCC
      subst hu
      have d1 : decide ((p : Int) < 0) = false := by simp
      have d2 : decide ((len : Int) - p < (1 : Nat)) = false := by simp; omega
      by_cases hcp : cap = p + 1
      all_goals
        go_wp2_with fail
        refine wp_loop_rounds 1 ?_
        rw [rounds_succ]
        have hl2 := Lib.hid (HL.out.below hb1 HL.out.size)
        have hfin := @dec_not c t u
        have hfin2 := @dec_yes c t u
        rw [HN.out, HV.out] at hfin hfin2
        have HF := Lib.hid hfin
        have HF2 := Lib.hid hfin2
        clear hfin hfin2
        cases hic : isC u with
        | false =>
          have HIC := Lib.hid hic
          clear hic
          go_wp2_with fail
          refine (is_any u _ hl2.out).mono ?_
          rintro e w2 ⟨rfl, hb2⟩
          rw [HIC.out]
          go_wp2_with fail
          go_ret3
          exact ⟨th hb1 (Nat.le_refl _) hb2, by rw [HF.out hn0 (by have := HTL.out; omega) HCC.out (by rw [HIC.out]; simp)]; rfl⟩
        | true =>
          have HIC := Lib.hid hic
          clear hic
          obtain ⟨q, hq⟩ : ∃ q, sizeC u = q := ⟨_, rfl⟩
          have HQ := Lib.hid hq
          clear hq
          by_cases hqn : q = 1
          · subst hqn
            go_wp2_with fail
            refine (is_any u _ hl2.out).mono ?_
            rintro e w2 ⟨rfl, hb2⟩
            rw [HIC.out]
            go_wp2_with fail
            refine (size_is u _ _ (hl2.out.below hb2 hl2.out.size) HQ.out).mono ?_
            rintro e w3 ⟨rfl, rfl⟩
            go_wp2_with fail
            go_ret3
            exact ⟨th hb1 (Nat.le_refl _) hb2, by rw [HF2.out hn0 (by have := HTL.out; omega) HCC.out HIC.out HQ.out]; rfl⟩
          · have hne : ((q : Int) != 1) = true := by rw [bne_iff_ne]; omega
            have hne2 : ((q : Int) == 1) = false := by rw [beq_eq_false_iff_ne]; omega
            have HQN := Lib.hid hqn
            clear hqn
            go_wp2_with fail
            refine (is_any u _ hl2.out).mono ?_
            rintro e w2 ⟨rfl, hb2⟩
            rw [HIC.out]
            go_wp2_with fail
            refine (size_is u _ _ (hl2.out.below hb2 hl2.out.size) HQ.out).mono ?_
            rintro e w3 ⟨rfl, rfl⟩
            go_wp2_with fail
            go_ret3
            exact ⟨th hb1 (Nat.le_refl _) hb2, by rw [HF.out hn0 (by have := HTL.out; omega) HCC.out (by rw [HQ.out]; exact fun h => HQN.out h.2)]; rfl⟩
    · have h2 : 2 ≤ n := by omega
      have hcp : ¬ cap = p + 1 := by omega
      have d1 : decide ((p : Int) < 0) = false := by simp
      have d2 : decide ((len : Int) - p < n) = false := by simp; omega
      have hv2 : v < 32 := hbv.2.2 h2
      have hv0 := hbv.1
      clear hbv h1
      go_wp2_with fail
      go_loop [7, 45] (fun r i => ∃ (k : Nat) (u : Int), k ≤ n - 1 ∧ i = .int .i64 k ∧ r = .int .i32 u ∧ contC v (t.take k) = some u ∧ 0 ≤ u ∧ Hid ((k ≤ 0 → u < 32) ∧ (k ≤ 1 → u < 2048) ∧ (k ≤ 2 → u < 131072) ∧ u < 8388608))
        (fun _ i => n - 1 - (intOf i).toNat)
      case atStart => exact ⟨0, v, by omega, rfl, rfl, rfl, hv0, by unfold Hid; omega⟩
      case round =>
        obtain ⟨k, u, hk, rfl, rfl, hcc, hu0, hub⟩ := hrel
        have HCC := Lib.hid hcc
        clear hcc
        by_cases hlt : k < n - 1
        · have hkt : k < t.length := by have := HTL.out; omega
          have hcx : w1.cell? ⟨b, off + (p + 1) + k, none⟩ = some (.int .u8 (t[k]?.getD 0)) := (hb1.cell (p := ⟨b, off + (p + 1) + k, none⟩) hbw).trans (HT.out k hkt)
          have hxm : t[k]?.getD 0 ∈ t := by rw [List.getElem?_eq_getElem hkt]; exact List.getElem_mem hkt
          obtain ⟨hx0, hx1⟩ := HTB.out _ hxm
          have HKT := Lib.hid hkt
          have hu1 : u < 131072 := by have := hub.out; omega
          obtain ⟨x, hx⟩ : ∃ x, x = t[k]?.getD 0 := ⟨_, rfl⟩
          rw [← hx] at hcx hx0 hx1
          have HX := Lib.hid hx
          clear hx hxm hkt
          have ha := andNot63 x hx0 (by omega)
          by_cases hin : 128 ≤ x ∧ x < 192
          · have hy : bits BinOp.andNot IntKind.u8 x 63 = 128 := by omega
            have hz2 := and63 x hx0 (by omega)
            have ho := or_i32 u (x % 64) hu0 (by omega) (by omega) (by omega)
            clear ha
            go_wp2_with fail
            exact ⟨⟨k + 1, _, by omega, by go_num, rfl, contC_next HCC.out HKT.out HX.out hin, by omega, by have h := hub.out; clear hy hz2 ho; unfold Hid; omega⟩, by simp [intOf]; omega⟩
          · have hy : ((x - x % 64 : Int) != 128) = true := by rw [bne_iff_ne]; omega
            have hy2 : ((x - x % 64 : Int) == 128) = false := by rw [beq_eq_false_iff_ne]; omega
            have hfin := @dec_cont c t
            rw [HN.out, HV.out] at hfin
            have HD := Lib.hid (hfin hn0 (by have := HTL.out; omega) (contC_stop HCC.out HKT.out hlt HX.out hin))
            clear hfin hin
            go_wp2_with fail
            go_ret3
            exact ⟨hb1, by rw [HD.out]; rfl⟩
        · obtain rfl : k = n - 1 := by omega
          have hl2 := Lib.hid (HL.out.below hb1 HL.out.size)
          have hfin := @dec_not c t u
          have hfin2 := @dec_yes c t u
          rw [HN.out, HV.out] at hfin hfin2
          have HF := Lib.hid hfin
          have HF2 := Lib.hid hfin2
          clear hfin hfin2
          cases hic : isC u with
          | false =>
            have HIC := Lib.hid hic
            clear hic
            go_wp2_with fail
            refine (is_any u _ hl2.out).mono ?_
            rintro e w2 ⟨rfl, hb2⟩
            rw [HIC.out]
            go_wp2_with fail
            go_ret3
            exact ⟨th hb1 (Nat.le_refl _) hb2, by rw [HF.out hn0 (by have := HTL.out; omega) HCC.out (by rw [HIC.out]; simp)]; rfl⟩
          | true =>
            have HIC := Lib.hid hic
            clear hic
            obtain ⟨q, hq⟩ : ∃ q, sizeC u = q := ⟨_, rfl⟩
            have HQ := Lib.hid hq
            clear hq
            by_cases hqn : q = n
            · subst hqn
              go_wp2_with fail
              refine (is_any u _ hl2.out).mono ?_
              rintro e w2 ⟨rfl, hb2⟩
              rw [HIC.out]
              go_wp2_with fail
              refine (size_is u _ _ (hl2.out.below hb2 hl2.out.size) HQ.out).mono ?_
              rintro e w3 ⟨rfl, rfl⟩
              go_wp2_with fail
              go_ret3
              exact ⟨th hb1 (Nat.le_refl _) hb2, by rw [HF2.out hn0 (by have := HTL.out; omega) HCC.out HIC.out HQ.out]; rfl⟩
            · have hne : ((q : Int) != n) = true := by rw [bne_iff_ne]; omega
              have hne2 : ((q : Int) == n) = false := by rw [beq_eq_false_iff_ne]; omega
              have HQN := Lib.hid hqn
              clear hqn
              go_wp2_with fail
              refine (is_any u _ hl2.out).mono ?_
              rintro e w2 ⟨rfl, hb2⟩
              rw [HIC.out]
              go_wp2_with fail
              refine (size_is u _ _ (hl2.out.below hb2 hl2.out.size) HQ.out).mono ?_
              rintro e w3 ⟨rfl, rfl⟩
              go_wp2_with fail
              go_ret3
              exact ⟨th hb1 (Nat.le_refl _) hb2, by rw [HF.out hn0 (by have := HTL.out; omega) HCC.out (by rw [HQ.out]; exact fun h => HQN.out h.2)]; rfl⟩
end Go.Proofs.YtcfnmhadihhfaaaDoor.U
