/- The contract of ref.All. -/
import Derived.Test.YtcfnmhadihhfaaaDoorRead
import Derived.Test.YtcfnmhadihhfaaaDoorCheck
import Derived.Test.YtcfnmhadihhfaaaDoorEncode
namespace Go.Proofs.YtcfnmhadihhfaaaDoor.U
open Go.RowKit

theorem info3 : (Tryd.prog.info? 3).map (fun i => (i.zero, i.size, i.bytes)) = some (some (.int .i64 0), 1, 8) := by kernel_rfl

/-- What ref.All leaves. -/
def RefAllPost (zs : List Int) (w : World) (e : Ending) (w' : World) : Prop :=
  ∃ v, e = .returned (.tuple #[v, .int .i64 (chkC zs)]) ∧ w'.ownsRow w.heap.size 3 1 v (runesC zs).length ((runesC zs).map (Value.int .i64)) ∧ Below w.heap.size w w'

/-- What has come so far, and what is to come. -/
def Far (zs pre : List Int) (p : Nat) : Prop := pre ++ runesC (zs.drop p) = runesC zs ∧ p + chkC (zs.drop p) = chkC zs

set_option maxHeartbeats 2000000 in
theorem refAll_any (a : Option Addr) (len cap : Nat) (zs : List Int) (w : World) (hz : Byt w a len cap zs) (hlen : len ≤ 1000) :
    Calls Tryd.prog 27 #[.slice a len cap] w fun e w' => RefAllPost zs w e w' := by
  have HZ := Lib.hid hz
  have hcap := hz.leCap
  obtain ⟨i0, hi, hz0, hz1, hz2⟩ := info_parts info3
  obtain ⟨b, off, hab, hcell⟩ : ∃ b off, (0 < len → a = some ⟨b, off, none⟩) ∧ ∀ i, i < len → w.cell? ⟨b, off + i, none⟩ = some (.int .u8 (zs[i]?.getD 0)) := by
    by_cases h0 : 0 < len
    · obtain ⟨b, off, h1, h2⟩ := hz.cells h0
      exact ⟨b, off, fun _ => h1, h2⟩
    · exact ⟨0, 0, fun h => absurd h h0, fun i hi => absurd hi (by omega)⟩
  have hbB : 0 < len → b < w.heap.size := fun h => by have := block_lt_of_cell (hcell 0 h); simpa using this
  have HAB := Lib.hid hab
  have HC := Lib.hid hcell
  clear hz hab hcell
  go_enter Tryd.func27, Tryd.ntmps27
  go_wp2_with fail
  go_loopw [4, 5] (fun v i wr => ∃ (p : Nat) (pre : List Int), p ≤ len ∧ i = .int .i64 p ∧ Far zs pre p ∧ wr.ownsRow w.heap.size 3 1 v pre.length (pre.map (Value.int .i64)) ∧ Below w.heap.size w wr)
    (fun _ i _ => len - (intOf i).toNat)
  case atStart => exact ⟨0, [], by omega, rfl, by simp [Far], World.ownsRow_nil _ _ _ _, Below.refl _ _⟩
  case round =>
    obtain ⟨p, pre, hp, rfl, hfar, hown, hB⟩ := hrel
    by_cases hlt : p < len
    · obtain rfl := HAB.out (by omega)
      have hcp : ¬ cap = p := by omega
      have hc2 : ∀ i, i < len - p → wr.cell? ⟨b, off + p + i, none⟩ = some (.int .u8 ((zs.drop p)[i]?.getD 0)) := fun i hi => by
        rw [List.getElem?_drop, show off + p + i = off + (p + i) by omega]
        exact (hB.cell (p := ⟨b, off + (p + i), none⟩) (hbB (by omega))).trans (HC.out (p + i) (by omega))
      have HC2 := Lib.hid hc2
      have HO := Lib.hid hown
      have HBe := Lib.hid hB
      have hpl : pre.length ≤ 1000 := by
        have h1 := congrArg List.length hfar.1
        rw [List.length_append] at h1
        have h2 := runes_len' zs
        have h3 := HZ.out.eqLen
        omega
      clear hc2 hown hB
      go_wp2_with fail
      refine (read_any b (off + p) (len - p) (cap - p) (zs.drop p) _ (by have := HZ.out.eqLen; simp; omega) (by omega) (fun z hz => HZ.out.byte z (List.mem_of_mem_drop hz)) HC2.out (by omega)).mono ?_
      rintro e w2 ⟨hb2, he⟩
      have HO2 := Lib.hid (own_below HO.out hb2)
      have HB2 := Lib.hid (th HBe.out (Nat.le_refl _) hb2)
      clear hb2
      cases hd : decC (zs.drop p) with
      | none =>
        rw [hd] at he
        subst he
        have h1 := hfar.1
        have h2 := hfar.2
        rw [runesC_none hd, List.append_nil] at h1
        rw [chkC_none hd, Nat.add_zero] at h2
        have H1 := Lib.hid h1
        have H2 := Lib.hid h2
        clear hd h1 h2 hfar
        go_wp2
        go_ret2
        exact ⟨_, by rw [← H2.out]; rfl, by rw [← H1.out]; exact HO2.out, HB2.out⟩
      | some x =>
        obtain ⟨r, n⟩ := x
        rw [hd] at he
        subst he
        have hs := decC_some hd
        have hpn : p + n ≤ len := by
          have h1 := hs.2.2.1
          have h2 := HZ.out.eqLen
          simp only [List.length_drop] at h1
          omega
        have hfar2 : Far zs (pre ++ [r]) (p + n) := by
          have h1 := hfar.1
          have h2 := hfar.2
          rw [runesC_some hd, List.drop_drop] at h1
          rw [chkC_some hd, List.drop_drop] at h2
          exact ⟨by rw [← h1]; simp, by omega⟩
        have hn0 : ((n : Int) == 0) = false := by rw [beq_eq_false_iff_ne]; have := hs.1; omega
        have hn1 := hs.1
        clear hd hs hfar
        go_wp2_with (at_builtin; refine wpList_append_own _ rfl _ _ 46 rfl w.heap.size 3 i0 (.int .i64 0) 1 8 Tryd.underlying46 hi hz0 hz1 hz2 rfl (by decide) _ _ _ rfl (HO2.out.alloc _) ⟨w2.heap.size, 0, none⟩ 1 1 [.int .i64 r] rfl rfl (cell_one_new _ _ _) (by simp [Value.oneCell']) (by unfold maxLen; omega) (by omega) (by have := HB2.out.size; simp; omega) ?_; intro v3 w3 hown3 hgrow3 _)
        have HB3 := Lib.hid ((al HB2.out (Nat.le_refl _) _).grown hgrow3 (by have := HB2.out.size; simp; omega) (fun k e => (HO2.out.lt k e).1))
        have HO3 := Lib.hid (show w3.ownsRow w.heap.size 3 1 v3 (pre ++ [r]).length ((pre ++ [r]).map (Value.int .i64)) by simpa using hown3)
        clear hown3 hgrow3
        go_wp2
        go_roundw
        case rel => exact ⟨p + n, pre ++ [r], hpn, by go_num, hfar2, HO3.out, HB3.out⟩
        case measure => simp [intOf]; omega
    · obtain rfl : p = len := by omega
      have h0 : zs.drop p = [] := List.drop_of_length_le (by have := HZ.out.eqLen; omega)
      have h1 := hfar.1
      have h2 := hfar.2
      rw [h0] at h1 h2
      have H1 := Lib.hid (show pre = runesC zs by simpa [runesC, runesF] using h1)
      have H2 := Lib.hid (show p = chkC zs by simpa [chkC_nil] using h2)
      clear h0 h1 h2 hfar
      go_wp2
      go_ret2
      exact ⟨_, by rw [← H2.out]; rfl, by rw [← H1.out]; exact hown, hB⟩
end Go.Proofs.YtcfnmhadihhfaaaDoor.U
