/- The contracts of the law's Bytes, where the lists are the same, and of ref.Bytes. -/
import Derived.Test.YtomlmpcjbdkobaaDoorCheck
import Derived.Test.YtomlmpcjbdkobaaDoorPut
namespace Go.Proofs.YtomlmpcjbdkobaaDoor.U
open Go.RowKit

set_option maxHeartbeats 1000000 in
theorem bytes_yes (a b : Option Addr) (len ca cb : Nat) (zs : List Int) (w : World) (ha : Byt w a len ca zs) (hb : Byt w b len cb zs) :
    Calls Tryd.prog 11 #[.slice a len ca, .slice b len cb] w fun e w' => e = .returned (.bool true) ∧ Below w.heap.size w w' := by
  have hlim := ha.lim
  have hne : ((len : Int) != len) = false := by simp
  by_cases h0 : len = 0
  · subst h0
    clear ha hb
    go_enter Tryd.func11, Tryd.ntmps11
    go_wp2_with fail
    refine wp_loop_rounds 1 ?_
    rw [rounds_succ]
    go_wp2
    go_ret
    exact ⟨rfl, Below.refl _ _⟩
  · obtain ⟨b1, o1, rfl, hc1⟩ := ha.cells (by omega)
    obtain ⟨b2, o2, rfl, hc2⟩ := hb.cells (by omega)
    have hw1 : b1 < w.heap.size := by simpa using block_lt_of_cell (hc1 0 (by omega))
    have hw2 : b2 < w.heap.size := by simpa using block_lt_of_cell (hc2 0 (by omega))
    have HC1 := Lib.hid hc1
    have HC2 := Lib.hid hc2
    clear ha hb hc1 hc2
    go_enter Tryd.func11, Tryd.ntmps11
    go_wp2_with fail
    go_loopw [5] (fun i wr => ∃ k : Nat, k ≤ len ∧ i = .int .i64 k ∧ Below w.heap.size w wr)
      (fun i _ => len - (intOf i).toNat)
    case atStart => exact ⟨0, by omega, rfl, Below.refl _ _⟩
    case round =>
      obtain ⟨k, hk, rfl, hB⟩ := hrel
      by_cases hlt : k < len
      · obtain ⟨x, hx⟩ : ∃ x, x = zs[k]?.getD 0 := ⟨_, rfl⟩
        have c1 : wr.cell? ⟨b1, o1 + k, none⟩ = some (.int .u8 x) := by rw [hx]; exact (hB.cell (p := ⟨b1, o1 + k, none⟩) hw1).trans (HC1.out k hlt)
        have c2 : wr.cell? ⟨b2, o2 + k, none⟩ = some (.int .u8 x) := by rw [hx]; exact (hB.cell (p := ⟨b2, o2 + k, none⟩) hw2).trans (HC2.out k hlt)
        have hxx : (x != x) = false := by simp
        have hi0 : (0 : Int) ≤ k := by omega
        have hi1 : (k : Int) < len := by omega
        clear hx
        go_wp2_with fail
        go_quiet (fail)
        go_wp2
        exact ⟨⟨k + 1, by omega, by go_num, below_drewN hB _⟩, by simp [intOf]; omega⟩
      · obtain rfl : k = len := by omega
        go_wp2
        go_ret
        exact ⟨rfl, hB⟩

/-- What ref.Bytes leaves: a character's bytes in a new block. -/
def RefPost (r : Int) (w : World) (e : Ending) (w' : World) : Prop :=
  ∃ g, e = .returned (.slice (some ⟨g, 0, none⟩) (encC r).length (encC r).length) ∧ (∀ j u, ((encC r).map (Value.int .u8))[j]? = some u → w'.cell? ((⟨g, 0, none⟩ : Addr).add j) = some u) ∧ Below w.heap.size w w'

theorem cells_new (w : World) (cs : List Value) (t : TypeId) : ∀ j u, cs[j]? = some u → (w.alloc (.cells cs.toArray t)).cell? ((⟨w.heap.size, 0, none⟩ : Addr).add j) = some u := by
  intro j u hj
  have e : (⟨w.heap.size, 0, none⟩ : Addr).add j = ⟨w.heap.size, j, none⟩ := by unfold Addr.add; split <;> simp_all
  rw [e, World.cell?_alloc_new]
  simpa using hj

set_option maxHeartbeats 1000000 in
theorem refBytes_1 (r : Int) (w : World) (h0 : 9 ≤ r) (h1 : r < 128) : Calls Tryd.prog 10 #[.int .i64 r] w fun e w' => RefPost r w e w' := by
  have HE := Lib.hid (encC_1 h1)
  have hw0 : IntKind.u8.wrap (r) = r := wrap_u8_in _ (by omega) (by omega)
  go_enter Tryd.func10, Tryd.ntmps10
  go_wp2
  go_ret
  exact ⟨w.heap.size, by rw [HE.out]; rfl, by rw [HE.out]; exact cells_new w _ _, (Below.refl _ _).alloc (Nat.le_refl _) _⟩

set_option maxHeartbeats 1000000 in
theorem refBytes_2 (r : Int) (w : World) (h0 : 128 ≤ r) (h1 : r < 2048) : Calls Tryd.prog 10 #[.int .i64 r] w fun e w' => RefPost r w e w' := by
  have HE := Lib.hid (encC_2 h0 h1)
  have hw0 : IntKind.u8.wrap (192 + r / 64) = 192 + r / 64 := wrap_u8_in _ (by omega) (by omega)
  have hw1 : IntKind.u8.wrap (128 + r % 64) = 128 + r % 64 := wrap_u8_in _ (by omega) (by omega)
  go_enter Tryd.func10, Tryd.ntmps10
  go_wp2
  go_ret
  exact ⟨w.heap.size, by rw [HE.out]; rfl, by rw [HE.out]; exact cells_new w _ _, (Below.refl _ _).alloc (Nat.le_refl _) _⟩

set_option maxHeartbeats 1000000 in
theorem refBytes_3 (r : Int) (w : World) (h0 : 2048 ≤ r) (h1 : r < 65536) : Calls Tryd.prog 10 #[.int .i64 r] w fun e w' => RefPost r w e w' := by
  have HE := Lib.hid (encC_3 h0 h1)
  have hw0 : IntKind.u8.wrap (224 + r / 4096) = 224 + r / 4096 := wrap_u8_in _ (by omega) (by omega)
  have hw1 : IntKind.u8.wrap (128 + r / 64 % 64) = 128 + r / 64 % 64 := wrap_u8_in _ (by omega) (by omega)
  have hw2 : IntKind.u8.wrap (128 + r % 64) = 128 + r % 64 := wrap_u8_in _ (by omega) (by omega)
  go_enter Tryd.func10, Tryd.ntmps10
  go_wp2
  go_ret
  exact ⟨w.heap.size, by rw [HE.out]; rfl, by rw [HE.out]; exact cells_new w _ _, (Below.refl _ _).alloc (Nat.le_refl _) _⟩

set_option maxHeartbeats 1000000 in
theorem refBytes_4 (r : Int) (w : World) (h0 : 65536 ≤ r) (h1 : r < 2097152) : Calls Tryd.prog 10 #[.int .i64 r] w fun e w' => RefPost r w e w' := by
  have HE := Lib.hid (encC_4 h0)
  have hw0 : IntKind.u8.wrap (240 + r / 262144) = 240 + r / 262144 := wrap_u8_in _ (by omega) (by omega)
  have hw1 : IntKind.u8.wrap (128 + r / 4096 % 64) = 128 + r / 4096 % 64 := wrap_u8_in _ (by omega) (by omega)
  have hw2 : IntKind.u8.wrap (128 + r / 64 % 64) = 128 + r / 64 % 64 := wrap_u8_in _ (by omega) (by omega)
  have hw3 : IntKind.u8.wrap (128 + r % 64) = 128 + r % 64 := wrap_u8_in _ (by omega) (by omega)
  go_enter Tryd.func10, Tryd.ntmps10
  go_wp2
  go_ret
  exact ⟨w.heap.size, by rw [HE.out]; rfl, by rw [HE.out]; exact cells_new w _ _, (Below.refl _ _).alloc (Nat.le_refl _) _⟩

theorem refBytes_any (r : Int) (w : World) (hr : isC r = true) : Calls Tryd.prog 10 #[.int .i64 r] w fun e w' => RefPost r w e w' := by
  have hb := isC_bounds hr
  by_cases h1 : r < 128
  · exact refBytes_1 r w (by omega) h1
  · by_cases h2 : r < 2048
    · exact refBytes_2 r w (by omega) h2
    · by_cases h3 : r < 65536
      · exact refBytes_3 r w (by omega) h3
      · exact refBytes_4 r w (by omega) (by omega)
end Go.Proofs.YtomlmpcjbdkobaaDoor.U
