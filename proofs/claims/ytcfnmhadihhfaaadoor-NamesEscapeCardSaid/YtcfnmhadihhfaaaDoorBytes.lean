/- The contracts of the law's Bytes, where the lists are the same, and of ref.Bytes. -/
import Derived.Test.YtcfnmhadihhfaaaDoorCheck
import Derived.Test.YtcfnmhadihhfaaaDoorPut
namespace Go.Proofs.YtcfnmhadihhfaaaDoor.U
open Go.RowKit

/-- What ref.Bytes leaves: a character's bytes in a new block. -/
def RefPost (r : Int) (w : World) (e : Ending) (w' : World) : Prop :=
  ∃ g, e = .returned (.slice (some ⟨g, 0, none⟩) (encC r).length (encC r).length) ∧ (∀ j u, ((encC r).map (Value.int .u8))[j]? = some u → w'.cell? ((⟨g, 0, none⟩ : Addr).add j) = some u) ∧ Below w.heap.size w w'

theorem cells_new (w : World) (cs : List Value) (t : TypeId) : ∀ j u, cs[j]? = some u → (w.alloc (.cells cs.toArray t)).cell? ((⟨w.heap.size, 0, none⟩ : Addr).add j) = some u := by
  intro j u hj
  have e : (⟨w.heap.size, 0, none⟩ : Addr).add j = ⟨w.heap.size, j, none⟩ := by unfold Addr.add; split <;> simp_all
  rw [e, World.cell?_alloc_new]
  simpa using hj

set_option maxHeartbeats 1000000 in
theorem refBytes_1 (r : Int) (w : World) (h0 : 9 ≤ r) (h1 : r < 128) : Calls Tryd.prog 31 #[.int .i64 r] w fun e w' => RefPost r w e w' := by
  have HE := Lib.hid (encC_1 h1)
  have hw0 : IntKind.u8.wrap (r) = r := wrap_u8_in _ (by omega) (by omega)
  go_enter Tryd.func31, Tryd.ntmps31
  go_wp2
  go_ret
  exact ⟨w.heap.size, by rw [HE.out]; rfl, by rw [HE.out]; exact cells_new w _ _, (Below.refl _ _).alloc (Nat.le_refl _) _⟩

set_option maxHeartbeats 1000000 in
theorem refBytes_2 (r : Int) (w : World) (h0 : 128 ≤ r) (h1 : r < 2048) : Calls Tryd.prog 31 #[.int .i64 r] w fun e w' => RefPost r w e w' := by
  have HE := Lib.hid (encC_2 h0 h1)
  have hw0 : IntKind.u8.wrap (192 + r / 64) = 192 + r / 64 := wrap_u8_in _ (by omega) (by omega)
  have hw1 : IntKind.u8.wrap (128 + r % 64) = 128 + r % 64 := wrap_u8_in _ (by omega) (by omega)
  go_enter Tryd.func31, Tryd.ntmps31
  go_wp2
  go_ret
  exact ⟨w.heap.size, by rw [HE.out]; rfl, by rw [HE.out]; exact cells_new w _ _, (Below.refl _ _).alloc (Nat.le_refl _) _⟩

set_option maxHeartbeats 1000000 in
theorem refBytes_3 (r : Int) (w : World) (h0 : 2048 ≤ r) (h1 : r < 65536) : Calls Tryd.prog 31 #[.int .i64 r] w fun e w' => RefPost r w e w' := by
  have HE := Lib.hid (encC_3 h0 h1)
  have hw0 : IntKind.u8.wrap (224 + r / 4096) = 224 + r / 4096 := wrap_u8_in _ (by omega) (by omega)
  have hw1 : IntKind.u8.wrap (128 + r / 64 % 64) = 128 + r / 64 % 64 := wrap_u8_in _ (by omega) (by omega)
  have hw2 : IntKind.u8.wrap (128 + r % 64) = 128 + r % 64 := wrap_u8_in _ (by omega) (by omega)
  go_enter Tryd.func31, Tryd.ntmps31
  go_wp2
  go_ret
  exact ⟨w.heap.size, by rw [HE.out]; rfl, by rw [HE.out]; exact cells_new w _ _, (Below.refl _ _).alloc (Nat.le_refl _) _⟩

set_option maxHeartbeats 1000000 in
theorem refBytes_4 (r : Int) (w : World) (h0 : 65536 ≤ r) (h1 : r < 2097152) : Calls Tryd.prog 31 #[.int .i64 r] w fun e w' => RefPost r w e w' := by
  have HE := Lib.hid (encC_4 h0)
  have hw0 : IntKind.u8.wrap (240 + r / 262144) = 240 + r / 262144 := wrap_u8_in _ (by omega) (by omega)
  have hw1 : IntKind.u8.wrap (128 + r / 4096 % 64) = 128 + r / 4096 % 64 := wrap_u8_in _ (by omega) (by omega)
  have hw2 : IntKind.u8.wrap (128 + r / 64 % 64) = 128 + r / 64 % 64 := wrap_u8_in _ (by omega) (by omega)
  have hw3 : IntKind.u8.wrap (128 + r % 64) = 128 + r % 64 := wrap_u8_in _ (by omega) (by omega)
  go_enter Tryd.func31, Tryd.ntmps31
  go_wp2
  go_ret
  exact ⟨w.heap.size, by rw [HE.out]; rfl, by rw [HE.out]; exact cells_new w _ _, (Below.refl _ _).alloc (Nat.le_refl _) _⟩

theorem refBytes_any (r : Int) (w : World) (hr : isC r = true) : Calls Tryd.prog 31 #[.int .i64 r] w fun e w' => RefPost r w e w' := by
  have hb := isC_bounds hr
  by_cases h1 : r < 128
  · exact refBytes_1 r w (by omega) h1
  · by_cases h2 : r < 2048
    · exact refBytes_2 r w (by omega) h2
    · by_cases h3 : r < 65536
      · exact refBytes_3 r w (by omega) h3
      · exact refBytes_4 r w (by omega) (by omega)
end Go.Proofs.YtcfnmhadihhfaaaDoor.U
