/- The contract of Text. -/
import Derived.Test.YtnaimmhdpjggmaaMr
import Derived.Test.YtnaimmhdpjggmaaMl
import Derived.Test.YtnaimmhdpjggmaaRx7
namespace Go.Proofs.Ytnaimmhdpjggmaa.U
open Go.RowKit

set_option maxHeartbeats 8000000 in
set_option maxRecDepth 20000 in
theorem txt_none {l : List Nd} {w : World} {v : Value} {rb : Nat} (hv : NR w v l) (hc : w.cell? ⟨rb, 0, none⟩ = some v)
    (k : Nat) (W : World) (tb : Nat) (hk : k < l.length) (hb : Below w.heap.size w W) (hx : l[k]? = some ⟨0, [], 0, 0⟩) :
    Calls Try.prog 33 (#[.int .i64 (k : Int), .slice (some ⟨tb, 0, none⟩) l.length l.length] ++ #[.pointer (some ⟨rb, 0, none⟩)]) W fun r w' => r = .returned (eS (txtT l k (upA (txtT l) k))) ∧ Below W.heap.size W w' := by
  obtain ⟨a, c, rfl, h2, h3, h4⟩ := (hv.th hb (Nat.le_refl _)).at
  obtain ⟨g, o, rfl, k1, k2, k3, k4⟩ := h4 k _ hx
  have hnd := nd_at hx
  have hc1 := up_cell hb (Nat.le_refl _) hc
  obtain ⟨W2, hW2⟩ : ∃ W2, W2 = (W.alloc (.cells #[.slice (some ⟨tb, 0, none⟩) l.length l.length] 25)).alloc (.cells #[.int .i64 0, .string ⟨#[]⟩, .int .i64 0, .int .i64 0] 45) := ⟨_, rfl⟩
  have hbw : Below W.heap.size W W2 := by rw [hW2]; exact ((Below.refl _ W).alloc (Nat.le_refl _) _).alloc (by simp) _
  have HBW := Lib.hid hbw
  have hwt : WR W2 W.heap.size 25 [.slice (some ⟨tb, 0, none⟩) l.length l.length] := by rw [hW2]; exact (WR.new W 25 [.slice (some ⟨tb, 0, none⟩) l.length l.length]).alloc _
  obtain ⟨nb, hnb⟩ : ∃ nb, nb = W.heap.size + 1 := ⟨_, rfl⟩
  have hwn : WR W2 nb 45 (ndC ⟨0, [], 0, 0⟩) := by
    rw [hW2, hnb]
    have h9 := WR.new (W.alloc (.cells #[.slice (some ⟨tb, 0, none⟩) l.length l.length] 25)) 45 (ndC ⟨0, [], 0, 0⟩)
    rw [show (W.alloc (.cells #[.slice (some ⟨tb, 0, none⟩) l.length l.length] 25)).heap.size = W.heap.size + 1 by simp] at h9
    exact h9
  have hi0 : (0 : Int) ≤ k := by omega
  have hi1 : (k : Int) < l.length := by omega
  have HV : Hid (txtT l k (upA (txtT l) k) = [33]) := Lib.hid (by rw [txtT, hnd]; simp)
  have hc1s := cell_al (.cells #[.slice (some ⟨tb, 0, none⟩) l.length l.length] 25) hc1
  have k1s := cell_al (.cells #[.slice (some ⟨tb, 0, none⟩) l.length l.length] 25) k1
  have k2s := cell_al (.cells #[.slice (some ⟨tb, 0, none⟩) l.length l.length] 25) k2
  have k3s := cell_al (.cells #[.slice (some ⟨tb, 0, none⟩) l.length l.length] 25) k3
  have k4s := cell_al (.cells #[.slice (some ⟨tb, 0, none⟩) l.length l.length] 25) k4
  have HW2 := Lib.hid hW2
  clear hv hc h2 h3 h4 hx hnd hb hbw hwt hwn hnb hW2 k1 k2 k3 k4
  show Calls Try.prog 33 #[.int .i64 (k : Int), .slice (some ⟨tb, 0, none⟩) l.length l.length, .pointer (some ⟨rb, 0, none⟩)] W _
  go_enter Try.func33, Try.ntmps33
  go_wp2_with fail
  rw [← HW2.out]
  go_ret
  exact ⟨by rw [HV.out]; rfl, HBW.out⟩
set_option maxHeartbeats 8000000 in
set_option maxRecDepth 20000 in
theorem txt_empty {l : List Nd} {w : World} {v : Value} {rb : Nat} (hv : NR w v l) (hc : w.cell? ⟨rb, 0, none⟩ = some v)
    (k : Nat) (W : World) (tb : Nat) (hk : k < l.length) (hb : Below w.heap.size w W) (hx : l[k]? = some ⟨1, [], 0, 0⟩) :
    Calls Try.prog 33 (#[.int .i64 (k : Int), .slice (some ⟨tb, 0, none⟩) l.length l.length] ++ #[.pointer (some ⟨rb, 0, none⟩)]) W fun r w' => r = .returned (eS (txtT l k (upA (txtT l) k))) ∧ Below W.heap.size W w' := by
  obtain ⟨a, c, rfl, h2, h3, h4⟩ := (hv.th hb (Nat.le_refl _)).at
  obtain ⟨g, o, rfl, k1, k2, k3, k4⟩ := h4 k _ hx
  have hnd := nd_at hx
  have hc1 := up_cell hb (Nat.le_refl _) hc
  obtain ⟨W2, hW2⟩ : ∃ W2, W2 = (W.alloc (.cells #[.slice (some ⟨tb, 0, none⟩) l.length l.length] 25)).alloc (.cells #[.int .i64 1, .string ⟨#[]⟩, .int .i64 0, .int .i64 0] 45) := ⟨_, rfl⟩
  have hbw : Below W.heap.size W W2 := by rw [hW2]; exact ((Below.refl _ W).alloc (Nat.le_refl _) _).alloc (by simp) _
  have HBW := Lib.hid hbw
  have hwt : WR W2 W.heap.size 25 [.slice (some ⟨tb, 0, none⟩) l.length l.length] := by rw [hW2]; exact (WR.new W 25 [.slice (some ⟨tb, 0, none⟩) l.length l.length]).alloc _
  obtain ⟨nb, hnb⟩ : ∃ nb, nb = W.heap.size + 1 := ⟨_, rfl⟩
  have hwn : WR W2 nb 45 (ndC ⟨1, [], 0, 0⟩) := by
    rw [hW2, hnb]
    have h9 := WR.new (W.alloc (.cells #[.slice (some ⟨tb, 0, none⟩) l.length l.length] 25)) 45 (ndC ⟨1, [], 0, 0⟩)
    rw [show (W.alloc (.cells #[.slice (some ⟨tb, 0, none⟩) l.length l.length] 25)).heap.size = W.heap.size + 1 by simp] at h9
    exact h9
  have hi0 : (0 : Int) ≤ k := by omega
  have hi1 : (k : Int) < l.length := by omega
  have HV : Hid (txtT l k (upA (txtT l) k) = [40, 41]) := Lib.hid (by rw [txtT, hnd]; simp)
  have hc1s := cell_al (.cells #[.slice (some ⟨tb, 0, none⟩) l.length l.length] 25) hc1
  have k1s := cell_al (.cells #[.slice (some ⟨tb, 0, none⟩) l.length l.length] 25) k1
  have k2s := cell_al (.cells #[.slice (some ⟨tb, 0, none⟩) l.length l.length] 25) k2
  have k3s := cell_al (.cells #[.slice (some ⟨tb, 0, none⟩) l.length l.length] 25) k3
  have k4s := cell_al (.cells #[.slice (some ⟨tb, 0, none⟩) l.length l.length] 25) k4
  have HW2 := Lib.hid hW2
  clear hv hc h2 h3 h4 hx hnd hb hbw hwt hwn hnb hW2 k1 k2 k3 k4
  show Calls Try.prog 33 #[.int .i64 (k : Int), .slice (some ⟨tb, 0, none⟩) l.length l.length, .pointer (some ⟨rb, 0, none⟩)] W _
  go_enter Try.func33, Try.ntmps33
  go_wp2_with fail
  rw [← HW2.out]
  go_ret
  exact ⟨by rw [HV.out]; rfl, HBW.out⟩
set_option maxHeartbeats 8000000 in
set_option maxRecDepth 20000 in
theorem txt_sym {l : List Nd} {w : World} {v : Value} {rb : Nat} (hv : NR w v l) (hc : w.cell? ⟨rb, 0, none⟩ = some v)
    (k : Nat) (W : World) (tb : Nat) (hk : k < l.length) (hb : Below w.heap.size w W) {s : Wd} (hx : l[k]? = some ⟨2, s, 0, 0⟩) :
    Calls Try.prog 33 (#[.int .i64 (k : Int), .slice (some ⟨tb, 0, none⟩) l.length l.length] ++ #[.pointer (some ⟨rb, 0, none⟩)]) W fun r w' => r = .returned (eS (txtT l k (upA (txtT l) k))) ∧ Below W.heap.size W w' := by
  obtain ⟨a, c, rfl, h2, h3, h4⟩ := (hv.th hb (Nat.le_refl _)).at
  obtain ⟨g, o, rfl, k1, k2, k3, k4⟩ := h4 k _ hx
  have hnd := nd_at hx
  have hc1 := up_cell hb (Nat.le_refl _) hc
  obtain ⟨W2, hW2⟩ : ∃ W2, W2 = (W.alloc (.cells #[.slice (some ⟨tb, 0, none⟩) l.length l.length] 25)).alloc (.cells #[.int .i64 2, .string ⟨s.toArray⟩, .int .i64 0, .int .i64 0] 45) := ⟨_, rfl⟩
  have hbw : Below W.heap.size W W2 := by rw [hW2]; exact ((Below.refl _ W).alloc (Nat.le_refl _) _).alloc (by simp) _
  have HBW := Lib.hid hbw
  have hwt : WR W2 W.heap.size 25 [.slice (some ⟨tb, 0, none⟩) l.length l.length] := by rw [hW2]; exact (WR.new W 25 [.slice (some ⟨tb, 0, none⟩) l.length l.length]).alloc _
  obtain ⟨nb, hnb⟩ : ∃ nb, nb = W.heap.size + 1 := ⟨_, rfl⟩
  have hwn : WR W2 nb 45 (ndC ⟨2, s, 0, 0⟩) := by
    rw [hW2, hnb]
    have h9 := WR.new (W.alloc (.cells #[.slice (some ⟨tb, 0, none⟩) l.length l.length] 25)) 45 (ndC ⟨2, s, 0, 0⟩)
    rw [show (W.alloc (.cells #[.slice (some ⟨tb, 0, none⟩) l.length l.length] 25)).heap.size = W.heap.size + 1 by simp] at h9
    exact h9
  have hi0 : (0 : Int) ≤ k := by omega
  have hi1 : (k : Int) < l.length := by omega
  have HV : Hid (txtT l k (upA (txtT l) k) = s) := Lib.hid (by rw [txtT, hnd]; simp)
  have hc1s := cell_al (.cells #[.slice (some ⟨tb, 0, none⟩) l.length l.length] 25) hc1
  have k1s := cell_al (.cells #[.slice (some ⟨tb, 0, none⟩) l.length l.length] 25) k1
  have k2s := cell_al (.cells #[.slice (some ⟨tb, 0, none⟩) l.length l.length] 25) k2
  have k3s := cell_al (.cells #[.slice (some ⟨tb, 0, none⟩) l.length l.length] 25) k3
  have k4s := cell_al (.cells #[.slice (some ⟨tb, 0, none⟩) l.length l.length] 25) k4
  have HW2 := Lib.hid hW2
  clear hv hc h2 h3 h4 hx hnd hb hbw hwt hwn hnb hW2 k1 k2 k3 k4
  show Calls Try.prog 33 #[.int .i64 (k : Int), .slice (some ⟨tb, 0, none⟩) l.length l.length, .pointer (some ⟨rb, 0, none⟩)] W _
  go_enter Try.func33, Try.ntmps33
  go_wp2_with fail
  rw [← HW2.out]
  go_ret
  exact ⟨by rw [HV.out]; rfl, HBW.out⟩
set_option maxHeartbeats 8000000 in
set_option maxRecDepth 20000 in
theorem txt_cat {l : List Nd} (hf : formB l = true) (hnm : namesB l = true) (hl : l.length ≤ 1024) {w : World} {v : Value} {rb : Nat} (hv : NR w v l) (hc : w.cell? ⟨rb, 0, none⟩ = some v)
    (k : Nat) (W : World) (tb : Nat) (hk : k < l.length) (hb : Below w.heap.size w W) (htold : ∀ j x, (upA (txtT l) k)[j]? = some x → W.cell? ⟨tb, j, none⟩ = some (eS x)) {pa pb : Nat} (hpa : pa < k) (hpb : pb < k) (hx : l[k]? = some ⟨3, [], (pa : Int), (pb : Int)⟩) :
    Calls Try.prog 33 (#[.int .i64 (k : Int), .slice (some ⟨tb, 0, none⟩) l.length l.length] ++ #[.pointer (some ⟨rb, 0, none⟩)]) W fun r w' => r = .returned (eS (txtT l k (upA (txtT l) k))) ∧ Below W.heap.size W w' := by
  obtain ⟨a, c, rfl, h2, h3, h4⟩ := (hv.th hb (Nat.le_refl _)).at
  obtain ⟨g, o, rfl, k1, k2, k3, k4⟩ := h4 k _ hx
  have hnd := nd_at hx
  have hc1 := up_cell hb (Nat.le_refl _) hc
  obtain ⟨W2, hW2⟩ : ∃ W2, W2 = (W.alloc (.cells #[.slice (some ⟨tb, 0, none⟩) l.length l.length] 25)).alloc (.cells #[.int .i64 3, .string ⟨#[]⟩, .int .i64 (pa : Int), .int .i64 (pb : Int)] 45) := ⟨_, rfl⟩
  have hbw : Below W.heap.size W W2 := by rw [hW2]; exact ((Below.refl _ W).alloc (Nat.le_refl _) _).alloc (by simp) _
  have HBW := Lib.hid hbw
  have hwt : WR W2 W.heap.size 25 [.slice (some ⟨tb, 0, none⟩) l.length l.length] := by rw [hW2]; exact (WR.new W 25 [.slice (some ⟨tb, 0, none⟩) l.length l.length]).alloc _
  obtain ⟨nb, hnb⟩ : ∃ nb, nb = W.heap.size + 1 := ⟨_, rfl⟩
  have hwn : WR W2 nb 45 (ndC ⟨3, [], (pa : Int), (pb : Int)⟩) := by
    rw [hW2, hnb]
    have h9 := WR.new (W.alloc (.cells #[.slice (some ⟨tb, 0, none⟩) l.length l.length] 25)) 45 (ndC ⟨3, [], (pa : Int), (pb : Int)⟩)
    rw [show (W.alloc (.cells #[.slice (some ⟨tb, 0, none⟩) l.length l.length] 25)).heap.size = W.heap.size + 1 by simp] at h9
    exact h9
  have hi0 : (0 : Int) ≤ k := by omega
  have hi1 : (k : Int) < l.length := by omega
  have HPA : Hid (∀ (p : Nat) (shut : List Int) (W' : World), p < k → Below W2.heap.size W2 W' → ∀ sv, VR eI W' sv shut → Calls Try.prog 34 #[.int .i64 (p : Int), sv, .pointer (some ⟨rb, 0, none⟩), .pointer (some ⟨W.heap.size, 0, none⟩)] W' fun e w' => e = .returned (.string ⟨(partT l (upA (txtT l) k) (p : Nat) shut).toArray⟩) ∧ Below W'.heap.size W' w') := Lib.hid (fun p shut W' hp hb' sv hsv => by
    have h9 := part_any p sv _ shut l (told (upA (txtT l) k) (p : Nat)) rb W.heap.size tb l.length W' (by omega) rfl hsv (up_cell hb' (Nat.le_refl _) (up_cell hbw (Nat.le_refl _) hc1)) ((hv.th hb (Nat.le_refl _)).below hbw |>.below hb') (up_cell hb' (Nat.le_refl _) (hwt.cell rfl))
      (up_cell hb' (Nat.le_refl _) (up_cell hbw (Nat.le_refl _) (htold p _ (by unfold told; rw [List.getD_eq_getElem?_getD, Int.toNat_natCast, List.getElem?_eq_getElem (by rw [upA_len]; exact hp)]; rfl)))) (told_len hf hnm hl hp (Nat.le_of_lt hk))
    exact h9)
  have hlen : ∀ (p : Nat) (shut : List Int), p < k → (partT l (upA (txtT l) k) (p : Nat) shut).length ≤ 100002 := fun p shut hp => by
    have h8 := told_len hf hnm hl hp (Nat.le_of_lt hk)
    have h9 := par_len (shut.contains (nd l (p : Int).toNat).op) (told (upA (txtT l) k) (p : Nat))
    unfold partT; omega
  obtain ⟨x1, hx1⟩ : ∃ x, x = partT l (upA (txtT l) k) (pa : Nat) [4] := ⟨_, rfl⟩
  obtain ⟨x2, hx2⟩ : ∃ x, x = partT l (upA (txtT l) k) (pb : Nat) [3, 4] := ⟨_, rfl⟩
  have l1 : x1.length ≤ 100002 := by rw [hx1]; exact hlen _ _ hpa
  have l2 : x2.length ≤ 100002 := by rw [hx2]; exact hlen _ _ hpb
  have ha1 := add_any x1 [44] (by omega) (by simp)
  obtain ⟨z1, hz1⟩ : ∃ z, z = x1 ++ [44] := ⟨_, rfl⟩
  have lz1 : z1.length ≤ 100003 := by rw [hz1, List.length_append]; simp; omega
  have ha2 := add_any z1 x2 (by omega) (by omega)
  obtain ⟨z2, hz2⟩ : ∃ z, z = z1 ++ x2 := ⟨_, rfl⟩
  rw [← hz1] at ha1
  rw [← hz2] at ha2
  have ha1' : ∀ W, (Op.stringOp .add ⟨x1.toArray⟩ ⟨#[44]⟩).run Try.prog W = .ok (.string ⟨z1.toArray⟩) W := ha1
  have HP1 := Lib.hid (fun (W' : World) (hb' : Below W2.heap.size W2 W') => HPA.out pa [4] W' hpa hb')
  have HP2 := Lib.hid (fun (W' : World) (hb' : Below W2.heap.size W2 W') => HPA.out pb [3, 4] W' hpb hb')
  rw [← hx1] at HP1
  rw [← hx2] at HP2
  have HVAL : Hid (txtT l k (upA (txtT l) k) = z2) := Lib.hid (by rw [txtT, hnd, hz2, hz1, hx1, hx2]; simp)
  have q2 : W2.cell? ⟨nb, 2, none⟩ = some (.int .i64 (pa : Int)) := hwn.cell rfl
  have q3 : W2.cell? ⟨nb, 3, none⟩ = some (.int .i64 (pb : Int)) := hwn.cell rfl
  have KP : Hid (∀ W', Below W2.heap.size W2 W' → W'.cell? ⟨nb, 2, none⟩ = some (.int .i64 (pa : Int)) ∧ W'.cell? ⟨nb, 3, none⟩ = some (.int .i64 (pb : Int)) ∧ Hid (Below W2.heap.size W2 W')) := Lib.hid (fun W' hb => ⟨up_cell hb (Nat.le_refl _) q2, up_cell hb (Nat.le_refl _) q3, Lib.hid hb⟩)
  have hc1s := cell_al (.cells #[.slice (some ⟨tb, 0, none⟩) l.length l.length] 25) hc1
  have k1s := cell_al (.cells #[.slice (some ⟨tb, 0, none⟩) l.length l.length] 25) k1
  have k2s := cell_al (.cells #[.slice (some ⟨tb, 0, none⟩) l.length l.length] 25) k2
  have k3s := cell_al (.cells #[.slice (some ⟨tb, 0, none⟩) l.length l.length] 25) k3
  have k4s := cell_al (.cells #[.slice (some ⟨tb, 0, none⟩) l.length l.length] 25) k4
  have HW2 := Lib.hid hW2
  have HNB := Lib.hid hnb
  clear htold hf hnm hl hv hc h2 h3 h4 hx hnd hb hbw hwt hwn hW2 k1 k2 k3 k4 hnb hlen l1 l2 lz1 ha1 hx1 hx2 hz1 hz2 q2 q3 hpa hpb HPA
  show Calls Try.prog 33 #[.int .i64 (k : Int), .slice (some ⟨tb, 0, none⟩) l.length l.length, .pointer (some ⟨rb, 0, none⟩)] W _
  go_enter Try.func33, Try.ntmps33
  go_wp2_with fail
  rw [← HW2.out, ← HNB.out]
  refine wp_region_held_drew (S := (fun W' => W'.cell? ⟨nb, 2, none⟩ = some (.int .i64 (pa : Int)) ∧ W'.cell? ⟨nb, 3, none⟩ = some (.int .i64 (pb : Int)) ∧ Hid (Below W2.heap.size W2 W'))) (by kernel_rfl) ?_ (fun hHeld => ?_)
  · (try dsimp only)
    exact KP.out _ (below_draw _)
  obtain ⟨Wd, hWd⟩ : ∃ Wd, Wd = W2.drew := ⟨_, rfl⟩
  rw [← hWd] at hHeld ⊢
  clear hWd
  refine wpAnyH_take (i := 0) (oi := { dst := some 24, op := Op.move (Operand.tmp 6), type := 65, pos := "text.go:143", after := #[], guard := none }) (v := ?rv1) rfl (by kernel_rfl) (by kernel_rfl) (by kernel_rfl) (fun _ _ _ h => h) (Or.inl ⟨by rfl, ?rhy1⟩) (by assumption) ?rrest1
  case rhy1 => (intro w hSw; (try dsimp only at hSw); first | (go_simp; done) | (go_simp; with_reducible rfl))
  case rrest1 =>
  try simp only [Act.put, List.setIfInBounds_toArray, List.set_cons_zero, List.set_cons_succ]
  refine wpAnyH_take (i := 1) (oi := { dst := some 25, op := Op.fieldAddr 45 (Operand.tmp 7) 2, type := 0, pos := "text.go:143", after := #[], guard := none }) (v := ?rv2) rfl (by kernel_rfl) (by kernel_rfl) (by kernel_rfl) (fun _ _ _ h => h) (Or.inl ⟨by rfl, ?rhy2⟩) (by assumption) ?rrest2
  case rhy2 => (intro w hSw; (try dsimp only at hSw); first | (go_simp; done) | (go_simp; with_reducible rfl))
  case rrest2 =>
  try simp only [Act.put, List.setIfInBounds_toArray, List.set_cons_zero, List.set_cons_succ]
  refine wpAnyH_take (i := 2) (oi := { dst := some 26, op := Op.load 3 (Operand.tmp 25), type := 3, pos := "text.go:143", after := #[{ on := 1, ground := Ground.data }], guard := none }) (v := ?rv3) rfl (by kernel_rfl) (by kernel_rfl) (by kernel_rfl) (fun _ _ _ h => h) (Or.inl ⟨by rfl, ?rhy3⟩) (by assumption) ?rrest3
  case rhy3 => (intro w hSw; (try dsimp only at hSw); first | (go_simp; done) | (go_simp; with_reducible rfl))
  case rrest3 =>
  try simp only [Act.put, List.setIfInBounds_toArray, List.set_cons_zero, List.set_cons_succ]
  refine wpAnyH_take (i := 6) (oi := { dst := some 30, op := Op.move (Operand.tmp 6), type := 65, pos := "text.go:143", after := #[], guard := none }) (v := ?rv4) rfl (by kernel_rfl) (by kernel_rfl) (by kernel_rfl) (fun _ _ _ h => h) (Or.inl ⟨by rfl, ?rhy4⟩) (by assumption) ?rrest4
  case rhy4 => (intro w hSw; (try dsimp only at hSw); first | (go_simp; done) | (go_simp; with_reducible rfl))
  case rrest4 =>
  try simp only [Act.put, List.setIfInBounds_toArray, List.set_cons_zero, List.set_cons_succ]
  refine wpAnyH_take (i := 7) (oi := { dst := some 31, op := Op.fieldAddr 45 (Operand.tmp 7) 3, type := 0, pos := "text.go:143", after := #[], guard := none }) (v := ?rv5) rfl (by kernel_rfl) (by kernel_rfl) (by kernel_rfl) (fun _ _ _ h => h) (Or.inl ⟨by rfl, ?rhy5⟩) (by assumption) ?rrest5
  case rhy5 => (intro w hSw; (try dsimp only at hSw); first | (go_simp; done) | (go_simp; with_reducible rfl))
  case rrest5 =>
  try simp only [Act.put, List.setIfInBounds_toArray, List.set_cons_zero, List.set_cons_succ]
  refine wpAnyH_take (i := 8) (oi := { dst := some 32, op := Op.load 3 (Operand.tmp 31), type := 3, pos := "text.go:143", after := #[{ on := 7, ground := Ground.data }], guard := none }) (v := ?rv6) rfl (by kernel_rfl) (by kernel_rfl) (by kernel_rfl) (fun _ _ _ h => h) (Or.inl ⟨by rfl, ?rhy6⟩) (by assumption) ?rrest6
  case rhy6 => (intro w hSw; (try dsimp only at hSw); first | (go_simp; done) | (go_simp; with_reducible rfl))
  case rrest6 =>
  try simp only [Act.put, List.setIfInBounds_toArray, List.set_cons_zero, List.set_cons_succ]
  refine wpAnyH_ready (rs := [3, 9]) (by kernel_rfl) (by simp) ?_
  refine AllReadyH.cons (o := { dst := some 27, op := Op.buildSlice 47 1 #[(0, Operand.const (Value.int IntKind.i64 4))], type := 47, pos := "text.go:143", after := #[], guard := none }) rfl (fun K hK => ?_) (AllReadyH.cons (o := { dst := some 33, op := Op.buildSlice 47 2 #[(0, Operand.const (Value.int IntKind.i64 3)), (1, Operand.const (Value.int IntKind.i64 4))], type := 47, pos := "text.go:143", after := #[], guard := none }) rfl (fun K hK => ?_) AllReadyH.nil)
  · go_simp
    obtain ⟨wb1, hwb1⟩ : ∃ W7, W7 = World.alloc Wd (.cells #[.int .i64 4] 3) := ⟨_, rfl⟩
    rw [← hwb1]
    have bwb1 : Below (World.heap Wd).size Wd wb1 := by rw [hwb1]; exact (Below.refl _ _).alloc (Nat.le_refl _) _
    have HV3 := Lib.hid (show VR eI wb1 (.slice (some ⟨(World.heap Wd).size, 0, none⟩) 1 1) [4] by
      rw [hwb1]
      have h9 := (WR.new Wd 3 [.int .i64 4]).row (e := eI) (l := [4]) (by simp)
      exact h9)
    refine hK.out _ _ ?_ (fun hHeld => ?_)
    · (try dsimp only)
      exact KP.out _ (th hHeld.2.2.out (Nat.le_refl _) bwb1)
    clear hK K hwb1 bwb1
    try simp only [Act.put, List.setIfInBounds_toArray, List.set_cons_zero, List.set_cons_succ]
    refine wpAnyH_ready (rs := [4, 9]) (by kernel_rfl) (by simp) ?_
    refine AllReadyH.cons (o := { dst := some 28, op := Op.call { callee := Callee.value (Operand.tmp 24), args := #[Operand.tmp 26, Operand.tmp 27], argTypes := #[3, 47] }, type := 9, pos := "text.go:143", after := #[{ on := 0, ground := Ground.data }, { on := 2, ground := Ground.data }, { on := 3, ground := Ground.data }], guard := none }) rfl (fun K hK => ?_) (AllReadyH.cons (o := { dst := some 33, op := Op.buildSlice 47 2 #[(0, Operand.const (Value.int IntKind.i64 3)), (1, Operand.const (Value.int IntKind.i64 4))], type := 47, pos := "text.go:143", after := #[], guard := none }) rfl (fun K hK => ?_) AllReadyH.nil)
    · go_simp
      refine (HP1.out _ hHeld.2.2.out _ HV3.out).mono ?_
      rintro e wc2 ⟨rfl, bwc2⟩
      go_wp2_with fail
      refine hK.out _ _ ?_ (fun hHeld => ?_)
      · (try dsimp only)
        exact KP.out _ (th hHeld.2.2.out (Nat.le_refl _) bwc2)
      clear hK K bwc2
      try simp only [Act.put, List.setIfInBounds_toArray, List.set_cons_zero, List.set_cons_succ]
      refine wpAnyH_take (i := 5) (oi := { dst := some 29, op := Op.binOp BinOp.add 9 (Operand.tmp 28) (Operand.const (Value.string { data := #[44] })) 9, type := 9, pos := "text.go:143", after := #[{ on := 4, ground := Ground.data }], guard := none }) (v := ?rv7) rfl (by kernel_rfl) (by kernel_rfl) (by kernel_rfl) (fun _ _ _ h => h) (Or.inl ⟨by rfl, ?rhy7⟩) (by assumption) ?rrest7
      case rhy7 => (intro w hSw; (try dsimp only at hSw); first | (go_simp; done) | (go_simp; with_reducible rfl))
      case rrest7 =>
      try simp only [Act.put, List.setIfInBounds_toArray, List.set_cons_zero, List.set_cons_succ]
      refine wpAnyH_ready (rs := [9]) (by kernel_rfl) (by simp) ?_
      refine AllReadyH.cons (o := { dst := some 33, op := Op.buildSlice 47 2 #[(0, Operand.const (Value.int IntKind.i64 3)), (1, Operand.const (Value.int IntKind.i64 4))], type := 47, pos := "text.go:143", after := #[], guard := none }) rfl (fun K hK => ?_) AllReadyH.nil
      go_simp
      obtain ⟨wb3, hwb3⟩ : ∃ W7, W7 = World.alloc wc2 (.cells #[.int .i64 3, .int .i64 4] 3) := ⟨_, rfl⟩
      rw [← hwb3]
      have bwb3 : Below (World.heap wc2).size wc2 wb3 := by rw [hwb3]; exact (Below.refl _ _).alloc (Nat.le_refl _) _
      have HV9 := Lib.hid (show VR eI wb3 (.slice (some ⟨(World.heap wc2).size, 0, none⟩) 2 2) [3, 4] by
        rw [hwb3]
        have h9 := (WR.new wc2 3 [.int .i64 3, .int .i64 4]).row (e := eI) (l := [3, 4]) (by simp)
        exact h9)
      refine hK.out _ _ ?_ (fun hHeld => ?_)
      · (try dsimp only)
        exact KP.out _ (th hHeld.2.2.out (Nat.le_refl _) bwb3)
      clear hK K hwb3 bwb3
      try simp only [Act.put, List.setIfInBounds_toArray, List.set_cons_zero, List.set_cons_succ]
      refine wpAnyH_ready (rs := [10]) (by kernel_rfl) (by simp) ?_
      refine AllReadyH.cons (o := { dst := some 34, op := Op.call { callee := Callee.value (Operand.tmp 30), args := #[Operand.tmp 32, Operand.tmp 33], argTypes := #[3, 47] }, type := 9, pos := "text.go:143", after := #[{ on := 6, ground := Ground.data }, { on := 8, ground := Ground.data }, { on := 9, ground := Ground.data }, { on := 4, ground := Ground.chain }], guard := none }) rfl (fun K hK => ?_) AllReadyH.nil
      go_simp
      refine (HP2.out _ hHeld.2.2.out _ HV9.out).mono ?_
      rintro e wc4 ⟨rfl, bwc4⟩
      go_wp2_with fail
      refine hK.out _ _ ?_ (fun hHeld => ?_)
      · (try dsimp only)
        exact KP.out _ (th hHeld.2.2.out (Nat.le_refl _) bwc4)
      clear hK K bwc4
      try simp only [Act.put, List.setIfInBounds_toArray, List.set_cons_zero, List.set_cons_succ]
      refine wpAnyH_take (i := 11) (oi := { dst := some 35, op := Op.binOp BinOp.add 9 (Operand.tmp 29) (Operand.tmp 34) 9, type := 9, pos := "text.go:143", after := #[{ on := 5, ground := Ground.data }, { on := 10, ground := Ground.data }], guard := none }) (v := ?rv8) rfl (by kernel_rfl) (by kernel_rfl) (by kernel_rfl) (fun _ _ _ h => h) (Or.inl ⟨by rfl, ?rhy8⟩) (by assumption) ?rrest8
      case rhy8 => (intro w hSw; (try dsimp only at hSw); first | (go_simp; done) | (go_simp; with_reducible rfl))
      case rrest8 =>
      try simp only [Act.put, List.setIfInBounds_toArray, List.set_cons_zero, List.set_cons_succ]
      refine wpAnyH_take (i := 12) (oi := { dst := some 5, op := Op.assign (Operand.tmp 35), type := 9, pos := "text.go:143", after := #[{ on := 11, ground := Ground.data }, { on := 10, ground := Ground.chain }, { on := 0, ground := Ground.phase }, { on := 1, ground := Ground.phase }, { on := 2, ground := Ground.phase }, { on := 3, ground := Ground.phase }, { on := 4, ground := Ground.phase }, { on := 5, ground := Ground.phase }, { on := 6, ground := Ground.phase }, { on := 7, ground := Ground.phase }, { on := 8, ground := Ground.phase }, { on := 9, ground := Ground.phase }, { on := 10, ground := Ground.phase }, { on := 11, ground := Ground.phase }], guard := none }) (v := ?rv9) rfl (by kernel_rfl) (by kernel_rfl) (by kernel_rfl) (fun _ _ _ h => h) (Or.inl ⟨by rfl, ?rhy9⟩) (by assumption) ?rrest9
      case rhy9 => (intro w hSw; (try dsimp only at hSw); first | (go_simp; done) | (go_simp; with_reducible rfl))
      case rrest9 =>
      try simp only [Act.put, List.setIfInBounds_toArray, List.set_cons_zero, List.set_cons_succ]
      refine wpAnyH_done (by kernel_rfl) ?_ _
      have HB9 := Lib.hid (th HBW.out (Nat.le_refl _) hHeld.2.2.out)
      clear hHeld
      go_wp2_with fail
      go_ret
      exact ⟨by rw [HVAL.out]; rfl, HB9.out⟩
    · go_simp
      obtain ⟨wb5, hwb5⟩ : ∃ W7, W7 = World.alloc wb1 (.cells #[.int .i64 3, .int .i64 4] 3) := ⟨_, rfl⟩
      rw [← hwb5]
      have bwb5 : Below (World.heap wb1).size wb1 wb5 := by rw [hwb5]; exact (Below.refl _ _).alloc (Nat.le_refl _) _
      have HV9 := Lib.hid (show VR eI wb5 (.slice (some ⟨(World.heap wb1).size, 0, none⟩) 2 2) [3, 4] by
        rw [hwb5]
        have h9 := (WR.new wb1 3 [.int .i64 3, .int .i64 4]).row (e := eI) (l := [3, 4]) (by simp)
        exact h9)
      have HV3 := Lib.hid (HV3.out.below bwb5)
      refine hK.out _ _ ?_ (fun hHeld => ?_)
      · (try dsimp only)
        exact KP.out _ (th hHeld.2.2.out (Nat.le_refl _) bwb5)
      clear hK K hwb5 bwb5
      try simp only [Act.put, List.setIfInBounds_toArray, List.set_cons_zero, List.set_cons_succ]
      refine wpAnyH_ready (rs := [4]) (by kernel_rfl) (by simp) ?_
      refine AllReadyH.cons (o := { dst := some 28, op := Op.call { callee := Callee.value (Operand.tmp 24), args := #[Operand.tmp 26, Operand.tmp 27], argTypes := #[3, 47] }, type := 9, pos := "text.go:143", after := #[{ on := 0, ground := Ground.data }, { on := 2, ground := Ground.data }, { on := 3, ground := Ground.data }], guard := none }) rfl (fun K hK => ?_) AllReadyH.nil
      go_simp
      refine (HP1.out _ hHeld.2.2.out _ HV3.out).mono ?_
      rintro e wc6 ⟨rfl, bwc6⟩
      have HV9 := Lib.hid (HV9.out.below bwc6)
      go_wp2_with fail
      refine hK.out _ _ ?_ (fun hHeld => ?_)
      · (try dsimp only)
        exact KP.out _ (th hHeld.2.2.out (Nat.le_refl _) bwc6)
      clear hK K bwc6
      try simp only [Act.put, List.setIfInBounds_toArray, List.set_cons_zero, List.set_cons_succ]
      refine wpAnyH_take (i := 5) (oi := { dst := some 29, op := Op.binOp BinOp.add 9 (Operand.tmp 28) (Operand.const (Value.string { data := #[44] })) 9, type := 9, pos := "text.go:143", after := #[{ on := 4, ground := Ground.data }], guard := none }) (v := ?rv10) rfl (by kernel_rfl) (by kernel_rfl) (by kernel_rfl) (fun _ _ _ h => h) (Or.inl ⟨by rfl, ?rhy10⟩) (by assumption) ?rrest10
      case rhy10 => (intro w hSw; (try dsimp only at hSw); first | (go_simp; done) | (go_simp; with_reducible rfl))
      case rrest10 =>
      try simp only [Act.put, List.setIfInBounds_toArray, List.set_cons_zero, List.set_cons_succ]
      refine wpAnyH_ready (rs := [10]) (by kernel_rfl) (by simp) ?_
      refine AllReadyH.cons (o := { dst := some 34, op := Op.call { callee := Callee.value (Operand.tmp 30), args := #[Operand.tmp 32, Operand.tmp 33], argTypes := #[3, 47] }, type := 9, pos := "text.go:143", after := #[{ on := 6, ground := Ground.data }, { on := 8, ground := Ground.data }, { on := 9, ground := Ground.data }, { on := 4, ground := Ground.chain }], guard := none }) rfl (fun K hK => ?_) AllReadyH.nil
      go_simp
      refine (HP2.out _ hHeld.2.2.out _ HV9.out).mono ?_
      rintro e wc7 ⟨rfl, bwc7⟩
      go_wp2_with fail
      refine hK.out _ _ ?_ (fun hHeld => ?_)
      · (try dsimp only)
        exact KP.out _ (th hHeld.2.2.out (Nat.le_refl _) bwc7)
      clear hK K bwc7
      try simp only [Act.put, List.setIfInBounds_toArray, List.set_cons_zero, List.set_cons_succ]
      refine wpAnyH_take (i := 11) (oi := { dst := some 35, op := Op.binOp BinOp.add 9 (Operand.tmp 29) (Operand.tmp 34) 9, type := 9, pos := "text.go:143", after := #[{ on := 5, ground := Ground.data }, { on := 10, ground := Ground.data }], guard := none }) (v := ?rv11) rfl (by kernel_rfl) (by kernel_rfl) (by kernel_rfl) (fun _ _ _ h => h) (Or.inl ⟨by rfl, ?rhy11⟩) (by assumption) ?rrest11
      case rhy11 => (intro w hSw; (try dsimp only at hSw); first | (go_simp; done) | (go_simp; with_reducible rfl))
      case rrest11 =>
      try simp only [Act.put, List.setIfInBounds_toArray, List.set_cons_zero, List.set_cons_succ]
      refine wpAnyH_take (i := 12) (oi := { dst := some 5, op := Op.assign (Operand.tmp 35), type := 9, pos := "text.go:143", after := #[{ on := 11, ground := Ground.data }, { on := 10, ground := Ground.chain }, { on := 0, ground := Ground.phase }, { on := 1, ground := Ground.phase }, { on := 2, ground := Ground.phase }, { on := 3, ground := Ground.phase }, { on := 4, ground := Ground.phase }, { on := 5, ground := Ground.phase }, { on := 6, ground := Ground.phase }, { on := 7, ground := Ground.phase }, { on := 8, ground := Ground.phase }, { on := 9, ground := Ground.phase }, { on := 10, ground := Ground.phase }, { on := 11, ground := Ground.phase }], guard := none }) (v := ?rv12) rfl (by kernel_rfl) (by kernel_rfl) (by kernel_rfl) (fun _ _ _ h => h) (Or.inl ⟨by rfl, ?rhy12⟩) (by assumption) ?rrest12
      case rhy12 => (intro w hSw; (try dsimp only at hSw); first | (go_simp; done) | (go_simp; with_reducible rfl))
      case rrest12 =>
      try simp only [Act.put, List.setIfInBounds_toArray, List.set_cons_zero, List.set_cons_succ]
      refine wpAnyH_done (by kernel_rfl) ?_ _
      have HB9 := Lib.hid (th HBW.out (Nat.le_refl _) hHeld.2.2.out)
      clear hHeld
      go_wp2_with fail
      go_ret
      exact ⟨by rw [HVAL.out]; rfl, HB9.out⟩
  · go_simp
    obtain ⟨wb8, hwb8⟩ : ∃ W7, W7 = World.alloc Wd (.cells #[.int .i64 3, .int .i64 4] 3) := ⟨_, rfl⟩
    rw [← hwb8]
    have bwb8 : Below (World.heap Wd).size Wd wb8 := by rw [hwb8]; exact (Below.refl _ _).alloc (Nat.le_refl _) _
    have HV9 := Lib.hid (show VR eI wb8 (.slice (some ⟨(World.heap Wd).size, 0, none⟩) 2 2) [3, 4] by
      rw [hwb8]
      have h9 := (WR.new Wd 3 [.int .i64 3, .int .i64 4]).row (e := eI) (l := [3, 4]) (by simp)
      exact h9)
    refine hK.out _ _ ?_ (fun hHeld => ?_)
    · (try dsimp only)
      exact KP.out _ (th hHeld.2.2.out (Nat.le_refl _) bwb8)
    clear hK K hwb8 bwb8
    try simp only [Act.put, List.setIfInBounds_toArray, List.set_cons_zero, List.set_cons_succ]
    refine wpAnyH_ready (rs := [3]) (by kernel_rfl) (by simp) ?_
    refine AllReadyH.cons (o := { dst := some 27, op := Op.buildSlice 47 1 #[(0, Operand.const (Value.int IntKind.i64 4))], type := 47, pos := "text.go:143", after := #[], guard := none }) rfl (fun K hK => ?_) AllReadyH.nil
    go_simp
    obtain ⟨wb9, hwb9⟩ : ∃ W7, W7 = World.alloc wb8 (.cells #[.int .i64 4] 3) := ⟨_, rfl⟩
    rw [← hwb9]
    have bwb9 : Below (World.heap wb8).size wb8 wb9 := by rw [hwb9]; exact (Below.refl _ _).alloc (Nat.le_refl _) _
    have HV3 := Lib.hid (show VR eI wb9 (.slice (some ⟨(World.heap wb8).size, 0, none⟩) 1 1) [4] by
      rw [hwb9]
      have h9 := (WR.new wb8 3 [.int .i64 4]).row (e := eI) (l := [4]) (by simp)
      exact h9)
    have HV9 := Lib.hid (HV9.out.below bwb9)
    refine hK.out _ _ ?_ (fun hHeld => ?_)
    · (try dsimp only)
      exact KP.out _ (th hHeld.2.2.out (Nat.le_refl _) bwb9)
    clear hK K hwb9 bwb9
    try simp only [Act.put, List.setIfInBounds_toArray, List.set_cons_zero, List.set_cons_succ]
    refine wpAnyH_ready (rs := [4]) (by kernel_rfl) (by simp) ?_
    refine AllReadyH.cons (o := { dst := some 28, op := Op.call { callee := Callee.value (Operand.tmp 24), args := #[Operand.tmp 26, Operand.tmp 27], argTypes := #[3, 47] }, type := 9, pos := "text.go:143", after := #[{ on := 0, ground := Ground.data }, { on := 2, ground := Ground.data }, { on := 3, ground := Ground.data }], guard := none }) rfl (fun K hK => ?_) AllReadyH.nil
    go_simp
    refine (HP1.out _ hHeld.2.2.out _ HV3.out).mono ?_
    rintro e wc10 ⟨rfl, bwc10⟩
    have HV9 := Lib.hid (HV9.out.below bwc10)
    go_wp2_with fail
    refine hK.out _ _ ?_ (fun hHeld => ?_)
    · (try dsimp only)
      exact KP.out _ (th hHeld.2.2.out (Nat.le_refl _) bwc10)
    clear hK K bwc10
    try simp only [Act.put, List.setIfInBounds_toArray, List.set_cons_zero, List.set_cons_succ]
    refine wpAnyH_take (i := 5) (oi := { dst := some 29, op := Op.binOp BinOp.add 9 (Operand.tmp 28) (Operand.const (Value.string { data := #[44] })) 9, type := 9, pos := "text.go:143", after := #[{ on := 4, ground := Ground.data }], guard := none }) (v := ?rv13) rfl (by kernel_rfl) (by kernel_rfl) (by kernel_rfl) (fun _ _ _ h => h) (Or.inl ⟨by rfl, ?rhy13⟩) (by assumption) ?rrest13
    case rhy13 => (intro w hSw; (try dsimp only at hSw); first | (go_simp; done) | (go_simp; with_reducible rfl))
    case rrest13 =>
    try simp only [Act.put, List.setIfInBounds_toArray, List.set_cons_zero, List.set_cons_succ]
    refine wpAnyH_ready (rs := [10]) (by kernel_rfl) (by simp) ?_
    refine AllReadyH.cons (o := { dst := some 34, op := Op.call { callee := Callee.value (Operand.tmp 30), args := #[Operand.tmp 32, Operand.tmp 33], argTypes := #[3, 47] }, type := 9, pos := "text.go:143", after := #[{ on := 6, ground := Ground.data }, { on := 8, ground := Ground.data }, { on := 9, ground := Ground.data }, { on := 4, ground := Ground.chain }], guard := none }) rfl (fun K hK => ?_) AllReadyH.nil
    go_simp
    refine (HP2.out _ hHeld.2.2.out _ HV9.out).mono ?_
    rintro e wc11 ⟨rfl, bwc11⟩
    go_wp2_with fail
    refine hK.out _ _ ?_ (fun hHeld => ?_)
    · (try dsimp only)
      exact KP.out _ (th hHeld.2.2.out (Nat.le_refl _) bwc11)
    clear hK K bwc11
    try simp only [Act.put, List.setIfInBounds_toArray, List.set_cons_zero, List.set_cons_succ]
    refine wpAnyH_take (i := 11) (oi := { dst := some 35, op := Op.binOp BinOp.add 9 (Operand.tmp 29) (Operand.tmp 34) 9, type := 9, pos := "text.go:143", after := #[{ on := 5, ground := Ground.data }, { on := 10, ground := Ground.data }], guard := none }) (v := ?rv14) rfl (by kernel_rfl) (by kernel_rfl) (by kernel_rfl) (fun _ _ _ h => h) (Or.inl ⟨by rfl, ?rhy14⟩) (by assumption) ?rrest14
    case rhy14 => (intro w hSw; (try dsimp only at hSw); first | (go_simp; done) | (go_simp; with_reducible rfl))
    case rrest14 =>
    try simp only [Act.put, List.setIfInBounds_toArray, List.set_cons_zero, List.set_cons_succ]
    refine wpAnyH_take (i := 12) (oi := { dst := some 5, op := Op.assign (Operand.tmp 35), type := 9, pos := "text.go:143", after := #[{ on := 11, ground := Ground.data }, { on := 10, ground := Ground.chain }, { on := 0, ground := Ground.phase }, { on := 1, ground := Ground.phase }, { on := 2, ground := Ground.phase }, { on := 3, ground := Ground.phase }, { on := 4, ground := Ground.phase }, { on := 5, ground := Ground.phase }, { on := 6, ground := Ground.phase }, { on := 7, ground := Ground.phase }, { on := 8, ground := Ground.phase }, { on := 9, ground := Ground.phase }, { on := 10, ground := Ground.phase }, { on := 11, ground := Ground.phase }], guard := none }) (v := ?rv15) rfl (by kernel_rfl) (by kernel_rfl) (by kernel_rfl) (fun _ _ _ h => h) (Or.inl ⟨by rfl, ?rhy15⟩) (by assumption) ?rrest15
    case rhy15 => (intro w hSw; (try dsimp only at hSw); first | (go_simp; done) | (go_simp; with_reducible rfl))
    case rrest15 =>
    try simp only [Act.put, List.setIfInBounds_toArray, List.set_cons_zero, List.set_cons_succ]
    refine wpAnyH_done (by kernel_rfl) ?_ _
    have HB9 := Lib.hid (th HBW.out (Nat.le_refl _) hHeld.2.2.out)
    clear hHeld
    go_wp2_with fail
    go_ret
    exact ⟨by rw [HVAL.out]; rfl, HB9.out⟩
set_option maxHeartbeats 8000000 in
set_option maxRecDepth 20000 in
theorem txt_alt {l : List Nd} (hf : formB l = true) (hnm : namesB l = true) (hl : l.length ≤ 1024) {w : World} {v : Value} {rb : Nat} (hv : NR w v l) (hc : w.cell? ⟨rb, 0, none⟩ = some v)
    (k : Nat) (W : World) (tb : Nat) (hk : k < l.length) (hb : Below w.heap.size w W) (htold : ∀ j x, (upA (txtT l) k)[j]? = some x → W.cell? ⟨tb, j, none⟩ = some (eS x)) {pa pb : Nat} (hpa : pa < k) (hpb : pb < k) (hx : l[k]? = some ⟨4, [], (pa : Int), (pb : Int)⟩) :
    Calls Try.prog 33 (#[.int .i64 (k : Int), .slice (some ⟨tb, 0, none⟩) l.length l.length] ++ #[.pointer (some ⟨rb, 0, none⟩)]) W fun r w' => r = .returned (eS (txtT l k (upA (txtT l) k))) ∧ Below W.heap.size W w' := by
  obtain ⟨a, c, rfl, h2, h3, h4⟩ := (hv.th hb (Nat.le_refl _)).at
  obtain ⟨g, o, rfl, k1, k2, k3, k4⟩ := h4 k _ hx
  have hnd := nd_at hx
  have hc1 := up_cell hb (Nat.le_refl _) hc
  obtain ⟨W2, hW2⟩ : ∃ W2, W2 = (W.alloc (.cells #[.slice (some ⟨tb, 0, none⟩) l.length l.length] 25)).alloc (.cells #[.int .i64 4, .string ⟨#[]⟩, .int .i64 (pa : Int), .int .i64 (pb : Int)] 45) := ⟨_, rfl⟩
  have hbw : Below W.heap.size W W2 := by rw [hW2]; exact ((Below.refl _ W).alloc (Nat.le_refl _) _).alloc (by simp) _
  have HBW := Lib.hid hbw
  have hwt : WR W2 W.heap.size 25 [.slice (some ⟨tb, 0, none⟩) l.length l.length] := by rw [hW2]; exact (WR.new W 25 [.slice (some ⟨tb, 0, none⟩) l.length l.length]).alloc _
  obtain ⟨nb, hnb⟩ : ∃ nb, nb = W.heap.size + 1 := ⟨_, rfl⟩
  have hwn : WR W2 nb 45 (ndC ⟨4, [], (pa : Int), (pb : Int)⟩) := by
    rw [hW2, hnb]
    have h9 := WR.new (W.alloc (.cells #[.slice (some ⟨tb, 0, none⟩) l.length l.length] 25)) 45 (ndC ⟨4, [], (pa : Int), (pb : Int)⟩)
    rw [show (W.alloc (.cells #[.slice (some ⟨tb, 0, none⟩) l.length l.length] 25)).heap.size = W.heap.size + 1 by simp] at h9
    exact h9
  have hi0 : (0 : Int) ≤ k := by omega
  have hi1 : (k : Int) < l.length := by omega
  have HPA : Hid (∀ (p : Nat) (shut : List Int) (W' : World), p < k → Below W2.heap.size W2 W' → ∀ sv, VR eI W' sv shut → Calls Try.prog 34 #[.int .i64 (p : Int), sv, .pointer (some ⟨rb, 0, none⟩), .pointer (some ⟨W.heap.size, 0, none⟩)] W' fun e w' => e = .returned (.string ⟨(partT l (upA (txtT l) k) (p : Nat) shut).toArray⟩) ∧ Below W'.heap.size W' w') := Lib.hid (fun p shut W' hp hb' sv hsv => by
    have h9 := part_any p sv _ shut l (told (upA (txtT l) k) (p : Nat)) rb W.heap.size tb l.length W' (by omega) rfl hsv (up_cell hb' (Nat.le_refl _) (up_cell hbw (Nat.le_refl _) hc1)) ((hv.th hb (Nat.le_refl _)).below hbw |>.below hb') (up_cell hb' (Nat.le_refl _) (hwt.cell rfl))
      (up_cell hb' (Nat.le_refl _) (up_cell hbw (Nat.le_refl _) (htold p _ (by unfold told; rw [List.getD_eq_getElem?_getD, Int.toNat_natCast, List.getElem?_eq_getElem (by rw [upA_len]; exact hp)]; rfl)))) (told_len hf hnm hl hp (Nat.le_of_lt hk))
    exact h9)
  have hlen : ∀ (p : Nat) (shut : List Int), p < k → (partT l (upA (txtT l) k) (p : Nat) shut).length ≤ 100002 := fun p shut hp => by
    have h8 := told_len hf hnm hl hp (Nat.le_of_lt hk)
    have h9 := par_len (shut.contains (nd l (p : Int).toNat).op) (told (upA (txtT l) k) (p : Nat))
    unfold partT; omega
  obtain ⟨x1, hx1⟩ : ∃ x, x = partT l (upA (txtT l) k) (pa : Nat) [] := ⟨_, rfl⟩
  obtain ⟨x2, hx2⟩ : ∃ x, x = partT l (upA (txtT l) k) (pb : Nat) [4] := ⟨_, rfl⟩
  have l1 : x1.length ≤ 100002 := by rw [hx1]; exact hlen _ _ hpa
  have l2 : x2.length ≤ 100002 := by rw [hx2]; exact hlen _ _ hpb
  have ha1 := add_any x1 [124] (by omega) (by simp)
  obtain ⟨z1, hz1⟩ : ∃ z, z = x1 ++ [124] := ⟨_, rfl⟩
  have lz1 : z1.length ≤ 100003 := by rw [hz1, List.length_append]; simp; omega
  have ha2 := add_any z1 x2 (by omega) (by omega)
  obtain ⟨z2, hz2⟩ : ∃ z, z = z1 ++ x2 := ⟨_, rfl⟩
  rw [← hz1] at ha1
  rw [← hz2] at ha2
  have ha1' : ∀ W, (Op.stringOp .add ⟨x1.toArray⟩ ⟨#[124]⟩).run Try.prog W = .ok (.string ⟨z1.toArray⟩) W := ha1
  have HP1 := Lib.hid (fun (W' : World) (hb' : Below W2.heap.size W2 W') => HPA.out pa [] W' hpa hb')
  have HP2 := Lib.hid (fun (W' : World) (hb' : Below W2.heap.size W2 W') => HPA.out pb [4] W' hpb hb')
  rw [← hx1] at HP1
  rw [← hx2] at HP2
  have HVAL : Hid (txtT l k (upA (txtT l) k) = z2) := Lib.hid (by rw [txtT, hnd, hz2, hz1, hx1, hx2]; simp)
  have q2 : W2.cell? ⟨nb, 2, none⟩ = some (.int .i64 (pa : Int)) := hwn.cell rfl
  have q3 : W2.cell? ⟨nb, 3, none⟩ = some (.int .i64 (pb : Int)) := hwn.cell rfl
  have KP : Hid (∀ W', Below W2.heap.size W2 W' → W'.cell? ⟨nb, 2, none⟩ = some (.int .i64 (pa : Int)) ∧ W'.cell? ⟨nb, 3, none⟩ = some (.int .i64 (pb : Int)) ∧ Hid (Below W2.heap.size W2 W')) := Lib.hid (fun W' hb => ⟨up_cell hb (Nat.le_refl _) q2, up_cell hb (Nat.le_refl _) q3, Lib.hid hb⟩)
  have hc1s := cell_al (.cells #[.slice (some ⟨tb, 0, none⟩) l.length l.length] 25) hc1
  have k1s := cell_al (.cells #[.slice (some ⟨tb, 0, none⟩) l.length l.length] 25) k1
  have k2s := cell_al (.cells #[.slice (some ⟨tb, 0, none⟩) l.length l.length] 25) k2
  have k3s := cell_al (.cells #[.slice (some ⟨tb, 0, none⟩) l.length l.length] 25) k3
  have k4s := cell_al (.cells #[.slice (some ⟨tb, 0, none⟩) l.length l.length] 25) k4
  have HW2 := Lib.hid hW2
  have HNB := Lib.hid hnb
  clear htold hf hnm hl hv hc h2 h3 h4 hx hnd hb hbw hwt hwn hW2 k1 k2 k3 k4 hnb hlen l1 l2 lz1 ha1 hx1 hx2 hz1 hz2 q2 q3 hpa hpb HPA
  show Calls Try.prog 33 #[.int .i64 (k : Int), .slice (some ⟨tb, 0, none⟩) l.length l.length, .pointer (some ⟨rb, 0, none⟩)] W _
  go_enter Try.func33, Try.ntmps33
  go_wp2_with fail
  rw [← HW2.out, ← HNB.out]
  refine wp_region_held_drew (S := (fun W' => W'.cell? ⟨nb, 2, none⟩ = some (.int .i64 (pa : Int)) ∧ W'.cell? ⟨nb, 3, none⟩ = some (.int .i64 (pb : Int)) ∧ Hid (Below W2.heap.size W2 W'))) (by kernel_rfl) ?_ (fun hHeld => ?_)
  · (try dsimp only)
    exact KP.out _ (below_draw _)
  obtain ⟨Wd, hWd⟩ : ∃ Wd, Wd = W2.drew := ⟨_, rfl⟩
  rw [← hWd] at hHeld ⊢
  clear hWd
  refine wpAnyH_take (i := 0) (oi := { dst := some 38, op := Op.move (Operand.tmp 6), type := 65, pos := "text.go:145", after := #[], guard := none }) (v := ?rv16) rfl (by kernel_rfl) (by kernel_rfl) (by kernel_rfl) (fun _ _ _ h => h) (Or.inl ⟨by rfl, ?rhy16⟩) (by assumption) ?rrest16
  case rhy16 => (intro w hSw; (try dsimp only at hSw); first | (go_simp; done) | (go_simp; with_reducible rfl))
  case rrest16 =>
  try simp only [Act.put, List.setIfInBounds_toArray, List.set_cons_zero, List.set_cons_succ]
  refine wpAnyH_take (i := 1) (oi := { dst := some 39, op := Op.fieldAddr 45 (Operand.tmp 7) 2, type := 0, pos := "text.go:145", after := #[], guard := none }) (v := ?rv17) rfl (by kernel_rfl) (by kernel_rfl) (by kernel_rfl) (fun _ _ _ h => h) (Or.inl ⟨by rfl, ?rhy17⟩) (by assumption) ?rrest17
  case rhy17 => (intro w hSw; (try dsimp only at hSw); first | (go_simp; done) | (go_simp; with_reducible rfl))
  case rrest17 =>
  try simp only [Act.put, List.setIfInBounds_toArray, List.set_cons_zero, List.set_cons_succ]
  refine wpAnyH_take (i := 2) (oi := { dst := some 40, op := Op.load 3 (Operand.tmp 39), type := 3, pos := "text.go:145", after := #[{ on := 1, ground := Ground.data }], guard := none }) (v := ?rv18) rfl (by kernel_rfl) (by kernel_rfl) (by kernel_rfl) (fun _ _ _ h => h) (Or.inl ⟨by rfl, ?rhy18⟩) (by assumption) ?rrest18
  case rhy18 => (intro w hSw; (try dsimp only at hSw); first | (go_simp; done) | (go_simp; with_reducible rfl))
  case rrest18 =>
  try simp only [Act.put, List.setIfInBounds_toArray, List.set_cons_zero, List.set_cons_succ]
  refine wpAnyH_take (i := 5) (oi := { dst := some 43, op := Op.move (Operand.tmp 6), type := 65, pos := "text.go:145", after := #[], guard := none }) (v := ?rv19) rfl (by kernel_rfl) (by kernel_rfl) (by kernel_rfl) (fun _ _ _ h => h) (Or.inl ⟨by rfl, ?rhy19⟩) (by assumption) ?rrest19
  case rhy19 => (intro w hSw; (try dsimp only at hSw); first | (go_simp; done) | (go_simp; with_reducible rfl))
  case rrest19 =>
  try simp only [Act.put, List.setIfInBounds_toArray, List.set_cons_zero, List.set_cons_succ]
  refine wpAnyH_take (i := 6) (oi := { dst := some 44, op := Op.fieldAddr 45 (Operand.tmp 7) 3, type := 0, pos := "text.go:145", after := #[], guard := none }) (v := ?rv20) rfl (by kernel_rfl) (by kernel_rfl) (by kernel_rfl) (fun _ _ _ h => h) (Or.inl ⟨by rfl, ?rhy20⟩) (by assumption) ?rrest20
  case rhy20 => (intro w hSw; (try dsimp only at hSw); first | (go_simp; done) | (go_simp; with_reducible rfl))
  case rrest20 =>
  try simp only [Act.put, List.setIfInBounds_toArray, List.set_cons_zero, List.set_cons_succ]
  refine wpAnyH_take (i := 7) (oi := { dst := some 45, op := Op.load 3 (Operand.tmp 44), type := 3, pos := "text.go:145", after := #[{ on := 6, ground := Ground.data }], guard := none }) (v := ?rv21) rfl (by kernel_rfl) (by kernel_rfl) (by kernel_rfl) (fun _ _ _ h => h) (Or.inl ⟨by rfl, ?rhy21⟩) (by assumption) ?rrest21
  case rhy21 => (intro w hSw; (try dsimp only at hSw); first | (go_simp; done) | (go_simp; with_reducible rfl))
  case rrest21 =>
  try simp only [Act.put, List.setIfInBounds_toArray, List.set_cons_zero, List.set_cons_succ]
  refine wpAnyH_ready (rs := [3, 8]) (by kernel_rfl) (by simp) ?_
  refine AllReadyH.cons (o := { dst := some 41, op := Op.call { callee := Callee.value (Operand.tmp 38), args := #[Operand.tmp 40, Operand.const (Value.slice none 0 0)], argTypes := #[3, 47] }, type := 9, pos := "text.go:145", after := #[{ on := 0, ground := Ground.data }, { on := 2, ground := Ground.data }], guard := none }) rfl (fun K hK => ?_) (AllReadyH.cons (o := { dst := some 46, op := Op.buildSlice 47 1 #[(0, Operand.const (Value.int IntKind.i64 4))], type := 47, pos := "text.go:145", after := #[], guard := none }) rfl (fun K hK => ?_) AllReadyH.nil)
  · go_simp
    refine (HP1.out _ hHeld.2.2.out _ (VR.nil eI _)).mono ?_
    rintro e wc12 ⟨rfl, bwc12⟩
    go_wp2_with fail
    refine hK.out _ _ ?_ (fun hHeld => ?_)
    · (try dsimp only)
      exact KP.out _ (th hHeld.2.2.out (Nat.le_refl _) bwc12)
    clear hK K bwc12
    try simp only [Act.put, List.setIfInBounds_toArray, List.set_cons_zero, List.set_cons_succ]
    refine wpAnyH_take (i := 4) (oi := { dst := some 42, op := Op.binOp BinOp.add 9 (Operand.tmp 41) (Operand.const (Value.string { data := #[124] })) 9, type := 9, pos := "text.go:145", after := #[{ on := 3, ground := Ground.data }], guard := none }) (v := ?rv22) rfl (by kernel_rfl) (by kernel_rfl) (by kernel_rfl) (fun _ _ _ h => h) (Or.inl ⟨by rfl, ?rhy22⟩) (by assumption) ?rrest22
    case rhy22 => (intro w hSw; (try dsimp only at hSw); first | (go_simp; done) | (go_simp; with_reducible rfl))
    case rrest22 =>
    try simp only [Act.put, List.setIfInBounds_toArray, List.set_cons_zero, List.set_cons_succ]
    refine wpAnyH_ready (rs := [8]) (by kernel_rfl) (by simp) ?_
    refine AllReadyH.cons (o := { dst := some 46, op := Op.buildSlice 47 1 #[(0, Operand.const (Value.int IntKind.i64 4))], type := 47, pos := "text.go:145", after := #[], guard := none }) rfl (fun K hK => ?_) AllReadyH.nil
    go_simp
    obtain ⟨wb13, hwb13⟩ : ∃ W7, W7 = World.alloc wc12 (.cells #[.int .i64 4] 3) := ⟨_, rfl⟩
    rw [← hwb13]
    have bwb13 : Below (World.heap wc12).size wc12 wb13 := by rw [hwb13]; exact (Below.refl _ _).alloc (Nat.le_refl _) _
    have HV8 := Lib.hid (show VR eI wb13 (.slice (some ⟨(World.heap wc12).size, 0, none⟩) 1 1) [4] by
      rw [hwb13]
      have h9 := (WR.new wc12 3 [.int .i64 4]).row (e := eI) (l := [4]) (by simp)
      exact h9)
    refine hK.out _ _ ?_ (fun hHeld => ?_)
    · (try dsimp only)
      exact KP.out _ (th hHeld.2.2.out (Nat.le_refl _) bwb13)
    clear hK K hwb13 bwb13
    try simp only [Act.put, List.setIfInBounds_toArray, List.set_cons_zero, List.set_cons_succ]
    refine wpAnyH_ready (rs := [9]) (by kernel_rfl) (by simp) ?_
    refine AllReadyH.cons (o := { dst := some 47, op := Op.call { callee := Callee.value (Operand.tmp 43), args := #[Operand.tmp 45, Operand.tmp 46], argTypes := #[3, 47] }, type := 9, pos := "text.go:145", after := #[{ on := 5, ground := Ground.data }, { on := 7, ground := Ground.data }, { on := 8, ground := Ground.data }, { on := 3, ground := Ground.chain }], guard := none }) rfl (fun K hK => ?_) AllReadyH.nil
    go_simp
    refine (HP2.out _ hHeld.2.2.out _ HV8.out).mono ?_
    rintro e wc14 ⟨rfl, bwc14⟩
    go_wp2_with fail
    refine hK.out _ _ ?_ (fun hHeld => ?_)
    · (try dsimp only)
      exact KP.out _ (th hHeld.2.2.out (Nat.le_refl _) bwc14)
    clear hK K bwc14
    try simp only [Act.put, List.setIfInBounds_toArray, List.set_cons_zero, List.set_cons_succ]
    refine wpAnyH_take (i := 10) (oi := { dst := some 48, op := Op.binOp BinOp.add 9 (Operand.tmp 42) (Operand.tmp 47) 9, type := 9, pos := "text.go:145", after := #[{ on := 4, ground := Ground.data }, { on := 9, ground := Ground.data }], guard := none }) (v := ?rv23) rfl (by kernel_rfl) (by kernel_rfl) (by kernel_rfl) (fun _ _ _ h => h) (Or.inl ⟨by rfl, ?rhy23⟩) (by assumption) ?rrest23
    case rhy23 => (intro w hSw; (try dsimp only at hSw); first | (go_simp; done) | (go_simp; with_reducible rfl))
    case rrest23 =>
    try simp only [Act.put, List.setIfInBounds_toArray, List.set_cons_zero, List.set_cons_succ]
    refine wpAnyH_take (i := 11) (oi := { dst := some 5, op := Op.assign (Operand.tmp 48), type := 9, pos := "text.go:145", after := #[{ on := 10, ground := Ground.data }, { on := 9, ground := Ground.chain }, { on := 0, ground := Ground.phase }, { on := 1, ground := Ground.phase }, { on := 2, ground := Ground.phase }, { on := 3, ground := Ground.phase }, { on := 4, ground := Ground.phase }, { on := 5, ground := Ground.phase }, { on := 6, ground := Ground.phase }, { on := 7, ground := Ground.phase }, { on := 8, ground := Ground.phase }, { on := 9, ground := Ground.phase }, { on := 10, ground := Ground.phase }], guard := none }) (v := ?rv24) rfl (by kernel_rfl) (by kernel_rfl) (by kernel_rfl) (fun _ _ _ h => h) (Or.inl ⟨by rfl, ?rhy24⟩) (by assumption) ?rrest24
    case rhy24 => (intro w hSw; (try dsimp only at hSw); first | (go_simp; done) | (go_simp; with_reducible rfl))
    case rrest24 =>
    try simp only [Act.put, List.setIfInBounds_toArray, List.set_cons_zero, List.set_cons_succ]
    refine wpAnyH_done (by kernel_rfl) ?_ _
    have HB9 := Lib.hid (th HBW.out (Nat.le_refl _) hHeld.2.2.out)
    clear hHeld
    go_wp2_with fail
    go_ret
    exact ⟨by rw [HVAL.out]; rfl, HB9.out⟩
  · go_simp
    obtain ⟨wb15, hwb15⟩ : ∃ W7, W7 = World.alloc Wd (.cells #[.int .i64 4] 3) := ⟨_, rfl⟩
    rw [← hwb15]
    have bwb15 : Below (World.heap Wd).size Wd wb15 := by rw [hwb15]; exact (Below.refl _ _).alloc (Nat.le_refl _) _
    have HV8 := Lib.hid (show VR eI wb15 (.slice (some ⟨(World.heap Wd).size, 0, none⟩) 1 1) [4] by
      rw [hwb15]
      have h9 := (WR.new Wd 3 [.int .i64 4]).row (e := eI) (l := [4]) (by simp)
      exact h9)
    refine hK.out _ _ ?_ (fun hHeld => ?_)
    · (try dsimp only)
      exact KP.out _ (th hHeld.2.2.out (Nat.le_refl _) bwb15)
    clear hK K hwb15 bwb15
    try simp only [Act.put, List.setIfInBounds_toArray, List.set_cons_zero, List.set_cons_succ]
    refine wpAnyH_ready (rs := [3]) (by kernel_rfl) (by simp) ?_
    refine AllReadyH.cons (o := { dst := some 41, op := Op.call { callee := Callee.value (Operand.tmp 38), args := #[Operand.tmp 40, Operand.const (Value.slice none 0 0)], argTypes := #[3, 47] }, type := 9, pos := "text.go:145", after := #[{ on := 0, ground := Ground.data }, { on := 2, ground := Ground.data }], guard := none }) rfl (fun K hK => ?_) AllReadyH.nil
    go_simp
    refine (HP1.out _ hHeld.2.2.out _ (VR.nil eI _)).mono ?_
    rintro e wc16 ⟨rfl, bwc16⟩
    have HV8 := Lib.hid (HV8.out.below bwc16)
    go_wp2_with fail
    refine hK.out _ _ ?_ (fun hHeld => ?_)
    · (try dsimp only)
      exact KP.out _ (th hHeld.2.2.out (Nat.le_refl _) bwc16)
    clear hK K bwc16
    try simp only [Act.put, List.setIfInBounds_toArray, List.set_cons_zero, List.set_cons_succ]
    refine wpAnyH_take (i := 4) (oi := { dst := some 42, op := Op.binOp BinOp.add 9 (Operand.tmp 41) (Operand.const (Value.string { data := #[124] })) 9, type := 9, pos := "text.go:145", after := #[{ on := 3, ground := Ground.data }], guard := none }) (v := ?rv25) rfl (by kernel_rfl) (by kernel_rfl) (by kernel_rfl) (fun _ _ _ h => h) (Or.inl ⟨by rfl, ?rhy25⟩) (by assumption) ?rrest25
    case rhy25 => (intro w hSw; (try dsimp only at hSw); first | (go_simp; done) | (go_simp; with_reducible rfl))
    case rrest25 =>
    try simp only [Act.put, List.setIfInBounds_toArray, List.set_cons_zero, List.set_cons_succ]
    refine wpAnyH_ready (rs := [9]) (by kernel_rfl) (by simp) ?_
    refine AllReadyH.cons (o := { dst := some 47, op := Op.call { callee := Callee.value (Operand.tmp 43), args := #[Operand.tmp 45, Operand.tmp 46], argTypes := #[3, 47] }, type := 9, pos := "text.go:145", after := #[{ on := 5, ground := Ground.data }, { on := 7, ground := Ground.data }, { on := 8, ground := Ground.data }, { on := 3, ground := Ground.chain }], guard := none }) rfl (fun K hK => ?_) AllReadyH.nil
    go_simp
    refine (HP2.out _ hHeld.2.2.out _ HV8.out).mono ?_
    rintro e wc17 ⟨rfl, bwc17⟩
    go_wp2_with fail
    refine hK.out _ _ ?_ (fun hHeld => ?_)
    · (try dsimp only)
      exact KP.out _ (th hHeld.2.2.out (Nat.le_refl _) bwc17)
    clear hK K bwc17
    try simp only [Act.put, List.setIfInBounds_toArray, List.set_cons_zero, List.set_cons_succ]
    refine wpAnyH_take (i := 10) (oi := { dst := some 48, op := Op.binOp BinOp.add 9 (Operand.tmp 42) (Operand.tmp 47) 9, type := 9, pos := "text.go:145", after := #[{ on := 4, ground := Ground.data }, { on := 9, ground := Ground.data }], guard := none }) (v := ?rv26) rfl (by kernel_rfl) (by kernel_rfl) (by kernel_rfl) (fun _ _ _ h => h) (Or.inl ⟨by rfl, ?rhy26⟩) (by assumption) ?rrest26
    case rhy26 => (intro w hSw; (try dsimp only at hSw); first | (go_simp; done) | (go_simp; with_reducible rfl))
    case rrest26 =>
    try simp only [Act.put, List.setIfInBounds_toArray, List.set_cons_zero, List.set_cons_succ]
    refine wpAnyH_take (i := 11) (oi := { dst := some 5, op := Op.assign (Operand.tmp 48), type := 9, pos := "text.go:145", after := #[{ on := 10, ground := Ground.data }, { on := 9, ground := Ground.chain }, { on := 0, ground := Ground.phase }, { on := 1, ground := Ground.phase }, { on := 2, ground := Ground.phase }, { on := 3, ground := Ground.phase }, { on := 4, ground := Ground.phase }, { on := 5, ground := Ground.phase }, { on := 6, ground := Ground.phase }, { on := 7, ground := Ground.phase }, { on := 8, ground := Ground.phase }, { on := 9, ground := Ground.phase }, { on := 10, ground := Ground.phase }], guard := none }) (v := ?rv27) rfl (by kernel_rfl) (by kernel_rfl) (by kernel_rfl) (fun _ _ _ h => h) (Or.inl ⟨by rfl, ?rhy27⟩) (by assumption) ?rrest27
    case rhy27 => (intro w hSw; (try dsimp only at hSw); first | (go_simp; done) | (go_simp; with_reducible rfl))
    case rrest27 =>
    try simp only [Act.put, List.setIfInBounds_toArray, List.set_cons_zero, List.set_cons_succ]
    refine wpAnyH_done (by kernel_rfl) ?_ _
    have HB9 := Lib.hid (th HBW.out (Nat.le_refl _) hHeld.2.2.out)
    clear hHeld
    go_wp2_with fail
    go_ret
    exact ⟨by rw [HVAL.out]; rfl, HB9.out⟩
set_option maxHeartbeats 8000000 in
set_option maxRecDepth 20000 in
theorem txt_star {l : List Nd} (hf : formB l = true) (hnm : namesB l = true) (hl : l.length ≤ 1024) {w : World} {v : Value} {rb : Nat} (hv : NR w v l) (hc : w.cell? ⟨rb, 0, none⟩ = some v)
    (k : Nat) (W : World) (tb : Nat) (hk : k < l.length) (hb : Below w.heap.size w W) (htold : ∀ j x, (upA (txtT l) k)[j]? = some x → W.cell? ⟨tb, j, none⟩ = some (eS x)) {pa : Nat} (hpa : pa < k) (hx : l[k]? = some ⟨5, [], (pa : Int), 0⟩) :
    Calls Try.prog 33 (#[.int .i64 (k : Int), .slice (some ⟨tb, 0, none⟩) l.length l.length] ++ #[.pointer (some ⟨rb, 0, none⟩)]) W fun r w' => r = .returned (eS (txtT l k (upA (txtT l) k))) ∧ Below W.heap.size W w' := by
  obtain ⟨a, c, rfl, h2, h3, h4⟩ := (hv.th hb (Nat.le_refl _)).at
  obtain ⟨g, o, rfl, k1, k2, k3, k4⟩ := h4 k _ hx
  have hnd := nd_at hx
  have hc1 := up_cell hb (Nat.le_refl _) hc
  obtain ⟨W2, hW2⟩ : ∃ W2, W2 = (W.alloc (.cells #[.slice (some ⟨tb, 0, none⟩) l.length l.length] 25)).alloc (.cells #[.int .i64 5, .string ⟨#[]⟩, .int .i64 (pa : Int), .int .i64 0] 45) := ⟨_, rfl⟩
  have hbw : Below W.heap.size W W2 := by rw [hW2]; exact ((Below.refl _ W).alloc (Nat.le_refl _) _).alloc (by simp) _
  have HBW := Lib.hid hbw
  have hwt : WR W2 W.heap.size 25 [.slice (some ⟨tb, 0, none⟩) l.length l.length] := by rw [hW2]; exact (WR.new W 25 [.slice (some ⟨tb, 0, none⟩) l.length l.length]).alloc _
  obtain ⟨nb, hnb⟩ : ∃ nb, nb = W.heap.size + 1 := ⟨_, rfl⟩
  have hwn : WR W2 nb 45 (ndC ⟨5, [], (pa : Int), 0⟩) := by
    rw [hW2, hnb]
    have h9 := WR.new (W.alloc (.cells #[.slice (some ⟨tb, 0, none⟩) l.length l.length] 25)) 45 (ndC ⟨5, [], (pa : Int), 0⟩)
    rw [show (W.alloc (.cells #[.slice (some ⟨tb, 0, none⟩) l.length l.length] 25)).heap.size = W.heap.size + 1 by simp] at h9
    exact h9
  have hi0 : (0 : Int) ≤ k := by omega
  have hi1 : (k : Int) < l.length := by omega
  have HPA : Hid (∀ (p : Nat) (shut : List Int) (W' : World), p < k → Below W2.heap.size W2 W' → ∀ sv, VR eI W' sv shut → Calls Try.prog 34 #[.int .i64 (p : Int), sv, .pointer (some ⟨rb, 0, none⟩), .pointer (some ⟨W.heap.size, 0, none⟩)] W' fun e w' => e = .returned (.string ⟨(partT l (upA (txtT l) k) (p : Nat) shut).toArray⟩) ∧ Below W'.heap.size W' w') := Lib.hid (fun p shut W' hp hb' sv hsv => by
    have h9 := part_any p sv _ shut l (told (upA (txtT l) k) (p : Nat)) rb W.heap.size tb l.length W' (by omega) rfl hsv (up_cell hb' (Nat.le_refl _) (up_cell hbw (Nat.le_refl _) hc1)) ((hv.th hb (Nat.le_refl _)).below hbw |>.below hb') (up_cell hb' (Nat.le_refl _) (hwt.cell rfl))
      (up_cell hb' (Nat.le_refl _) (up_cell hbw (Nat.le_refl _) (htold p _ (by unfold told; rw [List.getD_eq_getElem?_getD, Int.toNat_natCast, List.getElem?_eq_getElem (by rw [upA_len]; exact hp)]; rfl)))) (told_len hf hnm hl hp (Nat.le_of_lt hk))
    exact h9)
  have hlen : ∀ (p : Nat) (shut : List Int), p < k → (partT l (upA (txtT l) k) (p : Nat) shut).length ≤ 100002 := fun p shut hp => by
    have h8 := told_len hf hnm hl hp (Nat.le_of_lt hk)
    have h9 := par_len (shut.contains (nd l (p : Int).toNat).op) (told (upA (txtT l) k) (p : Nat))
    unfold partT; omega
  obtain ⟨x1, hx1⟩ : ∃ x, x = partT l (upA (txtT l) k) (pa : Nat) [3, 4] := ⟨_, rfl⟩
  have l1 : x1.length ≤ 100002 := by rw [hx1]; exact hlen _ _ hpa
  have ha1 := add_any x1 [42] (by omega) (by simp)
  obtain ⟨z1, hz1⟩ : ∃ z, z = x1 ++ [42] := ⟨_, rfl⟩
  rw [← hz1] at ha1
  have ha1' : ∀ W, (Op.stringOp .add ⟨x1.toArray⟩ ⟨#[42]⟩).run Try.prog W = .ok (.string ⟨z1.toArray⟩) W := ha1
  obtain ⟨W3, hW3⟩ : ∃ W3, W3 = W2.alloc (.cells #[.int .i64 3, .int .i64 4] 3) := ⟨_, rfl⟩
  have hb3 : Below W2.heap.size W2 W3 := by rw [hW3]; exact (Below.refl _ _).alloc (Nat.le_refl _) _
  have hv3 : VR eI W3 (.slice (some ⟨W2.heap.size, 0, none⟩) 2 2) [3, 4] := by rw [hW3]; exact (WR.new W2 3 [.int .i64 3, .int .i64 4]).row (e := eI) (l := [3, 4]) (by simp)
  have HP1 := Lib.hid (HPA.out pa [3, 4] W3 hpa hb3 _ hv3)
  rw [← hx1] at HP1
  have HVAL : Hid (txtT l k (upA (txtT l) k) = z1) := Lib.hid (by rw [txtT, hnd, hz1, hx1]; simp)
  have q0 : W2.cell? ⟨nb, 0, none⟩ = some (.int .i64 5) := hwn.cell rfl
  have q2 : W2.cell? ⟨nb, 2, none⟩ = some (.int .i64 (pa : Int)) := hwn.cell rfl
  have HBW3 := Lib.hid (th HBW.out (Nat.le_refl _) hb3)
  have hc1s := cell_al (.cells #[.slice (some ⟨tb, 0, none⟩) l.length l.length] 25) hc1
  have k1s := cell_al (.cells #[.slice (some ⟨tb, 0, none⟩) l.length l.length] 25) k1
  have k2s := cell_al (.cells #[.slice (some ⟨tb, 0, none⟩) l.length l.length] 25) k2
  have k3s := cell_al (.cells #[.slice (some ⟨tb, 0, none⟩) l.length l.length] 25) k3
  have k4s := cell_al (.cells #[.slice (some ⟨tb, 0, none⟩) l.length l.length] 25) k4
  have HW2 := Lib.hid hW2
  have HW3 := Lib.hid hW3
  have HNB := Lib.hid hnb
  clear htold hf hnm hl hv hc h2 h3 h4 hx hnd hb hbw hwt hwn hW2 k1 k2 k3 k4 hnb hlen l1 ha1 hx1 hz1 hpa HPA hW3 hb3 hv3
  show Calls Try.prog 33 #[.int .i64 (k : Int), .slice (some ⟨tb, 0, none⟩) l.length l.length, .pointer (some ⟨rb, 0, none⟩)] W _
  go_enter Try.func33, Try.ntmps33
  go_upto_region 13 with fail
  rw [← HW2.out, ← HNB.out]
  go_wp2_with fail
  rw [← HW3.out]
  refine HP1.out.mono ?_
  rintro e w6 ⟨rfl, hb6⟩
  have HB6 := Lib.hid (th HBW3.out (Nat.le_refl _) hb6)
  clear hb6
  go_wp2_with fail
  go_ret
  exact ⟨by rw [HVAL.out]; rfl, HB6.out⟩
end Go.Proofs.Ytnaimmhdpjggmaa.U
