/- The contract of partsOf. -/
import Derived.Test.YtnaimmhdpjggmaaMf
import Derived.RegionTactic
import Derived.BigRegion
namespace Go.Proofs.Ytnaimmhdpjggmaa.U
open Go.RowKit

def PartsOfPost (n : Nd) (w : World) (e : Ending) (w' : World) : Prop := ∃ v, e = .returned (.tuple #[v, .bool (okN n)]) ∧ (okN n = true → VF eI w.heap.size w' v (partsN n)) ∧ Below w.heap.size w w'
theorem ok_mk {n : Nd} {b : Bool} (h : b = true ↔ okN n = true) : b = okN n := by rw [Bool.eq_iff_iff]; exact h
theorem tup2 {v : Value} {a b : Bool} (h : a = b) : Ending.returned (.tuple #[v, .bool a]) = .returned (.tuple #[v, .bool b]) := by rw [h]
set_option maxHeartbeats 2000000 in
set_option maxRecDepth 10000 in
theorem partsOf_any (n : Nd) (w : World) : Calls Try.prog 42 #[.agg #[.int .i64 n.op, .string ⟨n.sym.toArray⟩, .int .i64 n.a, .int .i64 n.b]] w fun e w' => PartsOfPost n w e w' := by
  have HB := Lib.hid ((Below.refl w.heap.size w).alloc (Nat.le_refl _) (.cells #[.int .i64 n.op, .string ⟨n.sym.toArray⟩, .int .i64 n.a, .int .i64 n.b] 45))
  have hgd := guardG
  rcases (show n.op = 0 ∨ n.op = 1 ∨ n.op = 2 ∨ n.op = 3 ∨ n.op = 4 ∨ n.op = 5 ∨ (n.op ≠ 0 ∧ n.op ≠ 1 ∧ n.op ≠ 2 ∧ n.op ≠ 3 ∧ n.op ≠ 4 ∧ n.op ≠ 5) by omega) with h | h | h | h | h | h | ⟨h0, h1, h2, h3, h4, h5⟩
  · obtain ⟨op, sym, a, b⟩ := n
    obtain rfl : op = 0 := h
    obtain ⟨y, hy⟩ : ∃ y, y = decide ((⟨0, sym, a, b⟩ : Nd) = ⟨0, [], 0, 0⟩) := ⟨_, rfl⟩
    have he : ∀ w, (Op.equalIn 10000 45 (.agg #[.int .i64 0, .string ⟨sym.toArray⟩, .int .i64 a, .int .i64 b]) (.agg #[.int .i64 0, .string ⟨#[]⟩, .int .i64 0, .int .i64 0])).run Try.prog w = .ok y w := fun w => by rw [hy]; exact eqG ⟨0, sym, a, b⟩ ⟨0, [], 0, 0⟩ w
    have HY := Lib.hid hy
    clear hy
    go_enter Try.func42, Try.ntmps42
    go_wp2_with fail
    go_quiet (fail)
    go_wp2_with fail
    go_ret2
    exact ⟨_, tup2 (ok_mk (by rw [HY.out]; simp [okN])), fun _ => by rw [show partsN ⟨0, sym, a, b⟩ = [] from rfl]; exact VF.nil _ _ _, HB.out.trans ((below_draws _ _).mono HB.out.size)⟩
  · obtain ⟨op, sym, a, b⟩ := n
    obtain rfl : op = 1 := h
    obtain ⟨y, hy⟩ : ∃ y, y = decide ((⟨1, sym, a, b⟩ : Nd) = ⟨1, [], 0, 0⟩) := ⟨_, rfl⟩
    have he : ∀ w, (Op.equalIn 10000 45 (.agg #[.int .i64 1, .string ⟨sym.toArray⟩, .int .i64 a, .int .i64 b]) (.agg #[.int .i64 1, .string ⟨#[]⟩, .int .i64 0, .int .i64 0])).run Try.prog w = .ok y w := fun w => by rw [hy]; exact eqG ⟨1, sym, a, b⟩ ⟨1, [], 0, 0⟩ w
    have HY := Lib.hid hy
    clear hy
    go_enter Try.func42, Try.ntmps42
    go_wp2_with fail
    go_quiet (fail)
    go_wp2_with fail
    go_ret2
    exact ⟨_, tup2 (ok_mk (by rw [HY.out]; simp [okN])), fun _ => by rw [show partsN ⟨1, sym, a, b⟩ = [] from rfl]; exact VF.nil _ _ _, HB.out.trans ((below_draws _ _).mono HB.out.size)⟩
  · obtain ⟨op, sym, a, b⟩ := n
    obtain rfl : op = 2 := h
    obtain ⟨y, hy⟩ : ∃ y, y = decide ((⟨2, sym, a, b⟩ : Nd) = ⟨2, sym, 0, 0⟩) := ⟨_, rfl⟩
    have he : ∀ w, (Op.equalIn 10000 45 (.agg #[.int .i64 2, .string ⟨sym.toArray⟩, .int .i64 a, .int .i64 b]) (.agg #[.int .i64 2, .string ⟨sym.toArray⟩, .int .i64 0, .int .i64 0])).run Try.prog w = .ok y w := fun w => by rw [hy]; exact eqG ⟨2, sym, a, b⟩ ⟨2, sym, 0, 0⟩ w
    have HY := Lib.hid hy
    clear hy
    go_enter Try.func42, Try.ntmps42
    go_wp2_with fail
    go_quiet (fail)
    go_wp2_with fail
    go_ret2
    exact ⟨_, tup2 (ok_mk (by rw [HY.out]; simp [okN])), fun _ => by rw [show partsN ⟨2, sym, a, b⟩ = [] from rfl]; exact VF.nil _ _ _, HB.out.trans ((below_draws _ _).mono HB.out.size)⟩
  · obtain ⟨op, sym, a, b⟩ := n
    obtain rfl : op = 3 := h
    obtain ⟨y, hy⟩ : ∃ y, y = (sym == []) := ⟨_, rfl⟩
    have hy2 : sym.isEmpty = y := by rw [hy]; cases sym <;> rfl
    have HY : Hid (y = okN ⟨3, sym, a, b⟩) := Lib.hid (ok_mk (by rw [hy]; simp [okN]))
    have hy3 : (sym == []) = y := hy.symm
    clear hy
    go_enter Try.func42, Try.ntmps42
    go_wp2_with fail
    go_region
    all_goals go_wp2_with fail
    all_goals go_ret2
    all_goals (
      refine ⟨_, tup2 HY.out, fun _ => ?_, ?_⟩
      · rw [show partsN ⟨3, sym, a, b⟩ = [a, b] from rfl]
        exact VF.at2 a b (by omega) (by unfold eI; go_simp) (by unfold eI; go_simp)
      · first | exact (HB.out.alloc (by simp) _).drew | exact (HB.out.drew).alloc (by simp) _)
  · obtain ⟨op, sym, a, b⟩ := n
    obtain rfl : op = 4 := h
    obtain ⟨y, hy⟩ : ∃ y, y = (sym == []) := ⟨_, rfl⟩
    have hy2 : sym.isEmpty = y := by rw [hy]; cases sym <;> rfl
    have HY : Hid (y = okN ⟨4, sym, a, b⟩) := Lib.hid (ok_mk (by rw [hy]; simp [okN]))
    have hy3 : (sym == []) = y := hy.symm
    clear hy
    go_enter Try.func42, Try.ntmps42
    go_wp2_with fail
    go_region
    all_goals go_wp2_with fail
    all_goals go_ret2
    all_goals (
      refine ⟨_, tup2 HY.out, fun _ => ?_, ?_⟩
      · rw [show partsN ⟨4, sym, a, b⟩ = [a, b] from rfl]
        exact VF.at2 a b (by omega) (by unfold eI; go_simp) (by unfold eI; go_simp)
      · first | exact (HB.out.alloc (by simp) _).drew | exact (HB.out.drew).alloc (by simp) _)
  · obtain ⟨op, sym, a, b⟩ := n
    obtain rfl : op = 5 := h
    obtain ⟨y, hy⟩ : ∃ y, y = decide ((⟨5, sym, a, b⟩ : Nd) = ⟨5, [], a, 0⟩) := ⟨_, rfl⟩
    have he : ∀ w, (Op.equalIn 10000 45 (.agg #[.int .i64 5, .string ⟨sym.toArray⟩, .int .i64 a, .int .i64 b]) (.agg #[.int .i64 5, .string ⟨#[]⟩, .int .i64 a, .int .i64 0])).run Try.prog w = .ok y w := fun w => by rw [hy]; exact eqG ⟨5, sym, a, b⟩ ⟨5, [], a, 0⟩ w
    have HY : Hid (y = okN ⟨5, sym, a, b⟩) := Lib.hid (ok_mk (by rw [hy]; simp [okN]))
    clear hy
    go_enter Try.func42, Try.ntmps42
    go_wp2_with fail
    go_region
    all_goals go_wp2_with fail
    all_goals go_ret2
    all_goals (
      refine ⟨_, tup2 HY.out, fun _ => ?_, ?_⟩
      · rw [show partsN ⟨5, sym, a, b⟩ = [a] from rfl]
        exact VF.at1 a (by omega) (by unfold eI; go_simp)
      · first | exact (HB.out.alloc (by simp) _).drew | exact (HB.out.drew).alloc (by simp) _)
  · have hv : okN n = false := by unfold okN; rw [decide_eq_false_iff_not]; omega
    have e0 := ieq_f h0
    have e1 := ieq_f h1
    have e2 := ieq_f h2
    have e3 := ieq_f h3
    have e4 := ieq_f h4
    have e5 := ieq_f h5
    have HV := Lib.hid hv
    clear h0 h1 h2 h3 h4 h5 hv
    go_enter Try.func42, Try.ntmps42
    go_wp2_with fail
    go_ret2
    refine ⟨_, tup2 HV.out.symm, ?_, HB.out⟩
    intro h
    rw [HV.out] at h
    cases h
end Go.Proofs.Ytnaimmhdpjggmaa.U
