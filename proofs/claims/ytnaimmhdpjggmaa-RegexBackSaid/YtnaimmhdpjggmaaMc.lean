/- Nodes compared; the law's Nodes and Texts. -/
import Derived.Test.YtnaimmhdpjggmaaMb
import Derived.Laws.StructEq
namespace Go.Proofs.Ytnaimmhdpjggmaa.U
open Go.RowKit

theorem list_eq_bytes (a b : Wd) : ((⟨a.toArray⟩ : ByteArray).toList == (⟨b.toArray⟩ : ByteArray).toList) = decide (a = b) := by
  rw [ByteArray.toList_eq, ByteArray.toList_eq]
  show (a == b) = _
  rw [Bool.eq_iff_iff]; simp
theorem nd_eq_iff (x y : Nd) : decide (x = y) = (decide (x.op = y.op) && (decide (x.sym = y.sym) && (decide (x.a = y.a) && decide (x.b = y.b)))) := by
  obtain ⟨o, s, a, b⟩ := x
  obtain ⟨o', s', a', b'⟩ := y
  rw [Bool.eq_iff_iff]
  simp
theorem eqR (x y : Nd) (w : World) : (Op.equalIn 10000 46 (.agg #[.int .i64 x.op, .string ⟨x.sym.toArray⟩, .int .i64 x.a, .int .i64 x.b]) (.agg #[.int .i64 y.op, .string ⟨y.sym.toArray⟩, .int .i64 y.a, .int .i64 y.b])).run Try.prog w = .ok (decide (x = y)) w := by
  have u3 := Try.underlying3
  have a3 := Try.isAgg3
  have z3 := Try.sizeOf3
  have u9 := Try.underlying9
  have a9 := Try.isAgg9
  have z9 := Try.sizeOf9
  have hS : Try.prog.underlying 46 = some (.struct (Try.prog.fieldsOf 46)) := by kernel_rfl
  have hp : Try.prog.stoodInHeld 46 = false := by kernel_rfl
  rw [show (10000 : Nat) = 9999 + 1 from rfl, run_equalIn_agg w 9999 46 _ _ hS hp]
  simp only [Program.fieldsOf, Try.underlying46]
  rw [nd_eq_iff]
  go_simp
  have e := list_eq_bytes x.sym y.sym
  by_cases h1 : x.op = y.op <;> by_cases h2 : x.sym = y.sym <;> by_cases h3 : x.a = y.a <;> by_cases h4 : x.b = y.b <;> simp_all
theorem eqG (x y : Nd) (w : World) : (Op.equalIn 10000 45 (.agg #[.int .i64 x.op, .string ⟨x.sym.toArray⟩, .int .i64 x.a, .int .i64 x.b]) (.agg #[.int .i64 y.op, .string ⟨y.sym.toArray⟩, .int .i64 y.a, .int .i64 y.b])).run Try.prog w = .ok (decide (x = y)) w := by
  have u3 := Try.underlying3
  have a3 := Try.isAgg3
  have z3 := Try.sizeOf3
  have u9 := Try.underlying9
  have a9 := Try.isAgg9
  have z9 := Try.sizeOf9
  have hS : Try.prog.underlying 45 = some (.struct (Try.prog.fieldsOf 45)) := by kernel_rfl
  have hp : Try.prog.stoodInHeld 45 = false := by kernel_rfl
  rw [show (10000 : Nat) = 9999 + 1 from rfl, run_equalIn_agg w 9999 45 _ _ hS hp]
  simp only [Program.fieldsOf, Try.underlying45]
  rw [nd_eq_iff]
  go_simp
  have e := list_eq_bytes x.sym y.sym
  by_cases h1 : x.op = y.op <;> by_cases h2 : x.sym = y.sym <;> by_cases h3 : x.a = y.a <;> by_cases h4 : x.b = y.b <;> simp_all
theorem guardR : Try.prog.eqGuardType Try.prog.depth 46 = false := by kernel_rfl
theorem guardG : Try.prog.eqGuardType Try.prog.depth 45 = false := by kernel_rfl
/-- What is wanted of a row in a walk. -/
theorem VR.at {α : Type} {e : α → Value} {w : World} {v : Value} {l : List α} (h : VR e w v l) : ∃ a c, v = .slice a l.length c ∧ l.length ≤ c ∧ c ≤ maxLen ∧ ∀ i x, l[i]? = some x → ∃ g o, a = some ⟨g, o, none⟩ ∧ w.cell? ⟨g, o + i, none⟩ = some (e x) := by
  obtain ⟨a, c, h1, h2, h3, h4⟩ := h
  refine ⟨a, c, h1, h2, h3, fun i n hn => ?_⟩
  obtain ⟨g, o, e, h5⟩ := h4 (by have := (List.getElem?_eq_some_iff.1 hn).1; omega)
  exact ⟨g, o, e, h5 i n hn⟩

set_option maxHeartbeats 2000000 in
set_option maxRecDepth 10000 in
theorem nodes_any (u v : Value) (l m : List Nd) (w : World) (hl : NR w u l) (hm : NR w v m) : Calls Try.prog 17 #[u, v] w fun e w' => e = .returned (.bool (decide (l = m))) ∧ Below w.heap.size w w' := by
  obtain ⟨a, c, rfl, h2, h3, h4⟩ := hl.at
  obtain ⟨a', c', rfl, k2, k3, k4⟩ := hm.at
  obtain ⟨n, hn⟩ : ∃ n, n = l.length := ⟨_, rfl⟩
  obtain ⟨n', hn'⟩ : ∃ n, n = m.length := ⟨_, rfl⟩
  have hn63 : n ≤ 9223372036854775807 := by unfold maxLen at h3; omega
  have HN := Lib.hid hn
  have HN' := Lib.hid hn'
  have H4 := Lib.hid h4
  have K4 := Lib.hid k4
  rw [← hn, ← hn']
  clear hl hm h2 h3 h4 k2 k3 k4 hn hn'
  by_cases hnn : n = n'
  · subst hnn
    have hne : ((n : Int) != (n : Int)) = false := by simp
    go_enter Try.func17, Try.ntmps17
    go_wp2_with fail
    go_loopw [5] (fun i wr => ∃ k : Nat, i = .int .i64 k ∧ k ≤ n ∧ Hid (l.take k = m.take k) ∧ Hid (Below w.heap.size w wr)) (fun i _ => n - (intOf i).toNat)
    case atStart => exact ⟨0, rfl, by omega, Lib.hid rfl, Lib.hid (Below.refl _ _)⟩
    case round =>
      obtain ⟨k, rfl, hk, HA, HB⟩ := hrel
      by_cases hlt : k < n
      · obtain ⟨x, hx⟩ : ∃ x, l[k]? = some x := ⟨_, List.getElem?_eq_getElem (by rw [← HN.out]; exact hlt)⟩
        obtain ⟨y, hy⟩ : ∃ y, m[k]? = some y := ⟨_, List.getElem?_eq_getElem (by rw [← HN'.out]; exact hlt)⟩
        obtain ⟨g, o, rfl, p1, p2, p3, p4⟩ := H4.out k x hx
        obtain ⟨g', o', rfl, q1, q2, q3, q4⟩ := K4.out k y hy
        have s1 := up_cell HB.out (Nat.le_refl _) p1
        have s2 := up_cell HB.out (Nat.le_refl _) p2
        have s3 := up_cell HB.out (Nat.le_refl _) p3
        have s4 := up_cell HB.out (Nat.le_refl _) p4
        have t1 := up_cell HB.out (Nat.le_refl _) q1
        have t2 := up_cell HB.out (Nat.le_refl _) q2
        have t3 := up_cell HB.out (Nat.le_refl _) q3
        have t4 := up_cell HB.out (Nat.le_refl _) q4
        have hi0 : (0 : Int) ≤ k := by omega
        have hi1 : (k : Int) < n := by omega
        have hd1 : decide ((k : Int) < n) = true := by simp; omega
        have HX := Lib.hid hx
        have HY := Lib.hid hy
        have HLT := Lib.hid hlt
        have he := eqR x y
        have hgd := guardR
        clear hx hy hlt hk p1 p2 p3 p4 q1 q2 q3 q4
        by_cases hxy : x = y
        · rw [decide_eq_true hxy] at he
          have HXY := Lib.hid hxy
          clear hxy
          go_wp2_with fail
          go_quiet (fail)
          go_wp2_with fail
          go_roundw
          case rel => exact ⟨k + 1, by go_num, by have := HLT.out; omega, Lib.hid (by rw [List.take_add_one, List.take_add_one, HX.out, HY.out, HA.out, HXY.out]), Lib.hid (HB.out.trans ((below_draws _ _).mono HB.out.size))⟩
          case measure => have := HLT.out; simp [intOf]; omega
        · rw [decide_eq_false hxy] at he
          have HXY := Lib.hid hxy
          clear hxy
          go_wp2_with fail
          go_quiet (fail)
          go_wp2_with fail
          go_ret
          refine ⟨bool_ret ?_, HB.out.trans ((below_draws _ _).mono HB.out.size)⟩
          rw [eq_comm, decide_eq_false_iff_not]
          intro e
          have h1 := HX.out
          rw [e, HY.out] at h1
          exact HXY.out (Option.some.inj h1).symm
      · have hd1 : decide ((k : Int) < n) = false := by simp; omega
        have hd2 : decide (k < n) = false := by simp; omega
        have hkn : k = n := by omega
        have HKN := Lib.hid hkn
        clear hlt hk hkn
        go_wp2_with fail
        go_ret
        refine ⟨bool_ret ?_, HB.out⟩
        rw [eq_comm, decide_eq_true_eq]
        have h1 := HA.out
        rw [List.take_of_length_le (by rw [← HN.out, HKN.out]; exact Nat.le_refl _), List.take_of_length_le (by rw [← HN'.out, HKN.out]; exact Nat.le_refl _)] at h1
        exact h1
  · have hne : ((n : Int) != (n' : Int)) = true := by simp; omega
    have hne2 : (n != n') = true := by simp; omega
    have hne3 : ((n : Int) == (n' : Int)) = false := by simp; omega
    have hne4 : (n == n') = false := by simp; omega
    have HNN := Lib.hid hnn
    clear hnn
    go_enter Try.func17, Try.ntmps17
    go_wp2_with fail
    go_ret
    refine ⟨bool_ret ?_, Below.refl _ _⟩
    rw [eq_comm, decide_eq_false_iff_not]
    intro e
    exact HNN.out (by rw [HN.out, HN'.out, e])

set_option maxHeartbeats 2000000 in
set_option maxRecDepth 10000 in
theorem texts_any (u v : Value) (l m : List Wd) (w : World) (hl : VR eS w u l) (hm : VR eS w v m) : Calls Try.prog 18 #[u, v] w fun e w' => e = .returned (.bool (decide (l = m))) ∧ Below w.heap.size w w' := by
  obtain ⟨a, c, rfl, h2, h3, h4⟩ := hl.at
  obtain ⟨a', c', rfl, k2, k3, k4⟩ := hm.at
  obtain ⟨n, hn⟩ : ∃ n, n = l.length := ⟨_, rfl⟩
  obtain ⟨n', hn'⟩ : ∃ n, n = m.length := ⟨_, rfl⟩
  have hn63 : n ≤ 9223372036854775807 := by unfold maxLen at h3; omega
  have HN := Lib.hid hn
  have HN' := Lib.hid hn'
  have H4 := Lib.hid h4
  have K4 := Lib.hid k4
  rw [← hn, ← hn']
  clear hl hm h2 h3 h4 k2 k3 k4 hn hn'
  by_cases hnn : n = n'
  · subst hnn
    have hne : ((n : Int) != (n : Int)) = false := by simp
    go_enter Try.func18, Try.ntmps18
    go_wp2_with fail
    go_loopw [5] (fun i wr => ∃ k : Nat, i = .int .i64 k ∧ k ≤ n ∧ Hid (l.take k = m.take k) ∧ Hid (Below w.heap.size w wr)) (fun i _ => n - (intOf i).toNat)
    case atStart => exact ⟨0, rfl, by omega, Lib.hid rfl, Lib.hid (Below.refl _ _)⟩
    case round =>
      obtain ⟨k, rfl, hk, HA, HB⟩ := hrel
      by_cases hlt : k < n
      · obtain ⟨x, hx⟩ : ∃ x, l[k]? = some x := ⟨_, List.getElem?_eq_getElem (by rw [← HN.out]; exact hlt)⟩
        obtain ⟨y, hy⟩ : ∃ y, m[k]? = some y := ⟨_, List.getElem?_eq_getElem (by rw [← HN'.out]; exact hlt)⟩
        obtain ⟨g, o, rfl, p1⟩ := H4.out k x hx
        obtain ⟨g', o', rfl, q1⟩ := K4.out k y hy
        have s1 := up_cell HB.out (Nat.le_refl _) p1
        have t1 := up_cell HB.out (Nat.le_refl _) q1
        unfold eS at s1 t1
        have hi0 : (0 : Int) ≤ k := by omega
        have hi1 : (k : Int) < n := by omega
        have hd1 : decide ((k : Int) < n) = true := by simp; omega
        have HX := Lib.hid hx
        have HY := Lib.hid hy
        have HLT := Lib.hid hlt
        have he : (x == y) = decide (x = y) := by rw [Bool.eq_iff_iff]; simp
        clear hx hy hlt hk p1 q1
        by_cases hxy : x = y
        · rw [decide_eq_true hxy] at he
          have HXY := Lib.hid hxy
          clear hxy
          go_wp2_with fail
          go_quiet (fail)
          go_wp2_with fail
          go_roundw
          case rel => exact ⟨k + 1, by go_num, by have := HLT.out; omega, Lib.hid (by rw [List.take_add_one, List.take_add_one, HX.out, HY.out, HA.out, HXY.out]), Lib.hid (HB.out.trans ((below_draws _ _).mono HB.out.size))⟩
          case measure => have := HLT.out; simp [intOf]; omega
        · rw [decide_eq_false hxy] at he
          have HXY := Lib.hid hxy
          clear hxy
          go_wp2_with fail
          go_quiet (fail)
          go_wp2_with fail
          go_ret
          refine ⟨bool_ret ?_, HB.out.trans ((below_draws _ _).mono HB.out.size)⟩
          rw [eq_comm, decide_eq_false_iff_not]
          intro e
          have h1 := HX.out
          rw [e, HY.out] at h1
          exact HXY.out (Option.some.inj h1).symm
      · have hd1 : decide ((k : Int) < n) = false := by simp; omega
        have hd2 : decide (k < n) = false := by simp; omega
        have hkn : k = n := by omega
        have HKN := Lib.hid hkn
        clear hlt hk hkn
        go_wp2_with fail
        go_ret
        refine ⟨bool_ret ?_, HB.out⟩
        rw [eq_comm, decide_eq_true_eq]
        have h1 := HA.out
        rw [List.take_of_length_le (by rw [← HN.out, HKN.out]; exact Nat.le_refl _), List.take_of_length_le (by rw [← HN'.out, HKN.out]; exact Nat.le_refl _)] at h1
        exact h1
  · have hne : ((n : Int) != (n' : Int)) = true := by simp; omega
    have hne2 : (n != n') = true := by simp; omega
    have hne3 : ((n : Int) == (n' : Int)) = false := by simp; omega
    have hne4 : (n == n') = false := by simp; omega
    have HNN := Lib.hid hnn
    clear hnn
    go_enter Try.func18, Try.ntmps18
    go_wp2_with fail
    go_ret
    refine ⟨bool_ret ?_, Below.refl _ _⟩
    rw [eq_comm, decide_eq_false_iff_not]
    intro e
    exact HNN.out (by rw [HN.out, HN'.out, e])
end Go.Proofs.Ytnaimmhdpjggmaa.U
