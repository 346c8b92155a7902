/- The contracts of slices.Contains of numbers, and of what tells a part's text. -/
import Derived.Test.YtnaimmhdpjggmaaMi
import Derived.Test.YtnaimmhdpjggmaaRx3
namespace Go.Proofs.Ytnaimmhdpjggmaa.U
open Go.RowKit

def IdxI (q : Int) (l : List Int) (e : Ending) : Prop := (∃ k : Nat, e = .returned (.int .i64 k) ∧ l.contains q = true) ∨ (e = .returned (.int .i64 (-1)) ∧ l.contains q = false)
set_option maxHeartbeats 2000000 in
set_option maxRecDepth 10000 in
theorem indexI_any (v : Value) (q : Int) (l : List Int) (w : World) (h : VR eI w v l) :
    Calls Try.prog 53 #[v, .int .i64 q] w fun e w' => IdxI q l e ∧ Below w.heap.size w w' := by
  obtain ⟨a, c, rfl, h2, h3, h4⟩ := h.at
  obtain ⟨n, hn⟩ : ∃ n, n = l.length := ⟨_, rfl⟩
  have hn63 : n ≤ 9223372036854775807 := by unfold maxLen at h3; omega
  have HN := Lib.hid hn
  have H4 := Lib.hid h4
  rw [← hn]
  clear h h2 h3 h4 hn
  go_enter Try.func53, Try.ntmps53
  go_wp2_with fail
  go_loopw [8] (fun i wr => ∃ k : Nat, i = .int .i64 k ∧ k ≤ n ∧ Hid ((l.take k).contains q = false) ∧ Hid (Below w.heap.size w wr)) (fun i _ => n - (intOf i).toNat)
  case atStart => exact ⟨0, rfl, by omega, Lib.hid rfl, Lib.hid (Below.refl _ _)⟩
  case round =>
    obtain ⟨k, rfl, hk, HA, HB⟩ := hrel
    by_cases hlt : k < n
    · obtain ⟨x, hx⟩ : ∃ x, l[k]? = some x := ⟨_, List.getElem?_eq_getElem (by rw [← HN.out]; exact hlt)⟩
      obtain ⟨g, o, rfl, k1⟩ := H4.out k x hx
      have s1 := up_cell HB.out (Nat.le_refl _) k1
      unfold eI at s1
      have hi0 : (0 : Int) ≤ k := by omega
      have hi1 : (k : Int) < n := by omega
      have hd1 : decide ((k : Int) < n) = true := by simp; omega
      have HX := Lib.hid hx
      have HLT := Lib.hid hlt
      clear k1 hx hlt hk
      by_cases hqx : q = x
      · have HQX := Lib.hid hqx
        subst hqx
        go_wp2_with fail
        go_ret
        refine ⟨.inl ⟨k, rfl, ?_⟩, HB.out⟩
        rw [List.contains_iff_mem]
        exact List.mem_of_getElem? HX.out
      · have e1 := ieq_f hqx
        have e2 : ¬ q = x := hqx
        have HQX := Lib.hid hqx
        clear hqx
        go_wp2_with fail
        go_roundw
        case rel => exact ⟨k + 1, by go_num, by have := HLT.out; omega, Lib.hid (by
          rw [List.take_add_one, HX.out, bF, List.contains_iff_mem]
          intro hm
          rcases List.mem_append.1 hm with h9 | h9
          · have := HA.out
            rw [bF, List.contains_iff_mem] at this
            exact this h9
          · simp at h9
            exact HQX.out h9), HB⟩
        case measure => have := HLT.out; simp [intOf]; omega
    · have hd1 : decide ((k : Int) < n) = false := by simp; omega
      have hd2 : decide (k < n) = false := by simp; omega
      have hkn : k = n := by omega
      have HKN := Lib.hid hkn
      clear hlt hk hkn
      go_wp2_with fail
      go_ret
      refine ⟨.inr ⟨rfl, ?_⟩, HB.out⟩
      have h1 := HA.out
      rwa [List.take_of_length_le (by rw [HKN.out, HN.out]; exact Nat.le_refl _)] at h1
set_option maxHeartbeats 1000000 in
theorem containsI_any (v : Value) (q : Int) (l : List Int) (w : World) (h : VR eI w v l) :
    Calls Try.prog 35 #[v, .int .i64 q] w fun e w' => e = .returned (.bool (l.contains q)) ∧ Below w.heap.size w w' := by
  have HC := Lib.hid (indexI_any v q l w h)
  clear h
  go_enter Try.func35, Try.ntmps35
  go_wp2_with fail
  refine HC.out.mono ?_
  rintro e w2 ⟨hp, hb⟩
  have HB := Lib.hid hb
  clear hb
  rcases hp with ⟨k, rfl, hv⟩ | ⟨rfl, hv⟩
  · have HV := Lib.hid hv
    clear hv
    have hk : (0 : Int) ≤ k := by omega
    go_wp2_with fail
    go_ret
    exact ⟨bool_ret (by rw [HV.out]), HB.out⟩
  · have HV := Lib.hid hv
    clear hv
    go_wp2_with fail
    go_ret
    exact ⟨bool_ret (by rw [HV.out]), HB.out⟩
theorem add_any (x y : Wd) (hx : x.length ≤ 4000000) (hy : y.length ≤ 4000000) (W : World) : (Op.stringOp .add ⟨x.toArray⟩ ⟨y.toArray⟩).run Try.prog W = .ok (.string ⟨(x ++ y).toArray⟩) W := run_string_add_lists W x y (by omega) (by omega)
set_option maxHeartbeats 2000000 in
set_option maxRecDepth 10000 in
theorem part_any (p : Nat) (sv v : Value) (shut : List Int) (l : List Nd) (x : Wd) (rb tv tb n : Nat) (w : World) (hp : p < n) (hln : l.length = n) (hs : VR eI w sv shut) (hr : w.cell? ⟨rb, 0, none⟩ = some v) (hv : NR w v l)
    (ht : w.cell? ⟨tv, 0, none⟩ = some (.slice (some ⟨tb, 0, none⟩) n n)) (hx : w.cell? ⟨tb, p, none⟩ = some (.string ⟨x.toArray⟩)) (hxl : x.length ≤ 100000) :
    Calls Try.prog 34 #[.int .i64 (p : Int), sv, .pointer (some ⟨rb, 0, none⟩), .pointer (some ⟨tv, 0, none⟩)] w fun e w' => e = .returned (.string ⟨(par (shut.contains (nd l p).op) x).toArray⟩) ∧ Below w.heap.size w w' := by
  obtain ⟨y, hy⟩ : ∃ y, l[p]? = some y := ⟨_, List.getElem?_eq_getElem (by omega)⟩
  obtain ⟨a, c, rfl, _, _, h4⟩ := hv.at
  obtain ⟨g, o, rfl, k1, k2, k3, k4⟩ := h4 p y hy
  have HC := Lib.hid (containsI_any sv y.op shut w hs)
  rw [nd_at hy]
  rw [hln] at hr
  have hi0 : (0 : Int) ≤ p := by omega
  have hi1 : (p : Int) < n := by omega
  have HT := Lib.hid ht
  have HXC := Lib.hid hx
  have ha1 := add_any [40] x (by simp) (by omega)
  have ha2 := add_any (40 :: x) [41] (by simp; omega) (by simp)
  have e1 : ([40] ++ x : Wd) = 40 :: x := rfl
  rw [e1] at ha1
  obtain ⟨z1, hz1⟩ : ∃ z, z = 40 :: x := ⟨_, rfl⟩
  obtain ⟨z2, hz2⟩ : ∃ z, z = z1 ++ [41] := ⟨_, rfl⟩
  rw [← hz1] at ha1 ha2
  rw [← hz2] at ha2
  have ha1' : ∀ W, (Op.stringOp .add ⟨#[40]⟩ ⟨x.toArray⟩).run Try.prog W = .ok (.string ⟨z1.toArray⟩) W := ha1
  have ha2' : ∀ W, (Op.stringOp .add ⟨z1.toArray⟩ ⟨#[41]⟩).run Try.prog W = .ok (.string ⟨z2.toArray⟩) W := ha2
  have HZ : Hid (z2 = par true x) := Lib.hid (by rw [hz2, hz1]; rfl)
  clear hs hv ht hx hxl hy h4 k2 k3 k4 ha1 ha2 e1 hz1 hz2 hp hln
  go_enter Try.func34, Try.ntmps34
  go_wp2_with fail
  refine HC.out.mono ?_
  rintro e w2 ⟨rfl, hb⟩
  have c1 := up_cell hb (Nat.le_refl _) HT.out
  have c2 := up_cell hb (Nat.le_refl _) HXC.out
  have HB := Lib.hid hb
  clear hb
  cases hc : shut.contains y.op with
  | true =>
    have HCC := Lib.hid hc
    clear hc
    go_wp2_with fail
    go_ret
    exact ⟨by rw [HCC.out, ← HZ.out]; rfl, HB.out⟩
  | false =>
    have HCC := Lib.hid hc
    clear hc
    go_wp2_with fail
    go_ret
    exact ⟨by rw [HCC.out]; rfl, HB.out⟩
end Go.Proofs.Ytnaimmhdpjggmaa.U
