/- The contract of regex.Check. -/
import Derived.Test.YtnaimmhdpjggmaaMh
namespace Go.Proofs.Ytnaimmhdpjggmaa.U
open Go.RowKit

def mis (n : Nd) : Bool := decide (n.op = 2) && !nameL n.sym
set_option maxHeartbeats 1000000 in
theorem mis_any (n : Nd) (w : World) : Calls Try.prog 21 #[.agg #[.int .i64 n.op, .string ⟨n.sym.toArray⟩, .int .i64 n.a, .int .i64 n.b]] w fun e w' => e = .returned (.bool (mis n)) ∧ Below w.heap.size w w' := by
  have HB := Lib.hid ((Below.refl w.heap.size w).alloc (Nat.le_refl _) (.cells #[.int .i64 n.op, .string ⟨n.sym.toArray⟩, .int .i64 n.a, .int .i64 n.b] 45))
  by_cases h2 : n.op = 2
  · obtain ⟨op, sym, a, b⟩ := n
    obtain rfl : op = 2 := h2
    go_enter Try.func21, Try.ntmps21
    go_wp2_with fail
    refine (isName_any _ _).mono ?_
    rintro e w2 ⟨rfl, hb⟩
    have HB2 := Lib.hid (th HB.out (Nat.le_refl _) hb)
    clear hb
    rw [bts_mk]
    generalize hy : nameL sym = y
    have HY := Lib.hid hy
    clear hy
    go_wp2_with fail
    go_ret
    exact ⟨bool_ret (by unfold mis; rw [HY.out]; simp), HB2.out⟩
  · have e2 := ieq_f h2
    have HV : Hid (mis n = false) := Lib.hid (by unfold mis; rw [decide_eq_false h2]; rfl)
    clear h2
    go_enter Try.func21, Try.ntmps21
    go_wp2_with fail
    go_ret
    exact ⟨bool_ret HV.out.symm, HB.out⟩
def IdxN (l : List Nd) (e : Ending) : Prop := (∃ k : Nat, e = .returned (.int .i64 k) ∧ l.any mis = true) ∨ (e = .returned (.int .i64 (-1)) ∧ l.any mis = false)
set_option maxHeartbeats 2000000 in
set_option maxRecDepth 10000 in
theorem indexN_any (v : Value) (l : List Nd) (w : World) (h : NR w v l) :
    Calls Try.prog 44 #[v, .func (.func 21) #[] #[]] w fun e w' => IdxN l e ∧ Below w.heap.size w w' := by
  obtain ⟨a, c, rfl, h2, h3, h4⟩ := h.at
  obtain ⟨n, hn⟩ : ∃ n, n = l.length := ⟨_, rfl⟩
  have hn63 : n ≤ 9223372036854775807 := by unfold maxLen at h3; omega
  have HN := Lib.hid hn
  have H4 := Lib.hid h4
  rw [← hn]
  clear h h2 h3 h4 hn
  go_enter Try.func44, Try.ntmps44
  go_wp2_with fail
  go_loopw [8] (fun i wr => ∃ k : Nat, i = .int .i64 k ∧ k ≤ n ∧ Hid ((l.take k).any mis = false) ∧ Hid (Below w.heap.size w wr)) (fun i _ => n - (intOf i).toNat)
  case atStart => exact ⟨0, rfl, by omega, Lib.hid rfl, Lib.hid (Below.refl _ _)⟩
  case round =>
    obtain ⟨k, rfl, hk, HA, HB⟩ := hrel
    by_cases hlt : k < n
    · obtain ⟨x, hx⟩ : ∃ x, l[k]? = some x := ⟨_, List.getElem?_eq_getElem (by rw [← HN.out]; exact hlt)⟩
      obtain ⟨g, o, rfl, k1, k2, k3, k4⟩ := H4.out k x hx
      have s1 := up_cell HB.out (Nat.le_refl _) k1
      have s2 := up_cell HB.out (Nat.le_refl _) k2
      have s3 := up_cell HB.out (Nat.le_refl _) k3
      have s4 := up_cell HB.out (Nat.le_refl _) k4
      have hi0 : (0 : Int) ≤ k := by omega
      have hi1 : (k : Int) < n := by omega
      have hd1 : decide ((k : Int) < n) = true := by simp; omega
      have HX := Lib.hid hx
      have HLT := Lib.hid hlt
      have HM := Lib.hid (mis_any x)
      clear k1 k2 k3 k4 hx hlt hk
      go_wp2_with fail
      refine (HM.out _).mono ?_
      rintro e w2 ⟨rfl, hb⟩
      have HB2 := Lib.hid (th HB.out (Nat.le_refl _) hb)
      clear hb
      cases hm : mis x with
      | true =>
        have HMX := Lib.hid hm
        clear hm
        go_wp2_with fail
        go_ret
        exact ⟨.inl ⟨k, rfl, List.any_eq_true.2 ⟨x, List.mem_of_getElem? HX.out, HMX.out⟩⟩, HB2.out⟩
      | false =>
        have HMX := Lib.hid hm
        clear hm
        go_wp2_with fail
        go_roundw
        case rel => exact ⟨k + 1, by go_num, by have := HLT.out; omega, Lib.hid (by rw [List.take_add_one, HX.out, List.any_append, HA.out]; simp [HMX.out]), HB2⟩
        case measure => have := HLT.out; simp [intOf]; omega
    · have hd1 : decide ((k : Int) < n) = false := by simp; omega
      have hd2 : decide (k < n) = false := by simp; omega
      have hkn : k = n := by omega
      have HKN := Lib.hid hkn
      clear hlt hk hkn
      go_wp2_with fail
      go_ret
      refine ⟨.inr ⟨rfl, ?_⟩, HB.out⟩
      have h1 := HA.out
      rwa [List.take_of_length_le (by rw [HKN.out, HN.out]; exact Nat.le_refl _)] at h1
set_option maxHeartbeats 1000000 in
theorem containsN_any (v : Value) (l : List Nd) (w : World) (h : NR w v l) :
    Calls Try.prog 24 #[v, .func (.func 21) #[] #[]] w fun e w' => e = .returned (.bool (l.any mis)) ∧ Below w.heap.size w w' := by
  have HC := Lib.hid (indexN_any v l w h)
  clear h
  go_enter Try.func24, Try.ntmps24
  go_wp2_with fail
  refine HC.out.mono ?_
  rintro e w2 ⟨hp, hb⟩
  have HB := Lib.hid hb
  clear hb
  rcases hp with ⟨k, rfl, hv⟩ | ⟨rfl, hv⟩
  · have HV := Lib.hid hv
    clear hv
    have hk : (0 : Int) ≤ k := by omega
    go_wp2_with fail
    go_ret
    exact ⟨bool_ret (by rw [HV.out]), HB.out⟩
  · have HV := Lib.hid hv
    clear hv
    go_wp2_with fail
    go_ret
    exact ⟨bool_ret (by rw [HV.out]), HB.out⟩
theorem names_mis (l : List Nd) : namesB l = !l.any mis := by
  unfold namesB
  rw [Bool.eq_iff_iff, Bool.not_eq_true', List.all_eq_true, bF, List.any_eq_true]
  constructor
  · rintro h ⟨x, hx, hm⟩
    have := h x hx
    unfold mis at hm
    simp at this hm
    rcases this with h1 | h1
    · exact h1 hm.1
    · rw [hm.2] at h1; cases h1
  · intro h x hx
    have : ¬ mis x = true := fun k => h ⟨x, hx, k⟩
    unfold mis at this
    simp at this ⊢
    by_cases h2 : x.op = 2
    · exact .inr (this h2)
    · exact .inl h2
set_option maxHeartbeats 2000000 in
set_option maxRecDepth 10000 in
theorem checkG_any (v : Value) (l : List Nd) (w : World) (h : NR w v l) :
    Calls Try.prog 9 #[.agg #[v]] w fun e w' => e = .returned (.int .i64 (chkP l)) ∧ Below w.heap.size w w' := by
  obtain ⟨a, c, rfl, h2, h3, h4⟩ := h.at
  have hlen : l.length ≤ 9223372036854775807 := by unfold maxLen at h3; omega
  have HB0 := Lib.hid ((Below.refl w.heap.size w).alloc (Nat.le_refl _) (.cells #[.slice a l.length c] 24))
  have hc0 : (w.alloc (.cells #[.slice a l.length c] 24)).cell? ⟨w.heap.size, 0, none⟩ = some (.slice a l.length c) := by simp
  have HR := Lib.hid (fun (W : World) (hb : Below w.heap.size w W) => h.below hb)
  have HC0 := Lib.hid hc0
  obtain ⟨n, hn⟩ : ∃ n, n = l.length := ⟨_, rfl⟩
  rw [← hn] at HB0 HC0 HR hlen ⊢
  have HN := Lib.hid hn
  clear h h2 h3 h4 hc0
  by_cases h1024 : 1024 < n
  · have e1 : decide ((1024 : Int) < n) = true := by simp; omega
    have e2 : decide (1024 < n) = true := by simp; omega
    have HV : Hid (chkP l = 17) := Lib.hid (by unfold chkP; rw [if_pos (by omega)])
    clear h1024 hn
    go_enter Try.func9, Try.ntmps9
    go_wp2_with fail
    go_ret
    exact ⟨by rw [HV.out]; rfl, HB0.out⟩
  · have e1 : decide ((1024 : Int) < n) = false := by simp; omega
    have e2 : decide (1024 < n) = false := by simp; omega
    have HF := Lib.hid (fun (W : World) (hb : Below w.heap.size w W) => formed_any _ l W (HR.out W hb) (by omega))
    have HK := Lib.hid (fun (W : World) (hb : Below w.heap.size w W) => containsN_any _ l W (HR.out W hb))
    have H17 : Hid (¬ 1024 < l.length) := Lib.hid (by omega)
    clear h1024 hn
    go_enter Try.func9, Try.ntmps9
    go_wp2_with fail
    refine (HF.out _ HB0.out).mono ?_
    rintro e w2 ⟨rfl, hb⟩
    have c2 := up_cell hb (Nat.le_refl _) HC0.out
    have HB2 := Lib.hid (th HB0.out (Nat.le_refl _) hb)
    clear hb
    cases hf : formB l with
    | false =>
      have HV : Hid (chkP l = 12) := Lib.hid (by unfold chkP; rw [if_neg H17.out, hf]; rfl)
      clear hf
      go_wp2_with fail
      go_ret
      exact ⟨by rw [HV.out]; rfl, HB2.out⟩
    | true =>
      have HFT := Lib.hid hf
      clear hf
      go_wp2_with fail
      refine (HK.out _ HB2.out).mono ?_
      rintro e w3 ⟨rfl, hb⟩
      have HB3 := Lib.hid (th HB2.out (Nat.le_refl _) hb)
      clear hb c2
      cases hm : l.any mis with
      | true =>
        have HV : Hid (chkP l = 11) := Lib.hid (by unfold chkP; rw [if_neg H17.out, HFT.out, names_mis, hm]; rfl)
        clear hm
        go_wp2_with fail
        go_ret
        exact ⟨by rw [HV.out]; rfl, HB3.out⟩
      | false =>
        have HV : Hid (chkP l = 0) := Lib.hid (by unfold chkP; rw [if_neg H17.out, HFT.out, names_mis, hm]; rfl)
        clear hm
        go_wp2_with fail
        go_ret
        exact ⟨by rw [HV.out]; rfl, HB3.out⟩
end Go.Proofs.Ytnaimmhdpjggmaa.U
