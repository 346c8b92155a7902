/- The document's Check. -/
import Derived.Test.YtnaimmhdpjggmaaMi
import Derived.Test.YtnaimmhdpjggmaaRi
import Derived.Deep.CutRange
namespace Go.Proofs.Ytnaimmhdpjggmaa.U
open Go.RowKit

theorem okN_good {x : Nd} (h : okN x = true) : (x.op = 0 ∧ x.sym = [] ∧ x.a = 0 ∧ x.b = 0) ∨ (x.op = 1 ∧ x.sym = [] ∧ x.a = 0 ∧ x.b = 0) ∨ (x.op = 2 ∧ x.a = 0 ∧ x.b = 0) ∨ (x.op = 3 ∧ x.sym = []) ∨ (x.op = 4 ∧ x.sym = []) ∨ (x.op = 5 ∧ x.sym = [] ∧ x.b = 0) := by
  unfold okN at h
  simp only [decide_eq_true_eq] at h
  rcases h with ⟨h | h, h1⟩ | h | ⟨h | h, h1⟩ | h
  · exact .inl ⟨h, h1⟩
  · exact .inr (.inl ⟨h, h1⟩)
  · exact .inr (.inr (.inl h))
  · exact .inr (.inr (.inr (.inl ⟨h, h1⟩)))
  · exact .inr (.inr (.inr (.inr (.inl ⟨h, h1⟩))))
  · exact .inr (.inr (.inr (.inr (.inr h))))
theorem okN_bad {x : Nd} (h : okN x = false) : x.op < 0 ∨ 5 < x.op ∨ (x.op = 0 ∧ x.sym ≠ []) ∨ (x.op = 1 ∧ x.sym ≠ []) ∨ (x.op = 3 ∧ x.sym ≠ []) ∨ (x.op = 4 ∧ x.sym ≠ []) ∨ (x.op = 5 ∧ x.sym ≠ []) ∨
    (x.op = 0 ∧ x.sym = [] ∧ x.a ≠ 0) ∨ (x.op = 1 ∧ x.sym = [] ∧ x.a ≠ 0) ∨ (x.op = 2 ∧ x.a ≠ 0) ∨ (x.op = 0 ∧ x.sym = [] ∧ x.a = 0 ∧ x.b ≠ 0) ∨ (x.op = 1 ∧ x.sym = [] ∧ x.a = 0 ∧ x.b ≠ 0) ∨ (x.op = 2 ∧ x.a = 0 ∧ x.b ≠ 0) ∨ (x.op = 5 ∧ x.sym = [] ∧ x.b ≠ 0) := by
  obtain ⟨op, sym, a, b⟩ := x
  rcases (show op < 0 ∨ op = 0 ∨ op = 1 ∨ op = 2 ∨ op = 3 ∨ op = 4 ∨ op = 5 ∨ 5 < op by omega) with h1 | rfl | rfl | rfl | rfl | rfl | rfl | h1
  · exact .inl h1
  all_goals
    first
      | exact .inr (.inl h1)
      | (simp [okN] at h
         by_cases hs : sym = [] <;> by_cases ha : a = 0 <;> by_cases hb : b = 0 <;> simp_all)
/-- What is known in the rounds of the document's Check. -/
structure CkI (w wr : World) (l : List Nd) (k : Nat) (ub : Nat) (U : List Int) : Prop where
  ok : ∀ i n, i < k → l[i]? = some n → okAt n i = true
  row : WR wr ub 3 ((cntL l.length U).map eI)
  kept : Below w.heap.size w wr
  low : w.heap.size ≤ ub
theorem CkI.below {w wr wx : World} {l : List Nd} {k ub : Nat} {U : List Int} (h : CkI w wr l k ub U) (hb : Below wr.heap.size wr wx) : CkI w wx l k ub U :=
  ⟨h.ok, h.row.below hb, Go.Proofs.Ytnaimmhdpjggmaa.U.th h.kept (Nat.le_refl _) hb, h.low⟩
theorem strne {s : Wd} (h : s ≠ []) : s.isEmpty = false ∧ (s == []) = false := by
  constructor
  · cases s with
    | nil => exact absurd rfl h
    | cons => rfl
  · simp [h]
theorem chk12 {l : List Nd} (h1 : l.length ≤ 1024) (h : formB l = false) : chkP l = 12 := by unfold chkP; rw [if_neg (by omega), h]; rfl
theorem chk11 {l : List Nd} (h1 : l.length ≤ 1024) (h : formB l = true) (h2 : namesB l = false) : chkP l = 11 := by unfold chkP; rw [if_neg (by omega), h, h2]; rfl
theorem chk00 {l : List Nd} (h1 : l.length ≤ 1024) (h : formB l = true) (h2 : namesB l = true) : chkP l = 0 := by unfold chkP; rw [if_neg (by omega), h, h2]; rfl
def PartsPost2 (n : Nd) (w : World) (e : Ending) (w' : World) : Prop := ∃ v, e = .returned v ∧ VF eI w.heap.size w' v (partsN n) ∧ Below w.heap.size w w'
set_option maxHeartbeats 1000000 in
theorem parts2_any (n : Nd) (w : World) : Calls Try.prog 19 #[.agg #[.int .i64 n.op, .string ⟨n.sym.toArray⟩, .int .i64 n.a, .int .i64 n.b]] w fun e w' => PartsPost2 n w e w' := by
  have HB := Lib.hid ((Below.refl w.heap.size w).alloc (Nat.le_refl _) (.cells #[.int .i64 n.op, .string ⟨n.sym.toArray⟩, .int .i64 n.a, .int .i64 n.b] 46))
  rcases (show n.op = 3 ∨ n.op = 4 ∨ n.op = 5 ∨ (n.op ≠ 3 ∧ n.op ≠ 4 ∧ n.op ≠ 5) by omega) with h | h | h | ⟨h3, h4, h5⟩
  · have hp := Lib.hid (parts34 (.inl h))
    obtain ⟨op, sym, a, b⟩ := n
    obtain rfl : op = 3 := h
    go_enter Try.func19, Try.ntmps19
    go_wp2_with fail
    go_ret
    refine ⟨_, rfl, by rw [hp.out]; exact VF.at2 a b (by omega) (by unfold eI; go_simp) (by unfold eI; go_simp), HB.out.alloc (by simp) _⟩
  · have hp := Lib.hid (parts34 (.inr h))
    obtain ⟨op, sym, a, b⟩ := n
    obtain rfl : op = 4 := h
    go_enter Try.func19, Try.ntmps19
    go_wp2_with fail
    go_ret
    refine ⟨_, rfl, by rw [hp.out]; exact VF.at2 a b (by omega) (by unfold eI; go_simp) (by unfold eI; go_simp), HB.out.alloc (by simp) _⟩
  · have hp := Lib.hid (parts5 h)
    obtain ⟨op, sym, a, b⟩ := n
    obtain rfl : op = 5 := h
    go_enter Try.func19, Try.ntmps19
    go_wp2_with fail
    go_ret
    refine ⟨_, rfl, by rw [hp.out]; exact VF.at1 a (by omega) (by unfold eI; go_simp), HB.out.alloc (by simp) _⟩
  · have hp := Lib.hid (parts0 h3 h4 h5)
    have e3 := ieq_f h3
    have e4 := ieq_f h4
    have e5 := ieq_f h5
    clear h3 h4 h5
    go_enter Try.func19, Try.ntmps19
    go_wp2_with fail
    go_ret
    exact ⟨_, rfl, by rw [hp.out]; exact VF.nil _ _ _, HB.out⟩

set_option maxHeartbeats 8000000 in
set_option maxRecDepth 20000 in
theorem checkR_any (v : Value) (l : List Nd) (w : World) (h : NR w v l) (hl : l.length ≤ 1024) (hsy : ∀ n ∈ l, n.sym.length ≤ 1000000) :
    Calls Try.prog 8 #[v] w fun e w' => e = .returned (.int .i64 (chkP l)) ∧ Below w.heap.size w w' := by
  obtain ⟨a, c, rfl, h2, h3, h4⟩ := h.at
  obtain ⟨n, hn⟩ : ∃ n, n = l.length := ⟨_, rfl⟩
  rw [← hn] at hl ⊢
  have HN := Lib.hid hn
  by_cases hz : n = 0
  · have hv : chkP l = 12 := by
      have : l = [] := List.eq_nil_of_length_eq_zero (by rw [← hn]; exact hz)
      rw [this]; rfl
    rw [hv]
    subst hz
    clear h h2 h3 h4 hn hv hl hsy
    go_enter Try.func8, Try.ntmps8
    go_wp2_with fail
    go_ret
    exact ⟨rfl, Below.refl _ _⟩
  · have hmk := make_i n (by omega)
    have H0 : Hid (CkI w (w.alloc (.cells (List.replicate n (Value.int .i64 0)).toArray 3)) l 0 w.heap.size (usesL (l.take 0))) := Lib.hid
      ⟨fun i n h => by omega, by rw [← hn, show usesL (l.take 0) = [] by simp [usesL], cntL_nil, ← rep_map]; exact WR.new _ _ _, (Below.refl _ w).alloc (Nat.le_refl _) _, Nat.le_refl _⟩
    have hz1 : ((n : Int) == 0) = false := by simp; omega
    have hz2 : (n == 0) = false := by simp; omega
    have H4 := Lib.hid h4
    have HS := Lib.hid hsy
    have HZ := Lib.hid hz
    clear h h2 h3 h4 hn hz hsy
    go_enter Try.func8, Try.ntmps8
    go_wp2_with fail
    go_loopw [4] (fun i wr => ∃ k : Nat, i = .int .i64 k ∧ k ≤ n ∧ Hid (CkI w wr l k w.heap.size (usesL (l.take k)))) (fun i _ => n - (intOf i).toNat)
    case atStart => exact ⟨0, rfl, by omega, H0⟩
    case round =>
      obtain ⟨k, rfl, hk, HF⟩ := hrel
      by_cases hlt : k < n
      · obtain ⟨x, hx⟩ : ∃ x, l[k]? = some x := ⟨_, List.getElem?_eq_getElem (by rw [← HN.out]; exact hlt)⟩
        obtain ⟨g, o, rfl, k1, k2, k3, k4⟩ := H4.out k x hx
        have s1 := up_cell HF.out.kept (Nat.le_refl _) k1
        have s2 := up_cell HF.out.kept (Nat.le_refl _) k2
        have s3 := up_cell HF.out.kept (Nat.le_refl _) k3
        have s4 := up_cell HF.out.kept (Nat.le_refl _) k4
        have hi0 : (0 : Int) ≤ k := by omega
        have hi1 : (k : Int) < n := by omega
        have hd1 : decide ((k : Int) < n) = true := by simp; omega
        have HX := Lib.hid hx
        have HLT := Lib.hid hlt
        have HP := Lib.hid (parts2_any x)
        obtain ⟨W6, hW6⟩ : ∃ W6, W6 = wr.alloc (.cells #[.int .i64 x.op, .string ⟨x.sym.toArray⟩, .int .i64 x.a, .int .i64 x.b] 46) := ⟨_, rfl⟩
        have hb6 : Below wr.heap.size wr W6 := by rw [hW6]; exact (Below.refl _ _).alloc (Nat.le_refl _) _
        have HF6 := Lib.hid (HF.out.below hb6)
        have hWR : WR W6 wr.heap.size 46 (ndC x) := by rw [hW6]; exact WR.new wr _ _
        have q0 := hWR.cell (j := 0) rfl
        have q1 := hWR.cell (j := 1) rfl
        have q2 := hWR.cell (j := 2) rfl
        have q3 := hWR.cell (j := 3) rfl
        obtain ⟨B, hB⟩ : ∃ B, B = W6.heap.size := ⟨_, rfl⟩
        have HBB := Lib.hid hB
        have HW6 := Lib.hid hW6
        clear k1 k2 k3 k4 hx hlt hk hb6 hW6 hWR hB
        go_upto_region 10 with fail
        rw [← HW6.out]
        clear s1 s2 s3 s4
        go_cut [71] from 19 to 101 (fun s71 wx => s71 = .bool (!okN x) ∧ Hid (wx = W6))
        case first =>
          cases hok : okN x with
          | true =>
            have HOK := Lib.hid hok
            rcases okN_good hok with ⟨e1, e2, e3, e4⟩ | ⟨e1, e2, e3, e4⟩ | ⟨e1, e3, e4⟩ | ⟨e1, e2⟩ | ⟨e1, e2⟩ | ⟨e1, e2, e4⟩
            all_goals (
              try rw [e1] at q0
              try rw [e2] at q1
              try rw [e3] at q2
              try rw [e4] at q3
              clear hok
              try clear e1
              try clear e2
              try clear e3
              try clear e4
              go_wp2_with fail
              go_meet
              case rel => exact ⟨by rw [HOK.out]; rfl, Lib.hid rfl⟩)
          | false =>
            have HOK := Lib.hid hok
            have hbad := okN_bad hok
            clear hok
            rcases hbad with h1 | h1 | ⟨e1, z2⟩ | ⟨e1, z2⟩ | ⟨e1, z2⟩ | ⟨e1, z2⟩ | ⟨e1, z2⟩ | ⟨e1, e2, z3⟩ | ⟨e1, e2, z3⟩ | ⟨e1, z3⟩ | ⟨e1, e2, e3, z4⟩ | ⟨e1, e2, e3, z4⟩ | ⟨e1, e3, z4⟩ | ⟨e1, e2, z4⟩
            · have d1 : decide (x.op < 0) = true := by simp [h1]
              clear h1
              go_wp2_with fail
              go_meet
              case rel => exact ⟨by rw [HOK.out]; rfl, Lib.hid rfl⟩
            · have d1 : decide (x.op < 0) = false := by simp; omega
              have d2 : decide ((5 : Int) < x.op) = true := by simp [h1]
              clear h1
              go_wp2_with fail
              go_meet
              case rel => exact ⟨by rw [HOK.out]; rfl, Lib.hid rfl⟩
            · rw [e1] at q0
              obtain ⟨n1, n2⟩ := strne z2
              clear e1 z2
              go_wp2_with fail
              go_meet
              case rel => exact ⟨by rw [HOK.out]; rfl, Lib.hid rfl⟩
            · rw [e1] at q0
              obtain ⟨n1, n2⟩ := strne z2
              clear e1 z2
              go_wp2_with fail
              go_meet
              case rel => exact ⟨by rw [HOK.out]; rfl, Lib.hid rfl⟩
            · rw [e1] at q0
              obtain ⟨n1, n2⟩ := strne z2
              clear e1 z2
              go_wp2_with fail
              go_meet
              case rel => exact ⟨by rw [HOK.out]; rfl, Lib.hid rfl⟩
            · rw [e1] at q0
              obtain ⟨n1, n2⟩ := strne z2
              clear e1 z2
              go_wp2_with fail
              go_meet
              case rel => exact ⟨by rw [HOK.out]; rfl, Lib.hid rfl⟩
            · rw [e1] at q0
              obtain ⟨n1, n2⟩ := strne z2
              clear e1 z2
              go_wp2_with fail
              go_meet
              case rel => exact ⟨by rw [HOK.out]; rfl, Lib.hid rfl⟩
            · rw [e1] at q0
              rw [e2] at q1
              clear e1 e2
              go_wp2_with fail
              go_meet
              case rel => exact ⟨by rw [HOK.out]; rfl, Lib.hid rfl⟩
            · rw [e1] at q0
              rw [e2] at q1
              clear e1 e2
              go_wp2_with fail
              go_meet
              case rel => exact ⟨by rw [HOK.out]; rfl, Lib.hid rfl⟩
            · rw [e1] at q0
              clear e1
              go_wp2_with fail
              go_meet
              case rel => exact ⟨by rw [HOK.out]; rfl, Lib.hid rfl⟩
            · rw [e1] at q0
              rw [e2] at q1
              rw [e3] at q2
              clear e1 e2 e3
              go_wp2_with fail
              go_meet
              case rel => exact ⟨by rw [HOK.out]; rfl, Lib.hid rfl⟩
            · rw [e1] at q0
              rw [e2] at q1
              rw [e3] at q2
              clear e1 e2 e3
              go_wp2_with fail
              go_meet
              case rel => exact ⟨by rw [HOK.out]; rfl, Lib.hid rfl⟩
            · rw [e1] at q0
              rw [e3] at q2
              clear e1 e3
              go_wp2_with fail
              go_meet
              case rel => exact ⟨by rw [HOK.out]; rfl, Lib.hid rfl⟩
            · rw [e1] at q0
              rw [e2] at q1
              clear e1 e2
              go_wp2_with fail
              go_meet
              case rel => exact ⟨by rw [HOK.out, show (x.b != 0) = true by simpa using z4]; rfl, Lib.hid rfl⟩
        case rest =>
          obtain ⟨rfl, HWC⟩ := hcut
          obtain rfl := HWC.out
          cases hok : okN x with
          | false =>
            have HOK := Lib.hid hok
            clear hok
            go_wp2_with fail
            go_ret
            exact ⟨by rw [chk12 (by rw [← HN.out]; exact hl) (form_not_at HX.out (okAt_f1 HOK.out))]; rfl, HF6.out.kept⟩
          | true =>
            have HOK := Lib.hid hok
            clear hok
            go_wp2_with fail
            refine (HP.out _).mono ?_
            rintro e w2 ⟨vp, rfl, hv, hb2⟩
            rw [← HBB.out] at hv
            have HV := Lib.hid hv
            have HF2 := Lib.hid (HF6.out.below hb2)
            have HSZ : Hid (w.heap.size < B) := Lib.hid (by rw [HBB.out]; exact HF6.out.row.lt)
            obtain ⟨pa, pc, rfl, p2, p3, _⟩ := hv.at
            obtain ⟨m, hm⟩ : ∃ m, m = (partsN x).length := ⟨_, rfl⟩
            have hm2 : m ≤ 2 := by rw [hm]; exact partsN_len x
            have HM := Lib.hid hm
            rw [← hm] at HV ⊢
            clear hv hb2 p2 p3 hm q0 q1 q2 q3
            go_wp2_with fail
            go_loopw [7] (fun i wq => ∃ q : Nat, i = .int .i64 q ∧ q ≤ m ∧ Hid (CkI w wq l k w.heap.size (usesL (l.take k) ++ (partsN x).take q)) ∧ Hid (∀ p ∈ (partsN x).take q, 0 ≤ p ∧ p < (k : Int)) ∧ Hid (VF eI B wq (.slice pa m pc) (partsN x))) (fun i _ => m - (intOf i).toNat)
            case atStart => exact ⟨0, rfl, by omega, Lib.hid (by simpa using HF2.out), Lib.hid (fun p hp => by simp at hp), HV⟩
            case round =>
              obtain ⟨q, rfl, hq, HG, HPB, HVQ⟩ := hrel
              by_cases hqm : q < m
              · obtain ⟨p, hp⟩ : ∃ p, (partsN x)[q]? = some p := ⟨_, List.getElem?_eq_getElem (by rw [← HM.out]; exact hqm)⟩
                obtain ⟨pa', pc', e1, _, _, q4⟩ := HVQ.out.at
                obtain ⟨pg, po, rfl, hpg, t1⟩ := q4 q p hp
                simp only [Value.slice.injEq] at e1
                obtain ⟨rfl, -, rfl⟩ := e1
                unfold eI at t1
                have hj0 : (0 : Int) ≤ q := by omega
                have hj1 : (q : Int) < m := by omega
                have hd2 : decide ((q : Int) < m) = true := by simp; omega
                have HPQ := Lib.hid hp
                have HQM := Lib.hid hqm
                have hpm : p ∈ partsN x := List.mem_of_getElem? hp
                have HPM := Lib.hid hpm
                have HPG := Lib.hid hpg
                clear q4 hp hqm hq hpm hpg
                by_cases hp0 : p < 0
                · have e1 : decide (p < 0) = true := by simp [hp0]
                  have HPP := Lib.hid hp0
                  clear hp0
                  go_wp2_with fail
                  go_ret
                  exact ⟨by rw [chk12 (by rw [← HN.out]; exact hl) (form_not_at HX.out (okAt_f2 HPM.out (by have := HPP.out; omega)))]; rfl, HG.out.kept⟩
                · have e1 : decide (p < 0) = false := by simp; omega
                  by_cases hpk : (k : Int) ≤ p
                  · have e2 : decide ((k : Int) ≤ p) = true := by simp [hpk]
                    have HPP := Lib.hid hpk
                    clear hpk hp0
                    go_wp2_with fail
                    go_ret
                    exact ⟨by rw [chk12 (by rw [← HN.out]; exact hl) (form_not_at HX.out (okAt_f2 HPM.out (by have := HPP.out; omega)))]; rfl, HG.out.kept⟩
                  · have e2 : decide ((k : Int) ≤ p) = false := by simp; omega
                    obtain ⟨pn, rfl, hpn⟩ := nat_of (p := p) (i := k) (by omega)
                    have hpl : pn < l.length := by have := HLT.out; have := HN.out; omega
                    have t2 := HG.out.row.cell (j := pn) (by rw [List.getElem?_map, cntL_get _ hpl]; rfl)
                    have t3 := HG.out.row.froz pn
                    unfold eI at t2
                    have hpi : (pn : Int) < n := by have := HLT.out; omega
                    have hpz : (0 : Int) ≤ pn := by omega
                    have hpd : decide ((pn : Int) < 0) = false := by simp
                    have hkp : decide (k ≤ pn) = false := by simp; omega
                    have HPN := Lib.hid hpn
                    have HPL := Lib.hid hpl
                    obtain ⟨cn, hcn⟩ : ∃ cn, cn = (usesL (l.take k) ++ (partsN x).take q).count (pn : Int) := ⟨_, rfl⟩
                    rw [← hcn] at t2
                    have hcb : cn ≤ 1000000 := by
                      have c1 := List.count_le_length (a := (pn : Int)) (l := usesL (l.take k) ++ (partsN x).take q)
                      have c2 := uses_len (l.take k)
                      have c3 := partsN_len x
                      have c4 := HLT.out
                      rw [List.length_append, List.length_take] at c1
                      rw [List.length_take] at c2
                      omega
                    have HG2 : Hid (CkI w (wr.setCell ⟨w.heap.size, pn, none⟩ (.int .i64 ((cn : Int) + 1))) l k w.heap.size (usesL (l.take k) ++ (partsN x).take (q + 1))) := Lib.hid (by
                      refine ⟨HG.out.ok, ?_, HG.out.kept.setCell (Nat.le_refl _) _, Nat.le_refl _⟩
                      rw [take_snocP HPQ.out, ← cntL_set _ HPL.out, ← map_set, ← hcn]
                      exact HG.out.row.set pn (.int .i64 ((cn : Int) + 1)))
                    clear hp0 hpk hpn hpl hcn
                    go_wp2_with fail
                    go_roundw
                    case rel => exact ⟨q + 1, by go_num, by have := HQM.out; omega, HG2, Lib.hid (fun y hy => by
                      rw [List.take_add_one, HPQ.out] at hy
                      rcases List.mem_append.1 hy with h9 | h9
                      · exact HPB.out y h9
                      · simp at h9
                        subst h9
                        have := HPN.out; omega), Lib.hid (HVQ.out.set HSZ.out _)⟩
                    case measure => have := HQM.out; simp [intOf]; omega
              · have hd2 : decide ((q : Int) < m) = false := by simp; omega
                have hd3 : decide (q < m) = false := by simp; omega
                have hqe : q = m := by omega
                have HQE := Lib.hid hqe
                clear hqm hq hqe
                go_wp2_with fail
                go_roundw
                case rel =>
                  have h9 := HG.out
                  have h8 := HPB.out
                  have e9 : (partsN x).take q = partsN x := List.take_of_length_le (by rw [HQE.out, HM.out]; exact Nat.le_refl _)
                  rw [e9] at h9 h8
                  refine ⟨k + 1, by go_num, by have := HLT.out; omega, Lib.hid ⟨fun i y hi hy => ?_, ?_, h9.kept, h9.low⟩⟩
                  · by_cases e : i = k
                    · subst e
                      rw [HX.out] at hy
                      obtain rfl := Option.some.inj hy
                      exact okAt_iff.2 ⟨HOK.out, h8⟩
                    · exact h9.ok i y (by omega) hy
                  · rw [uses_snoc HX.out]; exact h9.row
                case measure => have := HLT.out; simp [intOf]; omega
      · have hd1 : decide ((k : Int) < n) = false := by simp; omega
        have hd2 : decide (k < n) = false := by simp; omega
        have hkn : k = n := by omega
        have hF := HF.out
        rw [List.take_of_length_le (by rw [hkn, HN.out]; exact Nat.le_refl _)] at hF
        have HF := Lib.hid hF
        have hok : ∀ i y, l[i]? = some y → okAt y i = true := fun i y hy => HF.out.ok i y (by rw [hkn, HN.out]; exact (List.getElem?_eq_some_iff.1 hy).1) hy
        have HOKS := Lib.hid hok
        obtain ⟨m, hm⟩ : ∃ m, n = m + 1 := ⟨n - 1, by have := HZ.out; omega⟩
        have hm1 : (n : Int) - 1 = (m : Int) := by omega
        have HM := Lib.hid hm
        obtain ⟨wa, hwa⟩ : ∃ wa, wa = wr := ⟨_, rfl⟩
        rw [← hwa] at HF
        have HWA := Lib.hid hwa
        clear hlt hk hkn hF hok hm hwa
        go_wp2_with fail
        go_loopw [8] (fun i wq => ∃ q : Nat, i = .int .i64 q ∧ q ≤ m ∧ Hid (∀ j : Nat, j < q → (usesL l).count (j : Int) = 1) ∧ Hid (Below wa.heap.size wa wq)) (fun i _ => m - (intOf i).toNat)
        case atStart => exact ⟨0, rfl, by omega, Lib.hid (fun j hj => by omega), Lib.hid (by rw [HWA.out]; exact Below.refl _ _)⟩
        case round =>
          obtain ⟨q, rfl, hq, HC, HBQ⟩ := hrel
          by_cases hqm : q < m
          · have hql : q < l.length := by have := HM.out; have := HN.out; omega
            have t1 := up_cell HBQ.out (Nat.le_refl _) (HF.out.row.cell (j := q) (by rw [List.getElem?_map, cntL_get _ hql]; rfl))
            unfold eI at t1
            obtain ⟨cn, hcn⟩ : ∃ cn, cn = (usesL l).count (q : Int) := ⟨_, rfl⟩
            rw [← hcn] at t1
            have hj0 : (0 : Int) ≤ q := by omega
            have hj1 : (q : Int) < n := by have := HM.out; omega
            have hd2 : decide ((q : Int) < m) = true := by simp; omega
            have hd3 : decide (q < m) = true := by simp; omega
            have HQM := Lib.hid hqm
            have HCN := Lib.hid hcn
            clear hqm hq hql hcn
            by_cases hc1 : cn = 1
            · have HC1 := Lib.hid hc1
              subst hc1
              go_wp2_with fail
              go_roundw
              case rel => exact ⟨q + 1, by go_num, by have := HQM.out; omega, Lib.hid (fun j hj => by
                by_cases e : j = q
                · subst e; exact HCN.out.symm
                · exact HC.out j (by omega)), HBQ⟩
              case measure => have := HQM.out; simp [intOf]; omega
            · have hn1 : ((cn : Int) == 1) = false := by simp; omega
              have hn2 : (cn == 1) = false := by simp; omega
              have HC1 := Lib.hid hc1
              go_wp2_with fail
              go_ret
              exact ⟨by rw [chk12 (by rw [← HN.out]; exact hl) (form_not_use (j := q) (by have := HQM.out; have := HM.out; have := HN.out; omega) (by rw [← HCN.out]; exact HC1.out))]; rfl, HF.out.kept.trans (HBQ.out.mono HF.out.kept.size)⟩
          · have hd2 : decide ((q : Int) < m) = false := by simp; omega
            have hd3 : decide (q < m) = false := by simp; omega
            have hqe : q = m := by omega
            have HFB : Hid (formB l = true) := Lib.hid (form_mk (by have := HM.out; have := HN.out; omega) HOKS.out (fun j hj => HC.out j (by have := HM.out; have := HN.out; omega)))
            obtain ⟨wb, hwb⟩ : ∃ wb, wb = wr := ⟨_, rfl⟩
            have HWB := Lib.hid hwb
            have HBB2 : Hid (Below w.heap.size w wb) := Lib.hid (by rw [hwb]; exact HF.out.kept.trans (HBQ.out.mono HF.out.kept.size))
            clear hqm hq hqe hwb
            go_wp2_with fail
            go_loopw [9] (fun i wq => ∃ q : Nat, i = .int .i64 q ∧ q ≤ n ∧ Hid ((l.take q).any mis = false) ∧ Hid (Below w.heap.size w wq)) (fun i _ => n - (intOf i).toNat)
            case atStart => exact ⟨0, rfl, by omega, Lib.hid rfl, by rw [← HWB.out]; exact HBB2⟩
            case round =>
              obtain ⟨p, rfl, hp, HA, HBP⟩ := hrel
              by_cases hpn : p < n
              · obtain ⟨y, hy⟩ : ∃ y, l[p]? = some y := ⟨_, List.getElem?_eq_getElem (by rw [← HN.out]; exact hpn)⟩
                obtain ⟨g, o, rfl, k1, k2, k3, k4⟩ := H4.out p y hy
                have s1 := up_cell HBP.out (Nat.le_refl _) k1
                have s2 := up_cell HBP.out (Nat.le_refl _) k2
                have hj0 : (0 : Int) ≤ p := by omega
                have hj1 : (p : Int) < n := by omega
                have hd4 : decide ((p : Int) < n) = true := by simp; omega
                have HY := Lib.hid hy
                have HPN := Lib.hid hpn
                have HIS := Lib.hid (fun W => refIsN_any ⟨y.sym.toArray⟩ W (by rw [ss]; exact HS.out y (List.mem_of_getElem? hy)))
                clear k1 k2 k3 k4 hy hpn hp
                by_cases h2 : y.op = 2
                · rw [h2] at s1
                  have H2 := Lib.hid h2
                  clear h2
                  go_wp2_with fail
                  refine (HIS.out _).mono ?_
                  rintro e w9 ⟨rfl, hb9⟩
                  have HB9 := Lib.hid (th HBP.out (Nat.le_refl _) hb9)
                  rw [bts_mk]
                  clear hb9
                  cases hnm : nameL y.sym with
                  | true =>
                    have HNM : Hid (mis y = false) := Lib.hid (by unfold mis; rw [hnm]; simp)
                    clear hnm
                    go_wp2_with fail
                    go_roundw
                    case rel => exact ⟨p + 1, by go_num, by have := HPN.out; omega, Lib.hid (by rw [List.take_add_one, HY.out, List.any_append, HA.out]; simp [HNM.out]), HB9⟩
                    case measure => have := HPN.out; simp [intOf]; omega
                  | false =>
                    have HNM : Hid (mis y = true) := Lib.hid (by unfold mis; rw [hnm, H2.out]; rfl)
                    clear hnm
                    go_wp2_with fail
                    go_ret
                    exact ⟨by rw [chk11 (by rw [← HN.out]; exact hl) HFB.out (by rw [names_mis, List.any_eq_true.2 ⟨y, List.mem_of_getElem? HY.out, HNM.out⟩]; rfl)]; rfl, HB9.out⟩
                · have e2 := ieq_f h2
                  have HNM : Hid (mis y = false) := Lib.hid (by unfold mis; rw [decide_eq_false h2]; rfl)
                  clear h2
                  go_wp2_with fail
                  go_roundw
                  case rel => exact ⟨p + 1, by go_num, by have := HPN.out; omega, Lib.hid (by rw [List.take_add_one, HY.out, List.any_append, HA.out]; simp [HNM.out]), HBP⟩
                  case measure => have := HPN.out; simp [intOf]; omega
              · have hd4 : decide ((p : Int) < n) = false := by simp; omega
                have hd5 : decide (p < n) = false := by simp; omega
                have hpe : p = n := by omega
                have HPE := Lib.hid hpe
                clear hpn hp hpe
                go_wp2_with fail
                go_ret
                have h1 := HA.out
                rw [List.take_of_length_le (by rw [HPE.out, HN.out]; exact Nat.le_refl _)] at h1
                exact ⟨by rw [chk00 (by rw [← HN.out]; exact hl) HFB.out (by rw [names_mis, h1]; rfl)]; rfl, HBP.out⟩
end Go.Proofs.Ytnaimmhdpjggmaa.U
