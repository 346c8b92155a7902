/- The contracts of slices.Index of bools, and of formed. -/
import Derived.Test.YtnaimmhdpjggmaaMg
import Derived.Test.YtnaimmhdpjggmaaRx6
namespace Go.Proofs.Ytnaimmhdpjggmaa.U
open Go.RowKit

def IdxB (bs : List Bool) (e : Ending) : Prop := (∃ k : Nat, e = .returned (.int .i64 k) ∧ bs[k]? = some false ∧ ∀ (j : Nat) (x : Bool), j < k → bs[j]? = some x → x = true) ∨ (e = .returned (.int .i64 (-1)) ∧ ∀ (j : Nat) (x : Bool), bs[j]? = some x → x = true)
set_option maxHeartbeats 2000000 in
set_option maxRecDepth 10000 in
theorem indexB_any (v : Value) (bs : List Bool) (w : World) (h : VR eB w v bs) :
    Calls Try.prog 43 #[v, .bool false] w fun e w' => IdxB bs e ∧ Below w.heap.size w w' := by
  obtain ⟨a, c, rfl, h2, h3, h4⟩ := h.at
  obtain ⟨n, hn⟩ : ∃ n, n = bs.length := ⟨_, rfl⟩
  have hn63 : n ≤ 9223372036854775807 := by unfold maxLen at h3; omega
  have HN := Lib.hid hn
  have H4 := Lib.hid h4
  rw [← hn]
  clear h h2 h3 h4 hn
  go_enter Try.func43, Try.ntmps43
  go_wp2_with fail
  go_loopw [8] (fun i wr => ∃ k : Nat, i = .int .i64 k ∧ k ≤ n ∧ Hid (∀ (j : Nat) (x : Bool), j < k → bs[j]? = some x → x = true) ∧ Hid (Below w.heap.size w wr)) (fun i _ => n - (intOf i).toNat)
  case atStart => exact ⟨0, rfl, by omega, Lib.hid (fun j x hj => by omega), Lib.hid (Below.refl _ _)⟩
  case round =>
    obtain ⟨k, rfl, hk, HA, HB⟩ := hrel
    by_cases hlt : k < n
    · obtain ⟨x, hx⟩ : ∃ x, bs[k]? = some x := ⟨_, List.getElem?_eq_getElem (by rw [← HN.out]; exact hlt)⟩
      obtain ⟨g, o, rfl, k1⟩ := H4.out k x hx
      have s1 := up_cell HB.out (Nat.le_refl _) k1
      unfold eB at s1
      have hi0 : (0 : Int) ≤ k := by omega
      have hi1 : (k : Int) < n := by omega
      have hd1 : decide ((k : Int) < n) = true := by simp; omega
      have HX := Lib.hid hx
      have HLT := Lib.hid hlt
      clear k1 hx hlt hk
      cases x with
      | true =>
        go_wp2_with fail
        go_roundw
        case rel => exact ⟨k + 1, by go_num, by have := HLT.out; omega, Lib.hid (fun j y hj hy => by
          by_cases e : j = k
          · subst e
            rw [HX.out] at hy
            exact (Option.some.inj hy).symm
          · exact HA.out j y (by omega) hy), HB⟩
        case measure => have := HLT.out; simp [intOf]; omega
      | false =>
        go_wp2_with fail
        go_ret
        exact ⟨.inl ⟨k, rfl, HX.out, HA.out⟩, HB.out⟩
    · have hd1 : decide ((k : Int) < n) = false := by simp; omega
      have hd2 : decide (k < n) = false := by simp; omega
      have hkn : k = n := by omega
      have HKN := Lib.hid hkn
      clear hlt hk hkn
      go_wp2_with fail
      go_ret
      exact ⟨.inr ⟨rfl, fun j x hx => HA.out j x (by rw [HKN.out, HN.out]; exact (List.getElem?_eq_some_iff.1 hx).1) hx⟩, HB.out⟩
theorem map_set {α : Type} (e : α → Value) (l : List α) (i : Nat) (x : α) : (l.map e).set i (e x) = (l.set i x).map e := by rw [List.map_set]
theorem rep_map {α : Type} (e : α → Value) (n : Nat) (x : α) : List.replicate n (e x) = (List.replicate n x).map e := by rw [List.map_replicate]
/-- What is known in the rounds of formed. -/
structure FrmI (w wr : World) (l : List Nd) (k : Nat) (tb : Nat) (U : List Int) : Prop where
  ok : ∀ i n, i < k → l[i]? = some n → okAt n i = true
  nd : U.Nodup
  row : WR wr tb 4 ((tkL l.length U).map eB)
  kept : Below w.heap.size w wr
  low : w.heap.size ≤ tb
theorem FrmI.below {w wr wx : World} {l : List Nd} {k tb : Nat} {U : List Int} (h : FrmI w wr l k tb U) (hb : Below wr.heap.size wr wx) : FrmI w wx l k tb U :=
  ⟨h.ok, h.nd, h.row.below hb, Go.Proofs.Ytnaimmhdpjggmaa.U.th h.kept (Nat.le_refl _) hb, h.low⟩
theorem okAt_f1 {n : Nd} {i : Nat} (h : okN n = false) : okAt n i = false := by unfold okAt; rw [h]; rfl
theorem okAt_f2 {n : Nd} {i : Nat} {p : Int} (h : p ∈ partsN n) (hp : ¬ (0 ≤ p ∧ p < (i : Int))) : okAt n i = false := by
  rw [bF, okAt_iff]
  exact fun k => hp (k.2 p h)
set_option maxHeartbeats 4000000 in
set_option maxRecDepth 20000 in
theorem formed_any (v : Value) (l : List Nd) (w : World) (h : NR w v l) (hl : l.length ≤ 1024) :
    Calls Try.prog 23 #[v] w fun e w' => e = .returned (.bool (formB l)) ∧ Below w.heap.size w w' := by
  obtain ⟨a, c, rfl, h2, h3, h4⟩ := h.at
  obtain ⟨n, hn⟩ : ∃ n, n = l.length := ⟨_, rfl⟩
  have hn63 : n ≤ 1024 := by omega
  have hmk := make_b n (by omega)
  have HN := Lib.hid hn
  have H4 := Lib.hid h4
  have H0 : Hid (FrmI w (w.alloc (.cells (List.replicate n (.bool false)).toArray 4)) l 0 w.heap.size (usesL (l.take 0))) := Lib.hid
    ⟨fun i n h => by omega, by rw [show usesL (l.take 0) = [] by simp [usesL]]; exact List.nodup_nil, by rw [← hn, show usesL (l.take 0) = [] by simp [usesL], tkL_nil, ← rep_map]; exact WR.new _ _ _, (Below.refl _ w).alloc (Nat.le_refl _) _, Nat.le_refl _⟩
  rw [← hn]
  clear h h2 h3 h4 hn hl
  go_enter Try.func23, Try.ntmps23
  go_wp2_with fail
  go_loopw [14] (fun i wr => ∃ k : Nat, i = .int .i64 k ∧ k ≤ n ∧ Hid (FrmI w wr l k w.heap.size (usesL (l.take k)))) (fun i _ => n - (intOf i).toNat)
  case atStart => exact ⟨0, rfl, by omega, H0⟩
  case round =>
    obtain ⟨k, rfl, hk, HF⟩ := hrel
    obtain ⟨B, hB⟩ : ∃ B, B = wr.heap.size := ⟨_, rfl⟩
    have HBB := Lib.hid hB
    clear hB
    by_cases hlt : k < n
    · obtain ⟨x, hx⟩ : ∃ x, l[k]? = some x := ⟨_, List.getElem?_eq_getElem (by rw [← HN.out]; exact hlt)⟩
      obtain ⟨g, o, rfl, k1, k2, k3, k4⟩ := H4.out k x hx
      have s1 := up_cell HF.out.kept (Nat.le_refl _) k1
      have s2 := up_cell HF.out.kept (Nat.le_refl _) k2
      have s3 := up_cell HF.out.kept (Nat.le_refl _) k3
      have s4 := up_cell HF.out.kept (Nat.le_refl _) k4
      have hi0 : (0 : Int) ≤ k := by omega
      have hi1 : (k : Int) < n := by omega
      have hd1 : decide ((k : Int) < n) = true := by simp; omega
      have HX := Lib.hid hx
      have HLT := Lib.hid hlt
      have HP := Lib.hid (partsOf_any x)
      clear k1 k2 k3 k4 hx hlt hk
      go_wp2_with fail
      refine (HP.out _).mono ?_
      rintro e w2 ⟨vp, rfl, hvp, hb2⟩
      have HVP := Lib.hid hvp
      have HF2 := Lib.hid (HF.out.below hb2)
      clear hvp hb2 s1 s2 s3 s4
      cases hok : okN x with
      | false =>
        have HOK := Lib.hid hok
        clear hok
        go_wp2_with fail
        go_ret
        exact ⟨bool_ret (form_not_at HX.out (okAt_f1 HOK.out)).symm, HF2.out.kept⟩
      | true =>
        have HV := Lib.hid (HVP.out hok)
        rw [← HBB.out] at HV
        have HOK := Lib.hid hok
        clear hok
        have HSZ : Hid (w.heap.size < B) := Lib.hid (by rw [HBB.out]; exact HF.out.row.lt)
        obtain ⟨pa, pc, rfl, q2, q3, _⟩ := HV.out.at
        obtain ⟨m, hm⟩ : ∃ m, m = (partsN x).length := ⟨_, rfl⟩
        have hm2 : m ≤ 2 := by rw [hm]; exact partsN_len x
        have HM := Lib.hid hm
        rw [← hm] at HV ⊢
        clear q2 q3 hm
        go_wp2_with fail
        go_loopw [29] (fun i wq => ∃ q : Nat, i = .int .i64 q ∧ q ≤ m ∧ Hid (FrmI w wq l k w.heap.size (usesL (l.take k) ++ (partsN x).take q)) ∧ Hid (∀ p ∈ (partsN x).take q, 0 ≤ p ∧ p < (k : Int)) ∧ Hid (VF eI B wq (.slice pa m pc) (partsN x))) (fun i _ => m - (intOf i).toNat)
        case atStart => exact ⟨0, rfl, by omega, Lib.hid (by simpa using HF2.out), Lib.hid (fun p hp => by simp at hp), HV⟩
        case round =>
          obtain ⟨q, rfl, hq, HG, HPB, HVQ⟩ := hrel
          by_cases hqm : q < m
          · obtain ⟨p, hp⟩ : ∃ p, (partsN x)[q]? = some p := ⟨_, List.getElem?_eq_getElem (by rw [← HM.out]; exact hqm)⟩
            obtain ⟨pa', pc', e1, _, _, q4⟩ := HVQ.out.at
            obtain ⟨pg, po, rfl, _, t1⟩ := q4 q p hp
            simp only [Value.slice.injEq] at e1
            obtain ⟨rfl, -, rfl⟩ := e1
            unfold eI at t1
            have hj0 : (0 : Int) ≤ q := by omega
            have hj1 : (q : Int) < m := by omega
            have hd2 : decide ((q : Int) < m) = true := by simp; omega
            have HPQ := Lib.hid hp
            have HQM := Lib.hid hqm
            have hpm : p ∈ partsN x := List.mem_of_getElem? hp
            have HPM := Lib.hid hpm
            clear q4 hp hqm hq hpm
            by_cases hp0 : p < 0
            · have e1 : decide (p < 0) = true := by simp [hp0]
              have HPP := Lib.hid hp0
              clear hp0
              go_wp2_with fail
              go_ret
              exact ⟨bool_ret (form_not_at HX.out (okAt_f2 HPM.out (by have := HPP.out; omega))).symm, HG.out.kept⟩
            · have e1 : decide (p < 0) = false := by simp; omega
              by_cases hpk : (k : Int) ≤ p
              · have e2 : decide ((k : Int) ≤ p) = true := by simp [hpk]
                have HPP := Lib.hid hpk
                clear hpk hp0
                go_wp2_with fail
                go_ret
                exact ⟨bool_ret (form_not_at HX.out (okAt_f2 HPM.out (by have := HPP.out; omega))).symm, HG.out.kept⟩
              · have e2 : decide ((k : Int) ≤ p) = false := by simp; omega
                obtain ⟨pn, rfl, hpn⟩ := nat_of (p := p) (i := k) (by omega)
                have hpl : pn < l.length := by have := HLT.out; have := HN.out; omega
                have t2 := HG.out.row.cell (j := pn) (by rw [List.getElem?_map, tkL_get _ hpl]; rfl)
                have t3 := HG.out.row.froz pn
                unfold eB at t2
                have hpi : (pn : Int) < n := by have := HLT.out; omega
                have hpz : (0 : Int) ≤ pn := by omega
                have HPN := Lib.hid hpn
                have HPL := Lib.hid hpl
                clear hp0 hpk hpn hpl
                by_cases hmem : (pn : Int) ∈ usesL (l.take k) ++ (partsN x).take q
                · rw [decide_eq_true hmem] at t2
                  have HME := Lib.hid hmem
                  clear hmem
                  go_wp2_with fail
                  go_ret
                  exact ⟨bool_ret (form_twice HX.out HPQ.out ⟨by omega, by have := HPN.out; omega⟩ HME.out).symm, HG.out.kept⟩
                · rw [decide_eq_false hmem] at t2
                  have HME := Lib.hid hmem
                  clear hmem
                  have HG2 : Hid (FrmI w (wr.setCell ⟨w.heap.size, pn, none⟩ (.bool true)) l k w.heap.size (usesL (l.take k) ++ (partsN x).take (q + 1))) := Lib.hid (by
                    refine ⟨HG.out.ok, ?_, ?_, HG.out.kept.setCell (Nat.le_refl _) _, Nat.le_refl _⟩
                    · rw [take_snocP HPQ.out]
                      refine List.nodup_append.2 ⟨HG.out.nd, by simp, fun a ha b hb e => ?_⟩
                      simp at hb
                      subst hb e
                      exact HME.out ha
                    · rw [take_snocP HPQ.out, ← tkL_set _ HPL.out, ← map_set]
                      exact HG.out.row.set pn (.bool true))
                  go_wp2_with fail
                  go_roundw
                  case rel => exact ⟨q + 1, by go_num, by have := HQM.out; omega, HG2, Lib.hid (fun y hy => by
                    rw [List.take_add_one, HPQ.out] at hy
                    rcases List.mem_append.1 hy with h9 | h9
                    · exact HPB.out y h9
                    · simp at h9
                      subst h9
                      have := HPN.out; omega), Lib.hid (HVQ.out.set HSZ.out _)⟩
                  case measure => have := HQM.out; simp [intOf]; omega
          · have hd2 : decide ((q : Int) < m) = false := by simp; omega
            have hd3 : decide (q < m) = false := by simp; omega
            have hqe : q = m := by omega
            have HQE := Lib.hid hqe
            clear hqm hq hqe
            go_wp2_with fail
            go_roundw
            case rel =>
              have h9 := HG.out
              have h8 := HPB.out
              have e9 : (partsN x).take q = partsN x := List.take_of_length_le (by rw [HQE.out, HM.out]; exact Nat.le_refl _)
              rw [e9] at h9 h8
              refine ⟨k + 1, by go_num, by have := HLT.out; omega, Lib.hid ⟨fun i y hi hy => ?_, ?_, ?_, h9.kept, h9.low⟩⟩
              · by_cases e : i = k
                · subst e
                  rw [HX.out] at hy
                  obtain rfl := Option.some.inj hy
                  exact okAt_iff.2 ⟨HOK.out, h8⟩
                · exact h9.ok i y (by omega) hy
              · rw [uses_snoc HX.out]; exact h9.nd
              · rw [uses_snoc HX.out]; exact h9.row
            case measure => have := HLT.out; simp [intOf]; omega
    · have hd1 : decide ((k : Int) < n) = false := by simp; omega
      have hd2 : decide (k < n) = false := by simp; omega
      have hkn : k = n := by omega
      have hF := HF.out
      rw [List.take_of_length_le (by rw [hkn, HN.out]; exact Nat.le_refl _)] at hF
      have HF := Lib.hid hF
      have HKN := Lib.hid hkn
      clear hlt hk hkn hF
      by_cases hn0 : n = 0
      · have HN0 := Lib.hid hn0
        have e1 : decide (0 < n) = false := by simp; omega
        have e2 : decide ((0 : Int) < n) = false := by simp; omega
        clear hn0
        go_wp2_with fail
        go_ret
        refine ⟨bool_ret ?_, HF.out.kept⟩
        have : l = [] := List.eq_nil_of_length_eq_zero (by rw [← HN.out]; exact HN0.out)
        rw [this]; rfl
      · have e1 : decide (0 < n) = true := by simp; omega
        have e2 : decide ((0 : Int) < n) = true := by simp; omega
        have HN0 := Lib.hid hn0
        have hr : VR eB wr (.slice (some ⟨w.heap.size, 0, none⟩) n n) (tkL l.length (usesL l)) := by
          have h9 := HF.out.row.row (by rw [tkL_len, ← HN.out]; omega)
          rw [tkL_len, ← HN.out] at h9
          rw [← HN.out]
          exact h9
        have HI := Lib.hid (indexB_any _ _ _ hr)
        have HFB : Hid (formB l = decide (∀ j : Nat, j < l.length - 1 → (j : Int) ∈ usesL l)) := Lib.hid (form_of_taken (by rw [← HN.out]; omega) (fun i y hy => HF.out.ok i y (by rw [HKN.out, HN.out]; exact (List.getElem?_eq_some_iff.1 hy).1) hy) HF.out.nd)
        clear hr hn0
        go_wp2_with fail
        refine HI.out.mono ?_
        rintro e w3 ⟨hp, hb3⟩
        have HB3 := Lib.hid (th HF.out.kept (Nat.le_refl _) hb3)
        clear hb3
        rcases hp with ⟨r, rfl, hr1, hr2⟩ | ⟨rfl, hall⟩
        · have hrl : r < n := by
            have := (List.getElem?_eq_some_iff.1 hr1).1
            rwa [tkL_len, ← HN.out] at this
          have HR1 := Lib.hid hr1
          have HR2 := Lib.hid hr2
          have HRL := Lib.hid hrl
          clear hr1 hr2
          have HE : Hid ((((r : Int) == (n : Int) - 1) : Bool) = formB l) := Lib.hid (by
            rw [HFB.out, Bool.eq_iff_iff, beq_iff_eq, decide_eq_true_eq, ← HN.out]
            constructor
            · intro e j hj
              have := HR2.out j _ (by omega) (tkL_get (usesL l) (by rw [← HN.out]; omega))
              simpa using this
            · intro h9
              by_cases e : r = n - 1
              · omega
              · have h8 := HR1.out
                rw [tkL_get _ (by rw [← HN.out]; exact HRL.out)] at h8
                simp only [Option.some.injEq, decide_eq_false_iff_not] at h8
                exact absurd (h9 r (by omega)) h8)
          clear hrl
          go_wp2_with fail
          go_ret
          exact ⟨by rw [← HE.out]; rfl, HB3.out⟩
        · exfalso
          have hz := HN0.out
          have h9 := hall (n - 1) _ (tkL_get (usesL l) (by rw [← HN.out]; omega))
          simp only [decide_eq_true_eq] at h9
          obtain ⟨q, e, hq⟩ := use_mem (fun i y hy => HF.out.ok i y (by rw [HKN.out, HN.out]; exact (List.getElem?_eq_some_iff.1 hy).1) hy) h9
          rw [← HN.out] at hq
          omega
end Go.Proofs.Ytnaimmhdpjggmaa.U
