/- The contract of Text, whole. -/
import Derived.Test.YtnaimmhdpjggmaaMs
namespace Go.Proofs.Ytnaimmhdpjggmaa.U
open Go.RowKit

theorem chk0' {l : List Nd} (h : chkP l = 0) : formB l = true ∧ namesB l = true ∧ l.length ≤ 1024 := by
  unfold chkP at h
  split at h
  · cases h
  · split at h
    · split at h
      · exact ⟨by assumption, by assumption, by omega⟩
      · cases h
    · cases h
/-- What tells each node's text. -/
theorem txt_tell {l : List Nd} (hf : formB l = true) (hnm : namesB l = true) (hl : l.length ≤ 1024) {w : World} {v : Value} {rb : Nat} (hv : NR w v l) (hc : w.cell? ⟨rb, 0, none⟩ = some v) :
    TellC 33 #[.pointer (some ⟨rb, 0, none⟩)] eS w l.length (txtT l) := by
  intro k W tb hk hb _ htold
  obtain ⟨x, hx⟩ : ∃ x, l[k]? = some x := ⟨_, List.getElem?_eq_getElem hk⟩
  rcases nd_cases hf hx with rfl | rfl | ⟨s, rfl⟩ | ⟨pa, pb, hpa, hpb, rfl⟩ | ⟨pa, pb, hpa, hpb, rfl⟩ | ⟨pa, hpa, rfl⟩
  · exact txt_none hv hc k W tb hk hb hx
  · exact txt_empty hv hc k W tb hk hb hx
  · exact txt_sym hv hc k W tb hk hb hx
  · exact txt_cat hf hnm hl hv hc k W tb hk hb htold hpa hpb hx
  · exact txt_alt hf hnm hl hv hc k W tb hk hb htold hpa hpb hx
  · exact txt_star hf hnm hl hv hc k W tb hk hb htold hpa hx
/-- What Text answers. -/
def textP (l : List Nd) : Wd := if chkP l = 0 then textG l else []
set_option maxHeartbeats 4000000 in
set_option maxRecDepth 20000 in
theorem text_any (v : Value) (l : List Nd) (w : World) (h : NR w v l) :
    Calls Try.prog 15 #[.agg #[v]] w fun e w' => e = .returned (.tuple #[.string ⟨(textP l).toArray⟩, .int .i64 (chkP l)]) ∧ Below w.heap.size w w' := by
  obtain ⟨W1, hW1⟩ : ∃ W1, W1 = w.alloc (.cells #[v] 24) := ⟨_, rfl⟩
  have hb1 : Below w.heap.size w W1 := by rw [hW1]; exact (Below.refl _ w).alloc (Nat.le_refl _) _
  have HB1 := Lib.hid hb1
  have wv1 : WR W1 w.heap.size 24 [v] := by rw [hW1]; exact WR.new w 24 [v]
  have HWV1 := Lib.hid wv1
  have HCK := Lib.hid (checkG_any v l W1 (h.below hb1))
  have HROW := Lib.hid (fun (W : World) (hb : Below w.heap.size w W) => h.below hb)
  obtain ⟨a, cc, rfl, h2, h3, h4⟩ := h.at
  have HW1 := Lib.hid hW1
  clear h h2 h3 h4 hW1 hb1 wv1
  go_enter Try.func15, Try.ntmps15
  go_wp2_with fail
  rw [← HW1.out]
  refine HCK.out.mono ?_
  rintro e w2 ⟨rfl, hb2⟩
  have HB2 := Lib.hid (th HB1.out (Nat.le_refl _) hb2)
  have wv2 := HWV1.out.below hb2
  have cv2 := wv2.cell (j := 0) rfl
  clear hb2 wv2
  by_cases hc : chkP l = 0
  · obtain ⟨hf, hnm, hl⟩ := chk0' hc
    have HUP := Lib.hid (upS_any 33 #[.pointer (some ⟨w.heap.size, 0, none⟩)] _ l w2 (txtT l) (HROW.out w2 HB2.out) hl (fun args w => enters_of Try.func33 (by kernel_rfl) rfl args w) (txt_tell hf hnm hl (HROW.out w2 HB2.out) cv2))
    have h0 := form_pos hf
    obtain ⟨m, hm⟩ : ∃ m, l.length = m + 1 := ⟨l.length - 1, by omega⟩
    have HV : Hid (textP l = told (upA (txtT l) l.length) (m : Nat)) := Lib.hid (by
      unfold textP; rw [if_pos hc]; unfold textG told
      rw [Int.toNat_natCast, show l.length - 1 = m by omega])
    have hm1 : (l.length : Int) - 1 = (m : Int) := by omega
    have hm2 : (m : Int) < l.length := by omega
    have hm0 : (0 : Int) ≤ m := by omega
    have hml : m < l.length := by omega
    have HC := Lib.hid hc
    rw [hc]
    clear hc hf hnm h0 hm
    go_wp2_with fail
    refine HUP.out.mono ?_
    rintro e w3 ⟨rfl, hr3, hb3⟩
    have s3 : w3.cell? ⟨w2.heap.size, m, none⟩ = some (.string ⟨(told (upA (txtT l) l.length) (m : Nat)).toArray⟩) := hr3.cell (by
      rw [List.getElem?_map]
      unfold told
      rw [List.getD_eq_getElem?_getD, Int.toNat_natCast, List.getElem?_eq_getElem (by rw [upA_len]; exact hml)]; rfl)
    have HB3 := Lib.hid (th HB2.out (Nat.le_refl _) hb3)
    generalize told (upA (txtT l) l.length) (m : Nat) = x at s3 HV
    clear hr3 hb3 hml
    go_wp2_with fail
    go_ret2
    exact ⟨by rw [HV.out, HC.out]; rfl, HB3.out⟩
  · have HV : Hid (textP l = []) := Lib.hid (by unfold textP; rw [if_neg hc])
    have e1 : (chkP l == 0) = false := by simp [hc]
    have e2 : (chkP l != 0) = true := by simp [hc]
    have e3 : ¬ chkP l = 0 := hc
    clear hc
    go_wp2_with fail
    go_ret2
    exact ⟨by rw [HV.out]; rfl, HB2.out⟩
end Go.Proofs.Ytnaimmhdpjggmaa.U
