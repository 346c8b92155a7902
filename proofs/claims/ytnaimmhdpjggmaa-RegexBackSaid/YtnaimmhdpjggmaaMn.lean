/- The contracts of matcherOf and of a matcher's step. -/
import Derived.Test.YtnaimmhdpjggmaaMm
import Derived.Laws.ResultCell
namespace Go.Proofs.Ytnaimmhdpjggmaa.U
open Go.RowKit

theorem ret_cell {P : Program} {fn : Func} {R : Ending → World → Prop} {a : Act} {w : World} {p u : Tmp} {ty t : TypeId} {g : Nat} {cs : Array Value} {fr : Nat × Nat} {d : TypeDesc}
    (h : fn.results = #[.cell p ty, .tmp u]) (hp : a.tmps.getD p undef = .pointer (some ⟨g, 0, none⟩)) (hg : w.heap[g]? = some (.cells cs t fr))
    (hu : P.underlying ty = some d) (hd : (match d with | .struct _ | .array _ _ => true | _ => false) = true) (hi : (P.info? ty).map (·.size) = some cs.size) (hf : a.defers = [])
    (hR : R (.returned (.tuple #[.agg cs, a.tmps.getD u undef])) w) : bodyPost P fn R .ret a w := by
  refine bodyPost_ret (v := .tuple #[.agg cs, a.tmps.getD u undef]) ?_ hf hR
  have hp' : a.tmps[p]?.getD undef = .pointer (some ⟨g, 0, none⟩) := by simpa using hp
  rw [results_cell_tmp h]
  simp [hp', asAddr, run_loadVar_row w g t ty cs fr d hg hu hd hi, Result.andThen]
theorem two_heap {w : World} {g : Nat} {t : TypeId} {a b u v : Value} (h : WR w g t [a, b]) : ((w.setCell ⟨g, 0, none⟩ u).setCell ⟨g, 1, none⟩ v).heap[g]? = some (.cells #[u, v] t (0, 0)) := (h.set 0 u).set 1 v
theorem NO.setLow {w : World} {B : Nat} {t : TypeId} {v : Value} {l : List Nd} (h : NO w B t v l) {p : Addr} (hp : p.block < B) (u : Value) : NO (w.setCell p u) B t v l := by
  refine ⟨h.1, ?_⟩
  rcases h.2 with h1 | ⟨g, cap, cur, hv, hg, hc, hr⟩
  · exact .inl h1
  · refine .inr ⟨g, cap, cur, hv, hg, ?_, hr⟩
    rw [Below.heap_setCell _ _ _ _ (show g ≠ p.block by omega)]
    exact hc
/-- What matcherOf leaves. -/
def MofPost (l : List Nd) (w : World) (e : Ending) (w' : World) : Prop :=
  Below w.heap.size w w' ∧ ((chkP l ≠ 0 ∧ e = .returned (.tuple #[.agg #[.slice none 0 0, .slice none 0 0], .bool false])) ∨
    (chkP l = 0 ∧ ∃ vn g, e = .returned (.tuple #[.agg #[vn, .slice (some ⟨g, 0, none⟩) l.length l.length], .bool true]) ∧ NR w' vn (livL l) ∧ WR w' g 4 ((emL (livL l)).map eB)))
theorem chk0 {l : List Nd} (h : chkP l = 0) : formB l = true ∧ namesB l = true ∧ l.length ≤ 1024 := by
  unfold chkP at h
  split at h
  · cases h
  · split at h
    · split at h
      · exact ⟨by assumption, by assumption, by omega⟩
      · cases h
    · cases h
set_option maxHeartbeats 4000000 in
set_option maxRecDepth 20000 in
theorem matcherOf_any (v : Value) (l : List Nd) (w : World) (h : NR w v l) :
    Calls Try.prog 25 #[.agg #[v]] w fun e w' => MofPost l w e w' := by
  obtain ⟨W1, hW1⟩ : ∃ W1, W1 = (w.alloc (.cells #[v] 24)).alloc (.cells #[.slice none 0 0, .slice none 0 0] 55) := ⟨_, rfl⟩
  have HB1 : Hid (Below w.heap.size w W1) := Lib.hid (by rw [hW1]; exact ((Below.refl _ w).alloc (Nat.le_refl _) _).alloc (by simp) _)
  have wr1 : WR W1 (w.heap.size + 1) 55 [.slice none 0 0, .slice none 0 0] := by
    rw [hW1]
    have := WR.new (w.alloc (.cells #[v] 24)) 55 [.slice none 0 0, .slice none 0 0]
    simpa using this
  have wv1 : WR W1 w.heap.size 24 [v] := by rw [hW1]; exact (WR.new w 24 [v]).alloc _
  have cv1 : W1.cell? ⟨w.heap.size, 0, none⟩ = some v := wv1.cell rfl
  have HWR1 := Lib.hid wr1
  have HWV1 := Lib.hid wv1
  have HROW := Lib.hid (fun (W : World) (hb : Below w.heap.size w W) => h.below hb)
  have HCK := Lib.hid (checkG_any v l W1 (h.below HB1.out))
  obtain ⟨a, cc, rfl, h2, h3, h4⟩ := h.at
  have HW1 := Lib.hid hW1
  clear h h2 h3 h4 hW1 wr1 wv1 cv1
  go_enter Try.func25, Try.ntmps25
  go_wp2_with fail
  rw [← HW1.out]
  refine HCK.out.mono ?_
  rintro e w2 ⟨rfl, hb2⟩
  have HB2 := Lib.hid (th HB1.out (Nat.le_refl _) hb2)
  have HWR2 := Lib.hid (HWR1.out.below hb2)
  have cv2 := (HWV1.out.below hb2).cell (j := 0) rfl
  have f0 := HWR2.out.froz 0
  have f1 := HWR2.out.froz 1
  have r0 := HWR2.out.cell (j := 0) rfl
  have r1 := HWR2.out.cell (j := 1) rfl
  clear hb2
  by_cases hc : chkP l = 0
  · rw [hc]
    have HC := Lib.hid hc
    obtain ⟨hf, hnm, hl⟩ := chk0 hc
    have HF := Lib.hid hf
    have HL := Lib.hid hl
    have HLV := Lib.hid (living_any _ l w2 (HROW.out w2 HB2.out) hf hl)
    clear hc hf hnm hl
    go_wp2_with fail
    refine HLV.out.mono ?_
    rintro e w3 ⟨vn, rfl, hno, hb3⟩
    obtain ⟨W4, hW4⟩ : ∃ W4, W4 = w3.alloc (.cells #[vn] 22) := ⟨_, rfl⟩
    have hb4 : Below w3.heap.size w3 W4 := by rw [hW4]; exact (Below.refl _ _).alloc (Nat.le_refl _) _
    have HB3 := Lib.hid (th HB2.out (Nat.le_refl _) hb3)
    have HB4 := Lib.hid (th HB3.out (Nat.le_refl _) hb4)
    have HWR4 := Lib.hid ((HWR2.out.below hb3).below hb4)
    have wl4 : WR W4 w3.heap.size 22 [vn] := by rw [hW4]; exact WR.new w3 22 [vn]
    have WL4 := Lib.hid wl4
    have cl4 := wl4.cell (j := 0) rfl
    have HNO4 := Lib.hid (hno.kept hb4)
    have HN4 := Lib.hid (hno.row.below hb4)
    have HLOW : Hid (w.heap.size + 1 < w2.heap.size) := Lib.hid HWR2.out.lt
    have HUP := Lib.hid (upB_any 47 #[.pointer (some ⟨w3.heap.size, 0, none⟩)] vn (livL l) W4 (emT (livL l)) HN4.out (by rw [liv_len]; exact HL.out) (fun args w => enters_of Try.func47 (by kernel_rfl) rfl args w) (em_tell (liv_form HF.out) HN4.out cl4))
    rw [liv_len] at HUP
    have HW4 := Lib.hid hW4
    obtain ⟨va, vc, rfl, _⟩ := HN4.out.at
    rw [liv_len] at *
    clear hno hb3 hb4 wl4 cl4 hW4 cv2 f0 f1 r0 r1
    go_wp2_with fail
    rw [← HW4.out]
    refine HUP.out.mono ?_
    rintro e w5 ⟨rfl, hrow5, hb5⟩
    have HR5 := Lib.hid hrow5
    have HB5 := Lib.hid (th HB4.out (Nat.le_refl _) hb5)
    have HWR5 := Lib.hid (HWR4.out.below hb5)
    have cl5 := (WL4.out.below hb5).cell (j := 0) rfl
    have f0 := HWR5.out.froz 0
    have f1 := HWR5.out.froz 1
    have r0 := HWR5.out.cell (j := 0) rfl
    have r1 := HWR5.out.cell (j := 1) rfl
    have HN5 := Lib.hid (HNO4.out.kept hb5)
    have hne : w.heap.size + 1 < W4.heap.size := HWR4.out.lt
    have HNE := Lib.hid hne
    clear hrow5 hb5 hne
    go_wp2_with fail
    refine ret_cell rfl rfl (show _ = some (Obj.cells #[.slice va l.length vc, .slice (some ⟨W4.heap.size, 0, none⟩) l.length l.length] 55 (0, 0)) from two_heap HWR5.out) Try.underlying55 rfl (by kernel_rfl) rfl ?_
    refine ⟨(HB5.out.setCell (by simp) _).setCell (by simp) _, .inr ⟨HC.out, _, W4.heap.size, rfl, ?_, ?_⟩⟩
    · exact ((HN5.out.setLow (p := ⟨w.heap.size + 1, 0, none⟩) HLOW.out _).setLow (p := ⟨w.heap.size + 1, 1, none⟩) HLOW.out _).row
    · have hne : w.heap.size + 1 ≠ W4.heap.size := by have := HNE.out; omega
      have h9 := (HR5.out.other (p := ⟨w.heap.size + 1, 0, none⟩) hne (.slice va l.length vc)).other (p := ⟨w.heap.size + 1, 1, none⟩) hne (.slice (some ⟨W4.heap.size, 0, none⟩) l.length l.length)
      unfold emL
      rw [liv_len]
      exact h9
  · have HC := Lib.hid hc
    have hc2 : (chkP l != 0) = true := by simp [hc]
    have hc3 : (chkP l == 0) = false := by simp [hc]
    clear hc
    go_wp2_with fail
    refine ret_cell rfl rfl (show _ = some (Obj.cells #[.slice none 0 0, .slice none 0 0] 55 (0, 0)) from two_heap HWR2.out) Try.underlying55 rfl (by kernel_rfl) rfl ?_
    exact ⟨(HB2.out.setCell (by simp) _).setCell (by simp) _, .inl ⟨HC.out, rfl⟩⟩
end Go.Proofs.Ytnaimmhdpjggmaa.U
