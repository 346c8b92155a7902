/- What a reader made; Parse. -/
import Derived.Test.YtnaimmhdpjggmaaPb
namespace Go.Proofs.Ytnaimmhdpjggmaa.U
open Go.RowKit

theorem one_heap {w : World} {g : Nat} {t : TypeId} {a u : Value} (h : WR w g t [a]) : (w.setCell ⟨g, 0, none⟩ u).heap[g]? = some (.cells #[u] t (0, 0)) := h.set 0 u
def MadePost (rb : Nat) (st : PS) (w : World) (e : Ending) (w' : World) : Prop :=
  ∃ v, e = .returned (.tuple #[.agg #[v], .int .i64 (if st.over = true then 17 else 0)]) ∧ NO w' (rb + 1) 45 v (if st.over = true then [] else st.nodes) ∧ Below w.heap.size w w'
theorem nr_nil (w : World) : NR w (.slice none 0 0) [] := ⟨none, 0, rfl, by simp, by unfold maxLen; omega, fun h => by simp at h⟩
set_option maxHeartbeats 2000000 in
theorem made_any (rb : Nat) (st : PS) (w : World) (h : RdM w rb st) : Calls Try.prog 38 #[.pointer (some ⟨rb, 2, none⟩)] w fun e w' => MadePost rb st w e w' := by
  obtain ⟨v, h1, h2⟩ := h.row
  have HN := Lib.hid h2
  obtain ⟨a, c, rfl, _⟩ := h2.row.at
  have c2 := cell_al (.cells #[.slice none 0 0] 24) (h1.cell (j := 2) rfl)
  have c3 := cell_al (.cells #[.slice none 0 0] 24) (h1.cell (j := 3) rfl)
  have hlt := h.lt
  cases ho : st.over with
  | true =>
    rw [ho] at c3
    have HO := Lib.hid ho
    clear h h1 h2 ho
    go_enter Try.func38, Try.ntmps38
    go_wp2_with fail
    refine ret_cell rfl rfl (show _ = some (Obj.cells #[.slice none 0 0] 24 (0, 0)) from WR.new w 24 [.slice none 0 0]) Try.underlying24 rfl (by kernel_rfl) rfl ?_
    refine ⟨_, by rw [HO.out]; rfl, ?_, (Below.refl _ w).alloc (Nat.le_refl _) _⟩
    rw [HO.out]; exact World.ownsRow_nil _ _ _ _
  | false =>
    rw [ho] at c3
    have HO := Lib.hid ho
    clear h h1 h2 ho
    go_enter Try.func38, Try.ntmps38
    go_wp2_with fail
    refine ret_cell rfl rfl (show _ = some (Obj.cells #[.slice a st.nodes.length c] 24 (0, 0)) from WR.new w 24 [.slice a st.nodes.length c]) Try.underlying24 rfl (by kernel_rfl) rfl ?_
    refine ⟨_, by rw [HO.out]; rfl, ?_, (Below.refl _ w).alloc (Nat.le_refl _) _⟩
    rw [HO.out]
    exact HN.out.kept ((Below.refl _ w).alloc (Nat.le_refl _) _)
def ParsePost (s : Wd) (w : World) (e : Ending) (w' : World) : Prop :=
  ∃ v, e = .returned (.tuple #[.agg #[v], .int .i64 (parseE s)]) ∧ NR w' v (parseN s) ∧ Below w.heap.size w w'
/-- The law speaks of texts that hold no +: none that Text writes has one. -/
theorem parse_any (s : Wd) (w : World) (hs : 43 ∉ s) (hl : s.length ≤ 65536) : Calls Try.prog 16 #[.string (bs s)] w fun e w' => ParsePost s w e w' := by
  obtain ⟨S, hS⟩ : ∃ S, S = bs s := ⟨_, rfl⟩
  have hsz : S.size = s.length := by rw [hS, bs_size]
  have hd1 : decide ((65536 : Int) < (S.size : Int)) = false := by rw [hsz]; simp; omega
  have hd2 : decide (65536 < S.size) = false := by rw [hsz]; simp; omega
  obtain ⟨W2, hW2⟩ : ∃ W2, W2 = (w.alloc (.cells #[.slice none 0 0] 24)).alloc (.cells #[.string S, .bool false, .slice none 0 0, .bool false] 70) := ⟨_, rfl⟩
  have hbw : Below w.heap.size w W2 := by rw [hW2]; exact ((Below.refl _ w).alloc (Nat.le_refl _) _).alloc (by simp) _
  obtain ⟨rb, hrb⟩ : ∃ rb, rb = w.heap.size + 1 := ⟨_, rfl⟩
  have hr : RdM W2 rb ⟨s, false, [], false⟩ := by
    refine ⟨⟨.slice none 0 0, ?_, World.ownsRow_nil _ _ _ _⟩, by simp⟩
    have h9 := WR.new (w.alloc (.cells #[.slice none 0 0] 24)) 70 [.string (bs s), .bool false, .slice none 0 0, .bool false]
    rw [show (w.alloc (.cells #[.slice none 0 0] 24)).heap.size = w.heap.size + 1 by simp, ← hrb, ← hS] at h9
    rw [hW2]; rw [← hS]; exact h9
  have hwr : WR W2 w.heap.size 24 [.slice none 0 0] := by rw [hW2]; exact (WR.new w 24 [.slice none 0 0]).alloc _
  have HEX := Lib.hid (expr_any (s.length + 1) rb ⟨s, false, [], false⟩ W2 hr (Nat.lt_succ_self _) ⟨hs, hl⟩)
  obtain ⟨q, hq⟩ : ∃ q, q = readS s := ⟨_, rfl⟩
  rw [show exprS (s.length + 1) ⟨s, false, [], false⟩ = q from hq.symm] at HEX
  have HPE : Hid (parseE s = if q.1 = false ∨ allL blankI q.2.left = false then 12 else if q.2.long = true then 11 else if q.2.over = true then 17 else 0) := Lib.hid (by unfold parseE; rw [if_neg (by omega), ← hq])
  have HPN : Hid (parseN s = if parseE s = 0 then q.2.nodes else []) := Lib.hid (by unfold parseN; rw [← hq])
  have HW2 := Lib.hid hW2
  have HRB := Lib.hid hrb
  have HBW := Lib.hid hbw
  have HWR := Lib.hid hwr
  rw [← hS]
  have HS := Lib.hid hS
  clear hs hl hbw hr hwr hq hS hsz
  go_enter Try.func16, Try.ntmps16
  go_upto_region 4 with fail
  rw [← hW2, ← hrb]
  clear hW2 hrb
  go_wp2_with fail
  refine HEX.out.mono ?_
  rintro e w3 ⟨rfl, hr, hb⟩
  have HR3 := Lib.hid hr
  have HWR3 := Lib.hid (HWR.out.keep (by rw [← HRB.out]; exact hb))
  have HB3 : Hid (Below w.heap.size w w3) := Lib.hid (HBW.out.trans (hb.mono (by rw [HRB.out]; omega)))
  have f3 := HWR3.out.froz 0
  have r3 := HWR3.out.cell (j := 0) rfl
  clear hr hb
  cases hq1 : q.1 with
  | false =>
    have HE : Hid (parseE s = 12) := Lib.hid (by rw [HPE.out, if_pos (.inl hq1)])
    clear hq1
    go_wp2_with fail
    refine ret_cell rfl rfl (show _ = some (Obj.cells #[.slice none 0 0] 24 (0, 0)) from one_heap HWR3.out) Try.underlying24 rfl (by kernel_rfl) rfl ?_
    refine ⟨_, by rw [HE.out]; rfl, ?_, HB3.out.setCell (Nat.le_refl _) _⟩
    rw [HPN.out, HE.out]
    exact nr_nil _
  | true =>
    have HQ1 := Lib.hid hq1
    clear hq1
    obtain ⟨v, h1, h2⟩ := HR3.out.row
    have c0 := h1.cell (j := 0) rfl
    obtain ⟨S1, hS1⟩ : ∃ S1, S1 = bs q.2.left := ⟨_, rfl⟩
    rw [← hS1] at c0
    have HBL := Lib.hid (blankS_any S1 w3)
    rw [hS1, bs_bts, ← hS1] at HBL
    clear h1 h2 hS1
    go_wp2_with fail
    refine HBL.out.mono ?_
    rintro e w4 ⟨rfl, hb⟩
    have HR4 := Lib.hid (HR3.out.below hb)
    have HWR4 := Lib.hid (HWR3.out.below hb)
    have HB4 := Lib.hid (th HB3.out (Nat.le_refl _) hb)
    have f4 := HWR4.out.froz 0
    have r4 := HWR4.out.cell (j := 0) rfl
    clear hb c0 f3 r3
    cases hbl : allL blankI q.2.left with
    | false =>
      have HE : Hid (parseE s = 12) := Lib.hid (by rw [HPE.out, if_pos (.inr hbl)])
      clear hbl
      go_wp2_with fail
      refine ret_cell rfl rfl (show _ = some (Obj.cells #[.slice none 0 0] 24 (0, 0)) from one_heap HWR4.out) Try.underlying24 rfl (by kernel_rfl) rfl ?_
      refine ⟨_, by rw [HE.out]; rfl, ?_, HB4.out.setCell (Nat.le_refl _) _⟩
      rw [HPN.out, HE.out]
      exact nr_nil _
    | true =>
      have HBT := Lib.hid hbl
      clear hbl
      obtain ⟨v, h1, h2⟩ := HR4.out.row
      have c1 := h1.cell (j := 1) rfl
      clear h1 h2
      cases hlo : q.2.long with
      | true =>
        rw [hlo] at c1
        have HE : Hid (parseE s = 11) := Lib.hid (by rw [HPE.out, if_neg (by rw [HQ1.out, HBT.out]; simp), if_pos hlo])
        clear hlo
        go_wp2_with fail
        refine ret_cell rfl rfl (show _ = some (Obj.cells #[.slice none 0 0] 24 (0, 0)) from one_heap HWR4.out) Try.underlying24 rfl (by kernel_rfl) rfl ?_
        refine ⟨_, by rw [HE.out]; rfl, ?_, HB4.out.setCell (Nat.le_refl _) _⟩
        rw [HPN.out, HE.out]
        exact nr_nil _
      | false =>
        rw [hlo] at c1
        have HE : Hid (parseE s = if q.2.over = true then 17 else 0) := Lib.hid (by rw [HPE.out, if_neg (by rw [HQ1.out, HBT.out]; simp), if_neg (by rw [hlo]; simp)])
        clear hlo
        have hm := made_any rb q.2 w4 HR4.out
        unfold MadePost at hm
        obtain ⟨E, hE⟩ : ∃ E : Int, E = if q.2.over = true then 17 else 0 := ⟨_, rfl⟩
        obtain ⟨L, hL⟩ : ∃ L : List Nd, L = if q.2.over = true then [] else q.2.nodes := ⟨_, rfl⟩
        rw [← hE] at HE
        have HL : Hid (parseN s = L) := Lib.hid (by
          rw [HPN.out, HE.out, hE, hL]
          cases q.2.over <;> simp)
        rw [← hE, ← hL] at hm
        have HM := Lib.hid hm
        clear hm hE hL
        go_wp2_with fail
        refine HM.out.mono ?_
        rintro e w5 ⟨v5, rfl, hn, hb⟩
        have HN5 := Lib.hid hn
        have HWR5 := Lib.hid (HWR4.out.below hb)
        have HB5 := Lib.hid (th HB4.out (Nat.le_refl _) hb)
        have f5 := HWR5.out.froz 0
        have r5 := HWR5.out.cell (j := 0) rfl
        obtain ⟨a5, k5, rfl, _⟩ := hn.row.at
        clear hn hb f4 r4 c1
        go_wp2_with fail
        refine ret_cell rfl rfl (show _ = some (Obj.cells #[.slice a5 _ k5] 24 (0, 0)) from one_heap HWR5.out) Try.underlying24 rfl (by kernel_rfl) rfl ?_
        refine ⟨_, by rw [HE.out]; rfl, ?_, HB5.out.setCell (Nat.le_refl _) _⟩
        rw [HL.out]
        exact (HN5.out.setLow (p := ⟨w.heap.size, 0, none⟩) (by rw [HRB.out]; simp; omega) _).row
end Go.Proofs.Ytnaimmhdpjggmaa.U
