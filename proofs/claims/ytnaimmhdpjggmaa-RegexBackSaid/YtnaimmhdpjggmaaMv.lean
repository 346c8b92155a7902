/- What a reader takes, and what its maker adds. -/
import Derived.Test.YtnaimmhdpjggmaaMu
namespace Go.Proofs.Ytnaimmhdpjggmaa.U
open Go.RowKit

theorem takeB_nil {c : UInt8} {s : Wd} (h : skipW s = []) : takeB c s = false ∧ takeR c s = [] := by
  have : takeB c s = false := by unfold takeB; rw [h]; simp
  exact ⟨this, by unfold takeR; rw [this, h]; simp⟩
theorem takeB_yes {c : UInt8} {s r : Wd} (h : skipW s = c :: r) : takeB c s = true ∧ takeR c s = r := by
  have : takeB c s = true := by unfold takeB; rw [h]; simp
  exact ⟨this, by unfold takeR; rw [this, h]; simp⟩
theorem takeB_no {c x : UInt8} {s r : Wd} (h : skipW s = x :: r) (hx : x ≠ c) : takeB c s = false ∧ takeR c s = x :: r := by
  have : takeB c s = false := by unfold takeB; rw [h]; simpa using hx
  exact ⟨this, by unfold takeR; rw [this, h]; simp⟩
theorem bs_get (x : UInt8) (r : Wd) (h : 0 < (bs (x :: r)).size) : (bs (x :: r))[0]'h = x := rfl
def TakePost (rb : Nat) (c : UInt8) (st : PS) (w : World) (e : Ending) (w' : World) : Prop := e = .returned (.bool (takeB c st.left)) ∧ RdM w' rb (takeS c st) ∧ Below rb w w'
set_option maxHeartbeats 4000000 in
set_option maxRecDepth 10000 in
theorem take_any (rb : Nat) (c : UInt8) (st : PS) (w : World) (h : RdM w rb st) : Calls Try.prog 71 #[.pointer (some ⟨rb, 0, none⟩), .int .u8 (c.toNat : Int)] w fun e w' => TakePost rb c st w e w' := by
  have HSK := Lib.hid (skip_any rb st w h)
  clear h
  obtain ⟨L, hL⟩ : ∃ L, L = skipW st.left := ⟨_, rfl⟩
  have HL := Lib.hid hL
  clear hL
  go_enter Try.func71, Try.ntmps71
  go_wp2_with fail
  refine HSK.out.mono ?_
  rintro e w2 ⟨rfl, hr, hb⟩
  rw [← HL.out] at hr
  have HB := Lib.hid hb
  have HR := Lib.hid hr
  obtain ⟨v, h1, h2⟩ := hr.row
  have c0 := h1.cell (j := 0) rfl
  have f0 := h1.froz 0
  clear hr hb h1 h2
  cases L with
  | nil =>
    have e0 : bs ([] : Wd) = ⟨#[]⟩ := rfl
    simp only [e0] at c0
    have HT : Hid (takeB c st.left = false ∧ takeS c st = { st with left := [] }) := Lib.hid (by
      obtain ⟨h3, h4⟩ := takeB_nil (c := c) HL.out.symm
      exact ⟨h3, by unfold takeS; rw [h4]⟩)
    go_wp2_with fail
    go_ret
    exact ⟨by rw [HT.out.1]; rfl, by rw [HT.out.2]; exact HR.out, HB.out⟩
  | cons x r =>
    have hsz := bs_size (x :: r)
    have hne := emp_no (s := bs (x :: r)) (by rw [hsz]; simp)
    have h11 : (1 : Int) ≤ (bs (x :: r)).size := by rw [hsz]; simp; omega
    have h12 : 0 < (bs (x :: r)).size := by rw [hsz]; simp
    have h13 : (0 : Int) < (bs (x :: r)).size := by rw [hsz]; simp
    have hget := bs_get x r h12
    have HT := Lib.hid (bs_tail x r)
    generalize bs (x :: r) = S at c0 hne h11 h12 h13 hget HT
    clear hsz
    by_cases hx : x = c
    · subst hx
      have HTK : Hid (takeB x st.left = true ∧ takeS x st = { st with left := r }) := Lib.hid (by
        obtain ⟨h3, h4⟩ := takeB_yes (c := x) HL.out.symm
        exact ⟨h3, by unfold takeS; rw [h4]⟩)
      have hset := HR.out.setLeft r
      rw [← HT.out] at hset
      have HFIN := Lib.hid hset
      have hcc : ((x.toNat : Int) != (x.toNat : Int)) = false := by simp
      clear hset
      go_wp2_with fail
      go_ret
      exact ⟨by rw [HTK.out.1]; rfl, by rw [HTK.out.2]; exact HFIN.out, HB.out.trans (setAt_below _)⟩
    · have HTK : Hid (takeB c st.left = false ∧ takeS c st = { st with left := x :: r }) := Lib.hid (by
        obtain ⟨h3, h4⟩ := takeB_no HL.out.symm hx
        exact ⟨h3, by unfold takeS; rw [h4]⟩)
      have hcc : ((x.toNat : Int) == (c.toNat : Int)) = false := by
        have : x.toNat ≠ c.toNat := fun e => hx (UInt8.toNat_inj.1 e)
        simp; omega
      have hcc2 : ((x.toNat : Int) != (c.toNat : Int)) = true := by rw [bne, hcc]; rfl
      have hcc3 : (x.toNat == c.toNat) = false := by
        have : x.toNat ≠ c.toNat := fun e => hx (UInt8.toNat_inj.1 e)
        simpa using this
      clear hx
      go_wp2_with fail
      go_ret
      exact ⟨by rw [HTK.out.1]; rfl, by rw [HTK.out.2]; exact HR.out, HB.out⟩
set_option maxHeartbeats 1000000 in
theorem last_any (rb : Nat) (st : PS) (w : World) (h : RdM w rb st) : Calls Try.prog 72 #[.pointer (some ⟨rb, 2, none⟩)] w fun e w' => e = .returned (.int .i64 (lastS st)) ∧ w = w' := by
  obtain ⟨v, h1, h2⟩ := h.row
  obtain ⟨a, c, rfl, _⟩ := h2.row.at
  have c2 := h1.cell (j := 2) rfl
  have hf := h.few
  have HV : Hid (lastS st = (st.nodes.length : Int) - 1) := Lib.hid rfl
  generalize st.nodes.length = n at c2 hf HV
  clear h h1 h2
  go_enter Try.func72, Try.ntmps72
  go_wp2_with fail
  go_ret
  exact ⟨by rw [HV.out]; rfl, rfl⟩
theorem nc_news {w : World} {g : Nat} {x : Nd} (h : NC w g 0 x) : ∀ j u, (ndC x)[j]? = some u → w.cell? ((⟨g, 0, none⟩ : Addr).add j) = some u := by
  intro j u hj
  rw [add0]
  match j, hj with
  | 0, hj => simp [ndC] at hj; subst hj; exact h.1
  | 1, hj => simp [ndC] at hj; subst hj; exact h.2.1
  | 2, hj => simp [ndC] at hj; subst hj; exact h.2.2.1
  | 3, hj => simp [ndC] at hj; subst hj; exact h.2.2.2
  | j + 4, hj => simp [ndC] at hj
theorem WR.keep {w w' : World} {g : Nat} {t : TypeId} {xs : List Value} (h : WR w g t xs) (hb : Below (g + 1) w w') : WR w' g t xs := by
  unfold WR at h ⊢
  rw [hb.block g (Nat.lt_succ_self g)]; exact h
def AddPost (rb : Nat) (st : PS) (w : World) (e : Ending) (w' : World) : Prop := e = .returned (.tuple #[]) ∧ RdM w' rb st ∧ Below rb w w'
set_option maxHeartbeats 4000000 in
set_option maxRecDepth 10000 in
theorem add_one (rb g : Nat) (st : PS) (x : Nd) (w : World) (h : RdM w rb st) (hx : NC w g 0 x) : Calls Try.prog 82 #[.pointer (some ⟨rb, 2, none⟩), .slice (some ⟨g, 0, none⟩) 1 1] w fun e w' => AddPost rb (addS st [x]) w e w' := by
  obtain ⟨v, h1, h2⟩ := h.row
  have HN := Lib.hid h2
  have c2 := h1.cell (j := 2) rfl
  have c3 := h1.cell (j := 3) rfl
  have f2 := h1.froz 2
  have f3 := h1.froz 3
  have hf := h.few
  have HR := Lib.hid h
  have HW := Lib.hid h1
  have hlt := h.lt
  have HX := Lib.hid hx
  have HI := Lib.hid infoG
  obtain ⟨a, c, rfl, _⟩ := h2.row.at
  cases ho : st.over with
  | true =>
    rw [ho] at c3
    have HA : Hid (addS st [x] = { st with over := true }) := Lib.hid (by unfold addS; rw [ho]; simp)
    generalize st.nodes.length = n at c2 hf
    clear h h1 h2 hx ho
    go_enter Try.func82, Try.ntmps82
    go_wp2_with fail
    go_end0
    exact ⟨rfl, by rw [HA.out]; exact HR.out.setOver true, setAt_below _⟩
  | false =>
    rw [ho] at c3
    by_cases hfull : st.nodes.length = 1024
    · have HA : Hid (addS st [x] = { st with over := true }) := Lib.hid (by unfold addS; rw [ho]; simp; omega)
      rw [hfull] at c2
      clear h h1 h2 hx ho hf hfull
      go_enter Try.func82, Try.ntmps82
      go_wp2_with fail
      go_end0
      exact ⟨rfl, by rw [HA.out]; exact HR.out.setOver true, setAt_below _⟩
    · have HA : Hid (addS st [x] = { st with nodes := st.nodes ++ [x] }) := Lib.hid (add_fit ho (by simp; omega))
      obtain ⟨n, hn⟩ : ∃ n, n = st.nodes.length := ⟨_, rfl⟩
      have HNN := Lib.hid hn
      rw [← hn] at c2 hf hfull
      have hd1 : decide ((1024 : Int) < (n : Int) + 1) = false := by simp; omega
      have hd2 : decide (1024 < n + 1) = false := by simp; omega
      obtain ⟨i0, hi, hz0, hz1, hz2⟩ := info_parts HI.out
      clear h h1 h2 hx ho hn
      go_enter Try.func82, Try.ntmps82
      go_wp2_with (at_builtin; go_loud (refine wpList_append_own _ rfl (.tmp 26) (.tmp 27) 22 rfl (rb + 1) 45 i0 (.agg #[.int .i64 0, .string ⟨#[]⟩, .int .i64 0, .int .i64 0]) 4 40 Try.underlying22 hi hz0 hz1 hz2 rfl (by decide) _ _ _ (by rw [HNN.out]; rfl) HN.out ⟨g, 0, none⟩ 1 1 (ndC x) rfl rfl (nc_news HX.out) (ndC_one x) (by rw [← HNN.out]; unfold maxLen; omega) (by rw [← HNN.out]; omega) (by omega) ?_); intro v1 w1 hown1 hgrow1 _; obtain ⟨g2, k2, rfl⟩ := own_slice hown1 (by omega); have hb1 : Below (rb + 1) w w1 := (Below.refl (rb + 1) w).grown hgrow1 hlt (fun b hb => (HN.out.lt b hb).1); have HWR := Lib.hid (HW.out.keep hb1); have c2' := HWR.out.cell (j := 2) rfl; have f2' := HWR.out.froz 2; have HB1 := Lib.hid hb1; have HOW := Lib.hid hown1; clear hgrow1 hown1 hb1)
      go_end0
      refine ⟨rfl, ?_, (HB1.out.mono (Nat.le_succ _)).trans (setAt_below _)⟩
      rw [HA.out]
      refine ⟨⟨_, HWR.out.set 2 _, ?_⟩, by simp; rw [← HNN.out]; omega⟩
      have h9 : NO w1 (rb + 1) 45 (.slice (some ⟨g2, 0, none⟩) (st.nodes.length + 1) k2) (st.nodes ++ [x]) := by
        unfold NO
        rw [ndCells_app, List.length_append]
        simpa [ndCells] using HOW.out
      exact h9.setLow (p := ⟨rb, 2, none⟩) (by simp) _
end Go.Proofs.Ytnaimmhdpjggmaa.U
