/- A reader's items. -/
import Derived.Test.YtnaimmhdpjggmaaMy
import Derived.WalkMore
namespace Go.Proofs.Ytnaimmhdpjggmaa.U
open Go.RowKit

theorem rd_left {w : World} {rb : Nat} {st : PS} (h : RdM w rb st) : leftLen rb w = st.left.length := by
  obtain ⟨v, h1, _⟩ := h.row
  rw [leftLen_of (h1.cell (j := 0) rfl), bs_size]
theorem marks_star {b m : Nat} {s : PS} (h : takeB 42 s.left = true) (hm : s.left.length ≤ m) : ∃ m', m = m' + 1 ∧ marksS b m s = marksS b m' (starS (takeS 42 s)) := by
  have h1 := take_len h
  obtain ⟨m', rfl⟩ : ∃ k, m = k + 1 := ⟨m - 1, by omega⟩
  exact ⟨m', rfl, by rw [marksS, if_pos h]⟩
theorem len_pos {c : UInt8} {s t : Wd} (h : takeB c t = true) (ht : t <:+ s) : 1 ≤ s.length := by
  have h1 := take_len h
  have h2 := ht.length_le
  omega
theorem marks_quest {b m : Nat} {s : PS} (h1 : takeB 42 s.left = false) (h2 : takeB 43 (takeS 42 s).left = false) (h3 : takeB 63 (takeS 43 (takeS 42 s)).left = true) (hm : s.left.length ≤ m) :
    ∃ m', m = m' + 1 ∧ marksS b m s = marksS b m' (questS (lastS s) (takeS 63 (takeS 43 (takeS 42 s)))) := by
  have h4 := len_pos h3 ((take_suf 43 (takeS 42 s).left).trans (take_suf 42 s.left))
  obtain ⟨m', rfl⟩ : ∃ k, m = k + 1 := ⟨m - 1, by omega⟩
  exact ⟨m', rfl, by rw [marksS, if_neg (by rw [h1]; simp), if_neg (by rw [h2]; simp), if_pos h3]⟩
theorem marks_stop {b m : Nat} {s : PS} (h1 : takeB 42 s.left = false) (h2 : takeB 43 (takeS 42 s).left = false) (h3 : takeB 63 (takeS 43 (takeS 42 s)).left = false) : marksS b m s = (true, takeS 63 (takeS 43 (takeS 42 s))) := by
  cases m with
  | zero => rw [marksS]
  | succ m => rw [marksS, if_neg (by rw [h1]; simp), if_neg (by rw [h2]; simp), if_neg (by rw [h3]; simp)]
/-- What a round of marks starts from. -/
structure MkI (w wr : World) (rb b : Nat) (left : Wd) (F : Bool × PS) (m : Nat) (s : PS) : Prop where
  rd : RdM wr rb s
  suf : s.left <:+ left
  fuel : s.left.length ≤ m
  eq : marksS b m s = F
  bel : Below rb w wr
set_option maxHeartbeats 4000000 in
set_option maxRecDepth 10000 in
theorem item_any (n : Nat) (at' : PartC 83 (atomS (exprS n)) (n + 1)) (hsuf : ∀ st : PS, (atomS (exprS n) st).2.left <:+ st.left) : PartC 74 (itemS (exprS n)) (n + 1) := by
  intro rb st w h hn hg
  have HAT := Lib.hid (at' rb st w h hn hg)
  have HSUF := Lib.hid (hsuf st)
  obtain ⟨q, hq⟩ : ∃ q, q = atomS (exprS n) st := ⟨_, rfl⟩
  obtain ⟨F, hF⟩ : ∃ F, F = itemS (exprS n) st := ⟨_, rfl⟩
  have HF : Hid (F = if q.1 = true then marksS st.nodes.length q.2.left.length q.2 else (false, q.2)) := Lib.hid (by rw [hF, hq]; rfl)
  rw [← hq] at HAT HSUF
  have HG := Lib.hid hg
  obtain ⟨v, h1, h2⟩ := h.row
  obtain ⟨a, c, rfl, _⟩ := h2.row.at
  have c2 := h1.cell (j := 2) rfl
  obtain ⟨b, hb⟩ : ∃ b, b = st.nodes.length := ⟨_, rfl⟩
  rw [← hb] at c2 HF
  rw [← hF]
  clear h hn hg hq h1 h2 at' hsuf hF hb
  go_enter Try.func74, Try.ntmps74
  go_wp2_with fail
  go_step3
  go_wp2_with fail
  refine HAT.out.mono ?_
  rintro e w1 ⟨rfl, hr, hb⟩
  have HR1 := Lib.hid hr
  have HB1 := Lib.hid hb
  clear hr hb c2
  cases hq1 : q.1 with
  | false =>
    rw [hq1] at HF
    clear hq1
    go_wp2_with fail
    rw [Exit.noGoto_ret]
    go_ret
    unfold ReadPost
    rw [HF.out]
    exact ⟨rfl, HR1.out, HB1.out⟩
  | true =>
    rw [hq1] at HF
    clear hq1
    go_wp2_with fail
    go_step3
    go_wp2_with fail
    go_loopw [] (fun wr => Hid (∃ m s, MkI w wr rb b st.left F m s)) (fun wr => leftLen rb wr)
    case atStart => exact Lib.hid ⟨q.2.left.length, q.2, HR1.out, HSUF.out, Nat.le_refl _, by rw [HF.out]; simp, HB1.out⟩
    case round =>
      obtain ⟨m, s, hI⟩ := hrel.out
      have HI := Lib.hid hI
      have HLAST := Lib.hid (last_any rb s wr hI.rd)
      have H42 := Lib.hid (take_lit 42 42 (by decide) rb s wr hI.rd)
      obtain ⟨s1, hs1⟩ : ∃ s1, s1 = takeS 42 s := ⟨_, rfl⟩
      have g1 : s1.left <:+ s.left := by rw [hs1]; exact take_suf 42 s.left
      obtain ⟨s2, hs2⟩ : ∃ s2, s2 = takeS 43 s1 := ⟨_, rfl⟩
      have g2 : s2.left <:+ s1.left := by rw [hs2]; exact take_suf 43 s1.left
      obtain ⟨s3, hs3⟩ : ∃ s3, s3 = takeS 63 s2 := ⟨_, rfl⟩
      have g3 : s3.left <:+ s2.left := by rw [hs3]; exact take_suf 63 s2.left
      have HS1 := Lib.hid hs1
      have HS2 := Lib.hid hs2
      have HS3 := Lib.hid hs3
      have G1 := Lib.hid g1
      have G2 := Lib.hid g2
      have G3 := Lib.hid g3
      have HLEN := Lib.hid (rd_left hI.rd)
      have HP43 := Lib.hid (no_plus (HG.out.suf (g1.trans hI.suf)))
      clear hI hrel hs1 hs2 hs3 g1 g2 g3
      go_wp2_with fail
      refine HLAST.out.mono ?_
      rintro e w2 ⟨rfl, rfl⟩
      go_wp2_with fail
      refine H42.out.mono ?_
      rintro e w2 ⟨rfl, hr, hb⟩
      rw [← HS1.out] at hr
      have HR2 := Lib.hid hr
      have HB2 := Lib.hid (HI.out.bel.trans hb)
      clear hr hb
      cases h42 : takeB 42 s.left with
      | true =>
        have HST := Lib.hid (star_any rb s1 w2 HR2.out)
        have H42' := Lib.hid h42
        clear h42
        go_wp2_with fail
        refine HST.out.mono ?_
        rintro e w3 hp
        have HP := Lib.hid hp
        obtain ⟨rfl, -, -⟩ := hp
        go_wp2_with fail
        have hlen : (starS s1).left.length < s.left.length := by
          rw [starS, addS_left, HS1.out]; exact take_len H42'.out
        go_roundw
        case rel =>
          obtain ⟨m', rfl, he⟩ := marks_star (b := b) H42'.out HI.out.fuel
          refine Lib.hid ⟨m', starS s1, HP.out.2.1, ?_, ?_, ?_, HB2.out.trans HP.out.2.2⟩
          · rw [starS, addS_left]; exact G1.out.trans HI.out.suf
          · have := HI.out.fuel; omega
          · rw [HS1.out, ← he]; exact HI.out.eq
        case measure => rw [rd_left HP.out.2.1, HLEN.out]; exact hlen
      | false =>
        have H42' := Lib.hid h42
        have H43 := Lib.hid (take_lit 43 43 (by decide) rb s1 w2 HR2.out)
        clear h42
        go_wp2_with fail
        refine H43.out.mono ?_
        rintro e w3 ⟨rfl, hr, hb⟩
        rw [← HS2.out] at hr
        have HR3 := Lib.hid hr
        have HB3 := Lib.hid (HB2.out.trans hb)
        clear hr hb
        have h43 := HP43.out
        have H63 := Lib.hid (take_lit 63 63 (by decide) rb s2 w3 HR3.out)
        go_wp2_with fail
        refine H63.out.mono ?_
        rintro e w4 ⟨rfl, hr, hb⟩
        rw [← HS3.out] at hr
        have HR4 := Lib.hid hr
        have HB4 := Lib.hid (HB3.out.trans hb)
        clear hr hb h43
        cases h63 : takeB 63 s2.left with
        | false =>
          have hF2 : F = (true, s3) := by
            rw [← HI.out.eq, HS3.out, HS2.out, HS1.out]
            refine marks_stop H42'.out ?_ ?_
            · rw [← HS1.out]; exact HP43.out
            · rw [← HS1.out, ← HS2.out]; exact h63
          have HF2 := Lib.hid hF2
          clear hF2 h63
          go_wp2_with fail
          rw [Exit.noGoto_ret]
          go_ret
          unfold ReadPost
          rw [HF2.out]
          exact ⟨rfl, HR4.out, HB4.out⟩
        | true =>
          have H63' := Lib.hid h63
          have HADD := Lib.hid (add_lit rb s3 ⟨1, [], 0, 0⟩ 45 w4 HR4.out)
          clear h63
          go_wp2_with fail
          refine HADD.out.mono ?_
          rintro e w5 hp
          have HP := Lib.hid hp
          obtain ⟨rfl, -, -⟩ := hp
          have HPAIR := Lib.hid (pair_any rb 4 (lastS s) (addS s3 [⟨1, [], 0, 0⟩]) w5 HP.out.2.1)
          go_wp2_with fail
          refine HPAIR.out.mono ?_
          rintro e w6 hp
          have HP2 := Lib.hid hp
          obtain ⟨rfl, -, -⟩ := hp
          go_wp2_with fail
          have hlen : (questS (lastS s) s3).left.length < s.left.length := by
            rw [questS, pairS, addS_left, addS_left, HS3.out]
            exact Nat.lt_of_lt_of_le (take_len H63'.out) (Nat.le_trans G2.out.length_le G1.out.length_le)
          go_roundw
          case rel =>
            obtain ⟨m', rfl, he⟩ := marks_quest (b := b) H42'.out (by rw [← HS1.out]; exact HP43.out) (by rw [← HS1.out, ← HS2.out]; exact H63'.out) HI.out.fuel
            refine Lib.hid ⟨m', questS (lastS s) s3, HP2.out.2.1, ?_, ?_, ?_, HB4.out.trans (HP.out.2.2.trans HP2.out.2.2)⟩
            · rw [questS, pairS, addS_left, addS_left]; exact G3.out.trans (G2.out.trans (G1.out.trans HI.out.suf))
            · have := HI.out.fuel; omega
            · rw [HS3.out, HS2.out, HS1.out, ← he]; exact HI.out.eq
          case measure => rw [rd_left HP2.out.2.1, HLEN.out]; exact hlen
end Go.Proofs.Ytnaimmhdpjggmaa.U
