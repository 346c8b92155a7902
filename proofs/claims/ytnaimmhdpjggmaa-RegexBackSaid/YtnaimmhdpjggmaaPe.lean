/- Symbols of what is wrong; the law RegexMatches. -/
import Derived.Test.YtnaimmhdpjggmaaPd
import Derived.Test.YtnaimmhdpjggmaaMq
import Derived.Test.YtnaimmhdpjggmaaMe
namespace Go.Proofs.Ytnaimmhdpjggmaa.U
open Go.RowKit

set_option maxHeartbeats 2000000 in
theorem symbols_err (v : Value) (l : List Nd) (w : World) (h : NR w v l) (hc : chkP l ≠ 0) : Calls Try.prog 12 #[.agg #[v]] w fun e w' => e = .returned (.slice none 0 0) ∧ Below w.heap.size w w' := by
  obtain ⟨a, c, rfl, _⟩ := h.at
  obtain ⟨n, hn⟩ : ∃ n, n = l.length := ⟨_, rfl⟩
  rw [← hn] at h ⊢
  obtain ⟨W1, hW1⟩ : ∃ W1, W1 = w.alloc (.cells #[.slice a n c] 24) := ⟨_, rfl⟩
  have hb1 : Below w.heap.size w W1 := by rw [hW1]; exact (Below.refl _ w).alloc (Nat.le_refl _) _
  have HB1 := Lib.hid hb1
  have HR1 : Hid (WR W1 w.heap.size 24 [.slice a n c]) := Lib.hid (by rw [hW1]; exact WR.new w 24 [.slice a n c])
  have HCK := Lib.hid (checkG_any _ l W1 (h.below hb1))
  have hc2 : (chkP l != 0) = true := by simp [hc]
  have hc3 : (chkP l == 0) = false := by simp [hc]
  have HW1 := Lib.hid hW1
  clear h hn hb1 hW1
  go_enter Try.func12, Try.ntmps12
  go_upto_region 1 with fail
  rw [← HW1.out]
  have r1 := HR1.out.cell (j := 0) rfl
  go_wp2_with fail
  refine HCK.out.mono ?_
  rintro e w2 ⟨rfl, hb⟩
  have HB2 := Lib.hid (th HB1.out (Nat.le_refl _) hb)
  clear hb r1
  go_wp2_with fail
  go_ret
  exact ⟨rfl, HB2.out⟩
theorem small_has {l : List Nd} (h : smallB l = true) : l.length ≤ 24 ∧ ∀ n ∈ l, n.sym.length ≤ 80 := by
  unfold smallB at h
  rw [Bool.and_eq_true, decide_eq_true_eq, List.all_eq_true] at h
  exact ⟨h.2, fun n hn => by simpa using h.1 n hn⟩
theorem match_same {l : List Nd} (hf : formB l = true) {t : RE} (ht : Sh l (l.length - 1) t) (ws : List Wd) : lgB t ws = matchG l ws := by
  have h1 := match_iff hf ht ws
  cases hb : matchG l ws with
  | true => exact lgB_t (h1.1 hb)
  | false => exact lgB_f (fun h => by rw [h1.2 h] at hb; cases hb)
theorem null_same {l : List Nd} (hf : formB l = true) {t : RE} (ht : Sh l (l.length - 1) t) : nullT t = nullG l := by
  have h1 := match_iff hf ht []
  rw [null_eq]
  cases hb : matchG l [] with
  | true => exact (null_lg t).2 (h1.1 hb)
  | false =>
    cases hn : nullT t with
    | false => rfl
    | true => rw [h1.2 ((null_lg t).1 hn)] at hb; cases hb
def TruePost (w : World) (e : Ending) (w' : World) : Prop := e = .returned (.bool true) ∧ Below w.heap.size w w'
set_option maxHeartbeats 8000000 in
set_option maxRecDepth 10000 in
theorem law_matches (v u : Value) (l : List Nd) (ws : List Wd) (w : World) (h : NR w v l) (hu : VR eS w u ws) : Calls Try.prog 3 #[.agg #[v], u] w fun e w' => TruePost w e w' := by
  obtain ⟨a, c, rfl, _⟩ := h.at
  obtain ⟨ua, uc, rfl, hu2, hu3, _⟩ := hu.at
  obtain ⟨n, hn⟩ : ∃ n, n = l.length := ⟨_, rfl⟩
  obtain ⟨m, hm⟩ : ∃ m, m = ws.length := ⟨_, rfl⟩
  rw [← hn] at h ⊢
  rw [← hm] at hu hu2 ⊢
  have hm63 : m ≤ 9223372036854775807 := by unfold maxLen at hu3; omega
  obtain ⟨W1, hW1⟩ : ∃ W1, W1 = w.alloc (.cells #[.slice a n c] 24) := ⟨_, rfl⟩
  have hb1 : Below w.heap.size w W1 := by rw [hW1]; exact (Below.refl _ w).alloc (Nat.le_refl _) _
  have HB1 := Lib.hid hb1
  have HR1 : Hid (WR W1 w.heap.size 24 [.slice a n c]) := Lib.hid (by rw [hW1]; exact WR.new w 24 [.slice a n c])
  have HV : Hid (∀ W, Below w.heap.size w W → NR W (.slice a n c) l) := Lib.hid (fun W hb => h.below hb)
  have HU : Hid (∀ W, Below w.heap.size w W → VR eS W (.slice ua m uc) ws) := Lib.hid (fun W hb => hu.below hb)
  have HSM := Lib.hid (small_any _ l W1 (h.below hb1))
  have HW1 := Lib.hid hW1
  have HNN := Lib.hid hn
  have HMM := Lib.hid hm
  clear h hu hu2 hu3 hn hm hb1 hW1
  go_enter Try.func3, Try.ntmps3
  go_upto_region 1 with fail
  rw [← HW1.out]
  have r1 := HR1.out.cell (j := 0) rfl
  go_wp2_with fail
  refine HSM.out.mono ?_
  rintro e w2 ⟨rfl, hb⟩
  have HB2 := Lib.hid (th HB1.out (Nat.le_refl _) hb)
  have HR2 := Lib.hid (HR1.out.below hb)
  clear hb r1
  cases hsm : smallB l with
  | false =>
    clear hsm
    have HAW := Lib.hid (awake_any w2)
    go_wp2_with fail
    refine HAW.out.mono ?_
    rintro e w3 ⟨rfl, hb⟩
    have HB3 := Lib.hid (th HB2.out (Nat.le_refl _) hb)
    clear hb
    go_wp2_with fail
    go_ret
    exact ⟨rfl, HB3.out⟩
  | true =>
    have HS := Lib.hid (small_has hsm)
    clear hsm
    by_cases h5 : 5 < m
    · have hd1 : decide ((5 : Int) < (m : Int)) = true := by simp; omega
      have hd2 : decide (5 < m) = true := by simp; omega
      have HAW := Lib.hid (awake_any w2)
      go_wp2_with fail
      refine HAW.out.mono ?_
      rintro e w3 ⟨rfl, hb⟩
      have HB3 := Lib.hid (th HB2.out (Nat.le_refl _) hb)
      clear hb
      go_wp2_with fail
      go_ret
      exact ⟨rfl, HB3.out⟩
    · have hd1 : decide ((5 : Int) < (m : Int)) = false := by simp; omega
      have hd2 : decide (5 < m) = false := by simp; omega
      have HM5 : Hid (ws.length ≤ 1000) := Lib.hid (by rw [← HMM.out]; omega)
      have HPL := Lib.hid (plain_any _ l w2 (HV.out w2 HB2.out) (by have := HS.out.1; omega))
      have r2 := HR2.out.cell (j := 0) rfl
      go_wp2_with fail
      refine HPL.out.mono ?_
      rintro e w3 ⟨p, rfl, hno, hb⟩
      have HB3 := Lib.hid (th HB2.out (Nat.le_refl _) hb)
      have HR3 := Lib.hid (HR2.out.below hb)
      obtain ⟨pa, pc, rfl, _⟩ := hno.row.at
      rw [← HNN.out] at hno
      rw [← HNN.out]
      have HP : Hid (∀ W, Below w3.heap.size w3 W → NR W (.slice pa n pc) l) := Lib.hid (fun W h9 => hno.row.below h9)
      have HRC := Lib.hid (checkR_any _ l w3 hno.row (by have := HS.out.1; omega) (fun x hx => by have := HS.out.2 x hx; omega))
      clear hb hno r2
      go_wp2_with fail
      refine HRC.out.mono ?_
      rintro e w4 ⟨rfl, hb⟩
      have HB34 := Lib.hid hb
      have HB4 := Lib.hid (th HB3.out (Nat.le_refl _) hb)
      have HR4 := Lib.hid (HR3.out.below hb)
      have HGC := Lib.hid (checkG_any _ l w4 (HV.out w4 HB4.out))
      have r4 := HR4.out.cell (j := 0) rfl
      clear hb
      go_wp2_with fail
      refine HGC.out.mono ?_
      rintro e w5 ⟨rfl, hb⟩
      have HB35 := Lib.hid (HB34.out.trans (rb_below HB34.out.size hb))
      have HB5 := Lib.hid (th HB4.out (Nat.le_refl _) hb)
      have HR5 := Lib.hid (HR4.out.below hb)
      have HMA := Lib.hid (matchG_any _ _ l ws w5 (HV.out w5 HB5.out) (HU.out w5 HB5.out) HM5.out)
      have r5 := HR5.out.cell (j := 0) rfl
      clear hb r4
      by_cases hc : chkP l = 0
      · obtain ⟨hf, hnm, hl⟩ := chk0 hc
        obtain ⟨t, ht⟩ := sh_of hf (l.length - 1) (by have := form_pos hf; omega)
        have HSA := Lib.hid (match_same hf ht ws)
        have HNA := Lib.hid (null_same hf ht)
        have HT := Lib.hid ht
        have HI : Hid (((l.length - 1 : Nat) : Int) = (n : Int) - 1) := Lib.hid (by have := form_pos hf; rw [HNN.out]; omega)
        have HMP : Hid (matchP l ws = matchG l ws) := Lib.hid (by unfold matchP; rw [if_pos hc])
        have HNP : Hid (nullP l = nullG l) := Lib.hid (by unfold nullP; rw [if_pos hc])
        rw [HMP.out] at HMA
        rw [hc]
        clear hc hf hnm hl ht
        have hn24 : (n : Int) ≤ 24 := by rw [HNN.out]; have := HS.out.1; omega
        have hn0 : (0 : Int) ≤ n := by omega
        generalize matchG l ws = b1 at HMA HSA
        generalize nullG l = b2 at HNP HNA
        go_wp2_with fail
        refine HMA.out.mono ?_
        rintro e w6 ⟨rfl, hb⟩
        have HB36 := Lib.hid (HB35.out.trans (rb_below HB35.out.size hb))
        have HB6 := Lib.hid (th HB5.out (Nat.le_refl _) hb)
        have HR6 := Lib.hid (HR5.out.below hb)
        have hmr := matchR_any HT.out ws _ _ w6 (HP.out w6 HB36.out) (HU.out w6 HB6.out) HM5.out
        rw [HI.out, HSA.out] at hmr
        have HMR := Lib.hid hmr
        have r6 := HR6.out.cell (j := 0) rfl
        clear hb r5 hmr
        go_wp2_with fail
        refine HMR.out.mono ?_
        rintro e w7 ⟨rfl, hb⟩
        have HB37 := Lib.hid (HB36.out.trans (rb_below HB36.out.size hb))
        have HB7 := Lib.hid (th HB6.out (Nat.le_refl _) hb)
        have HR7 := Lib.hid (HR6.out.below hb)
        have r7 := HR7.out.cell (j := 0) rfl
        have hng := nullable_any _ l w7 (HV.out w7 HB7.out)
        rw [HNP.out] at hng
        have HNG := Lib.hid hng
        clear hb r6 hng
        go_wp2_with fail
        refine HNG.out.mono ?_
        rintro e w8 ⟨rfl, hb⟩
        have HB38 := Lib.hid (HB37.out.trans (rb_below HB37.out.size hb))
        have HB8 := Lib.hid (th HB7.out (Nat.le_refl _) hb)
        have hnr := null_any HT.out _ w8 (HP.out w8 HB38.out)
        rw [HI.out, HNA.out] at hnr
        have HNR := Lib.hid hnr
        clear hb r7 hnr
        go_wp2_with fail
        refine HNR.out.mono ?_
        rintro e w9 ⟨rfl, hb⟩
        have HB9 := Lib.hid (th HB8.out (Nat.le_refl _) hb)
        have HAW := Lib.hid (awake_any w9)
        clear hb
        go_wp2_with fail
        refine HAW.out.mono ?_
        rintro e w10 ⟨rfl, hb⟩
        have HB10 := Lib.hid (th HB9.out (Nat.le_refl _) hb)
        clear hb
        go_wp2_with fail
        go_ret
        exact ⟨rfl, HB10.out⟩
      · have hc2 : (chkP l != 0) = true := by simp [hc]
        have hc3 : (chkP l == 0) = false := by simp [hc]
        have HMP : Hid (matchP l ws = false) := Lib.hid (by unfold matchP; rw [if_neg hc])
        have HNP : Hid (nullP l = false) := Lib.hid (by unfold nullP; rw [if_neg hc])
        have HC := Lib.hid hc
        rw [HMP.out] at HMA
        generalize chkP l = E at hc hc2 hc3
        go_wp2_with fail
        refine HMA.out.mono ?_
        rintro e w6 ⟨rfl, hb⟩
        have HB6 := Lib.hid (th HB5.out (Nat.le_refl _) hb)
        have HR6 := Lib.hid (HR5.out.below hb)
        have hng := nullable_any _ l w6 (HV.out w6 HB6.out)
        rw [HNP.out] at hng
        have HNG := Lib.hid hng
        have r6 := HR6.out.cell (j := 0) rfl
        clear hb r5 hng
        go_wp2_with fail
        refine HNG.out.mono ?_
        rintro e w7 ⟨rfl, hb⟩
        have HB7 := Lib.hid (th HB6.out (Nat.le_refl _) hb)
        have HR7 := Lib.hid (HR6.out.below hb)
        have HSY := Lib.hid (symbols_err _ l w7 (HV.out w7 HB7.out) HC.out)
        have r7 := HR7.out.cell (j := 0) rfl
        clear hb r6
        go_wp2_with fail
        refine HSY.out.mono ?_
        rintro e w8 ⟨rfl, hb⟩
        have HB8 := Lib.hid (th HB7.out (Nat.le_refl _) hb)
        have HAW := Lib.hid (awake_any w8)
        clear hb r7
        go_wp2_with fail
        refine HAW.out.mono ?_
        rintro e w9 ⟨rfl, hb⟩
        have HB9 := Lib.hid (th HB8.out (Nat.le_refl _) hb)
        clear hb
        go_wp2_with fail
        go_ret
        exact ⟨rfl, HB9.out⟩
end Go.Proofs.Ytnaimmhdpjggmaa.U
