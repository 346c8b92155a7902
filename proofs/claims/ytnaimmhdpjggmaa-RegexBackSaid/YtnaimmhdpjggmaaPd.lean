/- The chapter's example: the law is awake. -/
import Derived.Test.YtnaimmhdpjggmaaPc
import Derived.Test.YtnaimmhdpjggmaaMt
import Derived.Test.YtnaimmhdpjggmaaMp
namespace Go.Proofs.Ytnaimmhdpjggmaa.U
open Go.RowKit

def s0 : Wd := [97, 44, 32, 40, 98, 32, 124, 32, 99, 41, 42, 44, 32, 100, 63]
theorem ex_e : parseE s0 = 0 := by decide +kernel
theorem ex_chk : chkP (parseN s0) = 0 := by decide +kernel
theorem ex_text : textP (parseN s0) = [97, 44, 40, 98, 124, 99, 41, 42, 44, 40, 100, 124, 40, 41, 41] := by decide +kernel
theorem ex_m1 : matchP (parseN s0) [[97]] = true := by decide +kernel
theorem ex_m2 : matchP (parseN s0) [[97], [98], [99], [100]] = true := by decide +kernel
theorem ex_m3 : matchP (parseN s0) [[98]] = false := by decide +kernel
theorem ex_parse (w : World) : Calls Try.prog 16 #[.string ⟨#[97, 44, 32, 40, 98, 32, 124, 32, 99, 41, 42, 44, 32, 100, 63]⟩] w fun e w' => ∃ v, e = .returned (.tuple #[.agg #[v], .int .i64 0]) ∧ NR w' v (parseN s0) ∧ Below w.heap.size w w' := by
  have h := parse_any s0 w (by decide) (by decide)
  unfold ParsePost at h
  rw [ex_e] at h
  exact h
theorem row_new (w : World) (ws : List Wd) (h : ws.length ≤ 1000) : VR eS (w.alloc (.cells (ws.map eS).toArray 9)) (.slice (some ⟨w.heap.size, 0, none⟩) ws.length ws.length) ws := (WR.new w 9 (ws.map eS)).row (by omega)
set_option maxHeartbeats 4000000 in
theorem awake_any (w : World) : Calls Try.prog 6 #[] w fun e w' => e = .returned (.bool true) ∧ Below w.heap.size w w' := by
  have HP := Lib.hid (ex_parse w)
  obtain ⟨N, hN⟩ : ∃ N, N = parseN s0 := ⟨_, rfl⟩
  have HC : Hid (chkP N = 0) := Lib.hid (by rw [hN]; exact ex_chk)
  have HT : Hid (textP N = [97, 44, 40, 98, 124, 99, 41, 42, 44, 40, 100, 124, 40, 41, 41]) := Lib.hid (by rw [hN]; exact ex_text)
  have H1 : Hid (matchP N [[97]] = true) := Lib.hid (by rw [hN]; exact ex_m1)
  have H2 : Hid (matchP N [[97], [98], [99], [100]] = true) := Lib.hid (by rw [hN]; exact ex_m2)
  have H3 : Hid (matchP N [[98]] = false) := Lib.hid (by rw [hN]; exact ex_m3)
  rw [← hN] at HP
  clear hN
  go_enter Try.func6, Try.ntmps6
  go_wp2_with fail
  refine HP.out.mono ?_
  rintro e w1 ⟨v, rfl, hn, hb⟩
  obtain ⟨a, c, rfl, _⟩ := hn.at
  obtain ⟨n, hnn⟩ : ∃ n, n = N.length := ⟨_, rfl⟩
  rw [← hnn] at hn
  have HN1 := Lib.hid hn
  have HB1 := Lib.hid hb
  obtain ⟨W2, hW2⟩ : ∃ W2, W2 = w1.alloc (.cells #[.slice a n c] 24) := ⟨_, rfl⟩
  have HW2 := Lib.hid hW2
  have hb2 : Below w1.heap.size w1 W2 := by rw [hW2]; exact (Below.refl _ w1).alloc (Nat.le_refl _) _
  have HR2 : Hid (WR W2 w1.heap.size 24 [.slice a n c]) := Lib.hid (by rw [hW2]; exact WR.new w1 24 [.slice a n c])
  have HN2 := Lib.hid (hn.below hb2)
  have HB2 := Lib.hid (th hb (Nat.le_refl _) hb2)
  have HTX := Lib.hid (text_any _ N W2 HN2.out)
  rw [HT.out, HC.out] at HTX
  rw [← hnn]
  clear hn hb hb2 hnn hW2
  go_upto_region 2 with fail
  rw [← HW2.out]
  have r2 := HR2.out.cell (j := 0) rfl
  go_wp2_with fail
  refine HTX.out.mono ?_
  rintro e w3 ⟨rfl, hb⟩
  have HR3 := Lib.hid (HR2.out.below hb)
  have HN3 := Lib.hid (HN2.out.below hb)
  have HB3 := Lib.hid (th HB2.out (Nat.le_refl _) hb)
  have r3 := HR3.out.cell (j := 0) rfl
  have HM1 := Lib.hid (matchG_any (.slice a n c) _ N [[97]] _ (HN3.out.below ((Below.refl _ w3).alloc (Nat.le_refl _) _)) (row_new w3 [[97]] (by simp)) (by simp))
  rw [H1.out] at HM1
  clear hb r2
  go_wp2_with fail
  refine HM1.out.mono ?_
  rintro e w4 ⟨rfl, hb⟩
  have hb4 : Below w3.heap.size w3 w4 := ((Below.refl _ w3).alloc (Nat.le_refl _) _).trans (rb_below (by simp) hb)
  have HR4 := Lib.hid (HR3.out.below hb4)
  have HN4 := Lib.hid (HN3.out.below hb4)
  have HB4 := Lib.hid (th HB3.out (Nat.le_refl _) hb4)
  have r4 := HR4.out.cell (j := 0) rfl
  have HM2 := Lib.hid (matchG_any (.slice a n c) _ N [[97], [98], [99], [100]] _ (HN4.out.below ((Below.refl _ w4).alloc (Nat.le_refl _) _)) (row_new w4 [[97], [98], [99], [100]] (by simp)) (by simp))
  rw [H2.out] at HM2
  clear hb hb4 r3
  go_wp2_with fail
  refine HM2.out.mono ?_
  rintro e w5 ⟨rfl, hb⟩
  have hb5 : Below w4.heap.size w4 w5 := ((Below.refl _ w4).alloc (Nat.le_refl _) _).trans (rb_below (by simp) hb)
  have HR5 := Lib.hid (HR4.out.below hb5)
  have HN5 := Lib.hid (HN4.out.below hb5)
  have HB5 := Lib.hid (th HB4.out (Nat.le_refl _) hb5)
  have r5 := HR5.out.cell (j := 0) rfl
  have HM3 := Lib.hid (matchG_any (.slice a n c) _ N [[98]] _ (HN5.out.below ((Below.refl _ w5).alloc (Nat.le_refl _) _)) (row_new w5 [[98]] (by simp)) (by simp))
  rw [H3.out] at HM3
  clear hb hb5 r4
  go_wp2_with fail
  refine HM3.out.mono ?_
  rintro e w6 ⟨rfl, hb⟩
  have hb6 : Below w5.heap.size w5 w6 := ((Below.refl _ w5).alloc (Nat.le_refl _) _).trans (rb_below (by simp) hb)
  have HB6 := Lib.hid (th HB5.out (Nat.le_refl _) hb6)
  clear hb hb6 r5
  go_wp2_with fail
  go_ret
  exact ⟨rfl, HB6.out⟩
end Go.Proofs.Ytnaimmhdpjggmaa.U
