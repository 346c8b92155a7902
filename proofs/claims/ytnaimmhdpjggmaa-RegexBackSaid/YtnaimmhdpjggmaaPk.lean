/- The law RegexBack. -/
import Derived.Test.YtnaimmhdpjggmaaPg
namespace Go.Proofs.Ytnaimmhdpjggmaa.U
open Go.RowKit

set_option maxHeartbeats 16000000 in
set_option maxRecDepth 20000 in
theorem law_back (v u : Value) (l : List Nd) (ws : List Wd) (w : World) (h : NR w v l) (hu : VR eS w u ws) : Calls Try.prog 4 #[.agg #[v], u] w fun e w' => TruePost w e w' := by
  obtain ⟨a, c, rfl, _⟩ := h.at
  obtain ⟨ua, uc, rfl, hu2, hu3, _⟩ := hu.at
  obtain ⟨n, hn⟩ : ∃ n, n = l.length := ⟨_, rfl⟩
  obtain ⟨m, hm⟩ : ∃ m, m = ws.length := ⟨_, rfl⟩
  rw [← hn] at h ⊢
  rw [← hm] at hu hu2 ⊢
  have hm63 : m ≤ 9223372036854775807 := by unfold maxLen at hu3; omega
  obtain ⟨W1, hW1⟩ : ∃ W1, W1 = w.alloc (.cells #[.slice a n c] 24) := ⟨_, rfl⟩
  have hb1 : Below w.heap.size w W1 := by rw [hW1]; exact (Below.refl _ w).alloc (Nat.le_refl _) _
  have HB1 := Lib.hid hb1
  have HR1 : Hid (WR W1 w.heap.size 24 [.slice a n c]) := Lib.hid (by rw [hW1]; exact WR.new w 24 [.slice a n c])
  have HV : Hid (∀ W, Below w.heap.size w W → NR W (.slice a n c) l) := Lib.hid (fun W hb => h.below hb)
  have HU : Hid (∀ W, Below w.heap.size w W → VR eS W (.slice ua m uc) ws) := Lib.hid (fun W hb => hu.below hb)
  have HSM := Lib.hid (small_any _ l W1 (h.below hb1))
  have HW1 := Lib.hid hW1
  have HNN := Lib.hid hn
  have HMM := Lib.hid hm
  clear h hu hu2 hu3 hn hm hb1 hW1
  go_enter Try.func4, Try.ntmps4
  go_upto_region 1 with fail
  rw [← HW1.out]
  have r1 := HR1.out.cell (j := 0) rfl
  go_wp2_with fail
  refine HSM.out.mono ?_
  rintro e w2 ⟨rfl, hb⟩
  have HB2 := Lib.hid (th HB1.out (Nat.le_refl _) hb)
  have HR2 := Lib.hid (HR1.out.below hb)
  clear hb r1
  cases hsm : smallB l with
  | false =>
    clear hsm
    have HAW := Lib.hid (awake_any w2)
    go_wp2_with fail
    refine HAW.out.mono ?_
    rintro e w3 ⟨rfl, hb⟩
    have HB3 := Lib.hid (th HB2.out (Nat.le_refl _) hb)
    clear hb
    go_wp2_with fail
    go_ret
    exact ⟨rfl, HB3.out⟩
  | true =>
    have HS := Lib.hid (small_has hsm)
    clear hsm
    by_cases h5 : 5 < m
    · have hd1 : decide ((5 : Int) < (m : Int)) = true := by simp; omega
      have hd2 : decide (5 < m) = true := by simp; omega
      have HAW := Lib.hid (awake_any w2)
      go_wp2_with fail
      refine HAW.out.mono ?_
      rintro e w3 ⟨rfl, hb⟩
      have HB3 := Lib.hid (th HB2.out (Nat.le_refl _) hb)
      clear hb
      go_wp2_with fail
      go_ret
      exact ⟨rfl, HB3.out⟩
    · have hd1 : decide ((5 : Int) < (m : Int)) = false := by simp; omega
      have hd2 : decide (5 < m) = false := by simp; omega
      have HM5 : Hid (ws.length ≤ 1000) := Lib.hid (by rw [← HMM.out]; omega)
      have htx := text_any _ l w2 (HV.out w2 HB2.out)
      have r2 := HR2.out.cell (j := 0) rfl
      by_cases hc : chkP l = 0
      · obtain ⟨q, s, hF⟩ := back_has hc HS.out.1
        have HF := Lib.hid hF
        rw [hc, HF.out.text] at htx
        obtain ⟨S, hS⟩ : ∃ S, S = bs s := ⟨_, rfl⟩
        rw [show (⟨s.toArray⟩ : ByteArray) = S from hS.symm] at htx
        have HTX := Lib.hid htx
        have HSS := Lib.hid hS
        have HPA : Hid (∀ W, Calls Try.prog 16 #[.string S] W fun e w' => ∃ v, e = .returned (.tuple #[.agg #[v], .int .i64 0]) ∧ NR w' v q ∧ Below W.heap.size W w') := Lib.hid (fun W => by
          have h9 := parse_any s W HF.out.plus HF.out.len
          unfold ParsePost at h9
          rw [HF.out.pe, HF.out.pn] at h9
          rw [HSS.out]; exact h9)
        clear hc hF htx hS
        go_wp2_with fail
        refine HTX.out.mono ?_
        rintro e w3 ⟨rfl, hb⟩
        have HB3 := Lib.hid (th HB2.out (Nat.le_refl _) hb)
        have HR3 := Lib.hid (HR2.out.below hb)
        clear hb r2
        have HP3 := Lib.hid (HPA.out w3)
        go_wp2_with fail
        refine HP3.out.mono ?_
        rintro e w4 ⟨vq, rfl, hq, hb⟩
        obtain ⟨qa, qc, rfl, _⟩ := hq.at
        rw [HF.out.same, ← HNN.out] at hq
        rw [HF.out.same, ← HNN.out]
        obtain ⟨W5, hW5⟩ : ∃ W5, W5 = w4.alloc (.cells #[.slice qa n qc] 24) := ⟨_, rfl⟩
        have hb5 : Below w4.heap.size w4 W5 := by rw [hW5]; exact (Below.refl _ w4).alloc (Nat.le_refl _) _
        have HW5 := Lib.hid hW5
        have HB5 := Lib.hid (th (th HB3.out (Nat.le_refl _) hb) (Nat.le_refl _) hb5)
        have HR5 := Lib.hid ((HR3.out.below hb).below hb5)
        have HQ5 : Hid (WR W5 w4.heap.size 24 [.slice qa n qc]) := Lib.hid (by rw [hW5]; exact WR.new w4 24 [.slice qa n qc])
        have HNQ5 := Lib.hid (hq.below hb5)
        have htx := text_any _ q W5 HNQ5.out
        rw [HF.out.chk, HF.out.text2, show (⟨s.toArray⟩ : ByteArray) = S from HSS.out.symm] at htx
        have HTX5 := Lib.hid htx
        clear hb hb5 hq hW5 htx
        go_upto_region 7 with fail
        rw [← HW5.out]
        have q5 := HQ5.out.cell (j := 0) rfl
        go_wp2_with fail
        refine HTX5.out.mono ?_
        rintro e w6 ⟨rfl, hb⟩
        have HB6 := Lib.hid (th HB5.out (Nat.le_refl _) hb)
        have HR6 := Lib.hid (HR5.out.below hb)
        have HQ6 := Lib.hid (HQ5.out.below hb)
        have HNQ6 := Lib.hid (HNQ5.out.below hb)
        clear hb q5
        have HP6 := Lib.hid (HPA.out w6)
        go_wp2_with fail
        refine HP6.out.mono ?_
        rintro e w7 ⟨vp, rfl, hp, hb⟩
        obtain ⟨pa, pc, rfl, _⟩ := hp.at
        rw [HF.out.same, ← HNN.out] at hp
        rw [HF.out.same, ← HNN.out]
        obtain ⟨W8, hW8⟩ : ∃ W8, W8 = w7.alloc (.cells #[.slice pa n pc] 24) := ⟨_, rfl⟩
        have hb8 : Below w7.heap.size w7 W8 := by rw [hW8]; exact (Below.refl _ w7).alloc (Nat.le_refl _) _
        have HW8 := Lib.hid hW8
        have HB8 := Lib.hid (th (th HB6.out (Nat.le_refl _) hb) (Nat.le_refl _) hb8)
        have HR8 := Lib.hid ((HR6.out.below hb).below hb8)
        have HQ8 := Lib.hid ((HQ6.out.below hb).below hb8)
        have HNQ8 := Lib.hid ((HNQ6.out.below hb).below hb8)
        have HP8 : Hid (WR W8 w7.heap.size 24 [.slice pa n pc]) := Lib.hid (by rw [hW8]; exact WR.new w7 24 [.slice pa n pc])
        have HNP8 := Lib.hid (hp.below hb8)
        clear hb hb8 hp hW8
        go_upto_region 9 with fail
        rw [← HW8.out]
        generalize hrb : w.heap.size = rb at *
        generalize hqb : w4.heap.size = qb at *
        generalize hpb : w7.heap.size = pb at *
        have HU8 := Lib.hid (HU.out W8 HB8.out)
        have HV8 := Lib.hid (HV.out W8 HB8.out)
        have KP : Hid (∀ W', Below W8.heap.size W8 W' → W'.cell? ⟨rb, 0, none⟩ = some (.slice a n c) ∧ W'.cell? ⟨qb, 0, none⟩ = some (.slice qa n qc) ∧ W'.cell? ⟨pb, 0, none⟩ = some (.slice pa n pc) ∧ Hid (Below W8.heap.size W8 W')) := Lib.hid (fun W' hb =>
          ⟨(HR8.out.below hb).cell rfl, (HQ8.out.below hb).cell rfl, (HP8.out.below hb).cell rfl, Lib.hid hb⟩)
        have HQL : Hid (q.length ≤ 1024) := Lib.hid (by rw [HF.out.same]; have := HS.out.1; omega)
        refine wp_region_held_drew (S := (fun W' => W'.cell? ⟨rb, 0, none⟩ = some (.slice a n c) ∧ W'.cell? ⟨qb, 0, none⟩ = some (.slice qa n qc) ∧ W'.cell? ⟨pb, 0, none⟩ = some (.slice pa n pc) ∧ Hid (Below W8.heap.size W8 W'))) (by kernel_rfl) ?_ (fun hHeld => ?_)
        · (try dsimp only)
          exact KP.out _ (below_draw _)
        obtain ⟨Wd, hWd⟩ : ∃ Wd, Wd = W8.drew := ⟨_, rfl⟩
        rw [← hWd] at hHeld ⊢
        clear hWd
        refine wpAnyH_take (i := 0) (oi := { dst := some 49, op := Op.move (Operand.tmp 8), type := 30, pos := "law.go:198", after := #[], guard := none }) (v := ?rv1) rfl (by kernel_rfl) (by kernel_rfl) (by kernel_rfl) (fun _ _ _ h => h) (Or.inl ⟨by rfl, ?rhy1⟩) (by assumption) ?rrest1
        case rhy1 => (intro w hSw; (try dsimp only at hSw); first | (go_simp; done) | (go_simp; with_reducible rfl))
        case rrest1 =>
        try simp only [Act.put, List.setIfInBounds_toArray, List.set_cons_zero, List.set_cons_succ]
        refine wpAnyH_take (i := 1) (oi := { dst := some 50, op := Op.binOp BinOp.eql 30 (Operand.tmp 49) (Operand.const (Value.int IntKind.i64 0)) 30, type := 4, pos := "law.go:198", after := #[{ on := 0, ground := Ground.data }], guard := none }) (v := ?rv2) rfl (by kernel_rfl) (by kernel_rfl) (by kernel_rfl) (fun _ _ _ h => h) (Or.inl ⟨by rfl, ?rhy2⟩) (by assumption) ?rrest2
        case rhy2 => (intro w hSw; (try dsimp only at hSw); first | (go_simp; done) | (go_simp; with_reducible rfl))
        case rrest2 =>
        try simp only [Act.put, List.setIfInBounds_toArray, List.set_cons_zero, List.set_cons_succ]
        refine wpAnyH_take (i := 2) (oi := { dst := some 51, op := Op.move (Operand.tmp 50), type := 4, pos := "law.go:198", after := #[{ on := 1, ground := Ground.data }], guard := none }) (v := ?rv3) rfl (by kernel_rfl) (by kernel_rfl) (by kernel_rfl) (fun _ _ _ h => h) (Or.inl ⟨by rfl, ?rhy3⟩) (by assumption) ?rrest3
        case rhy3 => (intro w hSw; (try dsimp only at hSw); first | (go_simp; done) | (go_simp; with_reducible rfl))
        case rrest3 =>
        try simp only [Act.put, List.setIfInBounds_toArray, List.set_cons_zero, List.set_cons_succ]
        refine wpAnyH_take (i := 3) (oi := { dst := some 52, op := Op.move (Operand.tmp 10), type := 30, pos := "law.go:198", after := #[{ on := 2, ground := Ground.guard }], guard := some (2, true) }) (v := ?rv4) rfl (by kernel_rfl) (by kernel_rfl) (by kernel_rfl) (fun _ _ _ h => h) (Or.inl ⟨by rfl, ?rhy4⟩) (by assumption) ?rrest4
        case rhy4 => (intro w hSw; (try dsimp only at hSw); first | (go_simp; done) | (go_simp; with_reducible rfl))
        case rrest4 =>
        try simp only [Act.put, List.setIfInBounds_toArray, List.set_cons_zero, List.set_cons_succ]
        refine wpAnyH_take (i := 4) (oi := { dst := some 53, op := Op.binOp BinOp.eql 30 (Operand.tmp 52) (Operand.const (Value.int IntKind.i64 0)) 30, type := 4, pos := "law.go:198", after := #[{ on := 3, ground := Ground.data }, { on := 2, ground := Ground.guard }], guard := some (2, true) }) (v := ?rv5) rfl (by kernel_rfl) (by kernel_rfl) (by kernel_rfl) (fun _ _ _ h => h) (Or.inl ⟨by rfl, ?rhy5⟩) (by assumption) ?rrest5
        case rhy5 => (intro w hSw; (try dsimp only at hSw); first | (go_simp; done) | (go_simp; with_reducible rfl))
        case rrest5 =>
        try simp only [Act.put, List.setIfInBounds_toArray, List.set_cons_zero, List.set_cons_succ]
        refine wpAnyH_take (i := 5) (oi := { dst := some 54, op := Op.pick (Operand.tmp 51) (Operand.tmp 53) (Operand.const (Value.bool false)), type := 4, pos := "law.go:198", after := #[{ on := 2, ground := Ground.data }, { on := 4, ground := Ground.data }], guard := none }) (v := ?rv6) rfl (by kernel_rfl) (by kernel_rfl) (by kernel_rfl) (fun _ _ _ h => h) (Or.inl ⟨by rfl, ?rhy6⟩) (by assumption) ?rrest6
        case rhy6 => (intro w hSw; (try dsimp only at hSw); first | (go_simp; done) | (go_simp; with_reducible rfl))
        case rrest6 =>
        try simp only [Act.put, List.setIfInBounds_toArray, List.set_cons_zero, List.set_cons_succ]
        refine wpAnyH_take (i := 6) (oi := { dst := some 55, op := Op.move (Operand.tmp 54), type := 4, pos := "law.go:198", after := #[{ on := 5, ground := Ground.data }, { on := 2, ground := Ground.chain }], guard := none }) (v := ?rv7) rfl (by kernel_rfl) (by kernel_rfl) (by kernel_rfl) (fun _ _ _ h => h) (Or.inl ⟨by rfl, ?rhy7⟩) (by assumption) ?rrest7
        case rhy7 => (intro w hSw; (try dsimp only at hSw); first | (go_simp; done) | (go_simp; with_reducible rfl))
        case rrest7 =>
        try simp only [Act.put, List.setIfInBounds_toArray, List.set_cons_zero, List.set_cons_succ]
        refine wpAnyH_take (i := 7) (oi := { dst := some 56, op := Op.move (Operand.tmp 12), type := 30, pos := "law.go:198", after := #[{ on := 6, ground := Ground.guard }], guard := some (6, true) }) (v := ?rv8) rfl (by kernel_rfl) (by kernel_rfl) (by kernel_rfl) (fun _ _ _ h => h) (Or.inl ⟨by rfl, ?rhy8⟩) (by assumption) ?rrest8
        case rhy8 => (intro w hSw; (try dsimp only at hSw); first | (go_simp; done) | (go_simp; with_reducible rfl))
        case rrest8 =>
        try simp only [Act.put, List.setIfInBounds_toArray, List.set_cons_zero, List.set_cons_succ]
        refine wpAnyH_take (i := 8) (oi := { dst := some 57, op := Op.binOp BinOp.eql 30 (Operand.tmp 56) (Operand.const (Value.int IntKind.i64 0)) 30, type := 4, pos := "law.go:198", after := #[{ on := 7, ground := Ground.data }, { on := 6, ground := Ground.guard }], guard := some (6, true) }) (v := ?rv9) rfl (by kernel_rfl) (by kernel_rfl) (by kernel_rfl) (fun _ _ _ h => h) (Or.inl ⟨by rfl, ?rhy9⟩) (by assumption) ?rrest9
        case rhy9 => (intro w hSw; (try dsimp only at hSw); first | (go_simp; done) | (go_simp; with_reducible rfl))
        case rrest9 =>
        try simp only [Act.put, List.setIfInBounds_toArray, List.set_cons_zero, List.set_cons_succ]
        refine wpAnyH_take (i := 9) (oi := { dst := some 58, op := Op.pick (Operand.tmp 55) (Operand.tmp 57) (Operand.const (Value.bool false)), type := 4, pos := "law.go:198", after := #[{ on := 6, ground := Ground.data }, { on := 8, ground := Ground.data }], guard := none }) (v := ?rv10) rfl (by kernel_rfl) (by kernel_rfl) (by kernel_rfl) (fun _ _ _ h => h) (Or.inl ⟨by rfl, ?rhy10⟩) (by assumption) ?rrest10
        case rhy10 => (intro w hSw; (try dsimp only at hSw); first | (go_simp; done) | (go_simp; with_reducible rfl))
        case rrest10 =>
        try simp only [Act.put, List.setIfInBounds_toArray, List.set_cons_zero, List.set_cons_succ]
        refine wpAnyH_take (i := 10) (oi := { dst := some 59, op := Op.move (Operand.tmp 58), type := 4, pos := "law.go:198", after := #[{ on := 9, ground := Ground.data }, { on := 6, ground := Ground.chain }], guard := none }) (v := ?rv11) rfl (by kernel_rfl) (by kernel_rfl) (by kernel_rfl) (fun _ _ _ h => h) (Or.inl ⟨by rfl, ?rhy11⟩) (by assumption) ?rrest11
        case rhy11 => (intro w hSw; (try dsimp only at hSw); first | (go_simp; done) | (go_simp; with_reducible rfl))
        case rrest11 =>
        try simp only [Act.put, List.setIfInBounds_toArray, List.set_cons_zero, List.set_cons_succ]
        refine wpAnyH_take (i := 11) (oi := { dst := some 60, op := Op.move (Operand.tmp 9), type := 9, pos := "law.go:198", after := #[{ on := 10, ground := Ground.guard }], guard := some (10, true) }) (v := ?rv12) rfl (by kernel_rfl) (by kernel_rfl) (by kernel_rfl) (fun _ _ _ h => h) (Or.inl ⟨by rfl, ?rhy12⟩) (by assumption) ?rrest12
        case rhy12 => (intro w hSw; (try dsimp only at hSw); first | (go_simp; done) | (go_simp; with_reducible rfl))
        case rrest12 =>
        try simp only [Act.put, List.setIfInBounds_toArray, List.set_cons_zero, List.set_cons_succ]
        refine wpAnyH_take (i := 12) (oi := { dst := some 61, op := Op.move (Operand.tmp 5), type := 9, pos := "law.go:198", after := #[{ on := 10, ground := Ground.guard }], guard := some (10, true) }) (v := ?rv13) rfl (by kernel_rfl) (by kernel_rfl) (by kernel_rfl) (fun _ _ _ h => h) (Or.inl ⟨by rfl, ?rhy13⟩) (by assumption) ?rrest13
        case rhy13 => (intro w hSw; (try dsimp only at hSw); first | (go_simp; done) | (go_simp; with_reducible rfl))
        case rrest13 =>
        try simp only [Act.put, List.setIfInBounds_toArray, List.set_cons_zero, List.set_cons_succ]
        refine wpAnyH_take (i := 13) (oi := { dst := some 62, op := Op.binOp BinOp.eql 9 (Operand.tmp 60) (Operand.tmp 61) 9, type := 4, pos := "law.go:198", after := #[{ on := 11, ground := Ground.data }, { on := 12, ground := Ground.data }, { on := 10, ground := Ground.guard }], guard := some (10, true) }) (v := ?rv14) rfl (by kernel_rfl) (by kernel_rfl) (by kernel_rfl) (fun _ _ _ h => h) (Or.inl ⟨by rfl, ?rhy14⟩) (by assumption) ?rrest14
        case rhy14 => (intro w hSw; (try dsimp only at hSw); first | (go_simp; done) | (go_simp; with_reducible rfl))
        case rrest14 =>
        try simp only [Act.put, List.setIfInBounds_toArray, List.set_cons_zero, List.set_cons_succ]
        refine wpAnyH_take (i := 14) (oi := { dst := some 63, op := Op.pick (Operand.tmp 59) (Operand.tmp 62) (Operand.const (Value.bool false)), type := 4, pos := "law.go:198", after := #[{ on := 10, ground := Ground.data }, { on := 13, ground := Ground.data }], guard := none }) (v := ?rv15) rfl (by kernel_rfl) (by kernel_rfl) (by kernel_rfl) (fun _ _ _ h => h) (Or.inl ⟨by rfl, ?rhy15⟩) (by assumption) ?rrest15
        case rhy15 => (intro w hSw; (try dsimp only at hSw); first | (go_simp; done) | (go_simp; with_reducible rfl))
        case rrest15 =>
        try simp only [Act.put, List.setIfInBounds_toArray, List.set_cons_zero, List.set_cons_succ]
        refine wpAnyH_take (i := 15) (oi := { dst := some 64, op := Op.move (Operand.tmp 63), type := 4, pos := "law.go:198", after := #[{ on := 14, ground := Ground.data }, { on := 10, ground := Ground.chain }], guard := none }) (v := ?rv16) rfl (by kernel_rfl) (by kernel_rfl) (by kernel_rfl) (fun _ _ _ h => h) (Or.inl ⟨by rfl, ?rhy16⟩) (by assumption) ?rrest16
        case rhy16 => (intro w hSw; (try dsimp only at hSw); first | (go_simp; done) | (go_simp; with_reducible rfl))
        case rrest16 =>
        try simp only [Act.put, List.setIfInBounds_toArray, List.set_cons_zero, List.set_cons_succ]
        refine wpAnyH_take (i := 16) (oi := { dst := some 65, op := Op.load 24 (Operand.tmp 7), type := 24, pos := "law.go:198", after := #[{ on := 15, ground := Ground.guard }], guard := some (15, true) }) (v := ?rv17) rfl (by kernel_rfl) (by kernel_rfl) (by kernel_rfl) (fun _ _ _ h => h) (Or.inl ⟨by rfl, ?rhy17⟩) (by assumption) ?rrest17
        case rhy17 => (intro w hSw; (try dsimp only at hSw); first | (go_simp; done) | (go_simp; with_reducible rfl))
        case rrest17 =>
        try simp only [Act.put, List.setIfInBounds_toArray, List.set_cons_zero, List.set_cons_succ]
        refine wpAnyH_take (i := 18) (oi := { dst := some 67, op := Op.load 24 (Operand.tmp 11), type := 24, pos := "law.go:198", after := #[{ on := 15, ground := Ground.guard }], guard := some (15, true) }) (v := ?rv18) rfl (by kernel_rfl) (by kernel_rfl) (by kernel_rfl) (fun _ _ _ h => h) (Or.inl ⟨by rfl, ?rhy18⟩) (by assumption) ?rrest18
        case rhy18 => (intro w hSw; (try dsimp only at hSw); first | (go_simp; done) | (go_simp; with_reducible rfl))
        case rrest18 =>
        try simp only [Act.put, List.setIfInBounds_toArray, List.set_cons_zero, List.set_cons_succ]
        refine wpAnyH_ready (rs := [17]) (by kernel_rfl) (by simp) ?_
        refine AllReadyH.cons (o := { dst := some 66, op := Op.call { callee := Callee.value (Operand.func 7), args := #[Operand.tmp 65], argTypes := #[24] }, type := 28, pos := "law.go:198", after := #[{ on := 16, ground := Ground.data }, { on := 15, ground := Ground.chain }, { on := 15, ground := Ground.guard }], guard := some (15, true) }) rfl (fun K hK => ?_) AllReadyH.nil
        go_simp
        refine (plain_any _ q _ (HNQ8.out.below hHeld.2.2.2.out) HQL.out).mono ?_
        rintro e wc1 ⟨vx, rfl, hno, hb⟩
        obtain ⟨xa, xc, rfl, _⟩ := hno.row.at
        have HX := Lib.hid hno.row
        clear hno
        go_wp2_with fail
        refine hK.out _ _ ?_ (fun hHeld => ?_)
        · (try dsimp only)
          exact KP.out _ (th hHeld.2.2.2.out (Nat.le_refl _) hb)
        clear hK K hb
        try simp only [Act.put, List.setIfInBounds_toArray, List.set_cons_zero, List.set_cons_succ]
        refine wpAnyH_ready (rs := [19]) (by kernel_rfl) (by simp) ?_
        refine AllReadyH.cons (o := { dst := some 68, op := Op.call { callee := Callee.value (Operand.func 7), args := #[Operand.tmp 67], argTypes := #[24] }, type := 28, pos := "law.go:198", after := #[{ on := 18, ground := Ground.data }, { on := 17, ground := Ground.chain }, { on := 15, ground := Ground.guard }], guard := some (15, true) }) rfl (fun K hK => ?_) AllReadyH.nil
        go_simp
        refine (plain_any _ q _ (HNP8.out.below hHeld.2.2.2.out) HQL.out).mono ?_
        rintro e wc2 ⟨vy, rfl, hno, hb⟩
        obtain ⟨ya, yc, rfl, _⟩ := hno.row.at
        have HY := Lib.hid hno.row
        have HX2 := Lib.hid (HX.out.below hb)
        clear hno
        go_wp2_with fail
        refine hK.out _ _ ?_ (fun hHeld => ?_)
        · (try dsimp only)
          exact KP.out _ (th hHeld.2.2.2.out (Nat.le_refl _) hb)
        clear hK K hb
        try simp only [Act.put, List.setIfInBounds_toArray, List.set_cons_zero, List.set_cons_succ]
        refine wpAnyH_ready (rs := [20]) (by kernel_rfl) (by simp) ?_
        refine AllReadyH.cons (o := { dst := some 69, op := Op.call { callee := Callee.value (Operand.func 17), args := #[Operand.tmp 66, Operand.tmp 68], argTypes := #[28, 28] }, type := 4, pos := "law.go:198", after := #[{ on := 17, ground := Ground.data }, { on := 19, ground := Ground.data }, { on := 19, ground := Ground.chain }, { on := 15, ground := Ground.guard }], guard := some (15, true) }) rfl (fun K hK => ?_) AllReadyH.nil
        go_simp
        refine (nodes_any _ _ q q _ HX2.out HY.out).mono ?_
        rintro e wc3 ⟨rfl, hb⟩
        have hdq : decide (q = q) = true := by simp
        go_wp2_with fail
        refine hK.out _ _ ?_ (fun hHeld => ?_)
        · (try dsimp only)
          exact KP.out _ (th hHeld.2.2.2.out (Nat.le_refl _) hb)
        clear hK K hb
        try simp only [Act.put, List.setIfInBounds_toArray, List.set_cons_zero, List.set_cons_succ]
        refine wpAnyH_take (i := 21) (oi := { dst := some 70, op := Op.pick (Operand.tmp 64) (Operand.tmp 69) (Operand.const (Value.bool false)), type := 4, pos := "law.go:198", after := #[{ on := 15, ground := Ground.data }, { on := 20, ground := Ground.data }], guard := none }) (v := ?rv19) rfl (by kernel_rfl) (by kernel_rfl) (by kernel_rfl) (fun _ _ _ h => h) (Or.inl ⟨by rfl, ?rhy19⟩) (by assumption) ?rrest19
        case rhy19 => (intro w hSw; (try dsimp only at hSw); first | (go_simp; done) | (go_simp; with_reducible rfl))
        case rrest19 =>
        try simp only [Act.put, List.setIfInBounds_toArray, List.set_cons_zero, List.set_cons_succ]
        refine wpAnyH_take (i := 22) (oi := { dst := some 71, op := Op.move (Operand.tmp 70), type := 4, pos := "law.go:198", after := #[{ on := 21, ground := Ground.data }, { on := 20, ground := Ground.chain }], guard := none }) (v := ?rv20) rfl (by kernel_rfl) (by kernel_rfl) (by kernel_rfl) (fun _ _ _ h => h) (Or.inl ⟨by rfl, ?rhy20⟩) (by assumption) ?rrest20
        case rhy20 => (intro w hSw; (try dsimp only at hSw); first | (go_simp; done) | (go_simp; with_reducible rfl))
        case rrest20 =>
        try simp only [Act.put, List.setIfInBounds_toArray, List.set_cons_zero, List.set_cons_succ]
        refine wpAnyH_take (i := 23) (oi := { dst := some 72, op := Op.fieldAddr 24 (Operand.tmp 7) 0, type := 0, pos := "law.go:198", after := #[{ on := 22, ground := Ground.guard }], guard := some (22, true) }) (v := ?rv21) rfl (by kernel_rfl) (by kernel_rfl) (by kernel_rfl) (fun _ _ _ h => h) (Or.inl ⟨by rfl, ?rhy21⟩) (by assumption) ?rrest21
        case rhy21 => (intro w hSw; (try dsimp only at hSw); first | (go_simp; done) | (go_simp; with_reducible rfl))
        case rrest21 =>
        try simp only [Act.put, List.setIfInBounds_toArray, List.set_cons_zero, List.set_cons_succ]
        refine wpAnyH_take (i := 24) (oi := { dst := some 73, op := Op.load 22 (Operand.tmp 72), type := 22, pos := "law.go:198", after := #[{ on := 23, ground := Ground.data }, { on := 22, ground := Ground.guard }], guard := some (22, true) }) (v := ?rv22) rfl (by kernel_rfl) (by kernel_rfl) (by kernel_rfl) (fun _ _ _ h => h) (Or.inl ⟨by rfl, ?rhy22⟩) (by assumption) ?rrest22
        case rhy22 => (intro w hSw; (try dsimp only at hSw); first | (go_simp; done) | (go_simp; with_reducible rfl))
        case rrest22 =>
        try simp only [Act.put, List.setIfInBounds_toArray, List.set_cons_zero, List.set_cons_succ]
        refine wpAnyH_take (i := 25) (oi := { dst := some 74, op := Op.call { callee := Callee.builtin Builtin.len, args := #[Operand.tmp 73], argTypes := #[22] }, type := 3, pos := "law.go:198", after := #[{ on := 24, ground := Ground.data }, { on := 22, ground := Ground.guard }], guard := some (22, true) }) (v := ?rv23) rfl (by kernel_rfl) (by kernel_rfl) (by kernel_rfl) (fun _ _ _ h => h) (Or.inl ⟨by rfl, ?rhy23⟩) (by assumption) ?rrest23
        case rhy23 => (intro w hSw; (try dsimp only at hSw); first | (go_simp; done) | (go_simp; with_reducible rfl))
        case rrest23 =>
        try simp only [Act.put, List.setIfInBounds_toArray, List.set_cons_zero, List.set_cons_succ]
        refine wpAnyH_take (i := 26) (oi := { dst := some 75, op := Op.fieldAddr 24 (Operand.tmp 2) 0, type := 0, pos := "law.go:198", after := #[{ on := 22, ground := Ground.guard }], guard := some (22, true) }) (v := ?rv24) rfl (by kernel_rfl) (by kernel_rfl) (by kernel_rfl) (fun _ _ _ h => h) (Or.inl ⟨by rfl, ?rhy24⟩) (by assumption) ?rrest24
        case rhy24 => (intro w hSw; (try dsimp only at hSw); first | (go_simp; done) | (go_simp; with_reducible rfl))
        case rrest24 =>
        try simp only [Act.put, List.setIfInBounds_toArray, List.set_cons_zero, List.set_cons_succ]
        refine wpAnyH_take (i := 27) (oi := { dst := some 76, op := Op.load 22 (Operand.tmp 75), type := 22, pos := "law.go:198", after := #[{ on := 26, ground := Ground.data }, { on := 22, ground := Ground.guard }], guard := some (22, true) }) (v := ?rv25) rfl (by kernel_rfl) (by kernel_rfl) (by kernel_rfl) (fun _ _ _ h => h) (Or.inl ⟨by rfl, ?rhy25⟩) (by assumption) ?rrest25
        case rhy25 => (intro w hSw; (try dsimp only at hSw); first | (go_simp; done) | (go_simp; with_reducible rfl))
        case rrest25 =>
        try simp only [Act.put, List.setIfInBounds_toArray, List.set_cons_zero, List.set_cons_succ]
        refine wpAnyH_take (i := 28) (oi := { dst := some 77, op := Op.call { callee := Callee.builtin Builtin.len, args := #[Operand.tmp 76], argTypes := #[22] }, type := 3, pos := "law.go:198", after := #[{ on := 27, ground := Ground.data }, { on := 22, ground := Ground.guard }], guard := some (22, true) }) (v := ?rv26) rfl (by kernel_rfl) (by kernel_rfl) (by kernel_rfl) (fun _ _ _ h => h) (Or.inl ⟨by rfl, ?rhy26⟩) (by assumption) ?rrest26
        case rhy26 => (intro w hSw; (try dsimp only at hSw); first | (go_simp; done) | (go_simp; with_reducible rfl))
        case rrest26 =>
        try simp only [Act.put, List.setIfInBounds_toArray, List.set_cons_zero, List.set_cons_succ]
        refine wpAnyH_take (i := 29) (oi := { dst := some 78, op := Op.binOp BinOp.eql 3 (Operand.tmp 74) (Operand.tmp 77) 3, type := 4, pos := "law.go:198", after := #[{ on := 25, ground := Ground.data }, { on := 28, ground := Ground.data }, { on := 22, ground := Ground.guard }], guard := some (22, true) }) (v := ?rv27) rfl (by kernel_rfl) (by kernel_rfl) (by kernel_rfl) (fun _ _ _ h => h) (Or.inl ⟨by rfl, ?rhy27⟩) (by assumption) ?rrest27
        case rhy27 => (intro w hSw; (try dsimp only at hSw); first | (go_simp; done) | (go_simp; with_reducible rfl))
        case rrest27 =>
        try simp only [Act.put, List.setIfInBounds_toArray, List.set_cons_zero, List.set_cons_succ]
        refine wpAnyH_take (i := 30) (oi := { dst := some 79, op := Op.pick (Operand.tmp 71) (Operand.tmp 78) (Operand.const (Value.bool false)), type := 4, pos := "law.go:198", after := #[{ on := 22, ground := Ground.data }, { on := 29, ground := Ground.data }], guard := none }) (v := ?rv28) rfl (by kernel_rfl) (by kernel_rfl) (by kernel_rfl) (fun _ _ _ h => h) (Or.inl ⟨by rfl, ?rhy28⟩) (by assumption) ?rrest28
        case rhy28 => (intro w hSw; (try dsimp only at hSw); first | (go_simp; done) | (go_simp; with_reducible rfl))
        case rrest28 =>
        try simp only [Act.put, List.setIfInBounds_toArray, List.set_cons_zero, List.set_cons_succ]
        refine wpAnyH_take (i := 31) (oi := { dst := some 80, op := Op.move (Operand.tmp 79), type := 4, pos := "law.go:198", after := #[{ on := 30, ground := Ground.data }, { on := 22, ground := Ground.chain }], guard := none }) (v := ?rv29) rfl (by kernel_rfl) (by kernel_rfl) (by kernel_rfl) (fun _ _ _ h => h) (Or.inl ⟨by rfl, ?rhy29⟩) (by assumption) ?rrest29
        case rhy29 => (intro w hSw; (try dsimp only at hSw); first | (go_simp; done) | (go_simp; with_reducible rfl))
        case rrest29 =>
        try simp only [Act.put, List.setIfInBounds_toArray, List.set_cons_zero, List.set_cons_succ]
        refine wpAnyH_take (i := 32) (oi := { dst := some 81, op := Op.load 24 (Operand.tmp 7), type := 24, pos := "law.go:198", after := #[{ on := 31, ground := Ground.guard }], guard := some (31, true) }) (v := ?rv30) rfl (by kernel_rfl) (by kernel_rfl) (by kernel_rfl) (fun _ _ _ h => h) (Or.inl ⟨by rfl, ?rhy30⟩) (by assumption) ?rrest30
        case rhy30 => (intro w hSw; (try dsimp only at hSw); first | (go_simp; done) | (go_simp; with_reducible rfl))
        case rrest30 =>
        try simp only [Act.put, List.setIfInBounds_toArray, List.set_cons_zero, List.set_cons_succ]
        refine wpAnyH_take (i := 33) (oi := { dst := some 82, op := Op.move (Operand.tmp 1), type := 25, pos := "law.go:198", after := #[{ on := 31, ground := Ground.guard }], guard := some (31, true) }) (v := ?rv31) rfl (by kernel_rfl) (by kernel_rfl) (by kernel_rfl) (fun _ _ _ h => h) (Or.inl ⟨by rfl, ?rhy31⟩) (by assumption) ?rrest31
        case rhy31 => (intro w hSw; (try dsimp only at hSw); first | (go_simp; done) | (go_simp; with_reducible rfl))
        case rrest31 =>
        try simp only [Act.put, List.setIfInBounds_toArray, List.set_cons_zero, List.set_cons_succ]
        refine wpAnyH_take (i := 35) (oi := { dst := some 84, op := Op.load 24 (Operand.tmp 2), type := 24, pos := "law.go:198", after := #[{ on := 31, ground := Ground.guard }], guard := some (31, true) }) (v := ?rv32) rfl (by kernel_rfl) (by kernel_rfl) (by kernel_rfl) (fun _ _ _ h => h) (Or.inl ⟨by rfl, ?rhy32⟩) (by assumption) ?rrest32
        case rhy32 => (intro w hSw; (try dsimp only at hSw); first | (go_simp; done) | (go_simp; with_reducible rfl))
        case rrest32 =>
        try simp only [Act.put, List.setIfInBounds_toArray, List.set_cons_zero, List.set_cons_succ]
        refine wpAnyH_take (i := 36) (oi := { dst := some 85, op := Op.move (Operand.tmp 1), type := 25, pos := "law.go:198", after := #[{ on := 31, ground := Ground.guard }], guard := some (31, true) }) (v := ?rv33) rfl (by kernel_rfl) (by kernel_rfl) (by kernel_rfl) (fun _ _ _ h => h) (Or.inl ⟨by rfl, ?rhy33⟩) (by assumption) ?rrest33
        case rhy33 => (intro w hSw; (try dsimp only at hSw); first | (go_simp; done) | (go_simp; with_reducible rfl))
        case rrest33 =>
        try simp only [Act.put, List.setIfInBounds_toArray, List.set_cons_zero, List.set_cons_succ]
        have HMT := Lib.hid (HF.out.mat ws)
        obtain ⟨bm, hbm⟩ : ∃ bm, bm = matchP l ws := ⟨_, rfl⟩
        have HBM := Lib.hid hbm
        rw [← hbm] at HMT
        clear hbm
        refine wpAnyH_ready (rs := [34]) (by kernel_rfl) (by simp) ?_
        refine AllReadyH.cons (o := { dst := some 83, op := Op.call { callee := Callee.value (Operand.func 10), args := #[Operand.tmp 81, Operand.tmp 82], argTypes := #[24, 25] }, type := 4, pos := "law.go:198", after := #[{ on := 32, ground := Ground.data }, { on := 33, ground := Ground.data }, { on := 31, ground := Ground.chain }, { on := 31, ground := Ground.guard }], guard := some (31, true) }) rfl (fun K hK => ?_) AllReadyH.nil
        go_simp
        refine ((by have h9 := matchG_any _ _ q ws _ (HNQ8.out.below hHeld.2.2.2.out) (HU8.out.below hHeld.2.2.2.out) HM5.out; rw [HMT.out] at h9; exact h9 : Calls Try.prog 10 #[.agg #[.slice qa n qc], .slice ua m uc] _ fun e w' => e = .returned (.bool bm) ∧ Below _ _ w')).mono ?_
        rintro e wc4 ⟨rfl, hb⟩
        go_wp2_with fail
        refine hK.out _ _ ?_ (fun hHeld => ?_)
        · (try dsimp only)
          exact KP.out _ (th hHeld.2.2.2.out (Nat.le_refl _) hb)
        clear hK K hb
        try simp only [Act.put, List.setIfInBounds_toArray, List.set_cons_zero, List.set_cons_succ]
        refine wpAnyH_ready (rs := [37]) (by kernel_rfl) (by simp) ?_
        refine AllReadyH.cons (o := { dst := some 86, op := Op.call { callee := Callee.value (Operand.func 10), args := #[Operand.tmp 84, Operand.tmp 85], argTypes := #[24, 25] }, type := 4, pos := "law.go:198", after := #[{ on := 35, ground := Ground.data }, { on := 36, ground := Ground.data }, { on := 34, ground := Ground.chain }, { on := 31, ground := Ground.guard }], guard := some (31, true) }) rfl (fun K hK => ?_) AllReadyH.nil
        go_simp
        refine ((by have h9 := matchG_any _ _ l ws _ (HV8.out.below hHeld.2.2.2.out) (HU8.out.below hHeld.2.2.2.out) HM5.out; rw [← HBM.out] at h9; exact h9 : Calls Try.prog 10 #[.agg #[.slice a n c], .slice ua m uc] _ fun e w' => e = .returned (.bool bm) ∧ Below _ _ w')).mono ?_
        rintro e wc5 ⟨rfl, hb⟩
        go_wp2_with fail
        refine hK.out _ _ ?_ (fun hHeld => ?_)
        · (try dsimp only)
          exact KP.out _ (th hHeld.2.2.2.out (Nat.le_refl _) hb)
        clear hK K hb
        try simp only [Act.put, List.setIfInBounds_toArray, List.set_cons_zero, List.set_cons_succ]
        refine wpAnyH_take (i := 38) (oi := { dst := some 87, op := Op.binOp BinOp.eql 4 (Operand.tmp 83) (Operand.tmp 86) 4, type := 4, pos := "law.go:198", after := #[{ on := 34, ground := Ground.data }, { on := 37, ground := Ground.data }, { on := 31, ground := Ground.guard }], guard := some (31, true) }) (v := ?rv34) rfl (by kernel_rfl) (by kernel_rfl) (by kernel_rfl) (fun _ _ _ h => h) (Or.inl ⟨by rfl, ?rhy34⟩) (by assumption) ?rrest34
        case rhy34 => (intro w hSw; (try dsimp only at hSw); first | (go_simp; done) | (go_simp; with_reducible rfl))
        case rrest34 =>
        try simp only [Act.put, List.setIfInBounds_toArray, List.set_cons_zero, List.set_cons_succ]
        refine wpAnyH_take (i := 39) (oi := { dst := some 88, op := Op.pick (Operand.tmp 80) (Operand.tmp 87) (Operand.const (Value.bool false)), type := 4, pos := "law.go:198", after := #[{ on := 31, ground := Ground.data }, { on := 38, ground := Ground.data }], guard := none }) (v := ?rv35) rfl (by kernel_rfl) (by kernel_rfl) (by kernel_rfl) (fun _ _ _ h => h) (Or.inl ⟨by rfl, ?rhy35⟩) (by assumption) ?rrest35
        case rhy35 => (intro w hSw; (try dsimp only at hSw); first | (go_simp; done) | (go_simp; with_reducible rfl))
        case rrest35 =>
        try simp only [Act.put, List.setIfInBounds_toArray, List.set_cons_zero, List.set_cons_succ]
        refine wpAnyH_take (i := 40) (oi := { dst := some 89, op := Op.move (Operand.tmp 88), type := 4, pos := "law.go:198", after := #[{ on := 39, ground := Ground.data }, { on := 37, ground := Ground.chain }], guard := none }) (v := ?rv36) rfl (by kernel_rfl) (by kernel_rfl) (by kernel_rfl) (fun _ _ _ h => h) (Or.inl ⟨by rfl, ?rhy36⟩) (by assumption) ?rrest36
        case rhy36 => (intro w hSw; (try dsimp only at hSw); first | (go_simp; done) | (go_simp; with_reducible rfl))
        case rrest36 =>
        try simp only [Act.put, List.setIfInBounds_toArray, List.set_cons_zero, List.set_cons_succ]
        refine wpAnyH_take (i := 41) (oi := { dst := some 90, op := Op.load 24 (Operand.tmp 7), type := 24, pos := "law.go:198", after := #[{ on := 40, ground := Ground.guard }], guard := some (40, true) }) (v := ?rv37) rfl (by kernel_rfl) (by kernel_rfl) (by kernel_rfl) (fun _ _ _ h => h) (Or.inl ⟨by rfl, ?rhy37⟩) (by assumption) ?rrest37
        case rhy37 => (intro w hSw; (try dsimp only at hSw); first | (go_simp; done) | (go_simp; with_reducible rfl))
        case rrest37 =>
        try simp only [Act.put, List.setIfInBounds_toArray, List.set_cons_zero, List.set_cons_succ]
        refine wpAnyH_take (i := 43) (oi := { dst := some 92, op := Op.load 24 (Operand.tmp 2), type := 24, pos := "law.go:198", after := #[{ on := 40, ground := Ground.guard }], guard := some (40, true) }) (v := ?rv38) rfl (by kernel_rfl) (by kernel_rfl) (by kernel_rfl) (fun _ _ _ h => h) (Or.inl ⟨by rfl, ?rhy38⟩) (by assumption) ?rrest38
        case rhy38 => (intro w hSw; (try dsimp only at hSw); first | (go_simp; done) | (go_simp; with_reducible rfl))
        case rrest38 =>
        try simp only [Act.put, List.setIfInBounds_toArray, List.set_cons_zero, List.set_cons_succ]
        obtain ⟨bn, hbn⟩ : ∃ bn, bn = nullP l := ⟨_, rfl⟩
        have HBN := Lib.hid hbn
        have HNT : Hid (nullP q = bn) := Lib.hid (by rw [hbn]; exact HF.out.null)
        clear hbn
        refine wpAnyH_ready (rs := [42]) (by kernel_rfl) (by simp) ?_
        refine AllReadyH.cons (o := { dst := some 91, op := Op.call { callee := Callee.value (Operand.func 11), args := #[Operand.tmp 90], argTypes := #[24] }, type := 4, pos := "law.go:198", after := #[{ on := 41, ground := Ground.data }, { on := 40, ground := Ground.chain }, { on := 40, ground := Ground.guard }], guard := some (40, true) }) rfl (fun K hK => ?_) AllReadyH.nil
        go_simp
        refine ((by have h9 := nullable_any _ q _ (HNQ8.out.below hHeld.2.2.2.out); rw [HNT.out] at h9; exact h9 : Calls Try.prog 11 #[.agg #[.slice qa n qc]] _ fun e w' => e = .returned (.bool bn) ∧ Below _ _ w')).mono ?_
        rintro e wc6 ⟨rfl, hb⟩
        go_wp2_with fail
        refine hK.out _ _ ?_ (fun hHeld => ?_)
        · (try dsimp only)
          exact KP.out _ (th hHeld.2.2.2.out (Nat.le_refl _) hb)
        clear hK K hb
        try simp only [Act.put, List.setIfInBounds_toArray, List.set_cons_zero, List.set_cons_succ]
        refine wpAnyH_ready (rs := [44]) (by kernel_rfl) (by simp) ?_
        refine AllReadyH.cons (o := { dst := some 93, op := Op.call { callee := Callee.value (Operand.func 11), args := #[Operand.tmp 92], argTypes := #[24] }, type := 4, pos := "law.go:198", after := #[{ on := 43, ground := Ground.data }, { on := 42, ground := Ground.chain }, { on := 40, ground := Ground.guard }], guard := some (40, true) }) rfl (fun K hK => ?_) AllReadyH.nil
        go_simp
        refine ((by have h9 := nullable_any _ l _ (HV8.out.below hHeld.2.2.2.out); rw [← HBN.out] at h9; exact h9 : Calls Try.prog 11 #[.agg #[.slice a n c]] _ fun e w' => e = .returned (.bool bn) ∧ Below _ _ w')).mono ?_
        rintro e wc7 ⟨rfl, hb⟩
        go_wp2_with fail
        refine hK.out _ _ ?_ (fun hHeld => ?_)
        · (try dsimp only)
          exact KP.out _ (th hHeld.2.2.2.out (Nat.le_refl _) hb)
        clear hK K hb
        try simp only [Act.put, List.setIfInBounds_toArray, List.set_cons_zero, List.set_cons_succ]
        refine wpAnyH_take (i := 45) (oi := { dst := some 94, op := Op.binOp BinOp.eql 4 (Operand.tmp 91) (Operand.tmp 93) 4, type := 4, pos := "law.go:198", after := #[{ on := 42, ground := Ground.data }, { on := 44, ground := Ground.data }, { on := 40, ground := Ground.guard }], guard := some (40, true) }) (v := ?rv39) rfl (by kernel_rfl) (by kernel_rfl) (by kernel_rfl) (fun _ _ _ h => h) (Or.inl ⟨by rfl, ?rhy39⟩) (by assumption) ?rrest39
        case rhy39 => (intro w hSw; (try dsimp only at hSw); first | (go_simp; done) | (go_simp; with_reducible rfl))
        case rrest39 =>
        try simp only [Act.put, List.setIfInBounds_toArray, List.set_cons_zero, List.set_cons_succ]
        refine wpAnyH_take (i := 46) (oi := { dst := some 95, op := Op.pick (Operand.tmp 89) (Operand.tmp 94) (Operand.const (Value.bool false)), type := 4, pos := "law.go:198", after := #[{ on := 40, ground := Ground.data }, { on := 45, ground := Ground.data }], guard := none }) (v := ?rv40) rfl (by kernel_rfl) (by kernel_rfl) (by kernel_rfl) (fun _ _ _ h => h) (Or.inl ⟨by rfl, ?rhy40⟩) (by assumption) ?rrest40
        case rhy40 => (intro w hSw; (try dsimp only at hSw); first | (go_simp; done) | (go_simp; with_reducible rfl))
        case rrest40 =>
        try simp only [Act.put, List.setIfInBounds_toArray, List.set_cons_zero, List.set_cons_succ]
        refine wpAnyH_take (i := 47) (oi := { dst := some 96, op := Op.move (Operand.tmp 95), type := 4, pos := "law.go:198", after := #[{ on := 46, ground := Ground.data }, { on := 44, ground := Ground.chain }], guard := none }) (v := ?rv41) rfl (by kernel_rfl) (by kernel_rfl) (by kernel_rfl) (fun _ _ _ h => h) (Or.inl ⟨by rfl, ?rhy41⟩) (by assumption) ?rrest41
        case rhy41 => (intro w hSw; (try dsimp only at hSw); first | (go_simp; done) | (go_simp; with_reducible rfl))
        case rrest41 =>
        try simp only [Act.put, List.setIfInBounds_toArray, List.set_cons_zero, List.set_cons_succ]
        refine wpAnyH_take (i := 48) (oi := { dst := some 97, op := Op.load 24 (Operand.tmp 7), type := 24, pos := "law.go:198", after := #[{ on := 47, ground := Ground.guard }], guard := some (47, true) }) (v := ?rv42) rfl (by kernel_rfl) (by kernel_rfl) (by kernel_rfl) (fun _ _ _ h => h) (Or.inl ⟨by rfl, ?rhy42⟩) (by assumption) ?rrest42
        case rhy42 => (intro w hSw; (try dsimp only at hSw); first | (go_simp; done) | (go_simp; with_reducible rfl))
        case rrest42 =>
        try simp only [Act.put, List.setIfInBounds_toArray, List.set_cons_zero, List.set_cons_succ]
        refine wpAnyH_take (i := 50) (oi := { dst := some 99, op := Op.load 24 (Operand.tmp 2), type := 24, pos := "law.go:198", after := #[{ on := 47, ground := Ground.guard }], guard := some (47, true) }) (v := ?rv43) rfl (by kernel_rfl) (by kernel_rfl) (by kernel_rfl) (fun _ _ _ h => h) (Or.inl ⟨by rfl, ?rhy43⟩) (by assumption) ?rrest43
        case rhy43 => (intro w hSw; (try dsimp only at hSw); first | (go_simp; done) | (go_simp; with_reducible rfl))
        case rrest43 =>
        try simp only [Act.put, List.setIfInBounds_toArray, List.set_cons_zero, List.set_cons_succ]
        refine wpAnyH_ready (rs := [49]) (by kernel_rfl) (by simp) ?_
        refine AllReadyH.cons (o := { dst := some 98, op := Op.call { callee := Callee.value (Operand.func 12), args := #[Operand.tmp 97], argTypes := #[24] }, type := 25, pos := "law.go:198", after := #[{ on := 48, ground := Ground.data }, { on := 47, ground := Ground.chain }, { on := 47, ground := Ground.guard }], guard := some (47, true) }) rfl (fun K hK => ?_) AllReadyH.nil
        go_simp
        refine (symbols_any _ q _ (HNQ8.out.below hHeld.2.2.2.out)).mono ?_
        rintro e wc8 ⟨vz, rfl, hvz, hb⟩
        rw [HF.out.syms] at hvz
        obtain ⟨za, zc, rfl, _⟩ := hvz.at
        have HZ := Lib.hid hvz
        clear hvz
        go_wp2_with fail
        refine hK.out _ _ ?_ (fun hHeld => ?_)
        · (try dsimp only)
          exact KP.out _ (th hHeld.2.2.2.out (Nat.le_refl _) hb)
        clear hK K hb
        try simp only [Act.put, List.setIfInBounds_toArray, List.set_cons_zero, List.set_cons_succ]
        refine wpAnyH_ready (rs := [51]) (by kernel_rfl) (by simp) ?_
        refine AllReadyH.cons (o := { dst := some 100, op := Op.call { callee := Callee.value (Operand.func 12), args := #[Operand.tmp 99], argTypes := #[24] }, type := 25, pos := "law.go:198", after := #[{ on := 50, ground := Ground.data }, { on := 49, ground := Ground.chain }, { on := 47, ground := Ground.guard }], guard := some (47, true) }) rfl (fun K hK => ?_) AllReadyH.nil
        go_simp
        refine (symbols_any _ l _ (HV8.out.below hHeld.2.2.2.out)).mono ?_
        rintro e wc9 ⟨vt, rfl, hvt, hb⟩
        obtain ⟨ta, tc, rfl, _⟩ := hvt.at
        have HT9 := Lib.hid hvt
        have HZ2 := Lib.hid (HZ.out.below hb)
        clear hvt
        go_wp2_with fail
        refine hK.out _ _ ?_ (fun hHeld => ?_)
        · (try dsimp only)
          exact KP.out _ (th hHeld.2.2.2.out (Nat.le_refl _) hb)
        clear hK K hb
        try simp only [Act.put, List.setIfInBounds_toArray, List.set_cons_zero, List.set_cons_succ]
        refine wpAnyH_ready (rs := [52]) (by kernel_rfl) (by simp) ?_
        refine AllReadyH.cons (o := { dst := some 101, op := Op.call { callee := Callee.value (Operand.func 18), args := #[Operand.tmp 98, Operand.tmp 100], argTypes := #[25, 25] }, type := 4, pos := "law.go:198", after := #[{ on := 49, ground := Ground.data }, { on := 51, ground := Ground.data }, { on := 51, ground := Ground.chain }, { on := 47, ground := Ground.guard }], guard := some (47, true) }) rfl (fun K hK => ?_) AllReadyH.nil
        go_simp
        refine (texts_any _ _ (symP l) (symP l) _ HZ2.out HT9.out).mono ?_
        rintro e wc10 ⟨rfl, hb⟩
        go_wp2_with fail
        refine hK.out _ _ ?_ (fun hHeld => ?_)
        · (try dsimp only)
          exact KP.out _ (th hHeld.2.2.2.out (Nat.le_refl _) hb)
        clear hK K hb
        try simp only [Act.put, List.setIfInBounds_toArray, List.set_cons_zero, List.set_cons_succ]
        refine wpAnyH_take (i := 53) (oi := { dst := some 102, op := Op.pick (Operand.tmp 96) (Operand.tmp 101) (Operand.const (Value.bool false)), type := 4, pos := "law.go:198", after := #[{ on := 47, ground := Ground.data }, { on := 52, ground := Ground.data }], guard := none }) (v := ?rv44) rfl (by kernel_rfl) (by kernel_rfl) (by kernel_rfl) (fun _ _ _ h => h) (Or.inl ⟨by rfl, ?rhy44⟩) (by assumption) ?rrest44
        case rhy44 => (intro w hSw; (try dsimp only at hSw); first | (go_simp; done) | (go_simp; with_reducible rfl))
        case rrest44 =>
        try simp only [Act.put, List.setIfInBounds_toArray, List.set_cons_zero, List.set_cons_succ]
        refine wpAnyH_take (i := 54) (oi := { dst := some 103, op := Op.move (Operand.tmp 102), type := 4, pos := "law.go:198", after := #[{ on := 53, ground := Ground.data }, { on := 52, ground := Ground.chain }], guard := none }) (v := ?rv45) rfl (by kernel_rfl) (by kernel_rfl) (by kernel_rfl) (fun _ _ _ h => h) (Or.inl ⟨by rfl, ?rhy45⟩) (by assumption) ?rrest45
        case rhy45 => (intro w hSw; (try dsimp only at hSw); first | (go_simp; done) | (go_simp; with_reducible rfl))
        case rrest45 =>
        try simp only [Act.put, List.setIfInBounds_toArray, List.set_cons_zero, List.set_cons_succ]
        refine wpAnyH_ready (rs := [55]) (by kernel_rfl) (by simp) ?_
        refine AllReadyH.cons (o := { dst := some 104, op := Op.call { callee := Callee.value (Operand.func 6), args := #[], argTypes := #[] }, type := 4, pos := "law.go:198", after := #[{ on := 54, ground := Ground.chain }, { on := 54, ground := Ground.guard }], guard := some (54, true) }) rfl (fun K hK => ?_) AllReadyH.nil
        go_simp
        refine (awake_any _).mono ?_
        rintro e wc11 ⟨rfl, hb⟩
        go_wp2_with fail
        refine hK.out _ _ ?_ (fun hHeld => ?_)
        · (try dsimp only)
          exact KP.out _ (th hHeld.2.2.2.out (Nat.le_refl _) hb)
        clear hK K hb
        try simp only [Act.put, List.setIfInBounds_toArray, List.set_cons_zero, List.set_cons_succ]
        refine wpAnyH_take (i := 56) (oi := { dst := some 105, op := Op.pick (Operand.tmp 103) (Operand.tmp 104) (Operand.const (Value.bool false)), type := 4, pos := "law.go:198", after := #[{ on := 54, ground := Ground.data }, { on := 55, ground := Ground.data }], guard := none }) (v := ?rv46) rfl (by kernel_rfl) (by kernel_rfl) (by kernel_rfl) (fun _ _ _ h => h) (Or.inl ⟨by rfl, ?rhy46⟩) (by assumption) ?rrest46
        case rhy46 => (intro w hSw; (try dsimp only at hSw); first | (go_simp; done) | (go_simp; with_reducible rfl))
        case rrest46 =>
        try simp only [Act.put, List.setIfInBounds_toArray, List.set_cons_zero, List.set_cons_succ]
        refine wpAnyH_take (i := 57) (oi := { dst := some 4, op := Op.assign (Operand.tmp 105), type := 4, pos := "law.go:198", after := #[{ on := 56, ground := Ground.data }, { on := 55, ground := Ground.chain }, { on := 0, ground := Ground.phase }, { on := 1, ground := Ground.phase }, { on := 2, ground := Ground.phase }, { on := 3, ground := Ground.phase }, { on := 4, ground := Ground.phase }, { on := 5, ground := Ground.phase }, { on := 6, ground := Ground.phase }, { on := 7, ground := Ground.phase }, { on := 8, ground := Ground.phase }, { on := 9, ground := Ground.phase }, { on := 10, ground := Ground.phase }, { on := 11, ground := Ground.phase }, { on := 12, ground := Ground.phase }, { on := 13, ground := Ground.phase }, { on := 14, ground := Ground.phase }, { on := 15, ground := Ground.phase }, { on := 16, ground := Ground.phase }, { on := 17, ground := Ground.phase }, { on := 18, ground := Ground.phase }, { on := 19, ground := Ground.phase }, { on := 20, ground := Ground.phase }, { on := 21, ground := Ground.phase }, { on := 22, ground := Ground.phase }, { on := 23, ground := Ground.phase }, { on := 24, ground := Ground.phase }, { on := 25, ground := Ground.phase }, { on := 26, ground := Ground.phase }, { on := 27, ground := Ground.phase }, { on := 28, ground := Ground.phase }, { on := 29, ground := Ground.phase }, { on := 30, ground := Ground.phase }, { on := 31, ground := Ground.phase }, { on := 32, ground := Ground.phase }, { on := 33, ground := Ground.phase }, { on := 34, ground := Ground.phase }, { on := 35, ground := Ground.phase }, { on := 36, ground := Ground.phase }, { on := 37, ground := Ground.phase }, { on := 38, ground := Ground.phase }, { on := 39, ground := Ground.phase }, { on := 40, ground := Ground.phase }, { on := 41, ground := Ground.phase }, { on := 42, ground := Ground.phase }, { on := 43, ground := Ground.phase }, { on := 44, ground := Ground.phase }, { on := 45, ground := Ground.phase }, { on := 46, ground := Ground.phase }, { on := 47, ground := Ground.phase }, { on := 48, ground := Ground.phase }, { on := 49, ground := Ground.phase }, { on := 50, ground := Ground.phase }, { on := 51, ground := Ground.phase }, { on := 52, ground := Ground.phase }, { on := 53, ground := Ground.phase }, { on := 54, ground := Ground.phase }, { on := 55, ground := Ground.phase }, { on := 56, ground := Ground.phase }], guard := none }) (v := ?rv47) rfl (by kernel_rfl) (by kernel_rfl) (by kernel_rfl) (fun _ _ _ h => h) (Or.inl ⟨by rfl, ?rhy47⟩) (by assumption) ?rrest47
        case rhy47 => (intro w hSw; (try dsimp only at hSw); first | (go_simp; done) | (go_simp; with_reducible rfl))
        case rrest47 =>
        try simp only [Act.put, List.setIfInBounds_toArray, List.set_cons_zero, List.set_cons_succ]
        refine wpAnyH_done (by kernel_rfl) ?_ _
        have HB9 := Lib.hid (th HB8.out (by rw [← hrb]; exact Nat.le_refl _) hHeld.2.2.2.out)
        clear hHeld
        go_wp2_with fail
        go_ret
        exact ⟨rfl, by rw [hrb]; exact HB9.out⟩
      · have HTE : Hid (textP l = []) := Lib.hid (by unfold textP; rw [if_neg hc])
        rw [HTE.out] at htx
        have htx2 : Calls Try.prog 15 #[.agg #[.slice a n c]] w2 fun e w' => e = .returned (.tuple #[.string ⟨#[]⟩, .int .i64 (chkP l)]) ∧ Below w2.heap.size w2 w' := htx
        have HTX := Lib.hid htx2
        have hc2 : (chkP l != 0) = true := by simp [hc]
        have hc3 : (chkP l == 0) = false := by simp [hc]
        generalize chkP l = E at hc hc2 hc3 HTX
        clear htx htx2
        go_wp2_with fail
        refine HTX.out.mono ?_
        rintro e w3 ⟨rfl, hb⟩
        have HB3 := Lib.hid (th HB2.out (Nat.le_refl _) hb)
        have HAW := Lib.hid (awake_any w3)
        clear hb r2
        go_wp2_with fail
        refine HAW.out.mono ?_
        rintro e w4 ⟨rfl, hb⟩
        have HB4 := Lib.hid (th HB3.out (Nat.le_refl _) hb)
        clear hb
        go_wp2_with fail
        go_ret
        exact ⟨rfl, HB4.out⟩
end Go.Proofs.Ytnaimmhdpjggmaa.U
