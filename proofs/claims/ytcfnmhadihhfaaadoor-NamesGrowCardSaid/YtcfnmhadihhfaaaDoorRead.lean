/- The contract of ref.Read. -/
import Derived.Test.YtcfnmhadihhfaaaDoorVal
import Derived.Test.YtcfnmhadihhfaaaDoorBytes
import Derived.Test.YtcfnmhadihhfaaaDoorRefIs
namespace Go.Proofs.YtcfnmhadihhfaaaDoor.U
open Go.RowKit

/-- What ref.Read leaves. -/
def ReadPost (x : Option (Int × Nat)) (w : World) (e : Ending) (w' : World) : Prop :=
  Below w.heap.size w w' ∧ match x with
    | some (r, n) => e = .returned (.tuple #[.int .i64 r, .int .i64 n])
    | none => e = .returned (.tuple #[.int .i64 0, .int .i64 0])

theorem no_more {l : List Int} {k : Nat} (h : ∀ s' r, s' < k → decC l ≠ some (r, s')) (h' : ∀ r, decC l ≠ some (r, k)) : ∀ s' r, s' < k + 1 → decC l ≠ some (r, s') := by
  intro s' r hs
  by_cases he : s' = k
  · subst he; exact h' r
  · exact h s' r (by omega)
theorem take_next {a l : List Int} {j : Nat} (h : (true = true) → a.take j = l.take j) (ha : j < a.length) (hl : j < l.length) : true = true → (a.take (j + 1) = l.take (j + 1) ↔ a[j]?.getD 0 = l[j]?.getD 0) := by
  intro _
  rw [List.take_succ_eq_append_getElem ha, List.take_succ_eq_append_getElem hl, h rfl, List.getElem?_eq_getElem ha, List.getElem?_eq_getElem hl]
  simp only [Option.getD_some]
  exact ⟨fun e => by have := List.append_cancel_left e; simpa using this, fun e => by rw [e]⟩
/-- Whether bytes are the same so far. -/
def Same (a l : List Int) (q : Bool) (j : Nat) : Prop := q = true ↔ a.take j = l.take j
theorem read_none {l : List Int} {k : Nat} (h : ∀ s' r, s' < k → decC l ≠ some (r, s')) (h' : ∀ r n, decC l = some (r, n) → n < k) : decC l = none := by
  cases hd : decC l with
  | none => rfl
  | some x =>
    obtain ⟨r, n⟩ := x
    exact absurd hd (h n r (h' r n hd))

set_option maxRecDepth 100000 in
set_option maxHeartbeats 8000000 in
theorem read_any (b off len cap : Nat) (l : List Int) (w : World) (hll : l.length = len) (h0 : 0 < len) (hb : ∀ z ∈ l, 0 ≤ z ∧ z ≤ 255)
    (hcell : ∀ i, i < len → w.cell? ⟨b, off + i, none⟩ = some (.int .u8 (l[i]?.getD 0))) (hlen : len ≤ 140737488351232) :
    Calls Tryd.prog 35 #[.slice (some ⟨b, off, none⟩) len cap] w fun e w' => ReadPost (decC l) w e w' := by
  have HL := Lib.hid hll
  have HB := Lib.hid hb
  have HC := Lib.hid hcell
  have hbw : b < w.heap.size := by simpa using block_lt_of_cell (hcell 0 h0)
  obtain ⟨c0, hc0⟩ : ∃ c, l[0]?.getD 0 = c := ⟨_, rfl⟩
  obtain ⟨c1, hc1⟩ : ∃ c, l[1]?.getD 0 = c := ⟨_, rfl⟩
  obtain ⟨c2, hc2⟩ : ∃ c, l[2]?.getD 0 = c := ⟨_, rfl⟩
  obtain ⟨c3, hc3⟩ : ∃ c, l[3]?.getD 0 = c := ⟨_, rfl⟩
  have hbd : ∀ i : Nat, 0 ≤ l[i]?.getD 0 ∧ l[i]?.getD 0 ≤ 255 := by
    intro i
    by_cases hi : i < l.length
    · rw [List.getElem?_eq_getElem hi]; exact hb _ (List.getElem_mem hi)
    · rw [List.getElem?_eq_none (by omega)]; simp
  have hb0 := hbd 0
  have hb1 := hbd 1
  have hb2 := hbd 2
  have hb3 := hbd 3
  rw [hc0] at hb0
  rw [hc1] at hb1
  rw [hc2] at hb2
  rw [hc3] at hb3
  have H0 := Lib.hid hc0
  have H1 := Lib.hid hc1
  have H2 := Lib.hid hc2
  have H3 := Lib.hid hc3
  clear hll hb hcell hbd hc0 hc1 hc2 hc3
  go_enter Tryd.func35, Tryd.ntmps35
  go_wp2_with fail
  go_loopw [4] (fun s wr => ∃ k : Nat, 1 ≤ k ∧ k ≤ 5 ∧ s = .int .i64 k ∧ Hid (∀ s' r, s' < k → decC l ≠ some (r, s')) ∧ Below w.heap.size w wr)
    (fun s _ => 5 - (intOf s).toNat)
  case atStart => exact ⟨1, by omega, by omega, rfl, by unfold Hid; intro s' r hs h; have := decC_some h; omega, Below.refl _ _⟩
  case round =>
    obtain ⟨k, hk1, hk5, rfl, hno, hB⟩ := hrel
    have hcw : ∀ i, i < len → wr.cell? ⟨b, off + i, none⟩ = some (.int .u8 (l[i]?.getD 0)) := fun i hi => (hB.cell (p := ⟨b, off + i, none⟩) hbw).trans (HC.out i hi)
    have x0 : wr.cell? ⟨b, off, none⟩ = some (.int .u8 c0) := by have := hcw 0 h0; rw [H0.out] at this; simpa using this
    have x1 : 1 < len → wr.cell? ⟨b, off + 1, none⟩ = some (.int .u8 c1) := fun h => by have := hcw 1 h; rw [H1.out] at this; exact this
    have x2 : 2 < len → wr.cell? ⟨b, off + 2, none⟩ = some (.int .u8 c2) := fun h => by have := hcw 2 h; rw [H2.out] at this; exact this
    have x3 : 3 < len → wr.cell? ⟨b, off + 3, none⟩ = some (.int .u8 c3) := fun h => by have := hcw 3 h; rw [H3.out] at this; exact this
    have HCW := Lib.hid hcw
    clear hcw
    rcases (show k = 1 ∨ k = 2 ∨ k = 3 ∨ k = 4 ∨ k = 5 by omega) with rfl | rfl | rfl | rfl | rfl
    · rw [show ((1 : Nat) : Int) = 1 from rfl]
      by_cases hl1 : 1 ≤ len
      · have d2 : decide ((1 : Int) ≤ len) = true := by simp; omega
        clear x1 x2 x3
        have HV := Lib.hid (show valC 1 (l[0]?.getD 0) (l[1]?.getD 0) (l[2]?.getD 0) (l[3]?.getD 0) = c0 from H0.out)
        obtain ⟨n, hn⟩ : ∃ n, c0 = n := ⟨_, rfl⟩
        have HN := Lib.hid hn
        rw [hn] at HV
        clear hn
        go_wp2_with fail
        refine wp_loop_rounds 1 ?_
        rw [rounds_succ]
        go_wp2_with fail
        refine (refIs_any c0 _).mono ?_
        rintro e w2 ⟨rfl, rfl⟩
        obtain ⟨wo, hwo⟩ : ∃ wo : World, wo = wr := ⟨_, rfl⟩
        subst hwo
        rw [HN.out]
        cases hic : isC n with
        | false =>
          have HNO := Lib.hid (no_more hno.out (read_no HV.out (.inl hic)))
          clear hic
          go_wp2_with fail
          exact ⟨⟨2, by omega, by omega, rfl, HNO.out, hB⟩, by simp [intOf]⟩
        | true =>
          have HIC := Lib.hid hic
          have hml := encC_len n
          obtain ⟨m, hm⟩ : ∃ m, (encC n).length = m := ⟨_, rfl⟩
          have HM := Lib.hid hm
          have hm4 : 1 ≤ m ∧ m ≤ 4 := by rw [← hm, hml]; unfold sizeC; repeat' split
                                         all_goals omega
          clear hic hml hm
          go_wp2_with fail
          refine (refBytes_any n _ HIC.out).mono ?_
          rintro e w3 ⟨g, rfl, hcs, hb3⟩
          rw [HM.out]
          have hBx := th hB (Nat.le_refl _) hb3
          have hgl : g < w3.heap.size := by
            have h3 := hcs 0 (.int .u8 ((encC n)[0]'(by rw [HM.out]; omega))) (by rw [List.getElem?_map, List.getElem?_eq_getElem (by rw [HM.out]; omega)]; rfl)
            have h4 := block_lt_of_cell h3
            unfold Addr.add at h4
            split at h4 <;> simp_all
          have HGL := Lib.hid hgl
          have HCS := Lib.hid hcs
          have HBX := Lib.hid hBx
          have HB3 := Lib.hid hb3
          clear hcs hBx hB hb3 hgl
          by_cases hms : m = 1
          · have HMS := Lib.hid hms
            subst hms
            have hee : (((1 : Nat) : Int) == 1) = true := by simp
            go_wp2_with fail
            go_loopw [8, 9] (fun sm i wr => ∃ (q : Bool) (j : Nat), j ≤ 1 ∧ i = .int .i64 j ∧ sm = .bool q ∧ Same (encC n) l q j ∧ Below w3.heap.size w3 wr)
              (fun _ i _ => 1 - (intOf i).toNat)
            case atStart => exact ⟨true, 0, by omega, rfl, rfl, by unfold Same; simp, Below.refl _ _⟩
            case round =>
              obtain ⟨q, j, hj, rfl, rfl, hq, hBr⟩ := hrel
              cases q with
              | false =>
                have HNO := Lib.hid (no_more hno.out (read_no HV.out (.inr (fun h => by
                  have h1 := hq.2 (by rw [h, List.take_take, Nat.min_eq_left hj])
                  cases h1))))
                have HBZ := Lib.hid (th HBX.out (Nat.le_refl _) hBr)
                clear hBr
                go_wp2_with fail
                all_goals exact ⟨⟨2, by omega, by omega, rfl, HNO.out, HBZ.out⟩, by simp [intOf]⟩
              | true =>
                by_cases hjk : j < 1
                · obtain ⟨y, hy⟩ : ∃ y, (encC n)[j]?.getD 0 = y := ⟨_, rfl⟩
                  obtain ⟨z, hz⟩ : ∃ z, l[j]?.getD 0 = z := ⟨_, rfl⟩
                  have hjm : j < (encC n).length := by rw [HM.out]; exact hjk
                  have hjl : j < l.length := by rw [HL.out]; omega
                  have cx : wr.cell? ⟨g, j, none⟩ = some (.int .u8 y) := by
                    have h1 := HCS.out j (.int .u8 y) (by rw [List.getElem?_map, List.getElem?_eq_getElem hjm, ← hy, List.getElem?_eq_getElem hjm]; rfl)
                    have e : (⟨g, 0, none⟩ : Addr).add j = ⟨g, j, none⟩ := by unfold Addr.add; split <;> simp_all
                    rw [e] at h1
                    exact (hBr.cell (p := ⟨g, j, none⟩) HGL.out).trans h1
                  have cb : wr.cell? ⟨b, off + j, none⟩ = some (.int .u8 z) := by
                    have h1 := HC.out j (by omega)
                    rw [hz] at h1
                    exact ((HBX.out.trans (hBr.mono HBX.out.size)).cell (p := ⟨b, off + j, none⟩) hbw).trans h1
                  have hnext := take_next hq.1 hjm hjl
                  rw [hy, hz] at hnext
                  have HNX := Lib.hid hnext
                  have i0 : (0 : Int) ≤ j := by omega
                  have i1 : (j : Int) < 1 := by omega
                  have i2 : (j : Int) < len := by omega
                  have HBR := Lib.hid hBr
                  clear hy hz hjm hjl hnext hBr
                  by_cases hyz : y = z
                  · subst hyz
                    have hyy : (y == y) = true := by simp
                    have HQ : Same (encC n) l true (j + 1) := ⟨fun _ => (HNX.out rfl).2 rfl, fun _ => rfl⟩
                    go_wp2_with fail
                    go_quiet (fail)
                    go_wp2
                    exact ⟨⟨true, j + 1, by omega, by go_num, rfl, HQ, below_drewN HBR.out _⟩, by simp [intOf]; omega⟩
                  · have hyy : (y == z) = false := by rw [beq_eq_false_iff_ne]; exact hyz
                    have HQ : Same (encC n) l false (j + 1) := ⟨fun h => (by cases h), fun h => absurd ((HNX.out rfl).1 h) hyz⟩
                    clear hyz
                    go_wp2_with fail
                    go_quiet (fail)
                    go_wp2
                    exact ⟨⟨false, j + 1, by omega, by go_num, rfl, HQ, below_drewN HBR.out _⟩, by simp [intOf]; omega⟩
                · obtain rfl : j = 1 := by omega
                  have HD := Lib.hid (read_yes (l := l) (n := n) (s := 1) (by rw [HL.out]; omega) HIC.out (by
                    have h1 := hq.1 rfl
                    rw [List.take_of_length_le (by rw [HM.out]; omega)] at h1
                    exact h1))
                  have HBZ := Lib.hid (th HBX.out (Nat.le_refl _) hBr)
                  clear hBr
                  go_wp2_with fail
                  go_ret2
                  exact ⟨HBZ.out, by rw [HD.out]; rfl⟩
          · have hee : ((m : Int) == 1) = false := by rw [beq_eq_false_iff_ne]; omega
            have HNO := Lib.hid (no_more hno.out (read_no HV.out (.inr (fun h => by have h1 := congrArg List.length h; rw [HM.out, List.length_take, HL.out] at h1; omega))))
            clear hms
            go_wp2_with fail
            refine wp_loop_rounds 1 ?_
            rw [rounds_succ]
            go_wp2_with fail
            exact ⟨⟨2, by omega, by omega, rfl, HNO.out, HBX.out⟩, by simp [intOf]⟩
      · have HD := Lib.hid (read_none hno.out (fun r n h => by have := decC_some h; have := HL.out; omega))
        have d2 : decide ((1 : Int) ≤ len) = false := by simp; omega
        clear x1 x2 x3
        go_wp2_with fail
        go_ret2
        exact ⟨hB, by rw [HD.out]; rfl⟩
    · rw [show ((2 : Nat) : Int) = 2 from rfl]
      by_cases hl2 : 2 ≤ len
      · have d2 : decide ((2 : Int) ≤ len) = true := by simp; omega
        have x1' := x1 (by omega)
        clear x1 x2 x3
        obtain ⟨n, hn⟩ : ∃ n, 64 * (c0 - 192) + c1 - 128 = n := ⟨_, rfl⟩
        have HV := Lib.hid (show valC 2 (l[0]?.getD 0) (l[1]?.getD 0) (l[2]?.getD 0) (l[3]?.getD 0) = n by rw [H0.out, H1.out, H2.out, H3.out]; exact hn)
        have HN := Lib.hid hn
        clear hn
        go_wp2_with fail
        refine wp_loop_rounds 2 ?_
        rw [rounds_succ]
        go_wp2_with fail
        rw [rounds_succ]
        go_wp2_with fail
        rw [HN.out]
        refine (refIs_any n _).mono ?_
        rintro e w2 ⟨rfl, rfl⟩
        obtain ⟨wo, hwo⟩ : ∃ wo : World, wo = wr := ⟨_, rfl⟩
        subst hwo
        cases hic : isC n with
        | false =>
          have HNO := Lib.hid (no_more hno.out (read_no HV.out (.inl hic)))
          clear hic
          go_wp2_with fail
          exact ⟨⟨3, by omega, by omega, rfl, HNO.out, hB⟩, by simp [intOf]⟩
        | true =>
          have HIC := Lib.hid hic
          have hml := encC_len n
          obtain ⟨m, hm⟩ : ∃ m, (encC n).length = m := ⟨_, rfl⟩
          have HM := Lib.hid hm
          have hm4 : 1 ≤ m ∧ m ≤ 4 := by rw [← hm, hml]; unfold sizeC; repeat' split
                                         all_goals omega
          clear hic hml hm
          go_wp2_with fail
          refine (refBytes_any n _ HIC.out).mono ?_
          rintro e w3 ⟨g, rfl, hcs, hb3⟩
          rw [HM.out]
          have hBx := th hB (Nat.le_refl _) hb3
          have hgl : g < w3.heap.size := by
            have h3 := hcs 0 (.int .u8 ((encC n)[0]'(by rw [HM.out]; omega))) (by rw [List.getElem?_map, List.getElem?_eq_getElem (by rw [HM.out]; omega)]; rfl)
            have h4 := block_lt_of_cell h3
            unfold Addr.add at h4
            split at h4 <;> simp_all
          have HGL := Lib.hid hgl
          have HCS := Lib.hid hcs
          have HBX := Lib.hid hBx
          have HB3 := Lib.hid hb3
          clear hcs hBx hB hb3 hgl
          by_cases hms : m = 2
          · have HMS := Lib.hid hms
            subst hms
            have hee : (((2 : Nat) : Int) == 2) = true := by simp
            go_wp2_with fail
            go_loopw [8, 9] (fun sm i wr => ∃ (q : Bool) (j : Nat), j ≤ 2 ∧ i = .int .i64 j ∧ sm = .bool q ∧ Same (encC n) l q j ∧ Below w3.heap.size w3 wr)
              (fun _ i _ => 2 - (intOf i).toNat)
            case atStart => exact ⟨true, 0, by omega, rfl, rfl, by unfold Same; simp, Below.refl _ _⟩
            case round =>
              obtain ⟨q, j, hj, rfl, rfl, hq, hBr⟩ := hrel
              cases q with
              | false =>
                have HNO := Lib.hid (no_more hno.out (read_no HV.out (.inr (fun h => by
                  have h1 := hq.2 (by rw [h, List.take_take, Nat.min_eq_left hj])
                  cases h1))))
                have HBZ := Lib.hid (th HBX.out (Nat.le_refl _) hBr)
                clear hBr
                go_wp2_with fail
                all_goals exact ⟨⟨3, by omega, by omega, rfl, HNO.out, HBZ.out⟩, by simp [intOf]⟩
              | true =>
                by_cases hjk : j < 2
                · obtain ⟨y, hy⟩ : ∃ y, (encC n)[j]?.getD 0 = y := ⟨_, rfl⟩
                  obtain ⟨z, hz⟩ : ∃ z, l[j]?.getD 0 = z := ⟨_, rfl⟩
                  have hjm : j < (encC n).length := by rw [HM.out]; exact hjk
                  have hjl : j < l.length := by rw [HL.out]; omega
                  have cx : wr.cell? ⟨g, j, none⟩ = some (.int .u8 y) := by
                    have h1 := HCS.out j (.int .u8 y) (by rw [List.getElem?_map, List.getElem?_eq_getElem hjm, ← hy, List.getElem?_eq_getElem hjm]; rfl)
                    have e : (⟨g, 0, none⟩ : Addr).add j = ⟨g, j, none⟩ := by unfold Addr.add; split <;> simp_all
                    rw [e] at h1
                    exact (hBr.cell (p := ⟨g, j, none⟩) HGL.out).trans h1
                  have cb : wr.cell? ⟨b, off + j, none⟩ = some (.int .u8 z) := by
                    have h1 := HC.out j (by omega)
                    rw [hz] at h1
                    exact ((HBX.out.trans (hBr.mono HBX.out.size)).cell (p := ⟨b, off + j, none⟩) hbw).trans h1
                  have hnext := take_next hq.1 hjm hjl
                  rw [hy, hz] at hnext
                  have HNX := Lib.hid hnext
                  have i0 : (0 : Int) ≤ j := by omega
                  have i1 : (j : Int) < 2 := by omega
                  have i2 : (j : Int) < len := by omega
                  have HBR := Lib.hid hBr
                  clear hy hz hjm hjl hnext hBr
                  by_cases hyz : y = z
                  · subst hyz
                    have hyy : (y == y) = true := by simp
                    have HQ : Same (encC n) l true (j + 1) := ⟨fun _ => (HNX.out rfl).2 rfl, fun _ => rfl⟩
                    go_wp2_with fail
                    go_quiet (fail)
                    go_wp2
                    exact ⟨⟨true, j + 1, by omega, by go_num, rfl, HQ, below_drewN HBR.out _⟩, by simp [intOf]; omega⟩
                  · have hyy : (y == z) = false := by rw [beq_eq_false_iff_ne]; exact hyz
                    have HQ : Same (encC n) l false (j + 1) := ⟨fun h => (by cases h), fun h => absurd ((HNX.out rfl).1 h) hyz⟩
                    clear hyz
                    go_wp2_with fail
                    go_quiet (fail)
                    go_wp2
                    exact ⟨⟨false, j + 1, by omega, by go_num, rfl, HQ, below_drewN HBR.out _⟩, by simp [intOf]; omega⟩
                · obtain rfl : j = 2 := by omega
                  have HD := Lib.hid (read_yes (l := l) (n := n) (s := 2) (by rw [HL.out]; omega) HIC.out (by
                    have h1 := hq.1 rfl
                    rw [List.take_of_length_le (by rw [HM.out]; omega)] at h1
                    exact h1))
                  have HBZ := Lib.hid (th HBX.out (Nat.le_refl _) hBr)
                  clear hBr
                  go_wp2_with fail
                  go_ret2
                  exact ⟨HBZ.out, by rw [HD.out]; rfl⟩
          · have hee : ((m : Int) == 2) = false := by rw [beq_eq_false_iff_ne]; omega
            have HNO := Lib.hid (no_more hno.out (read_no HV.out (.inr (fun h => by have h1 := congrArg List.length h; rw [HM.out, List.length_take, HL.out] at h1; omega))))
            clear hms
            go_wp2_with fail
            refine wp_loop_rounds 1 ?_
            rw [rounds_succ]
            go_wp2_with fail
            exact ⟨⟨3, by omega, by omega, rfl, HNO.out, HBX.out⟩, by simp [intOf]⟩
      · have HD := Lib.hid (read_none hno.out (fun r n h => by have := decC_some h; have := HL.out; omega))
        have d2 : decide ((2 : Int) ≤ len) = false := by simp; omega
        clear x1 x2 x3
        go_wp2_with fail
        go_ret2
        exact ⟨hB, by rw [HD.out]; rfl⟩
    · rw [show ((3 : Nat) : Int) = 3 from rfl]
      by_cases hl3 : 3 ≤ len
      · have d2 : decide ((3 : Int) ≤ len) = true := by simp; omega
        have x1' := x1 (by omega)
        have x2' := x2 (by omega)
        clear x1 x2 x3
        obtain ⟨n, hn⟩ : ∃ n, 64 * (64 * (c0 - 224) + c1 - 128) + c2 - 128 = n := ⟨_, rfl⟩
        have HV := Lib.hid (show valC 3 (l[0]?.getD 0) (l[1]?.getD 0) (l[2]?.getD 0) (l[3]?.getD 0) = n by rw [H0.out, H1.out, H2.out, H3.out]; exact hn)
        have HN := Lib.hid hn
        clear hn
        go_wp2_with fail
        refine wp_loop_rounds 3 ?_
        rw [rounds_succ]
        go_wp2_with fail
        rw [rounds_succ]
        go_wp2_with fail
        rw [rounds_succ]
        go_wp2_with fail
        rw [HN.out]
        refine (refIs_any n _).mono ?_
        rintro e w2 ⟨rfl, rfl⟩
        obtain ⟨wo, hwo⟩ : ∃ wo : World, wo = wr := ⟨_, rfl⟩
        subst hwo
        cases hic : isC n with
        | false =>
          have HNO := Lib.hid (no_more hno.out (read_no HV.out (.inl hic)))
          clear hic
          go_wp2_with fail
          exact ⟨⟨4, by omega, by omega, rfl, HNO.out, hB⟩, by simp [intOf]⟩
        | true =>
          have HIC := Lib.hid hic
          have hml := encC_len n
          obtain ⟨m, hm⟩ : ∃ m, (encC n).length = m := ⟨_, rfl⟩
          have HM := Lib.hid hm
          have hm4 : 1 ≤ m ∧ m ≤ 4 := by rw [← hm, hml]; unfold sizeC; repeat' split
                                         all_goals omega
          clear hic hml hm
          go_wp2_with fail
          refine (refBytes_any n _ HIC.out).mono ?_
          rintro e w3 ⟨g, rfl, hcs, hb3⟩
          rw [HM.out]
          have hBx := th hB (Nat.le_refl _) hb3
          have hgl : g < w3.heap.size := by
            have h3 := hcs 0 (.int .u8 ((encC n)[0]'(by rw [HM.out]; omega))) (by rw [List.getElem?_map, List.getElem?_eq_getElem (by rw [HM.out]; omega)]; rfl)
            have h4 := block_lt_of_cell h3
            unfold Addr.add at h4
            split at h4 <;> simp_all
          have HGL := Lib.hid hgl
          have HCS := Lib.hid hcs
          have HBX := Lib.hid hBx
          have HB3 := Lib.hid hb3
          clear hcs hBx hB hb3 hgl
          by_cases hms : m = 3
          · have HMS := Lib.hid hms
            subst hms
            have hee : (((3 : Nat) : Int) == 3) = true := by simp
            go_wp2_with fail
            go_loopw [8, 9] (fun sm i wr => ∃ (q : Bool) (j : Nat), j ≤ 3 ∧ i = .int .i64 j ∧ sm = .bool q ∧ Same (encC n) l q j ∧ Below w3.heap.size w3 wr)
              (fun _ i _ => 3 - (intOf i).toNat)
            case atStart => exact ⟨true, 0, by omega, rfl, rfl, by unfold Same; simp, Below.refl _ _⟩
            case round =>
              obtain ⟨q, j, hj, rfl, rfl, hq, hBr⟩ := hrel
              cases q with
              | false =>
                have HNO := Lib.hid (no_more hno.out (read_no HV.out (.inr (fun h => by
                  have h1 := hq.2 (by rw [h, List.take_take, Nat.min_eq_left hj])
                  cases h1))))
                have HBZ := Lib.hid (th HBX.out (Nat.le_refl _) hBr)
                clear hBr
                go_wp2_with fail
                all_goals exact ⟨⟨4, by omega, by omega, rfl, HNO.out, HBZ.out⟩, by simp [intOf]⟩
              | true =>
                by_cases hjk : j < 3
                · obtain ⟨y, hy⟩ : ∃ y, (encC n)[j]?.getD 0 = y := ⟨_, rfl⟩
                  obtain ⟨z, hz⟩ : ∃ z, l[j]?.getD 0 = z := ⟨_, rfl⟩
                  have hjm : j < (encC n).length := by rw [HM.out]; exact hjk
                  have hjl : j < l.length := by rw [HL.out]; omega
                  have cx : wr.cell? ⟨g, j, none⟩ = some (.int .u8 y) := by
                    have h1 := HCS.out j (.int .u8 y) (by rw [List.getElem?_map, List.getElem?_eq_getElem hjm, ← hy, List.getElem?_eq_getElem hjm]; rfl)
                    have e : (⟨g, 0, none⟩ : Addr).add j = ⟨g, j, none⟩ := by unfold Addr.add; split <;> simp_all
                    rw [e] at h1
                    exact (hBr.cell (p := ⟨g, j, none⟩) HGL.out).trans h1
                  have cb : wr.cell? ⟨b, off + j, none⟩ = some (.int .u8 z) := by
                    have h1 := HC.out j (by omega)
                    rw [hz] at h1
                    exact ((HBX.out.trans (hBr.mono HBX.out.size)).cell (p := ⟨b, off + j, none⟩) hbw).trans h1
                  have hnext := take_next hq.1 hjm hjl
                  rw [hy, hz] at hnext
                  have HNX := Lib.hid hnext
                  have i0 : (0 : Int) ≤ j := by omega
                  have i1 : (j : Int) < 3 := by omega
                  have i2 : (j : Int) < len := by omega
                  have HBR := Lib.hid hBr
                  clear hy hz hjm hjl hnext hBr
                  by_cases hyz : y = z
                  · subst hyz
                    have hyy : (y == y) = true := by simp
                    have HQ : Same (encC n) l true (j + 1) := ⟨fun _ => (HNX.out rfl).2 rfl, fun _ => rfl⟩
                    go_wp2_with fail
                    go_quiet (fail)
                    go_wp2
                    exact ⟨⟨true, j + 1, by omega, by go_num, rfl, HQ, below_drewN HBR.out _⟩, by simp [intOf]; omega⟩
                  · have hyy : (y == z) = false := by rw [beq_eq_false_iff_ne]; exact hyz
                    have HQ : Same (encC n) l false (j + 1) := ⟨fun h => (by cases h), fun h => absurd ((HNX.out rfl).1 h) hyz⟩
                    clear hyz
                    go_wp2_with fail
                    go_quiet (fail)
                    go_wp2
                    exact ⟨⟨false, j + 1, by omega, by go_num, rfl, HQ, below_drewN HBR.out _⟩, by simp [intOf]; omega⟩
                · obtain rfl : j = 3 := by omega
                  have HD := Lib.hid (read_yes (l := l) (n := n) (s := 3) (by rw [HL.out]; omega) HIC.out (by
                    have h1 := hq.1 rfl
                    rw [List.take_of_length_le (by rw [HM.out]; omega)] at h1
                    exact h1))
                  have HBZ := Lib.hid (th HBX.out (Nat.le_refl _) hBr)
                  clear hBr
                  go_wp2_with fail
                  go_ret2
                  exact ⟨HBZ.out, by rw [HD.out]; rfl⟩
          · have hee : ((m : Int) == 3) = false := by rw [beq_eq_false_iff_ne]; omega
            have HNO := Lib.hid (no_more hno.out (read_no HV.out (.inr (fun h => by have h1 := congrArg List.length h; rw [HM.out, List.length_take, HL.out] at h1; omega))))
            clear hms
            go_wp2_with fail
            refine wp_loop_rounds 1 ?_
            rw [rounds_succ]
            go_wp2_with fail
            exact ⟨⟨4, by omega, by omega, rfl, HNO.out, HBX.out⟩, by simp [intOf]⟩
      · have HD := Lib.hid (read_none hno.out (fun r n h => by have := decC_some h; have := HL.out; omega))
        have d2 : decide ((3 : Int) ≤ len) = false := by simp; omega
        clear x1 x2 x3
        go_wp2_with fail
        go_ret2
        exact ⟨hB, by rw [HD.out]; rfl⟩
    · rw [show ((4 : Nat) : Int) = 4 from rfl]
      by_cases hl4 : 4 ≤ len
      · have d2 : decide ((4 : Int) ≤ len) = true := by simp; omega
        have x1' := x1 (by omega)
        have x2' := x2 (by omega)
        have x3' := x3 (by omega)
        clear x1 x2 x3
        obtain ⟨n, hn⟩ : ∃ n, 64 * (64 * (64 * (c0 - 240) + c1 - 128) + c2 - 128) + c3 - 128 = n := ⟨_, rfl⟩
        have HV := Lib.hid (show valC 4 (l[0]?.getD 0) (l[1]?.getD 0) (l[2]?.getD 0) (l[3]?.getD 0) = n by rw [H0.out, H1.out, H2.out, H3.out]; exact hn)
        have HN := Lib.hid hn
        clear hn
        go_wp2_with fail
        refine wp_loop_rounds 4 ?_
        rw [rounds_succ]
        go_wp2_with fail
        rw [rounds_succ]
        go_wp2_with fail
        rw [rounds_succ]
        go_wp2_with fail
        rw [rounds_succ]
        go_wp2_with fail
        rw [HN.out]
        refine (refIs_any n _).mono ?_
        rintro e w2 ⟨rfl, rfl⟩
        obtain ⟨wo, hwo⟩ : ∃ wo : World, wo = wr := ⟨_, rfl⟩
        subst hwo
        cases hic : isC n with
        | false =>
          have HNO := Lib.hid (no_more hno.out (read_no HV.out (.inl hic)))
          clear hic
          go_wp2_with fail
          exact ⟨⟨5, by omega, by omega, rfl, HNO.out, hB⟩, by simp [intOf]⟩
        | true =>
          have HIC := Lib.hid hic
          have hml := encC_len n
          obtain ⟨m, hm⟩ : ∃ m, (encC n).length = m := ⟨_, rfl⟩
          have HM := Lib.hid hm
          have hm4 : 1 ≤ m ∧ m ≤ 4 := by rw [← hm, hml]; unfold sizeC; repeat' split
                                         all_goals omega
          clear hic hml hm
          go_wp2_with fail
          refine (refBytes_any n _ HIC.out).mono ?_
          rintro e w3 ⟨g, rfl, hcs, hb3⟩
          rw [HM.out]
          have hBx := th hB (Nat.le_refl _) hb3
          have hgl : g < w3.heap.size := by
            have h3 := hcs 0 (.int .u8 ((encC n)[0]'(by rw [HM.out]; omega))) (by rw [List.getElem?_map, List.getElem?_eq_getElem (by rw [HM.out]; omega)]; rfl)
            have h4 := block_lt_of_cell h3
            unfold Addr.add at h4
            split at h4 <;> simp_all
          have HGL := Lib.hid hgl
          have HCS := Lib.hid hcs
          have HBX := Lib.hid hBx
          have HB3 := Lib.hid hb3
          clear hcs hBx hB hb3 hgl
          by_cases hms : m = 4
          · have HMS := Lib.hid hms
            subst hms
            have hee : (((4 : Nat) : Int) == 4) = true := by simp
            go_wp2_with fail
            go_loopw [8, 9] (fun sm i wr => ∃ (q : Bool) (j : Nat), j ≤ 4 ∧ i = .int .i64 j ∧ sm = .bool q ∧ Same (encC n) l q j ∧ Below w3.heap.size w3 wr)
              (fun _ i _ => 4 - (intOf i).toNat)
            case atStart => exact ⟨true, 0, by omega, rfl, rfl, by unfold Same; simp, Below.refl _ _⟩
            case round =>
              obtain ⟨q, j, hj, rfl, rfl, hq, hBr⟩ := hrel
              cases q with
              | false =>
                have HNO := Lib.hid (no_more hno.out (read_no HV.out (.inr (fun h => by
                  have h1 := hq.2 (by rw [h, List.take_take, Nat.min_eq_left hj])
                  cases h1))))
                have HBZ := Lib.hid (th HBX.out (Nat.le_refl _) hBr)
                clear hBr
                go_wp2_with fail
                all_goals exact ⟨⟨5, by omega, by omega, rfl, HNO.out, HBZ.out⟩, by simp [intOf]⟩
              | true =>
                by_cases hjk : j < 4
                · obtain ⟨y, hy⟩ : ∃ y, (encC n)[j]?.getD 0 = y := ⟨_, rfl⟩
                  obtain ⟨z, hz⟩ : ∃ z, l[j]?.getD 0 = z := ⟨_, rfl⟩
                  have hjm : j < (encC n).length := by rw [HM.out]; exact hjk
                  have hjl : j < l.length := by rw [HL.out]; omega
                  have cx : wr.cell? ⟨g, j, none⟩ = some (.int .u8 y) := by
                    have h1 := HCS.out j (.int .u8 y) (by rw [List.getElem?_map, List.getElem?_eq_getElem hjm, ← hy, List.getElem?_eq_getElem hjm]; rfl)
                    have e : (⟨g, 0, none⟩ : Addr).add j = ⟨g, j, none⟩ := by unfold Addr.add; split <;> simp_all
                    rw [e] at h1
                    exact (hBr.cell (p := ⟨g, j, none⟩) HGL.out).trans h1
                  have cb : wr.cell? ⟨b, off + j, none⟩ = some (.int .u8 z) := by
                    have h1 := HC.out j (by omega)
                    rw [hz] at h1
                    exact ((HBX.out.trans (hBr.mono HBX.out.size)).cell (p := ⟨b, off + j, none⟩) hbw).trans h1
                  have hnext := take_next hq.1 hjm hjl
                  rw [hy, hz] at hnext
                  have HNX := Lib.hid hnext
                  have i0 : (0 : Int) ≤ j := by omega
                  have i1 : (j : Int) < 4 := by omega
                  have i2 : (j : Int) < len := by omega
                  have HBR := Lib.hid hBr
                  clear hy hz hjm hjl hnext hBr
                  by_cases hyz : y = z
                  · subst hyz
                    have hyy : (y == y) = true := by simp
                    have HQ : Same (encC n) l true (j + 1) := ⟨fun _ => (HNX.out rfl).2 rfl, fun _ => rfl⟩
                    go_wp2_with fail
                    go_quiet (fail)
                    go_wp2
                    exact ⟨⟨true, j + 1, by omega, by go_num, rfl, HQ, below_drewN HBR.out _⟩, by simp [intOf]; omega⟩
                  · have hyy : (y == z) = false := by rw [beq_eq_false_iff_ne]; exact hyz
                    have HQ : Same (encC n) l false (j + 1) := ⟨fun h => (by cases h), fun h => absurd ((HNX.out rfl).1 h) hyz⟩
                    clear hyz
                    go_wp2_with fail
                    go_quiet (fail)
                    go_wp2
                    exact ⟨⟨false, j + 1, by omega, by go_num, rfl, HQ, below_drewN HBR.out _⟩, by simp [intOf]; omega⟩
                · obtain rfl : j = 4 := by omega
                  have HD := Lib.hid (read_yes (l := l) (n := n) (s := 4) (by rw [HL.out]; omega) HIC.out (by
                    have h1 := hq.1 rfl
                    rw [List.take_of_length_le (by rw [HM.out]; omega)] at h1
                    exact h1))
                  have HBZ := Lib.hid (th HBX.out (Nat.le_refl _) hBr)
                  clear hBr
                  go_wp2_with fail
                  go_ret2
                  exact ⟨HBZ.out, by rw [HD.out]; rfl⟩
          · have hee : ((m : Int) == 4) = false := by rw [beq_eq_false_iff_ne]; omega
            have HNO := Lib.hid (no_more hno.out (read_no HV.out (.inr (fun h => by have h1 := congrArg List.length h; rw [HM.out, List.length_take, HL.out] at h1; omega))))
            clear hms
            go_wp2_with fail
            refine wp_loop_rounds 1 ?_
            rw [rounds_succ]
            go_wp2_with fail
            exact ⟨⟨5, by omega, by omega, rfl, HNO.out, HBX.out⟩, by simp [intOf]⟩
      · have HD := Lib.hid (read_none hno.out (fun r n h => by have := decC_some h; have := HL.out; omega))
        have d2 : decide ((4 : Int) ≤ len) = false := by simp; omega
        clear x1 x2 x3
        go_wp2_with fail
        go_ret2
        exact ⟨hB, by rw [HD.out]; rfl⟩
    · have HD := Lib.hid (read_none hno.out (fun r n h => by have := decC_some h; omega))
      rw [show ((5 : Nat) : Int) = 5 from rfl]
      clear x1 x2 x3
      go_wp2_with fail
      go_ret2
      exact ⟨hB, by rw [HD.out]; rfl⟩
end Go.Proofs.YtcfnmhadihhfaaaDoor.U
