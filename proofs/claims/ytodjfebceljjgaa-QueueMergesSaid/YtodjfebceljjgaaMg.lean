/- QueueMerges: its walk. -/
import Derived.Test.YtodjfebceljjgaaMg0
namespace Go.Proofs.Ytodjfebceljjgaa.U
open Go.RowKit

theorem own_cell_new (w : World) (a : Value) (T : TypeId) : ∀ j u, [a][j]? = some u → (w.alloc (.cells #[a] T)).cell? ((⟨w.heap.size, 0, none⟩ : Addr).add j) = some u := fun j u hu => by
  rw [add_zero_at]
  match j, hu with
  | 0, hu => simp at hu; subst hu; simp [go_sem]
theorem MakI.more' {w wr w2 : World} {MS : List (List T2)} {k mn : Nat} {v v2 ma : Value} {xs : List Value} {l : List T2} (h : MakI w wr MS k v xs) (hl : MS[k]? = some l) (h40 : l.length ≤ 40) (hmn : mn = l.length) (hu : wr.ownsRow w.heap.size 28 2 ma mn (cells2 l)) (hown : w2.ownsRow w.heap.size 31 1 v2 (k + 1) (xs ++ [ma])) {T : TypeId} {cs : Array Value} (hg : (wr.alloc (.cells cs T)).grownBy w2 v.ownBlock) : MakI w w2 MS (k + 1) v2 (xs ++ [ma]) := by
  subst hmn
  have hb := al (Below.refl wr.heap.size wr) (Nat.le_refl _) (.cells cs T)
  exact MakI.more (h.below hb) hl h40 (hu.alloc _) hown hg
theorem all_take {MS : List (List T2)} {k : Nat} {l : List T2} (h : MS[k]? = some l) : (MS.take (k + 1)).all risesB = ((MS.take k).all risesB && risesB l) := by
  rw [List.take_add_one, h]
  simp
set_option maxHeartbeats 1000000 in
set_option maxRecDepth 10000 in
theorem merges_far (v : Value) (ls : List (List Int)) (w : World) (h : ILT w v ls) (hl : 10 < ls.length) : Calls Try.prog 5 #[v] w fun e w' => e = .returned (.bool true) ∧ Below w.heap.size w w' := by
  obtain ⟨a, cp, rfl, h1, h2, _⟩ := h
  obtain ⟨n, hn⟩ : ∃ n, n = ls.length := ⟨_, rfl⟩
  have hw0 : wrap64 (n : Int) = n := by unfold maxLen at h2; unfold wrap64; omega
  rw [← hn] at hl ⊢
  have k0 : (10 : Int) < n := by omega
  clear h1 h2 hn hl
  go_enter Try.func5, Try.ntmps5
  go_wp2_with fail
  refine (awake_any _).mono ?_
  rintro e w2 ⟨rfl, hb2⟩
  have HB2 := Lib.hid hb2
  clear hb2
  go_wp2_with fail
  go_ret
  exact ⟨rfl, HB2.out⟩
set_option maxHeartbeats 4000000 in
set_option maxRecDepth 10000 in
theorem merges_near (v : Value) (ls : List (List Int)) (w : World) (h : ILT w v ls) (hl : ls.length ≤ 10) : Calls Try.prog 5 #[v] w fun e w' => e = .returned (.bool true) ∧ Below w.heap.size w w' := by
  obtain ⟨i0, hi, hz0, hz1, hz2⟩ := info_parts infoSl
  have hse : Try.prog.underlying 44 = some (.slice 31) := Try.underlying44
  obtain ⟨a, cp, rfl, h1, h2, h3⟩ := h
  have H3 := Lib.hid h3
  obtain ⟨n, hn⟩ : ∃ n, n = ls.length := ⟨_, rfl⟩
  have HN := Lib.hid hn
  rw [← hn] at hl ⊢
  have hw0 : wrap64 (n : Int) = n := by unfold wrap64; omega
  have k0 : ¬ (10 : Int) < n := by omega
  have k1 : (n : Int) ≤ 10 := by omega
  have HWK : Hid (∀ k : Nat, k < n → wrap64 ((k : Int) + 1) = (k : Int) + 1 ∧ wrap64 (100 * (k : Int)) = ((100 * k : Nat) : Int)) := Lib.hid (fun k hk => ⟨by unfold wrap64; omega, by unfold wrap64; omega⟩)
  have HLN := Lib.hid hl
  have HW1 : Hid (∀ k : Nat, k < n → wrap64 ((k : Int) + 1) = (k : Int) + 1) := Lib.hid (fun k hk => by unfold wrap64; omega)
  obtain ⟨MS, hms⟩ : ∃ m, m = mkL ls := ⟨_, rfl⟩
  have HML : Hid (MS.length = n) := Lib.hid (by rw [hms, mkL_len, hn])
  have HMG : Hid (∀ k l, ls[k]? = some l → MS[k]? = some (madeL l (100 * k))) := Lib.hid (fun k l hk => by rw [hms]; exact mkL_get hk)
  clear h1 h2 h3 hl hn hms
  have HAW := Lib.hid (fun W => awake_any W)
  go_enter Try.func5, Try.ntmps5
  go_wp2_with fail
  go_loopw [3, 4, 5] (fun va vb i wr => ∃ (k : Nat) (b : Bool) (aa : Option Addr) (ac : Nat) (xs : List Value), i = .int .i64 k ∧ k ≤ n ∧ vb = .bool b ∧ va = .slice aa k ac ∧ Hid (b = (MS.take k).all risesB) ∧ Hid (MakI w wr MS k (.slice aa k ac) xs)) (fun _ _ i _ => n - (intOf i).toNat)
  case atStart => exact ⟨0, true, none, 0, [], rfl, by omega, rfl, rfl, Lib.hid (by simp), Lib.hid (MakI.start w MS)⟩
  case round =>
    obtain ⟨k, b, aa, ac, xs, rfl, hk, rfl, rfl, HBO, HI⟩ := hrel
    by_cases hlt : k < n
    · obtain ⟨l, hl⟩ : ∃ l, ls[k]? = some l := ⟨_, List.getElem?_eq_getElem (by rw [← HN.out]; exact hlt)⟩
      obtain ⟨g, o, rfl, h5⟩ := H3.out (by rw [← HN.out]; omega)
      obtain ⟨u, q1, q2⟩ := h5 k l hl
      have c1 : wr.cell? ⟨g, o + k, none⟩ = some u := (HI.out.kept.cell (blk_of_cell q1)).trans q1
      have HIT : Hid (IT wr u l) := Lib.hid (q2.below HI.out.kept)
      obtain ⟨ua, uc, rfl, _, hu2, _⟩ := q2
      obtain ⟨p, hp⟩ : ∃ p, p = l.length := ⟨_, rfl⟩
      have hwp : wrap64 (p : Int) = p := by unfold maxLen at hu2; unfold wrap64; omega
      have HMK := Lib.hid (HMG.out k l hl)
      have HP := Lib.hid hp
      rw [← hp] at c1 HIT
      have hi0 : (0 : Int) ≤ k := by omega
      have hi1 : (k : Int) < n := by omega
      have hd1 : decide ((k : Int) < n) = true := by simp; omega
      have HKN := Lib.hid hlt
      by_cases hbig : 40 < p
      · have hb1 : (40 : Int) < p := by omega
        clear hl h5 q1 hk hu2 hp hbig
        go_wp2_with (go_at_call 11; refine (HAW.out _).mono ?_; rintro e w2 ⟨rfl, hb2⟩)
        go_ret
        exact ⟨rfl, th HI.out.kept (Nat.le_refl _) hb2⟩
      · have HK100 : Hid (100 * k ≤ 100000) := Lib.hid (by have := HLN.out; omega)
        have hb1 : ¬ (40 : Int) < p := by omega
        have hb2 : (p : Int) ≤ 40 := by omega
        have HMD := Lib.hid (made_any _ l (100 * k) wr HIT.out (by rw [← hp]; clear hb1 hb2; omega) HK100.out)
        have HPB : Hid (p ≤ 40) := Lib.hid (by omega)
        have hw2 := (HWK.out k hlt).2
        clear hl h5 q1 hk hu2 hp hbig
        go_wp2_with fail
        refine HMD.out.mono ?_
        rintro e w2 ⟨vo, rfl, hown2, hbw2⟩
        obtain ⟨ma, mc, rfl, _, _⟩ := own_at hown2
        obtain ⟨M, hM⟩ : ∃ M, M = madeL l (100 * k) := ⟨_, rfl⟩
        have HME : Hid (MS[k]? = some M) := Lib.hid (by rw [hM]; exact HMK.out)
        have HMLN : Hid (M.length ≤ 40) := Lib.hid (by rw [hM, madeL_len, ← HP.out]; exact HPB.out)
        rw [← hM] at hown2 ⊢
        obtain ⟨mn, hmn⟩ : ∃ mn, mn = M.length := ⟨_, rfl⟩
        have HMN := Lib.hid hmn
        have HO2 := Lib.hid (own_base hown2 HI.out.kept.size)
        have HI2 := Lib.hid (HI.out.below hbw2)
        rw [← hmn]
        rw [← hmn] at HO2
        clear hown2 hbw2 hM hmn HMD
        clear hw2
        cases b with
        | true =>
          go_wp2_with (at_builtin; refine wpList_append_own _ rfl _ _ 44 rfl w.heap.size 31 i0 (.slice none 0 0) 1 24 hse hi hz0 hz1 hz2 rfl (by decide) _ _ _ rfl (HI2.out.own.alloc _) ⟨w2.heap.size, 0, none⟩ 1 1 [.slice ma mn mc] rfl rfl (own_cell_new _ _ _) (by simp [Value.oneCell']) (by unfold maxLen; have := HLN.out; have := HKN.out; omega) (by have := HLN.out; have := HKN.out; omega) (by have := HI2.out.kept.size; simp; omega) ?_; intro v5 w5 hown5 hgrow5 _)
          obtain ⟨ba, bc, rfl, _, _⟩ := own_at hown5
          have hMK : MakI w w5 MS (k + 1) (.slice ba (k + 1) bc) (xs ++ [.slice ma mn mc]) := HI2.out.more' HME.out HMLN.out HMN.out HO2.out hown5 hgrow5
          have HI5 := Lib.hid hMK
          have HRT : Hid (RT w5 (.slice ma mn mc) M) := Lib.hid (by
            have h9 := hMK.each k (.slice ma mn mc) M (by rw [List.getElem?_append_right (by rw [HI2.out.len]; exact Nat.le_refl _), HI2.out.len, Nat.sub_self]; rfl) HME.out
            have h10 := HMN.out
            subst h10
            exact RT.of_own h9)
          have HRS := Lib.hid (risesR_any _ M w5 HRT.out)
          clear hMK hown5 hgrow5
          go_wp2_with fail
          refine HRS.out.mono ?_
          rintro e w6 ⟨rfl, hb6⟩
          have HI6 := Lib.hid (HI5.out.below hb6)
          clear hb6
          go_wp2_with fail
          go_roundw
          case rel => exact ⟨k + 1, _, ba, bc, _, by (try rw [HW1.out k HKN.out]); go_num, by have := HKN.out; omega, rfl, rfl, Lib.hid (by rw [all_take HME.out, ← HBO.out]; simp), HI6⟩
          case measure => (try rw [HW1.out k HKN.out]); have := HKN.out; simp only [intOf]; omega
        | false =>
          go_wp2_with (at_builtin; refine wpList_append_own _ rfl _ _ 44 rfl w.heap.size 31 i0 (.slice none 0 0) 1 24 hse hi hz0 hz1 hz2 rfl (by decide) _ _ _ rfl (HI2.out.own.alloc _) ⟨w2.heap.size, 0, none⟩ 1 1 [.slice ma mn mc] rfl rfl (own_cell_new _ _ _) (by simp [Value.oneCell']) (by unfold maxLen; have := HLN.out; have := HKN.out; omega) (by have := HLN.out; have := HKN.out; omega) (by have := HI2.out.kept.size; simp; omega) ?_; intro v5 w5 hown5 hgrow5 _)
          obtain ⟨ba, bc, rfl, _, _⟩ := own_at hown5
          have hMK : MakI w w5 MS (k + 1) (.slice ba (k + 1) bc) (xs ++ [.slice ma mn mc]) := HI2.out.more' HME.out HMLN.out HMN.out HO2.out hown5 hgrow5
          have HI5 := Lib.hid hMK
          have HRT : Hid (RT w5 (.slice ma mn mc) M) := Lib.hid (by
            have h9 := hMK.each k (.slice ma mn mc) M (by rw [List.getElem?_append_right (by rw [HI2.out.len]; exact Nat.le_refl _), HI2.out.len, Nat.sub_self]; rfl) HME.out
            have h10 := HMN.out
            subst h10
            exact RT.of_own h9)
          have HRS := Lib.hid (risesR_any _ M w5 HRT.out)
          clear hMK hown5 hgrow5
          go_wp2_with fail
          go_roundw
          case rel => exact ⟨k + 1, _, ba, bc, _, by (try rw [HW1.out k HKN.out]); go_num, by have := HKN.out; omega, rfl, rfl, Lib.hid (by rw [all_take HME.out, ← HBO.out]; simp), HI5⟩
          case measure => (try rw [HW1.out k HKN.out]); have := HKN.out; simp only [intOf]; omega
    · skip
      have hd1 : decide ((k : Int) < n) = false := by simp; omega
      have hd2 : decide (k < n) = false := by simp; omega
      obtain rfl : n = k := by omega
      have htk : MS.take n = MS := List.take_of_length_le (by rw [HML.out]; exact Nat.le_refl _)
      have HL2 : Hid (LT wr (.slice aa n ac) MS) := Lib.hid (by
        have h9 := HI.out
        have h10 := HML.out
        subst h10
        exact h9.lists)
      have HSM : Hid (MS.flatten.length ≤ 400) := Lib.hid (by
        have h9 := HI.out.small
        rw [htk] at h9
        have := HLN.out
        omega)
      have HSL : Hid (MS.length ≤ 900) := Lib.hid (by rw [HML.out]; have := HLN.out; omega)
      have HBA := HBO.out
      rw [htk] at HBA
      have HKP := Lib.hid HI.out.kept
      have HMR := Lib.hid (merge_rt HL2.out HSL.out (by have := HSM.out; omega))
      have HRR : Hid (∀ W, Below wr.heap.size wr W → Calls Try.prog 22 #[.slice aa n ac] W fun e w' => ∃ a c, e = .returned (.slice a (sortI MS.flatten).length c) ∧ RT w' (.slice a (sortI MS.flatten).length c) (sortI MS.flatten) ∧ Below W.heap.size W w') := Lib.hid (fun W hb => (mergeR_any _ MS W (HL2.out.below hb) HSL.out (by have := HSM.out; omega)).mono fun e w' ⟨vo, he, hown, hbw⟩ => by
        obtain ⟨a, c, rfl, _, _⟩ := own_at hown
        exact ⟨a, c, he, RT.of_own hown, hbw⟩)
      clear hlt hk htk HI
      cases b with
      | true =>
        have e1 : mergeO MS = sortI MS.flatten := by unfold mergeO; rw [if_pos HBA.symm]
        have e2 : errO MS = 0 := by unfold errO; rw [if_pos HBA.symm]
        rw [e1, e2] at HMR
        obtain ⟨S, hS⟩ : ∃ S, S = sortI MS.flatten := ⟨_, rfl⟩
        rw [← hS] at HMR HRR
        have HTH : Hid (∀ W va vb, RT W va S → RT W vb S → Calls Try.prog 21 #[va, vb] W fun e w' => e = .returned (.bool true) ∧ Below W.heap.size W w') := Lib.hid (fun W va vb r1 r2 => things_any va vb S W r1 r2)
        obtain ⟨sn, hsn⟩ : ∃ sn, sn = S.length := ⟨_, rfl⟩
        have HSN := Lib.hid hsn
        rw [← hsn] at HMR HRR
        clear e1 e2 hS HBA hsn
        go_wp2_with fail
        refine HMR.out.mono ?_
        rintro e w2 ⟨p2, q2, rfl, hr2, hb2⟩
        have HR2 := Lib.hid hr2
        have HB2 := Lib.hid hb2
        clear hr2 hb2
        go_wp2_with fail
        refine (HRR.out w2 HB2.out).mono ?_
        rintro e w3 ⟨p3, q3, rfl, hr3, hb3⟩
        have HT := Lib.hid (HTH.out w3 _ _ (HR2.out.below hb3) hr3)
        have HB3 := Lib.hid (th HB2.out (Nat.le_refl _) hb3)
        clear hr3 hb3
        go_wp2_with fail
        refine HT.out.mono ?_
        rintro e w4 ⟨rfl, hb4⟩
        have HB4 := Lib.hid (th HB3.out (Nat.le_refl _) hb4)
        clear hb4
        go_wp2_with (go_at_call 11; refine (HAW.out _).mono ?_; rintro e w5 ⟨rfl, hb5⟩)
        go_ret
        exact ⟨rfl, th HKP.out (Nat.le_refl _) (th HB4.out (Nat.le_refl _) hb5)⟩
      | false =>
        have e1 : mergeO MS = [] := by unfold mergeO; rw [if_neg (by rw [← HBA]; simp)]
        have e2 : errO MS = 14 := by unfold errO; rw [if_neg (by rw [← HBA]; simp)]
        rw [e1, e2] at HMR
        simp only [List.length_nil] at HMR
        clear e1 e2 HBA HRR
        go_wp2_with fail
        refine HMR.out.mono ?_
        rintro e w2 ⟨p2, q2, rfl, hr2, hb2⟩
        have HB2 := Lib.hid hb2
        clear hr2 hb2
        go_wp2_with (go_at_call 11; refine (HAW.out _).mono ?_; rintro e w5 ⟨rfl, hb5⟩)
        go_ret
        exact ⟨rfl, th HKP.out (Nat.le_refl _) (th HB2.out (Nat.le_refl _) hb5)⟩
end Go.Proofs.Ytodjfebceljjgaa.U
