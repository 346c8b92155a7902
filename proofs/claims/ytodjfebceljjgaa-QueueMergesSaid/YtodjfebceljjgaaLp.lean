/- QueueParts: its walk. -/
import Derived.Test.YtodjfebceljjgaaOi
namespace Go.Proofs.Ytodjfebceljjgaa.U
open Go.RowKit

theorem IT.form {w : World} {v : Value} {l : List Int} (h : IT w v l) : ∃ a c, v = .slice a l.length c := by
  obtain ⟨a, c, rfl, _⟩ := h
  exact ⟨a, c, rfl⟩
theorem LT.three {w : World} {v1 v2 v3 : Value} {l1 l2 l3 : List T2} (h1 : RT w v1 l1) (h2 : RT w v2 l2) (h3 : RT w v3 l3) : LT (w.alloc (.cells #[v1, v2, v3] 31)) (.slice (some ⟨w.heap.size, 0, none⟩) 3 3) [l1, l2, l3] := by
  have hb := al (Below.refl w.heap.size w) (Nat.le_refl _) (.cells #[v1, v2, v3] 31)
  refine ⟨_, _, rfl, by simp, by decide, fun _ => ⟨_, 0, rfl, fun i l hl => ?_⟩⟩
  match i, hl with
  | 0, hl => simp at hl; subst hl; exact ⟨v1, by simp [go_sem], h1.below hb⟩
  | 1, hl => simp at hl; subst hl; exact ⟨v2, by simp [go_sem], h2.below hb⟩
  | 2, hl => simp at hl; subst hl; exact ⟨v3, by simp [go_sem], h3.below hb⟩
theorem rt_nil (w : World) : RT w (.slice none 0 0) [] := ⟨none, 0, rfl, Nat.le_refl _, by decide, fun h => by simp at h⟩
/-- What Merge answers, as a list: nothing where one does not rise. -/
def mergeO (ls : List (List T2)) : List T2 := if ls.all risesB = true then sortI ls.flatten else []
def errO (ls : List (List T2)) : Int := if ls.all risesB = true then 0 else 14
theorem merge_rt {v : Value} {ls : List (List T2)} {w : World} (h : LT w v ls) (hn : ls.length ≤ 900) (hs : ls.flatten.length ≤ 100000) : Calls Try.prog 20 #[.func (.func 10) #[] #[], v] w fun e w' => ∃ a c, e = .returned (.tuple #[.slice a (mergeO ls).length c, .int .i64 (errO ls)]) ∧ RT w' (.slice a (mergeO ls).length c) (mergeO ls) ∧ Below w.heap.size w w' :=
  (merge_any v ls w h hn hs).mono fun e w' hp => by
    obtain ⟨hb, hp⟩ := hp
    rcases hp with ⟨ha, rfl⟩ | ⟨ha, vo, rfl, hown⟩
    · have e1 : mergeO ls = [] := by unfold mergeO; rw [ha]; rfl
      have e2 : errO ls = 14 := by unfold errO; rw [ha]; rfl
      rw [e1, e2]
      exact ⟨none, 0, rfl, rt_nil _, hb⟩
    · have e1 : mergeO ls = sortI ls.flatten := by unfold mergeO; rw [ha]; rfl
      have e2 : errO ls = 0 := by unfold errO; rw [ha]; rfl
      rw [e1, e2]
      obtain ⟨a, c, rfl, _, _⟩ := own_at hown
      exact ⟨a, c, rfl, RT.of_own hown, hb⟩
/-- To merge by two is to merge all. -/
theorem merge_parts (x y z : List T2) (h : [x, y].all risesB = true) : errO [mergeO [x, y], z] = errO [x, y, z] ∧ mergeO [mergeO [x, y], z] = mergeO [x, y, z] := by
  have e1 : mergeO [x, y] = sortI (x ++ y) := by unfold mergeO; rw [if_pos h]; simp
  have hs := sort_rises (x ++ y)
  have hxy : risesB x = true ∧ risesB y = true := by simpa using h
  rw [e1]
  unfold errO mergeO
  cases hz : risesB z with
  | true =>
    rw [if_pos (by simp [hs, hz]), if_pos (by simp [hxy, hz]), if_pos (by simp [hs, hz]), if_pos (by simp [hxy, hz])]
    refine ⟨rfl, ?_⟩
    simp only [List.flatten_cons, List.flatten_nil, List.append_nil]
    rw [sort_part, List.append_assoc]
  | false =>
    rw [if_neg (by simp [hs, hz]), if_neg (by simp [hxy, hz]), if_neg (by simp [hs, hz]), if_neg (by simp [hxy, hz])]
    exact ⟨rfl, rfl⟩
theorem merge_falls (x y z : List T2) (h : [x, y].all risesB = false) : errO [x, y] = 14 ∧ errO [x, y, z] = 14 := by
  have h2 : [x, y, z].all risesB = false := by
    cases hx : risesB x <;> cases hy : risesB y <;> simp_all
  unfold errO
  rw [h, h2]
  exact ⟨rfl, rfl⟩
theorem merge_errs (ls : List (List T2)) (h : ls.all risesB = true) : errO ls = 0 := by unfold errO; rw [if_pos h]
theorem mergeO_len (ls : List (List T2)) : (mergeO ls).length ≤ ls.flatten.length := by
  unfold mergeO
  split
  · rw [sort_len]; exact Nat.le_refl _
  · simp
theorem made_rt (v : Value) (l : List Int) (f : Nat) (w : World) (h : IT w v l) (hl : l.length ≤ 1000) (hf : f ≤ 100000) :
    Calls Try.prog 18 #[v, .int .i64 f] w fun e w' => ∃ a c, e = .returned (.slice a (madeL l f).length c) ∧ RT w' (.slice a (madeL l f).length c) (madeL l f) ∧ Below w.heap.size w w' :=
  (made_any v l f w h hl hf).mono fun e w' ⟨vo, he, hown, hb⟩ => by
    obtain ⟨a, c, rfl, _, _⟩ := own_at hown
    exact ⟨a, c, he, RT.of_own hown, hb⟩
set_option maxHeartbeats 4000000 in
set_option maxRecDepth 10000 in
theorem parts_walk (va vb vc : Value) (la lb lc : List Int) (w : World) (ha : IT w va la) (hb : IT w vb lb) (hc : IT w vc lc) : Calls Try.prog 6 #[va, vb, vc] w fun e w' => e = .returned (.bool true) ∧ Below w.heap.size w w' := by
  have HA := Lib.hid ha
  have HB := Lib.hid hb
  have HC := Lib.hid hc
  obtain ⟨a0, c0, rfl, _, m0, _⟩ := ha
  obtain ⟨a1, c1, rfl, _, m1, _⟩ := hb
  obtain ⟨a2, c2, rfl, _, m2, _⟩ := hc
  obtain ⟨n0, hn0⟩ : ∃ n, n = la.length := ⟨_, rfl⟩
  obtain ⟨n1, hn1⟩ : ∃ n, n = lb.length := ⟨_, rfl⟩
  obtain ⟨n2, hn2⟩ : ∃ n, n = lc.length := ⟨_, rfl⟩
  have hw0 : wrap64 (n0 : Int) = n0 := by unfold maxLen at m0; unfold wrap64; omega
  have hw1 : wrap64 (n1 : Int) = n1 := by unfold maxLen at m1; unfold wrap64; omega
  have hw2 : wrap64 (n2 : Int) = n2 := by unfold maxLen at m2; unfold wrap64; omega
  have HN0 := Lib.hid hn0
  have HN1 := Lib.hid hn1
  have HN2 := Lib.hid hn2
  rw [← hn0] at HA ⊢
  rw [← hn1] at HB ⊢
  rw [← hn2] at HC ⊢
  clear m0 m1 m2 hn0 hn1 hn2
  have HAW := Lib.hid (fun W => awake_any W)
  by_cases h0 : 40 < n0
  · have k0 : (40 : Int) < n0 := by omega
    go_enter Try.func6, Try.ntmps6
    go_wp2_with (go_at_call 11; refine (HAW.out _).mono ?_; rintro e w1 ⟨rfl, hb1⟩)
    go_ret
    exact ⟨rfl, hb1⟩
  · have k0 : ¬ (40 : Int) < n0 := by omega
    have j0 : (n0 : Int) ≤ 40 := by omega
    by_cases h1 : 40 < n1
    · have k1 : (40 : Int) < n1 := by omega
      go_enter Try.func6, Try.ntmps6
      go_wp2_with (go_at_call 11; refine (HAW.out _).mono ?_; rintro e w1 ⟨rfl, hb1⟩)
      go_ret
      exact ⟨rfl, hb1⟩
    · have k1 : ¬ (40 : Int) < n1 := by omega
      have j1 : (n1 : Int) ≤ 40 := by omega
      by_cases h2 : 40 < n2
      · have k2 : (40 : Int) < n2 := by omega
        go_enter Try.func6, Try.ntmps6
        go_wp2_with (go_at_call 11; refine (HAW.out _).mono ?_; rintro e w1 ⟨rfl, hb1⟩)
        go_ret
        exact ⟨rfl, hb1⟩
      · have k2 : ¬ (40 : Int) < n2 := by omega
        have j2 : (n2 : Int) ≤ 40 := by omega
        have hl0 : la.length ≤ 40 := by have := HN0.out; omega
        have hl1 : lb.length ≤ 40 := by have := HN1.out; omega
        have hl2 : lc.length ≤ 40 := by have := HN2.out; omega
        have HM1 := Lib.hid (made_rt _ la 0 w HA.out (by omega) (by omega))
        have HM2 : Hid (∀ W, Below w.heap.size w W → Calls Try.prog 18 #[.slice a1 n1 c1, .int .i64 ((100 : Nat) : Int)] W fun e w' => ∃ a c, e = .returned (.slice a (madeL lb 100).length c) ∧ RT w' (.slice a (madeL lb 100).length c) (madeL lb 100) ∧ Below W.heap.size W w') := Lib.hid (fun W hW => made_rt _ lb 100 W (HB.out.below hW) (by omega) (by omega))
        have HM3 : Hid (∀ W, Below w.heap.size w W → Calls Try.prog 18 #[.slice a2 n2 c2, .int .i64 ((200 : Nat) : Int)] W fun e w' => ∃ a c, e = .returned (.slice a (madeL lc 200).length c) ∧ RT w' (.slice a (madeL lc 200).length c) (madeL lc 200) ∧ Below W.heap.size W w') := Lib.hid (fun W hW => made_rt _ lc 200 W (HC.out.below hW) (by omega) (by omega))
        have hx9 := madeL_len la 0
        have hy9 := madeL_len lb 100
        have hz9 := madeL_len lc 200
        obtain ⟨X, hX⟩ : ∃ X, X = madeL la 0 := ⟨_, rfl⟩
        obtain ⟨Y, hY⟩ : ∃ Y, Y = madeL lb 100 := ⟨_, rfl⟩
        obtain ⟨Z, hZ⟩ : ∃ Z, Z = madeL lc 200 := ⟨_, rfl⟩
        rw [← hX] at HM1 hx9
        rw [← hY] at HM2 hy9
        rw [← hZ] at HM3 hz9
        have HLX : Hid (X.length ≤ 40 ∧ Y.length ≤ 40 ∧ Z.length ≤ 40) := Lib.hid (by omega)
        obtain ⟨E3, hE3⟩ : ∃ e, e = errO [X, Y, Z] := ⟨_, rfl⟩
        obtain ⟨M3, hM3⟩ : ∃ m, m = mergeO [X, Y, Z] := ⟨_, rfl⟩
        obtain ⟨E2, hE2⟩ : ∃ e, e = errO [X, Y] := ⟨_, rfl⟩
        obtain ⟨M2, hM2⟩ : ∃ m, m = mergeO [X, Y] := ⟨_, rfl⟩
        have HG3 : Hid (∀ W v1 v2 v3, RT W v1 X → RT W v2 Y → RT W v3 Z → Calls Try.prog 20 #[.func (.func 10) #[] #[], .slice (some ⟨W.heap.size, 0, none⟩) 3 3] (W.alloc (.cells #[v1, v2, v3] 31)) fun e w' => ∃ a c, e = .returned (.tuple #[.slice a M3.length c, .int .i64 E3]) ∧ RT w' (.slice a M3.length c) M3 ∧ Below W.heap.size W w') := Lib.hid (fun W v1 v2 v3 r1 r2 r3 => by
          rw [hE3, hM3]
          refine (merge_rt (LT.three r1 r2 r3) (by simp) (by have := HLX.out; simp; omega)).mono fun e w' ⟨a, c, q1, q2, q3⟩ => ⟨a, c, q1, q2, (al (Below.refl _ W) (Nat.le_refl _) _).trans (q3.mono (by simp))⟩)
        have HG2 : Hid (∀ W v1 v2, RT W v1 X → RT W v2 Y → Calls Try.prog 20 #[.func (.func 10) #[] #[], .slice (some ⟨W.heap.size, 0, none⟩) 2 2] (W.alloc (.cells #[v1, v2] 31)) fun e w' => ∃ a c, e = .returned (.tuple #[.slice a M2.length c, .int .i64 E2]) ∧ RT w' (.slice a M2.length c) M2 ∧ Below W.heap.size W w') := Lib.hid (fun W v1 v2 r1 r2 => by
          rw [hE2, hM2]
          refine (merge_rt (LT.two r1 r2) (by simp) (by have := HLX.out; simp; omega)).mono fun e w' ⟨a, c, q1, q2, q3⟩ => ⟨a, c, q1, q2, (al (Below.refl _ W) (Nat.le_refl _) _).trans (q3.mono (by simp))⟩)
        have HTH : Hid (∀ W va vb, RT W va M3 → RT W vb M3 → Calls Try.prog 21 #[va, vb] W fun e w' => e = .returned (.bool true) ∧ Below W.heap.size W w') := Lib.hid (fun W va vb r1 r2 => things_any va vb M3 W r1 r2)
        have HML : Hid (M2.length ≤ 80) := Lib.hid (by rw [hM2]; have := mergeO_len [X, Y]; have := HLX.out; simp at *; omega)
        have HCASE : Hid ((E2 = 14 ∧ E3 = 14) ∨ (E2 = 0 ∧ ∀ W v1 v2, RT W v1 M2 → RT W v2 Z → Calls Try.prog 20 #[.func (.func 10) #[] #[], .slice (some ⟨W.heap.size, 0, none⟩) 2 2] (W.alloc (.cells #[v1, v2] 31)) fun e w' => ∃ a c, e = .returned (.tuple #[.slice a M3.length c, .int .i64 E3]) ∧ RT w' (.slice a M3.length c) M3 ∧ Below W.heap.size W w')) := Lib.hid (by
          cases hall : [X, Y].all risesB with
          | false =>
            have := merge_falls X Y Z hall
            rw [hE2, hE3]
            exact .inl this
          | true =>
            refine .inr ⟨by rw [hE2]; exact merge_errs _ hall, fun W v1 v2 r1 r2 => ?_⟩
            have hp := merge_parts X Y Z hall
            rw [← hM2, ← hE3, ← hM3] at hp
            rw [← hp.1, ← hp.2]
            refine (merge_rt (LT.two r1 r2) (by simp) (by have := HLX.out; have := HML.out; simp; omega)).mono fun e w' ⟨a, c, q1, q2, q3⟩ => ⟨a, c, q1, q2, (al (Below.refl _ W) (Nat.le_refl _) _).trans (q3.mono (by simp))⟩)
        clear hX hY hZ hE3 hM3 hE2 hM2 hx9 hy9 hz9 hl0 hl1 hl2
        go_enter Try.func6, Try.ntmps6
        go_wp2_with fail
        refine HM1.out.mono ?_
        rintro e w1 ⟨p1, q1, rfl, hr1, hb1⟩
        have HR1 := Lib.hid hr1
        have HB1 := Lib.hid hb1
        clear hr1 hb1
        go_wp2_with fail
        refine (HM2.out w1 HB1.out).mono ?_
        rintro e w2 ⟨p2, q2, rfl, hr2, hb2⟩
        have HR2 := Lib.hid hr2
        have HR12 := Lib.hid (HR1.out.below hb2)
        have HB2 := Lib.hid (th HB1.out (Nat.le_refl _) hb2)
        clear hr2 hb2
        go_wp2_with fail
        refine (HM3.out w2 HB2.out).mono ?_
        rintro e w3 ⟨p3, q3, rfl, hr3, hb3⟩
        have HR3 := Lib.hid hr3
        have HR13 := Lib.hid (HR12.out.below hb3)
        have HR23 := Lib.hid (HR2.out.below hb3)
        have HB3 := Lib.hid (th HB2.out (Nat.le_refl _) hb3)
        clear hr3 hb3
        go_wp2_with fail
        refine (HG3.out w3 _ _ _ HR13.out HR23.out HR3.out).mono ?_
        rintro e w4 ⟨p4, q4, rfl, hr4, hb4⟩
        have HR4 := Lib.hid hr4
        have HR14 := Lib.hid (HR13.out.below hb4)
        have HR24 := Lib.hid (HR23.out.below hb4)
        have HR34 := Lib.hid (HR3.out.below hb4)
        have HB4 := Lib.hid (th HB3.out (Nat.le_refl _) hb4)
        clear hr4 hb4
        go_wp2_with fail
        refine (HG2.out w4 _ _ HR14.out HR24.out).mono ?_
        rintro e w5 ⟨p5, q5, rfl, hr5, hb5⟩
        have HR5 := Lib.hid hr5
        have HR35 := Lib.hid (HR34.out.below hb5)
        have HR45 := Lib.hid (HR4.out.below hb5)
        have HB5 := Lib.hid (th HB4.out (Nat.le_refl _) hb5)
        clear hr5 hb5
        rcases HCASE.out with ⟨e1, e2⟩ | ⟨e1, hcall⟩
        · rw [e1, e2]
          clear e1 e2
          go_wp2_with (go_at_call 11; refine (HAW.out _).mono ?_; rintro e w6 ⟨rfl, hb6⟩)
          go_ret
          exact ⟨rfl, th HB5.out (Nat.le_refl _) hb6⟩
        · have HCALL := Lib.hid hcall
          rw [e1]
          clear e1 hcall
          go_wp2_with fail
          refine (HCALL.out w5 _ _ HR5.out HR35.out).mono ?_
          rintro e w6 ⟨p6, q6, rfl, hr6, hb6⟩
          have HT := Lib.hid (HTH.out w6 _ _ (HR45.out.below hb6) hr6)
          have HB6 := Lib.hid (th HB5.out (Nat.le_refl _) hb6)
          clear hr6 hb6
          go_wp2_with fail
          refine HT.out.mono ?_
          rintro e w7 ⟨rfl, hb7⟩
          have HB7 := Lib.hid (th HB6.out (Nat.le_refl _) hb7)
          clear hb7
          go_wp2_with (go_at_call 11; refine (HAW.out _).mono ?_; rintro e w8 ⟨rfl, hb8⟩)
          go_ret
          exact ⟨rfl, th HB7.out (Nat.le_refl _) hb8⟩
end Go.Proofs.Ytodjfebceljjgaa.U
