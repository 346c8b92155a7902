/- The chapter's examples. -/
import Derived.Test.YtodjfebceljjgaaL1
namespace Go.Proofs.Ytodjfebceljjgaa.U
open Go.RowKit Q1

theorem Q1.QS.own {E : En Th} {w : World} {base qb p : Nat} {v : Value} {m : List Th} (h : QS E w base qb v m p) {g : Nat} (hg : v.ownBlock = some g) : base ≤ g ∧ g < w.heap.size ∧ ∃ cur, w.heap[g]? = some (.cells cur 70 (0, 0)) := by
  obtain ⟨xs, k1, _⟩ := h
  exact own_block k1.row hg
theorem Q1.QS.bx {E : En Th} {w : World} {base qb p : Nat} {v : Value} {m : List Th} (h : QS E w base qb v m p) : base ≤ qb ∧ qb < w.heap.size ∧ ∃ cur, w.heap[qb]? = some (.cells cur 68 (0, 0)) := by
  obtain ⟨xs, k1, _⟩ := h
  exact ⟨k1.low, k1.lt, _, k1.box⟩
/-- What lies below is as it was. -/
theorem kept_below {E : En Th} {w w' : World} {base qb p : Nat} {v : Value} {m : List Th} (h : QS E w base qb v m p) (hk : Kept (SQ qb v) w w') : Below base w w' :=
  hk.below (by have := Q1.QS.bx h; omega) (fun k hb e => by
    rcases e with e | e
    · have := Q1.QS.bx h; have e : k = qb := e; omega
    · have := (Q1.QS.own h e).1; omega)
/-- A block beside a queue's own. -/
theorem kept_aside {E : En Th} {w w' : World} {base qb p g : Nat} {v : Value} {m : List Th} {T : TypeId} {cur : Array Value} (h : QS E w base qb v m p) (hk : Kept (SQ qb v) w w') (hg : w.heap[g]? = some (.cells cur T (0, 0))) (h1 : T ≠ 68) (h2 : T ≠ 70) : w'.heap[g]? = some (.cells cur T (0, 0)) := by
  refine (hk.block g (Array.getElem?_eq_some_iff.1 hg).1 (fun e => ?_)).trans hg
  rcases e with e | e
  · obtain ⟨_, _, cur2, k⟩ := Q1.QS.bx h
    have e : g = qb := e
    rw [← e, hg] at k
    simp at k
    exact h1 k.2
  · obtain ⟨_, _, cur2, k⟩ := Q1.QS.own h e
    rw [hg] at k
    simp at k
    exact h2 k.2
theorem ordU : OrdC 10 gUp := ord10
theorem ordD : OrdC 25 gDn := ord25
theorem put1 {f : Nat} {g : Int × Int → Int × Int → Int} (hg : OrdC f g) (ho : Ord (ltT g)) {c d : Nat} {W0 w : World} (hcl : Clo f c d W0) {base qb p : Nat} {v : Value} {m : List Th} (h : QS (E1 g c d W0) w base qb v m p) (hm : m.length ≤ 500000) (hp : p ≤ 500000) (a i : Int) :
    Calls Try.prog 12 #[.pointer (some ⟨qb, 0, none⟩), .agg #[.int .i64 a, .int .i64 i]] w fun e w' => e = .returned (.int .i64 0) ∧ After (E1 g c d W0) w base qb v ((a, i, (p : Int)) :: m) (p + 1) w' :=
  put_any (E1 g c d W0) (ahead1 hg hcl) (one1 g c d W0) ho base qb p v m (a, i, (p : Int)) w h trivial rfl (by omega) (by omega)
theorem take1 {f : Nat} {g : Int × Int → Int × Int → Int} (hg : OrdC f g) (ho : Ord (ltT g)) {c d : Nat} {W0 w : World} (hcl : Clo f c d W0) {base qb p : Nat} {v : Value} {m : List Th} (h : QS (E1 g c d W0) w base qb v m p) (hm : m ≠ []) (hml : m.length ≤ 500000) :
    Calls Try.prog 16 #[.pointer (some ⟨qb, 0, none⟩)] w fun e w' => ∃ (x : Th) (r : List Th), m.Perm (x :: r) ∧ IsMin (E1 g c d W0) m x ∧ e = .returned (.tuple #[.agg #[.int .i64 x.1, .int .i64 x.2.1], .int .i64 0]) ∧ After (E1 g c d W0) w base qb v r p w' :=
  take_any (E1 g c d W0) (ahead1 hg hcl) (one1 g c d W0) ho base qb p v m w h hm (by omega)
/-- The least of a list that is known to hold it. -/
theorem min_is {g : Int × Int → Int × Int → Int} {c d : Nat} {W0 : World} {m : List Th} {x y : Th} (h : IsMin (E1 g c d W0) m x) (hy : y ∈ m) (hlt : ∀ z ∈ m, z ≠ y → ltT g y z = true) : x = y := by
  by_cases e : x = y
  · exact e
  · have h1 := hlt x h.1 e
    have h2 : ltT g y x = false := h.2 y hy
    rw [h1] at h2
    cases h2
theorem LT.two {w : World} {v1 v2 : Value} {l1 l2 : List T2} (h1 : RT w v1 l1) (h2 : RT w v2 l2) : LT (w.alloc (.cells #[v1, v2] 31)) (.slice (some ⟨w.heap.size, 0, none⟩) 2 2) [l1, l2] := by
  have hb := al (Below.refl w.heap.size w) (Nat.le_refl _) (.cells #[v1, v2] 31)
  refine ⟨_, _, rfl, by simp, by decide, fun _ => ⟨_, 0, rfl, fun i l hl => ?_⟩⟩
  match i, hl with
  | 0, hl => simp at hl; subst hl; exact ⟨v1, by simp [go_sem], h1.below hb⟩
  | 1, hl => simp at hl; subst hl; exact ⟨v2, by simp [go_sem], h2.below hb⟩
theorem IT.two (w : World) (x y : Int) : IT (w.alloc (.cells #[.int .i64 x, .int .i64 y] 3)) (.slice (some ⟨w.heap.size, 0, none⟩) 2 2) [x, y] := by
  refine ⟨_, _, rfl, by simp, by decide, fun _ => ⟨_, 0, rfl, fun i l hl => ?_⟩⟩
  match i, hl with
  | 0, hl => simp at hl; subst hl; simp [go_sem]
  | 1, hl => simp at hl; subst hl; simp [go_sem]
theorem IT.one (w : World) (x : Int) : IT (w.alloc (.cells #[.int .i64 x] 3)) (.slice (some ⟨w.heap.size, 0, none⟩) 1 1) [x] := by
  refine ⟨_, _, rfl, by simp, by decide, fun _ => ⟨_, 0, rfl, fun i l hl => ?_⟩⟩
  match i, hl with
  | 0, hl => simp at hl; subst hl; simp [go_sem]
theorem RT.three (w : World) (x y z : T2) : RT (w.alloc (.cells #[.int .i64 x.1, .int .i64 x.2, .int .i64 y.1, .int .i64 y.2, .int .i64 z.1, .int .i64 z.2] 28)) (.slice (some ⟨w.heap.size, 0, none⟩) 3 3) [x, y, z] := by
  refine ⟨_, _, rfl, by simp, by decide, fun _ => ⟨_, 0, rfl, fun i l hl => ?_⟩⟩
  match i, hl with
  | 0, hl => simp at hl; subst hl; simp [go_sem]
  | 1, hl => simp at hl; subst hl; simp [go_sem]
  | 2, hl => simp at hl; subst hl; simp [go_sem]
set_option maxHeartbeats 4000000 in
set_option maxRecDepth 10000 in
theorem awake_any (w : World) : Calls Try.prog 11 #[] w fun e w' => e = .returned (.bool true) ∧ Below w.heap.size w w' := by
  have hef := eql_func
  go_enter Try.func11, Try.ntmps11
  go_wp2_with fail
  refine (new_any 10 gUp _).mono ?_
  rintro e w1 ⟨c, d, qb, rfl, hb1, hqb, hcl, hqs⟩
  have HCL := Lib.hid hcl
  have HQ1 := Lib.hid (hqs w.heap.size (Nat.le_refl _))
  have HB1 := Lib.hid hb1
  have HP1 := Lib.hid (put1 ordU ord_up HCL.out HQ1.out (by simp) (by omega) 3 0)
  clear hb1 hqb hcl hqs
  go_wp2_with fail
  refine HP1.out.mono ?_
  rintro e w2 ⟨rfl, v2, hq2, hk2, _⟩
  have HQ2 := Lib.hid hq2
  have HB2 : Hid (Below w.heap.size w w2) := Lib.hid (HB1.out.trans (kept_below HQ1.out hk2))
  have HP2 := Lib.hid (put1 ordU ord_up HCL.out HQ2.out (by simp) (by omega) 1 0)
  clear hq2 hk2
  go_wp2_with fail
  refine HP2.out.mono ?_
  rintro e w3 ⟨rfl, v3, hq3, hk3, _⟩
  have HQ3 := Lib.hid hq3
  have HB3 : Hid (Below w.heap.size w w3) := Lib.hid (HB2.out.trans (kept_below HQ2.out hk3))
  have HP3 := Lib.hid (put1 ordU ord_up HCL.out HQ3.out (by simp) (by omega) 2 0)
  clear hq3 hk3
  go_wp2_with fail
  refine HP3.out.mono ?_
  rintro e w4 ⟨rfl, v4, hq4, hk4, _⟩
  have HQ4 := Lib.hid hq4
  have HB4 : Hid (Below w.heap.size w w4) := Lib.hid (HB3.out.trans (kept_below HQ3.out hk4))
  have HT1 := Lib.hid (take1 ordU ord_up HCL.out HQ4.out (by simp) (by simp))
  clear hq4 hk4
  go_wp2_with fail
  refine HT1.out.mono ?_
  rintro e w5 ⟨x, r, hpr, hmin, rfl, v5, hq5, hk5, _⟩
  obtain rfl : x = (1, 0, 1) := min_is hmin (by simp) (by decide)
  have hpr2 : r.Perm [(2, 0, 2), (3, 0, 0)] := by
    have h9 : List.Perm ((1, 0, 1) :: r) ((1, 0, 1) :: [(2, 0, 2), (3, 0, 0)]) := hpr.symm.trans (List.Perm.swap _ _ _)
    exact h9.cons_inv
  have HQ5 := Lib.hid (QS.perm hq5 hpr2)
  have HB5 : Hid (Below w.heap.size w w5) := Lib.hid (HB4.out.trans (kept_below HQ4.out hk5))
  clear hpr hmin hq5 hk5 hpr2
  obtain ⟨w6, hw6⟩ : ∃ w6, w6 = w5.alloc (.cells #[.int .i64 1, .int .i64 0] 28) := ⟨_, rfl⟩
  have hb56 : Below w5.heap.size w5 w6 := by rw [hw6]; exact al (Below.refl _ _) (Nat.le_refl _) _
  have HG6 : Hid (w6.heap[w5.heap.size]? = some (.cells #[.int .i64 1, .int .i64 0] 28 (0, 0))) := Lib.hid (by rw [hw6]; exact heap_new0 _ _)
  have HQ6 := Lib.hid (QS.below HQ5.out hb56)
  have HB6 : Hid (Below w.heap.size w w6) := Lib.hid (th HB5.out (Nat.le_refl _) hb56)
  have HT2 := Lib.hid (take1 ordU ord_up HCL.out HQ6.out (by simp) (by simp))
  clear hb56
  go_upto_region 8 with fail
  rw [← hw6]
  clear hw6
  go_wp2_with fail
  refine HT2.out.mono ?_
  rintro e w7 ⟨x, r2, hpr, hmin, rfl, v7, hq7, hk7, _⟩
  obtain rfl : x = (2, 0, 2) := min_is hmin (by simp) (by decide)
  have HB7 : Hid (Below w.heap.size w w7) := Lib.hid (HB6.out.trans (kept_below HQ6.out hk7))
  have hg7 := kept_aside HQ6.out hk7 HG6.out (by decide) (by decide)
  clear hpr hmin hq7 hk7
  obtain ⟨w8, hw8⟩ : ∃ w8, w8 = w7.alloc (.cells #[.int .i64 2, .int .i64 0] 28) := ⟨_, rfl⟩
  have hb78 : Below w7.heap.size w7 w8 := by rw [hw8]; exact al (Below.refl _ _) (Nat.le_refl _) _
  have hga : w8.heap[w5.heap.size]? = some (.cells #[.int .i64 1, .int .i64 0] 28 (0, 0)) := (hb78.block _ (Array.getElem?_eq_some_iff.1 hg7).1).trans hg7
  have hgb : w8.heap[w7.heap.size]? = some (.cells #[.int .i64 2, .int .i64 0] 28 (0, 0)) := by rw [hw8]; exact heap_new0 _ _
  have HA8 : Hid (w8.cell? ⟨w5.heap.size, 0, none⟩ = some (.int .i64 1)) := Lib.hid (by rw [Lib.cell_of_heap hga]; rfl)
  have HC8 : Hid (w8.cell? ⟨w7.heap.size, 0, none⟩ = some (.int .i64 2)) := Lib.hid (by rw [Lib.cell_of_heap hgb]; rfl)
  have HB8 : Hid (Below w.heap.size w w8) := Lib.hid (th HB7.out (Nat.le_refl _) hb78)
  clear hga hgb hg7 hb78
  go_upto_region 9 with fail
  rw [← hw8]
  clear hw8
  have HM1 := Lib.hid (made_any _ [1, 3] 0 _ (IT.two w8 1 3) (by simp) (by omega))
  go_wp2_with fail
  refine HM1.out.mono ?_
  rintro e w9 ⟨va, rfl, hva, hb9⟩
  have HB89 : Hid (Below w8.heap.size w8 w9) := Lib.hid ((al (Below.refl _ w8) (Nat.le_refl _) _).trans (hb9.mono (by simp)))
  have HVA := Lib.hid (RT.of_own hva)
  have HM2 := Lib.hid (made_any _ [2] 2 _ (IT.one w9 2) (by simp) (by omega))
  obtain ⟨a1, c1, rfl, _, _⟩ := own_at hva
  clear hva hb9
  go_wp2_with fail
  refine HM2.out.mono ?_
  rintro e w10 ⟨vb, rfl, hvb, hb10⟩
  have hb9a : Below w9.heap.size w9 w10 := (al (Below.refl _ w9) (Nat.le_refl _) _).trans (hb10.mono (by simp))
  have HB10 : Hid (Below w8.heap.size w8 w10) := Lib.hid (th HB89.out (Nat.le_refl _) hb9a)
  have HVA2 := Lib.hid (HVA.out.below hb9a)
  have HVB := Lib.hid (RT.of_own hvb)
  obtain ⟨a2, c2, rfl, _, _⟩ := own_at hvb
  have HMG := Lib.hid (merge_any _ _ _ (LT.two HVA2.out HVB.out) (by simp) (by simp [madeL]))
  clear hvb hb10 hb9a
  go_wp2_with fail
  refine HMG.out.mono ?_
  rintro e w11 ⟨hb11, hpost⟩
  rcases hpost with ⟨h, _⟩ | ⟨_, vo, rfl, hown⟩
  · exact absurd h (by decide)
  have hs : sortI [madeL [1, 3] 0, madeL [2] 2].flatten = [(1, 0), (2, 2), (3, 1)] := by decide
  rw [hs] at hown
  have HB11 : Hid (Below w8.heap.size w8 w11) := Lib.hid (HB10.out.trans (((al (Below.refl _ w10) (Nat.le_refl _) _).trans (hb11.mono (by simp))).mono HB10.out.size))
  have HVO := Lib.hid (RT.of_own hown)
  obtain ⟨a3, c3, rfl, _, _⟩ := own_at hown
  have ha11 : w11.cell? ⟨w5.heap.size, 0, none⟩ = some (.int .i64 1) := (HB11.out.cell (blk_of_cell HA8.out)).trans HA8.out
  have hb11c : w11.cell? ⟨w7.heap.size, 0, none⟩ = some (.int .i64 2) := (HB11.out.cell (blk_of_cell HC8.out)).trans HC8.out
  have HTH := Lib.hid (things_any _ _ [(1, 0), (2, 2), (3, 1)] _ (HVO.out.below (al (Below.refl _ w11) (Nat.le_refl _) _)) (RT.three w11 (1, 0) (2, 2) (3, 1)))
  clear hown hb11 hs
  go_wp2_with fail
  refine HTH.out.mono ?_
  rintro e w12 ⟨rfl, hb12⟩
  have HBF : Hid (Below w.heap.size w w12) := Lib.hid (HB8.out.trans ((HB11.out.trans (((al (Below.refl _ w11) (Nat.le_refl _) _).trans (hb12.mono (by simp))).mono HB11.out.size)).mono HB8.out.size))
  clear hb12
  go_wp2_with fail
  go_ret
  exact ⟨rfl, HBF.out⟩
end Go.Proofs.Ytodjfebceljjgaa.U
