/- QueueTurns: its walk. -/
import Derived.Test.YtodjfebceljjgaaTu0
import Derived.Deep.QuietTactic
import Derived.BigQuiet
import Derived.Maps.AppendAt
namespace Go.Proofs.Ytodjfebceljjgaa.U
open Go.RowKit Q1

theorem drewN_blw {B : Nat} (w : World) (n : Nat) : Below B w (w.drewN n) := ⟨rfl, rfl, rfl, Nat.le_refl _, fun _ _ => rfl⟩
/-- Two queues beside each other. -/
structure Two (w W1 W2 wr : World) (c1 d1 q1 c2 d2 q2 p1 p2 : Nat) (m1 m2 : List Th) (v1 v2 : Value) : Prop where
  up : QS (E1 gUp c1 d1 W1) wr w.heap.size q1 v1 m1 p1
  dn : QS (E1 gDn c2 d2 W2) wr w.heap.size q2 v2 m2 p2
  ne : q1 ≠ q2
  apart : ∀ g, v1.ownBlock = some g → v2.ownBlock ≠ some g
  kept : Below w.heap.size w wr
theorem Two.below {w W1 W2 wr w2 : World} {c1 d1 q1 c2 d2 q2 p1 p2 : Nat} {m1 m2 : List Th} {v1 v2 : Value} (h : Two w W1 W2 wr c1 d1 q1 c2 d2 q2 p1 p2 m1 m2 v1 v2) (hb : Below wr.heap.size wr w2) : Two w W1 W2 w2 c1 d1 q1 c2 d2 q2 p1 p2 m1 m2 v1 v2 :=
  ⟨h.up.below hb, h.dn.below hb, h.ne, h.apart, th h.kept (Nat.le_refl _) hb⟩
theorem Two.up1 {w W1 W2 wr w2 : World} {c1 d1 q1 c2 d2 q2 p1 p2 p' : Nat} {m1 m2 m' : List Th} {v1 v2 : Value} (h : Two w W1 W2 wr c1 d1 q1 c2 d2 q2 p1 p2 m1 m2 v1 v2) (hcl : Clo 25 c2 d2 W2) (ha : After (E1 gUp c1 d1 W1) wr w.heap.size q1 v1 m' p' w2) : ∃ v', Two w W1 W2 w2 c1 d1 q1 c2 d2 q2 p' p2 m' m2 v' v2 := by
  obtain ⟨v', hq, hk, ho⟩ := ha
  refine ⟨v', hq, QS.other h.dn hcl h.up h.ne.symm (fun o h1 h2 => h.apart o h2 h1) hk, h.ne, fun g hg e => ?_, h.kept.trans (kept_below h.up hk)⟩
  rcases ho with ho | ⟨g', ho, hge⟩
  · exact h.apart g (by rw [← ho]; exact hg) e
  · rw [ho] at hg
    obtain rfl := Option.some.inj hg
    have := (Q1.QS.own h.dn e).2.1
    omega
theorem Two.dn1 {w W1 W2 wr w2 : World} {c1 d1 q1 c2 d2 q2 p1 p2 p' : Nat} {m1 m2 m' : List Th} {v1 v2 : Value} (h : Two w W1 W2 wr c1 d1 q1 c2 d2 q2 p1 p2 m1 m2 v1 v2) (hcl : Clo 10 c1 d1 W1) (ha : After (E1 gDn c2 d2 W2) wr w.heap.size q2 v2 m' p' w2) : ∃ v', Two w W1 W2 w2 c1 d1 q1 c2 d2 q2 p1 p' m1 m' v1 v' := by
  obtain ⟨v', hq, hk, ho⟩ := ha
  refine ⟨v', QS.other h.up hcl h.dn h.ne (fun o h1 h2 => h.apart o h1 h2) hk, hq, h.ne, fun g hg e => ?_, h.kept.trans (kept_below h.dn hk)⟩
  rcases ho with ho | ⟨g', ho, hge⟩
  · exact h.apart g hg (by rw [← ho]; exact e)
  · rw [ho] at e
    obtain rfl := Option.some.inj e
    have := (Q1.QS.own h.up hg).2.1
    omega
/-- A row of things grows: a queue is as it was. -/
theorem qs_grown {g : Int × Int → Int × Int → Int} {f c d : Nat} {W0 wr w2 : World} {base base2 qb p r : Nat} {m : List Th} {v vr : Value} {xs : List Value} (h : QS (E1 g c d W0) wr base qb v m p) (hcl : Clo f c d W0) (hr : wr.ownsRow base2 28 2 vr r xs) (hg : wr.grownBy w2 vr.ownBlock) : QS (E1 g c d W0) w2 base qb v m p := by
  have hk : Kept (fun q => vr.ownBlock = some q) wr w2 := (Kept.refl _ wr).grown hg (fun q e => .inr e)
  refine QS.keep h hk (fun e => ?_) (fun g hg e => ?_) (fun q hq e => ?_)
  · obtain ⟨_, _, cur, k1⟩ := own_block hr e
    obtain ⟨_, _, cur2, k2⟩ := Q1.QS.bx h
    rw [k1] at k2; simp at k2
  · obtain ⟨_, _, cur, k1⟩ := own_block hr e
    obtain ⟨_, _, cur2, k2⟩ := Q1.QS.own h hg
    rw [k1] at k2; simp at k2
  · obtain ⟨_, _, cur, k1⟩ := own_block hr e
    obtain ⟨xs, q1, _⟩ := h
    have hq' := q1.snap q hq
    rw [k1] at hq'
    rcases hq with e2 | e2
    · have h8 := hcl.hc
      rw [← e2] at h8
      have h9 := hq'.trans h8
      simp at h9
    · have h8 := hcl.hd
      rw [← e2] at h8
      have h9 := hq'.trans h8
      simp at h9
theorem Two.grown {w W1 W2 wr w2 : World} {c1 d1 q1 c2 d2 q2 p1 p2 r : Nat} {m1 m2 : List Th} {v1 v2 vr : Value} {xs : List Value} (h : Two w W1 W2 wr c1 d1 q1 c2 d2 q2 p1 p2 m1 m2 v1 v2) (hc1 : Clo 10 c1 d1 W1) (hc2 : Clo 25 c2 d2 W2) (hr : wr.ownsRow w.heap.size 28 2 vr r xs) (hg : wr.grownBy w2 vr.ownBlock) : Two w W1 W2 w2 c1 d1 q1 c2 d2 q2 p1 p2 m1 m2 v1 v2 :=
  ⟨qs_grown h.up hc1 hr hg, qs_grown h.dn hc2 hr hg, h.ne, h.apart, h.kept.grown hg h.kept.size (fun _ e => (own_block hr e).1)⟩
def t2 (x : Th) : T2 := (x.1, x.2.1)
/-- The rounds that take from both. -/
structure TakeT (w W1 W2 wr : World) (c1 d1 q1 c2 d2 q2 n : Nat) (l : List Int) (k : Nat) (ta tb m1 m2 : List Th) (v1 v2 va vb : Value) : Prop where
  two : Two w W1 W2 wr c1 d1 q1 c2 d2 q2 n n m1 m2 v1 v2
  ha : HalfG gUp l n ta m1
  hb : HalfG gDn l n tb m2
  la : ta.length = k
  lb : tb.length = k
  ra : wr.ownsRow w.heap.size 28 2 va k (cells2 (ta.map t2))
  rb : wr.ownsRow w.heap.size 28 2 vb k (cells2 (tb.map t2))
  ap : ∀ g, va.ownBlock = some g → vb.ownBlock ≠ some g
set_option maxHeartbeats 4000000 in
set_option maxRecDepth 10000 in
theorem turns_far (v : Value) (l : List Int) (w : World) (h : IT w v l) (hl : 60 < l.length) : Calls Try.prog 8 #[v] w fun e w' => e = .returned (.bool true) ∧ Below w.heap.size w w' := by
  obtain ⟨a, cp, rfl, h1, h2, _⟩ := h
  obtain ⟨n, hn⟩ : ∃ n, n = l.length := ⟨_, rfl⟩
  have hw0 : wrap64 (n : Int) = n := by unfold maxLen at h2; unfold wrap64; omega
  rw [← hn] at hl ⊢
  have k0 : (60 : Int) < n := by omega
  clear h1 h2 hn hl
  go_enter Try.func8, Try.ntmps8
  go_wp2_with fail
  refine (new_any 10 gUp _).mono ?_
  rintro e w1 ⟨c, d, qb, rfl, hb1, hqb, hcl, hqs⟩
  have HB1 := Lib.hid hb1
  clear hb1 hqb hcl hqs
  go_wp2_with fail
  refine (new_any 25 gDn _).mono ?_
  rintro e w2 ⟨c2, d2, qb2, rfl, hb2, hqb2, hcl2, hqs2⟩
  have HB2 := Lib.hid (th HB1.out (Nat.le_refl _) hb2)
  clear hb2 hqb2 hcl2 hqs2
  go_wp2_with fail
  refine (awake_any _).mono ?_
  rintro e w3 ⟨rfl, hb3⟩
  have HB3 := Lib.hid (th HB2.out (Nat.le_refl _) hb3)
  clear hb3
  go_wp2_with fail
  go_ret
  exact ⟨rfl, HB3.out⟩
set_option maxHeartbeats 4000000 in
set_option maxRecDepth 10000 in
theorem turns_near (v : Value) (l : List Int) (w : World) (h : IT w v l) (hl : l.length ≤ 60) : Calls Try.prog 8 #[v] w fun e w' => e = .returned (.bool true) ∧ Below w.heap.size w w' := by
  obtain ⟨i0, hi, hz0, hz1, hz2⟩ := info_parts infoTh
  have hse : Try.prog.underlying 31 = some (.slice 28) := Try.underlying31
  obtain ⟨a, cp, rfl, h1, h2, h3⟩ := h
  obtain ⟨n, hn⟩ : ∃ n, n = l.length := ⟨_, rfl⟩
  have HN := Lib.hid hn
  rw [← hn] at hl ⊢
  have hw0 : wrap64 (n : Int) = n := by unfold wrap64; omega
  have k0 : ¬ (60 : Int) < n := by omega
  have k1 : (n : Int) ≤ 60 := by omega
  have HW1 : Hid (∀ k : Nat, k < n → wrap64 ((k : Int) + 1) = (k : Int) + 1) := Lib.hid (fun k hk => by unfold wrap64; omega)
  have HAR : Hid (∀ j : Nat, j < n → ∃ g o, a = some ⟨g, o, none⟩ ∧ ∀ W, Below w.heap.size w W → ∀ i : Nat, i < n → W.cell? ⟨g, o + i, none⟩ = some (.int .i64 (l.getD i 0))) := Lib.hid (fun j hj => by
    obtain ⟨g, o, e, h5⟩ := h3 (by omega)
    exact ⟨g, o, e, fun W hb i hi => by
      have h6 := h5 i (l.getD i 0) (by rw [List.getD_eq_getElem?_getD, List.getElem?_eq_getElem (by omega)]; rfl)
      exact (hb.cell (blk_of_cell h6)).trans h6⟩)
  have HLN := Lib.hid hl
  have HAW := Lib.hid (fun W => awake_any W)
  clear h1 h2 h3 hl hn
  go_enter Try.func8, Try.ntmps8
  go_wp2_with fail
  refine (new_any 10 gUp _).mono ?_
  rintro e w1 ⟨c1, d1, q1, rfl, hb1, hq1, hcl1, hqs1⟩
  have HC1 := Lib.hid hcl1
  have HS1 := Lib.hid hqs1
  have HB1 := Lib.hid hb1
  have HQ1 := Lib.hid (Q1.QS.bx (hqs1 _ (Nat.le_refl _))).2.1
  clear hb1 hq1 hcl1 hqs1
  go_wp2_with fail
  refine (new_any 25 gDn _).mono ?_
  rintro e w2 ⟨c2, d2, q2, rfl, hb2, hq2, hcl2, hqs2⟩
  have HC2 := Lib.hid hcl2
  have HT0 : Hid (Two w w1 w2 w2 c1 d1 q1 c2 d2 q2 0 0 [] [] (.slice none 0 0) (.slice none 0 0)) := Lib.hid ⟨(HS1.out _ (Nat.le_refl _)).below hb2, hqs2 _ HB1.out.size, by have := HQ1.out; omega, (fun g e => by cases e), th HB1.out (Nat.le_refl _) hb2⟩
  clear hb2 hq2 hcl2 hqs2
  go_wp2_with fail
  go_loopw [7] (fun i wr => ∃ (k : Nat), i = .int .i64 k ∧ k ≤ n ∧ Hid (Two w w1 w2 wr c1 d1 q1 c2 d2 q2 0 0 [] [] (.slice none 0 0) (.slice none 0 0)) ∧ Hid (∀ i j : Nat, i < j → j < k → l.getD i 0 ≠ l.getD j 0)) (fun i _ => n - (intOf i).toNat)
  case atStart => exact ⟨0, rfl, by omega, HT0, Lib.hid (fun i j _ h => by omega)⟩
  case round =>
    clear HT0
    obtain ⟨k, rfl, hk, HI, HD⟩ := hrel
    by_cases hlt : k < n
    · have hd1 : decide ((k : Int) < n) = true := by simp; omega
      have HKN := Lib.hid hlt
      obtain ⟨g, o, rfl, h5⟩ := HAR.out k hlt
      have H5 := Lib.hid h5
      clear hlt hk h5
      go_wp2_with fail
      go_loopw [8] (fun i wr => ∃ (j : Nat), i = .int .i64 j ∧ j ≤ k ∧ Hid (Two w w1 w2 wr c1 d1 q1 c2 d2 q2 0 0 [] [] (.slice none 0 0) (.slice none 0 0)) ∧ Hid (∀ i : Nat, i < j → l.getD i 0 ≠ l.getD k 0)) (fun i _ => k - (intOf i).toNat)
      case atStart => exact ⟨0, rfl, by omega, HI, Lib.hid (fun i h => by omega)⟩
      case round =>
        clear HI
        obtain ⟨j, rfl, hj, HI, HE⟩ := hrel
        by_cases hjk : j < k
        · have aj := H5.out wr HI.out.kept j (by have := HKN.out; omega)
          have ak := H5.out wr HI.out.kept k HKN.out
          obtain ⟨x, hx⟩ : ∃ x, x = l.getD j 0 := ⟨_, rfl⟩
          obtain ⟨y, hy⟩ : ∃ y, y = l.getD k 0 := ⟨_, rfl⟩
          rw [← hx] at aj
          rw [← hy] at ak
          have HXY : Hid (x ≠ y → l.getD j 0 ≠ l.getD k 0) := Lib.hid (fun h => by rw [← hx, ← hy]; exact h)
          have hj0 : (0 : Int) ≤ j := by omega
          have hj1 : (j : Int) < k := by omega
          have hj2 : decide ((j : Int) < k) = true := by simp; omega
          have hj3 : (j : Int) < n := by have := HKN.out; omega
          have hk0 : (0 : Int) ≤ k := by omega
          have hk1 : (k : Int) < n := by have := HKN.out; omega
          have HJK := Lib.hid hjk
          clear hx hy hj hjk
          by_cases he : x = y
          · subst he
            go_wp2_with fail
            go_quiet (fail)
            go_wp2_with (go_at_call 11; refine (HAW.out _).mono ?_; rintro e w5 ⟨rfl, hb5⟩)
            go_ret
            exact ⟨rfl, th (HI.out.kept.trans (drewN_blw _ _)) (Nat.le_refl _) hb5⟩
          · have he1 : (y == x) = false := by rw [beq_eq_false_iff_ne]; exact Ne.symm he
            have he2 : (x == y) = false := by rw [beq_eq_false_iff_ne]; exact he
            have he3 : ¬ y = x := fun e => he e.symm
            have HNE := Lib.hid he
            go_wp2_with fail
            go_quiet (fail)
            go_wp2_with fail
            go_roundw
            case rel => exact ⟨j + 1, by (try rw [HW1.out j (by have := HJK.out; have := HKN.out; omega)]); go_num, by have := HJK.out; omega, Lib.hid (HI.out.below (drewN_blw _ _)), Lib.hid (fun i hi => by
              by_cases e : i = j
              · rw [e]; exact HXY.out HNE.out
              · exact HE.out i (by omega))⟩
            case measure => (try rw [HW1.out j (by have := HJK.out; have := HKN.out; omega)]); have := HJK.out; simp only [intOf]; omega
        · have hj2 : decide ((j : Int) < k) = false := by simp; omega
          have hj3 : decide (j < k) = false := by simp; omega
          have HJ : Hid (j = k) := Lib.hid (by omega)
          clear hjk hj
          go_wp2_with fail
          go_roundw
          case rel => exact ⟨k + 1, by (try rw [HW1.out k HKN.out]); go_num, by have := HKN.out; omega, HI, Lib.hid (fun i i2 h1 h2 => by
            by_cases e : i2 = k
            · rw [e]; exact HE.out i (by have := HJ.out; omega)
            · exact HD.out i i2 h1 (by omega))⟩
          case measure => (try rw [HW1.out k HKN.out]); have := HKN.out; simp only [intOf]; omega
    · have hd1 : decide ((k : Int) < n) = false := by simp; omega
      have hd2 : decide (k < n) = false := by simp; omega
      obtain rfl : n = k := by omega
      have HI9 : Hid (Two w w1 w2 wr c1 d1 q1 c2 d2 q2 0 0 (thR l 0) (thR l 0) (.slice none 0 0) (.slice none 0 0)) := HI
      clear hlt hk HI
      go_wp2_with fail
      go_loopw [9] (fun i wx => ∃ (k : Nat) (v1 v2 : Value), i = .int .i64 k ∧ k ≤ n ∧ Hid (Two w w1 w2 wx c1 d1 q1 c2 d2 q2 k k (thR l k) (thR l k) v1 v2)) (fun i _ => n - (intOf i).toNat)
      case atStart => exact ⟨0, _, _, rfl, by omega, HI9⟩
      case round =>
        clear HI9
        obtain ⟨k, v1, v2, rfl, hk, HI⟩ := hrel
        by_cases hlt : k < n
        · have HKN := Lib.hid hlt
          have hd1 : decide ((k : Int) < n) = true := by simp; omega
          have hi0 : (0 : Int) ≤ k := by omega
          have hi1 : (k : Int) < n := by omega
          obtain ⟨g, o, rfl, h5⟩ := HAR.out k hlt
          have H5 := Lib.hid h5
          have ak := h5 wr HI.out.kept k hlt
          obtain ⟨y, hy⟩ : ∃ y, y = l.getD k 0 := ⟨_, rfl⟩
          have HY := Lib.hid hy
          rw [← hy] at ak
          have HP1 := Lib.hid (put1 ordU ord_up HC1.out HI.out.up (by rw [thR_len]; have := HLN.out; omega) (by have := HLN.out; omega) y (k : Int))
          clear hlt hk h5 hy
          go_wp2_with fail
          (with_reducible refine HP1.out.mono ?_)
          rintro e w3 ⟨rfl, ha⟩
          obtain ⟨v1', ht⟩ := HI.out.up1 HC2.out ha
          have HT := Lib.hid ht
          have ak := H5.out w3 ht.kept k HKN.out
          rw [← HY.out] at ak
          have HP2 := Lib.hid (put1 ordD ord_dn HC2.out ht.dn (by rw [thR_len]; have := HLN.out; have := HKN.out; omega) (by have := HLN.out; have := HKN.out; omega) y (k : Int))
          clear ht ha
          go_wp2_with fail
          (with_reducible refine HP2.out.mono ?_)
          rintro e w4 ⟨rfl, ha⟩
          obtain ⟨v2', ht⟩ := HT.out.dn1 HC1.out ha
          have HT2 : Hid (Two w w1 w2 w4 c1 d1 q1 c2 d2 q2 (k + 1) (k + 1) (thR l (k + 1)) (thR l (k + 1)) v1' v2') := Lib.hid (by
            rw [HY.out] at ht
            exact ht)
          clear ht ha
          go_wp2_with fail
          go_roundw
          case rel => exact ⟨k + 1, v1', v2', by (try rw [HW1.out k HKN.out]); go_num, by have := HKN.out; omega, HT2⟩
          case measure => (try rw [HW1.out k HKN.out]); have := HKN.out; simp only [intOf]; omega
        · have hd1 : decide ((k : Int) < n) = false := by simp; omega
          have hd2 : decide (k < n) = false := by simp; omega
          obtain rfl : n = k := by omega
          have HIT : Hid (TakeT w w1 w2 wr c1 d1 q1 c2 d2 q2 n l 0 [] [] (thR l n) (thR l n) v1 v2 (.slice none 0 0) (.slice none 0 0)) := Lib.hid ⟨HI.out, HalfG.start _ _ _, HalfG.start _ _ _, rfl, rfl, World.ownsRow_nil _ _ _ _, World.ownsRow_nil _ _ _ _, (fun g e => by cases e)⟩
          clear hlt hk HI
          go_wp2_with fail
          go_loopw [10, 11, 12] (fun va vb i wx => ∃ (k : Nat) (ta tb m1 m2 : List Th) (v1 v2 : Value) (aa : Option Addr) (ac : Nat) (ba : Option Addr) (bc : Nat), i = .int .i64 k ∧ k ≤ n ∧ va = .slice aa k ac ∧ vb = .slice ba k bc ∧ Hid (TakeT w w1 w2 wx c1 d1 q1 c2 d2 q2 n l k ta tb m1 m2 v1 v2 (.slice aa k ac) (.slice ba k bc))) (fun _ _ i _ => n - (intOf i).toNat)
          case atStart => exact ⟨0, _, _, _, _, v1, v2, none, 0, none, 0, rfl, by omega, rfl, rfl, HIT⟩
          case round =>
            clear HIT v1 v2
            obtain ⟨k, ta, tb, m1, m2, v1, v2, aa, ac, ba, bc, rfl, hk, rfl, rfl, HI⟩ := hrel
            by_cases hlt : k < n
            · have HKN := Lib.hid hlt
              have hd1 : decide ((k : Int) < n) = true := by simp; omega
              have hi1 : (k : Int) < n := by omega
              have HM : Hid (m1.length = n - k ∧ m2.length = n - k ∧ m1 ≠ [] ∧ m2 ≠ []) := Lib.hid (by
                have a1 := HI.out.ha.len
                have a2 := HI.out.hb.len
                have a3 := HI.out.la
                have a4 := HI.out.lb
                refine ⟨by omega, by omega, fun e => by (rw [e] at a1; simp at a1; omega), fun e => by (rw [e] at a2; simp at a2; omega)⟩)
              have HT1 := Lib.hid (take1 ordU ord_up HC1.out HI.out.two.up HM.out.2.2.1 (by rw [HM.out.1]; have := HLN.out; omega))
              clear hlt hk
              go_wp2_with fail
              refine HT1.out.mono ?_
              rintro e w3 ⟨x, r1, hpr1, hmin1, rfl, v3, hq3, hk3, ho3⟩
              obtain ⟨u1, ht3⟩ := HI.out.two.up1 HC2.out ⟨v3, hq3, hk3, ho3⟩
              have hra3 := row_aside HI.out.two.up HI.out.ra hk3
              have hrb3 := row_aside HI.out.two.up HI.out.rb hk3
              have HH1 := Lib.hid (HI.out.ha.next hpr1 hmin1.1 hmin1.2)
              obtain ⟨w4, hw4⟩ : ∃ w4, w4 = w3.alloc (.cells #[.int .i64 x.1, .int .i64 x.2.1] 28) := ⟨_, rfl⟩
              have hb4 : Below w3.heap.size w3 w4 := by rw [hw4]; exact al (Below.refl _ _) (Nat.le_refl _) _
              have hg4 : w4.heap[w3.heap.size]? = some (.cells #[.int .i64 x.1, .int .i64 x.2.1] 28 (0, 0)) := by rw [hw4]; exact heap_new0 _ _
              have ht4 := ht3.below hb4
              have hra4 := own_keep hra3 (fun g hg => hb4.block g (own_low hra3 g hg))
              have hrb4 := own_keep hrb3 (fun g hg => hb4.block g (own_low hrb3 g hg))
              have HXA : Hid (Value.ownBlock (.slice aa k ac) ≠ some w3.heap.size ∧ Value.ownBlock (.slice ba k bc) ≠ some w3.heap.size) := Lib.hid ⟨fun e => by have := own_low hra3 _ e; omega, fun e => by have := own_low hrb3 _ e; omega⟩
              have HT4 := Lib.hid ht4
              have HRA4 := Lib.hid hra4
              have HRB4 := Lib.hid hrb4
              have HG4 := Lib.hid hg4
              have HT2 := Lib.hid (take1 ordD ord_dn HC2.out ht4.dn HM.out.2.2.2 (by rw [HM.out.2.1]; have := HLN.out; omega))
              clear hpr1 hmin1 hq3 hk3 ho3 ht3 hra3 hrb3 hb4 hg4 ht4 hra4 hrb4
              go_upto_region 24 with fail
              rw [← hw4]
              clear hw4
              go_wp2_with fail
              refine HT2.out.mono ?_
              rintro e w5 ⟨y, r2, hpr2, hmin2, rfl, v5, hq5, hk5, ho5⟩
              obtain ⟨u2, ht5⟩ := HT4.out.dn1 HC1.out ⟨v5, hq5, hk5, ho5⟩
              have hra5 := row_aside HT4.out.dn HRA4.out hk5
              have hrb5 := row_aside HT4.out.dn HRB4.out hk5
              have hg5 := kept_aside HT4.out.dn hk5 HG4.out (by decide) (by decide)
              have HH2 := Lib.hid (HI.out.hb.next hpr2 hmin2.1 hmin2.2)
              obtain ⟨w6, hw6⟩ : ∃ w6, w6 = w5.alloc (.cells #[.int .i64 y.1, .int .i64 y.2.1] 28) := ⟨_, rfl⟩
              have hb6 : Below w5.heap.size w5 w6 := by rw [hw6]; exact al (Below.refl _ _) (Nat.le_refl _) _
              have hg6 : w6.heap[w5.heap.size]? = some (.cells #[.int .i64 y.1, .int .i64 y.2.1] 28 (0, 0)) := by rw [hw6]; exact heap_new0 _ _
              have hx6 := (hb6.block _ (Array.getElem?_eq_some_iff.1 hg5).1).trans hg5
              have x0 : w6.cell? ⟨w3.heap.size, 0, none⟩ = some (.int .i64 x.1) := by rw [Lib.cell_of_heap hx6]; rfl
              have x1 : w6.cell? ⟨w3.heap.size, 1, none⟩ = some (.int .i64 x.2.1) := by rw [Lib.cell_of_heap hx6]; rfl
              have y0 : w6.cell? ⟨w5.heap.size, 0, none⟩ = some (.int .i64 y.1) := by rw [Lib.cell_of_heap hg6]; rfl
              have y1 : w6.cell? ⟨w5.heap.size, 1, none⟩ = some (.int .i64 y.2.1) := by rw [Lib.cell_of_heap hg6]; rfl
              have HYA : Hid (Value.ownBlock (.slice aa k ac) ≠ some w5.heap.size ∧ Value.ownBlock (.slice ba k bc) ≠ some w5.heap.size) := Lib.hid ⟨fun e => by have := own_low hra5 _ e; omega, fun e => by have := own_low hrb5 _ e; omega⟩
              have HYL : Hid (w5.heap.size < w6.heap.size) := Lib.hid (Array.getElem?_eq_some_iff.1 hg6).1
              have HY6 := Lib.hid (And.intro y0 y1)
              have HT6 := Lib.hid (ht5.below hb6)
              have HRA6 := Lib.hid (own_keep hra5 (fun g hg => hb6.block g (own_low hra5 g hg)))
              have HRB6 := Lib.hid (own_keep hrb5 (fun g hg => hb6.block g (own_low hrb5 g hg)))
              have HKL : Hid (k ≤ 60) := Lib.hid (by have := HLN.out; have := HKN.out; omega)
              clear hpr2 hmin2 hq5 hk5 ho5 ht5 hra5 hrb5 hg5 hb6 hg6 hx6
              go_upto_region 25 with fail
              rw [← hw6]
              clear hw6
              go_wp2_with (first | (at_builtin; refine wpList_append_own_at _ rfl _ _ 31 rfl w.heap.size 28 i0 (.agg #[.int .i64 0, .int .i64 0]) 2 16 hse hi hz0 hz1 hz2 rfl (by decide) _ _ _ rfl (HRA6.out.alloc _) ⟨w6.heap.size, 0, none⟩ 1 1 [.int .i64 x.1, .int .i64 x.2.1] rfl rfl (cell_two_new _ _ _ _) (by simp [Value.oneCell']) (by unfold maxLen; have := HKL.out; omega) (by have := HKL.out; omega) (by have := HT6.out.kept.size; simp; omega) ?_; intro v7 w7 hown7 hgrow7 _ hat7; obtain ⟨a7, c7, rfl, _, _⟩ := own_at hown7; have HO7 := Lib.hid hown7; have HG7 := Lib.hid hgrow7; have HA7 := Lib.hid hat7; clear hown7 hgrow7 hat7; have y0 : w7.cell? ⟨w5.heap.size, 0, none⟩ = some (.int .i64 y.1) := HG7.out.cell ((World.cell?_alloc_lt _ _ _ HYL.out).trans HY6.out.1) (fun e => HYA.out.1 e.symm); have y1 : w7.cell? ⟨w5.heap.size, 1, none⟩ = some (.int .i64 y.2.1) := HG7.out.cell ((World.cell?_alloc_lt _ _ _ HYL.out).trans HY6.out.2) (fun e => HYA.out.1 e.symm); have HRB7 := Lib.hid ((HRB6.out.alloc (.cells #[.int .i64 x.1, .int .i64 x.2.1] 28)).kept HG7.out (by cases hbo : Value.ownBlock (.slice ba k bc) with | none => exact .inl rfl | some o => exact .inr (fun e => HI.out.ap o e.symm hbo)))) | (at_builtin; refine wpList_append_own_at _ rfl _ _ 31 rfl w.heap.size 28 i0 (.agg #[.int .i64 0, .int .i64 0]) 2 16 hse hi hz0 hz1 hz2 rfl (by decide) _ _ _ rfl (HRB7.out.alloc _) ⟨w7.heap.size, 0, none⟩ 1 1 [.int .i64 y.1, .int .i64 y.2.1] rfl rfl (cell_two_new _ _ _ _) (by simp [Value.oneCell']) (by unfold maxLen; have := HKL.out; omega) (by have := HKL.out; omega) (by have := HT6.out.kept.size; have := HG7.out.size; simp at *; omega) ?_; intro v8 w8 hown8 hgrow8 _ hat8; obtain ⟨a8, c8, rfl, _, _⟩ := own_at hown8))
              have hna : ∀ g, Value.ownBlock (.slice a7 (k + 1) c7) = some g → Value.ownBlock (.slice ba k bc) ≠ some g := fun g hg e => by
                rcases HA7.out with h9 | h9
                · exact HI.out.ap g (h9.symm.trans hg) e
                · rw [h9] at hg
                  have h10 := own_low HRB6.out g e
                  have h11 := Option.some.inj hg
                  simp at h11
                  omega
              have HFIN : Hid (TakeT w w1 w2 w8 c1 d1 q1 c2 d2 q2 n l (k + 1) (ta ++ [x]) (tb ++ [y]) r1 r2 u1 u2 (.slice a7 (k + 1) c7) (.slice a8 (k + 1) c8)) := Lib.hid (by
                refine ⟨(((HT6.out.below (al (Below.refl _ _) (Nat.le_refl _) _)).grown HC1.out HC2.out (HRA6.out.alloc _) HG7.out).below (al (Below.refl _ _) (Nat.le_refl _) _)).grown HC1.out HC2.out (HRB7.out.alloc _) hgrow8, HH1.out, HH2.out, by rw [List.length_append, HI.out.la]; rfl, by rw [List.length_append, HI.out.lb]; rfl, ?_, ?_, fun g hg e => ?_⟩
                · rw [List.map_append, cells2_append]
                  exact (HO7.out.alloc _).kept hgrow8 (by
                    cases hao : Value.ownBlock (.slice a7 (k + 1) c7) with
                    | none => exact .inl rfl
                    | some o => exact .inr (fun e => hna o hao e.symm))
                · rw [List.map_append, cells2_append]
                  exact hown8
                · rcases hat8 with h9 | h9
                  · exact hna g hg (h9.symm.trans e)
                  · rw [h9] at e
                    have h10 := own_low HO7.out g hg
                    have h11 := Option.some.inj e
                    simp at h11
                    omega)
              go_roundw
              case rel => exact ⟨k + 1, _, _, _, _, u1, u2, a7, c7, a8, c8, by (try rw [HW1.out k HKN.out]); go_num, by have := HKN.out; omega, rfl, rfl, HFIN⟩
              case measure => (try rw [HW1.out k HKN.out]); have := HKN.out; simp only [intOf]; omega
            · have hd1 : decide ((k : Int) < n) = false := by simp; omega
              have hd2 : decide (k < n) = false := by simp; omega
              obtain rfl : n = k := by omega
              have hm1 : m1 = [] := List.eq_nil_of_length_eq_zero (by have := HI.out.ha.len; have := HI.out.la; omega)
              have hm2 : m2 = [] := List.eq_nil_of_length_eq_zero (by have := HI.out.hb.len; have := HI.out.lb; omega)
              subst hm1 hm2
              have HTR := Lib.hid (turn_round HI.out.ha HI.out.hb HD.out)
              have HRA : Hid (RT wr (.slice aa n ac) (ta.map t2)) := Lib.hid (by
                have h9 := HI.out.ra
                have e : n = (ta.map t2).length := by rw [List.length_map, HI.out.la]
                rw [e] at h9
                have h10 := RT.of_own h9
                rw [← e] at h10
                exact h10)
              have HRB : Hid (RT wr (.slice ba n bc) (tb.map t2)) := Lib.hid (by
                have h9 := HI.out.rb
                have e : n = (tb.map t2).length := by rw [List.length_map, HI.out.lb]
                rw [e] at h9
                have h10 := RT.of_own h9
                rw [← e] at h10
                exact h10)
              have HTW := Lib.hid HI.out.two
              have HLA := Lib.hid HI.out.la
              have HLB := Lib.hid HI.out.lb
              have HQA : Hid (∀ W, Below wr.heap.size wr W → Calls Try.prog 13 #[.pointer (some ⟨q1, 0, none⟩)] W fun e w' => e = .returned (.int .i64 0) ∧ w' = W) := Lib.hid (fun W hW => qlen_any (E1 gUp c1 d1 w1) W w.heap.size q1 n v1 [] (HTW.out.below hW).up)
              have HQB : Hid (∀ W, Below wr.heap.size wr W → Calls Try.prog 13 #[.pointer (some ⟨q2, 0, none⟩)] W fun e w' => e = .returned (.int .i64 0) ∧ w' = W) := Lib.hid (fun W hW => qlen_any (E1 gDn c2 d2 w2) W w.heap.size q2 n v2 [] (HTW.out.below hW).dn)
              have HB0 := Lib.hid (Below.refl wr.heap.size wr)
              clear hlt hk HI hd1 hd2
              go_wp2_with fail
              go_loopw [17] (fun i wz => ∃ (k : Nat), i = .int .i64 k ∧ k ≤ n ∧ Hid (Below wr.heap.size wr wz)) (fun i _ => n - (intOf i).toNat)
              case atStart => exact ⟨0, rfl, by omega, HB0⟩
              case round =>
                obtain ⟨k, rfl, hk, HB⟩ := hrel
                by_cases hlt : k < n
                · have HKN := Lib.hid hlt
                  obtain ⟨n1, hn1⟩ : ∃ n1, n1 = n - 1 := ⟨_, rfl⟩
                  obtain ⟨t, ht⟩ : ∃ t, t = n1 - k := ⟨_, rfl⟩
                  obtain ⟨x, hx⟩ : ∃ x, ta[k]? = some x := ⟨_, List.getElem?_eq_getElem (by rw [HLA.out]; exact hlt)⟩
                  have hxb : tb[t]? = some x := by
                    have h9 := hx
                    rw [HTR.out, List.getElem?_reverse (by rw [HLB.out]; exact hlt), HLB.out] at h9
                    rw [ht, hn1]
                    exact h9
                  obtain ⟨a', c', e1, _, _, h5⟩ := HRA.out
                  obtain ⟨ga, oa, rfl, h6⟩ := h5 (by rw [List.length_map, HLA.out]; omega)
                  obtain ⟨b', c'', e2, _, _, h7⟩ := HRB.out
                  obtain ⟨gb, ob, rfl, h8⟩ := h7 (by rw [List.length_map, HLB.out]; omega)
                  simp only [Value.slice.injEq] at e1 e2
                  obtain ⟨rfl, -, rfl⟩ := e1
                  obtain ⟨rfl, -, rfl⟩ := e2
                  obtain ⟨k1', k2'⟩ := h6 k (t2 x) (by rw [List.getElem?_map, hx]; rfl)
                  obtain ⟨k3', k4'⟩ := h8 t (t2 x) (by rw [List.getElem?_map, hxb]; rfl)
                  have x0 : wr.cell? ⟨ga, oa + k * 2, none⟩ = some (.int .i64 (t2 x).1) := (HB.out.cell (blk_of_cell k1')).trans k1'
                  have x1 : wr.cell? ⟨ga, oa + k * 2 + 1, none⟩ = some (.int .i64 (t2 x).2) := (HB.out.cell (blk_of_cell k2')).trans k2'
                  have y0 : wr.cell? ⟨gb, ob + t * 2, none⟩ = some (.int .i64 (t2 x).1) := (HB.out.cell (blk_of_cell k3')).trans k3'
                  have y1 : wr.cell? ⟨gb, ob + t * 2 + 1, none⟩ = some (.int .i64 (t2 x).2) := (HB.out.cell (blk_of_cell k4')).trans k4'
                  obtain ⟨u, hu⟩ : ∃ u, u = (t2 x).1 := ⟨_, rfl⟩
                  obtain ⟨v, hv⟩ : ∃ v, v = (t2 x).2 := ⟨_, rfl⟩
                  rw [← hu] at x0 y0
                  rw [← hv] at x1 y1
                  have hi0 : (0 : Int) ≤ k := by omega
                  have hi1 : (k : Int) < n := by omega
                  have hd1 : decide ((k : Int) < n) = true := by simp; omega
                  have ht0 : (0 : Int) ≤ t := by omega
                  have ht1 : (t : Int) < n := by omega
                  have HWA : Hid (wrap64 ((n : Int) - 1) = (n1 : Int) ∧ wrap64 ((n1 : Int) - (k : Int)) = (t : Int)) := Lib.hid (by have := HLN.out; constructor <;> (unfold wrap64; omega))
                  have HWB : Hid (IntKind.i64.wrap ((n : Int) - 1) = (n1 : Int) ∧ IntKind.i64.wrap ((n1 : Int) - (k : Int)) = (t : Int)) := Lib.hid (by have := HLN.out; exact ⟨(wrap_small _ (by omega) (by omega)).trans (by omega), (wrap_small _ (by omega) (by omega)).trans (by omega)⟩)
                  clear hlt hk hx hxb h5 h6 h7 h8 k1' k2' k3' k4' hn1 ht hu hv
                  have hwa := HWA.out.1
                  have hwb := HWA.out.2
                  have hwc := HWB.out.1
                  have hwd := HWB.out.2
                  go_wp2_with fail
                  go_quiet (fail)
                  go_wp2_with fail
                  go_roundw
                  case rel => exact ⟨k + 1, by (try rw [HW1.out k HKN.out]); go_num, by have := HKN.out; omega, Lib.hid (HB.out.trans (drewN_blw _ _))⟩
                  case measure => (try rw [HW1.out k HKN.out]); have := HKN.out; clear hwa hwb hwc hwd; simp only [intOf]; omega
                · have hd1 : decide ((k : Int) < n) = false := by simp; omega
                  have hd2 : decide (k < n) = false := by simp; omega
                  have HKP := Lib.hid HTW.out.kept
                  clear hlt hk
                  go_wp2_with fail
                  refine (HQA.out _ HB.out).mono ?_
                  rintro e w4 ⟨rfl, rfl⟩
                  go_wp2_with fail
                  refine (HQB.out _ HB.out).mono ?_
                  rintro e w5 ⟨rfl, rfl⟩
                  go_wp2_with (go_at_call 11; refine (HAW.out _).mono ?_; rintro e w6 ⟨rfl, hb6⟩)
                  go_ret
                  exact ⟨rfl, th (th HKP.out (Nat.le_refl _) HB.out) (Nat.le_refl _) hb6⟩
end Go.Proofs.Ytodjfebceljjgaa.U
