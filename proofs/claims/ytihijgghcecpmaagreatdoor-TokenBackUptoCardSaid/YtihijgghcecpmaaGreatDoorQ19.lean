/- The law's own small functions of layer 3: Attrs. -/
import Derived.Test.YtihijgghcecpmaaGreatDoorQ10
import Derived.Deep.QuietTactic
import Derived.BigQuiet
namespace Go.Proofs.YtihijgghcecpmaaGreatDoor.U
open Go.RowKit Go.Shelf

set_option maxHeartbeats 2000000 in
theorem sameAttrs_any (x y : List (List UInt8 × List UInt8)) (v v' : Value) (w : World) (hv : AtRow w v x.length 2 (attrCells x)) (hv' : AtRow w v' y.length 2 (attrCells y)) (hl : x.length ≤ 100000) :
    Calls Tryz.prog 25 #[v, v'] w fun e w' => e = .returned (.bool (decide (x = y))) ∧ Below w.heap.size w w' := by
  obtain ⟨a, cap, rfl, hc, _, hx⟩ := hv
  obtain ⟨a', cap', rfl, hc', _, hx'⟩ := hv'
  by_cases hxy : x.length = y.length
  · obtain ⟨g, off, hag, hcell⟩ : ∃ g off, (0 < x.length → a = some ⟨g, off, none⟩) ∧ ∀ j u, (attrCells x)[j]? = some u → w.cell? ⟨g, off + j, none⟩ = some u := by
      by_cases h0 : 0 < x.length
      · obtain ⟨g, off, h1, h2⟩ := hx h0
        exact ⟨g, off, fun _ => h1, h2⟩
      · refine ⟨0, 0, fun h => absurd h h0, fun j u hu => ?_⟩
        have : (attrCells x).length = 0 := by rw [attrCells_len]; omega
        rw [List.eq_nil_of_length_eq_zero this] at hu
        cases hu
    obtain ⟨g', off', hag', hcell'⟩ : ∃ g off, (0 < y.length → a' = some ⟨g, off, none⟩) ∧ ∀ j u, (attrCells y)[j]? = some u → w.cell? ⟨g, off + j, none⟩ = some u := by
      by_cases h0 : 0 < y.length
      · obtain ⟨g, off, h1, h2⟩ := hx' h0
        exact ⟨g, off, fun _ => h1, h2⟩
      · refine ⟨0, 0, fun h => absurd h h0, fun j u hu => ?_⟩
        have : (attrCells y).length = 0 := by rw [attrCells_len]; omega
        rw [List.eq_nil_of_length_eq_zero this] at hu
        cases hu
    have HAG := Lib.hid hag
    have HAG' := Lib.hid hag'
    have HC := Lib.hid hcell
    have HC' := Lib.hid hcell'
    clear hx hx' hag hag' hcell hcell'
    have HXY := Lib.hid hxy
    rw [← hxy] at hc' ⊢
    clear hxy
    go_enter Tryz.func25, Tryz.ntmps25
    go_wp2_with fail
    go_loopw [5] (fun i wr => ∃ k : Nat, k ≤ x.length ∧ i = .int .i64 k ∧ Hid (x.take k = y.take k) ∧ Hid (Below w.heap.size w wr)) (fun i _ => x.length - (intOf i).toNat)
    case atStart => exact ⟨0, by omega, rfl, Lib.hid rfl, Lib.hid (Below.refl _ _)⟩
    case round =>
      obtain ⟨k, hk, rfl, HT, HB⟩ := hrel
      by_cases hlt : k < x.length
      · have hlt' : k < y.length := by have := HXY.out; omega
        obtain rfl := HAG.out (by omega)
        obtain rfl := HAG'.out (by omega)
        have q1 := HC.out _ _ (attrCells_get x k hlt).1
        have q2 := HC.out _ _ (attrCells_get x k hlt).2
        have q3 := HC'.out _ _ (attrCells_get y k hlt').1
        have q4 := HC'.out _ _ (attrCells_get y k hlt').2
        have up : ∀ {p : Addr} {u : Value}, w.cell? p = some u → wr.cell? p = some u := fun h => (HB.out.cell (block_lt_of_cell h)).trans h
        have c1 := up q1
        have c2 : wr.cell? ⟨g, off + k * 2 + 1, none⟩ = some (.string ⟨(x[k]'hlt).2.toArray⟩) := up q2
        have c3 := up q3
        have c4 : wr.cell? ⟨g', off' + k * 2 + 1, none⟩ = some (.string ⟨(y[k]'hlt').2.toArray⟩) := up q4
        have hi0 : (0 : Int) ≤ k := by omega
        have hi1 : (k : Int) < x.length := by omega
        clear q1 q2 q3 q4 up
        obtain ⟨x1, hx1⟩ : ∃ x1, x1 = (x[k]'hlt).1 := ⟨_, rfl⟩
        obtain ⟨x2, hx2⟩ : ∃ x2, x2 = (x[k]'hlt).2 := ⟨_, rfl⟩
        obtain ⟨y1, hy1⟩ : ∃ y1, y1 = (y[k]'hlt').1 := ⟨_, rfl⟩
        obtain ⟨y2, hy2⟩ : ∃ y2, y2 = (y[k]'hlt').2 := ⟨_, rfl⟩
        rw [← hx1] at c1
        rw [← hx2] at c2
        rw [← hy1] at c3
        rw [← hy2] at c4
        by_cases he : x1 = y1 ∧ x2 = y2
        · obtain ⟨rfl, rfl⟩ := he
          have HN : Hid (x.take (k + 1) = y.take (k + 1)) := Lib.hid (by
            rw [List.take_succ_eq_append_getElem hlt, List.take_succ_eq_append_getElem hlt', HT.out]
            congr 2
            exact Prod.ext (hx1.symm.trans hy1) (hx2.symm.trans hy2))
          clear hx1 hx2 hy1 hy2
          go_wp2_with fail
          go_quiet (fail)
          go_wp2
          exact ⟨⟨k + 1, by omega, by go_num, HN, Lib.hid (below_drewN HB.out _)⟩, by simp [intOf]; omega⟩
        · have HE : Hid (¬ x = y) := Lib.hid (fun e => he (by subst e; exact ⟨hx1.trans hy1.symm, hx2.trans hy2.symm⟩))
          by_cases h1 : x1 = y1
          · subst h1
            have hb2 : (x2 == y2) = false := beq_eq_false_iff_ne.2 (fun h2 => he ⟨rfl, h2⟩)
            clear hx1 hx2 hy1 hy2 he
            go_wp2_with fail
            go_quiet (fail)
            go_wp2
            go_ret
            exact ⟨by rw [decide_eq_false HE.out]; rfl, below_drewN HB.out _⟩
          · have hb1 : (x1 == y1) = false := beq_eq_false_iff_ne.2 h1
            clear hx1 hx2 hy1 hy2 he h1
            go_wp2_with fail
            go_quiet (fail)
            go_wp2
            go_ret
            exact ⟨by rw [decide_eq_false HE.out]; rfl, below_drewN HB.out _⟩
      · have HE : Hid (x = y) := Lib.hid (by have := HT.out; have h2 := HXY.out; rwa [List.take_of_length_le (by omega), List.take_of_length_le (by omega)] at this)
        go_wp2
        go_ret
        exact ⟨by rw [decide_eq_true HE.out]; rfl, HB.out⟩
  · have hne : (((x.length : Nat) : Int) == ((y.length : Nat) : Int)) = false := by rw [beq_eq_false_iff_ne]; omega
    have HE : Hid (¬ x = y) := Lib.hid (fun e => hxy (by rw [e]))
    clear hx hx' hxy
    go_enter Tryz.func25, Tryz.ntmps25
    go_wp2
    go_ret
    exact ⟨by rw [decide_eq_false HE.out]; rfl, Below.refl _ _⟩
end Go.Proofs.YtihijgghcecpmaaGreatDoor.U

/- The law's own small functions of layer 3: same. -/
namespace Go.Proofs.YtihijgghcecpmaaGreatDoor.U
open Go.RowKit Go.Shelf

/-- Whether two pieces are one. -/
def sameT (t u : Tok) : Bool := decide (t.kind = u.kind) && (t.name == u.name) && (t.text == u.text) && (t.empty == u.empty) && decide (t.attrs = u.attrs)

set_option maxHeartbeats 2000000 in
theorem same_any (t u : Tok) (v v' : Value) (w : World) (hv : AtRow w v t.attrs.length 2 (attrCells t.attrs)) (hv' : AtRow w v' u.attrs.length 2 (attrCells u.attrs)) (hl : t.attrs.length ≤ 100000) :
    Calls Tryz.prog 13 #[.agg (tokCells t v), .agg (tokCells u v')] w fun e w' => e = .returned (.bool (sameT t u)) ∧ Below w.heap.size w w' := by
  obtain ⟨tk, tn, tt, ta, te⟩ := t
  obtain ⟨uk, un, ut, ua, ue⟩ := u
  simp only [tokCells] at *
  obtain ⟨a, cap, rfl, h1⟩ := hv
  obtain ⟨a', cap', rfl, h1'⟩ := hv'
  obtain ⟨w1, hw1⟩ : ∃ w1, w1 = (w.alloc (.cells #[.int .i64 tk, .string ⟨tn.toArray⟩, .string ⟨tt.toArray⟩, .slice a ta.length cap, .bool te] 38)) := ⟨_, rfl⟩
  have HB1 : Below w.heap.size w w1 := by rw [hw1]; exact (Below.refl _ w).alloc (Nat.le_refl _) _
  have HB2 : Below w.heap.size w (w1.alloc (.cells #[.int .i64 uk, .string ⟨un.toArray⟩, .string ⟨ut.toArray⟩, .slice a' ua.length cap', .bool ue] 38)) := al HB1 (Nat.le_refl _) _
  have hx1 : AtRow _ (.slice a ta.length cap) ta.length 2 (attrCells ta) := AtRow.below ⟨a, cap, rfl, h1⟩ HB2 (Nat.le_refl _)
  have hx2 : AtRow _ (.slice a' ua.length cap') ua.length 2 (attrCells ua) := AtRow.below ⟨a', cap', rfl, h1'⟩ HB2 (Nat.le_refl _)
  have HK1 : Box5 w.heap.size tk ⟨tn.toArray⟩ ⟨tt.toArray⟩ (.slice a ta.length cap) te w1 := by rw [hw1]; exact Box5.made _ _ _ _ _
  have HK1' := HK1.alloc (.cells #[.int .i64 uk, .string ⟨un.toArray⟩, .string ⟨ut.toArray⟩, .slice a' ua.length cap', .bool ue] 38)
  have HK2 := Box5.made uk ⟨un.toArray⟩ ⟨ut.toArray⟩ (.slice a' ua.length cap') w1 (em := ue)
  have HCA := sameAttrs_any ta ua _ _ _ hx1 hx2 hl
  subst hw1
  have HB2 := Lib.hid HB2
  have HCA := Lib.hid HCA
  obtain ⟨c0, c1, c2, c3, c4, _⟩ := HK1'.at
  obtain ⟨d0, d1, d2, d3, d4, _⟩ := HK2.at
  clear hx1 hx2 HK1 HK1' HK2 HB1 h1 h1'
  by_cases e0 : tk = uk
  · subst e0
    cases e1 : tn == un with
    | false =>
      have HE : Hid (sameT ⟨tk, tn, tt, ta, te⟩ ⟨tk, un, ut, ua, ue⟩ = false) := Lib.hid (by unfold sameT; simp only; rw [e1]; simp)
      go_enter Tryz.func13, Tryz.ntmps13
      go_wp2
      go_ret
      exact ⟨by rw [HE.out]; rfl, HB2.out⟩
    | true =>
      cases e2 : tt == ut with
      | false =>
        have HE : Hid (sameT ⟨tk, tn, tt, ta, te⟩ ⟨tk, un, ut, ua, ue⟩ = false) := Lib.hid (by unfold sameT; simp only; rw [e2]; simp)
        go_enter Tryz.func13, Tryz.ntmps13
        go_wp2
        go_ret
        exact ⟨by rw [HE.out]; rfl, HB2.out⟩
      | true =>
        cases e3 : te == ue with
        | false =>
          have HE : Hid (sameT ⟨tk, tn, tt, ta, te⟩ ⟨tk, un, ut, ua, ue⟩ = false) := Lib.hid (by unfold sameT; simp only; rw [e3]; simp)
          go_enter Tryz.func13, Tryz.ntmps13
          go_wp2
          go_ret
          exact ⟨by rw [HE.out]; rfl, HB2.out⟩
        | true =>
          have HE : Hid (sameT ⟨tk, tn, tt, ta, te⟩ ⟨tk, un, ut, ua, ue⟩ = decide (ta = ua)) := Lib.hid (by unfold sameT; simp only; rw [e1, e2, e3]; simp)
          go_enter Tryz.func13, Tryz.ntmps13
          go_wp2_with fail
          refine HCA.out.mono ?_
          rintro e w3 ⟨rfl, hb3⟩
          have HB3 := Lib.hid (th HB2.out (Nat.le_refl _) hb3)
          clear hb3
          go_wp2
          go_ret
          exact ⟨by rw [HE.out]; rfl, HB3.out⟩
  · have hb0 : (tk == uk) = false := beq_eq_false_iff_ne.2 e0
    have HE : Hid (sameT ⟨tk, tn, tt, ta, te⟩ ⟨uk, un, ut, ua, ue⟩ = false) := Lib.hid (by unfold sameT; simp only; rw [decide_eq_false e0]; simp)
    go_enter Tryz.func13, Tryz.ntmps13
    go_wp2
    go_ret
    exact ⟨by rw [HE.out]; rfl, HB2.out⟩
end Go.Proofs.YtihijgghcecpmaaGreatDoor.U
