/- Contracts and plain facts that the law stands on: Rf, Rg, Sc, Rp, Rp2. -/
import Derived.Test.YtjldpkhfiffinaaGreatDoorZA08
import Derived.Sort.Row
import Derived.Test.YtjldpkhfiffinaaGreatDoorZA02
import Derived.Test.YtjldpkhfiffinaaGreatDoorZA04
import Derived.Test.YtjldpkhfiffinaaGreatDoorZA05
import Derived.Deep.QuietTactic
import Derived.BigQuiet
import Derived.Test.YtjldpkhfiffinaaGreatDoorZA01
import Derived.Deep.MidRow
import Derived.Deep.WholeRow
import Derived.Defers
import Derived.Laws.Pointers
import Derived.Laws.LoneSync
import Derived.RegionTactic
import Derived.RegionCalls
namespace Go.Proofs.YtjldpkhfiffinaaGreatDoor.U
open Go.RowKit
theorem own_last4 {w : World} {base g n cap : Nat} {e : TypeId} {xs : List Value} {z0 z1 z2 z3 : Value} (h : w.ownsRow base e 4 (.slice (some ⟨g, 0, none⟩) (n + 1) cap) (n + 1) (xs ++ [z0, z1, z2, z3])) (hl : xs.length = n * 4) (a b c d : Value) :
    ((((w.setCell ⟨g, n * 4, none⟩ a).setCell ⟨g, n * 4 + 1, none⟩ b).setCell ⟨g, n * 4 + 2, none⟩ c).setCell ⟨g, n * 4 + 3, none⟩ d).ownsRow base e 4 (.slice (some ⟨g, 0, none⟩) (n + 1) cap) (n + 1) (xs ++ [a, b, c, d]) := by
  have h1 := own_upd (u := a) h (i := n * 4) (by omega)
  have h2 := own_upd (u := b) h1 (i := n * 4 + 1) (by omega)
  have h3 := own_upd (u := c) h2 (i := n * 4 + 2) (by omega)
  have h4 := own_upd (u := d) h3 (i := n * 4 + 3) (by omega)
  rw [List.set_append_right _ _ (by omega), List.set_append_right _ _ (by omega), List.set_append_right _ _ (by omega), List.set_append_right _ _ (by omega), hl, Nat.sub_self, Nat.add_sub_cancel_left, Nat.add_sub_cancel_left, Nat.add_sub_cancel_left] at h4
  exact h4
theorem own_frozen {w : World} {base size n g c : Nat} {e : TypeId} {xs : List Value} (h : w.ownsRow base e size (.slice (some ⟨g, 0, none⟩) n c) n xs) (i : Nat) : w.frozen? ⟨g, i, none⟩ = false := by
  rcases h.2 with ⟨h9, _⟩ | ⟨g', cap', cur', e, _, h3, _⟩
  · cases h9
  · simp only [Value.slice.injEq, Option.some.injEq, Addr.mk.injEq, and_true, true_and] at e
    obtain ⟨rfl, rfl⟩ := e
    exact Lib.frozen_of_heap h3 i
theorem own_last {w : World} {base g n c : Nat} {e : TypeId} {xs : List Value} {z0 z1 z2 z3 : Value} (h : w.ownsRow base e 4 (.slice (some ⟨g, 0, none⟩) (n + 1) c) (n + 1) (xs ++ [z0, z1, z2, z3])) : w.cell? ⟨g, n * 4, none⟩ = some z0 ∧ w.cell? ⟨g, n * 4 + 1, none⟩ = some z1 ∧ w.cell? ⟨g, n * 4 + 2, none⟩ = some z2 ∧ w.cell? ⟨g, n * 4 + 3, none⟩ = some z3 := by
  have hl : xs.length = n * 4 := by
    have := h.1
    simp only [List.length_append, List.length_cons, List.length_nil] at this
    omega
  have get : ∀ i v, [z0, z1, z2, z3][i]? = some v → w.cell? ⟨g, n * 4 + i, none⟩ = some v := fun i v hv => by
    have h9 := h.cells rfl (n * 4 + i) v (by rw [List.getElem?_append_right (by omega), hl, Nat.add_sub_cancel_left]; exact hv)
    rw [add_zero_at] at h9
    exact h9
  exact ⟨get 0 _ rfl, get 1 _ rfl, get 2 _ rfl, get 3 _ rfl⟩
open Go.Sort in
theorem setCell_far {W : World} {p g i k : Nat} (h : ¬ p = g) (e a : Value) : (W.setCell ⟨p, i, none⟩ e).setCell ⟨g, k, none⟩ a = (W.setCell ⟨g, k, none⟩ a).setCell ⟨p, i, none⟩ e := by
  rw [setCell_eq, setCell_eq, setCell_eq, setCell_eq]
  unfold mapBlock
  congr 1
  apply Array.ext_getElem?
  intro n
  simp only [Array.getElem?_modify]
  by_cases h1 : g = n
  · by_cases h2 : p = n
    · exact absurd (h2.trans h1.symm) h
    · simp [h1, h2]
  · by_cases h2 : p = n
    · simp [h1, h2]
    · simp [h1, h2]
theorem setCell_far5 {W : World} {p g i k0 k1 k2 k3 : Nat} (h : ¬ p = g) {e a b c d : Value} : ((((W.setCell ⟨p, i, none⟩ e).setCell ⟨g, k0, none⟩ a).setCell ⟨g, k1, none⟩ b).setCell ⟨g, k2, none⟩ c).setCell ⟨g, k3, none⟩ d = ((((W.setCell ⟨g, k0, none⟩ a).setCell ⟨g, k1, none⟩ b).setCell ⟨g, k2, none⟩ c).setCell ⟨g, k3, none⟩ d).setCell ⟨p, i, none⟩ e := by
  rw [setCell_far h, setCell_far h, setCell_far h, setCell_far h]
theorem own_setFar {w : World} {base n size b i : Nat} {e : TypeId} {v u : Value} {xs : List Value} (h : w.ownsRow base e size v n xs) (hb : v.ownBlock ≠ some b) : (w.setCell ⟨b, i, none⟩ u).ownsRow base e size v n xs :=
  h.kept (grownBy_setAt w b i u) (.inr hb)
/-- What add leaves. -/
theorem add_fin {ρ : Part} {w w1 WX w3 : World} {base rb g c p m g3 c3 ck n1 c1 n2 c2 : Nat} {ak a1 a2 : Option Addr} {lb tx : ByteArray} {t T : Tr} {r : List Tr} {qs : List Nat} {va : Value} {q : List (Value × Value)} {xs : List Value} (h : RdV ρ w base rb (t :: r) (p :: qs) ((va, .slice ak m ck) :: q) g c)
    (hT : TreeS (fun g => base ≤ g ∧ ρ g = (0, 0)) w T [.string lb, .string tx, .slice a1 n1 c1, .slice a2 n2 c2]) (hm : m = (trK t).length) (hb1 : Below w.heap.size w w1) (hrk : ∀ b, (Value.slice ak m ck).ownBlock = some b → ρ b = (4, r.length)) (hrp : ρ p = (2, r.length)) (hxs : w1.ownsRow base 27 4 (.slice ak m ck) m xs)
    (hgx : w1.grownBy WX none) (ho3 : w3.ownsRow base 27 4 (.slice (some ⟨g3, 0, none⟩) (m + 1) c3) (m + 1) (xs ++ [.string ⟨#[]⟩, .string ⟨#[]⟩, .slice none 0 0, .slice none 0 0])) (hg3 : WX.grownBy w3 (Value.slice ak m ck).ownBlock) (hat : (Value.slice (some ⟨g3, 0, none⟩) (m + 1) c3).ownBlock = (Value.slice ak m ck).ownBlock ∨ (Value.slice (some ⟨g3, 0, none⟩) (m + 1) c3).ownBlock = some WX.heap.size) (hp3 : Box4 p ⟨(trL t).toArray⟩ ⟨(trX t).toArray⟩ va (.slice ak m ck) w3) (hb0 : base ≤ w.heap.size) :
    Below base w (((((w3.setCell ⟨g3, m * 4, none⟩ (.string lb)).setCell ⟨g3, m * 4 + 1, none⟩ (.string tx)).setCell ⟨g3, m * 4 + 2, none⟩ (.slice a1 n1 c1)).setCell ⟨g3, m * 4 + 3, none⟩ (.slice a2 n2 c2)).setCell ⟨p, 3, none⟩ (.slice (some ⟨g3, 0, none⟩) (m + 1) c3)) ∧
      ∃ ρ' vk', RdV ρ' (((((w3.setCell ⟨g3, m * 4, none⟩ (.string lb)).setCell ⟨g3, m * 4 + 1, none⟩ (.string tx)).setCell ⟨g3, m * 4 + 2, none⟩ (.slice a1 n1 c1)).setCell ⟨g3, m * 4 + 3, none⟩ (.slice a2 n2 c2)).setCell ⟨p, 3, none⟩ (.slice (some ⟨g3, 0, none⟩) (m + 1) c3)) base rb (.node (trL t) (trX t) (trA t) (trK t ++ [T]) :: r) (p :: qs) ((va, vk') :: q) g c ∧ (∀ b, b < w.heap.size → ρ' b = ρ b) ∧
        ∀ b, b < w.heap.size → b ≠ p → some b ≠ (Value.slice ak m ck).ownBlock → (((((w3.setCell ⟨g3, m * 4, none⟩ (.string lb)).setCell ⟨g3, m * 4 + 1, none⟩ (.string tx)).setCell ⟨g3, m * 4 + 2, none⟩ (.slice a1 n1 c1)).setCell ⟨g3, m * 4 + 3, none⟩ (.slice a2 n2 c2)).setCell ⟨p, 3, none⟩ (.slice (some ⟨g3, 0, none⟩) (m + 1) c3)).heap[b]? = w.heap[b]? := by
  obtain ⟨_, hbp, _, _, _, ys, hys⟩ := h.tops
  have hpl := hbp.lt
  have hbasep : base ≤ p := by
    obtain ⟨_, _, _, _, _, h6⟩ := h
    rw [OpenP] at h6
    obtain ⟨p0, va0, vk0, qs0, q0, lk, e1, e2, k1, k2, _⟩ := h6
    simp only [List.cons.injEq] at e1
    rw [e1.1]
    exact k2
  have hs1 := hb1.size
  have hsx := hgx.size
  have hs3 := hg3.size
  have hg3b : base ≤ g3 := (ho3.lt g3 rfl).1
  have hgp : ¬ g3 = p := fun e => by
    rcases hat with h9 | h9
    · have e1 := hrk g3 h9.symm
      rw [e, hrp] at e1
      simp at e1
    · have e2 : g3 = WX.heap.size := Option.some.inj h9
      omega
  have hxl : xs.length = m * 4 := hxs.1
  have hys2 : ys = xs := by
    have h9 := own_bel hys hb1
    rw [← hm] at h9
    exact own_unique h9 hxs
  obtain ⟨W4, hW4⟩ : ∃ W4, W4 = (((w3.setCell ⟨g3, m * 4, none⟩ (.string lb)).setCell ⟨g3, m * 4 + 1, none⟩ (.string tx)).setCell ⟨g3, m * 4 + 2, none⟩ (.slice a1 n1 c1)).setCell ⟨g3, m * 4 + 3, none⟩ (.slice a2 n2 c2) := ⟨_, rfl⟩
  rw [← hW4]
  have hown4 : W4.ownsRow base 27 4 (.slice (some ⟨g3, 0, none⟩) (m + 1) c3) (m + 1) (xs ++ [.string lb, .string tx, .slice a1 n1 c1, .slice a2 n2 c2]) := by rw [hW4]; exact own_last4 ho3 hxl _ _ _ _
  have hb34 : Below base w3 W4 := by
    rw [hW4]
    exact ((((Below.refl base w3).setCell hg3b _).setCell hg3b _).setCell hg3b _).setCell hg3b _
  have heq4 : ∀ k, k ≠ g3 → W4.heap[k]? = w3.heap[k]? := fun k hk => by
    rw [hW4, Below.heap_setCell _ ⟨g3, m * 4 + 3, none⟩ _ k (by simpa using hk), Below.heap_setCell _ ⟨g3, m * 4 + 2, none⟩ _ k (by simpa using hk), Below.heap_setCell _ ⟨g3, m * 4 + 1, none⟩ _ k (by simpa using hk), Below.heap_setCell _ ⟨g3, m * 4, none⟩ _ k (by simpa using hk)]
  have hp4 : Box4 p ⟨(trL t).toArray⟩ ⟨(trX t).toArray⟩ va (.slice ak m ck) W4 := (heq4 p (fun e => hgp e.symm)).trans hp3
  have hsz4 : W4.heap.size = w3.heap.size := by rw [hW4]; simp
  have heqw : ∀ b, b < w.heap.size → b ≠ p → some b ≠ (Value.slice ak m ck).ownBlock → (W4.setCell ⟨p, 3, none⟩ (.slice (some ⟨g3, 0, none⟩) (m + 1) c3)).heap[b]? = w.heap[b]? := fun b hb hbp2 hbk => by
    have hbg : b ≠ g3 := fun e => by
      rcases hat with h9 | h9
      · exact hbk (by rw [← h9, e]; rfl)
      · have e2 : g3 = WX.heap.size := Option.some.inj h9
        omega
    rw [Below.heap_setCell _ ⟨p, 3, none⟩ _ b (by simpa using hbp2), heq4 b hbg, hg3.block b (by omega) hbk, hgx.block b (by omega) (by simp), hb1.block b hb]
  have hkid := RdV.kid (w4 := W4.setCell ⟨p, 3, none⟩ (.slice (some ⟨g3, 0, none⟩) (m + 1) c3)) (vk' := .slice (some ⟨g3, 0, none⟩) (m + 1) c3) h hT (by simp; omega) heqw (by
      rcases hat with h9 | h9
      · exact .inl h9
      · exact .inr ⟨WX.heap.size, h9, by omega⟩) (fun zs hz => by
      have e9 : zs = xs := by
        have h9 := own_bel hz hb1
        rw [← hm] at h9
        exact own_unique h9 hxs
      rw [e9, ← hm]
      exact own_setFar hown4 (fun e => hgp (Option.some.inj e))) (hp4.setK _)
  obtain ⟨ρ', k1, k2⟩ := hkid
  have hbel : Below base w (W4.setCell ⟨p, 3, none⟩ (.slice (some ⟨g3, 0, none⟩) (m + 1) c3)) := by
    have b1 : Below base w w1 := hb1.mono hb0
    have b2 : Below base w WX := b1.grown hgx (by omega) (fun k e => by cases e)
    have b3 : Below base w w3 := b2.grown hg3 (by omega) (fun k e => (hxs.lt k e).1)
    exact (b3.trans hb34).setCell hbasep _
  exact ⟨hbel, ρ', _, k1, k2, heqw⟩
set_option maxHeartbeats 4000000 in
set_option maxRecDepth 20000 in
theorem addR_any {ρ : Part} {w : World} {base rb g c p : Nat} {t T : Tr} {r : List Tr} {qs : List Nat} {va vk : Value} {q : List (Value × Value)} {hs : List Value} (h : RdV ρ w base rb (t :: r) (p :: qs) ((va, vk) :: q) g c)
    (hT : TreeS (fun g => base ≤ g ∧ ρ g = (0, 0)) w T hs) (hn : (trK t).length ≤ 1000000) (hb0 : base ≤ w.heap.size) :
    Calls Tryz.prog 139 #[.pointer (some ⟨rb, 0, none⟩), .agg hs.toArray] w fun e w' => e = .returned (.tuple #[]) ∧ Below base w w' ∧ ∃ ρ' vk', RdV ρ' w' base rb (.node (trL t) (trX t) (trA t) (trK t ++ [T]) :: r) (p :: qs) ((va, vk') :: q) g c ∧ (∀ b, b < w.heap.size → ρ' b = ρ b) ∧ ∀ b, b < w.heap.size → b ≠ p → some b ≠ vk.ownBlock → w'.heap[b]? = w.heap[b]? := by
  obtain ⟨lb, tx, a1, a2, n1, c1, n2, c2, rfl⟩ := hT.four
  obtain ⟨W0, hW0⟩ : ∃ W0, W0 = w.alloc (.cells #[.string lb, .string tx, .slice a1 n1 c1, .slice a2 n2 c2] 27) := ⟨_, rfl⟩
  have HB0 : Hid (Below w.heap.size w W0) := Lib.hid (by rw [hW0]; exact (Below.refl _ w).alloc (Nat.le_refl _) _)
  have HX0 : Hid (Box4 w.heap.size lb tx (.slice a1 n1 c1) (.slice a2 n2 c2) W0) := Lib.hid (by rw [hW0]; exact Box4.made _ _ _ _ _)
  have HR0 := Lib.hid (h.below HB0.out)
  have HTP := Lib.hid (top_any HR0.out)
  have HH := Lib.hid h
  have HT := Lib.hid hT
  obtain ⟨m, hm⟩ : ∃ m, m = (trK t).length := ⟨_, rfl⟩
  rw [← hm] at hn
  have HM := Lib.hid hm
  clear h hT hm
  go_enter Tryz.func139, Tryz.ntmps139
  go_wp2_with fail
  rw [← hW0]
  clear hW0
  (with_reducible refine HTP.out.mono ?_)
  rintro e w1 ⟨rfl, hb1⟩
  have HB1 := Lib.hid (th HB0.out (Nat.le_refl _) hb1)
  have HX1 := Lib.hid (HX0.out.below hb1 (Nat.le_refl _))
  have HR1 := Lib.hid (HR0.out.below hb1)
  clear hb1
  obtain ⟨_, hbx, _, hrp, hrk, xs, hxs⟩ := HR1.out.tops
  rw [← HM.out] at hxs
  obtain ⟨ak, ck, rfl⟩ := own_sl hxs
  have HXP := Lib.hid hbx
  have HXS := Lib.hid hxs
  have HRK := Lib.hid hrk
  have HRP := Lib.hid hrp
  obtain ⟨x0, x1, x2, x3⟩ := HXP.out.at
  obtain ⟨y0, y1, y2, y3⟩ := HX1.out.at
  have f3 := HXP.out.thaw 3
  have hm0 : (0 : Int) ≤ m := by omega
  have hm1 : (m : Int) < (m : Int) + 1 := by omega
  clear hbx hxs hrk hrp
  have HKL : Hid (∀ k, (Value.slice ak m ck).ownBlock = some k → k < w.heap.size ∧ k ≠ p ∧ base ≤ k) := Lib.hid (fun k hk => by
    obtain ⟨_, _, _, _, _, ys, hys⟩ := HH.out.tops
    refine ⟨(hys.lt k hk).2, fun e => ?_, (hys.lt k hk).1⟩
    have e1 := HRK.out k hk
    rw [e, HRP.out] at e1
    simp at e1)
  obtain ⟨WX, hWX⟩ : ∃ WX, WX = (w1.alloc (.cells #[.string ⟨#[]⟩, .string ⟨#[]⟩, .slice none 0 0, .slice none 0 0] 27)).drew := ⟨_, rfl⟩
  have HGX : Hid (w1.grownBy WX none) := Lib.hid (by rw [hWX]; exact ⟨rfl, rfl, rfl, by simp [World.drew], fun k hk _ => by show (w1.heap.push _)[k]? = _; rw [Array.getElem?_push, if_neg (by omega)]⟩)
  have HOX : Hid (WX.ownsRow base 27 4 (.slice ak m ck) m xs) := Lib.hid (by rw [hWX]; exact (HXS.out.alloc _).drew)
  have HPX : Hid (Box4 p ⟨(trL t).toArray⟩ ⟨(trX t).toArray⟩ va (.slice ak m ck) WX) := Lib.hid (HXP.out.grown HGX.out (by simp))
  have HTX : Hid (Box4 w.heap.size lb tx (.slice a1 n1 c1) (.slice a2 n2 c2) WX) := Lib.hid (HX1.out.grown HGX.out (by simp))
  have HNX : Hid (∀ j u, [Value.string ⟨#[]⟩, .string ⟨#[]⟩, .slice none 0 0, .slice none 0 0][j]? = some u → WX.cell? ((⟨w1.heap.size, 0, none⟩ : Addr).add j) = some u) := Lib.hid (by rw [hWX]; exact cell_four_new w1 _ _ _ _ _)
  have HBX : Hid (base ≤ WX.heap.size) := Lib.hid (by have := HB1.out.size; have := HGX.out.size; omega)
  have HWX : Hid (WX = (w1.alloc (.cells #[.string ⟨#[]⟩, .string ⟨#[]⟩, .slice none 0 0, .slice none 0 0] 27)).drew) := Lib.hid hWX
  obtain ⟨z0, z1, z2, z3⟩ := HPX.out.at
  obtain ⟨v0, v1, v2, v3⟩ := HTX.out.at
  rw [hWX] at z0 z1 z2 z3 v0 v1 v2 v3
  obtain ⟨i0, hi, hz0, hz1, hz2⟩ := info_parts infoTree
  clear hWX
  go_wp2_with fail
  go_region_law (refine step_append_at rfl (.tmp 10) (.tmp 13) 25 rfl base 27 i0 (.agg #[.string ⟨#[]⟩, .string ⟨#[]⟩, .slice none 0 0, .slice none 0 0]) 4 80 Tryz.underlying25 hi hz0 hz1 hz2 rfl (by decide) (.slice ak m ck) m xs (by first | rfl | (simp [Act.eval]; done) | (simp [Act.eval, Act.put]; done)) (by rw [← HWX.out]; exact HOX.out) ⟨w1.heap.size, 0, none⟩ 1 1 [.string ⟨#[]⟩, .string ⟨#[]⟩, .slice none 0 0, .slice none 0 0] (by first | rfl | (simp [Act.eval]; done) | (simp [Act.eval, Act.put]; done)) rfl (by rw [← HWX.out]; exact HNX.out) (by simp [Value.oneCell']) (by unfold maxLen; omega) (by omega) (by rw [← HWX.out]; exact HBX.out) ?_; intro v3 w3 hown3 hgrow3 hat3; rw [← HWX.out] at hgrow3 hat3; obtain ⟨g3, c3, rfl, hg3b, hg3l⟩ := hown3.form (by omega); have HO3 := Lib.hid hown3; have HG3 := Lib.hid hgrow3; have HA3 := Lib.hid hat3; have HP3 : Hid (Box4 p ⟨(trL t).toArray⟩ ⟨(trX t).toArray⟩ va (.slice ak m ck) w3) := Lib.hid (HPX.out.grown hgrow3 (fun e => (HKL.out p e.symm).2.1 rfl)); have HT3 : Hid (Box4 w.heap.size lb tx (.slice a1 n1 c1) (.slice a2 n2 c2) w3) := Lib.hid (HTX.out.grown hgrow3 (fun e => by have := (HKL.out _ e.symm).1; omega)); obtain ⟨q0, q1, q2, q3⟩ := HP3.out.at; obtain ⟨u0, u1, u2, u3⟩ := HT3.out.at; have k3 := HP3.out.thaw 3; have k4 : ∀ i, w3.frozen? ⟨g3, i, none⟩ = false := (own_frozen hown3); obtain ⟨t0, t1, t2, t3⟩ := own_last hown3; have hpg : ¬ p = g3 := (fun e => by subst e; exact hat3.elim (fun h9 => (HKL.out p h9.symm).2.1 rfl) (fun h9 => absurd HPX.out.lt (by rw [show p = WX.heap.size from Option.some.inj h9]; exact Nat.lt_irrefl _))); have hgp : ¬ g3 = p := (fun e => hpg e.symm); clear hown3 hgrow3 hat3)
  all_goals (
    go_wp2
    (try rw [setCell_far5 hpg])
    go_end0
    refine ⟨rfl, ?_⟩
    exact add_fin HH.out HT.out HM.out HB1.out HRK.out HRP.out HXS.out HGX.out HO3.out HG3.out HA3.out HP3.out hb0)
end Go.Proofs.YtjldpkhfiffinaaGreatDoor.U

namespace Go.Proofs.YtjldpkhfiffinaaGreatDoor.U
open Go.RowKit
/-- One piece, on the elements that are open. -/
def stepA (fs : List Fr) (root : Option Tr) (t : Tok) : Option (List Fr × Option Tr) :=
  if t.kind = 2 then (if root.isSome = true then none else if t.empty = true then some (addTr (.node t.name [] (sortA t.attrs) []) fs root) else some (⟨t.name, sortA t.attrs, []⟩ :: fs, root))
  else if t.kind = 3 then match fs with
    | [] => none
    | f :: q => if f.lb ≠ t.name then none else some (addTr (.node f.lb [] f.al f.kids) q root)
  else if t.kind = 4 then match fs with
    | [] => if t.text.all (fun b => blankI b.toNat) = false then none else some ([], root)
    | f :: q => if t.text = [] then some (f :: q, root) else some (⟨f.lb, f.al, addTx t.text f.kids⟩ :: q, root)
  else some (fs, root)
/-- A stack as read makes it. -/
def FsOk (fs : List Fr) (root : Option Tr) : Prop := (fs ≠ [] → root = none) ∧ ∀ f ∈ fs, bareK f.kids = true
theorem stepA_tree {fs : List Fr} {root : Option Tr} (h : FsOk fs root) (i : Nat) (t : Tok) (r : List Tok) : treeA i fs root (t :: r) = match stepA fs root t with | none => .error i | some x => treeA (i + 1) x.1 x.2 r := by
  conv => lhs; unfold treeA
  unfold stepA
  by_cases h2 : t.kind = 2
  · rw [if_pos h2, if_pos h2]
    by_cases hr : root.isSome = true
    · rw [if_pos hr]
      have hf : fs = [] := by
        cases fs with
        | nil => rfl
        | cons f q => rw [h.1 (by simp)] at hr; cases hr
      rw [if_pos ⟨hr, hf⟩]
    · rw [if_neg hr, if_neg (fun e => hr e.1)]
      split <;> rfl
  · rw [if_neg h2, if_neg h2]
    by_cases h3 : t.kind = 3
    · rw [if_pos h3, if_pos h3]
      cases fs with
      | nil => rfl
      | cons f q =>
        simp only
        split <;> rfl
    · rw [if_neg h3, if_neg h3]
      by_cases h4 : t.kind = 4
      · rw [if_pos h4, if_pos h4]
        cases fs with
        | nil =>
          simp only
          split <;> rfl
        | cons f q =>
          simp only
          split <;> rfl
      · rw [if_neg h4, if_neg h4]
theorem stepA_ok {fs fs' : List Fr} {root root' : Option Tr} {t : Tok} (h : FsOk fs root) (hn : t.kind = 2 → t.name ≠ []) (hl : ∀ f ∈ fs, f.lb ≠ []) (hs : stepA fs root t = some (fs', root')) : FsOk fs' root' ∧ (∀ f ∈ fs', f.lb ≠ []) ∧ fs'.length ≤ fs.length + 1 := by
  have add : ∀ (T : Tr) (gs : List Fr), bareA T = true → (∀ f ∈ gs, f ∈ fs) → gs.length ≤ fs.length + 1 → (addTr T gs root) = (fs', root') → FsOk fs' root' ∧ (∀ f ∈ fs', f.lb ≠ []) ∧ fs'.length ≤ fs.length + 1 := by
    intro T gs hT hg hlen e
    cases gs with
    | nil =>
      simp only [addTr, Prod.mk.injEq] at e
      obtain ⟨rfl, rfl⟩ := e
      exact ⟨⟨fun h => absurd rfl h, fun f hf => by cases hf⟩, (fun f hf => by cases hf), by simp⟩
    | cons g q =>
      simp only [addTr, Prod.mk.injEq] at e
      obtain ⟨rfl, rfl⟩ := e
      refine ⟨⟨fun _ => h.1 (List.ne_nil_of_mem (hg g (by simp))), fun f hf => ?_⟩, fun f hf => ?_, by simpa using hlen⟩
      · rcases List.mem_cons.1 hf with rfl | hf
        · simp only
          rw [bareK_append, h.2 g (hg g (by simp))]
          simp [bareK, hT]
        · exact h.2 f (hg f (by simp [hf]))
      · rcases List.mem_cons.1 hf with rfl | hf
        · exact hl g (hg g (by simp))
        · exact hl f (hg f (by simp [hf]))
  unfold stepA at hs
  split at hs
  · next h2 =>
    split at hs
    · cases hs
    · next hr =>
      split at hs
      · injection hs with hs
        exact add _ fs (by simp [bareA, bareK, hn h2]) (fun f hf => hf) (by omega) hs
      · injection hs with hs
        simp only [Prod.mk.injEq] at hs
        obtain ⟨rfl, rfl⟩ := hs
        refine ⟨⟨fun _ => by simpa using hr, fun f hf => ?_⟩, fun f hf => ?_, by simp⟩
        · rcases List.mem_cons.1 hf with rfl | hf
          · simp [bareK]
          · exact h.2 f hf
        · rcases List.mem_cons.1 hf with rfl | hf
          · exact hn h2
          · exact hl f hf
  · split at hs
    · cases fs with
      | nil => cases hs
      | cons f q =>
        simp only at hs
        split at hs
        · cases hs
        · injection hs with hs
          exact add _ q (by simp [bareA, hl f (by simp), h.2 f (by simp)]) (fun g hg => by simp [hg]) (by simp; omega) hs
    · split at hs
      · cases fs with
        | nil =>
          simp only at hs
          split at hs
          · cases hs
          · injection hs with hs
            simp only [Prod.mk.injEq] at hs
            obtain ⟨rfl, rfl⟩ := hs
            exact ⟨h, hl, by simp⟩
        | cons f q =>
          simp only at hs
          split at hs
          · injection hs with hs
            simp only [Prod.mk.injEq] at hs
            obtain ⟨rfl, rfl⟩ := hs
            exact ⟨h, hl, by simp⟩
          · injection hs with hs
            simp only [Prod.mk.injEq] at hs
            obtain ⟨rfl, rfl⟩ := hs
            refine ⟨⟨fun _ => h.1 (by simp), fun g hg => ?_⟩, fun g hg => ?_, by simp⟩
            · rcases List.mem_cons.1 hg with rfl | hg
              · exact bare_addTx (h.2 f (by simp))
              · exact h.2 g (by simp [hg])
            · rcases List.mem_cons.1 hg with rfl | hg
              · exact hl f (by simp)
              · exact hl g (by simp [hg])
      · injection hs with hs
        simp only [Prod.mk.injEq] at hs
        obtain ⟨rfl, rfl⟩ := hs
        exact ⟨h, hl, by omega⟩
/-- What taking a piece leaves. -/
def TakePost (base rb j : Nat) (ρ : Part) (w : World) (o : Option (List Fr × Option Tr)) (e : Ending) (w' : World) : Prop :=
  Below base w w' ∧ ((o = none ∧ e = .returned (.bool false) ∧ Below w.heap.size w w') ∨ ∃ fs' root' ρ' ps' vs' g' c', o = some (fs', root') ∧ e = .returned (.bool true) ∧ RdV ρ' w' base rb (stk fs' root') ps' vs' g' c' ∧ ∀ b, b < w.heap.size → Fix j (ρ b) → ρ' b = ρ b ∧ w'.heap[b]? = w.heap[b]?)
/-- What lies elsewhere turns. -/
theorem RdV.turn {ρ : Part} {w w' : World} {base rb j g c : Nat} {st : List Tr} {ps : List Nat} {vs : List (Value × Value)} (h : RdV ρ w base rb st ps vs g c) (hsz : w.heap.size ≤ w'.heap.size) (heq : ∀ b, b < w.heap.size → ρ b ≠ (5, j) → w'.heap[b]? = w.heap[b]?) :
    RdV (fun b => if ρ b = (5, j) then (0, 0) else ρ b) w' base rb st ps vs g c ∧ RdV ρ w' base rb st ps vs g c := by
  have hl := h.lt
  obtain ⟨h1, h2, h3, h4, h5, h6⟩ := h
  have e1 := heq rb hl (by rw [h3]; simp)
  have e2 := heq g h4.lt (by rw [h5]; simp)
  refine ⟨⟨e1.trans h1, h2, (if_neg (by rw [h3]; simp)).trans h3, h4.keep e2, (if_neg (by rw [h5]; simp)).trans h5, h6.keep hsz ?_⟩, ⟨e1.trans h1, h2, h3, h4.keep e2, h5, h6.keep hsz ?_⟩⟩
  · intro b _ hb hr
    have hne : ρ b ≠ (5, j) := fun e => by
      rw [e] at hr
      rcases hr with hr | hr
      · simp at hr
      · simp at hr
    exact ⟨if_neg hne, heq b hb hne⟩
  · intro b _ hb hr
    have hne : ρ b ≠ (5, j) := fun e => by
      rw [e] at hr
      rcases hr with hr | hr
      · simp at hr
      · simp at hr
    exact ⟨rfl, heq b hb hne⟩
theorem RdV.cons {ρ : Part} {w : World} {base rb g c : Nat} {t : Tr} {r : List Tr} {ps : List Nat} {vs : List (Value × Value)} (h : RdV ρ w base rb (t :: r) ps vs g c) : ∃ p qs va vk q, ps = p :: qs ∧ vs = (va, vk) :: q := by
  obtain ⟨_, _, _, _, _, h6⟩ := h
  rw [OpenP] at h6
  obtain ⟨p, va, vk, qs, q, lk, rfl, rfl, _⟩ := h6
  exact ⟨p, qs, va, vk, q, rfl, rfl⟩
theorem stk_cons (fs : List Fr) (root : Option Tr) : ∃ u r, stk fs root = u :: r ∧ (∀ B, (∀ f ∈ fs, f.kids.length ≤ B) → 1 ≤ B → (trK u).length ≤ B) := by
  cases fs with
  | nil =>
    refine ⟨_, _, rfl, fun B _ hB => ?_⟩
    cases root with
    | none => simp [trK]
    | some u => simpa [trK] using hB
  | cons f q => exact ⟨_, _, rfl, fun B h _ => h f (by simp)⟩
end Go.Proofs.YtjldpkhfiffinaaGreatDoor.U

namespace Go.Proofs.YtjldpkhfiffinaaGreatDoor.U
open Go.RowKit Go.Shelf
/-- The library's variable MaxLen holds a number. -/
def Mx (w : World) : Prop := ∃ m, w.cell? ⟨2, 0, none⟩ = some (.int .i64 m)
structure LayT (w : World) : Prop where
  lay : LayS w
  mx : Mx w
theorem LayT.size {w : World} (h : LayT w) : 6 ≤ w.heap.size := by
  have h0 := h.lay.size
  obtain ⟨_, h1⟩ := h.mx
  have := block_lt_of_cell h1
  simp at this
  omega
theorem Mx.drewN {w : World} (h : Mx w) (n : Nat) : Mx (w.drewN n) := by
  obtain ⟨m, hm⟩ := h
  exact ⟨m, hm⟩
theorem LayT.below {w w' : World} {B : Nat} (h : LayT w) (hb : Below B w w') (hB : 6 ≤ B) : LayT w' :=
  ⟨h.lay.below hb (by omega), by
    obtain ⟨m, hm⟩ := h.mx
    exact ⟨m, (hb.cell (p := ⟨2, 0, none⟩) (by simp; omega)).trans hm⟩⟩
/-- What writes one block alone, above all tables. -/
theorem below_of_grown {w w' : World} {b : Nat} (hg : w.grownBy w' (some b)) (hb : b < w.heap.size) : Below b w w' :=
  ⟨hg.os, hg.tape, hg.output, hg.size, fun k hk => hg.block k (by omega) (fun e => by have := Option.some.inj e; omega)⟩
theorem LayT.grown {w w' : World} {b : Nat} (h : LayT w) (hg : w.grownBy w' (some b)) (hb : b < w.heap.size) (hB : 6 ≤ b) : LayT w' :=
  h.below (below_of_grown hg hb) hB
theorem grow_refl (w : World) (r : Option Nat) : w.grownBy w r := ⟨rfl, rfl, rfl, Nat.le_refl _, fun _ _ _ => rfl⟩
theorem grow_trans {a b c : World} {r : Option Nat} (h : a.grownBy b r) (k : b.grownBy c r) : a.grownBy c r :=
  ⟨k.os.trans h.os, k.tape.trans h.tape, k.output.trans h.output, Nat.le_trans h.size k.size, fun i hi hr => (k.block i (Nat.lt_of_lt_of_le hi h.size) hr).trans (h.block i hi hr)⟩
theorem grow_below {w w' : World} (h : Below w.heap.size w w') (r : Option Nat) : w.grownBy w' r := ⟨h.os, h.tape, h.output, h.size, fun k hk _ => h.block k hk⟩
theorem grow_set (w : World) (b o : Nat) (u : Value) : w.grownBy (w.setCell ⟨b, o, none⟩ u) (some b) :=
  ⟨rfl, rfl, rfl, by simp, fun k _ hr => Below.heap_setCell w ⟨b, o, none⟩ u k (fun e => hr (by rw [e]))⟩
theorem grow_drewN (w : World) (n : Nat) (r : Option Nat) : w.grownBy (w.drewN n) r := ⟨rfl, rfl, rfl, Nat.le_refl _, fun _ _ _ => rfl⟩
/-- A scanner's block: the document, the place, the marks. -/
def BoxS (b : Nat) (doc : ByteArray) (p : Nat) (v : Value) (w : World) : Prop := w.heap[b]? = some (.cells #[.string doc, .int .i64 p, v] 118 (0, 0))
theorem BoxS.at {b p : Nat} {doc : ByteArray} {v : Value} {w : World} (h : BoxS b doc p v w) :
    w.cell? ⟨b, 0, none⟩ = some (.string doc) ∧ w.cell? ⟨b, 1, none⟩ = some (.int .i64 p) ∧ w.cell? ⟨b, 2, none⟩ = some v ∧ w.frozen? ⟨b, 0, none⟩ = false ∧ w.frozen? ⟨b, 1, none⟩ = false ∧ w.frozen? ⟨b, 2, none⟩ = false :=
  ⟨by rw [Lib.cell_of_heap h]; rfl, by rw [Lib.cell_of_heap h]; rfl, by rw [Lib.cell_of_heap h]; rfl, Lib.frozen_of_heap h 0, Lib.frozen_of_heap h 1, Lib.frozen_of_heap h 2⟩
theorem BoxS.lt {b p : Nat} {doc : ByteArray} {v : Value} {w : World} (h : BoxS b doc p v w) : b < w.heap.size := (Array.getElem?_eq_some_iff.1 h).1
theorem BoxS.below {b p : Nat} {doc : ByteArray} {v : Value} {w w' : World} (h : BoxS b doc p v w) (hb : Below w.heap.size w w') : BoxS b doc p v w' := (hb.block b h.lt).trans h
theorem BoxS.drewN {b p : Nat} {doc : ByteArray} {v : Value} {w : World} (h : BoxS b doc p v w) (n : Nat) : BoxS b doc p v (w.drewN n) := h
theorem BoxS.set {b p : Nat} {doc : ByteArray} {v : Value} {w : World} (h : BoxS b doc p v w) (p' : Nat) : BoxS b doc p' v (w.setCell ⟨b, 1, none⟩ (.int .i64 p')) := by
  unfold BoxS at h ⊢
  simp [World.setCell, Array.getElem?_modify, h]
/-- What a scanner's method leaves: the place may be another one, and there may be new blocks. -/
structure Moves (b : Nat) (doc : ByteArray) (v : Value) (p' : Nat) (w w' : World) : Prop where
  grown : w.grownBy w' (some b)
  box : BoxS b doc p' v w'
theorem Moves.trans {b p q : Nat} {doc : ByteArray} {v : Value} {w w1 w2 : World} (h : Moves b doc v p w w1) (k : Moves b doc v q w1 w2) : Moves b doc v q w w2 := ⟨grow_trans h.grown k.grown, k.box⟩
theorem Moves.below {b p : Nat} {doc : ByteArray} {v : Value} {w w1 w2 : World} (h : Moves b doc v p w w1) (k : Below w1.heap.size w1 w2) : Moves b doc v p w w2 := ⟨grow_trans h.grown (grow_below k _), h.box.below k⟩
theorem beg_pre (s x : ByteArray) (p : Nat) : Lib.hasPrefix (s.extract p s.size).data.toList x.data.toList = begL (bts x) ((bts s).drop p) := by
  show (bts x).isPrefixOf (bts (s.extract p s.size)) = (bts x).isPrefixOf ((bts s).drop p)
  rw [bts_extract, List.take_of_length_le (by rw [bts_len]; omega)]
theorem hasPrefix_any (s x : ByteArray) (w : World) : Calls Tryz.prog 132 #[.string s, .string x] w fun e w' => e = .returned (.bool (begL (bts x) (bts s))) ∧ w = w' :=
  (S.strings_HasPrefix s x w).mono fun _ _ ⟨h1, h2⟩ => ⟨h1, h2.symm⟩
theorem index_find (x : List UInt8) : ∀ l : List UInt8, Lib.index l x = match findL x l with | some e => (e : Int) | none => -1 := by
  intro l
  induction l with
  | nil =>
    simp only [Lib.index, findL]
    cases x with
    | nil => rfl
    | cons a t => rfl
  | cons c t ih =>
    simp only [Lib.index, findL]
    rw [ih]
    by_cases h : x.isPrefixOf (c :: t) = true
    · rw [if_pos h, if_pos (show begL x (c :: t) = true from h)]
      rfl
    · rw [if_neg h, if_neg (show ¬ begL x (c :: t) = true from h)]
      cases findL x t with
      | none => rfl
      | some e =>
        simp only [Option.map_some]
        rw [if_neg (by simp)]
        rfl
theorem cut_some {x l : List UInt8} {e : Nat} (h : findL x l = some e) : Lib.cut l x = (l.take e, l.drop (e + x.length), true) := by
  unfold Lib.cut
  rw [index_find, h]
  simp only
  rw [if_pos (by omega)]
  simp
theorem cut_none {x l : List UInt8} (h : findL x l = none) : Lib.cut l x = (l, [], false) := by
  unfold Lib.cut
  rw [index_find, h]
  rfl
theorem contains_find (x l : List UInt8) : Lib.contains l x = (findL x l).isSome := by
  unfold Lib.contains
  rw [index_find]
  cases findL x l <;> simp
set_option maxHeartbeats 1000000 in
theorem more_any (b p : Nat) (doc : ByteArray) (v : Value) (w : World) (h : BoxS b doc p v w) :
    Calls Tryz.prog 58 #[.pointer (some ⟨b, 0, none⟩)] w fun e w' => e = .returned (.bool (decide (p < doc.size))) ∧ ∃ n, w' = w.drewN n := by
  obtain ⟨c0, c1, c2, f0, f1, f2⟩ := h.at
  by_cases hlt : p < doc.size
  · rw [decide_eq_true hlt]
    go_enter Tryz.func58, Tryz.ntmps58
    go_wp2_with fail
    go_quiet (fail)
    go_wp2
    go_ret
    exact ⟨rfl, _, rfl⟩
  · rw [decide_eq_false hlt]
    go_enter Tryz.func58, Tryz.ntmps58
    go_wp2_with fail
    go_quiet (fail)
    go_wp2
    go_ret
    exact ⟨rfl, _, rfl⟩
theorem moves_set {b p : Nat} {doc : ByteArray} {v : Value} {w : World} (h : BoxS b doc p v w) (n q : Nat) {z : Int} (hz : z = q) : Moves b doc v q w ((w.drewN n).setCell ⟨b, 1, none⟩ (.int .i64 z)) := by
  subst hz
  exact ⟨grow_trans (grow_drewN w n _) (grow_set _ _ _ _), (h.drewN n).set q⟩
theorem moves_stay {b p : Nat} {doc : ByteArray} {v : Value} {w : World} (h : BoxS b doc p v w) (n : Nat) : Moves b doc v p w (w.drewN n) := ⟨grow_drewN w n _, h.drewN n⟩
theorem rest_bts {s : ByteArray} {p : Nat} : bts (s.extract p s.size) = (bts s).drop p := by rw [bts_extract, List.take_of_length_le (by rw [bts_len]; omega)]
set_option maxHeartbeats 1000000 in
theorem skip_yes (b p : Nat) (doc x : ByteArray) (v : Value) (w : World) (h : BoxS b doc p v w) (hp : p ≤ doc.size) (hs : doc.size ≤ 100000) (hb : begL (bts x) ((bts doc).drop p) = true) :
    Calls Tryz.prog 107 #[.pointer (some ⟨b, 0, none⟩), .string x] w fun e w' => e = .returned (.bool true) ∧ Moves b doc v (p + x.size) w w' := by
  have hx := begL_len hb
  rw [List.length_drop, bts_len, bts_len] at hx
  have HH : Hid (∀ W, Calls Tryz.prog 132 #[.string (doc.extract p doc.size), .string x] W fun e w' => e = .returned (.bool true) ∧ w' = W) := Lib.hid (fun W => (hasPrefix_any _ x W).mono (by
    rintro e w' ⟨h1, h2⟩
    rw [rest_bts, hb] at h1
    exact ⟨h1, h2.symm⟩))
  have HB := Lib.hid h
  obtain ⟨c0, c1, c2, f0, f1, f2⟩ := h.at
  clear h hb
  go_enter Tryz.func107, Tryz.ntmps107
  go_wp2_with fail
  go_quiet ((go_at_call 132; exact Calls.quiet_of_same (HH.out _)))
  go_wp2
  go_ret
  exact ⟨rfl, moves_set HB.out _ _ (by omega)⟩
set_option maxHeartbeats 1000000 in
theorem skip_no (b p : Nat) (doc x : ByteArray) (v : Value) (w : World) (h : BoxS b doc p v w) (hp : p ≤ doc.size) (_hs : doc.size ≤ 100000) (hb : begL (bts x) ((bts doc).drop p) = false) :
    Calls Tryz.prog 107 #[.pointer (some ⟨b, 0, none⟩), .string x] w fun e w' => e = .returned (.bool false) ∧ Moves b doc v p w w' := by
  have HH : Hid (∀ W, Calls Tryz.prog 132 #[.string (doc.extract p doc.size), .string x] W fun e w' => e = .returned (.bool false) ∧ w' = W) := Lib.hid (fun W => (hasPrefix_any _ x W).mono (by
    rintro e w' ⟨h1, h2⟩
    rw [rest_bts, hb] at h1
    exact ⟨h1, h2.symm⟩))
  have HB := Lib.hid h
  obtain ⟨c0, c1, c2, f0, f1, f2⟩ := h.at
  clear h hb
  go_enter Tryz.func107, Tryz.ntmps107
  go_wp2_with fail
  go_quiet ((go_at_call 132; exact Calls.quiet_of_same (HH.out _)))
  go_wp2
  go_ret
  exact ⟨rfl, moves_stay HB.out _⟩
theorem cut_c {s x : ByteArray} {w : World} (hm : Mx w) (hs : s.size ≤ 1000000) (n : Nat) (y z : List UInt8) (ok : Bool) (hr : Lib.cut (bts s) (bts x) = (y, z, ok)) :
    Calls Tryz.prog 133 #[.string s, .string x] (w.drewN n) fun e w' => e = .returned (.tuple #[.string ⟨y.toArray⟩, .string ⟨z.toArray⟩, .bool ok]) ∧ ∃ m, w' = w.drewN m := by
  obtain ⟨m, hm⟩ := hm.drewN n
  refine Calls.quiet_of ((S.strings_Cut s x m _ (by omega) hm).mono ?_)
  rintro e w' ⟨h1, h2⟩
  refine ⟨?_, h2⟩
  rw [h1]
  show Ending.returned (.tuple #[.string ⟨(Lib.cut (bts s) (bts x)).1.toArray⟩, .string ⟨(Lib.cut (bts s) (bts x)).2.1.toArray⟩, .bool (Lib.cut (bts s) (bts x)).2.2]) = _
  rw [hr]
set_option maxHeartbeats 1000000 in
theorem until_some (b p k : Nat) (doc x : ByteArray) (v : Value) (w : World) (hm : Mx w) (h : BoxS b doc p v w) (hp : p ≤ doc.size) (hs : doc.size ≤ 100000) (hb : findL (bts x) ((bts doc).drop p) = some k) :
    Calls Tryz.prog 126 #[.pointer (some ⟨b, 0, none⟩), .string x] w fun e w' => e = .returned (.tuple #[.string ⟨(((bts doc).drop p).take k).toArray⟩, .bool true]) ∧ Moves b doc v (p + (k + x.size)) w w' := by
  have hx := findL_len hb
  rw [List.length_drop, bts_len, bts_len] at hx
  have HC := Lib.hid (fun n => cut_c (s := doc.extract p doc.size) (x := x) hm (by rw [ByteArray.size_extract]; omega) n (((bts doc).drop p).take k) (((bts doc).drop p).drop (k + (bts x).length)) true (by rw [rest_bts]; exact cut_some hb))
  have HS : Hid ((⟨(((bts doc).drop p).take k).toArray⟩ : ByteArray).size = k) := Lib.hid (by rw [← bts_len, bts_mk, List.length_take, List.length_drop, bts_len]; omega)
  have HB := Lib.hid h
  obtain ⟨c0, c1, c2, f0, f1, f2⟩ := h.at
  generalize (⟨(((bts doc).drop p).take k).toArray⟩ : ByteArray) = y at HS HC ⊢
  have hy : y.size ≤ 100000 := by have := HS.out; omega
  clear h hb hm
  go_enter Tryz.func126, Tryz.ntmps126
  go_wp2_with fail
  go_quiet ((go_at_call 133; exact HC.out _))
  go_wp2
  go_ret2
  exact ⟨rfl, moves_set HB.out _ _ (by have := HS.out; omega)⟩
set_option maxHeartbeats 1000000 in
theorem until_none (b p : Nat) (doc x : ByteArray) (v : Value) (w : World) (hm : Mx w) (h : BoxS b doc p v w) (hp : p ≤ doc.size) (hs : doc.size ≤ 100000) (hb : findL (bts x) ((bts doc).drop p) = none) :
    Calls Tryz.prog 126 #[.pointer (some ⟨b, 0, none⟩), .string x] w fun e w' => e = .returned (.tuple #[.string (doc.extract p doc.size), .bool false]) ∧ Moves b doc v p w w' := by
  have HC := Lib.hid (fun n => cut_c (s := doc.extract p doc.size) (x := x) hm (by rw [ByteArray.size_extract]; omega) n ((bts doc).drop p) [] false (by rw [rest_bts]; exact cut_none hb))
  have HS : Hid ((⟨((bts doc).drop p).toArray⟩ : ByteArray) = doc.extract p doc.size) := Lib.hid (by rw [← rest_bts, mk_bts])
  simp only [HS.out] at HC
  have HB := Lib.hid h
  obtain ⟨c0, c1, c2, f0, f1, f2⟩ := h.at
  clear h hb hm HS
  go_enter Tryz.func126, Tryz.ntmps126
  go_wp2_with fail
  go_quiet ((go_at_call 133; exact HC.out _))
  go_wp2
  go_ret2
  exact ⟨rfl, moves_stay HB.out _⟩
set_option maxHeartbeats 1000000 in
theorem ends_any (b p : Nat) (doc : ByteArray) (v : Value) (w : World) (h : BoxS b doc p v w) (hp : p ≤ doc.size) :
    Calls Tryz.prog 129 #[.pointer (some ⟨b, 0, none⟩)] w fun e w' => e = .returned (.bool (begL [47, 62] ((bts doc).drop p) || begL [62] ((bts doc).drop p))) ∧ Moves b doc v p w w' := by
  have HB := Lib.hid h
  obtain ⟨c0, c1, c2, f0, f1, f2⟩ := h.at
  have H1 : Hid (∀ W, Calls Tryz.prog 132 #[.string (doc.extract p doc.size), .string ⟨#[47, 62]⟩] W fun e w' => e = .returned (.bool (begL [47, 62] ((bts doc).drop p))) ∧ W = w') := Lib.hid (fun W => by
    have := hasPrefix_any (doc.extract p doc.size) ⟨#[47, 62]⟩ W
    rw [rest_bts] at this; exact this)
  have H2 : Hid (∀ W, Calls Tryz.prog 132 #[.string (doc.extract p doc.size), .string ⟨#[62]⟩] W fun e w' => e = .returned (.bool (begL [62] ((bts doc).drop p))) ∧ W = w') := Lib.hid (fun W => by
    have := hasPrefix_any (doc.extract p doc.size) ⟨#[62]⟩ W
    rw [rest_bts] at this; exact this)
  clear h
  generalize begL [47, 62] ((bts doc).drop p) = q at H1 ⊢
  generalize begL [62] ((bts doc).drop p) = q2 at H2 ⊢
  go_enter Tryz.func129, Tryz.ntmps129
  go_wp2_with fail
  go_quiet (fail)
  go_wp2_with fail
  refine (H1.out _).mono ?_
  rintro e w2 ⟨rfl, rfl⟩
  cases q with
  | true =>
    go_wp2
    go_ret
    exact ⟨rfl, moves_stay HB.out _⟩
  | false =>
    go_wp2_with fail
    refine (H2.out _).mono ?_
    rintro e w2 ⟨rfl, rfl⟩
    go_wp2
    go_ret
    exact ⟨rfl, moves_stay HB.out _⟩
end Go.Proofs.YtjldpkhfiffinaaGreatDoor.U

namespace Go.Proofs.YtjldpkhfiffinaaGreatDoor.U
open Go.RowKit Go.Shelf
/-- A Replacer's block. -/
def BoxR (g : Nat) (d s : Int) (rv ov : Value) (w : World) : Prop := w.heap[g]? = some (.cells #[.int .u32 d, .int .i32 s, .int .u32 0, rv, ov] 223 (0, 0))
theorem BoxR.at {g : Nat} {d s : Int} {rv ov : Value} {w : World} (h : BoxR g d s rv ov w) :
    (w.cell? ⟨g, 0, none⟩ = some (.int .u32 d) ∧ w.cell? ⟨g, 1, none⟩ = some (.int .i32 s) ∧ w.cell? ⟨g, 3, none⟩ = some rv ∧ w.cell? ⟨g, 4, none⟩ = some ov) ∧
    w.frozen? ⟨g, 0, none⟩ = false ∧ w.frozen? ⟨g, 1, none⟩ = false ∧ w.frozen? ⟨g, 3, none⟩ = false ∧ w.frozen? ⟨g, 4, none⟩ = false :=
  ⟨⟨by rw [Lib.cell_of_heap h]; rfl, by rw [Lib.cell_of_heap h]; rfl, by rw [Lib.cell_of_heap h]; rfl, by rw [Lib.cell_of_heap h]; rfl⟩, Lib.frozen_of_heap h 0, Lib.frozen_of_heap h 1, Lib.frozen_of_heap h 3, Lib.frozen_of_heap h 4⟩
theorem BoxR.lt {g : Nat} {d s : Int} {rv ov : Value} {w : World} (h : BoxR g d s rv ov w) : g < w.heap.size := (Array.getElem?_eq_some_iff.1 h).1
theorem BoxR.below {g : Nat} {d s : Int} {rv ov : Value} {w w' : World} (h : BoxR g d s rv ov w) (hb : Below w.heap.size w w') : BoxR g d s rv ov w' := (hb.block g h.lt).trans h
/-- The four texts of the call. -/
def FourS (a : Nat) (w : World) : Prop := w.cell? ⟨a, 0, none⟩ = some (.string ⟨#[9]⟩) ∧ w.cell? ⟨a, 1, none⟩ = some (.string ⟨#[32]⟩) ∧ w.cell? ⟨a, 2, none⟩ = some (.string ⟨#[10]⟩) ∧ w.cell? ⟨a, 3, none⟩ = some (.string ⟨#[32]⟩)
/-- A table of bytes in a block. -/
def TabAt (t : Nat) (f : Nat → Nat) (n : Nat) (w : World) : Prop := ∃ C : Array Value, w.heap[t]? = some (.cells C 262 (0, 0)) ∧ C.size = 256 ∧ ∀ j, j < n → C[j]? = some (.int .u8 (f j))
theorem TabAt.set {t : Nat} {f g : Nat → Nat} {n m k x : Nat} {w : World} (h : TabAt t f n w) (hk : k < 256) (hm : ∀ j, j < m → j ≠ k → j < n ∧ f j = g j) (hx : x = g k) : TabAt t g m (w.setCell ⟨t, k, none⟩ (.int .u8 x)) := by
  obtain ⟨C, h1, h2, h3⟩ := h
  refine ⟨C.setIfInBounds k (.int .u8 x), ?_, by simp [h2], fun j hj => ?_⟩
  · simp [World.setCell, Array.getElem?_modify, h1]
  · rw [Array.getElem?_setIfInBounds]
    by_cases e : k = j
    · subst e; rw [if_pos rfl, if_pos (by omega), hx]
    · rw [if_neg e]
      obtain ⟨h4, h5⟩ := hm j hj (fun e2 => e e2.symm)
      rw [h3 j h4, h5]
theorem TabAt.cell {t : Nat} {f : Nat → Nat} {n k : Nat} {w : World} (h : TabAt t f n w) (hk : k < 256) : (∃ u, w.cell? ⟨t, k, none⟩ = some u) ∧ w.frozen? ⟨t, k, none⟩ = false ∧ (k < n → w.cell? ⟨t, k, none⟩ = some (.int .u8 (f k))) := by
  obtain ⟨C, h1, h2, h3⟩ := h
  refine ⟨⟨C[k]'(by omega), ?_⟩, Lib.frozen_of_heap h1 k, fun hn => ?_⟩
  · rw [Lib.cell_of_heap h1]; simp
  · rw [Lib.cell_of_heap h1]; exact h3 k hn
theorem TabAt.lt {t : Nat} {f : Nat → Nat} {n : Nat} {w : World} (h : TabAt t f n w) : t < w.heap.size := by obtain ⟨C, h1, _⟩ := h; exact (Array.getElem?_eq_some_iff.1 h1).1
theorem TabAt.below {t : Nat} {f : Nat → Nat} {n : Nat} {w w' : World} (h : TabAt t f n w) (hb : Below w.heap.size w w') : TabAt t f n w' := by
  have hl := h.lt
  obtain ⟨C, h1, h2⟩ := h
  exact ⟨C, (hb.block t hl).trans h1, h2⟩
/-- 32 for 9 and 10. -/
def tabF (j : Nat) : Nat := if j = 9 ∨ j = 10 then 32 else j
set_option maxHeartbeats 4000000 in
set_option maxRecDepth 20000 in
theorem build_any (g a cap : Nat) (d s : Int) (rv : Value) (w : World) (h : BoxR g d s rv (.slice (some ⟨a, 0, none⟩) 4 cap) w) (hf : FourS a w) :
    Calls Tryz.prog 194 #[.pointer (some ⟨g, 0, none⟩)] w fun e w' => ∃ t, e = .returned (.iface 263 (.pointer (some ⟨t, 0, none⟩))) ∧ w.heap.size ≤ t ∧ TabAt t tabF 256 w' ∧ Below w.heap.size w w' := by
  obtain ⟨⟨c0, c1, c3, c4⟩, f0, f1, f3, f4⟩ := h.at
  obtain ⟨t0, t1, t2, t3⟩ := hf
  clear h
  have hst := fun W : World => run_storeCells_new (P := Tryz.prog) W 262 Tryz.zeroCells262 Tryz.zeroCells262 (by kernel_rfl) rfl (by kernel_rfl)
  have hB1 : Below w.heap.size w (w.alloc (.cells Tryz.zeroCells262 262)) := (Below.refl _ w).alloc (Nat.le_refl _) _
  have HT1 : Hid (TabAt w.heap.size (fun j => j) 0 (w.alloc (.cells Tryz.zeroCells262 262))) := Lib.hid ⟨Tryz.zeroCells262, heap_alloc_last w _, Tryz.zeroCells262_size, fun j hj => by omega⟩
  have HB1 := Lib.hid hB1
  clear hB1
  go_enter Tryz.func194, Tryz.ntmps194
  go_wp2_with fail
  refine wp_loop_rounds 3 ?_
  rw [rounds_succ]
  go_wp2_with fail
  rw [rounds_succ]
  go_wp2_with fail
  rw [rounds_succ]
  go_wp2_with fail
  go_loopw [61] (fun i wr => ∃ k : Nat, k ≤ 256 ∧ i = .int .i64 k ∧ Hid (TabAt w.heap.size (fun j => j) k wr) ∧ Hid (Below w.heap.size w wr)) (fun i _ => 256 - (intOf i).toNat)
  case atStart => exact ⟨0, by omega, rfl, HT1, HB1⟩
  case round =>
    obtain ⟨k, hk, rfl, HT, HB⟩ := hrel
    by_cases hlt : k < 256
    · obtain ⟨⟨u, q0⟩, q1, _⟩ := HT.out.cell hlt
      have hw : IntKind.u8.wrap (k : Int) = (k : Int) := wrap_u8_in _ (by omega) (by omega)
      go_wp2
      exact ⟨⟨k + 1, by omega, by go_num, Lib.hid (HT.out.set hlt (fun j hj hne => ⟨by omega, rfl⟩) rfl), Lib.hid (HB.out.setCell (p := ⟨w.heap.size, k, none⟩) (Nat.le_refl _) _)⟩, by simp [intOf]; omega⟩
    · obtain rfl : k = 256 := by omega
      have hup : ∀ {p : Addr} {u : Value}, w.cell? p = some u → wr.cell? p = some u := fun h => (HB.out.cell (block_lt_of_cell h)).trans h
      have d0 := hup t0
      have d1 := hup t1
      have d2 := hup t2
      have d3 := hup t3
      clear hup t0 t1 t2 t3 c0 c1 c3 c4 f0 f1 f3 f4
      obtain ⟨⟨u10, q10⟩, p10, _⟩ := HT.out.cell (k := 10) (by omega)
      obtain ⟨⟨u9, q9⟩, p9, _⟩ := HT.out.cell (k := 9) (by omega)
      have hT2 := HT.out.set (k := 10) (x := 32) (m := 256) (g := fun j => if j = 10 then 32 else j) (by omega) (fun j hj hne => ⟨hj, by simp [hne]⟩) rfl
      have hT3 := Lib.hid (hT2.set (k := 9) (x := 32) (m := 256) (g := tabF) (by omega) (fun j hj hne => ⟨hj, by simp [tabF, hne]⟩) rfl)
      clear hT2
      have b10 : ∀ h, ((⟨#[10]⟩ : ByteArray)[0]'h).toNat = 10 := fun _ => rfl
      have b9 : ∀ h, ((⟨#[9]⟩ : ByteArray)[0]'h).toNat = 9 := fun _ => rfl
      have b32 : ∀ h, ((⟨#[32]⟩ : ByteArray)[0]'h).toNat = 32 := fun _ => rfl
      go_wp2_with fail
      refine wp_loop_rounds 3 ?_
      rw [rounds_succ]
      go_wp2_with fail
      rw [rounds_succ]
      go_wp2_with fail
      rw [rounds_succ]
      go_wp2_with fail
      go_ret
      exact ⟨_, rfl, Nat.le_refl _, hT3.out, (HB.out.setCell (p := ⟨w.heap.size, 10, none⟩) (Nat.le_refl _) _).setCell (p := ⟨w.heap.size, 9, none⟩) (Nat.le_refl _) _⟩
end Go.Proofs.YtjldpkhfiffinaaGreatDoor.U

namespace Go.Proofs.YtjldpkhfiffinaaGreatDoor.U
open Go.RowKit Go.Shelf
theorem BoxR.set3 {g : Nat} {d s : Int} {rv ov : Value} {w : World} (h : BoxR g d s rv ov w) (x : Value) : BoxR g d s x ov (w.setCell ⟨g, 3, none⟩ x) := by
  unfold BoxR at h ⊢
  simp [World.setCell, Array.getElem?_modify, h]
theorem BoxR.set4 {g : Nat} {d s : Int} {rv ov : Value} {w : World} (h : BoxR g d s rv ov w) (x : Value) : BoxR g d s rv x (w.setCell ⟨g, 4, none⟩ x) := by
  unfold BoxR at h ⊢
  simp [World.setCell, Array.getElem?_modify, h]
theorem BoxR.set0 {g : Nat} {d s : Int} {rv ov : Value} {w : World} (h : BoxR g d s rv ov w) (x : Int) : BoxR g x s rv ov (w.setCell ⟨g, 0, none⟩ (.int .u32 x)) := by
  unfold BoxR at h ⊢
  simp [World.setCell, Array.getElem?_modify, h]
theorem BoxR.set1 {g : Nat} {d s : Int} {rv ov : Value} {w : World} (h : BoxR g d s rv ov w) (x : Int) : BoxR g d x rv ov (w.setCell ⟨g, 1, none⟩ (.int .i32 x)) := by
  unfold BoxR at h ⊢
  simp [World.setCell, Array.getElem?_modify, h]
/-- What the building leaves: the Replacer's block g alone has been written. -/
def Built (g : Nat) (d s : Int) (w w' : World) : Prop :=
  ∃ t, BoxR g d s (.iface 263 (.pointer (some ⟨t, 0, none⟩))) (.slice none 0 0) w' ∧ TabAt t tabF 256 w' ∧ w.heap.size ≤ t ∧ w.grownBy w' (some g)
set_option maxHeartbeats 1000000 in
theorem buildOnce_any (g a cap : Nat) (d s : Int) (rv : Value) (w : World) (h : BoxR g d s rv (.slice (some ⟨a, 0, none⟩) 4 cap) w) (hf : FourS a w) :
    Calls Tryz.prog 174 #[.pointer (some ⟨g, 0, none⟩)] w fun e w' => e = .returned (.tuple #[]) ∧ Built g d s w w' := by
  have HB := Lib.hid (build_any g a cap d s rv w h hf)
  have H := Lib.hid h
  clear h hf
  go_enter Tryz.func174, Tryz.ntmps174
  go_wp2_with fail
  refine HB.out.mono ?_
  rintro e w2 ⟨t, rfl, ht, hT, hb⟩
  have H2 := Lib.hid (H.out.below hb)
  have HT := Lib.hid hT
  have HBB := Lib.hid hb
  have HTL := Lib.hid ht
  have H3 := Lib.hid ((H2.out.set3 (.iface 263 (.pointer (some ⟨t, 0, none⟩)))).set4 (.slice none 0 0))
  clear hT hb ht
  obtain ⟨⟨c0, c1, c3, c4⟩, f0, f1, f3, f4⟩ := H2.out.at
  go_wp2
  go_end0
  refine ⟨rfl, t, H3.out, ?_, HTL.out, grow_trans (grow_trans (grow_below HBB.out _) (grow_set _ _ _ _)) (grow_set _ _ _ _)⟩
  obtain ⟨C, h1, h2⟩ := HT.out
  have hg := H.out.lt
  have htl := HTL.out
  exact ⟨C, (Below.heap_setCell _ ⟨g, 4, none⟩ _ t (by simp; omega)).trans ((Below.heap_setCell _ ⟨g, 3, none⟩ _ t (by simp; omega)).trans h1), h2⟩
theorem disable (w : World) : (callFunc 221 #[]).run Tryz.prog w = .ok (.value (.tuple #[])) w := run_call_mark0 Tryz.func221 (by kernel_rfl) (by kernel_rfl) (by kernel_rfl) .disable (by kernel_rfl) w
theorem enable (w : World) : (callFunc 223 #[]).run Tryz.prog w = .ok (.value (.tuple #[])) w := run_call_mark0 Tryz.func223 (by kernel_rfl) (by kernel_rfl) (by kernel_rfl) .enable (by kernel_rfl) w
theorem acquire (a : Addr) (w : World) : (callFunc 224 #[.pointer (some a)]).run Tryz.prog w = .ok (.value (.tuple #[])) w := run_call_marked Tryz.func224 (by kernel_rfl) (by kernel_rfl) (by kernel_rfl) .acquire (by kernel_rfl) a w
theorem releaseMerge (a : Addr) (w : World) : (callFunc 226 #[.pointer (some a)]).run Tryz.prog w = .ok (.value (.tuple #[])) w := run_call_marked Tryz.func226 (by kernel_rfl) (by kernel_rfl) (by kernel_rfl) .releaseMerge (by kernel_rfl) a w
/-- '(*sync/atomic.Bool).Store(true)', as a deferred call: the cell holds 1. -/
theorem store_deferred (a : Addr) (x : Value) (u : FrameMode) (w : World) (hc : w.cell? a = some x) (hz : w.frozen? a = false) :
    CallsD Tryz.prog 207 #[.pointer (some a), .bool true] u w fun e u' w' => u' = u ∧ (e = .returned (.tuple #[]) ∧ w' = w.drew.setCell a (.int .u32 1)) := by
  have hc' : w.drew.cell? a = some x := by go_simp
  have hz' : w.drew.frozen? a = false := by go_simp
  have hst := run_call_store (P := Tryz.prog) Tryz.func215 (by kernel_rfl) (by kernel_rfl) (by kernel_rfl) (by kernel_rfl) (k := .u32) (y := 1) hc' hz'
  go_enter_d Tryz.func207, Tryz.ntmps207
  go_wp2
  go_region_calls
  all_goals (go_end0; exact ⟨rfl, rfl⟩)
set_option maxRecDepth 20000 in
/-- '(*sync.Mutex).Unlock', as a deferred call, the lock held and nobody waiting. -/
theorem unlock_deferred (a : Addr) (u : FrameMode) (w : World) (hc : w.cell? a = some (.int .i32 1)) (hz : w.frozen? a = false) :
    CallsD Tryz.prog 206 #[.pointer (some a)] u w fun e u' w' => u' = u ∧ (e = .returned (.tuple #[]) ∧ w' = w.setCell a (.int .i32 0)) := by
  have hd := disable
  have he := enable
  have hr := releaseMerge
  have hadd := run_call_add (P := Tryz.prog) Tryz.func227 (by kernel_rfl) (by kernel_rfl) (by kernel_rfl) .i32 (by kernel_rfl) (y := -1) (s := 0) hc hz (by simp [go_sem]; rfl)
  have hcv := run_convert_to_unsafe (P := Tryz.prog) (src := 287) (dst := 167) Tryz.underlying287 Tryz.underlying167 (by kernel_rfl) hc
  go_enter_d Tryz.func206, Tryz.ntmps206
  go_wp2
  go_end0
  go_wp2
  go_end0
  exact ⟨rfl, rfl⟩
set_option maxRecDepth 20000 in
/-- '(*sync.Mutex).Lock', the lock free. -/
theorem lock_free (a : Addr) (w : World) (hc : w.cell? a = some (.int .i32 0)) (hz : w.frozen? a = false) :
    Calls Tryz.prog 205 #[.pointer (some a)] w fun e w' => e = .returned (.tuple #[]) ∧ w' = w.setCell a (.int .i32 1) := by
  have hd := disable
  have he := enable
  have ha := acquire
  have hcas := run_call_cas_hit (P := Tryz.prog) Tryz.func222 (by kernel_rfl) (by kernel_rfl) (by kernel_rfl) .i32 (by kernel_rfl) (y := 1) hc hz
  have hc' : (w.setCell a (.int .i32 1)).cell? a = some (.int .i32 1) := World.cell?_setCell_same w a _ hc
  have hcv := run_convert_to_unsafe (P := Tryz.prog) (src := 287) (dst := 167) Tryz.underlying287 Tryz.underlying167 (by kernel_rfl) hc'
  go_enter Tryz.func205, Tryz.ntmps205
  go_wp2
  first | go_end0 | (simp only [Exit.inBlock, Exit.then]; refine bodyPost_ret (results_none rfl _ _ _) rfl ?_) | refine bodyPost_ret (results_none rfl _ _ _) rfl ?_
  go_wp2
  go_end0
  exact ⟨rfl, rfl⟩
theorem load_zero (a : Addr) (w : World) (h0 : w.cell? a = some (.int .u32 0)) :
    Calls Tryz.prog 192 #[.pointer (some a)] w fun e w' => e = .returned (.bool false) ∧ w = w' := by
  have hl := run_call_load (P := Tryz.prog) Tryz.func204 (by kernel_rfl) (by kernel_rfl) (by kernel_rfl) .u32 (by kernel_rfl) h0
  go_enter Tryz.func192, Tryz.ntmps192
  go_wp2
  go_ret
  exact ⟨rfl, rfl⟩
set_option maxRecDepth 100000 in
set_option maxHeartbeats 1600000 in
theorem slow_any (g a cap : Nat) (w : World) (h : BoxR g 0 0 .nilIface (.slice (some ⟨a, 0, none⟩) 4 cap) w) (hf : FourS a w) (ha : a ≠ g) :
    Calls Tryz.prog 193 #[.pointer (some ⟨g, 0, none⟩), .func (.func 174) #[.pointer (some ⟨g, 0, none⟩)] #[]] w fun e w' => e = .returned (.tuple #[]) ∧ Built g 1 0 w w' := by
  have H1 := Lib.hid (h.set1 1)
  have HF : Hid (FourS a (w.setCell ⟨g, 1, none⟩ (.int .i32 1))) := Lib.hid ⟨(World.cell?_setCell_other _ ⟨g, 1, none⟩ _ _ (by simp)).trans hf.1, (World.cell?_setCell_other _ ⟨g, 1, none⟩ _ _ (by simp)).trans hf.2.1, (World.cell?_setCell_other _ ⟨g, 1, none⟩ _ _ (by simp)).trans hf.2.2.1, (World.cell?_setCell_other _ ⟨g, 1, none⟩ _ _ (by simp)).trans hf.2.2.2⟩
  have HO := Lib.hid (buildOnce_any g a cap 0 1 .nilIface _ H1.out HF.out)
  obtain ⟨⟨c0, c1, c3, c4⟩, f0, f1, f3, f4⟩ := h.at
  obtain ⟨⟨d0, d1, d3, d4⟩, g0, g1, g3, g4⟩ := H1.out.at
  have HL := Lib.hid (load_zero ⟨g, 0, none⟩ _ d0)
  clear h hf
  go_enter_defers Tryz.func193, Tryz.ntmps193
  go_wp2_with fail
  refine (lock_free ⟨g, 1, none⟩ _ c1 f1).mono ?_
  rintro e w' ⟨rfl, rfl⟩
  go_wp2_with fail
  refine HL.out.mono ?_
  rintro e w2 ⟨rfl, rfl⟩
  go_wp2_with fail
  refine HO.out.mono ?_
  rintro e w2 ⟨rfl, hbt⟩
  go_wp2
  obtain ⟨t, hbx, hT, htl, hg⟩ := hbt
  obtain ⟨⟨e0, e1, e3, e4⟩, z0, z1, z3, z4⟩ := hbx.at
  have hgl := hbx.lt
  have hy1 : (w2.drew.setCell ⟨g, 0, none⟩ (.int .u32 1)).cell? ⟨g, 1, none⟩ = some (.int .i32 1) := ((World.cell?_setCell_other _ ⟨g, 0, none⟩ ⟨g, 1, none⟩ _ (by simp)).trans (by rw [World.cell?_drew]; exact e1))
  refine leaves_cons (f := 207) (args := #[.pointer (some ⟨g, 0, none⟩), .bool true]) (by simp) (by simp [go_sem]) ?_
  refine (store_deferred ⟨g, 0, none⟩ (.int .u32 0) .returning _ e0 z0).mono ?_
  rintro e u' w'' ⟨rfl, rfl, rfl⟩
  refine leaves_cons (f := 206) (args := #[.pointer (some ⟨g, 1, none⟩)]) (by simp [settle]) (by simp [go_sem]) ?_
  refine (unlock_deferred ⟨g, 1, none⟩ _ _ hy1 (by simp [z1])).mono ?_
  rintro e u' w'' ⟨rfl, rfl, rfl⟩
  have hfin : Built g 1 0 w ((w2.drew.setCell ⟨g, 0, none⟩ (.int .u32 1)).setCell ⟨g, 1, none⟩ (.int .i32 0)) := by
    have hg0 := H1.out.lt
    simp at hg0 htl
    have hx2 : BoxR g 0 1 _ _ w2.drew := hbx
    refine ⟨t, (hx2.set0 1).set1 0, ?_, htl, grow_trans (grow_trans (grow_trans (grow_set w g 1 (.int .i32 1)) (grow_trans hg (grow_drewN w2 1 _))) (grow_set _ _ _ _)) (grow_set _ _ _ _)⟩
    obtain ⟨C, h1, h2⟩ := hT
    exact ⟨C, (Below.heap_setCell _ ⟨g, 1, none⟩ _ t (by simp; omega)).trans ((Below.heap_setCell _ ⟨g, 0, none⟩ _ t (by simp; omega)).trans h1), h2⟩
  simp [Leaves, settle, results, Tryz.results193]
  exact hfin
set_option maxRecDepth 100000 in
set_option maxHeartbeats 1600000 in
theorem once_any (g a cap : Nat) (w : World) (h : BoxR g 0 0 .nilIface (.slice (some ⟨a, 0, none⟩) 4 cap) w) (hf : FourS a w) (ha : a ≠ g) :
    Calls Tryz.prog 173 #[.pointer (some ⟨g, 0, none⟩), .func (.func 174) #[.pointer (some ⟨g, 0, none⟩)] #[]] w fun e w' => e = .returned (.tuple #[]) ∧ Built g 1 0 w w' := by
  have HS := Lib.hid (slow_any g a cap w h hf ha)
  have HL := Lib.hid (load_zero ⟨g, 0, none⟩ w h.at.1.1)
  have hnot : ∀ (x : Bool) (w : World), (Op.unary .not (.bool x)).run Tryz.prog w = .ok (.bool (!x)) w := fun _ _ => rfl
  clear h hf
  go_enter Tryz.func173, Tryz.ntmps173
  go_wp2_with fail
  refine HL.out.mono ?_
  rintro e w2 ⟨rfl, rfl⟩
  go_wp2_with fail
  refine HS.out.mono ?_
  rintro e w2 ⟨rfl, hbt⟩
  go_wp2
  go_end0
  exact ⟨rfl, hbt⟩
end Go.Proofs.YtjldpkhfiffinaaGreatDoor.U
