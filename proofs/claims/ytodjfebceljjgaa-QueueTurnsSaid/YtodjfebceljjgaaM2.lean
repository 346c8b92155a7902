/- Whether all of several lists rise. -/
import Derived.Test.YtodjfebceljjgaaM1
namespace Go.Proofs.Ytodjfebceljjgaa.U
open Go.RowKit

/-- Lists of things, wherever they lie. -/
def LT (w : World) (v : Value) (ls : List (List T2)) : Prop :=
  ∃ a c, v = .slice a ls.length c ∧ ls.length ≤ c ∧ c ≤ maxLen ∧ (0 < ls.length → ∃ g o, a = some ⟨g, o, none⟩ ∧ ∀ i l, ls[i]? = some l → ∃ v, w.cell? ⟨g, o + i, none⟩ = some v ∧ RT w v l)
theorem LT.below {w w' : World} {v : Value} {ls : List (List T2)} (h : LT w v ls) (hb : Below w.heap.size w w') : LT w' v ls := by
  obtain ⟨a, c, h1, h2, h3, h4⟩ := h
  refine ⟨a, c, h1, h2, h3, fun h0 => ?_⟩
  obtain ⟨g, o, e, h5⟩ := h4 h0
  refine ⟨g, o, e, fun i x hx => ?_⟩
  obtain ⟨u, k1, k2⟩ := h5 i x hx
  exact ⟨u, (hb.cell (blk_of_cell k1)).trans k1, k2.below hb⟩
set_option maxHeartbeats 400000 in
theorem falls_any (b c : Nat) (v : Value) (l : List T2) (w : World) (h : RT w v l) (hb : w.cell? ⟨b, 0, none⟩ = some (.func (.func 50) #[] #[.pointer (some ⟨c, 0, none⟩)])) (hc : w.cell? ⟨c, 0, none⟩ = some (.func (.func 10) #[] #[])) :
    Calls Try.prog 31 #[v, .pointer (some ⟨b, 0, none⟩)] w fun e w' => e = .returned (.bool (!risesB l)) ∧ Below w.heap.size w w' := by
  have HR := Lib.hid (rises_any c v l w h hc)
  clear h hc
  go_enter Try.func31, Try.ntmps31
  go_wp2_with (go_at_call 32; refine HR.out.mono ?_; rintro e w1 ⟨rfl, hb1⟩)
  go_ret
  exact ⟨rfl, hb1⟩
def IdxPost (ls : List (List T2)) (e : Ending) : Prop := (∃ k : Nat, e = .returned (.int .i64 k) ∧ ls.all risesB = false) ∨ (e = .returned (.int .i64 (-1)) ∧ ls.all risesB = true)
set_option maxHeartbeats 2000000 in
set_option maxRecDepth 10000 in
theorem index_any (b c : Nat) (v : Value) (ls : List (List T2)) (w : World) (h : LT w v ls) (hb : w.cell? ⟨b, 0, none⟩ = some (.func (.func 50) #[] #[.pointer (some ⟨c, 0, none⟩)])) (hc : w.cell? ⟨c, 0, none⟩ = some (.func (.func 10) #[] #[])) :
    Calls Try.prog 54 #[v, .func (.func 31) #[] #[.pointer (some ⟨b, 0, none⟩)]] w fun e w' => IdxPost ls e ∧ Below w.heap.size w w' := by
  have HF : Hid (∀ W, Below w.heap.size w W → ∀ u l, RT W u l → Calls Try.prog 31 #[u, .pointer (some ⟨b, 0, none⟩)] W fun e w' => e = .returned (.bool (!risesB l)) ∧ Below w.heap.size w w') := Lib.hid (fun W k u l hr =>
    (falls_any b c u l W hr ((k.cell (blk_of_cell hb)).trans hb) ((k.cell (blk_of_cell hc)).trans hc)).mono (fun e w' q => ⟨q.1, th k (Nat.le_refl _) q.2⟩))
  have HLT := Lib.hid h
  obtain ⟨a, cp, rfl, h1, h2, h3⟩ := h
  have HW : Hid (∀ k : Nat, k < ls.length → wrap64 ((k : Int) + 1) = (k : Int) + 1) := Lib.hid (fun k hk => by unfold maxLen at h2; unfold wrap64; omega)
  obtain ⟨n, hn⟩ : ∃ n, n = ls.length := ⟨_, rfl⟩
  have hn0 : wrap64 (n : Int) = n := by unfold maxLen at h2; unfold wrap64; omega
  have HN := Lib.hid hn
  rw [← hn] at HW ⊢
  have H3 := Lib.hid h3
  clear h1 h2 h3 hb hc hn
  go_enter Try.func54, Try.ntmps54
  go_wp2_with fail
  go_loopw [8] (fun i wr => ∃ k : Nat, i = .int .i64 k ∧ k ≤ n ∧ Hid (∀ i l, i < k → ls[i]? = some l → risesB l = true) ∧ Hid (Below w.heap.size w wr)) (fun i _ => n - (intOf i).toNat)
  case atStart => exact ⟨0, rfl, by omega, Lib.hid (fun i l h => by omega), Lib.hid (Below.refl _ _)⟩
  case round =>
    obtain ⟨k, rfl, hk, HG, HB⟩ := hrel
    by_cases hlt : k < n
    · obtain ⟨l, hl⟩ : ∃ l, ls[k]? = some l := ⟨_, List.getElem?_eq_getElem (by rw [← HN.out]; exact hlt)⟩
      obtain ⟨g, o, rfl, h5⟩ := H3.out (by rw [← HN.out]; omega)
      obtain ⟨u, k1, k2⟩ := h5 k l hl
      have c1 : wr.cell? ⟨g, o + k, none⟩ = some u := (HB.out.cell (blk_of_cell k1)).trans k1
      have hru : RT wr u l := k2.below HB.out
      obtain ⟨ua, uc, rfl, _⟩ := hru
      have HC := Lib.hid (HF.out wr HB.out _ l (k2.below HB.out))
      have hw1 := HW.out k hlt
      have hi0 : (0 : Int) ≤ k := by omega
      have hi1 : (k : Int) < n := by omega
      have hd1 : decide ((k : Int) < n) = true := by simp; omega
      have HL := Lib.hid hl
      have HLT2 := Lib.hid hlt
      clear hl h5 k1 k2 hk
      cases hr : risesB l with
      | true =>
        rw [hr] at HC
        have HR := Lib.hid hr
        clear hr
        go_wp2_with fail
        refine HC.out.mono ?_
        rintro e w2 ⟨rfl, hb2⟩
        have HB2 := Lib.hid hb2
        clear hb2
        go_wp2_with fail
        go_roundw
        case rel => exact ⟨k + 1, by rw [hw1]; go_num, by have := HLT2.out; omega, Lib.hid (fun i q hi hq => by
          by_cases e : i = k
          · subst e
            rw [HL.out] at hq
            rw [← Option.some.inj hq]
            exact HR.out
          · exact HG.out i q (by omega) hq), HB2⟩
        case measure => rw [hw1]; have := HLT2.out; simp only [intOf]; omega
      | false =>
        rw [hr] at HC
        have HR := Lib.hid hr
        clear hr
        go_wp2_with fail
        refine HC.out.mono ?_
        rintro e w2 ⟨rfl, hb2⟩
        have HB2 := Lib.hid hb2
        clear hb2
        go_wp2_with fail
        go_ret
        refine ⟨.inl ⟨k, rfl, ?_⟩, HB2.out⟩
        rw [bF]
        intro hall
        have := List.all_eq_true.1 hall l (List.mem_of_getElem? HL.out)
        rw [HR.out] at this
        cases this
    · have hd1 : decide ((k : Int) < n) = false := by simp; omega
      have hd2 : decide (k < n) = false := by simp; omega
      have HL2 := Lib.hid hlt
      clear hlt hk
      go_wp2_with fail
      go_ret
      refine ⟨.inr ⟨rfl, ?_⟩, HB.out⟩
      rw [List.all_eq_true]
      intro q hq
      obtain ⟨i, hi, rfl⟩ := List.mem_iff_getElem.1 hq
      exact HG.out i _ (by have := HL2.out; have := HN.out; omega) (List.getElem?_eq_getElem hi)
set_option maxHeartbeats 400000 in
theorem contains_any (b c : Nat) (v : Value) (ls : List (List T2)) (w : World) (h : LT w v ls) (hb : w.cell? ⟨b, 0, none⟩ = some (.func (.func 50) #[] #[.pointer (some ⟨c, 0, none⟩)])) (hc : w.cell? ⟨c, 0, none⟩ = some (.func (.func 10) #[] #[])) :
    Calls Try.prog 33 #[v, .func (.func 31) #[] #[.pointer (some ⟨b, 0, none⟩)]] w fun e w' => e = .returned (.bool (!ls.all risesB)) ∧ Below w.heap.size w w' := by
  have HI := Lib.hid (index_any b c v ls w h hb hc)
  clear h hb hc
  go_enter Try.func33, Try.ntmps33
  go_wp2_with fail
  refine HI.out.mono ?_
  rintro e w1 ⟨hp, hb1⟩
  rcases hp with ⟨k, rfl, ha⟩ | ⟨rfl, ha⟩
  · have hd : decide ((0 : Int) ≤ k) = true := by simp
    have HA := Lib.hid ha
    clear ha
    go_wp2_with fail
    go_ret
    exact ⟨by rw [HA.out]; rfl, hb1⟩
  · have HA := Lib.hid ha
    clear ha
    go_wp2_with fail
    go_ret
    exact ⟨by rw [HA.out]; rfl, hb1⟩
end Go.Proofs.Ytodjfebceljjgaa.U
