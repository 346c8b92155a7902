/- container/heap over what its methods answer: down. -/
import Derived.Test.YtodjfebceljjgaaH1
namespace Go.Proofs.Ytodjfebceljjgaa.U
open Go.RowKit

def SomeB (e : Ending) : Prop := ∃ b : Bool, e = .returned (.bool b)
variable {α : Type} [Inhabited α]
/-- What is below in a heap's part from n on stays. -/
def Same2 (n : Nat) (ys xs : Array α) : Prop := ys.size = xs.size ∧ ys.toList.Perm xs.toList ∧ ∀ k, n ≤ k → k < xs.size → ys[k]! = xs[k]!
theorem Same2.refl (n : Nat) (xs : Array α) : Same2 n xs xs := ⟨rfl, List.Perm.refl _, fun _ _ _ => rfl⟩
theorem Same2.swap {n i j : Nat} {ys xs : Array α} (h : Same2 n ys xs) (hi : i < ys.size) (hj : j < ys.size) (hin : i < n) (hjn : j < n) : Same2 n (ys.swap i j hi hj) xs :=
  ⟨by simpa using h.1, (perm_swap ys i j hi hj).trans h.2.1, fun k h1 h2 => by
    rw [get_swap ys i j hi hj k (by rw [h.1]; exact h2)]
    unfold swapF
    rw [if_neg (by omega), if_neg (by omega)]
    exact h.2.2 k h1 h2⟩
set_option maxHeartbeats 4000000 in
set_option maxRecDepth 10000 in
theorem down_any {T : TypeId} {q : Value} {lt : α → α → Bool} {I : Array α → World → Prop} {fl fs : Nat} (ho : Ord lt) (h1 : Disp T q "Less" fl) (h2 : Disp T q "Swap" fs) (hl : LessC q lt I fl) (hs : SwapC q I fs)
    (xs : Array α) (n : Nat) (w : World) (hi : I xs w) (hn : n ≤ xs.size) (hmax : xs.size ≤ 1000000) (hu : DownF lt (fun k => xs[k]!) n 0) :
    Calls Try.prog 53 #[.iface T q, .int .i64 0, .int .i64 n] w fun e w' => SomeB e ∧ ∃ ys : Array α, I ys w' ∧ Same2 n ys xs ∧ HeapF lt (fun k => ys[k]!) n := by
  have hm1 := h1.meth
  have he1 := h1.enter
  have hm2 := h2.meth
  have he2 := h2.enter
  have HL := Lib.hid hl
  have HS := Lib.hid hs
  have HI := Lib.hid hi
  have HU := Lib.hid hu
  have HO := Lib.hid ho
  have HN := Lib.hid hn
  have HMX := Lib.hid hmax
  clear h1 h2 hl hs hi hu ho hn hmax
  go_enter Try.func53, Try.ntmps53
  go_wp2_with fail
  go_loopw [7] (fun i wr => ∃ (k : Nat) (ys : Array α), i = .int .i64 k ∧ k ≤ n ∧ Hid (I ys wr) ∧ Hid (Same2 n ys xs) ∧ Hid (DownF lt (fun k => ys[k]!) n k)) (fun i _ => n - (intOf i).toNat)
  case atStart => exact ⟨0, xs, rfl, by omega, HI, Lib.hid (Same2.refl _ _), HU⟩
  case round =>
    obtain ⟨k, ys, rfl, hk, HI, HP, HU⟩ := hrel
    have hys := HP.out.1
    have hxn := HN.out
    have hxm := HMX.out
    have hw1 : wrap64 (2 * (k : Int)) = ((2 * k : Nat) : Int) := by rw [show (2 * (k : Int)) = ((2 * k : Nat) : Int) by omega]; exact w64 _ (by omega)
    obtain ⟨a, ha⟩ : ∃ a, a = 2 * k + 1 := ⟨_, rfl⟩
    have hw2 : wrap64 (2 * (k : Int) + 1) = (a : Int) := by rw [show (2 * (k : Int) + 1) = (a : Int) by omega]; exact w64 _ (by omega)
    obtain ⟨b, hb⟩ : ∃ b, b = 2 * k + 2 := ⟨_, rfl⟩
    have hw3 : wrap64 ((a : Int) + 1) = (b : Int) := by rw [show ((a : Int) + 1) = (b : Int) by omega]; exact w64 _ (by omega)
    have hneg : decide ((a : Int) < 0) = false := by simp
    have HA := Lib.hid ha
    have HB := Lib.hid hb
    have HYS := Lib.hid hys
    have HK := Lib.hid hk
    by_cases hstop : n ≤ a
    · have hs1 : decide ((n : Int) ≤ (a : Int)) = true := by simp; omega
      have hs2 : decide (n ≤ a) = true := by simp; omega
      have HST := Lib.hid hstop
      clear ha hb hys hk hxn hxm hstop
      go_wp2_with fail
      go_ret
      exact ⟨⟨_, rfl⟩, ys, HI.out, HP.out, down_done HU.out (fun c h0 hc hp => by have h1 := HST.out; have h2 := HA.out; omega)⟩
    · have hs1 : decide ((n : Int) ≤ (a : Int)) = false := by simp; omega
      have hs2 : decide (n ≤ a) = false := by simp; omega
      have HST : Hid (a < n) := Lib.hid (by omega)
      have HKY : Hid (k < ys.size) := Lib.hid (by omega)
      by_cases h2 : b < n
      · have hs3 : decide ((b : Int) < (n : Int)) = true := by simp; omega
        have hs4 : decide (b < n) = true := by simp; omega
        have HBN := Lib.hid h2
        have HL1 := Lib.hid (HL.out ys wr b a HI.out (by omega) (by omega))
        cases hc1 : lt ys[b]! ys[a]! with
        | true =>
          rw [hc1] at HL1
          have HC1 := Lib.hid hc1
          have HL2 := Lib.hid (fun w2 (h : I ys w2) => HL.out ys w2 b k h (by omega) (by omega))
          have HBEST : Hid (∀ c, 0 < c → c < n → (c - 1) / 2 = k → lt ys[c]! ys[b]! = false) := Lib.hid (fun c h0 hc hp => by
              rcases (show c = a ∨ c = b by have h1 := HA.out; have h2 := HB.out; omega) with e | e
              · rw [e]; exact HO.out.asym _ _ HC1.out
              · rw [e]; exact HO.out.irr _)
          have HXN : Hid (b < n) := Lib.hid (by omega)
          have HXP : Hid ((b - 1) / 2 = k) := Lib.hid (by omega)
          have HX0 : Hid (0 < b) := Lib.hid (by omega)
          have HXY : Hid (b < ys.size) := Lib.hid (by omega)
          cases hc2 : lt ys[b]! ys[k]! with
          | false =>
            rw [hc2] at HL2
            have HC2 := Lib.hid hc2
            clear hc2 ha hb hys hk hxn hxm hstop h2 hc1
            go_wp2_with fail
            refine HL1.out.mono ?_
            rintro e w2 ⟨rfl, hi2⟩
            have HLL := Lib.hid (HL2.out w2 hi2)
            clear hi2
            go_wp2_with fail
            refine HLL.out.mono ?_
            rintro e w3 ⟨rfl, hi3⟩
            have HI3 := Lib.hid hi3
            clear hi3
            go_wp2_with fail
            go_ret
            exact ⟨⟨_, rfl⟩, ys, HI3.out, HP.out, down_done HU.out (fun c h0 hc hp => HO.out.neg _ _ _ HC2.out (HBEST.out c h0 hc hp))⟩
          | true =>
            rw [hc2] at HL2
            have HC2 := Lib.hid hc2
            have HSW := Lib.hid (fun w3 (h : I ys w3) => HS.out ys w3 k b HKY.out HXY.out h)
            clear hc2 ha hb hys hk hxn hxm hstop h2 hc1
            go_wp2_with fail
            refine HL1.out.mono ?_
            rintro e w2 ⟨rfl, hi2⟩
            have HLL := Lib.hid (HL2.out w2 hi2)
            clear hi2
            go_wp2_with fail
            refine HLL.out.mono ?_
            rintro e w3 ⟨rfl, hi3⟩
            have HSX := Lib.hid (HSW.out w3 hi3)
            clear hi3
            go_wp2_with fail
            refine HSX.out.mono ?_
            rintro e w4 ⟨rfl, hi4⟩
            have HI4 := Lib.hid hi4
            clear hi4
            go_wp2_with fail
            go_roundw
            case rel => exact ⟨b, _, rfl, by have := HXN.out; omega, HI4, Lib.hid (HP.out.swap _ _ (by have := HXN.out; have := HXP.out; have := HX0.out; omega) HXN.out), Lib.hid (by
              have h1 := down_step HO.out HU.out HX0.out HXN.out HXP.out HC2.out HBEST.out
              exact down_congr h1 (by have := HXN.out; omega) (fun c hc => get_swap ys k b _ _ c (by have := HYS.out; have := HN.out; omega)))⟩
            case measure => simp [intOf]; have := HXN.out; have := HXP.out; have := HX0.out; omega
        | false =>
          rw [hc1] at HL1
          have HC1 := Lib.hid hc1
          have HL2 := Lib.hid (fun w2 (h : I ys w2) => HL.out ys w2 a k h (by omega) (by omega))
          have HBEST : Hid (∀ c, 0 < c → c < n → (c - 1) / 2 = k → lt ys[c]! ys[a]! = false) := Lib.hid (fun c h0 hc hp => by
              rcases (show c = a ∨ c = b by have h1 := HA.out; have h2 := HB.out; omega) with e | e
              · rw [e]; exact HO.out.irr _
              · rw [e]; exact HC1.out)
          have HXN : Hid (a < n) := Lib.hid (by omega)
          have HXP : Hid ((a - 1) / 2 = k) := Lib.hid (by omega)
          have HX0 : Hid (0 < a) := Lib.hid (by omega)
          have HXY : Hid (a < ys.size) := Lib.hid (by omega)
          cases hc2 : lt ys[a]! ys[k]! with
          | false =>
            rw [hc2] at HL2
            have HC2 := Lib.hid hc2
            clear hc2 ha hb hys hk hxn hxm hstop h2 hc1
            go_wp2_with fail
            refine HL1.out.mono ?_
            rintro e w2 ⟨rfl, hi2⟩
            have HLL := Lib.hid (HL2.out w2 hi2)
            clear hi2
            go_wp2_with fail
            refine HLL.out.mono ?_
            rintro e w3 ⟨rfl, hi3⟩
            have HI3 := Lib.hid hi3
            clear hi3
            go_wp2_with fail
            go_ret
            exact ⟨⟨_, rfl⟩, ys, HI3.out, HP.out, down_done HU.out (fun c h0 hc hp => HO.out.neg _ _ _ HC2.out (HBEST.out c h0 hc hp))⟩
          | true =>
            rw [hc2] at HL2
            have HC2 := Lib.hid hc2
            have HSW := Lib.hid (fun w3 (h : I ys w3) => HS.out ys w3 k a HKY.out HXY.out h)
            clear hc2 ha hb hys hk hxn hxm hstop h2 hc1
            go_wp2_with fail
            refine HL1.out.mono ?_
            rintro e w2 ⟨rfl, hi2⟩
            have HLL := Lib.hid (HL2.out w2 hi2)
            clear hi2
            go_wp2_with fail
            refine HLL.out.mono ?_
            rintro e w3 ⟨rfl, hi3⟩
            have HSX := Lib.hid (HSW.out w3 hi3)
            clear hi3
            go_wp2_with fail
            refine HSX.out.mono ?_
            rintro e w4 ⟨rfl, hi4⟩
            have HI4 := Lib.hid hi4
            clear hi4
            go_wp2_with fail
            go_roundw
            case rel => exact ⟨a, _, rfl, by have := HXN.out; omega, HI4, Lib.hid (HP.out.swap _ _ (by have := HXN.out; have := HXP.out; have := HX0.out; omega) HXN.out), Lib.hid (by
              have h1 := down_step HO.out HU.out HX0.out HXN.out HXP.out HC2.out HBEST.out
              exact down_congr h1 (by have := HXN.out; omega) (fun c hc => get_swap ys k a _ _ c (by have := HYS.out; have := HN.out; omega)))⟩
            case measure => simp [intOf]; have := HXN.out; have := HXP.out; have := HX0.out; omega
      · have hs3 : decide ((b : Int) < (n : Int)) = false := by simp; omega
        have hs4 : decide (b < n) = false := by simp; omega
        have HBN : Hid (n ≤ b) := Lib.hid (by omega)
        have HL2 := Lib.hid (fun w2 (h : I ys w2) => HL.out ys w2 a k h (by omega) (by omega))
        have HBEST : Hid (∀ c, 0 < c → c < n → (c - 1) / 2 = k → lt ys[c]! ys[a]! = false) := Lib.hid (fun c h0 hc hp => by
            obtain e : c = a := by have h1 := HA.out; have h2 := HB.out; have h3 := HBN.out; omega
            rw [e]; exact HO.out.irr _)
        have HXN : Hid (a < n) := Lib.hid (by omega)
        have HXP : Hid ((a - 1) / 2 = k) := Lib.hid (by omega)
        have HX0 : Hid (0 < a) := Lib.hid (by omega)
        have HXY : Hid (a < ys.size) := Lib.hid (by omega)
        cases hc2 : lt ys[a]! ys[k]! with
        | false =>
          rw [hc2] at HL2
          have HC2 := Lib.hid hc2
          clear hc2 ha hb hys hk hxn hxm hstop h2
          have HLL := Lib.hid (HL2.out wr HI.out)
          go_wp2_with fail
          refine HLL.out.mono ?_
          rintro e w3 ⟨rfl, hi3⟩
          have HI3 := Lib.hid hi3
          clear hi3
          go_wp2_with fail
          go_ret
          exact ⟨⟨_, rfl⟩, ys, HI3.out, HP.out, down_done HU.out (fun c h0 hc hp => HO.out.neg _ _ _ HC2.out (HBEST.out c h0 hc hp))⟩
        | true =>
          rw [hc2] at HL2
          have HC2 := Lib.hid hc2
          have HSW := Lib.hid (fun w3 (h : I ys w3) => HS.out ys w3 k a HKY.out HXY.out h)
          clear hc2 ha hb hys hk hxn hxm hstop h2
          have HLL := Lib.hid (HL2.out wr HI.out)
          go_wp2_with fail
          refine HLL.out.mono ?_
          rintro e w3 ⟨rfl, hi3⟩
          have HSX := Lib.hid (HSW.out w3 hi3)
          clear hi3
          go_wp2_with fail
          refine HSX.out.mono ?_
          rintro e w4 ⟨rfl, hi4⟩
          have HI4 := Lib.hid hi4
          clear hi4
          go_wp2_with fail
          go_roundw
          case rel => exact ⟨a, _, rfl, by have := HXN.out; omega, HI4, Lib.hid (HP.out.swap _ _ (by have := HXN.out; have := HXP.out; have := HX0.out; omega) HXN.out), Lib.hid (by
            have h1 := down_step HO.out HU.out HX0.out HXN.out HXP.out HC2.out HBEST.out
            exact down_congr h1 (by have := HXN.out; omega) (fun c hc => get_swap ys k a _ _ c (by have := HYS.out; have := HN.out; omega)))⟩
          case measure => simp [intOf]; have := HXN.out; have := HXP.out; have := HX0.out; omega
end Go.Proofs.Ytodjfebceljjgaa.U
