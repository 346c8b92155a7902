/- container/heap over what its methods answer: up, down. -/
import Derived.Test.YtodjfebceljjgaaH0
import Derived.Test.YtodjfebceljjgaaA1
namespace Go.Proofs.Ytodjfebceljjgaa.U
open Go.RowKit

theorem w64 (n : Nat) (h : n ≤ 1000000000000) : wrap64 (n : Int) = n := by unfold wrap64; omega
/-- Which function a value's method is. -/
structure Disp (T : TypeId) (q : Value) (name : String) (f : Nat) : Prop where
  meth : ∀ w, (method 253 T q name).run Try.prog w = .ok (f, q) w
  enter : ∀ args w, (callFunc f args).run Try.prog w = .ok (.enter f args) w
variable {α : Type} [Inhabited α]
def LessC (q : Value) (lt : α → α → Bool) (I : Array α → World → Prop) (f : Nat) : Prop :=
  ∀ (xs : Array α) (W : World) (i k : Nat), I xs W → i < xs.size → k < xs.size → Calls Try.prog f #[q, .int .i64 i, .int .i64 k] W fun e w' => e = .returned (.bool (lt xs[i]! xs[k]!)) ∧ I xs w'
def SwapC (q : Value) (I : Array α → World → Prop) (f : Nat) : Prop :=
  ∀ (xs : Array α) (W : World) (i k : Nat) (hi : i < xs.size) (hk : k < xs.size), I xs W → Calls Try.prog f #[q, .int .i64 i, .int .i64 k] W fun e w' => e = .returned (.tuple #[]) ∧ I (xs.swap i k hi hk) w'

set_option maxHeartbeats 1000000 in
set_option maxRecDepth 10000 in
theorem up_any {T : TypeId} {q : Value} {lt : α → α → Bool} {I : Array α → World → Prop} {fl fs : Nat} (ho : Ord lt) (h1 : Disp T q "Less" fl) (h2 : Disp T q "Swap" fs) (hl : LessC q lt I fl) (hs : SwapC q I fs)
    (xs : Array α) (j : Nat) (w : World) (hi : I xs w) (hj : j < xs.size) (hmax : xs.size ≤ 1000000) (hu : UpF lt (fun k => xs[k]!) xs.size j) :
    Calls Try.prog 52 #[.iface T q, .int .i64 j] w fun e w' => e = .returned (.tuple #[]) ∧ ∃ ys : Array α, I ys w' ∧ ys.toList.Perm xs.toList ∧ HeapF lt (fun k => ys[k]!) ys.size := by
  have hm1 := h1.meth
  have he1 := h1.enter
  have hm2 := h2.meth
  have he2 := h2.enter
  have HL := Lib.hid hl
  have HS := Lib.hid hs
  have HI := Lib.hid hi
  have HU := Lib.hid hu
  have HO := Lib.hid ho
  clear h1 h2 hl hs hi hu ho
  go_enter Try.func52, Try.ntmps52
  go_wp2_with fail
  go_loopw [1] (fun i wr => ∃ (k : Nat) (ys : Array α), i = .int .i64 k ∧ k < ys.size ∧ ys.size ≤ 1000000 ∧ Hid (I ys wr) ∧ Hid (ys.toList.Perm xs.toList) ∧ Hid (UpF lt (fun k => ys[k]!) ys.size k)) (fun i _ => (intOf i).toNat)
  case atStart => exact ⟨j, xs, rfl, hj, hmax, HI, Lib.hid (List.Perm.refl _), HU⟩
  case round =>
    obtain ⟨k, ys, rfl, hk, hmx, HI, HP, HU⟩ := hrel
    have HK := Lib.hid hk
    have HMX := Lib.hid hmx
    by_cases hk0 : k = 0
    · subst hk0
      clear hk hmx
      go_wp2_with fail
      go_end0
      exact ⟨rfl, ys, HI.out, HP.out, up_done HU.out (.inl rfl)⟩
    · obtain ⟨m, rfl⟩ : ∃ m, k = m + 1 := ⟨k - 1, by omega⟩
      obtain ⟨p, hp⟩ : ∃ p, p = m / 2 := ⟨_, rfl⟩
      have hw1 : wrap64 (m : Int) = m := w64 _ (by omega)
      have hw2 : (m : Int).tdiv 2 = (p : Int) := by rw [hp]; rfl
      have hw3 : wrap64 (p : Int) = p := w64 _ (by omega)
      have hne : ((p : Int) == (m : Int) + 1) = false := by rw [beq_eq_false_iff_ne]; omega
      have hpy : p < ys.size := by omega
      have HPY := Lib.hid hpy
      have hpar : p = (m + 1 - 1) / 2 := by omega
      have HPAR := Lib.hid hpar
      have HPM : Hid (p < m + 1) := Lib.hid (by omega)
      have HLX := Lib.hid (HL.out ys wr (m + 1) p HI.out hk hpy)
      clear hk hmx hk0 hp hpy hpar
      cases hb : lt ys[m + 1]! ys[p]! with
      | false =>
        rw [hb] at HLX
        have HB := Lib.hid hb
        clear hb
        go_wp2_with fail
        refine HLX.out.mono ?_
        rintro e w2 ⟨rfl, hi2⟩
        have HI2 := Lib.hid hi2
        clear hi2
        go_wp2_with fail
        go_end0
        exact ⟨rfl, ys, HI2.out, HP.out, up_done HU.out (.inr (by rw [← HPAR.out]; exact HB.out))⟩
      | true =>
        rw [hb] at HLX
        have HB := Lib.hid hb
        clear hb
        go_wp2_with fail
        refine HLX.out.mono ?_
        rintro e w2 ⟨rfl, hi2⟩
        have HSX := Lib.hid (HS.out ys w2 p (m + 1) HPY.out HK.out hi2)
        clear hi2
        go_wp2_with fail
        refine HSX.out.mono ?_
        rintro e w3 ⟨rfl, hi3⟩
        have HI3 := Lib.hid hi3
        clear hi3
        go_wp2_with fail
        go_roundw
        case rel => exact ⟨p, _, rfl, by simpa using HPY.out, by simpa using HMX.out, HI3, Lib.hid ((perm_swap ys p (m + 1) HPY.out HK.out).trans HP.out), Lib.hid (by
          have h1 := up_step HO.out HU.out (by omega) HK.out (by rw [← HPAR.out]; exact HB.out)
          rw [← HPAR.out] at h1
          have h2 := up_congr (g := fun k => (ys.swap p (m + 1) HPY.out HK.out)[k]!) h1 HPY.out (fun k hk => get_swap ys p (m + 1) HPY.out HK.out k hk)
          simpa using h2)⟩
        case measure => simp [intOf]; have := HPM.out; omega
end Go.Proofs.Ytodjfebceljjgaa.U
