/- The orders, and what cmp tells. -/
import Derived.Test.YtodjfebceljjgaaRows
import Derived.WalkKit
import Derived.WalkSpells
import Derived.WalkLawsBesides
import Derived.Defers
import Derived.Recover
import Derived.Lib.Hide
import Derived.Deep.RegionHeld3
import Derived.Shelf.Abstract
namespace Go.Proofs.Ytodjfebceljjgaa.U
open Go.RowKit

/-- A new block, said of the heap's size at the call's begin alone. -/
theorem al {B : Nat} {a w : World} (h : Below B a w) (hB : B ≤ a.heap.size) (o : Obj) : Below B a (w.alloc o) := h.alloc (Nat.le_trans hB h.size) o
/-- What a callee leaves alone. -/
theorem th {B : Nat} {a w w' : World} (h : Below B a w) (hB : B ≤ a.heap.size) (h' : Below w.heap.size w w') : Below B a w' := h.trans (h'.mono (Nat.le_trans hB h.size))
def cmpI (a b : Int) : Int := if a < b then -1 else if b < a then 1 else 0
theorem three (a b : Int) : (decide (a < b) = true ∧ decide (b < a) = false ∧ cmpI a b = -1 ∧ a < b) ∨ (decide (a < b) = false ∧ decide (b < a) = true ∧ cmpI a b = 1 ∧ b < a) ∨ (decide (a < b) = false ∧ decide (b < a) = false ∧ cmpI a b = 0 ∧ a = b) := by
  rcases Int.lt_trichotomy a b with h | h | h
  · exact .inl ⟨by simp [h], by simp; omega, by unfold cmpI; rw [if_pos h], h⟩
  · exact .inr (.inr ⟨by simp; omega, by simp; omega, by unfold cmpI; rw [if_neg (by omega), if_neg (by omega)], h⟩)
  · exact .inr (.inl ⟨by simp; omega, by simp [h], by unfold cmpI; rw [if_neg (by omega), if_pos h], h⟩)
theorem two_new (w : World) (a b : Obj) : Below w.heap.size w ((w.alloc a).alloc b) := ((Below.refl _ w).alloc (Nat.le_refl _) _).alloc (by simp) _
set_option maxHeartbeats 400000 in
theorem order_any (a i b j : Int) (w : World) :
    Calls Try.prog 10 #[.agg #[.int .i64 a, .int .i64 i], .agg #[.int .i64 b, .int .i64 j]] w fun e w' => e = .returned (.int .i64 (cmpI a b)) ∧ Below w.heap.size w w' := by
  have HT := Lib.hid (three a b)
  rcases HT.out with ⟨h1, h2, h3, _⟩ | ⟨h1, h2, h3, _⟩ | ⟨h1, h2, h3, _⟩
  · rw [h3]
    clear h3
    go_enter Try.func10, Try.ntmps10
    go_wp2
    go_ret
    exact ⟨rfl, two_new _ _ _⟩
  · rw [h3]
    clear h3
    go_enter Try.func10, Try.ntmps10
    go_wp2
    go_ret
    exact ⟨rfl, two_new _ _ _⟩
  · rw [h3]
    clear h3
    go_enter Try.func10, Try.ntmps10
    go_wp2
    go_ret
    exact ⟨rfl, two_new _ _ _⟩
set_option maxHeartbeats 400000 in
theorem behind_any (a i b j : Int) (w : World) :
    Calls Try.prog 25 #[.agg #[.int .i64 a, .int .i64 i], .agg #[.int .i64 b, .int .i64 j]] w fun e w' => e = .returned (.int .i64 (cmpI b a)) ∧ Below w.heap.size w w' := by
  go_enter Try.func25, Try.ntmps25
  go_wp2_with (go_at_call 10; refine (order_any b j a i _).mono ?_; rintro e w' ⟨rfl, hb⟩)
  go_ret
  exact ⟨rfl, (two_new _ _ _).trans (hb.mono (two_new _ _ _).size)⟩
theorem nan_any (a : Int) (w : World) : Calls Try.prog 56 #[.int .i64 a] w fun e w' => e = .returned (.bool false) ∧ w' = w := by
  go_enter Try.func56, Try.ntmps56
  go_wp2
  go_ret
  exact ⟨rfl, rfl⟩
set_option maxHeartbeats 400000 in
theorem compare_any (a b : Int) (w : World) : Calls Try.prog 37 #[.int .i64 a, .int .i64 b] w fun e w' => e = .returned (.int .i64 (cmpI a b)) ∧ w' = w := by
  have HT := Lib.hid (three a b)
  rcases HT.out with ⟨h1, h2, h3, _⟩ | ⟨h1, h2, h3, _⟩ | ⟨h1, h2, h3, _⟩
  · rw [h3]
    clear h3
    go_enter Try.func37, Try.ntmps37
    go_wp2_with (go_at_call 56; refine (nan_any _ _).mono ?_; rintro e w1 ⟨rfl, rfl⟩)
    go_ret
    exact ⟨rfl, rfl⟩
  · rw [h3]
    clear h3
    go_enter Try.func37, Try.ntmps37
    go_wp2_with (go_at_call 56; refine (nan_any _ _).mono ?_; rintro e w1 ⟨rfl, rfl⟩)
    go_ret
    exact ⟨rfl, rfl⟩
  · rw [h3]
    clear h3
    go_enter Try.func37, Try.ntmps37
    go_wp2_with (go_at_call 56; refine (nan_any _ _).mono ?_; rintro e w1 ⟨rfl, rfl⟩)
    go_ret
    exact ⟨rfl, rfl⟩
theorem rec_any (w : World) : CallsD Try.prog 51 #[] .returning w fun e u' w' => e = .returned (.tuple #[]) ∧ u' = .returning ∧ w' = w := by
  refine callsD_of_wpS Try.func51 rfl fun c₀ cs hu => ?_
  apply wpS_region
  cases c₀
  simp_all [wpOpsS, go_sem, recoverD, Try.ntmps51, bodyPostS, results]
/-- An order that is told by numbers. -/
def OrdC (f : Nat) (g : Int × Int → Int × Int → Int) : Prop :=
  (∀ args w, (callFunc f args).run Try.prog w = .ok (.enter f args) w) ∧ ∀ a i b j w, Calls Try.prog f #[.agg #[.int .i64 a, .int .i64 i], .agg #[.int .i64 b, .int .i64 j]] w fun e w' => e = .returned (.int .i64 (g (a, i) (b, j))) ∧ Below w.heap.size w w'
set_option maxHeartbeats 400000 in
theorem calm_any {f : Nat} {g : Int × Int → Int × Int → Int} (hg : OrdC f g) (c : Nat) (a i b j : Int) (w : World) (hc : w.cell? ⟨c, 0, none⟩ = some (.func (.func f) #[] #[])) (hlt : c < w.heap.size) :
    Calls Try.prog 50 #[.agg #[.int .i64 a, .int .i64 i], .agg #[.int .i64 b, .int .i64 j], .pointer (some ⟨c, 0, none⟩)] w fun e w' => e = .returned (.int .i64 (g (a, i) (b, j))) ∧ Below w.heap.size w w' := by
  have hmf : ∀ (fn : Fn) (first cap : Array Value) (w : World), (Instr.makeFunc fn first cap).run Try.prog w = .ok (.func fn first cap) w := fun _ _ _ _ => rfl
  have heg := hg.1
  have HO := Lib.hid hg.2
  clear hg
  go_enter_defers Try.func50, Try.ntmps50
  go_wp2_with fail
  refine (HO.out a i b j _).mono ?_
  rintro e w1 ⟨rfl, hb⟩
  go_wp2_with fail
  refine leaves_cons (f := 51) (args := #[]) (by simp) (by simp [go_sem]) ?_
  refine (rec_any _).mono ?_
  rintro e u' w'' ⟨rfl, rfl, rfl⟩
  have HB := (two_new w (.cells #[.int .i64 a, .int .i64 i] 28) (.cells #[.int .i64 b, .int .i64 j] 28)).trans (hb.mono (two_new _ _ _).size)
  simp [Leaves, settle, results, Try.results50, go_sem, HB]
def orI (x y : Int) : Int := if x = 0 then y else x
set_option maxHeartbeats 400000 in
theorem or_any (c b : Nat) (x y : Int) (w : World) (h0 : w.cell? ⟨b, 0, none⟩ = some (.int .i64 x)) (h1 : w.cell? ⟨b, 1, none⟩ = some (.int .i64 y)) : Calls Try.prog 36 #[.slice (some ⟨b, 0, none⟩) 2 c] w fun e w' => e = .returned (.int .i64 (orI x y)) ∧ w' = w := by
  by_cases hx : x = 0
  · by_cases hy : y = 0
    · subst hx
      subst hy
      have HR := Lib.hid (show orI 0 0 = 0 by unfold orI; rw [if_pos rfl])
      rw [HR.out]
      go_enter Try.func36, Try.ntmps36
      go_wp2_with fail
      refine wp_loop_rounds 3 ?_
      rw [rounds_succ]; go_wp2
      rw [rounds_succ]; go_wp2
      rw [rounds_succ]; go_wp2
      go_ret
      exact ⟨rfl, rfl⟩
    · subst hx
      have HR := Lib.hid (show orI 0 y = y by unfold orI; rw [if_pos rfl])
      rw [HR.out]
      go_enter Try.func36, Try.ntmps36
      go_wp2_with fail
      refine wp_loop_rounds 3 ?_
      rw [rounds_succ]; go_wp2
      rw [rounds_succ]; go_wp2
      go_ret
      exact ⟨rfl, rfl⟩
  · have HR := Lib.hid (show orI x y = x by unfold orI; rw [if_neg hx])
    rw [HR.out]
    go_enter Try.func36, Try.ntmps36
    go_wp2_with fail
    refine wp_loop_rounds 3 ?_
    rw [rounds_succ]; go_wp2
    go_ret
    exact ⟨rfl, rfl⟩
theorem ord10 : OrdC 10 fun x y => cmpI x.1 y.1 := ⟨Go.Proofs.enters_of Try.func10 (by kernel_rfl) rfl, fun a i b j w => order_any a i b j w⟩
theorem ord25 : OrdC 25 fun x y => cmpI y.1 x.1 := ⟨Go.Proofs.enters_of Try.func25 (by kernel_rfl) rfl, fun a i b j w => behind_any a i b j w⟩
end Go.Proofs.Ytodjfebceljjgaa.U
