/- A queue of things by their ranks is made. -/
import Derived.Test.YtodjfebceljjgaaPg1
import Derived.Test.YtodjfebceljjgaaA2
namespace Go.Proofs.Ytodjfebceljjgaa.U
open Go.RowKit Q1

/-- A thing: rank, number, turn. -/
abbrev Th := Int × Int × Int
def ltT (g : Int × Int → Int × Int → Int) (x y : Th) : Bool := decide (orI (g (x.1, x.2.1) (y.1, y.2.1)) (cmpI x.2.2 y.2.2) < 0)
def E1 (g : Int × Int → Int × Int → Int) (c d : Nat) (W0 : World) : En Th :=
  { e0 := fun x => .int .i64 x.1, e1 := fun x => .int .i64 x.2.1, e2 := fun x => .int .i64 x.2.2, lt := ltT g, D := fun k => k = c ∨ k = d, W0 := W0, ok := fun _ => True, cap := .pointer (some ⟨d, 0, none⟩) }
theorem one1 (g : Int × Int → Int × Int → Int) (c d : Nat) (W0 : World) : OneC (E1 g c d W0) := ⟨fun _ => rfl, fun _ => rfl, fun _ => rfl⟩
/-- By ranks, and of one rank by turns. -/
def gUp : Int × Int → Int × Int → Int := fun x y => cmpI x.1 y.1
def gDn : Int × Int → Int × Int → Int := fun x y => cmpI y.1 x.1
theorem cmp_neg (a b : Int) : cmpI a b < 0 ↔ a < b := by
  rcases three a b with ⟨_, _, h, k⟩ | ⟨_, _, h, k⟩ | ⟨_, _, h, k⟩ <;> rw [h] <;> omega
theorem cmp_zero (a b : Int) : cmpI a b = 0 ↔ a = b := by
  rcases three a b with ⟨_, _, h, k⟩ | ⟨_, _, h, k⟩ | ⟨_, _, h, k⟩ <;> rw [h] <;> omega
theorem or_neg (x y : Int) : orI x y < 0 ↔ x < 0 ∨ (x = 0 ∧ y < 0) := by
  unfold orI
  split
  · constructor <;> intro h <;> omega
  · constructor <;> intro h <;> omega
theorem lt_up (x y : Th) : ltT gUp x y = true ↔ x.1 < y.1 ∨ (x.1 = y.1 ∧ x.2.2 < y.2.2) := by
  unfold ltT gUp
  rw [decide_eq_true_iff, or_neg, cmp_neg, cmp_zero, cmp_neg]
theorem lt_dn (x y : Th) : ltT gDn x y = true ↔ y.1 < x.1 ∨ (x.1 = y.1 ∧ x.2.2 < y.2.2) := by
  unfold ltT gDn
  rw [decide_eq_true_iff, or_neg, cmp_neg, cmp_zero, cmp_neg]
  simp only []
  omega
theorem bF {b : Bool} : b = false ↔ ¬ b = true := by cases b <;> simp
theorem ord_up : Ord (ltT gUp) := ⟨fun x => by rw [bF, lt_up]; omega, fun x y h => by rw [lt_up] at h; rw [bF, lt_up]; omega, fun x y z h1 h2 => by rw [bF, lt_up] at h1 h2 ⊢; omega⟩
theorem ord_dn : Ord (ltT gDn) := ⟨fun x => by rw [bF, lt_dn]; omega, fun x y h => by rw [lt_dn] at h; rw [bF, lt_dn]; omega, fun x y z h1 h2 => by rw [bF, lt_dn] at h1 h2 ⊢; omega⟩
/-- What is read to tell which is ahead: two variables that hold functions. -/
structure Clo (f c d : Nat) (w : World) : Prop where
  hc : w.heap[c]? = some (.cells #[.func (.func f) #[] #[]] 29 (0, 0))
  hd : w.heap[d]? = some (.cells #[.func (.func 50) #[] #[.pointer (some ⟨c, 0, none⟩)]] 29 (0, 0))
theorem ahead1 {f : Nat} {g : Int × Int → Int × Int → Int} (hg : OrdC f g) {c d : Nat} {W0 : World} (hcl : Clo f c d W0) : AheadC (E1 g c d W0) := by
  intro x y W hs hsn _ _
  have hc : W.heap[c]? = _ := (hsn c (.inl rfl)).trans hcl.hc
  have hd : W.heap[d]? = _ := (hsn d (.inr rfl)).trans hcl.hd
  exact ahead_any hg c d x.1 x.2.1 x.2.2 y.1 y.2.1 y.2.2 W (by rw [Lib.cell_of_heap hc]; rfl) (Array.getElem?_eq_some_iff.1 hc).1 (by rw [Lib.cell_of_heap hd]; rfl) (Array.getElem?_eq_some_iff.1 hd).1
theorem eql_func (a : Fn) (b c : Array Value) (W : World) : (binOp .eql 29 (.func a b c) .nilFunc).run Try.prog W = .ok (.bool false) W := by kernel_rfl
/-- What New answers. -/
def NewPost (f : Nat) (g : Int × Int → Int × Int → Int) (w : World) (e : Ending) (w' : World) : Prop :=
  ∃ c d qb, e = .returned (.tuple #[.pointer (some ⟨qb, 0, none⟩), .int .i64 0]) ∧ Below w.heap.size w w' ∧ w.heap.size ≤ qb ∧ Clo f c d w' ∧ ∀ base, base ≤ w.heap.size → QS (E1 g c d w') w' base qb (.slice none 0 0) [] 0
set_option maxHeartbeats 1000000 in
theorem three_new (w : World) (a b c : Obj) : Below w.heap.size w (((w.alloc a).alloc b).alloc c) := (two_new w a b).alloc (by simp; omega) _
theorem heap3 (w : World) (a b c : Obj) : (((w.alloc a).alloc b).alloc c).heap[w.heap.size]? = some a ∧ (((w.alloc a).alloc b).alloc c).heap[w.heap.size + 1]? = some b ∧ (((w.alloc a).alloc b).alloc c).heap[w.heap.size + 1 + 1]? = some c := by
  have e1 : (w.alloc a).heap.size = w.heap.size + 1 := by simp
  have e2 : ((w.alloc a).alloc b).heap.size = w.heap.size + 1 + 1 := by simp
  refine ⟨?_, ?_, ?_⟩
  · rw [Below.heap_alloc _ c _ (by omega)]; exact heap_new1 w a b
  · rw [Below.heap_alloc _ c _ (by omega), ← e1]; exact heap_new0 _ b
  · rw [← e2]; exact heap_new0 _ c
theorem qat_new {f : Nat} {g : Int × Int → Int × Int → Int} {c d qb : Nat} {w' : World} (base : Nat) (hb : base ≤ qb) (hcl : Clo f c d w') (hq : w'.heap[qb]? = some (.cells #[.slice none 0 0, .func (.func 49) #[] #[.pointer (some ⟨d, 0, none⟩)], .int .i64 0] 68 (0, 0))) : QS (E1 g c d w') w' base qb (.slice none 0 0) [] 0 := by
  refine ⟨#[], ⟨hq, hb, World.ownsRow_nil _ _ _ _, Nat.le_refl _, fun k hk => ?_, fun _ _ => rfl, ⟨fun hk => ?_, fun g' e => by cases e⟩, fun x hx => by simp at hx⟩, List.Perm.refl _, fun k h0 hk => by simp at hk⟩
  · rcases hk with rfl | rfl
    · exact (Array.getElem?_eq_some_iff.1 hcl.hc).1
    · exact (Array.getElem?_eq_some_iff.1 hcl.hd).1
  · rcases hk with e | e
    · have := hcl.hc; rw [← e, hq] at this; simp at this
    · have := hcl.hd; rw [← e, hq] at this; simp at this
set_option maxRecDepth 10000 in
theorem new_any (f : Nat) (g : Int × Int → Int × Int → Int) (w : World) : Calls Try.prog 9 #[.func (.func f) #[] #[]] w fun e w' => NewPost f g w e w' := by
  have hmf : ∀ (fn : Fn) (first cap : Array Value) (w : World), (Instr.makeFunc fn first cap).run Try.prog w = .ok (.func fn first cap) w := fun _ _ _ _ => rfl
  have hef := eql_func
  go_enter Try.func9, Try.ntmps9
  go_wp2
  go_ret2
  obtain ⟨k1, k2, k3⟩ := heap3 w (.cells #[.func (.func f) #[] #[]] 29) (.cells #[.func (.func 50) #[] #[.pointer (some ⟨w.heap.size, 0, none⟩)]] 29) (.cells #[.slice none 0 0, .func (.func 49) #[] #[.pointer (some ⟨w.heap.size + 1, 0, none⟩)], .int .i64 0] 68)
  exact ⟨w.heap.size, w.heap.size + 1, w.heap.size + 1 + 1, rfl, three_new _ _ _ _, by omega, ⟨k1, k2⟩, fun base hb => qat_new base (by omega) ⟨k1, k2⟩ k3⟩
end Go.Proofs.Ytodjfebceljjgaa.U
