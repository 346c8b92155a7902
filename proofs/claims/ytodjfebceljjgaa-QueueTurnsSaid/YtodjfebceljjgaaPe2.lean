/- What a queue's Put and Len do. -/
import Derived.Test.YtodjfebceljjgaaPd2
import Derived.StillTailTactics
namespace Go.Proofs.Ytodjfebceljjgaa.U.Q2
open Go.RowKit

variable {α : Type} [Inhabited α]
/-- A queue in memory that holds the things of a list. -/
def QS (E : En α) (w : World) (base qb : Nat) (v : Value) (m : List α) (p : Nat) : Prop :=
  ∃ xs : Array α, QAt E w base qb v xs p ∧ xs.toList.Perm m ∧ HeapF E.lt (fun k => xs[k]!) xs.size
/-- What a call on a queue leaves. -/
def After (E : En α) (w : World) (base qb : Nat) (v : Value) (m : List α) (p : Nat) (w' : World) : Prop :=
  ∃ v', QS E w' base qb v' m p ∧ Kept (SQ qb v) w w' ∧ (v'.ownBlock = v.ownBlock ∨ ∃ g, v'.ownBlock = some g ∧ w.heap.size ≤ g)
theorem QS.keep {E : En α} {w w' : World} {base qb p : Nat} {v : Value} {m : List α} {S : Nat → Prop} (h : QS E w base qb v m p) (hk : Kept S w w') (h1 : ¬ S qb) (h2 : ∀ g, v.ownBlock = some g → ¬ S g) (h3 : ∀ k, E.D k → ¬ S k) : QS E w' base qb v m p := by
  obtain ⟨xs, k1, k2⟩ := h
  exact ⟨xs, k1.keep hk h1 h2 h3, k2⟩
theorem QS.below {E : En α} {w w' : World} {base qb p : Nat} {v : Value} {m : List α} (h : QS E w base qb v m p) (hb : Below w.heap.size w w') : QS E w' base qb v m p := by
  obtain ⟨xs, k1, k2⟩ := h
  exact ⟨xs, k1.below hb, k2⟩
theorem QS.perm {E : En α} {w : World} {base qb p : Nat} {v : Value} {m m' : List α} (h : QS E w base qb v m p) (hp : m.Perm m') : QS E w base qb v m' p := by
  obtain ⟨xs, k1, k2, k3⟩ := h
  exact ⟨xs, k1, k2.trans hp, k3⟩
theorem QS.len {E : En α} {w : World} {base qb p : Nat} {v : Value} {m : List α} (h : QS E w base qb v m p) : ∃ xs : Array α, QAt E w base qb v xs p ∧ xs.size = m.length := by
  obtain ⟨xs, k1, k2, _⟩ := h
  exact ⟨xs, k1, by have := k2.length_eq; simpa using this⟩
omit [Inhabited α] in
theorem setq {E : En α} {w : World} {base qb p q : Nat} {v : Value} {xs : Array α} (h : QAt E w base qb v xs p) : QAt E (w.setCell ⟨qb, 2, none⟩ (.int .i64 q)) base qb v xs q := by
  have hk : Kept (SQ qb v) w (w.setCell ⟨qb, 2, none⟩ (.int .i64 q)) := (Kept.refl _ w).setCell (.inr (.inl rfl)) _
  refine ⟨?_, h.low, h.row.kept (grownBy_setAt w qb 2 _) (.inr (fun e => h.ne e rfl)), Nat.le_trans h.size0 hk.size, h.dlt, fun k hd => ?_, h.apart, h.oks⟩
  · simp [World.setCell, Array.getElem?_modify, h.box]
  · exact (Below.heap_setCell w _ _ k (fun e => h.apart.1 (by rw [show k = qb from e] at hd; exact hd))).trans (h.snap k hd)
set_option maxHeartbeats 2000000 in
set_option maxRecDepth 10000 in
theorem put_any (E : En α) (hE : AheadC E) (h1 : OneC E) (ho : Ord E.lt) (base qb p : Nat) (v : Value) (m : List α) (x : α) (w : World) (h : QS E w base qb v m p) (hx : E.ok x) (hp : E.e2 x = .int .i64 p) (hm : m.length < 1000000) (hpm : p < 1000000) :
    Calls Try.prog 38 #[.pointer (some ⟨qb, 0, none⟩), .agg #[E.e0 x, E.e1 x]] w fun e w' => e = .returned (.int .i64 0) ∧ After E w base qb v (x :: m) (p + 1) w' := by
  obtain ⟨xs, hq, hpe, hh⟩ := h
  have hxl : xs.size = m.length := by have := hpe.length_eq; simpa using this
  obtain ⟨W0, hW0⟩ : ∃ W0, W0 = w.alloc (.cells #[E.e0 x, E.e1 x] 77) := ⟨_, rfl⟩
  have hb0 : Below w.heap.size w W0 := by rw [hW0]; exact al (Below.refl _ w) (Nat.le_refl _) _
  have hq0 := hq.below hb0
  have q2 : W0.cell? ⟨qb, 2, none⟩ = some (.int .i64 p) := hq0.c2
  have a0 : W0.cell? ⟨w.heap.size, 0, none⟩ = some (E.e0 x) := by rw [hW0]; simp [go_sem]
  have a1 : W0.cell? ⟨w.heap.size, 1, none⟩ = some (E.e1 x) := by rw [hW0]; simp [go_sem]
  have o0 := h1.c0 x
  have o1 := h1.c1 x
  have HQ := Lib.hid hq
  have HX := Lib.hid hx
  have HB0 := Lib.hid hb0
  have HPE := Lib.hid hpe
  have HPUSH := Lib.hid (fun w2 (hb : Below w.heap.size w w2) => hpush_any ho (disps (.pointer (some ⟨qb, 0, none⟩)) ⟨_, rfl⟩) xs x (.iface 103 (.agg #[E.e0 x, E.e1 x, E.e2 x])) w2 hh (by omega) (push_any E hE h1 base qb p v xs x w2 (hq.below hb) hx (by omega)))
  rw [hp] at HPUSH
  have hw1 : wrap64 ((p : Int) + 1) = ((p + 1 : Nat) : Int) := by rw [show ((p : Int) + 1) = ((p + 1 : Nat) : Int) by omega]; exact w64 _ (by omega)
  clear hq hx hb0 hpe hh h1 ho hE hq0 hp hxl
  go_enter Try.func38, Try.ntmps38
  go_wp2_with fail
  rw [← hW0]
  clear hW0
  go_still_tail 11, (by kernel_rfl)
  change wpList _ _ _ _ _ W0.drew
  have HBD : Hid (Below w.heap.size w W0.drew) := Lib.hid HB0.out.drew
  generalize W0.drew = W1 at HBD
  have HP1 := Lib.hid (HPUSH.out W1 HBD.out)
  go_wp2_with (go_at_call 28; refine HP1.out.mono ?_; rintro e w2 ⟨rfl, ys, ⟨v', hq2, hk2, hv2⟩, hp2, hh2⟩; have HQ2 := Lib.hid hq2; have HK2 := Lib.hid hk2; have HV2 := Lib.hid hv2; have HP2 := Lib.hid hp2; have HH2 := Lib.hid hh2; have c2 := hq2.c2; have z2 := hq2.thaw 2; clear hq2 hk2 hv2 hp2 hh2)
  go_ret
  have hk3 : Kept (SQ qb v) w w2 := (Kept.of_below (S := SQ qb v) HBD.out).trans HK2.out (fun _ _ e => e)
  refine ⟨rfl, v', ⟨ys, setq (q := p + 1) HQ2.out, HP2.out.trans (HPE.out.cons x), HH2.out⟩, hk3.setCell (.inr (.inl rfl)) _, ?_⟩
  rcases HV2.out with e | ⟨g, e, hg⟩
  · exact .inl e
  · exact .inr ⟨g, e, Nat.le_trans HBD.out.size hg⟩
end Go.Proofs.Ytodjfebceljjgaa.U.Q2
