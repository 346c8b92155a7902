/- What a queue's Take does. -/
import Derived.Test.YtodjfebceljjgaaPf2
namespace Go.Proofs.Ytodjfebceljjgaa.U.Q2
open Go.RowKit

variable {α : Type} [Inhabited α]
theorem fieldT (a b c : Value) (W : World) : (Instr.field 103 (.agg #[a, b, c]) 0).run Try.prog W = .ok (.agg #[a, b]) W := by kernel_rfl
omit [Inhabited α] in
set_option maxHeartbeats 1000000 in
theorem take_err (qa : Option Addr) (k : Nat) (hk : 0 < k) (hk2 : k < 100) (w : World) (hp : ∀ W, Below w.heap.size w W → Calls Try.prog 64 #[.pointer qa] W fun e w' => e = .returned (.tuple #[.agg #[.slice none 0 0, .int .i64 0], .int .i64 k]) ∧ Below W.heap.size W w') : Calls Try.prog 57 #[.pointer qa] w fun e w' => e = .returned (.tuple #[.agg #[.slice none 0 0, .int .i64 0], .int .i64 k]) ∧ Below w.heap.size w w' := by
  obtain ⟨W1, hW1⟩ : ∃ W1, W1 = w.alloc (.cells #[.slice none 0 0, .int .i64 0] 77) := ⟨_, rfl⟩
  have HB : Hid (Below w.heap.size w W1) := Lib.hid (by rw [hW1]; exact al (Below.refl _ w) (Nat.le_refl _) _)
  have HG : Hid (W1.heap[w.heap.size]? = some (.cells #[.slice none 0 0, .int .i64 0] 77 (0, 0))) := Lib.hid (by rw [hW1]; exact heap_new0 w _)
  have HS : Hid (W1.heap.size = w.heap.size + 1) := Lib.hid (by rw [hW1]; simp)
  have HP := Lib.hid (hp W1 HB.out)
  have hk0 : ((k : Int) == 0) = false := by rw [beq_eq_false_iff_ne]; omega
  clear hp hk hk2
  go_enter Try.func57, Try.ntmps57
  go_wp2_with fail
  rw [← hW1]
  clear hW1
  refine HP.out.mono ?_
  rintro e w1 ⟨rfl, hb1⟩
  obtain ⟨W2, hW2⟩ : ∃ W2, W2 = w1.alloc (.cells #[.slice none 0 0, .int .i64 0] 77) := ⟨_, rfl⟩
  have HB2 : Hid (Below W1.heap.size W1 W2) := Lib.hid (by rw [hW2]; exact hb1.alloc hb1.size _)
  have hg2 : W2.heap[w.heap.size]? = some (.cells #[.slice none 0 0, .int .i64 0] 77 (0, 0)) := (HB2.out.block _ (by have := HS.out; omega)).trans HG.out
  have HG2 := Lib.hid hg2
  have x0 : W2.cell? ⟨w.heap.size, 0, none⟩ = some (.slice none 0 0) := by rw [Lib.cell_of_heap hg2]; rfl
  have x1 : W2.cell? ⟨w.heap.size, 1, none⟩ = some (.int .i64 0) := by rw [Lib.cell_of_heap hg2]; rfl
  have z0 : W2.frozen? ⟨w.heap.size, 0, none⟩ = false := Lib.frozen_of_heap hg2 0
  have z1 : W2.frozen? ⟨w.heap.size, 1, none⟩ = false := Lib.frozen_of_heap hg2 1
  have n0 : W2.cell? ⟨w1.heap.size, 0, none⟩ = some (.slice none 0 0) := by rw [hW2]; simp [go_sem]
  have n1 : W2.cell? ⟨w1.heap.size, 1, none⟩ = some (.int .i64 0) := by rw [hW2]; simp [go_sem]
  clear hb1 hg2
  go_upto_region 2 with fail
  rw [← hW2]
  clear hW2
  go_wp2_with fail
  refine ret_cell rfl rfl (heap_set2 HG2.out) Try.underlying77 rfl (by kernel_rfl) rfl ?_
  exact ⟨rfl, ((HB.out.trans (HB2.out.mono (by have := HS.out; omega))).setCell (Nat.le_refl _) _).setCell (Nat.le_refl _) _⟩
theorem take_nil (w : World) : Calls Try.prog 57 #[.pointer none] w fun e w' => e = .returned (.tuple #[.agg #[.slice none 0 0, .int .i64 0], .int .i64 2]) ∧ Below w.heap.size w w' :=
  take_err none 2 (by omega) (by omega) w (fun W _ => peek_nil W)
theorem take_none (E : En α) (w : World) (base qb p : Nat) (v : Value) (h : QS E w base qb v [] p) : Calls Try.prog 57 #[.pointer (some ⟨qb, 0, none⟩)] w fun e w' => e = .returned (.tuple #[.agg #[.slice none 0 0, .int .i64 0], .int .i64 16]) ∧ Below w.heap.size w w' :=
  take_err _ 16 (by omega) (by omega) w (fun W hb => peek_none E W base qb p v (h.below hb))
set_option maxHeartbeats 4000000 in
set_option maxRecDepth 10000 in
theorem take_any (E : En α) (hE : AheadC E) (h1 : OneC E) (ho : Ord E.lt) (base qb p : Nat) (v : Value) (m : List α) (w : World) (h : QS E w base qb v m p) (hm : m ≠ []) (hml : m.length < 1000000) :
    Calls Try.prog 57 #[.pointer (some ⟨qb, 0, none⟩)] w fun e w' => ∃ x r, m.Perm (x :: r) ∧ IsMin E m x ∧ e = .returned (.tuple #[.agg #[E.e0 x, E.e1 x], .int .i64 0]) ∧ After E w base qb v r p w' := by
  obtain ⟨xs, hq, hpe, hh⟩ := h
  obtain ⟨h0, hmin⟩ := min_first ho hpe hh hm
  have hxl : xs.size = m.length := by have := hpe.length_eq; simpa using this
  obtain ⟨n, hn⟩ : ∃ n, xs.size = n + 1 := ⟨xs.size - 1, by omega⟩
  obtain ⟨W1, hW1⟩ : ∃ W1, W1 = w.alloc (.cells #[.slice none 0 0, .int .i64 0] 77) := ⟨_, rfl⟩
  have HB : Hid (Below w.heap.size w W1) := Lib.hid (by rw [hW1]; exact al (Below.refl _ w) (Nat.le_refl _) _)
  have HG : Hid (W1.heap[w.heap.size]? = some (.cells #[.slice none 0 0, .int .i64 0] 77 (0, 0))) := Lib.hid (by rw [hW1]; exact heap_new0 w _)
  have HS : Hid (W1.heap.size = w.heap.size + 1) := Lib.hid (by rw [hW1]; simp)
  have HP := Lib.hid (peek_any E h1 W1 base qb p v xs (hq.below HB.out) h0)
  have HPOP := Lib.hid (fun W (hb : Below w.heap.size w W) => hpop_any (T := 110) (q := .pointer (some ⟨qb, 0, none⟩)) (lt := E.lt) (I := Iq E W base qb v p) (F := FQ E W base qb v p) (enc := fun x => .iface 103 (.agg #[E.e0 x, E.e1 x, E.e2 x])) ho (disps _ ⟨_, rfl⟩) (good_any E hE h1 W base qb p v) xs n W ⟨hq.below hb, Kept.refl _ _⟩ hn hh (by omega)
    (fun ys W' hi hs => pop_any E h1 base qb p n v W ys W' hi hs (by omega)))
  obtain ⟨x, hx⟩ : ∃ x, x = xs[0]! := ⟨_, rfl⟩
  rw [← hx] at HP HPOP hmin
  have HQ := Lib.hid hq
  have HPE := Lib.hid hpe
  have HMIN := Lib.hid hmin
  have o0 := h1.c0 x
  have o1 := h1.c1 x
  have hta := assertT
  have hfd := fieldT
  clear hq hpe hh h0 hmin hxl hx h1 hE ho hn
  go_enter Try.func57, Try.ntmps57
  go_wp2_with fail
  rw [← hW1]
  clear hW1
  refine HP.out.mono ?_
  rintro e w1 ⟨rfl, hb1⟩
  obtain ⟨W2, hW2⟩ : ∃ W2, W2 = w1.alloc (.cells #[E.e0 x, E.e1 x] 77) := ⟨_, rfl⟩
  have HB2 : Hid (Below W1.heap.size W1 W2) := Lib.hid (by rw [hW2]; exact hb1.alloc hb1.size _)
  have hg2 : W2.heap[w.heap.size]? = some (.cells #[.slice none 0 0, .int .i64 0] 77 (0, 0)) := (HB2.out.block _ (by have := HS.out; omega)).trans HG.out
  have HG2 := Lib.hid hg2
  have t0 : ∀ m a b, (store ⟨w1.heap.size, 0, none⟩ (E.e0 x) m).run Try.prog (w1.alloc (.cells #[a, b] 77)) = .ok () (w1.alloc (.cells #[E.e0 x, b] 77)) := fun m a b => store_two0 w1 a b _ _ o0 m
  have t1 : ∀ m a b, (store ⟨w1.heap.size, 1, none⟩ (E.e1 x) m).run Try.prog (w1.alloc (.cells #[a, b] 77)) = .ok () (w1.alloc (.cells #[a, E.e1 x] 77)) := fun m a b => store_two1 w1 a b _ _ o1 m
  have HWB : Hid (Below w.heap.size w W2) := Lib.hid (HB.out.trans (HB2.out.mono (by have := HS.out; omega)))
  have HPO := Lib.hid (HPOP.out W2 HWB.out)
  have HSZ2 : Hid (w.heap.size < W2.heap.size) := Lib.hid (by have := HB2.out.size; have := HS.out; omega)
  clear hb1 hg2
  go_upto_region 2 with fail
  rw [← hW2]
  clear hW2
  go_wp2_with (go_at_call 30; refine HPO.out.mono ?_; rintro e w3 ⟨rfl, ys, ⟨v', hq3, hk3, hv3⟩, hs3, hp3, hh3⟩; have hne : ¬ SQ qb v w.heap.size := (fun e => by rcases e with e | e; (have := HQ.out.lt; omega); (have := (own_block HQ.out.row e).2.1; omega)); have hg3 := (hk3.block _ HSZ2.out hne).trans HG2.out; have HG3 := Lib.hid hg3; have hrw : Rw w.heap.size 2 w3 := ⟨_, _, hg3, by simp⟩; have s0 : ∀ m, (store ⟨w.heap.size, 0, none⟩ (E.e0 x) m).run Try.prog w3 = .ok () (w3.setCell ⟨w.heap.size, 0, none⟩ (E.e0 x)) := (fun m => hrw.store (by omega) o0 m); have s1 : ∀ m, (store ⟨w.heap.size, 1, none⟩ (E.e1 x) m).run Try.prog (w3.setCell ⟨w.heap.size, 0, none⟩ (E.e0 x)) = .ok () ((w3.setCell ⟨w.heap.size, 0, none⟩ (E.e0 x)).setCell ⟨w.heap.size, 1, none⟩ (E.e1 x)) := (fun m => (hrw.set _ _ _).store (by omega) o1 m); have HQ3 := Lib.hid hq3; have HK3 := Lib.hid hk3; have HV3 := Lib.hid hv3; have HP3 := Lib.hid hp3; have HH3 := Lib.hid hh3; clear hq3 hk3 hv3 hs3 hp3 hh3 hne hg3 hrw)
  refine ret_cell rfl rfl (heap_set2 HG3.out) Try.underlying77 rfl (by kernel_rfl) rfl ?_
  have hk4 : Kept (SQ qb v) w ((w3.setCell ⟨w.heap.size, 0, none⟩ (E.e0 x)).setCell ⟨w.heap.size, 1, none⟩ (E.e1 x)) := (((Kept.of_below (S := SQ qb v) HWB.out).trans HK3.out (fun _ _ e => e)).setCell (.inl (Nat.le_refl _)) _).setCell (.inl (Nat.le_refl _)) _
  have hk5 : Kept (fun k => k = w.heap.size) w3 ((w3.setCell ⟨w.heap.size, 0, none⟩ (E.e0 x)).setCell ⟨w.heap.size, 1, none⟩ (E.e1 x)) := ((Kept.refl (fun k => k = w.heap.size) w3).setCell (p := ⟨w.heap.size, 0, none⟩) (.inr rfl) _).setCell (p := ⟨w.heap.size, 1, none⟩) (.inr rfl) _
  refine ⟨x, ys.toList, HPE.out.symm.trans HP3.out, HMIN.out, rfl, v', ⟨ys, HQ3.out.keep hk5 (fun e => ?_) (fun g hg e => ?_) (fun k hd e => ?_), List.Perm.refl _, HH3.out⟩, hk4, ?_⟩
  · have := HQ.out.lt; omega
  · subst e
    rcases HV3.out with h9 | ⟨g', h9, h10⟩
    · have := (own_block HQ.out.row (h9.symm.trans hg)).2.1; omega
    · rw [h9] at hg
      have := Option.some.inj hg
      have := HSZ2.out
      omega
  · have := HQ.out.dlt k hd; have := HQ.out.size0; omega
  · rcases HV3.out with h9 | ⟨g', h9, h10⟩
    · exact .inl h9
    · exact .inr ⟨g', h9, by have := HSZ2.out; omega⟩
end Go.Proofs.Ytodjfebceljjgaa.U.Q2
