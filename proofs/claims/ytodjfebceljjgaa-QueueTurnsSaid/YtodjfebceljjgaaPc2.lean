/- What a pile's Push does, and what it leaves to be called. -/
import Derived.Test.YtodjfebceljjgaaPb2
import Derived.Test.YtodjfebceljjgaaAp
import Derived.OwnWalk
namespace Go.Proofs.Ytodjfebceljjgaa.U.Q2
open Go.RowKit

variable {α : Type}
theorem infoT : (Try.prog.info? 103).map (fun i => (i.zero, i.size, i.bytes)) = some (some (.agg #[.slice none 0 0, .int .i64 0, .int .i64 0]), 3, 40) := by kernel_rfl
theorem assertT (a : Value) (W : World) : (Instr.typeAssert (.iface 103 a) 20 103 false).run Try.prog W = .ok a W := by kernel_rfl
/-- What a call on a queue leaves: its row may have moved. -/
def FQ (E : En α) (w0 : World) (base qb : Nat) (v : Value) (p : Nat) : Array α → World → Prop := fun ys w =>
  ∃ v', QAt E w base qb v' ys p ∧ Kept (SQ qb v) w0 w ∧ (v'.ownBlock = v.ownBlock ∨ ∃ g, v'.ownBlock = some g ∧ w0.heap.size ≤ g)
theorem QAt.base_le {E : En α} {w : World} {base qb p : Nat} {v : Value} {xs : Array α} (h : QAt E w base qb v xs p) : base ≤ w.heap.size := by have := h.low; have := h.lt; omega
/-- One more behind the others, and the row put in its field. -/
theorem QAt.more {E : En α} {w w1 w2 : World} {base qb p : Nat} {v v' : Value} {xs : Array α} {x : α} (h : QAt E w base qb v xs p) (hb : Below w.heap.size w w1) (hown : w2.ownsRow base 103 3 v' (xs.size + 1) (cellsR E.e0 E.e1 E.e2 xs.toList ++ [E.e0 x, E.e1 x, E.e2 x])) (hg : w1.grownBy w2 v.ownBlock) (hat : v'.ownBlock = v.ownBlock ∨ v'.ownBlock = some w1.heap.size) (hx : E.ok x) :
    QAt E (w2.setCell ⟨qb, 0, none⟩ v') base qb v' (xs.push x) p ∧ Kept (SQ qb v) w (w2.setCell ⟨qb, 0, none⟩ v') := by
  have h1 := h.below hb
  have hsz := hb.size
  have k1 : Kept (SQ qb v) w w2 := (Kept.of_below (S := SQ qb v) hb).grown hg (fun k e => .inr (.inr e))
  have k2 : Kept (SQ qb v) w (w2.setCell ⟨qb, 0, none⟩ v') := k1.setCell (.inr (.inl rfl)) _
  have hbox : w2.heap[qb]? = some (.cells #[v, fnv E, .int .i64 p] 109 (0, 0)) := (hg.block qb h1.lt (fun e => h1.ne e.symm rfl)).trans h1.box
  have hnew : ∀ g, v'.ownBlock = some g → v.ownBlock = some g ∨ w.heap.size ≤ g := fun g e => by
    rcases hat with h9 | h9
    · exact .inl (h9.symm.trans e)
    · rw [h9] at e
      have := Option.some.inj e
      omega
  have hne : v'.ownBlock ≠ some qb := fun e => by
    rcases hnew qb e with h9 | h9
    · exact h.ne h9 rfl
    · have := h.lt; omega
  refine ⟨⟨?_, h.low, ?_, Nat.le_trans h.size0 k2.size, h.dlt, fun k hd => ?_, ⟨h.apart.1, fun g e hd => ?_⟩, fun y hy => ?_⟩, k2⟩
  · simp [World.setCell, Array.getElem?_modify, hbox]
  · have h2 : (w2.setCell ⟨qb, 0, none⟩ v').ownsRow base 103 3 v' (xs.size + 1) (cellsR E.e0 E.e1 E.e2 xs.toList ++ [E.e0 x, E.e1 x, E.e2 x]) := hown.kept (grownBy_setAt w2 qb 0 v') (.inr hne)
    rw [Array.size_push, Array.toList_push, cellsR_append]
    exact h2
  · have hk := h.dlt k hd
    have h0 := h.size0
    exact (k2.block k (by omega) (fun e => by
      rcases e with e | e
      · exact h.apart.1 (e ▸ hd)
      · exact h.apart.2 k e hd)).trans (h.snap k hd)
  · rcases hnew g e with h9 | h9
    · exact h.apart.2 g h9 hd
    · have := h.dlt g hd; have := h.size0; omega
  · rw [Array.toList_push] at hy
    rcases List.mem_append.1 hy with h9 | h9
    · exact h.oks y h9
    · rw [List.mem_singleton.1 h9]; exact hx
variable [Inhabited α]
theorem good_any (E : En α) (hE : AheadC E) (h1 : OneC E) (w0 : World) (base qb p : Nat) (v : Value) : Good (.pointer (some ⟨qb, 0, none⟩)) E.lt (Iq E w0 base qb v p) 68 96 99 :=
  ⟨len_any E w0 base qb p v, less_any E hE h1 w0 base qb p v, swap_any E h1 w0 base qb p v⟩
theorem disps (q : Value) (hq : ∃ a, q = .pointer (some a)) : Disps 110 q 68 96 99 98 97 := by
  obtain ⟨a, rfl⟩ := hq
  exact ⟨⟨fun _ => by kernel_rfl, Go.Proofs.enters_of Try.func68 (by kernel_rfl) rfl⟩, ⟨fun _ => by kernel_rfl, Go.Proofs.enters_of Try.func96 (by kernel_rfl) rfl⟩, ⟨fun _ => by kernel_rfl, Go.Proofs.enters_of Try.func99 (by kernel_rfl) rfl⟩, ⟨fun _ => by kernel_rfl, Go.Proofs.enters_of Try.func98 (by kernel_rfl) rfl⟩, ⟨fun _ => by kernel_rfl, Go.Proofs.enters_of Try.func97 (by kernel_rfl) rfl⟩⟩
set_option maxHeartbeats 4000000 in
set_option maxRecDepth 10000 in
theorem push_any (E : En α) (hE : AheadC E) (h1 : OneC E) (base qb p : Nat) (v : Value) (xs : Array α) (x : α) (w : World) (h : QAt E w base qb v xs p) (hx : E.ok x) (hmax : xs.size < 1000000) :
    Calls Try.prog 98 #[.pointer (some ⟨qb, 0, none⟩), .iface 103 (.agg #[E.e0 x, E.e1 x, E.e2 x])] w fun e w' => e = .returned (.tuple #[]) ∧ ∃ J : Array α → World → Prop, Good (.pointer (some ⟨qb, 0, none⟩)) E.lt J 68 96 99 ∧ J (xs.push x) w' ∧ ∀ ys w'', J ys w'' → FQ E w base qb v p ys w'' := by
  obtain ⟨i0, hi, hz0, hz1, hz2⟩ := info_parts infoT
  have c0 := h.c0
  have z0 := h.thaw 0
  have HH := Lib.hid h
  have HX := Lib.hid hx
  have HG := Lib.hid (fun w0 v' => good_any E hE h1 w0 base qb p v')
  have HM := Lib.hid hmax
  have o0 := h1.c0 x
  have o1 := h1.c1 x
  have o2 := h1.c2 x
  have HQ := Lib.hid h.lt
  have HN := Lib.hid (fun g (e : v.ownBlock = some g) => h.ne e)
  have HBL := Lib.hid h.base_le
  obtain ⟨n, hn⟩ : ∃ n, n = xs.size := ⟨_, rfl⟩
  have HROW : Hid (∀ W, Below w.heap.size w W → W.ownsRow base 103 3 v n (cellsR E.e0 E.e1 E.e2 xs.toList)) := Lib.hid (fun W hb => by rw [hn]; exact (h.below hb).row)
  rw [← hn] at hmax
  have HNN := Lib.hid hn
  have hse : Try.prog.underlying 105 = some (.slice 103) := Try.underlying105
  obtain ⟨WX, hWX⟩ : ∃ WX, WX = (w.alloc (.cells #[E.e0 x, E.e1 x, E.e2 x] 103)).drew := ⟨_, rfl⟩
  have HBX : Hid (Below w.heap.size w WX) := Lib.hid (by rw [hWX]; exact (al (Below.refl _ w) (Nat.le_refl _) _).drew)
  have HSX : Hid (WX.heap.size = w.heap.size + 1) := Lib.hid (by rw [hWX]; simp [World.drew])
  have HNX : Hid (∀ j u, [E.e0 x, E.e1 x, E.e2 x][j]? = some u → WX.cell? ((⟨w.heap.size, 0, none⟩ : Addr).add j) = some u) := Lib.hid (fun j u hu => by
    rw [hWX, add_zero_at]
    match j, hu with
    | 0, hu => simp at hu; subst hu; simp [go_sem]
    | 1, hu => simp at hu; subst hu; simp [go_sem]
    | 2, hu => simp at hu; subst hu; simp [go_sem])
  have HOX : Hid (WX.ownsRow base 103 3 v n (cellsR E.e0 E.e1 E.e2 xs.toList)) := Lib.hid (HROW.out _ HBX.out)
  have HWX : Hid (WX = (w.alloc (.cells #[E.e0 x, E.e1 x, E.e2 x] 103)).drew) := Lib.hid hWX
  have HQX : Hid (QAt E WX base qb v xs p) := Lib.hid (h.below HBX.out)
  have HONE : Hid (∀ u ∈ [E.e0 x, E.e1 x, E.e2 x], u.oneCell' = true) := Lib.hid (by simp [o0, o1, o2])
  have HB2 : Hid (base ≤ WX.heap.size) := Lib.hid (by have := HSX.out; have := HBL.out; omega)
  have hta := assertT
  have cA : (w.alloc (.cells #[E.e0 x, E.e1 x, E.e2 x] 103)).cell? ⟨qb, 0, none⟩ = some v := (h.below (al (Below.refl _ w) (Nat.le_refl _) _)).c0
  clear h hx h1 hE hn hWX
  go_enter Try.func98, Try.ntmps98
  go_wp2_with fail
  go_region_law (refine step_append_at rfl (.tmp 8) (.tmp 11) 105 rfl base 103 i0 (.agg #[.slice none 0 0, .int .i64 0, .int .i64 0]) 3 40 hse hi hz0 hz1 hz2 rfl (by decide) v n (cellsR E.e0 E.e1 E.e2 xs.toList) (by first | rfl | (simp [Act.eval]; done) | (simp [Act.eval, Act.put]; done)) (by rw [← HWX.out]; exact HOX.out) ⟨w.heap.size, 0, none⟩ 1 1 [E.e0 x, E.e1 x, E.e2 x] (by first | rfl | (simp [Act.eval]; done) | (simp [Act.eval, Act.put]; done)) rfl (by rw [← HWX.out]; exact HNX.out) HONE.out (by unfold maxLen; omega) (by omega) (by rw [← HWX.out]; exact HB2.out) ?_; intro v3 w3 hown3 hgrow3 hat3; rw [← HWX.out] at hgrow3 hat3; have HO3 := Lib.hid hown3; have HG3 := Lib.hid hgrow3; have HA3 := Lib.hid hat3; obtain ⟨ra, rc, rfl, _, _⟩ := own_at hown3; have k0 := (World.cell?_of_block (w := WX) (a := ⟨qb, 0, none⟩) (hgrow3.block qb HQX.out.lt (fun e => HQX.out.ne e.symm rfl))).trans HQX.out.c0; have k1 := (World.frozen?_of_block (w := WX) (a := ⟨qb, 0, none⟩) (hgrow3.block qb HQX.out.lt (fun e => HQX.out.ne e.symm rfl))).trans (HQX.out.thaw 0); clear hown3 hgrow3 hat3)
  all_goals (
    go_wp2
    go_end0
    refine ⟨rfl, ?_⟩
    obtain ⟨m1, m2⟩ := HH.out.more HBX.out (by rw [← HNN.out]; exact HO3.out) HG3.out HA3.out HX.out
    refine ⟨_, HG.out _ _, ⟨m1, Kept.refl _ _⟩, fun ys w'' hj => ⟨_, hj.1, m2.trans hj.2 (fun k hk e => ?_), ?_⟩⟩
    · rcases e with e | e
      · exact .inl e
      · rcases HA3.out with h9 | h9
        · exact .inr (h9.symm.trans e)
        · rw [h9] at e
          have := Option.some.inj e
          have := HSX.out
          omega
    · rcases HA3.out with h9 | h9
      · exact .inl h9
      · exact .inr ⟨_, h9, by have := HSX.out; omega⟩)
end Go.Proofs.Ytodjfebceljjgaa.U.Q2
