/- QueuePlays: its plain part, and how its calls are opened. -/
import Derived.Test.YtodjfebceljjgaaRm
namespace Go.Proofs.Ytodjfebceljjgaa.U
open Go.ChangeShapes Go.WideShapes Go.ChangeAt Go.RowKit Go.Deep Q1

/-- What is in the queue, as the row of the document has it. -/
def Pair (R : List T2) (m : List Th) (p : Nat) : Prop := ∃ S : List Th, m.Perm S ∧ S.Pairwise (fun a b => a.2.2 < b.2.2) ∧ R = S.map (fun x => (x.1, x.2.1)) ∧ ∀ x ∈ S, x.2.2 < (p : Int)
theorem Pair.start : Pair [] [] 0 := ⟨[], List.Perm.refl _, List.Pairwise.nil, rfl, fun x h => by cases h⟩
theorem Pair.len {R : List T2} {m : List Th} {p : Nat} (h : Pair R m p) : R.length = m.length := by
  obtain ⟨S, h1, _, rfl, _⟩ := h
  rw [List.length_map, h1.length_eq]
theorem Pair.put {R : List T2} {m : List Th} {p : Nat} (h : Pair R m p) (a i : Int) : Pair (R ++ [(a, i)]) ((a, i, (p : Int)) :: m) (p + 1) := by
  obtain ⟨S, h1, h2, rfl, h4⟩ := h
  refine ⟨S ++ [(a, i, (p : Int))], (h1.cons _).trans (List.perm_append_singleton _ S).symm, List.pairwise_append.2 ⟨h2, List.pairwise_singleton _ _, fun x hx y hy => ?_⟩, by simp, fun x hx => ?_⟩
  · rw [List.mem_singleton.1 hy]
    exact h4 x hx
  · rcases List.mem_append.1 hx with hx | hx
    · have := h4 x hx; omega
    · rw [List.mem_singleton.1 hx]
      simp only []
      omega
theorem Pair.min {R : List T2} {m : List Th} {p c d : Nat} {W0 : World} (h : Pair R m p) {x : Th} (hx : IsMin (E1 gUp c d W0) m x) {q : Nat} {y : T2} (hf : FirstAt R R.length q y) : y = (x.1, x.2.1) ∧ ∀ r, m.Perm (x :: r) → Pair (outL R q) r p := by
  obtain ⟨S, h1, h2, rfl, h4⟩ := h
  obtain ⟨f1, f2, f3, f4⟩ := hf
  rw [List.getElem?_map] at f2
  obtain ⟨z, hz, hzy⟩ := Option.map_eq_some_iff.1 f2
  obtain ⟨j, hj⟩ := List.mem_iff_getElem?.1 (h1.mem_iff.1 hx.1)
  have hlt := hx.2 z (h1.mem_iff.2 (List.mem_of_getElem? hz))
  have hlt2 : ¬ (z.1 < x.1 ∨ (z.1 = x.1 ∧ z.2.2 < x.2.2)) := fun h => by
    have h9 := (lt_up z x).2 h
    have h8 : ltT gUp z x = false := hlt
    rw [h9] at h8
    cases h8
  have hyz : y.1 = z.1 := by rw [← hzy]
  have hjl := (List.getElem?_eq_some_iff.1 hj).1
  have hql := (List.getElem?_eq_some_iff.1 hz).1
  have hjq : j = q := by
    rcases Nat.lt_trichotomy j q with e | e | e
    · have := f3 j (x.1, x.2.1) e (by rw [List.getElem?_map, hj]; rfl)
      simp only [] at this
      exact absurd (.inl (by omega)) hlt2
    · exact e
    · have h5 := f4 j (x.1, x.2.1) (by omega) (by rw [List.length_map]; exact hjl) (by rw [List.getElem?_map, hj]; rfl)
      simp only [] at h5
      have h6 := List.pairwise_iff_getElem.1 h2 q j hql hjl e
      rw [(List.getElem?_eq_some_iff.1 hj).2, (List.getElem?_eq_some_iff.1 hz).2] at h6
      exact absurd (by omega) hlt2
  subst hjq
  rw [hj] at hz
  obtain rfl := Option.some.inj hz
  refine ⟨hzy.symm, fun r hr => ?_⟩
  have hS : S = S.take j ++ x :: S.drop (j + 1) := by
    conv => lhs; rw [← List.take_append_drop j S, List.drop_eq_getElem_cons hjl, (List.getElem?_eq_some_iff.1 hj).2]
  have hsub : (S.take j ++ S.drop (j + 1)).Sublist S := by
    conv => rhs; rw [hS]
    exact List.Sublist.append (List.Sublist.refl _) (List.sublist_cons_self _ _)
  refine ⟨S.take j ++ S.drop (j + 1), ?_, h2.sublist hsub, by unfold outL; simp [List.map_take, List.map_drop], fun y hy => h4 y (hsub.subset hy)⟩
  have h9 : (x :: r).Perm (x :: (S.take j ++ S.drop (j + 1))) := by
    refine hr.symm.trans (h1.trans ?_)
    conv => lhs; rw [hS]
    exact List.perm_middle
  exact h9.cons_inv
theorem cells33 : Try.prog.cellsOf 33 = 2 := by kernel_rfl
theorem open_ops {H : Type} {enc : TypeId × Value → H} {W : World} {a : Option Addr} {len cap : Nat} {d : DataW H} {p : List MemPlace} {fuel : Nat}
    (h : DataW.trod enc Try.prog W 0 (fun _ => true) true fuel 22 (Value.slice a len cap).cells.toList = some (d, p)) : ∃ l, RT W (.slice a len cap) l := by
  rcases open_slice_pairs Try.underlying22 Try.underlying33 cells33 rfl rfl cells3 cells3 h with ⟨hcs, _⟩ | ⟨x, l, c, m, n, V0, V1, D0, D1, P0, P1, hcs, _, hl, hm, hmm, _, hr⟩
  · simp [Value.cells] at hcs
    obtain ⟨rfl, rfl, rfl⟩ := hcs
    exact ⟨[], none, 0, rfl, Nat.le_refl _, by decide, fun h => by simp at h⟩
  · simp [Value.cells] at hcs
    obtain ⟨rfl, rfl, rfl⟩ := hcs
    simp only [if_true] at hmm
    subst hmm
    have hz : ∀ i, i < m → ∃ z : T2, W.cell? (x.add (i * 2)) = some (.int .i64 z.1) ∧ W.cell? (x.add (i * 2 + 1)) = some (.int .i64 z.2) := fun i hi => by
      obtain ⟨k1, k2, k3, k4⟩ := hr i hi
      obtain ⟨z0, e0, _⟩ := DataW.trod_int Try.underlying3 k3
      obtain ⟨z1, e1, _⟩ := DataW.trod_int Try.underlying3 k4
      simp only [List.cons.injEq, and_true] at e0 e1
      exact ⟨(z0, z1), by rw [k1, e0], by rw [k2, e1]⟩
    obtain ⟨y, hy⟩ := choose_lt hz
    refine ⟨(List.range len).map y, some x, m, by simp, by simpa using hl, hm, fun h0 => ?_⟩
    have h0' : 0 < len := by simpa using h0
    obtain ⟨b, off, spot⟩ := x
    have hspot : spot = none := by simpa [Addr.add] using World.cell?_spot (hy 0 (by omega)).1
    subst hspot
    refine ⟨b, off, rfl, fun i u hu => ?_⟩
    rw [List.getElem?_map] at hu
    obtain ⟨r, hri, hu⟩ := Option.map_eq_some_iff.1 hu
    have hrl := (List.getElem?_eq_some_iff.1 hri).1
    have hre := (List.getElem?_eq_some_iff.1 hri).2
    simp at hrl hre
    subst hre
    obtain ⟨k1, k2⟩ := hy i (by omega)
    have e : ∀ q, (⟨b, off, none⟩ : Addr).add q = ⟨b, off + q, none⟩ := fun q => by unfold Addr.add; split <;> simp_all
    rw [e] at k1 k2
    rw [← hu]
    exact ⟨k1, k2⟩
/-- The rounds of the calls. -/
structure PlayR (w w1 wr : World) (c d qb k r p : Nat) (R : List T2) (m : List Th) (v vr : Value) : Prop where
  qs : QS (E1 gUp c d w1) wr w.heap.size qb v m p
  kept : Below w.heap.size w wr
  pair : Pair R m p
  row : wr.ownsRow w.heap.size 28 2 vr r (cells2 R)
  len : r = R.length
  turn : p ≤ k
  many : r ≤ k
  hund : k ≤ 100
theorem PlayR.below {w w1 wr w2 : World} {c d qb k r p : Nat} {R : List T2} {m : List Th} {v vr : Value} (h : PlayR w w1 wr c d qb k r p R m v vr) (hb : Below wr.heap.size wr w2) : PlayR w w1 w2 c d qb k r p R m v vr :=
  ⟨h.qs.below hb, th h.kept (Nat.le_refl _) hb, h.pair, own_keep h.row (fun g hg => hb.block g (own_low h.row g hg)), h.len, h.turn, h.many, h.hund⟩
theorem row_aside {E : En Th} {wr w2 : World} {base base2 qb p r : Nat} {m : List Th} {v vr : Value} {xs : List Value} (hq : QS E wr base qb v m p) (hr : wr.ownsRow base2 28 2 vr r xs) (hk : Kept (SQ qb v) wr w2) : w2.ownsRow base2 28 2 vr r xs :=
  own_keep hr (fun g hg => by
    obtain ⟨_, _, cur, k1⟩ := own_block hr hg
    exact (kept_aside hq hk k1 (by decide) (by decide)).trans k1.symm)
/-- The row has grown: the queue is as it was. -/
theorem PlayR.grown {w w1 wr w2 : World} {c d qb k r p : Nat} {R : List T2} {m : List Th} {v vr : Value} (h : PlayR w w1 wr c d qb k r p R m v vr) (hcl : Clo 10 c d w1) (hg : wr.grownBy w2 vr.ownBlock) : QS (E1 gUp c d w1) w2 w.heap.size qb v m p := by
  have hk : Kept (fun q => vr.ownBlock = some q) wr w2 := (Kept.refl _ wr).grown hg (fun q e => .inr e)
  refine QS.keep h.qs hk (fun e => ?_) (fun g hg e => ?_) (fun q hq e => ?_)
  · obtain ⟨_, _, cur, k1⟩ := own_block h.row e
    obtain ⟨_, _, cur2, k2⟩ := Q1.QS.bx h.qs
    rw [k1] at k2; simp at k2
  · obtain ⟨_, _, cur, k1⟩ := own_block h.row e
    obtain ⟨_, _, cur2, k2⟩ := Q1.QS.own h.qs hg
    rw [k1] at k2; simp at k2
  · obtain ⟨_, _, cur, k1⟩ := own_block h.row e
    obtain ⟨xs, q1, _⟩ := h.qs
    have hq' := q1.snap q hq
    rw [k1] at hq'
    rcases hq with e2 | e2
    · have h8 := hcl.hc
      rw [← e2] at h8
      have h9 := hq'.trans h8
      simp at h9
    · have h8 := hcl.hd
      rw [← e2] at h8
      have h9 := hq'.trans h8
      simp at h9
end Go.Proofs.Ytodjfebceljjgaa.U
