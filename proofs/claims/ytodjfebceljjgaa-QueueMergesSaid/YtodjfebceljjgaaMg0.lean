/- QueueMerges: lists of lists of numbers that came in; what the law makes of them. -/
import Derived.Test.YtodjfebceljjgaaRm
import Derived.Test.YtodjfebceljjgaaLp
namespace Go.Proofs.Ytodjfebceljjgaa.U
open Go.ChangeShapes Go.WideShapes Go.ChangeAt Go.RowKit Go.Deep

def ILT (w : World) (v : Value) (ls : List (List Int)) : Prop :=
  ∃ a c, v = .slice a ls.length c ∧ ls.length ≤ c ∧ c ≤ maxLen ∧ (0 < ls.length → ∃ g o, a = some ⟨g, o, none⟩ ∧ ∀ i l, ls[i]? = some l → ∃ u, w.cell? ⟨g, o + i, none⟩ = some u ∧ IT w u l)
theorem cells41 : Try.prog.cellsOf 41 = 1 := by kernel_rfl
theorem open_ilt {H : Type} {enc : TypeId × Value → H} {W : World} {a : Option Addr} {len cap : Nat} {d : DataW H} {p : List MemPlace} {fuel : Nat}
    (h : DataW.trod enc Try.prog W 0 (fun _ => true) true fuel 43 (Value.slice a len cap).cells.toList = some (d, p)) : ∃ l, ILT W (.slice a len cap) l := by
  rcases open_int_rows Try.underlying43 Try.underlying41 Try.underlying3 cells41 cells3 h with ⟨hcs, _⟩ | ⟨x, l, c, A, L, C, Z, hcs, _, hl, hm, _, hr⟩
  · simp [Value.cells] at hcs
    obtain ⟨rfl, rfl, rfl⟩ := hcs
    exact ⟨[], none, 0, rfl, Nat.le_refl _, by decide, fun h => by simp at h⟩
  · simp [Value.cells] at hcs
    obtain ⟨rfl, rfl, rfl⟩ := hcs
    refine ⟨(List.range len).map fun r => (Z r).take (L r), some x, cap, by simp, by simpa using hl, hm, fun h0 => ?_⟩
    have h0' : 0 < len := by simpa using h0
    obtain ⟨b, off, spot⟩ := x
    have hspot : spot = none := by simpa [Addr.add] using World.cell?_spot (hr 0 (by omega)).1
    subst hspot
    refine ⟨b, off, rfl, fun i y hy => ?_⟩
    rw [List.getElem?_map] at hy
    obtain ⟨r, hri, hy⟩ := Option.map_eq_some_iff.1 hy
    have hrl := (List.getElem?_eq_some_iff.1 hri).1
    have hre := (List.getElem?_eq_some_iff.1 hri).2
    simp at hrl hre
    subst hre
    obtain ⟨k1, k2, k3, k4, _, k6, k7⟩ := hr i (by omega)
    have e : (⟨b, off, none⟩ : Addr).add i = ⟨b, off + i, none⟩ := by unfold Addr.add; split <;> simp_all
    rw [e] at k1
    refine ⟨_, k1, ?_⟩
    rw [← hy]
    cases hA : A i with
    | none =>
      have hc := k6 hA
      have hL : L i = 0 := by omega
      rw [hL, hc]
      simpa using it_nil W
    | some a' => exact it_of k2 k3 k4 (fun j hj => (k7 a' hA).2 j (by omega))
/-- What the law makes of its lists. -/
def mkL (ls : List (List Int)) : List (List T2) := ls.mapIdx fun i l => madeL l (100 * i)
theorem mkL_len (ls : List (List Int)) : (mkL ls).length = ls.length := by simp [mkL]
theorem mkL_get {ls : List (List Int)} {k : Nat} {l : List Int} (h : ls[k]? = some l) : (mkL ls)[k]? = some (madeL l (100 * k)) := by simp [mkL, h]
theorem infoSl : (Try.prog.info? 31).map (fun i => (i.zero, i.size, i.bytes)) = some (some (.slice none 0 0), 1, 24) := by kernel_rfl
structure MakI (w wr : World) (MS : List (List T2)) (k : Nat) (v : Value) (xs : List Value) : Prop where
  own : wr.ownsRow w.heap.size 31 1 v k xs
  each : ∀ (i : Nat) u l, xs[i]? = some u → MS[i]? = some l → wr.ownsRow w.heap.size 28 2 u l.length (cells2 l)
  kept : Below w.heap.size w wr
  small : (MS.take k).flatten.length ≤ 40 * k
theorem MakI.len {w wr : World} {MS : List (List T2)} {k : Nat} {v : Value} {xs : List Value} (h : MakI w wr MS k v xs) : xs.length = k := by have := h.own.1; omega
theorem MakI.start (w : World) (MS : List (List T2)) : MakI w w MS 0 (.slice none 0 0) [] := ⟨World.ownsRow_nil _ _ _ _, (fun i u l h => by cases h), Below.refl _ _, by simp⟩
theorem MakI.below {w wr w2 : World} {MS : List (List T2)} {k : Nat} {v : Value} {xs : List Value} (h : MakI w wr MS k v xs) (hb : Below wr.heap.size wr w2) : MakI w w2 MS k v xs :=
  ⟨own_keep h.own (fun g hg => hb.block g (own_low h.own g hg)), fun i u l h1 h2 => own_keep (h.each i u l h1 h2) (fun g hg => hb.block g (own_low (h.each i u l h1 h2) g hg)), th h.kept (Nat.le_refl _) hb, h.small⟩
theorem MakI.more {w wr w2 : World} {MS : List (List T2)} {k : Nat} {v v2 u : Value} {xs : List Value} {l : List T2} (h : MakI w wr MS k v xs) (hl : MS[k]? = some l) (h40 : l.length ≤ 40) (hu : wr.ownsRow w.heap.size 28 2 u l.length (cells2 l)) (hown : w2.ownsRow w.heap.size 31 1 v2 (k + 1) (xs ++ [u])) (hg : wr.grownBy w2 v.ownBlock) : MakI w w2 MS (k + 1) v2 (xs ++ [u]) := by
  have keep : ∀ {y : Value} {n : Nat} {ys : List Value}, wr.ownsRow w.heap.size 28 2 y n ys → w2.ownsRow w.heap.size 28 2 y n ys := fun {y n ys} hy => hy.kept hg (by
    cases hb : y.ownBlock with
    | none => exact .inl rfl
    | some g =>
      refine .inr (fun e => ?_)
      obtain ⟨_, _, c1, e1⟩ := own_block hy hb
      obtain ⟨_, _, c2, e2⟩ := own_block h.own e.symm
      rw [e1] at e2
      simp at e2)
  refine ⟨hown, fun i y q h1 h2 => ?_, h.kept.grown hg h.kept.size (fun q e => (own_block h.own e).1), ?_⟩
  · have hxl := h.len
    by_cases hi : i < xs.length
    · rw [List.getElem?_append_left hi] at h1
      exact keep (h.each i y q h1 h2)
    · have hi2 : i < xs.length + 1 := by have := (List.getElem?_eq_some_iff.1 h1).1; simpa using this
      obtain rfl : i = k := by omega
      rw [List.getElem?_append_right (by omega), show i - xs.length = 0 by omega] at h1
      rw [hl] at h2
      rw [← Option.some.inj h1, ← Option.some.inj h2]
      exact keep hu
  · rw [flat_take hl, List.length_append]
    have := h.small
    omega
theorem MakI.lists {w wr : World} {MS : List (List T2)} {v : Value} {xs : List Value} (h : MakI w wr MS MS.length v xs) : LT wr v MS := by
  have hx := h.len
  obtain ⟨a, c, rfl, h1, h2⟩ := own_at h.own
  refine ⟨a, c, rfl, h1, h2, fun h0 => ?_⟩
  rcases h.own.2 with ⟨_, h9⟩ | ⟨g, cap, cur, e, k1, k2, k3, k4, k5, k6⟩
  · omega
  · simp only [Value.slice.injEq] at e
    obtain ⟨rfl, _, rfl⟩ := e
    refine ⟨g, 0, rfl, fun i l hl => ?_⟩
    have hi : i < xs.length := by have := (List.getElem?_eq_some_iff.1 hl).1; omega
    obtain ⟨u, hu⟩ : ∃ u, xs[i]? = some u := ⟨_, List.getElem?_eq_getElem hi⟩
    refine ⟨u, ?_, RT.of_own (h.each i u l hu hl)⟩
    rw [Lib.cell_of_heap k2]
    rw [← k6, List.getElem?_take] at hu
    split at hu
    · rw [Nat.zero_add, ← Array.getElem?_toList]
      exact hu
    · cases hu
end Go.Proofs.Ytodjfebceljjgaa.U
