/- The law's own helpers: made, Things. -/
import Derived.Test.YtodjfebceljjgaaM6
namespace Go.Proofs.Ytodjfebceljjgaa.U
open Go.RowKit

/-- A list of numbers, wherever it lies. -/
def IT (w : World) (v : Value) (l : List Int) : Prop :=
  ∃ a c, v = .slice a l.length c ∧ l.length ≤ c ∧ c ≤ maxLen ∧ (0 < l.length → ∃ g o, a = some ⟨g, o, none⟩ ∧ ∀ i x, l[i]? = some x → w.cell? ⟨g, o + i, none⟩ = some (.int .i64 x))
theorem IT.below {w w' : World} {v : Value} {l : List Int} (h : IT w v l) (hb : Below w.heap.size w w') : IT w' v l := by
  obtain ⟨a, c, h1, h2, h3, h4⟩ := h
  refine ⟨a, c, h1, h2, h3, fun h0 => ?_⟩
  obtain ⟨g, o, e, h5⟩ := h4 h0
  exact ⟨g, o, e, fun i x hx => (hb.cell (blk_of_cell (h5 i x hx))).trans (h5 i x hx)⟩
def madeL : List Int → Nat → List T2
  | [], _ => []
  | x :: r, k => (x, (k : Int)) :: madeL r (k + 1)
theorem madeL_len : ∀ (l : List Int) k, (madeL l k).length = l.length := by
  intro l
  induction l with
  | nil => intro k; rfl
  | cons x r ih => intro k; simp [madeL, ih]
theorem madeL_get : ∀ (l : List Int) (k i : Nat) x, l[i]? = some x → (madeL l k)[i]? = some (x, ((k + i : Nat) : Int)) := by
  intro l
  induction l with
  | nil => intro k i x h; simp at h
  | cons y r ih =>
    intro k i x h
    cases i with
    | zero => simp at h; subst h; simp [madeL]
    | succ i =>
      have := ih (k + 1) i x (by simpa using h)
      simp only [madeL, List.getElem?_cons_succ]
      rw [this, show k + 1 + i = k + (i + 1) by omega]
theorem madeL_take (l : List Int) (k i : Nat) (x : Int) (h : l[i]? = some x) : (madeL l k).take (i + 1) = (madeL l k).take i ++ [(x, ((k + i : Nat) : Int))] := by
  rw [List.take_add_one, madeL_get l k i x h]
  rfl
theorem cells2_len (l : List T2) : (cells2 l).length = l.length * 2 := by
  induction l with
  | nil => rfl
  | cons x r ih => simp [cells2] at ih ⊢; omega
theorem cells2_get : ∀ (l : List T2) (i : Nat) (x : T2), l[i]? = some x → (cells2 l)[i * 2]? = some (.int .i64 x.1) ∧ (cells2 l)[i * 2 + 1]? = some (.int .i64 x.2) := by
  intro l
  induction l with
  | nil => intro i x h; simp at h
  | cons y r ih =>
    intro i x h
    have e : cells2 (y :: r) = .int .i64 y.1 :: .int .i64 y.2 :: cells2 r := rfl
    rw [e]
    cases i with
    | zero => simp at h; subst h; simp
    | succ i =>
      have := ih i x (by simpa using h)
      rw [show (i + 1) * 2 = i * 2 + 1 + 1 by omega, show i * 2 + 1 + 1 + 1 = (i * 2 + 1) + 1 + 1 by omega]
      simpa using this
/-- A row that a call owns, as a list wherever it lies. -/
theorem RT.of_own {w : World} {base : Nat} {v : Value} {l : List T2} (h : w.ownsRow base 28 2 v l.length (cells2 l)) : RT w v l := by
  obtain ⟨a, c, rfl, h1, h2⟩ := own_at h
  refine ⟨a, c, rfl, h1, h2, fun h0 => ?_⟩
  obtain ⟨g, c', e, _⟩ := own_some h h0
  simp only [Value.slice.injEq] at e
  obtain ⟨rfl, _, rfl⟩ := e
  refine ⟨g, 0, rfl, fun i x hx => ?_⟩
  obtain ⟨k1, k2⟩ := cells2_get l i x hx
  have get : ∀ j u, (cells2 l)[j]? = some u → w.cell? ⟨g, j, none⟩ = some u := fun j u hu => by
    have := h.cells (g := g) rfl j u hu
    rw [add_zero_at] at this
    exact this
  rw [Nat.zero_add]
  exact ⟨get _ _ k1, get _ _ k2⟩
set_option maxHeartbeats 2000000 in
set_option maxRecDepth 10000 in
theorem made_any (v : Value) (l : List Int) (f : Nat) (w : World) (h : IT w v l) (hl : l.length ≤ 1000) (hf : f ≤ 100000) :
    Calls Try.prog 18 #[v, .int .i64 f] w fun e w' => ∃ vo, e = .returned vo ∧ w'.ownsRow w.heap.size 28 2 vo (madeL l f).length (cells2 (madeL l f)) ∧ Below w.heap.size w w' := by
  have HI := Lib.hid h
  obtain ⟨a, c, rfl, h1, h2, h3⟩ := h
  obtain ⟨i0, hi, hz0, hz1, hz2⟩ := info_parts infoTh
  have hse : Try.prog.underlying 31 = some (.slice 28) := Try.underlying31
  have H3 := Lib.hid h3
  obtain ⟨n, hn⟩ : ∃ n, n = l.length := ⟨_, rfl⟩
  have hn0 : wrap64 (n : Int) = n := by unfold wrap64; omega
  have HW : Hid (∀ k : Nat, k < n → wrap64 ((k : Int) + 1) = (k : Int) + 1 ∧ wrap64 ((f : Int) + (k : Int)) = ((f + k : Nat) : Int)) := Lib.hid (fun k hk => ⟨by unfold wrap64; omega, by unfold wrap64; omega⟩)
  have HN := Lib.hid hn
  have HLL := Lib.hid (show n ≤ 1000 by omega)
  have HML := Lib.hid (madeL_len l f)
  obtain ⟨M, hM⟩ : ∃ M, M = madeL l f := ⟨_, rfl⟩
  have HMD := Lib.hid hM
  rw [← hM] at HML ⊢
  rw [← hn]
  clear h1 h2 h3 hl hf hn hM
  go_enter Try.func18, Try.ntmps18
  go_wp2_with fail
  go_loopw [5, 6] (fun va i wr => ∃ (k : Nat) (aa : Option Addr) (ac : Nat), i = .int .i64 k ∧ k ≤ n ∧ va = .slice aa k ac ∧ Hid (wr.ownsRow w.heap.size 28 2 (.slice aa k ac) k (cells2 (M.take k))) ∧ Hid (Below w.heap.size w wr)) (fun _ i _ => n - (intOf i).toNat)
  case atStart => exact ⟨0, none, 0, rfl, by omega, rfl, Lib.hid (World.ownsRow_nil _ _ _ _), Lib.hid (Below.refl _ _)⟩
  case round =>
    obtain ⟨k, aa, ac, rfl, hk, rfl, HO, HB⟩ := hrel
    by_cases hlt : k < n
    · obtain ⟨x, hx⟩ : ∃ x, l[k]? = some x := ⟨_, List.getElem?_eq_getElem (by rw [← HN.out]; exact hlt)⟩
      obtain ⟨g, o, rfl, h5⟩ := H3.out (by rw [← HN.out]; omega)
      have c1 : wr.cell? ⟨g, o + k, none⟩ = some (.int .i64 x) := (HB.out.cell (blk_of_cell (h5 k x hx))).trans (h5 k x hx)
      obtain ⟨hw1, hw2⟩ := HW.out k hlt
      have hi0 : (0 : Int) ≤ k := by omega
      have hi1 : (k : Int) < n := by omega
      have hd1 : decide ((k : Int) < n) = true := by simp; omega
      have HTK : Hid (M.take (k + 1) = M.take k ++ [(x, ((f + k : Nat) : Int))]) := Lib.hid (by rw [HMD.out]; exact madeL_take l f k x hx)
      have HLT := Lib.hid hlt
      clear hx h5 hk
      go_upto_region 5 with fail
      go_wp2_with (at_builtin; refine wpList_append_own _ rfl _ _ 31 rfl w.heap.size 28 i0 (.agg #[.int .i64 0, .int .i64 0]) 2 16 hse hi hz0 hz1 hz2 rfl (by decide) _ _ _ rfl (HO.out.alloc _) ⟨wr.heap.size, 0, none⟩ 1 1 [.int .i64 x, .int .i64 ((f + k : Nat) : Int)] rfl rfl (cell_two_new _ _ _ _) (by simp [Value.oneCell']) (by unfold maxLen; have := HLL.out; omega) (by have := HLL.out; omega) (by have := HB.out.size; simp; omega) ?_; intro v5 w5 hown5 hgrow5 _)
      obtain ⟨ba, bc, rfl, _, _⟩ := own_at hown5
      have hfin : w5.ownsRow w.heap.size 28 2 (.slice ba (k + 1) bc) (k + 1) (cells2 (M.take (k + 1))) := by rw [HTK.out, cells2_append]; exact hown5
      have HFIN := Lib.hid hfin
      have HB5 : Hid (Below w.heap.size w w5) := Lib.hid ((al HB.out (Nat.le_refl _) _).grown hgrow5 (by have := HB.out.size; simp; omega) (fun q e => (own_block HO.out e).1))
      clear hfin hown5 hgrow5
      go_wp2_with fail
      go_roundw
      case rel => exact ⟨k + 1, ba, bc, by rw [hw1]; go_num, by have := HLT.out; omega, rfl, HFIN, HB5⟩
      case measure => rw [hw1]; have := HLT.out; simp only [intOf]; omega
    · have hd1 : decide ((k : Int) < n) = false := by simp; omega
      have hd2 : decide (k < n) = false := by simp; omega
      have HKN := Lib.hid (show k = n by omega)
      clear hlt hk
      go_wp2_with fail
      go_ret
      refine ⟨_, rfl, ?_, HB.out⟩
      have h9 := HO.out
      rw [List.take_of_length_le (by rw [HML.out, ← HN.out]; exact Nat.le_of_eq HKN.out.symm)] at h9
      rw [HML.out, ← HN.out, ← HKN.out]
      exact h9
end Go.Proofs.Ytodjfebceljjgaa.U
