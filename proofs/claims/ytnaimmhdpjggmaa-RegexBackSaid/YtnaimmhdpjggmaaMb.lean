/- Rows of nodes of the call's own; the law's Plain, Nodes, Texts. -/
import Derived.Test.YtnaimmhdpjggmaaMa
import Derived.Laws.OwnMore
namespace Go.Proofs.Ytnaimmhdpjggmaa.U
open Go.RowKit

/-- The cells of nodes. -/
def ndC (n : Nd) : List Value := [.int .i64 n.op, .string ⟨n.sym.toArray⟩, .int .i64 n.a, .int .i64 n.b]
def ndCells (l : List Nd) : List Value := l.flatMap ndC
theorem ndCells_len (l : List Nd) : (ndCells l).length = l.length * 4 := by
  unfold ndCells
  induction l with
  | nil => rfl
  | cons a t ih => rw [List.flatMap_cons, List.length_append, ih, List.length_cons]; simp [ndC]; omega
theorem ndCells_app (l m : List Nd) : ndCells (l ++ m) = ndCells l ++ ndCells m := by unfold ndCells; rw [List.flatMap_append]
theorem ndCells_get (l : List Nd) : ∀ (i : Nat) (n : Nd), l[i]? = some n → (ndCells l)[i * 4]? = some (.int .i64 n.op) ∧ (ndCells l)[i * 4 + 1]? = some (.string ⟨n.sym.toArray⟩) ∧ (ndCells l)[i * 4 + 2]? = some (.int .i64 n.a) ∧ (ndCells l)[i * 4 + 3]? = some (.int .i64 n.b) := by
  induction l with
  | nil => intro i n h; simp at h
  | cons a t ih =>
    intro i n h
    have e : ndCells (a :: t) = .int .i64 a.op :: .string ⟨a.sym.toArray⟩ :: .int .i64 a.a :: .int .i64 a.b :: ndCells t := rfl
    cases i with
    | zero => cases h; exact ⟨rfl, rfl, rfl, rfl⟩
    | succ i =>
      have := ih i n (by simpa using h)
      rw [e, show (i + 1) * 4 = i * 4 + 1 + 1 + 1 + 1 by omega]
      simp only [List.getElem?_cons_succ]
      exact this
theorem ndCells_one (l : List Nd) : ∀ u ∈ ndCells l, u.oneCell' = true := by
  intro u hu
  unfold ndCells at hu
  obtain ⟨n, _, hn⟩ := List.mem_flatMap.1 hu
  simp only [ndC, List.mem_cons, List.not_mem_nil, or_false] at hn
  rcases hn with rfl | rfl | rfl | rfl <;> rfl
/-- A row of nodes of the call's own. -/
def NO (w : World) (base : Nat) (t : TypeId) (v : Value) (l : List Nd) : Prop := w.ownsRow base t 4 v l.length (ndCells l)
theorem cell_al {w : World} {p : Addr} {v : Value} (o : Obj) (h : w.cell? p = some v) : (w.alloc o).cell? p = some v := up_cell ((Below.refl _ w).alloc (Nat.le_refl _) o) (Nat.le_refl _) h
theorem add0 (g j : Nat) : (⟨g, 0, none⟩ : Addr).add j = ⟨g, j, none⟩ := by unfold Addr.add; split <;> simp_all
theorem NO.row {w : World} {base : Nat} {t : TypeId} {v : Value} {l : List Nd} (h : NO w base t v l) : NR w v l := by
  rcases h.2 with ⟨rfl, h0⟩ | ⟨g, cap, cur, rfl, hr⟩
  · exact ⟨none, 0, by rw [h0], by omega, by unfold maxLen; omega, fun h1 => by omega⟩
  · refine ⟨_, cap, rfl, hr.2.2.1, hr.2.2.2.1, fun _ => ⟨g, 0, rfl, fun i n hn => ?_⟩⟩
    obtain ⟨k1, k2, k3, k4⟩ := ndCells_get l i n hn
    have c := World.ownsRow.cells h (g := g) rfl
    have c1 := c _ _ k1
    have c2 := c _ _ k2
    have c3 := c _ _ k3
    have c4 := c _ _ k4
    rw [add0] at c1 c2 c3 c4
    rw [Nat.zero_add]
    exact ⟨c1, c2, c3, c4⟩
theorem NO.kept {w w' : World} {base : Nat} {t : TypeId} {v : Value} {l : List Nd} (h : NO w base t v l) (hb : Below w.heap.size w w') : NO w' base t v l := by
  refine ⟨h.1, ?_⟩
  rcases h.2 with h1 | ⟨g, cap, cur, hv, hg, hc, hr⟩
  · exact .inl h1
  · exact .inr ⟨g, cap, cur, hv, hg, by rw [hb.block g (lt_of_block hc)]; exact hc, hr⟩
theorem infoR : (Try.prog.info? 46).map (fun i => (i.zero, i.size, i.bytes)) = some (some (.agg #[.int .i64 0, .string ⟨#[]⟩, .int .i64 0, .int .i64 0]), 4, 40) := by kernel_rfl
theorem cell_four_new (w : World) (a b c d : Value) (t : TypeId) : ∀ j u, [a, b, c, d][j]? = some u → (w.alloc (.cells #[a, b, c, d] t)).cell? ((⟨w.heap.size, 0, none⟩ : Addr).add j) = some u := by
  intro j u hj
  match j, hj with
  | 0, hj => simp at hj; subst hj; simp [Addr.add]
  | 1, hj => simp at hj; subst hj; simp [Addr.add]
  | 2, hj => simp at hj; subst hj; simp [Addr.add]
  | 3, hj => simp at hj; subst hj; simp [Addr.add]
theorem news_nd (w : World) (o : Obj) (x : Nd) (t : TypeId) : ∀ j u, (ndC x)[j]? = some u → ((w.alloc o).alloc (.cells #[.int .i64 x.op, .string ⟨x.sym.toArray⟩, .int .i64 x.a, .int .i64 x.b] t)).cell? ((⟨w.heap.size + 1, 0, none⟩ : Addr).add j) = some u := by
  have := cell_four_new (w.alloc o) (.int .i64 x.op) (.string ⟨x.sym.toArray⟩) (.int .i64 x.a) (.int .i64 x.b) t
  rw [show (w.alloc o).heap.size = w.heap.size + 1 by simp] at this
  exact this
theorem ndC_one (x : Nd) : ∀ u ∈ ndC x, u.oneCell' = true := by intro u hu; exact ndCells_one [x] u (by simpa [ndCells] using hu)
def PlainPost (l : List Nd) (w : World) (e : Ending) (w' : World) : Prop := ∃ v, e = .returned v ∧ NO w' w.heap.size 46 v l ∧ Below w.heap.size w w'
set_option maxHeartbeats 2000000 in
set_option maxRecDepth 10000 in
theorem plain_any (v : Value) (l : List Nd) (w : World) (h : NR w v l) (hl : l.length ≤ 1024) : Calls Try.prog 7 #[.agg #[v]] w fun e w' => PlainPost l w e w' := by
  obtain ⟨a, c, rfl, h2, h3, h4⟩ := h.at
  obtain ⟨n, hn⟩ : ∃ n, n = l.length := ⟨_, rfl⟩
  have hn63 : n ≤ 1024 := by omega
  have HN := Lib.hid hn
  have H4 := Lib.hid h4
  have HI := Lib.hid infoR
  have HB0 := Lib.hid ((Below.refl w.heap.size w).alloc (Nat.le_refl _) (.cells #[.slice a n c] 24))
  have hc0 : (w.alloc (.cells #[.slice a n c] 24)).cell? ⟨w.heap.size, 0, none⟩ = some (.slice a n c) := by simp
  have HC0 := Lib.hid hc0
  rw [← hn]
  clear h h2 h3 h4 hn hl hc0
  go_enter Try.func7, Try.ntmps7
  go_wp2_with fail
  go_loopw [3, 4] (fun v i wr => ∃ k : Nat, i = .int .i64 k ∧ k ≤ n ∧ Hid (NO wr (w.heap.size + 1) 46 v (l.take k)) ∧ wr.cell? ⟨w.heap.size, 0, none⟩ = some (.slice a n c) ∧ w.heap.size + 1 ≤ wr.heap.size ∧ Hid (Below w.heap.size w wr)) (fun _ i _ => n - (intOf i).toNat)
  case atStart => exact ⟨0, rfl, by omega, Lib.hid (World.ownsRow_nil _ _ _ _), HC0.out, by simp, HB0⟩
  case round =>
    obtain ⟨k, rfl, hk, HO, hc0, hsz, HB⟩ := hrel
    by_cases hlt : k < n
    · obtain ⟨x, hx⟩ : ∃ x, l[k]? = some x := ⟨_, List.getElem?_eq_getElem (by rw [← HN.out]; exact hlt)⟩
      obtain ⟨g, o, rfl, k1, k2, k3, k4⟩ := H4.out k x hx
      have s1 := up_cell HB.out (Nat.le_refl _) k1
      have s2 := up_cell HB.out (Nat.le_refl _) k2
      have s3 := up_cell HB.out (Nat.le_refl _) k3
      have s4 := up_cell HB.out (Nat.le_refl _) k4
      have hi0 : (0 : Int) ≤ k := by omega
      have hi1 : (k : Int) < n := by omega
      have hd1 : decide ((k : Int) < n) = true := by simp; omega
      have hlen : (l.take k).length = k := by rw [List.length_take, ← HN.out]; omega
      have HX := Lib.hid hx
      have HLT := Lib.hid hlt
      have HLEN := Lib.hid hlen
      have HSZ := Lib.hid hsz
      have HC0' := Lib.hid hc0
      obtain ⟨i0, hi, hz0, hz1, hz2⟩ := info_parts HI.out
      clear k1 k2 k3 k4 hx hlt hlen
      go_wp2_with (at_builtin; go_loud (refine wpList_append_own _ rfl _ _ 28 rfl (w.heap.size + 1) 46 i0 (.agg #[.int .i64 0, .string ⟨#[]⟩, .int .i64 0, .int .i64 0]) 4 40 Try.underlying28 hi hz0 hz1 hz2 rfl (by decide) _ _ _ rfl ((HO.out.alloc _).alloc _) ⟨wr.heap.size + 1, 0, none⟩ 1 1 (ndC x) rfl rfl (news_nd _ _ _ _) (ndC_one _) (by rw [HLEN.out]; unfold maxLen; omega) (by rw [HLEN.out]; omega) (by have := HSZ.out; simp; omega) ?_); intro v1 w1 hown1 hgrow1 _)
      go_roundw
      case rel =>
        have e : l.take (k + 1) = l.take k ++ [x] := by rw [List.take_add_one, HX.out]; rfl
        have hb : Below w.heap.size w w1 := (((HB.out.alloc (by have := HSZ.out; omega) _).alloc (by have := HSZ.out; simp; omega) _)).grown hgrow1 (by simp; have := HSZ.out; omega) (fun b hb => by have := (HO.out.lt b hb).1; omega)
        refine ⟨k + 1, by go_num, by have := HLT.out; omega, Lib.hid ?_, ?_, ?_, Lib.hid hb⟩
        · rw [e]
          have h9 := hown1
          unfold NO
          rw [ndCells_app, List.length_append]
          simpa [ndCells] using h9
        · exact hgrow1.cell (cell_al _ (cell_al _ HC0'.out)) (fun e => by have := (HO.out.lt _ e.symm).1; simp at this; omega)
        · have h7 := hgrow1.size; have h8 := HSZ.out; simp at h7; omega
      case measure => have := HLT.out; simp [intOf]; omega
    · have hd1 : decide ((k : Int) < n) = false := by simp; omega
      have hd2 : decide (k < n) = false := by simp; omega
      have hkn : k = n := by omega
      have HKN := Lib.hid hkn
      clear hlt hk hkn
      go_wp2_with fail
      go_ret
      have h9 := HO.out
      rw [List.take_of_length_le (by rw [← HN.out, HKN.out]; exact Nat.le_refl _)] at h9
      refine ⟨_, rfl, ⟨h9.1, ?_⟩, HB.out⟩
      rcases h9.2 with q | ⟨g, cap, cur, q1, q2, q3⟩
      · exact .inl q
      · exact .inr ⟨g, cap, cur, q1, by omega, q3⟩
end Go.Proofs.Ytnaimmhdpjggmaa.U
