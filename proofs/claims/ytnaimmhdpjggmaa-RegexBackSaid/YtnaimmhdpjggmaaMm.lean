/- The contracts of slices.Clone of nodes and of living. -/
import Derived.Test.YtnaimmhdpjggmaaMl
namespace Go.Proofs.Ytnaimmhdpjggmaa.U
open Go.RowKit

theorem ndCells_split (l : List Nd) : ∀ (j : Nat) (u : Value), (ndCells l)[j]? = some u → ∃ n, l[j / 4]? = some n ∧ (ndC n)[j % 4]? = some u := by
  induction l with
  | nil => intro j u h; simp [ndCells] at h
  | cons a t ih =>
    intro j u h
    have e : ndCells (a :: t) = ndC a ++ ndCells t := rfl
    rw [e] at h
    by_cases hj : j < 4
    · rw [List.getElem?_append_left (by simpa [ndC] using hj)] at h
      exact ⟨a, by rw [Nat.div_eq_of_lt hj]; rfl, by rw [Nat.mod_eq_of_lt hj]; exact h⟩
    · rw [List.getElem?_append_right (by simp [ndC]; omega)] at h
      obtain ⟨n, h1, h2⟩ := ih (j - 4) u (by simpa [ndC] using h)
      refine ⟨n, ?_, ?_⟩
      · rw [show j / 4 = (j - 4) / 4 + 1 by omega, List.getElem?_cons_succ]; exact h1
      · rw [show j % 4 = (j - 4) % 4 by omega]; exact h2
/-- The cells of a row of nodes, one by one. -/
theorem NR.flat {w : World} {g o n c : Nat} {l : List Nd} (h : NR w (.slice (some ⟨g, o, none⟩) n c) l) (h0 : 0 < l.length) : ∀ j u, (ndCells l)[j]? = some u → w.cell? ((⟨g, o, none⟩ : Addr).add j) = some u := by
  intro j u hj
  obtain ⟨a, c', e, _, _, h4⟩ := h
  obtain ⟨g', o', e', h5⟩ := h4 h0
  simp only [Value.slice.injEq] at e
  rw [e'] at e
  simp only [Option.some.injEq, Addr.mk.injEq] at e
  obtain ⟨⟨rfl, rfl, _⟩, _⟩ := e
  obtain ⟨x, hx, hu⟩ := ndCells_split l j u hj
  obtain ⟨k1, k2, k3, k4⟩ := h5 _ x hx
  have ea : (⟨g, o, none⟩ : Addr).add j = ⟨g, o + j, none⟩ := by unfold Addr.add; split <;> simp_all
  rw [ea]
  have hm : j % 4 < 4 := Nat.mod_lt _ (by decide)
  have hd : o + j = o + j / 4 * 4 + j % 4 := by omega
  rw [hd]
  generalize j % 4 = r at hu hm ⊢
  match r, hm, hu with
  | 0, _, hu => cases hu; simpa using k1
  | 1, _, hu => cases hu; exact k2
  | 2, _, hu => cases hu; exact k3
  | 3, _, hu => cases hu; exact k4
theorem infoG : (Try.prog.info? 45).map (fun i => (i.zero, i.size, i.bytes)) = some (some (.agg #[.int .i64 0, .string ⟨#[]⟩, .int .i64 0, .int .i64 0]), 4, 40) := by kernel_rfl
theorem own_none (w : World) (base : Nat) (t : TypeId) (h : base ≤ w.heap.size) : (w.alloc (.cells #[] t)).ownsRow base t 4 (.slice (some ⟨w.heap.size, 0, none⟩) 0 0) 0 [] :=
  ⟨rfl, .inr ⟨w.heap.size, 0, #[], rfl, h, by show (w.heap.push _)[w.heap.size]? = _; simp, Nat.le_refl _, by unfold maxLen; omega, rfl, rfl⟩⟩
def ClonePost (l : List Nd) (w : World) (e : Ending) (w' : World) : Prop := ∃ g c, e = .returned (.slice (some ⟨g, 0, none⟩) l.length c) ∧ NO w' w.heap.size 45 (.slice (some ⟨g, 0, none⟩) l.length c) l ∧ Below w.heap.size w w'
theorem own_slice {w : World} {base size n : Nat} {e : TypeId} {v : Value} {xs : List Value} (h : w.ownsRow base e size v n xs) (h0 : 0 < n) : ∃ g c, v = .slice (some ⟨g, 0, none⟩) n c := by
  rcases h.2 with ⟨_, e0⟩ | ⟨g, c, _, rfl, _⟩
  · omega
  · exact ⟨g, c, rfl⟩
set_option maxHeartbeats 1000000 in
theorem clone_any (v : Value) (l : List Nd) (w : World) (h : NR w v l) (h0 : 0 < l.length) (hl : l.length ≤ 1024) :
    Calls Try.prog 59 #[v] w fun e w' => ClonePost l w e w' := by
  have hrow := h
  obtain ⟨a, c, rfl, h2, h3, h4⟩ := h
  obtain ⟨g, o, rfl, _⟩ := h4 h0
  have HFL := Lib.hid (fun (W : World) (hb : Below w.heap.size w W) => (hrow.below hb).flat h0)
  obtain ⟨n, hn⟩ : ∃ n, n = l.length := ⟨_, rfl⟩
  have HN := Lib.hid hn
  rw [← hn] at h0 hl ⊢
  have HI := Lib.hid infoG
  have HLEN : Hid ((ndCells l).length = n * 4) := Lib.hid (by rw [ndCells_len, hn])
  have heq : ∀ W : World, (binOp .eql 22 (.slice (some ⟨g, o, none⟩) n c) (.slice none 0 0)).run Try.prog W = .ok (.bool false) W := fun W => by
    simp only [binOp]
    simp [Op.equal, Op.maxDepth, Lib.run_equalIn_slice_nil W 9999 22 45 (some ⟨g, o, none⟩) n c 0 0 Try.underlying22]
  clear h2 h3 h4 hn hrow
  obtain ⟨i0, hi, hz0, hz1, hz2⟩ := info_parts HI.out
  go_enter Try.func59, Try.ntmps59
  go_wp2_with (at_builtin; go_loud (refine wpList_append_own _ rfl _ _ 22 rfl w.heap.size 45 i0 (.agg #[.int .i64 0, .string ⟨#[]⟩, .int .i64 0, .int .i64 0]) 4 40 Try.underlying22 hi hz0 hz1 hz2 rfl (by decide) _ _ _ rfl (own_none w w.heap.size 45 (Nat.le_refl _)) ⟨g, o, none⟩ n c (ndCells l) rfl HLEN.out (HFL.out _ ((Below.refl _ w).alloc (Nat.le_refl _) _)) (ndCells_one l) (by unfold maxLen; omega) (by omega) (by simp) ?_); intro v1 w1 hown1 hgrow1 _)
  have h9 := hown1
  rw [Nat.zero_add, List.nil_append] at h9
  obtain ⟨g1, c1, rfl⟩ := own_slice h9 h0
  have HO := Lib.hid h9
  have HB : Hid (Below w.heap.size w w1) := Lib.hid (((Below.refl _ w).alloc (Nat.le_refl _) _).grown hgrow1 (by simp) (fun k e => by have e1 : w.heap.size = k := Option.some.inj e; omega))
  clear hown1 hgrow1 h9
  go_wp2_with fail
  go_ret
  refine ⟨g1, c1, ?_, ?_, HB.out⟩
  · rw [← HN.out]; simp
  · unfold NO
    rw [← HN.out]; exact HO.out

/-- A node's cells put into a row of one's own. -/
theorem own_node {w : World} {base k n c g : Nat} {t : TypeId} {l : List Nd} (h : NO w base t (.slice (some ⟨g, 0, none⟩) n c) l) (hk : k < l.length) (x : Nd) :
    NO ((((w.setCell ⟨g, k * 4, none⟩ (.int .i64 x.op)).setCell ⟨g, k * 4 + 1, none⟩ (.string ⟨x.sym.toArray⟩)).setCell ⟨g, k * 4 + 2, none⟩ (.int .i64 x.a)).setCell ⟨g, k * 4 + 3, none⟩ (.int .i64 x.b)) base t (.slice (some ⟨g, 0, none⟩) n c) (l.set k x) := by
  have hn : n = l.length := by
    rcases h.2 with ⟨e, _⟩ | ⟨_, _, _, e, _⟩
    · cases e
    · cases e; rfl
  subst hn
  have e : ndCells (l.set k x) = ((((ndCells l).set (k * 4) (.int .i64 x.op)).set (k * 4 + 1) (.string ⟨x.sym.toArray⟩)).set (k * 4 + 2) (.int .i64 x.a)).set (k * 4 + 3) (.int .i64 x.b) := by
    refine List.ext_getElem? fun j => ?_
    have hlen := ndCells_len l
    simp only [List.getElem?_set]
    simp only [List.length_set, hlen]
    by_cases hj : j < l.length * 4
    · obtain ⟨y, hy⟩ : ∃ y, (l.set k x)[j / 4]? = some y := ⟨_, List.getElem?_eq_getElem (by rw [List.length_set]; omega)⟩
      obtain ⟨q1, q2, q3, q4⟩ := ndCells_get _ _ _ hy
      have hm : j % 4 < 4 := Nat.mod_lt _ (by decide)
      have hd : j = j / 4 * 4 + j % 4 := by omega
      by_cases hjk : j / 4 = k
      · rw [hjk, List.getElem?_set_self hk] at hy
        obtain rfl := Option.some.inj hy
        rw [hjk] at hd q1 q2 q3 q4
        generalize j % 4 = r at hd hm
        subst hd
        match r, hm with
        | 0, _ => rw [Nat.add_zero, q1]; simp; omega
        | 1, _ => rw [q2]; simp; omega
        | 2, _ => rw [q3]; simp; omega
        | 3, _ => rw [q4]; simp; omega
      · rw [List.getElem?_set_ne (fun e => hjk e.symm)] at hy
        obtain ⟨p1, p2, p3, p4⟩ := ndCells_get _ _ _ hy
        rw [if_neg (by omega), if_neg (by omega), if_neg (by omega), if_neg (by omega)]
        generalize hr : j % 4 = r at hd hm
        rw [hd]
        match r, hm with
        | 0, _ => rw [Nat.add_zero, q1, p1]
        | 1, _ => rw [q2, p2]
        | 2, _ => rw [q3, p3]
        | 3, _ => rw [q4, p4]
    · rw [List.getElem?_eq_none (by rw [ndCells_len, List.length_set]; omega), if_neg (by omega), if_neg (by omega), if_neg (by omega), if_neg (by omega), List.getElem?_eq_none (by rw [hlen]; omega)]
  unfold NO at h ⊢
  rw [e, List.length_set]
  exact ((((World.ownsRow.stored h _ _).1.stored _ _).1.stored _ _).1.stored _ _).1
/-- The nodes of living on the way. -/
def midL (l : List Nd) (k : Nat) : List Nd := (livL l).take k ++ l.drop k
theorem midL_len (l : List Nd) (k : Nat) (h : k ≤ l.length) : (midL l k).length = l.length := by
  unfold midL; rw [List.length_append, List.length_take, List.length_drop, liv_len]; omega
theorem midL_0 (l : List Nd) : midL l 0 = l := by simp [midL]
theorem midL_n (l : List Nd) : midL l l.length = livL l := by
  unfold midL; rw [List.take_of_length_le (by rw [liv_len]; exact Nat.le_refl _), List.drop_length, List.append_nil]
theorem midL_at {l : List Nd} {k : Nat} {x : Nd} (h : l[k]? = some x) : (midL l k)[k]? = some x := by
  have hk := (List.getElem?_eq_some_iff.1 h).1
  unfold midL
  rw [List.getElem?_append_right (by rw [List.length_take]; omega), List.length_take, liv_len, Nat.min_eq_left (Nat.le_of_lt hk), Nat.sub_self, List.getElem?_drop, Nat.add_zero, h]
theorem midL_step {l : List Nd} {k : Nat} {x : Nd} (h : l[k]? = some x) : (midL l k).set k (livN (livesL l) k x) = midL l (k + 1) := by
  have hk := (List.getElem?_eq_some_iff.1 h).1
  have h1 : (livL l)[k]? = some (livN (livesL l) k x) := by rw [liv_get, h]; rfl
  have e : l.drop k = x :: l.drop (k + 1) := by
    obtain ⟨hk, he⟩ := List.getElem?_eq_some_iff.1 h
    rw [← he, ← List.drop_eq_getElem_cons hk]
  unfold midL
  rw [List.set_append_right _ _ (by rw [List.length_take]; omega), List.length_take, liv_len, Nat.min_eq_left (Nat.le_of_lt hk), Nat.sub_self, e, List.set_cons_zero, List.take_add_one, h1]
  simp
theorem midL_keep {l : List Nd} {k : Nat} {x : Nd} (h : l[k]? = some x) (hx : livN (livesL l) k x = x) : midL l (k + 1) = midL l k := by
  rw [← midL_step h, hx]
  refine List.ext_getElem? fun j => ?_
  by_cases e : k = j
  · subst e
    rw [List.getElem?_set_self (by rw [midL_len l k (Nat.le_of_lt (List.getElem?_eq_some_iff.1 h).1)]; exact (List.getElem?_eq_some_iff.1 h).1), midL_at h]
  · rw [List.getElem?_set_ne e]
def LivPost (l : List Nd) (w : World) (e : Ending) (w' : World) : Prop := ∃ v, e = .returned v ∧ NO w' w.heap.size 45 v (livL l) ∧ Below w.heap.size w w'
/-- The rounds of living. -/
structure LvI (w wr : World) (l : List Nd) (g c B db k : Nat) : Prop where
  row : NO wr B 45 (.slice (some ⟨g, 0, none⟩) l.length c) (midL l k)
  lives : WR wr db 4 ((livesL l).map eB)
  var : wr.cell? ⟨w.heap.size, 0, none⟩ = some (.slice (some ⟨g, 0, none⟩) l.length c)
  kept : Below w.heap.size w wr
  low : w.heap.size < B
  apart : g ≠ db
theorem NO.mono {w : World} {B B' : Nat} {t : TypeId} {v : Value} {l : List Nd} (h : NO w B t v l) (hB : B' ≤ B) : NO w B' t v l := by
  refine ⟨h.1, ?_⟩
  rcases h.2 with h1 | ⟨g, cap, cur, hv, hg, hr⟩
  · exact .inl h1
  · exact .inr ⟨g, cap, cur, hv, by omega, hr⟩
theorem NO.blk {w : World} {B g n c : Nat} {t : TypeId} {l : List Nd} (h : NO w B t (.slice (some ⟨g, 0, none⟩) n c) l) : B ≤ g ∧ g < w.heap.size := World.ownsRow.lt h g rfl
theorem NO.node {w : World} {B g n c k : Nat} {t : TypeId} {l : List Nd} {x : Nd} (h : NO w B t (.slice (some ⟨g, 0, none⟩) n c) l) (hx : l[k]? = some x) : NC w g (k * 4) x := by
  obtain ⟨k1, k2, k3, k4⟩ := ndCells_get l k x hx
  have cc := World.ownsRow.cells h (g := g) rfl
  have c1 := cc _ _ k1
  have c2 := cc _ _ k2
  have c3 := cc _ _ k3
  have c4 := cc _ _ k4
  rw [add0] at c1 c2 c3 c4
  exact ⟨c1, c2, c3, c4⟩
theorem NO.froz {w : World} {B g n c : Nat} {t : TypeId} {l : List Nd} (h : NO w B t (.slice (some ⟨g, 0, none⟩) n c) l) (j : Nat) : w.frozen? ⟨g, j, none⟩ = false := by
  rcases h.2 with ⟨e, _⟩ | ⟨g', cap, cur, e, _, hc, _⟩
  · cases e
  · cases e; exact Lib.frozen_of_heap hc j
theorem LvI.step {w wr : World} {l : List Nd} {g c B db k : Nat} {x : Nd} (h : LvI w wr l g c B db k) (hx : l[k]? = some x) (hn : livN (livesL l) k x = x) : LvI w wr l g c B db (k + 1) :=
  ⟨by rw [midL_keep hx hn]; exact h.row, h.lives, h.var, h.kept, h.low, h.apart⟩
theorem LvI.below {w wr wx : World} {l : List Nd} {g c B db k : Nat} (h : LvI w wr l g c B db k) (hb : Below wr.heap.size wr wx) : LvI w wx l g c B db k :=
  ⟨NO.kept h.row hb, h.lives.below hb, up_cell hb (Nat.le_refl _) h.var, Go.Proofs.Ytnaimmhdpjggmaa.U.th h.kept (Nat.le_refl _) hb, h.low, h.apart⟩
theorem LvI.store {w wr : World} {l : List Nd} {g c B db k : Nat} {x : Nd} (h : LvI w wr l g c B db k) (hx : l[k]? = some x) (hn : livN (livesL l) k x = nd0) :
    LvI w ((((wr.setCell ⟨g, k * 4, none⟩ (.int .i64 0)).setCell ⟨g, k * 4 + 1, none⟩ (.string ⟨#[]⟩)).setCell ⟨g, k * 4 + 2, none⟩ (.int .i64 0)).setCell ⟨g, k * 4 + 3, none⟩ (.int .i64 0)) l g c B db (k + 1) := by
  have hk := (List.getElem?_eq_some_iff.1 hx).1
  have hb := h.row.blk
  have hgw : w.heap.size ≤ g := Nat.le_trans (Nat.le_of_lt h.low) hb.1
  have hg0 : w.heap.size ≠ g := by have := h.low; omega
  have h1 := own_node h.row (k := k) (by rw [midL_len l k (Nat.le_of_lt hk)]; exact hk) nd0
  rw [← hn, midL_step hx] at h1
  rw [hn] at h1
  refine ⟨h1, (((h.lives.other h.apart _).other h.apart _).other h.apart _).other h.apart _, ?_, (((h.kept.setCell hgw _).setCell hgw _).setCell hgw _).setCell hgw _, h.low, h.apart⟩
  have e : ∀ (W : World) (j : Nat) (u : Value), (W.setCell ⟨g, j, none⟩ u).cell? ⟨w.heap.size, 0, none⟩ = W.cell? ⟨w.heap.size, 0, none⟩ := fun W j u => World.cell?_of_block (a := ⟨w.heap.size, 0, none⟩) (Below.heap_setCell W ⟨g, j, none⟩ u w.heap.size hg0)
  rw [e, e, e, e]
  exact h.var
set_option maxHeartbeats 4000000 in
set_option maxRecDepth 20000 in
theorem living_any (v : Value) (l : List Nd) (w : World) (h : NR w v l) (hf : formB l = true) (hl : l.length ≤ 1024) :
    Calls Try.prog 45 #[v] w fun e w' => LivPost l w e w' := by
  obtain ⟨n, hn⟩ : ∃ n, n = l.length := ⟨_, rfl⟩
  have h0 := form_pos hf
  obtain ⟨W1, hW1⟩ : ∃ W1, W1 = w.alloc (.cells #[v] 22) := ⟨_, rfl⟩
  have HB1 : Hid (Below w.heap.size w W1) := Lib.hid (by rw [hW1]; exact (Below.refl _ w).alloc (Nat.le_refl _) _)
  have wl1 : WR W1 w.heap.size 22 [v] := by rw [hW1]; exact WR.new w 22 [v]
  have c1 : W1.cell? ⟨w.heap.size, 0, none⟩ = some v := wl1.cell rfl
  have WL1 := Lib.hid wl1
  have HSZ1 : Hid (W1.heap.size = w.heap.size + 1) := Lib.hid (by rw [hW1]; simp)
  have HROW := Lib.hid (fun (W : World) (hb : Below w.heap.size w W) => h.below hb)
  have HUP := Lib.hid (upB_any 57 #[.pointer (some ⟨w.heap.size, 0, none⟩)] v l W1 (deadT l) (h.below HB1.out) hl (fun args w => enters_of Try.func57 (by kernel_rfl) rfl args w) (dead_tell hf (h.below HB1.out) c1))
  obtain ⟨a, cc, rfl, h2, h3, h4⟩ := h.at
  have HN := Lib.hid hn
  have HW1 := Lib.hid hW1
  have HF := Lib.hid hf
  have HL := Lib.hid hl
  have H0 := Lib.hid h0
  clear h h2 h3 h4 hW1 hf hl h0 hn wl1
  go_enter Try.func45, Try.ntmps45
  go_wp2_with fail
  rw [← HW1.out]
  refine HUP.out.mono ?_
  rintro e w2 ⟨rfl, hrow2, hb2⟩
  have HB2 := Lib.hid (th HB1.out (Nat.le_refl _) hb2)
  have cl2 := up_cell hb2 (Nat.le_refl _) c1
  have WL2 := Lib.hid (WL1.out.below hb2)
  obtain ⟨W3, hW3⟩ : ∃ W3, W3 = w2.alloc (.cells #[.slice (some ⟨W1.heap.size, 0, none⟩) l.length l.length] 53) := ⟨_, rfl⟩
  have hb3 : Below w2.heap.size w2 W3 := by rw [hW3]; exact (Below.refl _ _).alloc (Nat.le_refl _) _
  have HB3 := Lib.hid (th HB2.out (Nat.le_refl _) hb3)
  have cl3 := up_cell hb3 (Nat.le_refl _) cl2
  have WL3 := Lib.hid (WL2.out.below hb3)
  have hdead : BoolsAt W3 ⟨w2.heap.size, 0, none⟩ W1.heap.size l.length (deadL l) := ⟨by rw [hW3]; simp, hrow2.below hb3, by unfold deadL; rw [upA_len]⟩
  have HDN := Lib.hid (down_any 58 #[.pointer (some ⟨w.heap.size, 0, none⟩), .pointer (some ⟨w2.heap.size, 0, none⟩)] _ l true W3 (liveT l (deadL l)) (HROW.out W3 HB3.out) HL.out HF.out (fun args w => enters_of Try.func58 (by kernel_rfl) rfl args w) (live_tell HF.out (HROW.out W3 HB3.out) cl3 hdead))
  have HW3 := Lib.hid hW3
  have HSZ3 : Hid (W1.heap.size ≤ W3.heap.size) := Lib.hid (Nat.le_trans hb2.size hb3.size)
  have cl3s := cell_al (.cells #[.slice (some ⟨W1.heap.size, 0, none⟩) l.length l.length] 53) cl2
  clear hrow2 hb2 hb3 hW3 hdead
  go_wp2_with fail
  rw [← HW3.out]
  refine HDN.out.mono ?_
  rintro e w4 ⟨rfl, hrow4, hb4⟩
  have HR4 := Lib.hid hrow4
  have HB4 := Lib.hid (th HB3.out (Nat.le_refl _) hb4)
  have cl4 := up_cell hb4 (Nat.le_refl _) cl3
  have WL4 := Lib.hid (WL3.out.below hb4)
  have HSZ4 : Hid (W3.heap.size < w4.heap.size) := Lib.hid hrow4.lt
  have HSZW : Hid (w.heap.size < w4.heap.size) := Lib.hid (blk_of_cell cl4)
  have HCL := Lib.hid (clone_any _ l w4 (HROW.out w4 HB4.out) H0.out HL.out)
  clear hrow4 hb4 c1 cl2 cl3 cl3s
  go_wp2_with fail
  refine HCL.out.mono ?_
  rintro e w5 ⟨g, c, rfl, hno, hb5⟩
  have hblk := hno.blk
  have cl5 := up_cell hb5 (Nat.le_refl _) cl4
  have WL5 := Lib.hid (WL4.out.below hb5)
  have fl5 := WL5.out.froz 0
  have hneg : g ≠ w.heap.size := by have := HSZW.out; omega
  have HB5 := Lib.hid (th HB4.out (Nat.le_refl _) hb5)
  have HI0 : Hid (LvI w (w5.setCell ⟨w.heap.size, 0, none⟩ (.slice (some ⟨g, 0, none⟩) l.length c)) l g c w4.heap.size W3.heap.size 0) := Lib.hid (by
    refine ⟨?_, ?_, ?_, HB5.out.setCell (Nat.le_refl _) _, HSZW.out, ?_⟩
    · rw [midL_0]
      refine ⟨hno.1, ?_⟩
      rcases hno.2 with h1 | ⟨g', cap, cur, hv, hg, hc, hr⟩
      · exact .inl h1
      · refine .inr ⟨g', cap, cur, hv, hg, ?_, hr⟩
        rw [Below.heap_setCell _ _ _ _ (show g' ≠ w.heap.size by have := HSZW.out; omega)]
        exact hc
    · exact (HR4.out.below hb5).other (by have := HSZ1.out; have := HSZ3.out; simp; omega) _
    · exact (WL5.out.set 0 (.slice (some ⟨g, 0, none⟩) l.length c)).cell rfl
    · have := HSZ4.out; omega)
  clear hno hb5 hblk cl4
  rw [← HN.out] at HI0 ⊢
  go_wp2_with fail
  have hn63 : n ≤ 1024 := by rw [HN.out]; exact HL.out
  clear cl5 fl5 hneg
  go_loopw [17] (fun i wr => ∃ k : Nat, i = .int .i64 k ∧ k ≤ n ∧ Hid (LvI w wr l g c w4.heap.size W3.heap.size k)) (fun i _ => n - (intOf i).toNat)
  case atStart => exact ⟨0, rfl, by omega, HI0⟩
  case round =>
    obtain ⟨k, rfl, hk, HI⟩ := hrel
    by_cases hlt : k < n
    · obtain ⟨x, hx⟩ : ∃ x, l[k]? = some x := ⟨_, List.getElem?_eq_getElem (by rw [← HN.out]; exact hlt)⟩
      have hnode := HI.out.row.node (midL_at hx)
      obtain ⟨y, hy⟩ : ∃ y, y = (livesL l).getD k false := ⟨_, rfl⟩
      have hlv : wr.cell? ⟨W3.heap.size, k, none⟩ = some (.bool y) := HI.out.lives.cell (by
        rw [List.getElem?_map, getD_get (by unfold livesL; rw [downA_len, ← HN.out]; exact hlt), hy]; rfl)
      have HY := Lib.hid hy
      have HX := Lib.hid hx
      have HLT := Lib.hid hlt
      have hi0 : (0 : Int) ≤ k := by omega
      have hi1 : (k : Int) < n := by omega
      have hd1 : decide ((k : Int) < n) = true := by simp; omega
      obtain ⟨W6, hW6⟩ : ∃ W6, W6 = wr.alloc (.cells #[.int .i64 x.op, .string ⟨x.sym.toArray⟩, .int .i64 x.a, .int .i64 x.b] 45) := ⟨_, rfl⟩
      have hb6 : Below wr.heap.size wr W6 := by rw [hW6]; exact (Below.refl _ _).alloc (Nat.le_refl _) _
      have HI6 := Lib.hid (HI.out.below hb6)
      have q0 : W6.cell? ⟨wr.heap.size, 0, none⟩ = some (.int .i64 x.op) := by rw [hW6]; simp
      have hlv6 := up_cell hb6 (Nat.le_refl _) hlv
      obtain ⟨k1, k2, k3, k4⟩ := hnode
      have HW6 := Lib.hid hW6
      clear hx hy hlt hk hb6 hW6 hlv
      go_upto_region 7 with fail
      rw [← HW6.out]
      by_cases h2 : x.op = 2
      · rw [h2] at q0
        have H2 := Lib.hid h2
        clear h2
        cases y with
        | true =>
          have HL7 : Hid (livN (livesL l) k x = x) := Lib.hid (by unfold livN; rw [if_neg (by rw [← HY.out]; simp)])
          go_wp2_with fail
          go_roundw
          case rel => exact ⟨k + 1, by go_num, by have := HLT.out; omega, Lib.hid (HI6.out.step HX.out HL7.out)⟩
          case measure => have := HLT.out; simp [intOf]; omega
        | false =>
          have HL7 : Hid (livN (livesL l) k x = nd0) := Lib.hid (by unfold livN; rw [if_pos ⟨H2.out, HY.out.symm⟩])
          have hvar := HI6.out.var
          rw [← HN.out] at hvar
          obtain ⟨r1, r2, r3, r4⟩ := HI6.out.row.node (midL_at HX.out)
          have f1 := HI6.out.row.froz (k * 4)
          have f2 := HI6.out.row.froz (k * 4 + 1)
          have f3 := HI6.out.row.froz (k * 4 + 2)
          have f4 := HI6.out.row.froz (k * 4 + 3)
          clear k1 k2 k3 k4
          go_wp2_with fail
          go_roundw
          case rel => exact ⟨k + 1, by go_num, by have := HLT.out; omega, Lib.hid (HI6.out.store HX.out HL7.out)⟩
          case measure => have := HLT.out; simp [intOf]; omega
      · have e2 := ieq_f h2
        have HL7 : Hid (livN (livesL l) k x = x) := Lib.hid (by unfold livN; rw [if_neg (fun e => h2 e.1)])
        clear h2
        go_wp2_with fail
        go_roundw
        case rel => exact ⟨k + 1, by go_num, by have := HLT.out; omega, Lib.hid (HI6.out.step HX.out HL7.out)⟩
        case measure => have := HLT.out; simp [intOf]; omega
    · have hd1 : decide ((k : Int) < n) = false := by simp; omega
      have hd2 : decide (k < n) = false := by simp; omega
      have hkn : k = n := by omega
      have HKN := Lib.hid hkn
      have hvar := HI.out.var
      clear hlt hk hkn
      go_wp2_with fail
      go_ret
      refine ⟨_, rfl, ?_, HI.out.kept⟩
      have h9 := HI.out.row
      rw [HKN.out, HN.out, midL_n] at h9
      exact h9.mono (Nat.le_of_lt HI.out.low)
end Go.Proofs.Ytnaimmhdpjggmaa.U
