/- What the rows' condition on the two tables of package utf gives the walks: Lay; and a start that meets it. -/
import Derived.Test.YtihijgghcecpmaaGreatDoorSc
import Derived.Shelf.Vars
import Derived.HandedShaped
import Derived.Lay
import Derived.Stop.LaidErr
import Derived.ProofKit
import Derived.LaidMore
import Derived.OpenShut
import Derived.Stop.Joined
import Derived.Deep.Strs
namespace Go.Proofs.YtihijgghcecpmaaGreatDoor.U
open Go.ChangeShapes Go.WideShapes Go.ChangeAt Go.WideMaps Go.WideElems Go.RowKit

def laid3 : List (String × DataW Unit) := [("math/bits.deBruijn32tab", Rows.laid_math_bits_deBruijn32tab), ("math/bits.deBruijn64tab", Rows.laid_math_bits_deBruijn64tab), ("internal/strconv.uint64pow10", Rows.laid_internal_strconv_uint64pow10), ("unicode/utf8.acceptRanges", Rows.laid_unicode_utf8_acceptRanges), ("strconv.ErrRange", Rows.laid_strconv_ErrRange), ("strconv.ErrSyntax", Rows.laid_strconv_ErrSyntax), ("spyglass/utf.spans", Rows.laid_spyglass_utf_spans), ("spyglass/utf.rows", Rows.laid_spyglass_utf_rows), ("unicode/utf8.first", Rows.laid_unicode_utf8_first)]

theorem own : ownKnob Tryz.prog.godebug = none := by kernel_rfl
theorem laidOut : laidOutB Tryz.prog = true := by kernel_rfl
theorem gSpans : Tryz.prog.globalNamed "spyglass/utf.spans" = some 1 := by kernel_rfl
theorem gRows : Tryz.prog.globalNamed "spyglass/utf.rows" = some 0 := by kernel_rfl
theorem tSpans : (Tryz.prog.globals[1]?).map (·.type) = some 138 := by kernel_rfl
theorem tRows : (Tryz.prog.globals[0]?).map (·.type) = some 134 := by kernel_rfl
theorem cells54 : Tryz.prog.cellsOf 138 = 10 := by kernel_rfl
theorem cells61 : Tryz.prog.cellsOf 134 = 12 := by kernel_rfl
theorem cells52 : Tryz.prog.cellsOf 136 = 2 := by kernel_rfl
theorem cells60 : Tryz.prog.cellsOf 133 = 3 := by kernel_rfl
theorem cells21 : Tryz.prog.cellsOf 21 = 1 := by kernel_rfl
theorem cells5 : Tryz.prog.cellsOf 5 = 1 := by kernel_rfl

/-- A heap that meets the condition. -/
theorem door_met (os : Os) (args : Array Value) : laidMetH Tryz.prog laid3 ((World.laidAll Tryz.prog os laid3).forCall (fun _ _ => 0) ⟨#[], args, []⟩).memory := by
  rw [MakeChecks.laidMetH_plain _ _ _ (by kernel_rfl)]; exact laidMet_laidAll _ (by kernel_rfl) (by kernel_rfl)

variable {W : World}

/-- A span that reads as two numbers holds these. -/
theorem span_cells {fuel : Nat} {c0 c1 : Value} {a b : Int} {p : List MemPlace} (h : DataW.trod (fun _ => ()) Tryz.prog W 0 (fun _ => true) false fuel 136 [c0, c1] = some (.agg [.lit (.int .i32 a), .lit (.int .i32 b)], p)) : c0 = .int .i32 a ∧ c1 = .int .i32 b := by
  obtain ⟨y0, y1, n, hx, _, h0, h1⟩ := trod_struct2 Tryz.underlying136 h
  simp only [Prod.mk.injEq, DataW.agg.injEq, List.cons.injEq, and_true] at hx
  simp only [cells21, List.drop_zero, List.take_succ_cons, List.take_zero, List.drop_succ_cons] at h0 h1
  obtain ⟨a', e0, rfl, _⟩ := DataW.trod_int Tryz.underlying21 h0
  obtain ⟨b', e1, rfl, _⟩ := DataW.trod_int Tryz.underlying21 h1
  simp only [DataW.lit.injEq, Lit.int.injEq, true_and] at hx
  simp only [List.cons.injEq, and_true] at e0 e1
  rw [e0, e1, hx.1.1, hx.1.2]
  exact ⟨rfl, rfl⟩

/-- A row that reads as three numbers holds these. -/
theorem row_cells {fuel : Nat} {c0 c1 c2 : Value} {a b c : Int} {p : List MemPlace} (h : DataW.trod (fun _ => ()) Tryz.prog W 0 (fun _ => true) false fuel 133 [c0, c1, c2] = some (.agg [.lit (.int .i32 a), .lit (.int .u8 b), .lit (.int .u8 c)], p)) : c0 = .int .i32 a ∧ c1 = .int .u8 b ∧ c2 = .int .u8 c := by
  obtain ⟨y0, y1, y2, n, hx, _, h0, h1, h2⟩ := Deep.trod_struct3 Tryz.underlying133 h
  simp only [Prod.mk.injEq, DataW.agg.injEq, List.cons.injEq, and_true] at hx
  simp only [cells21, cells5, List.drop_zero, List.take_succ_cons, List.take_zero, List.drop_succ_cons] at h0 h1 h2
  obtain ⟨a', e0, rfl, _⟩ := DataW.trod_int Tryz.underlying21 h0
  obtain ⟨b', e1, rfl, _⟩ := DataW.trod_int Tryz.underlying5 h1
  obtain ⟨c', e2, rfl, _⟩ := DataW.trod_int Tryz.underlying5 h2
  simp only [DataW.lit.injEq, Lit.int.injEq, true_and] at hx
  simp only [List.cons.injEq, and_true] at e0 e1 e2
  rw [e0, e1, e2, hx.1.1, hx.1.2.1, hx.1.2.2]
  exact ⟨rfl, rfl, rfl⟩

theorem block_of_var {P : Program} {n : String} {g : Nat} {cs : Array Value} (hg : P.globalNamed n = some g) (h : W.var? P n = some cs) : ∃ t fr, W.heap[g]? = some (.cells cs t fr) := by
  simp only [World.var?, hg, Option.bind_some] at h
  split at h
  · rename_i c t fr he
    cases h
    exact ⟨t, fr, he⟩
  · cases h

theorem gSyn : Tryz.prog.globalNamed "strconv.ErrSyntax" = some 5 := by kernel_rfl
theorem tSyn : (Tryz.prog.globals[5]?).map (·.type) = some 106 := by kernel_rfl
theorem star : "*" ++ "errors.errorString" = "*errors.errorString" := by decide
theorem ptrSyn (u : TypeId) (h : Tryz.prog.typeName? 3 u = some "*errors.errorString") : u = 226 :=
  typeName_ptr_named (nm := "errors.errorString") (by rw [star]; kernel_rfl) (by kernel_rfl) (by decide) u (by rw [star]; exact h)

set_option maxRecDepth 20000 in
theorem of_laid (h : laidMetH Tryz.prog laid3 W) : LayS W := by
  rw [MakeChecks.laidMetH_plain _ _ _ (by kernel_rfl)] at h
  have h4 := h.tail.tail.tail.tail.tail
  refine ⟨?_, ?_⟩
  rotate_left
  · obtain ⟨a, s, hv, _⟩ := laid_sentinel h4 gSyn tSyn Tryz.underlying106 ptrSyn Tryz.underlying226 Tryz.underlying228 rfl rfl Tryz.underlying9 (by kernel_rfl) (by kernel_rfl)
    exact ⟨_, _, by simpa using World.var?_cell gSyn hv 0⟩
  replace h := h4.tail
  obtain ⟨ps, ⟨g0, t0, cs0, f0, p0, q0, hg0, ht0, hv0, hd0, ⟨g1, t1, cs1, f1, p1, q1, hg1, ht1, hv1, hd1, _, _⟩, _⟩, _, _⟩ := h
  obtain rfl := Option.some.inj (gSpans.symm.trans hg0)
  obtain rfl := Option.some.inj (gRows.symm.trans hg1)
  obtain rfl := Option.some.inj (tSpans.symm.trans ht0)
  obtain rfl := Option.some.inj (tRows.symm.trans ht1)
  obtain ⟨ta, fa, ha⟩ := block_of_var gSpans hv0
  obtain ⟨tb, fb, hb⟩ := block_of_var gRows hv1
  refine ⟨⟨ta, fa, ?_⟩, ⟨tb, fb, ?_⟩⟩
  · rw [ha]
    obtain ⟨xs, m1, rfl, hx, hlen, hn, hel⟩ := DataW.trod_array Tryz.underlying138 hd0
    rw [cells54] at hlen
    simp only [cells52] at hel
    obtain ⟨l⟩ := cs0
    simp only [Rows.laid_spyglass_utf_spans, Prod.mk.injEq, DataW.agg.injEq] at hx
    match l, hlen, xs, hn, hx, hel with
    | [c0, c1, c2, c3, c4, c5, c6, c7, c8, c9], _, [x0, x1, x2, x3, x4], _, hx, hel =>
      simp only [List.map_cons, List.map_nil, List.cons.injEq, and_true] at hx
      obtain ⟨d0, u0⟩ := x0
      obtain ⟨d1, u1⟩ := x1
      obtain ⟨d2, u2⟩ := x2
      obtain ⟨d3, u3⟩ := x3
      obtain ⟨d4, u4⟩ := x4
      obtain ⟨⟨rfl, rfl, rfl, rfl, rfl⟩, _⟩ := hx
      obtain ⟨rfl, rfl⟩ := span_cells (c0 := c0) (c1 := c1) (hel 0 (by decide))
      obtain ⟨rfl, rfl⟩ := span_cells (c0 := c2) (c1 := c3) (hel 1 (by decide))
      obtain ⟨rfl, rfl⟩ := span_cells (c0 := c4) (c1 := c5) (hel 2 (by decide))
      obtain ⟨rfl, rfl⟩ := span_cells (c0 := c6) (c1 := c7) (hel 3 (by decide))
      obtain ⟨rfl, rfl⟩ := span_cells (c0 := c8) (c1 := c9) (hel 4 (by decide))
      rfl
  · rw [hb]
    obtain ⟨xs, m1, rfl, hx, hlen, hn, hel⟩ := DataW.trod_array Tryz.underlying134 hd1
    rw [cells61] at hlen
    simp only [cells60] at hel
    obtain ⟨l⟩ := cs1
    simp only [Rows.laid_spyglass_utf_rows, Prod.mk.injEq, DataW.agg.injEq] at hx
    match l, hlen, xs, hn, hx, hel with
    | [c0, c1, c2, c3, c4, c5, c6, c7, c8, c9, c10, c11], _, [x0, x1, x2, x3], _, hx, hel =>
      simp only [List.map_cons, List.map_nil, List.cons.injEq, and_true] at hx
      obtain ⟨d0, u0⟩ := x0
      obtain ⟨d1, u1⟩ := x1
      obtain ⟨d2, u2⟩ := x2
      obtain ⟨d3, u3⟩ := x3
      obtain ⟨⟨rfl, rfl, rfl, rfl⟩, _⟩ := hx
      obtain ⟨rfl, rfl, rfl⟩ := row_cells (c0 := c0) (c1 := c1) (c2 := c2) (hel 0 (by decide))
      obtain ⟨rfl, rfl, rfl⟩ := row_cells (c0 := c3) (c1 := c4) (c2 := c5) (hel 1 (by decide))
      obtain ⟨rfl, rfl, rfl⟩ := row_cells (c0 := c6) (c1 := c7) (c2 := c8) (hel 2 (by decide))
      obtain ⟨rfl, rfl, rfl⟩ := row_cells (c0 := c9) (c1 := c10) (c2 := c11) (hel 3 (by decide))
      rfl

theorem mx_open (h : W.ShapedOpen Tryz.prog) : Mx W :=
  cell_of_shapedOpen_int (t := 3) (zero := #[.int .i64 0]) h (of_decide_eq_true (by kernel_rfl)) (by kernel_rfl) rfl (by kernel_rfl) (by kernel_rfl) Tryz.underlying3
theorem t_of_laid (h : laidMetH Tryz.prog laid3 W) (ho : W.ShapedOpen Tryz.prog) : LayT W := ⟨of_laid h, mx_open ho⟩

theorem exists_ints : ∀ zs : List Int, (∀ z ∈ zs, 0 ≤ z ∧ z ≤ 255) → ∃ l : List UInt8, ints l = zs := by
  intro zs
  induction zs with
  | nil => intro _; exact ⟨[], rfl⟩
  | cons z r ih =>
    intro h
    obtain ⟨l, rfl⟩ := ih (fun y hy => h y (List.mem_cons_of_mem _ hy))
    obtain ⟨h0, h1⟩ := h z (List.mem_cons_self ..)
    refine ⟨UInt8.ofNat z.toNat :: l, ?_⟩
    unfold ints
    rw [List.map_cons]
    congr 1
    show ((UInt8.ofNat z.toNat).toNat : Int) = z
    rw [UInt8.toNat_ofNat']
    omega
/-- What a call returns, where the listed variables read so and the variables have their shape. -/
theorem handed_both {H : Type} {enc : TypeId × Value → H} {a : Assume} {C : Checked} {os : Os} {f : FuncId} {fn : Func} {s : ChangeSpec} {conds : List PathCond} {apart fresh handsOn again : Bool} {X : World → Array Value → Prop}
    (hX : ∀ (w w' : World) (args : Array Value), w.heap = w'.heap → X w args → X w' args)
    (own : ownKnob C.prog.godebug = none) (started : os.Started) (noInit : C.prog.inits.idxOf? f = none) (hfn : C.prog.funcs[f]? = some fn)
    (witness : ∃ (w : World) (tape : Tape) (i : Input), w.os = os ∧ (w.forCall tape i).Shaped C.prog ∧ i.vars = [] ∧ Input.okWide C.prog (w.forCall tape i) .any w.heap.size f i ∧
      ((s.pre enc C.prog fn conds apart (w.forCall tape i).memory i.args ∧ X (w.forCall tape i).memory i.args) ∧ sizedMet enc C.prog fn (OpenSpec.ofChange s) apart (w.forCall tape i).memory i.args) ∧ a.holds C.prog (lone (Frame.enter C.prog f i.args .normal) [] (w.forCall tape i)))
    (contract : ∀ (W : World) (base : Nat) (args : Array Value) (ds gs : List (DataW H)) (before : List MemPlace),
      (∀ (j : Nat) t v, fn.params[j]? = some t → args[j]? = some v → Value.okWide C.prog W .any base t v) →
      DataW.Whole enc C.prog fn.params.toList s.vars apart W args.toList ds gs before → X W args → W.ShapedOpen C.prog →
      Calls C.prog f args W fun e W' => ∃ v, e = .returned v ∧ s.post enc C.prog fn apart fresh handsOn again W args v W') :
    ReturnsInHanded a C os f .any (fun w args => (s.pre enc C.prog fn conds apart w args ∧ X w args) ∧ sizedMet enc C.prog fn (OpenSpec.ofChange s) apart w args) (s.post enc C.prog fn apart fresh handsOn again) := by
  refine returnsInHanded_of_calls own started noInit witness ?_
  intro w tape i _ hsh _ hok hpre hholds
  obtain ⟨_, _, _, fn', hfn', _, _, _, _, hval⟩ := hok
  have e : fn' = fn := Option.some.inj (hfn'.symm.trans hfn)
  subst e
  obtain ⟨⟨⟨ds, gs, before, hw, hc⟩, hx⟩, hz⟩ := hpre
  have hw' := DataW.Whole.of_heap (w' := w.forCall tape i) (by rfl) hw
  refine (contract (w.forCall tape i) w.heap.size i.args ds gs before hval hw' (hX _ _ _ (by rfl) hx) hsh).mono fun e W' ⟨v, he, hp⟩ => ?_
  subst he
  exact ChangeSpec.post_blind hp
end Go.Proofs.YtihijgghcecpmaaGreatDoor.U
