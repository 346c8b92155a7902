/- What the rows' condition on the two tables of package utf gives the walks: Lay; and a start that meets it. -/
import Derived.Test.YtcfnmhadihhfaaaDoorBase
import Derived.Test.YtcfnmhadihhfaaaDoorConv
import Derived.Stop.LaidErr
import Derived.ProofKit
import Derived.LaidMore
import Derived.OpenShut
import Derived.Stop.Joined
import Derived.Deep.Strs
namespace Go.Proofs.YtcfnmhadihhfaaaDoor.U
open Go.ChangeShapes Go.WideShapes Go.ChangeAt Go.WideMaps Go.WideElems Go.RowKit

def laid2 : List (String × DataW Unit) := [("math/bits.deBruijn32tab", Rows.laid_math_bits_deBruijn32tab), ("math/bits.deBruijn64tab", Rows.laid_math_bits_deBruijn64tab), ("internal/strconv.uint64pow10", Rows.laid_internal_strconv_uint64pow10), ("strconv.ErrRange", Rows.laid_strconv_ErrRange), ("strconv.ErrSyntax", Rows.laid_strconv_ErrSyntax), ("spyglass/utf.spans", Rows.laid_spyglass_utf_spans), ("spyglass/utf.rows", Rows.laid_spyglass_utf_rows)]

theorem own : ownKnob Tryd.prog.godebug = none := by kernel_rfl
theorem laidOut : laidOutB Tryd.prog = true := by kernel_rfl
theorem gSpans : Tryd.prog.globalNamed "spyglass/utf.spans" = some 0 := by kernel_rfl
theorem gRows : Tryd.prog.globalNamed "spyglass/utf.rows" = some 2 := by kernel_rfl
theorem tSpans : (Tryd.prog.globals[0]?).map (·.type) = some 76 := by kernel_rfl
theorem tRows : (Tryd.prog.globals[2]?).map (·.type) = some 90 := by kernel_rfl
theorem cells54 : Tryd.prog.cellsOf 76 = 10 := by kernel_rfl
theorem cells61 : Tryd.prog.cellsOf 90 = 12 := by kernel_rfl
theorem cells52 : Tryd.prog.cellsOf 74 = 2 := by kernel_rfl
theorem cells60 : Tryd.prog.cellsOf 89 = 3 := by kernel_rfl
theorem cells21 : Tryd.prog.cellsOf 21 = 1 := by kernel_rfl
theorem cells5 : Tryd.prog.cellsOf 5 = 1 := by kernel_rfl

/-- The door's own heap meets the condition. -/
theorem door_met (os : Os) (args : Array Value) : laidMetH Tryd.prog laid2 ((World.doorLaid Tryd.prog 81 os).forCall (fun _ _ => 0) ⟨#[], args, []⟩).memory :=
  laidMetH_of_parts3 (fuel := 8) (laidMet_of_run' 8 (by kernel_rfl) (by kernel_rfl)) (by kernel_rfl) (by kernel_rfl)

variable {W : World}

/-- A span that reads as two numbers holds these. -/
theorem span_cells {fuel : Nat} {c0 c1 : Value} {a b : Int} {p : List MemPlace} (h : DataW.trod (fun _ => ()) Tryd.prog W 0 (fun _ => true) false fuel 74 [c0, c1] = some (.agg [.lit (.int .i32 a), .lit (.int .i32 b)], p)) : c0 = .int .i32 a ∧ c1 = .int .i32 b := by
  obtain ⟨y0, y1, n, hx, _, h0, h1⟩ := trod_struct2 Tryd.underlying74 h
  simp only [Prod.mk.injEq, DataW.agg.injEq, List.cons.injEq, and_true] at hx
  simp only [cells21, List.drop_zero, List.take_succ_cons, List.take_zero, List.drop_succ_cons] at h0 h1
  obtain ⟨a', e0, rfl, _⟩ := DataW.trod_int Tryd.underlying21 h0
  obtain ⟨b', e1, rfl, _⟩ := DataW.trod_int Tryd.underlying21 h1
  simp only [DataW.lit.injEq, Lit.int.injEq, true_and] at hx
  simp only [List.cons.injEq, and_true] at e0 e1
  rw [e0, e1, hx.1.1, hx.1.2]
  exact ⟨rfl, rfl⟩

/-- A row that reads as three numbers holds these. -/
theorem row_cells {fuel : Nat} {c0 c1 c2 : Value} {a b c : Int} {p : List MemPlace} (h : DataW.trod (fun _ => ()) Tryd.prog W 0 (fun _ => true) false fuel 89 [c0, c1, c2] = some (.agg [.lit (.int .i32 a), .lit (.int .u8 b), .lit (.int .u8 c)], p)) : c0 = .int .i32 a ∧ c1 = .int .u8 b ∧ c2 = .int .u8 c := by
  obtain ⟨y0, y1, y2, n, hx, _, h0, h1, h2⟩ := Deep.trod_struct3 Tryd.underlying89 h
  simp only [Prod.mk.injEq, DataW.agg.injEq, List.cons.injEq, and_true] at hx
  simp only [cells21, cells5, List.drop_zero, List.take_succ_cons, List.take_zero, List.drop_succ_cons] at h0 h1 h2
  obtain ⟨a', e0, rfl, _⟩ := DataW.trod_int Tryd.underlying21 h0
  obtain ⟨b', e1, rfl, _⟩ := DataW.trod_int Tryd.underlying5 h1
  obtain ⟨c', e2, rfl, _⟩ := DataW.trod_int Tryd.underlying5 h2
  simp only [DataW.lit.injEq, Lit.int.injEq, true_and] at hx
  simp only [List.cons.injEq, and_true] at e0 e1 e2
  rw [e0, e1, e2, hx.1.1, hx.1.2.1, hx.1.2.2]
  exact ⟨rfl, rfl, rfl⟩

theorem block_of_var {P : Program} {n : String} {g : Nat} {cs : Array Value} (hg : P.globalNamed n = some g) (h : W.var? P n = some cs) : ∃ t fr, W.heap[g]? = some (.cells cs t fr) := by
  simp only [World.var?, hg, Option.bind_some] at h
  split at h
  · rename_i c t fr he
    cases h
    exact ⟨t, fr, he⟩
  · cases h

theorem gSyn : Tryd.prog.globalNamed "strconv.ErrSyntax" = some 3 := by kernel_rfl
theorem tSyn : (Tryd.prog.globals[3]?).map (·.type) = some 41 := by kernel_rfl
theorem star : "*" ++ "errors.errorString" = "*errors.errorString" := by decide
theorem ptrSyn (u : TypeId) (h : Tryd.prog.typeName? 3 u = some "*errors.errorString") : u = 101 :=
  typeName_ptr_named (nm := "errors.errorString") (by rw [star]; kernel_rfl) (by kernel_rfl) (by decide) u (by rw [star]; exact h)

set_option maxRecDepth 20000 in
theorem of_laid (h : laidMetH Tryd.prog laid2 W) : LayS W := by
  rw [MakeChecks.laidMetH_plain _ _ _ (by kernel_rfl)] at h
  have h4 := h.tail.tail.tail.tail
  refine ⟨?_, ?_⟩
  rotate_left
  · obtain ⟨a, s, hv, _⟩ := laid_sentinel h4 gSyn tSyn Tryd.underlying41 ptrSyn Tryd.underlying101 Tryd.underlying103 rfl rfl Tryd.underlying9 (by kernel_rfl) (by kernel_rfl)
    exact ⟨_, _, by simpa using World.var?_cell gSyn hv 0⟩
  replace h := h4.tail
  obtain ⟨ps, ⟨g0, t0, cs0, f0, p0, q0, hg0, ht0, hv0, hd0, ⟨g1, t1, cs1, f1, p1, q1, hg1, ht1, hv1, hd1, _, _⟩, _⟩, _, _⟩ := h
  obtain rfl := Option.some.inj (gSpans.symm.trans hg0)
  obtain rfl := Option.some.inj (gRows.symm.trans hg1)
  obtain rfl := Option.some.inj (tSpans.symm.trans ht0)
  obtain rfl := Option.some.inj (tRows.symm.trans ht1)
  obtain ⟨ta, fa, ha⟩ := block_of_var gSpans hv0
  obtain ⟨tb, fb, hb⟩ := block_of_var gRows hv1
  refine ⟨⟨ta, fa, ?_⟩, ⟨tb, fb, ?_⟩⟩
  · rw [ha]
    obtain ⟨xs, m1, rfl, hx, hlen, hn, hel⟩ := DataW.trod_array Tryd.underlying76 hd0
    rw [cells54] at hlen
    simp only [cells52] at hel
    obtain ⟨l⟩ := cs0
    simp only [Rows.laid_spyglass_utf_spans, Prod.mk.injEq, DataW.agg.injEq] at hx
    match l, hlen, xs, hn, hx, hel with
    | [c0, c1, c2, c3, c4, c5, c6, c7, c8, c9], _, [x0, x1, x2, x3, x4], _, hx, hel =>
      simp only [List.map_cons, List.map_nil, List.cons.injEq, and_true] at hx
      obtain ⟨d0, u0⟩ := x0
      obtain ⟨d1, u1⟩ := x1
      obtain ⟨d2, u2⟩ := x2
      obtain ⟨d3, u3⟩ := x3
      obtain ⟨d4, u4⟩ := x4
      obtain ⟨⟨rfl, rfl, rfl, rfl, rfl⟩, _⟩ := hx
      obtain ⟨rfl, rfl⟩ := span_cells (c0 := c0) (c1 := c1) (hel 0 (by decide))
      obtain ⟨rfl, rfl⟩ := span_cells (c0 := c2) (c1 := c3) (hel 1 (by decide))
      obtain ⟨rfl, rfl⟩ := span_cells (c0 := c4) (c1 := c5) (hel 2 (by decide))
      obtain ⟨rfl, rfl⟩ := span_cells (c0 := c6) (c1 := c7) (hel 3 (by decide))
      obtain ⟨rfl, rfl⟩ := span_cells (c0 := c8) (c1 := c9) (hel 4 (by decide))
      rfl
  · rw [hb]
    obtain ⟨xs, m1, rfl, hx, hlen, hn, hel⟩ := DataW.trod_array Tryd.underlying90 hd1
    rw [cells61] at hlen
    simp only [cells60] at hel
    obtain ⟨l⟩ := cs1
    simp only [Rows.laid_spyglass_utf_rows, Prod.mk.injEq, DataW.agg.injEq] at hx
    match l, hlen, xs, hn, hx, hel with
    | [c0, c1, c2, c3, c4, c5, c6, c7, c8, c9, c10, c11], _, [x0, x1, x2, x3], _, hx, hel =>
      simp only [List.map_cons, List.map_nil, List.cons.injEq, and_true] at hx
      obtain ⟨d0, u0⟩ := x0
      obtain ⟨d1, u1⟩ := x1
      obtain ⟨d2, u2⟩ := x2
      obtain ⟨d3, u3⟩ := x3
      obtain ⟨⟨rfl, rfl, rfl, rfl⟩, _⟩ := hx
      obtain ⟨rfl, rfl, rfl⟩ := row_cells (c0 := c0) (c1 := c1) (c2 := c2) (hel 0 (by decide))
      obtain ⟨rfl, rfl, rfl⟩ := row_cells (c0 := c3) (c1 := c4) (c2 := c5) (hel 1 (by decide))
      obtain ⟨rfl, rfl, rfl⟩ := row_cells (c0 := c6) (c1 := c7) (c2 := c8) (hel 2 (by decide))
      obtain ⟨rfl, rfl, rfl⟩ := row_cells (c0 := c9) (c1 := c10) (c2 := c11) (hel 3 (by decide))
      rfl
end Go.Proofs.YtcfnmhadihhfaaaDoor.U
