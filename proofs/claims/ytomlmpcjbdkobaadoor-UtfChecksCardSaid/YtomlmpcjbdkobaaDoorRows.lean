/-
  NARROWER THAN 'FOR EVERY INPUT', by the rows' own cells (each row's printed sentence says how): UtfEncodes: laid · UtfChecks: laid · UtfBack: laid · UtfJoins: laid.
  DERIVED. THE GIVEN ROWS OF THIS SEAT. 4 by the template 'for every input the law returns true; each argument reads behind the call as it read before'; 0 by the template 'total and deterministic' (their statements: YtomlmpcjbdkobaaDoorTotals.lean).
  GIVEN WITH THE SEED: the statements are not yours to turn. If you find one false, say at which input.
  Laid BY PROGRAM, IN A SANDBOX (cutbox-rows.mjs): the forced cells as the released guide's own fill.sh prints them over the translation bbf35d4574ca43d2… (all of the seat's roots in one cut). By AI agents, Wed Nov 11 2026. No macro, syntax, notation, axiom, sorry.
-/
import Derived.Test.YtomlmpcjbdkobaaDoorChecked
import GoSem.Claim
import GoSem.ClaimJoined
import GoSem.ClaimMapViews
import Derived.JoinedTies
import Derived.KernelRfl
namespace Go.Proofs.YtomlmpcjbdkobaaDoor
/- THE CELL 'sum', in the pinned program and in every row, IS THE sha256 OF THE DUMP (.gsa) THAT YtomlmpcjbdkobaaDoorProg.lean LOADS. Nothing in Lean hashes anything: it is a label: what it is worth is what the hold of that sum in a sandbox is worth. -/
noncomputable def Tryd.pinned : Pinned := { name := "ytomlmpcjbdkobaadoor", sum := "bbf35d4574ca43d2f3077955b35fba05552f90844727696f5e464b5e7bf7fb20", checked := Tryd.checked }
namespace Rows
def none {H : Type} : Left H := { results := [], args := [] }

/- WHAT THE LISTED PACKAGE-LEVEL VARIABLES READ AS WHEN THE CALL BEGINS. Each datum BY PROGRAM (the guide's laid-datum.mjs) off the statement by which the dump's own 'gosem.cut.vars' lays the variable. In a bare row this is a premise. The card (YtomlmpcjbdkobaaDoorCards.lean) ties it to the program's text. -/
def laid_spyglass_utf_spans {H : Type} : DataW H := .agg [.agg [.lit (.int .i32 9), .lit (.int .i32 10)], .agg [.lit (.int .i32 13), .lit (.int .i32 13)], .agg [.lit (.int .i32 32), .lit (.int .i32 55295)], .agg [.lit (.int .i32 57344), .lit (.int .i32 65533)], .agg [.lit (.int .i32 65536), .lit (.int .i32 1114111)]]
def laid_spyglass_utf_rows {H : Type} : DataW H := .agg [.agg [.lit (.int .i32 128), .lit (.int .u8 0), .lit (.int .u8 127)], .agg [.lit (.int .i32 2048), .lit (.int .u8 192), .lit (.int .u8 223)], .agg [.lit (.int .i32 65536), .lit (.int .u8 224), .lit (.int .u8 239)], .agg [.lit (.int .i32 2097152), .lit (.int .u8 240), .lit (.int .u8 247)]]

/-- 'spyglasslaw01.UtfEncodes': WHATEVER THE INPUT: true; the input reads as it did. -/
def utfEncodesSpec : ChangeSpec := { name := "utfEncodes", fn := fun _ => fun
  | [d] => { results := [.lit (.bool true)], args := [d] }
  | _ => none }
def utfEncodesRow : OpenClaim := { program := "ytomlmpcjbdkobaadoor", sum := "bbf35d4574ca43d2f3077955b35fba05552f90844727696f5e464b5e7bf7fb20", func := "spyglass/spyglasslaw01.UtfEncodes", spec := "utfEncodes", unfollowed := true, recurses := true, named := ["spyglass/utf.spans", "spyglass/utf.rows"], apart := false, laid := [("spyglass/utf.spans", laid_spyglass_utf_spans), ("spyglass/utf.rows", laid_spyglass_utf_rows)] }
def UtfEncodesSaid : Prop := utfEncodesRow.holds Tryd.pinned (OpenSpec.ofChange utfEncodesSpec)

/-- ITS FALSE NEIGHBOUR: 'it returns false'. Refute it at one input. -/
def utfEncodesWrong : ChangeSpec := { name := "utfEncodes", fn := fun _ => fun
  | [d] => { results := [.lit (.bool false)], args := [d] }
  | _ => none }
def UtfEncodesWrongFalsely : Prop := utfEncodesRow.holds Tryd.pinned (OpenSpec.ofChange utfEncodesWrong)

/-- 'spyglasslaw01.UtfChecks': WHATEVER THE INPUT: true; the input reads as it did. -/
def utfChecksSpec : ChangeSpec := { name := "utfChecks", fn := fun _ => fun
  | [d] => { results := [.lit (.bool true)], args := [d] }
  | _ => none }
def utfChecksRow : OpenClaim := { program := "ytomlmpcjbdkobaadoor", sum := "bbf35d4574ca43d2f3077955b35fba05552f90844727696f5e464b5e7bf7fb20", func := "spyglass/spyglasslaw01.UtfChecks", spec := "utfChecks", unfollowed := true, recurses := true, named := ["spyglass/utf.spans", "spyglass/utf.rows"], apart := false, laid := [("spyglass/utf.spans", laid_spyglass_utf_spans), ("spyglass/utf.rows", laid_spyglass_utf_rows)] }
def UtfChecksSaid : Prop := utfChecksRow.holds Tryd.pinned (OpenSpec.ofChange utfChecksSpec)

/-- ITS FALSE NEIGHBOUR: 'it returns false'. Refute it at one input. -/
def utfChecksWrong : ChangeSpec := { name := "utfChecks", fn := fun _ => fun
  | [d] => { results := [.lit (.bool false)], args := [d] }
  | _ => none }
def UtfChecksWrongFalsely : Prop := utfChecksRow.holds Tryd.pinned (OpenSpec.ofChange utfChecksWrong)

/-- 'spyglasslaw01.UtfBack': WHATEVER THE INPUT: true; the input reads as it did. -/
def utfBackSpec : ChangeSpec := { name := "utfBack", fn := fun _ => fun
  | [d1, d2] => { results := [.lit (.bool true)], args := [d1, d2] }
  | _ => none }
def utfBackRow : OpenClaim := { program := "ytomlmpcjbdkobaadoor", sum := "bbf35d4574ca43d2f3077955b35fba05552f90844727696f5e464b5e7bf7fb20", func := "spyglass/spyglasslaw01.UtfBack", spec := "utfBack", unfollowed := true, recurses := true, named := ["spyglass/utf.spans", "spyglass/utf.rows"], apart := false, laid := [("spyglass/utf.spans", laid_spyglass_utf_spans), ("spyglass/utf.rows", laid_spyglass_utf_rows)] }
def UtfBackSaid : Prop := utfBackRow.holds Tryd.pinned (OpenSpec.ofChange utfBackSpec)

/-- ITS FALSE NEIGHBOUR: 'it returns false'. Refute it at one input. -/
def utfBackWrong : ChangeSpec := { name := "utfBack", fn := fun _ => fun
  | [d1, d2] => { results := [.lit (.bool false)], args := [d1, d2] }
  | _ => none }
def UtfBackWrongFalsely : Prop := utfBackRow.holds Tryd.pinned (OpenSpec.ofChange utfBackWrong)

/-- 'spyglasslaw01.UtfJoins': WHATEVER THE INPUT: true; the input reads as it did. -/
def utfJoinsSpec : ChangeSpec := { name := "utfJoins", fn := fun _ => fun
  | [d1, d2] => { results := [.lit (.bool true)], args := [d1, d2] }
  | _ => none }
def utfJoinsRow : OpenClaim := { program := "ytomlmpcjbdkobaadoor", sum := "bbf35d4574ca43d2f3077955b35fba05552f90844727696f5e464b5e7bf7fb20", func := "spyglass/spyglasslaw01.UtfJoins", spec := "utfJoins", unfollowed := true, recurses := true, named := ["spyglass/utf.spans", "spyglass/utf.rows"], apart := false, laid := [("spyglass/utf.spans", laid_spyglass_utf_spans), ("spyglass/utf.rows", laid_spyglass_utf_rows)] }
def UtfJoinsSaid : Prop := utfJoinsRow.holds Tryd.pinned (OpenSpec.ofChange utfJoinsSpec)

/-- ITS FALSE NEIGHBOUR: 'it returns false'. Refute it at one input. -/
def utfJoinsWrong : ChangeSpec := { name := "utfJoins", fn := fun _ => fun
  | [d1, d2] => { results := [.lit (.bool false)], args := [d1, d2] }
  | _ => none }
def UtfJoinsWrongFalsely : Prop := utfJoinsRow.holds Tryd.pinned (OpenSpec.ofChange utfJoinsWrong)

/- THE SECOND FORM. 'bulk': how many values and letters a reading holds, each counted each time it is reached (what is shared counts as often as it is met; a slice's spare places count too). A statement '..UptoSaid' is the law's where the arguments, and the package variables that the reading takes, are together of bulk at most 1048576: NARROWER than '..Said'. Prove '..Said' where nothing that the law and all that it calls make is longer than what came in: it says more and counts as full. Else prove '..UptoSaid'. A law counts once. -/
mutual
def uptoBulk {H : Type} : DataW H → Nat
  | .lit (.string bytes) => bytes.length + 1
  | .lit _ => 1
  | .nil => 1
  | .ptr d => uptoBulk d + 1
  | .slice elems spare => uptoBulkAll elems + uptoBulkAll spare + 1
  | .agg parts => uptoBulkAll parts + 1
  | .iface _ d => uptoBulk d + 1
  | .map entries => uptoBulkEntries entries + 1
  | .held _ => 1
def uptoBulkAll {H : Type} : List (DataW H) → Nat
  | [] => 0
  | d :: r => uptoBulk d + uptoBulkAll r
def uptoBulkEntries {H : Type} : List (Lit × DataW H) → Nat
  | [] => 0
  | x :: r => uptoBulkEntry x + uptoBulkEntries r
def uptoBulkEntry {H : Type} : Lit × DataW H → Nat
  | (.string bytes, d) => bytes.length + uptoBulk d + 1
  | (_, d) => uptoBulk d + 1
 end
def uptoSmall : (H : Type) → List (DataW H) → Bool := fun _ ds => decide (uptoBulkAll ds ≤ 1048576)
def OpenSpec.upto (s : _root_.Go.ChangeSpec) : _root_.Go.OpenSpec := { _root_.Go.OpenSpec.ofChange s with cond := some uptoSmall }

/-- 'spyglasslaw01.UtfEncodes', WHERE WHAT IT READS IS OF BULK AT MOST 1048576: true; the input reads as it did. -/
def utfEncodesUptoRow : OpenClaim := { program := "ytomlmpcjbdkobaadoor", sum := "bbf35d4574ca43d2f3077955b35fba05552f90844727696f5e464b5e7bf7fb20", func := "spyglass/spyglasslaw01.UtfEncodes", spec := "utfEncodes", unfollowed := true, recurses := true, named := ["spyglass/utf.spans", "spyglass/utf.rows"], apart := false, laid := [("spyglass/utf.spans", laid_spyglass_utf_spans), ("spyglass/utf.rows", laid_spyglass_utf_rows)], narrowed := true }
def UtfEncodesUptoSaid : Prop := utfEncodesUptoRow.holds Tryd.pinned (OpenSpec.upto utfEncodesSpec)

/-- 'spyglasslaw01.UtfChecks', WHERE WHAT IT READS IS OF BULK AT MOST 1048576: true; the input reads as it did. -/
def utfChecksUptoRow : OpenClaim := { program := "ytomlmpcjbdkobaadoor", sum := "bbf35d4574ca43d2f3077955b35fba05552f90844727696f5e464b5e7bf7fb20", func := "spyglass/spyglasslaw01.UtfChecks", spec := "utfChecks", unfollowed := true, recurses := true, named := ["spyglass/utf.spans", "spyglass/utf.rows"], apart := false, laid := [("spyglass/utf.spans", laid_spyglass_utf_spans), ("spyglass/utf.rows", laid_spyglass_utf_rows)], narrowed := true }
def UtfChecksUptoSaid : Prop := utfChecksUptoRow.holds Tryd.pinned (OpenSpec.upto utfChecksSpec)

/-- 'spyglasslaw01.UtfBack', WHERE WHAT IT READS IS OF BULK AT MOST 1048576: true; the input reads as it did. -/
def utfBackUptoRow : OpenClaim := { program := "ytomlmpcjbdkobaadoor", sum := "bbf35d4574ca43d2f3077955b35fba05552f90844727696f5e464b5e7bf7fb20", func := "spyglass/spyglasslaw01.UtfBack", spec := "utfBack", unfollowed := true, recurses := true, named := ["spyglass/utf.spans", "spyglass/utf.rows"], apart := false, laid := [("spyglass/utf.spans", laid_spyglass_utf_spans), ("spyglass/utf.rows", laid_spyglass_utf_rows)], narrowed := true }
def UtfBackUptoSaid : Prop := utfBackUptoRow.holds Tryd.pinned (OpenSpec.upto utfBackSpec)

/-- 'spyglasslaw01.UtfJoins', WHERE WHAT IT READS IS OF BULK AT MOST 1048576: true; the input reads as it did. -/
def utfJoinsUptoRow : OpenClaim := { program := "ytomlmpcjbdkobaadoor", sum := "bbf35d4574ca43d2f3077955b35fba05552f90844727696f5e464b5e7bf7fb20", func := "spyglass/spyglasslaw01.UtfJoins", spec := "utfJoins", unfollowed := true, recurses := true, named := ["spyglass/utf.spans", "spyglass/utf.rows"], apart := false, laid := [("spyglass/utf.spans", laid_spyglass_utf_spans), ("spyglass/utf.rows", laid_spyglass_utf_rows)], narrowed := true }
def UtfJoinsUptoSaid : Prop := utfJoinsUptoRow.holds Tryd.pinned (OpenSpec.upto utfJoinsSpec)

end Rows
end Go.Proofs.YtomlmpcjbdkobaaDoor
