/-
  DERIVED. GIVEN WITH THE SEED: THE CARDS: each row of YtcfnmhadihhfaaaDoorRows.lean that lists a variable, with what it lists TIED to the program's text (the seventh form; the later family's looks); each row that meets fmt, with fmt's text TOLD by the authors' own Lean function (tested against real Go, not proved from fmt's source: count such statements apart). THE CARD IS WHAT COUNTS. Prove the row's statement (the work); the ties are given (YtcfnmhadihhfaaaDoorTie.lean); close each card by the builder's one call (the guide's Derived/Test/ToyasCard.lean, 'card_holds'). Laid BY PROGRAM, IN A SANDBOX (cutbox-door.mjs). By AI agents, Wed Nov 11 2026. No macro, syntax, notation, axiom, sorry.
-/
import Derived.Test.YtcfnmhadihhfaaaDoorRows
import GoSem.ClaimSeven
namespace Go.Proofs.YtcfnmhadihhfaaaDoor
namespace Rows

/-- THE TIED CARD OF 'spyglasslaw02.NamesAre'. -/
def namesAreCard : Claim7 := { stood := { row := namesAreRow, standIns := [], harness := (true, "2db727c5fbba663ecc4e988aaf1bf79f37e7a31b5dc4871493f2500a04f3b795"), looks := true }, kinds := [], alts := [], laidByText := true, laidKinds := [.data, .data, .data, .sentinel, .sentinel, .data, .data], laidTests := true, laidLooks := .later }
def NamesAreCardSaid : Prop := Claim7.holds Tryd.pinned (.plain (OpenSpec.ofChange namesAreSpec)) namesAreCard

/-- THE TIED CARD OF 'spyglasslaw02.NamesEscape'. -/
def namesEscapeCard : Claim7 := { stood := { row := namesEscapeRow, standIns := [], harness := (true, "2db727c5fbba663ecc4e988aaf1bf79f37e7a31b5dc4871493f2500a04f3b795"), looks := true }, kinds := [], alts := [], laidByText := true, laidKinds := [.data, .data, .data, .sentinel, .sentinel, .data, .data], laidTests := true, laidLooks := .later }
def NamesEscapeCardSaid : Prop := Claim7.holds Tryd.pinned (.plain (OpenSpec.ofChange namesEscapeSpec)) namesEscapeCard

/-- THE TIED CARD OF 'spyglasslaw02.NamesUnescape'. -/
def namesUnescapeCard : Claim7 := { stood := { row := namesUnescapeRow, standIns := [], harness := (true, "2db727c5fbba663ecc4e988aaf1bf79f37e7a31b5dc4871493f2500a04f3b795"), looks := true }, kinds := [], alts := [], laidByText := true, laidKinds := [.data, .data, .data, .sentinel, .sentinel, .data, .data], laidTests := true, laidLooks := .later }
def NamesUnescapeCardSaid : Prop := Claim7.holds Tryd.pinned (.plain (OpenSpec.ofChange namesUnescapeSpec)) namesUnescapeCard

/-- THE TIED CARD OF 'spyglasslaw02.NamesBack'. -/
def namesBackCard : Claim7 := { stood := { row := namesBackRow, standIns := [], harness := (true, "2db727c5fbba663ecc4e988aaf1bf79f37e7a31b5dc4871493f2500a04f3b795"), looks := true }, kinds := [], alts := [], laidByText := true, laidKinds := [.data, .data, .data, .sentinel, .sentinel, .data, .data], laidTests := true, laidLooks := .later }
def NamesBackCardSaid : Prop := Claim7.holds Tryd.pinned (.plain (OpenSpec.ofChange namesBackSpec)) namesBackCard

/-- THE TIED CARD OF 'spyglasslaw02.NamesGrow'. -/
def namesGrowCard : Claim7 := { stood := { row := namesGrowRow, standIns := [], harness := (true, "2db727c5fbba663ecc4e988aaf1bf79f37e7a31b5dc4871493f2500a04f3b795"), looks := true }, kinds := [], alts := [], laidByText := true, laidKinds := [.data, .data, .data, .sentinel, .sentinel, .data, .data], laidTests := true, laidLooks := .later }
def NamesGrowCardSaid : Prop := Claim7.holds Tryd.pinned (.plain (OpenSpec.ofChange namesGrowSpec)) namesGrowCard

/-- THE SECOND FORM's CARD OF 'spyglasslaw02.NamesAre'. -/
def namesAreUptoCard : Claim7 := { stood := { row := namesAreUptoRow, standIns := [], harness := (true, "2db727c5fbba663ecc4e988aaf1bf79f37e7a31b5dc4871493f2500a04f3b795"), looks := true }, kinds := [], alts := [], laidByText := true, laidKinds := [.data, .data, .data, .sentinel, .sentinel, .data, .data], laidTests := true, laidLooks := .later }
def NamesAreUptoCardSaid : Prop := Claim7.holds Tryd.pinned (.plain (OpenSpec.upto namesAreSpec)) namesAreUptoCard

/-- THE SECOND FORM's CARD OF 'spyglasslaw02.NamesEscape'. -/
def namesEscapeUptoCard : Claim7 := { stood := { row := namesEscapeUptoRow, standIns := [], harness := (true, "2db727c5fbba663ecc4e988aaf1bf79f37e7a31b5dc4871493f2500a04f3b795"), looks := true }, kinds := [], alts := [], laidByText := true, laidKinds := [.data, .data, .data, .sentinel, .sentinel, .data, .data], laidTests := true, laidLooks := .later }
def NamesEscapeUptoCardSaid : Prop := Claim7.holds Tryd.pinned (.plain (OpenSpec.upto namesEscapeSpec)) namesEscapeUptoCard

/-- THE SECOND FORM's CARD OF 'spyglasslaw02.NamesUnescape'. -/
def namesUnescapeUptoCard : Claim7 := { stood := { row := namesUnescapeUptoRow, standIns := [], harness := (true, "2db727c5fbba663ecc4e988aaf1bf79f37e7a31b5dc4871493f2500a04f3b795"), looks := true }, kinds := [], alts := [], laidByText := true, laidKinds := [.data, .data, .data, .sentinel, .sentinel, .data, .data], laidTests := true, laidLooks := .later }
def NamesUnescapeUptoCardSaid : Prop := Claim7.holds Tryd.pinned (.plain (OpenSpec.upto namesUnescapeSpec)) namesUnescapeUptoCard

/-- THE SECOND FORM's CARD OF 'spyglasslaw02.NamesBack'. -/
def namesBackUptoCard : Claim7 := { stood := { row := namesBackUptoRow, standIns := [], harness := (true, "2db727c5fbba663ecc4e988aaf1bf79f37e7a31b5dc4871493f2500a04f3b795"), looks := true }, kinds := [], alts := [], laidByText := true, laidKinds := [.data, .data, .data, .sentinel, .sentinel, .data, .data], laidTests := true, laidLooks := .later }
def NamesBackUptoCardSaid : Prop := Claim7.holds Tryd.pinned (.plain (OpenSpec.upto namesBackSpec)) namesBackUptoCard

/-- THE SECOND FORM's CARD OF 'spyglasslaw02.NamesGrow'. -/
def namesGrowUptoCard : Claim7 := { stood := { row := namesGrowUptoRow, standIns := [], harness := (true, "2db727c5fbba663ecc4e988aaf1bf79f37e7a31b5dc4871493f2500a04f3b795"), looks := true }, kinds := [], alts := [], laidByText := true, laidKinds := [.data, .data, .data, .sentinel, .sentinel, .data, .data], laidTests := true, laidLooks := .later }
def NamesGrowUptoCardSaid : Prop := Claim7.holds Tryd.pinned (.plain (OpenSpec.upto namesGrowSpec)) namesGrowUptoCard
end Rows
end Go.Proofs.YtcfnmhadihhfaaaDoor
