/-
  DERIVED. GIVEN WITH THE SEED: THE CARDS: each row of YtjldpkhfiffinaaGreatDoorRows.lean that lists a variable, with what it lists TIED to the program's text (the seventh form; the later family's looks); each row that meets fmt, with fmt's text TOLD by the authors' own Lean function (tested against real Go, not proved from fmt's source: count such statements apart). THE CARD IS WHAT COUNTS. Prove the row's statement (the work); the ties are given (YtjldpkhfiffinaaGreatDoorTie.lean); close each card by the builder's one call (the guide's Derived/Test/ToyasCard.lean, 'card_holds'). Laid BY PROGRAM, IN A SANDBOX (cutbox-door.mjs). By AI agents, Wed Nov 11 2026. No macro, syntax, notation, axiom, sorry.
-/
import Derived.Test.YtjldpkhfiffinaaGreatDoorRows
import GoSem.ClaimSeven
namespace Go.Proofs.YtjldpkhfiffinaaGreatDoor
namespace Rows

/-- THE TIED CARD OF 'spyglasslaw05.XmlParses'. -/
def xmlParsesCard : Claim7 := { stood := { row := xmlParsesRow, standIns := [], harness := (true, "4148650d6e0846488ce487377aadbf32be7dd7120a5a7c6cb84a32f3e199f1d9"), looks := true }, kinds := [], alts := [], laidByText := true, laidKinds := [.data, .data, .data, .data, .sentinel, .sentinel, .data, .data, .pinned], laidTests := true, laidLooks := .later }
def XmlParsesCardSaid : Prop := Claim7.holds Tryz.pinned (.plain (OpenSpec.ofChange xmlParsesSpec)) xmlParsesCard

/-- THE TIED CARD OF 'spyglasslaw05.XmlWrites'. -/
def xmlWritesCard : Claim7 := { stood := { row := xmlWritesRow, standIns := [], harness := (true, "4148650d6e0846488ce487377aadbf32be7dd7120a5a7c6cb84a32f3e199f1d9"), looks := true }, kinds := [], alts := [], laidByText := true, laidKinds := [.data, .data, .data, .data, .sentinel, .sentinel, .data, .data, .pinned], laidTests := true, laidLooks := .later }
def XmlWritesCardSaid : Prop := Claim7.holds Tryz.pinned (.plain (OpenSpec.ofChange xmlWritesSpec)) xmlWritesCard

/-- THE TIED CARD OF 'spyglasslaw05.XmlBack'. -/
def xmlBackCard : Claim7 := { stood := { row := xmlBackRow, standIns := [], harness := (true, "4148650d6e0846488ce487377aadbf32be7dd7120a5a7c6cb84a32f3e199f1d9"), looks := true }, kinds := [], alts := [], laidByText := true, laidKinds := [.data, .data, .data, .data, .sentinel, .sentinel, .data, .data, .pinned], laidTests := true, laidLooks := .later }
def XmlBackCardSaid : Prop := Claim7.holds Tryz.pinned (.plain (OpenSpec.ofChange xmlBackSpec)) xmlBackCard

/-- THE TIED CARD OF 'spyglasslaw05.XmlAgain'. -/
def xmlAgainCard : Claim7 := { stood := { row := xmlAgainRow, standIns := [], harness := (true, "4148650d6e0846488ce487377aadbf32be7dd7120a5a7c6cb84a32f3e199f1d9"), looks := true }, kinds := [], alts := [], laidByText := true, laidKinds := [.data, .data, .data, .data, .sentinel, .sentinel, .data, .data, .pinned], laidTests := true, laidLooks := .later }
def XmlAgainCardSaid : Prop := Claim7.holds Tryz.pinned (.plain (OpenSpec.ofChange xmlAgainSpec)) xmlAgainCard

/-- THE TIED CARD OF 'spyglasslaw05.XmlValues'. -/
def xmlValuesCard : Claim7 := { stood := { row := xmlValuesRow, standIns := [], harness := (true, "4148650d6e0846488ce487377aadbf32be7dd7120a5a7c6cb84a32f3e199f1d9"), looks := true }, kinds := [], alts := [], laidByText := true, laidKinds := [.data, .data, .data, .data, .sentinel, .sentinel, .data, .data, .pinned], laidTests := true, laidLooks := .later }
def XmlValuesCardSaid : Prop := Claim7.holds Tryz.pinned (.plain (OpenSpec.ofChange xmlValuesSpec)) xmlValuesCard

/-- THE SECOND FORM's CARD OF 'spyglasslaw05.XmlParses'. -/
def xmlParsesUptoCard : Claim7 := { stood := { row := xmlParsesUptoRow, standIns := [], harness := (true, "4148650d6e0846488ce487377aadbf32be7dd7120a5a7c6cb84a32f3e199f1d9"), looks := true }, kinds := [], alts := [], laidByText := true, laidKinds := [.data, .data, .data, .data, .sentinel, .sentinel, .data, .data, .pinned], laidTests := true, laidLooks := .later }
def XmlParsesUptoCardSaid : Prop := Claim7.holds Tryz.pinned (.plain (OpenSpec.upto xmlParsesSpec)) xmlParsesUptoCard

/-- THE SECOND FORM's CARD OF 'spyglasslaw05.XmlWrites'. -/
def xmlWritesUptoCard : Claim7 := { stood := { row := xmlWritesUptoRow, standIns := [], harness := (true, "4148650d6e0846488ce487377aadbf32be7dd7120a5a7c6cb84a32f3e199f1d9"), looks := true }, kinds := [], alts := [], laidByText := true, laidKinds := [.data, .data, .data, .data, .sentinel, .sentinel, .data, .data, .pinned], laidTests := true, laidLooks := .later }
def XmlWritesUptoCardSaid : Prop := Claim7.holds Tryz.pinned (.plain (OpenSpec.upto xmlWritesSpec)) xmlWritesUptoCard

/-- THE SECOND FORM's CARD OF 'spyglasslaw05.XmlBack'. -/
def xmlBackUptoCard : Claim7 := { stood := { row := xmlBackUptoRow, standIns := [], harness := (true, "4148650d6e0846488ce487377aadbf32be7dd7120a5a7c6cb84a32f3e199f1d9"), looks := true }, kinds := [], alts := [], laidByText := true, laidKinds := [.data, .data, .data, .data, .sentinel, .sentinel, .data, .data, .pinned], laidTests := true, laidLooks := .later }
def XmlBackUptoCardSaid : Prop := Claim7.holds Tryz.pinned (.plain (OpenSpec.upto xmlBackSpec)) xmlBackUptoCard

/-- THE SECOND FORM's CARD OF 'spyglasslaw05.XmlAgain'. -/
def xmlAgainUptoCard : Claim7 := { stood := { row := xmlAgainUptoRow, standIns := [], harness := (true, "4148650d6e0846488ce487377aadbf32be7dd7120a5a7c6cb84a32f3e199f1d9"), looks := true }, kinds := [], alts := [], laidByText := true, laidKinds := [.data, .data, .data, .data, .sentinel, .sentinel, .data, .data, .pinned], laidTests := true, laidLooks := .later }
def XmlAgainUptoCardSaid : Prop := Claim7.holds Tryz.pinned (.plain (OpenSpec.upto xmlAgainSpec)) xmlAgainUptoCard

/-- THE SECOND FORM's CARD OF 'spyglasslaw05.XmlValues'. -/
def xmlValuesUptoCard : Claim7 := { stood := { row := xmlValuesUptoRow, standIns := [], harness := (true, "4148650d6e0846488ce487377aadbf32be7dd7120a5a7c6cb84a32f3e199f1d9"), looks := true }, kinds := [], alts := [], laidByText := true, laidKinds := [.data, .data, .data, .data, .sentinel, .sentinel, .data, .data, .pinned], laidTests := true, laidLooks := .later }
def XmlValuesUptoCardSaid : Prop := Claim7.holds Tryz.pinned (.plain (OpenSpec.upto xmlValuesSpec)) xmlValuesUptoCard
end Rows
end Go.Proofs.YtjldpkhfiffinaaGreatDoor
