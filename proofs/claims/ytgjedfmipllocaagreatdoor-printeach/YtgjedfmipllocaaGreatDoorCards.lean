/-
  DERIVED. GIVEN WITH THE SEED: THE CARDS: each row of YtgjedfmipllocaaGreatDoorRows.lean that lists a variable, with what it lists TIED to the program's text (the seventh form; the later family's looks); each row that meets fmt, with fmt's text TOLD by the authors' own Lean function (tested against real Go, not proved from fmt's source: count such statements apart). THE CARD IS WHAT COUNTS. Prove the row's statement (the work); the ties are given (YtgjedfmipllocaaGreatDoorTie.lean); close each card by the builder's one call (the guide's Derived/Test/ToyasCard.lean, 'card_holds'). Laid BY PROGRAM, IN A SANDBOX (cutbox-door.mjs). By AI agents, Wed Nov 11 2026. No macro, syntax, notation, axiom, sorry.
-/
import Derived.Test.YtgjedfmipllocaaGreatDoorRows
import GoSem.ClaimSeven
namespace Go.Proofs.YtgjedfmipllocaaGreatDoor
namespace Rows

/-- THE TIED CARD OF 'intagliolaw08.PrintEach'. -/
def printEachCard : Claim7 := { stood := { row := printEachRow, standIns := [], harness := (true, "7b8b913a1d85c2639c5cf7baade9f5f79df907505354e1184d0149cdcf885587"), looks := true }, kinds := [], alts := [], laidByText := true, laidKinds := [.data, .data, .data], laidTests := true, laidLooks := .later }
def PrintEachCardSaid : Prop := Claim7.holds Tryz.pinned (.plain (OpenSpec.ofChange printEachSpec)) printEachCard

/-- THE TIED CARD OF 'intagliolaw10.TypesNil'. -/
def typesNilCard : Claim7 := { stood := { row := typesNilRow, standIns := [], harness := (true, "7b8b913a1d85c2639c5cf7baade9f5f79df907505354e1184d0149cdcf885587"), looks := true }, kinds := [], alts := [], laidByText := true, laidKinds := [.data, .data, .data], laidTests := true, laidLooks := .later }
def TypesNilCardSaid : Prop := Claim7.holds Tryz.pinned (.plain (OpenSpec.ofChange typesNilSpec)) typesNilCard

/-- THE TIED CARD OF 'intagliolaw11.ConstsNil'. -/
def constsNilCard : Claim7 := { stood := { row := constsNilRow, standIns := [], harness := (true, "7b8b913a1d85c2639c5cf7baade9f5f79df907505354e1184d0149cdcf885587"), looks := true }, kinds := [], alts := [], laidByText := true, laidKinds := [.data, .data, .data], laidTests := true, laidLooks := .later }
def ConstsNilCardSaid : Prop := Claim7.holds Tryz.pinned (.plain (OpenSpec.ofChange constsNilSpec)) constsNilCard

/-- THE TIED CARD OF 'intagliolaw12.ValueNil'. -/
def valueNilCard : Claim7 := { stood := { row := valueNilRow, standIns := [], harness := (true, "7b8b913a1d85c2639c5cf7baade9f5f79df907505354e1184d0149cdcf885587"), looks := true }, kinds := [], alts := [], laidByText := true, laidKinds := [.data, .data, .data, .sentinel, .sentinel], laidTests := true, laidLooks := .later }
def ValueNilCardSaid : Prop := Claim7.holds Tryz.pinned (.plain (OpenSpec.ofChange valueNilSpec)) valueNilCard

/-- THE SECOND FORM's CARD OF 'intagliolaw08.PrintEach'. -/
def printEachUptoCard : Claim7 := { stood := { row := printEachUptoRow, standIns := [], harness := (true, "7b8b913a1d85c2639c5cf7baade9f5f79df907505354e1184d0149cdcf885587"), looks := true }, kinds := [], alts := [], laidByText := true, laidKinds := [.data, .data, .data], laidTests := true, laidLooks := .later }
def PrintEachUptoCardSaid : Prop := Claim7.holds Tryz.pinned (.plain (OpenSpec.upto printEachSpec)) printEachUptoCard

/-- THE SECOND FORM's CARD OF 'intagliolaw10.TypesNil'. -/
def typesNilUptoCard : Claim7 := { stood := { row := typesNilUptoRow, standIns := [], harness := (true, "7b8b913a1d85c2639c5cf7baade9f5f79df907505354e1184d0149cdcf885587"), looks := true }, kinds := [], alts := [], laidByText := true, laidKinds := [.data, .data, .data], laidTests := true, laidLooks := .later }
def TypesNilUptoCardSaid : Prop := Claim7.holds Tryz.pinned (.plain (OpenSpec.upto typesNilSpec)) typesNilUptoCard

/-- THE SECOND FORM's CARD OF 'intagliolaw11.ConstsNil'. -/
def constsNilUptoCard : Claim7 := { stood := { row := constsNilUptoRow, standIns := [], harness := (true, "7b8b913a1d85c2639c5cf7baade9f5f79df907505354e1184d0149cdcf885587"), looks := true }, kinds := [], alts := [], laidByText := true, laidKinds := [.data, .data, .data], laidTests := true, laidLooks := .later }
def ConstsNilUptoCardSaid : Prop := Claim7.holds Tryz.pinned (.plain (OpenSpec.upto constsNilSpec)) constsNilUptoCard

/-- THE SECOND FORM's CARD OF 'intagliolaw12.ValueNil'. -/
def valueNilUptoCard : Claim7 := { stood := { row := valueNilUptoRow, standIns := [], harness := (true, "7b8b913a1d85c2639c5cf7baade9f5f79df907505354e1184d0149cdcf885587"), looks := true }, kinds := [], alts := [], laidByText := true, laidKinds := [.data, .data, .data, .sentinel, .sentinel], laidTests := true, laidLooks := .later }
def ValueNilUptoCardSaid : Prop := Claim7.holds Tryz.pinned (.plain (OpenSpec.upto valueNilSpec)) valueNilUptoCard
end Rows
end Go.Proofs.YtgjedfmipllocaaGreatDoor
