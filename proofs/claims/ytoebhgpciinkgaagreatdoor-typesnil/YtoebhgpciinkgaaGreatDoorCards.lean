/-
  DERIVED. GIVEN WITH THE SEED: THE CARDS: each row of YtoebhgpciinkgaaGreatDoorRows.lean that lists a variable, with what it lists TIED to the program's text (the seventh form; the later family's looks); each row that meets fmt, with fmt's text TOLD by the authors' own Lean function (tested against real Go, not proved from fmt's source: count such statements apart). THE CARD IS WHAT COUNTS. Prove the row's statement (the work); the ties are given (YtoebhgpciinkgaaGreatDoorTie.lean); close each card by the builder's one call (the guide's Derived/Test/ToyasCard.lean, 'card_holds'). Laid BY PROGRAM, IN A SANDBOX (cutbox-door.mjs). By AI agents, Wed Nov 11 2026. No macro, syntax, notation, axiom, sorry.
-/
import Derived.Test.YtoebhgpciinkgaaGreatDoorRows
import GoSem.ClaimSeven
namespace Go.Proofs.YtoebhgpciinkgaaGreatDoor
namespace Rows

/-- THE TIED CARD OF 'intagliolaw10.TypesNew'. -/
def typesNewCard : Claim7 := { stood := { row := typesNewRow, standIns := [], harness := (true, "6b7cfd7efa5307e9ad06effd0f30528087b62d3a05900a5f9a62dc05f2a103a1"), looks := false }, kinds := [], alts := [], laidByText := true, laidKinds := [.data, .data, .data], laidTests := true, laidLooks := .later }
def TypesNewCardSaid : Prop := Claim7.holds Tryz.pinned (.plain (OpenSpec.ofChange typesNewSpec)) typesNewCard

/-- THE TIED CARD OF 'intagliolaw10.TypesParts'. -/
def typesPartsCard : Claim7 := { stood := { row := typesPartsRow, standIns := [], harness := (true, "6b7cfd7efa5307e9ad06effd0f30528087b62d3a05900a5f9a62dc05f2a103a1"), looks := false }, kinds := [], alts := [], laidByText := true, laidKinds := [.data, .data, .data], laidTests := true, laidLooks := .later }
def TypesPartsCardSaid : Prop := Claim7.holds Tryz.pinned (.plain (OpenSpec.ofChange typesPartsSpec)) typesPartsCard

/-- THE TIED CARD OF 'intagliolaw10.TypesAlike'. -/
def typesAlikeCard : Claim7 := { stood := { row := typesAlikeRow, standIns := [], harness := (true, "6b7cfd7efa5307e9ad06effd0f30528087b62d3a05900a5f9a62dc05f2a103a1"), looks := false }, kinds := [], alts := [], laidByText := true, laidKinds := [.data, .data, .data], laidTests := true, laidLooks := .later }
def TypesAlikeCardSaid : Prop := Claim7.holds Tryz.pinned (.plain (OpenSpec.ofChange typesAlikeSpec)) typesAlikeCard

/-- THE TIED CARD OF 'intagliolaw10.TypesNil'. -/
def typesNilCard : Claim7 := { stood := { row := typesNilRow, standIns := [], harness := (true, "6b7cfd7efa5307e9ad06effd0f30528087b62d3a05900a5f9a62dc05f2a103a1"), looks := false }, kinds := [], alts := [], laidByText := true, laidKinds := [.data, .data, .data], laidTests := true, laidLooks := .later }
def TypesNilCardSaid : Prop := Claim7.holds Tryz.pinned (.plain (OpenSpec.ofChange typesNilSpec)) typesNilCard

/-- THE TIED CARD OF 'intagliolaw10.TypesSizes'. -/
def typesSizesCard : Claim7 := { stood := { row := typesSizesRow, standIns := [], harness := (true, "6b7cfd7efa5307e9ad06effd0f30528087b62d3a05900a5f9a62dc05f2a103a1"), looks := false }, kinds := [], alts := [], laidByText := true, laidKinds := [.data, .data, .data], laidTests := true, laidLooks := .later }
def TypesSizesCardSaid : Prop := Claim7.holds Tryz.pinned (.plain (OpenSpec.ofChange typesSizesSpec)) typesSizesCard

/-- THE TIED CARD OF 'intagliolaw10.TypesEqual'. -/
def typesEqualCard : Claim7 := { stood := { row := typesEqualRow, standIns := [], harness := (true, "6b7cfd7efa5307e9ad06effd0f30528087b62d3a05900a5f9a62dc05f2a103a1"), looks := false }, kinds := [], alts := [], laidByText := true, laidKinds := [.data, .data, .data], laidTests := true, laidLooks := .later }
def TypesEqualCardSaid : Prop := Claim7.holds Tryz.pinned (.plain (OpenSpec.ofChange typesEqualSpec)) typesEqualCard

/-- THE SECOND FORM's CARD OF 'intagliolaw10.TypesNew'. -/
def typesNewUptoCard : Claim7 := { stood := { row := typesNewUptoRow, standIns := [], harness := (true, "6b7cfd7efa5307e9ad06effd0f30528087b62d3a05900a5f9a62dc05f2a103a1"), looks := false }, kinds := [], alts := [], laidByText := true, laidKinds := [.data, .data, .data], laidTests := true, laidLooks := .later }
def TypesNewUptoCardSaid : Prop := Claim7.holds Tryz.pinned (.plain (OpenSpec.upto typesNewSpec)) typesNewUptoCard

/-- THE SECOND FORM's CARD OF 'intagliolaw10.TypesParts'. -/
def typesPartsUptoCard : Claim7 := { stood := { row := typesPartsUptoRow, standIns := [], harness := (true, "6b7cfd7efa5307e9ad06effd0f30528087b62d3a05900a5f9a62dc05f2a103a1"), looks := false }, kinds := [], alts := [], laidByText := true, laidKinds := [.data, .data, .data], laidTests := true, laidLooks := .later }
def TypesPartsUptoCardSaid : Prop := Claim7.holds Tryz.pinned (.plain (OpenSpec.upto typesPartsSpec)) typesPartsUptoCard

/-- THE SECOND FORM's CARD OF 'intagliolaw10.TypesAlike'. -/
def typesAlikeUptoCard : Claim7 := { stood := { row := typesAlikeUptoRow, standIns := [], harness := (true, "6b7cfd7efa5307e9ad06effd0f30528087b62d3a05900a5f9a62dc05f2a103a1"), looks := false }, kinds := [], alts := [], laidByText := true, laidKinds := [.data, .data, .data], laidTests := true, laidLooks := .later }
def TypesAlikeUptoCardSaid : Prop := Claim7.holds Tryz.pinned (.plain (OpenSpec.upto typesAlikeSpec)) typesAlikeUptoCard

/-- THE SECOND FORM's CARD OF 'intagliolaw10.TypesNil'. -/
def typesNilUptoCard : Claim7 := { stood := { row := typesNilUptoRow, standIns := [], harness := (true, "6b7cfd7efa5307e9ad06effd0f30528087b62d3a05900a5f9a62dc05f2a103a1"), looks := false }, kinds := [], alts := [], laidByText := true, laidKinds := [.data, .data, .data], laidTests := true, laidLooks := .later }
def TypesNilUptoCardSaid : Prop := Claim7.holds Tryz.pinned (.plain (OpenSpec.upto typesNilSpec)) typesNilUptoCard

/-- THE SECOND FORM's CARD OF 'intagliolaw10.TypesSizes'. -/
def typesSizesUptoCard : Claim7 := { stood := { row := typesSizesUptoRow, standIns := [], harness := (true, "6b7cfd7efa5307e9ad06effd0f30528087b62d3a05900a5f9a62dc05f2a103a1"), looks := false }, kinds := [], alts := [], laidByText := true, laidKinds := [.data, .data, .data], laidTests := true, laidLooks := .later }
def TypesSizesUptoCardSaid : Prop := Claim7.holds Tryz.pinned (.plain (OpenSpec.upto typesSizesSpec)) typesSizesUptoCard

/-- THE SECOND FORM's CARD OF 'intagliolaw10.TypesEqual'. -/
def typesEqualUptoCard : Claim7 := { stood := { row := typesEqualUptoRow, standIns := [], harness := (true, "6b7cfd7efa5307e9ad06effd0f30528087b62d3a05900a5f9a62dc05f2a103a1"), looks := false }, kinds := [], alts := [], laidByText := true, laidKinds := [.data, .data, .data], laidTests := true, laidLooks := .later }
def TypesEqualUptoCardSaid : Prop := Claim7.holds Tryz.pinned (.plain (OpenSpec.upto typesEqualSpec)) typesEqualUptoCard
end Rows
end Go.Proofs.YtoebhgpciinkgaaGreatDoor
