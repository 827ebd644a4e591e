/-
  DERIVED. GIVEN WITH THE SEED: THE CARDS: each row of YtddkapkkjhomkabGreatDoorRows.lean that lists a variable, with what it lists TIED to the program's text (the seventh form; the later family's looks); each row that meets fmt, with fmt's text TOLD by the authors' own Lean function (tested against real Go, not proved from fmt's source: count such statements apart). THE CARD IS WHAT COUNTS. Prove the row's statement (the work); the ties are given (YtddkapkkjhomkabGreatDoorTie.lean); close each card by the builder's one call (the guide's Derived/Test/ToyasCard.lean, 'card_holds'). Laid BY PROGRAM, IN A SANDBOX (cutbox-door.mjs). By AI agents, Wed Nov 11 2026. No macro, syntax, notation, axiom, sorry.
-/
import Derived.Test.YtddkapkkjhomkabGreatDoorRows
import GoSem.ClaimSeven
namespace Go.Proofs.YtddkapkkjhomkabGreatDoor
namespace Rows

/-- THE TIED CARD OF 'intagliolaw08.PrintUnlike'. -/
def printUnlikeCard : Claim7 := { stood := { row := printUnlikeRow, standIns := [], harness := (true, "0857d144eb50d6abb4b7a56f679c2eb691d8e47fea24e48f068b9139362ac94c"), looks := false }, kinds := [], alts := [], laidByText := true, laidKinds := [.data, .data, .data], laidTests := true, laidLooks := .later }
def PrintUnlikeCardSaid : Prop := Claim7.holds Tryz.pinned (.plain (OpenSpec.ofChange printUnlikeSpec)) printUnlikeCard

/-- THE TIED CARD OF 'intagliolaw08.PrintEach'. -/
def printEachCard : Claim7 := { stood := { row := printEachRow, standIns := [], harness := (true, "0857d144eb50d6abb4b7a56f679c2eb691d8e47fea24e48f068b9139362ac94c"), looks := false }, kinds := [], alts := [], laidByText := true, laidKinds := [.data, .data, .data], laidTests := true, laidLooks := .later }
def PrintEachCardSaid : Prop := Claim7.holds Tryz.pinned (.plain (OpenSpec.ofChange printEachSpec)) printEachCard

/-- THE TIED CARD OF 'intagliolaw08.PrintRefused'. -/
def printRefusedCard : Claim7 := { stood := { row := printRefusedRow, standIns := [], harness := (true, "0857d144eb50d6abb4b7a56f679c2eb691d8e47fea24e48f068b9139362ac94c"), looks := false }, kinds := [], alts := [], laidByText := true, laidKinds := [.data, .data, .data], laidTests := true, laidLooks := .later }
def PrintRefusedCardSaid : Prop := Claim7.holds Tryz.pinned (.plain (OpenSpec.ofChange printRefusedSpec)) printRefusedCard

/-- THE TIED CARD OF 'intagliotop.WholeBytes'. -/
def wholeBytesCard : Claim7 := { stood := { row := wholeBytesRow, standIns := [], harness := (true, "0857d144eb50d6abb4b7a56f679c2eb691d8e47fea24e48f068b9139362ac94c"), looks := false }, kinds := [], alts := [], laidByText := true, laidKinds := [.data, .data, .data], laidTests := true, laidLooks := .later }
def WholeBytesCardSaid : Prop := Claim7.holds Tryz.pinned (.plain (OpenSpec.ofChange wholeBytesSpec)) wholeBytesCard

/-- THE TIED CARD OF 'intagliotop.WholeText'. -/
def wholeTextCard : Claim7 := { stood := { row := wholeTextRow, standIns := [], harness := (true, "0857d144eb50d6abb4b7a56f679c2eb691d8e47fea24e48f068b9139362ac94c"), looks := false }, kinds := [], alts := [], laidByText := true, laidKinds := [.data, .data, .data], laidTests := true, laidLooks := .later }
def WholeTextCardSaid : Prop := Claim7.holds Tryz.pinned (.plain (OpenSpec.ofChange wholeTextSpec)) wholeTextCard

/-- THE SECOND FORM's CARD OF 'intagliolaw08.PrintUnlike'. -/
def printUnlikeUptoCard : Claim7 := { stood := { row := printUnlikeUptoRow, standIns := [], harness := (true, "0857d144eb50d6abb4b7a56f679c2eb691d8e47fea24e48f068b9139362ac94c"), looks := false }, kinds := [], alts := [], laidByText := true, laidKinds := [.data, .data, .data], laidTests := true, laidLooks := .later }
def PrintUnlikeUptoCardSaid : Prop := Claim7.holds Tryz.pinned (.plain (OpenSpec.upto printUnlikeSpec)) printUnlikeUptoCard

/-- THE SECOND FORM's CARD OF 'intagliolaw08.PrintEach'. -/
def printEachUptoCard : Claim7 := { stood := { row := printEachUptoRow, standIns := [], harness := (true, "0857d144eb50d6abb4b7a56f679c2eb691d8e47fea24e48f068b9139362ac94c"), looks := false }, kinds := [], alts := [], laidByText := true, laidKinds := [.data, .data, .data], laidTests := true, laidLooks := .later }
def PrintEachUptoCardSaid : Prop := Claim7.holds Tryz.pinned (.plain (OpenSpec.upto printEachSpec)) printEachUptoCard

/-- THE SECOND FORM's CARD OF 'intagliolaw08.PrintRefused'. -/
def printRefusedUptoCard : Claim7 := { stood := { row := printRefusedUptoRow, standIns := [], harness := (true, "0857d144eb50d6abb4b7a56f679c2eb691d8e47fea24e48f068b9139362ac94c"), looks := false }, kinds := [], alts := [], laidByText := true, laidKinds := [.data, .data, .data], laidTests := true, laidLooks := .later }
def PrintRefusedUptoCardSaid : Prop := Claim7.holds Tryz.pinned (.plain (OpenSpec.upto printRefusedSpec)) printRefusedUptoCard

/-- THE SECOND FORM's CARD OF 'intagliotop.WholeBytes'. -/
def wholeBytesUptoCard : Claim7 := { stood := { row := wholeBytesUptoRow, standIns := [], harness := (true, "0857d144eb50d6abb4b7a56f679c2eb691d8e47fea24e48f068b9139362ac94c"), looks := false }, kinds := [], alts := [], laidByText := true, laidKinds := [.data, .data, .data], laidTests := true, laidLooks := .later }
def WholeBytesUptoCardSaid : Prop := Claim7.holds Tryz.pinned (.plain (OpenSpec.upto wholeBytesSpec)) wholeBytesUptoCard

/-- THE SECOND FORM's CARD OF 'intagliotop.WholeText'. -/
def wholeTextUptoCard : Claim7 := { stood := { row := wholeTextUptoRow, standIns := [], harness := (true, "0857d144eb50d6abb4b7a56f679c2eb691d8e47fea24e48f068b9139362ac94c"), looks := false }, kinds := [], alts := [], laidByText := true, laidKinds := [.data, .data, .data], laidTests := true, laidLooks := .later }
def WholeTextUptoCardSaid : Prop := Claim7.holds Tryz.pinned (.plain (OpenSpec.upto wholeTextSpec)) wholeTextUptoCard
end Rows
end Go.Proofs.YtddkapkkjhomkabGreatDoor
