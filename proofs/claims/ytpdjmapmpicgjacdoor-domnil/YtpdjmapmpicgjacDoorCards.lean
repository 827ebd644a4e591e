/-
  DERIVED. GIVEN WITH THE SEED: THE CARDS: each row of YtpdjmapmpicgjacDoorRows.lean that lists a variable, with what it lists TIED to the program's text (the seventh form; the later family's looks); each row that meets fmt, with fmt's text TOLD by the authors' own Lean function (tested against real Go, not proved from fmt's source: count such statements apart). THE CARD IS WHAT COUNTS. Prove the row's statement (the work); the ties are given (YtpdjmapmpicgjacDoorTie.lean); close each card by the builder's one call (the guide's Derived/Test/ToyasCard.lean, 'card_holds'). Laid BY PROGRAM, IN A SANDBOX (cutbox-door.mjs). By AI agents, Wed Nov 11 2026. No macro, syntax, notation, axiom, sorry.
-/
import Derived.Test.YtpdjmapmpicgjacDoorRows
import GoSem.ClaimSeven
namespace Go.Proofs.YtpdjmapmpicgjacDoor
namespace Rows

/-- THE TIED CARD OF 'intagliolaw15.DomUps'. -/
def domUpsCard : Claim7 := { stood := { row := domUpsRow, standIns := [], harness := (true, "f1eaac08e1e6fc847805d2c6fa21809ee619751892ffad9aa1c4bf9eebfac1c4"), looks := false }, kinds := [], alts := [], laidByText := true, laidKinds := [.data], laidTests := true, laidLooks := .later }
def DomUpsCardSaid : Prop := Claim7.holds Tryd.pinned (.plain (OpenSpec.ofChange domUpsSpec)) domUpsCard

/-- THE TIED CARD OF 'intagliolaw15.DomBacks'. -/
def domBacksCard : Claim7 := { stood := { row := domBacksRow, standIns := [], harness := (true, "f1eaac08e1e6fc847805d2c6fa21809ee619751892ffad9aa1c4bf9eebfac1c4"), looks := false }, kinds := [], alts := [], laidByText := true, laidKinds := [.data], laidTests := true, laidLooks := .later }
def DomBacksCardSaid : Prop := Claim7.holds Tryd.pinned (.plain (OpenSpec.ofChange domBacksSpec)) domBacksCard

/-- THE TIED CARD OF 'intagliolaw15.DomNil'. -/
def domNilCard : Claim7 := { stood := { row := domNilRow, standIns := [], harness := (true, "f1eaac08e1e6fc847805d2c6fa21809ee619751892ffad9aa1c4bf9eebfac1c4"), looks := false }, kinds := [], alts := [], laidByText := true, laidKinds := [.data], laidTests := true, laidLooks := .later }
def DomNilCardSaid : Prop := Claim7.holds Tryd.pinned (.plain (OpenSpec.ofChange domNilSpec)) domNilCard

/-- THE TIED CARD OF 'intagliolaw15.DomOrders'. -/
def domOrdersCard : Claim7 := { stood := { row := domOrdersRow, standIns := [], harness := (true, "f1eaac08e1e6fc847805d2c6fa21809ee619751892ffad9aa1c4bf9eebfac1c4"), looks := false }, kinds := [], alts := [], laidByText := true, laidKinds := [.data], laidTests := true, laidLooks := .later }
def DomOrdersCardSaid : Prop := Claim7.holds Tryd.pinned (.plain (OpenSpec.ofChange domOrdersSpec)) domOrdersCard

/-- THE TIED CARD OF 'intagliolaw15.DomEdges'. -/
def domEdgesCard : Claim7 := { stood := { row := domEdgesRow, standIns := [], harness := (true, "f1eaac08e1e6fc847805d2c6fa21809ee619751892ffad9aa1c4bf9eebfac1c4"), looks := false }, kinds := [], alts := [], laidByText := true, laidKinds := [.data], laidTests := true, laidLooks := .later }
def DomEdgesCardSaid : Prop := Claim7.holds Tryd.pinned (.plain (OpenSpec.ofChange domEdgesSpec)) domEdgesCard

/-- THE SECOND FORM's CARD OF 'intagliolaw15.DomUps'. -/
def domUpsUptoCard : Claim7 := { stood := { row := domUpsUptoRow, standIns := [], harness := (true, "f1eaac08e1e6fc847805d2c6fa21809ee619751892ffad9aa1c4bf9eebfac1c4"), looks := false }, kinds := [], alts := [], laidByText := true, laidKinds := [.data], laidTests := true, laidLooks := .later }
def DomUpsUptoCardSaid : Prop := Claim7.holds Tryd.pinned (.plain (OpenSpec.upto domUpsSpec)) domUpsUptoCard

/-- THE SECOND FORM's CARD OF 'intagliolaw15.DomBacks'. -/
def domBacksUptoCard : Claim7 := { stood := { row := domBacksUptoRow, standIns := [], harness := (true, "f1eaac08e1e6fc847805d2c6fa21809ee619751892ffad9aa1c4bf9eebfac1c4"), looks := false }, kinds := [], alts := [], laidByText := true, laidKinds := [.data], laidTests := true, laidLooks := .later }
def DomBacksUptoCardSaid : Prop := Claim7.holds Tryd.pinned (.plain (OpenSpec.upto domBacksSpec)) domBacksUptoCard

/-- THE SECOND FORM's CARD OF 'intagliolaw15.DomNil'. -/
def domNilUptoCard : Claim7 := { stood := { row := domNilUptoRow, standIns := [], harness := (true, "f1eaac08e1e6fc847805d2c6fa21809ee619751892ffad9aa1c4bf9eebfac1c4"), looks := false }, kinds := [], alts := [], laidByText := true, laidKinds := [.data], laidTests := true, laidLooks := .later }
def DomNilUptoCardSaid : Prop := Claim7.holds Tryd.pinned (.plain (OpenSpec.upto domNilSpec)) domNilUptoCard

/-- THE SECOND FORM's CARD OF 'intagliolaw15.DomOrders'. -/
def domOrdersUptoCard : Claim7 := { stood := { row := domOrdersUptoRow, standIns := [], harness := (true, "f1eaac08e1e6fc847805d2c6fa21809ee619751892ffad9aa1c4bf9eebfac1c4"), looks := false }, kinds := [], alts := [], laidByText := true, laidKinds := [.data], laidTests := true, laidLooks := .later }
def DomOrdersUptoCardSaid : Prop := Claim7.holds Tryd.pinned (.plain (OpenSpec.upto domOrdersSpec)) domOrdersUptoCard

/-- THE SECOND FORM's CARD OF 'intagliolaw15.DomEdges'. -/
def domEdgesUptoCard : Claim7 := { stood := { row := domEdgesUptoRow, standIns := [], harness := (true, "f1eaac08e1e6fc847805d2c6fa21809ee619751892ffad9aa1c4bf9eebfac1c4"), looks := false }, kinds := [], alts := [], laidByText := true, laidKinds := [.data], laidTests := true, laidLooks := .later }
def DomEdgesUptoCardSaid : Prop := Claim7.holds Tryd.pinned (.plain (OpenSpec.upto domEdgesSpec)) domEdgesUptoCard
end Rows
end Go.Proofs.YtpdjmapmpicgjacDoor
