/-
  No cell of these rows narrows 'for every input' (looked for: loops, veiled, ifaces, maps, wideKeys, modest, calm, conditions, laid).
  DERIVED. THE GIVEN ROWS OF THIS SEAT. 3 by the template 'for every input the law returns true; each argument reads behind the call as it read before'; 0 by the template 'total and deterministic' (their statements: YtckhgdjcofpijabTotals.lean).
  GIVEN WITH THE SEED: the statements are not yours to turn. If you find one false, say at which input.
  Laid BY PROGRAM, IN A SANDBOX (cutbox-rows.mjs): the forced cells as the released guide's own fill.sh prints them over the translation 2a3280113597a990… (all of the seat's roots in one cut). By AI agents, Wed Nov 11 2026. No macro, syntax, notation, axiom, sorry.
-/
import Derived.Test.YtckhgdjcofpijabChecked
import GoSem.Claim
import GoSem.ClaimJoined
import GoSem.ClaimMapViews
import Derived.JoinedTies
import Derived.KernelRfl
namespace Go.Proofs.Ytckhgdjcofpijab
/- THE CELL 'sum', in the pinned program and in every row, IS THE sha256 OF THE DUMP (.gsa) THAT YtckhgdjcofpijabProg.lean LOADS. Nothing in Lean hashes anything: it is a label: what it is worth is what the hold of that sum in a sandbox is worth. -/
noncomputable def Try.pinned : Pinned := { name := "ytckhgdjcofpijab", sum := "2a3280113597a99092813a4f4cf9bd24e3eb62f3fe41e4af3d2fc51ae8c4ef79", checked := Try.checked }
namespace Rows
def none {H : Type} : Left H := { results := [], args := [] }

/-- 'intagliolaw05.LayoutBegins': WHATEVER THE INPUT: true; the input reads as it did. -/
def layoutBeginsSpec : ChangeSpec := { name := "layoutBegins", fn := fun _ => fun
  | [d] => { results := [.lit (.bool true)], args := [d] }
  | _ => none }
def layoutBeginsRow : OpenClaim := { program := "ytckhgdjcofpijab", sum := "2a3280113597a99092813a4f4cf9bd24e3eb62f3fe41e4af3d2fc51ae8c4ef79", func := "intaglio/intagliolaw05.LayoutBegins", spec := "layoutBegins", inPlace := ["internal/bytealg.IndexByteString"], unfollowed := true, recurses := true, apart := false }
def LayoutBeginsSaid : Prop := layoutBeginsRow.holds Try.pinned (OpenSpec.ofChange layoutBeginsSpec)

/-- ITS FALSE NEIGHBOUR: 'it returns false'. Refute it at one input. -/
def layoutBeginsWrong : ChangeSpec := { name := "layoutBegins", fn := fun _ => fun
  | [d] => { results := [.lit (.bool false)], args := [d] }
  | _ => none }
def LayoutBeginsWrongFalsely : Prop := layoutBeginsRow.holds Try.pinned (OpenSpec.ofChange layoutBeginsWrong)

/-- 'intagliolaw09.IdsChecks': WHATEVER THE INPUT: true; the input reads as it did. -/
def idsChecksSpec : ChangeSpec := { name := "idsChecks", fn := fun _ => fun
  | [d] => { results := [.lit (.bool true)], args := [d] }
  | _ => none }
def idsChecksRow : OpenClaim := { program := "ytckhgdjcofpijab", sum := "2a3280113597a99092813a4f4cf9bd24e3eb62f3fe41e4af3d2fc51ae8c4ef79", func := "intaglio/intagliolaw09.IdsChecks", spec := "idsChecks", inPlace := ["internal/bytealg.IndexByteString"], unfollowed := true, recurses := true, apart := false }
def IdsChecksSaid : Prop := idsChecksRow.holds Try.pinned (OpenSpec.ofChange idsChecksSpec)

/-- ITS FALSE NEIGHBOUR: 'it returns false'. Refute it at one input. -/
def idsChecksWrong : ChangeSpec := { name := "idsChecks", fn := fun _ => fun
  | [d] => { results := [.lit (.bool false)], args := [d] }
  | _ => none }
def IdsChecksWrongFalsely : Prop := idsChecksRow.holds Try.pinned (OpenSpec.ofChange idsChecksWrong)

/-- 'intagliolaw09.IdsAlikes': WHATEVER THE INPUT: true; the input reads as it did. -/
def idsAlikesSpec : ChangeSpec := { name := "idsAlikes", fn := fun _ => fun
  | [d1, d2] => { results := [.lit (.bool true)], args := [d1, d2] }
  | _ => none }
def idsAlikesRow : OpenClaim := { program := "ytckhgdjcofpijab", sum := "2a3280113597a99092813a4f4cf9bd24e3eb62f3fe41e4af3d2fc51ae8c4ef79", func := "intaglio/intagliolaw09.IdsAlikes", spec := "idsAlikes", inPlace := ["internal/bytealg.IndexByteString"], unfollowed := true, recurses := true, apart := false }
def IdsAlikesSaid : Prop := idsAlikesRow.holds Try.pinned (OpenSpec.ofChange idsAlikesSpec)

/-- ITS FALSE NEIGHBOUR: 'it returns false'. Refute it at one input. -/
def idsAlikesWrong : ChangeSpec := { name := "idsAlikes", fn := fun _ => fun
  | [d1, d2] => { results := [.lit (.bool false)], args := [d1, d2] }
  | _ => none }
def IdsAlikesWrongFalsely : Prop := idsAlikesRow.holds Try.pinned (OpenSpec.ofChange idsAlikesWrong)

/- THE SECOND FORM. 'bulk': how many values and letters a reading holds, each counted each time it is reached (what is shared counts as often as it is met; a slice's spare places count too). A statement '..UptoSaid' is the law's where the arguments, and the package variables that the reading takes, are together of bulk at most 1048576: NARROWER than '..Said'. Prove '..Said' where nothing that the law and all that it calls make is longer than what came in: it says more and counts as full. Else prove '..UptoSaid'. A law counts once. -/
mutual
def uptoBulk {H : Type} : DataW H → Nat
  | .lit (.string bytes) => bytes.length + 1
  | .lit _ => 1
  | .nil => 1
  | .ptr d => uptoBulk d + 1
  | .slice elems spare => uptoBulkAll elems + uptoBulkAll spare + 1
  | .agg parts => uptoBulkAll parts + 1
  | .iface _ d => uptoBulk d + 1
  | .map entries => uptoBulkEntries entries + 1
  | .held _ => 1
def uptoBulkAll {H : Type} : List (DataW H) → Nat
  | [] => 0
  | d :: r => uptoBulk d + uptoBulkAll r
def uptoBulkEntries {H : Type} : List (Lit × DataW H) → Nat
  | [] => 0
  | x :: r => uptoBulkEntry x + uptoBulkEntries r
def uptoBulkEntry {H : Type} : Lit × DataW H → Nat
  | (.string bytes, d) => bytes.length + uptoBulk d + 1
  | (_, d) => uptoBulk d + 1
 end
def uptoSmall : (H : Type) → List (DataW H) → Bool := fun _ ds => decide (uptoBulkAll ds ≤ 1048576)
def OpenSpec.upto (s : _root_.Go.ChangeSpec) : _root_.Go.OpenSpec := { _root_.Go.OpenSpec.ofChange s with cond := some uptoSmall }

/-- 'intagliolaw05.LayoutBegins', WHERE WHAT IT READS IS OF BULK AT MOST 1048576: true; the input reads as it did. -/
def layoutBeginsUptoRow : OpenClaim := { program := "ytckhgdjcofpijab", sum := "2a3280113597a99092813a4f4cf9bd24e3eb62f3fe41e4af3d2fc51ae8c4ef79", func := "intaglio/intagliolaw05.LayoutBegins", spec := "layoutBegins", inPlace := ["internal/bytealg.IndexByteString"], unfollowed := true, recurses := true, apart := false, narrowed := true }
def LayoutBeginsUptoSaid : Prop := layoutBeginsUptoRow.holds Try.pinned (OpenSpec.upto layoutBeginsSpec)

/-- 'intagliolaw09.IdsChecks', WHERE WHAT IT READS IS OF BULK AT MOST 1048576: true; the input reads as it did. -/
def idsChecksUptoRow : OpenClaim := { program := "ytckhgdjcofpijab", sum := "2a3280113597a99092813a4f4cf9bd24e3eb62f3fe41e4af3d2fc51ae8c4ef79", func := "intaglio/intagliolaw09.IdsChecks", spec := "idsChecks", inPlace := ["internal/bytealg.IndexByteString"], unfollowed := true, recurses := true, apart := false, narrowed := true }
def IdsChecksUptoSaid : Prop := idsChecksUptoRow.holds Try.pinned (OpenSpec.upto idsChecksSpec)

/-- 'intagliolaw09.IdsAlikes', WHERE WHAT IT READS IS OF BULK AT MOST 1048576: true; the input reads as it did. -/
def idsAlikesUptoRow : OpenClaim := { program := "ytckhgdjcofpijab", sum := "2a3280113597a99092813a4f4cf9bd24e3eb62f3fe41e4af3d2fc51ae8c4ef79", func := "intaglio/intagliolaw09.IdsAlikes", spec := "idsAlikes", inPlace := ["internal/bytealg.IndexByteString"], unfollowed := true, recurses := true, apart := false, narrowed := true }
def IdsAlikesUptoSaid : Prop := idsAlikesUptoRow.holds Try.pinned (OpenSpec.upto idsAlikesSpec)

end Rows
end Go.Proofs.Ytckhgdjcofpijab
