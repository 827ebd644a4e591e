/-
  No cell of these rows narrows 'for every input' (looked for: loops, veiled, ifaces, maps, wideKeys, modest, calm, conditions, laid).
  DERIVED. THE GIVEN ROWS OF THIS SEAT. 6 by the template 'for every input the law returns true; each argument reads behind the call as it read before'; 0 by the template 'total and deterministic' (their statements: YtccllonkhklldacTotals.lean).
  GIVEN WITH THE SEED: the statements are not yours to turn. If you find one false, say at which input.
  Laid BY PROGRAM, IN A SANDBOX (cutbox-rows.mjs): the forced cells as the released guide's own fill.sh prints them over the translation 5e666914f5c9c72f… (all of the seat's roots in one cut). By AI agents, Wed Nov 11 2026. No macro, syntax, notation, axiom, sorry.
-/
import Derived.Test.YtccllonkhklldacChecked
import GoSem.Claim
import GoSem.ClaimJoined
import GoSem.ClaimMapViews
import Derived.JoinedTies
import Derived.KernelRfl
namespace Go.Proofs.Ytccllonkhklldac
/- THE CELL 'sum', in the pinned program and in every row, IS THE sha256 OF THE DUMP (.gsa) THAT YtccllonkhklldacProg.lean LOADS. Nothing in Lean hashes anything: it is a label: what it is worth is what the hold of that sum in a sandbox is worth. -/
noncomputable def Try.pinned : Pinned := { name := "ytccllonkhklldac", sum := "5e666914f5c9c72f05586964291ece972745c6a3472895b1a702a4c51204ea4c", checked := Try.checked }
namespace Rows
def none {H : Type} : Left H := { results := [], args := [] }

/-- 'intagliolaw05.LayoutParts': WHATEVER THE INPUT: true; the input reads as it did. -/
def layoutPartsSpec : ChangeSpec := { name := "layoutParts", fn := fun _ => fun
  | [d] => { results := [.lit (.bool true)], args := [d] }
  | _ => none }
def layoutPartsRow : OpenClaim := { program := "ytccllonkhklldac", sum := "5e666914f5c9c72f05586964291ece972745c6a3472895b1a702a4c51204ea4c", func := "intaglio/intagliolaw05.LayoutParts", spec := "layoutParts", inPlace := ["internal/bytealg.IndexByteString"], unfollowed := true, recurses := true, apart := false }
def LayoutPartsSaid : Prop := layoutPartsRow.holds Try.pinned (OpenSpec.ofChange layoutPartsSpec)

/-- ITS FALSE NEIGHBOUR: 'it returns false'. Refute it at one input. -/
def layoutPartsWrong : ChangeSpec := { name := "layoutParts", fn := fun _ => fun
  | [d] => { results := [.lit (.bool false)], args := [d] }
  | _ => none }
def LayoutPartsWrongFalsely : Prop := layoutPartsRow.holds Try.pinned (OpenSpec.ofChange layoutPartsWrong)

/-- 'intagliolaw05.LayoutCuts': WHATEVER THE INPUT: true; the input reads as it did. -/
def layoutCutsSpec : ChangeSpec := { name := "layoutCuts", fn := fun _ => fun
  | [d] => { results := [.lit (.bool true)], args := [d] }
  | _ => none }
def layoutCutsRow : OpenClaim := { program := "ytccllonkhklldac", sum := "5e666914f5c9c72f05586964291ece972745c6a3472895b1a702a4c51204ea4c", func := "intaglio/intagliolaw05.LayoutCuts", spec := "layoutCuts", inPlace := ["internal/bytealg.IndexByteString"], unfollowed := true, recurses := true, apart := false }
def LayoutCutsSaid : Prop := layoutCutsRow.holds Try.pinned (OpenSpec.ofChange layoutCutsSpec)

/-- ITS FALSE NEIGHBOUR: 'it returns false'. Refute it at one input. -/
def layoutCutsWrong : ChangeSpec := { name := "layoutCuts", fn := fun _ => fun
  | [d] => { results := [.lit (.bool false)], args := [d] }
  | _ => none }
def LayoutCutsWrongFalsely : Prop := layoutCutsRow.holds Try.pinned (OpenSpec.ofChange layoutCutsWrong)

/-- 'intagliolaw05.LayoutOwns': WHATEVER THE INPUT: true; the input reads as it did. -/
def layoutOwnsSpec : ChangeSpec := { name := "layoutOwns", fn := fun _ => fun
  | [d1, d2] => { results := [.lit (.bool true)], args := [d1, d2] }
  | _ => none }
def layoutOwnsRow : OpenClaim := { program := "ytccllonkhklldac", sum := "5e666914f5c9c72f05586964291ece972745c6a3472895b1a702a4c51204ea4c", func := "intaglio/intagliolaw05.LayoutOwns", spec := "layoutOwns", inPlace := ["internal/bytealg.IndexByteString"], unfollowed := true, recurses := true, apart := false }
def LayoutOwnsSaid : Prop := layoutOwnsRow.holds Try.pinned (OpenSpec.ofChange layoutOwnsSpec)

/-- ITS FALSE NEIGHBOUR: 'it returns false'. Refute it at one input. -/
def layoutOwnsWrong : ChangeSpec := { name := "layoutOwns", fn := fun _ => fun
  | [d1, d2] => { results := [.lit (.bool false)], args := [d1, d2] }
  | _ => none }
def LayoutOwnsWrongFalsely : Prop := layoutOwnsRow.holds Try.pinned (OpenSpec.ofChange layoutOwnsWrong)

/-- 'intagliolaw05.LayoutWhole': WHATEVER THE INPUT: true; the input reads as it did. -/
def layoutWholeSpec : ChangeSpec := { name := "layoutWhole", fn := fun _ => fun
  | [d] => { results := [.lit (.bool true)], args := [d] }
  | _ => none }
def layoutWholeRow : OpenClaim := { program := "ytccllonkhklldac", sum := "5e666914f5c9c72f05586964291ece972745c6a3472895b1a702a4c51204ea4c", func := "intaglio/intagliolaw05.LayoutWhole", spec := "layoutWhole", inPlace := ["internal/bytealg.IndexByteString"], unfollowed := true, recurses := true, apart := false }
def LayoutWholeSaid : Prop := layoutWholeRow.holds Try.pinned (OpenSpec.ofChange layoutWholeSpec)

/-- ITS FALSE NEIGHBOUR: 'it returns false'. Refute it at one input. -/
def layoutWholeWrong : ChangeSpec := { name := "layoutWhole", fn := fun _ => fun
  | [d] => { results := [.lit (.bool false)], args := [d] }
  | _ => none }
def LayoutWholeWrongFalsely : Prop := layoutWholeRow.holds Try.pinned (OpenSpec.ofChange layoutWholeWrong)

/-- 'intagliolaw05.LayoutBegins': WHATEVER THE INPUT: true; the input reads as it did. -/
def layoutBeginsSpec : ChangeSpec := { name := "layoutBegins", fn := fun _ => fun
  | [d] => { results := [.lit (.bool true)], args := [d] }
  | _ => none }
def layoutBeginsRow : OpenClaim := { program := "ytccllonkhklldac", sum := "5e666914f5c9c72f05586964291ece972745c6a3472895b1a702a4c51204ea4c", func := "intaglio/intagliolaw05.LayoutBegins", spec := "layoutBegins", inPlace := ["internal/bytealg.IndexByteString"], unfollowed := true, recurses := true, apart := false }
def LayoutBeginsSaid : Prop := layoutBeginsRow.holds Try.pinned (OpenSpec.ofChange layoutBeginsSpec)

/-- ITS FALSE NEIGHBOUR: 'it returns false'. Refute it at one input. -/
def layoutBeginsWrong : ChangeSpec := { name := "layoutBegins", fn := fun _ => fun
  | [d] => { results := [.lit (.bool false)], args := [d] }
  | _ => none }
def LayoutBeginsWrongFalsely : Prop := layoutBeginsRow.holds Try.pinned (OpenSpec.ofChange layoutBeginsWrong)

/-- 'intagliolaw04.CodeInst': WHATEVER THE INPUT: true; the input reads as it did. -/
def codeInstSpec : ChangeSpec := { name := "codeInst", fn := fun _ => fun
  | [d1, d2] => { results := [.lit (.bool true)], args := [d1, d2] }
  | _ => none }
def codeInstRow : OpenClaim := { program := "ytccllonkhklldac", sum := "5e666914f5c9c72f05586964291ece972745c6a3472895b1a702a4c51204ea4c", func := "intaglio/intagliolaw04.CodeInst", spec := "codeInst", inPlace := ["internal/bytealg.IndexByteString"], unfollowed := true, recurses := true, apart := false }
def CodeInstSaid : Prop := codeInstRow.holds Try.pinned (OpenSpec.ofChange codeInstSpec)

/-- ITS FALSE NEIGHBOUR: 'it returns false'. Refute it at one input. -/
def codeInstWrong : ChangeSpec := { name := "codeInst", fn := fun _ => fun
  | [d1, d2] => { results := [.lit (.bool false)], args := [d1, d2] }
  | _ => none }
def CodeInstWrongFalsely : Prop := codeInstRow.holds Try.pinned (OpenSpec.ofChange codeInstWrong)

/- THE SECOND FORM. 'bulk': how many values and letters a reading holds, each counted each time it is reached (what is shared counts as often as it is met; a slice's spare places count too). A statement '..UptoSaid' is the law's where the arguments, and the package variables that the reading takes, are together of bulk at most 1048576: NARROWER than '..Said'. Prove '..Said' where nothing that the law and all that it calls make is longer than what came in: it says more and counts as full. Else prove '..UptoSaid'. A law counts once. -/
mutual
def uptoBulk {H : Type} : DataW H → Nat
  | .lit (.string bytes) => bytes.length + 1
  | .lit _ => 1
  | .nil => 1
  | .ptr d => uptoBulk d + 1
  | .slice elems spare => uptoBulkAll elems + uptoBulkAll spare + 1
  | .agg parts => uptoBulkAll parts + 1
  | .iface _ d => uptoBulk d + 1
  | .map entries => uptoBulkEntries entries + 1
  | .held _ => 1
def uptoBulkAll {H : Type} : List (DataW H) → Nat
  | [] => 0
  | d :: r => uptoBulk d + uptoBulkAll r
def uptoBulkEntries {H : Type} : List (Lit × DataW H) → Nat
  | [] => 0
  | x :: r => uptoBulkEntry x + uptoBulkEntries r
def uptoBulkEntry {H : Type} : Lit × DataW H → Nat
  | (.string bytes, d) => bytes.length + uptoBulk d + 1
  | (_, d) => uptoBulk d + 1
 end
def uptoSmall : (H : Type) → List (DataW H) → Bool := fun _ ds => decide (uptoBulkAll ds ≤ 1048576)
def OpenSpec.upto (s : _root_.Go.ChangeSpec) : _root_.Go.OpenSpec := { _root_.Go.OpenSpec.ofChange s with cond := some uptoSmall }

/-- 'intagliolaw05.LayoutParts', WHERE WHAT IT READS IS OF BULK AT MOST 1048576: true; the input reads as it did. -/
def layoutPartsUptoRow : OpenClaim := { program := "ytccllonkhklldac", sum := "5e666914f5c9c72f05586964291ece972745c6a3472895b1a702a4c51204ea4c", func := "intaglio/intagliolaw05.LayoutParts", spec := "layoutParts", inPlace := ["internal/bytealg.IndexByteString"], unfollowed := true, recurses := true, apart := false, narrowed := true }
def LayoutPartsUptoSaid : Prop := layoutPartsUptoRow.holds Try.pinned (OpenSpec.upto layoutPartsSpec)

/-- 'intagliolaw05.LayoutCuts', WHERE WHAT IT READS IS OF BULK AT MOST 1048576: true; the input reads as it did. -/
def layoutCutsUptoRow : OpenClaim := { program := "ytccllonkhklldac", sum := "5e666914f5c9c72f05586964291ece972745c6a3472895b1a702a4c51204ea4c", func := "intaglio/intagliolaw05.LayoutCuts", spec := "layoutCuts", inPlace := ["internal/bytealg.IndexByteString"], unfollowed := true, recurses := true, apart := false, narrowed := true }
def LayoutCutsUptoSaid : Prop := layoutCutsUptoRow.holds Try.pinned (OpenSpec.upto layoutCutsSpec)

/-- 'intagliolaw05.LayoutOwns', WHERE WHAT IT READS IS OF BULK AT MOST 1048576: true; the input reads as it did. -/
def layoutOwnsUptoRow : OpenClaim := { program := "ytccllonkhklldac", sum := "5e666914f5c9c72f05586964291ece972745c6a3472895b1a702a4c51204ea4c", func := "intaglio/intagliolaw05.LayoutOwns", spec := "layoutOwns", inPlace := ["internal/bytealg.IndexByteString"], unfollowed := true, recurses := true, apart := false, narrowed := true }
def LayoutOwnsUptoSaid : Prop := layoutOwnsUptoRow.holds Try.pinned (OpenSpec.upto layoutOwnsSpec)

/-- 'intagliolaw05.LayoutWhole', WHERE WHAT IT READS IS OF BULK AT MOST 1048576: true; the input reads as it did. -/
def layoutWholeUptoRow : OpenClaim := { program := "ytccllonkhklldac", sum := "5e666914f5c9c72f05586964291ece972745c6a3472895b1a702a4c51204ea4c", func := "intaglio/intagliolaw05.LayoutWhole", spec := "layoutWhole", inPlace := ["internal/bytealg.IndexByteString"], unfollowed := true, recurses := true, apart := false, narrowed := true }
def LayoutWholeUptoSaid : Prop := layoutWholeUptoRow.holds Try.pinned (OpenSpec.upto layoutWholeSpec)

/-- 'intagliolaw05.LayoutBegins', WHERE WHAT IT READS IS OF BULK AT MOST 1048576: true; the input reads as it did. -/
def layoutBeginsUptoRow : OpenClaim := { program := "ytccllonkhklldac", sum := "5e666914f5c9c72f05586964291ece972745c6a3472895b1a702a4c51204ea4c", func := "intaglio/intagliolaw05.LayoutBegins", spec := "layoutBegins", inPlace := ["internal/bytealg.IndexByteString"], unfollowed := true, recurses := true, apart := false, narrowed := true }
def LayoutBeginsUptoSaid : Prop := layoutBeginsUptoRow.holds Try.pinned (OpenSpec.upto layoutBeginsSpec)

/-- 'intagliolaw04.CodeInst', WHERE WHAT IT READS IS OF BULK AT MOST 1048576: true; the input reads as it did. -/
def codeInstUptoRow : OpenClaim := { program := "ytccllonkhklldac", sum := "5e666914f5c9c72f05586964291ece972745c6a3472895b1a702a4c51204ea4c", func := "intaglio/intagliolaw04.CodeInst", spec := "codeInst", inPlace := ["internal/bytealg.IndexByteString"], unfollowed := true, recurses := true, apart := false, narrowed := true }
def CodeInstUptoSaid : Prop := codeInstUptoRow.holds Try.pinned (OpenSpec.upto codeInstSpec)

end Rows
end Go.Proofs.Ytccllonkhklldac
