/-
  No cell of these rows narrows 'for every input' (looked for: loops, veiled, ifaces, maps, wideKeys, modest, calm, conditions, laid).
  DERIVED. THE GIVEN ROWS OF THIS SEAT. 3 by the template 'for every input the law returns true; each argument reads behind the call as it read before'; 0 by the template 'total and deterministic' (their statements: YtjckgnpbjekhbaaTotals.lean).
  GIVEN WITH THE SEED: the statements are not yours to turn. If you find one false, say at which input.
  Laid BY PROGRAM, IN A SANDBOX (cutbox-rows.mjs): the forced cells as the released guide's own fill.sh prints them over the translation 48ab108748655cc7… (all of the seat's roots in one cut). By AI agents, Wed Nov 11 2026. No macro, syntax, notation, axiom, sorry.
-/
import Derived.Test.YtjckgnpbjekhbaaChecked
import GoSem.Claim
import GoSem.ClaimJoined
import GoSem.ClaimMapViews
import Derived.JoinedTies
import Derived.KernelRfl
namespace Go.Proofs.Ytjckgnpbjekhbaa
/- THE CELL 'sum', in the pinned program and in every row, IS THE sha256 OF THE DUMP (.gsa) THAT YtjckgnpbjekhbaaProg.lean LOADS. Nothing in Lean hashes anything: it is a label: what it is worth is what the hold of that sum in a sandbox is worth. -/
noncomputable def Try.pinned : Pinned := { name := "ytjckgnpbjekhbaa", sum := "48ab108748655cc7da81cfa747aded137776551154a88707f5e468c9c83317c6", checked := Try.checked }
namespace Rows
def none {H : Type} : Left H := { results := [], args := [] }

/-- 'intagliolaw09.IdsAlikes': WHATEVER THE INPUT: true; the input reads as it did. -/
def idsAlikesSpec : ChangeSpec := { name := "idsAlikes", fn := fun _ => fun
  | [d1, d2] => { results := [.lit (.bool true)], args := [d1, d2] }
  | _ => none }
def idsAlikesRow : OpenClaim := { program := "ytjckgnpbjekhbaa", sum := "48ab108748655cc7da81cfa747aded137776551154a88707f5e468c9c83317c6", func := "intaglio/intagliolaw09.IdsAlikes", spec := "idsAlikes", inPlace := ["internal/bytealg.IndexByteString"], unfollowed := true, recurses := true, apart := false }
def IdsAlikesSaid : Prop := idsAlikesRow.holds Try.pinned (OpenSpec.ofChange idsAlikesSpec)

/-- ITS FALSE NEIGHBOUR: 'it returns false'. Refute it at one input. -/
def idsAlikesWrong : ChangeSpec := { name := "idsAlikes", fn := fun _ => fun
  | [d1, d2] => { results := [.lit (.bool false)], args := [d1, d2] }
  | _ => none }
def IdsAlikesWrongFalsely : Prop := idsAlikesRow.holds Try.pinned (OpenSpec.ofChange idsAlikesWrong)

/-- 'intagliolaw09.IdsBack': WHATEVER THE INPUT: true; the input reads as it did. -/
def idsBackSpec : ChangeSpec := { name := "idsBack", fn := fun _ => fun
  | [d1, d2] => { results := [.lit (.bool true)], args := [d1, d2] }
  | _ => none }
def idsBackRow : OpenClaim := { program := "ytjckgnpbjekhbaa", sum := "48ab108748655cc7da81cfa747aded137776551154a88707f5e468c9c83317c6", func := "intaglio/intagliolaw09.IdsBack", spec := "idsBack", inPlace := ["internal/bytealg.IndexByteString"], unfollowed := true, recurses := true, apart := false }
def IdsBackSaid : Prop := idsBackRow.holds Try.pinned (OpenSpec.ofChange idsBackSpec)

/-- ITS FALSE NEIGHBOUR: 'it returns false'. Refute it at one input. -/
def idsBackWrong : ChangeSpec := { name := "idsBack", fn := fun _ => fun
  | [d1, d2] => { results := [.lit (.bool false)], args := [d1, d2] }
  | _ => none }
def IdsBackWrongFalsely : Prop := idsBackRow.holds Try.pinned (OpenSpec.ofChange idsBackWrong)

/-- 'intagliolaw09.IdsOne': WHATEVER THE INPUT: true; the input reads as it did. -/
def idsOneSpec : ChangeSpec := { name := "idsOne", fn := fun _ => fun
  | [d1, d2] => { results := [.lit (.bool true)], args := [d1, d2] }
  | _ => none }
def idsOneRow : OpenClaim := { program := "ytjckgnpbjekhbaa", sum := "48ab108748655cc7da81cfa747aded137776551154a88707f5e468c9c83317c6", func := "intaglio/intagliolaw09.IdsOne", spec := "idsOne", inPlace := ["internal/bytealg.IndexByteString"], unfollowed := true, recurses := true, apart := false }
def IdsOneSaid : Prop := idsOneRow.holds Try.pinned (OpenSpec.ofChange idsOneSpec)

/-- ITS FALSE NEIGHBOUR: 'it returns false'. Refute it at one input. -/
def idsOneWrong : ChangeSpec := { name := "idsOne", fn := fun _ => fun
  | [d1, d2] => { results := [.lit (.bool false)], args := [d1, d2] }
  | _ => none }
def IdsOneWrongFalsely : Prop := idsOneRow.holds Try.pinned (OpenSpec.ofChange idsOneWrong)

/- THE SECOND FORM. 'bulk': how many values and letters a reading holds, each counted each time it is reached (what is shared counts as often as it is met; a slice's spare places count too). A statement '..UptoSaid' is the law's where the arguments, and the package variables that the reading takes, are together of bulk at most 1048576: NARROWER than '..Said'. Prove '..Said' where nothing that the law and all that it calls make is longer than what came in: it says more and counts as full. Else prove '..UptoSaid'. A law counts once. -/
mutual
def uptoBulk {H : Type} : DataW H → Nat
  | .lit (.string bytes) => bytes.length + 1
  | .lit _ => 1
  | .nil => 1
  | .ptr d => uptoBulk d + 1
  | .slice elems spare => uptoBulkAll elems + uptoBulkAll spare + 1
  | .agg parts => uptoBulkAll parts + 1
  | .iface _ d => uptoBulk d + 1
  | .map entries => uptoBulkEntries entries + 1
  | .held _ => 1
def uptoBulkAll {H : Type} : List (DataW H) → Nat
  | [] => 0
  | d :: r => uptoBulk d + uptoBulkAll r
def uptoBulkEntries {H : Type} : List (Lit × DataW H) → Nat
  | [] => 0
  | x :: r => uptoBulkEntry x + uptoBulkEntries r
def uptoBulkEntry {H : Type} : Lit × DataW H → Nat
  | (.string bytes, d) => bytes.length + uptoBulk d + 1
  | (_, d) => uptoBulk d + 1
 end
def uptoSmall : (H : Type) → List (DataW H) → Bool := fun _ ds => decide (uptoBulkAll ds ≤ 1048576)
def OpenSpec.upto (s : _root_.Go.ChangeSpec) : _root_.Go.OpenSpec := { _root_.Go.OpenSpec.ofChange s with cond := some uptoSmall }

/-- 'intagliolaw09.IdsAlikes', WHERE WHAT IT READS IS OF BULK AT MOST 1048576: true; the input reads as it did. -/
def idsAlikesUptoRow : OpenClaim := { program := "ytjckgnpbjekhbaa", sum := "48ab108748655cc7da81cfa747aded137776551154a88707f5e468c9c83317c6", func := "intaglio/intagliolaw09.IdsAlikes", spec := "idsAlikes", inPlace := ["internal/bytealg.IndexByteString"], unfollowed := true, recurses := true, apart := false, narrowed := true }
def IdsAlikesUptoSaid : Prop := idsAlikesUptoRow.holds Try.pinned (OpenSpec.upto idsAlikesSpec)

/-- 'intagliolaw09.IdsBack', WHERE WHAT IT READS IS OF BULK AT MOST 1048576: true; the input reads as it did. -/
def idsBackUptoRow : OpenClaim := { program := "ytjckgnpbjekhbaa", sum := "48ab108748655cc7da81cfa747aded137776551154a88707f5e468c9c83317c6", func := "intaglio/intagliolaw09.IdsBack", spec := "idsBack", inPlace := ["internal/bytealg.IndexByteString"], unfollowed := true, recurses := true, apart := false, narrowed := true }
def IdsBackUptoSaid : Prop := idsBackUptoRow.holds Try.pinned (OpenSpec.upto idsBackSpec)

/-- 'intagliolaw09.IdsOne', WHERE WHAT IT READS IS OF BULK AT MOST 1048576: true; the input reads as it did. -/
def idsOneUptoRow : OpenClaim := { program := "ytjckgnpbjekhbaa", sum := "48ab108748655cc7da81cfa747aded137776551154a88707f5e468c9c83317c6", func := "intaglio/intagliolaw09.IdsOne", spec := "idsOne", inPlace := ["internal/bytealg.IndexByteString"], unfollowed := true, recurses := true, apart := false, narrowed := true }
def IdsOneUptoSaid : Prop := idsOneUptoRow.holds Try.pinned (OpenSpec.upto idsOneSpec)

end Rows
end Go.Proofs.Ytjckgnpbjekhbaa
