/-
  No cell of these rows narrows 'for every input' (looked for: loops, veiled, ifaces, maps, wideKeys, modest, calm, conditions, laid).
  DERIVED. THE GIVEN ROWS OF THIS SEAT. 5 by the template 'for every input the law returns true; each argument reads behind the call as it read before'; 0 by the template 'total and deterministic' (their statements: YtpdjmapmpicgjaaTotals.lean).
  GIVEN WITH THE SEED: the statements are not yours to turn. If you find one false, say at which input.
  Laid BY PROGRAM, IN A SANDBOX (cutbox-rows.mjs): the forced cells as the released guide's own fill.sh prints them over the translation 76ca8fdcef4e3ed7… (all of the seat's roots in one cut). By AI agents, Wed Nov 11 2026. No macro, syntax, notation, axiom, sorry.
-/
import Derived.Test.YtpdjmapmpicgjaaChecked
import GoSem.Claim
import GoSem.ClaimJoined
import GoSem.ClaimMapViews
import Derived.JoinedTies
import Derived.KernelRfl
namespace Go.Proofs.Ytpdjmapmpicgjaa
/- THE CELL 'sum', in the pinned program and in every row, IS THE sha256 OF THE DUMP (.gsa) THAT YtpdjmapmpicgjaaProg.lean LOADS. Nothing in Lean hashes anything: it is a label: what it is worth is what the hold of that sum in a sandbox is worth. -/
noncomputable def Try.pinned : Pinned := { name := "ytpdjmapmpicgjaa", sum := "76ca8fdcef4e3ed745db4cf1ab580fd6035a78102378d49899710bb61f1480af", checked := Try.checked }
namespace Rows
def none {H : Type} : Left H := { results := [], args := [] }

/-- 'intagliolaw14.GraphOf': WHATEVER THE INPUT: true; the input reads as it did. -/
def graphOfSpec : ChangeSpec := { name := "graphOf", fn := fun _ => fun
  | [d] => { results := [.lit (.bool true)], args := [d] }
  | _ => none }
def graphOfRow : OpenClaim := { program := "ytpdjmapmpicgjaa", sum := "76ca8fdcef4e3ed745db4cf1ab580fd6035a78102378d49899710bb61f1480af", func := "intaglio/intagliolaw14.GraphOf", spec := "graphOf", unfollowed := true, recurses := true, apart := false }
def GraphOfSaid : Prop := graphOfRow.holds Try.pinned (OpenSpec.ofChange graphOfSpec)

/-- ITS FALSE NEIGHBOUR: 'it returns false'. Refute it at one input. -/
def graphOfWrong : ChangeSpec := { name := "graphOf", fn := fun _ => fun
  | [d] => { results := [.lit (.bool false)], args := [d] }
  | _ => none }
def GraphOfWrongFalsely : Prop := graphOfRow.holds Try.pinned (OpenSpec.ofChange graphOfWrong)

/-- 'intagliolaw14.GraphWalk': WHATEVER THE INPUT: true; the input reads as it did. -/
def graphWalkSpec : ChangeSpec := { name := "graphWalk", fn := fun _ => fun
  | [d1, d2] => { results := [.lit (.bool true)], args := [d1, d2] }
  | _ => none }
def graphWalkRow : OpenClaim := { program := "ytpdjmapmpicgjaa", sum := "76ca8fdcef4e3ed745db4cf1ab580fd6035a78102378d49899710bb61f1480af", func := "intaglio/intagliolaw14.GraphWalk", spec := "graphWalk", unfollowed := true, recurses := true, apart := false }
def GraphWalkSaid : Prop := graphWalkRow.holds Try.pinned (OpenSpec.ofChange graphWalkSpec)

/-- ITS FALSE NEIGHBOUR: 'it returns false'. Refute it at one input. -/
def graphWalkWrong : ChangeSpec := { name := "graphWalk", fn := fun _ => fun
  | [d1, d2] => { results := [.lit (.bool false)], args := [d1, d2] }
  | _ => none }
def GraphWalkWrongFalsely : Prop := graphWalkRow.holds Try.pinned (OpenSpec.ofChange graphWalkWrong)

/-- 'intagliolaw14.GraphTargets': WHATEVER THE INPUT: true; the input reads as it did. -/
def graphTargetsSpec : ChangeSpec := { name := "graphTargets", fn := fun _ => fun
  | [d] => { results := [.lit (.bool true)], args := [d] }
  | _ => none }
def graphTargetsRow : OpenClaim := { program := "ytpdjmapmpicgjaa", sum := "76ca8fdcef4e3ed745db4cf1ab580fd6035a78102378d49899710bb61f1480af", func := "intaglio/intagliolaw14.GraphTargets", spec := "graphTargets", unfollowed := true, recurses := true, apart := false }
def GraphTargetsSaid : Prop := graphTargetsRow.holds Try.pinned (OpenSpec.ofChange graphTargetsSpec)

/-- ITS FALSE NEIGHBOUR: 'it returns false'. Refute it at one input. -/
def graphTargetsWrong : ChangeSpec := { name := "graphTargets", fn := fun _ => fun
  | [d] => { results := [.lit (.bool false)], args := [d] }
  | _ => none }
def GraphTargetsWrongFalsely : Prop := graphTargetsRow.holds Try.pinned (OpenSpec.ofChange graphTargetsWrong)

/-- 'intagliolaw14.GraphNil': WHATEVER THE INPUT: true; the input reads as it did. -/
def graphNilSpec : ChangeSpec := { name := "graphNil", fn := fun _ => fun
  | [d] => { results := [.lit (.bool true)], args := [d] }
  | _ => none }
def graphNilRow : OpenClaim := { program := "ytpdjmapmpicgjaa", sum := "76ca8fdcef4e3ed745db4cf1ab580fd6035a78102378d49899710bb61f1480af", func := "intaglio/intagliolaw14.GraphNil", spec := "graphNil", unfollowed := true, recurses := true, apart := false }
def GraphNilSaid : Prop := graphNilRow.holds Try.pinned (OpenSpec.ofChange graphNilSpec)

/-- ITS FALSE NEIGHBOUR: 'it returns false'. Refute it at one input. -/
def graphNilWrong : ChangeSpec := { name := "graphNil", fn := fun _ => fun
  | [d] => { results := [.lit (.bool false)], args := [d] }
  | _ => none }
def GraphNilWrongFalsely : Prop := graphNilRow.holds Try.pinned (OpenSpec.ofChange graphNilWrong)

/-- 'intagliolaw14.GraphEdges': WHATEVER THE INPUT: true; the input reads as it did. -/
def graphEdgesSpec : ChangeSpec := { name := "graphEdges", fn := fun _ => fun
  | [d] => { results := [.lit (.bool true)], args := [d] }
  | _ => none }
def graphEdgesRow : OpenClaim := { program := "ytpdjmapmpicgjaa", sum := "76ca8fdcef4e3ed745db4cf1ab580fd6035a78102378d49899710bb61f1480af", func := "intaglio/intagliolaw14.GraphEdges", spec := "graphEdges", unfollowed := true, recurses := true, apart := false }
def GraphEdgesSaid : Prop := graphEdgesRow.holds Try.pinned (OpenSpec.ofChange graphEdgesSpec)

/-- ITS FALSE NEIGHBOUR: 'it returns false'. Refute it at one input. -/
def graphEdgesWrong : ChangeSpec := { name := "graphEdges", fn := fun _ => fun
  | [d] => { results := [.lit (.bool false)], args := [d] }
  | _ => none }
def GraphEdgesWrongFalsely : Prop := graphEdgesRow.holds Try.pinned (OpenSpec.ofChange graphEdgesWrong)

/- THE SECOND FORM. 'bulk': how many values and letters a reading holds, each counted each time it is reached (what is shared counts as often as it is met; a slice's spare places count too). A statement '..UptoSaid' is the law's where the arguments, and the package variables that the reading takes, are together of bulk at most 1048576: NARROWER than '..Said'. Prove '..Said' where nothing that the law and all that it calls make is longer than what came in: it says more and counts as full. Else prove '..UptoSaid'. A law counts once. -/
mutual
def uptoBulk {H : Type} : DataW H → Nat
  | .lit (.string bytes) => bytes.length + 1
  | .lit _ => 1
  | .nil => 1
  | .ptr d => uptoBulk d + 1
  | .slice elems spare => uptoBulkAll elems + uptoBulkAll spare + 1
  | .agg parts => uptoBulkAll parts + 1
  | .iface _ d => uptoBulk d + 1
  | .map entries => uptoBulkEntries entries + 1
  | .held _ => 1
def uptoBulkAll {H : Type} : List (DataW H) → Nat
  | [] => 0
  | d :: r => uptoBulk d + uptoBulkAll r
def uptoBulkEntries {H : Type} : List (Lit × DataW H) → Nat
  | [] => 0
  | x :: r => uptoBulkEntry x + uptoBulkEntries r
def uptoBulkEntry {H : Type} : Lit × DataW H → Nat
  | (.string bytes, d) => bytes.length + uptoBulk d + 1
  | (_, d) => uptoBulk d + 1
 end
def uptoSmall : (H : Type) → List (DataW H) → Bool := fun _ ds => decide (uptoBulkAll ds ≤ 1048576)
def OpenSpec.upto (s : _root_.Go.ChangeSpec) : _root_.Go.OpenSpec := { _root_.Go.OpenSpec.ofChange s with cond := some uptoSmall }

/-- 'intagliolaw14.GraphOf', WHERE WHAT IT READS IS OF BULK AT MOST 1048576: true; the input reads as it did. -/
def graphOfUptoRow : OpenClaim := { program := "ytpdjmapmpicgjaa", sum := "76ca8fdcef4e3ed745db4cf1ab580fd6035a78102378d49899710bb61f1480af", func := "intaglio/intagliolaw14.GraphOf", spec := "graphOf", unfollowed := true, recurses := true, apart := false, narrowed := true }
def GraphOfUptoSaid : Prop := graphOfUptoRow.holds Try.pinned (OpenSpec.upto graphOfSpec)

/-- 'intagliolaw14.GraphWalk', WHERE WHAT IT READS IS OF BULK AT MOST 1048576: true; the input reads as it did. -/
def graphWalkUptoRow : OpenClaim := { program := "ytpdjmapmpicgjaa", sum := "76ca8fdcef4e3ed745db4cf1ab580fd6035a78102378d49899710bb61f1480af", func := "intaglio/intagliolaw14.GraphWalk", spec := "graphWalk", unfollowed := true, recurses := true, apart := false, narrowed := true }
def GraphWalkUptoSaid : Prop := graphWalkUptoRow.holds Try.pinned (OpenSpec.upto graphWalkSpec)

/-- 'intagliolaw14.GraphTargets', WHERE WHAT IT READS IS OF BULK AT MOST 1048576: true; the input reads as it did. -/
def graphTargetsUptoRow : OpenClaim := { program := "ytpdjmapmpicgjaa", sum := "76ca8fdcef4e3ed745db4cf1ab580fd6035a78102378d49899710bb61f1480af", func := "intaglio/intagliolaw14.GraphTargets", spec := "graphTargets", unfollowed := true, recurses := true, apart := false, narrowed := true }
def GraphTargetsUptoSaid : Prop := graphTargetsUptoRow.holds Try.pinned (OpenSpec.upto graphTargetsSpec)

/-- 'intagliolaw14.GraphNil', WHERE WHAT IT READS IS OF BULK AT MOST 1048576: true; the input reads as it did. -/
def graphNilUptoRow : OpenClaim := { program := "ytpdjmapmpicgjaa", sum := "76ca8fdcef4e3ed745db4cf1ab580fd6035a78102378d49899710bb61f1480af", func := "intaglio/intagliolaw14.GraphNil", spec := "graphNil", unfollowed := true, recurses := true, apart := false, narrowed := true }
def GraphNilUptoSaid : Prop := graphNilUptoRow.holds Try.pinned (OpenSpec.upto graphNilSpec)

/-- 'intagliolaw14.GraphEdges', WHERE WHAT IT READS IS OF BULK AT MOST 1048576: true; the input reads as it did. -/
def graphEdgesUptoRow : OpenClaim := { program := "ytpdjmapmpicgjaa", sum := "76ca8fdcef4e3ed745db4cf1ab580fd6035a78102378d49899710bb61f1480af", func := "intaglio/intagliolaw14.GraphEdges", spec := "graphEdges", unfollowed := true, recurses := true, apart := false, narrowed := true }
def GraphEdgesUptoSaid : Prop := graphEdgesUptoRow.holds Try.pinned (OpenSpec.upto graphEdgesSpec)

end Rows
end Go.Proofs.Ytpdjmapmpicgjaa
