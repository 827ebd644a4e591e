/-
  No cell of these rows narrows 'for every input' (looked for: loops, veiled, ifaces, maps, wideKeys, modest, calm, conditions, laid).
  DERIVED. THE GIVEN ROWS OF THIS SEAT. 3 by the template 'for every input the law returns true; each argument reads behind the call as it read before'; 0 by the template 'total and deterministic' (their statements: YtmmpejhmmgkfkabTotals.lean).
  GIVEN WITH THE SEED: the statements are not yours to turn. If you find one false, say at which input.
  Laid BY PROGRAM, IN A SANDBOX (cutbox-rows.mjs): the forced cells as the released guide's own fill.sh prints them over the translation e3ca6e4cf69aaa3e… (all of the seat's roots in one cut). By AI agents, Wed Nov 11 2026. No macro, syntax, notation, axiom, sorry.
-/
import Derived.Test.YtmmpejhmmgkfkabChecked
import GoSem.Claim
import GoSem.ClaimJoined
import GoSem.ClaimMapViews
import Derived.JoinedTies
import Derived.KernelRfl
namespace Go.Proofs.Ytmmpejhmmgkfkab
/- THE CELL 'sum', in the pinned program and in every row, IS THE sha256 OF THE DUMP (.gsa) THAT YtmmpejhmmgkfkabProg.lean LOADS. Nothing in Lean hashes anything: it is a label: what it is worth is what the hold of that sum in a sandbox is worth. -/
noncomputable def Try.pinned : Pinned := { name := "ytmmpejhmmgkfkab", sum := "e3ca6e4cf69aaa3ed5c82cc7c7fcf53204d8a91b1f119bc34b984977ea0a3208", checked := Try.checked }
namespace Rows
def none {H : Type} : Left H := { results := [], args := [] }

/-- 'intagliolaw01.WordsRead': WHATEVER THE INPUT: true; the input reads as it did. -/
def wordsReadSpec : ChangeSpec := { name := "wordsRead", fn := fun _ => fun
  | [d1, d2] => { results := [.lit (.bool true)], args := [d1, d2] }
  | _ => none }
def wordsReadRow : OpenClaim := { program := "ytmmpejhmmgkfkab", sum := "e3ca6e4cf69aaa3ed5c82cc7c7fcf53204d8a91b1f119bc34b984977ea0a3208", func := "intaglio/intagliolaw01.WordsRead", spec := "wordsRead", inPlace := ["internal/bytealg.IndexByteString"], apart := false }
def WordsReadSaid : Prop := wordsReadRow.holds Try.pinned (OpenSpec.ofChange wordsReadSpec)

/-- ITS FALSE NEIGHBOUR: 'it returns false'. Refute it at one input. -/
def wordsReadWrong : ChangeSpec := { name := "wordsRead", fn := fun _ => fun
  | [d1, d2] => { results := [.lit (.bool false)], args := [d1, d2] }
  | _ => none }
def WordsReadWrongFalsely : Prop := wordsReadRow.holds Try.pinned (OpenSpec.ofChange wordsReadWrong)

/-- 'intagliolaw01.WordsReader': WHATEVER THE INPUT: true; the input reads as it did. -/
def wordsReaderSpec : ChangeSpec := { name := "wordsReader", fn := fun _ => fun
  | [d1, d2] => { results := [.lit (.bool true)], args := [d1, d2] }
  | _ => none }
def wordsReaderRow : OpenClaim := { program := "ytmmpejhmmgkfkab", sum := "e3ca6e4cf69aaa3ed5c82cc7c7fcf53204d8a91b1f119bc34b984977ea0a3208", func := "intaglio/intagliolaw01.WordsReader", spec := "wordsReader", apart := false }
def WordsReaderSaid : Prop := wordsReaderRow.holds Try.pinned (OpenSpec.ofChange wordsReaderSpec)

/-- ITS FALSE NEIGHBOUR: 'it returns false'. Refute it at one input. -/
def wordsReaderWrong : ChangeSpec := { name := "wordsReader", fn := fun _ => fun
  | [d1, d2] => { results := [.lit (.bool false)], args := [d1, d2] }
  | _ => none }
def WordsReaderWrongFalsely : Prop := wordsReaderRow.holds Try.pinned (OpenSpec.ofChange wordsReaderWrong)

/-- 'intagliolaw01.WordsNil': WHATEVER THE INPUT: true; the input reads as it did. -/
def wordsNilSpec : ChangeSpec := { name := "wordsNil", fn := fun _ => fun
  | [d] => { results := [.lit (.bool true)], args := [d] }
  | _ => none }
def wordsNilRow : OpenClaim := { program := "ytmmpejhmmgkfkab", sum := "e3ca6e4cf69aaa3ed5c82cc7c7fcf53204d8a91b1f119bc34b984977ea0a3208", func := "intaglio/intagliolaw01.WordsNil", spec := "wordsNil", apart := false }
def WordsNilSaid : Prop := wordsNilRow.holds Try.pinned (OpenSpec.ofChange wordsNilSpec)

/-- ITS FALSE NEIGHBOUR: 'it returns false'. Refute it at one input. -/
def wordsNilWrong : ChangeSpec := { name := "wordsNil", fn := fun _ => fun
  | [d] => { results := [.lit (.bool false)], args := [d] }
  | _ => none }
def WordsNilWrongFalsely : Prop := wordsNilRow.holds Try.pinned (OpenSpec.ofChange wordsNilWrong)

/- THE SECOND FORM. 'bulk': how many values and letters a reading holds, each counted each time it is reached (what is shared counts as often as it is met; a slice's spare places count too). A statement '..UptoSaid' is the law's where the arguments, and the package variables that the reading takes, are together of bulk at most 1048576: NARROWER than '..Said'. Prove '..Said' where nothing that the law and all that it calls make is longer than what came in: it says more and counts as full. Else prove '..UptoSaid'. A law counts once. -/
mutual
def uptoBulk {H : Type} : DataW H → Nat
  | .lit (.string bytes) => bytes.length + 1
  | .lit _ => 1
  | .nil => 1
  | .ptr d => uptoBulk d + 1
  | .slice elems spare => uptoBulkAll elems + uptoBulkAll spare + 1
  | .agg parts => uptoBulkAll parts + 1
  | .iface _ d => uptoBulk d + 1
  | .map entries => uptoBulkEntries entries + 1
  | .held _ => 1
def uptoBulkAll {H : Type} : List (DataW H) → Nat
  | [] => 0
  | d :: r => uptoBulk d + uptoBulkAll r
def uptoBulkEntries {H : Type} : List (Lit × DataW H) → Nat
  | [] => 0
  | x :: r => uptoBulkEntry x + uptoBulkEntries r
def uptoBulkEntry {H : Type} : Lit × DataW H → Nat
  | (.string bytes, d) => bytes.length + uptoBulk d + 1
  | (_, d) => uptoBulk d + 1
 end
def uptoSmall : (H : Type) → List (DataW H) → Bool := fun _ ds => decide (uptoBulkAll ds ≤ 1048576)
def OpenSpec.upto (s : _root_.Go.ChangeSpec) : _root_.Go.OpenSpec := { _root_.Go.OpenSpec.ofChange s with cond := some uptoSmall }

/-- 'intagliolaw01.WordsRead', WHERE WHAT IT READS IS OF BULK AT MOST 1048576: true; the input reads as it did. -/
def wordsReadUptoRow : OpenClaim := { program := "ytmmpejhmmgkfkab", sum := "e3ca6e4cf69aaa3ed5c82cc7c7fcf53204d8a91b1f119bc34b984977ea0a3208", func := "intaglio/intagliolaw01.WordsRead", spec := "wordsRead", inPlace := ["internal/bytealg.IndexByteString"], apart := false, narrowed := true }
def WordsReadUptoSaid : Prop := wordsReadUptoRow.holds Try.pinned (OpenSpec.upto wordsReadSpec)

/-- 'intagliolaw01.WordsReader', WHERE WHAT IT READS IS OF BULK AT MOST 1048576: true; the input reads as it did. -/
def wordsReaderUptoRow : OpenClaim := { program := "ytmmpejhmmgkfkab", sum := "e3ca6e4cf69aaa3ed5c82cc7c7fcf53204d8a91b1f119bc34b984977ea0a3208", func := "intaglio/intagliolaw01.WordsReader", spec := "wordsReader", apart := false, narrowed := true }
def WordsReaderUptoSaid : Prop := wordsReaderUptoRow.holds Try.pinned (OpenSpec.upto wordsReaderSpec)

/-- 'intagliolaw01.WordsNil', WHERE WHAT IT READS IS OF BULK AT MOST 1048576: true; the input reads as it did. -/
def wordsNilUptoRow : OpenClaim := { program := "ytmmpejhmmgkfkab", sum := "e3ca6e4cf69aaa3ed5c82cc7c7fcf53204d8a91b1f119bc34b984977ea0a3208", func := "intaglio/intagliolaw01.WordsNil", spec := "wordsNil", apart := false, narrowed := true }
def WordsNilUptoSaid : Prop := wordsNilUptoRow.holds Try.pinned (OpenSpec.upto wordsNilSpec)

end Rows
end Go.Proofs.Ytmmpejhmmgkfkab
