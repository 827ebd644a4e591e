/-
  What Wrong of the document's answer returns: what is wrong with a word of the head.
-/
import Derived.WalkSpells
import Derived.Test.YtjpbiakbjpiceabProg
import Derived.Test.YtjpbiakbjpiceabMathF
namespace Go.Proofs.Ytjpbiakbjpiceab
open Go.RowKit

/-- What is wrong with a word of the head, by its place. -/
def wrongE (k : Nat) (x : Int) : Int :=
  if k = 0 then (if x = 50471687 then 21 else if x = 119734787 then 0 else 20)
  else if k = 1 then (if x = 65536 then 0 else 22)
  else if k = 3 then (if x = 0 then 24 else if 65536 < x then 24 else 0)
  else if k = 4 then (if x = 0 then 0 else 23)
  else 0

end Go.Proofs.Ytjpbiakbjpiceab
