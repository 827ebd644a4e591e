/-
  SpoilWords of the kit writes over the words of a row of the call's own, and nothing else.
-/
import Derived.WalkSpells
import Derived.Test.YtpdjmapmpicgjabProg
import Derived.Test.YtpdjmapmpicgjabRdr
namespace Go.Proofs.Ytpdjmapmpicgjab
open Go.RowKit
set_option maxRecDepth 10000

end Go.Proofs.Ytpdjmapmpicgjab
