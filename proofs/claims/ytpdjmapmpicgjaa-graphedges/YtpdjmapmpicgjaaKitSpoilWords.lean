/-
  SpoilWords of the kit writes over the words of a row of the call's own, and nothing else.
-/
import Derived.WalkSpells
import Derived.Test.YtpdjmapmpicgjaaProg
import Derived.Test.YtpdjmapmpicgjaaRdr
namespace Go.Proofs.Ytpdjmapmpicgjaa
open Go.RowKit
set_option maxRecDepth 10000

end Go.Proofs.Ytpdjmapmpicgjaa
