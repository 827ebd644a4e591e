/-
  Words of the kit answers true of two lists that are the same.
-/
import Derived.WalkSpells
import Derived.Deep.QuietTactic
import Derived.BigQuiet
import Derived.Test.YtpdjmapmpicgjabProg
import Derived.Test.YtpdjmapmpicgjabMath
namespace Go.Proofs.Ytpdjmapmpicgjab
open Go.RowKit
set_option maxRecDepth 10000

end Go.Proofs.Ytpdjmapmpicgjab
