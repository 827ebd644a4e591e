/-
  What Wrong of the document's answer returns: what is wrong with a word of the head.
-/
import Derived.WalkSpells
import Derived.Test.YtpdjmapmpicgjabProg
import Derived.Test.YtpdjmapmpicgjabMathF
namespace Go.Proofs.Ytpdjmapmpicgjab
open Go.RowKit
set_option maxRecDepth 10000

end Go.Proofs.Ytpdjmapmpicgjab
