/-
  Words appended to a row of words whose room is full: where they come to lie. No condition but the bounds that each lemma names.
-/
import Derived.WalkKit
import Derived.Laws.Append
import Derived.Test.YtpdjmapmpicgjabMath
namespace Go.Proofs.Ytpdjmapmpicgjab
open Go.RowKit

end Go.Proofs.Ytpdjmapmpicgjab
