/-
  What Count, Ends and Wrong of the document's answer return.
-/
import Derived.WalkSpells
import Derived.Test.YtjpbiakbjpiceabProg
import Derived.Test.YtjpbiakbjpiceabMathF
namespace Go.Proofs.Ytjpbiakbjpiceab
open Go.RowKit

end Go.Proofs.Ytjpbiakbjpiceab
