/-
  What Count, Ends and Wrong of the document's answer return.
-/
import Derived.WalkSpells
import Derived.Test.YtckpijgnkkjfkabProg
import Derived.Test.YtckpijgnkkjfkabMathF
namespace Go.Proofs.Ytckpijgnkkjfkab
open Go.RowKit

end Go.Proofs.Ytckpijgnkkjfkab
