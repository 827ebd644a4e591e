/-
  What written and Write of the layer lex return, for every list of tokens whose line keeps to Go's own limit of a length; nothing that was there turns.
-/
import Derived.WalkSpells
import Derived.WalkMore
import Derived.Test.YteckmcgihbicfabProg
import Derived.Test.YteckmcgihbicfabToks
import Derived.Test.YteckmcgihbicfabLexWords
import Derived.Test.YteckmcgihbicfabLexQuote
namespace Go.Proofs.Yteckmcgihbicfab
open Go.RowKit
set_option maxRecDepth 10000
set_option linter.unusedVariables false
set_option linter.unusedSimpArgs false

end Go.Proofs.Yteckmcgihbicfab
