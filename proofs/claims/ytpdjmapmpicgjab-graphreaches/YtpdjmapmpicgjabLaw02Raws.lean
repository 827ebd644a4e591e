/-
  raws of the laws of layer 2 answers true of two lists of instructions that are the same; head answers the words of a head.
-/
import Derived.WalkSpells
import Derived.Deep.QuietTactic
import Derived.BigQuiet
import Derived.Test.YtpdjmapmpicgjabRaws
import Derived.Test.YtpdjmapmpicgjabKitWords
namespace Go.Proofs.Ytpdjmapmpicgjab
open Go.RowKit
set_option maxRecDepth 10000

end Go.Proofs.Ytpdjmapmpicgjab
