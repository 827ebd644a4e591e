/-
  What At of the document's answer returns: the instruction at a place, up to another one, its words in new memory.
-/
import Derived.WalkSpells
import Derived.BigRegion
import Derived.Deep.RegionLaw
import Derived.Deep.AppendLies
import Derived.Deep.DrawnRows
import Derived.Test.YtpdjmapmpicgjabProg
import Derived.Test.YtpdjmapmpicgjabMathF
import Derived.Test.YtpdjmapmpicgjabRdr
namespace Go.Proofs.Ytpdjmapmpicgjab
open Go.RowKit

theorem RefAt.info : (Try.prog.info? 62).map (fun i => (i.zero, i.size, i.bytes)) = some (some (.int .u32 0), 1, 4) := by kernel_rfl

end Go.Proofs.Ytpdjmapmpicgjab
