/-
  What Places of the document's answer returns, of at most 1048576 words: the places of the instructions, in new memory.
-/
import Derived.WalkSpells
import Derived.Test.YtjpbiakbjpiceabMathF
import Derived.Test.YtjpbiakbjpiceabRdr
import Derived.Test.YtjpbiakbjpiceabRef02Ends
namespace Go.Proofs.Ytjpbiakbjpiceab
open Go.RowKit

theorem RefPlaces.info : (Try.prog.info? 3).map (fun i => (i.zero, i.size, i.bytes)) = some (some (.int .i64 0), 1, 8) := by kernel_rfl

theorem own_shape {w : World} {B e n : Nat} {v : Value} {xs : List Value} (h : w.ownsRow B e 1 v n xs) : ∃ a c, v = .slice a n c := by
  rcases h.2 with ⟨rfl, rfl⟩ | ⟨g, c, cur, rfl, _⟩
  · exact ⟨none, 0, rfl⟩
  · exact ⟨_, c, rfl⟩

end Go.Proofs.Ytjpbiakbjpiceab
