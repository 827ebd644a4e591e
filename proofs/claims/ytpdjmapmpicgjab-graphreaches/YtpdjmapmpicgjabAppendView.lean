/-
  A list that can be read, appended to a row of one's own: where it comes to lie.
-/
import Derived.WalkKit
import Derived.Laws.AppendOwn
import Derived.Test.YtpdjmapmpicgjabMath
import Derived.Test.YtpdjmapmpicgjabAppend
namespace Go.Proofs.Ytpdjmapmpicgjab
open Go.RowKit
set_option maxRecDepth 10000

/-- An owned row of numbers can be read. -/
theorem View.ofOwned {k : IntKind} {w : World} {B e n : Nat} {v : Value} {zs : List Int} (h : w.ownsRow B e 1 v n (zs.map (Value.int k))) : ∃ a cap, v = .slice a n cap ∧ View k w a zs ∧ zs.length = n := by
  have hl : zs.length = n := by have := h.1; simpa using this
  have hc := fun g hg => h.cells (g := g) hg
  rcases h.2 with ⟨rfl, rfl⟩ | ⟨g, cap, cur, rfl, _, hg, _⟩
  · exact ⟨none, 0, rfl, fun j hj => by omega, hl⟩
  · refine ⟨some ⟨g, 0, none⟩, cap, rfl, fun j hj => ⟨g, 0, rfl, (Array.getElem?_eq_some_iff.1 hg).1, ?_⟩, hl⟩
    have := hc g rfl j (.int k (nth zs j)) (by simp [nth, List.getD, hj])
    rw [Addr.add_lit] at this
    exact this

end Go.Proofs.Ytpdjmapmpicgjab
