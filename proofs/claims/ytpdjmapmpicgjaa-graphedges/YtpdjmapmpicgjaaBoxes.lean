/-
  Boxes of one cell, and what lies below, over worlds that grow: small lemmas for loops over functions. No condition but what each names.
-/
import Derived.RangeFuncNested
import Derived.RangeFuncBound
import Derived.Test.YtpdjmapmpicgjaaIter
namespace Go.Proofs.Ytpdjmapmpicgjaa
open Go.RowKit

theorem oneCell {w : World} {g T : Nat} {v : Value} (h : w.heap[g]? = some (.cells #[v] T (0, 0))) : w.cell? ⟨g, 0, none⟩ = some v ∧ w.frozen? ⟨g, 0, none⟩ = false := by
  constructor <;> simp [World.cell?, World.frozen?, h]
theorem allocAt (w : World) (o : Obj) (k : Nat) : (w.alloc o).heap[k]? = if k = w.heap.size then some o else w.heap[k]? := by
  show (w.heap.push o)[k]? = _
  rw [Array.getElem?_push]
theorem allocOld {w : World} {k : Nat} {x : Obj} (h : w.heap[k]? = some x) (o : Obj) : (w.alloc o).heap[k]? = some x := (Below.heap_alloc _ _ _ (Array.getElem?_eq_some_iff.1 h).1).trans h
theorem allocNew (w : World) (o : Obj) {n : Nat} (h : w.heap.size = n) : (w.alloc o).heap[n]? = some o := by rw [allocAt, if_pos h.symm]

end Go.Proofs.Ytpdjmapmpicgjaa
