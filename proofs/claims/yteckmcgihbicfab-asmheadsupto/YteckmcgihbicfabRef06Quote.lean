/-
  What digit and Quote of the document's answer for layer 6 return, for every text whose quoted form keeps to the memory's reach; nothing that was there turns.
-/
import Derived.WalkSpells
import Derived.WalkMore
import Derived.Laws.BytesArg
import Derived.Test.YteckmcgihbicfabProg
import Derived.Test.YteckmcgihbicfabMathX
import Derived.Test.YteckmcgihbicfabLexQuote
namespace Go.Proofs.Yteckmcgihbicfab
open Go.RowKit
set_option maxRecDepth 10000
set_option linter.unusedVariables false
set_option linter.unusedSimpArgs false

/-- A row of bytes of the call's own. -/
def RowB (B : Nat) (v : Value) (zs : List Int) (w : World) : Prop := w.ownsRow B 5 1 v zs.length (zs.map (Value.int .u8))
theorem rowB_push {B : Nat} {v : Value} {zs ys : List Int} {w : World} (h : w.ownsRow B 5 1 v (zs.length + ys.length) (zs.map (Value.int .u8) ++ ys.map (Value.int .u8))) : RowB B v (zs ++ ys) w := by
  unfold RowB; rw [List.length_append, List.map_append]; exact h
theorem one_cells {w : World} (ys : List Int) : ∀ j u, (ys.map (Value.int .u8))[j]? = some u → (w.alloc (.cells (ys.map (Value.int .u8)).toArray 5)).cell? ((⟨w.heap.size, 0, none⟩ : Addr).add j) = some u := by
  intro j u hj
  have := heap_alloc_new w (.cells (ys.map (Value.int .u8)).toArray 5)
  rw [Addr.add_lit, Nat.zero_add, Lib.cell_of_heap this]
  simpa using hj
theorem oneC_all (ys : List Int) : ∀ u ∈ ys.map (Value.int .u8), u.oneCell' = true := by
  intro u hu
  obtain ⟨z, _, rfl⟩ := List.mem_map.1 hu
  rfl

end Go.Proofs.Yteckmcgihbicfab
