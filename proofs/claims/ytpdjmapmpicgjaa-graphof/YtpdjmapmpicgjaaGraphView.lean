/-
  A graph in memory, as it stays.
-/
import Derived.WalkSpells
import Derived.Test.YtpdjmapmpicgjaaProg
import Derived.Test.YtpdjmapmpicgjaaGraphWalk0
namespace Go.Proofs.Ytpdjmapmpicgjaa
open Go.RowKit
set_option linter.unusedVariables false
set_option linter.unusedSimpArgs false
set_option maxRecDepth 10000

/-- A graph in memory, from block lo on. -/
structure GrV (w : World) (lo p : Nat) (N : List (List Int)) : Prop where
  mem : ∃ nv av m cv ov, GrB w p nv av m cv ov ∧ OwnL w lo nv N ∧ OwnL w lo av (aheadR N) ∧ Marked m (walkF N).1 ∧ w.ownsRow lo 3 1 cv (walkF N).1.length ((walkF N).1.map (Value.int .i64)) ∧ w.ownsRow lo 3 1 ov (walkF N).2.length ((walkF N).2.reverse.map (Value.int .i64))
  low : lo ≤ p
  edges : Edges N.length N
  few : N.length ≤ 4096
  some_ : 0 < N.length
  once : ∀ j, (rowN N j).Nodup
theorem GrV.below {w w' : World} {lo p : Nat} {N : List (List Int)} (h : GrV w lo p N) (hb : Below w.heap.size w w') : GrV w' lo p N := by
  obtain ⟨nv, av, m, cv, ov, h1, h2, h3, h4, h5, h6⟩ := h.mem
  exact ⟨⟨nv, av, m, cv, ov, h1.below hb, h2.below hb, h3.below hb, h4, own_below h5 hb, own_below h6 hb⟩, h.low, h.edges, h.few, h.some_, h.once⟩
theorem own_kept {w w' : World} {lo e size n : Nat} {v : Value} {xs : List Value} {ob : Option Nat} (h : w.ownsRow lo e size v n xs) (hg : w.grownBy w' ob) (hob : ∀ g, ob = some g → g < lo) : w'.ownsRow lo e size v n xs :=
  own_grown h hg (fun g e e2 => by have := (World.ownsRow.lt h g e2).1; have := hob g e; omega)
/-- Where what lies below turns. -/
theorem GrV.kept {w w' : World} {lo p : Nat} {N : List (List Int)} {ob : Option Nat} (h : GrV w lo p N) (hg : w.grownBy w' ob) (hob : ∀ g, ob = some g → g < lo) : GrV w' lo p N := by
  obtain ⟨nv, av, m, cv, ov, h1, h2, h3, h4, h5, h6⟩ := h.mem
  have hlo := h.low
  exact ⟨⟨nv, av, m, cv, ov, h1.other (hg.block p h1.lt (fun e => by have := hob p e.symm; omega)), h2.kept hg hob, h3.kept hg hob, h4, own_kept h5 hg hob, own_kept h6 hg hob⟩, h.low, h.edges, h.few, h.some_, h.once⟩

end Go.Proofs.Ytpdjmapmpicgjaa
