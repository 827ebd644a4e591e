/-
  An append within a region that draws its order, in or out of a round.
-/
import Derived.OrdersIn
import Derived.Deep.AppendLies
import Derived.Test.YtpdjmapmpicgjabDraw
namespace Go.Proofs.Ytpdjmapmpicgjab
open Go.RowKit
set_option linter.unusedVariables false

/-- A piece of code that goes on. -/
theorem wpIn_normal {F : Fence} {n : Nat} {P : Program} {c : Code} {Q : Exit → Act → World → Prop} {a : Act} {w : World} (h : c.wpIn F n P (fun e a w => e = .normal ∧ Q .normal a w) a w) : c.wpIn F n P Q a w :=
  Code.wpIn_mono (fun e a w h => by obtain ⟨rfl, h⟩ := h; exact h) h

end Go.Proofs.Ytpdjmapmpicgjab
