/-
  A long function cut at one of its regions: what holds there, and the rest by itself.
-/
import Derived.WalkKit
import Derived.WalkMore
namespace Go.Proofs.Ytpdjmapmpicgjab
open Go

/-- The first region of a piece of code. -/
def headR : Code → Nat
  | .region k _ _ => k
  | .seq a _ => headR a
  | _ => 99999
/-- The code from a region on. -/
def dropR (n : Nat) : Code → Code
  | .seq a b => match headR a == n with
    | true => .seq a b
    | false => dropR n b
  | c => c
end Go.Proofs.Ytpdjmapmpicgjab
