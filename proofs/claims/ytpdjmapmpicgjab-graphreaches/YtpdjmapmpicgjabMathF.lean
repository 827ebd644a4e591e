/-
  Plain arithmetic for the layer of frames: where the instructions of words lie. No condition but the bounds that each lemma names.
-/
import Derived.Test.YtpdjmapmpicgjabMath
namespace Go.Proofs.Ytpdjmapmpicgjab
open Go.RowKit

/-- How many words the instruction at a place says that it has. -/
def cntN (zs : List Int) (p : Nat) : Nat := (nth zs p).toNat / 65536
def badB (zs : List Int) (p : Nat) : Bool := cntN zs p == 0 || decide (zs.length < p + cntN zs p)
def restF (zs : List Int) : Nat → Nat → List Nat
  | 0, _ => []
  | f + 1, p => if p < zs.length then (if badB zs p then [] else p :: restF zs f (p + cntN zs p)) else []
def stopF (zs : List Int) : Nat → Nat → Nat
  | 0, p => p
  | f + 1, p => if p < zs.length then (if badB zs p then p else stopF zs f (p + cntN zs p)) else p
/-- The places of the instructions from a place on. -/
def rest (zs : List Int) (p : Nat) : List Nat := restF zs (zs.length - p) p
/-- Where they end. -/
def stop (zs : List Int) (p : Nat) : Nat := stopF zs (zs.length - p) p

end Go.Proofs.Ytpdjmapmpicgjab
