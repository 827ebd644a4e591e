/-
  What Fault and Size of the document's answer return: the first instruction that is too long, or with which there are too many words; and how many words there are.
-/
import Derived.WalkSpells
import Derived.Deep.QuietTactic
import Derived.BigQuiet
import Derived.Test.YtjpbiakbjpiceabProg
import Derived.Test.YtjpbiakbjpiceabRaws
namespace Go.Proofs.Ytjpbiakbjpiceab
open Go.RowKit

/-- How many words the head and the first k instructions have. -/
def sizeTo (rs : List (Int × List Int)) (k : Nat) : Nat := (rs.take k).foldl (fun s r => s + 1 + r.2.length) 5
/-- The first instruction that may not be, and why. -/
def faultF (rs : List (Int × List Int)) : Nat → Nat → Int × Nat
  | 0, _ => (0, 0)
  | f + 1, k => if k < rs.length then (if 65535 ≤ (nthR rs k).2.length then (25, k) else if 1048576 < sizeTo rs (k + 1) then (4, k) else faultF rs f (k + 1)) else (0, 0)
def fault (rs : List (Int × List Int)) (k : Nat) : Int × Nat := faultF rs (rs.length - k) k

theorem sizeTo_zero (rs : List (Int × List Int)) : sizeTo rs 0 = 5 := rfl
theorem sizeTo_succ (rs : List (Int × List Int)) (k : Nat) (h : k < rs.length) : sizeTo rs (k + 1) = sizeTo rs k + 1 + (nthR rs k).2.length := by
  have e : rs.take (k + 1) = rs.take k ++ [nthR rs k] := by
    rw [List.take_succ_eq_append_getElem h]; simp [nthR, List.getD, h]
  rw [sizeTo, e, List.foldl_append]; rfl
theorem fault_end (rs : List (Int × List Int)) (k : Nat) (h : rs.length ≤ k) : fault rs k = (0, 0) := by
  rw [fault, show rs.length - k = 0 by omega]; rfl
theorem fault_step (rs : List (Int × List Int)) (k : Nat) (h : k < rs.length) : fault rs k = if 65535 ≤ (nthR rs k).2.length then (25, k) else if 1048576 < sizeTo rs (k + 1) then (4, k) else fault rs (k + 1) := by
  rw [fault, show rs.length - k = (rs.length - (k + 1)) + 1 by omega, faultF, if_pos h]; rfl

theorem ret_agg2 {k : IntKind} {a b c d : Int} (h : a = b) (h2 : c = d) : (Value.agg #[.int k a, .int k c]) = .agg #[.int k b, .int k d] := by rw [h, h2]

end Go.Proofs.Ytjpbiakbjpiceab
