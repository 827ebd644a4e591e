/-
  What the operations of two words make, as plain mathematics.
-/
import Derived.WalkKit
import Derived.Test.YtbhoimeneekdfaaMath
import Derived.Test.YtbhoimeneekdfaaMathBt
namespace Go.Proofs.Ytbhoimeneekdfaa
open Go.RowKit
set_option linter.unusedVariables false
set_option linter.unusedSimpArgs false

/-- A truth as a number. -/
def b2i (x : Bool) : Int := if x = true then 1 else 0
theorem b2i_in (x : Bool) : 0 ≤ b2i x ∧ b2i x < 2 := by cases x <;> simp [b2i]
/-- What is left over, with the sign of t. -/
def flo (s t : Int) : Int := if s.tmod t ≠ 0 ∧ (s.tmod t < 0 ↔ ¬ t < 0) then s.tmod t + t else s.tmod t

def binV (op a b : Int) : Int :=
  if op = 128 then (a + b) % 4294967296 else if op = 130 then (a - b) % 4294967296 else if op = 132 then a * b % 4294967296
  else if op = 134 then (if b = 0 then 0 else a / b) else if op = 137 then (if b = 0 then 0 else a % b)
  else if op = 135 then (if b = 0 then 0 else (wrap32 a).tdiv (wrap32 b) % 4294967296) else if op = 138 then (if b = 0 then 0 else (wrap32 a).tmod (wrap32 b) % 4294967296)
  else if op = 139 then (if b = 0 then 0 else flo (wrap32 a) (wrap32 b) % 4294967296)
  else if op = 194 then a / 2 ^ (b % 32).toNat else if op = 195 then wrap32 a / 2 ^ (b % 32).toNat % 4294967296 else if op = 196 then a * 2 ^ (b % 32).toNat % 4294967296
  else if op = 197 then bits .or .u32 a b else if op = 198 then bits .xor .u32 a b else if op = 199 then bits .and .u32 a b
  else if op = 164 then b2i (decide (a = 0) == decide (b = 0)) else if op = 165 then b2i (decide (a = 0) != decide (b = 0))
  else if op = 166 then b2i (decide (a ≠ 0 ∨ b ≠ 0)) else if op = 167 then b2i (decide (a ≠ 0 ∧ b ≠ 0))
  else if op = 170 then b2i (decide (a = b)) else if op = 171 then b2i (decide (a ≠ b))
  else if op = 172 then b2i (decide (b < a)) else if op = 174 then b2i (decide (b ≤ a)) else if op = 176 then b2i (decide (a < b)) else if op = 178 then b2i (decide (a ≤ b))
  else if op = 173 then b2i (decide (wrap32 b < wrap32 a)) else if op = 175 then b2i (decide (wrap32 b ≤ wrap32 a)) else if op = 177 then b2i (decide (wrap32 a < wrap32 b)) else if op = 179 then b2i (decide (wrap32 a ≤ wrap32 b))
  else 0
def binOps : List Int := [128, 130, 132, 134, 137, 135, 138, 139, 194, 195, 196, 197, 198, 199, 164, 165, 166, 167, 170, 171, 172, 174, 176, 178, 173, 175, 177, 179]
def binB (op : Int) : Bool := binOps.contains op

theorem wrap_zero (b : Int) (b0 : 0 ≤ b) (b1 : b < 4294967296) (h : b ≠ 0) : wrap32 b ≠ 0 := by unfold wrap32; omega
theorem wrap_in (b : Int) : -2147483648 ≤ wrap32 b ∧ wrap32 b < 2147483648 := by unfold wrap32; omega
theorem wrap_mod (a : Int) : wrap32 a % 4294967296 = a % 4294967296 := by unfold wrap32; omega
theorem tmod_in (s t : Int) (ht : t ≠ 0) : s.tmod t < 2147483648 ∧ -2147483648 ≤ s.tmod t ∨ ¬ (-2147483648 ≤ t ∧ t < 2147483648) := by
  by_cases h : -2147483648 ≤ t ∧ t < 2147483648
  · left
    have h1 := Int.natAbs_tmod s t
    have h2 : s.natAbs % t.natAbs < t.natAbs := Nat.mod_lt _ (by omega)
    omega
  · exact .inr h

end Go.Proofs.Ytbhoimeneekdfaa
