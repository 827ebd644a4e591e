/-
  What Pair of arith answers, for all operations and words.
-/
import Derived.WalkSpells
import Derived.WalkMore
import Derived.Laws.EntriesVeiled
import Derived.Test.YtbhoimeneekdfaaMathAr
import Derived.Test.YtbhoimeneekdfaaMathDv
import Derived.Test.YtbhoimeneekdfaaArithTwos
namespace Go.Proofs.Ytbhoimeneekdfaa
open Go.RowKit Go.Maps
set_option linter.unusedVariables false
set_option linter.unusedSimpArgs false
set_option maxRecDepth 10000

/-- The first and the second answer. -/
def prX (op a b : Int) : Int := if op = 149 then (a + b) % 4294967296 else if op = 150 then (a - b) % 4294967296 else if op = 151 then a * b % 4294967296 else if op = 152 then wrap32 a * wrap32 b % 4294967296 else 0
def prY (op a b : Int) : Int := if op = 149 then b2i (decide (4294967296 ≤ a + b)) else if op = 150 then b2i (decide (a < b)) else if op = 151 then a * b / 4294967296 else if op = 152 then wrap32 a * wrap32 b / 4294967296 % 4294967296 else 0
def prB (op : Int) : Bool := decide (op = 149 ∨ op = 150 ∨ op = 151 ∨ op = 152)

theorem mul_in (a b : Int) (a0 : 0 ≤ a) (a1 : a < 4294967296) (b0 : 0 ≤ b) (b1 : b < 4294967296) : 0 ≤ a * b ∧ a * b ≤ 18446744065119617025 := by
  obtain ⟨m, rfl⟩ := Int.eq_ofNat_of_zero_le a0
  obtain ⟨n, rfl⟩ := Int.eq_ofNat_of_zero_le b0
  have : m * n ≤ 4294967295 * 4294967295 := Nat.mul_le_mul (by omega) (by omega)
  have e : (m : Int) * (n : Int) = ((m * n : Nat) : Int) := by simp
  rw [e]; omega

theorem smul_in (a b : Int) (ha : -2147483648 ≤ a ∧ a < 2147483648) (hb : -2147483648 ≤ b ∧ b < 2147483648) : -4611686018427387904 ≤ a * b ∧ a * b ≤ 4611686018427387904 := by
  have h1 : (a * b).natAbs = a.natAbs * b.natAbs := Int.natAbs_mul a b
  have h2 : a.natAbs * b.natAbs ≤ 2147483648 * 2147483648 := Nat.mul_le_mul (by omega) (by omega)
  omega
theorem u64_lo (x : Int) : x % 18446744073709551616 % 4294967296 = x % 4294967296 := by omega
theorem u64_hi (x : Int) : x % 18446744073709551616 / 4294967296 = x / 4294967296 % 4294967296 := by omega

end Go.Proofs.Ytbhoimeneekdfaa
