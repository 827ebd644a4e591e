/-
  Divisions of words, as plain mathematics.
-/
import Derived.WalkKit
import Derived.Test.YtbhoimeneekdfaaMath
import Derived.Test.YtbhoimeneekdfaaMathAr
namespace Go.Proofs.Ytbhoimeneekdfaa
open Go.RowKit
set_option linter.unusedVariables false
set_option linter.unusedSimpArgs false

theorem mod_back (x y : Int) (M : Int) : (x % M * y % M) = x * y % M := by rw [Int.mul_emod, Int.emod_emod, ← Int.mul_emod]
/-- The quotient times b and what is left over are a. -/
theorem div_back (a b : Int) (a0 : 0 ≤ a) (a1 : a < 4294967296) : ((a / b) * b % 4294967296 + a % b) % 4294967296 = a := by
  have h := Int.emod_add_mul_ediv a b
  rw [Int.mul_comm] at h
  generalize a / b * b = x at *
  generalize a % b = y at *
  omega
theorem div_le (a b : Int) (a0 : 0 ≤ a) (b0 : 0 ≤ b) : 0 ≤ a / b ∧ a / b ≤ a := ⟨Int.ediv_nonneg a0 b0, Int.ediv_le_self b a0⟩
theorem mod_lt (a b : Int) (b0 : 0 ≤ b) (hb : b ≠ 0) : 0 ≤ a % b ∧ a % b < b := ⟨Int.emod_nonneg _ hb, Int.emod_lt_of_pos _ (by omega)⟩
theorem sdiv_back (a b : Int) (a0 : 0 ≤ a) (a1 : a < 4294967296) : (((wrap32 a).tdiv (wrap32 b) % 4294967296) * b % 4294967296 + (wrap32 a).tmod (wrap32 b) % 4294967296) % 4294967296 = a := by
  have h := Int.tmod_add_mul_tdiv (wrap32 a) (wrap32 b)
  have e : (wrap32 a).tdiv (wrap32 b) % 4294967296 * b % 4294967296 = (wrap32 b * (wrap32 a).tdiv (wrap32 b)) % 4294967296 := by
    rw [mod_back, Int.mul_emod, ← wrap_mod b, ← Int.mul_emod, Int.mul_comm]
  rw [e]
  have w1 : wrap32 a % 4294967296 = a := by rw [wrap_mod]; omega
  generalize wrap32 b * (wrap32 a).tdiv (wrap32 b) = x at *
  generalize (wrap32 a).tmod (wrap32 b) = y at *
  generalize wrap32 a = z at *
  omega
/-- What is left over is nearer to 0 than b. -/
theorem tmod_abs (s t : Int) (ht : t ≠ 0) : (0 < t → -t < s.tmod t ∧ s.tmod t < t) ∧ (t < 0 → t < s.tmod t ∧ s.tmod t < -t) := by
  have h1 := Int.natAbs_tmod s t
  have h2 : s.natAbs % t.natAbs < t.natAbs := Nat.mod_lt _ (by omega)
  omega
theorem sq_lt (x t : Int) (h : (0 < t → -t < x ∧ x < t) ∧ (t < 0 → t < x ∧ x < -t)) (ht : t ≠ 0) : x * x < t * t := by
  have key : x.natAbs < t.natAbs := by omega
  have h1 : x * x = ((x.natAbs * x.natAbs : Nat) : Int) := Int.natAbs_mul_self.symm
  have h2 : t * t = ((t.natAbs * t.natAbs : Nat) : Int) := Int.natAbs_mul_self.symm
  rw [h1, h2]
  exact Int.ofNat_lt.2 (Nat.mul_self_lt_mul_self key)
theorem flo_abs (s t : Int) (ht : t ≠ 0) : (0 < t → -t < flo s t ∧ flo s t < t) ∧ (t < 0 → t < flo s t ∧ flo s t < -t) := by
  have h := tmod_abs s t ht
  unfold flo
  generalize s.tmod t = r at *
  split <;> omega
theorem tmod_sign (s t : Int) : (s.tmod t ≠ 0 → (s.tmod t < 0 ↔ s < 0)) := by
  intro h
  by_cases hs : s < 0
  · have := Int.tmod_nonneg (-t) (a := -s) (by omega)
    rw [Int.neg_tmod, Int.tmod_neg] at this
    omega
  · have := Int.tmod_nonneg t (a := s) (by omega)
    omega
theorem flo_sign (s t : Int) (ht : t ≠ 0) : flo s t = 0 ∨ (flo s t < 0 ↔ t < 0) := by
  have h := tmod_abs s t ht
  unfold flo
  generalize s.tmod t = r at *
  split <;> omega
theorem flo_diff (s t : Int) : s.tmod t - flo s t = 0 ∨ s.tmod t - flo s t = -t := by
  unfold flo
  split <;> omega
theorem wrap_back (x : Int) (h : -2147483648 ≤ x ∧ x < 2147483648) : wrap32 (x % 4294967296) = x := by unfold wrap32; omega

end Go.Proofs.Ytbhoimeneekdfaa
