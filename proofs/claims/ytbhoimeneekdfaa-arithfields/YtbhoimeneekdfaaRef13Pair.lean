/-
  What the document's Pair answers, for all operations and words.
-/
import Derived.WalkSpells
import Derived.WalkMore
import Derived.Test.YtbhoimeneekdfaaRef13Small
namespace Go.Proofs.Ytbhoimeneekdfaa
open Go.RowKit Go.Maps
set_option linter.unusedVariables false
set_option linter.unusedSimpArgs false
set_option maxRecDepth 10000

set_option maxHeartbeats 2000000 in
theorem refPair149 (a b : Int) (w : World) (a0 : 0 ≤ a) (a1 : a < 4294967296) (b0 : 0 ≤ b) (b1 : b < 4294967296) : Calls Try.prog 22 #[.int .u16 149, .int .u32 a, .int .u32 b] w fun e w' => e = .returned (.tuple #[.int .u32 (prX 149 a b), .int .u32 (prY 149 a b), .bool true]) ∧ w = w' := by
  go_enter Try.func22, Try.ntmps22
  go_wp2_with (first | (go_at_call 15; refine (refWord_any _ _ (by omega) (by omega)).mono ?_; rintro e w' ⟨rfl, rfl⟩) | (go_at_call 16; refine (refTruth_any _ _).mono ?_; rintro e w' ⟨rfl, rfl⟩))
  refine bodyPost_ret (v := .tuple #[.int .u32 (prX 149 a b), .int .u32 (prY 149 a b), .bool true]) ?_ rfl ⟨rfl, rfl⟩
  simp [results, Try.results22, go_sem, prX, prY]

set_option maxHeartbeats 2000000 in
theorem refPair150 (a b : Int) (w : World) (a0 : 0 ≤ a) (a1 : a < 4294967296) (b0 : 0 ≤ b) (b1 : b < 4294967296) : Calls Try.prog 22 #[.int .u16 150, .int .u32 a, .int .u32 b] w fun e w' => e = .returned (.tuple #[.int .u32 (prX 150 a b), .int .u32 (prY 150 a b), .bool true]) ∧ w = w' := by
  go_enter Try.func22, Try.ntmps22
  go_wp2_with (first | (go_at_call 15; refine (refWord_any _ _ (by omega) (by omega)).mono ?_; rintro e w' ⟨rfl, rfl⟩) | (go_at_call 16; refine (refTruth_any _ _).mono ?_; rintro e w' ⟨rfl, rfl⟩))
  refine bodyPost_ret (v := .tuple #[.int .u32 (prX 150 a b), .int .u32 (prY 150 a b), .bool true]) ?_ rfl ⟨rfl, rfl⟩
  simp [results, Try.results22, go_sem, prX, prY]

set_option maxHeartbeats 2000000 in
theorem refPair151 (a b : Int) (w : World) (a0 : 0 ≤ a) (a1 : a < 4294967296) (b0 : 0 ≤ b) (b1 : b < 4294967296) : Calls Try.prog 22 #[.int .u16 151, .int .u32 a, .int .u32 b] w fun e w' => e = .returned (.tuple #[.int .u32 (prX 151 a b), .int .u32 (prY 151 a b), .bool true]) ∧ w = w' := by
  have hm := mul_in a b a0 a1 b0 b1
  go_enter Try.func22, Try.ntmps22
  go_wp2
  refine bodyPost_ret (v := .tuple #[.int .u32 (prX 151 a b), .int .u32 (prY 151 a b), .bool true]) ?_ rfl ⟨rfl, rfl⟩
  simp [results, Try.results22, go_sem, prX, prY]

theorem pair_hi (N : Int) (h : -4611686018427387904 ≤ N ∧ N ≤ 4611686018427387904) : (N - N % 4294967296).tdiv 4294967296 = N / 4294967296 := by
  have e : N - N % 4294967296 = N / 4294967296 * 4294967296 := by omega
  rw [e, Int.mul_tdiv_cancel _ (by omega)]

set_option maxHeartbeats 2000000 in
theorem refPair152 (a b : Int) (w : World) (a0 : 0 ≤ a) (a1 : a < 4294967296) (b0 : 0 ≤ b) (b1 : b < 4294967296) : Calls Try.prog 22 #[.int .u16 152, .int .u32 a, .int .u32 b] w fun e w' => e = .returned (.tuple #[.int .u32 (prX 152 a b), .int .u32 (prY 152 a b), .bool true]) ∧ w = w' := by
  have hx : prX 152 a b = wrap32 a * wrap32 b % 4294967296 := rfl
  have hy : prY 152 a b = wrap32 a * wrap32 b / 4294967296 % 4294967296 := rfl
  rw [hx, hy]
  have h1 := fun w => refSigned_any a w a0 a1
  have h2 := fun w => refSigned_any b w b0 b1
  have hI := wrap_in a
  have hJ := wrap_in b
  have hm := smul_in _ _ hI hJ
  have hp := pair_hi _ hm
  generalize wrap32 a = S at *
  generalize wrap32 b = T at *
  clear hx hy
  go_enter Try.func22, Try.ntmps22
  go_wp2_with fail
  refine (h1 _).mono ?_
  rintro e w' ⟨rfl, rfl⟩
  go_wp2_with fail
  refine (h2 _).mono ?_
  rintro e w' ⟨rfl, rfl⟩
  go_wp2_with fail
  refine (refWord_any _ _ (by omega) (by omega)).mono ?_
  rintro e w' ⟨rfl, rfl⟩
  go_wp2_with fail
  refine (refWord_any _ _ (by omega) (by omega)).mono ?_
  rintro e w' ⟨rfl, rfl⟩
  go_wp2
  refine bodyPost_ret (v := .tuple #[.int .u32 (S * T % 4294967296), .int .u32 (S * T / 4294967296 % 4294967296), .bool true]) ?_ rfl ⟨rfl, rfl⟩
  simp [results, Try.results22, go_sem, hp]

set_option maxHeartbeats 2000000 in
theorem refPair_any (op a b : Int) (w : World) (a0 : 0 ≤ a) (a1 : a < 4294967296) (b0 : 0 ≤ b) (b1 : b < 4294967296) : Calls Try.prog 22 #[.int .u16 op, .int .u32 a, .int .u32 b] w fun e w' => e = .returned (.tuple #[.int .u32 (prX op a b), .int .u32 (prY op a b), .bool (prB op)]) ∧ w = w' := by
  by_cases c1 : op = 149
  · subst c1; exact refPair149 a b w a0 a1 b0 b1
  by_cases c2 : op = 150
  · subst c2; exact refPair150 a b w a0 a1 b0 b1
  by_cases c3 : op = 151
  · subst c3; exact refPair151 a b w a0 a1 b0 b1
  by_cases c4 : op = 152
  · subst c4; exact refPair152 a b w a0 a1 b0 b1
  have e1 : prX op a b = 0 := by simp [prX, c1, c2, c3, c4]
  have e2 : prY op a b = 0 := by simp [prY, c1, c2, c3, c4]
  have e3 : prB op = false := by simp [prB, c1, c2, c3, c4]
  rw [e1, e2, e3]
  go_enter Try.func22, Try.ntmps22
  go_wp2
  refine bodyPost_ret (v := .tuple #[.int .u32 0, .int .u32 0, .bool false]) ?_ rfl ⟨rfl, rfl⟩
  simp [results, Try.results22, go_sem]

end Go.Proofs.Ytbhoimeneekdfaa
