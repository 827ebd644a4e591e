/-
  What the document's Binary answers, operation by operation.
-/
import Derived.WalkSpells
import Derived.WalkMore
import Derived.Test.YtbhoimeneekdfaaRef13Eqs
namespace Go.Proofs.Ytbhoimeneekdfaa
open Go.RowKit
set_option linter.unusedVariables false
set_option linter.unusedSimpArgs false
set_option maxRecDepth 10000

set_option maxHeartbeats 4000000 in
theorem refBin128 (a b : Int) (w : World) (a0 : 0 ≤ a) (a1 : a < 4294967296) (b0 : 0 ≤ b) (b1 : b < 4294967296) : Calls Try.prog 21 #[.int .u16 128, .int .u32 a, .int .u32 b] w fun e w' => e = .returned (.tuple #[.int .u32 (binV 128 a b), .bool true]) ∧ Below w.heap.size w w' := by
  have h1 := fun w => refSigned_any a w a0 a1
  have h2 := fun w => refSigned_any b w b0 b1
  have hI := wrap_in a
  have hJ := wrap_in b
  have HV : Hid ((a + b) % 4294967296 = binV 128 a b) := rfl
  go_enter Try.func21, Try.ntmps21
  go_wp2_with fail
  refine (h1 _).mono ?_
  rintro e w' ⟨rfl, rfl⟩
  go_wp2_with fail
  refine (h2 _).mono ?_
  rintro e w' ⟨rfl, rfl⟩
  generalize wrap32 a = S at *
  generalize wrap32 b = T at *
  go_wp2_with fail
  refine (refWord_any _ _ (by omega) (by omega)).mono ?_
  rintro e w' ⟨rfl, rfl⟩
  go_wp2
  rw [HV.out]
  go_ret2
  exact ⟨rfl, Below.refl _ _⟩

set_option maxHeartbeats 4000000 in
theorem refBin130 (a b : Int) (w : World) (a0 : 0 ≤ a) (a1 : a < 4294967296) (b0 : 0 ≤ b) (b1 : b < 4294967296) : Calls Try.prog 21 #[.int .u16 130, .int .u32 a, .int .u32 b] w fun e w' => e = .returned (.tuple #[.int .u32 (binV 130 a b), .bool true]) ∧ Below w.heap.size w w' := by
  have h1 := fun w => refSigned_any a w a0 a1
  have h2 := fun w => refSigned_any b w b0 b1
  have hI := wrap_in a
  have hJ := wrap_in b
  have HV : Hid ((a - b) % 4294967296 = binV 130 a b) := rfl
  go_enter Try.func21, Try.ntmps21
  go_wp2_with fail
  refine (h1 _).mono ?_
  rintro e w' ⟨rfl, rfl⟩
  go_wp2_with fail
  refine (h2 _).mono ?_
  rintro e w' ⟨rfl, rfl⟩
  generalize wrap32 a = S at *
  generalize wrap32 b = T at *
  go_wp2_with fail
  refine (refWord_any _ _ (by omega) (by omega)).mono ?_
  rintro e w' ⟨rfl, rfl⟩
  go_wp2
  rw [HV.out]
  go_ret2
  exact ⟨rfl, Below.refl _ _⟩

set_option maxHeartbeats 4000000 in
theorem refBin132 (a b : Int) (w : World) (a0 : 0 ≤ a) (a1 : a < 4294967296) (b0 : 0 ≤ b) (b1 : b < 4294967296) : Calls Try.prog 21 #[.int .u16 132, .int .u32 a, .int .u32 b] w fun e w' => e = .returned (.tuple #[.int .u32 (binV 132 a b), .bool true]) ∧ Below w.heap.size w w' := by
  have h1 := fun w => refSigned_any a w a0 a1
  have h2 := fun w => refSigned_any b w b0 b1
  have hI := wrap_in a
  have hJ := wrap_in b
  have hq := div_le a 65536 a0 (by omega)
  have ha : a / 65536 < 65536 := by omega
  have hm := mul_in (a / 65536) b (by omega) (by omega) b0 b1
  have hm2 : a / 65536 * b ≤ 281474976710656 := by
    have := Int.mul_le_mul_of_nonneg_right (show a / 65536 ≤ 65535 by omega) b0
    omega
  have hm3 : a % 65536 * b ≤ 281474976710656 := by
    have := Int.mul_le_mul_of_nonneg_right (show a % 65536 ≤ 65535 by omega) b0
    omega
  have hm4 := mul_in (a % 65536) b (by omega) (by omega) b0 b1
  have HV : Hid ((a / 65536 * b % 4294967296 * 65536 + a % 65536 * b) % 4294967296 = binV 132 a b) := by
    have h := mul_split a b
    show _ = a * b % 4294967296
    rw [← h]
    generalize a / 65536 * b = x
    generalize a % 65536 * b = y
    omega
  go_enter Try.func21, Try.ntmps21
  go_wp2_with fail
  refine (h1 _).mono ?_
  rintro e w' ⟨rfl, rfl⟩
  go_wp2_with fail
  refine (h2 _).mono ?_
  rintro e w' ⟨rfl, rfl⟩
  generalize wrap32 a = S at *
  generalize wrap32 b = T at *
  go_wp2_with fail
  refine (refWord_any _ _ (by omega) (by omega)).mono ?_
  rintro e w' ⟨rfl, rfl⟩
  go_wp2
  rw [HV.out]
  go_ret2
  exact ⟨rfl, Below.refl _ _⟩

set_option maxHeartbeats 4000000 in
theorem refBin134 (a b : Int) (w : World) (a0 : 0 ≤ a) (a1 : a < 4294967296) (b0 : 0 ≤ b) (b1 : b < 4294967296) : Calls Try.prog 21 #[.int .u16 134, .int .u32 a, .int .u32 b] w fun e w' => e = .returned (.tuple #[.int .u32 (binV 134 a b), .bool true]) ∧ Below w.heap.size w w' := by
  have h1 := fun w => refSigned_any a w a0 a1
  have h2 := fun w => refSigned_any b w b0 b1
  have hI := wrap_in a
  have hJ := wrap_in b
  have hD := fun w => refDivided_any 134 a b w a0 a1 b0 b1 (by omega)
  generalize binV 134 a b = V at *
  go_enter Try.func21, Try.ntmps21
  go_wp2_with fail
  refine (h1 _).mono ?_
  rintro e w' ⟨rfl, rfl⟩
  go_wp2_with fail
  refine (h2 _).mono ?_
  rintro e w' ⟨rfl, rfl⟩
  generalize wrap32 a = S at *
  generalize wrap32 b = T at *
  go_wp2_with fail
  refine (hD _).mono ?_
  rintro e w' ⟨rfl, rfl⟩
  go_wp2
  go_ret2
  exact ⟨rfl, Below.refl _ _⟩

set_option maxHeartbeats 4000000 in
theorem refBin137 (a b : Int) (w : World) (a0 : 0 ≤ a) (a1 : a < 4294967296) (b0 : 0 ≤ b) (b1 : b < 4294967296) : Calls Try.prog 21 #[.int .u16 137, .int .u32 a, .int .u32 b] w fun e w' => e = .returned (.tuple #[.int .u32 (binV 137 a b), .bool true]) ∧ Below w.heap.size w w' := by
  have h1 := fun w => refSigned_any a w a0 a1
  have h2 := fun w => refSigned_any b w b0 b1
  have hI := wrap_in a
  have hJ := wrap_in b
  have hD := fun w => refDivided_any 137 a b w a0 a1 b0 b1 (by omega)
  generalize binV 137 a b = V at *
  go_enter Try.func21, Try.ntmps21
  go_wp2_with fail
  refine (h1 _).mono ?_
  rintro e w' ⟨rfl, rfl⟩
  go_wp2_with fail
  refine (h2 _).mono ?_
  rintro e w' ⟨rfl, rfl⟩
  generalize wrap32 a = S at *
  generalize wrap32 b = T at *
  go_wp2_with fail
  refine (hD _).mono ?_
  rintro e w' ⟨rfl, rfl⟩
  go_wp2
  go_ret2
  exact ⟨rfl, Below.refl _ _⟩

set_option maxHeartbeats 4000000 in
theorem refBin135 (a b : Int) (w : World) (a0 : 0 ≤ a) (a1 : a < 4294967296) (b0 : 0 ≤ b) (b1 : b < 4294967296) : Calls Try.prog 21 #[.int .u16 135, .int .u32 a, .int .u32 b] w fun e w' => e = .returned (.tuple #[.int .u32 (binV 135 a b), .bool true]) ∧ Below w.heap.size w w' := by
  have h1 := fun w => refSigned_any a w a0 a1
  have h2 := fun w => refSigned_any b w b0 b1
  have hI := wrap_in a
  have hJ := wrap_in b
  have hD := fun w => refDivided_any 135 a b w a0 a1 b0 b1 (by omega)
  generalize binV 135 a b = V at *
  go_enter Try.func21, Try.ntmps21
  go_wp2_with fail
  refine (h1 _).mono ?_
  rintro e w' ⟨rfl, rfl⟩
  go_wp2_with fail
  refine (h2 _).mono ?_
  rintro e w' ⟨rfl, rfl⟩
  generalize wrap32 a = S at *
  generalize wrap32 b = T at *
  go_wp2_with fail
  refine (hD _).mono ?_
  rintro e w' ⟨rfl, rfl⟩
  go_wp2
  go_ret2
  exact ⟨rfl, Below.refl _ _⟩

set_option maxHeartbeats 4000000 in
theorem refBin138 (a b : Int) (w : World) (a0 : 0 ≤ a) (a1 : a < 4294967296) (b0 : 0 ≤ b) (b1 : b < 4294967296) : Calls Try.prog 21 #[.int .u16 138, .int .u32 a, .int .u32 b] w fun e w' => e = .returned (.tuple #[.int .u32 (binV 138 a b), .bool true]) ∧ Below w.heap.size w w' := by
  have h1 := fun w => refSigned_any a w a0 a1
  have h2 := fun w => refSigned_any b w b0 b1
  have hI := wrap_in a
  have hJ := wrap_in b
  have hD := fun w => refDivided_any 138 a b w a0 a1 b0 b1 (by omega)
  generalize binV 138 a b = V at *
  go_enter Try.func21, Try.ntmps21
  go_wp2_with fail
  refine (h1 _).mono ?_
  rintro e w' ⟨rfl, rfl⟩
  go_wp2_with fail
  refine (h2 _).mono ?_
  rintro e w' ⟨rfl, rfl⟩
  generalize wrap32 a = S at *
  generalize wrap32 b = T at *
  go_wp2_with fail
  refine (hD _).mono ?_
  rintro e w' ⟨rfl, rfl⟩
  go_wp2
  go_ret2
  exact ⟨rfl, Below.refl _ _⟩

set_option maxHeartbeats 4000000 in
theorem refBin139 (a b : Int) (w : World) (a0 : 0 ≤ a) (a1 : a < 4294967296) (b0 : 0 ≤ b) (b1 : b < 4294967296) : Calls Try.prog 21 #[.int .u16 139, .int .u32 a, .int .u32 b] w fun e w' => e = .returned (.tuple #[.int .u32 (binV 139 a b), .bool true]) ∧ Below w.heap.size w w' := by
  have h1 := fun w => refSigned_any a w a0 a1
  have h2 := fun w => refSigned_any b w b0 b1
  have hI := wrap_in a
  have hJ := wrap_in b
  have hD := fun w => refDivided_any 139 a b w a0 a1 b0 b1 (by omega)
  generalize binV 139 a b = V at *
  go_enter Try.func21, Try.ntmps21
  go_wp2_with fail
  refine (h1 _).mono ?_
  rintro e w' ⟨rfl, rfl⟩
  go_wp2_with fail
  refine (h2 _).mono ?_
  rintro e w' ⟨rfl, rfl⟩
  generalize wrap32 a = S at *
  generalize wrap32 b = T at *
  go_wp2_with fail
  refine (hD _).mono ?_
  rintro e w' ⟨rfl, rfl⟩
  go_wp2
  go_ret2
  exact ⟨rfl, Below.refl _ _⟩

end Go.Proofs.Ytbhoimeneekdfaa
