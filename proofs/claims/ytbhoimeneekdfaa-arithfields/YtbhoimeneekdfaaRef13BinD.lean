/-
  What the document's Binary answers, operation by operation.
-/
import Derived.WalkSpells
import Derived.WalkMore
import Derived.Test.YtbhoimeneekdfaaRef13Eqs
namespace Go.Proofs.Ytbhoimeneekdfaa
open Go.RowKit
set_option linter.unusedVariables false
set_option linter.unusedSimpArgs false
set_option maxRecDepth 10000

set_option maxHeartbeats 4000000 in
theorem refBin174 (a b : Int) (w : World) (a0 : 0 ≤ a) (a1 : a < 4294967296) (b0 : 0 ≤ b) (b1 : b < 4294967296) : Calls Try.prog 21 #[.int .u16 174, .int .u32 a, .int .u32 b] w fun e w' => e = .returned (.tuple #[.int .u32 (binV 174 a b), .bool true]) ∧ Below w.heap.size w w' := by
  have h1 := fun w => refSigned_any a w a0 a1
  have h2 := fun w => refSigned_any b w b0 b1
  have hI := wrap_in a
  have hJ := wrap_in b
  go_enter Try.func21, Try.ntmps21
  go_wp2_with fail
  refine (h1 _).mono ?_
  rintro e w' ⟨rfl, rfl⟩
  go_wp2_with fail
  refine (h2 _).mono ?_
  rintro e w' ⟨rfl, rfl⟩
  go_wp2_with fail
  refine (refTruth_any _ _).mono ?_
  rintro e w' ⟨rfl, rfl⟩
  go_wp2
  go_ret2
  exact ⟨by simp [binV, bne_dec, beq_dec], Below.refl _ _⟩

set_option maxHeartbeats 4000000 in
theorem refBin176 (a b : Int) (w : World) (a0 : 0 ≤ a) (a1 : a < 4294967296) (b0 : 0 ≤ b) (b1 : b < 4294967296) : Calls Try.prog 21 #[.int .u16 176, .int .u32 a, .int .u32 b] w fun e w' => e = .returned (.tuple #[.int .u32 (binV 176 a b), .bool true]) ∧ Below w.heap.size w w' := by
  have h1 := fun w => refSigned_any a w a0 a1
  have h2 := fun w => refSigned_any b w b0 b1
  have hI := wrap_in a
  have hJ := wrap_in b
  go_enter Try.func21, Try.ntmps21
  go_wp2_with fail
  refine (h1 _).mono ?_
  rintro e w' ⟨rfl, rfl⟩
  go_wp2_with fail
  refine (h2 _).mono ?_
  rintro e w' ⟨rfl, rfl⟩
  go_wp2_with fail
  refine (refTruth_any _ _).mono ?_
  rintro e w' ⟨rfl, rfl⟩
  go_wp2
  go_ret2
  exact ⟨by simp [binV, bne_dec, beq_dec], Below.refl _ _⟩

set_option maxHeartbeats 4000000 in
theorem refBin178 (a b : Int) (w : World) (a0 : 0 ≤ a) (a1 : a < 4294967296) (b0 : 0 ≤ b) (b1 : b < 4294967296) : Calls Try.prog 21 #[.int .u16 178, .int .u32 a, .int .u32 b] w fun e w' => e = .returned (.tuple #[.int .u32 (binV 178 a b), .bool true]) ∧ Below w.heap.size w w' := by
  have h1 := fun w => refSigned_any a w a0 a1
  have h2 := fun w => refSigned_any b w b0 b1
  have hI := wrap_in a
  have hJ := wrap_in b
  go_enter Try.func21, Try.ntmps21
  go_wp2_with fail
  refine (h1 _).mono ?_
  rintro e w' ⟨rfl, rfl⟩
  go_wp2_with fail
  refine (h2 _).mono ?_
  rintro e w' ⟨rfl, rfl⟩
  go_wp2_with fail
  refine (refTruth_any _ _).mono ?_
  rintro e w' ⟨rfl, rfl⟩
  go_wp2
  go_ret2
  exact ⟨by simp [binV, bne_dec, beq_dec], Below.refl _ _⟩

set_option maxHeartbeats 4000000 in
theorem refBin173 (a b : Int) (w : World) (a0 : 0 ≤ a) (a1 : a < 4294967296) (b0 : 0 ≤ b) (b1 : b < 4294967296) : Calls Try.prog 21 #[.int .u16 173, .int .u32 a, .int .u32 b] w fun e w' => e = .returned (.tuple #[.int .u32 (binV 173 a b), .bool true]) ∧ Below w.heap.size w w' := by
  have h1 := fun w => refSigned_any a w a0 a1
  have h2 := fun w => refSigned_any b w b0 b1
  have hI := wrap_in a
  have hJ := wrap_in b
  go_enter Try.func21, Try.ntmps21
  go_wp2_with fail
  refine (h1 _).mono ?_
  rintro e w' ⟨rfl, rfl⟩
  go_wp2_with fail
  refine (h2 _).mono ?_
  rintro e w' ⟨rfl, rfl⟩
  go_wp2_with fail
  refine (refTruth_any _ _).mono ?_
  rintro e w' ⟨rfl, rfl⟩
  go_wp2
  go_ret2
  exact ⟨by simp [binV, bne_dec, beq_dec], Below.refl _ _⟩

set_option maxHeartbeats 4000000 in
theorem refBin175 (a b : Int) (w : World) (a0 : 0 ≤ a) (a1 : a < 4294967296) (b0 : 0 ≤ b) (b1 : b < 4294967296) : Calls Try.prog 21 #[.int .u16 175, .int .u32 a, .int .u32 b] w fun e w' => e = .returned (.tuple #[.int .u32 (binV 175 a b), .bool true]) ∧ Below w.heap.size w w' := by
  have h1 := fun w => refSigned_any a w a0 a1
  have h2 := fun w => refSigned_any b w b0 b1
  have hI := wrap_in a
  have hJ := wrap_in b
  go_enter Try.func21, Try.ntmps21
  go_wp2_with fail
  refine (h1 _).mono ?_
  rintro e w' ⟨rfl, rfl⟩
  go_wp2_with fail
  refine (h2 _).mono ?_
  rintro e w' ⟨rfl, rfl⟩
  go_wp2_with fail
  refine (refTruth_any _ _).mono ?_
  rintro e w' ⟨rfl, rfl⟩
  go_wp2
  go_ret2
  exact ⟨by simp [binV, bne_dec, beq_dec], Below.refl _ _⟩

set_option maxHeartbeats 4000000 in
theorem refBin177 (a b : Int) (w : World) (a0 : 0 ≤ a) (a1 : a < 4294967296) (b0 : 0 ≤ b) (b1 : b < 4294967296) : Calls Try.prog 21 #[.int .u16 177, .int .u32 a, .int .u32 b] w fun e w' => e = .returned (.tuple #[.int .u32 (binV 177 a b), .bool true]) ∧ Below w.heap.size w w' := by
  have h1 := fun w => refSigned_any a w a0 a1
  have h2 := fun w => refSigned_any b w b0 b1
  have hI := wrap_in a
  have hJ := wrap_in b
  go_enter Try.func21, Try.ntmps21
  go_wp2_with fail
  refine (h1 _).mono ?_
  rintro e w' ⟨rfl, rfl⟩
  go_wp2_with fail
  refine (h2 _).mono ?_
  rintro e w' ⟨rfl, rfl⟩
  go_wp2_with fail
  refine (refTruth_any _ _).mono ?_
  rintro e w' ⟨rfl, rfl⟩
  go_wp2
  go_ret2
  exact ⟨by simp [binV, bne_dec, beq_dec], Below.refl _ _⟩

set_option maxHeartbeats 4000000 in
theorem refBin179 (a b : Int) (w : World) (a0 : 0 ≤ a) (a1 : a < 4294967296) (b0 : 0 ≤ b) (b1 : b < 4294967296) : Calls Try.prog 21 #[.int .u16 179, .int .u32 a, .int .u32 b] w fun e w' => e = .returned (.tuple #[.int .u32 (binV 179 a b), .bool true]) ∧ Below w.heap.size w w' := by
  have h1 := fun w => refSigned_any a w a0 a1
  have h2 := fun w => refSigned_any b w b0 b1
  have hI := wrap_in a
  have hJ := wrap_in b
  go_enter Try.func21, Try.ntmps21
  go_wp2_with fail
  refine (h1 _).mono ?_
  rintro e w' ⟨rfl, rfl⟩
  go_wp2_with fail
  refine (h2 _).mono ?_
  rintro e w' ⟨rfl, rfl⟩
  go_wp2_with fail
  refine (refTruth_any _ _).mono ?_
  rintro e w' ⟨rfl, rfl⟩
  go_wp2
  go_ret2
  exact ⟨by simp [binV, bne_dec, beq_dec], Below.refl _ _⟩

end Go.Proofs.Ytbhoimeneekdfaa
