/-
  What the document's Binary answers, operation by operation.
-/
import Derived.WalkSpells
import Derived.WalkMore
import Derived.Test.YtbhoimeneekdfaaRef13Eqs
namespace Go.Proofs.Ytbhoimeneekdfaa
open Go.RowKit
set_option linter.unusedVariables false
set_option linter.unusedSimpArgs false
set_option maxRecDepth 10000

set_option maxHeartbeats 4000000 in
theorem refBin194 (a b : Int) (w : World) (a0 : 0 ≤ a) (a1 : a < 4294967296) (b0 : 0 ≤ b) (b1 : b < 4294967296) : Calls Try.prog 21 #[.int .u16 194, .int .u32 a, .int .u32 b] w fun e w' => e = .returned (.tuple #[.int .u32 (binV 194 a b), .bool true]) ∧ Below w.heap.size w w' := by
  have h1 := fun w => refSigned_any a w a0 a1
  have h2 := fun w => refSigned_any b w b0 b1
  have hI := wrap_in a
  have hJ := wrap_in b
  have hs := shift_at b b0
  have hD := fun w => refMoved194_any a b _ w a0 a1 b0 b1 hs.1
  have hV : binV 194 a b = _ := (mv194 a _ a0 a1 hs.2).symm
  rw [hV]
  generalize hB (mvB 194 (bt a) (b % 32).toNat) 32 0 = V at *
  clear hV hs
  go_enter Try.func21, Try.ntmps21
  go_wp2_with fail
  refine (h1 _).mono ?_
  rintro e w' ⟨rfl, rfl⟩
  go_wp2_with fail
  refine (h2 _).mono ?_
  rintro e w' ⟨rfl, rfl⟩
  generalize wrap32 a = S at *
  generalize wrap32 b = T at *
  go_wp2_with fail
  refine (hD _).mono ?_
  rintro e w' ⟨rfl, hb⟩
  go_wp2
  go_ret2
  exact ⟨rfl, hb⟩

set_option maxHeartbeats 4000000 in
theorem refBin195 (a b : Int) (w : World) (a0 : 0 ≤ a) (a1 : a < 4294967296) (b0 : 0 ≤ b) (b1 : b < 4294967296) : Calls Try.prog 21 #[.int .u16 195, .int .u32 a, .int .u32 b] w fun e w' => e = .returned (.tuple #[.int .u32 (binV 195 a b), .bool true]) ∧ Below w.heap.size w w' := by
  have h1 := fun w => refSigned_any a w a0 a1
  have h2 := fun w => refSigned_any b w b0 b1
  have hI := wrap_in a
  have hJ := wrap_in b
  have hs := shift_at b b0
  have hD := fun w => refMoved195_any a b _ w a0 a1 b0 b1 hs.1
  have hV : binV 195 a b = _ := (mv195 a _ a0 a1 hs.2).symm
  rw [hV]
  generalize hB (mvB 195 (bt a) (b % 32).toNat) 32 0 = V at *
  clear hV hs
  go_enter Try.func21, Try.ntmps21
  go_wp2_with fail
  refine (h1 _).mono ?_
  rintro e w' ⟨rfl, rfl⟩
  go_wp2_with fail
  refine (h2 _).mono ?_
  rintro e w' ⟨rfl, rfl⟩
  generalize wrap32 a = S at *
  generalize wrap32 b = T at *
  go_wp2_with fail
  refine (hD _).mono ?_
  rintro e w' ⟨rfl, hb⟩
  go_wp2
  go_ret2
  exact ⟨rfl, hb⟩

set_option maxHeartbeats 4000000 in
theorem refBin196 (a b : Int) (w : World) (a0 : 0 ≤ a) (a1 : a < 4294967296) (b0 : 0 ≤ b) (b1 : b < 4294967296) : Calls Try.prog 21 #[.int .u16 196, .int .u32 a, .int .u32 b] w fun e w' => e = .returned (.tuple #[.int .u32 (binV 196 a b), .bool true]) ∧ Below w.heap.size w w' := by
  have h1 := fun w => refSigned_any a w a0 a1
  have h2 := fun w => refSigned_any b w b0 b1
  have hI := wrap_in a
  have hJ := wrap_in b
  have hs := shift_at b b0
  have hD := fun w => refMoved196_any a b _ w a0 a1 b0 b1 hs.1
  have hV : binV 196 a b = _ := (mv196 a _ a0 a1 hs.2).symm
  rw [hV]
  generalize hB (mvB 196 (bt a) (b % 32).toNat) 32 0 = V at *
  clear hV hs
  go_enter Try.func21, Try.ntmps21
  go_wp2_with fail
  refine (h1 _).mono ?_
  rintro e w' ⟨rfl, rfl⟩
  go_wp2_with fail
  refine (h2 _).mono ?_
  rintro e w' ⟨rfl, rfl⟩
  generalize wrap32 a = S at *
  generalize wrap32 b = T at *
  go_wp2_with fail
  refine (hD _).mono ?_
  rintro e w' ⟨rfl, hb⟩
  go_wp2
  go_ret2
  exact ⟨rfl, hb⟩

set_option maxHeartbeats 4000000 in
theorem refBin197 (a b : Int) (w : World) (a0 : 0 ≤ a) (a1 : a < 4294967296) (b0 : 0 ≤ b) (b1 : b < 4294967296) : Calls Try.prog 21 #[.int .u16 197, .int .u32 a, .int .u32 b] w fun e w' => e = .returned (.tuple #[.int .u32 (binV 197 a b), .bool true]) ∧ Below w.heap.size w w' := by
  have h1 := fun w => refSigned_any a w a0 a1
  have h2 := fun w => refSigned_any b w b0 b1
  have hI := wrap_in a
  have hJ := wrap_in b
  have hD := fun w => refBitwise197_any a b w a0 a1 b0 b1
  have hV : binV 197 a b = _ := (bw197 a b a0 a1 b0 b1).symm
  rw [hV]
  generalize hB (bwB 197 (bt a) (bt b)) 32 0 = V at *
  clear hV
  go_enter Try.func21, Try.ntmps21
  go_wp2_with fail
  refine (h1 _).mono ?_
  rintro e w' ⟨rfl, rfl⟩
  go_wp2_with fail
  refine (h2 _).mono ?_
  rintro e w' ⟨rfl, rfl⟩
  generalize wrap32 a = S at *
  generalize wrap32 b = T at *
  go_wp2_with fail
  refine (hD _).mono ?_
  rintro e w' ⟨rfl, hb⟩
  go_wp2
  go_ret2
  exact ⟨rfl, hb⟩

set_option maxHeartbeats 4000000 in
theorem refBin198 (a b : Int) (w : World) (a0 : 0 ≤ a) (a1 : a < 4294967296) (b0 : 0 ≤ b) (b1 : b < 4294967296) : Calls Try.prog 21 #[.int .u16 198, .int .u32 a, .int .u32 b] w fun e w' => e = .returned (.tuple #[.int .u32 (binV 198 a b), .bool true]) ∧ Below w.heap.size w w' := by
  have h1 := fun w => refSigned_any a w a0 a1
  have h2 := fun w => refSigned_any b w b0 b1
  have hI := wrap_in a
  have hJ := wrap_in b
  have hD := fun w => refBitwise198_any a b w a0 a1 b0 b1
  have hV : binV 198 a b = _ := (bw198 a b a0 a1 b0 b1).symm
  rw [hV]
  generalize hB (bwB 198 (bt a) (bt b)) 32 0 = V at *
  clear hV
  go_enter Try.func21, Try.ntmps21
  go_wp2_with fail
  refine (h1 _).mono ?_
  rintro e w' ⟨rfl, rfl⟩
  go_wp2_with fail
  refine (h2 _).mono ?_
  rintro e w' ⟨rfl, rfl⟩
  generalize wrap32 a = S at *
  generalize wrap32 b = T at *
  go_wp2_with fail
  refine (hD _).mono ?_
  rintro e w' ⟨rfl, hb⟩
  go_wp2
  go_ret2
  exact ⟨rfl, hb⟩

set_option maxHeartbeats 4000000 in
theorem refBin199 (a b : Int) (w : World) (a0 : 0 ≤ a) (a1 : a < 4294967296) (b0 : 0 ≤ b) (b1 : b < 4294967296) : Calls Try.prog 21 #[.int .u16 199, .int .u32 a, .int .u32 b] w fun e w' => e = .returned (.tuple #[.int .u32 (binV 199 a b), .bool true]) ∧ Below w.heap.size w w' := by
  have h1 := fun w => refSigned_any a w a0 a1
  have h2 := fun w => refSigned_any b w b0 b1
  have hI := wrap_in a
  have hJ := wrap_in b
  have hD := fun w => refBitwise199_any a b w a0 a1 b0 b1
  have hV : binV 199 a b = _ := (bw199 a b a0 a1 b0 b1).symm
  rw [hV]
  generalize hB (bwB 199 (bt a) (bt b)) 32 0 = V at *
  clear hV
  go_enter Try.func21, Try.ntmps21
  go_wp2_with fail
  refine (h1 _).mono ?_
  rintro e w' ⟨rfl, rfl⟩
  go_wp2_with fail
  refine (h2 _).mono ?_
  rintro e w' ⟨rfl, rfl⟩
  generalize wrap32 a = S at *
  generalize wrap32 b = T at *
  go_wp2_with fail
  refine (hD _).mono ?_
  rintro e w' ⟨rfl, hb⟩
  go_wp2
  go_ret2
  exact ⟨rfl, hb⟩

end Go.Proofs.Ytbhoimeneekdfaa
