/-
  What Ends of the package layout and Ends of the document answer.
-/
import Derived.WalkSpells
import Derived.Test.YtpggcpnjcalfaacLayoutKindOf
namespace Go.Proofs.Ytpggcpnjcalfaac
open Go.RowKit
set_option linter.unusedVariables false
set_option linter.unusedSimpArgs false

theorem kind_ends (op : Int) : (bits .and .u16 (kindOp op) 512 == 0) = !(endsB op) := by
  by_cases h54 : op = 54
  · subst h54; decide +kernel
  by_cases h55 : op = 55
  · subst h55; decide +kernel
  by_cases h56 : op = 56
  · subst h56; decide +kernel
  by_cases h248 : op = 248
  · subst h248; decide +kernel
  by_cases h59 : op = 59
  · subst h59; decide +kernel
  by_cases h245 : op = 245
  · subst h245; decide +kernel
  by_cases h247 : op = 247
  · subst h247; decide +kernel
  by_cases h246 : op = 246
  · subst h246; decide +kernel
  by_cases h250 : op = 250
  · subst h250; decide +kernel
  by_cases h249 : op = 249
  · subst h249; decide +kernel
  by_cases h252 : op = 252
  · subst h252; decide +kernel
  by_cases h253 : op = 253
  · subst h253; decide +kernel
  by_cases h254 : op = 254
  · subst h254; decide +kernel
  by_cases h255 : op = 255
  · subst h255; decide +kernel
  by_cases h251 : op = 251
  · subst h251; decide +kernel
  have e : kindOp op = 64 := by
    unfold kindOp
    simp [h54, h55, h56, h248, h59, h245, h247, h246, h250, h249, h252, h253, h254, h255, h251]
  have e2 : endsB op = false := by unfold endsB; simp; omega
  rw [e, e2]
  decide +kernel

set_option maxHeartbeats 1000000 in
theorem ends_any (op : Int) (w : World) : Calls Try.prog 16 #[.int .u16 op] w fun e w' => e = .returned (.bool (endsB op)) ∧ w = w' := by
  have hK := fun w => kindOf_any op w
  have hE := kind_ends op
  generalize kindOp op = k at *
  go_enter Try.func16, Try.ntmps16
  go_wp2_with fail
  refine (hK _).mono ?_
  rintro e w' ⟨rfl, rfl⟩
  go_wp2
  go_ret
  simp [bne, hE]

set_option maxHeartbeats 1000000 in
theorem refEnds_any (op : Int) (w : World) : Calls Try.prog 17 #[.int .u16 op] w fun e w' => e = .returned (.bool (endsB op)) ∧ w = w' := by
  go_enter Try.func17, Try.ntmps17
  go_wp2
  all_goals
    go_ret
    refine ⟨congrArg (fun b => Ending.returned (.bool b)) ?_, rfl⟩
    first | (rw [Bool.eq_iff_iff]; simp [endsB]; omega) | (simp [endsB]; omega) | simp_all [endsB]

end Go.Proofs.Ytpggcpnjcalfaac
