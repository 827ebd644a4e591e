/-
  What kindOf of the package layout answers, of some operations.
-/
import Derived.WalkSpells
import Derived.Test.YtpggcpnjcalfaacProg
import Derived.Test.YtpggcpnjcalfaacMath3
import Derived.Test.YtpggcpnjcalfaacLayoutKindO
namespace Go.Proofs.Ytpggcpnjcalfaac
open Go.RowKit
set_option linter.unusedVariables false
set_option linter.unusedSimpArgs false

set_option maxHeartbeats 1000000 in
theorem kindOf_54 (w : World) : Calls Try.prog 29 #[.int .u16 54] w fun e w' => e = .returned (.int .u16 1) ∧ w = w' := by
  go_enter Try.func29, Try.ntmps29
  go_wp2
  go_ret
  simp [or512, or1024, or2048, or2560, or3072, or3584]

set_option maxHeartbeats 1000000 in
theorem kindOf_55 (w : World) : Calls Try.prog 29 #[.int .u16 55] w fun e w' => e = .returned (.int .u16 2) ∧ w = w' := by
  go_enter Try.func29, Try.ntmps29
  go_wp2
  go_ret
  simp [or512, or1024, or2048, or2560, or3072, or3584]

set_option maxHeartbeats 1000000 in
theorem kindOf_56 (w : World) : Calls Try.prog 29 #[.int .u16 56] w fun e w' => e = .returned (.int .u16 4) ∧ w = w' := by
  go_enter Try.func29, Try.ntmps29
  go_wp2
  go_ret
  simp [or512, or1024, or2048, or2560, or3072, or3584]

set_option maxHeartbeats 1000000 in
theorem kindOf_248 (w : World) : Calls Try.prog 29 #[.int .u16 248] w fun e w' => e = .returned (.int .u16 8) ∧ w = w' := by
  go_enter Try.func29, Try.ntmps29
  go_wp2
  go_ret
  simp [or512, or1024, or2048, or2560, or3072, or3584]

set_option maxHeartbeats 1000000 in
theorem kindOf_59 (w : World) : Calls Try.prog 29 #[.int .u16 59] w fun e w' => e = .returned (.int .u16 16) ∧ w = w' := by
  go_enter Try.func29, Try.ntmps29
  go_wp2
  go_ret
  simp [or512, or1024, or2048, or2560, or3072, or3584]

set_option maxHeartbeats 1000000 in
theorem kindOf_245 (w : World) : Calls Try.prog 29 #[.int .u16 245] w fun e w' => e = .returned (.int .u16 32) ∧ w = w' := by
  go_enter Try.func29, Try.ntmps29
  go_wp2
  go_ret
  simp [or512, or1024, or2048, or2560, or3072, or3584]

end Go.Proofs.Ytpggcpnjcalfaac
