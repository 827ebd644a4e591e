/-
  What kindOf of the package layout answers, of some operations.
-/
import Derived.WalkSpells
import Derived.Test.YtpggcpnjcalfaacProg
import Derived.Test.YtpggcpnjcalfaacMath3
import Derived.Test.YtpggcpnjcalfaacLayoutKindO
namespace Go.Proofs.Ytpggcpnjcalfaac
open Go.RowKit
set_option linter.unusedVariables false
set_option linter.unusedSimpArgs false

set_option maxHeartbeats 1000000 in
theorem kindOf_247 (w : World) : Calls Try.prog 29 #[.int .u16 247] w fun e w' => e = .returned (.int .u16 128) ∧ w = w' := by
  go_enter Try.func29, Try.ntmps29
  go_wp2
  go_ret
  simp [or512, or1024, or2048, or2560, or3072, or3584]

set_option maxHeartbeats 1000000 in
theorem kindOf_246 (w : World) : Calls Try.prog 29 #[.int .u16 246] w fun e w' => e = .returned (.int .u16 256) ∧ w = w' := by
  go_enter Try.func29, Try.ntmps29
  go_wp2
  go_ret
  simp [or512, or1024, or2048, or2560, or3072, or3584]

set_option maxHeartbeats 1000000 in
theorem kindOf_250 (w : World) : Calls Try.prog 29 #[.int .u16 250] w fun e w' => e = .returned (.int .u16 3584) ∧ w = w' := by
  go_enter Try.func29, Try.ntmps29
  go_wp2
  go_ret
  simp [or512, or1024, or2048, or2560, or3072, or3584]

end Go.Proofs.Ytpggcpnjcalfaac
