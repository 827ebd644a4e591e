/-
  What kindOf of the package layout answers, of some operations.
-/
import Derived.WalkSpells
import Derived.Test.YtpggcpnjcalfaacProg
import Derived.Test.YtpggcpnjcalfaacMath3
import Derived.Test.YtpggcpnjcalfaacLayoutKindO
namespace Go.Proofs.Ytpggcpnjcalfaac
open Go.RowKit
set_option linter.unusedVariables false
set_option linter.unusedSimpArgs false

set_option maxHeartbeats 1000000 in
theorem kindOf_other (op : Int) (w : World) (h54 : (op == 54) = false) (h55 : (op == 55) = false) (h56 : (op == 56) = false) (h248 : (op == 248) = false) (h59 : (op == 59) = false) (h245 : (op == 245) = false) (h247 : (op == 247) = false) (h246 : (op == 246) = false) (h250 : (op == 250) = false) (h249 : (op == 249) = false) (h252 : (op == 252) = false) (h253 : (op == 253) = false) (h254 : (op == 254) = false) (h255 : (op == 255) = false) (h251 : (op == 251) = false) : Calls Try.prog 29 #[.int .u16 op] w fun e w' => e = .returned (.int .u16 64) ∧ w = w' := by
  go_enter Try.func29, Try.ntmps29
  go_wp2
  go_ret
  simp

end Go.Proofs.Ytpggcpnjcalfaac
