/-
  Sums of bits.
-/
import Derived.WalkSpells
import Derived.Test.YtpggcpnjcalfaacProg
import Derived.Test.YtpggcpnjcalfaacMath3
namespace Go.Proofs.Ytpggcpnjcalfaac
open Go.RowKit
set_option linter.unusedVariables false
set_option linter.unusedSimpArgs false

theorem or512 : bits .or .u16 0 512 = 512 := by decide +kernel
theorem or2048 : bits .or .u16 0 2048 = 2048 := by decide +kernel
theorem or1024 : bits .or .u16 0 1024 = 1024 := by decide +kernel
theorem or2560 : bits .or .u16 2048 512 = 2560 := by decide +kernel
theorem or3072 : bits .or .u16 1024 2048 = 3072 := by decide +kernel
theorem or3584 : bits .or .u16 3072 512 = 3584 := by decide +kernel

end Go.Proofs.Ytpggcpnjcalfaac
