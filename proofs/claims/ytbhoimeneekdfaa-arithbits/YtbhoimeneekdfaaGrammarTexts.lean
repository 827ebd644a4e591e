/-
  What the switches over texts of the layer grammar answer: the text of the number, for every number.
-/
import Derived.Test.YtbhoimeneekdfaaProg
import Derived.Test.YtbhoimeneekdfaaSwitch
import Derived.Test.YtbhoimeneekdfaaTabG
namespace Go.Proofs.Ytbhoimeneekdfaa
open Go.RowKit
set_option maxRecDepth 10000

theorem namingText_any (n : Int) (w : World) : Calls Try.prog 50 #[.int .u16 n] w fun e w' => e = .returned (.string (lookT namingT n)) ∧ w = w' :=
  calls_textSwitch Try.func50 rfl rfl (by decide) rfl (by kernel_rfl) (by decide +kernel) n w

theorem makingText_any (n : Int) (w : World) : Calls Try.prog 51 #[.int .u16 n] w fun e w' => e = .returned (.string (lookT makingT n)) ∧ w = w' :=
  calls_textSwitch Try.func51 rfl rfl (by decide) rfl (by kernel_rfl) (by decide +kernel) n w

theorem countingText_any (n : Int) (w : World) : Calls Try.prog 52 #[.int .u16 n] w fun e w' => e = .returned (.string (lookT countingT n)) ∧ w = w' :=
  calls_textSwitch Try.func52 rfl rfl (by decide) rfl (by kernel_rfl) (by decide +kernel) n w

theorem comparingText_any (n : Int) (w : World) : Calls Try.prog 53 #[.int .u16 n] w fun e w' => e = .returned (.string (lookT comparingT n)) ∧ w = w' :=
  calls_textSwitch Try.func53 rfl rfl (by decide) rfl (by kernel_rfl) (by decide +kernel) n w

theorem bitText_any (n : Int) (w : World) : Calls Try.prog 54 #[.int .u16 n] w fun e w' => e = .returned (.string (lookT bitT n)) ∧ w = w' :=
  calls_textSwitch Try.func54 rfl rfl (by decide) rfl (by kernel_rfl) (by decide +kernel) n w

theorem flowText_any (n : Int) (w : World) : Calls Try.prog 55 #[.int .u16 n] w fun e w' => e = .returned (.string (lookT flowT n)) ∧ w = w' :=
  calls_textSwitch Try.func55 rfl rfl (by decide) rfl (by kernel_rfl) (by decide +kernel) n w

end Go.Proofs.Ytbhoimeneekdfaa
