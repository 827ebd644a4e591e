/-
  What the switches over texts of the layer grammar answer: the text of the number, for every number.
-/
import Derived.Test.YtjpbiakbjpiceaaProg
import Derived.Test.YtjpbiakbjpiceaaSwitch
import Derived.Test.YtjpbiakbjpiceaaTabG
namespace Go.Proofs.Ytjpbiakbjpiceaa
open Go.RowKit

theorem namingText_any (n : Int) (w : World) : Calls Try.prog 36 #[.int .u16 n] w fun e w' => e = .returned (.string (lookT namingT n)) ∧ w = w' :=
  calls_textSwitch Try.func36 rfl rfl (by decide) rfl (by kernel_rfl) (by decide +kernel) n w

theorem makingText_any (n : Int) (w : World) : Calls Try.prog 37 #[.int .u16 n] w fun e w' => e = .returned (.string (lookT makingT n)) ∧ w = w' :=
  calls_textSwitch Try.func37 rfl rfl (by decide) rfl (by kernel_rfl) (by decide +kernel) n w

theorem countingText_any (n : Int) (w : World) : Calls Try.prog 38 #[.int .u16 n] w fun e w' => e = .returned (.string (lookT countingT n)) ∧ w = w' :=
  calls_textSwitch Try.func38 rfl rfl (by decide) rfl (by kernel_rfl) (by decide +kernel) n w

theorem comparingText_any (n : Int) (w : World) : Calls Try.prog 39 #[.int .u16 n] w fun e w' => e = .returned (.string (lookT comparingT n)) ∧ w = w' :=
  calls_textSwitch Try.func39 rfl rfl (by decide) rfl (by kernel_rfl) (by decide +kernel) n w

theorem bitText_any (n : Int) (w : World) : Calls Try.prog 40 #[.int .u16 n] w fun e w' => e = .returned (.string (lookT bitT n)) ∧ w = w' :=
  calls_textSwitch Try.func40 rfl rfl (by decide) rfl (by kernel_rfl) (by decide +kernel) n w

theorem flowText_any (n : Int) (w : World) : Calls Try.prog 41 #[.int .u16 n] w fun e w' => e = .returned (.string (lookT flowT n)) ∧ w = w' :=
  calls_textSwitch Try.func41 rfl rfl (by decide) rfl (by kernel_rfl) (by decide +kernel) n w

theorem enumText_any (n : Int) (w : World) : Calls Try.prog 31 #[.int .u8 n] w fun e w' => e = .returned (.string (lookT enumT n)) ∧ w = w' :=
  calls_textSwitch Try.func31 rfl rfl (by decide) rfl (by kernel_rfl) (by decide +kernel) n w

end Go.Proofs.Ytjpbiakbjpiceaa
