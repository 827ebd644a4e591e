/-
  What atPlace of the words package returns, for every byte and every place from 0 to 3.
-/
import Derived.Test.YtjpbiakbjpiceabProg
import Derived.Test.YtjpbiakbjpiceabMath
namespace Go.Proofs.Ytjpbiakbjpiceab
open Go.RowKit

theorem atPlace_any (c p : Int) (w : World) (hx : 0 ≤ c) (hx2 : c < 256) (h0 : 0 ≤ p) (h3 : p < 4) :
    Calls Try.prog 59 #[.int .u8 c, .int .i64 p] w fun e w' => e = .returned (.int .u32 (plc c p.toNat)) ∧ w = w' := by
  rcases (show p = 0 ∨ p = 1 ∨ p = 2 ∨ p = 3 by omega) with rfl | rfl | rfl | rfl
  all_goals
    go_enter Try.func59, Try.ntmps59
    go_wp2
    go_ret
    exact ⟨ret_int (by simp [plc]), rfl⟩

end Go.Proofs.Ytjpbiakbjpiceab
