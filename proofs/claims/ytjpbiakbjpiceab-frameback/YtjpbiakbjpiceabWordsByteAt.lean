/-
  What byteAt of the words package returns, for every word and every place from 0 to 3.
-/
import Derived.Test.YtjpbiakbjpiceabProg
import Derived.Test.YtjpbiakbjpiceabMath
namespace Go.Proofs.Ytjpbiakbjpiceab
open Go.RowKit

theorem byteAt_any (x p : Int) (w : World) (hx : 0 ≤ x) (hx2 : x < 4294967296) (h0 : 0 ≤ p) (h3 : p < 4) :
    Calls Try.prog 60 #[.int .u32 x, .int .i64 p] w fun e w' => e = .returned (.int .u8 (byt x p.toNat)) ∧ w = w' := by
  rcases (show p = 0 ∨ p = 1 ∨ p = 2 ∨ p = 3 by omega) with rfl | rfl | rfl | rfl
  · go_enter Try.func60, Try.ntmps60
    go_wp2
    go_ret
    exact ⟨ret_int (by simp [byt]), rfl⟩
  · go_enter Try.func60, Try.ntmps60
    go_wp2
    go_ret
    exact ⟨ret_int (by simp [byt]), rfl⟩
  · go_enter Try.func60, Try.ntmps60
    go_wp2
    go_ret
    exact ⟨ret_int (by simp [byt]), rfl⟩
  · go_enter Try.func60, Try.ntmps60
    go_wp2
    go_ret
    exact ⟨ret_int (by simp [byt]; omega), rfl⟩

end Go.Proofs.Ytjpbiakbjpiceab
