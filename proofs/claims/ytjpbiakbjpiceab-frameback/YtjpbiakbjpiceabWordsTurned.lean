/-
  What Turned of the words package returns, for every word: its bytes the other way round.
-/
import Derived.Test.YtjpbiakbjpiceabProg
import Derived.Test.YtjpbiakbjpiceabMath
import Derived.Test.YtjpbiakbjpiceabWordsByteAt
import Derived.Test.YtjpbiakbjpiceabWordsAtPlace
namespace Go.Proofs.Ytjpbiakbjpiceab
open Go.RowKit

theorem turned_any (x : Int) (w : World) (hx : 0 ≤ x) (hx2 : x < 4294967296) :
    Calls Try.prog 58 #[.int .u32 x] w fun e w' => e = .returned (.int .u32 (turnI x)) ∧ w = w' := by
  have a0 := byt_lo x 0
  have b0 := byt_hi x 0
  have a1 := byt_lo x 1
  have b1 := byt_hi x 1
  have a2 := byt_lo x 2
  have b2 := byt_hi x 2
  have a3 := byt_lo x 3
  have b3 := byt_hi x 3
  go_enter Try.func58, Try.ntmps58
  go_wp2
  refine wp_loop_rounds 5 ?_
  rw [rounds_succ]
  go_wp2_with (first | (go_at_call 60; refine (byteAt_any _ _ _ hx hx2 (by omega) (by omega)).mono ?_; rintro e w' ⟨rfl, rfl⟩) | (go_at_call 59; refine (atPlace_any _ _ _ (by assumption) (by assumption) (by omega) (by omega)).mono ?_; rintro e w' ⟨rfl, rfl⟩))
  rw [rounds_succ]
  go_wp2_with (first | (go_at_call 60; refine (byteAt_any _ _ _ hx hx2 (by omega) (by omega)).mono ?_; rintro e w' ⟨rfl, rfl⟩) | (go_at_call 59; refine (atPlace_any _ _ _ (by assumption) (by assumption) (by omega) (by omega)).mono ?_; rintro e w' ⟨rfl, rfl⟩))
  rw [rounds_succ]
  go_wp2_with (first | (go_at_call 60; refine (byteAt_any _ _ _ hx hx2 (by omega) (by omega)).mono ?_; rintro e w' ⟨rfl, rfl⟩) | (go_at_call 59; refine (atPlace_any _ _ _ (by assumption) (by assumption) (by omega) (by omega)).mono ?_; rintro e w' ⟨rfl, rfl⟩))
  rw [rounds_succ]
  go_wp2_with (first | (go_at_call 60; refine (byteAt_any _ _ _ hx hx2 (by omega) (by omega)).mono ?_; rintro e w' ⟨rfl, rfl⟩) | (go_at_call 59; refine (atPlace_any _ _ _ (by assumption) (by assumption) (by omega) (by omega)).mono ?_; rintro e w' ⟨rfl, rfl⟩))
  rw [rounds_succ]
  go_wp2
  go_ret
  exact ⟨ret_int (or_four_high _ _ _ _ a0 b0 a1 b1 a2 b2 a3 b3), rfl⟩

end Go.Proofs.Ytjpbiakbjpiceab
