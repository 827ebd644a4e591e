/-
  What the functions byteAt, atPlace and Turned of the words package return, for every word, byte and place from 0 to 3.
-/
import Derived.Test.YtmmpejhmmgkfkaaProg
import Derived.Test.YtmmpejhmmgkfkaaMath
namespace Go.Proofs.Ytmmpejhmmgkfkaa
open Go.RowKit

theorem ret_int {k : IntKind} {a b : Int} (h : a = b) : Ending.returned (.int k a) = .returned (.int k b) := by rw [h]

theorem byteAt_any (x p : Int) (w : World) (hx : 0 ≤ x) (hx2 : x < 4294967296) (h0 : 0 ≤ p) (h3 : p < 4) :
    Calls Try.prog 26 #[.int .u32 x, .int .i64 p] w fun e w' => e = .returned (.int .u8 (byt x p.toNat)) ∧ w = w' := by
  rcases (show p = 0 ∨ p = 1 ∨ p = 2 ∨ p = 3 by omega) with rfl | rfl | rfl | rfl
  · go_enter Try.func26, Try.ntmps26
    go_wp2
    go_ret
    exact ⟨ret_int (by simp [byt]), rfl⟩
  · go_enter Try.func26, Try.ntmps26
    go_wp2
    go_ret
    exact ⟨ret_int (by simp [byt]), rfl⟩
  · go_enter Try.func26, Try.ntmps26
    go_wp2
    go_ret
    exact ⟨ret_int (by simp [byt]), rfl⟩
  · go_enter Try.func26, Try.ntmps26
    go_wp2
    go_ret
    exact ⟨ret_int (by simp [byt]; omega), rfl⟩

theorem atPlace_any (c p : Int) (w : World) (hx : 0 ≤ c) (hx2 : c < 256) (h0 : 0 ≤ p) (h3 : p < 4) :
    Calls Try.prog 25 #[.int .u8 c, .int .i64 p] w fun e w' => e = .returned (.int .u32 (plc c p.toNat)) ∧ w = w' := by
  rcases (show p = 0 ∨ p = 1 ∨ p = 2 ∨ p = 3 by omega) with rfl | rfl | rfl | rfl
  all_goals
    go_enter Try.func25, Try.ntmps25
    go_wp2
    go_ret
    exact ⟨ret_int (by simp [plc]), rfl⟩

theorem turned_any (x : Int) (w : World) (hx : 0 ≤ x) (hx2 : x < 4294967296) :
    Calls Try.prog 17 #[.int .u32 x] w fun e w' => e = .returned (.int .u32 (turnI x)) ∧ w = w' := by
  have a0 := byt_lo x 0
  have b0 := byt_hi x 0
  have a1 := byt_lo x 1
  have b1 := byt_hi x 1
  have a2 := byt_lo x 2
  have b2 := byt_hi x 2
  have a3 := byt_lo x 3
  have b3 := byt_hi x 3
  go_enter Try.func17, Try.ntmps17
  go_wp2
  refine wp_loop_rounds 5 ?_
  rw [rounds_succ]
  go_wp2_with (first | (go_at_call 26; refine (byteAt_any _ _ _ hx hx2 (by omega) (by omega)).mono ?_; rintro e w' ⟨rfl, rfl⟩) | (go_at_call 25; refine (atPlace_any _ _ _ (by assumption) (by assumption) (by omega) (by omega)).mono ?_; rintro e w' ⟨rfl, rfl⟩))
  rw [rounds_succ]
  go_wp2_with (first | (go_at_call 26; refine (byteAt_any _ _ _ hx hx2 (by omega) (by omega)).mono ?_; rintro e w' ⟨rfl, rfl⟩) | (go_at_call 25; refine (atPlace_any _ _ _ (by assumption) (by assumption) (by omega) (by omega)).mono ?_; rintro e w' ⟨rfl, rfl⟩))
  rw [rounds_succ]
  go_wp2_with (first | (go_at_call 26; refine (byteAt_any _ _ _ hx hx2 (by omega) (by omega)).mono ?_; rintro e w' ⟨rfl, rfl⟩) | (go_at_call 25; refine (atPlace_any _ _ _ (by assumption) (by assumption) (by omega) (by omega)).mono ?_; rintro e w' ⟨rfl, rfl⟩))
  rw [rounds_succ]
  go_wp2_with (first | (go_at_call 26; refine (byteAt_any _ _ _ hx hx2 (by omega) (by omega)).mono ?_; rintro e w' ⟨rfl, rfl⟩) | (go_at_call 25; refine (atPlace_any _ _ _ (by assumption) (by assumption) (by omega) (by omega)).mono ?_; rintro e w' ⟨rfl, rfl⟩))
  rw [rounds_succ]
  go_wp2
  go_ret
  exact ⟨ret_int (or_four_high _ _ _ _ a0 b0 a1 b1 a2 b2 a3 b3), rfl⟩
end Go.Proofs.Ytmmpejhmmgkfkaa
