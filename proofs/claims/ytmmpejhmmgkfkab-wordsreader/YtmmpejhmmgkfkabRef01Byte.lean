/-
  What Byte of the document's answer returns: the k-th byte of words, for every k of theirs.
-/
import Derived.WalkSpells
import Derived.Test.YtmmpejhmmgkfkabProg
import Derived.Test.YtmmpejhmmgkfkabMath
namespace Go.Proofs.Ytmmpejhmmgkfkab
open Go.RowKit

set_option maxHeartbeats 400000 in
theorem refByte_nat (a : Option Addr) (n cap : Nat) (zs : List Int) (w : World) (k : Nat) (ha : View .u32 w a zs) (hl : zs.length = n) (hw : Within 4294967296 zs) (hn : 4 * n ≤ 140737488351232) (hk : k < 4 * n) :
    Calls Try.prog 25 #[.slice a n cap, .int .i64 k] w fun e w' => e = .returned (.int .u8 (nth (joinL zs) k)) ∧ w = w' := by
  have HJ : Hid (nth (joinL zs) k = byt (nth zs (k / 4)) (k % 4)) := joinL_getD zs k (by omega)
  obtain ⟨b, off, rfl, _, c⟩ := ha (k / 4) (by omega)
  have hx := hw.at (k := k / 4) (by omega)
  obtain ⟨X, hX⟩ : ∃ X, X = nth zs (k / 4) := ⟨_, rfl⟩
  rw [← hX] at c hx
  have HX : Hid (X = nth zs (k / 4)) := hX
  have hx0 := hx.1
  have hx1 := hx.2
  clear ha hw hX hx hl
  have i0 : (0 : Int) ≤ (k : Int) / 4 := by omega
  have i1 : (k : Int) / 4 < (n : Int) := by omega
  have ei : ((k : Int) / 4).toNat = k / 4 := by omega
  go_enter Try.func25, Try.ntmps25
  go_wp2
  go_loop [5, 6] (fun x i => ∃ j : Nat, j ≤ k % 4 ∧ i = .int .i64 j ∧ x = .int .u32 (X / 256 ^ j)) (fun _ i => 4 - (intOf i).toNat)
  case atStart => exact ⟨0, Nat.zero_le _, rfl, by simp⟩
  case round =>
    obtain ⟨j, hj, rfl, rfl⟩ := hrel
    have y0 := div_pow_lo X j hx0
    have y1 := div_pow_hi X j _ hx0 hx1
    have HS : Hid (X / 256 ^ j / 256 = X / 256 ^ (j + 1)) := div_pow_succ X j
    have HB : Hid (byt X j = X / 256 ^ j % 256) := rfl
    generalize X / 256 ^ j = y at y0 y1 HS HB
    by_cases hlt : j < k % 4
    · have hlt' : (j : Int) < (k : Int) % 4 := by omega
      go_wp2
      go_round
      case rel => exact ⟨j + 1, by omega, by go_num, by rw [HS.out]⟩
      case measure => simp [intOf]; omega
    · have hlt' : (k : Int) % 4 ≤ (j : Int) := by omega
      go_wp2
      go_ret
      obtain rfl : j = k % 4 := by omega
      exact ⟨ret_int (by rw [HJ.out, ← HX.out, HB.out]), rfl⟩

end Go.Proofs.Ytmmpejhmmgkfkab
