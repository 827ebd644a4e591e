/-
  What the document's moved, bitwise and divided answer is what the operations make: plain mathematics.
-/
import Derived.WalkKit
import Derived.Test.YtbhoimeneekdfaaRef13Bitwise
namespace Go.Proofs.Ytbhoimeneekdfaa
open Go.RowKit
set_option linter.unusedVariables false
set_option linter.unusedSimpArgs false

theorem mv194 (a : Int) (n : Nat) (a0 : 0 ≤ a) (a1 : a < 4294967296) (hn : n < 32) : hB (mvB 194 (bt a) n) 32 0 = a / 2 ^ n := by
  refine hB_eq _ _ (mvB_01 194 _ (is01_bt a) n) (Int.ediv_nonneg a0 (Int.le_of_lt (two_pos n))) (Int.lt_of_le_of_lt (Int.ediv_le_self _ a0) a1) fun k hk => ?_
  rw [bt_div]
  by_cases h : k + n < 32
  · rw [Nat.add_comm n k]; simp [mvB, h]
  · simp only [mvB, h]
    rw [bt_above a 32 (n + k) a0 a1 (by omega)]
    simp
theorem mv195 (a : Int) (n : Nat) (a0 : 0 ≤ a) (a1 : a < 4294967296) (hn : n < 32) : hB (mvB 195 (bt a) n) 32 0 = wrap32 a / 2 ^ n % 4294967296 := by
  refine hB_eq _ _ (mvB_01 195 _ (is01_bt a) n) (by omega) (by omega) fun k hk => ?_
  rw [bt_mod32 _ _ hk, bt_div]
  by_cases h : k + n < 32
  · rw [bt_wrap32 a (n + k) (by omega)]
    rw [Nat.add_comm n k]; simp [mvB, h]
  · rw [bt_wrapHi a (n + k) (by omega)]
    simp [mvB, h]
theorem mv196 (a : Int) (n : Nat) (a0 : 0 ≤ a) (a1 : a < 4294967296) (hn : n < 32) : hB (mvB 196 (bt a) n) 32 0 = a * 2 ^ n % 4294967296 := by
  refine hB_eq _ _ (mvB_01 196 _ (is01_bt a) n) (by omega) (by omega) fun k hk => ?_
  rw [bt_mod32 _ _ hk, bt_mul]
  by_cases h : k < n
  · simp [mvB, h, show ¬ n ≤ k by omega]
  · simp [mvB, h, show n ≤ k by omega]
theorem bw197 (a b : Int) (a0 : 0 ≤ a) (a1 : a < 4294967296) (b0 : 0 ≤ b) (b1 : b < 4294967296) : hB (bwB 197 (bt a) (bt b)) 32 0 = bits .or .u32 a b := by
  refine hB_eq _ _ (bwB_01 197 _ _) (or_in a b a0 a1 b0 b1).1 (or_in a b a0 a1 b0 b1).2 fun k hk => ?_
  rw [bt_orW a b k a0 a1 b0 b1]
  rcases bt_or a k with h | h <;> rcases bt_or b k with h' | h' <;> simp [bwB, bwP, b2i, h, h']
theorem bw198 (a b : Int) (a0 : 0 ≤ a) (a1 : a < 4294967296) (b0 : 0 ≤ b) (b1 : b < 4294967296) : hB (bwB 198 (bt a) (bt b)) 32 0 = bits .xor .u32 a b := by
  refine hB_eq _ _ (bwB_01 198 _ _) (xor_in a b a0 a1 b0 b1).1 (xor_in a b a0 a1 b0 b1).2 fun k hk => ?_
  rw [bt_xorW a b k a0 a1 b0 b1]
  rcases bt_or a k with h | h <;> rcases bt_or b k with h' | h' <;> simp [bwB, bwP, b2i, h, h']
theorem bw199 (a b : Int) (a0 : 0 ≤ a) (a1 : a < 4294967296) (b0 : 0 ≤ b) (b1 : b < 4294967296) : hB (bwB 199 (bt a) (bt b)) 32 0 = bits .and .u32 a b := by
  refine hB_eq _ _ (bwB_01 199 _ _) (and_in a b a0 a1 b0 b1).1 (and_in a b a0 a1 b0 b1).2 fun k hk => ?_
  rw [bt_andW a b k a0 a1 b0 b1]
  rcases bt_or a k with h | h <;> rcases bt_or b k with h' | h' <;> simp [bwB, bwP, b2i, h, h']
theorem shift_at (b : Int) (b0 : 0 ≤ b) : b % 32 = (((b % 32).toNat : Nat) : Int) ∧ (b % 32).toNat < 32 := by omega
theorem mul_split (a b : Int) : ((a / 65536 * b) % 4294967296 * 65536 % 4294967296 + a % 65536 * b % 4294967296) % 4294967296 = a * b % 4294967296 := by
  have e : a * b = (a / 65536 * b) * 65536 + a % 65536 * b := by
    have h : a = a / 65536 * 65536 + a % 65536 := by omega
    rw [show a * b = (a / 65536 * 65536 + a % 65536) * b by rw [← h], Int.add_mul]
    congr 1
    ac_rfl
  rw [e]
  generalize a / 65536 * b = x
  generalize a % 65536 * b = y
  omega

theorem refDivided_any (op a b : Int) (w : World) (a0 : 0 ≤ a) (a1 : a < 4294967296) (b0 : 0 ≤ b) (b1 : b < 4294967296) (hop : op = 134 ∨ op = 135 ∨ op = 137 ∨ op = 138 ∨ op = 139) : Calls Try.prog 37 #[.int .u16 op, .int .u32 a, .int .u32 b] w fun e w' => e = .returned (.int .u32 (binV op a b)) ∧ w = w' := by
  by_cases hb : b = 0
  · subst hb
    have hv : binV op a 0 = 0 := by rcases hop with rfl | rfl | rfl | rfl | rfl <;> simp [binV]
    rw [hv]
    go_enter Try.func37, Try.ntmps37
    go_wp2
    go_ret
    exact ⟨rfl, rfl⟩
  · have wz := wrap_zero b b0 b1 hb
    have wa := wrap_in a
    have wb := wrap_in b
    have dl := div_le a b a0 b0
    have td := tdiv_in (wrap32 a) (wrap32 b) wa wz
    have tr := tmod_in (wrap32 a) (wrap32 b) wz
    have ts := tmod_sub (wrap32 a) (wrap32 b)
    have me := Int.emod_def a b
    have ml := mod_lt a b b0 hb
    have mp := Int.mul_nonneg b0 dl.1
    have key := refDivided_at op a b _ _ _ _ _ _ w a0 a1 b0 b1 hb hop rfl rfl wa wb wz rfl td ts (by omega) (by omega) rfl rfl (by omega) dl
    refine key.mono ?_
    rintro e w' ⟨rfl, rfl⟩
    refine ⟨ret_int ?_, rfl⟩
    rcases hop with rfl | rfl | rfl | rfl | rfl
    · simp [binV, hb]; omega
    · simp [binV, hb]
    · simp [binV, hb]; omega
    · simp [binV, hb]
    · simp only [binV, hb, flo]
      simp
      split <;> rfl

end Go.Proofs.Ytbhoimeneekdfaa
