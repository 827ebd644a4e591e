/-
  The bits of numbers, as plain mathematics.
-/
import Derived.WalkKit
import Derived.Laws.BitsAllLaws
import Derived.Test.YtbhoimeneekdfaaMath
namespace Go.Proofs.Ytbhoimeneekdfaa
open Go.RowKit
set_option linter.unusedVariables false
set_option linter.unusedSimpArgs false

theorem two_pos (k : Nat) : (0 : Int) < 2 ^ k := by
  have : (0 : Nat) < 2 ^ k := Nat.two_pow_pos k
  have h : ((2 ^ k : Nat) : Int) = (2 : Int) ^ k := by simp
  omega
theorem two_succ (k : Nat) : (2 : Int) ^ (k + 1) = 2 ^ k * 2 := Int.pow_succ ..

/-- The bit k of a number. -/
def bt (a : Int) (k : Nat) : Int := a / 2 ^ k % 2
theorem bt_or (a : Int) (k : Nat) : bt a k = 0 ∨ bt a k = 1 := by unfold bt; omega
theorem bt_lo (a : Int) (k : Nat) : 0 ≤ bt a k := by unfold bt; omega
theorem bt_hi (a : Int) (k : Nat) : bt a k < 2 := by unfold bt; omega
theorem bt_zero (a : Int) : bt a 0 = a % 2 := by simp [bt]
theorem bt_half (a : Int) (k : Nat) : bt (a / 2) k = bt a (k + 1) := by
  unfold bt
  rw [two_succ, Int.mul_comm, ← Int.ediv_ediv_of_nonneg (by omega)]
theorem bt_div (a : Int) (n k : Nat) : bt (a / 2 ^ n) k = bt a (n + k) := by
  unfold bt
  rw [Int.pow_add, ← Int.ediv_ediv_of_nonneg (Int.le_of_lt (two_pos n))]
/-- What stands above changes no bit below. -/
theorem bt_add (a c : Int) (n k : Nat) (h : k < n) : bt (a + c * 2 ^ n) k = bt a k := by
  obtain ⟨d, rfl⟩ : ∃ d, n = k + 1 + d := ⟨n - k - 1, by omega⟩
  unfold bt
  rw [show a + c * 2 ^ (k + 1 + d) = a + (c * 2 ^ d * 2) * 2 ^ k by rw [Int.pow_add, two_succ]; ac_rfl, Int.add_mul_ediv_right _ _ (by have := two_pos k; omega)]
  omega
theorem bt_mod (a : Int) (n k : Nat) (h : k < n) : bt (a % 2 ^ n) k = bt a k := by
  have e : a = a % 2 ^ n + a / 2 ^ n * 2 ^ n := by have := Int.emod_add_mul_ediv a (2 ^ n); rw [Int.mul_comm] at this; omega
  rw [show bt a k = bt (a % 2 ^ n + a / 2 ^ n * 2 ^ n) k by rw [← e], bt_add _ _ _ _ h]
theorem bt_mod32 (a : Int) (k : Nat) (h : k < 32) : bt (a % 4294967296) k = bt a k := bt_mod a 32 k h
/-- Bits of a number moved up. -/
theorem bt_mul (a : Int) (n k : Nat) : bt (a * 2 ^ n) k = if k < n then 0 else bt a (k - n) := by
  split
  · rename_i h
    have := bt_add 0 a n k h
    rw [Int.zero_add] at this
    rw [this]; unfold bt; simp
  · rename_i h
    obtain ⟨d, rfl⟩ : ∃ d, k = n + d := ⟨k - n, by omega⟩
    rw [show n + d - n = d by omega, ← bt_div, Int.mul_ediv_cancel _ (by have := two_pos n; omega)]
/-- A number below 2^n has no bits from n on. -/
theorem bt_above (a : Int) (n k : Nat) (h0 : 0 ≤ a) (h1 : a < 2 ^ n) (h : n ≤ k) : bt a k = 0 := by
  obtain ⟨d, rfl⟩ : ∃ d, k = n + d := ⟨k - n, by omega⟩
  rw [← bt_div, Int.ediv_eq_zero_of_lt h0 h1]
  unfold bt; simp
/-- Numbers below 2^n of the same bits are the same. -/
theorem bits_ext : ∀ (n : Nat) (a b : Int), 0 ≤ a → a < 2 ^ n → 0 ≤ b → b < 2 ^ n → (∀ k, k < n → bt a k = bt b k) → a = b
  | 0, a, b, a0, a1, b0, b1, _ => by simp at a1 b1; omega
  | n + 1, a, b, a0, a1, b0, b1, h => by
    rw [two_succ] at a1 b1
    have e := bits_ext n (a / 2) (b / 2) (by omega) (by omega) (by omega) (by omega) (fun k hk => by rw [bt_half, bt_half]; exact h (k + 1) (by omega))
    have := h 0 (by omega)
    rw [bt_zero, bt_zero] at this
    omega
theorem word_ext (a b : Int) (a0 : 0 ≤ a) (a1 : a < 4294967296) (b0 : 0 ≤ b) (b1 : b < 4294967296) (h : ∀ k, k < 32 → bt a k = bt b k) : a = b := bits_ext 32 a b a0 a1 b0 b1 h

/-- The number of n bits from the place m on. -/
def hB (f : Nat → Int) : Nat → Nat → Int
  | 0, _ => 0
  | n + 1, m => f m + 2 * hB f n (m + 1)
/-- Bits: each is 0 or 1. -/
def Is01 (f : Nat → Int) : Prop := ∀ k, f k = 0 ∨ f k = 1
theorem is01_bt (a : Int) : Is01 (bt a) := bt_or a
theorem hB_in (f : Nat → Int) (hf : Is01 f) : ∀ n m, 0 ≤ hB f n m ∧ hB f n m < 2 ^ n
  | 0, m => by simp [hB]
  | n + 1, m => by
    have ih := hB_in f hf n (m + 1)
    have := hf m
    rw [hB, two_succ]; omega
theorem bt_hB (f : Nat → Int) (hf : Is01 f) : ∀ n m k, k < n → bt (hB f n m) k = f (m + k)
  | 0, m, k, h => by omega
  | n + 1, m, 0, h => by
    have := hf m
    rw [bt_zero, hB]; simp; omega
  | n + 1, m, k + 1, h => by
    have := hf m
    rw [← bt_half, hB, show (f m + 2 * hB f n (m + 1)) / 2 = hB f n (m + 1) by omega, bt_hB f hf n (m + 1) k (by omega)]
    congr 1; omega
theorem hB_congr (f g : Nat → Int) : ∀ n m, (∀ k, m ≤ k → k < m + n → f k = g k) → hB f n m = hB g n m
  | 0, m, h => rfl
  | n + 1, m, h => by rw [hB, hB, h m (by omega) (by omega), hB_congr f g n (m + 1) (fun k h1 h2 => h k (by omega) (by omega))]
theorem hB_word (f : Nat → Int) (hf : Is01 f) : 0 ≤ hB f 32 0 ∧ hB f 32 0 < 4294967296 := hB_in f hf 32 0
theorem bt_word (f : Nat → Int) (hf : Is01 f) (k : Nat) (h : k < 32) : bt (hB f 32 0) k = f k := by rw [bt_hB f hf 32 0 k h, Nat.zero_add]
/-- A word is the number of its bits. -/
theorem hB_eq (a : Int) (f : Nat → Int) (hf : Is01 f) (a0 : 0 ≤ a) (a1 : a < 4294967296) (h : ∀ k, k < 32 → bt a k = f k) : hB f 32 0 = a :=
  word_ext _ _ (hB_word f hf).1 (hB_word f hf).2 a0 a1 fun k hk => by rw [bt_word f hf k hk, h k hk]
theorem hB_bt (a : Int) (a0 : 0 ≤ a) (a1 : a < 4294967296) : hB (bt a) 32 0 = a := hB_eq a _ (is01_bt a) a0 a1 fun _ _ => rfl

/-- How many of the first n bits are 1. -/
def cntB (f : Nat → Int) : Nat → Int
  | 0 => 0
  | n + 1 => cntB f n + f n
theorem cntB_in (f : Nat → Int) (hf : Is01 f) : ∀ n : Nat, 0 ≤ cntB f n ∧ cntB f n ≤ (n : Int)
  | 0 => by simp [cntB]
  | n + 1 => by have := cntB_in f hf n; have := hf n; rw [cntB]; omega
theorem cntB_congr (f g : Nat → Int) : ∀ n, (∀ k, k < n → f k = g k) → cntB f n = cntB g n
  | 0, h => rfl
  | n + 1, h => by rw [cntB, cntB, cntB_congr f g n (fun k hk => h k (by omega)), h n (by omega)]
theorem cntB_zero (a : Int) (a0 : 0 ≤ a) (a1 : a < 4294967296) : cntB (bt a) 32 = 0 ↔ a = 0 := by
  constructor
  · intro h
    have key : ∀ n, cntB (bt a) n = 0 → ∀ k, k < n → bt a k = 0 := by
      intro n
      induction n with
      | zero => intro _ k hk; omega
      | succ n ih =>
        intro h k hk
        rw [cntB] at h
        have h1 := (cntB_in (bt a) (is01_bt a) n).1
        have h2 := bt_lo a n
        by_cases e : k = n
        · subst e; omega
        · exact ih (by omega) k (by omega)
    exact word_ext a 0 a0 a1 (by omega) (by omega) fun k hk => by rw [key 32 h k hk]; unfold bt; simp
  · intro h
    subst h
    have key : ∀ n, cntB (bt 0) n = 0 := by
      intro n
      induction n with
      | zero => rfl
      | succ n ih => rw [cntB, ih]; unfold bt; simp
    exact key 32

/-! ### bit by bit -/
theorem testBit_bt (n k : Nat) : bt (n : Int) k = if n.testBit k = true then 1 else 0 := by
  unfold bt
  rw [show ((2 : Int) ^ k) = ((2 ^ k : Nat) : Int) by simp]
  rw [← Int.natCast_ediv, Nat.testBit_eq_decide_div_mod_eq]
  simp only [decide_eq_true_eq]
  split <;> omega
theorem bt_orW (a b : Int) (k : Nat) (a0 : 0 ≤ a) (a1 : a < 4294967296) (b0 : 0 ≤ b) (b1 : b < 4294967296) : bt (bits .or .u32 a b) k = if bt a k = 1 ∨ bt b k = 1 then 1 else 0 := by
  obtain ⟨m, rfl⟩ := Int.eq_ofNat_of_zero_le a0
  obtain ⟨n, rfl⟩ := Int.eq_ofNat_of_zero_le b0
  rw [u32_or_nat _ _ (by omega) (by omega), testBit_bt, testBit_bt, testBit_bt, Nat.testBit_or]
  cases m.testBit k <;> cases n.testBit k <;> simp
theorem bt_andW (a b : Int) (k : Nat) (a0 : 0 ≤ a) (a1 : a < 4294967296) (b0 : 0 ≤ b) (b1 : b < 4294967296) : bt (bits .and .u32 a b) k = if bt a k = 1 ∧ bt b k = 1 then 1 else 0 := by
  obtain ⟨m, rfl⟩ := Int.eq_ofNat_of_zero_le a0
  obtain ⟨n, rfl⟩ := Int.eq_ofNat_of_zero_le b0
  rw [u32_and_nat _ _ (by omega) (by omega), testBit_bt, testBit_bt, testBit_bt, Nat.testBit_and]
  cases m.testBit k <;> cases n.testBit k <;> simp
theorem bt_xorW (a b : Int) (k : Nat) (a0 : 0 ≤ a) (a1 : a < 4294967296) (b0 : 0 ≤ b) (b1 : b < 4294967296) : bt (bits .xor .u32 a b) k = if bt a k = bt b k then 0 else 1 := by
  obtain ⟨m, rfl⟩ := Int.eq_ofNat_of_zero_le a0
  obtain ⟨n, rfl⟩ := Int.eq_ofNat_of_zero_le b0
  rw [u32_xor_nat _ _ (by omega) (by omega), testBit_bt, testBit_bt, testBit_bt, Nat.testBit_xor]
  cases m.testBit k <;> cases n.testBit k <;> simp
theorem nat_in {x : Int} {n : Nat} (h : x = (n : Int)) (hn : n < 4294967296) : 0 ≤ x ∧ x < 4294967296 := by omega
theorem or_in (a b : Int) (a0 : 0 ≤ a) (a1 : a < 4294967296) (b0 : 0 ≤ b) (b1 : b < 4294967296) : 0 ≤ bits .or .u32 a b ∧ bits .or .u32 a b < 4294967296 := by
  obtain ⟨m, rfl⟩ := Int.eq_ofNat_of_zero_le a0
  obtain ⟨n, rfl⟩ := Int.eq_ofNat_of_zero_le b0
  exact nat_in (u32_or_nat _ _ (by omega) (by omega)) (Nat.or_lt_two_pow (n := 32) (by omega) (by omega))
theorem and_in (a b : Int) (a0 : 0 ≤ a) (a1 : a < 4294967296) (b0 : 0 ≤ b) (b1 : b < 4294967296) : 0 ≤ bits .and .u32 a b ∧ bits .and .u32 a b < 4294967296 := by
  obtain ⟨m, rfl⟩ := Int.eq_ofNat_of_zero_le a0
  obtain ⟨n, rfl⟩ := Int.eq_ofNat_of_zero_le b0
  exact nat_in (u32_and_nat _ _ (by omega) (by omega)) (Nat.and_lt_two_pow (n := 32) _ (by omega))
theorem xor_in (a b : Int) (a0 : 0 ≤ a) (a1 : a < 4294967296) (b0 : 0 ≤ b) (b1 : b < 4294967296) : 0 ≤ bits .xor .u32 a b ∧ bits .xor .u32 a b < 4294967296 := by
  obtain ⟨m, rfl⟩ := Int.eq_ofNat_of_zero_le a0
  obtain ⟨n, rfl⟩ := Int.eq_ofNat_of_zero_le b0
  exact nat_in (u32_xor_nat _ _ (by omega) (by omega)) (Nat.xor_lt_two_pow (n := 32) (by omega) (by omega))

/-! ### signed words -/
theorem bt_wrap32 (a : Int) (k : Nat) (h : k < 32) : bt (wrap32 a) k = bt a k := by
  have e : a = wrap32 a + ((a + 2147483648) / 4294967296) * 2 ^ 32 := by unfold wrap32; omega
  rw [show bt a k = bt (wrap32 a + ((a + 2147483648) / 4294967296) * 2 ^ 32) k by rw [← e], bt_add _ _ _ _ h]
theorem bt_wrapHi (a : Int) (k : Nat) (h : 31 ≤ k) : bt (wrap32 a) k = bt a 31 := by
  rw [← bt_wrap32 a 31 (by omega)]
  have l1 : -2147483648 ≤ wrap32 a := by unfold wrap32; omega
  have l2 : wrap32 a < 2147483648 := by unfold wrap32; omega
  generalize wrap32 a = x at *
  obtain ⟨d, rfl⟩ : ∃ d, k = 31 + d := ⟨k - 31, by omega⟩
  rw [← bt_div x 31 d, ← Nat.add_zero 31, ← bt_div x 31 0]
  have e : x / 2 ^ 31 = 0 ∨ x / 2 ^ 31 = -1 := by omega
  rcases e with e | e
  · rw [e]; unfold bt; simp
  · rw [e]
    unfold bt
    have h1 : (-1 : Int) / 2 ^ d = -1 := by
      have := two_pos d
      exact (Int.ediv_eq_iff_of_pos this).2 (by omega)
    rw [h1]; simp

end Go.Proofs.Ytbhoimeneekdfaa
