/-
  What Pair of arith answers, for all operations and words.
-/
import Derived.WalkSpells
import Derived.WalkMore
import Derived.Laws.EntriesVeiled
import Derived.Test.YtaegchobdhbjmaaMathAr
import Derived.Test.YtaegchobdhbjmaaMathDv
import Derived.Test.YtaegchobdhbjmaaArithTwos
namespace Go.Proofs.Ytaegchobdhbjmaa
open Go.RowKit Go.Maps
set_option linter.unusedVariables false
set_option linter.unusedSimpArgs false
set_option maxRecDepth 10000

/-- The first and the second answer. -/
def prX (op a b : Int) : Int := if op = 149 then (a + b) % 4294967296 else if op = 150 then (a - b) % 4294967296 else if op = 151 then a * b % 4294967296 else if op = 152 then wrap32 a * wrap32 b % 4294967296 else 0
def prY (op a b : Int) : Int := if op = 149 then b2i (decide (4294967296 ≤ a + b)) else if op = 150 then b2i (decide (a < b)) else if op = 151 then a * b / 4294967296 else if op = 152 then wrap32 a * wrap32 b / 4294967296 % 4294967296 else 0
def prB (op : Int) : Bool := decide (op = 149 ∨ op = 150 ∨ op = 151 ∨ op = 152)

theorem parted_any (n : Int) (w : World) (h0 : 0 ≤ n) (h1 : n < 18446744073709551616) : Calls Try.prog 38 #[.int .u64 n] w fun e w' => e = .returned (.tuple #[.int .u32 (n % 4294967296), .int .u32 (n / 4294967296)]) ∧ w = w' := by
  go_enter Try.func38, Try.ntmps38
  go_wp2
  go_ret2
  exact ⟨rfl, rfl⟩

theorem ofPair1_any (a b : Int) (w : World) (a0 : 0 ≤ a) (a1 : a < 4294967296) (b0 : 0 ≤ b) (b1 : b < 4294967296) : Calls Try.prog 34 #[.int .u32 a, .int .u32 b] w fun e w' => e = .returned (.tuple #[.int .u32 (prX 149 a b), .int .u32 (prY 149 a b)]) ∧ w = w' := by
  have hd : decide ((a + b) % 4294967296 < a) = decide (4294967296 ≤ a + b) := by
    by_cases h : 4294967296 ≤ a + b
    · simp [h]; omega
    · simp [h]; omega
  go_enter Try.func34, Try.ntmps34
  go_wp2_with (go_at_call 35; refine (word13_any _ _).mono ?_; rintro e w' ⟨rfl, rfl⟩)
  go_ret2
  refine ⟨?_, rfl⟩
  simp [prX, prY, hd]

theorem ofPair2_any (a b : Int) (w : World) (a0 : 0 ≤ a) (a1 : a < 4294967296) (b0 : 0 ≤ b) (b1 : b < 4294967296) : Calls Try.prog 36 #[.int .u32 a, .int .u32 b] w fun e w' => e = .returned (.tuple #[.int .u32 (prX 150 a b), .int .u32 (prY 150 a b)]) ∧ w = w' := by
  go_enter Try.func36, Try.ntmps36
  go_wp2_with (go_at_call 35; refine (word13_any _ _).mono ?_; rintro e w' ⟨rfl, rfl⟩)
  go_ret2
  refine ⟨?_, rfl⟩
  simp [prX, prY]

theorem mul_in (a b : Int) (a0 : 0 ≤ a) (a1 : a < 4294967296) (b0 : 0 ≤ b) (b1 : b < 4294967296) : 0 ≤ a * b ∧ a * b ≤ 18446744065119617025 := by
  obtain ⟨m, rfl⟩ := Int.eq_ofNat_of_zero_le a0
  obtain ⟨n, rfl⟩ := Int.eq_ofNat_of_zero_le b0
  have : m * n ≤ 4294967295 * 4294967295 := Nat.mul_le_mul (by omega) (by omega)
  have e : (m : Int) * (n : Int) = ((m * n : Nat) : Int) := by simp
  rw [e]; omega

theorem ofPair3_any (a b : Int) (w : World) (a0 : 0 ≤ a) (a1 : a < 4294967296) (b0 : 0 ≤ b) (b1 : b < 4294967296) : Calls Try.prog 37 #[.int .u32 a, .int .u32 b] w fun e w' => e = .returned (.tuple #[.int .u32 (prX 151 a b), .int .u32 (prY 151 a b)]) ∧ w = w' := by
  have hm := mul_in a b a0 a1 b0 b1
  have hP := fun w => parted_any (a * b) w hm.1 (by omega)
  have hX : a * b % 4294967296 = prX 151 a b := rfl
  have hY : a * b / 4294967296 = prY 151 a b := rfl
  rw [hX, hY] at hP
  generalize prX 151 a b = X at *
  generalize prY 151 a b = Y at *
  clear hX hY
  go_enter Try.func37, Try.ntmps37
  go_wp2_with fail
  refine (hP _).mono ?_
  rintro e w' ⟨rfl, rfl⟩
  go_wp2
  go_ret2
  exact ⟨rfl, rfl⟩

theorem smul_in (a b : Int) (ha : -2147483648 ≤ a ∧ a < 2147483648) (hb : -2147483648 ≤ b ∧ b < 2147483648) : -4611686018427387904 ≤ a * b ∧ a * b ≤ 4611686018427387904 := by
  have h1 : (a * b).natAbs = a.natAbs * b.natAbs := Int.natAbs_mul a b
  have h2 : a.natAbs * b.natAbs ≤ 2147483648 * 2147483648 := Nat.mul_le_mul (by omega) (by omega)
  omega
theorem u64_lo (x : Int) : x % 18446744073709551616 % 4294967296 = x % 4294967296 := by omega
theorem u64_hi (x : Int) : x % 18446744073709551616 / 4294967296 = x / 4294967296 % 4294967296 := by omega

theorem ofPair4_at (a b S T : Int) (w : World) (a0 : 0 ≤ a) (a1 : a < 4294967296) (b0 : 0 ≤ b) (b1 : b < 4294967296) (hS : wrap32 a = S) (hT : wrap32 b = T) (iS : -2147483648 ≤ S ∧ S < 2147483648) (iT : -2147483648 ≤ T ∧ T < 2147483648) : Calls Try.prog 39 #[.int .u32 a, .int .u32 b] w fun e w' => e = .returned (.tuple #[.int .u32 (S * T % 4294967296), .int .u32 (S * T / 4294967296 % 4294967296)]) ∧ w = w' := by
  have hm := smul_in S T iS iT
  have hP := fun w => parted_any (S * T % 18446744073709551616) w (by omega) (by omega)
  rw [u64_lo, u64_hi] at hP
  generalize S * T % 4294967296 = X at *
  generalize S * T / 4294967296 % 4294967296 = Y at *
  go_enter Try.func39, Try.ntmps39
  go_wp2_with fail
  first | refine (hP _).mono ?_ | (rw [show IntKind.u64.wrap (S * T) = S * T % 18446744073709551616 from rfl]; refine (hP _).mono ?_)
  rintro e w' ⟨rfl, rfl⟩
  go_wp2
  go_ret2
  exact ⟨rfl, rfl⟩

theorem ofPair4_any (a b : Int) (w : World) (a0 : 0 ≤ a) (a1 : a < 4294967296) (b0 : 0 ≤ b) (b1 : b < 4294967296) : Calls Try.prog 39 #[.int .u32 a, .int .u32 b] w fun e w' => e = .returned (.tuple #[.int .u32 (prX 152 a b), .int .u32 (prY 152 a b)]) ∧ w = w' := by
  have := ofPair4_at a b _ _ w a0 a1 b0 b1 rfl rfl (wrap_in a) (wrap_in b)
  simpa [prX, prY] using this

/-- A function of two words with two answers. -/
def PairN (op : Int) (n : Nat) : Prop := Enters n ∧ ∀ (a b : Int) (W : World), 0 ≤ a → a < 4294967296 → 0 ≤ b → b < 4294967296 → Calls Try.prog n #[.int .u32 a, .int .u32 b] W fun e w' => e = .returned (.tuple #[.int .u32 (prX op a b), .int .u32 (prY op a b)]) ∧ W = w'
theorem ofPairV_q (op : Int) : (prB op = false ∧ (∀ a b, prX op a b = 0 ∧ prY op a b = 0) ∧ ofPairV op = .nilFunc) ∨ ∃ n, ofPairV op = .func (.func n) #[] #[] ∧ prB op = true ∧ PairN op n := by
  by_cases e149 : op = 149
  · subst e149; exact .inr ⟨34, rfl, rfl, Try.call34, fun a b W => ofPair1_any a b W⟩
  by_cases e150 : op = 150
  · subst e150; exact .inr ⟨36, rfl, rfl, Try.call36, fun a b W => ofPair2_any a b W⟩
  by_cases e151 : op = 151
  · subst e151; exact .inr ⟨37, rfl, rfl, Try.call37, fun a b W => ofPair3_any a b W⟩
  by_cases e152 : op = 152
  · subst e152; exact .inr ⟨39, rfl, rfl, Try.call39, fun a b W => ofPair4_any a b W⟩
  exact .inl ⟨by simp [prB, e149, e150, e151, e152], fun a b => by simp [prX, prY, e149, e150, e151, e152], by simp [ofPairV, e149, e150, e151, e152]⟩

set_option maxHeartbeats 2000000 in
theorem arithPair_any (op a b : Int) (w : World) (h0 : 0 ≤ op) (h1 : op < 65536) (a0 : 0 ≤ a) (a1 : a < 4294967296) (b0 : 0 ≤ b) (b1 : b < 4294967296) : Calls Try.prog 12 #[.int .u16 op, .int .u32 a, .int .u32 b] w fun e w' => e = .returned (.tuple #[.int .u32 (prX op a b), .int .u32 (prY op a b), .bool (prB op)]) ∧ Below w.heap.size w w' := by
  have hE := nilzeroFn1
  have hE2 := somezeroFn1
  have hO := ofPair_any op w h0 h1
  rcases ofPairV_q op with ⟨q1, q2, q3⟩ | ⟨n, q1, q2, q3⟩
  · have qa := (q2 a b).1
    have qb := (q2 a b).2
    rw [q3] at hO
    rw [q1, qa, qb]
    go_enter Try.func12, Try.ntmps12
    go_wp2_with fail
    refine hO.mono ?_
    rintro e w' ⟨rfl, hb⟩
    go_wp2
    refine bodyPost_ret (v := .tuple #[.int .u32 0, .int .u32 0, .bool false]) ?_ rfl ⟨rfl, hb⟩
    simp [results, Try.results12, go_sem]
  · have hC := fun W => q3.2 a b W a0 a1 b0 b1
    have hEn := q3.1
    unfold Enters at hEn
    rw [q1] at hO
    rw [q2]
    generalize prX op a b = X at *
    generalize prY op a b = Y at *
    clear q3 q1
    go_enter Try.func12, Try.ntmps12
    go_wp2_with fail
    refine hO.mono ?_
    rintro e w' ⟨rfl, hb⟩
    go_wp2_with fail
    refine (hC _).mono ?_
    rintro e w'' ⟨rfl, rfl⟩
    go_wp2
    refine bodyPost_ret (v := .tuple #[.int .u32 X, .int .u32 Y, .bool true]) ?_ rfl ⟨rfl, hb⟩
    simp [results, Try.results12, go_sem]

end Go.Proofs.Ytaegchobdhbjmaa
