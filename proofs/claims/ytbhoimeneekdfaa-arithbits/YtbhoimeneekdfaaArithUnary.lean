/-
  What Unary of arith answers, for all operations and words.
-/
import Derived.WalkSpells
import Derived.WalkMore
import Derived.Laws.EntriesVeiled
import Derived.Test.YtbhoimeneekdfaaMathAr
import Derived.Test.YtbhoimeneekdfaaArithTwos
import Derived.Test.YtbhoimeneekdfaaSlots
namespace Go.Proofs.Ytbhoimeneekdfaa
open Go.RowKit Go.Maps
set_option linter.unusedVariables false
set_option linter.unusedSimpArgs false
set_option maxRecDepth 10000

theorem and_one (x : Int) (h0 : 0 ≤ x) (h1 : x < 4294967296) : bits .and .u32 x 1 = x % 2 := by
  obtain ⟨n, rfl⟩ := Int.eq_ofNat_of_zero_le h0
  have h := u32_and_nat n 1 (by omega) (by omega)
  rw [Nat.and_one_is_mod] at h
  rw [show (1 : Int) = ((1 : Nat) : Int) from rfl, h]
  omega
theorem hB_snoc (f : Nat → Int) : ∀ n m, hB f (n + 1) m = hB f n m + f (m + n) * 2 ^ n
  | 0, m => by simp [hB]
  | n + 1, m => by
    rw [hB, hB_snoc f n (m + 1), hB, two_succ, show m + 1 + n = m + (n + 1) by omega]
    rw [Int.mul_add, Int.add_assoc]
    congr 2
    ac_rfl
theorem or_snoc (f : Nat → Int) (hf : Is01 f) (k : Nat) (hk : k < 32) : bits .or .u32 (hB f k 0) (f k * 2 ^ k) = hB f (k + 1) 0 := by
  have h1 := hB_in f hf k 0
  have h2 := hB_in f hf (k + 1) 0
  rw [hB_snoc, Nat.zero_add] at h2 ⊢
  have h3 : (2 : Int) ^ (k + 1) ≤ 4294967296 := by
    have : 2 ^ (k + 1) ≤ 2 ^ 32 := Nat.pow_le_pow_right (by omega) (by omega)
    have e : ((2 ^ (k + 1) : Nat) : Int) = (2 : Int) ^ (k + 1) := by simp
    omega
  rw [or_low (f k) (hB f k 0) k (by rcases hf k with h | h <;> omega) h1.1 h1.2 (by omega)]

theorem bt_not (a : Int) (k : Nat) (hk : k < 32) : bt (4294967295 - a) k = 1 - bt a k := by
  have e : (4294967295 : Int) - a = (-1 - a) + 1 * 2 ^ 32 := by omega
  rw [e, bt_add _ _ _ _ hk]
  unfold bt
  have hp := two_pos k
  have hd := Int.emod_add_mul_ediv a (2 ^ k)
  have r0 := Int.emod_nonneg a (show (2 : Int) ^ k ≠ 0 by omega)
  have r1 := Int.emod_lt_of_pos a hp
  have e2 : -1 - a = (2 ^ k - 1 - a % 2 ^ k) + 2 ^ k * (-1 - a / 2 ^ k) := by
    rw [Int.mul_sub, Int.mul_neg, Int.mul_one]; omega
  have e3 : (-1 - a) / 2 ^ k = -1 - a / 2 ^ k := by
    rw [e2, Int.add_mul_ediv_left _ _ (by omega), Int.ediv_eq_zero_of_lt (by omega) (by omega)]; omega
  rw [e3]; omega
theorem bt_top (k : Nat) (hk : k < 32) : bt 4294967295 k = 1 := by
  have := bt_not 0 k hk
  rw [Int.sub_zero] at this
  rw [this]; unfold bt; simp
theorem xor_top (a : Int) (a0 : 0 ≤ a) (a1 : a < 4294967296) : bits .xor .u32 4294967295 a = 4294967295 - a := by
  have hi := xor_in 4294967295 a (by omega) (by omega) a0 a1
  refine word_ext _ _ hi.1 hi.2 (by omega) (by omega) fun k hk => ?_
  rw [bt_xorW _ _ k (by omega) (by omega) a0 a1, bt_top k hk, bt_not a k hk]
  rcases bt_or a k with h | h <;> simp [h]

theorem bit_any (a : Int) (k : Nat) (w : World) (a0 : 0 ≤ a) (a1 : a < 4294967296) (hk : k < 32) : Calls Try.prog 49 #[.int .u32 a, .int .u32 k] w fun e w' => e = .returned (.int .u32 (bt a k)) ∧ w = w' := by
  have h0 : 0 ≤ a / 2 ^ k := Int.ediv_nonneg a0 (Int.le_of_lt (two_pos k))
  have h1 : a / 2 ^ k < 4294967296 := Int.lt_of_le_of_lt (Int.ediv_le_self _ a0) a1
  have HV : Hid (bits .and .u32 (a / 2 ^ k) 1 = bt a k) := and_one _ h0 h1
  have hki : (k : Int) < 32 := by omega
  clear h0 h1
  go_enter Try.func49, Try.ntmps49
  go_wp2
  go_ret
  refine ⟨ret_int ?_, rfl⟩
  first | exact HV.out | (rw [← HV.out]; simp)

theorem meas32u {k : Nat} (h : k < 32) : 32 - (intOf (.int .u32 ((k : Int) + 1))).toNat < 32 - (intOf (.int .u32 (k : Int))).toNat := by simp [intOf]; omega
/-- Bits the other way round. -/
def revB (a : Int) (j : Nat) : Int := bt a (31 - j)
theorem revB_01 (a : Int) : Is01 (revB a) := fun j => bt_or a (31 - j)

set_option maxHeartbeats 2000000 in
theorem reversed_any (a : Int) (w : World) (a0 : 0 ≤ a) (a1 : a < 4294967296) : Calls Try.prog 29 #[.int .u32 a] w fun e w' => e = .returned (.int .u32 (hB (revB a) 32 0)) ∧ w = w' := by
  go_enter Try.func29, Try.ntmps29
  go_wp2_with fail
  go_loopw [3, 5] (fun x i wr => ∃ k : Nat, k ≤ 32 ∧ i = .int .u32 k ∧ x = .int .u32 (hB (revB a) k 0) ∧ w = wr) (fun _ i _ => 32 - (intOf i).toNat)
  case atStart => exact ⟨0, by omega, rfl, rfl, rfl⟩
  case round =>
    obtain ⟨k, hk, rfl, rfl, rfl⟩ := hrel
    by_cases hlt : k < 32
    · have hki : (k : Int) < 32 := by omega
      have hC := fun w => bit_any a (31 - k) w a0 a1 (by omega)
      have hb := bt_or a (31 - k)
      have hP : 0 ≤ bt a (31 - k) * 2 ^ k ∧ bt a (31 - k) * 2 ^ k < 4294967296 := by
        have h1 : (2 : Int) ^ k < 4294967296 := by
          have : 2 ^ k < 2 ^ 32 := Nat.pow_lt_pow_right (by omega) hlt
          have e : ((2 ^ k : Nat) : Int) = (2 : Int) ^ k := by simp
          omega
        have h2 := two_pos k
        rcases hb with h | h
        · rw [h]; omega
        · rw [h]; omega
      have HV : Hid (bits .or .u32 (hB (revB a) k 0) (bt a (31 - k) * 2 ^ k) = hB (revB a) (k + 1) 0) := or_snoc (revB a) (revB_01 a) k hlt
      have HY : Hid (Value.int .u32 (hB (revB a) (k + 1) 0) = Value.int .u32 (hB (revB a) (k + 1) 0)) := rfl
      have hT : (31 : Int) - (k : Int) = ((31 - k : Nat) : Int) := by omega
      generalize hB (revB a) k 0 = X at *
      have HLT := hide hlt
      go_wp2_with fail
      refine (hC _).mono ?_
      rintro e w' ⟨rfl, rfl⟩
      clear hC hT hlt hk
      generalize bt a (31 - k) = y at *
      go_wp2
      rw [HV.out]
      exact ⟨⟨k + 1, HLT.out, by simp, rfl, trivial⟩, meas32u HLT.out⟩
    · have e32 : k = 32 := by omega
      subst e32
      go_wp2
      go_ret
      exact ⟨rfl, rfl⟩

set_option maxHeartbeats 2000000 in
theorem counted_any (a : Int) (w : World) (a0 : 0 ≤ a) (a1 : a < 4294967296) : Calls Try.prog 31 #[.int .u32 a] w fun e w' => e = .returned (.int .u32 (cntB (bt a) 32)) ∧ w = w' := by
  go_enter Try.func31, Try.ntmps31
  go_wp2_with fail
  go_loopw [3, 5] (fun x i wr => ∃ k : Nat, k ≤ 32 ∧ i = .int .u32 k ∧ x = .int .u32 (cntB (bt a) k) ∧ w = wr) (fun _ i _ => 32 - (intOf i).toNat)
  case atStart => exact ⟨0, by omega, rfl, rfl, rfl⟩
  case round =>
    obtain ⟨k, hk, rfl, rfl, rfl⟩ := hrel
    by_cases hlt : k < 32
    · have hki : (k : Int) < 32 := by omega
      have hC := fun w => bit_any a k w a0 a1 hlt
      have hb := bt_or a k
      have hX := cntB_in (bt a) (is01_bt a) k
      have HY : Hid (Value.int .u32 (cntB (bt a) k + bt a k) = Value.int .u32 (cntB (bt a) (k + 1))) := rfl
      have HLT := hide hlt
      generalize cntB (bt a) k = X at *
      go_wp2_with fail
      refine (hC _).mono ?_
      rintro e w' ⟨rfl, rfl⟩
      clear hC hlt hk
      generalize bt a k = y at *
      go_wp2
      exact ⟨⟨k + 1, HLT.out, by simp, HY.out, trivial⟩, meas32u HLT.out⟩
    · have e32 : k = 32 := by omega
      subst e32
      go_wp2
      go_ret
      exact ⟨rfl, rfl⟩

/-- What an operation makes of a word. -/
def unV (op a : Int) : Int := if op = 126 then (-a) % 4294967296 else if op = 200 then 4294967295 - a else if op = 204 then hB (revB a) 32 0 else if op = 205 then cntB (bt a) 32 else if op = 168 then b2i (decide (a = 0)) else if op = 83 then a else if op = 124 then a else 0
def unB (op : Int) : Bool := decide (op = 126 ∨ op = 200 ∨ op = 204 ∨ op = 205 ∨ op = 168 ∨ op = 83 ∨ op = 124)

theorem ofOne1_any (a : Int) (w : World) : Calls Try.prog 25 #[.int .u32 a] w fun e w' => e = .returned (.int .u32 a) ∧ w = w' := by
  go_enter Try.func25, Try.ntmps25
  go_wp2
  go_ret
  exact ⟨rfl, rfl⟩
theorem ofOne2_any (a : Int) (w : World) : Calls Try.prog 26 #[.int .u32 a] w fun e w' => e = .returned (.int .u32 (unV 126 a)) ∧ w = w' := by
  go_enter Try.func26, Try.ntmps26
  go_wp2
  go_ret
  exact ⟨by simp [unV], rfl⟩
theorem ofOne3_any (a : Int) (w : World) (a0 : 0 ≤ a) (a1 : a < 4294967296) : Calls Try.prog 27 #[.int .u32 a] w fun e w' => e = .returned (.int .u32 (unV 200 a)) ∧ w = w' := by
  go_enter Try.func27, Try.ntmps27
  go_wp2
  go_ret
  refine ⟨ret_int ?_, rfl⟩
  simp only [unV]
  rw [if_neg (by decide), if_pos trivial]
  exact xor_top a a0 a1
theorem ofOne4_any (a : Int) (w : World) (a0 : 0 ≤ a) (a1 : a < 4294967296) : Calls Try.prog 28 #[.int .u32 a] w fun e w' => e = .returned (.int .u32 (unV 204 a)) ∧ w = w' := by
  have hC := reversed_any a w a0 a1
  have hV : hB (revB a) 32 0 = unV 204 a := rfl
  rw [hV] at hC
  generalize unV 204 a = V at *
  clear hV
  go_enter Try.func28, Try.ntmps28
  go_wp2_with fail
  refine hC.mono ?_
  rintro e w' ⟨rfl, rfl⟩
  go_wp2
  go_ret
  exact ⟨rfl, rfl⟩
theorem ofOne5_any (a : Int) (w : World) (a0 : 0 ≤ a) (a1 : a < 4294967296) : Calls Try.prog 30 #[.int .u32 a] w fun e w' => e = .returned (.int .u32 (unV 205 a)) ∧ w = w' := by
  have hC := counted_any a w a0 a1
  have hV : cntB (bt a) 32 = unV 205 a := rfl
  rw [hV] at hC
  generalize unV 205 a = V at *
  clear hV
  go_enter Try.func30, Try.ntmps30
  go_wp2_with fail
  refine hC.mono ?_
  rintro e w' ⟨rfl, rfl⟩
  go_wp2
  go_ret
  exact ⟨rfl, rfl⟩
theorem ofOne6_any (a : Int) (w : World) : Calls Try.prog 32 #[.int .u32 a] w fun e w' => e = .returned (.int .u32 (unV 168 a)) ∧ w = w' := by
  go_enter Try.func32, Try.ntmps32
  go_wp2_with (go_at_call 33; refine (word13_any _ _).mono ?_; rintro e w' ⟨rfl, rfl⟩)
  go_ret
  exact ⟨by simp [unV, beq_dec], rfl⟩

/-- A function of a word. -/
def OneN (op : Int) (n : Nat) : Prop := Enters n ∧ ∀ (a : Int) (W : World), 0 ≤ a → a < 4294967296 → Calls Try.prog n #[.int .u32 a] W fun e w' => e = .returned (.int .u32 (unV op a)) ∧ W = w'
theorem ofOneV_q (op : Int) : (unB op = false ∧ (∀ a, unV op a = 0) ∧ ofOneV op = .nilFunc) ∨ ∃ n, ofOneV op = .func (.func n) #[] #[] ∧ unB op = true ∧ OneN op n := by
  by_cases e1 : op = 126
  · subst e1; exact .inr ⟨26, rfl, rfl, Try.call26, fun a W _ _ => ofOne2_any a W⟩
  by_cases e2 : op = 200
  · subst e2; exact .inr ⟨27, rfl, rfl, Try.call27, fun a W => ofOne3_any a W⟩
  by_cases e3 : op = 204
  · subst e3; exact .inr ⟨28, rfl, rfl, Try.call28, fun a W => ofOne4_any a W⟩
  by_cases e4 : op = 205
  · subst e4; exact .inr ⟨30, rfl, rfl, Try.call30, fun a W => ofOne5_any a W⟩
  by_cases e5 : op = 168
  · subst e5; exact .inr ⟨32, rfl, rfl, Try.call32, fun a W _ _ => ofOne6_any a W⟩
  by_cases e6 : op = 83
  · subst e6; exact .inr ⟨25, rfl, rfl, Try.call25, fun a W _ _ => ofOne1_any a W⟩
  by_cases e7 : op = 124
  · subst e7; exact .inr ⟨25, rfl, rfl, Try.call25, fun a W _ _ => ofOne1_any a W⟩
  exact .inl ⟨by simp [unB, e1, e2, e3, e4, e5, e6, e7], fun a => by simp [unV, e1, e2, e3, e4, e5, e6, e7], by simp [ofOneV, e1, e2, e3, e4, e5, e6, e7]⟩

set_option maxHeartbeats 2000000 in
theorem arithUnary_any (op a : Int) (w : World) (h0 : 0 ≤ op) (h1 : op < 65536) (a0 : 0 ≤ a) (a1 : a < 4294967296) : Calls Try.prog 7 #[.int .u16 op, .int .u32 a] w fun e w' => e = .returned (.tuple #[.int .u32 (unV op a), .bool (unB op)]) ∧ Below w.heap.size w w' := by
  have hE := nilzeroFn2
  have hE2 := somezeroFn2
  have hO := ofOne_any op w h0 h1
  rcases ofOneV_q op with ⟨q1, q2, q3⟩ | ⟨n, q1, q2, q3⟩
  · have qa := q2 a
    rw [q3] at hO
    rw [q1, qa]
    go_enter Try.func7, Try.ntmps7
    go_wp2_with fail
    refine hO.mono ?_
    rintro e w' ⟨rfl, hb⟩
    go_wp2
    go_ret2
    exact ⟨rfl, hb⟩
  · have hC := fun W => q3.2 a W a0 a1
    have hEn := q3.1
    unfold Enters at hEn
    rw [q1] at hO
    rw [q2]
    generalize unV op a = X at *
    clear q3 q1
    go_enter Try.func7, Try.ntmps7
    go_wp2_with fail
    refine hO.mono ?_
    rintro e w' ⟨rfl, hb⟩
    go_wp2_with fail
    refine (hC _).mono ?_
    rintro e w'' ⟨rfl, rfl⟩
    go_wp2
    go_ret2
    exact ⟨rfl, hb⟩

end Go.Proofs.Ytbhoimeneekdfaa
