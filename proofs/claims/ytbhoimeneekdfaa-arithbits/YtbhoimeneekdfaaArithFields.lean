/-
  The fields of words: what reach, field, signedField, inserted and selected of arith answer.
-/
import Derived.WalkSpells
import Derived.WalkMore
import Derived.BigRegion
import Derived.Test.YtbhoimeneekdfaaMathBt
import Derived.Test.YtbhoimeneekdfaaSlots
import Derived.Test.YtbhoimeneekdfaaArithUnary
namespace Go.Proofs.Ytbhoimeneekdfaa
open Go.RowKit
set_option linter.unusedVariables false
set_option linter.unusedSimpArgs false
set_option maxRecDepth 10000

/-- Where a field begins, and how many bits it has. -/
def offN (x : Int) : Nat := (x % 32).toNat
def widN (o : Nat) (c : Int) : Nat := min c.toNat (32 - o)
theorem offN_lt (x : Int) : offN x < 32 := by unfold offN; omega
theorem widN_le (o : Nat) (c : Int) : o < 32 → o + widN o c ≤ 32 := by unfold widN; omega
/-- The bits of a field, of a signed one, and of a word with a field put in. -/
def flB (a : Int) (o n : Nat) (j : Nat) : Int := if j < n then bt a (o + j) else 0
def sfB (a : Int) (o n : Nat) (j : Nat) : Int := if n = 0 then 0 else bt a (o + min j (n - 1))
def inB (a b : Int) (o n : Nat) (j : Nat) : Int := if o ≤ j ∧ j < o + n then bt b (j - o) else bt a j
theorem flB_01 (a : Int) (o n : Nat) : Is01 (flB a o n) := fun j => by unfold flB; split; exact bt_or _ _; exact .inl rfl
theorem sfB_01 (a : Int) (o n : Nat) : Is01 (sfB a o n) := fun j => by unfold sfB; split; exact .inl rfl; exact bt_or _ _
theorem inB_01 (a b : Int) (o n : Nat) : Is01 (inB a b o n) := fun j => by unfold inB; split <;> exact bt_or _ _
theorem shift_in (f : Nat → Int) (hf : Is01 f) (k : Nat) (hk : k < 32) : 0 ≤ f k * 2 ^ k ∧ f k * 2 ^ k < 4294967296 := by
  have h1 : (2 : Int) ^ k < 4294967296 := by
    have : 2 ^ k < 2 ^ 32 := Nat.pow_lt_pow_right (by omega) hk
    have e : ((2 ^ k : Nat) : Int) = (2 : Int) ^ k := by simp
    omega
  have h2 := two_pos k
  rcases hf k with h | h
  · rw [h]; omega
  · rw [h]; omega
theorem pow_in (k : Nat) (hk : k < 32) : 0 ≤ (1 : Int) * 2 ^ k ∧ (1 : Int) * 2 ^ k < 4294967296 := shift_in (fun _ => 1) (fun _ => .inr rfl) k hk
theorem field_all (a : Int) (o n : Nat) (hn : n ≤ 32) : hB (flB a o n) n 0 = hB (flB a o n) 32 0 := by
  have h1 := hB_in (flB a o n) (flB_01 a o n) n 0
  have hp : (2 : Int) ^ n ≤ 4294967296 := by
    have : 2 ^ n ≤ 2 ^ 32 := Nat.pow_le_pow_right (by omega) hn
    have e : ((2 ^ n : Nat) : Int) = (2 : Int) ^ n := by simp
    omega
  refine (hB_eq _ _ (flB_01 a o n) h1.1 (by omega) fun k hk => ?_).symm
  by_cases h : k < n
  · rw [bt_hB _ (flB_01 a o n) n 0 k h, Nat.zero_add]
  · rw [bt_above _ n k h1.1 h1.2 (by omega)]
    simp [flB, h]
theorem bt_pow (p k : Nat) : bt (1 * 2 ^ p) k = if k = p then 1 else 0 := by
  rw [bt_mul]
  by_cases h : k < p
  · rw [if_pos h, if_neg (by omega)]
  · rw [if_neg h]
    by_cases e : k = p
    · subst e; simp [bt]
    · rw [if_neg e, bt_above 1 1 (k - p) (by omega) (by omega) (by omega)]
theorem bt_andNotW (a b : Int) (k : Nat) (a0 : 0 ≤ a) (a1 : a < 4294967296) (b0 : 0 ≤ b) (b1 : b < 4294967296) (hk : k < 32) : bt (bits .andNot .u32 a b) k = if bt a k = 1 ∧ bt b k = 0 then 1 else 0 := by
  have e : bits .andNot .u32 a b = bits .and .u32 a (4294967295 - b) := by
    obtain ⟨m, rfl⟩ := Int.eq_ofNat_of_zero_le a0
    obtain ⟨n, rfl⟩ := Int.eq_ofNat_of_zero_le b0
    have e2 : (4294967295 : Int) - (n : Int) = ((4294967295 - n : Nat) : Int) := by omega
    rw [u32_andNot_nat _ _ (by omega) (by omega), e2, u32_and_nat _ _ (by omega) (by omega)]
  rw [e, bt_andW a _ k a0 a1 (by omega) (by omega), bt_not b k hk]
  rcases bt_or b k with h | h <;> simp [h]
theorem andNot_in (a b : Int) (a0 : 0 ≤ a) (a1 : a < 4294967296) (b0 : 0 ≤ b) (b1 : b < 4294967296) : 0 ≤ bits .andNot .u32 a b ∧ bits .andNot .u32 a b < 4294967296 := by
  obtain ⟨m, rfl⟩ := Int.eq_ofNat_of_zero_le a0
  obtain ⟨n, rfl⟩ := Int.eq_ofNat_of_zero_le b0
  exact nat_in (u32_andNot_nat _ _ (by omega) (by omega)) (Nat.and_lt_two_pow (n := 32) _ (by omega))
/-- One bit more of a field put in. -/
theorem ins_next (a b : Int) (o k : Nat) (h : o + k < 32) : bits .or .u32 (bits .andNot .u32 (hB (inB a b o k) 32 0) (1 * 2 ^ (o + k))) (bt b k * 2 ^ (o + k)) = hB (inB a b o (k + 1)) 32 0 := by
  have h1 := hB_word (inB a b o k) (inB_01 a b o k)
  have h2 := pow_in (o + k) h
  have h3 := andNot_in _ _ h1.1 h1.2 h2.1 h2.2
  have h4 : 0 ≤ bt b k * 2 ^ (o + k) ∧ bt b k * 2 ^ (o + k) < 4294967296 := shift_in (fun _ => bt b k) (fun _ => bt_or b k) (o + k) h
  have h5 := or_in _ _ h3.1 h3.2 h4.1 h4.2
  refine (hB_eq _ _ (inB_01 a b o (k + 1)) h5.1 h5.2 fun j hj => ?_).symm
  rw [bt_orW _ _ j h3.1 h3.2 h4.1 h4.2, bt_andNotW _ _ j h1.1 h1.2 h2.1 h2.2 hj, bt_word _ (inB_01 a b o k) j hj, bt_pow, bt_mul]
  by_cases e : j = o + k
  · subst e
    have hz : bt (bt b k) (o + k - (o + k)) = bt b k := by rw [Nat.sub_self, bt_zero]; rcases bt_or b k with q | q <;> rw [q] <;> rfl
    rw [hz]
    rcases bt_or b k with q | q <;> simp [inB, q]
  · have hz : (if j < o + k then (0 : Int) else bt (bt b k) (j - (o + k))) = 0 := by
      split
      · rfl
      · exact bt_above _ 1 _ (bt_lo b k) (by have := bt_hi b k; simpa using this) (by omega)
    rw [hz]
    have hs : inB a b o (k + 1) j = inB a b o k j := by
      unfold inB
      by_cases c : o ≤ j ∧ j < o + k
      · rw [if_pos c, if_pos (by omega)]
      · rw [if_neg c, if_neg (by omega)]
    rw [hs]
    rcases inB_01 a b o k j with q | q <;> simp [q, e]
theorem ins_none (a b : Int) (o : Nat) (a0 : 0 ≤ a) (a1 : a < 4294967296) : hB (inB a b o 0) 32 0 = a := hB_eq _ _ (inB_01 a b o 0) a0 a1 fun k hk => by unfold inB; rw [if_neg (by omega)]

theorem selected_any (c a b : Int) (w : World) : Calls Try.prog 41 #[.int .u32 c, .int .u32 a, .int .u32 b] w fun e w' => e = .returned (.int .u32 (if c = 0 then b else a)) ∧ w = w' := by
  by_cases h : c = 0
  · rw [if_pos h]
    subst h
    go_enter Try.func41, Try.ntmps41
    go_wp2
    go_ret
    exact ⟨rfl, rfl⟩
  · rw [if_neg h]
    go_enter Try.func41, Try.ntmps41
    go_wp2
    go_ret
    exact ⟨rfl, rfl⟩

theorem reach_any (x c : Int) (w : World) (x0 : 0 ≤ x) (c0 : 0 ≤ c) (c1 : c < 4294967296) : Calls Try.prog 57 #[.int .u32 x, .int .u32 c] w fun e w' => e = .returned (.tuple #[.int .u32 (offN x), .int .u32 (widN (offN x) c)]) ∧ w = w' := by
  have h1 : x % 32 = (offN x : Int) := by unfold offN; omega
  have h2 := offN_lt x
  have h3 : min c (32 - (offN x : Int)) = (widN (offN x) c : Int) := by unfold widN; omega
  have hi : (offN x : Int) < 32 := by omega
  generalize widN (offN x) c = N at *
  generalize offN x = O at *
  go_enter Try.func57, Try.ntmps57
  go_wp2
  · have e : (32 : Int) - (O : Int) = (N : Int) := by omega
    go_ret2
    exact ⟨by simp [e], rfl⟩
  · have e : c = (N : Int) := by omega
    go_ret2
    exact ⟨by simp [e], rfl⟩

theorem measN {k n : Nat} (h : k < n) : n - (intOf (.int .u32 ((k : Int) + 1))).toNat < n - (intOf (.int .u32 (k : Int))).toNat := by simp [intOf]; omega

set_option maxHeartbeats 4000000 in
theorem field_any (a x c : Int) (w : World) (a0 : 0 ≤ a) (a1 : a < 4294967296) (x0 : 0 ≤ x) (c0 : 0 ≤ c) (c1 : c < 4294967296) : Calls Try.prog 47 #[.int .u32 a, .int .u32 x, .int .u32 c] w fun e w' => e = .returned (.int .u32 (hB (flB a (offN x) (widN (offN x) c)) 32 0)) ∧ w = w' := by
  have hR := reach_any x c w x0 c0 c1
  have ho := offN_lt x
  have hw := widN_le (offN x) c ho
  rw [← field_all a (offN x) (widN (offN x) c) (by omega)]
  generalize widN (offN x) c = N at *
  generalize offN x = O at *
  go_enter Try.func47, Try.ntmps47
  go_wp2_with fail
  refine hR.mono ?_
  rintro e w' ⟨rfl, rfl⟩
  go_wp2_with fail
  go_loopw [9, 18] (fun y i wr => ∃ k : Nat, k ≤ N ∧ i = .int .u32 k ∧ y = .int .u32 (hB (flB a O N) k 0) ∧ w = wr) (fun _ i _ => N - (intOf i).toNat)
  case atStart => exact ⟨0, by omega, rfl, rfl, rfl⟩
  case round =>
    obtain ⟨k, hk, rfl, rfl, rfl⟩ := hrel
    clear hR
    by_cases hlt : k < N
    · have hki : (k : Int) < (N : Int) := by omega
      have hk32 : k < 32 := by omega
      have hki2 : (k : Int) < 32 := by omega
      have hC := fun w => bit_any a (O + k) w a0 a1 (by omega)
      have hb := bt_or a (O + k)
      have hP : 0 ≤ bt a (O + k) * 2 ^ k ∧ bt a (O + k) * 2 ^ k < 4294967296 := shift_in (fun _ => bt a (O + k)) (fun _ => bt_or _ _) k hk32
      have HV : Hid (bits .or .u32 (hB (flB a O N) k 0) (bt a (O + k) * 2 ^ k) = hB (flB a O N) (k + 1) 0) := by
        have := or_snoc (flB a O N) (flB_01 a O N) k hk32
        rw [show flB a O N k = bt a (O + k) by simp [flB, hlt]] at this
        exact this
      have hT : (O : Int) + (k : Int) = ((O + k : Nat) : Int) := by omega
      rw [← hT] at hC
      have hO32 : (O : Int) + (k : Int) < 32 := by omega
      have HLT := hide hlt
      clear hT hlt hk hw ho
      generalize hB (flB a O N) k 0 = X at *
      go_wp2_with fail
      refine (hC _).mono ?_
      rintro e w' ⟨rfl, rfl⟩
      clear hC
      generalize bt a (O + k) = y at *
      go_wp2
      rw [HV.out]
      exact ⟨⟨k + 1, HLT.out, by simp, rfl, trivial⟩, measN HLT.out⟩
    · have e : k = N := by omega
      subst e
      clear hw ho
      go_wp2
      go_ret
      exact ⟨rfl, rfl⟩

set_option maxHeartbeats 4000000 in
theorem signedField_any (a x c : Int) (w : World) (a0 : 0 ≤ a) (a1 : a < 4294967296) (x0 : 0 ≤ x) (c0 : 0 ≤ c) (c1 : c < 4294967296) : Calls Try.prog 45 #[.int .u32 a, .int .u32 x, .int .u32 c] w fun e w' => e = .returned (.int .u32 (hB (sfB a (offN x) (widN (offN x) c)) 32 0)) ∧ w = w' := by
  have hR := reach_any x c w x0 c0 c1
  have ho := offN_lt x
  have hw := widN_le (offN x) c ho
  generalize widN (offN x) c = N at *
  generalize offN x = O at *
  by_cases hN : N = 0
  · subst hN
    have hz : hB (sfB a O 0) 32 0 = 0 := hB_eq _ _ (sfB_01 a O 0) (by omega) (by omega) fun k hk => by simp [sfB, bt]
    rw [hz]
    go_enter Try.func45, Try.ntmps45
    go_wp2_with fail
    refine hR.mono ?_
    rintro e w' ⟨rfl, rfl⟩
    go_wp2
    go_ret
    exact ⟨rfl, rfl⟩
  have hNi : ¬ (N : Int) = 0 := by omega
  go_enter Try.func45, Try.ntmps45
  go_wp2_with fail
  refine hR.mono ?_
  rintro e w' ⟨rfl, rfl⟩
  go_wp2_with fail
  rw [show ((N : Int) == 0) = false by simp [hN]]
  go_loopw [9, 19] (fun y i wr => ∃ k : Nat, k ≤ 32 ∧ i = .int .u32 k ∧ y = .int .u32 (hB (sfB a O N) k 0) ∧ w = wr) (fun _ i _ => 32 - (intOf i).toNat)
  case atStart => exact ⟨0, by omega, rfl, rfl, rfl⟩
  case round =>
    obtain ⟨k, hk, rfl, rfl, rfl⟩ := hrel
    clear hR
    by_cases hlt : k < 32
    · have hki2 : (k : Int) < 32 := by omega
      have hN1 : (1 : Int) ≤ (N : Int) := by omega
      have hN2 : (N : Int) ≤ 32 := by omega
      have HLT := hide hlt
      have key : ∀ m : Nat, m = min k (N - 1) → bits .or .u32 (hB (sfB a O N) k 0) (bt a (O + m) * 2 ^ k) = hB (sfB a O N) (k + 1) 0 := by
        intro m hm
        have := or_snoc (sfB a O N) (sfB_01 a O N) k hlt
        rw [show sfB a O N k = bt a (O + m) by unfold sfB; rw [if_neg hN, hm]] at this
        exact this
      by_cases hm : k ≤ N - 1
      · have hC := fun w => bit_any a (O + k) w a0 a1 (by omega)
        have hb := bt_or a (O + k)
        have hP : 0 ≤ bt a (O + k) * 2 ^ k ∧ bt a (O + k) * 2 ^ k < 4294967296 := shift_in (fun _ => bt a (O + k)) (fun _ => bt_or _ _) k hlt
        have HV := hide (key k (by omega))
        have hT : (O : Int) + (k : Int) = ((O + k : Nat) : Int) := by omega
        rw [← hT] at hC
        have hO32 : (O : Int) + (k : Int) < 32 := by omega
        have hmi : ¬ ((N : Int) - 1 < (k : Int)) := by omega
        clear hT hlt hk hw ho key hm
        generalize hB (sfB a O N) k 0 = X at *
        go_wp2_with fail
        refine (hC _).mono ?_
        rintro e w' ⟨rfl, rfl⟩
        clear hC
        generalize bt a (O + k) = y at *
        go_wp2
        rw [HV.out]
        exact ⟨⟨k + 1, HLT.out, by simp, rfl, trivial⟩, meas32u HLT.out⟩
      · have hC := fun w => bit_any a (O + (N - 1)) w a0 a1 (by omega)
        have hb := bt_or a (O + (N - 1))
        have hP : 0 ≤ bt a (O + (N - 1)) * 2 ^ k ∧ bt a (O + (N - 1)) * 2 ^ k < 4294967296 := shift_in (fun _ => bt a (O + (N - 1))) (fun _ => bt_or _ _) k hlt
        have HV := hide (key (N - 1) (by omega))
        have hT : (O : Int) + ((N : Int) - 1) = ((O + (N - 1) : Nat) : Int) := by omega
        rw [← hT] at hC
        have hO32 : (O : Int) + ((N : Int) - 1) < 32 := by omega
        have hmi : (N : Int) - 1 < (k : Int) := by omega
        clear hT hlt hk hw ho key hm
        generalize hB (sfB a O N) k 0 = X at *
        go_wp2_with fail
        refine (hC _).mono ?_
        rintro e w' ⟨rfl, rfl⟩
        clear hC
        generalize bt a (O + (N - 1)) = y at *
        go_wp2
        rw [HV.out]
        exact ⟨⟨k + 1, HLT.out, by simp, rfl, trivial⟩, meas32u HLT.out⟩
    · have e : k = 32 := by omega
      subst e
      clear hw ho
      go_wp2
      go_ret
      exact ⟨rfl, rfl⟩

set_option maxHeartbeats 4000000 in
theorem inserted_any (a b x c : Int) (w : World) (a0 : 0 ≤ a) (a1 : a < 4294967296) (b0 : 0 ≤ b) (b1 : b < 4294967296) (x0 : 0 ≤ x) (c0 : 0 ≤ c) (c1 : c < 4294967296) : Calls Try.prog 43 #[.int .u32 a, .int .u32 b, .int .u32 x, .int .u32 c] w fun e w' => e = .returned (.int .u32 (hB (inB a b (offN x) (widN (offN x) c)) 32 0)) ∧ w = w' := by
  have hR := reach_any x c w x0 c0 c1
  have ho := offN_lt x
  have hw := widN_le (offN x) c ho
  have HZ := hide (ins_none a b (offN x) a0 a1)
  generalize widN (offN x) c = N at *
  generalize offN x = O at *
  go_enter Try.func43, Try.ntmps43
  go_wp2_with fail
  refine hR.mono ?_
  rintro e w' ⟨rfl, rfl⟩
  go_wp2_with fail
  go_loopw [0, 19] (fun y i wr => ∃ k : Nat, k ≤ N ∧ i = .int .u32 k ∧ y = .int .u32 (hB (inB a b O k) 32 0) ∧ w = wr) (fun _ i _ => N - (intOf i).toNat)
  case atStart => exact ⟨0, by omega, rfl, by rw [HZ.out], rfl⟩
  case round =>
    obtain ⟨k, hk, rfl, rfl, rfl⟩ := hrel
    clear hR HZ
    by_cases hlt : k < N
    · have hki : (k : Int) < (N : Int) := by omega
      have hki2 : (k : Int) < 32 := by omega
      have hC := fun w => bit_any b k w b0 b1 (by omega)
      have hb := bt_or b k
      have hok : O + k < 32 := by omega
      have hin := hB_word (inB a b O k) (inB_01 a b O k)
      have hP : 0 ≤ bt b k * 2 ^ (O + k) ∧ bt b k * 2 ^ (O + k) < 4294967296 := shift_in (fun _ => bt b k) (fun _ => bt_or _ _) (O + k) hok
      have hQ : 0 ≤ (2 : Int) ^ (O + k) ∧ (2 : Int) ^ (O + k) < 4294967296 := by have := pow_in (O + k) hok; rw [Int.one_mul] at this; exact this
      have HV : Hid (bits .or .u32 (bits .andNot .u32 (hB (inB a b O k) 32 0) (2 ^ (O + k))) (bt b k * 2 ^ (O + k)) = hB (inB a b O (k + 1)) 32 0) := by
        have := ins_next a b O k hok
        rw [Int.one_mul] at this
        exact this
      have hT : ((O : Int) + (k : Int)).toNat = O + k := by omega
      have hO32 : (O : Int) + (k : Int) < 32 := by omega
      have HLT := hide hlt
      clear hlt hk hw ho
      generalize hB (inB a b O k) 32 0 = X at *
      go_wp2_with fail
      refine (hC _).mono ?_
      rintro e w' ⟨rfl, rfl⟩
      clear hC
      generalize bt b k = y at *
      go_wp2
      rw [HV.out]
      exact ⟨⟨k + 1, HLT.out, by simp, rfl, trivial⟩, measN HLT.out⟩
    · have e : k = N := by omega
      subst e
      clear hw ho
      go_wp2
      go_ret
      exact ⟨rfl, rfl⟩

end Go.Proofs.Ytbhoimeneekdfaa
