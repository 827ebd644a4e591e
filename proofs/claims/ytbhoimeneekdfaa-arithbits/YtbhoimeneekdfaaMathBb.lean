/-
  Bits turned, moved, counted; fields put in and taken out: plain mathematics.
-/
import Derived.WalkKit
import Derived.Test.YtbhoimeneekdfaaArithMore
import Derived.Test.YtbhoimeneekdfaaArithBinary
namespace Go.Proofs.Ytbhoimeneekdfaa
open Go.RowKit
set_option linter.unusedVariables false
set_option linter.unusedSimpArgs false

theorem rev_in (a : Int) : 0 ≤ hB (revB a) 32 0 ∧ hB (revB a) 32 0 < 4294967296 := hB_word _ (revB_01 a)
theorem rev_rev (a : Int) (a0 : 0 ≤ a) (a1 : a < 4294967296) : unV 204 (unV 204 a) = a := by
  show hB (revB (hB (revB a) 32 0)) 32 0 = a
  refine hB_eq _ _ (revB_01 _) a0 a1 fun k hk => ?_
  show bt a k = bt (hB (revB a) 32 0) (31 - k)
  rw [bt_word _ (revB_01 a) (31 - k) (by omega)]
  show bt a k = bt a (31 - (31 - k))
  rw [show 31 - (31 - k) = k by omega]
theorem cnt_32 (f : Nat → Int) : cntB f 32 = f 0 + f 1 + f 2 + f 3 + f 4 + f 5 + f 6 + f 7 + f 8 + f 9 + f 10 + f 11 + f 12 + f 13 + f 14 + f 15 + f 16 + f 17 + f 18 + f 19 + f 20 + f 21 + f 22 + f 23 + f 24 + f 25 + f 26 + f 27 + f 28 + f 29 + f 30 + f 31 := by
  simp only [cntB, Int.zero_add]
theorem cnt_rev (a : Int) : unV 205 (unV 204 a) = unV 205 a := by
  show cntB (bt (hB (revB a) 32 0)) 32 = cntB (bt a) 32
  rw [cntB_congr _ (revB a) 32 (fun k hk => bt_word _ (revB_01 a) k hk), cnt_32, cnt_32]
  simp only [revB, Nat.reduceSub]
  omega
theorem cnt_not (a : Int) : unV 205 a + unV 205 (unV 200 a) = 32 := by
  show cntB (bt a) 32 + cntB (bt (4294967295 - a)) 32 = 32
  rw [cntB_congr (bt (4294967295 - a)) (fun k => 1 - bt a k) 32 (fun k hk => bt_not a k hk), cnt_32, cnt_32]
  omega
theorem cnt_in32 (a : Int) : 0 ≤ unV 205 a ∧ unV 205 a ≤ 32 := cntB_in (bt a) (is01_bt a) 32
theorem xor_not (a : Int) (a0 : 0 ≤ a) (a1 : a < 4294967296) : binV 198 a (unV 200 a) = 4294967295 := by
  show bits .xor .u32 a (4294967295 - a) = 4294967295
  have hi := xor_in a (4294967295 - a) a0 a1 (by omega) (by omega)
  refine word_ext _ _ hi.1 hi.2 (by omega) (by omega) fun k hk => ?_
  rw [bt_xorW _ _ k a0 a1 (by omega) (by omega), bt_top k hk, bt_not a k hk]
  rcases bt_or a k with h | h <;> simp [h]
theorem shl_in (a x : Int) : 0 ≤ binV 196 a x ∧ binV 196 a x < 4294967296 := by
  show 0 ≤ a * 2 ^ (x % 32).toNat % 4294967296 ∧ a * 2 ^ (x % 32).toNat % 4294967296 < 4294967296
  omega
theorem shr_in (a x : Int) (a0 : 0 ≤ a) (a1 : a < 4294967296) : 0 ≤ binV 194 a x ∧ binV 194 a x < 4294967296 :=
  ⟨Int.ediv_nonneg a0 (Int.le_of_lt (two_pos _)), Int.lt_of_le_of_lt (Int.ediv_le_self _ a0) a1⟩
theorem shl_shr (a x : Int) (a0 : 0 ≤ a) (a1 : a < 4294967296) : binV 194 (binV 196 a x) x = binV 199 a (binV 194 4294967295 x) := by
  have hs := shl_in a x
  have h1 := shr_in (binV 196 a x) x hs.1 hs.2
  have h2 := shr_in 4294967295 x (by omega) (by omega)
  have h3 := and_in a (binV 194 4294967295 x) a0 a1 h2.1 h2.2
  have hn : (x % 32).toNat < 32 := by omega
  refine word_ext _ _ h1.1 h1.2 h3.1 h3.2 fun k hk => ?_
  rw [show binV 199 a (binV 194 4294967295 x) = bits .and .u32 a (binV 194 4294967295 x) from rfl, bt_andW _ _ k a0 a1 h2.1 h2.2]
  rw [show binV 194 (binV 196 a x) x = (a * 2 ^ (x % 32).toNat % 4294967296) / 2 ^ (x % 32).toNat from rfl, show binV 194 4294967295 x = 4294967295 / 2 ^ (x % 32).toNat from rfl, bt_div, bt_div]
  generalize (x % 32).toNat = n at *
  by_cases h : n + k < 32
  · rw [bt_mod32 _ _ h, bt_mul, if_neg (by omega), bt_top _ h, show n + k - n = k by omega]
    rcases bt_or a k with h | h <;> simp [h]
  · rw [bt_above _ 32 (n + k) (by omega) (by omega) (by omega), bt_above 4294967295 32 (n + k) (by omega) (by omega) (by omega)]
    simp
theorem shl_mul (a x : Int) : binV 132 a (binV 196 1 (x % 32)) = binV 196 a x := by
  show a * (1 * 2 ^ (x % 32 % 32).toNat % 4294967296) % 4294967296 = a * 2 ^ (x % 32).toNat % 4294967296
  rw [show x % 32 % 32 = x % 32 by omega, Int.one_mul, Int.mul_emod, Int.emod_emod, ← Int.mul_emod]

/-! ### fields -/
theorem fi201 (a b x c : Int) : fiV 201 [a, b, x, c] = hB (inB a b (offN x) (widN (offN x) c)) 32 0 := by
  unfold fiV; rw [if_pos ⟨rfl, by rw [ar201]; rfl⟩]; rfl
theorem fi202 (a x c : Int) : fiV 202 [a, x, c] = hB (sfB a (offN x) (widN (offN x) c)) 32 0 := by
  unfold fiV; rw [if_pos ⟨rfl, by rw [ar202]; rfl⟩]; rfl
theorem fi203 (a x c : Int) : fiV 203 [a, x, c] = hB (flB a (offN x) (widN (offN x) c)) 32 0 := by
  unfold fiV; rw [if_pos ⟨rfl, by rw [ar203]; rfl⟩]; rfl
theorem fb201 (a b x c : Int) : fiB 201 [a, b, x, c] = true := by unfold fiB; rw [show moB 201 = true from rfl, ar201]; rfl
theorem fb202 (a x c : Int) : fiB 202 [a, x, c] = true := by unfold fiB; rw [show moB 202 = true from rfl, ar202]; rfl
theorem fb203 (a x c : Int) : fiB 203 [a, x, c] = true := by unfold fiB; rw [show moB 203 = true from rfl, ar203]; rfl
theorem wid_zero (n : Nat) (h : n ≤ 32) : offN 0 = 0 ∧ widN 0 (n : Int) = n := by unfold offN widN; constructor; rfl; simp; omega
theorem put_taken (a b x c : Int) : fiV 203 [fiV 201 [a, b, x, c], x, c] = fiV 203 [b, 0, (widN (offN x) c : Int)] := by
  have ho := offN_lt x
  have hw := widN_le (offN x) c ho
  rw [fi201, fi203, fi203, (wid_zero _ (by omega)).1, (wid_zero (widN (offN x) c) (by omega)).2]
  refine hB_congr _ _ 32 0 fun k _ _ => ?_
  unfold flB
  by_cases h : k < widN (offN x) c
  · rw [if_pos h, if_pos h, bt_word _ (inB_01 _ _ _ _) _ (by omega)]
    unfold inB
    rw [if_pos (by omega), show offN x + k - offN x = 0 + k by omega]
  · rw [if_neg h, if_neg h]
theorem whole_taken (b x c : Int) (b0 : 0 ≤ b) (b1 : b < 4294967296) (h : 32 ≤ widN (offN x) c) : fiV 203 [b, 0, c] = b := by
  have hc : widN 0 c = 32 := by unfold widN at *; omega
  rw [fi203, show offN 0 = 0 from rfl, hc]
  refine hB_eq _ _ (flB_01 _ _ _) b0 b1 fun k hk => ?_
  unfold flB
  rw [if_pos hk, Nat.zero_add]
theorem put_back (a b x c : Int) (a0 : 0 ≤ a) (a1 : a < 4294967296) : fiV 201 [fiV 201 [a, b, x, c], fiV 203 [a, x, c], x, c] = a := by
  have ho := offN_lt x
  have hw := widN_le (offN x) c ho
  rw [fi201, fi201, fi203]
  refine hB_eq _ _ (inB_01 _ _ _ _) a0 a1 fun k hk => ?_
  by_cases h : offN x ≤ k ∧ k < offN x + widN (offN x) c
  · rw [show ∀ F K, inB F K (offN x) (widN (offN x) c) k = bt K (k - offN x) from fun F K => if_pos h, bt_word _ (flB_01 _ _ _) _ (by omega)]
    unfold flB
    rw [if_pos (by omega), show offN x + (k - offN x) = k by omega]
  · rw [show ∀ F K, inB F K (offN x) (widN (offN x) c) k = bt F k from fun F K => if_neg h, bt_word _ (inB_01 _ _ _ _) k hk]
    exact (if_neg h).symm
theorem signed_taken (a x c : Int) : fiV 203 [fiV 202 [a, x, c], 0, (widN (offN x) c : Int)] = fiV 203 [a, x, c] := by
  have ho := offN_lt x
  have hw := widN_le (offN x) c ho
  rw [fi202, fi203, fi203, (wid_zero _ (by omega)).1, (wid_zero (widN (offN x) c) (by omega)).2]
  refine hB_congr _ _ 32 0 fun k _ _ => ?_
  unfold flB
  by_cases h : k < widN (offN x) c
  · rw [if_pos h, if_pos h, bt_word _ (sfB_01 _ _ _) _ (by omega), Nat.zero_add]
    unfold sfB
    rw [if_neg (by omega), show min k (widN (offN x) c - 1) = k by omega]
  · rw [if_neg h, if_neg h]
theorem fi_in201 (a b x c : Int) : 0 ≤ fiV 201 [a, b, x, c] ∧ fiV 201 [a, b, x, c] < 4294967296 := by rw [fi201]; exact hB_word _ (inB_01 _ _ _ _)
theorem fi_in202 (a x c : Int) : 0 ≤ fiV 202 [a, x, c] ∧ fiV 202 [a, x, c] < 4294967296 := by rw [fi202]; exact hB_word _ (sfB_01 _ _ _)
theorem fi_in203 (a x c : Int) : 0 ≤ fiV 203 [a, x, c] ∧ fiV 203 [a, x, c] < 4294967296 := by rw [fi203]; exact hB_word _ (flB_01 _ _ _)

end Go.Proofs.Ytbhoimeneekdfaa
