/-
  The law ArithDivides answers true, for all words.
-/
import Derived.WalkSpells
import Derived.WalkMore
import Derived.Test.YtaegchobdhbjmaaMathAr
import Derived.Test.YtaegchobdhbjmaaMathDv
import Derived.Test.YtaegchobdhbjmaaArithBinary
namespace Go.Proofs.Ytaegchobdhbjmaa
open Go.RowKit Go.Maps
set_option linter.unusedVariables false
set_option linter.unusedSimpArgs false
set_option maxRecDepth 10000

theorem sq_in (x : Int) (h : -2147483648 ≤ x ∧ x < 2147483648) : 0 ≤ x * x ∧ x * x ≤ 4611686018427387904 := by
  have h1 : x * x = ((x.natAbs * x.natAbs : Nat) : Int) := Int.natAbs_mul_self.symm
  have h2 : x.natAbs * x.natAbs ≤ 2147483648 * 2147483648 := Nat.mul_le_mul (by omega) (by omega)
  omega
theorem wrap64_in' (x : Int) (h : -9223372036854775808 ≤ x ∧ x ≤ 9223372036854775807) : wrap64 x = x := by unfold wrap64; omega

set_option maxHeartbeats 4000000 in
theorem arithDivides_zero (a : Int) (w : World) (a0 : 0 ≤ a) (a1 : a < 4294967296) : Calls Try.prog 6 #[.int .u32 a, .int .u32 0] w fun e w' => e = .returned (.bool true) ∧ Below w.heap.size w w' := by
  have q1 : binV 134 7 2 = 3 := by simp [binV]
  have q2 : binV 135 4294967289 2 = 4294967293 := by simp [binV, wrap32]
  have q3 : binV 137 7 2 = 1 := by simp [binV]
  have e1 : binV 134 a 0 = 0 := by simp [binV]
  have e2 : binV 135 a 0 = 0 := by simp [binV]
  have e3 : binV 137 a 0 = 0 := by simp [binV]
  have e4 : binV 138 a 0 = 0 := by simp [binV]
  have e5 : binV 139 a 0 = 0 := by simp [binV]
  have hb : Below w.heap.size w w := Below.refl _ _
  go_enter Try.func6, Try.ntmps6
  go_wp2_with (go_at_call 13; refine (twoV_any _ _ _ _ w _ (by assumption) (by assumption) (by omega) (by omega) (by omega) (by omega) (by omega) (by omega)).mono ?_; rintro e w' ⟨rfl, hb⟩)
  go_ret
  exact ⟨rfl, by assumption⟩

set_option maxHeartbeats 4000000 in
theorem arithDivides_some (a b q r x q2 r2 x2 m2 R Mo T S : Int) (w : World) (a0 : 0 ≤ a) (a1 : a < 4294967296) (b0 : 0 ≤ b) (b1 : b < 4294967296) (hb0 : b ≠ 0)
    (e134 : binV 134 a b = q) (e132 : binV 132 q b = x) (e137 : binV 137 a b = r) (e128 : binV 128 x r = a) (e135 : binV 135 a b = q2) (f132 : binV 132 q2 b = x2) (e138 : binV 138 a b = r2) (f128 : binV 128 x2 r2 = a) (e139 : binV 139 a b = m2)
    (iq : 0 ≤ q ∧ q < 4294967296) (ir : 0 ≤ r ∧ r < b) (ix : 0 ≤ x ∧ x < 4294967296) (iq2 : 0 ≤ q2 ∧ q2 < 4294967296) (ir2 : 0 ≤ r2 ∧ r2 < 4294967296) (ix2 : 0 ≤ x2 ∧ x2 < 4294967296) (im2 : 0 ≤ m2 ∧ m2 < 4294967296)
    (hR : wrap32 r2 = R) (hM : wrap32 m2 = Mo) (hT : wrap32 b = T) (hS : wrap32 a = S)
    (jR : -2147483648 ≤ R ∧ R < 2147483648) (jM : -2147483648 ≤ Mo ∧ Mo < 2147483648) (jT : -2147483648 ≤ T ∧ T < 2147483648) (jS : -2147483648 ≤ S ∧ S < 2147483648)
    (wR : wrap64 (R * R) = R * R) (wM : wrap64 (Mo * Mo) = Mo * Mo) (wT : wrap64 (T * T) = T * T) (wD : wrap64 (R - Mo) = R - Mo) (wN : wrap64 (-T) = -T)
    (lR : R * R < T * T) (lM : Mo * Mo < T * T) (hs : R = 0 ∨ (R < 0 ↔ S < 0)) (hm : Mo = 0 ∨ (Mo < 0 ↔ T < 0)) (hd : R - Mo = 0 ∨ R - Mo = -T) :
    Calls Try.prog 6 #[.int .u32 a, .int .u32 b] w fun e w' => e = .returned (.bool true) ∧ Below w.heap.size w w' := by
  have q1 : binV 134 7 2 = 3 := by simp [binV]
  have q2' : binV 135 4294967289 2 = 4294967293 := by simp [binV, wrap32]
  have q3 : binV 137 7 2 = 1 := by simp [binV]
  have hb : Below w.heap.size w w := Below.refl _ _
  go_enter Try.func6, Try.ntmps6
  go_wp2_with (go_at_call 13; refine (twoV_any _ _ _ _ w _ (by assumption) (by assumption) (by omega) (by omega) (by omega) (by omega) (by omega) (by omega)).mono ?_; rintro e w' ⟨rfl, hb⟩)
  all_goals go_ret
  all_goals refine ⟨?_, by assumption⟩
  all_goals first | rfl | (show Ending.returned (Value.bool _) = Ending.returned (Value.bool true); congr 2; simp; omega) | (exfalso; rename_i hx; have h2 := hx.2; rcases hs with hs | hs <;> first | exact absurd hs (by assumption) | (simp [hs] at h2))

theorem arithDivides_true (w : World) (a : Int) (ha : (Lit.int .u32 a).wf = true) (b : Int) (hb : (Lit.int .u32 b).wf = true) : Calls Try.prog 6 #[.int .u32 a, .int .u32 b] w fun e w' => e = .returned (.bool true) ∧ Below w.heap.size w w' := by
  have ha' : 0 ≤ a ∧ a < 4294967296 := by simp [Lit.wf, show IntKind.u32.min = 0 from rfl, show IntKind.u32.max = 4294967295 from rfl] at ha; omega
  have hb' : 0 ≤ b ∧ b < 4294967296 := by simp [Lit.wf, show IntKind.u32.min = 0 from rfl, show IntKind.u32.max = 4294967295 from rfl] at hb; omega
  obtain ⟨a0, a1⟩ := ha'
  obtain ⟨b0, b1⟩ := hb'
  by_cases h0 : b = 0
  · subst h0
    exact arithDivides_zero a w a0 a1
  · have wz := wrap_zero b b0 b1 h0
    have wa := wrap_in a
    have wb := wrap_in b
    have dl := div_le a b a0 b0
    have ml := mod_lt a b b0 h0
    have tr := tmod_in (wrap32 a) (wrap32 b) wz
    have fa := flo_abs (wrap32 a) (wrap32 b) wz
    have hT := sq_in (wrap32 b) wb
    have hR := sq_in ((wrap32 a).tmod (wrap32 b)) (by omega)
    have hM := sq_in (flo (wrap32 a) (wrap32 b)) (by omega)
    refine arithDivides_some a b (a / b) (a % b) (a / b * b % 4294967296) ((wrap32 a).tdiv (wrap32 b) % 4294967296) ((wrap32 a).tmod (wrap32 b) % 4294967296) (((wrap32 a).tdiv (wrap32 b) % 4294967296) * b % 4294967296) (flo (wrap32 a) (wrap32 b) % 4294967296) ((wrap32 a).tmod (wrap32 b)) (flo (wrap32 a) (wrap32 b)) (wrap32 b) (wrap32 a) w a0 a1 b0 b1 h0
      (by simp [binV, h0]) (by simp [binV]) (by simp [binV, h0]) ?_ (by simp [binV, h0]) (by simp [binV]) (by simp [binV, h0]) ?_ (by simp [binV, h0]) (by omega) ml (by omega) (by omega) (by omega) (by omega) (by omega)
      (wrap_back _ (by omega)) (wrap_back _ (by omega)) rfl rfl (by omega) (by omega) wb wa (wrap64_in' _ (by omega)) (wrap64_in' _ (by omega)) (wrap64_in' _ (by omega)) (wrap64_in' _ (by omega)) (wrap64_in' _ (by omega)) (sq_lt _ _ (tmod_abs _ _ wz) wz) (sq_lt _ _ fa wz) ?_ (flo_sign _ _ wz) (flo_diff _ _)
    · show ((a / b) * b % 4294967296 + a % b) % 4294967296 = a
      exact div_back a b a0 a1
    · show _ % 4294967296 = a
      exact sdiv_back a b a0 a1
    · by_cases e : (wrap32 a).tmod (wrap32 b) = 0
      · exact .inl e
      · exact .inr (tmod_sign _ _ e)

end Go.Proofs.Ytaegchobdhbjmaa
