/-
  What the document's Unary answers, for all operations and words.
-/
import Derived.WalkSpells
import Derived.WalkMore
import Derived.Deep.MidRow
import Derived.BigRegion
import Derived.Test.YtbhoimeneekdfaaRef13Moved
import Derived.Test.YtbhoimeneekdfaaRef13Small
import Derived.Test.YtbhoimeneekdfaaArithUnary
namespace Go.Proofs.Ytbhoimeneekdfaa
open Go.RowKit
set_option linter.unusedVariables false
set_option linter.unusedSimpArgs false
set_option maxRecDepth 10000

def notB (a : Int) (j : Nat) : Int := 1 - bt a j
theorem notB_01 (a : Int) : Is01 (notB a) := fun j => by unfold notB; rcases bt_or a j with h | h <;> omega
theorem not_eq (a : Int) (a0 : 0 ≤ a) (a1 : a < 4294967296) : hB (notB a) 32 0 = 4294967295 - a :=
  hB_eq _ _ (notB_01 a) (by omega) (by omega) fun k hk => bt_not a k hk

set_option maxHeartbeats 4000000 in
theorem refUn83 (op a : Int) (w : World) (a0 : 0 ≤ a) (a1 : a < 4294967296) (ho : op = 83) : Calls Try.prog 6 #[.int .u16 op, .int .u32 a] w fun e w' => e = .returned (.tuple #[.int .u32 a, .bool true]) ∧ Below w.heap.size w w' := by
  subst ho
  go_enter Try.func6, Try.ntmps6
  go_wp2_with fail
  refine (refBits_any a w a0 a1).mono ?_
  rintro e w1 ⟨rfl, hb1⟩
  generalize hAR : (arr32 (bt a)).toArray = AR
  have HA := hide (ArrB.new w1 (fun _ => 0))
  rw [arr32_zero] at HA
  go_wp2_with (first | fail | (refine wpList_store32A rfl _ _ rfl _ _ (bt a) _ rfl rfl hAR HA.out ?_; intro w2 hA2 hg2))
  have HM := hide (MvK.start hb1 hA2 hg2)
  rw [arr32_zero] at HM
  clear HA hA2 hg2 hb1
  generalize hX : w2.heap.size = X at *
  generalize w1.heap.size = L at *
  generalize w2.alloc (.cells #[.int .u32 0, .int .u32 0, .int .u32 0, .int .u32 0, .int .u32 0, .int .u32 0, .int .u32 0, .int .u32 0, .int .u32 0, .int .u32 0, .int .u32 0, .int .u32 0, .int .u32 0, .int .u32 0, .int .u32 0, .int .u32 0, .int .u32 0, .int .u32 0, .int .u32 0, .int .u32 0, .int .u32 0, .int .u32 0, .int .u32 0, .int .u32 0, .int .u32 0, .int .u32 0, .int .u32 0, .int .u32 0, .int .u32 0, .int .u32 0, .int .u32 0, .int .u32 0] 37) = W3 at *
  clear hX hAR
  go_loopw [8, 9] (fun x i wr => ∃ k : Nat, k ≤ 32 ∧ i = .int .i64 k ∧ x = .int .u32 (cntB (bt a) k) ∧ wr = W3) (fun _ i _ => 32 - (intOf i).toNat)
  case atStart => exact ⟨0, by omega, rfl, rfl, rfl⟩
  case round =>
    obtain ⟨k, hk, rfl, rfl, rfl⟩ := hrel
    by_cases hlt : k < 32
    · have hki : (k : Int) < 32 := by omega
      have hc := HM.out.2.2.1.cell k hlt
      have hin := cntB_in (bt a) (is01_bt a) k
      have hb := bt_or a k
      have HY : Hid (Value.int .u32 (cntB (bt a) k + bt a k) = Value.int .u32 (cntB (bt a) (k + 1))) := rfl
      have HLT := hide hlt
      clear hlt hk
      generalize cntB (bt a) k = Y at *
      generalize bt a k = y at *
      go_wp2
      exact ⟨⟨k + 1, HLT.out, by simp, HY.out, by trivial⟩, meas32 HLT.out⟩
    · have e32 : k = 32 := by omega
      subst e32
      have hbw := HM.out.2.2.2.2
      clear HM
      go_wp2
      go_ret2
      exact ⟨rfl, hbw⟩

set_option maxHeartbeats 4000000 in
theorem refUn124 (op a : Int) (w : World) (a0 : 0 ≤ a) (a1 : a < 4294967296) (ho : op = 124) : Calls Try.prog 6 #[.int .u16 op, .int .u32 a] w fun e w' => e = .returned (.tuple #[.int .u32 a, .bool true]) ∧ Below w.heap.size w w' := by
  subst ho
  go_enter Try.func6, Try.ntmps6
  go_wp2_with fail
  refine (refBits_any a w a0 a1).mono ?_
  rintro e w1 ⟨rfl, hb1⟩
  generalize hAR : (arr32 (bt a)).toArray = AR
  have HA := hide (ArrB.new w1 (fun _ => 0))
  rw [arr32_zero] at HA
  go_wp2_with (first | fail | (refine wpList_store32A rfl _ _ rfl _ _ (bt a) _ rfl rfl hAR HA.out ?_; intro w2 hA2 hg2))
  have HM := hide (MvK.start hb1 hA2 hg2)
  rw [arr32_zero] at HM
  clear HA hA2 hg2 hb1
  generalize hX : w2.heap.size = X at *
  generalize w1.heap.size = L at *
  generalize w2.alloc (.cells #[.int .u32 0, .int .u32 0, .int .u32 0, .int .u32 0, .int .u32 0, .int .u32 0, .int .u32 0, .int .u32 0, .int .u32 0, .int .u32 0, .int .u32 0, .int .u32 0, .int .u32 0, .int .u32 0, .int .u32 0, .int .u32 0, .int .u32 0, .int .u32 0, .int .u32 0, .int .u32 0, .int .u32 0, .int .u32 0, .int .u32 0, .int .u32 0, .int .u32 0, .int .u32 0, .int .u32 0, .int .u32 0, .int .u32 0, .int .u32 0, .int .u32 0, .int .u32 0] 37) = W3 at *
  clear hX hAR
  go_loopw [8, 9] (fun x i wr => ∃ k : Nat, k ≤ 32 ∧ i = .int .i64 k ∧ x = .int .u32 (cntB (bt a) k) ∧ wr = W3) (fun _ i _ => 32 - (intOf i).toNat)
  case atStart => exact ⟨0, by omega, rfl, rfl, rfl⟩
  case round =>
    obtain ⟨k, hk, rfl, rfl, rfl⟩ := hrel
    by_cases hlt : k < 32
    · have hki : (k : Int) < 32 := by omega
      have hc := HM.out.2.2.1.cell k hlt
      have hin := cntB_in (bt a) (is01_bt a) k
      have hb := bt_or a k
      have HY : Hid (Value.int .u32 (cntB (bt a) k + bt a k) = Value.int .u32 (cntB (bt a) (k + 1))) := rfl
      have HLT := hide hlt
      clear hlt hk
      generalize cntB (bt a) k = Y at *
      generalize bt a k = y at *
      go_wp2
      exact ⟨⟨k + 1, HLT.out, by simp, HY.out, by trivial⟩, meas32 HLT.out⟩
    · have e32 : k = 32 := by omega
      subst e32
      have hbw := HM.out.2.2.2.2
      clear HM
      go_wp2
      go_ret2
      exact ⟨rfl, hbw⟩

set_option maxHeartbeats 4000000 in
theorem refUn126 (op a : Int) (w : World) (a0 : 0 ≤ a) (a1 : a < 4294967296) (ho : op = 126) : Calls Try.prog 6 #[.int .u16 op, .int .u32 a] w fun e w' => e = .returned (.tuple #[.int .u32 (unV 126 a), .bool true]) ∧ Below w.heap.size w w' := by
  subst ho
  have HV : Hid ((-a) % 4294967296 = unV 126 a) := rfl
  go_enter Try.func6, Try.ntmps6
  go_wp2_with fail
  refine (refBits_any a w a0 a1).mono ?_
  rintro e w1 ⟨rfl, hb1⟩
  generalize hAR : (arr32 (bt a)).toArray = AR
  have HA := hide (ArrB.new w1 (fun _ => 0))
  rw [arr32_zero] at HA
  go_wp2_with (first | fail | (refine wpList_store32A rfl _ _ rfl _ _ (bt a) _ rfl rfl hAR HA.out ?_; intro w2 hA2 hg2))
  have HM := hide (MvK.start hb1 hA2 hg2)
  rw [arr32_zero] at HM
  clear HA hA2 hg2 hb1
  generalize hX : w2.heap.size = X at *
  generalize w1.heap.size = L at *
  generalize w2.alloc (.cells #[.int .u32 0, .int .u32 0, .int .u32 0, .int .u32 0, .int .u32 0, .int .u32 0, .int .u32 0, .int .u32 0, .int .u32 0, .int .u32 0, .int .u32 0, .int .u32 0, .int .u32 0, .int .u32 0, .int .u32 0, .int .u32 0, .int .u32 0, .int .u32 0, .int .u32 0, .int .u32 0, .int .u32 0, .int .u32 0, .int .u32 0, .int .u32 0, .int .u32 0, .int .u32 0, .int .u32 0, .int .u32 0, .int .u32 0, .int .u32 0, .int .u32 0, .int .u32 0] 37) = W3 at *
  clear hX hAR
  go_loopw [8, 9] (fun x i wr => ∃ k : Nat, k ≤ 32 ∧ i = .int .i64 k ∧ x = .int .u32 (cntB (bt a) k) ∧ wr = W3) (fun _ i _ => 32 - (intOf i).toNat)
  case atStart => exact ⟨0, by omega, rfl, rfl, rfl⟩
  case round =>
    obtain ⟨k, hk, rfl, rfl, rfl⟩ := hrel
    by_cases hlt : k < 32
    · have hki : (k : Int) < 32 := by omega
      have hc := HM.out.2.2.1.cell k hlt
      have hin := cntB_in (bt a) (is01_bt a) k
      have hb := bt_or a k
      have HY : Hid (Value.int .u32 (cntB (bt a) k + bt a k) = Value.int .u32 (cntB (bt a) (k + 1))) := rfl
      have HLT := hide hlt
      clear hlt hk
      generalize cntB (bt a) k = Y at *
      generalize bt a k = y at *
      go_wp2
      exact ⟨⟨k + 1, HLT.out, by simp, HY.out, by trivial⟩, meas32 HLT.out⟩
    · have e32 : k = 32 := by omega
      subst e32
      have hbw := HM.out.2.2.2.2
      clear HM
      go_wp2_with fail
      refine (refWord_any _ _ (by omega) (by omega)).mono ?_
      rintro e w' ⟨rfl, rfl⟩
      go_wp2
      rw [HV.out]
      go_ret2
      exact ⟨rfl, hbw⟩

set_option maxHeartbeats 4000000 in
theorem refUn168 (op a : Int) (w : World) (a0 : 0 ≤ a) (a1 : a < 4294967296) (ho : op = 168) : Calls Try.prog 6 #[.int .u16 op, .int .u32 a] w fun e w' => e = .returned (.tuple #[.int .u32 (unV 168 a), .bool true]) ∧ Below w.heap.size w w' := by
  subst ho
  have hcz := cntB_zero a a0 a1
  have hdz : decide (cntB (bt a) 32 = 0) = decide (a = 0) := by rw [decide_eq_decide]; exact hcz
  have HV : Hid (b2i (decide (cntB (bt a) 32 = 0)) = unV 168 a) := by show _ = b2i (decide (a = 0)); rw [hdz]
  clear hcz hdz
  go_enter Try.func6, Try.ntmps6
  go_wp2_with fail
  refine (refBits_any a w a0 a1).mono ?_
  rintro e w1 ⟨rfl, hb1⟩
  generalize hAR : (arr32 (bt a)).toArray = AR
  have HA := hide (ArrB.new w1 (fun _ => 0))
  rw [arr32_zero] at HA
  go_wp2_with (first | fail | (refine wpList_store32A rfl _ _ rfl _ _ (bt a) _ rfl rfl hAR HA.out ?_; intro w2 hA2 hg2))
  have HM := hide (MvK.start hb1 hA2 hg2)
  rw [arr32_zero] at HM
  clear HA hA2 hg2 hb1
  generalize hX : w2.heap.size = X at *
  generalize w1.heap.size = L at *
  generalize w2.alloc (.cells #[.int .u32 0, .int .u32 0, .int .u32 0, .int .u32 0, .int .u32 0, .int .u32 0, .int .u32 0, .int .u32 0, .int .u32 0, .int .u32 0, .int .u32 0, .int .u32 0, .int .u32 0, .int .u32 0, .int .u32 0, .int .u32 0, .int .u32 0, .int .u32 0, .int .u32 0, .int .u32 0, .int .u32 0, .int .u32 0, .int .u32 0, .int .u32 0, .int .u32 0, .int .u32 0, .int .u32 0, .int .u32 0, .int .u32 0, .int .u32 0, .int .u32 0, .int .u32 0] 37) = W3 at *
  clear hX hAR
  go_loopw [8, 9] (fun x i wr => ∃ k : Nat, k ≤ 32 ∧ i = .int .i64 k ∧ x = .int .u32 (cntB (bt a) k) ∧ wr = W3) (fun _ i _ => 32 - (intOf i).toNat)
  case atStart => exact ⟨0, by omega, rfl, rfl, rfl⟩
  case round =>
    obtain ⟨k, hk, rfl, rfl, rfl⟩ := hrel
    by_cases hlt : k < 32
    · have hki : (k : Int) < 32 := by omega
      have hc := HM.out.2.2.1.cell k hlt
      have hin := cntB_in (bt a) (is01_bt a) k
      have hb := bt_or a k
      have HY : Hid (Value.int .u32 (cntB (bt a) k + bt a k) = Value.int .u32 (cntB (bt a) (k + 1))) := rfl
      have HLT := hide hlt
      clear hlt hk
      generalize cntB (bt a) k = Y at *
      generalize bt a k = y at *
      go_wp2
      exact ⟨⟨k + 1, HLT.out, by simp, HY.out, by trivial⟩, meas32 HLT.out⟩
    · have e32 : k = 32 := by omega
      subst e32
      have hbw := HM.out.2.2.2.2
      clear HM
      generalize cntB (bt a) 32 = Y at *
      go_wp2_with fail
      refine (refTruth_any _ _).mono ?_
      rintro e w' ⟨rfl, rfl⟩
      go_wp2
      rw [beq_dec, HV.out]
      go_ret2
      exact ⟨rfl, hbw⟩

set_option maxHeartbeats 4000000 in
theorem refUn205 (op a : Int) (w : World) (a0 : 0 ≤ a) (a1 : a < 4294967296) (ho : op = 205) : Calls Try.prog 6 #[.int .u16 op, .int .u32 a] w fun e w' => e = .returned (.tuple #[.int .u32 (unV 205 a), .bool true]) ∧ Below w.heap.size w w' := by
  subst ho
  have HV : Hid (cntB (bt a) 32 = unV 205 a) := rfl
  go_enter Try.func6, Try.ntmps6
  go_wp2_with fail
  refine (refBits_any a w a0 a1).mono ?_
  rintro e w1 ⟨rfl, hb1⟩
  generalize hAR : (arr32 (bt a)).toArray = AR
  have HA := hide (ArrB.new w1 (fun _ => 0))
  rw [arr32_zero] at HA
  go_wp2_with (first | fail | (refine wpList_store32A rfl _ _ rfl _ _ (bt a) _ rfl rfl hAR HA.out ?_; intro w2 hA2 hg2))
  have HM := hide (MvK.start hb1 hA2 hg2)
  rw [arr32_zero] at HM
  clear HA hA2 hg2 hb1
  generalize hX : w2.heap.size = X at *
  generalize w1.heap.size = L at *
  generalize w2.alloc (.cells #[.int .u32 0, .int .u32 0, .int .u32 0, .int .u32 0, .int .u32 0, .int .u32 0, .int .u32 0, .int .u32 0, .int .u32 0, .int .u32 0, .int .u32 0, .int .u32 0, .int .u32 0, .int .u32 0, .int .u32 0, .int .u32 0, .int .u32 0, .int .u32 0, .int .u32 0, .int .u32 0, .int .u32 0, .int .u32 0, .int .u32 0, .int .u32 0, .int .u32 0, .int .u32 0, .int .u32 0, .int .u32 0, .int .u32 0, .int .u32 0, .int .u32 0, .int .u32 0] 37) = W3 at *
  clear hX hAR
  go_loopw [8, 9] (fun x i wr => ∃ k : Nat, k ≤ 32 ∧ i = .int .i64 k ∧ x = .int .u32 (cntB (bt a) k) ∧ wr = W3) (fun _ i _ => 32 - (intOf i).toNat)
  case atStart => exact ⟨0, by omega, rfl, rfl, rfl⟩
  case round =>
    obtain ⟨k, hk, rfl, rfl, rfl⟩ := hrel
    by_cases hlt : k < 32
    · have hki : (k : Int) < 32 := by omega
      have hc := HM.out.2.2.1.cell k hlt
      have hin := cntB_in (bt a) (is01_bt a) k
      have hb := bt_or a k
      have HY : Hid (Value.int .u32 (cntB (bt a) k + bt a k) = Value.int .u32 (cntB (bt a) (k + 1))) := rfl
      have HLT := hide hlt
      clear hlt hk
      generalize cntB (bt a) k = Y at *
      generalize bt a k = y at *
      go_wp2
      exact ⟨⟨k + 1, HLT.out, by simp, HY.out, by trivial⟩, meas32 HLT.out⟩
    · have e32 : k = 32 := by omega
      subst e32
      have hbw := HM.out.2.2.2.2
      clear HM
      rw [HV.out]
      go_wp2
      go_ret2
      exact ⟨rfl, hbw⟩

set_option maxHeartbeats 4000000 in
theorem refUnNone (op a : Int) (w : World) (a0 : 0 ≤ a) (a1 : a < 4294967296) (c1 : ¬ op = 83) (c2 : ¬ op = 124) (c3 : ¬ op = 126) (c4 : ¬ op = 168) (c5 : ¬ op = 200) (c6 : ¬ op = 204) (c7 : ¬ op = 205) : Calls Try.prog 6 #[.int .u16 op, .int .u32 a] w fun e w' => e = .returned (.tuple #[.int .u32 0, .bool false]) ∧ Below w.heap.size w w' := by
  go_enter Try.func6, Try.ntmps6
  go_wp2_with fail
  refine (refBits_any a w a0 a1).mono ?_
  rintro e w1 ⟨rfl, hb1⟩
  generalize hAR : (arr32 (bt a)).toArray = AR
  have HA := hide (ArrB.new w1 (fun _ => 0))
  rw [arr32_zero] at HA
  go_wp2_with (first | fail | (refine wpList_store32A rfl _ _ rfl _ _ (bt a) _ rfl rfl hAR HA.out ?_; intro w2 hA2 hg2))
  have HM := hide (MvK.start hb1 hA2 hg2)
  rw [arr32_zero] at HM
  clear HA hA2 hg2 hb1
  generalize hX : w2.heap.size = X at *
  generalize w1.heap.size = L at *
  generalize w2.alloc (.cells #[.int .u32 0, .int .u32 0, .int .u32 0, .int .u32 0, .int .u32 0, .int .u32 0, .int .u32 0, .int .u32 0, .int .u32 0, .int .u32 0, .int .u32 0, .int .u32 0, .int .u32 0, .int .u32 0, .int .u32 0, .int .u32 0, .int .u32 0, .int .u32 0, .int .u32 0, .int .u32 0, .int .u32 0, .int .u32 0, .int .u32 0, .int .u32 0, .int .u32 0, .int .u32 0, .int .u32 0, .int .u32 0, .int .u32 0, .int .u32 0, .int .u32 0, .int .u32 0] 37) = W3 at *
  clear hX hAR
  go_loopw [8, 9] (fun x i wr => ∃ k : Nat, k ≤ 32 ∧ i = .int .i64 k ∧ x = .int .u32 (cntB (bt a) k) ∧ wr = W3) (fun _ i _ => 32 - (intOf i).toNat)
  case atStart => exact ⟨0, by omega, rfl, rfl, rfl⟩
  case round =>
    obtain ⟨k, hk, rfl, rfl, rfl⟩ := hrel
    by_cases hlt : k < 32
    · have hki : (k : Int) < 32 := by omega
      have hc := HM.out.2.2.1.cell k hlt
      have hin := cntB_in (bt a) (is01_bt a) k
      have hb := bt_or a k
      have HY : Hid (Value.int .u32 (cntB (bt a) k + bt a k) = Value.int .u32 (cntB (bt a) (k + 1))) := rfl
      have HLT := hide hlt
      clear hlt hk
      generalize cntB (bt a) k = Y at *
      generalize bt a k = y at *
      go_wp2
      exact ⟨⟨k + 1, HLT.out, by simp, HY.out, by trivial⟩, meas32 HLT.out⟩
    · have e32 : k = 32 := by omega
      subst e32
      have hbw := HM.out.2.2.2.2
      clear HM
      go_wp2
      go_ret2
      exact ⟨rfl, hbw⟩

set_option maxHeartbeats 4000000 in
theorem refUn200 (op a : Int) (w : World) (a0 : 0 ≤ a) (a1 : a < 4294967296) (ho : op = 200) : Calls Try.prog 6 #[.int .u16 op, .int .u32 a] w fun e w' => e = .returned (.tuple #[.int .u32 (unV 200 a), .bool true]) ∧ Below w.heap.size w w' := by
  subst ho
  have hO := fun w => refOf_any13 (notB a) (notB_01 a) w
  have hV : hB (notB a) 32 0 = unV 200 a := not_eq a a0 a1
  rw [hV] at hO
  generalize unV 200 a = V at *
  clear hV
  go_enter Try.func6, Try.ntmps6
  go_wp2_with fail
  refine (refBits_any a w a0 a1).mono ?_
  rintro e w1 ⟨rfl, hb1⟩
  generalize hAR : (arr32 (bt a)).toArray = AR
  have HA := hide (ArrB.new w1 (fun _ => 0))
  rw [arr32_zero] at HA
  go_wp2_with (first | fail | (refine wpList_store32A rfl _ _ rfl _ _ (bt a) _ rfl rfl hAR HA.out ?_; intro w2 hA2 hg2))
  have HM := hide (MvK.start hb1 hA2 hg2)
  rw [arr32_zero] at HM
  clear HA hA2 hg2 hb1
  generalize hX : w2.heap.size = X at *
  generalize w1.heap.size = L at *
  generalize w2.alloc (.cells #[.int .u32 0, .int .u32 0, .int .u32 0, .int .u32 0, .int .u32 0, .int .u32 0, .int .u32 0, .int .u32 0, .int .u32 0, .int .u32 0, .int .u32 0, .int .u32 0, .int .u32 0, .int .u32 0, .int .u32 0, .int .u32 0, .int .u32 0, .int .u32 0, .int .u32 0, .int .u32 0, .int .u32 0, .int .u32 0, .int .u32 0, .int .u32 0, .int .u32 0, .int .u32 0, .int .u32 0, .int .u32 0, .int .u32 0, .int .u32 0, .int .u32 0, .int .u32 0] 37) = W3 at *
  clear hX hAR
  go_loopw [8, 9] (fun x i wr => ∃ k : Nat, k ≤ 32 ∧ i = .int .i64 k ∧ x = .int .u32 (cntB (bt a) k) ∧ wr = W3) (fun _ i _ => 32 - (intOf i).toNat)
  case atStart => exact ⟨0, by omega, rfl, rfl, rfl⟩
  case round =>
    obtain ⟨k, hk, rfl, rfl, rfl⟩ := hrel
    by_cases hlt : k < 32
    · have hki : (k : Int) < 32 := by omega
      have hc := HM.out.2.2.1.cell k hlt
      have hin := cntB_in (bt a) (is01_bt a) k
      have hb := bt_or a k
      have HY : Hid (Value.int .u32 (cntB (bt a) k + bt a k) = Value.int .u32 (cntB (bt a) (k + 1))) := rfl
      have HLT := hide hlt
      clear hlt hk
      generalize cntB (bt a) k = Y at *
      generalize bt a k = y at *
      go_wp2
      exact ⟨⟨k + 1, HLT.out, by simp, HY.out, by trivial⟩, meas32 HLT.out⟩
    · have e32 : k = 32 := by omega
      subst e32
      have hbw := HM.out.2.2.2.2
      clear hlt hk
      generalize cntB (bt a) 32 = Y at *
      go_wp2_with fail
      go_loopw [10] (fun i wr => ∃ k : Nat, k ≤ 32 ∧ i = .int .i64 k ∧ MvK w wr L X (bt a) (fun j => if j < k then notB a j else 0)) (fun i _ => 32 - (intOf i).toNat)
      case atStart => exact ⟨0, by omega, rfl, HM.out.congr (fun k _ => by simp)⟩
      case round =>
        obtain ⟨k, hk, rfl, hM⟩ := hrel
        clear HM hbw
        by_cases hlt : k < 32
        · have hki : (k : Int) < 32 := by omega
          have hcX := hM.2.2.2.1.cell k hlt
          have hfX := hM.2.2.2.1.frozen k
          have hcL := hM.2.2.1.cell k (by omega)
          have HSv : Hid (∀ v : Int, v = notB a k → MvK w (wr.setCell ⟨X, k, none⟩ (.int .u32 v)) L X (bt a) (fun j => if j < k + 1 then notB a j else 0)) := fun v hv => (hM.set k hlt v).congr (upto_next (notB a) k v hv)
          have hb := bt_or a k
          have HV : Hid (1 - bt a k = notB a k) := rfl
          have HLT := hide hlt
          skip
          clear hM hlt hk
          generalize bt a k = y at *
          go_wp2
          exact ⟨⟨k + 1, HLT.out, by simp, HSv.out _ HV.out⟩, meas32 HLT.out⟩
        · have e32 : k = 32 := by omega
          have HX := hide (hM.2.2.2.1.congr (g := notB a) (fun j hj => by simp [show j < k by omega]))
          have hb := hM.2.2.2.2
          have hki : ¬ (k : Int) < 32 := by omega
          clear hM e32
          go_wp2_with (first | (refine wpList_load32A rfl _ rfl _ _ rfl HX.out ?_; intro AR2 hAR2))
          rw [hAR2] at hO
          refine (hO _).mono ?_
          rintro e w5 ⟨rfl, hb5⟩
          go_wp2
          go_ret2
          exact ⟨rfl, hb.trans (hb5.mono hb.size)⟩

set_option maxHeartbeats 4000000 in
theorem refUn204 (op a : Int) (w : World) (a0 : 0 ≤ a) (a1 : a < 4294967296) (ho : op = 204) : Calls Try.prog 6 #[.int .u16 op, .int .u32 a] w fun e w' => e = .returned (.tuple #[.int .u32 (unV 204 a), .bool true]) ∧ Below w.heap.size w w' := by
  subst ho
  have hO := fun w => refOf_any13 (revB a) (revB_01 a) w
  have hV : hB (revB a) 32 0 = unV 204 a := rfl
  rw [hV] at hO
  generalize unV 204 a = V at *
  clear hV
  go_enter Try.func6, Try.ntmps6
  go_wp2_with fail
  refine (refBits_any a w a0 a1).mono ?_
  rintro e w1 ⟨rfl, hb1⟩
  generalize hAR : (arr32 (bt a)).toArray = AR
  have HA := hide (ArrB.new w1 (fun _ => 0))
  rw [arr32_zero] at HA
  go_wp2_with (first | fail | (refine wpList_store32A rfl _ _ rfl _ _ (bt a) _ rfl rfl hAR HA.out ?_; intro w2 hA2 hg2))
  have HM := hide (MvK.start hb1 hA2 hg2)
  rw [arr32_zero] at HM
  clear HA hA2 hg2 hb1
  generalize hX : w2.heap.size = X at *
  generalize w1.heap.size = L at *
  generalize w2.alloc (.cells #[.int .u32 0, .int .u32 0, .int .u32 0, .int .u32 0, .int .u32 0, .int .u32 0, .int .u32 0, .int .u32 0, .int .u32 0, .int .u32 0, .int .u32 0, .int .u32 0, .int .u32 0, .int .u32 0, .int .u32 0, .int .u32 0, .int .u32 0, .int .u32 0, .int .u32 0, .int .u32 0, .int .u32 0, .int .u32 0, .int .u32 0, .int .u32 0, .int .u32 0, .int .u32 0, .int .u32 0, .int .u32 0, .int .u32 0, .int .u32 0, .int .u32 0, .int .u32 0] 37) = W3 at *
  clear hX hAR
  go_loopw [8, 9] (fun x i wr => ∃ k : Nat, k ≤ 32 ∧ i = .int .i64 k ∧ x = .int .u32 (cntB (bt a) k) ∧ wr = W3) (fun _ i _ => 32 - (intOf i).toNat)
  case atStart => exact ⟨0, by omega, rfl, rfl, rfl⟩
  case round =>
    obtain ⟨k, hk, rfl, rfl, rfl⟩ := hrel
    by_cases hlt : k < 32
    · have hki : (k : Int) < 32 := by omega
      have hc := HM.out.2.2.1.cell k hlt
      have hin := cntB_in (bt a) (is01_bt a) k
      have hb := bt_or a k
      have HY : Hid (Value.int .u32 (cntB (bt a) k + bt a k) = Value.int .u32 (cntB (bt a) (k + 1))) := rfl
      have HLT := hide hlt
      clear hlt hk
      generalize cntB (bt a) k = Y at *
      generalize bt a k = y at *
      go_wp2
      exact ⟨⟨k + 1, HLT.out, by simp, HY.out, by trivial⟩, meas32 HLT.out⟩
    · have e32 : k = 32 := by omega
      subst e32
      have hbw := HM.out.2.2.2.2
      clear hlt hk
      generalize cntB (bt a) 32 = Y at *
      go_wp2_with fail
      go_loopw [11] (fun i wr => ∃ k : Nat, k ≤ 32 ∧ i = .int .i64 k ∧ MvK w wr L X (bt a) (fun j => if j < k then revB a j else 0)) (fun i _ => 32 - (intOf i).toNat)
      case atStart => exact ⟨0, by omega, rfl, HM.out.congr (fun k _ => by simp)⟩
      case round =>
        obtain ⟨k, hk, rfl, hM⟩ := hrel
        clear HM hbw
        by_cases hlt : k < 32
        · have hki : (k : Int) < 32 := by omega
          have hcX := hM.2.2.2.1.cell k hlt
          have hfX := hM.2.2.2.1.frozen k
          have hcL := hM.2.2.1.cell (31 - k) (by omega)
          have HSv : Hid (∀ v : Int, v = revB a k → MvK w (wr.setCell ⟨X, k, none⟩ (.int .u32 v)) L X (bt a) (fun j => if j < k + 1 then revB a j else 0)) := fun v hv => (hM.set k hlt v).congr (upto_next (revB a) k v hv)
          have hb := bt_or a (31 - k)
          have HV : Hid (bt a (31 - k) = revB a k) := rfl
          have HLT := hide hlt
          have hT : ((31 : Int) - (k : Int)).toNat = 31 - k := by omega
          have h0 : (0 : Int) ≤ 31 - (k : Int) := by omega
          have h1 : (31 : Int) - (k : Int) < 32 := by omega
          clear hM hlt hk
          generalize bt a (31 - k) = y at *
          go_wp2
          exact ⟨⟨k + 1, HLT.out, by simp, HSv.out _ HV.out⟩, meas32 HLT.out⟩
        · have e32 : k = 32 := by omega
          have HX := hide (hM.2.2.2.1.congr (g := revB a) (fun j hj => by simp [show j < k by omega]))
          have hb := hM.2.2.2.2
          have hki : ¬ (k : Int) < 32 := by omega
          clear hM e32
          go_wp2_with (first | (refine wpList_load32A rfl _ rfl _ _ rfl HX.out ?_; intro AR2 hAR2))
          rw [hAR2] at hO
          refine (hO _).mono ?_
          rintro e w5 ⟨rfl, hb5⟩
          go_wp2
          go_ret2
          exact ⟨rfl, hb.trans (hb5.mono hb.size)⟩

theorem refUnary_any (op a : Int) (w : World) (a0 : 0 ≤ a) (a1 : a < 4294967296) : Calls Try.prog 6 #[.int .u16 op, .int .u32 a] w fun e w' => e = .returned (.tuple #[.int .u32 (unV op a), .bool (unB op)]) ∧ Below w.heap.size w w' := by
  by_cases c83 : op = 83
  · have h := refUn83 op a w a0 a1 c83
    subst c83; exact h
  by_cases c124 : op = 124
  · have h := refUn124 op a w a0 a1 c124
    subst c124; exact h
  by_cases c126 : op = 126
  · have h := refUn126 op a w a0 a1 c126
    subst c126; exact h
  by_cases c168 : op = 168
  · have h := refUn168 op a w a0 a1 c168
    subst c168; exact h
  by_cases c200 : op = 200
  · have h := refUn200 op a w a0 a1 c200
    subst c200; exact h
  by_cases c204 : op = 204
  · have h := refUn204 op a w a0 a1 c204
    subst c204; exact h
  by_cases c205 : op = 205
  · have h := refUn205 op a w a0 a1 c205
    subst c205; exact h
  have e1 : unV op a = 0 := by simp [unV, c83, c124, c126, c168, c200, c204, c205]
  have e2 : unB op = false := by simp [unB, c83, c124, c126, c168, c200, c204, c205]
  rw [e1, e2]
  exact refUnNone op a w a0 a1 c83 c124 c126 c168 c200 c204 c205

end Go.Proofs.Ytbhoimeneekdfaa
