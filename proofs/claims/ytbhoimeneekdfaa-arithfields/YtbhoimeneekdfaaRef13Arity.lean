/-
  What the document's Arity answers, for all operations.
-/
import Derived.WalkSpells
import Derived.WalkMore
import Derived.Test.YtbhoimeneekdfaaArithArity
import Derived.Test.YtbhoimeneekdfaaRef13Unary
import Derived.Test.YtbhoimeneekdfaaRef13Binary
import Derived.Test.YtbhoimeneekdfaaRef13Pair
namespace Go.Proofs.Ytbhoimeneekdfaa
open Go.RowKit
set_option linter.unusedVariables false
set_option linter.unusedSimpArgs false
set_option maxRecDepth 10000

set_option maxHeartbeats 2000000 in
theorem refArity_at (op u v x y : Int) (B1 B2 B3 : Bool) (V : Int) (w : World)
    (h1 : ∀ w, Calls Try.prog 6 #[.int .u16 op, .int .u32 0] w fun e w' => e = .returned (.tuple #[.int .u32 u, .bool B1]) ∧ Below w.heap.size w w')
    (h2 : ∀ w, Calls Try.prog 21 #[.int .u16 op, .int .u32 0, .int .u32 0] w fun e w' => e = .returned (.tuple #[.int .u32 v, .bool B2]) ∧ Below w.heap.size w w')
    (h3 : ∀ w, Calls Try.prog 22 #[.int .u16 op, .int .u32 0, .int .u32 0] w fun e w' => e = .returned (.tuple #[.int .u32 x, .int .u32 y, .bool B3]) ∧ w = w')
    (hV : V = if B1 = true ∨ op = 154 ∨ op = 155 then 1 else if B2 = true ∨ B3 = true then 2 else if op = 169 ∨ op = 202 ∨ op = 203 then 3 else if op = 201 then 4 else 0) :
    Calls Try.prog 9 #[.int .u16 op] w fun e w' => e = .returned (.int .i64 V) ∧ Below w.heap.size w w' := by
  have HV := hide hV
  clear hV
  go_enter Try.func9, Try.ntmps9
  go_wp2_with fail
  refine (h1 _).mono ?_
  rintro e w1 ⟨rfl, hb1⟩
  go_wp2_with fail
  refine (h2 _).mono ?_
  rintro e w2 ⟨rfl, hb2⟩
  go_wp2_with fail
  refine (h3 _).mono ?_
  rintro e w3 ⟨rfl, rfl⟩
  have hb := hb1.trans (hb2.mono hb1.size)
  clear h1 h2 h3 hb1 hb2
  cases B1
  · cases B2
    · cases B3
      · by_cases c1 : op = 154
        · subst c1
          go_wp2
          go_ret
          exact ⟨by rw [HV.out]; rfl, hb⟩
        by_cases c2 : op = 155
        · subst c2
          go_wp2
          go_ret
          exact ⟨by rw [HV.out]; rfl, hb⟩
        by_cases c3 : op = 169
        · subst c3
          go_wp2
          go_ret
          exact ⟨by rw [HV.out]; rfl, hb⟩
        by_cases c4 : op = 202
        · subst c4
          go_wp2
          go_ret
          exact ⟨by rw [HV.out]; rfl, hb⟩
        by_cases c5 : op = 203
        · subst c5
          go_wp2
          go_ret
          exact ⟨by rw [HV.out]; rfl, hb⟩
        by_cases c6 : op = 201
        · subst c6
          go_wp2
          go_ret
          exact ⟨by rw [HV.out]; rfl, hb⟩
        · have hz : V = 0 := by rw [HV.out]; simp [c1, c2, c3, c4, c5, c6]
          have d1 : (op == 154) = false := by simp [c1]
          have d2 : (op == 155) = false := by simp [c2]
          have d3 : (op == 169) = false := by simp [c3]
          have d4 : (op == 202) = false := by simp [c4]
          have d5 : (op == 203) = false := by simp [c5]
          have d6 : (op == 201) = false := by simp [c6]
          go_wp2
          go_ret
          exact ⟨by rw [hz]; rfl, hb⟩
      · by_cases c1 : op = 154
        · subst c1
          go_wp2
          go_ret
          exact ⟨by rw [HV.out]; rfl, hb⟩
        by_cases c2 : op = 155
        · subst c2
          go_wp2
          go_ret
          exact ⟨by rw [HV.out]; rfl, hb⟩
        have hz : V = 2 := by rw [HV.out]; simp [c1, c2]
        have d1 : (op == 154) = false := by simp [c1]
        have d2 : (op == 155) = false := by simp [c2]
        go_wp2
        go_ret
        exact ⟨by rw [hz]; rfl, hb⟩
    · by_cases c1 : op = 154
      · subst c1
        go_wp2
        go_ret
        exact ⟨by rw [HV.out]; rfl, hb⟩
      by_cases c2 : op = 155
      · subst c2
        go_wp2
        go_ret
        exact ⟨by rw [HV.out]; rfl, hb⟩
      have hz : V = 2 := by rw [HV.out]; simp [c1, c2]
      have d1 : (op == 154) = false := by simp [c1]
      have d2 : (op == 155) = false := by simp [c2]
      go_wp2
      go_ret
      exact ⟨by rw [hz]; rfl, hb⟩
  · have hz : V = 1 := by rw [HV.out]; simp
    go_wp2
    go_ret
    exact ⟨by rw [hz]; rfl, hb⟩

theorem refArity_any (op : Int) (w : World) (h0 : 0 ≤ op) (h1 : op < 65536) : Calls Try.prog 9 #[.int .u16 op] w fun e w' => e = .returned (.int .i64 (arV op)) ∧ Below w.heap.size w w' :=
  refArity_at op _ _ _ _ _ _ _ _ w (fun w => refUnary_any op 0 w (by omega) (by omega)) (fun w => refBinary_any op 0 0 w h0 h1 (by omega) (by omega) (by omega) (by omega)) (fun w => refPair_any op 0 0 w (by omega) (by omega) (by omega) (by omega)) rfl

end Go.Proofs.Ytbhoimeneekdfaa
