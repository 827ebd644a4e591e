/-
  What the document's Binary answers, operation by operation.
-/
import Derived.WalkSpells
import Derived.WalkMore
import Derived.Test.YtbhoimeneekdfaaRef13BinA
import Derived.Test.YtbhoimeneekdfaaRef13BinB
import Derived.Test.YtbhoimeneekdfaaRef13BinC
import Derived.Test.YtbhoimeneekdfaaRef13BinD
namespace Go.Proofs.Ytbhoimeneekdfaa
open Go.RowKit
set_option linter.unusedVariables false
set_option linter.unusedSimpArgs false
set_option maxRecDepth 10000

set_option maxHeartbeats 4000000 in
theorem refBinary_any (op a b : Int) (w : World) (h0 : 0 ≤ op) (h1 : op < 65536) (a0 : 0 ≤ a) (a1 : a < 4294967296) (b0 : 0 ≤ b) (b1 : b < 4294967296) : Calls Try.prog 21 #[.int .u16 op, .int .u32 a, .int .u32 b] w fun e w' => e = .returned (.tuple #[.int .u32 (binV op a b), .bool (binB op)]) ∧ Below w.heap.size w w' := by
  by_cases c128 : op = 128
  · subst c128; exact refBin128 a b w a0 a1 b0 b1
  by_cases c130 : op = 130
  · subst c130; exact refBin130 a b w a0 a1 b0 b1
  by_cases c132 : op = 132
  · subst c132; exact refBin132 a b w a0 a1 b0 b1
  by_cases c134 : op = 134
  · subst c134; exact refBin134 a b w a0 a1 b0 b1
  by_cases c137 : op = 137
  · subst c137; exact refBin137 a b w a0 a1 b0 b1
  by_cases c135 : op = 135
  · subst c135; exact refBin135 a b w a0 a1 b0 b1
  by_cases c138 : op = 138
  · subst c138; exact refBin138 a b w a0 a1 b0 b1
  by_cases c139 : op = 139
  · subst c139; exact refBin139 a b w a0 a1 b0 b1
  by_cases c194 : op = 194
  · subst c194; exact refBin194 a b w a0 a1 b0 b1
  by_cases c195 : op = 195
  · subst c195; exact refBin195 a b w a0 a1 b0 b1
  by_cases c196 : op = 196
  · subst c196; exact refBin196 a b w a0 a1 b0 b1
  by_cases c197 : op = 197
  · subst c197; exact refBin197 a b w a0 a1 b0 b1
  by_cases c198 : op = 198
  · subst c198; exact refBin198 a b w a0 a1 b0 b1
  by_cases c199 : op = 199
  · subst c199; exact refBin199 a b w a0 a1 b0 b1
  by_cases c164 : op = 164
  · subst c164; exact refBin164 a b w a0 a1 b0 b1
  by_cases c165 : op = 165
  · subst c165; exact refBin165 a b w a0 a1 b0 b1
  by_cases c166 : op = 166
  · subst c166; exact refBin166 a b w a0 a1 b0 b1
  by_cases c167 : op = 167
  · subst c167; exact refBin167 a b w a0 a1 b0 b1
  by_cases c170 : op = 170
  · subst c170; exact refBin170 a b w a0 a1 b0 b1
  by_cases c171 : op = 171
  · subst c171; exact refBin171 a b w a0 a1 b0 b1
  by_cases c172 : op = 172
  · subst c172; exact refBin172 a b w a0 a1 b0 b1
  by_cases c174 : op = 174
  · subst c174; exact refBin174 a b w a0 a1 b0 b1
  by_cases c176 : op = 176
  · subst c176; exact refBin176 a b w a0 a1 b0 b1
  by_cases c178 : op = 178
  · subst c178; exact refBin178 a b w a0 a1 b0 b1
  by_cases c173 : op = 173
  · subst c173; exact refBin173 a b w a0 a1 b0 b1
  by_cases c175 : op = 175
  · subst c175; exact refBin175 a b w a0 a1 b0 b1
  by_cases c177 : op = 177
  · subst c177; exact refBin177 a b w a0 a1 b0 b1
  by_cases c179 : op = 179
  · subst c179; exact refBin179 a b w a0 a1 b0 b1
  have hn : binB op = false ∧ binV op = (fun _ _ => 0) := by
    rcases TwoQ.none (op := op) (w' := w) (by simp only [binOps, List.mem_cons, List.not_mem_nil, or_false, forall_eq_or_imp, forall_eq]; exact ⟨c128, c130, c132, c134, c137, c135, c138, c139, c194, c195, c196, c197, c198, c199, c164, c165, c166, c167, c170, c171, c172, c174, c176, c178, c173, c175, c177, c179⟩) with ⟨q1, q2, _⟩ | ⟨n, q, _⟩ | ⟨p, n, q, _⟩
    · exact ⟨q1, q2⟩
    · cases q
    · cases q
  rw [hn.1, hn.2]
  have h1 := fun w => refSigned_any a w a0 a1
  have h2 := fun w => refSigned_any b w b0 b1
  go_enter Try.func21, Try.ntmps21
  go_wp2_with fail
  refine (h1 _).mono ?_
  rintro e w' ⟨rfl, rfl⟩
  go_wp2_with fail
  refine (h2 _).mono ?_
  rintro e w' ⟨rfl, rfl⟩
  go_wp2
  go_ret2
  exact ⟨rfl, Below.refl _ _⟩

end Go.Proofs.Ytbhoimeneekdfaa
