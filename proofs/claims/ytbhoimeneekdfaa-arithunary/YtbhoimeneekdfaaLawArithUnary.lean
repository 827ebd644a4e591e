/-
  The law ArithUnary answers true, for all operations and words.
-/
import Derived.WalkSpells
import Derived.WalkMore
import Derived.Test.YtbhoimeneekdfaaRef13Arity
namespace Go.Proofs.Ytbhoimeneekdfaa
open Go.RowKit Go.Maps
set_option linter.unusedVariables false
set_option linter.unusedSimpArgs false
set_option maxRecDepth 10000

set_option maxHeartbeats 2000000 in
theorem arithUnary_true (w : World) (op : Int) (hop : (Lit.int .u16 op).wf = true) (a : Int) (ha : (Lit.int .u32 a).wf = true) : Calls Try.prog 3 #[.int .u16 op, .int .u32 a] w fun e w' => e = .returned (.bool true) ∧ Below w.heap.size w w' := by
  have ho' : 0 ≤ op ∧ op < 65536 := by simp [Lit.wf, show IntKind.u16.min = 0 from rfl, show IntKind.u16.max = 65535 from rfl] at hop; omega
  have ha' : 0 ≤ a ∧ a < 4294967296 := by simp [Lit.wf, show IntKind.u32.min = 0 from rfl, show IntKind.u32.max = 4294967295 from rfl] at ha; omega
  have h1 := fun w => refUnary_any op a w ha'.1 ha'.2
  have h2 := fun w => arithUnary_any op a w ho'.1 ho'.2 ha'.1 ha'.2
  have h3 := fun w => arity_any op w
  have h4 := fun w => refArity_any op w ho'.1 ho'.2
  generalize unV op a = V at *
  generalize unB op = B at *
  generalize arV op = N at *
  clear hop ha
  go_enter Try.func3, Try.ntmps3
  go_wp2_with fail
  refine (h1 _).mono ?_
  rintro e w1 ⟨rfl, hb1⟩
  go_wp2_with fail
  refine (h2 _).mono ?_
  rintro e w2 ⟨rfl, hb2⟩
  go_wp2_with fail
  refine (h3 _).mono ?_
  rintro e w3 ⟨rfl, hb3⟩
  go_wp2_with fail
  refine (h4 _).mono ?_
  rintro e w4 ⟨rfl, hb4⟩
  go_wp2
  go_ret
  have hb12 := hb1.trans (hb2.mono hb1.size)
  have hb123 := hb12.trans (hb3.mono hb12.size)
  exact ⟨by simp, hb123.trans (hb4.mono hb123.size)⟩

end Go.Proofs.Ytbhoimeneekdfaa
