/-
  The law ArithBinary answers true, for all operations and words.
-/
import Derived.WalkSpells
import Derived.WalkMore
import Derived.Test.YtaegchobdhbjmaaRef13Binary
import Derived.Test.YtaegchobdhbjmaaArithBinary
namespace Go.Proofs.Ytaegchobdhbjmaa
open Go.RowKit Go.Maps
set_option linter.unusedVariables false
set_option linter.unusedSimpArgs false
set_option maxRecDepth 10000

set_option maxHeartbeats 2000000 in
theorem arithBinary_true (w : World) (op : Int) (hop : (Lit.int .u16 op).wf = true) (a : Int) (ha : (Lit.int .u32 a).wf = true) (b : Int) (hb : (Lit.int .u32 b).wf = true) : Calls Try.prog 3 #[.int .u16 op, .int .u32 a, .int .u32 b] w fun e w' => e = .returned (.bool true) ∧ Below w.heap.size w w' := by
  have ho' : 0 ≤ op ∧ op < 65536 := by simp [Lit.wf, show IntKind.u16.min = 0 from rfl, show IntKind.u16.max = 65535 from rfl] at hop; omega
  have ha' : 0 ≤ a ∧ a < 4294967296 := by simp [Lit.wf, show IntKind.u32.min = 0 from rfl, show IntKind.u32.max = 4294967295 from rfl] at ha; omega
  have hb' : 0 ≤ b ∧ b < 4294967296 := by simp [Lit.wf, show IntKind.u32.min = 0 from rfl, show IntKind.u32.max = 4294967295 from rfl] at hb; omega
  have h1 := fun w => refBinary_any op a b w ho'.1 ho'.2 ha'.1 ha'.2 hb'.1 hb'.2
  have h2 := fun w => arithBinary_any op a b w ho'.1 ho'.2 ha'.1 ha'.2 hb'.1 hb'.2
  generalize binV op a b = V at *
  generalize binB op = B at *
  clear hop ha hb
  go_enter Try.func3, Try.ntmps3
  go_wp2_with fail
  refine (h1 _).mono ?_
  rintro e w1 ⟨rfl, hb1⟩
  go_wp2_with fail
  refine (h2 _).mono ?_
  rintro e w2 ⟨rfl, hb2⟩
  go_wp2
  go_ret
  exact ⟨by simp, hb1.trans (hb2.mono hb1.size)⟩

end Go.Proofs.Ytaegchobdhbjmaa
