/-
  The law ArithPairs answers true, for all operations and words.
-/
import Derived.WalkSpells
import Derived.WalkMore
import Derived.Test.YtaegchobdhbjmaaRef13Pair
import Derived.Test.YtaegchobdhbjmaaArithPair
namespace Go.Proofs.Ytaegchobdhbjmaa
open Go.RowKit Go.Maps
set_option linter.unusedVariables false
set_option linter.unusedSimpArgs false
set_option maxRecDepth 10000

set_option maxHeartbeats 2000000 in
theorem arithPairs_true (w : World) (op : Int) (hop : (Lit.int .u16 op).wf = true) (a : Int) (ha : (Lit.int .u32 a).wf = true) (b : Int) (hb : (Lit.int .u32 b).wf = true) : Calls Try.prog 4 #[.int .u16 op, .int .u32 a, .int .u32 b] w fun e w' => e = .returned (.bool true) ∧ Below w.heap.size w w' := by
  have ho' : 0 ≤ op ∧ op < 65536 := by simp [Lit.wf, show IntKind.u16.min = 0 from rfl, show IntKind.u16.max = 65535 from rfl] at hop; omega
  have ha' : 0 ≤ a ∧ a < 4294967296 := by simp [Lit.wf, show IntKind.u32.min = 0 from rfl, show IntKind.u32.max = 4294967295 from rfl] at ha; omega
  have hb' : 0 ≤ b ∧ b < 4294967296 := by simp [Lit.wf, show IntKind.u32.min = 0 from rfl, show IntKind.u32.max = 4294967295 from rfl] at hb; omega
  have h1 := fun w => refPair_any op a b w ha'.1 ha'.2 hb'.1 hb'.2
  have h2 := fun w => arithPair_any op a b w ho'.1 ho'.2 ha'.1 ha'.2 hb'.1 hb'.2
  generalize prX op a b = X at *
  generalize prY op a b = Y at *
  generalize prB op = B at *
  clear hop ha hb
  go_enter Try.func4, Try.ntmps4
  go_wp2_with fail
  refine (h1 _).mono ?_
  rintro e w1 ⟨rfl, rfl⟩
  go_wp2_with fail
  refine (h2 _).mono ?_
  rintro e w2 ⟨rfl, hb2⟩
  go_wp2
  go_ret
  exact ⟨by simp, hb2⟩

end Go.Proofs.Ytaegchobdhbjmaa
