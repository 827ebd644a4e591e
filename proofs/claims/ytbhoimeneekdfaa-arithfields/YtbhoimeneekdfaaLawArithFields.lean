/-
  The law ArithFields answers true, for all operations and words.
-/
import Derived.WalkSpells
import Derived.WalkMore
import Derived.Test.YtbhoimeneekdfaaRef13Field
import Derived.Test.YtbhoimeneekdfaaArithMore
import Derived.Test.YtbhoimeneekdfaaKitCopyWords
namespace Go.Proofs.Ytbhoimeneekdfaa
open Go.RowKit Go.Maps
set_option linter.unusedVariables false
set_option linter.unusedSimpArgs false
set_option maxRecDepth 10000

set_option maxHeartbeats 2000000 in
theorem arithFields_true (w : World) (op : Int) (hop : (Lit.int .u16 op).wf = true) (a : Option Addr) (len cap : Nat) (zs : List Int) (hl : zs.length = len) (hv : View .u32 w a zs) (hw : Within 4294967296 zs) (hr : 4 * len ≤ 140737488351232) : Calls Try.prog 4 #[.int .u16 op, .slice a len cap] w fun e w' => e = .returned (.bool true) ∧ Below w.heap.size w w' := by
  have ho' : 0 ≤ op ∧ op < 65536 := by simp [Lit.wf, show IntKind.u16.min = 0 from rfl, show IntKind.u16.max = 65535 from rfl] at hop; omega
  have h1 := refField_any op a len cap zs w ho'.1 ho'.2 hv hw hl
  have h2 := fun w a' hv' => arithField_any op a' len len zs w ho'.1 ho'.2 hv' hw hl
  have h3 := fun w hv' => copyWords_any a len cap zs w hv' hl hr
  generalize fiV op zs = V at *
  generalize fiB op zs = B at *
  clear hop hr
  go_enter Try.func4, Try.ntmps4
  go_wp2_with fail
  refine h1.mono ?_
  rintro e w1 ⟨rfl, hb1⟩
  go_wp2_with fail
  refine (h3 _ (hv.below hb1)).mono ?_
  rintro e w2 ⟨rfl, hown, hb2⟩
  have hv2 := View.ofRow hown hl
  go_wp2_with fail
  refine (h2 _ _ hv2).mono ?_
  rintro e w3 ⟨rfl, hb3⟩
  go_wp2
  go_ret
  have hb12 := hb1.trans (hb2.mono hb1.size)
  exact ⟨by simp, hb12.trans (hb3.mono hb12.size)⟩

end Go.Proofs.Ytbhoimeneekdfaa
