/-
  The law GrammarEnums answers true, for every letter, number and name.
-/
import Derived.WalkSpells
import Derived.Test.YtjpbiakbjpiceaaRef03Kind
import Derived.Test.YtjpbiakbjpiceaaGrammarEnum
namespace Go.Proofs.Ytjpbiakbjpiceaa
open Go.RowKit
set_option linter.unusedVariables false

set_option maxRecDepth 10000 in
set_option maxHeartbeats 1000000 in
theorem grammarEnums_true (w : World) (c : Int) (hc : (Lit.int .u8 c).wf = true) (n : Int) (hn : (Lit.int .u32 n).wf = true) (s : ByteArray) (hs : s.size ≤ 140737488351232) :
    Calls Try.prog 7 #[.int .u8 c, .int .u32 n, .string s] w fun e w' => e = .returned (.bool true) ∧ Below w.heap.size w w' := by
  have h1 := fun w => refEnum_any c n w
  have h2 := fun w => enum_any c n w
  have h3 := fun w => refEnumNamed_any c s w
  have h4 := fun w => enumNamed_any c s w
  clear hc hn hs
  generalize enumS c n = x1 at *
  generalize enumB c n = x2 at *
  generalize enumN c s = x3 at *
  generalize enumNB c s = x4 at *
  go_enter Try.func7, Try.ntmps7
  go_wp2_with fail
  refine (h1 _).mono ?_
  rintro e w1 ⟨rfl, b1⟩
  go_wp2_with fail
  refine (h2 _).mono ?_
  rintro e w2 ⟨rfl, b2⟩
  go_wp2_with fail
  refine (h3 _).mono ?_
  rintro e w3 ⟨rfl, b3⟩
  go_wp2_with fail
  refine (h4 _).mono ?_
  rintro e w4 ⟨rfl, b4⟩
  have s1 := b1.size
  have s2 := b2.size
  have s3 := b3.size
  have HB : Hid (Below w.heap.size w w4) := ((b1.trans (b2.mono s1)).trans (b3.mono (by omega))).trans (b4.mono (by omega))
  clear b1 b2 b3 b4 s1 s2 s3
  go_wp2
  go_ret
  exact ⟨rfl, HB.out⟩

end Go.Proofs.Ytjpbiakbjpiceaa
