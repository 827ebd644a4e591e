/-
  The law GrammarLetters answers true, for every operation, number and letter.
-/
import Derived.WalkSpells
import Derived.Test.YtjpbiakbjpiceaaRef03Letter
import Derived.Test.YtjpbiakbjpiceaaRef03Kind
namespace Go.Proofs.Ytjpbiakbjpiceaa
open Go.RowKit
set_option linter.unusedVariables false

set_option maxHeartbeats 1000000 in
theorem grammarLetters_true (w : World) (n : Int) (hn : (Lit.int .u16 n).wf = true) (i : Int) (hi : (Lit.int .i64 i).wf = true) (c : Int) (hc : (Lit.int .u8 c).wf = true) :
    Calls Try.prog 5 #[.int .u16 n, .int .i64 i, .int .u8 c] w fun e w' => e = .returned (.bool true) ∧ Below w.heap.size w w' := by
  have hib := bounds_i64 hi
  have h1 := fun w => grammarLetter_any n i w (by omega)
  have h2 := fun w => refLetter_any n i w (by omega)
  have h3 := fun w => kind_any c w
  have h4 := fun w => refKind_any c w
  clear hib hn hi hc
  generalize letterI (lookF refT n).1 i = x at *
  generalize kindI c = y at *
  go_enter Try.func5, Try.ntmps5
  go_wp2_with fail
  refine (h1 _).mono ?_
  rintro e w1 ⟨rfl, b1⟩
  go_wp2_with fail
  refine (h2 _).mono ?_
  rintro e w2 ⟨rfl, b2⟩
  go_wp2_with fail
  refine (h3 _).mono ?_
  rintro e w3 ⟨rfl, rfl⟩
  go_wp2_with fail
  refine (h4 _).mono ?_
  rintro e w3 ⟨rfl, b3⟩
  have HB : Hid (Below w.heap.size w w3) := (b1.trans (b2.mono b1.size)).trans (b3.mono (by have := b1.size; have := b2.size; omega))
  clear b1 b2 b3
  go_wp2
  go_ret
  exact ⟨rfl, HB.out⟩

end Go.Proofs.Ytjpbiakbjpiceaa
