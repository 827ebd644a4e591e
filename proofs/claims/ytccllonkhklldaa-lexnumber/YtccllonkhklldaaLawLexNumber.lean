/-
  The law LexNumber holds: a walk of its body with the contracts of what it calls.
-/
import Derived.WalkSpells
import Derived.WalkMore
import Derived.Test.YtccllonkhklldaaProg
import Derived.Test.YtccllonkhklldaaLexNumber
import Derived.Test.YtccllonkhklldaaRef06Number
import Derived.Test.YtccllonkhklldaaLaw06Awake
namespace Go.Proofs.Ytccllonkhklldaa
open Go.RowKit
set_option maxRecDepth 10000
set_option linter.unusedVariables false

theorem lexNumber_law (w : World) (s : ByteArray) (hs : s.size ≤ 140737488351232) :
    Calls Try.prog 3 #[.string s] w fun e w' => e = .returned (.bool true) ∧ Below w.heap.size w w' := by
  have h1 := fun wx => refNumber_any s wx hs
  have h2 := fun wx => lexNumber_any s wx hs
  have hA := awake6_true w
  generalize numOut (strI s) = x at *
  generalize numErr (strI s) = er at *
  go_enter Try.func3, Try.ntmps3
  go_wp2_with (first | (go_at_call 9; refine (h1 _).mono ?_; rintro e w' ⟨rfl, rfl⟩) | (go_at_call 10; refine (h2 _).mono ?_; rintro e w' ⟨rfl, rfl⟩) | (go_at_call 11; refine hA.mono ?_; rintro e w2 ⟨rfl, hb⟩))
  go_ret
  exact ⟨rfl, hb⟩

end Go.Proofs.Ytccllonkhklldaa
