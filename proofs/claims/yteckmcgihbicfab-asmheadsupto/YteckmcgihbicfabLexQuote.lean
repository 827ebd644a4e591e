/-
  What Quote of the layer lex returns, for every text whose quoted form keeps to Go's own limit of a length; nothing that was there turns.
-/
import Derived.WalkSpells
import Derived.WalkMore
import Derived.Test.YteckmcgihbicfabProg
import Derived.Test.YteckmcgihbicfabMathX
import Derived.Test.YteckmcgihbicfabLexKinds
import Derived.Test.YteckmcgihbicfabLexBuilder
namespace Go.Proofs.Yteckmcgihbicfab
open Go.RowKit
set_option maxRecDepth 10000
set_option linter.unusedVariables false
set_option linter.unusedSimpArgs false

theorem esc_quote {c : Int} (h : c = 34 ∨ c = 92) : escL c = [92, c] := by unfold escL; rw [if_pos h]
theorem esc_print {c : Int} (h : ¬ (c = 34 ∨ c = 92)) (h1 : printB c = true) : escL c = [c] := by unfold escL; rw [if_neg h, if_pos h1]
theorem esc_hex {c : Int} (h : ¬ (c = 34 ∨ c = 92)) (h1 : printB c = false) : escL c = [92, 120, hexD (c / 16), hexD (c % 16)] := by unfold escL; rw [if_neg h, if_neg (by simp [h1])]
theorem and15 {c : Int} (h0 : 0 ≤ c) (h1 : c < 256) : bits .and .u8 c 15 = c % 16 := by
  obtain ⟨n, rfl⟩ := Int.eq_ofNat_of_zero_le h0
  have hn : n < 256 := by omega
  have key : ∀ n : Fin 256, bits .and .u8 ((n.val : Nat) : Int) 15 = ((n.val : Nat) : Int) % 16 := by decide +kernel
  exact key ⟨n, hn⟩

end Go.Proofs.Yteckmcgihbicfab
