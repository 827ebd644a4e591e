/-
  What All of the document's answer returns: a list of its own with all forms, rising by their operations.
-/
import Derived.WalkSpells
import Derived.WalkMore
import Derived.Laws.AppendOwn
import Derived.Deep.AppendLies
import Derived.Test.YtjpbiakbjpiceabRef03Of
import Derived.Test.YtjpbiakbjpiceabGrammarFormTexts
import Derived.Test.YtjpbiakbjpiceabRef03Letter
namespace Go.Proofs.Ytjpbiakbjpiceab
open Go.RowKit
set_option maxRecDepth 10000
set_option linter.unusedVariables false
set_option linter.unusedSimpArgs false

/-- The cells of an operation's form. -/
def opCells (k : Nat) : List Value := (frmCells k (lookF refT k).1).toList

theorem ops_len (k : Nat) : (opsTo k).length ≤ k := by
  induction k with
  | zero => exact Nat.le_refl _
  | succ k ih =>
    rw [opsTo]
    split
    · omega
    · rw [List.length_append, List.length_singleton]; omega

theorem is_text (k : Nat) : (lookF refT k).2 = true ↔ ¬ (ftxt k).size = 0 := by
  obtain ⟨_, _, _, h4, h5⟩ := ftxt_ok k
  constructor
  · exact h4
  · intro h
    cases e : (lookF refT k).2
    · rw [h5 e] at h; exact absurd rfl h
    · rfl

theorem formInfo : ∃ i0, Try.prog.info? 33 = some i0 ∧ i0.zero = some (formV 0 noFrm) ∧ i0.size = 8 ∧ i0.bytes = 80 ∧ (formV 0 noFrm).cells.size = 8 := ⟨_, rfl, rfl, rfl, rfl, rfl⟩

end Go.Proofs.Ytjpbiakbjpiceab
