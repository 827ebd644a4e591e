/-
  What Size of the document's answer returns: how many words there are, or the error.
-/
import Derived.WalkSpells
import Derived.Deep.QuietTactic
import Derived.BigQuiet
import Derived.Test.YtjpbiakbjpiceabRaws
import Derived.Test.YtjpbiakbjpiceabRef02Fault
namespace Go.Proofs.Ytjpbiakbjpiceab
open Go.RowKit

/-- How many words there are; 0 beside an error. -/
def sizeOut (rs : List (Int × List Int)) : Int := if (fault rs 0).1 = 0 then (sizeTo rs rs.length : Int) else 0

/-- Without a fault all is small. -/
theorem fault_none (rs : List (Int × List Int)) (h : (fault rs 0).1 = 0) : ∀ k, k ≤ rs.length → sizeTo rs k ≤ 1048576 ∧ ∀ j, j < k → (nthR rs j).2.length < 65535 := by
  have key : ∀ k, k ≤ rs.length → fault rs 0 = fault rs k ∧ sizeTo rs k ≤ 1048576 ∧ ∀ j, j < k → (nthR rs j).2.length < 65535 := by
    intro k
    induction k with
    | zero => intro _; exact ⟨rfl, by rw [sizeTo_zero]; omega, fun j hj => by omega⟩
    | succ k ih =>
      intro hk
      obtain ⟨h1, h2, h3⟩ := ih (by omega)
      have hs := fault_step rs k (by omega)
      by_cases c1 : 65535 ≤ (nthR rs k).2.length
      · rw [if_pos c1] at hs; rw [h1, hs] at h; simp at h
      · rw [if_neg c1] at hs
        by_cases c2 : 1048576 < sizeTo rs (k + 1)
        · rw [if_pos c2] at hs; rw [h1, hs] at h; simp at h
        · rw [if_neg c2] at hs
          refine ⟨h1.trans hs, by omega, fun j hj => ?_⟩
          by_cases e : j = k
          · subst e; omega
          · exact h3 j (by omega)
  exact fun k hk => (key k hk).2

end Go.Proofs.Ytjpbiakbjpiceab
