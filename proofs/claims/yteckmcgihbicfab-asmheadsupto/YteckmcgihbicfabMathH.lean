/-
  What the tokens of a head's line say, as plain functions.
-/
import Derived.Test.YteckmcgihbicfabMathY
namespace Go.Proofs.Yteckmcgihbicfab
open Go.RowKit
set_option linter.unusedVariables false
set_option linter.unusedSimpArgs false

def moduleS : ByteArray := ⟨#[109, 111, 100, 117, 108, 101]⟩

/-- What is wrong with a token that must be a number. -/
def numP (t : TokT) : Int := if t.1 ≠ 3 then 70 else numErr (strI t.2.1)

/-- What the tokens of a head's line say: generator, bound, what is wrong, where. -/
def headP (l : List TokT) (len : Int) : Int × Int × Int × Int :=
  if l.length < 1 then (0, 0, 72, len)
  else if ¬ ((nthT l 0).1 = 1 ∧ (nthT l 0).2.1 = moduleS) then (0, 0, 70, (nthT l 0).2.2)
  else if l.length < 2 then (0, 0, 72, len)
  else if numP (nthT l 1) ≠ 0 then (0, 0, numP (nthT l 1), (nthT l 1).2.2)
  else if l.length < 3 then (0, 0, 72, len)
  else if numP (nthT l 2) ≠ 0 then (0, 0, numP (nthT l 2), (nthT l 2).2.2)
  else if numV (strI (nthT l 2).2.1) < 1 ∨ 65536 < numV (strI (nthT l 2).2.1) then (0, 0, 24, (nthT l 2).2.2)
  else if 3 < l.length then (0, 0, 70, (nthT l 3).2.2)
  else (numV (strI (nthT l 1).2.1), numV (strI (nthT l 2).2.1), 0, 0)

/-- What a head's line says. -/
def headS (s : ByteArray) : Int × Int × Int × Int :=
  if (toksP (strI s) 0).2.1 ≠ 0 then (0, 0, (toksP (strI s) 0).2.1, (toksP (strI s) 0).2.2) else headP (toksP (strI s) 0).1 s.size

theorem numV_ok {l : List Int} (h : numB l = true) : numErr l = 0 ∧ numOut l = numV l ∧ 0 ≤ numV l ∧ numV l < 4294967296 := by
  have := num_bounds h
  refine ⟨?_, ?_, this.1, this.2⟩
  · unfold numErr; rw [h]; rfl
  · unfold numOut; rw [h]; rfl
theorem numErr_zero {l : List Int} (h : numErr l = 0) : numB l = true := by
  unfold numErr at h; split at h
  · assumption
  · omega

/-- The first token is wrong. -/
theorem headP_first {l : List TokT} {len : Int} (h : 0 < l.length) : ¬ ((nthT l 0).1 = 1 ∧ (nthT l 0).2.1 = moduleS) → headP l len = (0, 0, 70, (nthT l 0).2.2) := fun h1 => by
  unfold headP; rw [if_neg (by omega), if_pos h1]
theorem headP_early {l : List TokT} {len : Int} (h : l.length < 3) (h0 : 1 ≤ l.length → (nthT l 0).1 = 1 ∧ (nthT l 0).2.1 = moduleS) (h1 : 2 ≤ l.length → numP (nthT l 1) = 0) : headP l len = (0, 0, 72, len) := by
  unfold headP
  by_cases a : l.length < 1
  · rw [if_pos a]
  · rw [if_neg a, if_neg (by have := h0 (by omega); simp [this])]
    by_cases b : l.length < 2
    · rw [if_pos b]
    · rw [if_neg b, if_neg (by have := h1 (by omega); omega), if_pos h]
theorem headP_one {l : List TokT} {len : Int} (h : 1 < l.length) (h0 : (nthT l 0).1 = 1 ∧ (nthT l 0).2.1 = moduleS) : numP (nthT l 1) ≠ 0 → headP l len = (0, 0, numP (nthT l 1), (nthT l 1).2.2) := fun h1 => by
  unfold headP; rw [if_neg (by omega), if_neg (by simp [h0]), if_neg (by omega), if_pos h1]
theorem headP_two {l : List TokT} {len : Int} (h : 2 < l.length) (h0 : (nthT l 0).1 = 1 ∧ (nthT l 0).2.1 = moduleS) (h1 : numP (nthT l 1) = 0) :
    (numP (nthT l 2) ≠ 0 → headP l len = (0, 0, numP (nthT l 2), (nthT l 2).2.2)) ∧ (numP (nthT l 2) = 0 → (numV (strI (nthT l 2).2.1) < 1 ∨ 65536 < numV (strI (nthT l 2).2.1)) → headP l len = (0, 0, 24, (nthT l 2).2.2)) := by
  unfold headP
  rw [if_neg (by omega), if_neg (by simp [h0]), if_neg (by omega), if_neg (by omega), if_neg (by omega)]
  exact ⟨fun h2 => by rw [if_pos h2], fun h2 h3 => by rw [if_neg (by omega), if_pos h3]⟩
theorem headP_three {l : List TokT} {len : Int} (h : 2 < l.length) (h0 : (nthT l 0).1 = 1 ∧ (nthT l 0).2.1 = moduleS) (h1 : numP (nthT l 1) = 0) (h2 : numP (nthT l 2) = 0) (h3 : ¬ (numV (strI (nthT l 2).2.1) < 1 ∨ 65536 < numV (strI (nthT l 2).2.1))) :
    headP l len = if 3 < l.length then (0, 0, 70, (nthT l 3).2.2) else (numV (strI (nthT l 1).2.1), numV (strI (nthT l 2).2.1), 0, 0) := by
  unfold headP
  rw [if_neg (by omega), if_neg (by simp [h0]), if_neg (by omega), if_neg (by omega), if_neg (by omega), if_neg (by omega), if_neg h3]
theorem numP_kind {t : TokT} (h : t.1 ≠ 3) : numP t = 70 := by unfold numP; rw [if_pos h]
theorem numP_num {t : TokT} (h : t.1 = 3) : numP t = numErr (strI t.2.1) := by unfold numP; rw [if_neg (by simp [h])]

end Go.Proofs.Yteckmcgihbicfab
