/-
  Words that were written, cut within the head, or with another first word: on lists.
-/
import Derived.Test.YtckpijgnkkjfkabMathRW
namespace Go.Proofs.Ytckpijgnkkjfkab
open Go.RowKit

theorem headE_cut (gen bound : Int) (ys : List Int) (hb1 : ¬ bound = 0) (hb2 : ¬ 65536 < bound) (to : Nat) (h : to < 5) : headE (([119734787, 65536, gen, bound, 0] ++ ys).take to) 0 = (14, to) := by
  have e : (([119734787, 65536, gen, bound, 0] ++ ys).take to) = [119734787, 65536, gen, bound, 0].take to := List.take_append_of_le_length (by simp; omega)
  rw [e]
  rcases (show to = 0 ∨ to = 1 ∨ to = 2 ∨ to = 3 ∨ to = 4 by omega) with rfl | rfl | rfl | rfl | rfl
  · rw [headE_step _ 0 (by omega), if_pos (by simp)]
  · rw [headE_step _ 0 (by omega), if_neg (by simp), if_neg (by simp [nth, wrongE]), headE_step _ 1 (by omega), if_pos (by simp)]
  · rw [headE_step _ 0 (by omega), if_neg (by simp), if_neg (by simp [nth, wrongE]), headE_step _ 1 (by omega), if_neg (by simp), if_neg (by simp [nth, wrongE]), headE_step _ 2 (by omega), if_pos (by simp)]
  · rw [headE_step _ 0 (by omega), if_neg (by simp), if_neg (by simp [nth, wrongE]), headE_step _ 1 (by omega), if_neg (by simp), if_neg (by simp [nth, wrongE]), headE_step _ 2 (by omega), if_neg (by simp), if_neg (by simp [wrongE]), headE_step _ 3 (by omega), if_pos (by simp)]
  · rw [headE_step _ 0 (by omega), if_neg (by simp), if_neg (by simp [nth, wrongE]), headE_step _ 1 (by omega), if_neg (by simp), if_neg (by simp [nth, wrongE]), headE_step _ 2 (by omega), if_neg (by simp), if_neg (by simp [wrongE]), headE_step _ 3 (by omega), if_neg (by simp), if_neg (by simp [nth, wrongE, hb1, hb2]), headE_step _ 4 (by omega), if_pos (by simp)]

theorem readE_cut (gen bound : Int) (ys : List Int) (hb1 : ¬ bound = 0) (hb2 : ¬ 65536 < bound) (to : Nat) (h : to < 5) : readE (([119734787, 65536, gen, bound, 0] ++ ys).take to) = (14, to) := by
  have hh := headE_cut gen bound ys hb1 hb2 to h
  unfold readE
  rw [if_neg (by rw [List.length_take]; omega), hh, if_pos (by simp)]

/-- The error of Read behind another first word. -/
def firstE (first : Int) : Int := if first = 119734787 then 0 else if first = 50471687 then 21 else 20
theorem readE_first (gen bound first : Int) (ys : List Int) (hl : ys.length ≤ 1048571) (hz : readE ([119734787, 65536, gen, bound, 0] ++ ys) = (0, 0)) : readE (([119734787, 65536, gen, bound, 0] ++ ys).set 0 first) = (firstE first, 0) := by
  unfold firstE
  by_cases h1 : first = 119734787
  · subst h1
    rw [if_pos rfl]
    exact hz
  · rw [if_neg h1]
    have hh : headE (([119734787, 65536, gen, bound, 0] ++ ys).set 0 first) 0 = (wrongE 0 first, 0) := by
      have hw : wrongE 0 first ≠ 0 := by unfold wrongE; rw [if_pos rfl]; split <;> simp_all
      rw [headE_step _ 0 (by omega), if_neg (by simp), if_pos (by simpa [nth] using hw)]
      simp [nth]
    have hw2 : wrongE 0 first = if first = 50471687 then 21 else 20 := by
      unfold wrongE
      rw [if_pos rfl]
      by_cases h2 : first = 50471687
      · rw [if_pos h2, if_pos h2]
      · rw [if_neg h2, if_neg h2, if_neg h1]
    unfold readE
    rw [if_neg (by simp; omega), hh, hw2, if_pos (by split <;> simp)]

end Go.Proofs.Ytckpijgnkkjfkab
