/-
  What Read answers lies within its bounds.
-/
import Derived.Test.YtjpbiakbjpiceabFrame
namespace Go.Proofs.Ytjpbiakbjpiceab
open Go.RowKit

theorem nthR_map (l : List Nat) (f : Nat → Int × List Int) (j : Nat) (h : j < l.length) : nthR (l.map f) j = f (l.getD j 0) := by
  simp [nthR, List.getD, h]

theorem readL_small (zs : List Int) (h : readL zs ≠ []) : zs.length ≤ 1048576 := by
  by_cases h1 : 1048576 < zs.length
  · exfalso; apply h; unfold readL readE; rw [if_pos h1]; simp
  · omega

theorem readR_each (zs : List Int) (hw : Within 4294967296 zs) (j : Nat) (hj : j < (readR zs).length) : 0 ≤ (nthR (readR zs) j).1 ∧ (nthR (readR zs) j).1 < 65536 ∧ Within 4294967296 (nthR (readR zs) j).2 ∧ (nthR (readR zs) j).2.length ≤ zs.length := by
  have hj' : j < (rest zs 5).length := by simpa [readR] using hj
  unfold readR
  rw [nthR_map _ _ _ hj']
  obtain ⟨_, h2, h3⟩ := rest_mem zs 5 ((rest zs 5).getD j 0) (by simp [List.getD, hj'])
  refine ⟨opI_lo _ _, opI_hi _ _, fun z hz => hw z ?_, ?_⟩
  · exact List.mem_of_mem_drop (List.mem_of_mem_take hz)
  · show (midL _ _ _).length ≤ _
    unfold midL
    rw [List.length_take, List.length_drop]; omega

theorem readL_each (zs : List Int) (hw : Within 4294967296 zs) (j : Nat) (hj : j < (readL zs).length) : 0 ≤ (nthR (readL zs) j).1 ∧ (nthR (readL zs) j).1 < 65536 ∧ Within 4294967296 (nthR (readL zs) j).2 ∧ (nthR (readL zs) j).2.length ≤ zs.length := by
  unfold readL at hj ⊢
  by_cases h : (readE zs).1 = 0
  · rw [if_pos h] at hj ⊢; exact readR_each zs hw j hj
  · rw [if_neg h] at hj; simp at hj

theorem readL_ok (zs : List Int) (hw : Within 4294967296 zs) (hn : 4 * zs.length ≤ 140737488351232) : RawsOk (readL zs) := fun j hj => by
  obtain ⟨h1, h2, h3, h4⟩ := readL_each zs hw j hj
  exact ⟨h1, h2, h3, by omega⟩
theorem readL_sm (zs : List Int) (hw : Within 4294967296 zs) (j : Nat) (hj : j < (readL zs).length) : (nthR (readL zs) j).2.length ≤ 1048576 := by
  have h := readL_small zs (fun e => by rw [e] at hj; simp at hj)
  have := (readL_each zs hw j hj).2.2.2
  omega
theorem readL_len (zs : List Int) : (readL zs).length ≤ zs.length := by
  unfold readL
  split
  · have := rest_len zs 5; simp [readR]; omega
  · simp

end Go.Proofs.Ytjpbiakbjpiceab
