/-
  Plain arithmetic for the layer of words: bytes to words and back is the bytes, words to bytes and back is the words.
-/
import Derived.Test.YteckmcgihbicfabMath
namespace Go.Proofs.Yteckmcgihbicfab
open Go.RowKit

theorem nth_ext {xs ys : List Int} (hl : xs.length = ys.length) (h : ∀ k, k < xs.length → nth xs k = nth ys k) : xs = ys := by
  apply List.ext_getElem hl
  intro k h1 h2
  have := h k h1
  simpa [nth, List.getD, h1, h2] using this

theorem byt_four (a b c d : Int) (a0 : 0 ≤ a) (a1 : a < 256) (b0 : 0 ≤ b) (b1 : b < 256) (c0 : 0 ≤ c) (c1 : c < 256) (d0 : 0 ≤ d) (d1 : d < 256) :
    byt (a + b * 256 + c * 65536 + d * 16777216) 0 = a ∧ byt (a + b * 256 + c * 65536 + d * 16777216) 1 = b ∧ byt (a + b * 256 + c * 65536 + d * 16777216) 2 = c ∧ byt (a + b * 256 + c * 65536 + d * 16777216) 3 = d := by
  rw [byt0, byt1, byt2, byt3]
  refine ⟨?_, ?_, ?_, ?_⟩ <;> omega

/-- Bytes to words and back. -/
theorem join_split (zs : List Int) (h : zs.length % 4 = 0) (hw : Within 256 zs) : joinL (splitL zs) = zs := by
  apply nth_ext
  · rw [joinL_len, splitL_len]; omega
  intro k hk
  rw [joinL_len, splitL_len] at hk
  rw [joinL_getD _ _ (by rw [splitL_len]; exact hk), nth_splitL _ _ (by omega)]
  have x0 := hw.at (k := 4 * (k / 4)) (by omega)
  have x1 := hw.at (k := 4 * (k / 4) + 1) (by omega)
  have x2 := hw.at (k := 4 * (k / 4) + 2) (by omega)
  have x3 := hw.at (k := 4 * (k / 4) + 3) (by omega)
  have hb := byt_four _ _ _ _ x0.1 x0.2 x1.1 x1.2 x2.1 x2.2 x3.1 x3.2
  unfold wordAt
  rcases (show k % 4 = 0 ∨ k % 4 = 1 ∨ k % 4 = 2 ∨ k % 4 = 3 by omega) with e | e | e | e
  · rw [e, hb.1, show 4 * (k / 4) = k by omega]
  · rw [e, hb.2.1, show 4 * (k / 4) + 1 = k by omega]
  · rw [e, hb.2.2.1, show 4 * (k / 4) + 2 = k by omega]
  · rw [e, hb.2.2.2, show 4 * (k / 4) + 3 = k by omega]

/-- Words to bytes and back. -/
theorem split_join (ys : List Int) (hw : Within 4294967296 ys) : splitL (joinL ys) = ys := by
  have hl : (splitL (joinL ys)).length = ys.length := by rw [splitL_len, joinL_len]; omega
  apply nth_ext hl
  intro k hk
  rw [hl] at hk
  rw [nth_splitL _ _ (by rw [joinL_len]; omega)]
  unfold wordAt
  rw [joinL_getD _ _ (by omega), joinL_getD _ _ (by omega), joinL_getD _ _ (by omega), joinL_getD _ _ (by omega)]
  rw [show 4 * k / 4 = k by omega, show (4 * k + 1) / 4 = k by omega, show (4 * k + 2) / 4 = k by omega, show (4 * k + 3) / 4 = k by omega,
    show 4 * k % 4 = 0 by omega, show (4 * k + 1) % 4 = 1 by omega, show (4 * k + 2) % 4 = 2 by omega, show (4 * k + 3) % 4 = 3 by omega]
  have := hw.at hk
  exact of_byt _ this.1 this.2

theorem joinL_within (zs : List Int) : Within 256 (joinL zs) := by
  intro z hz
  simp only [joinL, List.mem_flatMap] at hz
  obtain ⟨x, _, hz⟩ := hz
  simp only [four, List.mem_cons, List.not_mem_nil, or_false] at hz
  rcases hz with rfl | rfl | rfl | rfl <;> exact ⟨byt_lo _ _, byt_hi _ _⟩

theorem splitL_within (zs : List Int) (hw : Within 256 zs) : Within 4294967296 (splitL zs) := by
  intro z hz
  simp only [splitL, List.mem_map, List.mem_range] at hz
  obtain ⟨k, hk, rfl⟩ := hz
  exact wordAt_bounds zs k hw (by omega)

end Go.Proofs.Yteckmcgihbicfab
