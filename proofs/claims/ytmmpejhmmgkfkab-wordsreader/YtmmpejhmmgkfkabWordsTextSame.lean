/-
  Text of the words package and of the document's answer are the same, whatever the words.
-/
import Derived.Test.YtmmpejhmmgkfkabMath3
import Derived.Test.YtmmpejhmmgkfkabWordsText
import Derived.Test.YtmmpejhmmgkfkabRef01Text
namespace Go.Proofs.Ytmmpejhmmgkfkab
open Go.RowKit

/-- The two answers are the same, whatever the words: a text, how many words, an error; nothing that was there has turned. -/
theorem texts_same (n : Nat) (zs : List Int) (hl : zs.length = n) (hw : Within 4294967296 zs) (hn : 4 * n ≤ 140737488351232) :
    ∃ (s : ByteArray) (k er : Int), s.size ≤ 4 * n ∧ 0 ≤ k ∧ k ≤ n ∧ (er ≠ 0 → s = ⟨#[]⟩ ∧ k = 0) ∧ (∀ a ca w, View .u32 w a zs → Calls Try.prog 15 #[.slice a n ca] w fun e w' => e = .returned (.tuple #[.string s, .int .i64 k, .int .i64 er]) ∧ Below w.heap.size w w') ∧
      ∀ b cb w2, n ≤ cb → View .u32 w2 b zs → Calls Try.prog 7 #[.slice b n cb] w2 fun e w' => e = .returned (.tuple #[.string s, .int .i64 k, .int .i64 er]) ∧ Below w2.heap.size w2 w' := by
  obtain ⟨N, hN, h1, h2⟩ := first_zero (joinL zs) (4 * n)
  have hlen : (joinL zs).length = 4 * n := by rw [joinL_len, hl]
  by_cases hlt : N < 4 * n
  · obtain ⟨L, P, hP, rfl⟩ : ∃ L P, P < 4 ∧ N = 4 * L + P := ⟨N / 4, N % 4, by omega, by omega⟩
    have h0 := h2 hlt
    have hL : L < n := by omega
    have hx := hw.at (k := L) (by omega)
    have hrest := rest_zero (nth zs L) P hP hx.1 hx.2
    have hbyte : ∀ q, q < 4 → nth (joinL zs) (4 * L + q) = byt (nth zs L) q := fun q hq => by
      rw [joinL_getD _ _ (by rw [hl]; omega), show (4 * L + q) / 4 = L by omega, show (4 * L + q) % 4 = q by omega]
    by_cases hpad : nth zs L / 256 ^ P = 0
    · refine ⟨strOfNums ((joinL zs).take (4 * L + P)), (L : Int) + 1, 0, ?_, by omega, by omega, by simp, fun a ca w ha => ?_, fun b cb w2 hcb hv2 => ?_⟩
      · rw [strOfNums_size, List.length_take]; omega
      · exact refText_ok a n ca zs w L P ha hl hw hn hL hP h1 h0 (fun i hi1 hi2 => by
          obtain ⟨q, rfl⟩ : ∃ q, i = 4 * L + q := ⟨i - 4 * L, by omega⟩
          rw [hbyte q (by omega)]
          exact hrest.1 hpad q (by omega) (by omega))
      · exact text_ok b n cb zs w2 L P hv2 hl hw (by omega) (by omega) hcb hL hP h1 h0 hpad
    · refine ⟨⟨#[]⟩, 0, 12, by simp [ByteArray.size], by omega, by omega, fun _ => ⟨rfl, rfl⟩, fun a ca w ha => ?_, fun b cb w2 _ hv2 => ?_⟩
      · have : ∃ q, P < q ∧ q < 4 ∧ byt (nth zs L) q ≠ 0 := by
          apply Classical.byContradiction
          intro hno
          apply hpad
          apply hrest.2
          intro q hq1 hq2
          by_cases e : q = P
          · subst e; rw [← hbyte q hq2]; exact h0
          · apply Classical.byContradiction
            intro hne
            exact hno ⟨q, by omega, hq2, hne⟩
        obtain ⟨q, hq1, hq2, hq3⟩ := this
        exact (refText_pad a n ca zs w L P (4 * L + q) ha hl hw hn hL hP h1 h0 (by omega) (by omega) (by rw [hbyte q hq2]; exact hq3)).mono fun e w' he => ⟨he.1, he.2 ▸ Below.refl _ _⟩
      · exact (text_pad b n cb zs w2 L P hv2 hl hw (by omega) hL hP h1 h0 hpad).mono fun e w' he => ⟨he.1, he.2 ▸ Below.refl _ _⟩
  · refine ⟨⟨#[]⟩, 0, 11, by simp [ByteArray.size], by omega, by omega, fun _ => ⟨rfl, rfl⟩, fun a ca w ha => ?_, fun b cb w2 _ hv2 => ?_⟩
    · exact (refText_none a n ca zs w ha hl hw hn (fun i hi => h1 i (by omega))).mono fun e w' he => ⟨he.1, he.2 ▸ Below.refl _ _⟩
    · exact (text_none b n cb zs w2 hv2 hl hw (by omega) (fun i hi => h1 i (by omega))).mono fun e w' he => ⟨he.1, he.2 ▸ Below.refl _ _⟩

end Go.Proofs.Ytmmpejhmmgkfkab
