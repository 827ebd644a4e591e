/-
  Plain facts: a text's words, with whatever words behind them, are read as the text.
-/
import Derived.Test.YtmmpejhmmgkfkabMath2
import Derived.Test.YtmmpejhmmgkfkabMath3
import Derived.Test.YtmmpejhmmgkfkabMathS
namespace Go.Proofs.Ytmmpejhmmgkfkab
open Go.RowKit

theorem joinL_append (xs ys : List Int) : joinL (xs ++ ys) = joinL xs ++ joinL ys := by simp [joinL]
theorem joinL_textW (s : ByteArray) : joinL (textW s) = padI s := join_split (padI s) (by rw [padI_len]; omega) (padI_within s)
theorem joinL_text_lo (s : ByteArray) (ys : List Int) (i : Nat) (h : i < 4 * (s.size / 4 + 1)) : nth (joinL (textW s ++ ys)) i = nth (padI s) i := by
  rw [joinL_append, joinL_textW, getD_left _ _ _ (by rw [padI_len]; exact h)]
theorem text_take (s : ByteArray) (ys : List Int) : (joinL (textW s ++ ys)).take s.size = strI s := by
  rw [joinL_append, joinL_textW, List.take_append_of_le_length (by rw [padI_len]; omega), padI, filled]
  have e : (strI s).take s.size = strI s := List.take_of_length_le (by rw [strI_len]; omega)
  rw [e, List.take_append_of_le_length (by rw [strI_len]; omega), e]
theorem textW_within (s : ByteArray) : Within 4294967296 (textW s) := splitL_within (padI s) (padI_within s)
theorem within_append {m : Int} {xs ys : List Int} (hx : Within m xs) (hy : Within m ys) : Within m (xs ++ ys) := by
  intro z hz
  rcases List.mem_append.1 hz with h | h
  · exact hx z h
  · exact hy z h
/-- Behind the text's end its word holds nothing. -/
theorem text_rest (s : ByteArray) (ys : List Int) : nth (textW s ++ ys) (s.size / 4) / 256 ^ (s.size % 4) = 0 := by
  have hL : s.size / 4 < (textW s).length := by rw [textW_len]; omega
  have hw := (textW_within s).at hL
  rw [getD_left _ _ _ hL]
  rw [rest_zero _ _ (by omega) hw.1 hw.2]
  intro q hq1 hq2
  have := joinL_getD (textW s) (4 * (s.size / 4) + q) (by rw [textW_len]; omega)
  rw [joinL_textW, show (4 * (s.size / 4) + q) / 4 = s.size / 4 by omega, show (4 * (s.size / 4) + q) % 4 = q by omega] at this
  rw [← this, padI_hi s _ (by omega)]

/-- Is there a byte 0 among the first k? -/
def nulB (s : ByteArray) (k : Nat) : Bool := (List.range k).any fun i => nth (strI s) i == 0
theorem nulB_succ (s : ByteArray) (k : Nat) (h : k < s.size) : nulB s (k + 1) = (nulB s k || ((s[k].toNat : Int) == 0)) := by
  rw [← nth_strI s k h]
  simp [nulB, List.range_succ]
theorem nulB_none (s : ByteArray) (h : NoNul s) : nulB s s.size = false := by
  rw [nulB, List.any_eq_false]
  intro k hk
  have := h k (List.mem_range.1 hk)
  simpa using this
theorem nulB_some (s : ByteArray) (k : Nat) (hk : k < s.size) (h : nth (strI s) k = 0) : nulB s s.size = true := by
  rw [nulB, List.any_eq_true]
  exact ⟨k, List.mem_range.2 hk, by simpa using h⟩

end Go.Proofs.Ytmmpejhmmgkfkab
