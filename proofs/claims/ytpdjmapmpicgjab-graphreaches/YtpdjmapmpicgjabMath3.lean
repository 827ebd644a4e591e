/-
  Plain arithmetic for the layer of words: a text at the front of words: where its end lies, and what stands behind it in its word.
-/
import Derived.Test.YtpdjmapmpicgjabMath
import Derived.Laws.BytesArg
namespace Go.Proofs.Ytpdjmapmpicgjab
open Go.RowKit

theorem nth_take (zs : List Int) (k n : Nat) (h : k < n) : nth (zs.take n) k = nth zs k := by
  simp [nth, List.getD, h]

theorem View.take {k : IntKind} {w : World} {a : Option Addr} {zs : List Int} (h : View k w a zs) (n : Nat) : View k w a (zs.take n) := by
  intro j hj
  rw [List.length_take] at hj
  obtain ⟨b, off, e, hb, hc⟩ := h j (by omega)
  exact ⟨b, off, e, hb, by rw [hc, nth_take _ _ _ (by omega)]⟩

end Go.Proofs.Ytpdjmapmpicgjab
