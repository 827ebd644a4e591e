/-
  The law WordsTexts returns true at every list of words, and nothing that was there has turned.
-/
import Derived.WalkSpells
import Derived.Test.YtmmpejhmmgkfkaaKitCopyWords
import Derived.Test.YtmmpejhmmgkfkaaWordsTextSame
namespace Go.Proofs.Ytmmpejhmmgkfkaa
open Go.RowKit

set_option maxHeartbeats 1000000 in
theorem texts_law (w : World) (a : Option Addr) (n cap : Nat) (zs : List Int) (hl : zs.length = n) (hv : View .u32 w a zs) (hw : Within 4294967296 zs) (hn : 4 * n ≤ 140737488351232) :
    Calls Try.prog 7 #[.slice a n cap] w fun e w' => e = .returned (.bool true) ∧ Below w.heap.size w w' := by
  have HL : Hid (zs.length = n) := hl
  obtain ⟨s, k, er, _, _, _, _, hr, ht⟩ := texts_same n zs hl hw hn
  clear hl hw
  go_enter Try.func7, Try.ntmps7
  go_wp2_with fail
  refine (hr a cap w hv).mono ?_
  rintro e w1 ⟨rfl, hb1⟩
  have s1 := hb1.size
  go_wp2_with fail
  refine (copyWords_any a n cap zs w1 (hv.below hb1) HL.out hn).mono ?_
  rintro e w2 ⟨rfl, hown2, hb2⟩
  have s2 := hb2.size
  go_wp2_with fail
  refine (ht _ n w2 (Nat.le_refl _) (View.ofRow hown2 HL.out)).mono ?_
  rintro e w3 ⟨rfl, hb3⟩
  go_wp2
  go_ret
  exact ⟨rfl, (hb1.trans (hb2.mono s1)).trans (hb3.mono (by omega))⟩

end Go.Proofs.Ytmmpejhmmgkfkaa
