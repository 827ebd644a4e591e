/-
  What New of the words package returns: a reader in a new block, its words in another one; nothing that was there has turned.
-/
import Derived.WalkSpells
import Derived.Test.YtmmpejhmmgkfkabRdr
import Derived.Test.YtmmpejhmmgkfkabSlicesClone
namespace Go.Proofs.Ytmmpejhmmgkfkab
open Go.RowKit

set_option maxHeartbeats 400000 in
theorem new_some (x : Addr) (n cap : Nat) (zs : List Int) (w : World) (hv : View .u32 w (some x) zs) (hl : zs.length = n) (hn : 4 * n ≤ 140737488351232) :
    Calls Try.prog 10 #[.slice (some x) n cap] w fun e w' => ∃ g cx gr, e = .returned (.pointer (some ⟨gr, 0, none⟩)) ∧ w.heap.size ≤ g ∧ g < gr ∧ n ≤ cx ∧
      w'.heap[gr]? = some (.cells #[.slice (some ⟨g, 0, none⟩) n cx, .int .i64 0] 54 (0, 0)) ∧ View .u32 w' (some ⟨g, 0, none⟩) zs ∧ Below w.heap.size w w' := by
  have HL : Hid (zs.length = n) := hl
  go_enter Try.func10, Try.ntmps10
  go_wp2_with fail
  refine (clone_some x n cap zs w hv hl hn).mono ?_
  rintro e w1 ⟨g, cx, rfl, hown, hb⟩
  clear hv hl
  have hg : w.heap.size ≤ g ∧ g < w1.heap.size ∧ n ≤ cx := by
    rcases hown.2 with ⟨h1, _⟩ | ⟨g', cx', cur, h1, h2, h3, h4, _⟩
    · cases h1
    · cases h1; exact ⟨h2, (Array.getElem?_eq_some_iff.1 h3).1, h4⟩
  obtain ⟨hg1, hg2, hg3⟩ := hg
  have hvw := View.ofRow hown HL.out
  clear hown
  go_wp2
  go_ret
  refine ⟨g, cx, w1.heap.size, rfl, hg1, hg2, hg3, ?_, ?_, ?_⟩
  · exact heap_alloc_new w1 _
  · exact hvw.below ((Below.refl _ w1).alloc (Nat.le_refl _) _)
  · exact hb.alloc hb.size _

end Go.Proofs.Ytmmpejhmmgkfkab
