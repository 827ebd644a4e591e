/-
  What apart of frame returns: the instruction with words in new memory.
-/
import Derived.WalkSpells
import Derived.BigRegion
import Derived.Deep.QuietTactic
import Derived.BigQuiet
import Derived.Test.YtjpbiakbjpiceabSlicesClone
import Derived.Test.YtjpbiakbjpiceabFrameSmall
namespace Go.Proofs.Ytjpbiakbjpiceab
open Go.RowKit

set_option maxHeartbeats 1000000 in
theorem apart_any (op : Int) (x : Addr) (n cap : Nat) (ms : List Int) (w : World) (hv : View .u32 w (some x) ms) (hl : ms.length = n) (hn : 4 * n ≤ 140737488351232) :
    Calls Try.prog 34 #[.agg #[.int .u16 op, .slice (some x) n cap]] w fun e w' => ∃ g cx, e = .returned (.agg #[.int .u16 op, .slice (some ⟨g, 0, none⟩) n cx]) ∧
      w'.ownsRow (w.heap.size + 2) 24 1 (.slice (some ⟨g, 0, none⟩) n cx) n (ms.map (Value.int .u32)) ∧ Below w.heap.size w w' := by
  have hB : Below w.heap.size w ((w.alloc (.cells #[.int .u16 op, .slice (some x) n cap] 68)).alloc (.cells #[.int .u16 0, .slice none 0 0] 68)) := ((Below.refl _ w).alloc (Nat.le_refl _) _).alloc (by simp) _
  have hC := fun wx (hb : Below ((w.alloc (.cells #[.int .u16 op, .slice (some x) n cap] 68)).alloc (.cells #[.int .u16 0, .slice none 0 0] 68)).heap.size ((w.alloc (.cells #[.int .u16 op, .slice (some x) n cap] 68)).alloc (.cells #[.int .u16 0, .slice none 0 0] 68)) wx) => clone_some x n cap ms wx ((hv.below hB).below hb) hl hn
  have hr0 : ((w.alloc (.cells #[.int .u16 op, .slice (some x) n cap] 68)).alloc (.cells #[.int .u16 0, .slice none 0 0] 68)).heap[w.heap.size]? = some (.cells #[.int .u16 op, .slice (some x) n cap] 68 (0, 0)) := by
    rw [Below.heap_alloc _ _ _ (by simp)]; exact heap_alloc_new w _
  have hr1 : ((w.alloc (.cells #[.int .u16 op, .slice (some x) n cap] 68)).alloc (.cells #[.int .u16 0, .slice none 0 0] 68)).heap[w.heap.size + 1]? = some (.cells #[.int .u16 0, .slice none 0 0] 68 (0, 0)) := by
    have := heap_alloc_new (w.alloc (.cells #[.int .u16 op, .slice (some x) n cap] 68)) (.cells #[.int .u16 0, .slice none 0 0] 68)
    simpa using this
  clear hv hl
  go_enter Try.func34, Try.ntmps34
  go_wp2
  go_region_with (go_at_call 40; refine (hC _ (by first | exact Below.refl _ _ | exact (Below.refl _ _).drew)).mono ?_; rintro e w' ⟨g, cx, rfl, hown, hbC⟩; obtain ⟨c0, c1, _⟩ := cell_of_two ((hbC.block _ (by simp; omega)).trans hr0); obtain ⟨d0, d1, f1⟩ := cell_of_two ((hbC.block _ (by simp)).trans hr1); have f0 : w'.frozen? ⟨w.heap.size + 1, 0, none⟩ = false := (by simp [World.frozen?, (hbC.block _ (by simp)).trans hr1]))
  all_goals
    have hres := (hbC.block _ (by simp)).trans hr1
    have hfin : ((w'.setCell ⟨w.heap.size + 1, 0, none⟩ (.int .u16 op)).setCell ⟨w.heap.size + 1, 1, none⟩ (.slice (some ⟨g, 0, none⟩) n cx)).heap[w.heap.size + 1]? = some (.cells #[.int .u16 op, .slice (some ⟨g, 0, none⟩) n cx] 68 (0, 0)) := by
      simp only [World.setCell, Array.getElem?_modify, hres]; simp
    obtain ⟨z0, z1, _⟩ := cell_of_two hfin
    have HZ0 : Hid (_ = _) := z0
    have HZ1 : Hid (_ = _) := z1
    have hown1 : w'.ownsRow (w.heap.size + 2) 24 1 (.slice (some ⟨g, 0, none⟩) n cx) n (ms.map (Value.int .u32)) := own_base hown (by simp)
    have hown2 := ownsRow_setCell_below (ownsRow_setCell_below hown1 (a := ⟨w.heap.size + 1, 0, none⟩) (by simp) (.int .u16 op)) (a := ⟨w.heap.size + 1, 1, none⟩) (by simp) (.slice (some ⟨g, 0, none⟩) n cx)
    have hbw : Below w.heap.size w ((w'.setCell ⟨w.heap.size + 1, 0, none⟩ (.int .u16 op)).setCell ⟨w.heap.size + 1, 1, none⟩ (.slice (some ⟨g, 0, none⟩) n cx)) := ((hB.trans ((by first | exact hbC | exact ((Below.refl _ _).drew).trans hbC : Below _ _ w').mono (by simp; omega))).setCell (p := ⟨w.heap.size + 1, 0, none⟩) (by simp) _).setCell (p := ⟨w.heap.size + 1, 1, none⟩) (by simp) _
    clear z0 z1 hfin hres hown hown1 hbC c0 c1
    go_wp2
    exact bodyPost_ret (v := .agg #[.int .u16 op, .slice (some ⟨g, 0, none⟩) n cx]) (by simp [results, Try.results34, go_sem, HZ0.out, HZ1.out]) rfl ⟨g, cx, rfl, by first | exact hown2 | exact own_below hown2 (bel_drewN (Below.refl _ _) 1), by first | exact hbw | exact hbw.drew⟩

end Go.Proofs.Ytjpbiakbjpiceab
