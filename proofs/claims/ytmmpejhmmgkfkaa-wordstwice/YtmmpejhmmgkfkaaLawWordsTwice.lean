/-
  The law WordsTwice returns true at every word, and nothing that was there has turned.
-/
import Derived.WalkSpells
import Derived.Deep.QuietTactic
import Derived.BigQuiet
import Derived.Test.YtmmpejhmmgkfkaaProg
import Derived.Test.YtmmpejhmmgkfkaaMath
import Derived.Test.YtmmpejhmmgkfkaaWordsTurned
import Derived.Test.YtmmpejhmmgkfkaaWordsJoin
namespace Go.Proofs.Ytmmpejhmmgkfkaa
open Go.RowKit

set_option maxHeartbeats 400000 in
theorem twice_walk (x : Int) (hx : 0 ≤ x) (hx2 : x < 4294967296) (w : World) :
    Calls Try.prog 6 #[.int .u32 x] w fun e w' => e = .returned (.bool true) ∧ Below w.heap.size w w' := by
  have hmk : ∀ w, (Instr.makeSlice 23 (.int .i64 1) (.int .i64 1)).run Try.prog w = .ok (.slice (some ⟨w.heap.size, 0, none⟩) 1 1) (w.alloc (.cells #[.int .u32 0] 33)) := fun _ => by kernel_rfl
  have t0 := turnI_lo x
  have t1 := turnI_hi x
  have hT2 : ∀ w, Calls Try.prog 17 #[.int .u32 (turnI x)] w fun e w' => e = .returned (.int .u32 x) ∧ w' = w := fun w => by
    have := turned_any (turnI x) w t0 t1
    rw [turnI_turnI x hx hx2] at this
    exact this.mono fun e w' h => ⟨h.1, h.2.symm⟩
  have hv0 : View .u32 ((w.alloc (.cells #[.int .u32 x] 33)).alloc (.cells #[.int .u32 (turnI x)] 33)) (some ⟨w.heap.size, 0, none⟩) [x] := row_one (by simp)
  have hv1 : View .u32 ((w.alloc (.cells #[.int .u32 x] 33)).alloc (.cells #[.int .u32 (turnI x)] 33)) (some ⟨w.heap.size + 1, 0, none⟩) [turnI x] := row_one (by simp)
  have hB : Below w.heap.size w ((w.alloc (.cells #[.int .u32 x] 33)).alloc (.cells #[.int .u32 (turnI x)] 33)) := ((Below.refl _ _).alloc (Nat.le_refl _) _).alloc (by simp) _
  go_enter Try.func6, Try.ntmps6
  go_wp2_with (go_at_call 17; refine (turned_any _ _ hx hx2).mono ?_; rintro e w' ⟨rfl, rfl⟩)
  refine (join_any (some ⟨w.heap.size, 0, none⟩) 1 1 [x] _ hv0 rfl (by omega) (within_one hx hx2)).mono ?_
  rintro e w1 ⟨rfl, hown1, hb1⟩
  have hv2 := View.below hv1 hb1
  have hbW := hB.trans (hb1.mono (by simp; omega))
  clear hv1 hv0 hB
  go_wp2_with fail
  refine (join_any (some ⟨w.heap.size + 1, 0, none⟩) 1 1 [turnI x] _ hv2 rfl (by omega) (within_one t0 t1)).mono ?_
  rintro e w2 ⟨rfl, hown2, hb2⟩
  have hbW2 := hbW.trans (hb2.mono hbW.size)
  have hown1' := own_below hown1 hb2
  have c0 := hown1'.cellAt 0 (by omega)
  have c1 := hown1'.cellAt 1 (by omega)
  have c2 := hown1'.cellAt 2 (by omega)
  have c3 := hown1'.cellAt 3 (by omega)
  have d0 := hown2.cellAt 0 (by omega)
  have d1 := hown2.cellAt 1 (by omega)
  have d2 := hown2.cellAt 2 (by omega)
  have d3 := hown2.cellAt 3 (by omega)
  simp [joinL, four] at c0 c1 c2 c3
  simp [joinL, four, turnI_byt0, turnI_byt1, turnI_byt2, turnI_byt3] at d0 d1 d2 d3
  clear hown1 hown2 hown1' hb1 hv2 hb2 hbW
  go_wp2_with fail
  go_quiet ((go_at_call 17; exact Calls.quiet_of_same (hT2 _)))
  go_wp2
  go_ret
  exact ⟨rfl, bel_drewN hbW2 _⟩

theorem twice_law (w : World) (x : Int) (hx : (Lit.int .u32 x).wf = true) :
    Calls Try.prog 6 #[.int .u32 x] w fun e w' => e = .returned (.bool true) ∧ Below w.heap.size w w' := by
  have := bounds_u32 hx
  exact twice_walk x (by omega) (by omega) w

end Go.Proofs.Ytmmpejhmmgkfkaa
