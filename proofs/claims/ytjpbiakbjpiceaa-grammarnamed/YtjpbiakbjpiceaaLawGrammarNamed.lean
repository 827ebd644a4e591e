/-
  The law GrammarNamed answers true, for every name.
-/
import Derived.WalkSpells
import Derived.Test.YtjpbiakbjpiceaaGrammarNamed
namespace Go.Proofs.Ytjpbiakbjpiceaa
open Go.RowKit
set_option linter.unusedVariables false

theorem namedV_form (s : ByteArray) : ∃ m f, namedV s = formV m f := by
  unfold namedV
  split
  · exact ⟨_, _, rfl⟩
  · exact ⟨_, _, rfl⟩

set_option maxHeartbeats 1000000 in
theorem grammarNamed_true (w : World) (s : ByteArray) (hs : s.size ≤ 140737488351232) :
    Calls Try.prog 4 #[.string s] w fun e w' => e = .returned (.bool true) ∧ Below w.heap.size w w' := by
  have hR := fun w => refNamed_any s w
  have hO := fun w => named_any s w hs
  obtain ⟨m, f, hf⟩ := namedV_form s
  rw [hf] at hR hO
  clear hf hs
  generalize namedB s = b at *
  obtain ⟨nm, t, r, fx, rs, mo, pa⟩ := f
  unfold formV at hR hO
  go_enter Try.func4, Try.ntmps4
  go_wp2_with fail
  refine (hR _).mono ?_
  rintro e w1 ⟨rfl, hb1⟩
  clear hR
  go_wp2_with fail
  refine (hO _).mono ?_
  rintro e w2 ⟨rfl, hb2⟩
  clear hO
  have hB := (hb2.block w1.heap.size (by simp)).trans (alloc_new w1 _ _)
  obtain ⟨d0, d1, d2, d3, d4, d5, d6, d7, df⟩ := frm_cells (n := m) (f := (nm, t, r, fx, rs, mo, pa)) hB
  have hl : w1.heap.size < w2.heap.size := by have := hb2.size; simp at this; omega
  have HB : Hid (Below w.heap.size w w2) := hb1.trans (((Below.refl _ w1).alloc (Nat.le_refl _) _).trans (hb2.mono (by simp)) |>.mono hb1.size)
  have hsz := HB.out.size
  clear hB hb1 hb2 df
  go_wp2
  go_ret
  exact ⟨rfl, HB.out.alloc hsz _⟩

end Go.Proofs.Ytjpbiakbjpiceaa
