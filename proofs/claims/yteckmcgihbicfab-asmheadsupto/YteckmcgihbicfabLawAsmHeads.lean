/-
  The law AsmHeads, for lines whose tokens keep to the memory's reach: a walk of its body with the contracts of what it calls.
-/
import Derived.WalkSpells
import Derived.WalkMore
import Derived.Test.YteckmcgihbicfabProg
import Derived.Test.YteckmcgihbicfabAsmHeadF
import Derived.Test.YteckmcgihbicfabRef07Head
namespace Go.Proofs.Yteckmcgihbicfab
open Go.RowKit
set_option linter.unusedVariables false
set_option linter.unusedSimpArgs false
set_option maxRecDepth 10000

set_option maxHeartbeats 2000000 in
theorem asmHeads_law (w : World) (s : ByteArray) (_ : s.size ≤ 140737488351232) (hu : s.size ≤ 1048576) :
    Calls Try.prog 6 #[.string s] w fun e w' => e = .returned (.bool true) ∧ Below w.heap.size w w' := by
  have hR := fun wx => refHead7_any s wx (by omega)
  have hA := fun wx => asmHead_any s wx (by omega)
  generalize headS s = H at *
  obtain ⟨h1, h2, h3, h4⟩ := H
  simp only at hR hA
  go_enter Try.func6, Try.ntmps6
  go_wp2_with fail
  refine (hR _).mono ?_
  rintro e w1 ⟨rfl, hb1⟩
  have hba : Below w1.heap.size w1 ((w1.alloc (.cells #[.int .u32 h1, .int .u32 h2] 58)).alloc (.cells #[.int .i64 h3, .int .i64 h4] 28)) := ((Below.refl _ w1).alloc (Nat.le_refl _) _).alloc (by simp) _
  have kH : ((w1.alloc (.cells #[.int .u32 h1, .int .u32 h2] 58)).alloc (.cells #[.int .i64 h3, .int .i64 h4] 28)).heap[w1.heap.size]? = some (.cells #[.int .u32 h1, .int .u32 h2] 58 (0, 0)) := (Below.heap_alloc _ _ _ (by simp)).trans (heap_alloc_new w1 _)
  have kS : ((w1.alloc (.cells #[.int .u32 h1, .int .u32 h2] 58)).alloc (.cells #[.int .i64 h3, .int .i64 h4] 28)).heap[w1.heap.size + 1]? = some (.cells #[.int .i64 h3, .int .i64 h4] 28 (0, 0)) := by simpa using heap_alloc_new (w1.alloc (.cells #[.int .u32 h1, .int .u32 h2] 58)) (.cells #[.int .i64 h3, .int .i64 h4] 28)
  have HB := hide (hb1.trans (hba.mono hb1.size))
  have HKH := hide kH
  have HKS := hide kS
  clear hR hb1 hba kH kS
  go_wp2_with fail
  generalize (w1.alloc (.cells #[.int .u32 h1, .int .u32 h2] 58)).alloc (.cells #[.int .i64 h3, .int .i64 h4] 28) = W at *
  refine (hA _).mono ?_
  rintro e w2 ⟨rfl, hb2⟩
  have sS := (Array.getElem?_eq_some_iff.1 HKS.out).1
  have s2 := hb2.size
  obtain ⟨c, _⟩ := blk_cells ((hb2.block _ (by omega)).trans HKH.out)
  obtain ⟨d, _⟩ := blk_cells ((hb2.block _ sS).trans HKS.out)
  have c0 := c 0
  have c1 := c 1
  have d0 := d 0
  have d1 := d 1
  have l1 : w1.heap.size < w2.heap.size := by omega
  have l2 : w1.heap.size + 1 < w2.heap.size := by omega
  have hfin := HB.out.trans (hb2.mono HB.out.size)
  have HF := hide ((hfin.alloc hfin.size (.cells #[.int .u32 h1, .int .u32 h2] 58)).alloc (by have := hfin.size; simp; omega) (.cells #[.int .i64 h3, .int .i64 h4] 28))
  clear hA hb2 c d HB HKH HKS hfin
  go_wp2
  go_ret
  exact ⟨by simp, HF.out⟩

end Go.Proofs.Yteckmcgihbicfab
