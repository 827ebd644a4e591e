/-
  Texts laid together in one: LayoutCheck.
-/
import Derived.WalkSpells
import Derived.WalkMore
import Derived.BigRegion
import Derived.Deep.RegionWith
import Derived.Deep.MidRow
import Derived.Test.YtcckepjpehjijaaProg
import Derived.Test.YtcckepjpehjijaaB16
/-
  Check, Parts and Cut of the package layout.
-/
namespace Go.Proofs.Ytcckepjpehjijaa
open Go.RowKit
set_option linter.unusedVariables false
set_option linter.unusedSimpArgs false
set_option maxRecDepth 10000

/-- What a walk over a module leaves, as Check, Parts and Cut keep it: the walk in one box, the spot in another. -/
theorem kept_walk (w W0 w1 : World) (hb0 : Below w.heap.size w W0) (hb1 : Below W0.heap.size W0 w1) (ins fv : Value) (ps : Nat → Int) (k pt kd e1 e2 : Int) :
    let W2 := (w1.alloc (.cells #[.slice none 0 0, .int .i64 0, .int .i64 0, .int .i64 0, .int .i64 0, .int .i64 0, .int .i64 0, .int .i64 0, .int .i64 0, .int .i64 0, .int .i64 0, .int .i64 0, .int .i64 0, .int .i64 0, .int .i64 0, .int .i64 0, .int .i64 0, .int .i64 0, .int .i64 0, .int .i64 0, .int .i64 0, .slice none 0 0, .int .i64 0, .int .u8 0, .int .u16 0] 63)).alloc (.cells #[.int .i64 0, .int .i64 0] 29)
    let X := W2.setCells w1.heap.size 0 [ins, .int .i64 (ps 0), .int .i64 (ps 1), .int .i64 (ps 2), .int .i64 (ps 3), .int .i64 (ps 4), .int .i64 (ps 5), .int .i64 (ps 6), .int .i64 (ps 7), .int .i64 (ps 8), .int .i64 (ps 9), .int .i64 (ps 10), .int .i64 (ps 11), .int .i64 (ps 12), .int .i64 (ps 13), .int .i64 (ps 14), .int .i64 (ps 15), .int .i64 (ps 16), .int .i64 (ps 17), .int .i64 (ps 18), .int .i64 (ps 19), fv, .int .i64 k, .int .u8 pt, .int .u16 kd]
    W2.there w1.heap.size 0 25 ∧ X.heap[w1.heap.size]? = some (.cells #[ins, .int .i64 (ps 0), .int .i64 (ps 1), .int .i64 (ps 2), .int .i64 (ps 3), .int .i64 (ps 4), .int .i64 (ps 5), .int .i64 (ps 6), .int .i64 (ps 7), .int .i64 (ps 8), .int .i64 (ps 9), .int .i64 (ps 10), .int .i64 (ps 11), .int .i64 (ps 12), .int .i64 (ps 13), .int .i64 (ps 14), .int .i64 (ps 15), .int .i64 (ps 16), .int .i64 (ps 17), .int .i64 (ps 18), .int .i64 (ps 19), fv, .int .i64 k, .int .u8 pt, .int .u16 kd] 63 (0, 0)) ∧ X.heap[w1.heap.size + 1]? = some (.cells #[.int .i64 0, .int .i64 0] 29 (0, 0)) ∧ Below W0.heap.size W0 X ∧ w1.heap.size + 1 < X.heap.size ∧ w1.grownBy X none := by
  intro W2 X
  have h1 : W2.heap[w1.heap.size]? = some (.cells #[.slice none 0 0, .int .i64 0, .int .i64 0, .int .i64 0, .int .i64 0, .int .i64 0, .int .i64 0, .int .i64 0, .int .i64 0, .int .i64 0, .int .i64 0, .int .i64 0, .int .i64 0, .int .i64 0, .int .i64 0, .int .i64 0, .int .i64 0, .int .i64 0, .int .i64 0, .int .i64 0, .int .i64 0, .slice none 0 0, .int .i64 0, .int .u8 0, .int .u16 0] 63 (0, 0)) := by
    show (World.alloc _ _).heap[_]? = _
    rw [Below.heap_alloc _ _ _ (by simp)]; exact heap_alloc_new w1 _
  have h2 : W2.heap[w1.heap.size + 1]? = some (.cells #[.int .i64 0, .int .i64 0] 29 (0, 0)) := by
    have := heap_alloc_new (w1.alloc (.cells #[.slice none 0 0, .int .i64 0, .int .i64 0, .int .i64 0, .int .i64 0, .int .i64 0, .int .i64 0, .int .i64 0, .int .i64 0, .int .i64 0, .int .i64 0, .int .i64 0, .int .i64 0, .int .i64 0, .int .i64 0, .int .i64 0, .int .i64 0, .int .i64 0, .int .i64 0, .int .i64 0, .int .i64 0, .slice none 0 0, .int .i64 0, .int .u8 0, .int .u16 0] 63)) (.cells #[.int .i64 0, .int .i64 0] 29)
    rw [World.size_alloc] at this
    exact this
  have hg := setCells_grown w1.heap.size [ins, .int .i64 (ps 0), .int .i64 (ps 1), .int .i64 (ps 2), .int .i64 (ps 3), .int .i64 (ps 4), .int .i64 (ps 5), .int .i64 (ps 6), .int .i64 (ps 7), .int .i64 (ps 8), .int .i64 (ps 9), .int .i64 (ps 10), .int .i64 (ps 11), .int .i64 (ps 12), .int .i64 (ps 13), .int .i64 (ps 14), .int .i64 (ps 15), .int .i64 (ps 16), .int .i64 (ps 17), .int .i64 (ps 18), .int .i64 (ps 19), fv, .int .i64 k, .int .u8 pt, .int .u16 kd] 0 W2
  have hs : W2.heap.size = w1.heap.size + 2 := by show (World.alloc _ _).heap.size = _; simp
  have hb2 : Below w1.heap.size w1 W2 := ((Below.refl _ w1).alloc (Nat.le_refl _) _).alloc (by simp) _
  have hx : w1.grownBy X none := ⟨hg.os.trans hb2.os, hg.tape.trans hb2.tape, hg.output.trans hb2.output, Nat.le_trans hb2.size hg.size, fun i hi _ => (hg.block i (by omega) (by simp; omega)).trans (hb2.block i hi)⟩
  refine ⟨there_of_block h1 25 rfl, setCells_all [ins, .int .i64 (ps 0), .int .i64 (ps 1), .int .i64 (ps 2), .int .i64 (ps 3), .int .i64 (ps 4), .int .i64 (ps 5), .int .i64 (ps 6), .int .i64 (ps 7), .int .i64 (ps 8), .int .i64 (ps 9), .int .i64 (ps 10), .int .i64 (ps 11), .int .i64 (ps 12), .int .i64 (ps 13), .int .i64 (ps 14), .int .i64 (ps 15), .int .i64 (ps 16), .int .i64 (ps 17), .int .i64 (ps 18), .int .i64 (ps 19), fv, .int .i64 k, .int .u8 pt, .int .u16 kd] h1 rfl, (hg.block _ (by omega) (by simp)).trans h2, below_grown hb1 hx (fun g e => by cases e), Nat.lt_of_lt_of_le (show w1.heap.size + 1 < W2.heap.size by omega) hg.size, hx⟩

set_option maxHeartbeats 4000000 in
theorem layCheck_any (gen bnd : Int) (a : Option Addr) (n c : Nat) (l : List InstT) (w : World) (hv : InstsV w a l) (hok : InstsOk l) (hl : l.length = n) (hn : 40 * n ≤ 140737488351232) (g0 : 0 ≤ gen) (g1 : gen < 4294967296) (b0 : 0 ≤ bnd) (b1 : bnd < 4294967296) :
    Calls Try.prog 15 #[modV gen bnd a n c] w fun e w' => e = .returned (.agg #[.int .i64 (layE bnd l).1, .int .i64 (layE bnd l).2]) ∧ Below w.heap.size w w' := by
  have hb0 : Below w.heap.size w ((w.alloc (.cells #[.int .u32 gen, .int .u32 bnd, .slice a n c] 25)).alloc (.cells #[.int .i64 0, .int .i64 0] 29)) := ((Below.refl _ w).alloc (Nat.le_refl _) _).alloc (by simp) _
  have hC := walkOver_any gen bnd a n c l _ (hv.below hb0) hok hl hn g0 g1 b0 b1
  have HSB : Hid (((w.alloc (.cells #[.int .u32 gen, .int .u32 bnd, .slice a n c] 25)).alloc (.cells #[.int .i64 0, .int .i64 0] 29)).heap[w.heap.size + 1]? = some (.cells #[.int .i64 0, .int .i64 0] 29 (0, 0))) := by
    have := heap_alloc_new (w.alloc (.cells #[.int .u32 gen, .int .u32 bnd, .slice a n c] 25)) (.cells #[.int .i64 0, .int .i64 0] 29)
    show _ = _
    simpa using this
  have HLT : Hid (w.heap.size + 1 < ((w.alloc (.cells #[.int .u32 gen, .int .u32 bnd, .slice a n c] 25)).alloc (.cells #[.int .i64 0, .int .i64 0] 29)).heap.size) := by show _ < _; simp
  have HB0 := hide hb0
  unfold WalkQ at hC
  generalize layE bnd l = L at *
  obtain ⟨e1, e2⟩ := L
  unfold modV at *
  clear hb0 hv hok hl
  go_enter Try.func15, Try.ntmps15
  go_wp2_with fail
  generalize (w.alloc (.cells #[.int .u32 gen, .int .u32 bnd, .slice a n c] 25)).alloc (.cells #[.int .i64 0, .int .i64 0] 29) = W0 at *
  refine hC.mono ?_
  rintro e w1 ⟨ins, fv, ps, k, pt, kd, rfl, hb1, hone, hfs⟩
  clear hC hfs
  unfold walkV
  obtain ⟨k1, k2, k3, k4, k5, _⟩ := kept_walk w W0 w1 HB0.out hb1 ins fv ps k pt kd 0 0
  have HK1 := hide k1
  have HK2 := hide k2
  have HK3 := hide k3
  have HK4 := hide k4
  have HK5 := hide k5
  have hw1 : W0.heap.size ≤ w1.heap.size := hb1.size
  clear k1 k2 k3 k4 k5 hb1
  simp only
  go_wp2_with (with_reducible refine stopS 63 ?_)
  refine wpList_store_mid rfl 63 (.tmp 3) (.tmp 8) rfl w1.heap.size 0 #[ins, .int .i64 (ps 0), .int .i64 (ps 1), .int .i64 (ps 2), .int .i64 (ps 3), .int .i64 (ps 4), .int .i64 (ps 5), .int .i64 (ps 6), .int .i64 (ps 7), .int .i64 (ps 8), .int .i64 (ps 9), .int .i64 (ps 10), .int .i64 (ps 11), .int .i64 (ps 12), .int .i64 (ps 13), .int .i64 (ps 14), .int .i64 (ps 15), .int .i64 (ps 16), .int .i64 (ps 17), .int .i64 (ps 18), .int .i64 (ps 19), fv, .int .i64 k, .int .u8 pt, .int .u16 kd] rfl rfl HK1.out (by kernel_rfl) (by simp [hone.1, hone.2]; simp [Value.oneCell']) ?_
  simp only [Act.put]
  generalize ((w1.alloc (.cells #[.slice none 0 0, .int .i64 0, .int .i64 0, .int .i64 0, .int .i64 0, .int .i64 0, .int .i64 0, .int .i64 0, .int .i64 0, .int .i64 0, .int .i64 0, .int .i64 0, .int .i64 0, .int .i64 0, .int .i64 0, .int .i64 0, .int .i64 0, .int .i64 0, .int .i64 0, .int .i64 0, .int .i64 0, .slice none 0 0, .int .i64 0, .int .u8 0, .int .u16 0] 63)).alloc (.cells #[.int .i64 0, .int .i64 0] 29)).setCells w1.heap.size 0 [ins, .int .i64 (ps 0), .int .i64 (ps 1), .int .i64 (ps 2), .int .i64 (ps 3), .int .i64 (ps 4), .int .i64 (ps 5), .int .i64 (ps 6), .int .i64 (ps 7), .int .i64 (ps 8), .int .i64 (ps 9), .int .i64 (ps 10), .int .i64 (ps 11), .int .i64 (ps 12), .int .i64 (ps 13), .int .i64 (ps 14), .int .i64 (ps 15), .int .i64 (ps 16), .int .i64 (ps 17), .int .i64 (ps 18), .int .i64 (ps 19), fv, .int .i64 k, .int .u8 pt, .int .u16 kd] = X at *
  obtain ⟨cs, fs⟩ := one_block HK3.out
  have s0 := cs 0
  have s1 := cs 1
  have kr := (HK4.out.block (w.heap.size + 1) HLT.out).trans HSB.out
  obtain ⟨cr, fr⟩ := one_block kr
  have r0 := cr 0
  have r1 := cr 1
  have hl0 := HLT.out
  have hlx := HK5.out
  have ne1 : w1.heap.size + 1 ≠ w.heap.size + 1 := by omega
  clear cs cr
  have hg1 := setCells_grown (w1.heap.size + 1) [.int .i64 e1, .int .i64 e2] 0 X
  have hg2 := setCells_grown (w.heap.size + 1) [.int .i64 e1, .int .i64 e2] 0 (X.setCells (w1.heap.size + 1) 0 [.int .i64 e1, .int .i64 e2])
  have HP2 := hide (setCells_all (w := X.setCells (w1.heap.size + 1) 0 [.int .i64 e1, .int .i64 e2]) [.int .i64 e1, .int .i64 e2] ((hg1.block (w.heap.size + 1) (by have := HK4.out.size; omega) (by simp; omega)).trans kr) rfl)
  have HBF := hide (below_grown (below_grown (HB0.out.trans (HK4.out.mono HB0.out.size)) hg1 (fun g e => by simp at e; omega)) hg2 (fun g e => by simp at e; omega))
  clear hg1 hg2 kr
  go_wp2_with fail
  show bodyPost _ _ _ _ _ ((X.setCells (w1.heap.size + 1) 0 [.int .i64 e1, .int .i64 e2]).setCells (w.heap.size + 1) 0 [.int .i64 e1, .int .i64 e2])
  generalize (X.setCells (w1.heap.size + 1) 0 [.int .i64 e1, .int .i64 e2]).setCells (w.heap.size + 1) 0 [.int .i64 e1, .int .i64 e2] = Z at *
  have r6 := run_loadVar_mid (P := Try.prog) Z (w.heap.size + 1) 0 29 [.int .i64 e1, .int .i64 e2] _ (range_of_block HP2.out) Try.underlying29 rfl (by kernel_rfl)
  refine bodyPost_ret (v := .agg #[.int .i64 e1, .int .i64 e2]) ?_ rfl ⟨rfl, HBF.out⟩
  simp only [results, Try.results15, List.mapM_toArray, List.mapM_cons, List.mapM_nil, asAddr, Sem.run_bind, Sem.run_pure, Result.andThen_ok, bind_assoc, pure_bind, Sem.run_map, map_pure, Array.getD_eq_getD_getElem?, List.getElem?_toArray, List.getElem?_cons_succ, List.getElem?_cons_zero, Option.getD_some, r6]
  rfl

end Go.Proofs.Ytcckepjpehjijaa
