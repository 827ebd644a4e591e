/-
  Texts laid together in one: KitCopyModuleO, KitSpoil, ArgInsts, LawLayoutCuts.
-/
import Derived.WalkSpells
import Derived.BigRegion
import Derived.Deep.RegionWith
import Derived.Deep.DrawnRows
import Derived.Test.YtcckepjpehjijaaB23
import Derived.WalkMore
import Derived.Test.YtcckepjpehjijaaProg
import Derived.Test.YtcckepjpehjijaaB07
import Derived.ProofKit
import Derived.OpenShut
import Derived.SizedLaws
import Derived.Deep.Slices
import Derived.Deep.SlicePairs
import Derived.Lib.SmallJoins
import Derived.Test.YtcckepjpehjijaaB01
import Derived.Test.YtcckepjpehjijaaB22
import Derived.Test.YtcckepjpehjijaaB20
/-
  CopyModule of the kit answers the module in new memory: rows of its own.
-/
namespace Go.Proofs.Ytcckepjpehjijaa
open Go.RowKit

/-- The first k instructions lie in the row at g, their arguments in later blocks. -/
structure PartO (w : World) (g n k : Nat) (l : List InstT) : Prop where
  row : ∃ cs : Array Value, w.heap[g]? = some (.cells cs 58 (0, 0)) ∧ cs.size = n * 4
  each : ∀ j, j < k → ∃ gj nj, w.cell? ⟨g, j * 4, none⟩ = some (.int .u16 (nthI l j).1) ∧ w.cell? ⟨g, j * 4 + 1, none⟩ = some (.int .u32 (nthI l j).2.1) ∧ w.cell? ⟨g, j * 4 + 2, none⟩ = some (.int .u32 (nthI l j).2.2.1) ∧ w.cell? ⟨g, j * 4 + 3, none⟩ = some (.slice (some ⟨gj, 0, none⟩) nj nj) ∧
    (nthI l j).2.2.2.length = nj ∧ ArgsV w (some ⟨gj, 0, none⟩) (nthI l j).2.2.2 ∧ g < gj ∧ ∃ cs : Array Value, w.heap[gj]? = some (.cells cs 54 (0, 0)) ∧ cs.size = nj * 3

theorem PartO.below {w w' : World} {g n k : Nat} {l : List InstT} (h : PartO w g n k l) (hb : Below w.heap.size w w') : PartO w' g n k l := by
  obtain ⟨⟨cs, h1, h2⟩, h3⟩ := h
  have hg : g < w.heap.size := (Array.getElem?_eq_some_iff.1 h1).1
  refine ⟨⟨cs, by rw [hb.block g hg]; exact h1, h2⟩, fun j hj => ?_⟩
  obtain ⟨gj, nj, c1, c2, c3, c4, c5, c6, c7, cs8, k1, k2⟩ := h3 j hj
  exact ⟨gj, nj, (hb.cell (p := ⟨g, j * 4, none⟩) hg).trans c1, (hb.cell (p := ⟨g, j * 4 + 1, none⟩) hg).trans c2, (hb.cell (p := ⟨g, j * 4 + 2, none⟩) hg).trans c3, (hb.cell (p := ⟨g, j * 4 + 3, none⟩) hg).trans c4, c5, c6.below hb, c7, cs8, (hb.block gj (Array.getElem?_eq_some_iff.1 k1).1).trans k1, k2⟩

/-- An instruction is stored. -/
theorem PartO.store {w : World} {g n k : Nat} {l : List InstT} (h : PartO w g n k l) (hk : k < n) (gk nk : Nat) (hl : (nthI l k).2.2.2.length = nk) (hv : ArgsV w (some ⟨gk, 0, none⟩) (nthI l k).2.2.2) (hg : g < gk) (h8 : ∃ cs : Array Value, w.heap[gk]? = some (.cells cs 54 (0, 0)) ∧ cs.size = nk * 3) :
    PartO ((((w.setCell ⟨g, k * 4, none⟩ (.int .u16 (nthI l k).1)).setCell ⟨g, k * 4 + 1, none⟩ (.int .u32 (nthI l k).2.1)).setCell ⟨g, k * 4 + 2, none⟩ (.int .u32 (nthI l k).2.2.1)).setCell ⟨g, k * 4 + 3, none⟩ (.slice (some ⟨gk, 0, none⟩) nk nk)) g n (k + 1) l := by
  obtain ⟨⟨cs, h1, h2⟩, h3⟩ := h
  obtain ⟨W, hW⟩ : ∃ W, W = (((w.setCell ⟨g, k * 4, none⟩ (.int .u16 (nthI l k).1)).setCell ⟨g, k * 4 + 1, none⟩ (.int .u32 (nthI l k).2.1)).setCell ⟨g, k * 4 + 2, none⟩ (.int .u32 (nthI l k).2.2.1)).setCell ⟨g, k * 4 + 3, none⟩ (.slice (some ⟨gk, 0, none⟩) nk nk) := ⟨_, rfl⟩
  have hb : W.heap[g]? = some (.cells ((((cs.setIfInBounds (k * 4) (.int .u16 (nthI l k).1)).setIfInBounds (k * 4 + 1) (.int .u32 (nthI l k).2.1)).setIfInBounds (k * 4 + 2) (.int .u32 (nthI l k).2.2.1)).setIfInBounds (k * 4 + 3) (.slice (some ⟨gk, 0, none⟩) nk nk)) 58 (0, 0)) := by
    rw [hW]; simp [World.setCell, Array.getElem?_modify, h1]
  have cell : ∀ j, W.cell? ⟨g, j, none⟩ = ((((cs.setIfInBounds (k * 4) (.int .u16 (nthI l k).1)).setIfInBounds (k * 4 + 1) (.int .u32 (nthI l k).2.1)).setIfInBounds (k * 4 + 2) (.int .u32 (nthI l k).2.2.1)).setIfInBounds (k * 4 + 3) (.slice (some ⟨gk, 0, none⟩) nk nk))[j]? := fun j => by
    simp [World.cell?, hb]
  have old : ∀ j, w.cell? ⟨g, j, none⟩ = cs[j]? := fun j => by simp [World.cell?, h1]
  have far : ∀ gj m, g < gj → ArgsV w (some ⟨gj, 0, none⟩) m → ArgsV W (some ⟨gj, 0, none⟩) m := fun gj m hlt hm => by
    rw [hW]
    exact args_far (args_far (args_far (args_far hm (by omega) _ _) (by omega) _ _) (by omega) _ _) (by omega) _ _
  have far8 : ∀ gj m, g < gj → (∃ cs : Array Value, w.heap[gj]? = some (.cells cs 54 (0, 0)) ∧ cs.size = m * 3) → ∃ cs : Array Value, W.heap[gj]? = some (.cells cs 54 (0, 0)) ∧ cs.size = m * 3 := fun gj m hlt h => by
    obtain ⟨cs8, k1, k2⟩ := h
    rw [hW]
    exact ⟨cs8, setFar1 (setFar1 (setFar1 (setFar1 k1 (by omega) _ _) (by omega) _ _) (by omega) _ _) (by omega) _ _, k2⟩
  rw [← hW]
  refine ⟨⟨_, hb, by simp [h2]⟩, fun j hj => ?_⟩
  by_cases hjk : j < k
  · obtain ⟨gj, nj, c1, c2, c3, c4, c5, c6, c7, c8⟩ := h3 j hjk
    rw [old] at c1 c2 c3 c4
    refine ⟨gj, nj, ?_, ?_, ?_, ?_, c5, far _ _ c7 c6, c7, far8 _ _ c7 c8⟩
    all_goals rw [cell, Array.getElem?_setIfInBounds_ne (by omega), Array.getElem?_setIfInBounds_ne (by omega), Array.getElem?_setIfInBounds_ne (by omega), Array.getElem?_setIfInBounds_ne (by omega)]
    · exact c1
    · exact c2
    · exact c3
    · exact c4
  · obtain rfl : j = k := by omega
    refine ⟨gk, nk, ?_, ?_, ?_, ?_, hl, far _ _ hg hv, hg, far8 _ _ hg h8⟩
    · rw [cell, Array.getElem?_setIfInBounds_ne (by omega), Array.getElem?_setIfInBounds_ne (by omega), Array.getElem?_setIfInBounds_ne (by omega), Array.getElem?_setIfInBounds_self_of_lt (by omega)]
    · rw [cell, Array.getElem?_setIfInBounds_ne (by omega), Array.getElem?_setIfInBounds_ne (by omega), Array.getElem?_setIfInBounds_self_of_lt (by simp; omega)]
    · rw [cell, Array.getElem?_setIfInBounds_ne (by omega), Array.getElem?_setIfInBounds_self_of_lt (by simp; omega)]
    · rw [cell, Array.getElem?_setIfInBounds_self_of_lt (by simp; omega)]

theorem PartO.view {w : World} {g n : Nat} {l : List InstT} (h : PartO w g n n l) (hl : l.length = n) : InstsV w (some ⟨g, 0, none⟩) l := by
  intro j hj
  obtain ⟨gj, nj, c1, c2, c3, c4, c5, c6, c7, _⟩ := h.each j (by omega)
  exact ⟨g, 0, some ⟨gj, 0, none⟩, nj, nj, rfl, World.block_lt_of_cell? _ _ c1, by rw [Nat.zero_add]; exact c1, by rw [Nat.zero_add]; exact c2, by rw [Nat.zero_add]; exact c3, by rw [Nat.zero_add]; exact c4, c5, c6, Nat.le_refl _⟩

theorem PartO.far {w : World} {g n k : Nat} {l : List InstT} (h : PartO w g n k l) {b : Nat} (hb : b < g) (i : Nat) (v : Value) : PartO (w.setCell ⟨b, i, none⟩ v) g n k l := by
  obtain ⟨⟨cs, h1, h2⟩, h3⟩ := h
  have hx : (w.setCell ⟨b, i, none⟩ v).heap[g]? = w.heap[g]? := Below.heap_setCell _ _ _ _ (by simp; omega)
  have hc : ∀ j, (w.setCell ⟨b, i, none⟩ v).cell? ⟨g, j, none⟩ = w.cell? ⟨g, j, none⟩ := fun j => by simp only [World.cell?, hx]
  refine ⟨⟨cs, by rw [hx]; exact h1, h2⟩, fun j hj => ?_⟩
  obtain ⟨gj, nj, c1, c2, c3, c4, c5, c6, c7, cs8, k1, k2⟩ := h3 j hj
  exact ⟨gj, nj, by rw [hc]; exact c1, by rw [hc]; exact c2, by rw [hc]; exact c3, by rw [hc]; exact c4, c5, args_far c6 (by omega) _ _, c7, cs8, setFar1 k1 (by omega) _ _, k2⟩

theorem three_set3O {w : World} {B T : Nat} {z0 z1 z2 : Value} (h : w.heap[B]? = some (.cells #[z0, z1, z2] T (0, 0))) (u0 u1 u2 : Value) :
    (((w.setCell ⟨B, 0, none⟩ u0).setCell ⟨B, 1, none⟩ u1).setCell ⟨B, 2, none⟩ u2).heap[B]? = some (.cells #[u0, u1, u2] T (0, 0)) := by
  simp only [World.setCell, Array.getElem?_modify, h]; simp
theorem three_below3O (w : World) (B : Nat) (u0 u1 u2 : Value) : Below B w (((w.setCell ⟨B, 0, none⟩ u0).setCell ⟨B, 1, none⟩ u1).setCell ⟨B, 2, none⟩ u2) :=
  (((Below.refl B w).setCell (Nat.le_refl _) _).setCell (Nat.le_refl _) _).setCell (Nat.le_refl _) _

set_option maxRecDepth 100000 in
set_option maxHeartbeats 4000000 in
theorem copyModule_own (gen bound : Int) (ax : Option Addr) (n cx : Nat) (l : List InstT) (w : World) (hx : InstsV w ax l) (hok : InstsOk l) (hl : l.length = n) (hn : 40 * n ≤ 140737488351232) :
    Calls Try.prog 7 #[modV gen bound ax n cx] w fun e w' => ∃ g, e = .returned (modV gen bound (some ⟨g, 0, none⟩) n n) ∧ w.heap.size ≤ g ∧ PartO w' g n n l ∧ Below w.heap.size w w' := by
  obtain ⟨i0, hi, hz0, hz1, hz2⟩ := info_parts CopyModule.info
  unfold modV
  have HL : Hid (l.length = n) := hl
  clear hl
  go_enter Try.func7, Try.ntmps7
  go_wp2_with (at_make; refine wpList_make_full _ rfl _ _ 23 rfl (w.heap.size + 2) 58 i0 (.agg #[.int .u16 0, .int .u32 0, .int .u32 0, .slice none 0 0]) 4 Try.underlying23 hi hz0 hz1 _ _ _ _ n rfl rfl (by omega) (by omega) (by rw [hz2]; omega) (by unfold maxLen; omega) (by simp) ?_)
  intro w1 hown1 hgrow1
  have hb0 : Below w.heap.size w ((w.alloc (.cells #[.int .u32 gen, .int .u32 bound, .slice ax n cx] 25)).alloc (.cells #[.int .u32 0, .int .u32 0, .slice none 0 0] 25)) := ((Below.refl _ w).alloc (Nat.le_refl _) _).alloc (by simp) _
  have hb1 : Below (w.heap.size + 2) ((w.alloc (.cells #[.int .u32 gen, .int .u32 bound, .slice ax n cx] 25)).alloc (.cells #[.int .u32 0, .int .u32 0, .slice none 0 0] 25)) w1 := (Below.refl _ _).grown hgrow1 (by simp) (by simp)
  have hbox : w1.heap[w.heap.size]? = some (.cells #[.int .u32 gen, .int .u32 bound, .slice ax n cx] 25 (0, 0)) := (hb1.block w.heap.size (by omega)).trans ((Below.heap_alloc _ _ _ (by simp)).trans (heap_alloc_new w _))
  have hres : w1.heap[w.heap.size + 1]? = some (.cells #[.int .u32 0, .int .u32 0, .slice none 0 0] 25 (0, 0)) := (hb1.block (w.heap.size + 1) (by omega)).trans (by simpa using heap_alloc_new (w.alloc (.cells #[.int .u32 gen, .int .u32 bound, .slice ax n cx] 25)) (.cells #[.int .u32 0, .int .u32 0, .slice none 0 0] 25))
  have hP1 : PartO w1 (w.heap.size + 2) n 0 l := by
    refine ⟨?_, fun j hj => by omega⟩
    rcases hown1.2 with ⟨h, _⟩ | ⟨g, cap', cur, h1, h2, h3, h4, h5, h6, _⟩
    · simp at h
    · simp at h1; obtain ⟨rfl, rfl⟩ := h1; exact ⟨cur, h3, h6⟩
  have hbw1 : Below w.heap.size w w1 := hb0.trans (hb1.mono (by omega))
  clear hown1 hgrow1 hb0 hb1
  go_wp2
  go_loopw [4] (fun i wr => ∃ k : Nat, k ≤ n ∧ i = .int .i64 k ∧ PartO wr (w.heap.size + 2) n k l ∧ wr.heap[w.heap.size]? = some (.cells #[.int .u32 gen, .int .u32 bound, .slice ax n cx] 25 (0, 0)) ∧ wr.heap[w.heap.size + 1]? = some (.cells #[.int .u32 0, .int .u32 0, .slice none 0 0] 25 (0, 0)) ∧ Below w.heap.size w wr) (fun i _ => n - (intOf i).toNat)
  case atStart => exact ⟨0, Nat.zero_le _, rfl, hP1, hbox, hres, hbw1⟩
  case round =>
    obtain ⟨k, hk, rfl, hP, hbx, hrs, hnx⟩ := hrel
    clear hP1 hbw1 hbox hres
    have hbc : wr.cell? ⟨w.heap.size, 2, none⟩ = some (.slice ax n cx) := by simp [World.cell?, hbx]
    have hsz := hnx.size
    by_cases hlt : k < n
    · obtain ⟨b, off, aj, cj, nj, rfl, hbs, p1, p2, p3, p4, p5, p6, _⟩ := hx k (by rw [HL.out]; exact hlt)
      have q1 := (hnx.cell (p := ⟨b, off + k * 4, none⟩) hbs).trans p1
      have q2 := (hnx.cell (p := ⟨b, off + k * 4 + 1, none⟩) hbs).trans p2
      have q3 := (hnx.cell (p := ⟨b, off + k * 4 + 2, none⟩) hbs).trans p3
      have q4 := (hnx.cell (p := ⟨b, off + k * 4 + 3, none⟩) hbs).trans p4
      obtain ⟨cs, hr1, hr2⟩ := hP.row
      have hgl : w.heap.size + 1 + 1 < wr.heap.size := (Array.getElem?_eq_some_iff.1 hr1).1
      obtain ⟨⟨u0, d0⟩, f0⟩ := cells_can hr1 (k * 4) (by omega)
      obtain ⟨⟨u1, d1⟩, f1⟩ := cells_can hr1 (k * 4 + 1) (by omega)
      obtain ⟨⟨u2, d2⟩, f2⟩ := cells_can hr1 (k * 4 + 2) (by omega)
      obtain ⟨⟨u3, d3⟩, f3⟩ := cells_can hr1 (k * 4 + 3) (by omega)
      have hki : (k : Int) < (n : Int) := by omega
      have hk0 : (0 : Int) ≤ (k : Int) := by omega
      have s1 := (hok k (by rw [HL.out]; exact hlt)).2.2.2.2.2.2.2
      rw [p5] at s1
      have hC := fun wx (hb : Below wr.heap.size wr wx) => copyInst_own (nthI l k) aj nj cj wx ((p6.below hnx).below hb) p5 s1
      unfold instV at hC
      have hbs' : b < wr.heap.size := by omega
      have HX : Hid (wr.heap[w.heap.size]? = some (.cells #[.int .u32 gen, .int .u32 bound, .slice (some ⟨b, off, none⟩) n cx] 25 (0, 0))) := hbx
      have HR : Hid _ := hrs
      have HP : Hid (PartO wr (w.heap.size + 2) n k l) := hP
      have HV3 : Hid ((nthI l k).2.2.2.length = nj) := p5
      clear p1 p2 p3 p4 p5 p6 hr1 hr2 hP hx hok hbx hrs s1
      go_wp2_with fail
      refine (hC _ (Below.refl _ _)).mono ?_
      rintro e w' ⟨g', rfl, hg', hvC, h8C, hbC⟩
      have e1 := (hbC.cell (p := ⟨w.heap.size + 1 + 1, k * 4, none⟩) (by exact hgl)).trans d0
      have e2 := (hbC.cell (p := ⟨w.heap.size + 1 + 1, k * 4 + 1, none⟩) (by exact hgl)).trans d1
      have e3 := (hbC.cell (p := ⟨w.heap.size + 1 + 1, k * 4 + 2, none⟩) (by exact hgl)).trans d2
      have e4 := (hbC.cell (p := ⟨w.heap.size + 1 + 1, k * 4 + 3, none⟩) (by exact hgl)).trans d3
      have e5 := (hbC.frozen (p := ⟨w.heap.size + 1 + 1, k * 4, none⟩) (by exact hgl)).trans f0
      have e6 := (hbC.frozen (p := ⟨w.heap.size + 1 + 1, k * 4 + 1, none⟩) (by exact hgl)).trans f1
      have e7 := (hbC.frozen (p := ⟨w.heap.size + 1 + 1, k * 4 + 2, none⟩) (by exact hgl)).trans f2
      have e8 := (hbC.frozen (p := ⟨w.heap.size + 1 + 1, k * 4 + 3, none⟩) (by exact hgl)).trans f3
      have hP2 := (HP.out.below hbC).store hlt g' nj HV3.out hvC (by omega) h8C
      have hX2 := (hbC.block w.heap.size (by omega)).trans HX.out
      have hR2 := (hbC.block (w.heap.size + 1) (by omega)).trans HR.out
      have hB2 := hnx.trans (hbC.mono hsz)
      have HP2 : Hid _ := hP2
      have HX2 : Hid _ := hX2
      have HR2 : Hid _ := hR2
      have HB2 : Hid _ := hB2
      clear hP2 hX2 hR2 hB2 hvC h8C hbC HP HX HR d0 d1 d2 d3 f0 f1 f2 f3 hC
      go_wp2
      go_roundw
      case rel => exact ⟨k + 1, by omega, by go_num, HP2.out, setFar1 (setFar3 HX2.out (by omega) _ _ _ _ _ _) (by omega) _ _, setFar1 (setFar3 HR2.out (by omega) _ _ _ _ _ _) (by omega) _ _, (((HB2.out.setCell (by show w.heap.size ≤ w.heap.size + 1 + 1; omega) _).setCell (by show w.heap.size ≤ w.heap.size + 1 + 1; omega) _).setCell (by show w.heap.size ≤ w.heap.size + 1 + 1; omega) _).setCell (by show w.heap.size ≤ w.heap.size + 1 + 1; omega) _⟩
      case measure => simp [intOf]; omega
    · obtain rfl : k = n := by omega
      obtain ⟨hc, hf⟩ := block_cells hbx
      obtain ⟨hc', hf'⟩ := block_cells hrs
      have c0 := hc 0
      have c1 := hc 1
      have r0 := hc' 0
      have r1 := hc' 1
      have r2 := hc' 2
      have HP : Hid _ := hP
      have HB : Hid _ := hnx
      have HX : Hid _ := hbx
      have HR : Hid _ := hrs
      clear hP hbx hrs hc hc' hx hnx
      go_wp2
      have hB3 := three_set3O (setFar1 HR.out (show w.heap.size + 1 ≠ w.heap.size by omega) 2 (.slice (some ⟨w.heap.size + 1 + 1, 0, none⟩) k k)) (.int .u32 gen) (.int .u32 bound) (.slice (some ⟨w.heap.size + 1 + 1, 0, none⟩) k k)
      have hBel := (HB.out.setCell (p := ⟨w.heap.size, 2, none⟩) (Nat.le_refl _) (.slice (some ⟨w.heap.size + 1 + 1, 0, none⟩) k k)).trans ((three_below3O (wr.setCell ⟨w.heap.size, 2, none⟩ (.slice (some ⟨w.heap.size + 1 + 1, 0, none⟩) k k)) (w.heap.size + 1) (.int .u32 gen) (.int .u32 bound) (.slice (some ⟨w.heap.size + 1 + 1, 0, none⟩) k k)).mono (show w.heap.size ≤ w.heap.size + 1 by omega))
      have hV3 := (((((HP.out.far (b := w.heap.size) (by omega) 2 (.slice (some ⟨w.heap.size + 1 + 1, 0, none⟩) k k)).far (b := w.heap.size + 1) (by omega) 0 (.int .u32 gen)).far (b := w.heap.size + 1) (by omega) 1 (.int .u32 bound)).far (b := w.heap.size + 1) (by omega) 2 (.slice (some ⟨w.heap.size + 1 + 1, 0, none⟩) k k)))
      clear HP HB HR HX c0 c1 r0 r1 r2 hf hf'
      generalize (((wr.setCell _ _).setCell _ _).setCell _ _).setCell _ _ = W at hB3 hBel hV3 ⊢
      obtain ⟨hd, _⟩ := block_cells hB3
      have d0 := hd 0
      have d1 := hd 1
      have d2 := hd 2
      refine bodyPost_ret (v := .agg #[.int .u32 gen, .int .u32 bound, .slice (some ⟨w.heap.size + 1 + 1, 0, none⟩) k k]) ?_ rfl ⟨w.heap.size + 1 + 1, rfl, by omega, hV3, hBel⟩
      simp [results, Try.results7, go_sem, d0, d1, d2]

end Go.Proofs.Ytcckepjpehjijaa

/-
  Spoil of the kit writes over a copy of a module, and over nothing else.
-/
namespace Go.Proofs.Ytcckepjpehjijaa
open Go.RowKit
set_option linter.unusedVariables false
set_option linter.unusedSimpArgs false
set_option maxRecDepth 10000

/-- Nothing turns but blocks from g up to S. -/
structure Outside (g S : Nat) (w w' : World) : Prop where
  os : w'.os = w.os
  tape : w'.tape = w.tape
  output : w'.output = w.output
  size : w.heap.size ≤ w'.heap.size
  block : ∀ k, (k < g ∨ S ≤ k) → k < w.heap.size → w'.heap[k]? = w.heap[k]?
theorem Outside.set {g S : Nat} {w w' : World} (h : Outside g S w w') {b : Nat} (h1 : g ≤ b) (h2 : b < S) (i : Nat) (v : Value) : Outside g S w (w'.setCell ⟨b, i, none⟩ v) :=
  ⟨h.os, h.tape, h.output, by rw [World.size_setCell]; exact h.size, fun k hk hl => (Below.heap_setCell _ _ _ _ (by simp; omega)).trans (h.block k hk hl)⟩

/-- While a copy is written over: from its i-th instruction on it still leads to its arguments. -/
structure SpI (w : World) (S g n i B : Nat) (gen bnd : Int) (wr : World) : Prop where
  row : ∃ cs : Array Value, wr.heap[g]? = some (.cells cs 58 (0, 0)) ∧ cs.size = n * 4
  each : ∀ j, i ≤ j → j < n → ∃ gj nj, wr.cell? ⟨g, j * 4 + 3, none⟩ = some (.slice (some ⟨gj, 0, none⟩) nj nj) ∧ g < gj ∧ gj < S ∧ nj ≤ 140737488351232 ∧ ∃ cs : Array Value, wr.heap[gj]? = some (.cells cs 54 (0, 0)) ∧ cs.size = nj * 3
  box : wr.heap[B]? = some (.cells #[.int .u32 gen, .int .u32 bnd, .slice (some ⟨g, 0, none⟩) n n] 25 (0, 0))
  out : Outside g S w wr
  far : S ≤ B ∧ g < S
theorem SpI.next {w wr : World} {S g n i B : Nat} {gen bnd : Int} (h : SpI w S g n i B gen bnd wr) : SpI w S g n (i + 1) B gen bnd wr := ⟨h.row, fun j hj hn => h.each j (by omega) hn, h.box, h.out, h.far⟩
theorem SpI.arg {w wr : World} {S g n i B : Nat} {gen bnd : Int} (h : SpI w S g n i B gen bnd wr) {b : Nat} (h1 : g < b) (h2 : b < S) (x : Nat) (v : Value) : SpI w S g n i B gen bnd (wr.setCell ⟨b, x, none⟩ v) := by
  have hf := h.far
  have hc : ∀ y, (wr.setCell ⟨b, x, none⟩ v).cell? ⟨g, y, none⟩ = wr.cell? ⟨g, y, none⟩ := fun y => by simp only [World.cell?, Below.heap_setCell wr ⟨b, x, none⟩ v g (by simp; omega)]
  obtain ⟨cs, r1, r2⟩ := h.row
  refine ⟨⟨cs, (Below.heap_setCell _ _ _ _ (by simp; omega)).trans r1, r2⟩, fun j hj hn => ?_, (Below.heap_setCell _ _ _ _ (by simp; omega)).trans h.box, h.out.set (by omega) h2 x v, hf⟩
  obtain ⟨gj, nj, e1, e2, e3, e4, cs, k1, k2⟩ := h.each j hj hn
  by_cases e : gj = b
  · subst e
    exact ⟨gj, nj, by rw [hc]; exact e1, e2, e3, e4, cs.setIfInBounds x v, by simp [World.setCell, Array.getElem?_modify, k1], by simp [k2]⟩
  · exact ⟨gj, nj, by rw [hc]; exact e1, e2, e3, e4, cs, (Below.heap_setCell _ _ _ _ (by simpa using e)).trans k1, k2⟩
theorem SpI.inst {w wr : World} {S g n i B : Nat} {gen bnd : Int} (h : SpI w S g n (i + 1) B gen bnd wr) {x : Nat} (hx : x < (i + 1) * 4) (v : Value) : SpI w S g n (i + 1) B gen bnd (wr.setCell ⟨g, x, none⟩ v) := by
  have hf := h.far
  obtain ⟨cs, r1, r2⟩ := h.row
  have hb : (wr.setCell ⟨g, x, none⟩ v).heap[g]? = some (.cells (cs.setIfInBounds x v) 58 (0, 0)) := by simp [World.setCell, Array.getElem?_modify, r1]
  refine ⟨⟨_, hb, by simp [r2]⟩, fun j hj hn => ?_, (Below.heap_setCell _ _ _ _ (by simp; omega)).trans h.box, h.out.set (Nat.le_refl _) hf.2 x v, hf⟩
  obtain ⟨gj, nj, e1, e2, e3, e4, cs', k1, k2⟩ := h.each j hj hn
  refine ⟨gj, nj, ?_, e2, e3, e4, cs', (Below.heap_setCell _ _ _ _ (by simp; omega)).trans k1, k2⟩
  simp only [World.cell?, hb, r1] at e1 ⊢
  rw [Array.getElem?_setIfInBounds_ne (by omega)]
  exact e1

set_option maxHeartbeats 8000000 in
theorem spoilModule_any (gen bnd : Int) (g n : Nat) (l : List InstT) (w0 w : World) (hP : PartO w0 g n n l) (hok : InstsOk l) (hl : l.length = n) (hn : 40 * n ≤ 140737488351232) (hb : Below w0.heap.size w0 w) :
    Calls Try.prog 9 #[modV gen bnd (some ⟨g, 0, none⟩) n n] w fun e w' => e = .returned (.tuple #[]) ∧ Outside g w0.heap.size w w' := by
  have HN : Hid (40 * n ≤ 140737488351232) := hn
  have hba : Below w.heap.size w (w.alloc (.cells #[.int .u32 gen, .int .u32 bnd, .slice (some ⟨g, 0, none⟩) n n] 25)) := (Below.refl _ w).alloc (Nat.le_refl _) _
  have hS0 : SpI w w0.heap.size g n 0 w.heap.size gen bnd (w.alloc (.cells #[.int .u32 gen, .int .u32 bnd, .slice (some ⟨g, 0, none⟩) n n] 25)) := by
    have hbb := hb.trans (hba.mono hb.size)
    obtain ⟨cs, r1, r2⟩ := hP.row
    have hg : g < w0.heap.size := (Array.getElem?_eq_some_iff.1 r1).1
    refine ⟨⟨cs, (hbb.block g hg).trans r1, r2⟩, fun j _ hj => ?_, heap_alloc_new _ _, ⟨hba.os, hba.tape, hba.output, hba.size, fun k _ hk => hba.block k hk⟩, hb.size, hg⟩
    obtain ⟨gj, nj, c1, c2, c3, c4, c5, c6, c7, cs8, k1, k2⟩ := hP.each j hj
    have hgj := (Array.getElem?_eq_some_iff.1 k1).1
    have hz := (hok j (by omega)).2.2.2.2.2.2.2
    exact ⟨gj, nj, (hbb.cell (p := ⟨g, j * 4 + 3, none⟩) hg).trans c4, c7, hgj, by omega, cs8, (hbb.block gj hgj).trans k1, k2⟩
  have HS0 := hide hS0
  unfold modV
  generalize w0.heap.size = S at *
  clear hP hok hl hn hb hba hS0
  go_enter Try.func9, Try.ntmps9
  go_wp2_with fail
  generalize w.alloc (.cells #[.int .u32 gen, .int .u32 bnd, .slice (some ⟨g, 0, none⟩) n n] 25) = W0 at *
  go_loopw [2] (fun i wr => ∃ k : Nat, k ≤ n ∧ i = .int .i64 k ∧ SpI w S g n k w.heap.size gen bnd wr) (fun i _ => n - (intOf i).toNat)
  case atStart => exact ⟨0, Nat.zero_le _, rfl, HS0.out⟩
  case round =>
    obtain ⟨k, hk, rfl, hS⟩ := hrel
    clear HS0
    have hkb : (k : Int) < 140737488351232 := by have := HN.out; omega
    have m2 := (block_cells hS.box).1 2
    by_cases hlt : k < n
    · have hki : (k : Int) < (n : Int) := by omega
      have hk0 : (0 : Int) ≤ (k : Int) := by omega
      obtain ⟨gj, nj, e1, e2, e3, e4, e5⟩ := hS.each k (Nat.le_refl _) hlt
      have HE1 := hide (And.intro e1 e5)
      clear e5
      have HS := hide hS
      clear hS
      go_wp2_with fail
      clear m2 e1
      go_loopw [3] (fun i wr => ∃ j : Nat, j ≤ nj ∧ i = .int .i64 j ∧ SpI w S g n k w.heap.size gen bnd wr ∧ wr.cell? ⟨g, k * 4 + 3, none⟩ = some (.slice (some ⟨gj, 0, none⟩) nj nj) ∧ ∃ cs : Array Value, wr.heap[gj]? = some (.cells cs 54 (0, 0)) ∧ cs.size = nj * 3) (fun i _ => nj - (intOf i).toNat)
      case atStart => exact ⟨0, Nat.zero_le _, rfl, HS.out, HE1.out.1, HE1.out.2⟩
      case round =>
        obtain ⟨j, hj, rfl, hS, c3, cs, hr1, hr2⟩ := hrel
        clear HS
        have m2 := (block_cells hS.box).1 2
        have hj0 : (0 : Int) ≤ (j : Int) := by omega
        by_cases hjl : j < nj
        · have hji : (j : Int) < (nj : Int) := by omega
          obtain ⟨⟨u0, d0⟩, f0⟩ := cells_can hr1 (j * 3) (by omega)
          obtain ⟨⟨u1, d1⟩, f1⟩ := cells_can hr1 (j * 3 + 1) (by omega)
          obtain ⟨⟨u2, d2⟩, f2⟩ := cells_can hr1 (j * 3 + 2) (by omega)
          have HF := hide (((hS.arg e2 e3 (j * 3) (.int .u8 77)).arg e2 e3 (j * 3 + 1) (.int .u32 777)).arg e2 e3 (j * 3 + 2) (.string ⟨#[115, 112, 111, 105, 108, 116]⟩))
          have HC3 : Hid ((((wr.setCell ⟨gj, j * 3, none⟩ (.int .u8 77)).setCell ⟨gj, j * 3 + 1, none⟩ (.int .u32 777)).setCell ⟨gj, j * 3 + 2, none⟩ (.string ⟨#[115, 112, 111, 105, 108, 116]⟩)).cell? ⟨g, k * 4 + 3, none⟩ = some (.slice (some ⟨gj, 0, none⟩) nj nj)) := by
            show _ = _
            simp only [World.cell?] at c3 ⊢
            rw [Below.heap_setCell _ _ _ _ (by simp; omega), Below.heap_setCell _ _ _ _ (by simp; omega), Below.heap_setCell _ _ _ _ (by simp; omega)]
            exact c3
          have HRR : Hid (∃ cs : Array Value, (((wr.setCell ⟨gj, j * 3, none⟩ (.int .u8 77)).setCell ⟨gj, j * 3 + 1, none⟩ (.int .u32 777)).setCell ⟨gj, j * 3 + 2, none⟩ (.string ⟨#[115, 112, 111, 105, 108, 116]⟩)).heap[gj]? = some (.cells cs 54 (0, 0)) ∧ cs.size = nj * 3) := ⟨((cs.setIfInBounds (j * 3) (.int .u8 77)).setIfInBounds (j * 3 + 1) (.int .u32 777)).setIfInBounds (j * 3 + 2) (.string ⟨#[115, 112, 111, 105, 108, 116]⟩), by simp [World.setCell, Array.getElem?_modify, hr1], by simp [hr2]⟩
          clear hS hr1 hr2
          go_wp2_with fail
          go_roundw
          case rel => exact ⟨j + 1, by omega, by go_num, HF.out, HC3.out, HRR.out⟩
          case measure => simp [intOf]; omega
        · obtain rfl : j = nj := by omega
          obtain ⟨csg, rg1, rg2⟩ := hS.row
          obtain ⟨⟨u0, d0⟩, f0⟩ := cells_can rg1 (k * 4) (by omega)
          obtain ⟨⟨u1, d1⟩, f1⟩ := cells_can rg1 (k * 4 + 1) (by omega)
          obtain ⟨⟨u2, d2⟩, f2⟩ := cells_can rg1 (k * 4 + 2) (by omega)
          obtain ⟨⟨u3, d3⟩, f3⟩ := cells_can rg1 (k * 4 + 3) (by omega)
          have HF := hide ((((hS.next.inst (i := k) (x := k * 4) (by omega) (.int .u16 777)).inst (i := k) (x := k * 4 + 1) (by omega) (.int .u32 77)).inst (i := k) (x := k * 4 + 2) (by omega) (.int .u32 7777)).inst (i := k) (x := k * 4 + 3) (by omega) (.slice none 0 0))
          clear hS rg1 rg2 hr1 hr2 d3
          go_wp2_with fail
          go_roundw
          case rel => exact ⟨k + 1, by omega, by go_num, HF.out⟩
          case measure => simp [intOf]; omega
    · obtain rfl : k = n := by omega
      have HF := hide hS.out
      clear hS
      go_wp2_with fail
      go_end0
      exact ⟨rfl, HF.out⟩

end Go.Proofs.Ytcckepjpehjijaa

/-
  What an argument that is an instruction, or a slice of instructions, holds: all within their bounds, each list within the reach of memory.
-/
namespace Go.Proofs.Ytcckepjpehjijaa
open Go.ChangeShapes Go.WideShapes Go.ChangeAt Go.RowKit
set_option maxRecDepth 100000

theorem ArgInsts.cellsA : Try.prog.cellsOf 54 = 3 := by kernel_rfl
theorem ArgInsts.cells8 : Try.prog.cellsOf 5 = 1 := by kernel_rfl
theorem ArgInsts.cells32 : Try.prog.cellsOf 22 = 1 := by kernel_rfl
theorem ArgInsts.cellsS : Try.prog.cellsOf 9 = 1 := by kernel_rfl
theorem ArgInsts.bytesA : Try.prog.bytesOf 54 = 24 := by kernel_rfl
theorem ArgInsts.cells16 : Try.prog.cellsOf 52 = 1 := by kernel_rfl
theorem ArgInsts.cellsL : Try.prog.cellsOf 56 = 1 := by kernel_rfl

theorem ArgInsts.cellsI : Try.prog.cellsOf 58 = 4 := by kernel_rfl
theorem ArgInsts.bytesI : Try.prog.bytesOf 58 = 40 := by kernel_rfl

theorem weightsIn {H : Type} {P : Program} {e : TypeId} : ∀ {l : List (DataW H)} {d : DataW H}, d ∈ l → ∀ n ∈ d.weights P e, n ∈ DataW.weightsAll P e l
  | d0 :: l, d, hd, n, hn => by
    simp only [DataW.weightsAll, List.mem_append]
    rcases List.mem_cons.1 hd with rfl | h
    · exact Or.inl hn
    · exact Or.inr (weightsIn h n hn)

theorem argsV_mk {w : World} {x : Addr} {n : Nat} {f : Nat → ArgT} (h : ∀ i, i < n → w.cell? (x.add (i * 3)) = some (.int .u8 (f i).1) ∧ w.cell? (x.add (i * 3 + 1)) = some (.int .u32 (f i).2.1) ∧ w.cell? (x.add (i * 3 + 2)) = some (.string (f i).2.2)) : ArgsV w (some x) ((List.range n).map f) := by
  intro j hj
  rw [List.length_map, List.length_range] at hj
  have h0 := (h 0 (by omega)).1
  obtain ⟨b, off, spot⟩ := x
  have hs : spot = none := by simpa [Addr.add] using World.cell?_spot h0
  subst hs
  obtain ⟨h1, h2, h3⟩ := h j hj
  rw [Addr.add_lit] at h1 h2 h3
  have e : nthA ((List.range n).map f) j = f j := by simp [nthA, List.getD, hj]
  rw [e]
  exact ⟨b, off, rfl, World.block_lt_of_cell? _ _ h1, h1, by rw [Nat.add_assoc]; exact h2, by rw [Nat.add_assoc]; exact h3⟩

set_option maxHeartbeats 1000000 in
theorem open_args {H : Type} {enc : TypeId × Value → H} {w : World} {base fuel : Nat} {held : Bool} {a : Option Addr} {len cap : Nat} {d : DataW H} {ps : List MemPlace}
    (hf : DataW.trod enc Try.prog w base (fun _ => true) held fuel 56 [.slice a len cap] = some (d, ps)) (hs : ∀ n ∈ d.weights Try.prog 56, n ≤ reachBytes) :
    ∃ l : List ArgT, l.length = len ∧ ArgsV w a l ∧ ArgsOk l ∧ 24 * len ≤ 140737488351232 ∧ len ≤ cap := by
  rcases Go.Deep.open_slice Try.underlying56 hf with ⟨hcs, _⟩ | ⟨x, l, c, mm, nn, D, Pl, hcs, _, hl, hm, hmm, hx, hall⟩
  · simp at hcs
    obtain ⟨rfl, rfl, rfl⟩ := hcs
    exact ⟨[], rfl, argsV_nil, argsOk_nil, by omega, by omega⟩
  · simp at hcs
    obtain ⟨rfl, rfl, rfl⟩ := hcs
    simp only [Prod.mk.injEq] at hx
    obtain ⟨rfl, rfl⟩ := hx
    simp only [if_true] at hmm
    subst hmm
    have hs0 := hs ((((List.range len).map D).length + ((List.range (mm - len)).map fun j => D (len + j)).length) * Try.prog.bytesOf 54) (by simp [DataW.weights, Try.underlying56])
    rw [ArgInsts.bytesA] at hs0
    simp only [List.length_map, List.length_range, reachBytes] at hs0
    have key : ∀ i, i < len → ∃ r : ArgT, w.cell? (x.add (i * 3)) = some (.int .u8 r.1) ∧ w.cell? (x.add (i * 3 + 1)) = some (.int .u32 r.2.1) ∧ w.cell? (x.add (i * 3 + 2)) = some (.string r.2.2) ∧ ArgOk r := by
      intro i hi
      obtain ⟨cs, hc, ht⟩ := hall i (by omega)
      rw [ArgInsts.cellsA] at hc
      obtain ⟨_, hlen, hcell⟩ := World.cells?_some hc
      obtain ⟨xs, k, _, hxy, _, hxl, hfl⟩ := DataW.trod_struct Try.underlying54 ht
      have g0 := hfl 0 _ rfl
      have g1 := hfl 1 _ rfl
      have g2 := hfl 2 _ rfl
      match xs, hxl, cs, hlen with
      | [y0, y1, y2], _, [v0, v1, v2], _ =>
        have e0 := hcell 0 (by omega)
        have e1 := hcell 1 (by omega)
        have e2 := hcell 2 (by omega)
        rw [Go.Deep.add_add] at e0 e1 e2
        simp [ArgInsts.cells8, ArgInsts.cells32, ArgInsts.cellsS] at g0 g1 g2 e0 e1 e2
        obtain ⟨n0, q0, _, w0⟩ := DataW.trod_int Try.underlying5 g0
        obtain ⟨n1, q1, _, w1⟩ := DataW.trod_int Try.underlying22 g1
        obtain ⟨s2, q2, q3⟩ := DataW.trod_string Try.underlying9 g2
        simp at q0 q1 q2
        subst q0; subst q1; subst q2
        have b0 := bounds_u8 w0
        have b1 := bounds_u32 w1
        refine ⟨(n0, n1, s2), by simpa using e0, e1, e2, ?_⟩
        have hs2 := hs s2.size (by
          have hmem : D i ∈ (List.range len).map D := List.mem_map.2 ⟨i, List.mem_range.2 hi, rfl⟩
          simp only [DataW.weights, Try.underlying56, List.mem_cons, List.mem_append]
          refine Or.inr (Or.inl (weightsIn hmem _ ?_))
          simp only [Prod.mk.injEq] at hxy
          rw [hxy.1]
          simp only [DataW.weights, Try.underlying54]
          refine DataW.weights_mem_each (j := 2) rfl rfl _ ?_
          simp_all [DataW.weights])
        simp only [reachBytes] at hs2
        exact ⟨by simp; omega, by simp; omega, by simp; omega, by simp; omega, hs2⟩
    let f : Nat → ArgT := fun i => if h : i < len then Classical.choose (key i h) else noArg
    have hf' : ∀ i (h : i < len), f i = Classical.choose (key i h) := fun i h => dif_pos h
    refine ⟨(List.range len).map f, by simp, argsV_mk (fun i hi => ?_), fun j hj => ?_, by omega, hl⟩
    · rw [hf' i hi]
      obtain ⟨h1, h2, h3, _⟩ := Classical.choose_spec (key i hi)
      exact ⟨h1, h2, h3⟩
    · rw [List.length_map, List.length_range] at hj
      have e : nthA ((List.range len).map f) j = f j := by simp [nthA, List.getD, hj]
      rw [e, hf' j hj]
      exact (Classical.choose_spec (key j hj)).2.2.2

theorem open_inst {H : Type} {enc : TypeId × Value → H} {w : World} {b0 base : Nat} {held : Bool} {v : Value} {d : DataW H} {ps : List MemPlace}
    (hv : Value.okWide Try.prog w .any b0 58 v) (h : DataW.Trod enc Try.prog w base (fun _ => true) held 58 v d ps) (hs : ∀ n ∈ d.weights Try.prog 58, n ≤ reachBytes) :
    ∃ (x : InstT) (a : Option Addr) (n c : Nat), v = instV x a n c ∧ x.2.2.2.length = n ∧ InstOk x ∧ ArgsV w a x.2.2.2 ∧ n ≤ c := by
  obtain ⟨v0, v1, v2, v3, y0, y1, y2, y3, m, rfl, rfl, _, t0, t1, t2, t3⟩ := Go.Joins.open_agg4 Try.underlying58 (by kernel_rfl) (by kernel_rfl) hv h
  obtain ⟨n0, e0, _, w0⟩ := DataW.trod_int Try.underlying52 t0
  obtain ⟨n1, e1, _, w1⟩ := DataW.trod_int Try.underlying22 t1
  obtain ⟨n2, e2, _, w2⟩ := DataW.trod_int Try.underlying22 t2
  simp at e0 e1 e2
  subst e0; subst e1; subst e2
  have b0 := bounds_u16 w0
  have b1 := bounds_u32 w1
  have b2 := bounds_u32 w2
  obtain ⟨a, n, c, rfl⟩ : ∃ a n c, v3 = .slice a n c := by
    rcases Go.Deep.open_slice Try.underlying56 t3 with ⟨hcs, _⟩ | ⟨x, l, c, mm, nn, D, Pl, hcs, _⟩
    · simp at hcs; exact ⟨_, _, _, hcs⟩
    · simp at hcs; exact ⟨_, _, _, hcs⟩
  obtain ⟨l, hl, hv3, hok, hr, hc⟩ := open_args t3 (fun k hk => hs k (by
    simp only [DataW.weights, Try.underlying58]
    exact DataW.weights_mem_each (j := 3) rfl rfl _ hk))
  exact ⟨(n0, n1, n2, l), a, n, c, rfl, hl, ⟨by simp; omega, by simp; omega, by simp; omega, by simp; omega, by simp; omega, by simp; omega, hok, by rw [hl]; exact hr⟩, hv3, hc⟩

theorem instsV_mk {w : World} {x : Addr} {n : Nat} {f : Nat → InstT} (h : ∀ i, i < n → w.cell? (x.add (i * 4)) = some (.int .u16 (f i).1) ∧ w.cell? (x.add (i * 4 + 1)) = some (.int .u32 (f i).2.1) ∧ w.cell? (x.add (i * 4 + 2)) = some (.int .u32 (f i).2.2.1) ∧
    ∃ aj cj, w.cell? (x.add (i * 4 + 3)) = some (.slice aj (f i).2.2.2.length cj) ∧ ArgsV w aj (f i).2.2.2 ∧ (f i).2.2.2.length ≤ cj) : InstsV w (some x) ((List.range n).map f) := by
  intro j hj
  rw [List.length_map, List.length_range] at hj
  have h0 := (h 0 (by omega)).1
  obtain ⟨b, off, spot⟩ := x
  have hs : spot = none := by simpa [Addr.add] using World.cell?_spot h0
  subst hs
  obtain ⟨h1, h2, h3, aj, cj, h4, h5, h6⟩ := h j hj
  rw [Addr.add_lit] at h1 h2 h3 h4
  have e : nthI ((List.range n).map f) j = f j := by simp [nthI, List.getD, hj]
  rw [e]
  exact ⟨b, off, aj, cj, _, rfl, World.block_lt_of_cell? _ _ h1, h1, by rw [Nat.add_assoc]; exact h2, by rw [Nat.add_assoc]; exact h3, by rw [Nat.add_assoc]; exact h4, rfl, h5, h6⟩

set_option maxHeartbeats 1000000 in
theorem open_insts {H : Type} {enc : TypeId × Value → H} {w : World} {base fuel : Nat} {held : Bool} {a : Option Addr} {len cap : Nat} {d : DataW H} {ps : List MemPlace}
    (hf : DataW.trod enc Try.prog w base (fun _ => true) held fuel 23 [.slice a len cap] = some (d, ps)) (hs : ∀ n ∈ d.weights Try.prog 23, n ≤ reachBytes) :
    ∃ l : List InstT, l.length = len ∧ InstsV w a l ∧ InstsOk l ∧ 40 * len ≤ 140737488351232 ∧ len ≤ cap := by
  rcases Go.Deep.open_slice Try.underlying23 hf with ⟨hcs, _⟩ | ⟨x, l, c, mm, nn, D, Pl, hcs, _, hl, hm, hmm, hx, hall⟩
  · simp at hcs
    obtain ⟨rfl, rfl, rfl⟩ := hcs
    exact ⟨[], rfl, instsV_nil, instsOk_nil, by omega, by omega⟩
  · simp at hcs
    obtain ⟨rfl, rfl, rfl⟩ := hcs
    simp only [Prod.mk.injEq] at hx
    obtain ⟨rfl, rfl⟩ := hx
    simp only [if_true] at hmm
    subst hmm
    have hs0 := hs ((((List.range len).map D).length + ((List.range (mm - len)).map fun j => D (len + j)).length) * Try.prog.bytesOf 58) (by simp [DataW.weights, Try.underlying23])
    rw [ArgInsts.bytesI] at hs0
    simp only [List.length_map, List.length_range, reachBytes] at hs0
    have key : ∀ i, i < len → ∃ r : InstT, w.cell? (x.add (i * 4)) = some (.int .u16 r.1) ∧ w.cell? (x.add (i * 4 + 1)) = some (.int .u32 r.2.1) ∧ w.cell? (x.add (i * 4 + 2)) = some (.int .u32 r.2.2.1) ∧
        (∃ aj cj, w.cell? (x.add (i * 4 + 3)) = some (.slice aj r.2.2.2.length cj) ∧ ArgsV w aj r.2.2.2 ∧ r.2.2.2.length ≤ cj) ∧ InstOk r := by
      intro i hi
      obtain ⟨cs, hc, ht⟩ := hall i (by omega)
      rw [ArgInsts.cellsI] at hc
      obtain ⟨_, hlen, hcell⟩ := World.cells?_some hc
      obtain ⟨xs, k, _, hxy, _, hxl, hfl⟩ := DataW.trod_struct Try.underlying58 ht
      have g0 := hfl 0 _ rfl
      have g1 := hfl 1 _ rfl
      have g2 := hfl 2 _ rfl
      have g3 := hfl 3 _ rfl
      match xs, hxl, cs, hlen with
      | [y0, y1, y2, y3], _, [v0, v1, v2, v3], _ =>
        have e0 := hcell 0 (by omega)
        have e1 := hcell 1 (by omega)
        have e2 := hcell 2 (by omega)
        have e3 := hcell 3 (by omega)
        rw [Go.Deep.add_add] at e0 e1 e2 e3
        simp [ArgInsts.cells16, ArgInsts.cells32, ArgInsts.cellsL] at g0 g1 g2 g3 e0 e1 e2 e3
        obtain ⟨n0, q0, _, w0⟩ := DataW.trod_int Try.underlying52 g0
        obtain ⟨n1, q1, _, w1⟩ := DataW.trod_int Try.underlying22 g1
        obtain ⟨n2, q2, _, w2⟩ := DataW.trod_int Try.underlying22 g2
        simp at q0 q1 q2
        subst q0; subst q1; subst q2
        have b0 := bounds_u16 w0
        have b1 := bounds_u32 w1
        have b2 := bounds_u32 w2
        obtain ⟨a, n, c, rfl⟩ : ∃ a n c, v3 = .slice a n c := by
          rcases Go.Deep.open_slice Try.underlying56 g3 with ⟨hcs, _⟩ | ⟨x, l, c, mm, nn, D, Pl, hcs, _⟩
          · simp at hcs; exact ⟨_, _, _, hcs⟩
          · simp at hcs; exact ⟨_, _, _, hcs⟩
        obtain ⟨l, hl, hv3, hok, hr, hc⟩ := open_args g3 (fun k hk => hs k (by
          have hmem : D i ∈ (List.range len).map D := List.mem_map.2 ⟨i, List.mem_range.2 hi, rfl⟩
          simp only [DataW.weights, Try.underlying23, List.mem_cons, List.mem_append]
          refine Or.inr (Or.inl (weightsIn hmem _ ?_))
          simp only [Prod.mk.injEq] at hxy
          rw [hxy.1]
          simp only [DataW.weights, Try.underlying58]
          exact DataW.weights_mem_each (j := 3) rfl rfl _ hk))
        subst hl
        exact ⟨(n0, n1, n2, l), by simpa using e0, e1, e2, ⟨a, c, e3, hv3, hc⟩, by simp; omega, by simp; omega, by simp; omega, by simp; omega, by simp; omega, by simp; omega, hok, hr⟩
    let f : Nat → InstT := fun i => if h : i < len then Classical.choose (key i h) else noInst
    have hf' : ∀ i (h : i < len), f i = Classical.choose (key i h) := fun i h => dif_pos h
    refine ⟨(List.range len).map f, by simp, instsV_mk (fun i hi => ?_), fun j hj => ?_, by omega, hl⟩
    · rw [hf' i hi]
      obtain ⟨h1, h2, h3, h4, _⟩ := Classical.choose_spec (key i hi)
      exact ⟨h1, h2, h3, h4⟩
    · rw [List.length_map, List.length_range] at hj
      have e : nthI ((List.range len).map f) j = f j := by simp [nthI, List.getD, hj]
      rw [e, hf' j hj]
      exact (Classical.choose_spec (key j hj)).2.2.2.2

theorem open_module {H : Type} {enc : TypeId × Value → H} {w : World} {b0 base : Nat} {held : Bool} {v : Value} {d : DataW H} {ps : List MemPlace}
    (hv : Value.okWide Try.prog w .any b0 25 v) (h : DataW.Trod enc Try.prog w base (fun _ => true) held 25 v d ps) (hs : ∀ n ∈ d.weights Try.prog 25, n ≤ reachBytes) :
    ∃ (gen bound : Int) (a : Option Addr) (n c : Nat) (l : List InstT), v = .agg #[.int .u32 gen, .int .u32 bound, .slice a n c] ∧ 0 ≤ gen ∧ gen < 4294967296 ∧ 0 ≤ bound ∧ bound < 4294967296 ∧ l.length = n ∧ InstsV w a l ∧ InstsOk l ∧ 40 * n ≤ 140737488351232 ∧ n ≤ c := by
  obtain ⟨v0, v1, v3, y0, y1, y3, m, rfl, rfl, _, t0, t1, t3⟩ := Go.Joins.open_agg3 Try.underlying25 (by kernel_rfl) (by kernel_rfl) hv h
  obtain ⟨n0, e0, _, w0⟩ := DataW.trod_int Try.underlying22 t0
  obtain ⟨n1, e1, _, w1⟩ := DataW.trod_int Try.underlying22 t1
  simp at e0 e1
  subst e0; subst e1
  have b0 := bounds_u32 w0
  have b1 := bounds_u32 w1
  obtain ⟨a, n, c, rfl⟩ : ∃ a n c, v3 = .slice a n c := by
    rcases Go.Deep.open_slice Try.underlying23 t3 with ⟨hcs, _⟩ | ⟨x, l, c, mm, nn, D, Pl, hcs, _⟩
    · simp at hcs; exact ⟨_, _, _, hcs⟩
    · simp at hcs; exact ⟨_, _, _, hcs⟩
  obtain ⟨l, hl, hv3, hok, hr, hc⟩ := open_insts t3 (fun k hk => hs k (by
    simp only [DataW.weights, Try.underlying25]
    exact DataW.weights_mem_each (j := 2) rfl rfl _ hk))
  exact ⟨n0, n1, a, n, c, l, rfl, by omega, by omega, by omega, by omega, hl, hv3, hok, hr, hc⟩

theorem open_raw {H : Type} {enc : TypeId × Value → H} {w : World} {b0 base : Nat} {held : Bool} {v : Value} {d : DataW H} {ps : List MemPlace}
    (hv : Value.okWide Try.prog w .any b0 100 v) (h : DataW.Trod enc Try.prog w base (fun _ => true) held 100 v d ps) (hs : ∀ n ∈ d.weights Try.prog 100, n ≤ reachBytes) :
    ∃ (op : Int) (a : Option Addr) (n c : Nat) (zs : List Int), v = .agg #[.int .u16 op, .slice a n c] ∧ 0 ≤ op ∧ op < 65536 ∧ zs.length = n ∧ View .u32 w a zs ∧ Within 4294967296 zs ∧ 4 * n ≤ 140737488351232 ∧ n ≤ c := by
  obtain ⟨v0, v1, y0, y1, m, rfl, rfl, _, t0, t1⟩ := Go.Joins.open_agg2 Try.underlying100 (by kernel_rfl) (by kernel_rfl) hv h
  obtain ⟨n0, e0, _, w0⟩ := DataW.trod_int Try.underlying52 t0
  simp at e0
  subst e0
  have b0 := bounds_u16 w0
  rcases open_ints Try.underlying93 Try.underlying22 ArgInsts.cells32 t1 with ⟨hcs, _⟩ | ⟨y, l, c, zs, hcs, _, hl1, hm1, hz1, hx1, hcell, hwz⟩
  · simp at hcs
    subst hcs
    exact ⟨n0, none, 0, 0, [], rfl, by omega, by omega, rfl, view_nil, within_nil, by omega, by omega⟩
  · simp at hcs
    subst hcs
    simp only [if_true] at hz1
    have hs1 := hs (((lits (H := H) .u32 (zs.take l)).length + (lits (H := H) .u32 (zs.drop l)).length) * Try.prog.bytesOf 22) (by
      simp only [DataW.weights, Try.underlying100]
      refine DataW.weights_mem_each (j := 1) rfl rfl _ ?_
      have : y1.1 = DataW.slice (lits .u32 (zs.take l)) (lits .u32 (zs.drop l)) := by rw [hx1]
      rw [this]
      simp [DataW.weights, Try.underlying93])
    rw [show Try.prog.bytesOf 22 = 4 by kernel_rfl] at hs1
    simp only [lits, List.length_map, List.length_take, List.length_drop, reachBytes] at hs1
    have hlen : (zs.take l).length = l := by rw [List.length_take]; omega
    exact ⟨n0, some y, l, c, zs.take l, rfl, by omega, by omega, hlen, view_take hcell (by omega), within_take fun z hz => by have := bounds_u32 (hwz z hz); omega, by omega, hl1⟩

end Go.Proofs.Ytcckepjpehjijaa

/-
  LayoutCuts is true for every module.
-/
namespace Go.Proofs.Ytcckepjpehjijaa
open Go.RowKit
set_option linter.unusedVariables false
set_option linter.unusedSimpArgs false
set_option maxRecDepth 10000

set_option maxHeartbeats 16000000 in
theorem layoutCuts_of (w : World) (gen bnd : Int) (a : Option Addr) (n c : Nat) (l : List InstT) (hl : l.length = n) (hv : InstsV w a l) (hok : InstsOk l) (hn : 40 * n ≤ 140737488351232)
    (fs : List FuncT) (E1 E2 : Int) (hfw : FewF fs)
    (hRef : ∀ wx, InstsV wx a l → Calls Try.prog 6 #[.agg #[.int .u32 gen, .int .u32 bnd, .slice a n c]] wx fun e w' => ∃ fv, e = .returned (.tuple #[fv, .agg #[.int .i64 E1, .int .i64 E2]]) ∧ FuncsAt w' wx.heap.size fv fs ∧ Below wx.heap.size wx w')
    (hLay : ∀ wx g, InstsV wx (some ⟨g, 0, none⟩) l → Calls Try.prog 8 #[.agg #[.int .u32 gen, .int .u32 bnd, .slice (some ⟨g, 0, none⟩) n n]] wx fun e w' => ∃ fv, e = .returned (.tuple #[fv, .agg #[.int .i64 E1, .int .i64 E2]]) ∧ FuncsAt w' wx.heap.size fv fs ∧ Below wx.heap.size wx w') :
    Calls Try.prog 3 #[.agg #[.int .u32 gen, .int .u32 bnd, .slice a n c]] w fun e w' => e = .returned (.bool true) ∧ Below w.heap.size w w' := by
  have HCP := hide fun wx (h : InstsV wx a l) => copyModule_own gen bnd a n c l wx h hok hl hn
  have HLY := hide hLay
  have HSP := hide fun g w0 wx (h : PartO w0 g n n l) (hb : Below w0.heap.size w0 wx) => spoilModule_any gen bnd g n l w0 wx h hok hl hn hb
  have HSM := hide fun va vb wx (h1 : FuncsR wx va fs) (h2 : FuncsR wx vb fs) => sameFuncs_true va vb fs wx h1 h2 hfw
  have HFW := hide hfw
  unfold modV at *
  have HV := hide hv
  have HL := hide hl
  have hba : Below w.heap.size w (w.alloc (.cells #[.int .u32 gen, .int .u32 bnd, .slice a n c] 25)) := (Below.refl _ w).alloc (Nat.le_refl _) _
  have HM0 := hide (heap_alloc_new w (.cells #[.int .u32 gen, .int .u32 bnd, .slice a n c] 25))
  have hR := hRef _ (hv.below hba)
  have HBA := hide hba
  have HLW : Hid ((w.alloc (.cells #[.int .u32 gen, .int .u32 bnd, .slice a n c] 25)).heap.size = w.heap.size + 1) := by show _ = _; simp
  clear hv hRef hLay hba hok hl hfw
  go_enter Try.func3, Try.ntmps3
  go_wp2_with fail
  generalize w.alloc (.cells #[.int .u32 gen, .int .u32 bnd, .slice a n c] 25) = W0 at *
  refine hR.mono ?_
  rintro e w1 ⟨fv1, rfl, hF1, hb1⟩
  have HF1 := hide hF1.readV
  have hw01 := hb1.size
  have hba1 : Below w1.heap.size w1 (w1.alloc (.cells #[.int .i64 E1, .int .i64 E2] 29)) := (Below.refl _ w1).alloc (Nat.le_refl _) _
  have HBA1 := hide hba1
  have hb01 := hb1.trans (hba1.mono hb1.size)
  have HB01 := hide hb01
  have HS1 := hide (heap_alloc_new w1 (.cells #[.int .i64 E1, .int .i64 E2] 29))
  have HZ1 : Hid ((w1.alloc (.cells #[.int .i64 E1, .int .i64 E2] 29)).heap.size = w1.heap.size + 1) := by show _ = _; simp
  have q0 := (hb01.block w.heap.size (by rw [HLW.out]; omega)).trans HM0.out
  have HQ0 := hide q0
  have HBW1 := hide (HBA.out.trans (hb01.mono HBA.out.size))
  have hcp := HCP.out _ (HV.out.below HBW1.out)
  have x0 := (one_block q0).1 0
  have x1 := (one_block q0).1 1
  have x2 := (one_block q0).1 2
  rw [HLW.out] at hw01
  clear hR hb1 hba1 hb01 hF1 q0
  go_wp2_with fail
  generalize w1.alloc (.cells #[.int .i64 E1, .int .i64 E2] 29) = W1 at *
  refine hcp.mono ?_
  rintro e w2 ⟨g2, rfl, hg2, hP2, hb2⟩
  have hba2 : Below w2.heap.size w2 (w2.alloc (.cells #[.int .u32 gen, .int .u32 bnd, .slice (some ⟨g2, 0, none⟩) n n] 25)) := (Below.refl _ w2).alloc (Nat.le_refl _) _
  have HP2 := hide hP2
  have HB2 := hide (hb2.trans (hba2.mono hb2.size))
  have HBA2 := hide hba2
  have HC2 := hide (heap_alloc_new w2 (.cells #[.int .u32 gen, .int .u32 bnd, .slice (some ⟨g2, 0, none⟩) n n] 25))
  have HZ2 : Hid ((w2.alloc (.cells #[.int .u32 gen, .int .u32 bnd, .slice (some ⟨g2, 0, none⟩) n n] 25)).heap.size = w2.heap.size + 1 ∧ w1.heap.size + 1 ≤ g2 ∧ g2 < w2.heap.size) := ⟨by simp, by rw [← HZ1.out]; exact hg2, by obtain ⟨cs, r1, _⟩ := hP2.row; exact (Array.getElem?_eq_some_iff.1 r1).1⟩
  have hly := HLY.out _ g2 ((hP2.below hba2).view HL.out)
  have y0 := (one_block HC2.out).1 0
  have y1 := (one_block HC2.out).1 1
  have y2 := (one_block HC2.out).1 2
  clear hcp hb2 hba2 hP2 hg2 x0 x1 x2
  go_wp2_with fail
  generalize w2.alloc (.cells #[.int .u32 gen, .int .u32 bnd, .slice (some ⟨g2, 0, none⟩) n n] 25) = W2 at *
  refine hly.mono ?_
  rintro e w3 ⟨fv3, rfl, hF3, hb3⟩
  have hba3 : Below w3.heap.size w3 (w3.alloc (.cells #[.int .i64 E1, .int .i64 E2] 29)) := (Below.refl _ w3).alloc (Nat.le_refl _) _
  have HF3 := hide (hF3.below hba3)
  have HB3 := hide (hb3.trans (hba3.mono hb3.size))
  have HS3 := hide (heap_alloc_new w3 (.cells #[.int .i64 E1, .int .i64 E2] 29))
  have HZ3 : Hid ((w3.alloc (.cells #[.int .i64 E1, .int .i64 E2] 29)).heap.size = w3.heap.size + 1 ∧ W2.heap.size ≤ w3.heap.size) := ⟨by simp, hb3.size⟩
  have c7 := ((hb3.trans (hba3.mono hb3.size)).block w2.heap.size (by rw [HZ2.out.1]; omega)).trans HC2.out
  have hsp := HSP.out g2 w2 _ HP2.out (HBA2.out.trans ((hb3.trans (hba3.mono hb3.size)).mono HBA2.out.size))
  have y0 := (one_block c7).1 0
  have y1 := (one_block c7).1 1
  have y2 := (one_block c7).1 2
  clear hly hb3 hba3 hF3 c7
  go_wp2_with fail
  generalize w3.alloc (.cells #[.int .i64 E1, .int .i64 E2] 29) = W3 at *
  refine hsp.mono ?_
  rintro e w4 ⟨rfl, hout⟩
  have hz1 := HZ1.out
  have hz2 := HZ2.out
  have hz3 := HZ3.out
  have hs4 := hout.size
  have HOUT := hide hout
  have hF4 := HF3.out.keep5 (w' := w4) (fun k h1 h2 => hout.block k (.inr (by omega)) h2)
  have h13 := HB2.out.trans (HB3.out.mono HB2.out.size)
  have h13s := h13.size
  have hb14 : Below W1.heap.size W1 w4 := ⟨hout.os.trans h13.os, hout.tape.trans h13.tape, hout.output.trans h13.output, Nat.le_trans h13.size hs4, fun k hk => (hout.block k (.inl (by omega)) (by omega)).trans (h13.block k hk)⟩
  have HB14 := hide hb14
  have hR1 := HF1.out.below (HBA1.out.trans (hb14.mono HBA1.out.size))
  have kS := (hb14.block w1.heap.size (by omega)).trans HS1.out
  have kT := (hout.block w3.heap.size (.inr (by omega)) (by omega)).trans HS3.out
  obtain ⟨s0, s1, _⟩ := cell_of_two kS
  obtain ⟨t0, t1, _⟩ := cell_of_two kT
  have hsm := HSM.out fv3 fv1 w4 hF4.readV hR1
  have HF4 := hide hF4
  have HKS := hide kS
  have HR1 := hide hR1
  clear hsp hF4 h13 h13s hb14 hR1 kS kT hout hz1 hz2 hz3 hs4 y0 y1 y2
  go_wp2_with fail
  refine hsm.mono ?_
  rintro e w5 ⟨rfl, hb5⟩
  obtain ⟨V, hV⟩ := HF4.out.below hb5
  have hS5 := SpR.start hV
  have HB15 := hide (HB14.out.trans (hb5.mono HB14.out.size))
  have hfl := HFW.out.1
  have hlo : W1.heap.size ≤ W2.heap.size := HB2.out.size
  obtain ⟨xk, ck, hfv⟩ := own_len (hV.own none trivial)
  simp only [rowF] at hfv
  subst hfv
  clear hsm hb5 hV s0 s1 t0 t1
  generalize hm : fs.length = m at *
  have HM := hide hm
  clear hm
  go_wp2_with fail
  go_loopw [8] (fun i wr => ∃ j : Nat, j ≤ m ∧ i = .int .i64 j ∧ SpR wr W2.heap.size (.slice xk m ck) fs V ∧ Below W1.heap.size W1 wr ∧ w5.heap.size ≤ wr.heap.size) (fun i _ => m - (intOf i).toNat)
  case atStart => exact ⟨0, Nat.zero_le _, rfl, hS5, HB15.out, Nat.le_refl _⟩
  case round =>
    obtain ⟨j, hj, rfl, hS, hb, hsz⟩ := hrel
    rename World => wo
    have HB := hide hb
    have HS := hide hS
    by_cases hlt : j < m
    · have HLT := hide hlt
      have hjf : j < fs.length := by rw [HM.out]; exact hlt
      have HJF := hide hjf
      obtain ⟨F, cF, hFv, hF, hFlo, q2, q3⟩ := hS.read hjf
      obtain ⟨⟨zs, hzs, hpo⟩, _⟩ := hS.rows hjf
      injection hFv with hFv hFn hFc
      clear hFn hFc
      have hfp := (HFW.out.2 j).1
      have hfb := (HFW.out.2 j).2
      have hpi := spoilI_own (V false j) _ W2.heap.size zs wo hpo hzs (by omega)
      have hj0 : (0 : Int) ≤ (j : Int) := by omega
      have hji : (j : Int) < (m : Int) := by omega
      have HOB : Hid (∀ g, (V false j).ownBlock = some g → W2.heap.size ≤ g ∧ g < wo.heap.size) := fun g e => hpo.lt g e
      subst hFv
      clear hS hb hpo hzs hjf
      go_wp2_with fail
      refine hpi.mono ?_
      rintro e w6 ⟨rfl, hgr, cs, hcs, hcr⟩
      have HS6 := hide (HS.out.putP HJF.out hgr hcs hcr)
      have HB6 := hide (below_keep5 HB.out hlo hgr (fun g e => (HOB.out g e).1))
      have HZ6 : Hid (w5.heap.size ≤ w6.heap.size) := Nat.le_trans hsz hgr.size
      clear hpi hgr hcr hcs q2 q3 hF
      generalize hbl : (nthF fs j).2.2.2.1.length = bl at *
      have HBL := hide hbl
      clear hbl
      go_wp2_with fail
      go_loopw [9] (fun i wr => ∃ k : Nat, k ≤ bl ∧ i = .int .i64 k ∧ SpR wr W2.heap.size (.slice (some ⟨F, 0, none⟩) m ck) fs V ∧ Below W1.heap.size W1 wr ∧ w5.heap.size ≤ wr.heap.size) (fun i _ => bl - (intOf i).toNat)
      case atStart => exact ⟨0, Nat.zero_le _, rfl, HS6.out, HB6.out, HZ6.out⟩
      case round =>
        obtain ⟨k, hk, rfl, hS, hb, hsz2⟩ := hrel
        have HSk := hide hS
        have HBk := hide hb
        obtain ⟨F2, cF2, hFv2, hF2, hFlo2, q2, q3⟩ := hS.read HJF.out
        injection hFv2 with hFv2 _ _
        simp only [Option.some.injEq, Addr.mk.injEq] at hFv2
        obtain ⟨rfl, _⟩ := hFv2
        obtain ⟨_, xs, hqo⟩ := hS.rows HJF.out
        rw [HBL.out] at hqo
        by_cases hlt2 : k < bl
        · have HLT2 := hide hlt2
          have hk0 : (0 : Int) ≤ (k : Int) := by omega
          have hki : (k : Int) < (bl : Int) := by omega
          obtain ⟨gq, cq, hVq, h1, h2, h3, h4, h5⟩ := own_form hqo (by omega)
          have HVQ := hide hVq
          rw [hVq] at q3 hqo
          have hxl : xs.length = bl * 3 := hqo.1
          have z0 : wr.cell? ⟨gq, k * 3, none⟩ = some xs[k * 3] := by rw [h5 _ (by omega), List.getElem?_eq_getElem]
          have z1 : wr.cell? ⟨gq, k * 3 + 1, none⟩ = some xs[k * 3 + 1] := by rw [h5 _ (by omega), List.getElem?_eq_getElem]
          have z2 : wr.cell? ⟨gq, k * 3 + 2, none⟩ = some xs[k * 3 + 2] := by rw [h5 _ (by omega), List.getElem?_eq_getElem]
          have f0 := h4 (k * 3)
          have f1 := h4 (k * 3 + 1)
          have f2 := h4 (k * 3 + 2)
          have ho3 := own_setAt (own_setAt (own_setAt hqo (k * 3) (.int .u32 7)) (k * 3 + 1) (.int .i64 (-7))) (k * 3 + 2) (.int .i64 (-7))
          have hg3 : wr.grownBy (((wr.setCell ⟨gq, k * 3, none⟩ (.int .u32 7)).setCell ⟨gq, k * 3 + 1, none⟩ (.int .i64 (-7))).setCell ⟨gq, k * 3 + 2, none⟩ (.int .i64 (-7))) (some gq) := (grown_cell wr gq _ _).trans ((grown_cell _ gq _ _).trans (grown_cell _ gq _ _))
          have HSn := hide (HSk.out.putQ HJF.out (by rw [HVQ.out]; exact hg3) (by rw [HBL.out, HVQ.out]; exact ho3))
          have HBn := hide (below_keep5 HBk.out hlo hg3 (fun g e => by simp at e; omega))
          have HZn := hide (Nat.le_trans hsz2 hg3.size)
          generalize xs[k * 3] = u0 at *
          generalize xs[k * 3 + 1] = u1 at *
          generalize xs[k * 3 + 2] = u2 at *
          clear hS hb hqo h5 h4 ho3 hg3 hVq q2 hxl
          go_wp2_with fail
          go_roundw
          case rel => exact ⟨k + 1, by omega, by go_num, HSn.out, HBn.out, HZn.out⟩
          case measure => simp [intOf]; omega
        · obtain rfl : k = bl := by omega
          have q4 : ∃ x' c', V true j = .slice x' k c' := own_len hqo
          obtain ⟨xq, cq, hq4⟩ := q4
          rw [hq4] at q3
          clear hS hb hqo
          go_wp2_with fail
          go_roundw
          case rel => exact ⟨j + 1, by omega, by go_num, HSk.out, HBk.out, hsz2⟩
          case measure => simp [intOf]; omega
    · obtain rfl : j = m := by omega
      have q0 := (hb.block w.heap.size (by rw [HZ1.out]; omega)).trans HQ0.out
      have kS := (hb.block w1.heap.size (by rw [HZ1.out]; omega)).trans ((HS1.out))
      have HBw := hide (HBW1.out.trans (hb.mono HBW1.out.size))
      have hcp := HCP.out _ (HV.out.below HBw.out)
      have x0 := (one_block q0).1 0
      have x1 := (one_block q0).1 1
      have x2 := (one_block q0).1 2
      have HKS2 := hide kS
      clear hS q0 kS hS5
      go_wp2_with fail
      refine hcp.mono ?_
      rintro e w7 ⟨g7, rfl, hg7, hP7, hb7⟩
      have hly := HLY.out w7 g7 (hP7.view HL.out)
      have HB7 := hide (hb.trans (hb7.mono hb.size))
      clear hcp hP7 hb7 hg7 x0 x1 x2 hb
      go_wp2_with fail
      refine hly.mono ?_
      rintro e w8 ⟨fv8, rfl, hF8, hb8⟩
      have hba8 : Below w8.heap.size w8 (w8.alloc (.cells #[.int .i64 E1, .int .i64 E2] 29)) := (Below.refl _ w8).alloc (Nat.le_refl _) _
      have hb18 := (HB7.out.trans (hb8.mono HB7.out.size))
      have hb19 := hb18.trans (hba8.mono hb18.size)
      have kU := heap_alloc_new w8 (.cells #[.int .i64 E1, .int .i64 E2] 29)
      have kS := (hb19.block w1.heap.size (by rw [HZ1.out]; omega)).trans HS1.out
      obtain ⟨s0, s1, _⟩ := cell_of_two kS
      obtain ⟨u0, u1, _⟩ := cell_of_two kU
      have hsm := HSM.out fv8 fv1 _ (hF8.below hba8).readV (HF1.out.below (HBA1.out.trans (hb19.mono HBA1.out.size)))
      have HBF := hide (HBW1.out.trans (hb19.mono HBW1.out.size))
      clear hly hF8 hb8 hba8 hb18 hb19 kU kS
      go_wp2_with fail
      generalize w8.alloc (.cells #[.int .i64 E1, .int .i64 E2] 29) = W8 at *
      go_wp2_with fail
      refine hsm.mono ?_
      rintro e w9 ⟨rfl, hb9⟩
      have HB9 := hide (HBF.out.trans (hb9.mono HBF.out.size))
      clear hsm hb9
      go_wp2_with fail
      go_ret
      exact ⟨rfl, HB9.out⟩

theorem layoutCuts_true (w : World) (gen bnd : Int) (a : Option Addr) (n c : Nat) (l : List InstT) (hl : l.length = n) (hv : InstsV w a l) (hok : InstsOk l) (hn : 40 * n ≤ 140737488351232) (hc : n ≤ c) (hgb : 0 ≤ gen ∧ gen < 4294967296 ∧ 0 ≤ bnd ∧ bnd < 4294967296) :
    Calls Try.prog 3 #[.agg #[.int .u32 gen, .int .u32 bnd, .slice a n c]] w fun e w' => e = .returned (.bool true) ∧ Below w.heap.size w w' := by
  obtain ⟨g0, g1, b0, b1⟩ := hgb
  have key : ∀ (w0 w' : World) (e : Ending), CutQ w0 w' bnd l e → ∃ fv, e = .returned (.tuple #[fv, .agg #[.int .i64 (layE bnd l).1, .int .i64 ((layE bnd l).2 : Int)]]) ∧ FuncsAt w' w0.heap.size fv (if (layE bnd l).1 = 0 then cutTo l l.length else []) ∧ Below w0.heap.size w0 w' := by
    rintro w0 w' e ⟨fv, he, hb, h⟩
    refine ⟨fv, he, ?_, hb⟩
    rcases h with ⟨h1, rfl⟩ | ⟨h1, h2⟩
    · rw [if_neg h1]; exact FuncsAt.nil _ _
    · rw [if_pos h1]; exact h2
  have few : FewF (if (layE bnd l).1 = 0 then cutTo l l.length else []) := by
    by_cases h : (layE bnd l).1 = 0
    · rw [if_pos h]
      have hs : (shapeE bnd l).1 = 0 := by
        unfold layE at h
        by_cases h1 : (shapeE bnd l).1 = 0
        · exact h1
        · rw [if_pos h1] at h; exact absurd h h1
      have h20 := (shape_few hs).1
      have hsm := cutTo_small l l.length
      refine ⟨by have := hsm.1; omega, fun j => ?_⟩
      by_cases hj : j < (cutTo l l.length).length
      · have hmem : nthF (cutTo l l.length) j ∈ cutTo l l.length := by
          unfold nthF; rw [List.getD_eq_getElem?_getD, List.getElem?_eq_getElem hj]; exact List.getElem_mem hj
        have := hsm.2 _ hmem
        omega
      · have : nthF (cutTo l l.length) j = noFunc := by unfold nthF; rw [List.getD_eq_getElem?_getD, List.getElem?_eq_none (by omega)]; rfl
        rw [this]; simp [noFunc]
    · rw [if_neg h]
      refine ⟨by simp, fun j => ?_⟩
      have : nthF [] j = noFunc := by unfold nthF; simp
      rw [this]; simp [noFunc]
  refine layoutCuts_of w gen bnd a n c l hl hv hok hn _ (layE bnd l).1 ((layE bnd l).2 : Int) few (fun wx h => ?_) (fun wx g h => ?_)
  · exact (refCut5_any gen bnd a n c l wx h hok hl hn b0 b1).mono fun e w' hq => key wx w' e hq
  · exact (layCut_any gen bnd (some ⟨g, 0, none⟩) n n l wx h hok hl hn g0 g1 b0 b1).mono fun e w' hq => key wx w' e hq

end Go.Proofs.Ytcckepjpehjijaa
