/-
  Texts laid together in one: KitCopyInstO, KitCopyModule, KitCopyModuleO, KitSpoil.
-/
import Derived.WalkSpells
import Derived.BigRegion
import Derived.Deep.RegionWith
import Derived.Deep.DrawnRows
import Derived.Deep.QuietTactic
import Derived.BigQuiet
import Derived.Test.YtjjoggpddafajaaGreatProg
import Derived.Test.YtjjoggpddafajaaGreatB26
import Derived.Test.YtjjoggpddafajaaGreatB08
import Derived.WalkMore
import Derived.Test.YtjjoggpddafajaaGreatB07
/-
  CopyInst of the kit answers the instruction in new memory: a row of its own.
-/
namespace Go.Proofs.YtjjoggpddafajaaGreat
open Go.RowKit

set_option maxRecDepth 100000 in
set_option maxHeartbeats 2000000 in
theorem copyInst_own (x : InstT) (ax : Option Addr) (n cx : Nat) (w : World) (hx : ArgsV w ax x.2.2.2) (hl : x.2.2.2.length = n) (hn : 24 * n ≤ 140737488351232) :
    Calls Tryz.prog 11 #[instV x ax n cx] w fun e w' => ∃ g, e = .returned (instV x (some ⟨g, 0, none⟩) n n) ∧ w.heap.size ≤ g ∧ ArgsV w' (some ⟨g, 0, none⟩) x.2.2.2 ∧ (∃ cs : Array Value, w'.heap[g]? = some (.cells cs 48 (0, 0)) ∧ cs.size = n * 3) ∧ Below w.heap.size w w' := by
  obtain ⟨i0, hi, hz0, hz1, hz2⟩ := info_parts CopyInst.info
  obtain ⟨xo, xt, xr, xl⟩ := x
  unfold instV
  simp only at *
  have HL : Hid (xl.length = n) := hl
  clear hl
  go_enter Tryz.func11, Tryz.ntmps11
  go_wp2_with (at_make; refine wpList_make_full _ rfl _ _ 38 rfl (w.heap.size + 1) 48 i0 (.agg #[.int .u8 0, .int .u32 0, .string ⟨#[]⟩]) 3 Tryz.underlying38 hi hz0 hz1 _ _ _ _ n rfl rfl (by omega) (by omega) (by rw [hz2]; omega) (by unfold maxLen; omega) (by simp) ?_)
  intro w1 hown1 hgrow1
  have hb0 : Below w.heap.size w ((w.alloc (.cells #[.int .u16 xo, .int .u32 xt, .int .u32 xr, .slice ax n cx] 40)).alloc (.cells #[.int .u16 0, .int .u32 0, .int .u32 0, .slice none 0 0] 40)) := ((Below.refl _ w).alloc (Nat.le_refl _) _).alloc (by simp) _
  have hb1 : Below (w.heap.size + 2) ((w.alloc (.cells #[.int .u16 xo, .int .u32 xt, .int .u32 xr, .slice ax n cx] 40)).alloc (.cells #[.int .u16 0, .int .u32 0, .int .u32 0, .slice none 0 0] 40)) w1 := (Below.refl _ _).grown hgrow1 (by simp) (by simp)
  have hbox : w1.heap[w.heap.size]? = some (.cells #[.int .u16 xo, .int .u32 xt, .int .u32 xr, .slice ax n cx] 40 (0, 0)) := (hb1.block w.heap.size (by omega)).trans ((Below.heap_alloc _ _ _ (by simp)).trans (heap_alloc_new w _))
  have hres : w1.heap[w.heap.size + 1]? = some (.cells #[.int .u16 0, .int .u32 0, .int .u32 0, .slice none 0 0] 40 (0, 0)) := (hb1.block (w.heap.size + 1) (by omega)).trans (by simpa using heap_alloc_new (w.alloc (.cells #[.int .u16 xo, .int .u32 xt, .int .u32 xr, .slice ax n cx] 40)) (.cells #[.int .u16 0, .int .u32 0, .int .u32 0, .slice none 0 0] 40))
  have hP1 : PartA w1 (w.heap.size + 2) n 0 xl := by
    refine ⟨?_, fun j hj => by omega⟩
    rcases hown1.2 with ⟨h, _⟩ | ⟨g, cap', cur, h1, h2, h3, h4, h5, h6, _⟩
    · simp at h
    · simp at h1; obtain ⟨rfl, rfl⟩ := h1; exact ⟨cur, h3, h6⟩
  have hbw1 : Below w.heap.size w w1 := hb0.trans (hb1.mono (by omega))
  clear hown1 hgrow1 hb0 hb1
  go_wp2
  go_loopw [4] (fun i wr => ∃ k : Nat, k ≤ n ∧ i = .int .i64 k ∧ PartA wr (w.heap.size + 2) n k xl ∧ wr.heap[w.heap.size]? = some (.cells #[.int .u16 xo, .int .u32 xt, .int .u32 xr, .slice ax n cx] 40 (0, 0)) ∧ wr.heap[w.heap.size + 1]? = some (.cells #[.int .u16 0, .int .u32 0, .int .u32 0, .slice none 0 0] 40 (0, 0)) ∧ Below w.heap.size w wr) (fun i _ => n - (intOf i).toNat)
  case atStart => exact ⟨0, Nat.zero_le _, rfl, hP1, hbox, hres, hbw1⟩
  case round =>
    obtain ⟨k, hk, rfl, hP, hbx, hrs, hnx⟩ := hrel
    clear hP1 hbw1 hbox hres
    have hbc : wr.cell? ⟨w.heap.size, 3, none⟩ = some (.slice ax n cx) := by simp [World.cell?, hbx]
    have hsz := hnx.size
    by_cases hlt : k < n
    · obtain ⟨b, off, rfl, hbs, p1, p2, p3⟩ := hx k (by rw [HL.out]; exact hlt)
      have q1 := (hnx.cell (p := ⟨b, off + k * 3, none⟩) hbs).trans p1
      have q2 := (hnx.cell (p := ⟨b, off + k * 3 + 1, none⟩) hbs).trans p2
      have q3 := (hnx.cell (p := ⟨b, off + k * 3 + 2, none⟩) hbs).trans p3
      obtain ⟨cs, hr1, hr2⟩ := hP.row
      obtain ⟨⟨u0, d0⟩, f0⟩ := cells_can hr1 (k * 3) (by omega)
      obtain ⟨⟨u1, d1⟩, f1⟩ := cells_can hr1 (k * 3 + 1) (by omega)
      obtain ⟨⟨u2, d2⟩, f2⟩ := cells_can hr1 (k * 3 + 2) (by omega)
      have hki : (k : Int) < (n : Int) := by omega
      have hk0 : (0 : Int) ≤ (k : Int) := by omega
      have hP2 := hP.store hlt
      have HX : Hid (wr.heap[w.heap.size]? = some (.cells #[.int .u16 xo, .int .u32 xt, .int .u32 xr, .slice (some ⟨b, off, none⟩) n cx] 40 (0, 0))) := hbx
      have HP2 : Hid _ := hP2
      have HR : Hid _ := hrs
      clear hP2 hP hr1 hr2 p1 p2 p3 hx hbx hrs
      go_wp2
      go_roundw
      case rel => exact ⟨k + 1, by omega, by go_num, HP2.out, setFar3 HX.out (by omega) _ _ _ _ _ _, setFar3 HR.out (by omega) _ _ _ _ _ _, ((hnx.setCell (by show w.heap.size ≤ w.heap.size + 1 + 1; omega) _).setCell (by show w.heap.size ≤ w.heap.size + 1 + 1; omega) _).setCell (by show w.heap.size ≤ w.heap.size + 1 + 1; omega) _⟩
      case measure => simp [intOf]; omega
    · obtain rfl : k = n := by omega
      obtain ⟨hc, hf⟩ := block_cells hbx
      obtain ⟨hc', hf'⟩ := block_cells hrs
      have c0 := hc 0
      have c1 := hc 1
      have c2 := hc 2
      have r0 := hc' 0
      have r1 := hc' 1
      have r2 := hc' 2
      have r3 := hc' 3
      have hV := hP.view HL.out
      obtain ⟨csr, hrw1, hrw2⟩ := hP.row
      have HRW : Hid (wr.heap[w.heap.size + 2]? = some (.cells csr 48 (0, 0))) := hrw1
      have HRZ : Hid (csr.size = k * 3) := hrw2
      clear hrw1 hrw2
      have HV : Hid _ := hV
      have HB : Hid _ := hnx
      have HX : Hid _ := hbx
      have HR : Hid _ := hrs
      clear hP hbx hrs hc hc' hx hV hnx
      go_wp2
      have hB4 := four_set (setFar1 HR.out (show w.heap.size + 1 ≠ w.heap.size by omega) 3 (.slice (some ⟨w.heap.size + 1 + 1, 0, none⟩) k k)) (.int .u16 xo) (.int .u32 xt) (.int .u32 xr) (.slice (some ⟨w.heap.size + 1 + 1, 0, none⟩) k k)
      have hBel := (HB.out.setCell (p := ⟨w.heap.size, 3, none⟩) (Nat.le_refl _) (.slice (some ⟨w.heap.size + 1 + 1, 0, none⟩) k k)).trans ((four_below (wr.setCell ⟨w.heap.size, 3, none⟩ (.slice (some ⟨w.heap.size + 1 + 1, 0, none⟩) k k)) (w.heap.size + 1) (.int .u16 xo) (.int .u32 xt) (.int .u32 xr) (.slice (some ⟨w.heap.size + 1 + 1, 0, none⟩) k k)).mono (show w.heap.size ≤ w.heap.size + 1 by omega))
      have hV2 := args_far HV.out (show w.heap.size ≠ w.heap.size + 2 by omega) 3 (.slice (some ⟨w.heap.size + 1 + 1, 0, none⟩) k k)
      have hV3 := args_far (args_far (args_far (args_far hV2 (show w.heap.size + 1 ≠ w.heap.size + 2 by omega) 0 (.int .u16 xo)) (show w.heap.size + 1 ≠ w.heap.size + 2 by omega) 1 (.int .u32 xt)) (show w.heap.size + 1 ≠ w.heap.size + 2 by omega) 2 (.int .u32 xr)) (show w.heap.size + 1 ≠ w.heap.size + 2 by omega) 3 (.slice (some ⟨w.heap.size + 1 + 1, 0, none⟩) k k)
      have hRW3 := setFar1 (setFar1 (setFar1 (setFar1 (setFar1 HRW.out (show w.heap.size + 2 ≠ w.heap.size by omega) 3 (.slice (some ⟨w.heap.size + 1 + 1, 0, none⟩) k k)) (show w.heap.size + 2 ≠ w.heap.size + 1 by omega) 0 (.int .u16 xo)) (show w.heap.size + 2 ≠ w.heap.size + 1 by omega) 1 (.int .u32 xt)) (show w.heap.size + 2 ≠ w.heap.size + 1 by omega) 2 (.int .u32 xr)) (show w.heap.size + 2 ≠ w.heap.size + 1 by omega) 3 (.slice (some ⟨w.heap.size + 1 + 1, 0, none⟩) k k)
      clear hV2 HV HB HR HX HRW c0 c1 c2 r0 r1 r2 r3 hf hf'
      generalize ((((wr.setCell _ _).setCell _ _).setCell _ _).setCell _ _).setCell _ _ = W at hB4 hBel hV3 hRW3 ⊢
      obtain ⟨hd, _⟩ := block_cells hB4
      have d0 := hd 0
      have d1 := hd 1
      have d2 := hd 2
      have d3 := hd 3
      refine bodyPost_ret (v := .agg #[.int .u16 xo, .int .u32 xt, .int .u32 xr, .slice (some ⟨w.heap.size + 1 + 1, 0, none⟩) k k]) ?_ rfl ⟨w.heap.size + 1 + 1, rfl, by omega, hV3, ⟨csr, hRW3, HRZ.out⟩, hBel⟩
      simp [results, Tryz.results11, go_sem, d0, d1, d2, d3]

end Go.Proofs.YtjjoggpddafajaaGreat

/-
  CopyModule of the kit answers the module in new memory.
-/
namespace Go.Proofs.YtjjoggpddafajaaGreat
open Go.RowKit

theorem CopyModule.info : (Tryz.prog.info? 40).map (fun i => (i.zero, i.size, i.bytes)) = some (some (.agg #[.int .u16 0, .int .u32 0, .int .u32 0, .slice none 0 0]), 4, 40) := by kernel_rfl

/-- The first k instructions lie in the row at g, their arguments in later blocks. -/
structure PartI (w : World) (g n k : Nat) (l : List InstT) : Prop where
  row : ∃ cs : Array Value, w.heap[g]? = some (.cells cs 40 (0, 0)) ∧ cs.size = n * 4
  each : ∀ j, j < k → ∃ gj nj, w.cell? ⟨g, j * 4, none⟩ = some (.int .u16 (nthI l j).1) ∧ w.cell? ⟨g, j * 4 + 1, none⟩ = some (.int .u32 (nthI l j).2.1) ∧ w.cell? ⟨g, j * 4 + 2, none⟩ = some (.int .u32 (nthI l j).2.2.1) ∧ w.cell? ⟨g, j * 4 + 3, none⟩ = some (.slice (some ⟨gj, 0, none⟩) nj nj) ∧
    (nthI l j).2.2.2.length = nj ∧ ArgsV w (some ⟨gj, 0, none⟩) (nthI l j).2.2.2 ∧ g < gj

theorem PartI.below {w w' : World} {g n k : Nat} {l : List InstT} (h : PartI w g n k l) (hb : Below w.heap.size w w') : PartI w' g n k l := by
  obtain ⟨⟨cs, h1, h2⟩, h3⟩ := h
  have hg : g < w.heap.size := (Array.getElem?_eq_some_iff.1 h1).1
  refine ⟨⟨cs, by rw [hb.block g hg]; exact h1, h2⟩, fun j hj => ?_⟩
  obtain ⟨gj, nj, c1, c2, c3, c4, c5, c6, c7⟩ := h3 j hj
  exact ⟨gj, nj, (hb.cell (p := ⟨g, j * 4, none⟩) hg).trans c1, (hb.cell (p := ⟨g, j * 4 + 1, none⟩) hg).trans c2, (hb.cell (p := ⟨g, j * 4 + 2, none⟩) hg).trans c3, (hb.cell (p := ⟨g, j * 4 + 3, none⟩) hg).trans c4, c5, c6.below hb, c7⟩

/-- An instruction is stored. -/
theorem PartI.store {w : World} {g n k : Nat} {l : List InstT} (h : PartI w g n k l) (hk : k < n) (gk nk : Nat) (hl : (nthI l k).2.2.2.length = nk) (hv : ArgsV w (some ⟨gk, 0, none⟩) (nthI l k).2.2.2) (hg : g < gk) :
    PartI ((((w.setCell ⟨g, k * 4, none⟩ (.int .u16 (nthI l k).1)).setCell ⟨g, k * 4 + 1, none⟩ (.int .u32 (nthI l k).2.1)).setCell ⟨g, k * 4 + 2, none⟩ (.int .u32 (nthI l k).2.2.1)).setCell ⟨g, k * 4 + 3, none⟩ (.slice (some ⟨gk, 0, none⟩) nk nk)) g n (k + 1) l := by
  obtain ⟨⟨cs, h1, h2⟩, h3⟩ := h
  obtain ⟨W, hW⟩ : ∃ W, W = (((w.setCell ⟨g, k * 4, none⟩ (.int .u16 (nthI l k).1)).setCell ⟨g, k * 4 + 1, none⟩ (.int .u32 (nthI l k).2.1)).setCell ⟨g, k * 4 + 2, none⟩ (.int .u32 (nthI l k).2.2.1)).setCell ⟨g, k * 4 + 3, none⟩ (.slice (some ⟨gk, 0, none⟩) nk nk) := ⟨_, rfl⟩
  have hb : W.heap[g]? = some (.cells ((((cs.setIfInBounds (k * 4) (.int .u16 (nthI l k).1)).setIfInBounds (k * 4 + 1) (.int .u32 (nthI l k).2.1)).setIfInBounds (k * 4 + 2) (.int .u32 (nthI l k).2.2.1)).setIfInBounds (k * 4 + 3) (.slice (some ⟨gk, 0, none⟩) nk nk)) 40 (0, 0)) := by
    rw [hW]; simp [World.setCell, Array.getElem?_modify, h1]
  have cell : ∀ j, W.cell? ⟨g, j, none⟩ = ((((cs.setIfInBounds (k * 4) (.int .u16 (nthI l k).1)).setIfInBounds (k * 4 + 1) (.int .u32 (nthI l k).2.1)).setIfInBounds (k * 4 + 2) (.int .u32 (nthI l k).2.2.1)).setIfInBounds (k * 4 + 3) (.slice (some ⟨gk, 0, none⟩) nk nk))[j]? := fun j => by
    simp [World.cell?, hb]
  have old : ∀ j, w.cell? ⟨g, j, none⟩ = cs[j]? := fun j => by simp [World.cell?, h1]
  have far : ∀ gj m, g < gj → ArgsV w (some ⟨gj, 0, none⟩) m → ArgsV W (some ⟨gj, 0, none⟩) m := fun gj m hlt hm => by
    rw [hW]
    exact args_far (args_far (args_far (args_far hm (by omega) _ _) (by omega) _ _) (by omega) _ _) (by omega) _ _
  rw [← hW]
  refine ⟨⟨_, hb, by simp [h2]⟩, fun j hj => ?_⟩
  by_cases hjk : j < k
  · obtain ⟨gj, nj, c1, c2, c3, c4, c5, c6, c7⟩ := h3 j hjk
    rw [old] at c1 c2 c3 c4
    refine ⟨gj, nj, ?_, ?_, ?_, ?_, c5, far _ _ c7 c6, c7⟩
    all_goals rw [cell, Array.getElem?_setIfInBounds_ne (by omega), Array.getElem?_setIfInBounds_ne (by omega), Array.getElem?_setIfInBounds_ne (by omega), Array.getElem?_setIfInBounds_ne (by omega)]
    · exact c1
    · exact c2
    · exact c3
    · exact c4
  · obtain rfl : j = k := by omega
    refine ⟨gk, nk, ?_, ?_, ?_, ?_, hl, far _ _ hg hv, hg⟩
    · rw [cell, Array.getElem?_setIfInBounds_ne (by omega), Array.getElem?_setIfInBounds_ne (by omega), Array.getElem?_setIfInBounds_ne (by omega), Array.getElem?_setIfInBounds_self_of_lt (by omega)]
    · rw [cell, Array.getElem?_setIfInBounds_ne (by omega), Array.getElem?_setIfInBounds_ne (by omega), Array.getElem?_setIfInBounds_self_of_lt (by simp; omega)]
    · rw [cell, Array.getElem?_setIfInBounds_ne (by omega), Array.getElem?_setIfInBounds_self_of_lt (by simp; omega)]
    · rw [cell, Array.getElem?_setIfInBounds_self_of_lt (by simp; omega)]

theorem PartI.view {w : World} {g n : Nat} {l : List InstT} (h : PartI w g n n l) (hl : l.length = n) : InstsV w (some ⟨g, 0, none⟩) l := by
  intro j hj
  obtain ⟨gj, nj, c1, c2, c3, c4, c5, c6, c7⟩ := h.each j (by omega)
  exact ⟨g, 0, some ⟨gj, 0, none⟩, nj, nj, rfl, World.block_lt_of_cell? _ _ c1, by rw [Nat.zero_add]; exact c1, by rw [Nat.zero_add]; exact c2, by rw [Nat.zero_add]; exact c3, by rw [Nat.zero_add]; exact c4, c5, c6, Nat.le_refl _⟩

theorem PartI.far {w : World} {g n k : Nat} {l : List InstT} (h : PartI w g n k l) {b : Nat} (hb : b < g) (i : Nat) (v : Value) : PartI (w.setCell ⟨b, i, none⟩ v) g n k l := by
  obtain ⟨⟨cs, h1, h2⟩, h3⟩ := h
  have hx : (w.setCell ⟨b, i, none⟩ v).heap[g]? = w.heap[g]? := Below.heap_setCell _ _ _ _ (by simp; omega)
  have hc : ∀ j, (w.setCell ⟨b, i, none⟩ v).cell? ⟨g, j, none⟩ = w.cell? ⟨g, j, none⟩ := fun j => by simp only [World.cell?, hx]
  refine ⟨⟨cs, by rw [hx]; exact h1, h2⟩, fun j hj => ?_⟩
  obtain ⟨gj, nj, c1, c2, c3, c4, c5, c6, c7⟩ := h3 j hj
  exact ⟨gj, nj, by rw [hc]; exact c1, by rw [hc]; exact c2, by rw [hc]; exact c3, by rw [hc]; exact c4, c5, args_far c6 (by omega) _ _, c7⟩

theorem three_set3 {w : World} {B T : Nat} {z0 z1 z2 : Value} (h : w.heap[B]? = some (.cells #[z0, z1, z2] T (0, 0))) (u0 u1 u2 : Value) :
    (((w.setCell ⟨B, 0, none⟩ u0).setCell ⟨B, 1, none⟩ u1).setCell ⟨B, 2, none⟩ u2).heap[B]? = some (.cells #[u0, u1, u2] T (0, 0)) := by
  simp only [World.setCell, Array.getElem?_modify, h]; simp
theorem three_below3 (w : World) (B : Nat) (u0 u1 u2 : Value) : Below B w (((w.setCell ⟨B, 0, none⟩ u0).setCell ⟨B, 1, none⟩ u1).setCell ⟨B, 2, none⟩ u2) :=
  (((Below.refl B w).setCell (Nat.le_refl _) _).setCell (Nat.le_refl _) _).setCell (Nat.le_refl _) _

set_option maxRecDepth 100000 in
set_option maxHeartbeats 4000000 in
theorem copyModule_any (gen bound : Int) (ax : Option Addr) (n cx : Nat) (l : List InstT) (w : World) (hx : InstsV w ax l) (hok : InstsOk l) (hl : l.length = n) (hn : 40 * n ≤ 140737488351232) :
    Calls Tryz.prog 5 #[modV gen bound ax n cx] w fun e w' => ∃ g, e = .returned (modV gen bound (some ⟨g, 0, none⟩) n n) ∧ w.heap.size ≤ g ∧ InstsV w' (some ⟨g, 0, none⟩) l ∧ Below w.heap.size w w' := by
  obtain ⟨i0, hi, hz0, hz1, hz2⟩ := info_parts CopyModule.info
  unfold modV
  have HL : Hid (l.length = n) := hl
  clear hl
  go_enter Tryz.func5, Tryz.ntmps5
  go_wp2_with (at_make; refine wpList_make_full _ rfl _ _ 23 rfl (w.heap.size + 2) 40 i0 (.agg #[.int .u16 0, .int .u32 0, .int .u32 0, .slice none 0 0]) 4 Tryz.underlying23 hi hz0 hz1 _ _ _ _ n rfl rfl (by omega) (by omega) (by rw [hz2]; omega) (by unfold maxLen; omega) (by simp) ?_)
  intro w1 hown1 hgrow1
  have hb0 : Below w.heap.size w ((w.alloc (.cells #[.int .u32 gen, .int .u32 bound, .slice ax n cx] 25)).alloc (.cells #[.int .u32 0, .int .u32 0, .slice none 0 0] 25)) := ((Below.refl _ w).alloc (Nat.le_refl _) _).alloc (by simp) _
  have hb1 : Below (w.heap.size + 2) ((w.alloc (.cells #[.int .u32 gen, .int .u32 bound, .slice ax n cx] 25)).alloc (.cells #[.int .u32 0, .int .u32 0, .slice none 0 0] 25)) w1 := (Below.refl _ _).grown hgrow1 (by simp) (by simp)
  have hbox : w1.heap[w.heap.size]? = some (.cells #[.int .u32 gen, .int .u32 bound, .slice ax n cx] 25 (0, 0)) := (hb1.block w.heap.size (by omega)).trans ((Below.heap_alloc _ _ _ (by simp)).trans (heap_alloc_new w _))
  have hres : w1.heap[w.heap.size + 1]? = some (.cells #[.int .u32 0, .int .u32 0, .slice none 0 0] 25 (0, 0)) := (hb1.block (w.heap.size + 1) (by omega)).trans (by simpa using heap_alloc_new (w.alloc (.cells #[.int .u32 gen, .int .u32 bound, .slice ax n cx] 25)) (.cells #[.int .u32 0, .int .u32 0, .slice none 0 0] 25))
  have hP1 : PartI w1 (w.heap.size + 2) n 0 l := by
    refine ⟨?_, fun j hj => by omega⟩
    rcases hown1.2 with ⟨h, _⟩ | ⟨g, cap', cur, h1, h2, h3, h4, h5, h6, _⟩
    · simp at h
    · simp at h1; obtain ⟨rfl, rfl⟩ := h1; exact ⟨cur, h3, h6⟩
  have hbw1 : Below w.heap.size w w1 := hb0.trans (hb1.mono (by omega))
  clear hown1 hgrow1 hb0 hb1
  go_wp2
  go_loopw [4] (fun i wr => ∃ k : Nat, k ≤ n ∧ i = .int .i64 k ∧ PartI wr (w.heap.size + 2) n k l ∧ wr.heap[w.heap.size]? = some (.cells #[.int .u32 gen, .int .u32 bound, .slice ax n cx] 25 (0, 0)) ∧ wr.heap[w.heap.size + 1]? = some (.cells #[.int .u32 0, .int .u32 0, .slice none 0 0] 25 (0, 0)) ∧ Below w.heap.size w wr) (fun i _ => n - (intOf i).toNat)
  case atStart => exact ⟨0, Nat.zero_le _, rfl, hP1, hbox, hres, hbw1⟩
  case round =>
    obtain ⟨k, hk, rfl, hP, hbx, hrs, hnx⟩ := hrel
    clear hP1 hbw1 hbox hres
    have hbc : wr.cell? ⟨w.heap.size, 2, none⟩ = some (.slice ax n cx) := by simp [World.cell?, hbx]
    have hsz := hnx.size
    by_cases hlt : k < n
    · obtain ⟨b, off, aj, cj, nj, rfl, hbs, p1, p2, p3, p4, p5, p6, _⟩ := hx k (by rw [HL.out]; exact hlt)
      have q1 := (hnx.cell (p := ⟨b, off + k * 4, none⟩) hbs).trans p1
      have q2 := (hnx.cell (p := ⟨b, off + k * 4 + 1, none⟩) hbs).trans p2
      have q3 := (hnx.cell (p := ⟨b, off + k * 4 + 2, none⟩) hbs).trans p3
      have q4 := (hnx.cell (p := ⟨b, off + k * 4 + 3, none⟩) hbs).trans p4
      obtain ⟨cs, hr1, hr2⟩ := hP.row
      have hgl : w.heap.size + 1 + 1 < wr.heap.size := (Array.getElem?_eq_some_iff.1 hr1).1
      obtain ⟨⟨u0, d0⟩, f0⟩ := cells_can hr1 (k * 4) (by omega)
      obtain ⟨⟨u1, d1⟩, f1⟩ := cells_can hr1 (k * 4 + 1) (by omega)
      obtain ⟨⟨u2, d2⟩, f2⟩ := cells_can hr1 (k * 4 + 2) (by omega)
      obtain ⟨⟨u3, d3⟩, f3⟩ := cells_can hr1 (k * 4 + 3) (by omega)
      have hki : (k : Int) < (n : Int) := by omega
      have hk0 : (0 : Int) ≤ (k : Int) := by omega
      have s1 := (hok k (by rw [HL.out]; exact hlt)).2.2.2.2.2.2.2
      rw [p5] at s1
      have hC := fun wx (hb : Below wr.heap.size wr wx) => copyInst_any (nthI l k) aj nj cj wx ((p6.below hnx).below hb) p5 s1
      unfold instV at hC
      have hbs' : b < wr.heap.size := by omega
      have HX : Hid (wr.heap[w.heap.size]? = some (.cells #[.int .u32 gen, .int .u32 bound, .slice (some ⟨b, off, none⟩) n cx] 25 (0, 0))) := hbx
      have HR : Hid _ := hrs
      have HP : Hid (PartI wr (w.heap.size + 2) n k l) := hP
      have HV3 : Hid ((nthI l k).2.2.2.length = nj) := p5
      clear p1 p2 p3 p4 p5 p6 hr1 hr2 hP hx hok hbx hrs s1
      go_wp2_with fail
      refine (hC _ (Below.refl _ _)).mono ?_
      rintro e w' ⟨g', rfl, hg', hvC, hbC⟩
      have e1 := (hbC.cell (p := ⟨w.heap.size + 1 + 1, k * 4, none⟩) (by exact hgl)).trans d0
      have e2 := (hbC.cell (p := ⟨w.heap.size + 1 + 1, k * 4 + 1, none⟩) (by exact hgl)).trans d1
      have e3 := (hbC.cell (p := ⟨w.heap.size + 1 + 1, k * 4 + 2, none⟩) (by exact hgl)).trans d2
      have e4 := (hbC.cell (p := ⟨w.heap.size + 1 + 1, k * 4 + 3, none⟩) (by exact hgl)).trans d3
      have e5 := (hbC.frozen (p := ⟨w.heap.size + 1 + 1, k * 4, none⟩) (by exact hgl)).trans f0
      have e6 := (hbC.frozen (p := ⟨w.heap.size + 1 + 1, k * 4 + 1, none⟩) (by exact hgl)).trans f1
      have e7 := (hbC.frozen (p := ⟨w.heap.size + 1 + 1, k * 4 + 2, none⟩) (by exact hgl)).trans f2
      have e8 := (hbC.frozen (p := ⟨w.heap.size + 1 + 1, k * 4 + 3, none⟩) (by exact hgl)).trans f3
      have hP2 := (HP.out.below hbC).store hlt g' nj HV3.out hvC (by omega)
      have hX2 := (hbC.block w.heap.size (by omega)).trans HX.out
      have hR2 := (hbC.block (w.heap.size + 1) (by omega)).trans HR.out
      have hB2 := hnx.trans (hbC.mono hsz)
      have HP2 : Hid _ := hP2
      have HX2 : Hid _ := hX2
      have HR2 : Hid _ := hR2
      have HB2 : Hid _ := hB2
      clear hP2 hX2 hR2 hB2 hvC hbC HP HX HR d0 d1 d2 d3 f0 f1 f2 f3 hC
      go_wp2
      go_roundw
      case rel => exact ⟨k + 1, by omega, by go_num, HP2.out, setFar1 (setFar3 HX2.out (by omega) _ _ _ _ _ _) (by omega) _ _, setFar1 (setFar3 HR2.out (by omega) _ _ _ _ _ _) (by omega) _ _, (((HB2.out.setCell (by show w.heap.size ≤ w.heap.size + 1 + 1; omega) _).setCell (by show w.heap.size ≤ w.heap.size + 1 + 1; omega) _).setCell (by show w.heap.size ≤ w.heap.size + 1 + 1; omega) _).setCell (by show w.heap.size ≤ w.heap.size + 1 + 1; omega) _⟩
      case measure => simp [intOf]; omega
    · obtain rfl : k = n := by omega
      obtain ⟨hc, hf⟩ := block_cells hbx
      obtain ⟨hc', hf'⟩ := block_cells hrs
      have c0 := hc 0
      have c1 := hc 1
      have r0 := hc' 0
      have r1 := hc' 1
      have r2 := hc' 2
      have HP : Hid _ := hP
      have HB : Hid _ := hnx
      have HX : Hid _ := hbx
      have HR : Hid _ := hrs
      clear hP hbx hrs hc hc' hx hnx
      go_wp2
      have hB3 := three_set3 (setFar1 HR.out (show w.heap.size + 1 ≠ w.heap.size by omega) 2 (.slice (some ⟨w.heap.size + 1 + 1, 0, none⟩) k k)) (.int .u32 gen) (.int .u32 bound) (.slice (some ⟨w.heap.size + 1 + 1, 0, none⟩) k k)
      have hBel := (HB.out.setCell (p := ⟨w.heap.size, 2, none⟩) (Nat.le_refl _) (.slice (some ⟨w.heap.size + 1 + 1, 0, none⟩) k k)).trans ((three_below3 (wr.setCell ⟨w.heap.size, 2, none⟩ (.slice (some ⟨w.heap.size + 1 + 1, 0, none⟩) k k)) (w.heap.size + 1) (.int .u32 gen) (.int .u32 bound) (.slice (some ⟨w.heap.size + 1 + 1, 0, none⟩) k k)).mono (show w.heap.size ≤ w.heap.size + 1 by omega))
      have hV3 := (((((HP.out.far (b := w.heap.size) (by omega) 2 (.slice (some ⟨w.heap.size + 1 + 1, 0, none⟩) k k)).far (b := w.heap.size + 1) (by omega) 0 (.int .u32 gen)).far (b := w.heap.size + 1) (by omega) 1 (.int .u32 bound)).far (b := w.heap.size + 1) (by omega) 2 (.slice (some ⟨w.heap.size + 1 + 1, 0, none⟩) k k))).view HL.out
      clear HP HB HR HX c0 c1 r0 r1 r2 hf hf'
      generalize (((wr.setCell _ _).setCell _ _).setCell _ _).setCell _ _ = W at hB3 hBel hV3 ⊢
      obtain ⟨hd, _⟩ := block_cells hB3
      have d0 := hd 0
      have d1 := hd 1
      have d2 := hd 2
      refine bodyPost_ret (v := .agg #[.int .u32 gen, .int .u32 bound, .slice (some ⟨w.heap.size + 1 + 1, 0, none⟩) k k]) ?_ rfl ⟨w.heap.size + 1 + 1, rfl, by omega, hV3, hBel⟩
      simp [results, Tryz.results5, go_sem, d0, d1, d2]

end Go.Proofs.YtjjoggpddafajaaGreat

/-
  CopyModule of the kit answers the module in new memory: rows of its own.
-/
namespace Go.Proofs.YtjjoggpddafajaaGreat
open Go.RowKit

/-- The first k instructions lie in the row at g, their arguments in later blocks. -/
structure PartO (w : World) (g n k : Nat) (l : List InstT) : Prop where
  row : ∃ cs : Array Value, w.heap[g]? = some (.cells cs 40 (0, 0)) ∧ cs.size = n * 4
  each : ∀ j, j < k → ∃ gj nj, w.cell? ⟨g, j * 4, none⟩ = some (.int .u16 (nthI l j).1) ∧ w.cell? ⟨g, j * 4 + 1, none⟩ = some (.int .u32 (nthI l j).2.1) ∧ w.cell? ⟨g, j * 4 + 2, none⟩ = some (.int .u32 (nthI l j).2.2.1) ∧ w.cell? ⟨g, j * 4 + 3, none⟩ = some (.slice (some ⟨gj, 0, none⟩) nj nj) ∧
    (nthI l j).2.2.2.length = nj ∧ ArgsV w (some ⟨gj, 0, none⟩) (nthI l j).2.2.2 ∧ g < gj ∧ ∃ cs : Array Value, w.heap[gj]? = some (.cells cs 48 (0, 0)) ∧ cs.size = nj * 3

theorem PartO.below {w w' : World} {g n k : Nat} {l : List InstT} (h : PartO w g n k l) (hb : Below w.heap.size w w') : PartO w' g n k l := by
  obtain ⟨⟨cs, h1, h2⟩, h3⟩ := h
  have hg : g < w.heap.size := (Array.getElem?_eq_some_iff.1 h1).1
  refine ⟨⟨cs, by rw [hb.block g hg]; exact h1, h2⟩, fun j hj => ?_⟩
  obtain ⟨gj, nj, c1, c2, c3, c4, c5, c6, c7, cs8, k1, k2⟩ := h3 j hj
  exact ⟨gj, nj, (hb.cell (p := ⟨g, j * 4, none⟩) hg).trans c1, (hb.cell (p := ⟨g, j * 4 + 1, none⟩) hg).trans c2, (hb.cell (p := ⟨g, j * 4 + 2, none⟩) hg).trans c3, (hb.cell (p := ⟨g, j * 4 + 3, none⟩) hg).trans c4, c5, c6.below hb, c7, cs8, (hb.block gj (Array.getElem?_eq_some_iff.1 k1).1).trans k1, k2⟩

/-- An instruction is stored. -/
theorem PartO.store {w : World} {g n k : Nat} {l : List InstT} (h : PartO w g n k l) (hk : k < n) (gk nk : Nat) (hl : (nthI l k).2.2.2.length = nk) (hv : ArgsV w (some ⟨gk, 0, none⟩) (nthI l k).2.2.2) (hg : g < gk) (h8 : ∃ cs : Array Value, w.heap[gk]? = some (.cells cs 48 (0, 0)) ∧ cs.size = nk * 3) :
    PartO ((((w.setCell ⟨g, k * 4, none⟩ (.int .u16 (nthI l k).1)).setCell ⟨g, k * 4 + 1, none⟩ (.int .u32 (nthI l k).2.1)).setCell ⟨g, k * 4 + 2, none⟩ (.int .u32 (nthI l k).2.2.1)).setCell ⟨g, k * 4 + 3, none⟩ (.slice (some ⟨gk, 0, none⟩) nk nk)) g n (k + 1) l := by
  obtain ⟨⟨cs, h1, h2⟩, h3⟩ := h
  obtain ⟨W, hW⟩ : ∃ W, W = (((w.setCell ⟨g, k * 4, none⟩ (.int .u16 (nthI l k).1)).setCell ⟨g, k * 4 + 1, none⟩ (.int .u32 (nthI l k).2.1)).setCell ⟨g, k * 4 + 2, none⟩ (.int .u32 (nthI l k).2.2.1)).setCell ⟨g, k * 4 + 3, none⟩ (.slice (some ⟨gk, 0, none⟩) nk nk) := ⟨_, rfl⟩
  have hb : W.heap[g]? = some (.cells ((((cs.setIfInBounds (k * 4) (.int .u16 (nthI l k).1)).setIfInBounds (k * 4 + 1) (.int .u32 (nthI l k).2.1)).setIfInBounds (k * 4 + 2) (.int .u32 (nthI l k).2.2.1)).setIfInBounds (k * 4 + 3) (.slice (some ⟨gk, 0, none⟩) nk nk)) 40 (0, 0)) := by
    rw [hW]; simp [World.setCell, Array.getElem?_modify, h1]
  have cell : ∀ j, W.cell? ⟨g, j, none⟩ = ((((cs.setIfInBounds (k * 4) (.int .u16 (nthI l k).1)).setIfInBounds (k * 4 + 1) (.int .u32 (nthI l k).2.1)).setIfInBounds (k * 4 + 2) (.int .u32 (nthI l k).2.2.1)).setIfInBounds (k * 4 + 3) (.slice (some ⟨gk, 0, none⟩) nk nk))[j]? := fun j => by
    simp [World.cell?, hb]
  have old : ∀ j, w.cell? ⟨g, j, none⟩ = cs[j]? := fun j => by simp [World.cell?, h1]
  have far : ∀ gj m, g < gj → ArgsV w (some ⟨gj, 0, none⟩) m → ArgsV W (some ⟨gj, 0, none⟩) m := fun gj m hlt hm => by
    rw [hW]
    exact args_far (args_far (args_far (args_far hm (by omega) _ _) (by omega) _ _) (by omega) _ _) (by omega) _ _
  have far8 : ∀ gj m, g < gj → (∃ cs : Array Value, w.heap[gj]? = some (.cells cs 48 (0, 0)) ∧ cs.size = m * 3) → ∃ cs : Array Value, W.heap[gj]? = some (.cells cs 48 (0, 0)) ∧ cs.size = m * 3 := fun gj m hlt h => by
    obtain ⟨cs8, k1, k2⟩ := h
    rw [hW]
    exact ⟨cs8, setFar1 (setFar1 (setFar1 (setFar1 k1 (by omega) _ _) (by omega) _ _) (by omega) _ _) (by omega) _ _, k2⟩
  rw [← hW]
  refine ⟨⟨_, hb, by simp [h2]⟩, fun j hj => ?_⟩
  by_cases hjk : j < k
  · obtain ⟨gj, nj, c1, c2, c3, c4, c5, c6, c7, c8⟩ := h3 j hjk
    rw [old] at c1 c2 c3 c4
    refine ⟨gj, nj, ?_, ?_, ?_, ?_, c5, far _ _ c7 c6, c7, far8 _ _ c7 c8⟩
    all_goals rw [cell, Array.getElem?_setIfInBounds_ne (by omega), Array.getElem?_setIfInBounds_ne (by omega), Array.getElem?_setIfInBounds_ne (by omega), Array.getElem?_setIfInBounds_ne (by omega)]
    · exact c1
    · exact c2
    · exact c3
    · exact c4
  · obtain rfl : j = k := by omega
    refine ⟨gk, nk, ?_, ?_, ?_, ?_, hl, far _ _ hg hv, hg, far8 _ _ hg h8⟩
    · rw [cell, Array.getElem?_setIfInBounds_ne (by omega), Array.getElem?_setIfInBounds_ne (by omega), Array.getElem?_setIfInBounds_ne (by omega), Array.getElem?_setIfInBounds_self_of_lt (by omega)]
    · rw [cell, Array.getElem?_setIfInBounds_ne (by omega), Array.getElem?_setIfInBounds_ne (by omega), Array.getElem?_setIfInBounds_self_of_lt (by simp; omega)]
    · rw [cell, Array.getElem?_setIfInBounds_ne (by omega), Array.getElem?_setIfInBounds_self_of_lt (by simp; omega)]
    · rw [cell, Array.getElem?_setIfInBounds_self_of_lt (by simp; omega)]

theorem PartO.view {w : World} {g n : Nat} {l : List InstT} (h : PartO w g n n l) (hl : l.length = n) : InstsV w (some ⟨g, 0, none⟩) l := by
  intro j hj
  obtain ⟨gj, nj, c1, c2, c3, c4, c5, c6, c7, _⟩ := h.each j (by omega)
  exact ⟨g, 0, some ⟨gj, 0, none⟩, nj, nj, rfl, World.block_lt_of_cell? _ _ c1, by rw [Nat.zero_add]; exact c1, by rw [Nat.zero_add]; exact c2, by rw [Nat.zero_add]; exact c3, by rw [Nat.zero_add]; exact c4, c5, c6, Nat.le_refl _⟩

theorem PartO.far {w : World} {g n k : Nat} {l : List InstT} (h : PartO w g n k l) {b : Nat} (hb : b < g) (i : Nat) (v : Value) : PartO (w.setCell ⟨b, i, none⟩ v) g n k l := by
  obtain ⟨⟨cs, h1, h2⟩, h3⟩ := h
  have hx : (w.setCell ⟨b, i, none⟩ v).heap[g]? = w.heap[g]? := Below.heap_setCell _ _ _ _ (by simp; omega)
  have hc : ∀ j, (w.setCell ⟨b, i, none⟩ v).cell? ⟨g, j, none⟩ = w.cell? ⟨g, j, none⟩ := fun j => by simp only [World.cell?, hx]
  refine ⟨⟨cs, by rw [hx]; exact h1, h2⟩, fun j hj => ?_⟩
  obtain ⟨gj, nj, c1, c2, c3, c4, c5, c6, c7, cs8, k1, k2⟩ := h3 j hj
  exact ⟨gj, nj, by rw [hc]; exact c1, by rw [hc]; exact c2, by rw [hc]; exact c3, by rw [hc]; exact c4, c5, args_far c6 (by omega) _ _, c7, cs8, setFar1 k1 (by omega) _ _, k2⟩

theorem three_set3O {w : World} {B T : Nat} {z0 z1 z2 : Value} (h : w.heap[B]? = some (.cells #[z0, z1, z2] T (0, 0))) (u0 u1 u2 : Value) :
    (((w.setCell ⟨B, 0, none⟩ u0).setCell ⟨B, 1, none⟩ u1).setCell ⟨B, 2, none⟩ u2).heap[B]? = some (.cells #[u0, u1, u2] T (0, 0)) := by
  simp only [World.setCell, Array.getElem?_modify, h]; simp
theorem three_below3O (w : World) (B : Nat) (u0 u1 u2 : Value) : Below B w (((w.setCell ⟨B, 0, none⟩ u0).setCell ⟨B, 1, none⟩ u1).setCell ⟨B, 2, none⟩ u2) :=
  (((Below.refl B w).setCell (Nat.le_refl _) _).setCell (Nat.le_refl _) _).setCell (Nat.le_refl _) _

set_option maxRecDepth 100000 in
set_option maxHeartbeats 4000000 in
theorem copyModule_own (gen bound : Int) (ax : Option Addr) (n cx : Nat) (l : List InstT) (w : World) (hx : InstsV w ax l) (hok : InstsOk l) (hl : l.length = n) (hn : 40 * n ≤ 140737488351232) :
    Calls Tryz.prog 5 #[modV gen bound ax n cx] w fun e w' => ∃ g, e = .returned (modV gen bound (some ⟨g, 0, none⟩) n n) ∧ w.heap.size ≤ g ∧ PartO w' g n n l ∧ Below w.heap.size w w' := by
  obtain ⟨i0, hi, hz0, hz1, hz2⟩ := info_parts CopyModule.info
  unfold modV
  have HL : Hid (l.length = n) := hl
  clear hl
  go_enter Tryz.func5, Tryz.ntmps5
  go_wp2_with (at_make; refine wpList_make_full _ rfl _ _ 23 rfl (w.heap.size + 2) 40 i0 (.agg #[.int .u16 0, .int .u32 0, .int .u32 0, .slice none 0 0]) 4 Tryz.underlying23 hi hz0 hz1 _ _ _ _ n rfl rfl (by omega) (by omega) (by rw [hz2]; omega) (by unfold maxLen; omega) (by simp) ?_)
  intro w1 hown1 hgrow1
  have hb0 : Below w.heap.size w ((w.alloc (.cells #[.int .u32 gen, .int .u32 bound, .slice ax n cx] 25)).alloc (.cells #[.int .u32 0, .int .u32 0, .slice none 0 0] 25)) := ((Below.refl _ w).alloc (Nat.le_refl _) _).alloc (by simp) _
  have hb1 : Below (w.heap.size + 2) ((w.alloc (.cells #[.int .u32 gen, .int .u32 bound, .slice ax n cx] 25)).alloc (.cells #[.int .u32 0, .int .u32 0, .slice none 0 0] 25)) w1 := (Below.refl _ _).grown hgrow1 (by simp) (by simp)
  have hbox : w1.heap[w.heap.size]? = some (.cells #[.int .u32 gen, .int .u32 bound, .slice ax n cx] 25 (0, 0)) := (hb1.block w.heap.size (by omega)).trans ((Below.heap_alloc _ _ _ (by simp)).trans (heap_alloc_new w _))
  have hres : w1.heap[w.heap.size + 1]? = some (.cells #[.int .u32 0, .int .u32 0, .slice none 0 0] 25 (0, 0)) := (hb1.block (w.heap.size + 1) (by omega)).trans (by simpa using heap_alloc_new (w.alloc (.cells #[.int .u32 gen, .int .u32 bound, .slice ax n cx] 25)) (.cells #[.int .u32 0, .int .u32 0, .slice none 0 0] 25))
  have hP1 : PartO w1 (w.heap.size + 2) n 0 l := by
    refine ⟨?_, fun j hj => by omega⟩
    rcases hown1.2 with ⟨h, _⟩ | ⟨g, cap', cur, h1, h2, h3, h4, h5, h6, _⟩
    · simp at h
    · simp at h1; obtain ⟨rfl, rfl⟩ := h1; exact ⟨cur, h3, h6⟩
  have hbw1 : Below w.heap.size w w1 := hb0.trans (hb1.mono (by omega))
  clear hown1 hgrow1 hb0 hb1
  go_wp2
  go_loopw [4] (fun i wr => ∃ k : Nat, k ≤ n ∧ i = .int .i64 k ∧ PartO wr (w.heap.size + 2) n k l ∧ wr.heap[w.heap.size]? = some (.cells #[.int .u32 gen, .int .u32 bound, .slice ax n cx] 25 (0, 0)) ∧ wr.heap[w.heap.size + 1]? = some (.cells #[.int .u32 0, .int .u32 0, .slice none 0 0] 25 (0, 0)) ∧ Below w.heap.size w wr) (fun i _ => n - (intOf i).toNat)
  case atStart => exact ⟨0, Nat.zero_le _, rfl, hP1, hbox, hres, hbw1⟩
  case round =>
    obtain ⟨k, hk, rfl, hP, hbx, hrs, hnx⟩ := hrel
    clear hP1 hbw1 hbox hres
    have hbc : wr.cell? ⟨w.heap.size, 2, none⟩ = some (.slice ax n cx) := by simp [World.cell?, hbx]
    have hsz := hnx.size
    by_cases hlt : k < n
    · obtain ⟨b, off, aj, cj, nj, rfl, hbs, p1, p2, p3, p4, p5, p6, _⟩ := hx k (by rw [HL.out]; exact hlt)
      have q1 := (hnx.cell (p := ⟨b, off + k * 4, none⟩) hbs).trans p1
      have q2 := (hnx.cell (p := ⟨b, off + k * 4 + 1, none⟩) hbs).trans p2
      have q3 := (hnx.cell (p := ⟨b, off + k * 4 + 2, none⟩) hbs).trans p3
      have q4 := (hnx.cell (p := ⟨b, off + k * 4 + 3, none⟩) hbs).trans p4
      obtain ⟨cs, hr1, hr2⟩ := hP.row
      have hgl : w.heap.size + 1 + 1 < wr.heap.size := (Array.getElem?_eq_some_iff.1 hr1).1
      obtain ⟨⟨u0, d0⟩, f0⟩ := cells_can hr1 (k * 4) (by omega)
      obtain ⟨⟨u1, d1⟩, f1⟩ := cells_can hr1 (k * 4 + 1) (by omega)
      obtain ⟨⟨u2, d2⟩, f2⟩ := cells_can hr1 (k * 4 + 2) (by omega)
      obtain ⟨⟨u3, d3⟩, f3⟩ := cells_can hr1 (k * 4 + 3) (by omega)
      have hki : (k : Int) < (n : Int) := by omega
      have hk0 : (0 : Int) ≤ (k : Int) := by omega
      have s1 := (hok k (by rw [HL.out]; exact hlt)).2.2.2.2.2.2.2
      rw [p5] at s1
      have hC := fun wx (hb : Below wr.heap.size wr wx) => copyInst_own (nthI l k) aj nj cj wx ((p6.below hnx).below hb) p5 s1
      unfold instV at hC
      have hbs' : b < wr.heap.size := by omega
      have HX : Hid (wr.heap[w.heap.size]? = some (.cells #[.int .u32 gen, .int .u32 bound, .slice (some ⟨b, off, none⟩) n cx] 25 (0, 0))) := hbx
      have HR : Hid _ := hrs
      have HP : Hid (PartO wr (w.heap.size + 2) n k l) := hP
      have HV3 : Hid ((nthI l k).2.2.2.length = nj) := p5
      clear p1 p2 p3 p4 p5 p6 hr1 hr2 hP hx hok hbx hrs s1
      go_wp2_with fail
      refine (hC _ (Below.refl _ _)).mono ?_
      rintro e w' ⟨g', rfl, hg', hvC, h8C, hbC⟩
      have e1 := (hbC.cell (p := ⟨w.heap.size + 1 + 1, k * 4, none⟩) (by exact hgl)).trans d0
      have e2 := (hbC.cell (p := ⟨w.heap.size + 1 + 1, k * 4 + 1, none⟩) (by exact hgl)).trans d1
      have e3 := (hbC.cell (p := ⟨w.heap.size + 1 + 1, k * 4 + 2, none⟩) (by exact hgl)).trans d2
      have e4 := (hbC.cell (p := ⟨w.heap.size + 1 + 1, k * 4 + 3, none⟩) (by exact hgl)).trans d3
      have e5 := (hbC.frozen (p := ⟨w.heap.size + 1 + 1, k * 4, none⟩) (by exact hgl)).trans f0
      have e6 := (hbC.frozen (p := ⟨w.heap.size + 1 + 1, k * 4 + 1, none⟩) (by exact hgl)).trans f1
      have e7 := (hbC.frozen (p := ⟨w.heap.size + 1 + 1, k * 4 + 2, none⟩) (by exact hgl)).trans f2
      have e8 := (hbC.frozen (p := ⟨w.heap.size + 1 + 1, k * 4 + 3, none⟩) (by exact hgl)).trans f3
      have hP2 := (HP.out.below hbC).store hlt g' nj HV3.out hvC (by omega) h8C
      have hX2 := (hbC.block w.heap.size (by omega)).trans HX.out
      have hR2 := (hbC.block (w.heap.size + 1) (by omega)).trans HR.out
      have hB2 := hnx.trans (hbC.mono hsz)
      have HP2 : Hid _ := hP2
      have HX2 : Hid _ := hX2
      have HR2 : Hid _ := hR2
      have HB2 : Hid _ := hB2
      clear hP2 hX2 hR2 hB2 hvC h8C hbC HP HX HR d0 d1 d2 d3 f0 f1 f2 f3 hC
      go_wp2
      go_roundw
      case rel => exact ⟨k + 1, by omega, by go_num, HP2.out, setFar1 (setFar3 HX2.out (by omega) _ _ _ _ _ _) (by omega) _ _, setFar1 (setFar3 HR2.out (by omega) _ _ _ _ _ _) (by omega) _ _, (((HB2.out.setCell (by show w.heap.size ≤ w.heap.size + 1 + 1; omega) _).setCell (by show w.heap.size ≤ w.heap.size + 1 + 1; omega) _).setCell (by show w.heap.size ≤ w.heap.size + 1 + 1; omega) _).setCell (by show w.heap.size ≤ w.heap.size + 1 + 1; omega) _⟩
      case measure => simp [intOf]; omega
    · obtain rfl : k = n := by omega
      obtain ⟨hc, hf⟩ := block_cells hbx
      obtain ⟨hc', hf'⟩ := block_cells hrs
      have c0 := hc 0
      have c1 := hc 1
      have r0 := hc' 0
      have r1 := hc' 1
      have r2 := hc' 2
      have HP : Hid _ := hP
      have HB : Hid _ := hnx
      have HX : Hid _ := hbx
      have HR : Hid _ := hrs
      clear hP hbx hrs hc hc' hx hnx
      go_wp2
      have hB3 := three_set3O (setFar1 HR.out (show w.heap.size + 1 ≠ w.heap.size by omega) 2 (.slice (some ⟨w.heap.size + 1 + 1, 0, none⟩) k k)) (.int .u32 gen) (.int .u32 bound) (.slice (some ⟨w.heap.size + 1 + 1, 0, none⟩) k k)
      have hBel := (HB.out.setCell (p := ⟨w.heap.size, 2, none⟩) (Nat.le_refl _) (.slice (some ⟨w.heap.size + 1 + 1, 0, none⟩) k k)).trans ((three_below3O (wr.setCell ⟨w.heap.size, 2, none⟩ (.slice (some ⟨w.heap.size + 1 + 1, 0, none⟩) k k)) (w.heap.size + 1) (.int .u32 gen) (.int .u32 bound) (.slice (some ⟨w.heap.size + 1 + 1, 0, none⟩) k k)).mono (show w.heap.size ≤ w.heap.size + 1 by omega))
      have hV3 := (((((HP.out.far (b := w.heap.size) (by omega) 2 (.slice (some ⟨w.heap.size + 1 + 1, 0, none⟩) k k)).far (b := w.heap.size + 1) (by omega) 0 (.int .u32 gen)).far (b := w.heap.size + 1) (by omega) 1 (.int .u32 bound)).far (b := w.heap.size + 1) (by omega) 2 (.slice (some ⟨w.heap.size + 1 + 1, 0, none⟩) k k)))
      clear HP HB HR HX c0 c1 r0 r1 r2 hf hf'
      generalize (((wr.setCell _ _).setCell _ _).setCell _ _).setCell _ _ = W at hB3 hBel hV3 ⊢
      obtain ⟨hd, _⟩ := block_cells hB3
      have d0 := hd 0
      have d1 := hd 1
      have d2 := hd 2
      refine bodyPost_ret (v := .agg #[.int .u32 gen, .int .u32 bound, .slice (some ⟨w.heap.size + 1 + 1, 0, none⟩) k k]) ?_ rfl ⟨w.heap.size + 1 + 1, rfl, by omega, hV3, hBel⟩
      simp [results, Tryz.results5, go_sem, d0, d1, d2]

end Go.Proofs.YtjjoggpddafajaaGreat

/-
  Spoil of the kit writes over a copy of a module, and over nothing else.
-/
namespace Go.Proofs.YtjjoggpddafajaaGreat
open Go.RowKit
set_option linter.unusedVariables false
set_option linter.unusedSimpArgs false
set_option maxRecDepth 10000

/-- Nothing turns but blocks from g up to S. -/
structure Outside (g S : Nat) (w w' : World) : Prop where
  os : w'.os = w.os
  tape : w'.tape = w.tape
  output : w'.output = w.output
  size : w.heap.size ≤ w'.heap.size
  block : ∀ k, (k < g ∨ S ≤ k) → k < w.heap.size → w'.heap[k]? = w.heap[k]?
theorem Outside.set {g S : Nat} {w w' : World} (h : Outside g S w w') {b : Nat} (h1 : g ≤ b) (h2 : b < S) (i : Nat) (v : Value) : Outside g S w (w'.setCell ⟨b, i, none⟩ v) :=
  ⟨h.os, h.tape, h.output, by rw [World.size_setCell]; exact h.size, fun k hk hl => (Below.heap_setCell _ _ _ _ (by simp; omega)).trans (h.block k hk hl)⟩

/-- While a copy is written over: from its i-th instruction on it still leads to its arguments. -/
structure SpI (w : World) (S g n i B : Nat) (gen bnd : Int) (wr : World) : Prop where
  row : ∃ cs : Array Value, wr.heap[g]? = some (.cells cs 40 (0, 0)) ∧ cs.size = n * 4
  each : ∀ j, i ≤ j → j < n → ∃ gj nj, wr.cell? ⟨g, j * 4 + 3, none⟩ = some (.slice (some ⟨gj, 0, none⟩) nj nj) ∧ g < gj ∧ gj < S ∧ nj ≤ 140737488351232 ∧ ∃ cs : Array Value, wr.heap[gj]? = some (.cells cs 48 (0, 0)) ∧ cs.size = nj * 3
  box : wr.heap[B]? = some (.cells #[.int .u32 gen, .int .u32 bnd, .slice (some ⟨g, 0, none⟩) n n] 25 (0, 0))
  out : Outside g S w wr
  far : S ≤ B ∧ g < S
theorem SpI.next {w wr : World} {S g n i B : Nat} {gen bnd : Int} (h : SpI w S g n i B gen bnd wr) : SpI w S g n (i + 1) B gen bnd wr := ⟨h.row, fun j hj hn => h.each j (by omega) hn, h.box, h.out, h.far⟩
theorem SpI.arg {w wr : World} {S g n i B : Nat} {gen bnd : Int} (h : SpI w S g n i B gen bnd wr) {b : Nat} (h1 : g < b) (h2 : b < S) (x : Nat) (v : Value) : SpI w S g n i B gen bnd (wr.setCell ⟨b, x, none⟩ v) := by
  have hf := h.far
  have hc : ∀ y, (wr.setCell ⟨b, x, none⟩ v).cell? ⟨g, y, none⟩ = wr.cell? ⟨g, y, none⟩ := fun y => by simp only [World.cell?, Below.heap_setCell wr ⟨b, x, none⟩ v g (by simp; omega)]
  obtain ⟨cs, r1, r2⟩ := h.row
  refine ⟨⟨cs, (Below.heap_setCell _ _ _ _ (by simp; omega)).trans r1, r2⟩, fun j hj hn => ?_, (Below.heap_setCell _ _ _ _ (by simp; omega)).trans h.box, h.out.set (by omega) h2 x v, hf⟩
  obtain ⟨gj, nj, e1, e2, e3, e4, cs, k1, k2⟩ := h.each j hj hn
  by_cases e : gj = b
  · subst e
    exact ⟨gj, nj, by rw [hc]; exact e1, e2, e3, e4, cs.setIfInBounds x v, by simp [World.setCell, Array.getElem?_modify, k1], by simp [k2]⟩
  · exact ⟨gj, nj, by rw [hc]; exact e1, e2, e3, e4, cs, (Below.heap_setCell _ _ _ _ (by simpa using e)).trans k1, k2⟩
theorem SpI.inst {w wr : World} {S g n i B : Nat} {gen bnd : Int} (h : SpI w S g n (i + 1) B gen bnd wr) {x : Nat} (hx : x < (i + 1) * 4) (v : Value) : SpI w S g n (i + 1) B gen bnd (wr.setCell ⟨g, x, none⟩ v) := by
  have hf := h.far
  obtain ⟨cs, r1, r2⟩ := h.row
  have hb : (wr.setCell ⟨g, x, none⟩ v).heap[g]? = some (.cells (cs.setIfInBounds x v) 40 (0, 0)) := by simp [World.setCell, Array.getElem?_modify, r1]
  refine ⟨⟨_, hb, by simp [r2]⟩, fun j hj hn => ?_, (Below.heap_setCell _ _ _ _ (by simp; omega)).trans h.box, h.out.set (Nat.le_refl _) hf.2 x v, hf⟩
  obtain ⟨gj, nj, e1, e2, e3, e4, cs', k1, k2⟩ := h.each j hj hn
  refine ⟨gj, nj, ?_, e2, e3, e4, cs', (Below.heap_setCell _ _ _ _ (by simp; omega)).trans k1, k2⟩
  simp only [World.cell?, hb, r1] at e1 ⊢
  rw [Array.getElem?_setIfInBounds_ne (by omega)]
  exact e1

set_option maxHeartbeats 8000000 in
theorem spoilModule_any (gen bnd : Int) (g n : Nat) (l : List InstT) (w0 w : World) (hP : PartO w0 g n n l) (hok : InstsOk l) (hl : l.length = n) (hn : 40 * n ≤ 140737488351232) (hb : Below w0.heap.size w0 w) :
    Calls Tryz.prog 8 #[modV gen bnd (some ⟨g, 0, none⟩) n n] w fun e w' => e = .returned (.tuple #[]) ∧ Outside g w0.heap.size w w' := by
  have HN : Hid (40 * n ≤ 140737488351232) := hn
  have hba : Below w.heap.size w (w.alloc (.cells #[.int .u32 gen, .int .u32 bnd, .slice (some ⟨g, 0, none⟩) n n] 25)) := (Below.refl _ w).alloc (Nat.le_refl _) _
  have hS0 : SpI w w0.heap.size g n 0 w.heap.size gen bnd (w.alloc (.cells #[.int .u32 gen, .int .u32 bnd, .slice (some ⟨g, 0, none⟩) n n] 25)) := by
    have hbb := hb.trans (hba.mono hb.size)
    obtain ⟨cs, r1, r2⟩ := hP.row
    have hg : g < w0.heap.size := (Array.getElem?_eq_some_iff.1 r1).1
    refine ⟨⟨cs, (hbb.block g hg).trans r1, r2⟩, fun j _ hj => ?_, heap_alloc_new _ _, ⟨hba.os, hba.tape, hba.output, hba.size, fun k _ hk => hba.block k hk⟩, hb.size, hg⟩
    obtain ⟨gj, nj, c1, c2, c3, c4, c5, c6, c7, cs8, k1, k2⟩ := hP.each j hj
    have hgj := (Array.getElem?_eq_some_iff.1 k1).1
    have hz := (hok j (by omega)).2.2.2.2.2.2.2
    exact ⟨gj, nj, (hbb.cell (p := ⟨g, j * 4 + 3, none⟩) hg).trans c4, c7, hgj, by omega, cs8, (hbb.block gj hgj).trans k1, k2⟩
  have HS0 := hide hS0
  unfold modV
  generalize w0.heap.size = S at *
  clear hP hok hl hn hb hba hS0
  go_enter Tryz.func8, Tryz.ntmps8
  go_wp2_with fail
  generalize w.alloc (.cells #[.int .u32 gen, .int .u32 bnd, .slice (some ⟨g, 0, none⟩) n n] 25) = W0 at *
  go_loopw [2] (fun i wr => ∃ k : Nat, k ≤ n ∧ i = .int .i64 k ∧ SpI w S g n k w.heap.size gen bnd wr) (fun i _ => n - (intOf i).toNat)
  case atStart => exact ⟨0, Nat.zero_le _, rfl, HS0.out⟩
  case round =>
    obtain ⟨k, hk, rfl, hS⟩ := hrel
    clear HS0
    have hkb : (k : Int) < 140737488351232 := by have := HN.out; omega
    have m2 := (block_cells hS.box).1 2
    by_cases hlt : k < n
    · have hki : (k : Int) < (n : Int) := by omega
      have hk0 : (0 : Int) ≤ (k : Int) := by omega
      obtain ⟨gj, nj, e1, e2, e3, e4, e5⟩ := hS.each k (Nat.le_refl _) hlt
      have HE1 := hide (And.intro e1 e5)
      clear e5
      have HS := hide hS
      clear hS
      go_wp2_with fail
      clear m2 e1
      go_loopw [3] (fun i wr => ∃ j : Nat, j ≤ nj ∧ i = .int .i64 j ∧ SpI w S g n k w.heap.size gen bnd wr ∧ wr.cell? ⟨g, k * 4 + 3, none⟩ = some (.slice (some ⟨gj, 0, none⟩) nj nj) ∧ ∃ cs : Array Value, wr.heap[gj]? = some (.cells cs 48 (0, 0)) ∧ cs.size = nj * 3) (fun i _ => nj - (intOf i).toNat)
      case atStart => exact ⟨0, Nat.zero_le _, rfl, HS.out, HE1.out.1, HE1.out.2⟩
      case round =>
        obtain ⟨j, hj, rfl, hS, c3, cs, hr1, hr2⟩ := hrel
        clear HS
        have m2 := (block_cells hS.box).1 2
        have hj0 : (0 : Int) ≤ (j : Int) := by omega
        by_cases hjl : j < nj
        · have hji : (j : Int) < (nj : Int) := by omega
          obtain ⟨⟨u0, d0⟩, f0⟩ := cells_can hr1 (j * 3) (by omega)
          obtain ⟨⟨u1, d1⟩, f1⟩ := cells_can hr1 (j * 3 + 1) (by omega)
          obtain ⟨⟨u2, d2⟩, f2⟩ := cells_can hr1 (j * 3 + 2) (by omega)
          have HF := hide (((hS.arg e2 e3 (j * 3) (.int .u8 77)).arg e2 e3 (j * 3 + 1) (.int .u32 777)).arg e2 e3 (j * 3 + 2) (.string ⟨#[115, 112, 111, 105, 108, 116]⟩))
          have HC3 : Hid ((((wr.setCell ⟨gj, j * 3, none⟩ (.int .u8 77)).setCell ⟨gj, j * 3 + 1, none⟩ (.int .u32 777)).setCell ⟨gj, j * 3 + 2, none⟩ (.string ⟨#[115, 112, 111, 105, 108, 116]⟩)).cell? ⟨g, k * 4 + 3, none⟩ = some (.slice (some ⟨gj, 0, none⟩) nj nj)) := by
            show _ = _
            simp only [World.cell?] at c3 ⊢
            rw [Below.heap_setCell _ _ _ _ (by simp; omega), Below.heap_setCell _ _ _ _ (by simp; omega), Below.heap_setCell _ _ _ _ (by simp; omega)]
            exact c3
          have HRR : Hid (∃ cs : Array Value, (((wr.setCell ⟨gj, j * 3, none⟩ (.int .u8 77)).setCell ⟨gj, j * 3 + 1, none⟩ (.int .u32 777)).setCell ⟨gj, j * 3 + 2, none⟩ (.string ⟨#[115, 112, 111, 105, 108, 116]⟩)).heap[gj]? = some (.cells cs 48 (0, 0)) ∧ cs.size = nj * 3) := ⟨((cs.setIfInBounds (j * 3) (.int .u8 77)).setIfInBounds (j * 3 + 1) (.int .u32 777)).setIfInBounds (j * 3 + 2) (.string ⟨#[115, 112, 111, 105, 108, 116]⟩), by simp [World.setCell, Array.getElem?_modify, hr1], by simp [hr2]⟩
          clear hS hr1 hr2
          go_wp2_with fail
          go_roundw
          case rel => exact ⟨j + 1, by omega, by go_num, HF.out, HC3.out, HRR.out⟩
          case measure => simp [intOf]; omega
        · obtain rfl : j = nj := by omega
          obtain ⟨csg, rg1, rg2⟩ := hS.row
          obtain ⟨⟨u0, d0⟩, f0⟩ := cells_can rg1 (k * 4) (by omega)
          obtain ⟨⟨u1, d1⟩, f1⟩ := cells_can rg1 (k * 4 + 1) (by omega)
          obtain ⟨⟨u2, d2⟩, f2⟩ := cells_can rg1 (k * 4 + 2) (by omega)
          obtain ⟨⟨u3, d3⟩, f3⟩ := cells_can rg1 (k * 4 + 3) (by omega)
          have HF := hide ((((hS.next.inst (i := k) (x := k * 4) (by omega) (.int .u16 777)).inst (i := k) (x := k * 4 + 1) (by omega) (.int .u32 77)).inst (i := k) (x := k * 4 + 2) (by omega) (.int .u32 7777)).inst (i := k) (x := k * 4 + 3) (by omega) (.slice none 0 0))
          clear hS rg1 rg2 hr1 hr2 d3
          go_wp2_with fail
          go_roundw
          case rel => exact ⟨k + 1, by omega, by go_num, HF.out⟩
          case measure => simp [intOf]; omega
    · obtain rfl : k = n := by omega
      have HF := hide hS.out
      clear hS
      go_wp2_with fail
      go_end0
      exact ⟨rfl, HF.out⟩

end Go.Proofs.YtjjoggpddafajaaGreat
