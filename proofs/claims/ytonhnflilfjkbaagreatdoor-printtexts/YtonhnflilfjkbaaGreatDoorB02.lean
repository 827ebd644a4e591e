/-
  Texts laid together in one: KitCopyModule, Draw, DrawE, DrawAppend, Rdr, Raws, Ref02Wrong, Ref02Ends, Ref02At, Ref02Fault, Ref02Size, Ref02Places, MathRead, Ref02Read, Ref02Write, Ref02Find, KitWords, Law02Raws, KitSpoilWords.
-/
import Derived.WalkSpells
import Derived.BigRegion
import Derived.Deep.RegionWith
import Derived.Deep.DrawnRows
import Derived.Test.YtonhnflilfjkbaaGreatDoorB01
import Derived.OrdersIn
import Derived.RangeFuncNested
import Derived.Deep.AppendLies
import Derived.Maps.AppendAt
import Derived.Maps.Range
import Derived.OneCell
import Derived.Test.YtonhnflilfjkbaaGreatDoorProg
import Derived.Deep.RegionLaw
import Derived.Deep.QuietTactic
import Derived.BigQuiet
/-
  CopyModule of the kit answers the module in new memory.
-/
namespace Go.Proofs.YtonhnflilfjkbaaGreatDoor
open Go.RowKit

theorem CopyModule.info : (Tryz.prog.info? 38).map (fun i => (i.zero, i.size, i.bytes)) = some (some (.agg #[.int .u16 0, .int .u32 0, .int .u32 0, .slice none 0 0]), 4, 40) := by kernel_rfl

/-- The first k instructions lie in the row at g, their arguments in later blocks. -/
structure PartI (w : World) (g n k : Nat) (l : List InstT) : Prop where
  row : ∃ cs : Array Value, w.heap[g]? = some (.cells cs 38 (0, 0)) ∧ cs.size = n * 4
  each : ∀ j, j < k → ∃ gj nj, w.cell? ⟨g, j * 4, none⟩ = some (.int .u16 (nthI l j).1) ∧ w.cell? ⟨g, j * 4 + 1, none⟩ = some (.int .u32 (nthI l j).2.1) ∧ w.cell? ⟨g, j * 4 + 2, none⟩ = some (.int .u32 (nthI l j).2.2.1) ∧ w.cell? ⟨g, j * 4 + 3, none⟩ = some (.slice (some ⟨gj, 0, none⟩) nj nj) ∧
    (nthI l j).2.2.2.length = nj ∧ ArgsV w (some ⟨gj, 0, none⟩) (nthI l j).2.2.2 ∧ g < gj

theorem PartI.below {w w' : World} {g n k : Nat} {l : List InstT} (h : PartI w g n k l) (hb : Below w.heap.size w w') : PartI w' g n k l := by
  obtain ⟨⟨cs, h1, h2⟩, h3⟩ := h
  have hg : g < w.heap.size := (Array.getElem?_eq_some_iff.1 h1).1
  refine ⟨⟨cs, by rw [hb.block g hg]; exact h1, h2⟩, fun j hj => ?_⟩
  obtain ⟨gj, nj, c1, c2, c3, c4, c5, c6, c7⟩ := h3 j hj
  exact ⟨gj, nj, (hb.cell (p := ⟨g, j * 4, none⟩) hg).trans c1, (hb.cell (p := ⟨g, j * 4 + 1, none⟩) hg).trans c2, (hb.cell (p := ⟨g, j * 4 + 2, none⟩) hg).trans c3, (hb.cell (p := ⟨g, j * 4 + 3, none⟩) hg).trans c4, c5, c6.below hb, c7⟩

/-- An instruction is stored. -/
theorem PartI.store {w : World} {g n k : Nat} {l : List InstT} (h : PartI w g n k l) (hk : k < n) (gk nk : Nat) (hl : (nthI l k).2.2.2.length = nk) (hv : ArgsV w (some ⟨gk, 0, none⟩) (nthI l k).2.2.2) (hg : g < gk) :
    PartI ((((w.setCell ⟨g, k * 4, none⟩ (.int .u16 (nthI l k).1)).setCell ⟨g, k * 4 + 1, none⟩ (.int .u32 (nthI l k).2.1)).setCell ⟨g, k * 4 + 2, none⟩ (.int .u32 (nthI l k).2.2.1)).setCell ⟨g, k * 4 + 3, none⟩ (.slice (some ⟨gk, 0, none⟩) nk nk)) g n (k + 1) l := by
  obtain ⟨⟨cs, h1, h2⟩, h3⟩ := h
  obtain ⟨W, hW⟩ : ∃ W, W = (((w.setCell ⟨g, k * 4, none⟩ (.int .u16 (nthI l k).1)).setCell ⟨g, k * 4 + 1, none⟩ (.int .u32 (nthI l k).2.1)).setCell ⟨g, k * 4 + 2, none⟩ (.int .u32 (nthI l k).2.2.1)).setCell ⟨g, k * 4 + 3, none⟩ (.slice (some ⟨gk, 0, none⟩) nk nk) := ⟨_, rfl⟩
  have hb : W.heap[g]? = some (.cells ((((cs.setIfInBounds (k * 4) (.int .u16 (nthI l k).1)).setIfInBounds (k * 4 + 1) (.int .u32 (nthI l k).2.1)).setIfInBounds (k * 4 + 2) (.int .u32 (nthI l k).2.2.1)).setIfInBounds (k * 4 + 3) (.slice (some ⟨gk, 0, none⟩) nk nk)) 38 (0, 0)) := by
    rw [hW]; simp [World.setCell, Array.getElem?_modify, h1]
  have cell : ∀ j, W.cell? ⟨g, j, none⟩ = ((((cs.setIfInBounds (k * 4) (.int .u16 (nthI l k).1)).setIfInBounds (k * 4 + 1) (.int .u32 (nthI l k).2.1)).setIfInBounds (k * 4 + 2) (.int .u32 (nthI l k).2.2.1)).setIfInBounds (k * 4 + 3) (.slice (some ⟨gk, 0, none⟩) nk nk))[j]? := fun j => by
    simp [World.cell?, hb]
  have old : ∀ j, w.cell? ⟨g, j, none⟩ = cs[j]? := fun j => by simp [World.cell?, h1]
  have far : ∀ gj m, g < gj → ArgsV w (some ⟨gj, 0, none⟩) m → ArgsV W (some ⟨gj, 0, none⟩) m := fun gj m hlt hm => by
    rw [hW]
    exact args_far (args_far (args_far (args_far hm (by omega) _ _) (by omega) _ _) (by omega) _ _) (by omega) _ _
  rw [← hW]
  refine ⟨⟨_, hb, by simp [h2]⟩, fun j hj => ?_⟩
  by_cases hjk : j < k
  · obtain ⟨gj, nj, c1, c2, c3, c4, c5, c6, c7⟩ := h3 j hjk
    rw [old] at c1 c2 c3 c4
    refine ⟨gj, nj, ?_, ?_, ?_, ?_, c5, far _ _ c7 c6, c7⟩
    all_goals rw [cell, Array.getElem?_setIfInBounds_ne (by omega), Array.getElem?_setIfInBounds_ne (by omega), Array.getElem?_setIfInBounds_ne (by omega), Array.getElem?_setIfInBounds_ne (by omega)]
    · exact c1
    · exact c2
    · exact c3
    · exact c4
  · obtain rfl : j = k := by omega
    refine ⟨gk, nk, ?_, ?_, ?_, ?_, hl, far _ _ hg hv, hg⟩
    · rw [cell, Array.getElem?_setIfInBounds_ne (by omega), Array.getElem?_setIfInBounds_ne (by omega), Array.getElem?_setIfInBounds_ne (by omega), Array.getElem?_setIfInBounds_self_of_lt (by omega)]
    · rw [cell, Array.getElem?_setIfInBounds_ne (by omega), Array.getElem?_setIfInBounds_ne (by omega), Array.getElem?_setIfInBounds_self_of_lt (by simp; omega)]
    · rw [cell, Array.getElem?_setIfInBounds_ne (by omega), Array.getElem?_setIfInBounds_self_of_lt (by simp; omega)]
    · rw [cell, Array.getElem?_setIfInBounds_self_of_lt (by simp; omega)]

theorem PartI.view {w : World} {g n : Nat} {l : List InstT} (h : PartI w g n n l) (hl : l.length = n) : InstsV w (some ⟨g, 0, none⟩) l := by
  intro j hj
  obtain ⟨gj, nj, c1, c2, c3, c4, c5, c6, c7⟩ := h.each j (by omega)
  exact ⟨g, 0, some ⟨gj, 0, none⟩, nj, nj, rfl, World.block_lt_of_cell? _ _ c1, by rw [Nat.zero_add]; exact c1, by rw [Nat.zero_add]; exact c2, by rw [Nat.zero_add]; exact c3, by rw [Nat.zero_add]; exact c4, c5, c6, Nat.le_refl _⟩

theorem PartI.far {w : World} {g n k : Nat} {l : List InstT} (h : PartI w g n k l) {b : Nat} (hb : b < g) (i : Nat) (v : Value) : PartI (w.setCell ⟨b, i, none⟩ v) g n k l := by
  obtain ⟨⟨cs, h1, h2⟩, h3⟩ := h
  have hx : (w.setCell ⟨b, i, none⟩ v).heap[g]? = w.heap[g]? := Below.heap_setCell _ _ _ _ (by simp; omega)
  have hc : ∀ j, (w.setCell ⟨b, i, none⟩ v).cell? ⟨g, j, none⟩ = w.cell? ⟨g, j, none⟩ := fun j => by simp only [World.cell?, hx]
  refine ⟨⟨cs, by rw [hx]; exact h1, h2⟩, fun j hj => ?_⟩
  obtain ⟨gj, nj, c1, c2, c3, c4, c5, c6, c7⟩ := h3 j hj
  exact ⟨gj, nj, by rw [hc]; exact c1, by rw [hc]; exact c2, by rw [hc]; exact c3, by rw [hc]; exact c4, c5, args_far c6 (by omega) _ _, c7⟩

theorem three_set3 {w : World} {B T : Nat} {z0 z1 z2 : Value} (h : w.heap[B]? = some (.cells #[z0, z1, z2] T (0, 0))) (u0 u1 u2 : Value) :
    (((w.setCell ⟨B, 0, none⟩ u0).setCell ⟨B, 1, none⟩ u1).setCell ⟨B, 2, none⟩ u2).heap[B]? = some (.cells #[u0, u1, u2] T (0, 0)) := by
  simp only [World.setCell, Array.getElem?_modify, h]; simp
theorem three_below3 (w : World) (B : Nat) (u0 u1 u2 : Value) : Below B w (((w.setCell ⟨B, 0, none⟩ u0).setCell ⟨B, 1, none⟩ u1).setCell ⟨B, 2, none⟩ u2) :=
  (((Below.refl B w).setCell (Nat.le_refl _) _).setCell (Nat.le_refl _) _).setCell (Nat.le_refl _) _

set_option maxRecDepth 100000 in
set_option maxHeartbeats 4000000 in
theorem copyModule_any (gen bound : Int) (ax : Option Addr) (n cx : Nat) (l : List InstT) (w : World) (hx : InstsV w ax l) (hok : InstsOk l) (hl : l.length = n) (hn : 40 * n ≤ 140737488351232) :
    Calls Tryz.prog 7 #[modV gen bound ax n cx] w fun e w' => ∃ g, e = .returned (modV gen bound (some ⟨g, 0, none⟩) n n) ∧ w.heap.size ≤ g ∧ InstsV w' (some ⟨g, 0, none⟩) l ∧ Below w.heap.size w w' := by
  obtain ⟨i0, hi, hz0, hz1, hz2⟩ := info_parts CopyModule.info
  unfold modV
  have HL : Hid (l.length = n) := hl
  clear hl
  go_enter Tryz.func7, Tryz.ntmps7
  go_wp2_with (at_make; refine wpList_make_full _ rfl _ _ 23 rfl (w.heap.size + 2) 38 i0 (.agg #[.int .u16 0, .int .u32 0, .int .u32 0, .slice none 0 0]) 4 Tryz.underlying23 hi hz0 hz1 _ _ _ _ n rfl rfl (by omega) (by omega) (by rw [hz2]; omega) (by unfold maxLen; omega) (by simp) ?_)
  intro w1 hown1 hgrow1
  have hb0 : Below w.heap.size w ((w.alloc (.cells #[.int .u32 gen, .int .u32 bound, .slice ax n cx] 25)).alloc (.cells #[.int .u32 0, .int .u32 0, .slice none 0 0] 25)) := ((Below.refl _ w).alloc (Nat.le_refl _) _).alloc (by simp) _
  have hb1 : Below (w.heap.size + 2) ((w.alloc (.cells #[.int .u32 gen, .int .u32 bound, .slice ax n cx] 25)).alloc (.cells #[.int .u32 0, .int .u32 0, .slice none 0 0] 25)) w1 := (Below.refl _ _).grown hgrow1 (by simp) (by simp)
  have hbox : w1.heap[w.heap.size]? = some (.cells #[.int .u32 gen, .int .u32 bound, .slice ax n cx] 25 (0, 0)) := (hb1.block w.heap.size (by omega)).trans ((Below.heap_alloc _ _ _ (by simp)).trans (heap_alloc_new w _))
  have hres : w1.heap[w.heap.size + 1]? = some (.cells #[.int .u32 0, .int .u32 0, .slice none 0 0] 25 (0, 0)) := (hb1.block (w.heap.size + 1) (by omega)).trans (by simpa using heap_alloc_new (w.alloc (.cells #[.int .u32 gen, .int .u32 bound, .slice ax n cx] 25)) (.cells #[.int .u32 0, .int .u32 0, .slice none 0 0] 25))
  have hP1 : PartI w1 (w.heap.size + 2) n 0 l := by
    refine ⟨?_, fun j hj => by omega⟩
    rcases hown1.2 with ⟨h, _⟩ | ⟨g, cap', cur, h1, h2, h3, h4, h5, h6, _⟩
    · simp at h
    · simp at h1; obtain ⟨rfl, rfl⟩ := h1; exact ⟨cur, h3, h6⟩
  have hbw1 : Below w.heap.size w w1 := hb0.trans (hb1.mono (by omega))
  clear hown1 hgrow1 hb0 hb1
  go_wp2
  go_loopw [4] (fun i wr => ∃ k : Nat, k ≤ n ∧ i = .int .i64 k ∧ PartI wr (w.heap.size + 2) n k l ∧ wr.heap[w.heap.size]? = some (.cells #[.int .u32 gen, .int .u32 bound, .slice ax n cx] 25 (0, 0)) ∧ wr.heap[w.heap.size + 1]? = some (.cells #[.int .u32 0, .int .u32 0, .slice none 0 0] 25 (0, 0)) ∧ Below w.heap.size w wr) (fun i _ => n - (intOf i).toNat)
  case atStart => exact ⟨0, Nat.zero_le _, rfl, hP1, hbox, hres, hbw1⟩
  case round =>
    obtain ⟨k, hk, rfl, hP, hbx, hrs, hnx⟩ := hrel
    clear hP1 hbw1 hbox hres
    have hbc : wr.cell? ⟨w.heap.size, 2, none⟩ = some (.slice ax n cx) := by simp [World.cell?, hbx]
    have hsz := hnx.size
    by_cases hlt : k < n
    · obtain ⟨b, off, aj, cj, nj, rfl, hbs, p1, p2, p3, p4, p5, p6, _⟩ := hx k (by rw [HL.out]; exact hlt)
      have q1 := (hnx.cell (p := ⟨b, off + k * 4, none⟩) hbs).trans p1
      have q2 := (hnx.cell (p := ⟨b, off + k * 4 + 1, none⟩) hbs).trans p2
      have q3 := (hnx.cell (p := ⟨b, off + k * 4 + 2, none⟩) hbs).trans p3
      have q4 := (hnx.cell (p := ⟨b, off + k * 4 + 3, none⟩) hbs).trans p4
      obtain ⟨cs, hr1, hr2⟩ := hP.row
      have hgl : w.heap.size + 1 + 1 < wr.heap.size := (Array.getElem?_eq_some_iff.1 hr1).1
      obtain ⟨⟨u0, d0⟩, f0⟩ := cells_can hr1 (k * 4) (by omega)
      obtain ⟨⟨u1, d1⟩, f1⟩ := cells_can hr1 (k * 4 + 1) (by omega)
      obtain ⟨⟨u2, d2⟩, f2⟩ := cells_can hr1 (k * 4 + 2) (by omega)
      obtain ⟨⟨u3, d3⟩, f3⟩ := cells_can hr1 (k * 4 + 3) (by omega)
      have hki : (k : Int) < (n : Int) := by omega
      have hk0 : (0 : Int) ≤ (k : Int) := by omega
      have s1 := (hok k (by rw [HL.out]; exact hlt)).2.2.2.2.2.2.2
      rw [p5] at s1
      have hC := fun wx (hb : Below wr.heap.size wr wx) => copyInst_any (nthI l k) aj nj cj wx ((p6.below hnx).below hb) p5 s1
      unfold instV at hC
      have hbs' : b < wr.heap.size := by omega
      have HX : Hid (wr.heap[w.heap.size]? = some (.cells #[.int .u32 gen, .int .u32 bound, .slice (some ⟨b, off, none⟩) n cx] 25 (0, 0))) := hbx
      have HR : Hid _ := hrs
      have HP : Hid (PartI wr (w.heap.size + 2) n k l) := hP
      have HV3 : Hid ((nthI l k).2.2.2.length = nj) := p5
      clear p1 p2 p3 p4 p5 p6 hr1 hr2 hP hx hok hbx hrs s1
      go_wp2_with fail
      refine (hC _ (Below.refl _ _)).mono ?_
      rintro e w' ⟨g', rfl, hg', hvC, hbC⟩
      have e1 := (hbC.cell (p := ⟨w.heap.size + 1 + 1, k * 4, none⟩) (by exact hgl)).trans d0
      have e2 := (hbC.cell (p := ⟨w.heap.size + 1 + 1, k * 4 + 1, none⟩) (by exact hgl)).trans d1
      have e3 := (hbC.cell (p := ⟨w.heap.size + 1 + 1, k * 4 + 2, none⟩) (by exact hgl)).trans d2
      have e4 := (hbC.cell (p := ⟨w.heap.size + 1 + 1, k * 4 + 3, none⟩) (by exact hgl)).trans d3
      have e5 := (hbC.frozen (p := ⟨w.heap.size + 1 + 1, k * 4, none⟩) (by exact hgl)).trans f0
      have e6 := (hbC.frozen (p := ⟨w.heap.size + 1 + 1, k * 4 + 1, none⟩) (by exact hgl)).trans f1
      have e7 := (hbC.frozen (p := ⟨w.heap.size + 1 + 1, k * 4 + 2, none⟩) (by exact hgl)).trans f2
      have e8 := (hbC.frozen (p := ⟨w.heap.size + 1 + 1, k * 4 + 3, none⟩) (by exact hgl)).trans f3
      have hP2 := (HP.out.below hbC).store hlt g' nj HV3.out hvC (by omega)
      have hX2 := (hbC.block w.heap.size (by omega)).trans HX.out
      have hR2 := (hbC.block (w.heap.size + 1) (by omega)).trans HR.out
      have hB2 := hnx.trans (hbC.mono hsz)
      have HP2 : Hid _ := hP2
      have HX2 : Hid _ := hX2
      have HR2 : Hid _ := hR2
      have HB2 : Hid _ := hB2
      clear hP2 hX2 hR2 hB2 hvC hbC HP HX HR d0 d1 d2 d3 f0 f1 f2 f3 hC
      go_wp2
      go_roundw
      case rel => exact ⟨k + 1, by omega, by go_num, HP2.out, setFar1 (setFar3 HX2.out (by omega) _ _ _ _ _ _) (by omega) _ _, setFar1 (setFar3 HR2.out (by omega) _ _ _ _ _ _) (by omega) _ _, (((HB2.out.setCell (by show w.heap.size ≤ w.heap.size + 1 + 1; omega) _).setCell (by show w.heap.size ≤ w.heap.size + 1 + 1; omega) _).setCell (by show w.heap.size ≤ w.heap.size + 1 + 1; omega) _).setCell (by show w.heap.size ≤ w.heap.size + 1 + 1; omega) _⟩
      case measure => simp [intOf]; omega
    · obtain rfl : k = n := by omega
      obtain ⟨hc, hf⟩ := block_cells hbx
      obtain ⟨hc', hf'⟩ := block_cells hrs
      have c0 := hc 0
      have c1 := hc 1
      have r0 := hc' 0
      have r1 := hc' 1
      have r2 := hc' 2
      have HP : Hid _ := hP
      have HB : Hid _ := hnx
      have HX : Hid _ := hbx
      have HR : Hid _ := hrs
      clear hP hbx hrs hc hc' hx hnx
      go_wp2
      have hB3 := three_set3 (setFar1 HR.out (show w.heap.size + 1 ≠ w.heap.size by omega) 2 (.slice (some ⟨w.heap.size + 1 + 1, 0, none⟩) k k)) (.int .u32 gen) (.int .u32 bound) (.slice (some ⟨w.heap.size + 1 + 1, 0, none⟩) k k)
      have hBel := (HB.out.setCell (p := ⟨w.heap.size, 2, none⟩) (Nat.le_refl _) (.slice (some ⟨w.heap.size + 1 + 1, 0, none⟩) k k)).trans ((three_below3 (wr.setCell ⟨w.heap.size, 2, none⟩ (.slice (some ⟨w.heap.size + 1 + 1, 0, none⟩) k k)) (w.heap.size + 1) (.int .u32 gen) (.int .u32 bound) (.slice (some ⟨w.heap.size + 1 + 1, 0, none⟩) k k)).mono (show w.heap.size ≤ w.heap.size + 1 by omega))
      have hV3 := (((((HP.out.far (b := w.heap.size) (by omega) 2 (.slice (some ⟨w.heap.size + 1 + 1, 0, none⟩) k k)).far (b := w.heap.size + 1) (by omega) 0 (.int .u32 gen)).far (b := w.heap.size + 1) (by omega) 1 (.int .u32 bound)).far (b := w.heap.size + 1) (by omega) 2 (.slice (some ⟨w.heap.size + 1 + 1, 0, none⟩) k k))).view HL.out
      clear HP HB HR HX c0 c1 r0 r1 r2 hf hf'
      generalize (((wr.setCell _ _).setCell _ _).setCell _ _).setCell _ _ = W at hB3 hBel hV3 ⊢
      obtain ⟨hd, _⟩ := block_cells hB3
      have d0 := hd 0
      have d1 := hd 1
      have d2 := hd 2
      refine bodyPost_ret (v := .agg #[.int .u32 gen, .int .u32 bound, .slice (some ⟨w.heap.size + 1 + 1, 0, none⟩) k k]) ?_ rfl ⟨w.heap.size + 1 + 1, rfl, by omega, hV3, hBel⟩
      simp [results, Tryz.results7, go_sem, d0, d1, d2]

end Go.Proofs.YtonhnflilfjkbaaGreatDoor

/-
  A region that draws its order, in a round or out of one: an operation that yields the same in every world of a class that no operation of the region leaves may be taken first.
-/
namespace Go.Proofs.YtonhnflilfjkbaaGreatDoor
open Go.RowKit
set_option linter.unusedVariables false

section
variable {F : Fence} {n : Nat} {P : Program} {md : Region.Mode} {ops : Array Oper} {C : World → Prop} {Q : Exit → Act → World → Prop}

/-- As wpAnyIn, and each operation leaves a world of the class. -/
def wpAnyC (F : Fence) (n : Nat) (P : Program) (md : Region.Mode) (ops : Array Oper) (C : World → Prop) (Q : Exit → Act → World → Prop) : Nat → Array Bool → Act → World → Prop
  | 0, listed, a, w => Region.ready md ops listed = [] ∧ Q .normal a w
  | fuel + 1, listed, a, w => (Region.ready md ops listed = [] → Q .normal a w) ∧ ∀ i ∈ Region.ready md ops listed, wpOpIn F n P ops Q i (fun a' w' => C w' ∧ wpAnyC F n P md ops C Q fuel (listed.setIfInBounds i true) a' w') a w

/-- In every world of the class it yields v. -/
def YieldsC (P : Program) (ops : Array Oper) (C : World → Prop) (o : Oper) (v : Value) (a : Act) : Prop :=
  (Region.wanted o (yielded ops a.tmps) = true ∧ ∀ w, C w → (execOp a.eval o).run P w = .ok (.value v) w) ∨ (Region.wanted o (yielded ops a.tmps) = false ∧ v = undef)

theorem YieldsC.op {i : Nat} {o : Oper} {v : Value} {a : Act} (hF : ∀ f, F.fn f) (hnd : ∀ c, o.op ≠ .defer c) (hi : ops[i]? = some o) (hy : YieldsC P ops C o v a) {K : Act → World → Prop} {w : World} (hC : C w) (h : K (a.put o.dst v) w) : wpOpIn F n P ops Q i K a w := by
  unfold wpOpIn
  simp only [hi]
  rcases hy with ⟨hw, hv⟩ | ⟨hw, rfl⟩
  · rw [if_pos hw]
    exact ⟨fun f _ => hF f, by rw [Oper.semAt_eq _ _ _ hnd, hv w hC]; exact h⟩
  · rw [if_neg (by rw [hw]; simp)]
    exact ⟨fun f _ => hF f, h⟩

/-- What another operation does hangs not on what the one has yielded. -/
theorem opIn_put {j : Nat} {oi oj : Oper} {v : Value} (hF : ∀ f, F.fn f) (hnd : ∀ c, oj.op ≠ .defer c) (hj : ops[j]? = some oj) (hap : oi.apart ops oj = true) (hsj : ∀ cs b, oj.op ≠ .select cs b)
    (hQ : ∀ c a w, Q (.panic c) (a.put oi.dst v) w → Q (.panic c) a w) {K : Act → World → Prop} {a : Act} {w : World} (h : wpOpIn F n P ops Q j K (a.put oi.dst v) w) :
    wpOpIn F n P ops Q j (fun a' w' => (∃ ds u, a' = ({ a with defers := ds } : Act).put oj.dst u) ∧ K (a'.put oi.dst v) w') a w := by
  obtain ⟨h1, h2, _⟩ := Oper.apart_spec hap
  unfold wpOpIn at *
  simp only [hj] at *
  rw [wanted_put oj a oi.dst v h1] at h
  have here : ∀ u w', K ((a.put oi.dst v).put oj.dst u) w' → (∃ ds u', a.put oj.dst u = ({ a with defers := ds } : Act).put oj.dst u') ∧ K ((a.put oj.dst u).put oi.dst v) w' := fun u w' hk => ⟨⟨a.defers, u, rfl⟩, by rw [← Act.put_comm a v u h2]; exact hk⟩
  by_cases hw : Region.wanted oj (yielded ops a.tmps) = true
  · rw [if_pos hw] at h ⊢
    obtain ⟨_, h⟩ := h
    refine ⟨fun f _ => hF f, ?_⟩
    rw [Oper.semAt_eq _ _ _ hnd, execOp_put oj hsj a oi.dst v h1] at h
    rw [Oper.semAt_eq _ _ _ hnd]
    generalize (execOp a.eval oj).run P w = r at *
    cases r with
    | ok x w' =>
      cases x <;> simp only [Oper.uponIn] at h ⊢
      case value u => exact here u _ h
      case skip => exact here _ _ h
      case defer d =>
        refine ⟨⟨d :: a.defers, undef, rfl⟩, ?_⟩
        rw [← Act.put_comm _ v undef h2, ← Act.put_defers]
        exact h
      case enter f args =>
        refine ⟨h.1, CallsIn.mono h.2 fun e w'' he => ?_⟩
        cases e with
        | returned u => exact here u _ he
        | panicked c => exact hQ _ _ _ he
        | outgrown => exact he
      case row row args => exact ⟨h.1, RowsIn.mono h.2 fun u w'' he => here u _ he⟩
      case round l f tmps assign body =>
        refine ⟨h.1, RoundIn.mono h.2 fun e w'' he => ?_⟩
        cases e with
        | returned u => exact here u _ he
        | panicked c => exact hQ _ _ _ he
        | outgrown => exact he
    | halt x w' =>
      cases x <;> simp only [Oper.uponIn] at h ⊢
      case panic u => exact hQ _ _ _ h
  · rw [if_neg hw] at h ⊢
    exact ⟨fun f _ => hF f, here _ _ h.2⟩

theorem YieldsC.put {oi oj : Oper} {v u : Value} {a : Act} {ds : List Deferred} (hy : YieldsC P ops C oi v a) (hap : oi.apart ops oj = true) (hsi : ∀ cs b, oi.op ≠ .select cs b) : YieldsC P ops C oi v (({ a with defers := ds } : Act).put oj.dst u) := by
  obtain ⟨_, _, h3⟩ := Oper.apart_spec hap
  have e1 : execOp (({ a with defers := ds } : Act).put oj.dst u).eval oi = execOp a.eval oi := (execOp_put oi hsi { a with defers := ds } oj.dst u h3).trans rfl
  have e2 : Region.wanted oi (yielded ops (({ a with defers := ds } : Act).put oj.dst u).tmps) = Region.wanted oi (yielded ops a.tmps) := (wanted_put oi { a with defers := ds } oj.dst u h3).trans rfl
  unfold YieldsC
  rw [e1, e2]
  exact hy

/-- No operation of it is a defer. -/
def noDefer (ops : Array Oper) : Bool := ops.all fun o => match o.op with | .defer _ => false | _ => true
theorem noDefer_spec (h : noDefer ops = true) (j : Nat) (o : Oper) (hj : ops[j]? = some o) (c : Call) : o.op ≠ .defer c := fun e => by
  obtain ⟨hlt, hk⟩ := Array.getElem?_eq_some_iff.1 hj
  have := (Array.all_eq_true.1 h) j hlt
  rw [hk, e] at this
  cases this

/-- The operations that may come up, one by one. -/
def AllC (F : Fence) (n : Nat) (P : Program) (md : Region.Mode) (ops : Array Oper) (C : World → Prop) (Q : Exit → Act → World → Prop) (fuel : Nat) (listed : Array Bool) (a : Act) (w : World) (rs : List Nat) : Prop :=
  ∀ i ∈ rs, wpOpIn F n P ops Q i (fun a' w' => C w' ∧ wpAnyC F n P md ops C Q fuel (listed.setIfInBounds i true) a' w') a w
theorem AllC.nil {fuel : Nat} {listed : Array Bool} {a : Act} {w : World} : AllC F n P md ops C Q fuel listed a w [] := fun _ h => by cases h
theorem AllC.cons {fuel : Nat} {listed : Array Bool} {a : Act} {w : World} {i : Nat} {o : Oper} {rs : List Nat} (ho : ops[i]? = some o)
    (h : ∀ K' : Act → World → Prop, (∀ a w, C w → wpAnyC F n P md ops C Q fuel (listed.setIfInBounds i true) a w → K' a w) → if Region.wanted o (yielded ops a.tmps) = true then Oper.wpIn F n P o a w K' Q else (∀ f, o.about P w a.eval = some f → F.fn f) ∧ K' (a.put o.dst undef) w)
    (hs : AllC F n P md ops C Q fuel listed a w rs) : AllC F n P md ops C Q fuel listed a w (i :: rs) := fun j hj => by
  rcases List.mem_cons.1 hj with rfl | hj
  · exact wpOpIn_step ho (fun K' hK => h K' (fun a w hC hw => hK a w ⟨hC, hw⟩))
  · exact hs j hj
end

end Go.Proofs.YtonhnflilfjkbaaGreatDoor

/-
  As Draw, where some operations of the region (those of E) may leave the class: each of them waits for every operation that is taken first.
-/
namespace Go.Proofs.YtonhnflilfjkbaaGreatDoor
open Go.RowKit
set_option linter.unusedVariables false

section
variable {F : Fence} {n : Nat} {P : Program} {md : Region.Mode} {ops : Array Oper} {C : World → Prop} {E : Nat → Bool} {Q : Exit → Act → World → Prop}

/-- As wpAnyIn, and each operation leaves a world of the class. -/
def wpAnyE (F : Fence) (n : Nat) (P : Program) (md : Region.Mode) (ops : Array Oper) (C : World → Prop) (E : Nat → Bool) (Q : Exit → Act → World → Prop) : Nat → Array Bool → Act → World → Prop
  | 0, listed, a, w => Region.ready md ops listed = [] ∧ Q .normal a w
  | fuel + 1, listed, a, w => (Region.ready md ops listed = [] → Q .normal a w) ∧ ∀ i ∈ Region.ready md ops listed, wpOpIn F n P ops Q i (fun a' w' => (E i = true ∨ C w') ∧ wpAnyE F n P md ops C E Q fuel (listed.setIfInBounds i true) a' w') a w

theorem wpAnyE_sound : ∀ (fuel : Nat) (listed : Array Bool) (a : Act) (w : World), wpAnyE F n P md ops C E Q fuel listed a w → wpAnyIn F n P md ops Q fuel listed a w
  | 0, _, _, _, h => h
  | fuel + 1, listed, a, w, h => ⟨h.1, fun i hi => wpOpIn_mono (fun a' w' h' => wpAnyE_sound fuel _ a' w' h'.2) (h.2 i hi)⟩

theorem wpAnyE_done {listed : Array Bool} {a : Act} {w : World} (hr : Region.ready md ops listed = []) (h : Q .normal a w) : ∀ fuel, wpAnyE F n P md ops C E Q fuel listed a w
  | 0 => ⟨hr, h⟩
  | _ + 1 => ⟨fun _ => h, by rw [hr]; simp⟩

/-- An operation that may leave the class waits for i. -/
def waits (md : Region.Mode) (ops : Array Oper) (E : Nat → Bool) (i : Nat) : Bool := (List.range ops.size).all fun j => !E j || j == i || (match ops[j]? with | some o => o.after.any fun e => Region.binds md e && e.on == i | none => true)
theorem waits_spec {i : Nat} (h : waits md ops E i = true) {j : Nat} {oj : Oper} (hj : ops[j]? = some oj) (hE : E j = true) (hji : j ≠ i) : ∃ e ∈ oj.after, Region.binds md e = true ∧ e.on = i := by
  have hlt := (Array.getElem?_eq_some_iff.1 hj).1
  have := List.all_eq_true.1 h j (List.mem_range.2 hlt)
  simp only [hE, Bool.not_true, Bool.false_or, hj, Bool.or_eq_true, beq_iff_eq, hji, false_or] at this
  obtain ⟨e, he, h2⟩ := Array.any_eq_true'.1 this
  simp only [Bool.and_eq_true, beq_iff_eq] at h2
  exact ⟨e, he, h2.1, h2.2⟩

theorem wpAnyE_first {i : Nat} {oi : Oper} {v : Value} (hF : ∀ f, F.fn f) (hnd : ∀ (j : Nat) (o : Oper), ops[j]? = some o → ∀ c, o.op ≠ .defer c) (hi : ops[i]? = some oi) (hsel : ∀ (j : Nat) (o : Oper) cs b, ops[j]? = some o → o.op ≠ .select cs b)
    (hQ : ∀ c a w, Q (.panic c) (a.put oi.dst v) w → Q (.panic c) a w) (hE : waits md ops E i = true) : ∀ (fuel : Nat) (listed : Array Bool) (a : Act) (w : World),
      (∀ j oj, ops[j]? = some oj → j ≠ i → listed.getD j true = false → (∀ e ∈ oj.after, Region.binds md e = true → e.on ≠ i) → oi.apart ops oj = true) →
      i ∈ Region.ready md ops listed → YieldsC P ops C oi v a → C w → wpAnyE F n P md ops C E Q fuel (listed.setIfInBounds i true) (a.put oi.dst v) w → wpAnyE F n P md ops C E Q (fuel + 1) listed a w := by
  intro fuel
  induction fuel with
  | zero =>
    intro listed a w _ hr hy hC H
    refine ⟨fun h => (by rw [h] at hr; cases hr), fun j hj => ?_⟩
    by_cases hji : j = i
    · subst hji; exact hy.op hF (hnd j oi hi) hi hC ⟨.inr hC, H⟩
    · have := ready_mono hj hji
      rw [H.1] at this
      cases this
  | succ fuel ih =>
    intro listed a w hfree hr hy hC H
    refine ⟨fun h => (by rw [h] at hr; cases hr), fun j hj => ?_⟩
    by_cases hji : j = i
    · subst hji; exact hy.op hF (hnd j oi hi) hi hC ⟨.inr hC, H⟩
    · obtain ⟨hjun, oj, hoj, hall⟩ := mem_ready.1 hj
      have hnot : ∀ e ∈ oj.after, Region.binds md e = true → e.on ≠ i := fun e he hb heq => by
        have h1 := hall e he hb
        have h0 := (mem_ready.1 hr).1
        rw [heq] at h1
        rcases Nat.lt_or_ge i listed.size with h' | h'
        · simp [h'] at h0 h1; rw [h0] at h1; cases h1
        · simp [Array.getElem?_eq_none h'] at h1
      have hap := hfree j oj hoj hji hjun hnot
      have h2 := opIn_put hF (hnd j oj hoj) hoj hap (fun cs b => hsel j oj cs b hoj) hQ (H.2 j (ready_mono hj hji))
      refine wpOpIn_mono (fun a' w' h3 => ?_) h2
      obtain ⟨⟨ds, u, rfl⟩, hC0, h4⟩ := h3
      have hC' : C w' := by
        rcases hC0 with hEj | hC'
        · obtain ⟨e, he, hb, hon⟩ := waits_spec hE hoj hEj hji
          exact absurd hon (hnot e he hb)
        · exact hC'
      refine ⟨.inr hC', ih (listed.setIfInBounds j true) _ w' (fun k ok hk hki hun hno => hfree k ok hk hki ?_ hno) (ready_mono hr (Ne.symm hji)) (hy.put hap (fun cs b => hsel i oi cs b hi)) hC' ?_⟩
      · by_cases hjk : j = k
        · subst hjk; exact hjun
        · rw [getD_set_ne true hjk] at hun; exact hun
      · rw [Array.setIfInBounds_comm _ _ hji]
        exact h4

theorem wpAnyE_take {i : Nat} {oi : Oper} {v : Value} {fuel : Nat} {listed : Array Bool} {a : Act} {w : World} (hF : ∀ f, F.fn f) (hnd : noDefer ops = true) (hi : ops[i]? = some oi) (hs : Region.noSelect ops = true) (hf : Region.free md ops listed i = true) (hr : (Region.ready md ops listed).contains i = true)
    (hE : waits md ops E i = true) (hQ : ∀ c a w, Q (.panic c) (a.put oi.dst v) w → Q (.panic c) a w) (hC : C w) (hy : YieldsC P ops C oi v a) (h : wpAnyE F n P md ops C E Q fuel (listed.setIfInBounds i true) (a.put oi.dst v) w) : wpAnyE F n P md ops C E Q (fuel + 1) listed a w :=
  wpAnyE_first hF (noDefer_spec hnd) hi (Region.noSelect_spec hs) hQ hE fuel listed a w (Region.free_spec hi hf) (by simpa using hr) hy hC h

/-- The same, with the temporary named. -/
theorem wpAnyE_takeD {i : Nat} {oi : Oper} (d : Option Tmp) {v : Value} {fuel : Nat} {listed : Array Bool} {a : Act} {w : World} (hF : ∀ f, F.fn f) (hnd : noDefer ops = true) (hi : ops[i]? = some oi) (hd : oi.dst = d) (hs : Region.noSelect ops = true) (hf : Region.free md ops listed i = true) (hr : (Region.ready md ops listed).contains i = true)
    (hE : waits md ops E i = true) (hQ : ∀ c a w, Q (.panic c) (a.put d v) w → Q (.panic c) a w) (hC : C w) (hy : YieldsC P ops C oi v a) (h : wpAnyE F n P md ops C E Q fuel (listed.setIfInBounds i true) (a.put d v) w) : wpAnyE F n P md ops C E Q (fuel + 1) listed a w := by
  subst hd
  exact wpAnyE_take hF hnd hi hs hf hr hE hQ hC hy h

/-- The operations that may come up, one by one. -/
def AllE (F : Fence) (n : Nat) (P : Program) (md : Region.Mode) (ops : Array Oper) (C : World → Prop) (E : Nat → Bool) (Q : Exit → Act → World → Prop) (fuel : Nat) (listed : Array Bool) (a : Act) (w : World) (rs : List Nat) : Prop :=
  ∀ i ∈ rs, wpOpIn F n P ops Q i (fun a' w' => (E i = true ∨ C w') ∧ wpAnyE F n P md ops C E Q fuel (listed.setIfInBounds i true) a' w') a w
theorem AllE.nil {fuel : Nat} {listed : Array Bool} {a : Act} {w : World} : AllE F n P md ops C E Q fuel listed a w [] := fun _ h => by cases h
theorem AllE.cons {fuel : Nat} {listed : Array Bool} {a : Act} {w : World} {i : Nat} {o : Oper} {rs : List Nat} (ho : ops[i]? = some o)
    (h : ∀ K' : Act → World → Prop, (∀ a w, (E i = true ∨ C w) → wpAnyE F n P md ops C E Q fuel (listed.setIfInBounds i true) a w → K' a w) → if Region.wanted o (yielded ops a.tmps) = true then Oper.wpIn F n P o a w K' Q else (∀ f, o.about P w a.eval = some f → F.fn f) ∧ K' (a.put o.dst undef) w)
    (hs : AllE F n P md ops C E Q fuel listed a w rs) : AllE F n P md ops C E Q fuel listed a w (i :: rs) := fun j hj => by
  rcases List.mem_cons.1 hj with rfl | hj
  · exact wpOpIn_step ho (fun K' hK => h K' (fun a w hC hw => hK a w ⟨hC, hw⟩))
  · exact hs j hj
theorem wpAnyE_ready {rs : List Nat} {fuel : Nat} {listed : Array Bool} {a : Act} {w : World} (hr : Region.ready md ops listed = rs) (hne : rs ≠ []) (h : AllE F n P md ops C E Q fuel listed a w rs) : wpAnyE F n P md ops C E Q (fuel + 1) listed a w :=
  ⟨fun h0 => absurd (hr ▸ h0) hne, hr ▸ h⟩

end

end Go.Proofs.YtonhnflilfjkbaaGreatDoor

/-
  An append within a region that draws its order, in or out of a round.
-/
namespace Go.Proofs.YtonhnflilfjkbaaGreatDoor
open Go.RowKit
set_option linter.unusedVariables false

/-- A piece of code that goes on. -/
theorem wpIn_normal {F : Fence} {n : Nat} {P : Program} {c : Code} {Q : Exit → Act → World → Prop} {a : Act} {w : World} (h : c.wpIn F n P (fun e a w => e = .normal ∧ Q .normal a w) a w) : c.wpIn F n P Q a w :=
  Code.wpIn_mono (fun e a w h => by obtain ⟨rfl, h⟩ := h; exact h) h

theorem stepAny_append {P : Program} (w : World) {F : Fence} (hF : ∀ f, F.fn f) {o : Oper} {ops : Array Oper} {a : Act} {K : Act → World → Prop} {Q : Exit → Act → World → Prop} (hgd : o.guard = none) (s x : Operand) (t : TypeId)
    (ho : o.op = .call { callee := .builtin .append, args := #[s, x], argTypes := #[t, t] }) (base : Nat) (e : TypeId) (i : TypeInfo) (z : Value) (size bytes : Nat) (ht : P.underlying t = some (.slice e)) (hi : P.info? e = some i) (hz : i.zero = some z)
    (hsize : i.size = size) (hby : i.bytes = bytes) (hzs : z.cells.size = size) (hsz : 0 < size) (v : Value) (n : Nat) (xs : List Value) (hs : a.eval s = v) (hown : w.ownsRow base e size v n xs)
    (ad : Addr) (m c : Nat) (news : List Value) (hx : a.eval x = .slice (some ad) m c) (hl : news.length = m * size) (hnews : ∀ j u, news[j]? = some u → w.cell? (ad.add j) = some u) (h1 : ∀ u ∈ news, u.oneCell' = true)
    (hm : 0 < m) (h63 : n + m ≤ maxLen) (hbytes : (n + m) * bytes ≤ 140737488355328) (hbase : base ≤ w.heap.size)
    (h : ∀ g cap w', w'.ownsRow base e size (.slice (some ⟨g, 0, none⟩) (n + m) cap) (n + m) (xs ++ news) → w.grownBy w' v.ownBlock → K (a.put o.dst (.slice (some ⟨g, 0, none⟩) (n + m) cap)) w') :
    if Region.wanted o (yielded ops a.tmps) = true then Oper.wpIn F 0 P o a w K Q else (∀ f, o.about P w a.eval = some f → F.fn f) ∧ K (a.put o.dst undef) w := by
  obtain ⟨v', w', hr, h2, h3, _⟩ := run_append_own (P := P) w base t o.type e i z size bytes ht hi hz hsize hby hzs hsz v n xs hown ad m c news hl hnews h1 h63 hbytes hbase
  obtain ⟨g, cap', rfl⟩ : ∃ g cap', v' = .slice (some ⟨g, 0, none⟩) (n + m) cap' := by
    rcases h2.2 with ⟨_, h0⟩ | ⟨g, cap', cur, e', _⟩
    · omega
    · exact ⟨g, cap', e'⟩
  rw [if_pos (by simp [Region.wanted, hgd])]
  refine ⟨fun f _ => hF f, ?_⟩
  rw [Oper.semAt_eq _ _ _ (fun c hc => by rw [ho] at hc; cases hc)]
  unfold execOp
  simp only [ho, resolve, invoke, builtin, Sem.run_bind, Sem.run_pure, Result.andThen_ok, List.map_toArray, List.map_cons, List.map_nil, hs, hx, hr]
  exact h g cap' w' h2 h3

end Go.Proofs.YtonhnflilfjkbaaGreatDoor

/-
  A reader in memory: its two cells lie in one block; what was there before it turns in that block alone. And what a slice of a list is.
-/
namespace Go.Proofs.YtonhnflilfjkbaaGreatDoor
open Go.RowKit

/-- W0: the world in which the reader was made; wr: a later one. -/
structure Rd (T : TypeId) (W0 wr : World) (gr : Nat) (v : Value) (p : Nat) : Prop where
  grown : W0.grownBy wr (some gr)
  box : wr.heap[gr]? = some (.cells #[v, .int .i64 (p : Int)] T (0, 0))

theorem cell_of_two {w : World} {g : Nat} {a b : Value} {T : TypeId} (h : w.heap[g]? = some (.cells #[a, b] T (0, 0))) : w.cell? ⟨g, 0, none⟩ = some a ∧ w.cell? ⟨g, 1, none⟩ = some b ∧ w.frozen? ⟨g, 1, none⟩ = false := by
  refine ⟨?_, ?_, ?_⟩ <;> simp [World.cell?, World.frozen?, h]

theorem two_setCell {w : World} {g : Nat} {a b : Value} {T : TypeId} (h : w.heap[g]? = some (.cells #[a, b] T (0, 0))) (u : Value) : (w.setCell ⟨g, 1, none⟩ u).heap[g]? = some (.cells #[a, u] T (0, 0)) := by
  simp [World.setCell, Array.getElem?_modify, h]

theorem grown_setCell (w : World) (g j : Nat) (u : Value) : w.grownBy (w.setCell ⟨g, j, none⟩ u) (some g) :=
  ⟨rfl, rfl, rfl, by simp [World.setCell], fun k _ hne => Below.heap_setCell _ _ _ _ (fun e => hne (by rw [e]))⟩

theorem Rd.set {T : TypeId} {W0 wr : World} {gr : Nat} {v : Value} {p : Nat} (h : Rd T W0 wr gr v p) (q : Nat) (u : Int) (hu : u = (q : Int)) : Rd T W0 (wr.setCell ⟨gr, 1, none⟩ (.int .i64 u)) gr v q := by
  subst hu
  exact ⟨h.grown.trans (grown_setCell wr gr 1 _), two_setCell h.box _⟩

theorem Rd.lt {T : TypeId} {W0 wr : World} {gr : Nat} {v : Value} {p : Nat} (h : Rd T W0 wr gr v p) : gr < wr.heap.size := (Array.getElem?_eq_some_iff.1 h.box).1

/-- Where nothing that is there turns. -/
theorem Rd.below {T : TypeId} {W0 wr w' : World} {gr : Nat} {v : Value} {p : Nat} (h : Rd T W0 wr gr v p) (hb : Below wr.heap.size wr w') : Rd T W0 w' gr v p := by
  refine ⟨⟨hb.os.trans h.grown.os, hb.tape.trans h.grown.tape, hb.output.trans h.grown.output, Nat.le_trans h.grown.size hb.size, fun k hk hne => ?_⟩, by rw [hb.block gr h.lt]; exact h.box⟩
  rw [hb.block k (Nat.lt_of_lt_of_le hk h.grown.size)]
  exact h.grown.block k hk hne

/-- Where a block alone turns that is new since the reader was looked at. -/
theorem Rd.far {T : TypeId} {W0 w' w'' : World} {gr g : Nat} {v : Value} {p : Nat} (h : Rd T W0 w' gr v p) (h0 : W0.heap.size ≤ g) (hg : gr < g) (hgr : w'.grownBy w'' (some g)) : Rd T W0 w'' gr v p := by
  refine ⟨h.grown.andThen hgr (fun j hj => by cases hj; exact .inl h0), ?_⟩
  rw [hgr.block gr h.lt (fun e => by cases e; omega)]
  exact h.box

/-- The reader's words are as they were. -/
theorem Rd.view {T : TypeId} {W0 wr : World} {gr : Nat} {v : Value} {p : Nat} (h : Rd T W0 wr gr v p) {a : Option Addr} {zs : List Int} (hv : View .u32 W0 a zs) (hne : ∀ b off s, a = some ⟨b, off, s⟩ → b ≠ gr) : View .u32 wr a zs := by
  intro j hj
  obtain ⟨b, off, e, hlt, hc⟩ := hv j hj
  refine ⟨b, off, e, Nat.lt_of_lt_of_le hlt h.grown.size, ?_⟩
  rw [← hc]
  exact World.cell?_of_block (w := W0) (h.grown.block b hlt (fun e' => hne b off none e (by cases e'; rfl)))

/-- What is cut off at the front of a list. -/
theorem View.drop {k : IntKind} {w : World} {b off : Nat} {zs : List Int} (h : View k w (some ⟨b, off, none⟩) zs) (p : Nat) : View k w (some ⟨b, off + p, none⟩) (zs.drop p) := by
  intro j hj
  rw [List.length_drop] at hj
  obtain ⟨b', off', e, hb, hc⟩ := h (p + j) (by omega)
  simp at e
  obtain ⟨rfl, rfl⟩ := e
  refine ⟨b, off + p, rfl, hb, ?_⟩
  rw [Nat.add_assoc, hc]
  simp [nth, List.getD]

/-- The address of a slice that is cut at its front. -/
def cutA (a : Option Addr) (cap p : Nat) : Option Addr := if cap = p then a else a.map (·.add p)

theorem View.cut {k : IntKind} {w : World} {a : Option Addr} {cap : Nat} {zs : List Int} (h : View k w a zs) (hcap : zs.length ≤ cap) (p : Nat) : View k w (cutA a cap p) (zs.drop p) := by
  by_cases hp : p < zs.length
  · obtain ⟨b, off, rfl, _, _⟩ := h p hp
    rw [cutA, if_neg (by omega)]
    have := View.drop h p
    rw [Option.map_some, Addr.add_lit]
    exact this
  · rw [List.drop_of_length_le (by omega)]
    exact view_nil

/-- What the call owns, nil or not, can be read. -/
theorem View.ofOwn {k : IntKind} {w : World} {B e n cap : Nat} {a : Option Addr} {zs : List Int} (h : w.ownsRow B e 1 (.slice a n cap) n (zs.map (Value.int k))) (hl : zs.length = n) : View k w a zs := by
  rcases h.2 with ⟨_, hn⟩ | ⟨g, cap', cur, hv, _⟩
  · have : zs = [] := List.eq_nil_of_length_eq_zero (by rw [hl]; simpa using hn)
    subst this; exact view_nil
  · cases hv; exact View.ofRow h hl

end Go.Proofs.YtonhnflilfjkbaaGreatDoor

/-
  Lists of instructions in memory: an operation and a list of words each.
-/
namespace Go.Proofs.YtonhnflilfjkbaaGreatDoor
open Go.RowKit

/-- The instruction at a place of a list. -/
def nthR (rs : List (Int × List Int)) (j : Nat) : Int × List Int := rs.getD j (0, [])

/-- What can be read of a slice of instructions. -/
def RawsV (w : World) (a : Option Addr) (rs : List (Int × List Int)) : Prop :=
  ∀ j, j < rs.length → ∃ b off aj cj nj, a = some ⟨b, off, none⟩ ∧ b < w.heap.size ∧ w.cell? ⟨b, off + j * 2, none⟩ = some (.int .u16 (nthR rs j).1) ∧ w.cell? ⟨b, off + j * 2 + 1, none⟩ = some (.slice aj nj cj) ∧ (nthR rs j).2.length = nj ∧ View .u32 w aj (nthR rs j).2 ∧ nj ≤ cj

/-- Each operation, each word and each length lies within its bounds. -/
def RawsOk (rs : List (Int × List Int)) : Prop := ∀ j, j < rs.length → 0 ≤ (nthR rs j).1 ∧ (nthR rs j).1 < 65536 ∧ Within 4294967296 (nthR rs j).2 ∧ 4 * (nthR rs j).2.length ≤ 140737488351232

theorem RawsV.below {w w' : World} {a : Option Addr} {rs : List (Int × List Int)} (h : RawsV w a rs) (hb : Below w.heap.size w w') : RawsV w' a rs := by
  intro j hj
  obtain ⟨b, off, aj, cj, nj, e, hlt, h1, h2, h3, h4, h5⟩ := h j hj
  exact ⟨b, off, aj, cj, nj, e, Nat.lt_of_lt_of_le hlt hb.size, (hb.cell (p := ⟨b, off + j * 2, none⟩) hlt).trans h1, (hb.cell (p := ⟨b, off + j * 2 + 1, none⟩) hlt).trans h2, h3, h4.below hb, h5⟩

theorem rawsV_nil {w : World} {a : Option Addr} : RawsV w a [] := fun j hj => by simp at hj

theorem RawsV.drew {w : World} {a : Option Addr} {rs : List (Int × List Int)} (h : RawsV w a rs) (q : Nat) : RawsV (w.drewN q) a rs := h.below (bel_drewN (Below.refl _ _) q)
theorem View.drew {k : IntKind} {w : World} {a : Option Addr} {zs : List Int} (h : View k w a zs) (q : Nat) : View k (w.drewN q) a zs := h.below (bel_drewN (Below.refl _ _) q)

end Go.Proofs.YtonhnflilfjkbaaGreatDoor

/-
  What Wrong of the document's answer returns: what is wrong with a word of the head.
-/
namespace Go.Proofs.YtonhnflilfjkbaaGreatDoor
open Go.RowKit
set_option maxRecDepth 10000

end Go.Proofs.YtonhnflilfjkbaaGreatDoor

/-
  What Count, Ends and Wrong of the document's answer return.
-/
namespace Go.Proofs.YtonhnflilfjkbaaGreatDoor
open Go.RowKit
set_option maxRecDepth 10000

end Go.Proofs.YtonhnflilfjkbaaGreatDoor

/-
  What At of the document's answer returns: the instruction at a place, up to another one, its words in new memory.
-/
namespace Go.Proofs.YtonhnflilfjkbaaGreatDoor
open Go.RowKit

theorem RefAt.info : (Tryz.prog.info? 22).map (fun i => (i.zero, i.size, i.bytes)) = some (some (.int .u32 0), 1, 4) := by kernel_rfl

theorem own_base {w : World} {B B' e size n : Nat} {v : Value} {xs : List Value} (h : w.ownsRow B e size v n xs) (hb : B' ≤ B) : w.ownsRow B' e size v n xs := by
  refine ⟨h.1, ?_⟩
  rcases h.2 with hn | ⟨g, cap, cur, rfl, hg, rest⟩
  · exact .inl hn
  · exact .inr ⟨g, cap, cur, rfl, Nat.le_trans hb hg, rest⟩

end Go.Proofs.YtonhnflilfjkbaaGreatDoor

/-
  What Fault and Size of the document's answer return: the first instruction that is too long, or with which there are too many words; and how many words there are.
-/
namespace Go.Proofs.YtonhnflilfjkbaaGreatDoor
open Go.RowKit
set_option maxRecDepth 10000

/-- How many words the head and the first k instructions have. -/
def sizeTo (rs : List (Int × List Int)) (k : Nat) : Nat := (rs.take k).foldl (fun s r => s + 1 + r.2.length) 5
/-- The first instruction that may not be, and why. -/
def faultF (rs : List (Int × List Int)) : Nat → Nat → Int × Nat
  | 0, _ => (0, 0)
  | f + 1, k => if k < rs.length then (if 65535 ≤ (nthR rs k).2.length then (25, k) else if 1048576 < sizeTo rs (k + 1) then (4, k) else faultF rs f (k + 1)) else (0, 0)
def fault (rs : List (Int × List Int)) (k : Nat) : Int × Nat := faultF rs (rs.length - k) k

theorem sizeTo_zero (rs : List (Int × List Int)) : sizeTo rs 0 = 5 := rfl
theorem sizeTo_succ (rs : List (Int × List Int)) (k : Nat) (h : k < rs.length) : sizeTo rs (k + 1) = sizeTo rs k + 1 + (nthR rs k).2.length := by
  have e : rs.take (k + 1) = rs.take k ++ [nthR rs k] := by
    rw [List.take_succ_eq_append_getElem h]; simp [nthR, List.getD, h]
  rw [sizeTo, e, List.foldl_append]; rfl
theorem fault_end (rs : List (Int × List Int)) (k : Nat) (h : rs.length ≤ k) : fault rs k = (0, 0) := by
  rw [fault, show rs.length - k = 0 by omega]; rfl
theorem fault_step (rs : List (Int × List Int)) (k : Nat) (h : k < rs.length) : fault rs k = if 65535 ≤ (nthR rs k).2.length then (25, k) else if 1048576 < sizeTo rs (k + 1) then (4, k) else fault rs (k + 1) := by
  rw [fault, show rs.length - k = (rs.length - (k + 1)) + 1 by omega, faultF, if_pos h]; rfl

end Go.Proofs.YtonhnflilfjkbaaGreatDoor

/-
  What Size of the document's answer returns: how many words there are, or the error.
-/
namespace Go.Proofs.YtonhnflilfjkbaaGreatDoor
open Go.RowKit
set_option maxRecDepth 10000

/-- How many words there are; 0 beside an error. -/
def sizeOut (rs : List (Int × List Int)) : Int := if (fault rs 0).1 = 0 then (sizeTo rs rs.length : Int) else 0

/-- Without a fault all is small. -/
theorem fault_none (rs : List (Int × List Int)) (h : (fault rs 0).1 = 0) : ∀ k, k ≤ rs.length → sizeTo rs k ≤ 1048576 ∧ ∀ j, j < k → (nthR rs j).2.length < 65535 := by
  have key : ∀ k, k ≤ rs.length → fault rs 0 = fault rs k ∧ sizeTo rs k ≤ 1048576 ∧ ∀ j, j < k → (nthR rs j).2.length < 65535 := by
    intro k
    induction k with
    | zero => intro _; exact ⟨rfl, by rw [sizeTo_zero]; omega, fun j hj => by omega⟩
    | succ k ih =>
      intro hk
      obtain ⟨h1, h2, h3⟩ := ih (by omega)
      have hs := fault_step rs k (by omega)
      by_cases c1 : 65535 ≤ (nthR rs k).2.length
      · rw [if_pos c1] at hs; rw [h1, hs] at h; simp at h
      · rw [if_neg c1] at hs
        by_cases c2 : 1048576 < sizeTo rs (k + 1)
        · rw [if_pos c2] at hs; rw [h1, hs] at h; simp at h
        · rw [if_neg c2] at hs
          refine ⟨h1.trans hs, by omega, fun j hj => ?_⟩
          by_cases e : j = k
          · subst e; omega
          · exact h3 j (by omega)
  exact fun k hk => (key k hk).2

end Go.Proofs.YtonhnflilfjkbaaGreatDoor

/-
  What Places of the document's answer returns, of at most 1048576 words: the places of the instructions, in new memory.
-/
namespace Go.Proofs.YtonhnflilfjkbaaGreatDoor
open Go.RowKit
set_option maxRecDepth 10000

theorem RefPlaces.info : (Tryz.prog.info? 3).map (fun i => (i.zero, i.size, i.bytes)) = some (some (.int .i64 0), 1, 8) := by kernel_rfl

theorem own_shape {w : World} {B e n : Nat} {v : Value} {xs : List Value} (h : w.ownsRow B e 1 v n xs) : ∃ a c, v = .slice a n c := by
  rcases h.2 with ⟨rfl, rfl⟩ | ⟨g, c, cur, rfl, _⟩
  · exact ⟨none, 0, rfl⟩
  · exact ⟨_, c, rfl⟩

end Go.Proofs.YtonhnflilfjkbaaGreatDoor

/-
  What Read answers, as a function on lists: its error with its place, or the instructions; and the row of instructions in memory while it is built.
-/
namespace Go.Proofs.YtonhnflilfjkbaaGreatDoor
open Go.RowKit

/-- The cells of a row of instructions: each operation, and each list of words, which lies in another block than the row. -/
structure RowR (w : World) (lo : Nat) (ob : Option Nat) (rs : List (Int × List Int)) (cs : List Value) : Prop where
  len : cs.length = rs.length * 2
  each : ∀ j, j < rs.length → ∃ aj cj nj, cs[j * 2]? = some (.int .u16 (nthR rs j).1) ∧ cs[j * 2 + 1]? = some (.slice aj nj cj) ∧ (nthR rs j).2.length = nj ∧ View .u32 w aj (nthR rs j).2 ∧ nj ≤ cj ∧ ∀ b off s, aj = some ⟨b, off, s⟩ → ob ≠ some b ∧ b < w.heap.size ∧ lo ≤ b

theorem RowR.view {w : World} {B T g n cap lo : Nat} {rs : List (Int × List Int)} {cs : List Value} {ob : Option Nat} (h : RowR w lo ob rs cs) (hown : w.ownsRow B T 2 (.slice (some ⟨g, 0, none⟩) n cap) n cs) (hl : rs.length = n) : RawsV w (some ⟨g, 0, none⟩) rs := by
  intro j hj
  obtain ⟨aj, cj, nj, h1, h2, h3, h4, h5, _⟩ := h.each j hj
  have c1 := hown.cellAt (j * 2) (by omega)
  have c2 := hown.cellAt (j * 2 + 1) (by omega)
  rw [h1] at c1
  rw [h2] at c2
  exact ⟨g, 0, aj, cj, nj, rfl, World.block_lt_of_cell? _ _ c1, by rw [Nat.zero_add]; exact c1, by rw [Nat.zero_add]; exact c2, h3, h4, h5⟩

/-- What is written in the row alone leaves the words as they were. -/
theorem view_grown {k : IntKind} {w w' : World} {a : Option Addr} {zs : List Int} {ob : Option Nat} (h : View k w a zs) (hg : w.grownBy w' ob) (hne : ∀ b off s, a = some ⟨b, off, s⟩ → ob ≠ some b) : View k w' a zs := by
  intro j hj
  obtain ⟨b, off, e, hlt, hc⟩ := h j hj
  refine ⟨b, off, e, Nat.lt_of_lt_of_le hlt hg.size, ?_⟩
  rw [← hc]
  exact World.cell?_of_block (w := w) (hg.block b hlt (fun e' => hne b off none e e'.symm))

theorem RowR.below {w w' : World} {lo : Nat} {ob : Option Nat} {rs : List (Int × List Int)} {cs : List Value} (h : RowR w lo ob rs cs) (hb : Below w.heap.size w w') : RowR w' lo ob rs cs := by
  refine ⟨h.len, fun j hj => ?_⟩
  obtain ⟨aj, cj, nj, h1, h2, h3, h4, h5, h6⟩ := h.each j hj
  exact ⟨aj, cj, nj, h1, h2, h3, h4.below hb, h5, fun b off s e => ⟨(h6 b off s e).1, Nat.lt_of_lt_of_le (h6 b off s e).2.1 hb.size, (h6 b off s e).2.2⟩⟩

theorem RowR.setCell {w : World} {lo : Nat} {ob : Option Nat} {rs : List (Int × List Int)} {cs : List Value} (h : RowR w lo ob rs cs) {g j : Nat} (hg : g < lo) (u : Value) : RowR (w.setCell ⟨g, j, none⟩ u) lo ob rs cs := by
  refine ⟨h.len, fun i hi => ?_⟩
  obtain ⟨aj, cj, nj, h1, h2, h3, h4, h5, h6⟩ := h.each i hi
  exact ⟨aj, cj, nj, h1, h2, h3, h4.setCell (fun b off s e => (h6 b off s e).2.2) hg u, h5, fun b off s e => ⟨(h6 b off s e).1, by have := (h6 b off s e).2.1; simpa [World.setCell] using this, (h6 b off s e).2.2⟩⟩

theorem nthR_lo (rs : List (Int × List Int)) (r : Int × List Int) (j : Nat) (h : j < rs.length) : nthR (rs ++ [r]) j = nthR rs j := by
  simp [nthR, List.getD, List.getElem?_append_left h]
theorem nthR_hi (rs : List (Int × List Int)) (r : Int × List Int) : nthR (rs ++ [r]) rs.length = r := by
  simp [nthR, List.getD]

/-- An instruction more. -/
theorem RowR.push {w w' : World} {v : Value} {g' H lo : Nat} {rs : List (Int × List Int)} {cs : List Value} {r : Int × List Int} {a : Option Addr} {n c : Nat}
    (h : RowR w lo v.ownBlock rs cs) (hv : View .u32 w a r.2) (hl : r.2.length = n) (hc : n ≤ c) (ha : ∀ b off s, a = some ⟨b, off, s⟩ → v.ownBlock ≠ some b ∧ b < H ∧ lo ≤ b) (hH : w.heap.size = H)
    (hg : w.grownBy w' v.ownBlock) (hat : v.ownBlock = some g' ∨ g' = H) : RowR w' lo (some g') (rs ++ [r]) (cs ++ [.int .u16 r.1, .slice a n c]) := by
  have key : ∀ b, v.ownBlock ≠ some b → b < H → lo ≤ b → (some g' ≠ some b ∧ b < w'.heap.size ∧ lo ≤ b) := fun b h1 h2 h0 => by
    refine ⟨fun e => ?_, by have := hg.size; omega, h0⟩
    cases e
    rcases hat with h3 | h3
    · exact h1 h3
    · omega
  refine ⟨by simp [h.len]; omega, fun j hj => ?_⟩
  rw [List.length_append, List.length_singleton] at hj
  by_cases hjl : j < rs.length
  · obtain ⟨aj, cj, nj, h1, h2, h3, h4, h5, h6⟩ := h.each j hjl
    rw [nthR_lo _ _ _ hjl]
    have hcl := h.len
    exact ⟨aj, cj, nj, by rw [List.getElem?_append_left (by omega)]; exact h1, by rw [List.getElem?_append_left (by omega)]; exact h2, h3, view_grown h4 hg (fun b off s e => (h6 b off s e).1), h5,
      fun b off s e => key b (h6 b off s e).1 (by have := (h6 b off s e).2.1; omega) (h6 b off s e).2.2⟩
  · obtain rfl : j = rs.length := by omega
    rw [nthR_hi]
    have hcl := h.len
    refine ⟨a, c, n, ?_, ?_, hl, view_grown hv hg (fun b off s e => (ha b off s e).1), hc, fun b off s e => key b (ha b off s e).1 (ha b off s e).2.1 (ha b off s e).2.2⟩
    · rw [List.getElem?_append_right (by omega), show rs.length * 2 - cs.length = 0 by omega]; rfl
    · rw [List.getElem?_append_right (by omega), show rs.length * 2 + 1 - cs.length = 1 by omega]; rfl

end Go.Proofs.YtonhnflilfjkbaaGreatDoor

/-
  What Read of the document's answer returns, for every list of words: its error and its place, or the head and the instructions, in new memory.
-/
namespace Go.Proofs.YtonhnflilfjkbaaGreatDoor
open Go.RowKit

theorem RefRead.info : (Tryz.prog.info? 54).map (fun i => (i.zero, i.size, i.bytes)) = some (some (.agg #[.int .u16 0, .slice none 0 0]), 2, 32) := by kernel_rfl

end Go.Proofs.YtonhnflilfjkbaaGreatDoor

/-
  What Write of the document's answer returns, for every head and every list of instructions: its error and its place, or the words, in new memory.
-/
namespace Go.Proofs.YtonhnflilfjkbaaGreatDoor
open Go.RowKit

theorem RefWrite.info : (Tryz.prog.info? 22).map (fun i => (i.zero, i.size, i.bytes)) = some (some (.int .u32 0), 1, 4) := by kernel_rfl

/-- An instruction's words. -/
def rawW (r : Int × List Int) : List Int := (((r.2.length : Int) + 1) * 65536 + r.1) :: r.2
/-- The words of the head and of the first k instructions. -/
def writeTo (gen bound : Int) (rs : List (Int × List Int)) (k : Nat) : List Int := [119734787, 65536, gen, bound, 0] ++ (rs.take k).flatMap rawW

theorem writeTo_succ (gen bound : Int) (rs : List (Int × List Int)) (k : Nat) (h : k < rs.length) : writeTo gen bound rs (k + 1) = writeTo gen bound rs k ++ rawW (nthR rs k) := by
  have e : rs.take (k + 1) = rs.take k ++ [nthR rs k] := by
    rw [List.take_succ_eq_append_getElem h]; simp [nthR, List.getD, h]
  rw [writeTo, e, List.flatMap_append, ← List.append_assoc]; simp [writeTo]
theorem writeTo_len (gen bound : Int) (rs : List (Int × List Int)) : ∀ k, k ≤ rs.length → (writeTo gen bound rs k).length = sizeTo rs k
  | 0, _ => rfl
  | k + 1, h => by
    rw [writeTo_succ gen bound rs k (by omega), List.length_append, writeTo_len gen bound rs k (by omega), sizeTo_succ rs k (by omega)]
    simp [rawW]; omega

end Go.Proofs.YtonhnflilfjkbaaGreatDoor

/-
  What Find of the document's answer returns, of at most 1048576 words.
-/
namespace Go.Proofs.YtonhnflilfjkbaaGreatDoor
open Go.RowKit
set_option maxRecDepth 10000

end Go.Proofs.YtonhnflilfjkbaaGreatDoor

/-
  Words of the kit answers true of two lists that are the same.
-/
namespace Go.Proofs.YtonhnflilfjkbaaGreatDoor
open Go.RowKit
set_option maxRecDepth 10000

end Go.Proofs.YtonhnflilfjkbaaGreatDoor

/-
  raws of the laws of layer 2 answers true of two lists of instructions that are the same; head answers the words of a head.
-/
namespace Go.Proofs.YtonhnflilfjkbaaGreatDoor
open Go.RowKit
set_option maxRecDepth 10000

end Go.Proofs.YtonhnflilfjkbaaGreatDoor

/-
  SpoilWords of the kit writes over the words of a row of the call's own, and nothing else.
-/
namespace Go.Proofs.YtonhnflilfjkbaaGreatDoor
open Go.RowKit
set_option maxRecDepth 10000

end Go.Proofs.YtonhnflilfjkbaaGreatDoor
