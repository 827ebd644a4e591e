/-
  Texts laid together in one: KitCopyInst, KitCopyModule, EqSpans, LawLayoutParts.
-/
import Derived.WalkSpells
import Derived.BigRegion
import Derived.Deep.RegionWith
import Derived.Deep.DrawnRows
import Derived.Deep.QuietTactic
import Derived.BigQuiet
import Derived.Test.YtckhgdjcofpijaaProg
import Derived.Test.YtckhgdjcofpijaaB12
import Derived.Test.YtckhgdjcofpijaaB01
import Derived.Test.YtckhgdjcofpijaaB07
import Derived.WalkMore
import Derived.ChangeKeysEq
import Derived.Deep.MidRow
import Derived.Test.YtckhgdjcofpijaaB18
import Derived.Test.YtckhgdjcofpijaaB21
/-
  CopyInst of the kit answers the instruction in new memory.
-/
namespace Go.Proofs.Ytckhgdjcofpijaa
open Go.RowKit

theorem CopyInst.info : (Try.prog.info? 55).map (fun i => (i.zero, i.size, i.bytes)) = some (some (.agg #[.int .u8 0, .int .u32 0, .string ⟨#[]⟩]), 3, 24) := by kernel_rfl

/-- The first k arguments lie in the row at g. -/
structure PartA (w : World) (g n k : Nat) (l : List ArgT) : Prop where
  row : ∃ cs : Array Value, w.heap[g]? = some (.cells cs 55 (0, 0)) ∧ cs.size = n * 3
  each : ∀ j, j < k → w.cell? ⟨g, j * 3, none⟩ = some (.int .u8 (nthA l j).1) ∧ w.cell? ⟨g, j * 3 + 1, none⟩ = some (.int .u32 (nthA l j).2.1) ∧ w.cell? ⟨g, j * 3 + 2, none⟩ = some (.string (nthA l j).2.2)

theorem cells_can {w : World} {g T : Nat} {cs : Array Value} (h : w.heap[g]? = some (.cells cs T (0, 0))) (j : Nat) (hj : j < cs.size) : (∃ v, w.cell? ⟨g, j, none⟩ = some v) ∧ w.frozen? ⟨g, j, none⟩ = false := by
  refine ⟨⟨cs[j], by simp [World.cell?, h, hj]⟩, by simp [World.frozen?, h]⟩

theorem PartA.store {w : World} {g n k : Nat} {l : List ArgT} (h : PartA w g n k l) (hk : k < n) :
    PartA (((w.setCell ⟨g, k * 3, none⟩ (.int .u8 (nthA l k).1)).setCell ⟨g, k * 3 + 1, none⟩ (.int .u32 (nthA l k).2.1)).setCell ⟨g, k * 3 + 2, none⟩ (.string (nthA l k).2.2)) g n (k + 1) l := by
  obtain ⟨⟨cs, h1, h2⟩, h3⟩ := h
  obtain ⟨W, hW⟩ : ∃ W, W = ((w.setCell ⟨g, k * 3, none⟩ (.int .u8 (nthA l k).1)).setCell ⟨g, k * 3 + 1, none⟩ (.int .u32 (nthA l k).2.1)).setCell ⟨g, k * 3 + 2, none⟩ (.string (nthA l k).2.2) := ⟨_, rfl⟩
  have hb : W.heap[g]? = some (.cells (((cs.setIfInBounds (k * 3) (.int .u8 (nthA l k).1)).setIfInBounds (k * 3 + 1) (.int .u32 (nthA l k).2.1)).setIfInBounds (k * 3 + 2) (.string (nthA l k).2.2)) 55 (0, 0)) := by
    rw [hW]; simp [World.setCell, Array.getElem?_modify, h1]
  have cell : ∀ j, W.cell? ⟨g, j, none⟩ = (((cs.setIfInBounds (k * 3) (.int .u8 (nthA l k).1)).setIfInBounds (k * 3 + 1) (.int .u32 (nthA l k).2.1)).setIfInBounds (k * 3 + 2) (.string (nthA l k).2.2))[j]? := fun j => by
    simp [World.cell?, hb]
  have old : ∀ j, w.cell? ⟨g, j, none⟩ = cs[j]? := fun j => by simp [World.cell?, h1]
  rw [← hW]
  refine ⟨⟨_, hb, by simp [h2]⟩, fun j hj => ?_⟩
  by_cases hjk : j < k
  · obtain ⟨c1, c2, c3⟩ := h3 j hjk
    rw [old] at c1 c2 c3
    refine ⟨?_, ?_, ?_⟩
    all_goals rw [cell, Array.getElem?_setIfInBounds_ne (by omega), Array.getElem?_setIfInBounds_ne (by omega), Array.getElem?_setIfInBounds_ne (by omega)]
    · exact c1
    · exact c2
    · exact c3
  · obtain rfl : j = k := by omega
    refine ⟨?_, ?_, ?_⟩
    · rw [cell, Array.getElem?_setIfInBounds_ne (by omega), Array.getElem?_setIfInBounds_ne (by omega), Array.getElem?_setIfInBounds_self_of_lt (by omega)]
    · rw [cell, Array.getElem?_setIfInBounds_ne (by omega), Array.getElem?_setIfInBounds_self_of_lt (by simp; omega)]
    · rw [cell, Array.getElem?_setIfInBounds_self_of_lt (by simp; omega)]

theorem PartA.view {w : World} {g n : Nat} {l : List ArgT} (h : PartA w g n n l) (hl : l.length = n) : ArgsV w (some ⟨g, 0, none⟩) l := by
  intro j hj
  obtain ⟨c1, c2, c3⟩ := h.each j (by omega)
  exact ⟨g, 0, rfl, World.block_lt_of_cell? _ _ c1, by rw [Nat.zero_add]; exact c1, by rw [Nat.zero_add]; exact c2, by rw [Nat.zero_add]; exact c3⟩

theorem PartA.drew {w : World} {g n k : Nat} {l : List ArgT} (h : PartA w g n k l) (q : Nat) : PartA (w.drewN q) g n k l := ⟨h.row, h.each⟩

theorem setFar1 {w : World} {g k : Nat} {o : Obj} (h : w.heap[k]? = some o) (hne : k ≠ g) (i : Nat) (u : Value) : (w.setCell ⟨g, i, none⟩ u).heap[k]? = some o := (Below.heap_setCell _ _ _ _ (by simpa using hne)).trans h
theorem setFar3 {w : World} {g k : Nat} {o : Obj} (h : w.heap[k]? = some o) (hne : k ≠ g) (i j m : Nat) (u v x : Value) : (((w.setCell ⟨g, i, none⟩ u).setCell ⟨g, j, none⟩ v).setCell ⟨g, m, none⟩ x).heap[k]? = some o := setFar1 (setFar1 (setFar1 h hne i u) hne j v) hne m x
theorem block_cells {w : World} {B T : Nat} {cs : Array Value} (h : w.heap[B]? = some (.cells cs T (0, 0))) : (∀ i, w.cell? ⟨B, i, none⟩ = cs[i]?) ∧ (∀ i, w.frozen? ⟨B, i, none⟩ = false) := by
  refine ⟨fun i => ?_, fun i => ?_⟩
  · simp [World.cell?, h]
  · simp [World.frozen?, h]

theorem four_set {w : World} {B T : Nat} {z0 z1 z2 z3 : Value} (h : w.heap[B]? = some (.cells #[z0, z1, z2, z3] T (0, 0))) (u0 u1 u2 u3 : Value) :
    ((((w.setCell ⟨B, 0, none⟩ u0).setCell ⟨B, 1, none⟩ u1).setCell ⟨B, 2, none⟩ u2).setCell ⟨B, 3, none⟩ u3).heap[B]? = some (.cells #[u0, u1, u2, u3] T (0, 0)) := by
  simp only [World.setCell, Array.getElem?_modify, h]; simp
theorem four_below (w : World) (B : Nat) (u0 u1 u2 u3 : Value) : Below B w ((((w.setCell ⟨B, 0, none⟩ u0).setCell ⟨B, 1, none⟩ u1).setCell ⟨B, 2, none⟩ u2).setCell ⟨B, 3, none⟩ u3) :=
  ((((Below.refl B w).setCell (Nat.le_refl _) _).setCell (Nat.le_refl _) _).setCell (Nat.le_refl _) _).setCell (Nat.le_refl _) _
theorem args_far {w : World} {b off g : Nat} {l : List ArgT} (h : ArgsV w (some ⟨b, off, none⟩) l) (hg : g ≠ b) (i : Nat) (v : Value) : ArgsV (w.setCell ⟨g, i, none⟩ v) (some ⟨b, off, none⟩) l :=
  h.setCell (fun b' off' e => by cases e; exact fun h => hg h.symm) v

set_option maxRecDepth 100000 in
set_option maxHeartbeats 2000000 in
theorem copyInst_any (x : InstT) (ax : Option Addr) (n cx : Nat) (w : World) (hx : ArgsV w ax x.2.2.2) (hl : x.2.2.2.length = n) (hn : 24 * n ≤ 140737488351232) :
    Calls Try.prog 23 #[instV x ax n cx] w fun e w' => ∃ g, e = .returned (instV x (some ⟨g, 0, none⟩) n n) ∧ w.heap.size ≤ g ∧ ArgsV w' (some ⟨g, 0, none⟩) x.2.2.2 ∧ Below w.heap.size w w' := by
  obtain ⟨i0, hi, hz0, hz1, hz2⟩ := info_parts CopyInst.info
  obtain ⟨xo, xt, xr, xl⟩ := x
  unfold instV
  simp only at *
  have HL : Hid (xl.length = n) := hl
  clear hl
  go_enter Try.func23, Try.ntmps23
  go_wp2_with (at_make; refine wpList_make_full _ rfl _ _ 57 rfl (w.heap.size + 1) 55 i0 (.agg #[.int .u8 0, .int .u32 0, .string ⟨#[]⟩]) 3 Try.underlying57 hi hz0 hz1 _ _ _ _ n rfl rfl (by omega) (by omega) (by rw [hz2]; omega) (by unfold maxLen; omega) (by simp) ?_)
  intro w1 hown1 hgrow1
  have hb0 : Below w.heap.size w ((w.alloc (.cells #[.int .u16 xo, .int .u32 xt, .int .u32 xr, .slice ax n cx] 59)).alloc (.cells #[.int .u16 0, .int .u32 0, .int .u32 0, .slice none 0 0] 59)) := ((Below.refl _ w).alloc (Nat.le_refl _) _).alloc (by simp) _
  have hb1 : Below (w.heap.size + 2) ((w.alloc (.cells #[.int .u16 xo, .int .u32 xt, .int .u32 xr, .slice ax n cx] 59)).alloc (.cells #[.int .u16 0, .int .u32 0, .int .u32 0, .slice none 0 0] 59)) w1 := (Below.refl _ _).grown hgrow1 (by simp) (by simp)
  have hbox : w1.heap[w.heap.size]? = some (.cells #[.int .u16 xo, .int .u32 xt, .int .u32 xr, .slice ax n cx] 59 (0, 0)) := (hb1.block w.heap.size (by omega)).trans ((Below.heap_alloc _ _ _ (by simp)).trans (heap_alloc_new w _))
  have hres : w1.heap[w.heap.size + 1]? = some (.cells #[.int .u16 0, .int .u32 0, .int .u32 0, .slice none 0 0] 59 (0, 0)) := (hb1.block (w.heap.size + 1) (by omega)).trans (by simpa using heap_alloc_new (w.alloc (.cells #[.int .u16 xo, .int .u32 xt, .int .u32 xr, .slice ax n cx] 59)) (.cells #[.int .u16 0, .int .u32 0, .int .u32 0, .slice none 0 0] 59))
  have hP1 : PartA w1 (w.heap.size + 2) n 0 xl := by
    refine ⟨?_, fun j hj => by omega⟩
    rcases hown1.2 with ⟨h, _⟩ | ⟨g, cap', cur, h1, h2, h3, h4, h5, h6, _⟩
    · simp at h
    · simp at h1; obtain ⟨rfl, rfl⟩ := h1; exact ⟨cur, h3, h6⟩
  have hbw1 : Below w.heap.size w w1 := hb0.trans (hb1.mono (by omega))
  clear hown1 hgrow1 hb0 hb1
  go_wp2
  go_loopw [4] (fun i wr => ∃ k : Nat, k ≤ n ∧ i = .int .i64 k ∧ PartA wr (w.heap.size + 2) n k xl ∧ wr.heap[w.heap.size]? = some (.cells #[.int .u16 xo, .int .u32 xt, .int .u32 xr, .slice ax n cx] 59 (0, 0)) ∧ wr.heap[w.heap.size + 1]? = some (.cells #[.int .u16 0, .int .u32 0, .int .u32 0, .slice none 0 0] 59 (0, 0)) ∧ Below w.heap.size w wr) (fun i _ => n - (intOf i).toNat)
  case atStart => exact ⟨0, Nat.zero_le _, rfl, hP1, hbox, hres, hbw1⟩
  case round =>
    obtain ⟨k, hk, rfl, hP, hbx, hrs, hnx⟩ := hrel
    clear hP1 hbw1 hbox hres
    have hbc : wr.cell? ⟨w.heap.size, 3, none⟩ = some (.slice ax n cx) := by simp [World.cell?, hbx]
    have hsz := hnx.size
    by_cases hlt : k < n
    · obtain ⟨b, off, rfl, hbs, p1, p2, p3⟩ := hx k (by rw [HL.out]; exact hlt)
      have q1 := (hnx.cell (p := ⟨b, off + k * 3, none⟩) hbs).trans p1
      have q2 := (hnx.cell (p := ⟨b, off + k * 3 + 1, none⟩) hbs).trans p2
      have q3 := (hnx.cell (p := ⟨b, off + k * 3 + 2, none⟩) hbs).trans p3
      obtain ⟨cs, hr1, hr2⟩ := hP.row
      obtain ⟨⟨u0, d0⟩, f0⟩ := cells_can hr1 (k * 3) (by omega)
      obtain ⟨⟨u1, d1⟩, f1⟩ := cells_can hr1 (k * 3 + 1) (by omega)
      obtain ⟨⟨u2, d2⟩, f2⟩ := cells_can hr1 (k * 3 + 2) (by omega)
      have hki : (k : Int) < (n : Int) := by omega
      have hk0 : (0 : Int) ≤ (k : Int) := by omega
      have hP2 := hP.store hlt
      have HX : Hid (wr.heap[w.heap.size]? = some (.cells #[.int .u16 xo, .int .u32 xt, .int .u32 xr, .slice (some ⟨b, off, none⟩) n cx] 59 (0, 0))) := hbx
      have HP2 : Hid _ := hP2
      have HR : Hid _ := hrs
      clear hP2 hP hr1 hr2 p1 p2 p3 hx hbx hrs
      go_wp2
      go_roundw
      case rel => exact ⟨k + 1, by omega, by go_num, HP2.out, setFar3 HX.out (by omega) _ _ _ _ _ _, setFar3 HR.out (by omega) _ _ _ _ _ _, ((hnx.setCell (by show w.heap.size ≤ w.heap.size + 1 + 1; omega) _).setCell (by show w.heap.size ≤ w.heap.size + 1 + 1; omega) _).setCell (by show w.heap.size ≤ w.heap.size + 1 + 1; omega) _⟩
      case measure => simp [intOf]; omega
    · obtain rfl : k = n := by omega
      obtain ⟨hc, hf⟩ := block_cells hbx
      obtain ⟨hc', hf'⟩ := block_cells hrs
      have c0 := hc 0
      have c1 := hc 1
      have c2 := hc 2
      have r0 := hc' 0
      have r1 := hc' 1
      have r2 := hc' 2
      have r3 := hc' 3
      have hV := hP.view HL.out
      have HV : Hid _ := hV
      have HB : Hid _ := hnx
      have HX : Hid _ := hbx
      have HR : Hid _ := hrs
      clear hP hbx hrs hc hc' hx hV hnx
      go_wp2
      have hB4 := four_set (setFar1 HR.out (show w.heap.size + 1 ≠ w.heap.size by omega) 3 (.slice (some ⟨w.heap.size + 1 + 1, 0, none⟩) k k)) (.int .u16 xo) (.int .u32 xt) (.int .u32 xr) (.slice (some ⟨w.heap.size + 1 + 1, 0, none⟩) k k)
      have hBel := (HB.out.setCell (p := ⟨w.heap.size, 3, none⟩) (Nat.le_refl _) (.slice (some ⟨w.heap.size + 1 + 1, 0, none⟩) k k)).trans ((four_below (wr.setCell ⟨w.heap.size, 3, none⟩ (.slice (some ⟨w.heap.size + 1 + 1, 0, none⟩) k k)) (w.heap.size + 1) (.int .u16 xo) (.int .u32 xt) (.int .u32 xr) (.slice (some ⟨w.heap.size + 1 + 1, 0, none⟩) k k)).mono (show w.heap.size ≤ w.heap.size + 1 by omega))
      have hV2 := args_far HV.out (show w.heap.size ≠ w.heap.size + 2 by omega) 3 (.slice (some ⟨w.heap.size + 1 + 1, 0, none⟩) k k)
      have hV3 := args_far (args_far (args_far (args_far hV2 (show w.heap.size + 1 ≠ w.heap.size + 2 by omega) 0 (.int .u16 xo)) (show w.heap.size + 1 ≠ w.heap.size + 2 by omega) 1 (.int .u32 xt)) (show w.heap.size + 1 ≠ w.heap.size + 2 by omega) 2 (.int .u32 xr)) (show w.heap.size + 1 ≠ w.heap.size + 2 by omega) 3 (.slice (some ⟨w.heap.size + 1 + 1, 0, none⟩) k k)
      clear hV2 HV HB HR HX c0 c1 c2 r0 r1 r2 r3 hf hf'
      generalize ((((wr.setCell _ _).setCell _ _).setCell _ _).setCell _ _).setCell _ _ = W at hB4 hBel hV3 ⊢
      obtain ⟨hd, _⟩ := block_cells hB4
      have d0 := hd 0
      have d1 := hd 1
      have d2 := hd 2
      have d3 := hd 3
      refine bodyPost_ret (v := .agg #[.int .u16 xo, .int .u32 xt, .int .u32 xr, .slice (some ⟨w.heap.size + 1 + 1, 0, none⟩) k k]) ?_ rfl ⟨w.heap.size + 1 + 1, rfl, by omega, hV3, hBel⟩
      simp [results, Try.results23, go_sem, d0, d1, d2, d3]

end Go.Proofs.Ytckhgdjcofpijaa

/-
  CopyModule of the kit answers the module in new memory.
-/
namespace Go.Proofs.Ytckhgdjcofpijaa
open Go.RowKit

theorem CopyModule.info : (Try.prog.info? 59).map (fun i => (i.zero, i.size, i.bytes)) = some (some (.agg #[.int .u16 0, .int .u32 0, .int .u32 0, .slice none 0 0]), 4, 40) := by kernel_rfl

/-- The first k instructions lie in the row at g, their arguments in later blocks. -/
structure PartI (w : World) (g n k : Nat) (l : List InstT) : Prop where
  row : ∃ cs : Array Value, w.heap[g]? = some (.cells cs 59 (0, 0)) ∧ cs.size = n * 4
  each : ∀ j, j < k → ∃ gj nj, w.cell? ⟨g, j * 4, none⟩ = some (.int .u16 (nthI l j).1) ∧ w.cell? ⟨g, j * 4 + 1, none⟩ = some (.int .u32 (nthI l j).2.1) ∧ w.cell? ⟨g, j * 4 + 2, none⟩ = some (.int .u32 (nthI l j).2.2.1) ∧ w.cell? ⟨g, j * 4 + 3, none⟩ = some (.slice (some ⟨gj, 0, none⟩) nj nj) ∧
    (nthI l j).2.2.2.length = nj ∧ ArgsV w (some ⟨gj, 0, none⟩) (nthI l j).2.2.2 ∧ g < gj

theorem PartI.below {w w' : World} {g n k : Nat} {l : List InstT} (h : PartI w g n k l) (hb : Below w.heap.size w w') : PartI w' g n k l := by
  obtain ⟨⟨cs, h1, h2⟩, h3⟩ := h
  have hg : g < w.heap.size := (Array.getElem?_eq_some_iff.1 h1).1
  refine ⟨⟨cs, by rw [hb.block g hg]; exact h1, h2⟩, fun j hj => ?_⟩
  obtain ⟨gj, nj, c1, c2, c3, c4, c5, c6, c7⟩ := h3 j hj
  exact ⟨gj, nj, (hb.cell (p := ⟨g, j * 4, none⟩) hg).trans c1, (hb.cell (p := ⟨g, j * 4 + 1, none⟩) hg).trans c2, (hb.cell (p := ⟨g, j * 4 + 2, none⟩) hg).trans c3, (hb.cell (p := ⟨g, j * 4 + 3, none⟩) hg).trans c4, c5, c6.below hb, c7⟩

/-- An instruction is stored. -/
theorem PartI.store {w : World} {g n k : Nat} {l : List InstT} (h : PartI w g n k l) (hk : k < n) (gk nk : Nat) (hl : (nthI l k).2.2.2.length = nk) (hv : ArgsV w (some ⟨gk, 0, none⟩) (nthI l k).2.2.2) (hg : g < gk) :
    PartI ((((w.setCell ⟨g, k * 4, none⟩ (.int .u16 (nthI l k).1)).setCell ⟨g, k * 4 + 1, none⟩ (.int .u32 (nthI l k).2.1)).setCell ⟨g, k * 4 + 2, none⟩ (.int .u32 (nthI l k).2.2.1)).setCell ⟨g, k * 4 + 3, none⟩ (.slice (some ⟨gk, 0, none⟩) nk nk)) g n (k + 1) l := by
  obtain ⟨⟨cs, h1, h2⟩, h3⟩ := h
  obtain ⟨W, hW⟩ : ∃ W, W = (((w.setCell ⟨g, k * 4, none⟩ (.int .u16 (nthI l k).1)).setCell ⟨g, k * 4 + 1, none⟩ (.int .u32 (nthI l k).2.1)).setCell ⟨g, k * 4 + 2, none⟩ (.int .u32 (nthI l k).2.2.1)).setCell ⟨g, k * 4 + 3, none⟩ (.slice (some ⟨gk, 0, none⟩) nk nk) := ⟨_, rfl⟩
  have hb : W.heap[g]? = some (.cells ((((cs.setIfInBounds (k * 4) (.int .u16 (nthI l k).1)).setIfInBounds (k * 4 + 1) (.int .u32 (nthI l k).2.1)).setIfInBounds (k * 4 + 2) (.int .u32 (nthI l k).2.2.1)).setIfInBounds (k * 4 + 3) (.slice (some ⟨gk, 0, none⟩) nk nk)) 59 (0, 0)) := by
    rw [hW]; simp [World.setCell, Array.getElem?_modify, h1]
  have cell : ∀ j, W.cell? ⟨g, j, none⟩ = ((((cs.setIfInBounds (k * 4) (.int .u16 (nthI l k).1)).setIfInBounds (k * 4 + 1) (.int .u32 (nthI l k).2.1)).setIfInBounds (k * 4 + 2) (.int .u32 (nthI l k).2.2.1)).setIfInBounds (k * 4 + 3) (.slice (some ⟨gk, 0, none⟩) nk nk))[j]? := fun j => by
    simp [World.cell?, hb]
  have old : ∀ j, w.cell? ⟨g, j, none⟩ = cs[j]? := fun j => by simp [World.cell?, h1]
  have far : ∀ gj m, g < gj → ArgsV w (some ⟨gj, 0, none⟩) m → ArgsV W (some ⟨gj, 0, none⟩) m := fun gj m hlt hm => by
    rw [hW]
    exact args_far (args_far (args_far (args_far hm (by omega) _ _) (by omega) _ _) (by omega) _ _) (by omega) _ _
  rw [← hW]
  refine ⟨⟨_, hb, by simp [h2]⟩, fun j hj => ?_⟩
  by_cases hjk : j < k
  · obtain ⟨gj, nj, c1, c2, c3, c4, c5, c6, c7⟩ := h3 j hjk
    rw [old] at c1 c2 c3 c4
    refine ⟨gj, nj, ?_, ?_, ?_, ?_, c5, far _ _ c7 c6, c7⟩
    all_goals rw [cell, Array.getElem?_setIfInBounds_ne (by omega), Array.getElem?_setIfInBounds_ne (by omega), Array.getElem?_setIfInBounds_ne (by omega), Array.getElem?_setIfInBounds_ne (by omega)]
    · exact c1
    · exact c2
    · exact c3
    · exact c4
  · obtain rfl : j = k := by omega
    refine ⟨gk, nk, ?_, ?_, ?_, ?_, hl, far _ _ hg hv, hg⟩
    · rw [cell, Array.getElem?_setIfInBounds_ne (by omega), Array.getElem?_setIfInBounds_ne (by omega), Array.getElem?_setIfInBounds_ne (by omega), Array.getElem?_setIfInBounds_self_of_lt (by omega)]
    · rw [cell, Array.getElem?_setIfInBounds_ne (by omega), Array.getElem?_setIfInBounds_ne (by omega), Array.getElem?_setIfInBounds_self_of_lt (by simp; omega)]
    · rw [cell, Array.getElem?_setIfInBounds_ne (by omega), Array.getElem?_setIfInBounds_self_of_lt (by simp; omega)]
    · rw [cell, Array.getElem?_setIfInBounds_self_of_lt (by simp; omega)]

theorem PartI.view {w : World} {g n : Nat} {l : List InstT} (h : PartI w g n n l) (hl : l.length = n) : InstsV w (some ⟨g, 0, none⟩) l := by
  intro j hj
  obtain ⟨gj, nj, c1, c2, c3, c4, c5, c6, c7⟩ := h.each j (by omega)
  exact ⟨g, 0, some ⟨gj, 0, none⟩, nj, nj, rfl, World.block_lt_of_cell? _ _ c1, by rw [Nat.zero_add]; exact c1, by rw [Nat.zero_add]; exact c2, by rw [Nat.zero_add]; exact c3, by rw [Nat.zero_add]; exact c4, c5, c6, Nat.le_refl _⟩

theorem PartI.far {w : World} {g n k : Nat} {l : List InstT} (h : PartI w g n k l) {b : Nat} (hb : b < g) (i : Nat) (v : Value) : PartI (w.setCell ⟨b, i, none⟩ v) g n k l := by
  obtain ⟨⟨cs, h1, h2⟩, h3⟩ := h
  have hx : (w.setCell ⟨b, i, none⟩ v).heap[g]? = w.heap[g]? := Below.heap_setCell _ _ _ _ (by simp; omega)
  have hc : ∀ j, (w.setCell ⟨b, i, none⟩ v).cell? ⟨g, j, none⟩ = w.cell? ⟨g, j, none⟩ := fun j => by simp only [World.cell?, hx]
  refine ⟨⟨cs, by rw [hx]; exact h1, h2⟩, fun j hj => ?_⟩
  obtain ⟨gj, nj, c1, c2, c3, c4, c5, c6, c7⟩ := h3 j hj
  exact ⟨gj, nj, by rw [hc]; exact c1, by rw [hc]; exact c2, by rw [hc]; exact c3, by rw [hc]; exact c4, c5, args_far c6 (by omega) _ _, c7⟩

theorem three_set3 {w : World} {B T : Nat} {z0 z1 z2 : Value} (h : w.heap[B]? = some (.cells #[z0, z1, z2] T (0, 0))) (u0 u1 u2 : Value) :
    (((w.setCell ⟨B, 0, none⟩ u0).setCell ⟨B, 1, none⟩ u1).setCell ⟨B, 2, none⟩ u2).heap[B]? = some (.cells #[u0, u1, u2] T (0, 0)) := by
  simp only [World.setCell, Array.getElem?_modify, h]; simp
theorem three_below3 (w : World) (B : Nat) (u0 u1 u2 : Value) : Below B w (((w.setCell ⟨B, 0, none⟩ u0).setCell ⟨B, 1, none⟩ u1).setCell ⟨B, 2, none⟩ u2) :=
  (((Below.refl B w).setCell (Nat.le_refl _) _).setCell (Nat.le_refl _) _).setCell (Nat.le_refl _) _

set_option maxRecDepth 100000 in
set_option maxHeartbeats 4000000 in
theorem copyModule_any (gen bound : Int) (ax : Option Addr) (n cx : Nat) (l : List InstT) (w : World) (hx : InstsV w ax l) (hok : InstsOk l) (hl : l.length = n) (hn : 40 * n ≤ 140737488351232) :
    Calls Try.prog 8 #[modV gen bound ax n cx] w fun e w' => ∃ g, e = .returned (modV gen bound (some ⟨g, 0, none⟩) n n) ∧ w.heap.size ≤ g ∧ InstsV w' (some ⟨g, 0, none⟩) l ∧ Below w.heap.size w w' := by
  obtain ⟨i0, hi, hz0, hz1, hz2⟩ := info_parts CopyModule.info
  unfold modV
  have HL : Hid (l.length = n) := hl
  clear hl
  go_enter Try.func8, Try.ntmps8
  go_wp2_with (at_make; refine wpList_make_full _ rfl _ _ 23 rfl (w.heap.size + 2) 59 i0 (.agg #[.int .u16 0, .int .u32 0, .int .u32 0, .slice none 0 0]) 4 Try.underlying23 hi hz0 hz1 _ _ _ _ n rfl rfl (by omega) (by omega) (by rw [hz2]; omega) (by unfold maxLen; omega) (by simp) ?_)
  intro w1 hown1 hgrow1
  have hb0 : Below w.heap.size w ((w.alloc (.cells #[.int .u32 gen, .int .u32 bound, .slice ax n cx] 25)).alloc (.cells #[.int .u32 0, .int .u32 0, .slice none 0 0] 25)) := ((Below.refl _ w).alloc (Nat.le_refl _) _).alloc (by simp) _
  have hb1 : Below (w.heap.size + 2) ((w.alloc (.cells #[.int .u32 gen, .int .u32 bound, .slice ax n cx] 25)).alloc (.cells #[.int .u32 0, .int .u32 0, .slice none 0 0] 25)) w1 := (Below.refl _ _).grown hgrow1 (by simp) (by simp)
  have hbox : w1.heap[w.heap.size]? = some (.cells #[.int .u32 gen, .int .u32 bound, .slice ax n cx] 25 (0, 0)) := (hb1.block w.heap.size (by omega)).trans ((Below.heap_alloc _ _ _ (by simp)).trans (heap_alloc_new w _))
  have hres : w1.heap[w.heap.size + 1]? = some (.cells #[.int .u32 0, .int .u32 0, .slice none 0 0] 25 (0, 0)) := (hb1.block (w.heap.size + 1) (by omega)).trans (by simpa using heap_alloc_new (w.alloc (.cells #[.int .u32 gen, .int .u32 bound, .slice ax n cx] 25)) (.cells #[.int .u32 0, .int .u32 0, .slice none 0 0] 25))
  have hP1 : PartI w1 (w.heap.size + 2) n 0 l := by
    refine ⟨?_, fun j hj => by omega⟩
    rcases hown1.2 with ⟨h, _⟩ | ⟨g, cap', cur, h1, h2, h3, h4, h5, h6, _⟩
    · simp at h
    · simp at h1; obtain ⟨rfl, rfl⟩ := h1; exact ⟨cur, h3, h6⟩
  have hbw1 : Below w.heap.size w w1 := hb0.trans (hb1.mono (by omega))
  clear hown1 hgrow1 hb0 hb1
  go_wp2
  go_loopw [4] (fun i wr => ∃ k : Nat, k ≤ n ∧ i = .int .i64 k ∧ PartI wr (w.heap.size + 2) n k l ∧ wr.heap[w.heap.size]? = some (.cells #[.int .u32 gen, .int .u32 bound, .slice ax n cx] 25 (0, 0)) ∧ wr.heap[w.heap.size + 1]? = some (.cells #[.int .u32 0, .int .u32 0, .slice none 0 0] 25 (0, 0)) ∧ Below w.heap.size w wr) (fun i _ => n - (intOf i).toNat)
  case atStart => exact ⟨0, Nat.zero_le _, rfl, hP1, hbox, hres, hbw1⟩
  case round =>
    obtain ⟨k, hk, rfl, hP, hbx, hrs, hnx⟩ := hrel
    clear hP1 hbw1 hbox hres
    have hbc : wr.cell? ⟨w.heap.size, 2, none⟩ = some (.slice ax n cx) := by simp [World.cell?, hbx]
    have hsz := hnx.size
    by_cases hlt : k < n
    · obtain ⟨b, off, aj, cj, nj, rfl, hbs, p1, p2, p3, p4, p5, p6, _⟩ := hx k (by rw [HL.out]; exact hlt)
      have q1 := (hnx.cell (p := ⟨b, off + k * 4, none⟩) hbs).trans p1
      have q2 := (hnx.cell (p := ⟨b, off + k * 4 + 1, none⟩) hbs).trans p2
      have q3 := (hnx.cell (p := ⟨b, off + k * 4 + 2, none⟩) hbs).trans p3
      have q4 := (hnx.cell (p := ⟨b, off + k * 4 + 3, none⟩) hbs).trans p4
      obtain ⟨cs, hr1, hr2⟩ := hP.row
      have hgl : w.heap.size + 1 + 1 < wr.heap.size := (Array.getElem?_eq_some_iff.1 hr1).1
      obtain ⟨⟨u0, d0⟩, f0⟩ := cells_can hr1 (k * 4) (by omega)
      obtain ⟨⟨u1, d1⟩, f1⟩ := cells_can hr1 (k * 4 + 1) (by omega)
      obtain ⟨⟨u2, d2⟩, f2⟩ := cells_can hr1 (k * 4 + 2) (by omega)
      obtain ⟨⟨u3, d3⟩, f3⟩ := cells_can hr1 (k * 4 + 3) (by omega)
      have hki : (k : Int) < (n : Int) := by omega
      have hk0 : (0 : Int) ≤ (k : Int) := by omega
      have s1 := (hok k (by rw [HL.out]; exact hlt)).2.2.2.2.2.2.2
      rw [p5] at s1
      have hC := fun wx (hb : Below wr.heap.size wr wx) => copyInst_any (nthI l k) aj nj cj wx ((p6.below hnx).below hb) p5 s1
      unfold instV at hC
      have hbs' : b < wr.heap.size := by omega
      have HX : Hid (wr.heap[w.heap.size]? = some (.cells #[.int .u32 gen, .int .u32 bound, .slice (some ⟨b, off, none⟩) n cx] 25 (0, 0))) := hbx
      have HR : Hid _ := hrs
      have HP : Hid (PartI wr (w.heap.size + 2) n k l) := hP
      have HV3 : Hid ((nthI l k).2.2.2.length = nj) := p5
      clear p1 p2 p3 p4 p5 p6 hr1 hr2 hP hx hok hbx hrs s1
      go_wp2_with fail
      refine (hC _ (Below.refl _ _)).mono ?_
      rintro e w' ⟨g', rfl, hg', hvC, hbC⟩
      have e1 := (hbC.cell (p := ⟨w.heap.size + 1 + 1, k * 4, none⟩) (by exact hgl)).trans d0
      have e2 := (hbC.cell (p := ⟨w.heap.size + 1 + 1, k * 4 + 1, none⟩) (by exact hgl)).trans d1
      have e3 := (hbC.cell (p := ⟨w.heap.size + 1 + 1, k * 4 + 2, none⟩) (by exact hgl)).trans d2
      have e4 := (hbC.cell (p := ⟨w.heap.size + 1 + 1, k * 4 + 3, none⟩) (by exact hgl)).trans d3
      have e5 := (hbC.frozen (p := ⟨w.heap.size + 1 + 1, k * 4, none⟩) (by exact hgl)).trans f0
      have e6 := (hbC.frozen (p := ⟨w.heap.size + 1 + 1, k * 4 + 1, none⟩) (by exact hgl)).trans f1
      have e7 := (hbC.frozen (p := ⟨w.heap.size + 1 + 1, k * 4 + 2, none⟩) (by exact hgl)).trans f2
      have e8 := (hbC.frozen (p := ⟨w.heap.size + 1 + 1, k * 4 + 3, none⟩) (by exact hgl)).trans f3
      have hP2 := (HP.out.below hbC).store hlt g' nj HV3.out hvC (by omega)
      have hX2 := (hbC.block w.heap.size (by omega)).trans HX.out
      have hR2 := (hbC.block (w.heap.size + 1) (by omega)).trans HR.out
      have hB2 := hnx.trans (hbC.mono hsz)
      have HP2 : Hid _ := hP2
      have HX2 : Hid _ := hX2
      have HR2 : Hid _ := hR2
      have HB2 : Hid _ := hB2
      clear hP2 hX2 hR2 hB2 hvC hbC HP HX HR d0 d1 d2 d3 f0 f1 f2 f3 hC
      go_wp2
      go_roundw
      case rel => exact ⟨k + 1, by omega, by go_num, HP2.out, setFar1 (setFar3 HX2.out (by omega) _ _ _ _ _ _) (by omega) _ _, setFar1 (setFar3 HR2.out (by omega) _ _ _ _ _ _) (by omega) _ _, (((HB2.out.setCell (by show w.heap.size ≤ w.heap.size + 1 + 1; omega) _).setCell (by show w.heap.size ≤ w.heap.size + 1 + 1; omega) _).setCell (by show w.heap.size ≤ w.heap.size + 1 + 1; omega) _).setCell (by show w.heap.size ≤ w.heap.size + 1 + 1; omega) _⟩
      case measure => simp [intOf]; omega
    · obtain rfl : k = n := by omega
      obtain ⟨hc, hf⟩ := block_cells hbx
      obtain ⟨hc', hf'⟩ := block_cells hrs
      have c0 := hc 0
      have c1 := hc 1
      have r0 := hc' 0
      have r1 := hc' 1
      have r2 := hc' 2
      have HP : Hid _ := hP
      have HB : Hid _ := hnx
      have HX : Hid _ := hbx
      have HR : Hid _ := hrs
      clear hP hbx hrs hc hc' hx hnx
      go_wp2
      have hB3 := three_set3 (setFar1 HR.out (show w.heap.size + 1 ≠ w.heap.size by omega) 2 (.slice (some ⟨w.heap.size + 1 + 1, 0, none⟩) k k)) (.int .u32 gen) (.int .u32 bound) (.slice (some ⟨w.heap.size + 1 + 1, 0, none⟩) k k)
      have hBel := (HB.out.setCell (p := ⟨w.heap.size, 2, none⟩) (Nat.le_refl _) (.slice (some ⟨w.heap.size + 1 + 1, 0, none⟩) k k)).trans ((three_below3 (wr.setCell ⟨w.heap.size, 2, none⟩ (.slice (some ⟨w.heap.size + 1 + 1, 0, none⟩) k k)) (w.heap.size + 1) (.int .u32 gen) (.int .u32 bound) (.slice (some ⟨w.heap.size + 1 + 1, 0, none⟩) k k)).mono (show w.heap.size ≤ w.heap.size + 1 by omega))
      have hV3 := (((((HP.out.far (b := w.heap.size) (by omega) 2 (.slice (some ⟨w.heap.size + 1 + 1, 0, none⟩) k k)).far (b := w.heap.size + 1) (by omega) 0 (.int .u32 gen)).far (b := w.heap.size + 1) (by omega) 1 (.int .u32 bound)).far (b := w.heap.size + 1) (by omega) 2 (.slice (some ⟨w.heap.size + 1 + 1, 0, none⟩) k k))).view HL.out
      clear HP HB HR HX c0 c1 r0 r1 r2 hf hf'
      generalize (((wr.setCell _ _).setCell _ _).setCell _ _).setCell _ _ = W at hB3 hBel hV3 ⊢
      obtain ⟨hd, _⟩ := block_cells hB3
      have d0 := hd 0
      have d1 := hd 1
      have d2 := hd 2
      refine bodyPost_ret (v := .agg #[.int .u32 gen, .int .u32 bound, .slice (some ⟨w.heap.size + 1 + 1, 0, none⟩) k k]) ?_ rfl ⟨w.heap.size + 1 + 1, rfl, by omega, hV3, hBel⟩
      simp [results, Try.results8, go_sem, d0, d1, d2]

end Go.Proofs.Ytckhgdjcofpijaa

/-
  Two equal rows of places are equal.
-/
namespace Go.Proofs.Ytckhgdjcofpijaa
open Go.RowKit
set_option maxRecDepth 10000

theorem equal_int (w : World) (d : Nat) (a : Int) : (Op.equalIn (d + 1) 3 (.int .i64 a) (.int .i64 a)).run Try.prog w = .ok true w := by
  unfold Op.equalIn
  rw [Sem.run_bind, run_underlying Try.underlying3]
  simp
set_option maxHeartbeats 4000000 in
theorem equal_span (w : World) (d : Nat) (a b : Int) : (Op.equalIn (d + 2) 34 (.agg #[.int .i64 a, .int .i64 b]) (.agg #[.int .i64 a, .int .i64 b])).run Try.prog w = .ok true w := by
  have hs : Try.prog.stoodInHeld 34 = false := by kernel_rfl
  have p0 : (part 3 #[.int .i64 a, .int .i64 b] 0).run Try.prog w = .ok (.int .i64 a) w := by simp [part, go_sem]
  have p1 : (part 3 #[.int .i64 a, .int .i64 b] 1).run Try.prog w = .ok (.int .i64 b) w := by simp [part, go_sem]
  unfold Op.equalIn
  rw [Sem.run_bind, run_underlying Try.underlying34]
  simp [hs, p0, p1, equal_int]
theorem eq_items (w : World) (d : Nat) (xs : Array Value) : ∀ is : List Nat, (∀ i ∈ is, ∃ a b : Int, (part 34 xs (i * 2)).run Try.prog w = .ok (.agg #[.int .i64 a, .int .i64 b]) w) → (Op.eqItems (d + 2) 34 2 xs xs is).run Try.prog w = .ok true w
  | [], _ => by simp [Op.eqItems]
  | i :: is, h => by
    obtain ⟨a, b, hp⟩ := h i (by simp)
    have ih := eq_items w d xs is (fun j hj => h j (by simp [hj]))
    simp only [Op.eqItems, Sem.run_bind, hp, Result.andThen_ok, equal_span]
    simpa using ih
theorem part_span (w : World) (xs : Array Value) (off : Nat) (a b : Int) (h0 : xs[off]? = some (.int .i64 a)) (h1 : xs[off + 1]? = some (.int .i64 b)) : (part 34 xs off).run Try.prog w = .ok (.agg #[.int .i64 a, .int .i64 b]) w := by
  have e : xs.extract off (off + 2) = #[.int .i64 a, .int .i64 b] := by
    have l1 := (Array.getElem?_eq_some_iff.1 h1).1
    apply Array.ext_getElem?
    intro i
    rw [Array.getElem?_extract]
    match i with
    | 0 => rw [if_pos (by omega)]; exact h0
    | 1 => rw [if_pos (by omega)]; exact h1
    | m + 2 => rw [if_neg (by omega)]; rfl
  unfold part
  simp [go_sem, e]
theorem equal_spans (w : World) (f : Nat → Int) : (Op.equalIn 10000 35 (.agg #[.int .i64 (f 0), .int .i64 (f 1), .int .i64 (f 2), .int .i64 (f 3), .int .i64 (f 4), .int .i64 (f 5), .int .i64 (f 6), .int .i64 (f 7), .int .i64 (f 8), .int .i64 (f 9), .int .i64 (f 10), .int .i64 (f 11), .int .i64 (f 12), .int .i64 (f 13), .int .i64 (f 14), .int .i64 (f 15), .int .i64 (f 16), .int .i64 (f 17), .int .i64 (f 18), .int .i64 (f 19)]) (.agg #[.int .i64 (f 0), .int .i64 (f 1), .int .i64 (f 2), .int .i64 (f 3), .int .i64 (f 4), .int .i64 (f 5), .int .i64 (f 6), .int .i64 (f 7), .int .i64 (f 8), .int .i64 (f 9), .int .i64 (f 10), .int .i64 (f 11), .int .i64 (f 12), .int .i64 (f 13), .int .i64 (f 14), .int .i64 (f 15), .int .i64 (f 16), .int .i64 (f 17), .int .i64 (f 18), .int .i64 (f 19)])).run Try.prog w = .ok true w := by
  obtain ⟨i, hi⟩ : ∃ i, Try.prog.info? 34 = some i := ⟨_, rfl⟩
  rw [run_equalIn_array w 9999 _ _ Try.underlying35 hi]
  have hc : Try.prog.cellsOf 34 = 2 := by kernel_rfl
  rw [hc]
  refine eq_items w 9997 _ _ fun i hi => ⟨f (i * 2), f (i * 2 + 1), part_span w _ _ _ _ ?_ ?_⟩
  · rw [List.mem_range] at hi
    match i, hi with
    | 0, _ => rfl
    | 1, _ => rfl
    | 2, _ => rfl
    | 3, _ => rfl
    | 4, _ => rfl
    | 5, _ => rfl
    | 6, _ => rfl
    | 7, _ => rfl
    | 8, _ => rfl
    | 9, _ => rfl
    | m + 10, h => exact absurd h (by omega)
  · rw [List.mem_range] at hi
    match i, hi with
    | 0, _ => rfl
    | 1, _ => rfl
    | 2, _ => rfl
    | 3, _ => rfl
    | 4, _ => rfl
    | 5, _ => rfl
    | 6, _ => rfl
    | 7, _ => rfl
    | 8, _ => rfl
    | 9, _ => rfl
    | m + 10, h => exact absurd h (by omega)
end Go.Proofs.Ytckhgdjcofpijaa

/-
  The law LayoutParts: every Parts.
-/
namespace Go.Proofs.Ytckhgdjcofpijaa
open Go.RowKit
set_option linter.unusedVariables false
set_option linter.unusedSimpArgs false
set_option maxRecDepth 10000

/-- Places and a spot, laid into two new boxes. -/
theorem kept_parts (w1 : World) (f : Nat → Int) (e1 e2 : Int) :
    let W2 := (w1.alloc (.cells #[.int .i64 0, .int .i64 0, .int .i64 0, .int .i64 0, .int .i64 0, .int .i64 0, .int .i64 0, .int .i64 0, .int .i64 0, .int .i64 0, .int .i64 0, .int .i64 0, .int .i64 0, .int .i64 0, .int .i64 0, .int .i64 0, .int .i64 0, .int .i64 0, .int .i64 0, .int .i64 0] 35)).alloc (.cells #[.int .i64 0, .int .i64 0] 29)
    let X := (W2.setCells w1.heap.size 0 [.int .i64 (f 0), .int .i64 (f 1), .int .i64 (f 2), .int .i64 (f 3), .int .i64 (f 4), .int .i64 (f 5), .int .i64 (f 6), .int .i64 (f 7), .int .i64 (f 8), .int .i64 (f 9), .int .i64 (f 10), .int .i64 (f 11), .int .i64 (f 12), .int .i64 (f 13), .int .i64 (f 14), .int .i64 (f 15), .int .i64 (f 16), .int .i64 (f 17), .int .i64 (f 18), .int .i64 (f 19)]).setCells (w1.heap.size + 1) 0 [.int .i64 e1, .int .i64 e2]
    W2.there w1.heap.size 0 20 ∧ (W2.setCells w1.heap.size 0 [.int .i64 (f 0), .int .i64 (f 1), .int .i64 (f 2), .int .i64 (f 3), .int .i64 (f 4), .int .i64 (f 5), .int .i64 (f 6), .int .i64 (f 7), .int .i64 (f 8), .int .i64 (f 9), .int .i64 (f 10), .int .i64 (f 11), .int .i64 (f 12), .int .i64 (f 13), .int .i64 (f 14), .int .i64 (f 15), .int .i64 (f 16), .int .i64 (f 17), .int .i64 (f 18), .int .i64 (f 19)]).there (w1.heap.size + 1) 0 2 ∧ X.heap[w1.heap.size]? = some (.cells #[.int .i64 (f 0), .int .i64 (f 1), .int .i64 (f 2), .int .i64 (f 3), .int .i64 (f 4), .int .i64 (f 5), .int .i64 (f 6), .int .i64 (f 7), .int .i64 (f 8), .int .i64 (f 9), .int .i64 (f 10), .int .i64 (f 11), .int .i64 (f 12), .int .i64 (f 13), .int .i64 (f 14), .int .i64 (f 15), .int .i64 (f 16), .int .i64 (f 17), .int .i64 (f 18), .int .i64 (f 19)] 35 (0, 0)) ∧ X.heap[w1.heap.size + 1]? = some (.cells #[.int .i64 e1, .int .i64 e2] 29 (0, 0)) ∧ Below w1.heap.size w1 X ∧ w1.heap.size + 1 < X.heap.size := by
  intro W2 X
  have h1 : W2.heap[w1.heap.size]? = some (.cells #[.int .i64 0, .int .i64 0, .int .i64 0, .int .i64 0, .int .i64 0, .int .i64 0, .int .i64 0, .int .i64 0, .int .i64 0, .int .i64 0, .int .i64 0, .int .i64 0, .int .i64 0, .int .i64 0, .int .i64 0, .int .i64 0, .int .i64 0, .int .i64 0, .int .i64 0, .int .i64 0] 35 (0, 0)) := by
    show (World.alloc _ _).heap[_]? = _
    rw [Below.heap_alloc _ _ _ (by simp)]; exact heap_alloc_new w1 _
  have h2 : W2.heap[w1.heap.size + 1]? = some (.cells #[.int .i64 0, .int .i64 0] 29 (0, 0)) := by
    have := heap_alloc_new (w1.alloc (.cells #[.int .i64 0, .int .i64 0, .int .i64 0, .int .i64 0, .int .i64 0, .int .i64 0, .int .i64 0, .int .i64 0, .int .i64 0, .int .i64 0, .int .i64 0, .int .i64 0, .int .i64 0, .int .i64 0, .int .i64 0, .int .i64 0, .int .i64 0, .int .i64 0, .int .i64 0, .int .i64 0] 35)) (.cells #[.int .i64 0, .int .i64 0] 29)
    rw [World.size_alloc] at this
    exact this
  have hg := setCells_grown w1.heap.size [.int .i64 (f 0), .int .i64 (f 1), .int .i64 (f 2), .int .i64 (f 3), .int .i64 (f 4), .int .i64 (f 5), .int .i64 (f 6), .int .i64 (f 7), .int .i64 (f 8), .int .i64 (f 9), .int .i64 (f 10), .int .i64 (f 11), .int .i64 (f 12), .int .i64 (f 13), .int .i64 (f 14), .int .i64 (f 15), .int .i64 (f 16), .int .i64 (f 17), .int .i64 (f 18), .int .i64 (f 19)] 0 W2
  have hs : W2.heap.size = w1.heap.size + 2 := by show (World.alloc _ _).heap.size = _; simp
  have hb2 : Below w1.heap.size w1 W2 := ((Below.refl _ w1).alloc (Nat.le_refl _) _).alloc (by simp) _
  have k2 := (hg.block (w1.heap.size + 1) (by omega) (by simp)).trans h2
  have hg2 := setCells_grown (w1.heap.size + 1) [.int .i64 e1, .int .i64 e2] 0 (W2.setCells w1.heap.size 0 [.int .i64 (f 0), .int .i64 (f 1), .int .i64 (f 2), .int .i64 (f 3), .int .i64 (f 4), .int .i64 (f 5), .int .i64 (f 6), .int .i64 (f 7), .int .i64 (f 8), .int .i64 (f 9), .int .i64 (f 10), .int .i64 (f 11), .int .i64 (f 12), .int .i64 (f 13), .int .i64 (f 14), .int .i64 (f 15), .int .i64 (f 16), .int .i64 (f 17), .int .i64 (f 18), .int .i64 (f 19)])
  have hs2 : w1.heap.size + 1 < (W2.setCells w1.heap.size 0 [.int .i64 (f 0), .int .i64 (f 1), .int .i64 (f 2), .int .i64 (f 3), .int .i64 (f 4), .int .i64 (f 5), .int .i64 (f 6), .int .i64 (f 7), .int .i64 (f 8), .int .i64 (f 9), .int .i64 (f 10), .int .i64 (f 11), .int .i64 (f 12), .int .i64 (f 13), .int .i64 (f 14), .int .i64 (f 15), .int .i64 (f 16), .int .i64 (f 17), .int .i64 (f 18), .int .i64 (f 19)]).heap.size := Nat.lt_of_lt_of_le (show w1.heap.size + 1 < W2.heap.size by omega) hg.size
  refine ⟨there_of_block h1 20 rfl, there_of_block k2 2 rfl, (hg2.block _ (by omega) (by simp)).trans (setCells_all [.int .i64 (f 0), .int .i64 (f 1), .int .i64 (f 2), .int .i64 (f 3), .int .i64 (f 4), .int .i64 (f 5), .int .i64 (f 6), .int .i64 (f 7), .int .i64 (f 8), .int .i64 (f 9), .int .i64 (f 10), .int .i64 (f 11), .int .i64 (f 12), .int .i64 (f 13), .int .i64 (f 14), .int .i64 (f 15), .int .i64 (f 16), .int .i64 (f 17), .int .i64 (f 18), .int .i64 (f 19)] h1 rfl), setCells_all [.int .i64 e1, .int .i64 e2] k2 rfl, below_grown (below_grown hb2 hg (fun g e => by simp at e; omega)) hg2 (fun g e => by simp at e; omega), Nat.lt_of_lt_of_le hs2 hg2.size⟩

set_option maxHeartbeats 8000000 in
theorem layoutParts_true (w : World) (gen bnd : Int) (a : Option Addr) (n c : Nat) (l : List InstT) (hl : l.length = n) (hv : InstsV w a l) (hok : InstsOk l) (hn : 40 * n ≤ 140737488351232) (hc : n ≤ c) (hgb : 0 ≤ gen ∧ gen < 4294967296 ∧ 0 ≤ bnd ∧ bnd < 4294967296) :
    Calls Try.prog 4 #[.agg #[.int .u32 gen, .int .u32 bnd, .slice a n c]] w fun e w' => e = .returned (.bool true) ∧ Below w.heap.size w w' := by
  obtain ⟨g0, g1, b0, b1⟩ := hgb
  have hba : Below w.heap.size w (w.alloc (.cells #[.int .u32 gen, .int .u32 bnd, .slice a n c] 25)) := (Below.refl _ w).alloc (Nat.le_refl _) _
  have hRp := refParts5_any gen bnd a n c l _ (hv.below hba) hok hl hn b0 b1
  have HCp := hide fun wx (h : InstsV wx a l) => copyModule_any gen bnd a n c l wx h hok hl hn
  have HPp := hide fun wx ax m cx (h : InstsV wx ax l) (hm : l.length = m) (hm2 : 40 * m ≤ 140737488351232) => layParts_any gen bnd ax m cx l wx h hok hm hm2 g0 g1 b0 b1
  have HM0 := hide (heap_alloc_new w (.cells #[.int .u32 gen, .int .u32 bnd, .slice a n c] 25))
  have HBA := hide hba
  have HV := hide hv
  have HL := hide hl
  have HN := hide hn
  have HLW : Hid (w.heap.size < (w.alloc (.cells #[.int .u32 gen, .int .u32 bnd, .slice a n c] 25)).heap.size) := by show _ < _; simp
  unfold modV partsV at *
  generalize partsF bnd l = f at *
  generalize (layE bnd l).1 = e1 at *
  generalize ((layE bnd l).2 : Int) = e2 at *
  clear hba hv hok hl hn
  go_enter Try.func4, Try.ntmps4
  go_wp2_with fail
  generalize w.alloc (.cells #[.int .u32 gen, .int .u32 bnd, .slice a n c] 25) = W0 at *
  refine hRp.mono ?_
  rintro e w1 ⟨rfl, hb1⟩
  obtain ⟨k1, k2, k3, k4, k5, k6⟩ := kept_parts w1 f e1 e2
  have HK1 := hide k1
  have HK2 := hide k2
  have HK3 := hide k3
  have HK4 := hide k4
  have HK5 := hide (hb1.trans (k5.mono hb1.size))
  have HK6 := hide k6
  have HS1 : Hid (W0.heap.size ≤ w1.heap.size) := hb1.size
  clear k1 k2 k3 k4 k5 k6 hRp hb1
  go_wp2_with (with_reducible refine stopS 35 ?_)
  refine wpList_store_mid rfl 35 (.tmp 3) (.tmp 10) rfl w1.heap.size 0 #[.int .i64 (f 0), .int .i64 (f 1), .int .i64 (f 2), .int .i64 (f 3), .int .i64 (f 4), .int .i64 (f 5), .int .i64 (f 6), .int .i64 (f 7), .int .i64 (f 8), .int .i64 (f 9), .int .i64 (f 10), .int .i64 (f 11), .int .i64 (f 12), .int .i64 (f 13), .int .i64 (f 14), .int .i64 (f 15), .int .i64 (f 16), .int .i64 (f 17), .int .i64 (f 18), .int .i64 (f 19)] rfl rfl HK1.out (by kernel_rfl) (by simp [Value.oneCell']) ?_
  simp only [Act.put]
  refine wpList_store_mid rfl 29 (.tmp 4) (.tmp 11) rfl (w1.heap.size + 1) 0 #[.int .i64 e1, .int .i64 e2] rfl rfl HK2.out (by kernel_rfl) (by simp [Value.oneCell']) ?_
  simp only [Act.put]
  generalize (((w1.alloc (.cells #[.int .i64 0, .int .i64 0, .int .i64 0, .int .i64 0, .int .i64 0, .int .i64 0, .int .i64 0, .int .i64 0, .int .i64 0, .int .i64 0, .int .i64 0, .int .i64 0, .int .i64 0, .int .i64 0, .int .i64 0, .int .i64 0, .int .i64 0, .int .i64 0, .int .i64 0, .int .i64 0] 35)).alloc (.cells #[.int .i64 0, .int .i64 0] 29)).setCells w1.heap.size 0 [.int .i64 (f 0), .int .i64 (f 1), .int .i64 (f 2), .int .i64 (f 3), .int .i64 (f 4), .int .i64 (f 5), .int .i64 (f 6), .int .i64 (f 7), .int .i64 (f 8), .int .i64 (f 9), .int .i64 (f 10), .int .i64 (f 11), .int .i64 (f 12), .int .i64 (f 13), .int .i64 (f 14), .int .i64 (f 15), .int .i64 (f 16), .int .i64 (f 17), .int .i64 (f 18), .int .i64 (f 19)]).setCells (w1.heap.size + 1) 0 [.int .i64 e1, .int .i64 e2] = X at *
  clear HK1 HK2
  have hBX := HBA.out.trans (HK5.out.mono HBA.out.size)
  have HBX := hide hBX
  have hl0 := HLW.out
  have hs1 := HS1.out
  have hlx := HK6.out
  have hwX : w.heap.size < X.heap.size := by omega
  obtain ⟨cm, _⟩ := one_block ((HK5.out.block w.heap.size hl0).trans HM0.out)
  have m0 := cm 0
  have m1 := cm 1
  have m2 := cm 2
  have hCp := HCp.out X (HV.out.below hBX)
  clear cm hBX
  go_wp2_with fail
  refine hCp.mono ?_
  rintro e w2 ⟨g, rfl, hg, hV2, hb2⟩
  have hPp := HPp.out w2 (some ⟨g, 0, none⟩) n n hV2 HL.out HN.out
  have HB2 := hide hb2
  clear hCp HCp HPp hV2 hb2 m0 m1 m2
  go_wp2_with fail
  refine hPp.mono ?_
  rintro e w3 ⟨rfl, hb3⟩
  obtain ⟨k1, k2, k3, k4, k5, k6⟩ := kept_parts w3 f e1 e2
  have HJ1 := hide k1
  have HJ2 := hide k2
  have HJ3 := hide k3
  have HJ4 := hide k4
  have HJ5 := hide (HB2.out.trans ((hb3.trans (k5.mono hb3.size)).mono HB2.out.size))
  have HJ6 := hide k6
  have HS3 : Hid (X.heap.size ≤ w3.heap.size) := Nat.le_trans HB2.out.size hb3.size
  clear k1 k2 k3 k4 k5 k6 hPp hb3 HB2
  go_wp2_with (with_reducible refine stopS 35 ?_)
  refine wpList_store_mid rfl 35 (.tmp 5) (.tmp 16) rfl w3.heap.size 0 #[.int .i64 (f 0), .int .i64 (f 1), .int .i64 (f 2), .int .i64 (f 3), .int .i64 (f 4), .int .i64 (f 5), .int .i64 (f 6), .int .i64 (f 7), .int .i64 (f 8), .int .i64 (f 9), .int .i64 (f 10), .int .i64 (f 11), .int .i64 (f 12), .int .i64 (f 13), .int .i64 (f 14), .int .i64 (f 15), .int .i64 (f 16), .int .i64 (f 17), .int .i64 (f 18), .int .i64 (f 19)] rfl rfl HJ1.out (by kernel_rfl) (by simp [Value.oneCell']) ?_
  simp only [Act.put]
  refine wpList_store_mid rfl 29 (.tmp 6) (.tmp 17) rfl (w3.heap.size + 1) 0 #[.int .i64 e1, .int .i64 e2] rfl rfl HJ2.out (by kernel_rfl) (by simp [Value.oneCell']) ?_
  simp only [Act.put]
  generalize (((w3.alloc (.cells #[.int .i64 0, .int .i64 0, .int .i64 0, .int .i64 0, .int .i64 0, .int .i64 0, .int .i64 0, .int .i64 0, .int .i64 0, .int .i64 0, .int .i64 0, .int .i64 0, .int .i64 0, .int .i64 0, .int .i64 0, .int .i64 0, .int .i64 0, .int .i64 0, .int .i64 0, .int .i64 0] 35)).alloc (.cells #[.int .i64 0, .int .i64 0] 29)).setCells w3.heap.size 0 [.int .i64 (f 0), .int .i64 (f 1), .int .i64 (f 2), .int .i64 (f 3), .int .i64 (f 4), .int .i64 (f 5), .int .i64 (f 6), .int .i64 (f 7), .int .i64 (f 8), .int .i64 (f 9), .int .i64 (f 10), .int .i64 (f 11), .int .i64 (f 12), .int .i64 (f 13), .int .i64 (f 14), .int .i64 (f 15), .int .i64 (f 16), .int .i64 (f 17), .int .i64 (f 18), .int .i64 (f 19)]).setCells (w3.heap.size + 1) 0 [.int .i64 e1, .int .i64 e2] = Y at *
  clear HJ1 HJ2
  have hs3 := HS3.out
  have hly := HJ6.out
  have q3 := (HJ5.out.block w1.heap.size (by omega)).trans HK3.out
  obtain ⟨c4, _⟩ := one_block ((HJ5.out.block (w1.heap.size + 1) (by omega)).trans HK4.out)
  obtain ⟨c6, _⟩ := one_block HJ4.out
  have x0 := c4 0
  have x1 := c4 1
  have y0 := c6 0
  have y1 := c6 1
  have HBF := hide (HBX.out.trans (HJ5.out.mono HBX.out.size))
  clear c4 c6
  go_wp2_with (with_reducible refine stopD 35 ?_)
  refine wpList_load_mid rfl 35 (.tmp 5) rfl w3.heap.size 0 rfl [.int .i64 (f 0), .int .i64 (f 1), .int .i64 (f 2), .int .i64 (f 3), .int .i64 (f 4), .int .i64 (f 5), .int .i64 (f 6), .int .i64 (f 7), .int .i64 (f 8), .int .i64 (f 9), .int .i64 (f 10), .int .i64 (f 11), .int .i64 (f 12), .int .i64 (f 13), .int .i64 (f 14), .int .i64 (f 15), .int .i64 (f 16), .int .i64 (f 17), .int .i64 (f 18), .int .i64 (f 19)] _ (range_of_block HJ3.out) Try.underlying35 rfl (by kernel_rfl) ?_
  simp only [Act.put, List.setIfInBounds_toArray, List.set_cons_succ, List.set_cons_zero]
  refine wpList_load_mid rfl 35 (.tmp 3) rfl w1.heap.size 0 rfl [.int .i64 (f 0), .int .i64 (f 1), .int .i64 (f 2), .int .i64 (f 3), .int .i64 (f 4), .int .i64 (f 5), .int .i64 (f 6), .int .i64 (f 7), .int .i64 (f 8), .int .i64 (f 9), .int .i64 (f 10), .int .i64 (f 11), .int .i64 (f 12), .int .i64 (f 13), .int .i64 (f 14), .int .i64 (f 15), .int .i64 (f 16), .int .i64 (f 17), .int .i64 (f 18), .int .i64 (f 19)] _ (range_of_block q3) Try.underlying35 rfl (by kernel_rfl) ?_
  simp only [Act.put, List.setIfInBounds_toArray, List.set_cons_succ, List.set_cons_zero]
  clear q3
  have hEq := equal_spans Y f
  go_wp2_with fail
  go_ret
  exact ⟨by simp, HBF.out⟩
end Go.Proofs.Ytckhgdjcofpijaa
