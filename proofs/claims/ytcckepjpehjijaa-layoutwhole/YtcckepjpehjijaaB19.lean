/-
  Texts laid together in one: KitCopyInst, KitCopyModule, EqSpans, LayoutKept, MathBg, LawLayoutBegins, Ref05Part.
-/
import Derived.WalkSpells
import Derived.BigRegion
import Derived.Deep.RegionWith
import Derived.Deep.DrawnRows
import Derived.Deep.QuietTactic
import Derived.BigQuiet
import Derived.Test.YtcckepjpehjijaaProg
import Derived.Test.YtcckepjpehjijaaB12
import Derived.Test.YtcckepjpehjijaaB01
import Derived.Test.YtcckepjpehjijaaB07
import Derived.WalkMore
import Derived.ChangeKeysEq
import Derived.Deep.MidRow
import Derived.Test.YtcckepjpehjijaaB18
import Derived.Test.YtcckepjpehjijaaB11
import Derived.Test.YtcckepjpehjijaaB16
import Derived.Test.YtcckepjpehjijaaB17
import Derived.Test.YtcckepjpehjijaaB04
import Derived.Test.YtcckepjpehjijaaB08
/-
  CopyInst of the kit answers the instruction in new memory.
-/
namespace Go.Proofs.Ytcckepjpehjijaa
open Go.RowKit

theorem CopyInst.info : (Try.prog.info? 54).map (fun i => (i.zero, i.size, i.bytes)) = some (some (.agg #[.int .u8 0, .int .u32 0, .string ⟨#[]⟩]), 3, 24) := by kernel_rfl

/-- The first k arguments lie in the row at g. -/
structure PartA (w : World) (g n k : Nat) (l : List ArgT) : Prop where
  row : ∃ cs : Array Value, w.heap[g]? = some (.cells cs 54 (0, 0)) ∧ cs.size = n * 3
  each : ∀ j, j < k → w.cell? ⟨g, j * 3, none⟩ = some (.int .u8 (nthA l j).1) ∧ w.cell? ⟨g, j * 3 + 1, none⟩ = some (.int .u32 (nthA l j).2.1) ∧ w.cell? ⟨g, j * 3 + 2, none⟩ = some (.string (nthA l j).2.2)

theorem cells_can {w : World} {g T : Nat} {cs : Array Value} (h : w.heap[g]? = some (.cells cs T (0, 0))) (j : Nat) (hj : j < cs.size) : (∃ v, w.cell? ⟨g, j, none⟩ = some v) ∧ w.frozen? ⟨g, j, none⟩ = false := by
  refine ⟨⟨cs[j], by simp [World.cell?, h, hj]⟩, by simp [World.frozen?, h]⟩

theorem PartA.store {w : World} {g n k : Nat} {l : List ArgT} (h : PartA w g n k l) (hk : k < n) :
    PartA (((w.setCell ⟨g, k * 3, none⟩ (.int .u8 (nthA l k).1)).setCell ⟨g, k * 3 + 1, none⟩ (.int .u32 (nthA l k).2.1)).setCell ⟨g, k * 3 + 2, none⟩ (.string (nthA l k).2.2)) g n (k + 1) l := by
  obtain ⟨⟨cs, h1, h2⟩, h3⟩ := h
  obtain ⟨W, hW⟩ : ∃ W, W = ((w.setCell ⟨g, k * 3, none⟩ (.int .u8 (nthA l k).1)).setCell ⟨g, k * 3 + 1, none⟩ (.int .u32 (nthA l k).2.1)).setCell ⟨g, k * 3 + 2, none⟩ (.string (nthA l k).2.2) := ⟨_, rfl⟩
  have hb : W.heap[g]? = some (.cells (((cs.setIfInBounds (k * 3) (.int .u8 (nthA l k).1)).setIfInBounds (k * 3 + 1) (.int .u32 (nthA l k).2.1)).setIfInBounds (k * 3 + 2) (.string (nthA l k).2.2)) 54 (0, 0)) := by
    rw [hW]; simp [World.setCell, Array.getElem?_modify, h1]
  have cell : ∀ j, W.cell? ⟨g, j, none⟩ = (((cs.setIfInBounds (k * 3) (.int .u8 (nthA l k).1)).setIfInBounds (k * 3 + 1) (.int .u32 (nthA l k).2.1)).setIfInBounds (k * 3 + 2) (.string (nthA l k).2.2))[j]? := fun j => by
    simp [World.cell?, hb]
  have old : ∀ j, w.cell? ⟨g, j, none⟩ = cs[j]? := fun j => by simp [World.cell?, h1]
  rw [← hW]
  refine ⟨⟨_, hb, by simp [h2]⟩, fun j hj => ?_⟩
  by_cases hjk : j < k
  · obtain ⟨c1, c2, c3⟩ := h3 j hjk
    rw [old] at c1 c2 c3
    refine ⟨?_, ?_, ?_⟩
    all_goals rw [cell, Array.getElem?_setIfInBounds_ne (by omega), Array.getElem?_setIfInBounds_ne (by omega), Array.getElem?_setIfInBounds_ne (by omega)]
    · exact c1
    · exact c2
    · exact c3
  · obtain rfl : j = k := by omega
    refine ⟨?_, ?_, ?_⟩
    · rw [cell, Array.getElem?_setIfInBounds_ne (by omega), Array.getElem?_setIfInBounds_ne (by omega), Array.getElem?_setIfInBounds_self_of_lt (by omega)]
    · rw [cell, Array.getElem?_setIfInBounds_ne (by omega), Array.getElem?_setIfInBounds_self_of_lt (by simp; omega)]
    · rw [cell, Array.getElem?_setIfInBounds_self_of_lt (by simp; omega)]

theorem PartA.view {w : World} {g n : Nat} {l : List ArgT} (h : PartA w g n n l) (hl : l.length = n) : ArgsV w (some ⟨g, 0, none⟩) l := by
  intro j hj
  obtain ⟨c1, c2, c3⟩ := h.each j (by omega)
  exact ⟨g, 0, rfl, World.block_lt_of_cell? _ _ c1, by rw [Nat.zero_add]; exact c1, by rw [Nat.zero_add]; exact c2, by rw [Nat.zero_add]; exact c3⟩

theorem PartA.drew {w : World} {g n k : Nat} {l : List ArgT} (h : PartA w g n k l) (q : Nat) : PartA (w.drewN q) g n k l := ⟨h.row, h.each⟩

theorem setFar1 {w : World} {g k : Nat} {o : Obj} (h : w.heap[k]? = some o) (hne : k ≠ g) (i : Nat) (u : Value) : (w.setCell ⟨g, i, none⟩ u).heap[k]? = some o := (Below.heap_setCell _ _ _ _ (by simpa using hne)).trans h
theorem setFar3 {w : World} {g k : Nat} {o : Obj} (h : w.heap[k]? = some o) (hne : k ≠ g) (i j m : Nat) (u v x : Value) : (((w.setCell ⟨g, i, none⟩ u).setCell ⟨g, j, none⟩ v).setCell ⟨g, m, none⟩ x).heap[k]? = some o := setFar1 (setFar1 (setFar1 h hne i u) hne j v) hne m x
theorem block_cells {w : World} {B T : Nat} {cs : Array Value} (h : w.heap[B]? = some (.cells cs T (0, 0))) : (∀ i, w.cell? ⟨B, i, none⟩ = cs[i]?) ∧ (∀ i, w.frozen? ⟨B, i, none⟩ = false) := by
  refine ⟨fun i => ?_, fun i => ?_⟩
  · simp [World.cell?, h]
  · simp [World.frozen?, h]

theorem four_set {w : World} {B T : Nat} {z0 z1 z2 z3 : Value} (h : w.heap[B]? = some (.cells #[z0, z1, z2, z3] T (0, 0))) (u0 u1 u2 u3 : Value) :
    ((((w.setCell ⟨B, 0, none⟩ u0).setCell ⟨B, 1, none⟩ u1).setCell ⟨B, 2, none⟩ u2).setCell ⟨B, 3, none⟩ u3).heap[B]? = some (.cells #[u0, u1, u2, u3] T (0, 0)) := by
  simp only [World.setCell, Array.getElem?_modify, h]; simp
theorem four_below (w : World) (B : Nat) (u0 u1 u2 u3 : Value) : Below B w ((((w.setCell ⟨B, 0, none⟩ u0).setCell ⟨B, 1, none⟩ u1).setCell ⟨B, 2, none⟩ u2).setCell ⟨B, 3, none⟩ u3) :=
  ((((Below.refl B w).setCell (Nat.le_refl _) _).setCell (Nat.le_refl _) _).setCell (Nat.le_refl _) _).setCell (Nat.le_refl _) _
theorem args_far {w : World} {b off g : Nat} {l : List ArgT} (h : ArgsV w (some ⟨b, off, none⟩) l) (hg : g ≠ b) (i : Nat) (v : Value) : ArgsV (w.setCell ⟨g, i, none⟩ v) (some ⟨b, off, none⟩) l :=
  h.setCell (fun b' off' e => by cases e; exact fun h => hg h.symm) v

set_option maxRecDepth 100000 in
set_option maxHeartbeats 2000000 in
theorem copyInst_any (x : InstT) (ax : Option Addr) (n cx : Nat) (w : World) (hx : ArgsV w ax x.2.2.2) (hl : x.2.2.2.length = n) (hn : 24 * n ≤ 140737488351232) :
    Calls Try.prog 20 #[instV x ax n cx] w fun e w' => ∃ g, e = .returned (instV x (some ⟨g, 0, none⟩) n n) ∧ w.heap.size ≤ g ∧ ArgsV w' (some ⟨g, 0, none⟩) x.2.2.2 ∧ Below w.heap.size w w' := by
  obtain ⟨i0, hi, hz0, hz1, hz2⟩ := info_parts CopyInst.info
  obtain ⟨xo, xt, xr, xl⟩ := x
  unfold instV
  simp only at *
  have HL : Hid (xl.length = n) := hl
  clear hl
  go_enter Try.func20, Try.ntmps20
  go_wp2_with (at_make; refine wpList_make_full _ rfl _ _ 56 rfl (w.heap.size + 1) 54 i0 (.agg #[.int .u8 0, .int .u32 0, .string ⟨#[]⟩]) 3 Try.underlying56 hi hz0 hz1 _ _ _ _ n rfl rfl (by omega) (by omega) (by rw [hz2]; omega) (by unfold maxLen; omega) (by simp) ?_)
  intro w1 hown1 hgrow1
  have hb0 : Below w.heap.size w ((w.alloc (.cells #[.int .u16 xo, .int .u32 xt, .int .u32 xr, .slice ax n cx] 58)).alloc (.cells #[.int .u16 0, .int .u32 0, .int .u32 0, .slice none 0 0] 58)) := ((Below.refl _ w).alloc (Nat.le_refl _) _).alloc (by simp) _
  have hb1 : Below (w.heap.size + 2) ((w.alloc (.cells #[.int .u16 xo, .int .u32 xt, .int .u32 xr, .slice ax n cx] 58)).alloc (.cells #[.int .u16 0, .int .u32 0, .int .u32 0, .slice none 0 0] 58)) w1 := (Below.refl _ _).grown hgrow1 (by simp) (by simp)
  have hbox : w1.heap[w.heap.size]? = some (.cells #[.int .u16 xo, .int .u32 xt, .int .u32 xr, .slice ax n cx] 58 (0, 0)) := (hb1.block w.heap.size (by omega)).trans ((Below.heap_alloc _ _ _ (by simp)).trans (heap_alloc_new w _))
  have hres : w1.heap[w.heap.size + 1]? = some (.cells #[.int .u16 0, .int .u32 0, .int .u32 0, .slice none 0 0] 58 (0, 0)) := (hb1.block (w.heap.size + 1) (by omega)).trans (by simpa using heap_alloc_new (w.alloc (.cells #[.int .u16 xo, .int .u32 xt, .int .u32 xr, .slice ax n cx] 58)) (.cells #[.int .u16 0, .int .u32 0, .int .u32 0, .slice none 0 0] 58))
  have hP1 : PartA w1 (w.heap.size + 2) n 0 xl := by
    refine ⟨?_, fun j hj => by omega⟩
    rcases hown1.2 with ⟨h, _⟩ | ⟨g, cap', cur, h1, h2, h3, h4, h5, h6, _⟩
    · simp at h
    · simp at h1; obtain ⟨rfl, rfl⟩ := h1; exact ⟨cur, h3, h6⟩
  have hbw1 : Below w.heap.size w w1 := hb0.trans (hb1.mono (by omega))
  clear hown1 hgrow1 hb0 hb1
  go_wp2
  go_loopw [4] (fun i wr => ∃ k : Nat, k ≤ n ∧ i = .int .i64 k ∧ PartA wr (w.heap.size + 2) n k xl ∧ wr.heap[w.heap.size]? = some (.cells #[.int .u16 xo, .int .u32 xt, .int .u32 xr, .slice ax n cx] 58 (0, 0)) ∧ wr.heap[w.heap.size + 1]? = some (.cells #[.int .u16 0, .int .u32 0, .int .u32 0, .slice none 0 0] 58 (0, 0)) ∧ Below w.heap.size w wr) (fun i _ => n - (intOf i).toNat)
  case atStart => exact ⟨0, Nat.zero_le _, rfl, hP1, hbox, hres, hbw1⟩
  case round =>
    obtain ⟨k, hk, rfl, hP, hbx, hrs, hnx⟩ := hrel
    clear hP1 hbw1 hbox hres
    have hbc : wr.cell? ⟨w.heap.size, 3, none⟩ = some (.slice ax n cx) := by simp [World.cell?, hbx]
    have hsz := hnx.size
    by_cases hlt : k < n
    · obtain ⟨b, off, rfl, hbs, p1, p2, p3⟩ := hx k (by rw [HL.out]; exact hlt)
      have q1 := (hnx.cell (p := ⟨b, off + k * 3, none⟩) hbs).trans p1
      have q2 := (hnx.cell (p := ⟨b, off + k * 3 + 1, none⟩) hbs).trans p2
      have q3 := (hnx.cell (p := ⟨b, off + k * 3 + 2, none⟩) hbs).trans p3
      obtain ⟨cs, hr1, hr2⟩ := hP.row
      obtain ⟨⟨u0, d0⟩, f0⟩ := cells_can hr1 (k * 3) (by omega)
      obtain ⟨⟨u1, d1⟩, f1⟩ := cells_can hr1 (k * 3 + 1) (by omega)
      obtain ⟨⟨u2, d2⟩, f2⟩ := cells_can hr1 (k * 3 + 2) (by omega)
      have hki : (k : Int) < (n : Int) := by omega
      have hk0 : (0 : Int) ≤ (k : Int) := by omega
      have hP2 := hP.store hlt
      have HX : Hid (wr.heap[w.heap.size]? = some (.cells #[.int .u16 xo, .int .u32 xt, .int .u32 xr, .slice (some ⟨b, off, none⟩) n cx] 58 (0, 0))) := hbx
      have HP2 : Hid _ := hP2
      have HR : Hid _ := hrs
      clear hP2 hP hr1 hr2 p1 p2 p3 hx hbx hrs
      go_wp2
      go_roundw
      case rel => exact ⟨k + 1, by omega, by go_num, HP2.out, setFar3 HX.out (by omega) _ _ _ _ _ _, setFar3 HR.out (by omega) _ _ _ _ _ _, ((hnx.setCell (by show w.heap.size ≤ w.heap.size + 1 + 1; omega) _).setCell (by show w.heap.size ≤ w.heap.size + 1 + 1; omega) _).setCell (by show w.heap.size ≤ w.heap.size + 1 + 1; omega) _⟩
      case measure => simp [intOf]; omega
    · obtain rfl : k = n := by omega
      obtain ⟨hc, hf⟩ := block_cells hbx
      obtain ⟨hc', hf'⟩ := block_cells hrs
      have c0 := hc 0
      have c1 := hc 1
      have c2 := hc 2
      have r0 := hc' 0
      have r1 := hc' 1
      have r2 := hc' 2
      have r3 := hc' 3
      have hV := hP.view HL.out
      have HV : Hid _ := hV
      have HB : Hid _ := hnx
      have HX : Hid _ := hbx
      have HR : Hid _ := hrs
      clear hP hbx hrs hc hc' hx hV hnx
      go_wp2
      have hB4 := four_set (setFar1 HR.out (show w.heap.size + 1 ≠ w.heap.size by omega) 3 (.slice (some ⟨w.heap.size + 1 + 1, 0, none⟩) k k)) (.int .u16 xo) (.int .u32 xt) (.int .u32 xr) (.slice (some ⟨w.heap.size + 1 + 1, 0, none⟩) k k)
      have hBel := (HB.out.setCell (p := ⟨w.heap.size, 3, none⟩) (Nat.le_refl _) (.slice (some ⟨w.heap.size + 1 + 1, 0, none⟩) k k)).trans ((four_below (wr.setCell ⟨w.heap.size, 3, none⟩ (.slice (some ⟨w.heap.size + 1 + 1, 0, none⟩) k k)) (w.heap.size + 1) (.int .u16 xo) (.int .u32 xt) (.int .u32 xr) (.slice (some ⟨w.heap.size + 1 + 1, 0, none⟩) k k)).mono (show w.heap.size ≤ w.heap.size + 1 by omega))
      have hV2 := args_far HV.out (show w.heap.size ≠ w.heap.size + 2 by omega) 3 (.slice (some ⟨w.heap.size + 1 + 1, 0, none⟩) k k)
      have hV3 := args_far (args_far (args_far (args_far hV2 (show w.heap.size + 1 ≠ w.heap.size + 2 by omega) 0 (.int .u16 xo)) (show w.heap.size + 1 ≠ w.heap.size + 2 by omega) 1 (.int .u32 xt)) (show w.heap.size + 1 ≠ w.heap.size + 2 by omega) 2 (.int .u32 xr)) (show w.heap.size + 1 ≠ w.heap.size + 2 by omega) 3 (.slice (some ⟨w.heap.size + 1 + 1, 0, none⟩) k k)
      clear hV2 HV HB HR HX c0 c1 c2 r0 r1 r2 r3 hf hf'
      generalize ((((wr.setCell _ _).setCell _ _).setCell _ _).setCell _ _).setCell _ _ = W at hB4 hBel hV3 ⊢
      obtain ⟨hd, _⟩ := block_cells hB4
      have d0 := hd 0
      have d1 := hd 1
      have d2 := hd 2
      have d3 := hd 3
      refine bodyPost_ret (v := .agg #[.int .u16 xo, .int .u32 xt, .int .u32 xr, .slice (some ⟨w.heap.size + 1 + 1, 0, none⟩) k k]) ?_ rfl ⟨w.heap.size + 1 + 1, rfl, by omega, hV3, hBel⟩
      simp [results, Try.results20, go_sem, d0, d1, d2, d3]

end Go.Proofs.Ytcckepjpehjijaa

/-
  CopyModule of the kit answers the module in new memory.
-/
namespace Go.Proofs.Ytcckepjpehjijaa
open Go.RowKit

theorem CopyModule.info : (Try.prog.info? 58).map (fun i => (i.zero, i.size, i.bytes)) = some (some (.agg #[.int .u16 0, .int .u32 0, .int .u32 0, .slice none 0 0]), 4, 40) := by kernel_rfl

/-- The first k instructions lie in the row at g, their arguments in later blocks. -/
structure PartI (w : World) (g n k : Nat) (l : List InstT) : Prop where
  row : ∃ cs : Array Value, w.heap[g]? = some (.cells cs 58 (0, 0)) ∧ cs.size = n * 4
  each : ∀ j, j < k → ∃ gj nj, w.cell? ⟨g, j * 4, none⟩ = some (.int .u16 (nthI l j).1) ∧ w.cell? ⟨g, j * 4 + 1, none⟩ = some (.int .u32 (nthI l j).2.1) ∧ w.cell? ⟨g, j * 4 + 2, none⟩ = some (.int .u32 (nthI l j).2.2.1) ∧ w.cell? ⟨g, j * 4 + 3, none⟩ = some (.slice (some ⟨gj, 0, none⟩) nj nj) ∧
    (nthI l j).2.2.2.length = nj ∧ ArgsV w (some ⟨gj, 0, none⟩) (nthI l j).2.2.2 ∧ g < gj

theorem PartI.below {w w' : World} {g n k : Nat} {l : List InstT} (h : PartI w g n k l) (hb : Below w.heap.size w w') : PartI w' g n k l := by
  obtain ⟨⟨cs, h1, h2⟩, h3⟩ := h
  have hg : g < w.heap.size := (Array.getElem?_eq_some_iff.1 h1).1
  refine ⟨⟨cs, by rw [hb.block g hg]; exact h1, h2⟩, fun j hj => ?_⟩
  obtain ⟨gj, nj, c1, c2, c3, c4, c5, c6, c7⟩ := h3 j hj
  exact ⟨gj, nj, (hb.cell (p := ⟨g, j * 4, none⟩) hg).trans c1, (hb.cell (p := ⟨g, j * 4 + 1, none⟩) hg).trans c2, (hb.cell (p := ⟨g, j * 4 + 2, none⟩) hg).trans c3, (hb.cell (p := ⟨g, j * 4 + 3, none⟩) hg).trans c4, c5, c6.below hb, c7⟩

/-- An instruction is stored. -/
theorem PartI.store {w : World} {g n k : Nat} {l : List InstT} (h : PartI w g n k l) (hk : k < n) (gk nk : Nat) (hl : (nthI l k).2.2.2.length = nk) (hv : ArgsV w (some ⟨gk, 0, none⟩) (nthI l k).2.2.2) (hg : g < gk) :
    PartI ((((w.setCell ⟨g, k * 4, none⟩ (.int .u16 (nthI l k).1)).setCell ⟨g, k * 4 + 1, none⟩ (.int .u32 (nthI l k).2.1)).setCell ⟨g, k * 4 + 2, none⟩ (.int .u32 (nthI l k).2.2.1)).setCell ⟨g, k * 4 + 3, none⟩ (.slice (some ⟨gk, 0, none⟩) nk nk)) g n (k + 1) l := by
  obtain ⟨⟨cs, h1, h2⟩, h3⟩ := h
  obtain ⟨W, hW⟩ : ∃ W, W = (((w.setCell ⟨g, k * 4, none⟩ (.int .u16 (nthI l k).1)).setCell ⟨g, k * 4 + 1, none⟩ (.int .u32 (nthI l k).2.1)).setCell ⟨g, k * 4 + 2, none⟩ (.int .u32 (nthI l k).2.2.1)).setCell ⟨g, k * 4 + 3, none⟩ (.slice (some ⟨gk, 0, none⟩) nk nk) := ⟨_, rfl⟩
  have hb : W.heap[g]? = some (.cells ((((cs.setIfInBounds (k * 4) (.int .u16 (nthI l k).1)).setIfInBounds (k * 4 + 1) (.int .u32 (nthI l k).2.1)).setIfInBounds (k * 4 + 2) (.int .u32 (nthI l k).2.2.1)).setIfInBounds (k * 4 + 3) (.slice (some ⟨gk, 0, none⟩) nk nk)) 58 (0, 0)) := by
    rw [hW]; simp [World.setCell, Array.getElem?_modify, h1]
  have cell : ∀ j, W.cell? ⟨g, j, none⟩ = ((((cs.setIfInBounds (k * 4) (.int .u16 (nthI l k).1)).setIfInBounds (k * 4 + 1) (.int .u32 (nthI l k).2.1)).setIfInBounds (k * 4 + 2) (.int .u32 (nthI l k).2.2.1)).setIfInBounds (k * 4 + 3) (.slice (some ⟨gk, 0, none⟩) nk nk))[j]? := fun j => by
    simp [World.cell?, hb]
  have old : ∀ j, w.cell? ⟨g, j, none⟩ = cs[j]? := fun j => by simp [World.cell?, h1]
  have far : ∀ gj m, g < gj → ArgsV w (some ⟨gj, 0, none⟩) m → ArgsV W (some ⟨gj, 0, none⟩) m := fun gj m hlt hm => by
    rw [hW]
    exact args_far (args_far (args_far (args_far hm (by omega) _ _) (by omega) _ _) (by omega) _ _) (by omega) _ _
  rw [← hW]
  refine ⟨⟨_, hb, by simp [h2]⟩, fun j hj => ?_⟩
  by_cases hjk : j < k
  · obtain ⟨gj, nj, c1, c2, c3, c4, c5, c6, c7⟩ := h3 j hjk
    rw [old] at c1 c2 c3 c4
    refine ⟨gj, nj, ?_, ?_, ?_, ?_, c5, far _ _ c7 c6, c7⟩
    all_goals rw [cell, Array.getElem?_setIfInBounds_ne (by omega), Array.getElem?_setIfInBounds_ne (by omega), Array.getElem?_setIfInBounds_ne (by omega), Array.getElem?_setIfInBounds_ne (by omega)]
    · exact c1
    · exact c2
    · exact c3
    · exact c4
  · obtain rfl : j = k := by omega
    refine ⟨gk, nk, ?_, ?_, ?_, ?_, hl, far _ _ hg hv, hg⟩
    · rw [cell, Array.getElem?_setIfInBounds_ne (by omega), Array.getElem?_setIfInBounds_ne (by omega), Array.getElem?_setIfInBounds_ne (by omega), Array.getElem?_setIfInBounds_self_of_lt (by omega)]
    · rw [cell, Array.getElem?_setIfInBounds_ne (by omega), Array.getElem?_setIfInBounds_ne (by omega), Array.getElem?_setIfInBounds_self_of_lt (by simp; omega)]
    · rw [cell, Array.getElem?_setIfInBounds_ne (by omega), Array.getElem?_setIfInBounds_self_of_lt (by simp; omega)]
    · rw [cell, Array.getElem?_setIfInBounds_self_of_lt (by simp; omega)]

theorem PartI.view {w : World} {g n : Nat} {l : List InstT} (h : PartI w g n n l) (hl : l.length = n) : InstsV w (some ⟨g, 0, none⟩) l := by
  intro j hj
  obtain ⟨gj, nj, c1, c2, c3, c4, c5, c6, c7⟩ := h.each j (by omega)
  exact ⟨g, 0, some ⟨gj, 0, none⟩, nj, nj, rfl, World.block_lt_of_cell? _ _ c1, by rw [Nat.zero_add]; exact c1, by rw [Nat.zero_add]; exact c2, by rw [Nat.zero_add]; exact c3, by rw [Nat.zero_add]; exact c4, c5, c6, Nat.le_refl _⟩

theorem PartI.far {w : World} {g n k : Nat} {l : List InstT} (h : PartI w g n k l) {b : Nat} (hb : b < g) (i : Nat) (v : Value) : PartI (w.setCell ⟨b, i, none⟩ v) g n k l := by
  obtain ⟨⟨cs, h1, h2⟩, h3⟩ := h
  have hx : (w.setCell ⟨b, i, none⟩ v).heap[g]? = w.heap[g]? := Below.heap_setCell _ _ _ _ (by simp; omega)
  have hc : ∀ j, (w.setCell ⟨b, i, none⟩ v).cell? ⟨g, j, none⟩ = w.cell? ⟨g, j, none⟩ := fun j => by simp only [World.cell?, hx]
  refine ⟨⟨cs, by rw [hx]; exact h1, h2⟩, fun j hj => ?_⟩
  obtain ⟨gj, nj, c1, c2, c3, c4, c5, c6, c7⟩ := h3 j hj
  exact ⟨gj, nj, by rw [hc]; exact c1, by rw [hc]; exact c2, by rw [hc]; exact c3, by rw [hc]; exact c4, c5, args_far c6 (by omega) _ _, c7⟩

theorem three_set3 {w : World} {B T : Nat} {z0 z1 z2 : Value} (h : w.heap[B]? = some (.cells #[z0, z1, z2] T (0, 0))) (u0 u1 u2 : Value) :
    (((w.setCell ⟨B, 0, none⟩ u0).setCell ⟨B, 1, none⟩ u1).setCell ⟨B, 2, none⟩ u2).heap[B]? = some (.cells #[u0, u1, u2] T (0, 0)) := by
  simp only [World.setCell, Array.getElem?_modify, h]; simp
theorem three_below3 (w : World) (B : Nat) (u0 u1 u2 : Value) : Below B w (((w.setCell ⟨B, 0, none⟩ u0).setCell ⟨B, 1, none⟩ u1).setCell ⟨B, 2, none⟩ u2) :=
  (((Below.refl B w).setCell (Nat.le_refl _) _).setCell (Nat.le_refl _) _).setCell (Nat.le_refl _) _

set_option maxRecDepth 100000 in
set_option maxHeartbeats 4000000 in
theorem copyModule_any (gen bound : Int) (ax : Option Addr) (n cx : Nat) (l : List InstT) (w : World) (hx : InstsV w ax l) (hok : InstsOk l) (hl : l.length = n) (hn : 40 * n ≤ 140737488351232) :
    Calls Try.prog 7 #[modV gen bound ax n cx] w fun e w' => ∃ g, e = .returned (modV gen bound (some ⟨g, 0, none⟩) n n) ∧ w.heap.size ≤ g ∧ InstsV w' (some ⟨g, 0, none⟩) l ∧ Below w.heap.size w w' := by
  obtain ⟨i0, hi, hz0, hz1, hz2⟩ := info_parts CopyModule.info
  unfold modV
  have HL : Hid (l.length = n) := hl
  clear hl
  go_enter Try.func7, Try.ntmps7
  go_wp2_with (at_make; refine wpList_make_full _ rfl _ _ 23 rfl (w.heap.size + 2) 58 i0 (.agg #[.int .u16 0, .int .u32 0, .int .u32 0, .slice none 0 0]) 4 Try.underlying23 hi hz0 hz1 _ _ _ _ n rfl rfl (by omega) (by omega) (by rw [hz2]; omega) (by unfold maxLen; omega) (by simp) ?_)
  intro w1 hown1 hgrow1
  have hb0 : Below w.heap.size w ((w.alloc (.cells #[.int .u32 gen, .int .u32 bound, .slice ax n cx] 25)).alloc (.cells #[.int .u32 0, .int .u32 0, .slice none 0 0] 25)) := ((Below.refl _ w).alloc (Nat.le_refl _) _).alloc (by simp) _
  have hb1 : Below (w.heap.size + 2) ((w.alloc (.cells #[.int .u32 gen, .int .u32 bound, .slice ax n cx] 25)).alloc (.cells #[.int .u32 0, .int .u32 0, .slice none 0 0] 25)) w1 := (Below.refl _ _).grown hgrow1 (by simp) (by simp)
  have hbox : w1.heap[w.heap.size]? = some (.cells #[.int .u32 gen, .int .u32 bound, .slice ax n cx] 25 (0, 0)) := (hb1.block w.heap.size (by omega)).trans ((Below.heap_alloc _ _ _ (by simp)).trans (heap_alloc_new w _))
  have hres : w1.heap[w.heap.size + 1]? = some (.cells #[.int .u32 0, .int .u32 0, .slice none 0 0] 25 (0, 0)) := (hb1.block (w.heap.size + 1) (by omega)).trans (by simpa using heap_alloc_new (w.alloc (.cells #[.int .u32 gen, .int .u32 bound, .slice ax n cx] 25)) (.cells #[.int .u32 0, .int .u32 0, .slice none 0 0] 25))
  have hP1 : PartI w1 (w.heap.size + 2) n 0 l := by
    refine ⟨?_, fun j hj => by omega⟩
    rcases hown1.2 with ⟨h, _⟩ | ⟨g, cap', cur, h1, h2, h3, h4, h5, h6, _⟩
    · simp at h
    · simp at h1; obtain ⟨rfl, rfl⟩ := h1; exact ⟨cur, h3, h6⟩
  have hbw1 : Below w.heap.size w w1 := hb0.trans (hb1.mono (by omega))
  clear hown1 hgrow1 hb0 hb1
  go_wp2
  go_loopw [4] (fun i wr => ∃ k : Nat, k ≤ n ∧ i = .int .i64 k ∧ PartI wr (w.heap.size + 2) n k l ∧ wr.heap[w.heap.size]? = some (.cells #[.int .u32 gen, .int .u32 bound, .slice ax n cx] 25 (0, 0)) ∧ wr.heap[w.heap.size + 1]? = some (.cells #[.int .u32 0, .int .u32 0, .slice none 0 0] 25 (0, 0)) ∧ Below w.heap.size w wr) (fun i _ => n - (intOf i).toNat)
  case atStart => exact ⟨0, Nat.zero_le _, rfl, hP1, hbox, hres, hbw1⟩
  case round =>
    obtain ⟨k, hk, rfl, hP, hbx, hrs, hnx⟩ := hrel
    clear hP1 hbw1 hbox hres
    have hbc : wr.cell? ⟨w.heap.size, 2, none⟩ = some (.slice ax n cx) := by simp [World.cell?, hbx]
    have hsz := hnx.size
    by_cases hlt : k < n
    · obtain ⟨b, off, aj, cj, nj, rfl, hbs, p1, p2, p3, p4, p5, p6, _⟩ := hx k (by rw [HL.out]; exact hlt)
      have q1 := (hnx.cell (p := ⟨b, off + k * 4, none⟩) hbs).trans p1
      have q2 := (hnx.cell (p := ⟨b, off + k * 4 + 1, none⟩) hbs).trans p2
      have q3 := (hnx.cell (p := ⟨b, off + k * 4 + 2, none⟩) hbs).trans p3
      have q4 := (hnx.cell (p := ⟨b, off + k * 4 + 3, none⟩) hbs).trans p4
      obtain ⟨cs, hr1, hr2⟩ := hP.row
      have hgl : w.heap.size + 1 + 1 < wr.heap.size := (Array.getElem?_eq_some_iff.1 hr1).1
      obtain ⟨⟨u0, d0⟩, f0⟩ := cells_can hr1 (k * 4) (by omega)
      obtain ⟨⟨u1, d1⟩, f1⟩ := cells_can hr1 (k * 4 + 1) (by omega)
      obtain ⟨⟨u2, d2⟩, f2⟩ := cells_can hr1 (k * 4 + 2) (by omega)
      obtain ⟨⟨u3, d3⟩, f3⟩ := cells_can hr1 (k * 4 + 3) (by omega)
      have hki : (k : Int) < (n : Int) := by omega
      have hk0 : (0 : Int) ≤ (k : Int) := by omega
      have s1 := (hok k (by rw [HL.out]; exact hlt)).2.2.2.2.2.2.2
      rw [p5] at s1
      have hC := fun wx (hb : Below wr.heap.size wr wx) => copyInst_any (nthI l k) aj nj cj wx ((p6.below hnx).below hb) p5 s1
      unfold instV at hC
      have hbs' : b < wr.heap.size := by omega
      have HX : Hid (wr.heap[w.heap.size]? = some (.cells #[.int .u32 gen, .int .u32 bound, .slice (some ⟨b, off, none⟩) n cx] 25 (0, 0))) := hbx
      have HR : Hid _ := hrs
      have HP : Hid (PartI wr (w.heap.size + 2) n k l) := hP
      have HV3 : Hid ((nthI l k).2.2.2.length = nj) := p5
      clear p1 p2 p3 p4 p5 p6 hr1 hr2 hP hx hok hbx hrs s1
      go_wp2_with fail
      refine (hC _ (Below.refl _ _)).mono ?_
      rintro e w' ⟨g', rfl, hg', hvC, hbC⟩
      have e1 := (hbC.cell (p := ⟨w.heap.size + 1 + 1, k * 4, none⟩) (by exact hgl)).trans d0
      have e2 := (hbC.cell (p := ⟨w.heap.size + 1 + 1, k * 4 + 1, none⟩) (by exact hgl)).trans d1
      have e3 := (hbC.cell (p := ⟨w.heap.size + 1 + 1, k * 4 + 2, none⟩) (by exact hgl)).trans d2
      have e4 := (hbC.cell (p := ⟨w.heap.size + 1 + 1, k * 4 + 3, none⟩) (by exact hgl)).trans d3
      have e5 := (hbC.frozen (p := ⟨w.heap.size + 1 + 1, k * 4, none⟩) (by exact hgl)).trans f0
      have e6 := (hbC.frozen (p := ⟨w.heap.size + 1 + 1, k * 4 + 1, none⟩) (by exact hgl)).trans f1
      have e7 := (hbC.frozen (p := ⟨w.heap.size + 1 + 1, k * 4 + 2, none⟩) (by exact hgl)).trans f2
      have e8 := (hbC.frozen (p := ⟨w.heap.size + 1 + 1, k * 4 + 3, none⟩) (by exact hgl)).trans f3
      have hP2 := (HP.out.below hbC).store hlt g' nj HV3.out hvC (by omega)
      have hX2 := (hbC.block w.heap.size (by omega)).trans HX.out
      have hR2 := (hbC.block (w.heap.size + 1) (by omega)).trans HR.out
      have hB2 := hnx.trans (hbC.mono hsz)
      have HP2 : Hid _ := hP2
      have HX2 : Hid _ := hX2
      have HR2 : Hid _ := hR2
      have HB2 : Hid _ := hB2
      clear hP2 hX2 hR2 hB2 hvC hbC HP HX HR d0 d1 d2 d3 f0 f1 f2 f3 hC
      go_wp2
      go_roundw
      case rel => exact ⟨k + 1, by omega, by go_num, HP2.out, setFar1 (setFar3 HX2.out (by omega) _ _ _ _ _ _) (by omega) _ _, setFar1 (setFar3 HR2.out (by omega) _ _ _ _ _ _) (by omega) _ _, (((HB2.out.setCell (by show w.heap.size ≤ w.heap.size + 1 + 1; omega) _).setCell (by show w.heap.size ≤ w.heap.size + 1 + 1; omega) _).setCell (by show w.heap.size ≤ w.heap.size + 1 + 1; omega) _).setCell (by show w.heap.size ≤ w.heap.size + 1 + 1; omega) _⟩
      case measure => simp [intOf]; omega
    · obtain rfl : k = n := by omega
      obtain ⟨hc, hf⟩ := block_cells hbx
      obtain ⟨hc', hf'⟩ := block_cells hrs
      have c0 := hc 0
      have c1 := hc 1
      have r0 := hc' 0
      have r1 := hc' 1
      have r2 := hc' 2
      have HP : Hid _ := hP
      have HB : Hid _ := hnx
      have HX : Hid _ := hbx
      have HR : Hid _ := hrs
      clear hP hbx hrs hc hc' hx hnx
      go_wp2
      have hB3 := three_set3 (setFar1 HR.out (show w.heap.size + 1 ≠ w.heap.size by omega) 2 (.slice (some ⟨w.heap.size + 1 + 1, 0, none⟩) k k)) (.int .u32 gen) (.int .u32 bound) (.slice (some ⟨w.heap.size + 1 + 1, 0, none⟩) k k)
      have hBel := (HB.out.setCell (p := ⟨w.heap.size, 2, none⟩) (Nat.le_refl _) (.slice (some ⟨w.heap.size + 1 + 1, 0, none⟩) k k)).trans ((three_below3 (wr.setCell ⟨w.heap.size, 2, none⟩ (.slice (some ⟨w.heap.size + 1 + 1, 0, none⟩) k k)) (w.heap.size + 1) (.int .u32 gen) (.int .u32 bound) (.slice (some ⟨w.heap.size + 1 + 1, 0, none⟩) k k)).mono (show w.heap.size ≤ w.heap.size + 1 by omega))
      have hV3 := (((((HP.out.far (b := w.heap.size) (by omega) 2 (.slice (some ⟨w.heap.size + 1 + 1, 0, none⟩) k k)).far (b := w.heap.size + 1) (by omega) 0 (.int .u32 gen)).far (b := w.heap.size + 1) (by omega) 1 (.int .u32 bound)).far (b := w.heap.size + 1) (by omega) 2 (.slice (some ⟨w.heap.size + 1 + 1, 0, none⟩) k k))).view HL.out
      clear HP HB HR HX c0 c1 r0 r1 r2 hf hf'
      generalize (((wr.setCell _ _).setCell _ _).setCell _ _).setCell _ _ = W at hB3 hBel hV3 ⊢
      obtain ⟨hd, _⟩ := block_cells hB3
      have d0 := hd 0
      have d1 := hd 1
      have d2 := hd 2
      refine bodyPost_ret (v := .agg #[.int .u32 gen, .int .u32 bound, .slice (some ⟨w.heap.size + 1 + 1, 0, none⟩) k k]) ?_ rfl ⟨w.heap.size + 1 + 1, rfl, by omega, hV3, hBel⟩
      simp [results, Try.results7, go_sem, d0, d1, d2]

end Go.Proofs.Ytcckepjpehjijaa

/-
  Two equal rows of places are equal.
-/
namespace Go.Proofs.Ytcckepjpehjijaa
open Go.RowKit
set_option maxRecDepth 10000

theorem equal_int (w : World) (d : Nat) (a : Int) : (Op.equalIn (d + 1) 3 (.int .i64 a) (.int .i64 a)).run Try.prog w = .ok true w := by
  unfold Op.equalIn
  rw [Sem.run_bind, run_underlying Try.underlying3]
  simp
set_option maxHeartbeats 4000000 in
theorem equal_span (w : World) (d : Nat) (a b : Int) : (Op.equalIn (d + 2) 47 (.agg #[.int .i64 a, .int .i64 b]) (.agg #[.int .i64 a, .int .i64 b])).run Try.prog w = .ok true w := by
  have hs : Try.prog.stoodInHeld 47 = false := by kernel_rfl
  have p0 : (part 3 #[.int .i64 a, .int .i64 b] 0).run Try.prog w = .ok (.int .i64 a) w := by simp [part, go_sem]
  have p1 : (part 3 #[.int .i64 a, .int .i64 b] 1).run Try.prog w = .ok (.int .i64 b) w := by simp [part, go_sem]
  unfold Op.equalIn
  rw [Sem.run_bind, run_underlying Try.underlying47]
  simp [hs, p0, p1, equal_int]
theorem eq_items (w : World) (d : Nat) (xs : Array Value) : ∀ is : List Nat, (∀ i ∈ is, ∃ a b : Int, (part 47 xs (i * 2)).run Try.prog w = .ok (.agg #[.int .i64 a, .int .i64 b]) w) → (Op.eqItems (d + 2) 47 2 xs xs is).run Try.prog w = .ok true w
  | [], _ => by simp [Op.eqItems]
  | i :: is, h => by
    obtain ⟨a, b, hp⟩ := h i (by simp)
    have ih := eq_items w d xs is (fun j hj => h j (by simp [hj]))
    simp only [Op.eqItems, Sem.run_bind, hp, Result.andThen_ok, equal_span]
    simpa using ih
theorem part_span (w : World) (xs : Array Value) (off : Nat) (a b : Int) (h0 : xs[off]? = some (.int .i64 a)) (h1 : xs[off + 1]? = some (.int .i64 b)) : (part 47 xs off).run Try.prog w = .ok (.agg #[.int .i64 a, .int .i64 b]) w := by
  have e : xs.extract off (off + 2) = #[.int .i64 a, .int .i64 b] := by
    have l1 := (Array.getElem?_eq_some_iff.1 h1).1
    apply Array.ext_getElem?
    intro i
    rw [Array.getElem?_extract]
    match i with
    | 0 => rw [if_pos (by omega)]; exact h0
    | 1 => rw [if_pos (by omega)]; exact h1
    | m + 2 => rw [if_neg (by omega)]; rfl
  unfold part
  simp [go_sem, e]
theorem equal_spans (w : World) (f : Nat → Int) : (Op.equalIn 10000 48 (.agg #[.int .i64 (f 0), .int .i64 (f 1), .int .i64 (f 2), .int .i64 (f 3), .int .i64 (f 4), .int .i64 (f 5), .int .i64 (f 6), .int .i64 (f 7), .int .i64 (f 8), .int .i64 (f 9), .int .i64 (f 10), .int .i64 (f 11), .int .i64 (f 12), .int .i64 (f 13), .int .i64 (f 14), .int .i64 (f 15), .int .i64 (f 16), .int .i64 (f 17), .int .i64 (f 18), .int .i64 (f 19)]) (.agg #[.int .i64 (f 0), .int .i64 (f 1), .int .i64 (f 2), .int .i64 (f 3), .int .i64 (f 4), .int .i64 (f 5), .int .i64 (f 6), .int .i64 (f 7), .int .i64 (f 8), .int .i64 (f 9), .int .i64 (f 10), .int .i64 (f 11), .int .i64 (f 12), .int .i64 (f 13), .int .i64 (f 14), .int .i64 (f 15), .int .i64 (f 16), .int .i64 (f 17), .int .i64 (f 18), .int .i64 (f 19)])).run Try.prog w = .ok true w := by
  obtain ⟨i, hi⟩ : ∃ i, Try.prog.info? 47 = some i := ⟨_, rfl⟩
  rw [run_equalIn_array w 9999 _ _ Try.underlying48 hi]
  have hc : Try.prog.cellsOf 47 = 2 := by kernel_rfl
  rw [hc]
  refine eq_items w 9997 _ _ fun i hi => ⟨f (i * 2), f (i * 2 + 1), part_span w _ _ _ _ ?_ ?_⟩
  · rw [List.mem_range] at hi
    match i, hi with
    | 0, _ => rfl
    | 1, _ => rfl
    | 2, _ => rfl
    | 3, _ => rfl
    | 4, _ => rfl
    | 5, _ => rfl
    | 6, _ => rfl
    | 7, _ => rfl
    | 8, _ => rfl
    | 9, _ => rfl
    | m + 10, h => exact absurd h (by omega)
  · rw [List.mem_range] at hi
    match i, hi with
    | 0, _ => rfl
    | 1, _ => rfl
    | 2, _ => rfl
    | 3, _ => rfl
    | 4, _ => rfl
    | 5, _ => rfl
    | 6, _ => rfl
    | 7, _ => rfl
    | 8, _ => rfl
    | 9, _ => rfl
    | m + 10, h => exact absurd h (by omega)
end Go.Proofs.Ytcckepjpehjijaa

/-
  Places and a spot, laid into two new boxes.
-/
namespace Go.Proofs.Ytcckepjpehjijaa
open Go.RowKit
set_option linter.unusedVariables false
set_option linter.unusedSimpArgs false
set_option maxRecDepth 10000

/-- Places and a spot, laid into two new boxes. -/
theorem kept_parts (w1 : World) (f : Nat → Int) (e1 e2 : Int) :
    let W2 := (w1.alloc (.cells #[.int .i64 0, .int .i64 0, .int .i64 0, .int .i64 0, .int .i64 0, .int .i64 0, .int .i64 0, .int .i64 0, .int .i64 0, .int .i64 0, .int .i64 0, .int .i64 0, .int .i64 0, .int .i64 0, .int .i64 0, .int .i64 0, .int .i64 0, .int .i64 0, .int .i64 0, .int .i64 0] 48)).alloc (.cells #[.int .i64 0, .int .i64 0] 29)
    let X := (W2.setCells w1.heap.size 0 [.int .i64 (f 0), .int .i64 (f 1), .int .i64 (f 2), .int .i64 (f 3), .int .i64 (f 4), .int .i64 (f 5), .int .i64 (f 6), .int .i64 (f 7), .int .i64 (f 8), .int .i64 (f 9), .int .i64 (f 10), .int .i64 (f 11), .int .i64 (f 12), .int .i64 (f 13), .int .i64 (f 14), .int .i64 (f 15), .int .i64 (f 16), .int .i64 (f 17), .int .i64 (f 18), .int .i64 (f 19)]).setCells (w1.heap.size + 1) 0 [.int .i64 e1, .int .i64 e2]
    W2.there w1.heap.size 0 20 ∧ (W2.setCells w1.heap.size 0 [.int .i64 (f 0), .int .i64 (f 1), .int .i64 (f 2), .int .i64 (f 3), .int .i64 (f 4), .int .i64 (f 5), .int .i64 (f 6), .int .i64 (f 7), .int .i64 (f 8), .int .i64 (f 9), .int .i64 (f 10), .int .i64 (f 11), .int .i64 (f 12), .int .i64 (f 13), .int .i64 (f 14), .int .i64 (f 15), .int .i64 (f 16), .int .i64 (f 17), .int .i64 (f 18), .int .i64 (f 19)]).there (w1.heap.size + 1) 0 2 ∧ X.heap[w1.heap.size]? = some (.cells #[.int .i64 (f 0), .int .i64 (f 1), .int .i64 (f 2), .int .i64 (f 3), .int .i64 (f 4), .int .i64 (f 5), .int .i64 (f 6), .int .i64 (f 7), .int .i64 (f 8), .int .i64 (f 9), .int .i64 (f 10), .int .i64 (f 11), .int .i64 (f 12), .int .i64 (f 13), .int .i64 (f 14), .int .i64 (f 15), .int .i64 (f 16), .int .i64 (f 17), .int .i64 (f 18), .int .i64 (f 19)] 48 (0, 0)) ∧ X.heap[w1.heap.size + 1]? = some (.cells #[.int .i64 e1, .int .i64 e2] 29 (0, 0)) ∧ Below w1.heap.size w1 X ∧ w1.heap.size + 1 < X.heap.size := by
  intro W2 X
  have h1 : W2.heap[w1.heap.size]? = some (.cells #[.int .i64 0, .int .i64 0, .int .i64 0, .int .i64 0, .int .i64 0, .int .i64 0, .int .i64 0, .int .i64 0, .int .i64 0, .int .i64 0, .int .i64 0, .int .i64 0, .int .i64 0, .int .i64 0, .int .i64 0, .int .i64 0, .int .i64 0, .int .i64 0, .int .i64 0, .int .i64 0] 48 (0, 0)) := by
    show (World.alloc _ _).heap[_]? = _
    rw [Below.heap_alloc _ _ _ (by simp)]; exact heap_alloc_new w1 _
  have h2 : W2.heap[w1.heap.size + 1]? = some (.cells #[.int .i64 0, .int .i64 0] 29 (0, 0)) := by
    have := heap_alloc_new (w1.alloc (.cells #[.int .i64 0, .int .i64 0, .int .i64 0, .int .i64 0, .int .i64 0, .int .i64 0, .int .i64 0, .int .i64 0, .int .i64 0, .int .i64 0, .int .i64 0, .int .i64 0, .int .i64 0, .int .i64 0, .int .i64 0, .int .i64 0, .int .i64 0, .int .i64 0, .int .i64 0, .int .i64 0] 48)) (.cells #[.int .i64 0, .int .i64 0] 29)
    rw [World.size_alloc] at this
    exact this
  have hg := setCells_grown w1.heap.size [.int .i64 (f 0), .int .i64 (f 1), .int .i64 (f 2), .int .i64 (f 3), .int .i64 (f 4), .int .i64 (f 5), .int .i64 (f 6), .int .i64 (f 7), .int .i64 (f 8), .int .i64 (f 9), .int .i64 (f 10), .int .i64 (f 11), .int .i64 (f 12), .int .i64 (f 13), .int .i64 (f 14), .int .i64 (f 15), .int .i64 (f 16), .int .i64 (f 17), .int .i64 (f 18), .int .i64 (f 19)] 0 W2
  have hs : W2.heap.size = w1.heap.size + 2 := by show (World.alloc _ _).heap.size = _; simp
  have hb2 : Below w1.heap.size w1 W2 := ((Below.refl _ w1).alloc (Nat.le_refl _) _).alloc (by simp) _
  have k2 := (hg.block (w1.heap.size + 1) (by omega) (by simp)).trans h2
  have hg2 := setCells_grown (w1.heap.size + 1) [.int .i64 e1, .int .i64 e2] 0 (W2.setCells w1.heap.size 0 [.int .i64 (f 0), .int .i64 (f 1), .int .i64 (f 2), .int .i64 (f 3), .int .i64 (f 4), .int .i64 (f 5), .int .i64 (f 6), .int .i64 (f 7), .int .i64 (f 8), .int .i64 (f 9), .int .i64 (f 10), .int .i64 (f 11), .int .i64 (f 12), .int .i64 (f 13), .int .i64 (f 14), .int .i64 (f 15), .int .i64 (f 16), .int .i64 (f 17), .int .i64 (f 18), .int .i64 (f 19)])
  have hs2 : w1.heap.size + 1 < (W2.setCells w1.heap.size 0 [.int .i64 (f 0), .int .i64 (f 1), .int .i64 (f 2), .int .i64 (f 3), .int .i64 (f 4), .int .i64 (f 5), .int .i64 (f 6), .int .i64 (f 7), .int .i64 (f 8), .int .i64 (f 9), .int .i64 (f 10), .int .i64 (f 11), .int .i64 (f 12), .int .i64 (f 13), .int .i64 (f 14), .int .i64 (f 15), .int .i64 (f 16), .int .i64 (f 17), .int .i64 (f 18), .int .i64 (f 19)]).heap.size := Nat.lt_of_lt_of_le (show w1.heap.size + 1 < W2.heap.size by omega) hg.size
  refine ⟨there_of_block h1 20 rfl, there_of_block k2 2 rfl, (hg2.block _ (by omega) (by simp)).trans (setCells_all [.int .i64 (f 0), .int .i64 (f 1), .int .i64 (f 2), .int .i64 (f 3), .int .i64 (f 4), .int .i64 (f 5), .int .i64 (f 6), .int .i64 (f 7), .int .i64 (f 8), .int .i64 (f 9), .int .i64 (f 10), .int .i64 (f 11), .int .i64 (f 12), .int .i64 (f 13), .int .i64 (f 14), .int .i64 (f 15), .int .i64 (f 16), .int .i64 (f 17), .int .i64 (f 18), .int .i64 (f 19)] h1 rfl), setCells_all [.int .i64 e1, .int .i64 e2] k2 rfl, below_grown (below_grown hb2 hg (fun g e => by simp at e; omega)) hg2 (fun g e => by simp at e; omega), Nat.lt_of_lt_of_le hs2 hg2.size⟩

end Go.Proofs.Ytcckepjpehjijaa

/-
  The order of the beginning of a module, in plain mathematics.
-/
namespace Go.Proofs.Ytcckepjpehjijaa
open Go.RowKit
set_option linter.unusedVariables false
set_option linter.unusedSimpArgs false

theorem nthI_take (l : List InstT) {n i : Nat} (h : i < n) : nthI (l.take n) i = nthI l i := by simp [nthI, List.getD, List.getElem?_take, h]
section
variable {l l' : List InstT} {n : Nat} (hc : ∀ i, i < n → nthI l' i = nthI l i)
include hc
theorem overP_c (p : Int) : ∀ m, m ≤ n → overP l' p m = overP l p m
  | 0, _ => rfl
  | m + 1, hm => by rw [overP, overP, overP_c p m (by omega), hc m (by omega)]
theorem modelsN_c : ∀ m, m ≤ n → modelsN l' m = modelsN l m
  | 0, _ => rfl
  | m + 1, hm => by rw [modelsN, modelsN, modelsN_c m (by omega), hc m (by omega)]
theorem aheadO_c (m : Nat) (hm : m ≤ n) : aheadO l' m = aheadO l m := by
  unfold aheadO
  by_cases h : 0 < m
  · rw [hc (m - 1) (by omega)]
  · rw [if_neg (fun e => h e.1), if_neg (fun e => h e.1)]
theorem blockAt_c : ∀ k, k < n → blockAt l' k = blockAt l k
  | 0, _ => rfl
  | k + 1, hk => by rw [blockAt, blockAt, hc (k + 1) hk, blockAt_c k (by omega)]
theorem firstB_c (k : Nat) (hk : k < n) : firstB l' k = firstB l k := by
  unfold firstB
  have := blockAt_le l k
  rw [blockAt_c hc k hk, hc (blockAt l k - 1) (by omega)]
theorem mayL_c (m : Nat) (hm : m < n) : mayL l' m = mayL l m := by
  unfold mayL
  rw [hc m hm, overP_c hc _ m (by omega), modelsN_c hc m (by omega), aheadO_c hc m (by omega), firstB_c hc (m - 1) (by omega)]
end
theorem layF_cases {l : List InstT} : ∀ m k, k + m = l.length → okTo l k → (layF l m k = (0, 0) ∧ okTo l l.length) ∨ (∃ P, layF l m k = (50, P) ∧ P < l.length ∧ okTo l P ∧ mayL l P = false) ∨ (layF l m k = (51, l.length) ∧ okTo l l.length)
  | 0, k, hk, hok => by
    have e : k = l.length := by omega
    subst e
    rw [layF]
    cases openE l with
    | true => exact .inr (.inr ⟨rfl, hok⟩)
    | false => exact .inl ⟨rfl, hok⟩
  | m + 1, k, hk, hok => by
    rw [layF]
    cases hm : mayL l k with
    | true => rw [if_pos rfl]; exact layF_cases m (k + 1) (by omega) (hok.snoc hm)
    | false => exact .inr (.inl ⟨k, rfl, by omega, hok, hm⟩)
theorem shapeF_take {b : Int} : ∀ (l : List InstT) (k c n : Nat), (shapeF b k c l).1 = 0 → (shapeF b k c (l.take n)).1 = 0
  | [], k, c, n, h => by simp [shapeF]
  | x :: l, k, c, 0, h => by simp [shapeF]
  | x :: l, k, c, n + 1, h => by
    rw [List.take_succ_cons]
    rw [shapeF] at h ⊢
    split at h
    · next h1 => exact absurd h h1
    · next h1 =>
      rw [if_neg h1]
      split at h
      · cases h
      · next h2 => rw [if_neg h2]; exact shapeF_take l _ _ n h
theorem shapeE_take {b : Int} {l : List InstT} (n : Nat) (h : (shapeE b l).1 = 0) : (shapeE b (l.take n)).1 = 0 := by
  unfold shapeE at h ⊢
  split at h
  · cases h
  · next h1 => rw [if_neg h1]; exact shapeF_take l _ _ n h
theorem rawE_small (x : InstT) (b : Int) : rawE x b < 50 := by
  have hid : ∀ (q : Bool) (y e : Int), e < 50 → idE q y b e < 50 := fun q y e he => by unfold idE; (repeat' split) <;> omega
  have hw : ∀ c y, wrongA c y b < 50 := fun c y => by
    unfold wrongA faultW
    (repeat' split) <;> omega
  have hL : ∀ (f : Frm) (l : List ArgT) (k : Nat), wrongL f b k l < 50 := by
    intro f l
    induction l with
    | nil => intro k; simp [wrongL]
    | cons y l ih => intro k; rw [wrongL]; split
                     · exact ih _
                     · exact hw _ _
  unfold rawE
  split
  · unfold faultI
    have h1 := hid (lookF refT x.1).1.2.1 x.2.1 40 (by decide)
    have h2 := hid (lookF refT x.1).1.2.2.1 x.2.2.1 41 (by decide)
    have h3 := hL (lookF refT x.1).1 x.2.2.2 0
    split
    · exact h1
    · split
      · exact h2
      · split
        · exact h3
        · split
          · decide
          · split <;> decide
  · decide
theorem shapeE_small (b : Int) (l : List InstT) : (shapeE b l).1 < 50 := by
  have key : ∀ (l : List InstT) (k c : Nat), (shapeF b k c l).1 < 50 := by
    intro l
    induction l with
    | nil => intro k c; simp [shapeF]
    | cons x l ih =>
      intro k c
      rw [shapeF]
      split
      · exact rawE_small x b
      · split
        · show (4 : Int) < 50; decide
        · exact ih _ _
  unfold shapeE
  split
  · decide
  · exact key l _ _
/-- A module that stands wrong somewhere stands wrong there without what is behind. -/
theorem begin_wrong {b : Int} {l : List InstT} (h : (layE b l).1 = 50) : (layE b l).2 < l.length ∧ layE b (l.take ((layE b l).2 + 1)) = (50, (layE b l).2) := by
  have hs : (shapeE b l).1 = 0 := by
    by_cases h1 : (shapeE b l).1 = 0
    · exact h1
    · unfold layE at h; rw [if_pos h1] at h; have := shapeE_small b l; omega
  have he : layE b l = layF l l.length 0 := by unfold layE; rw [if_neg (by simpa using hs)]
  rcases layF_cases l.length 0 (by omega) (okTo_zero l) with ⟨h1, _⟩ | ⟨P, h1, h2, h3, h4⟩ | ⟨h1, _⟩
  · rw [he, h1] at h; cases h
  · rw [he, h1]
    refine ⟨h2, ?_⟩
    have hc : ∀ i, i < P + 1 → nthI (l.take (P + 1)) i = nthI l i := fun i hi => nthI_take l hi
    have hl : (l.take (P + 1)).length = P + 1 := by rw [List.length_take]; omega
    unfold layE
    rw [if_neg (by simpa using shapeE_take (P + 1) hs), layF_wrong (k := P) ⟨fun i hi => by rw [mayL_c hc i (by omega)]; exact h3 i hi, .inl ⟨by rw [hl]; omega, by rw [mayL_c hc P (by omega)]; exact h4⟩⟩, if_neg (fun e => by have := partAt_nine e; rw [hl] at this; omega)]
  · rw [he, h1] at h; cases h
/-- The beginnings of a module in order. -/
theorem begin_right {b : Int} {l : List InstT} (h : (layE b l).1 = 0 ∨ (layE b l).1 = 51) (n : Nat) (hn : n ≤ l.length) : layE b (l.take n) = (0, 0) ∨ layE b (l.take n) = (51, n) := by
  have hs : (shapeE b l).1 = 0 := by
    by_cases h1 : (shapeE b l).1 = 0
    · exact h1
    · unfold layE at h; rw [if_pos h1] at h; have := shapeE_small b l; omega
  have he : layE b l = layF l l.length 0 := by unfold layE; rw [if_neg (by simpa using hs)]
  have hok : okTo l l.length := by
    rcases layF_cases l.length 0 (by omega) (okTo_zero l) with ⟨_, h1⟩ | ⟨P, h1, _⟩ | ⟨_, h1⟩
    · exact h1
    · rw [he, h1] at h; simp at h
    · exact h1
  have hc : ∀ i, i < n → nthI (l.take n) i = nthI l i := fun i hi => nthI_take l hi
  have hl : (l.take n).length = n := by rw [List.length_take]; omega
  unfold layE
  rw [if_neg (by simpa using shapeE_take n hs)]
  rcases layF_cases (l := l.take n) (l.take n).length 0 (by omega) (okTo_zero _) with ⟨h1, _⟩ | ⟨P, h1, h2, _, h4⟩ | ⟨h1, _⟩
  · exact .inl h1
  · rw [mayL_c hc P (by omega), hok P (by omega)] at h4; cases h4
  · rw [hl] at h1; rw [hl]; exact .inr h1
end Go.Proofs.Ytcckepjpehjijaa

/-
  The law LayoutBegins: the place of a fault hangs on the beginning alone.
-/
namespace Go.Proofs.Ytcckepjpehjijaa
open Go.RowKit
set_option linter.unusedVariables false
set_option linter.unusedSimpArgs false
set_option maxRecDepth 10000

theorem kitEnum_any (x : Int) (w : World) : Calls Try.prog 16 #[.int .u32 x] w fun e w' => e = .returned (.agg #[.int .u8 4, .int .u32 x, .string ⟨#[]⟩]) ∧ Below w.heap.size w w' := by
  have HB : Hid (Below w.heap.size w (w.alloc (.cells #[.int .u8 4, .int .u32 x, .string ⟨#[]⟩] 54))) := (Below.refl _ w).alloc (Nat.le_refl _) _
  go_enter Try.func16, Try.ntmps16
  go_wp2_with fail
  refine bodyPost_ret (v := .agg #[.int .u8 4, .int .u32 x, .string ⟨#[]⟩]) ?_ rfl ⟨rfl, HB.out⟩
  simp [results, Try.results16, go_sem]

theorem instsV_take {w : World} {a : Option Addr} {l : List InstT} (h : InstsV w a l) (n : Nat) : InstsV w a (l.take n) := by
  intro j hj
  have hj2 : j < n ∧ j < l.length := by rw [List.length_take] at hj; omega
  rw [nthI_take l hj2.1]
  exact h j hj2.2
theorem instsOk_take {l : List InstT} (h : InstsOk l) (n : Nat) : InstsOk (l.take n) := by
  intro j hj
  have hj2 : j < n ∧ j < l.length := by rw [List.length_take] at hj; omega
  rw [nthI_take l hj2.1]
  exact h j hj2.2
/-- An instruction that says a memory model. -/
def mod14 : InstT := (14, 0, 0, [(4, 0, ⟨#[]⟩), (4, 0, ⟨#[]⟩)])
theorem twice_wrong : layE 1 [mod14, mod14] = (50, 1) := by decide +kernel
theorem twice_ok : InstsOk [mod14, mod14] := by
  intro j hj
  have : j = 0 ∨ j = 1 := by simp at hj; omega
  rcases this with rfl | rfl <;> exact ⟨by decide, by decide, by decide, by decide, by decide, by decide, fun k hk => by
    have : k = 0 ∨ k = 1 := by simp [nthI, mod14] at hk; omega
    rcases this with rfl | rfl <;> exact ⟨by decide, by decide, by decide, by decide, by decide⟩, by decide⟩

theorem args14 {Y : World} {A : Nat} (h : Y.heap[A]? = some (.cells #[.int .u8 4, .int .u32 0, .string ⟨#[]⟩, .int .u8 4, .int .u32 0, .string ⟨#[]⟩] 54 (0, 0))) : ArgsV Y (some ⟨A, 0, none⟩) mod14.2.2.2 := by
  obtain ⟨cc, _⟩ := one_block h
  have hl := (Array.getElem?_eq_some_iff.1 h).1
  intro j hj
  have : j = 0 ∨ j = 1 := by simp [mod14] at hj; omega
  rcases this with rfl | rfl
  · exact ⟨A, 0, rfl, hl, cc 0, cc 1, cc 2⟩
  · exact ⟨A, 0, rfl, hl, cc 3, cc 4, cc 5⟩
theorem twice_mem {x5 : World} {A1 : Nat} (hA : x5.heap[A1]? = some (.cells #[.int .u8 4, .int .u32 0, .string ⟨#[]⟩, .int .u8 4, .int .u32 0, .string ⟨#[]⟩] 54 (0, 0))) :
    InstsV (((x5.alloc (.cells #[.int .u8 4, .int .u32 0, .string ⟨#[]⟩, .int .u8 4, .int .u32 0, .string ⟨#[]⟩] 54)).alloc (.cells #[.int .u16 14, .int .u32 0, .int .u32 0, .slice (some ⟨A1, 0, none⟩) 2 2, .int .u16 14, .int .u32 0, .int .u32 0, .slice (some ⟨x5.heap.size, 0, none⟩) 2 2] 58)).alloc (.cells #[.int .u32 0, .int .u32 1, .slice (some ⟨x5.heap.size + 1, 0, none⟩) 2 2] 25)) (some ⟨x5.heap.size + 1, 0, none⟩) [mod14, mod14] ∧
    Below x5.heap.size x5 (((x5.alloc (.cells #[.int .u8 4, .int .u32 0, .string ⟨#[]⟩, .int .u8 4, .int .u32 0, .string ⟨#[]⟩] 54)).alloc (.cells #[.int .u16 14, .int .u32 0, .int .u32 0, .slice (some ⟨A1, 0, none⟩) 2 2, .int .u16 14, .int .u32 0, .int .u32 0, .slice (some ⟨x5.heap.size, 0, none⟩) 2 2] 58)).alloc (.cells #[.int .u32 0, .int .u32 1, .slice (some ⟨x5.heap.size + 1, 0, none⟩) 2 2] 25)) := by
  have hl := (Array.getElem?_eq_some_iff.1 hA).1
  have hb := (((Below.refl _ x5).alloc (Nat.le_refl _) (.cells #[.int .u8 4, .int .u32 0, .string ⟨#[]⟩, .int .u8 4, .int .u32 0, .string ⟨#[]⟩] 54)).alloc (by simp) (.cells #[.int .u16 14, .int .u32 0, .int .u32 0, .slice (some ⟨A1, 0, none⟩) 2 2, .int .u16 14, .int .u32 0, .int .u32 0, .slice (some ⟨x5.heap.size, 0, none⟩) 2 2] 58)).alloc (by simp; omega) (.cells #[.int .u32 0, .int .u32 1, .slice (some ⟨x5.heap.size + 1, 0, none⟩) 2 2] 25)
  have k1 := (hb.block A1 hl).trans hA
  have k2 : (((x5.alloc (.cells #[.int .u8 4, .int .u32 0, .string ⟨#[]⟩, .int .u8 4, .int .u32 0, .string ⟨#[]⟩] 54)).alloc (.cells #[.int .u16 14, .int .u32 0, .int .u32 0, .slice (some ⟨A1, 0, none⟩) 2 2, .int .u16 14, .int .u32 0, .int .u32 0, .slice (some ⟨x5.heap.size, 0, none⟩) 2 2] 58)).alloc (.cells #[.int .u32 0, .int .u32 1, .slice (some ⟨x5.heap.size + 1, 0, none⟩) 2 2] 25)).heap[x5.heap.size]? = some (.cells #[.int .u8 4, .int .u32 0, .string ⟨#[]⟩, .int .u8 4, .int .u32 0, .string ⟨#[]⟩] 54 (0, 0)) := by
    rw [Below.heap_alloc _ _ _ (by simp <;> omega), Below.heap_alloc _ _ _ (by simp)]; exact heap_alloc_new x5 _
  have k3 : (((x5.alloc (.cells #[.int .u8 4, .int .u32 0, .string ⟨#[]⟩, .int .u8 4, .int .u32 0, .string ⟨#[]⟩] 54)).alloc (.cells #[.int .u16 14, .int .u32 0, .int .u32 0, .slice (some ⟨A1, 0, none⟩) 2 2, .int .u16 14, .int .u32 0, .int .u32 0, .slice (some ⟨x5.heap.size, 0, none⟩) 2 2] 58)).alloc (.cells #[.int .u32 0, .int .u32 1, .slice (some ⟨x5.heap.size + 1, 0, none⟩) 2 2] 25)).heap[x5.heap.size + 1]? = some (.cells #[.int .u16 14, .int .u32 0, .int .u32 0, .slice (some ⟨A1, 0, none⟩) 2 2, .int .u16 14, .int .u32 0, .int .u32 0, .slice (some ⟨x5.heap.size, 0, none⟩) 2 2] 58 (0, 0)) := by
    have := heap_alloc_new (x5.alloc (.cells #[.int .u8 4, .int .u32 0, .string ⟨#[]⟩, .int .u8 4, .int .u32 0, .string ⟨#[]⟩] 54)) (.cells #[.int .u16 14, .int .u32 0, .int .u32 0, .slice (some ⟨A1, 0, none⟩) 2 2, .int .u16 14, .int .u32 0, .int .u32 0, .slice (some ⟨x5.heap.size, 0, none⟩) 2 2] 58)
    rw [World.size_alloc] at this
    exact (Below.heap_alloc _ _ _ (by simp)).trans this
  refine ⟨?_, hb⟩
  obtain ⟨cc, _⟩ := one_block k3
  have hl3 := (Array.getElem?_eq_some_iff.1 k3).1
  intro j hj
  have : j = 0 ∨ j = 1 := by simp at hj; omega
  rcases this with rfl | rfl
  · exact ⟨x5.heap.size + 1, 0, some ⟨A1, 0, none⟩, 2, 2, rfl, hl3, cc 0, cc 1, cc 2, cc 3, rfl, args14 k1, Nat.le_refl _⟩
  · exact ⟨x5.heap.size + 1, 0, some ⟨x5.heap.size, 0, none⟩, 2, 2, rfl, hl3, cc 4, cc 5, cc 6, cc 7, rfl, args14 k2, Nat.le_refl _⟩

end Go.Proofs.Ytcckepjpehjijaa

/-
  The document's Part of an instruction.
-/
namespace Go.Proofs.Ytcckepjpehjijaa
open Go.RowKit
set_option linter.unusedVariables false
set_option linter.unusedSimpArgs false
set_option maxRecDepth 10000

/-- A part is a small number. -/
theorem partO_small (op : Int) : 0 ≤ partO op ∧ partO op ≤ 9 := by
  have h : refT.all (fun r => decide (0 ≤ r.2.2.2.2.2.2.2) && decide (r.2.2.2.2.2.2.2 ≤ 9)) = true := by decide +kernel
  unfold partO
  split
  · next h1 =>
    have h2 := List.all_eq_true.1 h _ (lookF_true h1)
    simpa using h2
  · omega

theorem partI_small (x : InstT) : 0 ≤ partI x ∧ partI x ≤ 9 := by
  unfold partI
  split
  · omega
  · exact partO_small _

set_option maxHeartbeats 4000000 in
theorem refPart_any (x : InstT) (ax : Option Addr) (n cx : Nat) (w : World) (hv : ArgsV w ax x.2.2.2) (hl : x.2.2.2.length = n) (h59 : x.1 = 59 → 1 ≤ n) :
    Calls Try.prog 30 #[instV x ax n cx] w fun e w' => e = .returned (.int .i64 (partI x)) ∧ Below w.heap.size w w' := by
  obtain ⟨xo, xt, xr, xl⟩ := x
  unfold instV partI
  simp only at *
  have hO := fun wx => refOf_any xo wx
  have hba : Below w.heap.size w (w.alloc (.cells #[.int .u16 xo, .int .u32 xt, .int .u32 xr, .slice ax n cx] 58)) := (Below.refl _ w).alloc (Nat.le_refl _) _
  have HBA := hide hba
  have hof : ∃ nm ty re fx rs mo o, ofV xo = .agg #[.int .u16 o, .string nm, .bool ty, .bool re, .string fx, .string rs, .int .i64 mo, .int .u8 (partO xo)] := by
    unfold ofV partO formV
    cases h : (lookF refT xo).2 with
    | true => exact ⟨_, _, _, _, _, _, _, by simp; exact ⟨rfl, rfl, rfl, rfl, rfl, rfl, rfl⟩⟩
    | false => exact ⟨_, _, _, _, _, _, _, by simp [noFrm]; exact ⟨rfl, rfl, rfl, rfl, rfl, rfl, rfl⟩⟩
  obtain ⟨nm, ty, re, fx, rs, mo, o, ho⟩ := hof
  rw [ho] at hO
  have hsm := partO_small xo
  generalize hp : partO xo = po at *
  have hw : wrap64 po = po := by unfold wrap64; omega
  clear hsm
  have OTHER : ¬ (xo = 59 ∧ (nthA xl 0).2.1 = 7) → Calls Try.prog 30 #[.agg #[.int .u16 xo, .int .u32 xt, .int .u32 xr, .slice ax n cx]] w fun e w' => e = .returned (.int .i64 po) ∧ Below w.heap.size w w' := by
    intro hno
    by_cases h1 : xo = 59
    · subst h1
      have h7 : (nthA xl 0).2.1 ≠ 7 := fun e => hno ⟨rfl, e⟩
      obtain ⟨ba, oa, rfl, hb, z0, z1, z2⟩ := hv 0 (by have := h59 rfl; omega)
      have hn0 : (0 : Int) < (n : Int) := by have := h59 rfl; omega
      have zz1 := (hba.cell (p := ⟨ba, oa + 0 * 3 + 1, none⟩) hb).trans z1
      rw [show oa + 0 * 3 + 1 = oa + 1 by omega] at zz1
      generalize (nthA xl 0).2.1 = y at *
      have h7' : (y == 7) = false := by simpa using h7
      clear hno h7 hv hl h59 z0 z1 z2 hba hp ho
      go_enter Try.func30, Try.ntmps30
      go_wp2_with fail
      refine (hO _).mono ?_
      rintro e w1 ⟨rfl, hb1⟩
      have HB1 := hide (HBA.out.trans (hb1.mono HBA.out.size))
      clear hb1 hO zz1
      go_wp2_with fail
      rw [hw]
      go_ret
      exact ⟨rfl, HB1.out.alloc HB1.out.size _⟩
    · have h1' : (xo == 59) = false := by simpa using h1
      clear hno h1 hv hl h59 hba hp ho
      go_enter Try.func30, Try.ntmps30
      go_wp2_with fail
      refine (hO _).mono ?_
      rintro e w1 ⟨rfl, hb1⟩
      have HB1 := hide (HBA.out.trans (hb1.mono HBA.out.size))
      clear hb1 hO
      go_wp2_with fail
      rw [hw]
      go_ret
      exact ⟨rfl, HB1.out.alloc HB1.out.size _⟩
  by_cases hc : xo = 59 ∧ (nthA xl 0).2.1 = 7
  · rw [if_pos hc]
    obtain ⟨rfl, h7⟩ := hc
    obtain ⟨ba, oa, rfl, hb, z0, z1, z2⟩ := hv 0 (by have := h59 rfl; omega)
    have hn0 : (0 : Int) < (n : Int) := by have := h59 rfl; omega
    rw [h7] at z1
    have zz1 := (hba.cell (p := ⟨ba, oa + 0 * 3 + 1, none⟩) hb).trans z1
    rw [show oa + 0 * 3 + 1 = oa + 1 by omega] at zz1
    clear OTHER h7 hv hl h59 z0 z1 z2 hba hp ho hO
    go_enter Try.func30, Try.ntmps30
    go_wp2_with fail
    go_ret
    exact ⟨rfl, HBA.out⟩
  · rw [if_neg hc]
    exact OTHER hc

end Go.Proofs.Ytcckepjpehjijaa
