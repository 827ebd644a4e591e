/-
  Texts laid together in one: KitCopyInst, KitInst, LawGraphTargets.
-/
import Derived.WalkSpells
import Derived.BigRegion
import Derived.Deep.RegionWith
import Derived.Deep.DrawnRows
import Derived.Deep.QuietTactic
import Derived.BigQuiet
import Derived.Test.YtclgjolplobdbaaProg
import Derived.Test.YtclgjolplobdbaaB09
import Derived.Test.YtclgjolplobdbaaB06
import Derived.WalkMore
import Derived.BigGuard
import Derived.Test.YtclgjolplobdbaaB05
import Derived.Test.YtclgjolplobdbaaB01
import Derived.Test.YtclgjolplobdbaaB02
/-
  CopyInst of the kit answers the instruction in new memory.
-/
namespace Go.Proofs.Ytclgjolplobdbaa
open Go.RowKit

theorem CopyInst.info : (Try.prog.info? 36).map (fun i => (i.zero, i.size, i.bytes)) = some (some (.agg #[.int .u8 0, .int .u32 0, .string ⟨#[]⟩]), 3, 24) := by kernel_rfl

/-- The first k arguments lie in the row at g. -/
structure PartA (w : World) (g n k : Nat) (l : List ArgT) : Prop where
  row : ∃ cs : Array Value, w.heap[g]? = some (.cells cs 36 (0, 0)) ∧ cs.size = n * 3
  each : ∀ j, j < k → w.cell? ⟨g, j * 3, none⟩ = some (.int .u8 (nthA l j).1) ∧ w.cell? ⟨g, j * 3 + 1, none⟩ = some (.int .u32 (nthA l j).2.1) ∧ w.cell? ⟨g, j * 3 + 2, none⟩ = some (.string (nthA l j).2.2)

theorem cells_can {w : World} {g T : Nat} {cs : Array Value} (h : w.heap[g]? = some (.cells cs T (0, 0))) (j : Nat) (hj : j < cs.size) : (∃ v, w.cell? ⟨g, j, none⟩ = some v) ∧ w.frozen? ⟨g, j, none⟩ = false := by
  refine ⟨⟨cs[j], by simp [World.cell?, h, hj]⟩, by simp [World.frozen?, h]⟩

theorem PartA.store {w : World} {g n k : Nat} {l : List ArgT} (h : PartA w g n k l) (hk : k < n) :
    PartA (((w.setCell ⟨g, k * 3, none⟩ (.int .u8 (nthA l k).1)).setCell ⟨g, k * 3 + 1, none⟩ (.int .u32 (nthA l k).2.1)).setCell ⟨g, k * 3 + 2, none⟩ (.string (nthA l k).2.2)) g n (k + 1) l := by
  obtain ⟨⟨cs, h1, h2⟩, h3⟩ := h
  obtain ⟨W, hW⟩ : ∃ W, W = ((w.setCell ⟨g, k * 3, none⟩ (.int .u8 (nthA l k).1)).setCell ⟨g, k * 3 + 1, none⟩ (.int .u32 (nthA l k).2.1)).setCell ⟨g, k * 3 + 2, none⟩ (.string (nthA l k).2.2) := ⟨_, rfl⟩
  have hb : W.heap[g]? = some (.cells (((cs.setIfInBounds (k * 3) (.int .u8 (nthA l k).1)).setIfInBounds (k * 3 + 1) (.int .u32 (nthA l k).2.1)).setIfInBounds (k * 3 + 2) (.string (nthA l k).2.2)) 36 (0, 0)) := by
    rw [hW]; simp [World.setCell, Array.getElem?_modify, h1]
  have cell : ∀ j, W.cell? ⟨g, j, none⟩ = (((cs.setIfInBounds (k * 3) (.int .u8 (nthA l k).1)).setIfInBounds (k * 3 + 1) (.int .u32 (nthA l k).2.1)).setIfInBounds (k * 3 + 2) (.string (nthA l k).2.2))[j]? := fun j => by
    simp [World.cell?, hb]
  have old : ∀ j, w.cell? ⟨g, j, none⟩ = cs[j]? := fun j => by simp [World.cell?, h1]
  rw [← hW]
  refine ⟨⟨_, hb, by simp [h2]⟩, fun j hj => ?_⟩
  by_cases hjk : j < k
  · obtain ⟨c1, c2, c3⟩ := h3 j hjk
    rw [old] at c1 c2 c3
    refine ⟨?_, ?_, ?_⟩
    all_goals rw [cell, Array.getElem?_setIfInBounds_ne (by omega), Array.getElem?_setIfInBounds_ne (by omega), Array.getElem?_setIfInBounds_ne (by omega)]
    · exact c1
    · exact c2
    · exact c3
  · obtain rfl : j = k := by omega
    refine ⟨?_, ?_, ?_⟩
    · rw [cell, Array.getElem?_setIfInBounds_ne (by omega), Array.getElem?_setIfInBounds_ne (by omega), Array.getElem?_setIfInBounds_self_of_lt (by omega)]
    · rw [cell, Array.getElem?_setIfInBounds_ne (by omega), Array.getElem?_setIfInBounds_self_of_lt (by simp; omega)]
    · rw [cell, Array.getElem?_setIfInBounds_self_of_lt (by simp; omega)]

theorem PartA.view {w : World} {g n : Nat} {l : List ArgT} (h : PartA w g n n l) (hl : l.length = n) : ArgsV w (some ⟨g, 0, none⟩) l := by
  intro j hj
  obtain ⟨c1, c2, c3⟩ := h.each j (by omega)
  exact ⟨g, 0, rfl, World.block_lt_of_cell? _ _ c1, by rw [Nat.zero_add]; exact c1, by rw [Nat.zero_add]; exact c2, by rw [Nat.zero_add]; exact c3⟩

theorem PartA.drew {w : World} {g n k : Nat} {l : List ArgT} (h : PartA w g n k l) (q : Nat) : PartA (w.drewN q) g n k l := ⟨h.row, h.each⟩

theorem setFar1 {w : World} {g k : Nat} {o : Obj} (h : w.heap[k]? = some o) (hne : k ≠ g) (i : Nat) (u : Value) : (w.setCell ⟨g, i, none⟩ u).heap[k]? = some o := (Below.heap_setCell _ _ _ _ (by simpa using hne)).trans h
theorem setFar3 {w : World} {g k : Nat} {o : Obj} (h : w.heap[k]? = some o) (hne : k ≠ g) (i j m : Nat) (u v x : Value) : (((w.setCell ⟨g, i, none⟩ u).setCell ⟨g, j, none⟩ v).setCell ⟨g, m, none⟩ x).heap[k]? = some o := setFar1 (setFar1 (setFar1 h hne i u) hne j v) hne m x
theorem block_cells {w : World} {B T : Nat} {cs : Array Value} (h : w.heap[B]? = some (.cells cs T (0, 0))) : (∀ i, w.cell? ⟨B, i, none⟩ = cs[i]?) ∧ (∀ i, w.frozen? ⟨B, i, none⟩ = false) := by
  refine ⟨fun i => ?_, fun i => ?_⟩
  · simp [World.cell?, h]
  · simp [World.frozen?, h]

theorem four_set {w : World} {B T : Nat} {z0 z1 z2 z3 : Value} (h : w.heap[B]? = some (.cells #[z0, z1, z2, z3] T (0, 0))) (u0 u1 u2 u3 : Value) :
    ((((w.setCell ⟨B, 0, none⟩ u0).setCell ⟨B, 1, none⟩ u1).setCell ⟨B, 2, none⟩ u2).setCell ⟨B, 3, none⟩ u3).heap[B]? = some (.cells #[u0, u1, u2, u3] T (0, 0)) := by
  simp only [World.setCell, Array.getElem?_modify, h]; simp
theorem four_below (w : World) (B : Nat) (u0 u1 u2 u3 : Value) : Below B w ((((w.setCell ⟨B, 0, none⟩ u0).setCell ⟨B, 1, none⟩ u1).setCell ⟨B, 2, none⟩ u2).setCell ⟨B, 3, none⟩ u3) :=
  ((((Below.refl B w).setCell (Nat.le_refl _) _).setCell (Nat.le_refl _) _).setCell (Nat.le_refl _) _).setCell (Nat.le_refl _) _
theorem args_far {w : World} {b off g : Nat} {l : List ArgT} (h : ArgsV w (some ⟨b, off, none⟩) l) (hg : g ≠ b) (i : Nat) (v : Value) : ArgsV (w.setCell ⟨g, i, none⟩ v) (some ⟨b, off, none⟩) l :=
  h.setCell (fun b' off' e => by cases e; exact fun h => hg h.symm) v

set_option maxRecDepth 100000 in
set_option maxHeartbeats 2000000 in
theorem copyInst_any (x : InstT) (ax : Option Addr) (n cx : Nat) (w : World) (hx : ArgsV w ax x.2.2.2) (hl : x.2.2.2.length = n) (hn : 24 * n ≤ 140737488351232) :
    Calls Try.prog 4 #[instV x ax n cx] w fun e w' => ∃ g, e = .returned (instV x (some ⟨g, 0, none⟩) n n) ∧ w.heap.size ≤ g ∧ ArgsV w' (some ⟨g, 0, none⟩) x.2.2.2 ∧ Below w.heap.size w w' := by
  obtain ⟨i0, hi, hz0, hz1, hz2⟩ := info_parts CopyInst.info
  obtain ⟨xo, xt, xr, xl⟩ := x
  unfold instV
  simp only at *
  have HL : Hid (xl.length = n) := hl
  clear hl
  go_enter Try.func4, Try.ntmps4
  go_wp2_with (at_make; refine wpList_make_full _ rfl _ _ 24 rfl (w.heap.size + 1) 36 i0 (.agg #[.int .u8 0, .int .u32 0, .string ⟨#[]⟩]) 3 Try.underlying24 hi hz0 hz1 _ _ _ _ n rfl rfl (by omega) (by omega) (by rw [hz2]; omega) (by unfold maxLen; omega) (by simp) ?_)
  intro w1 hown1 hgrow1
  have hb0 : Below w.heap.size w ((w.alloc (.cells #[.int .u16 xo, .int .u32 xt, .int .u32 xr, .slice ax n cx] 26)).alloc (.cells #[.int .u16 0, .int .u32 0, .int .u32 0, .slice none 0 0] 26)) := ((Below.refl _ w).alloc (Nat.le_refl _) _).alloc (by simp) _
  have hb1 : Below (w.heap.size + 2) ((w.alloc (.cells #[.int .u16 xo, .int .u32 xt, .int .u32 xr, .slice ax n cx] 26)).alloc (.cells #[.int .u16 0, .int .u32 0, .int .u32 0, .slice none 0 0] 26)) w1 := (Below.refl _ _).grown hgrow1 (by simp) (by simp)
  have hbox : w1.heap[w.heap.size]? = some (.cells #[.int .u16 xo, .int .u32 xt, .int .u32 xr, .slice ax n cx] 26 (0, 0)) := (hb1.block w.heap.size (by omega)).trans ((Below.heap_alloc _ _ _ (by simp)).trans (heap_alloc_new w _))
  have hres : w1.heap[w.heap.size + 1]? = some (.cells #[.int .u16 0, .int .u32 0, .int .u32 0, .slice none 0 0] 26 (0, 0)) := (hb1.block (w.heap.size + 1) (by omega)).trans (by simpa using heap_alloc_new (w.alloc (.cells #[.int .u16 xo, .int .u32 xt, .int .u32 xr, .slice ax n cx] 26)) (.cells #[.int .u16 0, .int .u32 0, .int .u32 0, .slice none 0 0] 26))
  have hP1 : PartA w1 (w.heap.size + 2) n 0 xl := by
    refine ⟨?_, fun j hj => by omega⟩
    rcases hown1.2 with ⟨h, _⟩ | ⟨g, cap', cur, h1, h2, h3, h4, h5, h6, _⟩
    · simp at h
    · simp at h1; obtain ⟨rfl, rfl⟩ := h1; exact ⟨cur, h3, h6⟩
  have hbw1 : Below w.heap.size w w1 := hb0.trans (hb1.mono (by omega))
  clear hown1 hgrow1 hb0 hb1
  go_wp2
  go_loopw [4] (fun i wr => ∃ k : Nat, k ≤ n ∧ i = .int .i64 k ∧ PartA wr (w.heap.size + 2) n k xl ∧ wr.heap[w.heap.size]? = some (.cells #[.int .u16 xo, .int .u32 xt, .int .u32 xr, .slice ax n cx] 26 (0, 0)) ∧ wr.heap[w.heap.size + 1]? = some (.cells #[.int .u16 0, .int .u32 0, .int .u32 0, .slice none 0 0] 26 (0, 0)) ∧ Below w.heap.size w wr) (fun i _ => n - (intOf i).toNat)
  case atStart => exact ⟨0, Nat.zero_le _, rfl, hP1, hbox, hres, hbw1⟩
  case round =>
    obtain ⟨k, hk, rfl, hP, hbx, hrs, hnx⟩ := hrel
    clear hP1 hbw1 hbox hres
    have hbc : wr.cell? ⟨w.heap.size, 3, none⟩ = some (.slice ax n cx) := by simp [World.cell?, hbx]
    have hsz := hnx.size
    by_cases hlt : k < n
    · obtain ⟨b, off, rfl, hbs, p1, p2, p3⟩ := hx k (by rw [HL.out]; exact hlt)
      have q1 := (hnx.cell (p := ⟨b, off + k * 3, none⟩) hbs).trans p1
      have q2 := (hnx.cell (p := ⟨b, off + k * 3 + 1, none⟩) hbs).trans p2
      have q3 := (hnx.cell (p := ⟨b, off + k * 3 + 2, none⟩) hbs).trans p3
      obtain ⟨cs, hr1, hr2⟩ := hP.row
      obtain ⟨⟨u0, d0⟩, f0⟩ := cells_can hr1 (k * 3) (by omega)
      obtain ⟨⟨u1, d1⟩, f1⟩ := cells_can hr1 (k * 3 + 1) (by omega)
      obtain ⟨⟨u2, d2⟩, f2⟩ := cells_can hr1 (k * 3 + 2) (by omega)
      have hki : (k : Int) < (n : Int) := by omega
      have hk0 : (0 : Int) ≤ (k : Int) := by omega
      have hP2 := hP.store hlt
      have HX : Hid (wr.heap[w.heap.size]? = some (.cells #[.int .u16 xo, .int .u32 xt, .int .u32 xr, .slice (some ⟨b, off, none⟩) n cx] 26 (0, 0))) := hbx
      have HP2 : Hid _ := hP2
      have HR : Hid _ := hrs
      clear hP2 hP hr1 hr2 p1 p2 p3 hx hbx hrs
      go_wp2
      go_roundw
      case rel => exact ⟨k + 1, by omega, by go_num, HP2.out, setFar3 HX.out (by omega) _ _ _ _ _ _, setFar3 HR.out (by omega) _ _ _ _ _ _, ((hnx.setCell (by show w.heap.size ≤ w.heap.size + 1 + 1; omega) _).setCell (by show w.heap.size ≤ w.heap.size + 1 + 1; omega) _).setCell (by show w.heap.size ≤ w.heap.size + 1 + 1; omega) _⟩
      case measure => simp [intOf]; omega
    · obtain rfl : k = n := by omega
      obtain ⟨hc, hf⟩ := block_cells hbx
      obtain ⟨hc', hf'⟩ := block_cells hrs
      have c0 := hc 0
      have c1 := hc 1
      have c2 := hc 2
      have r0 := hc' 0
      have r1 := hc' 1
      have r2 := hc' 2
      have r3 := hc' 3
      have hV := hP.view HL.out
      have HV : Hid _ := hV
      have HB : Hid _ := hnx
      have HX : Hid _ := hbx
      have HR : Hid _ := hrs
      clear hP hbx hrs hc hc' hx hV hnx
      go_wp2
      have hB4 := four_set (setFar1 HR.out (show w.heap.size + 1 ≠ w.heap.size by omega) 3 (.slice (some ⟨w.heap.size + 1 + 1, 0, none⟩) k k)) (.int .u16 xo) (.int .u32 xt) (.int .u32 xr) (.slice (some ⟨w.heap.size + 1 + 1, 0, none⟩) k k)
      have hBel := (HB.out.setCell (p := ⟨w.heap.size, 3, none⟩) (Nat.le_refl _) (.slice (some ⟨w.heap.size + 1 + 1, 0, none⟩) k k)).trans ((four_below (wr.setCell ⟨w.heap.size, 3, none⟩ (.slice (some ⟨w.heap.size + 1 + 1, 0, none⟩) k k)) (w.heap.size + 1) (.int .u16 xo) (.int .u32 xt) (.int .u32 xr) (.slice (some ⟨w.heap.size + 1 + 1, 0, none⟩) k k)).mono (show w.heap.size ≤ w.heap.size + 1 by omega))
      have hV2 := args_far HV.out (show w.heap.size ≠ w.heap.size + 2 by omega) 3 (.slice (some ⟨w.heap.size + 1 + 1, 0, none⟩) k k)
      have hV3 := args_far (args_far (args_far (args_far hV2 (show w.heap.size + 1 ≠ w.heap.size + 2 by omega) 0 (.int .u16 xo)) (show w.heap.size + 1 ≠ w.heap.size + 2 by omega) 1 (.int .u32 xt)) (show w.heap.size + 1 ≠ w.heap.size + 2 by omega) 2 (.int .u32 xr)) (show w.heap.size + 1 ≠ w.heap.size + 2 by omega) 3 (.slice (some ⟨w.heap.size + 1 + 1, 0, none⟩) k k)
      clear hV2 HV HB HR HX c0 c1 c2 r0 r1 r2 r3 hf hf'
      generalize ((((wr.setCell _ _).setCell _ _).setCell _ _).setCell _ _).setCell _ _ = W at hB4 hBel hV3 ⊢
      obtain ⟨hd, _⟩ := block_cells hB4
      have d0 := hd 0
      have d1 := hd 1
      have d2 := hd 2
      have d3 := hd 3
      refine bodyPost_ret (v := .agg #[.int .u16 xo, .int .u32 xt, .int .u32 xr, .slice (some ⟨w.heap.size + 1 + 1, 0, none⟩) k k]) ?_ rfl ⟨w.heap.size + 1 + 1, rfl, by omega, hV3, hBel⟩
      simp [results, Try.results4, go_sem, d0, d1, d2, d3]

end Go.Proofs.Ytclgjolplobdbaa

/-
  Inst of the kit tells whether two instructions are the same.
-/
namespace Go.Proofs.Ytclgjolplobdbaa
open Go.RowKit
set_option maxRecDepth 10000

theorem two_boxes (w : World) (o p : Obj) : Below w.heap.size w ((w.alloc o).alloc p) := ((Below.refl _ w).alloc (Nat.le_refl _) _).alloc (by simp) _

theorem block_two (w : World) (xs ys : Array Value) (S T : Nat) :
    (∀ i, ((w.alloc (.cells xs S)).alloc (.cells ys T)).cell? ⟨w.heap.size, i, none⟩ = xs[i]?) ∧ (∀ i, ((w.alloc (.cells xs S)).alloc (.cells ys T)).cell? ⟨w.heap.size + 1, i, none⟩ = ys[i]?) := by
  constructor
  · intro i
    have h : ((w.alloc (.cells xs S)).alloc (.cells ys T)).heap[w.heap.size]? = some (.cells xs S (0, 0)) := (Below.heap_alloc _ _ _ (by simp)).trans (heap_alloc_new w _)
    simp only [World.cell?, h]; rfl
  · intro i
    have h : ((w.alloc (.cells xs S)).alloc (.cells ys T)).heap[w.heap.size + 1]? = some (.cells ys T (0, 0)) := by simpa using heap_alloc_new (w.alloc (.cells xs S)) (.cells ys T)
    simp only [World.cell?, h]; rfl

set_option maxHeartbeats 1000000 in
theorem kitInst_any (x y : InstT) (ax ay : Option Addr) (n m cx cy : Nat) (w : World) (hx : ArgsV w ax x.2.2.2) (hy : ArgsV w ay y.2.2.2) (hlx : x.2.2.2.length = n) (hly : y.2.2.2.length = m) (hn : n ≤ 140737488351232) (hm : m ≤ 140737488351232) :
    Calls Try.prog 9 #[instV x ax n cx, instV y ay m cy] w fun e w' => e = .returned (.bool (decide (x = y))) ∧ Below w.heap.size w w' := by
  obtain ⟨xo, xt, xr, xl⟩ := x
  obtain ⟨yo, yt, yr, yl⟩ := y
  unfold instV
  simp only at *
  have HLX : Hid (xl.length = n) := hlx
  have HLY : Hid (yl.length = m) := hly
  clear hlx hly
  by_cases H : xo = yo ∧ xt = yt ∧ xr = yr ∧ n = m
  · obtain ⟨rfl, rfl, rfl, rfl⟩ := H
    have e1 : decide ((xo, xt, xr, xl) = (xo, xt, xr, yl)) = decide (xl = yl) := by simp
    rw [e1]
    go_enter Try.func9, Try.ntmps9
    go_wp2
    have hB := two_boxes w (.cells #[.int .u16 xo, .int .u32 xt, .int .u32 xr, .slice ax n cx] 26) (.cells #[.int .u16 xo, .int .u32 xt, .int .u32 xr, .slice ay n cy] 26)
    have hx1 := hx.below hB
    have hy1 := hy.below hB
    have hA : ((w.alloc (.cells #[.int .u16 xo, .int .u32 xt, .int .u32 xr, .slice ax n cx] 26)).alloc (.cells #[.int .u16 xo, .int .u32 xt, .int .u32 xr, .slice ay n cy] 26)).cell? ⟨w.heap.size, 3, none⟩ = some (.slice ax n cx) := by simp [go_sem]
    have hA2 : ((w.alloc (.cells #[.int .u16 xo, .int .u32 xt, .int .u32 xr, .slice ax n cx] 26)).alloc (.cells #[.int .u16 xo, .int .u32 xt, .int .u32 xr, .slice ay n cy] 26)).cell? ⟨w.heap.size + 1, 3, none⟩ = some (.slice ay n cy) := by simp [go_sem]
    generalize ((w.alloc (.cells #[.int .u16 xo, .int .u32 xt, .int .u32 xr, .slice ax n cx] 26)).alloc (.cells #[.int .u16 xo, .int .u32 xt, .int .u32 xr, .slice ay n cy] 26)) = W at *
    clear hx hy
    go_loopw [5] (fun i wr => ∃ k q : Nat, k ≤ n ∧ i = .int .i64 k ∧ wr = W.drewN q ∧ ∀ j, j < k → nthA xl j = nthA yl j) (fun i _ => n - (intOf i).toNat)
    case atStart => exact ⟨0, 0, Nat.zero_le _, rfl, rfl, fun j hj => by omega⟩
    case round =>
      obtain ⟨k, q, hk, rfl, rfl, hall⟩ := hrel
      have HALL : Hid (∀ j, j < k → nthA xl j = nthA yl j) := hall
      clear hall
      by_cases hlt : k < n
      · obtain ⟨b1, o1, rfl, _, c1, c2, c3⟩ := hx1 k (by rw [HLX.out]; exact hlt)
        obtain ⟨b2, o2, rfl, _, d1, d2, d3⟩ := hy1 k (by rw [HLY.out]; exact hlt)
        have hk0 : (0 : Int) ≤ (k : Int) := by omega
        have hki : (k : Int) < (n : Int) := by omega
        by_cases he : nthA xl k = nthA yl k
        · rw [← he] at d1 d2 d3
          obtain ⟨z, hz⟩ : ∃ z, z = nthA xl k := ⟨_, rfl⟩
          obtain ⟨z1, z2, z3⟩ := z
          rw [← hz] at c1 c2 c3 d1 d2 d3
          have HE : Hid (nthA xl k = nthA yl k) := he
          clear hx1 hy1 hz he
          go_wp2
          go_quiet (fail)
          go_wp2
          go_roundw
          case rel => exact ⟨k + 1, _, by omega, by go_num, rfl, fun j hj => by
            by_cases hjk : j < k
            · exact HALL.out j hjk
            · obtain rfl : j = k := by omega
              exact HE.out⟩
          case measure => simp [intOf]; omega
        · obtain ⟨z, hz⟩ : ∃ z, z = nthA xl k := ⟨_, rfl⟩
          obtain ⟨y, hy⟩ : ∃ y, y = nthA yl k := ⟨_, rfl⟩
          rw [← hz] at c1 c2 c3
          rw [← hy] at d1 d2 d3
          have HE : Hid (decide (xl = yl) = false) := decide_eq_false (fun h => he (by rw [h]))
          rw [← hz, ← hy] at he
          obtain ⟨z1, z2, z3⟩ := z
          obtain ⟨y1, y2, y3⟩ := y
          clear hx1 hy1 hz hy
          by_cases h1 : z1 = y1
          · subst h1
            by_cases h2 : z2 = y2
            · subst h2
              have h3 : ¬ z3.toList = y3.toList := fun h => he (by rw [str_inj h])
              clear he
              go_wp2
              go_quiet (fail)
              go_wp2
              go_ret
              exact ⟨by rw [HE.out]; rfl, bel_drewN (bel_drewN hB q) _⟩
            · clear he
              go_wp2
              go_quiet (fail)
              go_wp2
              go_ret
              exact ⟨by rw [HE.out]; rfl, bel_drewN (bel_drewN hB q) _⟩
          · clear he
            go_wp2
            go_quiet (fail)
            go_wp2
            go_ret
            exact ⟨by rw [HE.out]; rfl, bel_drewN (bel_drewN hB q) _⟩
      · go_wp2
        go_ret
        refine ⟨?_, bel_drewN hB q⟩
        obtain rfl : k = n := by omega
        show Ending.returned (.bool true) = _
        rw [decide_eq_true]
        exact (argsEq_iff _ _).2 ⟨by rw [HLX.out, HLY.out], fun j hj => HALL.out j (by rw [← HLX.out]; exact hj)⟩
  · have e1 : decide ((xo, xt, xr, xl) = (yo, yt, yr, yl)) = false := by
      rw [decide_eq_false]
      intro h
      simp only [Prod.mk.injEq] at h
      obtain ⟨rfl, rfl, rfl, rfl⟩ := h
      exact H ⟨rfl, rfl, rfl, HLX.out.symm.trans HLY.out⟩
    rw [e1]
    go_enter Try.func9, Try.ntmps9
    go_wp2
    all_goals first | (exfalso; apply H; refine ⟨rfl, rfl, rfl, ?_⟩; omega) | (go_ret; exact ⟨rfl, two_boxes _ _ _⟩)

end Go.Proofs.Ytclgjolplobdbaa

/-
  GraphTargets is true for every instruction.
-/
namespace Go.Proofs.Ytclgjolplobdbaa
open Go.RowKit
set_option linter.unusedVariables false
set_option linter.unusedSimpArgs false
set_option maxRecDepth 10000

theorem tgL_len (x : InstT) : (tgL x).length ≤ x.2.2.2.length := by
  unfold tgL; split
  · exact tgP_len _ _ _
  · simp

set_option maxHeartbeats 8000000 in
theorem graphTargets_true (w : World) (x : InstT) (a : Option Addr) (n c : Nat) (hl : x.2.2.2.length = n) (hv : ArgsV w a x.2.2.2) (hok : InstOk x) (hc : n ≤ c) :
    Calls Try.prog 3 #[instV x a n c] w fun e w' => e = .returned (.bool true) ∧ Below w.heap.size w w' := by
  have hn : 24 * n ≤ 140737488351232 := by rw [← hl]; exact hok.2.2.2.2.2.2.2
  have HCP := hide (fun wx (h : ArgsV wx a x.2.2.2) => copyInst_any x a n c wx h hl hn)
  have HT := hide (fun ax cx wx (h : ArgsV wx ax x.2.2.2) => graphTargets_any x ax n cx wx h hl hn)
  have HR := hide (fun wx (h : ArgsV wx a x.2.2.2) => refTargets14_any x a n c wx h hl hn)
  have HI := hide (fun ax cx wx (h : ArgsV wx ax x.2.2.2) (h2 : ArgsV wx a x.2.2.2) => kitInst_any x x ax a n n cx c wx h h2 hl hl (by omega) (by omega))
  have HA := hide (fun wx => awake14_true wx)
  have htl := tgL_len x
  rw [hl] at htl
  have HTL := hide htl
  generalize tgL x = T at *
  have HV := hide hv
  clear hv hok htl
  obtain ⟨xo, xt, xr, l⟩ := x
  unfold instV at *
  simp only at *
  have hba : Below w.heap.size w (w.alloc (.cells #[.int .u16 xo, .int .u32 xt, .int .u32 xr, .slice a n c] 26)) := (Below.refl _ _).alloc (Nat.le_refl _) _
  have hbx : (w.alloc (.cells #[.int .u16 xo, .int .u32 xt, .int .u32 xr, .slice a n c] 26)).heap[w.heap.size]? = some (.cells #[.int .u16 xo, .int .u32 xt, .int .u32 xr, .slice a n c] 26 (0, 0)) := allocNew _ _ rfl
  have HBA := hide hba
  have HBX := hide hbx
  have hcp := HCP.out _ (HV.out.below hba)
  clear hba hbx
  go_enter Try.func3, Try.ntmps3
  go_wp2_with fail
  generalize w.alloc (.cells #[.int .u16 xo, .int .u32 xt, .int .u32 xr, .slice a n c] 26) = W0 at *
  refine hcp.mono ?_
  rintro e w1 ⟨g1, rfl, _, hv1, hb1⟩
  have hb2 : Below w1.heap.size w1 (w1.alloc (.cells #[.int .u16 xo, .int .u32 xt, .int .u32 xr, .slice (some ⟨g1, 0, none⟩) n n] 26)) := (Below.refl _ _).alloc (Nat.le_refl _) _
  have HB2 := hide (HBA.out.trans ((hb1.trans (hb2.mono hb1.size)).mono HBA.out.size))
  have hx2 := allocOld ((hb1.block _ (Array.getElem?_eq_some_iff.1 HBX.out).1).trans HBX.out) (.cells #[.int .u16 xo, .int .u32 xt, .int .u32 xr, .slice (some ⟨g1, 0, none⟩) n n] 26)
  have HC2 := hide (allocNew w1 (.cells #[.int .u16 xo, .int .u32 xt, .int .u32 xr, .slice (some ⟨g1, 0, none⟩) n n] 26) rfl)
  have HX2 := hide hx2
  have HV2 := hide (hv1.below hb2)
  have ht := HT.out _ n _ HV2.out
  clear hcp hv1 hb1 hb2 hx2 HBA HBX
  go_wp2_with fail
  generalize w1.alloc (.cells #[.int .u16 xo, .int .u32 xt, .int .u32 xr, .slice (some ⟨g1, 0, none⟩) n n] 26) = W2 at *
  generalize w1.heap.size = B at *
  refine ht.mono ?_
  rintro e w3 ⟨v3, rfl, ho3, hb3⟩
  have HB3 := hide hb3
  have hx3 := (hb3.block _ (Array.getElem?_eq_some_iff.1 HX2.out).1).trans HX2.out
  have x0 := (one_block hx3).1 0
  have x1 := (one_block hx3).1 1
  have x2 := (one_block hx3).1 2
  have x3 := (one_block hx3).1 3
  have HO3 := hide ho3
  have hr := HR.out w3 (HV.out.below (HB2.out.trans (hb3.mono HB2.out.size)))
  obtain ⟨a3, c3, rfl⟩ := own_shapeG ho3
  clear ht hb3 ho3 hx3
  go_wp2_with fail
  refine hr.mono ?_
  rintro e w4 ⟨v4, rfl, ho4, hb4⟩
  obtain ⟨a4, c4, rfl, hv4, _⟩ := View.ofOwned ho4
  have ho3' := own_below HO3.out hb4
  have hw := words_true a3 a4 T.length c3 c4 T w4 (View.ofOwn ho3' rfl) hv4 rfl (by have := HTL.out; omega)
  have HO4 := hide ho3'
  have HB4 := hide (HB3.out.trans (hb4.mono HB3.out.size))
  have HW := hide hw
  clear hr ho4 hb4 hv4 ho3' HO3 HB3 x0 x1 x2 x3 hw
  go_wp2_with fail
  refine HW.out.mono ?_
  rintro e w5 ⟨rfl, q5, rfl⟩
  have hd5 : Below w4.heap.size w4 (w4.drewN q5) := bel_drewN (Below.refl _ _) q5
  have HB5 := hide (HB4.out.trans (hd5.mono HB4.out.size))
  have ho5 := own_below HO4.out hd5
  generalize w4.drewN q5 = w5 at *
  have hs := spoil_own _ T.length _ T w5 ho5 rfl (by have := HTL.out; omega)
  have HO5 := hide ho5
  have HSP := hide hs
  clear HW HO4 HB4 hd5 ho5 hs
  go_wp2_with fail
  refine HSP.out.mono ?_
  rintro e w6 ⟨rfl, hg6, _⟩
  have hb6 : Below W2.heap.size W2 w6 := HB5.out.grown hg6 HB5.out.size (fun k e => (World.ownsRow.lt HO5.out k e).1)
  have hx6 := (hb6.block _ (Array.getElem?_eq_some_iff.1 HX2.out).1).trans HX2.out
  have hc6 := (hb6.block _ (Array.getElem?_eq_some_iff.1 HC2.out).1).trans HC2.out
  have x0 := (one_block hx6).1 0
  have x1 := (one_block hx6).1 1
  have x2 := (one_block hx6).1 2
  have x3 := (one_block hx6).1 3
  have y0 := (one_block hc6).1 0
  have y1 := (one_block hc6).1 1
  have y2 := (one_block hc6).1 2
  have y3 := (one_block hc6).1 3
  have HB6 := hide (HB2.out.trans (hb6.mono HB2.out.size))
  have hi := HI.out _ n w6 (HV2.out.below hb6) (HV.out.below HB6.out)
  have hdd : decide True = true := by simp
  rw [hdd] at hi
  have HII := hide hi
  clear HSP hg6 hb6 hx6 hc6 HB5 HO5 hi hdd
  go_wp2_with fail
  refine HII.out.mono ?_
  rintro e w7 ⟨rfl, hb7⟩
  have HB7 := hide (HB6.out.trans (hb7.mono HB6.out.size))
  clear HII hb7 x0 x1 x2 x3 y0 y1 y2 y3
  go_wp2_with fail
  refine (HA.out _).mono ?_
  rintro e w8 ⟨rfl, hb8⟩
  have HB8 := hide (HB7.out.trans (hb8.mono HB7.out.size))
  clear hb8
  go_wp2_with fail
  go_ret
  exact ⟨rfl, HB8.out⟩

end Go.Proofs.Ytclgjolplobdbaa
