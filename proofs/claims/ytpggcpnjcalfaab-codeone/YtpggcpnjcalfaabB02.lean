/-
  Texts laid together in one: MathF, KitCopyInst, KitCopyWords, KitWords, Rdr, MathS.
-/
import Derived.Test.YtpggcpnjcalfaabB01
import Derived.WalkSpells
import Derived.BigRegion
import Derived.Deep.RegionWith
import Derived.Deep.DrawnRows
import Derived.Deep.QuietTactic
import Derived.BigQuiet
import Derived.Test.YtpggcpnjcalfaabProg
import Derived.Maps.AppendAt
import Derived.Maps.Range
import Derived.OneCell
import Derived.Lib.Bytealg
import Derived.Lib.IndexLaws
import Derived.Laws.BytesArg
/-
  Plain arithmetic for the layer of frames: where the instructions of words lie. No condition but the bounds that each lemma names.
-/
namespace Go.Proofs.Ytpggcpnjcalfaab
open Go.RowKit

/-- How many words the instruction at a place says that it has. -/
def cntN (zs : List Int) (p : Nat) : Nat := (nth zs p).toNat / 65536
/-- Its operation. -/
def opI (zs : List Int) (p : Nat) : Int := nth zs p % 65536

theorem cntN_int (zs : List Int) (p : Nat) (h : 0 ≤ nth zs p) : nth zs p / 65536 = (cntN zs p : Int) := by unfold cntN; omega
theorem opI_lo (zs : List Int) (p : Nat) : 0 ≤ opI zs p := Int.emod_nonneg _ (by decide)
theorem opI_hi (zs : List Int) (p : Nat) : opI zs p < 65536 := Int.emod_lt_of_pos _ (by decide)

/-- No instruction begins there: it says no words, or more than are left. -/
def badAt (zs : List Int) (p : Nat) : Prop := cntN zs p = 0 ∨ zs.length < p + cntN zs p
def badB (zs : List Int) (p : Nat) : Bool := cntN zs p == 0 || decide (zs.length < p + cntN zs p)
theorem badB_true {zs : List Int} {p : Nat} (h : badAt zs p) : badB zs p = true := by
  unfold badB; rcases h with h | h <;> simp [h]
theorem badB_false {zs : List Int} {p : Nat} (h : ¬ badAt zs p) : badB zs p = false := by
  unfold badAt at h; unfold badB
  have h1 : ¬ cntN zs p = 0 := fun e => h (.inl e)
  have h2 : ¬ zs.length < p + cntN zs p := fun e => h (.inr e)
  simp [h1, h2]

def restF (zs : List Int) : Nat → Nat → List Nat
  | 0, _ => []
  | f + 1, p => if p < zs.length then (if badB zs p then [] else p :: restF zs f (p + cntN zs p)) else []
def stopF (zs : List Int) : Nat → Nat → Nat
  | 0, p => p
  | f + 1, p => if p < zs.length then (if badB zs p then p else stopF zs f (p + cntN zs p)) else p
/-- The places of the instructions from a place on. -/
def rest (zs : List Int) (p : Nat) : List Nat := restF zs (zs.length - p) p
/-- Where they end. -/
def stop (zs : List Int) (p : Nat) : Nat := stopF zs (zs.length - p) p

theorem restF_end (zs : List Int) (f p : Nat) (h : zs.length ≤ p) : restF zs f p = [] := by
  cases f with
  | zero => rfl
  | succ f => rw [restF, if_neg (by omega)]
theorem stopF_end (zs : List Int) (f p : Nat) (h : zs.length ≤ p) : stopF zs f p = p := by
  cases f with
  | zero => rfl
  | succ f => rw [stopF, if_neg (by omega)]
theorem cnt_pos {zs : List Int} {p : Nat} (h : badB zs p = false) : 0 < cntN zs p := by
  unfold badB at h; simp at h; omega
theorem cnt_fits {zs : List Int} {p : Nat} (h : badB zs p = false) : p + cntN zs p ≤ zs.length := by
  unfold badB at h; simp at h; omega

theorem restF_fuel (zs : List Int) : ∀ (f g p : Nat), zs.length - p ≤ f → zs.length - p ≤ g → restF zs f p = restF zs g p
  | 0, g, p, h, _ => by rw [restF_end zs 0 p (by omega), restF_end zs g p (by omega)]
  | f + 1, 0, p, _, h => by rw [restF_end zs 0 p (by omega), restF_end zs (f + 1) p (by omega)]
  | f + 1, g + 1, p, h1, h2 => by
    rw [restF, restF]
    by_cases hp : p < zs.length
    · rw [if_pos hp, if_pos hp]
      cases hb : badB zs p with
      | true => rfl
      | false =>
        have := cnt_pos hb
        simp only [Bool.false_eq_true, if_false]
        rw [restF_fuel zs f g (p + cntN zs p) (by omega) (by omega)]
    · rw [if_neg hp, if_neg hp]
theorem stopF_fuel (zs : List Int) : ∀ (f g p : Nat), zs.length - p ≤ f → zs.length - p ≤ g → stopF zs f p = stopF zs g p
  | 0, g, p, h, _ => by rw [stopF_end zs 0 p (by omega), stopF_end zs g p (by omega)]
  | f + 1, 0, p, _, h => by rw [stopF_end zs 0 p (by omega), stopF_end zs (f + 1) p (by omega)]
  | f + 1, g + 1, p, h1, h2 => by
    rw [stopF, stopF]
    by_cases hp : p < zs.length
    · rw [if_pos hp, if_pos hp]
      cases hb : badB zs p with
      | true => rfl
      | false =>
        have := cnt_pos hb
        simp only [Bool.false_eq_true, if_false]
        rw [stopF_fuel zs f g (p + cntN zs p) (by omega) (by omega)]
    · rw [if_neg hp, if_neg hp]

theorem rest_end (zs : List Int) (p : Nat) (h : zs.length ≤ p) : rest zs p = [] := restF_end zs _ p h
theorem stop_end (zs : List Int) (p : Nat) (h : zs.length ≤ p) : stop zs p = p := stopF_end zs _ p h
theorem rest_bad (zs : List Int) (p : Nat) (hp : p < zs.length) (h : badB zs p = true) : rest zs p = [] := by
  obtain ⟨f, hf⟩ : ∃ f, zs.length - p = f + 1 := ⟨zs.length - p - 1, by omega⟩
  rw [rest, hf, restF, if_pos hp, h]; rfl
theorem stop_bad (zs : List Int) (p : Nat) (hp : p < zs.length) (h : badB zs p = true) : stop zs p = p := by
  obtain ⟨f, hf⟩ : ∃ f, zs.length - p = f + 1 := ⟨zs.length - p - 1, by omega⟩
  rw [stop, hf, stopF, if_pos hp, h]; rfl
theorem rest_go (zs : List Int) (p : Nat) (hp : p < zs.length) (h : badB zs p = false) : rest zs p = p :: rest zs (p + cntN zs p) := by
  obtain ⟨f, hf⟩ : ∃ f, zs.length - p = f + 1 := ⟨zs.length - p - 1, by omega⟩
  have := cnt_pos h
  rw [rest, hf, restF, if_pos hp, h]
  simp only [Bool.false_eq_true, if_false]
  rw [restF_fuel zs f (zs.length - (p + cntN zs p)) (p + cntN zs p) (by omega) (by omega)]
  rfl
theorem stop_go (zs : List Int) (p : Nat) (hp : p < zs.length) (h : badB zs p = false) : stop zs p = stop zs (p + cntN zs p) := by
  obtain ⟨f, hf⟩ : ∃ f, zs.length - p = f + 1 := ⟨zs.length - p - 1, by omega⟩
  have := cnt_pos h
  rw [stop, hf, stopF, if_pos hp, h]
  simp only [Bool.false_eq_true, if_false]
  rw [stopF_fuel zs f (zs.length - (p + cntN zs p)) (p + cntN zs p) (by omega) (by omega)]
  rfl
theorem restF_len (zs : List Int) : ∀ (f p : Nat), (restF zs f p).length ≤ f
  | 0, _ => Nat.le_refl _
  | f + 1, p => by
    rw [restF]
    split
    · split
      · simp
      · have := restF_len zs f (p + cntN zs p)
        simp only [List.length_cons]; omega
    · simp
theorem rest_len (zs : List Int) (p : Nat) : (rest zs p).length ≤ zs.length - p := restF_len zs _ p
theorem restF_mem (zs : List Int) : ∀ (f p q : Nat), q ∈ restF zs f p → p ≤ q ∧ q < zs.length ∧ badB zs q = false
  | 0, _, _, h => by simp [restF] at h
  | f + 1, p, q, h => by
    rw [restF] at h
    by_cases hp : p < zs.length
    · rw [if_pos hp] at h
      cases hb : badB zs p with
      | true => rw [hb] at h; simp at h
      | false =>
        rw [hb] at h
        simp only [Bool.false_eq_true, if_false, List.mem_cons] at h
        rcases h with rfl | h
        · exact ⟨Nat.le_refl _, hp, hb⟩
        · have := restF_mem zs f (p + cntN zs p) q h
          exact ⟨by omega, this.2⟩
    · rw [if_neg hp] at h; simp at h
theorem rest_mem (zs : List Int) (p q : Nat) (h : q ∈ rest zs p) : p ≤ q ∧ q < zs.length ∧ badB zs q = false := restF_mem zs _ p q h

/-- Places as numbers. -/
def natI (l : List Nat) : List Int := l.map fun (q : Nat) => (q : Int)
theorem natI_len (l : List Nat) : (natI l).length = l.length := by simp [natI]
theorem nth_natI (l : List Nat) (k : Nat) (h : k < l.length) : nth (natI l) k = ((l.getD k 0 : Nat) : Int) := by
  simp [nth, natI, List.getD, h]

end Go.Proofs.Ytpggcpnjcalfaab

/-
  CopyInst of the kit answers the instruction in new memory.
-/
namespace Go.Proofs.Ytpggcpnjcalfaab
open Go.RowKit

theorem CopyInst.info : (Try.prog.info? 90).map (fun i => (i.zero, i.size, i.bytes)) = some (some (.agg #[.int .u8 0, .int .u32 0, .string ⟨#[]⟩]), 3, 24) := by kernel_rfl

/-- The first k arguments lie in the row at g. -/
structure PartA (w : World) (g n k : Nat) (l : List ArgT) : Prop where
  row : ∃ cs : Array Value, w.heap[g]? = some (.cells cs 90 (0, 0)) ∧ cs.size = n * 3
  each : ∀ j, j < k → w.cell? ⟨g, j * 3, none⟩ = some (.int .u8 (nthA l j).1) ∧ w.cell? ⟨g, j * 3 + 1, none⟩ = some (.int .u32 (nthA l j).2.1) ∧ w.cell? ⟨g, j * 3 + 2, none⟩ = some (.string (nthA l j).2.2)

theorem cells_can {w : World} {g T : Nat} {cs : Array Value} (h : w.heap[g]? = some (.cells cs T (0, 0))) (j : Nat) (hj : j < cs.size) : (∃ v, w.cell? ⟨g, j, none⟩ = some v) ∧ w.frozen? ⟨g, j, none⟩ = false := by
  refine ⟨⟨cs[j], by simp [World.cell?, h, hj]⟩, by simp [World.frozen?, h]⟩

theorem PartA.store {w : World} {g n k : Nat} {l : List ArgT} (h : PartA w g n k l) (hk : k < n) :
    PartA (((w.setCell ⟨g, k * 3, none⟩ (.int .u8 (nthA l k).1)).setCell ⟨g, k * 3 + 1, none⟩ (.int .u32 (nthA l k).2.1)).setCell ⟨g, k * 3 + 2, none⟩ (.string (nthA l k).2.2)) g n (k + 1) l := by
  obtain ⟨⟨cs, h1, h2⟩, h3⟩ := h
  obtain ⟨W, hW⟩ : ∃ W, W = ((w.setCell ⟨g, k * 3, none⟩ (.int .u8 (nthA l k).1)).setCell ⟨g, k * 3 + 1, none⟩ (.int .u32 (nthA l k).2.1)).setCell ⟨g, k * 3 + 2, none⟩ (.string (nthA l k).2.2) := ⟨_, rfl⟩
  have hb : W.heap[g]? = some (.cells (((cs.setIfInBounds (k * 3) (.int .u8 (nthA l k).1)).setIfInBounds (k * 3 + 1) (.int .u32 (nthA l k).2.1)).setIfInBounds (k * 3 + 2) (.string (nthA l k).2.2)) 90 (0, 0)) := by
    rw [hW]; simp [World.setCell, Array.getElem?_modify, h1]
  have cell : ∀ j, W.cell? ⟨g, j, none⟩ = (((cs.setIfInBounds (k * 3) (.int .u8 (nthA l k).1)).setIfInBounds (k * 3 + 1) (.int .u32 (nthA l k).2.1)).setIfInBounds (k * 3 + 2) (.string (nthA l k).2.2))[j]? := fun j => by
    simp [World.cell?, hb]
  have old : ∀ j, w.cell? ⟨g, j, none⟩ = cs[j]? := fun j => by simp [World.cell?, h1]
  rw [← hW]
  refine ⟨⟨_, hb, by simp [h2]⟩, fun j hj => ?_⟩
  by_cases hjk : j < k
  · obtain ⟨c1, c2, c3⟩ := h3 j hjk
    rw [old] at c1 c2 c3
    refine ⟨?_, ?_, ?_⟩
    all_goals rw [cell, Array.getElem?_setIfInBounds_ne (by omega), Array.getElem?_setIfInBounds_ne (by omega), Array.getElem?_setIfInBounds_ne (by omega)]
    · exact c1
    · exact c2
    · exact c3
  · obtain rfl : j = k := by omega
    refine ⟨?_, ?_, ?_⟩
    · rw [cell, Array.getElem?_setIfInBounds_ne (by omega), Array.getElem?_setIfInBounds_ne (by omega), Array.getElem?_setIfInBounds_self_of_lt (by omega)]
    · rw [cell, Array.getElem?_setIfInBounds_ne (by omega), Array.getElem?_setIfInBounds_self_of_lt (by simp; omega)]
    · rw [cell, Array.getElem?_setIfInBounds_self_of_lt (by simp; omega)]

theorem PartA.view {w : World} {g n : Nat} {l : List ArgT} (h : PartA w g n n l) (hl : l.length = n) : ArgsV w (some ⟨g, 0, none⟩) l := by
  intro j hj
  obtain ⟨c1, c2, c3⟩ := h.each j (by omega)
  exact ⟨g, 0, rfl, World.block_lt_of_cell? _ _ c1, by rw [Nat.zero_add]; exact c1, by rw [Nat.zero_add]; exact c2, by rw [Nat.zero_add]; exact c3⟩

theorem PartA.drew {w : World} {g n k : Nat} {l : List ArgT} (h : PartA w g n k l) (q : Nat) : PartA (w.drewN q) g n k l := ⟨h.row, h.each⟩

theorem setFar1 {w : World} {g k : Nat} {o : Obj} (h : w.heap[k]? = some o) (hne : k ≠ g) (i : Nat) (u : Value) : (w.setCell ⟨g, i, none⟩ u).heap[k]? = some o := (Below.heap_setCell _ _ _ _ (by simpa using hne)).trans h
theorem setFar3 {w : World} {g k : Nat} {o : Obj} (h : w.heap[k]? = some o) (hne : k ≠ g) (i j m : Nat) (u v x : Value) : (((w.setCell ⟨g, i, none⟩ u).setCell ⟨g, j, none⟩ v).setCell ⟨g, m, none⟩ x).heap[k]? = some o := setFar1 (setFar1 (setFar1 h hne i u) hne j v) hne m x
theorem block_cells {w : World} {B T : Nat} {cs : Array Value} (h : w.heap[B]? = some (.cells cs T (0, 0))) : (∀ i, w.cell? ⟨B, i, none⟩ = cs[i]?) ∧ (∀ i, w.frozen? ⟨B, i, none⟩ = false) := by
  refine ⟨fun i => ?_, fun i => ?_⟩
  · simp [World.cell?, h]
  · simp [World.frozen?, h]

theorem four_set {w : World} {B T : Nat} {z0 z1 z2 z3 : Value} (h : w.heap[B]? = some (.cells #[z0, z1, z2, z3] T (0, 0))) (u0 u1 u2 u3 : Value) :
    ((((w.setCell ⟨B, 0, none⟩ u0).setCell ⟨B, 1, none⟩ u1).setCell ⟨B, 2, none⟩ u2).setCell ⟨B, 3, none⟩ u3).heap[B]? = some (.cells #[u0, u1, u2, u3] T (0, 0)) := by
  simp only [World.setCell, Array.getElem?_modify, h]; simp
theorem four_below (w : World) (B : Nat) (u0 u1 u2 u3 : Value) : Below B w ((((w.setCell ⟨B, 0, none⟩ u0).setCell ⟨B, 1, none⟩ u1).setCell ⟨B, 2, none⟩ u2).setCell ⟨B, 3, none⟩ u3) :=
  ((((Below.refl B w).setCell (Nat.le_refl _) _).setCell (Nat.le_refl _) _).setCell (Nat.le_refl _) _).setCell (Nat.le_refl _) _
theorem args_far {w : World} {b off g : Nat} {l : List ArgT} (h : ArgsV w (some ⟨b, off, none⟩) l) (hg : g ≠ b) (i : Nat) (v : Value) : ArgsV (w.setCell ⟨g, i, none⟩ v) (some ⟨b, off, none⟩) l :=
  h.setCell (fun b' off' e => by cases e; exact fun h => hg h.symm) v

set_option maxRecDepth 100000 in
set_option maxHeartbeats 2000000 in
theorem copyInst_any (x : InstT) (ax : Option Addr) (n cx : Nat) (w : World) (hx : ArgsV w ax x.2.2.2) (hl : x.2.2.2.length = n) (hn : 24 * n ≤ 140737488351232) :
    Calls Try.prog 18 #[instV x ax n cx] w fun e w' => ∃ g, e = .returned (instV x (some ⟨g, 0, none⟩) n n) ∧ w.heap.size ≤ g ∧ ArgsV w' (some ⟨g, 0, none⟩) x.2.2.2 ∧ Below w.heap.size w w' := by
  obtain ⟨i0, hi, hz0, hz1, hz2⟩ := info_parts CopyInst.info
  obtain ⟨xo, xt, xr, xl⟩ := x
  unfold instV
  simp only at *
  have HL : Hid (xl.length = n) := hl
  clear hl
  go_enter Try.func18, Try.ntmps18
  go_wp2_with (at_make; refine wpList_make_full _ rfl _ _ 41 rfl (w.heap.size + 1) 90 i0 (.agg #[.int .u8 0, .int .u32 0, .string ⟨#[]⟩]) 3 Try.underlying41 hi hz0 hz1 _ _ _ _ n rfl rfl (by omega) (by omega) (by rw [hz2]; omega) (by unfold maxLen; omega) (by simp) ?_)
  intro w1 hown1 hgrow1
  have hb0 : Below w.heap.size w ((w.alloc (.cells #[.int .u16 xo, .int .u32 xt, .int .u32 xr, .slice ax n cx] 43)).alloc (.cells #[.int .u16 0, .int .u32 0, .int .u32 0, .slice none 0 0] 43)) := ((Below.refl _ w).alloc (Nat.le_refl _) _).alloc (by simp) _
  have hb1 : Below (w.heap.size + 2) ((w.alloc (.cells #[.int .u16 xo, .int .u32 xt, .int .u32 xr, .slice ax n cx] 43)).alloc (.cells #[.int .u16 0, .int .u32 0, .int .u32 0, .slice none 0 0] 43)) w1 := (Below.refl _ _).grown hgrow1 (by simp) (by simp)
  have hbox : w1.heap[w.heap.size]? = some (.cells #[.int .u16 xo, .int .u32 xt, .int .u32 xr, .slice ax n cx] 43 (0, 0)) := (hb1.block w.heap.size (by omega)).trans ((Below.heap_alloc _ _ _ (by simp)).trans (heap_alloc_new w _))
  have hres : w1.heap[w.heap.size + 1]? = some (.cells #[.int .u16 0, .int .u32 0, .int .u32 0, .slice none 0 0] 43 (0, 0)) := (hb1.block (w.heap.size + 1) (by omega)).trans (by simpa using heap_alloc_new (w.alloc (.cells #[.int .u16 xo, .int .u32 xt, .int .u32 xr, .slice ax n cx] 43)) (.cells #[.int .u16 0, .int .u32 0, .int .u32 0, .slice none 0 0] 43))
  have hP1 : PartA w1 (w.heap.size + 2) n 0 xl := by
    refine ⟨?_, fun j hj => by omega⟩
    rcases hown1.2 with ⟨h, _⟩ | ⟨g, cap', cur, h1, h2, h3, h4, h5, h6, _⟩
    · simp at h
    · simp at h1; obtain ⟨rfl, rfl⟩ := h1; exact ⟨cur, h3, h6⟩
  have hbw1 : Below w.heap.size w w1 := hb0.trans (hb1.mono (by omega))
  clear hown1 hgrow1 hb0 hb1
  go_wp2
  go_loopw [4] (fun i wr => ∃ k : Nat, k ≤ n ∧ i = .int .i64 k ∧ PartA wr (w.heap.size + 2) n k xl ∧ wr.heap[w.heap.size]? = some (.cells #[.int .u16 xo, .int .u32 xt, .int .u32 xr, .slice ax n cx] 43 (0, 0)) ∧ wr.heap[w.heap.size + 1]? = some (.cells #[.int .u16 0, .int .u32 0, .int .u32 0, .slice none 0 0] 43 (0, 0)) ∧ Below w.heap.size w wr) (fun i _ => n - (intOf i).toNat)
  case atStart => exact ⟨0, Nat.zero_le _, rfl, hP1, hbox, hres, hbw1⟩
  case round =>
    obtain ⟨k, hk, rfl, hP, hbx, hrs, hnx⟩ := hrel
    clear hP1 hbw1 hbox hres
    have hbc : wr.cell? ⟨w.heap.size, 3, none⟩ = some (.slice ax n cx) := by simp [World.cell?, hbx]
    have hsz := hnx.size
    by_cases hlt : k < n
    · obtain ⟨b, off, rfl, hbs, p1, p2, p3⟩ := hx k (by rw [HL.out]; exact hlt)
      have q1 := (hnx.cell (p := ⟨b, off + k * 3, none⟩) hbs).trans p1
      have q2 := (hnx.cell (p := ⟨b, off + k * 3 + 1, none⟩) hbs).trans p2
      have q3 := (hnx.cell (p := ⟨b, off + k * 3 + 2, none⟩) hbs).trans p3
      obtain ⟨cs, hr1, hr2⟩ := hP.row
      obtain ⟨⟨u0, d0⟩, f0⟩ := cells_can hr1 (k * 3) (by omega)
      obtain ⟨⟨u1, d1⟩, f1⟩ := cells_can hr1 (k * 3 + 1) (by omega)
      obtain ⟨⟨u2, d2⟩, f2⟩ := cells_can hr1 (k * 3 + 2) (by omega)
      have hki : (k : Int) < (n : Int) := by omega
      have hk0 : (0 : Int) ≤ (k : Int) := by omega
      have hP2 := hP.store hlt
      have HX : Hid (wr.heap[w.heap.size]? = some (.cells #[.int .u16 xo, .int .u32 xt, .int .u32 xr, .slice (some ⟨b, off, none⟩) n cx] 43 (0, 0))) := hbx
      have HP2 : Hid _ := hP2
      have HR : Hid _ := hrs
      clear hP2 hP hr1 hr2 p1 p2 p3 hx hbx hrs
      go_wp2
      go_roundw
      case rel => exact ⟨k + 1, by omega, by go_num, HP2.out, setFar3 HX.out (by omega) _ _ _ _ _ _, setFar3 HR.out (by omega) _ _ _ _ _ _, ((hnx.setCell (by show w.heap.size ≤ w.heap.size + 1 + 1; omega) _).setCell (by show w.heap.size ≤ w.heap.size + 1 + 1; omega) _).setCell (by show w.heap.size ≤ w.heap.size + 1 + 1; omega) _⟩
      case measure => simp [intOf]; omega
    · obtain rfl : k = n := by omega
      obtain ⟨hc, hf⟩ := block_cells hbx
      obtain ⟨hc', hf'⟩ := block_cells hrs
      have c0 := hc 0
      have c1 := hc 1
      have c2 := hc 2
      have r0 := hc' 0
      have r1 := hc' 1
      have r2 := hc' 2
      have r3 := hc' 3
      have hV := hP.view HL.out
      have HV : Hid _ := hV
      have HB : Hid _ := hnx
      have HX : Hid _ := hbx
      have HR : Hid _ := hrs
      clear hP hbx hrs hc hc' hx hV hnx
      go_wp2
      have hB4 := four_set (setFar1 HR.out (show w.heap.size + 1 ≠ w.heap.size by omega) 3 (.slice (some ⟨w.heap.size + 1 + 1, 0, none⟩) k k)) (.int .u16 xo) (.int .u32 xt) (.int .u32 xr) (.slice (some ⟨w.heap.size + 1 + 1, 0, none⟩) k k)
      have hBel := (HB.out.setCell (p := ⟨w.heap.size, 3, none⟩) (Nat.le_refl _) (.slice (some ⟨w.heap.size + 1 + 1, 0, none⟩) k k)).trans ((four_below (wr.setCell ⟨w.heap.size, 3, none⟩ (.slice (some ⟨w.heap.size + 1 + 1, 0, none⟩) k k)) (w.heap.size + 1) (.int .u16 xo) (.int .u32 xt) (.int .u32 xr) (.slice (some ⟨w.heap.size + 1 + 1, 0, none⟩) k k)).mono (show w.heap.size ≤ w.heap.size + 1 by omega))
      have hV2 := args_far HV.out (show w.heap.size ≠ w.heap.size + 2 by omega) 3 (.slice (some ⟨w.heap.size + 1 + 1, 0, none⟩) k k)
      have hV3 := args_far (args_far (args_far (args_far hV2 (show w.heap.size + 1 ≠ w.heap.size + 2 by omega) 0 (.int .u16 xo)) (show w.heap.size + 1 ≠ w.heap.size + 2 by omega) 1 (.int .u32 xt)) (show w.heap.size + 1 ≠ w.heap.size + 2 by omega) 2 (.int .u32 xr)) (show w.heap.size + 1 ≠ w.heap.size + 2 by omega) 3 (.slice (some ⟨w.heap.size + 1 + 1, 0, none⟩) k k)
      clear hV2 HV HB HR HX c0 c1 c2 r0 r1 r2 r3 hf hf'
      generalize ((((wr.setCell _ _).setCell _ _).setCell _ _).setCell _ _).setCell _ _ = W at hB4 hBel hV3 ⊢
      obtain ⟨hd, _⟩ := block_cells hB4
      have d0 := hd 0
      have d1 := hd 1
      have d2 := hd 2
      have d3 := hd 3
      refine bodyPost_ret (v := .agg #[.int .u16 xo, .int .u32 xt, .int .u32 xr, .slice (some ⟨w.heap.size + 1 + 1, 0, none⟩) k k]) ?_ rfl ⟨w.heap.size + 1 + 1, rfl, by omega, hV3, hBel⟩
      simp [results, Try.results18, go_sem, d0, d1, d2, d3]

end Go.Proofs.Ytpggcpnjcalfaab

/-
  CopyWords of the kit answers the words in new memory.
-/
namespace Go.Proofs.Ytpggcpnjcalfaab
open Go.RowKit
set_option maxRecDepth 10000

theorem CopyWords.info : (Try.prog.info? 22).map (fun i => (i.zero, i.size, i.bytes)) = some (some (.int .u32 0), 1, 4) := by kernel_rfl

set_option maxHeartbeats 400000 in
theorem copyWords_any (a : Option Addr) (n cap : Nat) (zs : List Int) (w : World) (ha : View .u32 w a zs) (hl : zs.length = n) (hn : 4 * n ≤ 140737488351232) :
    Calls Try.prog 20 #[.slice a n cap] w fun e w' => e = .returned (.slice (some ⟨w.heap.size, 0, none⟩) n n) ∧
      w'.ownsRow w.heap.size 22 1 (.slice (some ⟨w.heap.size, 0, none⟩) n n) n (zs.map (Value.int .u32)) ∧ Below w.heap.size w w' := by
  obtain ⟨i0, hi, hz0, hz1, hz2⟩ := info_parts CopyWords.info
  have HL : Hid (zs.length = n) := hl
  clear hl
  go_enter Try.func20, Try.ntmps20
  go_wp2_with (at_make; refine wpList_make_full _ rfl _ _ 44 rfl w.heap.size 22 i0 (.int .u32 0) 1 Try.underlying44 hi hz0 hz1 _ _ _ _ n rfl rfl (by omega) (by omega) (by rw [hz2]; omega) (by unfold maxLen; omega) (Nat.le_refl _) ?_)
  intro w1 hown1 hgrow1
  have hb1 : Below w.heap.size w w1 := (Below.refl _ w).grown hgrow1 (Nat.le_refl _) (by simp)
  have hr1 := made_row zs hown1
  clear hown1 hgrow1
  go_wp2
  go_loopw [4] (fun i wr => ∃ k : Nat, k ≤ n ∧ i = .int .i64 k ∧ wr.ownsRow w.heap.size 22 1 (.slice (some ⟨w.heap.size, 0, none⟩) n n) n ((filled zs k n).map (Value.int .u32)) ∧ Below w.heap.size w wr)
    (fun i _ => n - (intOf i).toNat)
  case atStart => exact ⟨0, Nat.zero_le _, rfl, hr1, hb1⟩
  case round =>
    obtain ⟨k, hk, rfl, hown, hnx⟩ := hrel
    clear hr1 hb1
    by_cases hlt : k < n
    · obtain ⟨b, off, rfl, hbs, hc⟩ := ha k (by rw [HL.out]; exact hlt)
      obtain ⟨d1, d2, d3⟩ := fill_step hown hlt (by rw [HL.out]; exact hlt)
      have hcr : wr.cell? ⟨b, off + k, none⟩ = some (.int .u32 (nth zs k)) := (hnx.cell (p := ⟨b, off + k, none⟩) hbs).trans hc
      generalize nth zs k = x at hcr d3
      clear hc ha hown
      go_wp2
      go_roundw
      case rel => exact ⟨k + 1, by omega, by go_num, d3, hnx.setCell (Nat.le_refl _) _⟩
      case measure => simp [intOf]; omega
    · go_wp2
      go_ret
      obtain rfl : k = n := by omega
      rw [filled_whole zs k HL.out] at hown
      exact ⟨rfl, hown, hnx⟩

end Go.Proofs.Ytpggcpnjcalfaab

/-
  Words of the kit answers true of two lists that are the same.
-/
namespace Go.Proofs.Ytpggcpnjcalfaab
open Go.RowKit
set_option maxRecDepth 10000

set_option maxHeartbeats 400000 in
theorem words_true (a b : Option Addr) (n ca cb : Nat) (zs : List Int) (w : World) (ha : View .u32 w a zs) (hb : View .u32 w b zs) (hl : zs.length = n) (hn : n ≤ 140737488351232) :
    Calls Try.prog 22 #[.slice a n ca, .slice b n cb] w fun e w' => e = .returned (.bool true) ∧ ∃ q, w' = w.drewN q := by
  have HL : Hid (zs.length = n) := hl
  clear hl
  go_enter Try.func22, Try.ntmps22
  go_wp2
  go_loopw [5] (fun i wr => ∃ k q : Nat, k ≤ n ∧ i = .int .i64 k ∧ wr = w.drewN q) (fun i _ => n - (intOf i).toNat)
  case atStart => exact ⟨0, 0, Nat.zero_le _, rfl, rfl⟩
  case round =>
    obtain ⟨k, q, hk, rfl, rfl⟩ := hrel
    by_cases hlt : k < n
    · obtain ⟨b1, o1, rfl, _, c1⟩ := ha k (by rw [HL.out]; exact hlt)
      obtain ⟨b2, o2, rfl, _, c2⟩ := hb k (by rw [HL.out]; exact hlt)
      have hk0 : (0 : Int) ≤ (k : Int) := by omega
      have hki : (k : Int) < (n : Int) := by omega
      clear ha hb
      go_wp2
      go_quiet (fail)
      go_wp2
      go_roundw
      case rel => exact ⟨k + 1, _, by omega, by go_num, rfl⟩
      case measure => simp [intOf]; omega
    · go_wp2
      go_ret
      exact ⟨rfl, q, rfl⟩

end Go.Proofs.Ytpggcpnjcalfaab

/-
  A reader in memory: its two cells lie in one block; what was there before it turns in that block alone. And what a slice of a list is.
-/
namespace Go.Proofs.Ytpggcpnjcalfaab
open Go.RowKit

/-- W0: the world in which the reader was made; wr: a later one. -/
structure Rd (T : TypeId) (W0 wr : World) (gr : Nat) (v : Value) (p : Nat) : Prop where
  grown : W0.grownBy wr (some gr)
  box : wr.heap[gr]? = some (.cells #[v, .int .i64 (p : Int)] T (0, 0))

theorem cell_of_two {w : World} {g : Nat} {a b : Value} {T : TypeId} (h : w.heap[g]? = some (.cells #[a, b] T (0, 0))) : w.cell? ⟨g, 0, none⟩ = some a ∧ w.cell? ⟨g, 1, none⟩ = some b ∧ w.frozen? ⟨g, 1, none⟩ = false := by
  refine ⟨?_, ?_, ?_⟩ <;> simp [World.cell?, World.frozen?, h]

theorem two_setCell {w : World} {g : Nat} {a b : Value} {T : TypeId} (h : w.heap[g]? = some (.cells #[a, b] T (0, 0))) (u : Value) : (w.setCell ⟨g, 1, none⟩ u).heap[g]? = some (.cells #[a, u] T (0, 0)) := by
  simp [World.setCell, Array.getElem?_modify, h]

theorem grown_setCell (w : World) (g j : Nat) (u : Value) : w.grownBy (w.setCell ⟨g, j, none⟩ u) (some g) :=
  ⟨rfl, rfl, rfl, by simp [World.setCell], fun k _ hne => Below.heap_setCell _ _ _ _ (fun e => hne (by rw [e]))⟩

theorem Rd.set {T : TypeId} {W0 wr : World} {gr : Nat} {v : Value} {p : Nat} (h : Rd T W0 wr gr v p) (q : Nat) (u : Int) (hu : u = (q : Int)) : Rd T W0 (wr.setCell ⟨gr, 1, none⟩ (.int .i64 u)) gr v q := by
  subst hu
  exact ⟨h.grown.trans (grown_setCell wr gr 1 _), two_setCell h.box _⟩

theorem Rd.lt {T : TypeId} {W0 wr : World} {gr : Nat} {v : Value} {p : Nat} (h : Rd T W0 wr gr v p) : gr < wr.heap.size := (Array.getElem?_eq_some_iff.1 h.box).1

/-- Where nothing that is there turns. -/
theorem Rd.below {T : TypeId} {W0 wr w' : World} {gr : Nat} {v : Value} {p : Nat} (h : Rd T W0 wr gr v p) (hb : Below wr.heap.size wr w') : Rd T W0 w' gr v p := by
  refine ⟨⟨hb.os.trans h.grown.os, hb.tape.trans h.grown.tape, hb.output.trans h.grown.output, Nat.le_trans h.grown.size hb.size, fun k hk hne => ?_⟩, by rw [hb.block gr h.lt]; exact h.box⟩
  rw [hb.block k (Nat.lt_of_lt_of_le hk h.grown.size)]
  exact h.grown.block k hk hne

/-- Where a block alone turns that is new since the reader was looked at. -/
theorem Rd.far {T : TypeId} {W0 w' w'' : World} {gr g : Nat} {v : Value} {p : Nat} (h : Rd T W0 w' gr v p) (h0 : W0.heap.size ≤ g) (hg : gr < g) (hgr : w'.grownBy w'' (some g)) : Rd T W0 w'' gr v p := by
  refine ⟨h.grown.andThen hgr (fun j hj => by cases hj; exact .inl h0), ?_⟩
  rw [hgr.block gr h.lt (fun e => by cases e; omega)]
  exact h.box

/-- The reader's words are as they were. -/
theorem Rd.view {T : TypeId} {W0 wr : World} {gr : Nat} {v : Value} {p : Nat} (h : Rd T W0 wr gr v p) {a : Option Addr} {zs : List Int} (hv : View .u32 W0 a zs) (hne : ∀ b off s, a = some ⟨b, off, s⟩ → b ≠ gr) : View .u32 wr a zs := by
  intro j hj
  obtain ⟨b, off, e, hlt, hc⟩ := hv j hj
  refine ⟨b, off, e, Nat.lt_of_lt_of_le hlt h.grown.size, ?_⟩
  rw [← hc]
  exact World.cell?_of_block (w := W0) (h.grown.block b hlt (fun e' => hne b off none e (by cases e'; rfl)))

/-- What is cut off at the front of a list. -/
theorem View.drop {k : IntKind} {w : World} {b off : Nat} {zs : List Int} (h : View k w (some ⟨b, off, none⟩) zs) (p : Nat) : View k w (some ⟨b, off + p, none⟩) (zs.drop p) := by
  intro j hj
  rw [List.length_drop] at hj
  obtain ⟨b', off', e, hb, hc⟩ := h (p + j) (by omega)
  simp at e
  obtain ⟨rfl, rfl⟩ := e
  refine ⟨b, off + p, rfl, hb, ?_⟩
  rw [Nat.add_assoc, hc]
  simp [nth, List.getD]

/-- The address of a slice that is cut at its front. -/
def cutA (a : Option Addr) (cap p : Nat) : Option Addr := if cap = p then a else a.map (·.add p)

theorem View.cut {k : IntKind} {w : World} {a : Option Addr} {cap : Nat} {zs : List Int} (h : View k w a zs) (hcap : zs.length ≤ cap) (p : Nat) : View k w (cutA a cap p) (zs.drop p) := by
  by_cases hp : p < zs.length
  · obtain ⟨b, off, rfl, _, _⟩ := h p hp
    rw [cutA, if_neg (by omega)]
    have := View.drop h p
    rw [Option.map_some, Addr.add_lit]
    exact this
  · rw [List.drop_of_length_le (by omega)]
    exact view_nil

theorem nth_drop (zs : List Int) (p j : Nat) : nth (zs.drop p) j = nth zs (p + j) := by simp [nth, List.getD]
theorem within_drop {m : Int} {zs : List Int} {n : Nat} (h : Within m zs) : Within m (zs.drop n) := fun z hz => h z (List.mem_of_mem_drop hz)

/-- What the call owns, nil or not, can be read. -/
theorem View.ofOwn {k : IntKind} {w : World} {B e n cap : Nat} {a : Option Addr} {zs : List Int} (h : w.ownsRow B e 1 (.slice a n cap) n (zs.map (Value.int k))) (hl : zs.length = n) : View k w a zs := by
  rcases h.2 with ⟨_, hn⟩ | ⟨g, cap', cur, hv, _⟩
  · have : zs = [] := List.eq_nil_of_length_eq_zero (by rw [hl]; simpa using hn)
    subst this; exact view_nil
  · cases hv; exact View.ofRow h hl

end Go.Proofs.Ytpggcpnjcalfaab

/-
  Plain facts on strings as lists of numbers from 0 to 255: a text's words.
-/
namespace Go.Proofs.Ytpggcpnjcalfaab
open Go.RowKit

theorem size_list (s : ByteArray) : s.data.toList.length = s.size := by rw [Array.length_toList]; rfl

/-- A string's bytes, as numbers. -/
def strI (s : ByteArray) : List Int := s.data.toList.map fun b => (b.toNat : Int)

theorem strI_len (s : ByteArray) : (strI s).length = s.size := by rw [strI, List.length_map, size_list]
theorem strI_within (s : ByteArray) : Within 256 (strI s) := by
  intro z hz
  simp only [strI, List.mem_map] at hz
  obtain ⟨b, _, rfl⟩ := hz
  have := b.toNat_lt
  omega
theorem nth_strI (s : ByteArray) (k : Nat) (h : k < s.size) : nth (strI s) k = (s[k].toNat : Int) := by
  have h' : k < s.data.toList.length := by rw [size_list]; exact h
  have e : s[k] = s.data.toList[k] := rfl
  rw [e]
  have h2 : (strI s)[k]? = some ((s.data.toList[k].toNat : Int)) := by rw [strI, List.getElem?_map, List.getElem?_eq_getElem h']; rfl
  rw [nth, List.getD, h2]; rfl
/-- The string is what its numbers make. -/
theorem str_of_strI (s : ByteArray) : strOfNums (strI s) = s := by
  have e : (strI s).map (fun n => UInt8.ofNat n.toNat) = s.data.toList := by
    simp [strI, Function.comp_def]
  unfold strOfNums
  rw [e]

/-- No byte 0. -/
def NoNul (s : ByteArray) : Prop := ∀ k, k < s.size → nth (strI s) k ≠ 0

theorem index_none (s : ByteArray) (h : NoNul s) : Lib.indexByte s.data.toList (0 : Int).toNat.toUInt8 = -1 := by
  have hge := Lib.indexByte_ge s.data.toList (0 : Int).toNat.toUInt8
  apply Classical.byContradiction
  intro hne
  obtain ⟨o, ho⟩ : ∃ o : Nat, Lib.indexByte s.data.toList (0 : Int).toNat.toUInt8 = o := ⟨(Lib.indexByte s.data.toList (0 : Int).toNat.toUInt8).toNat, by omega⟩
  have := (Lib.indexByte_some ho).1
  have hlt : o < s.data.toList.length := by
    rcases Nat.lt_or_ge o s.data.toList.length with h1 | h1
    · exact h1
    · rw [List.getElem?_eq_none h1] at this; simp at this
  have hs : o < s.size := by rw [← size_list]; exact hlt
  apply h o hs
  rw [nth_strI s o hs]
  have e : s[o] = s.data.toList[o] := rfl
  rw [List.getElem?_eq_getElem hlt] at this
  rw [e, Option.some.inj this]
  rfl
theorem index_some (s : ByteArray) (k : Nat) (hk : k < s.size) (h : nth (strI s) k = 0) : 0 ≤ Lib.indexByte s.data.toList (0 : Int).toNat.toUInt8 := by
  have hge := Lib.indexByte_ge s.data.toList (0 : Int).toNat.toUInt8
  apply Classical.byContradiction
  intro hne
  have hm : Lib.indexByte s.data.toList (0 : Int).toNat.toUInt8 = -1 := by omega
  have := Lib.indexByte_none hm k
  have hlt : k < s.data.toList.length := by rw [size_list]; exact hk
  apply this
  rw [List.getElem?_eq_getElem hlt]
  rw [nth_strI s k hk] at h
  have e : s[k] = s.data.toList[k] := rfl
  rw [e] at h
  have : s.data.toList[k].toNat = 0 := by omega
  exact congrArg some (UInt8.toNat_inj.1 this)

/-- A text's bytes, a byte 0, and as many more as make whole words. -/
def padI (s : ByteArray) : List Int := filled (strI s) s.size (4 * (s.size / 4 + 1))
/-- A text's words. -/
def textW (s : ByteArray) : List Int := splitL (padI s)

theorem padI_len (s : ByteArray) : (padI s).length = 4 * (s.size / 4 + 1) := filled_len _ _ _ (by omega) (by rw [strI_len]; omega)
theorem textW_len (s : ByteArray) : (textW s).length = s.size / 4 + 1 := by rw [textW, splitL_len, padI_len]; omega
theorem padI_lo (s : ByteArray) (k : Nat) (h : k < s.size) : nth (padI s) k = nth (strI s) k := by
  have e : (strI s).take s.size = strI s := List.take_of_length_le (by rw [strI_len]; omega)
  rw [padI, filled, e, getD_left _ _ _ (by rw [strI_len]; exact h)]
theorem padI_hi (s : ByteArray) (k : Nat) (h : s.size ≤ k) : nth (padI s) k = 0 := by
  have e : (strI s).take s.size = strI s := List.take_of_length_le (by rw [strI_len]; omega)
  rw [padI, filled, e, getD_right _ _ _ (by rw [strI_len]; exact h)]
  simp only [nth, List.getD, List.getElem?_replicate]
  split <;> rfl
theorem padI_within (s : ByteArray) : Within 256 (padI s) := by
  intro z hz
  simp only [padI, filled, List.mem_append, List.mem_replicate] at hz
  rcases hz with hz | ⟨_, rfl⟩
  · exact strI_within s z (List.mem_of_mem_take hz)
  · omega
/-- What lies behind the text's bytes is 0: the row is whole when they are in it. -/
theorem partL_padI (s : ByteArray) : partL (padI s) s.size (s.size / 4 + 1) = textW s := by
  have h := partL_whole (padI s) (by rw [padI_len]; omega)
  rw [padI_len, show 4 * (s.size / 4 + 1) / 4 = s.size / 4 + 1 by omega] at h
  rw [textW, ← h]
  unfold partL
  apply List.map_congr_left
  intro k hk
  have hk' : k < s.size / 4 + 1 := List.mem_range.1 hk
  unfold partW
  rw [if_pos (show 4 * k < 4 * (s.size / 4 + 1) by omega), if_pos (show 4 * k + 1 < 4 * (s.size / 4 + 1) by omega), if_pos (show 4 * k + 2 < 4 * (s.size / 4 + 1) by omega), if_pos (show 4 * k + 3 < 4 * (s.size / 4 + 1) by omega)]
  have f : ∀ i, (if i < s.size then nth (padI s) i else 0) = nth (padI s) i := fun i => by
    split
    · rfl
    · rw [padI_hi s i (by omega)]
  have f' : ∀ i (c : Int), (if i < s.size then nth (padI s) i * c else 0) = nth (padI s) i * c := fun i c => by
    split
    · rfl
    · rw [padI_hi s i (by omega)]; omega
  rw [f, f', f', f']

end Go.Proofs.Ytpggcpnjcalfaab
