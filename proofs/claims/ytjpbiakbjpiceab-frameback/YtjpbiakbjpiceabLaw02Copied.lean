/-
  copied of the laws of layer 2 answers the instructions in new memory.
-/
import Derived.WalkSpells
import Derived.BigRegion
import Derived.Deep.RegionWith
import Derived.Deep.DrawnRows
import Derived.Test.YtjpbiakbjpiceabMathRead
import Derived.Test.YtjpbiakbjpiceabKitCopyWords
namespace Go.Proofs.Ytjpbiakbjpiceab
open Go.RowKit

theorem Copied.info : (Try.prog.info? 68).map (fun i => (i.zero, i.size, i.bytes)) = some (some (.agg #[.int .u16 0, .slice none 0 0]), 2, 32) := by kernel_rfl

/-- The first k instructions lie in the row at g, their words in later blocks. -/
structure PartR (w : World) (g n k : Nat) (rs : List (Int × List Int)) : Prop where
  row : ∃ cs : Array Value, w.heap[g]? = some (.cells cs 68 (0, 0)) ∧ cs.size = n * 2
  each : ∀ j, j < k → ∃ gj nj, w.cell? ⟨g, j * 2, none⟩ = some (.int .u16 (nthR rs j).1) ∧ w.cell? ⟨g, j * 2 + 1, none⟩ = some (.slice (some ⟨gj, 0, none⟩) nj nj) ∧ (nthR rs j).2.length = nj ∧ View .u32 w (some ⟨gj, 0, none⟩) (nthR rs j).2 ∧ g < gj

theorem PartR.below {w w' : World} {g n k : Nat} {rs : List (Int × List Int)} (h : PartR w g n k rs) (hb : Below w.heap.size w w') : PartR w' g n k rs := by
  obtain ⟨⟨cs, h1, h2⟩, h3⟩ := h
  have hg : g < w.heap.size := (Array.getElem?_eq_some_iff.1 h1).1
  refine ⟨⟨cs, by rw [hb.block g hg]; exact h1, h2⟩, fun j hj => ?_⟩
  obtain ⟨gj, nj, c1, c2, c3, c4, c5⟩ := h3 j hj
  exact ⟨gj, nj, (hb.cell (p := ⟨g, j * 2, none⟩) hg).trans c1, (hb.cell (p := ⟨g, j * 2 + 1, none⟩) hg).trans c2, c3, c4.below hb, c5⟩

theorem cells_free {w : World} {g T : Nat} {cs : Array Value} (h : w.heap[g]? = some (.cells cs T (0, 0))) (j : Nat) (hj : j < cs.size) : (∃ v, w.cell? ⟨g, j, none⟩ = some v) ∧ w.frozen? ⟨g, j, none⟩ = false := by
  refine ⟨⟨cs[j], by simp [World.cell?, h, hj]⟩, by simp [World.frozen?, h]⟩

/-- An instruction is stored. -/
theorem PartR.store {w : World} {g n k : Nat} {rs : List (Int × List Int)} (h : PartR w g n k rs) (hk : k < n) (gk nk : Nat) (hl : (nthR rs k).2.length = nk) (hv : View .u32 w (some ⟨gk, 0, none⟩) (nthR rs k).2) (hg : g < gk) :
    PartR ((w.setCell ⟨g, k * 2, none⟩ (.int .u16 (nthR rs k).1)).setCell ⟨g, k * 2 + 1, none⟩ (.slice (some ⟨gk, 0, none⟩) nk nk)) g n (k + 1) rs := by
  obtain ⟨⟨cs, h1, h2⟩, h3⟩ := h
  have hb : ((w.setCell ⟨g, k * 2, none⟩ (.int .u16 (nthR rs k).1)).setCell ⟨g, k * 2 + 1, none⟩ (.slice (some ⟨gk, 0, none⟩) nk nk)).heap[g]? = some (.cells ((cs.setIfInBounds (k * 2) (.int .u16 (nthR rs k).1)).setIfInBounds (k * 2 + 1) (.slice (some ⟨gk, 0, none⟩) nk nk)) 68 (0, 0)) := by
    simp [World.setCell, Array.getElem?_modify, h1]
  have cell : ∀ j, ((w.setCell ⟨g, k * 2, none⟩ (.int .u16 (nthR rs k).1)).setCell ⟨g, k * 2 + 1, none⟩ (.slice (some ⟨gk, 0, none⟩) nk nk)).cell? ⟨g, j, none⟩ = ((cs.setIfInBounds (k * 2) (.int .u16 (nthR rs k).1)).setIfInBounds (k * 2 + 1) (.slice (some ⟨gk, 0, none⟩) nk nk))[j]? := fun j => by
    simp [World.cell?, hb]
  have old : ∀ j, w.cell? ⟨g, j, none⟩ = cs[j]? := fun j => by simp [World.cell?, h1]
  refine ⟨⟨_, hb, by simp [h2]⟩, fun j hj => ?_⟩
  by_cases hjk : j < k
  · obtain ⟨gj, nj, c1, c2, c3, c4, c5⟩ := h3 j hjk
    rw [old] at c1 c2
    refine ⟨gj, nj, ?_, ?_, c3, ?_, c5⟩
    · rw [cell, Array.getElem?_setIfInBounds_ne (by omega), Array.getElem?_setIfInBounds_ne (by omega)]; exact c1
    · rw [cell, Array.getElem?_setIfInBounds_ne (by omega), Array.getElem?_setIfInBounds_ne (by omega)]; exact c2
    · exact (c4.setCell (B := g + 1) (newAt_mk (by omega)) (by omega) _).setCell (B := g + 1) (newAt_mk (by omega)) (by omega) _
  · obtain rfl : j = k := by omega
    refine ⟨gk, nk, ?_, ?_, hl, ?_, hg⟩
    · rw [cell, Array.getElem?_setIfInBounds_ne (by omega), Array.getElem?_setIfInBounds_self_of_lt (by omega)]
    · rw [cell, Array.getElem?_setIfInBounds_self_of_lt (by simp; omega)]
    · exact (hv.setCell (B := g + 1) (newAt_mk (by omega)) (by omega) _).setCell (B := g + 1) (newAt_mk (by omega)) (by omega) _

theorem PartR.view {w : World} {g n : Nat} {rs : List (Int × List Int)} (h : PartR w g n n rs) (hl : rs.length = n) : RawsV w (some ⟨g, 0, none⟩) rs := by
  intro j hj
  obtain ⟨gj, nj, c1, c2, c3, c4, c5⟩ := h.each j (by omega)
  exact ⟨g, 0, some ⟨gj, 0, none⟩, nj, nj, rfl, World.block_lt_of_cell? _ _ c1, by rw [Nat.zero_add]; exact c1, by rw [Nat.zero_add]; exact c2, c3, c4, Nat.le_refl _⟩

set_option maxRecDepth 100000 in
set_option maxHeartbeats 4000000 in
theorem copied_any (a : Option Addr) (n cap : Nat) (rs : List (Int × List Int)) (w : World) (ha : RawsV w a rs) (hok : RawsOk rs) (hl : rs.length = n) (hn : 32 * n ≤ 140737488351232) :
    Calls Try.prog 19 #[.slice a n cap] w fun e w' => e = .returned (.slice (some ⟨w.heap.size, 0, none⟩) n n) ∧ PartR w' w.heap.size n n rs ∧ Below w.heap.size w w' := by
  obtain ⟨i0, hi, hz0, hz1, hz2⟩ := info_parts Copied.info
  have HL : Hid (rs.length = n) := hl
  clear hl
  go_enter Try.func19, Try.ntmps19
  go_wp2_with (at_make; refine wpList_make_full _ rfl _ _ 50 rfl w.heap.size 68 i0 (.agg #[.int .u16 0, .slice none 0 0]) 2 Try.underlying50 hi hz0 hz1 _ _ _ _ n rfl rfl (by omega) (by omega) (by rw [hz2]; omega) (by unfold maxLen; omega) (Nat.le_refl _) ?_)
  intro w1 hown1 hgrow1
  have hb1 : Below w.heap.size w w1 := (Below.refl _ w).grown hgrow1 (Nat.le_refl _) (by simp)
  have hP1 : PartR w1 w.heap.size n 0 rs := by
    refine ⟨?_, fun j hj => by omega⟩
    rcases hown1.2 with ⟨h, _⟩ | ⟨g, cap', cur, h1, h2, h3, h4, h5, h6, _⟩
    · simp at h
    · simp at h1; obtain ⟨rfl, rfl⟩ := h1; exact ⟨cur, h3, h6⟩
  clear hown1 hgrow1
  go_wp2
  go_loopw [4] (fun i wr => ∃ k : Nat, k ≤ n ∧ i = .int .i64 k ∧ PartR wr w.heap.size n k rs ∧ Below w.heap.size w wr) (fun i _ => n - (intOf i).toNat)
  case atStart => exact ⟨0, Nat.zero_le _, rfl, hP1, hb1⟩
  case round =>
    obtain ⟨k, hk, rfl, hP, hnx⟩ := hrel
    clear hP1 hb1
    have hsz := hnx.size
    by_cases hlt : k < n
    · obtain ⟨b, off, aj, cj, nj, rfl, hbs, p1, p2, p3, p4, _⟩ := ha k (by rw [HL.out]; exact hlt)
      obtain ⟨_, _, hwi, h4⟩ := hok k (by rw [HL.out]; exact hlt)
      have q1 := (hnx.cell (p := ⟨b, off + k * 2, none⟩) hbs).trans p1
      have q2 := (hnx.cell (p := ⟨b, off + k * 2 + 1, none⟩) hbs).trans p2
      obtain ⟨cs, hr1, hr2⟩ := hP.row
      have hgl : w.heap.size < wr.heap.size := (Array.getElem?_eq_some_iff.1 hr1).1
      obtain ⟨⟨u0, d0⟩, f0⟩ := cells_free hr1 (k * 2) (by omega)
      obtain ⟨⟨u1, d1⟩, f1⟩ := cells_free hr1 (k * 2 + 1) (by omega)
      have hki : (k : Int) < (n : Int) := by omega
      have hk0 : (0 : Int) ≤ (k : Int) := by omega
      have hC := fun wx (hb : Below wr.heap.size wr wx) => copyWords_any aj nj cj (nthR rs k).2 wx ((p4.below hnx).below hb) p3 (by omega)
      have hbs' : b < wr.heap.size := by omega
      have HP : Hid (PartR wr w.heap.size n k rs) := hP
      have HV3 : Hid ((nthR rs k).2.length = nj) := p3
      clear p1 p2 p4 hr1 hr2 hP hwi h4 ha hok
      go_wp2
      go_region_with ((go_at_call 16; refine (hC _ (by first | exact Below.refl _ _ | exact (Below.refl _ _).drew)).mono ?_; rintro e w' ⟨rfl, hownC, hbC⟩; have e1 := (hbC.cell (p := ⟨b, off + k * 2, none⟩) (by exact hbs')).trans q1; have e2 := (hbC.cell (p := ⟨b, off + k * 2 + 1, none⟩) (by exact hbs')).trans q2; have e3 := (hbC.cell (p := ⟨w.heap.size, k * 2, none⟩) (by exact hgl)).trans d0; have e4 := (hbC.cell (p := ⟨w.heap.size, k * 2 + 1, none⟩) (by exact hgl)).trans d1; have e5 := (hbC.frozen (p := ⟨w.heap.size, k * 2, none⟩) (by exact hgl)).trans f0; have e6 := (hbC.frozen (p := ⟨w.heap.size, k * 2 + 1, none⟩) (by exact hgl)).trans f1))
      all_goals
        have hbC' : Below wr.heap.size wr w' := by first | exact hbC | exact ((Below.refl _ wr).drew).trans hbC
        have hP2 := (HP.out.below hbC').store hlt wr.heap.size nj HV3.out (View.ofRow hownC HV3.out) hgl
        have hB2 := ((hnx.trans (hbC'.mono hsz)).setCell (p := ⟨w.heap.size, k * 2, none⟩) (Nat.le_refl _) (.int .u16 (nthR rs k).1)).setCell (p := ⟨w.heap.size, k * 2 + 1, none⟩) (Nat.le_refl _) (.slice (some ⟨wr.heap.size, 0, none⟩) nj nj)
        clear hbC hownC e1 e2 e3 e4 e5 e6 hbC'
        go_wp2
        go_roundw
        case rel => exact ⟨k + 1, by omega, by go_num, by first | exact hP2 | exact hP2.below (bel_drewN (Below.refl _ _) 1), by first | exact hB2 | exact hB2.drew⟩
        case measure => simp [intOf]; omega
    · obtain rfl : k = n := by omega
      go_wp2
      go_ret
      exact ⟨rfl, hP, hnx⟩

end Go.Proofs.Ytjpbiakbjpiceab
