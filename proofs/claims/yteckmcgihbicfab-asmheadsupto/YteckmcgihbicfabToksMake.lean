/-
  A slice of tokens that the call makes and fills from its head on.
-/
import Derived.Test.YteckmcgihbicfabProg
import Derived.Test.YteckmcgihbicfabToks
namespace Go.Proofs.Yteckmcgihbicfab
open Go.RowKit
set_option linter.unusedVariables false
set_option linter.unusedSimpArgs false

/-- The first k tokens stand in a row of n. -/
structure PartT (w : World) (g n k : Nat) (l : List TokT) : Prop where
  row : ∃ cs : Array Value, w.heap[g]? = some (.cells cs 77 (0, 0)) ∧ cs.size = n * 3
  each : ∀ j, j < k → w.cell? ⟨g, j * 3, none⟩ = some (.int .u8 (nthT l j).1) ∧ w.cell? ⟨g, j * 3 + 1, none⟩ = some (.string (nthT l j).2.1) ∧ w.cell? ⟨g, j * 3 + 2, none⟩ = some (.int .i64 (nthT l j).2.2)

theorem PartT.can {w : World} {g n k : Nat} {l : List TokT} (h : PartT w g n k l) (j : Nat) (hj : j < n * 3) : (∃ v, w.cell? ⟨g, j, none⟩ = some v) ∧ w.frozen? ⟨g, j, none⟩ = false := by
  obtain ⟨cs, h1, h2⟩ := h.row
  refine ⟨⟨cs[j], by simp [World.cell?, h1, h2, hj]⟩, by simp [World.frozen?, h1]⟩
theorem PartT.made {w : World} {B g n : Nat} {xs : List Value} {l : List TokT} (h : w.ownsRow B 77 3 (.slice (some ⟨g, 0, none⟩) n n) n xs) : PartT w g n 0 l := by
  refine ⟨?_, fun j hj => by omega⟩
  rcases h.2 with ⟨h', _⟩ | ⟨g', cap', cur, h', _, hg, _, _, hcs, _⟩
  · simp at h'
  · simp only [Value.slice.injEq, Option.some.injEq, Addr.mk.injEq, and_true, true_and] at h'
    obtain ⟨rfl, rfl⟩ := h'
    exact ⟨cur, hg, hcs⟩
theorem PartT.store {w : World} {g n k : Nat} {l : List TokT} (h : PartT w g n k l) (hk : k < n) :
    PartT (((w.setCell ⟨g, k * 3, none⟩ (.int .u8 (nthT l k).1)).setCell ⟨g, k * 3 + 1, none⟩ (.string (nthT l k).2.1)).setCell ⟨g, k * 3 + 2, none⟩ (.int .i64 (nthT l k).2.2)) g n (k + 1) l := by
  obtain ⟨⟨cs, h1, h2⟩, h3⟩ := h
  obtain ⟨W, hW⟩ : ∃ W, W = ((w.setCell ⟨g, k * 3, none⟩ (.int .u8 (nthT l k).1)).setCell ⟨g, k * 3 + 1, none⟩ (.string (nthT l k).2.1)).setCell ⟨g, k * 3 + 2, none⟩ (.int .i64 (nthT l k).2.2) := ⟨_, rfl⟩
  have hb : W.heap[g]? = some (.cells (((cs.setIfInBounds (k * 3) (.int .u8 (nthT l k).1)).setIfInBounds (k * 3 + 1) (.string (nthT l k).2.1)).setIfInBounds (k * 3 + 2) (.int .i64 (nthT l k).2.2)) 77 (0, 0)) := by
    rw [hW]; simp [World.setCell, Array.getElem?_modify, h1]
  have cell : ∀ j, W.cell? ⟨g, j, none⟩ = (((cs.setIfInBounds (k * 3) (.int .u8 (nthT l k).1)).setIfInBounds (k * 3 + 1) (.string (nthT l k).2.1)).setIfInBounds (k * 3 + 2) (.int .i64 (nthT l k).2.2))[j]? := fun j => by
    simp [World.cell?, hb]
  have old : ∀ j, w.cell? ⟨g, j, none⟩ = cs[j]? := fun j => by simp [World.cell?, h1]
  rw [← hW]
  refine ⟨⟨_, hb, by simp [h2]⟩, fun j hj => ?_⟩
  by_cases hjk : j < k
  · obtain ⟨c1, c2, c3⟩ := h3 j hjk
    rw [old] at c1 c2 c3
    refine ⟨?_, ?_, ?_⟩
    all_goals rw [cell, Array.getElem?_setIfInBounds_ne (by omega), Array.getElem?_setIfInBounds_ne (by omega), Array.getElem?_setIfInBounds_ne (by omega)]
    · exact c1
    · exact c2
    · exact c3
  · obtain rfl : j = k := by omega
    refine ⟨?_, ?_, ?_⟩
    · rw [cell, Array.getElem?_setIfInBounds_ne (by omega), Array.getElem?_setIfInBounds_ne (by omega), Array.getElem?_setIfInBounds_self_of_lt (by omega)]
    · rw [cell, Array.getElem?_setIfInBounds_ne (by omega), Array.getElem?_setIfInBounds_self_of_lt (by simp; omega)]
    · rw [cell, Array.getElem?_setIfInBounds_self_of_lt (by simp; omega)]
theorem PartT.view {w : World} {g n : Nat} {l : List TokT} (h : PartT w g n n l) (hl : l.length = n) : ToksV w (some ⟨g, 0, none⟩) l := by
  intro j hj
  obtain ⟨c1, c2, c3⟩ := h.each j (by omega)
  exact ⟨g, 0, rfl, World.block_lt_of_cell? _ _ c1, by rw [Nat.zero_add]; exact c1, by rw [Nat.zero_add]; exact c2, by rw [Nat.zero_add]; exact c3⟩
theorem PartT.lt {w : World} {g n k : Nat} {l : List TokT} (h : PartT w g n k l) : g < w.heap.size := by
  obtain ⟨cs, h1, _⟩ := h.row
  exact (Array.getElem?_eq_some_iff.1 h1).1
theorem three_below {B : Nat} {w0 w : World} (h : Below B w0 w) {g : Nat} (hg : B ≤ g) (i j m : Nat) (u v x : Value) : Below B w0 (((w.setCell ⟨g, i, none⟩ u).setCell ⟨g, j, none⟩ v).setCell ⟨g, m, none⟩ x) :=
  ((h.setCell (p := ⟨g, i, none⟩) hg u).setCell (p := ⟨g, j, none⟩) hg v).setCell (p := ⟨g, m, none⟩) hg x

theorem TokMake.info : (Try.prog.info? 77).map (fun i => (i.zero, i.size, i.bytes)) = some (some (.agg #[.int .u8 0, .string ⟨#[]⟩, .int .i64 0]), 3, 32) := by kernel_rfl

end Go.Proofs.Yteckmcgihbicfab
