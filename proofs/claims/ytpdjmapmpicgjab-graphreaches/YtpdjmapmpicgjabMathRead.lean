/-
  What Read answers, as a function on lists: its error with its place, or the instructions; and the row of instructions in memory while it is built.
-/
import Derived.Test.YtpdjmapmpicgjabMathF
import Derived.Test.YtpdjmapmpicgjabRaws
import Derived.Test.YtpdjmapmpicgjabRef02Wrong
import Derived.Test.YtpdjmapmpicgjabRef02At
namespace Go.Proofs.Ytpdjmapmpicgjab
open Go.RowKit

/-- The cells of a row of instructions: each operation, and each list of words, which lies in another block than the row. -/
structure RowR (w : World) (lo : Nat) (ob : Option Nat) (rs : List (Int × List Int)) (cs : List Value) : Prop where
  len : cs.length = rs.length * 2
  each : ∀ j, j < rs.length → ∃ aj cj nj, cs[j * 2]? = some (.int .u16 (nthR rs j).1) ∧ cs[j * 2 + 1]? = some (.slice aj nj cj) ∧ (nthR rs j).2.length = nj ∧ View .u32 w aj (nthR rs j).2 ∧ nj ≤ cj ∧ ∀ b off s, aj = some ⟨b, off, s⟩ → ob ≠ some b ∧ b < w.heap.size ∧ lo ≤ b

theorem RowR.view {w : World} {B T g n cap lo : Nat} {rs : List (Int × List Int)} {cs : List Value} {ob : Option Nat} (h : RowR w lo ob rs cs) (hown : w.ownsRow B T 2 (.slice (some ⟨g, 0, none⟩) n cap) n cs) (hl : rs.length = n) : RawsV w (some ⟨g, 0, none⟩) rs := by
  intro j hj
  obtain ⟨aj, cj, nj, h1, h2, h3, h4, h5, _⟩ := h.each j hj
  have c1 := hown.cellAt (j * 2) (by omega)
  have c2 := hown.cellAt (j * 2 + 1) (by omega)
  rw [h1] at c1
  rw [h2] at c2
  exact ⟨g, 0, aj, cj, nj, rfl, World.block_lt_of_cell? _ _ c1, by rw [Nat.zero_add]; exact c1, by rw [Nat.zero_add]; exact c2, h3, h4, h5⟩

/-- What is written in the row alone leaves the words as they were. -/
theorem view_grown {k : IntKind} {w w' : World} {a : Option Addr} {zs : List Int} {ob : Option Nat} (h : View k w a zs) (hg : w.grownBy w' ob) (hne : ∀ b off s, a = some ⟨b, off, s⟩ → ob ≠ some b) : View k w' a zs := by
  intro j hj
  obtain ⟨b, off, e, hlt, hc⟩ := h j hj
  refine ⟨b, off, e, Nat.lt_of_lt_of_le hlt hg.size, ?_⟩
  rw [← hc]
  exact World.cell?_of_block (w := w) (hg.block b hlt (fun e' => hne b off none e e'.symm))

theorem RowR.below {w w' : World} {lo : Nat} {ob : Option Nat} {rs : List (Int × List Int)} {cs : List Value} (h : RowR w lo ob rs cs) (hb : Below w.heap.size w w') : RowR w' lo ob rs cs := by
  refine ⟨h.len, fun j hj => ?_⟩
  obtain ⟨aj, cj, nj, h1, h2, h3, h4, h5, h6⟩ := h.each j hj
  exact ⟨aj, cj, nj, h1, h2, h3, h4.below hb, h5, fun b off s e => ⟨(h6 b off s e).1, Nat.lt_of_lt_of_le (h6 b off s e).2.1 hb.size, (h6 b off s e).2.2⟩⟩

theorem RowR.setCell {w : World} {lo : Nat} {ob : Option Nat} {rs : List (Int × List Int)} {cs : List Value} (h : RowR w lo ob rs cs) {g j : Nat} (hg : g < lo) (u : Value) : RowR (w.setCell ⟨g, j, none⟩ u) lo ob rs cs := by
  refine ⟨h.len, fun i hi => ?_⟩
  obtain ⟨aj, cj, nj, h1, h2, h3, h4, h5, h6⟩ := h.each i hi
  exact ⟨aj, cj, nj, h1, h2, h3, h4.setCell (fun b off s e => (h6 b off s e).2.2) hg u, h5, fun b off s e => ⟨(h6 b off s e).1, by have := (h6 b off s e).2.1; simpa [World.setCell] using this, (h6 b off s e).2.2⟩⟩

theorem nthR_lo (rs : List (Int × List Int)) (r : Int × List Int) (j : Nat) (h : j < rs.length) : nthR (rs ++ [r]) j = nthR rs j := by
  simp [nthR, List.getD, List.getElem?_append_left h]
theorem nthR_hi (rs : List (Int × List Int)) (r : Int × List Int) : nthR (rs ++ [r]) rs.length = r := by
  simp [nthR, List.getD]

/-- An instruction more. -/
theorem RowR.push {w w' : World} {v : Value} {g' H lo : Nat} {rs : List (Int × List Int)} {cs : List Value} {r : Int × List Int} {a : Option Addr} {n c : Nat}
    (h : RowR w lo v.ownBlock rs cs) (hv : View .u32 w a r.2) (hl : r.2.length = n) (hc : n ≤ c) (ha : ∀ b off s, a = some ⟨b, off, s⟩ → v.ownBlock ≠ some b ∧ b < H ∧ lo ≤ b) (hH : w.heap.size = H)
    (hg : w.grownBy w' v.ownBlock) (hat : v.ownBlock = some g' ∨ g' = H) : RowR w' lo (some g') (rs ++ [r]) (cs ++ [.int .u16 r.1, .slice a n c]) := by
  have key : ∀ b, v.ownBlock ≠ some b → b < H → lo ≤ b → (some g' ≠ some b ∧ b < w'.heap.size ∧ lo ≤ b) := fun b h1 h2 h0 => by
    refine ⟨fun e => ?_, by have := hg.size; omega, h0⟩
    cases e
    rcases hat with h3 | h3
    · exact h1 h3
    · omega
  refine ⟨by simp [h.len]; omega, fun j hj => ?_⟩
  rw [List.length_append, List.length_singleton] at hj
  by_cases hjl : j < rs.length
  · obtain ⟨aj, cj, nj, h1, h2, h3, h4, h5, h6⟩ := h.each j hjl
    rw [nthR_lo _ _ _ hjl]
    have hcl := h.len
    exact ⟨aj, cj, nj, by rw [List.getElem?_append_left (by omega)]; exact h1, by rw [List.getElem?_append_left (by omega)]; exact h2, h3, view_grown h4 hg (fun b off s e => (h6 b off s e).1), h5,
      fun b off s e => key b (h6 b off s e).1 (by have := (h6 b off s e).2.1; omega) (h6 b off s e).2.2⟩
  · obtain rfl : j = rs.length := by omega
    rw [nthR_hi]
    have hcl := h.len
    refine ⟨a, c, n, ?_, ?_, hl, view_grown hv hg (fun b off s e => (ha b off s e).1), hc, fun b off s e => key b (ha b off s e).1 (ha b off s e).2.1 (ha b off s e).2.2⟩
    · rw [List.getElem?_append_right (by omega), show rs.length * 2 - cs.length = 0 by omega]; rfl
    · rw [List.getElem?_append_right (by omega), show rs.length * 2 + 1 - cs.length = 1 by omega]; rfl

end Go.Proofs.Ytpdjmapmpicgjab
