/-
  Rows of memory that lie apart from one another.
-/
import Derived.WalkSpells
import Derived.Laws.AppendOwn
import Derived.Test.YtpdjmapmpicgjaaProg
import Derived.Test.YtpdjmapmpicgjaaMath3
import Derived.Test.YtpdjmapmpicgjaaLaw02Apart
import Derived.Test.YtpdjmapmpicgjaaRdr
namespace Go.Proofs.Ytpdjmapmpicgjaa
open Go.RowKit
set_option linter.unusedVariables false
set_option linter.unusedSimpArgs false
set_option maxRecDepth 10000

structure RowX where
  T : Nat
  size : Nat
  v : Value
  n : Nat
  xs : List Value
def RowX.own (r : RowX) (w : World) (lo : Nat) : Prop := w.ownsRow lo r.T r.size r.v r.n r.xs
/-- Rows, each in memory of its own. -/
structure RowsX {ι : Type} (w : World) (lo : Nat) (In : ι → Prop) (R : ι → RowX) : Prop where
  own : ∀ q, In q → (R q).own w lo
  apart : ∀ q q', In q → In q' → q ≠ q' → ∀ g, (R q).v.ownBlock = some g → (R q').v.ownBlock ≠ some g
theorem RowsX.kept {ι : Type} {w w' : World} {lo : Nat} {In : ι → Prop} {R : ι → RowX} {ob : Option Nat} (h : RowsX w lo In R) (hg : w.grownBy w' ob) (hob : ∀ g, ob = some g → g < lo) : RowsX w' lo In R :=
  ⟨fun q hq => own_grown (h.own q hq) hg (fun g e e2 => by have := (World.ownsRow.lt (h.own q hq) g e2).1; have := hob g e; omega), h.apart⟩
theorem RowsX.put {ι : Type} {w w' : World} {lo : Nat} {In : ι → Prop} {R R' : ι → RowX} (h : RowsX w lo In R) (i : ι) (hi : In i) (hg : w.grownBy w' (R i).v.ownBlock) (hnew : (R' i).own w' lo) (hv : (R' i).v.ownBlock = (R i).v.ownBlock ∨ ∀ g, (R' i).v.ownBlock = some g → w.heap.size ≤ g) (hs : ∀ q, In q → q ≠ i → R' q = R q) : RowsX w' lo In R' := by
  constructor
  · intro q hq
    by_cases e : q = i
    · rw [e]; exact hnew
    · rw [hs q hq e]
      exact own_grown (h.own q hq) hg (fun g eg => h.apart i q hi hq (fun e2 => e e2.symm) g eg)
  · intro q q' hq hq' hne g e1 e2
    by_cases eq : q = i
    · subst eq
      have hq'i : q' ≠ q := fun e => hne e.symm
      rw [hs q' hq' hq'i] at e2
      rcases hv with hv | hv
      · rw [hv] at e1; exact h.apart q q' hq hq' hne g e1 e2
      · have := hv g e1; have := (World.ownsRow.lt (h.own q' hq') g e2).2; omega
    · rw [hs q hq eq] at e1
      by_cases eq' : q' = i
      · subst eq'
        rcases hv with hv | hv
        · rw [hv] at e2; exact h.apart q q' hq hq' hne g e1 e2
        · have := hv g e2; have := (World.ownsRow.lt (h.own q hq) g e1).2; omega
      · rw [hs q' hq' eq'] at e2
        exact h.apart q q' hq hq' hne g e1 e2
theorem RowsX.grow {ι : Type} {w : World} {lo : Nat} {In In' : ι → Prop} {R R' : ι → RowX} (h : RowsX w lo In R) (hin : ∀ q, In' q → In q ∨ ((R' q).v = .slice none 0 0 ∧ (R' q).n = 0 ∧ (R' q).xs = [])) (hs : ∀ q, In q → R' q = R q) : RowsX w lo In' R' := by
  constructor
  · intro q hq
    rcases hin q hq with h1 | ⟨h1, h2, h3⟩
    · rw [hs q h1]; exact h.own q h1
    · unfold RowX.own; rw [h1, h2, h3]; exact World.ownsRow_nil _ _ _ _
  · intro q q' hq hq' hne g e1 e2
    rcases hin q hq with h1 | ⟨h1, _, _⟩
    · rcases hin q' hq' with k1 | ⟨k1, _, _⟩
      · rw [hs q h1] at e1; rw [hs q' k1] at e2; exact h.apart q q' h1 k1 hne g e1 e2
      · rw [k1] at e2; cases e2
    · rw [h1] at e1; cases e1

/-- A cell of an own row is written. -/
theorem own_setAt {w : World} {lo e size n g cap : Nat} {xs : List Value} (h : w.ownsRow lo e size (.slice (some ⟨g, 0, none⟩) n cap) n xs) (i : Nat) (u : Value) : (w.setCell ⟨g, i, none⟩ u).ownsRow lo e size (.slice (some ⟨g, 0, none⟩) n cap) n (xs.set i u) := by
  refine ⟨by rw [List.length_set]; exact h.1, .inr ?_⟩
  rcases h.2 with ⟨h1, _⟩ | ⟨g', cap', cur, e1, h2, h3, h4, h5, h6, h7⟩
  · cases h1
  · cases e1
    refine ⟨g, cap, cur.setIfInBounds i u, rfl, h2, ?_, h4, h5, by simp [h6], ?_⟩
    · simp [World.setCell, Array.getElem?_modify, h3]
    · rw [Array.toList_setIfInBounds, List.take_set, h7]
theorem own_form {w : World} {lo e size n : Nat} {v : Value} {xs : List Value} (h : w.ownsRow lo e size v n xs) (hn : 0 < n) : ∃ g cap, v = .slice (some ⟨g, 0, none⟩) n cap ∧ lo ≤ g ∧ g < w.heap.size ∧ n ≤ cap ∧ (∀ i, w.frozen? ⟨g, i, none⟩ = false) ∧ (∀ i, i < n * size → w.cell? ⟨g, i, none⟩ = xs[i]?) := by
  rcases h.2 with ⟨_, h1⟩ | ⟨g, cap, cur, e1, h2, h3, h4, h5, h6, h7⟩
  · omega
  · refine ⟨g, cap, e1, h2, (Array.getElem?_eq_some_iff.1 h3).1, h4, fun i => by simp [World.frozen?, h3], fun i hi => ?_⟩
    rw [show w.cell? ⟨g, i, none⟩ = cur[i]? by simp [World.cell?, h3], ← h7, List.getElem?_take, if_pos hi]
    simp
theorem grown_cell (w : World) (g i : Nat) (u : Value) : w.grownBy (w.setCell ⟨g, i, none⟩ u) (some g) := grown_setCell w g i u
theorem own_block {w : World} {lo e size n g cap : Nat} {xs : List Value} : Value.ownBlock (.slice (some ⟨g, 0, none⟩) n cap) = some g := rfl

end Go.Proofs.Ytpdjmapmpicgjaa
