/-
  Tokens in memory: what can be read of them.
-/
import Derived.Test.YteckmcgihbicfabMathX
namespace Go.Proofs.Yteckmcgihbicfab
open Go.RowKit
set_option linter.unusedSimpArgs false
set_option linter.unusedVariables false

def tokV (x : TokT) : Value := .agg #[.int .u8 x.1, .string x.2.1, .int .i64 x.2.2]
def tokC (x : TokT) : List Value := [.int .u8 x.1, .string x.2.1, .int .i64 x.2.2]

/-- What can be read of a slice of tokens. -/
def ToksV (w : World) (a : Option Addr) (l : List TokT) : Prop :=
  ∀ j, j < l.length → ∃ b off, a = some ⟨b, off, none⟩ ∧ b < w.heap.size ∧ w.cell? ⟨b, off + j * 3, none⟩ = some (.int .u8 (nthT l j).1) ∧ w.cell? ⟨b, off + j * 3 + 1, none⟩ = some (.string (nthT l j).2.1) ∧ w.cell? ⟨b, off + j * 3 + 2, none⟩ = some (.int .i64 (nthT l j).2.2)

def TokIn (x : TokT) : Prop := 0 ≤ x.1 ∧ x.1 < 256 ∧ x.2.1.size ≤ 140737488351232 ∧ -9223372036854775808 ≤ x.2.2 ∧ x.2.2 < 9223372036854775808
/-- Each kind, text and place lies within its bounds. -/
def ToksIn (l : List TokT) : Prop := ∀ j, j < l.length → TokIn (nthT l j)

theorem toksV_nil {w : World} {a : Option Addr} : ToksV w a [] := fun j hj => by simp at hj
theorem toksIn_nil : ToksIn [] := fun j hj => by simp at hj
theorem ToksV.below {w w' : World} {a : Option Addr} {l : List TokT} (h : ToksV w a l) (hb : Below w.heap.size w w') : ToksV w' a l := by
  intro j hj
  obtain ⟨b, off, e, hlt, h1, h2, h3⟩ := h j hj
  exact ⟨b, off, e, Nat.lt_of_lt_of_le hlt hb.size, (hb.cell (p := ⟨b, off + j * 3, none⟩) hlt).trans h1, (hb.cell (p := ⟨b, off + j * 3 + 1, none⟩) hlt).trans h2, (hb.cell (p := ⟨b, off + j * 3 + 2, none⟩) hlt).trans h3⟩
theorem ToksV.drew {w : World} {a : Option Addr} {l : List TokT} (h : ToksV w a l) (q : Nat) : ToksV (w.drewN q) a l := h.below (bel_drewN (Below.refl _ _) q)

theorem nthT_lt (l : List TokT) (j : Nat) (h : j < l.length) : nthT l j = l[j] := by simp [nthT, List.getD, h]
theorem nthT_lo (l : List TokT) (x : TokT) (j : Nat) (h : j < l.length) : nthT (l ++ [x]) j = nthT l j := by simp [nthT, List.getD, List.getElem?_append_left h]
theorem nthT_hi (l : List TokT) (x : TokT) : nthT (l ++ [x]) l.length = x := by simp [nthT, List.getD]
theorem flatT_len (l : List TokT) : (l.flatMap tokC).length = l.length * 3 := by
  induction l with
  | nil => rfl
  | cons x l ih => simp only [List.flatMap_cons, List.length_append, List.length_cons, ih]; simp [tokC]; omega
theorem flatT_at (l : List TokT) (j : Nat) (h : j < l.length) : (l.flatMap tokC)[j * 3]? = some (.int .u8 (nthT l j).1) ∧ (l.flatMap tokC)[j * 3 + 1]? = some (.string (nthT l j).2.1) ∧ (l.flatMap tokC)[j * 3 + 2]? = some (.int .i64 (nthT l j).2.2) := by
  induction l generalizing j with
  | nil => simp at h
  | cons x l ih =>
    cases j with
    | zero => simp [tokC, nthT]
    | succ j =>
      have := ih j (by simpa using h)
      rw [show (j + 1) * 3 = 3 + j * 3 by omega]
      have e : ∀ i, (List.flatMap tokC (x :: l))[3 + i]? = (l.flatMap tokC)[i]? := fun i => by
        rw [List.flatMap_cons, List.getElem?_append_right (by simp [tokC])]
        congr 1; simp [tokC]
      rw [e, show 3 + j * 3 + 1 = 3 + (j * 3 + 1) by omega, e, show 3 + j * 3 + 2 = 3 + (j * 3 + 2) by omega, e]
      have e2 : nthT (x :: l) (j + 1) = nthT l j := by simp [nthT, List.getD]
      rw [e2]; exact this
/-- What the call owns can be read. -/
theorem ToksV.ofRow {w : World} {B e g n cap : Nat} {l : List TokT} (h : w.ownsRow B e 3 (.slice (some ⟨g, 0, none⟩) n cap) n (l.flatMap tokC)) (hl : l.length = n) : ToksV w (some ⟨g, 0, none⟩) l := by
  intro j hj
  have hc := h.cells (g := g) rfl
  obtain ⟨h0, h1, h2⟩ := flatT_at l j hj
  have c0 := hc _ _ h0
  have c1 := hc _ _ h1
  have c2 := hc _ _ h2
  rw [Addr.add_lit, Nat.zero_add] at c0 c1 c2
  refine ⟨g, 0, rfl, World.block_lt_of_cell? _ _ c0, ?_, ?_, ?_⟩
  · rw [Nat.zero_add]; exact c0
  · rw [Nat.zero_add]; exact c1
  · rw [Nat.zero_add]; exact c2

end Go.Proofs.Yteckmcgihbicfab
