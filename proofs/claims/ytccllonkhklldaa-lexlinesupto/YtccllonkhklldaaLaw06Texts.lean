/-
  texts of the statements of layer 6: the texts of tokens in new memory; Texts of the kit: true of lists that are the same. Nothing that was there turns.
-/
import Derived.WalkSpells
import Derived.Deep.QuietTactic
import Derived.BigQuiet
import Derived.WalkMore
import Derived.Test.YtccllonkhklldaaProg
import Derived.Test.YtccllonkhklldaaToks
namespace Go.Proofs.Ytccllonkhklldaa
open Go.RowKit
set_option maxRecDepth 10000
set_option linter.unusedVariables false
set_option linter.unusedSimpArgs false

def nthS (l : List ByteArray) (k : Nat) : ByteArray := l.getD k ⟨#[]⟩
/-- What can be read of a slice of texts. -/
def StrsV (w : World) (a : Option Addr) (l : List ByteArray) : Prop :=
  ∀ j, j < l.length → ∃ b off, a = some ⟨b, off, none⟩ ∧ b < w.heap.size ∧ w.cell? ⟨b, off + j, none⟩ = some (.string (nthS l j))
theorem StrsV.below {w w' : World} {a : Option Addr} {l : List ByteArray} (h : StrsV w a l) (hb : Below w.heap.size w w') : StrsV w' a l := by
  intro j hj
  obtain ⟨b, off, e, hlt, h1⟩ := h j hj
  exact ⟨b, off, e, Nat.lt_of_lt_of_le hlt hb.size, (hb.cell (p := ⟨b, off + j, none⟩) hlt).trans h1⟩
theorem strs_own {w : World} {B : Nat} {v : Value} {l : List ByteArray} (h : w.ownsRow B 9 1 v l.length (l.map Value.string)) : ∃ a c, v = .slice a l.length c ∧ StrsV w a l := by
  rcases h.2 with ⟨rfl, h0⟩ | ⟨g, cap, cur, rfl, rest⟩
  · have : l = [] := List.length_eq_zero_iff.1 h0
    subst this
    exact ⟨none, 0, rfl, fun j hj => by simp at hj⟩
  · refine ⟨_, cap, rfl, fun j hj => ?_⟩
    have hc := h.cellAt j (by omega)
    have e : (l.map Value.string)[j]? = some (.string (nthS l j)) := by simp [nthS, List.getD, hj]
    rw [e] at hc
    exact ⟨g, 0, rfl, World.block_lt_of_cell? _ _ hc, by rw [Nat.zero_add]; exact hc⟩

theorem Strs.info : (Try.prog.info? 9).map (fun i => (i.zero, i.size, i.bytes)) = some (some (.string ⟨#[]⟩), 1, 16) := by kernel_rfl
/-- The texts of the first k. -/
def txtL (l : List TokT) : List ByteArray := l.map fun t => t.2.1
theorem txt_snoc (l : List TokT) (k : Nat) (h : k < l.length) : txtL (l.take (k + 1)) = txtL (l.take k) ++ [(nthT l k).2.1] := by
  rw [takeT_snoc l k h]; simp [txtL]

end Go.Proofs.Ytccllonkhklldaa
