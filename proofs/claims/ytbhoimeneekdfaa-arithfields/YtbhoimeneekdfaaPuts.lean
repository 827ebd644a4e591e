/-
  Many cells of one block written, one behind the other.
-/
import Derived.WalkKit
import Derived.Laws.AppendOwn
import Derived.Deep.MidRow
import Derived.Test.YtbhoimeneekdfaaMath
namespace Go.Proofs.Ytbhoimeneekdfaa
open Go.RowKit

def setAll (cs : Array Value) : Nat → List Value → Array Value
  | _, [] => cs
  | i, v :: vs => setAll (cs.setIfInBounds i v) (i + 1) vs
theorem setCells_grown (b : Nat) : ∀ (vs : List Value) (i : Nat) (w : World), w.grownBy (w.setCells b i vs) (some b)
  | [], _, _ => ⟨rfl, rfl, rfl, Nat.le_refl _, fun _ _ _ => rfl⟩
  | v :: vs, i, w => by
    have h := setCells_grown b vs (i + 1) (w.setCell ⟨b, i, none⟩ v)
    refine ⟨h.os, h.tape, h.output, ?_, fun k hk hn => ?_⟩
    · have := h.size; rw [World.size_setCell] at this; exact this
    · refine (h.block k (by rw [World.size_setCell]; exact hk) hn).trans ?_
      exact Below.heap_setCell _ _ _ _ (by intro e; exact hn (by rw [e]))
theorem setCells_block {b t : Nat} {fr : Nat × Nat} : ∀ (vs : List Value) (i : Nat) (w : World) (cs : Array Value), w.heap[b]? = some (.cells cs t fr) → (w.setCells b i vs).heap[b]? = some (.cells (setAll cs i vs) t fr)
  | [], _, _, _, h => h
  | v :: vs, i, w, cs, h => setCells_block vs (i + 1) _ _ (by simp [World.setCell, Array.getElem?_modify, h])
theorem setAll_size : ∀ (vs : List Value) (i : Nat) (cs : Array Value), (setAll cs i vs).size = cs.size
  | [], _, _ => rfl
  | v :: vs, i, cs => by rw [setAll, setAll_size vs]; simp
theorem setAll_at : ∀ (vs : List Value) (i j : Nat) (cs : Array Value), i + vs.length ≤ cs.size → (setAll cs i vs)[j]? = if i ≤ j ∧ j < i + vs.length then vs[j - i]? else cs[j]?
  | [], i, j, cs, _ => by rw [if_neg (by simp only [List.length_nil]; omega)]; rfl
  | v :: vs, i, j, cs, h => by
    simp only [List.length_cons] at h ⊢
    rw [setAll, setAll_at vs (i + 1) j _ (by simp; omega)]
    by_cases e : j = i
    · subst e
      rw [if_neg (by omega), if_pos (by omega), Array.getElem?_setIfInBounds_self_of_lt (by omega)]; simp
    · by_cases h1 : i + 1 ≤ j ∧ j < i + 1 + vs.length
      · rw [if_pos h1, if_pos (by omega), show j - i = (j - (i + 1)) + 1 by omega]; simp
      · rw [if_neg h1, if_neg (by omega), Array.getElem?_setIfInBounds_ne (fun e2 => e e2.symm)]
theorem setCells_all {b t : Nat} {fr : Nat × Nat} {w : World} {cs : Array Value} (vs : List Value) (h : w.heap[b]? = some (.cells cs t fr)) (hs : cs.size = vs.length) : (w.setCells b 0 vs).heap[b]? = some (.cells vs.toArray t fr) := by
  rw [setCells_block vs 0 w cs h]
  have e : setAll cs 0 vs = vs.toArray := by
    apply Array.ext'
    apply List.ext_getElem?
    intro j
    have := setAll_at vs 0 j cs (by omega)
    rw [Array.getElem?_toList, this]
    by_cases hj : j < vs.length
    · rw [if_pos (by omega)]; simp
    · rw [if_neg (by omega), Array.getElem?_eq_none (by omega)]; simp; omega
  rw [e]
/-- A goal that the walk leaves alone. -/
def StopP (p : Prop) : Prop := p
theorem stopS {P : Program} {ops : Array Oper} {Q : Exit → Act → World → Prop} {a : Act} {w : World} (T : TypeId) {x y : Operand} {d : Option Tmp} {ty : TypeId} {ps : String} {af : Array Edge} {g : Option (Nat × Bool)} {rest : List Oper} (h : StopP (wpList P ops Q ({ dst := d, op := .store T x y, type := ty, pos := ps, after := af, guard := g } :: rest) a w)) : wpList P ops Q ({ dst := d, op := .store T x y, type := ty, pos := ps, after := af, guard := g } :: rest) a w := h
theorem stopD {P : Program} {ops : Array Oper} {Q : Exit → Act → World → Prop} {a : Act} {w : World} (T : TypeId) {x : Operand} {d : Option Tmp} {ty : TypeId} {ps : String} {af : Array Edge} {g : Option (Nat × Bool)} {rest : List Oper} (h : StopP (wpList P ops Q ({ dst := d, op := .load T x, type := ty, pos := ps, after := af, guard := g } :: rest) a w)) : wpList P ops Q ({ dst := d, op := .load T x, type := ty, pos := ps, after := af, guard := g } :: rest) a w := h
end Go.Proofs.Ytbhoimeneekdfaa
