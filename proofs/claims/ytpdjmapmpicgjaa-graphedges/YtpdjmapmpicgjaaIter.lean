/-
  A range over a function whose iterator hands out what it has just made: what is asked of such an iterator ('Tells'), and what a loop over it comes to ('wp_tells'). V: what holds of a thing that is told, in the world in which it is told; what a round keeps is said by Kept: what lay below n₀, and every box of a type of τ. The calls' fence is the wide one.
-/
import Derived.RangeFuncNested
import Derived.RangeFuncLeaves
import Derived.RangeFuncBound
import Derived.Test.YtpdjmapmpicgjaaMath3
namespace Go.Proofs.Ytpdjmapmpicgjaa
open Go.RowKit
set_option linter.unusedVariables false

/-- Every block of cells of a type of τ lies as it lay. -/
def KeptT (τ : TypeId → Prop) (A B : World) : Prop := ∀ (k : Nat) (cs : Array Value) (t : TypeId) (fr : Nat × Nat), τ t → A.heap[k]? = some (.cells cs t fr) → B.heap[k]? = some (.cells cs t fr)

theorem KeptT.refl (τ : TypeId → Prop) (A : World) : KeptT τ A A := fun _ _ _ _ _ h => h
theorem KeptT.trans {τ : TypeId → Prop} {A B C : World} (h : KeptT τ A B) (k : KeptT τ B C) : KeptT τ A C := fun i cs t fr ht hi => k i cs t fr ht (h i cs t fr ht hi)
theorem KeptT.none {A B : World} : KeptT (fun _ => False) A B := fun _ _ _ _ h _ => h.elim
theorem KeptT.of_grownBy {τ : TypeId → Prop} {A B : World} {row : Option Nat} (hg : A.grownBy B row) (hr : ∀ (j : Nat) (cs : Array Value) (t : TypeId) (fr : Nat × Nat), row = some j → A.heap[j]? = some (.cells cs t fr) → ¬ τ t) : KeptT τ A B := fun k cs t fr ht hk => by
  refine (hg.block k (Array.getElem?_eq_some_iff.1 hk).1 (fun e => ?_)).trans hk
  exact hr k cs t fr e.symm hk ht
theorem KeptT.row {τ : TypeId → Prop} {A B : World} {b e size n : Nat} {v : Value} {xs : List Value} (h : A.ownsRow b e size v n xs) (hg : A.grownBy B v.ownBlock) (hne : ¬ τ e) : KeptT τ A B := KeptT.of_grownBy hg fun j cs t fr ej hj => by
  rcases h.2 with ⟨h1, _⟩ | ⟨g, c, cur, h1, _, h3, _⟩
  · rw [h1] at ej; simp [Value.ownBlock] at ej
  · rw [h1] at ej; simp [Value.ownBlock] at ej; subst ej
    rw [h3] at hj; cases hj; exact hne
theorem KeptT.setCell {τ : TypeId → Prop} {A : World} {b : Nat} {cs : Array Value} {t : TypeId} {fr : Nat × Nat} (h : A.heap[b]? = some (.cells cs t fr)) (hne : ¬ τ t) (j : Nat) (v : Value) : KeptT τ A (A.setCell ⟨b, j, Option.none⟩ v) := fun k cs' t' fr' ht hk => by
  refine (Below.heap_setCell A ⟨b, j, Option.none⟩ v k (fun e => ?_)).trans hk
  simp only at e
  subst e
  rw [h] at hk; cases hk; exact hne ht
/-- What a round keeps that goes on. -/
def Kept (n₀ : Nat) (τ : TypeId → Prop) (A B : World) : Prop := Below n₀ A B ∧ KeptT τ A B
theorem Kept.refl (n₀ : Nat) (τ : TypeId → Prop) (A : World) : Kept n₀ τ A A := ⟨Below.refl _ _, KeptT.refl _ _⟩
theorem Kept.trans {n₀ : Nat} {τ : TypeId → Prop} {A B C : World} (h : Kept n₀ τ A B) (k : Kept n₀ τ B C) : Kept n₀ τ A C := ⟨h.1.trans k.1, h.2.trans k.2⟩
theorem grown_of_below {A B : World} (h : Below A.heap.size A B) (row : Option Nat) : A.grownBy B row := ⟨h.os, h.tape, h.output, h.size, fun k hk _ => h.block k hk⟩
theorem KeepsFrom.mono {m m' : Nat} {A B : World} (h : KeepsFrom m A B) (hm : m ≤ m') : KeepsFrom m' A B := ⟨h.size, fun k o hk h1 h2 => h.same k o (Nat.le_trans hm hk) h1 h2⟩
theorem OwnFrom.below {β : Type} {B : Nat} {I : β → World → Prop} (h : OwnFrom B I) {s : β} {A C : World} (hs : I s A) (hb : Below A.heap.size A C) : I s C :=
  h s A C Option.none hs (grown_of_below hb _) (fun r e => by cases e)
theorem OwnFrom.mono {β : Type} {B B' : Nat} {I : β → World → Prop} (h : OwnFrom B I) (hB : B ≤ B') : OwnFrom B' I := fun s W W' row hs hg hr => h s W W' row hs hg (fun r e => ⟨Nat.le_trans hB (hr r e).1, (hr r e).2⟩)

end Go.Proofs.Ytpdjmapmpicgjaa
