/-
  Texts laid together in one: Iter, Boxes, GrammarEnums, GrammarEnum, CodeForm, Append, AppendView.
-/
import Derived.RangeFuncNested
import Derived.RangeFuncLeaves
import Derived.RangeFuncBound
import Derived.Test.YtjjoggpddafajaaGreatB01
import Derived.RangeFuncCalls
import Derived.Shelf.Abstract
import Derived.Shelf.RegionOpen
import Derived.WalkKit
import Derived.OwnWalkIn
import Derived.TacticsInMore
import Derived.LoopNIn
import Derived.LoopIn
import Derived.Test.YtjjoggpddafajaaGreatB04
import Derived.WalkSpells
import Derived.WalkMore
import Derived.Laws.Append
import Derived.Laws.AppendOwn
/-
  A range over a function whose iterator hands out what it has just made: what is asked of such an iterator ('Tells'), and what a loop over it comes to ('wp_tells'). V: what holds of a thing that is told, in the world in which it is told; what a round keeps is said by Kept: what lay below n₀, and every box of a type of τ. The calls' fence is the wide one.
-/
namespace Go.Proofs.YtjjoggpddafajaaGreat
open Go.RowKit
set_option linter.unusedVariables false

/-- Every block of cells of a type of τ lies as it lay. -/
def KeptT (τ : TypeId → Prop) (A B : World) : Prop := ∀ (k : Nat) (cs : Array Value) (t : TypeId) (fr : Nat × Nat), τ t → A.heap[k]? = some (.cells cs t fr) → B.heap[k]? = some (.cells cs t fr)

theorem KeptT.refl (τ : TypeId → Prop) (A : World) : KeptT τ A A := fun _ _ _ _ _ h => h
theorem KeptT.trans {τ : TypeId → Prop} {A B C : World} (h : KeptT τ A B) (k : KeptT τ B C) : KeptT τ A C := fun i cs t fr ht hi => k i cs t fr ht (h i cs t fr ht hi)
theorem KeptT.none {A B : World} : KeptT (fun _ => False) A B := fun _ _ _ _ h _ => h.elim
theorem KeptT.of_grownBy {τ : TypeId → Prop} {A B : World} {row : Option Nat} (hg : A.grownBy B row) (hr : ∀ (j : Nat) (cs : Array Value) (t : TypeId) (fr : Nat × Nat), row = some j → A.heap[j]? = some (.cells cs t fr) → ¬ τ t) : KeptT τ A B := fun k cs t fr ht hk => by
  refine (hg.block k (Array.getElem?_eq_some_iff.1 hk).1 (fun e => ?_)).trans hk
  exact hr k cs t fr e.symm hk ht
theorem KeptT.of_below {τ : TypeId → Prop} {A B : World} (h : Below A.heap.size A B) : KeptT τ A B := fun k cs t fr _ hk => (h.block k (Array.getElem?_eq_some_iff.1 hk).1).trans hk

theorem KeptT.row {τ : TypeId → Prop} {A B : World} {b e size n : Nat} {v : Value} {xs : List Value} (h : A.ownsRow b e size v n xs) (hg : A.grownBy B v.ownBlock) (hne : ¬ τ e) : KeptT τ A B := KeptT.of_grownBy hg fun j cs t fr ej hj => by
  rcases h.2 with ⟨h1, _⟩ | ⟨g, c, cur, h1, _, h3, _⟩
  · rw [h1] at ej; simp [Value.ownBlock] at ej
  · rw [h1] at ej; simp [Value.ownBlock] at ej; subst ej
    rw [h3] at hj; cases hj; exact hne
theorem KeptT.setCell {τ : TypeId → Prop} {A : World} {b : Nat} {cs : Array Value} {t : TypeId} {fr : Nat × Nat} (h : A.heap[b]? = some (.cells cs t fr)) (hne : ¬ τ t) (j : Nat) (v : Value) : KeptT τ A (A.setCell ⟨b, j, Option.none⟩ v) := fun k cs' t' fr' ht hk => by
  refine (Below.heap_setCell A ⟨b, j, Option.none⟩ v k (fun e => ?_)).trans hk
  simp only at e
  subst e
  rw [h] at hk; cases hk; exact hne ht
theorem others_row {A B : World} {b e size n : Nat} {v : Value} {xs : List Value} (h : A.ownsRow b e size v n xs) (hg : A.grownBy B v.ownBlock) : KeepsOthers A B := KeepsOthers.of_grownBy hg fun j o ej hj => by
  rcases h.2 with ⟨h1, _⟩ | ⟨g, c, cur, h1, _, h3, _⟩
  · rw [h1] at ej; simp [Value.ownBlock] at ej
  · rw [h1] at ej; simp [Value.ownBlock] at ej; subst ej
    rw [h3] at hj; cases hj; rfl

/-- What a round keeps that goes on. -/
def Kept (n₀ : Nat) (τ : TypeId → Prop) (A B : World) : Prop := Below n₀ A B ∧ KeptT τ A B
theorem Kept.refl (n₀ : Nat) (τ : TypeId → Prop) (A : World) : Kept n₀ τ A A := ⟨Below.refl _ _, KeptT.refl _ _⟩
theorem Kept.trans {n₀ : Nat} {τ : TypeId → Prop} {A B C : World} (h : Kept n₀ τ A B) (k : Kept n₀ τ B C) : Kept n₀ τ A C := ⟨h.1.trans k.1, h.2.trans k.2⟩
/-- The turn of a record. -/
theorem Kept.putObj {n₀ : Nat} {τ : TypeId → Prop} (A : World) {l : Nat} {o : Obj} (o' : Obj) (hl : A.heap[l]? = some o) (ho : o.isCells = false) (hn : n₀ ≤ l) : Kept n₀ τ A (A.putObj l o') := by
  have hlt := (Array.getElem?_eq_some_iff.1 hl).1
  refine ⟨(Below.refl n₀ A).grown (grownBy_putObj' A l o') (by omega) (fun k e => by cases e; exact hn), KeptT.of_grownBy (grownBy_putObj' A l o') fun j cs t fr e hj => ?_⟩
  cases e
  rw [hl] at hj
  cases hj
  cases ho
theorem Kept.of_below {n₀ : Nat} {τ : TypeId → Prop} {A B : World} (h : Below A.heap.size A B) (hn : n₀ ≤ A.heap.size) : Kept n₀ τ A B := ⟨h.mono hn, KeptT.of_below h⟩

theorem grown_of_below {A B : World} (h : Below A.heap.size A B) (row : Option Nat) : A.grownBy B row := ⟨h.os, h.tape, h.output, h.size, fun k hk _ => h.block k hk⟩
theorem KeepsFrom.of_below {m : Nat} {A B : World} (h : Below A.heap.size A B) : KeepsFrom m A B := ⟨h.size, fun k o _ hk _ => (h.block k (Array.getElem?_eq_some_iff.1 hk).1).trans hk⟩
theorem KeepsFrom.mono {m m' : Nat} {A B : World} (h : KeepsFrom m A B) (hm : m ≤ m') : KeepsFrom m' A B := ⟨h.size, fun k o hk h1 h2 => h.same k o (Nat.le_trans hm hk) h1 h2⟩
theorem OwnFrom.below {β : Type} {B : Nat} {I : β → World → Prop} (h : OwnFrom B I) {s : β} {A C : World} (hs : I s A) (hb : Below A.heap.size A C) : I s C :=
  h s A C Option.none hs (grown_of_below hb _) (fun r e => by cases e)
theorem OwnFrom.mono {β : Type} {B B' : Nat} {I : β → World → Prop} (h : OwnFrom B I) (hB : B ≤ B') : OwnFrom B' I := fun s W W' row hs hg hr => h s W W' row hs hg (fun r e => ⟨Nat.le_trans hB (hr r e).1, (hr r e).2⟩)

/-- What is asked of an iterator's function. -/
def Tells {α : Type} (P : Program) (g : Nat) (lb : Array Value) (encs : α → Array Value) (V : List α → α → World → Prop) (n₀ : Nat) (τ : TypeId → Prop) (S Sp : List α → Prop) (w : World) : Prop :=
  ∀ (l : Nat) (J Jx : List α → World → Prop) (W : World), Below w.heap.size w W → OwnFrom W.heap.size J → OwnFrom W.heap.size Jx →
    (∀ pre x W1, J pre W1 → V pre x W1 → YieldAt Fence.wide 0 P l (encs x) W1 fun e W' =>
      KeepsFrom W.heap.size W1 W' ∧ ((e = .returned (.bool true) ∧ J (pre ++ [x]) W' ∧ Kept n₀ τ W1 W') ∨ (e = .returned (.bool false) ∧ Jx (pre ++ [x]) W'))) →
    J [] W →
    CallsIn Fence.wide 0 P g (#[.func (.yield l) #[] #[]] ++ lb) W fun e W' => (∃ v, e = .returned v) ∧ ((∃ xs, S xs ∧ J xs W') ∨ (∃ pre, Sp pre ∧ Jx pre W'))

/-- A loop over such an iterator. -/
theorem wp_tells {α : Type} {P : Program} {g : Operand} {ps : Array Tmp} {assign body : Code} {Q : Exit → Act → World → Prop} {a : Act} {w : World} {gf : Nat} {lb : Array Value}
    (hg : a.eval g = .func (.func gf) #[] lb) (eg : ∀ args w, (callFunc gf args).run P w = .ok (.enter gf args) w)
    {encs : α → Array Value} {V : List α → α → World → Prop} {n₀ : Nat} {τ : TypeId → Prop} {S Sp : List α → Prop} (hseq : Tells P gf lb encs V n₀ τ S Sp w) (hn : n₀ ≤ w.heap.size) (hps : ∀ x, (encs x).size = ps.size)
    (I : List α → World → Prop) (Ix : Code → List α → World → Prop) (hI : OwnFrom w.heap.size I) (hIx : ∀ c, OwnFrom w.heap.size (Ix c)) (h0 : I [] w)
    (Ax : List α → α → Act → World → Prop) (hAx : ∀ pre x a', OwnFrom w.heap.size (fun (_ : Unit) W => Ax pre x a' W))
    (hassign : ∀ (l : Nat) (pre : List α) (x : α) (W : World) (K : Act → World → Prop), I pre W → V pre x W → (∀ a' W', KeepsFrom w.heap.size W W' → Kept n₀ τ W W' → I pre W' → Ax pre x a' W' → K a' W') →
      assign.wpIn (Fence.wide.inRound l) 0 P (Exit.then K (fun _ _ _ => False)) { tmps := (ps.zip (encs x)).foldl (fun t (p, v) => t.setIfInBounds p v) a.tmps, defers := [] } W)
    (hbody : ∀ (l : Nat) (pre : List α) (x : α) (a' : Act) (W : World), w.heap.size ≤ l → (∃ r, W.heap[l]? = some (.loop r)) → I pre W → Ax pre x a' W → body.wpIn (Fence.wide.inRound l) 0 P (ownPostG w.heap.size (Kept n₀ τ) I Ix (pre ++ [x]) W) a' W)
    (hdone : ∀ (D : Nat) (xs : List α) (W : World), w.heap.size ≤ D → S xs → I xs W → W.heap[D]? = some (.deferred (some [])) → Q .normal { a with defers := { target := .collected D, args := #[] } :: a.defers } W)
    (hstop : ∀ (D : Nat) (c : Code) (pre : List α) (W : World), w.heap.size ≤ D → Sp pre → Ix c pre W → W.heap[D]? = some (.deferred (some [])) → c.wpIn Fence.wide 0 P Q { a with defers := { target := .collected D, args := #[] } :: a.defers } W) :
    (Code.rangeFunc g ps assign body).wpIn Fence.wide 0 P Q a w := by
  refine wpIn_rangeFunc fun fn hfn => ?_
  -- the block for deferred calls lies at D, the loop's record at D + 1
  generalize hD : w.heap.size = D at *
  let rec_ : LoopState → Option Code → Obj := fun st pe => .loop { state := st, pending := pe, fn, tmps := a.tmps, params := ps, assign, body, defers := D }
  have hrecC : ∀ st pe, (rec_ st pe).isCells = false := fun _ _ => rfl
  let W0 : World := (w.alloc (.deferred (some []))).alloc (rec_ .ready none)
  have hsz0 : W0.heap.size = D + 2 := by show ((w.alloc _).alloc _).heap.size = _; simp [hD]
  have hrun : (Instr.enterLoop fn a.tmps ps assign body Fence.wide.round).run P w = .ok (D + 1, [{ target := .collected D, args := #[] }]) W0 := by
    have := run_enterLoop_outer (P := P) (w := w) fn a.tmps ps assign body
    rw [hD] at this
    exact this
  have hrec0 : W0.heap[D + 1]? = some (rec_ .ready none) := by
    have := World.alloc_heap_new (w.alloc (.deferred (some []))) (rec_ .ready none)
    rw [World.size_alloc, hD] at this
    exact this
  have hdef0 : W0.heap[D]? = some (.deferred (some [])) := by
    have := World.alloc_heap_new w (.deferred (some []))
    rw [hD] at this
    exact (Below.heap_alloc _ _ _ (by simp [hD])).trans this
  have hbel0 : Below w.heap.size w W0 := ((Below.refl _ w).alloc (Nat.le_refl _) _).alloc (by simp) _
  refine ⟨D + 1, [{ target := .collected D, args := #[] }], W0, { target := .fn (.func gf) lb, args := #[.func (.yield (D + 1)) #[] #[]] }, W0, gf, #[.func (.yield (D + 1)) #[] #[]] ++ lb, W0, hrun, ?_, fun _ _ => trivial, ?_, (fun h => by cases h), ?_⟩
  · simp only [resolve, hg]; simp [go_sem]
  · simp [invoke, go_sem, eg]
  -- what holds between two rounds: the caller's word, and the two blocks of the loop
  have hnew : ∀ {k : Nat}, W0.heap.size ≤ k → D ≤ k ∧ k ≠ D + 1 ∧ k ≠ D := fun h => by rw [hsz0] at h; exact ⟨by omega, by omega, by omega⟩
  have stays : ∀ {A B : World} {row : Option Nat} {k : Nat} {o : Obj}, A.grownBy B row → (∀ r, row = some r → W0.heap.size ≤ r ∧ ∃ o : Obj, A.heap[r]? = some o ∧ o.isCells = false) → k < D + 2 → A.heap[k]? = some o → B.heap[k]? = some o := fun hgr hr hk h =>
    (hgr.block _ (Array.getElem?_eq_some_iff.1 h).1 (fun e => by have := (hr _ e.symm).1; rw [hsz0] at this; omega)).trans h
  refine (hseq (D + 1) (fun pre W => I pre W ∧ W.heap[D + 1]? = some (rec_ .ready none) ∧ W.heap[D]? = some (.deferred (some [])))
    (fun pre W => ∃ c, Ix c pre W ∧ W.heap[D + 1]? = some (rec_ .done (some c)) ∧ W.heap[D]? = some (.deferred (some []))) W0 hbel0 ?_ ?_ ?_ ⟨OwnFrom.below hI h0 hbel0, hrec0, hdef0⟩).mono ?_
  · intro s A B row hs hgr hr
    exact ⟨hI s A B row hs.1 hgr (fun r e => ⟨(hnew (hr r e).1).1, (hr r e).2⟩), stays hgr hr (by omega) hs.2.1, stays hgr hr (by omega) hs.2.2⟩
  · rintro s A B row ⟨c, hc, h1, h2⟩ hgr hr
    exact ⟨c, hIx c s A B row hc hgr (fun r e => ⟨(hnew (hr r e).1).1, (hr r e).2⟩), stays hgr hr (by omega) h1, stays hgr hr (by omega) h2⟩
  · -- a round
    rintro pre x W ⟨hi, hl, hk⟩ hV
    have hy := run_yield (P := P) (args := encs x) hl (hps x)
    refine ⟨fn, _, assign, body, hy, roundIn_of_wpIn hfn (hassign _ pre x W _ hi hV ?_)⟩
    intro a' Wa hkf hkp hia hax
    have hla := hkf.same _ _ (by omega) hl rfl
    have hka := hkf.same _ _ (Nat.le_refl _) hk rfl
    have hlt : D + 1 < Wa.heap.size := (Array.getElem?_eq_some_iff.1 hla).1
    refine ⟨_, run_beginRound hla rfl, ?_⟩
    have hlb : (Wa.putObj (D + 1) (rec_ .busy none)).heap[D + 1]? = some (rec_ .busy none) := World.putObj_heap_same hlt
    have hkb : (Wa.putObj (D + 1) (rec_ .busy none)).heap[D]? = some (.deferred (some [])) := (World.putObj_heap_other (by omega)).trans hka
    have kpb : Kept n₀ τ W (Wa.putObj (D + 1) (rec_ .busy none)) := hkp.trans (Kept.putObj Wa _ hla rfl (by omega))
    have put_from : ∀ (A : World) (o : Obj), KeepsFrom W0.heap.size A (A.putObj (D + 1) o) := fun A o => KeepsFrom.of_grownBy (grownBy_putObj' A (D + 1) o) (fun j e => by cases e; rw [hsz0]; omega)
    have kfb : KeepsFrom W0.heap.size W (Wa.putObj (D + 1) (rec_ .busy none)) := (KeepsFrom.mono hkf (by rw [hsz0]; omega)).trans (put_from Wa _)
    refine wpIn_mono (hbody _ pre x a' _ (by omega) ⟨_, hlb⟩ (hI.putObj _ hia (by omega) hla rfl) ((hAx pre x a').putObj (s := ()) _ hax (by omega) hla rfl)) ?_
    have leave : ∀ (j : Option Code) (W3 : World), KeepsFrom D (Wa.putObj (D + 1) (rec_ .busy none)) W3 →
        (Instr.endRound (D + 1) j).run P W3 = .ok (.bool j.isNone) (W3.putObj (D + 1) (rec_ (if j.isNone then .ready else .done) j)) ∧ W3.heap[D + 1]? = some (rec_ .busy none) ∧
        (W3.putObj (D + 1) (rec_ (if j.isNone then .ready else .done) j)).heap[D + 1]? = some (rec_ (if j.isNone then .ready else .done) j) ∧ (W3.putObj (D + 1) (rec_ (if j.isNone then .ready else .done) j)).heap[D]? = some (.deferred (some [])) ∧
        KeepsFrom W0.heap.size W (W3.putObj (D + 1) (rec_ (if j.isNone then .ready else .done) j)) := fun j W3 h3 => by
      have hl3 := h3.same _ _ (by omega) hlb rfl
      exact ⟨run_endRound (P := P) j hl3, hl3, World.putObj_heap_same (Array.getElem?_eq_some_iff.1 hl3).1, (World.putObj_heap_other (by omega)).trans (h3.same _ _ (Nat.le_refl _) hkb rfl),
        (kfb.trans (KeepsFrom.mono h3 (by rw [hsz0]; omega))).trans (put_from W3 _)⟩
    rintro e a3 W3 hp
    cases e with
    | normal =>
      obtain ⟨h3, kp3, hi3⟩ := hp
      obtain ⟨hr, hl3, hl4, hk4, kf4⟩ := leave none W3 h3
      exact ⟨_, _, hr, kf4, .inl ⟨rfl, ⟨hI.putObj _ hi3 (by omega) hl3 rfl, hl4, hk4⟩, (kpb.trans kp3).trans (Kept.putObj W3 _ hl3 rfl (by omega))⟩⟩
    | ret =>
      obtain ⟨h3, hi3⟩ := hp
      obtain ⟨hr, hl3, hl4, hk4, kf4⟩ := leave (some .ret) W3 h3
      exact ⟨_, _, hr, kf4, .inr ⟨rfl, .ret, (hIx _).putObj _ hi3 (by omega) hl3 rfl, hl4, hk4⟩⟩
    | exit id =>
      obtain ⟨h3, hi3⟩ := hp
      obtain ⟨hr, hl3, hl4, hk4, kf4⟩ := leave (some (.exit id)) W3 h3
      exact ⟨_, _, hr, kf4, .inr ⟨rfl, .exit id, (hIx _).putObj _ hi3 (by omega) hl3 rfl, hl4, hk4⟩⟩
    | goto t =>
      obtain ⟨h3, hi3⟩ := hp
      obtain ⟨hr, hl3, hl4, hk4, kf4⟩ := leave (some (.goto t)) W3 h3
      exact ⟨_, _, hr, kf4, .inr ⟨rfl, .goto t, (hIx _).putObj _ hi3 (by omega) hl3 rfl, hl4, hk4⟩⟩
    | panic ch => exact hp.elim
    | outgrown => exact hp.elim
  · -- behind the iterator's call
    rintro e W2 ⟨⟨v, rfl⟩, ⟨xs, hS, hi, hl, hk⟩ | ⟨pre, hSp, c, hi, hl, hk⟩⟩
    · exact ⟨none, _, run_endLoop (P := P) hl (by simp), hdone _ xs _ (Nat.le_refl _) hS (hI.putObj _ hi (by omega) hl rfl) ((World.putObj_heap_other (by omega)).trans hk)⟩
    · exact ⟨some c, _, run_endLoop (P := P) hl (by simp), hstop _ c pre _ (Nat.le_refl _) hSp ((hIx c).putObj _ hi (by omega) hl rfl) ((World.putObj_heap_other (by omega)).trans hk)⟩

end Go.Proofs.YtjjoggpddafajaaGreat

/-
  Boxes of one cell, and what lies below, over worlds that grow: small lemmas for loops over functions. No condition but what each names.
-/
namespace Go.Proofs.YtjjoggpddafajaaGreat
open Go.RowKit

theorem cellsStay {W W' : World} {row : Option Nat} {k B : Nat} {cs : Array Value} {t : TypeId} {fr : Nat × Nat} (h : W.heap[k]? = some (.cells cs t fr)) (hg : W.grownBy W' row) (hr : ∀ r, row = some r → B ≤ r ∧ ∃ o : Obj, W.heap[r]? = some o ∧ o.isCells = false) : W'.heap[k]? = some (.cells cs t fr) :=
  (hg.block k (Array.getElem?_eq_some_iff.1 h).1 (fun e => by
    obtain ⟨_, o, ho, hc⟩ := hr k e.symm
    rw [h] at ho; cases ho; cases hc)).trans h
theorem belowStay {n₀ : Nat} {w W W' : World} {row : Option Nat} {B : Nat} (h : Below n₀ w W) (hn : n₀ ≤ w.heap.size) (hB : n₀ ≤ B) (hg : W.grownBy W' row) (hr : ∀ r, row = some r → B ≤ r ∧ ∃ o : Obj, W.heap[r]? = some o ∧ o.isCells = false) : Below n₀ w W' :=
  h.grown hg (Nat.le_trans hn h.size) (fun k e => Nat.le_trans hB (hr k e).1)
theorem oneCell {w : World} {g T : Nat} {v : Value} (h : w.heap[g]? = some (.cells #[v] T (0, 0))) : w.cell? ⟨g, 0, none⟩ = some v ∧ w.frozen? ⟨g, 0, none⟩ = false := by
  constructor <;> simp [World.cell?, World.frozen?, h]
theorem oneSet {w : World} {g T : Nat} {v : Value} (h : w.heap[g]? = some (.cells #[v] T (0, 0))) (u : Value) : (w.setCell ⟨g, 0, none⟩ u).heap[g]? = some (.cells #[u] T (0, 0)) := by
  simp [World.setCell, Array.getElem?_modify, h]
theorem setFar {w : World} {g k : Nat} {o : Obj} (h : w.heap[k]? = some o) (hne : k ≠ g) (i : Nat) (u : Value) : (w.setCell ⟨g, i, none⟩ u).heap[k]? = some o := (Below.heap_setCell _ _ _ _ (by simpa using hne)).trans h
theorem allocAt (w : World) (o : Obj) (k : Nat) : (w.alloc o).heap[k]? = if k = w.heap.size then some o else w.heap[k]? := by
  show (w.heap.push o)[k]? = _
  rw [Array.getElem?_push]
theorem allocOld {w : World} {k : Nat} {x : Obj} (h : w.heap[k]? = some x) (o : Obj) : (w.alloc o).heap[k]? = some x := (Below.heap_alloc _ _ _ (Array.getElem?_eq_some_iff.1 h).1).trans h
theorem allocNew (w : World) (o : Obj) {n : Nat} (h : w.heap.size = n) : (w.alloc o).heap[n]? = some o := by rw [allocAt, if_pos h.symm]

end Go.Proofs.YtjjoggpddafajaaGreat

/-
  Enums of the layer grammar, and what its iterator tells: the numbers and names of a letter's enumerants, in order.
-/
namespace Go.Proofs.YtjjoggpddafajaaGreat
open Go.RowKit Go.Shelf Go.Lib
set_option maxRecDepth 10000
attribute [local go_sem] Oper.semAt_some
set_option linter.unusedVariables false
set_option linter.unusedSimpArgs false

/-- What has been read of a letter's text: the number, where the name begins, what has been told. -/
abbrev EtSt := Int × Int × List (Int × ByteArray)

def etStep (s : ByteArray) (k : Nat) (c : Int) (x : EtSt) : EtSt :=
  match x with
  | (num, nf, out) =>
    if c = 59 then (0, 0, out ++ [(num, s.extract nf.toNat k)])
    else if c = 58 then (num, k + 1, out)
    else if nf = 0 then (10 * num + (c - 48), nf, out)
    else (num, nf, out)
def etTo (s : ByteArray) : Nat → EtSt
  | 0 => (0, 0, [])
  | k + 1 => etStep s k (sgn s k) (etTo s k)

def etOk (k : Nat) (c : Int) (x : EtSt) : Bool :=
  decide (c < 128 ∧ 0 ≤ c ∧ 0 ≤ x.1 ∧ x.1 ≤ 1000 ∧ 0 ≤ x.2.1 ∧ x.2.1 ≤ k ∧ (x.2.1 = 0 → c ≠ 59 → c ≠ 58 → 48 ≤ c))
def goodE (s : ByteArray) : Bool := (List.range s.size).all fun k => etOk k (sgn s k) (etTo s k)
theorem goodE_at {s : ByteArray} (h : goodE s = true) {k : Nat} (hk : k < s.size) : etOk k (sgn s k) (etTo s k) = true := List.all_eq_true.1 h k (List.mem_range.2 hk)

theorem et_grows (s : ByteArray) (k : Nat) : (etTo s k).2.2 <+: (etTo s (k + 1)).2.2 := by
  rw [etTo]
  generalize etTo s k = x
  obtain ⟨num, nf, out⟩ := x
  unfold etStep
  dsimp only
  split
  · exact ⟨_, rfl⟩
  · split
    · exact List.prefix_refl _
    · split <;> exact List.prefix_refl _
theorem et_le (s : ByteArray) (k d : Nat) : (etTo s k).2.2 <+: (etTo s (k + d)).2.2 := by
  induction d with
  | zero => exact List.prefix_refl _
  | succ d ih => exact ih.trans (et_grows s (k + d))
theorem et_prefix (s : ByteArray) {k m : Nat} (h : k ≤ m) : (etTo s k).2.2 <+: (etTo s m).2.2 := by
  have := et_le s k (m - k)
  rwa [show k + (m - k) = m by omega] at this

/-- The enumerants of a letter. -/
def enumsL (c : Int) : List (Int × ByteArray) := (namesT.filter (isLet c)).map (·.2)

def enumRowOk (p : Int × ByteArray) : Bool := goodE p.2 && decide (p.2.size ≤ 1000) && decide ((etTo p.2 p.2.size).2.2 = enumsL p.1)
theorem enumRows_ok : enumT.all enumRowOk = true := by decide +kernel

theorem lookT_or : ∀ (l : List (Int × ByteArray)) (n : Int), (n, lookT l n) ∈ l ∨ (lookT l n = ⟨#[]⟩ ∧ ∀ k s, (k, s) ∈ l → n ≠ k)
  | [], n => .inr ⟨rfl, fun _ _ h => by cases h⟩
  | (k, s) :: l, n => by
    rw [lookT]
    split
    · rename_i e; subst e; exact .inl List.mem_cons_self
    · rename_i e
      rcases lookT_or l n with h | ⟨h, h2⟩
      · exact .inl (List.mem_cons_of_mem _ h)
      · refine .inr ⟨h, fun k' s' hm => ?_⟩
        rcases List.mem_cons.1 hm with e' | hm
        · cases e'; exact e
        · exact h2 k' s' hm

theorem etext_ok (c : Int) : goodE (lookT enumT c) = true ∧ (lookT enumT c).size ≤ 1000 ∧ (etTo (lookT enumT c) (lookT enumT c).size).2.2 = enumsL c := by
  rcases lookT_or enumT c with h | ⟨h, h2⟩
  · have := List.all_eq_true.1 enumRows_ok _ h
    simp only [enumRowOk, Bool.and_eq_true, decide_eq_true_eq] at this
    exact ⟨this.1.1, this.1.2, this.2⟩
  · rw [h]
    refine ⟨by decide +kernel, by decide, ?_⟩
    have e : namesT.filter (isLet c) = [] := by
      rw [List.filter_eq_nil_iff]
      intro x hx hc
      have h0 := letters_ok
      simp only [lettersOk, Bool.and_eq_true] at h0
      obtain ⟨p, hp, e⟩ := List.any_eq_true.1 (List.all_eq_true.1 h0.1.1 x hx)
      have e := of_decide_eq_true e
      have hc : x.1 = c := by simpa [isLet] using hc
      exact h2 p.1 p.2 hp (by rw [e, hc])
    unfold enumsL
    rw [e]; rfl

theorem enums_any (c : Int) (w : World) :
    Calls Tryz.prog 103 #[.int .u8 c] w fun e w' => e = .returned (.func (.func 105) #[] #[.pointer (some ⟨w.heap.size, 0, none⟩)]) ∧ w.alloc (.cells #[.int .u8 c] 5) = w' := by
  go_enter Tryz.func103, Tryz.ntmps103
  go_wp2
  go_ret
  exact ⟨rfl, rfl⟩

/-- What is told of an enumerant. -/
def enumV (x : Int × ByteArray) : Array Value := #[.int .u32 x.1, .string x.2]

theorem iterAt_put (w : World) (k : Nat) (s : ByteArray) (pos : Nat) : w.iterAt k s pos = w.putObj k (.stringIter s pos) := rfl

set_option maxRecDepth 100000 in
set_option maxHeartbeats 2000000 in
theorem enums_tells (c : Int) (n0 : Nat) (τ : TypeId → Prop) (w : World) (B : Nat) (hB : w.heap[B]? = some (.cells #[.int .u8 c] 5 (0, 0))) :
    Tells Tryz.prog 105 #[.pointer (some ⟨B, 0, none⟩)] enumV (fun pre x _ => pre ++ [x] <+: enumsL c) n0 τ (fun xs => xs = enumsL c) (fun pre => pre <+: enumsL c) w := by
  intro l J Jx W hW hJ hJx hY h0
  have hBW : W.heap[B]? = some (.cells #[.int .u8 c] 5 (0, 0)) := (hW.block B (Array.getElem?_eq_some_iff.1 hB).1).trans hB
  have hbx : W.cell? ⟨B, 0, none⟩ = some (.int .u8 c) := by simp [World.cell?, hBW]
  obtain ⟨hg, hs, hE⟩ := etext_ok c
  have hT := fun w => enumText_any c w
  generalize lookT enumT c = s at *
  have HG : Hid (goodE s = true) := hg
  have HE : Hid ((etTo s s.size).2.2 = enumsL c) := hE
  clear hg hE hB hW hBW
  refine callsIn_of_wp Tryz.func105 rfl trivial ?_ rfl
  simp only [Tryz.ntmps105, List.size_toArray, List.length_cons, List.length_nil, Nat.reduceAdd, Nat.reduceSub, Array.replicate_succ, Array.replicate_zero, List.push_toArray, List.append_toArray, List.nil_append, List.cons_append]
  gi_wp2_with fail
  refine ⟨trivial, rfl, (callsIn_wide.2 (hT _)).mono ?_⟩
  rintro e w' ⟨rfl, rfl⟩
  clear hT
  gi_wp2
  gi_loopw [4, 5] (fun a b wr => ∃ k : Nat, k ≤ s.size ∧ a = .int .u32 (etTo s k).1 ∧ b = .int .i64 (etTo s k).2.1 ∧ J (etTo s k).2.2 wr ∧ wr.heap[W.heap.size]? = some (.stringIter s k)) (fun _ _ wr => left W.heap.size s.size wr)
  case atStart => exact ⟨0, Nat.zero_le _, rfl, rfl, hJ.alloc _ h0, heap_alloc_new W _⟩
  case round =>
    obtain ⟨k, hk, rfl, rfl, hJs, hit⟩ := hrel
    clear h0 hbx
    have HL : Hid (left W.heap.size s.size wr = s.size - k) := left_at hit
    by_cases hlt : k < s.size
    · have hok := goodE_at HG.out hlt
      have HS : Hid (etTo s (k + 1) = etStep s k (sgn s k) (etTo s k)) := rfl
      have hsg := sgn_at s k hlt
      have HPX : Hid ((etTo s (k + 1)).2.2 <+: enumsL c) := by show _ <+: _; rw [← HE.out]; exact et_prefix s hlt
      generalize sgn s k = ch at *
      generalize hrd : etTo s k = x at *
      obtain ⟨num, nf, out⟩ := x
      simp only [etOk, decide_eq_true_eq] at hok
      obtain ⟨o1, o2, o3, o4, o5, o6, o7⟩ := hok
      have hnx := fun ty => run_next_ascii_at (P := Tryz.prog) _ _ s k ty hit hlt (by omega)
      rw [hsg] at hnx
      obtain ⟨W1, hW1⟩ : ∃ X, X = wr.iterAt W.heap.size s (k + 1) := ⟨_, rfl⟩
      rw [← hW1] at hnx
      have i1 : W1.heap[W.heap.size]? = some (.stringIter s (k + 1)) := by rw [hW1]; exact iterAt_heap _ _ _ _ _ hit
      have hJ1 : J out W1 := by rw [hW1, iterAt_put]; exact hJ.putObj _ hJs (Nat.le_refl _) hit rfl
      have HI : Hid (W1.heap[W.heap.size]? = some (.stringIter s (k + 1))) := i1
      have HJ1 : Hid (J out W1) := hJ1
      clear hW1 hit hJs hsg hrd i1 hJ1
      by_cases h59 : ch = 59
      · subst h59
        have HN : Hid (etTo s (k + 1) = (0, 0, out ++ [(num, s.extract nf.toNat k)])) := by show _ = _; rw [HS.out]; simp [etStep]
        have hpx := HPX.out
        rw [HN.out] at hpx
        obtain ⟨fn, tmps, assign, body, hy, hR⟩ := hY out (num, s.extract nf.toNat k) W1 HJ1.out hpx
        simp only [enumV] at hy
        clear HS hpx o7 HPX
        gi_wp2_with fail
        refine ⟨rfl, hR.mono ?_⟩
        rintro e W3 ⟨hkf, ⟨rfl, hJ3, hk3⟩ | ⟨rfl, hJx3⟩⟩
        · have HI3 : Hid (W3.heap[W.heap.size]? = some (.stringIter s (k + 1))) := hkf.same _ _ (Nat.le_refl _) HI.out rfl
          have HJ3 : Hid (J (out ++ [(num, s.extract nf.toNat k)]) W3) := hJ3
          clear hy hR hY hkf hk3 hJ3
          gi_wp2
          go_roundw
          case rel => exact ⟨k + 1, by omega, by rw [HN.out], by rw [HN.out], by rw [HN.out]; exact HJ3.out, HI3.out⟩
          case measure => rw [HL.out, left_at HI3.out]; omega
        · have hp : out ++ [(num, s.extract nf.toNat k)] <+: enumsL c := by have := et_prefix s hlt; rw [HN.out] at this; rw [← HE.out]; exact this
          have HP : Hid (out ++ [(num, s.extract nf.toNat k)] <+: enumsL c) := hp
          clear hy hR hY hkf hp
          gi_wp2
          refine bodyPost_ret (results_none rfl _ _ _) rfl ?_
          exact ⟨⟨_, rfl⟩, .inr ⟨_, HP.out, hJx3⟩⟩
      · have h59' : (ch == 59) = false := by simpa using h59
        clear hY
        by_cases h58 : ch = 58
        · subst h58
          have HN : Hid (etTo s (k + 1) = (num, (k : Int) + 1, out)) := by show _ = _; rw [HS.out]; simp [etStep]
          clear HS o7 HPX h59
          gi_wp2
          go_roundw
          case rel => exact ⟨k + 1, by omega, by rw [HN.out], by rw [HN.out], by rw [HN.out]; exact HJ1.out, HI.out⟩
          case measure => rw [HL.out, left_at HI.out]; omega
        · have h58' : (ch == 58) = false := by simpa using h58
          by_cases hn : nf = 0
          · subst hn
            have hd := o7 rfl h59 h58
            have HN : Hid (etTo s (k + 1) = (10 * num + (ch - 48), 0, out)) := by show _ = _; rw [HS.out]; simp [etStep, h59, h58]
            clear HS o7 HPX h59 h58 o6 o5
            gi_wp2
            go_roundw
            case rel => exact ⟨k + 1, by omega, by rw [HN.out], by rw [HN.out], by rw [HN.out]; exact HJ1.out, HI.out⟩
            case measure => rw [HL.out, left_at HI.out]; omega
          · have hn' : (nf == 0) = false := by simpa using hn
            have HN : Hid (etTo s (k + 1) = (num, nf, out)) := by show _ = _; rw [HS.out]; simp [etStep, h59, h58, hn]
            clear HS o7 HPX h59 h58 hn
            gi_wp2
            go_roundw
            case rel => exact ⟨k + 1, by omega, by rw [HN.out], by rw [HN.out], by rw [HN.out]; exact HJ1.out, HI.out⟩
            case measure => rw [HL.out, left_at HI.out]; omega
    · have hnx := fun ty => run_next_end_at (P := Tryz.prog) _ _ s k ty hit hlt
      obtain rfl : k = s.size := by omega
      have hJe : J (enumsL c) wr := by rw [← HE.out]; exact hJs
      have HJe : Hid (J (enumsL c) wr) := hJe
      generalize etTo s s.size = x at *
      obtain ⟨num, nf, out⟩ := x
      clear hJs hJe hit hY
      gi_wp2
      go_end0
      exact ⟨⟨_, rfl⟩, .inl HJe.out⟩

end Go.Proofs.YtjjoggpddafajaaGreat

/-
  What Enum and EnumNamed of the layer grammar return, for every letter and every number or name.
-/
namespace Go.Proofs.YtjjoggpddafajaaGreat
open Go.RowKit Go.Shelf
set_option maxRecDepth 10000
attribute [local go_sem] Oper.semAt_some
set_option linter.unusedVariables false
set_option linter.unusedSimpArgs false

theorem find_pairs (c : Int) (p : Int × ByteArray → Bool) : (enumsL c).find? p = (namesT.find? (fun y => isLet c y && p y.2)).map (·.2) := by
  unfold enumsL
  rw [List.find?_map, List.find?_filter]
  simp [Bool.decide_and]
theorem enum_list {c n : Int} (h : (enumsL c).find? (fun x => x.1 == n) = none) : enumS c n = ⟨#[]⟩ ∧ enumB c n = false := by
  rw [find_pairs] at h
  have e : namesT.find? (isNum c n) = none := by simpa [isNum, isLet] using h
  simp [enumS, enumB, e]
theorem enum_list_some {c n : Int} {x : Int × ByteArray} (h : (enumsL c).find? (fun x => x.1 == n) = some x) : enumS c n = x.2 ∧ enumB c n = true := by
  rw [find_pairs] at h
  obtain ⟨y, hy, e⟩ := Option.map_eq_some_iff.1 h
  have hy : namesT.find? (isNum c n) = some y := hy
  subst e
  simp [enumS, enumB, hy]
theorem named_list {c : Int} {s : ByteArray} (h : (enumsL c).find? (fun x => x.2.toList == s.toList) = none) : enumN c s = 0 ∧ enumNB c s = false := by
  rw [find_pairs] at h
  have e : namesT.find? (isNam c s) = none := by simpa [isNam, isLet] using h
  simp [enumN, enumNB, e]
theorem named_list_some {c : Int} {s : ByteArray} {x : Int × ByteArray} (h : (enumsL c).find? (fun x => x.2.toList == s.toList) = some x) : enumN c s = x.1 ∧ enumNB c s = true := by
  rw [find_pairs] at h
  obtain ⟨y, hy, e⟩ := Option.map_eq_some_iff.1 h
  have hy : namesT.find? (isNam c s) = some y := hy
  subst e
  simp [enumN, enumNB, hy]

/-- Between two rounds of Enum. -/
def EnumI (n : Int) (w : World) (pre : List (Int × ByteArray)) (W : World) : Prop :=
  (Below w.heap.size w W ∧ w.heap.size + 4 ≤ W.heap.size) ∧ W.heap[w.heap.size]? = some (.cells #[.int .u32 n] 22 (0, 0)) ∧ W.heap[w.heap.size + 1]? = some (.cells #[.string ⟨#[]⟩] 9 (0, 0)) ∧ W.heap[w.heap.size + 2]? = some (.cells #[.bool false] 4 (0, 0)) ∧ ∀ x ∈ pre, (x.1 == n) = false
/-- Behind the round that left. -/
def EnumX (n : Int) (w : World) (c : Code) (pre : List (Int × ByteArray)) (W : World) : Prop :=
  c = .ret ∧ (Below w.heap.size w W ∧ w.heap.size + 4 ≤ W.heap.size) ∧ ∃ (pre' : List (Int × ByteArray)) (x : Int × ByteArray), pre = pre' ++ [x] ∧ (∀ x ∈ pre', (x.1 == n) = false) ∧ (x.1 == n) = true ∧
    W.heap[w.heap.size + 1]? = some (.cells #[.string x.2] 9 (0, 0)) ∧ W.heap[w.heap.size + 2]? = some (.cells #[.bool true] 4 (0, 0))
theorem EnumI_own (n : Int) (w : World) : OwnFrom (w.heap.size + 4) (EnumI n w) := by
  rintro pre W W' row ⟨h1, h2, h3, h4, h5⟩ hg hr
  exact ⟨⟨belowStay h1.1 (Nat.le_refl _) (by omega) hg hr, Nat.le_trans h1.2 hg.size⟩, cellsStay h2 hg hr, cellsStay h3 hg hr, cellsStay h4 hg hr, h5⟩
theorem EnumX_own (n : Int) (w : World) (c : Code) : OwnFrom (w.heap.size + 4) (EnumX n w c) := by
  rintro pre W W' row ⟨h0, h1, pre', x, h2, h3, h4, h5, h6⟩ hg hr
  exact ⟨h0, ⟨belowStay h1.1 (Nat.le_refl _) (by omega) hg hr, Nat.le_trans h1.2 hg.size⟩, pre', x, h2, h3, h4, cellsStay h5 hg hr, cellsStay h6 hg hr⟩

set_option maxRecDepth 100000 in
set_option maxHeartbeats 4000000 in
theorem enum_any (c : Int) (n : Int) (w : World) : Calls Tryz.prog 96 #[.int .u8 c, .int .u32 n] w fun e w' => e = .returned (.tuple #[.string (enumS c n), .bool (enumB c n)]) ∧ Below w.heap.size w w' := by
  refine (callsIn_wide (n := 0)).1 ?_
  refine callsIn_of_wp_marks Tryz.func96 rfl trivial ?_ rfl
  simp only [Tryz.ntmps96, List.size_toArray, List.length_cons, List.length_nil, Nat.reduceAdd, Nat.reduceSub, Array.replicate_succ, Array.replicate_zero, List.push_toArray, List.append_toArray, List.nil_append, List.cons_append]
  gi_wp2_with fail
  refine ⟨trivial, rfl, (callsIn_wide.2 (enums_any c _)).mono ?_⟩
  rintro e w2 ⟨rfl, rfl⟩
  obtain ⟨wL, hwL⟩ : ∃ X, X = ((((w.alloc (.cells #[.int .u32 n] 22)).alloc (.cells #[.string ⟨#[]⟩] 9)).alloc (.cells #[.bool false] 4)).alloc (.cells #[.int .u8 c] 5)) := ⟨_, rfl⟩
  have hsL : wL.heap.size = w.heap.size + 4 := by rw [hwL]; simp
  have hbL : Below w.heap.size w wL := by rw [hwL]; exact (((((Below.refl _ w).alloc (Nat.le_refl _) _).alloc (by simp) _).alloc (by simp; omega) _).alloc (by simp; omega) _)
  have k0 : wL.heap[w.heap.size]? = some (.cells #[.int .u32 n] 22 (0, 0)) := by rw [hwL]; exact allocOld (allocOld (allocOld (allocNew w _ rfl) _) _) _
  have k1 : wL.heap[w.heap.size + 1]? = some (.cells #[.string ⟨#[]⟩] 9 (0, 0)) := by rw [hwL]; exact allocOld (allocOld (allocNew _ _ (by simp)) _) _
  have k2 : wL.heap[w.heap.size + 2]? = some (.cells #[.bool false] 4 (0, 0)) := by rw [hwL]; exact allocOld (allocNew _ _ (by simp)) _
  have k3 : wL.heap[w.heap.size + 3]? = some (.cells #[.int .u8 c] 5 (0, 0)) := by rw [hwL]; exact allocNew _ _ (by simp)
  gi_wp2_with fail
  rw [← hwL]
  clear hwL
  simp only [Nat.add_assoc, Nat.reduceAdd]
  refine wp_tells rfl (enters_of Tryz.func105 (by kernel_rfl) rfl) (enums_tells c w.heap.size (fun _ => False) wL (w.heap.size + 3) k3) (by omega) (fun _ => rfl)
    (EnumI n w) (EnumX n w) (by rw [hsL]; exact EnumI_own n w) (fun c => by rw [hsL]; exact EnumX_own n w c)
    ⟨⟨hbL, by omega⟩, k0, k1, k2, fun q hq => by simp at hq⟩
    (fun pre x a' W => a' = { tmps := #[.int .u8 c, .int .u32 n, undef, .pointer (some ⟨w.heap.size, 0, none⟩), .pointer (some ⟨w.heap.size + 1, 0, none⟩), .pointer (some ⟨w.heap.size + 2, 0, none⟩), .int .u32 x.1, .string x.2, .int .u8 c, .func (.func 105) #[] #[.pointer (some ⟨w.heap.size + 3, 0, none⟩)], .int .u32 x.1, .string x.2, undef, undef, undef, undef], defers := [] })
    ?hAx ?assign ?body ?done ?stop
  case hAx =>
    rintro pre x a' s W W' row h hg hr
    exact h
  case assign =>
    rintro l pre x W K hI hV hK
    simp only [enumV]
    gi_wp2
    exact hK _ _ (KeepsFrom.refl _ _) (Kept.refl _ _ _) hI rfl
  case body =>
    rintro l pre x a' W hl' ⟨r, hr⟩ ⟨⟨h1, hlt⟩, h2, h3, h4, h6⟩ rfl
    obtain ⟨c0, _⟩ := oneCell h2
    obtain ⟨c2, f2⟩ := oneCell h3
    obtain ⟨c3, f3⟩ := oneCell h4
    have go : (x.1 == n) = false → KeepsFrom wL.heap.size W W ∧ Kept w.heap.size (fun _ => False) W W ∧ EnumI n w (pre ++ [x]) W := fun hno =>
      ⟨KeepsFrom.refl _ _, Kept.refl _ _ _, ⟨h1, hlt⟩, h2, h3, h4, fun q hq => by
        rcases List.mem_append.1 hq with h | h
        · exact h6 q h
        · simp at h; subst h; exact hno⟩
    have out : (x.1 == n) = true → KeepsFrom wL.heap.size W ((W.setCell ⟨w.heap.size + 1, 0, none⟩ (.string x.2)).setCell ⟨w.heap.size + 2, 0, none⟩ (.bool true)) ∧ EnumX n w .ret (pre ++ [x]) ((W.setCell ⟨w.heap.size + 1, 0, none⟩ (.string x.2)).setCell ⟨w.heap.size + 2, 0, none⟩ (.bool true)) := fun hyes =>
      ⟨((KeepsOthers.setCell _ _ _).trans (KeepsOthers.setCell _ _ _)).from _, rfl, ⟨(h1.setCell (by simp) _).setCell (by simp) _, by simpa [World.setCell] using hlt⟩, pre, x, rfl, h6, hyes, setFar (oneSet h3 _) (by omega) _ _, oneSet (setFar h4 (by omega) _ _) _⟩
    clear h2 h3 h4 h6 h1
    cases hoe : (x.1 == n) with
    | true =>
      have hyes := out hoe
      clear go out
      gi_wp2
      first | exact hyes | (rw [hsL] at hyes; exact hyes)
    | false =>
      have hno := go hoe
      clear go out
      gi_wp2
      first | exact hno | (rw [hsL] at hno; exact hno)
  case done =>
    rintro D xs W hD rfl ⟨⟨h1, hlt⟩, h2, h3, h4, h6⟩ hK
    have hnone : (enumsL c).find? (fun x => (x.1 == n)) = none := List.find?_eq_none.2 (fun q hq => by rw [h6 q hq]; simp)
    obtain ⟨c2, f2⟩ := oneCell h3
    obtain ⟨c3, f3⟩ := oneCell h4
    obtain ⟨Y, hY⟩ : ∃ Y, Y = (W.setCell ⟨w.heap.size + 1, 0, none⟩ (.string ⟨#[]⟩)).setCell ⟨w.heap.size + 2, 0, none⟩ (.bool false) := ⟨_, rfl⟩
    have hKY : Y.heap[D]? = some (.deferred (some [])) := by rw [hY]; exact ((KeepsOthers.setCell _ _ _).trans (KeepsOthers.setCell _ _ _)).same D _ hK rfl
    have hbY : Below w.heap.size w Y := by rw [hY]; exact (h1.setCell (by simp) _).setCell (by simp) _
    have y2 : Y.heap[w.heap.size + 1]? = some (.cells #[.string ⟨#[]⟩] 9 (0, 0)) := by rw [hY]; exact setFar (oneSet h3 _) (by omega) _ _
    have y3 : Y.heap[w.heap.size + 2]? = some (.cells #[.bool false] 4 (0, 0)) := by rw [hY]; exact oneSet (setFar h4 (by omega) _ _) _
    have hput := grownBy_putObj' Y D (.deferred none)
    have hpr : ∀ r, some D = some r → ∃ o : Obj, Y.heap[r]? = some o ∧ o.isCells = false := fun r e => by cases e; exact ⟨_, hKY, rfl⟩
    have r0 := cell_kept (W := Y) (oneCell y2).1 hput hpr
    have r1 := cell_kept (W := Y) (oneCell y3).1 hput hpr
    have hbE : Below w.heap.size w (Y.putObj D (.deferred none)) := hbY.trans (belowK_b (w := w) (Nat.le_refl _) Y D _ _ (by omega) hKY rfl rfl)
    clear h1 h2 h3 h4 h6 y2 y3 hput hpr hbY
    gi_wp2_with fail
    rw [← hY]
    refine ⟨by simp, .inl ⟨_, _, rfl, run_takeDeferred hKY, ?_⟩⟩
    exact ⟨.tuple #[.string ⟨#[]⟩, .bool false], by simp [results, Tryz.results96, go_sem, r0, r1], by rw [(enum_list hnone).1, (enum_list hnone).2], hbE⟩
  case stop =>
    rintro D c' pre W hD hpre ⟨rfl, ⟨h1, hlt⟩, pre', x, rfl, h3, h4, h5, h6⟩ hK
    have hsome : (enumsL c).find? (fun x => (x.1 == n)) = some x := by
      obtain ⟨s, hs⟩ := hpre
      rw [← hs, List.append_assoc, List.find?_append, List.find?_eq_none.2 (fun q hq => by rw [h3 q hq]; simp)]
      simp [h4]
    have hput := grownBy_putObj' W D (.deferred none)
    have hpr : ∀ r, some D = some r → ∃ o : Obj, W.heap[r]? = some o ∧ o.isCells = false := fun r e => by cases e; exact ⟨_, hK, rfl⟩
    have r0 := cell_kept (W := W) (oneCell h5).1 hput hpr
    have r1 := cell_kept (W := W) (oneCell h6).1 hput hpr
    have hbE : Below w.heap.size w (W.putObj D (.deferred none)) := h1.trans (belowK_b (w := w) (Nat.le_refl _) W D _ _ (by omega) hK rfl rfl)
    clear h1 h5 h6 hput hpr
    gi_wp2_with fail
    refine ⟨by simp, .inl ⟨_, _, rfl, run_takeDeferred hK, ?_⟩⟩
    exact ⟨.tuple #[.string x.2, .bool true], by simp [results, Tryz.results96, go_sem, r0, r1], by rw [(enum_list_some hsome).1, (enum_list_some hsome).2], hbE⟩

/-- Between two rounds of EnumNamed. -/
def EnumNamedI (s : ByteArray) (w : World) (pre : List (Int × ByteArray)) (W : World) : Prop :=
  (Below w.heap.size w W ∧ w.heap.size + 4 ≤ W.heap.size) ∧ W.heap[w.heap.size]? = some (.cells #[.string s] 9 (0, 0)) ∧ W.heap[w.heap.size + 1]? = some (.cells #[.int .u32 0] 22 (0, 0)) ∧ W.heap[w.heap.size + 2]? = some (.cells #[.bool false] 4 (0, 0)) ∧ ∀ x ∈ pre, (x.2.toList == s.toList) = false
/-- Behind the round that left. -/
def EnumNamedX (s : ByteArray) (w : World) (c : Code) (pre : List (Int × ByteArray)) (W : World) : Prop :=
  c = .ret ∧ (Below w.heap.size w W ∧ w.heap.size + 4 ≤ W.heap.size) ∧ ∃ (pre' : List (Int × ByteArray)) (x : Int × ByteArray), pre = pre' ++ [x] ∧ (∀ x ∈ pre', (x.2.toList == s.toList) = false) ∧ (x.2.toList == s.toList) = true ∧
    W.heap[w.heap.size + 1]? = some (.cells #[.int .u32 x.1] 22 (0, 0)) ∧ W.heap[w.heap.size + 2]? = some (.cells #[.bool true] 4 (0, 0))
theorem EnumNamedI_own (s : ByteArray) (w : World) : OwnFrom (w.heap.size + 4) (EnumNamedI s w) := by
  rintro pre W W' row ⟨h1, h2, h3, h4, h5⟩ hg hr
  exact ⟨⟨belowStay h1.1 (Nat.le_refl _) (by omega) hg hr, Nat.le_trans h1.2 hg.size⟩, cellsStay h2 hg hr, cellsStay h3 hg hr, cellsStay h4 hg hr, h5⟩
theorem EnumNamedX_own (s : ByteArray) (w : World) (c : Code) : OwnFrom (w.heap.size + 4) (EnumNamedX s w c) := by
  rintro pre W W' row ⟨h0, h1, pre', x, h2, h3, h4, h5, h6⟩ hg hr
  exact ⟨h0, ⟨belowStay h1.1 (Nat.le_refl _) (by omega) hg hr, Nat.le_trans h1.2 hg.size⟩, pre', x, h2, h3, h4, cellsStay h5 hg hr, cellsStay h6 hg hr⟩

end Go.Proofs.YtjjoggpddafajaaGreat

/-
  What the methods of the package code's form answer: what is wrong with an id, with a word of an argument; whether no argument lacks.
-/
namespace Go.Proofs.YtjjoggpddafajaaGreat
open Go.RowKit
set_option linter.unusedVariables false
set_option linter.unusedSimpArgs false

theorem idFault_any (B : Nat) (n b : Int) (w : World) (h8 : w.cell? ⟨B, 8, none⟩ = some (.int .u32 b)) :
    Calls Tryz.prog 95 #[.pointer (some ⟨B, 0, none⟩), .int .u32 n] w fun e w' => e = .returned (.int .i64 (if noneB n b then 43 else 0)) ∧ w = w' := by
  by_cases h : n = 0
  · subst h
    have e1 : noneB 0 b = true := by simp [noneB]
    rw [e1]
    go_enter Tryz.func95, Tryz.ntmps95
    go_wp2
    go_ret
    exact ⟨rfl, rfl⟩
  · have h' : (n == 0) = false := by simpa using h
    by_cases h1 : b ≤ n
    · have e1 : noneB n b = true := by simp [noneB, h1]
      rw [e1]
      go_enter Tryz.func95, Tryz.ntmps95
      go_wp2
      go_ret
      exact ⟨rfl, rfl⟩
    · have e1 : noneB n b = false := by simp [noneB, h, h1]
      rw [e1]
      go_enter Tryz.func95, Tryz.ntmps95
      go_wp2
      go_ret
      exact ⟨rfl, rfl⟩

/-- What is wrong with the word of an argument of a letter. -/
def faultW (c n b : Int) : Int := if kindI c = 1 then (if noneB n b then 43 else 0) else if kindI c = 4 then (if enumB c n then 0 else 31) else 0

theorem faultW_any (B : Nat) (c n b : Int) (w : World) (hB : B < w.heap.size) (h8 : w.cell? ⟨B, 8, none⟩ = some (.int .u32 b)) :
    Calls Tryz.prog 88 #[.pointer (some ⟨B, 0, none⟩), .int .u8 c, .int .u32 n] w fun e w' => e = .returned (.int .i64 (faultW c n b)) ∧ Below w.heap.size w w' := by
  have hK := fun w => kind_any c w
  have hI := fun w h => idFault_any B n b w h
  have hE := fun w => enum_any c n w
  unfold faultW
  generalize kindI c = kd at *
  generalize enumB c n = eb at *
  generalize enumS c n = es at *
  generalize noneB n b = nb at *
  by_cases k1 : kd = 1
  · subst k1
    rw [if_pos rfl]
    generalize (if nb = true then (43 : Int) else 0) = r at hI ⊢
    go_enter Tryz.func88, Tryz.ntmps88
    go_wp2_with fail
    refine (hK _).mono ?_
    rintro e w1 ⟨rfl, rfl⟩
    go_wp2_with fail
    refine (hI _ h8).mono ?_
    rintro e w1 ⟨rfl, rfl⟩
    go_wp2
    go_ret
    exact ⟨rfl, Below.refl _ _⟩
  · rw [if_neg k1]
    by_cases k4 : kd = 4
    · subst k4
      rw [if_pos rfl]
      cases eb
      all_goals
        go_enter Tryz.func88, Tryz.ntmps88
        go_wp2_with fail
        refine (hK _).mono ?_
        rintro e w1 ⟨rfl, rfl⟩
        go_wp2_with fail
        refine (hE _).mono ?_
        rintro e w1 ⟨rfl, hb⟩
        go_wp2
        go_ret
        exact ⟨rfl, hb⟩
    · rw [if_neg k4]
      go_enter Tryz.func88, Tryz.ntmps88
      go_wp2_with fail
      refine (hK _).mono ?_
      rintro e w1 ⟨rfl, rfl⟩
      go_wp2
      go_ret
      exact ⟨rfl, Below.refl _ _⟩

/-- The kinds of arguments. -/
def kindsL (l : List ArgT) : List Int := l.map (·.1)
theorem kindsL_nth (l : List ArgT) (k : Nat) (h : k < l.length) : nth (kindsL l) k = (nthA l k).1 := by
  rw [nthA_lt _ _ h]
  simp [nth, kindsL, List.getD, h]

theorem Whole.info : (Tryz.prog.info? 5).map (fun i => (i.zero, i.size, i.bytes)) = some (some (.int .u8 0), 1, 1) := by kernel_rfl

set_option maxRecDepth 10000 in
set_option maxHeartbeats 1000000 in
theorem formWhole_any (B : Nat) (n : Int) (a : Option Addr) (m cap : Nat) (l : List ArgT) (w : World) (hB : B < w.heap.size) (h0 : w.cell? ⟨B, 0, none⟩ = some (.int .u16 n)) (hv : ArgsV w a l) (hl : l.length = m) (hm : 24 * m ≤ 140737488351232) :
    Calls Tryz.prog 76 #[.pointer (some ⟨B, 0, none⟩), .slice a m cap] w fun e w' => e = .returned (.bool (fitsI (lookF refT n).2 (lookF refT n).1 (kindsL l)).2) ∧ Below w.heap.size w w' := by
  obtain ⟨i0, hi, hz0, hz1, hz2⟩ := info_parts Whole.info
  have HL : Hid (l.length = m) := hl
  have hF := fun (g : Nat) (w : World) (h : View .u8 w (some ⟨g, 0, none⟩) (kindsL l)) => fits_any n (some ⟨g, 0, none⟩) m m (kindsL l) w h (by rw [kindsL, List.length_map]; exact hl) (by omega)
  generalize fitsI (lookF refT n).2 (lookF refT n).1 (kindsL l) = r at hF ⊢
  clear hl
  go_enter Tryz.func76, Tryz.ntmps76
  go_wp2_with (at_make; refine wpList_make_full _ rfl _ _ 141 rfl w.heap.size 5 i0 (.int .u8 0) 1 Tryz.underlying141 hi hz0 hz1 _ _ _ _ m rfl rfl (by omega) (by omega) (by rw [hz2]; omega) (by unfold maxLen; omega) (Nat.le_refl _) ?_)
  intro w1 hown1 hgrow1
  have hb1 : Below w.heap.size w w1 := (Below.refl _ w).grown hgrow1 (Nat.le_refl _) (by simp)
  have hr1 := made_row (kindsL l) hown1
  clear hown1 hgrow1
  go_wp2
  go_loopw [15] (fun i wr => ∃ k : Nat, k ≤ m ∧ i = .int .i64 k ∧ wr.ownsRow w.heap.size 5 1 (.slice (some ⟨w.heap.size, 0, none⟩) m m) m ((filled (kindsL l) k m).map (Value.int .u8)) ∧ Below w.heap.size w wr)
    (fun i _ => m - (intOf i).toNat)
  case atStart => exact ⟨0, Nat.zero_le _, rfl, hr1, hb1⟩
  case round =>
    obtain ⟨k, hk, rfl, hown, hnx⟩ := hrel
    clear hr1 hb1
    by_cases hlt : k < m
    · obtain ⟨b, off, rfl, hbs, c1, c2, c3⟩ := hv k (by rw [HL.out]; exact hlt)
      have hkl : k < (kindsL l).length := by rw [kindsL, List.length_map, HL.out]; exact hlt
      obtain ⟨d1, d2, d3⟩ := fill_step hown hlt hkl
      rw [kindsL_nth l k (by rw [HL.out]; exact hlt)] at d3
      have q1 := (hnx.cell (p := ⟨b, off + k * 3, none⟩) hbs).trans c1
      have q2 := (hnx.cell (p := ⟨b, off + k * 3 + 1, none⟩) hbs).trans c2
      have q3 := (hnx.cell (p := ⟨b, off + k * 3 + 2, none⟩) hbs).trans c3
      generalize nthA l k = z at q1 q2 q3 d3
      obtain ⟨z1, z2, z3⟩ := z
      have hk0 : (0 : Int) ≤ (k : Int) := by omega
      have hki : (k : Int) < (m : Int) := by omega
      have hsz := hnx.size
      have HOWN : Hid _ := hown
      have HD3 : Hid _ := d3
      have hgl : w.heap.size < wr.heap.size := by
        have := World.block_lt_of_cell? _ _ d1
        exact this
      have d1' : (wr.alloc (.cells #[.int .u8 z1, .int .u32 z2, .string z3] 48)).cell? ⟨w.heap.size, k, none⟩ = some (.int .u8 0) := ((Below.refl _ wr).alloc (Nat.le_refl _) _).cell (p := ⟨w.heap.size, k, none⟩) hgl ▸ d1
      have d2' : (wr.alloc (.cells #[.int .u8 z1, .int .u32 z2, .string z3] 48)).frozen? ⟨w.heap.size, k, none⟩ = false := ((Below.refl _ wr).alloc (Nat.le_refl _) _).frozen (p := ⟨w.heap.size, k, none⟩) hgl ▸ d2
      clear c1 c2 c3 hown d3 hv d1 d2 hkl
      go_wp2
      go_roundw
      case rel => exact ⟨k + 1, by omega, by go_num, own_below HD3.out ((Below.refl _ _).alloc (Nat.le_refl _) _), (hnx.setCell (p := ⟨w.heap.size, k, none⟩) (Nat.le_refl _) _).alloc (by rw [World.size_setCell]; exact hsz) _⟩
      case measure => simp [intOf]; omega
    · obtain rfl : k = m := by omega
      rw [filled_whole (kindsL l) k (by rw [kindsL, List.length_map, HL.out])] at hown
      have h0' := (hnx.cell (p := ⟨B, 0, none⟩) hB).trans h0
      have hV := View.ofRow hown (by rw [kindsL, List.length_map, HL.out])
      clear hown hv
      go_wp2_with fail
      refine (hF _ _ hV).mono ?_
      rintro e w2 ⟨rfl, hb2⟩
      have hfin := hnx.trans (hb2.mono hnx.size)
      clear hb2 hV hF h0 h0'
      obtain ⟨r1, r2⟩ := r
      go_wp2
      go_ret
      exact ⟨rfl, hfin⟩

end Go.Proofs.YtjjoggpddafajaaGreat

/-
  Words appended to a row of words whose room is full: where they come to lie. No condition but the bounds that each lemma names.
-/
namespace Go.Proofs.YtjjoggpddafajaaGreat
open Go.RowKit

/-- An append whose run is known. -/
theorem append_run {P : Program} (w : World) {ops : Array Oper} {rest : List Oper} {o : Oper} {a : Act} {Q : Exit → Act → World → Prop}
    (hg : o.guard = none) (s x : Operand) (t : TypeId) (hop : o.op = Op.call { callee := Callee.builtin Builtin.append, args := #[s, x], argTypes := #[t, t] })
    (v xv v' : Value) (w' : World) (hs : a.eval s = v) (hx : a.eval x = xv) (hrun : ∀ ty, (Builtin.append_ #[t, t] ty #[v, xv]).run P w = .ok v' w') (hK : wpList P ops Q rest (a.put o.dst v') w') :
    wpList P ops Q (o :: rest) a w := by
  refine wpList_plain hg fun K hK' => ?_
  unfold Oper.wp
  simp [execOp, hop, resolve, invoke, builtin, hs, hx, hrun, Result.andThen]
  exact hK' _ _ hK

/-- Nothing is appended. -/
theorem run_append_nothing {P : Program} (w : World) (t ty e : TypeId) (i : TypeInfo) (ht : P.underlying t = some (.slice e)) (hi : P.info? e = some i) (b : Option Addr) (n cap : Nat) (hn : n ≤ cap) (a : Option Addr) (c : Nat) :
    (Builtin.append_ #[t, t] ty #[.slice b n cap, .slice a 0 c]).run P w = .ok (.slice b n cap) w := by
  cases a with
  | none => cases b <;> simp [Builtin.append_, run_underlying ht, sizeOf, typeInfo, hi, Builtin.lenOf, hn, Builtin.firstCells, storeCells]
  | some a =>
    have hl : (loadCells a 0).run P w = .ok #[] w := run_loadCells_list (P := P) w a [] (fun j v hj => by simp at hj)
    cases b <;> simp [Builtin.append_, run_underlying ht, sizeOf, typeInfo, hi, Builtin.lenOf, hn, Builtin.firstCells, hl, storeCells]

theorem cap_fits (m n : Nat) (h : 0 < n) (hm : 4 * m ≤ 1048576) (hn : 4 * n ≤ 140737488351232) : Builtin.nextslicecap (m + n) m * 4 ≤ 281474976710656 := by
  have := nextslicecap_le (need := m + n) (old := m) (by omega)
  by_cases hbig : m + n > 2 * m
  · have : Builtin.nextslicecap (m + n) m = m + n := by unfold Builtin.nextslicecap; rw [if_pos hbig]
    rw [this]; omega
  · omega

/-- What a new block holds can be read. -/
theorem view_new {k : IntKind} {w : World} {arr : Array Value} {e : TypeId} {zs : List Int} (h : ∀ j, j < zs.length → arr[j]? = some (.int k (nth zs j))) : View k (w.alloc (.cells arr e)) (some ⟨w.heap.size, 0, none⟩) zs := by
  intro j hj
  refine ⟨w.heap.size, 0, rfl, by simp, ?_⟩
  rw [Nat.zero_add, World.cell?_alloc_new, h j hj]

/-- Words appended to a row that is full. -/
theorem append_full {P : Program} (w : World) (t e : TypeId) (i : TypeInfo) (z : Value) (ht : P.underlying t = some (.slice e)) (hi : P.info? e = some i) (hz : i.zero = some z) (hsz : i.size = 1) (hby : i.bytes = 4)
    (ax ay : Option Addr) (m n c : Nat) (xs ys : List Int) (hx : View .u32 w ax xs) (hy : View .u32 w ay ys) (lx : xs.length = m) (ly : ys.length = n) (h0 : 0 < m) (hm : 4 * m ≤ 1048576) (hn : 4 * n ≤ 140737488351232) :
    ∃ (g cap : Nat) (w' : World), (∀ ty, (Builtin.append_ #[t, t] ty #[.slice ax m m, .slice ay n c]).run P w = .ok (.slice (some ⟨g, 0, none⟩) (m + n) cap) w') ∧ m + n ≤ cap ∧ View .u32 w' (some ⟨g, 0, none⟩) (xs ++ ys) ∧ Below w.heap.size w w' ∨
      n = 0 ∧ ∀ ty, (Builtin.append_ #[t, t] ty #[.slice ax m m, .slice ay n c]).run P w = .ok (.slice ax m m) w := by
  by_cases hz0 : n = 0
  · subst hz0
    exact ⟨0, 0, w, .inr ⟨rfl, fun ty => run_append_nothing w t ty e i ht hi ax m m (Nat.le_refl _) ay c⟩⟩
  · obtain ⟨bx, ox, rfl, _, _⟩ := hx 0 (by omega)
    obtain ⟨b', o', rfl, _, _⟩ := hy 0 (by omega)
    have cellOf : ∀ (zs : List Int) (b o : Nat), View .u32 w (some ⟨b, o, none⟩) zs → ∀ j v, (zs.map (Value.int .u32))[j]? = some v → w.cell? ((⟨b, o, none⟩ : Addr).add j) = some v := by
      intro zs b o hv j v hj
      rw [List.getElem?_map] at hj
      have hjl : j < zs.length := by
        rcases Nat.lt_or_ge j zs.length with h | h
        · exact h
        · rw [List.getElem?_eq_none h] at hj; simp at hj
      obtain ⟨b2, o2, e2, _, hc⟩ := hv j hjl
      simp at e2
      obtain ⟨rfl, rfl⟩ := e2
      rw [Addr.add_lit, hc, ← hj, List.getElem?_eq_getElem hjl]
      simp [nth, List.getD, hjl]
    have hfit : Builtin.nextslicecap (m + n) m * i.bytes ≤ 281474976710656 := by rw [hby]; exact cap_fits m n (by omega) hm hn
    refine ⟨w.heap.size, grownCap w (m + n) m e, _, .inl ⟨fun ty => run_append_grow w t ty e i z ht hi hz ⟨bx, ox, none⟩ m m (xs.map (Value.int .u32)) (by rw [List.length_map, lx, hsz]; omega) (cellOf xs bx ox hx)
      ⟨b', o', none⟩ n c (ys.map (Value.int .u32)) (by rw [List.length_map, ly, hsz]; omega) (cellOf ys b' o' hy) (by omega) (by omega) hfit, grownCap_ge w (m + n) m e, ?_, ?_⟩⟩
    · have := view_new (k := .u32) (w := w.drew) (arr := (xs.map (Value.int .u32)).toArray ++ (ys.map (Value.int .u32)).toArray ++ Builtin.zeroCells z.cells (grownCap w (m + n) m e - (m + n))) (e := e) (zs := xs ++ ys) ?_
      · exact this
      · intro j hj
        have hj' : j < (xs ++ ys).length := hj
        have e1 : nth (xs ++ ys) j = (xs ++ ys)[j] := by simp only [nth, List.getD, List.getElem?_eq_getElem hj']; rfl
        rw [e1]
        rw [List.length_append] at hj
        rw [Array.getElem?_append_left (by simpa using hj)]
        rw [List.append_toArray]
        rw [List.getElem?_toArray, ← List.map_append, List.getElem?_map, List.getElem?_eq_getElem hj']
        rfl
    · exact (Below.refl _ w).drew.alloc (by exact Nat.le_refl _) _

end Go.Proofs.YtjjoggpddafajaaGreat

/-
  A list that can be read, appended to a row of one's own: where it comes to lie.
-/
namespace Go.Proofs.YtjjoggpddafajaaGreat
open Go.RowKit
set_option maxRecDepth 10000

theorem wpList_append_view {P : Program} (w : World) {ops : Array Oper} {rest : List Oper} {o : Oper} {a : Act} {Q : Exit → Act → World → Prop} (hgd : o.guard = none) (s x : Operand) (t : TypeId)
    (ho : o.op = .call { callee := .builtin .append, args := #[s, x], argTypes := #[t, t] })
    (base : Nat) (e : TypeId) (i : TypeInfo) (z : Value) (bytes : Nat) (k : IntKind) (ht : P.underlying t = some (.slice e)) (hi : P.info? e = some i) (hz : i.zero = some z)
    (hsize : i.size = 1) (hby : i.bytes = bytes) (hzs : z.cells.size = 1)
    (v : Value) (n : Nat) (xs : List Int) (hs : a.eval s = v) (hown : w.ownsRow base e 1 v n (xs.map (Value.int k)))
    (ad : Option Addr) (m c : Nat) (zs : List Int) (hx : a.eval x = .slice ad m c) (hv : View k w ad zs) (hl : zs.length = m)
    (h63 : n + m ≤ maxLen) (hbytes : (n + m) * bytes ≤ 140737488355328) (hbase : base ≤ w.heap.size)
    (h : ∀ v' w', w'.ownsRow base e 1 v' (n + m) ((xs ++ zs).map (Value.int k)) → w.grownBy w' v.ownBlock → wpList P ops Q rest (a.put o.dst v') w') : wpList P ops Q (o :: rest) a w := by
  by_cases h0 : m = 0
  · subst h0
    have hz0 : zs = [] := List.eq_nil_of_length_eq_zero hl
    subst hz0
    obtain ⟨b, n', cap, hve, hle⟩ : ∃ b n' cap, v = .slice b n' cap ∧ n' ≤ cap := by
      rcases hown.2 with ⟨rfl, rfl⟩ | ⟨g, cap, cur, rfl, _, _, hle, _⟩
      · exact ⟨_, _, _, rfl, Nat.le_refl _⟩
      · exact ⟨_, _, _, rfl, hle⟩
    refine append_run w hgd s x t ho v _ v w hs hx (fun ty => ?_) ?_
    · rw [hve]; exact run_append_nothing w t ty e i ht hi b n' cap hle ad c
    · refine h v w ?_ ⟨rfl, rfl, rfl, Nat.le_refl _, fun _ _ _ => rfl⟩
      rw [List.append_nil]; exact hown
  · obtain ⟨b', o', rfl, _, _⟩ := hv 0 (by omega)
    refine wpList_append_own w hgd s x t ho base e i z 1 bytes ht hi hz hsize hby hzs (by omega) v n (xs.map (Value.int k)) hs hown ⟨b', o', none⟩ m c (zs.map (Value.int k)) hx (by rw [List.length_map, hl]; omega) ?_ ?_ h63 hbytes hbase (fun v' w' h2 h3 _ => h v' w' (by rw [List.map_append]; exact h2) h3)
    · intro j u hj
      rw [List.getElem?_map] at hj
      have hjl : j < zs.length := by
        rcases Nat.lt_or_ge j zs.length with h | h
        · exact h
        · rw [List.getElem?_eq_none h] at hj; simp at hj
      obtain ⟨b2, o2, e2, _, hc⟩ := hv j hjl
      simp at e2
      obtain ⟨rfl, rfl⟩ := e2
      rw [Addr.add_lit, hc, ← hj, List.getElem?_eq_getElem hjl]
      simp [nth, List.getD, hjl]
    · intro u hu
      obtain ⟨y, _, rfl⟩ := List.mem_map.1 hu
      rfl

/-- An owned row of numbers can be read. -/
theorem View.ofOwned {k : IntKind} {w : World} {B e n : Nat} {v : Value} {zs : List Int} (h : w.ownsRow B e 1 v n (zs.map (Value.int k))) : ∃ a cap, v = .slice a n cap ∧ View k w a zs ∧ zs.length = n := by
  have hl : zs.length = n := by have := h.1; simpa using this
  have hc := fun g hg => h.cells (g := g) hg
  rcases h.2 with ⟨rfl, rfl⟩ | ⟨g, cap, cur, rfl, _, hg, _⟩
  · exact ⟨none, 0, rfl, fun j hj => by omega, hl⟩
  · refine ⟨some ⟨g, 0, none⟩, cap, rfl, fun j hj => ⟨g, 0, rfl, (Array.getElem?_eq_some_iff.1 hg).1, ?_⟩, hl⟩
    have := hc g rfl j (.int k (nth zs j)) (by simp [nth, List.getD, hj])
    rw [Addr.add_lit] at this
    exact this

theorem own_empty {w : World} {B e g : Nat} (hg : w.heap[g]? = some (.cells #[] e (0, 0))) (hB : B ≤ g) (k : IntKind) : w.ownsRow B e 1 (.slice (some ⟨g, 0, none⟩) 0 0) 0 (([] : List Int).map (Value.int k)) :=
  ⟨rfl, .inr ⟨g, 0, #[], rfl, hB, hg, Nat.le_refl _, Nat.zero_le _, rfl, rfl⟩⟩

end Go.Proofs.YtjjoggpddafajaaGreat
