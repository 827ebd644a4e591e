/-
  Texts laid together in one: MathGr, Append, AppendView, GrRows, GraphMarks.
-/
import Derived.Test.YtlcaedibmlidlaaGreatB01
import Derived.WalkKit
import Derived.Laws.Append
import Derived.Laws.AppendOwn
import Derived.WalkSpells
import Derived.Deep.AppendLies
import Derived.Test.YtlcaedibmlidlaaGreatProg
import Derived.WalkMore
import Derived.BigRegion
import Derived.Deep.RegionWith
/-
  Plain mathematics of graphs: edges each once, edges from behind, a walk in the depth.
-/
namespace Go.Proofs.YtlcaedibmlidlaaGreat
open Go.RowKit
set_option linter.unusedVariables false
set_option linter.unusedSimpArgs false

/-- A row of a list of rows. -/
def rowN (N : List (List Int)) (j : Nat) : List Int := N.getD j []
theorem rowN_out (N : List (List Int)) (j : Nat) (h : N.length ≤ j) : rowN N j = [] := by simp [rowN, List.getD, List.getElem?_eq_none h]
theorem rowN_map (N : List (List Int)) (f : List Int → List Int) (j : Nat) (h : j < N.length) : rowN (N.map f) j = f (rowN N j) := by
  simp [rowN, List.getD, h]
theorem rowN_app (N : List (List Int)) (l : List Int) (j : Nat) (h : j < N.length) : rowN (N ++ [l]) j = rowN N j := by
  simp [rowN, List.getD, List.getElem?_append_left h]
theorem rowN_last (N : List (List Int)) (l : List Int) : rowN (N ++ [l]) N.length = l := by simp [rowN, List.getD]
theorem rowN_set (N : List (List Int)) (l : List Int) (i j : Nat) (h : i < N.length) : rowN (N.set i l) j = if j = i then l else rowN N j := by
  by_cases e : j = i
  · subst e; simp [rowN, List.getD, h]
  · have e' : ¬ i = j := fun x => e x.symm
    simp [rowN, List.getD, List.getElem?_set, e, e']
theorem rows_ext {N M : List (List Int)} (h : N.length = M.length) (h2 : ∀ j, j < N.length → rowN N j = rowN M j) : N = M := by
  apply List.ext_getElem h
  intro j h1 h3
  have := h2 j h1
  simpa [rowN, List.getD, h1, h3] using this

/-- Every number of every row lies in 0 to n - 1. -/
def Edges (n : Nat) (N : List (List Int)) : Prop := ∀ j x, x ∈ rowN N j → 0 ≤ x ∧ x < n

/-- A number more, if it is not there yet. -/
def addN (acc : List Int) (x : Int) : List Int := if x ∈ acc then acc else acc ++ [x]
/-- Numbers, each where it stands first. -/
def onceF (l : List Int) : List Int := l.foldl addN []
theorem once_snoc (l : List Int) (k : Nat) (h : k < l.length) : onceF (l.take (k + 1)) = addN (onceF (l.take k)) (nth l k) := by
  unfold onceF; rw [take_snoc l k h, List.foldl_append]; rfl
theorem addN_mem (acc : List Int) (x y : Int) : y ∈ addN acc x ↔ y ∈ acc ∨ y = x := by
  unfold addN; split
  · rename_i h; exact ⟨.inl, fun h' => by rcases h' with h' | rfl <;> assumption⟩
  · simp
theorem addN_nodup (acc : List Int) (x : Int) (h : acc.Nodup) : (addN acc x).Nodup := by
  unfold addN; split
  · exact h
  · rename_i hx
    rw [List.nodup_append]
    exact ⟨h, by simp, fun a ha b hb e => by simp at hb; subst hb; subst e; exact hx ha⟩
theorem addN_len (acc : List Int) (x : Int) : (addN acc x).length ≤ acc.length + 1 := by
  unfold addN; split <;> simp
theorem once_fold (l acc : List Int) (h : acc.Nodup) : (l.foldl addN acc).Nodup ∧ (∀ y, y ∈ l.foldl addN acc ↔ y ∈ acc ∨ y ∈ l) ∧ (l.foldl addN acc).length ≤ acc.length + l.length := by
  induction l generalizing acc with
  | nil => simp [h]
  | cons x l ih =>
    obtain ⟨h1, h2, h3⟩ := ih (addN acc x) (addN_nodup acc x h)
    refine ⟨h1, fun y => ?_, ?_⟩
    · rw [List.foldl_cons, h2, addN_mem, List.mem_cons, or_assoc]
    · have := addN_len acc x
      rw [List.foldl_cons, List.length_cons]; omega
theorem once_nodup (l : List Int) : (onceF l).Nodup := (once_fold l [] (by simp)).1
theorem once_mem (l : List Int) (y : Int) : y ∈ onceF l ↔ y ∈ l := by
  have := (once_fold l [] (by simp)).2.1 y
  simpa [onceF] using this
theorem once_len (l : List Int) : (onceF l).length ≤ l.length := by
  have := (once_fold l [] (by simp)).2.2
  simpa [onceF] using this

/-- The rows of a graph while they are made. -/
def madeQ (N : List (List Int)) (k : Nat) : List (List Int) := (List.range N.length).map fun j => if j < k then onceF (rowN N j) else []
theorem madeQ_len (N : List (List Int)) (k : Nat) : (madeQ N k).length = N.length := by simp [madeQ]
theorem madeQ_row (N : List (List Int)) (k j : Nat) (h : j < N.length) : rowN (madeQ N k) j = if j < k then onceF (rowN N j) else [] := by
  show (madeQ N k).getD j [] = _
  unfold madeQ
  rw [List.getD_eq_getElem?_getD, List.getElem?_map, List.getElem?_range h]
  rfl
theorem madeQ_zero (N : List (List Int)) : madeQ N 0 = List.replicate N.length [] := by
  apply rows_ext (by simp [madeQ])
  intro j hj
  rw [madeQ_len] at hj
  rw [madeQ_row N 0 j hj]
  simp [rowN, List.getD, List.getElem?_replicate, hj]
theorem madeQ_set (N : List (List Int)) (k : Nat) (h : k < N.length) : (madeQ N k).set k (onceF (rowN N k)) = madeQ N (k + 1) := by
  apply rows_ext (by simp [madeQ])
  intro j hj
  rw [List.length_set, madeQ_len] at hj
  rw [rowN_set _ _ _ _ (by rw [madeQ_len]; exact h), madeQ_row N k j hj, madeQ_row N (k + 1) j hj]
  by_cases e : j = k
  · subst e; simp
  · rw [if_neg e]
    by_cases e2 : j < k
    · rw [if_pos e2, if_pos (by omega)]
    · rw [if_neg e2, if_neg (by omega)]
theorem madeQ_whole (N : List (List Int)) : madeQ N N.length = N.map onceF := by
  apply rows_ext (by simp [madeQ])
  intro j hj
  rw [madeQ_len] at hj
  rw [madeQ_row _ _ _ hj, if_pos hj, rowN_map N onceF j hj]
/-- Numbers of 0 to n - 1, each once, are at most n. -/
theorem nodup_lenG : ∀ (n : Nat) (l : List Int), l.Nodup → (∀ x ∈ l, 0 ≤ x ∧ x < n) → l.length ≤ n
  | 0, l, _, h => by
    cases l with
    | nil => simp
    | cons x l => have := h x (by simp); omega
  | n + 1, l, hd, h => by
    by_cases hm : (n : Int) ∈ l
    · have h1 := nodup_lenG n (l.erase (n : Int)) (hd.erase _) (fun x hx => by
        have hx' := (List.Nodup.mem_erase_iff hd).1 hx
        have := h x hx'.2
        have := hx'.1
        omega)
      rw [List.length_erase_of_mem hm] at h1
      omega
    · have := nodup_lenG n l hd (fun x hx => by
        have := h x hx
        have : x ≠ (n : Int) := fun e => hm (e ▸ hx)
        omega)
      omega

/-- The nodes ahead of a node, of the first k. -/
def aheadT (N : List (List Int)) (k : Nat) (j : Int) : List Int := ((List.range k).filter fun i => j ∈ rowN N i).map Int.ofNat
theorem aheadT_succ (N : List (List Int)) (k : Nat) (j : Int) : aheadT N (k + 1) j = aheadT N k j ++ (if j ∈ rowN N k then [(k : Int)] else []) := by
  unfold aheadT
  rw [List.range_succ, List.filter_append, List.map_append]
  congr 1
  by_cases h : j ∈ rowN N k <;> simp [h]
def aheadF (N : List (List Int)) (j : Int) : List Int := aheadT N N.length j
def aheadR (N : List (List Int)) : List (List Int) := (List.range N.length).map fun (j : Nat) => aheadF N (j : Int)
theorem aheadR_len (N : List (List Int)) : (aheadR N).length = N.length := by simp [aheadR]
theorem aheadR_row (N : List (List Int)) (j : Nat) (h : j < N.length) : rowN (aheadR N) j = aheadF N (j : Int) := by simp [rowN, aheadR, List.getD, h]
theorem aheadT_len (N : List (List Int)) (k : Nat) (j : Int) : (aheadT N k j).length ≤ k := by
  unfold aheadT
  rw [List.length_map]
  exact Nat.le_trans (List.length_filter_le _ _) (by simp)

/-- The rows while they are built: all of the first k nodes, and q edges of the next one. -/
def aheadQ (N : List (List Int)) (k q : Nat) : List (List Int) := (List.range N.length).map fun (j : Nat) => aheadT N k (j : Int) ++ (if (j : Int) ∈ (rowN N k).take q then [(k : Int)] else [])
theorem aheadQ_len (N : List (List Int)) (k q : Nat) : (aheadQ N k q).length = N.length := by simp [aheadQ]
theorem aheadQ_row (N : List (List Int)) (k q j : Nat) (h : j < N.length) : rowN (aheadQ N k q) j = aheadT N k (j : Int) ++ (if (j : Int) ∈ (rowN N k).take q then [(k : Int)] else []) := by
  show (aheadQ N k q).getD j [] = _
  unfold aheadQ
  rw [List.getD_eq_getElem?_getD, List.getElem?_map, List.getElem?_range h]
  rfl
theorem aheadQ_start (N : List (List Int)) : aheadQ N 0 0 = List.replicate N.length [] := by
  apply rows_ext (by simp [aheadQ])
  intro j hj
  rw [aheadQ_len] at hj
  rw [aheadQ_row N 0 0 j hj]
  simp [aheadT, rowN, List.getD, List.getElem?_replicate, hj]
theorem aheadQ_end (N : List (List Int)) (k : Nat) : aheadQ N k (rowN N k).length = aheadQ N (k + 1) 0 := by
  apply rows_ext (by simp [aheadQ])
  intro j hj
  rw [aheadQ_len] at hj
  rw [aheadQ_row _ _ _ j hj, aheadQ_row _ _ _ j hj, aheadT_succ, List.take_length]
  simp
theorem aheadQ_whole (N : List (List Int)) : aheadQ N N.length 0 = aheadR N := by
  apply rows_ext (by simp [aheadQ, aheadR])
  intro j hj
  rw [aheadQ_len] at hj
  rw [aheadQ_row _ _ _ j hj, aheadR_row N j hj]
  simp [aheadF]
theorem aheadQ_step (N : List (List Int)) (k q t : Nat) (hd : (rowN N k).Nodup) (hq : q < (rowN N k).length) (ht : nth (rowN N k) q = (t : Int)) (htl : t < N.length) :
    (aheadQ N k q).set t (rowN (aheadQ N k q) t ++ [(k : Int)]) = aheadQ N k (q + 1) := by
  apply rows_ext (by simp [aheadQ])
  intro j hj
  rw [List.length_set, aheadQ_len] at hj
  rw [rowN_set _ _ _ _ (by rw [aheadQ_len]; exact htl), aheadQ_row N k q j hj, aheadQ_row N k q t htl, aheadQ_row N k (q + 1) j hj, take_snoc _ _ hq, ht]
  have hnot : ¬ (t : Int) ∈ (rowN N k).take q := by
    have h1 := take_snoc (rowN N k) q hq
    have h2 : ((rowN N k).take (q + 1)).Nodup := hd.sublist (List.take_sublist _ _)
    rw [h1, ht, List.nodup_append] at h2
    exact fun h => h2.2.2 _ h _ (by simp) rfl
  by_cases e : j = t
  · subst e
    simp [hnot]
  · have e2 : ¬ (j : Int) = (t : Int) := by omega
    simp [e, e2, aheadQ_row _ _ _ j hj]

/-! ### the walk -/
abbrev WalkS := List Int × List Int
def stepD (f : Int → WalkS → WalkS) (s : WalkS) (j : Int) : WalkS := if j ∈ s.1 then s else f j s
def dfs (N : List (List Int)) : Nat → Int → WalkS → WalkS
  | 0, _, s => s
  | f + 1, i, s => (((rowN N i.toNat).foldl (stepD (dfs N f)) (s.1 ++ [i], s.2)).1, ((rowN N i.toNat).foldl (stepD (dfs N f)) (s.1 ++ [i], s.2)).2 ++ [i])
/-- What the walk came to behind the first k edges of a node. -/
def dfsK (N : List (List Int)) (f : Nat) (i : Int) (s : WalkS) (k : Nat) : WalkS := ((rowN N i.toNat).take k).foldl (stepD (dfs N f)) (s.1 ++ [i], s.2)
theorem dfsK_zero (N : List (List Int)) (f : Nat) (i : Int) (s : WalkS) : dfsK N f i s 0 = (s.1 ++ [i], s.2) := rfl
theorem dfsK_succ (N : List (List Int)) (f : Nat) (i : Int) (s : WalkS) (k : Nat) (h : k < (rowN N i.toNat).length) : dfsK N f i s (k + 1) = stepD (dfs N f) (dfsK N f i s k) (nth (rowN N i.toNat) k) := by
  unfold dfsK; rw [take_snoc _ _ h, List.foldl_append]; rfl
theorem dfs_succ (N : List (List Int)) (f : Nat) (i : Int) (s : WalkS) : dfs N (f + 1) i s = ((dfsK N f i s (rowN N i.toNat).length).1, (dfsK N f i s (rowN N i.toNat).length).2 ++ [i]) := by
  unfold dfsK; rw [List.take_length]; rfl

/-- Nodes, each once. -/
def GoodC (n : Nat) (c : List Int) : Prop := c.Nodup ∧ ∀ x ∈ c, 0 ≤ x ∧ x < n
theorem GoodC.len {n : Nat} {c : List Int} (h : GoodC n c) : c.length ≤ n := nodup_lenG n c h.1 h.2
theorem GoodC.snoc {n : Nat} {c : List Int} (h : GoodC n c) {i : Int} (hi : i ∉ c) (h0 : 0 ≤ i) (h1 : i < n) : GoodC n (c ++ [i]) := by
  refine ⟨?_, fun x hx => ?_⟩
  · rw [List.nodup_append]
    exact ⟨h.1, by simp, fun a ha b hb e => by simp at hb; subst hb; subst e; exact hi ha⟩
  · rcases List.mem_append.1 hx with hx | hx
    · exact h.2 x hx
    · simp at hx; subst hx; exact ⟨h0, h1⟩

/-- A way leads from a node to another one. -/
def Ways (N : List (List Int)) : Nat → Int → Int → Prop
  | 0, i, j => i = j
  | k + 1, i, j => ∃ m, Ways N k i m ∧ j ∈ rowN N m.toNat
def Reach (N : List (List Int)) (i j : Int) : Prop := ∃ k, Ways N k i j
theorem Reach.refl (N : List (List Int)) (i : Int) : Reach N i i := ⟨0, rfl⟩
theorem Reach.step {N : List (List Int)} {i m j : Int} (h : Reach N i m) (hj : j ∈ rowN N m.toNat) : Reach N i j := by
  obtain ⟨k, hk⟩ := h; exact ⟨k + 1, m, hk, hj⟩
theorem Reach.trans {N : List (List Int)} {i m j : Int} (h : Reach N i m) (h2 : Reach N m j) : Reach N i j := by
  obtain ⟨k, hk⟩ := h2
  induction k generalizing j with
  | zero => cases hk; exact h
  | succ k ih => obtain ⟨q, hq, hj⟩ := hk; exact (ih hq).step hj
theorem Reach.closed {N : List (List Int)} {c : List Int} {i j : Int} (h : Reach N i j) (hi : i ∈ c) (hc : ∀ x ∈ c, ∀ y ∈ rowN N x.toNat, y ∈ c) : j ∈ c := by
  obtain ⟨k, hk⟩ := h
  induction k generalizing j with
  | zero => cases hk; exact hi
  | succ k ih => obtain ⟨q, hq, hj⟩ := hk; exact hc q (ih hq) j hj

/-- What a piece of the walk comes to: the nodes e more, left in the order d. -/
structure Seg (N : List (List Int)) (n : Nat) (s t : WalkS) (e d : List Int) : Prop where
  came : t.1 = s.1 ++ e
  left : t.2 = s.2 ++ d
  perm : d.Perm e
  good : GoodC n t.1
  closed : ∀ x ∈ e, ∀ y ∈ rowN N x.toNat, y ∈ t.1

theorem seg_nil {N : List (List Int)} {n : Nat} {s : WalkS} (h : GoodC n s.1) : Seg N n s s [] [] :=
  ⟨by simp, by simp, List.Perm.refl _, h, fun x hx => by simp at hx⟩
theorem Seg.trans {N : List (List Int)} {n : Nat} {s t u : WalkS} {e d e' d' : List Int} (h : Seg N n s t e d) (k : Seg N n t u e' d') : Seg N n s u (e ++ e') (d ++ d') := by
  refine ⟨by rw [k.came, h.came, List.append_assoc], by rw [k.left, h.left, List.append_assoc], h.perm.append k.perm, k.good, fun x hx y hy => ?_⟩
  rcases List.mem_append.1 hx with hx | hx
  · rw [k.came]; exact List.mem_append.2 (.inl (h.closed x hx y hy))
  · exact k.closed x hx y hy

/-- Each node but the first js is led to from one ahead of it. -/
def LedBy (N : List (List Int)) (js e : List Int) : Prop := ∀ p x q, e = p ++ x :: q → (∃ y ∈ p, x ∈ rowN N y.toNat) ∨ x ∈ js
theorem LedBy.mono {N : List (List Int)} {js js' e : List Int} (h : LedBy N js e) (hs : ∀ x ∈ js, x ∈ js') : LedBy N js' e := fun p x q he => by
  rcases h p x q he with h | h
  · exact .inl h
  · exact .inr (hs x h)
theorem LedBy.app {N : List (List Int)} {js e e' : List Int} (h : LedBy N js e) (h' : LedBy N js e') : LedBy N js (e ++ e') := fun p x q he => by
  rcases List.append_eq_append_iff.1 he with ⟨a, h1, h2⟩ | ⟨a, h1, h2⟩
  · rcases h' a x q h2 with ⟨y, hy, hx⟩ | hx
    · exact .inl ⟨y, by rw [h1]; exact List.mem_append.2 (.inr hy), hx⟩
    · exact .inr hx
  · cases a with
    | nil =>
      simp at h2
      rcases h' [] x q (by rw [← h2]; rfl) with ⟨y, hy, hx⟩ | hx
      · simp at hy
      · exact .inr hx
    | cons z a =>
      simp at h2
      obtain ⟨rfl, h2⟩ := h2
      exact h p x a h1

theorem walk_all (N : List (List Int)) (n : Nat) (hE : Edges n N) : ∀ f,
    (∀ (js : List Int) (s : WalkS), GoodC n s.1 → (∀ x ∈ js, (0 : Int) ≤ x ∧ x < (n : Int)) → n - s.1.length ≤ f → ∃ e d, Seg N n s (js.foldl (stepD (dfs N f)) s) e d ∧ (∀ y ∈ js, y ∈ (js.foldl (stepD (dfs N f)) s).1) ∧ LedBy N js e) ∧
    (∀ (i : Int) (s : WalkS), GoodC n s.1 → i ∉ s.1 → 0 ≤ i → i < (n : Int) → n - s.1.length ≤ f → ∃ e d, Seg N n s (dfs N f i s) (i :: e) d ∧ LedBy N [i] (i :: e)) := by
  intro f
  induction f with
  | zero =>
    have full : ∀ s : WalkS, GoodC n s.1 → n - s.1.length ≤ 0 → ∀ x : Int, 0 ≤ x → x < (n : Int) → x ∈ s.1 := by
      intro s hg hl x h0 h1
      refine Decidable.byContradiction fun hx => ?_
      have := (hg.snoc hx h0 h1).len
      simp at this; omega
    constructor
    · intro js s hg hj hl
      have e : js.foldl (stepD (dfs N 0)) s = s := by
        clear hl
        induction js with
        | nil => rfl
        | cons x js ih =>
          have hx : stepD (dfs N 0) s x = s := by unfold stepD; split <;> rfl
          rw [List.foldl_cons, hx]
          exact ih (fun y hy => hj y (List.mem_cons_of_mem _ hy))
      rw [e]
      exact ⟨[], [], seg_nil hg, fun y hy => full s hg hl y (hj y hy).1 (hj y hy).2, fun p x q h => by cases p <;> simp at h⟩
    · intro i s hg hi h0 h1 hl
      exact absurd (full s hg hl i h0 h1) hi
  | succ f ih =>
    have call : ∀ (i : Int) (s : WalkS), GoodC n s.1 → i ∉ s.1 → 0 ≤ i → i < (n : Int) → n - s.1.length ≤ f + 1 → ∃ e d, Seg N n s (dfs N (f + 1) i s) (i :: e) d ∧ LedBy N [i] (i :: e) := by
      intro i s hg hi h0 h1 hl
      obtain ⟨e, d, hs, hin, hled⟩ := ih.1 (rowN N i.toNat) (s.1 ++ [i], s.2) (hg.snoc hi h0 h1) (fun x hx => hE _ x hx) (by simp; omega)
      generalize ht : (rowN N i.toNat).foldl (stepD (dfs N f)) (s.1 ++ [i], s.2) = t at hs hin
      have e1 : dfs N (f + 1) i s = (t.1, t.2 ++ [i]) := by rw [← ht]; rfl
      rw [e1]
      refine ⟨e, d ++ [i], ⟨by rw [hs.came]; simp, by rw [hs.left]; simp, (hs.perm.append_right [i]).trans (by simp), hs.good, fun x hx y hy => ?_⟩, fun p x q he => ?_⟩
      · rcases List.mem_cons.1 hx with rfl | hx
        · exact hin y hy
        · exact hs.closed x hx y hy
      · cases p with
        | nil => simp at he; exact .inr (by simp [he.1])
        | cons z p =>
          simp at he
          obtain ⟨rfl, he⟩ := he
          rcases hled p x q he with ⟨y, hy, hx⟩ | hx
          · exact .inl ⟨y, List.mem_cons_of_mem _ hy, hx⟩
          · exact .inl ⟨i, by simp, hx⟩
    refine ⟨?_, call⟩
    intro js
    induction js with
    | nil => intro s hg _ _; exact ⟨[], [], seg_nil hg, fun y hy => by simp at hy, fun p x q h => by cases p <;> simp at h⟩
    | cons j js ihj =>
      intro s hg hj hl
      have hj' : ∀ x ∈ js, (0 : Int) ≤ x ∧ x < (n : Int) := fun y hy => hj y (List.mem_cons_of_mem _ hy)
      rw [List.foldl_cons]
      by_cases hm : j ∈ s.1
      · have e1 : stepD (dfs N (f + 1)) s j = s := if_pos hm
        rw [e1]
        obtain ⟨e, d, hs, hin, hled⟩ := ihj s hg hj' hl
        refine ⟨e, d, hs, fun y hy => ?_, hled.mono fun x hx => List.mem_cons_of_mem _ hx⟩
        rcases List.mem_cons.1 hy with rfl | hy
        · rw [hs.came]; exact List.mem_append.2 (.inl hm)
        · exact hin y hy
      · have e1 : stepD (dfs N (f + 1)) s j = dfs N (f + 1) j s := if_neg hm
        rw [e1]
        obtain ⟨e, d, hs, hled⟩ := call j s hg hm (hj j (by simp)).1 (hj j (by simp)).2 hl
        obtain ⟨e', d', hs', hin', hled'⟩ := ihj (dfs N (f + 1) j s) hs.good hj' (by rw [hs.came]; simp; omega)
        refine ⟨_, _, hs.trans hs', fun y hy => ?_, LedBy.app (hled.mono fun x hx => ?_) (hled'.mono fun x hx => List.mem_cons_of_mem _ hx)⟩
        · rcases List.mem_cons.1 hy with rfl | hy
          · rw [hs'.came, hs.came]; simp
          · exact hin' y hy
        · simp at hx; simp [hx]

/-- What lies behind in a led row is reached. -/
theorem led_reach {N : List (List Int)} {i : Int} {e : List Int} (h : LedBy N [i] e) : ∀ x ∈ e, Reach N i x := by
  have key : ∀ k p x q, p.length ≤ k → e = p ++ x :: q → Reach N i x := by
    intro k
    induction k with
    | zero =>
      intro p x q hp he
      have : p = [] := List.eq_nil_of_length_eq_zero (by omega)
      subst this
      rcases h [] x q he with ⟨y, hy, _⟩ | hx
      · simp at hy
      · simp at hx; subst hx; exact Reach.refl _ _
    | succ k ih =>
      intro p x q hp he
      rcases h p x q he with ⟨y, hy, hx⟩ | hx
      · obtain ⟨a, b, rfl⟩ := List.append_of_mem hy
        have := ih a y (b ++ x :: q) (by simp at hp; omega) (by rw [he]; simp)
        exact this.step hx
      · simp at hx; subst hx; exact Reach.refl _ _
  intro x hx
  obtain ⟨p, q, rfl⟩ := List.append_of_mem hx
  exact key p.length p x q (Nat.le_refl _) rfl

/-- The whole walk, from the node 0. -/
def walkF (N : List (List Int)) : WalkS := dfs N N.length 0 ([], [])
structure GrWalkQ (N : List (List Int)) (t : WalkS) : Prop where
  good : GoodC N.length t.1
  perm : t.2.Perm t.1
  mem : ∀ x, x ∈ t.1 ↔ Reach N 0 x
  first : ∃ e, t.1 = 0 :: e
  closed : ∀ x ∈ t.1, ∀ y ∈ rowN N x.toNat, y ∈ t.1
  led : LedBy N [0] t.1
theorem walkF_all (N : List (List Int)) (hE : Edges N.length N) (h0 : 0 < N.length) : GrWalkQ N (walkF N) := by
  obtain ⟨e, d, hs, hl⟩ := (walk_all N N.length hE N.length).2 0 ([], []) ⟨by simp, fun x hx => by simp at hx⟩ (by simp) (by omega) (by omega) (by simp)
  have hc : (walkF N).1 = 0 :: e := by have := hs.came; simpa [walkF] using this
  have hd : (walkF N).2 = d := by have := hs.left; simpa [walkF] using this
  have hcl : ∀ x ∈ (walkF N).1, ∀ y ∈ rowN N x.toNat, y ∈ (walkF N).1 := fun x hx y hy => hs.closed x (by rw [← hc]; exact hx) y hy
  refine ⟨hs.good, by rw [hd, hc]; exact hs.perm, fun x => ⟨fun hx => ?_, fun hx => ?_⟩, ⟨e, hc⟩, hcl, by rw [hc]; exact hl⟩
  · rw [hc] at hx; exact led_reach hl x hx
  · exact hx.closed (by rw [hc]; simp) hcl

end Go.Proofs.YtlcaedibmlidlaaGreat

/-
  Words appended to a row of words whose room is full: where they come to lie. No condition but the bounds that each lemma names.
-/
namespace Go.Proofs.YtlcaedibmlidlaaGreat
open Go.RowKit

/-- An append whose run is known. -/
theorem append_run {P : Program} (w : World) {ops : Array Oper} {rest : List Oper} {o : Oper} {a : Act} {Q : Exit → Act → World → Prop}
    (hg : o.guard = none) (s x : Operand) (t : TypeId) (hop : o.op = Op.call { callee := Callee.builtin Builtin.append, args := #[s, x], argTypes := #[t, t] })
    (v xv v' : Value) (w' : World) (hs : a.eval s = v) (hx : a.eval x = xv) (hrun : ∀ ty, (Builtin.append_ #[t, t] ty #[v, xv]).run P w = .ok v' w') (hK : wpList P ops Q rest (a.put o.dst v') w') :
    wpList P ops Q (o :: rest) a w := by
  refine wpList_plain hg fun K hK' => ?_
  unfold Oper.wp
  simp [execOp, hop, resolve, invoke, builtin, hs, hx, hrun, Result.andThen]
  exact hK' _ _ hK

/-- Nothing is appended. -/
theorem run_append_nothing {P : Program} (w : World) (t ty e : TypeId) (i : TypeInfo) (ht : P.underlying t = some (.slice e)) (hi : P.info? e = some i) (b : Option Addr) (n cap : Nat) (hn : n ≤ cap) (a : Option Addr) (c : Nat) :
    (Builtin.append_ #[t, t] ty #[.slice b n cap, .slice a 0 c]).run P w = .ok (.slice b n cap) w := by
  cases a with
  | none => cases b <;> simp [Builtin.append_, run_underlying ht, sizeOf, typeInfo, hi, Builtin.lenOf, hn, Builtin.firstCells, storeCells]
  | some a =>
    have hl : (loadCells a 0).run P w = .ok #[] w := run_loadCells_list (P := P) w a [] (fun j v hj => by simp at hj)
    cases b <;> simp [Builtin.append_, run_underlying ht, sizeOf, typeInfo, hi, Builtin.lenOf, hn, Builtin.firstCells, hl, storeCells]

end Go.Proofs.YtlcaedibmlidlaaGreat

/-
  A list that can be read, appended to a row of one's own: where it comes to lie.
-/
namespace Go.Proofs.YtlcaedibmlidlaaGreat
open Go.RowKit
set_option maxRecDepth 10000

theorem wpList_append_view {P : Program} (w : World) {ops : Array Oper} {rest : List Oper} {o : Oper} {a : Act} {Q : Exit → Act → World → Prop} (hgd : o.guard = none) (s x : Operand) (t : TypeId)
    (ho : o.op = .call { callee := .builtin .append, args := #[s, x], argTypes := #[t, t] })
    (base : Nat) (e : TypeId) (i : TypeInfo) (z : Value) (bytes : Nat) (k : IntKind) (ht : P.underlying t = some (.slice e)) (hi : P.info? e = some i) (hz : i.zero = some z)
    (hsize : i.size = 1) (hby : i.bytes = bytes) (hzs : z.cells.size = 1)
    (v : Value) (n : Nat) (xs : List Int) (hs : a.eval s = v) (hown : w.ownsRow base e 1 v n (xs.map (Value.int k)))
    (ad : Option Addr) (m c : Nat) (zs : List Int) (hx : a.eval x = .slice ad m c) (hv : View k w ad zs) (hl : zs.length = m)
    (h63 : n + m ≤ maxLen) (hbytes : (n + m) * bytes ≤ 140737488355328) (hbase : base ≤ w.heap.size)
    (h : ∀ v' w', w'.ownsRow base e 1 v' (n + m) ((xs ++ zs).map (Value.int k)) → w.grownBy w' v.ownBlock → wpList P ops Q rest (a.put o.dst v') w') : wpList P ops Q (o :: rest) a w := by
  by_cases h0 : m = 0
  · subst h0
    have hz0 : zs = [] := List.eq_nil_of_length_eq_zero hl
    subst hz0
    obtain ⟨b, n', cap, hve, hle⟩ : ∃ b n' cap, v = .slice b n' cap ∧ n' ≤ cap := by
      rcases hown.2 with ⟨rfl, rfl⟩ | ⟨g, cap, cur, rfl, _, _, hle, _⟩
      · exact ⟨_, _, _, rfl, Nat.le_refl _⟩
      · exact ⟨_, _, _, rfl, hle⟩
    refine append_run w hgd s x t ho v _ v w hs hx (fun ty => ?_) ?_
    · rw [hve]; exact run_append_nothing w t ty e i ht hi b n' cap hle ad c
    · refine h v w ?_ ⟨rfl, rfl, rfl, Nat.le_refl _, fun _ _ _ => rfl⟩
      rw [List.append_nil]; exact hown
  · obtain ⟨b', o', rfl, _, _⟩ := hv 0 (by omega)
    refine wpList_append_own w hgd s x t ho base e i z 1 bytes ht hi hz hsize hby hzs (by omega) v n (xs.map (Value.int k)) hs hown ⟨b', o', none⟩ m c (zs.map (Value.int k)) hx (by rw [List.length_map, hl]; omega) ?_ ?_ h63 hbytes hbase (fun v' w' h2 h3 _ => h v' w' (by rw [List.map_append]; exact h2) h3)
    · intro j u hj
      rw [List.getElem?_map] at hj
      have hjl : j < zs.length := by
        rcases Nat.lt_or_ge j zs.length with h | h
        · exact h
        · rw [List.getElem?_eq_none h] at hj; simp at hj
      obtain ⟨b2, o2, e2, _, hc⟩ := hv j hjl
      simp at e2
      obtain ⟨rfl, rfl⟩ := e2
      rw [Addr.add_lit, hc, ← hj, List.getElem?_eq_getElem hjl]
      simp [nth, List.getD, hjl]
    · intro u hu
      obtain ⟨y, _, rfl⟩ := List.mem_map.1 hu
      rfl

/-- An owned row of numbers can be read. -/
theorem View.ofOwned {k : IntKind} {w : World} {B e n : Nat} {v : Value} {zs : List Int} (h : w.ownsRow B e 1 v n (zs.map (Value.int k))) : ∃ a cap, v = .slice a n cap ∧ View k w a zs ∧ zs.length = n := by
  have hl : zs.length = n := by have := h.1; simpa using this
  have hc := fun g hg => h.cells (g := g) hg
  rcases h.2 with ⟨rfl, rfl⟩ | ⟨g, cap, cur, rfl, _, hg, _⟩
  · exact ⟨none, 0, rfl, fun j hj => by omega, hl⟩
  · refine ⟨some ⟨g, 0, none⟩, cap, rfl, fun j hj => ⟨g, 0, rfl, (Array.getElem?_eq_some_iff.1 hg).1, ?_⟩, hl⟩
    have := hc g rfl j (.int k (nth zs j)) (by simp [nth, List.getD, hj])
    rw [Addr.add_lit] at this
    exact this

end Go.Proofs.YtlcaedibmlidlaaGreat

/-
  Rows of rows of numbers in memory: a list of lists, each in memory of its own; and as they can be read.
-/
namespace Go.Proofs.YtlcaedibmlidlaaGreat
open Go.RowKit
set_option linter.unusedVariables false
set_option linter.unusedSimpArgs false
set_option maxRecDepth 10000

theorem own_mono {w : World} {lo lo' e size n : Nat} {v : Value} {xs : List Value} (h : w.ownsRow lo e size v n xs) (hl : lo' ≤ lo) : w.ownsRow lo' e size v n xs := by
  refine ⟨h.1, ?_⟩
  rcases h.2 with hn | ⟨g, cap, cur, e1, hg, rest⟩
  · exact .inl hn
  · exact .inr ⟨g, cap, cur, e1, Nat.le_trans hl hg, rest⟩
theorem own_shapeG {w : World} {lo e size n : Nat} {v : Value} {xs : List Value} (h : w.ownsRow lo e size v n xs) : ∃ a c, v = .slice a n c := by
  rcases h.2 with ⟨rfl, h0⟩ | ⟨g, cap, cur, rfl, _⟩
  · exact ⟨none, 0, by rw [h0]⟩
  · exact ⟨_, _, rfl⟩
def cellsL (V : Nat → Value) (m : Nat) : List Value := (List.range m).map V
theorem cellsL_len (V : Nat → Value) (m : Nat) : (cellsL V m).length = m := by simp [cellsL]
theorem cellsL_at (V : Nat → Value) (m j : Nat) (h : j < m) : (cellsL V m)[j]? = some (V j) := by simp [cellsL, h]
theorem cellsL_set (V : Nat → Value) (m j : Nat) (v : Value) (h : j < m) : (cellsL V m).set j v = cellsL (fun k => if k = j then v else V k) m := by
  apply List.ext_getElem?
  intro i
  by_cases hi : i < m
  · rw [List.getElem?_set, cellsL_at _ m i hi, cellsL_len]
    by_cases e : j = i
    · subst e; simp [h, cellsL_at _ m j h]
    · have e' : ¬ i = j := fun x => e x.symm
      simp [e, e', cellsL_at _ m i hi]
  · rw [List.getElem?_eq_none (by rw [List.length_set, cellsL_len]; omega), List.getElem?_eq_none (by rw [cellsL_len]; omega)]
theorem cellsL_succ (V : Nat → Value) (m : Nat) (v : Value) : cellsL V m ++ [v] = cellsL (fun k => if k = m then v else V k) (m + 1) := by
  unfold cellsL
  rw [List.range_succ, List.map_append]
  congr 1
  · apply List.map_congr_left
    intro k hk
    have := List.mem_range.1 hk
    rw [if_neg (by omega)]
  · simp

def rowL (hv : Value) (V : Nat → Value) (N : List (List Int)) : Option Nat → RowX
  | none => ⟨26, 1, hv, N.length, cellsL V N.length⟩
  | some j => ⟨3, 1, V j, (rowN N j).length, (rowN N j).map (Value.int .i64)⟩
def inL (N : List (List Int)) : Option Nat → Prop
  | none => True
  | some j => j < N.length
/-- A list of lists in memory of its own, from block lo on. -/
def OwnL (w : World) (lo : Nat) (hv : Value) (N : List (List Int)) : Prop := ∃ V, RowsX w lo (inL N) (rowL hv V N)

theorem OwnL.same {w w' : World} {lo : Nat} {hv : Value} {N : List (List Int)} (h : OwnL w lo hv N) (hs : ∀ g cs T fr, lo ≤ g → (T = 3 ∨ T = 26) → w.heap[g]? = some (.cells cs T fr) → w'.heap[g]? = some (.cells cs T fr)) : OwnL w' lo hv N := by
  obtain ⟨V, hV⟩ := h
  refine ⟨V, fun q hq => ?_, hV.apart⟩
  have ho := hV.own q hq
  unfold RowX.own at ho ⊢
  refine ⟨ho.1, ?_⟩
  rcases ho.2 with hn | ⟨g, cap, cur, e, hg, hgg, rest⟩
  · exact .inl hn
  · refine .inr ⟨g, cap, cur, e, hg, hs g _ _ _ hg ?_ hgg, rest⟩
    cases q <;> simp [rowL]
theorem rowsL_same {w w' : World} {lo : Nat} {hv : Value} {V : Nat → Value} {N : List (List Int)} (hV : RowsX w lo (inL N) (rowL hv V N)) (hs : ∀ g cs T fr, lo ≤ g → (T = 3 ∨ T = 26) → w.heap[g]? = some (.cells cs T fr) → w'.heap[g]? = some (.cells cs T fr)) : RowsX w' lo (inL N) (rowL hv V N) := by
  refine ⟨fun q hq => ?_, hV.apart⟩
  have ho := hV.own q hq
  unfold RowX.own at ho ⊢
  refine ⟨ho.1, ?_⟩
  rcases ho.2 with hn | ⟨g, cap, cur, e, hg, hgg, rest⟩
  · exact .inl hn
  · refine .inr ⟨g, cap, cur, e, hg, hs g _ _ _ hg ?_ hgg, rest⟩
    cases q <;> simp [rowL]
/-- A row of the list, at its place. -/
theorem rowsL_read {w : World} {lo : Nat} {hv : Value} {V : Nat → Value} {N : List (List Int)} (hV : RowsX w lo (inL N) (rowL hv V N)) {j : Nat} (hj : j < N.length) : ∃ h c aj cj, hv = .slice (some ⟨h, 0, none⟩) N.length c ∧ V j = .slice aj (rowN N j).length cj ∧ w.cell? ⟨h, j, none⟩ = some (V j) ∧ View .i64 w aj (rowN N j) ∧ h < w.heap.size := by
  have h0 : w.ownsRow lo 26 1 hv N.length (cellsL V N.length) := hV.own none trivial
  have hr : w.ownsRow lo 3 1 (V j) (rowN N j).length ((rowN N j).map (Value.int .i64)) := hV.own (some j) hj
  obtain ⟨aj, cj, ej, hvj, _⟩ := View.ofOwned hr
  rcases h0.2 with ⟨e, hn⟩ | ⟨g, cap, cur, e, hg, hgg, hle, _⟩
  · omega
  · subst e
    exact ⟨g, cap, aj, cj, rfl, ej, by rw [h0.cellAt j (by omega), cellsL_at V _ j hj], hvj, (Array.getElem?_eq_some_iff.1 hgg).1⟩
theorem OwnL.kept {w w' : World} {lo : Nat} {hv : Value} {N : List (List Int)} {ob : Option Nat} (h : OwnL w lo hv N) (hg : w.grownBy w' ob) (hob : ∀ g, ob = some g → g < lo) : OwnL w' lo hv N := by
  obtain ⟨V, hV⟩ := h; exact ⟨V, hV.kept hg hob⟩
theorem OwnL.below {w w' : World} {lo : Nat} {hv : Value} {N : List (List Int)} (h : OwnL w lo hv N) (hb : Below w.heap.size w w') : OwnL w' lo hv N := h.kept (ob := none) ⟨hb.os, hb.tape, hb.output, hb.size, fun k hk _ => hb.block k hk⟩ (fun g e => by cases e)
theorem OwnL.mono {w : World} {lo lo' : Nat} {hv : Value} {N : List (List Int)} (h : OwnL w lo hv N) (hl : lo' ≤ lo) : OwnL w lo' hv N := by
  obtain ⟨V, hV⟩ := h; exact ⟨V, fun q hq => own_mono (hV.own q hq) hl, hV.apart⟩
/-- What can be read of a list of lists. -/
def LV (w : World) (a : Option Addr) (N : List (List Int)) : Prop :=
  ∀ j, j < N.length → ∃ b off aj nj cj, a = some ⟨b, off, none⟩ ∧ b < w.heap.size ∧ w.cell? ⟨b, off + j, none⟩ = some (.slice aj nj cj) ∧ (rowN N j).length = nj ∧ nj ≤ cj ∧ View .i64 w aj (rowN N j)
theorem LV.below {w w' : World} {a : Option Addr} {N : List (List Int)} (h : LV w a N) (hb : Below w.heap.size w w') : LV w' a N := by
  intro j hj
  obtain ⟨b, off, aj, nj, cj, e, hlt, h1, h2, h3, h4⟩ := h j hj
  exact ⟨b, off, aj, nj, cj, e, Nat.lt_of_lt_of_le hlt hb.size, (hb.cell (p := ⟨b, off + j, none⟩) hlt).trans h1, h2, h3, h4.below hb⟩
/-- Its cells, one by one, at a place that is known. -/
theorem LV.at {w : World} {a : Option Addr} {N : List (List Int)} (h : LV w a N) {j : Nat} (hj : j < N.length) : ∃ b off aj nj cj, a = some ⟨b, off, none⟩ ∧ b < w.heap.size ∧ w.cell? ⟨b, off + j, none⟩ = some (.slice aj nj cj) ∧ (rowN N j).length = nj ∧ nj ≤ cj ∧ View .i64 w aj (rowN N j) := h j hj

theorem OwnL.head {w : World} {lo : Nat} {hv : Value} {N : List (List Int)} (h : OwnL w lo hv N) : ∃ a c, hv = .slice a N.length c ∧ N.length ≤ c ∧ LV w a N ∧ (∀ b off, a = some ⟨b, off, none⟩ → lo ≤ b ∧ b < w.heap.size) := by
  obtain ⟨V, hV⟩ := h
  have h0 : w.ownsRow lo 26 1 hv N.length (cellsL V N.length) := hV.own none trivial
  rcases h0.2 with ⟨e, hn⟩ | ⟨g, cap, cur, e, hg, hgg, hle, _⟩
  · exact ⟨none, 0, by rw [e, hn], by omega, fun j hj => by omega, fun b off e => by cases e⟩
  · refine ⟨some ⟨g, 0, none⟩, cap, e, hle, fun j hj => ?_, fun b off e => by cases e; exact ⟨hg, (Array.getElem?_eq_some_iff.1 hgg).1⟩⟩
    have hr : w.ownsRow lo 3 1 (V j) (rowN N j).length ((rowN N j).map (Value.int .i64)) := hV.own (some j) hj
    obtain ⟨aj, cj, ej, hvj, _⟩ := View.ofOwned hr
    have hcj : (rowN N j).length ≤ cj := by
      rcases hr.2 with ⟨e1, e2⟩ | ⟨g', cap', cur', e1, _, _, hle', _⟩
      · rw [e1] at ej; simp at ej; omega
      · rw [e1] at ej; simp at ej; omega
    refine ⟨g, 0, aj, _, cj, rfl, (Array.getElem?_eq_some_iff.1 hgg).1, ?_, rfl, hcj, hvj⟩
    subst e
    rw [Nat.zero_add, h0.cellAt j (by omega), cellsL_at V _ j hj, ej]

/-- A row that is stored into the list at a place. -/
theorem OwnL.put {W w : World} {lo h c : Nat} {N : List (List Int)} (hN : OwnL W lo (.slice (some ⟨h, 0, none⟩) N.length c) N) (hb : Below W.heap.size W w) {j : Nat} (hj : j < N.length) {v : Value} {l : List Int} (hlo : lo ≤ W.heap.size) (hv : w.ownsRow W.heap.size 3 1 v l.length (l.map (Value.int .i64))) :
    OwnL (w.setCell ⟨h, j, none⟩ v) lo (.slice (some ⟨h, 0, none⟩) N.length c) (N.set j l) ∧ (∃ u, w.cell? ⟨h, j, none⟩ = some u) ∧ w.frozen? ⟨h, j, none⟩ = false ∧ h < W.heap.size := by
  obtain ⟨V, hV⟩ := hN
  have h1 := hV.put (w' := w) (R' := fun q => if q = some j then ⟨3, 1, v, l.length, l.map (Value.int .i64)⟩ else rowL (.slice (some ⟨h, 0, none⟩) N.length c) V N q) (some j) hj ⟨hb.os, hb.tape, hb.output, hb.size, fun k hk _ => hb.block k hk⟩ (by rw [if_pos rfl]; exact own_mono hv hlo) (by rw [if_pos rfl]; exact .inr fun g e => (World.ownsRow.lt hv g e).1) (fun q hq hne => if_neg hne)
  have h0 : w.ownsRow lo 26 1 (.slice (some ⟨h, 0, none⟩) N.length c) N.length (cellsL V N.length) := by have := h1.own none trivial; simpa [RowX.own, rowL] using this
  have hs := own_setAt h0 j v
  have hV0 : W.ownsRow lo 26 1 (.slice (some ⟨h, 0, none⟩) N.length c) N.length (cellsL V N.length) := hV.own none trivial
  refine ⟨⟨fun k => if k = j then v else V k, ?_⟩, ⟨V j, by rw [h0.cellAt j (by omega), cellsL_at V _ j hj]⟩, h0.frozenAt _, (World.ownsRow.lt hV0 h rfl).2⟩
  have h2 := h1.put (w' := w.setCell ⟨h, j, none⟩ v) (R' := rowL (.slice (some ⟨h, 0, none⟩) N.length c) (fun k => if k = j then v else V k) (N.set j l)) none trivial (by simpa [rowL, Value.ownBlock] using grown_setCell w h j v) (by
      unfold RowX.own rowL
      simp only [List.length_set]
      rw [← cellsL_set V _ j v hj]; exact hs) (.inl rfl) (fun q hq hne => by
      cases q with
      | none => exact absurd rfl hne
      | some k =>
        have hk : k < N.length := hq
        by_cases e : k = j
        · subst e; simp [rowL, rowN_set N l k k hj]
        · have e2 : ¬ (some k = some j) := fun x => e (Option.some.inj x)
          simp [rowL, e, e2, rowN_set N l j k hj])
  refine ⟨fun q hq => h2.own q (by cases q with | none => trivial | some k => have : k < (N.set j l).length := hq; rwa [List.length_set] at this), fun q q' hq hq' => h2.apart q q' (by cases q with | none => trivial | some k => have : k < (N.set j l).length := hq; rwa [List.length_set] at this) (by cases q' with | none => trivial | some k => have : k < (N.set j l).length := hq'; rwa [List.length_set] at this)⟩

/-- A row of the list. -/
theorem OwnL.row {w : World} {lo h c : Nat} {N : List (List Int)} (hN : OwnL w lo (.slice (some ⟨h, 0, none⟩) N.length c) N) {j : Nat} (hj : j < N.length) : ∃ v, w.cell? ⟨h, j, none⟩ = some v ∧ w.frozen? ⟨h, j, none⟩ = false ∧ h < w.heap.size ∧ lo ≤ h ∧ w.ownsRow lo 3 1 v (rowN N j).length ((rowN N j).map (Value.int .i64)) ∧
    ∀ (w' : World) (v' : Value) (l : List Int), w.grownBy w' v.ownBlock → (v'.ownBlock = v.ownBlock ∨ ∀ g, v'.ownBlock = some g → w.heap.size ≤ g) → w'.ownsRow lo 3 1 v' l.length (l.map (Value.int .i64)) → OwnL (w'.setCell ⟨h, j, none⟩ v') lo (.slice (some ⟨h, 0, none⟩) N.length c) (N.set j l) ∧ (∃ u, w'.cell? ⟨h, j, none⟩ = some u) ∧ w'.frozen? ⟨h, j, none⟩ = false := by
  obtain ⟨V, hV⟩ := hN
  have hh : w.ownsRow lo 26 1 (.slice (some ⟨h, 0, none⟩) N.length c) N.length (cellsL V N.length) := hV.own none trivial
  refine ⟨V j, by rw [hh.cellAt j (by omega), cellsL_at V _ j hj], hh.frozenAt _, (World.ownsRow.lt hh h rfl).2, (World.ownsRow.lt hh h rfl).1, hV.own (some j) hj, fun w' v' l hg hvb hv => ?_⟩
  have h1 := hV.put (w' := w') (R' := fun q => if q = some j then ⟨3, 1, v', l.length, l.map (Value.int .i64)⟩ else rowL (.slice (some ⟨h, 0, none⟩) N.length c) V N q) (some j) hj hg (by rw [if_pos rfl]; exact hv) (by rw [if_pos rfl]; exact hvb) (fun q hq hne => if_neg hne)
  have h0 : w'.ownsRow lo 26 1 (.slice (some ⟨h, 0, none⟩) N.length c) N.length (cellsL V N.length) := by have := h1.own none trivial; simpa [RowX.own, rowL] using this
  have hs := own_setAt h0 j v'
  refine ⟨⟨fun k => if k = j then v' else V k, ?_⟩, ⟨V j, by rw [h0.cellAt j (by omega), cellsL_at V _ j hj]⟩, h0.frozenAt _⟩
  have h2 := h1.put (w' := w'.setCell ⟨h, j, none⟩ v') (R' := rowL (.slice (some ⟨h, 0, none⟩) N.length c) (fun k => if k = j then v' else V k) (N.set j l)) none trivial (by simpa [rowL, Value.ownBlock] using grown_setCell w' h j v') (by
      unfold RowX.own rowL
      simp only [List.length_set]
      rw [← cellsL_set V _ j v' hj]; exact hs) (.inl rfl) (fun q hq hne => by
      cases q with
      | none => exact absurd rfl hne
      | some k =>
        have hk : k < N.length := hq
        by_cases e : k = j
        · subst e; simp [rowL, rowN_set N l k k hj]
        · have e2 : ¬ (some k = some j) := fun x => e (Option.some.inj x)
          simp [rowL, e, e2, rowN_set N l j k hj])
  refine ⟨fun q hq => h2.own q (by cases q with | none => trivial | some k => have : k < (N.set j l).length := hq; rwa [List.length_set] at this), fun q q' hq hq' => h2.apart q q' (by cases q with | none => trivial | some k => have : k < (N.set j l).length := hq; rwa [List.length_set] at this) (by cases q' with | none => trivial | some k => have : k < (N.set j l).length := hq'; rwa [List.length_set] at this)⟩

/-- A list of n empty rows, as 'make' lays it. -/
theorem OwnL.made {w : World} {lo h n : Nat} (hr : w.ownsRow lo 26 1 (.slice (some ⟨h, 0, none⟩) n n) n (madeCells #[Value.slice none 0 0] (n * 1)).toList) : OwnL w lo (.slice (some ⟨h, 0, none⟩) n n) (List.replicate n []) := by
  have hc : (madeCells #[Value.slice none 0 0] (n * 1)).toList = cellsL (fun _ => .slice none 0 0) n := by
    rw [Nat.mul_one, toList_madeCells_one (.slice none 0 0) n]
    unfold cellsL
    apply List.ext_getElem (by simp)
    intro i h1 h2
    simp
  rw [hc] at hr
  have hrow : ∀ j, rowN (List.replicate n ([] : List Int)) j = [] := fun j => by
    unfold rowN
    by_cases hj : j < n
    · simp [List.getD, List.getElem?_replicate, hj]
    · simp [List.getD, List.getElem?_replicate, hj]
  refine ⟨fun _ => .slice none 0 0, fun q hq => ?_, fun q q' hq hq' hne g e1 e2 => ?_⟩
  · cases q with
    | none => simpa [RowX.own, rowL] using hr
    | some j => simp only [RowX.own, rowL, hrow]; exact World.ownsRow_nil _ _ _ _
  · cases q with
    | none =>
      cases q' with
      | none => exact hne rfl
      | some j => simp [rowL, Value.ownBlock] at e2
    | some j => simp [rowL, Value.ownBlock] at e1

theorem GrInts.info : (Tryz.prog.info? 3).map (fun i => (i.zero, i.size, i.bytes)) = some (some (.int .i64 0), 1, 8) := by kernel_rfl
theorem GrLists.info : (Tryz.prog.info? 26).map (fun i => (i.zero, i.size, i.bytes)) = some (some (.slice none 0 0), 1, 24) := by kernel_rfl
/-- A number appended to a row of numbers of one's own. -/
theorem wpList_app1 {w : World} {ops : Array Oper} {rest : List Oper} {o : Oper} {a : Act} {Q : Exit → Act → World → Prop} (hgd : o.guard = none) (s x : Operand) (ho : o.op = .call { callee := .builtin .append, args := #[s, x], argTypes := #[26, 26] })
    (lo : Nat) (v : Value) (zs : List Int) (y : Int) (hs : a.eval s = v) (B : Nat) (hx : a.eval x = .slice (some ⟨B, 0, none⟩) 1 1) (hB : w.heap[B]? = some (.cells #[.int .i64 y] 3 (0, 0))) (hown : w.ownsRow lo 3 1 v zs.length (zs.map (Value.int .i64))) (hn : zs.length < 17592186044415) (hlo : lo ≤ w.heap.size)
    (h : ∀ g cap w', w'.ownsRow lo 3 1 (.slice (some ⟨g, 0, none⟩) (zs.length + 1) cap) (zs ++ [y]).length ((zs ++ [y]).map (Value.int .i64)) → w.grownBy w' v.ownBlock → (v.ownBlock = some g ∨ g = w.heap.size) → wpList Tryz.prog ops Q rest (a.put o.dst (.slice (some ⟨g, 0, none⟩) (zs.length + 1) cap)) w') : wpList Tryz.prog ops Q (o :: rest) a w := by
  obtain ⟨i0, hi, hz0, hz1, hz2⟩ := info_parts GrInts.info
  refine wpList_append_lies w hgd s x 26 ho lo 3 i0 (.int .i64 0) 1 8 Tryz.underlying26 hi hz0 hz1 hz2 rfl (by decide) v zs.length (zs.map (Value.int .i64)) hs hown ⟨B, 0, none⟩ 1 1 [.int .i64 y] hx rfl (World.news_of_block (cs := #[.int .i64 y]) (t := 3) (fr := (0, 0)) hB) (by intro u hu; simp at hu; subst hu; rfl) (by decide) (by unfold maxLen; omega) (by omega) hlo w.heap.size rfl ?_
  intro g cap w' h1 h2 h3 _
  exact h g cap w' (by simpa using h1) h2 h3
end Go.Proofs.YtlcaedibmlidlaaGreat

/-
  Marks of nodes: whether a node is marked, and a mark more.
-/
namespace Go.Proofs.YtlcaedibmlidlaaGreat
open Go.RowKit
set_option linter.unusedVariables false
set_option linter.unusedSimpArgs false
set_option maxRecDepth 10000

/-- The words of marks, at a place. -/
def MkAt (w : World) (b off : Nat) (m : Nat → Nat) : Prop := ∀ k, k < 64 → w.cell? ⟨b, off + k, none⟩ = some (.int .u64 (m k : Int)) ∧ w.frozen? ⟨b, off + k, none⟩ = false ∧ m k < 18446744073709551616
def hasM (m : Nat → Nat) (i : Nat) : Bool := (m (i / 64)).testBit (i % 64)
def setM (m : Nat → Nat) (i : Nat) : Nat → Nat := fun k => if k = i / 64 then m k ||| 2 ^ (i % 64) else m k

theorem hasM_setM (m : Nat → Nat) (i j : Nat) : hasM (setM m i) j = (decide (j = i) || hasM m j) := by
  unfold hasM setM
  by_cases h : j / 64 = i / 64
  · rw [if_pos h, Nat.testBit_or, Nat.testBit_two_pow]
    by_cases h2 : j = i
    · subst h2; simp
    · have : ¬ i % 64 = j % 64 := by omega
      simp [h2, this]
  · rw [if_neg h]
    have : ¬ j = i := fun e => h (by rw [e])
    simp [this]
theorem setM_lt (m : Nat → Nat) (i k : Nat) (h : m k < 18446744073709551616) : setM m i k < 18446744073709551616 := by
  unfold setM; split
  · have : (2 : Nat) ^ (i % 64) < 2 ^ 64 := Nat.pow_lt_pow_right (by omega) (by omega)
    exact Nat.or_lt_two_pow (n := 64) h this
  · exact h
theorem pow_wrap (r : Nat) (hr : r < 64) : IntKind.u64.wrap (2 ^ r) = (2 : Int) ^ r := by
  have hp : (2 : Nat) ^ r < 18446744073709551616 := Nat.pow_lt_pow_right (n := 64) (by omega) hr
  have e : (2 : Int) ^ r = ((2 ^ r : Nat) : Int) := by simp
  rw [e]
  clear e
  generalize (2 : Nat) ^ r = P at *
  rw [IntKind.wrap_u64]
  omega
theorem bit_and (v r : Nat) (h : v < 18446744073709551616) : (bits .and .u64 ((v : Int) / 2 ^ r) 1 == 1) = v.testBit r := by
  have e : ((v : Int) / 2 ^ r) = ((v / 2 ^ r : Nat) : Int) := by simp
  rw [e]
  have hb := u64_and_nat (v / 2 ^ r) 1 (Nat.lt_of_le_of_lt (Nat.div_le_self _ _) h) (by omega)
  rw [show ((1 : Nat) : Int) = 1 from rfl] at hb
  rw [hb, Nat.testBit_eq_decide_div_mod_eq, Nat.and_one_is_mod]
  rw [Bool.eq_iff_iff]
  simp
  omega

set_option maxHeartbeats 1000000 in
theorem marksHas_any (b off : Nat) (m : Nat → Nat) (i : Nat) (w : World) (h : MkAt w b off m) (hi : i < 4096) : Calls Tryz.prog 79 #[.pointer (some ⟨b, off, none⟩), .int .i64 (i : Int)] w fun e w' => e = .returned (.bool (hasM m i)) ∧ w = w' := by
  obtain ⟨hc, hf, hm⟩ := h (i / 64) (by omega)
  have h0 : (0 : Int) ≤ (i : Int) := by omega
  have h1 : (i : Int) < 4096 := by omega
  obtain ⟨q, hq⟩ : ∃ q, i / 64 = q := ⟨_, rfl⟩
  obtain ⟨r, hr⟩ : ∃ r, i % 64 = r := ⟨_, rfl⟩
  have hqi : (i : Int) / 64 = (q : Int) := by omega
  have hri : (i : Int) % 64 = (r : Int) := by omega
  have HQ : Hid (q < 64) := by show q < 64; omega
  have hq1 : (q : Int) < 64 := by omega
  have hr1 : (r : Int) < 64 := by omega
  have HX : Hid (hasM m i = (m q).testBit r) := by show _ = _; unfold hasM; rw [hq, hr]
  rw [hq] at hc hm
  generalize hasM m i = x at *
  generalize m q = v at *
  have HM := hide hm
  clear h hi hf hq hr hm
  go_enter Tryz.func79, Tryz.ntmps79
  go_wp2
  go_ret
  exact ⟨by rw [HX.out, bit_and v r HM.out]; rfl, rfl⟩

set_option maxHeartbeats 2000000 in
theorem marksSet_any (b off : Nat) (m : Nat → Nat) (i : Nat) (w : World) (h : MkAt w b off m) (hi : i < 4096) : Calls Tryz.prog 141 #[.pointer (some ⟨b, off, none⟩), .int .i64 (i : Int)] w fun e w' => e = .returned (.tuple #[]) ∧ ∃ d, w' = (w.setCell ⟨b, off + i / 64, none⟩ (.int .u64 (setM m i (i / 64) : Int))).drewN d := by
  obtain ⟨hc, hf, hm⟩ := h (i / 64) (by omega)
  have h0 : (0 : Int) ≤ (i : Int) := by omega
  have h1 : (i : Int) < 4096 := by omega
  obtain ⟨q, hq⟩ : ∃ q, i / 64 = q := ⟨_, rfl⟩
  obtain ⟨r, hr⟩ : ∃ r, i % 64 = r := ⟨_, rfl⟩
  have eq : (i : Int).tdiv 64 = (q : Int) := by rw [Int.tdiv_eq_ediv_of_nonneg (by omega)]; omega
  have em : (i : Int).tmod 64 = (r : Int) := by rw [Int.tmod_eq_emod_of_nonneg (by omega)]; omega
  have hqi : (i : Int) / 64 = (q : Int) := by omega
  have hri : (i : Int) % 64 = (r : Int) := by omega
  have hq1 : (q : Int) < 64 := by omega
  have hr1 : (r : Int) < 64 := by omega
  have hwq : IntKind.i64.wrap (q : Int) = (q : Int) := by rw [IntKind.wrap_i64]; omega
  have hwr : IntKind.i64.wrap (r : Int) = (r : Int) := by rw [IntKind.wrap_i64]; omega
  have HX : Hid ((setM m i q : Int) = bits .or .u64 (m q : Int) (2 ^ r)) := by
    show _ = _
    unfold setM
    rw [if_pos hq.symm, hr]
    have hp : (2 : Nat) ^ r < 18446744073709551616 := Nat.pow_lt_pow_right (n := 64) (by omega) (by omega)
    rw [hq] at hm
    have := u64_or_nat (m q) (2 ^ r) hm hp
    rw [← this]; simp
  have hws : IntKind.u64.wrap (2 ^ r) = (2 : Int) ^ r := pow_wrap r (by omega)
  rw [hq] at hc hm hf ⊢
  generalize setM m i q = x at *
  generalize m q = v at *
  have HM := hide hm
  clear h hi hq hr hm
  go_enter Tryz.func141, Tryz.ntmps141
  go_region_with (fail)
  all_goals
    go_end0
    rw [← HX.out]
    exact ⟨rfl, 1, rfl⟩

end Go.Proofs.YtlcaedibmlidlaaGreat
