/-
  Plain mathematics of graphs: edges each once, edges from behind, a walk in the depth.
-/
import Derived.Test.YtpdjmapmpicgjaaMath
namespace Go.Proofs.Ytpdjmapmpicgjaa
open Go.RowKit
set_option linter.unusedVariables false
set_option linter.unusedSimpArgs false

/-- A row of a list of rows. -/
def rowN (N : List (List Int)) (j : Nat) : List Int := N.getD j []
theorem rowN_out (N : List (List Int)) (j : Nat) (h : N.length ≤ j) : rowN N j = [] := by simp [rowN, List.getD, List.getElem?_eq_none h]
theorem rowN_mem (N : List (List Int)) (j : Nat) (h : j < N.length) : rowN N j ∈ N := by
  have : rowN N j = N[j] := by simp [rowN, List.getD, h]
  rw [this]; exact List.getElem_mem h
theorem rowN_map (N : List (List Int)) (f : List Int → List Int) (j : Nat) (h : j < N.length) : rowN (N.map f) j = f (rowN N j) := by
  simp [rowN, List.getD, h]
theorem rowN_take (N : List (List Int)) (k j : Nat) (h : j < k) : rowN (N.take k) j = rowN N j := by
  simp [rowN, List.getD, List.getElem?_take, h]
theorem rowN_app (N : List (List Int)) (l : List Int) (j : Nat) (h : j < N.length) : rowN (N ++ [l]) j = rowN N j := by
  simp [rowN, List.getD, List.getElem?_append_left h]
theorem rowN_last (N : List (List Int)) (l : List Int) : rowN (N ++ [l]) N.length = l := by simp [rowN, List.getD]
theorem rowN_set (N : List (List Int)) (l : List Int) (i j : Nat) (h : i < N.length) : rowN (N.set i l) j = if j = i then l else rowN N j := by
  by_cases e : j = i
  · subst e; simp [rowN, List.getD, h]
  · have e' : ¬ i = j := fun x => e x.symm
    simp [rowN, List.getD, List.getElem?_set, e, e']
theorem rows_ext {N M : List (List Int)} (h : N.length = M.length) (h2 : ∀ j, j < N.length → rowN N j = rowN M j) : N = M := by
  apply List.ext_getElem h
  intro j h1 h3
  have := h2 j h1
  simpa [rowN, List.getD, h1, h3] using this

/-- Every number of every row lies in 0 to n - 1. -/
def Edges (n : Nat) (N : List (List Int)) : Prop := ∀ j x, x ∈ rowN N j → 0 ≤ x ∧ x < n

/-- A number more, if it is not there yet. -/
def addN (acc : List Int) (x : Int) : List Int := if x ∈ acc then acc else acc ++ [x]
/-- Numbers, each where it stands first. -/
def onceF (l : List Int) : List Int := l.foldl addN []
theorem once_snoc (l : List Int) (k : Nat) (h : k < l.length) : onceF (l.take (k + 1)) = addN (onceF (l.take k)) (nth l k) := by
  unfold onceF; rw [take_snoc l k h, List.foldl_append]; rfl
theorem addN_mem (acc : List Int) (x y : Int) : y ∈ addN acc x ↔ y ∈ acc ∨ y = x := by
  unfold addN; split
  · rename_i h; exact ⟨.inl, fun h' => by rcases h' with h' | rfl <;> assumption⟩
  · simp
theorem addN_nodup (acc : List Int) (x : Int) (h : acc.Nodup) : (addN acc x).Nodup := by
  unfold addN; split
  · exact h
  · rename_i hx
    rw [List.nodup_append]
    exact ⟨h, by simp, fun a ha b hb e => by simp at hb; subst hb; subst e; exact hx ha⟩
theorem addN_len (acc : List Int) (x : Int) : (addN acc x).length ≤ acc.length + 1 := by
  unfold addN; split <;> simp
theorem once_fold (l acc : List Int) (h : acc.Nodup) : (l.foldl addN acc).Nodup ∧ (∀ y, y ∈ l.foldl addN acc ↔ y ∈ acc ∨ y ∈ l) ∧ (l.foldl addN acc).length ≤ acc.length + l.length := by
  induction l generalizing acc with
  | nil => simp [h]
  | cons x l ih =>
    obtain ⟨h1, h2, h3⟩ := ih (addN acc x) (addN_nodup acc x h)
    refine ⟨h1, fun y => ?_, ?_⟩
    · rw [List.foldl_cons, h2, addN_mem, List.mem_cons, or_assoc]
    · have := addN_len acc x
      rw [List.foldl_cons, List.length_cons]; omega
theorem once_nodup (l : List Int) : (onceF l).Nodup := (once_fold l [] (by simp)).1
theorem once_mem (l : List Int) (y : Int) : y ∈ onceF l ↔ y ∈ l := by
  have := (once_fold l [] (by simp)).2.1 y
  simpa [onceF] using this
theorem once_len (l : List Int) : (onceF l).length ≤ l.length := by
  have := (once_fold l [] (by simp)).2.2
  simpa [onceF] using this

/-- The rows of a graph while they are made. -/
def madeQ (N : List (List Int)) (k : Nat) : List (List Int) := (List.range N.length).map fun j => if j < k then onceF (rowN N j) else []
theorem madeQ_len (N : List (List Int)) (k : Nat) : (madeQ N k).length = N.length := by simp [madeQ]
theorem madeQ_row (N : List (List Int)) (k j : Nat) (h : j < N.length) : rowN (madeQ N k) j = if j < k then onceF (rowN N j) else [] := by
  show (madeQ N k).getD j [] = _
  unfold madeQ
  rw [List.getD_eq_getElem?_getD, List.getElem?_map, List.getElem?_range h]
  rfl
theorem madeQ_zero (N : List (List Int)) : madeQ N 0 = List.replicate N.length [] := by
  apply rows_ext (by simp [madeQ])
  intro j hj
  rw [madeQ_len] at hj
  rw [madeQ_row N 0 j hj]
  simp [rowN, List.getD, List.getElem?_replicate, hj]
theorem madeQ_set (N : List (List Int)) (k : Nat) (h : k < N.length) : (madeQ N k).set k (onceF (rowN N k)) = madeQ N (k + 1) := by
  apply rows_ext (by simp [madeQ])
  intro j hj
  rw [List.length_set, madeQ_len] at hj
  rw [rowN_set _ _ _ _ (by rw [madeQ_len]; exact h), madeQ_row N k j hj, madeQ_row N (k + 1) j hj]
  by_cases e : j = k
  · subst e; simp
  · rw [if_neg e]
    by_cases e2 : j < k
    · rw [if_pos e2, if_pos (by omega)]
    · rw [if_neg e2, if_neg (by omega)]
theorem madeQ_whole (N : List (List Int)) : madeQ N N.length = N.map onceF := by
  apply rows_ext (by simp [madeQ])
  intro j hj
  rw [madeQ_len] at hj
  rw [madeQ_row _ _ _ hj, if_pos hj, rowN_map N onceF j hj]
/-- Numbers of 0 to n - 1, each once, are at most n. -/
theorem nodup_len : ∀ (n : Nat) (l : List Int), l.Nodup → (∀ x ∈ l, 0 ≤ x ∧ x < n) → l.length ≤ n
  | 0, l, _, h => by
    cases l with
    | nil => simp
    | cons x l => have := h x (by simp); omega
  | n + 1, l, hd, h => by
    by_cases hm : (n : Int) ∈ l
    · have h1 := nodup_len n (l.erase (n : Int)) (hd.erase _) (fun x hx => by
        have hx' := (List.Nodup.mem_erase_iff hd).1 hx
        have := h x hx'.2
        have := hx'.1
        omega)
      rw [List.length_erase_of_mem hm] at h1
      omega
    · have := nodup_len n l hd (fun x hx => by
        have := h x hx
        have : x ≠ (n : Int) := fun e => hm (e ▸ hx)
        omega)
      omega

/-- The nodes ahead of a node, of the first k. -/
def aheadT (N : List (List Int)) (k : Nat) (j : Int) : List Int := ((List.range k).filter fun i => j ∈ rowN N i).map Int.ofNat
theorem aheadT_succ (N : List (List Int)) (k : Nat) (j : Int) : aheadT N (k + 1) j = aheadT N k j ++ (if j ∈ rowN N k then [(k : Int)] else []) := by
  unfold aheadT
  rw [List.range_succ, List.filter_append, List.map_append]
  congr 1
  by_cases h : j ∈ rowN N k <;> simp [h]
def aheadF (N : List (List Int)) (j : Int) : List Int := aheadT N N.length j
def aheadR (N : List (List Int)) : List (List Int) := (List.range N.length).map fun (j : Nat) => aheadF N (j : Int)
theorem aheadR_len (N : List (List Int)) : (aheadR N).length = N.length := by simp [aheadR]
theorem aheadR_row (N : List (List Int)) (j : Nat) (h : j < N.length) : rowN (aheadR N) j = aheadF N (j : Int) := by simp [rowN, aheadR, List.getD, h]
theorem aheadT_mem (N : List (List Int)) (k : Nat) (j x : Int) : x ∈ aheadT N k j ↔ ∃ i : Nat, i < k ∧ j ∈ rowN N i ∧ x = (i : Int) := by
  unfold aheadT
  simp only [List.mem_map, List.mem_filter, List.mem_range, decide_eq_true_eq]
  constructor
  · rintro ⟨i, ⟨h1, h2⟩, rfl⟩; exact ⟨i, h1, h2, rfl⟩
  · rintro ⟨i, h1, h2, rfl⟩; exact ⟨i, ⟨h1, h2⟩, rfl⟩
theorem aheadT_len (N : List (List Int)) (k : Nat) (j : Int) : (aheadT N k j).length ≤ k := by
  unfold aheadT
  rw [List.length_map]
  exact Nat.le_trans (List.length_filter_le _ _) (by simp)

/-- The rows while they are built: all of the first k nodes, and q edges of the next one. -/
def aheadQ (N : List (List Int)) (k q : Nat) : List (List Int) := (List.range N.length).map fun (j : Nat) => aheadT N k (j : Int) ++ (if (j : Int) ∈ (rowN N k).take q then [(k : Int)] else [])
theorem aheadQ_len (N : List (List Int)) (k q : Nat) : (aheadQ N k q).length = N.length := by simp [aheadQ]
theorem aheadQ_row (N : List (List Int)) (k q j : Nat) (h : j < N.length) : rowN (aheadQ N k q) j = aheadT N k (j : Int) ++ (if (j : Int) ∈ (rowN N k).take q then [(k : Int)] else []) := by
  show (aheadQ N k q).getD j [] = _
  unfold aheadQ
  rw [List.getD_eq_getElem?_getD, List.getElem?_map, List.getElem?_range h]
  rfl
theorem aheadQ_start (N : List (List Int)) : aheadQ N 0 0 = List.replicate N.length [] := by
  apply rows_ext (by simp [aheadQ])
  intro j hj
  rw [aheadQ_len] at hj
  rw [aheadQ_row N 0 0 j hj]
  simp [aheadT, rowN, List.getD, List.getElem?_replicate, hj]
theorem aheadQ_end (N : List (List Int)) (k : Nat) : aheadQ N k (rowN N k).length = aheadQ N (k + 1) 0 := by
  apply rows_ext (by simp [aheadQ])
  intro j hj
  rw [aheadQ_len] at hj
  rw [aheadQ_row _ _ _ j hj, aheadQ_row _ _ _ j hj, aheadT_succ, List.take_length]
  simp
theorem aheadQ_whole (N : List (List Int)) : aheadQ N N.length 0 = aheadR N := by
  apply rows_ext (by simp [aheadQ, aheadR])
  intro j hj
  rw [aheadQ_len] at hj
  rw [aheadQ_row _ _ _ j hj, aheadR_row N j hj]
  simp [aheadF]
theorem aheadQ_step (N : List (List Int)) (k q t : Nat) (hd : (rowN N k).Nodup) (hq : q < (rowN N k).length) (ht : nth (rowN N k) q = (t : Int)) (htl : t < N.length) :
    (aheadQ N k q).set t (rowN (aheadQ N k q) t ++ [(k : Int)]) = aheadQ N k (q + 1) := by
  apply rows_ext (by simp [aheadQ])
  intro j hj
  rw [List.length_set, aheadQ_len] at hj
  rw [rowN_set _ _ _ _ (by rw [aheadQ_len]; exact htl), aheadQ_row N k q j hj, aheadQ_row N k q t htl, aheadQ_row N k (q + 1) j hj, take_snoc _ _ hq, ht]
  have hnot : ¬ (t : Int) ∈ (rowN N k).take q := by
    have h1 := take_snoc (rowN N k) q hq
    have h2 : ((rowN N k).take (q + 1)).Nodup := hd.sublist (List.take_sublist _ _)
    rw [h1, ht, List.nodup_append] at h2
    exact fun h => h2.2.2 _ h _ (by simp) rfl
  by_cases e : j = t
  · subst e
    simp [hnot]
  · have e2 : ¬ (j : Int) = (t : Int) := by omega
    simp [e, e2, aheadQ_row _ _ _ j hj]

/-! ### the walk -/
abbrev WalkS := List Int × List Int
def stepD (f : Int → WalkS → WalkS) (s : WalkS) (j : Int) : WalkS := if j ∈ s.1 then s else f j s
def dfs (N : List (List Int)) : Nat → Int → WalkS → WalkS
  | 0, _, s => s
  | f + 1, i, s => (((rowN N i.toNat).foldl (stepD (dfs N f)) (s.1 ++ [i], s.2)).1, ((rowN N i.toNat).foldl (stepD (dfs N f)) (s.1 ++ [i], s.2)).2 ++ [i])
/-- What the walk came to behind the first k edges of a node. -/
def dfsK (N : List (List Int)) (f : Nat) (i : Int) (s : WalkS) (k : Nat) : WalkS := ((rowN N i.toNat).take k).foldl (stepD (dfs N f)) (s.1 ++ [i], s.2)
theorem dfsK_zero (N : List (List Int)) (f : Nat) (i : Int) (s : WalkS) : dfsK N f i s 0 = (s.1 ++ [i], s.2) := rfl
theorem dfsK_succ (N : List (List Int)) (f : Nat) (i : Int) (s : WalkS) (k : Nat) (h : k < (rowN N i.toNat).length) : dfsK N f i s (k + 1) = stepD (dfs N f) (dfsK N f i s k) (nth (rowN N i.toNat) k) := by
  unfold dfsK; rw [take_snoc _ _ h, List.foldl_append]; rfl
theorem dfs_succ (N : List (List Int)) (f : Nat) (i : Int) (s : WalkS) : dfs N (f + 1) i s = ((dfsK N f i s (rowN N i.toNat).length).1, (dfsK N f i s (rowN N i.toNat).length).2 ++ [i]) := by
  unfold dfsK; rw [List.take_length]; rfl

/-- Nodes, each once. -/
def GoodC (n : Nat) (c : List Int) : Prop := c.Nodup ∧ ∀ x ∈ c, 0 ≤ x ∧ x < n
theorem GoodC.len {n : Nat} {c : List Int} (h : GoodC n c) : c.length ≤ n := nodup_len n c h.1 h.2
theorem GoodC.snoc {n : Nat} {c : List Int} (h : GoodC n c) {i : Int} (hi : i ∉ c) (h0 : 0 ≤ i) (h1 : i < n) : GoodC n (c ++ [i]) := by
  refine ⟨?_, fun x hx => ?_⟩
  · rw [List.nodup_append]
    exact ⟨h.1, by simp, fun a ha b hb e => by simp at hb; subst hb; subst e; exact hi ha⟩
  · rcases List.mem_append.1 hx with hx | hx
    · exact h.2 x hx
    · simp at hx; subst hx; exact ⟨h0, h1⟩

/-- A way leads from a node to another one. -/
def Ways (N : List (List Int)) : Nat → Int → Int → Prop
  | 0, i, j => i = j
  | k + 1, i, j => ∃ m, Ways N k i m ∧ j ∈ rowN N m.toNat
def Reach (N : List (List Int)) (i j : Int) : Prop := ∃ k, Ways N k i j
theorem Reach.refl (N : List (List Int)) (i : Int) : Reach N i i := ⟨0, rfl⟩
theorem Reach.step {N : List (List Int)} {i m j : Int} (h : Reach N i m) (hj : j ∈ rowN N m.toNat) : Reach N i j := by
  obtain ⟨k, hk⟩ := h; exact ⟨k + 1, m, hk, hj⟩
theorem Reach.trans {N : List (List Int)} {i m j : Int} (h : Reach N i m) (h2 : Reach N m j) : Reach N i j := by
  obtain ⟨k, hk⟩ := h2
  induction k generalizing j with
  | zero => cases hk; exact h
  | succ k ih => obtain ⟨q, hq, hj⟩ := hk; exact (ih hq).step hj
theorem Reach.closed {N : List (List Int)} {c : List Int} {i j : Int} (h : Reach N i j) (hi : i ∈ c) (hc : ∀ x ∈ c, ∀ y ∈ rowN N x.toNat, y ∈ c) : j ∈ c := by
  obtain ⟨k, hk⟩ := h
  induction k generalizing j with
  | zero => cases hk; exact hi
  | succ k ih => obtain ⟨q, hq, hj⟩ := hk; exact hc q (ih hq) j hj

/-- What a piece of the walk comes to: the nodes e more, left in the order d. -/
structure Seg (N : List (List Int)) (n : Nat) (s t : WalkS) (e d : List Int) : Prop where
  came : t.1 = s.1 ++ e
  left : t.2 = s.2 ++ d
  perm : d.Perm e
  good : GoodC n t.1
  closed : ∀ x ∈ e, ∀ y ∈ rowN N x.toNat, y ∈ t.1

theorem seg_nil {N : List (List Int)} {n : Nat} {s : WalkS} (h : GoodC n s.1) : Seg N n s s [] [] :=
  ⟨by simp, by simp, List.Perm.refl _, h, fun x hx => by simp at hx⟩
theorem Seg.trans {N : List (List Int)} {n : Nat} {s t u : WalkS} {e d e' d' : List Int} (h : Seg N n s t e d) (k : Seg N n t u e' d') : Seg N n s u (e ++ e') (d ++ d') := by
  refine ⟨by rw [k.came, h.came, List.append_assoc], by rw [k.left, h.left, List.append_assoc], h.perm.append k.perm, k.good, fun x hx y hy => ?_⟩
  rcases List.mem_append.1 hx with hx | hx
  · rw [k.came]; exact List.mem_append.2 (.inl (h.closed x hx y hy))
  · exact k.closed x hx y hy

/-- Each node but the first js is led to from one ahead of it. -/
def LedBy (N : List (List Int)) (js e : List Int) : Prop := ∀ p x q, e = p ++ x :: q → (∃ y ∈ p, x ∈ rowN N y.toNat) ∨ x ∈ js
theorem LedBy.mono {N : List (List Int)} {js js' e : List Int} (h : LedBy N js e) (hs : ∀ x ∈ js, x ∈ js') : LedBy N js' e := fun p x q he => by
  rcases h p x q he with h | h
  · exact .inl h
  · exact .inr (hs x h)
theorem LedBy.app {N : List (List Int)} {js e e' : List Int} (h : LedBy N js e) (h' : LedBy N js e') : LedBy N js (e ++ e') := fun p x q he => by
  rcases List.append_eq_append_iff.1 he with ⟨a, h1, h2⟩ | ⟨a, h1, h2⟩
  · rcases h' a x q h2 with ⟨y, hy, hx⟩ | hx
    · exact .inl ⟨y, by rw [h1]; exact List.mem_append.2 (.inr hy), hx⟩
    · exact .inr hx
  · cases a with
    | nil =>
      simp at h2
      rcases h' [] x q (by rw [← h2]; rfl) with ⟨y, hy, hx⟩ | hx
      · simp at hy
      · exact .inr hx
    | cons z a =>
      simp at h2
      obtain ⟨rfl, h2⟩ := h2
      exact h p x a h1

theorem walk_all (N : List (List Int)) (n : Nat) (hE : Edges n N) : ∀ f,
    (∀ (js : List Int) (s : WalkS), GoodC n s.1 → (∀ x ∈ js, (0 : Int) ≤ x ∧ x < (n : Int)) → n - s.1.length ≤ f → ∃ e d, Seg N n s (js.foldl (stepD (dfs N f)) s) e d ∧ (∀ y ∈ js, y ∈ (js.foldl (stepD (dfs N f)) s).1) ∧ LedBy N js e) ∧
    (∀ (i : Int) (s : WalkS), GoodC n s.1 → i ∉ s.1 → 0 ≤ i → i < (n : Int) → n - s.1.length ≤ f → ∃ e d, Seg N n s (dfs N f i s) (i :: e) d ∧ LedBy N [i] (i :: e)) := by
  intro f
  induction f with
  | zero =>
    have full : ∀ s : WalkS, GoodC n s.1 → n - s.1.length ≤ 0 → ∀ x : Int, 0 ≤ x → x < (n : Int) → x ∈ s.1 := by
      intro s hg hl x h0 h1
      refine Decidable.byContradiction fun hx => ?_
      have := (hg.snoc hx h0 h1).len
      simp at this; omega
    constructor
    · intro js s hg hj hl
      have e : js.foldl (stepD (dfs N 0)) s = s := by
        clear hl
        induction js with
        | nil => rfl
        | cons x js ih =>
          have hx : stepD (dfs N 0) s x = s := by unfold stepD; split <;> rfl
          rw [List.foldl_cons, hx]
          exact ih (fun y hy => hj y (List.mem_cons_of_mem _ hy))
      rw [e]
      exact ⟨[], [], seg_nil hg, fun y hy => full s hg hl y (hj y hy).1 (hj y hy).2, fun p x q h => by cases p <;> simp at h⟩
    · intro i s hg hi h0 h1 hl
      exact absurd (full s hg hl i h0 h1) hi
  | succ f ih =>
    have call : ∀ (i : Int) (s : WalkS), GoodC n s.1 → i ∉ s.1 → 0 ≤ i → i < (n : Int) → n - s.1.length ≤ f + 1 → ∃ e d, Seg N n s (dfs N (f + 1) i s) (i :: e) d ∧ LedBy N [i] (i :: e) := by
      intro i s hg hi h0 h1 hl
      obtain ⟨e, d, hs, hin, hled⟩ := ih.1 (rowN N i.toNat) (s.1 ++ [i], s.2) (hg.snoc hi h0 h1) (fun x hx => hE _ x hx) (by simp; omega)
      generalize ht : (rowN N i.toNat).foldl (stepD (dfs N f)) (s.1 ++ [i], s.2) = t at hs hin
      have e1 : dfs N (f + 1) i s = (t.1, t.2 ++ [i]) := by rw [← ht]; rfl
      rw [e1]
      refine ⟨e, d ++ [i], ⟨by rw [hs.came]; simp, by rw [hs.left]; simp, (hs.perm.append_right [i]).trans (by simp), hs.good, fun x hx y hy => ?_⟩, fun p x q he => ?_⟩
      · rcases List.mem_cons.1 hx with rfl | hx
        · exact hin y hy
        · exact hs.closed x hx y hy
      · cases p with
        | nil => simp at he; exact .inr (by simp [he.1])
        | cons z p =>
          simp at he
          obtain ⟨rfl, he⟩ := he
          rcases hled p x q he with ⟨y, hy, hx⟩ | hx
          · exact .inl ⟨y, List.mem_cons_of_mem _ hy, hx⟩
          · exact .inl ⟨i, by simp, hx⟩
    refine ⟨?_, call⟩
    intro js
    induction js with
    | nil => intro s hg _ _; exact ⟨[], [], seg_nil hg, fun y hy => by simp at hy, fun p x q h => by cases p <;> simp at h⟩
    | cons j js ihj =>
      intro s hg hj hl
      have hj' : ∀ x ∈ js, (0 : Int) ≤ x ∧ x < (n : Int) := fun y hy => hj y (List.mem_cons_of_mem _ hy)
      rw [List.foldl_cons]
      by_cases hm : j ∈ s.1
      · have e1 : stepD (dfs N (f + 1)) s j = s := if_pos hm
        rw [e1]
        obtain ⟨e, d, hs, hin, hled⟩ := ihj s hg hj' hl
        refine ⟨e, d, hs, fun y hy => ?_, hled.mono fun x hx => List.mem_cons_of_mem _ hx⟩
        rcases List.mem_cons.1 hy with rfl | hy
        · rw [hs.came]; exact List.mem_append.2 (.inl hm)
        · exact hin y hy
      · have e1 : stepD (dfs N (f + 1)) s j = dfs N (f + 1) j s := if_neg hm
        rw [e1]
        obtain ⟨e, d, hs, hled⟩ := call j s hg hm (hj j (by simp)).1 (hj j (by simp)).2 hl
        obtain ⟨e', d', hs', hin', hled'⟩ := ihj (dfs N (f + 1) j s) hs.good hj' (by rw [hs.came]; simp; omega)
        refine ⟨_, _, hs.trans hs', fun y hy => ?_, LedBy.app (hled.mono fun x hx => ?_) (hled'.mono fun x hx => List.mem_cons_of_mem _ hx)⟩
        · rcases List.mem_cons.1 hy with rfl | hy
          · rw [hs'.came, hs.came]; simp
          · exact hin' y hy
        · simp at hx; simp [hx]

/-- What lies behind in a led row is reached. -/
theorem led_reach {N : List (List Int)} {i : Int} {e : List Int} (h : LedBy N [i] e) : ∀ x ∈ e, Reach N i x := by
  have key : ∀ k p x q, p.length ≤ k → e = p ++ x :: q → Reach N i x := by
    intro k
    induction k with
    | zero =>
      intro p x q hp he
      have : p = [] := List.eq_nil_of_length_eq_zero (by omega)
      subst this
      rcases h [] x q he with ⟨y, hy, _⟩ | hx
      · simp at hy
      · simp at hx; subst hx; exact Reach.refl _ _
    | succ k ih =>
      intro p x q hp he
      rcases h p x q he with ⟨y, hy, hx⟩ | hx
      · obtain ⟨a, b, rfl⟩ := List.append_of_mem hy
        have := ih a y (b ++ x :: q) (by simp at hp; omega) (by rw [he]; simp)
        exact this.step hx
      · simp at hx; subst hx; exact Reach.refl _ _
  intro x hx
  obtain ⟨p, q, rfl⟩ := List.append_of_mem hx
  exact key p.length p x q (Nat.le_refl _) rfl

/-- The whole walk, from the node 0. -/
def walkF (N : List (List Int)) : WalkS := dfs N N.length 0 ([], [])
structure WalkQ (N : List (List Int)) (t : WalkS) : Prop where
  good : GoodC N.length t.1
  perm : t.2.Perm t.1
  mem : ∀ x, x ∈ t.1 ↔ Reach N 0 x
  first : ∃ e, t.1 = 0 :: e
  closed : ∀ x ∈ t.1, ∀ y ∈ rowN N x.toNat, y ∈ t.1
  led : LedBy N [0] t.1
theorem walkF_all (N : List (List Int)) (hE : Edges N.length N) (h0 : 0 < N.length) : WalkQ N (walkF N) := by
  obtain ⟨e, d, hs, hl⟩ := (walk_all N N.length hE N.length).2 0 ([], []) ⟨by simp, fun x hx => by simp at hx⟩ (by simp) (by omega) (by omega) (by simp)
  have hc : (walkF N).1 = 0 :: e := by have := hs.came; simpa [walkF] using this
  have hd : (walkF N).2 = d := by have := hs.left; simpa [walkF] using this
  have hcl : ∀ x ∈ (walkF N).1, ∀ y ∈ rowN N x.toNat, y ∈ (walkF N).1 := fun x hx y hy => hs.closed x (by rw [← hc]; exact hx) y hy
  refine ⟨hs.good, by rw [hd, hc]; exact hs.perm, fun x => ⟨fun hx => ?_, fun hx => ?_⟩, ⟨e, hc⟩, hcl, by rw [hc]; exact hl⟩
  · rw [hc] at hx; exact led_reach hl x hx
  · exact hx.closed (by rw [hc]; simp) hcl

end Go.Proofs.Ytpdjmapmpicgjaa
