/-
  Texts laid together in one: ArgLists, MathGu, Law14Copied, Law14Place, LawGraphOrders.
-/
import Derived.ProofKit
import Derived.OpenShut
import Derived.SizedLaws
import Derived.Deep.Matrix
import Derived.Test.YtpdjmapmpicgjabProg
import Derived.Test.YtpdjmapmpicgjabB03
import Derived.Test.YtpdjmapmpicgjabB01
import Derived.Test.YtpdjmapmpicgjabB02
import Derived.WalkSpells
import Derived.WalkMore
import Derived.OwnWalk
import Derived.BigRegion
import Derived.Deep.RegionWith
import Derived.BigGuard
import Derived.Deep.QuietTactic
import Derived.BigQuiet
import Derived.Test.YtpdjmapmpicgjabB05
/-
  What an argument that is a slice of slices of numbers holds: each row can be read, and lies within the reach of memory.
-/
namespace Go.Proofs.Ytpdjmapmpicgjab
open Go.ChangeShapes Go.WideShapes Go.ChangeAt Go.RowKit
set_option linter.unusedVariables false
set_option linter.unusedSimpArgs false

theorem ArgLists.cellsL : Try.prog.cellsOf 29 = 1 := by kernel_rfl
theorem ArgLists.cellsI : Try.prog.cellsOf 3 = 1 := by kernel_rfl
theorem ArgLists.bytesL : Try.prog.bytesOf 29 = 24 := by kernel_rfl
theorem ArgLists.bytesI : Try.prog.bytesOf 3 = 8 := by kernel_rfl

theorem weightsAll_memG {H : Type} {P : Program} {e : TypeId} : ∀ {l : List (DataW H)} {d : DataW H}, d ∈ l → ∀ n ∈ d.weights P e, n ∈ DataW.weightsAll P e l
  | d0 :: l, d, hd, n, hn => by
    simp only [DataW.weightsAll, List.mem_append]
    rcases List.mem_cons.1 hd with rfl | h
    · exact Or.inl hn
    · exact Or.inr (weightsAll_memG h n hn)

set_option maxHeartbeats 1000000 in
theorem open_lists {H : Type} {enc : TypeId × Value → H} {w : World} {base fuel : Nat} {held : Bool} {a : Option Addr} {len cap : Nat} {d : DataW H} {ps : List MemPlace}
    (hf : DataW.trod enc Try.prog w base (fun _ => true) held fuel 22 [.slice a len cap] = some (d, ps)) (hs : ∀ n ∈ d.weights Try.prog 22, n ≤ reachBytes) :
    ∃ N : List (List Int), N.length = len ∧ LV w a N ∧ 24 * len ≤ 140737488351232 ∧ (∀ j, 8 * (rowN N j).length ≤ 140737488351232) ∧ len ≤ cap := by
  rcases Go.Deep.open_int_rows Try.underlying22 Try.underlying29 Try.underlying3 ArgLists.cellsL ArgLists.cellsI hf with ⟨hcs, _⟩ | ⟨x, l, c, A, L, C, Z, hcs, _, hl, hm, hx, hall⟩
  · simp at hcs
    obtain ⟨rfl, rfl, rfl⟩ := hcs
    exact ⟨[], rfl, fun j hj => by simp at hj, by omega, fun j => by simp [rowN], Nat.le_refl _⟩
  · simp at hcs
    obtain ⟨rfl, rfl, rfl⟩ := hcs
    simp only [Prod.mk.injEq] at hx
    obtain ⟨rfl, rfl⟩ := hx
    have hs0 := hs ((((List.range len).map fun r => Go.Deep.intRow (H := H) .i64 (A r) (L r) (Z r)).length + ((List.range (cap - len)).map fun j => Go.Deep.intRow (H := H) .i64 (A (len + j)) (L (len + j)) (Z (len + j))).length) * Try.prog.bytesOf 29) (by simp [DataW.weights, Try.underlying22])
    rw [ArgLists.bytesL] at hs0
    simp only [List.length_map, List.length_range, reachBytes] at hs0
    have hrow : ∀ r, r < len → 8 * C r ≤ 140737488351232 := fun r hr => by
      obtain ⟨_, h2, h3, h4, _, h6, _⟩ := hall r (by omega)
      cases hA : A r with
      | none => rw [h6 hA]; omega
      | some a' =>
        have hs1 := hs (((lits (H := H) .i64 ((Z r).take (L r))).length + (lits (H := H) .i64 ((Z r).drop (L r))).length) * Try.prog.bytesOf 3) (by
          have hmem : Go.Deep.intRow (H := H) .i64 (A r) (L r) (Z r) ∈ (List.range len).map fun r => Go.Deep.intRow (H := H) .i64 (A r) (L r) (Z r) := List.mem_map.2 ⟨r, List.mem_range.2 hr, rfl⟩
          simp only [DataW.weights, Try.underlying22, List.mem_cons, List.mem_append]
          refine Or.inr (Or.inl (weightsAll_memG hmem _ ?_))
          rw [hA]
          simp [Go.Deep.intRow, DataW.weights, Try.underlying29])
        rw [ArgLists.bytesI] at hs1
        simp only [lits, List.length_map, List.length_take, List.length_drop, reachBytes] at hs1
        omega
    have hR : ∀ j, j < len → rowN ((List.range len).map fun r => (Z r).take (L r)) j = (Z j).take (L j) := fun j hj => by simp [rowN, List.getD, hj]
    refine ⟨(List.range len).map fun r => (Z r).take (L r), by simp, fun j hj => ?_, by omega, fun j => ?_, hl⟩
    · have hj' : j < len := by simpa using hj
      obtain ⟨h1, h2, h3, h4, _, h6, h7⟩ := hall j (by omega)
      obtain ⟨xb, xo, xs⟩ := x
      have hsp : xs = none := by simpa [Addr.add] using World.cell?_spot (hall 0 (by omega)).1
      subst hsp
      have h1' : w.cell? ⟨xb, xo + j, none⟩ = some (.slice (A j) (L j) (C j)) := by rw [← Addr.add_lit]; exact h1
      rw [hR j hj']
      refine ⟨xb, xo, A j, L j, C j, rfl, World.block_lt_of_cell? _ _ h1', h1', by rw [List.length_take]; omega, h2, ?_⟩
      cases hA : A j with
      | none =>
        have : L j = 0 := by have := h6 hA; omega
        rw [this]; exact view_nil
      | some a' => exact Go.Proofs.Ytpdjmapmpicgjab.view_take (fun i hi => (h7 a' hA).2 i (by omega)) (by omega)
    · by_cases hj : j < len
      · rw [hR j hj, List.length_take]
        have := hrow j hj
        have := (hall j (by omega)).2.1
        omega
      · rw [rowN_out _ _ (by simp; omega)]; simp

end Go.Proofs.Ytpdjmapmpicgjab

/-
  Plain mathematics of graphs whose edges lead to greater numbers: the order of the walk.
-/
namespace Go.Proofs.Ytpdjmapmpicgjab
open Go.RowKit
set_option linter.unusedVariables false
set_option linter.unusedSimpArgs false

/-- Each node of a row has its edges ahead of it in the row. -/
def Below_ (N : List (List Int)) (l : List Int) : Prop := ∀ p x q, l = p ++ x :: q → ∀ y ∈ rowN N x.toNat, y ∈ p

theorem below_app {N : List (List Int)} {l : List Int} (h : Below_ N l) {x : Int} (hx : ∀ y ∈ rowN N x.toNat, y ∈ l) : Below_ N (l ++ [x]) := by
  intro p z q he y hy
  rcases List.append_eq_append_iff.1 he with ⟨a, h1, h2⟩ | ⟨a, h1, h2⟩
  · cases a with
    | nil => simp at h2; simp at h1; rw [← h2.1] at hy; rw [h1]; exact hx y hy
    | cons b a => simp at h2
  · cases a with
    | nil => simp at h2; simp at h1; rw [h2.1] at hy; rw [← h1]; exact hx y hy
    | cons b a =>
      simp at h2
      obtain ⟨rfl, h2⟩ := h2
      exact h p z a h1 y hy

/-- Where all edges lead to greater numbers: what the walk leaves it leaves behind its edges. -/
theorem walk_up (N : List (List Int)) (n : Nat) (hE : Edges n N) (hU : ∀ (j : Nat) (x : Int), x ∈ rowN N j → (j : Int) < x) : ∀ f,
    (∀ (js : List Int) (s : WalkS) (i : Int), GoodC n s.1 → (∀ x ∈ js, (0 : Int) ≤ x ∧ x < (n : Int) ∧ i < x) → n - s.1.length ≤ f → (∀ x ∈ s.1, x ∈ s.2 ∨ x ≤ i) → Below_ N s.2 → Below_ N (js.foldl (stepD (dfs N f)) s).2 ∧ ∀ x ∈ (js.foldl (stepD (dfs N f)) s).1, x ∈ (js.foldl (stepD (dfs N f)) s).2 ∨ x ≤ i) ∧
    (∀ (i : Int) (s : WalkS), GoodC n s.1 → i ∉ s.1 → 0 ≤ i → i < (n : Int) → n - s.1.length ≤ f → (∀ x ∈ s.1, x ∈ s.2 ∨ x < i) → Below_ N s.2 → Below_ N (dfs N f i s).2 ∧ ∀ x ∈ (dfs N f i s).1, x ∈ (dfs N f i s).2 ∨ x < i ∧ x ∈ s.1) := by
  intro f
  induction f with
  | zero =>
    constructor
    · intro js s i hg hj hl hs hb
      have e : js.foldl (stepD (dfs N 0)) s = s := by
        clear hl hj
        induction js with
        | nil => rfl
        | cons x js ih =>
          have hx : stepD (dfs N 0) s x = s := by unfold stepD; split <;> rfl
          rw [List.foldl_cons, hx]; exact ih
      rw [e]; exact ⟨hb, hs⟩
    · intro i s hg hi h0 h1 hl
      have := (hg.snoc hi h0 h1).len
      simp at this; omega
  | succ f ih =>
    have call : ∀ (i : Int) (s : WalkS), GoodC n s.1 → i ∉ s.1 → 0 ≤ i → i < (n : Int) → n - s.1.length ≤ f + 1 → (∀ x ∈ s.1, x ∈ s.2 ∨ x < i) → Below_ N s.2 → Below_ N (dfs N (f + 1) i s).2 ∧ ∀ x ∈ (dfs N (f + 1) i s).1, x ∈ (dfs N (f + 1) i s).2 ∨ x < i ∧ x ∈ s.1 := by
      intro i s hg hi h0 h1 hl hs hb
      have hin : ((i.toNat : Nat) : Int) = i := by omega
      have hjs : ∀ x ∈ rowN N i.toNat, (0 : Int) ≤ x ∧ x < (n : Int) ∧ i < x := fun x hx => ⟨(hE _ x hx).1, (hE _ x hx).2, by have := hU i.toNat x hx; omega⟩
      obtain ⟨hA, hB⟩ := ih.1 (rowN N i.toNat) (s.1 ++ [i], s.2) i (hg.snoc hi h0 h1) hjs (by simp; omega) (fun x hx => by
        rcases List.mem_append.1 hx with hx | hx
        · rcases hs x hx with h | h
          · exact .inl h
          · exact .inr (by omega)
        · simp at hx; exact .inr (by omega)) hb
      obtain ⟨e, d, hseg, hinn, _⟩ := (walk_all N n hE f).1 (rowN N i.toNat) (s.1 ++ [i], s.2) (hg.snoc hi h0 h1) (fun x hx => hE _ x hx) (by simp; omega)
      generalize ht : (rowN N i.toNat).foldl (stepD (dfs N f)) (s.1 ++ [i], s.2) = t at *
      have e1 : dfs N (f + 1) i s = (t.1, t.2 ++ [i]) := by rw [← ht]; rfl
      rw [e1]
      refine ⟨below_app hA (fun y hy => ?_), fun x hx => ?_⟩
      · rcases hB y (hinn y hy) with h | h
        · exact h
        · have := (hjs y hy).2.2; omega
      · rcases hB x hx with h | h
        · exact .inl (List.mem_append.2 (.inl h))
        · by_cases hxi : x = i
          · exact .inl (by simp [hxi])
          · by_cases hxs : x ∈ s.1
            · exact .inr ⟨by omega, hxs⟩
            · have hc := hseg.came
              have hx' : x ∈ (s.1 ++ [i]) ++ e := by rw [← hc]; exact hx
              rcases List.mem_append.1 hx' with h' | h'
              · rcases List.mem_append.1 h' with h' | h'
                · exact absurd h' hxs
                · simp at h'; exact absurd h' hxi
              · have hd := hseg.perm.mem_iff.2 h'
                have hl2 := hseg.left
                exact .inl (List.mem_append.2 (.inl (by rw [hl2]; exact List.mem_append.2 (.inr hd))))
    refine ⟨?_, call⟩
    intro js
    induction js with
    | nil => intro s i hg _ _ hs hb; exact ⟨hb, hs⟩
    | cons j js ihj =>
      intro s i hg hj hl hs hb
      have hj' : ∀ x ∈ js, (0 : Int) ≤ x ∧ x < (n : Int) ∧ i < x := fun y hy => hj y (List.mem_cons_of_mem _ hy)
      have hjj := hj j (by simp)
      rw [List.foldl_cons]
      by_cases hm : j ∈ s.1
      · have e1 : stepD (dfs N (f + 1)) s j = s := if_pos hm
        rw [e1]
        exact ihj s i hg hj' hl hs hb
      · have e1 : stepD (dfs N (f + 1)) s j = dfs N (f + 1) j s := if_neg hm
        rw [e1]
        obtain ⟨hA, hB⟩ := call j s hg hm hjj.1 hjj.2.1 hl (fun x hx => by
          rcases hs x hx with h | h
          · exact .inl h
          · exact .inr (by omega)) hb
        obtain ⟨e, d, hseg, _⟩ := (walk_all N n hE (f + 1)).2 j s hg hm hjj.1 hjj.2.1 hl
        refine ihj (dfs N (f + 1) j s) i hseg.good hj' (by rw [hseg.came]; simp; omega) (fun x hx => ?_) hA
        rcases hB x hx with h | ⟨_, h⟩
        · exact .inl h
        · rcases hs x h with h' | h'
          · exact .inl (by rw [hseg.left]; exact List.mem_append.2 (.inl h'))
          · exact .inr h'
theorem walkF_up (N : List (List Int)) (hE : Edges N.length N) (h0 : 0 < N.length) (hU : ∀ (j : Nat) (x : Int), x ∈ rowN N j → (j : Int) < x) : Below_ N (walkF N).2 :=
  ((walk_up N N.length hE hU N.length).2 0 ([], []) ⟨by simp, fun x hx => by simp at hx⟩ (by simp) (by omega) (by omega) (by simp) (fun x hx => by simp at hx) (fun p x q h => by cases p <;> simp at h)).1

/-- Where a number stands among some. -/
def placeI (l : List Int) (x : Int) : Int := if x ∈ l then (l.idxOf x : Int) else -1
/-- In the order each node that is reached stands ahead of its edges. -/
theorem order_up (N : List (List Int)) (hE : Edges N.length N) (h0 : 0 < N.length) (hU : ∀ (j : Nat) (x : Int), x ∈ rowN N j → (j : Int) < x) {i y : Int} (hi : i ∈ (walkF N).1) (hy : y ∈ rowN N i.toNat) : placeI (walkF N).2.reverse i < placeI (walkF N).2.reverse y := by
  have hQ := walkF_all N hE h0
  have hB := walkF_up N hE h0 hU
  have hd : (walkF N).2.Nodup := hQ.perm.nodup_iff.2 hQ.good.1
  have hi2 : i ∈ (walkF N).2 := hQ.perm.mem_iff.2 hi
  obtain ⟨p, q, hpq⟩ := List.append_of_mem hi2
  have hyp := hB p i q hpq y hy
  have hrev : (walkF N).2.reverse = q.reverse ++ i :: p.reverse := by rw [hpq]; simp
  rw [hpq, List.nodup_append] at hd
  obtain ⟨_, hd2, hd3⟩ := hd
  have hni : i ∉ q.reverse := by
    have := (List.nodup_cons.1 hd2).1
    simpa using this
  have hny : y ∉ q.reverse := fun h => hd3 y hyp y (List.mem_cons_of_mem _ (by simpa using h)) rfl
  have hyi : y ≠ i := fun e => hd3 y hyp i (by simp) e
  have m1 : i ∈ q.reverse ++ i :: p.reverse := by simp
  have m2 : y ∈ q.reverse ++ i :: p.reverse := by simp [hyp]
  rw [hrev]
  unfold placeI
  rw [if_pos m1, if_pos m2, List.idxOf_append, List.idxOf_append, if_neg hni, if_neg hny, List.idxOf_cons, List.idxOf_cons]
  have hyi' : (i == y) = false := by simpa using fun e => hyi (Eq.symm e)
  simp [hyi']
  omega

end Go.Proofs.Ytpdjmapmpicgjab

/-
  copied of the laws of layer 14: lists in new memory.
-/
namespace Go.Proofs.Ytpdjmapmpicgjab
open Go.RowKit
set_option linter.unusedVariables false
set_option linter.unusedSimpArgs false
set_option maxRecDepth 10000

/-- A number of a row of the list, and another one in its place. -/
theorem OwnL.cellAt {w : World} {lo h c : Nat} {N : List (List Int)} (hN : OwnL w lo (.slice (some ⟨h, 0, none⟩) N.length c) N) {j q : Nat} (hj : j < N.length) (hq : q < (rowN N j).length) : ∃ g cj, w.cell? ⟨h, j, none⟩ = some (.slice (some ⟨g, 0, none⟩) (rowN N j).length cj) ∧ w.cell? ⟨g, q, none⟩ = some (.int .i64 (nth (rowN N j) q)) ∧ w.frozen? ⟨g, q, none⟩ = false ∧ lo ≤ g ∧ g < w.heap.size ∧ h < w.heap.size ∧
    ∀ x : Int, OwnL (w.setCell ⟨g, q, none⟩ (.int .i64 x)) lo (.slice (some ⟨h, 0, none⟩) N.length c) (N.set j ((rowN N j).set q x)) := by
  obtain ⟨V, hV⟩ := hN
  have hh : w.ownsRow lo 29 1 (.slice (some ⟨h, 0, none⟩) N.length c) N.length (cellsL V N.length) := hV.own none trivial
  have hr : w.ownsRow lo 3 1 (V j) (rowN N j).length ((rowN N j).map (Value.int .i64)) := hV.own (some j) hj
  have hcell : w.cell? ⟨h, j, none⟩ = some (V j) := by rw [hh.cellAt j (by omega), cellsL_at V _ j hj]
  rcases hr.2 with ⟨_, h0⟩ | ⟨g, cap, cur, e, hg, hgg, _⟩
  · omega
  · refine ⟨g, cap, by rw [hcell, e], ?_, by rw [e] at hr; exact hr.frozenAt _, hg, (Array.getElem?_eq_some_iff.1 hgg).1, (World.ownsRow.lt hh h rfl).2, fun x => ?_⟩
    · rw [e] at hr
      rw [hr.cellAt q (by omega)]
      simp [nth, List.getD, hq]
    · have hs := own_setAt (by rw [e] at hr; exact hr) q (.int .i64 x)
      refine ⟨V, ?_⟩
      have h1 := hV.put (w' := w.setCell ⟨g, q, none⟩ (.int .i64 x)) (R' := rowL (.slice (some ⟨h, 0, none⟩) N.length c) V (N.set j ((rowN N j).set q x))) (some j) hj (by
        have : (rowL (.slice (some ⟨h, 0, none⟩) N.length c) V N (some j)).v.ownBlock = some g := by simp [rowL, e, Value.ownBlock]
        rw [this]; exact grown_setCell w g q _) (by
        simp only [RowX.own, rowL, rowN_set N _ j j hj, if_true, List.length_set, e, List.map_set]
        exact hs) (.inl rfl) (fun p hp hne => by
        cases p with
        | none => simp [rowL]
        | some k =>
          have hk : ¬ k = j := fun e => hne (by rw [e])
          simp [rowL, rowN_set N _ j k hj, hk])
      refine ⟨fun p hp => h1.own p (by cases p with | none => trivial | some k => have : k < (N.set j ((rowN N j).set q x)).length := hp; rwa [List.length_set] at this), fun p p' hp hp' => h1.apart p p' (by cases p with | none => trivial | some k => have : k < (N.set j ((rowN N j).set q x)).length := hp; rwa [List.length_set] at this) (by cases p' with | none => trivial | some k => have : k < (N.set j ((rowN N j).set q x)).length := hp'; rwa [List.length_set] at this)⟩

/-- The rows so far. -/
def copQ (N : List (List Int)) (k : Nat) : List (List Int) := (List.range N.length).map fun j => if j < k then rowN N j else []
theorem copQ_len (N : List (List Int)) (k : Nat) : (copQ N k).length = N.length := by simp [copQ]
theorem copQ_row (N : List (List Int)) (k j : Nat) (h : j < N.length) : rowN (copQ N k) j = if j < k then rowN N j else [] := by
  show (copQ N k).getD j [] = _
  unfold copQ
  rw [List.getD_eq_getElem?_getD, List.getElem?_map, List.getElem?_range h]
  rfl
theorem copQ_zero (N : List (List Int)) : copQ N 0 = List.replicate N.length [] := by
  apply rows_ext (by simp [copQ])
  intro j hj
  rw [copQ_len] at hj
  rw [copQ_row N 0 j hj]
  simp [rowN, List.getD, List.getElem?_replicate, hj]
theorem copQ_set (N : List (List Int)) (k : Nat) (h : k < N.length) : (copQ N k).set k (rowN N k) = copQ N (k + 1) := by
  apply rows_ext (by simp [copQ])
  intro j hj
  rw [List.length_set, copQ_len] at hj
  rw [rowN_set _ _ _ _ (by rw [copQ_len]; exact h), copQ_row N k j hj, copQ_row N (k + 1) j hj]
  by_cases e : j = k
  · subst e; simp
  · rw [if_neg e]
    by_cases e2 : j < k
    · rw [if_pos e2, if_pos (by omega)]
    · rw [if_neg e2, if_neg (by omega)]
theorem copQ_whole (N : List (List Int)) : copQ N N.length = N := by
  apply rows_ext (by simp [copQ])
  intro j hj
  rw [copQ_len] at hj
  rw [copQ_row _ _ _ hj, if_pos hj]

set_option maxHeartbeats 8000000 in
theorem copied14_any (a : Option Addr) (n c : Nat) (N : List (List Int)) (w : World) (hv : LV w a N) (hl : N.length = n) (hn : 24 * n ≤ 140737488351232) (hr : ∀ j, 8 * (rowN N j).length ≤ 140737488351232) :
    Calls Try.prog 6 #[.slice a n c] w fun e w' => ∃ h, e = .returned (.slice (some ⟨h, 0, none⟩) n n) ∧ OwnL w' w.heap.size (.slice (some ⟨h, 0, none⟩) n n) N ∧ Below w.heap.size w w' := by
  obtain ⟨i0, hi, hz0, hz1, hz2⟩ := info_parts GrInts.info
  obtain ⟨j0, hj, hy0, hy1, hy2⟩ := info_parts GrLists.info
  have HL := hide hl
  have HV := hide hv
  have HR := hide hr
  have HN := hide hn
  have hni : (24 : Int) * n ≤ 140737488351232 := by omega
  clear hl hv hr
  go_enter Try.func6, Try.ntmps6
  go_wp2_with (at_make; refine wpList_make_full _ rfl _ _ 22 rfl w.heap.size 29 j0 (.slice none 0 0) 1 Try.underlying22 hj hy0 hy1 _ _ _ _ n rfl rfl (by rfl) (by rfl) (by rw [hy2]; omega) (by unfold maxLen; omega) (Nat.le_refl _) ?_)
  intro w1 hown1 hgr1
  have hb1 : Below w.heap.size w w1 := (Below.refl _ w).grown hgr1 (Nat.le_refl _) (by simp)
  have HO1 : Hid (OwnL w1 w.heap.size (.slice (some ⟨w.heap.size, 0, none⟩) n n) (copQ N 0)) := by show OwnL _ _ _ _; rw [copQ_zero, HL.out]; exact OwnL.made (by simpa using hown1)
  have HB1 := hide hb1
  clear hown1 hgr1 hb1 hn
  go_wp2_with fail
  go_loopw [4] (fun i wr => ∃ k : Nat, k ≤ n ∧ i = .int .i64 k ∧ OwnL wr w.heap.size (.slice (some ⟨w.heap.size, 0, none⟩) n n) (copQ N k) ∧ Below w.heap.size w wr) (fun i _ => n - (intOf i).toNat)
  case atStart => exact ⟨0, Nat.zero_le _, rfl, HO1.out, HB1.out⟩
  case round =>
    obtain ⟨k, hk, rfl, hO, hB⟩ := hrel
    by_cases hlt : k < n
    · obtain ⟨b, off, aj, nj, cj, rfl, hb, hc, hcl, hcc, hvj⟩ := HV.out k (by rw [HL.out]; exact hlt)
      have hc' := (hB.cell (p := ⟨b, off + k, none⟩) hb).trans hc
      have hki : (k : Int) < (n : Int) := by omega
      have hql : (copQ N k).length = n := by rw [copQ_len]; exact HL.out
      have hOk : OwnL wr w.heap.size (.slice (some ⟨w.heap.size, 0, none⟩) (copQ N k).length n) (copQ N k) := by rw [hql]; exact hO
      have HCL := hide hcl
      have HVJ := hide hvj
      have HLT := hide hlt
      have HOK := hide hOk
      have HBK := hide hB
      have HQL := hide hql
      have HBB := hide hb
      have HCC := hide hc
      have HNJ : Hid (8 * nj ≤ 140737488351232) := by show _ ≤ _; rw [← hcl]; exact HR.out k
      have hnj : (8 : Int) * nj ≤ 140737488351232 := by have := HNJ.out; omega
      rename World => wo
      clear hO hB hOk hql hcl hvj hlt hk hb hc hcc HO1 HB1
      go_wp2_with (at_make; refine wpList_make_full _ rfl _ _ 29 rfl wo.heap.size 3 i0 (.int .i64 0) 1 Try.underlying29 hi hz0 hz1 _ _ _ _ nj rfl rfl (by rfl) (by rfl) (by rw [hz2]; have := HNJ.out; omega) (by unfold maxLen; have := HNJ.out; omega) (Nat.le_refl _) ?_)
      intro w2 hown2 hgr2
      have hb2 : Below wo.heap.size wo w2 := (Below.refl _ wo).grown hgr2 (Nat.le_refl _) (by simp)
      have hr2 : w2.ownsRow wo.heap.size 3 1 (.slice (some ⟨wo.heap.size, 0, none⟩) nj nj) (filled (rowN N k) 0 nj).length ((filled (rowN N k) 0 nj).map (Value.int .i64)) := by
        have h1 := made_row (rowN N k) (by simpa using hown2)
        rw [filled_len _ _ _ (Nat.zero_le _) (Nat.zero_le _)]; exact h1
      obtain ⟨hO2, ⟨u2, hu2⟩, hf2, _⟩ := OwnL.put HOK.out hb2 (j := k) (by rw [HQL.out]; exact HLT.out) HBK.out.size hr2
      rw [HQL.out] at hO2
      have HO2 := hide hO2
      have HB2 : Hid (Below w.heap.size w (w2.setCell ⟨w.heap.size, k, none⟩ (.slice (some ⟨wo.heap.size, 0, none⟩) nj nj))) := by
        have h1 := HBK.out.trans (hb2.mono HBK.out.size)
        exact h1.grown (grown_setCell w2 w.heap.size k _) h1.size (fun q e => by cases e; exact Nat.le_refl _)
      have hfl : ∀ q, q ≤ nj → (filled (rowN N k) q nj).length = nj := fun q hq => filled_len _ _ _ hq (by rw [HCL.out]; exact hq)
      have HFL := hide hfl
      clear hO2 hown2 hgr2 hb2 hr2 hfl HOK HBK
      go_wp2_with fail
      go_loopw [5] (fun i wr => ∃ q : Nat, q ≤ nj ∧ i = .int .i64 q ∧ OwnL wr w.heap.size (.slice (some ⟨w.heap.size, 0, none⟩) n n) ((copQ N k).set k (filled (rowN N k) q nj)) ∧ Below w.heap.size w wr) (fun i _ => nj - (intOf i).toNat)
      case atStart => exact ⟨0, Nat.zero_le _, rfl, HO2.out, HB2.out⟩
      case round =>
        obtain ⟨q, hq, rfl, hO, hB⟩ := hrel
        have hcN := (hB.cell (p := ⟨b, off + k, none⟩) HBB.out).trans HCC.out
        by_cases hlt : q < nj
        · have hsl : ((copQ N k).set k (filled (rowN N k) q nj)).length = n := by rw [List.length_set]; exact HQL.out
          have hkk : k < (copQ N k).length := by rw [HQL.out]; exact HLT.out
          have hrow : rowN ((copQ N k).set k (filled (rowN N k) q nj)) k = filled (rowN N k) q nj := by rw [rowN_set _ _ _ _ hkk, if_pos rfl]
          obtain ⟨g, cg, k1, k2, k3, k4, k5, k6, k7⟩ := OwnL.cellAt (h := w.heap.size) (c := n) (by rw [hsl]; exact hO) (j := k) (q := q) (by rw [hsl]; exact HLT.out) (by rw [hrow, HFL.out q hq]; exact hlt)
          have k7' := k7 (nth (rowN N k) q)
          rw [hrow, hsl, List.set_set, filled_set _ _ _ hlt (by rw [HCL.out]; exact hlt)] at k7'
          rw [hrow, HFL.out q hq] at k1
          obtain ⟨b2, o2, rfl, hb2, hc2⟩ := HVJ.out q (by rw [HCL.out]; exact hlt)
          have hcq := (hB.cell (p := ⟨b2, o2 + q, none⟩) hb2).trans hc2
          have hqi : (q : Int) < (nj : Int) := by omega
          have HQ := hide hlt
          have HO3 := hide k7'
          have HB3 : Hid (Below w.heap.size w (wr.setCell ⟨g, q, none⟩ (.int .i64 (nth (rowN N k) q)))) := hB.grown (grown_setCell wr g q _) hB.size (fun i e => by cases e; exact k4)
          generalize nth (rowN N k) q = y at *
          generalize nth (rowN ((copQ N k).set k (filled (rowN N k) q nj)) k) q = y0 at *
          clear hO hB hsl hkk hrow k7 k7' k4 hlt hq hb2 hc2 HO2 HB2 hc'
          go_wp2_with fail
          go_region_with (fail)
          all_goals
            go_wp2_with fail
            exact ⟨⟨q + 1, HQ.out, by simp, HO3.out.below ((Below.refl _ _).drew), HB3.out.drew⟩, measZ2 HQ.out⟩
        · have e : nj = q := by omega
          subst e
          have HE : Hid ((copQ N k).set k (filled (rowN N k) nj nj) = copQ N (k + 1)) := by show _ = _; rw [filled_whole _ _ HCL.out, copQ_set N k (by rw [HL.out]; exact HLT.out)]
          rw [HE.out] at hO
          have HO4 := hide hO
          have HB4 := hide hB
          clear hO hB hq HO2 HB2 hc' HE
          go_wp2_with fail
          exact ⟨⟨k + 1, HLT.out, by simp, HO4.out, HB4.out⟩, measZ2 HLT.out⟩
    · have e : n = k := by omega
      subst e
      have HE : Hid (copQ N n = N) := by show _ = _; rw [← HL.out, copQ_whole]
      rw [HE.out] at hO
      have HO4 := hide hO
      have HB4 := hide hB
      clear hO hB hk HO1 HB1 HE
      go_wp2_with fail
      go_ret
      exact ⟨_, rfl, HO4.out, HB4.out⟩

end Go.Proofs.Ytpdjmapmpicgjab

/-
  place of the laws of layer 14; lists whose edges are turned upwards.
-/
namespace Go.Proofs.Ytpdjmapmpicgjab
open Go.RowKit
set_option linter.unusedVariables false
set_option linter.unusedSimpArgs false
set_option maxRecDepth 10000

theorem place_at (l : List Int) (x : Int) (k : Nat) (hk : k < l.length) (hn : x ∉ l.take k) (hx : nth l k = x) : placeI l x = (k : Int) := by
  have e : nth l k = l[k] := by simp [nth, List.getD, hk]
  have hl : l = l.take k ++ x :: l.drop (k + 1) := by
    rw [← hx, e, ← List.drop_eq_getElem_cons hk, List.take_append_drop]
  have hm : x ∈ l := by rw [hl]; simp
  unfold placeI
  rw [if_pos hm]
  have : l.idxOf x = k := by
    conv => lhs; rw [hl]
    rw [List.idxOf_append, if_neg hn, List.idxOf_cons]
    simp; omega
  rw [this]
theorem place_none (l : List Int) (x : Int) (h : x ∉ l) : placeI l x = -1 := if_neg h

set_option maxHeartbeats 2000000 in
theorem place_any (a : Option Addr) (n c : Nat) (l : List Int) (x : Int) (w : World) (hv : View .i64 w a l) (hl : l.length = n) (hn : 8 * n ≤ 140737488351232) : Calls Try.prog 15 #[.slice a n c, .int .i64 x] w fun e w' => e = .returned (.int .i64 (placeI l x)) ∧ w = w' := by
  have HL := hide hl
  have HV := hide hv
  have hni : (8 : Int) * n ≤ 140737488351232 := by omega
  have HP := hide (place_at l x)
  have HN := hide (place_none l x)
  have HT : Hid (l.take n = l) := List.take_of_length_le (by rw [HL.out]; exact Nat.le_refl _)
  have HM : Hid (∀ k, k < n → (x ∈ l.take (k + 1) ↔ x ∈ l.take k ∨ nth l k = x)) := fun k hk => by
    rw [take_snoc l k (by rw [HL.out]; exact hk)]; simp [eq_comm]
  generalize placeI l x = P at *
  clear hl hv hn
  go_enter Try.func15, Try.ntmps15
  go_wp2_with fail
  go_loopw [5] (fun i wr => ∃ k : Nat, k ≤ n ∧ i = .int .i64 k ∧ ¬ x ∈ l.take k ∧ wr = w) (fun i _ => n - (intOf i).toNat)
  case atStart => exact ⟨0, Nat.zero_le _, rfl, by simp, rfl⟩
  case round =>
    obtain ⟨k, hk, rfl, hnot, rfl⟩ := hrel
    by_cases hlt : k < n
    · obtain ⟨b1, o1, rfl, _, c1⟩ := HV.out k (by rw [HL.out]; exact hlt)
      have hki : (k : Int) < (n : Int) := by omega
      have hpk := HP.out k (by rw [HL.out]; exact hlt) hnot
      have hmk := HM.out k hlt
      have HLT := hide hlt
      have HNT := hide hnot
      clear hk hlt hnot
      generalize nth l k = y at *
      rcases Decidable.em (y = x) with hy | hy
      · have HPK := hide (hpk hy)
        have hyy : (y == x) = true := by simp [hy]
        clear hpk hmk hy
        go_wp2_with fail
        go_ret
        exact ⟨by rw [HPK.out]; rfl, rfl⟩
      · have HX : Hid (¬ x ∈ l.take (k + 1)) := fun h => by rcases hmk.1 h with h | h; exact HNT.out h; exact hy h
        have hyy : (y == x) = false := by simpa using hy
        clear hpk hmk hy
        go_wp2_with fail
        exact ⟨⟨k + 1, HLT.out, by simp, HX.out, by first | rfl | trivial⟩, measZ2 HLT.out⟩
    · have e : n = k := by omega
      subst e
      rw [HT.out] at hnot
      have HPN := hide (HN.out hnot)
      clear hnot hk
      go_wp2_with fail
      go_ret
      exact ⟨by rw [HPN.out]; rfl, rfl⟩

/-- A number that is turned upwards. -/
def up1 (n i : Nat) (x : Int) : Int := if x ≤ (i : Int) then (n : Int) - 1 else x
/-- A row of which the first q numbers are turned. -/
def upP (n i : Nat) (l : List Int) (q : Nat) : List Int := (l.take q).map (up1 n i) ++ l.drop q
theorem upP_len (n i : Nat) (l : List Int) (q : Nat) : (upP n i l q).length = l.length := by simp [upP]; omega
theorem upP_nth (n i : Nat) (l : List Int) (q : Nat) (h : q < l.length) : nth (upP n i l q) q = nth l q := by
  unfold nth upP
  simp [List.getD, List.getElem?_append_right, Nat.min_eq_left (Nat.le_of_lt h), h]
theorem upP_set (n i : Nat) (l : List Int) (q : Nat) (h : q < l.length) : (upP n i l q).set q (up1 n i (nth l q)) = upP n i l (q + 1) := by
  unfold upP
  have e : nth l q = l[q] := by simp [nth, List.getD, h]
  rw [List.set_append_right _ _ (by simp; omega), take_snoc l q h, List.map_append, List.append_assoc]
  congr 1
  rw [List.drop_eq_getElem_cons h, e]
  simp only [List.length_map, List.length_take, Nat.min_eq_left (Nat.le_of_lt h), Nat.sub_self, List.set_cons_zero, List.map_cons, List.map_nil, List.cons_append, List.nil_append]
theorem set_same (l : List Int) (q : Nat) (h : q < l.length) : l.set q (nth l q) = l := by
  have e : nth l q = l[q] := by simp [nth, List.getD, h]
  rw [e, List.set_getElem_self]
def upR (n i : Nat) (l : List Int) : List Int := if i + 1 = n then [] else l.map (up1 n i)
theorem upP_whole (n i : Nat) (l : List Int) : upP n i l l.length = l.map (up1 n i) := by simp [upP]
theorem upP_zero (n i : Nat) (l : List Int) : upP n i l 0 = l := by simp [upP]
/-- The list of which the first k rows are turned. -/
def ordQ (N : List (List Int)) (k : Nat) : List (List Int) := (List.range N.length).map fun j => if j < k then upR N.length j (rowN N j) else rowN N j
theorem ordQ_len (N : List (List Int)) (k : Nat) : (ordQ N k).length = N.length := by simp [ordQ]
theorem ordQ_row (N : List (List Int)) (k j : Nat) (h : j < N.length) : rowN (ordQ N k) j = if j < k then upR N.length j (rowN N j) else rowN N j := by
  show (ordQ N k).getD j [] = _
  unfold ordQ
  rw [List.getD_eq_getElem?_getD, List.getElem?_map, List.getElem?_range h]
  rfl
theorem ordQ_zero (N : List (List Int)) : ordQ N 0 = N := by
  apply rows_ext (by simp [ordQ])
  intro j hj
  rw [ordQ_len] at hj
  rw [ordQ_row N 0 j hj]; simp
theorem ordQ_set (N : List (List Int)) (k : Nat) (h : k < N.length) : (ordQ N k).set k (upR N.length k (rowN N k)) = ordQ N (k + 1) := by
  apply rows_ext (by simp [ordQ])
  intro j hj
  rw [List.length_set, ordQ_len] at hj
  rw [rowN_set _ _ _ _ (by rw [ordQ_len]; exact h), ordQ_row N k j hj, ordQ_row N (k + 1) j hj]
  by_cases e : j = k
  · subst e; simp
  · rw [if_neg e]
    by_cases e2 : j < k
    · rw [if_pos e2, if_pos (by omega)]
    · rw [if_neg e2, if_neg (by omega)]
theorem ordQ_up (N : List (List Int)) (j : Nat) (x : Int) (hx : x ∈ rowN ((ordQ N N.length).map onceF) j) : (j : Int) < x := by
  by_cases hj : j < N.length
  · rw [rowN_map _ _ _ (by rw [ordQ_len]; exact hj), once_mem, ordQ_row N _ j hj, if_pos hj] at hx
    unfold upR at hx
    split at hx
    · simp at hx
    · obtain ⟨y, _, rfl⟩ := List.mem_map.1 hx
      unfold up1
      split <;> omega
  · rw [rowN_out _ _ (by rw [List.length_map, ordQ_len]; omega)] at hx; simp at hx
theorem ordQ_rows (N : List (List Int)) (k j : Nat) : (rowN (ordQ N k) j).length ≤ (rowN N j).length := by
  by_cases hj : j < N.length
  · rw [ordQ_row N k j hj]
    split
    · unfold upR; split <;> simp
    · exact Nat.le_refl _
  · rw [rowN_out _ _ (by rw [ordQ_len]; omega)]; simp

end Go.Proofs.Ytpdjmapmpicgjab

/-
  GraphOrders is true for every list of edges.
-/
namespace Go.Proofs.Ytpdjmapmpicgjab
open Go.RowKit
set_option linter.unusedVariables false
set_option linter.unusedSimpArgs false
set_option maxRecDepth 10000

set_option maxHeartbeats 16000000 in
theorem graphOrders_true (w : World) (a : Option Addr) (n c : Nat) (N : List (List Int)) (hl : N.length = n) (hv : LV w a N) (hn : 24 * n ≤ 140737488351232) (hr : ∀ q, 8 * (rowN N q).length ≤ 140737488351232) (hc : n ≤ c) :
    Calls Try.prog 4 #[.slice a n c] w fun e w' => e = .returned (.bool true) ∧ Below w.heap.size w w' := by
  have hcp := copied14_any a n c N w hv hl hn hr
  have HA := hide (fun wx => awake14_true wx)
  have HL := hide hl
  have HR := hide hr
  have HN := hide hn
  have hni : (24 : Int) * n ≤ 140737488351232 := by omega
  have HOF := hide (fun ax M wx (h : LV wx ax M) (h2 : M.length = n) h3 => graphOf_any ax n n M wx h h2 hn h3)
  clear hl hv hr hn
  go_enter Try.func4, Try.ntmps4
  go_wp2_with fail
  refine hcp.mono ?_
  rintro e w1 ⟨h, rfl, hO1, hb1⟩
  have hlo : w.heap.size ≤ h := by
    obtain ⟨a', c', e', _, _, hab⟩ := hO1.head
    simp at e'
    exact (hab h 0 (by rw [← e'.1])).1
  have HLO := hide hlo
  have HO1 : Hid (OwnL w1 w.heap.size (.slice (some ⟨h, 0, none⟩) n n) (ordQ N 0)) := by show OwnL _ _ _ _; rw [ordQ_zero]; exact hO1
  have HB1 := hide hb1
  clear hcp hO1 hb1 hlo
  go_wp2_with fail
  go_loopw [4] (fun i wr => ∃ k : Nat, k ≤ n ∧ i = .int .i64 k ∧ OwnL wr w.heap.size (.slice (some ⟨h, 0, none⟩) n n) (ordQ N k) ∧ Below w.heap.size w wr) (fun i _ => n - (intOf i).toNat)
  case atStart => exact ⟨0, Nat.zero_le _, rfl, HO1.out, HB1.out⟩
  case round =>
    obtain ⟨k, hk, rfl, hO, hB⟩ := hrel
    by_cases hlt : k < n
    · have hki : (k : Int) < (n : Int) := by omega
      have hql : (ordQ N k).length = n := by rw [ordQ_len]; exact HL.out
      have hkk : k < (ordQ N k).length := by omega
      have hrk : rowN (ordQ N k) k = rowN N k := by rw [ordQ_row N k k (by rw [HL.out]; exact hlt)]; simp
      have HLT := hide hlt
      have HQL := hide hql
      have HKK := hide hkk
      have HO2 : Hid (OwnL wr w.heap.size (.slice (some ⟨h, 0, none⟩) n n) ((ordQ N k).set k (upP n k (rowN N k) 0))) := by
        show OwnL _ _ _ _
        rw [upP_zero, ← hrk]
        have : (ordQ N k).set k (rowN (ordQ N k) k) = ordQ N k := by
          apply rows_ext (by simp)
          intro j hj
          rw [rowN_set _ _ _ _ hkk]
          split
          · rename_i e; rw [e]
          · rfl
        rw [this]; exact hO
      have HB2 := hide hB
      have HRK : Hid (∀ q, rowN ((ordQ N k).set k (upP n k (rowN N k) q)) k = upP n k (rowN N k) q) := fun q => by rw [rowN_set _ _ _ _ hkk, if_pos rfl]
      have HSL : Hid (∀ q, ((ordQ N k).set k (upP n k (rowN N k) q)).length = n) := fun q => by rw [List.length_set]; exact hql
      have hrl := HR.out k
      generalize hnj : (rowN N k).length = nj at *
      have HNJ := hide hnj
      have hnji : (8 : Int) * nj ≤ 140737488351232 := by omega
      rename World => wo
      clear hO hB hk hlt hql hkk hrk HO1 HB1 hnj hrl
      go_wp2_with fail
      go_loopw [5] (fun i wr => ∃ q : Nat, q ≤ nj ∧ i = .int .i64 q ∧ OwnL wr w.heap.size (.slice (some ⟨h, 0, none⟩) n n) ((ordQ N k).set k (upP n k (rowN N k) q)) ∧ Below w.heap.size w wr) (fun i _ => nj - (intOf i).toNat)
      case atStart => exact ⟨0, Nat.zero_le _, rfl, HO2.out, HB2.out⟩
      case round =>
        obtain ⟨q, hq, rfl, hO, hB⟩ := hrel
        by_cases hlt : q < nj
        · obtain ⟨g, cg, k1, k2, k3, k4, k5, k6, k7⟩ := OwnL.cellAt (h := h) (c := n) (by rw [HSL.out]; exact hO) (j := k) (q := q) (by rw [HSL.out]; exact HLT.out) (by rw [HRK.out, upP_len, HNJ.out]; exact hlt)
          rw [HRK.out, upP_len, HNJ.out] at k1
          rw [HRK.out, upP_nth _ _ _ _ (by rw [HNJ.out]; exact hlt)] at k2
          have hset := upP_set n k (rowN N k) q (by rw [HNJ.out]; exact hlt)
          have hqi : (q : Int) < (nj : Int) := by omega
          have HQ := hide hlt
          have hsame := set_same (upP n k (rowN N k) q) q (by rw [upP_len, HNJ.out]; exact hlt)
          rw [upP_nth _ _ _ _ (by rw [HNJ.out]; exact hlt)] at hsame
          have k7n := k7 ((n : Int) - 1)
          rw [HRK.out, HSL.out, List.set_set] at k7n
          by_cases hle : nth (rowN N k) q ≤ (k : Int)
          · have e1 : up1 n k (nth (rowN N k) q) = (n : Int) - 1 := if_pos hle
            rw [e1] at hset
            rw [hset] at k7n
            have HO3 := hide k7n
            have HB3 : Hid (Below w.heap.size w (wr.setCell ⟨g, q, none⟩ (.int .i64 ((n : Int) - 1)))) := hB.grown (grown_setCell wr g q _) hB.size (fun i e => by cases e; exact k4)
            generalize nth (rowN N k) q = y at *
            clear hO hB k7 k7n k4 hlt hq HO2 HB2 hset hsame e1
            go_wp2_with fail
            exact ⟨⟨q + 1, HQ.out, by simp, HO3.out, HB3.out⟩, measZ2 HQ.out⟩
          · have e1 : up1 n k (nth (rowN N k) q) = nth (rowN N k) q := if_neg hle
            rw [e1, hsame] at hset
            have HO3 : Hid (OwnL wr w.heap.size (.slice (some ⟨h, 0, none⟩) n n) ((ordQ N k).set k (upP n k (rowN N k) (q + 1)))) := by show OwnL _ _ _ _; rw [← hset]; exact hO
            have HB3 := hide hB
            generalize nth (rowN N k) q = y at *
            clear hO hB k7 k7n k4 hlt hq HO2 HB2 hset hsame e1
            go_wp2_with fail
            exact ⟨⟨q + 1, HQ.out, by simp, HO3.out, HB3.out⟩, measZ2 HQ.out⟩
        · have e : nj = q := by omega
          subst e
          obtain ⟨v, k1, k2, k3, k4, k5, k6⟩ := OwnL.row (h := h) (c := n) (by rw [HSL.out]; exact hO) (j := k) (by rw [HSL.out]; exact HLT.out)
          have k5' := k5
          rw [HRK.out, upP_len, HNJ.out] at k5'
          obtain ⟨av, cv, rfl⟩ := own_shapeG k5'
          by_cases hlast : k + 1 = n
          · have hp := k6 _ (.slice none 0 0) [] (World.grownBy.refl _ _) (.inr fun g e => by cases e) (World.ownsRow_nil _ _ _ _)
            have hO4 := hp.1
            rw [HSL.out, List.set_set] at hO4
            have hue : upR N.length k (rowN N k) = [] := by unfold upR; rw [if_pos (by rw [HL.out]; exact hlast)]
            rw [← hue, ordQ_set N k (by rw [HL.out]; exact HLT.out)] at hO4
            have HO4 := hide hO4
            have HB4 : Hid (Below w.heap.size w (wr.setCell ⟨h, k, none⟩ (.slice none 0 0))) := hB.grown (grown_setCell wr h k _) hB.size (fun i e => by cases e; exact HLO.out)
            have hlb : ((k : Int) == (n : Int) - 1) = true := by
              have : (k : Int) = (n : Int) - 1 := by omega
              simp [this]
            clear hO hB hq k5 k5' k6 hp hO4 hue hlast HO2 HB2
            go_wp2_with fail
            exact ⟨⟨k + 1, HLT.out, by simp, HO4.out, HB4.out⟩, measZ2 HLT.out⟩
          · have hue : upP n k (rowN N k) nj = upR N.length k (rowN N k) := by unfold upR; rw [if_neg (by rw [HL.out]; exact hlast), ← HNJ.out, upP_whole, HL.out]
            rw [hue, ordQ_set N k (by rw [HL.out]; exact HLT.out)] at hO
            have HO4 := hide hO
            have HB4 := hide hB
            have hlb : ((k : Int) == (n : Int) - 1) = false := by
              have : ¬ (k : Int) = (n : Int) - 1 := by omega
              simpa using this
            clear hO hB hq k5 k5' k6 hue hlast HO2 HB2
            go_wp2_with fail
            exact ⟨⟨k + 1, HLT.out, by simp, HO4.out, HB4.out⟩, measZ2 HLT.out⟩
    · have e : n = k := by omega
      subst e
      obtain ⟨a', c', e', _, hLV, _⟩ := hO.head
      simp only [ordQ_len, HL.out] at e'
      cases e'
      have hof := HOF.out _ (ordQ N n) _ hLV (by rw [ordQ_len]; exact HL.out) (fun j => by have h1 := ordQ_rows N n j; have h2 := HR.out j; omega)
      have HB2 := hide hB
      have HOFF := hide hof
      rename World => wo
      clear hO hB hk HO1 HB1 hLV hof
      go_wp2_with fail
      refine HOFF.out.mono ?_
      have hol : (ordQ N n).length = n := by rw [ordQ_len]; exact HL.out
      rintro e w2 hq
      unfold OfQ at hq
      rw [hol] at hq
      have bad : ∀ (E : Int), e = .returned (.tuple #[.pointer none, .int .i64 E]) → (E != 0) = true → Below wo.heap.size wo w2 → True := fun _ _ _ _ => trivial
      rcases hq with ⟨_, rfl, hb2⟩ | ⟨_, rfl, hb2⟩ | ⟨_, _, _, rfl, hb2⟩ | ⟨h0, h4, hE, p, rfl, hG, hb2⟩
      · have HB3 := hide (HB2.out.trans (hb2.mono HB2.out.size))
        clear HOFF hb2 bad hol
        go_wp2_with fail
        refine (HA.out _).mono ?_
        rintro e w3 ⟨rfl, hb3⟩
        have HB4 := hide (HB3.out.trans (hb3.mono HB3.out.size))
        clear hb3
        go_wp2_with fail
        go_ret
        exact ⟨rfl, HB4.out⟩
      · have HB3 := hide (HB2.out.trans (hb2.mono HB2.out.size))
        clear HOFF hb2 bad hol
        go_wp2_with fail
        refine (HA.out _).mono ?_
        rintro e w3 ⟨rfl, hb3⟩
        have HB4 := hide (HB3.out.trans (hb3.mono HB3.out.size))
        clear hb3
        go_wp2_with fail
        go_ret
        exact ⟨rfl, HB4.out⟩
      · have HB3 := hide (HB2.out.trans (hb2.mono HB2.out.size))
        clear HOFF hb2 bad hol
        go_wp2_with fail
        refine (HA.out _).mono ?_
        rintro e w3 ⟨rfl, hb3⟩
        have HB4 := hide (HB3.out.trans (hb3.mono HB3.out.size))
        clear hb3
        go_wp2_with fail
        go_ret
        exact ⟨rfl, HB4.out⟩
      · have HB3 := hide (HB2.out.trans (hb2.mono HB2.out.size))
        have HUP : Hid (∀ (j : Nat) (x : Int), x ∈ rowN ((ordQ N n).map onceF) j → (j : Int) < x) := fun j x hx => by
          have h1 := ordQ_up N j x
          rw [HL.out] at h1
          exact h1 hx
        have hml : ((ordQ N n).map onceF).length = n := by rw [List.length_map]; exact hol
        generalize (ordQ N n).map onceF = M at *
        have HML := hide hml
        have hor := graphOrder_any w2 _ p M hG
        have HG2 := hide hG
        have HOR := hide hor
        clear HOFF hb2 bad hol hG hor hE hml
        have hQ := walkF_all M HG2.out.edges HG2.out.some_
        have HOL : Hid ((walkF M).2.reverse.length ≤ 4096) := by show _ ≤ _; rw [List.length_reverse, hQ.perm.length_eq]; exact Nat.le_trans hQ.good.len HG2.out.few
        have HPL : Hid (∀ i y : Int, i ∈ (walkF M).1 → y ∈ rowN M i.toNat → placeI (walkF M).2.reverse i < placeI (walkF M).2.reverse y) := fun i y h1 h2 => order_up M HG2.out.edges HG2.out.some_ HUP.out h1 h2
        clear hQ
        go_wp2_with fail
        refine HOR.out.mono ?_
        rintro e w3 ⟨v3, rfl, ho3, hb3⟩
        obtain ⟨ao, co, rfl, hvo, _⟩ := View.ofOwned ho3
        have HVO := hide hvo
        have HG3 := hide (HG2.out.below hb3)
        have HB4 := hide (HB3.out.trans (hb3.mono HB3.out.size))
        generalize (walkF M).2.reverse = O at *
        generalize hOL : O.length = ol at *
        have HOLE := hide hOL
        clear HOR ho3 hb3 hvo hOL HG2 HB3
        go_wp2_with fail
        go_loopw [9] (fun i wr => ∃ k : Nat, k ≤ n ∧ i = .int .i64 k ∧ Below w3.heap.size w3 wr) (fun i _ => n - (intOf i).toNat)
        case atStart => exact ⟨0, Nat.zero_le _, rfl, Below.refl _ _⟩
        case round =>
          obtain ⟨k, hk, rfl, hB⟩ := hrel
          have hGr := HG3.out.below hB
          have hlen := graphLen_any _ _ p M hGr
          rw [HML.out] at hlen
          by_cases hlt : k < n
          · have hki : (k : Int) < (n : Int) := by omega
            have hnx := graphNext_any (k : Int) _ _ p M hGr
            have hne : nextL M (k : Int) = rowN M k := by
              unfold nextL
              have : nodeB M.length (k : Int) = true := by unfold nodeB; rw [HML.out]; exact decide_eq_true ⟨by omega, by omega⟩
              rw [this]; simp
            rw [hne] at hnx
            have HNX := hide hnx
            have hrl := hGr.rows k
            have HLT := hide hlt
            have HBB := hide hB
            have HMEM : Hid (∀ q, q < (rowN M k).length → nth (rowN M k) q ∈ rowN M k) := fun q hq => by
              have : nth (rowN M k) q = (rowN M k)[q] := by simp [nth, List.getD, hq]
              rw [this]; exact List.getElem_mem hq
            rename World => wo
            clear hnx hB hk hlt hne hGr
            go_wp2_with fail
            refine hlen.mono ?_
            rintro e w4 ⟨rfl, rfl⟩
            clear hlen
            go_wp2_with fail
            refine HNX.out.mono ?_
            rintro e w5 ⟨v5, rfl, ho5, hb5⟩
            obtain ⟨al, cl, rfl, hvl, _⟩ := View.ofOwned ho5
            have HB5 := hide (HBB.out.trans (hb5.mono HBB.out.size))
            have HVL := hide hvl
            generalize hnj : (rowN M k).length = nj at *
            have HNJ := hide hnj
            have hnji : (nj : Int) ≤ 4096 := by omega
            clear HNX ho5 hb5 hvl HBB hnj hrl
            go_wp2_with fail
            go_loopw [11] (fun i wr => ∃ q : Nat, q ≤ nj ∧ i = .int .i64 q ∧ Below w5.heap.size w5 wr) (fun i _ => nj - (intOf i).toNat)
            case atStart => exact ⟨0, Nat.zero_le _, rfl, Below.refl _ _⟩
            case round =>
              obtain ⟨q, hq, rfl, hBr⟩ := hrel
              by_cases hlt : q < nj
              · obtain ⟨b2, o2, rfl, _, hcq⟩ := (HVL.out.below hBr) q (by rw [HNJ.out]; exact hlt)
                have hmem := HMEM.out q hlt
                have hqi : (q : Int) < (nj : Int) := by omega
                have hd : ∀ x, Below w5.heap.size w5 (wr.drewN x) := fun x => bel_drewN hBr x
                have hRe := fun x => graphReached_any (k : Int) (wr.drewN x) _ p M (HG3.out.below (HB5.out.trans ((hd x).mono HB5.out.size)))
                have hPl := fun z x => place_any ao ol co O z (wr.drewN x) (HVO.out.below (HB5.out.trans ((hd x).mono HB5.out.size))) HOLE.out (by have := HOL.out; omega)
                have hpu := HPL.out (k : Int) (nth (rowN M k) q)
                have hkn : (k : Int).toNat = k := by simp
                rw [hkn] at hpu
                have hrb : reachB M (k : Int) = true → (k : Int) ∈ (walkF M).1 := fun h => by
                  unfold reachB at h
                  have := (Bool.and_eq_true _ _ ▸ h).2
                  exact of_decide_eq_true this
                have HQ := hide hlt
                generalize nth (rowN M k) q = y at *
                have HBR := hide hBr
                clear hBr
                cases hrr : reachB M (k : Int) with
                | true =>
                  have hlt2 := hpu (hrb hrr) hmem
                  rw [hrr] at hRe
                  clear hpu hrb hmem hrr hlt hq hd
                  have hgn : ¬ placeI O y ≤ placeI O (k : Int) := by omega
                  go_wp2_with fail
                  go_quiet ((first | (go_at_call 13; exact Calls.quiet_of_same ((hRe _).mono fun _ _ h => ⟨h.1, h.2.symm⟩)) | (go_at_call 15; exact Calls.quiet_of_same ((hPl _ _).mono fun _ _ h => ⟨h.1, h.2.symm⟩))))
                  go_wp2_with fail
                  exact ⟨⟨q + 1, HQ.out, by simp, bel_drewN HBR.out _⟩, measZ2 HQ.out⟩
                | false =>
                  rw [hrr] at hRe
                  clear hpu hrb hmem hrr hlt hq hd
                  go_wp2_with fail
                  go_quiet ((go_at_call 13; exact Calls.quiet_of_same ((hRe _).mono fun _ _ h => ⟨h.1, h.2.symm⟩)))
                  go_wp2_with fail
                  exact ⟨⟨q + 1, HQ.out, by simp, bel_drewN HBR.out _⟩, measZ2 HQ.out⟩
              · have e : nj = q := by omega
                subst e
                have HB6 := hide (HB5.out.trans (hBr.mono HB5.out.size))
                clear hBr hq
                go_wp2_with fail
                exact ⟨⟨k + 1, HLT.out, by simp, HB6.out⟩, measZ2 HLT.out⟩
          · have e : n = k := by omega
            subst e
            have HB6 := hide (HB4.out.trans (hB.mono HB4.out.size))
            clear hB hk hGr
            go_wp2_with fail
            refine hlen.mono ?_
            rintro e w4 ⟨rfl, rfl⟩
            clear hlen
            go_wp2_with fail
            refine (HA.out _).mono ?_
            rintro e w7 ⟨rfl, hb7⟩
            have HB7 := hide (HB6.out.trans (hb7.mono HB6.out.size))
            clear hb7
            go_wp2_with fail
            go_ret
            exact ⟨rfl, HB7.out⟩

end Go.Proofs.Ytpdjmapmpicgjab
