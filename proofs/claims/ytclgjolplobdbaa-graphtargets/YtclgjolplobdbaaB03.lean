/-
  Texts laid together in one: GrRows, GraphMarks, GraphOnce.
-/
import Derived.WalkSpells
import Derived.Laws.AppendOwn
import Derived.Deep.AppendLies
import Derived.Test.YtclgjolplobdbaaProg
import Derived.Test.YtclgjolplobdbaaB02
import Derived.WalkMore
import Derived.BigRegion
import Derived.Deep.RegionWith
import Derived.Test.YtclgjolplobdbaaB01
import Derived.OwnWalk
import Derived.Deep.MidRow
/-
  Rows of rows of numbers in memory: a list of lists, each in memory of its own; and as they can be read.
-/
namespace Go.Proofs.Ytclgjolplobdbaa
open Go.RowKit
set_option linter.unusedVariables false
set_option linter.unusedSimpArgs false
set_option maxRecDepth 10000

theorem own_mono {w : World} {lo lo' e size n : Nat} {v : Value} {xs : List Value} (h : w.ownsRow lo e size v n xs) (hl : lo' ≤ lo) : w.ownsRow lo' e size v n xs := by
  refine ⟨h.1, ?_⟩
  rcases h.2 with hn | ⟨g, cap, cur, e1, hg, rest⟩
  · exact .inl hn
  · exact .inr ⟨g, cap, cur, e1, Nat.le_trans hl hg, rest⟩
theorem own_shapeG {w : World} {lo e size n : Nat} {v : Value} {xs : List Value} (h : w.ownsRow lo e size v n xs) : ∃ a c, v = .slice a n c := by
  rcases h.2 with ⟨rfl, h0⟩ | ⟨g, cap, cur, rfl, _⟩
  · exact ⟨none, 0, by rw [h0]⟩
  · exact ⟨_, _, rfl⟩
def cellsL (V : Nat → Value) (m : Nat) : List Value := (List.range m).map V
theorem cellsL_len (V : Nat → Value) (m : Nat) : (cellsL V m).length = m := by simp [cellsL]
theorem cellsL_at (V : Nat → Value) (m j : Nat) (h : j < m) : (cellsL V m)[j]? = some (V j) := by simp [cellsL, h]
theorem cellsL_set (V : Nat → Value) (m j : Nat) (v : Value) (h : j < m) : (cellsL V m).set j v = cellsL (fun k => if k = j then v else V k) m := by
  apply List.ext_getElem?
  intro i
  by_cases hi : i < m
  · rw [List.getElem?_set, cellsL_at _ m i hi, cellsL_len]
    by_cases e : j = i
    · subst e; simp [h, cellsL_at _ m j h]
    · have e' : ¬ i = j := fun x => e x.symm
      simp [e, e', cellsL_at _ m i hi]
  · rw [List.getElem?_eq_none (by rw [List.length_set, cellsL_len]; omega), List.getElem?_eq_none (by rw [cellsL_len]; omega)]
theorem cellsL_succ (V : Nat → Value) (m : Nat) (v : Value) : cellsL V m ++ [v] = cellsL (fun k => if k = m then v else V k) (m + 1) := by
  unfold cellsL
  rw [List.range_succ, List.map_append]
  congr 1
  · apply List.map_congr_left
    intro k hk
    have := List.mem_range.1 hk
    rw [if_neg (by omega)]
  · simp

def rowL (hv : Value) (V : Nat → Value) (N : List (List Int)) : Option Nat → RowX
  | none => ⟨41, 1, hv, N.length, cellsL V N.length⟩
  | some j => ⟨3, 1, V j, (rowN N j).length, (rowN N j).map (Value.int .i64)⟩
def inL (N : List (List Int)) : Option Nat → Prop
  | none => True
  | some j => j < N.length
/-- A list of lists in memory of its own, from block lo on. -/
def OwnL (w : World) (lo : Nat) (hv : Value) (N : List (List Int)) : Prop := ∃ V, RowsX w lo (inL N) (rowL hv V N)

theorem OwnL.same {w w' : World} {lo : Nat} {hv : Value} {N : List (List Int)} (h : OwnL w lo hv N) (hs : ∀ g cs T fr, lo ≤ g → (T = 3 ∨ T = 41) → w.heap[g]? = some (.cells cs T fr) → w'.heap[g]? = some (.cells cs T fr)) : OwnL w' lo hv N := by
  obtain ⟨V, hV⟩ := h
  refine ⟨V, fun q hq => ?_, hV.apart⟩
  have ho := hV.own q hq
  unfold RowX.own at ho ⊢
  refine ⟨ho.1, ?_⟩
  rcases ho.2 with hn | ⟨g, cap, cur, e, hg, hgg, rest⟩
  · exact .inl hn
  · refine .inr ⟨g, cap, cur, e, hg, hs g _ _ _ hg ?_ hgg, rest⟩
    cases q <;> simp [rowL]
theorem rowsL_same {w w' : World} {lo : Nat} {hv : Value} {V : Nat → Value} {N : List (List Int)} (hV : RowsX w lo (inL N) (rowL hv V N)) (hs : ∀ g cs T fr, lo ≤ g → (T = 3 ∨ T = 41) → w.heap[g]? = some (.cells cs T fr) → w'.heap[g]? = some (.cells cs T fr)) : RowsX w' lo (inL N) (rowL hv V N) := by
  refine ⟨fun q hq => ?_, hV.apart⟩
  have ho := hV.own q hq
  unfold RowX.own at ho ⊢
  refine ⟨ho.1, ?_⟩
  rcases ho.2 with hn | ⟨g, cap, cur, e, hg, hgg, rest⟩
  · exact .inl hn
  · refine .inr ⟨g, cap, cur, e, hg, hs g _ _ _ hg ?_ hgg, rest⟩
    cases q <;> simp [rowL]
/-- A row of the list, at its place. -/
theorem rowsL_read {w : World} {lo : Nat} {hv : Value} {V : Nat → Value} {N : List (List Int)} (hV : RowsX w lo (inL N) (rowL hv V N)) {j : Nat} (hj : j < N.length) : ∃ h c aj cj, hv = .slice (some ⟨h, 0, none⟩) N.length c ∧ V j = .slice aj (rowN N j).length cj ∧ w.cell? ⟨h, j, none⟩ = some (V j) ∧ View .i64 w aj (rowN N j) ∧ h < w.heap.size := by
  have h0 : w.ownsRow lo 41 1 hv N.length (cellsL V N.length) := hV.own none trivial
  have hr : w.ownsRow lo 3 1 (V j) (rowN N j).length ((rowN N j).map (Value.int .i64)) := hV.own (some j) hj
  obtain ⟨aj, cj, ej, hvj, _⟩ := View.ofOwned hr
  rcases h0.2 with ⟨e, hn⟩ | ⟨g, cap, cur, e, hg, hgg, hle, _⟩
  · omega
  · subst e
    exact ⟨g, cap, aj, cj, rfl, ej, by rw [h0.cellAt j (by omega), cellsL_at V _ j hj], hvj, (Array.getElem?_eq_some_iff.1 hgg).1⟩
theorem OwnL.kept {w w' : World} {lo : Nat} {hv : Value} {N : List (List Int)} {ob : Option Nat} (h : OwnL w lo hv N) (hg : w.grownBy w' ob) (hob : ∀ g, ob = some g → g < lo) : OwnL w' lo hv N := by
  obtain ⟨V, hV⟩ := h; exact ⟨V, hV.kept hg hob⟩
theorem OwnL.below {w w' : World} {lo : Nat} {hv : Value} {N : List (List Int)} (h : OwnL w lo hv N) (hb : Below w.heap.size w w') : OwnL w' lo hv N := h.kept (ob := none) ⟨hb.os, hb.tape, hb.output, hb.size, fun k hk _ => hb.block k hk⟩ (fun g e => by cases e)
theorem OwnL.mono {w : World} {lo lo' : Nat} {hv : Value} {N : List (List Int)} (h : OwnL w lo hv N) (hl : lo' ≤ lo) : OwnL w lo' hv N := by
  obtain ⟨V, hV⟩ := h; exact ⟨V, fun q hq => own_mono (hV.own q hq) hl, hV.apart⟩
theorem OwnL.far {w w' : World} {lo g : Nat} {hv : Value} {N : List (List Int)} (h : OwnL w lo hv N) (hg : w.grownBy w' (some g)) (hs : w.heap.size ≤ g) : OwnL w' lo hv N :=
  h.same fun k cs T fr _ _ hk => by
    have hlt := (Array.getElem?_eq_some_iff.1 hk).1
    exact (hg.block k hlt (fun e => by cases e; omega)).trans hk

/-- What can be read of a list of lists. -/
def LV (w : World) (a : Option Addr) (N : List (List Int)) : Prop :=
  ∀ j, j < N.length → ∃ b off aj nj cj, a = some ⟨b, off, none⟩ ∧ b < w.heap.size ∧ w.cell? ⟨b, off + j, none⟩ = some (.slice aj nj cj) ∧ (rowN N j).length = nj ∧ nj ≤ cj ∧ View .i64 w aj (rowN N j)
theorem LV.below {w w' : World} {a : Option Addr} {N : List (List Int)} (h : LV w a N) (hb : Below w.heap.size w w') : LV w' a N := by
  intro j hj
  obtain ⟨b, off, aj, nj, cj, e, hlt, h1, h2, h3, h4⟩ := h j hj
  exact ⟨b, off, aj, nj, cj, e, Nat.lt_of_lt_of_le hlt hb.size, (hb.cell (p := ⟨b, off + j, none⟩) hlt).trans h1, h2, h3, h4.below hb⟩
/-- Its cells, one by one, at a place that is known. -/
theorem LV.at {w : World} {a : Option Addr} {N : List (List Int)} (h : LV w a N) {j : Nat} (hj : j < N.length) : ∃ b off aj nj cj, a = some ⟨b, off, none⟩ ∧ b < w.heap.size ∧ w.cell? ⟨b, off + j, none⟩ = some (.slice aj nj cj) ∧ (rowN N j).length = nj ∧ nj ≤ cj ∧ View .i64 w aj (rowN N j) := h j hj

theorem OwnL.head {w : World} {lo : Nat} {hv : Value} {N : List (List Int)} (h : OwnL w lo hv N) : ∃ a c, hv = .slice a N.length c ∧ N.length ≤ c ∧ LV w a N ∧ (∀ b off, a = some ⟨b, off, none⟩ → lo ≤ b ∧ b < w.heap.size) := by
  obtain ⟨V, hV⟩ := h
  have h0 : w.ownsRow lo 41 1 hv N.length (cellsL V N.length) := hV.own none trivial
  rcases h0.2 with ⟨e, hn⟩ | ⟨g, cap, cur, e, hg, hgg, hle, _⟩
  · exact ⟨none, 0, by rw [e, hn], by omega, fun j hj => by omega, fun b off e => by cases e⟩
  · refine ⟨some ⟨g, 0, none⟩, cap, e, hle, fun j hj => ?_, fun b off e => by cases e; exact ⟨hg, (Array.getElem?_eq_some_iff.1 hgg).1⟩⟩
    have hr : w.ownsRow lo 3 1 (V j) (rowN N j).length ((rowN N j).map (Value.int .i64)) := hV.own (some j) hj
    obtain ⟨aj, cj, ej, hvj, _⟩ := View.ofOwned hr
    have hcj : (rowN N j).length ≤ cj := by
      rcases hr.2 with ⟨e1, e2⟩ | ⟨g', cap', cur', e1, _, _, hle', _⟩
      · rw [e1] at ej; simp at ej; omega
      · rw [e1] at ej; simp at ej; omega
    refine ⟨g, 0, aj, _, cj, rfl, (Array.getElem?_eq_some_iff.1 hgg).1, ?_, rfl, hcj, hvj⟩
    subst e
    rw [Nat.zero_add, h0.cellAt j (by omega), cellsL_at V _ j hj, ej]

/-- A row that is stored into the list at a place. -/
theorem OwnL.put {W w : World} {lo h c : Nat} {N : List (List Int)} (hN : OwnL W lo (.slice (some ⟨h, 0, none⟩) N.length c) N) (hb : Below W.heap.size W w) {j : Nat} (hj : j < N.length) {v : Value} {l : List Int} (hlo : lo ≤ W.heap.size) (hv : w.ownsRow W.heap.size 3 1 v l.length (l.map (Value.int .i64))) :
    OwnL (w.setCell ⟨h, j, none⟩ v) lo (.slice (some ⟨h, 0, none⟩) N.length c) (N.set j l) ∧ (∃ u, w.cell? ⟨h, j, none⟩ = some u) ∧ w.frozen? ⟨h, j, none⟩ = false ∧ h < W.heap.size := by
  obtain ⟨V, hV⟩ := hN
  have h1 := hV.put (w' := w) (R' := fun q => if q = some j then ⟨3, 1, v, l.length, l.map (Value.int .i64)⟩ else rowL (.slice (some ⟨h, 0, none⟩) N.length c) V N q) (some j) hj ⟨hb.os, hb.tape, hb.output, hb.size, fun k hk _ => hb.block k hk⟩ (by rw [if_pos rfl]; exact own_mono hv hlo) (by rw [if_pos rfl]; exact .inr fun g e => (World.ownsRow.lt hv g e).1) (fun q hq hne => if_neg hne)
  have h0 : w.ownsRow lo 41 1 (.slice (some ⟨h, 0, none⟩) N.length c) N.length (cellsL V N.length) := by have := h1.own none trivial; simpa [RowX.own, rowL] using this
  have hs := own_setAt h0 j v
  have hV0 : W.ownsRow lo 41 1 (.slice (some ⟨h, 0, none⟩) N.length c) N.length (cellsL V N.length) := hV.own none trivial
  refine ⟨⟨fun k => if k = j then v else V k, ?_⟩, ⟨V j, by rw [h0.cellAt j (by omega), cellsL_at V _ j hj]⟩, h0.frozenAt _, (World.ownsRow.lt hV0 h rfl).2⟩
  have h2 := h1.put (w' := w.setCell ⟨h, j, none⟩ v) (R' := rowL (.slice (some ⟨h, 0, none⟩) N.length c) (fun k => if k = j then v else V k) (N.set j l)) none trivial (by simpa [rowL, Value.ownBlock] using grown_setCell w h j v) (by
      unfold RowX.own rowL
      simp only [List.length_set]
      rw [← cellsL_set V _ j v hj]; exact hs) (.inl rfl) (fun q hq hne => by
      cases q with
      | none => exact absurd rfl hne
      | some k =>
        have hk : k < N.length := hq
        by_cases e : k = j
        · subst e; simp [rowL, rowN_set N l k k hj]
        · have e2 : ¬ (some k = some j) := fun x => e (Option.some.inj x)
          simp [rowL, e, e2, rowN_set N l j k hj])
  refine ⟨fun q hq => h2.own q (by cases q with | none => trivial | some k => have : k < (N.set j l).length := hq; rwa [List.length_set] at this), fun q q' hq hq' => h2.apart q q' (by cases q with | none => trivial | some k => have : k < (N.set j l).length := hq; rwa [List.length_set] at this) (by cases q' with | none => trivial | some k => have : k < (N.set j l).length := hq'; rwa [List.length_set] at this)⟩

/-- A row of the list. -/
theorem OwnL.row {w : World} {lo h c : Nat} {N : List (List Int)} (hN : OwnL w lo (.slice (some ⟨h, 0, none⟩) N.length c) N) {j : Nat} (hj : j < N.length) : ∃ v, w.cell? ⟨h, j, none⟩ = some v ∧ w.frozen? ⟨h, j, none⟩ = false ∧ h < w.heap.size ∧ lo ≤ h ∧ w.ownsRow lo 3 1 v (rowN N j).length ((rowN N j).map (Value.int .i64)) ∧
    ∀ (w' : World) (v' : Value) (l : List Int), w.grownBy w' v.ownBlock → (v'.ownBlock = v.ownBlock ∨ ∀ g, v'.ownBlock = some g → w.heap.size ≤ g) → w'.ownsRow lo 3 1 v' l.length (l.map (Value.int .i64)) → OwnL (w'.setCell ⟨h, j, none⟩ v') lo (.slice (some ⟨h, 0, none⟩) N.length c) (N.set j l) ∧ (∃ u, w'.cell? ⟨h, j, none⟩ = some u) ∧ w'.frozen? ⟨h, j, none⟩ = false := by
  obtain ⟨V, hV⟩ := hN
  have hh : w.ownsRow lo 41 1 (.slice (some ⟨h, 0, none⟩) N.length c) N.length (cellsL V N.length) := hV.own none trivial
  refine ⟨V j, by rw [hh.cellAt j (by omega), cellsL_at V _ j hj], hh.frozenAt _, (World.ownsRow.lt hh h rfl).2, (World.ownsRow.lt hh h rfl).1, hV.own (some j) hj, fun w' v' l hg hvb hv => ?_⟩
  have h1 := hV.put (w' := w') (R' := fun q => if q = some j then ⟨3, 1, v', l.length, l.map (Value.int .i64)⟩ else rowL (.slice (some ⟨h, 0, none⟩) N.length c) V N q) (some j) hj hg (by rw [if_pos rfl]; exact hv) (by rw [if_pos rfl]; exact hvb) (fun q hq hne => if_neg hne)
  have h0 : w'.ownsRow lo 41 1 (.slice (some ⟨h, 0, none⟩) N.length c) N.length (cellsL V N.length) := by have := h1.own none trivial; simpa [RowX.own, rowL] using this
  have hs := own_setAt h0 j v'
  refine ⟨⟨fun k => if k = j then v' else V k, ?_⟩, ⟨V j, by rw [h0.cellAt j (by omega), cellsL_at V _ j hj]⟩, h0.frozenAt _⟩
  have h2 := h1.put (w' := w'.setCell ⟨h, j, none⟩ v') (R' := rowL (.slice (some ⟨h, 0, none⟩) N.length c) (fun k => if k = j then v' else V k) (N.set j l)) none trivial (by simpa [rowL, Value.ownBlock] using grown_setCell w' h j v') (by
      unfold RowX.own rowL
      simp only [List.length_set]
      rw [← cellsL_set V _ j v' hj]; exact hs) (.inl rfl) (fun q hq hne => by
      cases q with
      | none => exact absurd rfl hne
      | some k =>
        have hk : k < N.length := hq
        by_cases e : k = j
        · subst e; simp [rowL, rowN_set N l k k hj]
        · have e2 : ¬ (some k = some j) := fun x => e (Option.some.inj x)
          simp [rowL, e, e2, rowN_set N l j k hj])
  refine ⟨fun q hq => h2.own q (by cases q with | none => trivial | some k => have : k < (N.set j l).length := hq; rwa [List.length_set] at this), fun q q' hq hq' => h2.apart q q' (by cases q with | none => trivial | some k => have : k < (N.set j l).length := hq; rwa [List.length_set] at this) (by cases q' with | none => trivial | some k => have : k < (N.set j l).length := hq'; rwa [List.length_set] at this)⟩

/-- A list of n empty rows, as 'make' lays it. -/
theorem OwnL.made {w : World} {lo h n : Nat} (hr : w.ownsRow lo 41 1 (.slice (some ⟨h, 0, none⟩) n n) n (madeCells #[Value.slice none 0 0] (n * 1)).toList) : OwnL w lo (.slice (some ⟨h, 0, none⟩) n n) (List.replicate n []) := by
  have hc : (madeCells #[Value.slice none 0 0] (n * 1)).toList = cellsL (fun _ => .slice none 0 0) n := by
    rw [Nat.mul_one, toList_madeCells_one (.slice none 0 0) n]
    unfold cellsL
    apply List.ext_getElem (by simp)
    intro i h1 h2
    simp
  rw [hc] at hr
  have hrow : ∀ j, rowN (List.replicate n ([] : List Int)) j = [] := fun j => by
    unfold rowN
    by_cases hj : j < n
    · simp [List.getD, List.getElem?_replicate, hj]
    · simp [List.getD, List.getElem?_replicate, hj]
  refine ⟨fun _ => .slice none 0 0, fun q hq => ?_, fun q q' hq hq' hne g e1 e2 => ?_⟩
  · cases q with
    | none => simpa [RowX.own, rowL] using hr
    | some j => simp only [RowX.own, rowL, hrow]; exact World.ownsRow_nil _ _ _ _
  · cases q with
    | none =>
      cases q' with
      | none => exact hne rfl
      | some j => simp [rowL, Value.ownBlock] at e2
    | some j => simp [rowL, Value.ownBlock] at e1

/-- A row more at the list's end. -/
theorem OwnL.push {W w w' : World} {lo : Nat} {hv hv' : Value} {N : List (List Int)} (hN : OwnL W lo hv N) (hb : Below W.heap.size W w) {v : Value} {l : List Int} (hlo : lo ≤ W.heap.size) (hvr : w.ownsRow W.heap.size 3 1 v l.length (l.map (Value.int .i64))) :
    ∃ cs, w.ownsRow lo 41 1 hv N.length cs ∧ (w.grownBy w' hv.ownBlock → (hv'.ownBlock = hv.ownBlock ∨ ∀ g, hv'.ownBlock = some g → w.heap.size ≤ g) → w'.ownsRow lo 41 1 hv' (N.length + 1) (cs ++ [v]) → OwnL w' lo hv' (N ++ [l])) := by
  obtain ⟨V, hV⟩ := hN
  have hV1 : RowsX w lo (inL N) (rowL hv V N) := hV.kept (ob := none) ⟨hb.os, hb.tape, hb.output, hb.size, fun k hk _ => hb.block k hk⟩ (fun g e => by cases e)
  refine ⟨cellsL V N.length, hV1.own none trivial, fun hg hvb hh => ⟨fun k => if k = N.length then v else V k, fun q hq => ?_, fun q q' hq hq' hne g e1 e2 => ?_⟩⟩
  · cases q with
    | none =>
      unfold RowX.own rowL
      simp only [List.length_append, List.length_singleton]
      rw [← cellsL_succ]; exact hh
    | some j =>
      have hj : j < (N ++ [l]).length := hq
      simp at hj
      by_cases e : j = N.length
      · subst e
        simp only [RowX.own, rowL, if_pos rfl, rowN_last]
        have := own_grown hvr hg (fun g e1 e2 => by
          have h1 := (World.ownsRow.lt hvr g e2).1
          have h2 := (World.ownsRow.lt (hV.own none trivial) g e1).2
          omega)
        exact own_mono this hlo
      · have hjl : j < N.length := by omega
        simp only [RowX.own, rowL, if_neg e, rowN_app N l j hjl]
        exact own_grown (hV1.own (some j) hjl) hg (fun g e1 => hV1.apart none (some j) trivial hjl (by simp) g e1)
  · have fresh : ∀ g, v.ownBlock = some g → W.heap.size ≤ g ∧ g < w.heap.size := fun g e => World.ownsRow.lt hvr g e
    have old : ∀ q, inL N q → ∀ g, (rowL hv V N q).v.ownBlock = some g → g < W.heap.size := fun q hq g e => (World.ownsRow.lt (hV.own q hq) g e).2
    have headNew : ∀ g, hv'.ownBlock = some g → (hv.ownBlock = some g ∨ w.heap.size ≤ g) := fun g e => by
      rcases hvb with h | h
      · exact .inl (by rw [← h]; exact e)
      · exact .inr (h g e)
    have rowV : ∀ j, j < (N ++ [l]).length → ∀ g, (rowL hv' (fun k => if k = N.length then v else V k) (N ++ [l]) (some j)).v.ownBlock = some g → (j = N.length ∧ v.ownBlock = some g) ∨ (j < N.length ∧ (V j).ownBlock = some g) := fun j hj g e => by
      simp at hj
      by_cases ej : j = N.length
      · simp [rowL, ej] at e; exact .inl ⟨ej, e⟩
      · simp [rowL, ej] at e; exact .inr ⟨by omega, e⟩
    have hsz := hb.size
    have headRow : ∀ j, j < (N ++ [l]).length → hv'.ownBlock = some g → (rowL hv' (fun k => if k = N.length then v else V k) (N ++ [l]) (some j)).v.ownBlock = some g → False := fun j hj k1 k2 => by
      rcases rowV j hj g k2 with ⟨_, k3⟩ | ⟨hjl, k3⟩
      · have := fresh g k3
        rcases headNew g k1 with k4 | k4
        · have := old none trivial g k4; omega
        · omega
      · rcases headNew g k1 with k4 | k4
        · exact hV.apart none (some j) trivial hjl (by simp) g k4 k3
        · have := old (some j) hjl g k3; omega
    cases q with
    | none =>
      cases q' with
      | none => exact hne rfl
      | some j => exact headRow j hq' e1 e2
    | some i =>
      cases q' with
      | none => exact headRow i hq e2 e1
      | some j =>
        rcases rowV i hq g e1 with ⟨ei, k1⟩ | ⟨hi, k1⟩ <;> rcases rowV j hq' g e2 with ⟨ej, k2⟩ | ⟨hj, k2⟩
        · exact hne (by rw [ei, ej])
        · have := fresh g k1; have := old (some j) hj g k2; omega
        · have := fresh g k2; have := old (some i) hi g k1; omega
        · exact hV.apart (some i) (some j) hi hj hne g k1 k2

theorem GrInts.info : (Try.prog.info? 3).map (fun i => (i.zero, i.size, i.bytes)) = some (some (.int .i64 0), 1, 8) := by kernel_rfl
theorem GrLists.info : (Try.prog.info? 41).map (fun i => (i.zero, i.size, i.bytes)) = some (some (.slice none 0 0), 1, 24) := by kernel_rfl
/-- A number appended to a row of numbers of one's own. -/
theorem wpList_app1 {w : World} {ops : Array Oper} {rest : List Oper} {o : Oper} {a : Act} {Q : Exit → Act → World → Prop} (hgd : o.guard = none) (s x : Operand) (ho : o.op = .call { callee := .builtin .append, args := #[s, x], argTypes := #[41, 41] })
    (lo : Nat) (v : Value) (zs : List Int) (y : Int) (hs : a.eval s = v) (B : Nat) (hx : a.eval x = .slice (some ⟨B, 0, none⟩) 1 1) (hB : w.heap[B]? = some (.cells #[.int .i64 y] 3 (0, 0))) (hown : w.ownsRow lo 3 1 v zs.length (zs.map (Value.int .i64))) (hn : zs.length < 17592186044415) (hlo : lo ≤ w.heap.size)
    (h : ∀ g cap w', w'.ownsRow lo 3 1 (.slice (some ⟨g, 0, none⟩) (zs.length + 1) cap) (zs ++ [y]).length ((zs ++ [y]).map (Value.int .i64)) → w.grownBy w' v.ownBlock → (v.ownBlock = some g ∨ g = w.heap.size) → wpList Try.prog ops Q rest (a.put o.dst (.slice (some ⟨g, 0, none⟩) (zs.length + 1) cap)) w') : wpList Try.prog ops Q (o :: rest) a w := by
  obtain ⟨i0, hi, hz0, hz1, hz2⟩ := info_parts GrInts.info
  refine wpList_append_lies w hgd s x 41 ho lo 3 i0 (.int .i64 0) 1 8 Try.underlying41 hi hz0 hz1 hz2 rfl (by decide) v zs.length (zs.map (Value.int .i64)) hs hown ⟨B, 0, none⟩ 1 1 [.int .i64 y] hx rfl (World.news_of_block (cs := #[.int .i64 y]) (t := 3) (fr := (0, 0)) hB) (by intro u hu; simp at hu; subst hu; rfl) (by decide) (by unfold maxLen; omega) (by omega) hlo w.heap.size rfl ?_
  intro g cap w' h1 h2 h3 _
  exact h g cap w' (by simpa using h1) h2 h3
theorem OwnL.nil (w : World) (lo : Nat) : OwnL w lo (.slice none 0 0) [] := by
  refine ⟨fun _ => .slice none 0 0, fun q hq => ?_, fun q q' hq hq' hne g e1 e2 => ?_⟩
  · cases q with
    | none => exact World.ownsRow_nil _ _ _ _
    | some j => exact absurd hq (Nat.not_lt_zero j)
  · cases q with
    | none => simp [rowL, Value.ownBlock] at e1
    | some j => exact absurd hq (Nat.not_lt_zero j)

end Go.Proofs.Ytclgjolplobdbaa

/-
  Marks of nodes: whether a node is marked, and a mark more.
-/
namespace Go.Proofs.Ytclgjolplobdbaa
open Go.RowKit
set_option linter.unusedVariables false
set_option linter.unusedSimpArgs false
set_option maxRecDepth 10000

/-- The words of marks, at a place. -/
def MkAt (w : World) (b off : Nat) (m : Nat → Nat) : Prop := ∀ k, k < 64 → w.cell? ⟨b, off + k, none⟩ = some (.int .u64 (m k : Int)) ∧ w.frozen? ⟨b, off + k, none⟩ = false ∧ m k < 18446744073709551616
def hasM (m : Nat → Nat) (i : Nat) : Bool := (m (i / 64)).testBit (i % 64)
def setM (m : Nat → Nat) (i : Nat) : Nat → Nat := fun k => if k = i / 64 then m k ||| 2 ^ (i % 64) else m k

theorem hasM_setM (m : Nat → Nat) (i j : Nat) : hasM (setM m i) j = (decide (j = i) || hasM m j) := by
  unfold hasM setM
  by_cases h : j / 64 = i / 64
  · rw [if_pos h, Nat.testBit_or, Nat.testBit_two_pow]
    by_cases h2 : j = i
    · subst h2; simp
    · have : ¬ i % 64 = j % 64 := by omega
      simp [h2, this]
  · rw [if_neg h]
    have : ¬ j = i := fun e => h (by rw [e])
    simp [this]
theorem setM_lt (m : Nat → Nat) (i k : Nat) (h : m k < 18446744073709551616) : setM m i k < 18446744073709551616 := by
  unfold setM; split
  · have : (2 : Nat) ^ (i % 64) < 2 ^ 64 := Nat.pow_lt_pow_right (by omega) (by omega)
    exact Nat.or_lt_two_pow (n := 64) h this
  · exact h
theorem pow_wrap (r : Nat) (hr : r < 64) : IntKind.u64.wrap (2 ^ r) = (2 : Int) ^ r := by
  have hp : (2 : Nat) ^ r < 18446744073709551616 := Nat.pow_lt_pow_right (n := 64) (by omega) hr
  have e : (2 : Int) ^ r = ((2 ^ r : Nat) : Int) := by simp
  rw [e]
  clear e
  generalize (2 : Nat) ^ r = P at *
  rw [IntKind.wrap_u64]
  omega
theorem bit_and (v r : Nat) (h : v < 18446744073709551616) : (bits .and .u64 ((v : Int) / 2 ^ r) 1 == 1) = v.testBit r := by
  have e : ((v : Int) / 2 ^ r) = ((v / 2 ^ r : Nat) : Int) := by simp
  rw [e]
  have hb := u64_and_nat (v / 2 ^ r) 1 (Nat.lt_of_le_of_lt (Nat.div_le_self _ _) h) (by omega)
  rw [show ((1 : Nat) : Int) = 1 from rfl] at hb
  rw [hb, Nat.testBit_eq_decide_div_mod_eq, Nat.and_one_is_mod]
  rw [Bool.eq_iff_iff]
  simp
  omega

set_option maxHeartbeats 1000000 in
theorem marksHas_any (b off : Nat) (m : Nat → Nat) (i : Nat) (w : World) (h : MkAt w b off m) (hi : i < 4096) : Calls Try.prog 30 #[.pointer (some ⟨b, off, none⟩), .int .i64 (i : Int)] w fun e w' => e = .returned (.bool (hasM m i)) ∧ w = w' := by
  obtain ⟨hc, hf, hm⟩ := h (i / 64) (by omega)
  have h0 : (0 : Int) ≤ (i : Int) := by omega
  have h1 : (i : Int) < 4096 := by omega
  obtain ⟨q, hq⟩ : ∃ q, i / 64 = q := ⟨_, rfl⟩
  obtain ⟨r, hr⟩ : ∃ r, i % 64 = r := ⟨_, rfl⟩
  have hqi : (i : Int) / 64 = (q : Int) := by omega
  have hri : (i : Int) % 64 = (r : Int) := by omega
  have HQ : Hid (q < 64) := by show q < 64; omega
  have hq1 : (q : Int) < 64 := by omega
  have hr1 : (r : Int) < 64 := by omega
  have HX : Hid (hasM m i = (m q).testBit r) := by show _ = _; unfold hasM; rw [hq, hr]
  rw [hq] at hc hm
  generalize hasM m i = x at *
  generalize m q = v at *
  have HM := hide hm
  clear h hi hf hq hr hm
  go_enter Try.func30, Try.ntmps30
  go_wp2
  go_ret
  exact ⟨by rw [HX.out, bit_and v r HM.out]; rfl, rfl⟩

set_option maxHeartbeats 2000000 in
theorem marksSet_any (b off : Nat) (m : Nat → Nat) (i : Nat) (w : World) (h : MkAt w b off m) (hi : i < 4096) : Calls Try.prog 46 #[.pointer (some ⟨b, off, none⟩), .int .i64 (i : Int)] w fun e w' => e = .returned (.tuple #[]) ∧ ∃ d, w' = (w.setCell ⟨b, off + i / 64, none⟩ (.int .u64 (setM m i (i / 64) : Int))).drewN d := by
  obtain ⟨hc, hf, hm⟩ := h (i / 64) (by omega)
  have h0 : (0 : Int) ≤ (i : Int) := by omega
  have h1 : (i : Int) < 4096 := by omega
  obtain ⟨q, hq⟩ : ∃ q, i / 64 = q := ⟨_, rfl⟩
  obtain ⟨r, hr⟩ : ∃ r, i % 64 = r := ⟨_, rfl⟩
  have eq : (i : Int).tdiv 64 = (q : Int) := by rw [Int.tdiv_eq_ediv_of_nonneg (by omega)]; omega
  have em : (i : Int).tmod 64 = (r : Int) := by rw [Int.tmod_eq_emod_of_nonneg (by omega)]; omega
  have hqi : (i : Int) / 64 = (q : Int) := by omega
  have hri : (i : Int) % 64 = (r : Int) := by omega
  have hq1 : (q : Int) < 64 := by omega
  have hr1 : (r : Int) < 64 := by omega
  have hwq : IntKind.i64.wrap (q : Int) = (q : Int) := by rw [IntKind.wrap_i64]; omega
  have hwr : IntKind.i64.wrap (r : Int) = (r : Int) := by rw [IntKind.wrap_i64]; omega
  have HX : Hid ((setM m i q : Int) = bits .or .u64 (m q : Int) (2 ^ r)) := by
    show _ = _
    unfold setM
    rw [if_pos hq.symm, hr]
    have hp : (2 : Nat) ^ r < 18446744073709551616 := Nat.pow_lt_pow_right (n := 64) (by omega) (by omega)
    rw [hq] at hm
    have := u64_or_nat (m q) (2 ^ r) hm hp
    rw [← this]; simp
  have hws : IntKind.u64.wrap (2 ^ r) = (2 : Int) ^ r := pow_wrap r (by omega)
  rw [hq] at hc hm hf ⊢
  generalize setM m i q = x at *
  generalize m q = v at *
  have HM := hide hm
  clear h hi hq hr hm
  go_enter Try.func46, Try.ntmps46
  go_region_with (fail)
  all_goals
    go_end0
    rw [← HX.out]
    exact ⟨rfl, 1, rfl⟩

end Go.Proofs.Ytclgjolplobdbaa

/-
  once of graph: nodes, each where it stands first, in new memory. Marks in a block of their own.
-/
namespace Go.Proofs.Ytclgjolplobdbaa
open Go.RowKit
set_option linter.unusedVariables false
set_option linter.unusedSimpArgs false
set_option maxRecDepth 10000

def arr64 (m : Nat → Nat) : List Value := (List.range 64).map fun k => .int .u64 (m k : Int)
theorem arr64_len (m : Nat → Nat) : (arr64 m).length = 64 := by simp [arr64]
theorem arr64_get (m : Nat → Nat) (k : Nat) (h : k < 64) : (arr64 m)[k]? = some (.int .u64 (m k : Int)) := by simp [arr64, h]
theorem arr64_set (m : Nat → Nat) (i : Nat) (h : i < 4096) : (arr64 m).set (i / 64) (.int .u64 (setM m i (i / 64) : Int)) = arr64 (setM m i) := by
  apply List.ext_getElem?
  intro j
  by_cases hj : j < 64
  · rw [List.getElem?_set, arr64_get _ j hj, arr64_get _ j hj, arr64_len]
    by_cases e : i / 64 = j
    · subst e; simp [hj]
    · have : setM m i j = m j := by unfold setM; rw [if_neg (fun x => e x.symm)]
      simp [e, this]
  · rw [List.getElem?_eq_none (by rw [List.length_set, arr64_len]; omega), List.getElem?_eq_none (by rw [arr64_len]; omega)]
/-- Block b is marks. -/
def MkB (w : World) (b : Nat) (m : Nat → Nat) : Prop := w.heap[b]? = some (.cells (arr64 m).toArray 64 (0, 0)) ∧ ∀ k, m k < 18446744073709551616
theorem MkB.at {w : World} {b : Nat} {m : Nat → Nat} (h : MkB w b m) : MkAt w b 0 m := fun k hk => by
  refine ⟨?_, ?_, h.2 k⟩
  · rw [Nat.zero_add]; simp [World.cell?, h.1, arr64_get m k hk]
  · simp [World.frozen?, h.1]
theorem MkB.set {w : World} {b : Nat} {m : Nat → Nat} (h : MkB w b m) {i : Nat} (hi : i < 4096) (d : Nat) : MkB ((w.setCell ⟨b, 0 + i / 64, none⟩ (.int .u64 (setM m i (i / 64) : Int))).drewN d) b (setM m i) := by
  refine ⟨?_, fun k => setM_lt m i k (h.2 k)⟩
  show (w.setCell ⟨b, 0 + i / 64, none⟩ (.int .u64 (setM m i (i / 64) : Int))).heap[b]? = _
  rw [Nat.zero_add]
  simp only [World.setCell, Array.getElem?_modify]
  rw [if_pos trivial, h.1, ← arr64_set m i hi]
  simp
theorem MkB.below {w w' : World} {b : Nat} {m : Nat → Nat} (h : MkB w b m) (hb : Below w.heap.size w w') : MkB w' b m := ⟨(hb.block b (Array.getElem?_eq_some_iff.1 h.1).1).trans h.1, h.2⟩
theorem MkB.kept {w w' : World} {b : Nat} {m : Nat → Nat} {ob : Option Nat} (h : MkB w b m) (hg : w.grownBy w' ob) (hne : ob ≠ some b) : MkB w' b m := ⟨(hg.block b (Array.getElem?_eq_some_iff.1 h.1).1 (fun e => hne e.symm)).trans h.1, h.2⟩
theorem arr64_zero : (arr64 fun _ => 0).toArray = #[.int .u64 0, .int .u64 0, .int .u64 0, .int .u64 0, .int .u64 0, .int .u64 0, .int .u64 0, .int .u64 0, .int .u64 0, .int .u64 0, .int .u64 0, .int .u64 0, .int .u64 0, .int .u64 0, .int .u64 0, .int .u64 0, .int .u64 0, .int .u64 0, .int .u64 0, .int .u64 0, .int .u64 0, .int .u64 0, .int .u64 0, .int .u64 0, .int .u64 0, .int .u64 0, .int .u64 0, .int .u64 0, .int .u64 0, .int .u64 0, .int .u64 0, .int .u64 0, .int .u64 0, .int .u64 0, .int .u64 0, .int .u64 0, .int .u64 0, .int .u64 0, .int .u64 0, .int .u64 0, .int .u64 0, .int .u64 0, .int .u64 0, .int .u64 0, .int .u64 0, .int .u64 0, .int .u64 0, .int .u64 0, .int .u64 0, .int .u64 0, .int .u64 0, .int .u64 0, .int .u64 0, .int .u64 0, .int .u64 0, .int .u64 0, .int .u64 0, .int .u64 0, .int .u64 0, .int .u64 0, .int .u64 0, .int .u64 0, .int .u64 0, .int .u64 0] := rfl
theorem MkB.new (w : World) : MkB (w.alloc (.cells #[.int .u64 0, .int .u64 0, .int .u64 0, .int .u64 0, .int .u64 0, .int .u64 0, .int .u64 0, .int .u64 0, .int .u64 0, .int .u64 0, .int .u64 0, .int .u64 0, .int .u64 0, .int .u64 0, .int .u64 0, .int .u64 0, .int .u64 0, .int .u64 0, .int .u64 0, .int .u64 0, .int .u64 0, .int .u64 0, .int .u64 0, .int .u64 0, .int .u64 0, .int .u64 0, .int .u64 0, .int .u64 0, .int .u64 0, .int .u64 0, .int .u64 0, .int .u64 0, .int .u64 0, .int .u64 0, .int .u64 0, .int .u64 0, .int .u64 0, .int .u64 0, .int .u64 0, .int .u64 0, .int .u64 0, .int .u64 0, .int .u64 0, .int .u64 0, .int .u64 0, .int .u64 0, .int .u64 0, .int .u64 0, .int .u64 0, .int .u64 0, .int .u64 0, .int .u64 0, .int .u64 0, .int .u64 0, .int .u64 0, .int .u64 0, .int .u64 0, .int .u64 0, .int .u64 0, .int .u64 0, .int .u64 0, .int .u64 0, .int .u64 0, .int .u64 0] 64)) w.heap.size (fun _ => 0) := by
  refine ⟨?_, fun k => by show (0 : Nat) < _; omega⟩
  rw [arr64_zero]
  show (w.heap.push _)[w.heap.size]? = _
  rw [Array.getElem?_push_size]
theorem hasM_zero (i : Nat) : hasM (fun _ => 0) i = false := by simp [hasM]
/-- The marked nodes are these. -/
def Marked (m : Nat → Nat) (c : List Int) : Prop := ∀ i : Nat, i < 4096 → hasM m i = decide ((i : Int) ∈ c)
theorem marked_nil : Marked (fun _ => 0) [] := fun i _ => by simp [hasM_zero]
theorem Marked.add {m : Nat → Nat} {c : List Int} (h : Marked m c) (i : Nat) : Marked (setM m i) (c ++ [(i : Int)]) := fun j hj => by
  rw [hasM_setM, h j hj, Bool.eq_iff_iff]
  simp only [Bool.or_eq_true, decide_eq_true_eq, List.mem_append, List.mem_singleton]
  constructor
  · rintro (h | h)
    · exact .inr (by rw [h])
    · exact .inl h
  · rintro (h | h)
    · exact .inr h
    · exact .inl (by omega)

theorem measZ2 {k n : Nat} (h : k < n) : n - (intOf (.int .i64 ((k : Int) + 1))).toNat < n - (intOf (.int .i64 (k : Int))).toNat := by simp [intOf]; omega
/-- A row of nodes that is built beside marks. -/
structure OnceS (w wr : World) (B : Nat) (v : Value) (zs : List Int) (m : Nat → Nat) : Prop where
  own : wr.ownsRow (B + 1) 3 1 v zs.length (zs.map (Value.int .i64))
  marks : MkB wr B m
  marked : Marked m zs
  bel : Below w.heap.size w wr
  lt : w.heap.size = B
theorem OnceS.below {w wr wr' : World} {B : Nat} {v : Value} {zs : List Int} {m : Nat → Nat} (h : OnceS w wr B v zs m) (hb : Below wr.heap.size wr wr') : OnceS w wr' B v zs m :=
  ⟨own_below h.own hb, h.marks.below hb, h.marked, h.bel.trans (hb.mono h.bel.size), h.lt⟩

/-- A mark more. -/
theorem OnceS.mark {w wr : World} {B : Nat} {v : Value} {zs : List Int} {m : Nat → Nat} (h : OnceS w wr B v zs m) {x : Nat} (hx : x < 4096) (d : Nat) {w3 : World} (hd : w3 = (wr.setCell ⟨B, 0 + x / 64, none⟩ (.int .u64 (setM m x (x / 64) : Int))).drewN d) :
    w3.ownsRow (B + 1) 3 1 v zs.length (zs.map (Value.int .i64)) ∧ MkB w3 B (setM m x) ∧ Below w.heap.size w w3 ∧ B < w3.heap.size := by
  have hg : wr.grownBy w3 (some B) := by
    rw [hd]
    have := grown_setCell wr B (0 + x / 64) (.int .u64 (setM m x (x / 64) : Int))
    exact ⟨this.os, this.tape, this.output, this.size, this.block⟩
  have hm : MkB w3 B (setM m x) := by rw [hd]; exact h.marks.set hx d
  refine ⟨own_grown h.own hg (fun g e e2 => by have := (World.ownsRow.lt h.own g e2).1; cases e; omega), hm, h.bel.grown hg h.bel.size (fun k e => by cases e; have := h.lt; omega), (Array.getElem?_eq_some_iff.1 hm.1).1⟩
theorem OnceS.push {w w3 w5 : World} {B : Nat} {v v' : Value} {zs : List Int} {m : Nat → Nat} {x : Nat} (o : Obj) (hown : w3.ownsRow (B + 1) 3 1 v zs.length (zs.map (Value.int .i64))) (hm : MkB w3 B (setM m x)) (hb : Below w.heap.size w w3) (hl : w.heap.size = B) (hmk : Marked m zs) (hg : (w3.alloc o).grownBy w5 v.ownBlock) (h' : w5.ownsRow (B + 1) 3 1 v' (zs ++ [(x : Int)]).length ((zs ++ [(x : Int)]).map (Value.int .i64))) : OnceS w w5 B v' (zs ++ [(x : Int)]) (setM m x) := by
  have ha : Below w3.heap.size w3 (w3.alloc o) := (Below.refl _ _).alloc (Nat.le_refl _) _
  refine ⟨h', (hm.below ha).kept hg (fun e => by have := (World.ownsRow.lt hown B e).1; omega), hmk.add x, (hb.trans (ha.mono hb.size)).grown hg (by rw [World.size_alloc]; have := hb.size; omega) (fun k e => by have := (World.ownsRow.lt hown k e).1; omega), hl⟩

set_option maxHeartbeats 4000000 in
theorem once_any (a : Option Addr) (n c : Nat) (zs : List Int) (w : World) (hv : View .i64 w a zs) (hl : zs.length = n) (hn : 8 * n ≤ 140737488351232) (hr : ∀ x ∈ zs, 0 ≤ x ∧ x < 4096) :
    Calls Try.prog 37 #[.slice a n c] w fun e w' => ∃ v, e = .returned v ∧ w'.ownsRow w.heap.size 3 1 v (onceF zs).length ((onceF zs).map (Value.int .i64)) ∧ Below w.heap.size w w' := by
  obtain ⟨i0, hi, hz0, hz1, hz2⟩ := info_parts GrInts.info
  have HL := hide hl
  have HR := hide hr
  have HV := hide hv
  have HN := hide hn
  have hni : (8 : Int) * n ≤ 140737488351232 := by omega
  clear hl hr hv hn
  have HM := hide (MkB.new w)
  have HW0 : Hid ((w.alloc (.cells #[.int .u64 0, .int .u64 0, .int .u64 0, .int .u64 0, .int .u64 0, .int .u64 0, .int .u64 0, .int .u64 0, .int .u64 0, .int .u64 0, .int .u64 0, .int .u64 0, .int .u64 0, .int .u64 0, .int .u64 0, .int .u64 0, .int .u64 0, .int .u64 0, .int .u64 0, .int .u64 0, .int .u64 0, .int .u64 0, .int .u64 0, .int .u64 0, .int .u64 0, .int .u64 0, .int .u64 0, .int .u64 0, .int .u64 0, .int .u64 0, .int .u64 0, .int .u64 0, .int .u64 0, .int .u64 0, .int .u64 0, .int .u64 0, .int .u64 0, .int .u64 0, .int .u64 0, .int .u64 0, .int .u64 0, .int .u64 0, .int .u64 0, .int .u64 0, .int .u64 0, .int .u64 0, .int .u64 0, .int .u64 0, .int .u64 0, .int .u64 0, .int .u64 0, .int .u64 0, .int .u64 0, .int .u64 0, .int .u64 0, .int .u64 0, .int .u64 0, .int .u64 0, .int .u64 0, .int .u64 0, .int .u64 0, .int .u64 0, .int .u64 0, .int .u64 0] 64)).heap.size = w.heap.size + 1) := World.size_alloc _ _
  have HB0 : Hid (Below w.heap.size w (w.alloc (.cells #[.int .u64 0, .int .u64 0, .int .u64 0, .int .u64 0, .int .u64 0, .int .u64 0, .int .u64 0, .int .u64 0, .int .u64 0, .int .u64 0, .int .u64 0, .int .u64 0, .int .u64 0, .int .u64 0, .int .u64 0, .int .u64 0, .int .u64 0, .int .u64 0, .int .u64 0, .int .u64 0, .int .u64 0, .int .u64 0, .int .u64 0, .int .u64 0, .int .u64 0, .int .u64 0, .int .u64 0, .int .u64 0, .int .u64 0, .int .u64 0, .int .u64 0, .int .u64 0, .int .u64 0, .int .u64 0, .int .u64 0, .int .u64 0, .int .u64 0, .int .u64 0, .int .u64 0, .int .u64 0, .int .u64 0, .int .u64 0, .int .u64 0, .int .u64 0, .int .u64 0, .int .u64 0, .int .u64 0, .int .u64 0, .int .u64 0, .int .u64 0, .int .u64 0, .int .u64 0, .int .u64 0, .int .u64 0, .int .u64 0, .int .u64 0, .int .u64 0, .int .u64 0, .int .u64 0, .int .u64 0, .int .u64 0, .int .u64 0, .int .u64 0, .int .u64 0] 64))) := (Below.refl _ w).alloc (Nat.le_refl _) _
  have hHS := fun m (b : Nat) wx (i : Nat) (h : MkB wx b m) (hi : i < 4096) => marksHas_any b 0 m i wx h.at hi
  have hST := fun m (b : Nat) wx (i : Nat) (h : MkB wx b m) (hi : i < 4096) => marksSet_any b 0 m i wx h.at hi
  have HHS := hide hHS
  have HST := hide hST
  clear hHS hST
  rcases Decidable.em ((4096 : Int) < (n : Int)) with hm | hm
  all_goals
    go_enter Try.func37, Try.ntmps37
    go_wp2_with (at_make; first | (refine wpList_make_own _ rfl _ _ 41 rfl (w.heap.size + 1) 3 i0 (.int .i64 0) 1 Try.underlying41 hi hz0 hz1 _ _ _ 4096 rfl rfl (by rfl) (by rw [hz2]; omega) (by unfold maxLen; omega) (by simp) ?_) | (refine wpList_make_own _ rfl _ _ 41 rfl (w.heap.size + 1) 3 i0 (.int .i64 0) 1 Try.underlying41 hi hz0 hz1 _ _ _ n rfl rfl (by rfl) (by rw [hz2]; have := HN.out; omega) (by unfold maxLen; have := HN.out; omega) (by simp) ?_))
    intro w1 hown1 hgr1
    have hb1 : Below (w.heap.size + 1) (w.alloc (.cells #[.int .u64 0, .int .u64 0, .int .u64 0, .int .u64 0, .int .u64 0, .int .u64 0, .int .u64 0, .int .u64 0, .int .u64 0, .int .u64 0, .int .u64 0, .int .u64 0, .int .u64 0, .int .u64 0, .int .u64 0, .int .u64 0, .int .u64 0, .int .u64 0, .int .u64 0, .int .u64 0, .int .u64 0, .int .u64 0, .int .u64 0, .int .u64 0, .int .u64 0, .int .u64 0, .int .u64 0, .int .u64 0, .int .u64 0, .int .u64 0, .int .u64 0, .int .u64 0, .int .u64 0, .int .u64 0, .int .u64 0, .int .u64 0, .int .u64 0, .int .u64 0, .int .u64 0, .int .u64 0, .int .u64 0, .int .u64 0, .int .u64 0, .int .u64 0, .int .u64 0, .int .u64 0, .int .u64 0, .int .u64 0, .int .u64 0, .int .u64 0, .int .u64 0, .int .u64 0, .int .u64 0, .int .u64 0, .int .u64 0, .int .u64 0, .int .u64 0, .int .u64 0, .int .u64 0, .int .u64 0, .int .u64 0, .int .u64 0, .int .u64 0, .int .u64 0] 64)) w1 := (Below.refl _ _).grown hgr1 (by rw [HW0.out]; exact Nat.le_refl _) (by simp)
    have HS := hide (OnceS.mk (w := w) (B := w.heap.size) hown1 (HM.out.below (hb1.mono (by rw [HW0.out]; exact Nat.le_refl _))) marked_nil (HB0.out.trans (hb1.mono (by omega))) rfl)
    clear HM HB0 HW0 hb1 hgr1 hown1
    generalize (w.alloc (.cells _ 64)).heap.size = GG at *
    have hu : (0 : Int) ≤ (n : Int) := by omega
    clear hm hi hz0 hz1 hz2
    go_wp2_with fail
    go_loopw [4, 13] (fun v i wr => ∃ (k : Nat) (m : Nat → Nat), k ≤ n ∧ i = .int .i64 k ∧ OnceS w wr w.heap.size v (onceF (zs.take k)) m) (fun _ i _ => n - (intOf i).toNat)
    case atStart => exact ⟨0, _, Nat.zero_le _, rfl, HS.out⟩
    case round =>
      obtain ⟨k, m, hk, rfl, hS⟩ := hrel
      by_cases hlt : k < n
      · have hkl : k < zs.length := by rw [HL.out]; exact hlt
        have hb := hS.bel
        obtain ⟨b, off, rfl, hbl, hc⟩ := HV.out k hkl
        have hc' := (hb.cell (p := ⟨b, off + k, none⟩) hbl).trans hc
        have hx := HR.out (nth zs k) (by have : nth zs k = zs[k] := by simp [nth, List.getD, hkl]
                                         rw [this]; exact List.getElem_mem hkl)
        have HSN := hide (once_snoc zs k hkl)
        have HSL : Hid ((onceF (zs.take k)).length ≤ k) := by have := once_len (zs.take k); rw [List.length_take] at this; show _ ≤ _; omega
        obtain ⟨x, hxe⟩ := Int.eq_ofNat_of_zero_le hx.1
        rw [hxe] at hc' HSN hx
        have hx4 : x < 4096 := by omega
        obtain ⟨a4, c4, rfl⟩ := own_shapeG hS.own
        generalize onceF (zs.take k) = z1 at *
        have hMk := hS.marked x hx4
        have hH := HHS.out m w.heap.size wr x hS.marks hx4
        have hki : (k : Int) < (n : Int) := by omega
        have HLT := hide hlt
        have HSS := hide hS
        clear HS hb hc hxe hkl hbl hS hlt hk hx
        generalize hq : hasM m x = q at *
        cases q with
        | true =>
          have HIN : Hid (onceF (zs.take (k + 1)) = z1) := by
            show _ = _
            have := HSN.out
            unfold addN at this
            rw [if_pos (of_decide_eq_true hMk.symm)] at this
            exact this
          clear hMk hq HSN
          go_wp2_with fail
          refine hH.mono ?_
          rintro e w2 ⟨rfl, rfl⟩
          clear hH
          go_wp2_with fail
          exact ⟨⟨k + 1, m, HLT.out, by simp, by rw [HIN.out]; exact HSS.out⟩, measZ2 HLT.out⟩
        | false =>
          have HIN : Hid (onceF (zs.take (k + 1)) = z1 ++ [(x : Int)]) := by
            show _ = _
            have := HSN.out
            unfold addN at this
            rw [if_neg (of_decide_eq_false hMk.symm)] at this
            exact this
          have hSt := HST.out m w.heap.size wr x HSS.out.marks hx4
          clear hMk hq HSN
          go_wp2_with fail
          refine hH.mono ?_
          rintro e w2 ⟨rfl, rfl⟩
          clear hH
          go_wp2_with fail
          refine hSt.mono ?_
          rintro e w3 ⟨rfl, d, hd⟩
          obtain ⟨o3, m3, b3, l3⟩ := HSS.out.mark hx4 d hd
          have ho4 : (w3.alloc (.cells #[.int .i64 (x : Int)] 3)).ownsRow (w.heap.size + 1) 3 1 (.slice a4 z1.length c4) z1.length (z1.map (Value.int .i64)) := own_below o3 ((Below.refl _ _).alloc (Nat.le_refl _) _)
          have HO4 := hide ho4
          have HO3 := hide o3
          have HM3 := hide m3
          have HB3 := hide b3
          have HL3 := hide l3
          have HNL : Hid (z1.length < 17592186044415) := by show _ < _; have := HSL.out; have := HLT.out; have := HN.out; omega
          clear hSt hd o3 m3 b3 l3 ho4
          go_wp2_with (at_builtin; refine wpList_app1 rfl (.tmp 22) (.tmp 24) rfl (w.heap.size + 1) _ z1 (x : Int) rfl w3.heap.size rfl (allocNew _ _ rfl) HO4.out HNL.out (by simp; have := HL3.out; omega) ?_)
          intro g cap w5 ho5 hg5 _
          have hS5 := OnceS.push _ HO3.out HM3.out HB3.out rfl HSS.out.marked hg5 (by simpa using ho5)
          have HS5 := hide hS5
          clear ho5 hg5 hS5 HO4 HO3 HM3 HB3 HL3
          go_wp2_with fail
          exact ⟨⟨k + 1, _, HLT.out, by simp, by rw [HIN.out]; exact HS5.out⟩, measZ2 HLT.out⟩
      · have e : k = n := by omega
        have HF : Hid (onceF (zs.take k) = onceF zs) := by show _ = _; rw [e, ← HL.out, List.take_length]
        have HSS := hide hS
        subst e
        obtain ⟨a4, c4, rfl⟩ := own_shapeG hS.own
        clear hS HS hk
        go_wp2_with fail
        go_ret
        have h1 := HSS.out.own
        rw [HF.out] at h1
        exact ⟨_, rfl, by rw [HF.out]; exact own_mono h1 (by omega), HSS.out.bel⟩

end Go.Proofs.Ytclgjolplobdbaa
