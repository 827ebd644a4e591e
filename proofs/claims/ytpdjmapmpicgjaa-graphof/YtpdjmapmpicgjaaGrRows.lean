/-
  Rows of rows of numbers in memory: a list of lists, each in memory of its own; and as they can be read.
-/
import Derived.WalkSpells
import Derived.Laws.AppendOwn
import Derived.Deep.AppendLies
import Derived.Test.YtpdjmapmpicgjaaProg
import Derived.Test.YtpdjmapmpicgjaaRowX
import Derived.Test.YtpdjmapmpicgjaaMathGr
import Derived.Test.YtpdjmapmpicgjaaAppendView
namespace Go.Proofs.Ytpdjmapmpicgjaa
open Go.RowKit
set_option linter.unusedVariables false
set_option linter.unusedSimpArgs false
set_option maxRecDepth 10000

theorem own_mono {w : World} {lo lo' e size n : Nat} {v : Value} {xs : List Value} (h : w.ownsRow lo e size v n xs) (hl : lo' ≤ lo) : w.ownsRow lo' e size v n xs := by
  refine ⟨h.1, ?_⟩
  rcases h.2 with hn | ⟨g, cap, cur, e1, hg, rest⟩
  · exact .inl hn
  · exact .inr ⟨g, cap, cur, e1, Nat.le_trans hl hg, rest⟩
theorem own_shapeG {w : World} {lo e size n : Nat} {v : Value} {xs : List Value} (h : w.ownsRow lo e size v n xs) : ∃ a c, v = .slice a n c := by
  rcases h.2 with ⟨rfl, h0⟩ | ⟨g, cap, cur, rfl, _⟩
  · exact ⟨none, 0, by rw [h0]⟩
  · exact ⟨_, _, rfl⟩
def cellsL (V : Nat → Value) (m : Nat) : List Value := (List.range m).map V
theorem cellsL_len (V : Nat → Value) (m : Nat) : (cellsL V m).length = m := by simp [cellsL]
theorem cellsL_at (V : Nat → Value) (m j : Nat) (h : j < m) : (cellsL V m)[j]? = some (V j) := by simp [cellsL, h]
theorem cellsL_set (V : Nat → Value) (m j : Nat) (v : Value) (h : j < m) : (cellsL V m).set j v = cellsL (fun k => if k = j then v else V k) m := by
  apply List.ext_getElem?
  intro i
  by_cases hi : i < m
  · rw [List.getElem?_set, cellsL_at _ m i hi, cellsL_len]
    by_cases e : j = i
    · subst e; simp [h, cellsL_at _ m j h]
    · have e' : ¬ i = j := fun x => e x.symm
      simp [e, e', cellsL_at _ m i hi]
  · rw [List.getElem?_eq_none (by rw [List.length_set, cellsL_len]; omega), List.getElem?_eq_none (by rw [cellsL_len]; omega)]
theorem cellsL_succ (V : Nat → Value) (m : Nat) (v : Value) : cellsL V m ++ [v] = cellsL (fun k => if k = m then v else V k) (m + 1) := by
  unfold cellsL
  rw [List.range_succ, List.map_append]
  congr 1
  · apply List.map_congr_left
    intro k hk
    have := List.mem_range.1 hk
    rw [if_neg (by omega)]
  · simp

def rowL (hv : Value) (V : Nat → Value) (N : List (List Int)) : Option Nat → RowX
  | none => ⟨32, 1, hv, N.length, cellsL V N.length⟩
  | some j => ⟨3, 1, V j, (rowN N j).length, (rowN N j).map (Value.int .i64)⟩
def inL (N : List (List Int)) : Option Nat → Prop
  | none => True
  | some j => j < N.length
/-- A list of lists in memory of its own, from block lo on. -/
def OwnL (w : World) (lo : Nat) (hv : Value) (N : List (List Int)) : Prop := ∃ V, RowsX w lo (inL N) (rowL hv V N)

theorem OwnL.same {w w' : World} {lo : Nat} {hv : Value} {N : List (List Int)} (h : OwnL w lo hv N) (hs : ∀ g cs T fr, lo ≤ g → (T = 3 ∨ T = 32) → w.heap[g]? = some (.cells cs T fr) → w'.heap[g]? = some (.cells cs T fr)) : OwnL w' lo hv N := by
  obtain ⟨V, hV⟩ := h
  refine ⟨V, fun q hq => ?_, hV.apart⟩
  have ho := hV.own q hq
  unfold RowX.own at ho ⊢
  refine ⟨ho.1, ?_⟩
  rcases ho.2 with hn | ⟨g, cap, cur, e, hg, hgg, rest⟩
  · exact .inl hn
  · refine .inr ⟨g, cap, cur, e, hg, hs g _ _ _ hg ?_ hgg, rest⟩
    cases q <;> simp [rowL]
theorem rowsL_same {w w' : World} {lo : Nat} {hv : Value} {V : Nat → Value} {N : List (List Int)} (hV : RowsX w lo (inL N) (rowL hv V N)) (hs : ∀ g cs T fr, lo ≤ g → (T = 3 ∨ T = 32) → w.heap[g]? = some (.cells cs T fr) → w'.heap[g]? = some (.cells cs T fr)) : RowsX w' lo (inL N) (rowL hv V N) := by
  refine ⟨fun q hq => ?_, hV.apart⟩
  have ho := hV.own q hq
  unfold RowX.own at ho ⊢
  refine ⟨ho.1, ?_⟩
  rcases ho.2 with hn | ⟨g, cap, cur, e, hg, hgg, rest⟩
  · exact .inl hn
  · refine .inr ⟨g, cap, cur, e, hg, hs g _ _ _ hg ?_ hgg, rest⟩
    cases q <;> simp [rowL]
/-- A row of the list, at its place. -/
theorem rowsL_read {w : World} {lo : Nat} {hv : Value} {V : Nat → Value} {N : List (List Int)} (hV : RowsX w lo (inL N) (rowL hv V N)) {j : Nat} (hj : j < N.length) : ∃ h c aj cj, hv = .slice (some ⟨h, 0, none⟩) N.length c ∧ V j = .slice aj (rowN N j).length cj ∧ w.cell? ⟨h, j, none⟩ = some (V j) ∧ View .i64 w aj (rowN N j) ∧ h < w.heap.size := by
  have h0 : w.ownsRow lo 32 1 hv N.length (cellsL V N.length) := hV.own none trivial
  have hr : w.ownsRow lo 3 1 (V j) (rowN N j).length ((rowN N j).map (Value.int .i64)) := hV.own (some j) hj
  obtain ⟨aj, cj, ej, hvj, _⟩ := View.ofOwned hr
  rcases h0.2 with ⟨e, hn⟩ | ⟨g, cap, cur, e, hg, hgg, hle, _⟩
  · omega
  · subst e
    exact ⟨g, cap, aj, cj, rfl, ej, by rw [h0.cellAt j (by omega), cellsL_at V _ j hj], hvj, (Array.getElem?_eq_some_iff.1 hgg).1⟩
theorem OwnL.kept {w w' : World} {lo : Nat} {hv : Value} {N : List (List Int)} {ob : Option Nat} (h : OwnL w lo hv N) (hg : w.grownBy w' ob) (hob : ∀ g, ob = some g → g < lo) : OwnL w' lo hv N := by
  obtain ⟨V, hV⟩ := h; exact ⟨V, hV.kept hg hob⟩
theorem OwnL.below {w w' : World} {lo : Nat} {hv : Value} {N : List (List Int)} (h : OwnL w lo hv N) (hb : Below w.heap.size w w') : OwnL w' lo hv N := h.kept (ob := none) ⟨hb.os, hb.tape, hb.output, hb.size, fun k hk _ => hb.block k hk⟩ (fun g e => by cases e)
theorem OwnL.mono {w : World} {lo lo' : Nat} {hv : Value} {N : List (List Int)} (h : OwnL w lo hv N) (hl : lo' ≤ lo) : OwnL w lo' hv N := by
  obtain ⟨V, hV⟩ := h; exact ⟨V, fun q hq => own_mono (hV.own q hq) hl, hV.apart⟩
theorem OwnL.far {w w' : World} {lo g : Nat} {hv : Value} {N : List (List Int)} (h : OwnL w lo hv N) (hg : w.grownBy w' (some g)) (hs : w.heap.size ≤ g) : OwnL w' lo hv N :=
  h.same fun k cs T fr _ _ hk => by
    have hlt := (Array.getElem?_eq_some_iff.1 hk).1
    exact (hg.block k hlt (fun e => by cases e; omega)).trans hk

/-- What can be read of a list of lists. -/
def LV (w : World) (a : Option Addr) (N : List (List Int)) : Prop :=
  ∀ j, j < N.length → ∃ b off aj nj cj, a = some ⟨b, off, none⟩ ∧ b < w.heap.size ∧ w.cell? ⟨b, off + j, none⟩ = some (.slice aj nj cj) ∧ (rowN N j).length = nj ∧ nj ≤ cj ∧ View .i64 w aj (rowN N j)
theorem LV.below {w w' : World} {a : Option Addr} {N : List (List Int)} (h : LV w a N) (hb : Below w.heap.size w w') : LV w' a N := by
  intro j hj
  obtain ⟨b, off, aj, nj, cj, e, hlt, h1, h2, h3, h4⟩ := h j hj
  exact ⟨b, off, aj, nj, cj, e, Nat.lt_of_lt_of_le hlt hb.size, (hb.cell (p := ⟨b, off + j, none⟩) hlt).trans h1, h2, h3, h4.below hb⟩
/-- Its cells, one by one, at a place that is known. -/
theorem LV.at {w : World} {a : Option Addr} {N : List (List Int)} (h : LV w a N) {j : Nat} (hj : j < N.length) : ∃ b off aj nj cj, a = some ⟨b, off, none⟩ ∧ b < w.heap.size ∧ w.cell? ⟨b, off + j, none⟩ = some (.slice aj nj cj) ∧ (rowN N j).length = nj ∧ nj ≤ cj ∧ View .i64 w aj (rowN N j) := h j hj

theorem OwnL.head {w : World} {lo : Nat} {hv : Value} {N : List (List Int)} (h : OwnL w lo hv N) : ∃ a c, hv = .slice a N.length c ∧ N.length ≤ c ∧ LV w a N ∧ (∀ b off, a = some ⟨b, off, none⟩ → lo ≤ b ∧ b < w.heap.size) := by
  obtain ⟨V, hV⟩ := h
  have h0 : w.ownsRow lo 32 1 hv N.length (cellsL V N.length) := hV.own none trivial
  rcases h0.2 with ⟨e, hn⟩ | ⟨g, cap, cur, e, hg, hgg, hle, _⟩
  · exact ⟨none, 0, by rw [e, hn], by omega, fun j hj => by omega, fun b off e => by cases e⟩
  · refine ⟨some ⟨g, 0, none⟩, cap, e, hle, fun j hj => ?_, fun b off e => by cases e; exact ⟨hg, (Array.getElem?_eq_some_iff.1 hgg).1⟩⟩
    have hr : w.ownsRow lo 3 1 (V j) (rowN N j).length ((rowN N j).map (Value.int .i64)) := hV.own (some j) hj
    obtain ⟨aj, cj, ej, hvj, _⟩ := View.ofOwned hr
    have hcj : (rowN N j).length ≤ cj := by
      rcases hr.2 with ⟨e1, e2⟩ | ⟨g', cap', cur', e1, _, _, hle', _⟩
      · rw [e1] at ej; simp at ej; omega
      · rw [e1] at ej; simp at ej; omega
    refine ⟨g, 0, aj, _, cj, rfl, (Array.getElem?_eq_some_iff.1 hgg).1, ?_, rfl, hcj, hvj⟩
    subst e
    rw [Nat.zero_add, h0.cellAt j (by omega), cellsL_at V _ j hj, ej]

/-- A row that is stored into the list at a place. -/
theorem OwnL.put {W w : World} {lo h c : Nat} {N : List (List Int)} (hN : OwnL W lo (.slice (some ⟨h, 0, none⟩) N.length c) N) (hb : Below W.heap.size W w) {j : Nat} (hj : j < N.length) {v : Value} {l : List Int} (hlo : lo ≤ W.heap.size) (hv : w.ownsRow W.heap.size 3 1 v l.length (l.map (Value.int .i64))) :
    OwnL (w.setCell ⟨h, j, none⟩ v) lo (.slice (some ⟨h, 0, none⟩) N.length c) (N.set j l) ∧ (∃ u, w.cell? ⟨h, j, none⟩ = some u) ∧ w.frozen? ⟨h, j, none⟩ = false ∧ h < W.heap.size := by
  obtain ⟨V, hV⟩ := hN
  have h1 := hV.put (w' := w) (R' := fun q => if q = some j then ⟨3, 1, v, l.length, l.map (Value.int .i64)⟩ else rowL (.slice (some ⟨h, 0, none⟩) N.length c) V N q) (some j) hj ⟨hb.os, hb.tape, hb.output, hb.size, fun k hk _ => hb.block k hk⟩ (by rw [if_pos rfl]; exact own_mono hv hlo) (by rw [if_pos rfl]; exact .inr fun g e => (World.ownsRow.lt hv g e).1) (fun q hq hne => if_neg hne)
  have h0 : w.ownsRow lo 32 1 (.slice (some ⟨h, 0, none⟩) N.length c) N.length (cellsL V N.length) := by have := h1.own none trivial; simpa [RowX.own, rowL] using this
  have hs := own_setAt h0 j v
  have hV0 : W.ownsRow lo 32 1 (.slice (some ⟨h, 0, none⟩) N.length c) N.length (cellsL V N.length) := hV.own none trivial
  refine ⟨⟨fun k => if k = j then v else V k, ?_⟩, ⟨V j, by rw [h0.cellAt j (by omega), cellsL_at V _ j hj]⟩, h0.frozenAt _, (World.ownsRow.lt hV0 h rfl).2⟩
  have h2 := h1.put (w' := w.setCell ⟨h, j, none⟩ v) (R' := rowL (.slice (some ⟨h, 0, none⟩) N.length c) (fun k => if k = j then v else V k) (N.set j l)) none trivial (by simpa [rowL, Value.ownBlock] using grown_setCell w h j v) (by
      unfold RowX.own rowL
      simp only [List.length_set]
      rw [← cellsL_set V _ j v hj]; exact hs) (.inl rfl) (fun q hq hne => by
      cases q with
      | none => exact absurd rfl hne
      | some k =>
        have hk : k < N.length := hq
        by_cases e : k = j
        · subst e; simp [rowL, rowN_set N l k k hj]
        · have e2 : ¬ (some k = some j) := fun x => e (Option.some.inj x)
          simp [rowL, e, e2, rowN_set N l j k hj])
  refine ⟨fun q hq => h2.own q (by cases q with | none => trivial | some k => have : k < (N.set j l).length := hq; rwa [List.length_set] at this), fun q q' hq hq' => h2.apart q q' (by cases q with | none => trivial | some k => have : k < (N.set j l).length := hq; rwa [List.length_set] at this) (by cases q' with | none => trivial | some k => have : k < (N.set j l).length := hq'; rwa [List.length_set] at this)⟩

/-- A row of the list. -/
theorem OwnL.row {w : World} {lo h c : Nat} {N : List (List Int)} (hN : OwnL w lo (.slice (some ⟨h, 0, none⟩) N.length c) N) {j : Nat} (hj : j < N.length) : ∃ v, w.cell? ⟨h, j, none⟩ = some v ∧ w.frozen? ⟨h, j, none⟩ = false ∧ h < w.heap.size ∧ lo ≤ h ∧ w.ownsRow lo 3 1 v (rowN N j).length ((rowN N j).map (Value.int .i64)) ∧
    ∀ (w' : World) (v' : Value) (l : List Int), w.grownBy w' v.ownBlock → (v'.ownBlock = v.ownBlock ∨ ∀ g, v'.ownBlock = some g → w.heap.size ≤ g) → w'.ownsRow lo 3 1 v' l.length (l.map (Value.int .i64)) → OwnL (w'.setCell ⟨h, j, none⟩ v') lo (.slice (some ⟨h, 0, none⟩) N.length c) (N.set j l) ∧ (∃ u, w'.cell? ⟨h, j, none⟩ = some u) ∧ w'.frozen? ⟨h, j, none⟩ = false := by
  obtain ⟨V, hV⟩ := hN
  have hh : w.ownsRow lo 32 1 (.slice (some ⟨h, 0, none⟩) N.length c) N.length (cellsL V N.length) := hV.own none trivial
  refine ⟨V j, by rw [hh.cellAt j (by omega), cellsL_at V _ j hj], hh.frozenAt _, (World.ownsRow.lt hh h rfl).2, (World.ownsRow.lt hh h rfl).1, hV.own (some j) hj, fun w' v' l hg hvb hv => ?_⟩
  have h1 := hV.put (w' := w') (R' := fun q => if q = some j then ⟨3, 1, v', l.length, l.map (Value.int .i64)⟩ else rowL (.slice (some ⟨h, 0, none⟩) N.length c) V N q) (some j) hj hg (by rw [if_pos rfl]; exact hv) (by rw [if_pos rfl]; exact hvb) (fun q hq hne => if_neg hne)
  have h0 : w'.ownsRow lo 32 1 (.slice (some ⟨h, 0, none⟩) N.length c) N.length (cellsL V N.length) := by have := h1.own none trivial; simpa [RowX.own, rowL] using this
  have hs := own_setAt h0 j v'
  refine ⟨⟨fun k => if k = j then v' else V k, ?_⟩, ⟨V j, by rw [h0.cellAt j (by omega), cellsL_at V _ j hj]⟩, h0.frozenAt _⟩
  have h2 := h1.put (w' := w'.setCell ⟨h, j, none⟩ v') (R' := rowL (.slice (some ⟨h, 0, none⟩) N.length c) (fun k => if k = j then v' else V k) (N.set j l)) none trivial (by simpa [rowL, Value.ownBlock] using grown_setCell w' h j v') (by
      unfold RowX.own rowL
      simp only [List.length_set]
      rw [← cellsL_set V _ j v' hj]; exact hs) (.inl rfl) (fun q hq hne => by
      cases q with
      | none => exact absurd rfl hne
      | some k =>
        have hk : k < N.length := hq
        by_cases e : k = j
        · subst e; simp [rowL, rowN_set N l k k hj]
        · have e2 : ¬ (some k = some j) := fun x => e (Option.some.inj x)
          simp [rowL, e, e2, rowN_set N l j k hj])
  refine ⟨fun q hq => h2.own q (by cases q with | none => trivial | some k => have : k < (N.set j l).length := hq; rwa [List.length_set] at this), fun q q' hq hq' => h2.apart q q' (by cases q with | none => trivial | some k => have : k < (N.set j l).length := hq; rwa [List.length_set] at this) (by cases q' with | none => trivial | some k => have : k < (N.set j l).length := hq'; rwa [List.length_set] at this)⟩

/-- A list of n empty rows, as 'make' lays it. -/
theorem OwnL.made {w : World} {lo h n : Nat} (hr : w.ownsRow lo 32 1 (.slice (some ⟨h, 0, none⟩) n n) n (madeCells #[Value.slice none 0 0] (n * 1)).toList) : OwnL w lo (.slice (some ⟨h, 0, none⟩) n n) (List.replicate n []) := by
  have hc : (madeCells #[Value.slice none 0 0] (n * 1)).toList = cellsL (fun _ => .slice none 0 0) n := by
    rw [Nat.mul_one, toList_madeCells_one (.slice none 0 0) n]
    unfold cellsL
    apply List.ext_getElem (by simp)
    intro i h1 h2
    simp
  rw [hc] at hr
  have hrow : ∀ j, rowN (List.replicate n ([] : List Int)) j = [] := fun j => by
    unfold rowN
    by_cases hj : j < n
    · simp [List.getD, List.getElem?_replicate, hj]
    · simp [List.getD, List.getElem?_replicate, hj]
  refine ⟨fun _ => .slice none 0 0, fun q hq => ?_, fun q q' hq hq' hne g e1 e2 => ?_⟩
  · cases q with
    | none => simpa [RowX.own, rowL] using hr
    | some j => simp only [RowX.own, rowL, hrow]; exact World.ownsRow_nil _ _ _ _
  · cases q with
    | none =>
      cases q' with
      | none => exact hne rfl
      | some j => simp [rowL, Value.ownBlock] at e2
    | some j => simp [rowL, Value.ownBlock] at e1

/-- A row more at the list's end. -/
theorem OwnL.push {W w w' : World} {lo : Nat} {hv hv' : Value} {N : List (List Int)} (hN : OwnL W lo hv N) (hb : Below W.heap.size W w) {v : Value} {l : List Int} (hlo : lo ≤ W.heap.size) (hvr : w.ownsRow W.heap.size 3 1 v l.length (l.map (Value.int .i64))) :
    ∃ cs, w.ownsRow lo 32 1 hv N.length cs ∧ (w.grownBy w' hv.ownBlock → (hv'.ownBlock = hv.ownBlock ∨ ∀ g, hv'.ownBlock = some g → w.heap.size ≤ g) → w'.ownsRow lo 32 1 hv' (N.length + 1) (cs ++ [v]) → OwnL w' lo hv' (N ++ [l])) := by
  obtain ⟨V, hV⟩ := hN
  have hV1 : RowsX w lo (inL N) (rowL hv V N) := hV.kept (ob := none) ⟨hb.os, hb.tape, hb.output, hb.size, fun k hk _ => hb.block k hk⟩ (fun g e => by cases e)
  refine ⟨cellsL V N.length, hV1.own none trivial, fun hg hvb hh => ⟨fun k => if k = N.length then v else V k, fun q hq => ?_, fun q q' hq hq' hne g e1 e2 => ?_⟩⟩
  · cases q with
    | none =>
      unfold RowX.own rowL
      simp only [List.length_append, List.length_singleton]
      rw [← cellsL_succ]; exact hh
    | some j =>
      have hj : j < (N ++ [l]).length := hq
      simp at hj
      by_cases e : j = N.length
      · subst e
        simp only [RowX.own, rowL, if_pos rfl, rowN_last]
        have := own_grown hvr hg (fun g e1 e2 => by
          have h1 := (World.ownsRow.lt hvr g e2).1
          have h2 := (World.ownsRow.lt (hV.own none trivial) g e1).2
          omega)
        exact own_mono this hlo
      · have hjl : j < N.length := by omega
        simp only [RowX.own, rowL, if_neg e, rowN_app N l j hjl]
        exact own_grown (hV1.own (some j) hjl) hg (fun g e1 => hV1.apart none (some j) trivial hjl (by simp) g e1)
  · have fresh : ∀ g, v.ownBlock = some g → W.heap.size ≤ g ∧ g < w.heap.size := fun g e => World.ownsRow.lt hvr g e
    have old : ∀ q, inL N q → ∀ g, (rowL hv V N q).v.ownBlock = some g → g < W.heap.size := fun q hq g e => (World.ownsRow.lt (hV.own q hq) g e).2
    have headNew : ∀ g, hv'.ownBlock = some g → (hv.ownBlock = some g ∨ w.heap.size ≤ g) := fun g e => by
      rcases hvb with h | h
      · exact .inl (by rw [← h]; exact e)
      · exact .inr (h g e)
    have rowV : ∀ j, j < (N ++ [l]).length → ∀ g, (rowL hv' (fun k => if k = N.length then v else V k) (N ++ [l]) (some j)).v.ownBlock = some g → (j = N.length ∧ v.ownBlock = some g) ∨ (j < N.length ∧ (V j).ownBlock = some g) := fun j hj g e => by
      simp at hj
      by_cases ej : j = N.length
      · simp [rowL, ej] at e; exact .inl ⟨ej, e⟩
      · simp [rowL, ej] at e; exact .inr ⟨by omega, e⟩
    have hsz := hb.size
    have headRow : ∀ j, j < (N ++ [l]).length → hv'.ownBlock = some g → (rowL hv' (fun k => if k = N.length then v else V k) (N ++ [l]) (some j)).v.ownBlock = some g → False := fun j hj k1 k2 => by
      rcases rowV j hj g k2 with ⟨_, k3⟩ | ⟨hjl, k3⟩
      · have := fresh g k3
        rcases headNew g k1 with k4 | k4
        · have := old none trivial g k4; omega
        · omega
      · rcases headNew g k1 with k4 | k4
        · exact hV.apart none (some j) trivial hjl (by simp) g k4 k3
        · have := old (some j) hjl g k3; omega
    cases q with
    | none =>
      cases q' with
      | none => exact hne rfl
      | some j => exact headRow j hq' e1 e2
    | some i =>
      cases q' with
      | none => exact headRow i hq e2 e1
      | some j =>
        rcases rowV i hq g e1 with ⟨ei, k1⟩ | ⟨hi, k1⟩ <;> rcases rowV j hq' g e2 with ⟨ej, k2⟩ | ⟨hj, k2⟩
        · exact hne (by rw [ei, ej])
        · have := fresh g k1; have := old (some j) hj g k2; omega
        · have := fresh g k2; have := old (some i) hi g k1; omega
        · exact hV.apart (some i) (some j) hi hj hne g k1 k2

theorem GrInts.info : (Try.prog.info? 3).map (fun i => (i.zero, i.size, i.bytes)) = some (some (.int .i64 0), 1, 8) := by kernel_rfl
theorem GrLists.info : (Try.prog.info? 32).map (fun i => (i.zero, i.size, i.bytes)) = some (some (.slice none 0 0), 1, 24) := by kernel_rfl
/-- A number appended to a row of numbers of one's own. -/
theorem wpList_app1 {w : World} {ops : Array Oper} {rest : List Oper} {o : Oper} {a : Act} {Q : Exit → Act → World → Prop} (hgd : o.guard = none) (s x : Operand) (ho : o.op = .call { callee := .builtin .append, args := #[s, x], argTypes := #[32, 32] })
    (lo : Nat) (v : Value) (zs : List Int) (y : Int) (hs : a.eval s = v) (B : Nat) (hx : a.eval x = .slice (some ⟨B, 0, none⟩) 1 1) (hB : w.heap[B]? = some (.cells #[.int .i64 y] 3 (0, 0))) (hown : w.ownsRow lo 3 1 v zs.length (zs.map (Value.int .i64))) (hn : zs.length < 17592186044415) (hlo : lo ≤ w.heap.size)
    (h : ∀ g cap w', w'.ownsRow lo 3 1 (.slice (some ⟨g, 0, none⟩) (zs.length + 1) cap) (zs ++ [y]).length ((zs ++ [y]).map (Value.int .i64)) → w.grownBy w' v.ownBlock → (v.ownBlock = some g ∨ g = w.heap.size) → wpList Try.prog ops Q rest (a.put o.dst (.slice (some ⟨g, 0, none⟩) (zs.length + 1) cap)) w') : wpList Try.prog ops Q (o :: rest) a w := by
  obtain ⟨i0, hi, hz0, hz1, hz2⟩ := info_parts GrInts.info
  refine wpList_append_lies w hgd s x 32 ho lo 3 i0 (.int .i64 0) 1 8 Try.underlying32 hi hz0 hz1 hz2 rfl (by decide) v zs.length (zs.map (Value.int .i64)) hs hown ⟨B, 0, none⟩ 1 1 [.int .i64 y] hx rfl (World.news_of_block (cs := #[.int .i64 y]) (t := 3) (fr := (0, 0)) hB) (by intro u hu; simp at hu; subst hu; rfl) (by decide) (by unfold maxLen; omega) (by omega) hlo w.heap.size rfl ?_
  intro g cap w' h1 h2 h3 _
  exact h g cap w' (by simpa using h1) h2 h3
theorem OwnL.nil (w : World) (lo : Nat) : OwnL w lo (.slice none 0 0) [] := by
  refine ⟨fun _ => .slice none 0 0, fun q hq => ?_, fun q q' hq hq' hne g e1 e2 => ?_⟩
  · cases q with
    | none => exact World.ownsRow_nil _ _ _ _
    | some j => exact absurd hq (Nat.not_lt_zero j)
  · cases q with
    | none => simp [rowL, Value.ownBlock] at e1
    | some j => exact absurd hq (Nat.not_lt_zero j)

end Go.Proofs.Ytpdjmapmpicgjaa
