/-
  Texts laid together in one: LayoutRows, LayoutReads, Law05Same, GraphSame, GraphContains, GraphAmong, IdsMakers, GraphFind.
-/
import Derived.WalkSpells
import Derived.Laws.AppendOwn
import Derived.Test.YtlcaedibmlidlaaGreatProg
import Derived.Test.YtlcaedibmlidlaaGreatB01
import Derived.Test.YtlcaedibmlidlaaGreatB10
import Derived.Deep.QuietTactic
import Derived.BigQuiet
import Derived.Test.YtlcaedibmlidlaaGreatB05
import Derived.Test.YtlcaedibmlidlaaGreatB08
import Derived.WalkMore
import Derived.BigGuard
import Derived.Test.YtlcaedibmlidlaaGreatB03
import Derived.Laws.EntriesVeiled
import Derived.BigRegion
import Derived.Maps.OwnSet
import Derived.Test.YtlcaedibmlidlaaGreatB09
import Derived.Test.YtlcaedibmlidlaaGreatB06
import Derived.OwnWalk
import Derived.Deep.MidRow
import Derived.Test.YtlcaedibmlidlaaGreatB02
/-
  Rows of memory that lie apart from one another; the functions of a walk in memory: a row of functions, each with a row of parameters and a row of blocks.
-/
namespace Go.Proofs.YtlcaedibmlidlaaGreat
open Go.RowKit
set_option linter.unusedVariables false
set_option linter.unusedSimpArgs false
set_option maxRecDepth 10000

def noFunc : FuncT := (0, 0, [], [], 0)
def nthF (fs : List FuncT) (j : Nat) : FuncT := fs.getD j noFunc
theorem nthF_lo (fs : List FuncT) (f : FuncT) (j : Nat) (h : j < fs.length) : nthF (fs ++ [f]) j = nthF fs j := by simp [nthF, List.getD, List.getElem?_append_left h]
theorem nthF_hi (fs : List FuncT) (f : FuncT) : nthF (fs ++ [f]) fs.length = f := by simp [nthF, List.getD]
def fC (f : FuncT) (pv bv : Value) : List Value := [.int .u32 f.1, .int .i64 f.2.1, pv, bv, .int .i64 f.2.2.2.2]
def bC (b : Int × Int × Int) : List Value := [.int .u32 b.1, .int .i64 b.2.1, .int .i64 b.2.2]
def cellsF (fs : List FuncT) (V : Bool → Nat → Value) : Nat → List Value
  | 0 => []
  | m + 1 => cellsF fs V m ++ fC (nthF fs m) (V false m) (V true m)
theorem cellsF_len (fs : List FuncT) (V : Bool → Nat → Value) : ∀ m, (cellsF fs V m).length = m * 5
  | 0 => rfl
  | m + 1 => by rw [cellsF, List.length_append, cellsF_len fs V m]; simp [fC]; omega
theorem cellsF_eq {fs fs' : List FuncT} {V V' : Bool → Nat → Value} : ∀ {m : Nat}, (∀ j, j < m → nthF fs' j = nthF fs j ∧ V' false j = V false j ∧ V' true j = V true j) → cellsF fs' V' m = cellsF fs V m
  | 0, _ => rfl
  | m + 1, h => by
    rw [cellsF, cellsF, cellsF_eq (fun j hj => h j (by omega))]
    obtain ⟨h1, h2, h3⟩ := h m (by omega)
    rw [h1, h2, h3]
theorem cellsF_at (fs : List FuncT) (V : Bool → Nat → Value) (m i : Nat) : (cellsF fs V (m + 1))[m * 5 + i]? = (fC (nthF fs m) (V false m) (V true m))[i]? := by
  rw [cellsF, List.getElem?_append_right (by rw [cellsF_len]; omega), cellsF_len]; congr 1; omega
theorem cellsF_set (fs : List FuncT) (V : Bool → Nat → Value) (m i : Nat) (u : Value) : (cellsF fs V (m + 1)).set (m * 5 + i) u = cellsF fs V m ++ (fC (nthF fs m) (V false m) (V true m)).set i u := by
  rw [cellsF, List.set_append, if_neg (by rw [cellsF_len]; omega), cellsF_len]; congr 2; omega

def rowF (fv : Value) (fs : List FuncT) (V : Bool → Nat → Value) : Option (Bool × Nat) → RowX
  | none => ⟨29, 5, fv, fs.length, cellsF fs V fs.length⟩
  | some (false, j) => ⟨3, 1, V false j, (nthF fs j).2.2.1.length, (nthF fs j).2.2.1.map (Value.int .i64)⟩
  | some (true, j) => ⟨65, 3, V true j, (nthF fs j).2.2.2.1.length, (nthF fs j).2.2.2.1.flatMap bC⟩
def inF (fs : List FuncT) : Option (Bool × Nat) → Prop
  | none => True
  | some (_, j) => j < fs.length
/-- The functions in memory, from block lo on. -/
def FuncsAt (w : World) (lo : Nat) (fv : Value) (fs : List FuncT) : Prop := ∃ V, RowsX w lo (inF fs) (rowF fv fs V)
theorem FuncsAt.nil (w : World) (lo : Nat) : FuncsAt w lo (.slice none 0 0) [] := by
  refine ⟨fun _ _ => .slice none 0 0, ⟨fun q hq => ?_, fun q q' hq hq' hne g e1 e2 => ?_⟩⟩
  · match q, hq with
    | none, _ => exact World.ownsRow_nil _ _ _ _
    | some (_, j), hq => exact absurd hq (Nat.not_lt_zero j)
  · match q, q', hq, hq' with
    | none, none, _, _ => exact hne rfl
    | some (_, j), _, hq, _ => exact absurd hq (Nat.not_lt_zero j)
    | none, some (_, j), _, hq => exact absurd hq (Nat.not_lt_zero j)
theorem FuncsAt.kept {w w' : World} {lo : Nat} {fv : Value} {fs : List FuncT} {ob : Option Nat} (h : FuncsAt w lo fv fs) (hg : w.grownBy w' ob) (hob : ∀ g, ob = some g → g < lo) : FuncsAt w' lo fv fs := by
  obtain ⟨V, hV⟩ := h; exact ⟨V, hV.kept hg hob⟩
theorem FuncsAt.below {w w' : World} {lo : Nat} {fv : Value} {fs : List FuncT} (h : FuncsAt w lo fv fs) (hb : Below w.heap.size w w') : FuncsAt w' lo fv fs := h.kept (ob := none) ⟨hb.os, hb.tape, hb.output, hb.size, fun k hk _ => hb.block k hk⟩ (fun g e => by cases e)
/-- The row of functions, and a function more. -/
theorem FuncsAt.row {w : World} {lo : Nat} {fv : Value} {fs : List FuncT} (h : FuncsAt w lo fv fs) : ∃ cs, w.ownsRow lo 29 5 fv fs.length cs ∧
    ∀ (w' : World) (fv' : Value) (id at_ : Int), w.grownBy w' fv.ownBlock → (fv'.ownBlock = fv.ownBlock ∨ ∀ g, fv'.ownBlock = some g → w.heap.size ≤ g) → w'.ownsRow lo 29 5 fv' (fs.length + 1) (cs ++ [.int .u32 id, .int .i64 at_, .slice none 0 0, .slice none 0 0, .int .i64 0]) → FuncsAt w' lo fv' (fs ++ [(id, at_, [], [], 0)]) := by
  obtain ⟨V, hV⟩ := h
  refine ⟨cellsF fs V fs.length, hV.own none trivial, fun w' fv' id at_ hg hv how => ?_⟩
  let V' : Bool → Nat → Value := fun b j => if j = fs.length then .slice none 0 0 else V b j
  have hcell : cellsF (fs ++ [(id, at_, [], [], 0)]) V' (fs.length + 1) = cellsF fs V fs.length ++ [.int .u32 id, .int .i64 at_, .slice none 0 0, .slice none 0 0, .int .i64 0] := by
    rw [cellsF, cellsF_eq (fs := fs) (V := V) (fun j hj => ⟨nthF_lo fs _ j hj, by simp [V', show j ≠ fs.length by omega], by simp [V', show j ≠ fs.length by omega]⟩), nthF_hi]
    simp [fC, V']
  have h1 := hV.put (R' := fun q => if q = none then ⟨29, 5, fv', fs.length + 1, cellsF fs V fs.length ++ [.int .u32 id, .int .i64 at_, .slice none 0 0, .slice none 0 0, .int .i64 0]⟩ else rowF fv fs V q) none trivial hg (by rw [if_pos rfl]; exact how) (by rw [if_pos rfl]; exact hv) (fun q hq hne => if_neg hne)
  refine ⟨V', h1.grow (fun q hq => ?_) (fun q hq => ?_)⟩
  · match q, hq with
    | none, _ => exact .inl trivial
    | some (b, j), hq =>
      by_cases e : j < fs.length
      · exact .inl e
      · have e2 : j = fs.length := by have : j < (fs ++ [((id, at_, [], [], 0) : FuncT)]).length := hq; simp at this; omega
        subst e2
        refine .inr ?_
        cases b
        · simp [rowF, V', nthF_hi]
        · simp [rowF, V', nthF_hi]
  · match q, hq with
    | none, _ =>
      rw [if_pos rfl]
      simp only [rowF, List.length_append, List.length_singleton, hcell]
    | some (b, j), hq =>
      have e : j ≠ fs.length := by have : j < fs.length := hq; omega
      rw [if_neg (by simp)]
      cases b
      · simp [rowF, V', e, nthF_lo fs _ j hq]
      · simp [rowF, V', e, nthF_lo fs _ j hq]
/-- The last function, and how it may be turned. -/
structure LastF (w : World) (lo : Nat) (fv : Value) (fs : List FuncT) (f : FuncT) (F c : Nat) (P Q : Value) : Prop where
  val : fv = .slice (some ⟨F, 0, none⟩) (fs.length + 1) c
  low : lo ≤ F
  lt : F < w.heap.size
  cap : fs.length + 1 ≤ c
  frozen : ∀ i, w.frozen? ⟨F, i, none⟩ = false
  c2 : w.cell? ⟨F, fs.length * 5 + 2, none⟩ = some P
  c3 : w.cell? ⟨F, fs.length * 5 + 3, none⟩ = some Q
  c4 : w.cell? ⟨F, fs.length * 5 + 4, none⟩ = some (.int .i64 f.2.2.2.2)
  par : w.ownsRow lo 3 1 P f.2.2.1.length (f.2.2.1.map (Value.int .i64))
  blk : w.ownsRow lo 65 3 Q f.2.2.2.1.length (f.2.2.2.1.flatMap bC)
  pF : P.ownBlock ≠ some F
  qF : Q.ownBlock ≠ some F
  putP : ∀ (w' : World) (P' : Value) (ps : List Int), w.grownBy w' P.ownBlock → (P'.ownBlock = P.ownBlock ∨ ∀ g, P'.ownBlock = some g → w.heap.size ≤ g) → w'.ownsRow lo 3 1 P' ps.length (ps.map (Value.int .i64)) → FuncsAt (w'.setCell ⟨F, fs.length * 5 + 2, none⟩ P') lo fv (fs ++ [(f.1, f.2.1, ps, f.2.2.2.1, f.2.2.2.2)])
  putQ : ∀ (w' : World) (Q' : Value) (bs : List (Int × Int × Int)), w.grownBy w' Q.ownBlock → (Q'.ownBlock = Q.ownBlock ∨ ∀ g, Q'.ownBlock = some g → w.heap.size ≤ g) → w'.ownsRow lo 65 3 Q' bs.length (bs.flatMap bC) → FuncsAt (w'.setCell ⟨F, fs.length * 5 + 3, none⟩ Q') lo fv (fs ++ [(f.1, f.2.1, f.2.2.1, bs, f.2.2.2.2)])
  setQ : ∀ (w' : World) (bs : List (Int × Int × Int)), w.grownBy w' Q.ownBlock → w'.ownsRow lo 65 3 Q bs.length (bs.flatMap bC) → FuncsAt w' lo fv (fs ++ [(f.1, f.2.1, f.2.2.1, bs, f.2.2.2.2)])
  putE : ∀ k : Int, FuncsAt (w.setCell ⟨F, fs.length * 5 + 4, none⟩ (.int .i64 k)) lo fv (fs ++ [(f.1, f.2.1, f.2.2.1, f.2.2.2.1, k)])
theorem FuncsAt.last {w : World} {lo : Nat} {fv : Value} {fs : List FuncT} {f : FuncT} (h : FuncsAt w lo fv (fs ++ [f])) : ∃ F c P Q, LastF w lo fv fs f F c P Q := by
  obtain ⟨V, hV⟩ := h
  have hlen : (fs ++ [f]).length = fs.length + 1 := by simp
  have htop := hV.own none trivial
  have hin : fs.length < (fs ++ [f]).length := by omega
  have hp := hV.own (some (false, fs.length)) hin
  have hq := hV.own (some (true, fs.length)) hin
  simp only [rowF, RowX.own, nthF_hi, hlen] at htop hp hq
  obtain ⟨F, c, e, h1, h2, h3, h4, h5⟩ := own_form htop (by omega)
  have hcell : ∀ i, i < 5 → w.cell? ⟨F, fs.length * 5 + i, none⟩ = (fC f (V false fs.length) (V true fs.length))[i]? := fun i hi => by
    rw [h5 _ (by omega), cellsF_at, nthF_hi]
  have hown : (rowF fv (fs ++ [f]) V none).v.ownBlock = some F := by show fv.ownBlock = _; rw [e]; rfl
  have ne : ∀ b, (some (b, fs.length) : Option (Bool × Nat)) ≠ none := fun b e => by cases e
  have hpF : (V false fs.length).ownBlock ≠ some F := fun e2 => hV.apart (some (false, fs.length)) none hin trivial (ne _) F e2 hown
  have hqF : (V true fs.length).ownBlock ≠ some F := fun e2 => hV.apart (some (true, fs.length)) none hin trivial (ne _) F e2 hown
  -- a row turned, then its head in the row of functions
  have turn : ∀ (b : Bool) (w' : World) (v' : Value) (f' : FuncT) (i : Nat), w.grownBy w' (V b fs.length).ownBlock → (v'.ownBlock = (V b fs.length).ownBlock ∨ ∀ g, v'.ownBlock = some g → w.heap.size ≤ g) →
      (rowF fv (fs ++ [f']) (fun b' j => if b' = b ∧ j = fs.length then v' else V b' j) (some (b, fs.length))).own w' lo →
      rowF fv (fs ++ [f']) (fun b' j => if b' = b ∧ j = fs.length then v' else V b' j) (some (!b, fs.length)) = rowF fv (fs ++ [f]) V (some (!b, fs.length)) →
      (fC f (V false fs.length) (V true fs.length)).set i v' = fC f' (if false = b then v' else V false fs.length) (if true = b then v' else V true fs.length) →
      FuncsAt (w'.setCell ⟨F, fs.length * 5 + i, none⟩ v') lo fv (fs ++ [f']) := by
    intro b w' v' f' i hg hv how hoth hset
    have hlen' : (fs ++ [f']).length = fs.length + 1 := by simp
    have s1 := hV.put (R' := fun q => if q = none then rowF fv (fs ++ [f]) V none else rowF fv (fs ++ [f']) (fun b' j => if b' = b ∧ j = fs.length then v' else V b' j) q) (some (b, fs.length)) hin (by cases b <;> exact hg) (by rw [if_neg (ne _)]; exact how) (by
        rw [if_neg (ne _)]
        cases b <;> simpa [rowF] using hv) (fun q hq hne => by
        match q, hq with
        | none, _ => simp
        | some (b', j), hq =>
          rw [if_neg (by simp)]
          by_cases ej : j = fs.length
          · subst ej
            have hb : b' = !b := by cases b <;> cases b' <;> simp at hne ⊢
            rw [hb]; exact hoth
          · have hj : j < fs.length := by have : j < (fs ++ [f]).length := hq; omega
            cases b' <;> simp [rowF, ej, nthF_lo fs _ j hj])
    have htop' := s1.own none trivial
    simp only [if_true, rowF, RowX.own, hlen] at htop'
    rw [e] at htop'
    have hs := own_setAt htop' (fs.length * 5 + i) v'
    rw [cellsF_set, nthF_hi, hset] at hs
    refine ⟨_, s1.put (w' := w'.setCell ⟨F, fs.length * 5 + i, none⟩ v') (R' := rowF fv (fs ++ [f']) (fun b' j => if b' = b ∧ j = fs.length then v' else V b' j)) none trivial ?_ ?_ ?_ ?_ |> fun h => ⟨fun q hq => h.own q (by cases q with
        | none => trivial
        | some x => have hx : x.2 < (fs ++ [f']).length := hq; show x.2 < (fs ++ [f]).length; omega), fun q q' hq hq' => h.apart q q' (by cases q with
        | none => trivial
        | some x => have hx : x.2 < (fs ++ [f']).length := hq; show x.2 < (fs ++ [f]).length; omega) (by cases q' with
        | none => trivial
        | some x => have hx : x.2 < (fs ++ [f']).length := hq'; show x.2 < (fs ++ [f]).length; omega)⟩⟩
    · simp only [if_true]; rw [hown]; exact grown_cell _ _ _ _
    · unfold RowX.own
      simp only [rowF]
      rw [hlen', cellsF, cellsF_eq (fs := fs ++ [f]) (V := V) (fun j hj => ⟨by rw [nthF_lo fs _ j hj, nthF_lo fs _ j hj], by simp [show j ≠ fs.length by omega], by simp [show j ≠ fs.length by omega]⟩), nthF_hi, e]
      simpa using hs
    · simp only [if_true]; exact .inl rfl
    · intro q hq hne
      simp only [if_neg hne]
  refine ⟨F, c, V false fs.length, V true fs.length, e, h1, h2, h3, h4, hcell 2 (by omega), hcell 3 (by omega), hcell 4 (by omega), hp, hq, hpF, hqF, ?_, ?_, ?_, ?_⟩
  · intro w' P' ps hg hv how
    refine turn false w' P' _ 2 hg hv ?_ ?_ ?_
    · simp only [rowF, RowX.own, nthF_hi, and_self, if_true]; exact how
    · simp [rowF, nthF_hi]
    · simp [fC]
  · intro w' Q' bs hg hv how
    refine turn true w' Q' _ 3 hg hv ?_ ?_ ?_
    · simp only [rowF, RowX.own, nthF_hi, and_self, if_true]; exact how
    · simp [rowF, nthF_hi]
    · simp [fC]
  · intro w' bs hg how
    refine ⟨V, (hV.put (R' := rowF fv (fs ++ [(f.1, f.2.1, f.2.2.1, bs, f.2.2.2.2)]) V) (some (true, fs.length)) hin hg ?_ (.inl rfl) ?_) |> fun h => ⟨fun q hq => h.own q (by cases q with
        | none => trivial
        | some x => have hx : x.2 < (fs ++ [((f.1, f.2.1, f.2.2.1, bs, f.2.2.2.2) : FuncT)]).length := hq; show x.2 < (fs ++ [f]).length; simp at hx ⊢; omega), fun q q' hq hq' => h.apart q q' (by cases q with
        | none => trivial
        | some x => have hx : x.2 < (fs ++ [((f.1, f.2.1, f.2.2.1, bs, f.2.2.2.2) : FuncT)]).length := hq; show x.2 < (fs ++ [f]).length; simp at hx ⊢; omega) (by cases q' with
        | none => trivial
        | some x => have hx : x.2 < (fs ++ [((f.1, f.2.1, f.2.2.1, bs, f.2.2.2.2) : FuncT)]).length := hq'; show x.2 < (fs ++ [f]).length; simp at hx ⊢; omega)⟩⟩
    · simp only [rowF, RowX.own, nthF_hi]; exact how
    · intro q hq hne
      match q, hq with
      | none, _ =>
        simp only [rowF, List.length_append, List.length_singleton]
        rw [cellsF, cellsF, cellsF_eq (fs := fs ++ [f]) (V := V) (fun j hj => ⟨by rw [nthF_lo fs _ j hj, nthF_lo fs _ j hj], rfl, rfl⟩), nthF_hi, nthF_hi]
        rfl
      | some (b, j), hq =>
        by_cases ej : j = fs.length
        · subst ej
          cases b
          · simp [rowF, nthF_hi]
          · exact absurd rfl hne
        · have hj : j < fs.length := by have : j < (fs ++ [f]).length := hq; omega
          cases b <;> simp [rowF, nthF_lo fs _ j hj]
  · intro k
    have hs := own_setAt (by rw [e] at htop; exact htop) (fs.length * 5 + 4) (.int .i64 k)
    rw [cellsF_set, nthF_hi] at hs
    refine ⟨V, (hV.put (R' := rowF fv (fs ++ [(f.1, f.2.1, f.2.2.1, f.2.2.2.1, k)]) V) none trivial (w' := w.setCell ⟨F, fs.length * 5 + 4, none⟩ (.int .i64 k)) ?_ ?_ (.inl rfl) ?_) |> fun h => ⟨fun q hq => h.own q (by cases q with
        | none => trivial
        | some x => have hx : x.2 < (fs ++ [((f.1, f.2.1, f.2.2.1, f.2.2.2.1, k) : FuncT)]).length := hq; show x.2 < (fs ++ [f]).length; simp at hx ⊢; omega), fun q q' hq hq' => h.apart q q' (by cases q with
        | none => trivial
        | some x => have hx : x.2 < (fs ++ [((f.1, f.2.1, f.2.2.1, f.2.2.2.1, k) : FuncT)]).length := hq; show x.2 < (fs ++ [f]).length; simp at hx ⊢; omega) (by cases q' with
        | none => trivial
        | some x => have hx : x.2 < (fs ++ [((f.1, f.2.1, f.2.2.1, f.2.2.2.1, k) : FuncT)]).length := hq'; show x.2 < (fs ++ [f]).length; simp at hx ⊢; omega)⟩⟩
    · rw [hown]; exact grown_cell _ _ _ _
    · unfold RowX.own
      simp only [rowF, List.length_append, List.length_singleton]
      rw [cellsF, cellsF_eq (fs := fs ++ [f]) (V := V) (fun j hj => ⟨by rw [nthF_lo fs _ j hj, nthF_lo fs _ j hj], rfl, rfl⟩), nthF_hi, e]
      exact hs
    · intro q hq hne
      match q, hq with
      | none, _ => exact absurd rfl hne
      | some (b, j), hq =>
        by_cases ej : j = fs.length
        · subst ej
          cases b <;> simp [rowF, nthF_hi]
        · have hj : j < fs.length := by have : j < (fs ++ [f]).length := hq; omega
          cases b <;> simp [rowF, nthF_lo fs _ j hj]
end Go.Proofs.YtlcaedibmlidlaaGreat

/-
  Functions read cell by cell.
-/
namespace Go.Proofs.YtlcaedibmlidlaaGreat
open Go.RowKit
set_option linter.unusedVariables false
set_option linter.unusedSimpArgs false

def nthB (bs : List (Int × Int × Int)) (k : Nat) : Int × Int × Int := bs.getD k (0, 0, 0)
theorem own_len {w : World} {lo e size n : Nat} {v : Value} {xs : List Value} (h : w.ownsRow lo e size v n xs) : ∃ x c, v = .slice x n c := by
  obtain ⟨_, ⟨rfl, rfl⟩ | ⟨g, cap, cur, rfl, _⟩⟩ := h
  · exact ⟨none, 0, rfl⟩
  · exact ⟨_, _, rfl⟩
theorem cellsF_get (fs : List FuncT) (V : Bool → Nat → Value) : ∀ m j i, j < m → i < 5 → (cellsF fs V m)[j * 5 + i]? = (fC (nthF fs j) (V false j) (V true j))[i]?
  | 0, j, i, h, _ => absurd h (Nat.not_lt_zero j)
  | m + 1, j, i, h, hi => by
    by_cases e : j = m
    · subst e; exact cellsF_at fs V j i
    · rw [cellsF, List.getElem?_append_left (by rw [cellsF_len]; omega)]
      exact cellsF_get fs V m j i (by omega) hi
theorem bC_get : ∀ (bs : List (Int × Int × Int)) (k i : Nat), k < bs.length → i < 3 → (bs.flatMap bC)[k * 3 + i]? = (bC (nthB bs k))[i]?
  | [], k, i, h, _ => absurd h (Nat.not_lt_zero k)
  | b :: bs, 0, i, h, hi => by rw [List.flatMap_cons, List.getElem?_append_left (by show _ < 3; omega)]; simp [nthB]
  | b :: bs, k + 1, i, h, hi => by
    rw [List.flatMap_cons, List.getElem?_append_right (by show 3 ≤ _; omega)]
    have := bC_get bs k i (by simpa using h) hi
    rw [show (k + 1) * 3 + i - (bC b).length = k * 3 + i by show _ - 3 = _; omega, this]
    simp [nthB]
end Go.Proofs.YtlcaedibmlidlaaGreat

/-
  The law's sameFuncs answers true of the same functions.
-/
namespace Go.Proofs.YtlcaedibmlidlaaGreat
open Go.RowKit
set_option linter.unusedVariables false
set_option linter.unusedSimpArgs false
set_option maxRecDepth 10000

/-- Functions that can be read. -/
def FuncsR (w : World) (v : Value) (fs : List FuncT) : Prop :=
  ∃ x c, v = .slice x fs.length c ∧ ∀ j, j < fs.length → ∃ F xp cp xq cq, x = some ⟨F, 0, none⟩ ∧ F < w.heap.size ∧
      w.cell? ⟨F, j * 5, none⟩ = some (.int .u32 (nthF fs j).1) ∧ w.cell? ⟨F, j * 5 + 1, none⟩ = some (.int .i64 (nthF fs j).2.1) ∧ w.cell? ⟨F, j * 5 + 2, none⟩ = some (.slice xp (nthF fs j).2.2.1.length cp) ∧ w.cell? ⟨F, j * 5 + 3, none⟩ = some (.slice xq (nthF fs j).2.2.2.1.length cq) ∧ w.cell? ⟨F, j * 5 + 4, none⟩ = some (.int .i64 (nthF fs j).2.2.2.2) ∧
      View .i64 w xp (nthF fs j).2.2.1 ∧
      ∀ k, k < (nthF fs j).2.2.2.1.length → ∃ G, xq = some ⟨G, 0, none⟩ ∧ G < w.heap.size ∧ w.cell? ⟨G, k * 3, none⟩ = some (.int .u32 (nthB (nthF fs j).2.2.2.1 k).1) ∧ w.cell? ⟨G, k * 3 + 1, none⟩ = some (.int .i64 (nthB (nthF fs j).2.2.2.1 k).2.1) ∧ w.cell? ⟨G, k * 3 + 2, none⟩ = some (.int .i64 (nthB (nthF fs j).2.2.2.1 k).2.2)
theorem FuncsAt.readV {w : World} {lo : Nat} {fv : Value} {fs : List FuncT} (h : FuncsAt w lo fv fs) : FuncsR w fv fs := by
  obtain ⟨V, hV⟩ := h
  have htop := hV.own none trivial
  obtain ⟨x, c, hx⟩ := own_len htop
  simp only [rowF] at hx
  refine ⟨x, c, hx, fun j hj => ?_⟩
  obtain ⟨F, c1, e, h1, h2, h3, h4, h5⟩ := own_form htop (show 0 < fs.length by omega)
  simp only [rowF] at e h5
  have hp := hV.own (some (false, j)) hj
  have hq := hV.own (some (true, j)) hj
  obtain ⟨xp, cp, hxp⟩ := own_len hp
  obtain ⟨xq, cq, hxq⟩ := own_len hq
  simp only [rowF] at hxp hxq
  have hc : ∀ i, i < 5 → w.cell? ⟨F, j * 5 + i, none⟩ = (fC (nthF fs j) (V false j) (V true j))[i]? := fun i hi => by
    rw [h5 _ (by have := hj; omega), cellsF_get fs V _ j i hj hi]
  rw [hxp, hxq] at hc
  rw [hx] at e
  injection e with e _ _
  simp only [rowF, RowX.own] at hp
  rw [hxp] at hp
  refine ⟨F, xp, cp, xq, cq, e, h2, hc 0 (by omega), hc 1 (by omega), hc 2 (by omega), hc 3 (by omega), hc 4 (by omega), View.ofOwn hp rfl, fun k hk => ?_⟩
  obtain ⟨G, c2, e2, k1, k2, k3, k4, k5⟩ := own_form hq (show 0 < _ by exact Nat.lt_of_le_of_lt (Nat.zero_le k) hk)
  simp only [rowF] at e2 k5
  rw [hxq] at e2
  injection e2 with e2 _ _
  have hc2 : ∀ i, i < 3 → w.cell? ⟨G, k * 3 + i, none⟩ = (bC (nthB (nthF fs j).2.2.2.1 k))[i]? := fun i hi => by
    rw [k5 _ (by have := hk; omega), bC_get _ k i hk hi]
  exact ⟨G, e2, k2, hc2 0 (by omega), hc2 1 (by omega), hc2 2 (by omega)⟩
theorem FuncsR.below {w w' : World} {v : Value} {fs : List FuncT} (h : FuncsR w v fs) (hb : Below w.heap.size w w') : FuncsR w' v fs := by
  obtain ⟨x, c, hx, h⟩ := h
  refine ⟨x, c, hx, fun j hj => ?_⟩
  obtain ⟨F, xp, cp, xq, cq, e, h2, q0, q1, q2, q3, q4, hv, hk⟩ := h j hj
  refine ⟨F, xp, cp, xq, cq, e, Nat.lt_of_lt_of_le h2 hb.size, (hb.cell (p := ⟨F, j * 5, none⟩) h2).trans q0, (hb.cell (p := ⟨F, j * 5 + 1, none⟩) h2).trans q1, (hb.cell (p := ⟨F, j * 5 + 2, none⟩) h2).trans q2, (hb.cell (p := ⟨F, j * 5 + 3, none⟩) h2).trans q3, (hb.cell (p := ⟨F, j * 5 + 4, none⟩) h2).trans q4, hv.below hb, fun k hkk => ?_⟩
  obtain ⟨G, e2, k2, t0, t1, t2⟩ := hk k hkk
  exact ⟨G, e2, Nat.lt_of_lt_of_le k2 hb.size, (hb.cell (p := ⟨G, k * 3, none⟩) k2).trans t0, (hb.cell (p := ⟨G, k * 3 + 1, none⟩) k2).trans t1, (hb.cell (p := ⟨G, k * 3 + 2, none⟩) k2).trans t2⟩
/-- Few functions, parameters and blocks. -/
def FewF (fs : List FuncT) : Prop := fs.length ≤ 1048576 ∧ ∀ j, (nthF fs j).2.2.1.length ≤ 1048576 ∧ (nthF fs j).2.2.2.1.length ≤ 1048576

end Go.Proofs.YtlcaedibmlidlaaGreat

/-
  slices.Equal of numbers and of blocks; sameFunc of graph; slices.ContainsFunc over functions with New's closure.
-/
namespace Go.Proofs.YtlcaedibmlidlaaGreat
open Go.RowKit
set_option linter.unusedVariables false
set_option linter.unusedSimpArgs false
set_option maxRecDepth 10000

/-- Blocks that can be read. -/
def BlkV (w : World) (x : Option Addr) (bs : List (Int × Int × Int)) : Prop :=
  ∀ k, k < bs.length → ∃ G o, x = some ⟨G, o, none⟩ ∧ G < w.heap.size ∧ w.cell? ⟨G, o + k * 3, none⟩ = some (.int .u32 (nthB bs k).1) ∧ w.cell? ⟨G, o + k * 3 + 1, none⟩ = some (.int .i64 (nthB bs k).2.1) ∧ w.cell? ⟨G, o + k * 3 + 2, none⟩ = some (.int .i64 (nthB bs k).2.2)
theorem BlkV.below {w w' : World} {x : Option Addr} {bs : List (Int × Int × Int)} (h : BlkV w x bs) (hb : Below w.heap.size w w') : BlkV w' x bs := fun k hk => by
  obtain ⟨G, o, e, h1, h2, h3, h4⟩ := h k hk
  exact ⟨G, o, e, Nat.lt_of_lt_of_le h1 hb.size, (hb.cell (p := ⟨G, o + k * 3, none⟩) h1).trans h2, (hb.cell (p := ⟨G, o + k * 3 + 1, none⟩) h1).trans h3, (hb.cell (p := ⟨G, o + k * 3 + 2, none⟩) h1).trans h4⟩
theorem takeB_ext {α : Type} (d : α) {l m : List α} (h : l.length = m.length) (h2 : ∀ k, k < l.length → l.getD k d = m.getD k d) : l = m := by
  apply List.ext_getElem h
  intro k h1 h3
  have := h2 k h1
  simpa [List.getD, h1, h3] using this

theorem drewS {w wx : World} (h : Below w.heap.size w wx) (q : Nat) : Below w.heap.size w (wx.drewN q) := by
  induction q generalizing wx with
  | zero => exact h
  | succ q ih => exact (ih h).drew

set_option maxHeartbeats 2000000 in
theorem equalInts_any (a b : Option Addr) (ca cb : Nat) (l m : List Int) (w : World) (ha : View .i64 w a l) (hb : View .i64 w b m) (hl : l.length ≤ 1048576) (hm : m.length ≤ 1048576) :
    Calls Tryz.prog 89 #[.slice a l.length ca, .slice b m.length cb] w fun e w' => (∃ r, e = .returned (.bool r) ∧ (r = true ↔ l = m)) ∧ Below w.heap.size w w' := by
  by_cases hlen : l.length = m.length
  · have HA := hide ha
    have HB := hide hb
    have HE : Hid ((∀ k, k < l.length → nth l k = nth m k) → l = m) := fun h => takeB_ext 0 hlen h
    have hnn : ((l.length : Int) != (m.length : Int)) = false := by simp [hlen]
    have hni : (l.length : Int) ≤ 1048576 := by omega
    rw [← hlen] at hnn ⊢
    generalize hnl : l.length = n at *
    have HN := hide hnl
    have HM := hide (show m.length = n by omega)
    clear ha hb hl hm hlen hnl
    go_enter Tryz.func89, Tryz.ntmps89
    go_wp2_with fail
    go_loopw [13] (fun i wr => ∃ k : Nat, k ≤ n ∧ i = .int .i64 k ∧ (∀ j, j < k → nth l j = nth m j) ∧ Below w.heap.size w wr) (fun i _ => n - (intOf i).toNat)
    case atStart => exact ⟨0, Nat.zero_le _, rfl, fun j hj => by omega, Below.refl _ _⟩
    case round =>
      obtain ⟨k, hk, rfl, hall, hbr⟩ := hrel
      by_cases hlt : k < n
      · obtain ⟨b1, o1, rfl, _, c1⟩ := (HA.out.below hbr) k (by rw [HN.out]; exact hlt)
        obtain ⟨b2, o2, rfl, _, c2⟩ := (HB.out.below hbr) k (by rw [HM.out]; exact hlt)
        have hki : (k : Int) < (n : Int) := by omega
        have hk0 : (0 : Int) ≤ (k : Int) := by omega
        have HLT := hide hlt
        have HALL := hide hall
        have HBR := hide hbr
        have hcase : (nth l k != nth m k) = true ∨ (nth l k != nth m k) = false := by cases (nth l k != nth m k) <;> simp
        rcases hcase with hc | hc
        · have HNE : Hid (¬ l = m) := fun e => by rw [e] at hc; simp at hc
          generalize nth l k = y1 at *
          generalize nth m k = y2 at *
          clear hall hlt hk hbr
          go_wp2
          go_quiet (fail)
          go_wp2
          go_ret
          exact ⟨⟨false, rfl, fun h => Bool.noConfusion h, fun h => absurd h HNE.out⟩, drewS HBR.out _⟩
        · have HEQ : Hid (nth l k = nth m k) := by show _ = _; simpa using hc
          generalize hy1 : nth l k = y1 at *
          generalize hy2 : nth m k = y2 at *
          have HY := hide (And.intro hy1 hy2)
          clear hall hlt hk hy1 hy2 hbr
          go_wp2
          go_quiet (fail)
          go_wp2
          refine ⟨⟨k + 1, HLT.out, by simp, fun j hj => ?_, drewS HBR.out _⟩, measZ2 HLT.out⟩
          by_cases e : j = k
          · subst e; rw [HY.out.1, HY.out.2]; exact HEQ.out
          · exact HALL.out j (by omega)
      · have e : n = k := by omega
        subst e
        have HEQ := hide (HE.out hall)
        have HBR := hide hbr
        clear hall hk hbr
        go_wp2_with fail
        go_ret
        exact ⟨⟨true, rfl, fun _ => HEQ.out, fun _ => rfl⟩, HBR.out⟩
  · have hnn : ((l.length : Int) != (m.length : Int)) = true := by simp; omega
    have HNE : Hid (¬ l = m) := fun e => hlen (by rw [e])
    clear ha hb hl hm hlen
    generalize l.length = n1 at *
    generalize m.length = n2 at *
    go_enter Tryz.func89, Tryz.ntmps89
    go_wp2_with fail
    go_ret
    exact ⟨⟨false, rfl, fun h => Bool.noConfusion h, fun h => absurd h HNE.out⟩, Below.refl _ _⟩

set_option maxHeartbeats 2000000 in
theorem equalBlocks_any (a b : Option Addr) (ca cb : Nat) (l m : List (Int × Int × Int)) (w : World) (ha : BlkV w a l) (hb : BlkV w b m) (hl : l.length ≤ 1048576) (hm : m.length ≤ 1048576) :
    Calls Tryz.prog 90 #[.slice a l.length ca, .slice b m.length cb] w fun e w' => (∃ r, e = .returned (.bool r) ∧ (r = true ↔ l = m)) ∧ Below w.heap.size w w' := by
  by_cases hlen : l.length = m.length
  · have HA := hide ha
    have HB := hide hb
    have HE : Hid ((∀ k, k < l.length → nthB l k = nthB m k) → l = m) := fun h => takeB_ext _ hlen h
    have hnn : ((l.length : Int) != (m.length : Int)) = false := by simp [hlen]
    have hni : (l.length : Int) ≤ 1048576 := by omega
    rw [← hlen] at hnn ⊢
    generalize hnl : l.length = n at *
    have HN := hide hnl
    have HM := hide (show m.length = n by omega)
    clear ha hb hl hm hlen hnl
    go_enter Tryz.func90, Tryz.ntmps90
    go_wp2_with fail
    go_loopw [13] (fun i wr => ∃ k : Nat, k ≤ n ∧ i = .int .i64 k ∧ (∀ j, j < k → nthB l j = nthB m j) ∧ Below w.heap.size w wr) (fun i _ => n - (intOf i).toNat)
    case atStart => exact ⟨0, Nat.zero_le _, rfl, fun j hj => by omega, Below.refl _ _⟩
    case round =>
      obtain ⟨k, hk, rfl, hall, hbr⟩ := hrel
      by_cases hlt : k < n
      · obtain ⟨b1, o1, rfl, _, c1, c11, c12⟩ := (HA.out.below hbr) k (by rw [HN.out]; exact hlt)
        obtain ⟨b2, o2, rfl, _, c2, c21, c22⟩ := (HB.out.below hbr) k (by rw [HM.out]; exact hlt)
        have hki : (k : Int) < (n : Int) := by omega
        have hk0 : (0 : Int) ≤ (k : Int) := by omega
        have HLT := hide hlt
        have HALL := hide hall
        have HBR := hide hbr
        rcases Decidable.em (nthB l k = nthB m k) with hc | hc
        · have HEQ := hide hc
          rw [← hc] at c2 c21 c22
          generalize hy : nthB l k = y at *
          have HY := hide hy
          obtain ⟨p1, p2, p3⟩ := y
          simp only at c1 c11 c12 c2 c21 c22
          clear hall hlt hk hc hy hbr
          go_wp2
          go_quiet (fail)
          go_wp2
          refine ⟨⟨k + 1, HLT.out, by simp, fun j hj => ?_, drewS HBR.out _⟩, measZ2 HLT.out⟩
          by_cases e : j = k
          · subst e; rw [HY.out]; exact HEQ.out
          · exact HALL.out j (by omega)
        · have HNE : Hid (¬ l = m) := fun e => hc (by rw [e])
          generalize nthB l k = y1 at *
          generalize nthB m k = y2 at *
          obtain ⟨p1, p2, p3⟩ := y1
          obtain ⟨q1, q2, q3⟩ := y2
          have hcase : (p1 == q1) = false ∨ (p1 = q1 ∧ (p2 == q2) = false) ∨ (p1 = q1 ∧ p2 = q2 ∧ (p3 == q3) = false) := by
            by_cases h1 : p1 = q1
            · by_cases h2 : p2 = q2
              · by_cases h3 : p3 = q3
                · exact absurd (by rw [h1, h2, h3]) hc
                · exact .inr (.inr ⟨h1, h2, by simpa using h3⟩)
              · exact .inr (.inl ⟨h1, by simpa using h2⟩)
            · exact .inl (by simpa using h1)
          simp only at c1 c11 c12 c2 c21 c22
          clear hall hlt hk hc hbr
          rcases hcase with h1 | ⟨rfl, h1⟩ | ⟨rfl, rfl, h1⟩
          all_goals
            go_wp2
            go_quiet (fail)
            go_wp2
            go_ret
            exact ⟨⟨false, rfl, fun h => Bool.noConfusion h, fun h => absurd h HNE.out⟩, drewS HBR.out _⟩
      · have e : n = k := by omega
        subst e
        have HEQ := hide (HE.out hall)
        have HBR := hide hbr
        clear hall hk hbr
        go_wp2_with fail
        go_ret
        exact ⟨⟨true, rfl, fun _ => HEQ.out, fun _ => rfl⟩, HBR.out⟩
  · have hnn : ((l.length : Int) != (m.length : Int)) = true := by simp; omega
    have HNE : Hid (¬ l = m) := fun e => hlen (by rw [e])
    clear ha hb hl hm hlen
    generalize l.length = n1 at *
    generalize m.length = n2 at *
    go_enter Tryz.func90, Tryz.ntmps90
    go_wp2_with fail
    go_ret
    exact ⟨⟨false, rfl, fun h => Bool.noConfusion h, fun h => absurd h HNE.out⟩, Below.refl _ _⟩

end Go.Proofs.YtlcaedibmlidlaaGreat

/-
  sameFunc of graph, New's closure, and slices.ContainsFunc over functions with it.
-/
namespace Go.Proofs.YtlcaedibmlidlaaGreat
open Go.RowKit
set_option linter.unusedVariables false
set_option linter.unusedSimpArgs false
set_option maxRecDepth 10000

/-- A function's value, and what it holds. -/
structure FnR (w : World) (v : Value) (f : FuncT) : Prop where
  form : ∃ xp cp xq cq, v = .agg #[.int .u32 f.1, .int .i64 f.2.1, .slice xp f.2.2.1.length cp, .slice xq f.2.2.2.1.length cq, .int .i64 f.2.2.2.2] ∧ View .i64 w xp f.2.2.1 ∧ BlkV w xq f.2.2.2.1
  few : f.2.2.1.length ≤ 1048576 ∧ f.2.2.2.1.length ≤ 1048576
theorem FnR.below {w w' : World} {v : Value} {f : FuncT} (h : FnR w v f) (hb : Below w.heap.size w w') : FnR w' v f := by
  obtain ⟨xp, cp, xq, cq, e, h1, h2⟩ := h.form
  exact ⟨⟨xp, cp, xq, cq, e, h1.below hb, h2.below hb⟩, h.few⟩
theorem fiveCells {w : World} {p T : Nat} {a b c d e : Value} (h : w.heap[p]? = some (.cells #[a, b, c, d, e] T (0, 0))) : w.cell? ⟨p, 0, none⟩ = some a ∧ w.cell? ⟨p, 1, none⟩ = some b ∧ w.cell? ⟨p, 2, none⟩ = some c ∧ w.cell? ⟨p, 3, none⟩ = some d ∧ w.cell? ⟨p, 4, none⟩ = some e := by
  refine ⟨?_, ?_, ?_, ?_, ?_⟩ <;> simp [World.cell?, h]

set_option maxHeartbeats 4000000 in
theorem sameFunc_any (va vb : Value) (f g : FuncT) (w : World) (ha : FnR w va f) (hb : FnR w vb g) :
    Calls Tryz.prog 39 #[va, vb] w fun e w' => (∃ r, e = .returned (.bool r) ∧ (r = true ↔ f = g)) ∧ Below w.heap.size w w' := by
  obtain ⟨xp, cp, xq, cq, rfl, hv1, hq1⟩ := ha.form
  obtain ⟨yp, dp, yq, dq, rfl, hv2, hq2⟩ := hb.form
  obtain ⟨fw1, fw2⟩ := ha.few
  obtain ⟨fw3, fw4⟩ := hb.few
  obtain ⟨fi, fa, fp, fb, fe⟩ := f
  obtain ⟨gi, ga, gp, gb, ge⟩ := g
  simp only at *
  have hba : Below w.heap.size w ((w.alloc (.cells #[.int .u32 fi, .int .i64 fa, .slice xp fp.length cp, .slice xq fb.length cq, .int .i64 fe] 29)).alloc (.cells #[.int .u32 gi, .int .i64 ga, .slice yp gp.length dp, .slice yq gb.length dq, .int .i64 ge] 29)) := ((Below.refl _ w).alloc (Nat.le_refl _) _).alloc (by simp) _
  have k0 := allocOld (allocNew w (.cells #[.int .u32 fi, .int .i64 fa, .slice xp fp.length cp, .slice xq fb.length cq, .int .i64 fe] 29) rfl) (.cells #[.int .u32 gi, .int .i64 ga, .slice yp gp.length dp, .slice yq gb.length dq, .int .i64 ge] 29)
  have k1 := allocNew (w.alloc (.cells #[.int .u32 fi, .int .i64 fa, .slice xp fp.length cp, .slice xq fb.length cq, .int .i64 fe] 29)) (.cells #[.int .u32 gi, .int .i64 ga, .slice yp gp.length dp, .slice yq gb.length dq, .int .i64 ge] 29) (n := w.heap.size + 1) (by simp)
  have HEI := hide (fun wx (hx : Below w.heap.size w wx) => equalInts_any xp yp cp dp fp gp wx (hv1.below hx) (hv2.below hx) fw1 fw3)
  have HEB := hide (fun wx (hx : Below w.heap.size w wx) => equalBlocks_any xq yq cq dq fb gb wx (hq1.below hx) (hq2.below hx) fw2 fw4)
  have HBA := hide hba
  have K0 := hide k0
  have K1 := hide k1
  have hcase : ((fi == gi) = false) ∨ (fi = gi ∧ (fa == ga) = false) ∨ (fi = gi ∧ fa = ga ∧ (fe == ge) = false) ∨ (fi = gi ∧ fa = ga ∧ fe = ge) := by
    by_cases h1 : fi = gi
    · by_cases h2 : fa = ga
      · by_cases h3 : fe = ge
        · exact .inr (.inr (.inr ⟨h1, h2, h3⟩))
        · exact .inr (.inr (.inl ⟨h1, h2, by simpa using h3⟩))
      · exact .inr (.inl ⟨h1, by simpa using h2⟩)
    · exact .inl (by simpa using h1)
  have HNE : Hid ((fi = gi ∧ fa = ga ∧ fe = ge) ∨ ¬ ((fi, fa, fp, fb, fe) : FuncT) = (gi, ga, gp, gb, ge)) := by
    by_cases h : fi = gi ∧ fa = ga ∧ fe = ge
    · exact .inl h
    · refine .inr fun e => h ?_
      simp only [Prod.mk.injEq] at e
      exact ⟨e.1, e.2.1, e.2.2.2.2⟩
  obtain ⟨a0, a1, a2, a3, a4⟩ := fiveCells k0
  obtain ⟨b0, b1, b2, b3, b4⟩ := fiveCells k1
  clear ha hb hv1 hq1 hv2 hq2 fw1 fw2 fw3 fw4 hba k0 k1
  go_enter Tryz.func39, Tryz.ntmps39
  generalize hnp : fp.length = np at *
  generalize hnb : fb.length = nb at *
  generalize hmp : gp.length = mp at *
  generalize hmb : gb.length = mb at *
  go_wp2_with fail
  all_goals try (
    subst_vars
    go_ret
    refine ⟨⟨false, rfl, ?_⟩, HBA.out⟩
    simp only [Bool.false_eq_true, false_iff, Prod.mk.injEq, not_and]
    omega)
  subst_vars
  refine (HEI.out _ HBA.out).mono ?_
  rintro e w5 ⟨⟨r, rfl, hr⟩, hb5⟩
  have c0 := (fiveCells ((hb5.block _ (Array.getElem?_eq_some_iff.1 K0.out).1).trans K0.out)).2.2.2.1
  have c1 := (fiveCells ((hb5.block _ (Array.getElem?_eq_some_iff.1 K1.out).1).trans K1.out)).2.2.2.1
  have HR := hide hr
  have HB := hide (HBA.out.trans (hb5.mono HBA.out.size))
  clear hb5 hr a0 a1 a2 a3 a4 b0 b1 b2 b3 b4 K0 K1 hcase HNE
  cases r with
  | false =>
    go_wp2_with fail
    go_ret
    refine ⟨⟨false, rfl, ?_⟩, HB.out⟩
    constructor
    · intro h; cases h
    · intro h
      simp only [Prod.mk.injEq] at h
      exact absurd (HR.out.2 h.2.2.1) (by simp)
  | true =>
    go_wp2_with fail
    refine (HEB.out _ HB.out).mono ?_
    rintro e w6 ⟨⟨r, rfl, hr⟩, hb6⟩
    have HR2 := hide hr
    have HB6 := hide (HB.out.trans (hb6.mono HB.out.size))
    clear hb6 hr c0 c1
    go_wp2_with fail
    go_ret
    refine ⟨⟨r, rfl, ?_⟩, HB6.out⟩
    rw [HR2.out, HR.out.1 (by simp)]
    simp

end Go.Proofs.YtlcaedibmlidlaaGreat

/-
  New's closure, and slices.ContainsFunc over functions with it.
-/
namespace Go.Proofs.YtlcaedibmlidlaaGreat
open Go.RowKit
set_option linter.unusedVariables false
set_option linter.unusedSimpArgs false
set_option maxRecDepth 10000

/-- A function in a block of its own. -/
def FnAt (w : World) (B : Nat) (f : FuncT) : Prop :=
  ∃ xp cp xq cq, w.heap[B]? = some (.cells #[.int .u32 f.1, .int .i64 f.2.1, .slice xp f.2.2.1.length cp, .slice xq f.2.2.2.1.length cq, .int .i64 f.2.2.2.2] 29 (0, 0)) ∧ View .i64 w xp f.2.2.1 ∧ BlkV w xq f.2.2.2.1
theorem FnAt.below {w w' : World} {B : Nat} {f : FuncT} (h : FnAt w B f) (hb : Below w.heap.size w w') : FnAt w' B f := by
  obtain ⟨xp, cp, xq, cq, h0, h1, h2⟩ := h
  exact ⟨xp, cp, xq, cq, (hb.block _ (Array.getElem?_eq_some_iff.1 h0).1).trans h0, h1.below hb, h2.below hb⟩

set_option maxHeartbeats 4000000 in
theorem new1_any (vo : Value) (o f : FuncT) (B : Nat) (w : World) (ho : FnR w vo o) (hf : FnAt w B f) (hfew : f.2.2.1.length ≤ 1048576 ∧ f.2.2.2.1.length ≤ 1048576) :
    Calls Tryz.prog 38 #[vo, .pointer (some ⟨B, 0, none⟩)] w fun e w' => (∃ r, e = .returned (.bool r) ∧ (r = true ↔ o = f)) ∧ Below w.heap.size w w' := by
  obtain ⟨xq, cq, yq, dq, h0, h1, h2⟩ := hf
  have HS := hide (fun (wx : World) (hx : Below w.heap.size w wx) => sameFunc_any vo _ o f wx (ho.below hx) ⟨⟨xq, cq, yq, dq, rfl, h1.below hx, h2.below hx⟩, hfew⟩)
  obtain ⟨xp, cp, yp, dp, rfl, _, _⟩ := ho.form
  obtain ⟨fi, fa, fp, fb, fe⟩ := f
  obtain ⟨oi, oa, op, ob, oe⟩ := o
  simp only at *
  have h3 := allocOld h0 (.cells #[.int .u32 oi, .int .i64 oa, .slice xp op.length cp, .slice yp ob.length dp, .int .i64 oe] 29)
  have hb : Below w.heap.size w (w.alloc (.cells #[.int .u32 oi, .int .i64 oa, .slice xp op.length cp, .slice yp ob.length dp, .int .i64 oe] 29)) := (Below.refl _ w).alloc (Nat.le_refl _) _
  have HB0 := hide hb
  obtain ⟨b0, b1, b2, b3, b4⟩ := fiveCells h3
  clear ho h0 h1 h2 hfew h3 hb
  generalize fp.length = n1 at *
  generalize fb.length = n2 at *
  generalize op.length = n3 at *
  generalize ob.length = n4 at *
  go_enter Tryz.func38, Tryz.ntmps38
  go_wp2_with fail
  refine (HS.out _ HB0.out).mono ?_
  rintro e w' ⟨⟨r, rfl, hr⟩, hb⟩
  have HR := hide hr
  have HB := hide (HB0.out.trans (hb.mono HB0.out.size))
  clear hr hb b0 b1 b2 b3 b4
  go_wp2_with fail
  go_ret
  exact ⟨⟨r, rfl, HR.out⟩, HB.out⟩

theorem nthF_mem {fs : List FuncT} {j : Nat} (h : j < fs.length) : nthF fs j ∈ fs := by
  unfold nthF
  rw [List.getD_eq_getElem?_getD, List.getElem?_eq_getElem h]
  exact List.getElem_mem h
theorem mem_nthF {fs : List FuncT} {f : FuncT} (h : f ∈ fs) : ∃ j, j < fs.length ∧ nthF fs j = f := by
  obtain ⟨j, hj, e⟩ := List.mem_iff_getElem.1 h
  refine ⟨j, hj, ?_⟩
  unfold nthF
  rw [List.getD_eq_getElem?_getD, List.getElem?_eq_getElem hj]
  exact e

set_option maxHeartbeats 8000000 in
theorem indexNew_any (fv : Value) (fs : List FuncT) (f : FuncT) (B : Nat) (w : World) (hr : FuncsR w fv fs) (hfl : FewF fs) (hf : FnAt w B f) (hfew : f.2.2.1.length ≤ 1048576 ∧ f.2.2.2.1.length ≤ 1048576) :
    Calls Tryz.prog 88 #[fv, .func (.func 38) #[] #[.pointer (some ⟨B, 0, none⟩)]] w fun e w' => (∃ r : Int, e = .returned (.int .i64 r) ∧ (0 ≤ r ↔ f ∈ fs)) ∧ Below w.heap.size w w' := by
  have HR := hide hr
  have HC := hide (fun (wx : World) (hx : Below w.heap.size w wx) (vo : Value) (o : FuncT) (ho : FnR wx vo o) => new1_any vo o f B wx ho (hf.below hx) hfew)
  obtain ⟨x, c, rfl, _⟩ := hr
  have HFL := hide hfl
  have hlen := hfl.1
  clear hf hfew hfl
  go_enter Tryz.func88, Tryz.ntmps88
  go_wp2_with fail
  go_loopw [8] (fun i wr => ∃ j : Nat, j ≤ fs.length ∧ i = .int .i64 j ∧ (∀ i, i < j → ¬ nthF fs i = f) ∧ Below w.heap.size w wr) (fun i _ => fs.length - (intOf i).toNat)
  case atStart => exact ⟨0, Nat.zero_le _, rfl, fun i h => absurd h (Nat.not_lt_zero i), Below.refl _ _⟩
  case round =>
    obtain ⟨j, hj, rfl, hno, hbr⟩ := hrel
    have HNO := hide hno
    have HBR := hide hbr
    by_cases hlt : j < fs.length
    · have HLT := hide hlt
      obtain ⟨_, _, e1, hA⟩ := HR.out.below hbr
      injection e1 with e1 e2 e3
      obtain ⟨F, xp, cp, xq, cq, hx, hF, q0, q1, q2, q3, q4, hvp, hvq⟩ := hA j hlt
      have hx2 := e1.trans hx
      have hj0 : (0 : Int) ≤ (j : Int) := by omega
      have hji : (j : Int) < (fs.length : Int) := by omega
      have HMEM := hide (nthF_mem hlt)
      have hcl := HC.out wr hbr _ (nthF fs j) ⟨⟨xp, cp, xq, cq, rfl, hvp, fun k hk => by
        obtain ⟨G, e4, g1, g2, g3, g4⟩ := hvq k hk
        exact ⟨G, 0, e4, g1, by simpa using g2, by simpa using g3, by simpa using g4⟩⟩, HFL.out.2 j⟩
      have HEQ : Hid (∀ r : Bool, (r = true ↔ nthF fs j = f) → (r = true ↔ nthF fs j = f)) := fun r h => h
      subst hx2
      clear e1 e2 e3 hx hA hbr hno hvp hvq
      generalize hfn : nthF fs j = fn at *
      have HFN := hide hfn
      clear hfn
      generalize hP : (fn = f) = P at *
      have HP := hide hP
      clear hP
      obtain ⟨fid, fat, fps, fbs, fen⟩ := fn
      simp only at *
      generalize hm : fs.length = m at *
      have HM := hide hm
      clear hm
      go_wp2_with fail
      refine hcl.mono ?_
      rintro e w2 ⟨⟨r, rfl, hr2⟩, hb2⟩
      have HB2 := hide (HBR.out.trans (hb2.mono HBR.out.size))
      clear hcl hb2 q0 q1 q2 q3 q4
      cases r with
      | true =>
        have HIN : Hid P := hr2.1 rfl
        clear hr2
        go_wp2_with fail
        go_ret
        refine ⟨⟨_, rfl, fun _ => ?_, fun _ => by omega⟩, HB2.out⟩
        have e := HIN.out
        rw [← HP.out] at e
        rw [← e]
        exact HMEM.out
      | false =>
        have HIN2 : Hid (¬ P) := fun h => Bool.noConfusion (hr2.2 h)
        clear hr2
        go_wp2_with fail
        go_roundw
        case rel =>
          refine ⟨j + 1, by omega, by go_num, fun i hi => ?_, HB2.out⟩
          by_cases e : i = j
          · subst e
            rw [HFN.out, HP.out]
            exact HIN2.out
          · exact HNO.out i (by omega)
        case measure => simp [intOf]; omega
    · obtain rfl : j = fs.length := by omega
      clear hno hbr
      go_wp2_with fail
      go_ret
      refine ⟨⟨_, rfl, fun h => absurd h (by decide), fun h => ?_⟩, HBR.out⟩
      obtain ⟨i, hi, e⟩ := mem_nthF h
      exact absurd e (HNO.out i hi)

set_option maxHeartbeats 2000000 in
theorem containsNew_any (fv : Value) (fs : List FuncT) (f : FuncT) (B : Nat) (w : World) (hr : FuncsR w fv fs) (hfl : FewF fs) (hf : FnAt w B f) (hfew : f.2.2.1.length ≤ 1048576 ∧ f.2.2.2.1.length ≤ 1048576) :
    Calls Tryz.prog 37 #[fv, .func (.func 38) #[] #[.pointer (some ⟨B, 0, none⟩)]] w fun e w' => (∃ r : Bool, e = .returned (.bool r) ∧ (r = true ↔ f ∈ fs)) ∧ Below w.heap.size w w' := by
  have hI := indexNew_any fv fs f B w hr hfl hf hfew
  obtain ⟨x, c, rfl, _⟩ := hr
  generalize hP : (f ∈ fs) = P at *
  clear hf hfew hfl hP
  generalize fs.length = m at *
  go_enter Tryz.func37, Tryz.ntmps37
  go_wp2_with fail
  refine hI.mono ?_
  rintro e w1 ⟨⟨i, rfl, hi⟩, hb⟩
  have HI := hide hi
  have HB := hide hb
  clear hI hi hb
  go_wp2_with fail
  go_ret
  exact ⟨⟨decide (0 ≤ i), rfl, by rw [← HI.out]; simp⟩, HB.out⟩

end Go.Proofs.YtlcaedibmlidlaaGreat

/-
  makersOf of the package ids: a map from each id that is made to the least place at which it is made; the document's Maker.
-/
namespace Go.Proofs.YtlcaedibmlidlaaGreat
open Go.RowKit Go.Maps
set_option linter.unusedVariables false
set_option linter.unusedSimpArgs false
set_option maxRecDepth 10000

/-- The least place below k at which an id is made. -/
def makT (l : List InstT) : Nat → Int → Option Int
  | 0, _ => none
  | k + 1, id => if (makT l k id).isSome = true then makT l k id else if (nthI l k).2.2.1 = id ∧ id ≠ 0 then some (k : Int) else none
theorem makT_some (l : List InstT) (id : Int) : ∀ k p, makT l k id = some p → 0 ≤ p ∧ p < (k : Int)
  | 0, p, h => by cases h
  | k + 1, p, h => by
    rw [makT] at h
    split at h
    · have := makT_some l id k p h; omega
    · split at h
      · cases h; omega
      · cases h
theorem makT_stays (l : List InstT) (id : Int) (k : Nat) (h : (makT l k id).isSome = true) : ∀ d, makT l (k + d) id = makT l k id
  | 0 => rfl
  | d + 1 => by
    have ih := makT_stays l id k h d
    rw [show k + (d + 1) = (k + d) + 1 by omega, makT, ih, if_pos h]
theorem makT_zero (l : List InstT) : ∀ k, makT l k 0 = none
  | 0 => rfl
  | k + 1 => by rw [makT, makT_zero l k]; simp

theorem zeroI64 (w : World) : (zeroValue 3).run Tryz.prog w = .ok (.int .i64 0) w := by kernel_rfl

set_option maxHeartbeats 8000000 in
theorem makersOf_any (a : Option Addr) (n c : Nat) (l : List InstT) (w : World) (hv : InstsV w a l) (hok : InstsOk l) (hl : l.length = n) (hn : 40 * n ≤ 140737488351232) :
    Calls Tryz.prog 126 #[.slice a n c] w fun e w' => ∃ b, e = .returned (.map (some b)) ∧ w.heap.size ≤ b ∧ MapU w' 3 .i64 b n (makT l n) ∧ Below w.heap.size w w' := by
  have HV := hide hv
  have HOK := hide hok
  have HL := hide hl
  have HN : Hid (40 * n ≤ 140737488351232) := hn
  have hmm := @run_makeMap Tryz.prog
  have HM0 := hide (MapU.made w 3 .i64)
  have HB0 := hide ((Below.refl _ w).alloc (Nat.le_refl _) (.map #[] 0))
  have HTT := hide Tryz.underlying184
  have HTE := hide Tryz.underlying3
  clear hv hok hl hn
  go_enter Tryz.func126, Tryz.ntmps126
  go_wp2_with fail
  generalize w.alloc (.map #[] 0) = W0 at *
  go_loopw [11] (fun i wr => ∃ k : Nat, k ≤ n ∧ i = .int .i64 k ∧ MapU wr 3 .i64 w.heap.size k (makT l k) ∧ Below w.heap.size w wr) (fun i _ => n - (intOf i).toNat)
  case atStart => exact ⟨0, Nat.zero_le _, rfl, HM0.out, HB0.out⟩
  case round =>
    obtain ⟨k, hk, rfl, hM, hB⟩ := hrel
    clear HM0 HB0 hmm
    have hA := HV.out.below hB
    have hkb : (k : Int) < 140737488351232 := by have := HN.out; omega
    by_cases hlt : k < n
    · have hkl : k < l.length := by rw [HL.out]; exact hlt
      obtain ⟨g1, o1, aj, cj, nj, rfl, hg1, p1, p2, p3, p4, p5, p6, p7⟩ := hA k hkl
      have hki : (k : Int) < (n : Int) := by omega
      have hk0 : (0 : Int) ≤ (k : Int) := by omega
      have hz := HOK.out k hkl
      have hr0 := hz.2.2.2.2.1
      have hr1 := hz.2.2.2.2.2.1
      have HSU : Hid (∀ id, makT l (k + 1) id = if (makT l k id).isSome = true then makT l k id else if (nthI l k).2.2.1 = id ∧ id ≠ 0 then some (k : Int) else none) := fun id => rfl
      have HBD : Hid ((k : Int) < 9223372036854775807 ∧ k < maxLen) := by have := HN.out; exact ⟨by omega, by unfold maxLen; omega⟩
      generalize nthI l k = z at *
      obtain ⟨zo, zt, zr, zl⟩ := z
      simp only at *
      have hba : Below wr.heap.size wr (wr.alloc (.cells #[.int .u16 zo, .int .u32 zt, .int .u32 zr, .slice aj nj cj] 63)) := (Below.refl _ wr).alloc (Nat.le_refl _) _
      have HM2 := hide (hM.below hba)
      have HB2 := hide (hB.trans (hba.mono hB.size))
      have HR := hide (And.intro hr0 hr1)
      by_cases hz0 : zr = 0
      · subst hz0
        have HE : Hid (∀ id, makT l k id = makT l (k + 1) id) := fun id => by
          rw [HSU.out id]
          by_cases h : (makT l k id).isSome = true
          · rw [if_pos h]
          · rw [if_neg h, if_neg (by rintro ⟨rfl, h2⟩; exact h2 rfl)]; simpa using h
        clear hA hM hB p5 p6 p7 hz HSU
        go_wp2_with fail
        go_roundw
        case rel => exact ⟨k + 1, by omega, by go_num, (HM2.out.congr HE.out).mono (Nat.le_succ _), HB2.out⟩
        case measure => simp [intOf]; omega
      · have hz0' : (zr == 0) = false := by simpa using hz0
        have hlz : wr.heap.size < (wr.alloc (.cells #[.int .u16 zo, .int .u32 zt, .int .u32 zr, .slice aj nj cj] 63)).heap.size := by simp
        have r2 : (wr.alloc (.cells #[.int .u16 zo, .int .u32 zt, .int .u32 zr, .slice aj nj cj] 63)).cell? ⟨wr.heap.size, 2, none⟩ = some (.int .u32 zr) := (one_block (heap_alloc_new wr (.cells #[.int .u16 zo, .int .u32 zt, .int .u32 zr, .slice aj nj cj] 63))).1 2
        have HR2 := hide r2
        by_cases hs : (makT l k zr).isSome = true
        · have HE : Hid (∀ id, makT l k id = makT l (k + 1) id) := fun id => by
            rw [HSU.out id]
            by_cases h : (makT l k id).isSome = true
            · rw [if_pos h]
            · rw [if_neg h, if_neg (by rintro ⟨rfl, h2⟩; exact h hs)]; simpa using h
          clear hA hM hB p5 p6 p7 hz HSU r2
          go_wp2_with (at_lookup; refine wpList_lookU_ok rfl _ _ 184 rfl 3 .i64 HTT.out HTE.out (zeroI64 _) w.heap.size k (makT l k) rfl HM2.out zr rfl HR.out.1 HR.out.2 ?_; rw [hs])
          go_roundw
          case rel => exact ⟨k + 1, by omega, by go_num, (HM2.out.congr HE.out).mono (Nat.le_succ _), HB2.out⟩
          case measure => simp [intOf]; omega
        · have hs' : (makT l k zr).isSome = false := by simpa using hs
          have HE : Hid (∀ id, (if id = zr then some (k : Int) else makT l k id) = makT l (k + 1) id) := fun id => by
            rw [HSU.out id]
            by_cases e : id = zr
            · subst e; rw [if_pos rfl, if_neg hs, if_pos ⟨rfl, hz0⟩]
            · rw [if_neg e]
              by_cases h : (makT l k id).isSome = true
              · rw [if_pos h]
              · rw [if_neg h, if_neg (by rintro ⟨rfl, _⟩; exact e rfl)]; simpa using h
          clear hA hM hB p5 p6 p7 hz HSU hs
          have hwf : (Lit.int .i64 (k : Int)).wf = true := WalkArith.wf_i64 (by have := HBD.out.1; omega)
          have HWF := hide hwf
          clear hwf
          go_wp2_with (first | (at_lookup; refine wpList_lookU_ok rfl _ _ 184 rfl 3 .i64 HTT.out HTE.out (zeroI64 _) w.heap.size k (makT l k) rfl HM2.out zr rfl HR.out.1 HR.out.2 ?_; rw [hs']) | (at_mapUpdate; refine wpList_putU rfl _ _ _ 184 rfl 3 .i64 HTT.out HTE.out w.heap.size k (makT l k) rfl HM2.out HBD.out.2 zr (k : Int) rfl HR.out.1 HR.out.2 rfl HWF.out ?_; intro w5 hM5 hg5) | go_in)
          have HB5 := hide (HB2.out.grown hg5 HB2.out.size (fun j hj => by cases hj; exact Nat.le_refl _))
          have HM5 := hide (hM5.congr HE.out)
          clear hM5 hg5
          go_wp2_with fail
          go_roundw
          case rel => exact ⟨k + 1, by omega, by go_num, HM5.out, HB5.out⟩
          case measure => simp [intOf]; omega
    · obtain rfl : k = n := by omega
      have HM := hide hM
      have HB := hide hB
      clear hA hM hB
      go_wp2_with fail
      go_ret
      exact ⟨w.heap.size, rfl, Nat.le_refl _, HM.out, HB.out⟩

end Go.Proofs.YtlcaedibmlidlaaGreat

/-
  find of graph: the numbers of the blocks of labels.
-/
namespace Go.Proofs.YtlcaedibmlidlaaGreat
open Go.RowKit Go.Maps
set_option linter.unusedVariables false
set_option linter.unusedSimpArgs false
set_option maxRecDepth 10000

/-- The number of a label's block, and 0. -/
def numG (f : Int → Option Int) (x : Int) : Int := (f x).getD 0
/-- What find answers. -/
def FindQ (w w' : World) (f : Int → Option Int) (ls : List Int) (e : Ending) : Prop :=
  ((∀ x ∈ ls, ¬ numG f x = 0) ∧ ∃ v, e = .returned (.tuple #[v, .bool true]) ∧ w'.ownsRow w.heap.size 3 1 v (ls.map (numG f)).length ((ls.map (numG f)).map (Value.int .i64)) ∧ Below w.heap.size w w') ∨
  ((¬ ∀ x ∈ ls, ¬ numG f x = 0) ∧ e = .returned (.tuple #[.slice none 0 0, .bool false]) ∧ Below w.heap.size w w')
theorem take_snocG (zs : List Int) (k : Nat) (h : k < zs.length) : zs.take (k + 1) = zs.take k ++ [nth zs k] := by
  rw [List.take_add_one, List.getElem?_eq_getElem h]
  simp [nth, List.getD, h]

set_option maxHeartbeats 8000000 in
theorem find_any (M nm : Nat) (f : Int → Option Int) (a : Option Addr) (n c : Nat) (ls : List Int) (w : World) (hm : MapU w 3 .i64 M nm f) (hv : View .u32 w a ls) (hl : ls.length = n) (hn : 8 * n ≤ 140737488351232) (hr : ∀ x ∈ ls, 0 ≤ x ∧ x < 4294967296) :
    Calls Tryz.prog 92 #[.map (some M), .slice a n c] w fun e w' => FindQ w w' f ls e := by
  have HM := hide hm
  have HV := hide hv
  have HL := hide hl
  have HN := hide hn
  have HR := hide hr
  have HTT := hide Tryz.underlying141
  have HTE := hide Tryz.underlying3
  have hni : (8 : Int) * n ≤ 140737488351232 := by omega
  clear hm hv hl hn hr
  go_enter Tryz.func92, Tryz.ntmps92
  go_wp2_with fail
  go_loopw [6, 12] (fun v i wr => ∃ k : Nat, k ≤ n ∧ i = .int .i64 k ∧ (∀ x ∈ ls.take k, ¬ numG f x = 0) ∧ wr.ownsRow w.heap.size 3 1 v ((ls.take k).map (numG f)).length (((ls.take k).map (numG f)).map (Value.int .i64)) ∧ Below w.heap.size w wr) (fun _ i _ => n - (intOf i).toNat)
  case atStart => exact ⟨0, Nat.zero_le _, rfl, by simp, World.ownsRow_nil _ _ _ _, Below.refl _ _⟩
  case round =>
    obtain ⟨k, hk, rfl, hall, hown, hbr⟩ := hrel
    by_cases hlt : k < n
    · have hkl : k < ls.length := by rw [HL.out]; exact hlt
      obtain ⟨b, off, rfl, hbl, hc⟩ := HV.out k hkl
      have hc' := (hbr.cell (p := ⟨b, off + k, none⟩) hbl).trans hc
      have hmem : nth ls k ∈ ls := by
        have : nth ls k = ls[k] := by simp [nth, List.getD, hkl]
        rw [this]; exact List.getElem_mem hkl
      have HMEM := hide hmem
      have HX := hide (HR.out _ hmem)
      have HSN := hide (take_snocG ls k hkl)
      have HTL : Hid (((ls.take k).map (numG f)).length ≤ k) := by show _ ≤ _; rw [List.length_map, List.length_take]; omega
      obtain ⟨a4, c4, rfl⟩ := own_shapeG hown
      have hki : (k : Int) < (n : Int) := by omega
      have HLT := hide hlt
      have HALL := hide hall
      have HBR := hide hbr
      have HOWN := hide hown
      have HMR := hide (HM.out.below hbr)
      clear hc hmem hkl hbl hown hbr hlt hk hall
      generalize hy : nth ls k = y at *
      have HY := hide hy
      obtain ⟨z, hz⟩ : ∃ z, z = numG f y := ⟨_, rfl⟩
      have HZ : Hid ((f y).getD 0 = z) := hz.symm
      clear hy hz
      by_cases hz0 : z = 0
      · have HZ0 := hide hz0
        generalize ((ls.take k).map (numG f)).length = m4 at *
        have hzb : (z == 0) = true := by simpa using hz0
        clear hz0
        go_wp2_with (at_lookup; refine wpList_lookU rfl _ _ 141 rfl 3 .i64 HTT.out HTE.out (zeroI64 _) M nm f rfl HMR.out y rfl HX.out.1 HX.out.2 ?_; rw [HZ.out])
        go_ret2
        exact .inr ⟨fun h => h y HMEM.out (HZ.out.trans HZ0.out), rfl, HBR.out⟩
      · have HZ0 := hide hz0
        have hzb : (z == 0) = false := by simpa using hz0
        have HIN : Hid ((ls.take (k + 1)).map (numG f) = (ls.take k).map (numG f) ++ [z]) := by
          show _ = _
          rw [HSN.out, List.map_append]
          show _ ++ [numG f y] = _
          rw [show numG f y = z from HZ.out]
        have HAL : Hid (∀ x ∈ ls.take (k + 1), ¬ numG f x = 0) := by
          intro x hx
          rw [HSN.out] at hx
          rcases List.mem_append.1 hx with h | h
          · exact HALL.out x h
          · simp at h
            rw [h, show numG f y = z from HZ.out]
            exact HZ0.out
        generalize (ls.take k).map (numG f) = zs at *
        have ho4 : (wr.alloc (.cells #[.int .i64 z] 3)).ownsRow w.heap.size 3 1 (.slice a4 zs.length c4) zs.length (zs.map (Value.int .i64)) := own_below HOWN.out ((Below.refl _ _).alloc (Nat.le_refl _) _)
        have HO4 := hide ho4
        have HB4 : Hid (Below w.heap.size w (wr.alloc (.cells #[.int .i64 z] 3))) := HBR.out.alloc HBR.out.size _
        have HNL : Hid (zs.length < 17592186044415) := by show _ < _; have := HTL.out; have := HLT.out; have := HN.out; omega
        clear hz0 ho4 HALL HSN
        go_wp2_with (first | (at_lookup; refine wpList_lookU rfl _ _ 141 rfl 3 .i64 HTT.out HTE.out (zeroI64 _) M nm f rfl HMR.out y rfl HX.out.1 HX.out.2 ?_; rw [HZ.out]) | (at_builtin; refine wpList_app1 rfl (.tmp 21) (.tmp 23) rfl w.heap.size _ zs z rfl wr.heap.size rfl (allocNew _ _ rfl) HO4.out HNL.out (by have := HB4.out.size; exact this) ?_))
        intro g cap w5 ho5 hg5 _
        have HB5 : Hid (Below w.heap.size w w5) := HB4.out.grown hg5 HB4.out.size (fun q e => (World.ownsRow.lt HO4.out q e).1)
        have HO5 := hide ho5
        clear ho5 hg5 HO4 HOWN
        go_wp2_with fail
        exact ⟨⟨k + 1, HLT.out, by simp, HAL.out, by rw [HIN.out]; simpa using HO5.out, HB5.out⟩, measZ2 HLT.out⟩
    · have e : k = n := by omega
      subst e
      obtain ⟨a4, c4, rfl⟩ := own_shapeG hown
      have HTK : Hid (ls.take k = ls) := List.take_of_length_le (by rw [HL.out]; exact Nat.le_refl _)
      rw [HTK.out] at hall hown
      have HALL := hide hall
      have HBR := hide hbr
      have HOWN := hide hown
      have HLL : Hid ((List.map (numG f) (ls.take k)).length = (ls.map (numG f)).length) := by show _ = _; rw [HTK.out]
      clear hall hown hbr hk
      generalize (List.map (numG f) (ls.take k)).length = m4 at *
      go_wp2_with fail
      go_ret2
      refine .inl ⟨HALL.out, _, rfl, ?_, HBR.out⟩
      rw [HLL.out]
      exact HOWN.out

end Go.Proofs.YtlcaedibmlidlaaGreat
