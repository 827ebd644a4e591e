/-
  Texts laid together in one: MathK, LayoutRows, LayoutWalk1.
-/
import Derived.WalkSpells
import Derived.Test.YtcckepjpehjijaaB07
import Derived.Laws.AppendOwn
import Derived.Test.YtcckepjpehjijaaProg
import Derived.Test.YtcckepjpehjijaaB01
import Derived.WalkMore
import Derived.BigRegion
import Derived.Deep.RegionWith
import Derived.Deep.QuietTactic
import Derived.BigQuiet
/-
  The order of a module's instructions, in plain mathematics: what may stand where, what a walk over them passes, the parts, the functions.
-/
namespace Go.Proofs.Ytcckepjpehjijaa
open Go.RowKit
set_option linter.unusedVariables false
set_option linter.unusedSimpArgs false
set_option maxRecDepth 10000

/-- Whether one of the first k has a part above p. -/
def overP (l : List InstT) (p : Int) : Nat → Bool
  | 0 => false
  | k + 1 => overP l p k || decide (p < partI (nthI l k))
/-- How many of the first k say a memory model. -/
def modelsN (l : List InstT) : Nat → Nat
  | 0 => 0
  | k + 1 => modelsN l k + (if partI (nthI l k) = 1 then 1 else 0)
theorem modelsN_le (l : List InstT) : ∀ k, modelsN l k ≤ k
  | 0 => Nat.le_refl _
  | k + 1 => by have := modelsN_le l k; rw [modelsN]; split <;> omega
theorem overP_at {l : List InstT} {p : Int} {k m : Nat} (hk : k < m) (h : p < partI (nthI l k)) : overP l p m = true := by
  induction m with
  | zero => omega
  | succ m ih =>
    rw [overP]
    by_cases e : k = m
    · subst e; simp [h]
    · rw [ih (by omega)]; rfl
/-- What stands ahead, in functions. -/
def aheadO (l : List InstT) (m : Nat) : Int := if 0 < m ∧ partI (nthI l (m - 1)) = 8 then (nthI l (m - 1)).1 else 0
/-- The last label at or ahead of a place. -/
def blockAt (l : List InstT) : Nat → Nat
  | 0 => 0
  | k + 1 => if (nthI l (k + 1)).1 = 248 then k + 1 else blockAt l k
theorem blockAt_le (l : List InstT) : ∀ k, blockAt l k ≤ k
  | 0 => Nat.le_refl _
  | k + 1 => by have := blockAt_le l k; rw [blockAt]; split <;> omega
theorem blockAt_no (l : List InstT) : ∀ k i, blockAt l k < i → i ≤ k → (nthI l i).1 ≠ 248
  | 0, i, h1, h2 => by rw [blockAt] at h1; omega
  | k + 1, i, h1, h2 => by
    rw [blockAt] at h1
    split at h1
    · omega
    · next h =>
      by_cases e : i = k + 1
      · rw [e]; exact h
      · exact blockAt_no l k i h1 (by omega)
/-- Whether the block at a place is a function's first. -/
def firstB (l : List InstT) (k : Nat) : Bool := decide ((nthI l (blockAt l k - 1)).1 = 54 ∨ (nthI l (blockAt l k - 1)).1 = 55)
/-- What may follow in a function. -/
def mayF (op ah : Int) (fs : Bool) : Bool :=
  if op = 54 then ah == 0 || ah == 56
  else if op = 55 then ah == 54 || ah == 55
  else if op = 248 then ah == 54 || ah == 55 || endsB ah
  else if op = 56 then endsB ah
  else if (ah == 0 || ah == 54 || ah == 55 || ah == 56 || endsB ah) = true then false
  else if op = 245 then (ah == 248 || ah == 245) && !fs
  else if op = 59 then (ah == 248 || ah == 59) && fs
  else if ah = 246 then op == 249 || op == 250
  else if ah = 247 then op == 250 || op == 251
  else true

theorem overP_false {l : List InstT} {p : Int} : ∀ {m : Nat}, overP l p m = false → ∀ i, i < m → partI (nthI l i) ≤ p
  | 0, _, i, hi => by omega
  | m + 1, h, i, hi => by
    rw [overP, Bool.or_eq_false_iff] at h
    by_cases e : i = m
    · subst e; simpa using h.2
    · exact overP_false h.1 i (by omega)
theorem overP_low {l : List InstT} {p : Int} : ∀ {m : Nat}, (∀ i, i < m → partI (nthI l i) ≤ p) → overP l p m = false
  | 0, _ => rfl
  | m + 1, h => by
    rw [overP, overP_low (fun i hi => h i (by omega)), Bool.false_or]
    have := h m (by omega)
    simpa using this
theorem modelsN_none {l : List InstT} : ∀ {k : Nat}, (∀ i, i < k → partI (nthI l i) ≠ 1) → modelsN l k = 0
  | 0, _ => rfl
  | k + 1, h => by rw [modelsN, modelsN_none (fun i hi => h i (by omega)), if_neg (h k (by omega))]
theorem modelsN_mono {l : List InstT} {i k : Nat} (h : i ≤ k) : modelsN l i ≤ modelsN l k := by
  induction k with
  | zero => rw [show i = 0 by omega]; exact Nat.le_refl _
  | succ k ih =>
    by_cases e : i = k + 1
    · rw [e]; exact Nat.le_refl _
    · have := ih (by omega); rw [modelsN]; omega

/-- What may stand at a place. -/
def mayL (l : List InstT) (m : Nat) : Bool :=
  (!overP l (partI (nthI l m)) m && (if partI (nthI l m) = 1 then decide (modelsN l m = 0) else !(decide (1 < partI (nthI l m)) && decide (modelsN l m = 0)))) && (decide (partI (nthI l m) < 8) || mayF (nthI l m).1 (aheadO l m) (firstB l (m - 1)))
/-- All ahead of a place stand where they may. -/
def okTo (l : List InstT) (k : Nat) : Prop := ∀ i, i < k → mayL l i = true
theorem okTo_zero (l : List InstT) : okTo l 0 := fun i hi => by omega
theorem okTo.snoc {l : List InstT} {k : Nat} (h : okTo l k) (hk : mayL l k = true) : okTo l (k + 1) := fun i hi => by
  by_cases e : i = k
  · rw [e]; exact hk
  · exact h i (by omega)
theorem mayL_over {l : List InstT} {k i : Nat} (hi : i < k) (h : partI (nthI l k) < partI (nthI l i)) : mayL l k = false := by
  unfold mayL; rw [overP_at hi h]; rfl
theorem mayL_low {l : List InstT} {k : Nat} {p : Int} (hp : partI (nthI l k) = p) (h8 : p < 8) (ho : ∀ i, i < k → partI (nthI l i) ≤ p) (h1 : p = 1 → modelsN l k = 0) (h2 : 1 < p → modelsN l k ≠ 0) : mayL l k = true := by
  unfold mayL
  rw [hp, overP_low ho]
  have h8' : decide (p < 8) = true := by simpa using h8
  rw [h8']
  by_cases e : p = 1
  · simp [e, h1 e]
  · by_cases e2 : 1 < p
    · simp [e, e2, h2 e2]
    · simp [e, e2]
theorem mayL_noModel {l : List InstT} {k : Nat} (h : 1 < partI (nthI l k)) (h0 : modelsN l k = 0) : mayL l k = false := by
  unfold mayL
  rw [if_neg (by omega)]
  simp [h, h0]
theorem mayL_twoModels {l : List InstT} {k : Nat} (h : partI (nthI l k) = 1) (h0 : modelsN l k ≠ 0) : mayL l k = false := by
  unfold mayL
  rw [if_pos h]
  simp [h0]
theorem mayL_eight {l : List InstT} {k : Nat} (h : partI (nthI l k) = 8) (ho : ∀ i, i < k → partI (nthI l i) ≤ 8) (h0 : modelsN l k ≠ 0) : mayL l k = mayF (nthI l k).1 (aheadO l k) (firstB l (k - 1)) := by
  unfold mayL
  rw [h, overP_low ho]
  simp [h0]

/-- A part is none above the functions'. -/
theorem partI_eight (x : InstT) : 0 ≤ partI x ∧ partI x ≤ 8 := by
  have h : refT.all (fun r => decide (0 ≤ r.2.2.2.2.2.2.2) && decide (r.2.2.2.2.2.2.2 ≤ 8)) = true := by decide +kernel
  unfold partI
  split
  · omega
  · unfold partO
    split
    · next h1 =>
      have h2 := List.all_eq_true.1 h _ (lookF_true h1)
      simpa using h2
    · omega

theorem partAt_lt {l : List InstT} {k : Nat} (h : k < l.length) : partAt l k = partI (nthI l k) := by unfold partAt; rw [if_pos h]
theorem partAt_end {l : List InstT} {k : Nat} (h : l.length ≤ k) : partAt l k = 9 := by unfold partAt; rw [if_neg (by omega)]
theorem partAt_nine {l : List InstT} {k : Nat} (h : partAt l k = 9) : l.length ≤ k := by
  unfold partAt at h
  split at h
  · have := partI_eight (nthI l k); omega
  · omega
theorem partAt_small (l : List InstT) (k : Nat) : 0 ≤ partAt l k ∧ partAt l k ≤ 9 := by
  unfold partAt
  split
  · have := partI_eight (nthI l k); omega
  · omega

/-- How many of the first k have a part below p. -/
def cntP (l : List InstT) (p : Nat) : Nat → Nat
  | 0 => 0
  | k + 1 => cntP l p k + (if partI (nthI l k) < p then 1 else 0)
theorem cntP_all {l : List InstT} {p : Nat} : ∀ {k : Nat}, (∀ i, i < k → partI (nthI l i) < p) → cntP l p k = k
  | 0, _ => rfl
  | k + 1, h => by rw [cntP, cntP_all (fun i hi => h i (by omega)), if_pos (h k (by omega))]
theorem cntP_more {l : List InstT} {p k : Nat} (h : (p : Int) ≤ partI (nthI l k)) : cntP l p (k + 1) = cntP l p k := by rw [cntP, if_neg (by omega)]; rfl
theorem cntP_le (l : List InstT) (p : Nat) : ∀ k, cntP l p k ≤ k
  | 0 => Nat.le_refl _
  | k + 1 => by have := cntP_le l p k; rw [cntP]; split <;> omega

/-- The walk in front: at part j, at place k. -/
structure FrM (l : List InstT) (ps : Nat → Int) (j k : Nat) : Prop where
  le : k ≤ l.length
  ok : okTo l k
  parts : ∀ i, i < k → partI (nthI l i) ≤ j
  one : j = 1 → ∀ i, i < k → partI (nthI l i) < 1
  models : 2 ≤ j → modelsN l k ≠ 0
  stuck : partAt l k < j → k < l.length ∧ mayL l k = false
  spans : ∀ i, i ≤ 2 * j → ps i = cntP l ((i + 1) / 2) k
/-- At the opening of a part. -/
structure FrO (l : List InstT) (ps : Nat → Int) (j k : Nat) : Prop where
  le : k ≤ l.length
  ok : okTo l k
  parts : ∀ i, i < k → partI (nthI l i) < j
  models : 2 ≤ j → modelsN l k ≠ 0
  stuck : partAt l k < j → k < l.length ∧ mayL l k = false
  spans : ∀ i, i < 2 * j → ps i = cntP l ((i + 1) / 2) k
theorem FrO.start (l : List InstT) (ps : Nat → Int) : FrO l ps 0 0 := ⟨Nat.zero_le _, okTo_zero l, fun i hi => by omega, fun h => by omega, fun h => by have := partAt_small l 0; omega, fun i hi => by omega⟩
theorem FrO.more {l : List InstT} {ps : Nat → Int} {j k : Nat} (h : FrO l ps j k) : FrM l (fun i => if i = 2 * j then (k : Int) else ps i) j k := by
  refine ⟨h.le, h.ok, fun i hi => by have := h.parts i hi; omega, fun e i hi => by have := h.parts i hi; omega, h.models, h.stuck, fun i hi => ?_⟩
  by_cases e : i = 2 * j
  · simp only [e, if_true]
    rw [show (2 * j + 1) / 2 = j by omega, cntP_all h.parts]
  · simp only [e, if_false]
    exact h.spans i (by omega)
/-- A step by an instruction of the part. -/
theorem FrM.may {l : List InstT} {ps : Nat → Int} {j k : Nat} (h : FrM l ps j k) (hj : j < 8) (hp : partAt l k = j) : k < l.length ∧ mayL l k = true := by
  have hk : k < l.length := by
    rcases Nat.lt_or_ge k l.length with h1 | h1
    · exact h1
    · rw [partAt_end h1] at hp; omega
  rw [partAt_lt hk] at hp
  refine ⟨hk, mayL_low hp (by omega) h.parts (fun e => modelsN_none fun i hi => ?_) (fun e => h.models (by omega))⟩
  have := h.one (by omega) i hi; omega
theorem FrM.step {l : List InstT} {ps : Nat → Int} {j k : Nat} (h : FrM l ps j k) (hj : j < 8) (h1 : j ≠ 1) (hp : partAt l k = j) : FrM l ps j (k + 1) := by
  obtain ⟨hk, hm⟩ := h.may hj hp
  have hpi : partI (nthI l k) = j := by rw [← hp, partAt_lt hk]
  refine ⟨hk, h.ok.snoc hm, fun i hi => ?_, fun e => absurd e h1, fun e => ?_, fun e => ?_, fun i hi => ?_⟩
  · by_cases e : i = k
    · rw [e, hpi]; exact Int.le_refl _
    · exact h.parts i (by omega)
  · have := h.models e; have := modelsN_mono (l := l) (show k ≤ k + 1 by omega); omega
  · rcases Nat.lt_or_ge (k + 1) l.length with hl | hl
    · rw [partAt_lt hl] at e
      exact ⟨hl, mayL_over (i := k) (by omega) (by omega)⟩
    · rw [partAt_end hl] at e; omega
  · rw [cntP_more (by rw [hpi]; omega)]; exact h.spans i hi
theorem FrM.stepModel {l : List InstT} {ps : Nat → Int} {k : Nat} (h : FrM l ps 1 k) (hp : partAt l k = 1) : FrO l (fun i => if i = 3 then ((k + 1 : Nat) : Int) else ps i) 2 (k + 1) := by
  obtain ⟨hk, hm⟩ := h.may (by omega) hp
  have hpi : partI (nthI l k) = 1 := by rw [← partAt_lt hk]; exact hp
  have hmo : modelsN l (k + 1) ≠ 0 := by rw [modelsN, if_pos hpi]; omega
  have hparts : ∀ i, i < k + 1 → partI (nthI l i) < ((2 : Nat) : Int) := fun i hi => by
    by_cases e : i = k
    · rw [e, hpi]; omega
    · have := h.parts i (by omega); omega
  refine ⟨hk, h.ok.snoc hm, hparts, fun _ => hmo, fun e => ?_, fun i hi => ?_⟩
  · rcases Nat.lt_or_ge (k + 1) l.length with hl | hl
    · rw [partAt_lt hl] at e
      refine ⟨hl, ?_⟩
      by_cases e1 : partI (nthI l (k + 1)) = 1
      · exact mayL_twoModels e1 hmo
      · exact mayL_over (i := k) (by omega) (by omega)
    · rw [partAt_end hl] at e; omega
  · by_cases e : i = 3
    · simp only [e, if_true]; rw [cntP_all (by simpa using hparts)]
    · simp only [e, if_false]
      rw [cntP_more (by rw [hpi]; omega)]; exact h.spans i (by omega)
theorem FrM.close {l : List InstT} {ps : Nat → Int} {j k : Nat} (h : FrM l ps j k) (h1 : j ≠ 1) (hp : partAt l k ≠ j) : FrO l (fun i => if i = 2 * j + 1 then (k : Int) else ps i) (j + 1) k := by
  have hparts : ∀ i, i < k → partI (nthI l i) < ((j + 1 : Nat) : Int) := fun i hi => by have := h.parts i hi; omega
  refine ⟨h.le, h.ok, hparts, fun e => h.models (by omega), fun e => h.stuck (by omega), fun i hi => ?_⟩
  by_cases e : i = 2 * j + 1
  · simp only [e, if_true]; rw [show (2 * j + 1 + 1) / 2 = j + 1 by omega, cntP_all hparts]
  · simp only [e, if_false]; exact h.spans i (by omega)
/-- What is wrong where the walk stops: at a place that no instruction may have, or at an open end. -/
def wrongAt (l : List InstT) (k : Nat) : Prop := okTo l k ∧ (k < l.length ∧ mayL l k = false ∨ k = l.length ∧ (modelsN l k = 0 ∨ aheadO l k ≠ 0 ∧ aheadO l k ≠ 56))
theorem FrM.noModel {l : List InstT} {ps : Nat → Int} {k : Nat} (h : FrM l ps 1 k) (hp : partAt l k ≠ 1) : wrongAt l k := by
  have hm : modelsN l k = 0 := modelsN_none fun i hi => by have := h.one rfl i hi; omega
  refine ⟨h.ok, ?_⟩
  rcases Nat.lt_or_ge k l.length with hl | hl
  · refine .inl ⟨hl, ?_⟩
    by_cases e : partAt l k < (1 : Nat)
    · exact (h.stuck e).2
    · rw [partAt_lt hl] at hp e
      exact mayL_noModel (by omega) hm
  · exact .inr ⟨by have := h.le; omega, .inl hm⟩

/-- Functions: id, place, parameters, blocks (label, from, to), end. -/
abbrev FuncT := Int × Int × List Int × List (Int × Int × Int) × Int
/-- The last one turned. -/
def onLast (fs : List FuncT) (g : FuncT → FuncT) : List FuncT := match fs.getLast? with
  | none => []
  | some f => fs.dropLast ++ [g f]
theorem onLast_snoc (fs : List FuncT) (f : FuncT) (g : FuncT → FuncT) : onLast (fs ++ [f]) g = fs ++ [g f] := by simp [onLast]
def withParam (k : Int) (f : FuncT) : FuncT := (f.1, f.2.1, f.2.2.1 ++ [k], f.2.2.2.1, f.2.2.2.2)
def withBlock (lab k : Int) (f : FuncT) : FuncT := (f.1, f.2.1, f.2.2.1, f.2.2.2.1 ++ [(lab, k, 0)], f.2.2.2.2)
def withEnd (k : Int) (f : FuncT) : FuncT := (f.1, f.2.1, f.2.2.1, f.2.2.2.1, k)
def endLast (bs : List (Int × Int × Int)) (k : Int) : List (Int × Int × Int) := match bs.getLast? with
  | none => []
  | some b => bs.dropLast ++ [(b.1, b.2.1, k)]
theorem endLast_snoc (bs : List (Int × Int × Int)) (b : Int × Int × Int) (k : Int) : endLast (bs ++ [b]) k = bs ++ [(b.1, b.2.1, k)] := by simp [endLast]
def withTo (k : Int) (f : FuncT) : FuncT := (f.1, f.2.1, f.2.2.1, endLast f.2.2.2.1 k, f.2.2.2.2)
/-- What an instruction adds to the functions. -/
def stepC (fs : List FuncT) (x : InstT) (k : Nat) : List FuncT :=
  if x.1 = 54 then fs ++ [(x.2.2.1, (k : Int), [], [], 0)]
  else if x.1 = 55 then onLast fs (withParam k)
  else if x.1 = 56 then onLast fs (withEnd k)
  else if x.1 = 248 then onLast fs (withBlock x.2.2.1 k)
  else if endsB x.1 then onLast fs (withTo ((k + 1 : Nat) : Int))
  else fs
/-- The functions among the first k instructions. -/
def cutTo (l : List InstT) : Nat → List FuncT
  | 0 => []
  | k + 1 => stepC (cutTo l k) (nthI l k) k

/-- What stands in functions alone has their part. -/
theorem part_of_function {x : InstT} (h : x.1 = 54 ∨ x.1 = 55 ∨ x.1 = 56 ∨ x.1 = 248 ∨ endsB x.1 = true) : partI x = 8 := by
  have h59 : x.1 ≠ 59 := by
    rcases h with h | h | h | h | h
    · omega
    · omega
    · omega
    · omega
    · unfold endsB at h; simp at h; omega
  unfold partI
  rw [if_neg (fun e => h59 e.1)]
  have key : ∀ op : Int, op = 54 ∨ op = 55 ∨ op = 56 ∨ op = 248 ∨ op = 249 ∨ op = 250 ∨ op = 251 ∨ op = 252 ∨ op = 253 ∨ op = 254 ∨ op = 255 → partO op = 8 := by
    intro op ho
    rcases ho with e | e | e | e | e | e | e | e | e | e | e <;> subst e <;> decide +kernel
  refine key _ ?_
  rcases h with h | h | h | h | h
  · omega
  · omega
  · omega
  · omega
  · unfold endsB at h; simp at h; omega
theorem partO_zero : partO 0 ≠ 8 := by decide +kernel
theorem stepC_other {fs : List FuncT} {x : InstT} {k : Nat} (h1 : x.1 ≠ 54) (h2 : x.1 ≠ 55) (h3 : x.1 ≠ 56) (h4 : x.1 ≠ 248) (h5 : endsB x.1 = false) : stepC fs x k = fs := by
  unfold stepC; rw [if_neg h1, if_neg h2, if_neg h3, if_neg h4, h5]; rfl
theorem cutTo_front {l : List InstT} : ∀ {k : Nat}, (∀ i, i < k → partI (nthI l i) < 8) → cutTo l k = []
  | 0, _ => rfl
  | k + 1, h => by
    have hp := h k (by omega)
    have no : ∀ {q : Prop}, (q → partI (nthI l k) = 8) → ¬ q := fun hq h1 => by have := hq h1; omega
    rw [cutTo, cutTo_front (fun i hi => h i (by omega))]
    exact stepC_other (no fun e => part_of_function (.inl e)) (no fun e => part_of_function (.inr (.inl e))) (no fun e => part_of_function (.inr (.inr (.inl e)))) (no fun e => part_of_function (.inr (.inr (.inr (.inl e))))) (by
      cases he : endsB (nthI l k).1 with
      | false => rfl
      | true => have := part_of_function (x := nthI l k) (.inr (.inr (.inr (.inr he)))); omega)

/-- The walk among the functions, at place k. -/
structure Fc (l : List InstT) (k : Nat) : Prop where
  le : k ≤ l.length
  ok : okTo l k
  parts : ∀ i, i < k → partI (nthI l i) ≤ 8
  models : modelsN l k ≠ 0
  stuck : partAt l k < 8 → k < l.length ∧ mayL l k = false
/-- What an instruction in functions is: its part, its kind. -/
theorem kind_part {l : List InstT} {k : Nat} (h : kindAt l k ≠ 0) : k < l.length ∧ partI (nthI l k) = 8 ∧ kindAt l k = kindOp (nthI l k).1 := by
  unfold kindAt kindX at *
  split at h
  · next hk =>
    split at h
    · next h8 => rw [if_pos hk, if_pos h8]; exact ⟨hk, h8, rfl⟩
    · exact absurd rfl h
  · exact absurd rfl h
theorem kindAt_eight {l : List InstT} {k : Nat} (hk : k < l.length) (h : partI (nthI l k) = 8) : kindAt l k = kindOp (nthI l k).1 := by
  unfold kindAt kindX; rw [if_pos hk, if_pos h]
theorem Fc.next {l : List InstT} {k : Nat} (h : Fc l k) (hk : k < l.length) (h8 : partI (nthI l k) = 8) (hm : mayF (nthI l k).1 (aheadO l k) (firstB l (k - 1)) = true) : Fc l (k + 1) ∧ aheadO l (k + 1) = (nthI l k).1 := by
  refine ⟨⟨hk, h.ok.snoc ((mayL_eight h8 h.parts h.models).trans hm), fun i hi => ?_, ?_, fun e => ?_⟩, ?_⟩
  · by_cases e : i = k
    · rw [e, h8]; exact Int.le_refl _
    · exact h.parts i (by omega)
  · have := h.models; have := modelsN_mono (l := l) (show k ≤ k + 1 by omega); omega
  · rcases Nat.lt_or_ge (k + 1) l.length with hl | hl
    · rw [partAt_lt hl] at e
      exact ⟨hl, mayL_over (i := k) (by omega) (by omega)⟩
    · rw [partAt_end hl] at e; omega
  · unfold aheadO; rw [if_pos ⟨by omega, h8⟩, Nat.add_sub_cancel]
theorem Fc.fail {l : List InstT} {k : Nat} (h : Fc l k) (hm : k < l.length → partI (nthI l k) = 8 → mayF (nthI l k).1 (aheadO l k) (firstB l (k - 1)) = false) (ha : aheadO l k ≠ 0 ∧ aheadO l k ≠ 56 ∨ partAt l k ≠ 9) : wrongAt l k := by
  refine ⟨h.ok, ?_⟩
  rcases Nat.lt_or_ge k l.length with hl | hl
  · refine .inl ⟨hl, ?_⟩
    by_cases e : partAt l k < 8
    · exact (h.stuck e).2
    · rw [partAt_lt hl] at e
      have := partI_eight (nthI l k)
      have h8 : partI (nthI l k) = 8 := by omega
      rw [mayL_eight h8 h.parts h.models]
      exact hm hl h8
  · refine .inr ⟨by have := h.le; omega, .inr ?_⟩
    rcases ha with ha | ha
    · exact ha
    · exact absurd (partAt_end hl) ha
theorem firstB_label {l : List InstT} {k : Nat} (hk : 1 ≤ k) (h : (nthI l k).1 = 248) : firstB l k = decide ((nthI l (k - 1)).1 = 54 ∨ (nthI l (k - 1)).1 = 55) ∧ blockAt l k = k := by
  obtain ⟨j, rfl⟩ : ∃ j, k = j + 1 := ⟨k - 1, by omega⟩
  have : blockAt l (j + 1) = j + 1 := by rw [blockAt, if_pos h]
  unfold firstB
  rw [this]
  exact ⟨rfl, rfl⟩
theorem firstB_other {l : List InstT} {k : Nat} (hk : 1 ≤ k) (h : (nthI l k).1 ≠ 248) : firstB l k = firstB l (k - 1) ∧ blockAt l k = blockAt l (k - 1) := by
  obtain ⟨j, rfl⟩ : ∃ j, k = j + 1 := ⟨k - 1, by omega⟩
  have : blockAt l (j + 1) = blockAt l j := by rw [blockAt, if_neg h]
  unfold firstB
  rw [this]
  exact ⟨rfl, rfl⟩
end Go.Proofs.Ytcckepjpehjijaa

/-
  Rows of memory that lie apart from one another; the functions of a walk in memory: a row of functions, each with a row of parameters and a row of blocks.
-/
namespace Go.Proofs.Ytcckepjpehjijaa
open Go.RowKit
set_option linter.unusedVariables false
set_option linter.unusedSimpArgs false
set_option maxRecDepth 10000

structure RowX where
  T : Nat
  size : Nat
  v : Value
  n : Nat
  xs : List Value
def RowX.own (r : RowX) (w : World) (lo : Nat) : Prop := w.ownsRow lo r.T r.size r.v r.n r.xs
/-- Rows, each in memory of its own. -/
structure RowsX {ι : Type} (w : World) (lo : Nat) (In : ι → Prop) (R : ι → RowX) : Prop where
  own : ∀ q, In q → (R q).own w lo
  apart : ∀ q q', In q → In q' → q ≠ q' → ∀ g, (R q).v.ownBlock = some g → (R q').v.ownBlock ≠ some g
theorem RowsX.kept {ι : Type} {w w' : World} {lo : Nat} {In : ι → Prop} {R : ι → RowX} {ob : Option Nat} (h : RowsX w lo In R) (hg : w.grownBy w' ob) (hob : ∀ g, ob = some g → g < lo) : RowsX w' lo In R :=
  ⟨fun q hq => own_grown (h.own q hq) hg (fun g e e2 => by have := (World.ownsRow.lt (h.own q hq) g e2).1; have := hob g e; omega), h.apart⟩
theorem RowsX.put {ι : Type} {w w' : World} {lo : Nat} {In : ι → Prop} {R R' : ι → RowX} (h : RowsX w lo In R) (i : ι) (hi : In i) (hg : w.grownBy w' (R i).v.ownBlock) (hnew : (R' i).own w' lo) (hv : (R' i).v.ownBlock = (R i).v.ownBlock ∨ ∀ g, (R' i).v.ownBlock = some g → w.heap.size ≤ g) (hs : ∀ q, In q → q ≠ i → R' q = R q) : RowsX w' lo In R' := by
  constructor
  · intro q hq
    by_cases e : q = i
    · rw [e]; exact hnew
    · rw [hs q hq e]
      exact own_grown (h.own q hq) hg (fun g eg => h.apart i q hi hq (fun e2 => e e2.symm) g eg)
  · intro q q' hq hq' hne g e1 e2
    by_cases eq : q = i
    · subst eq
      have hq'i : q' ≠ q := fun e => hne e.symm
      rw [hs q' hq' hq'i] at e2
      rcases hv with hv | hv
      · rw [hv] at e1; exact h.apart q q' hq hq' hne g e1 e2
      · have := hv g e1; have := (World.ownsRow.lt (h.own q' hq') g e2).2; omega
    · rw [hs q hq eq] at e1
      by_cases eq' : q' = i
      · subst eq'
        rcases hv with hv | hv
        · rw [hv] at e2; exact h.apart q q' hq hq' hne g e1 e2
        · have := hv g e2; have := (World.ownsRow.lt (h.own q hq) g e1).2; omega
      · rw [hs q' hq' eq'] at e2
        exact h.apart q q' hq hq' hne g e1 e2
theorem RowsX.grow {ι : Type} {w : World} {lo : Nat} {In In' : ι → Prop} {R R' : ι → RowX} (h : RowsX w lo In R) (hin : ∀ q, In' q → In q ∨ ((R' q).v = .slice none 0 0 ∧ (R' q).n = 0 ∧ (R' q).xs = [])) (hs : ∀ q, In q → R' q = R q) : RowsX w lo In' R' := by
  constructor
  · intro q hq
    rcases hin q hq with h1 | ⟨h1, h2, h3⟩
    · rw [hs q h1]; exact h.own q h1
    · unfold RowX.own; rw [h1, h2, h3]; exact World.ownsRow_nil _ _ _ _
  · intro q q' hq hq' hne g e1 e2
    rcases hin q hq with h1 | ⟨h1, _, _⟩
    · rcases hin q' hq' with k1 | ⟨k1, _, _⟩
      · rw [hs q h1] at e1; rw [hs q' k1] at e2; exact h.apart q q' h1 k1 hne g e1 e2
      · rw [k1] at e2; cases e2
    · rw [h1] at e1; cases e1

/-- A cell of an own row is written. -/
theorem own_setAt {w : World} {lo e size n g cap : Nat} {xs : List Value} (h : w.ownsRow lo e size (.slice (some ⟨g, 0, none⟩) n cap) n xs) (i : Nat) (u : Value) : (w.setCell ⟨g, i, none⟩ u).ownsRow lo e size (.slice (some ⟨g, 0, none⟩) n cap) n (xs.set i u) := by
  refine ⟨by rw [List.length_set]; exact h.1, .inr ?_⟩
  rcases h.2 with ⟨h1, _⟩ | ⟨g', cap', cur, e1, h2, h3, h4, h5, h6, h7⟩
  · cases h1
  · cases e1
    refine ⟨g, cap, cur.setIfInBounds i u, rfl, h2, ?_, h4, h5, by simp [h6], ?_⟩
    · simp [World.setCell, Array.getElem?_modify, h3]
    · rw [Array.toList_setIfInBounds, List.take_set, h7]
theorem own_form {w : World} {lo e size n : Nat} {v : Value} {xs : List Value} (h : w.ownsRow lo e size v n xs) (hn : 0 < n) : ∃ g cap, v = .slice (some ⟨g, 0, none⟩) n cap ∧ lo ≤ g ∧ g < w.heap.size ∧ n ≤ cap ∧ (∀ i, w.frozen? ⟨g, i, none⟩ = false) ∧ (∀ i, i < n * size → w.cell? ⟨g, i, none⟩ = xs[i]?) := by
  rcases h.2 with ⟨_, h1⟩ | ⟨g, cap, cur, e1, h2, h3, h4, h5, h6, h7⟩
  · omega
  · refine ⟨g, cap, e1, h2, (Array.getElem?_eq_some_iff.1 h3).1, h4, fun i => by simp [World.frozen?, h3], fun i hi => ?_⟩
    rw [show w.cell? ⟨g, i, none⟩ = cur[i]? by simp [World.cell?, h3], ← h7, List.getElem?_take, if_pos hi]
    simp
theorem grown_cell (w : World) (g i : Nat) (u : Value) : w.grownBy (w.setCell ⟨g, i, none⟩ u) (some g) := grown_setCell w g i u
theorem own_block {w : World} {lo e size n g cap : Nat} {xs : List Value} : Value.ownBlock (.slice (some ⟨g, 0, none⟩) n cap) = some g := rfl

def noFunc : FuncT := (0, 0, [], [], 0)
def nthF (fs : List FuncT) (j : Nat) : FuncT := fs.getD j noFunc
theorem nthF_lo (fs : List FuncT) (f : FuncT) (j : Nat) (h : j < fs.length) : nthF (fs ++ [f]) j = nthF fs j := by simp [nthF, List.getD, List.getElem?_append_left h]
theorem nthF_hi (fs : List FuncT) (f : FuncT) : nthF (fs ++ [f]) fs.length = f := by simp [nthF, List.getD]
def fC (f : FuncT) (pv bv : Value) : List Value := [.int .u32 f.1, .int .i64 f.2.1, pv, bv, .int .i64 f.2.2.2.2]
def bC (b : Int × Int × Int) : List Value := [.int .u32 b.1, .int .i64 b.2.1, .int .i64 b.2.2]
def cellsF (fs : List FuncT) (V : Bool → Nat → Value) : Nat → List Value
  | 0 => []
  | m + 1 => cellsF fs V m ++ fC (nthF fs m) (V false m) (V true m)
theorem cellsF_len (fs : List FuncT) (V : Bool → Nat → Value) : ∀ m, (cellsF fs V m).length = m * 5
  | 0 => rfl
  | m + 1 => by rw [cellsF, List.length_append, cellsF_len fs V m]; simp [fC]; omega
theorem cellsF_eq {fs fs' : List FuncT} {V V' : Bool → Nat → Value} : ∀ {m : Nat}, (∀ j, j < m → nthF fs' j = nthF fs j ∧ V' false j = V false j ∧ V' true j = V true j) → cellsF fs' V' m = cellsF fs V m
  | 0, _ => rfl
  | m + 1, h => by
    rw [cellsF, cellsF, cellsF_eq (fun j hj => h j (by omega))]
    obtain ⟨h1, h2, h3⟩ := h m (by omega)
    rw [h1, h2, h3]
theorem cellsF_at (fs : List FuncT) (V : Bool → Nat → Value) (m i : Nat) : (cellsF fs V (m + 1))[m * 5 + i]? = (fC (nthF fs m) (V false m) (V true m))[i]? := by
  rw [cellsF, List.getElem?_append_right (by rw [cellsF_len]; omega), cellsF_len]; congr 1; omega
theorem cellsF_set (fs : List FuncT) (V : Bool → Nat → Value) (m i : Nat) (u : Value) : (cellsF fs V (m + 1)).set (m * 5 + i) u = cellsF fs V m ++ (fC (nthF fs m) (V false m) (V true m)).set i u := by
  rw [cellsF, List.set_append, if_neg (by rw [cellsF_len]; omega), cellsF_len]; congr 2; omega

def rowF (fv : Value) (fs : List FuncT) (V : Bool → Nat → Value) : Option (Bool × Nat) → RowX
  | none => ⟨39, 5, fv, fs.length, cellsF fs V fs.length⟩
  | some (false, j) => ⟨3, 1, V false j, (nthF fs j).2.2.1.length, (nthF fs j).2.2.1.map (Value.int .i64)⟩
  | some (true, j) => ⟨41, 3, V true j, (nthF fs j).2.2.2.1.length, (nthF fs j).2.2.2.1.flatMap bC⟩
def inF (fs : List FuncT) : Option (Bool × Nat) → Prop
  | none => True
  | some (_, j) => j < fs.length
/-- The functions in memory, from block lo on. -/
def FuncsAt (w : World) (lo : Nat) (fv : Value) (fs : List FuncT) : Prop := ∃ V, RowsX w lo (inF fs) (rowF fv fs V)
theorem FuncsAt.nil (w : World) (lo : Nat) : FuncsAt w lo (.slice none 0 0) [] := by
  refine ⟨fun _ _ => .slice none 0 0, ⟨fun q hq => ?_, fun q q' hq hq' hne g e1 e2 => ?_⟩⟩
  · match q, hq with
    | none, _ => exact World.ownsRow_nil _ _ _ _
    | some (_, j), hq => exact absurd hq (Nat.not_lt_zero j)
  · match q, q', hq, hq' with
    | none, none, _, _ => exact hne rfl
    | some (_, j), _, hq, _ => exact absurd hq (Nat.not_lt_zero j)
    | none, some (_, j), _, hq => exact absurd hq (Nat.not_lt_zero j)
theorem FuncsAt.kept {w w' : World} {lo : Nat} {fv : Value} {fs : List FuncT} {ob : Option Nat} (h : FuncsAt w lo fv fs) (hg : w.grownBy w' ob) (hob : ∀ g, ob = some g → g < lo) : FuncsAt w' lo fv fs := by
  obtain ⟨V, hV⟩ := h; exact ⟨V, hV.kept hg hob⟩
theorem FuncsAt.below {w w' : World} {lo : Nat} {fv : Value} {fs : List FuncT} (h : FuncsAt w lo fv fs) (hb : Below w.heap.size w w') : FuncsAt w' lo fv fs := h.kept (ob := none) ⟨hb.os, hb.tape, hb.output, hb.size, fun k hk _ => hb.block k hk⟩ (fun g e => by cases e)
/-- The row of functions, and a function more. -/
theorem FuncsAt.row {w : World} {lo : Nat} {fv : Value} {fs : List FuncT} (h : FuncsAt w lo fv fs) : ∃ cs, w.ownsRow lo 39 5 fv fs.length cs ∧
    ∀ (w' : World) (fv' : Value) (id at_ : Int), w.grownBy w' fv.ownBlock → (fv'.ownBlock = fv.ownBlock ∨ ∀ g, fv'.ownBlock = some g → w.heap.size ≤ g) → w'.ownsRow lo 39 5 fv' (fs.length + 1) (cs ++ [.int .u32 id, .int .i64 at_, .slice none 0 0, .slice none 0 0, .int .i64 0]) → FuncsAt w' lo fv' (fs ++ [(id, at_, [], [], 0)]) := by
  obtain ⟨V, hV⟩ := h
  refine ⟨cellsF fs V fs.length, hV.own none trivial, fun w' fv' id at_ hg hv how => ?_⟩
  let V' : Bool → Nat → Value := fun b j => if j = fs.length then .slice none 0 0 else V b j
  have hcell : cellsF (fs ++ [(id, at_, [], [], 0)]) V' (fs.length + 1) = cellsF fs V fs.length ++ [.int .u32 id, .int .i64 at_, .slice none 0 0, .slice none 0 0, .int .i64 0] := by
    rw [cellsF, cellsF_eq (fs := fs) (V := V) (fun j hj => ⟨nthF_lo fs _ j hj, by simp [V', show j ≠ fs.length by omega], by simp [V', show j ≠ fs.length by omega]⟩), nthF_hi]
    simp [fC, V']
  have h1 := hV.put (R' := fun q => if q = none then ⟨39, 5, fv', fs.length + 1, cellsF fs V fs.length ++ [.int .u32 id, .int .i64 at_, .slice none 0 0, .slice none 0 0, .int .i64 0]⟩ else rowF fv fs V q) none trivial hg (by rw [if_pos rfl]; exact how) (by rw [if_pos rfl]; exact hv) (fun q hq hne => if_neg hne)
  refine ⟨V', h1.grow (fun q hq => ?_) (fun q hq => ?_)⟩
  · match q, hq with
    | none, _ => exact .inl trivial
    | some (b, j), hq =>
      by_cases e : j < fs.length
      · exact .inl e
      · have e2 : j = fs.length := by have : j < (fs ++ [((id, at_, [], [], 0) : FuncT)]).length := hq; simp at this; omega
        subst e2
        refine .inr ?_
        cases b
        · simp [rowF, V', nthF_hi]
        · simp [rowF, V', nthF_hi]
  · match q, hq with
    | none, _ =>
      rw [if_pos rfl]
      simp only [rowF, List.length_append, List.length_singleton, hcell]
    | some (b, j), hq =>
      have e : j ≠ fs.length := by have : j < fs.length := hq; omega
      rw [if_neg (by simp)]
      cases b
      · simp [rowF, V', e, nthF_lo fs _ j hq]
      · simp [rowF, V', e, nthF_lo fs _ j hq]
/-- The last function, and how it may be turned. -/
structure LastF (w : World) (lo : Nat) (fv : Value) (fs : List FuncT) (f : FuncT) (F c : Nat) (P Q : Value) : Prop where
  val : fv = .slice (some ⟨F, 0, none⟩) (fs.length + 1) c
  low : lo ≤ F
  lt : F < w.heap.size
  cap : fs.length + 1 ≤ c
  frozen : ∀ i, w.frozen? ⟨F, i, none⟩ = false
  c2 : w.cell? ⟨F, fs.length * 5 + 2, none⟩ = some P
  c3 : w.cell? ⟨F, fs.length * 5 + 3, none⟩ = some Q
  c4 : w.cell? ⟨F, fs.length * 5 + 4, none⟩ = some (.int .i64 f.2.2.2.2)
  par : w.ownsRow lo 3 1 P f.2.2.1.length (f.2.2.1.map (Value.int .i64))
  blk : w.ownsRow lo 41 3 Q f.2.2.2.1.length (f.2.2.2.1.flatMap bC)
  pF : P.ownBlock ≠ some F
  qF : Q.ownBlock ≠ some F
  putP : ∀ (w' : World) (P' : Value) (ps : List Int), w.grownBy w' P.ownBlock → (P'.ownBlock = P.ownBlock ∨ ∀ g, P'.ownBlock = some g → w.heap.size ≤ g) → w'.ownsRow lo 3 1 P' ps.length (ps.map (Value.int .i64)) → FuncsAt (w'.setCell ⟨F, fs.length * 5 + 2, none⟩ P') lo fv (fs ++ [(f.1, f.2.1, ps, f.2.2.2.1, f.2.2.2.2)])
  putQ : ∀ (w' : World) (Q' : Value) (bs : List (Int × Int × Int)), w.grownBy w' Q.ownBlock → (Q'.ownBlock = Q.ownBlock ∨ ∀ g, Q'.ownBlock = some g → w.heap.size ≤ g) → w'.ownsRow lo 41 3 Q' bs.length (bs.flatMap bC) → FuncsAt (w'.setCell ⟨F, fs.length * 5 + 3, none⟩ Q') lo fv (fs ++ [(f.1, f.2.1, f.2.2.1, bs, f.2.2.2.2)])
  setQ : ∀ (w' : World) (bs : List (Int × Int × Int)), w.grownBy w' Q.ownBlock → w'.ownsRow lo 41 3 Q bs.length (bs.flatMap bC) → FuncsAt w' lo fv (fs ++ [(f.1, f.2.1, f.2.2.1, bs, f.2.2.2.2)])
  putE : ∀ k : Int, FuncsAt (w.setCell ⟨F, fs.length * 5 + 4, none⟩ (.int .i64 k)) lo fv (fs ++ [(f.1, f.2.1, f.2.2.1, f.2.2.2.1, k)])
theorem FuncsAt.last {w : World} {lo : Nat} {fv : Value} {fs : List FuncT} {f : FuncT} (h : FuncsAt w lo fv (fs ++ [f])) : ∃ F c P Q, LastF w lo fv fs f F c P Q := by
  obtain ⟨V, hV⟩ := h
  have hlen : (fs ++ [f]).length = fs.length + 1 := by simp
  have htop := hV.own none trivial
  have hin : fs.length < (fs ++ [f]).length := by omega
  have hp := hV.own (some (false, fs.length)) hin
  have hq := hV.own (some (true, fs.length)) hin
  simp only [rowF, RowX.own, nthF_hi, hlen] at htop hp hq
  obtain ⟨F, c, e, h1, h2, h3, h4, h5⟩ := own_form htop (by omega)
  have hcell : ∀ i, i < 5 → w.cell? ⟨F, fs.length * 5 + i, none⟩ = (fC f (V false fs.length) (V true fs.length))[i]? := fun i hi => by
    rw [h5 _ (by omega), cellsF_at, nthF_hi]
  have hown : (rowF fv (fs ++ [f]) V none).v.ownBlock = some F := by show fv.ownBlock = _; rw [e]; rfl
  have ne : ∀ b, (some (b, fs.length) : Option (Bool × Nat)) ≠ none := fun b e => by cases e
  have hpF : (V false fs.length).ownBlock ≠ some F := fun e2 => hV.apart (some (false, fs.length)) none hin trivial (ne _) F e2 hown
  have hqF : (V true fs.length).ownBlock ≠ some F := fun e2 => hV.apart (some (true, fs.length)) none hin trivial (ne _) F e2 hown
  -- a row turned, then its head in the row of functions
  have turn : ∀ (b : Bool) (w' : World) (v' : Value) (f' : FuncT) (i : Nat), w.grownBy w' (V b fs.length).ownBlock → (v'.ownBlock = (V b fs.length).ownBlock ∨ ∀ g, v'.ownBlock = some g → w.heap.size ≤ g) →
      (rowF fv (fs ++ [f']) (fun b' j => if b' = b ∧ j = fs.length then v' else V b' j) (some (b, fs.length))).own w' lo →
      rowF fv (fs ++ [f']) (fun b' j => if b' = b ∧ j = fs.length then v' else V b' j) (some (!b, fs.length)) = rowF fv (fs ++ [f]) V (some (!b, fs.length)) →
      (fC f (V false fs.length) (V true fs.length)).set i v' = fC f' (if false = b then v' else V false fs.length) (if true = b then v' else V true fs.length) →
      FuncsAt (w'.setCell ⟨F, fs.length * 5 + i, none⟩ v') lo fv (fs ++ [f']) := by
    intro b w' v' f' i hg hv how hoth hset
    have hlen' : (fs ++ [f']).length = fs.length + 1 := by simp
    have s1 := hV.put (R' := fun q => if q = none then rowF fv (fs ++ [f]) V none else rowF fv (fs ++ [f']) (fun b' j => if b' = b ∧ j = fs.length then v' else V b' j) q) (some (b, fs.length)) hin (by cases b <;> exact hg) (by rw [if_neg (ne _)]; exact how) (by
        rw [if_neg (ne _)]
        cases b <;> simpa [rowF] using hv) (fun q hq hne => by
        match q, hq with
        | none, _ => simp
        | some (b', j), hq =>
          rw [if_neg (by simp)]
          by_cases ej : j = fs.length
          · subst ej
            have hb : b' = !b := by cases b <;> cases b' <;> simp at hne ⊢
            rw [hb]; exact hoth
          · have hj : j < fs.length := by have : j < (fs ++ [f]).length := hq; omega
            cases b' <;> simp [rowF, ej, nthF_lo fs _ j hj])
    have htop' := s1.own none trivial
    simp only [if_true, rowF, RowX.own, hlen] at htop'
    rw [e] at htop'
    have hs := own_setAt htop' (fs.length * 5 + i) v'
    rw [cellsF_set, nthF_hi, hset] at hs
    refine ⟨_, s1.put (w' := w'.setCell ⟨F, fs.length * 5 + i, none⟩ v') (R' := rowF fv (fs ++ [f']) (fun b' j => if b' = b ∧ j = fs.length then v' else V b' j)) none trivial ?_ ?_ ?_ ?_ |> fun h => ⟨fun q hq => h.own q (by cases q with
        | none => trivial
        | some x => have hx : x.2 < (fs ++ [f']).length := hq; show x.2 < (fs ++ [f]).length; omega), fun q q' hq hq' => h.apart q q' (by cases q with
        | none => trivial
        | some x => have hx : x.2 < (fs ++ [f']).length := hq; show x.2 < (fs ++ [f]).length; omega) (by cases q' with
        | none => trivial
        | some x => have hx : x.2 < (fs ++ [f']).length := hq'; show x.2 < (fs ++ [f]).length; omega)⟩⟩
    · simp only [if_true]; rw [hown]; exact grown_cell _ _ _ _
    · unfold RowX.own
      simp only [rowF]
      rw [hlen', cellsF, cellsF_eq (fs := fs ++ [f]) (V := V) (fun j hj => ⟨by rw [nthF_lo fs _ j hj, nthF_lo fs _ j hj], by simp [show j ≠ fs.length by omega], by simp [show j ≠ fs.length by omega]⟩), nthF_hi, e]
      simpa using hs
    · simp only [if_true]; exact .inl rfl
    · intro q hq hne
      simp only [if_neg hne]
  refine ⟨F, c, V false fs.length, V true fs.length, e, h1, h2, h3, h4, hcell 2 (by omega), hcell 3 (by omega), hcell 4 (by omega), hp, hq, hpF, hqF, ?_, ?_, ?_, ?_⟩
  · intro w' P' ps hg hv how
    refine turn false w' P' _ 2 hg hv ?_ ?_ ?_
    · simp only [rowF, RowX.own, nthF_hi, and_self, if_true]; exact how
    · simp [rowF, nthF_hi]
    · simp [fC]
  · intro w' Q' bs hg hv how
    refine turn true w' Q' _ 3 hg hv ?_ ?_ ?_
    · simp only [rowF, RowX.own, nthF_hi, and_self, if_true]; exact how
    · simp [rowF, nthF_hi]
    · simp [fC]
  · intro w' bs hg how
    refine ⟨V, (hV.put (R' := rowF fv (fs ++ [(f.1, f.2.1, f.2.2.1, bs, f.2.2.2.2)]) V) (some (true, fs.length)) hin hg ?_ (.inl rfl) ?_) |> fun h => ⟨fun q hq => h.own q (by cases q with
        | none => trivial
        | some x => have hx : x.2 < (fs ++ [((f.1, f.2.1, f.2.2.1, bs, f.2.2.2.2) : FuncT)]).length := hq; show x.2 < (fs ++ [f]).length; simp at hx ⊢; omega), fun q q' hq hq' => h.apart q q' (by cases q with
        | none => trivial
        | some x => have hx : x.2 < (fs ++ [((f.1, f.2.1, f.2.2.1, bs, f.2.2.2.2) : FuncT)]).length := hq; show x.2 < (fs ++ [f]).length; simp at hx ⊢; omega) (by cases q' with
        | none => trivial
        | some x => have hx : x.2 < (fs ++ [((f.1, f.2.1, f.2.2.1, bs, f.2.2.2.2) : FuncT)]).length := hq'; show x.2 < (fs ++ [f]).length; simp at hx ⊢; omega)⟩⟩
    · simp only [rowF, RowX.own, nthF_hi]; exact how
    · intro q hq hne
      match q, hq with
      | none, _ =>
        simp only [rowF, List.length_append, List.length_singleton]
        rw [cellsF, cellsF, cellsF_eq (fs := fs ++ [f]) (V := V) (fun j hj => ⟨by rw [nthF_lo fs _ j hj, nthF_lo fs _ j hj], rfl, rfl⟩), nthF_hi, nthF_hi]
        rfl
      | some (b, j), hq =>
        by_cases ej : j = fs.length
        · subst ej
          cases b
          · simp [rowF, nthF_hi]
          · exact absurd rfl hne
        · have hj : j < fs.length := by have : j < (fs ++ [f]).length := hq; omega
          cases b <;> simp [rowF, nthF_lo fs _ j hj]
  · intro k
    have hs := own_setAt (by rw [e] at htop; exact htop) (fs.length * 5 + 4) (.int .i64 k)
    rw [cellsF_set, nthF_hi] at hs
    refine ⟨V, (hV.put (R' := rowF fv (fs ++ [(f.1, f.2.1, f.2.2.1, f.2.2.2.1, k)]) V) none trivial (w' := w.setCell ⟨F, fs.length * 5 + 4, none⟩ (.int .i64 k)) ?_ ?_ (.inl rfl) ?_) |> fun h => ⟨fun q hq => h.own q (by cases q with
        | none => trivial
        | some x => have hx : x.2 < (fs ++ [((f.1, f.2.1, f.2.2.1, f.2.2.2.1, k) : FuncT)]).length := hq; show x.2 < (fs ++ [f]).length; simp at hx ⊢; omega), fun q q' hq hq' => h.apart q q' (by cases q with
        | none => trivial
        | some x => have hx : x.2 < (fs ++ [((f.1, f.2.1, f.2.2.1, f.2.2.2.1, k) : FuncT)]).length := hq; show x.2 < (fs ++ [f]).length; simp at hx ⊢; omega) (by cases q' with
        | none => trivial
        | some x => have hx : x.2 < (fs ++ [((f.1, f.2.1, f.2.2.1, f.2.2.2.1, k) : FuncT)]).length := hq'; show x.2 < (fs ++ [f]).length; simp at hx ⊢; omega)⟩⟩
    · rw [hown]; exact grown_cell _ _ _ _
    · unfold RowX.own
      simp only [rowF, List.length_append, List.length_singleton]
      rw [cellsF, cellsF_eq (fs := fs ++ [f]) (V := V) (fun j hj => ⟨by rw [nthF_lo fs _ j hj, nthF_lo fs _ j hj], rfl, rfl⟩), nthF_hi, e]
      exact hs
    · intro q hq hne
      match q, hq with
      | none, _ => exact absurd rfl hne
      | some (b, j), hq =>
        by_cases ej : j = fs.length
        · subst ej
          cases b <;> simp [rowF, nthF_hi]
        · have hj : j < fs.length := by have : j < (fs ++ [f]).length := hq; omega
          cases b <;> simp [rowF, nthF_lo fs _ j hj]
end Go.Proofs.Ytcckepjpehjijaa

/-
  look, step and fault of a walk, of the package layout.
-/
namespace Go.Proofs.Ytcckepjpehjijaa
open Go.RowKit
set_option linter.unusedVariables false
set_option linter.unusedSimpArgs false
set_option maxRecDepth 10000

/-- Each variable among instructions has an argument. -/
def VarsOk (l : List InstT) : Prop := ∀ k, k < l.length → (nthI l k).1 = 59 → 1 ≤ (nthI l k).2.2.2.length

theorem KeepB.low {B : Nat} {w0 w w' : World} (h : Below w0.heap.size w0 w) (hB : w0.heap.size ≤ B) (hk : KeepB B w w') : Below w0.heap.size w0 w' :=
  ⟨hk.os.trans h.os, hk.tape.trans h.tape, hk.output.trans h.output, Nat.le_trans h.size hk.size, fun k hk' => (hk.block k (by have := h.size; omega) (by omega)).trans (h.block k hk')⟩

set_option maxHeartbeats 8000000 in
theorem look_any (B : Nat) (a : Option Addr) (n c : Nat) (ps : Nat → Int) (fv : Value) (k : Nat) (part kind : Int) (l : List InstT) (w0 w : World) (h : WkB B (.slice a n c) ps fv (k : Int) part kind w) (hv : InstsV w0 a l) (hw : Below w0.heap.size w0 w) (hB : w0.heap.size ≤ B) (hl : l.length = n) (hn : 40 * n ≤ 140737488351232) (hvar : VarsOk l) (hk : k ≤ n) :
    Calls Try.prog 32 #[.pointer (some ⟨B, 0, none⟩)] w fun e w' => e = .returned (.tuple #[]) ∧ WkB B (.slice a n c) ps fv (k : Int) (partAt l k) (kindAt l k) w' ∧ KeepB B w w' := by
  have HL := hide hl
  have HV := hide hv
  have HVAR := hide hvar
  have h1 := (h.setPart 9).setKind 0
  have HK1 : Hid (KeepB B w ((w.setCell ⟨B, 23, none⟩ (.int .u8 9)).setCell ⟨B, 24, none⟩ (.int .u16 0))) := (KeepB.set w 23 _).trans (KeepB.set _ 24 _)
  have HW1 := hide h1
  have HLOW := hide (KeepB.low hw hB HK1.out)
  obtain ⟨d0, _, _, d22, d23, d24, df⟩ := h.cells
  have hkn : (k : Int) ≤ (n : Int) := by omega
  clear h hv hl hvar h1 hw
  go_enter Try.func32, Try.ntmps32
  go_wp2_with fail
  generalize (w.setCell ⟨B, 23, none⟩ (.int .u8 9)).setCell ⟨B, 24, none⟩ (.int .u16 0) = W1 at *
  clear d0 d22 d23 d24 df
  obtain ⟨e0, _, _, e22, e23, e24, ef⟩ := HW1.out.cells
  by_cases hlt : k < n
  · have hkne : ((k : Int) == (n : Int)) = false := by simpa using (by omega : (k : Int) ≠ (n : Int))
    have hki : (k : Int) < (n : Int) := by omega
    have hk0 : (0 : Int) ≤ (k : Int) := by omega
    have hkl : k < l.length := by rw [HL.out]; exact hlt
    have HP : Hid (partAt l k = partI (nthI l k) ∧ kindAt l k = kindX (nthI l k)) := by unfold partAt kindAt; rw [if_pos hkl, if_pos hkl]; exact ⟨rfl, rfl⟩
    obtain ⟨g1, o1, aj, cj, nj, rfl, hg1, p1, p2, p3, p4, p5, p6, p7⟩ := HV.out.below HLOW.out k hkl
    have hv59 := HVAR.out k hkl
    go_quiet (fail)
    go_wp2_with fail
    have hdr : Below W1.heap.size W1 (W1.drewN nq) := ⟨rfl, rfl, rfl, Nat.le_refl _, fun _ _ => rfl⟩
    have HW2 := hide (HW1.out.below hdr)
    have HK2 := hide (HK1.out.trans (.of_below hdr))
    have HL2 := hide (HLOW.out.trans (hdr.mono HLOW.out.size))
    have q1 : (W1.drewN nq).cell? ⟨g1, o1 + k * 4, none⟩ = some (.int .u16 (nthI l k).1) := p1
    have q2 : (W1.drewN nq).cell? ⟨g1, o1 + k * 4 + 1, none⟩ = some (.int .u32 (nthI l k).2.1) := p2
    have q3 : (W1.drewN nq).cell? ⟨g1, o1 + k * 4 + 2, none⟩ = some (.int .u32 (nthI l k).2.2.1) := p3
    have q4 : (W1.drewN nq).cell? ⟨g1, o1 + k * 4 + 3, none⟩ = some (.slice aj nj cj) := p4
    have p6' := p6.below hdr
    have hg2 : g1 < (W1.drewN nq).heap.size := hg1
    clear p1 p2 p3 p4 p6 HW1 HK1 HLOW hdr e0 e22 e23 e24 ef hg1
    generalize W1.drewN nq = W2 at *
    obtain ⟨e0, _, _, e22, e23, e24, ef⟩ := HW2.out.cells
    have hBl := HW2.out.lt
    generalize nthI l k = z at *
    obtain ⟨zo, zt, zr, zl⟩ := z
    simp only at *
    refine wp_norm ?_
    go_region
    all_goals
      rw [onNormal_normal]
      have hba : Below W2.heap.size W2 (W2.alloc (.cells #[.int .u16 zo, .int .u32 zt, .int .u32 zr, .slice aj nj cj] 58)).drew := ((Below.refl _ W2).alloc (Nat.le_refl _) _).drew
      have hPo := partOf_any (zo, zt, zr, zl) aj nj cj _ (p6'.below hba) p5 (fun e => by rw [← p5]; exact hv59 e)
      unfold instV at hPo
      simp only at hPo
      have HW3 := hide (HW2.out.below hba)
      have HK3 := hide (HK2.out.trans (.of_below hba))
      have hz0 := (one_block (heap_alloc_new W2 (.cells #[.int .u16 zo, .int .u32 zt, .int .u32 zr, .slice aj nj cj] 58))).1 0
      have HZ := hide (heap_alloc_new W2 (.cells #[.int .u16 zo, .int .u32 zt, .int .u32 zr, .slice aj nj cj] 58))
      have HZ' : Hid ((W2.alloc (.cells #[.int .u16 zo, .int .u32 zt, .int .u32 zr, .slice aj nj cj] 58)).drew.heap[W2.heap.size]? = some (.cells #[.int .u16 zo, .int .u32 zt, .int .u32 zr, .slice aj nj cj] 58 (0, 0))) := HZ.out
      have HZL : Hid (W2.heap.size < (W2.alloc (.cells #[.int .u16 zo, .int .u32 zt, .int .u32 zr, .slice aj nj cj] 58)).drew.heap.size) := by show _ < (W2.alloc _).heap.size; simp
      have hneB : W2.heap.size ≠ B := by omega
      clear q1 q2 q3 q4 p6' hba HW2 HK2 hz0 HZ e0 e22 e23 e24 ef
      generalize (W2.alloc (.cells #[.int .u16 zo, .int .u32 zt, .int .u32 zr, .slice aj nj cj] 58)).drew = W3 at *
      obtain ⟨zc, _⟩ := one_block HZ'.out
      have z0 := zc 0
      have z1 := zc 1
      have z2 := zc 2
      have z3 := zc 3
      have hzl := HZL.out
      clear zc
      go_wp2_with fail
      refine hPo.mono ?_
      rintro e w4 ⟨rfl, hb4⟩
      have HW4 := hide (HW3.out.below hb4)
      have HK4 := hide (HK3.out.trans (.of_below hb4))
      have z4 := (hb4.cell (p := ⟨W2.heap.size, 0, none⟩) hzl).trans z0
      have hzl4 : W2.heap.size < w4.heap.size := Nat.lt_of_lt_of_le hzl hb4.size
      have HW5 := hide (HW4.out.setPart (partI (zo, zt, zr, zl)))
      have HK5 := hide (HK4.out.trans (KeepB.set w4 23 (.int .u8 (partI (zo, zt, zr, zl)))))
      obtain ⟨_, _, _, _, e23, _, ef⟩ := HW4.out.cells
      clear hPo hb4 HW3 HK3 z0 z1 z2 z3 hzl HZ' HZL
      by_cases h8 : partI (zo, zt, zr, zl) = 8
      · have HKD : Hid (kindX (zo, zt, zr, zl) = kindOp zo) := by show _ = _; unfold kindX; rw [if_pos h8]
        rw [h8] at HW5 HK5 HP ⊢
        rw [HKD.out] at HP
        have hko := fun wx => kindOf_any zo wx
        have HW6 := hide (HW5.out.setKind (kindOp zo))
        have HK6 := hide (HK5.out.trans (KeepB.set _ 24 (.int .u16 (kindOp zo))))
        obtain ⟨_, _, _, _, y23, y24, yf⟩ := HW5.out.cells
        go_wp2_with fail
        refine (hko _).mono ?_
        rintro e w6 ⟨rfl, rfl⟩
        clear hko
        go_wp2_with fail
        go_end0
        exact ⟨rfl, by rw [HP.out.1, HP.out.2]; exact HW6.out, HK6.out⟩
      · have HKD : Hid (kindX (zo, zt, zr, zl) = 0) := by show _ = _; unfold kindX; rw [if_neg h8]
        rw [HKD.out] at HP
        have h8' : (partI (zo, zt, zr, zl) == 8) = false := by simpa using h8
        generalize partI (zo, zt, zr, zl) = pp at *
        go_wp2_with fail
        go_end0
        exact ⟨rfl, by rw [HP.out.1, HP.out.2]; exact HW5.out, HK5.out⟩
  · obtain rfl : k = n := by omega
    have HP : Hid (partAt l k = 9 ∧ kindAt l k = 0) := by unfold partAt kindAt; rw [if_neg (by rw [HL.out]; omega), if_neg (by rw [HL.out]; omega)]; exact ⟨rfl, rfl⟩
    go_quiet (fail)
    go_wp2_with fail
    have hdr : Below W1.heap.size W1 (W1.drewN nq) := ⟨rfl, rfl, rfl, Nat.le_refl _, fun _ _ => rfl⟩
    refine bodyPost_ret (v := .tuple #[]) (by simp [results, Try.results32, go_sem]) rfl ⟨rfl, by rw [HP.out.1, HP.out.2]; exact HW1.out.below hdr, HK1.out.trans (.of_below hdr)⟩

set_option maxHeartbeats 4000000 in
theorem step_any (B : Nat) (a : Option Addr) (n c : Nat) (ps : Nat → Int) (fv : Value) (k : Nat) (part kind : Int) (l : List InstT) (w0 w : World) (h : WkB B (.slice a n c) ps fv (k : Int) part kind w) (hv : InstsV w0 a l) (hw : Below w0.heap.size w0 w) (hB : w0.heap.size ≤ B) (hl : l.length = n) (hn : 40 * n ≤ 140737488351232) (hvar : VarsOk l) (hk : k < n) :
    Calls Try.prog 42 #[.pointer (some ⟨B, 0, none⟩)] w fun e w' => e = .returned (.tuple #[]) ∧ WkB B (.slice a n c) ps fv ((k + 1 : Nat) : Int) (partAt l (k + 1)) (kindAt l (k + 1)) w' ∧ KeepB B w w' := by
  have ek : ((k + 1 : Nat) : Int) = (k : Int) + 1 := by omega
  have h1 := h.setAt ((k + 1 : Nat) : Int)
  have hK1 := KeepB.set (B := B) w 22 (.int .i64 ((k + 1 : Nat) : Int))
  have hLk := look_any B a n c ps fv (k + 1) part kind l w0 _ h1 hv (KeepB.low hw hB hK1) hB hl hn hvar (by omega)
  rw [ek] at hK1 hLk ⊢
  have HK1 := hide hK1
  obtain ⟨_, _, _, d22, _, _, df⟩ := h.cells
  have hkw : IntKind.i64.wrap ((k : Int) + 1) = (k : Int) + 1 := by rw [IntKind.wrap_i64]; omega
  clear h h1 hv hw hl hn hvar ek hK1
  go_enter Try.func42, Try.ntmps42
  go_wp2_with fail
  refine hLk.mono ?_
  rintro e w2 ⟨rfl, h2, hk2⟩
  have H2 := hide (And.intro h2 (HK1.out.trans hk2))
  clear hLk h2 hk2
  go_wp2_with fail
  go_end0
  exact ⟨rfl, H2.out.1, H2.out.2⟩

set_option maxHeartbeats 4000000 in
/-- What is wrong where the instructions can't go on. -/
theorem fault_any5 (B : Nat) (ins : Value) (ps : Nat → Int) (fv : Value) (at_ part kind : Int) (w : World) (h : WkB B ins ps fv at_ part kind w) :
    Calls Try.prog 35 #[.pointer (some ⟨B, 0, none⟩)] w fun e w' => e = .returned (.agg #[.int .i64 (if part = 9 then 51 else 50), .int .i64 at_]) ∧ Below w.heap.size w w' := by
  have hba : Below w.heap.size w (w.alloc (.cells #[.int .i64 0, .int .i64 0] 29)) := (Below.refl _ w).alloc (Nat.le_refl _) _
  obtain ⟨_, _, _, d22, d23, _, df⟩ := h.cells
  have hl := h.lt
  have HBA := hide hba
  clear h hba
  by_cases h9 : part = 9
  · subst h9
    rw [if_pos rfl]
    go_enter Try.func35, Try.ntmps35
    go_wp2_with fail
    refine bodyPost_ret (v := .agg #[.int .i64 51, .int .i64 at_]) ?_ rfl ⟨rfl, ?_⟩
    · simp [results, Try.results35, go_sem, World.setCell, Array.getElem?_modify]
    · exact (Below.refl _ w).alloc (Nat.le_refl _) _
  · rw [if_neg h9]
    have h9' : (part == 9) = false := by simpa using h9
    clear h9
    go_enter Try.func35, Try.ntmps35
    go_wp2_with fail
    refine bodyPost_ret (v := .agg #[.int .i64 50, .int .i64 at_]) ?_ rfl ⟨rfl, ?_⟩
    · simp [results, Try.results35, go_sem, World.setCell, Array.getElem?_modify]
    · exact (Below.refl _ w).alloc (Nat.le_refl _) _

end Go.Proofs.Ytcckepjpehjijaa
