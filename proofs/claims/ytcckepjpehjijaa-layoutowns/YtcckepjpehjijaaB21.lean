/-
  Texts laid together in one: Ref05Parts, MathWh, MathCu.
-/
import Derived.WalkSpells
import Derived.WalkMore
import Derived.BigRegion
import Derived.Deep.MidRow
import Derived.Test.YtcckepjpehjijaaProg
import Derived.Test.YtcckepjpehjijaaB20
import Derived.Test.YtcckepjpehjijaaB11
import Derived.Test.YtcckepjpehjijaaB16
/-
  The document's Parts.
-/
namespace Go.Proofs.Ytcckepjpehjijaa
open Go.RowKit
set_option linter.unusedVariables false
set_option linter.unusedSimpArgs false
set_option maxRecDepth 10000

/-- How many of the first k have the part p. -/
def ownP (l : List InstT) (p : Nat) : Nat → Nat
  | 0 => 0
  | k + 1 => ownP l p k + (if partI (nthI l k) = p then 1 else 0)
theorem cnt_own (l : List InstT) (p : Nat) : ∀ k, cntP l (p + 1) k = cntP l p k + ownP l p k
  | 0 => rfl
  | k + 1 => by
    rw [cntP, cntP, ownP, cnt_own l p k]
    by_cases h1 : partI (nthI l k) < p
    · rw [if_pos (by omega), if_pos h1, if_neg (by omega)]; omega
    · by_cases h2 : partI (nthI l k) = p
      · rw [if_pos (by omega), if_neg h1, if_pos h2]; omega
      · rw [if_neg (by omega), if_neg h1, if_neg h2]; omega
theorem ownP_le (l : List InstT) (p : Nat) : ∀ k, ownP l p k ≤ k
  | 0 => Nat.le_refl _
  | k + 1 => by have := ownP_le l p k; rw [ownP]; split <;> omega
/-- The places of the first parts. -/
def spanTo (l : List InstT) (n k i : Nat) : Int := if i < 2 * k then cntP l ((i + 1) / 2) n else 0
/-- The box of the places. -/
def SpanB (W : World) (B : Nat) (f : Nat → Int) : Prop := ∃ cs : Array Value, W.heap[B]? = some (.cells cs 48 (0, 0)) ∧ cs.size = 20 ∧ ∀ i, i < 20 → cs[i]? = some (.int .i64 (f i))
theorem SpanB.lt {W : World} {B : Nat} {f : Nat → Int} (h : SpanB W B f) : B < W.heap.size := by obtain ⟨cs, h1, _⟩ := h; exact (Array.getElem?_eq_some_iff.1 h1).1
theorem SpanB.cell {W : World} {B : Nat} {f : Nat → Int} (h : SpanB W B f) (i : Nat) (hi : i < 20) : W.cell? ⟨B, i, none⟩ = some (.int .i64 (f i)) ∧ W.frozen? ⟨B, i, none⟩ = false := by
  obtain ⟨cs, h1, _, h3⟩ := h
  exact ⟨by simp only [World.cell?, h1]; exact h3 i hi, by simp [World.frozen?, h1]⟩
theorem SpanB.set {W : World} {B : Nat} {f : Nat → Int} (h : SpanB W B f) (i : Nat) (x : Int) : SpanB (W.setCell ⟨B, i, none⟩ (.int .i64 x)) B (fun j => if j = i then x else f j) := by
  obtain ⟨cs, h1, h2, h3⟩ := h
  refine ⟨cs.setIfInBounds i (.int .i64 x), by simp [World.setCell, Array.getElem?_modify, h1], by simp [h2], fun j hj => ?_⟩
  by_cases e : j = i
  · subst e; rw [Array.getElem?_setIfInBounds_self_of_lt (by omega)]; simp
  · rw [Array.getElem?_setIfInBounds_ne (fun e2 => e e2.symm), h3 j hj]; simp [e]
theorem SpanB.block {W W' : World} {B : Nat} {f : Nat → Int} (h : SpanB W B f) (hb : W'.heap[B]? = W.heap[B]?) : SpanB W' B f := by
  obtain ⟨cs, h1, h2⟩ := h; exact ⟨cs, hb.trans h1, h2⟩
theorem SpanB.congr {W : World} {B : Nat} {f g : Nat → Int} (h : SpanB W B f) (hfg : ∀ i, i < 20 → g i = f i) : SpanB W B g := by
  obtain ⟨cs, h1, h2, h3⟩ := h; exact ⟨cs, h1, h2, fun i hi => by rw [hfg i hi]; exact h3 i hi⟩
theorem SpanB.row {W : World} {B : Nat} {f : Nat → Int} (h : SpanB W B f) : W.heap[B]? = some (.cells #[.int .i64 (f 0), .int .i64 (f 1), .int .i64 (f 2), .int .i64 (f 3), .int .i64 (f 4), .int .i64 (f 5), .int .i64 (f 6), .int .i64 (f 7), .int .i64 (f 8), .int .i64 (f 9), .int .i64 (f 10), .int .i64 (f 11), .int .i64 (f 12), .int .i64 (f 13), .int .i64 (f 14), .int .i64 (f 15), .int .i64 (f 16), .int .i64 (f 17), .int .i64 (f 18), .int .i64 (f 19)] 48 (0, 0)) := by
  obtain ⟨cs, h1, h2, h3⟩ := h
  have e : cs = #[.int .i64 (f 0), .int .i64 (f 1), .int .i64 (f 2), .int .i64 (f 3), .int .i64 (f 4), .int .i64 (f 5), .int .i64 (f 6), .int .i64 (f 7), .int .i64 (f 8), .int .i64 (f 9), .int .i64 (f 10), .int .i64 (f 11), .int .i64 (f 12), .int .i64 (f 13), .int .i64 (f 14), .int .i64 (f 15), .int .i64 (f 16), .int .i64 (f 17), .int .i64 (f 18), .int .i64 (f 19)] := by
    apply Array.ext_getElem?
    intro i
    match i with
    | 0 => exact h3 0 (by omega)
    | 1 => exact h3 1 (by omega)
    | 2 => exact h3 2 (by omega)
    | 3 => exact h3 3 (by omega)
    | 4 => exact h3 4 (by omega)
    | 5 => exact h3 5 (by omega)
    | 6 => exact h3 6 (by omega)
    | 7 => exact h3 7 (by omega)
    | 8 => exact h3 8 (by omega)
    | 9 => exact h3 9 (by omega)
    | 10 => exact h3 10 (by omega)
    | 11 => exact h3 11 (by omega)
    | 12 => exact h3 12 (by omega)
    | 13 => exact h3 13 (by omega)
    | 14 => exact h3 14 (by omega)
    | 15 => exact h3 15 (by omega)
    | 16 => exact h3 16 (by omega)
    | 17 => exact h3 17 (by omega)
    | 18 => exact h3 18 (by omega)
    | 19 => exact h3 19 (by omega)
    | m + 20 => rw [Array.getElem?_eq_none (by omega), Array.getElem?_eq_none (by simp)]
  rw [h1, e]
theorem span_next (l : List InstT) (n k i : Nat) : spanTo l n (k + 1) i = if i = k * 2 + 1 then ((cntP l k n + ownP l k n : Nat) : Int) else if i = k * 2 then ((cntP l k n : Nat) : Int) else spanTo l n k i := by
  unfold spanTo
  by_cases e1 : i = k * 2 + 1
  · subst e1; rw [if_pos (by omega), if_pos rfl, show (k * 2 + 1 + 1) / 2 = k + 1 by omega, cnt_own]
  · by_cases e2 : i = k * 2
    · subst e2; rw [if_pos (by omega), if_neg e1, if_pos rfl, show (k * 2 + 1) / 2 = k by omega]
    · rw [if_neg e1, if_neg e2]
      by_cases h : i < 2 * k
      · rw [if_pos (by omega), if_pos h]
      · rw [if_neg (by omega), if_neg h]

end Go.Proofs.Ytcckepjpehjijaa

/-
  A module in order is its parts, its functions and their blocks, one behind the other: in plain mathematics.
-/
namespace Go.Proofs.Ytcckepjpehjijaa
open Go.RowKit
set_option linter.unusedVariables false
set_option linter.unusedSimpArgs false

/-- Blocks, one behind the other. -/
def blkC (l : List InstT) : Nat → List (Int × Int × Int) → Nat → Prop
  | s, [], e => s = e
  | s, b :: bs, e => b.2.1 = (s : Int) ∧ (nthI l s).2.2.1 = b.1 ∧ ∃ t : Nat, b.2.2 = (t : Int) ∧ s + 1 < t ∧ endsB (nthI l (t - 1)).1 = true ∧ blkC l t bs e
/-- Functions, one behind the other. -/
def fnC (l : List InstT) : Nat → List FuncT → Nat → Prop
  | s, [], e => s = e
  | s, f :: fs, e => f.2.1 = (s : Int) ∧ (nthI l s).2.2.1 = f.1 ∧ f.2.2.2.1 ≠ [] ∧ ∃ t : Nat, f.2.2.2.2 = (t : Int) ∧ blkC l (s + 1 + f.2.2.1.length) f.2.2.2.1 t ∧ fnC l (t + 1) fs e
theorem blkC_le {l : List InstT} : ∀ {bs : List (Int × Int × Int)} {s e : Nat}, blkC l s bs e → s ≤ e
  | [], s, e, h => Nat.le_of_eq h
  | b :: bs, s, e, h => by obtain ⟨_, _, t, _, h1, _, h2⟩ := h; have := blkC_le h2; omega
theorem fnC_le {l : List InstT} : ∀ {fs : List FuncT} {s e : Nat}, fnC l s fs e → s ≤ e
  | [], s, e, h => Nat.le_of_eq h
  | f :: fs, s, e, h => by obtain ⟨_, _, _, t, _, h1, h2⟩ := h; have := fnC_le h2; have := blkC_le h1; omega
theorem blkC_snoc {l : List InstT} {b : Int × Int × Int} {q t : Nat} (h1 : b.2.1 = (q : Int)) (h2 : (nthI l q).2.2.1 = b.1) (h3 : b.2.2 = (t : Int)) (h4 : q + 1 < t) (h5 : endsB (nthI l (t - 1)).1 = true) : ∀ {bs : List (Int × Int × Int)} {s : Nat}, blkC l s bs q → blkC l s (bs ++ [b]) t
  | [], s, h => by cases h; exact ⟨h1, h2, t, h3, h4, h5, rfl⟩
  | c :: bs, s, h => by obtain ⟨a1, a2, u, a3, a4, a5, a6⟩ := h; exact ⟨a1, a2, u, a3, a4, a5, blkC_snoc h1 h2 h3 h4 h5 a6⟩
theorem fnC_snoc {l : List InstT} {f : FuncT} {q t : Nat} (h1 : f.2.1 = (q : Int)) (h2 : (nthI l q).2.2.1 = f.1) (h3 : f.2.2.2.1 ≠ []) (h4 : f.2.2.2.2 = (t : Int)) (h5 : blkC l (q + 1 + f.2.2.1.length) f.2.2.2.1 t) : ∀ {fs : List FuncT} {s : Nat}, fnC l s fs q → fnC l s (fs ++ [f]) (t + 1)
  | [], s, h => by cases h; exact ⟨h1, h2, h3, t, h4, h5, rfl⟩
  | c :: fs, s, h => by obtain ⟨a1, a2, a3, u, a4, a5, a6⟩ := h; exact ⟨a1, a2, a3, u, a4, a5, fnC_snoc h1 h2 h3 h4 h5 a6⟩
/-- What has been cut at a place among the functions that begin at K. -/
def Whole (l : List InstT) (K k : Nat) : Prop :=
  (aheadO l k = 0 ∧ k = K ∧ cutTo l k = []) ∨ (aheadO l k = 56 ∧ fnC l K (cutTo l k) k) ∨
  (∃ (fs : List FuncT) (f : FuncT) (s : Nat), cutTo l k = fs ++ [f] ∧ fnC l K fs s ∧ f.2.1 = (s : Int) ∧ (nthI l s).2.2.1 = f.1 ∧
    (((aheadO l k = 54 ∨ aheadO l k = 55) ∧ f.2.2.2.1 = [] ∧ k = s + 1 + f.2.2.1.length) ∨
     (endsB (aheadO l k) = true ∧ f.2.2.2.1 ≠ [] ∧ blkC l (s + 1 + f.2.2.1.length) f.2.2.2.1 k) ∨
     ((aheadO l k ≠ 0 ∧ aheadO l k ≠ 54 ∧ aheadO l k ≠ 55 ∧ aheadO l k ≠ 56 ∧ endsB (aheadO l k) = false) ∧ ∃ (bs : List (Int × Int × Int)) (b : Int × Int × Int) (q : Nat), f.2.2.2.1 = bs ++ [b] ∧ blkC l (s + 1 + f.2.2.1.length) bs q ∧ b.2.1 = (q : Int) ∧ (nthI l q).2.2.1 = b.1 ∧ q < k)))
theorem Whole.step {l : List InstT} {K k : Nat} (h : Whole l K k) (h8 : partI (nthI l k) = 8) (hm : mayF (nthI l k).1 (aheadO l k) (firstB l (k - 1)) = true) : Whole l K (k + 1) := by
  have ha : aheadO l (k + 1) = (nthI l k).1 := by unfold aheadO; rw [if_pos ⟨by omega, by rw [Nat.add_sub_cancel]; exact h8⟩, Nat.add_sub_cancel]
  have hne := op_ne_zero h8
  by_cases h54 : (nthI l k).1 = 54
  · have hc : cutTo l (k + 1) = cutTo l k ++ [((nthI l k).2.2.1, (k : Int), [], [], 0)] := by rw [cutTo]; unfold stepC; rw [if_pos h54]
    have h056 : aheadO l k = 0 ∨ aheadO l k = 56 := by rw [h54] at hm; unfold mayF at hm; simpa using hm
    have hf : fnC l K (cutTo l k) k := by
      rcases h with ⟨_, h1, h2⟩ | ⟨_, h1⟩ | ⟨fs, f, s, _, _, _, _, h1⟩
      · rw [h2]; exact h1.symm
      · exact h1
      · rcases h1 with ⟨h2, _⟩ | ⟨h2, _⟩ | ⟨h2, _⟩
        · omega
        · have := endsB_iff.1 h2; omega
        · omega
    exact .inr (.inr ⟨_, _, k, hc, hf, rfl, rfl, .inl ⟨.inl (ha.trans h54), rfl, rfl⟩⟩)
  · by_cases h55 : (nthI l k).1 = 55
    · have hah : aheadO l k = 54 ∨ aheadO l k = 55 := by rw [h55] at hm; unfold mayF at hm; simpa using hm
      rcases h with ⟨h1, _⟩ | ⟨h1, _⟩ | ⟨fs, f, s, c1, c2, c3, c4, h1⟩
      · omega
      · omega
      · have hc : cutTo l (k + 1) = fs ++ [withParam k f] := by rw [cutTo]; unfold stepC; rw [if_neg h54, if_pos h55, c1, onLast_snoc]
        rcases h1 with ⟨_, h2, h3⟩ | ⟨h2, _⟩ | ⟨h2, _⟩
        · refine .inr (.inr ⟨fs, _, s, hc, c2, c3, c4, .inl ⟨.inr (ha.trans h55), h2, ?_⟩⟩)
          simp [withParam]; omega
        · have := endsB_iff.1 h2; omega
        · omega
    · by_cases h56 : (nthI l k).1 = 56
      · have hah : endsB (aheadO l k) = true := by rw [h56] at hm; unfold mayF at hm; simpa using hm
        have hr := endsB_iff.1 hah
        rcases h with ⟨h1, _⟩ | ⟨h1, _⟩ | ⟨fs, f, s, c1, c2, c3, c4, h1⟩
        · omega
        · omega
        · have hc : cutTo l (k + 1) = fs ++ [withEnd k f] := by rw [cutTo]; unfold stepC; rw [if_neg h54, if_neg h55, if_pos h56, c1, onLast_snoc]
          rcases h1 with ⟨h2, _⟩ | ⟨_, h2, h3⟩ | ⟨h2, _⟩
          · omega
          · refine .inr (.inl ⟨ha.trans h56, ?_⟩)
            rw [hc]
            exact fnC_snoc (f := withEnd k f) c3 c4 h2 rfl h3 c2
          · rw [h2.2.2.2.2] at hah; cases hah
      · by_cases h248 : (nthI l k).1 = 248
        · have hah : aheadO l k = 54 ∨ aheadO l k = 55 ∨ endsB (aheadO l k) = true := by
            rw [h248] at hm; unfold mayF at hm; simpa [or_assoc] using hm
          rcases h with ⟨h1, _⟩ | ⟨h1, _⟩ | ⟨fs, f, s, c1, c2, c3, c4, h1⟩
          · rw [h1] at hah; simp [endsB] at hah
          · rw [h1] at hah; simp [endsB] at hah
          · have hc : cutTo l (k + 1) = fs ++ [withBlock (nthI l k).2.2.1 k f] := by rw [cutTo]; unfold stepC; rw [if_neg h54, if_neg h55, if_neg h56, if_pos h248, c1, onLast_snoc]
            have hin : aheadO l (k + 1) ≠ 0 ∧ aheadO l (k + 1) ≠ 54 ∧ aheadO l (k + 1) ≠ 55 ∧ aheadO l (k + 1) ≠ 56 ∧ endsB (aheadO l (k + 1)) = false := by
              rw [ha, h248]; decide
            have hb : blkC l (s + 1 + f.2.2.1.length) f.2.2.2.1 k := by
              rcases h1 with ⟨_, h2, h3⟩ | ⟨_, _, h3⟩ | ⟨h2, _⟩
              · rw [h2]; exact h3.symm
              · exact h3
              · rcases hah with e | e | e
                · exact absurd e h2.2.1
                · exact absurd e h2.2.2.1
                · rw [h2.2.2.2.2] at e; cases e
            exact .inr (.inr ⟨fs, _, s, hc, c2, c3, c4, .inr (.inr ⟨hin, f.2.2.2.1, ((nthI l k).2.2.1, (k : Int), 0), k, rfl, hb, rfl, rfl, by omega⟩)⟩)
        · have hno : ¬ (aheadO l k == 0 || aheadO l k == 54 || aheadO l k == 55 || aheadO l k == 56 || endsB (aheadO l k)) = true := by
            intro e
            unfold mayF at hm
            rw [if_neg h54, if_neg h55, if_neg h248, if_neg h56, if_pos e] at hm
            cases hm
          simp only [Bool.or_eq_true, beq_iff_eq, not_or] at hno
          rcases h with ⟨h1, _⟩ | ⟨h1, _⟩ | ⟨fs, f, s, c1, c2, c3, c4, h1⟩
          · exact absurd h1 hno.1.1.1.1
          · exact absurd h1 hno.1.2
          · rcases h1 with ⟨h2, _⟩ | ⟨h2, _⟩ | ⟨_, bs, b, q, d1, d2, d3, d4, d5⟩
            · rcases h2 with h2 | h2
              · exact absurd h2 hno.1.1.1.2
              · exact absurd h2 hno.1.1.2
            · exact absurd h2 hno.2
            · cases he : endsB (nthI l k).1 with
              | true =>
                have hc : cutTo l (k + 1) = fs ++ [withTo ((k + 1 : Nat) : Int) f] := by rw [cutTo]; unfold stepC; rw [if_neg h54, if_neg h55, if_neg h56, if_neg h248, he, if_pos rfl, c1, onLast_snoc]
                refine .inr (.inr ⟨fs, _, s, hc, c2, c3, c4, .inr (.inl ⟨by rw [ha]; exact he, ?_, ?_⟩)⟩)
                · simp only [withTo]; rw [d1, endLast_snoc]; simp
                · simp only [withTo]; rw [d1, endLast_snoc]
                  exact blkC_snoc (b := (b.1, b.2.1, ((k + 1 : Nat) : Int))) d3 d4 rfl (by omega) (by rw [Nat.add_sub_cancel]; exact he) d2
              | false =>
                have hc : cutTo l (k + 1) = fs ++ [f] := by rw [cutTo, stepC_other h54 h55 h56 h248 he, c1]
                exact .inr (.inr ⟨fs, f, s, hc, c2, c3, c4, .inr (.inr ⟨by rw [ha]; exact ⟨hne, h54, h55, h56, he⟩, bs, b, q, d1, d2, d3, d4, by omega⟩)⟩)
theorem layE_closed {b : Int} {l : List InstT} (h : (layE b l).1 = 0) : okTo l l.length ∧ modelsN l l.length ≠ 0 ∧ (aheadO l l.length = 0 ∨ aheadO l l.length = 56) := by
  unfold layE at h
  by_cases h1 : (shapeE b l).1 = 0
  · rw [if_neg (by simpa using h1)] at h
    have key : ∀ m k, k + m = l.length → okTo l k → (layF l m k).1 = 0 → okTo l l.length ∧ openE l = false := by
      intro m
      induction m with
      | zero =>
        intro k hk hok h0
        rw [layF] at h0
        cases hO : openE l with
        | true => rw [hO] at h0; simp at h0
        | false => rw [show l.length = k by omega]; exact ⟨hok, rfl⟩
      | succ m ih =>
        intro k hk hok h0
        rw [layF] at h0
        cases hm : mayL l k with
        | false => rw [hm] at h0; simp at h0
        | true => rw [hm, if_pos rfl] at h0; exact ih (k + 1) (by omega) (hok.snoc hm) h0
    obtain ⟨q1, q2⟩ := key l.length 0 (by omega) (okTo_zero l) h
    unfold openE at q2
    simp only [Bool.or_eq_false_iff, decide_eq_false_iff_not] at q2
    refine ⟨q1, q2.1, ?_⟩
    by_cases e : aheadO l l.length = 0
    · exact .inl e
    · by_cases e2 : aheadO l l.length = 56
      · exact .inr e2
      · exact absurd ⟨e, e2⟩ q2.2
  · rw [if_pos h1] at h; exact absurd h h1
theorem sorted9 {l : List InstT} {n i j : Nat} (h : okTo l n) (hij : i ≤ j) (hj : j < n) : partI (nthI l i) ≤ partI (nthI l j) := by
  by_cases e : i = j
  · rw [e]; exact Int.le_refl _
  · have hm := h j hj
    rcases Int.lt_or_le (partI (nthI l j)) (partI (nthI l i)) with h1 | h1
    · rw [mayL_over (by omega) h1] at hm; cases hm
    · exact h1
theorem cnt_low {l : List InstT} {p : Nat} : ∀ {n k : Nat}, okTo l n → k < cntP l p n → k < n ∧ partI (nthI l k) < p
  | 0, k, _, h => by rw [cntP] at h; omega
  | n + 1, k, hok, h => by
    have hle := cntP_le l p n
    rw [cntP] at h
    split at h
    · next hp =>
      by_cases e : k = n
      · subst e; exact ⟨by omega, hp⟩
      · by_cases e2 : k < n
        · exact ⟨by omega, by have := sorted9 hok (show k ≤ n by omega) (by omega); omega⟩
        · omega
    · rw [Nat.add_zero] at h
      have := cnt_low (n := n) (fun i hi => hok i (by omega)) h; omega
theorem cnt_high {l : List InstT} {p : Nat} : ∀ {n k : Nat}, okTo l n → cntP l p n ≤ k → k < n → (p : Int) ≤ partI (nthI l k)
  | 0, k, _, _, h => by omega
  | n + 1, k, hok, h, hk => by
    rcases Int.lt_or_le (partI (nthI l k)) p with h1 | h1
    · have all : ∀ i, i < k + 1 → partI (nthI l i) < p := fun i hi => by have := sorted9 hok (show i ≤ k by omega) hk; omega
      have h2 := cntP_all all
      have mono : ∀ m, k + 1 ≤ m → cntP l p (k + 1) ≤ cntP l p m := by
        intro m
        induction m with
        | zero => intro h; omega
        | succ m ih => intro hm; by_cases e : k = m
                       · subst e; exact Nat.le_refl _
                       · exact Nat.le_trans (ih (by omega)) (Nat.le_add_right _ _)
      have := mono (n + 1) (by omega)
      omega
    · exact h1
/-- The functions of a module in order. -/
theorem whole_cut {b : Int} {l : List InstT} (h : (layE b l).1 = 0) : fnC l (cntP l 8 l.length) (cutTo l l.length) l.length := by
  obtain ⟨hok, hmo, hah⟩ := layE_closed h
  have hK := cntP_le l 8 l.length
  have hlow : ∀ i, i < cntP l 8 l.length → partI (nthI l i) < 8 := fun i hi => (cnt_low hok hi).2
  have start : Whole l (cntP l 8 l.length) (cntP l 8 l.length) := by
    refine .inl ⟨?_, rfl, cutTo_front hlow⟩
    unfold aheadO
    rw [if_neg (fun e => by have := hlow (cntP l 8 l.length - 1) (by omega); omega)]
  have all : ∀ d, cntP l 8 l.length + d ≤ l.length → Whole l (cntP l 8 l.length) (cntP l 8 l.length + d) := by
    intro d
    induction d with
    | zero => intro _; exact start
    | succ d ih =>
      intro hd
      have h1 := ih (by omega)
      have h8 : partI (nthI l (cntP l 8 l.length + d)) = 8 := by
        have := cnt_high (p := 8) hok (show cntP l 8 l.length ≤ cntP l 8 l.length + d by omega) (by omega)
        have := partI_eight (nthI l (cntP l 8 l.length + d))
        omega
      have hmay := hok (cntP l 8 l.length + d) (by omega)
      have hmo2 : modelsN l (cntP l 8 l.length + d) ≠ 0 := fun e => by rw [mayL_noModel (by omega) e] at hmay; cases hmay
      rw [mayL_eight h8 (fun i _ => (partI_eight _).2) hmo2] at hmay
      exact h1.step h8 hmay
  have hend := all (l.length - cntP l 8 l.length) (by omega)
  rw [show cntP l 8 l.length + (l.length - cntP l 8 l.length) = l.length by omega] at hend
  rcases hend with ⟨_, h1, h2⟩ | ⟨_, h1⟩ | ⟨fs, f, s, _, _, _, _, h1⟩
  · rw [h2]; exact h1.symm
  · exact h1
  · rcases h1 with ⟨h2, _⟩ | ⟨h2, _⟩ | ⟨h2, _⟩
    · omega
    · have := endsB_iff.1 h2; omega
    · omega
/-- The parts of a module in order. -/
theorem one_model {l : List InstT} : ∀ {n : Nat}, okTo l n → modelsN l n ≤ 1
  | 0, _ => by simp [modelsN]
  | n + 1, h => by
    have ih := one_model (n := n) (fun i hi => h i (by omega))
    rw [modelsN]
    split
    · next h1 =>
      have hm := h n (by omega)
      by_cases e : modelsN l n = 0
      · omega
      · rw [mayL_twoModels h1 e] at hm; cases hm
    · omega
theorem own_models (l : List InstT) : ∀ n, ownP l 1 n = modelsN l n
  | 0 => rfl
  | n + 1 => by rw [ownP, modelsN, own_models l n]; rfl
theorem whole_model {b : Int} {l : List InstT} (h : (layE b l).1 = 0) : cntP l 2 l.length = cntP l 1 l.length + 1 := by
  obtain ⟨hok, hmo, _⟩ := layE_closed h
  have := one_model hok
  rw [cnt_own l 1, own_models]
  omega
theorem cntP_zero (l : List InstT) : ∀ n, cntP l 0 n = 0
  | 0 => rfl
  | n + 1 => by rw [cntP, cntP_zero l n, if_neg (by have := partI_eight (nthI l n); omega)]
theorem cntP_mono (l : List InstT) (p n : Nat) : cntP l p n ≤ cntP l (p + 1) n := by rw [cnt_own]; omega
theorem cntP_top (l : List InstT) (p : Nat) (hp : 9 ≤ p) (n : Nat) : cntP l p n = n := cntP_all fun i _ => by have := partI_eight (nthI l i); omega
end Go.Proofs.Ytcckepjpehjijaa

/-
  What has been cut at a place of a module in order: where a function, and a block, must be open.
-/
namespace Go.Proofs.Ytcckepjpehjijaa
open Go.RowKit
set_option linter.unusedVariables false
set_option linter.unusedSimpArgs false

theorem whole_at {b : Int} {l : List InstT} (h : (layE b l).1 = 0) : ∀ d, cntP l 8 l.length + d ≤ l.length → Whole l (cntP l 8 l.length) (cntP l 8 l.length + d) := by
  obtain ⟨hok, hmo, hah⟩ := layE_closed h
  have hK := cntP_le l 8 l.length
  have hlow : ∀ i, i < cntP l 8 l.length → partI (nthI l i) < 8 := fun i hi => (cnt_low hok hi).2
  have start : Whole l (cntP l 8 l.length) (cntP l 8 l.length) := by
    refine .inl ⟨?_, rfl, cutTo_front hlow⟩
    unfold aheadO
    rw [if_neg (fun e => by have := hlow (cntP l 8 l.length - 1) (by omega); omega)]
  intro d
  induction d with
  | zero => intro _; exact start
  | succ d ih =>
    intro hd
    have h1 := ih (by omega)
    have h8 : partI (nthI l (cntP l 8 l.length + d)) = 8 := by
      have := cnt_high (p := 8) hok (show cntP l 8 l.length ≤ cntP l 8 l.length + d by omega) (by omega)
      have := partI_eight (nthI l (cntP l 8 l.length + d))
      omega
    have hmay := hok (cntP l 8 l.length + d) (by omega)
    have hmo2 : modelsN l (cntP l 8 l.length + d) ≠ 0 := fun e => by rw [mayL_noModel (by omega) e] at hmay; cases hmay
    rw [mayL_eight h8 (fun i _ => (partI_eight _).2) hmo2] at hmay
    exact h1.step h8 hmay
theorem whole_here {b : Int} {l : List InstT} (h : (layE b l).1 = 0) {k : Nat} (hk : k < l.length) (h8 : partI (nthI l k) = 8) : Whole l (cntP l 8 l.length) k ∧ mayF (nthI l k).1 (aheadO l k) (firstB l (k - 1)) = true := by
  obtain ⟨hok, hmo, hah⟩ := layE_closed h
  have hK : cntP l 8 l.length ≤ k := by
    rcases Nat.lt_or_ge k (cntP l 8 l.length) with e | e
    · have := (cnt_low hok e).2; omega
    · exact e
  have hW := whole_at h (k - cntP l 8 l.length) (by omega)
  rw [show cntP l 8 l.length + (k - cntP l 8 l.length) = k by omega] at hW
  refine ⟨hW, ?_⟩
  have hmay := hok k hk
  have hmo2 : modelsN l k ≠ 0 := fun e => by rw [mayL_noModel (by omega) e] at hmay; cases hmay
  rw [mayL_eight h8 (fun i _ => (partI_eight _).2) hmo2] at hmay
  exact hmay
/-- A function is open where a parameter, a block, an end stand; and a block, where one ends. -/
theorem cut_open {b : Int} {l : List InstT} (h : (layE b l).1 = 0) {k : Nat} (hk : k < l.length) (ho : (nthI l k).1 = 55 ∨ (nthI l k).1 = 56 ∨ (nthI l k).1 = 248 ∨ endsB (nthI l k).1 = true) :
    ∃ fs f, cutTo l k = fs ++ [f] ∧ (endsB (nthI l k).1 = true → ∃ bs b', f.2.2.2.1 = bs ++ [b']) := by
  obtain ⟨hW, hm⟩ := whole_here h hk (part_of_function (.inr ho))
  have third : (aheadO l k = 54 ∨ aheadO l k = 55 ∨ endsB (aheadO l k) = true ∨ (aheadO l k ≠ 0 ∧ aheadO l k ≠ 56)) → (endsB (nthI l k).1 = true → aheadO l k ≠ 0 ∧ aheadO l k ≠ 54 ∧ aheadO l k ≠ 55 ∧ aheadO l k ≠ 56 ∧ endsB (aheadO l k) = false) → ∃ fs f, cutTo l k = fs ++ [f] ∧ (endsB (nthI l k).1 = true → ∃ bs b', f.2.2.2.1 = bs ++ [b']) := by
    intro ha he
    rcases hW with ⟨h1, _⟩ | ⟨h1, _⟩ | ⟨fs, f, s, c1, c2, c3, c4, h1⟩
    · rw [h1] at ha; simp [endsB] at ha
    · rw [h1] at ha; simp [endsB] at ha
    · refine ⟨fs, f, c1, fun e => ?_⟩
      have h2 := he e
      rcases h1 with ⟨h3, _⟩ | ⟨h3, _⟩ | ⟨_, bs, b', q, d1, _⟩
      · rcases h3 with h3 | h3
        · exact absurd h3 h2.2.1
        · exact absurd h3 h2.2.2.1
      · rw [h2.2.2.2.2] at h3; cases h3
      · exact ⟨bs, b', d1⟩
  rcases ho with ho | ho | ho | ho
  · rw [ho] at hm
    have : aheadO l k = 54 ∨ aheadO l k = 55 := by unfold mayF at hm; simpa using hm
    exact third (this.elim .inl fun e => .inr (.inl e)) (fun e => by rw [ho] at e; cases e)
  · rw [ho] at hm
    have : endsB (aheadO l k) = true := by unfold mayF at hm; simpa using hm
    exact third (.inr (.inr (.inl this))) (fun e => by rw [ho] at e; cases e)
  · rw [ho] at hm
    have : aheadO l k = 54 ∨ aheadO l k = 55 ∨ endsB (aheadO l k) = true := by unfold mayF at hm; simpa [or_assoc] using hm
    exact third (this.elim .inl fun e => .inr (e.elim .inl fun e => .inr (.inl e))) (fun e => by rw [ho] at e; cases e)
  · have hr := endsB_iff.1 ho
    have hno : ¬ (aheadO l k == 0 || aheadO l k == 54 || aheadO l k == 55 || aheadO l k == 56 || endsB (aheadO l k)) = true := by
      intro e
      unfold mayF at hm
      rw [if_neg (by omega), if_neg (by omega), if_neg (by omega), if_neg (by omega), if_pos e] at hm
      cases hm
    simp only [Bool.or_eq_true, beq_iff_eq, not_or, Bool.not_eq_true] at hno
    exact third (.inr (.inr (.inr ⟨hno.1.1.1.1, hno.1.2⟩))) (fun _ => ⟨hno.1.1.1.1, hno.1.1.1.2, hno.1.1.2, hno.1.2, hno.2⟩)
theorem cut_54 {l : List InstT} {k : Nat} (h : (nthI l k).1 = 54) : cutTo l (k + 1) = cutTo l k ++ [((nthI l k).2.2.1, (k : Int), [], [], 0)] := by rw [cutTo]; unfold stepC; rw [if_pos h]
theorem cut_55 {l : List InstT} {k : Nat} {fs : List FuncT} {f : FuncT} (h : (nthI l k).1 = 55) (hc : cutTo l k = fs ++ [f]) : cutTo l (k + 1) = fs ++ [withParam k f] := by rw [cutTo]; unfold stepC; rw [if_neg (by omega), if_pos h, hc, onLast_snoc]
theorem cut_56 {l : List InstT} {k : Nat} {fs : List FuncT} {f : FuncT} (h : (nthI l k).1 = 56) (hc : cutTo l k = fs ++ [f]) : cutTo l (k + 1) = fs ++ [withEnd k f] := by rw [cutTo]; unfold stepC; rw [if_neg (by omega), if_neg (by omega), if_pos h, hc, onLast_snoc]
theorem cut_248 {l : List InstT} {k : Nat} {fs : List FuncT} {f : FuncT} (h : (nthI l k).1 = 248) (hc : cutTo l k = fs ++ [f]) : cutTo l (k + 1) = fs ++ [withBlock (nthI l k).2.2.1 k f] := by rw [cutTo]; unfold stepC; rw [if_neg (by omega), if_neg (by omega), if_neg (by omega), if_pos h, hc, onLast_snoc]
theorem cut_end {l : List InstT} {k : Nat} {fs : List FuncT} {f : FuncT} (h : endsB (nthI l k).1 = true) (hc : cutTo l k = fs ++ [f]) : cutTo l (k + 1) = fs ++ [withTo ((k + 1 : Nat) : Int) f] := by
  have hr := endsB_iff.1 h
  rw [cutTo]; unfold stepC; rw [if_neg (by omega), if_neg (by omega), if_neg (by omega), if_neg (by omega), h, if_pos rfl, hc, onLast_snoc]
theorem cut_none {l : List InstT} {k : Nat} (h1 : (nthI l k).1 ≠ 54) (h2 : (nthI l k).1 ≠ 55) (h3 : (nthI l k).1 ≠ 56) (h4 : (nthI l k).1 ≠ 248) (h5 : endsB (nthI l k).1 = false) : cutTo l (k + 1) = cutTo l k := by rw [cutTo, stepC_other h1 h2 h3 h4 h5]
end Go.Proofs.Ytcckepjpehjijaa
