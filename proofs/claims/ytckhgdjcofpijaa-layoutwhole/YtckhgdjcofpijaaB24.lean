/-
  Texts laid together in one: MathWh, LawLayoutWhole.
-/
import Derived.WalkSpells
import Derived.Test.YtckhgdjcofpijaaB11
import Derived.Test.YtckhgdjcofpijaaB16
import Derived.Test.YtckhgdjcofpijaaB23
import Derived.WalkMore
import Derived.BigRegion
import Derived.Deep.MidRow
import Derived.Test.YtckhgdjcofpijaaProg
import Derived.Test.YtckhgdjcofpijaaB18
import Derived.Test.YtckhgdjcofpijaaB19
import Derived.Test.YtckhgdjcofpijaaB09
/-
  A module in order is its parts, its functions and their blocks, one behind the other: in plain mathematics.
-/
namespace Go.Proofs.Ytckhgdjcofpijaa
open Go.RowKit
set_option linter.unusedVariables false
set_option linter.unusedSimpArgs false

/-- Blocks, one behind the other. -/
def blkC (l : List InstT) : Nat → List (Int × Int × Int) → Nat → Prop
  | s, [], e => s = e
  | s, b :: bs, e => b.2.1 = (s : Int) ∧ (nthI l s).2.2.1 = b.1 ∧ ∃ t : Nat, b.2.2 = (t : Int) ∧ s + 1 < t ∧ endsB (nthI l (t - 1)).1 = true ∧ blkC l t bs e
/-- Functions, one behind the other. -/
def fnC (l : List InstT) : Nat → List FuncT → Nat → Prop
  | s, [], e => s = e
  | s, f :: fs, e => f.2.1 = (s : Int) ∧ (nthI l s).2.2.1 = f.1 ∧ f.2.2.2.1 ≠ [] ∧ ∃ t : Nat, f.2.2.2.2 = (t : Int) ∧ blkC l (s + 1 + f.2.2.1.length) f.2.2.2.1 t ∧ fnC l (t + 1) fs e
theorem blkC_le {l : List InstT} : ∀ {bs : List (Int × Int × Int)} {s e : Nat}, blkC l s bs e → s ≤ e
  | [], s, e, h => Nat.le_of_eq h
  | b :: bs, s, e, h => by obtain ⟨_, _, t, _, h1, _, h2⟩ := h; have := blkC_le h2; omega
theorem fnC_le {l : List InstT} : ∀ {fs : List FuncT} {s e : Nat}, fnC l s fs e → s ≤ e
  | [], s, e, h => Nat.le_of_eq h
  | f :: fs, s, e, h => by obtain ⟨_, _, _, t, _, h1, h2⟩ := h; have := fnC_le h2; have := blkC_le h1; omega
theorem blkC_snoc {l : List InstT} {b : Int × Int × Int} {q t : Nat} (h1 : b.2.1 = (q : Int)) (h2 : (nthI l q).2.2.1 = b.1) (h3 : b.2.2 = (t : Int)) (h4 : q + 1 < t) (h5 : endsB (nthI l (t - 1)).1 = true) : ∀ {bs : List (Int × Int × Int)} {s : Nat}, blkC l s bs q → blkC l s (bs ++ [b]) t
  | [], s, h => by cases h; exact ⟨h1, h2, t, h3, h4, h5, rfl⟩
  | c :: bs, s, h => by obtain ⟨a1, a2, u, a3, a4, a5, a6⟩ := h; exact ⟨a1, a2, u, a3, a4, a5, blkC_snoc h1 h2 h3 h4 h5 a6⟩
theorem fnC_snoc {l : List InstT} {f : FuncT} {q t : Nat} (h1 : f.2.1 = (q : Int)) (h2 : (nthI l q).2.2.1 = f.1) (h3 : f.2.2.2.1 ≠ []) (h4 : f.2.2.2.2 = (t : Int)) (h5 : blkC l (q + 1 + f.2.2.1.length) f.2.2.2.1 t) : ∀ {fs : List FuncT} {s : Nat}, fnC l s fs q → fnC l s (fs ++ [f]) (t + 1)
  | [], s, h => by cases h; exact ⟨h1, h2, h3, t, h4, h5, rfl⟩
  | c :: fs, s, h => by obtain ⟨a1, a2, a3, u, a4, a5, a6⟩ := h; exact ⟨a1, a2, a3, u, a4, a5, fnC_snoc h1 h2 h3 h4 h5 a6⟩
/-- What has been cut at a place among the functions that begin at K. -/
def Whole (l : List InstT) (K k : Nat) : Prop :=
  (aheadO l k = 0 ∧ k = K ∧ cutTo l k = []) ∨ (aheadO l k = 56 ∧ fnC l K (cutTo l k) k) ∨
  (∃ (fs : List FuncT) (f : FuncT) (s : Nat), cutTo l k = fs ++ [f] ∧ fnC l K fs s ∧ f.2.1 = (s : Int) ∧ (nthI l s).2.2.1 = f.1 ∧
    (((aheadO l k = 54 ∨ aheadO l k = 55) ∧ f.2.2.2.1 = [] ∧ k = s + 1 + f.2.2.1.length) ∨
     (endsB (aheadO l k) = true ∧ f.2.2.2.1 ≠ [] ∧ blkC l (s + 1 + f.2.2.1.length) f.2.2.2.1 k) ∨
     ((aheadO l k ≠ 0 ∧ aheadO l k ≠ 54 ∧ aheadO l k ≠ 55 ∧ aheadO l k ≠ 56 ∧ endsB (aheadO l k) = false) ∧ ∃ (bs : List (Int × Int × Int)) (b : Int × Int × Int) (q : Nat), f.2.2.2.1 = bs ++ [b] ∧ blkC l (s + 1 + f.2.2.1.length) bs q ∧ b.2.1 = (q : Int) ∧ (nthI l q).2.2.1 = b.1 ∧ q < k)))
theorem Whole.step {l : List InstT} {K k : Nat} (h : Whole l K k) (h8 : partI (nthI l k) = 8) (hm : mayF (nthI l k).1 (aheadO l k) (firstB l (k - 1)) = true) : Whole l K (k + 1) := by
  have ha : aheadO l (k + 1) = (nthI l k).1 := by unfold aheadO; rw [if_pos ⟨by omega, by rw [Nat.add_sub_cancel]; exact h8⟩, Nat.add_sub_cancel]
  have hne := op_ne_zero h8
  by_cases h54 : (nthI l k).1 = 54
  · have hc : cutTo l (k + 1) = cutTo l k ++ [((nthI l k).2.2.1, (k : Int), [], [], 0)] := by rw [cutTo]; unfold stepC; rw [if_pos h54]
    have h056 : aheadO l k = 0 ∨ aheadO l k = 56 := by rw [h54] at hm; unfold mayF at hm; simpa using hm
    have hf : fnC l K (cutTo l k) k := by
      rcases h with ⟨_, h1, h2⟩ | ⟨_, h1⟩ | ⟨fs, f, s, _, _, _, _, h1⟩
      · rw [h2]; exact h1.symm
      · exact h1
      · rcases h1 with ⟨h2, _⟩ | ⟨h2, _⟩ | ⟨h2, _⟩
        · omega
        · have := endsB_iff.1 h2; omega
        · omega
    exact .inr (.inr ⟨_, _, k, hc, hf, rfl, rfl, .inl ⟨.inl (ha.trans h54), rfl, rfl⟩⟩)
  · by_cases h55 : (nthI l k).1 = 55
    · have hah : aheadO l k = 54 ∨ aheadO l k = 55 := by rw [h55] at hm; unfold mayF at hm; simpa using hm
      rcases h with ⟨h1, _⟩ | ⟨h1, _⟩ | ⟨fs, f, s, c1, c2, c3, c4, h1⟩
      · omega
      · omega
      · have hc : cutTo l (k + 1) = fs ++ [withParam k f] := by rw [cutTo]; unfold stepC; rw [if_neg h54, if_pos h55, c1, onLast_snoc]
        rcases h1 with ⟨_, h2, h3⟩ | ⟨h2, _⟩ | ⟨h2, _⟩
        · refine .inr (.inr ⟨fs, _, s, hc, c2, c3, c4, .inl ⟨.inr (ha.trans h55), h2, ?_⟩⟩)
          simp [withParam]; omega
        · have := endsB_iff.1 h2; omega
        · omega
    · by_cases h56 : (nthI l k).1 = 56
      · have hah : endsB (aheadO l k) = true := by rw [h56] at hm; unfold mayF at hm; simpa using hm
        have hr := endsB_iff.1 hah
        rcases h with ⟨h1, _⟩ | ⟨h1, _⟩ | ⟨fs, f, s, c1, c2, c3, c4, h1⟩
        · omega
        · omega
        · have hc : cutTo l (k + 1) = fs ++ [withEnd k f] := by rw [cutTo]; unfold stepC; rw [if_neg h54, if_neg h55, if_pos h56, c1, onLast_snoc]
          rcases h1 with ⟨h2, _⟩ | ⟨_, h2, h3⟩ | ⟨h2, _⟩
          · omega
          · refine .inr (.inl ⟨ha.trans h56, ?_⟩)
            rw [hc]
            exact fnC_snoc (f := withEnd k f) c3 c4 h2 rfl h3 c2
          · rw [h2.2.2.2.2] at hah; cases hah
      · by_cases h248 : (nthI l k).1 = 248
        · have hah : aheadO l k = 54 ∨ aheadO l k = 55 ∨ endsB (aheadO l k) = true := by
            rw [h248] at hm; unfold mayF at hm; simpa [or_assoc] using hm
          rcases h with ⟨h1, _⟩ | ⟨h1, _⟩ | ⟨fs, f, s, c1, c2, c3, c4, h1⟩
          · rw [h1] at hah; simp [endsB] at hah
          · rw [h1] at hah; simp [endsB] at hah
          · have hc : cutTo l (k + 1) = fs ++ [withBlock (nthI l k).2.2.1 k f] := by rw [cutTo]; unfold stepC; rw [if_neg h54, if_neg h55, if_neg h56, if_pos h248, c1, onLast_snoc]
            have hin : aheadO l (k + 1) ≠ 0 ∧ aheadO l (k + 1) ≠ 54 ∧ aheadO l (k + 1) ≠ 55 ∧ aheadO l (k + 1) ≠ 56 ∧ endsB (aheadO l (k + 1)) = false := by
              rw [ha, h248]; decide
            have hb : blkC l (s + 1 + f.2.2.1.length) f.2.2.2.1 k := by
              rcases h1 with ⟨_, h2, h3⟩ | ⟨_, _, h3⟩ | ⟨h2, _⟩
              · rw [h2]; exact h3.symm
              · exact h3
              · rcases hah with e | e | e
                · exact absurd e h2.2.1
                · exact absurd e h2.2.2.1
                · rw [h2.2.2.2.2] at e; cases e
            exact .inr (.inr ⟨fs, _, s, hc, c2, c3, c4, .inr (.inr ⟨hin, f.2.2.2.1, ((nthI l k).2.2.1, (k : Int), 0), k, rfl, hb, rfl, rfl, by omega⟩)⟩)
        · have hno : ¬ (aheadO l k == 0 || aheadO l k == 54 || aheadO l k == 55 || aheadO l k == 56 || endsB (aheadO l k)) = true := by
            intro e
            unfold mayF at hm
            rw [if_neg h54, if_neg h55, if_neg h248, if_neg h56, if_pos e] at hm
            cases hm
          simp only [Bool.or_eq_true, beq_iff_eq, not_or] at hno
          rcases h with ⟨h1, _⟩ | ⟨h1, _⟩ | ⟨fs, f, s, c1, c2, c3, c4, h1⟩
          · exact absurd h1 hno.1.1.1.1
          · exact absurd h1 hno.1.2
          · rcases h1 with ⟨h2, _⟩ | ⟨h2, _⟩ | ⟨_, bs, b, q, d1, d2, d3, d4, d5⟩
            · rcases h2 with h2 | h2
              · exact absurd h2 hno.1.1.1.2
              · exact absurd h2 hno.1.1.2
            · exact absurd h2 hno.2
            · cases he : endsB (nthI l k).1 with
              | true =>
                have hc : cutTo l (k + 1) = fs ++ [withTo ((k + 1 : Nat) : Int) f] := by rw [cutTo]; unfold stepC; rw [if_neg h54, if_neg h55, if_neg h56, if_neg h248, he, if_pos rfl, c1, onLast_snoc]
                refine .inr (.inr ⟨fs, _, s, hc, c2, c3, c4, .inr (.inl ⟨by rw [ha]; exact he, ?_, ?_⟩)⟩)
                · simp only [withTo]; rw [d1, endLast_snoc]; simp
                · simp only [withTo]; rw [d1, endLast_snoc]
                  exact blkC_snoc (b := (b.1, b.2.1, ((k + 1 : Nat) : Int))) d3 d4 rfl (by omega) (by rw [Nat.add_sub_cancel]; exact he) d2
              | false =>
                have hc : cutTo l (k + 1) = fs ++ [f] := by rw [cutTo, stepC_other h54 h55 h56 h248 he, c1]
                exact .inr (.inr ⟨fs, f, s, hc, c2, c3, c4, .inr (.inr ⟨by rw [ha]; exact ⟨hne, h54, h55, h56, he⟩, bs, b, q, d1, d2, d3, d4, by omega⟩)⟩)
theorem layE_closed {b : Int} {l : List InstT} (h : (layE b l).1 = 0) : okTo l l.length ∧ modelsN l l.length ≠ 0 ∧ (aheadO l l.length = 0 ∨ aheadO l l.length = 56) := by
  unfold layE at h
  by_cases h1 : (shapeE b l).1 = 0
  · rw [if_neg (by simpa using h1)] at h
    have key : ∀ m k, k + m = l.length → okTo l k → (layF l m k).1 = 0 → okTo l l.length ∧ openE l = false := by
      intro m
      induction m with
      | zero =>
        intro k hk hok h0
        rw [layF] at h0
        cases hO : openE l with
        | true => rw [hO] at h0; simp at h0
        | false => rw [show l.length = k by omega]; exact ⟨hok, rfl⟩
      | succ m ih =>
        intro k hk hok h0
        rw [layF] at h0
        cases hm : mayL l k with
        | false => rw [hm] at h0; simp at h0
        | true => rw [hm, if_pos rfl] at h0; exact ih (k + 1) (by omega) (hok.snoc hm) h0
    obtain ⟨q1, q2⟩ := key l.length 0 (by omega) (okTo_zero l) h
    unfold openE at q2
    simp only [Bool.or_eq_false_iff, decide_eq_false_iff_not] at q2
    refine ⟨q1, q2.1, ?_⟩
    by_cases e : aheadO l l.length = 0
    · exact .inl e
    · by_cases e2 : aheadO l l.length = 56
      · exact .inr e2
      · exact absurd ⟨e, e2⟩ q2.2
  · rw [if_pos h1] at h; exact absurd h h1
theorem sorted9 {l : List InstT} {n i j : Nat} (h : okTo l n) (hij : i ≤ j) (hj : j < n) : partI (nthI l i) ≤ partI (nthI l j) := by
  by_cases e : i = j
  · rw [e]; exact Int.le_refl _
  · have hm := h j hj
    rcases Int.lt_or_le (partI (nthI l j)) (partI (nthI l i)) with h1 | h1
    · rw [mayL_over (by omega) h1] at hm; cases hm
    · exact h1
theorem cnt_low {l : List InstT} {p : Nat} : ∀ {n k : Nat}, okTo l n → k < cntP l p n → k < n ∧ partI (nthI l k) < p
  | 0, k, _, h => by rw [cntP] at h; omega
  | n + 1, k, hok, h => by
    have hle := cntP_le l p n
    rw [cntP] at h
    split at h
    · next hp =>
      by_cases e : k = n
      · subst e; exact ⟨by omega, hp⟩
      · by_cases e2 : k < n
        · exact ⟨by omega, by have := sorted9 hok (show k ≤ n by omega) (by omega); omega⟩
        · omega
    · rw [Nat.add_zero] at h
      have := cnt_low (n := n) (fun i hi => hok i (by omega)) h; omega
theorem cnt_high {l : List InstT} {p : Nat} : ∀ {n k : Nat}, okTo l n → cntP l p n ≤ k → k < n → (p : Int) ≤ partI (nthI l k)
  | 0, k, _, _, h => by omega
  | n + 1, k, hok, h, hk => by
    rcases Int.lt_or_le (partI (nthI l k)) p with h1 | h1
    · have all : ∀ i, i < k + 1 → partI (nthI l i) < p := fun i hi => by have := sorted9 hok (show i ≤ k by omega) hk; omega
      have h2 := cntP_all all
      have mono : ∀ m, k + 1 ≤ m → cntP l p (k + 1) ≤ cntP l p m := by
        intro m
        induction m with
        | zero => intro h; omega
        | succ m ih => intro hm; by_cases e : k = m
                       · subst e; exact Nat.le_refl _
                       · exact Nat.le_trans (ih (by omega)) (Nat.le_add_right _ _)
      have := mono (n + 1) (by omega)
      omega
    · exact h1
/-- The functions of a module in order. -/
theorem whole_cut {b : Int} {l : List InstT} (h : (layE b l).1 = 0) : fnC l (cntP l 8 l.length) (cutTo l l.length) l.length := by
  obtain ⟨hok, hmo, hah⟩ := layE_closed h
  have hK := cntP_le l 8 l.length
  have hlow : ∀ i, i < cntP l 8 l.length → partI (nthI l i) < 8 := fun i hi => (cnt_low hok hi).2
  have start : Whole l (cntP l 8 l.length) (cntP l 8 l.length) := by
    refine .inl ⟨?_, rfl, cutTo_front hlow⟩
    unfold aheadO
    rw [if_neg (fun e => by have := hlow (cntP l 8 l.length - 1) (by omega); omega)]
  have all : ∀ d, cntP l 8 l.length + d ≤ l.length → Whole l (cntP l 8 l.length) (cntP l 8 l.length + d) := by
    intro d
    induction d with
    | zero => intro _; exact start
    | succ d ih =>
      intro hd
      have h1 := ih (by omega)
      have h8 : partI (nthI l (cntP l 8 l.length + d)) = 8 := by
        have := cnt_high (p := 8) hok (show cntP l 8 l.length ≤ cntP l 8 l.length + d by omega) (by omega)
        have := partI_eight (nthI l (cntP l 8 l.length + d))
        omega
      have hmay := hok (cntP l 8 l.length + d) (by omega)
      have hmo2 : modelsN l (cntP l 8 l.length + d) ≠ 0 := fun e => by rw [mayL_noModel (by omega) e] at hmay; cases hmay
      rw [mayL_eight h8 (fun i _ => (partI_eight _).2) hmo2] at hmay
      exact h1.step h8 hmay
  have hend := all (l.length - cntP l 8 l.length) (by omega)
  rw [show cntP l 8 l.length + (l.length - cntP l 8 l.length) = l.length by omega] at hend
  rcases hend with ⟨_, h1, h2⟩ | ⟨_, h1⟩ | ⟨fs, f, s, _, _, _, _, h1⟩
  · rw [h2]; exact h1.symm
  · exact h1
  · rcases h1 with ⟨h2, _⟩ | ⟨h2, _⟩ | ⟨h2, _⟩
    · omega
    · have := endsB_iff.1 h2; omega
    · omega
/-- The parts of a module in order. -/
theorem one_model {l : List InstT} : ∀ {n : Nat}, okTo l n → modelsN l n ≤ 1
  | 0, _ => by simp [modelsN]
  | n + 1, h => by
    have ih := one_model (n := n) (fun i hi => h i (by omega))
    rw [modelsN]
    split
    · next h1 =>
      have hm := h n (by omega)
      by_cases e : modelsN l n = 0
      · omega
      · rw [mayL_twoModels h1 e] at hm; cases hm
    · omega
theorem own_models (l : List InstT) : ∀ n, ownP l 1 n = modelsN l n
  | 0 => rfl
  | n + 1 => by rw [ownP, modelsN, own_models l n]; rfl
theorem whole_model {b : Int} {l : List InstT} (h : (layE b l).1 = 0) : cntP l 2 l.length = cntP l 1 l.length + 1 := by
  obtain ⟨hok, hmo, _⟩ := layE_closed h
  have := one_model hok
  rw [cnt_own l 1, own_models]
  omega
theorem cntP_zero (l : List InstT) : ∀ n, cntP l 0 n = 0
  | 0 => rfl
  | n + 1 => by rw [cntP, cntP_zero l n, if_neg (by have := partI_eight (nthI l n); omega)]
theorem cntP_mono (l : List InstT) (p n : Nat) : cntP l p n ≤ cntP l (p + 1) n := by rw [cnt_own]; omega
theorem cntP_top (l : List InstT) (p : Nat) (hp : 9 ≤ p) (n : Nat) : cntP l p n = n := cntP_all fun i _ => by have := partI_eight (nthI l i); omega
end Go.Proofs.Ytckhgdjcofpijaa

/-
  The law LayoutWhole: the parts of a module in order are its instructions, one behind the other; functions and blocks too.
-/
namespace Go.Proofs.Ytckhgdjcofpijaa
open Go.RowKit
set_option linter.unusedVariables false
set_option linter.unusedSimpArgs false
set_option maxRecDepth 10000

theorem wpList_load_midG {P : Program} {ops : Array Oper} {rest : List Oper} {op : Oper} {a : Act} {w : World} {Q : Exit → Act → World → Prop} (hw : Region.wanted op (yielded ops a.tmps) = true) (ty : TypeId) (x : Operand) (ho : op.op = .load ty x)
    (b o : Nat) (hx : a.eval x = .pointer (some ⟨b, o, none⟩)) (cs : List Value) (d : TypeDesc) (hc : w.rangeAt b o cs)
    (hu : P.underlying ty = some d) (hd : d.isRow = true) (hi : (P.info? ty).map (·.size) = some cs.length)
    (h : wpList P ops Q rest (a.put op.dst (.agg cs.toArray)) w) : wpList P ops Q (op :: rest) a w := by
  rw [wpList, if_pos hw]
  exact .inl (wp_load_mid ty x ho b o hx cs d hc hu hd hi h)
theorem wrap_next {k n : Nat} (h : k < n) (hn : 40 * n ≤ 140737488351232) : IntKind.i64.wrap ((k : Int) + 1) = ((k + 1 : Nat) : Int) := by rw [IntKind.wrap_i64]; omega
theorem wrap64_next {k n : Nat} (h : k < n) (hn : 40 * n ≤ 140737488351232) : wrap64 ((k : Int) + 1) = ((k + 1 : Nat) : Int) := by
  have e := wrap_next h hn
  first
    | exact e
    | (unfold wrap64; omega)
theorem meas_next {k n : Nat} (h : k < n) : n - (intOf (.int .i64 ((k + 1 : Nat) : Int))).toNat < n - (intOf (.int .i64 (k : Int))).toNat := by simp [intOf]; omega
theorem blkC_len {l : List InstT} : ∀ {bs : List (Int × Int × Int)} {s e : Nat}, blkC l s bs e → s + bs.length ≤ e
  | [], s, e, h => by have h2 : s = e := h; simp; omega
  | b :: bs, s, e, h => by obtain ⟨a1, a2, t, a3, a4, a5, a6⟩ := h; have := blkC_len a6; simp; omega
theorem fnC_len {l : List InstT} : ∀ {fs : List FuncT} {s e : Nat}, fnC l s fs e → s + fs.length ≤ e
  | [], s, e, h => by have h2 : s = e := h; simp; omega
  | f :: fs, s, e, h => by obtain ⟨a1, a2, a3, t, a4, a5, a6⟩ := h; have h1 := fnC_len a6; have h2 := blkC_le a5; simp; omega
theorem one_right : layE 1 [mod14] = (0, 0) := by decide +kernel
theorem one_ok : InstsOk [mod14] := by
  intro j hj
  have : j = 0 := by simp at hj; omega
  subst this
  exact ⟨by decide, by decide, by decide, by decide, by decide, by decide, fun k hk => by
    have : k = 0 ∨ k = 1 := by simp [nthI, mod14] at hk; omega
    rcases this with rfl | rfl <;> exact ⟨by decide, by decide, by decide, by decide, by decide⟩, by decide⟩
theorem one_mem (x : World) :
    InstsV (((x.alloc (.cells #[.int .u8 4, .int .u32 0, .string ⟨#[]⟩, .int .u8 4, .int .u32 0, .string ⟨#[]⟩] 55)).alloc (.cells #[.int .u16 14, .int .u32 0, .int .u32 0, .slice (some ⟨x.heap.size, 0, none⟩) 2 2] 59)).alloc (.cells #[.int .u32 0, .int .u32 1, .slice (some ⟨x.heap.size + 1, 0, none⟩) 1 1] 25)) (some ⟨x.heap.size + 1, 0, none⟩) [mod14] ∧
    Below x.heap.size x (((x.alloc (.cells #[.int .u8 4, .int .u32 0, .string ⟨#[]⟩, .int .u8 4, .int .u32 0, .string ⟨#[]⟩] 55)).alloc (.cells #[.int .u16 14, .int .u32 0, .int .u32 0, .slice (some ⟨x.heap.size, 0, none⟩) 2 2] 59)).alloc (.cells #[.int .u32 0, .int .u32 1, .slice (some ⟨x.heap.size + 1, 0, none⟩) 1 1] 25)) := by
  have hb := (((Below.refl _ x).alloc (Nat.le_refl _) (.cells #[.int .u8 4, .int .u32 0, .string ⟨#[]⟩, .int .u8 4, .int .u32 0, .string ⟨#[]⟩] 55)).alloc (by simp) (.cells #[.int .u16 14, .int .u32 0, .int .u32 0, .slice (some ⟨x.heap.size, 0, none⟩) 2 2] 59)).alloc (by simp; omega) (.cells #[.int .u32 0, .int .u32 1, .slice (some ⟨x.heap.size + 1, 0, none⟩) 1 1] 25)
  have k2 : (((x.alloc (.cells #[.int .u8 4, .int .u32 0, .string ⟨#[]⟩, .int .u8 4, .int .u32 0, .string ⟨#[]⟩] 55)).alloc (.cells #[.int .u16 14, .int .u32 0, .int .u32 0, .slice (some ⟨x.heap.size, 0, none⟩) 2 2] 59)).alloc (.cells #[.int .u32 0, .int .u32 1, .slice (some ⟨x.heap.size + 1, 0, none⟩) 1 1] 25)).heap[x.heap.size]? = some (.cells #[.int .u8 4, .int .u32 0, .string ⟨#[]⟩, .int .u8 4, .int .u32 0, .string ⟨#[]⟩] 55 (0, 0)) := by
    rw [Below.heap_alloc _ _ _ (by simp <;> omega), Below.heap_alloc _ _ _ (by simp)]; exact heap_alloc_new x _
  have k3 : (((x.alloc (.cells #[.int .u8 4, .int .u32 0, .string ⟨#[]⟩, .int .u8 4, .int .u32 0, .string ⟨#[]⟩] 55)).alloc (.cells #[.int .u16 14, .int .u32 0, .int .u32 0, .slice (some ⟨x.heap.size, 0, none⟩) 2 2] 59)).alloc (.cells #[.int .u32 0, .int .u32 1, .slice (some ⟨x.heap.size + 1, 0, none⟩) 1 1] 25)).heap[x.heap.size + 1]? = some (.cells #[.int .u16 14, .int .u32 0, .int .u32 0, .slice (some ⟨x.heap.size, 0, none⟩) 2 2] 59 (0, 0)) := by
    have := heap_alloc_new (x.alloc (.cells #[.int .u8 4, .int .u32 0, .string ⟨#[]⟩, .int .u8 4, .int .u32 0, .string ⟨#[]⟩] 55)) (.cells #[.int .u16 14, .int .u32 0, .int .u32 0, .slice (some ⟨x.heap.size, 0, none⟩) 2 2] 59)
    rw [World.size_alloc] at this
    exact (Below.heap_alloc _ _ _ (by simp)).trans this
  refine ⟨?_, hb⟩
  obtain ⟨cc, _⟩ := one_block k3
  have hl3 := (Array.getElem?_eq_some_iff.1 k3).1
  intro j hj
  have : j = 0 := by simp at hj; omega
  subst this
  exact ⟨x.heap.size + 1, 0, some ⟨x.heap.size, 0, none⟩, 2, 2, rfl, hl3, cc 0, cc 1, cc 2, cc 3, rfl, args14 k2, Nat.le_refl _⟩

set_option maxHeartbeats 8000000 in
theorem layoutWhole_true (w : World) (gen bnd : Int) (a : Option Addr) (n c : Nat) (l : List InstT) (hl : l.length = n) (hv : InstsV w a l) (hok : InstsOk l) (hn : 40 * n ≤ 140737488351232) (hc : n ≤ c) (hgb : 0 ≤ gen ∧ gen < 4294967296 ∧ 0 ≤ bnd ∧ bnd < 4294967296) :
    Calls Try.prog 7 #[.agg #[.int .u32 gen, .int .u32 bnd, .slice a n c]] w fun e w' => e = .returned (.bool true) ∧ Below w.heap.size w w' := by
  obtain ⟨g0, g1, b0, b1⟩ := hgb
  have hba : Below w.heap.size w (w.alloc (.cells #[.int .u32 gen, .int .u32 bnd, .slice a n c] 25)) := (Below.refl _ w).alloc (Nat.le_refl _) _
  have HCp := hide fun wx (h : InstsV wx a l) => copyModule_any gen bnd a n c l wx h hok hl hn
  have HPp := hide fun wx ax m cx (h : InstsV wx ax l) (hm : l.length = m) (hm2 : 40 * m ≤ 140737488351232) => layParts_any gen bnd ax m cx l wx h hok hm hm2 g0 g1 b0 b1
  have HCu := hide fun wx ax m cx (h : InstsV wx ax l) (hm : l.length = m) (hm2 : 40 * m ≤ 140737488351232) => layCut_any gen bnd ax m cx l wx h hok hm hm2 g0 g1 b0 b1
  have HCk := hide fun wx ax m cx (h : InstsV wx ax l) (hm : l.length = m) (hm2 : 40 * m ≤ 140737488351232) => layCheck_any gen bnd ax m cx l wx h hok hm hm2 g0 g1 b0 b1
  have HC1 := hide fun wx ax cx (h : InstsV wx ax [mod14]) => layCheck_any 0 1 ax 1 cx [mod14] wx h one_ok rfl (by omega) (by decide) (by decide) (by decide) (by decide)
  rw [one_right] at HC1
  have HF0 : Hid ((layE bnd l).1 ≠ 0 → partsF bnd l = fun _ => 0) := fun h => funext fun i => by unfold partsF; rw [if_pos h]
  have HFP : Hid ((layE bnd l).1 = 0 → ∀ i, partsF bnd l i = cntP l ((i + 1) / 2) n) := fun h i => by unfold partsF; rw [if_neg (by rw [h]; simp), hl]
  have HW : Hid ((layE bnd l).1 = 0 → fnC l (cntP l 8 n) (cutTo l l.length) n ∧ cntP l 2 n = cntP l 1 n + 1) := fun h => by
    have h1 := whole_cut h
    have h2 := whole_model h
    rw [hl] at h2
    refine ⟨?_, h2⟩
    rw [hl] at h1
    rw [hl]
    exact h1
  have HM0 := hide (heap_alloc_new w (.cells #[.int .u32 gen, .int .u32 bnd, .slice a n c] 25))
  have HBA := hide hba
  have HV := hide hv
  have HL := hide hl
  have HN := hide hn
  have HLW : Hid (w.heap.size < (w.alloc (.cells #[.int .u32 gen, .int .u32 bnd, .slice a n c] 25)).heap.size) := by show _ < _; simp
  have hCp1 := HCp.out _ (hv.below hba)
  unfold modV partsV at *
  unfold CutQ at HCu
  generalize partsF bnd l = f at *
  generalize cutTo l l.length = fs at *
  generalize (layE bnd l).1 = e1 at *
  generalize ((layE bnd l).2 : Int) = e2 at *
  clear hba hv hok hl hn
  go_enter Try.func7, Try.ntmps7
  go_wp2_with fail
  generalize w.alloc (.cells #[.int .u32 gen, .int .u32 bnd, .slice a n c] 25) = W0 at *
  refine hCp1.mono ?_
  rintro e w0 ⟨g, rfl, hg, hV0, hb0⟩
  have hPp := HPp.out w0 (some ⟨g, 0, none⟩) n n hV0 HL.out HN.out
  have HB0 := hide hb0
  clear hCp1 HPp hV0 hb0 hg
  go_wp2_with fail
  refine hPp.mono ?_
  rintro e w1 ⟨rfl, hb1⟩
  obtain ⟨k1, k2, k3, k4, k5, k6⟩ := kept_parts w1 f e1 e2
  have HK1 := hide k1
  have HK2 := hide k2
  have HK3 := hide k3
  have HK4 := hide k4
  have HK5 := hide (HB0.out.trans ((hb1.trans (k5.mono hb1.size)).mono HB0.out.size))
  have HK6 := hide k6
  have HS1 : Hid (W0.heap.size ≤ w1.heap.size) := Nat.le_trans HB0.out.size hb1.size
  clear k1 k2 k3 k4 k5 k6 hPp hb1 HB0
  go_wp2_with (with_reducible refine stopS 35 ?_)
  refine wpList_store_mid rfl 35 (.tmp 3) (.tmp 18) rfl w1.heap.size 0 #[.int .i64 (f 0), .int .i64 (f 1), .int .i64 (f 2), .int .i64 (f 3), .int .i64 (f 4), .int .i64 (f 5), .int .i64 (f 6), .int .i64 (f 7), .int .i64 (f 8), .int .i64 (f 9), .int .i64 (f 10), .int .i64 (f 11), .int .i64 (f 12), .int .i64 (f 13), .int .i64 (f 14), .int .i64 (f 15), .int .i64 (f 16), .int .i64 (f 17), .int .i64 (f 18), .int .i64 (f 19)] rfl rfl HK1.out (by kernel_rfl) (by simp [Value.oneCell']) ?_
  simp only [Act.put]
  refine wpList_store_mid rfl 29 (.tmp 4) (.tmp 19) rfl (w1.heap.size + 1) 0 #[.int .i64 e1, .int .i64 e2] rfl rfl HK2.out (by kernel_rfl) (by simp [Value.oneCell']) ?_
  simp only [Act.put]
  generalize (((w1.alloc (.cells #[.int .i64 0, .int .i64 0, .int .i64 0, .int .i64 0, .int .i64 0, .int .i64 0, .int .i64 0, .int .i64 0, .int .i64 0, .int .i64 0, .int .i64 0, .int .i64 0, .int .i64 0, .int .i64 0, .int .i64 0, .int .i64 0, .int .i64 0, .int .i64 0, .int .i64 0, .int .i64 0] 35)).alloc (.cells #[.int .i64 0, .int .i64 0] 29)).setCells w1.heap.size 0 [.int .i64 (f 0), .int .i64 (f 1), .int .i64 (f 2), .int .i64 (f 3), .int .i64 (f 4), .int .i64 (f 5), .int .i64 (f 6), .int .i64 (f 7), .int .i64 (f 8), .int .i64 (f 9), .int .i64 (f 10), .int .i64 (f 11), .int .i64 (f 12), .int .i64 (f 13), .int .i64 (f 14), .int .i64 (f 15), .int .i64 (f 16), .int .i64 (f 17), .int .i64 (f 18), .int .i64 (f 19)]).setCells (w1.heap.size + 1) 0 [.int .i64 e1, .int .i64 e2] = X at *
  clear HK1 HK2
  have hBX := HBA.out.trans (HK5.out.mono HBA.out.size)
  have HBX := hide hBX
  have hl0 := HLW.out
  have hs1 := HS1.out
  have hlx := HK6.out
  have hwX : w.heap.size < X.heap.size := by omega
  obtain ⟨cm, _⟩ := one_block ((HK5.out.block w.heap.size hl0).trans HM0.out)
  have m0 := cm 0
  have m1 := cm 1
  have m2 := cm 2
  have HMX := hide ((HK5.out.block w.heap.size hl0).trans HM0.out)
  have hCp := HCp.out X (HV.out.below hBX)
  generalize w1.heap.size = BP at *
  clear cm hBX HM0 HK5 HBA HLW HS1 hs1 hl0
  go_wp2_with fail
  refine hCp.mono ?_
  rintro e w2 ⟨g, rfl, hg, hV2, hb2⟩
  have hCu := HCu.out w2 (some ⟨g, 0, none⟩) n n hV2 HL.out HN.out
  have HB2 := hide hb2
  clear hCp HCu hV2 hb2 m0 m1 m2 hg
  go_wp2_with fail
  refine hCu.mono ?_
  rintro e w3 ⟨fv, rfl, hb3, hfv⟩
  have HFV := hide hfv
  have hb23 := HB2.out.trans (hb3.mono HB2.out.size)
  have HSP := hide (heap_alloc_new w3 (.cells #[.int .i64 e1, .int .i64 e2] 29))
  have HYS : Hid (w3.heap.size < (w3.alloc (.cells #[.int .i64 e1, .int .i64 e2] 29)).heap.size) := by show _ < _; simp
  have HXY := hide (hb23.alloc hb23.size (.cells #[.int .i64 e1, .int .i64 e2] 29))
  have HY3 := hide ((Below.refl w3.heap.size w3).alloc (Nat.le_refl _) (.cells #[.int .i64 e1, .int .i64 e2] 29))
  have HX3 : Hid (X.heap.size ≤ w3.heap.size) := hb23.size
  have hfb : ∃ x m cv, fv = .slice x m cv := by
    rcases hfv with ⟨_, h⟩ | ⟨_, h⟩
    · exact ⟨_, _, _, h⟩
    · obtain ⟨x, cv, h, _⟩ := h.read; exact ⟨_, _, _, h⟩
  obtain ⟨fx, fm, fcv, rfl⟩ := hfb
  clear hCu hb3 hb23 HB2 hfv
  go_wp2_with fail
  generalize w3.alloc (.cells #[.int .i64 e1, .int .i64 e2] 29) = Y at *
  have hys := HYS.out
  have hx3 := HX3.out
  have HBY := hide (HBX.out.trans (HXY.out.mono HBX.out.size))
  have LC : Hid (∀ w', Below Y.heap.size Y w' → w'.cell? ⟨w.heap.size, 0, none⟩ = some (.int .u32 gen) ∧ w'.cell? ⟨w.heap.size, 1, none⟩ = some (.int .u32 bnd) ∧ w'.cell? ⟨w.heap.size, 2, none⟩ = some (.slice a n c) ∧ w'.cell? ⟨BP + 1, 0, none⟩ = some (.int .i64 e1) ∧ w'.cell? ⟨BP + 1, 1, none⟩ = some (.int .i64 e2) ∧ w'.cell? ⟨w3.heap.size, 0, none⟩ = some (.int .i64 e1) ∧ w'.cell? ⟨w3.heap.size, 1, none⟩ = some (.int .i64 e2)) := fun w' h => by
    obtain ⟨c1, _⟩ := one_block ((h.block w.heap.size (by omega)).trans ((HXY.out.block w.heap.size hwX).trans HMX.out))
    obtain ⟨c2, _⟩ := one_block ((h.block (BP + 1) (by omega)).trans ((HXY.out.block (BP + 1) hlx).trans HK4.out))
    obtain ⟨c3, _⟩ := one_block ((h.block w3.heap.size (by omega)).trans HSP.out)
    exact ⟨c1 0, c1 1, c1 2, c2 0, c2 1, c3 0, c3 1⟩
  have hC0 : Below Y.heap.size Y Y.drew := below_drew Y
  have hmix : Try.prog.follows .mixedOrders = true := by kernel_rfl
  refine (wpIn_wide (n := 0)).1 ?_
  refine wpIn_normal (wpIn_region_any hmix (wpAnyC_sound (C := Below Y.heap.size Y) _ _ _ _ ?_))
  change wpAnyC _ _ _ _ _ _ _ _ _ _ (World.drew _)
  refine wpAnyC_takeD (i := 0) (some 26) (v := .agg #[.int .i64 e1, .int .i64 e2]) (fun _ => trivial) (by kernel_rfl) rfl rfl (by kernel_rfl) (by kernel_rfl) (by kernel_rfl) (fun _ _ _ h => by cases h.1) hC0 (Or.inl ⟨by kernel_rfl, fun w' hC => by obtain ⟨e0, e1', e2', e3, e4, e5, e6⟩ := LC.out w' hC; clear hC; go_simp⟩) ?_
  simp only [Act.put, List.setIfInBounds_toArray, List.set_cons_succ, List.set_cons_zero]
  refine wpAnyC_takeD (i := 1) (some 27) (v := .agg #[.int .i64 e1, .int .i64 e2]) (fun _ => trivial) (by kernel_rfl) rfl rfl (by kernel_rfl) (by kernel_rfl) (by kernel_rfl) (fun _ _ _ h => by cases h.1) hC0 (Or.inl ⟨by kernel_rfl, fun w' hC => by obtain ⟨e0, e1', e2', e3, e4, e5, e6⟩ := LC.out w' hC; clear hC; go_simp⟩) ?_
  simp only [Act.put, List.setIfInBounds_toArray, List.set_cons_succ, List.set_cons_zero]
  refine wpAnyC_takeD (i := 2) (some 28) (v := .bool false) (fun _ => trivial) (by kernel_rfl) rfl rfl (by kernel_rfl) (by kernel_rfl) (by kernel_rfl) (fun _ _ _ h => by cases h.1) hC0 (Or.inl ⟨by kernel_rfl, fun w' hC => by clear hC; go_simp⟩) ?_
  simp only [Act.put, List.setIfInBounds_toArray, List.set_cons_succ, List.set_cons_zero]
  refine wpAnyC_takeD (i := 3) (some 29) (v := .bool false) (fun _ => trivial) (by kernel_rfl) rfl rfl (by kernel_rfl) (by kernel_rfl) (by kernel_rfl) (fun _ _ _ h => by cases h.1) hC0 (Or.inl ⟨by kernel_rfl, fun w' hC => by clear hC; go_simp⟩) ?_
  simp only [Act.put, List.setIfInBounds_toArray, List.set_cons_succ, List.set_cons_zero]
  refine wpAnyC_takeD (i := 4) (some 30) (v := .agg #[.int .i64 e1, .int .i64 e2]) (fun _ => trivial) (by kernel_rfl) rfl rfl (by kernel_rfl) (by kernel_rfl) (by kernel_rfl) (fun _ _ _ h => by cases h.1) hC0 (Or.inl ⟨by kernel_rfl, fun w' hC => by obtain ⟨e0, e1', e2', e3, e4, e5, e6⟩ := LC.out w' hC; clear hC; go_simp⟩) ?_
  simp only [Act.put, List.setIfInBounds_toArray, List.set_cons_succ, List.set_cons_zero]
  refine wpAnyC_takeD (i := 5) (some 31) (v := .agg #[.int .u32 gen, .int .u32 bnd, .slice a n c]) (fun _ => trivial) (by kernel_rfl) rfl rfl (by kernel_rfl) (by kernel_rfl) (by kernel_rfl) (fun _ _ _ h => by cases h.1) hC0 (Or.inl ⟨by kernel_rfl, fun w' hC => by obtain ⟨e0, e1', e2', e3, e4, e5, e6⟩ := LC.out w' hC; clear hC; go_simp⟩) ?_
  simp only [Act.put, List.setIfInBounds_toArray, List.set_cons_succ, List.set_cons_zero]
  refine wpAnyC_ready (rs := [6]) (by kernel_rfl) (by simp) ?_
  refine AllC.cons rfl (fun K hK => ?_) AllC.nil
  go_simp
  refine ⟨trivial, rfl, (callsIn_wide.2 (HCp.out Y.drew (HV.out.below (HBY.out.trans (hC0.mono HBY.out.size))))).mono ?_⟩
  rintro e y1 ⟨g4, rfl, hg4, hV4, hb4⟩
  dsimp only
  have hC1 : Below Y.heap.size Y y1 := hC0.trans (show Below Y.heap.size Y.drew y1 from hb4)
  refine hK _ _ hC1 ?_
  clear hK K hb4
  refine wpAnyC_ready (rs := [7]) (by kernel_rfl) (by simp) ?_
  refine AllC.cons rfl (fun K hK => ?_) AllC.nil
  go_simp
  refine ⟨trivial, rfl, (callsIn_wide.2 (HCk.out y1 (some ⟨g4, 0, none⟩) n n hV4 HL.out HN.out)).mono ?_⟩
  rintro e y2 ⟨rfl, hb5⟩
  dsimp only
  have hC2 : Below Y.heap.size Y y2 := hC1.trans (hb5.mono hC1.size)
  refine hK _ _ hC2 ?_
  clear hK K hb5
  refine wpAnyC_takeD (i := 8) (some 34) (v := .bool false) (fun _ => trivial) (by kernel_rfl) rfl rfl (by kernel_rfl) (by kernel_rfl) (by kernel_rfl) (fun _ _ _ h => by cases h.1) hC2 (Or.inl ⟨by kernel_rfl, fun w' hC => by clear hC; go_simp⟩) ?_
  simp only [Act.put, List.setIfInBounds_toArray, List.set_cons_succ, List.set_cons_zero]
  refine wpAnyC_takeD (i := 9) (some 35) (v := .bool false) (fun _ => trivial) (by kernel_rfl) rfl rfl (by kernel_rfl) (by kernel_rfl) (by kernel_rfl) (fun _ _ _ h => by cases h.1) hC2 (Or.inl ⟨by kernel_rfl, fun w' hC => by clear hC; go_simp⟩) ?_
  simp only [Act.put, List.setIfInBounds_toArray, List.set_cons_succ, List.set_cons_zero]
  refine wpAnyC_done (by kernel_rfl) ⟨rfl, ?_⟩ _
  have HC2 := hide hC2
  clear hC0 hC1 hC2 hV4 HCp HCk LC hg4
  rw [then_normalW]
  have hE1 := kitEnum_any 0 y2
  go_wp2_with fail
  refine hE1.mono ?_
  rintro e x1 ⟨rfl, hx1⟩
  have hE2 := kitEnum_any 0 x1
  have HX1 := hide (HC2.out.trans (hx1.mono HC2.out.size))
  clear hE1 hx1
  go_wp2_with fail
  refine hE2.mono ?_
  rintro e x2 ⟨rfl, hx2⟩
  have HX2 := hide (HX1.out.trans (hx2.mono HX1.out.size))
  obtain ⟨hTv, hTb⟩ := one_mem x2
  have hC2 := HC1.out _ _ 1 hTv
  have HTB := hide (HX2.out.trans (hTb.mono HX2.out.size))
  clear hTv hTb hE2 hx2 HX1 HX2 HC1 HC2
  go_wp2_with fail
  generalize ((x2.alloc (.cells #[.int .u8 4, .int .u32 0, .string ⟨#[]⟩, .int .u8 4, .int .u32 0, .string ⟨#[]⟩] 55)).alloc (.cells #[.int .u16 14, .int .u32 0, .int .u32 0, .slice (some ⟨x2.heap.size, 0, none⟩) 2 2] 59)).alloc (.cells #[.int .u32 0, .int .u32 1, .slice (some ⟨x2.heap.size + 1, 0, none⟩) 1 1] 25) = X5 at *
  refine hC2.mono ?_
  rintro e z ⟨rfl, hz⟩
  have HZ := hide (HTB.out.trans (hz.mono HTB.out.size))
  have HBZ := hide (HBY.out.trans (HZ.out.mono HBY.out.size))
  have hyz : Y.heap.size ≤ z.heap.size := HZ.out.size
  have HSPN := hide ((HZ.out.block BP (by omega)).trans ((HXY.out.block BP (by omega)).trans HK3.out))
  obtain ⟨cs, _⟩ := one_block ((HZ.out.block (BP + 1) (by omega)).trans ((HXY.out.block (BP + 1) hlx).trans HK4.out))
  have s0 := cs 0
  obtain ⟨cm, _⟩ := one_block ((HZ.out.block w.heap.size (by omega)).trans ((HXY.out.block w.heap.size hwX).trans HMX.out))
  have HM2 := hide (cm 2)
  clear cs cm hC2 hz HTB HK4 HSP HK6 HMX
  by_cases he : e1 = 0
  · subst he
    have HFPP := hide (HFP.out rfl)
    obtain ⟨hfn, hmo⟩ := HW.out rfl
    have HFN := hide hfn
    have hFA : FuncsAt z w2.heap.size (.slice fx fm fcv) fs := by
      rcases HFV.out with ⟨h, _⟩ | ⟨_, h⟩
      · exact absurd rfl h
      · exact h.below (HY3.out.trans (HZ.out.mono (Nat.le_of_lt HYS.out)))
    obtain ⟨xx, cc, hq, hread⟩ := hFA.read
    injection hq with hq1 hq2 hq3
    subst hq1 hq2 hq3
    have HRD := hide hread
    obtain ⟨csp, _⟩ := one_block HSPN.out
    have HSC : Hid (∀ i, i < 20 → z.cell? ⟨BP, i, none⟩ = some (.int .i64 (cntP l ((i + 1) / 2) n))) := fun i hi => by
      rw [← HFPP.out i, csp i]
      match i, hi with
      | 0, _ => rfl
      | 1, _ => rfl
      | 2, _ => rfl
      | 3, _ => rfl
      | 4, _ => rfl
      | 5, _ => rfl
      | 6, _ => rfl
      | 7, _ => rfl
      | 8, _ => rfl
      | 9, _ => rfl
      | 10, _ => rfl
      | 11, _ => rfl
      | 12, _ => rfl
      | 13, _ => rfl
      | 14, _ => rfl
      | 15, _ => rfl
      | 16, _ => rfl
      | 17, _ => rfl
      | 18, _ => rfl
      | 19, _ => rfl
      | m + 20, h => exact absurd h (by omega)
    have hbp : BP < z.heap.size := by omega
    have hwz : w.heap.size < z.heap.size := by omega
    have hcn : ∀ q, cntP l q n ≤ n := fun q => cntP_le l q n
    have HCN := hide hcn
    have hn0 := HN.out
    have HFL : Hid (fs.length ≤ n) := by have := fnC_len hfn; show _ ≤ _; omega
    clear csp hread hfn hcn HFV HF0 HFP HW HFPP HSPN hFA HY3 HX3 HYS HK3 HXY HBX HZ HBY
    go_wp2_with fail
    go_loopw [8, 9] (fun x i wr => ∃ k : Nat, k ≤ 10 ∧ i = .int .i64 k ∧ x = .int .i64 ((cntP l k n : Nat) : Int) ∧ wr = z) (fun _ i _ => 10 - (intOf i).toNat)
    case atStart => exact ⟨0, by omega, rfl, by rw [cntP_zero]; rfl, rfl⟩
    case round =>
      obtain ⟨k, hk, rfl, rfl, rfl⟩ := hrel
      by_cases hlt : k < 10
      · have hki : (k : Int) < 10 := by omega
        have hk0 : (0 : Int) ≤ (k : Int) := by omega
        have p0 := HSC.out (k * 2) (by omega)
        have p1 := HSC.out (k * 2 + 1) (by omega)
        rw [show (k * 2 + 1) / 2 = k by omega] at p0
        rw [show (k * 2 + 1 + 1) / 2 = k + 1 by omega] at p1
        have hmn : ¬ (((cntP l (k + 1) n : Nat) : Int) < ((cntP l k n : Nat) : Int)) := by have := cntP_mono l k n; omega
        generalize hB : cntP l (k + 1) n = B at *
        have HB := hide hB
        clear hB
        generalize cntP l k n = A at *
        clear s0
        go_wp2_with fail
        case roundEnd => exact ⟨⟨k + 1, by omega, by go_num, by rw [HB.out], trivial⟩, by simp [intOf]; omega⟩
        all_goals (exfalso; omega)
      · have hk10 : k = 10 := by omega
        have hkn : ¬ ((k : Int) < 10) := by omega
        have p2 := HSC.out 2 (by omega)
        have p3 := HSC.out 3 (by omega)
        have p16 := HSC.out 16 (by omega)
        have m2 := HM2.out
        have hmw : IntKind.i64.wrap (((cntP l 1 n : Nat) : Int) + 1) = ((cntP l 2 n : Nat) : Int) := by have := HCN.out 2; rw [IntKind.wrap_i64]; omega
        have ht := cntP_top l k (by omega) n
        have ht9 := cntP_top l 9 (by omega) n
        have HP17 : Hid (wr.cell? ⟨BP, 17, none⟩ = some (.int .i64 (n : Int))) := by have := HSC.out 17 (by omega); rw [show (17 + 1) / 2 = 9 by omega, ht9] at this; exact this
        simp only [show (2 + 1) / 2 = 1 by omega, show (3 + 1) / 2 = 2 by omega, show (16 + 1) / 2 = 8 by omega] at p2 p3 p16
        rw [ht]
        clear ht ht9 hmo hk hlt HSC s0 hk10
        generalize cntP l 1 n = A1 at *
        generalize cntP l 2 n = A2 at *
        generalize cntP l 8 n = A8 at *
        go_wp2_with fail
        rename World => wo
        have HP16 := hide p16
        clear p2 p3 p16 hmw m2
        go_loopw [8, 10] (fun x i wr => ∃ j s : Nat, j ≤ fs.length ∧ i = .int .i64 j ∧ x = .int .i64 (s : Int) ∧ fnC l s (fs.drop j) n ∧ Below wo.heap.size wo wr) (fun _ i _ => fs.length - (intOf i).toNat)
        case atStart => exact ⟨0, A8, by omega, rfl, rfl, HFN.out, Below.refl _ _⟩
        case round =>
          obtain ⟨j, s, hj, rfl, rfl, hfc, hbq⟩ := hrel
          rename World => wq
          have HBQ := hide hbq
          by_cases hlt : j < fs.length
          · have HLTJ := hide hlt
            have WJ := hide (wrap64_next (Nat.lt_of_lt_of_le hlt HFL.out) HN.out)
            have hnx : fs.drop j = nthF fs j :: fs.drop (j + 1) := by
              rw [List.drop_eq_getElem_cons hlt]
              simp [nthF, List.getD, hlt]
            rw [hnx] at hfc
            obtain ⟨F, xp, cp, xq, cq, hx, hF, q0, q1, q2, q3, q4, hblk⟩ := HRD.out j hlt
            obtain ⟨h1, h2, h3, t, h4, h5, h6⟩ := hfc
            have hj0 : (0 : Int) ≤ (j : Int) := by omega
            have hji : (j : Int) < (fs.length : Int) := by omega
            have hle := fnC_le h6
            have hle5 := blkC_le h5
            have H6 := hide h6
            have H5 := hide h5
            have HBL := hide hblk
            replace q0 := (hbq.cell (p := ⟨F, j * 5, none⟩) hF).trans q0
            replace q1 := (hbq.cell (p := ⟨F, j * 5 + 1, none⟩) hF).trans q1
            replace q2 := (hbq.cell (p := ⟨F, j * 5 + 2, none⟩) hF).trans q2
            replace q3 := (hbq.cell (p := ⟨F, j * 5 + 3, none⟩) hF).trans q3
            replace q4 := (hbq.cell (p := ⟨F, j * 5 + 4, none⟩) hF).trans q4
            have hFq : F < wq.heap.size := Nat.lt_of_lt_of_le hF hbq.size
            have hwq : w.heap.size < wq.heap.size := Nat.lt_of_lt_of_le hwz hbq.size
            subst hx
            clear hnx h5 h6 hblk hF
            generalize nthF fs j = fn at *
            obtain ⟨fid, fat, fps, fbs, fen⟩ := fn
            simp only at *
            subst h1 h4
            have hbn : fbs.length ≠ 0 := fun e => h3 (List.length_eq_zero_iff.1 e)
            generalize hbl : fbs.length = bl at *
            have HBN := hide hbl
            have HBNN : Hid (bl ≤ n) := by have h1 := blkC_len H5.out; rw [hbl] at h1; show _ ≤ _; omega
            have hWn := heap_alloc_new wq (.cells #[.int .u32 fid, .int .i64 (s : Int), .slice xp fps.length cp, .slice xq bl cq, .int .i64 (t : Int)] 47)
            have HWN := hide hWn
            have HWS : Hid (wq.heap.size < (wq.alloc (.cells #[.int .u32 fid, .int .i64 (s : Int), .slice xp fps.length cp, .slice xq bl cq, .int .i64 (t : Int)] 47)).heap.size) := by show _ < _; simp
            have HWB := hide ((Below.refl wq.heap.size wq).alloc (Nat.le_refl _) (.cells #[.int .u32 fid, .int .i64 (s : Int), .slice xp fps.length cp, .slice xq bl cq, .int .i64 (t : Int)] 47))
            clear h3 hbl hWn hbq
            go_wp2_with fail
            generalize wq.alloc (.cells #[.int .u32 fid, .int .i64 (s : Int), .slice xp fps.length cp, .slice xq bl cq, .int .i64 (t : Int)] 47) = W at *
            have hws := HWS.out
            have HOW := hide (HBQ.out.trans (HWB.out.mono HBQ.out.size))
            have HWW := hide (HBZ.out.trans (HOW.out.mono HBZ.out.size))
            obtain ⟨cf, _⟩ := one_block HWN.out
            have f0 := fun s : InC (Below W.heap.size W) => s.cell (p := ⟨wq.heap.size, 0, none⟩) hws (cf 0)
            have f1 := fun s : InC (Below W.heap.size W) => s.cell (p := ⟨wq.heap.size, 1, none⟩) hws (cf 1)
            have f3 := fun s : InC (Below W.heap.size W) => s.cell (p := ⟨wq.heap.size, 3, none⟩) hws (cf 3)
            have f4 := fun s : InC (Below W.heap.size W) => s.cell (p := ⟨wq.heap.size, 4, none⟩) hws (cf 4)
            have hwW : w.heap.size < W.heap.size := by omega
            have hbpW : BP < W.heap.size := by have := HBQ.out.size; omega
            have m2 := fun s : InC (Below W.heap.size W) => s.cell (p := ⟨w.heap.size, 2, none⟩) hwW ((HOW.out.cell (p := ⟨w.heap.size, 2, none⟩) hwz).trans HM2.out)
            obtain ⟨g1, o1, aj, cj, nj, ha, hg1, p1, p2, p3, p4, p5, p6, p7⟩ := HV.out.below HWW.out s (by rw [HL.out]; omega)
            rw [h2] at p3
            have r3 := fun s' : InC (Below W.heap.size W) => s'.cell (p := ⟨g1, o1 + s * 4 + 2, none⟩) hg1 p3
            have hne : Nonempty (InC (Below W.heap.size W)) := ⟨⟨W, Below.refl _ _⟩⟩
            have d1 : ¬ ((n : Int) ≤ (t : Int)) := by omega
            have d2 : ¬ (n ≤ t) := by omega
            have d3 : (0 : Int) ≤ (s : Int) := by omega
            have d4 : (s : Int) < (n : Int) := by omega
            have d5 : s < n := by omega
            have d6 : ((bl : Int) == 0) = false := by simp; exact hbn
            have hw1 : IntKind.i64.wrap ((s : Int) + 1) = ((s + 1 : Nat) : Int) := by rw [IntKind.wrap_i64]; omega
            have hw2 : IntKind.i64.wrap (((s + 1 : Nat) : Int) + (fps.length : Int)) = ((s + 1 + fps.length : Nat) : Int) := by rw [IntKind.wrap_i64]; omega
            have HW1 := hide hw1
            have HW2 := hide hw2
            have HG1 := hide ha
            subst ha
            clear cf p1 p2 p3 p4 p5 p6 p7 q0 q1 q2 q3 q4 hw1 hw2 hFq h2
            refine wp_norm ?_
            refine wp_region_class (C := Below W.heap.size W) (by kernel_rfl) (by kernel_rfl) (below_drew W) ?_
            repeat (go_big_quiet_step (fail))
            refine wpQuiet_nil ?_
            rintro _ ⟨sv, rfl⟩
            have v1 := f1 sv
            have v2 := sv.cell (p := ⟨wq.heap.size, 2, none⟩) hws ((one_block HWN.out).1 2)
            have HVW := hide sv.ok
            have hvs : W.heap.size ≤ sv.w.heap.size := sv.ok.size
            have hwqv : wq.heap.size < sv.w.heap.size := by omega
            have HC3 := hide (f3 sv)
            have HC4 := hide (f4 sv)
            have HM2V := hide (m2 sv)
            have hw1 := HW1.out
            have hw2 := HW2.out
            clear hne f0 f1 f3 f4 m2 r3 d1 d2 d3 d4 d5 d6 hbn
            generalize sv.w = V at *
            rw [onNormal_normal]
            go_wp2_with fail
            clear v1 v2 hw1 hw2
            go_loopw [8, 12] (fun x i wr => ∃ k q : Nat, k ≤ bl ∧ i = .int .i64 k ∧ x = .int .i64 (q : Int) ∧ blkC l q (fbs.drop k) t ∧ Below V.heap.size V wr) (fun _ i _ => bl - (intOf i).toNat)
            case atStart => exact ⟨0, s + 1 + fps.length, by omega, rfl, rfl, H5.out, Below.refl _ _⟩
            case round =>
              obtain ⟨k, q, hk, rfl, rfl, hbc, hbr⟩ := hrel
              by_cases hlt3 : k < bl
              · have hnx : fbs.drop k = nthB fbs k :: fbs.drop (k + 1) := by
                  rw [List.drop_eq_getElem_cons (by rw [HBN.out]; exact hlt3)]
                  simp [nthB, List.getD, HBN.out, hlt3]
                rw [hnx] at hbc
                have HLT := hide hlt3
                have WK := hide (wrap64_next (Nat.lt_of_lt_of_le hlt3 HBNN.out) HN.out)
                have hOR := HOW.out.trans ((HVW.out.trans (hbr.mono HVW.out.size)).mono HOW.out.size)
                obtain ⟨G, hx, hG, t0, t1, t2⟩ := HBL.out k hlt3
                obtain ⟨h1, h2, tb, h4, h4', h5, h6⟩ := hbc
                have hk0 : (0 : Int) ≤ (k : Int) := by omega
                have hki : (k : Int) < (bl : Int) := by omega
                have hle6 := blkC_le h6
                have H6' := hide h6
                replace t0 := (hOR.cell (p := ⟨G, k * 3, none⟩) hG).trans t0
                replace t1 := (hOR.cell (p := ⟨G, k * 3 + 1, none⟩) hG).trans t1
                replace t2 := (hOR.cell (p := ⟨G, k * 3 + 2, none⟩) hG).trans t2
                have hGr : G < wr.heap.size := Nat.lt_of_lt_of_le hG hOR.size
                have c3 := (hbr.cell (p := ⟨wq.heap.size, 3, none⟩) hwqv).trans HC3.out
                have hwr2 : wq.heap.size < wr.heap.size := Nat.lt_of_lt_of_le hwqv hbr.size
                have HBR := hide hbr
                have HOR := hide hOR
                subst hx
                clear hnx h6 hG hbr hOR
                generalize nthB fbs k = bn at *
                obtain ⟨bid, bfr, bto⟩ := bn
                simp only at *
                subst h1 h4
                have HWN2 := hide (heap_alloc_new wr (.cells #[.int .u32 bid, .int .i64 (q : Int), .int .i64 (tb : Int)] 49))
                have HWS2 : Hid (wr.heap.size < (wr.alloc (.cells #[.int .u32 bid, .int .i64 (q : Int), .int .i64 (tb : Int)] 49)).heap.size) := by show _ < _; simp
                have HWB2 := hide ((Below.refl wr.heap.size wr).alloc (Nat.le_refl _) (.cells #[.int .u32 bid, .int .i64 (q : Int), .int .i64 (tb : Int)] 49))
                go_wp2_with fail
                generalize wr.alloc (.cells #[.int .u32 bid, .int .i64 (q : Int), .int .i64 (tb : Int)] 49) = U at *
                have hws2 := HWS2.out
                have hVU := HBR.out.trans (HWB2.out.mono HBR.out.size)
                have HVU := hide hVU
                have HOU := HOR.out.trans (HWB2.out.mono HOR.out.size)
                have HWU := HBZ.out.trans (HOU.mono HBZ.out.size)
                obtain ⟨cf, _⟩ := one_block HWN2.out
                have b0 := fun s : InC (Below U.heap.size U) => s.cell (p := ⟨wr.heap.size, 0, none⟩) hws2 (cf 0)
                have b1' := fun s : InC (Below U.heap.size U) => s.cell (p := ⟨wr.heap.size, 1, none⟩) hws2 (cf 1)
                have b2 := fun s : InC (Below U.heap.size U) => s.cell (p := ⟨wr.heap.size, 2, none⟩) hws2 (cf 2)
                have hqU : wq.heap.size < U.heap.size := by omega
                have hwU : w.heap.size < U.heap.size := by omega
                have f4 := fun s : InC (Below U.heap.size U) => s.cell (p := ⟨wq.heap.size, 4, none⟩) hqU ((hVU.cell (p := ⟨wq.heap.size, 4, none⟩) hwqv).trans HC4.out)
                have hwV : w.heap.size < V.heap.size := by omega
                have m2 := fun s : InC (Below U.heap.size U) => s.cell (p := ⟨w.heap.size, 2, none⟩) hwU ((hVU.cell (p := ⟨w.heap.size, 2, none⟩) hwV).trans HM2V.out)
                obtain ⟨g2, o2, aj2, cj2, nj2, ha2, hg2, p1, p2, p3, p4, p5, p6, p7⟩ := HV.out.below HWU q (by rw [HL.out]; omega)
                obtain ⟨g3, o3, aj3, cj3, nj3, ha3, hg3, r1, r2, r3, r4, r5, r6, r7⟩ := HV.out.below HWU (tb - 1) (by rw [HL.out]; omega)
                have e2 : g2 = g1 ∧ o2 = o1 := by injection ha2 with e; injection e with x1 x2; exact ⟨x1.symm, x2.symm⟩
                have e3 : g3 = g1 ∧ o3 = o1 := by injection ha3 with e; injection e with x1 x2; exact ⟨x1.symm, x2.symm⟩
                obtain ⟨rfl, rfl⟩ := e2
                obtain ⟨rfl, rfl⟩ := e3
                rw [h2] at p3
                have u3 := fun s' : InC (Below U.heap.size U) => s'.cell (p := ⟨g3, o3 + q * 4 + 2, none⟩) hg2 p3
                have u1 := fun s' : InC (Below U.heap.size U) => s'.cell (p := ⟨g3, o3 + (tb - 1) * 4, none⟩) hg3 r1
                have hEn := fun s' : InC (Below U.heap.size U) => Calls.inC_same s' (ends_any (nthI l (tb - 1)).1 s'.w)
                rw [h5] at hEn
                have hne : Nonempty (InC (Below U.heap.size U)) := ⟨⟨U, Below.refl _ _⟩⟩
                have z1 : IntKind.i64.wrap ((q : Int) + 1) = ((q + 1 : Nat) : Int) := by rw [IntKind.wrap_i64]; omega
                have z2 : ¬ ((tb : Int) ≤ ((q + 1 : Nat) : Int)) := by omega
                have z2' : ¬ (tb ≤ q + 1) := by omega
                have z2'' : ¬ ((tb : Int) ≤ (q : Int) + 1) := by omega
                have z3 : ¬ ((t : Int) < (tb : Int)) := by omega
                have z3' : ¬ (t < tb) := by omega
                have z4 : (0 : Int) ≤ (q : Int) := by omega
                have z5 : (q : Int) < (n : Int) := by omega
                have z5' : q < n := by omega
                have z6 : IntKind.i64.wrap ((tb : Int) - 1) = ((tb - 1 : Nat) : Int) := by rw [IntKind.wrap_i64]; omega
                have z7 : (0 : Int) ≤ ((tb - 1 : Nat) : Int) := by omega
                have z8 : ((tb - 1 : Nat) : Int) < (n : Int) := by omega
                have z8' : tb - 1 < n := by omega
                have z2d : decide ((tb : Int) ≤ ((q + 1 : Nat) : Int)) = false := by rw [decide_eq_false_iff_not]; omega
                have z3d : decide ((t : Int) < (tb : Int)) = false := by rw [decide_eq_false_iff_not]; omega
                have HTB1 : Hid (tb - 1 + 1 = tb) := by show _ = _; omega
                generalize (nthI l (tb - 1)).1 = ob at *
                generalize tb - 1 = tp at *
                clear cf p1 p2 p3 p4 p5 p6 p7 r1 r2 r3 r4 r5 r6 r7 t0 t1 t2 c3 hVU HOU HWU h2 h4' h5 ha2 ha3 hle6
                refine wp_norm ?_
                refine wp_region_class (C := Below U.heap.size U) (by kernel_rfl) (by kernel_rfl) (below_drew U) ?_
                repeat (go_big_quiet_step ((go_at_call 22; exact hEn _)))
                refine wpQuiet_nil ?_
                rintro _ ⟨sv, rfl⟩
                have v2 := b2 sv
                have hVV := HVU.out.trans (sv.ok.mono HVU.out.size)
                have hws3 := Nat.lt_of_lt_of_le hws2 sv.ok.size
                have HVV := hide hVV
                clear hne b0 b1' b2 f4 m2 u3 u1 hEn z1 z2 z2' z2'' z3 z3' z4 z5 z5' z6 z7 z8 z8' z2d z3d hVV
                generalize sv.w = V2 at *
                rw [onNormal_normal]
                go_wp2_with fail
                go_roundw
                case rel => exact ⟨k + 1, tb, HLT.out, by rw [WK.out], rfl, H6'.out, HVV.out⟩
                case measure =>
                  rw [WK.out]
                  exact meas_next HLT.out
              · obtain rfl : k = bl := by omega
                have hqt : q = t := by rw [← HBN.out, List.drop_length] at hbc; exact hbc
                subst hqt
                have c3 := (hbr.cell (p := ⟨wq.heap.size, 3, none⟩) hwqv).trans HC3.out
                have c4 := (hbr.cell (p := ⟨wq.heap.size, 4, none⟩) hwqv).trans HC4.out
                have hwr2 := Nat.lt_of_lt_of_le hwqv hbr.size
                have WQ := hide (wrap64_next (k := q) (n := n) hle HN.out)
                have HEND := hide (HOW.out.trans ((HVW.out.trans (hbr.mono HVW.out.size)).mono HOW.out.size))
                clear hbr hbc
                go_wp2_with fail
                go_roundw
                case rel => exact ⟨j + 1, q + 1, HLTJ.out, by first | rw [WJ.out] | rfl, by first | rw [WQ.out] | rfl, H6.out, HEND.out⟩
                case measure =>
                  rw [WJ.out]
                  exact meas_next HLTJ.out
          · obtain rfl : j = fs.length := by omega
            have hsn : s = n := by rw [List.drop_length] at hfc; exact hfc
            subst hsn
            have p17 := (hbq.cell (p := ⟨BP, 17, none⟩) hbp).trans HP17.out
            have hbp2 := Nat.lt_of_lt_of_le hbp hbq.size
            clear hfc hlt hj
            have HFIN := hide (HBZ.out.trans (hbq.mono HBZ.out.size))
            clear hbq
            go_wp2_with fail
            go_ret
            exact ⟨by simp, HFIN.out⟩
  · have he' : (e1 == 0) = false := by simpa using he
    have hf := HF0.out he
    have hfm : fx = none ∧ fm = 0 ∧ fcv = 0 := by
      rcases HFV.out with ⟨_, h⟩ | ⟨h, _⟩
      · injection h with h1 h2 h3; exact ⟨h1, h2, h3⟩
      · exact absurd h he
    obtain ⟨rfl, rfl, rfl⟩ := hfm
    simp only [hf] at HSPN
    have hEq := equal_spans z (fun _ => 0)
    clear HFV HF0 HFP HW he hf
    go_wp2_with (with_reducible refine stopD 35 ?_)
    refine wpList_load_midG rfl 35 (.tmp 3) rfl BP 0 rfl [.int .i64 0, .int .i64 0, .int .i64 0, .int .i64 0, .int .i64 0, .int .i64 0, .int .i64 0, .int .i64 0, .int .i64 0, .int .i64 0, .int .i64 0, .int .i64 0, .int .i64 0, .int .i64 0, .int .i64 0, .int .i64 0, .int .i64 0, .int .i64 0, .int .i64 0, .int .i64 0] _ (range_of_block HSPN.out) Try.underlying35 rfl (by kernel_rfl) ?_
    simp only [Act.put, List.setIfInBounds_toArray, List.set_cons_succ, List.set_cons_zero]
    go_wp2_with fail
    go_ret
    exact ⟨by simp, HBZ.out⟩
end Go.Proofs.Ytckhgdjcofpijaa
