/-
  Texts laid together in one: MathY, MathH, AsmRow, Args.
-/
import Derived.Test.YtmobologlaeefaaGreatB02
import Derived.WalkSpells
import Derived.WalkMore
import Derived.BigRegion
import Derived.Deep.QuietTactic
import Derived.BigQuiet
import Derived.Test.YtmobologlaeefaaGreatProg
import Derived.Test.YtmobologlaeefaaGreatB01
import Derived.WideShapes
/-
  The layer lex: what a line's tokens are: each may be; how long; where what is wrong stands; a note behind a line changes nothing. No condition but what each names.
-/
namespace Go.Proofs.YtmobologlaeefaaGreat
open Go.RowKit
set_option linter.unusedSimpArgs false
set_option linter.unusedVariables false

theorem cut_within {m : Int} {l : List Int} (h : Within m l) (a b : Nat) : Within m (cutL l a b) := fun z hz => h z (List.mem_of_mem_take (List.mem_of_mem_drop hz))
theorem cut_length (l : List Int) (a b : Nat) (h : b ≤ l.length) : (cutL l a b).length = b - a := by
  unfold cutL; rw [List.length_drop, List.length_take]; omega
theorem cut_nth (l : List Int) (a b i : Nat) (h : a + i < b) : nth (cutL l a b) i = nth l (a + i) := by
  unfold cutL nth
  simp [List.getD, List.getElem?_drop, List.getElem?_take, h]
theorem run_in {l : List Int} {p i : Nat} (h : p ≤ i) (hi : i < runE l p) : runB (nth l i) = true := by
  have key : ∀ (m : List Int) (j : Nat), j < (m.takeWhile runB).length → runB (nth m j) = true := by
    intro m
    induction m with
    | nil => intro j hj; simp at hj
    | cons c m ih =>
      intro j hj
      by_cases hc : runB c = true
      · rw [List.takeWhile_cons_of_pos hc] at hj
        cases j with
        | zero => exact hc
        | succ j =>
          have := ih j (by simpa using hj)
          simpa [nth, List.getD] using this
      · rw [List.takeWhile_cons_of_neg hc] at hj; simp at hj
  unfold runE at hi
  have := key (l.drop p) (i - p) (by omega)
  rw [nth_dropX, show p + (i - p) = i by omega] at this
  exact this
theorem part_byte {l : List Int} (hw : Within 256 l) {p n : Nat} {b : Int} (h : partP l p = some (b, n)) : 0 ≤ b ∧ b < 256 := by
  have hn : ∀ k, 0 ≤ nth l k ∧ nth l k < 256 := fun k => by
    rcases Nat.lt_or_ge k l.length with h' | h'
    · exact hw.at h'
    · rw [nth_over l k h']; omega
  unfold partP at h
  split at h
  · split at h
    · simp at h; have := hn (p + 1); omega
    · split at h
      · rename_i h1
        simp at h
        have a := dv_lo (nth l (p + 2)); have b := (dv_hex (nth l (p + 2))).2 h1.2.1
        have c := dv_lo (nth l (p + 3)); have d := (dv_hex (nth l (p + 3))).2 h1.2.2
        omega
      · cases h
  · split at h
    · simp at h; have := hn p; omega
    · cases h
theorem quot_bytes {l : List Int} (hw : Within 256 l) {p q : Nat} {b : List Int} (h : quotP l p = some (b, q)) : Within 256 b ∧ b.length + p + 1 ≤ q := by
  have key : ∀ (f p q : Nat) (b : List Int), quotF f l p = some (b, q) → Within 256 b ∧ b.length + p + 1 ≤ q := by
    intro f
    induction f with
    | zero => intro p q b h; cases h
    | succ f ih =>
      intro p q b h
      rw [quotF_succ] at h
      split at h
      · simp at h
        obtain ⟨rfl, rfl⟩ := h
        exact ⟨fun z hz => by simp at hz, by simp⟩
      · cases e : partP l p with
        | none => rw [e] at h; cases h
        | some bn =>
          obtain ⟨b', n⟩ := bn
          rw [e] at h
          simp only [Option.map_eq_some_iff] at h
          obtain ⟨⟨bs, q'⟩, h1, h2⟩ := h
          simp only [Prod.mk.injEq] at h2
          obtain ⟨rfl, rfl⟩ := h2
          have h3 := ih _ _ _ h1
          have h4 := part_byte hw e
          have h5 := partP_some e
          exact ⟨within_cons h4.1 h4.2 h3.1, by simp only [List.length_cons]; omega⟩
  exact key _ p q b h
/-- The token at a place may be; its text is no longer than it is. -/
theorem tok_good {l : List Int} (hw : Within 256 l) {p q : Nat} {k : Int} {t : List Int} (hp : p < l.length) (h : tokP l p = .inr (k, t, q)) : tokOk k t = true ∧ Within 256 t ∧ t.length + p ≤ q ∧ 0 ≤ k ∧ k < 256 := by
  have hq := tokP_end hp h
  unfold tokP at h
  split at h
  · rename_i hc
    simp only [Sum.inr.injEq, Prod.mk.injEq] at h
    obtain ⟨rfl, rfl, rfl⟩ := h
    refine ⟨?_, cut_within hw _ _, by rw [cut_length _ _ _ hq.2]; omega, by decide, by decide⟩
    have hl := cut_length l p (runE l p) hq.2
    show wordB _ = true
    rw [word_all (fun e => by rw [e] at hl; simp at hl; omega) (fun i hi => ?_), cut_nth _ _ _ _ (by omega)]
    · exact hc
    · rw [hl] at hi
      rw [cut_nth l p (runE l p) i (by omega)]
      exact run_in (p := p) (by omega) (by omega)
  · split at h
    · split at h
      · rename_i hc
        simp only [Sum.inr.injEq, Prod.mk.injEq] at h
        obtain ⟨rfl, rfl, rfl⟩ := h
        exact ⟨hc, cut_within hw _ _, by rw [cut_length _ _ _ hq.2]; omega, by decide, by decide⟩
      · cases h
    · split at h
      · split at h
        · rename_i hc
          simp only [Sum.inr.injEq, Prod.mk.injEq] at h
          obtain ⟨rfl, rfl, rfl⟩ := h
          exact ⟨hc, cut_within hw _ _, by rw [cut_length _ _ _ hq.2]; omega, by decide, by decide⟩
        · cases h
      · split at h
        · split at h
          · rename_i e
            have := quot_bytes hw e
            simp only [Sum.inr.injEq, Prod.mk.injEq] at h
            obtain ⟨rfl, rfl, rfl⟩ := h
            exact ⟨rfl, this.1, by omega, by decide, by decide⟩
          · cases h
        · split at h
          · simp only [Sum.inr.injEq, Prod.mk.injEq] at h
            obtain ⟨rfl, rfl, rfl⟩ := h
            exact ⟨rfl, within_one (by decide) (by decide), by simp; omega, by decide, by decide⟩
          · cases h
theorem tok_err {l : List Int} {p : Nat} {e : Int} (h : tokP l p = .inl e) : e = 60 ∨ e = 61 ∨ e = 62 := by
  unfold tokP at h
  repeat' (split at h)
  all_goals simp at h
  all_goals omega
/-- Of all tokens of a line. -/
theorem toks_good {l : List Int} (hw : Within 256 l) (p : Nat) : wOk (toksP l p).1 = true ∧ bulkT (toksP l p).1 ≤ l.length - p ∧ (toksP l p).1.length ≤ l.length - p ∧ (∀ t ∈ (toksP l p).1, 0 ≤ t.1 ∧ t.1 < 256 ∧ t.2.1.size ≤ l.length ∧ 0 ≤ t.2.2 ∧ t.2.2 < l.length) ∧
    ((toksP l p).2.1 = 0 ∨ ((toksP l p).2.1 = 60 ∨ (toksP l p).2.1 = 61 ∨ (toksP l p).2.1 = 62) ∧ 0 ≤ (toksP l p).2.2 ∧ (toksP l p).2.2 < l.length) := by
  have key : ∀ f p, wOk (toksF f l p).1 = true ∧ bulkT (toksF f l p).1 ≤ l.length - p ∧ (toksF f l p).1.length ≤ l.length - p ∧ (∀ t ∈ (toksF f l p).1, 0 ≤ t.1 ∧ t.1 < 256 ∧ t.2.1.size ≤ l.length ∧ 0 ≤ t.2.2 ∧ t.2.2 < l.length) ∧
    ((toksF f l p).2.1 = 0 ∨ ((toksF f l p).2.1 = 60 ∨ (toksF f l p).2.1 = 61 ∨ (toksF f l p).2.1 = 62) ∧ 0 ≤ (toksF f l p).2.2 ∧ (toksF f l p).2.2 < l.length) := by
    intro f
    induction f with
    | zero => intro p; exact ⟨rfl, by simp [toksF, bulkT], by simp [toksF], fun t ht => by simp [toksF] at ht, .inl rfl⟩
    | succ f ih =>
      intro p
      rw [toksF_succ]
      split
      · rename_i hc
        split
        · have := ih (p + 1)
          exact ⟨this.1, by omega, by omega, this.2.2.2.1, this.2.2.2.2⟩
        · cases e : tokP l p with
          | inl er =>
            have := tok_err e
            exact ⟨rfl, by simp [bulkT], by simp, fun t ht => by simp at ht, .inr ⟨this, by simp; omega⟩⟩
          | inr r =>
            obtain ⟨k, t, q⟩ := r
            have hq := tokP_end hc.1 e
            obtain ⟨g1, g2, g3, g4, g5⟩ := tok_good hw hc.1 e
            obtain ⟨i1, i2, i3, i4, i5⟩ := ih q
            simp only
            unfold consR
            split
            · rename_i h0
              have hsz : (strOfNums t).size = t.length := strOfNums_size t
              refine ⟨?_, ?_, ?_, ?_, .inl rfl⟩
              · simp only [wOk, List.all_cons, Bool.and_eq_true]
                refine ⟨by rw [strI_of g2]; exact g1, i1⟩
              · simp only [bulkT, List.map_cons, List.sum_cons] at i2 ⊢
                rw [hsz]; omega
              · simp only [List.length_cons]; omega
              · intro x hx
                rcases List.mem_cons.1 hx with rfl | hx
                · exact ⟨g4, g5, by simp only [hsz]; omega, by simp, by simp; omega⟩
                · exact i4 x hx
            · exact ⟨i1, by omega, by omega, i4, i5⟩
      · exact ⟨rfl, by simp [bulkT], by simp, fun t ht => by simp at ht, .inl rfl⟩
  exact key _ p
theorem toksIn_of {l : List TokT} {n : Nat} (hn : n ≤ 140737488351232) (h : ∀ t ∈ l, 0 ≤ t.1 ∧ t.1 < 256 ∧ t.2.1.size ≤ n ∧ 0 ≤ t.2.2 ∧ t.2.2 < n) : ToksIn l := by
  intro j hj
  rw [nthT_lt l j hj]
  have := h _ (List.getElem_mem hj)
  exact ⟨this.1, this.2.1, by omega, by omega, by omega⟩

/-! ### tokens that are written anew -/

theorem placed_wAll (l : List TokT) : ∀ p, wAll (placed p l) = wAll l := by
  induction l with
  | nil => intro p; rfl
  | cons t r ih => intro p; simp only [placed, wAll, List.flatMap_cons] at ih ⊢; rw [ih]
theorem placed_wOk (l : List TokT) : ∀ p, wOk (placed p l) = wOk l := by
  induction l with
  | nil => intro p; rfl
  | cons t r ih => intro p; simp only [placed, wOk, List.all_cons] at ih ⊢; rw [ih]
theorem placed_len (l : List TokT) : ∀ p, (placed p l).length = l.length := by
  induction l with
  | nil => intro p; rfl
  | cons t r ih => intro p; simp [placed, ih]
theorem placed_bulk (l : List TokT) : ∀ p, bulkT (placed p l) = bulkT l := by
  induction l with
  | nil => intro p; rfl
  | cons t r ih => intro p; simp only [placed, bulkT, List.map_cons, List.sum_cons] at ih ⊢; rw [ih]
/-- Where the token at a place is written. -/
def placeAt (l : List TokT) (k : Nat) : Nat := (wAll (l.take k)).length
theorem placed_nth (l : List TokT) : ∀ p k, k < l.length → nthT (placed p l) k = ((nthT l k).1, (nthT l k).2.1, ((p + placeAt l k : Nat) : Int)) := by
  induction l with
  | nil => intro p k h; simp at h
  | cons t r ih =>
    intro p k h
    cases k with
    | zero => simp [placed, nthT, placeAt, wAll]
    | succ k =>
      have := ih (p + (tokS t.1 (strI t.2.1)).length + 1) k (by simpa using h)
      have e1 : nthT (placed p (t :: r)) (k + 1) = nthT (placed (p + (tokS t.1 (strI t.2.1)).length + 1) r) k := by simp [placed, nthT, List.getD]
      have e2 : nthT (t :: r) (k + 1) = nthT r k := by simp [nthT, List.getD]
      have e3 : placeAt (t :: r) (k + 1) = (tokS t.1 (strI t.2.1)).length + 1 + placeAt r k := by simp [placeAt, wAll]; omega
      rw [e1, e2, e3, this]
      congr 3; omega
theorem placed_in {l : List TokT} (h : ToksIn l) (hb : (wAll l).length ≤ 140737488351232) : ToksIn (placed 0 l) := by
  intro j hj
  rw [placed_len] at hj
  rw [placed_nth l 0 j hj]
  have := h j hj
  have hp : placeAt l j ≤ (wAll l).length := by
    unfold placeAt
    have e : wAll l = wAll (l.take j) ++ wAll (l.drop j) := by
      unfold wAll
      rw [← List.flatMap_append, List.take_append_drop]
    rw [e]; simp
  exact ⟨this.1, this.2.1, this.2.2.1, by simp only; omega, by simp only; omega⟩
theorem wOut_ok {l : List TokT} (h : wOk l = true) : wOut l = (wAll l).drop 1 := by unfold wOut; rw [h]; rfl
theorem wOut_within (l : List TokT) : Within 256 (wOut l) := by
  unfold wOut; split
  · exact within_dropX (wAll_within l) 1
  · exact fun z hz => by simp at hz
theorem wOut_len (l : List TokT) : (wOut l).length ≤ 4 * bulkT l + 3 * l.length := by
  have := wAll_len l
  unfold wOut; split
  · rw [List.length_drop]; omega
  · simp
/-- The line that is written is read. -/
theorem toks_wOut {l : List TokT} (h : wOk l = true) : toksP (strI (strOfNums (wOut l))) 0 = (placed 0 l, 0, 0) := by
  rw [strI_of (wOut_within l), wOut_ok h]; exact toks_written l h
theorem placed_wOut (l : List TokT) : wOut (placed 0 l) = wOut l ∧ wErr (placed 0 l) = wErr l := by
  unfold wOut wErr; rw [placed_wOk, placed_wAll]; exact ⟨rfl, rfl⟩
theorem alike_placed {l : List TokT} {k : Nat} (h : k < l.length) : (nthT (placed 0 l) k).1 = (nthT l k).1 ∧ (nthT (placed 0 l) k).2.1 = (nthT l k).2.1 := by
  rw [placed_nth l 0 k h]; exact ⟨rfl, rfl⟩

/-! ### a note behind a line -/

theorem nth_front (l s : List Int) (p : Nat) (h : p < l.length) : nth (l ++ s) p = nth l p := getD_left _ _ _ h
theorem run_front {l s : List Int} (hs : runB (nth s 0) = false) {p : Nat} (hp : p ≤ l.length) : runE (l ++ s) p = runE l p := by
  have hle := runE_le l p hp
  refine runE_spec (runE_ge l p) (by rw [List.length_append]; omega) (fun i h1 h2 => by rw [nth_front _ _ _ (by omega)]; exact run_in h1 h2) (.inr ?_)
  rcases Nat.lt_or_ge (runE l p) l.length with h | h
  · rw [nth_front _ _ _ h]
    have key : ∀ (m : List Int), (m.takeWhile runB).length < m.length → runB (nth m (m.takeWhile runB).length) = false := by
      intro m
      induction m with
      | nil => intro h; simp at h
      | cons c m ih =>
        intro h
        by_cases hc : runB c = true
        · rw [List.takeWhile_cons_of_pos hc] at h ⊢
          have := ih (by simpa using h)
          simpa [nth, List.getD] using this
        · rw [List.takeWhile_cons_of_neg hc]; simpa [nth, List.getD] using hc
    have h2 := h
    unfold runE at h2
    have := key (l.drop p) (by rw [List.length_drop]; omega)
    rw [nth_dropX] at this
    exact this
  · have e : runE l p = l.length := by omega
    rw [e, getD_right _ _ _ (Nat.le_refl _), Nat.sub_self]; exact hs
theorem cut_front2 {l s : List Int} {a b : Nat} (h : b ≤ l.length) : cutL (l ++ s) a b = cutL l a b := by
  unfold cutL; rw [List.take_append_of_le_length h]
theorem part_front {l s : List Int} {p n : Nat} {b : Int} (h : partP l p = some (b, n)) : partP (l ++ s) p = some (b, n) := by
  have hlt : ∀ k, nth l k ≠ 0 → k < l.length := fun k hk => by
    rcases Nat.lt_or_ge k l.length with h' | h'
    · exact h'
    · exact absurd (nth_over l k h') hk
  have hx : hexB 0 = false := by decide
  unfold partP at h ⊢
  split at h
  · rename_i h0
    rw [nth_front _ _ _ (hlt p (by omega)), if_pos h0]
    split at h
    · rename_i h1
      rw [nth_front _ _ _ (hlt (p + 1) (by omega)), if_pos h1]; exact h
    · rename_i h1
      split at h
      · rename_i h2
        rw [nth_front _ _ _ (hlt (p + 1) (by omega)), nth_front _ _ _ (hlt (p + 2) (fun e => by rw [e, hx] at h2; exact absurd h2.2.1 (by decide))), nth_front _ _ _ (hlt (p + 3) (fun e => by rw [e, hx] at h2; exact absurd h2.2.2 (by decide))), if_neg h1, if_pos h2]; exact h
      · cases h
  · rename_i h0
    split at h
    · rename_i h1
      rw [nth_front _ _ _ (hlt p (fun e => by rw [e] at h1; exact absurd h1 (by decide))), if_neg h0, if_pos h1]; exact h
    · cases h
theorem quot_front {l s : List Int} {p q : Nat} {b : List Int} (h : quotP l p = some (b, q)) : quotP (l ++ s) p = some (b, q) := by
  have key : ∀ (f p q : Nat) (b : List Int), quotF f l p = some (b, q) → ∀ g, f ≤ g → quotF g (l ++ s) p = some (b, q) := by
    intro f
    induction f with
    | zero => intro p q b h; cases h
    | succ f ih =>
      intro p q b h g hg
      obtain ⟨g, rfl⟩ : ∃ g', g = g' + 1 := ⟨g - 1, by omega⟩
      rw [quotF_succ] at h ⊢
      split at h
      · rename_i h0
        have : p < l.length := by
          rcases Nat.lt_or_ge p l.length with h' | h'
          · exact h'
          · rw [nth_over l p h'] at h0; omega
        rw [nth_front _ _ _ this, if_pos h0]; exact h
      · rename_i h0
        cases e : partP l p with
        | none => rw [e] at h; cases h
        | some bn =>
          obtain ⟨b', n⟩ := bn
          have hp := partP_some e
          rw [e] at h
          rw [nth_front _ _ _ (by omega), if_neg h0, part_front e]
          simp only [Option.map_eq_some_iff] at h ⊢
          obtain ⟨⟨bs, q'⟩, h1, h2⟩ := h
          exact ⟨(bs, q'), ih _ _ _ h1 g (by omega), h2⟩
  exact key _ p q b h _ (by simp)
theorem tok_front {l s : List Int} (hs : runB (nth s 0) = false) {p q : Nat} {k : Int} {t : List Int} (hp : p < l.length) (h : tokP l p = .inr (k, t, q)) : tokP (l ++ s) p = .inr (k, t, q) := by
  have h1 := runE_le l (p + 1) (by omega)
  have h0 := runE_le l p (by omega)
  unfold tokP at h ⊢
  rw [nth_front _ _ _ hp, run_front hs (by omega), run_front hs (by omega), cut_front2 h0, cut_front2 h1, cut_front2 h1]
  split at h
  · rename_i c; rw [if_pos c]; exact h
  · rename_i c; rw [if_neg c]
    split at h
    · rename_i c; rw [if_pos c]; exact h
    · rename_i c; rw [if_neg c]
      split at h
      · rename_i c; rw [if_pos c]; exact h
      · rename_i c; rw [if_neg c]
        split at h
        · rename_i c; rw [if_pos c]
          cases e : quotP l (p + 1) with
          | none => rw [e] at h; cases h
          | some r =>
            obtain ⟨b, q'⟩ := r
            rw [e] at h
            rw [quot_front e]; exact h
        · rename_i c; rw [if_neg c]; exact h
/-- Blanks and a note behind a line that is right change no token. -/
theorem toks_note (l note : List Int) (h : (toksP l 0).2.1 = 0) : toksP (l ++ 32 :: 59 :: note) 0 = toksP l 0 := by
  have hs : runB (nth (32 :: 59 :: note) 0) = false := rfl
  have hend : toksP (l ++ 32 :: 59 :: note) l.length = ([], 0, 0) := by
    rw [toksP_blank (by simp) (by rw [getD_right _ _ _ (Nat.le_refl _), Nat.sub_self]; rfl)]
    refine toksP_end fun hc => hc.2 ?_
    rw [getD_right _ _ _ (by omega)]
    rw [show l.length + 1 - l.length = 1 by omega]; rfl
  have key : ∀ f p, l.length - p < f → p ≤ l.length → (toksP l p).2.1 = 0 → toksP (l ++ 32 :: 59 :: note) p = toksP l p := by
    intro f
    induction f with
    | zero => intro p h; omega
    | succ f ih =>
      intro p hf hp h0
      by_cases hlt : p < l.length
      · have hlt2 : p < (l ++ 32 :: 59 :: note).length := by simp; omega
        have hn := nth_front l (32 :: 59 :: note) p hlt
        by_cases h59 : nth l p = 59
        · rw [toksP_end (l := l) (fun hc => hc.2 h59), toksP_end (fun hc => hc.2 (by rw [hn]; exact h59))]
        · cases hb : blankB (nth l p)
          · cases e : tokP l p with
            | inl er =>
              rw [toksP_err hlt h59 hb e] at h0
              simp only at h0
              have := tok_err e
              omega
            | inr r =>
              obtain ⟨k, t, q⟩ := r
              have hq := tokP_end hlt e
              rw [toksP_tok hlt h59 hb e] at h0 ⊢
              rw [toksP_tok hlt2 (by rw [hn]; exact h59) (by rw [hn]; exact hb) (tok_front hs hlt e)]
              have h0' : (toksP l q).2.1 = 0 := by
                unfold consR at h0
                split at h0
                · assumption
                · exact h0
              rw [ih q (by omega) hq.2 h0']
          · rw [toksP_blank hlt hb] at h0 ⊢
            rw [toksP_blank hlt2 (by rw [hn]; exact hb)]
            exact ih (p + 1) (by omega) (by omega) h0
      · obtain rfl : p = l.length := by omega
        rw [hend, toksP_end (fun hc => hlt hc.1)]
  exact key (l.length + 1) 0 (by omega) (by omega) h

/-! ### a quoted text alone -/

theorem quote_print (t : List Int) (hw : Within 256 t) : ∀ z ∈ quoteL t, 32 ≤ z ∧ z ≤ 126 := by
  intro z hz
  simp only [quoteL, List.mem_cons, List.mem_append, List.mem_flatMap, List.not_mem_nil, or_false] at hz
  rcases hz with rfl | ⟨c, hc, hz⟩ | rfl
  · omega
  · have hcb := hw c hc
    unfold escL at hz
    split at hz
    · simp at hz; omega
    · split at hz
      · rename_i hp
        simp only [printB, decide_eq_true_eq] at hp
        simp at hz; omega
      · simp only [List.mem_cons, List.not_mem_nil, or_false] at hz
        have hd : ∀ n : Int, 0 ≤ n → n < 16 → 32 ≤ hexD n ∧ hexD n ≤ 126 := fun n a b => by unfold hexD; split <;> omega
        rcases hz with rfl | rfl | rfl | rfl
        · omega
        · omega
        · exact hd _ (by omega) (by omega)
        · exact hd _ (by omega) (by omega)
  · omega
theorem toks_quoted (t : List Int) (hw : Within 256 t) : toksP (quoteL t) 0 = ([(4, strOfNums t, 0)], 0, 0) := by
  obtain ⟨h1, h2, h3⟩ := tok_read (k := 4) (t := t) (rest := []) rfl hw rfl
  have e : tokS 4 t ++ [] = quoteL t := by simp [tokS]
  have el : (tokS 4 t).length = (quoteL t).length := by simp [tokS]
  rw [e] at h1 h2 h3
  rw [el] at h1
  rw [toksP_tok (by simp [quoteL]) h3 h2 h1, toksP_end (fun hc => by omega)]; rfl

end Go.Proofs.YtmobologlaeefaaGreat

/-
  What the tokens of a head's line say, as plain functions.
-/
namespace Go.Proofs.YtmobologlaeefaaGreat
open Go.RowKit
set_option linter.unusedVariables false
set_option linter.unusedSimpArgs false

def moduleS : ByteArray := ⟨#[109, 111, 100, 117, 108, 101]⟩

/-- What is wrong with a token that must be a number. -/
def numP (t : TokT) : Int := if t.1 ≠ 3 then 70 else numErr (strI t.2.1)

/-- What the tokens of a head's line say: generator, bound, what is wrong, where. -/
def headP (l : List TokT) (len : Int) : Int × Int × Int × Int :=
  if l.length < 1 then (0, 0, 72, len)
  else if ¬ ((nthT l 0).1 = 1 ∧ (nthT l 0).2.1 = moduleS) then (0, 0, 70, (nthT l 0).2.2)
  else if l.length < 2 then (0, 0, 72, len)
  else if numP (nthT l 1) ≠ 0 then (0, 0, numP (nthT l 1), (nthT l 1).2.2)
  else if l.length < 3 then (0, 0, 72, len)
  else if numP (nthT l 2) ≠ 0 then (0, 0, numP (nthT l 2), (nthT l 2).2.2)
  else if numV (strI (nthT l 2).2.1) < 1 ∨ 65536 < numV (strI (nthT l 2).2.1) then (0, 0, 24, (nthT l 2).2.2)
  else if 3 < l.length then (0, 0, 70, (nthT l 3).2.2)
  else (numV (strI (nthT l 1).2.1), numV (strI (nthT l 2).2.1), 0, 0)

/-- What a head's line says. -/
def headS (s : ByteArray) : Int × Int × Int × Int :=
  if (toksP (strI s) 0).2.1 ≠ 0 then (0, 0, (toksP (strI s) 0).2.1, (toksP (strI s) 0).2.2) else headP (toksP (strI s) 0).1 s.size

theorem numV_ok {l : List Int} (h : numB l = true) : numErr l = 0 ∧ numOut l = numV l ∧ 0 ≤ numV l ∧ numV l < 4294967296 := by
  have := num_bounds h
  refine ⟨?_, ?_, this.1, this.2⟩
  · unfold numErr; rw [h]; rfl
  · unfold numOut; rw [h]; rfl
theorem numErr_zero {l : List Int} (h : numErr l = 0) : numB l = true := by
  unfold numErr at h; split at h
  · assumption
  · omega

/-- The first token is wrong. -/
theorem headP_first {l : List TokT} {len : Int} (h : 0 < l.length) : ¬ ((nthT l 0).1 = 1 ∧ (nthT l 0).2.1 = moduleS) → headP l len = (0, 0, 70, (nthT l 0).2.2) := fun h1 => by
  unfold headP; rw [if_neg (by omega), if_pos h1]
theorem headP_early {l : List TokT} {len : Int} (h : l.length < 3) (h0 : 1 ≤ l.length → (nthT l 0).1 = 1 ∧ (nthT l 0).2.1 = moduleS) (h1 : 2 ≤ l.length → numP (nthT l 1) = 0) : headP l len = (0, 0, 72, len) := by
  unfold headP
  by_cases a : l.length < 1
  · rw [if_pos a]
  · rw [if_neg a, if_neg (by have := h0 (by omega); simp [this])]
    by_cases b : l.length < 2
    · rw [if_pos b]
    · rw [if_neg b, if_neg (by have := h1 (by omega); omega), if_pos h]
theorem headP_one {l : List TokT} {len : Int} (h : 1 < l.length) (h0 : (nthT l 0).1 = 1 ∧ (nthT l 0).2.1 = moduleS) : numP (nthT l 1) ≠ 0 → headP l len = (0, 0, numP (nthT l 1), (nthT l 1).2.2) := fun h1 => by
  unfold headP; rw [if_neg (by omega), if_neg (by simp [h0]), if_neg (by omega), if_pos h1]
theorem headP_two {l : List TokT} {len : Int} (h : 2 < l.length) (h0 : (nthT l 0).1 = 1 ∧ (nthT l 0).2.1 = moduleS) (h1 : numP (nthT l 1) = 0) :
    (numP (nthT l 2) ≠ 0 → headP l len = (0, 0, numP (nthT l 2), (nthT l 2).2.2)) ∧ (numP (nthT l 2) = 0 → (numV (strI (nthT l 2).2.1) < 1 ∨ 65536 < numV (strI (nthT l 2).2.1)) → headP l len = (0, 0, 24, (nthT l 2).2.2)) := by
  unfold headP
  rw [if_neg (by omega), if_neg (by simp [h0]), if_neg (by omega), if_neg (by omega), if_neg (by omega)]
  exact ⟨fun h2 => by rw [if_pos h2], fun h2 h3 => by rw [if_neg (by omega), if_pos h3]⟩
theorem headP_three {l : List TokT} {len : Int} (h : 2 < l.length) (h0 : (nthT l 0).1 = 1 ∧ (nthT l 0).2.1 = moduleS) (h1 : numP (nthT l 1) = 0) (h2 : numP (nthT l 2) = 0) (h3 : ¬ (numV (strI (nthT l 2).2.1) < 1 ∨ 65536 < numV (strI (nthT l 2).2.1))) :
    headP l len = if 3 < l.length then (0, 0, 70, (nthT l 3).2.2) else (numV (strI (nthT l 1).2.1), numV (strI (nthT l 2).2.1), 0, 0) := by
  unfold headP
  rw [if_neg (by omega), if_neg (by simp [h0]), if_neg (by omega), if_neg (by omega), if_neg (by omega), if_neg (by omega), if_neg h3]
theorem numP_kind {t : TokT} (h : t.1 ≠ 3) : numP t = 70 := by unfold numP; rw [if_pos h]
theorem numP_num {t : TokT} (h : t.1 = 3) : numP t = numErr (strI t.2.1) := by unfold numP; rw [if_neg (by simp [h])]

end Go.Proofs.YtmobologlaeefaaGreat

/-
  What faultAt and the methods ended and take of a row of tokens return, of the layer asm.
-/
namespace Go.Proofs.YtmobologlaeefaaGreat
open Go.RowKit
set_option linter.unusedVariables false
set_option linter.unusedSimpArgs false
set_option maxRecDepth 10000

def noTok : TokT := (0, ⟨#[]⟩, 0)
/-- Where a fault is told: at 0, if there is none. -/
def fltA (e p : Int) : Int := if e = 0 then 0 else p

theorem blk_cells {w : World} {B T : Nat} {cs : Array Value} (h : w.heap[B]? = some (.cells cs T (0, 0))) : (∀ i, w.cell? ⟨B, i, none⟩ = cs[i]?) ∧ (∀ i, w.frozen? ⟨B, i, none⟩ = false) :=
  ⟨fun i => by simp only [World.cell?, h]; rfl, fun i => by simp [World.frozen?, h]⟩
theorem two_set {w : World} {B T : Nat} {z0 z1 : Value} (h : w.heap[B]? = some (.cells #[z0, z1] T (0, 0))) (u0 u1 : Value) :
    ((w.setCell ⟨B, 0, none⟩ u0).setCell ⟨B, 1, none⟩ u1).heap[B]? = some (.cells #[u0, u1] T (0, 0)) := by
  simp only [World.setCell, Array.getElem?_modify, h]; simp
theorem three_setA {w : World} {B T : Nat} {z0 z1 z2 : Value} (h : w.heap[B]? = some (.cells #[z0, z1, z2] T (0, 0))) (u0 u1 u2 : Value) :
    (((w.setCell ⟨B, 0, none⟩ u0).setCell ⟨B, 1, none⟩ u1).setCell ⟨B, 2, none⟩ u2).heap[B]? = some (.cells #[u0, u1, u2] T (0, 0)) := by
  simp only [World.setCell, Array.getElem?_modify, h]; simp

set_option maxHeartbeats 1000000 in
theorem faultAt_any (t : TokT) (e : Int) (w : World) :
    Calls Tryz.prog 121 #[tokV t, .int .i64 e] w fun x w' => x = .returned (.agg #[.int .i64 e, .int .i64 (fltA e t.2.2)]) ∧ Below w.heap.size w w' := by
  obtain ⟨t1, t2, t3⟩ := t
  unfold tokV
  simp only
  by_cases h : e = 0
  · subst h
    go_enter Tryz.func121, Tryz.ntmps121
    go_wp2
    refine bodyPost_ret (v := .agg #[.int .i64 0, .int .i64 0]) ?_ rfl ⟨rfl, ?_⟩
    · simp [results, Tryz.results121, go_sem]
    · exact ((Below.refl _ w).alloc (Nat.le_refl _) _).alloc (by simp) _
  · have h' : (e == 0) = false := by simpa using h
    have e1 : fltA e t3 = t3 := by unfold fltA; rw [if_neg h]
    rw [e1]
    clear h e1
    go_enter Tryz.func121, Tryz.ntmps121
    go_wp2
    refine bodyPost_ret (v := .agg #[.int .i64 e, .int .i64 t3]) ?_ rfl ⟨rfl, ?_⟩
    · simp [results, Tryz.results121, go_sem]
    · exact ((Below.refl _ w).alloc (Nat.le_refl _) _).alloc (by simp) _

/-- A row of tokens in memory, at the front of a block. -/
def RowAt (w : World) (B : Nat) (a : Option Addr) (n c k : Nat) (len : Int) (rest : Array Value) (T : Nat) : Prop := w.heap[B]? = some (.cells (#[.slice a n c, .int .i64 (k : Int), .int .i64 len] ++ rest) T (0, 0))
theorem RowAt.lt {w : World} {B : Nat} {a : Option Addr} {n c k : Nat} {len : Int} {rest : Array Value} {T : Nat} (h : RowAt w B a n c k len rest T) : B < w.heap.size := (Array.getElem?_eq_some_iff.1 h).1
theorem RowAt.cells {w : World} {B : Nat} {a : Option Addr} {n c k : Nat} {len : Int} {rest : Array Value} {T : Nat} (h : RowAt w B a n c k len rest T) :
    w.cell? ⟨B, 0, none⟩ = some (.slice a n c) ∧ w.cell? ⟨B, 1, none⟩ = some (.int .i64 (k : Int)) ∧ w.cell? ⟨B, 2, none⟩ = some (.int .i64 len) ∧ ∀ i, w.frozen? ⟨B, i, none⟩ = false := by
  unfold RowAt at h
  refine ⟨?_, ?_, ?_, fun i => ?_⟩
  · simp only [World.cell?, h]; rw [Array.getElem?_append_left (by simp)]; rfl
  · simp only [World.cell?, h]; rw [Array.getElem?_append_left (by simp)]; rfl
  · simp only [World.cell?, h]; rw [Array.getElem?_append_left (by simp)]; rfl
  · simp [World.frozen?, h]
theorem RowAt.below {w w' : World} {B : Nat} {a : Option Addr} {n c k : Nat} {len : Int} {rest : Array Value} {T : Nat} (h : RowAt w B a n c k len rest T) (hb : Below w.heap.size w w') : RowAt w' B a n c k len rest T := (hb.block _ h.lt).trans h
theorem RowAt.step {w : World} {B : Nat} {a : Option Addr} {n c k : Nat} {len : Int} {rest : Array Value} {T : Nat} (h : RowAt w B a n c k len rest T) : RowAt (w.setCell ⟨B, 1, none⟩ (.int .i64 ((k + 1 : Nat) : Int))) B a n c (k + 1) len rest T := by
  unfold RowAt at *
  simp only [World.setCell, Array.getElem?_modify, h]
  simp
theorem grown_put {w A X : World} {r : Option Nat} (h : w.grownBy A r) (k : Below w.heap.size A X) : w.grownBy X r := ⟨k.os.trans h.os, k.tape.trans h.tape, k.output.trans h.output, Nat.le_trans h.size k.size, fun i hi hr => (k.block i hi).trans (h.block i hi hr)⟩
theorem grown_below2 {A B : World} (h : Below A.heap.size A B) (row : Option Nat) : A.grownBy B row := ⟨h.os, h.tape, h.output, h.size, fun k hk _ => h.block k hk⟩

set_option maxHeartbeats 1000000 in
theorem ended_any (B : Nat) (a : Option Addr) (n c k : Nat) (len : Int) (rest : Array Value) (T : Nat) (w : World) (h : RowAt w B a n c k len rest T) :
    Calls Tryz.prog 60 #[.pointer (some ⟨B, 0, none⟩)] w fun e w' => e = .returned (.bool ((k : Int) == (n : Int))) ∧ ∃ q, w' = w.drewN q := by
  obtain ⟨c0, c1, c2, cf⟩ := h.cells
  clear h
  go_enter Tryz.func60, Tryz.ntmps60
  go_wp2
  go_quiet (fail)
  go_wp2
  go_ret
  exact ⟨rfl, _, rfl⟩

/-- The two results' boxes. -/
theorem tok_spot_boxes (w : World) : ((w.alloc (.cells #[.int .u8 0, .string ⟨#[]⟩, .int .i64 0] 102)).alloc (.cells #[.int .i64 0, .int .i64 0] 28)).heap[w.heap.size]? = some (.cells #[.int .u8 0, .string ⟨#[]⟩, .int .i64 0] 102 (0, 0)) ∧ ((w.alloc (.cells #[.int .u8 0, .string ⟨#[]⟩, .int .i64 0] 102)).alloc (.cells #[.int .i64 0, .int .i64 0] 28)).heap[w.heap.size + 1]? = some (.cells #[.int .i64 0, .int .i64 0] 28 (0, 0)) ∧
    Below w.heap.size w ((w.alloc (.cells #[.int .u8 0, .string ⟨#[]⟩, .int .i64 0] 102)).alloc (.cells #[.int .i64 0, .int .i64 0] 28)) :=
  ⟨(Below.heap_alloc _ _ _ (by simp)).trans (heap_alloc_new w _), by simpa using heap_alloc_new (w.alloc (.cells #[.int .u8 0, .string ⟨#[]⟩, .int .i64 0] 102)) (.cells #[.int .i64 0, .int .i64 0] 28), ((Below.refl _ w).alloc (Nat.le_refl _) _).alloc (by simp) _⟩

/-- Both boxes are written. -/
theorem five_put {W : World} {b T S : Nat} {x0 x1 x2 y0 y1 : Value} (kT : W.heap[b]? = some (.cells #[x0, x1, x2] T (0, 0))) (kS : W.heap[b + 1]? = some (.cells #[y0, y1] S (0, 0))) (u0 u1 u2 v0 v1 : Value) :
    ((((((W.setCell ⟨b, 0, none⟩ u0).setCell ⟨b, 1, none⟩ u1).setCell ⟨b, 2, none⟩ u2).setCell ⟨b + 1, 0, none⟩ v0).setCell ⟨b + 1, 1, none⟩ v1)).heap[b]? = some (.cells #[u0, u1, u2] T (0, 0)) ∧ ((((((W.setCell ⟨b, 0, none⟩ u0).setCell ⟨b, 1, none⟩ u1).setCell ⟨b, 2, none⟩ u2).setCell ⟨b + 1, 0, none⟩ v0).setCell ⟨b + 1, 1, none⟩ v1)).heap[b + 1]? = some (.cells #[v0, v1] S (0, 0)) ∧ Below b W ((((((W.setCell ⟨b, 0, none⟩ u0).setCell ⟨b, 1, none⟩ u1).setCell ⟨b, 2, none⟩ u2).setCell ⟨b + 1, 0, none⟩ v0).setCell ⟨b + 1, 1, none⟩ v1)) := by
  refine ⟨?_, ?_, ?_⟩
  · simp only [World.setCell, Array.getElem?_modify, kT]; simp
  · simp only [World.setCell, Array.getElem?_modify, kS]; simp
  · exact (((((Below.refl b W).setCell (Nat.le_refl _) _).setCell (Nat.le_refl _) _).setCell (Nat.le_refl _) _).setCell (by simp) _).setCell (by simp) _
theorem five_drew {W : World} {b T S : Nat} {x0 x1 x2 y0 y1 : Value} (kT : W.heap[b]? = some (.cells #[x0, x1, x2] T (0, 0))) (kS : W.heap[b + 1]? = some (.cells #[y0, y1] S (0, 0))) (u0 u1 u2 v0 v1 : Value) :
    (((((((W.setCell ⟨b, 0, none⟩ u0).setCell ⟨b, 1, none⟩ u1).setCell ⟨b, 2, none⟩ u2).setCell ⟨b + 1, 0, none⟩ v0).setCell ⟨b + 1, 1, none⟩ v1)).drew).heap[b]? = some (.cells #[u0, u1, u2] T (0, 0)) ∧ (((((((W.setCell ⟨b, 0, none⟩ u0).setCell ⟨b, 1, none⟩ u1).setCell ⟨b, 2, none⟩ u2).setCell ⟨b + 1, 0, none⟩ v0).setCell ⟨b + 1, 1, none⟩ v1)).drew).heap[b + 1]? = some (.cells #[v0, v1] S (0, 0)) ∧ Below b W (((((((W.setCell ⟨b, 0, none⟩ u0).setCell ⟨b, 1, none⟩ u1).setCell ⟨b, 2, none⟩ u2).setCell ⟨b + 1, 0, none⟩ v0).setCell ⟨b + 1, 1, none⟩ v1)).drew) := by
  obtain ⟨h1, h2, h3⟩ := five_put kT kS u0 u1 u2 v0 v1
  generalize ((((((W.setCell ⟨b, 0, none⟩ u0).setCell ⟨b, 1, none⟩ u1).setCell ⟨b, 2, none⟩ u2).setCell ⟨b + 1, 0, none⟩ v0).setCell ⟨b + 1, 1, none⟩ v1)) = Y at *
  exact ⟨h1, h2, h3.drew⟩

set_option maxHeartbeats 2000000 in
theorem take_early (B : Nat) (a : Option Addr) (n c : Nat) (len : Int) (rest : Array Value) (T : Nat) (kd : Int) (w : World) (h : RowAt w B a n c n len rest T) :
    Calls Tryz.prog 120 #[.pointer (some ⟨B, 0, none⟩), .int .u8 kd] w fun e w' => e = .returned (.tuple #[tokV noTok, .agg #[.int .i64 72, .int .i64 len]]) ∧ Below w.heap.size w w' := by
  obtain ⟨kT, kS, hb⟩ := tok_spot_boxes w
  have hR := h.below hb
  have hE := ended_any B a n c n len rest T _ hR
  rw [show ((n : Int) == (n : Int)) = true by simp] at hE
  have hlt := h.lt
  clear h
  go_enter Tryz.func120, Tryz.ntmps120
  go_wp2_with fail
  generalize (w.alloc (.cells #[.int .u8 0, .string ⟨#[]⟩, .int .i64 0] 102)).alloc (.cells #[.int .i64 0, .int .i64 0] 28) = W at *
  refine hE.mono ?_
  rintro e w1 ⟨rfl, q, rfl⟩
  have hbq := bel_drewN (Below.refl W.heap.size W) q
  have sS := (Array.getElem?_eq_some_iff.1 kS).1
  have kT1 := (hbq.block _ (by omega)).trans kT
  have kS1 := (hbq.block _ sS).trans kS
  have hR1 := hR.below hbq
  have hb1 := hb.trans (hbq.mono hb.size)
  have s1 : w.heap.size + 1 < (W.drewN q).heap.size := Nat.lt_of_lt_of_le sS hbq.size
  clear hE hbq kT kS hR hb sS
  generalize W.drewN q = W1 at *
  obtain ⟨r0, r1, r2, rf⟩ := hR1.cells
  obtain ⟨ct, ft⟩ := blk_cells kT1
  obtain ⟨cp, fp⟩ := blk_cells kS1
  have t0 := ct 0
  have t1 := ct 1
  have t2 := ct 2
  have p0 := cp 0
  have p1 := cp 1
  have hne : B ≠ w.heap.size := by omega
  have hne1 : B ≠ w.heap.size + 1 := by omega
  have HB := hide hb1
  have HT := hide kT1
  have HS := hide kS1
  clear hR1 hb1 ct cp kT1 kS1
  go_wp2
  go_region
  obtain ⟨y1, y2, y3⟩ := five_drew HT.out HS.out (.int .u8 0) (.string ⟨#[]⟩) (.int .i64 0) (.int .i64 72) (.int .i64 len)
  have HY := hide (HB.out.trans y3)
  have HY1 := hide y1
  have HY2 := hide y2
  clear t0 t1 t2 p0 p1 ft fp r0 r1 r2 rf y1 y2 y3 HT HS HB
  generalize (((((W1.setCell ⟨w.heap.size, 0, none⟩ (.int .u8 0)).setCell ⟨w.heap.size, 1, none⟩ (.string ⟨#[]⟩)).setCell ⟨w.heap.size, 2, none⟩ (.int .i64 0)).setCell ⟨w.heap.size + 1, 0, none⟩ (.int .i64 72)).setCell ⟨w.heap.size + 1, 1, none⟩ (.int .i64 len)).drew = X at *
  go_wp2
  obtain ⟨z1, _⟩ := blk_cells HY1.out
  obtain ⟨z2, _⟩ := blk_cells HY2.out
  have a0 := z1 0
  have a1 := z1 1
  have a2 := z1 2
  have b0 := z2 0
  have b1 := z2 1
  refine bodyPost_ret (v := .tuple #[tokV noTok, .agg #[.int .i64 72, .int .i64 len]]) ?_ rfl ⟨rfl, HY.out⟩
  simp [results, Tryz.results120, go_sem, a0, a1, a2, b0, b1, tokV, noTok]

end Go.Proofs.YtmobologlaeefaaGreat

/-
  Arguments, instructions and modules in memory: what can be read of them.
-/
namespace Go.Proofs.YtmobologlaeefaaGreat
open Go.RowKit

/-- An argument: its kind, its number, its text. -/
abbrev ArgT := Int × Int × ByteArray
def argV (x : ArgT) : Value := .agg #[.int .u8 x.1, .int .u32 x.2.1, .string x.2.2]
def noArg : ArgT := (0, 0, ⟨#[]⟩)
def argC (x : ArgT) : List Value := [.int .u8 x.1, .int .u32 x.2.1, .string x.2.2]
def nthA (l : List ArgT) (j : Nat) : ArgT := l.getD j noArg

theorem str_inj {a b : ByteArray} (h : a.toList = b.toList) : a = b := by
  rw [ByteArray.toList_eq, ByteArray.toList_eq] at h
  exact Go.WideShapes.bytes_inj h

/-- What can be read of a slice of arguments. -/
def ArgsV (w : World) (a : Option Addr) (l : List ArgT) : Prop :=
  ∀ j, j < l.length → ∃ b off, a = some ⟨b, off, none⟩ ∧ b < w.heap.size ∧ w.cell? ⟨b, off + j * 3, none⟩ = some (.int .u8 (nthA l j).1) ∧ w.cell? ⟨b, off + j * 3 + 1, none⟩ = some (.int .u32 (nthA l j).2.1) ∧ w.cell? ⟨b, off + j * 3 + 2, none⟩ = some (.string (nthA l j).2.2)

def ArgOk (x : ArgT) : Prop := 0 ≤ x.1 ∧ x.1 < 256 ∧ 0 ≤ x.2.1 ∧ x.2.1 < 4294967296 ∧ x.2.2.size ≤ 140737488351232
/-- Each kind, number and length lies within its bounds. -/
def ArgsOk (l : List ArgT) : Prop := ∀ j, j < l.length → ArgOk (nthA l j)

theorem argsV_nil {w : World} {a : Option Addr} : ArgsV w a [] := fun j hj => by simp at hj
theorem argsOk_nil : ArgsOk [] := fun j hj => by simp at hj

theorem ArgsV.below {w w' : World} {a : Option Addr} {l : List ArgT} (h : ArgsV w a l) (hb : Below w.heap.size w w') : ArgsV w' a l := by
  intro j hj
  obtain ⟨b, off, e, hlt, h1, h2, h3⟩ := h j hj
  exact ⟨b, off, e, Nat.lt_of_lt_of_le hlt hb.size, (hb.cell (p := ⟨b, off + j * 3, none⟩) hlt).trans h1, (hb.cell (p := ⟨b, off + j * 3 + 1, none⟩) hlt).trans h2, (hb.cell (p := ⟨b, off + j * 3 + 2, none⟩) hlt).trans h3⟩
theorem ArgsV.drew {w : World} {a : Option Addr} {l : List ArgT} (h : ArgsV w a l) (q : Nat) : ArgsV (w.drewN q) a l := h.below (bel_drewN (Below.refl _ _) q)
theorem ArgsV.setCell {w : World} {a : Option Addr} {l : List ArgT} (h : ArgsV w a l) {g i : Nat} (hg : ∀ b off, a = some ⟨b, off, none⟩ → b ≠ g) (v : Value) : ArgsV (w.setCell ⟨g, i, none⟩ v) a l := by
  intro j hj
  obtain ⟨b, off, e, hlt, h1, h2, h3⟩ := h j hj
  have hne := hg b off e
  have hx : (w.setCell ⟨g, i, none⟩ v).heap[b]? = w.heap[b]? := Below.heap_setCell _ _ _ _ (by simpa using hne)
  refine ⟨b, off, e, by simpa using hlt, ?_, ?_, ?_⟩
  · simp only [World.cell?, hx] at h1 ⊢; exact h1
  · simp only [World.cell?, hx] at h2 ⊢; exact h2
  · simp only [World.cell?, hx] at h3 ⊢; exact h3

/-- An instruction: its operation, its type, its result, its arguments. -/
abbrev InstT := Int × Int × Int × List ArgT
def instV (x : InstT) (a : Option Addr) (n c : Nat) : Value := .agg #[.int .u16 x.1, .int .u32 x.2.1, .int .u32 x.2.2.1, .slice a n c]
def noInst : InstT := (0, 0, 0, [])
def nthI (l : List InstT) (j : Nat) : InstT := l.getD j noInst
def InstOk (x : InstT) : Prop := 0 ≤ x.1 ∧ x.1 < 65536 ∧ 0 ≤ x.2.1 ∧ x.2.1 < 4294967296 ∧ 0 ≤ x.2.2.1 ∧ x.2.2.1 < 4294967296 ∧ ArgsOk x.2.2.2 ∧ 24 * x.2.2.2.length ≤ 140737488351232
def InstsOk (l : List InstT) : Prop := ∀ j, j < l.length → InstOk (nthI l j)

/-- What can be read of a slice of instructions with their arguments. -/
def InstsV (w : World) (a : Option Addr) (l : List InstT) : Prop :=
  ∀ j, j < l.length → ∃ b off aj cj nj, a = some ⟨b, off, none⟩ ∧ b < w.heap.size ∧ w.cell? ⟨b, off + j * 4, none⟩ = some (.int .u16 (nthI l j).1) ∧ w.cell? ⟨b, off + j * 4 + 1, none⟩ = some (.int .u32 (nthI l j).2.1) ∧ w.cell? ⟨b, off + j * 4 + 2, none⟩ = some (.int .u32 (nthI l j).2.2.1) ∧
    w.cell? ⟨b, off + j * 4 + 3, none⟩ = some (.slice aj nj cj) ∧ (nthI l j).2.2.2.length = nj ∧ ArgsV w aj (nthI l j).2.2.2 ∧ nj ≤ cj

theorem instsV_nil {w : World} {a : Option Addr} : InstsV w a [] := fun j hj => by simp at hj
theorem instsOk_nil : InstsOk [] := fun j hj => by simp at hj
theorem InstsV.below {w w' : World} {a : Option Addr} {l : List InstT} (h : InstsV w a l) (hb : Below w.heap.size w w') : InstsV w' a l := by
  intro j hj
  obtain ⟨b, off, aj, cj, nj, e, hlt, h1, h2, h3, h4, h5, h6, h7⟩ := h j hj
  exact ⟨b, off, aj, cj, nj, e, Nat.lt_of_lt_of_le hlt hb.size, (hb.cell (p := ⟨b, off + j * 4, none⟩) hlt).trans h1, (hb.cell (p := ⟨b, off + j * 4 + 1, none⟩) hlt).trans h2, (hb.cell (p := ⟨b, off + j * 4 + 2, none⟩) hlt).trans h3, (hb.cell (p := ⟨b, off + j * 4 + 3, none⟩) hlt).trans h4, h5, h6.below hb, h7⟩
theorem InstsV.drew {w : World} {a : Option Addr} {l : List InstT} (h : InstsV w a l) (q : Nat) : InstsV (w.drewN q) a l := h.below (bel_drewN (Below.refl _ _) q)

theorem nthA_lt (l : List ArgT) (j : Nat) (h : j < l.length) : nthA l j = l[j] := by simp [nthA, List.getD, h]
theorem nthI_lt (l : List InstT) (j : Nat) (h : j < l.length) : nthI l j = l[j] := by simp [nthI, List.getD, h]
theorem nthA_lo (l : List ArgT) (x : ArgT) (j : Nat) (h : j < l.length) : nthA (l ++ [x]) j = nthA l j := by simp [nthA, List.getD, List.getElem?_append_left h]
theorem nthA_hi (l : List ArgT) (x : ArgT) : nthA (l ++ [x]) l.length = x := by simp [nthA, List.getD]
theorem nthI_lo (l : List InstT) (x : InstT) (j : Nat) (h : j < l.length) : nthI (l ++ [x]) j = nthI l j := by simp [nthI, List.getD, List.getElem?_append_left h]
theorem nthI_hi (l : List InstT) (x : InstT) : nthI (l ++ [x]) l.length = x := by simp [nthI, List.getD]
theorem argsOk_push {l : List ArgT} {x : ArgT} (h : ArgsOk l) (hx : ArgOk x) : ArgsOk (l ++ [x]) := by
  intro j hj
  rw [List.length_append, List.length_singleton] at hj
  by_cases hjl : j < l.length
  · rw [nthA_lo _ _ _ hjl]; exact h j hjl
  · obtain rfl : j = l.length := by omega
    rw [nthA_hi]; exact hx

/-- Two lists are the same just if they are as long and the same at each place. -/
theorem argsEq_iff (l m : List ArgT) : l = m ↔ l.length = m.length ∧ ∀ j, j < l.length → nthA l j = nthA m j := by
  constructor
  · rintro rfl; exact ⟨rfl, fun _ _ => rfl⟩
  · rintro ⟨h1, h2⟩
    refine List.ext_getElem h1 fun j hj hj' => ?_
    have := h2 j hj
    rw [nthA_lt _ _ hj, nthA_lt _ _ hj'] at this
    exact this
theorem instsEq_iff (l m : List InstT) : l = m ↔ l.length = m.length ∧ ∀ j, j < l.length → nthI l j = nthI m j := by
  constructor
  · rintro rfl; exact ⟨rfl, fun _ _ => rfl⟩
  · rintro ⟨h1, h2⟩
    refine List.ext_getElem h1 fun j hj hj' => ?_
    have := h2 j hj
    rw [nthI_lt _ _ hj, nthI_lt _ _ hj'] at this
    exact this

end Go.Proofs.YtmobologlaeefaaGreat
