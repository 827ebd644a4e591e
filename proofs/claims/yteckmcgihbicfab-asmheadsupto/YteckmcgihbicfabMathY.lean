/-
  The layer lex: what a line's tokens are: each may be; how long; where what is wrong stands; a note behind a line changes nothing. No condition but what each names.
-/
import Derived.Test.YteckmcgihbicfabMathZ
import Derived.Test.YteckmcgihbicfabToks
namespace Go.Proofs.Yteckmcgihbicfab
open Go.RowKit
set_option linter.unusedSimpArgs false
set_option linter.unusedVariables false

theorem cut_within {m : Int} {l : List Int} (h : Within m l) (a b : Nat) : Within m (cutL l a b) := fun z hz => h z (List.mem_of_mem_take (List.mem_of_mem_drop hz))
theorem cut_length (l : List Int) (a b : Nat) (h : b ≤ l.length) : (cutL l a b).length = b - a := by
  unfold cutL; rw [List.length_drop, List.length_take]; omega
theorem cut_nth (l : List Int) (a b i : Nat) (h : a + i < b) : nth (cutL l a b) i = nth l (a + i) := by
  unfold cutL nth
  simp [List.getD, List.getElem?_drop, List.getElem?_take, h]
theorem run_in {l : List Int} {p i : Nat} (h : p ≤ i) (hi : i < runE l p) : runB (nth l i) = true := by
  have key : ∀ (m : List Int) (j : Nat), j < (m.takeWhile runB).length → runB (nth m j) = true := by
    intro m
    induction m with
    | nil => intro j hj; simp at hj
    | cons c m ih =>
      intro j hj
      by_cases hc : runB c = true
      · rw [List.takeWhile_cons_of_pos hc] at hj
        cases j with
        | zero => exact hc
        | succ j =>
          have := ih j (by simpa using hj)
          simpa [nth, List.getD] using this
      · rw [List.takeWhile_cons_of_neg hc] at hj; simp at hj
  unfold runE at hi
  have := key (l.drop p) (i - p) (by omega)
  rw [nth_drop, show p + (i - p) = i by omega] at this
  exact this
theorem part_byte {l : List Int} (hw : Within 256 l) {p n : Nat} {b : Int} (h : partP l p = some (b, n)) : 0 ≤ b ∧ b < 256 := by
  have hn : ∀ k, 0 ≤ nth l k ∧ nth l k < 256 := fun k => by
    rcases Nat.lt_or_ge k l.length with h' | h'
    · exact hw.at h'
    · rw [nth_over l k h']; omega
  unfold partP at h
  split at h
  · split at h
    · simp at h; have := hn (p + 1); omega
    · split at h
      · rename_i h1
        simp at h
        have a := dv_lo (nth l (p + 2)); have b := (dv_hex (nth l (p + 2))).2 h1.2.1
        have c := dv_lo (nth l (p + 3)); have d := (dv_hex (nth l (p + 3))).2 h1.2.2
        omega
      · cases h
  · split at h
    · simp at h; have := hn p; omega
    · cases h
theorem quot_bytes {l : List Int} (hw : Within 256 l) {p q : Nat} {b : List Int} (h : quotP l p = some (b, q)) : Within 256 b ∧ b.length + p + 1 ≤ q := by
  have key : ∀ (f p q : Nat) (b : List Int), quotF f l p = some (b, q) → Within 256 b ∧ b.length + p + 1 ≤ q := by
    intro f
    induction f with
    | zero => intro p q b h; cases h
    | succ f ih =>
      intro p q b h
      rw [quotF_succ] at h
      split at h
      · simp at h
        obtain ⟨rfl, rfl⟩ := h
        exact ⟨fun z hz => by simp at hz, by simp⟩
      · cases e : partP l p with
        | none => rw [e] at h; cases h
        | some bn =>
          obtain ⟨b', n⟩ := bn
          rw [e] at h
          simp only [Option.map_eq_some_iff] at h
          obtain ⟨⟨bs, q'⟩, h1, h2⟩ := h
          simp only [Prod.mk.injEq] at h2
          obtain ⟨rfl, rfl⟩ := h2
          have h3 := ih _ _ _ h1
          have h4 := part_byte hw e
          have h5 := partP_some e
          exact ⟨within_cons h4.1 h4.2 h3.1, by simp only [List.length_cons]; omega⟩
  exact key _ p q b h
/-- The token at a place may be; its text is no longer than it is. -/
theorem tok_good {l : List Int} (hw : Within 256 l) {p q : Nat} {k : Int} {t : List Int} (hp : p < l.length) (h : tokP l p = .inr (k, t, q)) : tokOk k t = true ∧ Within 256 t ∧ t.length + p ≤ q ∧ 0 ≤ k ∧ k < 256 := by
  have hq := tokP_end hp h
  unfold tokP at h
  split at h
  · rename_i hc
    simp only [Sum.inr.injEq, Prod.mk.injEq] at h
    obtain ⟨rfl, rfl, rfl⟩ := h
    refine ⟨?_, cut_within hw _ _, by rw [cut_length _ _ _ hq.2]; omega, by decide, by decide⟩
    have hl := cut_length l p (runE l p) hq.2
    show wordB _ = true
    rw [word_all (fun e => by rw [e] at hl; simp at hl; omega) (fun i hi => ?_), cut_nth _ _ _ _ (by omega)]
    · exact hc
    · rw [hl] at hi
      rw [cut_nth l p (runE l p) i (by omega)]
      exact run_in (p := p) (by omega) (by omega)
  · split at h
    · split at h
      · rename_i hc
        simp only [Sum.inr.injEq, Prod.mk.injEq] at h
        obtain ⟨rfl, rfl, rfl⟩ := h
        exact ⟨hc, cut_within hw _ _, by rw [cut_length _ _ _ hq.2]; omega, by decide, by decide⟩
      · cases h
    · split at h
      · split at h
        · rename_i hc
          simp only [Sum.inr.injEq, Prod.mk.injEq] at h
          obtain ⟨rfl, rfl, rfl⟩ := h
          exact ⟨hc, cut_within hw _ _, by rw [cut_length _ _ _ hq.2]; omega, by decide, by decide⟩
        · cases h
      · split at h
        · split at h
          · rename_i e
            have := quot_bytes hw e
            simp only [Sum.inr.injEq, Prod.mk.injEq] at h
            obtain ⟨rfl, rfl, rfl⟩ := h
            exact ⟨rfl, this.1, by omega, by decide, by decide⟩
          · cases h
        · split at h
          · simp only [Sum.inr.injEq, Prod.mk.injEq] at h
            obtain ⟨rfl, rfl, rfl⟩ := h
            exact ⟨rfl, within_one (by decide) (by decide), by simp; omega, by decide, by decide⟩
          · cases h
theorem tok_err {l : List Int} {p : Nat} {e : Int} (h : tokP l p = .inl e) : e = 60 ∨ e = 61 ∨ e = 62 := by
  unfold tokP at h
  repeat' (split at h)
  all_goals simp at h
  all_goals omega
/-- Of all tokens of a line. -/
theorem toks_good {l : List Int} (hw : Within 256 l) (p : Nat) : wOk (toksP l p).1 = true ∧ bulkT (toksP l p).1 ≤ l.length - p ∧ (toksP l p).1.length ≤ l.length - p ∧ (∀ t ∈ (toksP l p).1, 0 ≤ t.1 ∧ t.1 < 256 ∧ t.2.1.size ≤ l.length ∧ 0 ≤ t.2.2 ∧ t.2.2 < l.length) ∧
    ((toksP l p).2.1 = 0 ∨ ((toksP l p).2.1 = 60 ∨ (toksP l p).2.1 = 61 ∨ (toksP l p).2.1 = 62) ∧ 0 ≤ (toksP l p).2.2 ∧ (toksP l p).2.2 < l.length) := by
  have key : ∀ f p, wOk (toksF f l p).1 = true ∧ bulkT (toksF f l p).1 ≤ l.length - p ∧ (toksF f l p).1.length ≤ l.length - p ∧ (∀ t ∈ (toksF f l p).1, 0 ≤ t.1 ∧ t.1 < 256 ∧ t.2.1.size ≤ l.length ∧ 0 ≤ t.2.2 ∧ t.2.2 < l.length) ∧
    ((toksF f l p).2.1 = 0 ∨ ((toksF f l p).2.1 = 60 ∨ (toksF f l p).2.1 = 61 ∨ (toksF f l p).2.1 = 62) ∧ 0 ≤ (toksF f l p).2.2 ∧ (toksF f l p).2.2 < l.length) := by
    intro f
    induction f with
    | zero => intro p; exact ⟨rfl, by simp [toksF, bulkT], by simp [toksF], fun t ht => by simp [toksF] at ht, .inl rfl⟩
    | succ f ih =>
      intro p
      rw [toksF_succ]
      split
      · rename_i hc
        split
        · have := ih (p + 1)
          exact ⟨this.1, by omega, by omega, this.2.2.2.1, this.2.2.2.2⟩
        · cases e : tokP l p with
          | inl er =>
            have := tok_err e
            exact ⟨rfl, by simp [bulkT], by simp, fun t ht => by simp at ht, .inr ⟨this, by simp; omega⟩⟩
          | inr r =>
            obtain ⟨k, t, q⟩ := r
            have hq := tokP_end hc.1 e
            obtain ⟨g1, g2, g3, g4, g5⟩ := tok_good hw hc.1 e
            obtain ⟨i1, i2, i3, i4, i5⟩ := ih q
            simp only
            unfold consR
            split
            · rename_i h0
              have hsz : (strOfNums t).size = t.length := strOfNums_size t
              refine ⟨?_, ?_, ?_, ?_, .inl rfl⟩
              · simp only [wOk, List.all_cons, Bool.and_eq_true]
                refine ⟨by rw [strI_of g2]; exact g1, i1⟩
              · simp only [bulkT, List.map_cons, List.sum_cons] at i2 ⊢
                rw [hsz]; omega
              · simp only [List.length_cons]; omega
              · intro x hx
                rcases List.mem_cons.1 hx with rfl | hx
                · exact ⟨g4, g5, by simp only [hsz]; omega, by simp, by simp; omega⟩
                · exact i4 x hx
            · exact ⟨i1, by omega, by omega, i4, i5⟩
      · exact ⟨rfl, by simp [bulkT], by simp, fun t ht => by simp at ht, .inl rfl⟩
  exact key _ p
theorem toksIn_of {l : List TokT} {n : Nat} (hn : n ≤ 140737488351232) (h : ∀ t ∈ l, 0 ≤ t.1 ∧ t.1 < 256 ∧ t.2.1.size ≤ n ∧ 0 ≤ t.2.2 ∧ t.2.2 < n) : ToksIn l := by
  intro j hj
  rw [nthT_lt l j hj]
  have := h _ (List.getElem_mem hj)
  exact ⟨this.1, this.2.1, by omega, by omega, by omega⟩

/-! ### tokens that are written anew -/

theorem placed_wAll (l : List TokT) : ∀ p, wAll (placed p l) = wAll l := by
  induction l with
  | nil => intro p; rfl
  | cons t r ih => intro p; simp only [placed, wAll, List.flatMap_cons] at ih ⊢; rw [ih]
theorem placed_wOk (l : List TokT) : ∀ p, wOk (placed p l) = wOk l := by
  induction l with
  | nil => intro p; rfl
  | cons t r ih => intro p; simp only [placed, wOk, List.all_cons] at ih ⊢; rw [ih]
theorem placed_len (l : List TokT) : ∀ p, (placed p l).length = l.length := by
  induction l with
  | nil => intro p; rfl
  | cons t r ih => intro p; simp [placed, ih]
theorem placed_bulk (l : List TokT) : ∀ p, bulkT (placed p l) = bulkT l := by
  induction l with
  | nil => intro p; rfl
  | cons t r ih => intro p; simp only [placed, bulkT, List.map_cons, List.sum_cons] at ih ⊢; rw [ih]
/-- Where the token at a place is written. -/
def placeAt (l : List TokT) (k : Nat) : Nat := (wAll (l.take k)).length
theorem placed_nth (l : List TokT) : ∀ p k, k < l.length → nthT (placed p l) k = ((nthT l k).1, (nthT l k).2.1, ((p + placeAt l k : Nat) : Int)) := by
  induction l with
  | nil => intro p k h; simp at h
  | cons t r ih =>
    intro p k h
    cases k with
    | zero => simp [placed, nthT, placeAt, wAll]
    | succ k =>
      have := ih (p + (tokS t.1 (strI t.2.1)).length + 1) k (by simpa using h)
      have e1 : nthT (placed p (t :: r)) (k + 1) = nthT (placed (p + (tokS t.1 (strI t.2.1)).length + 1) r) k := by simp [placed, nthT, List.getD]
      have e2 : nthT (t :: r) (k + 1) = nthT r k := by simp [nthT, List.getD]
      have e3 : placeAt (t :: r) (k + 1) = (tokS t.1 (strI t.2.1)).length + 1 + placeAt r k := by simp [placeAt, wAll]; omega
      rw [e1, e2, e3, this]
      congr 3; omega
theorem placed_in {l : List TokT} (h : ToksIn l) (hb : (wAll l).length ≤ 140737488351232) : ToksIn (placed 0 l) := by
  intro j hj
  rw [placed_len] at hj
  rw [placed_nth l 0 j hj]
  have := h j hj
  have hp : placeAt l j ≤ (wAll l).length := by
    unfold placeAt
    have e : wAll l = wAll (l.take j) ++ wAll (l.drop j) := by
      unfold wAll
      rw [← List.flatMap_append, List.take_append_drop]
    rw [e]; simp
  exact ⟨this.1, this.2.1, this.2.2.1, by simp only; omega, by simp only; omega⟩
theorem wOut_ok {l : List TokT} (h : wOk l = true) : wOut l = (wAll l).drop 1 := by unfold wOut; rw [h]; rfl
theorem wOut_within (l : List TokT) : Within 256 (wOut l) := by
  unfold wOut; split
  · exact within_drop (wAll_within l) 1
  · exact fun z hz => by simp at hz
theorem wOut_len (l : List TokT) : (wOut l).length ≤ 4 * bulkT l + 3 * l.length := by
  have := wAll_len l
  unfold wOut; split
  · rw [List.length_drop]; omega
  · simp
/-- The line that is written is read. -/
theorem toks_wOut {l : List TokT} (h : wOk l = true) : toksP (strI (strOfNums (wOut l))) 0 = (placed 0 l, 0, 0) := by
  rw [strI_of (wOut_within l), wOut_ok h]; exact toks_written l h
theorem placed_wOut (l : List TokT) : wOut (placed 0 l) = wOut l ∧ wErr (placed 0 l) = wErr l := by
  unfold wOut wErr; rw [placed_wOk, placed_wAll]; exact ⟨rfl, rfl⟩
theorem alike_placed {l : List TokT} {k : Nat} (h : k < l.length) : (nthT (placed 0 l) k).1 = (nthT l k).1 ∧ (nthT (placed 0 l) k).2.1 = (nthT l k).2.1 := by
  rw [placed_nth l 0 k h]; exact ⟨rfl, rfl⟩

/-! ### a note behind a line -/

theorem nth_front (l s : List Int) (p : Nat) (h : p < l.length) : nth (l ++ s) p = nth l p := getD_left _ _ _ h
theorem run_front {l s : List Int} (hs : runB (nth s 0) = false) {p : Nat} (hp : p ≤ l.length) : runE (l ++ s) p = runE l p := by
  have hle := runE_le l p hp
  refine runE_spec (runE_ge l p) (by rw [List.length_append]; omega) (fun i h1 h2 => by rw [nth_front _ _ _ (by omega)]; exact run_in h1 h2) (.inr ?_)
  rcases Nat.lt_or_ge (runE l p) l.length with h | h
  · rw [nth_front _ _ _ h]
    have key : ∀ (m : List Int), (m.takeWhile runB).length < m.length → runB (nth m (m.takeWhile runB).length) = false := by
      intro m
      induction m with
      | nil => intro h; simp at h
      | cons c m ih =>
        intro h
        by_cases hc : runB c = true
        · rw [List.takeWhile_cons_of_pos hc] at h ⊢
          have := ih (by simpa using h)
          simpa [nth, List.getD] using this
        · rw [List.takeWhile_cons_of_neg hc]; simpa [nth, List.getD] using hc
    have h2 := h
    unfold runE at h2
    have := key (l.drop p) (by rw [List.length_drop]; omega)
    rw [nth_drop] at this
    exact this
  · have e : runE l p = l.length := by omega
    rw [e, getD_right _ _ _ (Nat.le_refl _), Nat.sub_self]; exact hs
theorem cut_front2 {l s : List Int} {a b : Nat} (h : b ≤ l.length) : cutL (l ++ s) a b = cutL l a b := by
  unfold cutL; rw [List.take_append_of_le_length h]
theorem part_front {l s : List Int} {p n : Nat} {b : Int} (h : partP l p = some (b, n)) : partP (l ++ s) p = some (b, n) := by
  have hlt : ∀ k, nth l k ≠ 0 → k < l.length := fun k hk => by
    rcases Nat.lt_or_ge k l.length with h' | h'
    · exact h'
    · exact absurd (nth_over l k h') hk
  have hx : hexB 0 = false := by decide
  unfold partP at h ⊢
  split at h
  · rename_i h0
    rw [nth_front _ _ _ (hlt p (by omega)), if_pos h0]
    split at h
    · rename_i h1
      rw [nth_front _ _ _ (hlt (p + 1) (by omega)), if_pos h1]; exact h
    · rename_i h1
      split at h
      · rename_i h2
        rw [nth_front _ _ _ (hlt (p + 1) (by omega)), nth_front _ _ _ (hlt (p + 2) (fun e => by rw [e, hx] at h2; exact absurd h2.2.1 (by decide))), nth_front _ _ _ (hlt (p + 3) (fun e => by rw [e, hx] at h2; exact absurd h2.2.2 (by decide))), if_neg h1, if_pos h2]; exact h
      · cases h
  · rename_i h0
    split at h
    · rename_i h1
      rw [nth_front _ _ _ (hlt p (fun e => by rw [e] at h1; exact absurd h1 (by decide))), if_neg h0, if_pos h1]; exact h
    · cases h
theorem quot_front {l s : List Int} {p q : Nat} {b : List Int} (h : quotP l p = some (b, q)) : quotP (l ++ s) p = some (b, q) := by
  have key : ∀ (f p q : Nat) (b : List Int), quotF f l p = some (b, q) → ∀ g, f ≤ g → quotF g (l ++ s) p = some (b, q) := by
    intro f
    induction f with
    | zero => intro p q b h; cases h
    | succ f ih =>
      intro p q b h g hg
      obtain ⟨g, rfl⟩ : ∃ g', g = g' + 1 := ⟨g - 1, by omega⟩
      rw [quotF_succ] at h ⊢
      split at h
      · rename_i h0
        have : p < l.length := by
          rcases Nat.lt_or_ge p l.length with h' | h'
          · exact h'
          · rw [nth_over l p h'] at h0; omega
        rw [nth_front _ _ _ this, if_pos h0]; exact h
      · rename_i h0
        cases e : partP l p with
        | none => rw [e] at h; cases h
        | some bn =>
          obtain ⟨b', n⟩ := bn
          have hp := partP_some e
          rw [e] at h
          rw [nth_front _ _ _ (by omega), if_neg h0, part_front e]
          simp only [Option.map_eq_some_iff] at h ⊢
          obtain ⟨⟨bs, q'⟩, h1, h2⟩ := h
          exact ⟨(bs, q'), ih _ _ _ h1 g (by omega), h2⟩
  exact key _ p q b h _ (by simp)
theorem tok_front {l s : List Int} (hs : runB (nth s 0) = false) {p q : Nat} {k : Int} {t : List Int} (hp : p < l.length) (h : tokP l p = .inr (k, t, q)) : tokP (l ++ s) p = .inr (k, t, q) := by
  have h1 := runE_le l (p + 1) (by omega)
  have h0 := runE_le l p (by omega)
  unfold tokP at h ⊢
  rw [nth_front _ _ _ hp, run_front hs (by omega), run_front hs (by omega), cut_front2 h0, cut_front2 h1, cut_front2 h1]
  split at h
  · rename_i c; rw [if_pos c]; exact h
  · rename_i c; rw [if_neg c]
    split at h
    · rename_i c; rw [if_pos c]; exact h
    · rename_i c; rw [if_neg c]
      split at h
      · rename_i c; rw [if_pos c]; exact h
      · rename_i c; rw [if_neg c]
        split at h
        · rename_i c; rw [if_pos c]
          cases e : quotP l (p + 1) with
          | none => rw [e] at h; cases h
          | some r =>
            obtain ⟨b, q'⟩ := r
            rw [e] at h
            rw [quot_front e]; exact h
        · rename_i c; rw [if_neg c]; exact h
/-- Blanks and a note behind a line that is right change no token. -/
theorem toks_note (l note : List Int) (h : (toksP l 0).2.1 = 0) : toksP (l ++ 32 :: 59 :: note) 0 = toksP l 0 := by
  have hs : runB (nth (32 :: 59 :: note) 0) = false := rfl
  have hend : toksP (l ++ 32 :: 59 :: note) l.length = ([], 0, 0) := by
    rw [toksP_blank (by simp) (by rw [getD_right _ _ _ (Nat.le_refl _), Nat.sub_self]; rfl)]
    refine toksP_end fun hc => hc.2 ?_
    rw [getD_right _ _ _ (by omega)]
    rw [show l.length + 1 - l.length = 1 by omega]; rfl
  have key : ∀ f p, l.length - p < f → p ≤ l.length → (toksP l p).2.1 = 0 → toksP (l ++ 32 :: 59 :: note) p = toksP l p := by
    intro f
    induction f with
    | zero => intro p h; omega
    | succ f ih =>
      intro p hf hp h0
      by_cases hlt : p < l.length
      · have hlt2 : p < (l ++ 32 :: 59 :: note).length := by simp; omega
        have hn := nth_front l (32 :: 59 :: note) p hlt
        by_cases h59 : nth l p = 59
        · rw [toksP_end (l := l) (fun hc => hc.2 h59), toksP_end (fun hc => hc.2 (by rw [hn]; exact h59))]
        · cases hb : blankB (nth l p)
          · cases e : tokP l p with
            | inl er =>
              rw [toksP_err hlt h59 hb e] at h0
              simp only at h0
              have := tok_err e
              omega
            | inr r =>
              obtain ⟨k, t, q⟩ := r
              have hq := tokP_end hlt e
              rw [toksP_tok hlt h59 hb e] at h0 ⊢
              rw [toksP_tok hlt2 (by rw [hn]; exact h59) (by rw [hn]; exact hb) (tok_front hs hlt e)]
              have h0' : (toksP l q).2.1 = 0 := by
                unfold consR at h0
                split at h0
                · assumption
                · exact h0
              rw [ih q (by omega) hq.2 h0']
          · rw [toksP_blank hlt hb] at h0 ⊢
            rw [toksP_blank hlt2 (by rw [hn]; exact hb)]
            exact ih (p + 1) (by omega) (by omega) h0
      · obtain rfl : p = l.length := by omega
        rw [hend, toksP_end (fun hc => hlt hc.1)]
  exact key (l.length + 1) 0 (by omega) (by omega) h

/-! ### a quoted text alone -/

theorem quote_print (t : List Int) (hw : Within 256 t) : ∀ z ∈ quoteL t, 32 ≤ z ∧ z ≤ 126 := by
  intro z hz
  simp only [quoteL, List.mem_cons, List.mem_append, List.mem_flatMap, List.not_mem_nil, or_false] at hz
  rcases hz with rfl | ⟨c, hc, hz⟩ | rfl
  · omega
  · have hcb := hw c hc
    unfold escL at hz
    split at hz
    · simp at hz; omega
    · split at hz
      · rename_i hp
        simp only [printB, decide_eq_true_eq] at hp
        simp at hz; omega
      · simp only [List.mem_cons, List.not_mem_nil, or_false] at hz
        have hd : ∀ n : Int, 0 ≤ n → n < 16 → 32 ≤ hexD n ∧ hexD n ≤ 126 := fun n a b => by unfold hexD; split <;> omega
        rcases hz with rfl | rfl | rfl | rfl
        · omega
        · omega
        · exact hd _ (by omega) (by omega)
        · exact hd _ (by omega) (by omega)
  · omega
theorem toks_quoted (t : List Int) (hw : Within 256 t) : toksP (quoteL t) 0 = ([(4, strOfNums t, 0)], 0, 0) := by
  obtain ⟨h1, h2, h3⟩ := tok_read (k := 4) (t := t) (rest := []) rfl hw rfl
  have e : tokS 4 t ++ [] = quoteL t := by simp [tokS]
  have el : (tokS 4 t).length = (quoteL t).length := by simp [tokS]
  rw [e] at h1 h2 h3
  rw [el] at h1
  rw [toksP_tok (by simp [quoteL]) h3 h2 h1, toksP_end (fun hc => by omega)]; rfl

end Go.Proofs.Yteckmcgihbicfab
