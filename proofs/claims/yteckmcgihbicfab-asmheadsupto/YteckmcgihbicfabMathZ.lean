/-
  The layer lex there and back: tokens that are written are read, each at its place; a line moved to the right; a note behind a line. No condition but what each names.
-/
import Derived.Test.YteckmcgihbicfabMathX
namespace Go.Proofs.Yteckmcgihbicfab
open Go.RowKit

/-! ### moved to the right -/

theorem nth_shift (pre l : List Int) (p : Nat) : nth (pre ++ l) (pre.length + p) = nth l p := by
  rw [getD_right _ _ _ (by omega)]; congr 1; omega
theorem drop_shift (pre l : List Int) (p : Nat) : (pre ++ l).drop (pre.length + p) = l.drop p := by
  rw [List.drop_append, List.drop_eq_nil_of_le (by omega)]; simp
theorem runE_shift (pre l : List Int) (p : Nat) : runE (pre ++ l) (pre.length + p) = pre.length + runE l p := by
  unfold runE; rw [drop_shift]; omega
theorem cut_shift (pre l : List Int) (a b : Nat) : cutL (pre ++ l) (pre.length + a) (pre.length + b) = cutL l a b := by
  unfold cutL
  rw [List.take_append, List.take_of_length_le (l := pre) (by omega), show pre.length + b - pre.length = b by omega, drop_shift]
theorem part_shift (pre l : List Int) (p : Nat) : partP (pre ++ l) (pre.length + p) = partP l p := by
  unfold partP
  rw [nth_shift, show pre.length + p + 1 = pre.length + (p + 1) by omega, show pre.length + p + 2 = pre.length + (p + 2) by omega, show pre.length + p + 3 = pre.length + (p + 3) by omega, nth_shift, nth_shift, nth_shift]
theorem quotF_shift (pre l : List Int) : ∀ f p, quotF f (pre ++ l) (pre.length + p) = (quotF f l p).map fun r => (r.1, pre.length + r.2) := by
  intro f
  induction f with
  | zero => intro p; rfl
  | succ f ih =>
    intro p
    rw [quotF_succ, quotF_succ, nth_shift, part_shift]
    split
    · simp; omega
    · cases e : partP l p with
      | none => rfl
      | some bn =>
        obtain ⟨b, n⟩ := bn
        simp only
        rw [show pre.length + p + n = pre.length + (p + n) by omega, ih]
        simp [Option.map_map, Function.comp_def]
theorem quot_shift (pre l : List Int) (p : Nat) : quotP (pre ++ l) (pre.length + p) = (quotP l p).map fun r => (r.1, pre.length + r.2) := by
  unfold quotP
  rw [quotF_shift, quotF_fuel l ((pre ++ l).length + 1) (l.length + 1) p (by simp; omega) (by omega)]
def shiftT (k : Nat) : Sum Int (Int × List Int × Nat) → Sum Int (Int × List Int × Nat)
  | .inl e => .inl e
  | .inr (a, t, q) => .inr (a, t, k + q)
theorem tok_shift (pre l : List Int) (p : Nat) : tokP (pre ++ l) (pre.length + p) = shiftT pre.length (tokP l p) := by
  unfold tokP
  rw [nth_shift, runE_shift, show pre.length + p + 1 = pre.length + (p + 1) by omega, runE_shift, cut_shift, cut_shift, cut_shift, quot_shift]
  split
  · rfl
  · split
    · split <;> rfl
    · split
      · split <;> rfl
      · split
        · cases quotP l (p + 1) with
          | none => rfl
          | some r => rfl
        · split
          · simp [shiftT]
          · rfl
def moveT (k : Nat) (t : TokT) : TokT := (t.1, t.2.1, t.2.2 + k)
def shiftR (k : Nat) (r : TokR) : TokR := (r.1.map (moveT k), r.2.1, if r.2.1 = 0 then r.2.2 else r.2.2 + k)
theorem shift_cons (k : Nat) (t : TokT) (r : TokR) : consR (moveT k t) (shiftR k r) = shiftR k (consR t r) := by
  unfold consR shiftR
  by_cases h : r.2.1 = 0 <;> simp [h]
theorem toksF_shift (pre l : List Int) : ∀ f p, toksF f (pre ++ l) (pre.length + p) = shiftR pre.length (toksF f l p) := by
  intro f
  induction f with
  | zero => intro p; rfl
  | succ f ih =>
    intro p
    rw [toksF_succ, toksF_succ, nth_shift, tok_shift]
    have hlt : (pre.length + p < (pre ++ l).length ∧ nth l p ≠ 59) ↔ (p < l.length ∧ nth l p ≠ 59) := by rw [List.length_append]; omega
    by_cases hc : p < l.length ∧ nth l p ≠ 59
    · rw [if_pos hc, if_pos (hlt.2 hc)]
      split
      · rw [show pre.length + p + 1 = pre.length + (p + 1) by omega]; exact ih _
      · cases e : tokP l p with
        | inl er =>
          have hne : er ≠ 0 := by
            intro h0; subst h0
            unfold tokP at e
            repeat' (split at e)
            all_goals simp at e
          simp [shiftT, shiftR, hne]; omega
        | inr r =>
          obtain ⟨k, t, q⟩ := r
          simp only [shiftT]
          rw [ih, ← shift_cons]
          congr 1
          simp [moveT]; omega
    · rw [if_neg hc, if_neg (fun h => hc (hlt.1 h))]; rfl
theorem toks_shift (pre l : List Int) (p : Nat) : toksP (pre ++ l) (pre.length + p) = shiftR pre.length (toksP l p) := by
  unfold toksP
  rw [toksF_shift, toksF_fuel l ((pre ++ l).length + 1) (l.length + 1) p (by simp; omega) (by omega)]
/-- Blanks ahead. -/
theorem toks_blanks (n : Nat) (l : List Int) : toksP (List.replicate n 32 ++ l) 0 = shiftR n (toksP l 0) := by
  have key : ∀ k, k ≤ n → toksP (List.replicate n 32 ++ l) 0 = toksP (List.replicate n 32 ++ l) k := by
    intro k
    induction k with
    | zero => intro _; rfl
    | succ k ih =>
      intro hk
      rw [ih (by omega)]
      refine toksP_blank (by simp; omega) ?_
      rw [getD_left _ _ _ (by simp; omega)]
      have : nth (List.replicate n (32 : Int)) k = 32 := by simp [nth, List.getD, show k < n by omega]
      rw [this]; rfl
  have h := toks_shift (List.replicate n 32) l 0
  rw [List.length_replicate, Nat.add_zero] at h
  rw [key n (Nat.le_refl _), h]

/-! ### one token -/

theorem cut_front (t rest : List Int) : cutL (t ++ rest) 0 t.length = t := by simp [cutL]
theorem all_nth {P : Int → Bool} {l : List Int} (h : l.all P = true) {k : Nat} (hk : k < l.length) : P (nth l k) = true := by
  rw [List.all_eq_true] at h
  have e : nth l k = l[k] := by simp [nth, List.getD, hk]
  rw [e]; exact h _ (List.getElem_mem hk)
theorem digit_run {c : Int} (h : digitB c = true) : runB c = true := by simp [runB, h]
theorem plain_all {t : List Int} (h : plainB t = true) : t ≠ [] ∧ ∀ k, k < t.length → digitB (nth t k) = true := by
  simp only [plainB, digsB, Bool.and_eq_true, Bool.not_eq_true', List.isEmpty_eq_false_iff] at h
  exact ⟨h.2.1.1, fun k hk => (dv_digit _).1 (allD_at h.2.1.2 hk)⟩
theorem hex_run {c : Int} (h : hexB c = true) : runB c = true := by
  simp only [hexB, digitB, Bool.or_eq_true, decide_eq_true_eq] at h
  simp only [runB, letterB, digitB, Bool.or_eq_true, decide_eq_true_eq, beq_iff_eq]
  omega
theorem nth_drop (l : List Int) (a k : Nat) : nth (l.drop a) k = nth l (a + k) := by unfold nth; simp [List.getD, List.getElem?_drop]
/-- A number's text: a digit or a minus first, then a run. -/
theorem num_shape {t : List Int} (h : numB t = true) : 0 < t.length ∧ (digitB (nth t 0) = true ∨ nth t 0 = 45) ∧ ∀ k, 1 ≤ k → k < t.length → runB (nth t k) = true := by
  unfold numB at h
  split at h
  · rename_i e
    have hl : 0 < t.length := by
      have := congrArg List.length e
      rw [List.length_take] at this; simp at this; omega
    have h0 : nth t 0 = 45 := by
      cases t with
      | nil => simp at hl
      | cons a r => simp at e; simp [nth, e]
    simp only [Bool.and_eq_true] at h
    have hp := plain_all h.1
    refine ⟨hl, .inr h0, fun k h1 hk => ?_⟩
    have := hp.2 (k - 1) (by rw [List.length_drop]; omega)
    rw [nth_drop, show 1 + (k - 1) = k by omega] at this
    exact digit_run this
  · split at h
    · rename_i e
      have hl : 1 < t.length := by
        have := congrArg List.length e
        rw [List.length_take] at this; simp at this; omega
      have h0 : nth t 0 = 48 ∧ nth t 1 = 120 := by
        match t, hl with
        | [a], hl => simp at hl
        | a :: b :: r, _ => simp at e; simp [nth, e]
      simp only [digsB, Bool.and_eq_true] at h
      refine ⟨by omega, .inl (by rw [h0.1]; decide), fun k h1 hk => ?_⟩
      by_cases e1 : k = 1
      · subst e1; rw [h0.2]; decide
      · have := allD_at h.1.1.2 (k := k - 2) (by rw [List.length_drop]; omega)
        rw [nth_drop, show 2 + (k - 2) = k by omega] at this
        exact hex_run ((dv_hex _).1 this)
    · have hp := plain_all h
      have hl : 0 < t.length := by
        cases t with
        | nil => exact absurd rfl hp.1
        | cons a r => simp
      exact ⟨hl, .inl (hp.2 0 hl), fun k _ hk => digit_run (hp.2 k hk)⟩

/-- What a written byte stands for. -/
theorem part_esc_any (c : Int) (rest : List Int) (h0 : 0 ≤ c) (h1 : c < 256) : nth (escL c ++ rest) 0 ≠ 34 ∧ partP (escL c ++ rest) 0 = some (c, (escL c).length) := by
  unfold escL
  split
  · rename_i h
    refine ⟨by simp [nth], ?_⟩
    unfold partP
    have e0 : nth ([92, c] ++ rest) 0 = 92 := by simp [nth]
    have e1 : nth ([92, c] ++ rest) (0 + 1) = c := by simp [nth]
    rw [e0, e1, if_pos rfl, if_pos h]; rfl
  · rename_i h
    split
    · rename_i hp
      have e0 : nth ([c] ++ rest) 0 = c := by simp [nth]
      refine ⟨by rw [e0]; omega, ?_⟩
      unfold partP
      rw [e0, if_neg (by omega), if_pos hp]; rfl
    · rename_i hp
      have d : ∀ n : Int, 0 ≤ n → n < 16 → hexB (hexD n) = true ∧ dvI (hexD n) = n := by
        intro n a b
        have : ∀ m : Fin 16, hexB (hexD (m.val : Int)) = true ∧ dvI (hexD (m.val : Int)) = (m.val : Int) := by decide
        obtain ⟨m, rfl⟩ := Int.eq_ofNat_of_zero_le a
        exact this ⟨m, by omega⟩
      obtain ⟨a1, a2⟩ := d (c / 16) (by omega) (by omega)
      obtain ⟨b1, b2⟩ := d (c % 16) (by omega) (by omega)
      have e0 : nth ([92, 120, hexD (c / 16), hexD (c % 16)] ++ rest) 0 = 92 := by simp [nth]
      have e1 : nth ([92, 120, hexD (c / 16), hexD (c % 16)] ++ rest) (0 + 1) = 120 := by simp [nth]
      have e2 : nth ([92, 120, hexD (c / 16), hexD (c % 16)] ++ rest) (0 + 2) = hexD (c / 16) := by simp [nth]
      have e3 : nth ([92, 120, hexD (c / 16), hexD (c % 16)] ++ rest) (0 + 3) = hexD (c % 16) := by simp [nth]
      refine ⟨by rw [e0]; omega, ?_⟩
      unfold partP
      rw [e0, e1, e2, e3, if_pos rfl, if_neg (by omega), if_pos ⟨rfl, a1, b1⟩, a2, b2]
      congr 1
      simp only [List.length_cons, List.length_nil]
      rw [show 16 * (c / 16) + c % 16 = c by omega]
/-- A text in quotes is read as it was, whatever stands behind. -/
theorem quot_flat (t rest : List Int) (h : Within 256 t) : quotP (t.flatMap escL ++ 34 :: rest) 0 = some (t, (t.flatMap escL).length + 1) := by
  induction t with
  | nil => exact quotP_close (by simp [nth])
  | cons c t ih =>
    have hc := h c (by simp)
    have e : (c :: t).flatMap escL ++ 34 :: rest = escL c ++ (t.flatMap escL ++ 34 :: rest) := by simp
    obtain ⟨p1, p2⟩ := part_esc_any c (t.flatMap escL ++ 34 :: rest) hc.1 hc.2
    rw [e, quotP_some p1 p2]
    have hs := quot_shift (escL c) (t.flatMap escL ++ 34 :: rest) 0
    rw [Nat.add_zero] at hs
    rw [Nat.zero_add, hs, ih (fun z hz => h z (by simp [hz]))]
    simp; omega

theorem tokS_pos {k : Int} {t : List Int} (h : tokOk k t = true) : 0 < (tokS k t).length := by
  unfold tokOk at h
  unfold tokS
  split at h
  · rename_i e; subst e
    simp only [wordB, Bool.and_eq_true, Bool.not_eq_true', List.isEmpty_eq_false_iff] at h
    simp; exact List.length_pos_iff.2 h.1.1
  · split at h
    · rename_i e; subst e; simp
    · split at h
      · rename_i e; subst e
        have := (num_shape h).1
        simpa using this
      · split at h
        · rename_i e; subst e; simp [quoteL]
        · split at h
          · rename_i e; subst e
            have := of_decide_eq_true h
            subst this; simp
          · cases h
/-- A token as it is written is read as it was, where no run goes on behind it. -/
theorem tok_read {k : Int} {t rest : List Int} (h : tokOk k t = true) (hw : Within 256 t) (hr : runB (nth rest 0) = false) :
    tokP (tokS k t ++ rest) 0 = .inr (k, t, (tokS k t).length) ∧ blankB (nth (tokS k t ++ rest) 0) = false ∧ nth (tokS k t ++ rest) 0 ≠ 59 := by
  have hstop : ∀ u : List Int, u.length = (u ++ rest).length ∨ runB (nth (u ++ rest) u.length) = false := fun u => .inr (by rw [getD_right _ _ _ (Nat.le_refl _), Nat.sub_self]; exact hr)
  have hpos := tokS_pos h
  unfold tokOk at h
  split at h
  · rename_i e; subst e
    have es : tokS 1 t = t := rfl
    rw [es] at hpos ⊢
    have h' := h
    simp only [wordB, Bool.and_eq_true] at h
    have h0 : nth (t ++ rest) 0 = nth t 0 := getD_left _ _ _ hpos
    have hE : runE (t ++ rest) 0 = t.length := runE_spec (by omega) (by simp) (fun i _ hi => by rw [getD_left _ _ _ hi]; exact all_nth h.1.2 hi) (hstop t)
    refine ⟨?_, ?_, ?_⟩
    · unfold tokP; rw [h0, if_pos h.2, hE, cut_front]
    · rw [h0]
      cases e : blankB (nth t 0)
      · rfl
      · have hl := h.2
        simp only [blankB, Bool.or_eq_true, beq_iff_eq] at e
        rcases e with (e | e) | e <;> (rw [e] at hl; exact absurd hl (by decide))
    · rw [h0]; intro e; have hl := h.2; rw [e] at hl; exact absurd hl (by decide)
  · split at h
    · rename_i e; subst e
      have es : tokS 2 t = 37 :: t := rfl
      rw [es]
      have hp := plain_all h
      have h0 : nth (37 :: t ++ rest) 0 = 37 := by simp [nth]
      have hE : runE (37 :: t ++ rest) 1 = 1 + t.length := by
        have := runE_shift [37] (t ++ rest) 0
        have h2 : runE (t ++ rest) 0 = t.length := runE_spec (by omega) (by simp) (fun i _ hi => by rw [getD_left _ _ _ hi]; exact digit_run (hp.2 i hi)) (hstop t)
        rw [h2] at this
        simpa using this
      have hC : cutL (37 :: t ++ rest) 1 (1 + t.length) = t := by
        have := cut_shift [37] (t ++ rest) 0 t.length
        rw [cut_front] at this
        simpa using this
      refine ⟨?_, by rw [h0]; rfl, by rw [h0]; decide⟩
      unfold tokP
      rw [h0, if_neg (by decide), if_pos rfl, Nat.zero_add, hE, hC, if_pos h]
      simp; omega
    · split at h
      · rename_i e; subst e
        have es : tokS 3 t = t := rfl
        rw [es] at hpos ⊢
        obtain ⟨_, s1, s2⟩ := num_shape h
        have h0 : nth (t ++ rest) 0 = nth t 0 := getD_left _ _ _ hpos
        have hE : runE (t ++ rest) 1 = t.length := runE_spec (by omega) (by simp) (fun i h1 hi => by rw [getD_left _ _ _ hi]; exact s2 i h1 hi) (hstop t)
        have hn : letterB (nth t 0) = false ∧ nth t 0 ≠ 37 ∧ nth t 0 ≠ 59 ∧ blankB (nth t 0) = false ∧ (digitB (nth t 0) || decide (nth t 0 = 45)) = true := by
          rcases s1 with s1 | s1
          · have s1' := s1
            simp only [digitB, decide_eq_true_eq] at s1
            refine ⟨?_, by omega, by omega, ?_, by simp [s1']⟩
            · simp [letterB]; omega
            · simp [blankB]; omega
          · rw [s1]; decide
        refine ⟨?_, by rw [h0]; exact hn.2.2.2.1, by rw [h0]; exact hn.2.2.1⟩
        unfold tokP
        rw [h0, if_neg (by simp [hn.1]), if_neg hn.2.1, if_pos hn.2.2.2.2, Nat.zero_add, hE, cut_front, if_pos h]
      · split at h
        · rename_i e; subst e
          have es : tokS 4 t ++ rest = [34] ++ (t.flatMap escL ++ 34 :: rest) := by simp [tokS, quoteL]
          have el : (tokS 4 t).length = (t.flatMap escL).length + 2 := by simp [tokS, quoteL]
          rw [es, el]
          have h0 : nth ([34] ++ (t.flatMap escL ++ 34 :: rest)) 0 = 34 := by simp [nth]
          have hq := quot_shift [34] (t.flatMap escL ++ 34 :: rest) 0
          rw [quot_flat t rest hw] at hq
          simp only [List.length_singleton, Nat.add_zero, Option.map_some] at hq
          refine ⟨?_, by rw [h0]; rfl, by rw [h0]; decide⟩
          unfold tokP
          rw [h0, if_neg (by decide), if_neg (by decide), if_neg (by decide), if_pos rfl, Nat.zero_add, hq]
          simp; omega
        · split at h
          · rename_i e; subst e
            have := of_decide_eq_true h
            subst this
            have es : tokS 5 [61] = [61] := rfl
            rw [es]
            have h0 : nth ([61] ++ rest) 0 = 61 := by simp [nth]
            refine ⟨?_, by rw [h0]; rfl, by rw [h0]; decide⟩
            unfold tokP
            rw [h0, if_neg (by decide), if_neg (by decide), if_neg (by decide), if_neg (by decide), if_pos rfl]; rfl
          · cases h

/-! ### a line of tokens -/

/-- Each token at the place where it is written. -/
def placed : Nat → List TokT → List TokT
  | _, [] => []
  | p, t :: r => (t.1, t.2.1, (p : Int)) :: placed (p + (tokS t.1 (strI t.2.1)).length + 1) r
theorem placed_move (k : Nat) (l : List TokT) : ∀ p, (placed p l).map (moveT k) = placed (p + k) l := by
  induction l with
  | nil => intro p; rfl
  | cons t r ih =>
    intro p
    simp only [placed, List.map_cons, ih, moveT]
    rw [show p + (tokS t.1 (strI t.2.1)).length + 1 + k = p + k + (tokS t.1 (strI t.2.1)).length + 1 by omega]
    simp
theorem wAll_head (r : List TokT) : runB (nth (wAll r) 0) = false := by
  cases r with
  | nil => rfl
  | cons t r => rfl
theorem toks_wAll (r : List TokT) (h : toksP ((wAll r).drop 1) 0 = (placed 0 r, 0, 0)) : toksP (wAll r) 0 = (placed 1 r, 0, 0) := by
  cases r with
  | nil => rfl
  | cons t r =>
    have e : wAll (t :: r) = List.replicate 1 32 ++ (wAll (t :: r)).drop 1 := rfl
    rw [e, toks_blanks, h]
    unfold shiftR
    rw [placed_move]; rfl
/-- What is written is read, each token at its place. -/
theorem toks_written (l : List TokT) (h : wOk l = true) : toksP ((wAll l).drop 1) 0 = (placed 0 l, 0, 0) := by
  induction l with
  | nil => rfl
  | cons t r ih =>
    simp only [wOk, List.all_cons, Bool.and_eq_true] at h
    have ih := toks_wAll r (ih h.2)
    have e : (wAll (t :: r)).drop 1 = tokS t.1 (strI t.2.1) ++ wAll r := by simp [wAll]
    obtain ⟨h1, h2, h3⟩ := tok_read h.1 (strI_within t.2.1) (wAll_head r)
    have hp := tokS_pos h.1
    have hs := toks_shift (tokS t.1 (strI t.2.1)) (wAll r) 0
    rw [Nat.add_zero, ih] at hs
    rw [e, toksP_tok (by rw [List.length_append]; omega) h3 h2 h1, hs, str_of_strI]
    unfold shiftR consR
    rw [placed_move, if_pos rfl]
    simp only [placed]
    rw [Nat.zero_add, Nat.add_comm 1]

end Go.Proofs.Yteckmcgihbicfab
