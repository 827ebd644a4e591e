/-
  Texts laid together in one: LexTok1, LexTokens, AsmRowOf, AsmBuilder, AsmAddInst, AsmLineF, AsmAdd, MathO, MathP, StringsCut, LexLines, AsmParseF, MathQ.
-/
import Derived.Test.YtgjedfmipllocaaGreatDoorB15
import Derived.WalkSpells
import Derived.WalkMore
import Derived.BigRegion
import Derived.Deep.RegionWith
import Derived.Test.YtgjedfmipllocaaGreatDoorProg
import Derived.Test.YtgjedfmipllocaaGreatDoorB11
import Derived.Test.YtgjedfmipllocaaGreatDoorB14
import Derived.Test.YtgjedfmipllocaaGreatDoorB13
import Derived.Deep.RegionLaw
import Derived.Deep.AppendLies
import Derived.Test.YtgjedfmipllocaaGreatDoorB07
import Derived.Shelf.RegionOpen
import Derived.OwnWalk
import Derived.RangeFuncNested
import Derived.RangeFuncBound
import Derived.RangeFuncCalls
import Derived.RangeFuncLeaves
import Derived.Shelf.Abstract
import Derived.WalkKit
import Derived.OwnWalkIn
import Derived.TacticsInMore
import Derived.LoopNIn
import Derived.LoopIn
import Derived.Test.YtgjedfmipllocaaGreatDoorB03
import Derived.Test.YtgjedfmipllocaaGreatDoorB05
import Derived.Test.YtgjedfmipllocaaGreatDoorB02
/-
  The scanner's tokens of the layer lex: the pass from between two tokens. No condition but what each names.
-/
namespace Go.Proofs.YtgjedfmipllocaaGreatDoor
open Go.RowKit
set_option maxRecDepth 100000
set_option linter.unusedVariables false
set_option linter.unusedSimpArgs false
attribute [local go_sem] jumps_normal jumps_exit jumps_ret jumps_panic jumps_goto onNormal_normal

/-- A piece that is a token if its text may be. -/
def tokIf (l : List Int) (K : Int) (fr p0 e : Nat) : TokR := if tokOk K (cutL l fr e) = true then consR (K, strOfNums (cutL l fr e), (p0 : Int)) (toksP l e) else ([], 62, (p0 : Int))

theorem kind_cases (c : Int) : (kindL c = 3 ∧ letterB c = true) ∨ (kindL c = 4 ∧ digitB c = true ∧ letterB c = false) ∨ (kindL c = 2 ∧ blankB c = true) ∨ (kindL c = 5 ∧ c = 37) ∨ (kindL c = 6 ∧ c = 45) ∨ (kindL c = 7 ∧ c = 34) ∨ (kindL c = 9 ∧ c = 61) ∨ (kindL c = 10 ∧ c = 59) ∨ ((kindL c = 8 ∨ kindL c = 1) ∧ letterB c = false ∧ digitB c = false ∧ blankB c = false ∧ c ≠ 37 ∧ c ≠ 45 ∧ c ≠ 34 ∧ c ≠ 61 ∧ c ≠ 59) := by
  cases h1 : letterB c
  · cases h2 : digitB c
    · cases h3 : blankB c
      · by_cases h4 : c = 37
        · subst h4; simp [kindL, letterB, digitB, blankB]
        · by_cases h5 : c = 45
          · subst h5; simp [kindL, letterB, digitB, blankB]
          · by_cases h6 : c = 34
            · subst h6; simp [kindL, letterB, digitB, blankB]
            · by_cases h7 : c = 61
              · subst h7; simp [kindL, letterB, digitB, blankB]
              · by_cases h8 : c = 59
                · subst h8; simp [kindL, letterB, digitB, blankB]
                · by_cases h9 : c = 92
                  · subst h9; simp [kindL, letterB, digitB, blankB]
                  · simp [kindL, h1, h2, h3, h4, h5, h6, h7, h8, h9]
      · simp [kindL, h1, h2, h3]
    · simp [kindL, h1, h2]
  · simp [kindL, h1]
theorem letter_not {c : Int} (h : letterB c = true) : blankB c = false ∧ c ≠ 59 := by
  refine ⟨?_, fun e => by subst e; exact absurd h (by decide)⟩
  cases e : blankB c
  · rfl
  · simp only [blankB, Bool.or_eq_true, beq_iff_eq] at e
    rcases e with (rfl | rfl) | rfl <;> exact absurd h (by decide)
theorem digit_not {c : Int} (h : digitB c = true) : blankB c = false ∧ c ≠ 59 ∧ c ≠ 37 := by
  simp only [digitB, decide_eq_true_eq] at h
  refine ⟨?_, by omega, by omega⟩
  cases e : blankB c
  · rfl
  · simp only [blankB, Bool.or_eq_true, beq_iff_eq] at e
    omega
theorem cut_len (l : List Int) (a b : Nat) (h : b ≤ l.length) : (cutL l a b).length = b - a := by
  unfold cutL; rw [List.length_drop, List.length_take]; omega
theorem nth_cut (l : List Int) (a b i : Nat) (h : a + i < b) : nth (cutL l a b) i = nth l (a + i) := by
  unfold cutL nth
  simp [List.getD, List.getElem?_drop, List.getElem?_take, h]
theorem runE_run {l : List Int} {p i : Nat} (h : p ≤ i) (hi : i < runE l p) : runB (nth l i) = true := by
  have key : ∀ (m : List Int) (j : Nat), j < (m.takeWhile runB).length → runB (nth m j) = true := by
    intro m
    induction m with
    | nil => intro j hj; simp at hj
    | cons c m ih =>
      intro j hj
      by_cases hc : runB c = true
      · rw [List.takeWhile_cons_of_pos hc] at hj
        cases j with
        | zero => exact hc
        | succ j =>
          have := ih j (by simpa using hj)
          simpa [nth, List.getD] using this
      · rw [List.takeWhile_cons_of_neg hc] at hj; simp at hj
  unfold runE at hi
  have := key (l.drop p) (i - p) (by omega)
  have e : nth (l.drop p) (i - p) = nth l i := by
    unfold nth; simp [List.getD, List.getElem?_drop, show p + (i - p) = i by omega]
  rwa [e] at this
theorem runE_stop (l : List Int) (p : Nat) (h : runE l p < l.length) : runB (nth l (runE l p)) = false := by
  have key : ∀ (m : List Int), (m.takeWhile runB).length < m.length → runB (nth m (m.takeWhile runB).length) = false := by
    intro m
    induction m with
    | nil => intro h; simp at h
    | cons c m ih =>
      intro h
      by_cases hc : runB c = true
      · rw [List.takeWhile_cons_of_pos hc] at h ⊢
        have := ih (by simpa using h)
        simpa [nth, List.getD] using this
      · rw [List.takeWhile_cons_of_neg hc]; simpa [nth, List.getD] using hc
  have h' := h
  unfold runE at h
  have := key (l.drop p) (by rw [List.length_drop]; omega)
  have e : nth (l.drop p) ((l.drop p).takeWhile runB).length = nth l (runE l p) := by
    unfold nth runE; simp [List.getD, List.getElem?_drop]
  rwa [e] at this
theorem runE_step {l : List Int} {p : Nat} (h : p < l.length) (hr : runB (nth l p) = true) : runE l p = runE l (p + 1) := by
  refine runE_spec (Nat.le_trans (by omega) (runE_ge l (p + 1))) (runE_le l (p + 1) (by omega)) (fun i h1 h2 => ?_) ?_
  · by_cases e : i = p
    · subst e; exact hr
    · exact runE_run (by omega) h2
  · rcases Nat.lt_or_ge (runE l (p + 1)) l.length with h' | h'
    · exact .inr (runE_stop _ _ h')
    · exact .inl (by have := runE_le l (p + 1) (by omega); omega)
theorem word_run {l : List Int} {p : Nat} (h : p < l.length) (hc : letterB (nth l p) = true) : wordB (cutL l p (runE l p)) = true := by
  have hr : runB (nth l p) = true := by simp [runB, hc]
  have h1 := runE_gt h hr
  have h2 := runE_le l p (by omega)
  have hl := cut_len l p (runE l p) h2
  rw [word_all (fun e => by rw [e] at hl; simp at hl; omega) (fun k hk => ?_), nth_cut l p (runE l p) 0 (by omega)]
  · exact hc
  · rw [hl] at hk
    rw [nth_cut l p (runE l p) k (by omega)]
    exact runE_run (p := p) (by omega) (by omega)

theorem toks_letter {l : List Int} {p : Nat} (h : p < l.length) (hc : letterB (nth l p) = true) : toksP l p = tokIf l 1 p p (runE l p) := by
  obtain ⟨h1, h2⟩ := letter_not hc
  have ht : tokP l p = .inr (1, cutL l p (runE l p), runE l p) := by unfold tokP; rw [if_pos hc]
  rw [toksP_tok h h2 h1 ht, tokIf, if_pos]
  exact word_run h hc
theorem toks_percent {l : List Int} {p : Nat} (h : p < l.length) (hc : nth l p = 37) : toksP l p = tokIf l 2 (p + 1) p (runE l (p + 1)) := by
  have h1 : blankB (nth l p) = false := by rw [hc]; rfl
  have h2 : nth l p ≠ 59 := by rw [hc]; decide
  have h3 : ¬ letterB (nth l p) = true := by rw [hc]; decide
  unfold tokIf
  cases e : plainB (cutL l (p + 1) (runE l (p + 1)))
  · rw [if_neg (by show ¬ plainB _ = true; simp [e])]
    exact toksP_err h h2 h1 (by unfold tokP; rw [if_neg h3, if_pos hc, if_neg (by simp [e])])
  · rw [if_pos (by show plainB _ = true; exact e)]
    exact toksP_tok h h2 h1 (by unfold tokP; rw [if_neg h3, if_pos hc, if_pos e])
theorem toks_number {l : List Int} {p : Nat} (h : p < l.length) (hl : letterB (nth l p) = false) (hb : blankB (nth l p) = false) (hs : nth l p ≠ 59) (hp : nth l p ≠ 37) (hc : (digitB (nth l p) || decide (nth l p = 45)) = true) : toksP l p = tokIf l 3 p p (runE l (p + 1)) := by
  unfold tokIf
  cases e : numB (cutL l p (runE l (p + 1)))
  · rw [if_neg (by show ¬ numB _ = true; simp [e])]
    exact toksP_err h hs hb (by unfold tokP; rw [if_neg (by simp [hl]), if_neg hp, if_pos hc, if_neg (by simp [e])])
  · rw [if_pos (by show numB _ = true; exact e)]
    exact toksP_tok h hs hb (by unfold tokP; rw [if_neg (by simp [hl]), if_neg hp, if_pos hc, if_pos e])
theorem toks_quote {l : List Int} {p : Nat} (h : p < l.length) (hc : nth l p = 34) : toksP l p = match quotP l (p + 1) with
    | some (t, q) => consR (4, strOfNums t, (p : Int)) (toksP l q)
    | none => ([], 61, (p : Int)) := by
  have h1 : blankB (nth l p) = false := by rw [hc]; rfl
  have h2 : nth l p ≠ 59 := by rw [hc]; decide
  have h3 : ¬ letterB (nth l p) = true := by rw [hc]; decide
  have h4 : ¬ nth l p = 37 := by rw [hc]; decide
  have h5 : ¬ (digitB (nth l p) || decide (nth l p = 45)) = true := by rw [hc]; decide
  cases e : quotP l (p + 1) with
  | none => exact toksP_err h h2 h1 (by unfold tokP; rw [if_neg h3, if_neg h4, if_neg h5, if_pos hc, e])
  | some r =>
    obtain ⟨t, q⟩ := r
    exact toksP_tok h h2 h1 (by unfold tokP; rw [if_neg h3, if_neg h4, if_neg h5, if_pos hc, e])
theorem toks_equal {l : List Int} {p : Nat} (h : p < l.length) (hc : nth l p = 61) : toksP l p = tokIf l 5 p p (p + 1) := by
  have h1 : blankB (nth l p) = false := by rw [hc]; rfl
  have h2 : nth l p ≠ 59 := by rw [hc]; decide
  have h3 : ¬ letterB (nth l p) = true := by rw [hc]; decide
  have h4 : ¬ nth l p = 37 := by rw [hc]; decide
  have h5 : ¬ (digitB (nth l p) || decide (nth l p = 45)) = true := by rw [hc]; decide
  have h6 : ¬ nth l p = 34 := by rw [hc]; decide
  have ec : cutL l p (p + 1) = [61] := by
    unfold cutL
    rw [take_snoc l p h, hc, List.drop_append_of_le_length (by rw [List.length_take]; omega), List.drop_eq_nil_of_le (by rw [List.length_take]; omega)]; rfl
  rw [toksP_tok h h2 h1 (by unfold tokP; rw [if_neg h3, if_neg h4, if_neg h5, if_neg h6, if_pos hc]), tokIf, ec, if_pos (by decide)]
theorem toks_stray {l : List Int} {p : Nat} (h : p < l.length) (h1 : letterB (nth l p) = false) (h2 : digitB (nth l p) = false) (h3 : blankB (nth l p) = false) (h4 : nth l p ≠ 37) (h5 : nth l p ≠ 45) (h6 : nth l p ≠ 34) (h7 : nth l p ≠ 61) (h8 : nth l p ≠ 59) : toksP l p = ([], 60, (p : Int)) :=
  toksP_err h h8 h3 (by unfold tokP; rw [if_neg (by simp [h1]), if_neg h4, if_neg (by simp [h2, h5]), if_neg h6, if_neg h7])

set_option maxHeartbeats 8000000 in
theorem tok_between (b : Nat) (s : ByteArray) (w : World) (R : TokR) (Q : Exit → Act → World → Prop) (hb : b < w.heap.size) (hs : 32 * s.size + 64 ≤ 140737488351232) (hQ : TokQ b s w R Q)
    (n : Nat) (a : Act) (w1 : World) (hJ : TokJ b s w R 0 a w1) (hN : TokM b s w 0 a w1 ≤ n) :
    (behind (findLabel (inScope (Tryz.f51.body.getD .skip)) 0)).wp Tryz.prog (jumps (fun l' a' w' => TokJ b s w R l' a' w' ∧ TokM b s w l' a' w' < n) Q) a w1 := by
  obtain ⟨p, acc, v, x, y, z, ⟨f, rfl, hsz, h0, h3, h4, h5⟩, hS, hB, hR, hacc⟩ := hJ
  conv => arg 2; whnf
  rw [frame99 f hsz, h0, h3, h4, h5]
  clear h0 h3 h4 h5 hsz
  obtain ⟨x0, x1, x2, xf⟩ := hB.cells
  obtain ⟨s0, s1, s2, s3, sf⟩ := scn_cells hS.scn
  have hle := hS.at_le
  have HM : Hid ((s.size - p) * (s.size + 3) + (s.size + 2) ≤ n) := by
    unfold TokM at hN
    rw [if_pos rfl, pos_scn hS.scn] at hN
    exact hN
  have f0 := xf 0
  have f1 := xf 1
  have f2 := xf 2
  have hS2 := TokS.drew (((hS.box hb 0 (.int .u8 0)).box hb 1 (.string ⟨#[]⟩)).box hb 2 (.int .i64 p))
  have hB2 := BoxT.drew (((hB.set0 (.int .u8 0)).set1 (.string ⟨#[]⟩)).set2 (.int .i64 p))
  have HS2 := hide (hS2)
  have HB2 := hide (hB2)
  have HR : Hid (R = joinR acc (toksP (strI s) p)) := hR
  have HLen : Hid ((strI s).length = s.size) := strI_len s
  clear hS hB hR hN xf sf hS2 hB2
  go_wp2_with fail
  refine wp_norm ?_
  go_region
  rw [onNormal_normal]
  have hS3 := HS2.out
  have hB3 := HB2.out
  clear HS2 HB2 x0 x1 x2 f0 f1 f2 s0 s1 s2 s3
  generalize (((w1.setCell ⟨w.heap.size + 1, 0, none⟩ (.int .u8 0)).setCell ⟨w.heap.size + 1, 1, none⟩ (.string ⟨#[]⟩)).setCell ⟨w.heap.size + 1, 2, none⟩ (.int .i64 p)).drew = w2 at hS3 hB3 ⊢
  obtain ⟨x0, x1, x2, xf⟩ := hB3.cells
  obtain ⟨s0, s1, s2, s3, sf⟩ := scn_cells hS3.scn
  obtain ⟨z0, z1, zf⟩ := hS3.cells
  have f0 := xf 0
  have f1 := xf 1
  have g0 := zf 0
  have g1 := zf 1
  have HS : Hid (TokS b s w p acc v w2) := hS3
  have HB : Hid (BoxT w w2 (.int .u8 0) (.string ⟨#[]⟩) (.int .i64 p)) := hB3
  have HBK : Hid (∀ K : Int, TokS b s w p acc v (w2.setCell ⟨w.heap.size + 1, 0, none⟩ (.int .u8 K)) ∧ BoxT w (w2.setCell ⟨w.heap.size + 1, 0, none⟩ (.int .u8 K)) (.int .u8 K) (.string ⟨#[]⟩) (.int .i64 p)) := fun K => ⟨hS3.box hb 0 _, hB3.set0 _⟩
  have HEND : Hid (∀ w3 : World, TokS b s w p acc v w3 → (toksP (strI s) p = ([], 0, 0)) → ∀ a' : Act, a'.tmps.getD 2 undef = v → a'.tmps.getD 3 undef = .pointer (some ⟨w.heap.size, 0, none⟩) → a'.defers = [] → Q .ret a' ((w3.setCell ⟨w.heap.size, 0, none⟩ (.int .i64 0)).setCell ⟨w.heap.size, 1, none⟩ (.int .i64 0))) := fun w3 h3 ht a' q2 q3 q4 => by
    have hRv : R = (acc, 0, 0) := by rw [HR.out, ht]; simp [joinR]
    refine hQ a' _ v q2 q3 q4 ?_ ?_ (setCell_high (setCell_high h3.grown (Nat.le_refl _) _ _) (Nat.le_refl _) _ _)
    · rw [hRv]; exact spot_put h3.spot _ _
    · rw [hRv]; exact ownsRow_setCell_below (ownsRow_setCell_below h3.row (by simp) _) (by simp) _
  have HERR : Hid (∀ (w3 : World) (er : Int), (w3.heap[w.heap.size]? = some (.cells #[.int .i64 0, .int .i64 0] 28 (0, 0)) ∧ w.grownBy w3 (some b)) → er ≠ 0 → toksP (strI s) p = ([], er, (p : Int)) → ∀ a' : Act, a'.tmps.getD 2 undef = .slice none 0 0 → a'.tmps.getD 3 undef = .pointer (some ⟨w.heap.size, 0, none⟩) → a'.defers = [] → Q .ret a' ((w3.setCell ⟨w.heap.size, 0, none⟩ (.int .i64 er)).setCell ⟨w.heap.size, 1, none⟩ (.int .i64 p)).drew) := fun w3 er h3 he ht a' q2 q3 q4 => by
    have hRv : R = ([], er, (p : Int)) := by rw [HR.out, ht]; simp [joinR, he]
    refine hQ a' _ (.slice none 0 0) q2 q3 q4 ?_ ?_ (grown_drew1 (setCell_high (setCell_high h3.2 (Nat.le_refl _) _ _) (Nat.le_refl _) _ _))
    · rw [hRv]; exact spot_put h3.1 _ _
    · rw [hRv]; exact World.ownsRow_nil _ _ _ _
  clear hS3 hB3 xf sf zf
  by_cases hlt : p < s.size
  · have hll : p < (strI s).length := by rw [HLen.out]; exact hlt
    have hka : kAt (strI s) p = kindL (nth (strI s) p) := by unfold kAt; rw [if_pos hll]
    rw [hka] at s3
    have hST := fun w3 (h : Scn b s p w3) => step_any b p s w3 h (by omega) (by omega)
    have HMU : Hid (∀ (w3 : World) (a' : Act) (l' : Nat) (X Y : Value), l' ≠ 0 → BoxT w w3 X Y (.int .i64 p) → TokM b s w l' a' w3 < n) := fun w3 a' l' X Y hl hB => by
      unfold TokM
      rw [if_neg hl, box_at hB]
      have := HM.out
      split <;> omega
    rcases kind_cases (nth (strI s) p) with ⟨k, hc⟩ | ⟨k, hc, hnl⟩ | ⟨k, hc⟩ | ⟨k, hc⟩ | ⟨k, hc⟩ | ⟨k, hc⟩ | ⟨k, hc⟩ | ⟨k, hc⟩ | ⟨k, c1, c2, c3, c4, c5, c6, c7, c8⟩
    · have HT : Hid (R = tokRes (strI s) acc 1 p p (runE (strI s) p)) := by show _ = _; rw [HR.out, toks_letter hll hc]; rfl
      have HE : Hid (p + 1 ≤ runE (strI s) p) := runE_gt hll (by simp [runB, hc])
      rw [k] at s3
      obtain ⟨q1, q2⟩ := HBK.out 1
      have Q1 := hide (q1)
      have Q2 := hide (q2)
      clear hc k hka hST HEND HERR HBK q1 q2
      generalize nth (strI s) p = c at s2
      go_wp2_with fail
      go_step3
      exact ⟨⟨p, p, p, p, 1, acc, v, _, ⟨_, rfl, rfl, rfl, rfl, rfl, rfl, rfl⟩, Q1.out, Q2.out, HT.out, fun i h1 h2 => by omega, Nat.le_refl _, Nat.le_refl _, HE.out, by decide, by decide, hacc⟩, HMU.out _ _ 1 _ _ (by decide) Q2.out⟩
    · have hd := digit_not hc
      have hr : runB (nth (strI s) p) = true := by simp [runB, hc]
      have HT : Hid (R = tokRes (strI s) acc 3 p p (runE (strI s) p)) := by show _ = _; rw [HR.out, toks_number hll hnl hd.1 hd.2.1 hd.2.2 (by simp [hc]), runE_step hll hr]; rfl
      have HE : Hid (p + 1 ≤ runE (strI s) p) := runE_gt hll hr
      rw [k] at s3
      obtain ⟨q1, q2⟩ := HBK.out 3
      have Q1 := hide (q1)
      have Q2 := hide (q2)
      clear hc k hka hST HEND HERR HBK q1 q2 hnl hd hr
      generalize nth (strI s) p = c at s2
      go_wp2_with fail
      go_step3
      exact ⟨⟨p, p, p, p, 3, acc, v, _, ⟨_, rfl, rfl, rfl, rfl, rfl, rfl, rfl⟩, Q1.out, Q2.out, HT.out, fun i h1 h2 => by omega, Nat.le_refl _, Nat.le_refl _, HE.out, by decide, by decide, hacc⟩, HMU.out _ _ 1 _ _ (by decide) Q2.out⟩
    · have HT : Hid (R = joinR acc (toksP (strI s) (p + 1))) := by show _ = _; rw [HR.out, toksP_blank hll hc]
      rw [k] at s3
      have hST2 := hST _ HS.out.scn
      clear hc k hka hST HEND HERR HBK
      generalize nth (strI s) p = c at s2
      go_wp2_with fail
      refine hST2.mono ?_
      rintro e w3 ⟨rfl, hSc, hg⟩
      have Q1 := hide (TokS.next hb HS.out hg hSc (by omega))
      have Q2 := hide (BoxT.next hb HB.out hg)
      clear hST2 hSc hg s0 s1 s2 s3 x0 x1 x2 z0 z1
      go_wp2_with fail
      go_step3
      refine ⟨⟨p + 1, acc, v, _, _, _, ⟨_, rfl, rfl, rfl, rfl, rfl, rfl⟩, Q1.out, Q2.out, HT.out, by omega⟩, ?_⟩
      unfold TokM
      rw [if_pos rfl, pos_scn Q1.out.scn]
      have h1 := mul_step (L := s.size) (Nat.le_refl (p + 1)) (by omega)
      have h2 := HM.out
      omega
    · have HT : Hid (R = tokRes (strI s) acc 2 (p + 1) p (runE (strI s) (p + 1))) := by show _ = _; rw [HR.out, toks_percent hll hc]; rfl
      rw [k] at s3
      obtain ⟨q1, q2⟩ := HBK.out 2
      have hST2 := hST _ q1.scn
      have Q1 := hide (q1)
      have Q2 := hide (q2)
      clear hc k hka hST HEND HERR HBK q1 q2
      generalize nth (strI s) p = c at s2
      go_wp2_with fail
      refine hST2.mono ?_
      rintro e w3 ⟨rfl, hSc, hg⟩
      have Q3 := hide (TokS.next hb Q1.out hg hSc (by omega))
      have Q4 := hide (BoxT.next hb Q2.out hg)
      obtain ⟨_, t1, _, _, _⟩ := scn_cells hSc
      rw [show ((p + 1 : Nat) : Int) = (p : Int) + 1 by omega] at t1
      clear hST2 hSc hg s0 s1 s2 s3 x0 x1 x2 z0 z1 Q1 Q2
      go_wp2_with fail
      go_step3
      exact ⟨⟨p + 1, p, p + 1, p + 1, 2, acc, v, _, ⟨_, rfl, rfl, rfl, rfl, rfl, rfl, rfl⟩, Q3.out, Q4.out, HT.out, fun i h1 h2 => by omega, Nat.le_refl _, Nat.le_refl _, runE_ge _ _, by decide, by decide, hacc⟩, HMU.out _ _ 1 _ _ (by decide) Q4.out⟩
    · have HT : Hid (R = tokRes (strI s) acc 3 p p (runE (strI s) (p + 1))) := by show _ = _; rw [HR.out, toks_number hll (by rw [hc]; decide) (by rw [hc]; decide) (by rw [hc]; decide) (by rw [hc]; decide) (by rw [hc]; decide)]; rfl
      rw [k] at s3
      have hST2 := hST _ HS.out.scn
      clear hc k hka hST HEND HERR HBK
      generalize nth (strI s) p = c at s2
      go_wp2_with fail
      refine hST2.mono ?_
      rintro e w3 ⟨rfl, hSc, hg⟩
      have q1 := TokS.next hb HS.out hg hSc (by omega)
      have q2 := BoxT.next hb HB.out hg
      obtain ⟨y0, _, _, yf⟩ := q2.cells
      have y1 := yf 0
      have Q3 := hide (q1.box hb 0 (.int .u8 3))
      have Q4 := hide (q2.set0 (.int .u8 3))
      clear hST2 hSc hg s0 s1 s2 s3 x0 x1 x2 z0 z1 q1 q2 yf
      go_wp2_with fail
      go_step3
      exact ⟨⟨p + 1, p, p, p + 1, 3, acc, v, _, ⟨_, rfl, rfl, rfl, rfl, rfl, rfl, rfl⟩, Q3.out, Q4.out, HT.out, fun i h1 h2 => by omega, by omega, Nat.le_refl _, runE_ge _ _, by decide, by decide, hacc⟩, HMU.out _ _ 1 _ _ (by decide) Q4.out⟩
    · have HT := toks_quote hll hc
      rw [k] at s3
      obtain ⟨q1, q2⟩ := HBK.out 4
      have hQU := quoted_any b p s _ q1.scn hlt (by omega)
      have Q1 := hide (q1)
      have Q2 := hide (q2)
      have HEQ : Hid (∀ t q, quotP (strI s) (p + 1) = some (t, q) → p + 1 + 1 ≤ q ∧ q ≤ s.size) := fun t q h => by have := quotP_end h; rw [HLen.out] at this; exact this
      clear hc k hka hST HBK q1 q2
      generalize nth (strI s) p = c at s2
      cases hq : quotP (strI s) (p + 1) with
      | none =>
        rw [hq] at HT hQU
        have HTT : Hid (toksP (strI s) p = ([], 61, (p : Int))) := HT
        clear HT HEND HEQ
        go_wp2_with fail
        refine hQU.mono ?_
        rintro e w3 ⟨rfl, hg, _⟩
        have q2 := BoxT.next hb Q2.out hg
        obtain ⟨_, y1, _, yf⟩ := q2.cells
        have y2 := yf 1
        have hsp : w3.heap[w.heap.size]? = some (.cells #[.int .i64 0, .int .i64 0] 28 (0, 0)) := (hg.block _ (by have := Q1.out.size; omega) (by simp; omega)).trans Q1.out.spot
        have q3 := q2.set1 (.string ⟨#[]⟩)
        obtain ⟨_, _, y3, _⟩ := q3.cells
        have hsp2 : (w3.setCell ⟨w.heap.size + 1, 1, none⟩ (.string ⟨#[]⟩)).heap[w.heap.size]? = some (.cells #[.int .i64 0, .int .i64 0] 28 (0, 0)) := (Below.heap_setCell _ _ _ _ (by simp)).trans hsp
        have hgr2 : w.grownBy (w3.setCell ⟨w.heap.size + 1, 1, none⟩ (.string ⟨#[]⟩)) (some b) := setCell_high (grown_trans Q1.out.grown hg) (by omega) _ _
        have e0 : (w3.setCell ⟨w.heap.size + 1, 1, none⟩ (.string ⟨#[]⟩)).cell? ⟨w.heap.size, 0, none⟩ = some (.int .i64 0) := by rw [Lib.cell_of_heap hsp2]; rfl
        have e1 : (w3.setCell ⟨w.heap.size + 1, 1, none⟩ (.string ⟨#[]⟩)).cell? ⟨w.heap.size, 1, none⟩ = some (.int .i64 0) := by rw [Lib.cell_of_heap hsp2]; rfl
        have e2 : (w3.setCell ⟨w.heap.size + 1, 1, none⟩ (.string ⟨#[]⟩)).frozen? ⟨w.heap.size, 0, none⟩ = false := Lib.frozen_of_heap hsp2 0
        have e3 : (w3.setCell ⟨w.heap.size + 1, 1, none⟩ (.string ⟨#[]⟩)).frozen? ⟨w.heap.size, 1, none⟩ = false := Lib.frozen_of_heap hsp2 1
        have HSP := hide (And.intro hsp2 hgr2)
        clear hQU hg s0 s1 s2 s3 x0 x1 x2 z0 z1 q2 q3 yf Q1 Q2 hsp hsp2 hgr2
        simp only [quotS, Option.isSome]
        go_wp2_with fail
        generalize w3.setCell ⟨w.heap.size + 1, 1, none⟩ (.string ⟨#[]⟩) = w4 at *
        refine wp_norm ?_
        go_region
        rw [onNormal_normal]
        go_wp2_with fail
        rw [jumps_ret]
        exact HERR.out _ 61 HSP.out (by decide) HTT.out _ rfl rfl rfl
      | some r =>
        obtain ⟨t, q⟩ := r
        rw [hq] at HT hQU
        have HTT : Hid (R = joinR (acc ++ [(4, strOfNums t, (p : Int))]) (toksP (strI s) q)) := by show _ = _; rw [HR.out, HT, join_cons]
        have hqq := HEQ.out t q hq
        clear HT HEND HERR HEQ hq
        go_wp2_with fail
        refine hQU.mono ?_
        rintro e w3 ⟨rfl, hg, hsc⟩
        have q1 := TokS.next hb Q1.out hg (hsc t q rfl) (by omega)
        have q2 := BoxT.next hb Q2.out hg
        obtain ⟨_, y1, _, yf⟩ := q2.cells
        have y2 := yf 1
        have Q3 := hide (q1.box hb 1 (.string (strOfNums t)))
        have Q4 := hide (q2.set1 (.string (strOfNums t)))
        clear hQU hg hsc s0 s1 s2 s3 x0 x1 x2 z0 z1 q1 q2 yf Q1 Q2
        simp only [quotS, Option.isSome]
        go_wp2_with fail
        go_step3
        exact ⟨⟨q, p, 4, strOfNums t, acc, v, ⟨_, rfl, rfl, rfl, rfl, rfl, rfl⟩, Q3.out, Q4.out, HTT.out, by omega, hacc⟩, HMU.out _ _ 2 _ _ (by decide) Q4.out⟩
    · have HT : Hid (R = tokRes (strI s) acc 5 p p (p + 1)) := by show _ = _; rw [HR.out, toks_equal hll hc]; rfl
      rw [k] at s3
      obtain ⟨q1, q2⟩ := HBK.out 5
      have hST2 := hST _ q1.scn
      have Q1 := hide (q1)
      have Q2 := hide (q2)
      clear hc k hka hST HEND HERR HBK q1 q2
      generalize nth (strI s) p = c at s2
      go_wp2_with fail
      refine hST2.mono ?_
      rintro e w3 ⟨rfl, hSc, hg⟩
      have Q3 := hide (TokS.next hb Q1.out hg hSc (by omega))
      have Q4 := hide (BoxT.next hb Q2.out hg)
      clear hST2 hSc hg s0 s1 s2 s3 x0 x1 x2 z0 z1 Q1 Q2
      go_wp2_with fail
      go_step3
      exact ⟨⟨p + 1, p, p, 5, acc, v, _, ⟨_, rfl, rfl, rfl, rfl, rfl, rfl, rfl⟩, Q3.out, Q4.out, HT.out, by omega, Nat.le_refl _, by decide, by decide, hacc⟩, HMU.out _ _ 3 _ _ (by decide) Q4.out⟩
    · have HTT : Hid (toksP (strI s) p = ([], 0, 0)) := toksP_end (fun h => h.2 hc)
      rw [k] at s3
      clear hc k hka hST HERR HBK
      generalize nth (strI s) p = c at s2
      go_wp2_with fail
      rw [jumps_ret]
      exact HEND.out _ HS.out HTT.out _ rfl rfl rfl
    · have HTT : Hid (toksP (strI s) p = ([], 60, (p : Int))) := toks_stray hll c1 c2 c3 c4 c5 c6 c7 c8
      clear c1 c2 c3 c4 c5 c6 c7 c8 hka hST HEND HBK
      rcases k with k | k
      · rw [k] at s3
        clear k
        generalize nth (strI s) p = c at s2
        go_wp2_with fail
        refine wp_norm ?_
        go_region
        rw [onNormal_normal]
        go_wp2_with fail
        rw [jumps_ret]
        exact HERR.out _ 60 ⟨HS.out.spot, HS.out.grown⟩ (by decide) HTT.out _ rfl rfl rfl
      · rw [k] at s3
        clear k
        generalize nth (strI s) p = c at s2
        go_wp2_with fail
        refine wp_norm ?_
        go_region
        rw [onNormal_normal]
        go_wp2_with fail
        rw [jumps_ret]
        exact HERR.out _ 60 ⟨HS.out.spot, HS.out.grown⟩ (by decide) HTT.out _ rfl rfl rfl
  · have HTT : Hid (toksP (strI s) p = ([], 0, 0)) := toksP_end (fun h => by rw [HLen.out] at h; exact hlt h.1)
    have hka : kAt (strI s) p = 0 := by unfold kAt; rw [if_neg (by rw [HLen.out]; exact hlt)]
    rw [hka] at s3
    clear hka HERR HBK
    generalize nth (strI s) p = c at s2
    go_wp2_with fail
    rw [jumps_ret]
    exact HEND.out _ HS.out HTT.out _ rfl rfl rfl

end Go.Proofs.YtgjedfmipllocaaGreatDoor

/-
  What Tokens of the layer lex returns, for every line whose tokens keep to the memory's reach: the tokens in new memory, or what is wrong and where; nothing that was there turns.
-/
namespace Go.Proofs.YtgjedfmipllocaaGreatDoor
open Go.RowKit
set_option maxRecDepth 100000
set_option linter.unusedVariables false
set_option linter.unusedSimpArgs false
attribute [local go_sem] jumps_normal jumps_exit jumps_ret jumps_panic jumps_goto onNormal_normal

set_option maxHeartbeats 4000000 in
theorem scanTokens_any (b p : Nat) (s : ByteArray) (w : World) (h : Scn b s p w) (hp : p ≤ s.size) (hs : 32 * s.size + 64 ≤ 140737488351232) :
    Calls Tryz.prog 51 #[.pointer (some ⟨b, 0, none⟩)] w fun e w' => ∃ v, e = .returned (.tuple #[v, .agg #[.int .i64 (toksP (strI s) p).2.1, .int .i64 (toksP (strI s) p).2.2]]) ∧ w'.ownsRow w.heap.size 40 3 v (toksP (strI s) p).1.length ((toksP (strI s) p).1.flatMap tokC) ∧ w.grownBy w' (some b) := by
  have hblt : b < w.heap.size := (Array.getElem?_eq_some_iff.1 h).1
  obtain ⟨R, hR⟩ : ∃ R, R = toksP (strI s) p := ⟨_, rfl⟩
  rw [← hR]
  have HR : Hid (R = joinR [] (toksP (strI s) p)) := by show _ = _; rw [join_nil]; exact hR
  have HRET : Hid (TokQ b s w R (bodyPost Tryz.prog Tryz.f51 fun e w' => ∃ v, e = .returned (.tuple #[v, .agg #[.int .i64 R.2.1, .int .i64 R.2.2]]) ∧ w'.ownsRow w.heap.size 40 3 v R.1.length (R.1.flatMap tokC) ∧ w.grownBy w' (some b))) := by
    intro a' w' v q2 q3 q4 q5 q6 q7
    have c0 : w'.cell? ⟨w.heap.size, 0, none⟩ = some (.int .i64 R.2.1) := by rw [Lib.cell_of_heap q5]; rfl
    have c1 : w'.cell? ⟨w.heap.size, 1, none⟩ = some (.int .i64 R.2.2) := by rw [Lib.cell_of_heap q5]; rfl
    refine bodyPost_ret (v := .tuple #[v, .agg #[.int .i64 R.2.1, .int .i64 R.2.2]]) ?_ q4 ⟨v, rfl, ?_, q7⟩
    · simp only [results, Tryz.results51]
      have q2' : a'.tmps[2]?.getD undef = v := by rw [← Array.getD_eq_getD_getElem?]; exact q2
      have q3' : a'.tmps[3]?.getD undef = .pointer (some ⟨w.heap.size, 0, none⟩) := by rw [← Array.getD_eq_getD_getElem?]; exact q3
      simp [go_sem, q2', q3', c0, c1]
    · refine ⟨q6.1, ?_⟩
      rcases q6.2 with hn | ⟨g, cap, cur, e1, e2, rest⟩
      · exact .inl hn
      · exact .inr ⟨g, cap, cur, e1, by omega, rest⟩
  have HS : Hid (TokS b s w p [] (.slice none 0 0) ((w.alloc (.cells #[.int .i64 0, .int .i64 0] 28)).alloc (.cells #[.int .u8 0, .string ⟨#[]⟩, .int .i64 0] 40))) := by
    refine ⟨?_, ?_, World.ownsRow_nil _ _ _ _, grown_trans (World.grownBy_alloc _ _ _) (World.grownBy_alloc _ _ _), by simp, hp⟩
    · show ((w.alloc _).alloc _).heap[b]? = _
      rw [Below.heap_alloc _ _ _ (by simp; omega), Below.heap_alloc _ _ _ hblt]; exact h
    · rw [Below.heap_alloc _ _ _ (by simp)]; exact heap_alloc_new w _
  have HB : Hid (BoxT w ((w.alloc (.cells #[.int .i64 0, .int .i64 0] 28)).alloc (.cells #[.int .u8 0, .string ⟨#[]⟩, .int .i64 0] 40)) (.int .u8 0) (.string ⟨#[]⟩) (.int .i64 0)) := by
    have e : (w.alloc (.cells #[.int .i64 0, .int .i64 0] 28)).heap.size = w.heap.size + 1 := by simp
    show (World.alloc _ _).heap[w.heap.size + 1]? = _
    rw [← e]; exact heap_alloc_new _ _
  clear h hR
  go_enter Tryz.func51, Tryz.ntmps51
  go_wp2_with fail
  refine wp_scope_ranked (TokJ b s w R) (TokM b s w) (fun l => if l = 2 then 0 else if l = 3 then 1 else if l = 1 then 2 else 3) ?hf ?pass ?first
  case hf =>
    intro l a w1 hJ
    match l, hJ with
    | 0, _ => rfl
    | 1, _ => rfl
    | 2, _ => rfl
    | 3, _ => rfl
  case first =>
    intro hP
    go_wp2_with fail
    refine wp_label ?_
    rename_i Kx hKx
    exact hKx _ _ (hP 0 _ _ ⟨p, [], .slice none 0 0, _, _, _, ⟨_, rfl, rfl, rfl, rfl, rfl, rfl⟩, HS.out, HB.out, HR.out, Nat.zero_le _⟩)
  case pass =>
    intro l hprev N a w1 hJ hN
    match l, hJ with
    | 0, hJ => exact tok_between b s w R _ hblt hs HRET.out N a w1 hJ hN
    | 1, hJ => exact tok_run b s w R _ hblt hs (hprev 3 (by decide)) N a w1 hJ hN
    | 2, hJ => exact tok_taken b s w R _ hblt hs N a w1 hJ hN
    | 3, hJ => exact tok_whole b s w R _ hblt hs HRET.out (hprev 2 (by decide)) N a w1 hJ hN

theorem tokens_any (s : ByteArray) (w : World) (hs : 32 * s.size + 64 ≤ 140737488351232) :
    Calls Tryz.prog 11 #[.string s] w fun e w' => ∃ v, e = .returned (.tuple #[v, .agg #[.int .i64 (toksP (strI s) 0).2.1, .int .i64 (toksP (strI s) 0).2.2]]) ∧ w'.ownsRow w.heap.size 40 3 v (toksP (strI s) 0).1.length ((toksP (strI s) 0).1.flatMap tokC) ∧ Below w.heap.size w w' := by
  have e : (w.alloc (.cells #[.int .i64 0, .int .i64 0] 28)).heap.size = w.heap.size + 1 := by simp
  have hcell : ((w.alloc (.cells #[.int .i64 0, .int .i64 0] 28)).alloc (.cells #[.string s, .int .i64 0, .int .u8 0, .int .u8 0] 102)).heap[w.heap.size + 1]? = some (scnC s 0 (.int .u8 0) (.int .u8 0)) := by
    rw [← e]; exact heap_alloc_new _ _
  have hspot : ((w.alloc (.cells #[.int .i64 0, .int .i64 0] 28)).alloc (.cells #[.string s, .int .i64 0, .int .u8 0, .int .u8 0] 102)).heap[w.heap.size]? = some (.cells #[.int .i64 0, .int .i64 0] 28 (0, 0)) := by
    rw [Below.heap_alloc _ _ _ (by simp)]; exact heap_alloc_new w _
  have hbel : Below w.heap.size w ((w.alloc (.cells #[.int .i64 0, .int .i64 0] 28)).alloc (.cells #[.string s, .int .i64 0, .int .u8 0, .int .u8 0] 102)) := ((Below.refl _ w).alloc (Nat.le_refl _) _).alloc (by simp) _
  have hsz : w.heap.size + 2 ≤ ((w.alloc (.cells #[.int .i64 0, .int .i64 0] 28)).alloc (.cells #[.string s, .int .i64 0, .int .u8 0, .int .u8 0] 102)).heap.size := by simp
  have hLK := look_any (w.heap.size + 1) 0 s _ _ _ hcell (by omega) (by omega)
  clear e hcell
  go_enter Tryz.func11, Tryz.ntmps11
  go_wp2_with fail
  generalize (w.alloc (.cells #[.int .i64 0, .int .i64 0] 28)).alloc (.cells #[.string s, .int .i64 0, .int .u8 0, .int .u8 0] 102) = W0 at *
  refine hLK.mono ?_
  rintro e w1 ⟨rfl, hS1, hg1⟩
  have hTK := scanTokens_any (w.heap.size + 1) 0 s w1 hS1 (Nat.zero_le _) hs
  clear hLK
  go_wp2_with fail
  refine hTK.mono ?_
  rintro e w2 ⟨v, rfl, hrow, hg2⟩
  have hs1 := hg1.size
  have hs2 := hg2.size
  have hsp2 : w2.heap[w.heap.size]? = some (.cells #[.int .i64 0, .int .i64 0] 28 (0, 0)) := (hg2.block _ (by omega) (by simp)).trans ((hg1.block _ (by omega) (by simp)).trans hspot)
  have hb2 : Below w.heap.size w w2 := (hbel.grown hg1 (by omega) (fun k e => by simp at e; omega)).grown hg2 (by omega) (fun k e => by simp at e; omega)
  have hrow2 : w2.ownsRow (w.heap.size + 1) 40 3 v (toksP (strI s) 0).1.length ((toksP (strI s) 0).1.flatMap tokC) := by
    refine ⟨hrow.1, ?_⟩
    rcases hrow.2 with hn | ⟨g, cap, cur, e1, e2, rest⟩
    · exact .inl hn
    · exact .inr ⟨g, cap, cur, e1, by omega, rest⟩
  generalize her : (toksP (strI s) 0).2.1 = er at *
  generalize hat : (toksP (strI s) 0).2.2 = at_ at *
  have HER := hide her
  have HAT := hide hat
  clear her hat
  have z0 : w2.cell? ⟨w.heap.size, 0, none⟩ = some (.int .i64 0) := by rw [Lib.cell_of_heap hsp2]; rfl
  have z1 : w2.cell? ⟨w.heap.size, 1, none⟩ = some (.int .i64 0) := by rw [Lib.cell_of_heap hsp2]; rfl
  have f0 : w2.frozen? ⟨w.heap.size, 0, none⟩ = false := Lib.frozen_of_heap hsp2 0
  have f1 : w2.frozen? ⟨w.heap.size, 1, none⟩ = false := Lib.frozen_of_heap hsp2 1
  have hsp3 := spot_put hsp2 (.int .i64 er) (.int .i64 at_)
  have hrow3 := ownsRow_setCell_below (ownsRow_setCell_below hrow2 (a := ⟨w.heap.size, 0, none⟩) (by simp) (.int .i64 er)) (a := ⟨w.heap.size, 1, none⟩) (by simp) (.int .i64 at_)
  have hb3 := (hb2.setCell (p := ⟨w.heap.size, 0, none⟩) (Nat.le_refl _) (.int .i64 er)).setCell (p := ⟨w.heap.size, 1, none⟩) (Nat.le_refl _) (.int .i64 at_)
  have HSP := hide hsp3
  have HROW := hide hrow3
  have HB3 := hide hb3
  clear hTK hrow hrow2 hsp2 hsp3 hrow3 hb3 hb2 hspot hbel hg1 hg2 hS1
  go_wp2_with fail
  generalize (w2.setCell ⟨w.heap.size, 0, none⟩ (.int .i64 er)).setCell ⟨w.heap.size, 1, none⟩ (.int .i64 at_) = w3 at *
  have c0 : w3.cell? ⟨w.heap.size, 0, none⟩ = some (.int .i64 er) := by rw [Lib.cell_of_heap HSP.out]; rfl
  have c1 : w3.cell? ⟨w.heap.size, 1, none⟩ = some (.int .i64 at_) := by rw [Lib.cell_of_heap HSP.out]; rfl
  refine bodyPost_ret (v := .tuple #[v, .agg #[.int .i64 er, .int .i64 at_]]) ?_ rfl ⟨v, by rw [HER.out, HAT.out], ?_, HB3.out⟩
  · simp only [results, Tryz.results11]
    simp [go_sem, c0, c1]
  · refine ⟨HROW.out.1, ?_⟩
    rcases HROW.out.2 with hn | ⟨g, cap, cur, e1, e2, rest⟩
    · exact .inl hn
    · exact .inr ⟨g, cap, cur, e1, by omega, rest⟩

end Go.Proofs.YtgjedfmipllocaaGreatDoor

/-
  What rowOf of the layer asm returns: a line's tokens as a row.
-/
namespace Go.Proofs.YtgjedfmipllocaaGreatDoor
open Go.RowKit
set_option linter.unusedVariables false
set_option linter.unusedSimpArgs false
set_option maxRecDepth 10000

end Go.Proofs.YtgjedfmipllocaaGreatDoor

/-
  What the methods headed and addHead of a builder return, of the layer asm.
-/
namespace Go.Proofs.YtgjedfmipllocaaGreatDoor
open Go.RowKit
set_option linter.unusedVariables false
set_option linter.unusedSimpArgs false
set_option maxRecDepth 10000

/-- All blocks that were there, but one and a row's, are as they were. -/
structure Two (w : World) (B : Nat) (ob : Option Nat) (w' : World) : Prop where
  os : w'.os = w.os
  tape : w'.tape = w.tape
  output : w'.output = w.output
  size : w.heap.size ≤ w'.heap.size
  block : ∀ k, k < w.heap.size → k ≠ B → some k ≠ ob → w'.heap[k]? = w.heap[k]?
theorem Two.of_below {w w' : World} {B : Nat} {ob : Option Nat} (h : Below w.heap.size w w') : Two w B ob w' := ⟨h.os, h.tape, h.output, h.size, fun k hk _ _ => h.block k hk⟩

end Go.Proofs.YtgjedfmipllocaaGreatDoor

/-
  What the method addInst of a builder returns, of the layer asm.
-/
namespace Go.Proofs.YtgjedfmipllocaaGreatDoor
open Go.RowKit
set_option linter.unusedVariables false
set_option linter.unusedSimpArgs false
set_option maxRecDepth 10000

theorem Inst7.info : (Tryz.prog.info? 48).map (fun i => (i.zero, i.size, i.bytes)) = some (some (.agg #[.int .u16 0, .int .u32 0, .int .u32 0, .slice none 0 0]), 4, 40) := by kernel_rfl

end Go.Proofs.YtgjedfmipllocaaGreatDoor

/-
  What Line of the layer asm returns.
-/
namespace Go.Proofs.YtgjedfmipllocaaGreatDoor
open Go.RowKit
set_option linter.unusedVariables false
set_option linter.unusedSimpArgs false
set_option maxRecDepth 10000

end Go.Proofs.YtgjedfmipllocaaGreatDoor

/-
  What the method add of a builder returns, of the layer asm.
-/
namespace Go.Proofs.YtgjedfmipllocaaGreatDoor
open Go.RowKit
set_option linter.unusedVariables false
set_option linter.unusedSimpArgs false
set_option maxRecDepth 10000

end Go.Proofs.YtgjedfmipllocaaGreatDoor

/-
  Plain facts on what a line says: where it says no instruction, none is answered.
-/
namespace Go.Proofs.YtgjedfmipllocaaGreatDoor
open Go.RowKit
set_option linter.unusedVariables false
set_option linter.unusedSimpArgs false
set_option maxRecDepth 10000

end Go.Proofs.YtgjedfmipllocaaGreatDoor

/-
  Plain facts on what a line says: an instruction that it says can be written; what it says else is an error, unless it says nothing.
-/
namespace Go.Proofs.YtgjedfmipllocaaGreatDoor
open Go.RowKit
set_option linter.unusedVariables false
set_option linter.unusedSimpArgs false
set_option maxRecDepth 10000

end Go.Proofs.YtgjedfmipllocaaGreatDoor

/-
  What strings.Cut returns at a line's end.
-/
namespace Go.Proofs.YtgjedfmipllocaaGreatDoor
open Go.RowKit
set_option maxRecDepth 10000
set_option linter.unusedVariables false
set_option linter.unusedSimpArgs false

theorem liteIndexByte_any (s : ByteArray) (w : World) :
    Calls Tryz.prog 195 #[.string s, .int .u8 10] w fun e w' => e = .returned (.int .i64 (nlAt s)) ∧ w = w' := by
  have hx := fun (w : World) => run_callFunc_extern (P := Tryz.prog) (f := 251) Tryz.func251 (by kernel_rfl) (by kernel_rfl) (by kernel_rfl) (e := Extern.BytealgIndexByte.indexByte) (by kernel_rfl) #[.string s, .int .u8 10] w
  simp only [Lib.run_indexByteString, Result.andThen] at hx
  have e : Lib.indexByte s.data.toList (10 : Int).toNat.toUInt8 = nlAt s := rfl
  rw [e] at hx
  generalize nlAt s = r at hx
  go_enter Tryz.func195, Tryz.ntmps195
  go_wp2
  go_ret
  exact ⟨rfl, rfl⟩

set_option maxRecDepth 100000 in
set_option maxHeartbeats 2000000 in
theorem liteIndex_any (s : ByteArray) (w : World) :
    Calls Tryz.prog 142 #[.string s, .string ⟨#[10]⟩] w fun e w' => e = .returned (.int .i64 (nlAt s)) ∧ w = w' := by
  have hI := fun wx => liteIndexByte_any s wx
  have hz : (⟨#[10]⟩ : ByteArray).size = 1 := rfl
  by_cases hc : ([10] == s.toList) = true
  · have e0 : nlAt s = 0 := by
      have h := eq_of_beq hc
      rw [ByteArray.toList_eq] at h
      unfold nlAt; rw [← h]; rfl
    rw [e0]
    clear hI
    go_enter Tryz.func142, Tryz.ntmps142
    go_wp2_with fail
    go_ret
    exact ⟨rfl, rfl⟩
  · generalize nlAt s = r at *
    have hc : ([10] == s.toList) = false := by simpa using hc
    go_enter Tryz.func142, Tryz.ntmps142
    go_wp2_with fail
    refine (hI _).mono ?_
    rintro e w1 ⟨rfl, rfl⟩
    go_wp2
    go_ret
    exact ⟨rfl, rfl⟩

set_option maxHeartbeats 2000000 in
theorem liteCut_any (s : ByteArray) (w : World) (hs : s.size ≤ 140737488351232) :
    Calls Tryz.prog 94 #[.string s, .string ⟨#[10]⟩] w fun e w' => (∃ b, e = .returned (.tuple #[.string (cutAX s), .string (cutZ s), .bool b])) ∧ Below w.heap.size w w' := by
  have hI := fun wx => liteIndex_any s wx
  have hz : (⟨#[10]⟩ : ByteArray).size = 1 := rfl
  rcases nl_cases s with ⟨e, _⟩ | ⟨m, e, hm, _, _⟩
  · rw [(cut_none e).1, (cut_none e).2]
    rw [e] at hI
    go_enter Tryz.func94, Tryz.ntmps94
    go_wp2_with fail
    refine (hI _).mono ?_
    rintro e w1 ⟨rfl, rfl⟩
    go_wp2
    go_ret3
    exact ⟨⟨_, rfl⟩, Below.refl _ _⟩
  · rw [(cut_some e).1, (cut_some e).2]
    rw [e] at hI
    have h0 : ¬ ((m : Int) < 0) := by omega
    have h1 : (m : Int) + 1 ≤ (s.size : Int) := by omega
    have h2 : (m : Int) ≤ (s.size : Int) := by omega
    go_enter Tryz.func94, Tryz.ntmps94
    go_wp2_with fail
    refine (hI _).mono ?_
    rintro e w1 ⟨rfl, rfl⟩
    go_wp2_with fail
    go_quiet (fail)
    go_wp2
    go_ret3
    exact ⟨⟨_, rfl⟩, bel_drewN (Below.refl _ _) _⟩

theorem cut_any (s : ByteArray) (w : World) (hs : s.size ≤ 140737488351232) :
    Calls Tryz.prog 48 #[.string s, .string ⟨#[10]⟩] w fun e w' => (∃ b, e = .returned (.tuple #[.string (cutAX s), .string (cutZ s), .bool b])) ∧ Below w.heap.size w w' := by
  have hI := fun wx => liteCut_any s wx hs
  go_enter Tryz.func48, Tryz.ntmps48
  go_wp2_with fail
  refine (hI _).mono ?_
  rintro e w1 ⟨⟨b, rfl⟩, hb⟩
  have HB : Hid (Below w.heap.size w w1) := hb
  clear hb
  go_wp2
  go_ret3
  exact ⟨⟨_, rfl⟩, HB.out⟩

end Go.Proofs.YtgjedfmipllocaaGreatDoor

/-
  Lines of the layer lex, and what its iterator tells: the lines of the text, each with its number.
-/
namespace Go.Proofs.YtgjedfmipllocaaGreatDoor
open Go.RowKit Go.Shelf Go.Lib
set_option maxRecDepth 10000
attribute [local go_sem] Oper.semAt_some
set_option linter.unusedVariables false
set_option linter.unusedSimpArgs false

/-- What is told of a line. -/
def lineV (x : Nat × ByteArray) : Array Value := #[.int .i64 x.1, .string x.2]
def sizeV : Value → Nat
  | .string s => s.size
  | _ => 0

theorem lines_any (s : ByteArray) (w : World) : Calls Tryz.prog 10 #[.string s] w fun e w' => e = .returned (.func (.func 47) #[] #[.pointer (some ⟨w.heap.size, 0, none⟩)]) ∧ w' = w.alloc (.cells #[.string s] 9) := by
  go_enter Tryz.func10, Tryz.ntmps10
  go_wp2
  go_ret
  exact ⟨rfl, rfl⟩

theorem size_not (s : ByteArray) (h : s.size = 0) : s.toList.isEmpty = true := by
  rw [ByteArray.toList_eq]
  have : s.data.toList = [] := by rw [← List.length_eq_zero_iff, Array.length_toList]; exact h
  rw [this]; rfl
theorem size_some (s : ByteArray) (h : s.size ≠ 0) : s.toList.isEmpty = false := by
  rw [ByteArray.toList_eq]
  cases e : s.data.toList with
  | nil => exact absurd (by rw [← show s.data.size = s.size from rfl, ← Array.length_toList, e]; rfl) h
  | cons x l => rfl

set_option maxRecDepth 100000 in
set_option maxHeartbeats 2000000 in
theorem lines_tells (s : ByteArray) (hs : s.size ≤ 140737488351232) (b : Nat) (n0 : Nat) (τ : TypeId → Prop) (w : World) (hb : w.heap[b]? = some (.cells #[.string s] 9 (0, 0))) :
    Tells Tryz.prog 47 #[.pointer (some ⟨b, 0, none⟩)] lineV (fun pre x _ => pre ++ [x] <+: linesT s) n0 τ (fun xs => xs = linesT s) (fun pre => pre <+: linesT s) w := by
  intro l J Jx W hW hJ hJx hY h0
  have HY : Hid (∀ pre x W1, J pre W1 → pre ++ [x] <+: linesT s → _) := hY
  have hbl : b < w.heap.size := (Array.getElem?_eq_some_iff.1 hb).1
  obtain ⟨c0, _⟩ := oneCell ((hW.block b hbl).trans hb)
  clear hY hW hb
  refine callsIn_of_wp Tryz.func47 rfl trivial ?_ rfl
  simp only [Tryz.ntmps47, List.size_toArray, List.length_cons, List.length_nil, Nat.reduceAdd, Nat.reduceSub, Array.replicate_succ, Array.replicate_zero, List.push_toArray, List.append_toArray, List.nil_append, List.cons_append]
  gi_wp2
  gi_loopw [3, 4] (fun t i wr => ∃ (z : ByteArray) (pre : List (Nat × ByteArray)) (f : Nat), t = .string z ∧ i = .int .i64 ((pre.length : Int) + 1) ∧ z.size ≤ f ∧ pre.length + z.size ≤ s.size ∧ pre ++ linesF f (pre.length + 1) z = linesT s ∧ J pre wr) (fun t _ _ => sizeV t)
  case atStart => exact ⟨s, [], s.size, rfl, rfl, Nat.le_refl _, by simp, rfl, h0⟩
  case round =>
    obtain ⟨z, pre, f, rfl, rfl, hf, hsz, hpre, hJs⟩ := hrel
    clear h0
    by_cases hz : z.size = 0
    · have HJ : Hid (pre = linesT s ∧ J pre wr) := ⟨by rw [← hpre, linesF_empty _ _ _ hz, List.append_nil], hJs⟩
      have hz' := size_not z hz
      clear hJs HY hpre
      gi_wp2
      go_end0
      exact ⟨⟨_, rfl⟩, .inl ⟨_, HJ.out.1, HJ.out.2⟩⟩
    · obtain ⟨f', e1, hf'⟩ := linesF_step f (pre.length + 1) z hz hf
      have hZ := cutZ_size z hz
      have hA := cutA_size z
      have hz' := size_some z hz
      have HPX : Hid (pre ++ [(pre.length + 1, cutAX z)] <+: linesT s) := ⟨linesF f' (pre.length + 1 + 1) (cutZ z), by rw [← hpre, e1]; simp⟩
      have HN : Hid ((pre ++ [(pre.length + 1, cutAX z)]) ++ linesF f' ((pre ++ [(pre.length + 1, cutAX z)]).length + 1) (cutZ z) = linesT s) := by show _ = _; rw [← hpre, e1]; simp
      have hC := fun wx => cut_any z wx (by omega)
      have hD := fun wx => stringsClone_any (cutAX z) wx (by omega)
      have HJ : Hid (J pre wr) := hJs
      have HZ : Hid ((cutZ z).size < z.size ∧ (cutZ z).size ≤ f') := ⟨hZ, hf'⟩
      clear hJs hpre e1 hZ hA hf hf'
      generalize cutAX z = la at *
      generalize cutZ z = lz at *
      gi_wp2_with fail
      refine ⟨trivial, rfl, (callsIn_wide.2 (hC _)).mono ?_⟩
      rintro e w' ⟨⟨bb, rfl⟩, hB1⟩
      gi_wp2_with fail
      refine ⟨trivial, rfl, (callsIn_wide.2 (hD _)).mono ?_⟩
      rintro e W2 ⟨rfl, hB2⟩
      obtain ⟨fn, tmps, assign, body, hy, hR⟩ := HY.out pre (pre.length + 1, la) W2 (OwnFrom.below hJ HJ.out (hB1.trans (hB2.mono hB1.size))) HPX.out
      simp only [lineV, Int.natCast_add, Int.natCast_one] at hy
      clear HY hC hD
      gi_wp2_with fail
      refine ⟨rfl, hR.mono ?_⟩
      rintro e W3 ⟨hkf, ⟨rfl, hJ3, hk3⟩ | ⟨rfl, hJx3⟩⟩
      · have HJ3 : Hid (J (pre ++ [(pre.length + 1, la)]) W3) := hJ3
        clear hy hR hkf hk3 hJ3
        gi_wp2
        go_roundw
        case rel => exact ⟨lz, pre ++ [(pre.length + 1, la)], f', rfl, by simp, HZ.out.2, by have := HZ.out.1; simp; omega, HN.out, HJ3.out⟩
        case measure => have := HZ.out.1; simp only [sizeV]; omega
      · clear hy hR hkf
        gi_wp2
        refine bodyPost_ret (results_none rfl _ _ _) rfl ?_
        exact ⟨⟨_, rfl⟩, .inr ⟨_, HPX.out, hJx3⟩⟩

end Go.Proofs.YtgjedfmipllocaaGreatDoor

/-
  What Parse of the layer asm returns: its lines one by one.
-/
namespace Go.Proofs.YtgjedfmipllocaaGreatDoor
open Go.RowKit Go.Shelf
attribute [local go_sem] Oper.semAt_some
set_option linter.unusedVariables false
set_option linter.unusedSimpArgs false
set_option maxRecDepth 100000

end Go.Proofs.YtgjedfmipllocaaGreatDoor

/-
  Plain facts on what a text says: what is read is of good shape; a fault hangs on the lines up to it alone.
-/
namespace Go.Proofs.YtgjedfmipllocaaGreatDoor
open Go.RowKit
set_option linter.unusedVariables false
set_option linter.unusedSimpArgs false
set_option maxRecDepth 10000

/-- How many words instructions have, with one more each. -/
def wsum (b : Int) (l : List InstT) : Nat := (l.map fun x => 1 + (rawWs x b).length).sum
end Go.Proofs.YtgjedfmipllocaaGreatDoor
