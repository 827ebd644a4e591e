/-
  What fits does so with one row of the rest more; what does not fit at a place doesn't, whatever stands behind: plain mathematics.
-/
import Derived.Test.YtjpbiakbjpiceabGrammarFits
namespace Go.Proofs.Ytjpbiakbjpiceab
open Go.RowKit
set_option maxRecDepth 10000

theorem nth_append_left (xs ys : List Int) (k : Nat) (h : k < xs.length) : nth (xs ++ ys) k = nth xs k := by
  simp [nth, List.getD, List.getElem?_append_left h]
theorem nth_append_right (xs ys : List Int) (k : Nat) (h : xs.length ≤ k) : nth (xs ++ ys) k = nth ys (k - xs.length) := by
  simp [nth, List.getD, List.getElem?_append_right h]

theorem badK_left (f : Frm) (xs ys : List Int) (k : Nat) (h : k < xs.length) : badK f (xs ++ ys) k = badK f xs k := by
  unfold badK; rw [nth_append_left xs ys k h]

/-- A fault at a place stays, whatever stands behind. -/
theorem fits_stays (f : Frm) (is : Bool) (xs ys : List Int) (h : (fitsI is f xs).2 = false) (hlt : (fitsI is f xs).1 < xs.length) : fitsI is f (xs ++ ys) = ((fitsI is f xs).1, false) := by
  unfold fitsI at h hlt ⊢
  cases is
  · rfl
  · simp only [Bool.true_eq_false, if_false] at h hlt ⊢
    cases e : (List.range xs.length).find? (badK f xs) with
    | none =>
      rw [e] at h hlt
      dsimp only at h hlt
      split at h
      · cases h
      · rename_i hw
        rw [if_neg hw] at hlt
        dsimp only at hlt
        omega
    | some k =>
      have hk := List.mem_of_find?_eq_some e
      have hk : k < xs.length := List.mem_range.1 hk
      obtain ⟨hb, _, hno⟩ := List.find?_range_eq_some.1 e
      have e2 : (List.range (xs ++ ys).length).find? (badK f (xs ++ ys)) = some k := by
        refine range_find _ k (by rw [List.length_append]; omega) (fun j hj => ?_) ?_
        · rw [badK_left f xs ys j (by omega)]
          have := hno j hj
          simpa using this
        · rw [badK_left f xs ys k hk]; exact hb
      rw [e2]

/-- The kinds of a row of Rest. -/
def restK (f : Frm) : List Int := (List.range f.2.2.2.2.1.size).map fun j => kindI (sgn f.2.2.2.2.1 j)
theorem restK_len (f : Frm) : (restK f).length = f.2.2.2.2.1.size := by simp [restK]
theorem restK_nth (f : Frm) (j : Nat) (h : j < f.2.2.2.2.1.size) : nth (restK f) j = kindI (sgn f.2.2.2.2.1 j) := by
  simp [nth, List.getD, restK, h]

/-- No letter of a form's rest is 0. -/
def restOk (f : Frm) : Bool := (List.range f.2.2.2.2.1.size).all fun j => decide (sgn f.2.2.2.2.1 j ≠ 0)

theorem fits_more (f : Frm) (is : Bool) (xs : List Int) (h : (fitsI is f xs).2 = true) (hm : f.2.2.2.2.2.1 = 0) (hr : restOk f = true) : (fitsI is f (xs ++ restK f)).2 = true := by
  unfold fitsI at h ⊢
  cases is
  · cases h
  · simp only [Bool.true_eq_false, if_false] at h ⊢
    cases e : (List.range xs.length).find? (badK f xs) with
    | some k => rw [e] at h; cases h
    | none =>
      rw [e] at h
      dsimp only at h
      have hw : wholeB f xs.length = true := by
        cases hw : wholeB f xs.length
        · rw [hw] at h; cases h
        · rfl
      have hno : ∀ j, j < xs.length → badK f xs j = false := fun j hj => by
        have := List.find?_range_eq_none.1 e j hj
        simpa using this
      by_cases hz : f.2.2.2.2.1.size = 0
      · have e0 : restK f = [] := List.eq_nil_of_length_eq_zero (by rw [restK_len]; exact hz)
        rw [e0, List.append_nil, e]
        dsimp only
        rw [hw]; rfl
      · have hge : (f.2.2.2.1.size : Int) ≤ xs.length := by
          unfold wholeB at hw
          simp only [Bool.or_eq_true, Bool.and_eq_true, decide_eq_true_eq] at hw
          omega
        have hmod : ((xs.length : Int) - f.2.2.2.1.size) % f.2.2.2.2.1.size = 0 := by
          unfold wholeB at hw
          simp only [Bool.or_eq_true, Bool.and_eq_true, decide_eq_true_eq] at hw
          rcases hw with h0 | ⟨_, h1⟩
          · rw [h0]; exact Int.zero_emod _
          · exact h1
        have e2 : (List.range (xs ++ restK f).length).find? (badK f (xs ++ restK f)) = none := by
          refine range_not _ (fun j hj => ?_)
          by_cases hjx : j < xs.length
          · rw [badK_left f xs _ j hjx]; exact hno j hjx
          · rw [List.length_append, restK_len] at hj
            have hjr : j - xs.length < f.2.2.2.2.1.size := by omega
            have hmay : mayB f ((j : Int) - f.2.2.2.1.size) = true := by unfold mayB; rw [if_neg hz, if_pos hm]
            have hidx : (((j : Int) - f.2.2.2.1.size) % f.2.2.2.2.1.size).toNat = j - xs.length := by
              have e3 : (j : Int) - f.2.2.2.1.size = ((j - xs.length : Nat) : Int) + ((xs.length : Int) - f.2.2.2.1.size) := by omega
              rw [e3, Int.add_emod, hmod, Int.add_zero, Int.emod_emod_of_dvd _ (Int.dvd_refl _), Int.emod_eq_of_lt (by omega) (by omega)]
              omega
            have hlet : letterI f j = sgn f.2.2.2.2.1 (j - xs.length) := by
              unfold letterI
              rw [if_neg (by omega), if_neg (by omega), hmay, if_pos rfl, hidx]
            have hne : sgn f.2.2.2.2.1 (j - xs.length) ≠ 0 := of_decide_eq_true (List.all_eq_true.1 hr _ (List.mem_range.2 hjr))
            unfold badK
            rw [hlet, nth_append_right _ _ _ (by omega), restK_nth f _ hjr]
            simp [hne]
        rw [e2]
        dsimp only
        have hw2 : wholeB f (xs ++ restK f).length = true := by
          unfold wholeB
          rw [List.length_append, restK_len]
          simp only [Bool.or_eq_true, Bool.and_eq_true, decide_eq_true_eq]
          refine .inr ⟨by omega, ?_⟩
          have e3 : (((xs.length + f.2.2.2.2.1.size : Nat) : Int) - f.2.2.2.1.size) = ((xs.length : Int) - f.2.2.2.1.size) + f.2.2.2.2.1.size := by omega
          rw [e3, Int.add_emod_right, hmod]
        rw [hw2]; rfl

theorem refT_rest : refT.all (fun p => restOk p.2) = true := by decide +kernel
theorem look_rest (n : Int) : restOk (lookF refT n).1 = true := by
  cases h : (lookF refT n).2
  · rw [(lookF_false h).1]; decide +kernel
  · exact List.all_eq_true.1 refT_rest _ (lookF_true h)

end Go.Proofs.Ytjpbiakbjpiceab
