/-
  What formText and Of of the layer grammar return, for every operation; and that each text reads as the form of the document's table.
-/
import Derived.WalkSpells
import Derived.Test.YtbhoimeneekdfaaProg
import Derived.Test.YtbhoimeneekdfaaMathG
import Derived.Test.YtbhoimeneekdfaaGrammarTexts
import Derived.Test.YtbhoimeneekdfaaGrammarReadForm
namespace Go.Proofs.Ytbhoimeneekdfaa
open Go.RowKit
set_option maxRecDepth 10000
set_option linter.unusedVariables false
set_option linter.unusedSimpArgs false

theorem formText_any (n : Int) (w : World) : Calls Try.prog 34 #[.int .u16 n] w fun e w' => e = .returned (.string (ftxt n)) ∧ w = w' := by
  by_cases h1 : n < 41
  · have e : ftxt n = lookT namingT n := by unfold ftxt; rw [if_pos h1]
    go_enter Try.func34, Try.ntmps34
    go_wp2_with (go_at_call 50; refine (namingText_any _ _).mono ?_; rintro e w' ⟨rfl, rfl⟩)
    go_ret
    exact ⟨by rw [e]; rfl, rfl⟩
  · by_cases h2 : n < 124
    · have e : ftxt n = lookT makingT n := by unfold ftxt; rw [if_neg h1, if_pos h2]
      go_enter Try.func34, Try.ntmps34
      go_wp2_with (go_at_call 51; refine (makingText_any _ _).mono ?_; rintro e w' ⟨rfl, rfl⟩)
      go_ret
      exact ⟨by rw [e]; rfl, rfl⟩
    · by_cases h3 : n < 164
      · have e : ftxt n = lookT countingT n := by unfold ftxt; rw [if_neg h1, if_neg h2, if_pos h3]
        go_enter Try.func34, Try.ntmps34
        go_wp2_with (go_at_call 52; refine (countingText_any _ _).mono ?_; rintro e w' ⟨rfl, rfl⟩)
        go_ret
        exact ⟨by rw [e]; rfl, rfl⟩
      · by_cases h4 : n < 194
        · have e : ftxt n = lookT comparingT n := by unfold ftxt; rw [if_neg h1, if_neg h2, if_neg h3, if_pos h4]
          go_enter Try.func34, Try.ntmps34
          go_wp2_with (go_at_call 53; refine (comparingText_any _ _).mono ?_; rintro e w' ⟨rfl, rfl⟩)
          go_ret
          exact ⟨by rw [e]; rfl, rfl⟩
        · by_cases h5 : n < 245
          · have e : ftxt n = lookT bitT n := by unfold ftxt; rw [if_neg h1, if_neg h2, if_neg h3, if_neg h4, if_pos h5]
            go_enter Try.func34, Try.ntmps34
            go_wp2_with (go_at_call 54; refine (bitText_any _ _).mono ?_; rintro e w' ⟨rfl, rfl⟩)
            go_ret
            exact ⟨by rw [e]; rfl, rfl⟩
          · have e : ftxt n = lookT flowT n := by unfold ftxt; rw [if_neg h1, if_neg h2, if_neg h3, if_neg h4, if_neg h5]
            go_enter Try.func34, Try.ntmps34
            go_wp2_with (go_at_call 55; refine (flowText_any _ _).mono ?_; rintro e w' ⟨rfl, rfl⟩)
            go_ret
            exact ⟨by rw [e]; rfl, rfl⟩

/-! ### the two tables are one -/

theorem lookF_true : ∀ {l : List (Int × Frm)} {n : Int}, (lookF l n).2 = true → (n, (lookF l n).1) ∈ l
  | [], n, h => by cases h
  | (k, s) :: l, n, h => by
    rw [lookF] at h ⊢
    split at h
    · rename_i e; subst e; rw [if_pos rfl]; exact List.mem_cons_self
    · rename_i e; rw [if_neg e]; exact List.mem_cons_of_mem _ (lookF_true h)
theorem lookF_false : ∀ {l : List (Int × Frm)} {n : Int}, (lookF l n).2 = false → lookF l n = (noFrm, false) ∧ ∀ k s, (k, s) ∈ l → n ≠ k
  | [], n, h => ⟨rfl, fun _ _ hm => by cases hm⟩
  | (k, s) :: l, n, h => by
    rw [lookF] at h ⊢
    split at h
    · cases h
    · rename_i e
      rw [if_neg e]
      refine ⟨(lookF_false h).1, fun k' s' hm => ?_⟩
      rcases List.mem_cons.1 hm with e' | hm
      · cases e'; exact e
      · exact (lookF_false h).2 k' s' hm

def rowOk (p : Int × Frm) : Bool := goodT (ftxt p.1) && decide ((ftxt p.1).size ≤ 1000) && decide ((ftxt p.1).size ≠ 0) && decide (rdF (ftxt p.1) = p.2)
theorem rows_ok : refT.all rowOk = true := by decide +kernel
def keyIn (t : List (Int × ByteArray)) : Bool := t.all fun p => refT.any fun q => decide (q.1 = p.1)
theorem keys_in : (keyIn namingT && keyIn makingT && keyIn countingT && keyIn comparingT && keyIn bitT && keyIn flowT) = true := by decide +kernel
theorem key_none {t : List (Int × ByteArray)} (h : keyIn t = true) {n : Int} (hn : ∀ k s, (k, s) ∈ refT → n ≠ k) : lookT t n = ⟨#[]⟩ := lookT_none fun k s hm e => by
  have := List.all_eq_true.1 h (k, s) hm
  obtain ⟨q, hq, e2⟩ := List.any_eq_true.1 this
  exact hn q.1 q.2 hq (by rw [e]; exact (of_decide_eq_true e2).symm)

/-- Every operation's text: it reads as the form of the document's table; it is empty just if there is none. -/
theorem ftxt_ok (n : Int) : goodT (ftxt n) = true ∧ (ftxt n).size ≤ 1000 ∧ rdF (ftxt n) = (lookF refT n).1 ∧ ((lookF refT n).2 = true → (ftxt n).size ≠ 0) ∧ ((lookF refT n).2 = false → ftxt n = ⟨#[]⟩) := by
  cases h : (lookF refT n).2
  · obtain ⟨h1, h2⟩ := lookF_false h
    have hk := keys_in
    simp only [Bool.and_eq_true] at hk
    obtain ⟨⟨⟨⟨⟨k1, k2⟩, k3⟩, k4⟩, k5⟩, k6⟩ := hk
    have e : ftxt n = ⟨#[]⟩ := by
      unfold ftxt
      rw [key_none k1 h2, key_none k2 h2, key_none k3 h2, key_none k4 h2, key_none k5 h2, key_none k6 h2]
      simp
    rw [e, h1]
    exact ⟨by decide +kernel, by decide, by decide +kernel, fun h => (by cases h), fun _ => rfl⟩
  · have hm := lookF_true h
    have hr := List.all_eq_true.1 rows_ok _ hm
    simp only [rowOk, Bool.and_eq_true, decide_eq_true_eq] at hr
    obtain ⟨⟨⟨r1, r2⟩, r3⟩, r4⟩ := hr
    exact ⟨r1, r2, r4, fun _ => r3, fun h => by cases h⟩

theorem readForm_op (n : Int) (w : World) : Calls Try.prog 35 #[.int .u16 n, .string (ftxt n)] w fun e w' => e = .returned (formV n (lookF refT n).1) ∧ Below w.heap.size w w' := by
  obtain ⟨h1, h2, h3, _, _⟩ := ftxt_ok n
  rw [← h3]
  exact readForm_any n (ftxt n) w h1 h2

theorem bytes_empty (s : ByteArray) (h : s.size ≠ 0) : (s.toList == ([] : List UInt8)) = false := by
  rw [ByteArray.toList_eq]
  cases e : s.data.toList with
  | nil => exfalso; apply h; show s.data.size = 0; rw [← Array.length_toList, e]; rfl
  | cons a l => rfl

set_option maxHeartbeats 1000000 in
theorem of_any (n : Int) (w : World) : Calls Try.prog 20 #[.int .u16 n] w fun e w' => e = .returned (.tuple #[ofV n, .bool (lookF refT n).2]) ∧ Below w.heap.size w w' := by
  obtain ⟨_, _, _, h4, h5⟩ := ftxt_ok n
  cases h : (lookF refT n).2
  · have e := h5 h
    have hT := fun w => formText_any n w
    rw [e] at hT
    have HO : Hid (ofV n = formV 0 noFrm) := by show _ = _; unfold ofV; rw [h]; rfl
    clear h4 h5 e h
    go_enter Try.func20, Try.ntmps20
    go_wp2_with (go_at_call 34; refine (hT _).mono ?_; rintro e w' ⟨rfl, rfl⟩)
    rw [HO.out]
    exact bodyPost_ret (v := .tuple #[formV 0 noFrm, .bool false]) (by simp [results, Try.results20, go_sem, formV, noFrm]) rfl ⟨rfl, (Below.refl _ _).alloc (Nat.le_refl _) _⟩
  · have e := bytes_empty _ (h4 h)
    have HO : Hid (ofV n = formV n (lookF refT n).1) := by show _ = _; unfold ofV; rw [h]; rfl
    have hT := fun w => formText_any n w
    have hR := fun w => readForm_op n w
    clear h4 h5 h
    generalize ftxt n = s at *
    generalize (lookF refT n).1 = f at *
    go_enter Try.func20, Try.ntmps20
    go_wp2_with (go_at_call 34; refine (hT _).mono ?_; rintro e w' ⟨rfl, rfl⟩)
    refine (hR _).mono ?_
    rintro e w1 ⟨rfl, hb⟩
    have hB := (hb.block w.heap.size (by simp)).trans (alloc_new w _ _)
    have hbw : Below w.heap.size w w1 := ((Below.refl _ w).alloc (Nat.le_refl _) _).trans (hb.mono (by simp))
    have HB : Hid (w1.heap[w.heap.size]? = some (.cells (frmCells 0 noFrm) 46 (0, 0))) := hB
    obtain ⟨d0, d1, d2, d3, d4, d5, d6, d7, df⟩ := frm_cells (n := 0) (f := noFrm) hB
    unfold noFrm at d1 d2 d3 d4 d5 d6 d7
    clear hB hb hT hR
    obtain ⟨nm, t, r, fx, rs, mo, pa⟩ := f
    unfold formV
    go_wp2
    have hx := eight_set HB.out (.int .u16 n) (.string nm) (.bool t) (.bool r) (.string fx) (.string rs) (.int .i64 mo) (.int .u8 pa)
    have hy := eight_below w1 w.heap.size (.int .u16 n) (.string nm) (.bool t) (.bool r) (.string fx) (.string rs) (.int .i64 mo) (.int .u8 pa)
    obtain ⟨x0, x1, x2, x3, x4, x5, x6, x7, xf⟩ := frm_cells (n := n) (f := (nm, t, r, fx, rs, mo, pa)) hx
    clear hx d0 d1 d2 d3 d4 d5 d6 d7 df xf
    generalize ((((((((w1.setCell ⟨w.heap.size, 0, none⟩ (.int .u16 n)).setCell ⟨w.heap.size, 1, none⟩ (.string nm)).setCell ⟨w.heap.size, 2, none⟩ (.bool t)).setCell ⟨w.heap.size, 3, none⟩ (.bool r)).setCell ⟨w.heap.size, 4, none⟩ (.string fx)).setCell ⟨w.heap.size, 5, none⟩ (.string rs)).setCell ⟨w.heap.size, 6, none⟩ (.int .i64 mo)).setCell ⟨w.heap.size, 7, none⟩ (.int .u8 pa)) = Z at *
    exact bodyPost_ret (v := .tuple #[formV n (nm, t, r, fx, rs, mo, pa), .bool true]) (by simp [results, Try.results20, go_sem, formV, x0, x1, x2, x3, x4, x5, x6, x7]) rfl ⟨by rw [HO.out], hbw.trans hy⟩

end Go.Proofs.Ytbhoimeneekdfaa
