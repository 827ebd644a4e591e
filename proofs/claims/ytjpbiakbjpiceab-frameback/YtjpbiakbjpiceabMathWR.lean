/-
  What is read is written as it was, and its instructions lie one behind the other: on lists.
-/
import Derived.Test.YtjpbiakbjpiceabMathRW
import Derived.Test.YtjpbiakbjpiceabRef02Find
namespace Go.Proofs.Ytjpbiakbjpiceab
open Go.RowKit

theorem readR_len (zs : List Int) : (readR zs).length = (rest zs 5).length := by simp [readR]

theorem headE_ok (zs : List Int) (h : (headE zs 0).1 = 0) : 5 ≤ zs.length ∧ zs.take 5 = [119734787, 65536, nth zs 2, nth zs 3, 0] ∧ nth zs 3 ≠ 0 ∧ ¬ 65536 < nth zs 3 := by
  by_cases l0 : zs.length ≤ 0
  · rw [headE_step _ 0 (by omega), if_pos l0] at h; simp at h
  by_cases w0 : wrongE 0 (nth zs 0) ≠ 0
  · rw [headE_step _ 0 (by omega), if_neg l0, if_pos w0] at h; exact absurd h w0
  rw [headE_step _ 0 (by omega), if_neg l0, if_neg w0] at h
  by_cases l1 : zs.length ≤ 1
  · rw [headE_step _ 1 (by omega), if_pos l1] at h; simp at h
  by_cases w1 : wrongE 1 (nth zs 1) ≠ 0
  · rw [headE_step _ 1 (by omega), if_neg l1, if_pos w1] at h; exact absurd h w1
  rw [headE_step _ 1 (by omega), if_neg l1, if_neg w1] at h
  by_cases l2 : zs.length ≤ 2
  · rw [headE_step _ 2 (by omega), if_pos l2] at h; simp at h
  by_cases w2 : wrongE 2 (nth zs 2) ≠ 0
  · rw [headE_step _ 2 (by omega), if_neg l2, if_pos w2] at h; exact absurd h w2
  rw [headE_step _ 2 (by omega), if_neg l2, if_neg w2] at h
  by_cases l3 : zs.length ≤ 3
  · rw [headE_step _ 3 (by omega), if_pos l3] at h; simp at h
  by_cases w3 : wrongE 3 (nth zs 3) ≠ 0
  · rw [headE_step _ 3 (by omega), if_neg l3, if_pos w3] at h; exact absurd h w3
  rw [headE_step _ 3 (by omega), if_neg l3, if_neg w3] at h
  by_cases l4 : zs.length ≤ 4
  · rw [headE_step _ 4 (by omega), if_pos l4] at h; simp at h
  by_cases w4 : wrongE 4 (nth zs 4) ≠ 0
  · rw [headE_step _ 4 (by omega), if_neg l4, if_pos w4] at h; exact absurd h w4
  have w0' : wrongE 0 (nth zs 0) = 0 := Decidable.not_not.1 w0
  have w1' : wrongE 1 (nth zs 1) = 0 := Decidable.not_not.1 w1
  have w3' : wrongE 3 (nth zs 3) = 0 := Decidable.not_not.1 w3
  have w4' : wrongE 4 (nth zs 4) = 0 := Decidable.not_not.1 w4
  have e0 : nth zs 0 = 119734787 := by
    unfold wrongE at w0'; rw [if_pos rfl] at w0'
    split at w0'
    · simp at w0'
    · split at w0'
      · assumption
      · simp at w0'
  have e1 : nth zs 1 = 65536 := by
    unfold wrongE at w1'; rw [if_neg (by omega), if_pos rfl] at w1'
    split at w1'
    · assumption
    · simp at w1'
  have e3 : nth zs 3 ≠ 0 ∧ ¬ 65536 < nth zs 3 := by
    unfold wrongE at w3'; rw [if_neg (by omega), if_neg (by omega), if_pos rfl] at w3'
    split at w3'
    · simp at w3'
    · split at w3'
      · simp at w3'
      · exact ⟨by assumption, by assumption⟩
  have e4 : nth zs 4 = 0 := by
    unfold wrongE at w4'; rw [if_neg (by omega), if_neg (by omega), if_neg (by omega), if_pos rfl] at w4'
    split at w4'
    · assumption
    · simp at w4'
  refine ⟨by omega, ?_, e3.1, e3.2⟩
  rw [take_snoc zs 4 (by omega), take_snoc zs 3 (by omega), take_snoc zs 2 (by omega), take_snoc zs 1 (by omega), take_snoc zs 0 (by omega), e0, e1, e4]
  rfl

theorem readE_ok (zs : List Int) (h : (readE zs).1 = 0) : zs.length ≤ 1048576 ∧ (headE zs 0).1 = 0 ∧ zs.length ≤ stop zs 5 := by
  unfold readE at h
  by_cases h1 : 1048576 < zs.length
  · rw [if_pos h1] at h; simp at h
  · rw [if_neg h1] at h
    by_cases h2 : (headE zs 0).1 ≠ 0
    · rw [if_pos h2] at h; exact absurd h h2
    · rw [if_neg h2] at h
      by_cases h3 : stop zs 5 < zs.length
      · rw [if_pos h3] at h; simp at h
      · exact ⟨by omega, Decidable.not_not.1 h2, by omega⟩

theorem rest_nil_stop (zs : List Int) (p : Nat) (h : rest zs p = []) : stop zs p = p := by
  by_cases hp : p < zs.length
  · cases hb : badB zs p with
    | true => exact stop_bad zs p hp hb
    | false => rw [rest_go zs p hp hb] at h; simp at h
  · exact stop_end zs p (by omega)

theorem rest_cons_at (zs : List Int) (p q : Nat) (l : List Nat) (h : rest zs p = q :: l) : p = q ∧ p < zs.length ∧ badB zs p = false ∧ rest zs (p + cntN zs p) = l := by
  by_cases hp : p < zs.length
  · cases hb : badB zs p with
    | true => rw [rest_bad zs p hp hb] at h; simp at h
    | false =>
      rw [rest_go zs p hp hb] at h
      injection h with h1 h2
      exact ⟨h1, hp, rfl, h2⟩
  · rw [rest_end zs p (by omega)] at h; simp at h

theorem rawW_at (zs : List Int) (hw : Within 4294967296 zs) (p : Nat) (hp : p < zs.length) (hb : badB zs p = false) : zs.take p ++ rawW (rawAt zs p) = zs.take (p + cntN zs p) := by
  have h1 := cnt_pos hb
  have h2 := cnt_fits hb
  have hx : 0 ≤ nth zs p := (hw.at hp).1
  have hl : (midL zs (p + 1) (cntN zs p - 1)).length = cntN zs p - 1 := midL_len zs _ _ (by omega)
  have hv : (((rawAt zs p).2.length : Int) + 1) * 65536 + (rawAt zs p).1 = nth zs p := by
    show (((midL zs (p + 1) (cntN zs p - 1)).length : Int) + 1) * 65536 + opI zs p = _
    rw [hl]
    have := cntN_int zs p hx
    unfold opI
    omega
  have e : zs.take (p + cntN zs p) = zs.take (p + 1) ++ midL zs (p + 1) (cntN zs p - 1) := by
    rw [show p + cntN zs p = (p + 1) + (cntN zs p - 1) by omega, List.take_add]; rfl
  rw [e, take_snoc zs p hp, rawW, hv, List.append_assoc]
  rfl

/-- The k-th place is how many words stand ahead of it; they are the words that are written. -/
theorem back_to (zs : List Int) (hw : Within 4294967296 zs) (hh : (headE zs 0).1 = 0) : ∀ k, k ≤ (rest zs 5).length →
    sizeTo (readR zs) k ≤ zs.length ∧ rest zs (sizeTo (readR zs) k) = (rest zs 5).drop k ∧ stop zs (sizeTo (readR zs) k) = stop zs 5 ∧ writeTo (nth zs 2) (nth zs 3) (readR zs) k = zs.take (sizeTo (readR zs) k)
  | 0, _ => by
    obtain ⟨h1, h2, _⟩ := headE_ok zs hh
    rw [sizeTo_zero]
    exact ⟨h1, rfl, rfl, by rw [h2]; simp [writeTo]⟩
  | k + 1, hk => by
    obtain ⟨i1, i2, i3, i4⟩ := back_to zs hw hh k (by omega)
    have hc : (rest zs 5).drop k = (rest zs 5).getD k 0 :: (rest zs 5).drop (k + 1) := by
      rw [List.drop_eq_getElem_cons (by omega)]; simp [List.getD, show k < (rest zs 5).length by omega]
    rw [hc] at i2
    obtain ⟨e, hp, hb, hn⟩ := rest_cons_at zs _ _ _ i2
    have hkr : k < (readR zs).length := by rw [readR_len]; omega
    have hr : nthR (readR zs) k = rawAt zs (sizeTo (readR zs) k) := by
      rw [e]; unfold readR; exact nthR_map _ _ _ (by omega)
    have h1 := cnt_pos hb
    have h2 := cnt_fits hb
    have hs : sizeTo (readR zs) (k + 1) = sizeTo (readR zs) k + cntN zs (sizeTo (readR zs) k) := by
      rw [sizeTo_succ _ _ hkr, hr]
      show _ + 1 + (midL zs _ _).length = _
      rw [midL_len zs _ _ (by omega)]; omega
    rw [hs]
    refine ⟨h2, hn, ?_, ?_⟩
    · rw [← stop_go zs _ hp hb]; exact i3
    · rw [writeTo_succ _ _ _ _ hkr, i4, hr]; exact rawW_at zs hw _ hp hb

/-- The k-th place. -/
theorem place_at (zs : List Int) (hw : Within 4294967296 zs) (hh : (headE zs 0).1 = 0) (k : Nat) (hk : k < (rest zs 5).length) : (rest zs 5).getD k 0 = sizeTo (readR zs) k := by
  obtain ⟨_, i2, _, _⟩ := back_to zs hw hh k (by omega)
  have hc : (rest zs 5).drop k = (rest zs 5).getD k 0 :: (rest zs 5).drop (k + 1) := by
    rw [List.drop_eq_getElem_cons (by omega)]; simp [List.getD, hk]
  rw [hc] at i2
  exact (rest_cons_at zs _ _ _ i2).1.symm

theorem back_fault (zs : List Int) (hw : Within 4294967296 zs) (hh : (headE zs 0).1 = 0) (hl : zs.length ≤ 1048576) : ∀ d k, (readR zs).length - k = d → fault (readR zs) k = (0, 0)
  | 0, k, h => fault_end _ _ (by omega)
  | d + 1, k, h => by
    have hk : k < (readR zs).length := by omega
    have hk' : k < (rest zs 5).length := by rw [← readR_len]; exact hk
    rw [fault_step _ _ hk, if_neg, if_neg, back_fault zs hw hh hl d (k + 1) (by omega)]
    · have := (back_to zs hw hh (k + 1) (by omega)).1; omega
    · have hr : nthR (readR zs) k = rawAt zs ((rest zs 5).getD k 0) := by unfold readR; exact nthR_map _ _ _ hk'
      obtain ⟨_, h2, h3⟩ := rest_mem zs 5 ((rest zs 5).getD k 0) (by simp [List.getD, hk'])
      have hx := (hw.at h2).2
      have h4 := cnt_fits h3
      have h5 := cnt_pos h3
      rw [hr]
      show ¬ 65535 ≤ (midL zs _ _).length
      rw [midL_len zs _ _ (by omega)]
      unfold cntN at *
      omega

/-- What is read is written as it was. -/
theorem write_read (zs : List Int) (hw : Within 4294967296 zs) (h : (readE zs).1 = 0) :
    5 ≤ zs.length ∧ nth zs 3 ≠ 0 ∧ ¬ 65536 < nth zs 3 ∧ fault (readR zs) 0 = (0, 0) ∧ sizeTo (readR zs) (readR zs).length = zs.length ∧ writeTo (nth zs 2) (nth zs 3) (readR zs) (readR zs).length = zs := by
  obtain ⟨h1, h2, h3⟩ := readE_ok zs h
  obtain ⟨h4, _, h5, h6⟩ := headE_ok zs h2
  obtain ⟨i1, i2, i3, i4⟩ := back_to zs hw h2 (rest zs 5).length (Nat.le_refl _)
  rw [List.drop_length] at i2
  have hs : sizeTo (readR zs) (rest zs 5).length = zs.length := by
    have := rest_nil_stop zs _ i2
    omega
  rw [readR_len]
  refine ⟨h4, h5, h6, back_fault zs hw h2 h1 _ 0 rfl, hs, ?_⟩
  rw [i4, hs, List.take_length]

theorem sizeTo_lt (rs : List (Int × List Int)) : ∀ k j, j < k → k ≤ rs.length → sizeTo rs j < sizeTo rs k
  | 0, j, h, _ => by omega
  | k + 1, j, h, hk => by
    rw [sizeTo_succ rs k (by omega)]
    by_cases e : j = k
    · subst e; omega
    · have := sizeTo_lt rs k j (by omega) (by omega); omega

/-- The k-th instruction: its place, its operation, its words; and Find finds it. -/
theorem told_at (zs : List Int) (hw : Within 4294967296 zs) (h : (readE zs).1 = 0) (k : Nat) (hk : k < (readR zs).length) :
    (rest zs 5).getD k 0 = sizeTo (readR zs) k ∧ opI zs (sizeTo (readR zs) k) = (nthR (readR zs) k).1 ∧ midL zs (sizeTo (readR zs) k + 1) (cntN zs (sizeTo (readR zs) k) - 1) = (nthR (readR zs) k).2 ∧ cntN zs (sizeTo (readR zs) k) = (nthR (readR zs) k).2.length + 1 ∧ sizeTo (readR zs) k < zs.length := by
  have hh := (readE_ok zs h).2.1
  have hk' : k < (rest zs 5).length := by rw [← readR_len]; exact hk
  have e := place_at zs hw hh k hk'
  have hr : nthR (readR zs) k = rawAt zs (sizeTo (readR zs) k) := by rw [← e]; unfold readR; exact nthR_map _ _ _ hk'
  obtain ⟨_, h2, h3⟩ := rest_mem zs 5 ((rest zs 5).getD k 0) (by simp [List.getD, hk'])
  rw [e] at h2 h3
  have h4 := cnt_fits h3
  have h5 := cnt_pos h3
  rw [hr]
  refine ⟨e, rfl, rfl, ?_, h2⟩
  show _ = (midL zs _ _).length + 1
  rw [midL_len zs _ _ (by omega)]; omega

/-- Find finds each instruction at its place. -/
theorem find_there (zs : List Int) (k : Nat) (hk : k < (rest zs 5).length) (hinc : ∀ j, j < k → (rest zs 5).getD j 0 < (rest zs 5).getD k 0) :
    findAt zs (opI zs ((rest zs 5).getD k 0)) ((rest zs 5).getD k 0) = (((rest zs 5).getD k 0 : Nat) : Int) ∧ findIs zs (opI zs ((rest zs 5).getD k 0)) ((rest zs 5).getD k 0) = true := by
  have h : findP zs (opI zs ((rest zs 5).getD k 0)) (((rest zs 5).getD k 0 : Nat) : Int) = some ((rest zs 5).getD k 0) := by
    unfold findP
    refine find_at _ _ k hk (fun j hj => ?_) ?_
    · have := hinc j hj
      generalize (rest zs 5).getD j 0 = x at *
      generalize (rest zs 5).getD k 0 = y at *
      have hd : decide ((y : Int) ≤ (x : Int)) = false := decide_eq_false (by omega)
      unfold isAt
      rw [hd]; rfl
    · unfold isAt
      rw [decide_eq_true (Int.le_refl _)]; simp
  exact ⟨findAt_some h, findIs_some h⟩

theorem find_told (zs : List Int) (hw : Within 4294967296 zs) (h : (readE zs).1 = 0) (k : Nat) (hk : k < (readR zs).length) :
    findAt zs (nthR (readR zs) k).1 (sizeTo (readR zs) k : Nat) = (sizeTo (readR zs) k : Nat) ∧ findIs zs (nthR (readR zs) k).1 (sizeTo (readR zs) k : Nat) = true := by
  have hh := (readE_ok zs h).2.1
  have hk' : k < (rest zs 5).length := by rw [← readR_len]; exact hk
  obtain ⟨t1, t2, _⟩ := told_at zs hw h k hk
  have := find_there zs k hk' (fun j hj => by
    rw [t1, place_at zs hw hh j (by omega)]
    exact sizeTo_lt _ k j hj (by omega))
  rw [t1, t2] at this
  exact this

end Go.Proofs.Ytjpbiakbjpiceab
