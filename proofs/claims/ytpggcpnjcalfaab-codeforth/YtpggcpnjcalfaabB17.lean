/-
  Texts laid together in one: MathWR, MathD, WordsSplit, CodeDecode.
-/
import Derived.Test.YtpggcpnjcalfaabB10
import Derived.Test.YtpggcpnjcalfaabB03
import Derived.Test.YtpggcpnjcalfaabB16
import Derived.WalkSpells
import Derived.BigRegion
import Derived.Deep.RegionWith
import Derived.Deep.DrawnRows
import Derived.Test.YtpggcpnjcalfaabProg
import Derived.Test.YtpggcpnjcalfaabB01
import Derived.Test.YtpggcpnjcalfaabB08
import Derived.WalkMore
import Derived.Test.YtpggcpnjcalfaabB14
import Derived.Test.YtpggcpnjcalfaabB12
import Derived.Test.YtpggcpnjcalfaabB02
/-
  What is read is written as it was, and its instructions lie one behind the other: on lists.
-/
namespace Go.Proofs.Ytpggcpnjcalfaab
open Go.RowKit

theorem readR_len (zs : List Int) : (readR zs).length = (rest zs 5).length := by simp [readR]

theorem headE_ok (zs : List Int) (h : (headE zs 0).1 = 0) : 5 ≤ zs.length ∧ zs.take 5 = [119734787, 65536, nth zs 2, nth zs 3, 0] ∧ nth zs 3 ≠ 0 ∧ ¬ 65536 < nth zs 3 := by
  by_cases l0 : zs.length ≤ 0
  · rw [headE_step _ 0 (by omega), if_pos l0] at h; simp at h
  by_cases w0 : wrongE 0 (nth zs 0) ≠ 0
  · rw [headE_step _ 0 (by omega), if_neg l0, if_pos w0] at h; exact absurd h w0
  rw [headE_step _ 0 (by omega), if_neg l0, if_neg w0] at h
  by_cases l1 : zs.length ≤ 1
  · rw [headE_step _ 1 (by omega), if_pos l1] at h; simp at h
  by_cases w1 : wrongE 1 (nth zs 1) ≠ 0
  · rw [headE_step _ 1 (by omega), if_neg l1, if_pos w1] at h; exact absurd h w1
  rw [headE_step _ 1 (by omega), if_neg l1, if_neg w1] at h
  by_cases l2 : zs.length ≤ 2
  · rw [headE_step _ 2 (by omega), if_pos l2] at h; simp at h
  by_cases w2 : wrongE 2 (nth zs 2) ≠ 0
  · rw [headE_step _ 2 (by omega), if_neg l2, if_pos w2] at h; exact absurd h w2
  rw [headE_step _ 2 (by omega), if_neg l2, if_neg w2] at h
  by_cases l3 : zs.length ≤ 3
  · rw [headE_step _ 3 (by omega), if_pos l3] at h; simp at h
  by_cases w3 : wrongE 3 (nth zs 3) ≠ 0
  · rw [headE_step _ 3 (by omega), if_neg l3, if_pos w3] at h; exact absurd h w3
  rw [headE_step _ 3 (by omega), if_neg l3, if_neg w3] at h
  by_cases l4 : zs.length ≤ 4
  · rw [headE_step _ 4 (by omega), if_pos l4] at h; simp at h
  by_cases w4 : wrongE 4 (nth zs 4) ≠ 0
  · rw [headE_step _ 4 (by omega), if_neg l4, if_pos w4] at h; exact absurd h w4
  have w0' : wrongE 0 (nth zs 0) = 0 := Decidable.not_not.1 w0
  have w1' : wrongE 1 (nth zs 1) = 0 := Decidable.not_not.1 w1
  have w3' : wrongE 3 (nth zs 3) = 0 := Decidable.not_not.1 w3
  have w4' : wrongE 4 (nth zs 4) = 0 := Decidable.not_not.1 w4
  have e0 : nth zs 0 = 119734787 := by
    unfold wrongE at w0'; rw [if_pos rfl] at w0'
    split at w0'
    · simp at w0'
    · split at w0'
      · assumption
      · simp at w0'
  have e1 : nth zs 1 = 65536 := by
    unfold wrongE at w1'; rw [if_neg (by omega), if_pos rfl] at w1'
    split at w1'
    · assumption
    · simp at w1'
  have e3 : nth zs 3 ≠ 0 ∧ ¬ 65536 < nth zs 3 := by
    unfold wrongE at w3'; rw [if_neg (by omega), if_neg (by omega), if_pos rfl] at w3'
    split at w3'
    · simp at w3'
    · split at w3'
      · simp at w3'
      · exact ⟨by assumption, by assumption⟩
  have e4 : nth zs 4 = 0 := by
    unfold wrongE at w4'; rw [if_neg (by omega), if_neg (by omega), if_neg (by omega), if_pos rfl] at w4'
    split at w4'
    · assumption
    · simp at w4'
  refine ⟨by omega, ?_, e3.1, e3.2⟩
  rw [take_snoc zs 4 (by omega), take_snoc zs 3 (by omega), take_snoc zs 2 (by omega), take_snoc zs 1 (by omega), take_snoc zs 0 (by omega), e0, e1, e4]
  rfl

theorem readE_ok (zs : List Int) (h : (readE zs).1 = 0) : zs.length ≤ 1048576 ∧ (headE zs 0).1 = 0 ∧ zs.length ≤ stop zs 5 := by
  unfold readE at h
  by_cases h1 : 1048576 < zs.length
  · rw [if_pos h1] at h; simp at h
  · rw [if_neg h1] at h
    by_cases h2 : (headE zs 0).1 ≠ 0
    · rw [if_pos h2] at h; exact absurd h h2
    · rw [if_neg h2] at h
      by_cases h3 : stop zs 5 < zs.length
      · rw [if_pos h3] at h; simp at h
      · exact ⟨by omega, Decidable.not_not.1 h2, by omega⟩

theorem rest_nil_stop (zs : List Int) (p : Nat) (h : rest zs p = []) : stop zs p = p := by
  by_cases hp : p < zs.length
  · cases hb : badB zs p with
    | true => exact stop_bad zs p hp hb
    | false => rw [rest_go zs p hp hb] at h; simp at h
  · exact stop_end zs p (by omega)

theorem rest_cons_at (zs : List Int) (p q : Nat) (l : List Nat) (h : rest zs p = q :: l) : p = q ∧ p < zs.length ∧ badB zs p = false ∧ rest zs (p + cntN zs p) = l := by
  by_cases hp : p < zs.length
  · cases hb : badB zs p with
    | true => rw [rest_bad zs p hp hb] at h; simp at h
    | false =>
      rw [rest_go zs p hp hb] at h
      injection h with h1 h2
      exact ⟨h1, hp, rfl, h2⟩
  · rw [rest_end zs p (by omega)] at h; simp at h

theorem rawW_at (zs : List Int) (hw : Within 4294967296 zs) (p : Nat) (hp : p < zs.length) (hb : badB zs p = false) : zs.take p ++ rawW (rawAt zs p) = zs.take (p + cntN zs p) := by
  have h1 := cnt_pos hb
  have h2 := cnt_fits hb
  have hx : 0 ≤ nth zs p := (hw.at hp).1
  have hl : (midL zs (p + 1) (cntN zs p - 1)).length = cntN zs p - 1 := midL_len zs _ _ (by omega)
  have hv : (((rawAt zs p).2.length : Int) + 1) * 65536 + (rawAt zs p).1 = nth zs p := by
    show (((midL zs (p + 1) (cntN zs p - 1)).length : Int) + 1) * 65536 + opI zs p = _
    rw [hl]
    have := cntN_int zs p hx
    unfold opI
    omega
  have e : zs.take (p + cntN zs p) = zs.take (p + 1) ++ midL zs (p + 1) (cntN zs p - 1) := by
    rw [show p + cntN zs p = (p + 1) + (cntN zs p - 1) by omega, List.take_add]; rfl
  rw [e, take_snoc zs p hp, rawW, hv, List.append_assoc]
  rfl

/-- The k-th place is how many words stand ahead of it; they are the words that are written. -/
theorem back_to (zs : List Int) (hw : Within 4294967296 zs) (hh : (headE zs 0).1 = 0) : ∀ k, k ≤ (rest zs 5).length →
    sizeTo (readR zs) k ≤ zs.length ∧ rest zs (sizeTo (readR zs) k) = (rest zs 5).drop k ∧ stop zs (sizeTo (readR zs) k) = stop zs 5 ∧ writeTo (nth zs 2) (nth zs 3) (readR zs) k = zs.take (sizeTo (readR zs) k)
  | 0, _ => by
    obtain ⟨h1, h2, _⟩ := headE_ok zs hh
    rw [sizeTo_zero]
    exact ⟨h1, rfl, rfl, by rw [h2]; simp [writeTo]⟩
  | k + 1, hk => by
    obtain ⟨i1, i2, i3, i4⟩ := back_to zs hw hh k (by omega)
    have hc : (rest zs 5).drop k = (rest zs 5).getD k 0 :: (rest zs 5).drop (k + 1) := by
      rw [List.drop_eq_getElem_cons (by omega)]; simp [List.getD, show k < (rest zs 5).length by omega]
    rw [hc] at i2
    obtain ⟨e, hp, hb, hn⟩ := rest_cons_at zs _ _ _ i2
    have hkr : k < (readR zs).length := by rw [readR_len]; omega
    have hr : nthR (readR zs) k = rawAt zs (sizeTo (readR zs) k) := by
      rw [e]; unfold readR; exact nthR_map _ _ _ (by omega)
    have h1 := cnt_pos hb
    have h2 := cnt_fits hb
    have hs : sizeTo (readR zs) (k + 1) = sizeTo (readR zs) k + cntN zs (sizeTo (readR zs) k) := by
      rw [sizeTo_succ _ _ hkr, hr]
      show _ + 1 + (midL zs _ _).length = _
      rw [midL_len zs _ _ (by omega)]; omega
    rw [hs]
    refine ⟨h2, hn, ?_, ?_⟩
    · rw [← stop_go zs _ hp hb]; exact i3
    · rw [writeTo_succ _ _ _ _ hkr, i4, hr]; exact rawW_at zs hw _ hp hb

/-- The k-th place. -/
theorem place_at (zs : List Int) (hw : Within 4294967296 zs) (hh : (headE zs 0).1 = 0) (k : Nat) (hk : k < (rest zs 5).length) : (rest zs 5).getD k 0 = sizeTo (readR zs) k := by
  obtain ⟨_, i2, _, _⟩ := back_to zs hw hh k (by omega)
  have hc : (rest zs 5).drop k = (rest zs 5).getD k 0 :: (rest zs 5).drop (k + 1) := by
    rw [List.drop_eq_getElem_cons (by omega)]; simp [List.getD, hk]
  rw [hc] at i2
  exact (rest_cons_at zs _ _ _ i2).1.symm

theorem back_fault (zs : List Int) (hw : Within 4294967296 zs) (hh : (headE zs 0).1 = 0) (hl : zs.length ≤ 1048576) : ∀ d k, (readR zs).length - k = d → fault (readR zs) k = (0, 0)
  | 0, k, h => fault_end _ _ (by omega)
  | d + 1, k, h => by
    have hk : k < (readR zs).length := by omega
    have hk' : k < (rest zs 5).length := by rw [← readR_len]; exact hk
    rw [fault_step _ _ hk, if_neg, if_neg, back_fault zs hw hh hl d (k + 1) (by omega)]
    · have := (back_to zs hw hh (k + 1) (by omega)).1; omega
    · have hr : nthR (readR zs) k = rawAt zs ((rest zs 5).getD k 0) := by unfold readR; exact nthR_map _ _ _ hk'
      obtain ⟨_, h2, h3⟩ := rest_mem zs 5 ((rest zs 5).getD k 0) (by simp [List.getD, hk'])
      have hx := (hw.at h2).2
      have h4 := cnt_fits h3
      have h5 := cnt_pos h3
      rw [hr]
      show ¬ 65535 ≤ (midL zs _ _).length
      rw [midL_len zs _ _ (by omega)]
      unfold cntN at *
      omega

/-- What is read is written as it was. -/
theorem write_read (zs : List Int) (hw : Within 4294967296 zs) (h : (readE zs).1 = 0) :
    5 ≤ zs.length ∧ nth zs 3 ≠ 0 ∧ ¬ 65536 < nth zs 3 ∧ fault (readR zs) 0 = (0, 0) ∧ sizeTo (readR zs) (readR zs).length = zs.length ∧ writeTo (nth zs 2) (nth zs 3) (readR zs) (readR zs).length = zs := by
  obtain ⟨h1, h2, h3⟩ := readE_ok zs h
  obtain ⟨h4, _, h5, h6⟩ := headE_ok zs h2
  obtain ⟨i1, i2, i3, i4⟩ := back_to zs hw h2 (rest zs 5).length (Nat.le_refl _)
  rw [List.drop_length] at i2
  have hs : sizeTo (readR zs) (rest zs 5).length = zs.length := by
    have := rest_nil_stop zs _ i2
    omega
  rw [readR_len]
  refine ⟨h4, h5, h6, back_fault zs hw h2 h1 _ 0 rfl, hs, ?_⟩
  rw [i4, hs, List.take_length]

theorem sizeTo_lt (rs : List (Int × List Int)) : ∀ k j, j < k → k ≤ rs.length → sizeTo rs j < sizeTo rs k
  | 0, j, h, _ => by omega
  | k + 1, j, h, hk => by
    rw [sizeTo_succ rs k (by omega)]
    by_cases e : j = k
    · subst e; omega
    · have := sizeTo_lt rs k j (by omega) (by omega); omega

/-- The k-th instruction: its place, its operation, its words; and Find finds it. -/
theorem told_at (zs : List Int) (hw : Within 4294967296 zs) (h : (readE zs).1 = 0) (k : Nat) (hk : k < (readR zs).length) :
    (rest zs 5).getD k 0 = sizeTo (readR zs) k ∧ opI zs (sizeTo (readR zs) k) = (nthR (readR zs) k).1 ∧ midL zs (sizeTo (readR zs) k + 1) (cntN zs (sizeTo (readR zs) k) - 1) = (nthR (readR zs) k).2 ∧ cntN zs (sizeTo (readR zs) k) = (nthR (readR zs) k).2.length + 1 ∧ sizeTo (readR zs) k < zs.length := by
  have hh := (readE_ok zs h).2.1
  have hk' : k < (rest zs 5).length := by rw [← readR_len]; exact hk
  have e := place_at zs hw hh k hk'
  have hr : nthR (readR zs) k = rawAt zs (sizeTo (readR zs) k) := by rw [← e]; unfold readR; exact nthR_map _ _ _ hk'
  obtain ⟨_, h2, h3⟩ := rest_mem zs 5 ((rest zs 5).getD k 0) (by simp [List.getD, hk'])
  rw [e] at h2 h3
  have h4 := cnt_fits h3
  have h5 := cnt_pos h3
  rw [hr]
  refine ⟨e, rfl, rfl, ?_, h2⟩
  show _ = (midL zs _ _).length + 1
  rw [midL_len zs _ _ (by omega)]; omega

/-- Find finds each instruction at its place. -/
theorem find_there (zs : List Int) (k : Nat) (hk : k < (rest zs 5).length) (hinc : ∀ j, j < k → (rest zs 5).getD j 0 < (rest zs 5).getD k 0) :
    findAt zs (opI zs ((rest zs 5).getD k 0)) ((rest zs 5).getD k 0) = (((rest zs 5).getD k 0 : Nat) : Int) ∧ findIs zs (opI zs ((rest zs 5).getD k 0)) ((rest zs 5).getD k 0) = true := by
  have h : findP zs (opI zs ((rest zs 5).getD k 0)) (((rest zs 5).getD k 0 : Nat) : Int) = some ((rest zs 5).getD k 0) := by
    unfold findP
    refine find_at _ _ k hk (fun j hj => ?_) ?_
    · have := hinc j hj
      generalize (rest zs 5).getD j 0 = x at *
      generalize (rest zs 5).getD k 0 = y at *
      have hd : decide ((y : Int) ≤ (x : Int)) = false := decide_eq_false (by omega)
      unfold isAt
      rw [hd]; rfl
    · unfold isAt
      rw [decide_eq_true (Int.le_refl _)]; simp
  exact ⟨findAt_some h, findIs_some h⟩

theorem find_told (zs : List Int) (hw : Within 4294967296 zs) (h : (readE zs).1 = 0) (k : Nat) (hk : k < (readR zs).length) :
    findAt zs (nthR (readR zs) k).1 (sizeTo (readR zs) k : Nat) = (sizeTo (readR zs) k : Nat) ∧ findIs zs (nthR (readR zs) k).1 (sizeTo (readR zs) k : Nat) = true := by
  have hh := (readE_ok zs h).2.1
  have hk' : k < (rest zs 5).length := by rw [← readR_len]; exact hk
  obtain ⟨t1, t2, _⟩ := told_at zs hw h k hk
  have := find_there zs k hk' (fun j hj => by
    rw [t1, place_at zs hw hh j (by omega)]
    exact sizeTo_lt _ k j hj (by omega))
  rw [t1, t2] at this
  exact this

end Go.Proofs.Ytpggcpnjcalfaab

/-
  Plain facts on bytes that say a module: what Decode answers, as functions of the bytes; bytes to module and back, and the other way.
-/
namespace Go.Proofs.Ytpggcpnjcalfaab
open Go.RowKit
set_option linter.unusedVariables false

/-- The instruction at a place of words. -/
def instAt (zs : List Int) (b : Int) (p : Nat) : InstT × Int := instI (rawAt zs p).1 (rawAt zs p).2 b
/-- The first one that is wrong. -/
def decF (zs : List Int) (b : Int) : List Nat → Int × Nat
  | [] => (0, 0)
  | p :: ps => if (instAt zs b p).2 ≠ 0 then ((instAt zs b p).2, p) else decF zs b ps
/-- What is wrong with bytes. -/
def decE (bs : List Int) : Int × Nat :=
  if splitErr bs ≠ 0 then (splitErr bs, 0) else if (readE (splitL bs)).1 ≠ 0 then readE (splitL bs) else decF (splitL bs) (nth (splitL bs) 3) (rest (splitL bs) 5)
/-- The module's instructions. -/
def instsAt (zs : List Int) (b : Int) (ps : List Nat) : List InstT := ps.map fun p => (instAt zs b p).1
def decL (bs : List Int) : List InstT := if (decE bs).1 = 0 then instsAt (splitL bs) (nth (splitL bs) 3) (rest (splitL bs) 5) else []
def decH (bs : List Int) (i : Nat) : Int := if (decE bs).1 = 0 then nth (splitL bs) i else 0

theorem decF_app (zs : List Int) (b : Int) : ∀ (l m : List Nat), (∀ p ∈ l, (instAt zs b p).2 = 0) → decF zs b (l ++ m) = decF zs b m
  | [], m, _ => rfl
  | p :: l, m, h => by
    rw [List.cons_append, decF, if_neg (by simp [h p (by simp)])]
    exact decF_app zs b l m fun q hq => h q (by simp [hq])
theorem decF_all (zs : List Int) (b : Int) (l : List Nat) (h : ∀ p ∈ l, (instAt zs b p).2 = 0) : decF zs b l = (0, 0) := by
  have := decF_app zs b l [] h
  simpa [decF] using this
theorem decF_any (zs : List Int) (b : Int) : ∀ l : List Nat, (decF zs b l = (0, 0) ∧ ∀ p ∈ l, (instAt zs b p).2 = 0) ∨ (decF zs b l).1 ≠ 0
  | [] => .inl ⟨rfl, fun p hp => by simp at hp⟩
  | p :: l => by
    rw [decF]
    by_cases h : (instAt zs b p).2 = 0
    · rw [if_neg (by simp [h])]
      rcases decF_any zs b l with ⟨h1, h2⟩ | h1
      · refine .inl ⟨h1, fun q hq => ?_⟩
        rcases List.mem_cons.1 hq with rfl | hq
        · exact h
        · exact h2 q hq
      · exact .inr h1
    · rw [if_pos h]; exact .inr h
theorem readE_any (zs : List Int) : readE zs = (0, 0) ∨ (readE zs).1 ≠ 0 := by
  by_cases h : (readE zs).1 = 0
  · left
    obtain ⟨h1, h2, h3⟩ := readE_ok zs h
    unfold readE
    rw [if_neg (by omega), if_neg (by simp [h2]), if_neg (by omega)]
  · exact .inr h
theorem splitErr_range (bs : List Int) : splitErr bs = 0 ∨ splitErr bs ≠ 0 := by
  by_cases h : splitErr bs = 0
  · exact .inl h
  · exact .inr h
theorem decE_any (bs : List Int) : decE bs = (0, 0) ∨ (decE bs).1 ≠ 0 := by
  unfold decE
  by_cases h1 : splitErr bs = 0
  · rw [if_neg (by simp [h1])]
    by_cases h2 : (readE (splitL bs)).1 = 0
    · rw [if_neg (by simp [h2])]
      rcases decF_any (splitL bs) (nth (splitL bs) 3) (rest (splitL bs) 5) with ⟨h, _⟩ | h
      · exact .inl h
      · exact .inr h
    · rw [if_pos h2]; exact .inr h2
  · rw [if_pos h1]; exact .inr h1
/-- What was decoded. -/
theorem decE_ok {bs : List Int} (h : (decE bs).1 = 0) : splitErr bs = 0 ∧ (readE (splitL bs)).1 = 0 ∧ (∀ p ∈ rest (splitL bs) 5, (instAt (splitL bs) (nth (splitL bs) 3) p).2 = 0) ∧ decL bs = instsAt (splitL bs) (nth (splitL bs) 3) (rest (splitL bs) 5) ∧ decH bs 2 = nth (splitL bs) 2 ∧ decH bs 3 = nth (splitL bs) 3 := by
  have h0 := h
  unfold decE at h0
  by_cases h1 : splitErr bs = 0
  · rw [if_neg (by simp [h1])] at h0
    by_cases h2 : (readE (splitL bs)).1 = 0
    · rw [if_neg (by simp [h2])] at h0
      rcases decF_any (splitL bs) (nth (splitL bs) 3) (rest (splitL bs) 5) with ⟨h3, h4⟩ | h3
      · exact ⟨h1, h2, h4, by unfold decL; rw [if_pos h], by unfold decH; rw [if_pos h], by unfold decH; rw [if_pos h]⟩
      · exact absurd h0 h3
    · rw [if_pos h2] at h0; exact absurd h0 h2
  · rw [if_pos h1] at h0; exact absurd h0 h1

theorem rawAt_within {zs : List Int} (hw : Within 4294967296 zs) (p : Nat) : Within 4294967296 (rawAt zs p).2 := by
  intro z hz
  unfold rawAt midL at hz
  exact hw z (List.mem_of_mem_drop (List.mem_of_mem_take hz))

/-! ### what is read lies within its bounds -/

theorem argI_ok {c b : Int} {zs : List Int} (hw : Within 4294967296 zs) (hl : zs.length ≤ 1048576) : ArgOk (argI c zs b).1 := by
  have h0 : ArgOk noArg := ⟨by decide, by decide, by decide, by decide, by decide⟩
  unfold argI
  split
  · exact h0
  · rename_i h1
    split
    · have h2 := (textI_range zs).2.2.2.2
      exact ⟨by simp, by simp, by simp, by simp, by simp only; omega⟩
    · split
      · exact h0
      · split
        · exact h0
        · have hk := kindI_range c
          have hn := hw.at (k := 0) (by omega)
          exact ⟨by simp only; omega, by simp only; omega, hn.1, hn.2, by simp [ByteArray.size]⟩
theorem argsI_ok (f : Frm) (b : Int) : ∀ (fuel : Nat) (zs : List Int) (acc : List ArgT), Within 4294967296 zs → zs.length ≤ 1048576 → ArgsOk acc → ArgsOk (argsI f b fuel zs acc).1 ∧ (argsI f b fuel zs acc).1.length ≤ acc.length + fuel
  | 0, zs, acc, _, _, _ => by rw [argsI]; exact ⟨argsOk_nil, by simp⟩
  | fuel + 1, zs, acc, hw, hl, ha => by
    rw [argsI]
    split
    · split
      · exact ⟨ha, by simp only; omega⟩
      · exact ⟨argsOk_nil, by simp⟩
    · split
      · exact ⟨argsOk_nil, by simp⟩
      · have := argsI_ok f b fuel (zs.drop (argI (letterI f acc.length) zs b).2.1.toNat) (acc ++ [(argI (letterI f acc.length) zs b).1]) (fun z hz => hw z (List.mem_of_mem_drop hz)) (by rw [List.length_drop]; omega) (argsOk_push ha (argI_ok hw hl))
        refine ⟨this.1, ?_⟩
        have h2 := this.2
        rw [List.length_append, List.length_singleton] at h2
        omega
theorem instI_ok {op b : Int} {zs : List Int} (ho0 : 0 ≤ op) (ho1 : op < 65536) (hw : Within 4294967296 zs) : InstOk (instI op zs b).1 := by
  have h0 : InstOk noInst := ⟨by decide, by decide, by decide, by decide, by decide, by decide, argsOk_nil, by decide⟩
  unfold instI
  by_cases h1 : 65535 ≤ zs.length
  · rw [if_pos h1]; exact h0
  · rw [if_neg h1]
    split
    · exact h0
    · generalize (lookF refT op).1 = f
      unfold instF
      split
      · exact h0
      · split
        · exact h0
        · split
          · exact h0
          · have ha := argsI_ok f b (zs.length + 1) (zs.drop (f.2.1.toNat + f.2.2.1.toNat)) [] (fun z hz => hw z (List.mem_of_mem_drop hz)) (by rw [List.length_drop]; omega) argsOk_nil
            have hty : 0 ≤ (headTy f.2.1 zs b).1 ∧ (headTy f.2.1 zs b).1 < 4294967296 := by
              unfold headTy
              split
              · split
                · simp
                · exact hw.at (by omega)
              · simp
            have hre : 0 ≤ (headRes f.2.2.1 zs b f.2.1.toNat).1 ∧ (headRes f.2.2.1 zs b f.2.1.toNat).1 < 4294967296 := by
              unfold headRes
              split
              · split
                · simp
                · exact hw.at (by omega)
              · simp
            refine ⟨ho0, ho1, hty.1, hty.2, hre.1, hre.2, ha.1, ?_⟩
            have := ha.2
            simp only [List.length_nil, Nat.zero_add] at this ⊢
            omega
theorem instAt_ok {zs : List Int} (hw : Within 4294967296 zs) (b : Int) (p : Nat) : InstOk (instAt zs b p).1 := instI_ok (opI_lo _ _) (opI_hi _ _) (rawAt_within hw p)
theorem instsAt_ok {zs : List Int} (hw : Within 4294967296 zs) (b : Int) (ps : List Nat) : InstsOk (instsAt zs b ps) := by
  intro j hj
  rw [nthI_lt _ _ hj]
  simp only [instsAt, List.getElem_map]
  exact instAt_ok hw b _
theorem decL_ok {bs : List Int} (hw : Within 256 bs) : InstsOk (decL bs) := by
  unfold decL
  split
  · exact instsAt_ok (splitL_within bs hw) _ _
  · exact instsOk_nil
theorem decL_len {bs : List Int} : (decL bs).length ≤ 1048576 := by
  by_cases h : (decE bs).1 = 0
  · obtain ⟨h1, h2, h3, h4, _⟩ := decE_ok h
    have h5 := (readE_ok _ h2).1
    have h6 := rest_len (splitL bs) 5
    rw [h4]; simp only [instsAt, List.length_map]; omega
  · unfold decL; rw [if_neg h]; simp
theorem nth_range32 {zs : List Int} (hw : Within 4294967296 zs) (i : Nat) : 0 ≤ nth zs i ∧ nth zs i < 4294967296 := by
  by_cases h : i < zs.length
  · exact hw.at h
  · simp [nth, List.getD, List.getElem?_eq_none (by omega : zs.length ≤ i)]
theorem decH_range {bs : List Int} (hw : Within 256 bs) (i : Nat) : 0 ≤ decH bs i ∧ decH bs i < 4294967296 := by
  unfold decH
  split
  · exact nth_range32 (splitL_within bs hw) i
  · simp

end Go.Proofs.Ytpggcpnjcalfaab

/-
  What Split of the words package returns, for every list of bytes: its error, and its words in new memory; nothing that was there has turned.
-/
namespace Go.Proofs.Ytpggcpnjcalfaab
open Go.RowKit
set_option maxRecDepth 10000

theorem Split.info : (Try.prog.info? 22).map (fun i => (i.zero, i.size, i.bytes)) = some (some (.int .u32 0), 1, 4) := by kernel_rfl

theorem split_large (a : Option Addr) (n cap : Nat) (w : World) (h : 4194304 < n) :
    Calls Try.prog 32 #[.slice a n cap] w fun e w' => e = .returned (.tuple #[.slice none 0 0, .int .i64 4]) ∧ w = w' := by
  have h' : (4194304 : Int) < (n : Int) := by omega
  go_enter Try.func32, Try.ntmps32
  go_wp2
  go_ret2
  exact ⟨rfl, rfl⟩

theorem split_odd (a : Option Addr) (n cap : Nat) (w : World) (h : ¬ 4194304 < n) (h2 : ¬ n % 4 = 0) :
    Calls Try.prog 32 #[.slice a n cap] w fun e w' => e = .returned (.tuple #[.slice none 0 0, .int .i64 10]) ∧ w = w' := by
  have h' : ¬ (4194304 : Int) < (n : Int) := by omega
  have h2' : (((n : Int) % 4) == 0) = false := by simp; omega
  go_enter Try.func32, Try.ntmps32
  go_wp2
  go_ret2
  exact ⟨rfl, rfl⟩

set_option maxHeartbeats 1000000 in
theorem split_ok (a : Option Addr) (m cap : Nat) (zs : List Int) (w : World) (ha : View .u8 w a zs) (hl : zs.length = 4 * m) (hw : Within 256 zs) (h : ¬ 4194304 < 4 * m) :
    Calls Try.prog 32 #[.slice a (4 * m) cap] w fun e w' => e = .returned (.tuple #[.slice (some ⟨w.heap.size, 0, none⟩) m m, .int .i64 0]) ∧
      w'.ownsRow w.heap.size 22 1 (.slice (some ⟨w.heap.size, 0, none⟩) m m) m ((splitL zs).map (Value.int .u32)) ∧ Below w.heap.size w w' := by
  obtain ⟨i0, hi, hz0, hz1, hz2⟩ := info_parts Split.info
  have HL : Hid (zs.length = 4 * m) := hl
  clear hl
  have h' : ¬ (4194304 : Int) < 4 * (m : Int) := by omega
  go_enter Try.func32, Try.ntmps32
  go_wp2_with (at_make; refine wpList_make_full _ rfl _ _ 44 rfl w.heap.size 22 i0 (.int .u32 0) 1 Try.underlying44 hi hz0 hz1 _ _ _ _ m rfl rfl (by omega) (by omega) (by rw [hz2]; omega) (by unfold maxLen; omega) (Nat.le_refl _) ?_)
  intro w1 hown1 hgrow1
  have hb1 : Below w.heap.size w w1 := (Below.refl _ w).grown hgrow1 (Nat.le_refl _) (by simp)
  have hr1 := made_row zs hown1
  rw [← partL_zero zs zs] at hr1
  clear hown1 hgrow1
  go_wp2
  go_loopw [20] (fun i wr => ∃ k : Nat, k ≤ 4 * m ∧ i = .int .i64 k ∧ wr.ownsRow w.heap.size 22 1 (.slice (some ⟨w.heap.size, 0, none⟩) m m) m ((partL zs k m).map (Value.int .u32)) ∧ Below w.heap.size w wr)
    (fun i _ => 4 * m - (intOf i).toNat)
  case atStart => exact ⟨0, Nat.zero_le _, rfl, hr1, hb1⟩
  case round =>
    obtain ⟨k, hk, rfl, hown, hnx⟩ := hrel
    clear hr1 hb1
    by_cases hlt : k < 4 * m
    · obtain ⟨b, off, rfl, hbs, hc⟩ := ha k (by rw [HL.out]; exact hlt)
      have hx := hw.at (k := k) (by rw [HL.out]; exact hlt)
      have hcr : wr.cell? ⟨b, off + k, none⟩ = some (.int .u8 (nth zs k)) := (hnx.cell (p := ⟨b, off + k, none⟩) hbs).trans hc
      have hpb := partW_bounds zs k (k / 4) hw (by rw [HL.out]; omega)
      have HP : Hid (bits .or .u32 (partW zs k (k / 4)) (plc (nth zs k) (k % 4)) = partW zs (k + 1) (k / 4)) := partW_step zs k hw (by rw [HL.out]; exact hlt)
      have hd : wr.cell? ⟨w.heap.size, k / 4, none⟩ = some (.int .u32 (partW zs k (k / 4))) := by
        rw [hown.cellAt (k / 4) (by omega)]
        have : k / 4 < m := by omega
        simp [partL, this]
      have hf : wr.frozen? ⟨w.heap.size, k / 4, none⟩ = false := hown.frozenAt _
      have hs := (hown.stored (k / 4) (.int .u32 (partW zs (k + 1) (k / 4)))).1
      rw [← List.map_set, partL_set] at hs
      generalize nth zs k = x at hx hcr HP
      generalize partW zs k (k / 4) = y at hpb hd HP
      have hx0 := hx.1
      have hx1 := hx.2
      have hy0 := hpb.1
      have hy1 := hpb.2
      have hk0 : (0 : Int) ≤ (k : Int) / 4 := by omega
      have hk4 : (k : Int) / 4 < (m : Int) := by omega
      have eq : (k : Int).tdiv 4 = ((k / 4 : Nat) : Int) := by rw [Int.tdiv_eq_ediv_of_nonneg (by omega)]; omega
      have em : (k : Int).tmod 4 = ((k % 4 : Nat) : Int) := by rw [Int.tmod_eq_emod_of_nonneg (by omega)]; omega
      have eq' : (k : Int) / 4 = ((k / 4 : Nat) : Int) := by omega
      have em' : (k : Int) % 4 = ((k % 4 : Nat) : Int) := by omega
      have hj : k / 4 < m := by omega
      have hr : k % 4 < 4 := by omega
      have HS : Hid ((wr.setCell ⟨w.heap.size, k / 4, none⟩ (.int .u32 (bits .or .u32 y (plc x (k % 4))))).ownsRow w.heap.size 22 1 (.slice (some ⟨w.heap.size, 0, none⟩) m m) m ((partL zs (k + 1) m).map (Value.int .u32))) := by rw [HP.out]; exact hs
      clear hc hx hpb hown ha hs HP hk0 hk4
      generalize k / 4 = j at *
      generalize k % 4 = r at *
      have hA := fun wx => atPlace_any x (r : Int) wx hx0 hx1 (by omega) (by omega)
      have hj0 : (0 : Int) ≤ (j : Int) := by omega
      have hj1 : (j : Int) < (m : Int) := by omega
      have hwj : IntKind.i64.wrap (j : Int) = (j : Int) := by rw [IntKind.wrap_i64]; omega
      go_wp2
      go_region_with (go_at_call 50; refine (hA _).mono ?_; rintro e w' ⟨rfl, rfl⟩)
      all_goals
        go_wp2
        go_roundw
        case rel => exact ⟨k + 1, by omega, by go_num, HS.out.drew, (hnx.setCell (Nat.le_refl _) _).drew⟩
        case measure => simp [intOf]; omega
    · go_wp2
      go_ret2
      obtain rfl : k = 4 * m := by omega
      have e := partL_whole zs (by rw [HL.out]; omega)
      rw [HL.out, show 4 * m / 4 = m by omega] at e
      rw [e] at hown
      exact ⟨rfl, hown, hnx⟩

theorem split_any (a : Option Addr) (n cap : Nat) (zs : List Int) (w : World) (ha : View .u8 w a zs) (hl : zs.length = n) (hw : Within 256 zs) :
    Calls Try.prog 32 #[.slice a n cap] w fun e w' => ∃ ax m, e = .returned (.tuple #[.slice ax m m, .int .i64 (splitErr zs)]) ∧ (splitOut zs).length = m ∧ View .u32 w' ax (splitOut zs) ∧ NewAt w.heap.size ax ∧ Below w.heap.size w w' := by
  by_cases h : 4194304 < n
  · refine (split_large a n cap w h).mono ?_
    rintro e w' ⟨rfl, rfl⟩
    rw [splitErr_large zs (by omega), splitOut_large zs (by omega)]
    exact ⟨none, 0, rfl, rfl, view_nil, newAt_none, Below.refl _ _⟩
  · by_cases h2 : n % 4 = 0
    · obtain ⟨m, rfl⟩ : ∃ m, n = 4 * m := ⟨n / 4, by omega⟩
      refine (split_ok a m cap zs w ha hl hw h).mono ?_
      rintro e w' ⟨rfl, hown, hb⟩
      rw [splitErr_ok zs (by omega) (by omega), splitOut_ok zs (by omega) (by omega)]
      have hs : (splitL zs).length = m := by rw [splitL_len, hl]; omega
      exact ⟨_, m, rfl, hs, View.ofRow hown hs, newAt_mk (Nat.le_refl _), hb⟩
    · refine (split_odd a n cap w h h2).mono ?_
      rintro e w' ⟨rfl, rfl⟩
      rw [splitErr_odd zs (by omega) (by omega), splitOut_odd zs (by omega) (by omega)]
      exact ⟨none, 0, rfl, rfl, view_nil, newAt_none, Below.refl _ _⟩

end Go.Proofs.Ytpggcpnjcalfaab

/-
  What Decode of the package code answers, for all bytes that are no module.
-/
namespace Go.Proofs.Ytpggcpnjcalfaab
open Go.RowKit
set_option linter.unusedVariables false
set_option linter.unusedSimpArgs false
set_option maxRecDepth 10000

/-- The boxes of Decode's answer. -/
structure DecB (w W : World) (v0 v1 v2 v3 v4 : Value) : Prop where
  mod : W.heap[w.heap.size]? = some (.cells #[v0, v1, v2] 25 (0, 0))
  spot : W.heap[w.heap.size + 1]? = some (.cells #[v3, v4] 28 (0, 0))
  bel : Below w.heap.size w W

theorem decB_new (w : World) : DecB w ((w.alloc (.cells #[.int .u32 0, .int .u32 0, .slice none 0 0] 25)).alloc (.cells #[.int .i64 0, .int .i64 0] 28)) (.int .u32 0) (.int .u32 0) (.slice none 0 0) (.int .i64 0) (.int .i64 0) :=
  ⟨(Below.heap_alloc _ _ _ (by simp)).trans (alloc_new w _ _), by simpa using alloc_new (w.alloc (.cells #[.int .u32 0, .int .u32 0, .slice none 0 0] 25)) #[.int .i64 0, .int .i64 0] 28, ((Below.refl _ w).alloc (Nat.le_refl _) _).alloc (by simp) _⟩
theorem DecB.below {w W W' : World} {v0 v1 v2 v3 v4 : Value} (h : DecB w W v0 v1 v2 v3 v4) (hb : Below W.heap.size W W') : DecB w W' v0 v1 v2 v3 v4 :=
  ⟨(hb.block _ (Array.getElem?_eq_some_iff.1 h.mod).1).trans h.mod, (hb.block _ (Array.getElem?_eq_some_iff.1 h.spot).1).trans h.spot, h.bel.trans (hb.mono h.bel.size)⟩
theorem DecB.cells {w W : World} {v0 v1 v2 v3 v4 : Value} (h : DecB w W v0 v1 v2 v3 v4) : W.cell? ⟨w.heap.size, 0, none⟩ = some v0 ∧ W.cell? ⟨w.heap.size, 1, none⟩ = some v1 ∧ W.cell? ⟨w.heap.size, 2, none⟩ = some v2 ∧ W.cell? ⟨w.heap.size + 1, 0, none⟩ = some v3 ∧ W.cell? ⟨w.heap.size + 1, 1, none⟩ = some v4 := by
  obtain ⟨h1, _⟩ := one_block h.mod
  obtain ⟨h2, _⟩ := one_block h.spot
  exact ⟨h1 0, h1 1, h1 2, h2 0, h2 1⟩
theorem DecB.free {w W : World} {v0 v1 v2 v3 v4 : Value} (h : DecB w W v0 v1 v2 v3 v4) : W.frozen? ⟨w.heap.size, 0, none⟩ = false ∧ W.frozen? ⟨w.heap.size, 1, none⟩ = false ∧ W.frozen? ⟨w.heap.size, 2, none⟩ = false ∧ W.frozen? ⟨w.heap.size + 1, 0, none⟩ = false ∧ W.frozen? ⟨w.heap.size + 1, 1, none⟩ = false := by
  obtain ⟨_, h1⟩ := one_block h.mod
  obtain ⟨_, h2⟩ := one_block h.spot
  exact ⟨h1 0, h1 1, h1 2, h2 0, h2 1⟩
/-- All five cells are stored. -/
def fiveW (w W : World) (u0 u1 u2 u3 u4 : Value) : World := ((((W.setCell ⟨w.heap.size, 0, none⟩ u0).setCell ⟨w.heap.size, 1, none⟩ u1).setCell ⟨w.heap.size, 2, none⟩ u2).setCell ⟨w.heap.size + 1, 0, none⟩ u3).setCell ⟨w.heap.size + 1, 1, none⟩ u4
theorem DecB.put {w W : World} {v0 v1 v2 v3 v4 : Value} (h : DecB w W v0 v1 v2 v3 v4) (u0 u1 u2 u3 u4 : Value) : DecB w (fiveW w W u0 u1 u2 u3 u4) u0 u1 u2 u3 u4 := by
  have k1 := three_set3 h.mod u0 u1 u2
  have k2 : (((W.setCell ⟨w.heap.size, 0, none⟩ u0).setCell ⟨w.heap.size, 1, none⟩ u1).setCell ⟨w.heap.size, 2, none⟩ u2).heap[w.heap.size + 1]? = some (.cells #[v3, v4] 28 (0, 0)) := (Below.heap_setCell _ _ _ _ (by simp)).trans ((Below.heap_setCell _ _ _ _ (by simp)).trans ((Below.heap_setCell _ _ _ _ (by simp)).trans h.spot))
  refine ⟨(Below.heap_setCell _ _ _ _ (by simp)).trans ((Below.heap_setCell _ _ _ _ (by simp)).trans k1), two_put2 k2 u3 u4, ?_⟩
  exact ((((h.bel.setCell (by simp) _).setCell (by simp) _).setCell (by simp) _).setCell (by simp) _).setCell (by simp) _
theorem DecB.drew {w W : World} {v0 v1 v2 v3 v4 : Value} (h : DecB w W v0 v1 v2 v3 v4) : DecB w W.drew v0 v1 v2 v3 v4 := h.below (below_drew W)
theorem fiveW_grown (w W : World) (u0 u1 u2 u3 u4 : Value) : ∀ k, k ≠ w.heap.size → k ≠ w.heap.size + 1 → (fiveW w W u0 u1 u2 u3 u4).heap[k]? = W.heap[k]? := fun k h1 h2 => by
  unfold fiveW
  rw [Below.heap_setCell _ _ _ _ (by simpa using h2), Below.heap_setCell _ _ _ _ (by simpa using h2), Below.heap_setCell _ _ _ _ (by simpa using h1), Below.heap_setCell _ _ _ _ (by simpa using h1), Below.heap_setCell _ _ _ _ (by simpa using h1)]

set_option maxHeartbeats 2000000 in
/-- Bytes that are no words. -/
theorem decode_split (a : Option Addr) (n cap : Nat) (bs : List Int) (w : World) (ha : View .u8 w a bs) (hl : bs.length = n) (hw : Within 256 bs) (h : splitErr bs ≠ 0) :
    Calls Try.prog 13 #[.slice a n cap] w fun e w' => e = .returned (.tuple #[modV 0 0 none 0 0, .agg #[.int .i64 (splitErr bs), .int .i64 0]]) ∧ Below w.heap.size w w' := by
  have hS := fun wx (hb : Below w.heap.size w wx) => split_any a n cap bs wx (ha.below hb) hl hw
  have heb : (splitErr bs == 0) = false := by simpa using h
  generalize splitErr bs = er at *
  generalize splitOut bs = so at *
  clear ha hl hw h
  have hD0 := decB_new w
  have hC := hS _ hD0.bel
  have HD0 : Hid (DecB _ _ _ _ _ _ _) := hD0
  clear hS hD0
  unfold modV
  go_enter Try.func13, Try.ntmps13
  go_wp2_with fail
  have hD0 := HD0.out
  clear HD0
  generalize (w.alloc (.cells #[.int .u32 0, .int .u32 0, .slice none 0 0] 25)).alloc (.cells #[.int .i64 0, .int .i64 0] 28) = W0 at *
  refine hC.mono ?_
  rintro e w1 ⟨ax, m, rfl, hm, _, _, hb1⟩
  have hD1 := hD0.below hb1
  obtain ⟨c0, c1, c2, c3, c4⟩ := hD1.cells
  obtain ⟨f0, f1, f2, f3, f4⟩ := hD1.free
  have hD2 := hD1.put (.int .u32 0) (.int .u32 0) (.slice none 0 0) (.int .i64 er) (.int .i64 0)
  have HD2 : Hid (DecB _ _ _ _ _ _ _) := hD2
  clear hC hD0 hD1 hb1 hD2 hm
  go_wp2
  have hD2 := HD2.out
  unfold fiveW at hD2
  clear HD2 c0 c1 c2 c3 c4 f0 f1 f2 f3 f4
  generalize ((((w1.setCell _ _).setCell _ _).setCell _ _).setCell _ _).setCell _ _ = W at hD2 ⊢
  obtain ⟨d0, d1, d2, d3, d4⟩ := hD2.cells
  refine bodyPost_ret (v := .tuple #[.agg #[.int .u32 0, .int .u32 0, .slice none 0 0], .agg #[.int .i64 er, .int .i64 0]]) ?_ rfl ⟨rfl, hD2.bel⟩
  simp [results, Try.results13, go_sem, d0, d1, d2, d3, d4]

set_option maxHeartbeats 2000000 in
/-- Words that no frame has. -/
theorem decode_read (a : Option Addr) (n cap : Nat) (bs : List Int) (w : World) (ha : View .u8 w a bs) (hl : bs.length = n) (hw : Within 256 bs) (h : splitErr bs = 0) (h2 : (readE (splitL bs)).1 ≠ 0) :
    Calls Try.prog 13 #[.slice a n cap] w fun e w' => e = .returned (.tuple #[modV 0 0 none 0 0, .agg #[.int .i64 (readE (splitL bs)).1, .int .i64 (readE (splitL bs)).2]]) ∧ Below w.heap.size w w' := by
  have hS := fun wx (hb : Below w.heap.size w wx) => split_any a n cap bs wx (ha.below hb) hl hw
  have hso : splitOut bs = splitL bs := by unfold splitOut; rw [if_pos h]
  rw [hso, h] at hS
  have hsm : 4 * (splitL bs).length ≤ 140737488351232 := by
    rw [splitL_len]
    unfold splitErr at h
    by_cases h3 : 4194304 < bs.length
    · rw [if_pos h3] at h; cases h
    · omega
  have hR := fun ax m wx (hv : View .u32 wx ax (splitL bs)) (hm : (splitL bs).length = m) => readC ax m m (splitL bs) wx hv hm (splitL_within bs hw) (by omega) (Nat.le_refl _)
  have heb : ((readE (splitL bs)).1 == 0) = false := by simpa using h2
  generalize hq1 : (readE (splitL bs)).1 = e1 at *
  generalize hq2 : (readE (splitL bs)).2 = e2 at *
  have hr2 : readAt (splitL bs) 2 = 0 := by unfold readAt; rw [hq1, if_neg h2]
  have hr3 : readAt (splitL bs) 3 = 0 := by unfold readAt; rw [hq1, if_neg h2]
  rw [hr2, hr3] at hR
  generalize splitL bs = zs at *
  clear ha hl hw h h2 hso hsm hr2 hr3 hq1 hq2
  have hD0 := decB_new w
  have hC := hS _ hD0.bel
  have HD0 : Hid (DecB _ _ _ _ _ _ _) := hD0
  clear hS hD0
  unfold modV
  go_enter Try.func13, Try.ntmps13
  go_wp2_with fail
  have hD0 := HD0.out
  clear HD0
  generalize (w.alloc (.cells #[.int .u32 0, .int .u32 0, .slice none 0 0] 25)).alloc (.cells #[.int .i64 0, .int .i64 0] 28) = W0 at *
  refine hC.mono ?_
  rintro e w1 ⟨ax, m, rfl, hm, hv1, _, hb1⟩
  have hD1 := hD0.below hb1
  have hC2 := hR ax m w1 hv1 hm
  have HM : Hid _ := hm
  clear hC hD0 hb1 hR hv1 hm
  go_wp2_with fail
  refine hC2.mono ?_
  rintro e w2 ⟨hb2, ay, cy, m2, rfl, hm2, _⟩
  have hD2 := (hD1.below hb2).below (((Below.refl _ w2).alloc (Nat.le_refl _) (.cells #[.int .u32 0, .int .u32 0] 68)).alloc (by simp) (.cells #[.int .i64 e1, .int .i64 (e2 : Int)] 28))
  obtain ⟨c0, c1, c2, c3, c4⟩ := hD2.cells
  obtain ⟨f0, f1, f2, f3, f4⟩ := hD2.free
  have kS : ((w2.alloc (.cells #[.int .u32 0, .int .u32 0] 68)).alloc (.cells #[.int .i64 e1, .int .i64 (e2 : Int)] 28)).heap[w2.heap.size + 1]? = some (.cells #[.int .i64 e1, .int .i64 (e2 : Int)] 28 (0, 0)) := by simpa using alloc_new (w2.alloc (.cells #[.int .u32 0, .int .u32 0] 68)) #[.int .i64 e1, .int .i64 (e2 : Int)] 28
  obtain ⟨k0, k1, _⟩ := cell_of_two kS
  have hD3 := (hD2.put (.int .u32 0) (.int .u32 0) (.slice none 0 0) (.int .i64 e1) (.int .i64 (e2 : Int))).drew
  have hl2 := (Array.getElem?_eq_some_iff.1 (hD1.below hb2).spot).1
  have HD3 : Hid (DecB _ _ _ _ _ _ _) := hD3
  have hne : w2.heap.size + 1 ≠ w.heap.size := by omega
  have hne2 : w2.heap.size + 1 ≠ w.heap.size + 1 := by omega
  clear hC2 hD1 hb2 hD2 hD3 kS hm2
  go_wp2
  go_region
  all_goals
    go_wp2
    have hD2 := HD3.out
    unfold fiveW at hD2
    clear HD3 c0 c1 c2 c3 c4 f0 f1 f2 f3 f4 k0 k1
    generalize World.drew _ = W at hD2 ⊢
    obtain ⟨d0, d1, d2, d3, d4⟩ := hD2.cells
    refine bodyPost_ret (v := .tuple #[.agg #[.int .u32 0, .int .u32 0, .slice none 0 0], .agg #[.int .i64 e1, .int .i64 (e2 : Int)]]) ?_ rfl ⟨rfl, hD2.bel⟩
    simp [results, Try.results13, go_sem, d0, d1, d2, d3, d4]

end Go.Proofs.Ytpggcpnjcalfaab
