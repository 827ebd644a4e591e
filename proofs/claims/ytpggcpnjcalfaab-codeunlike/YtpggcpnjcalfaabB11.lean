/-
  Texts laid together in one: MathN, MathB, MathWR, MathD, MathE.
-/
import Derived.Test.YtpggcpnjcalfaabB10
import Derived.Test.YtpggcpnjcalfaabB01
import Derived.Test.YtpggcpnjcalfaabB07
import Derived.Test.YtpggcpnjcalfaabB06
import Derived.Test.YtpggcpnjcalfaabB09
import Derived.Test.YtpggcpnjcalfaabB03
/-
  The instruction that words say, as a function of the words.
-/
namespace Go.Proofs.Ytpggcpnjcalfaab
open Go.RowKit
set_option linter.unusedVariables false
set_option linter.unusedSimpArgs false

/-- The argument at the front of words, how many these are, and its error. -/
def argI (c : Int) (zs : List Int) (b : Int) : ArgT × Int × Int :=
  if c = 0 ∨ zs.length = 0 then (noArg, 0, 42)
  else if kindI c = 3 then ((3, 0, (textI zs).1), (textI zs).2.1, (textI zs).2.2)
  else if kindI c = 1 ∧ noneB (nth zs 0) b = true then (noArg, 0, 43)
  else if kindI c = 4 ∧ enumB c (nth zs 0) = false then (noArg, 0, 31)
  else ((kindI c, nth zs 0, ⟨#[]⟩), 1, 0)

/-- The arguments that words say, behind those that there are; the error. -/
def argsI (f : Frm) (b : Int) : Nat → List Int → List ArgT → List ArgT × Int
  | 0, _, _ => ([], 42)
  | k + 1, zs, acc =>
    if zs.length = 0 then (if wholeN f acc.length = true then (acc, 0) else ([], 42))
    else if (argI (letterI f acc.length) zs b).2.2 ≠ 0 then ([], (argI (letterI f acc.length) zs b).2.2)
    else argsI f b k (zs.drop (argI (letterI f acc.length) zs b).2.1.toNat) (acc ++ [(argI (letterI f acc.length) zs b).1])

/-- The result's id. -/
def headRes (re : Bool) (zs : List Int) (b : Int) (p : Nat) : Int × Int := if re then (if zs.length ≤ p then (0, 41) else (nth zs p, if noneB (nth zs p) b then 43 else 0)) else (0, 0)
/-- The type's id. -/
def headTy (ty : Bool) (zs : List Int) (b : Int) : Int × Int := if ty then (if zs.length ≤ 0 then (0, 40) else (nth zs 0, if noneB (nth zs 0) b then 43 else 0)) else (0, 0)

/-- The instruction that words say, its form being f; the error. -/
def instF (f : Frm) (op : Int) (zs : List Int) (b : Int) : InstT × Int :=
  if (headTy f.2.1 zs b).2 ≠ 0 then (noInst, (headTy f.2.1 zs b).2)
  else if (headRes f.2.2.1 zs b f.2.1.toNat).2 ≠ 0 then (noInst, (headRes f.2.2.1 zs b f.2.1.toNat).2)
  else if (argsI f b (zs.length + 1) (zs.drop (f.2.1.toNat + f.2.2.1.toNat)) []).2 ≠ 0 then (noInst, (argsI f b (zs.length + 1) (zs.drop (f.2.1.toNat + f.2.2.1.toNat)) []).2)
  else ((op, (headTy f.2.1 zs b).1, (headRes f.2.2.1 zs b f.2.1.toNat).1, (argsI f b (zs.length + 1) (zs.drop (f.2.1.toNat + f.2.2.1.toNat)) []).1), 0)
/-- What Inst answers. -/
def instI (op : Int) (zs : List Int) (b : Int) : InstT × Int :=
  if 65535 ≤ zs.length then (noInst, 25) else if (lookF refT op).2 = false then (noInst, 30) else instF (lookF refT op).1 op zs b

theorem kindI_range (c : Int) : kindI c = 0 ∨ kindI c = 1 ∨ kindI c = 2 ∨ kindI c = 3 ∨ kindI c = 4 := by
  unfold kindI
  split
  · exact .inr (.inl rfl)
  · split
    · exact .inr (.inr (.inl rfl))
    · split
      · exact .inr (.inr (.inr (.inl rfl)))
      · split
        · exact .inr (.inr (.inr (.inr rfl)))
        · exact .inl rfl

/-- Each letter of a form has a kind. -/
def goodL (s : ByteArray) : Bool := s.data.toList.all fun x => kindI (x.toNat : Int) != 0
theorem refT_goodL : refT.all (fun p => goodL p.2.2.2.2.1 && goodL p.2.2.2.2.2.1) = true := by decide +kernel
theorem sgn_good {s : ByteArray} (h : goodL s = true) {k : Nat} (hk : k < s.size) : kindI (sgn s k) ≠ 0 := by
  have hl : k < s.data.toList.length := by rw [size_list]; exact hk
  have h1 := (List.all_eq_true.1 h) (s.data.toList[k]) (List.getElem_mem hl)
  unfold sgn
  rw [List.getD, List.getElem?_eq_getElem hl]
  simpa using h1
theorem letter_kind (n : Int) (k : Nat) (h : letterI (lookF refT n).1 (k : Int) ≠ 0) : kindI (letterI (lookF refT n).1 (k : Int)) ≠ 0 := by
  have hg : goodL (lookF refT n).1.2.2.2.1 = true ∧ goodL (lookF refT n).1.2.2.2.2.1 = true := by
    by_cases h : (lookF refT n).2 = true
    · have := (List.all_eq_true.1 refT_goodL) _ (lookF_true h)
      simpa using this
    · rw [(lookF_false (by simpa using h)).1]; exact ⟨rfl, rfl⟩
  generalize (lookF refT n).1 = f at *
  unfold letterI at h ⊢
  rw [if_neg (by omega)] at h ⊢
  by_cases h1 : (k : Int) < f.2.2.2.1.size
  · rw [if_pos h1] at h ⊢
    exact sgn_good hg.1 (by omega)
  · rw [if_neg h1] at h ⊢
    split at h
    · rename_i hm
      rw [if_pos hm]
      refine sgn_good hg.2 ?_
      unfold mayB at hm
      by_cases h0 : f.2.2.2.2.1.size = 0
      · rw [if_pos h0] at hm; cases hm
      · have := Int.emod_lt_of_pos ((k : Int) - f.2.2.2.1.size) (show (0 : Int) < f.2.2.2.2.1.size by omega)
        have := Int.emod_nonneg ((k : Int) - f.2.2.2.1.size) (show (f.2.2.2.2.1.size : Int) ≠ 0 by omega)
        omega
    · exact absurd rfl h

end Go.Proofs.Ytpggcpnjcalfaab

/-
  Plain facts: an instruction's words say the instruction, and the words of the instruction that words say are those words.
-/
namespace Go.Proofs.Ytpggcpnjcalfaab
open Go.RowKit
set_option linter.unusedVariables false

/-! ### a text's words -/

theorem zeroAt_eq {js : List Int} {n : Nat} (h0 : ∀ i, i < n → nth js i ≠ 0) (hn : n < js.length) (h1 : nth js n = 0) : zeroAt js = n := by
  have hlt : zeroAt js < js.length := by
    unfold zeroAt
    rw [List.findIdx_lt_length]
    refine ⟨js[n], List.getElem_mem hn, ?_⟩
    rw [nth_lt _ _ hn] at h1
    simp [h1]
  rcases Nat.lt_trichotomy (zeroAt js) n with h | h | h
  · exact absurd (zeroAt_at js hlt) (h0 _ h)
  · exact h
  · exact absurd h1 (zeroAt_before js n h hn)

theorem textI_textW (s : ByteArray) (ys : List Int) (hs : NoNul s) : textI (textW s ++ ys) = (s, ((s.size / 4 : Nat) : Int) + 1, 0) := by
  have hlen : (joinL (textW s ++ ys)).length = 4 * (s.size / 4 + 1) + 4 * ys.length := by rw [joinL_len, List.length_append, textW_len]; omega
  have hz : zeroAt (joinL (textW s ++ ys)) = s.size := by
    refine zeroAt_eq (fun i hi => ?_) (by omega) ?_
    · rw [joinL_text_lo s ys i (by omega), padI_lo s i hi]; exact hs i hi
    · rw [joinL_text_lo s ys s.size (by omega), padI_hi s s.size (Nat.le_refl _)]
  have hp : padBad (joinL (textW s ++ ys)) = false := by
    cases h : padBad (joinL (textW s ++ ys)) with
    | false => rfl
    | true =>
      obtain ⟨q, h1, h2, h3⟩ := (padBad_iff (L := s.size / 4) (P := s.size % 4) (by rw [hz]; omega) (by omega) (by omega)).1 h
      rw [joinL_text_lo s ys _ (by omega), padI_hi s _ (by omega)] at h3
      exact absurd rfl h3
  unfold textI
  rw [if_neg (by omega), if_neg (by simp [hp]), hz, text_take, str_of_strI]

theorem strI_strOf {js : List Int} (h : Within 256 js) : strI (strOfNums js) = js := by
  have hsz : (strOfNums js).size = js.length := strOfNums_size js
  refine nth_ext (by rw [strI_len, hsz]) fun k hk => ?_
  rw [strI_len, hsz] at hk
  rw [nth_strI _ _ (by rw [hsz]; exact hk)]
  have hb := h.at hk
  have e : (strOfNums js).data.toList = js.map fun z => z.toNat.toUInt8 := by simp [strOfNums]
  have hg : (strOfNums js)[k]'(by rw [hsz]; exact hk) = (js[k]).toNat.toUInt8 := by
    have : (strOfNums js)[k]'(by rw [hsz]; exact hk) = (strOfNums js).data.toList[k]'(by rw [size_list, hsz]; exact hk) := rfl
    rw [this]
    simp only [e, List.getElem_map]
  rw [hg, nth_lt _ _ hk]
  rw [nth_lt _ _ hk] at hb
  have : (js[k]).toNat.toUInt8.toNat = (js[k]).toNat % 256 := by simp
  rw [this]; omega

/-- The words of a text that was read are those that it was read of. -/
theorem textW_textI {zs : List Int} (hw : Within 4294967296 zs) (h : (textI zs).2.2 = 0) : textW (textI zs).1 = zs.take (textI zs).2.1.toNat ∧ NoNul (textI zs).1 := by
  obtain ⟨h1, h2, h3⟩ := textI_some h
  have hl := joinL_len zs
  rw [h3]
  simp only
  generalize hN : zeroAt (joinL zs) = N at *
  have hws : Within 256 ((joinL zs).take N) := within_take (joinL_within zs)
  have hsI := strI_strOf hws
  have hsz : (strOfNums ((joinL zs).take N)).size = N := by rw [strOfNums_size, List.length_take]; omega
  have hnt : ((((N / 4 : Nat) : Int) + 1)).toNat = N / 4 + 1 := by omega
  rw [hnt]
  constructor
  · -- both have the same bytes
    have hb : joinL (textW (strOfNums ((joinL zs).take N))) = joinL (zs.take (N / 4 + 1)) := by
      rw [joinL_textW, joinL_take]
      refine nth_ext (by rw [padI_len, hsz, List.length_take]; omega) fun k hk => ?_
      rw [padI_len, hsz] at hk
      rw [nth_take _ _ _ hk]
      by_cases hkN : k < N
      · rw [padI_lo _ _ (by rw [hsz]; exact hkN), hsI, nth_take _ _ _ hkN]
      · rw [padI_hi _ _ (by rw [hsz]; omega)]
        by_cases hke : k = N
        · subst hke; rw [← hN]; exact (zeroAt_at _ (by rw [hN]; exact h1)).symm
        · apply Classical.byContradiction
          intro hne
          have : padBad (joinL zs) = true := (padBad_iff (L := N / 4) (P := N % 4) (by rw [hN]; omega) (by omega) (by omega)).2 ⟨k - 4 * (N / 4), by omega, by omega, by rw [show 4 * (N / 4) + (k - 4 * (N / 4)) = k by omega]; exact fun e => hne e.symm⟩
          rw [h2] at this; cases this
    have e1 := split_join (textW (strOfNums ((joinL zs).take N))) (textW_within _)
    have e2 := split_join (zs.take (N / 4 + 1)) (within_of_take hw)
    rw [← e1, hb, e2]
  · intro k hk
    rw [hsz] at hk
    rw [hsI, nth_take _ _ _ hk]
    exact zeroAt_before _ k (by rw [hN]; exact hk) (by omega)

/-! ### one argument -/

theorem noneB_more {n b c : Int} (h : noneB n b = false) (hbc : b ≤ c) : noneB n c = false := by
  unfold noneB at *
  simp at *
  omega

theorem argI_words {c b m : Int} {x : ArgT} (ys : List Int) (h : wrongA c x b = 0) (hb : b ≤ m) : argI c (wordsA x ++ ys) m = (x, ((wordsA x).length : Int), 0) := by
  obtain ⟨xk, xn, xs⟩ := x
  unfold wrongA at h
  by_cases hm : mayStandB c (xk, xn, xs) = false
  · rw [if_pos hm] at h; cases h
  · rw [if_neg hm] at h
    have hm' : mayStandB c (xk, xn, xs) = true := by simpa using hm
    unfold mayStandB at hm'
    simp only [Bool.and_eq_true, Bool.not_eq_true', beq_eq_false_iff_ne, beq_iff_eq] at hm'
    obtain ⟨⟨hc, hk⟩, hx⟩ := hm'
    simp only at h hk hx
    by_cases h3 : xk = 3
    · rw [if_pos h3] at h hx
      subst h3
      have hx0 : xn = 0 := by simpa using hx
      subst hx0
      have hnul : nulS xs = false := by
        cases hn : nulS xs with
        | false => rfl
        | true => rw [hn] at h; cases h
      have hW : wordsA (3, 0, xs) = textW xs := by simp [wordsA]
      unfold argI
      rw [hW, if_neg (by rintro (h | h)
                         · exact hc h
                         · rw [List.length_append, textW_len] at h; omega), if_pos hk.symm, textI_textW xs ys (nulS_false.1 hnul), textW_len]
      simp
    · rw [if_neg h3] at h hx
      have hx0 : xs = ⟨#[]⟩ := size_zero (by simpa using hx)
      subst hx0
      have hW : wordsA (xk, xn, ⟨#[]⟩) = [xn] := by simp [wordsA, h3]
      have hn0 : nth ([xn] ++ ys) 0 = xn := rfl
      unfold argI
      rw [hW, if_neg (by rintro (h | h)
                         · exact hc h
                         · simp at h), if_neg (by rw [← hk]; exact h3), hn0]
      unfold faultW at h
      rw [← hk] at h ⊢
      by_cases h1 : xk = 1
      · rw [if_pos h1] at h
        have hnb : noneB xn b = false := by
          cases hn : noneB xn b with
          | false => rfl
          | true => rw [hn] at h; cases h
        rw [if_neg (by rw [noneB_more hnb hb]; simp), if_neg (by omega)]
        rfl
      · rw [if_neg h1] at h
        rw [if_neg (by simp [h1])]
        by_cases h4 : xk = 4
        · rw [if_pos h4] at h
          have he : enumB c xn = true := by
            cases hn : enumB c xn with
            | true => rfl
            | false => rw [hn] at h; cases h
          rw [if_neg (by simp [he])]
          rfl
        · rw [if_neg (by simp [h4])]
          rfl

theorem nth_take1 (zs : List Int) (h : zs.length ≠ 0) : zs.take 1 = [nth zs 0] := by
  cases zs with
  | nil => simp at h
  | cons z zs => rfl

/-- The words of an argument that was read are those that it was read of. -/
theorem argI_back {c b : Int} {zs : List Int} (hw : Within 4294967296 zs) (h : (argI c zs b).2.2 = 0) : wrongA c (argI c zs b).1 b = 0 ∧ wordsA (argI c zs b).1 = zs.take (argI c zs b).2.1.toNat ∧ 1 ≤ (argI c zs b).2.1.toNat ∧ (argI c zs b).2.1.toNat ≤ zs.length := by
  unfold argI at h ⊢
  by_cases h0 : c = 0 ∨ zs.length = 0
  · rw [if_pos h0] at h; cases h
  · rw [if_neg h0] at h ⊢
    have hc : c ≠ 0 := fun e => h0 (.inl e)
    have hl : zs.length ≠ 0 := fun e => h0 (.inr e)
    by_cases h3 : kindI c = 3
    · rw [if_pos h3] at h ⊢
      simp only at h ⊢
      obtain ⟨e1, e2⟩ := textW_textI hw h
      obtain ⟨r1, r2, r3, r4, r5⟩ := textI_range zs
      have r3' := r3 h
      refine ⟨?_, ?_, by omega, by omega⟩
      · unfold wrongA mayStandB
        simp [hc, h3, nulS_false.2 e2]
      · unfold wordsA
        rw [if_pos rfl]; exact e1
    · rw [if_neg h3] at h ⊢
      by_cases h1 : kindI c = 1 ∧ noneB (nth zs 0) b = true
      · rw [if_pos h1] at h; cases h
      · rw [if_neg h1] at h ⊢
        by_cases h4 : kindI c = 4 ∧ enumB c (nth zs 0) = false
        · rw [if_pos h4] at h; cases h
        · rw [if_neg h4] at h ⊢
          simp only
          refine ⟨?_, ?_, by omega, by omega⟩
          · have hm : mayStandB c (kindI c, nth zs 0, ⟨#[]⟩) = true := by unfold mayStandB; simp [hc, h3, ByteArray.size]
            unfold wrongA
            rw [if_neg (by simp [hm]), if_neg h3]
            unfold faultW
            simp only
            by_cases k1 : kindI c = 1
            · rw [if_pos k1, if_neg (fun e => h1 ⟨k1, e⟩)]
            · rw [if_neg k1]
              by_cases k4 : kindI c = 4
              · rw [if_pos k4]
                have : enumB c (nth zs 0) = true := by
                  cases hn : enumB c (nth zs 0) with
                  | true => rfl
                  | false => exact absurd ⟨k4, hn⟩ h4
                rw [if_pos this]
              · rw [if_neg k4]
          · unfold wordsA
            rw [if_neg h3]
            exact (nth_take1 zs hl).symm

/-! ### all arguments -/

theorem wordsL_cons (x : ArgT) (l : List ArgT) : wordsL (x :: l) = wordsA x ++ wordsL l := rfl
theorem wordsA_pos (x : ArgT) : 1 ≤ (wordsA x).length := by rw [wordsA_len]; split <;> omega

theorem argsI_words (f : Frm) {b m : Int} (hb : b ≤ m) : ∀ (l acc : List ArgT) (fuel : Nat), wrongL f b acc.length l = 0 → wholeN f ((acc.length + l.length : Nat) : Int) = true → (wordsL l).length < fuel → argsI f m fuel (wordsL l) acc = (acc ++ l, 0)
  | [], acc, 0, _, _, hf => by omega
  | [], acc, fuel + 1, _, hw, _ => by
    rw [argsI, if_pos (by simp [wordsL]), if_pos (by simpa using hw), List.append_nil]
  | x :: l, acc, 0, _, _, hf => by omega
  | x :: l, acc, fuel + 1, h, hw, hf => by
    rw [wrongL] at h
    by_cases h0 : wrongA (letterI f acc.length) x b = 0
    · rw [if_pos h0] at h
      have hp := wordsA_pos x
      have ha := argI_words (wordsL l) h0 hb
      rw [wordsL_cons, List.length_append] at hf
      rw [wordsL_cons, argsI, if_neg (by rw [List.length_append]; omega), ha]
      simp only
      rw [if_neg (by simp), Int.toNat_natCast, List.drop_left]
      have := argsI_words f hb l (acc ++ [x]) fuel (by rw [List.length_append]; exact h) (by rw [List.length_append, List.length_singleton]; rw [List.length_cons] at hw; rw [show acc.length + 1 + l.length = acc.length + (l.length + 1) by omega]; exact hw) (by omega)
      rw [this, List.append_assoc]; rfl
    · rw [if_neg h0] at h; exact absurd h h0

theorem argsI_back (f : Frm) (b : Int) : ∀ (fuel : Nat) (zs : List Int) (acc : List ArgT), Within 4294967296 zs → (argsI f b fuel zs acc).2 = 0 → ∃ l, (argsI f b fuel zs acc).1 = acc ++ l ∧ wrongL f b acc.length l = 0 ∧ wordsL l = zs ∧ wholeN f ((acc.length + l.length : Nat) : Int) = true
  | 0, zs, acc, _, h => by rw [argsI] at h; cases h
  | fuel + 1, zs, acc, hw, h => by
    rw [argsI] at h ⊢
    by_cases h0 : zs.length = 0
    · rw [if_pos h0] at h ⊢
      by_cases h1 : wholeN f acc.length = true
      · rw [if_pos h1]
        exact ⟨[], by simp, rfl, by rw [List.eq_nil_of_length_eq_zero h0]; rfl, by simpa using h1⟩
      · rw [if_neg h1] at h; cases h
    · rw [if_neg h0] at h ⊢
      by_cases h1 : (argI (letterI f acc.length) zs b).2.2 = 0
      · rw [if_neg (by simp [h1])] at h ⊢
        obtain ⟨a1, a2, a3, a4⟩ := argI_back hw h1
        generalize argI (letterI f acc.length) zs b = r at *
        obtain ⟨l, e1, e2, e3, e4⟩ := argsI_back f b fuel _ _ (fun z hz => hw z (List.mem_of_mem_drop hz)) h
        refine ⟨r.1 :: l, by rw [e1, List.append_assoc]; rfl, ?_, ?_, ?_⟩
        · rw [wrongL, if_pos a1]
          rw [List.length_append] at e2; exact e2
        · rw [wordsL_cons, a2, e3, List.take_append_drop]
        · rw [List.length_append, List.length_singleton] at e4
          rw [List.length_cons, show acc.length + (l.length + 1) = acc.length + 1 + l.length by omega]; exact e4
      · rw [if_pos h1] at h; exact absurd h h1

/-! ### an instruction -/

theorem idE_zero {must : Bool} {n b e : Int} (he : e ≠ 0) (h : idE must n b e = 0) : (must = true → noneB n b = false) ∧ (must = false → n = 0) := by
  unfold idE at h
  cases must with
  | true =>
    refine ⟨fun _ => ?_, (fun h => by cases h)⟩
    by_cases h0 : n = 0
    · rw [if_pos (by simp [h0])] at h; exact absurd h he
    · rw [if_neg (by simp [h0])] at h
      by_cases h1 : b ≤ n
      · rw [if_pos (by simp [h1])] at h; cases h
      · unfold noneB; simp [h0, h1]
  | false =>
    refine ⟨(fun h => by cases h), fun _ => ?_⟩
    by_cases h0 : n = 0
    · exact h0
    · rw [if_pos (by simp [h0])] at h; exact absurd h he
theorem idE_none {n b e : Int} (h : noneB n b = false) : idE true n b e = 0 := by
  unfold noneB at h
  simp at h
  unfold idE
  simp [h.1]; omega
theorem idE_absent {b e : Int} : idE false 0 b e = 0 := by unfold idE; simp

theorem instI_words {x : InstT} {b m : Int} (h : rawE x b = 0) (hb : b ≤ m) : instI x.1 (rawWs x b) m = (x, 0) := by
  obtain ⟨h1, h2, h3⟩ := rawWs_ok h
  have hlen := rawWs_len x b
  obtain ⟨t1, t2, t3, t4, t5⟩ := faultI_zero h2
  obtain ⟨t1a, t1b⟩ := idE_zero (by decide) t1
  obtain ⟨t2a, t2b⟩ := idE_zero (by decide) t2
  unfold instI
  rw [if_neg (by omega), if_neg (by simp [h1]), h3]
  rw [h3] at hlen
  generalize (lookF refT x.1).1 = f at *
  obtain ⟨xo, xt, xr, xl⟩ := x
  simp only at *
  have hd : (rawL f (xo, xt, xr, xl)).drop (f.2.1.toNat + f.2.2.1.toNat) = wordsL xl := by
    unfold rawL headW
    simp only
    cases f.2.1 <;> cases f.2.2.1 <;> rfl
  have hty : headTy f.2.1 (rawL f (xo, xt, xr, xl)) m = (xt, 0) := by
    unfold headTy rawL headW
    simp only
    cases e1 : f.2.1 with
    | true =>
      have := noneB_more (t1a e1) hb
      simp [nth, this]
    | false => simp [t1b e1]
  have hre : headRes f.2.2.1 (rawL f (xo, xt, xr, xl)) m f.2.1.toNat = (xr, 0) := by
    unfold headRes rawL headW
    simp only
    cases e2 : f.2.2.1 with
    | true =>
      have := noneB_more (t2a e2) hb
      cases e1 : f.2.1 <;> simp [nth, this]
    | false => simp [t2b e2]
  have hargs : argsI f m ((rawL f (xo, xt, xr, xl)).length + 1) (wordsL xl) [] = (xl, 0) := by
    have := argsI_words f hb xl [] ((rawL f (xo, xt, xr, xl)).length + 1) (by simpa using t3) (by simpa using t4) (by unfold rawL; simp only [List.length_append]; omega)
    simpa using this
  unfold instF
  rw [hty, hre, hd, hargs]
  rfl

theorem headTy_zero {ty : Bool} {zs : List Int} {b : Int} (h : (headTy ty zs b).2 = 0) : idE ty (headTy ty zs b).1 b 40 = 0 ∧ (ty = true → 0 < zs.length ∧ (headTy ty zs b).1 = nth zs 0) ∧ (ty = false → (headTy ty zs b).1 = 0) := by
  cases ty with
  | false => exact ⟨idE_absent, (fun h => by cases h), fun _ => rfl⟩
  | true =>
    by_cases h1 : zs.length ≤ 0
    · have e : headTy true zs b = (0, 40) := by unfold headTy; rw [if_pos rfl, if_pos h1]
      rw [e] at h; cases h
    · have e : headTy true zs b = (nth zs 0, if noneB (nth zs 0) b then 43 else 0) := by unfold headTy; rw [if_pos rfl, if_neg h1]
      rw [e] at h ⊢
      have hn : noneB (nth zs 0) b = false := by
        cases hn : noneB (nth zs 0) b with
        | false => rfl
        | true => rw [hn] at h; cases h
      exact ⟨idE_none hn, fun _ => ⟨by omega, rfl⟩, (fun h => by cases h)⟩

theorem headRes_zero {re : Bool} {zs : List Int} {b : Int} {p : Nat} (h : (headRes re zs b p).2 = 0) : idE re (headRes re zs b p).1 b 41 = 0 ∧ (re = true → p < zs.length ∧ (headRes re zs b p).1 = nth zs p) ∧ (re = false → (headRes re zs b p).1 = 0) := by
  cases re with
  | false => exact ⟨idE_absent, (fun h => by cases h), fun _ => rfl⟩
  | true =>
    by_cases h1 : zs.length ≤ p
    · have e : headRes true zs b p = (0, 41) := by unfold headRes; rw [if_pos rfl, if_pos h1]
      rw [e] at h; cases h
    · have e : headRes true zs b p = (nth zs p, if noneB (nth zs p) b then 43 else 0) := by unfold headRes; rw [if_pos rfl, if_neg h1]
      rw [e] at h ⊢
      have hn : noneB (nth zs p) b = false := by
        cases hn : noneB (nth zs p) b with
        | false => rfl
        | true => rw [hn] at h; cases h
      exact ⟨idE_none hn, fun _ => ⟨by omega, rfl⟩, (fun h => by cases h)⟩

theorem instI_some {op b : Int} {zs : List Int} (h : (instI op zs b).2 = 0) : zs.length < 65535 ∧ (lookF refT op).2 = true ∧ instI op zs b = instF (lookF refT op).1 op zs b := by
  unfold instI at h ⊢
  by_cases h1 : 65535 ≤ zs.length
  · rw [if_pos h1] at h; cases h
  · rw [if_neg h1] at h ⊢
    by_cases h2 : (lookF refT op).2 = false
    · rw [if_pos h2] at h; cases h
    · rw [if_neg h2]
      exact ⟨by omega, by simpa using h2, rfl⟩
theorem instF_none {f : Frm} {op b : Int} {zs : List Int} (h : (instF f op zs b).2 ≠ 0) : (instF f op zs b).1 = noInst := by
  unfold instF at h ⊢
  split
  · rfl
  · split
    · rfl
    · split
      · rfl
      · rename_i h1 h2 h3
        rw [if_neg h1, if_neg h2, if_neg h3] at h
        exact absurd rfl h
theorem instI_none {op b : Int} {zs : List Int} (h : (instI op zs b).2 ≠ 0) : (instI op zs b).1 = noInst := by
  unfold instI at h ⊢
  split
  · rfl
  · split
    · rfl
    · rename_i h1 h2
      rw [if_neg h1, if_neg h2] at h
      exact instF_none h

/-- The words of the instruction that words say. -/
theorem rawE_instI {op b : Int} {zs : List Int} (hw : Within 4294967296 zs) (h : (instI op zs b).2 = 0) : (instI op zs b).1.1 = op ∧ rawE (instI op zs b).1 b = 0 ∧ rawWs (instI op zs b).1 b = zs := by
  obtain ⟨h1, h2, h3⟩ := instI_some h
  rw [h3] at h ⊢
  generalize hf : (lookF refT op).1 = f at *
  unfold instF at h ⊢
  by_cases k1 : (headTy f.2.1 zs b).2 = 0
  · rw [if_neg (by simp [k1])] at h ⊢
    by_cases k2 : (headRes f.2.2.1 zs b f.2.1.toNat).2 = 0
    · rw [if_neg (by simp [k2])] at h ⊢
      by_cases k3 : (argsI f b (zs.length + 1) (zs.drop (f.2.1.toNat + f.2.2.1.toNat)) []).2 = 0
      · rw [if_neg (by simp [k3])] at h ⊢
        obtain ⟨l, e1, e2, e3, e4⟩ := argsI_back f b _ _ _ (fun z hz => hw z (List.mem_of_mem_drop hz)) k3
        rw [e1]
        simp only [List.nil_append] at *
        obtain ⟨u1, u2, u3⟩ := headTy_zero k1
        obtain ⟨v1, v2, v3⟩ := headRes_zero k2
        generalize (headTy f.2.1 zs b).1 = t at *
        generalize (headRes f.2.2.1 zs b f.2.1.toNat).1 = r at *
        have hz : rawL f (op, t, r, l) = zs := by
          unfold rawL headW
          simp only
          rw [e3]
          cases c1 : f.2.1 with
          | true =>
            obtain ⟨q1, q2⟩ := u2 c1
            rw [c1] at v2
            cases c2 : f.2.2.1 with
            | true =>
              obtain ⟨q3, q4⟩ := v2 c2
              subst q2 q4
              match zs, q1, q3 with
              | a :: b :: zs, _, _ => rfl
            | false =>
              subst q2
              match zs, q1 with
              | a :: zs, _ => rfl
          | false =>
            rw [c1] at v2
            cases c2 : f.2.2.1 with
            | true =>
              obtain ⟨q3, q4⟩ := v2 c2
              subst q4
              match zs, q3 with
              | a :: zs, _ => rfl
            | false => rfl
        have hE : rawE (op, t, r, l) b = 0 := by
          unfold rawE
          simp only
          rw [if_pos h2, hf]
          unfold faultI
          simp only
          rw [if_neg (by simp [u1]), if_neg (by simp [v1]), if_neg (by simpa using e2), if_neg (by simpa using e4), hz, if_neg (by omega)]
        refine ⟨by trivial, hE, ?_⟩
        unfold rawWs
        rw [if_pos hE]
        simp only
        rw [hf, hz]
      · rw [if_pos k3] at h; exact absurd h k3
    · rw [if_pos k2] at h; exact absurd h k2
  · rw [if_pos k1] at h; exact absurd h k1

/-- By a greater bound it has the same words. -/
theorem wrongA_more {c b m : Int} {x : ArgT} (h : wrongA c x b = 0) (hb : b ≤ m) : wrongA c x m = 0 := by
  unfold wrongA at h ⊢
  split at h
  · cases h
  · rename_i h1
    rw [if_neg h1]
    split at h
    · rename_i h2
      rw [if_pos h2]; exact h
    · rename_i h2
      rw [if_neg h2]
      unfold faultW at h ⊢
      by_cases k1 : kindI c = 1
      · rw [if_pos k1] at h ⊢
        have hn : noneB x.2.1 b = false := by
          cases hn : noneB x.2.1 b with
          | false => rfl
          | true => rw [hn] at h; cases h
        rw [noneB_more hn hb]; rfl
      · rw [if_neg k1] at h ⊢; exact h
theorem wrongL_more (f : Frm) {b m : Int} (hb : b ≤ m) : ∀ (l : List ArgT) (k : Nat), wrongL f b k l = 0 → wrongL f m k l = 0
  | [], _, _ => rfl
  | x :: l, k, h => by
    rw [wrongL] at h ⊢
    by_cases h0 : wrongA (letterI f k) x b = 0
    · rw [if_pos h0] at h
      rw [if_pos (wrongA_more h0 hb)]
      exact wrongL_more f hb l _ h
    · rw [if_neg h0] at h; exact absurd h h0
theorem idE_more {must : Bool} {n b m e : Int} (he : e ≠ 0) (hb : b ≤ m) (h : idE must n b e = 0) : idE must n m e = 0 := by
  obtain ⟨h1, h2⟩ := idE_zero he h
  cases must with
  | true => exact idE_none (noneB_more (h1 rfl) hb)
  | false => rw [h2 rfl]; exact idE_absent
theorem raw_more {x : InstT} {b m : Int} (h : rawE x b = 0) (hb : b ≤ m) : rawE x m = 0 ∧ rawWs x m = rawWs x b := by
  obtain ⟨h1, h2, h3⟩ := rawWs_ok h
  obtain ⟨t1, t2, t3, t4, t5⟩ := faultI_zero h2
  have hE : rawE x m = 0 := by
    unfold rawE
    rw [if_pos h1]
    unfold faultI
    rw [if_neg (by simp [idE_more (by decide) hb t1]), if_neg (by simp [idE_more (by decide) hb t2]), if_neg (by simp [wrongL_more _ hb _ _ t3]), if_neg (by simp [t4]), if_neg (by omega)]
  refine ⟨hE, ?_⟩
  rw [h3]
  unfold rawWs
  rw [if_pos hE]

end Go.Proofs.Ytpggcpnjcalfaab

/-
  What is read is written as it was, and its instructions lie one behind the other: on lists.
-/
namespace Go.Proofs.Ytpggcpnjcalfaab
open Go.RowKit

theorem readR_len (zs : List Int) : (readR zs).length = (rest zs 5).length := by simp [readR]

theorem headE_ok (zs : List Int) (h : (headE zs 0).1 = 0) : 5 ≤ zs.length ∧ zs.take 5 = [119734787, 65536, nth zs 2, nth zs 3, 0] ∧ nth zs 3 ≠ 0 ∧ ¬ 65536 < nth zs 3 := by
  by_cases l0 : zs.length ≤ 0
  · rw [headE_step _ 0 (by omega), if_pos l0] at h; simp at h
  by_cases w0 : wrongE 0 (nth zs 0) ≠ 0
  · rw [headE_step _ 0 (by omega), if_neg l0, if_pos w0] at h; exact absurd h w0
  rw [headE_step _ 0 (by omega), if_neg l0, if_neg w0] at h
  by_cases l1 : zs.length ≤ 1
  · rw [headE_step _ 1 (by omega), if_pos l1] at h; simp at h
  by_cases w1 : wrongE 1 (nth zs 1) ≠ 0
  · rw [headE_step _ 1 (by omega), if_neg l1, if_pos w1] at h; exact absurd h w1
  rw [headE_step _ 1 (by omega), if_neg l1, if_neg w1] at h
  by_cases l2 : zs.length ≤ 2
  · rw [headE_step _ 2 (by omega), if_pos l2] at h; simp at h
  by_cases w2 : wrongE 2 (nth zs 2) ≠ 0
  · rw [headE_step _ 2 (by omega), if_neg l2, if_pos w2] at h; exact absurd h w2
  rw [headE_step _ 2 (by omega), if_neg l2, if_neg w2] at h
  by_cases l3 : zs.length ≤ 3
  · rw [headE_step _ 3 (by omega), if_pos l3] at h; simp at h
  by_cases w3 : wrongE 3 (nth zs 3) ≠ 0
  · rw [headE_step _ 3 (by omega), if_neg l3, if_pos w3] at h; exact absurd h w3
  rw [headE_step _ 3 (by omega), if_neg l3, if_neg w3] at h
  by_cases l4 : zs.length ≤ 4
  · rw [headE_step _ 4 (by omega), if_pos l4] at h; simp at h
  by_cases w4 : wrongE 4 (nth zs 4) ≠ 0
  · rw [headE_step _ 4 (by omega), if_neg l4, if_pos w4] at h; exact absurd h w4
  have w0' : wrongE 0 (nth zs 0) = 0 := Decidable.not_not.1 w0
  have w1' : wrongE 1 (nth zs 1) = 0 := Decidable.not_not.1 w1
  have w3' : wrongE 3 (nth zs 3) = 0 := Decidable.not_not.1 w3
  have w4' : wrongE 4 (nth zs 4) = 0 := Decidable.not_not.1 w4
  have e0 : nth zs 0 = 119734787 := by
    unfold wrongE at w0'; rw [if_pos rfl] at w0'
    split at w0'
    · simp at w0'
    · split at w0'
      · assumption
      · simp at w0'
  have e1 : nth zs 1 = 65536 := by
    unfold wrongE at w1'; rw [if_neg (by omega), if_pos rfl] at w1'
    split at w1'
    · assumption
    · simp at w1'
  have e3 : nth zs 3 ≠ 0 ∧ ¬ 65536 < nth zs 3 := by
    unfold wrongE at w3'; rw [if_neg (by omega), if_neg (by omega), if_pos rfl] at w3'
    split at w3'
    · simp at w3'
    · split at w3'
      · simp at w3'
      · exact ⟨by assumption, by assumption⟩
  have e4 : nth zs 4 = 0 := by
    unfold wrongE at w4'; rw [if_neg (by omega), if_neg (by omega), if_neg (by omega), if_pos rfl] at w4'
    split at w4'
    · assumption
    · simp at w4'
  refine ⟨by omega, ?_, e3.1, e3.2⟩
  rw [take_snoc zs 4 (by omega), take_snoc zs 3 (by omega), take_snoc zs 2 (by omega), take_snoc zs 1 (by omega), take_snoc zs 0 (by omega), e0, e1, e4]
  rfl

theorem readE_ok (zs : List Int) (h : (readE zs).1 = 0) : zs.length ≤ 1048576 ∧ (headE zs 0).1 = 0 ∧ zs.length ≤ stop zs 5 := by
  unfold readE at h
  by_cases h1 : 1048576 < zs.length
  · rw [if_pos h1] at h; simp at h
  · rw [if_neg h1] at h
    by_cases h2 : (headE zs 0).1 ≠ 0
    · rw [if_pos h2] at h; exact absurd h h2
    · rw [if_neg h2] at h
      by_cases h3 : stop zs 5 < zs.length
      · rw [if_pos h3] at h; simp at h
      · exact ⟨by omega, Decidable.not_not.1 h2, by omega⟩

theorem rest_nil_stop (zs : List Int) (p : Nat) (h : rest zs p = []) : stop zs p = p := by
  by_cases hp : p < zs.length
  · cases hb : badB zs p with
    | true => exact stop_bad zs p hp hb
    | false => rw [rest_go zs p hp hb] at h; simp at h
  · exact stop_end zs p (by omega)

theorem rest_cons_at (zs : List Int) (p q : Nat) (l : List Nat) (h : rest zs p = q :: l) : p = q ∧ p < zs.length ∧ badB zs p = false ∧ rest zs (p + cntN zs p) = l := by
  by_cases hp : p < zs.length
  · cases hb : badB zs p with
    | true => rw [rest_bad zs p hp hb] at h; simp at h
    | false =>
      rw [rest_go zs p hp hb] at h
      injection h with h1 h2
      exact ⟨h1, hp, rfl, h2⟩
  · rw [rest_end zs p (by omega)] at h; simp at h

theorem rawW_at (zs : List Int) (hw : Within 4294967296 zs) (p : Nat) (hp : p < zs.length) (hb : badB zs p = false) : zs.take p ++ rawW (rawAt zs p) = zs.take (p + cntN zs p) := by
  have h1 := cnt_pos hb
  have h2 := cnt_fits hb
  have hx : 0 ≤ nth zs p := (hw.at hp).1
  have hl : (midL zs (p + 1) (cntN zs p - 1)).length = cntN zs p - 1 := midL_len zs _ _ (by omega)
  have hv : (((rawAt zs p).2.length : Int) + 1) * 65536 + (rawAt zs p).1 = nth zs p := by
    show (((midL zs (p + 1) (cntN zs p - 1)).length : Int) + 1) * 65536 + opI zs p = _
    rw [hl]
    have := cntN_int zs p hx
    unfold opI
    omega
  have e : zs.take (p + cntN zs p) = zs.take (p + 1) ++ midL zs (p + 1) (cntN zs p - 1) := by
    rw [show p + cntN zs p = (p + 1) + (cntN zs p - 1) by omega, List.take_add]; rfl
  rw [e, take_snoc zs p hp, rawW, hv, List.append_assoc]
  rfl

/-- The k-th place is how many words stand ahead of it; they are the words that are written. -/
theorem back_to (zs : List Int) (hw : Within 4294967296 zs) (hh : (headE zs 0).1 = 0) : ∀ k, k ≤ (rest zs 5).length →
    sizeTo (readR zs) k ≤ zs.length ∧ rest zs (sizeTo (readR zs) k) = (rest zs 5).drop k ∧ stop zs (sizeTo (readR zs) k) = stop zs 5 ∧ writeTo (nth zs 2) (nth zs 3) (readR zs) k = zs.take (sizeTo (readR zs) k)
  | 0, _ => by
    obtain ⟨h1, h2, _⟩ := headE_ok zs hh
    rw [sizeTo_zero]
    exact ⟨h1, rfl, rfl, by rw [h2]; simp [writeTo]⟩
  | k + 1, hk => by
    obtain ⟨i1, i2, i3, i4⟩ := back_to zs hw hh k (by omega)
    have hc : (rest zs 5).drop k = (rest zs 5).getD k 0 :: (rest zs 5).drop (k + 1) := by
      rw [List.drop_eq_getElem_cons (by omega)]; simp [List.getD, show k < (rest zs 5).length by omega]
    rw [hc] at i2
    obtain ⟨e, hp, hb, hn⟩ := rest_cons_at zs _ _ _ i2
    have hkr : k < (readR zs).length := by rw [readR_len]; omega
    have hr : nthR (readR zs) k = rawAt zs (sizeTo (readR zs) k) := by
      rw [e]; unfold readR; exact nthR_map _ _ _ (by omega)
    have h1 := cnt_pos hb
    have h2 := cnt_fits hb
    have hs : sizeTo (readR zs) (k + 1) = sizeTo (readR zs) k + cntN zs (sizeTo (readR zs) k) := by
      rw [sizeTo_succ _ _ hkr, hr]
      show _ + 1 + (midL zs _ _).length = _
      rw [midL_len zs _ _ (by omega)]; omega
    rw [hs]
    refine ⟨h2, hn, ?_, ?_⟩
    · rw [← stop_go zs _ hp hb]; exact i3
    · rw [writeTo_succ _ _ _ _ hkr, i4, hr]; exact rawW_at zs hw _ hp hb

/-- The k-th place. -/
theorem place_at (zs : List Int) (hw : Within 4294967296 zs) (hh : (headE zs 0).1 = 0) (k : Nat) (hk : k < (rest zs 5).length) : (rest zs 5).getD k 0 = sizeTo (readR zs) k := by
  obtain ⟨_, i2, _, _⟩ := back_to zs hw hh k (by omega)
  have hc : (rest zs 5).drop k = (rest zs 5).getD k 0 :: (rest zs 5).drop (k + 1) := by
    rw [List.drop_eq_getElem_cons (by omega)]; simp [List.getD, hk]
  rw [hc] at i2
  exact (rest_cons_at zs _ _ _ i2).1.symm

theorem back_fault (zs : List Int) (hw : Within 4294967296 zs) (hh : (headE zs 0).1 = 0) (hl : zs.length ≤ 1048576) : ∀ d k, (readR zs).length - k = d → fault (readR zs) k = (0, 0)
  | 0, k, h => fault_end _ _ (by omega)
  | d + 1, k, h => by
    have hk : k < (readR zs).length := by omega
    have hk' : k < (rest zs 5).length := by rw [← readR_len]; exact hk
    rw [fault_step _ _ hk, if_neg, if_neg, back_fault zs hw hh hl d (k + 1) (by omega)]
    · have := (back_to zs hw hh (k + 1) (by omega)).1; omega
    · have hr : nthR (readR zs) k = rawAt zs ((rest zs 5).getD k 0) := by unfold readR; exact nthR_map _ _ _ hk'
      obtain ⟨_, h2, h3⟩ := rest_mem zs 5 ((rest zs 5).getD k 0) (by simp [List.getD, hk'])
      have hx := (hw.at h2).2
      have h4 := cnt_fits h3
      have h5 := cnt_pos h3
      rw [hr]
      show ¬ 65535 ≤ (midL zs _ _).length
      rw [midL_len zs _ _ (by omega)]
      unfold cntN at *
      omega

/-- What is read is written as it was. -/
theorem write_read (zs : List Int) (hw : Within 4294967296 zs) (h : (readE zs).1 = 0) :
    5 ≤ zs.length ∧ nth zs 3 ≠ 0 ∧ ¬ 65536 < nth zs 3 ∧ fault (readR zs) 0 = (0, 0) ∧ sizeTo (readR zs) (readR zs).length = zs.length ∧ writeTo (nth zs 2) (nth zs 3) (readR zs) (readR zs).length = zs := by
  obtain ⟨h1, h2, h3⟩ := readE_ok zs h
  obtain ⟨h4, _, h5, h6⟩ := headE_ok zs h2
  obtain ⟨i1, i2, i3, i4⟩ := back_to zs hw h2 (rest zs 5).length (Nat.le_refl _)
  rw [List.drop_length] at i2
  have hs : sizeTo (readR zs) (rest zs 5).length = zs.length := by
    have := rest_nil_stop zs _ i2
    omega
  rw [readR_len]
  refine ⟨h4, h5, h6, back_fault zs hw h2 h1 _ 0 rfl, hs, ?_⟩
  rw [i4, hs, List.take_length]

theorem sizeTo_lt (rs : List (Int × List Int)) : ∀ k j, j < k → k ≤ rs.length → sizeTo rs j < sizeTo rs k
  | 0, j, h, _ => by omega
  | k + 1, j, h, hk => by
    rw [sizeTo_succ rs k (by omega)]
    by_cases e : j = k
    · subst e; omega
    · have := sizeTo_lt rs k j (by omega) (by omega); omega

/-- The k-th instruction: its place, its operation, its words; and Find finds it. -/
theorem told_at (zs : List Int) (hw : Within 4294967296 zs) (h : (readE zs).1 = 0) (k : Nat) (hk : k < (readR zs).length) :
    (rest zs 5).getD k 0 = sizeTo (readR zs) k ∧ opI zs (sizeTo (readR zs) k) = (nthR (readR zs) k).1 ∧ midL zs (sizeTo (readR zs) k + 1) (cntN zs (sizeTo (readR zs) k) - 1) = (nthR (readR zs) k).2 ∧ cntN zs (sizeTo (readR zs) k) = (nthR (readR zs) k).2.length + 1 ∧ sizeTo (readR zs) k < zs.length := by
  have hh := (readE_ok zs h).2.1
  have hk' : k < (rest zs 5).length := by rw [← readR_len]; exact hk
  have e := place_at zs hw hh k hk'
  have hr : nthR (readR zs) k = rawAt zs (sizeTo (readR zs) k) := by rw [← e]; unfold readR; exact nthR_map _ _ _ hk'
  obtain ⟨_, h2, h3⟩ := rest_mem zs 5 ((rest zs 5).getD k 0) (by simp [List.getD, hk'])
  rw [e] at h2 h3
  have h4 := cnt_fits h3
  have h5 := cnt_pos h3
  rw [hr]
  refine ⟨e, rfl, rfl, ?_, h2⟩
  show _ = (midL zs _ _).length + 1
  rw [midL_len zs _ _ (by omega)]; omega

/-- Find finds each instruction at its place. -/
theorem find_there (zs : List Int) (k : Nat) (hk : k < (rest zs 5).length) (hinc : ∀ j, j < k → (rest zs 5).getD j 0 < (rest zs 5).getD k 0) :
    findAt zs (opI zs ((rest zs 5).getD k 0)) ((rest zs 5).getD k 0) = (((rest zs 5).getD k 0 : Nat) : Int) ∧ findIs zs (opI zs ((rest zs 5).getD k 0)) ((rest zs 5).getD k 0) = true := by
  have h : findP zs (opI zs ((rest zs 5).getD k 0)) (((rest zs 5).getD k 0 : Nat) : Int) = some ((rest zs 5).getD k 0) := by
    unfold findP
    refine find_at _ _ k hk (fun j hj => ?_) ?_
    · have := hinc j hj
      generalize (rest zs 5).getD j 0 = x at *
      generalize (rest zs 5).getD k 0 = y at *
      have hd : decide ((y : Int) ≤ (x : Int)) = false := decide_eq_false (by omega)
      unfold isAt
      rw [hd]; rfl
    · unfold isAt
      rw [decide_eq_true (Int.le_refl _)]; simp
  exact ⟨findAt_some h, findIs_some h⟩

theorem find_told (zs : List Int) (hw : Within 4294967296 zs) (h : (readE zs).1 = 0) (k : Nat) (hk : k < (readR zs).length) :
    findAt zs (nthR (readR zs) k).1 (sizeTo (readR zs) k : Nat) = (sizeTo (readR zs) k : Nat) ∧ findIs zs (nthR (readR zs) k).1 (sizeTo (readR zs) k : Nat) = true := by
  have hh := (readE_ok zs h).2.1
  have hk' : k < (rest zs 5).length := by rw [← readR_len]; exact hk
  obtain ⟨t1, t2, _⟩ := told_at zs hw h k hk
  have := find_there zs k hk' (fun j hj => by
    rw [t1, place_at zs hw hh j (by omega)]
    exact sizeTo_lt _ k j hj (by omega))
  rw [t1, t2] at this
  exact this

end Go.Proofs.Ytpggcpnjcalfaab

/-
  Plain facts on bytes that say a module: what Decode answers, as functions of the bytes; bytes to module and back, and the other way.
-/
namespace Go.Proofs.Ytpggcpnjcalfaab
open Go.RowKit
set_option linter.unusedVariables false

/-- The instruction at a place of words. -/
def instAt (zs : List Int) (b : Int) (p : Nat) : InstT × Int := instI (rawAt zs p).1 (rawAt zs p).2 b
/-- The first one that is wrong. -/
def decF (zs : List Int) (b : Int) : List Nat → Int × Nat
  | [] => (0, 0)
  | p :: ps => if (instAt zs b p).2 ≠ 0 then ((instAt zs b p).2, p) else decF zs b ps
/-- What is wrong with bytes. -/
def decE (bs : List Int) : Int × Nat :=
  if splitErr bs ≠ 0 then (splitErr bs, 0) else if (readE (splitL bs)).1 ≠ 0 then readE (splitL bs) else decF (splitL bs) (nth (splitL bs) 3) (rest (splitL bs) 5)
/-- The module's instructions. -/
def instsAt (zs : List Int) (b : Int) (ps : List Nat) : List InstT := ps.map fun p => (instAt zs b p).1
def decL (bs : List Int) : List InstT := if (decE bs).1 = 0 then instsAt (splitL bs) (nth (splitL bs) 3) (rest (splitL bs) 5) else []
def decH (bs : List Int) (i : Nat) : Int := if (decE bs).1 = 0 then nth (splitL bs) i else 0

theorem decF_app (zs : List Int) (b : Int) : ∀ (l m : List Nat), (∀ p ∈ l, (instAt zs b p).2 = 0) → decF zs b (l ++ m) = decF zs b m
  | [], m, _ => rfl
  | p :: l, m, h => by
    rw [List.cons_append, decF, if_neg (by simp [h p (by simp)])]
    exact decF_app zs b l m fun q hq => h q (by simp [hq])
theorem decF_all (zs : List Int) (b : Int) (l : List Nat) (h : ∀ p ∈ l, (instAt zs b p).2 = 0) : decF zs b l = (0, 0) := by
  have := decF_app zs b l [] h
  simpa [decF] using this
theorem decF_any (zs : List Int) (b : Int) : ∀ l : List Nat, (decF zs b l = (0, 0) ∧ ∀ p ∈ l, (instAt zs b p).2 = 0) ∨ (decF zs b l).1 ≠ 0
  | [] => .inl ⟨rfl, fun p hp => by simp at hp⟩
  | p :: l => by
    rw [decF]
    by_cases h : (instAt zs b p).2 = 0
    · rw [if_neg (by simp [h])]
      rcases decF_any zs b l with ⟨h1, h2⟩ | h1
      · refine .inl ⟨h1, fun q hq => ?_⟩
        rcases List.mem_cons.1 hq with rfl | hq
        · exact h
        · exact h2 q hq
      · exact .inr h1
    · rw [if_pos h]; exact .inr h
theorem readE_any (zs : List Int) : readE zs = (0, 0) ∨ (readE zs).1 ≠ 0 := by
  by_cases h : (readE zs).1 = 0
  · left
    obtain ⟨h1, h2, h3⟩ := readE_ok zs h
    unfold readE
    rw [if_neg (by omega), if_neg (by simp [h2]), if_neg (by omega)]
  · exact .inr h
theorem splitErr_range (bs : List Int) : splitErr bs = 0 ∨ splitErr bs ≠ 0 := by
  by_cases h : splitErr bs = 0
  · exact .inl h
  · exact .inr h
theorem decE_any (bs : List Int) : decE bs = (0, 0) ∨ (decE bs).1 ≠ 0 := by
  unfold decE
  by_cases h1 : splitErr bs = 0
  · rw [if_neg (by simp [h1])]
    by_cases h2 : (readE (splitL bs)).1 = 0
    · rw [if_neg (by simp [h2])]
      rcases decF_any (splitL bs) (nth (splitL bs) 3) (rest (splitL bs) 5) with ⟨h, _⟩ | h
      · exact .inl h
      · exact .inr h
    · rw [if_pos h2]; exact .inr h2
  · rw [if_pos h1]; exact .inr h1
/-- What was decoded. -/
theorem decE_ok {bs : List Int} (h : (decE bs).1 = 0) : splitErr bs = 0 ∧ (readE (splitL bs)).1 = 0 ∧ (∀ p ∈ rest (splitL bs) 5, (instAt (splitL bs) (nth (splitL bs) 3) p).2 = 0) ∧ decL bs = instsAt (splitL bs) (nth (splitL bs) 3) (rest (splitL bs) 5) ∧ decH bs 2 = nth (splitL bs) 2 ∧ decH bs 3 = nth (splitL bs) 3 := by
  have h0 := h
  unfold decE at h0
  by_cases h1 : splitErr bs = 0
  · rw [if_neg (by simp [h1])] at h0
    by_cases h2 : (readE (splitL bs)).1 = 0
    · rw [if_neg (by simp [h2])] at h0
      rcases decF_any (splitL bs) (nth (splitL bs) 3) (rest (splitL bs) 5) with ⟨h3, h4⟩ | h3
      · exact ⟨h1, h2, h4, by unfold decL; rw [if_pos h], by unfold decH; rw [if_pos h], by unfold decH; rw [if_pos h]⟩
      · exact absurd h0 h3
    · rw [if_pos h2] at h0; exact absurd h0 h2
  · rw [if_pos h1] at h0; exact absurd h0 h1

theorem rawAt_within {zs : List Int} (hw : Within 4294967296 zs) (p : Nat) : Within 4294967296 (rawAt zs p).2 := by
  intro z hz
  unfold rawAt midL at hz
  exact hw z (List.mem_of_mem_drop (List.mem_of_mem_take hz))

/-! ### what is read lies within its bounds -/

theorem argI_ok {c b : Int} {zs : List Int} (hw : Within 4294967296 zs) (hl : zs.length ≤ 1048576) : ArgOk (argI c zs b).1 := by
  have h0 : ArgOk noArg := ⟨by decide, by decide, by decide, by decide, by decide⟩
  unfold argI
  split
  · exact h0
  · rename_i h1
    split
    · have h2 := (textI_range zs).2.2.2.2
      exact ⟨by simp, by simp, by simp, by simp, by simp only; omega⟩
    · split
      · exact h0
      · split
        · exact h0
        · have hk := kindI_range c
          have hn := hw.at (k := 0) (by omega)
          exact ⟨by simp only; omega, by simp only; omega, hn.1, hn.2, by simp [ByteArray.size]⟩
theorem argsI_ok (f : Frm) (b : Int) : ∀ (fuel : Nat) (zs : List Int) (acc : List ArgT), Within 4294967296 zs → zs.length ≤ 1048576 → ArgsOk acc → ArgsOk (argsI f b fuel zs acc).1 ∧ (argsI f b fuel zs acc).1.length ≤ acc.length + fuel
  | 0, zs, acc, _, _, _ => by rw [argsI]; exact ⟨argsOk_nil, by simp⟩
  | fuel + 1, zs, acc, hw, hl, ha => by
    rw [argsI]
    split
    · split
      · exact ⟨ha, by simp only; omega⟩
      · exact ⟨argsOk_nil, by simp⟩
    · split
      · exact ⟨argsOk_nil, by simp⟩
      · have := argsI_ok f b fuel (zs.drop (argI (letterI f acc.length) zs b).2.1.toNat) (acc ++ [(argI (letterI f acc.length) zs b).1]) (fun z hz => hw z (List.mem_of_mem_drop hz)) (by rw [List.length_drop]; omega) (argsOk_push ha (argI_ok hw hl))
        refine ⟨this.1, ?_⟩
        have h2 := this.2
        rw [List.length_append, List.length_singleton] at h2
        omega
theorem instI_ok {op b : Int} {zs : List Int} (ho0 : 0 ≤ op) (ho1 : op < 65536) (hw : Within 4294967296 zs) : InstOk (instI op zs b).1 := by
  have h0 : InstOk noInst := ⟨by decide, by decide, by decide, by decide, by decide, by decide, argsOk_nil, by decide⟩
  unfold instI
  by_cases h1 : 65535 ≤ zs.length
  · rw [if_pos h1]; exact h0
  · rw [if_neg h1]
    split
    · exact h0
    · generalize (lookF refT op).1 = f
      unfold instF
      split
      · exact h0
      · split
        · exact h0
        · split
          · exact h0
          · have ha := argsI_ok f b (zs.length + 1) (zs.drop (f.2.1.toNat + f.2.2.1.toNat)) [] (fun z hz => hw z (List.mem_of_mem_drop hz)) (by rw [List.length_drop]; omega) argsOk_nil
            have hty : 0 ≤ (headTy f.2.1 zs b).1 ∧ (headTy f.2.1 zs b).1 < 4294967296 := by
              unfold headTy
              split
              · split
                · simp
                · exact hw.at (by omega)
              · simp
            have hre : 0 ≤ (headRes f.2.2.1 zs b f.2.1.toNat).1 ∧ (headRes f.2.2.1 zs b f.2.1.toNat).1 < 4294967296 := by
              unfold headRes
              split
              · split
                · simp
                · exact hw.at (by omega)
              · simp
            refine ⟨ho0, ho1, hty.1, hty.2, hre.1, hre.2, ha.1, ?_⟩
            have := ha.2
            simp only [List.length_nil, Nat.zero_add] at this ⊢
            omega
theorem instAt_ok {zs : List Int} (hw : Within 4294967296 zs) (b : Int) (p : Nat) : InstOk (instAt zs b p).1 := instI_ok (opI_lo _ _) (opI_hi _ _) (rawAt_within hw p)
theorem instsAt_ok {zs : List Int} (hw : Within 4294967296 zs) (b : Int) (ps : List Nat) : InstsOk (instsAt zs b ps) := by
  intro j hj
  rw [nthI_lt _ _ hj]
  simp only [instsAt, List.getElem_map]
  exact instAt_ok hw b _
theorem decL_ok {bs : List Int} (hw : Within 256 bs) : InstsOk (decL bs) := by
  unfold decL
  split
  · exact instsAt_ok (splitL_within bs hw) _ _
  · exact instsOk_nil
theorem decL_len {bs : List Int} : (decL bs).length ≤ 1048576 := by
  by_cases h : (decE bs).1 = 0
  · obtain ⟨h1, h2, h3, h4, _⟩ := decE_ok h
    have h5 := (readE_ok _ h2).1
    have h6 := rest_len (splitL bs) 5
    rw [h4]; simp only [instsAt, List.length_map]; omega
  · unfold decL; rw [if_neg h]; simp
theorem nth_range32 {zs : List Int} (hw : Within 4294967296 zs) (i : Nat) : 0 ≤ nth zs i ∧ nth zs i < 4294967296 := by
  by_cases h : i < zs.length
  · exact hw.at h
  · simp [nth, List.getD, List.getElem?_eq_none (by omega : zs.length ≤ i)]
theorem decH_range {bs : List Int} (hw : Within 256 bs) (i : Nat) : 0 ≤ decH bs i ∧ decH bs i < 4294967296 := by
  unfold decH
  split
  · exact nth_range32 (splitL_within bs hw) i
  · simp

end Go.Proofs.Ytpggcpnjcalfaab

/-
  Plain facts: bytes to module and back are the bytes; modules to bytes and back are the modules.
-/
namespace Go.Proofs.Ytpggcpnjcalfaab
open Go.RowKit
set_option linter.unusedVariables false

theorem shape_faultF (b : Int) (l : List InstT) (hE : ∀ k, k < l.length → rawE (nthI l k) b = 0) : ∀ d k, l.length - k = d → fault (rawsL b l) k = (0, 0) → shapeF b k (sizeTo (rawsL b l) k) (l.drop k) = (0, 0)
  | 0, k, hd, _ => shape_end b l k _ (by omega)
  | d + 1, k, hd, h => by
    have hk : k < l.length := by omega
    rw [shape_step b l k hk, if_neg (by simp [hE k hk])]
    rw [fault_step _ _ (by rw [rawsL_len]; exact hk), nthR_raws b l k hk] at h
    have hs := rawWs_len (nthI l k) b
    rw [if_neg (by simp only; omega)] at h
    by_cases h2 : 1048576 < sizeTo (rawsL b l) (k + 1)
    · rw [if_pos h2] at h; cases h
    · rw [if_neg h2] at h ⊢
      exact shape_faultF b l hE d (k + 1) (by omega) h
theorem shape_of_fault {b : Int} {l : List InstT} (h0 : ¬ b = 0) (h1 : ¬ 65536 < b) (hE : ∀ k, k < l.length → rawE (nthI l k) b = 0) (h : fault (rawsL b l) 0 = (0, 0)) : shapeE b l = (0, 0) := by
  unfold shapeE
  rw [if_neg (by rintro (h | h)
                 · exact h0 h
                 · exact h1 h)]
  exact shape_faultF b l hE _ 0 rfl h

theorem split_len {bs : List Int} (h : splitErr bs = 0) : bs.length ≤ 4194304 ∧ bs.length % 4 = 0 := by
  unfold splitErr at h
  by_cases h1 : 4194304 < bs.length
  · rw [if_pos h1] at h; cases h
  · rw [if_neg h1] at h
    by_cases h2 : bs.length % 4 = 0
    · exact ⟨by omega, h2⟩
    · rw [if_neg h2] at h; cases h

/-- THE BYTES. -/
theorem enc_dec {bs : List Int} (hw : Within 256 bs) (h : (decE bs).1 = 0) : decH bs 3 ≠ 0 ∧ ¬ 65536 < decH bs 3 ∧ shapeE (decH bs 3) (decL bs) = (0, 0) ∧ encL (decH bs 2) (decH bs 3) (decL bs) = bs := by
  obtain ⟨h1, h2, h3, h4, h5, h6⟩ := decE_ok h
  have hww := splitL_within bs hw
  obtain ⟨w1, w2, w3, w4, w5, w6⟩ := write_read (splitL bs) hww h2
  obtain ⟨s1, s2⟩ := split_len h1
  have hj := join_split bs s2 hw
  rw [h4, h5, h6]
  generalize splitL bs = zs at *
  generalize hb : nth zs 3 = b at *
  have hre : ∀ p ∈ rest zs 5, (instAt zs b p).1.1 = (rawAt zs p).1 ∧ rawE (instAt zs b p).1 b = 0 ∧ rawWs (instAt zs b p).1 b = (rawAt zs p).2 := fun p hp => rawE_instI (rawAt_within hww p) (h3 p hp)
  have hR : rawsL b (instsAt zs b (rest zs 5)) = readR zs := by
    unfold rawsL instsAt readR
    rw [List.map_map]
    refine List.map_congr_left fun p hp => ?_
    obtain ⟨e1, _, e3⟩ := hre p hp
    simp only [Function.comp]
    rw [e1, e3]
  have hE : ∀ k, k < (instsAt zs b (rest zs 5)).length → rawE (nthI (instsAt zs b (rest zs 5)) k) b = 0 := fun k hk => by
    rw [nthI_lt _ _ hk]
    simp only [instsAt, List.getElem_map]
    exact (hre _ (List.getElem_mem _)).2.1
  have hS : shapeE b (instsAt zs b (rest zs 5)) = (0, 0) := shape_of_fault w2 w3 hE (by rw [hR]; exact w4)
  refine ⟨w2, w3, hS, ?_⟩
  unfold encL encW
  rw [hS, if_pos rfl, hR, show (instsAt zs b (rest zs 5)).length = (readR zs).length by simp [instsAt, readR], w6, hj]

/-- THE MODULES. -/
theorem dec_enc {gen b : Int} {l : List InstT} (hg0 : 0 ≤ gen) (hg1 : gen < 4294967296) (hb0 : 0 ≤ b) (hb1 : b < 4294967296) (hok : InstsOk l) (h : (shapeE b l).1 = 0) : decE (encL gen b l) = (0, 0) ∧ decL (encL gen b l) = l ∧ decH (encL gen b l) 2 = gen ∧ decH (encL gen b l) 3 = b ∧ 20 ≤ (encL gen b l).length ∧ Within 256 (encL gen b l) := by
  obtain ⟨n0, n1⟩ := shape_bound h
  have hW := encW_within (gen := gen) (b := b) hg0 hg1 hb0 hb1 hok
  obtain ⟨l1, l2⟩ := encW_len (gen := gen) h
  have hL : encL gen b l = joinL (encW gen b l) := by unfold encL; rw [if_pos h]
  have hjl := joinL_len (encW gen b l)
  have hsp := split_join (encW gen b l) hW
  have hse : splitErr (joinL (encW gen b l)) = 0 := splitErr_ok _ (by omega) (by omega)
  obtain ⟨r1, r2, r3, r4⟩ := read_write gen b (rawsL b l) (rawsL_ok b hok) (fault_shape h) n0 n1
  rw [rawsL_len] at r1 r2 r3 r4
  have hwi := joinL_within (encW gen b l)
  rw [hL]
  have eW : writeTo gen b (rawsL b l) l.length = encW gen b l := rfl
  rw [eW] at r1 r2 r3 r4
  have r2' : readR (encW gen b l) = rawsL b l := by unfold readL at r2; rw [r1, if_pos rfl] at r2; exact r2
  have r3' : nth (encW gen b l) 2 = gen := by unfold readAt at r3; rw [r1, if_pos rfl] at r3; exact r3
  have r4' : nth (encW gen b l) 3 = b := by unfold readAt at r4; rw [r1, if_pos rfl] at r4; exact r4
  generalize encW gen b l = zs at *
  have hI : ∀ p ∈ rest zs 5, ∃ x ∈ l, rawAt zs p = (x.1, rawWs x b) ∧ instAt zs b p = (x, 0) := fun p hp => by
    have : rawAt zs p ∈ readR zs := List.mem_map.2 ⟨p, hp, rfl⟩
    rw [r2'] at this
    obtain ⟨x, hx, e⟩ := List.mem_map.1 this
    obtain ⟨k, hk, rfl⟩ := List.mem_iff_getElem.1 hx
    have he := shape_each h k hk
    rw [nthI_lt _ _ hk] at he
    refine ⟨l[k], hx, e.symm, ?_⟩
    unfold instAt
    rw [← e]
    exact instI_words he (Int.le_refl _)
  have hall : ∀ p ∈ rest zs 5, (instAt zs b p).2 = 0 := fun p hp => by
    obtain ⟨x, _, _, e⟩ := hI p hp
    rw [e]
  have hD : decE (joinL zs) = (0, 0) := by
    unfold decE
    rw [if_neg (by simp [hse]), hsp, if_neg (by simp [r1]), r4']
    exact decF_all _ _ _ hall
  have hD2 : decL (joinL zs) = l := by
    unfold decL
    rw [hD, if_pos rfl, hsp, r4']
    have e1 : instsAt zs b (rest zs 5) = (readR zs).map fun r => (instI r.1 r.2 b).1 := by
      unfold instsAt readR
      rw [List.map_map]
      rfl
    rw [e1, r2']
    unfold rawsL
    rw [List.map_map]
    refine List.ext_getElem (by simp) fun k h1 h2 => ?_
    rw [List.getElem_map]
    have he := shape_each h k h2
    rw [nthI_lt _ _ h2] at he
    simp only [Function.comp]
    rw [instI_words he (Int.le_refl _)]
  refine ⟨hD, hD2, ?_, ?_, by omega, hwi⟩
  · unfold decH; rw [hD, if_pos rfl, hsp, r3']
  · unfold decH; rw [hD, if_pos rfl, hsp, r4']

end Go.Proofs.Ytpggcpnjcalfaab
