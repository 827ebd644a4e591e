/-
  Texts laid together in one: MathB, MathRL, FrameMeasure, MathRW, MathWR.
-/
import Derived.Test.YteckmcgihbicfaaGreatB15
import Derived.Test.YteckmcgihbicfaaGreatB09
import Derived.Test.YteckmcgihbicfaaGreatB04
import Derived.WalkSpells
import Derived.BigRegion
import Derived.Deep.QuietTactic
import Derived.BigQuiet
import Derived.Test.YteckmcgihbicfaaGreatB02
import Derived.Test.YteckmcgihbicfaaGreatB03
import Derived.Test.YteckmcgihbicfaaGreatB11
/-
  Plain facts: an instruction's words say the instruction, and the words of the instruction that words say are those words.
-/
namespace Go.Proofs.YteckmcgihbicfaaGreat
open Go.RowKit
set_option linter.unusedVariables false

/-! ### a text's words -/

theorem zeroAt_eq {js : List Int} {n : Nat} (h0 : ∀ i, i < n → nth js i ≠ 0) (hn : n < js.length) (h1 : nth js n = 0) : zeroAt js = n := by
  have hlt : zeroAt js < js.length := by
    unfold zeroAt
    rw [List.findIdx_lt_length]
    refine ⟨js[n], List.getElem_mem hn, ?_⟩
    rw [nth_lt _ _ hn] at h1
    simp [h1]
  rcases Nat.lt_trichotomy (zeroAt js) n with h | h | h
  · exact absurd (zeroAt_at js hlt) (h0 _ h)
  · exact h
  · exact absurd h1 (zeroAt_before js n h hn)

theorem textI_textW (s : ByteArray) (ys : List Int) (hs : NoNul s) : textI (textW s ++ ys) = (s, ((s.size / 4 : Nat) : Int) + 1, 0) := by
  have hlen : (joinL (textW s ++ ys)).length = 4 * (s.size / 4 + 1) + 4 * ys.length := by rw [joinL_len, List.length_append, textW_len]; omega
  have hz : zeroAt (joinL (textW s ++ ys)) = s.size := by
    refine zeroAt_eq (fun i hi => ?_) (by omega) ?_
    · rw [joinL_text_lo s ys i (by omega), padI_lo s i hi]; exact hs i hi
    · rw [joinL_text_lo s ys s.size (by omega), padI_hi s s.size (Nat.le_refl _)]
  have hp : padBad (joinL (textW s ++ ys)) = false := by
    cases h : padBad (joinL (textW s ++ ys)) with
    | false => rfl
    | true =>
      obtain ⟨q, h1, h2, h3⟩ := (padBad_iff (L := s.size / 4) (P := s.size % 4) (by rw [hz]; omega) (by omega) (by omega)).1 h
      rw [joinL_text_lo s ys _ (by omega), padI_hi s _ (by omega)] at h3
      exact absurd rfl h3
  unfold textI
  rw [if_neg (by omega), if_neg (by simp [hp]), hz, text_take, str_of_strI]

theorem strI_strOf {js : List Int} (h : Within 256 js) : strI (strOfNums js) = js := by
  have hsz : (strOfNums js).size = js.length := strOfNums_size js
  refine nth_ext (by rw [strI_len, hsz]) fun k hk => ?_
  rw [strI_len, hsz] at hk
  rw [nth_strI _ _ (by rw [hsz]; exact hk)]
  have hb := h.at hk
  have e : (strOfNums js).data.toList = js.map fun z => z.toNat.toUInt8 := by simp [strOfNums]
  have hg : (strOfNums js)[k]'(by rw [hsz]; exact hk) = (js[k]).toNat.toUInt8 := by
    have : (strOfNums js)[k]'(by rw [hsz]; exact hk) = (strOfNums js).data.toList[k]'(by rw [size_list, hsz]; exact hk) := rfl
    rw [this]
    simp only [e, List.getElem_map]
  rw [hg, nth_lt _ _ hk]
  rw [nth_lt _ _ hk] at hb
  have : (js[k]).toNat.toUInt8.toNat = (js[k]).toNat % 256 := by simp
  rw [this]; omega

/-- The words of a text that was read are those that it was read of. -/
theorem textW_textI {zs : List Int} (hw : Within 4294967296 zs) (h : (textI zs).2.2 = 0) : textW (textI zs).1 = zs.take (textI zs).2.1.toNat ∧ NoNul (textI zs).1 := by
  obtain ⟨h1, h2, h3⟩ := textI_some h
  have hl := joinL_len zs
  rw [h3]
  simp only
  generalize hN : zeroAt (joinL zs) = N at *
  have hws : Within 256 ((joinL zs).take N) := within_take (joinL_within zs)
  have hsI := strI_strOf hws
  have hsz : (strOfNums ((joinL zs).take N)).size = N := by rw [strOfNums_size, List.length_take]; omega
  have hnt : ((((N / 4 : Nat) : Int) + 1)).toNat = N / 4 + 1 := by omega
  rw [hnt]
  constructor
  · -- both have the same bytes
    have hb : joinL (textW (strOfNums ((joinL zs).take N))) = joinL (zs.take (N / 4 + 1)) := by
      rw [joinL_textW, joinL_take]
      refine nth_ext (by rw [padI_len, hsz, List.length_take]; omega) fun k hk => ?_
      rw [padI_len, hsz] at hk
      rw [nth_take _ _ _ hk]
      by_cases hkN : k < N
      · rw [padI_lo _ _ (by rw [hsz]; exact hkN), hsI, nth_take _ _ _ hkN]
      · rw [padI_hi _ _ (by rw [hsz]; omega)]
        by_cases hke : k = N
        · subst hke; rw [← hN]; exact (zeroAt_at _ (by rw [hN]; exact h1)).symm
        · apply Classical.byContradiction
          intro hne
          have : padBad (joinL zs) = true := (padBad_iff (L := N / 4) (P := N % 4) (by rw [hN]; omega) (by omega) (by omega)).2 ⟨k - 4 * (N / 4), by omega, by omega, by rw [show 4 * (N / 4) + (k - 4 * (N / 4)) = k by omega]; exact fun e => hne e.symm⟩
          rw [h2] at this; cases this
    have e1 := split_join (textW (strOfNums ((joinL zs).take N))) (textW_within _)
    have e2 := split_join (zs.take (N / 4 + 1)) (within_of_take hw)
    rw [← e1, hb, e2]
  · intro k hk
    rw [hsz] at hk
    rw [hsI, nth_take _ _ _ hk]
    exact zeroAt_before _ k (by rw [hN]; exact hk) (by omega)

/-! ### one argument -/

theorem noneB_more {n b c : Int} (h : noneB n b = false) (hbc : b ≤ c) : noneB n c = false := by
  unfold noneB at *
  simp at *
  omega

theorem argI_words {c b m : Int} {x : ArgT} (ys : List Int) (h : wrongA c x b = 0) (hb : b ≤ m) : argI c (wordsA x ++ ys) m = (x, ((wordsA x).length : Int), 0) := by
  obtain ⟨xk, xn, xs⟩ := x
  unfold wrongA at h
  by_cases hm : mayStandB c (xk, xn, xs) = false
  · rw [if_pos hm] at h; cases h
  · rw [if_neg hm] at h
    have hm' : mayStandB c (xk, xn, xs) = true := by simpa using hm
    unfold mayStandB at hm'
    simp only [Bool.and_eq_true, Bool.not_eq_true', beq_eq_false_iff_ne, beq_iff_eq] at hm'
    obtain ⟨⟨hc, hk⟩, hx⟩ := hm'
    simp only at h hk hx
    by_cases h3 : xk = 3
    · rw [if_pos h3] at h hx
      subst h3
      have hx0 : xn = 0 := by simpa using hx
      subst hx0
      have hnul : nulS xs = false := by
        cases hn : nulS xs with
        | false => rfl
        | true => rw [hn] at h; cases h
      have hW : wordsA (3, 0, xs) = textW xs := by simp [wordsA]
      unfold argI
      rw [hW, if_neg (by rintro (h | h)
                         · exact hc h
                         · rw [List.length_append, textW_len] at h; omega), if_pos hk.symm, textI_textW xs ys (nulS_false.1 hnul), textW_len]
      simp
    · rw [if_neg h3] at h hx
      have hx0 : xs = ⟨#[]⟩ := size_zero (by simpa using hx)
      subst hx0
      have hW : wordsA (xk, xn, ⟨#[]⟩) = [xn] := by simp [wordsA, h3]
      have hn0 : nth ([xn] ++ ys) 0 = xn := rfl
      unfold argI
      rw [hW, if_neg (by rintro (h | h)
                         · exact hc h
                         · simp at h), if_neg (by rw [← hk]; exact h3), hn0]
      unfold faultW at h
      rw [← hk] at h ⊢
      by_cases h1 : xk = 1
      · rw [if_pos h1] at h
        have hnb : noneB xn b = false := by
          cases hn : noneB xn b with
          | false => rfl
          | true => rw [hn] at h; cases h
        rw [if_neg (by rw [noneB_more hnb hb]; simp), if_neg (by omega)]
        rfl
      · rw [if_neg h1] at h
        rw [if_neg (by simp [h1])]
        by_cases h4 : xk = 4
        · rw [if_pos h4] at h
          have he : enumB c xn = true := by
            cases hn : enumB c xn with
            | true => rfl
            | false => rw [hn] at h; cases h
          rw [if_neg (by simp [he])]
          rfl
        · rw [if_neg (by simp [h4])]
          rfl

theorem nth_take1 (zs : List Int) (h : zs.length ≠ 0) : zs.take 1 = [nth zs 0] := by
  cases zs with
  | nil => simp at h
  | cons z zs => rfl

/-- The words of an argument that was read are those that it was read of. -/
theorem argI_back {c b : Int} {zs : List Int} (hw : Within 4294967296 zs) (h : (argI c zs b).2.2 = 0) : wrongA c (argI c zs b).1 b = 0 ∧ wordsA (argI c zs b).1 = zs.take (argI c zs b).2.1.toNat ∧ 1 ≤ (argI c zs b).2.1.toNat ∧ (argI c zs b).2.1.toNat ≤ zs.length := by
  unfold argI at h ⊢
  by_cases h0 : c = 0 ∨ zs.length = 0
  · rw [if_pos h0] at h; cases h
  · rw [if_neg h0] at h ⊢
    have hc : c ≠ 0 := fun e => h0 (.inl e)
    have hl : zs.length ≠ 0 := fun e => h0 (.inr e)
    by_cases h3 : kindI c = 3
    · rw [if_pos h3] at h ⊢
      simp only at h ⊢
      obtain ⟨e1, e2⟩ := textW_textI hw h
      obtain ⟨r1, r2, r3, r4, r5⟩ := textI_range zs
      have r3' := r3 h
      refine ⟨?_, ?_, by omega, by omega⟩
      · unfold wrongA mayStandB
        simp [hc, h3, nulS_false.2 e2]
      · unfold wordsA
        rw [if_pos rfl]; exact e1
    · rw [if_neg h3] at h ⊢
      by_cases h1 : kindI c = 1 ∧ noneB (nth zs 0) b = true
      · rw [if_pos h1] at h; cases h
      · rw [if_neg h1] at h ⊢
        by_cases h4 : kindI c = 4 ∧ enumB c (nth zs 0) = false
        · rw [if_pos h4] at h; cases h
        · rw [if_neg h4] at h ⊢
          simp only
          refine ⟨?_, ?_, by omega, by omega⟩
          · have hm : mayStandB c (kindI c, nth zs 0, ⟨#[]⟩) = true := by unfold mayStandB; simp [hc, h3, ByteArray.size]
            unfold wrongA
            rw [if_neg (by simp [hm]), if_neg h3]
            unfold faultW
            simp only
            by_cases k1 : kindI c = 1
            · rw [if_pos k1, if_neg (fun e => h1 ⟨k1, e⟩)]
            · rw [if_neg k1]
              by_cases k4 : kindI c = 4
              · rw [if_pos k4]
                have : enumB c (nth zs 0) = true := by
                  cases hn : enumB c (nth zs 0) with
                  | true => rfl
                  | false => exact absurd ⟨k4, hn⟩ h4
                rw [if_pos this]
              · rw [if_neg k4]
          · unfold wordsA
            rw [if_neg h3]
            exact (nth_take1 zs hl).symm

/-! ### all arguments -/

theorem wordsL_cons (x : ArgT) (l : List ArgT) : wordsL (x :: l) = wordsA x ++ wordsL l := rfl
theorem wordsA_pos (x : ArgT) : 1 ≤ (wordsA x).length := by rw [wordsA_len]; split <;> omega

theorem argsI_words (f : Frm) {b m : Int} (hb : b ≤ m) : ∀ (l acc : List ArgT) (fuel : Nat), wrongL f b acc.length l = 0 → wholeN f ((acc.length + l.length : Nat) : Int) = true → (wordsL l).length < fuel → argsI f m fuel (wordsL l) acc = (acc ++ l, 0)
  | [], acc, 0, _, _, hf => by omega
  | [], acc, fuel + 1, _, hw, _ => by
    rw [argsI, if_pos (by simp [wordsL]), if_pos (by simpa using hw), List.append_nil]
  | x :: l, acc, 0, _, _, hf => by omega
  | x :: l, acc, fuel + 1, h, hw, hf => by
    rw [wrongL] at h
    by_cases h0 : wrongA (letterI f acc.length) x b = 0
    · rw [if_pos h0] at h
      have hp := wordsA_pos x
      have ha := argI_words (wordsL l) h0 hb
      rw [wordsL_cons, List.length_append] at hf
      rw [wordsL_cons, argsI, if_neg (by rw [List.length_append]; omega), ha]
      simp only
      rw [if_neg (by simp), Int.toNat_natCast, List.drop_left]
      have := argsI_words f hb l (acc ++ [x]) fuel (by rw [List.length_append]; exact h) (by rw [List.length_append, List.length_singleton]; rw [List.length_cons] at hw; rw [show acc.length + 1 + l.length = acc.length + (l.length + 1) by omega]; exact hw) (by omega)
      rw [this, List.append_assoc]; rfl
    · rw [if_neg h0] at h; exact absurd h h0

theorem argsI_back (f : Frm) (b : Int) : ∀ (fuel : Nat) (zs : List Int) (acc : List ArgT), Within 4294967296 zs → (argsI f b fuel zs acc).2 = 0 → ∃ l, (argsI f b fuel zs acc).1 = acc ++ l ∧ wrongL f b acc.length l = 0 ∧ wordsL l = zs ∧ wholeN f ((acc.length + l.length : Nat) : Int) = true
  | 0, zs, acc, _, h => by rw [argsI] at h; cases h
  | fuel + 1, zs, acc, hw, h => by
    rw [argsI] at h ⊢
    by_cases h0 : zs.length = 0
    · rw [if_pos h0] at h ⊢
      by_cases h1 : wholeN f acc.length = true
      · rw [if_pos h1]
        exact ⟨[], by simp, rfl, by rw [List.eq_nil_of_length_eq_zero h0]; rfl, by simpa using h1⟩
      · rw [if_neg h1] at h; cases h
    · rw [if_neg h0] at h ⊢
      by_cases h1 : (argI (letterI f acc.length) zs b).2.2 = 0
      · rw [if_neg (by simp [h1])] at h ⊢
        obtain ⟨a1, a2, a3, a4⟩ := argI_back hw h1
        generalize argI (letterI f acc.length) zs b = r at *
        obtain ⟨l, e1, e2, e3, e4⟩ := argsI_back f b fuel _ _ (fun z hz => hw z (List.mem_of_mem_drop hz)) h
        refine ⟨r.1 :: l, by rw [e1, List.append_assoc]; rfl, ?_, ?_, ?_⟩
        · rw [wrongL, if_pos a1]
          rw [List.length_append] at e2; exact e2
        · rw [wordsL_cons, a2, e3, List.take_append_drop]
        · rw [List.length_append, List.length_singleton] at e4
          rw [List.length_cons, show acc.length + (l.length + 1) = acc.length + 1 + l.length by omega]; exact e4
      · rw [if_pos h1] at h; exact absurd h h1

/-! ### an instruction -/

theorem idE_zero {must : Bool} {n b e : Int} (he : e ≠ 0) (h : idE must n b e = 0) : (must = true → noneB n b = false) ∧ (must = false → n = 0) := by
  unfold idE at h
  cases must with
  | true =>
    refine ⟨fun _ => ?_, (fun h => by cases h)⟩
    by_cases h0 : n = 0
    · rw [if_pos (by simp [h0])] at h; exact absurd h he
    · rw [if_neg (by simp [h0])] at h
      by_cases h1 : b ≤ n
      · rw [if_pos (by simp [h1])] at h; cases h
      · unfold noneB; simp [h0, h1]
  | false =>
    refine ⟨(fun h => by cases h), fun _ => ?_⟩
    by_cases h0 : n = 0
    · exact h0
    · rw [if_pos (by simp [h0])] at h; exact absurd h he
theorem idE_none {n b e : Int} (h : noneB n b = false) : idE true n b e = 0 := by
  unfold noneB at h
  simp at h
  unfold idE
  simp [h.1]; omega
theorem idE_absent {b e : Int} : idE false 0 b e = 0 := by unfold idE; simp

theorem instI_words {x : InstT} {b m : Int} (h : rawE x b = 0) (hb : b ≤ m) : instI x.1 (rawWs x b) m = (x, 0) := by
  obtain ⟨h1, h2, h3⟩ := rawWs_ok h
  have hlen := rawWs_len x b
  obtain ⟨t1, t2, t3, t4, t5⟩ := faultI_zero h2
  obtain ⟨t1a, t1b⟩ := idE_zero (by decide) t1
  obtain ⟨t2a, t2b⟩ := idE_zero (by decide) t2
  unfold instI
  rw [if_neg (by omega), if_neg (by simp [h1]), h3]
  rw [h3] at hlen
  generalize (lookF refT x.1).1 = f at *
  obtain ⟨xo, xt, xr, xl⟩ := x
  simp only at *
  have hd : (rawL f (xo, xt, xr, xl)).drop (f.2.1.toNat + f.2.2.1.toNat) = wordsL xl := by
    unfold rawL headW
    simp only
    cases f.2.1 <;> cases f.2.2.1 <;> rfl
  have hty : headTy f.2.1 (rawL f (xo, xt, xr, xl)) m = (xt, 0) := by
    unfold headTy rawL headW
    simp only
    cases e1 : f.2.1 with
    | true =>
      have := noneB_more (t1a e1) hb
      simp [nth, this]
    | false => simp [t1b e1]
  have hre : headRes f.2.2.1 (rawL f (xo, xt, xr, xl)) m f.2.1.toNat = (xr, 0) := by
    unfold headRes rawL headW
    simp only
    cases e2 : f.2.2.1 with
    | true =>
      have := noneB_more (t2a e2) hb
      cases e1 : f.2.1 <;> simp [nth, this]
    | false => simp [t2b e2]
  have hargs : argsI f m ((rawL f (xo, xt, xr, xl)).length + 1) (wordsL xl) [] = (xl, 0) := by
    have := argsI_words f hb xl [] ((rawL f (xo, xt, xr, xl)).length + 1) (by simpa using t3) (by simpa using t4) (by unfold rawL; simp only [List.length_append]; omega)
    simpa using this
  unfold instF
  rw [hty, hre, hd, hargs]
  rfl

theorem headTy_zero {ty : Bool} {zs : List Int} {b : Int} (h : (headTy ty zs b).2 = 0) : idE ty (headTy ty zs b).1 b 40 = 0 ∧ (ty = true → 0 < zs.length ∧ (headTy ty zs b).1 = nth zs 0) ∧ (ty = false → (headTy ty zs b).1 = 0) := by
  cases ty with
  | false => exact ⟨idE_absent, (fun h => by cases h), fun _ => rfl⟩
  | true =>
    by_cases h1 : zs.length ≤ 0
    · have e : headTy true zs b = (0, 40) := by unfold headTy; rw [if_pos rfl, if_pos h1]
      rw [e] at h; cases h
    · have e : headTy true zs b = (nth zs 0, if noneB (nth zs 0) b then 43 else 0) := by unfold headTy; rw [if_pos rfl, if_neg h1]
      rw [e] at h ⊢
      have hn : noneB (nth zs 0) b = false := by
        cases hn : noneB (nth zs 0) b with
        | false => rfl
        | true => rw [hn] at h; cases h
      exact ⟨idE_none hn, fun _ => ⟨by omega, rfl⟩, (fun h => by cases h)⟩

theorem headRes_zero {re : Bool} {zs : List Int} {b : Int} {p : Nat} (h : (headRes re zs b p).2 = 0) : idE re (headRes re zs b p).1 b 41 = 0 ∧ (re = true → p < zs.length ∧ (headRes re zs b p).1 = nth zs p) ∧ (re = false → (headRes re zs b p).1 = 0) := by
  cases re with
  | false => exact ⟨idE_absent, (fun h => by cases h), fun _ => rfl⟩
  | true =>
    by_cases h1 : zs.length ≤ p
    · have e : headRes true zs b p = (0, 41) := by unfold headRes; rw [if_pos rfl, if_pos h1]
      rw [e] at h; cases h
    · have e : headRes true zs b p = (nth zs p, if noneB (nth zs p) b then 43 else 0) := by unfold headRes; rw [if_pos rfl, if_neg h1]
      rw [e] at h ⊢
      have hn : noneB (nth zs p) b = false := by
        cases hn : noneB (nth zs p) b with
        | false => rfl
        | true => rw [hn] at h; cases h
      exact ⟨idE_none hn, fun _ => ⟨by omega, rfl⟩, (fun h => by cases h)⟩

theorem instI_some {op b : Int} {zs : List Int} (h : (instI op zs b).2 = 0) : zs.length < 65535 ∧ (lookF refT op).2 = true ∧ instI op zs b = instF (lookF refT op).1 op zs b := by
  unfold instI at h ⊢
  by_cases h1 : 65535 ≤ zs.length
  · rw [if_pos h1] at h; cases h
  · rw [if_neg h1] at h ⊢
    by_cases h2 : (lookF refT op).2 = false
    · rw [if_pos h2] at h; cases h
    · rw [if_neg h2]
      exact ⟨by omega, by simpa using h2, rfl⟩
theorem instF_none {f : Frm} {op b : Int} {zs : List Int} (h : (instF f op zs b).2 ≠ 0) : (instF f op zs b).1 = noInst := by
  unfold instF at h ⊢
  split
  · rfl
  · split
    · rfl
    · split
      · rfl
      · rename_i h1 h2 h3
        rw [if_neg h1, if_neg h2, if_neg h3] at h
        exact absurd rfl h
theorem instI_none {op b : Int} {zs : List Int} (h : (instI op zs b).2 ≠ 0) : (instI op zs b).1 = noInst := by
  unfold instI at h ⊢
  split
  · rfl
  · split
    · rfl
    · rename_i h1 h2
      rw [if_neg h1, if_neg h2] at h
      exact instF_none h

/-- The words of the instruction that words say. -/
theorem rawE_instI {op b : Int} {zs : List Int} (hw : Within 4294967296 zs) (h : (instI op zs b).2 = 0) : (instI op zs b).1.1 = op ∧ rawE (instI op zs b).1 b = 0 ∧ rawWs (instI op zs b).1 b = zs := by
  obtain ⟨h1, h2, h3⟩ := instI_some h
  rw [h3] at h ⊢
  generalize hf : (lookF refT op).1 = f at *
  unfold instF at h ⊢
  by_cases k1 : (headTy f.2.1 zs b).2 = 0
  · rw [if_neg (by simp [k1])] at h ⊢
    by_cases k2 : (headRes f.2.2.1 zs b f.2.1.toNat).2 = 0
    · rw [if_neg (by simp [k2])] at h ⊢
      by_cases k3 : (argsI f b (zs.length + 1) (zs.drop (f.2.1.toNat + f.2.2.1.toNat)) []).2 = 0
      · rw [if_neg (by simp [k3])] at h ⊢
        obtain ⟨l, e1, e2, e3, e4⟩ := argsI_back f b _ _ _ (fun z hz => hw z (List.mem_of_mem_drop hz)) k3
        rw [e1]
        simp only [List.nil_append] at *
        obtain ⟨u1, u2, u3⟩ := headTy_zero k1
        obtain ⟨v1, v2, v3⟩ := headRes_zero k2
        generalize (headTy f.2.1 zs b).1 = t at *
        generalize (headRes f.2.2.1 zs b f.2.1.toNat).1 = r at *
        have hz : rawL f (op, t, r, l) = zs := by
          unfold rawL headW
          simp only
          rw [e3]
          cases c1 : f.2.1 with
          | true =>
            obtain ⟨q1, q2⟩ := u2 c1
            rw [c1] at v2
            cases c2 : f.2.2.1 with
            | true =>
              obtain ⟨q3, q4⟩ := v2 c2
              subst q2 q4
              match zs, q1, q3 with
              | a :: b :: zs, _, _ => rfl
            | false =>
              subst q2
              match zs, q1 with
              | a :: zs, _ => rfl
          | false =>
            rw [c1] at v2
            cases c2 : f.2.2.1 with
            | true =>
              obtain ⟨q3, q4⟩ := v2 c2
              subst q4
              match zs, q3 with
              | a :: zs, _ => rfl
            | false => rfl
        have hE : rawE (op, t, r, l) b = 0 := by
          unfold rawE
          simp only
          rw [if_pos h2, hf]
          unfold faultI
          simp only
          rw [if_neg (by simp [u1]), if_neg (by simp [v1]), if_neg (by simpa using e2), if_neg (by simpa using e4), hz, if_neg (by omega)]
        refine ⟨by trivial, hE, ?_⟩
        unfold rawWs
        rw [if_pos hE]
        simp only
        rw [hf, hz]
      · rw [if_pos k3] at h; exact absurd h k3
    · rw [if_pos k2] at h; exact absurd h k2
  · rw [if_pos k1] at h; exact absurd h k1

/-- By a greater bound it has the same words. -/
theorem wrongA_more {c b m : Int} {x : ArgT} (h : wrongA c x b = 0) (hb : b ≤ m) : wrongA c x m = 0 := by
  unfold wrongA at h ⊢
  split at h
  · cases h
  · rename_i h1
    rw [if_neg h1]
    split at h
    · rename_i h2
      rw [if_pos h2]; exact h
    · rename_i h2
      rw [if_neg h2]
      unfold faultW at h ⊢
      by_cases k1 : kindI c = 1
      · rw [if_pos k1] at h ⊢
        have hn : noneB x.2.1 b = false := by
          cases hn : noneB x.2.1 b with
          | false => rfl
          | true => rw [hn] at h; cases h
        rw [noneB_more hn hb]; rfl
      · rw [if_neg k1] at h ⊢; exact h
theorem wrongL_more (f : Frm) {b m : Int} (hb : b ≤ m) : ∀ (l : List ArgT) (k : Nat), wrongL f b k l = 0 → wrongL f m k l = 0
  | [], _, _ => rfl
  | x :: l, k, h => by
    rw [wrongL] at h ⊢
    by_cases h0 : wrongA (letterI f k) x b = 0
    · rw [if_pos h0] at h
      rw [if_pos (wrongA_more h0 hb)]
      exact wrongL_more f hb l _ h
    · rw [if_neg h0] at h; exact absurd h h0
theorem idE_more {must : Bool} {n b m e : Int} (he : e ≠ 0) (hb : b ≤ m) (h : idE must n b e = 0) : idE must n m e = 0 := by
  obtain ⟨h1, h2⟩ := idE_zero he h
  cases must with
  | true => exact idE_none (noneB_more (h1 rfl) hb)
  | false => rw [h2 rfl]; exact idE_absent
theorem raw_more {x : InstT} {b m : Int} (h : rawE x b = 0) (hb : b ≤ m) : rawE x m = 0 ∧ rawWs x m = rawWs x b := by
  obtain ⟨h1, h2, h3⟩ := rawWs_ok h
  obtain ⟨t1, t2, t3, t4, t5⟩ := faultI_zero h2
  have hE : rawE x m = 0 := by
    unfold rawE
    rw [if_pos h1]
    unfold faultI
    rw [if_neg (by simp [idE_more (by decide) hb t1]), if_neg (by simp [idE_more (by decide) hb t2]), if_neg (by simp [wrongL_more _ hb _ _ t3]), if_neg (by simp [t4]), if_neg (by omega)]
  refine ⟨hE, ?_⟩
  rw [h3]
  unfold rawWs
  rw [if_pos hE]

end Go.Proofs.YteckmcgihbicfaaGreat

/-
  What Read answers lies within its bounds.
-/
namespace Go.Proofs.YteckmcgihbicfaaGreat
open Go.RowKit

theorem nthR_map (l : List Nat) (f : Nat → Int × List Int) (j : Nat) (h : j < l.length) : nthR (l.map f) j = f (l.getD j 0) := by
  simp [nthR, List.getD, h]

theorem readL_small (zs : List Int) (h : readL zs ≠ []) : zs.length ≤ 1048576 := by
  by_cases h1 : 1048576 < zs.length
  · exfalso; apply h; unfold readL readE; rw [if_pos h1]; simp
  · omega

theorem readR_each (zs : List Int) (hw : Within 4294967296 zs) (j : Nat) (hj : j < (readR zs).length) : 0 ≤ (nthR (readR zs) j).1 ∧ (nthR (readR zs) j).1 < 65536 ∧ Within 4294967296 (nthR (readR zs) j).2 ∧ (nthR (readR zs) j).2.length ≤ zs.length := by
  have hj' : j < (rest zs 5).length := by simpa [readR] using hj
  unfold readR
  rw [nthR_map _ _ _ hj']
  obtain ⟨_, h2, h3⟩ := rest_mem zs 5 ((rest zs 5).getD j 0) (by simp [List.getD, hj'])
  refine ⟨opI_lo _ _, opI_hi _ _, fun z hz => hw z ?_, ?_⟩
  · exact List.mem_of_mem_drop (List.mem_of_mem_take hz)
  · show (midL _ _ _).length ≤ _
    unfold midL
    rw [List.length_take, List.length_drop]; omega

theorem readL_each (zs : List Int) (hw : Within 4294967296 zs) (j : Nat) (hj : j < (readL zs).length) : 0 ≤ (nthR (readL zs) j).1 ∧ (nthR (readL zs) j).1 < 65536 ∧ Within 4294967296 (nthR (readL zs) j).2 ∧ (nthR (readL zs) j).2.length ≤ zs.length := by
  unfold readL at hj ⊢
  by_cases h : (readE zs).1 = 0
  · rw [if_pos h] at hj ⊢; exact readR_each zs hw j hj
  · rw [if_neg h] at hj; simp at hj

theorem readL_ok (zs : List Int) (hw : Within 4294967296 zs) (hn : 4 * zs.length ≤ 140737488351232) : RawsOk (readL zs) := fun j hj => by
  obtain ⟨h1, h2, h3, h4⟩ := readL_each zs hw j hj
  exact ⟨h1, h2, h3, by omega⟩
theorem readL_sm (zs : List Int) (hw : Within 4294967296 zs) (j : Nat) (hj : j < (readL zs).length) : (nthR (readL zs) j).2.length ≤ 1048576 := by
  have h := readL_small zs (fun e => by rw [e] at hj; simp at hj)
  have := (readL_each zs hw j hj).2.2.2
  omega
theorem readL_len (zs : List Int) : (readL zs).length ≤ zs.length := by
  unfold readL
  split
  · have := rest_len zs 5; simp [readR]; omega
  · simp

end Go.Proofs.YteckmcgihbicfaaGreat

/-
  What measure and Size of frame return: how many words the head and the instructions have, or the first instruction that may not be.
-/
namespace Go.Proofs.YteckmcgihbicfaaGreat
open Go.RowKit

theorem fault_any (rs : List (Int × List Int)) : fault rs 0 = (0, 0) ∨ (fault rs 0).1 ≠ 0 := by
  have key : ∀ f k, faultF rs f k = (0, 0) ∨ (faultF rs f k).1 ≠ 0 := by
    intro f
    induction f with
    | zero => intro k; exact .inl rfl
    | succ f ih =>
      intro k
      rw [faultF]
      split
      · split
        · exact .inr (by simp)
        · split
          · exact .inr (by simp)
          · exact ih (k + 1)
      · exact .inl rfl
  exact key _ _

theorem spot_set {w : World} {g T : Nat} {a b : Value} (h : w.heap[g]? = some (.cells #[a, b] T (0, 0))) (u0 u1 : Value) :
    ((w.setCell ⟨g, 0, none⟩ u0).setCell ⟨g, 1, none⟩ u1).cell? ⟨g, 0, none⟩ = some u0 ∧ ((w.setCell ⟨g, 0, none⟩ u0).setCell ⟨g, 1, none⟩ u1).cell? ⟨g, 1, none⟩ = some u1 := by
  have hfin : ((w.setCell ⟨g, 0, none⟩ u0).setCell ⟨g, 1, none⟩ u1).heap[g]? = some (.cells #[u0, u1] T (0, 0)) := by
    simp only [World.setCell, Array.getElem?_modify, h]; simp
  obtain ⟨z0, z1, _⟩ := cell_of_two hfin
  exact ⟨z0, z1⟩

theorem cell_past {w : World} {g j : Nat} {o : Obj} {v : Value} (h : w.cell? ⟨g, j, none⟩ = some v) : (w.alloc o).cell? ⟨g, j, none⟩ = some v := by
  rw [World.cell?_alloc_past _ _ _ (World.block_lt_of_cell? _ _ h)]; exact h

set_option maxRecDepth 100000 in
set_option maxHeartbeats 2000000 in
theorem measure_any (a : Option Addr) (n cap : Nat) (rs : List (Int × List Int)) (w : World) (ha : RawsV w a rs) (hok : RawsOk rs) (hl : rs.length = n) (hn : 32 * n ≤ 140737488351232) :
    Calls Tryz.prog 64 #[.slice a n cap] w fun e w' => e = .returned (.tuple #[.int .i64 (sizeOut rs), .agg #[.int .i64 (fault rs 0).1, .int .i64 (fault rs 0).2]]) ∧ Below w.heap.size w w' := by
  have HL : Hid (rs.length = n) := hl
  clear hl
  go_enter Tryz.func64, Tryz.ntmps64
  go_wp2
  go_loopw [4, 9] (fun s i wr => ∃ k : Nat, k ≤ n ∧ i = .int .i64 k ∧ s = .int .i64 (sizeTo rs k) ∧ sizeTo rs k ≤ 1048576 ∧ fault rs 0 = fault rs k ∧ wr.heap[w.heap.size]? = some (.cells #[.int .i64 0, .int .i64 0] 29 (0, 0)) ∧ Below w.heap.size w wr) (fun _ i _ => n - (intOf i).toNat)
  case atStart => exact ⟨0, Nat.zero_le _, rfl, rfl, by rw [sizeTo_zero]; omega, rfl, heap_alloc_new w _, (Below.refl _ _).alloc (Nat.le_refl _) _⟩
  case round =>
    obtain ⟨k, hk, rfl, rfl, hsz, hfe, hbox, hnx⟩ := hrel
    have HF : Hid (fault rs 0 = fault rs k) := hfe
    clear hfe
    have hlt0 : w.heap.size < wr.heap.size := (Array.getElem?_eq_some_iff.1 hbox).1
    by_cases hlt : k < n
    · obtain ⟨b, off, aj, cj, nj, rfl, hbs, p1, p2, p3, _, _⟩ := ha k (by rw [HL.out]; exact hlt)
      obtain ⟨_, _, _, h4⟩ := hok k (by rw [HL.out]; exact hlt)
      rw [p3] at h4
      have HS : Hid (sizeTo rs (k + 1) = sizeTo rs k + 1 + (nthR rs k).2.length) := sizeTo_succ rs k (by rw [HL.out]; exact hlt)
      have HT := fault_step rs k (by rw [HL.out]; exact hlt)
      rw [p3] at HT HS
      have HT' : Hid (fault rs k = if 65535 ≤ nj then (25, k) else if 1048576 < sizeTo rs (k + 1) then (4, k) else fault rs (k + 1)) := HT
      have q1 := (hnx.cell (p := ⟨b, off + k * 2, none⟩) hbs).trans p1
      have q2 := (hnx.cell (p := ⟨b, off + k * 2 + 1, none⟩) hbs).trans p2
      generalize sizeTo rs k = s at hsz HS
      have hki : (k : Int) < (n : Int) := by omega
      have hk0 : (0 : Int) ≤ (k : Int) := by omega
      have hW := fun op w => wordsOf_any op aj nj cj w (by omega)
      generalize (nthR rs k).1 = op at q1 p1
      clear HT ha p1 p2 p3 hok
      obtain ⟨R1, hR1⟩ : ∃ o, o = Obj.cells #[.int .u16 op, .slice aj nj cj] 48 (0, 0) := ⟨_, rfl⟩
      have hbx1 : ((wr.alloc R1).alloc R1).heap[w.heap.size]? = some (.cells #[.int .i64 0, .int .i64 0] 29 (0, 0)) := (Below.heap_alloc _ _ _ (by simp; omega)).trans ((Below.heap_alloc _ _ _ hlt0).trans hbox)
      obtain ⟨c0, c1, f1⟩ := cell_of_two hbox
      have f0 : wr.frozen? ⟨w.heap.size, 0, none⟩ = false := by simp [World.frozen?, hbox]
      by_cases h1 : 65535 ≤ nj
      · have b1 : decide ((65535 : Int) < (nj : Int) + 1) = true := decide_eq_true (by omega)
        have HE : Hid (fault rs 0 = (25, k)) := by show _ = _; rw [HF.out, HT'.out, if_pos h1]
        have HO : Hid (sizeOut rs = 0) := by show _ = _; unfold sizeOut; rw [HE.out]; rfl
        have hf0 := spot_set hbox (.int .i64 25) (.int .i64 k)
        have hf := And.intro (cell_past (o := R1) (cell_past (o := R1) hf0.1)) (cell_past (o := R1) (cell_past (o := R1) hf0.2))
        have HZ : Hid (_ ∧ _) := hf
        have HB : Hid (Below w.heap.size w ((((wr.setCell ⟨w.heap.size, 0, none⟩ (.int .i64 25)).setCell ⟨w.heap.size, 1, none⟩ (.int .i64 k)).alloc R1).alloc R1)) := (((hnx.setCell (by simp) _).setCell (by simp) _).alloc (by simp; omega) _).alloc (by simp; omega) _
        clear hf hf0 hbx1 hbox
        subst hR1
        go_wp2_with (go_at_call 54; refine (hW _ _).mono ?_; rintro e w' ⟨rfl, rfl⟩)
        exact bodyPost_ret (v := .tuple #[.int .i64 0, .agg #[.int .i64 25, .int .i64 k]]) (by simp [results, Tryz.results64, go_sem, HZ.out.1, HZ.out.2]) rfl ⟨by rw [HE.out, HO.out], HB.out⟩
      · have b1 : decide ((65535 : Int) < (nj : Int) + 1) = false := decide_eq_false (by omega)
        have hbx2 : (((wr.alloc R1).alloc R1).alloc R1).heap[w.heap.size]? = some (.cells #[.int .i64 0, .int .i64 0] 29 (0, 0)) := (Below.heap_alloc _ _ _ (by simp; omega)).trans hbx1
        have HB2 : Hid (Below w.heap.size w (((wr.alloc R1).alloc R1).alloc R1)) := ((hnx.alloc hnx.size _).alloc (by simp; omega) _).alloc (by simp; omega) _
        by_cases h2 : 1048576 < s + 1 + nj
        · have b2 : decide ((1048576 : Int) < (s : Int) + ((nj : Int) + 1)) = true := decide_eq_true (by omega)
          have HE : Hid (fault rs 0 = (4, k)) := by show _ = _; rw [HF.out, HT'.out, if_neg h1, if_pos (by rw [HS.out]; exact h2)]
          have HO : Hid (sizeOut rs = 0) := by show _ = _; unfold sizeOut; rw [HE.out]; rfl
          have hf := spot_set hbx2 (.int .i64 4) (.int .i64 k)
          obtain ⟨c0', c1', f1'⟩ := cell_of_two hbx2
          have f0' : (((wr.alloc R1).alloc R1).alloc R1).frozen? ⟨w.heap.size, 0, none⟩ = false := by simp only [World.frozen?, hbx2]; rfl
          have HZ : Hid (_ ∧ _) := hf
          have HB : Hid (Below w.heap.size w (((((wr.alloc R1).alloc R1).alloc R1).setCell ⟨w.heap.size, 0, none⟩ (.int .i64 4)).setCell ⟨w.heap.size, 1, none⟩ (.int .i64 k))) := (HB2.out.setCell (by simp) _).setCell (by simp) _
          clear hf hbx1 hbx2 hbox
          subst hR1
          go_wp2_with (go_at_call 54; refine (hW _ _).mono ?_; rintro e w' ⟨rfl, rfl⟩)
          exact bodyPost_ret (v := .tuple #[.int .i64 0, .agg #[.int .i64 4, .int .i64 k]]) (by simp [results, Tryz.results64, go_sem, HZ.out.1, HZ.out.2]) rfl ⟨by rw [HE.out, HO.out], HB.out⟩
        · have b2 : decide ((1048576 : Int) < (s : Int) + ((nj : Int) + 1)) = false := decide_eq_false (by omega)
          have HE : Hid (fault rs 0 = fault rs (k + 1)) := by show _ = _; rw [HF.out, HT'.out, if_neg h1, if_neg (by rw [HS.out]; exact h2)]
          have HX : Hid _ := hbx2
          clear hbx1 hbx2 hbox
          subst hR1
          go_wp2_with (go_at_call 54; refine (hW _ _).mono ?_; rintro e w' ⟨rfl, rfl⟩)
          go_roundw
          case rel => exact ⟨k + 1, by omega, by go_num, by rw [HS.out]; go_num, by rw [HS.out]; omega, HE.out, HX.out, HB2.out⟩
          case measure => simp [intOf]; omega
    · obtain rfl : k = n := by omega
      have HE : Hid (fault rs 0 = (0, 0)) := by show _ = _; rw [HF.out]; exact fault_end rs k (by rw [HL.out]; omega)
      have HO : Hid (sizeOut rs = sizeTo rs k) := by show _ = _; unfold sizeOut; rw [HE.out, if_pos rfl, HL.out]
      have hf := spot_set hbox (.int .i64 0) (.int .i64 0)
      obtain ⟨c0, c1, f1⟩ := cell_of_two hbox
      have f0 : wr.frozen? ⟨w.heap.size, 0, none⟩ = false := by simp [World.frozen?, hbox]
      have HZ : Hid (_ ∧ _) := hf
      have HB : Hid (Below w.heap.size w ((wr.setCell ⟨w.heap.size, 0, none⟩ (.int .i64 0)).setCell ⟨w.heap.size, 1, none⟩ (.int .i64 0))) := (hnx.setCell (by simp) _).setCell (by simp) _
      clear hf hbox ha hok
      go_wp2
      exact bodyPost_ret (v := .tuple #[.int .i64 (sizeTo rs k), .agg #[.int .i64 0, .int .i64 0]]) (by simp [results, Tryz.results64, go_sem, HZ.out.1, HZ.out.2]) rfl ⟨by rw [HE.out, HO.out]; rfl, HB.out⟩

end Go.Proofs.YteckmcgihbicfaaGreat

/-
  What is written is read as it was, and what is read is written as it was: on lists.
-/
namespace Go.Proofs.YteckmcgihbicfaaGreat
open Go.RowKit

theorem nth_app_lo (xs ys : List Int) (k : Nat) (h : k < xs.length) : nth (xs ++ ys) k = nth xs k := getD_left xs ys k h
theorem nth_app_hi (xs ys : List Int) (k : Nat) : nth (xs ++ ys) (xs.length + k) = nth ys k := by
  rw [getD_right _ _ _ (by omega)]; congr 1; omega

/-- The words from the k-th instruction on. -/
theorem writeTo_split (gen bound : Int) (rs : List (Int × List Int)) (k : Nat) : writeTo gen bound rs rs.length = writeTo gen bound rs k ++ (rs.drop k).flatMap rawW := by
  unfold writeTo
  rw [List.take_length, List.append_assoc, ← List.flatMap_append, List.take_append_drop]

theorem drop_cons (rs : List (Int × List Int)) (k : Nat) (h : k < rs.length) : rs.drop k = nthR rs k :: rs.drop (k + 1) := by
  rw [List.drop_eq_getElem_cons h]; simp [nthR, List.getD, h]

theorem rest_write (gen bound : Int) (rs : List (Int × List Int)) (hok : RawsOk rs) (hsm : ∀ j, j < rs.length → (nthR rs j).2.length < 65535) :
    ∀ d k, rs.length - k = d → k ≤ rs.length → (rest (writeTo gen bound rs rs.length) (sizeTo rs k)).map (rawAt (writeTo gen bound rs rs.length)) = rs.drop k ∧ stop (writeTo gen bound rs rs.length) (sizeTo rs k) = (writeTo gen bound rs rs.length).length := by
  intro d
  induction d with
  | zero =>
    intro k hd hk
    obtain rfl : k = rs.length := by omega
    have hl := writeTo_len gen bound rs rs.length (Nat.le_refl _)
    rw [rest_end _ _ (by omega), stop_end _ _ (by omega), List.drop_length]
    exact ⟨rfl, hl.symm⟩
  | succ d ih =>
    intro k hd hk
    have hkl : k < rs.length := by omega
    obtain ⟨o1, o2, o3, _⟩ := hok k hkl
    have hs := hsm k hkl
    have hlk := writeTo_len gen bound rs k hk
    have hln := writeTo_len gen bound rs rs.length (Nat.le_refl _)
    have hsp := writeTo_split gen bound rs k
    rw [drop_cons rs k hkl, List.flatMap_cons] at hsp
    generalize hw : writeTo gen bound rs rs.length = ws at *
    have hzl : ws.length = sizeTo rs k + (1 + (nthR rs k).2.length + ((rs.drop (k + 1)).flatMap rawW).length) := by
      rw [hsp, List.length_append, List.length_append, hlk]; simp [rawW]; omega
    have hx : nth ws (sizeTo rs k) = ((nthR rs k).2.length + 1 : Int) * 65536 + (nthR rs k).1 := by
      have h0 := nth_app_hi (writeTo gen bound rs k) (rawW (nthR rs k) ++ (rs.drop (k + 1)).flatMap rawW) 0
      rw [← hsp, hlk] at h0
      exact h0
    have hc : cntN ws (sizeTo rs k) = (nthR rs k).2.length + 1 := by unfold cntN; rw [hx]; omega
    have ho : opI ws (sizeTo rs k) = (nthR rs k).1 := by unfold opI; rw [hx]; omega
    have hb : badB ws (sizeTo rs k) = false := badB_false (fun h => by
      unfold badAt at h
      rw [hc] at h
      omega)
    have hm : midL ws (sizeTo rs k + 1) (cntN ws (sizeTo rs k) - 1) = (nthR rs k).2 := by
      rw [hc, hsp, midL, ← hlk]
      have : (writeTo gen bound rs k ++ (rawW (nthR rs k) ++ (rs.drop (k + 1)).flatMap rawW)) = (writeTo gen bound rs k ++ [((nthR rs k).2.length + 1 : Int) * 65536 + (nthR rs k).1]) ++ ((nthR rs k).2 ++ (rs.drop (k + 1)).flatMap rawW) := by simp [rawW]
      rw [this, List.drop_left' (by simp), Nat.add_sub_cancel, List.take_left' rfl]
    have hnx : sizeTo rs k + cntN ws (sizeTo rs k) = sizeTo rs (k + 1) := by rw [hc, sizeTo_succ rs k hkl]; omega
    obtain ⟨i1, i2⟩ := ih (k + 1) (by omega) (by omega)
    rw [rest_go ws _ (by omega) hb, stop_go ws _ (by omega) hb, hnx, List.map_cons, i1, i2, drop_cons rs k hkl]
    refine ⟨?_, rfl⟩
    congr 1
    unfold rawAt
    rw [ho, hm]

theorem headE_write (gen bound : Int) (ys : List Int) (hb1 : ¬ bound = 0) (hb2 : ¬ 65536 < bound) : headE ([119734787, 65536, gen, bound, 0] ++ ys) 0 = (0, 0) := by
  have hl : 5 ≤ ([119734787, 65536, gen, bound, 0] ++ ys).length := by simp
  rw [headE_step _ 0 (by omega), if_neg (by omega), if_neg (by simp [nth, wrongE]), headE_step _ 1 (by omega), if_neg (by omega), if_neg (by simp [nth, wrongE]), headE_step _ 2 (by omega), if_neg (by omega), if_neg (by simp [wrongE]),
    headE_step _ 3 (by omega), if_neg (by omega), if_neg (by simp [nth, wrongE, hb1, hb2]), headE_step _ 4 (by omega), if_neg (by omega), if_neg (by simp [nth, wrongE])]
  exact headE_end _

theorem writeTo_within (gen bound : Int) (hg0 : 0 ≤ gen) (hg1 : gen < 4294967296) (hb0 : 0 ≤ bound) (hb1 : bound < 4294967296) (rs : List (Int × List Int)) (hok : RawsOk rs) (hsm : ∀ j, j < rs.length → (nthR rs j).2.length < 65535) : Within 4294967296 (writeTo gen bound rs rs.length) := by
  intro z hz
  unfold writeTo at hz
  rw [List.take_length, List.mem_append] at hz
  rcases hz with hz | hz
  · simp at hz; omega
  · obtain ⟨r, hr, hz⟩ := List.mem_flatMap.1 hz
    obtain ⟨j, hj, rfl⟩ := List.mem_iff_getElem.1 hr
    have e : nthR rs j = rs[j] := by simp [nthR, List.getD, hj]
    obtain ⟨o1, o2, o3, _⟩ := hok j hj
    have h1 := hsm j hj
    rw [e] at o1 o2 o3 h1
    simp only [rawW, List.mem_cons] at hz
    rcases hz with rfl | hz
    · constructor <;> omega
    · exact o3 z hz

/-- Read of what Write answers. -/
theorem read_write (gen bound : Int) (rs : List (Int × List Int)) (hok : RawsOk rs) (hz : fault rs 0 = (0, 0)) (hb1 : ¬ bound = 0) (hb2 : ¬ 65536 < bound) :
    readE (writeTo gen bound rs rs.length) = (0, 0) ∧ readL (writeTo gen bound rs rs.length) = rs ∧ readAt (writeTo gen bound rs rs.length) 2 = gen ∧ readAt (writeTo gen bound rs rs.length) 3 = bound := by
  have hn := fault_none rs (by rw [hz])
  have hlen := writeTo_len gen bound rs rs.length (Nat.le_refl _)
  obtain ⟨h1, h2⟩ := rest_write gen bound rs hok (fun j hj => (hn rs.length (Nat.le_refl _)).2 j hj) rs.length 0 rfl (by omega)
  rw [sizeTo_zero] at h1 h2
  rw [List.drop_zero] at h1
  have hh : headE (writeTo gen bound rs rs.length) 0 = (0, 0) := headE_write gen bound _ hb1 hb2
  have he : readE (writeTo gen bound rs rs.length) = (0, 0) := by
    unfold readE
    rw [if_neg (by have := (hn rs.length (Nat.le_refl _)).1; omega), hh, if_neg (by simp), if_neg (by omega)]
  refine ⟨he, ?_, ?_, ?_⟩
  · unfold readL; rw [he, if_pos rfl]; exact h1
  · unfold readAt; rw [he, if_pos rfl]; rfl
  · unfold readAt; rw [he, if_pos rfl]; rfl

end Go.Proofs.YteckmcgihbicfaaGreat

/-
  What is read is written as it was, and its instructions lie one behind the other: on lists.
-/
namespace Go.Proofs.YteckmcgihbicfaaGreat
open Go.RowKit

theorem readR_len (zs : List Int) : (readR zs).length = (rest zs 5).length := by simp [readR]

theorem headE_ok (zs : List Int) (h : (headE zs 0).1 = 0) : 5 ≤ zs.length ∧ zs.take 5 = [119734787, 65536, nth zs 2, nth zs 3, 0] ∧ nth zs 3 ≠ 0 ∧ ¬ 65536 < nth zs 3 := by
  by_cases l0 : zs.length ≤ 0
  · rw [headE_step _ 0 (by omega), if_pos l0] at h; simp at h
  by_cases w0 : wrongE 0 (nth zs 0) ≠ 0
  · rw [headE_step _ 0 (by omega), if_neg l0, if_pos w0] at h; exact absurd h w0
  rw [headE_step _ 0 (by omega), if_neg l0, if_neg w0] at h
  by_cases l1 : zs.length ≤ 1
  · rw [headE_step _ 1 (by omega), if_pos l1] at h; simp at h
  by_cases w1 : wrongE 1 (nth zs 1) ≠ 0
  · rw [headE_step _ 1 (by omega), if_neg l1, if_pos w1] at h; exact absurd h w1
  rw [headE_step _ 1 (by omega), if_neg l1, if_neg w1] at h
  by_cases l2 : zs.length ≤ 2
  · rw [headE_step _ 2 (by omega), if_pos l2] at h; simp at h
  by_cases w2 : wrongE 2 (nth zs 2) ≠ 0
  · rw [headE_step _ 2 (by omega), if_neg l2, if_pos w2] at h; exact absurd h w2
  rw [headE_step _ 2 (by omega), if_neg l2, if_neg w2] at h
  by_cases l3 : zs.length ≤ 3
  · rw [headE_step _ 3 (by omega), if_pos l3] at h; simp at h
  by_cases w3 : wrongE 3 (nth zs 3) ≠ 0
  · rw [headE_step _ 3 (by omega), if_neg l3, if_pos w3] at h; exact absurd h w3
  rw [headE_step _ 3 (by omega), if_neg l3, if_neg w3] at h
  by_cases l4 : zs.length ≤ 4
  · rw [headE_step _ 4 (by omega), if_pos l4] at h; simp at h
  by_cases w4 : wrongE 4 (nth zs 4) ≠ 0
  · rw [headE_step _ 4 (by omega), if_neg l4, if_pos w4] at h; exact absurd h w4
  have w0' : wrongE 0 (nth zs 0) = 0 := Decidable.not_not.1 w0
  have w1' : wrongE 1 (nth zs 1) = 0 := Decidable.not_not.1 w1
  have w3' : wrongE 3 (nth zs 3) = 0 := Decidable.not_not.1 w3
  have w4' : wrongE 4 (nth zs 4) = 0 := Decidable.not_not.1 w4
  have e0 : nth zs 0 = 119734787 := by
    unfold wrongE at w0'; rw [if_pos rfl] at w0'
    split at w0'
    · simp at w0'
    · split at w0'
      · assumption
      · simp at w0'
  have e1 : nth zs 1 = 65536 := by
    unfold wrongE at w1'; rw [if_neg (by omega), if_pos rfl] at w1'
    split at w1'
    · assumption
    · simp at w1'
  have e3 : nth zs 3 ≠ 0 ∧ ¬ 65536 < nth zs 3 := by
    unfold wrongE at w3'; rw [if_neg (by omega), if_neg (by omega), if_pos rfl] at w3'
    split at w3'
    · simp at w3'
    · split at w3'
      · simp at w3'
      · exact ⟨by assumption, by assumption⟩
  have e4 : nth zs 4 = 0 := by
    unfold wrongE at w4'; rw [if_neg (by omega), if_neg (by omega), if_neg (by omega), if_pos rfl] at w4'
    split at w4'
    · assumption
    · simp at w4'
  refine ⟨by omega, ?_, e3.1, e3.2⟩
  rw [take_snoc zs 4 (by omega), take_snoc zs 3 (by omega), take_snoc zs 2 (by omega), take_snoc zs 1 (by omega), take_snoc zs 0 (by omega), e0, e1, e4]
  rfl

theorem readE_ok (zs : List Int) (h : (readE zs).1 = 0) : zs.length ≤ 1048576 ∧ (headE zs 0).1 = 0 ∧ zs.length ≤ stop zs 5 := by
  unfold readE at h
  by_cases h1 : 1048576 < zs.length
  · rw [if_pos h1] at h; simp at h
  · rw [if_neg h1] at h
    by_cases h2 : (headE zs 0).1 ≠ 0
    · rw [if_pos h2] at h; exact absurd h h2
    · rw [if_neg h2] at h
      by_cases h3 : stop zs 5 < zs.length
      · rw [if_pos h3] at h; simp at h
      · exact ⟨by omega, Decidable.not_not.1 h2, by omega⟩

theorem rest_nil_stop (zs : List Int) (p : Nat) (h : rest zs p = []) : stop zs p = p := by
  by_cases hp : p < zs.length
  · cases hb : badB zs p with
    | true => exact stop_bad zs p hp hb
    | false => rw [rest_go zs p hp hb] at h; simp at h
  · exact stop_end zs p (by omega)

theorem rest_cons_at (zs : List Int) (p q : Nat) (l : List Nat) (h : rest zs p = q :: l) : p = q ∧ p < zs.length ∧ badB zs p = false ∧ rest zs (p + cntN zs p) = l := by
  by_cases hp : p < zs.length
  · cases hb : badB zs p with
    | true => rw [rest_bad zs p hp hb] at h; simp at h
    | false =>
      rw [rest_go zs p hp hb] at h
      injection h with h1 h2
      exact ⟨h1, hp, rfl, h2⟩
  · rw [rest_end zs p (by omega)] at h; simp at h

theorem rawW_at (zs : List Int) (hw : Within 4294967296 zs) (p : Nat) (hp : p < zs.length) (hb : badB zs p = false) : zs.take p ++ rawW (rawAt zs p) = zs.take (p + cntN zs p) := by
  have h1 := cnt_pos hb
  have h2 := cnt_fits hb
  have hx : 0 ≤ nth zs p := (hw.at hp).1
  have hl : (midL zs (p + 1) (cntN zs p - 1)).length = cntN zs p - 1 := midL_len zs _ _ (by omega)
  have hv : (((rawAt zs p).2.length : Int) + 1) * 65536 + (rawAt zs p).1 = nth zs p := by
    show (((midL zs (p + 1) (cntN zs p - 1)).length : Int) + 1) * 65536 + opI zs p = _
    rw [hl]
    have := cntN_int zs p hx
    unfold opI
    omega
  have e : zs.take (p + cntN zs p) = zs.take (p + 1) ++ midL zs (p + 1) (cntN zs p - 1) := by
    rw [show p + cntN zs p = (p + 1) + (cntN zs p - 1) by omega, List.take_add]; rfl
  rw [e, take_snoc zs p hp, rawW, hv, List.append_assoc]
  rfl

/-- The k-th place is how many words stand ahead of it; they are the words that are written. -/
theorem back_to (zs : List Int) (hw : Within 4294967296 zs) (hh : (headE zs 0).1 = 0) : ∀ k, k ≤ (rest zs 5).length →
    sizeTo (readR zs) k ≤ zs.length ∧ rest zs (sizeTo (readR zs) k) = (rest zs 5).drop k ∧ stop zs (sizeTo (readR zs) k) = stop zs 5 ∧ writeTo (nth zs 2) (nth zs 3) (readR zs) k = zs.take (sizeTo (readR zs) k)
  | 0, _ => by
    obtain ⟨h1, h2, _⟩ := headE_ok zs hh
    rw [sizeTo_zero]
    exact ⟨h1, rfl, rfl, by rw [h2]; simp [writeTo]⟩
  | k + 1, hk => by
    obtain ⟨i1, i2, i3, i4⟩ := back_to zs hw hh k (by omega)
    have hc : (rest zs 5).drop k = (rest zs 5).getD k 0 :: (rest zs 5).drop (k + 1) := by
      rw [List.drop_eq_getElem_cons (by omega)]; simp [List.getD, show k < (rest zs 5).length by omega]
    rw [hc] at i2
    obtain ⟨e, hp, hb, hn⟩ := rest_cons_at zs _ _ _ i2
    have hkr : k < (readR zs).length := by rw [readR_len]; omega
    have hr : nthR (readR zs) k = rawAt zs (sizeTo (readR zs) k) := by
      rw [e]; unfold readR; exact nthR_map _ _ _ (by omega)
    have h1 := cnt_pos hb
    have h2 := cnt_fits hb
    have hs : sizeTo (readR zs) (k + 1) = sizeTo (readR zs) k + cntN zs (sizeTo (readR zs) k) := by
      rw [sizeTo_succ _ _ hkr, hr]
      show _ + 1 + (midL zs _ _).length = _
      rw [midL_len zs _ _ (by omega)]; omega
    rw [hs]
    refine ⟨h2, hn, ?_, ?_⟩
    · rw [← stop_go zs _ hp hb]; exact i3
    · rw [writeTo_succ _ _ _ _ hkr, i4, hr]; exact rawW_at zs hw _ hp hb

/-- The k-th place. -/
theorem place_at (zs : List Int) (hw : Within 4294967296 zs) (hh : (headE zs 0).1 = 0) (k : Nat) (hk : k < (rest zs 5).length) : (rest zs 5).getD k 0 = sizeTo (readR zs) k := by
  obtain ⟨_, i2, _, _⟩ := back_to zs hw hh k (by omega)
  have hc : (rest zs 5).drop k = (rest zs 5).getD k 0 :: (rest zs 5).drop (k + 1) := by
    rw [List.drop_eq_getElem_cons (by omega)]; simp [List.getD, hk]
  rw [hc] at i2
  exact (rest_cons_at zs _ _ _ i2).1.symm

theorem back_fault (zs : List Int) (hw : Within 4294967296 zs) (hh : (headE zs 0).1 = 0) (hl : zs.length ≤ 1048576) : ∀ d k, (readR zs).length - k = d → fault (readR zs) k = (0, 0)
  | 0, k, h => fault_end _ _ (by omega)
  | d + 1, k, h => by
    have hk : k < (readR zs).length := by omega
    have hk' : k < (rest zs 5).length := by rw [← readR_len]; exact hk
    rw [fault_step _ _ hk, if_neg, if_neg, back_fault zs hw hh hl d (k + 1) (by omega)]
    · have := (back_to zs hw hh (k + 1) (by omega)).1; omega
    · have hr : nthR (readR zs) k = rawAt zs ((rest zs 5).getD k 0) := by unfold readR; exact nthR_map _ _ _ hk'
      obtain ⟨_, h2, h3⟩ := rest_mem zs 5 ((rest zs 5).getD k 0) (by simp [List.getD, hk'])
      have hx := (hw.at h2).2
      have h4 := cnt_fits h3
      have h5 := cnt_pos h3
      rw [hr]
      show ¬ 65535 ≤ (midL zs _ _).length
      rw [midL_len zs _ _ (by omega)]
      unfold cntN at *
      omega

/-- What is read is written as it was. -/
theorem write_read (zs : List Int) (hw : Within 4294967296 zs) (h : (readE zs).1 = 0) :
    5 ≤ zs.length ∧ nth zs 3 ≠ 0 ∧ ¬ 65536 < nth zs 3 ∧ fault (readR zs) 0 = (0, 0) ∧ sizeTo (readR zs) (readR zs).length = zs.length ∧ writeTo (nth zs 2) (nth zs 3) (readR zs) (readR zs).length = zs := by
  obtain ⟨h1, h2, h3⟩ := readE_ok zs h
  obtain ⟨h4, _, h5, h6⟩ := headE_ok zs h2
  obtain ⟨i1, i2, i3, i4⟩ := back_to zs hw h2 (rest zs 5).length (Nat.le_refl _)
  rw [List.drop_length] at i2
  have hs : sizeTo (readR zs) (rest zs 5).length = zs.length := by
    have := rest_nil_stop zs _ i2
    omega
  rw [readR_len]
  refine ⟨h4, h5, h6, back_fault zs hw h2 h1 _ 0 rfl, hs, ?_⟩
  rw [i4, hs, List.take_length]

theorem sizeTo_lt (rs : List (Int × List Int)) : ∀ k j, j < k → k ≤ rs.length → sizeTo rs j < sizeTo rs k
  | 0, j, h, _ => by omega
  | k + 1, j, h, hk => by
    rw [sizeTo_succ rs k (by omega)]
    by_cases e : j = k
    · subst e; omega
    · have := sizeTo_lt rs k j (by omega) (by omega); omega

/-- The k-th instruction: its place, its operation, its words; and Find finds it. -/
theorem told_at (zs : List Int) (hw : Within 4294967296 zs) (h : (readE zs).1 = 0) (k : Nat) (hk : k < (readR zs).length) :
    (rest zs 5).getD k 0 = sizeTo (readR zs) k ∧ opI zs (sizeTo (readR zs) k) = (nthR (readR zs) k).1 ∧ midL zs (sizeTo (readR zs) k + 1) (cntN zs (sizeTo (readR zs) k) - 1) = (nthR (readR zs) k).2 ∧ cntN zs (sizeTo (readR zs) k) = (nthR (readR zs) k).2.length + 1 ∧ sizeTo (readR zs) k < zs.length := by
  have hh := (readE_ok zs h).2.1
  have hk' : k < (rest zs 5).length := by rw [← readR_len]; exact hk
  have e := place_at zs hw hh k hk'
  have hr : nthR (readR zs) k = rawAt zs (sizeTo (readR zs) k) := by rw [← e]; unfold readR; exact nthR_map _ _ _ hk'
  obtain ⟨_, h2, h3⟩ := rest_mem zs 5 ((rest zs 5).getD k 0) (by simp [List.getD, hk'])
  rw [e] at h2 h3
  have h4 := cnt_fits h3
  have h5 := cnt_pos h3
  rw [hr]
  refine ⟨e, rfl, rfl, ?_, h2⟩
  show _ = (midL zs _ _).length + 1
  rw [midL_len zs _ _ (by omega)]; omega

/-- Find finds each instruction at its place. -/
theorem find_there (zs : List Int) (k : Nat) (hk : k < (rest zs 5).length) (hinc : ∀ j, j < k → (rest zs 5).getD j 0 < (rest zs 5).getD k 0) :
    findAt zs (opI zs ((rest zs 5).getD k 0)) ((rest zs 5).getD k 0) = (((rest zs 5).getD k 0 : Nat) : Int) ∧ findIs zs (opI zs ((rest zs 5).getD k 0)) ((rest zs 5).getD k 0) = true := by
  have h : findP zs (opI zs ((rest zs 5).getD k 0)) (((rest zs 5).getD k 0 : Nat) : Int) = some ((rest zs 5).getD k 0) := by
    unfold findP
    refine find_at _ _ k hk (fun j hj => ?_) ?_
    · have := hinc j hj
      generalize (rest zs 5).getD j 0 = x at *
      generalize (rest zs 5).getD k 0 = y at *
      have hd : decide ((y : Int) ≤ (x : Int)) = false := decide_eq_false (by omega)
      unfold isAt
      rw [hd]; rfl
    · unfold isAt
      rw [decide_eq_true (Int.le_refl _)]; simp
  exact ⟨findAt_some h, findIs_some h⟩

theorem find_told (zs : List Int) (hw : Within 4294967296 zs) (h : (readE zs).1 = 0) (k : Nat) (hk : k < (readR zs).length) :
    findAt zs (nthR (readR zs) k).1 (sizeTo (readR zs) k : Nat) = (sizeTo (readR zs) k : Nat) ∧ findIs zs (nthR (readR zs) k).1 (sizeTo (readR zs) k : Nat) = true := by
  have hh := (readE_ok zs h).2.1
  have hk' : k < (rest zs 5).length := by rw [← readR_len]; exact hk
  obtain ⟨t1, t2, _⟩ := told_at zs hw h k hk
  have := find_there zs k hk' (fun j hj => by
    rw [t1, place_at zs hw hh j (by omega)]
    exact sizeTo_lt _ k j hj (by omega))
  rw [t1, t2] at this
  exact this

end Go.Proofs.YteckmcgihbicfaaGreat
