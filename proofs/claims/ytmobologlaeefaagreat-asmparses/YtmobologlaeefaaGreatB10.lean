/-
  Texts laid together in one: MathB, MathA2, LexKinds.
-/
import Derived.Test.YtmobologlaeefaaGreatB09
import Derived.WalkSpells
import Derived.Test.YtmobologlaeefaaGreatProg
import Derived.Test.YtmobologlaeefaaGreatB01
/-
  Plain facts: an instruction's words say the instruction, and the words of the instruction that words say are those words.
-/
namespace Go.Proofs.YtmobologlaeefaaGreat
open Go.RowKit
set_option linter.unusedVariables false

/-! ### a text's words -/

theorem zeroAt_eq {js : List Int} {n : Nat} (h0 : ∀ i, i < n → nth js i ≠ 0) (hn : n < js.length) (h1 : nth js n = 0) : zeroAt js = n := by
  have hlt : zeroAt js < js.length := by
    unfold zeroAt
    rw [List.findIdx_lt_length]
    refine ⟨js[n], List.getElem_mem hn, ?_⟩
    rw [nth_lt _ _ hn] at h1
    simp [h1]
  rcases Nat.lt_trichotomy (zeroAt js) n with h | h | h
  · exact absurd (zeroAt_at js hlt) (h0 _ h)
  · exact h
  · exact absurd h1 (zeroAt_before js n h hn)

theorem textI_textW (s : ByteArray) (ys : List Int) (hs : NoNul s) : textI (textW s ++ ys) = (s, ((s.size / 4 : Nat) : Int) + 1, 0) := by
  have hlen : (joinL (textW s ++ ys)).length = 4 * (s.size / 4 + 1) + 4 * ys.length := by rw [joinL_len, List.length_append, textW_len]; omega
  have hz : zeroAt (joinL (textW s ++ ys)) = s.size := by
    refine zeroAt_eq (fun i hi => ?_) (by omega) ?_
    · rw [joinL_text_lo s ys i (by omega), padI_lo s i hi]; exact hs i hi
    · rw [joinL_text_lo s ys s.size (by omega), padI_hi s s.size (Nat.le_refl _)]
  have hp : padBad (joinL (textW s ++ ys)) = false := by
    cases h : padBad (joinL (textW s ++ ys)) with
    | false => rfl
    | true =>
      obtain ⟨q, h1, h2, h3⟩ := (padBad_iff (L := s.size / 4) (P := s.size % 4) (by rw [hz]; omega) (by omega) (by omega)).1 h
      rw [joinL_text_lo s ys _ (by omega), padI_hi s _ (by omega)] at h3
      exact absurd rfl h3
  unfold textI
  rw [if_neg (by omega), if_neg (by simp [hp]), hz, text_take, str_of_strI]

theorem strI_strOf {js : List Int} (h : Within 256 js) : strI (strOfNums js) = js := by
  have hsz : (strOfNums js).size = js.length := strOfNums_size js
  refine nth_ext (by rw [strI_len, hsz]) fun k hk => ?_
  rw [strI_len, hsz] at hk
  rw [nth_strI _ _ (by rw [hsz]; exact hk)]
  have hb := h.at hk
  have e : (strOfNums js).data.toList = js.map fun z => z.toNat.toUInt8 := by simp [strOfNums]
  have hg : (strOfNums js)[k]'(by rw [hsz]; exact hk) = (js[k]).toNat.toUInt8 := by
    have : (strOfNums js)[k]'(by rw [hsz]; exact hk) = (strOfNums js).data.toList[k]'(by rw [size_list, hsz]; exact hk) := rfl
    rw [this]
    simp only [e, List.getElem_map]
  rw [hg, nth_lt _ _ hk]
  rw [nth_lt _ _ hk] at hb
  have : (js[k]).toNat.toUInt8.toNat = (js[k]).toNat % 256 := by simp
  rw [this]; omega

/-- The words of a text that was read are those that it was read of. -/
theorem textW_textI {zs : List Int} (hw : Within 4294967296 zs) (h : (textI zs).2.2 = 0) : textW (textI zs).1 = zs.take (textI zs).2.1.toNat ∧ NoNul (textI zs).1 := by
  obtain ⟨h1, h2, h3⟩ := textI_some h
  have hl := joinL_len zs
  rw [h3]
  simp only
  generalize hN : zeroAt (joinL zs) = N at *
  have hws : Within 256 ((joinL zs).take N) := within_take (joinL_within zs)
  have hsI := strI_strOf hws
  have hsz : (strOfNums ((joinL zs).take N)).size = N := by rw [strOfNums_size, List.length_take]; omega
  have hnt : ((((N / 4 : Nat) : Int) + 1)).toNat = N / 4 + 1 := by omega
  rw [hnt]
  constructor
  · -- both have the same bytes
    have hb : joinL (textW (strOfNums ((joinL zs).take N))) = joinL (zs.take (N / 4 + 1)) := by
      rw [joinL_textW, joinL_take]
      refine nth_ext (by rw [padI_len, hsz, List.length_take]; omega) fun k hk => ?_
      rw [padI_len, hsz] at hk
      rw [nth_take _ _ _ hk]
      by_cases hkN : k < N
      · rw [padI_lo _ _ (by rw [hsz]; exact hkN), hsI, nth_take _ _ _ hkN]
      · rw [padI_hi _ _ (by rw [hsz]; omega)]
        by_cases hke : k = N
        · subst hke; rw [← hN]; exact (zeroAt_at _ (by rw [hN]; exact h1)).symm
        · apply Classical.byContradiction
          intro hne
          have : padBad (joinL zs) = true := (padBad_iff (L := N / 4) (P := N % 4) (by rw [hN]; omega) (by omega) (by omega)).2 ⟨k - 4 * (N / 4), by omega, by omega, by rw [show 4 * (N / 4) + (k - 4 * (N / 4)) = k by omega]; exact fun e => hne e.symm⟩
          rw [h2] at this; cases this
    have e1 := split_join (textW (strOfNums ((joinL zs).take N))) (textW_within _)
    have e2 := split_join (zs.take (N / 4 + 1)) (within_of_take hw)
    rw [← e1, hb, e2]
  · intro k hk
    rw [hsz] at hk
    rw [hsI, nth_take _ _ _ hk]
    exact zeroAt_before _ k (by rw [hN]; exact hk) (by omega)

/-! ### one argument -/

theorem noneB_more {n b c : Int} (h : noneB n b = false) (hbc : b ≤ c) : noneB n c = false := by
  unfold noneB at *
  simp at *
  omega

theorem argI_words {c b m : Int} {x : ArgT} (ys : List Int) (h : wrongA c x b = 0) (hb : b ≤ m) : argI c (wordsA x ++ ys) m = (x, ((wordsA x).length : Int), 0) := by
  obtain ⟨xk, xn, xs⟩ := x
  unfold wrongA at h
  by_cases hm : mayStandB c (xk, xn, xs) = false
  · rw [if_pos hm] at h; cases h
  · rw [if_neg hm] at h
    have hm' : mayStandB c (xk, xn, xs) = true := by simpa using hm
    unfold mayStandB at hm'
    simp only [Bool.and_eq_true, Bool.not_eq_true', beq_eq_false_iff_ne, beq_iff_eq] at hm'
    obtain ⟨⟨hc, hk⟩, hx⟩ := hm'
    simp only at h hk hx
    by_cases h3 : xk = 3
    · rw [if_pos h3] at h hx
      subst h3
      have hx0 : xn = 0 := by simpa using hx
      subst hx0
      have hnul : nulS xs = false := by
        cases hn : nulS xs with
        | false => rfl
        | true => rw [hn] at h; cases h
      have hW : wordsA (3, 0, xs) = textW xs := by simp [wordsA]
      unfold argI
      rw [hW, if_neg (by rintro (h | h)
                         · exact hc h
                         · rw [List.length_append, textW_len] at h; omega), if_pos hk.symm, textI_textW xs ys (nulS_false.1 hnul), textW_len]
      simp
    · rw [if_neg h3] at h hx
      have hx0 : xs = ⟨#[]⟩ := size_zero (by simpa using hx)
      subst hx0
      have hW : wordsA (xk, xn, ⟨#[]⟩) = [xn] := by simp [wordsA, h3]
      have hn0 : nth ([xn] ++ ys) 0 = xn := rfl
      unfold argI
      rw [hW, if_neg (by rintro (h | h)
                         · exact hc h
                         · simp at h), if_neg (by rw [← hk]; exact h3), hn0]
      unfold faultW at h
      rw [← hk] at h ⊢
      by_cases h1 : xk = 1
      · rw [if_pos h1] at h
        have hnb : noneB xn b = false := by
          cases hn : noneB xn b with
          | false => rfl
          | true => rw [hn] at h; cases h
        rw [if_neg (by rw [noneB_more hnb hb]; simp), if_neg (by omega)]
        rfl
      · rw [if_neg h1] at h
        rw [if_neg (by simp [h1])]
        by_cases h4 : xk = 4
        · rw [if_pos h4] at h
          have he : enumB c xn = true := by
            cases hn : enumB c xn with
            | true => rfl
            | false => rw [hn] at h; cases h
          rw [if_neg (by simp [he])]
          rfl
        · rw [if_neg (by simp [h4])]
          rfl

theorem nth_take1 (zs : List Int) (h : zs.length ≠ 0) : zs.take 1 = [nth zs 0] := by
  cases zs with
  | nil => simp at h
  | cons z zs => rfl

/-- The words of an argument that was read are those that it was read of. -/
theorem argI_back {c b : Int} {zs : List Int} (hw : Within 4294967296 zs) (h : (argI c zs b).2.2 = 0) : wrongA c (argI c zs b).1 b = 0 ∧ wordsA (argI c zs b).1 = zs.take (argI c zs b).2.1.toNat ∧ 1 ≤ (argI c zs b).2.1.toNat ∧ (argI c zs b).2.1.toNat ≤ zs.length := by
  unfold argI at h ⊢
  by_cases h0 : c = 0 ∨ zs.length = 0
  · rw [if_pos h0] at h; cases h
  · rw [if_neg h0] at h ⊢
    have hc : c ≠ 0 := fun e => h0 (.inl e)
    have hl : zs.length ≠ 0 := fun e => h0 (.inr e)
    by_cases h3 : kindI c = 3
    · rw [if_pos h3] at h ⊢
      simp only at h ⊢
      obtain ⟨e1, e2⟩ := textW_textI hw h
      obtain ⟨r1, r2, r3, r4, r5⟩ := textI_range zs
      have r3' := r3 h
      refine ⟨?_, ?_, by omega, by omega⟩
      · unfold wrongA mayStandB
        simp [hc, h3, nulS_false.2 e2]
      · unfold wordsA
        rw [if_pos rfl]; exact e1
    · rw [if_neg h3] at h ⊢
      by_cases h1 : kindI c = 1 ∧ noneB (nth zs 0) b = true
      · rw [if_pos h1] at h; cases h
      · rw [if_neg h1] at h ⊢
        by_cases h4 : kindI c = 4 ∧ enumB c (nth zs 0) = false
        · rw [if_pos h4] at h; cases h
        · rw [if_neg h4] at h ⊢
          simp only
          refine ⟨?_, ?_, by omega, by omega⟩
          · have hm : mayStandB c (kindI c, nth zs 0, ⟨#[]⟩) = true := by unfold mayStandB; simp [hc, h3, ByteArray.size]
            unfold wrongA
            rw [if_neg (by simp [hm]), if_neg h3]
            unfold faultW
            simp only
            by_cases k1 : kindI c = 1
            · rw [if_pos k1, if_neg (fun e => h1 ⟨k1, e⟩)]
            · rw [if_neg k1]
              by_cases k4 : kindI c = 4
              · rw [if_pos k4]
                have : enumB c (nth zs 0) = true := by
                  cases hn : enumB c (nth zs 0) with
                  | true => rfl
                  | false => exact absurd ⟨k4, hn⟩ h4
                rw [if_pos this]
              · rw [if_neg k4]
          · unfold wordsA
            rw [if_neg h3]
            exact (nth_take1 zs hl).symm

/-! ### all arguments -/

theorem wordsL_cons (x : ArgT) (l : List ArgT) : wordsL (x :: l) = wordsA x ++ wordsL l := rfl
theorem wordsA_pos (x : ArgT) : 1 ≤ (wordsA x).length := by rw [wordsA_len]; split <;> omega

theorem argsI_words (f : Frm) {b m : Int} (hb : b ≤ m) : ∀ (l acc : List ArgT) (fuel : Nat), wrongL f b acc.length l = 0 → wholeN f ((acc.length + l.length : Nat) : Int) = true → (wordsL l).length < fuel → argsI f m fuel (wordsL l) acc = (acc ++ l, 0)
  | [], acc, 0, _, _, hf => by omega
  | [], acc, fuel + 1, _, hw, _ => by
    rw [argsI, if_pos (by simp [wordsL]), if_pos (by simpa using hw), List.append_nil]
  | x :: l, acc, 0, _, _, hf => by omega
  | x :: l, acc, fuel + 1, h, hw, hf => by
    rw [wrongL] at h
    by_cases h0 : wrongA (letterI f acc.length) x b = 0
    · rw [if_pos h0] at h
      have hp := wordsA_pos x
      have ha := argI_words (wordsL l) h0 hb
      rw [wordsL_cons, List.length_append] at hf
      rw [wordsL_cons, argsI, if_neg (by rw [List.length_append]; omega), ha]
      simp only
      rw [if_neg (by simp), Int.toNat_natCast, List.drop_left]
      have := argsI_words f hb l (acc ++ [x]) fuel (by rw [List.length_append]; exact h) (by rw [List.length_append, List.length_singleton]; rw [List.length_cons] at hw; rw [show acc.length + 1 + l.length = acc.length + (l.length + 1) by omega]; exact hw) (by omega)
      rw [this, List.append_assoc]; rfl
    · rw [if_neg h0] at h; exact absurd h h0

theorem argsI_back (f : Frm) (b : Int) : ∀ (fuel : Nat) (zs : List Int) (acc : List ArgT), Within 4294967296 zs → (argsI f b fuel zs acc).2 = 0 → ∃ l, (argsI f b fuel zs acc).1 = acc ++ l ∧ wrongL f b acc.length l = 0 ∧ wordsL l = zs ∧ wholeN f ((acc.length + l.length : Nat) : Int) = true
  | 0, zs, acc, _, h => by rw [argsI] at h; cases h
  | fuel + 1, zs, acc, hw, h => by
    rw [argsI] at h ⊢
    by_cases h0 : zs.length = 0
    · rw [if_pos h0] at h ⊢
      by_cases h1 : wholeN f acc.length = true
      · rw [if_pos h1]
        exact ⟨[], by simp, rfl, by rw [List.eq_nil_of_length_eq_zero h0]; rfl, by simpa using h1⟩
      · rw [if_neg h1] at h; cases h
    · rw [if_neg h0] at h ⊢
      by_cases h1 : (argI (letterI f acc.length) zs b).2.2 = 0
      · rw [if_neg (by simp [h1])] at h ⊢
        obtain ⟨a1, a2, a3, a4⟩ := argI_back hw h1
        generalize argI (letterI f acc.length) zs b = r at *
        obtain ⟨l, e1, e2, e3, e4⟩ := argsI_back f b fuel _ _ (fun z hz => hw z (List.mem_of_mem_drop hz)) h
        refine ⟨r.1 :: l, by rw [e1, List.append_assoc]; rfl, ?_, ?_, ?_⟩
        · rw [wrongL, if_pos a1]
          rw [List.length_append] at e2; exact e2
        · rw [wordsL_cons, a2, e3, List.take_append_drop]
        · rw [List.length_append, List.length_singleton] at e4
          rw [List.length_cons, show acc.length + (l.length + 1) = acc.length + 1 + l.length by omega]; exact e4
      · rw [if_pos h1] at h; exact absurd h h1

/-! ### an instruction -/

theorem idE_zero {must : Bool} {n b e : Int} (he : e ≠ 0) (h : idE must n b e = 0) : (must = true → noneB n b = false) ∧ (must = false → n = 0) := by
  unfold idE at h
  cases must with
  | true =>
    refine ⟨fun _ => ?_, (fun h => by cases h)⟩
    by_cases h0 : n = 0
    · rw [if_pos (by simp [h0])] at h; exact absurd h he
    · rw [if_neg (by simp [h0])] at h
      by_cases h1 : b ≤ n
      · rw [if_pos (by simp [h1])] at h; cases h
      · unfold noneB; simp [h0, h1]
  | false =>
    refine ⟨(fun h => by cases h), fun _ => ?_⟩
    by_cases h0 : n = 0
    · exact h0
    · rw [if_pos (by simp [h0])] at h; exact absurd h he
theorem idE_none {n b e : Int} (h : noneB n b = false) : idE true n b e = 0 := by
  unfold noneB at h
  simp at h
  unfold idE
  simp [h.1]; omega
theorem idE_absent {b e : Int} : idE false 0 b e = 0 := by unfold idE; simp

theorem instI_words {x : InstT} {b m : Int} (h : rawE x b = 0) (hb : b ≤ m) : instI x.1 (rawWs x b) m = (x, 0) := by
  obtain ⟨h1, h2, h3⟩ := rawWs_ok h
  have hlen := rawWs_len x b
  obtain ⟨t1, t2, t3, t4, t5⟩ := faultI_zero h2
  obtain ⟨t1a, t1b⟩ := idE_zero (by decide) t1
  obtain ⟨t2a, t2b⟩ := idE_zero (by decide) t2
  unfold instI
  rw [if_neg (by omega), if_neg (by simp [h1]), h3]
  rw [h3] at hlen
  generalize (lookF refT x.1).1 = f at *
  obtain ⟨xo, xt, xr, xl⟩ := x
  simp only at *
  have hd : (rawL f (xo, xt, xr, xl)).drop (f.2.1.toNat + f.2.2.1.toNat) = wordsL xl := by
    unfold rawL headW
    simp only
    cases f.2.1 <;> cases f.2.2.1 <;> rfl
  have hty : headTy f.2.1 (rawL f (xo, xt, xr, xl)) m = (xt, 0) := by
    unfold headTy rawL headW
    simp only
    cases e1 : f.2.1 with
    | true =>
      have := noneB_more (t1a e1) hb
      simp [nth, this]
    | false => simp [t1b e1]
  have hre : headRes f.2.2.1 (rawL f (xo, xt, xr, xl)) m f.2.1.toNat = (xr, 0) := by
    unfold headRes rawL headW
    simp only
    cases e2 : f.2.2.1 with
    | true =>
      have := noneB_more (t2a e2) hb
      cases e1 : f.2.1 <;> simp [nth, this]
    | false => simp [t2b e2]
  have hargs : argsI f m ((rawL f (xo, xt, xr, xl)).length + 1) (wordsL xl) [] = (xl, 0) := by
    have := argsI_words f hb xl [] ((rawL f (xo, xt, xr, xl)).length + 1) (by simpa using t3) (by simpa using t4) (by unfold rawL; simp only [List.length_append]; omega)
    simpa using this
  unfold instF
  rw [hty, hre, hd, hargs]
  rfl

theorem headTy_zero {ty : Bool} {zs : List Int} {b : Int} (h : (headTy ty zs b).2 = 0) : idE ty (headTy ty zs b).1 b 40 = 0 ∧ (ty = true → 0 < zs.length ∧ (headTy ty zs b).1 = nth zs 0) ∧ (ty = false → (headTy ty zs b).1 = 0) := by
  cases ty with
  | false => exact ⟨idE_absent, (fun h => by cases h), fun _ => rfl⟩
  | true =>
    by_cases h1 : zs.length ≤ 0
    · have e : headTy true zs b = (0, 40) := by unfold headTy; rw [if_pos rfl, if_pos h1]
      rw [e] at h; cases h
    · have e : headTy true zs b = (nth zs 0, if noneB (nth zs 0) b then 43 else 0) := by unfold headTy; rw [if_pos rfl, if_neg h1]
      rw [e] at h ⊢
      have hn : noneB (nth zs 0) b = false := by
        cases hn : noneB (nth zs 0) b with
        | false => rfl
        | true => rw [hn] at h; cases h
      exact ⟨idE_none hn, fun _ => ⟨by omega, rfl⟩, (fun h => by cases h)⟩

theorem headRes_zero {re : Bool} {zs : List Int} {b : Int} {p : Nat} (h : (headRes re zs b p).2 = 0) : idE re (headRes re zs b p).1 b 41 = 0 ∧ (re = true → p < zs.length ∧ (headRes re zs b p).1 = nth zs p) ∧ (re = false → (headRes re zs b p).1 = 0) := by
  cases re with
  | false => exact ⟨idE_absent, (fun h => by cases h), fun _ => rfl⟩
  | true =>
    by_cases h1 : zs.length ≤ p
    · have e : headRes true zs b p = (0, 41) := by unfold headRes; rw [if_pos rfl, if_pos h1]
      rw [e] at h; cases h
    · have e : headRes true zs b p = (nth zs p, if noneB (nth zs p) b then 43 else 0) := by unfold headRes; rw [if_pos rfl, if_neg h1]
      rw [e] at h ⊢
      have hn : noneB (nth zs p) b = false := by
        cases hn : noneB (nth zs p) b with
        | false => rfl
        | true => rw [hn] at h; cases h
      exact ⟨idE_none hn, fun _ => ⟨by omega, rfl⟩, (fun h => by cases h)⟩

theorem instI_some {op b : Int} {zs : List Int} (h : (instI op zs b).2 = 0) : zs.length < 65535 ∧ (lookF refT op).2 = true ∧ instI op zs b = instF (lookF refT op).1 op zs b := by
  unfold instI at h ⊢
  by_cases h1 : 65535 ≤ zs.length
  · rw [if_pos h1] at h; cases h
  · rw [if_neg h1] at h ⊢
    by_cases h2 : (lookF refT op).2 = false
    · rw [if_pos h2] at h; cases h
    · rw [if_neg h2]
      exact ⟨by omega, by simpa using h2, rfl⟩
theorem instF_none {f : Frm} {op b : Int} {zs : List Int} (h : (instF f op zs b).2 ≠ 0) : (instF f op zs b).1 = noInst := by
  unfold instF at h ⊢
  split
  · rfl
  · split
    · rfl
    · split
      · rfl
      · rename_i h1 h2 h3
        rw [if_neg h1, if_neg h2, if_neg h3] at h
        exact absurd rfl h
theorem instI_none {op b : Int} {zs : List Int} (h : (instI op zs b).2 ≠ 0) : (instI op zs b).1 = noInst := by
  unfold instI at h ⊢
  split
  · rfl
  · split
    · rfl
    · rename_i h1 h2
      rw [if_neg h1, if_neg h2] at h
      exact instF_none h

/-- The words of the instruction that words say. -/
theorem rawE_instI {op b : Int} {zs : List Int} (hw : Within 4294967296 zs) (h : (instI op zs b).2 = 0) : (instI op zs b).1.1 = op ∧ rawE (instI op zs b).1 b = 0 ∧ rawWs (instI op zs b).1 b = zs := by
  obtain ⟨h1, h2, h3⟩ := instI_some h
  rw [h3] at h ⊢
  generalize hf : (lookF refT op).1 = f at *
  unfold instF at h ⊢
  by_cases k1 : (headTy f.2.1 zs b).2 = 0
  · rw [if_neg (by simp [k1])] at h ⊢
    by_cases k2 : (headRes f.2.2.1 zs b f.2.1.toNat).2 = 0
    · rw [if_neg (by simp [k2])] at h ⊢
      by_cases k3 : (argsI f b (zs.length + 1) (zs.drop (f.2.1.toNat + f.2.2.1.toNat)) []).2 = 0
      · rw [if_neg (by simp [k3])] at h ⊢
        obtain ⟨l, e1, e2, e3, e4⟩ := argsI_back f b _ _ _ (fun z hz => hw z (List.mem_of_mem_drop hz)) k3
        rw [e1]
        simp only [List.nil_append] at *
        obtain ⟨u1, u2, u3⟩ := headTy_zero k1
        obtain ⟨v1, v2, v3⟩ := headRes_zero k2
        generalize (headTy f.2.1 zs b).1 = t at *
        generalize (headRes f.2.2.1 zs b f.2.1.toNat).1 = r at *
        have hz : rawL f (op, t, r, l) = zs := by
          unfold rawL headW
          simp only
          rw [e3]
          cases c1 : f.2.1 with
          | true =>
            obtain ⟨q1, q2⟩ := u2 c1
            rw [c1] at v2
            cases c2 : f.2.2.1 with
            | true =>
              obtain ⟨q3, q4⟩ := v2 c2
              subst q2 q4
              match zs, q1, q3 with
              | a :: b :: zs, _, _ => rfl
            | false =>
              subst q2
              match zs, q1 with
              | a :: zs, _ => rfl
          | false =>
            rw [c1] at v2
            cases c2 : f.2.2.1 with
            | true =>
              obtain ⟨q3, q4⟩ := v2 c2
              subst q4
              match zs, q3 with
              | a :: zs, _ => rfl
            | false => rfl
        have hE : rawE (op, t, r, l) b = 0 := by
          unfold rawE
          simp only
          rw [if_pos h2, hf]
          unfold faultI
          simp only
          rw [if_neg (by simp [u1]), if_neg (by simp [v1]), if_neg (by simpa using e2), if_neg (by simpa using e4), hz, if_neg (by omega)]
        refine ⟨by trivial, hE, ?_⟩
        unfold rawWs
        rw [if_pos hE]
        simp only
        rw [hf, hz]
      · rw [if_pos k3] at h; exact absurd h k3
    · rw [if_pos k2] at h; exact absurd h k2
  · rw [if_pos k1] at h; exact absurd h k1

/-- By a greater bound it has the same words. -/
theorem wrongA_more {c b m : Int} {x : ArgT} (h : wrongA c x b = 0) (hb : b ≤ m) : wrongA c x m = 0 := by
  unfold wrongA at h ⊢
  split at h
  · cases h
  · rename_i h1
    rw [if_neg h1]
    split at h
    · rename_i h2
      rw [if_pos h2]; exact h
    · rename_i h2
      rw [if_neg h2]
      unfold faultW at h ⊢
      by_cases k1 : kindI c = 1
      · rw [if_pos k1] at h ⊢
        have hn : noneB x.2.1 b = false := by
          cases hn : noneB x.2.1 b with
          | false => rfl
          | true => rw [hn] at h; cases h
        rw [noneB_more hn hb]; rfl
      · rw [if_neg k1] at h ⊢; exact h
theorem wrongL_more (f : Frm) {b m : Int} (hb : b ≤ m) : ∀ (l : List ArgT) (k : Nat), wrongL f b k l = 0 → wrongL f m k l = 0
  | [], _, _ => rfl
  | x :: l, k, h => by
    rw [wrongL] at h ⊢
    by_cases h0 : wrongA (letterI f k) x b = 0
    · rw [if_pos h0] at h
      rw [if_pos (wrongA_more h0 hb)]
      exact wrongL_more f hb l _ h
    · rw [if_neg h0] at h; exact absurd h h0
theorem idE_more {must : Bool} {n b m e : Int} (he : e ≠ 0) (hb : b ≤ m) (h : idE must n b e = 0) : idE must n m e = 0 := by
  obtain ⟨h1, h2⟩ := idE_zero he h
  cases must with
  | true => exact idE_none (noneB_more (h1 rfl) hb)
  | false => rw [h2 rfl]; exact idE_absent
theorem raw_more {x : InstT} {b m : Int} (h : rawE x b = 0) (hb : b ≤ m) : rawE x m = 0 ∧ rawWs x m = rawWs x b := by
  obtain ⟨h1, h2, h3⟩ := rawWs_ok h
  obtain ⟨t1, t2, t3, t4, t5⟩ := faultI_zero h2
  have hE : rawE x m = 0 := by
    unfold rawE
    rw [if_pos h1]
    unfold faultI
    rw [if_neg (by simp [idE_more (by decide) hb t1]), if_neg (by simp [idE_more (by decide) hb t2]), if_neg (by simp [wrongL_more _ hb _ _ t3]), if_neg (by simp [t4]), if_neg (by omega)]
  refine ⟨hE, ?_⟩
  rw [h3]
  unfold rawWs
  rw [if_pos hE]

end Go.Proofs.YtmobologlaeefaaGreat

/-
  Plain facts on what a line's tokens say: an argument that is taken is a right one; an instruction whose arguments are taken can be written but for its length.
-/
namespace Go.Proofs.YtmobologlaeefaaGreat
open Go.RowKit
set_option linter.unusedVariables false
set_option linter.unusedSimpArgs false
set_option maxRecDepth 10000

theorem ops_known : opsL.all (fun k => (lookF refT (k : Int)).2 && decide (k < 65536)) = true := by decide +kernel
theorem op_known {k : Nat} {p : Nat → Bool} (h : opsL.find? p = some k) : (lookF refT (k : Int)).2 = true ∧ k < 65536 := by
  have := List.all_eq_true.1 ops_known k (List.mem_of_find?_eq_some h)
  simpa using this
theorem kind_zero : kindI 0 = 0 := by decide +kernel
theorem kind_i : kindI 105 = 1 := by decide +kernel
theorem take_zero : takeK 0 = 0 := by unfold takeK; rw [kind_zero]; rfl
theorem take_i : takeK 105 = 2 := by unfold takeK; rw [kind_i]; rfl
theorem kindI_most (c : Int) : 0 ≤ kindI c ∧ kindI c ≤ 4 := by unfold kindI; repeat' split <;> omega
theorem takeK_range (c : Int) : 0 ≤ takeK c ∧ takeK c ≤ 4 := by unfold takeK; repeat' split <;> omega
theorem take_none {c : Int} : takeK c = 0 ↔ kindI c = 0 := by
  have := kindI_most c
  unfold takeK
  constructor
  · intro h; repeat' split at h <;> omega
  · intro h; rw [h]; rfl

def letOk (f : Frm) : Bool := f.2.2.2.1.data.toList.all (fun x => decide (kindI (x.toNat : Int) ≠ 0)) && f.2.2.2.2.1.data.toList.all (fun x => decide (kindI (x.toNat : Int) ≠ 0))
theorem refT_letOk : refT.all (fun p => letOk p.2) = true := by decide +kernel
theorem look_letOk (n : Int) : letOk (lookF refT n).1 = true := by
  by_cases h : (lookF refT n).2 = true
  · exact List.all_eq_true.1 refT_letOk _ (lookF_true h)
  · have : lookF refT n = (noFrm, false) := (lookF_false (by simpa using h)).1
    rw [this]; rfl
theorem sgn_known {s : ByteArray} (h : s.data.toList.all (fun x => decide (kindI (x.toNat : Int) ≠ 0)) = true) (k : Nat) : sgn s k = 0 ∨ kindI (sgn s k) ≠ 0 := by
  unfold sgn
  by_cases hk : k < s.data.toList.length
  · right
    have e : s.data.toList.getD k 0 = s.data.toList[k] := by rw [List.getD, List.getElem?_eq_getElem hk]; rfl
    have := List.all_eq_true.1 h _ (List.getElem_mem hk)
    rw [e]; simpa using this
  · left
    have e : s.data.toList.getD k 0 = 0 := by simp only [List.getD]; rw [List.getElem?_eq_none (by omega)]; rfl
    rw [e]; rfl
/-- A form's letter is none, or a known one. -/
theorem letter_known (n i : Int) : letterI (lookF refT n).1 i = 0 ∨ kindI (letterI (lookF refT n).1 i) ≠ 0 := by
  have h := look_letOk n
  simp only [letOk, Bool.and_eq_true] at h
  unfold letterI
  split
  · exact .inl rfl
  · split
    · exact sgn_known h.1 _
    · split
      · exact sgn_known h.2 _
      · exact .inl rfl

theorem names_range : namesT.all (fun x => decide (0 ≤ x.2.1) && decide (x.2.1 < 4294967296)) = true := by decide +kernel
theorem enum_named {c : Int} {s : ByteArray} (h : enumNB c s = true) : enumB c (enumN c s) = true ∧ 0 ≤ enumN c s ∧ enumN c s < 4294967296 := by
  unfold enumNB at h
  obtain ⟨x, hx⟩ := Option.isSome_iff_exists.1 h
  have e : enumN c s = x.2.1 := by unfold enumN; rw [hx]
  have hm := List.mem_of_find?_eq_some hx
  have hp := List.find?_some hx
  simp only [isNam, Bool.and_eq_true, beq_iff_eq] at hp
  have hr := List.all_eq_true.1 names_range x hm
  simp only [Bool.and_eq_true, decide_eq_true_eq] at hr
  rw [e]
  refine ⟨?_, hr.1, hr.2⟩
  unfold enumB
  rw [List.find?_isSome]
  exact ⟨x, hm, by simp [isNum, hp.1]⟩

theorem idP_zero {s : ByteArray} {b : Int} (h : idP s b = 0) : numB (strI s) = true ∧ noneB (numV (strI s)) b = false ∧ 0 < numV (strI s) ∧ numV (strI s) < b := by
  unfold idP at h
  split at h
  · omega
  · rename_i h0
    have hb : numB (strI s) = true := by simpa using h0
    have := num_bounds hb
    split at h
    · omega
    · rename_i h1
      refine ⟨hb, ?_, by omega, by omega⟩
      simp only [noneB, Bool.or_eq_false_iff, decide_eq_false_iff_not]
      omega

/-- An argument that is taken. -/
theorem arg_taken {c : Int} {t : TokT} {b : Int} (h : argE c t b = 0) : takeK c ≠ 0 ∧ t.1 = takeK c ∧ txtE c t.2.1 b = 0 ∧ argA c t b = txtA c t.2.1 b := by
  have h' := h
  unfold argE at h
  split at h
  · omega
  · rename_i h0
    refine ⟨by omega, by omega, h, ?_⟩
    unfold argA; rw [if_neg (by omega)]
theorem txt_right {c : Int} {s : ByteArray} {b : Int} (h : txtE c s b = 0) (hc : c ≠ 0) (hs : s.size ≤ 140737488351232) : wrongA c (txtA c s b) b = 0 ∧ (txtA c s b).1 = kindI c ∧ ArgOk (txtA c s b) := by
  have hr := kindI_most c
  have h1 := h
  unfold txtE at h
  unfold txtA
  rw [if_neg (by omega)]
  have es : ((⟨#[]⟩ : ByteArray).size == 0) = true := rfl
  by_cases k1 : kindI c = 1
  · rw [if_pos k1] at h ⊢
    obtain ⟨g1, g2, g3, g4⟩ := idP_zero h
    have gb := num_bounds g1
    refine ⟨?_, k1.symm, ⟨by simp, by simp, gb.1, gb.2, by show (0 : Nat) ≤ _; omega⟩⟩
    simp [wrongA, mayStandB, hc, k1, faultW, g2]; rfl
  · rw [if_neg k1] at h ⊢
    by_cases k2 : kindI c = 2
    · rw [if_pos k2] at h ⊢
      have gb := num_bounds (numErr_zero h)
      refine ⟨?_, k2.symm, ⟨by simp, by simp, gb.1, gb.2, by show (0 : Nat) ≤ _; omega⟩⟩
      simp [wrongA, mayStandB, hc, k2, faultW]; rfl
    · rw [if_neg k2] at h ⊢
      by_cases k3 : kindI c = 3
      · rw [if_pos k3] at h ⊢
        have hn : nulS s = false := by
          cases e : nulS s with
          | false => rfl
          | true => rw [e] at h; simp at h
        refine ⟨?_, k3.symm, ⟨by simp, by simp, by simp, by simp, hs⟩⟩
        simp [wrongA, mayStandB, hc, k3, hn]
      · rw [if_neg k3] at h ⊢
        by_cases k4 : kindI c = 4
        · rw [if_pos k4] at h
          have he : enumNB c s = true := by
            cases e : enumNB c s with
            | true => rfl
            | false => rw [e] at h; simp at h
          obtain ⟨g1, g2, g3⟩ := enum_named he
          refine ⟨?_, k4.symm, ⟨by simp, by simp, g2, g3, by show (0 : Nat) ≤ _; omega⟩⟩
          simp [wrongA, mayStandB, hc, k4, faultW, g1]; rfl
        · rw [if_neg k4] at h; omega
theorem arg_right {c : Int} {t : TokT} {b : Int} (h : argE c t b = 0) (hs : t.2.1.size ≤ 140737488351232) : wrongA c (argA c t b) b = 0 ∧ (argA c t b).1 = kindI c ∧ c ≠ 0 ∧ ArgOk (argA c t b) := by
  obtain ⟨h1, h2, h3, h4⟩ := arg_taken h
  have hc : c ≠ 0 := fun e => by rw [e] at h1; exact h1 take_zero
  obtain ⟨g1, g2, g3⟩ := txt_right h3 hc hs
  rw [h4]
  exact ⟨g1, g2, hc, g3⟩
theorem arg_id {t : TokT} {b : Int} (h : argE 105 t b = 0) : idE true (argA 105 t b).2.1 b 40 = 0 ∧ 0 ≤ (argA 105 t b).2.1 ∧ (argA 105 t b).2.1 < 4294967296 ∧ (argA 105 t b).2.1 = numV (strI t.2.1) := by
  obtain ⟨h1, h2, h3, h4⟩ := arg_taken h
  have h3' := h3
  unfold txtE at h3
  rw [if_pos kind_i] at h3
  obtain ⟨g1, g2, g3, g4⟩ := idP_zero h3
  have gb := num_bounds g1
  have e : (argA 105 t b).2.1 = numV (strI t.2.1) := by rw [h4]; unfold txtA; rw [if_neg (by omega), if_pos kind_i]
  rw [e]
  exact ⟨idE_none g2, gb.1, gb.2, rfl⟩

theorem argsN_len (f : Frm) (b : Int) (l : List TokT) (at_ n : Nat) : (argsN f b l at_ n).length = n := by simp [argsN]
theorem argsN_nth (f : Frm) (b : Int) (l : List TokT) (at_ n k : Nat) (h : k < n) : nthA (argsN f b l at_ n) k = argA (letterI f k) (nthT l (at_ + k)) b := by
  simp [argsN, nthA, List.getD, h]
theorem argsN_snoc (f : Frm) (b : Int) (l : List TokT) (at_ n : Nat) : argsN f b l at_ (n + 1) = argsN f b l at_ n ++ [argA (letterI f n) (nthT l (at_ + n)) b] := by
  simp [argsN, List.range_succ]
theorem badArg_at {f : Frm} {b : Int} {l : List TokT} {at_ k : Nat} (hk : at_ + k < l.length) (h0 : ∀ j, j < k → argE (letterI f j) (nthT l (at_ + j)) b = 0) (h : argE (letterI f k) (nthT l (at_ + k)) b ≠ 0) : badArg f b l at_ = some k :=
  range_find _ k (by omega) (fun j hj => by simp [h0 j hj]) (by simp [h])
theorem badArg_no {f : Frm} {b : Int} {l : List TokT} {at_ : Nat} (h0 : ∀ j, at_ + j < l.length → argE (letterI f j) (nthT l (at_ + j)) b = 0) : badArg f b l at_ = none :=
  range_not _ (fun j hj => by simp [h0 j (by omega)])
theorem badArg_none {f : Frm} {b : Int} {l : List TokT} {at_ : Nat} (h : badArg f b l at_ = none) : ∀ j, at_ + j < l.length → argE (letterI f j) (nthT l (at_ + j)) b = 0 := fun j hj => by
  have := (List.find?_eq_none.1 h) j (List.mem_range.2 (by omega))
  simpa using this
theorem lineA_bad {o : Int} {f : Frm} {t r : Int} {l : List TokT} {at_ k : Nat} {len b : Int} (hk : at_ + k < l.length) (h0 : ∀ j, j < k → argE (letterI f j) (nthT l (at_ + j)) b = 0) (h : argE (letterI f k) (nthT l (at_ + k)) b ≠ 0) :
    lineA o f t r l at_ len b = noLine (argE (letterI f k) (nthT l (at_ + k)) b) (nthT l (at_ + k)).2.2 := by
  unfold lineA; rw [badArg_at hk h0 h]
theorem lineA_ok {o : Int} {f : Frm} {t r : Int} {l : List TokT} {at_ : Nat} {len b : Int} (h0 : ∀ j, at_ + j < l.length → argE (letterI f j) (nthT l (at_ + j)) b = 0) :
    lineA o f t r l at_ len b = if wholeN f ((l.length - at_ : Nat) : Int) = false then noLine 72 len
      else if 65535 < 1 + (rawL f (o, t, r, argsN f b l at_ (l.length - at_))).length then noLine 25 0
      else ((o, t, r, argsN f b l at_ (l.length - at_)), true, 0, 0) := by
  unfold lineA; rw [badArg_no h0]

/-- Taken arguments. -/
theorem args_right {o : Int} {f : Frm} {b : Int} {l : List TokT} {at_ n : Nat} (hf : f = (lookF refT o).1) (h0 : ∀ j, j < n → argE (letterI f j) (nthT l (at_ + j)) b = 0) (hs : ToksIn l) (hn : at_ + n ≤ l.length) :
    ArgsOk (argsN f b l at_ n) ∧ wrongL f b 0 (argsN f b l at_ n) = 0 ∧ (fitsI true f (kindsL (argsN f b l at_ n))).2 = wholeN f (n : Int) := by
  have key : ∀ j, j < n → wrongA (letterI f j) (nthA (argsN f b l at_ n) j) b = 0 ∧ (nthA (argsN f b l at_ n) j).1 = kindI (letterI f j) ∧ letterI f j ≠ 0 ∧ ArgOk (nthA (argsN f b l at_ n) j) := fun j hj => by
    rw [argsN_nth _ _ _ _ _ _ hj]
    exact arg_right (h0 j hj) (hs (at_ + j) (by omega)).2.2.1
  refine ⟨fun j hj => (key j (by rwa [argsN_len] at hj)).2.2.2, wrongL_none fun i hi => ?_, ?_⟩
  · have := (key i (by rwa [argsN_len] at hi)).1
    rw [show 0 + i = i by omega]; exact this
  · have := fits_whole (f := f) (l := argsN f b l at_ n) (fun i hi => by
      have := key i (by rwa [argsN_len] at hi)
      exact ⟨this.2.2.1, this.2.1⟩)
    rw [argsN_len] at this
    exact this
/-- What Raw answers of a line's instruction. -/
theorem line_raw {o : Int} {f : Frm} {t r b : Int} {l : List TokT} {at_ n : Nat} (hf : f = (lookF refT o).1) (ho : (lookF refT o).2 = true) (h0 : ∀ j, j < n → argE (letterI f j) (nthT l (at_ + j)) b = 0) (hs : ToksIn l) (hn : at_ + n ≤ l.length)
    (hw : wholeN f (n : Int) = true) (ht : idE f.2.1 t b 40 = 0) (hr : idE f.2.2.1 r b 41 = 0) : rawE (o, t, r, argsN f b l at_ n) b = if 65535 < 1 + (rawL f (o, t, r, argsN f b l at_ n)).length then 25 else 0 := by
  obtain ⟨g1, g2, g3⟩ := args_right hf h0 hs hn
  unfold rawE
  rw [if_pos ho, ← hf]
  unfold faultI
  simp only [argsN_len]
  rw [if_neg (by omega), if_neg (by omega), if_neg (by omega), if_neg (by simp [hw])]

end Go.Proofs.YtmobologlaeefaaGreat

/-
  What kindOf, inRun, printable, digitValue and hexDigit of the layer lex return, for every byte; nothing turns.
-/
namespace Go.Proofs.YtmobologlaeefaaGreat
open Go.RowKit
set_option maxRecDepth 10000
set_option linter.unusedVariables false
set_option linter.unusedSimpArgs false

theorem printable_any (c : Int) (w : World) (h0 : 0 ≤ c) (h1 : c < 256) :
    Calls Tryz.prog 168 #[.int .u8 c] w fun e w' => e = .returned (.bool (printB c)) ∧ w = w' := by
  by_cases a : 32 ≤ c
  · by_cases b : c ≤ 126
    · have H : Hid (printB c = true) := by show _ = _; simp [printB]; omega
      go_enter Tryz.func168, Tryz.ntmps168
      go_wp2
      go_ret
      exact ⟨by rw [H.out]; first | rfl | (simp; done) | (simp; omega), rfl⟩
    · have H : Hid (printB c = false) := by show _ = _; simp [printB]; omega
      go_enter Tryz.func168, Tryz.ntmps168
      go_wp2
      go_ret
      exact ⟨by rw [H.out]; first | rfl | (simp; done) | (simp; omega), rfl⟩
  · have H : Hid (printB c = false) := by show _ = _; simp [printB]; omega
    go_enter Tryz.func168, Tryz.ntmps168
    go_wp2
    go_ret
    exact ⟨by rw [H.out]; first | rfl | (simp; done) | (simp; omega), rfl⟩

theorem inRun_any (k : Int) (w : World) (h0 : 0 ≤ k) (h1 : k < 256) :
    Calls Tryz.prog 151 #[.int .u8 k] w fun e w' => e = .returned (.bool (k == 3 || k == 4)) ∧ w = w' := by
  by_cases a : k = 3
  · subst a
    go_enter Tryz.func151, Tryz.ntmps151
    go_wp2
    go_ret
    exact ⟨rfl, rfl⟩
  · have a' : (k == 3) = false := by simpa using a
    go_enter Tryz.func151, Tryz.ntmps151
    go_wp2
    go_ret
    exact ⟨by rw [a']; rfl, rfl⟩

theorem kindL_letter {c : Int} (h : letterB c = true) : kindL c = 3 := by simp [kindL, h]
theorem kindL_digit {c : Int} (h : digitB c = true) : kindL c = 4 := by
  have : letterB c = false := by
    simp only [digitB, decide_eq_true_eq] at h
    simp [letterB]; omega
  simp [kindL, h, this]

set_option maxHeartbeats 1000000 in
theorem lexKindOf_any (c : Int) (w : World) (h0 : 0 ≤ c) (h1 : c < 256) :
    Calls Tryz.prog 148 #[.int .u8 c] w fun e w' => e = .returned (.int .u8 (kindL c)) ∧ w = w' := by
  by_cases a0 : c = 95
  · subst a0
    go_enter Tryz.func148, Tryz.ntmps148
    go_wp2
    go_ret
    exact ⟨rfl, rfl⟩
  by_cases a1 : 65 ≤ c ∧ c ≤ 90
  · have H : Hid (kindL c = 3) := kindL_letter (by simp [letterB]; omega)
    have b0 : (c == 95) = false := by simpa using a0
    obtain ⟨a2, a3⟩ := a1
    clear a0
    go_enter Tryz.func148, Tryz.ntmps148
    go_wp2
    go_ret
    exact ⟨by rw [H.out]; rfl, rfl⟩
  by_cases a2 : 97 ≤ c ∧ c ≤ 122
  · have H : Hid (kindL c = 3) := kindL_letter (by simp [letterB]; omega)
    have b0 : (c == 95) = false := by simpa using a0
    have b1 : 65 ≤ c := by omega
    have b2 : ¬ c ≤ 90 := by omega
    obtain ⟨a4, a3⟩ := a2
    clear a0 a1
    go_enter Tryz.func148, Tryz.ntmps148
    go_wp2
    go_ret
    exact ⟨by rw [H.out]; rfl, rfl⟩
  have d1 : (decide (65 ≤ c) && decide (c ≤ 90)) = false := by simpa using a1
  have d2 : (decide (97 ≤ c) && decide (c ≤ 122)) = false := by simpa using a2
  have hL : letterB c = false := by simp [letterB, a0]; omega
  have b0 : (c == 95) = false := by simpa using a0
  by_cases a3 : 48 ≤ c ∧ c ≤ 57
  · have H : Hid (kindL c = 4) := kindL_digit (by simp [digitB]; omega)
    obtain ⟨a4, a5⟩ := a3
    have b1 : ¬ 65 ≤ c := by omega
    have b2 : ¬ 97 ≤ c := by omega
    clear a0 a1 a2 d1 d2 hL
    go_enter Tryz.func148, Tryz.ntmps148
    go_wp2
    go_ret
    exact ⟨by rw [H.out]; rfl, rfl⟩
  have hD : digitB c = false := by simp [digitB]; omega
  have HK : Hid (kindL c = if blankB c then 2 else if c = 37 then 5 else if c = 45 then 6 else if c = 34 then 7 else if c = 92 then 8 else if c = 61 then 9 else if c = 59 then 10 else 1) := by
    show _ = _
    simp only [kindL, hL, hD]; rfl
  by_cases e0 : c = 9 ∨ c = 13 ∨ c = 32 ∨ c = 37 ∨ c = 45 ∨ c = 34 ∨ c = 61 ∨ c = 59
  · rcases e0 with rfl | rfl | rfl | rfl | rfl | rfl | rfl | rfl <;>
    · go_enter Tryz.func148, Tryz.ntmps148
      go_wp2
      go_ret
      exact ⟨rfl, rfl⟩
  by_cases e1 : c = 92
  · subst e1
    go_enter Tryz.func148, Tryz.ntmps148
    go_wp2
    go_ret
    exact ⟨rfl, rfl⟩
  simp only [not_or] at e0
  obtain ⟨f0, f1, f2, f3, f4, f5, f6, f7⟩ := e0
  have H : Hid (kindL c = 1) := by
    show _ = _
    rw [HK.out, if_neg (by simp [blankB]; omega), if_neg f3, if_neg f4, if_neg f5, if_neg e1, if_neg f6, if_neg f7]
  have g0 : (c == 9) = false := by simpa using f0
  have g1 : (c == 13) = false := by simpa using f1
  have g2 : (c == 32) = false := by simpa using f2
  have g3 : (c == 37) = false := by simpa using f3
  have g4 : (c == 45) = false := by simpa using f4
  have g5 : (c == 34) = false := by simpa using f5
  have g6 : (c == 61) = false := by simpa using f6
  have g7 : (c == 59) = false := by simpa using f7
  have g8 : (c == 92) = false := by simpa using e1
  clear f0 f1 f2 f3 f4 f5 f6 f7 e1 HK hD hL a0
  by_cases m0 : 65 ≤ c
  · have m1 : ¬ c ≤ 90 := by omega
    by_cases m2 : 97 ≤ c
    · have m3 : ¬ c ≤ 122 := by omega
      have m4 : 48 ≤ c := by omega
      have m5 : ¬ c ≤ 57 := by omega
      clear a1 a2 a3 d1 d2
      go_enter Tryz.func148, Tryz.ntmps148
      go_wp2
      go_ret
      exact ⟨by rw [H.out]; rfl, rfl⟩
    · have m4 : 48 ≤ c := by omega
      have m5 : ¬ c ≤ 57 := by omega
      clear a1 a2 a3 d1 d2
      go_enter Tryz.func148, Tryz.ntmps148
      go_wp2
      go_ret
      exact ⟨by rw [H.out]; rfl, rfl⟩
  · have m2 : ¬ 97 ≤ c := by omega
    by_cases m4 : 48 ≤ c
    · have m5 : ¬ c ≤ 57 := by omega
      clear a1 a2 a3 d1 d2
      go_enter Tryz.func148, Tryz.ntmps148
      go_wp2
      go_ret
      exact ⟨by rw [H.out]; rfl, rfl⟩
    · clear a1 a2 a3 d1 d2
      go_enter Tryz.func148, Tryz.ntmps148
      go_wp2
      go_ret
      exact ⟨by rw [H.out]; rfl, rfl⟩

theorem digitValue_any (c : Int) (w : World) (h0 : 0 ≤ c) (h1 : c < 256) :
    Calls Tryz.prog 170 #[.int .u8 c] w fun e w' => e = .returned (.int .u64 (dvI c)) ∧ w = w' := by
  have hE : ∀ c, 48 ≤ c → c ≤ 57 → dvI c = c - 48 := fun c a b => by
    unfold dvI worthI; rw [if_pos (by simp [hexB, digitB]; omega), if_pos b]
  have hF : ∀ c, 97 ≤ c → c ≤ 102 → dvI c = c - 87 := fun c a b => by
    unfold dvI worthI; rw [if_pos (by simp [hexB, digitB]; omega), if_neg (by omega), if_pos a]
  have hG : ∀ c, 65 ≤ c → c ≤ 70 → dvI c = c - 55 := fun c a b => by
    unfold dvI worthI; rw [if_pos (by simp [hexB, digitB]; omega), if_neg (by omega), if_neg (by omega)]
  by_cases a0 : 48 ≤ c
  · by_cases a1 : c ≤ 57
    · have H : Hid (dvI c = c - 48) := hE c a0 a1
      clear hE hF hG
      go_enter Tryz.func170, Tryz.ntmps170
      go_wp2
      go_ret
      exact ⟨by rw [H.out]; rfl, rfl⟩
    · by_cases a2 : 97 ≤ c
      · by_cases a3 : c ≤ 102
        · have H : Hid (dvI c = c - 87) := hF c a2 a3
          clear hE hF hG
          go_enter Tryz.func170, Tryz.ntmps170
          go_wp2
          go_ret
          exact ⟨by rw [H.out]; exact ret_int (by omega), rfl⟩
        · have H : Hid (dvI c = 18446744073709551615) := by show _ = _; unfold dvI; rw [if_neg (by simp [hexB, digitB]; omega)]
          have a4 : 65 ≤ c := by omega
          have a5 : ¬ c ≤ 70 := by omega
          clear hE hF hG
          go_enter Tryz.func170, Tryz.ntmps170
          go_wp2
          go_ret
          exact ⟨by rw [H.out]; rfl, rfl⟩
      · by_cases a3 : 65 ≤ c
        · by_cases a5 : c ≤ 70
          · have H : Hid (dvI c = c - 55) := hG c a3 a5
            clear hE hF hG
            go_enter Tryz.func170, Tryz.ntmps170
            go_wp2
            go_ret
            exact ⟨by rw [H.out]; exact ret_int (by omega), rfl⟩
          · have H : Hid (dvI c = 18446744073709551615) := by show _ = _; unfold dvI; rw [if_neg (by simp [hexB, digitB]; omega)]
            clear hE hF hG
            go_enter Tryz.func170, Tryz.ntmps170
            go_wp2
            go_ret
            exact ⟨by rw [H.out]; rfl, rfl⟩
        · have H : Hid (dvI c = 18446744073709551615) := by show _ = _; unfold dvI; rw [if_neg (by simp [hexB, digitB]; omega)]
          clear hE hF hG
          go_enter Tryz.func170, Tryz.ntmps170
          go_wp2
          go_ret
          exact ⟨by rw [H.out]; rfl, rfl⟩
  · have H : Hid (dvI c = 18446744073709551615) := by show _ = _; unfold dvI; rw [if_neg (by simp [hexB, digitB]; omega)]
    have a2 : ¬ 97 ≤ c := by omega
    have a3 : ¬ 65 ≤ c := by omega
    clear hE hF hG
    go_enter Tryz.func170, Tryz.ntmps170
    go_wp2
    go_ret
    exact ⟨by rw [H.out]; rfl, rfl⟩

end Go.Proofs.YtmobologlaeefaaGreat
