/-
  Texts laid together in one: MathB, CodeWinst, CodeRaw.
-/
import Derived.Test.YtbkkmabmkonnbaaGreatB06
import Derived.WalkSpells
import Derived.WalkMore
import Derived.Deep.RegionHeld2
import Derived.Test.YtbkkmabmkonnbaaGreatB03
/-
  Plain facts: an instruction's words say the instruction, and the words of the instruction that words say are those words.
-/
namespace Go.Proofs.YtbkkmabmkonnbaaGreat
open Go.RowKit
set_option linter.unusedVariables false

/-! ### a text's words -/

theorem zeroAt_eq {js : List Int} {n : Nat} (h0 : ∀ i, i < n → nth js i ≠ 0) (hn : n < js.length) (h1 : nth js n = 0) : zeroAt js = n := by
  have hlt : zeroAt js < js.length := by
    unfold zeroAt
    rw [List.findIdx_lt_length]
    refine ⟨js[n], List.getElem_mem hn, ?_⟩
    rw [nth_lt _ _ hn] at h1
    simp [h1]
  rcases Nat.lt_trichotomy (zeroAt js) n with h | h | h
  · exact absurd (zeroAt_at js hlt) (h0 _ h)
  · exact h
  · exact absurd h1 (zeroAt_before js n h hn)

theorem textI_textW (s : ByteArray) (ys : List Int) (hs : NoNul s) : textI (textW s ++ ys) = (s, ((s.size / 4 : Nat) : Int) + 1, 0) := by
  have hlen : (joinL (textW s ++ ys)).length = 4 * (s.size / 4 + 1) + 4 * ys.length := by rw [joinL_len, List.length_append, textW_len]; omega
  have hz : zeroAt (joinL (textW s ++ ys)) = s.size := by
    refine zeroAt_eq (fun i hi => ?_) (by omega) ?_
    · rw [joinL_text_lo s ys i (by omega), padI_lo s i hi]; exact hs i hi
    · rw [joinL_text_lo s ys s.size (by omega), padI_hi s s.size (Nat.le_refl _)]
  have hp : padBad (joinL (textW s ++ ys)) = false := by
    cases h : padBad (joinL (textW s ++ ys)) with
    | false => rfl
    | true =>
      obtain ⟨q, h1, h2, h3⟩ := (padBad_iff (L := s.size / 4) (P := s.size % 4) (by rw [hz]; omega) (by omega) (by omega)).1 h
      rw [joinL_text_lo s ys _ (by omega), padI_hi s _ (by omega)] at h3
      exact absurd rfl h3
  unfold textI
  rw [if_neg (by omega), if_neg (by simp [hp]), hz, text_take, str_of_strI]

theorem strI_strOf {js : List Int} (h : Within 256 js) : strI (strOfNums js) = js := by
  have hsz : (strOfNums js).size = js.length := strOfNums_size js
  refine nth_ext (by rw [strI_len, hsz]) fun k hk => ?_
  rw [strI_len, hsz] at hk
  rw [nth_strI _ _ (by rw [hsz]; exact hk)]
  have hb := h.at hk
  have e : (strOfNums js).data.toList = js.map fun z => z.toNat.toUInt8 := by simp [strOfNums]
  have hg : (strOfNums js)[k]'(by rw [hsz]; exact hk) = (js[k]).toNat.toUInt8 := by
    have : (strOfNums js)[k]'(by rw [hsz]; exact hk) = (strOfNums js).data.toList[k]'(by rw [size_list, hsz]; exact hk) := rfl
    rw [this]
    simp only [e, List.getElem_map]
  rw [hg, nth_lt _ _ hk]
  rw [nth_lt _ _ hk] at hb
  have : (js[k]).toNat.toUInt8.toNat = (js[k]).toNat % 256 := by simp
  rw [this]; omega

/-- The words of a text that was read are those that it was read of. -/
theorem textW_textI {zs : List Int} (hw : Within 4294967296 zs) (h : (textI zs).2.2 = 0) : textW (textI zs).1 = zs.take (textI zs).2.1.toNat ∧ NoNul (textI zs).1 := by
  obtain ⟨h1, h2, h3⟩ := textI_some h
  have hl := joinL_len zs
  rw [h3]
  simp only
  generalize hN : zeroAt (joinL zs) = N at *
  have hws : Within 256 ((joinL zs).take N) := within_take (joinL_within zs)
  have hsI := strI_strOf hws
  have hsz : (strOfNums ((joinL zs).take N)).size = N := by rw [strOfNums_size, List.length_take]; omega
  have hnt : ((((N / 4 : Nat) : Int) + 1)).toNat = N / 4 + 1 := by omega
  rw [hnt]
  constructor
  · -- both have the same bytes
    have hb : joinL (textW (strOfNums ((joinL zs).take N))) = joinL (zs.take (N / 4 + 1)) := by
      rw [joinL_textW, joinL_take]
      refine nth_ext (by rw [padI_len, hsz, List.length_take]; omega) fun k hk => ?_
      rw [padI_len, hsz] at hk
      rw [nth_take _ _ _ hk]
      by_cases hkN : k < N
      · rw [padI_lo _ _ (by rw [hsz]; exact hkN), hsI, nth_take _ _ _ hkN]
      · rw [padI_hi _ _ (by rw [hsz]; omega)]
        by_cases hke : k = N
        · subst hke; rw [← hN]; exact (zeroAt_at _ (by rw [hN]; exact h1)).symm
        · apply Classical.byContradiction
          intro hne
          have : padBad (joinL zs) = true := (padBad_iff (L := N / 4) (P := N % 4) (by rw [hN]; omega) (by omega) (by omega)).2 ⟨k - 4 * (N / 4), by omega, by omega, by rw [show 4 * (N / 4) + (k - 4 * (N / 4)) = k by omega]; exact fun e => hne e.symm⟩
          rw [h2] at this; cases this
    have e1 := split_join (textW (strOfNums ((joinL zs).take N))) (textW_within _)
    have e2 := split_join (zs.take (N / 4 + 1)) (within_of_take hw)
    rw [← e1, hb, e2]
  · intro k hk
    rw [hsz] at hk
    rw [hsI, nth_take _ _ _ hk]
    exact zeroAt_before _ k (by rw [hN]; exact hk) (by omega)

/-! ### one argument -/

theorem noneB_more {n b c : Int} (h : noneB n b = false) (hbc : b ≤ c) : noneB n c = false := by
  unfold noneB at *
  simp at *
  omega

theorem argI_words {c b m : Int} {x : ArgT} (ys : List Int) (h : wrongA c x b = 0) (hb : b ≤ m) : argI c (wordsA x ++ ys) m = (x, ((wordsA x).length : Int), 0) := by
  obtain ⟨xk, xn, xs⟩ := x
  unfold wrongA at h
  by_cases hm : mayStandB c (xk, xn, xs) = false
  · rw [if_pos hm] at h; cases h
  · rw [if_neg hm] at h
    have hm' : mayStandB c (xk, xn, xs) = true := by simpa using hm
    unfold mayStandB at hm'
    simp only [Bool.and_eq_true, Bool.not_eq_true', beq_eq_false_iff_ne, beq_iff_eq] at hm'
    obtain ⟨⟨hc, hk⟩, hx⟩ := hm'
    simp only at h hk hx
    by_cases h3 : xk = 3
    · rw [if_pos h3] at h hx
      subst h3
      have hx0 : xn = 0 := by simpa using hx
      subst hx0
      have hnul : nulS xs = false := by
        cases hn : nulS xs with
        | false => rfl
        | true => rw [hn] at h; cases h
      have hW : wordsA (3, 0, xs) = textW xs := by simp [wordsA]
      unfold argI
      rw [hW, if_neg (by rintro (h | h)
                         · exact hc h
                         · rw [List.length_append, textW_len] at h; omega), if_pos hk.symm, textI_textW xs ys (nulS_false.1 hnul), textW_len]
      simp
    · rw [if_neg h3] at h hx
      have hx0 : xs = ⟨#[]⟩ := size_zero (by simpa using hx)
      subst hx0
      have hW : wordsA (xk, xn, ⟨#[]⟩) = [xn] := by simp [wordsA, h3]
      have hn0 : nth ([xn] ++ ys) 0 = xn := rfl
      unfold argI
      rw [hW, if_neg (by rintro (h | h)
                         · exact hc h
                         · simp at h), if_neg (by rw [← hk]; exact h3), hn0]
      unfold faultW at h
      rw [← hk] at h ⊢
      by_cases h1 : xk = 1
      · rw [if_pos h1] at h
        have hnb : noneB xn b = false := by
          cases hn : noneB xn b with
          | false => rfl
          | true => rw [hn] at h; cases h
        rw [if_neg (by rw [noneB_more hnb hb]; simp), if_neg (by omega)]
        rfl
      · rw [if_neg h1] at h
        rw [if_neg (by simp [h1])]
        by_cases h4 : xk = 4
        · rw [if_pos h4] at h
          have he : enumB c xn = true := by
            cases hn : enumB c xn with
            | true => rfl
            | false => rw [hn] at h; cases h
          rw [if_neg (by simp [he])]
          rfl
        · rw [if_neg (by simp [h4])]
          rfl

theorem nth_take1 (zs : List Int) (h : zs.length ≠ 0) : zs.take 1 = [nth zs 0] := by
  cases zs with
  | nil => simp at h
  | cons z zs => rfl

/-- The words of an argument that was read are those that it was read of. -/
theorem argI_back {c b : Int} {zs : List Int} (hw : Within 4294967296 zs) (h : (argI c zs b).2.2 = 0) : wrongA c (argI c zs b).1 b = 0 ∧ wordsA (argI c zs b).1 = zs.take (argI c zs b).2.1.toNat ∧ 1 ≤ (argI c zs b).2.1.toNat ∧ (argI c zs b).2.1.toNat ≤ zs.length := by
  unfold argI at h ⊢
  by_cases h0 : c = 0 ∨ zs.length = 0
  · rw [if_pos h0] at h; cases h
  · rw [if_neg h0] at h ⊢
    have hc : c ≠ 0 := fun e => h0 (.inl e)
    have hl : zs.length ≠ 0 := fun e => h0 (.inr e)
    by_cases h3 : kindI c = 3
    · rw [if_pos h3] at h ⊢
      simp only at h ⊢
      obtain ⟨e1, e2⟩ := textW_textI hw h
      obtain ⟨r1, r2, r3, r4, r5⟩ := textI_range zs
      have r3' := r3 h
      refine ⟨?_, ?_, by omega, by omega⟩
      · unfold wrongA mayStandB
        simp [hc, h3, nulS_false.2 e2]
      · unfold wordsA
        rw [if_pos rfl]; exact e1
    · rw [if_neg h3] at h ⊢
      by_cases h1 : kindI c = 1 ∧ noneB (nth zs 0) b = true
      · rw [if_pos h1] at h; cases h
      · rw [if_neg h1] at h ⊢
        by_cases h4 : kindI c = 4 ∧ enumB c (nth zs 0) = false
        · rw [if_pos h4] at h; cases h
        · rw [if_neg h4] at h ⊢
          simp only
          refine ⟨?_, ?_, by omega, by omega⟩
          · have hm : mayStandB c (kindI c, nth zs 0, ⟨#[]⟩) = true := by unfold mayStandB; simp [hc, h3, ByteArray.size]
            unfold wrongA
            rw [if_neg (by simp [hm]), if_neg h3]
            unfold faultW
            simp only
            by_cases k1 : kindI c = 1
            · rw [if_pos k1, if_neg (fun e => h1 ⟨k1, e⟩)]
            · rw [if_neg k1]
              by_cases k4 : kindI c = 4
              · rw [if_pos k4]
                have : enumB c (nth zs 0) = true := by
                  cases hn : enumB c (nth zs 0) with
                  | true => rfl
                  | false => exact absurd ⟨k4, hn⟩ h4
                rw [if_pos this]
              · rw [if_neg k4]
          · unfold wordsA
            rw [if_neg h3]
            exact (nth_take1 zs hl).symm

/-! ### all arguments -/

theorem wordsL_cons (x : ArgT) (l : List ArgT) : wordsL (x :: l) = wordsA x ++ wordsL l := rfl
theorem wordsA_pos (x : ArgT) : 1 ≤ (wordsA x).length := by rw [wordsA_len]; split <;> omega

theorem argsI_words (f : Frm) {b m : Int} (hb : b ≤ m) : ∀ (l acc : List ArgT) (fuel : Nat), wrongL f b acc.length l = 0 → wholeN f ((acc.length + l.length : Nat) : Int) = true → (wordsL l).length < fuel → argsI f m fuel (wordsL l) acc = (acc ++ l, 0)
  | [], acc, 0, _, _, hf => by omega
  | [], acc, fuel + 1, _, hw, _ => by
    rw [argsI, if_pos (by simp [wordsL]), if_pos (by simpa using hw), List.append_nil]
  | x :: l, acc, 0, _, _, hf => by omega
  | x :: l, acc, fuel + 1, h, hw, hf => by
    rw [wrongL] at h
    by_cases h0 : wrongA (letterI f acc.length) x b = 0
    · rw [if_pos h0] at h
      have hp := wordsA_pos x
      have ha := argI_words (wordsL l) h0 hb
      rw [wordsL_cons, List.length_append] at hf
      rw [wordsL_cons, argsI, if_neg (by rw [List.length_append]; omega), ha]
      simp only
      rw [if_neg (by simp), Int.toNat_natCast, List.drop_left]
      have := argsI_words f hb l (acc ++ [x]) fuel (by rw [List.length_append]; exact h) (by rw [List.length_append, List.length_singleton]; rw [List.length_cons] at hw; rw [show acc.length + 1 + l.length = acc.length + (l.length + 1) by omega]; exact hw) (by omega)
      rw [this, List.append_assoc]; rfl
    · rw [if_neg h0] at h; exact absurd h h0

theorem argsI_back (f : Frm) (b : Int) : ∀ (fuel : Nat) (zs : List Int) (acc : List ArgT), Within 4294967296 zs → (argsI f b fuel zs acc).2 = 0 → ∃ l, (argsI f b fuel zs acc).1 = acc ++ l ∧ wrongL f b acc.length l = 0 ∧ wordsL l = zs ∧ wholeN f ((acc.length + l.length : Nat) : Int) = true
  | 0, zs, acc, _, h => by rw [argsI] at h; cases h
  | fuel + 1, zs, acc, hw, h => by
    rw [argsI] at h ⊢
    by_cases h0 : zs.length = 0
    · rw [if_pos h0] at h ⊢
      by_cases h1 : wholeN f acc.length = true
      · rw [if_pos h1]
        exact ⟨[], by simp, rfl, by rw [List.eq_nil_of_length_eq_zero h0]; rfl, by simpa using h1⟩
      · rw [if_neg h1] at h; cases h
    · rw [if_neg h0] at h ⊢
      by_cases h1 : (argI (letterI f acc.length) zs b).2.2 = 0
      · rw [if_neg (by simp [h1])] at h ⊢
        obtain ⟨a1, a2, a3, a4⟩ := argI_back hw h1
        generalize argI (letterI f acc.length) zs b = r at *
        obtain ⟨l, e1, e2, e3, e4⟩ := argsI_back f b fuel _ _ (fun z hz => hw z (List.mem_of_mem_drop hz)) h
        refine ⟨r.1 :: l, by rw [e1, List.append_assoc]; rfl, ?_, ?_, ?_⟩
        · rw [wrongL, if_pos a1]
          rw [List.length_append] at e2; exact e2
        · rw [wordsL_cons, a2, e3, List.take_append_drop]
        · rw [List.length_append, List.length_singleton] at e4
          rw [List.length_cons, show acc.length + (l.length + 1) = acc.length + 1 + l.length by omega]; exact e4
      · rw [if_pos h1] at h; exact absurd h h1

/-! ### an instruction -/

theorem idE_zero {must : Bool} {n b e : Int} (he : e ≠ 0) (h : idE must n b e = 0) : (must = true → noneB n b = false) ∧ (must = false → n = 0) := by
  unfold idE at h
  cases must with
  | true =>
    refine ⟨fun _ => ?_, (fun h => by cases h)⟩
    by_cases h0 : n = 0
    · rw [if_pos (by simp [h0])] at h; exact absurd h he
    · rw [if_neg (by simp [h0])] at h
      by_cases h1 : b ≤ n
      · rw [if_pos (by simp [h1])] at h; cases h
      · unfold noneB; simp [h0, h1]
  | false =>
    refine ⟨(fun h => by cases h), fun _ => ?_⟩
    by_cases h0 : n = 0
    · exact h0
    · rw [if_pos (by simp [h0])] at h; exact absurd h he
theorem idE_none {n b e : Int} (h : noneB n b = false) : idE true n b e = 0 := by
  unfold noneB at h
  simp at h
  unfold idE
  simp [h.1]; omega
theorem idE_absent {b e : Int} : idE false 0 b e = 0 := by unfold idE; simp

theorem instI_words {x : InstT} {b m : Int} (h : rawE x b = 0) (hb : b ≤ m) : instI x.1 (rawWs x b) m = (x, 0) := by
  obtain ⟨h1, h2, h3⟩ := rawWs_ok h
  have hlen := rawWs_len x b
  obtain ⟨t1, t2, t3, t4, t5⟩ := faultI_zero h2
  obtain ⟨t1a, t1b⟩ := idE_zero (by decide) t1
  obtain ⟨t2a, t2b⟩ := idE_zero (by decide) t2
  unfold instI
  rw [if_neg (by omega), if_neg (by simp [h1]), h3]
  rw [h3] at hlen
  generalize (lookF refT x.1).1 = f at *
  obtain ⟨xo, xt, xr, xl⟩ := x
  simp only at *
  have hd : (rawL f (xo, xt, xr, xl)).drop (f.2.1.toNat + f.2.2.1.toNat) = wordsL xl := by
    unfold rawL headW
    simp only
    cases f.2.1 <;> cases f.2.2.1 <;> rfl
  have hty : headTy f.2.1 (rawL f (xo, xt, xr, xl)) m = (xt, 0) := by
    unfold headTy rawL headW
    simp only
    cases e1 : f.2.1 with
    | true =>
      have := noneB_more (t1a e1) hb
      simp [nth, this]
    | false => simp [t1b e1]
  have hre : headRes f.2.2.1 (rawL f (xo, xt, xr, xl)) m f.2.1.toNat = (xr, 0) := by
    unfold headRes rawL headW
    simp only
    cases e2 : f.2.2.1 with
    | true =>
      have := noneB_more (t2a e2) hb
      cases e1 : f.2.1 <;> simp [nth, this]
    | false => simp [t2b e2]
  have hargs : argsI f m ((rawL f (xo, xt, xr, xl)).length + 1) (wordsL xl) [] = (xl, 0) := by
    have := argsI_words f hb xl [] ((rawL f (xo, xt, xr, xl)).length + 1) (by simpa using t3) (by simpa using t4) (by unfold rawL; simp only [List.length_append]; omega)
    simpa using this
  unfold instF
  rw [hty, hre, hd, hargs]
  rfl

theorem headTy_zero {ty : Bool} {zs : List Int} {b : Int} (h : (headTy ty zs b).2 = 0) : idE ty (headTy ty zs b).1 b 40 = 0 ∧ (ty = true → 0 < zs.length ∧ (headTy ty zs b).1 = nth zs 0) ∧ (ty = false → (headTy ty zs b).1 = 0) := by
  cases ty with
  | false => exact ⟨idE_absent, (fun h => by cases h), fun _ => rfl⟩
  | true =>
    by_cases h1 : zs.length ≤ 0
    · have e : headTy true zs b = (0, 40) := by unfold headTy; rw [if_pos rfl, if_pos h1]
      rw [e] at h; cases h
    · have e : headTy true zs b = (nth zs 0, if noneB (nth zs 0) b then 43 else 0) := by unfold headTy; rw [if_pos rfl, if_neg h1]
      rw [e] at h ⊢
      have hn : noneB (nth zs 0) b = false := by
        cases hn : noneB (nth zs 0) b with
        | false => rfl
        | true => rw [hn] at h; cases h
      exact ⟨idE_none hn, fun _ => ⟨by omega, rfl⟩, (fun h => by cases h)⟩

theorem headRes_zero {re : Bool} {zs : List Int} {b : Int} {p : Nat} (h : (headRes re zs b p).2 = 0) : idE re (headRes re zs b p).1 b 41 = 0 ∧ (re = true → p < zs.length ∧ (headRes re zs b p).1 = nth zs p) ∧ (re = false → (headRes re zs b p).1 = 0) := by
  cases re with
  | false => exact ⟨idE_absent, (fun h => by cases h), fun _ => rfl⟩
  | true =>
    by_cases h1 : zs.length ≤ p
    · have e : headRes true zs b p = (0, 41) := by unfold headRes; rw [if_pos rfl, if_pos h1]
      rw [e] at h; cases h
    · have e : headRes true zs b p = (nth zs p, if noneB (nth zs p) b then 43 else 0) := by unfold headRes; rw [if_pos rfl, if_neg h1]
      rw [e] at h ⊢
      have hn : noneB (nth zs p) b = false := by
        cases hn : noneB (nth zs p) b with
        | false => rfl
        | true => rw [hn] at h; cases h
      exact ⟨idE_none hn, fun _ => ⟨by omega, rfl⟩, (fun h => by cases h)⟩

theorem instI_some {op b : Int} {zs : List Int} (h : (instI op zs b).2 = 0) : zs.length < 65535 ∧ (lookF refT op).2 = true ∧ instI op zs b = instF (lookF refT op).1 op zs b := by
  unfold instI at h ⊢
  by_cases h1 : 65535 ≤ zs.length
  · rw [if_pos h1] at h; cases h
  · rw [if_neg h1] at h ⊢
    by_cases h2 : (lookF refT op).2 = false
    · rw [if_pos h2] at h; cases h
    · rw [if_neg h2]
      exact ⟨by omega, by simpa using h2, rfl⟩
theorem instF_none {f : Frm} {op b : Int} {zs : List Int} (h : (instF f op zs b).2 ≠ 0) : (instF f op zs b).1 = noInst := by
  unfold instF at h ⊢
  split
  · rfl
  · split
    · rfl
    · split
      · rfl
      · rename_i h1 h2 h3
        rw [if_neg h1, if_neg h2, if_neg h3] at h
        exact absurd rfl h
theorem instI_none {op b : Int} {zs : List Int} (h : (instI op zs b).2 ≠ 0) : (instI op zs b).1 = noInst := by
  unfold instI at h ⊢
  split
  · rfl
  · split
    · rfl
    · rename_i h1 h2
      rw [if_neg h1, if_neg h2] at h
      exact instF_none h

/-- The words of the instruction that words say. -/
theorem rawE_instI {op b : Int} {zs : List Int} (hw : Within 4294967296 zs) (h : (instI op zs b).2 = 0) : (instI op zs b).1.1 = op ∧ rawE (instI op zs b).1 b = 0 ∧ rawWs (instI op zs b).1 b = zs := by
  obtain ⟨h1, h2, h3⟩ := instI_some h
  rw [h3] at h ⊢
  generalize hf : (lookF refT op).1 = f at *
  unfold instF at h ⊢
  by_cases k1 : (headTy f.2.1 zs b).2 = 0
  · rw [if_neg (by simp [k1])] at h ⊢
    by_cases k2 : (headRes f.2.2.1 zs b f.2.1.toNat).2 = 0
    · rw [if_neg (by simp [k2])] at h ⊢
      by_cases k3 : (argsI f b (zs.length + 1) (zs.drop (f.2.1.toNat + f.2.2.1.toNat)) []).2 = 0
      · rw [if_neg (by simp [k3])] at h ⊢
        obtain ⟨l, e1, e2, e3, e4⟩ := argsI_back f b _ _ _ (fun z hz => hw z (List.mem_of_mem_drop hz)) k3
        rw [e1]
        simp only [List.nil_append] at *
        obtain ⟨u1, u2, u3⟩ := headTy_zero k1
        obtain ⟨v1, v2, v3⟩ := headRes_zero k2
        generalize (headTy f.2.1 zs b).1 = t at *
        generalize (headRes f.2.2.1 zs b f.2.1.toNat).1 = r at *
        have hz : rawL f (op, t, r, l) = zs := by
          unfold rawL headW
          simp only
          rw [e3]
          cases c1 : f.2.1 with
          | true =>
            obtain ⟨q1, q2⟩ := u2 c1
            rw [c1] at v2
            cases c2 : f.2.2.1 with
            | true =>
              obtain ⟨q3, q4⟩ := v2 c2
              subst q2 q4
              match zs, q1, q3 with
              | a :: b :: zs, _, _ => rfl
            | false =>
              subst q2
              match zs, q1 with
              | a :: zs, _ => rfl
          | false =>
            rw [c1] at v2
            cases c2 : f.2.2.1 with
            | true =>
              obtain ⟨q3, q4⟩ := v2 c2
              subst q4
              match zs, q3 with
              | a :: zs, _ => rfl
            | false => rfl
        have hE : rawE (op, t, r, l) b = 0 := by
          unfold rawE
          simp only
          rw [if_pos h2, hf]
          unfold faultI
          simp only
          rw [if_neg (by simp [u1]), if_neg (by simp [v1]), if_neg (by simpa using e2), if_neg (by simpa using e4), hz, if_neg (by omega)]
        refine ⟨by trivial, hE, ?_⟩
        unfold rawWs
        rw [if_pos hE]
        simp only
        rw [hf, hz]
      · rw [if_pos k3] at h; exact absurd h k3
    · rw [if_pos k2] at h; exact absurd h k2
  · rw [if_pos k1] at h; exact absurd h k1

/-- By a greater bound it has the same words. -/
theorem wrongA_more {c b m : Int} {x : ArgT} (h : wrongA c x b = 0) (hb : b ≤ m) : wrongA c x m = 0 := by
  unfold wrongA at h ⊢
  split at h
  · cases h
  · rename_i h1
    rw [if_neg h1]
    split at h
    · rename_i h2
      rw [if_pos h2]; exact h
    · rename_i h2
      rw [if_neg h2]
      unfold faultW at h ⊢
      by_cases k1 : kindI c = 1
      · rw [if_pos k1] at h ⊢
        have hn : noneB x.2.1 b = false := by
          cases hn : noneB x.2.1 b with
          | false => rfl
          | true => rw [hn] at h; cases h
        rw [noneB_more hn hb]; rfl
      · rw [if_neg k1] at h ⊢; exact h
theorem wrongL_more (f : Frm) {b m : Int} (hb : b ≤ m) : ∀ (l : List ArgT) (k : Nat), wrongL f b k l = 0 → wrongL f m k l = 0
  | [], _, _ => rfl
  | x :: l, k, h => by
    rw [wrongL] at h ⊢
    by_cases h0 : wrongA (letterI f k) x b = 0
    · rw [if_pos h0] at h
      rw [if_pos (wrongA_more h0 hb)]
      exact wrongL_more f hb l _ h
    · rw [if_neg h0] at h; exact absurd h h0
theorem idE_more {must : Bool} {n b m e : Int} (he : e ≠ 0) (hb : b ≤ m) (h : idE must n b e = 0) : idE must n m e = 0 := by
  obtain ⟨h1, h2⟩ := idE_zero he h
  cases must with
  | true => exact idE_none (noneB_more (h1 rfl) hb)
  | false => rw [h2 rfl]; exact idE_absent
theorem raw_more {x : InstT} {b m : Int} (h : rawE x b = 0) (hb : b ≤ m) : rawE x m = 0 ∧ rawWs x m = rawWs x b := by
  obtain ⟨h1, h2, h3⟩ := rawWs_ok h
  obtain ⟨t1, t2, t3, t4, t5⟩ := faultI_zero h2
  have hE : rawE x m = 0 := by
    unfold rawE
    rw [if_pos h1]
    unfold faultI
    rw [if_neg (by simp [idE_more (by decide) hb t1]), if_neg (by simp [idE_more (by decide) hb t2]), if_neg (by simp [wrongL_more _ hb _ _ t3]), if_neg (by simp [t4]), if_neg (by omega)]
  refine ⟨hE, ?_⟩
  rw [h3]
  unfold rawWs
  rw [if_pos hE]

end Go.Proofs.YtbkkmabmkonnbaaGreat

/-
  What the methods ownId and inst of the package code's writer do.
-/
namespace Go.Proofs.YtbkkmabmkonnbaaGreat
open Go.RowKit
set_option linter.unusedVariables false
set_option linter.unusedSimpArgs false
set_option maxRecDepth 10000

def hasL (has : Bool) (c : Int) (zs : List Int) (n : Int) : List Int := if has then putL c 1 zs [n] else zs
def hasC (has : Bool) (c : Int) : Int := if has then c + 1 else c

set_option maxHeartbeats 1000000 in
theorem ownIdW_any (B : Nat) (o : Int) (f : Frm) (b : Int) (zs : List Int) (c : Int) (n : Int) (has : Bool) (wr : Int) (w : World) (hW : Wrt w B o f b zs c) (hc : c + 1 < 9223372036854775808) (hwr : wr ≠ 0) :
    Calls Tryz.prog 115 #[.pointer (some ⟨B, 0, none⟩), .int .u32 n, .bool has, .int .i64 wr] w fun e w' => e = .returned (.int .i64 (idE has n b wr)) ∧ KeepW B w w' ∧ (idE has n b wr = 0 → Wrt w' B o f b (hasL has c zs n) (hasC has c)) ∧ (idE has n b wr ≠ 0 → Wrt w' B o f b zs c) := by
  by_cases hn : n = 0
  · subst hn
    cases has
    · have e1 : idE false 0 b wr = 0 := by simp [idE]
      rw [e1]
      go_enter Tryz.func115, Tryz.ntmps115
      go_wp2
      go_ret
      exact ⟨rfl, KeepW.refl _ _, fun _ => hW, fun _ => hW⟩
    · have e1 : idE true 0 b wr = wr := by simp [idE]
      rw [e1]
      go_enter Tryz.func115, Tryz.ntmps115
      go_wp2
      go_ret
      exact ⟨rfl, KeepW.refl _ _, fun h => absurd h hwr, fun _ => hW⟩
  · have hn' : (n == 0) = false := by simpa using hn
    have hn2 : (n != 0) = true := by simpa using hn
    cases has
    · have e1 : idE false n b wr = wr := by simp [idE, hn]
      rw [e1]
      go_enter Tryz.func115, Tryz.ntmps115
      go_wp2
      go_ret
      exact ⟨rfl, KeepW.refl _ _, fun h => absurd h hwr, fun _ => hW⟩
    · have e1 : idE true n b wr = faultW 105 n b := by
        have : kindI 105 = 1 := by decide
        simp [idE, hn, faultW, this, noneB]
      have hP := putWord_any B o f b zs c 105 (1, n, ⟨#[]⟩) w hW hc
      unfold argV at hP
      simp only at hP
      rw [e1]
      generalize faultW 105 n b = r at *
      clear e1
      go_enter Tryz.func115, Tryz.ntmps115
      go_wp2_with fail
      refine hP.mono ?_
      rintro e w1 ⟨rfl, hk, hw1, hw2⟩
      clear hP
      go_wp2
      go_ret
      exact ⟨rfl, hk, hw1, hw2⟩

theorem Wrt.cells {w : World} {B : Nat} {o : Int} {f : Frm} {b : Int} {zs : List Int} {c : Int} (h : Wrt w B o f b zs c) : w.cell? ⟨B, 0, none⟩ = some (.int .u16 o) ∧ w.cell? ⟨B, 2, none⟩ = some (.bool f.2.1) ∧ w.cell? ⟨B, 3, none⟩ = some (.bool f.2.2.1) ∧ w.cell? ⟨B, 10, none⟩ = some (.int .i64 c) := by
  obtain ⟨⟨v, h1, h2⟩, h3⟩ := h
  obtain ⟨hc, _⟩ := one_block h1
  exact ⟨hc 0, hc 2, hc 3, hc 10⟩

/-- Arguments that lie below a block. -/
def ArgsL (w : World) (B : Nat) (a : Option Addr) (l : List ArgT) : Prop :=
  ∀ j, j < l.length → ∃ b off, a = some ⟨b, off, none⟩ ∧ b < B ∧ w.cell? ⟨b, off + j * 3, none⟩ = some (.int .u8 (nthA l j).1) ∧ w.cell? ⟨b, off + j * 3 + 1, none⟩ = some (.int .u32 (nthA l j).2.1) ∧ w.cell? ⟨b, off + j * 3 + 2, none⟩ = some (.string (nthA l j).2.2)
theorem ArgsL.of {w : World} {a : Option Addr} {l : List ArgT} (h : ArgsV w a l) : ArgsL w w.heap.size a l := h
theorem ArgsL.view {w : World} {B : Nat} {a : Option Addr} {l : List ArgT} (h : ArgsL w B a l) (hB : B ≤ w.heap.size) : ArgsV w a l := fun j hj => by
  obtain ⟨b, off, e, hlt, h1⟩ := h j hj
  exact ⟨b, off, e, by omega, h1⟩
theorem ArgsL.below {w w' : World} {B : Nat} {a : Option Addr} {l : List ArgT} (h : ArgsL w B a l) (hb : Below B w w') : ArgsL w' B a l := fun j hj => by
  obtain ⟨b, off, e, hlt, h1, h2, h3⟩ := h j hj
  exact ⟨b, off, e, hlt, (hb.cell (p := ⟨b, off + j * 3, none⟩) hlt).trans h1, (hb.cell (p := ⟨b, off + j * 3 + 1, none⟩) hlt).trans h2, (hb.cell (p := ⟨b, off + j * 3 + 2, none⟩) hlt).trans h3⟩
theorem ArgsL.mono {w : World} {B B' : Nat} {a : Option Addr} {l : List ArgT} (h : ArgsL w B a l) (hb : B ≤ B') : ArgsL w B' a l := fun j hj => by
  obtain ⟨b, off, e, hlt, h1⟩ := h j hj
  exact ⟨b, off, e, by omega, h1⟩

theorem ids_words (f : Frm) (t r : Int) : hasL f.2.2.1 (hasC f.2.1 1) (hasL f.2.1 1 [] t) r = headW f t r ∧ hasC f.2.2.1 (hasC f.2.1 1) = 1 + (headW f t r).length := by
  cases h1 : f.2.1 <;> cases h2 : f.2.2.1 <;> simp [hasL, hasC, headW, h1, h2, putL]

theorem four_cells {w : World} {G T : Nat} {a b c d : Value} (h : w.heap[G]? = some (.cells #[a, b, c, d] T (0, 0))) : w.cell? ⟨G, 0, none⟩ = some a ∧ w.cell? ⟨G, 1, none⟩ = some b ∧ w.cell? ⟨G, 2, none⟩ = some c ∧ w.cell? ⟨G, 3, none⟩ = some d := by
  obtain ⟨hc, _⟩ := one_block h
  exact ⟨hc 0, hc 1, hc 2, hc 3⟩

set_option maxHeartbeats 2000000 in
theorem winst_any (B : Nat) (f : Frm) (b : Int) (x : InstT) (ax : Option Addr) (n cx : Nat) (w : World) (hW : Wrt w B x.1 f b [] 1) (hf : lookF refT x.1 = (f, true)) (hok : InstOk x) (hv : ArgsL w B ax x.2.2.2) (hl : x.2.2.2.length = n) :
    Calls Tryz.prog 89 #[.pointer (some ⟨B, 0, none⟩), instV x ax n cx] w fun e w' => e = .returned (.int .i64 (faultI f x b)) ∧ KeepW B w w' ∧ (faultI f x b = 0 → ∃ c, Wrt w' B x.1 f b (rawL f x) c) := by
  obtain ⟨xo, xt, xr, xl⟩ := x
  unfold instV
  simp only at *
  obtain ⟨_, _, _, _, _, _, hal, han⟩ := hok
  simp only at *
  have hBl := hW.lt
  have hb1 : Below w.heap.size w (w.alloc (.cells #[.int .u16 xo, .int .u32 xt, .int .u32 xr, .slice ax n cx] 26)) := (Below.refl _ w).alloc (Nat.le_refl _) _
  have hW1 := hW.below hb1
  have hG1 := alloc_new w #[.int .u16 xo, .int .u32 xt, .int .u32 xr, .slice ax n cx] 26
  have hK1 := KeepW.of_below hb1 (Nat.le_of_lt hBl)
  have hO := fun zs c n has wr wx (h : Wrt wx B xo f b zs c) h2 h3 => ownIdW_any B xo f b zs c n has wr wx h h2 h3
  have HE : Hid (faultI f (xo, xt, xr, xl) b = if idE f.2.1 xt b 40 ≠ 0 then idE f.2.1 xt b 40 else if idE f.2.2.1 xr b 41 ≠ 0 then idE f.2.2.1 xr b 41 else if wrongL f b 0 xl ≠ 0 then wrongL f b 0 xl else if wholeN f xl.length = false then 42 else if 65535 < 1 + (rawL f (xo, xt, xr, xl)).length then 25 else 0) := rfl
  generalize hfe : faultI f (xo, xt, xr, xl) b = fe at HE ⊢
  clear hfe
  have iw := ids_words f xt xr
  go_enter Tryz.func89, Tryz.ntmps89
  go_wp2_with fail
  generalize w.alloc (.cells #[.int .u16 xo, .int .u32 xt, .int .u32 xr, .slice ax n cx] 26) = W at *
  have hO1 := hO [] 1 xt f.2.1 40 W.drew (hW1.below (below_drew W)) (by omega) (by omega)
  have c1 := hW1.cells.2.1
  have c2 := (four_cells hG1).2.1
  generalize hr1 : idE f.2.1 xt b 40 = r1 at *
  go_region_held2 (fun wx => wx.cell? ⟨B, 2, none⟩ = some (.bool f.2.1) ∧ wx.cell? ⟨w.heap.size, 1, none⟩ = some (.int .u32 xt))
    (first | exact ⟨c1, c2⟩ | assumption)
    (first | (go_at_call 115; refine hO1.mono ?_; rintro e w2 ⟨rfl, hk2, hy2, hn2⟩; have hS : w2.cell? ⟨B, 2, none⟩ = some (.bool f.2.1) ∧ w2.cell? ⟨w.heap.size, 1, none⟩ = some (.int .u32 xt) := ⟨(by by_cases h : r1 = 0; exact (hy2 h).cells.2.1; exact (hn2 h).cells.2.1), (four_cells (hk2.keep _ _ _ _ hG1 (by omega) (by decide))).2.1⟩))
  clear hO1 c1 c2
  have hK2 : KeepW B w w2 := hK1.trans ((KeepW.of_below (below_drew W) (by have := hb1.size; omega)).trans hk2)
  have hG2 := hk2.keep _ _ _ _ hG1 (by omega) (by decide)
  clear hk2 hG1 hW1 hK1
  by_cases z1 : r1 = 0
  · subst z1
    have hW2 := hy2 rfl
    clear hy2 hn2 hS
    go_wp2
    have hO2 := hO (hasL f.2.1 1 [] xt) (hasC f.2.1 1) xr f.2.2.1 41 w2.drew (hW2.below (below_drew w2)) (by unfold hasC; split <;> omega) (by omega)
    rw [iw.1, iw.2] at hO2
    have c1 := hW2.cells.2.2.1
    have c2 := (four_cells hG2).2.2.1
    generalize hr2 : idE f.2.2.1 xr b 41 = r2 at *
    go_region_held2 (fun wx => wx.cell? ⟨B, 3, none⟩ = some (.bool f.2.2.1) ∧ wx.cell? ⟨w.heap.size, 2, none⟩ = some (.int .u32 xr))
      (first | exact ⟨c1, c2⟩ | assumption)
      (first | (go_at_call 115; refine hO2.mono ?_; rintro e w3 ⟨rfl, hk3, hy3, hn3⟩; have hS : w3.cell? ⟨B, 3, none⟩ = some (.bool f.2.2.1) ∧ w3.cell? ⟨w.heap.size, 2, none⟩ = some (.int .u32 xr) := ⟨(by by_cases h : r2 = 0; exact (hy3 h).cells.2.2.1; exact (hn3 h).cells.2.2.1), (four_cells (hk3.keep _ _ _ _ hG2 (by omega) (by decide))).2.2.1⟩))
    clear hO2 c1 c2
    have hK3 : KeepW B w w3 := hK2.trans ((KeepW.of_below (below_drew w2) (by have := hK2.below.size; omega)).trans hk3)
    have hG3 := hk3.keep _ _ _ _ hG2 (by omega) (by decide)
    clear hk3 hG2 hW2 hK2
    by_cases z2 : r2 = 0
    · subst z2
      have hW3 := hy3 rfl
      clear hy3 hn3 hS
      have c3 := (four_cells hG3).2.2.2
      have hK3w := hK3
      go_wp2
      have HF : Hid (lookF refT xo = (f, true)) := hf
      have HL : Hid (xl.length = n) := hl
      have hLt := fun (k : Nat) (hk : k < 140737488351232) w => grammarLetter_any xo k w (by omega)
      rw [hf] at hLt
      have hsh := look_noText xo
      rw [hf] at hsh
      obtain ⟨hnt, hsf⟩ := hsh
      have hfx : f.2.2.2.1.size ≤ 1000 := by simp [shortF] at hsf; omega
      have hc0 : ((headW f xt xr).length : Int) ≤ 2 := by
        unfold headW
        cases f.2.1 <;> cases f.2.2.1 <;> simp
      have hn47 : n < 140737488351232 := by omega
      have hWh := fun wx (h : ArgsV wx ax xl) (h0 : wx.cell? ⟨B, 0, none⟩ = some (.int .u16 xo)) (hB : B < wx.heap.size) => formWhole_any B xo ax n cx xl wx hB h0 h hl (by omega)
      rw [hf] at hWh
      have hfeW : ∀ v, v ≠ 0 → wrongL f b 0 xl = v → fe = v := fun v hv h => by rw [HE.out, h]; simp [hv]
      have hfeH : wrongL f b 0 xl = 0 → wholeN f xl.length = false → fe = 42 := fun h h2 => by rw [HE.out, h, h2]; simp
      have hfeC : wrongL f b 0 xl = 0 → wholeN f xl.length = true → fe = if 65535 < 1 + (rawL f (xo, xt, xr, xl)).length then 25 else 0 := fun h h2 => by rw [HE.out, h, h2]; simp
      clear HE hf hl hsf hO
      go_loopw [41] (fun i wr => ∃ (k : Nat) (zs : List Int) (c : Int), k ≤ n ∧ i = .int .i64 k ∧ Wrt wr B xo f b zs c ∧ KeepW B w wr ∧ wr.heap[w.heap.size]? = some (.cells #[.int .u16 xo, .int .u32 xt, .int .u32 xr, .slice ax n cx] 26 (0, 0)) ∧ (∀ j, j < k → wrongA (letterI f (j : Int)) (nthA xl j) b = 0) ∧
          c = 1 + (headW f xt xr).length + (wordsL (xl.take k)).length ∧ (c ≤ 65535 → zs = headW f xt xr ++ wordsL (xl.take k)) ∧ c ≤ 3 + k + ((min k 1000 : Nat) : Int) * 140737488351233) (fun i _ => n - (intOf i).toNat)
      case atStart => exact ⟨0, _, _, Nat.zero_le _, rfl, hW3, hK3w, hG3, fun j hj => by omega, by simp [wordsL], fun _ => by simp [wordsL], by simp; omega⟩
      case round =>
        obtain ⟨k, zs, c, hk, rfl, hWr, hKr, hGr, hall, hce, hzs, hcb⟩ := hrel
        clear hW3 hK3 hK3w hG3 c3
        have HALL : Hid (∀ j, j < k → wrongA (letterI f (j : Int)) (nthA xl j) b = 0) := hall
        have HCE : Hid (c = 1 + (headW f xt xr).length + (wordsL (xl.take k)).length) := hce
        have HZS : Hid (c ≤ 65535 → zs = headW f xt xr ++ wordsL (xl.take k)) := hzs
        clear hall hce hzs
        have hBr := hWr.lt
        have hszr := hKr.below.size
        have hA := hv.below hKr.below
        by_cases hlt : k < n
        · have hkl : k < xl.length := by rw [HL.out]; exact hlt
          obtain ⟨b1, o1, rfl, hb1l, p1, p2, p3⟩ := hA k hkl
          have hax := hal k hkl
          have hL := hLt k (by omega)
          have hMs := fun w => mayStand_any (letterI f (k : Int)) (nthA xl k) w
          have hPW := fun wx (h : Wrt wx B xo f b zs c) => putWord_any B xo f b zs c (letterI f (k : Int)) (nthA xl k) wx h (by omega)
          have hPN := fun wx (h : Wrt wx B xo f b zs c) j hj h0 => putText_nul B xo f b zs c (letterI f (k : Int)) (nthA xl k) wx h j hj h0
          have hPT := fun wx (h : Wrt wx B xo f b zs c) (hnn : NoNul (nthA xl k).2.2) (h2 : (nthA xl k).2.2.size ≤ 140737488351232) => putText_ok B xo f b zs c (letterI f (k : Int)) (nthA xl k) wx h hnn h2 (by omega)
          have hPu := fun w => putter_any B (nthA xl k).1 w
          unfold argV at hMs hPW hPN hPT
          have hki : (k : Int) < (n : Int) := by omega
          have hk0 : (0 : Int) ≤ (k : Int) := by omega
          have w0 := hWr.cells.1
          have hwr : ∀ v, v ≠ 0 → wrongA (letterI f (k : Int)) (nthA xl k) b = v → fe = v := fun v hv0 h => hfeW v hv0 (by
            rw [wrongL_first (k := 0) (j := k) hkl (fun i hi => by rw [Nat.zero_add]; exact HALL.out i hi) (by rw [Nat.zero_add, h]; exact hv0), Nat.zero_add, h])
          have hnext : wrongA (letterI f (k : Int)) (nthA xl k) b = 0 → ∀ j, j < k + 1 → wrongA (letterI f (j : Int)) (nthA xl j) b = 0 := fun h j hj => by
            by_cases hjk : j < k
            · exact HALL.out j hjk
            · obtain rfl : j = k := by omega
              exact h
          have htk := wordsL_take xl k hkl
          have hkind : kindI (letterI f (k : Int)) = 3 → k < 1000 := fun h => Nat.lt_of_lt_of_le (text_fixed hnt h) hfx
          have HN : Hid (∀ v, v ≠ 0 → wrongA (letterI f (k : Int)) (nthA xl k) b = v → fe = v) := hwr
          have HX : Hid (wrongA (letterI f (k : Int)) (nthA xl k) b = 0 → ∀ j, j < k + 1 → wrongA (letterI f (j : Int)) (nthA xl j) b = 0) := hnext
          have HT : Hid (wordsL (xl.take (k + 1)) = wordsL (xl.take k) ++ wordsA (nthA xl k)) := htk
          have HKD : Hid (kindI (letterI f (k : Int)) = 3 → k < 1000) := hkind
          clear hwr hnext htk hkind hA hWh hfeW hfeH hfeC hLt hnt hfx
          generalize nthA xl k = z at *
          obtain ⟨z1, z2, z3⟩ := z
          generalize letterI f (k : Int) = cc at *
          simp only at *
          go_wp2_with fail
          have hb4 : Below wr.heap.size wr (wr.alloc (.cells #[.int .u8 z1, .int .u32 z2, .string z3] 63)) := (Below.refl _ wr).alloc (Nat.le_refl _) _
          have kA := alloc_new wr #[.int .u8 z1, .int .u32 z2, .string z3] 63
          have hl4 : wr.heap.size < (wr.alloc (.cells #[.int .u8 z1, .int .u32 z2, .string z3] 63)).heap.size := by simp
          generalize wr.alloc (.cells #[.int .u8 z1, .int .u32 z2, .string z3] 63) = W4 at *
          refine (hL _).mono ?_
          rintro e w5 ⟨rfl, hb5⟩
          have kA5 := (hb5.block _ hl4).trans kA
          have s5 := hb5.size
          obtain ⟨hc5, _⟩ := one_block kA5
          have a0 := hc5 0
          have a1 := hc5 1
          have a2 := hc5 2
          clear hc5 hL
          go_wp2_with fail
          refine (hMs _).mono ?_
          rintro e w6 ⟨rfl, hb6⟩
          have s6 := hb6.size
          have kA6 := (hb6.block _ (by omega)).trans kA5
          have hb46 := hb4.trans ((hb5.trans (hb6.mono s5)).mono (by omega))
          have hW6 := hWr.below hb46
          have hG6 := (hb46.block _ (Array.getElem?_eq_some_iff.1 hGr).1).trans hGr
          have hK6 := hKr.trans (KeepW.of_below hb46 (by omega))
          obtain ⟨hc6, _⟩ := one_block kA6
          have d0 := hc6 0
          have d1 := hc6 1
          have d2 := hc6 2
          have HG6 : Hid (w6.heap[w.heap.size]? = some (.cells #[.int .u16 xo, .int .u32 xt, .int .u32 xr, .slice (some ⟨b1, o1, none⟩) n cx] 26 (0, 0))) := hG6
          have HK6 : Hid (KeepW B w w6) := hK6
          have HW6 : Hid (Wrt w6 B xo f b zs c) := hW6
          clear hc6 a0 a1 a2 kA5 kA6 kA hb4 hb5 hb6 hMs hb46 hG6 hK6 hW6 hGr hWr hKr p1 p2 p3 hl4 s5 s6
          cases hms : mayStandB cc (z1, z2, z3)
          · have e1 : fe = 42 := HN.out 42 (by decide) (by rw [wrongA, if_pos hms])
            subst e1
            clear d0 d1 d2
            go_wp2
            go_ret
            exact ⟨rfl, HK6.out, fun h => by cases h⟩
          · have HMS : Hid (wrongA cc (z1, z2, z3) b = if z1 = 3 then (if nulS z3 then 13 else 0) else faultW cc z2 b) := by
              show _ = _
              rw [wrongA, hms]; simp
            have HKC : Hid (z1 = kindI cc) := by
              unfold mayStandB at hms
              simp only [Bool.and_eq_true] at hms
              exact eq_of_beq hms.1.2
            clear hms
            go_wp2_with fail
            refine (hPu _).mono ?_
            rintro e w7 ⟨rfl, rfl⟩
            by_cases k3 : z1 = 3
            · subst k3
              rw [if_pos rfl]
              cases hnu : nulS z3
              · have e0 : wrongA cc (3, z2, z3) b = 0 := by rw [HMS.out, hnu]; simp
                have hP := hPT w6 HW6.out (nulS_false.1 hnu) hax.2.2.2.2
                have hrm : z3.size ≤ 140737488351232 := hax.2.2.2.2
                have hk1 := HKD.out HKC.out.symm
                have hlw : (wordsA (3, z2, z3)).length = z3.size / 4 + 1 := by rw [wordsA_len]; simp
                have hww : wordsA (3, z2, z3) = textW z3 := by rw [wordsA]; simp
                obtain ⟨m, hm⟩ : ∃ m, m = z3.size / 4 + 1 := ⟨_, rfl⟩
                rw [← hm] at hP hlw
                have hmb : m ≤ 140737488351232 := by omega
                clear hm
                go_wp2_with fail
                refine hP.mono ?_
                rintro e w8 ⟨rfl, hk8, hW8⟩
                clear hP hPW hPN hPT hPu d0 d1 d2
                go_wp2
                go_roundw
                case rel =>
                  refine ⟨k + 1, _, _, by omega, by go_num, hW8, HK6.out.trans hk8, hk8.keep _ _ _ _ HG6.out (by omega) (by decide), HX.out e0, ?_, fun h => ?_, ?_⟩
                  · rw [HT.out, List.length_append, hlw, HCE.out]; push_cast; omega
                  · rw [putL, if_pos h, HZS.out (by omega), HT.out, hww, List.append_assoc]
                  · push_cast; omega
                case measure => simp [intOf]; omega
              · have e1 : fe = 13 := HN.out 13 (by decide) (by rw [HMS.out, hnu]; simp)
                subst e1
                obtain ⟨j, hj, h0⟩ := nulS_true hnu
                have hP := hPN w6 HW6.out j hj h0
                go_wp2_with fail
                refine hP.mono ?_
                rintro e w8 ⟨rfl, hk8⟩
                clear hP hPW hPN hPT hPu d0 d1 d2
                go_wp2
                go_ret
                exact ⟨rfl, HK6.out.trans hk8, fun h => by cases h⟩
            · rw [if_neg k3]
              have hP := hPW w6 HW6.out
              have HMS2 : Hid (wrongA cc (z1, z2, z3) b = faultW cc z2 b) := by show _ = _; rw [HMS.out, if_neg k3]
              have hww : wordsA (z1, z2, z3) = [z2] := by rw [wordsA]; simp [k3]
              generalize faultW cc z2 b = r at *
              go_wp2_with fail
              refine hP.mono ?_
              rintro e w8 ⟨rfl, hk8, hy8, _⟩
              clear hP hPW hPN hPT hPu d0 d1 d2
              by_cases hr0 : r = 0
              · subst hr0
                have hW8 := hy8 rfl
                go_wp2
                go_roundw
                case rel =>
                  refine ⟨k + 1, _, _, by omega, by go_num, hW8, HK6.out.trans hk8, hk8.keep _ _ _ _ HG6.out (by omega) (by decide), HX.out HMS2.out, ?_, fun h => ?_, ?_⟩
                  · rw [HT.out, List.length_append, hww, HCE.out]; simp; omega
                  · rw [putL, if_pos h, HZS.out (by omega), HT.out, hww, List.append_assoc]
                  · push_cast; omega
                case measure => simp [intOf]; omega
              · have e1 : fe = r := HN.out r hr0 HMS2.out
                subst e1
                go_wp2
                go_ret
                exact ⟨rfl, HK6.out.trans hk8, fun h => absurd h hr0⟩
        · obtain rfl : k = n := by omega
          have hwl : wrongL f b 0 xl = 0 := wrongL_none fun i hi => by rw [Nat.zero_add]; exact HALL.out i (by rw [← HL.out]; exact hi)
          have hfw := fits_whole (f := f) (l := xl) (fun i hi => wrongA_kind (HALL.out i (by rw [← HL.out]; exact hi)))
          have htk : xl.take k = xl := List.take_of_length_le (by rw [HL.out]; exact Nat.le_refl _)
          have hcR : c = ((1 + (rawL f (xo, xt, xr, xl)).length : Nat) : Int) := by rw [HCE.out, htk, rawL, List.length_append]; push_cast; omega
          have hzR : c ≤ 65535 → zs = rawL f (xo, xt, xr, xl) := fun h => by rw [HZS.out h, htk]; rfl
          have hfC := hfeC hwl
          have hfH := hfeH hwl
          have c3 := (four_cells hGr).2.2.2
          have c10 := hWr.cells.2.2.2
          have hw0 := hWr.cells.1
          have HGR : Hid _ := hGr
          have HKR : Hid (KeepW B w wr) := hKr
          have HWR : Hid (Wrt wr B xo f b zs c) := hWr
          have hV := hA.view (by omega)
          clear hv hA hGr hKr hWr hfeC hfeH hfeW hLt HALL HCE HZS hwl htk
          go_wp2
          have a3 := fun s : InC (Below wr.heap.size wr) => s.cell (p := ⟨w.heap.size, 3, none⟩) (Array.getElem?_eq_some_iff.1 HGR.out).1 c3
          have hF := fun s : InC (Below wr.heap.size wr) => Calls.inC s (hWh s.w (hV.below s.ok) (s.cell (p := ⟨B, 0, none⟩) hBr hw0) (by have := s.ok.size; omega))
          rw [hfw] at hF
          clear hWh hfw
          cases hwh : wholeN f xl.length
          · have e1 : fe = 42 := hfH hwh
            subst e1
            rw [hwh] at hF
            refine wp_region_class (C := Below wr.heap.size wr) (by kernel_rfl) (by kernel_rfl) (below_drew wr) ?_
            have hne : Nonempty (InC (Below wr.heap.size wr)) := ⟨⟨wr, Below.refl _ _⟩⟩
            repeat (go_big_quiet_step ((go_at_call 118; exact hF _)))
            refine wpQuiet_nil ?_
            rintro _ ⟨s, rfl⟩
            have hfin := HKR.out.trans (KeepW.of_below s.ok (by omega))
            clear hne hF a3
            go_wp2
            go_ret
            first | exact ⟨rfl, hfin, fun h => by cases h⟩ | exact ⟨rfl, hfin⟩
          · rw [hwh] at hF
            have hfe := hfC hwh
            refine wp_region_class (C := Below wr.heap.size wr) (by kernel_rfl) (by kernel_rfl) (below_drew wr) ?_
            have hne : Nonempty (InC (Below wr.heap.size wr)) := ⟨⟨wr, Below.refl _ _⟩⟩
            repeat (go_big_quiet_step ((go_at_call 118; exact hF _)))
            refine wpQuiet_nil ?_
            rintro _ ⟨s, rfl⟩
            have hfin := HKR.out.trans (KeepW.of_below s.ok (by omega))
            have hW9 := HWR.out.below s.ok
            have k10 := s.cell (p := ⟨B, 10, none⟩) hBr c10
            clear hne hF a3 c10 c3
            by_cases hlg : (65535 : Int) < c
            · have e1 : fe = 25 := by rw [hfe, if_pos (by omega)]
              clear hfe hcR hfC hfH hzR
              subst e1
              go_wp2
              go_ret
              first | exact ⟨rfl, hfin, fun h => by cases h⟩ | exact ⟨rfl, hfin⟩
            · have e1 : fe = 0 := by rw [hfe, if_neg (by omega)]
              have HZR : Hid (zs = rawL f (xo, xt, xr, xl)) := hzR (by omega)
              clear hfe hcR hfC hfH hzR
              subst e1
              go_wp2
              go_ret
              have hW10 : Wrt s.w B xo f b (rawL f (xo, xt, xr, xl)) c := by rw [← HZR.out]; exact hW9
              first | exact ⟨rfl, hfin, fun _ => ⟨c, hW10⟩⟩ | exact ⟨rfl, hfin, ⟨c, hW10⟩⟩
    · have e1 : fe = r2 := by rw [HE.out]; simp [z2]
      subst e1
      go_wp2
      go_ret
      exact ⟨rfl, hK3, fun h => absurd h z2⟩
  · have e1 : fe = r1 := by rw [HE.out]; simp [z1]
    subst e1
    go_wp2
    go_ret
    exact ⟨rfl, hK2, fun h => absurd h z1⟩

end Go.Proofs.YtbkkmabmkonnbaaGreat

/-
  What Raw of the package code answers, for every instruction and bound.
-/
namespace Go.Proofs.YtbkkmabmkonnbaaGreat
open Go.RowKit
set_option linter.unusedVariables false
set_option linter.unusedSimpArgs false
set_option maxRecDepth 10000

/-- The operation that Raw answers. -/
def rawO (x : InstT) (b : Int) : Int := if rawE x b = 0 then x.1 else 0

theorem two_put2 {w : World} {B T : Nat} {z0 z1 : Value} (h : w.heap[B]? = some (.cells #[z0, z1] T (0, 0))) (u0 u1 : Value) :
    ((w.setCell ⟨B, 0, none⟩ u0).setCell ⟨B, 1, none⟩ u1).heap[B]? = some (.cells #[u0, u1] T (0, 0)) := by
  simp only [World.setCell, Array.getElem?_modify, h]; simp
theorem two_below (w : World) (B : Nat) (u0 u1 : Value) : Below B w ((w.setCell ⟨B, 0, none⟩ u0).setCell ⟨B, 1, none⟩ u1) :=
  ((Below.refl B w).setCell (Nat.le_refl _) _).setCell (Nat.le_refl _) _

theorem own_lo {w : World} {lo lo' e size n : Nat} {v : Value} {xs : List Value} (h : w.ownsRow lo e size v n xs) (hl : lo' ≤ lo) : w.ownsRow lo' e size v n xs := by
  refine ⟨h.1, ?_⟩
  rcases h.2 with hn | ⟨g, cap, cur, e1, hb, rest⟩
  · exact .inl hn
  · exact .inr ⟨g, cap, cur, e1, Nat.le_trans hl hb, rest⟩

set_option maxHeartbeats 2000000 in
theorem raw_any (x : InstT) (b : Int) (ax : Option Addr) (n cx : Nat) (w : World) (hv : ArgsV w ax x.2.2.2) (hok : InstOk x) (hl : x.2.2.2.length = n) :
    Calls Tryz.prog 64 #[instV x ax n cx, .int .u32 b] w fun e w' => Below w.heap.size w w' ∧ ∃ a m c, e = .returned (.tuple #[.agg #[.int .u16 (rawO x b), .slice a m c], .int .i64 (rawE x b)]) ∧ (rawWs x b).length = m ∧
      w'.ownsRow w.heap.size 22 1 (.slice a m c) m ((rawWs x b).map (Value.int .u32)) := by
  have hOf := fun w => of_any x.1 w
  obtain ⟨f, hf⟩ : ∃ f, f = (lookF refT x.1).1 := ⟨_, rfl⟩
  by_cases h0 : (lookF refT x.1).2 = true
  · have hff : lookF refT x.1 = (f, true) := by rw [hf, ← h0]
    have hE : rawE x b = faultI f x b := by rw [rawE, if_pos h0, ← hf]
    have eV : ofV x.1 = formV x.1 f := by unfold ofV; rw [if_pos h0, ← hf]
    rw [hff, eV] at hOf
    have hI := fun (B : Nat) wx (hW : Wrt wx B x.1 f b [] 1) (h : ArgsL wx B ax x.2.2.2) => winst_any B f b x ax n cx wx hW hff hok h hl
    rw [← hE] at hI
    have hRW : rawE x b = 0 → rawWs x b = rawL f x ∧ rawO x b = x.1 := fun h => ⟨by rw [rawWs, if_pos h, ← hf], by rw [rawO, if_pos h]⟩
    have hRN : rawE x b ≠ 0 → rawWs x b = [] ∧ rawO x b = 0 := fun h => ⟨by rw [rawWs, if_neg h], by rw [rawO, if_neg h]⟩
    generalize rawE x b = r at *
    generalize rawWs x b = ws at *
    generalize rawO x b = ro at *
    clear hff hE eV h0 hf hok
    obtain ⟨xo, xt, xr, xl⟩ := x
    unfold instV at hI ⊢
    unfold formV at hOf
    obtain ⟨f1, f2, f3, f4, f5, f6, f7⟩ := f
    simp only at *
    go_enter Tryz.func64, Tryz.ntmps64
    go_wp2_with fail
    have hB0 : Below w.heap.size w ((w.alloc (.cells #[.int .u16 xo, .int .u32 xt, .int .u32 xr, .slice ax n cx] 26)).alloc (.cells #[.int .u16 0, .slice none 0 0] 129)) := ((Below.refl _ w).alloc (Nat.le_refl _) _).alloc (by simp) _
    have kI : ((w.alloc (.cells #[.int .u16 xo, .int .u32 xt, .int .u32 xr, .slice ax n cx] 26)).alloc (.cells #[.int .u16 0, .slice none 0 0] 129)).heap[w.heap.size]? = some (.cells #[.int .u16 xo, .int .u32 xt, .int .u32 xr, .slice ax n cx] 26 (0, 0)) := (Below.heap_alloc _ _ _ (by simp)).trans (alloc_new w _ _)
    have kR : ((w.alloc (.cells #[.int .u16 xo, .int .u32 xt, .int .u32 xr, .slice ax n cx] 26)).alloc (.cells #[.int .u16 0, .slice none 0 0] 129)).heap[w.heap.size + 1]? = some (.cells #[.int .u16 0, .slice none 0 0] 129 (0, 0)) := by simpa using alloc_new (w.alloc (.cells #[.int .u16 xo, .int .u32 xt, .int .u32 xr, .slice ax n cx] 26)) #[.int .u16 0, .slice none 0 0] 129
    generalize (w.alloc (.cells #[.int .u16 xo, .int .u32 xt, .int .u32 xr, .slice ax n cx] 26)).alloc (.cells #[.int .u16 0, .slice none 0 0] 129) = W0 at *
    have l0 := (Array.getElem?_eq_some_iff.1 kR).1
    refine (hOf _).mono ?_
    rintro e w1 ⟨rfl, hb1⟩
    have s1 := hb1.size
    have kI1 := (hb1.block _ (by omega)).trans kI
    have kR1 := (hb1.block _ l0).trans kR
    have hb01 := hB0.trans (hb1.mono (by omega))
    clear hb1 kI kR hB0 hOf
    have hb2 : Below w1.heap.size w1 (w1.alloc (.cells #[.int .u16 xo, .string f1, .bool f2, .bool f3, .string f4, .string f5, .int .i64 f6, .int .u8 f7] 57)) := (Below.refl _ _).alloc (Nat.le_refl _) _
    have kI2 := (hb2.block _ (by omega)).trans kI1
    have kR2 := (hb2.block _ (by omega)).trans kR1
    have hl2 : w1.heap.size < (w1.alloc (.cells #[.int .u16 xo, .string f1, .bool f2, .bool f3, .string f4, .string f5, .int .i64 f6, .int .u8 f7] 57)).heap.size := by simp
    have hb02 := hb01.trans (hb2.mono (by omega))
    have s02 := hb02.size
    have hW3b : Below (w1.heap.size + 1) (w1.alloc (.cells #[.int .u16 xo, .string f1, .bool f2, .bool f3, .string f4, .string f5, .int .i64 f6, .int .u8 f7] 57)) ((w1.alloc (.cells #[.int .u16 xo, .string f1, .bool f2, .bool f3, .string f4, .string f5, .int .i64 f6, .int .u8 f7] 57)).alloc (.cells (wrtC xo (f1, f2, f3, f4, f5, f6, f7) b (.slice none 0 0) 1) 162)) := (Below.refl _ _).alloc (by simp) _
    obtain ⟨i0, i1, i2, i3⟩ := four_cells ((hW3b.block _ (by omega)).trans kI2)
    have kW := alloc_new (w1.alloc (.cells #[.int .u16 xo, .string f1, .bool f2, .bool f3, .string f4, .string f5, .int .i64 f6, .int .u8 f7] 57)) (wrtC xo (f1, f2, f3, f4, f5, f6, f7) b (.slice none 0 0) 1) 162
    rw [World.size_alloc] at kW
    have kI3 := (hW3b.block _ (by omega)).trans kI2
    have kR3 := (hW3b.block _ (by omega)).trans kR2
    have hb03 := hb02.trans (hW3b.mono (by omega))
    have hlW : w1.heap.size + 1 < ((w1.alloc (.cells #[.int .u16 xo, .string f1, .bool f2, .bool f3, .string f4, .string f5, .int .i64 f6, .int .u8 f7] 57)).alloc (.cells (wrtC xo (f1, f2, f3, f4, f5, f6, f7) b (.slice none 0 0) 1) 162)).heap.size := by simp
    have hWr : Wrt ((w1.alloc (.cells #[.int .u16 xo, .string f1, .bool f2, .bool f3, .string f4, .string f5, .int .i64 f6, .int .u8 f7] 57)).alloc (.cells (wrtC xo (f1, f2, f3, f4, f5, f6, f7) b (.slice none 0 0) 1) 162)) (w1.heap.size + 1) xo (f1, f2, f3, f4, f5, f6, f7) b [] 1 := ⟨⟨_, kW, World.ownsRow_nil _ _ _ _⟩, by simp, by simp⟩
    have hAr := ((ArgsL.of hv).below hb03).mono (show w.heap.size ≤ w1.heap.size + 1 by omega)
    have hC := hI (w1.heap.size + 1) _ hWr hAr
    clear hWr hAr hI kW kI2 kR2 hb02 hW3b hb2 kI1 kR1 hb01 hv
    unfold wrtC at *
    simp only at *
    go_wp2_with fail
    generalize (w1.alloc (.cells #[.int .u16 xo, .string f1, .bool f2, .bool f3, .string f4, .string f5, .int .i64 f6, .int .u8 f7] 57)).alloc (.cells #[.int .u16 xo, .string f1, .bool f2, .bool f3, .string f4, .string f5, .int .i64 f6, .int .u8 f7, .int .u32 b, .slice none 0 0, .int .i64 1] 162) = W3 at *
    refine hC.mono ?_
    rintro e w4 ⟨rfl, hk4, hy4⟩
    have kI4 := hk4.keep _ _ _ _ kI3 (by omega) (by decide)
    have kR4 := hk4.keep _ _ _ _ kR3 (by omega) (by decide)
    have hb04 := hb03.trans (hk4.below.mono (by omega))
    obtain ⟨hcR, hfR⟩ := one_block kR4
    have r0 := hcR 0
    have r1 := hcR 1
    obtain ⟨j0, j1, j2, j3⟩ := four_cells kI4
    clear hC kI3 kR3 hb03 i0 i1 i2 i3 kI4 hcR
    by_cases hr : r = 0
    · subst hr
      obtain ⟨c, hW4⟩ := hy4 rfl
      obtain ⟨⟨v, hbx, hown⟩, _⟩ := hW4
      obtain ⟨e1, e2⟩ := hRW rfl
      rw [← e1] at hown
      obtain ⟨a', cap', rfl, _, hwl⟩ := View.ofOwned hown
      have hown' := own_lo hown (show w.heap.size + 2 ≤ w1.heap.size + 1 + 1 by omega)
      obtain ⟨hcW, _⟩ := one_block hbx
      have k9 := hcW 9
      change w4.cell? ⟨w1.heap.size + 1, 9, none⟩ = some (.slice a' ws.length cap') at k9
      have HO : Hid _ := hown
      subst e2
      have HO2 : Hid _ := hown'
      clear hRW hRN e1 hbx hcW hy4 hk4 hown hwl hown' HO
      generalize ws.length = m at *
      go_wp2
      have hB3 := two_put2 kR4 (.int .u16 ro) (.slice a' m cap')
      have hBel := hb04.trans ((two_below w4 (w.heap.size + 1) (.int .u16 ro) (.slice a' m cap')).mono (by omega))
      have hO3 := own_lo (ownFar (ownFar HO2.out (show w.heap.size + 1 < w.heap.size + 2 by omega) 0 (.int .u16 ro)) (show w.heap.size + 1 < w.heap.size + 2 by omega) 1 (.slice a' m cap')) (show w.heap.size ≤ w.heap.size + 2 by omega)
      clear hb04 kR4 r0 r1 hfR k9 HO2 j0 j1 j2 j3
      generalize (w4.setCell _ _).setCell _ _ = W at hB3 hBel hO3 ⊢
      obtain ⟨hd, _⟩ := one_block hB3
      have d0 := hd 0
      have d1 := hd 1
      refine bodyPost_ret (v := .tuple #[.agg #[.int .u16 ro, .slice a' m cap'], .int .i64 0]) ?_ rfl ⟨hBel, a', m, cap', rfl, ?_, hO3⟩
      · simp [results, Tryz.results64, go_sem, d0, d1]
      · have := hO3.1
        simpa using this
    · obtain ⟨e1, e2⟩ := hRN hr
      subst e1 e2
      clear hRW hRN hy4 hk4 j0 j1 j2 j3
      go_wp2
      have hB3 := two_put2 kR4 (.int .u16 0) (.slice none 0 0)
      have hBel := hb04.trans ((two_below w4 (w.heap.size + 1) (.int .u16 0) (.slice none 0 0)).mono (by omega))
      clear hb04 kR4 r0 r1 hfR
      generalize (w4.setCell _ _).setCell _ _ = W at hB3 hBel ⊢
      obtain ⟨hd, _⟩ := one_block hB3
      have d0 := hd 0
      have d1 := hd 1
      refine bodyPost_ret (v := .tuple #[.agg #[.int .u16 0, .slice none 0 0], .int .i64 r]) ?_ rfl ⟨hBel, none, 0, 0, rfl, rfl, World.ownsRow_nil _ _ _ _⟩
      simp [results, Tryz.results64, go_sem, d0, d1]
  · have hE : rawE x b = 30 := by rw [rawE, if_neg h0]
    have hE2 : rawWs x b = [] := by rw [rawWs, hE]; rfl
    have hE3 : rawO x b = 0 := by rw [rawO, hE]; rfl
    rw [hE, hE2, hE3]
    have h0' : (lookF refT x.1).2 = false := by simpa using h0
    have eV : ofV x.1 = formV 0 noFrm := by unfold ofV; rw [if_neg h0]
    rw [h0', eV] at hOf
    unfold formV noFrm at hOf
    clear hE hE2 hE3 h0 h0' eV hf
    obtain ⟨xo, xt, xr, xl⟩ := x
    unfold instV
    simp only at *
    go_enter Tryz.func64, Tryz.ntmps64
    go_wp2_with fail
    have hB0 : Below w.heap.size w ((w.alloc (.cells #[.int .u16 xo, .int .u32 xt, .int .u32 xr, .slice ax n cx] 26)).alloc (.cells #[.int .u16 0, .slice none 0 0] 129)) := ((Below.refl _ w).alloc (Nat.le_refl _) _).alloc (by simp) _
    have kI : ((w.alloc (.cells #[.int .u16 xo, .int .u32 xt, .int .u32 xr, .slice ax n cx] 26)).alloc (.cells #[.int .u16 0, .slice none 0 0] 129)).heap[w.heap.size]? = some (.cells #[.int .u16 xo, .int .u32 xt, .int .u32 xr, .slice ax n cx] 26 (0, 0)) := (Below.heap_alloc _ _ _ (by simp)).trans (alloc_new w _ _)
    have kR : ((w.alloc (.cells #[.int .u16 xo, .int .u32 xt, .int .u32 xr, .slice ax n cx] 26)).alloc (.cells #[.int .u16 0, .slice none 0 0] 129)).heap[w.heap.size + 1]? = some (.cells #[.int .u16 0, .slice none 0 0] 129 (0, 0)) := by simpa using alloc_new (w.alloc (.cells #[.int .u16 xo, .int .u32 xt, .int .u32 xr, .slice ax n cx] 26)) #[.int .u16 0, .slice none 0 0] 129
    generalize (w.alloc (.cells #[.int .u16 xo, .int .u32 xt, .int .u32 xr, .slice ax n cx] 26)).alloc (.cells #[.int .u16 0, .slice none 0 0] 129) = W0 at *
    have l0 := (Array.getElem?_eq_some_iff.1 kR).1
    refine (hOf _).mono ?_
    rintro e w1 ⟨rfl, hb1⟩
    have s1 := hb1.size
    have kI1 := (hb1.block _ (by omega)).trans kI
    have kR1 := (hb1.block _ l0).trans kR
    have hb01 := hB0.trans (hb1.mono (by omega))
    clear hb1 kI kR hB0 hOf
    have hb2 : Below w1.heap.size w1 (w1.alloc (.cells #[.int .u16 0, .string ⟨#[]⟩, .bool false, .bool false, .string ⟨#[]⟩, .string ⟨#[]⟩, .int .i64 0, .int .u8 0] 57)) := (Below.refl _ _).alloc (Nat.le_refl _) _
    have kR2 := (hb2.block _ (by omega)).trans kR1
    obtain ⟨hcR, hfR⟩ := one_block kR2
    have r0 := hcR 0
    have r1 := hcR 1
    have hb02 := hb01.trans (hb2.mono (by omega))
    clear hb2 kI1 kR1 hcR hb01
    go_wp2
    have hB3 := two_put2 kR2 (.int .u16 0) (.slice none 0 0)
    have hBel := hb02.trans ((two_below _ (w.heap.size + 1) (.int .u16 0) (.slice none 0 0)).mono (by omega))
    clear hb02 kR2 r0 r1 hfR
    generalize ((w1.alloc _).setCell _ _).setCell _ _ = W at hB3 hBel ⊢
    obtain ⟨hd, _⟩ := one_block hB3
    have d0 := hd 0
    have d1 := hd 1
    refine bodyPost_ret (v := .tuple #[.agg #[.int .u16 0, .slice none 0 0], .int .i64 30]) ?_ rfl ⟨hBel, none, 0, 0, rfl, rfl, World.ownsRow_nil _ _ _ _⟩
    simp [results, Tryz.results64, go_sem, d0, d1]

end Go.Proofs.YtbkkmabmkonnbaaGreat
