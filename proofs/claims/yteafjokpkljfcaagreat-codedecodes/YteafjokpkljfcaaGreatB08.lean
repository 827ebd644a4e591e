/-
  Texts laid together in one: MathI, MathT, MathN, WordsByteAt, WordsTextEnd, WordsJoin, WordsText, WordsText2, SlicesClone, Ref01Byte, Ref01Text, WordsTextSame.
-/
import Derived.Test.YteafjokpkljfcaaGreatB01
import Derived.Test.YteafjokpkljfcaaGreatB06
import Derived.Test.YteafjokpkljfcaaGreatB07
import Derived.Test.YteafjokpkljfcaaGreatB05
import Derived.Test.YteafjokpkljfcaaGreatProg
import Derived.WalkSpells
import Derived.WalkMore
import Derived.Test.YteafjokpkljfcaaGreatB02
/-
  Plain facts on instructions as words: what is wrong with an instruction, and its words.
-/
namespace Go.Proofs.YteafjokpkljfcaaGreat
open Go.RowKit
set_option linter.unusedVariables false
set_option linter.unusedSimpArgs false

/-- Is a byte of a text zero? -/
def nulS (s : ByteArray) : Bool := s.data.toList.any (· == 0)
theorem nulS_false {s : ByteArray} : nulS s = false ↔ NoNul s := by
  unfold nulS NoNul
  rw [List.any_eq_false]
  constructor
  · intro h k hk
    rw [nth_strI s k hk]
    intro e
    have h1 : s[k].toNat = 0 := by omega
    have h2 : s.data.toList[k]'(by rw [size_list]; exact hk) = 0 := UInt8.toNat_inj.1 h1
    exact h _ (List.getElem_mem (by rw [size_list]; exact hk)) (by simp [h2])
  · intro h x hx hx0
    obtain ⟨k, hk, rfl⟩ := List.mem_iff_getElem.1 hx
    have hk' : k < s.size := by rw [← size_list]; exact hk
    apply h k hk'
    rw [nth_strI s k hk']
    have e : s[k] = s.data.toList[k] := rfl
    rw [e, eq_of_beq hx0]
    rfl
theorem nulS_true {s : ByteArray} (h : nulS s = true) : ∃ k, k < s.size ∧ nth (strI s) k = 0 := by
  apply Classical.byContradiction
  intro hn
  have : NoNul s := fun k hk e => hn ⟨k, hk, e⟩
  rw [← nulS_false] at this
  rw [this] at h
  cases h
theorem size_zero {s : ByteArray} (h : s.size = 0) : s = ⟨#[]⟩ := by
  have : s.data = #[] := Array.eq_empty_of_size_eq_zero h
  cases s; simp_all

/-- What is wrong with an argument. -/
def wrongA (c : Int) (x : ArgT) (b : Int) : Int := if mayStandB c x = false then 42 else if x.1 = 3 then (if nulS x.2.2 then 13 else 0) else faultW c x.2.1 b

/-- The first wrong argument's error. -/
def wrongL (f : Frm) (b : Int) : Nat → List ArgT → Int
  | _, [] => 0
  | k, x :: l => if wrongA (letterI f k) x b = 0 then wrongL f b (k + 1) l else wrongA (letterI f k) x b

/-- An argument's words. -/
def wordsA (x : ArgT) : List Int := if x.1 = 3 then textW x.2.2 else [x.2.1]
theorem wordsA_len (x : ArgT) : (wordsA x).length = if x.1 = 3 then x.2.2.size / 4 + 1 else 1 := by
  unfold wordsA
  split
  · exact textW_len _
  · rfl
def wordsL (l : List ArgT) : List Int := l.flatMap wordsA
/-- The ids ahead of the arguments. -/
def headW (f : Frm) (t r : Int) : List Int := (if f.2.1 then [t] else []) ++ (if f.2.2.1 then [r] else [])
/-- An instruction's words. -/
def rawL (f : Frm) (x : InstT) : List Int := headW f x.2.1 x.2.2.1 ++ wordsL x.2.2.2

/-- What is wrong with an instruction, its form being f. -/
def faultI (f : Frm) (x : InstT) (b : Int) : Int :=
  if idE f.2.1 x.2.1 b 40 ≠ 0 then idE f.2.1 x.2.1 b 40
  else if idE f.2.2.1 x.2.2.1 b 41 ≠ 0 then idE f.2.2.1 x.2.2.1 b 41
  else if wrongL f b 0 x.2.2.2 ≠ 0 then wrongL f b 0 x.2.2.2
  else if wholeN f x.2.2.2.length = false then 42
  else if 65535 < 1 + (rawL f x).length then 25 else 0
/-- What Raw answers: its error. -/
def rawE (x : InstT) (b : Int) : Int := if (lookF refT x.1).2 then faultI (lookF refT x.1).1 x b else 30
/-- Its words. -/
def rawWs (x : InstT) (b : Int) : List Int := if rawE x b = 0 then rawL (lookF refT x.1).1 x else []

/-- The first that is wrong. -/
theorem wrongL_first {f : Frm} {b : Int} : ∀ {l : List ArgT} {k j : Nat}, j < l.length → (∀ i, i < j → wrongA (letterI f ((k + i : Nat) : Int)) (nthA l i) b = 0) → wrongA (letterI f ((k + j : Nat) : Int)) (nthA l j) b ≠ 0 → wrongL f b k l = wrongA (letterI f ((k + j : Nat) : Int)) (nthA l j) b
  | [], _, j, hj, _, _ => by simp at hj
  | x :: l, k, 0, _, _, h => by
    rw [wrongL, if_neg (show ¬ wrongA (letterI f k) x b = 0 from h)]; rfl
  | x :: l, k, j + 1, hj, h0, h => by
    have h1 : wrongA (letterI f k) x b = 0 := h0 0 (by omega)
    rw [wrongL, if_pos h1]
    have e := wrongL_first (f := f) (b := b) (l := l) (k := k + 1) (j := j) (by simpa using hj) (fun i hi => by have := h0 (i + 1) (by omega); rw [show k + (i + 1) = k + 1 + i by omega] at this; exact this) (by rw [show k + (j + 1) = k + 1 + j by omega] at h; exact h)
    rw [e, show k + (j + 1) = k + 1 + j by omega]; rfl
theorem wrongL_none {f : Frm} {b : Int} : ∀ {l : List ArgT} {k : Nat}, (∀ i, i < l.length → wrongA (letterI f ((k + i : Nat) : Int)) (nthA l i) b = 0) → wrongL f b k l = 0
  | [], _, _ => rfl
  | x :: l, k, h => by
    have h1 : wrongA (letterI f k) x b = 0 := h 0 (by simp)
    rw [wrongL, if_pos h1]
    exact wrongL_none fun i hi => by have := h (i + 1) (by simpa using hi); rw [show k + (i + 1) = k + 1 + i by omega] at this; exact this

/-- An argument that is right stands, and has its letter's kind. -/
theorem wrongA_kind {c : Int} {x : ArgT} {b : Int} (h : wrongA c x b = 0) : c ≠ 0 ∧ x.1 = kindI c := by
  unfold wrongA at h
  split at h
  · cases h
  · rename_i hm
    simp [mayStandB] at hm
    exact ⟨hm.1, hm.2.1⟩

/-- Where all arguments stand, the kinds fit just if they are whole. -/
theorem fits_whole {f : Frm} {l : List ArgT} (h : ∀ i, i < l.length → letterI f (i : Int) ≠ 0 ∧ (nthA l i).1 = kindI (letterI f (i : Int))) : (fitsI true f (kindsL l)).2 = wholeN f l.length := by
  have hl : (kindsL l).length = l.length := by simp [kindsL]
  have hb : ∀ j, j < l.length → badK f (kindsL l) j = false := fun j hj => by
    obtain ⟨h1, h2⟩ := h j hj
    simp [badK, h1, kindsL_nth l j hj, h2]
  unfold fitsI
  rw [if_neg (by simp), hl, range_not _ hb]
  have e : (if wholeB f l.length = true then ((0 : Int), true) else ((l.length : Int), false)).2 = wholeB f l.length := by split <;> simp_all
  simp only [e]
  unfold wholeB wholeN
  rw [Bool.eq_iff_iff]
  by_cases h1 : (l.length : Int) < f.2.2.2.1.size
  · rw [if_pos h1]
    simp; constructor
    · omega
    · intro h2; omega
  · rw [if_neg h1]
    by_cases h2 : f.2.2.2.2.1.size = 0
    · rw [if_pos h2]
      have h3 : ¬ f.2.2.2.1.size < l.length := fun h3 => rest_of_letters (f := f) (zs := kindsL l) (fun j hj => hb j (by rw [← hl]; exact hj)) (by rw [hl]; exact h3) h2
      simp; omega
    · rw [if_neg h2]
      simp
      constructor
      · rintro (h3 | ⟨_, h3⟩)
        · rw [show (l.length : Int) - f.2.2.2.1.size = 0 by omega]; simp
        · exact h3
      · intro h3
        by_cases h4 : (l.length : Int) - f.2.2.2.1.size = 0
        · exact .inl h4
        · exact .inr ⟨by omega, h3⟩

/-- No row of Rest has a text. -/
def noText (f : Frm) : Bool := f.2.2.2.2.1.data.toList.all (fun x => x != 115)
theorem refT_noText : refT.all (fun p => noText p.2 && shortF p.2) = true := by decide +kernel
theorem look_noText (n : Int) : noText (lookF refT n).1 = true ∧ shortF (lookF refT n).1 = true := by
  by_cases h : (lookF refT n).2 = true
  · have := (List.all_eq_true.1 refT_noText) _ (lookF_true h)
    simpa using this
  · rw [(lookF_false (by simpa using h)).1]; exact ⟨rfl, rfl⟩
theorem text_fixed {f : Frm} (hf : noText f = true) {k : Nat} (h : kindI (letterI f (k : Int)) = 3) : k < f.2.2.2.1.size := by
  apply Classical.byContradiction
  intro hn
  have hk : kindI 0 ≠ 3 := by decide
  unfold letterI at h
  rw [if_neg (by omega), if_neg (by omega)] at h
  split at h
  · rename_i hm
    generalize hj : (((k : Int) - f.2.2.2.1.size) % f.2.2.2.2.1.size).toNat = j at h
    have hlt : j < f.2.2.2.2.1.size := by
      unfold mayB at hm
      by_cases h0 : f.2.2.2.2.1.size = 0
      · rw [if_pos h0] at hm; cases hm
      · have := Int.emod_lt_of_pos ((k : Int) - f.2.2.2.1.size) (show (0 : Int) < f.2.2.2.2.1.size by omega)
        have := Int.emod_nonneg ((k : Int) - f.2.2.2.1.size) (show (f.2.2.2.2.1.size : Int) ≠ 0 by omega)
        omega
    have h1 : sgn f.2.2.2.2.1 j = 115 := by
      unfold kindI at h
      split at h
      · cases h
      · split at h
        · cases h
        · split at h
          · assumption
          · split at h <;> cases h
    have hl : j < f.2.2.2.2.1.data.toList.length := by rw [size_list]; exact hlt
    have h2 := (List.all_eq_true.1 hf) (f.2.2.2.2.1.data.toList[j]) (List.getElem_mem hl)
    simp only [bne_iff_ne, ne_eq] at h2
    apply h2
    have h3 : (f.2.2.2.2.1.data.toList[j]).toNat = 115 := by
      unfold sgn at h1
      rw [List.getD, List.getElem?_eq_getElem hl] at h1
      simp only [Option.getD_some] at h1
      omega
    exact UInt8.toNat_inj.1 h3
  · exact hk h

theorem wordsL_take (l : List ArgT) (k : Nat) (h : k < l.length) : wordsL (l.take (k + 1)) = wordsL (l.take k) ++ wordsA (nthA l k) := by
  unfold wordsL
  rw [List.take_add_one, List.getElem?_eq_getElem h, nthA_lt _ _ h, Option.toList_some, List.flatMap_append]
  simp

end Go.Proofs.YteafjokpkljfcaaGreat

/-
  The text at the front of words, as a function of the words.
-/
namespace Go.Proofs.YteafjokpkljfcaaGreat
open Go.RowKit

/-- The place of the first zero; the length where there is none. -/
def zeroAt (js : List Int) : Nat := js.findIdx (· == 0)

theorem nth_lt (js : List Int) (k : Nat) (h : k < js.length) : nth js k = js[k] := by simp [nth, List.getD, h]

theorem zeroAt_before (js : List Int) (i : Nat) (h : i < zeroAt js) (hi : i < js.length) : nth js i ≠ 0 := by
  rw [nth_lt _ _ hi]
  have := List.not_of_lt_findIdx (p := (· == 0)) (xs := js) h
  simpa using this

theorem zeroAt_at (js : List Int) (h : zeroAt js < js.length) : nth js (zeroAt js) = 0 := by
  rw [nth_lt _ _ h]
  have := List.findIdx_getElem (p := (· == 0)) (xs := js) (w := h)
  exact eq_of_beq this

/-- Is a byte behind the zero, in its word, not zero? -/
def padBad (js : List Int) : Bool := ((js.drop (zeroAt js + 1)).take (3 - zeroAt js % 4)).any (· != 0)

/-- The text at the front of words, how many words it takes, and its error. -/
def textI (zs : List Int) : ByteArray × Int × Int :=
  if (joinL zs).length ≤ zeroAt (joinL zs) then (⟨#[]⟩, 0, 11)
  else if padBad (joinL zs) then (⟨#[]⟩, 0, 12)
  else (strOfNums ((joinL zs).take (zeroAt (joinL zs))), ((zeroAt (joinL zs) / 4 : Nat) : Int) + 1, 0)

theorem padBad_iff {js : List Int} {L P : Nat} (hz : zeroAt js = 4 * L + P) (hP : P < 4) (hl : 4 * L + 4 ≤ js.length) : padBad js = true ↔ ∃ q, P < q ∧ q < 4 ∧ nth js (4 * L + q) ≠ 0 := by
  unfold padBad
  rw [List.any_eq_true, hz, show (4 * L + P) % 4 = P by omega]
  constructor
  · rintro ⟨x, hx, hne⟩
    obtain ⟨k, hk, rfl⟩ := List.mem_iff_getElem.1 hx
    rw [List.length_take, List.length_drop] at hk
    rw [List.getElem_take, List.getElem_drop] at hne
    refine ⟨P + 1 + k, by omega, by omega, ?_⟩
    rw [nth_lt _ _ (by omega)]
    have e : 4 * L + (P + 1 + k) = 4 * L + P + 1 + k := by omega
    simp only [e]
    simpa using hne
  · rintro ⟨q, h1, h2, h3⟩
    refine ⟨nth js (4 * L + q), ?_, by simpa using h3⟩
    rw [nth_lt _ _ (by omega)]
    refine List.mem_iff_getElem.2 ⟨q - P - 1, ?_, ?_⟩
    · rw [List.length_take, List.length_drop]; omega
    · rw [List.getElem_take, List.getElem_drop]
      congr 1; omega

theorem textI_some {zs : List Int} (h : (textI zs).2.2 = 0) : zeroAt (joinL zs) < (joinL zs).length ∧ padBad (joinL zs) = false ∧ textI zs = (strOfNums ((joinL zs).take (zeroAt (joinL zs))), ((zeroAt (joinL zs) / 4 : Nat) : Int) + 1, 0) := by
  unfold textI at h ⊢
  by_cases h1 : (joinL zs).length ≤ zeroAt (joinL zs)
  · rw [if_pos h1] at h; cases h
  · rw [if_neg h1] at h ⊢
    by_cases h2 : padBad (joinL zs) = true
    · rw [if_pos h2] at h; cases h
    · rw [if_neg h2]
      exact ⟨by omega, by simpa using h2, rfl⟩
theorem textI_range (zs : List Int) : 0 ≤ (textI zs).2.1 ∧ (textI zs).2.1 ≤ zs.length ∧ ((textI zs).2.2 = 0 → 1 ≤ (textI zs).2.1) ∧ ((textI zs).2.2 ≠ 0 → (textI zs).1 = ⟨#[]⟩ ∧ (textI zs).2.1 = 0) ∧ (textI zs).1.size ≤ 4 * zs.length := by
  have hl := joinL_len zs
  by_cases h : (textI zs).2.2 = 0
  · obtain ⟨h1, h2, h3⟩ := textI_some h
    rw [h3]
    refine ⟨by simp; omega, by simp; omega, fun _ => by simp; omega, fun h => absurd rfl h, ?_⟩
    simp only
    rw [strOfNums_size, List.length_take]; omega
  · have : textI zs = (⟨#[]⟩, 0, 11) ∨ textI zs = (⟨#[]⟩, 0, 12) := by
      unfold textI at h ⊢
      by_cases h1 : (joinL zs).length ≤ zeroAt (joinL zs)
      · rw [if_pos h1]; exact .inl rfl
      · rw [if_neg h1] at h ⊢
        by_cases h2 : padBad (joinL zs) = true
        · rw [if_pos h2]; exact .inr rfl
        · rw [if_neg h2] at h; exact absurd rfl h
    rcases this with e | e <;> (rw [e]; exact ⟨by simp, by simp, fun h => by simp at h, fun _ => ⟨rfl, rfl⟩, by simp [ByteArray.size]⟩)

end Go.Proofs.YteafjokpkljfcaaGreat

/-
  The instruction that words say, as a function of the words.
-/
namespace Go.Proofs.YteafjokpkljfcaaGreat
open Go.RowKit
set_option linter.unusedVariables false
set_option linter.unusedSimpArgs false

/-- The argument at the front of words, how many these are, and its error. -/
def argI (c : Int) (zs : List Int) (b : Int) : ArgT × Int × Int :=
  if c = 0 ∨ zs.length = 0 then (noArg, 0, 42)
  else if kindI c = 3 then ((3, 0, (textI zs).1), (textI zs).2.1, (textI zs).2.2)
  else if kindI c = 1 ∧ noneB (nth zs 0) b = true then (noArg, 0, 43)
  else if kindI c = 4 ∧ enumB c (nth zs 0) = false then (noArg, 0, 31)
  else ((kindI c, nth zs 0, ⟨#[]⟩), 1, 0)

/-- The arguments that words say, behind those that there are; the error. -/
def argsI (f : Frm) (b : Int) : Nat → List Int → List ArgT → List ArgT × Int
  | 0, _, _ => ([], 42)
  | k + 1, zs, acc =>
    if zs.length = 0 then (if wholeN f acc.length = true then (acc, 0) else ([], 42))
    else if (argI (letterI f acc.length) zs b).2.2 ≠ 0 then ([], (argI (letterI f acc.length) zs b).2.2)
    else argsI f b k (zs.drop (argI (letterI f acc.length) zs b).2.1.toNat) (acc ++ [(argI (letterI f acc.length) zs b).1])

/-- The result's id. -/
def headRes (re : Bool) (zs : List Int) (b : Int) (p : Nat) : Int × Int := if re then (if zs.length ≤ p then (0, 41) else (nth zs p, if noneB (nth zs p) b then 43 else 0)) else (0, 0)
/-- The type's id. -/
def headTy (ty : Bool) (zs : List Int) (b : Int) : Int × Int := if ty then (if zs.length ≤ 0 then (0, 40) else (nth zs 0, if noneB (nth zs 0) b then 43 else 0)) else (0, 0)

/-- The instruction that words say, its form being f; the error. -/
def instF (f : Frm) (op : Int) (zs : List Int) (b : Int) : InstT × Int :=
  if (headTy f.2.1 zs b).2 ≠ 0 then (noInst, (headTy f.2.1 zs b).2)
  else if (headRes f.2.2.1 zs b f.2.1.toNat).2 ≠ 0 then (noInst, (headRes f.2.2.1 zs b f.2.1.toNat).2)
  else if (argsI f b (zs.length + 1) (zs.drop (f.2.1.toNat + f.2.2.1.toNat)) []).2 ≠ 0 then (noInst, (argsI f b (zs.length + 1) (zs.drop (f.2.1.toNat + f.2.2.1.toNat)) []).2)
  else ((op, (headTy f.2.1 zs b).1, (headRes f.2.2.1 zs b f.2.1.toNat).1, (argsI f b (zs.length + 1) (zs.drop (f.2.1.toNat + f.2.2.1.toNat)) []).1), 0)
/-- What Inst answers. -/
def instI (op : Int) (zs : List Int) (b : Int) : InstT × Int :=
  if 65535 ≤ zs.length then (noInst, 25) else if (lookF refT op).2 = false then (noInst, 30) else instF (lookF refT op).1 op zs b

theorem kindI_range (c : Int) : kindI c = 0 ∨ kindI c = 1 ∨ kindI c = 2 ∨ kindI c = 3 ∨ kindI c = 4 := by
  unfold kindI
  split
  · exact .inr (.inl rfl)
  · split
    · exact .inr (.inr (.inl rfl))
    · split
      · exact .inr (.inr (.inr (.inl rfl)))
      · split
        · exact .inr (.inr (.inr (.inr rfl)))
        · exact .inl rfl

/-- Each letter of a form has a kind. -/
def goodL (s : ByteArray) : Bool := s.data.toList.all fun x => kindI (x.toNat : Int) != 0
theorem refT_goodL : refT.all (fun p => goodL p.2.2.2.2.1 && goodL p.2.2.2.2.2.1) = true := by decide +kernel
theorem sgn_good {s : ByteArray} (h : goodL s = true) {k : Nat} (hk : k < s.size) : kindI (sgn s k) ≠ 0 := by
  have hl : k < s.data.toList.length := by rw [size_list]; exact hk
  have h1 := (List.all_eq_true.1 h) (s.data.toList[k]) (List.getElem_mem hl)
  unfold sgn
  rw [List.getD, List.getElem?_eq_getElem hl]
  simpa using h1
theorem letter_kind (n : Int) (k : Nat) (h : letterI (lookF refT n).1 (k : Int) ≠ 0) : kindI (letterI (lookF refT n).1 (k : Int)) ≠ 0 := by
  have hg : goodL (lookF refT n).1.2.2.2.1 = true ∧ goodL (lookF refT n).1.2.2.2.2.1 = true := by
    by_cases h : (lookF refT n).2 = true
    · have := (List.all_eq_true.1 refT_goodL) _ (lookF_true h)
      simpa using this
    · rw [(lookF_false (by simpa using h)).1]; exact ⟨rfl, rfl⟩
  generalize (lookF refT n).1 = f at *
  unfold letterI at h ⊢
  rw [if_neg (by omega)] at h ⊢
  by_cases h1 : (k : Int) < f.2.2.2.1.size
  · rw [if_pos h1] at h ⊢
    exact sgn_good hg.1 (by omega)
  · rw [if_neg h1] at h ⊢
    split at h
    · rename_i hm
      rw [if_pos hm]
      refine sgn_good hg.2 ?_
      unfold mayB at hm
      by_cases h0 : f.2.2.2.2.1.size = 0
      · rw [if_pos h0] at hm; cases hm
      · have := Int.emod_lt_of_pos ((k : Int) - f.2.2.2.1.size) (show (0 : Int) < f.2.2.2.2.1.size by omega)
        have := Int.emod_nonneg ((k : Int) - f.2.2.2.1.size) (show (f.2.2.2.2.1.size : Int) ≠ 0 by omega)
        omega
    · exact absurd rfl h

end Go.Proofs.YteafjokpkljfcaaGreat

/-
  What byteAt of the words package returns, for every word and every place from 0 to 3.
-/
namespace Go.Proofs.YteafjokpkljfcaaGreat
open Go.RowKit
set_option maxRecDepth 10000

theorem byteAt_any (x p : Int) (w : World) (hx : 0 ≤ x) (hx2 : x < 4294967296) (h0 : 0 ≤ p) (h3 : p < 4) :
    Calls Tryz.prog 62 #[.int .u32 x, .int .i64 p] w fun e w' => e = .returned (.int .u8 (byt x p.toNat)) ∧ w = w' := by
  rcases (show p = 0 ∨ p = 1 ∨ p = 2 ∨ p = 3 by omega) with rfl | rfl | rfl | rfl
  · go_enter Tryz.func62, Tryz.ntmps62
    go_wp2
    go_ret
    exact ⟨ret_int (by simp [byt]), rfl⟩
  · go_enter Tryz.func62, Tryz.ntmps62
    go_wp2
    go_ret
    exact ⟨ret_int (by simp [byt]), rfl⟩
  · go_enter Tryz.func62, Tryz.ntmps62
    go_wp2
    go_ret
    exact ⟨ret_int (by simp [byt]), rfl⟩
  · go_enter Tryz.func62, Tryz.ntmps62
    go_wp2
    go_ret
    exact ⟨ret_int (by simp [byt]; omega), rfl⟩

end Go.Proofs.YteafjokpkljfcaaGreat

/-
  What textEnd of the words package returns: where the first byte 0 lies, or that there is none.
-/
namespace Go.Proofs.YteafjokpkljfcaaGreat
open Go.RowKit
set_option maxRecDepth 10000

set_option maxHeartbeats 1000000 in
theorem textEnd_none (a : Option Addr) (n cap : Nat) (zs : List Int) (w : World) (ha : View .u32 w a zs) (hl : zs.length = n) (hw : Within 4294967296 zs) (hn : 4 * n ≤ 281474976710656) (h : ∀ i, i < 4 * n → nth (joinL zs) i ≠ 0) :
    Calls Tryz.prog 95 #[.slice a n cap] w fun e w' => e = .returned (.tuple #[.int .i64 0, .int .i64 0, .bool false]) ∧ w = w' := by
  have HL : Hid (zs.length = n) := hl
  clear hl
  have HB : Hid (∀ k p : Nat, k < n → p < 4 → byt (nth zs k) p ≠ 0) := fun k p hk hp => by
    have := h (4 * k + p) (by omega)
    rw [joinL_getD _ _ (by rw [HL.out]; omega), show (4 * k + p) / 4 = k by omega, show (4 * k + p) % 4 = p by omega] at this
    exact this
  clear h
  go_enter Tryz.func95, Tryz.ntmps95
  go_wp2
  go_step3
  go_wp2
  go_step3
  go_wp2
  go_loop [2, 3, 4, 10] (fun r s f i => ∃ k : Nat, k ≤ n ∧ i = .int .i64 k ∧ r = .int .i64 0 ∧ s = .int .i64 0 ∧ f = .bool false) (fun _ _ _ i => n - (intOf i).toNat)
  case atStart => exact ⟨0, Nat.zero_le _, rfl, rfl, rfl, rfl⟩
  case round =>
    obtain ⟨k, hk, rfl, rfl, rfl, rfl⟩ := hrel
    by_cases hlt : k < n
    · obtain ⟨b, off, rfl, _, hc⟩ := ha k (by rw [HL.out]; exact hlt)
      have hx := hw.at (k := k) (by rw [HL.out]; exact hlt)
      have HX : Hid (∀ p : Nat, p < 4 → byt (nth zs k) p ≠ 0) := fun p hp => HB.out k p hlt hp
      generalize nth zs k = x at hc hx HX
      have hx0 := hx.1
      have hx1 := hx.2
      clear hx ha
      go_wp2
      go_loop [2, 3, 4, 15] (fun r s f i => ∃ p : Nat, p ≤ 4 ∧ i = .int .i64 p ∧ r = .int .i64 0 ∧ s = .int .i64 0 ∧ f = .bool false) (fun _ _ _ i => 4 - (intOf i).toNat)
      case atStart => exact ⟨0, Nat.zero_le _, rfl, rfl, rfl, rfl⟩
      case round =>
        obtain ⟨p, hp, rfl, rfl, rfl, rfl⟩ := hrel
        by_cases hplt : p < 4
        · have hne : (byt x p == 0) = false := by simp; exact HX.out p hplt
          have hA := fun wx => byteAt_any x (p : Int) wx hx0 hx1 (by omega) (by omega)
          rw [Int.toNat_natCast] at hA
          generalize byt x p = y at hne hA
          go_wp2_with (go_at_call 62; refine (hA _).mono ?_; rintro e w' ⟨rfl, rfl⟩)
          go_round
          case rel => exact ⟨p + 1, by omega, by go_num, rfl, rfl, rfl⟩
          case measure => simp [intOf]; omega
        · go_wp2
          go_round
          case rel => exact ⟨k + 1, by omega, by go_num, rfl, rfl, rfl⟩
          case measure => simp [intOf]; omega
    · go_wp2
      try rw [Exit.noGoto_ret]
      go_ret3
      exact ⟨rfl, rfl⟩

set_option maxHeartbeats 1000000 in
theorem textEnd_at (a : Option Addr) (n cap : Nat) (zs : List Int) (w : World) (L P : Nat) (ha : View .u32 w a zs) (hl : zs.length = n) (hw : Within 4294967296 zs) (hn : 4 * n ≤ 281474976710656)
    (hL : L < n) (hP : P < 4) (h : ∀ i, i < 4 * L + P → nth (joinL zs) i ≠ 0) (h0 : nth (joinL zs) (4 * L + P) = 0) :
    Calls Tryz.prog 95 #[.slice a n cap] w fun e w' => e = .returned (.tuple #[.int .i64 L, .int .i64 P, .bool true]) ∧ w = w' := by
  have HL : Hid (zs.length = n) := hl
  clear hl
  have HB : Hid (∀ k p : Nat, 4 * k + p < 4 * L + P → p < 4 → byt (nth zs k) p ≠ 0) := fun k p hk hp => by
    have := h (4 * k + p) hk
    rw [joinL_getD _ _ (by rw [HL.out]; omega), show (4 * k + p) / 4 = k by omega, show (4 * k + p) % 4 = p by omega] at this
    exact this
  have H0 : Hid (byt (nth zs L) P = 0) := by
    rw [joinL_getD _ _ (by rw [HL.out]; omega), show (4 * L + P) / 4 = L by omega, show (4 * L + P) % 4 = P by omega] at h0
    exact h0
  clear h h0
  go_enter Tryz.func95, Tryz.ntmps95
  go_wp2
  go_step3
  go_wp2
  go_step3
  go_wp2
  go_loop [2, 3, 4, 10] (fun r s f i => ∃ k : Nat, k ≤ L ∧ i = .int .i64 k ∧ r = .int .i64 0 ∧ s = .int .i64 0 ∧ f = .bool false) (fun _ _ _ i => n - (intOf i).toNat)
  case atStart => exact ⟨0, Nat.zero_le _, rfl, rfl, rfl, rfl⟩
  case round =>
    obtain ⟨k, hk, rfl, rfl, rfl, rfl⟩ := hrel
    have hlt : k < n := by omega
    obtain ⟨b, off, rfl, _, hc⟩ := ha k (by rw [HL.out]; exact hlt)
    have hx := hw.at (k := k) (by rw [HL.out]; exact hlt)
    have HX : Hid (∀ p : Nat, 4 * k + p < 4 * L + P → p < 4 → byt (nth zs k) p ≠ 0) := fun p hp h4 => HB.out k p hp h4
    have HX0 : Hid (k = L → byt (nth zs k) P = 0) := fun e => by rw [e]; exact H0.out
    generalize nth zs k = x at hc hx HX HX0
    have hx0 := hx.1
    have hx1 := hx.2
    clear hx ha
    go_wp2
    go_loop [2, 3, 4, 15] (fun r s f i => ∃ p : Nat, p ≤ 4 ∧ 4 * k + p ≤ 4 * L + P ∧ i = .int .i64 p ∧ r = .int .i64 0 ∧ s = .int .i64 0 ∧ f = .bool false) (fun _ _ _ i => 4 - (intOf i).toNat)
    case atStart => exact ⟨0, Nat.zero_le _, by omega, rfl, rfl, rfl, rfl⟩
    case round =>
      obtain ⟨p, hp, hpN, rfl, rfl, rfl, rfl⟩ := hrel
      by_cases hplt : p < 4
      · by_cases hlast : 4 * k + p < 4 * L + P
        · have hne : (byt x p == 0) = false := by simp; exact HX.out p hlast hplt
          have hA := fun wx => byteAt_any x (p : Int) wx hx0 hx1 (by omega) (by omega)
          rw [Int.toNat_natCast] at hA
          generalize byt x p = y at hne hA
          go_wp2_with (go_at_call 62; refine (hA _).mono ?_; rintro e w' ⟨rfl, rfl⟩)
          go_round
          case rel => exact ⟨p + 1, by omega, by omega, by go_num, rfl, rfl, rfl⟩
          case measure => simp [intOf]; omega
        · obtain rfl : k = L := by omega
          obtain rfl : p = P := by omega
          have hA := fun wx => byteAt_any x (p : Int) wx hx0 hx1 (by omega) (by omega)
          rw [Int.toNat_natCast, HX0.out rfl] at hA
          go_wp2_with (go_at_call 62; refine (hA _).mono ?_; rintro e w' ⟨rfl, rfl⟩)
          try rw [Exit.noGoto_ret]
          go_ret3
          exact ⟨rfl, rfl⟩
      · go_wp2
        go_round
        case rel => exact ⟨k + 1, by omega, by go_num, rfl, rfl, rfl⟩
        case measure => simp [intOf]; omega

end Go.Proofs.YteafjokpkljfcaaGreat

/-
  What Join of the words package returns, for every list of words whose bytes take at most 2^47 - 4096: their bytes, in new memory.
-/
namespace Go.Proofs.YteafjokpkljfcaaGreat
open Go.RowKit
set_option maxRecDepth 10000

theorem Join.info_u8 : (Tryz.prog.info? 5).map (fun i => (i.zero, i.size, i.bytes)) = some (some (.int .u8 0), 1, 1) := by kernel_rfl

set_option maxHeartbeats 400000 in
theorem join_any (a : Option Addr) (n cap : Nat) (zs : List Int) (w : World) (hv : View .u32 w a zs) (hl : zs.length = n) (hn : 4 * n ≤ 140737488351232) (hw : Within 4294967296 zs) :
    Calls Tryz.prog 43 #[.slice a n cap] w fun e w' => e = .returned (.slice (some ⟨w.heap.size, 0, none⟩) (4 * n) (4 * n)) ∧
      w'.ownsRow w.heap.size 5 1 (.slice (some ⟨w.heap.size, 0, none⟩) (4 * n) (4 * n)) (4 * n) ((joinL zs).map (Value.int .u8)) ∧ Below w.heap.size w w' := by
  obtain ⟨i0, hi, hz0, hz1, hz2⟩ := info_parts Join.info_u8
  have HL : Hid (zs.length = n) := hl
  clear hl
  go_enter Tryz.func43, Tryz.ntmps43
  go_wp2_with (at_make; refine wpList_make_own _ rfl _ _ 22 rfl w.heap.size 5 i0 (.int .u8 0) 1 Tryz.underlying22 hi hz0 hz1 _ _ _ (4 * n) rfl rfl (by omega) (by rw [hz2]; omega) (by unfold maxLen; omega) (Nat.le_refl _) ?_)
  intro w1 hown1 hgrow1
  have hb1 : Below w.heap.size w w1 := (Below.refl _ w).grown hgrow1 (Nat.le_refl _) (by simp)
  go_wp2
  go_loopw [3, 13] (fun v i wr => ∃ k : Nat, k ≤ n ∧ i = .int .i64 k ∧ v = .slice (some ⟨w.heap.size, 0, none⟩) (4 * k) (4 * n) ∧
      wr.ownsRow w.heap.size 5 1 (.slice (some ⟨w.heap.size, 0, none⟩) (4 * k) (4 * n)) (4 * k) ((joinL (zs.take k)).map (Value.int .u8)) ∧ Below w.heap.size w wr)
    (fun _ i _ => n - (intOf i).toNat)
  case atStart => exact ⟨0, Nat.zero_le _, rfl, rfl, hown1, hb1⟩
  case round =>
    obtain ⟨k, hk, rfl, rfl, hown, hnx⟩ := hrel
    by_cases hlt : k < n
    · obtain ⟨b, off, rfl, hbs, hc⟩ := hv k (by rw [HL.out]; exact hlt)
      have hx := hw.at (k := k) (by rw [HL.out]; exact hlt)
      have hJ := joinL_snoc zs k (by rw [HL.out]; exact hlt)
      obtain ⟨x, hxe⟩ : ∃ x, x = nth zs k := ⟨_, rfl⟩
      rw [← hxe] at hc hx hJ
      have HJ : Hid (joinL (zs.take (k + 1)) = joinL (zs.take k) ++ four x) := hJ
      have hcr : wr.cell? ⟨b, off + k, none⟩ = some (.int .u32 x) := (hnx.cell (p := ⟨b, off + k, none⟩) hbs).trans hc
      have hx0 := hx.1
      have hx1 := hx.2
      clear hx hxe hJ hc hw hv hown1 hgrow1 hb1
      go_wp2
      go_loopw [3, 17] (fun v i wq => ∃ p : Nat, p ≤ 4 ∧ i = .int .i64 p ∧ v = .slice (some ⟨w.heap.size, 0, none⟩) (4 * k + p) (4 * n) ∧
          wq.ownsRow w.heap.size 5 1 (.slice (some ⟨w.heap.size, 0, none⟩) (4 * k + p) (4 * n)) (4 * k + p) ((joinL (zs.take k) ++ (four x).take p).map (Value.int .u8)) ∧ Below w.heap.size w wq)
        (fun _ i _ => 4 - (intOf i).toNat)
      case atStart => exact ⟨0, by omega, rfl, rfl, by simpa using hown, hnx⟩
      case round =>
        obtain ⟨p, hp, rfl, rfl, hownp, hnp⟩ := hrel
        clear hcr hown hnx
        by_cases hplt : p < 4
        · go_wp2_with (first | (go_at_call 62; refine (byteAt_any _ _ _ hx0 hx1 (by omega) (by omega)).mono ?_; rintro e w' ⟨rfl, rfl⟩) | (at_builtin; refine wpList_append_fits _ rfl (.tmp 20) (.tmp 24) 22 rfl w.heap.size 5 i0 1 Tryz.underlying22 hi hz1 w.heap.size (4 * k + p) (4 * n) _ rfl (hownp.alloc _) ⟨wr.heap.size, 0, none⟩ 1 1 [.int .u8 (byt x p)] rfl rfl (cell_one_new _ _ _) (ints_oneCell .u8 [byt x p]) (by omega) ?_; intro w4 hown4 hgrow4))
          go_roundw
          case rel =>
            refine ⟨p + 1, by omega, by go_num, rfl, ?_, ?_⟩
            · rw [four_snoc x p hplt, ← List.append_assoc, List.map_append]; exact hown4
            · exact (hnp.alloc hnp.size _).grown hgrow4 (by have := hnp.size; simp; omega) (fun j hj => by cases hj; exact Nat.le_refl _)
          case measure => simp [intOf]; omega
        · go_wp2
          go_roundw
          case rel =>
            obtain rfl : p = 4 := by omega
            refine ⟨k + 1, by omega, by go_num, rfl, ?_, hnp⟩
            rw [HJ.out]; exact hownp
          case measure => simp [intOf]; omega
    · go_wp2
      go_ret
      obtain rfl : k = n := by omega
      rw [List.take_of_length_le (by rw [HL.out]; exact Nat.le_refl _)] at hown
      exact ⟨rfl, hown, hnx⟩

end Go.Proofs.YteafjokpkljfcaaGreat

/-
  What Text of the words package returns, for every list of words: its error, or the text at their front and how many words it takes.
-/
namespace Go.Proofs.YteafjokpkljfcaaGreat
open Go.RowKit
set_option maxRecDepth 10000

theorem text_none (a : Option Addr) (n cap : Nat) (zs : List Int) (w : World) (ha : View .u32 w a zs) (hl : zs.length = n) (hw : Within 4294967296 zs) (hn : 4 * n ≤ 281474976710656) (h : ∀ i, i < 4 * n → nth (joinL zs) i ≠ 0) :
    Calls Tryz.prog 88 #[.slice a n cap] w fun e w' => e = .returned (.tuple #[.string ⟨#[]⟩, .int .i64 0, .int .i64 11]) ∧ w = w' := by
  have hT := textEnd_none a n cap zs w ha hl hw hn h
  clear ha hl hw h
  go_enter Tryz.func88, Tryz.ntmps88
  go_wp2_with fail
  refine hT.mono ?_
  rintro e w' ⟨rfl, rfl⟩
  go_wp2
  go_ret3
  exact ⟨rfl, rfl⟩

set_option maxHeartbeats 1000000 in
theorem text_pad (a : Option Addr) (n cap : Nat) (zs : List Int) (w : World) (L P : Nat) (ha : View .u32 w a zs) (hl : zs.length = n) (hw : Within 4294967296 zs) (hn : 4 * n ≤ 281474976710656)
    (hL : L < n) (hP : P < 4) (h : ∀ i, i < 4 * L + P → nth (joinL zs) i ≠ 0) (h0 : nth (joinL zs) (4 * L + P) = 0) (hpad : nth zs L / 256 ^ P ≠ 0) :
    Calls Tryz.prog 88 #[.slice a n cap] w fun e w' => e = .returned (.tuple #[.string ⟨#[]⟩, .int .i64 0, .int .i64 12]) ∧ w = w' := by
  have hT := textEnd_at a n cap zs w L P ha hl hw hn hL hP h h0
  obtain ⟨b, off, rfl, _, hc⟩ := ha L (by omega)
  have hx := hw.at (k := L) (by omega)
  clear ha hl hw h h0
  generalize nth zs L = x at hc hx hpad
  have hx0 := hx.1
  have hx1 := hx.2
  have hLi : (L : Int) < (n : Int) := by omega
  rcases (show P = 0 ∨ P = 1 ∨ P = 2 ∨ P = 3 by omega) with rfl | rfl | rfl | rfl
  · have hne : (x == 0) = false := by simpa using hpad
    clear hx hpad
    go_enter Tryz.func88, Tryz.ntmps88
    go_wp2_with fail
    refine hT.mono ?_
    rintro e w' ⟨rfl, rfl⟩
    go_wp2
    go_ret3
    exact ⟨rfl, rfl⟩
  · have hne : (x / 256 == 0) = false := by simpa using hpad
    clear hx hpad
    go_enter Tryz.func88, Tryz.ntmps88
    go_wp2_with fail
    refine hT.mono ?_
    rintro e w' ⟨rfl, rfl⟩
    go_wp2
    go_ret3
    exact ⟨rfl, rfl⟩
  · have hne : (x / 65536 == 0) = false := by simpa using hpad
    clear hx hpad
    go_enter Tryz.func88, Tryz.ntmps88
    go_wp2_with fail
    refine hT.mono ?_
    rintro e w' ⟨rfl, rfl⟩
    go_wp2
    go_ret3
    exact ⟨rfl, rfl⟩
  · have hne : (x / 16777216 == 0) = false := by simpa using hpad
    clear hx hpad
    go_enter Tryz.func88, Tryz.ntmps88
    go_wp2_with fail
    refine hT.mono ?_
    rintro e w' ⟨rfl, rfl⟩
    go_wp2
    go_ret3
    exact ⟨rfl, rfl⟩

set_option maxHeartbeats 1000000 in
theorem text_ok (a : Option Addr) (n cap : Nat) (zs : List Int) (w : World) (L P : Nat) (ha : View .u32 w a zs) (hl : zs.length = n) (hw : Within 4294967296 zs) (hn : 4 * n ≤ 281474976710656) (hLb : 4 * (L + 1) ≤ 140737488351232) (hcap : n ≤ cap)
    (hL : L < n) (hP : P < 4) (h : ∀ i, i < 4 * L + P → nth (joinL zs) i ≠ 0) (h0 : nth (joinL zs) (4 * L + P) = 0) (hpad : nth zs L / 256 ^ P = 0) :
    Calls Tryz.prog 88 #[.slice a n cap] w fun e w' => e = .returned (.tuple #[.string (strOfNums ((joinL zs).take (4 * L + P))), .int .i64 ((L : Int) + 1), .int .i64 0]) ∧ Below w.heap.size w w' := by
  have hT := textEnd_at a n cap zs w L P ha hl hw hn hL hP h h0
  have hJ := join_any a (L + 1) cap (zs.take (L + 1)) w (ha.take _) (by rw [List.length_take]; omega) hLb (within_of_take hw)
  obtain ⟨b, off, rfl, _, hc⟩ := ha L (by omega)
  have hx := hw.at (k := L) (by omega)
  have e1 : joinL (zs.take (L + 1)) = (joinL zs).take (4 * (L + 1)) := joinL_take zs (L + 1)
  have hlen : (joinL zs).length = 4 * n := by rw [joinL_len, hl]
  rw [e1] at hJ
  clear ha hl hw h h0 e1
  generalize nth zs L = x at hc hx hpad
  generalize joinL zs = js at *
  have hx0 := hx.1
  have hx1 := hx.2
  have hLi : (L : Int) < (n : Int) := by omega
  have HJL : Hid (js.length = 4 * n) := hlen
  have HC : Hid (∀ (w' : World), w'.ownsRow w.heap.size 5 1 (.slice (some ⟨w.heap.size, 0, none⟩) (4 * (L + 1)) (4 * (L + 1))) (4 * (L + 1)) ((js.take (4 * (L + 1))).map (Value.int .u8)) →
      (convert 22 9 (.slice (some ⟨w.heap.size, 0, none⟩) (4 * L + P) (4 * (L + 1)))).run Tryz.prog w' = .ok (.string (strOfNums (js.take (4 * L + P)))) w') := fun w' hown => by
    refine run_convert_bytes_arg w' _ _ Tryz.underlying22 Tryz.underlying5 w.heap.size 0 (4 * L + P) (4 * (L + 1)) (js.take (4 * L + P)) (by rw [List.length_take, HJL.out]; omega) (fun i hi => ?_) _ Tryz.underlying9
    obtain ⟨b', off', e, _, hcell⟩ := View.ofRow hown (by rw [List.length_take, HJL.out]; omega) i (by rw [List.length_take, HJL.out]; omega)
    simp at e
    obtain ⟨rfl, rfl⟩ := e
    rw [hcell, nth_take _ _ _ (by omega)]
    have := nth_take js i (4 * L + P) hi
    rw [← this]; rfl
  clear hlen
  rcases (show P = 0 ∨ P = 1 ∨ P = 2 ∨ P = 3 by omega) with rfl | rfl | rfl | rfl
  · have hne : x = 0 := by simpa using hpad
    have hne' : (x == 0) = true := by simpa using hne
    clear hx hpad hne
    go_enter Tryz.func88, Tryz.ntmps88
    go_wp2_with fail
    refine hT.mono ?_
    rintro e w' ⟨rfl, rfl⟩
    go_wp2_with fail
    refine hJ.mono ?_
    rintro e w1 ⟨rfl, hown, hb⟩
    have hcv := HC.out w1 hown
    rw [Nat.add_zero] at hcv
    rw [Nat.add_zero]
    clear hown HC hT hJ
    go_wp2
    go_ret3
    exact ⟨rfl, hb⟩
  · have hne : x / 256 = 0 := by simpa using hpad
    have hne' : (x / 256 == 0) = true := by simpa using hne
    clear hx hpad hne
    go_enter Tryz.func88, Tryz.ntmps88
    go_wp2_with fail
    refine hT.mono ?_
    rintro e w' ⟨rfl, rfl⟩
    go_wp2_with fail
    refine hJ.mono ?_
    rintro e w1 ⟨rfl, hown, hb⟩
    have hcv := HC.out w1 hown
    clear hown HC hT hJ
    go_wp2
    go_ret3
    exact ⟨rfl, hb⟩
  · have hne : x / 65536 = 0 := by simpa using hpad
    have hne' : (x / 65536 == 0) = true := by simpa using hne
    clear hx hpad hne
    go_enter Tryz.func88, Tryz.ntmps88
    go_wp2_with fail
    refine hT.mono ?_
    rintro e w' ⟨rfl, rfl⟩
    go_wp2_with fail
    refine hJ.mono ?_
    rintro e w1 ⟨rfl, hown, hb⟩
    have hcv := HC.out w1 hown
    clear hown HC hT hJ
    go_wp2
    go_ret3
    exact ⟨rfl, hb⟩
  · have hne : x / 16777216 = 0 := by simpa using hpad
    have hne' : (x / 16777216 == 0) = true := by simpa using hne
    clear hx hpad hne
    go_enter Tryz.func88, Tryz.ntmps88
    go_wp2_with fail
    refine hT.mono ?_
    rintro e w' ⟨rfl, rfl⟩
    go_wp2_with fail
    refine hJ.mono ?_
    rintro e w1 ⟨rfl, hown, hb⟩
    have hcv := HC.out w1 hown
    clear hown HC hT hJ
    go_wp2
    go_ret3
    exact ⟨rfl, hb⟩

end Go.Proofs.YteafjokpkljfcaaGreat

/-
  What Text of the words package returns, as one function of the words.
-/
namespace Go.Proofs.YteafjokpkljfcaaGreat
open Go.RowKit

theorem text_any (a : Option Addr) (n cap : Nat) (zs : List Int) (w : World) (ha : View .u32 w a zs) (hl : zs.length = n) (hw : Within 4294967296 zs) (hn : 4 * n ≤ 140737488351232) (hcap : n ≤ cap) :
    Calls Tryz.prog 88 #[.slice a n cap] w fun e w' => e = .returned (.tuple #[.string (textI zs).1, .int .i64 (textI zs).2.1, .int .i64 (textI zs).2.2]) ∧ Below w.heap.size w w' := by
  have hj : (joinL zs).length = 4 * n := by rw [joinL_len, hl]
  by_cases h : (joinL zs).length ≤ zeroAt (joinL zs)
  · refine (text_none a n cap zs w ha hl hw (by omega) fun i hi => zeroAt_before _ _ (by omega) (by omega)).mono ?_
    rintro e w' ⟨rfl, rfl⟩
    refine ⟨?_, Below.refl _ _⟩
    rw [textI, if_pos h]
  · have hz : zeroAt (joinL zs) < (joinL zs).length := by omega
    obtain ⟨L, P, hP, hN⟩ : ∃ L P, P < 4 ∧ zeroAt (joinL zs) = 4 * L + P := ⟨zeroAt (joinL zs) / 4, zeroAt (joinL zs) % 4, by omega, by omega⟩
    have hL : L < n := by omega
    have hx := hw.at (k := L) (by omega)
    have hrest := rest_zero (nth zs L) P hP hx.1 hx.2
    have h0 : nth (joinL zs) (4 * L + P) = 0 := by rw [← hN]; exact zeroAt_at _ hz
    have hbyte : ∀ q, q < 4 → nth (joinL zs) (4 * L + q) = byt (nth zs L) q := fun q hq => by
      rw [joinL_getD _ _ (by rw [hl]; omega), show (4 * L + q) / 4 = L by omega, show (4 * L + q) % 4 = q by omega]
    have hbef : ∀ i, i < 4 * L + P → nth (joinL zs) i ≠ 0 := fun i hi => zeroAt_before _ _ (by omega) (by omega)
    have hpi := padBad_iff hN hP (by omega)
    by_cases hpad : nth zs L / 256 ^ P = 0
    · have hp : ¬ padBad (joinL zs) = true := fun h => by
        obtain ⟨q, h1, h2, h3⟩ := hpi.1 h
        rw [hbyte q h2] at h3
        exact h3 (hrest.1 hpad q (by omega) (by omega))
      refine (text_ok a n cap zs w L P ha hl hw (by omega) (by omega) hcap hL hP hbef h0 hpad).mono ?_
      rintro e w' ⟨rfl, hb⟩
      refine ⟨?_, hb⟩
      rw [textI, if_neg h, if_neg hp, hN, show (4 * L + P) / 4 = L by omega]
    · have hp : padBad (joinL zs) = true := by
        apply Classical.byContradiction
        intro hno
        apply hpad
        apply hrest.2
        intro q hq1 hq2
        by_cases e : q = P
        · subst e; rw [← hbyte q hq2]; exact h0
        · apply Classical.byContradiction
          intro hne
          exact hno (hpi.2 ⟨q, by omega, hq2, by rw [hbyte q hq2]; exact hne⟩)
      refine (text_pad a n cap zs w L P ha hl hw (by omega) hL hP hbef h0 hpad).mono ?_
      rintro e w' ⟨rfl, rfl⟩
      refine ⟨?_, Below.refl _ _⟩
      rw [textI, if_neg h, if_pos hp]

end Go.Proofs.YteafjokpkljfcaaGreat

/-
  What slices.Clone of words returns: the words in new memory; nothing that was there has turned.
-/
namespace Go.Proofs.YteafjokpkljfcaaGreat
open Go.RowKit
set_option maxRecDepth 10000

theorem Clone.info : (Tryz.prog.info? 23).map (fun i => (i.zero, i.size, i.bytes)) = some (some (.int .u32 0), 1, 4) := by kernel_rfl

set_option maxHeartbeats 400000 in
theorem clone_some (x : Addr) (n cap : Nat) (zs : List Int) (w : World) (hv : View .u32 w (some x) zs) (hl : zs.length = n) (hn : 4 * n ≤ 140737488351232) :
    Calls Tryz.prog 35 #[.slice (some x) n cap] w fun e w' => ∃ g cx, e = .returned (.slice (some ⟨g, 0, none⟩) n cx) ∧
      w'.ownsRow w.heap.size 23 1 (.slice (some ⟨g, 0, none⟩) n cx) n (zs.map (Value.int .u32)) ∧ Below w.heap.size w w' := by
  obtain ⟨i0, hi, hz0, hz1, hz2⟩ := info_parts Clone.info
  have hnn := fun w => Lib.run_eql_slice_nil (P := Tryz.prog) w 37 23 (some x) n cap 0 0 Tryz.underlying37
  simp only [Option.isNone_some] at hnn
  have hbs : ∀ w, (Instr.buildSlice 37 0 #[]).run Tryz.prog w = .ok (.slice (some ⟨w.heap.size, 0, none⟩) 0 0) (w.alloc (.cells #[] 23)) := fun w => by kernel_rfl
  have hown0 : (w.alloc (.cells #[] 23)).ownsRow w.heap.size 23 1 (.slice (some ⟨w.heap.size, 0, none⟩) 0 0) 0 [] := World.ownsRow_lit w #[] 0 (Nat.le_refl _) (by unfold maxLen; omega) rfl
  have hnews : ∀ j u, (zs.map (Value.int .u32))[j]? = some u → (w.alloc (.cells #[] 23)).cell? (x.add j) = some u := by
    intro j u hj
    rw [List.getElem?_map] at hj
    have hjl : j < zs.length := by
      rcases Nat.lt_or_ge j zs.length with h | h
      · exact h
      · rw [List.getElem?_eq_none h] at hj; simp at hj
    obtain ⟨b, off, e, hb, hc⟩ := hv j hjl
    simp at e
    subst e
    rw [Addr.add_lit, World.cell?_alloc_past _ _ _ hb, hc, ← hj, List.getElem?_eq_getElem hjl]
    simp [nth, List.getD, hjl]
  have HL : Hid (zs.length = n) := hl
  clear hl hv
  go_enter Tryz.func35, Tryz.ntmps35
  go_wp2_with (at_builtin; refine wpList_append_own _ rfl (.tmp 5) (.tmp 6) 37 rfl w.heap.size 23 i0 (.int .u32 0) 1 4 Tryz.underlying37 hi hz0 hz1 hz2 rfl (by decide) _ _ _ rfl hown0 x n cap (zs.map (Value.int .u32)) rfl (by rw [List.length_map, HL.out]; omega) hnews (ints_oneCell .u32 zs) (by unfold maxLen; omega) (by omega) (by simp) ?_)
  intro v' w1 hown1 hgrow1 hnil1
  have hb1 : Below w.heap.size w w1 := ((Below.refl _ w).alloc (Nat.le_refl _) _).grown hgrow1 (by simp) (fun k hk => by simp [Value.ownBlock] at hk; omega)
  have hex : ∃ g cx, v' = .slice (some ⟨g, 0, none⟩) n cx := by
    rcases hown1.2 with ⟨h1, _⟩ | ⟨g, cx, cur, h1, _⟩
    · exact absurd h1 hnil1
    · exact ⟨g, cx, h1⟩
  obtain ⟨g, cx, hv'⟩ := hex
  rw [hv'] at hown1 ⊢
  clear hnil1 hgrow1 hnews hown0
  go_wp2
  go_ret
  exact ⟨g, cx, rfl, hown1, hb1⟩

end Go.Proofs.YteafjokpkljfcaaGreat

/-
  What Byte of the document's answer returns: the k-th byte of words, for every k of theirs.
-/
namespace Go.Proofs.YteafjokpkljfcaaGreat
open Go.RowKit
set_option maxRecDepth 10000

set_option maxHeartbeats 400000 in
theorem refByte_nat (a : Option Addr) (n cap : Nat) (zs : List Int) (w : World) (k : Nat) (ha : View .u32 w a zs) (hl : zs.length = n) (hw : Within 4294967296 zs) (hn : 4 * n ≤ 140737488351232) (hk : k < 4 * n) :
    Calls Tryz.prog 64 #[.slice a n cap, .int .i64 k] w fun e w' => e = .returned (.int .u8 (nth (joinL zs) k)) ∧ w = w' := by
  have HJ : Hid (nth (joinL zs) k = byt (nth zs (k / 4)) (k % 4)) := joinL_getD zs k (by omega)
  obtain ⟨b, off, rfl, _, c⟩ := ha (k / 4) (by omega)
  have hx := hw.at (k := k / 4) (by omega)
  obtain ⟨X, hX⟩ : ∃ X, X = nth zs (k / 4) := ⟨_, rfl⟩
  rw [← hX] at c hx
  have HX : Hid (X = nth zs (k / 4)) := hX
  have hx0 := hx.1
  have hx1 := hx.2
  clear ha hw hX hx hl
  have i0 : (0 : Int) ≤ (k : Int) / 4 := by omega
  have i1 : (k : Int) / 4 < (n : Int) := by omega
  have ei : ((k : Int) / 4).toNat = k / 4 := by omega
  go_enter Tryz.func64, Tryz.ntmps64
  go_wp2
  go_loop [5, 6] (fun x i => ∃ j : Nat, j ≤ k % 4 ∧ i = .int .i64 j ∧ x = .int .u32 (X / 256 ^ j)) (fun _ i => 4 - (intOf i).toNat)
  case atStart => exact ⟨0, Nat.zero_le _, rfl, by simp⟩
  case round =>
    obtain ⟨j, hj, rfl, rfl⟩ := hrel
    have y0 := div_pow_lo X j hx0
    have y1 := div_pow_hi X j _ hx0 hx1
    have HS : Hid (X / 256 ^ j / 256 = X / 256 ^ (j + 1)) := div_pow_succ X j
    have HB : Hid (byt X j = X / 256 ^ j % 256) := rfl
    generalize X / 256 ^ j = y at y0 y1 HS HB
    by_cases hlt : j < k % 4
    · have hlt' : (j : Int) < (k : Int) % 4 := by omega
      go_wp2
      go_round
      case rel => exact ⟨j + 1, by omega, by go_num, by rw [HS.out]⟩
      case measure => simp [intOf]; omega
    · have hlt' : (k : Int) % 4 ≤ (j : Int) := by omega
      go_wp2
      go_ret
      obtain rfl : j = k % 4 := by omega
      exact ⟨ret_int (by rw [HJ.out, ← HX.out, HB.out]), rfl⟩

end Go.Proofs.YteafjokpkljfcaaGreat

/-
  What Text of the document's answer returns, for every list of words: its error, or the text at their front and how many words it takes.
-/
namespace Go.Proofs.YteafjokpkljfcaaGreat
open Go.RowKit

theorem RefText.info : (Tryz.prog.info? 5).map (fun i => (i.zero, i.size, i.bytes)) = some (some (.int .u8 0), 1, 1) := by kernel_rfl

set_option maxHeartbeats 1000000 in
theorem refText_none (a : Option Addr) (n cap : Nat) (zs : List Int) (w : World) (ha : View .u32 w a zs) (hl : zs.length = n) (hw : Within 4294967296 zs) (hn : 4 * n ≤ 140737488351232) (h : ∀ i, i < 4 * n → nth (joinL zs) i ≠ 0) :
    Calls Tryz.prog 49 #[.slice a n cap] w fun e w' => e = .returned (.tuple #[.string ⟨#[]⟩, .int .i64 0, .int .i64 11]) ∧ w = w' := by
  have HB : ∀ k : Nat, k < 4 * n → Calls Tryz.prog 64 #[.slice a n cap, .int .i64 k] w fun e w' => e = .returned (.int .u8 (nth (joinL zs) k)) ∧ w = w' :=
    fun k hk => refByte_nat a n cap zs w k ha hl hw hn hk
  generalize joinL zs = js at HB h
  have H0 : Hid (∀ i, i < 4 * n → nth js i ≠ 0) := h
  clear ha hl hw h
  go_enter Tryz.func49, Tryz.ntmps49
  go_wp2
  go_loop [5] (fun i => ∃ k : Nat, k ≤ 4 * n ∧ i = .int .i64 k) (fun i => 4 * n - (intOf i).toNat)
  case atStart => exact ⟨0, Nat.zero_le _, rfl⟩
  case round =>
    obtain ⟨k, hk, rfl⟩ := hrel
    by_cases hlt : k < 4 * n
    · have hcall := HB k hlt
      have hne : (nth js k == 0) = false := by simp; exact H0.out k hlt
      generalize nth js k = x at hcall hne
      have hki : (k : Int) < 4 * (n : Int) := by omega
      clear HB
      go_wp2_with (go_at_call 64; refine hcall.mono ?_; rintro e w' ⟨rfl, rfl⟩)
      go_round
      case rel => exact ⟨k + 1, by omega, by go_num⟩
      case measure => simp [intOf]; omega
    · obtain rfl : k = 4 * n := by omega
      have hki : ¬ (4 * (n : Int)) < 4 * (n : Int) := by omega
      have hke : ((4 * (n : Int)) == 4 * (n : Int)) = true := by simp
      go_wp2
      go_ret3
      exact ⟨rfl, rfl⟩

set_option maxHeartbeats 1000000 in
theorem refText_pad (a : Option Addr) (n cap : Nat) (zs : List Int) (w : World) (L P M : Nat) (ha : View .u32 w a zs) (hl : zs.length = n) (hw : Within 4294967296 zs) (hn : 4 * n ≤ 140737488351232)
    (hL : L < n) (hP : P < 4) (h : ∀ i, i < 4 * L + P → nth (joinL zs) i ≠ 0) (h0 : nth (joinL zs) (4 * L + P) = 0) (hM1 : 4 * L + P < M) (hM2 : M < 4 * L + 4) (hM : nth (joinL zs) M ≠ 0) :
    Calls Tryz.prog 49 #[.slice a n cap] w fun e w' => e = .returned (.tuple #[.string ⟨#[]⟩, .int .i64 0, .int .i64 12]) ∧ w = w' := by
  have HB : ∀ k : Nat, k < 4 * n → Calls Tryz.prog 64 #[.slice a n cap, .int .i64 k] w fun e w' => e = .returned (.int .u8 (nth (joinL zs) k)) ∧ w = w' :=
    fun k hk => refByte_nat a n cap zs w k ha hl hw hn hk
  generalize joinL zs = js at HB h h0 hM
  have HN : Hid (∀ i, i < 4 * L + P → nth js i ≠ 0) := h
  have H0 : Hid (nth js (4 * L + P) = 0) := h0
  have HM : Hid (nth js M ≠ 0) := hM
  clear ha hl hw h h0 hM
  go_enter Tryz.func49, Tryz.ntmps49
  go_wp2
  go_loop [5] (fun i => ∃ k : Nat, k ≤ 4 * L + P ∧ i = .int .i64 k) (fun i => 4 * n - (intOf i).toNat)
  case atStart => exact ⟨0, Nat.zero_le _, rfl⟩
  case round =>
    obtain ⟨k, hk, rfl⟩ := hrel
    have hki : (k : Int) < 4 * (n : Int) := by omega
    have hcall := HB k (by omega)
    by_cases hlt : k < 4 * L + P
    · have hne : (nth js k == 0) = false := by simp; exact HN.out k hlt
      generalize nth js k = x at hcall hne
      clear HB
      go_wp2_with (go_at_call 64; refine hcall.mono ?_; rintro e w' ⟨rfl, rfl⟩)
      go_round
      case rel => exact ⟨k + 1, by omega, by go_num⟩
      case measure => simp [intOf]; omega
    · have ek : k = 4 * L + P := by omega
      rw [show nth js k = 0 by rw [ek]; exact H0.out] at hcall
      have hke : ((k : Int) == 4 * (n : Int)) = false := by simp; omega
      have EK : Hid (k = 4 * L + P) := ek
      clear ek
      go_wp2_with (go_at_call 64; refine hcall.mono ?_; rintro e w' ⟨rfl, rfl⟩)
      go_loop [6] (fun i => ∃ j : Nat, 4 * L + P < j ∧ j ≤ M ∧ i = .int .i64 j) (fun i => 4 * n - (intOf i).toNat)
      case atStart => exact ⟨k + 1, by have := EK.out; omega, by have := EK.out; omega, by go_num⟩
      case round =>
        obtain ⟨j, hj1, hj2, rfl⟩ := hrel
        have hjc := HB j (by omega)
        have hjm : (((j : Int) % 4) == 0) = false := by simp; omega
        clear hcall
        by_cases hx : nth js j = 0
        · rw [hx] at hjc
          have hjM : j ≠ M := fun e => HM.out (by rw [← e]; exact hx)
          go_wp2_with (go_at_call 64; refine hjc.mono ?_; rintro e w' ⟨rfl, rfl⟩)
          go_round
          case rel => exact ⟨j + 1, by omega, by omega, by go_num⟩
          case measure => simp [intOf]; omega
        · have hne : (nth js j == 0) = false := by simp; exact hx
          generalize nth js j = x at hjc hne
          clear hx HB
          go_wp2_with (go_at_call 64; refine hjc.mono ?_; rintro e w' ⟨rfl, rfl⟩)
          go_ret3
          exact ⟨rfl, rfl⟩

set_option maxRecDepth 10000 in
set_option maxHeartbeats 1000000 in
theorem refText_ok (a : Option Addr) (n cap : Nat) (zs : List Int) (w : World) (L P : Nat) (ha : View .u32 w a zs) (hl : zs.length = n) (hw : Within 4294967296 zs) (hn : 4 * n ≤ 140737488351232)
    (hL : L < n) (hP : P < 4) (h : ∀ i, i < 4 * L + P → nth (joinL zs) i ≠ 0) (h0 : nth (joinL zs) (4 * L + P) = 0) (hM : ∀ i, 4 * L + P < i → i < 4 * L + 4 → nth (joinL zs) i = 0) :
    Calls Tryz.prog 49 #[.slice a n cap] w fun e w' => e = .returned (.tuple #[.string (strOfNums ((joinL zs).take (4 * L + P))), .int .i64 ((L : Int) + 1), .int .i64 0]) ∧ Below w.heap.size w w' := by
  obtain ⟨i0, hi, hz0, hz1, hz2⟩ := info_parts RefText.info
  have HB : ∀ wx, Below w.heap.size w wx → ∀ k : Nat, k < 4 * n → Calls Tryz.prog 64 #[.slice a n cap, .int .i64 k] wx fun e w' => e = .returned (.int .u8 (nth (joinL zs) k)) ∧ wx = w' :=
    fun wx hx k hk => refByte_nat a n cap zs wx k (ha.below hx) hl hw hn hk
  have HJL : Hid ((joinL zs).length = 4 * n) := by rw [joinL_len, hl]; rfl
  generalize joinL zs = js at HB h h0 hM HJL ⊢
  have HN : Hid (∀ i, i < 4 * L + P → nth js i ≠ 0) := h
  have H0 : Hid (nth js (4 * L + P) = 0) := h0
  have HM : Hid (∀ i, 4 * L + P < i → i < 4 * L + 4 → nth js i = 0) := hM
  clear ha hl hw h h0 hM
  go_enter Tryz.func49, Tryz.ntmps49
  go_wp2
  go_loop [5] (fun i => ∃ k : Nat, k ≤ 4 * L + P ∧ i = .int .i64 k) (fun i => 4 * n - (intOf i).toNat)
  case atStart => exact ⟨0, Nat.zero_le _, rfl⟩
  case round =>
    obtain ⟨k, hk, rfl⟩ := hrel
    have hki : (k : Int) < 4 * (n : Int) := by omega
    have hcall := HB w (Below.refl _ _) k (by omega)
    by_cases hlt : k < 4 * L + P
    · have hne : (nth js k == 0) = false := by simp; exact HN.out k hlt
      generalize nth js k = x at hcall hne
      clear HB
      go_wp2_with (go_at_call 64; refine hcall.mono ?_; rintro e w' ⟨rfl, rfl⟩)
      go_round
      case rel => exact ⟨k + 1, by omega, by go_num⟩
      case measure => simp [intOf]; omega
    · have ek : k = 4 * L + P := by omega
      rw [show nth js k = 0 by rw [ek]; exact H0.out] at hcall
      have hke : ((k : Int) == 4 * (n : Int)) = false := by simp; omega
      have EK : Hid (k = 4 * L + P) := ek
      clear ek
      go_wp2_with (go_at_call 64; refine hcall.mono ?_; rintro e w' ⟨rfl, rfl⟩)
      go_loop [6] (fun i => ∃ j : Nat, 4 * L + P < j ∧ j ≤ 4 * L + 4 ∧ i = .int .i64 j) (fun i => 4 * n + 4 - (intOf i).toNat)
      case atStart => exact ⟨k + 1, by have := EK.out; omega, by have := EK.out; omega, by go_num⟩
      case round =>
        obtain ⟨j, hj1, hj2, rfl⟩ := hrel
        clear hcall
        by_cases hjl : j < 4 * L + 4
        · have hjc := HB w (Below.refl _ _) j (by omega)
          have hjm : (((j : Int) % 4) == 0) = false := by simp; omega
          rw [HM.out j hj1 hjl] at hjc
          go_wp2_with (go_at_call 64; refine hjc.mono ?_; rintro e w' ⟨rfl, rfl⟩)
          go_round
          case rel => exact ⟨j + 1, by omega, by omega, by go_num⟩
          case measure => simp [intOf]; omega
        · have hjm : (((j : Int) % 4) == 0) = true := by simp; omega
          go_wp2_with (at_make; refine wpList_make_full _ rfl _ _ 22 rfl w.heap.size 5 i0 (.int .u8 0) 1 Tryz.underlying22 hi hz0 hz1 _ _ _ _ k rfl rfl (by omega) (by omega) (by rw [hz2]; omega) (by unfold maxLen; omega) (Nat.le_refl _) ?_)
          intro w1 hown1 hgrow1
          have hb1 : Below w.heap.size w w1 := (Below.refl _ w).grown hgrow1 (Nat.le_refl _) (by simp)
          have hr1 := made_row (js.take k) hown1
          clear hown1 hgrow1
          have HTL : Hid ((js.take k).length = k) := by show (js.take k).length = k; rw [List.length_take, HJL.out]; omega
          go_wp2
          go_loopw [8] (fun i wr => ∃ t : Nat, t ≤ k ∧ i = .int .i64 t ∧ wr.ownsRow w.heap.size 5 1 (.slice (some ⟨w.heap.size, 0, none⟩) k k) k ((filled (js.take k) t k).map (Value.int .u8)) ∧ Below w.heap.size w wr)
            (fun i _ => k - (intOf i).toNat)
          case atStart => exact ⟨0, Nat.zero_le _, rfl, hr1, hb1⟩
          case round =>
            obtain ⟨t, ht, rfl, hown, hnx⟩ := hrel
            clear hr1 hb1
            by_cases htl : t < k
            · obtain ⟨d1, d2, d3⟩ := fill_step hown htl (by rw [HTL.out]; exact htl)
              have htc := HB wr hnx t (by omega)
              rw [nth_take _ _ _ htl] at d3
              generalize nth js t = x at htc d3
              clear hown HB
              go_wp2_with (go_at_call 64; refine htc.mono ?_; rintro e w' ⟨rfl, rfl⟩)
              go_roundw
              case rel => exact ⟨t + 1, by omega, by go_num, d3, hnx.setCell (Nat.le_refl _) _⟩
              case measure => simp [intOf]; omega
            · obtain rfl : t = k := by omega
              rw [filled_whole _ _ HTL.out] at hown
              have hcv : (convert 22 9 (.slice (some ⟨w.heap.size, 0, none⟩) t t)).run Tryz.prog wr = .ok (.string (strOfNums (js.take t))) wr := by
                refine run_convert_bytes_arg wr _ _ Tryz.underlying22 Tryz.underlying5 w.heap.size 0 t t (js.take t) HTL.out (fun i hi => ?_) _ Tryz.underlying9
                obtain ⟨b', off', e, _, hcell⟩ := View.ofRow hown HTL.out i (by rw [HTL.out]; exact hi)
                simp at e
                obtain ⟨rfl, rfl⟩ := e
                exact hcell
              have hdiv : (t : Int) / 4 = (L : Int) := by have := EK.out; omega
              clear hown HB
              go_wp2
              go_ret3
              exact ⟨by rw [← EK.out]; rfl, hnx⟩

end Go.Proofs.YteafjokpkljfcaaGreat

/-
  Text of the words package and of the document's answer are the same, whatever the words.
-/
namespace Go.Proofs.YteafjokpkljfcaaGreat
open Go.RowKit
set_option maxRecDepth 10000

end Go.Proofs.YteafjokpkljfcaaGreat
