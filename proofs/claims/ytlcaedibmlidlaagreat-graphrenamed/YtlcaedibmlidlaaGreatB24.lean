/-
  Texts laid together in one: MathRq, MathPr, MathRc, MathRs, Law14Number, KitCopyInst.
-/
import Derived.WalkSpells
import Derived.Test.YtlcaedibmlidlaaGreatB23
import Derived.Test.YtlcaedibmlidlaaGreatB10
import Derived.Test.YtlcaedibmlidlaaGreatB09
import Derived.Test.YtlcaedibmlidlaaGreatB22
import Derived.WalkMore
import Derived.OwnWalk
import Derived.Test.YtlcaedibmlidlaaGreatProg
import Derived.Test.YtlcaedibmlidlaaGreatB01
import Derived.Test.YtlcaedibmlidlaaGreatB11
import Derived.BigRegion
import Derived.Deep.RegionWith
import Derived.Deep.DrawnRows
import Derived.Deep.QuietTactic
import Derived.BigQuiet
import Derived.Test.YtlcaedibmlidlaaGreatB15
import Derived.Test.YtlcaedibmlidlaaGreatB06
/-
  A module with other ids: its functions and the numbers of their blocks.
-/
namespace Go.Proofs.YtlcaedibmlidlaaGreat
open Go.RowKit
set_option linter.unusedVariables false
set_option linter.unusedSimpArgs false
set_option maxRecDepth 10000

/-- A block, a function with other ids. -/
def turnB (f : Int → Int) (b : Int × Int × Int) : Int × Int × Int := (tN f b.1, b.2)
def turnFn (f : Int → Int) (g : FuncT) : FuncT := (tN f g.1, g.2.1, g.2.2.1, g.2.2.2.1.map (turnB f), g.2.2.2.2)
theorem onLast_map {h : FuncT → FuncT} {g g' : FuncT → FuncT} (fs : List FuncT) (e : ∀ x, h (g x) = g' (h x)) : onLast (fs.map h) g' = (onLast fs g).map h := by
  unfold onLast
  rw [List.getLast?_map]
  cases fs.getLast? with
  | none => rfl
  | some x => simp [e]
theorem endLast_map {h : Int × Int × Int → Int × Int × Int} (bs : List (Int × Int × Int)) (k : Int) (e : ∀ b, h (b.1, b.2.1, k) = ((h b).1, (h b).2.1, k)) : endLast (bs.map h) k = (endLast bs k).map h := by
  unfold endLast
  rw [List.getLast?_map]
  cases bs.getLast? with
  | none => rfl
  | some x => simp [e]
theorem stepC_turn (f : Int → Int) (fs : List FuncT) (x : InstT) (k : Nat) : stepC (fs.map (turnFn f)) (turnX f x) k = (stepC fs x k).map (turnFn f) := by
  unfold stepC
  have h1 : (turnX f x).1 = x.1 := rfl
  rw [h1]
  split
  · simp [turnFn, turnX]
  · split
    · exact onLast_map fs fun g => rfl
    · split
      · exact onLast_map fs fun g => rfl
      · split
        · exact onLast_map fs fun g => by simp [turnFn, withBlock, turnB, turnX]
        · split
          · refine onLast_map fs fun g => ?_
            unfold withTo turnFn
            rw [endLast_map g.2.2.2.1 _ (fun b => rfl)]
          · rfl
/-- The functions of a module with other ids. -/
theorem cut_turn (f : Int → Int) (l : List InstT) : ∀ k, k ≤ l.length → cutTo (turnL f l) k = (cutTo l k).map (turnFn f)
  | 0, _ => rfl
  | k + 1, h => by
    rw [cutTo, cutTo, cut_turn f l k (by omega), turnL_at f l k (by omega), stepC_turn]
theorem nthB_turn (f : Int → Int) (bs : List (Int × Int × Int)) (k : Nat) (h : k < bs.length) : nthB (bs.map (turnB f)) k = turnB f (nthB bs k) := by simp [nthB, List.getD, h]
/-- The number of a label's block is as it was. -/
theorem numT_turn (f : Int → Int) (bs : List (Int × Int × Int)) (y : Int) : ∀ k, k ≤ bs.length → (∀ j, j < k → tN f y = tN f (nthB bs j).1 → y = (nthB bs j).1) → numT (bs.map (turnB f)) k (tN f y) = numT bs k y
  | 0, _, _ => rfl
  | k + 1, h, hi => by
    show (if tN f y = (nthB (bs.map (turnB f)) k).1 then some (k : Int) else numT (bs.map (turnB f)) k (tN f y)) = (if y = (nthB bs k).1 then some (k : Int) else numT bs k y)
    rw [nthB_turn f bs k (by omega), numT_turn f bs y k (by omega) (fun j hj => hi j (by omega))]
    have e : (turnB f (nthB bs k)).1 = tN f (nthB bs k).1 := rfl
    rw [e]
    by_cases h1 : y = (nthB bs k).1
    · rw [if_pos h1, if_pos (by rw [h1])]
    · rw [if_neg h1, if_neg (fun h2 => h1 (hi k (by omega) h2))]
theorem numG_turn (f : Int → Int) (bs : List (Int × Int × Int)) (y : Int) (hi : ∀ j, j < bs.length → tN f y = tN f (nthB bs j).1 → y = (nthB bs j).1) : numG (numT (bs.map (turnB f)) (bs.map (turnB f)).length) (tN f y) = numG (numT bs bs.length) y := by
  unfold numG
  rw [List.length_map, numT_turn f bs y bs.length (Nat.le_refl _) hi]

theorem fits_letter {is : Bool} {f : Frm} {zs : List Int} (h : (fitsI is f zs).2 = true) {j : Nat} (hj : j < zs.length) : letterI f j ≠ 0 ∧ kindI (letterI f j) = nth zs j := by
  unfold fitsI at h
  split at h
  · cases h
  · split at h
    · cases h
    · next e =>
      have hb : badK f zs j = false := by
        have := List.find?_eq_none.1 e j (List.mem_range.2 hj)
        simpa using this
      unfold badK at hb
      simp only [Bool.or_eq_false_iff, beq_eq_false_iff_ne, Bool.not_eq_false', beq_iff_eq] at hb
      exact hb
theorem frm249 : (lookF refT 249).1.2.2.2.1 = ⟨#[105]⟩ ∧ (lookF refT 249).1.2.2.2.2.1 = ⟨#[]⟩ := ⟨by kernel_rfl, by kernel_rfl⟩
theorem frm250 : (lookF refT 250).1.2.2.2.1 = ⟨#[105, 105, 105]⟩ ∧ (lookF refT 250).1.2.2.2.2.1 = ⟨#[]⟩ := ⟨by kernel_rfl, by kernel_rfl⟩
theorem frm251 : (lookF refT 251).1.2.2.2.1 = ⟨#[105, 105]⟩ ∧ (lookF refT 251).1.2.2.2.2.1 = ⟨#[110, 105]⟩ := ⟨by kernel_rfl, by kernel_rfl⟩
theorem may249 (z : Int) : mayB (lookF refT 249).1 z = false := by unfold mayB; rw [frm249.2]; rfl
theorem may250 (z : Int) : mayB (lookF refT 250).1 z = false := by unfold mayB; rw [frm250.2]; rfl
/-- A target is an id. -/
theorem tg_letter {op : Int} {j : Nat} (ht : tgB op j = true) (h : letterI (lookF refT op).1 j ≠ 0) : letterI (lookF refT op).1 j = 105 := by
  unfold tgB at ht
  simp only [Bool.or_eq_true, Bool.and_eq_true, decide_eq_true_eq] at ht
  unfold letterI at h ⊢
  rcases ht with (rfl | ⟨rfl, h0⟩) | ⟨rfl, h1⟩
  · rw [frm249.1, frm249.2] at h ⊢
    split at h
    · exact absurd rfl h
    · next q0 =>
      rw [if_neg q0]
      split at h
      · next q1 =>
        rw [if_pos q1]
        have : j = 0 := by have q2 : (j : Int) < 1 := q1; omega
        subst this; rfl
      · next q1 =>
        exfalso
        split at h
        · next q2 => rw [may249] at q2; cases q2
        · exact h rfl
  · rw [frm250.1, frm250.2] at h ⊢
    split at h
    · exact absurd rfl h
    · next q0 =>
      rw [if_neg q0]
      split at h
      · next q1 =>
        rw [if_pos q1]
        have : j = 1 ∨ j = 2 := by have q2 : (j : Int) < 3 := q1; omega
        rcases this with rfl | rfl <;> rfl
      · next q1 =>
        exfalso
        split at h
        · next q2 => rw [may250] at q2; cases q2
        · exact h rfl
  · rw [frm251.1, frm251.2] at h ⊢
    split at h
    · exact absurd rfl h
    · next q0 =>
      rw [if_neg q0]
      split at h
      · next q1 =>
        rw [if_pos q1]
        have : j = 1 := by have q2 : (j : Int) < 2 := q1; omega
        subst this; rfl
      · next q1 =>
        rw [if_neg q1]
        split at h
        · next q2 =>
          rw [if_pos q2]
          have e : ((j : Int) - ((⟨#[105, 105]⟩ : ByteArray).size : Int)) % ((⟨#[110, 105]⟩ : ByteArray).size : Int) = 1 := by
            show ((j : Int) - 2) % 2 = 1
            omega
          rw [e]; rfl
        · exact absurd rfl h
theorem tg_kind {x : InstT} (hf : fitB x = true) {j : Nat} (hj : j < x.2.2.2.length) (ht : tgB x.1 j = true) : (nthA x.2.2.2 j).1 = 1 := by
  have h := fits_letter hf (j := j) (by unfold kindsL; rw [List.length_map]; exact hj)
  rw [kindsL_nth _ _ hj, tg_letter ht h.1] at h
  exact h.2.symm

theorem kinds_turn (f : Int → Int) (l : List ArgT) : kindsL (l.map (tA f)) = kindsL l := by
  unfold kindsL
  rw [List.map_map]
  refine List.map_congr_left fun a _ => ?_
  show (tA f a).1 = a.1
  unfold tA; split <;> rfl
theorem fitB_turn (f : Int → Int) (x : InstT) : fitB (turnX f x) = fitB x := by
  unfold fitB
  show (fitsI (lookF refT x.1).2 (lookF refT x.1).1 (kindsL (x.2.2.2.map (tA f)))).2 = _
  rw [kinds_turn]
theorem nthA_turn (f : Int → Int) (l : List ArgT) (j : Nat) (h : j < l.length) : nthA (l.map (tA f)) j = tA f (nthA l j) := by simp [nthA, List.getD, h]
/-- The targets of an instruction with other ids. -/
theorem tgL_turn (f : Int → Int) (x : InstT) : tgL (turnX f x) = (tgL x).map f := by
  unfold tgL
  rw [fitB_turn]
  cases hf : fitB x with
  | false => rfl
  | true =>
    rw [if_pos rfl, if_pos rfl]
    show tgP x.1 (x.2.2.2.map (tA f)) (x.2.2.2.map (tA f)).length = _
    unfold tgP
    rw [List.length_map, Nat.min_self, List.map_map]
    refine List.map_congr_left fun j hj => ?_
    have h1 := List.mem_filter.1 hj
    have hj2 : j < x.2.2.2.length := by simpa using h1.1
    have hk := tg_kind hf hj2 h1.2
    rw [nthA_turn f _ j hj2]
    show (tA f (nthA x.2.2.2 j)).2.1 = f (nthA x.2.2.2 j).2.1
    unfold tA
    rw [if_pos hk]

theorem raw_arg {x : InstT} {b : Int} (h : rawE x b = 0) {j : Nat} (hj : j < x.2.2.2.length) (hc : letterI (lookF refT x.1).1 j = 105) : (nthA x.2.2.2 j).1 = 1 ∧ (nthA x.2.2.2 j).2.1 ≠ 0 := by
  have hw : wrongL (lookF refT x.1).1 b 0 x.2.2.2 = 0 := by
    unfold rawE at h
    split at h
    · unfold faultI at h
      split at h
      · next h1 => exact absurd h h1
      · split at h
        · next h1 => exact absurd h h1
        · split at h
          · next h1 => exact absurd h h1
          · next h1 => simpa using h1
    · cases h
  have h1 := wrongL_zero hw j hj
  rw [Nat.zero_add, hc] at h1
  have k1 : kindI 105 = 1 := rfl
  unfold wrongA at h1
  split at h1
  · cases h1
  · next h2 =>
    have h3 : (nthA x.2.2.2 j).1 = 1 := by
      have h4 : mayStandB 105 (nthA x.2.2.2 j) = true := by simpa using h2
      unfold mayStandB at h4
      simp only [Bool.and_eq_true, beq_iff_eq] at h4
      rw [h4.1.2, k1]
    refine ⟨h3, fun h0 => ?_⟩
    rw [if_neg (by rw [h3]; decide)] at h1
    unfold faultW at h1
    rw [if_pos k1, h0] at h1
    split at h1
    · cases h1
    · next h5 => exact h5 (by unfold noneB; simp)
theorem let246 : letterI (lookF refT 246).1 (0 : Nat) = 105 ∧ letterI (lookF refT 246).1 (1 : Nat) = 105 ∧ letterI (lookF refT 247).1 (0 : Nat) = 105 := ⟨by kernel_rfl, by kernel_rfl, by kernel_rfl⟩
theorem tA_id {f : Int → Int} {a : ArgT} (h : a.1 = 1) : (tA f a).2.1 = f a.2.1 := by unfold tA; rw [if_pos h]
/-- What a merge says with other ids. -/
theorem mgOf_turn (f : Int → Int) {x : InstT} {b : Int} (h : rawE x b = 0) (o : Int) : mgOf (turnX f x).1 o (turnX f x).2.2.2 = ((mgOf x.1 o x.2.2.2).1, (mgOf x.1 o x.2.2.2).2.map f) ∧ ∀ y ∈ (mgOf x.1 o x.2.2.2).2, y ≠ 0 := by
  have hw := rawE_whole h
  show mgOf x.1 o (x.2.2.2.map (tA f)) = _ ∧ _
  unfold mgOf
  by_cases h1 : x.1 = 246
  · rw [h1, whole246.2.1] at hw
    have e0 := raw_arg h (j := 0) (by omega) (by rw [h1]; exact let246.1)
    have e1 := raw_arg h (j := 1) (by omega) (by rw [h1]; exact let246.2.1)
    rw [if_pos h1, if_pos h1, nthA_turn f _ 0 (by omega), nthA_turn f _ 1 (by omega), tA_id e0.1, tA_id e1.1]
    refine ⟨rfl, fun y hy => ?_⟩
    simp at hy
    rcases hy with rfl | rfl
    · exact e0.2
    · exact e1.2
  · rw [if_neg h1, if_neg h1]
    by_cases h2 : x.1 = 247
    · rw [h2, whole246.2.2.2] at hw
      have e0 := raw_arg h (j := 0) (by omega) (by rw [h2]; exact let246.2.2)
      rw [if_pos h2, if_pos h2, nthA_turn f _ 0 (by omega), tA_id e0.1]
      split
      · refine ⟨rfl, fun y hy => ?_⟩
        simp at hy; subst hy; exact e0.2
      · refine ⟨rfl, fun y hy => ?_⟩
        simp at hy; subst hy; exact e0.2
    · rw [if_neg h2, if_neg h2]
      exact ⟨rfl, fun y hy => by cases hy⟩

end Go.Proofs.YtlcaedibmlidlaaGreat

/-
  Pairs of ids: when they are one to one, and what stands beside an id; in plain mathematics.
-/
namespace Go.Proofs.YtlcaedibmlidlaaGreat
open Go.RowKit
set_option linter.unusedVariables false
set_option linter.unusedSimpArgs false

/-- All ids of an instruction: those that it names, and the one that it makes. -/
def allI (x : InstT) : List Int := idsI x ++ (if x.2.2.1 = 0 then [] else [x.2.2.1])
end Go.Proofs.YtlcaedibmlidlaaGreat

/-
  Other ids, one to one: what stays as it was (plain mathematics alone).
-/
namespace Go.Proofs.YtlcaedibmlidlaaGreat
open Go.RowKit
set_option linter.unusedVariables false
set_option linter.unusedSimpArgs false
set_option maxRecDepth 10000

/-- An id that stands in l. -/
def Occ (l : List InstT) (id : Int) : Prop := ∃ k, k < l.length ∧ id ∈ allI (nthI l k)
/-- Other ids, below b, one to one. -/
structure WayF (l : List InstT) (b : Int) (f : Int → Int) : Prop where
  inb : ∀ i, Occ l i → InB b (f i)
  inj : ∀ i j, Occ l i → Occ l j → f i = f j → i = j
theorem nthA_mapB {g : ArgT → ArgT} {l : List ArgT} {j : Nat} (h : j < l.length) : nthA (l.map g) j = g (nthA l j) := by simp [nthA, List.getD, h]
theorem allI_type {x : InstT} (h : x.2.1 ≠ 0) : x.2.1 ∈ allI x := by
  unfold allI idsI idsTo
  simp [h]
theorem allI_res {x : InstT} (h : x.2.2.1 ≠ 0) : x.2.2.1 ∈ allI x := by
  unfold allI
  simp [h]
theorem idsI_arg {x : InstT} {j : Nat} (hj : j < x.2.2.2.length) (h : (nthA x.2.2.2 j).1 = 1) : (nthA x.2.2.2 j).2.1 ∈ idsI x := by
  unfold idsI idsTo
  rw [List.take_length]
  refine List.mem_append_right _ (List.mem_flatMap.2 ⟨nthA x.2.2.2 j, ?_, by simp [idsA, h]⟩)
  rw [nthA_lt _ _ hj]; exact List.getElem_mem hj
theorem allI_arg {x : InstT} {j : Nat} (hj : j < x.2.2.2.length) (h : (nthA x.2.2.2 j).1 = 1) : (nthA x.2.2.2 j).2.1 ∈ allI x := List.mem_append_left _ (idsI_arg hj h)

theorem idE_turn {must : Bool} {n b b' e : Int} {f : Int → Int} (he : e ≠ 0) (h : idE must n b e = 0) (hf : n ≠ 0 → InB b' (f n)) : idE must (tN f n) b' e = 0 := by
  unfold idE at h ⊢
  by_cases hn : n = 0
  · subst hn
    have e0 : tN f 0 = 0 := rfl
    rw [e0]
    cases must
    · rfl
    · exact absurd h he
  · have hI := hf hn
    have e0 : tN f n = f n := by unfold tN; rw [if_neg hn]
    rw [e0]
    have h1 : f n ≠ 0 := by have := hI.1; omega
    have h2 : ¬ b' ≤ f n := by have := hI.2; omega
    cases must
    · simp [hn] at h; exact absurd h he
    · simp [h1, h2]
theorem wrongA_turn {c : Int} {x : ArgT} {b b' : Int} {f : Int → Int} (h : wrongA c x b = 0) (hf : x.1 = 1 → InB b' (f x.2.1)) : wrongA c (tA f x) b' = 0 := by
  have hk := wrongA_kind h
  by_cases h1 : x.1 = 1
  · have hI := hf h1
    have e0 : tA f x = (x.1, f x.2.1, x.2.2) := by unfold tA; rw [if_pos h1]
    rw [e0]
    unfold wrongA at h ⊢
    have hm : mayStandB c (x.1, f x.2.1, x.2.2) = mayStandB c x := by unfold mayStandB; rw [h1]; rfl
    rw [hm]
    split at h
    · cases h
    · next h2 =>
      rw [if_neg h2]
      simp only
      rw [if_neg (by rw [h1]; decide)]
      unfold faultW
      rw [if_pos (by rw [← hk.2]; exact h1), if_neg]
      unfold noneB
      have := hI.1
      have := hI.2
      simp; omega
  · have e0 : tA f x = x := by unfold tA; rw [if_neg h1]
    rw [e0]
    unfold wrongA at h ⊢
    split at h
    · cases h
    · next h2 =>
      rw [if_neg h2]
      split at h
      · next h3 => rw [if_pos h3]; exact h
      · next h3 =>
        rw [if_neg h3]
        unfold faultW at h ⊢
        have hn1 : ¬ kindI c = 1 := by rw [← hk.2]; exact h1
        rw [if_neg hn1] at h ⊢
        exact h
theorem wordsA_turn {f : Int → Int} (x : ArgT) : (wordsA (tA f x)).length = (wordsA x).length := by
  rw [wordsA_len, wordsA_len]
  unfold tA
  split <;> rfl
theorem wordsL_turn {f : Int → Int} : ∀ (l : List ArgT), (wordsL (l.map (tA f))).length = (wordsL l).length
  | [] => rfl
  | x :: l => by
    have ih := wordsL_turn (f := f) l
    unfold wordsL at *
    rw [List.map_cons, List.flatMap_cons, List.flatMap_cons, List.length_append, List.length_append, ih, wordsA_turn]
theorem rawL_turn {f : Int → Int} (F : Frm) (x : InstT) : (rawL F (turnX f x)).length = (rawL F x).length := by
  unfold rawL headW turnX
  simp only [List.length_append]
  rw [wordsL_turn]
  congr 1
  cases F.2.1 <;> cases F.2.2.1 <;> rfl
/-- An instruction that can be written can be written with other ids. -/
theorem raw_turn {f : Int → Int} {x : InstT} {b b' : Int} (h : rawE x b = 0) (hi : ∀ i ∈ allI x, InB b' (f i)) : rawE (turnX f x) b' = 0 ∧ (rawWs (turnX f x) b').length = (rawWs x b).length := by
  obtain ⟨h1, h2, h3⟩ := rawWs_ok h
  obtain ⟨i1, i2, i3, i4, i5⟩ := faultI_zero h2
  have e0 : rawE (turnX f x) b' = 0 := by
    unfold rawE
    show (if (lookF refT x.1).2 = true then faultI (lookF refT x.1).1 (turnX f x) b' else 30) = 0
    rw [if_pos h1]
    have j1 : idE (lookF refT x.1).1.2.1 (turnX f x).2.1 b' 40 = 0 := idE_turn (by decide) i1 (fun hn => hi _ (allI_type hn))
    have j2 : idE (lookF refT x.1).1.2.2.1 (turnX f x).2.2.1 b' 41 = 0 := idE_turn (by decide) i2 (fun hn => hi _ (allI_res hn))
    have j3 : wrongL (lookF refT x.1).1 b' 0 (turnX f x).2.2.2 = 0 := by
      refine wrongL_none fun j hj => ?_
      have hj' : j < x.2.2.2.length := by simpa [turnX] using hj
      have := wrongL_zero i3 j hj'
      show wrongA _ (nthA (x.2.2.2.map (tA f)) j) b' = 0
      rw [nthA_mapB hj']
      exact wrongA_turn this (fun hk => hi _ (allI_arg hj' hk))
    have j4 : wholeN (lookF refT x.1).1 (turnX f x).2.2.2.length = true := by
      have e : (turnX f x).2.2.2.length = x.2.2.2.length := by simp [turnX]
      rw [e]; exact i4
    have j5 : 1 + (rawL (lookF refT x.1).1 (turnX f x)).length ≤ 65535 := by rw [rawL_turn]; exact i5
    unfold faultI
    rw [if_neg (by rw [j1]; simp), if_neg (by rw [j2]; simp), if_neg (by rw [j3]; simp), if_neg (by rw [j4]; simp), if_neg (by omega)]
  refine ⟨e0, ?_⟩
  rw [h3, (rawWs_ok e0).2.2]
  exact rawL_turn _ x

theorem shapeF_turn {f : Int → Int} {b b' : Int} : ∀ (l : List InstT) (k c : Nat), (∀ x ∈ l, ∀ i ∈ allI x, InB b' (f i)) → (shapeF b k c l).1 = 0 → shapeF b' k c (turnL f l) = (0, 0)
  | [], _, _, _, _ => rfl
  | x :: l, k, c, hi, h => by
    rw [shapeF] at h
    by_cases h1 : rawE x b = 0
    · rw [if_neg (by rw [h1]; simp)] at h
      obtain ⟨r1, r2⟩ := raw_turn (f := f) (b' := b') h1 (hi x (by simp))
      by_cases h2 : 1048576 < c + 1 + (rawWs x b).length
      · rw [if_pos h2] at h; cases h
      · rw [if_neg h2] at h
        show shapeF b' k c (turnX f x :: turnL f l) = _
        rw [shapeF, if_neg (by rw [r1]; simp), r2, if_neg h2]
        exact shapeF_turn l _ _ (fun y hy => hi y (by simp [hy])) h
    · rw [if_pos h1] at h; exact absurd h h1
theorem occ_mem {l : List InstT} {x : InstT} {i : Int} (hx : x ∈ l) (hi : i ∈ allI x) : Occ l i := by
  obtain ⟨k, hk, rfl⟩ := List.getElem_of_mem hx
  exact ⟨k, hk, by rw [nthI_lt _ _ hk]; exact hi⟩
/-- Its shape. -/
theorem shape_turn {f : Int → Int} {b b' : Int} {l : List InstT} (h : (shapeE b l).1 = 0) (hw : WayF l b' f) (h0 : b' ≠ 0) (h1 : b' ≤ 65536) : shapeE b' (turnL f l) = (0, 0) := by
  unfold shapeE at h ⊢
  split at h
  · cases h
  · rw [if_neg (by omega)]
    exact shapeF_turn l 0 5 (fun x hx i hi => hw.inb i (occ_mem hx hi)) h

theorem var_letter : kindI (letterI (lookF refT 59).1 0) = 4 := by decide +kernel
theorem part_turn {f : Int → Int} {x : InstT} {b : Int} (h : rawE x b = 0) : partI (turnX f x) = partI x := by
  unfold partI
  show (if x.1 = 59 ∧ (nthA (x.2.2.2.map (tA f)) 0).2.1 = 7 then 8 else partO x.1) = _
  by_cases h5 : x.1 = 59
  · have hl := var_args h h5
    obtain ⟨_, h2, _⟩ := rawWs_ok h
    have hk := wrongA_kind (wrongL_zero (faultI_zero h2).2.2.1 0 (by omega))
    rw [h5] at hk
    have hk2 : (nthA x.2.2.2 0).1 = 4 := hk.2.trans var_letter
    rw [nthA_mapB (by omega)]
    have : tA f (nthA x.2.2.2 0) = nthA x.2.2.2 0 := by unfold tA; rw [if_neg (by rw [hk2]; decide)]
    rw [this]
  · rw [if_neg (fun e => h5 e.1), if_neg (fun e => h5 e.1)]
theorem turnL_out (f : Int → Int) (l : List InstT) (k : Nat) (hk : ¬ k < l.length) : nthI (turnL f l) k = nthI l k := by
  unfold nthI
  rw [List.getD_eq_getElem?_getD, List.getD_eq_getElem?_getD, List.getElem?_eq_none (by rw [turnL_len]; omega), List.getElem?_eq_none (by omega)]
/-- What the order of instructions hangs on. -/
def SameP (l m : List InstT) : Prop := l.length = m.length ∧ ∀ k, (nthI m k).1 = (nthI l k).1 ∧ partI (nthI m k) = partI (nthI l k)
theorem sameP_turn {f : Int → Int} {l : List InstT} {b : Int} (h : (shapeE b l).1 = 0) : SameP l (turnL f l) := by
  refine ⟨(turnL_len f l).symm, fun k => ?_⟩
  by_cases hk : k < l.length
  · rw [turnL_at f l k hk]; exact ⟨rfl, part_turn (shape_each h k hk)⟩
  · rw [turnL_out f l k hk]; exact ⟨rfl, rfl⟩
theorem SameP.over {l m : List InstT} (h : SameP l m) (p : Int) : ∀ k, overP m p k = overP l p k
  | 0 => rfl
  | k + 1 => by rw [overP, overP, h.over p k, (h.2 k).2]
theorem SameP.models {l m : List InstT} (h : SameP l m) : ∀ k, modelsN m k = modelsN l k
  | 0 => rfl
  | k + 1 => by rw [modelsN, modelsN, h.models k, (h.2 k).2]
theorem SameP.ahead {l m : List InstT} (h : SameP l m) (k : Nat) : aheadO m k = aheadO l k := by
  unfold aheadO; rw [(h.2 _).1, (h.2 _).2]
theorem SameP.block {l m : List InstT} (h : SameP l m) : ∀ k, blockAt m k = blockAt l k
  | 0 => rfl
  | k + 1 => by rw [blockAt, blockAt, h.block k, (h.2 _).1]
theorem SameP.first {l m : List InstT} (h : SameP l m) (k : Nat) : firstB m k = firstB l k := by
  unfold firstB; rw [h.block k, (h.2 _).1]
theorem SameP.may {l m : List InstT} (h : SameP l m) (k : Nat) : mayL m k = mayL l k := by
  unfold mayL; rw [h.over, h.models, h.ahead, h.first, (h.2 _).1, (h.2 _).2]
theorem SameP.lay {l m : List InstT} (h : SameP l m) : ∀ n k, layF m n k = layF l n k
  | 0, k => by rw [layF, layF]; unfold openE; rw [← h.1, h.models, h.ahead]
  | n + 1, k => by rw [layF, layF, h.may, h.lay n (k + 1)]
/-- Its order. -/
theorem lay_turn {f : Int → Int} {b b' : Int} {l : List InstT} (h : (shapeE b l).1 = 0) (hw : WayF l b' f) (h0 : b' ≠ 0) (h1 : b' ≤ 65536) : layE b' (turnL f l) = layE b l := by
  unfold layE
  rw [shape_turn h hw h0 h1, if_neg (by simp), if_neg (by simpa using h), turnL_len]
  exact (sameP_turn h).lay _ _

theorem WayF.ne {l : List InstT} {b : Int} {f : Int → Int} (h : WayF l b f) {i : Int} (hi : Occ l i) : f i ≠ 0 := by have := (h.inb i hi).1; omega
theorem mem_idsIC {x : InstT} {id : Int} (h : id ∈ idsI x) : (x.2.1 ≠ 0 ∧ id = x.2.1) ∨ ∃ j, j < x.2.2.2.length ∧ (nthA x.2.2.2 j).1 = 1 ∧ id = (nthA x.2.2.2 j).2.1 := by
  unfold idsI idsTo at h
  rw [List.take_length] at h
  rcases List.mem_append.1 h with h | h
  · left
    by_cases e : x.2.1 = 0
    · simp [e] at h
    · simp [e] at h; exact ⟨e, h⟩
  · right
    obtain ⟨z, hz, hi⟩ := List.mem_flatMap.1 h
    obtain ⟨j, hj, rfl⟩ := List.mem_iff_getElem.1 hz
    refine ⟨j, hj, ?_⟩
    rw [nthA_lt _ _ hj]
    unfold idsA at hi
    split at hi
    · rename_i h1; simp at hi; exact ⟨h1, hi⟩
    · simp at hi
theorem allI_inC {x : InstT} {b : Int} (hok : InstOk x) (h : rawE x b = 0) : ∀ id ∈ allI x, 0 < id ∧ id < 4294967296 := by
  obtain ⟨i1, i2, i3⟩ := ids_in hok h
  obtain ⟨_, _, a3, a4, a5, a6, a7, _⟩ := hok
  intro id hid
  unfold allI at hid
  rcases List.mem_append.1 hid with h | h
  · rcases mem_idsIC h with ⟨h1, rfl⟩ | ⟨j, hj, h1, rfl⟩
    · exact ⟨by omega, a4⟩
    · have := i3 j hj h1
      exact ⟨by have := this.1; omega, (a7 j hj).2.2.2.1⟩
  · by_cases e : x.2.2.1 = 0
    · simp [e] at h
    · simp [e] at h; subst h; exact ⟨by omega, a6⟩
theorem occ_ne {l : List InstT} {b i : Int} (hok : InstsOk l) (h : (shapeE b l).1 = 0) (hi : Occ l i) : i ≠ 0 := by
  obtain ⟨k, hk, h1⟩ := hi
  have := (allI_inC (hok k hk) (shape_each h k hk) i h1).1
  omega
theorem occ_res {l : List InstT} {k : Nat} (hk : k < l.length) (h : (nthI l k).2.2.1 ≠ 0) : Occ l (nthI l k).2.2.1 := ⟨k, hk, allI_res h⟩
theorem res_turn {l : List InstT} {b : Int} {f : Int → Int} (hw : WayF l b f) {k : Nat} (hk : k < l.length) : ((nthI (turnL f l) k).2.2.1 = 0 ↔ (nthI l k).2.2.1 = 0) ∧ ((nthI l k).2.2.1 ≠ 0 → (nthI (turnL f l) k).2.2.1 = f (nthI l k).2.2.1) := by
  rw [turnL_at f l k hk]
  show (tN f (nthI l k).2.2.1 = 0 ↔ _) ∧ (_ → tN f (nthI l k).2.2.1 = _)
  unfold tN
  by_cases h : (nthI l k).2.2.1 = 0
  · rw [if_pos h]; exact ⟨⟨fun _ => h, fun _ => rfl⟩, fun e => absurd h e⟩
  · rw [if_neg h]; exact ⟨⟨fun e => absurd e (hw.ne (occ_res hk h)), fun e => absurd e h⟩, fun _ => rfl⟩
/-- Who makes an id. -/
theorem mak_turn {l : List InstT} {b b' : Int} {f : Int → Int} (hok : InstsOk l) (hs : (shapeE b l).1 = 0) (hw : WayF l b' f) {i : Int} (hi : Occ l i) : ∀ k, k ≤ l.length → makT (turnL f l) k (f i) = makT l k i
  | 0, _ => rfl
  | k + 1, hk => by
    have ih := mak_turn hok hs hw hi k (by omega)
    obtain ⟨r1, r2⟩ := res_turn hw (show k < l.length by omega)
    rw [makT, makT, ih]
    have hni := occ_ne hok hs hi
    have hnf := hw.ne hi
    have e : ((nthI (turnL f l) k).2.2.1 = f i ∧ f i ≠ 0) ↔ ((nthI l k).2.2.1 = i ∧ i ≠ 0) := by
      constructor
      · rintro ⟨e1, e2⟩
        refine ⟨?_, hni⟩
        have hr : (nthI l k).2.2.1 ≠ 0 := fun e0 => by rw [r1.2 e0] at e1; exact e2 e1.symm
        rw [r2 hr] at e1
        exact hw.inj _ _ (occ_res (by omega) hr) hi e1
      · rintro ⟨e1, e2⟩
        refine ⟨?_, hnf⟩
        rw [r2 (by rw [e1]; exact hni), e1]
    by_cases h2 : (nthI l k).2.2.1 = i ∧ i ≠ 0
    · rw [if_pos h2, if_pos (e.2 h2)]
    · rw [if_neg h2, if_neg (fun h => h2 (e.1 h))]
theorem args_turnB {f : Int → Int} : ∀ (a : List ArgT), (a.map (tA f)).flatMap idsA = (a.flatMap idsA).map f
  | [] => rfl
  | x :: a => by
    have ih := args_turnB (f := f) a
    rw [List.map_cons, List.flatMap_cons, List.flatMap_cons, List.map_append, ih]
    congr 1
    by_cases e : x.1 = 1
    · simp [tA, idsA, e]
    · simp [tA, idsA, e]
theorem idsI_turn {f : Int → Int} {x : InstT} (h : x.2.1 ≠ 0 → f x.2.1 ≠ 0) : idsI (turnX f x) = (idsI x).map f := by
  unfold idsI idsTo turnX
  simp only
  rw [List.take_length, List.take_length, List.map_append, args_turnB]
  congr 1
  unfold tN
  by_cases e : x.2.1 = 0
  · simp [e]
  · simp [e, h e]
theorem WayF.type {l : List InstT} {b : Int} {f : Int → Int} (h : WayF l b f) {k : Nat} (hk : k < l.length) : (nthI l k).2.1 ≠ 0 → f (nthI l k).2.1 ≠ 0 := fun e => h.ne ⟨k, hk, allI_type e⟩
theorem made_turn {l : List InstT} {b b' : Int} {f : Int → Int} (hok : InstsOk l) (hs : (shapeE b l).1 = 0) (hw : WayF l b' f) {k : Nat} (hk : k ≤ l.length) : ∀ (zs : List Int), (∀ i ∈ zs, Occ l i) → allMade (turnL f l) k (zs.map f) = allMade l k zs
  | [], _ => rfl
  | z :: zs, h => by
    have ih := made_turn hok hs hw hk zs (fun i hi => h i (by simp [hi]))
    unfold allMade at *
    rw [List.map_cons, List.all_cons, List.all_cons, ih, mak_turn hok hs hw (h z (by simp)) k hk]
theorem fault_turn {l : List InstT} {b b' : Int} {f : Int → Int} (hok : InstsOk l) (hs : (shapeE b l).1 = 0) (hw : WayF l b' f) {k : Nat} (hk : k < l.length) : faultAt (turnL f l) k = faultAt l k := by
  have hoc : ∀ i ∈ idsI (nthI l k), Occ l i := fun i hi => ⟨k, hk, List.mem_append_left _ hi⟩
  have e1 : idsI (nthI (turnL f l) k) = (idsI (nthI l k)).map f := by rw [turnL_at f l k hk]; exact idsI_turn (hw.type hk)
  have e2 : (makT (turnL f l) k (nthI (turnL f l) k).2.2.1) = makT l k (nthI l k).2.2.1 := by
    obtain ⟨r1, r2⟩ := res_turn hw hk
    by_cases h : (nthI l k).2.2.1 = 0
    · rw [r1.2 h, h, makT_zero, makT_zero]
    · rw [r2 h]; exact mak_turn hok hs hw (occ_res hk h) k (by omega)
  unfold faultAt
  rw [e1, e2, turnL_len, made_turn hok hs hw (Nat.le_refl _) _ hoc, made_turn hok hs hw (by omega) _ hoc, ((sameP_turn hs).2 k).2]
/-- What is wrong with its ids. -/
theorem ids_turn {l : List InstT} {b b' : Int} {f : Int → Int} (hok : InstsOk l) (hs : (shapeE b l).1 = 0) (hw : WayF l b' f) (h0 : b' ≠ 0) (h1 : b' ≤ 65536) : idsE b' (turnL f l) = idsE b l := by
  have hF : ∀ n k, k + n = l.length → idsF (turnL f l) n k = idsF l n k := by
    intro n
    induction n with
    | zero => intro k _; rfl
    | succ n ih =>
      intro k hk
      rw [idsF, idsF, fault_turn hok hs hw (by omega), ih (k + 1) (by omega)]
  unfold idsE
  rw [lay_turn hs hw h0 h1, turnL_len, hF _ 0 (by omega)]

/-- Of a module whose ids are sound: who makes each. -/
theorem sound_made {l : List InstT} {b i : Int} (h : (idsE b l).1 = 0) (hi : Occ l i) : ∃ p : Nat, p < l.length ∧ makT l l.length i = some (p : Int) ∧ (nthI l p).2.2.1 = i ∧ i ≠ 0 := by
  obtain ⟨k, hk, hm⟩ := hi
  have h1 : (makT l l.length i).isSome = true := by
    unfold allI at hm
    rcases List.mem_append.1 hm with hm | hm
    · have hf := (ids_sound h).2.2 k hk
      unfold faultAt at hf
      by_cases e1 : (makT l k (nthI l k).2.2.1).isSome = true
      · rw [if_pos e1] at hf; cases hf
      · rw [if_neg e1] at hf
        by_cases e2 : allMade l l.length (idsI (nthI l k)) = false
        · rw [if_pos e2] at hf; cases hf
        · rw [Bool.not_eq_false] at e2
          unfold allMade at e2
          exact List.all_eq_true.1 e2 i hm
    · by_cases e : (nthI l k).2.2.1 = 0
      · simp [e] at hm
      · simp [e] at hm
        obtain ⟨p, hp⟩ := makT_own hk e
        rw [hm, hp]; rfl
  obtain ⟨p, hp⟩ := Option.isSome_iff_exists.1 h1
  have hr := makT_some l i _ p hp
  have ha := maker_at hp
  exact ⟨p.toNat, by omega, by rw [hp]; congr 1; omega, ha.1, ha.2⟩
theorem cnt_at {l : List InstT} {p : Nat} (h : (nthI l p).2.2.1 ≠ 0) : cntR l (p + 1) = cntR l p + 1 := by rw [cntR, if_neg h]
theorem rn_at {l : List InstT} {i : Int} {p : Nat} (h : makT l l.length i = some (p : Int)) : rnF l i = ((cntR l p + 1 : Nat) : Int) := by
  unfold rnF rnT
  rw [h]
  simp
/-- Numbered as they are made. -/
theorem rn_way {l : List InstT} {b : Int} (h : (idsE b l).1 = 0) : WayF l ((cntR l l.length + 1 : Nat) : Int) (rnF l) := by
  constructor
  · intro i hi
    obtain ⟨p, hp, hm, hr, hn⟩ := sound_made h hi
    rw [rn_at hm]
    have := cnt_at (l := l) (p := p) (by rw [hr]; exact hn)
    have := cntR_mono l (show p + 1 ≤ l.length by omega)
    exact ⟨by omega, by omega⟩
  · intro i j hi hj e
    obtain ⟨p, hp, hm, hr, hn⟩ := sound_made h hi
    obtain ⟨q, hq, hm2, hr2, hn2⟩ := sound_made h hj
    rw [rn_at hm, rn_at hm2] at e
    have c1 := cnt_at (l := l) (p := p) (by rw [hr]; exact hn)
    have c2 := cnt_at (l := l) (p := q) (by rw [hr2]; exact hn2)
    have : p = q := by
      rcases Nat.lt_trichotomy p q with h | h | h
      · have := cntR_mono l (show p + 1 ≤ q by omega); omega
      · exact h
      · have := cntR_mono l (show q + 1 ≤ p by omega); omega
    rw [← hr, ← hr2, this]

/-- What is made by the first k. -/
def resTo (l : List InstT) : Nat → List Int
  | 0 => []
  | k + 1 => if (nthI l k).2.2.1 = 0 then resTo l k else (nthI l k).2.2.1 :: resTo l k
theorem resTo_len (l : List InstT) : ∀ k, (resTo l k).length = cntR l k
  | 0 => rfl
  | k + 1 => by
    rw [resTo, cntR]
    split
    · rw [resTo_len l k]; rfl
    · rw [List.length_cons, resTo_len l k]
theorem resTo_made {l : List InstT} {i : Int} : ∀ k, i ∈ resTo l k → (makT l k i).isSome = true
  | 0, h => by cases h
  | k + 1, h => by
    rw [resTo] at h
    rw [makT]
    by_cases e : (nthI l k).2.2.1 = 0
    · rw [if_pos e] at h
      have := resTo_made k h
      rw [if_pos this]; exact this
    · rw [if_neg e] at h
      rcases List.mem_cons.1 h with rfl | h
      · split
        · assumption
        · rw [if_pos ⟨rfl, e⟩]; rfl
      · have := resTo_made k h
        rw [if_pos this]; exact this
theorem cnt_bound {l : List InstT} {b : Int} (hok : InstsOk l) (b0 : 0 ≤ b) (h : (idsE b l).1 = 0) : (cntR l l.length : Int) + 1 ≤ b := by
  obtain ⟨hl, _, hf⟩ := ids_sound h
  have hs := (layE_ok hl).2.1
  have hb := shape_bound hs
  have key : ∀ k, k ≤ l.length → (resTo l k).Nodup ∧ ∀ i ∈ resTo l k, InB b i := by
    intro k
    induction k with
    | zero => intro _; exact ⟨List.nodup_nil, fun i hi => by cases hi⟩
    | succ k ih =>
      intro hk
      obtain ⟨n1, n2⟩ := ih (by omega)
      rw [resTo]
      by_cases e : (nthI l k).2.2.1 = 0
      · rw [if_pos e]; exact ⟨n1, n2⟩
      · rw [if_neg e]
        refine ⟨List.nodup_cons.2 ⟨fun hm => ?_, n1⟩, fun i hi => ?_⟩
        · have h1 := resTo_made k hm
          rw [fresh_at (hf k (by omega))] at h1; cases h1
        · rcases List.mem_cons.1 hi with rfl | hi
          · exact (ids_in (hok k (by omega)) (shape_each hs k (by omega))).2.1 e
          · exact n2 i hi
  obtain ⟨n1, n2⟩ := key l.length (Nat.le_refl _)
  have hpos : 1 ≤ b := by have := hb.1; omega
  have := nodup_len (resTo l l.length) (upTo (b - 1).toNat) n1 (fun i hi => (upTo_mem _ _).2 (by have := n2 i hi; unfold InB at this; omega))
  rw [resTo_len, upTo_len] at this
  omega

end Go.Proofs.YtlcaedibmlidlaaGreat

/-
  A module with other ids: its functions' blocks lead where they led.
-/
namespace Go.Proofs.YtlcaedibmlidlaaGreat
open Go.RowKit
set_option linter.unusedVariables false
set_option linter.unusedSimpArgs false
set_option maxRecDepth 10000

theorem tgL_occ {l : List InstT} {k : Nat} (hk : k < l.length) : ∀ y ∈ tgL (nthI l k), Occ l y := by
  intro y hy
  unfold tgL at hy
  split at hy
  · next hf =>
    unfold tgP at hy
    obtain ⟨j, hj, rfl⟩ := List.mem_map.1 hy
    have h1 := List.mem_filter.1 hj
    have hj2 : j < (nthI l k).2.2.2.length := by simpa using h1.1
    exact ⟨k, hk, allI_arg hj2 (tg_kind hf hj2 h1.2)⟩
  · cases hy
theorem mgOf_occ {l : List InstT} {b : Int} {k : Nat} (hk : k < l.length) (h : rawE (nthI l k) b = 0) (o : Int) : ∀ y ∈ (mgOf (nthI l k).1 o (nthI l k).2.2.2).2, Occ l y := by
  intro y hy
  have hw := rawE_whole h
  unfold mgOf at hy
  by_cases h1 : (nthI l k).1 = 246
  · rw [h1, whole246.2.1] at hw
    have e0 := raw_arg h (j := 0) (by omega) (by rw [h1]; exact let246.1)
    have e1 := raw_arg h (j := 1) (by omega) (by rw [h1]; exact let246.2.1)
    rw [if_pos h1] at hy
    simp at hy
    rcases hy with rfl | rfl
    · exact ⟨k, hk, allI_arg (by omega) e0.1⟩
    · exact ⟨k, hk, allI_arg (by omega) e1.1⟩
  · rw [if_neg h1] at hy
    by_cases h2 : (nthI l k).1 = 247
    · rw [h2, whole246.2.2.2] at hw
      have e0 := raw_arg h (j := 0) (by omega) (by rw [h2]; exact let246.2.2)
      rw [if_pos h2] at hy
      split at hy
      · simp at hy; subst hy; exact ⟨k, hk, allI_arg (by omega) e0.1⟩
      · simp at hy; subst hy; exact ⟨k, hk, allI_arg (by omega) e0.1⟩
    · rw [if_neg h2] at hy; cases hy

/-- A block of a module in order: its ends, and the numbers of what it names. -/
theorem blk_turn {b b' : Int} {l : List InstT} {f : Int → Int} {g : FuncT} (hok : InstsOk l) (h : (idsE b l).1 = 0) (hw : WayF l b' f) (hg : g ∈ cutTo l l.length) {k : Nat} (hk : k < g.2.2.2.1.length) :
    (∀ d, 0 < d → d ≤ 2 → backI (turnL f l) (turnB f (nthB g.2.2.2.1 k)) d = turnX f (backI l (nthB g.2.2.2.1 k) d) ∧ ∃ q, q < l.length ∧ backI l (nthB g.2.2.2.1 k) d = nthI l q) ∧
    ∀ y, Occ l y → numG (numT (g.2.2.2.1.map (turnB f)) (g.2.2.2.1.map (turnB f)).length) (f y) = numG (numT g.2.2.2.1 g.2.2.2.1.length) y := by
  have hlay := (ids_sound h).1
  have hs := (layE_ok hlay).2.1
  have hp := (lead_prem hlay hok hg).2.2.2 k hk
  refine ⟨fun d d0 d2 => ?_, fun y hy => ?_⟩
  · have hq : (nthB g.2.2.2.1 k).2.2.toNat - d < l.length := by omega
    exact ⟨turnL_at f l _ hq, _, hq, rfl⟩
  · have hy0 := occ_ne hok hs hy
    have e : f y = tN f y := by unfold tN; rw [if_neg hy0]
    rw [e]
    refine numG_turn f _ y fun j hj he => ?_
    have hmem : nthB g.2.2.2.1 j ∈ g.2.2.2.1 := by simp [nthB, List.getD, hj]
    obtain ⟨q, hq, q1, q2, q3⟩ := blk_begin l l.length g hg _ hmem
    have hr : (nthI l q).2.2.1 ≠ 0 := rawE_res (shape_each hs q hq) q2
    rw [← q3] at he ⊢
    unfold tN at he
    rw [if_neg hy0, if_neg hr] at he
    exact hw.inj _ _ hy (occ_res hq hr) he
theorem ldN_turn {b b' : Int} {l : List InstT} {f : Int → Int} {g : FuncT} (hok : InstsOk l) (h : (idsE b l).1 = 0) (hw : WayF l b' f) (hg : g ∈ cutTo l l.length) {k : Nat} (hk : k < g.2.2.2.1.length) :
    ldN (numT (g.2.2.2.1.map (turnB f)) (g.2.2.2.1.map (turnB f)).length) (turnL f l) (turnB f (nthB g.2.2.2.1 k)) = ldN (numT g.2.2.2.1 g.2.2.2.1.length) l (nthB g.2.2.2.1 k) ∧
    (okT (numT (g.2.2.2.1.map (turnB f)) (g.2.2.2.1.map (turnB f)).length) (turnL f l) (turnB f (nthB g.2.2.2.1 k)) ↔ okT (numT g.2.2.2.1 g.2.2.2.1.length) l (nthB g.2.2.2.1 k)) := by
  obtain ⟨h1, h2⟩ := blk_turn hok h hw hg hk
  obtain ⟨e, q, hq, eq⟩ := h1 1 (by omega) (by omega)
  unfold ldN okT
  rw [e, tgL_turn, eq]
  have ho := tgL_occ hq
  refine ⟨?_, ?_⟩
  · rw [List.map_map]
    exact List.map_congr_left fun y hy => h2 y (ho y hy)
  · constructor
    · intro h3 y hy
      have := h3 (f y) (List.mem_map.2 ⟨y, hy, rfl⟩)
      rwa [h2 y (ho y hy)] at this
    · intro h3 z hz
      obtain ⟨y, hy, rfl⟩ := List.mem_map.1 hz
      rw [h2 y (ho y hy)]
      exact h3 y hy
theorem ldM_turn {b b' : Int} {l : List InstT} {f : Int → Int} {g : FuncT} (hok : InstsOk l) (h : (idsE b l).1 = 0) (hw : WayF l b' f) (hg : g ∈ cutTo l l.length) {k : Nat} (hk : k < g.2.2.2.1.length) :
    ldM (numT (g.2.2.2.1.map (turnB f)) (g.2.2.2.1.map (turnB f)).length) (turnL f l) (turnB f (nthB g.2.2.2.1 k)) = ldM (numT g.2.2.2.1 g.2.2.2.1.length) l (nthB g.2.2.2.1 k) ∧
    (okM (numT (g.2.2.2.1.map (turnB f)) (g.2.2.2.1.map (turnB f)).length) (turnL f l) (turnB f (nthB g.2.2.2.1 k)) ↔ okM (numT g.2.2.2.1 g.2.2.2.1.length) l (nthB g.2.2.2.1 k)) := by
  obtain ⟨h1, h2⟩ := blk_turn hok h hw hg hk
  obtain ⟨e1, q1, hq1, eq1⟩ := h1 1 (by omega) (by omega)
  obtain ⟨e, q, hq, eq⟩ := h1 2 (by omega) (by omega)
  have hr := shape_each (layE_ok (ids_sound h).1).2.1 q hq
  have hL : ldR (turnL f l) (turnB f (nthB g.2.2.2.1 k)) = ((ldR l (nthB g.2.2.2.1 k)).1, (ldR l (nthB g.2.2.2.1 k)).2.map f) := by
    unfold ldR
    rw [e, e1, eq]
    exact (mgOf_turn f hr (turnX f (backI l (nthB g.2.2.2.1 k) 1)).1).1
  have ho : ∀ y ∈ (ldR l (nthB g.2.2.2.1 k)).2, Occ l y := by
    unfold ldR
    rw [eq]
    exact mgOf_occ hq hr _
  unfold ldM okM
  rw [hL]
  have hm : ((ldR l (nthB g.2.2.2.1 k)).2.map f).map (numG (numT (g.2.2.2.1.map (turnB f)) (g.2.2.2.1.map (turnB f)).length)) = (ldR l (nthB g.2.2.2.1 k)).2.map (numG (numT g.2.2.2.1 g.2.2.2.1.length)) := by
    rw [List.map_map]
    exact List.map_congr_left fun y hy => h2 y (ho y hy)
  refine ⟨?_, ?_⟩
  · simp only
    rw [hm]
  · constructor
    · intro h3 y hy
      have := h3 (f y) (List.mem_map.2 ⟨y, hy, rfl⟩)
      rwa [h2 y (ho y hy)] at this
    · intro h3 z hz
      obtain ⟨y, hy, rfl⟩ := List.mem_map.1 hz
      rw [h2 y (ho y hy)]
      exact h3 y hy

theorem mem_nthB {bs : List (Int × Int × Int)} {c : Int × Int × Int} (h : c ∈ bs) : ∃ k, k < bs.length ∧ nthB bs k = c := by
  obtain ⟨k, hk, e⟩ := List.mem_iff_getElem.1 h
  exact ⟨k, hk, by simp [nthB, List.getD, hk, e]⟩
theorem ldE_turn {f : Int → Int} {F F' : Int → Option Int} {l l' : List InstT} : ∀ (bs : List (Int × Int × Int)), (∀ c ∈ bs, (okM F' l' (turnB f c) ↔ okM F l c) ∧ (okT F' l' (turnB f c) ↔ okT F l c)) → ldE F' l' (bs.map (turnB f)) = ldE F l bs
  | [], _ => rfl
  | c :: bs, h => by
    have h1 := h c (List.mem_cons_self ..)
    have ih := ldE_turn bs fun d hd => h d (List.mem_cons_of_mem _ hd)
    simp only [List.map_cons, ldE, ih]
    by_cases q1 : okM F l c
    · by_cases q2 : okT F l c
      · rw [if_neg (not_not_intro (h1.1.2 q1)), if_neg (not_not_intro (h1.2.2 q2)), if_neg (not_not_intro q1), if_neg (not_not_intro q2)]
      · rw [if_neg (not_not_intro (h1.1.2 q1)), if_pos (show ¬ okT F' l' (turnB f c) from fun h => q2 (h1.2.1 h)), if_neg (not_not_intro q1), if_pos q2]
        rfl
    · rw [if_pos (show ¬ okM F' l' (turnB f c) from fun h => q1 (h1.1.1 h)), if_pos q1]
      rfl
/-- A module with other ids has the same graphs and merges, or the same fault at the same place. -/
theorem new_turn {b b' : Int} {l : List InstT} {f : Int → Int} {g : FuncT} (hok : InstsOk l) (h : (idsE b l).1 = 0) (hw : WayF l b' f) (h0 : b' ≠ 0) (h1 : b' ≤ 65536) (hg : g ∈ cutTo l l.length) :
    newN (turnL f l) (turnFn f g) = newN l g ∧ newM (turnL f l) (turnFn f g) = newM l g ∧ newE b' (turnL f l) (turnFn f g) = newE b l g := by
  have hs := (layE_ok (ids_sound h).1).2.1
  have hi := ids_turn hok hs hw h0 h1
  have hmem : turnFn f g ∈ cutTo (turnL f l) (turnL f l).length := by
    rw [turnL_len, cut_turn f l l.length (Nat.le_refl _)]
    exact List.mem_map.2 ⟨g, hg, rfl⟩
  refine ⟨?_, ?_, ?_⟩
  · unfold newN
    show ((g.2.2.2.1.map (turnB f)).map _) = _
    rw [List.map_map]
    refine List.map_congr_left fun c hc => ?_
    obtain ⟨k, hk, rfl⟩ := mem_nthB hc
    exact (ldN_turn hok h hw hg hk).1
  · unfold newM
    show ((g.2.2.2.1.map (turnB f)).map _) = _
    rw [List.map_map]
    refine List.map_congr_left fun c hc => ?_
    obtain ⟨k, hk, rfl⟩ := mem_nthB hc
    exact (ldM_turn hok h hw hg hk).1
  · have e1 : newE b' (turnL f l) (turnFn f g) = if 4096 < (turnFn f g).2.2.2.1.length then (4, (turnFn f g).2.1) else ldE (numT (turnFn f g).2.2.2.1 (turnFn f g).2.2.2.1.length) (turnL f l) (turnFn f g).2.2.2.1 := by
      unfold newE
      rw [if_neg (by rw [hi]; simpa using h), if_neg (by simpa using hmem)]
    have e2 : newE b l g = if 4096 < g.2.2.2.1.length then (4, g.2.1) else ldE (numT g.2.2.2.1 g.2.2.2.1.length) l g.2.2.2.1 := by
      unfold newE
      rw [if_neg (by simpa using h), if_neg (by simpa using hg)]
    have hlen : (turnFn f g).2.2.2.1.length = g.2.2.2.1.length := List.length_map _
    have e := ldE_turn (f := f) (F := numT g.2.2.2.1 g.2.2.2.1.length) (F' := numT (turnFn f g).2.2.2.1 (turnFn f g).2.2.2.1.length) (l := l) (l' := turnL f l) g.2.2.2.1 (fun c hc => by
        obtain ⟨k, hk, rfl⟩ := mem_nthB hc
        exact ⟨(ldM_turn hok h hw hg hk).2, (ldN_turn hok h hw hg hk).2⟩)
    rw [e1, e2, hlen]
    split
    · rfl
    · rw [hlen] at e
      exact e

end Go.Proofs.YtlcaedibmlidlaaGreat

/-
  number of the law: the number of a label's block.
-/
namespace Go.Proofs.YtlcaedibmlidlaaGreat
open Go.RowKit
set_option linter.unusedVariables false
set_option linter.unusedSimpArgs false
set_option maxRecDepth 10000

end Go.Proofs.YtlcaedibmlidlaaGreat

/-
  CopyInst of the kit answers the instruction in new memory.
-/
namespace Go.Proofs.YtlcaedibmlidlaaGreat
open Go.RowKit

theorem CopyInst.info : (Tryz.prog.info? 105).map (fun i => (i.zero, i.size, i.bytes)) = some (some (.agg #[.int .u8 0, .int .u32 0, .string ⟨#[]⟩]), 3, 24) := by kernel_rfl

/-- The first k arguments lie in the row at g. -/
structure PartA (w : World) (g n k : Nat) (l : List ArgT) : Prop where
  row : ∃ cs : Array Value, w.heap[g]? = some (.cells cs 105 (0, 0)) ∧ cs.size = n * 3
  each : ∀ j, j < k → w.cell? ⟨g, j * 3, none⟩ = some (.int .u8 (nthA l j).1) ∧ w.cell? ⟨g, j * 3 + 1, none⟩ = some (.int .u32 (nthA l j).2.1) ∧ w.cell? ⟨g, j * 3 + 2, none⟩ = some (.string (nthA l j).2.2)

theorem cells_can {w : World} {g T : Nat} {cs : Array Value} (h : w.heap[g]? = some (.cells cs T (0, 0))) (j : Nat) (hj : j < cs.size) : (∃ v, w.cell? ⟨g, j, none⟩ = some v) ∧ w.frozen? ⟨g, j, none⟩ = false := by
  refine ⟨⟨cs[j], by simp [World.cell?, h, hj]⟩, by simp [World.frozen?, h]⟩

theorem PartA.store {w : World} {g n k : Nat} {l : List ArgT} (h : PartA w g n k l) (hk : k < n) :
    PartA (((w.setCell ⟨g, k * 3, none⟩ (.int .u8 (nthA l k).1)).setCell ⟨g, k * 3 + 1, none⟩ (.int .u32 (nthA l k).2.1)).setCell ⟨g, k * 3 + 2, none⟩ (.string (nthA l k).2.2)) g n (k + 1) l := by
  obtain ⟨⟨cs, h1, h2⟩, h3⟩ := h
  obtain ⟨W, hW⟩ : ∃ W, W = ((w.setCell ⟨g, k * 3, none⟩ (.int .u8 (nthA l k).1)).setCell ⟨g, k * 3 + 1, none⟩ (.int .u32 (nthA l k).2.1)).setCell ⟨g, k * 3 + 2, none⟩ (.string (nthA l k).2.2) := ⟨_, rfl⟩
  have hb : W.heap[g]? = some (.cells (((cs.setIfInBounds (k * 3) (.int .u8 (nthA l k).1)).setIfInBounds (k * 3 + 1) (.int .u32 (nthA l k).2.1)).setIfInBounds (k * 3 + 2) (.string (nthA l k).2.2)) 105 (0, 0)) := by
    rw [hW]; simp [World.setCell, Array.getElem?_modify, h1]
  have cell : ∀ j, W.cell? ⟨g, j, none⟩ = (((cs.setIfInBounds (k * 3) (.int .u8 (nthA l k).1)).setIfInBounds (k * 3 + 1) (.int .u32 (nthA l k).2.1)).setIfInBounds (k * 3 + 2) (.string (nthA l k).2.2))[j]? := fun j => by
    simp [World.cell?, hb]
  have old : ∀ j, w.cell? ⟨g, j, none⟩ = cs[j]? := fun j => by simp [World.cell?, h1]
  rw [← hW]
  refine ⟨⟨_, hb, by simp [h2]⟩, fun j hj => ?_⟩
  by_cases hjk : j < k
  · obtain ⟨c1, c2, c3⟩ := h3 j hjk
    rw [old] at c1 c2 c3
    refine ⟨?_, ?_, ?_⟩
    all_goals rw [cell, Array.getElem?_setIfInBounds_ne (by omega), Array.getElem?_setIfInBounds_ne (by omega), Array.getElem?_setIfInBounds_ne (by omega)]
    · exact c1
    · exact c2
    · exact c3
  · obtain rfl : j = k := by omega
    refine ⟨?_, ?_, ?_⟩
    · rw [cell, Array.getElem?_setIfInBounds_ne (by omega), Array.getElem?_setIfInBounds_ne (by omega), Array.getElem?_setIfInBounds_self_of_lt (by omega)]
    · rw [cell, Array.getElem?_setIfInBounds_ne (by omega), Array.getElem?_setIfInBounds_self_of_lt (by simp; omega)]
    · rw [cell, Array.getElem?_setIfInBounds_self_of_lt (by simp; omega)]

theorem PartA.view {w : World} {g n : Nat} {l : List ArgT} (h : PartA w g n n l) (hl : l.length = n) : ArgsV w (some ⟨g, 0, none⟩) l := by
  intro j hj
  obtain ⟨c1, c2, c3⟩ := h.each j (by omega)
  exact ⟨g, 0, rfl, World.block_lt_of_cell? _ _ c1, by rw [Nat.zero_add]; exact c1, by rw [Nat.zero_add]; exact c2, by rw [Nat.zero_add]; exact c3⟩

theorem setFar1 {w : World} {g k : Nat} {o : Obj} (h : w.heap[k]? = some o) (hne : k ≠ g) (i : Nat) (u : Value) : (w.setCell ⟨g, i, none⟩ u).heap[k]? = some o := (Below.heap_setCell _ _ _ _ (by simpa using hne)).trans h
theorem setFar3 {w : World} {g k : Nat} {o : Obj} (h : w.heap[k]? = some o) (hne : k ≠ g) (i j m : Nat) (u v x : Value) : (((w.setCell ⟨g, i, none⟩ u).setCell ⟨g, j, none⟩ v).setCell ⟨g, m, none⟩ x).heap[k]? = some o := setFar1 (setFar1 (setFar1 h hne i u) hne j v) hne m x
theorem block_cells {w : World} {B T : Nat} {cs : Array Value} (h : w.heap[B]? = some (.cells cs T (0, 0))) : (∀ i, w.cell? ⟨B, i, none⟩ = cs[i]?) ∧ (∀ i, w.frozen? ⟨B, i, none⟩ = false) := by
  refine ⟨fun i => ?_, fun i => ?_⟩
  · simp [World.cell?, h]
  · simp [World.frozen?, h]

theorem four_set {w : World} {B T : Nat} {z0 z1 z2 z3 : Value} (h : w.heap[B]? = some (.cells #[z0, z1, z2, z3] T (0, 0))) (u0 u1 u2 u3 : Value) :
    ((((w.setCell ⟨B, 0, none⟩ u0).setCell ⟨B, 1, none⟩ u1).setCell ⟨B, 2, none⟩ u2).setCell ⟨B, 3, none⟩ u3).heap[B]? = some (.cells #[u0, u1, u2, u3] T (0, 0)) := by
  simp only [World.setCell, Array.getElem?_modify, h]; simp
theorem four_below (w : World) (B : Nat) (u0 u1 u2 u3 : Value) : Below B w ((((w.setCell ⟨B, 0, none⟩ u0).setCell ⟨B, 1, none⟩ u1).setCell ⟨B, 2, none⟩ u2).setCell ⟨B, 3, none⟩ u3) :=
  ((((Below.refl B w).setCell (Nat.le_refl _) _).setCell (Nat.le_refl _) _).setCell (Nat.le_refl _) _).setCell (Nat.le_refl _) _
theorem args_far {w : World} {b off g : Nat} {l : List ArgT} (h : ArgsV w (some ⟨b, off, none⟩) l) (hg : g ≠ b) (i : Nat) (v : Value) : ArgsV (w.setCell ⟨g, i, none⟩ v) (some ⟨b, off, none⟩) l :=
  h.setCell (fun b' off' e => by cases e; exact fun h => hg h.symm) v

set_option maxRecDepth 100000 in
set_option maxHeartbeats 2000000 in
theorem copyInst_any (x : InstT) (ax : Option Addr) (n cx : Nat) (w : World) (hx : ArgsV w ax x.2.2.2) (hl : x.2.2.2.length = n) (hn : 24 * n ≤ 140737488351232) :
    Calls Tryz.prog 35 #[instV x ax n cx] w fun e w' => ∃ g, e = .returned (instV x (some ⟨g, 0, none⟩) n n) ∧ w.heap.size ≤ g ∧ ArgsV w' (some ⟨g, 0, none⟩) x.2.2.2 ∧ Below w.heap.size w w' := by
  obtain ⟨i0, hi, hz0, hz1, hz2⟩ := info_parts CopyInst.info
  obtain ⟨xo, xt, xr, xl⟩ := x
  unfold instV
  simp only at *
  have HL : Hid (xl.length = n) := hl
  clear hl
  go_enter Tryz.func35, Tryz.ntmps35
  go_wp2_with (at_make; refine wpList_make_full _ rfl _ _ 61 rfl (w.heap.size + 1) 105 i0 (.agg #[.int .u8 0, .int .u32 0, .string ⟨#[]⟩]) 3 Tryz.underlying61 hi hz0 hz1 _ _ _ _ n rfl rfl (by omega) (by omega) (by rw [hz2]; omega) (by unfold maxLen; omega) (by simp) ?_)
  intro w1 hown1 hgrow1
  have hb0 : Below w.heap.size w ((w.alloc (.cells #[.int .u16 xo, .int .u32 xt, .int .u32 xr, .slice ax n cx] 63)).alloc (.cells #[.int .u16 0, .int .u32 0, .int .u32 0, .slice none 0 0] 63)) := ((Below.refl _ w).alloc (Nat.le_refl _) _).alloc (by simp) _
  have hb1 : Below (w.heap.size + 2) ((w.alloc (.cells #[.int .u16 xo, .int .u32 xt, .int .u32 xr, .slice ax n cx] 63)).alloc (.cells #[.int .u16 0, .int .u32 0, .int .u32 0, .slice none 0 0] 63)) w1 := (Below.refl _ _).grown hgrow1 (by simp) (by simp)
  have hbox : w1.heap[w.heap.size]? = some (.cells #[.int .u16 xo, .int .u32 xt, .int .u32 xr, .slice ax n cx] 63 (0, 0)) := (hb1.block w.heap.size (by omega)).trans ((Below.heap_alloc _ _ _ (by simp)).trans (heap_alloc_new w _))
  have hres : w1.heap[w.heap.size + 1]? = some (.cells #[.int .u16 0, .int .u32 0, .int .u32 0, .slice none 0 0] 63 (0, 0)) := (hb1.block (w.heap.size + 1) (by omega)).trans (by simpa using heap_alloc_new (w.alloc (.cells #[.int .u16 xo, .int .u32 xt, .int .u32 xr, .slice ax n cx] 63)) (.cells #[.int .u16 0, .int .u32 0, .int .u32 0, .slice none 0 0] 63))
  have hP1 : PartA w1 (w.heap.size + 2) n 0 xl := by
    refine ⟨?_, fun j hj => by omega⟩
    rcases hown1.2 with ⟨h, _⟩ | ⟨g, cap', cur, h1, h2, h3, h4, h5, h6, _⟩
    · simp at h
    · simp at h1; obtain ⟨rfl, rfl⟩ := h1; exact ⟨cur, h3, h6⟩
  have hbw1 : Below w.heap.size w w1 := hb0.trans (hb1.mono (by omega))
  clear hown1 hgrow1 hb0 hb1
  go_wp2
  go_loopw [4] (fun i wr => ∃ k : Nat, k ≤ n ∧ i = .int .i64 k ∧ PartA wr (w.heap.size + 2) n k xl ∧ wr.heap[w.heap.size]? = some (.cells #[.int .u16 xo, .int .u32 xt, .int .u32 xr, .slice ax n cx] 63 (0, 0)) ∧ wr.heap[w.heap.size + 1]? = some (.cells #[.int .u16 0, .int .u32 0, .int .u32 0, .slice none 0 0] 63 (0, 0)) ∧ Below w.heap.size w wr) (fun i _ => n - (intOf i).toNat)
  case atStart => exact ⟨0, Nat.zero_le _, rfl, hP1, hbox, hres, hbw1⟩
  case round =>
    obtain ⟨k, hk, rfl, hP, hbx, hrs, hnx⟩ := hrel
    clear hP1 hbw1 hbox hres
    have hbc : wr.cell? ⟨w.heap.size, 3, none⟩ = some (.slice ax n cx) := by simp [World.cell?, hbx]
    have hsz := hnx.size
    by_cases hlt : k < n
    · obtain ⟨b, off, rfl, hbs, p1, p2, p3⟩ := hx k (by rw [HL.out]; exact hlt)
      have q1 := (hnx.cell (p := ⟨b, off + k * 3, none⟩) hbs).trans p1
      have q2 := (hnx.cell (p := ⟨b, off + k * 3 + 1, none⟩) hbs).trans p2
      have q3 := (hnx.cell (p := ⟨b, off + k * 3 + 2, none⟩) hbs).trans p3
      obtain ⟨cs, hr1, hr2⟩ := hP.row
      obtain ⟨⟨u0, d0⟩, f0⟩ := cells_can hr1 (k * 3) (by omega)
      obtain ⟨⟨u1, d1⟩, f1⟩ := cells_can hr1 (k * 3 + 1) (by omega)
      obtain ⟨⟨u2, d2⟩, f2⟩ := cells_can hr1 (k * 3 + 2) (by omega)
      have hki : (k : Int) < (n : Int) := by omega
      have hk0 : (0 : Int) ≤ (k : Int) := by omega
      have hP2 := hP.store hlt
      have HX : Hid (wr.heap[w.heap.size]? = some (.cells #[.int .u16 xo, .int .u32 xt, .int .u32 xr, .slice (some ⟨b, off, none⟩) n cx] 63 (0, 0))) := hbx
      have HP2 : Hid _ := hP2
      have HR : Hid _ := hrs
      clear hP2 hP hr1 hr2 p1 p2 p3 hx hbx hrs
      go_wp2
      go_roundw
      case rel => exact ⟨k + 1, by omega, by go_num, HP2.out, setFar3 HX.out (by omega) _ _ _ _ _ _, setFar3 HR.out (by omega) _ _ _ _ _ _, ((hnx.setCell (by show w.heap.size ≤ w.heap.size + 1 + 1; omega) _).setCell (by show w.heap.size ≤ w.heap.size + 1 + 1; omega) _).setCell (by show w.heap.size ≤ w.heap.size + 1 + 1; omega) _⟩
      case measure => simp [intOf]; omega
    · obtain rfl : k = n := by omega
      obtain ⟨hc, hf⟩ := block_cells hbx
      obtain ⟨hc', hf'⟩ := block_cells hrs
      have c0 := hc 0
      have c1 := hc 1
      have c2 := hc 2
      have r0 := hc' 0
      have r1 := hc' 1
      have r2 := hc' 2
      have r3 := hc' 3
      have hV := hP.view HL.out
      have HV : Hid _ := hV
      have HB : Hid _ := hnx
      have HX : Hid _ := hbx
      have HR : Hid _ := hrs
      clear hP hbx hrs hc hc' hx hV hnx
      go_wp2
      have hB4 := four_set (setFar1 HR.out (show w.heap.size + 1 ≠ w.heap.size by omega) 3 (.slice (some ⟨w.heap.size + 1 + 1, 0, none⟩) k k)) (.int .u16 xo) (.int .u32 xt) (.int .u32 xr) (.slice (some ⟨w.heap.size + 1 + 1, 0, none⟩) k k)
      have hBel := (HB.out.setCell (p := ⟨w.heap.size, 3, none⟩) (Nat.le_refl _) (.slice (some ⟨w.heap.size + 1 + 1, 0, none⟩) k k)).trans ((four_below (wr.setCell ⟨w.heap.size, 3, none⟩ (.slice (some ⟨w.heap.size + 1 + 1, 0, none⟩) k k)) (w.heap.size + 1) (.int .u16 xo) (.int .u32 xt) (.int .u32 xr) (.slice (some ⟨w.heap.size + 1 + 1, 0, none⟩) k k)).mono (show w.heap.size ≤ w.heap.size + 1 by omega))
      have hV2 := args_far HV.out (show w.heap.size ≠ w.heap.size + 2 by omega) 3 (.slice (some ⟨w.heap.size + 1 + 1, 0, none⟩) k k)
      have hV3 := args_far (args_far (args_far (args_far hV2 (show w.heap.size + 1 ≠ w.heap.size + 2 by omega) 0 (.int .u16 xo)) (show w.heap.size + 1 ≠ w.heap.size + 2 by omega) 1 (.int .u32 xt)) (show w.heap.size + 1 ≠ w.heap.size + 2 by omega) 2 (.int .u32 xr)) (show w.heap.size + 1 ≠ w.heap.size + 2 by omega) 3 (.slice (some ⟨w.heap.size + 1 + 1, 0, none⟩) k k)
      clear hV2 HV HB HR HX c0 c1 c2 r0 r1 r2 r3 hf hf'
      generalize ((((wr.setCell _ _).setCell _ _).setCell _ _).setCell _ _).setCell _ _ = W at hB4 hBel hV3 ⊢
      obtain ⟨hd, _⟩ := block_cells hB4
      have d0 := hd 0
      have d1 := hd 1
      have d2 := hd 2
      have d3 := hd 3
      refine bodyPost_ret (v := .agg #[.int .u16 xo, .int .u32 xt, .int .u32 xr, .slice (some ⟨w.heap.size + 1 + 1, 0, none⟩) k k]) ?_ rfl ⟨w.heap.size + 1 + 1, rfl, by omega, hV3, hBel⟩
      simp [results, Tryz.results35, go_sem, d0, d1, d2, d3]

end Go.Proofs.YtlcaedibmlidlaaGreat
