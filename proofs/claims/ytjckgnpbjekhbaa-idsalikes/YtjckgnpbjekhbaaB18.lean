/-
  Texts laid together in one: MathAs, LawIdsAlikes.
-/
import Derived.WalkSpells
import Derived.Test.YtjckgnpbjekhbaaB16
import Derived.Test.YtjckgnpbjekhbaaB17
import Derived.WalkMore
import Derived.BigRegion
import Derived.Test.YtjckgnpbjekhbaaProg
import Derived.Test.YtjckgnpbjekhbaaB01
import Derived.Test.YtjckgnpbjekhbaaB02
import Derived.Test.YtjckgnpbjekhbaaB10
/-
  What the program's Alike tells, and what the document's tells: plain facts on the pairs of both.
-/
namespace Go.Proofs.Ytjckgnpbjekhbaa
open Go.RowKit
set_option linter.unusedVariables false
set_option linter.unusedSimpArgs false

/-- One to one holds of what lies within. -/
theorem Bij.within {l m : List (Int × Int)} (h : Bij m) (hs : ∀ x ∈ l, x ∈ m) : Bij l := fun p hp q hq => h p (hs p hp) q (hs q hq)
theorem nzTo_zip {p q : List Int} (h : p.length = q.length) : ∀ k, k ≤ p.length → nzTo p q k = ((p.zip q).take k).filter (fun x => x.1 != 0) := by
  intro k
  induction k with
  | zero => intro _; simp [nzTo]
  | succ k ih =>
    intro hk
    rw [zip_take_succ h (by omega), List.filter_append, nzTo, ih (by omega)]
    by_cases e : nth p k = 0
    · rw [if_pos e]; simp [e]
    · rw [if_neg e]; simp [e]
/-- The pairs of one instruction. -/
theorem mem_pairTo {l m : List InstT} {x : Int × Int} : ∀ n, x ∈ pairTo l m n ↔ ∃ k, k < n ∧ x ∈ (allI (nthI l k)).zip (allI (nthI m k)) := by
  intro n
  induction n with
  | zero => simp [pairTo]
  | succ n ih =>
    rw [pairTo, List.mem_append, ih]
    constructor
    · rintro (⟨k, hk, h⟩ | h)
      · exact ⟨k, by omega, h⟩
      · exact ⟨n, by omega, h⟩
    · rintro ⟨k, hk, h⟩
      by_cases e : k = n
      · subst e; exact .inr h
      · exact .inl ⟨k, by omega, h⟩
/-- The ids among arguments that are the same but for ids: as many, at the same places. -/
theorem sk_args : ∀ (a b : List ArgT), a.length = b.length → (∀ j, j < a.length → SkA (nthA a j) (nthA b j)) → (a.flatMap idsA).length = (b.flatMap idsA).length
  | [], b, h, _ => by
    have : b = [] := List.length_eq_zero_iff.1 (by simpa using h.symm)
    subst this; rfl
  | x :: a, [], h, _ => by simp at h
  | x :: a, y :: b, h, hs => by
    have h0 := hs 0 (by simp)
    have ih := sk_args a b (by simpa using h) (fun j hj => by have := hs (j + 1) (by simpa using hj); simpa [nthA] using this)
    have e : (idsA x).length = (idsA y).length := by
      have : x.1 = y.1 := by simpa [nthA] using h0.1
      unfold idsA; rw [this]; split <;> rfl
    rw [List.flatMap_cons, List.flatMap_cons, List.length_append, List.length_append, ih, e]
theorem sk_allD {x y : InstT} (h : SkI x y) : (allD x).length = (allD y).length := by
  unfold allD allK
  rw [List.take_length, List.take_length, List.length_append, List.length_append, sk_args _ _ h.2.1 h.2.2]
  rfl
theorem sk_allTo {l m : List InstT} (hl : l.length = m.length) : ∀ n, n ≤ l.length → SkL l m n → (allTo l n).length = (allTo m n).length ∧ ∀ z, z ∈ (allTo l n).zip (allTo m n) ↔ ∃ k, k < n ∧ z ∈ (allD (nthI l k)).zip (allD (nthI m k)) := by
  intro n
  induction n with
  | zero => intro _ _; simp [allTo]
  | succ n ih =>
    intro hn hs
    obtain ⟨i1, i2⟩ := ih (by omega) (fun i hi => hs i (by omega))
    have e := sk_allD (hs n (by omega))
    rw [allTo_succ l n (by omega), allTo_succ m n (by omega)]
    refine ⟨by rw [List.length_append, List.length_append, i1, e], fun z => ?_⟩
    rw [List.zip_append i1, List.mem_append, i2]
    constructor
    · rintro (⟨k, hk, h⟩ | h)
      · exact ⟨k, by omega, h⟩
      · exact ⟨n, by omega, h⟩
    · rintro ⟨k, hk, h⟩
      by_cases e : k = n
      · subst e; exact .inr h
      · exact .inl ⟨k, by omega, h⟩
/-- The ids of an instruction beside those of one that is the same but for ids, zeros at the same places. -/
theorem zip_allI {x y : InstT} (h : SkI x y) (ht : x.2.1 = 0 ↔ y.2.1 = 0) (hr : x.2.2.1 = 0 ↔ y.2.2.1 = 0) : (allI x).length = (allI y).length ∧ (allI x).zip (allI y) = (if x.2.1 = 0 then [] else [(x.2.1, y.2.1)]) ++ ((x.2.2.2.flatMap idsA).zip (y.2.2.2.flatMap idsA)) ++ (if x.2.2.1 = 0 then [] else [(x.2.2.1, y.2.2.1)]) := by
  have e := sk_args _ _ h.2.1 h.2.2
  unfold allI idsI idsTo
  rw [List.take_length, List.take_length]
  by_cases h1 : x.2.1 = 0
  · have h1' := ht.1 h1
    by_cases h2 : x.2.2.1 = 0
    · have h2' := hr.1 h2
      simp [h1, h1', h2, h2', e]
    · have h2' : ¬ y.2.2.1 = 0 := fun e => h2 (hr.2 e)
      simp only [if_pos h1, if_pos h1', if_neg h2, if_neg h2', List.nil_append]
      exact ⟨by simp [e], by rw [List.zip_append e]; rfl⟩
  · have h1' : ¬ y.2.1 = 0 := fun e => h1 (ht.2 e)
    by_cases h2 : x.2.2.1 = 0
    · have h2' := hr.1 h2
      simp [h1, h1', h2, h2', e]
    · have h2' : ¬ y.2.2.1 = 0 := fun e => h2 (hr.2 e)
      simp only [if_neg h1, if_neg h1', if_neg h2, if_neg h2']
      exact ⟨by simp [e], by rw [List.zip_append (by simp [e])]; rfl⟩
theorem zip_allD {x y : InstT} : (allD x).zip (allD y) = (x.2.1, y.2.1) :: (x.2.2.1, y.2.2.1) :: (x.2.2.2.flatMap idsA).zip (y.2.2.2.flatMap idsA) := by
  unfold allD allK
  rw [List.take_length, List.take_length]
  rfl
theorem sk_at : ∀ (a b : List ArgT), a.length = b.length → (∀ j, j < a.length → SkA (nthA a j) (nthA b j)) → ∀ j, j < a.length → (nthA a j).1 = 1 → ((nthA a j).2.1, (nthA b j).2.1) ∈ (a.flatMap idsA).zip (b.flatMap idsA)
  | [], b, h, _, j, hj, _ => by simp at hj
  | x :: a, [], h, _, j, hj, _ => by simp at h
  | x :: a, y :: b, h, hs, j, hj, h1 => by
    have h0 : x.1 = y.1 := by have := (hs 0 (by simp)).1; simpa [nthA] using this
    have e : (idsA x).length = (idsA y).length := by unfold idsA; rw [h0]; split <;> rfl
    rw [List.flatMap_cons, List.flatMap_cons, List.zip_append e, List.mem_append]
    cases j with
    | zero =>
      left
      have hx : x.1 = 1 := by simpa [nthA] using h1
      have hy : y.1 = 1 := by rw [← h0]; exact hx
      simp [nthA, idsA, hx, hy]
    | succ j =>
      right
      have := sk_at a b (by simpa using h) (fun j hj => by have := hs (j + 1) (by simpa using hj); simpa [nthA] using this) j (by simpa using hj) (by simpa [nthA] using h1)
      simpa [nthA] using this
theorem zip_at {p q : List Int} {z : Int × Int} (h : z ∈ p.zip q) : ∃ i, i < p.length ∧ i < q.length ∧ z = (nth p i, nth q i) := by
  obtain ⟨i, hi, rfl⟩ := List.mem_iff_getElem.1 h
  rw [List.length_zip] at hi
  refine ⟨i, by omega, by omega, ?_⟩
  simp [nth, List.getElem_zip, List.getD_eq_getElem?_getD, List.getElem?_eq_getElem (show i < p.length by omega), List.getElem?_eq_getElem (show i < q.length by omega)]
theorem ref_prog {ga ba gb bb : Int} {l m : List InstT} (hoa : InstsOk l) (hob : InstsOk m) (h : RefC ga ba gb bb l m) : AlikeC ga ba gb bb l m := by
  obtain ⟨s1, s2, hg, hl, hS, hP, hZ, hB⟩ := h
  rw [← hl] at hP hZ hB
  obtain ⟨_, hmem⟩ := sk_allTo hl l.length (Nat.le_refl _) hS
  have hzz : ∀ z ∈ (allTo l l.length).zip (allTo m l.length), (z.1 = 0 ↔ z.2 = 0) := fun z hz => by
    obtain ⟨i, h1, h2, rfl⟩ := zip_at hz
    exact hZ i h1
  rw [nzTo_zip hP _ (Nat.le_refl _), List.take_of_length_le (by rw [List.length_zip]; omega)] at hB
  have hin : ∀ k, k < l.length → ∀ z ∈ (allD (nthI l k)).zip (allD (nthI m k)), z ∈ (allTo l l.length).zip (allTo m l.length) := fun k hk z hz => (hmem z).2 ⟨k, hk, hz⟩
  have ht : ∀ k, k < l.length → ((nthI l k).2.1 = 0 ↔ (nthI m k).2.1 = 0) := fun k hk => hzz _ (hin k hk ((nthI l k).2.1, (nthI m k).2.1) (by rw [zip_allD]; simp))
  have hr : ∀ k, k < l.length → ((nthI l k).2.2.1 = 0 ↔ (nthI m k).2.2.1 = 0) := fun k hk => hzz _ (hin k hk ((nthI l k).2.2.1, (nthI m k).2.2.1) (by rw [zip_allD]; simp))
  have hsub : ∀ z ∈ pairTo l m l.length, z ∈ ((allTo l l.length).zip (allTo m l.length)).filter (fun x => x.1 != 0) := fun z hz => by
    obtain ⟨k, hk, hzk⟩ := (mem_pairTo _).1 hz
    have hne : z.1 ≠ 0 := by have := (allI_in (hoa k hk) (shape_each s1 k hk) z.1 (List.of_mem_zip (a := z.1) (b := z.2) hzk).1).1; omega
    rw [List.mem_filter]
    refine ⟨hin k hk z ?_, by simpa using hne⟩
    rw [(zip_allI (hS k hk) (ht k hk) (hr k hk)).2] at hzk
    rw [zip_allD]
    rcases List.mem_append.1 hzk with h | h
    · rcases List.mem_append.1 h with h | h
      · split at h
        · simp at h
        · rw [List.mem_singleton] at h; rw [h]; simp
      · exact List.mem_cons_of_mem _ (List.mem_cons_of_mem _ h)
    · split at h
      · simp at h
      · rw [List.mem_singleton] at h; rw [h]; simp
  have hBp := hB.within hsub
  have hbes : ∀ k, k < l.length → ∀ a b, (a, b) ∈ (allI (nthI l k)).zip (allI (nthI m k)) → besF l m a = b := fun k hk a b hab => by
    unfold besF
    rw [thF_mem hBp ((mem_pairTo _).2 ⟨k, hk, hab⟩)]
    rfl
  refine ⟨s1, s2, hl, ⟨fun k hk => (zip_allI (hS k hk) (ht k hk) (hr k hk)).1, hBp⟩, hg, ?_⟩
  apply List.ext_getElem (by simp [turnL, hl])
  intro k h1 h2
  have hk : k < l.length := by simpa [turnL] using h1
  have ez := (zip_allI (hS k hk) (ht k hk) (hr k hk)).2
  have hk2 := hbes k hk
  have hs := hS k hk
  have htk := ht k hk
  have hrk := hr k hk
  rw [ez] at hk2
  rw [nthI_lt _ _ hk, nthI_lt _ _ h2] at hk2 hs htk hrk
  simp only [turnL, List.getElem_map]
  generalize l[k] = x at *
  generalize m[k] = y at *
  obtain ⟨xo, xt, xr, xl⟩ := x
  obtain ⟨yo, yt, yr, yl⟩ := y
  simp only at *
  unfold turnX
  simp only [Prod.mk.injEq]
  refine ⟨hs.1, ?_, ?_, ?_⟩
  · unfold tN
    by_cases e : xt = 0
    · rw [if_pos e]; exact (htk.1 e).symm
    · rw [if_neg e]; exact hk2 _ _ (by simp [e])
  · unfold tN
    by_cases e : xr = 0
    · rw [if_pos e]; exact (hrk.1 e).symm
    · rw [if_neg e]; exact hk2 _ _ (by simp [e])
  · have hlen : xl.length = yl.length := hs.2.1
    apply List.ext_getElem (by simp [hlen])
    intro j j1 j2
    have hj : j < xl.length := by simpa using j1
    have hA := hs.2.2 j hj
    have hat := fun h => sk_at xl yl hlen hs.2.2 j hj h
    simp only at hA hat
    rw [nthA_lt _ _ hj, nthA_lt _ _ j2] at hA hat
    rw [List.getElem_map]
    generalize xl[j] = a at *
    generalize yl[j] = b at *
    obtain ⟨a1, a2, a3⟩ := a
    obtain ⟨b1, b2, b3⟩ := b
    obtain ⟨q1, q2, q3⟩ := hA
    simp only at *
    subst q1 q2
    unfold tA
    by_cases e : a1 = 1
    · rw [if_pos e, hk2 a2 b2 (by simp only [List.mem_append]; exact .inl (.inr (hat e)))]
    · rw [if_neg e, q3 e]
theorem zip_map_at {g : Int → Int} : ∀ {p : List Int} {z : Int × Int}, z ∈ p.zip (p.map g) → z.1 ∈ p ∧ z.2 = g z.1
  | [], z, h => by simp at h
  | x :: p, z, h => by
    rw [List.map_cons, List.zip_cons_cons, List.mem_cons] at h
    rcases h with rfl | h
    · exact ⟨by simp, rfl⟩
    · have := zip_map_at h
      exact ⟨List.mem_cons_of_mem _ this.1, this.2⟩
theorem args_turn {f : Int → Int} : ∀ (a : List ArgT), (∀ z ∈ a.flatMap idsA, z ≠ 0) → (a.map (tA f)).flatMap idsA = (a.flatMap idsA).map (tN f)
  | [], _ => rfl
  | x :: a, h => by
    have ih := args_turn (f := f) a (fun z hz => h z (by rw [List.flatMap_cons]; exact List.mem_append_right _ hz))
    rw [List.map_cons, List.flatMap_cons, List.flatMap_cons, List.map_append, ih]
    congr 1
    by_cases e : x.1 = 1
    · have h0 := h x.2.1 (by rw [List.flatMap_cons]; apply List.mem_append_left; simp [idsA, e])
      simp [tA, idsA, e, tN, h0]
    · simp [tA, idsA, e]
theorem allD_turn {f : Int → Int} {x : InstT} (h : ∀ z ∈ x.2.2.2.flatMap idsA, z ≠ 0) : allD (turnX f x) = (allD x).map (tN f) := by
  unfold allD allK
  rw [List.take_length, List.take_length, List.map_append]
  have := args_turn (f := f) x.2.2.2 h
  simp only [turnX] at *
  rw [this]
  rfl
theorem prog_ref {ga ba gb bb : Int} {l m : List InstT} (hoa : InstsOk l) (hob : InstsOk m) (h : AlikeC ga ba gb bb l m) : RefC ga ba gb bb l m := by
  obtain ⟨s1, s2, hl, ⟨hLen, hB⟩, hg, hT⟩ := h
  have hat : ∀ k, k < l.length → nthI m k = turnX (besF l m) (nthI l k) := fun k hk => by
    have hk2 : k < m.length := by omega
    rw [nthI_lt _ _ hk, nthI_lt _ _ hk2]
    have : m[k] = (turnL (besF l m) l)[k]'(by simpa [turnL] using hk) := by simp only [hT]
    rw [this]; simp [turnL]
  have hS : SkL l m l.length := fun k hk => by
    rw [hat k hk]
    refine ⟨rfl, by simp [turnX], fun j hj => ?_⟩
    have hj2 : j < ((nthI l k).2.2.2.map (tA (besF l m))).length := by simpa using hj
    show SkA _ (nthA ((nthI l k).2.2.2.map (tA (besF l m))) j)
    rw [nthA_lt _ _ hj2, nthA_lt _ _ hj, List.getElem_map]
    unfold tA
    by_cases e : (nthI l k).2.2.2[j].1 = 1
    · rw [if_pos e]; exact ⟨rfl, rfl, fun h => absurd e h⟩
    · rw [if_neg e]; exact ⟨rfl, rfl, fun _ => rfl⟩
  obtain ⟨hP, hmem⟩ := sk_allTo hl l.length (Nat.le_refl _) hS
  have key : ∀ z ∈ (allTo l l.length).zip (allTo m l.length), (z.1 = 0 ∧ z.2 = 0) ∨ (z.1 ≠ 0 ∧ z.2 ≠ 0 ∧ z ∈ pairTo l m l.length) := fun z hz => by
    obtain ⟨k, hk, hzk⟩ := (hmem z).1 hz
    have hI := allI_in (hoa k hk) (shape_each s1 k hk)
    have hJ := allI_in (hob k (by omega)) (shape_each s2 k (by omega))
    have hids : ∀ y ∈ (nthI l k).2.2.2.flatMap idsA, y ∈ allI (nthI l k) := fun y hy => by
      unfold allI idsI idsTo
      rw [List.take_length]
      exact List.mem_append_left _ (List.mem_append_right _ hy)
    have hD := allD_turn (f := besF l m) (x := nthI l k) (fun y hy => by have := (hI y (hids y hy)).1; omega)
    rw [hat k hk, hD] at hzk
    obtain ⟨h1, h2⟩ := zip_map_at hzk
    by_cases e : z.1 = 0
    · left; exact ⟨e, by rw [h2, e]; rfl⟩
    · right
      have hin : z.1 ∈ allI (nthI l k) := by
        rcases mem_allD h1 with h | h | ⟨j, hj, hk1, h⟩
        · unfold allI idsI idsTo
          rw [h] at e ⊢
          simp [e]
        · unfold allI
          rw [h] at e ⊢
          simp [e]
        · refine hids _ ?_
          rw [h, List.mem_flatMap]
          refine ⟨nthA (nthI l k).2.2.2 j, ?_, by simp [idsA, hk1]⟩
          rw [nthA_lt _ _ hj]; exact List.getElem_mem hj
      obtain ⟨i, hi, hie⟩ := List.mem_iff_getElem.1 hin
      have hi2 : i < (allI (nthI m k)).length := by rw [← hLen k hk]; exact hi
      have hp : (z.1, (allI (nthI m k))[i]) ∈ (allI (nthI l k)).zip (allI (nthI m k)) := by
        refine List.mem_iff_getElem.2 ⟨i, by rw [List.length_zip]; omega, ?_⟩
        rw [List.getElem_zip, hie]
      have hpt := (mem_pairTo (l := l) (m := m) l.length).2 ⟨k, hk, hp⟩
      have hbe : besF l m z.1 = (allI (nthI m k))[i] := by unfold besF; rw [thF_mem hB hpt]; rfl
      have hz2 : z.2 = (allI (nthI m k))[i] := by rw [h2, tN, if_neg e, hbe]
      have hpos := (hJ _ (List.getElem_mem hi2)).1
      refine ⟨e, by rw [hz2]; omega, ?_⟩
      have : z = (z.1, (allI (nthI m k))[i]) := by rw [← hz2]
      rw [this]; exact hpt
  refine ⟨s1, s2, hg, hl, hS, by rw [← hl]; exact hP, ?_, ?_⟩
  · rw [← hl]
    intro i hi
    have hz : (nth (allTo l l.length) i, nth (allTo m l.length) i) ∈ (allTo l l.length).zip (allTo m l.length) := by
      have hi2 : i < (allTo m l.length).length := by omega
      refine List.mem_iff_getElem.2 ⟨i, by rw [List.length_zip]; omega, ?_⟩
      simp [nth, List.getElem_zip, List.getD_eq_getElem?_getD, List.getElem?_eq_getElem hi, List.getElem?_eq_getElem hi2]
    rcases key _ hz with ⟨h1, h2⟩ | ⟨h1, h2, _⟩
    · exact ⟨fun _ => h2, fun _ => h1⟩
    · exact ⟨fun h => absurd h h1, fun h => absurd h h2⟩
  · rw [← hl, nzTo_zip hP _ (Nat.le_refl _), List.take_of_length_le (by rw [List.length_zip]; omega)]
    refine hB.within (fun z hz => ?_)
    rw [List.mem_filter] at hz
    rcases key _ hz.1 with ⟨h1, _⟩ | ⟨_, _, h3⟩
    · simp [h1] at hz
    · exact h3
theorem alike_same {ga ba gb bb : Int} {l m : List InstT} (hoa : InstsOk l) (hob : InstsOk m) : AlikeC ga ba gb bb l m ↔ RefC ga ba gb bb l m := ⟨prog_ref hoa hob, ref_prog hoa hob⟩

end Go.Proofs.Ytjckgnpbjekhbaa

/-
  The law IdsAlikes: every Alike.
-/
namespace Go.Proofs.Ytjckgnpbjekhbaa
open Go.RowKit
set_option linter.unusedVariables false
set_option linter.unusedSimpArgs false
set_option maxRecDepth 10000

set_option maxHeartbeats 4000000 in
theorem idsAlikes_true (w : World) (ga ba : Int) (aa : Option Addr) (na ca : Nat) (l : List InstT) (hla : l.length = na) (hva : InstsV w aa l) (hoa : InstsOk l) (hna : 40 * na ≤ 140737488351232) (hca : na ≤ ca) (hga : 0 ≤ ga ∧ ga < 4294967296 ∧ 0 ≤ ba ∧ ba < 4294967296)
    (gb bb : Int) (ab : Option Addr) (nb cb : Nat) (m : List InstT) (hlb : m.length = nb) (hvb : InstsV w ab m) (hob : InstsOk m) (hnb : 40 * nb ≤ 140737488351232) (hcb : nb ≤ cb) (hgb : 0 ≤ gb ∧ gb < 4294967296 ∧ 0 ≤ bb ∧ bb < 4294967296) :
    Calls Try.prog 3 #[.agg #[.int .u32 ga, .int .u32 ba, .slice aa na ca], .agg #[.int .u32 gb, .int .u32 bb, .slice ab nb cb]] w fun e w' => e = .returned (.bool true) ∧ Below w.heap.size w w' := by
  obtain ⟨ga0, ga1, ba0, ba1⟩ := hga
  obtain ⟨gb0, gb1, bb0, bb1⟩ := hgb
  obtain ⟨r, hr⟩ : ∃ r : Bool, r = true ↔ AlikeC ga ba gb bb l m := by
    by_cases h : AlikeC ga ba gb bb l m
    · exact ⟨true, by simp [h]⟩
    · exact ⟨false, by simp [h]⟩
  have HCA := hide fun wx (hb : Below w.heap.size w wx) => copyModule_any ga ba aa na ca l wx (hva.below hb) hoa hla hna
  have HCB := hide fun wx (hb : Below w.heap.size w wx) => copyModule_any gb bb ab nb cb m wx (hvb.below hb) hob hlb hnb
  have HAL := hide fun wx (x y : Option Addr) (h1 : InstsV wx x l) (h2 : InstsV wx y m) => idsAlike_any ga ba gb bb l m x y na nb na nb wx h1 h2 hoa hob hla hlb hna hnb ga0 ga1 ba0 ba1 gb0 gb1 bb0 bb1 r hr
  have HRA := hide fun wx (hb : Below w.heap.size w wx) => refAlike9_any ga ba gb bb l m aa ab na nb ca cb wx (hva.below hb) (hvb.below hb) hoa hob hla hlb hna hnb ba0 ba1 bb0 bb1 r (hr.trans (alike_same hoa hob))
  have HA0 : Hid (AlB w ((w.alloc (.cells #[.int .u32 ga, .int .u32 ba, .slice aa na ca] 25)).alloc (.cells #[.int .u32 gb, .int .u32 bb, .slice ab nb cb] 25)) ga ba gb bb aa ab na nb ca cb) := by
    refine ⟨?_, ?_, ((Below.refl _ w).alloc (Nat.le_refl _) _).alloc (by simp) _⟩
    · rw [Below.heap_alloc _ _ _ (by simp)]; exact heap_alloc_new _ _
    · have := heap_alloc_new (w.alloc (.cells #[.int .u32 ga, .int .u32 ba, .slice aa na ca] 25)) (.cells #[.int .u32 gb, .int .u32 bb, .slice ab nb cb] 25); simpa using this
  unfold modV at *
  clear hr hva hvb hoa hob hla hlb
  go_enter Try.func3, Try.ntmps3
  go_wp2_with fail
  generalize (w.alloc (.cells #[.int .u32 ga, .int .u32 ba, .slice aa na ca] 25)).alloc (.cells #[.int .u32 gb, .int .u32 bb, .slice ab nb cb] 25) = W4 at *
  have LC : Hid (∀ w', Below W4.heap.size W4 w' → w'.cell? ⟨w.heap.size, 0, none⟩ = some (.int .u32 ga) ∧ w'.cell? ⟨w.heap.size, 1, none⟩ = some (.int .u32 ba) ∧ w'.cell? ⟨w.heap.size, 2, none⟩ = some (.slice aa na ca) ∧ w'.cell? ⟨w.heap.size + 1, 0, none⟩ = some (.int .u32 gb) ∧ w'.cell? ⟨w.heap.size + 1, 1, none⟩ = some (.int .u32 bb) ∧ w'.cell? ⟨w.heap.size + 1, 2, none⟩ = some (.slice ab nb cb)) := fun w' h => by
    have hh := HA0.out.below h
    exact ⟨(one_block hh.abox).1 0, (one_block hh.abox).1 1, (one_block hh.abox).1 2, (one_block hh.bbox).1 0, (one_block hh.bbox).1 1, (one_block hh.bbox).1 2⟩
  have hC0 : Below W4.heap.size W4 W4.drew := below_drew W4
  have hmix : Try.prog.follows .mixedOrders = true := by kernel_rfl
  refine (wpIn_wide (n := 0)).1 ?_
  refine wpIn_normal (wpIn_region_any hmix (wpAnyE_sound (C := Below W4.heap.size W4) (E := fun _ => false) _ _ _ _ ?_))
  change wpAnyE _ _ _ _ _ _ _ _ _ _ _ (World.drew _)
  refine wpAnyE_takeD (i := 0) (some 5) (v := (.agg #[.int .u32 ga, .int .u32 ba, .slice aa na ca])) (fun _ => trivial) (by kernel_rfl) rfl rfl (by kernel_rfl) (by kernel_rfl) (by kernel_rfl) (by kernel_rfl) (fun _ _ _ h => by cases h.1) hC0 (Or.inl ⟨by rfl, fun w' hC => by obtain ⟨e1, e2, e3, e4, e5, e6⟩ := LC.out w' hC; clear hC; go_simp⟩) ?_
  simp only [Act.put, List.setIfInBounds_toArray, List.set_cons_succ, List.set_cons_zero]
  refine wpAnyE_takeD (i := 2) (some 7) (v := (.agg #[.int .u32 gb, .int .u32 bb, .slice ab nb cb])) (fun _ => trivial) (by kernel_rfl) rfl rfl (by kernel_rfl) (by kernel_rfl) (by kernel_rfl) (by kernel_rfl) (fun _ _ _ h => by cases h.1) hC0 (Or.inl ⟨by rfl, fun w' hC => by obtain ⟨e1, e2, e3, e4, e5, e6⟩ := LC.out w' hC; clear hC; go_simp⟩) ?_
  simp only [Act.put, List.setIfInBounds_toArray, List.set_cons_succ, List.set_cons_zero]
  refine wpAnyE_takeD (i := 5) (some 10) (v := (.agg #[.int .u32 ga, .int .u32 ba, .slice aa na ca])) (fun _ => trivial) (by kernel_rfl) rfl rfl (by kernel_rfl) (by kernel_rfl) (by kernel_rfl) (by kernel_rfl) (fun _ _ _ h => by cases h.1) hC0 (Or.inl ⟨by rfl, fun w' hC => by obtain ⟨e1, e2, e3, e4, e5, e6⟩ := LC.out w' hC; clear hC; go_simp⟩) ?_
  simp only [Act.put, List.setIfInBounds_toArray, List.set_cons_succ, List.set_cons_zero]
  refine wpAnyE_takeD (i := 6) (some 11) (v := (.agg #[.int .u32 gb, .int .u32 bb, .slice ab nb cb])) (fun _ => trivial) (by kernel_rfl) rfl rfl (by kernel_rfl) (by kernel_rfl) (by kernel_rfl) (by kernel_rfl) (fun _ _ _ h => by cases h.1) hC0 (Or.inl ⟨by rfl, fun w' hC => by obtain ⟨e1, e2, e3, e4, e5, e6⟩ := LC.out w' hC; clear hC; go_simp⟩) ?_
  simp only [Act.put, List.setIfInBounds_toArray, List.set_cons_succ, List.set_cons_zero]
  refine wpAnyE_ready (rs := [1]) (by kernel_rfl) (by simp) ?_
  refine AllE.cons rfl (fun Kk hK => ?_) AllE.nil
  go_simp
  refine ⟨trivial, rfl, (callsIn_wide.2 (HCA.out W4.drew (HA0.out.below hC0).bel)).mono ?_⟩
  rintro e w5 ⟨g, rfl, hg, hV5, hb5⟩
  dsimp only
  have hC5 : Below W4.heap.size W4 w5 := hC0.trans (show Below W4.heap.size W4.drew w5 from hb5)
  refine hK _ _ (.inr hC5) ?_
  clear hK Kk
  refine wpAnyE_ready (rs := [3]) (by kernel_rfl) (by simp) ?_
  refine AllE.cons rfl (fun Kk hK => ?_) AllE.nil
  go_simp
  refine ⟨trivial, rfl, (callsIn_wide.2 (HCB.out w5 (HA0.out.below hC5).bel)).mono ?_⟩
  rintro e w6 ⟨g', rfl, hg', hV6, hb6⟩
  dsimp only
  have hC6 : Below W4.heap.size W4 w6 := hC5.trans (hb6.mono hC5.size)
  refine hK _ _ (.inr hC6) ?_
  clear hK Kk
  refine wpAnyE_ready (rs := [4]) (by kernel_rfl) (by simp) ?_
  refine AllE.cons rfl (fun Kk hK => ?_) AllE.nil
  go_simp
  refine ⟨trivial, rfl, (callsIn_wide.2 (HAL.out w6 (some ⟨g, 0, none⟩) (some ⟨g', 0, none⟩) (hV5.below hb6) hV6)).mono ?_⟩
  rintro e w7 ⟨rfl, hb7⟩
  dsimp only
  have hC7 : Below W4.heap.size W4 w7 := hC6.trans (hb7.mono hC6.size)
  refine hK _ _ (.inr hC7) ?_
  clear hK Kk
  refine wpAnyE_ready (rs := [7]) (by kernel_rfl) (by simp) ?_
  refine AllE.cons rfl (fun Kk hK => ?_) AllE.nil
  go_simp
  refine ⟨trivial, rfl, (callsIn_wide.2 (HRA.out w7 (HA0.out.below hC7).bel)).mono ?_⟩
  rintro e w8 ⟨rfl, hb8⟩
  dsimp only
  have hC8 : Below W4.heap.size W4 w8 := hC7.trans (hb8.mono hC7.size)
  refine hK _ _ (.inr hC8) ?_
  clear hK Kk
  have hrr : (r == r) = true := by simp
  refine wpAnyE_ready (rs := [8]) (by kernel_rfl) (by simp) ?_
  refine AllE.cons rfl (fun Kk hK => ?_) AllE.nil
  go_simp
  refine hK _ _ (.inr hC8) ?_
  clear hK Kk
  refine wpAnyE_ready (rs := [9]) (by kernel_rfl) (by simp) ?_
  refine AllE.cons rfl (fun Kk hK => ?_) AllE.nil
  go_simp
  refine hK _ _ (.inr hC8) ?_
  clear hK Kk
  refine wpAnyE_done (by kernel_rfl) ⟨rfl, ?_⟩ _
  have HBE := hide (HA0.out.below hC8).bel
  clear hC0 hC5 hC6 hC7 hC8 hb5 hb6 hb7 hb8 LC
  rw [then_normalP]
  go_wp2_with fail
  go_ret
  exact ⟨by first | rfl | simp, HBE.out⟩

end Go.Proofs.Ytjckgnpbjekhbaa
