/-
  Plain arithmetic for the layer of frames: where the instructions of words lie. No condition but the bounds that each lemma names.
-/
import Derived.Test.YtjmjopjeggadiaaMath
namespace Go.Proofs.Ytjmjopjeggadiaa
open Go.RowKit

/-- How many words the instruction at a place says that it has. -/
def cntN (zs : List Int) (p : Nat) : Nat := (nth zs p).toNat / 65536
/-- Its operation. -/
def opI (zs : List Int) (p : Nat) : Int := nth zs p % 65536

theorem cntN_int (zs : List Int) (p : Nat) (h : 0 ≤ nth zs p) : nth zs p / 65536 = (cntN zs p : Int) := by unfold cntN; omega
theorem opI_lo (zs : List Int) (p : Nat) : 0 ≤ opI zs p := Int.emod_nonneg _ (by decide)
theorem opI_hi (zs : List Int) (p : Nat) : opI zs p < 65536 := Int.emod_lt_of_pos _ (by decide)

/-- No instruction begins there: it says no words, or more than are left. -/
def badAt (zs : List Int) (p : Nat) : Prop := cntN zs p = 0 ∨ zs.length < p + cntN zs p
def badB (zs : List Int) (p : Nat) : Bool := cntN zs p == 0 || decide (zs.length < p + cntN zs p)
theorem badB_true {zs : List Int} {p : Nat} (h : badAt zs p) : badB zs p = true := by
  unfold badB; rcases h with h | h <;> simp [h]
theorem badB_false {zs : List Int} {p : Nat} (h : ¬ badAt zs p) : badB zs p = false := by
  unfold badAt at h; unfold badB
  have h1 : ¬ cntN zs p = 0 := fun e => h (.inl e)
  have h2 : ¬ zs.length < p + cntN zs p := fun e => h (.inr e)
  simp [h1, h2]

def restF (zs : List Int) : Nat → Nat → List Nat
  | 0, _ => []
  | f + 1, p => if p < zs.length then (if badB zs p then [] else p :: restF zs f (p + cntN zs p)) else []
def stopF (zs : List Int) : Nat → Nat → Nat
  | 0, p => p
  | f + 1, p => if p < zs.length then (if badB zs p then p else stopF zs f (p + cntN zs p)) else p
/-- The places of the instructions from a place on. -/
def rest (zs : List Int) (p : Nat) : List Nat := restF zs (zs.length - p) p
/-- Where they end. -/
def stop (zs : List Int) (p : Nat) : Nat := stopF zs (zs.length - p) p

theorem restF_end (zs : List Int) (f p : Nat) (h : zs.length ≤ p) : restF zs f p = [] := by
  cases f with
  | zero => rfl
  | succ f => rw [restF, if_neg (by omega)]
theorem stopF_end (zs : List Int) (f p : Nat) (h : zs.length ≤ p) : stopF zs f p = p := by
  cases f with
  | zero => rfl
  | succ f => rw [stopF, if_neg (by omega)]
theorem cnt_pos {zs : List Int} {p : Nat} (h : badB zs p = false) : 0 < cntN zs p := by
  unfold badB at h; simp at h; omega
theorem cnt_fits {zs : List Int} {p : Nat} (h : badB zs p = false) : p + cntN zs p ≤ zs.length := by
  unfold badB at h; simp at h; omega

theorem restF_fuel (zs : List Int) : ∀ (f g p : Nat), zs.length - p ≤ f → zs.length - p ≤ g → restF zs f p = restF zs g p
  | 0, g, p, h, _ => by rw [restF_end zs 0 p (by omega), restF_end zs g p (by omega)]
  | f + 1, 0, p, _, h => by rw [restF_end zs 0 p (by omega), restF_end zs (f + 1) p (by omega)]
  | f + 1, g + 1, p, h1, h2 => by
    rw [restF, restF]
    by_cases hp : p < zs.length
    · rw [if_pos hp, if_pos hp]
      cases hb : badB zs p with
      | true => rfl
      | false =>
        have := cnt_pos hb
        simp only [Bool.false_eq_true, if_false]
        rw [restF_fuel zs f g (p + cntN zs p) (by omega) (by omega)]
    · rw [if_neg hp, if_neg hp]
theorem stopF_fuel (zs : List Int) : ∀ (f g p : Nat), zs.length - p ≤ f → zs.length - p ≤ g → stopF zs f p = stopF zs g p
  | 0, g, p, h, _ => by rw [stopF_end zs 0 p (by omega), stopF_end zs g p (by omega)]
  | f + 1, 0, p, _, h => by rw [stopF_end zs 0 p (by omega), stopF_end zs (f + 1) p (by omega)]
  | f + 1, g + 1, p, h1, h2 => by
    rw [stopF, stopF]
    by_cases hp : p < zs.length
    · rw [if_pos hp, if_pos hp]
      cases hb : badB zs p with
      | true => rfl
      | false =>
        have := cnt_pos hb
        simp only [Bool.false_eq_true, if_false]
        rw [stopF_fuel zs f g (p + cntN zs p) (by omega) (by omega)]
    · rw [if_neg hp, if_neg hp]

theorem rest_end (zs : List Int) (p : Nat) (h : zs.length ≤ p) : rest zs p = [] := restF_end zs _ p h
theorem stop_end (zs : List Int) (p : Nat) (h : zs.length ≤ p) : stop zs p = p := stopF_end zs _ p h
theorem rest_bad (zs : List Int) (p : Nat) (hp : p < zs.length) (h : badB zs p = true) : rest zs p = [] := by
  obtain ⟨f, hf⟩ : ∃ f, zs.length - p = f + 1 := ⟨zs.length - p - 1, by omega⟩
  rw [rest, hf, restF, if_pos hp, h]; rfl
theorem stop_bad (zs : List Int) (p : Nat) (hp : p < zs.length) (h : badB zs p = true) : stop zs p = p := by
  obtain ⟨f, hf⟩ : ∃ f, zs.length - p = f + 1 := ⟨zs.length - p - 1, by omega⟩
  rw [stop, hf, stopF, if_pos hp, h]; rfl
theorem rest_go (zs : List Int) (p : Nat) (hp : p < zs.length) (h : badB zs p = false) : rest zs p = p :: rest zs (p + cntN zs p) := by
  obtain ⟨f, hf⟩ : ∃ f, zs.length - p = f + 1 := ⟨zs.length - p - 1, by omega⟩
  have := cnt_pos h
  rw [rest, hf, restF, if_pos hp, h]
  simp only [Bool.false_eq_true, if_false]
  rw [restF_fuel zs f (zs.length - (p + cntN zs p)) (p + cntN zs p) (by omega) (by omega)]
  rfl
theorem stop_go (zs : List Int) (p : Nat) (hp : p < zs.length) (h : badB zs p = false) : stop zs p = stop zs (p + cntN zs p) := by
  obtain ⟨f, hf⟩ : ∃ f, zs.length - p = f + 1 := ⟨zs.length - p - 1, by omega⟩
  have := cnt_pos h
  rw [stop, hf, stopF, if_pos hp, h]
  simp only [Bool.false_eq_true, if_false]
  rw [stopF_fuel zs f (zs.length - (p + cntN zs p)) (p + cntN zs p) (by omega) (by omega)]
  rfl
theorem restF_len (zs : List Int) : ∀ (f p : Nat), (restF zs f p).length ≤ f
  | 0, _ => Nat.le_refl _
  | f + 1, p => by
    rw [restF]
    split
    · split
      · simp
      · have := restF_len zs f (p + cntN zs p)
        simp only [List.length_cons]; omega
    · simp
theorem rest_len (zs : List Int) (p : Nat) : (rest zs p).length ≤ zs.length - p := restF_len zs _ p
theorem restF_mem (zs : List Int) : ∀ (f p q : Nat), q ∈ restF zs f p → p ≤ q ∧ q < zs.length ∧ badB zs q = false
  | 0, _, _, h => by simp [restF] at h
  | f + 1, p, q, h => by
    rw [restF] at h
    by_cases hp : p < zs.length
    · rw [if_pos hp] at h
      cases hb : badB zs p with
      | true => rw [hb] at h; simp at h
      | false =>
        rw [hb] at h
        simp only [Bool.false_eq_true, if_false, List.mem_cons] at h
        rcases h with rfl | h
        · exact ⟨Nat.le_refl _, hp, hb⟩
        · have := restF_mem zs f (p + cntN zs p) q h
          exact ⟨by omega, this.2⟩
    · rw [if_neg hp] at h; simp at h
theorem rest_mem (zs : List Int) (p q : Nat) (h : q ∈ rest zs p) : p ≤ q ∧ q < zs.length ∧ badB zs q = false := restF_mem zs _ p q h

/-- Places as numbers. -/
def natI (l : List Nat) : List Int := l.map fun (q : Nat) => (q : Int)
theorem natI_len (l : List Nat) : (natI l).length = l.length := by simp [natI]
theorem nth_natI (l : List Nat) (k : Nat) (h : k < l.length) : nth (natI l) k = ((l.getD k 0 : Nat) : Int) := by
  simp [nth, natI, List.getD, h]

end Go.Proofs.Ytjmjopjeggadiaa
