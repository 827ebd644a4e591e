/-
  Plain arithmetic for the layer of words: a text at the front of words: where its end lies, and what stands behind it in its word.
-/
import Derived.Test.YtpdjmapmpicgjacDoorMath
import Derived.Laws.BytesArg
namespace Go.Proofs.YtpdjmapmpicgjacDoor
open Go.RowKit

theorem rest_zero (X : Int) (P : Nat) (hP : P < 4) (h0 : 0 ≤ X) (h1 : X < 4294967296) : X / 256 ^ P = 0 ↔ ∀ q, P ≤ q → q < 4 → byt X q = 0 := by
  rcases (show P = 0 ∨ P = 1 ∨ P = 2 ∨ P = 3 by omega) with rfl | rfl | rfl | rfl
  · constructor
    · intro h q _ hq
      have h' : X = 0 := by simpa using h
      subst h'; simp [byt]
    · intro h
      have a := h 0 (by omega) (by omega); have b := h 1 (by omega) (by omega); have c := h 2 (by omega) (by omega); have d := h 3 (by omega) (by omega)
      rw [byt0] at a; rw [byt1] at b; rw [byt2] at c; rw [byt3] at d
      simp; omega
  · constructor
    · intro h q hq hq4
      have h' : X / 256 = 0 := by simpa using h
      rcases (show q = 1 ∨ q = 2 ∨ q = 3 by omega) with rfl | rfl | rfl
      · rw [byt1]; omega
      · rw [byt2]; omega
      · rw [byt3]; omega
    · intro h
      have b := h 1 (by omega) (by omega); have c := h 2 (by omega) (by omega); have d := h 3 (by omega) (by omega)
      rw [byt1] at b; rw [byt2] at c; rw [byt3] at d
      simp; omega
  · constructor
    · intro h q hq hq4
      have h' : X / 65536 = 0 := by simpa using h
      rcases (show q = 2 ∨ q = 3 by omega) with rfl | rfl
      · rw [byt2]; omega
      · rw [byt3]; omega
    · intro h
      have c := h 2 (by omega) (by omega); have d := h 3 (by omega) (by omega)
      rw [byt2] at c; rw [byt3] at d
      simp; omega
  · constructor
    · intro h q hq hq4
      have h' : X / 16777216 = 0 := by simpa using h
      obtain rfl : q = 3 := by omega
      rw [byt3]; omega
    · intro h
      have d := h 3 (by omega) (by omega)
      rw [byt3] at d
      simp; omega

/-- The first place at which a list has a 0, or its length. -/
theorem first_zero (js : List Int) (n : Nat) : ∃ N, N ≤ n ∧ (∀ i, i < N → nth js i ≠ 0) ∧ (N < n → nth js N = 0) := by
  induction n with
  | zero => exact ⟨0, Nat.le_refl _, fun i hi => by omega, fun h => by omega⟩
  | succ n ih =>
    obtain ⟨N, h1, h2, h3⟩ := ih
    by_cases hN : N < n
    · exact ⟨N, by omega, h2, fun _ => h3 hN⟩
    · obtain rfl : N = n := by omega
      by_cases hz : nth js N = 0
      · exact ⟨N, by omega, h2, fun _ => hz⟩
      · refine ⟨N + 1, by omega, fun i hi => ?_, fun h => by omega⟩
        by_cases e : i = N
        · subst e; exact hz
        · exact h2 i (by omega)

theorem joinL_take (zs : List Int) (k : Nat) : joinL (zs.take k) = (joinL zs).take (4 * k) := by
  induction zs generalizing k with
  | nil => simp [joinL]
  | cons z zs ih =>
    cases k with
    | zero => rfl
    | succ k =>
      have e1 : joinL ((z :: zs).take (k + 1)) = four z ++ joinL (zs.take k) := rfl
      have e2 : joinL (z :: zs) = four z ++ joinL zs := rfl
      rw [e1, e2, ih, show 4 * (k + 1) = 4 * k + 4 by omega]
      rfl

theorem nth_take (zs : List Int) (k n : Nat) (h : k < n) : nth (zs.take n) k = nth zs k := by
  simp [nth, List.getD, h]

theorem View.take {k : IntKind} {w : World} {a : Option Addr} {zs : List Int} (h : View k w a zs) (n : Nat) : View k w a (zs.take n) := by
  intro j hj
  rw [List.length_take] at hj
  obtain ⟨b, off, e, hb, hc⟩ := h j (by omega)
  exact ⟨b, off, e, hb, by rw [hc, nth_take _ _ _ (by omega)]⟩

theorem within_of_take {m : Int} {zs : List Int} {n : Nat} (h : Within m zs) : Within m (zs.take n) := fun z hz => h z (List.mem_of_mem_take hz)

end Go.Proofs.YtpdjmapmpicgjacDoor
