/-
  What an argument that is a slice of slices of numbers holds: each row can be read, and lies within the reach of memory.
-/
import Derived.ProofKit
import Derived.OpenShut
import Derived.SizedLaws
import Derived.Deep.Matrix
import Derived.Test.YtpdjmapmpicgjaaProg
import Derived.Test.YtpdjmapmpicgjaaGrRows
namespace Go.Proofs.Ytpdjmapmpicgjaa
open Go.ChangeShapes Go.WideShapes Go.ChangeAt Go.RowKit
set_option linter.unusedVariables false
set_option linter.unusedSimpArgs false

theorem ArgLists.cellsL : Try.prog.cellsOf 32 = 1 := by kernel_rfl
theorem ArgLists.cellsI : Try.prog.cellsOf 3 = 1 := by kernel_rfl
theorem ArgLists.bytesL : Try.prog.bytesOf 32 = 24 := by kernel_rfl
theorem ArgLists.bytesI : Try.prog.bytesOf 3 = 8 := by kernel_rfl

theorem weightsAll_memG {H : Type} {P : Program} {e : TypeId} : ∀ {l : List (DataW H)} {d : DataW H}, d ∈ l → ∀ n ∈ d.weights P e, n ∈ DataW.weightsAll P e l
  | d0 :: l, d, hd, n, hn => by
    simp only [DataW.weightsAll, List.mem_append]
    rcases List.mem_cons.1 hd with rfl | h
    · exact Or.inl hn
    · exact Or.inr (weightsAll_memG h n hn)

set_option maxHeartbeats 1000000 in
theorem open_lists {H : Type} {enc : TypeId × Value → H} {w : World} {base fuel : Nat} {held : Bool} {a : Option Addr} {len cap : Nat} {d : DataW H} {ps : List MemPlace}
    (hf : DataW.trod enc Try.prog w base (fun _ => true) held fuel 22 [.slice a len cap] = some (d, ps)) (hs : ∀ n ∈ d.weights Try.prog 22, n ≤ reachBytes) :
    ∃ N : List (List Int), N.length = len ∧ LV w a N ∧ 24 * len ≤ 140737488351232 ∧ (∀ j, 8 * (rowN N j).length ≤ 140737488351232) ∧ len ≤ cap := by
  rcases Go.Deep.open_int_rows Try.underlying22 Try.underlying32 Try.underlying3 ArgLists.cellsL ArgLists.cellsI hf with ⟨hcs, _⟩ | ⟨x, l, c, A, L, C, Z, hcs, _, hl, hm, hx, hall⟩
  · simp at hcs
    obtain ⟨rfl, rfl, rfl⟩ := hcs
    exact ⟨[], rfl, fun j hj => by simp at hj, by omega, fun j => by simp [rowN], Nat.le_refl _⟩
  · simp at hcs
    obtain ⟨rfl, rfl, rfl⟩ := hcs
    simp only [Prod.mk.injEq] at hx
    obtain ⟨rfl, rfl⟩ := hx
    have hs0 := hs ((((List.range len).map fun r => Go.Deep.intRow (H := H) .i64 (A r) (L r) (Z r)).length + ((List.range (cap - len)).map fun j => Go.Deep.intRow (H := H) .i64 (A (len + j)) (L (len + j)) (Z (len + j))).length) * Try.prog.bytesOf 32) (by simp [DataW.weights, Try.underlying22])
    rw [ArgLists.bytesL] at hs0
    simp only [List.length_map, List.length_range, reachBytes] at hs0
    have hrow : ∀ r, r < len → 8 * C r ≤ 140737488351232 := fun r hr => by
      obtain ⟨_, h2, h3, h4, _, h6, _⟩ := hall r (by omega)
      cases hA : A r with
      | none => rw [h6 hA]; omega
      | some a' =>
        have hs1 := hs (((lits (H := H) .i64 ((Z r).take (L r))).length + (lits (H := H) .i64 ((Z r).drop (L r))).length) * Try.prog.bytesOf 3) (by
          have hmem : Go.Deep.intRow (H := H) .i64 (A r) (L r) (Z r) ∈ (List.range len).map fun r => Go.Deep.intRow (H := H) .i64 (A r) (L r) (Z r) := List.mem_map.2 ⟨r, List.mem_range.2 hr, rfl⟩
          simp only [DataW.weights, Try.underlying22, List.mem_cons, List.mem_append]
          refine Or.inr (Or.inl (weightsAll_memG hmem _ ?_))
          rw [hA]
          simp [Go.Deep.intRow, DataW.weights, Try.underlying32])
        rw [ArgLists.bytesI] at hs1
        simp only [lits, List.length_map, List.length_take, List.length_drop, reachBytes] at hs1
        omega
    have hR : ∀ j, j < len → rowN ((List.range len).map fun r => (Z r).take (L r)) j = (Z j).take (L j) := fun j hj => by simp [rowN, List.getD, hj]
    refine ⟨(List.range len).map fun r => (Z r).take (L r), by simp, fun j hj => ?_, by omega, fun j => ?_, hl⟩
    · have hj' : j < len := by simpa using hj
      obtain ⟨h1, h2, h3, h4, _, h6, h7⟩ := hall j (by omega)
      obtain ⟨xb, xo, xs⟩ := x
      have hsp : xs = none := by simpa [Addr.add] using World.cell?_spot (hall 0 (by omega)).1
      subst hsp
      have h1' : w.cell? ⟨xb, xo + j, none⟩ = some (.slice (A j) (L j) (C j)) := by rw [← Addr.add_lit]; exact h1
      rw [hR j hj']
      refine ⟨xb, xo, A j, L j, C j, rfl, World.block_lt_of_cell? _ _ h1', h1', by rw [List.length_take]; omega, h2, ?_⟩
      cases hA : A j with
      | none =>
        have : L j = 0 := by have := h6 hA; omega
        rw [this]; exact view_nil
      | some a' => exact Go.Proofs.Ytpdjmapmpicgjaa.view_take (fun i hi => (h7 a' hA).2 i (by omega)) (by omega)
    · by_cases hj : j < len
      · rw [hR j hj, List.length_take]
        have := hrow j hj
        have := (hall j (by omega)).2.1
        omega
      · rw [rowN_out _ _ (by simp; omega)]; simp

end Go.Proofs.Ytpdjmapmpicgjaa
