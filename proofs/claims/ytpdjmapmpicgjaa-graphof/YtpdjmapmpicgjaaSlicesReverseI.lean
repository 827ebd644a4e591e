/-
  Reverse of the package slices, at numbers: of a row of one's own.
-/
import Derived.WalkSpells
import Derived.Shelf.Slices.Reverse
import Derived.Test.YtpdjmapmpicgjaaProg
import Derived.Test.YtpdjmapmpicgjaaGrRows
namespace Go.Proofs.Ytpdjmapmpicgjaa
open Go.RowKit
open Go.Sort (Holds putRow putCells mapBlock)
set_option linter.unusedVariables false
set_option linter.unusedSimpArgs false
set_option maxRecDepth 10000

def RevI.ren : Go.Shelf.Ren := ⟨fun | 112 => 62 | n => n, fun | 0 => 0 | 3 => 3 | 4 => 4 | 28 => 32 | n => n, fun  | n => n⟩
theorem RevI.lays : Go.Proofs.Lays.n112 Try.prog RevI.ren := {
  mixed := by kernel_rfl
  f112 := Try.func62.trans (congrArg some (by kernel_rfl))
  t0 := Try.underlying0
  a0 := Try.isAgg0
  z0 := Try.sizeOf0
  v0 := Try.zeroValue0
  t3 := Try.underlying3
  a3 := Try.isAgg3
  z3 := Try.sizeOf3
  v3 := Try.zeroValue3
  t4 := Try.underlying4
  a4 := Try.isAgg4
  z4 := Try.sizeOf4
  v4 := Try.zeroValue4
  t28 := Try.underlying32
  a28 := Try.isAgg32
  z28 := Try.sizeOf32
  v28 := Try.zeroValue32 }

theorem reverse_own (v : Value) (lo : Nat) (zs : List Int) (w : World) (ho : w.ownsRow lo 3 1 v zs.length (zs.map (Value.int .i64))) (hn : zs.length ≤ 140737488351232) :
    Calls Try.prog 62 #[v] w fun e w' => e = .returned (.tuple #[]) ∧ w.grownBy w' v.ownBlock ∧ w'.ownsRow lo 3 1 v zs.length (zs.reverse.map (Value.int .i64)) := by
  rcases ho.2 with ⟨rfl, h0⟩ | ⟨g, cap, cur, rfl, h2, h3, h4, h5, h6, h7⟩
  · have hz : zs = [] := List.eq_nil_of_length_eq_zero h0
    subst hz
    refine (Any.slices_Reverse_int_empty RevI.lays none 0 w).mono ?_
    rintro e w' ⟨rfl, rfl⟩
    exact ⟨rfl, World.grownBy.refl _ _, ho⟩
  · have hH : Holds (Value.int .i64) w g 0 zs.toArray := fun j hj => by
      have hj' : j < zs.length := by simpa using hj
      refine ⟨?_, ho.frozenAt _⟩
      rw [Nat.zero_add, ho.cellAt j (by omega)]
      simp [hj']
    refine (Any.slices_Reverse_int RevI.lays g 0 cap zs w hH (by omega)).mono ?_
    rintro e w' ⟨rfl, n, rfl⟩
    have hb : (putRow (Value.int .i64) (Go.Sort.ahead w n) g 0 zs.reverse.toArray).heap[g]? = some (.cells (putCells (Value.int .i64) 0 zs.reverse.toArray cur) 3 (0, 0)) := by
      simp [putRow, mapBlock, Go.Sort.ahead, Array.getElem?_modify, h3, Go.Sort.onCells]
    have hg : w.grownBy (putRow (Value.int .i64) (Go.Sort.ahead w n) g 0 zs.reverse.toArray) (some g) := by
      refine ⟨rfl, rfl, rfl, by simp [putRow, mapBlock, Go.Sort.ahead], fun k hk hne => ?_⟩
      have : ¬ g = k := fun e => hne (by rw [e])
      simp [putRow, mapBlock, Go.Sort.ahead, Array.getElem?_modify, this]
    refine ⟨rfl, hg, ⟨by simp, .inr ⟨g, cap, _, rfl, h2, hb, h4, by simpa [putCells] using h5, by simpa [putCells] using h6, ?_⟩⟩⟩
    apply List.ext_getElem?
    intro j
    have hcur : ∀ i, i < zs.length → i < cur.size := fun i hi => by
      have h7' := congrArg List.length h7
      simp at h7'
      omega
    by_cases hj : j < zs.length
    · rw [List.getElem?_take, if_pos (by omega)]
      have hjc := hcur j hj
      simp [putCells, hj, hjc]
    · rw [List.getElem?_eq_none (by simp; omega), List.getElem?_eq_none (by simp; omega)]

end Go.Proofs.Ytpdjmapmpicgjaa
