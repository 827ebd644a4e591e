/-
  What an argument that is a slice of instructions holds: operations and words within their bounds, each list of words within the reach of memory.
-/
import Derived.ProofKit
import Derived.OpenShut
import Derived.SizedLaws
import Derived.Deep.SlicePairs
import Derived.Test.YtckpijgnkkjfkabProg
import Derived.Test.YtckpijgnkkjfkabRaws
namespace Go.Proofs.Ytckpijgnkkjfkab
open Go.ChangeShapes Go.WideShapes Go.ChangeAt Go.RowKit

theorem ArgRaws.cellsR : Try.prog.cellsOf 43 = 2 := by kernel_rfl
theorem ArgRaws.cellsO : Try.prog.cellsOf 41 = 1 := by kernel_rfl
theorem ArgRaws.cellsW : Try.prog.cellsOf 26 = 1 := by kernel_rfl
theorem ArgRaws.cellsU : Try.prog.cellsOf 22 = 1 := by kernel_rfl
theorem ArgRaws.bytesR : Try.prog.bytesOf 43 = 32 := by kernel_rfl
theorem ArgRaws.bytesU : Try.prog.bytesOf 22 = 4 := by kernel_rfl

theorem weightsAll_mem {H : Type} {P : Program} {e : TypeId} : ∀ {l : List (DataW H)} {d : DataW H}, d ∈ l → ∀ n ∈ d.weights P e, n ∈ DataW.weightsAll P e l
  | d0 :: l, d, hd, n, hn => by
    simp only [DataW.weightsAll, List.mem_append]
    rcases List.mem_cons.1 hd with rfl | h
    · exact Or.inl hn
    · exact Or.inr (weightsAll_mem h n hn)

theorem rawsV_mk {w : World} {x : Addr} {n : Nat} {f : Nat → Int × List Int} (h : ∀ i, i < n → w.cell? (x.add (i * 2)) = some (.int .u16 (f i).1) ∧ ∃ ai ci, w.cell? (x.add (i * 2 + 1)) = some (.slice ai (f i).2.length ci) ∧ View .u32 w ai (f i).2 ∧ (f i).2.length ≤ ci) : RawsV w (some x) ((List.range n).map f) := by
  intro j hj
  rw [List.length_map, List.length_range] at hj
  have h0 := (h 0 (by omega)).1
  obtain ⟨b, off, spot⟩ := x
  have hs : spot = none := by simpa [Addr.add] using World.cell?_spot h0
  subst hs
  obtain ⟨h1, ai, ci, h2, h3, h4⟩ := h j hj
  rw [Addr.add_lit] at h1 h2
  have e : nthR ((List.range n).map f) j = f j := by simp [nthR, List.getD, hj]
  rw [e]
  exact ⟨b, off, ai, ci, _, rfl, World.block_lt_of_cell? _ _ h1, h1, by rw [Nat.add_assoc]; exact h2, rfl, h3, h4⟩

set_option maxHeartbeats 1000000 in
theorem open_raws {H : Type} {enc : TypeId × Value → H} {w : World} {base fuel : Nat} {held : Bool} {a : Option Addr} {len cap : Nat} {d : DataW H} {ps : List MemPlace}
    (hf : DataW.trod enc Try.prog w base (fun _ => true) held fuel 25 [.slice a len cap] = some (d, ps)) (hs : ∀ n ∈ d.weights Try.prog 25, n ≤ reachBytes) :
    ∃ rs : List (Int × List Int), rs.length = len ∧ RawsV w a rs ∧ RawsOk rs ∧ 32 * len ≤ 140737488351232 := by
  rcases Go.Deep.open_slice_pairs Try.underlying25 Try.underlying43 ArgRaws.cellsR rfl rfl ArgRaws.cellsO ArgRaws.cellsW hf with ⟨hcs, _⟩ | ⟨x, l, c, mm, nn, V0, V1, D0, D1, P0, P1, hcs, _, hl, hm, hmm, hx, hall⟩
  · simp at hcs
    obtain ⟨rfl, rfl, rfl⟩ := hcs
    exact ⟨[], rfl, rawsV_nil, fun j hj => by simp at hj, by omega⟩
  · simp at hcs
    obtain ⟨rfl, rfl, rfl⟩ := hcs
    simp only [Prod.mk.injEq] at hx
    obtain ⟨rfl, rfl⟩ := hx
    simp only [if_true] at hmm
    subst hmm
    have hs0 := hs ((((List.range len).map fun i => DataW.agg [D0 i, D1 i]).length + ((List.range (mm - len)).map fun j => DataW.agg [D0 (len + j), D1 (len + j)]).length) * Try.prog.bytesOf 43) (by simp [DataW.weights, Try.underlying25])
    rw [ArgRaws.bytesR] at hs0
    simp only [List.length_map, List.length_range, reachBytes] at hs0
    have key : ∀ i, i < len → ∃ r : Int × List Int, w.cell? (x.add (i * 2)) = some (.int .u16 r.1) ∧ (∃ ai ci, w.cell? (x.add (i * 2 + 1)) = some (.slice ai r.2.length ci) ∧ View .u32 w ai r.2 ∧ r.2.length ≤ ci) ∧ 0 ≤ r.1 ∧ r.1 < 65536 ∧ Within 4294967296 r.2 ∧ 4 * r.2.length ≤ 140737488351232 := by
      intro i hi
      obtain ⟨g0, g1, t0, t1⟩ := hall i (by omega)
      obtain ⟨n0, e0, _, w0⟩ := DataW.trod_int Try.underlying41 t0
      simp at e0
      rw [e0] at g0
      have hb0 := bounds_u16 w0
      rcases open_ints Try.underlying26 Try.underlying22 ArgRaws.cellsU t1 with ⟨hcs, _⟩ | ⟨y, l, c, zs, hcs, _, hl1, hm1, hz1, hx1, hcell, hwz⟩
      · simp at hcs
        rw [hcs] at g1
        exact ⟨(n0, []), g0, ⟨none, 0, g1, view_nil, Nat.le_refl _⟩, by simp; omega, by simp; omega, within_nil, by simp⟩
      · simp at hcs
        rw [hcs] at g1
        simp only [Prod.mk.injEq] at hx1
        obtain ⟨hd1, _⟩ := hx1
        simp only [if_true] at hz1
        have hs1 := hs (((lits (H := H) .u32 (zs.take l)).length + (lits (H := H) .u32 (zs.drop l)).length) * Try.prog.bytesOf 22) (by
          have hmem : (DataW.agg [D0 i, D1 i] : DataW H) ∈ (List.range len).map fun i => DataW.agg [D0 i, D1 i] := List.mem_map.2 ⟨i, List.mem_range.2 hi, rfl⟩
          simp only [DataW.weights, Try.underlying25, List.mem_cons, List.mem_append]
          refine Or.inr (Or.inl (weightsAll_mem hmem _ ?_))
          rw [hd1]
          simp only [DataW.weights, Try.underlying43]
          refine DataW.weights_mem_each (j := 1) rfl rfl _ ?_
          simp [DataW.weights, Try.underlying26])
        rw [ArgRaws.bytesU] at hs1
        simp only [lits, List.length_map, List.length_take, List.length_drop, reachBytes] at hs1
        have hlen : (zs.take l).length = l := by rw [List.length_take]; omega
        refine ⟨(n0, zs.take l), g0, ⟨some y, c, by simp only [hlen]; exact g1, view_take hcell (by omega), by simp only [hlen]; exact hl1⟩, by simp; omega, by simp; omega, within_take fun z hz => by have := bounds_u32 (hwz z hz); omega, by simp only [hlen]; omega⟩
    let f : Nat → Int × List Int := fun i => if h : i < len then Classical.choose (key i h) else (0, [])
    have hf' : ∀ i (h : i < len), f i = Classical.choose (key i h) := fun i h => dif_pos h
    refine ⟨(List.range len).map f, by simp, rawsV_mk (fun i hi => ?_), fun j hj => ?_, by omega⟩
    · rw [hf' i hi]; exact ⟨(Classical.choose_spec (key i hi)).1, (Classical.choose_spec (key i hi)).2.1⟩
    · rw [List.length_map, List.length_range] at hj
      have e : nthR ((List.range len).map f) j = f j := by simp [nthR, List.getD, hj]
      rw [e, hf' j hj]
      exact (Classical.choose_spec (key j hj)).2.2

end Go.Proofs.Ytckpijgnkkjfkab
