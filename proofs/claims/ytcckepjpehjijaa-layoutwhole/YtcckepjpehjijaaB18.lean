/-
  Texts laid together in one: ArgInsts, LayoutParts, LayoutCut, LayoutReads.
-/
import Derived.ProofKit
import Derived.OpenShut
import Derived.SizedLaws
import Derived.Deep.Slices
import Derived.Deep.SlicePairs
import Derived.Lib.SmallJoins
import Derived.Test.YtcckepjpehjijaaProg
import Derived.Test.YtcckepjpehjijaaB01
import Derived.WalkSpells
import Derived.WalkMore
import Derived.BigRegion
import Derived.Deep.RegionWith
import Derived.Deep.MidRow
import Derived.Test.YtcckepjpehjijaaB17
import Derived.Test.YtcckepjpehjijaaB08
/-
  What an argument that is an instruction, or a slice of instructions, holds: all within their bounds, each list within the reach of memory.
-/
namespace Go.Proofs.Ytcckepjpehjijaa
open Go.ChangeShapes Go.WideShapes Go.ChangeAt Go.RowKit
set_option maxRecDepth 100000

theorem ArgInsts.cellsA : Try.prog.cellsOf 54 = 3 := by kernel_rfl
theorem ArgInsts.cells8 : Try.prog.cellsOf 5 = 1 := by kernel_rfl
theorem ArgInsts.cells32 : Try.prog.cellsOf 22 = 1 := by kernel_rfl
theorem ArgInsts.cellsS : Try.prog.cellsOf 9 = 1 := by kernel_rfl
theorem ArgInsts.bytesA : Try.prog.bytesOf 54 = 24 := by kernel_rfl
theorem ArgInsts.cells16 : Try.prog.cellsOf 52 = 1 := by kernel_rfl
theorem ArgInsts.cellsL : Try.prog.cellsOf 56 = 1 := by kernel_rfl

theorem ArgInsts.cellsI : Try.prog.cellsOf 58 = 4 := by kernel_rfl
theorem ArgInsts.bytesI : Try.prog.bytesOf 58 = 40 := by kernel_rfl

theorem weightsIn {H : Type} {P : Program} {e : TypeId} : ∀ {l : List (DataW H)} {d : DataW H}, d ∈ l → ∀ n ∈ d.weights P e, n ∈ DataW.weightsAll P e l
  | d0 :: l, d, hd, n, hn => by
    simp only [DataW.weightsAll, List.mem_append]
    rcases List.mem_cons.1 hd with rfl | h
    · exact Or.inl hn
    · exact Or.inr (weightsIn h n hn)

theorem argsV_mk {w : World} {x : Addr} {n : Nat} {f : Nat → ArgT} (h : ∀ i, i < n → w.cell? (x.add (i * 3)) = some (.int .u8 (f i).1) ∧ w.cell? (x.add (i * 3 + 1)) = some (.int .u32 (f i).2.1) ∧ w.cell? (x.add (i * 3 + 2)) = some (.string (f i).2.2)) : ArgsV w (some x) ((List.range n).map f) := by
  intro j hj
  rw [List.length_map, List.length_range] at hj
  have h0 := (h 0 (by omega)).1
  obtain ⟨b, off, spot⟩ := x
  have hs : spot = none := by simpa [Addr.add] using World.cell?_spot h0
  subst hs
  obtain ⟨h1, h2, h3⟩ := h j hj
  rw [Addr.add_lit] at h1 h2 h3
  have e : nthA ((List.range n).map f) j = f j := by simp [nthA, List.getD, hj]
  rw [e]
  exact ⟨b, off, rfl, World.block_lt_of_cell? _ _ h1, h1, by rw [Nat.add_assoc]; exact h2, by rw [Nat.add_assoc]; exact h3⟩

set_option maxHeartbeats 1000000 in
theorem open_args {H : Type} {enc : TypeId × Value → H} {w : World} {base fuel : Nat} {held : Bool} {a : Option Addr} {len cap : Nat} {d : DataW H} {ps : List MemPlace}
    (hf : DataW.trod enc Try.prog w base (fun _ => true) held fuel 56 [.slice a len cap] = some (d, ps)) (hs : ∀ n ∈ d.weights Try.prog 56, n ≤ reachBytes) :
    ∃ l : List ArgT, l.length = len ∧ ArgsV w a l ∧ ArgsOk l ∧ 24 * len ≤ 140737488351232 ∧ len ≤ cap := by
  rcases Go.Deep.open_slice Try.underlying56 hf with ⟨hcs, _⟩ | ⟨x, l, c, mm, nn, D, Pl, hcs, _, hl, hm, hmm, hx, hall⟩
  · simp at hcs
    obtain ⟨rfl, rfl, rfl⟩ := hcs
    exact ⟨[], rfl, argsV_nil, argsOk_nil, by omega, by omega⟩
  · simp at hcs
    obtain ⟨rfl, rfl, rfl⟩ := hcs
    simp only [Prod.mk.injEq] at hx
    obtain ⟨rfl, rfl⟩ := hx
    simp only [if_true] at hmm
    subst hmm
    have hs0 := hs ((((List.range len).map D).length + ((List.range (mm - len)).map fun j => D (len + j)).length) * Try.prog.bytesOf 54) (by simp [DataW.weights, Try.underlying56])
    rw [ArgInsts.bytesA] at hs0
    simp only [List.length_map, List.length_range, reachBytes] at hs0
    have key : ∀ i, i < len → ∃ r : ArgT, w.cell? (x.add (i * 3)) = some (.int .u8 r.1) ∧ w.cell? (x.add (i * 3 + 1)) = some (.int .u32 r.2.1) ∧ w.cell? (x.add (i * 3 + 2)) = some (.string r.2.2) ∧ ArgOk r := by
      intro i hi
      obtain ⟨cs, hc, ht⟩ := hall i (by omega)
      rw [ArgInsts.cellsA] at hc
      obtain ⟨_, hlen, hcell⟩ := World.cells?_some hc
      obtain ⟨xs, k, _, hxy, _, hxl, hfl⟩ := DataW.trod_struct Try.underlying54 ht
      have g0 := hfl 0 _ rfl
      have g1 := hfl 1 _ rfl
      have g2 := hfl 2 _ rfl
      match xs, hxl, cs, hlen with
      | [y0, y1, y2], _, [v0, v1, v2], _ =>
        have e0 := hcell 0 (by omega)
        have e1 := hcell 1 (by omega)
        have e2 := hcell 2 (by omega)
        rw [Go.Deep.add_add] at e0 e1 e2
        simp [ArgInsts.cells8, ArgInsts.cells32, ArgInsts.cellsS] at g0 g1 g2 e0 e1 e2
        obtain ⟨n0, q0, _, w0⟩ := DataW.trod_int Try.underlying5 g0
        obtain ⟨n1, q1, _, w1⟩ := DataW.trod_int Try.underlying22 g1
        obtain ⟨s2, q2, q3⟩ := DataW.trod_string Try.underlying9 g2
        simp at q0 q1 q2
        subst q0; subst q1; subst q2
        have b0 := bounds_u8 w0
        have b1 := bounds_u32 w1
        refine ⟨(n0, n1, s2), by simpa using e0, e1, e2, ?_⟩
        have hs2 := hs s2.size (by
          have hmem : D i ∈ (List.range len).map D := List.mem_map.2 ⟨i, List.mem_range.2 hi, rfl⟩
          simp only [DataW.weights, Try.underlying56, List.mem_cons, List.mem_append]
          refine Or.inr (Or.inl (weightsIn hmem _ ?_))
          simp only [Prod.mk.injEq] at hxy
          rw [hxy.1]
          simp only [DataW.weights, Try.underlying54]
          refine DataW.weights_mem_each (j := 2) rfl rfl _ ?_
          simp_all [DataW.weights])
        simp only [reachBytes] at hs2
        exact ⟨by simp; omega, by simp; omega, by simp; omega, by simp; omega, hs2⟩
    let f : Nat → ArgT := fun i => if h : i < len then Classical.choose (key i h) else noArg
    have hf' : ∀ i (h : i < len), f i = Classical.choose (key i h) := fun i h => dif_pos h
    refine ⟨(List.range len).map f, by simp, argsV_mk (fun i hi => ?_), fun j hj => ?_, by omega, hl⟩
    · rw [hf' i hi]
      obtain ⟨h1, h2, h3, _⟩ := Classical.choose_spec (key i hi)
      exact ⟨h1, h2, h3⟩
    · rw [List.length_map, List.length_range] at hj
      have e : nthA ((List.range len).map f) j = f j := by simp [nthA, List.getD, hj]
      rw [e, hf' j hj]
      exact (Classical.choose_spec (key j hj)).2.2.2

theorem open_inst {H : Type} {enc : TypeId × Value → H} {w : World} {b0 base : Nat} {held : Bool} {v : Value} {d : DataW H} {ps : List MemPlace}
    (hv : Value.okWide Try.prog w .any b0 58 v) (h : DataW.Trod enc Try.prog w base (fun _ => true) held 58 v d ps) (hs : ∀ n ∈ d.weights Try.prog 58, n ≤ reachBytes) :
    ∃ (x : InstT) (a : Option Addr) (n c : Nat), v = instV x a n c ∧ x.2.2.2.length = n ∧ InstOk x ∧ ArgsV w a x.2.2.2 ∧ n ≤ c := by
  obtain ⟨v0, v1, v2, v3, y0, y1, y2, y3, m, rfl, rfl, _, t0, t1, t2, t3⟩ := Go.Joins.open_agg4 Try.underlying58 (by kernel_rfl) (by kernel_rfl) hv h
  obtain ⟨n0, e0, _, w0⟩ := DataW.trod_int Try.underlying52 t0
  obtain ⟨n1, e1, _, w1⟩ := DataW.trod_int Try.underlying22 t1
  obtain ⟨n2, e2, _, w2⟩ := DataW.trod_int Try.underlying22 t2
  simp at e0 e1 e2
  subst e0; subst e1; subst e2
  have b0 := bounds_u16 w0
  have b1 := bounds_u32 w1
  have b2 := bounds_u32 w2
  obtain ⟨a, n, c, rfl⟩ : ∃ a n c, v3 = .slice a n c := by
    rcases Go.Deep.open_slice Try.underlying56 t3 with ⟨hcs, _⟩ | ⟨x, l, c, mm, nn, D, Pl, hcs, _⟩
    · simp at hcs; exact ⟨_, _, _, hcs⟩
    · simp at hcs; exact ⟨_, _, _, hcs⟩
  obtain ⟨l, hl, hv3, hok, hr, hc⟩ := open_args t3 (fun k hk => hs k (by
    simp only [DataW.weights, Try.underlying58]
    exact DataW.weights_mem_each (j := 3) rfl rfl _ hk))
  exact ⟨(n0, n1, n2, l), a, n, c, rfl, hl, ⟨by simp; omega, by simp; omega, by simp; omega, by simp; omega, by simp; omega, by simp; omega, hok, by rw [hl]; exact hr⟩, hv3, hc⟩

theorem instsV_mk {w : World} {x : Addr} {n : Nat} {f : Nat → InstT} (h : ∀ i, i < n → w.cell? (x.add (i * 4)) = some (.int .u16 (f i).1) ∧ w.cell? (x.add (i * 4 + 1)) = some (.int .u32 (f i).2.1) ∧ w.cell? (x.add (i * 4 + 2)) = some (.int .u32 (f i).2.2.1) ∧
    ∃ aj cj, w.cell? (x.add (i * 4 + 3)) = some (.slice aj (f i).2.2.2.length cj) ∧ ArgsV w aj (f i).2.2.2 ∧ (f i).2.2.2.length ≤ cj) : InstsV w (some x) ((List.range n).map f) := by
  intro j hj
  rw [List.length_map, List.length_range] at hj
  have h0 := (h 0 (by omega)).1
  obtain ⟨b, off, spot⟩ := x
  have hs : spot = none := by simpa [Addr.add] using World.cell?_spot h0
  subst hs
  obtain ⟨h1, h2, h3, aj, cj, h4, h5, h6⟩ := h j hj
  rw [Addr.add_lit] at h1 h2 h3 h4
  have e : nthI ((List.range n).map f) j = f j := by simp [nthI, List.getD, hj]
  rw [e]
  exact ⟨b, off, aj, cj, _, rfl, World.block_lt_of_cell? _ _ h1, h1, by rw [Nat.add_assoc]; exact h2, by rw [Nat.add_assoc]; exact h3, by rw [Nat.add_assoc]; exact h4, rfl, h5, h6⟩

set_option maxHeartbeats 1000000 in
theorem open_insts {H : Type} {enc : TypeId × Value → H} {w : World} {base fuel : Nat} {held : Bool} {a : Option Addr} {len cap : Nat} {d : DataW H} {ps : List MemPlace}
    (hf : DataW.trod enc Try.prog w base (fun _ => true) held fuel 23 [.slice a len cap] = some (d, ps)) (hs : ∀ n ∈ d.weights Try.prog 23, n ≤ reachBytes) :
    ∃ l : List InstT, l.length = len ∧ InstsV w a l ∧ InstsOk l ∧ 40 * len ≤ 140737488351232 ∧ len ≤ cap := by
  rcases Go.Deep.open_slice Try.underlying23 hf with ⟨hcs, _⟩ | ⟨x, l, c, mm, nn, D, Pl, hcs, _, hl, hm, hmm, hx, hall⟩
  · simp at hcs
    obtain ⟨rfl, rfl, rfl⟩ := hcs
    exact ⟨[], rfl, instsV_nil, instsOk_nil, by omega, by omega⟩
  · simp at hcs
    obtain ⟨rfl, rfl, rfl⟩ := hcs
    simp only [Prod.mk.injEq] at hx
    obtain ⟨rfl, rfl⟩ := hx
    simp only [if_true] at hmm
    subst hmm
    have hs0 := hs ((((List.range len).map D).length + ((List.range (mm - len)).map fun j => D (len + j)).length) * Try.prog.bytesOf 58) (by simp [DataW.weights, Try.underlying23])
    rw [ArgInsts.bytesI] at hs0
    simp only [List.length_map, List.length_range, reachBytes] at hs0
    have key : ∀ i, i < len → ∃ r : InstT, w.cell? (x.add (i * 4)) = some (.int .u16 r.1) ∧ w.cell? (x.add (i * 4 + 1)) = some (.int .u32 r.2.1) ∧ w.cell? (x.add (i * 4 + 2)) = some (.int .u32 r.2.2.1) ∧
        (∃ aj cj, w.cell? (x.add (i * 4 + 3)) = some (.slice aj r.2.2.2.length cj) ∧ ArgsV w aj r.2.2.2 ∧ r.2.2.2.length ≤ cj) ∧ InstOk r := by
      intro i hi
      obtain ⟨cs, hc, ht⟩ := hall i (by omega)
      rw [ArgInsts.cellsI] at hc
      obtain ⟨_, hlen, hcell⟩ := World.cells?_some hc
      obtain ⟨xs, k, _, hxy, _, hxl, hfl⟩ := DataW.trod_struct Try.underlying58 ht
      have g0 := hfl 0 _ rfl
      have g1 := hfl 1 _ rfl
      have g2 := hfl 2 _ rfl
      have g3 := hfl 3 _ rfl
      match xs, hxl, cs, hlen with
      | [y0, y1, y2, y3], _, [v0, v1, v2, v3], _ =>
        have e0 := hcell 0 (by omega)
        have e1 := hcell 1 (by omega)
        have e2 := hcell 2 (by omega)
        have e3 := hcell 3 (by omega)
        rw [Go.Deep.add_add] at e0 e1 e2 e3
        simp [ArgInsts.cells16, ArgInsts.cells32, ArgInsts.cellsL] at g0 g1 g2 g3 e0 e1 e2 e3
        obtain ⟨n0, q0, _, w0⟩ := DataW.trod_int Try.underlying52 g0
        obtain ⟨n1, q1, _, w1⟩ := DataW.trod_int Try.underlying22 g1
        obtain ⟨n2, q2, _, w2⟩ := DataW.trod_int Try.underlying22 g2
        simp at q0 q1 q2
        subst q0; subst q1; subst q2
        have b0 := bounds_u16 w0
        have b1 := bounds_u32 w1
        have b2 := bounds_u32 w2
        obtain ⟨a, n, c, rfl⟩ : ∃ a n c, v3 = .slice a n c := by
          rcases Go.Deep.open_slice Try.underlying56 g3 with ⟨hcs, _⟩ | ⟨x, l, c, mm, nn, D, Pl, hcs, _⟩
          · simp at hcs; exact ⟨_, _, _, hcs⟩
          · simp at hcs; exact ⟨_, _, _, hcs⟩
        obtain ⟨l, hl, hv3, hok, hr, hc⟩ := open_args g3 (fun k hk => hs k (by
          have hmem : D i ∈ (List.range len).map D := List.mem_map.2 ⟨i, List.mem_range.2 hi, rfl⟩
          simp only [DataW.weights, Try.underlying23, List.mem_cons, List.mem_append]
          refine Or.inr (Or.inl (weightsIn hmem _ ?_))
          simp only [Prod.mk.injEq] at hxy
          rw [hxy.1]
          simp only [DataW.weights, Try.underlying58]
          exact DataW.weights_mem_each (j := 3) rfl rfl _ hk))
        subst hl
        exact ⟨(n0, n1, n2, l), by simpa using e0, e1, e2, ⟨a, c, e3, hv3, hc⟩, by simp; omega, by simp; omega, by simp; omega, by simp; omega, by simp; omega, by simp; omega, hok, hr⟩
    let f : Nat → InstT := fun i => if h : i < len then Classical.choose (key i h) else noInst
    have hf' : ∀ i (h : i < len), f i = Classical.choose (key i h) := fun i h => dif_pos h
    refine ⟨(List.range len).map f, by simp, instsV_mk (fun i hi => ?_), fun j hj => ?_, by omega, hl⟩
    · rw [hf' i hi]
      obtain ⟨h1, h2, h3, h4, _⟩ := Classical.choose_spec (key i hi)
      exact ⟨h1, h2, h3, h4⟩
    · rw [List.length_map, List.length_range] at hj
      have e : nthI ((List.range len).map f) j = f j := by simp [nthI, List.getD, hj]
      rw [e, hf' j hj]
      exact (Classical.choose_spec (key j hj)).2.2.2.2

theorem open_module {H : Type} {enc : TypeId × Value → H} {w : World} {b0 base : Nat} {held : Bool} {v : Value} {d : DataW H} {ps : List MemPlace}
    (hv : Value.okWide Try.prog w .any b0 25 v) (h : DataW.Trod enc Try.prog w base (fun _ => true) held 25 v d ps) (hs : ∀ n ∈ d.weights Try.prog 25, n ≤ reachBytes) :
    ∃ (gen bound : Int) (a : Option Addr) (n c : Nat) (l : List InstT), v = .agg #[.int .u32 gen, .int .u32 bound, .slice a n c] ∧ 0 ≤ gen ∧ gen < 4294967296 ∧ 0 ≤ bound ∧ bound < 4294967296 ∧ l.length = n ∧ InstsV w a l ∧ InstsOk l ∧ 40 * n ≤ 140737488351232 ∧ n ≤ c := by
  obtain ⟨v0, v1, v3, y0, y1, y3, m, rfl, rfl, _, t0, t1, t3⟩ := Go.Joins.open_agg3 Try.underlying25 (by kernel_rfl) (by kernel_rfl) hv h
  obtain ⟨n0, e0, _, w0⟩ := DataW.trod_int Try.underlying22 t0
  obtain ⟨n1, e1, _, w1⟩ := DataW.trod_int Try.underlying22 t1
  simp at e0 e1
  subst e0; subst e1
  have b0 := bounds_u32 w0
  have b1 := bounds_u32 w1
  obtain ⟨a, n, c, rfl⟩ : ∃ a n c, v3 = .slice a n c := by
    rcases Go.Deep.open_slice Try.underlying23 t3 with ⟨hcs, _⟩ | ⟨x, l, c, mm, nn, D, Pl, hcs, _⟩
    · simp at hcs; exact ⟨_, _, _, hcs⟩
    · simp at hcs; exact ⟨_, _, _, hcs⟩
  obtain ⟨l, hl, hv3, hok, hr, hc⟩ := open_insts t3 (fun k hk => hs k (by
    simp only [DataW.weights, Try.underlying25]
    exact DataW.weights_mem_each (j := 2) rfl rfl _ hk))
  exact ⟨n0, n1, a, n, c, l, rfl, by omega, by omega, by omega, by omega, hl, hv3, hok, hr, hc⟩

theorem open_raw {H : Type} {enc : TypeId × Value → H} {w : World} {b0 base : Nat} {held : Bool} {v : Value} {d : DataW H} {ps : List MemPlace}
    (hv : Value.okWide Try.prog w .any b0 100 v) (h : DataW.Trod enc Try.prog w base (fun _ => true) held 100 v d ps) (hs : ∀ n ∈ d.weights Try.prog 100, n ≤ reachBytes) :
    ∃ (op : Int) (a : Option Addr) (n c : Nat) (zs : List Int), v = .agg #[.int .u16 op, .slice a n c] ∧ 0 ≤ op ∧ op < 65536 ∧ zs.length = n ∧ View .u32 w a zs ∧ Within 4294967296 zs ∧ 4 * n ≤ 140737488351232 ∧ n ≤ c := by
  obtain ⟨v0, v1, y0, y1, m, rfl, rfl, _, t0, t1⟩ := Go.Joins.open_agg2 Try.underlying100 (by kernel_rfl) (by kernel_rfl) hv h
  obtain ⟨n0, e0, _, w0⟩ := DataW.trod_int Try.underlying52 t0
  simp at e0
  subst e0
  have b0 := bounds_u16 w0
  rcases open_ints Try.underlying93 Try.underlying22 ArgInsts.cells32 t1 with ⟨hcs, _⟩ | ⟨y, l, c, zs, hcs, _, hl1, hm1, hz1, hx1, hcell, hwz⟩
  · simp at hcs
    subst hcs
    exact ⟨n0, none, 0, 0, [], rfl, by omega, by omega, rfl, view_nil, within_nil, by omega, by omega⟩
  · simp at hcs
    subst hcs
    simp only [if_true] at hz1
    have hs1 := hs (((lits (H := H) .u32 (zs.take l)).length + (lits (H := H) .u32 (zs.drop l)).length) * Try.prog.bytesOf 22) (by
      simp only [DataW.weights, Try.underlying100]
      refine DataW.weights_mem_each (j := 1) rfl rfl _ ?_
      have : y1.1 = DataW.slice (lits .u32 (zs.take l)) (lits .u32 (zs.drop l)) := by rw [hx1]
      rw [this]
      simp [DataW.weights, Try.underlying93])
    rw [show Try.prog.bytesOf 22 = 4 by kernel_rfl] at hs1
    simp only [lits, List.length_map, List.length_take, List.length_drop, reachBytes] at hs1
    have hlen : (zs.take l).length = l := by rw [List.length_take]; omega
    exact ⟨n0, some y, l, c, zs.take l, rfl, by omega, by omega, hlen, view_take hcell (by omega), within_take fun z hz => by have := bounds_u32 (hwz z hz); omega, by omega, hl1⟩

end Go.Proofs.Ytcckepjpehjijaa

/-
  Parts of the package layout.
-/
namespace Go.Proofs.Ytcckepjpehjijaa
open Go.RowKit
set_option linter.unusedVariables false
set_option linter.unusedSimpArgs false
set_option maxRecDepth 10000

/-- The places of the parts, one behind the other. -/
def partsF (b : Int) (l : List InstT) (i : Nat) : Int := if (layE b l).1 ≠ 0 then 0 else cntP l ((i + 1) / 2) l.length
def partsV (f : Nat → Int) : Value := .agg #[.int .i64 (f 0), .int .i64 (f 1), .int .i64 (f 2), .int .i64 (f 3), .int .i64 (f 4), .int .i64 (f 5), .int .i64 (f 6), .int .i64 (f 7), .int .i64 (f 8), .int .i64 (f 9), .int .i64 (f 10), .int .i64 (f 11), .int .i64 (f 12), .int .i64 (f 13), .int .i64 (f 14), .int .i64 (f 15), .int .i64 (f 16), .int .i64 (f 17), .int .i64 (f 18), .int .i64 (f 19)]
theorem partsV_congr {f g : Nat → Int} (h : ∀ i, i < 20 → f i = g i) : partsV f = partsV g := by
  unfold partsV
  rw [h 0 (by omega), h 1 (by omega), h 2 (by omega), h 3 (by omega), h 4 (by omega), h 5 (by omega), h 6 (by omega), h 7 (by omega), h 8 (by omega), h 9 (by omega), h 10 (by omega), h 11 (by omega), h 12 (by omega), h 13 (by omega), h 14 (by omega), h 15 (by omega), h 16 (by omega), h 17 (by omega), h 18 (by omega), h 19 (by omega)]
theorem range_mid {w : World} {b t : Nat} {cs : List Value} {fr : Nat × Nat} (h : w.heap[b]? = some (.cells cs.toArray t fr)) (o n : Nat) : w.rangeAt b o ((cs.drop o).take n) := fun j v hv => by
  rw [List.getElem?_take] at hv
  split at hv
  · rw [List.getElem?_drop] at hv
    simp [World.cell?, h, hv]
  · cases hv
theorem yieldsC_load {P : Program} {ops : Array Oper} {C : World → Prop} {o : Oper} {a : Act} (hw : Region.wanted o (yielded ops a.tmps) = true) (ty : TypeId) (x : Operand) (ho : o.op = .load ty x)
    (b off : Nat) (hx : a.eval x = .pointer (some ⟨b, off, none⟩)) (cs : List Value) (d : TypeDesc) (hS : ∀ w, C w → w.rangeAt b off cs)
    (hu : P.underlying ty = some d) (hd : d.isRow = true) (hi : (P.info? ty).map (·.size) = some cs.length) : YieldsC P ops C o (.agg cs.toArray) a :=
  .inl ⟨hw, fun w hw' => by
    unfold execOp
    simp only [ho, hx, Instr.loadAt, Instr.sureAddr, Sem.run_bind, Sem.run_pure, Result.andThen_ok, run_loadVar_mid w b off ty cs d (hS w hw') hu hd hi]⟩

set_option maxHeartbeats 8000000 in
theorem layParts_any (gen bnd : Int) (a : Option Addr) (n c : Nat) (l : List InstT) (w : World) (hv : InstsV w a l) (hok : InstsOk l) (hl : l.length = n) (hn : 40 * n ≤ 140737488351232) (g0 : 0 ≤ gen) (g1 : gen < 4294967296) (b0 : 0 ≤ bnd) (b1 : bnd < 4294967296) :
    Calls Try.prog 14 #[modV gen bnd a n c] w fun e w' => e = .returned (.tuple #[partsV (partsF bnd l), .agg #[.int .i64 (layE bnd l).1, .int .i64 (layE bnd l).2]]) ∧ Below w.heap.size w w' := by
  have hb0 : Below w.heap.size w (((w.alloc (.cells #[.int .u32 gen, .int .u32 bnd, .slice a n c] 25)).alloc (.cells #[.int .i64 0, .int .i64 0, .int .i64 0, .int .i64 0, .int .i64 0, .int .i64 0, .int .i64 0, .int .i64 0, .int .i64 0, .int .i64 0, .int .i64 0, .int .i64 0, .int .i64 0, .int .i64 0, .int .i64 0, .int .i64 0, .int .i64 0, .int .i64 0, .int .i64 0, .int .i64 0] 48)).alloc (.cells #[.int .i64 0, .int .i64 0] 29)) := (((Below.refl _ w).alloc (Nat.le_refl _) _).alloc (by simp) _).alloc (by simp; omega) _
  have hC := walkOver_any gen bnd a n c l _ (hv.below hb0) hok hl hn g0 g1 b0 b1
  have HZB : Hid ((((w.alloc (.cells #[.int .u32 gen, .int .u32 bnd, .slice a n c] 25)).alloc (.cells #[.int .i64 0, .int .i64 0, .int .i64 0, .int .i64 0, .int .i64 0, .int .i64 0, .int .i64 0, .int .i64 0, .int .i64 0, .int .i64 0, .int .i64 0, .int .i64 0, .int .i64 0, .int .i64 0, .int .i64 0, .int .i64 0, .int .i64 0, .int .i64 0, .int .i64 0, .int .i64 0] 48)).alloc (.cells #[.int .i64 0, .int .i64 0] 29)).heap[w.heap.size + 1]? = some (.cells #[.int .i64 0, .int .i64 0, .int .i64 0, .int .i64 0, .int .i64 0, .int .i64 0, .int .i64 0, .int .i64 0, .int .i64 0, .int .i64 0, .int .i64 0, .int .i64 0, .int .i64 0, .int .i64 0, .int .i64 0, .int .i64 0, .int .i64 0, .int .i64 0, .int .i64 0, .int .i64 0] 48 (0, 0))) := by
    have := heap_alloc_new (w.alloc (.cells #[.int .u32 gen, .int .u32 bnd, .slice a n c] 25)) (.cells #[.int .i64 0, .int .i64 0, .int .i64 0, .int .i64 0, .int .i64 0, .int .i64 0, .int .i64 0, .int .i64 0, .int .i64 0, .int .i64 0, .int .i64 0, .int .i64 0, .int .i64 0, .int .i64 0, .int .i64 0, .int .i64 0, .int .i64 0, .int .i64 0, .int .i64 0, .int .i64 0] 48)
    rw [World.size_alloc] at this
    exact (Below.heap_alloc _ _ _ (by simp)).trans this
  have HSB : Hid ((((w.alloc (.cells #[.int .u32 gen, .int .u32 bnd, .slice a n c] 25)).alloc (.cells #[.int .i64 0, .int .i64 0, .int .i64 0, .int .i64 0, .int .i64 0, .int .i64 0, .int .i64 0, .int .i64 0, .int .i64 0, .int .i64 0, .int .i64 0, .int .i64 0, .int .i64 0, .int .i64 0, .int .i64 0, .int .i64 0, .int .i64 0, .int .i64 0, .int .i64 0, .int .i64 0] 48)).alloc (.cells #[.int .i64 0, .int .i64 0] 29)).heap[w.heap.size + 2]? = some (.cells #[.int .i64 0, .int .i64 0] 29 (0, 0))) := by
    have := heap_alloc_new ((w.alloc (.cells #[.int .u32 gen, .int .u32 bnd, .slice a n c] 25)).alloc (.cells #[.int .i64 0, .int .i64 0, .int .i64 0, .int .i64 0, .int .i64 0, .int .i64 0, .int .i64 0, .int .i64 0, .int .i64 0, .int .i64 0, .int .i64 0, .int .i64 0, .int .i64 0, .int .i64 0, .int .i64 0, .int .i64 0, .int .i64 0, .int .i64 0, .int .i64 0, .int .i64 0] 48)) (.cells #[.int .i64 0, .int .i64 0] 29)
    rw [World.size_alloc, World.size_alloc] at this
    exact this
  have HLT : Hid (w.heap.size + 2 < (((w.alloc (.cells #[.int .u32 gen, .int .u32 bnd, .slice a n c] 25)).alloc (.cells #[.int .i64 0, .int .i64 0, .int .i64 0, .int .i64 0, .int .i64 0, .int .i64 0, .int .i64 0, .int .i64 0, .int .i64 0, .int .i64 0, .int .i64 0, .int .i64 0, .int .i64 0, .int .i64 0, .int .i64 0, .int .i64 0, .int .i64 0, .int .i64 0, .int .i64 0, .int .i64 0] 48)).alloc (.cells #[.int .i64 0, .int .i64 0] 29)).heap.size) := by show _ < _; simp
  have HB0 := hide hb0
  unfold WalkQ at hC
  have HPF : Hid (∀ ps : Nat → Int, ((layE bnd l).1 ≠ 0 ∧ (∀ i, ps i = 0) ∨ (layE bnd l).1 = 0 ∧ SpansE l ps) → partsV ps = partsV (partsF bnd l)) := fun ps h => partsV_congr fun i hi => by
    unfold partsF
    rcases h with ⟨h1, h2⟩ | ⟨h1, h2⟩
    · rw [if_pos h1]; exact h2 i
    · rw [if_neg (by simpa using h1)]; exact h2 i hi
  have HQ : Hid (∀ e w', (∃ ps : Nat → Int, ((layE bnd l).1 ≠ 0 ∧ (∀ i, ps i = 0) ∨ (layE bnd l).1 = 0 ∧ SpansE l ps) ∧ e = .returned (.tuple #[partsV ps, .agg #[.int .i64 (layE bnd l).1, .int .i64 (layE bnd l).2]]) ∧ Below w.heap.size w w') → e = Ending.returned (.tuple #[partsV (partsF bnd l), .agg #[.int .i64 (layE bnd l).1, .int .i64 (layE bnd l).2]]) ∧ Below w.heap.size w w') := fun e w' ⟨ps, h1, h2, h3⟩ => ⟨by rw [h2, HPF.out ps h1], h3⟩
  have HRET : Hid (∀ (a' : Act) (Z : World) (ps : Nat → Int), slot a'.tmps 2 = .pointer (some ⟨w.heap.size + 1, 0, none⟩) → slot a'.tmps 3 = .pointer (some ⟨w.heap.size + 2, 0, none⟩) → a'.defers = [] → Z.heap[w.heap.size + 1]? = some (.cells #[.int .i64 (ps 0), .int .i64 (ps 1), .int .i64 (ps 2), .int .i64 (ps 3), .int .i64 (ps 4), .int .i64 (ps 5), .int .i64 (ps 6), .int .i64 (ps 7), .int .i64 (ps 8), .int .i64 (ps 9), .int .i64 (ps 10), .int .i64 (ps 11), .int .i64 (ps 12), .int .i64 (ps 13), .int .i64 (ps 14), .int .i64 (ps 15), .int .i64 (ps 16), .int .i64 (ps 17), .int .i64 (ps 18), .int .i64 (ps 19)] 48 (0, 0)) → Z.heap[w.heap.size + 2]? = some (.cells #[.int .i64 (layE bnd l).1, .int .i64 (layE bnd l).2] 29 (0, 0)) → Below w.heap.size w Z → ((layE bnd l).1 ≠ 0 ∧ (∀ i, ps i = 0) ∨ (layE bnd l).1 = 0 ∧ SpansE l ps) →
      bodyPost Try.prog Try.f14 (fun e w' => e = .returned (.tuple #[partsV (partsF bnd l), .agg #[.int .i64 (layE bnd l).1, .int .i64 (layE bnd l).2]]) ∧ Below w.heap.size w w') .ret a' Z) := by
    intro a' Z ps q2 q3 q4 q5 q6 q7 q8
    refine bodyPost_ret (v := .tuple #[partsV ps, .agg #[.int .i64 (layE bnd l).1, .int .i64 (layE bnd l).2]]) ?_ q4 (HQ.out _ _ ⟨ps, q8, rfl, q7⟩)
    have r5 := run_loadVar_mid (P := Try.prog) Z (w.heap.size + 1) 0 48 [.int .i64 (ps 0), .int .i64 (ps 1), .int .i64 (ps 2), .int .i64 (ps 3), .int .i64 (ps 4), .int .i64 (ps 5), .int .i64 (ps 6), .int .i64 (ps 7), .int .i64 (ps 8), .int .i64 (ps 9), .int .i64 (ps 10), .int .i64 (ps 11), .int .i64 (ps 12), .int .i64 (ps 13), .int .i64 (ps 14), .int .i64 (ps 15), .int .i64 (ps 16), .int .i64 (ps 17), .int .i64 (ps 18), .int .i64 (ps 19)] _ (range_of_block q5) Try.underlying48 rfl (by kernel_rfl)
    have r6 := run_loadVar_mid (P := Try.prog) Z (w.heap.size + 2) 0 29 [.int .i64 (layE bnd l).1, .int .i64 (layE bnd l).2] _ (range_of_block q6) Try.underlying29 rfl (by kernel_rfl)
    have hG2 : a'.tmps.getD 2 undef = .pointer (some ⟨w.heap.size + 1, 0, none⟩) := q2
    have hG3 : a'.tmps.getD 3 undef = .pointer (some ⟨w.heap.size + 2, 0, none⟩) := q3
    simp only [results, Try.results14, List.mapM_toArray, List.mapM_cons, List.mapM_nil, hG2, hG3, asAddr, Sem.run_bind, Sem.run_pure, Result.andThen_ok, bind_assoc, pure_bind, Sem.run_map, map_pure, r5, r6]
    rfl
  generalize partsF bnd l = PFF at *
  generalize layE bnd l = L at *
  obtain ⟨e1, e2⟩ := L
  unfold modV at *
  clear hb0 hv hok hl HPF HQ
  go_enter Try.func14, Try.ntmps14
  go_wp2_with fail
  generalize ((w.alloc (.cells #[.int .u32 gen, .int .u32 bnd, .slice a n c] 25)).alloc (.cells #[.int .i64 0, .int .i64 0, .int .i64 0, .int .i64 0, .int .i64 0, .int .i64 0, .int .i64 0, .int .i64 0, .int .i64 0, .int .i64 0, .int .i64 0, .int .i64 0, .int .i64 0, .int .i64 0, .int .i64 0, .int .i64 0, .int .i64 0, .int .i64 0, .int .i64 0, .int .i64 0] 48)).alloc (.cells #[.int .i64 0, .int .i64 0] 29) = W0 at *
  refine hC.mono ?_
  rintro e w1 ⟨ins, fv, ps, k, pt, kd, rfl, hb1, hone, hfs⟩
  have HFS : Hid (e1 ≠ 0 ∧ (∀ i, ps i = 0) ∨ e1 = 0 ∧ SpansE l ps) := by
    rcases hfs with ⟨h1, _, h2⟩ | ⟨h1, h2, _⟩
    · exact .inl ⟨h1, h2⟩
    · exact .inr ⟨h1, h2⟩
  clear hC hfs
  unfold walkV
  obtain ⟨k1, k2, k3, k4, k5, _⟩ := kept_walk w W0 w1 HB0.out hb1 ins fv ps k pt kd 0 0
  have HK1 := hide k1
  have HK2 := hide k2
  have HK3 := hide k3
  have HK4 := hide k4
  have HK5 := hide k5
  have hw1 : W0.heap.size ≤ w1.heap.size := hb1.size
  clear k1 k2 k3 k4 k5 hb1
  simp only
  go_wp2_with (with_reducible refine stopS 63 ?_)
  refine wpList_store_mid rfl 63 (.tmp 4) (.tmp 9) rfl w1.heap.size 0 #[ins, .int .i64 (ps 0), .int .i64 (ps 1), .int .i64 (ps 2), .int .i64 (ps 3), .int .i64 (ps 4), .int .i64 (ps 5), .int .i64 (ps 6), .int .i64 (ps 7), .int .i64 (ps 8), .int .i64 (ps 9), .int .i64 (ps 10), .int .i64 (ps 11), .int .i64 (ps 12), .int .i64 (ps 13), .int .i64 (ps 14), .int .i64 (ps 15), .int .i64 (ps 16), .int .i64 (ps 17), .int .i64 (ps 18), .int .i64 (ps 19), fv, .int .i64 k, .int .u8 pt, .int .u16 kd] rfl rfl HK1.out (by kernel_rfl) (by simp [hone.1, hone.2]; simp [Value.oneCell']) ?_
  simp only [Act.put]
  generalize ((w1.alloc (.cells #[.slice none 0 0, .int .i64 0, .int .i64 0, .int .i64 0, .int .i64 0, .int .i64 0, .int .i64 0, .int .i64 0, .int .i64 0, .int .i64 0, .int .i64 0, .int .i64 0, .int .i64 0, .int .i64 0, .int .i64 0, .int .i64 0, .int .i64 0, .int .i64 0, .int .i64 0, .int .i64 0, .int .i64 0, .slice none 0 0, .int .i64 0, .int .u8 0, .int .u16 0] 63)).alloc (.cells #[.int .i64 0, .int .i64 0] 29)).setCells w1.heap.size 0 [ins, .int .i64 (ps 0), .int .i64 (ps 1), .int .i64 (ps 2), .int .i64 (ps 3), .int .i64 (ps 4), .int .i64 (ps 5), .int .i64 (ps 6), .int .i64 (ps 7), .int .i64 (ps 8), .int .i64 (ps 9), .int .i64 (ps 10), .int .i64 (ps 11), .int .i64 (ps 12), .int .i64 (ps 13), .int .i64 (ps 14), .int .i64 (ps 15), .int .i64 (ps 16), .int .i64 (ps 17), .int .i64 (ps 18), .int .i64 (ps 19), fv, .int .i64 k, .int .u8 pt, .int .u16 kd] = X at *
  have hl0 := HLT.out
  have hlx := HK5.out
  have ht3 := there_of_block HK3.out 2 rfl
  refine wpList_store_mid rfl 29 (.tmp 5) (.tmp 10) rfl (w1.heap.size + 1) 0 #[.int .i64 e1, .int .i64 e2] rfl rfl ht3 (by kernel_rfl) (by simp [Value.oneCell']) ?_
  simp only [Act.put]
  have hgx := setCells_grown (w1.heap.size + 1) [.int .i64 e1, .int .i64 e2] 0 X
  have HY1 : Hid ((X.setCells (w1.heap.size + 1) 0 [.int .i64 e1, .int .i64 e2]).heap[w1.heap.size]? = some (.cells #[ins, .int .i64 (ps 0), .int .i64 (ps 1), .int .i64 (ps 2), .int .i64 (ps 3), .int .i64 (ps 4), .int .i64 (ps 5), .int .i64 (ps 6), .int .i64 (ps 7), .int .i64 (ps 8), .int .i64 (ps 9), .int .i64 (ps 10), .int .i64 (ps 11), .int .i64 (ps 12), .int .i64 (ps 13), .int .i64 (ps 14), .int .i64 (ps 15), .int .i64 (ps 16), .int .i64 (ps 17), .int .i64 (ps 18), .int .i64 (ps 19), fv, .int .i64 k, .int .u8 pt, .int .u16 kd] 63 (0, 0))) := (hgx.block _ (by omega) (by simp)).trans HK2.out
  have HY2 := hide (setCells_all [.int .i64 e1, .int .i64 e2] HK3.out rfl)
  have HY3 := hide (below_grown HK4.out hgx (fun g e => by simp at e; omega))
  have HY4 : Hid (w1.heap.size + 1 < (X.setCells (w1.heap.size + 1) 0 [.int .i64 e1, .int .i64 e2]).heap.size) := Nat.lt_of_lt_of_le hlx hgx.size
  clear hgx ht3 HK1 HK2 HK3 HK4 HK5 hlx hone
  generalize X.setCells (w1.heap.size + 1) 0 [.int .i64 e1, .int .i64 e2] = Y at *
  go_wp2_with fail
  have kz := (HY3.out.block (w.heap.size + 1) (by omega)).trans HZB.out
  have ks := (HY3.out.block (w.heap.size + 2) (by omega)).trans HSB.out
  have hsz : w.heap.size + 2 < Y.heap.size := by have := HY3.out.size; omega
  have hly := HY4.out
  have hgy1 := setCells_grown (w.heap.size + 1) [.int .i64 (ps 0), .int .i64 (ps 1), .int .i64 (ps 2), .int .i64 (ps 3), .int .i64 (ps 4), .int .i64 (ps 5), .int .i64 (ps 6), .int .i64 (ps 7), .int .i64 (ps 8), .int .i64 (ps 9), .int .i64 (ps 10), .int .i64 (ps 11), .int .i64 (ps 12), .int .i64 (ps 13), .int .i64 (ps 14), .int .i64 (ps 15), .int .i64 (ps 16), .int .i64 (ps 17), .int .i64 (ps 18), .int .i64 (ps 19)] 0 Y.drew
  have hp1 := setCells_all (w := Y.drew) [.int .i64 (ps 0), .int .i64 (ps 1), .int .i64 (ps 2), .int .i64 (ps 3), .int .i64 (ps 4), .int .i64 (ps 5), .int .i64 (ps 6), .int .i64 (ps 7), .int .i64 (ps 8), .int .i64 (ps 9), .int .i64 (ps 10), .int .i64 (ps 11), .int .i64 (ps 12), .int .i64 (ps 13), .int .i64 (ps 14), .int .i64 (ps 15), .int .i64 (ps 16), .int .i64 (ps 17), .int .i64 (ps 18), .int .i64 (ps 19)] kz rfl
  have hgy2 := setCells_grown (w.heap.size + 2) [.int .i64 e1, .int .i64 e2] 0 (Y.drew.setCells (w.heap.size + 1) 0 [.int .i64 (ps 0), .int .i64 (ps 1), .int .i64 (ps 2), .int .i64 (ps 3), .int .i64 (ps 4), .int .i64 (ps 5), .int .i64 (ps 6), .int .i64 (ps 7), .int .i64 (ps 8), .int .i64 (ps 9), .int .i64 (ps 10), .int .i64 (ps 11), .int .i64 (ps 12), .int .i64 (ps 13), .int .i64 (ps 14), .int .i64 (ps 15), .int .i64 (ps 16), .int .i64 (ps 17), .int .i64 (ps 18), .int .i64 (ps 19)])
  have ks2 := (hgy1.block (w.heap.size + 2) hsz (by simp)).trans ks
  have hp2 := setCells_all (w := Y.drew.setCells (w.heap.size + 1) 0 [.int .i64 (ps 0), .int .i64 (ps 1), .int .i64 (ps 2), .int .i64 (ps 3), .int .i64 (ps 4), .int .i64 (ps 5), .int .i64 (ps 6), .int .i64 (ps 7), .int .i64 (ps 8), .int .i64 (ps 9), .int .i64 (ps 10), .int .i64 (ps 11), .int .i64 (ps 12), .int .i64 (ps 13), .int .i64 (ps 14), .int .i64 (ps 15), .int .i64 (ps 16), .int .i64 (ps 17), .int .i64 (ps 18), .int .i64 (ps 19)]) [.int .i64 e1, .int .i64 e2] ks2 rfl
  have HP1 : Hid (((Y.drew.setCells (w.heap.size + 1) 0 [.int .i64 (ps 0), .int .i64 (ps 1), .int .i64 (ps 2), .int .i64 (ps 3), .int .i64 (ps 4), .int .i64 (ps 5), .int .i64 (ps 6), .int .i64 (ps 7), .int .i64 (ps 8), .int .i64 (ps 9), .int .i64 (ps 10), .int .i64 (ps 11), .int .i64 (ps 12), .int .i64 (ps 13), .int .i64 (ps 14), .int .i64 (ps 15), .int .i64 (ps 16), .int .i64 (ps 17), .int .i64 (ps 18), .int .i64 (ps 19)]).setCells (w.heap.size + 2) 0 [.int .i64 e1, .int .i64 e2]).heap[w.heap.size + 1]? = some (.cells #[.int .i64 (ps 0), .int .i64 (ps 1), .int .i64 (ps 2), .int .i64 (ps 3), .int .i64 (ps 4), .int .i64 (ps 5), .int .i64 (ps 6), .int .i64 (ps 7), .int .i64 (ps 8), .int .i64 (ps 9), .int .i64 (ps 10), .int .i64 (ps 11), .int .i64 (ps 12), .int .i64 (ps 13), .int .i64 (ps 14), .int .i64 (ps 15), .int .i64 (ps 16), .int .i64 (ps 17), .int .i64 (ps 18), .int .i64 (ps 19)] 48 (0, 0))) := (hgy2.block (w.heap.size + 1) (by have h2 := hgy1.size; have h3 : Y.drew.heap.size = Y.heap.size := rfl; omega) (by simp)).trans hp1
  have HP2 := hide hp2
  have HBF := hide (below_grown (below_grown ((HB0.out.trans (HY3.out.mono HB0.out.size)).drew) hgy1 (fun g e => by simp at e; omega)) hgy2 (fun g e => by simp at e; omega))
  have ht1 := there_of_block (w := Y.drew) kz 20 rfl
  have ht2 := there_of_block ks2 2 rfl
  have hC0 : Y.drew.heap[w1.heap.size]? = Y.heap[w1.heap.size]? ∧ Y.drew.heap[w1.heap.size + 1]? = Y.heap[w1.heap.size + 1]? := ⟨rfl, rfl⟩
  have hC1 : (Y.drew.setCells (w.heap.size + 1) 0 [.int .i64 (ps 0), .int .i64 (ps 1), .int .i64 (ps 2), .int .i64 (ps 3), .int .i64 (ps 4), .int .i64 (ps 5), .int .i64 (ps 6), .int .i64 (ps 7), .int .i64 (ps 8), .int .i64 (ps 9), .int .i64 (ps 10), .int .i64 (ps 11), .int .i64 (ps 12), .int .i64 (ps 13), .int .i64 (ps 14), .int .i64 (ps 15), .int .i64 (ps 16), .int .i64 (ps 17), .int .i64 (ps 18), .int .i64 (ps 19)]).heap[w1.heap.size]? = Y.heap[w1.heap.size]? ∧ (Y.drew.setCells (w.heap.size + 1) 0 [.int .i64 (ps 0), .int .i64 (ps 1), .int .i64 (ps 2), .int .i64 (ps 3), .int .i64 (ps 4), .int .i64 (ps 5), .int .i64 (ps 6), .int .i64 (ps 7), .int .i64 (ps 8), .int .i64 (ps 9), .int .i64 (ps 10), .int .i64 (ps 11), .int .i64 (ps 12), .int .i64 (ps 13), .int .i64 (ps 14), .int .i64 (ps 15), .int .i64 (ps 16), .int .i64 (ps 17), .int .i64 (ps 18), .int .i64 (ps 19)]).heap[w1.heap.size + 1]? = Y.heap[w1.heap.size + 1]? := ⟨hgy1.block _ (by show _ < Y.heap.size; omega) (by simp; omega), hgy1.block _ (by show _ < Y.heap.size; omega) (by simp; omega)⟩
  have hC2 : ((Y.drew.setCells (w.heap.size + 1) 0 [.int .i64 (ps 0), .int .i64 (ps 1), .int .i64 (ps 2), .int .i64 (ps 3), .int .i64 (ps 4), .int .i64 (ps 5), .int .i64 (ps 6), .int .i64 (ps 7), .int .i64 (ps 8), .int .i64 (ps 9), .int .i64 (ps 10), .int .i64 (ps 11), .int .i64 (ps 12), .int .i64 (ps 13), .int .i64 (ps 14), .int .i64 (ps 15), .int .i64 (ps 16), .int .i64 (ps 17), .int .i64 (ps 18), .int .i64 (ps 19)]).setCells (w.heap.size + 2) 0 [.int .i64 e1, .int .i64 e2]).heap[w1.heap.size]? = Y.heap[w1.heap.size]? ∧ ((Y.drew.setCells (w.heap.size + 1) 0 [.int .i64 (ps 0), .int .i64 (ps 1), .int .i64 (ps 2), .int .i64 (ps 3), .int .i64 (ps 4), .int .i64 (ps 5), .int .i64 (ps 6), .int .i64 (ps 7), .int .i64 (ps 8), .int .i64 (ps 9), .int .i64 (ps 10), .int .i64 (ps 11), .int .i64 (ps 12), .int .i64 (ps 13), .int .i64 (ps 14), .int .i64 (ps 15), .int .i64 (ps 16), .int .i64 (ps 17), .int .i64 (ps 18), .int .i64 (ps 19)]).setCells (w.heap.size + 2) 0 [.int .i64 e1, .int .i64 e2]).heap[w1.heap.size + 1]? = Y.heap[w1.heap.size + 1]? :=
    ⟨(hgy2.block _ (by have h2 := hgy1.size; have h3 : Y.drew.heap.size = Y.heap.size := rfl; omega) (by simp; omega)).trans hC1.1, (hgy2.block _ (by have h2 := hgy1.size; have h3 : Y.drew.heap.size = Y.heap.size := rfl; omega) (by simp; omega)).trans hC1.2⟩
  have LC1 : ∀ w' : World, (w'.heap[w1.heap.size]? = Y.heap[w1.heap.size]? ∧ w'.heap[w1.heap.size + 1]? = Y.heap[w1.heap.size + 1]?) → w'.rangeAt w1.heap.size 1 [.int .i64 (ps 0), .int .i64 (ps 1), .int .i64 (ps 2), .int .i64 (ps 3), .int .i64 (ps 4), .int .i64 (ps 5), .int .i64 (ps 6), .int .i64 (ps 7), .int .i64 (ps 8), .int .i64 (ps 9), .int .i64 (ps 10), .int .i64 (ps 11), .int .i64 (ps 12), .int .i64 (ps 13), .int .i64 (ps 14), .int .i64 (ps 15), .int .i64 (ps 16), .int .i64 (ps 17), .int .i64 (ps 18), .int .i64 (ps 19)] := fun w' h => range_mid (cs := [ins, .int .i64 (ps 0), .int .i64 (ps 1), .int .i64 (ps 2), .int .i64 (ps 3), .int .i64 (ps 4), .int .i64 (ps 5), .int .i64 (ps 6), .int .i64 (ps 7), .int .i64 (ps 8), .int .i64 (ps 9), .int .i64 (ps 10), .int .i64 (ps 11), .int .i64 (ps 12), .int .i64 (ps 13), .int .i64 (ps 14), .int .i64 (ps 15), .int .i64 (ps 16), .int .i64 (ps 17), .int .i64 (ps 18), .int .i64 (ps 19), fv, .int .i64 k, .int .u8 pt, .int .u16 kd]) (h.1.trans HY1.out) 1 20
  have LC2 : ∀ w' : World, (w'.heap[w1.heap.size]? = Y.heap[w1.heap.size]? ∧ w'.heap[w1.heap.size + 1]? = Y.heap[w1.heap.size + 1]?) → w'.rangeAt (w1.heap.size + 1) 0 [.int .i64 e1, .int .i64 e2] := fun w' h => range_of_block (h.2.trans HY2.out)
  clear hgy1 hp1 hgy2 hp2 kz ks ks2
  have hmix : Try.prog.follows .mixedOrders = true := by kernel_rfl
  refine (wpIn_wide (n := 0)).1 ?_
  refine wpIn_normal (wpIn_region_any hmix (wpAnyE_sound (C := fun w' => w'.heap[w1.heap.size]? = Y.heap[w1.heap.size]? ∧ w'.heap[w1.heap.size + 1]? = Y.heap[w1.heap.size + 1]?) (E := fun i => false) _ _ _ _ ?_))
  change wpAnyE _ _ _ _ _ _ _ _ _ _ _ (World.drew _)
  refine wpAnyE_takeD (i := 0) (some 11) (v := .pointer (some ⟨w1.heap.size, 1, none⟩)) (fun _ => trivial) (by kernel_rfl) rfl rfl (by kernel_rfl) (by kernel_rfl) (by kernel_rfl) (by kernel_rfl) (fun _ _ _ h => by cases h.1) hC0 (Or.inl ⟨by rfl, fun w' hC => by clear hC; go_simp⟩) ?_
  simp only [Act.put, List.setIfInBounds_toArray, List.set_cons_succ, List.set_cons_zero]
  refine wpAnyE_takeD (i := 1) (some 12) (v := .agg #[.int .i64 (ps 0), .int .i64 (ps 1), .int .i64 (ps 2), .int .i64 (ps 3), .int .i64 (ps 4), .int .i64 (ps 5), .int .i64 (ps 6), .int .i64 (ps 7), .int .i64 (ps 8), .int .i64 (ps 9), .int .i64 (ps 10), .int .i64 (ps 11), .int .i64 (ps 12), .int .i64 (ps 13), .int .i64 (ps 14), .int .i64 (ps 15), .int .i64 (ps 16), .int .i64 (ps 17), .int .i64 (ps 18), .int .i64 (ps 19)]) (fun _ => trivial) (by kernel_rfl) rfl rfl (by kernel_rfl) (by kernel_rfl) (by kernel_rfl) (by kernel_rfl) (fun _ _ _ h => by cases h.1) hC0 (yieldsC_load rfl 48 (.tmp 11) rfl w1.heap.size 1 rfl [.int .i64 (ps 0), .int .i64 (ps 1), .int .i64 (ps 2), .int .i64 (ps 3), .int .i64 (ps 4), .int .i64 (ps 5), .int .i64 (ps 6), .int .i64 (ps 7), .int .i64 (ps 8), .int .i64 (ps 9), .int .i64 (ps 10), .int .i64 (ps 11), .int .i64 (ps 12), .int .i64 (ps 13), .int .i64 (ps 14), .int .i64 (ps 15), .int .i64 (ps 16), .int .i64 (ps 17), .int .i64 (ps 18), .int .i64 (ps 19)] _ LC1 Try.underlying48 rfl (by kernel_rfl)) ?_
  simp only [Act.put, List.setIfInBounds_toArray, List.set_cons_succ, List.set_cons_zero]
  refine wpAnyE_takeD (i := 2) (some 13) (v := .agg #[.int .i64 e1, .int .i64 e2]) (fun _ => trivial) (by kernel_rfl) rfl rfl (by kernel_rfl) (by kernel_rfl) (by kernel_rfl) (by kernel_rfl) (fun _ _ _ h => by cases h.1) hC0 (yieldsC_load rfl 29 (.tmp 5) rfl (w1.heap.size + 1) 0 rfl [.int .i64 e1, .int .i64 e2] _ LC2 Try.underlying29 rfl (by kernel_rfl)) ?_
  simp only [Act.put, List.setIfInBounds_toArray, List.set_cons_succ, List.set_cons_zero]
  refine wpAnyE_ready (rs := [3]) (by kernel_rfl) (by simp) ?_
  refine AllE.cons rfl (fun K hK => ?_) AllE.nil
  refine stepAny_store _ (fun _ => trivial) rfl 48 (.tmp 2) (.tmp 12) rfl (w.heap.size + 1) 0 #[.int .i64 (ps 0), .int .i64 (ps 1), .int .i64 (ps 2), .int .i64 (ps 3), .int .i64 (ps 4), .int .i64 (ps 5), .int .i64 (ps 6), .int .i64 (ps 7), .int .i64 (ps 8), .int .i64 (ps 9), .int .i64 (ps 10), .int .i64 (ps 11), .int .i64 (ps 12), .int .i64 (ps 13), .int .i64 (ps 14), .int .i64 (ps 15), .int .i64 (ps 16), .int .i64 (ps 17), .int .i64 (ps 18), .int .i64 (ps 19)] rfl rfl ht1 (by kernel_rfl) (by simp [Value.oneCell']) ?_
  refine hK _ _ (.inr hC1) ?_
  clear hK K
  refine wpAnyE_ready (rs := [4]) (by kernel_rfl) (by simp) ?_
  refine AllE.cons rfl (fun K hK => ?_) AllE.nil
  refine stepAny_store _ (fun _ => trivial) rfl 29 (.tmp 3) (.tmp 13) rfl (w.heap.size + 2) 0 #[.int .i64 e1, .int .i64 e2] rfl rfl ht2 (by kernel_rfl) (by simp [Value.oneCell']) ?_
  refine hK _ _ (.inr hC2) ?_
  clear hK K
  refine wpAnyE_done (by kernel_rfl) ⟨rfl, ?_⟩ _
  clear ht1 ht2 hC1 hC2 hC0 LC1 LC2
  dsimp only
  generalize (Y.drew.setCells (w.heap.size + 1) 0 [.int .i64 (ps 0), .int .i64 (ps 1), .int .i64 (ps 2), .int .i64 (ps 3), .int .i64 (ps 4), .int .i64 (ps 5), .int .i64 (ps 6), .int .i64 (ps 7), .int .i64 (ps 8), .int .i64 (ps 9), .int .i64 (ps 10), .int .i64 (ps 11), .int .i64 (ps 12), .int .i64 (ps 13), .int .i64 (ps 14), .int .i64 (ps 15), .int .i64 (ps 16), .int .i64 (ps 17), .int .i64 (ps 18), .int .i64 (ps 19)]).setCells (w.heap.size + 2) 0 [.int .i64 e1, .int .i64 e2] = Z at *
  rw [then_normalW]
  go_wp2_with fail
  exact HRET.out _ Z ps rfl rfl rfl HP1.out HP2.out HBF.out HFS.out
end Go.Proofs.Ytcckepjpehjijaa

/-
  Cut of the package layout.
-/
namespace Go.Proofs.Ytcckepjpehjijaa
open Go.RowKit
set_option linter.unusedVariables false
set_option linter.unusedSimpArgs false
set_option maxRecDepth 10000

/-- What Cut answers. -/
def CutQ (w w' : World) (b : Int) (l : List InstT) (e : Ending) : Prop :=
  ∃ fv : Value, e = .returned (.tuple #[fv, .agg #[.int .i64 (layE b l).1, .int .i64 ((layE b l).2 : Int)]]) ∧ Below w.heap.size w w' ∧ ((layE b l).1 ≠ 0 ∧ fv = .slice none 0 0 ∨ (layE b l).1 = 0 ∧ FuncsAt w' w.heap.size fv (cutTo l l.length))

set_option maxHeartbeats 8000000 in
theorem layCut_any (gen bnd : Int) (a : Option Addr) (n c : Nat) (l : List InstT) (w : World) (hv : InstsV w a l) (hok : InstsOk l) (hl : l.length = n) (hn : 40 * n ≤ 140737488351232) (g0 : 0 ≤ gen) (g1 : gen < 4294967296) (b0 : 0 ≤ bnd) (b1 : bnd < 4294967296) :
    Calls Try.prog 8 #[modV gen bnd a n c] w fun e w' => CutQ w w' bnd l e := by
  have hb0 : Below w.heap.size w ((w.alloc (.cells #[.int .u32 gen, .int .u32 bnd, .slice a n c] 25)).alloc (.cells #[.int .i64 0, .int .i64 0] 29)) := ((Below.refl _ w).alloc (Nat.le_refl _) _).alloc (by simp) _
  have hC := walkOver_any gen bnd a n c l _ (hv.below hb0) hok hl hn g0 g1 b0 b1
  have HSB : Hid (((w.alloc (.cells #[.int .u32 gen, .int .u32 bnd, .slice a n c] 25)).alloc (.cells #[.int .i64 0, .int .i64 0] 29)).heap[w.heap.size + 1]? = some (.cells #[.int .i64 0, .int .i64 0] 29 (0, 0))) := by
    have := heap_alloc_new (w.alloc (.cells #[.int .u32 gen, .int .u32 bnd, .slice a n c] 25)) (.cells #[.int .i64 0, .int .i64 0] 29)
    rw [World.size_alloc] at this
    exact this
  have HLT : Hid (w.heap.size + 1 < ((w.alloc (.cells #[.int .u32 gen, .int .u32 bnd, .slice a n c] 25)).alloc (.cells #[.int .i64 0, .int .i64 0] 29)).heap.size) := by show _ < _; simp
  have HB0 := hide hb0
  unfold WalkQ at hC
  unfold CutQ
  generalize layE bnd l = L at *
  obtain ⟨e1, e2⟩ := L
  unfold modV at *
  clear hb0 hv hok hl
  go_enter Try.func8, Try.ntmps8
  go_wp2_with fail
  generalize (w.alloc (.cells #[.int .u32 gen, .int .u32 bnd, .slice a n c] 25)).alloc (.cells #[.int .i64 0, .int .i64 0] 29) = W0 at *
  refine hC.mono ?_
  rintro e w1 ⟨ins, fv, ps, k, pt, kd, rfl, hb1, hone, hfs⟩
  have HFS := hide hfs
  have HB1 := hide hb1
  clear hC hfs
  unfold walkV
  obtain ⟨k1, k2, k3, k4, k5, k6⟩ := kept_walk w W0 w1 HB0.out hb1 ins fv ps k pt kd 0 0
  have HK1 := hide k1
  have HK2 := hide k2
  have HK3 := hide k3
  have HK4 := hide k4
  have HK5 := hide k5
  have HK6 := hide k6
  have hw1 : W0.heap.size ≤ w1.heap.size := hb1.size
  clear k1 k2 k3 k4 k5 k6 hb1
  simp only
  go_wp2_with (with_reducible refine stopS 63 ?_)
  refine wpList_store_mid rfl 63 (.tmp 4) (.tmp 9) rfl w1.heap.size 0 #[ins, .int .i64 (ps 0), .int .i64 (ps 1), .int .i64 (ps 2), .int .i64 (ps 3), .int .i64 (ps 4), .int .i64 (ps 5), .int .i64 (ps 6), .int .i64 (ps 7), .int .i64 (ps 8), .int .i64 (ps 9), .int .i64 (ps 10), .int .i64 (ps 11), .int .i64 (ps 12), .int .i64 (ps 13), .int .i64 (ps 14), .int .i64 (ps 15), .int .i64 (ps 16), .int .i64 (ps 17), .int .i64 (ps 18), .int .i64 (ps 19), fv, .int .i64 k, .int .u8 pt, .int .u16 kd] rfl rfl HK1.out (by kernel_rfl) (by simp [hone.1, hone.2]; simp [Value.oneCell']) ?_
  simp only [Act.put]
  generalize ((w1.alloc (.cells #[.slice none 0 0, .int .i64 0, .int .i64 0, .int .i64 0, .int .i64 0, .int .i64 0, .int .i64 0, .int .i64 0, .int .i64 0, .int .i64 0, .int .i64 0, .int .i64 0, .int .i64 0, .int .i64 0, .int .i64 0, .int .i64 0, .int .i64 0, .int .i64 0, .int .i64 0, .int .i64 0, .int .i64 0, .slice none 0 0, .int .i64 0, .int .u8 0, .int .u16 0] 63)).alloc (.cells #[.int .i64 0, .int .i64 0] 29)).setCells w1.heap.size 0 [ins, .int .i64 (ps 0), .int .i64 (ps 1), .int .i64 (ps 2), .int .i64 (ps 3), .int .i64 (ps 4), .int .i64 (ps 5), .int .i64 (ps 6), .int .i64 (ps 7), .int .i64 (ps 8), .int .i64 (ps 9), .int .i64 (ps 10), .int .i64 (ps 11), .int .i64 (ps 12), .int .i64 (ps 13), .int .i64 (ps 14), .int .i64 (ps 15), .int .i64 (ps 16), .int .i64 (ps 17), .int .i64 (ps 18), .int .i64 (ps 19), fv, .int .i64 k, .int .u8 pt, .int .u16 kd] = X at *
  have hl0 := HLT.out
  have hlx := HK5.out
  have ht3 := there_of_block HK3.out 2 rfl
  refine wpList_store_mid rfl 29 (.tmp 5) (.tmp 10) rfl (w1.heap.size + 1) 0 #[.int .i64 e1, .int .i64 (e2 : Nat)] rfl rfl ht3 (by kernel_rfl) (by simp [Value.oneCell']) ?_
  simp only [Act.put]
  have hgx := setCells_grown (w1.heap.size + 1) [.int .i64 e1, .int .i64 (e2 : Nat)] 0 X
  have y21 := (one_block ((hgx.block _ (by omega) (by simp)).trans HK2.out)).1 21
  obtain ⟨cs, _⟩ := one_block (setCells_all [.int .i64 e1, .int .i64 (e2 : Nat)] HK3.out rfl)
  have s0 := cs 0
  have s1 := cs 1
  have HY3 := hide (below_grown HK4.out hgx (fun g e => by simp at e; omega))
  have HY4 : Hid (w1.heap.size + 1 < (X.setCells (w1.heap.size + 1) 0 [.int .i64 e1, .int .i64 (e2 : Nat)]).heap.size) := Nat.lt_of_lt_of_le hlx hgx.size
  have HG : Hid (w1.grownBy (X.setCells (w1.heap.size + 1) 0 [.int .i64 e1, .int .i64 (e2 : Nat)]) none) := ⟨hgx.os.trans HK6.out.os, hgx.tape.trans HK6.out.tape, hgx.output.trans HK6.out.output, Nat.le_trans HK6.out.size hgx.size, fun i hi hn => (hgx.block i (by omega) (by simp; omega)).trans (HK6.out.block i hi hn)⟩
  clear hgx ht3 HK1 HK2 HK3 HK4 HK5 HK6 hlx hone cs
  generalize X.setCells (w1.heap.size + 1) 0 [.int .i64 e1, .int .i64 (e2 : Nat)] = Y at *
  go_wp2_with fail
  have kr := (HY3.out.block (w.heap.size + 1) hl0).trans HSB.out
  obtain ⟨cr, fr⟩ := one_block kr
  have r0 := cr 0
  have r1 := cr 1
  have hly := HY4.out
  have ne1 : w1.heap.size + 1 ≠ w.heap.size + 1 := by omega
  have ne2 : w1.heap.size ≠ w.heap.size + 1 := by omega
  have hg2 := setCells_grown (w.heap.size + 1) [.int .i64 e1, .int .i64 (e2 : Nat)] 0 Y
  have HP2 := hide (setCells_all (w := Y) [.int .i64 e1, .int .i64 (e2 : Nat)] kr rfl)
  have HBF := hide (below_grown (HB0.out.trans (HY3.out.mono HB0.out.size)) hg2 (fun g e => by simp at e; omega))
  have HFN : Hid (e1 ≠ 0 ∧ fv = .slice none 0 0 ∨ e1 = 0 ∧ FuncsAt (Y.setCells (w.heap.size + 1) 0 [.int .i64 e1, .int .i64 (e2 : Nat)]).drew w.heap.size fv (cutTo l l.length)) := by
    rcases HFS.out with ⟨h1, h2, _⟩ | ⟨h1, _, h3⟩
    · exact .inl ⟨h1, h2⟩
    · refine .inr ⟨h1, ?_⟩
      have h4 := h3.kept HG.out (fun g e => by cases e)
      exact ((h4.kept hg2 (fun g e => by simp at e; omega)).below ((Below.refl _ _).drew)).lower HB0.out.size
  clear kr cr hg2
  go_region
  show Exit.then _ _ _ _ (Y.setCells (w.heap.size + 1) 0 [.int .i64 e1, .int .i64 (e2 : Nat)]).drew
  have HP3 : Hid ((Y.setCells (w.heap.size + 1) 0 [.int .i64 e1, .int .i64 (e2 : Nat)]).drew.heap[w.heap.size + 1]? = some (.cells #[.int .i64 e1, .int .i64 (e2 : Nat)] 29 (0, 0))) := HP2.out
  have HB3 : Hid (Below w.heap.size w (Y.setCells (w.heap.size + 1) 0 [.int .i64 e1, .int .i64 (e2 : Nat)]).drew) := HBF.out.drew
  clear y21 s0 s1 r0 r1 fr HP2 HBF HY3 HY4 HG
  generalize (Y.setCells (w.heap.size + 1) 0 [.int .i64 e1, .int .i64 (e2 : Nat)]).drew = Z at *
  rw [then_normalW]
  go_wp2_with fail
  have r6 := run_loadVar_mid (P := Try.prog) Z (w.heap.size + 1) 0 29 [.int .i64 e1, .int .i64 (e2 : Nat)] _ (range_of_block HP3.out) Try.underlying29 rfl (by kernel_rfl)
  refine bodyPost_ret (v := .tuple #[fv, .agg #[.int .i64 e1, .int .i64 (e2 : Nat)]]) ?_ rfl ⟨fv, rfl, HB3.out, HFN.out⟩
  simp only [results, Try.results8, List.mapM_toArray, List.mapM_cons, List.mapM_nil, asAddr, Sem.run_bind, Sem.run_pure, Result.andThen_ok, bind_assoc, pure_bind, Sem.run_map, map_pure, Array.getD_eq_getD_getElem?, List.getElem?_toArray, List.getElem?_cons_succ, List.getElem?_cons_zero, Option.getD_some, r6]
  rfl
end Go.Proofs.Ytcckepjpehjijaa

/-
  Functions read cell by cell.
-/
namespace Go.Proofs.Ytcckepjpehjijaa
open Go.RowKit
set_option linter.unusedVariables false
set_option linter.unusedSimpArgs false

def nthB (bs : List (Int × Int × Int)) (k : Nat) : Int × Int × Int := bs.getD k (0, 0, 0)
theorem own_len {w : World} {lo e size n : Nat} {v : Value} {xs : List Value} (h : w.ownsRow lo e size v n xs) : ∃ x c, v = .slice x n c := by
  obtain ⟨_, ⟨rfl, rfl⟩ | ⟨g, cap, cur, rfl, _⟩⟩ := h
  · exact ⟨none, 0, rfl⟩
  · exact ⟨_, _, rfl⟩
theorem cellsF_get (fs : List FuncT) (V : Bool → Nat → Value) : ∀ m j i, j < m → i < 5 → (cellsF fs V m)[j * 5 + i]? = (fC (nthF fs j) (V false j) (V true j))[i]?
  | 0, j, i, h, _ => absurd h (Nat.not_lt_zero j)
  | m + 1, j, i, h, hi => by
    by_cases e : j = m
    · subst e; exact cellsF_at fs V j i
    · rw [cellsF, List.getElem?_append_left (by rw [cellsF_len]; omega)]
      exact cellsF_get fs V m j i (by omega) hi
theorem bC_get : ∀ (bs : List (Int × Int × Int)) (k i : Nat), k < bs.length → i < 3 → (bs.flatMap bC)[k * 3 + i]? = (bC (nthB bs k))[i]?
  | [], k, i, h, _ => absurd h (Nat.not_lt_zero k)
  | b :: bs, 0, i, h, hi => by rw [List.flatMap_cons, List.getElem?_append_left (by show _ < 3; omega)]; simp [nthB]
  | b :: bs, k + 1, i, h, hi => by
    rw [List.flatMap_cons, List.getElem?_append_right (by show 3 ≤ _; omega)]
    have := bC_get bs k i (by simpa using h) hi
    rw [show (k + 1) * 3 + i - (bC b).length = k * 3 + i by show _ - 3 = _; omega, this]
    simp [nthB]
theorem FuncsAt.read {w : World} {lo : Nat} {fv : Value} {fs : List FuncT} (h : FuncsAt w lo fv fs) :
    ∃ x c, fv = .slice x fs.length c ∧ ∀ j, j < fs.length → ∃ F xp cp xq cq, x = some ⟨F, 0, none⟩ ∧ F < w.heap.size ∧
      w.cell? ⟨F, j * 5, none⟩ = some (.int .u32 (nthF fs j).1) ∧ w.cell? ⟨F, j * 5 + 1, none⟩ = some (.int .i64 (nthF fs j).2.1) ∧ w.cell? ⟨F, j * 5 + 2, none⟩ = some (.slice xp (nthF fs j).2.2.1.length cp) ∧ w.cell? ⟨F, j * 5 + 3, none⟩ = some (.slice xq (nthF fs j).2.2.2.1.length cq) ∧ w.cell? ⟨F, j * 5 + 4, none⟩ = some (.int .i64 (nthF fs j).2.2.2.2) ∧
      ∀ k, k < (nthF fs j).2.2.2.1.length → ∃ G, xq = some ⟨G, 0, none⟩ ∧ G < w.heap.size ∧ w.cell? ⟨G, k * 3, none⟩ = some (.int .u32 (nthB (nthF fs j).2.2.2.1 k).1) ∧ w.cell? ⟨G, k * 3 + 1, none⟩ = some (.int .i64 (nthB (nthF fs j).2.2.2.1 k).2.1) ∧ w.cell? ⟨G, k * 3 + 2, none⟩ = some (.int .i64 (nthB (nthF fs j).2.2.2.1 k).2.2) := by
  obtain ⟨V, hV⟩ := h
  have htop := hV.own none trivial
  obtain ⟨x, c, hx⟩ := own_len htop
  simp only [rowF] at hx
  refine ⟨x, c, hx, fun j hj => ?_⟩
  obtain ⟨F, c1, e, h1, h2, h3, h4, h5⟩ := own_form htop (show 0 < fs.length by omega)
  simp only [rowF] at e h5
  have hp := hV.own (some (false, j)) hj
  have hq := hV.own (some (true, j)) hj
  obtain ⟨xp, cp, hxp⟩ := own_len hp
  obtain ⟨xq, cq, hxq⟩ := own_len hq
  simp only [rowF] at hxp hxq
  have hc : ∀ i, i < 5 → w.cell? ⟨F, j * 5 + i, none⟩ = (fC (nthF fs j) (V false j) (V true j))[i]? := fun i hi => by
    rw [h5 _ (by have := hj; omega), cellsF_get fs V _ j i hj hi]
  rw [hxp, hxq] at hc
  rw [hx] at e
  injection e with e _ _
  refine ⟨F, xp, cp, xq, cq, e, h2, hc 0 (by omega), hc 1 (by omega), hc 2 (by omega), hc 3 (by omega), hc 4 (by omega), fun k hk => ?_⟩
  obtain ⟨G, c2, e2, k1, k2, k3, k4, k5⟩ := own_form hq (show 0 < _ by exact Nat.lt_of_le_of_lt (Nat.zero_le k) hk)
  simp only [rowF] at e2 k5
  rw [hxq] at e2
  injection e2 with e2 _ _
  have hc2 : ∀ i, i < 3 → w.cell? ⟨G, k * 3 + i, none⟩ = (bC (nthB (nthF fs j).2.2.2.1 k))[i]? := fun i hi => by
    rw [k5 _ (by have := hk; omega), bC_get _ k i hk hi]
  exact ⟨G, e2, k2, hc2 0 (by omega), hc2 1 (by omega), hc2 2 (by omega)⟩
end Go.Proofs.Ytcckepjpehjijaa
