/-
  Texts laid together in one: ArgInsts, SlicesEqualArgs, CodeSameInst, CodeSame, MathE.
-/
import Derived.ProofKit
import Derived.OpenShut
import Derived.SizedLaws
import Derived.Deep.Slices
import Derived.Deep.SlicePairs
import Derived.Lib.SmallJoins
import Derived.Test.YtpggcpnjcalfaabProg
import Derived.Test.YtpggcpnjcalfaabB01
import Derived.WalkSpells
import Derived.Deep.QuietTactic
import Derived.BigQuiet
import Derived.BigRegion
import Derived.Deep.RegionWith
import Derived.Deep.DrawnRows
import Derived.Test.YtpggcpnjcalfaabB03
import Derived.Test.YtpggcpnjcalfaabB15
import Derived.Test.YtpggcpnjcalfaabB18
/-
  What an argument that is an instruction, or a slice of instructions, holds: all within their bounds, each list within the reach of memory.
-/
namespace Go.Proofs.Ytpggcpnjcalfaab
open Go.ChangeShapes Go.WideShapes Go.ChangeAt Go.RowKit
set_option maxRecDepth 100000

theorem ArgInsts.cellsA : Try.prog.cellsOf 90 = 3 := by kernel_rfl
theorem ArgInsts.cells8 : Try.prog.cellsOf 5 = 1 := by kernel_rfl
theorem ArgInsts.cells32 : Try.prog.cellsOf 22 = 1 := by kernel_rfl
theorem ArgInsts.cellsS : Try.prog.cellsOf 9 = 1 := by kernel_rfl
theorem ArgInsts.bytesA : Try.prog.bytesOf 90 = 24 := by kernel_rfl
theorem ArgInsts.cells16 : Try.prog.cellsOf 40 = 1 := by kernel_rfl
theorem ArgInsts.cellsL : Try.prog.cellsOf 41 = 1 := by kernel_rfl

theorem ArgInsts.cellsI : Try.prog.cellsOf 43 = 4 := by kernel_rfl
theorem ArgInsts.bytesI : Try.prog.bytesOf 43 = 40 := by kernel_rfl

theorem weightsIn {H : Type} {P : Program} {e : TypeId} : ∀ {l : List (DataW H)} {d : DataW H}, d ∈ l → ∀ n ∈ d.weights P e, n ∈ DataW.weightsAll P e l
  | d0 :: l, d, hd, n, hn => by
    simp only [DataW.weightsAll, List.mem_append]
    rcases List.mem_cons.1 hd with rfl | h
    · exact Or.inl hn
    · exact Or.inr (weightsIn h n hn)

theorem argsV_mk {w : World} {x : Addr} {n : Nat} {f : Nat → ArgT} (h : ∀ i, i < n → w.cell? (x.add (i * 3)) = some (.int .u8 (f i).1) ∧ w.cell? (x.add (i * 3 + 1)) = some (.int .u32 (f i).2.1) ∧ w.cell? (x.add (i * 3 + 2)) = some (.string (f i).2.2)) : ArgsV w (some x) ((List.range n).map f) := by
  intro j hj
  rw [List.length_map, List.length_range] at hj
  have h0 := (h 0 (by omega)).1
  obtain ⟨b, off, spot⟩ := x
  have hs : spot = none := by simpa [Addr.add] using World.cell?_spot h0
  subst hs
  obtain ⟨h1, h2, h3⟩ := h j hj
  rw [Addr.add_lit] at h1 h2 h3
  have e : nthA ((List.range n).map f) j = f j := by simp [nthA, List.getD, hj]
  rw [e]
  exact ⟨b, off, rfl, World.block_lt_of_cell? _ _ h1, h1, by rw [Nat.add_assoc]; exact h2, by rw [Nat.add_assoc]; exact h3⟩

set_option maxHeartbeats 1000000 in
theorem open_args {H : Type} {enc : TypeId × Value → H} {w : World} {base fuel : Nat} {held : Bool} {a : Option Addr} {len cap : Nat} {d : DataW H} {ps : List MemPlace}
    (hf : DataW.trod enc Try.prog w base (fun _ => true) held fuel 41 [.slice a len cap] = some (d, ps)) (hs : ∀ n ∈ d.weights Try.prog 41, n ≤ reachBytes) :
    ∃ l : List ArgT, l.length = len ∧ ArgsV w a l ∧ ArgsOk l ∧ 24 * len ≤ 140737488351232 ∧ len ≤ cap := by
  rcases Go.Deep.open_slice Try.underlying41 hf with ⟨hcs, _⟩ | ⟨x, l, c, mm, nn, D, Pl, hcs, _, hl, hm, hmm, hx, hall⟩
  · simp at hcs
    obtain ⟨rfl, rfl, rfl⟩ := hcs
    exact ⟨[], rfl, argsV_nil, argsOk_nil, by omega, by omega⟩
  · simp at hcs
    obtain ⟨rfl, rfl, rfl⟩ := hcs
    simp only [Prod.mk.injEq] at hx
    obtain ⟨rfl, rfl⟩ := hx
    simp only [if_true] at hmm
    subst hmm
    have hs0 := hs ((((List.range len).map D).length + ((List.range (mm - len)).map fun j => D (len + j)).length) * Try.prog.bytesOf 90) (by simp [DataW.weights, Try.underlying41])
    rw [ArgInsts.bytesA] at hs0
    simp only [List.length_map, List.length_range, reachBytes] at hs0
    have key : ∀ i, i < len → ∃ r : ArgT, w.cell? (x.add (i * 3)) = some (.int .u8 r.1) ∧ w.cell? (x.add (i * 3 + 1)) = some (.int .u32 r.2.1) ∧ w.cell? (x.add (i * 3 + 2)) = some (.string r.2.2) ∧ ArgOk r := by
      intro i hi
      obtain ⟨cs, hc, ht⟩ := hall i (by omega)
      rw [ArgInsts.cellsA] at hc
      obtain ⟨_, hlen, hcell⟩ := World.cells?_some hc
      obtain ⟨xs, k, _, hxy, _, hxl, hfl⟩ := DataW.trod_struct Try.underlying90 ht
      have g0 := hfl 0 _ rfl
      have g1 := hfl 1 _ rfl
      have g2 := hfl 2 _ rfl
      match xs, hxl, cs, hlen with
      | [y0, y1, y2], _, [v0, v1, v2], _ =>
        have e0 := hcell 0 (by omega)
        have e1 := hcell 1 (by omega)
        have e2 := hcell 2 (by omega)
        rw [Go.Deep.add_add] at e0 e1 e2
        simp [ArgInsts.cells8, ArgInsts.cells32, ArgInsts.cellsS] at g0 g1 g2 e0 e1 e2
        obtain ⟨n0, q0, _, w0⟩ := DataW.trod_int Try.underlying5 g0
        obtain ⟨n1, q1, _, w1⟩ := DataW.trod_int Try.underlying22 g1
        obtain ⟨s2, q2, q3⟩ := DataW.trod_string Try.underlying9 g2
        simp at q0 q1 q2
        subst q0; subst q1; subst q2
        have b0 := bounds_u8 w0
        have b1 := bounds_u32 w1
        refine ⟨(n0, n1, s2), by simpa using e0, e1, e2, ?_⟩
        have hs2 := hs s2.size (by
          have hmem : D i ∈ (List.range len).map D := List.mem_map.2 ⟨i, List.mem_range.2 hi, rfl⟩
          simp only [DataW.weights, Try.underlying41, List.mem_cons, List.mem_append]
          refine Or.inr (Or.inl (weightsIn hmem _ ?_))
          simp only [Prod.mk.injEq] at hxy
          rw [hxy.1]
          simp only [DataW.weights, Try.underlying90]
          refine DataW.weights_mem_each (j := 2) rfl rfl _ ?_
          simp_all [DataW.weights])
        simp only [reachBytes] at hs2
        exact ⟨by simp; omega, by simp; omega, by simp; omega, by simp; omega, hs2⟩
    let f : Nat → ArgT := fun i => if h : i < len then Classical.choose (key i h) else noArg
    have hf' : ∀ i (h : i < len), f i = Classical.choose (key i h) := fun i h => dif_pos h
    refine ⟨(List.range len).map f, by simp, argsV_mk (fun i hi => ?_), fun j hj => ?_, by omega, hl⟩
    · rw [hf' i hi]
      obtain ⟨h1, h2, h3, _⟩ := Classical.choose_spec (key i hi)
      exact ⟨h1, h2, h3⟩
    · rw [List.length_map, List.length_range] at hj
      have e : nthA ((List.range len).map f) j = f j := by simp [nthA, List.getD, hj]
      rw [e, hf' j hj]
      exact (Classical.choose_spec (key j hj)).2.2.2

theorem open_inst {H : Type} {enc : TypeId × Value → H} {w : World} {b0 base : Nat} {held : Bool} {v : Value} {d : DataW H} {ps : List MemPlace}
    (hv : Value.okWide Try.prog w .any b0 43 v) (h : DataW.Trod enc Try.prog w base (fun _ => true) held 43 v d ps) (hs : ∀ n ∈ d.weights Try.prog 43, n ≤ reachBytes) :
    ∃ (x : InstT) (a : Option Addr) (n c : Nat), v = instV x a n c ∧ x.2.2.2.length = n ∧ InstOk x ∧ ArgsV w a x.2.2.2 ∧ n ≤ c := by
  obtain ⟨v0, v1, v2, v3, y0, y1, y2, y3, m, rfl, rfl, _, t0, t1, t2, t3⟩ := Go.Joins.open_agg4 Try.underlying43 (by kernel_rfl) (by kernel_rfl) hv h
  obtain ⟨n0, e0, _, w0⟩ := DataW.trod_int Try.underlying40 t0
  obtain ⟨n1, e1, _, w1⟩ := DataW.trod_int Try.underlying22 t1
  obtain ⟨n2, e2, _, w2⟩ := DataW.trod_int Try.underlying22 t2
  simp at e0 e1 e2
  subst e0; subst e1; subst e2
  have b0 := bounds_u16 w0
  have b1 := bounds_u32 w1
  have b2 := bounds_u32 w2
  obtain ⟨a, n, c, rfl⟩ : ∃ a n c, v3 = .slice a n c := by
    rcases Go.Deep.open_slice Try.underlying41 t3 with ⟨hcs, _⟩ | ⟨x, l, c, mm, nn, D, Pl, hcs, _⟩
    · simp at hcs; exact ⟨_, _, _, hcs⟩
    · simp at hcs; exact ⟨_, _, _, hcs⟩
  obtain ⟨l, hl, hv3, hok, hr, hc⟩ := open_args t3 (fun k hk => hs k (by
    simp only [DataW.weights, Try.underlying43]
    exact DataW.weights_mem_each (j := 3) rfl rfl _ hk))
  exact ⟨(n0, n1, n2, l), a, n, c, rfl, hl, ⟨by simp; omega, by simp; omega, by simp; omega, by simp; omega, by simp; omega, by simp; omega, hok, by rw [hl]; exact hr⟩, hv3, hc⟩

theorem instsV_mk {w : World} {x : Addr} {n : Nat} {f : Nat → InstT} (h : ∀ i, i < n → w.cell? (x.add (i * 4)) = some (.int .u16 (f i).1) ∧ w.cell? (x.add (i * 4 + 1)) = some (.int .u32 (f i).2.1) ∧ w.cell? (x.add (i * 4 + 2)) = some (.int .u32 (f i).2.2.1) ∧
    ∃ aj cj, w.cell? (x.add (i * 4 + 3)) = some (.slice aj (f i).2.2.2.length cj) ∧ ArgsV w aj (f i).2.2.2 ∧ (f i).2.2.2.length ≤ cj) : InstsV w (some x) ((List.range n).map f) := by
  intro j hj
  rw [List.length_map, List.length_range] at hj
  have h0 := (h 0 (by omega)).1
  obtain ⟨b, off, spot⟩ := x
  have hs : spot = none := by simpa [Addr.add] using World.cell?_spot h0
  subst hs
  obtain ⟨h1, h2, h3, aj, cj, h4, h5, h6⟩ := h j hj
  rw [Addr.add_lit] at h1 h2 h3 h4
  have e : nthI ((List.range n).map f) j = f j := by simp [nthI, List.getD, hj]
  rw [e]
  exact ⟨b, off, aj, cj, _, rfl, World.block_lt_of_cell? _ _ h1, h1, by rw [Nat.add_assoc]; exact h2, by rw [Nat.add_assoc]; exact h3, by rw [Nat.add_assoc]; exact h4, rfl, h5, h6⟩

set_option maxHeartbeats 1000000 in
theorem open_insts {H : Type} {enc : TypeId × Value → H} {w : World} {base fuel : Nat} {held : Bool} {a : Option Addr} {len cap : Nat} {d : DataW H} {ps : List MemPlace}
    (hf : DataW.trod enc Try.prog w base (fun _ => true) held fuel 23 [.slice a len cap] = some (d, ps)) (hs : ∀ n ∈ d.weights Try.prog 23, n ≤ reachBytes) :
    ∃ l : List InstT, l.length = len ∧ InstsV w a l ∧ InstsOk l ∧ 40 * len ≤ 140737488351232 ∧ len ≤ cap := by
  rcases Go.Deep.open_slice Try.underlying23 hf with ⟨hcs, _⟩ | ⟨x, l, c, mm, nn, D, Pl, hcs, _, hl, hm, hmm, hx, hall⟩
  · simp at hcs
    obtain ⟨rfl, rfl, rfl⟩ := hcs
    exact ⟨[], rfl, instsV_nil, instsOk_nil, by omega, by omega⟩
  · simp at hcs
    obtain ⟨rfl, rfl, rfl⟩ := hcs
    simp only [Prod.mk.injEq] at hx
    obtain ⟨rfl, rfl⟩ := hx
    simp only [if_true] at hmm
    subst hmm
    have hs0 := hs ((((List.range len).map D).length + ((List.range (mm - len)).map fun j => D (len + j)).length) * Try.prog.bytesOf 43) (by simp [DataW.weights, Try.underlying23])
    rw [ArgInsts.bytesI] at hs0
    simp only [List.length_map, List.length_range, reachBytes] at hs0
    have key : ∀ i, i < len → ∃ r : InstT, w.cell? (x.add (i * 4)) = some (.int .u16 r.1) ∧ w.cell? (x.add (i * 4 + 1)) = some (.int .u32 r.2.1) ∧ w.cell? (x.add (i * 4 + 2)) = some (.int .u32 r.2.2.1) ∧
        (∃ aj cj, w.cell? (x.add (i * 4 + 3)) = some (.slice aj r.2.2.2.length cj) ∧ ArgsV w aj r.2.2.2 ∧ r.2.2.2.length ≤ cj) ∧ InstOk r := by
      intro i hi
      obtain ⟨cs, hc, ht⟩ := hall i (by omega)
      rw [ArgInsts.cellsI] at hc
      obtain ⟨_, hlen, hcell⟩ := World.cells?_some hc
      obtain ⟨xs, k, _, hxy, _, hxl, hfl⟩ := DataW.trod_struct Try.underlying43 ht
      have g0 := hfl 0 _ rfl
      have g1 := hfl 1 _ rfl
      have g2 := hfl 2 _ rfl
      have g3 := hfl 3 _ rfl
      match xs, hxl, cs, hlen with
      | [y0, y1, y2, y3], _, [v0, v1, v2, v3], _ =>
        have e0 := hcell 0 (by omega)
        have e1 := hcell 1 (by omega)
        have e2 := hcell 2 (by omega)
        have e3 := hcell 3 (by omega)
        rw [Go.Deep.add_add] at e0 e1 e2 e3
        simp [ArgInsts.cells16, ArgInsts.cells32, ArgInsts.cellsL] at g0 g1 g2 g3 e0 e1 e2 e3
        obtain ⟨n0, q0, _, w0⟩ := DataW.trod_int Try.underlying40 g0
        obtain ⟨n1, q1, _, w1⟩ := DataW.trod_int Try.underlying22 g1
        obtain ⟨n2, q2, _, w2⟩ := DataW.trod_int Try.underlying22 g2
        simp at q0 q1 q2
        subst q0; subst q1; subst q2
        have b0 := bounds_u16 w0
        have b1 := bounds_u32 w1
        have b2 := bounds_u32 w2
        obtain ⟨a, n, c, rfl⟩ : ∃ a n c, v3 = .slice a n c := by
          rcases Go.Deep.open_slice Try.underlying41 g3 with ⟨hcs, _⟩ | ⟨x, l, c, mm, nn, D, Pl, hcs, _⟩
          · simp at hcs; exact ⟨_, _, _, hcs⟩
          · simp at hcs; exact ⟨_, _, _, hcs⟩
        obtain ⟨l, hl, hv3, hok, hr, hc⟩ := open_args g3 (fun k hk => hs k (by
          have hmem : D i ∈ (List.range len).map D := List.mem_map.2 ⟨i, List.mem_range.2 hi, rfl⟩
          simp only [DataW.weights, Try.underlying23, List.mem_cons, List.mem_append]
          refine Or.inr (Or.inl (weightsIn hmem _ ?_))
          simp only [Prod.mk.injEq] at hxy
          rw [hxy.1]
          simp only [DataW.weights, Try.underlying43]
          exact DataW.weights_mem_each (j := 3) rfl rfl _ hk))
        subst hl
        exact ⟨(n0, n1, n2, l), by simpa using e0, e1, e2, ⟨a, c, e3, hv3, hc⟩, by simp; omega, by simp; omega, by simp; omega, by simp; omega, by simp; omega, by simp; omega, hok, hr⟩
    let f : Nat → InstT := fun i => if h : i < len then Classical.choose (key i h) else noInst
    have hf' : ∀ i (h : i < len), f i = Classical.choose (key i h) := fun i h => dif_pos h
    refine ⟨(List.range len).map f, by simp, instsV_mk (fun i hi => ?_), fun j hj => ?_, by omega, hl⟩
    · rw [hf' i hi]
      obtain ⟨h1, h2, h3, h4, _⟩ := Classical.choose_spec (key i hi)
      exact ⟨h1, h2, h3, h4⟩
    · rw [List.length_map, List.length_range] at hj
      have e : nthI ((List.range len).map f) j = f j := by simp [nthI, List.getD, hj]
      rw [e, hf' j hj]
      exact (Classical.choose_spec (key j hj)).2.2.2.2

theorem open_module {H : Type} {enc : TypeId × Value → H} {w : World} {b0 base : Nat} {held : Bool} {v : Value} {d : DataW H} {ps : List MemPlace}
    (hv : Value.okWide Try.prog w .any b0 25 v) (h : DataW.Trod enc Try.prog w base (fun _ => true) held 25 v d ps) (hs : ∀ n ∈ d.weights Try.prog 25, n ≤ reachBytes) :
    ∃ (gen bound : Int) (a : Option Addr) (n c : Nat) (l : List InstT), v = .agg #[.int .u32 gen, .int .u32 bound, .slice a n c] ∧ 0 ≤ gen ∧ gen < 4294967296 ∧ 0 ≤ bound ∧ bound < 4294967296 ∧ l.length = n ∧ InstsV w a l ∧ InstsOk l ∧ 40 * n ≤ 140737488351232 ∧ n ≤ c := by
  obtain ⟨v0, v1, v3, y0, y1, y3, m, rfl, rfl, _, t0, t1, t3⟩ := Go.Joins.open_agg3 Try.underlying25 (by kernel_rfl) (by kernel_rfl) hv h
  obtain ⟨n0, e0, _, w0⟩ := DataW.trod_int Try.underlying22 t0
  obtain ⟨n1, e1, _, w1⟩ := DataW.trod_int Try.underlying22 t1
  simp at e0 e1
  subst e0; subst e1
  have b0 := bounds_u32 w0
  have b1 := bounds_u32 w1
  obtain ⟨a, n, c, rfl⟩ : ∃ a n c, v3 = .slice a n c := by
    rcases Go.Deep.open_slice Try.underlying23 t3 with ⟨hcs, _⟩ | ⟨x, l, c, mm, nn, D, Pl, hcs, _⟩
    · simp at hcs; exact ⟨_, _, _, hcs⟩
    · simp at hcs; exact ⟨_, _, _, hcs⟩
  obtain ⟨l, hl, hv3, hok, hr, hc⟩ := open_insts t3 (fun k hk => hs k (by
    simp only [DataW.weights, Try.underlying25]
    exact DataW.weights_mem_each (j := 2) rfl rfl _ hk))
  exact ⟨n0, n1, a, n, c, l, rfl, by omega, by omega, by omega, by omega, hl, hv3, hok, hr, hc⟩

theorem open_raw {H : Type} {enc : TypeId × Value → H} {w : World} {b0 base : Nat} {held : Bool} {v : Value} {d : DataW H} {ps : List MemPlace}
    (hv : Value.okWide Try.prog w .any b0 46 v) (h : DataW.Trod enc Try.prog w base (fun _ => true) held 46 v d ps) (hs : ∀ n ∈ d.weights Try.prog 46, n ≤ reachBytes) :
    ∃ (op : Int) (a : Option Addr) (n c : Nat) (zs : List Int), v = .agg #[.int .u16 op, .slice a n c] ∧ 0 ≤ op ∧ op < 65536 ∧ zs.length = n ∧ View .u32 w a zs ∧ Within 4294967296 zs ∧ 4 * n ≤ 140737488351232 ∧ n ≤ c := by
  obtain ⟨v0, v1, y0, y1, m, rfl, rfl, _, t0, t1⟩ := Go.Joins.open_agg2 Try.underlying46 (by kernel_rfl) (by kernel_rfl) hv h
  obtain ⟨n0, e0, _, w0⟩ := DataW.trod_int Try.underlying40 t0
  simp at e0
  subst e0
  have b0 := bounds_u16 w0
  rcases open_ints Try.underlying44 Try.underlying22 ArgInsts.cells32 t1 with ⟨hcs, _⟩ | ⟨y, l, c, zs, hcs, _, hl1, hm1, hz1, hx1, hcell, hwz⟩
  · simp at hcs
    subst hcs
    exact ⟨n0, none, 0, 0, [], rfl, by omega, by omega, rfl, view_nil, within_nil, by omega, by omega⟩
  · simp at hcs
    subst hcs
    simp only [if_true] at hz1
    have hs1 := hs (((lits (H := H) .u32 (zs.take l)).length + (lits (H := H) .u32 (zs.drop l)).length) * Try.prog.bytesOf 22) (by
      simp only [DataW.weights, Try.underlying46]
      refine DataW.weights_mem_each (j := 1) rfl rfl _ ?_
      have : y1.1 = DataW.slice (lits .u32 (zs.take l)) (lits .u32 (zs.drop l)) := by rw [hx1]
      rw [this]
      simp [DataW.weights, Try.underlying44])
    rw [show Try.prog.bytesOf 22 = 4 by kernel_rfl] at hs1
    simp only [lits, List.length_map, List.length_take, List.length_drop, reachBytes] at hs1
    have hlen : (zs.take l).length = l := by rw [List.length_take]; omega
    exact ⟨n0, some y, l, c, zs.take l, rfl, by omega, by omega, hlen, view_take hcell (by omega), within_take fun z hz => by have := bounds_u32 (hwz z hz); omega, by omega, hl1⟩

end Go.Proofs.Ytpggcpnjcalfaab

/-
  Equal of the package slices, of arguments, tells whether they are the same.
-/
namespace Go.Proofs.Ytpggcpnjcalfaab
open Go.RowKit
set_option maxRecDepth 10000

set_option maxHeartbeats 1000000 in
theorem argsEqual_any (xl yl : List ArgT) (ax ay : Option Addr) (n m cx cy : Nat) (w : World) (hx : ArgsV w ax xl) (hy : ArgsV w ay yl) (hlx : xl.length = n) (hly : yl.length = m) (hn : n ≤ 140737488351232) (hm : m ≤ 140737488351232) :
    Calls Try.prog 58 #[.slice ax n cx, .slice ay m cy] w fun e w' => e = .returned (.bool (decide (xl = yl))) ∧ ∃ q, w' = w.drewN q := by
  have HLX : Hid (xl.length = n) := hlx
  have HLY : Hid (yl.length = m) := hly
  clear hlx hly
  by_cases H : n = m
  · subst H
    go_enter Try.func58, Try.ntmps58
    go_wp2
    go_loopw [13] (fun i wr => ∃ k q : Nat, k ≤ n ∧ i = .int .i64 k ∧ wr = w.drewN q ∧ ∀ j, j < k → nthA xl j = nthA yl j) (fun i _ => n - (intOf i).toNat)
    case atStart => exact ⟨0, 0, Nat.zero_le _, rfl, rfl, fun j hj => by omega⟩
    case round =>
      obtain ⟨k, q, hk, rfl, rfl, hall⟩ := hrel
      have HALL : Hid (∀ j, j < k → nthA xl j = nthA yl j) := hall
      clear hall
      by_cases hlt : k < n
      · obtain ⟨b1, o1, rfl, _, c1, c2, c3⟩ := hx k (by rw [HLX.out]; exact hlt)
        obtain ⟨b2, o2, rfl, _, d1, d2, d3⟩ := hy k (by rw [HLY.out]; exact hlt)
        have hk0 : (0 : Int) ≤ (k : Int) := by omega
        have hki : (k : Int) < (n : Int) := by omega
        by_cases he : nthA xl k = nthA yl k
        · rw [← he] at d1 d2 d3
          obtain ⟨z, hz⟩ : ∃ z, z = nthA xl k := ⟨_, rfl⟩
          obtain ⟨z1, z2, z3⟩ := z
          rw [← hz] at c1 c2 c3 d1 d2 d3
          have HE : Hid (nthA xl k = nthA yl k) := he
          clear hx hy hz he
          go_wp2
          try (go_quiet (fail))
          go_wp2
          go_roundw
          case rel => exact ⟨k + 1, _, by omega, by go_num, rfl, fun j hj => by
            by_cases hjk : j < k
            · exact HALL.out j hjk
            · obtain rfl : j = k := by omega
              exact HE.out⟩
          case measure => simp [intOf]; omega
        · obtain ⟨z, hz⟩ : ∃ z, z = nthA xl k := ⟨_, rfl⟩
          obtain ⟨y, hyy⟩ : ∃ y, y = nthA yl k := ⟨_, rfl⟩
          rw [← hz] at c1 c2 c3
          rw [← hyy] at d1 d2 d3
          have HE : Hid (decide (xl = yl) = false) := decide_eq_false (fun h => he (by rw [h]))
          rw [← hz, ← hyy] at he
          obtain ⟨z1, z2, z3⟩ := z
          obtain ⟨y1, y2, y3⟩ := y
          clear hx hy hz hyy
          by_cases h1 : z1 = y1
          · subst h1
            by_cases h2 : z2 = y2
            · subst h2
              have h3 : ¬ z3.toList = y3.toList := fun h => he (by rw [str_inj h])
              clear he
              go_wp2
              try (go_quiet (fail))
              go_wp2
              go_ret
              exact ⟨by rw [HE.out]; rfl, _, World.drewN_drewN _ _ _⟩
            · clear he
              go_wp2
              try (go_quiet (fail))
              go_wp2
              go_ret
              exact ⟨by rw [HE.out]; rfl, _, World.drewN_drewN _ _ _⟩
          · clear he
            go_wp2
            try (go_quiet (fail))
            go_wp2
            go_ret
            exact ⟨by rw [HE.out]; rfl, _, World.drewN_drewN _ _ _⟩
      · go_wp2
        go_ret
        refine ⟨?_, q, rfl⟩
        obtain rfl : k = n := by omega
        show Ending.returned (.bool true) = _
        rw [decide_eq_true]
        exact (argsEq_iff _ _).2 ⟨by rw [HLX.out, HLY.out], fun j hj => HALL.out j (by rw [← HLX.out]; exact hj)⟩
  · have e1 : decide (xl = yl) = false := by
      rw [decide_eq_false]
      rintro rfl
      exact H (HLX.out.symm.trans HLY.out)
    rw [e1]
    have H2 : ¬ (n : Int) = (m : Int) := by omega
    go_enter Try.func58, Try.ntmps58
    go_wp2
    go_ret
    exact ⟨rfl, 0, rfl⟩

end Go.Proofs.Ytpggcpnjcalfaab

/-
  sameInst of the package code tells whether two instructions are the same.
-/
namespace Go.Proofs.Ytpggcpnjcalfaab
open Go.RowKit

set_option maxRecDepth 10000 in
set_option maxHeartbeats 1000000 in
theorem sameInst_any (x y : InstT) (ax ay : Option Addr) (n m cx cy : Nat) (w : World) (hx : ArgsV w ax x.2.2.2) (hy : ArgsV w ay y.2.2.2) (hlx : x.2.2.2.length = n) (hly : y.2.2.2.length = m) (hn : n ≤ 140737488351232) (hm : m ≤ 140737488351232) :
    Calls Try.prog 36 #[instV x ax n cx, instV y ay m cy] w fun e w' => e = .returned (.bool (decide (x = y))) ∧ Below w.heap.size w w' := by
  obtain ⟨xo, xt, xr, xl⟩ := x
  obtain ⟨yo, yt, yr, yl⟩ := y
  simp only at *
  have hF := fun (x : InstT) a n c w => frontOf_any x a n c w
  unfold instV at hF ⊢
  by_cases H : xo = yo ∧ xt = yt ∧ xr = yr
  · obtain ⟨rfl, rfl, rfl⟩ := H
    have e1 : decide ((xo, xt, xr, xl) = (xo, xt, xr, yl)) = decide (xl = yl) := by simp
    rw [e1]
    go_enter Try.func36, Try.ntmps36
    go_wp2_with fail
    have hB := two_boxes w (.cells #[.int .u16 xo, .int .u32 xt, .int .u32 xr, .slice ax n cx] 43) (.cells #[.int .u16 xo, .int .u32 xt, .int .u32 xr, .slice ay m cy] 43)
    have hs : w.heap.size + 2 = ((w.alloc (.cells #[.int .u16 xo, .int .u32 xt, .int .u32 xr, .slice ax n cx] 43)).alloc (.cells #[.int .u16 xo, .int .u32 xt, .int .u32 xr, .slice ay m cy] 43)).heap.size := by simp
    have hA := block_two w #[.int .u16 xo, .int .u32 xt, .int .u32 xr, .slice ax n cx] #[.int .u16 xo, .int .u32 xt, .int .u32 xr, .slice ay m cy] 43 43
    generalize ((w.alloc (.cells #[.int .u16 xo, .int .u32 xt, .int .u32 xr, .slice ax n cx] 43)).alloc (.cells #[.int .u16 xo, .int .u32 xt, .int .u32 xr, .slice ay m cy] 43)) = W at *
    have hx1 := hx.below hB
    have hy1 := hy.below hB
    have a0 := fun s : InC (Below W.heap.size W) => s.cell (p := ⟨w.heap.size, 0, none⟩) (by show w.heap.size < _; omega) (hA.1 0)
    have a1 := fun s : InC (Below W.heap.size W) => s.cell (p := ⟨w.heap.size, 1, none⟩) (by show w.heap.size < _; omega) (hA.1 1)
    have a2 := fun s : InC (Below W.heap.size W) => s.cell (p := ⟨w.heap.size, 2, none⟩) (by show w.heap.size < _; omega) (hA.1 2)
    have a3 := fun s : InC (Below W.heap.size W) => s.cell (p := ⟨w.heap.size, 3, none⟩) (by show w.heap.size < _; omega) (hA.1 3)
    have b0 := fun s : InC (Below W.heap.size W) => s.cell (p := ⟨w.heap.size + 1, 0, none⟩) (by show w.heap.size + 1 < _; omega) (hA.2 0)
    have b1 := fun s : InC (Below W.heap.size W) => s.cell (p := ⟨w.heap.size + 1, 1, none⟩) (by show w.heap.size + 1 < _; omega) (hA.2 1)
    have b2 := fun s : InC (Below W.heap.size W) => s.cell (p := ⟨w.heap.size + 1, 2, none⟩) (by show w.heap.size + 1 < _; omega) (hA.2 2)
    have b3 := fun s : InC (Below W.heap.size W) => s.cell (p := ⟨w.heap.size + 1, 3, none⟩) (by show w.heap.size + 1 < _; omega) (hA.2 3)
    have hG := fun (o t r : Int) (a : Option Addr) (n c : Nat) (s : InC (Below W.heap.size W)) => Calls.inC s (hF (o, t, r, []) a n c s.w)
    simp only at hG
    have hE := fun s : InC (Below W.heap.size W) => Calls.inC_drew s (argsEqual_any xl yl ax ay n m cx cy s.w (hx1.below s.ok) (hy1.below s.ok) hlx hly hn hm)
    clear hF hA hx hy hx1 hy1
    refine wp_region_class (C := Below W.heap.size W) (by kernel_rfl) (by kernel_rfl) (below_drew W) ?_
    have hne : Nonempty (InC (Below W.heap.size W)) := ⟨⟨W, Below.refl _ _⟩⟩
    repeat (go_big_quiet_step ((first | (go_at_call 57; exact hG _ _ _ _ _ _ _) | (go_at_call 58; exact hE _))))
    refine wpQuiet_nil ?_
    rintro _ ⟨s, rfl⟩
    have hfin := hB.trans (s.ok.mono (by omega))
    clear hne hG hE a0 a1 a2 a3 b0 b1 b2 b3
    go_wp2
    go_ret
    exact ⟨rfl, hfin⟩
  · have e1 : decide ((xo, xt, xr, xl) = (yo, yt, yr, yl)) = false := by
      rw [decide_eq_false]
      intro h
      simp only [Prod.mk.injEq] at h
      exact H ⟨h.1, h.2.1, h.2.2.1⟩
    rw [e1]
    have H2 : (¬ xo = yo) ∨ (xo = yo ∧ ¬ xt = yt) ∨ (xo = yo ∧ xt = yt ∧ ¬ xr = yr) := by
      by_cases h1 : xo = yo
      · by_cases h2 : xt = yt
        · exact .inr (.inr ⟨h1, h2, fun h3 => H ⟨h1, h2, h3⟩⟩)
        · exact .inr (.inl ⟨h1, h2⟩)
      · exact .inl h1
    clear H e1
    rcases H2 with h1 | ⟨rfl, h1⟩ | ⟨rfl, rfl, h1⟩
    · go_enter Try.func36, Try.ntmps36
      go_wp2_with fail
      have hB := two_boxes w (.cells #[.int .u16 xo, .int .u32 xt, .int .u32 xr, .slice ax n cx] 43) (.cells #[.int .u16 yo, .int .u32 yt, .int .u32 yr, .slice ay m cy] 43)
      have hs : w.heap.size + 2 = ((w.alloc (.cells #[.int .u16 xo, .int .u32 xt, .int .u32 xr, .slice ax n cx] 43)).alloc (.cells #[.int .u16 yo, .int .u32 yt, .int .u32 yr, .slice ay m cy] 43)).heap.size := by simp
      have hA := block_two w #[.int .u16 xo, .int .u32 xt, .int .u32 xr, .slice ax n cx] #[.int .u16 yo, .int .u32 yt, .int .u32 yr, .slice ay m cy] 43 43
      generalize ((w.alloc (.cells #[.int .u16 xo, .int .u32 xt, .int .u32 xr, .slice ax n cx] 43)).alloc (.cells #[.int .u16 yo, .int .u32 yt, .int .u32 yr, .slice ay m cy] 43)) = W at *
      have hx1 := hx.below hB
      have hy1 := hy.below hB
      have a0 := fun s : InC (Below W.heap.size W) => s.cell (p := ⟨w.heap.size, 0, none⟩) (by show w.heap.size < _; omega) (hA.1 0)
      have a1 := fun s : InC (Below W.heap.size W) => s.cell (p := ⟨w.heap.size, 1, none⟩) (by show w.heap.size < _; omega) (hA.1 1)
      have a2 := fun s : InC (Below W.heap.size W) => s.cell (p := ⟨w.heap.size, 2, none⟩) (by show w.heap.size < _; omega) (hA.1 2)
      have a3 := fun s : InC (Below W.heap.size W) => s.cell (p := ⟨w.heap.size, 3, none⟩) (by show w.heap.size < _; omega) (hA.1 3)
      have b0 := fun s : InC (Below W.heap.size W) => s.cell (p := ⟨w.heap.size + 1, 0, none⟩) (by show w.heap.size + 1 < _; omega) (hA.2 0)
      have b1 := fun s : InC (Below W.heap.size W) => s.cell (p := ⟨w.heap.size + 1, 1, none⟩) (by show w.heap.size + 1 < _; omega) (hA.2 1)
      have b2 := fun s : InC (Below W.heap.size W) => s.cell (p := ⟨w.heap.size + 1, 2, none⟩) (by show w.heap.size + 1 < _; omega) (hA.2 2)
      have b3 := fun s : InC (Below W.heap.size W) => s.cell (p := ⟨w.heap.size + 1, 3, none⟩) (by show w.heap.size + 1 < _; omega) (hA.2 3)
      have hG := fun (o t r : Int) (a : Option Addr) (n c : Nat) (s : InC (Below W.heap.size W)) => Calls.inC s (hF (o, t, r, []) a n c s.w)
      simp only at hG
      have hE := fun s : InC (Below W.heap.size W) => Calls.inC_drew s (argsEqual_any xl yl ax ay n m cx cy s.w (hx1.below s.ok) (hy1.below s.ok) hlx hly hn hm)
      clear hF hA hx hy hx1 hy1
      refine wp_region_class (C := Below W.heap.size W) (by kernel_rfl) (by kernel_rfl) (below_drew W) ?_
      have hne : Nonempty (InC (Below W.heap.size W)) := ⟨⟨W, Below.refl _ _⟩⟩
      repeat (go_big_quiet_step ((first | (go_at_call 57; exact hG _ _ _ _ _ _ _) | (go_at_call 58; exact hE _))))
      refine wpQuiet_nil ?_
      rintro _ ⟨s, rfl⟩
      have hfin := hB.trans (s.ok.mono (by omega))
      clear hne hG hE a0 a1 a2 a3 b0 b1 b2 b3
      go_wp2
      go_ret
      exact ⟨rfl, hfin⟩
    · go_enter Try.func36, Try.ntmps36
      go_wp2_with fail
      have hB := two_boxes w (.cells #[.int .u16 xo, .int .u32 xt, .int .u32 xr, .slice ax n cx] 43) (.cells #[.int .u16 xo, .int .u32 yt, .int .u32 yr, .slice ay m cy] 43)
      have hs : w.heap.size + 2 = ((w.alloc (.cells #[.int .u16 xo, .int .u32 xt, .int .u32 xr, .slice ax n cx] 43)).alloc (.cells #[.int .u16 xo, .int .u32 yt, .int .u32 yr, .slice ay m cy] 43)).heap.size := by simp
      have hA := block_two w #[.int .u16 xo, .int .u32 xt, .int .u32 xr, .slice ax n cx] #[.int .u16 xo, .int .u32 yt, .int .u32 yr, .slice ay m cy] 43 43
      generalize ((w.alloc (.cells #[.int .u16 xo, .int .u32 xt, .int .u32 xr, .slice ax n cx] 43)).alloc (.cells #[.int .u16 xo, .int .u32 yt, .int .u32 yr, .slice ay m cy] 43)) = W at *
      have hx1 := hx.below hB
      have hy1 := hy.below hB
      have a0 := fun s : InC (Below W.heap.size W) => s.cell (p := ⟨w.heap.size, 0, none⟩) (by show w.heap.size < _; omega) (hA.1 0)
      have a1 := fun s : InC (Below W.heap.size W) => s.cell (p := ⟨w.heap.size, 1, none⟩) (by show w.heap.size < _; omega) (hA.1 1)
      have a2 := fun s : InC (Below W.heap.size W) => s.cell (p := ⟨w.heap.size, 2, none⟩) (by show w.heap.size < _; omega) (hA.1 2)
      have a3 := fun s : InC (Below W.heap.size W) => s.cell (p := ⟨w.heap.size, 3, none⟩) (by show w.heap.size < _; omega) (hA.1 3)
      have b0 := fun s : InC (Below W.heap.size W) => s.cell (p := ⟨w.heap.size + 1, 0, none⟩) (by show w.heap.size + 1 < _; omega) (hA.2 0)
      have b1 := fun s : InC (Below W.heap.size W) => s.cell (p := ⟨w.heap.size + 1, 1, none⟩) (by show w.heap.size + 1 < _; omega) (hA.2 1)
      have b2 := fun s : InC (Below W.heap.size W) => s.cell (p := ⟨w.heap.size + 1, 2, none⟩) (by show w.heap.size + 1 < _; omega) (hA.2 2)
      have b3 := fun s : InC (Below W.heap.size W) => s.cell (p := ⟨w.heap.size + 1, 3, none⟩) (by show w.heap.size + 1 < _; omega) (hA.2 3)
      have hG := fun (o t r : Int) (a : Option Addr) (n c : Nat) (s : InC (Below W.heap.size W)) => Calls.inC s (hF (o, t, r, []) a n c s.w)
      simp only at hG
      have hE := fun s : InC (Below W.heap.size W) => Calls.inC_drew s (argsEqual_any xl yl ax ay n m cx cy s.w (hx1.below s.ok) (hy1.below s.ok) hlx hly hn hm)
      clear hF hA hx hy hx1 hy1
      refine wp_region_class (C := Below W.heap.size W) (by kernel_rfl) (by kernel_rfl) (below_drew W) ?_
      have hne : Nonempty (InC (Below W.heap.size W)) := ⟨⟨W, Below.refl _ _⟩⟩
      repeat (go_big_quiet_step ((first | (go_at_call 57; exact hG _ _ _ _ _ _ _) | (go_at_call 58; exact hE _))))
      refine wpQuiet_nil ?_
      rintro _ ⟨s, rfl⟩
      have hfin := hB.trans (s.ok.mono (by omega))
      clear hne hG hE a0 a1 a2 a3 b0 b1 b2 b3
      go_wp2
      go_ret
      exact ⟨rfl, hfin⟩
    · go_enter Try.func36, Try.ntmps36
      go_wp2_with fail
      have hB := two_boxes w (.cells #[.int .u16 xo, .int .u32 xt, .int .u32 xr, .slice ax n cx] 43) (.cells #[.int .u16 xo, .int .u32 xt, .int .u32 yr, .slice ay m cy] 43)
      have hs : w.heap.size + 2 = ((w.alloc (.cells #[.int .u16 xo, .int .u32 xt, .int .u32 xr, .slice ax n cx] 43)).alloc (.cells #[.int .u16 xo, .int .u32 xt, .int .u32 yr, .slice ay m cy] 43)).heap.size := by simp
      have hA := block_two w #[.int .u16 xo, .int .u32 xt, .int .u32 xr, .slice ax n cx] #[.int .u16 xo, .int .u32 xt, .int .u32 yr, .slice ay m cy] 43 43
      generalize ((w.alloc (.cells #[.int .u16 xo, .int .u32 xt, .int .u32 xr, .slice ax n cx] 43)).alloc (.cells #[.int .u16 xo, .int .u32 xt, .int .u32 yr, .slice ay m cy] 43)) = W at *
      have hx1 := hx.below hB
      have hy1 := hy.below hB
      have a0 := fun s : InC (Below W.heap.size W) => s.cell (p := ⟨w.heap.size, 0, none⟩) (by show w.heap.size < _; omega) (hA.1 0)
      have a1 := fun s : InC (Below W.heap.size W) => s.cell (p := ⟨w.heap.size, 1, none⟩) (by show w.heap.size < _; omega) (hA.1 1)
      have a2 := fun s : InC (Below W.heap.size W) => s.cell (p := ⟨w.heap.size, 2, none⟩) (by show w.heap.size < _; omega) (hA.1 2)
      have a3 := fun s : InC (Below W.heap.size W) => s.cell (p := ⟨w.heap.size, 3, none⟩) (by show w.heap.size < _; omega) (hA.1 3)
      have b0 := fun s : InC (Below W.heap.size W) => s.cell (p := ⟨w.heap.size + 1, 0, none⟩) (by show w.heap.size + 1 < _; omega) (hA.2 0)
      have b1 := fun s : InC (Below W.heap.size W) => s.cell (p := ⟨w.heap.size + 1, 1, none⟩) (by show w.heap.size + 1 < _; omega) (hA.2 1)
      have b2 := fun s : InC (Below W.heap.size W) => s.cell (p := ⟨w.heap.size + 1, 2, none⟩) (by show w.heap.size + 1 < _; omega) (hA.2 2)
      have b3 := fun s : InC (Below W.heap.size W) => s.cell (p := ⟨w.heap.size + 1, 3, none⟩) (by show w.heap.size + 1 < _; omega) (hA.2 3)
      have hG := fun (o t r : Int) (a : Option Addr) (n c : Nat) (s : InC (Below W.heap.size W)) => Calls.inC s (hF (o, t, r, []) a n c s.w)
      simp only at hG
      have hE := fun s : InC (Below W.heap.size W) => Calls.inC_drew s (argsEqual_any xl yl ax ay n m cx cy s.w (hx1.below s.ok) (hy1.below s.ok) hlx hly hn hm)
      clear hF hA hx hy hx1 hy1
      refine wp_region_class (C := Below W.heap.size W) (by kernel_rfl) (by kernel_rfl) (below_drew W) ?_
      have hne : Nonempty (InC (Below W.heap.size W)) := ⟨⟨W, Below.refl _ _⟩⟩
      repeat (go_big_quiet_step ((first | (go_at_call 57; exact hG _ _ _ _ _ _ _) | (go_at_call 58; exact hE _))))
      refine wpQuiet_nil ?_
      rintro _ ⟨s, rfl⟩
      have hfin := hB.trans (s.ok.mono (by omega))
      clear hne hG hE a0 a1 a2 a3 b0 b1 b2 b3
      go_wp2
      go_ret
      exact ⟨rfl, hfin⟩

end Go.Proofs.Ytpggcpnjcalfaab

/-
  Same of the package code tells whether two modules are the same.
-/
namespace Go.Proofs.Ytpggcpnjcalfaab
open Go.RowKit

set_option maxRecDepth 10000 in
set_option maxHeartbeats 1000000 in
theorem instsEqual_any (l m : List InstT) (ax ay : Option Addr) (nx ny cx cy : Nat) (w : World) (hx : InstsV w ax l) (hy : InstsV w ay m) (hlx : l.length = nx) (hly : m.length = ny) (hokx : InstsOk l) (hoky : InstsOk m) (hnx : nx ≤ 140737488351232) (hny : ny ≤ 140737488351232) (r : Bool) (hr : r = true ↔ l = m) :
    Calls Try.prog 35 #[.slice ax nx cx, .slice ay ny cy, .func (.func 36) #[] #[]] w fun e w' => e = .returned (.bool r) ∧ Below w.heap.size w w' := by
  have HR : Hid (r = true ↔ l = m) := hr
  have HLX : Hid (l.length = nx) := hlx
  have HLY : Hid (m.length = ny) := hly
  clear hlx hly hr
  by_cases H : nx = ny
  · subst H
    go_enter Try.func35, Try.ntmps35
    go_wp2
    go_loopw [17] (fun i wr => ∃ k : Nat, k ≤ nx ∧ i = .int .i64 k ∧ Below w.heap.size w wr ∧ ∀ j, j < k → nthI l j = nthI m j) (fun i _ => nx - (intOf i).toNat)
    case atStart => exact ⟨0, Nat.zero_le _, rfl, Below.refl _ _, fun j hj => by omega⟩
    case round =>
      obtain ⟨k, hk, rfl, hbr, hall⟩ := hrel
      have HALL : Hid (∀ j, j < k → nthI l j = nthI m j) := hall
      clear hall
      have hs2 := hbr.size
      by_cases hlt : k < nx
      · obtain ⟨b1, o1, p1, k1, n1, rfl, l1, c1, c2, c3, c4, c5, c6, _⟩ := hx k (by rw [HLX.out]; exact hlt)
        obtain ⟨b2, o2, p2, k2, n2, rfl, l2, d1, d2, d3, d4, d5, d6, _⟩ := hy k (by rw [HLY.out]; exact hlt)
        have hk0 : (0 : Int) ≤ (k : Int) := by omega
        have hki : (k : Int) < (nx : Int) := by omega
        have s1 := (hokx k (by rw [HLX.out]; exact hlt)).2.2.2.2.2.2.2
        have s2 := (hoky k (by rw [HLY.out]; exact hlt)).2.2.2.2.2.2.2
        rw [c5] at s1
        rw [d5] at s2
        have hC := fun wx (hb : Below w.heap.size w wx) => sameInst_any (nthI l k) (nthI m k) p1 p2 n1 n2 k1 k2 wx (c6.below hb) (d6.below hb) c5 d5 (by omega) (by omega)
        unfold instV at hC
        replace c1 := (hbr.cell (p := ⟨b1, o1 + k * 4, none⟩) l1).trans c1
        replace c2 := (hbr.cell (p := ⟨b1, o1 + k * 4 + 1, none⟩) l1).trans c2
        replace c3 := (hbr.cell (p := ⟨b1, o1 + k * 4 + 2, none⟩) l1).trans c3
        replace c4 := (hbr.cell (p := ⟨b1, o1 + k * 4 + 3, none⟩) l1).trans c4
        replace d1 := (hbr.cell (p := ⟨b2, o2 + k * 4, none⟩) l2).trans d1
        replace d2 := (hbr.cell (p := ⟨b2, o2 + k * 4 + 1, none⟩) l2).trans d2
        replace d3 := (hbr.cell (p := ⟨b2, o2 + k * 4 + 2, none⟩) l2).trans d3
        replace d4 := (hbr.cell (p := ⟨b2, o2 + k * 4 + 3, none⟩) l2).trans d4
        have l1' : b1 < wr.heap.size := by omega
        have l2' : b2 < wr.heap.size := by omega
        clear hx hy c5 c6 d5 d6 s1 s2
        by_cases he : nthI l k = nthI m k
        · have HE : Hid (nthI l k = nthI m k) := he
          rw [decide_eq_true he] at hC
          clear he
          go_wp2_with fail
          have hb2 := fun o p => hbr.trans ((two_boxes wr o p).mono hs2)
          refine (hC _ (hb2 _ _)).mono ?_
          rintro e w' ⟨rfl, hb'⟩
          have hbC := (hb2 _ _).trans (hb'.mono (by simp; omega))
          clear hb' hb2 hC
          go_wp2
          go_roundw
          case rel => exact ⟨k + 1, by omega, by go_num, hbC, fun j hj => by
            by_cases hjk : j < k
            · exact HALL.out j hjk
            · obtain rfl : j = k := by omega
              exact HE.out⟩
          case measure => simp [intOf]; omega
        · have HE : Hid (r = false) := by
            show r = false
            rw [← Bool.not_eq_true]
            intro hr
            exact he (by rw [HR.out.1 hr])
          rw [decide_eq_false he] at hC
          clear he
          go_wp2_with fail
          have hb2 := fun o p => hbr.trans ((two_boxes wr o p).mono hs2)
          refine (hC _ (hb2 _ _)).mono ?_
          rintro e w' ⟨rfl, hb'⟩
          have hbC := (hb2 _ _).trans (hb'.mono (by simp; omega))
          clear hb' hb2 hC
          go_wp2
          go_ret
          exact ⟨by rw [HE.out]; rfl, hbC⟩
      · go_wp2
        go_ret
        refine ⟨?_, hbr⟩
        obtain rfl : k = nx := by omega
        show Ending.returned (.bool true) = _
        rw [HR.out.2 ((instsEq_iff _ _).2 ⟨by rw [HLX.out, HLY.out], fun j hj => HALL.out j (by rw [← HLX.out]; exact hj)⟩)]
  · have e1 : r = false := by
      rw [← Bool.not_eq_true]
      intro hr
      have := HR.out.1 hr
      subst this
      exact H (HLX.out.symm.trans HLY.out)
    subst e1
    have H2 : ¬ (nx : Int) = (ny : Int) := by omega
    go_enter Try.func35, Try.ntmps35
    go_wp2
    go_ret
    exact ⟨rfl, Below.refl _ _⟩

set_option maxRecDepth 10000 in
set_option maxHeartbeats 1000000 in
theorem same_any (g1 b1 g2 b2 : Int) (l m : List InstT) (ax ay : Option Addr) (nx ny cx cy : Nat) (w : World) (hx : InstsV w ax l) (hy : InstsV w ay m) (hlx : l.length = nx) (hly : m.length = ny) (hokx : InstsOk l) (hoky : InstsOk m) (hnx : nx ≤ 140737488351232) (hny : ny ≤ 140737488351232) (r : Bool) (hr : r = true ↔ (g1 = g2 ∧ b1 = b2 ∧ l = m)) :
    Calls Try.prog 15 #[modV g1 b1 ax nx cx, modV g2 b2 ay ny cy] w fun e w' => e = .returned (.bool r) ∧ Below w.heap.size w w' := by
  have hF := fun g b a n c w => headOf_any g b a n c w
  unfold modV at hF ⊢
  by_cases H : g1 = g2 ∧ b1 = b2
  · obtain ⟨rfl, rfl⟩ := H
    have hr' : r = true ↔ l = m := by simpa using hr
    go_enter Try.func15, Try.ntmps15
    go_wp2_with fail
    have hB := two_boxes w (.cells #[.int .u32 g1, .int .u32 b1, .slice ax nx cx] 25) (.cells #[.int .u32 g1, .int .u32 b1, .slice ay ny cy] 25)
    have hs : w.heap.size + 2 = ((w.alloc (.cells #[.int .u32 g1, .int .u32 b1, .slice ax nx cx] 25)).alloc (.cells #[.int .u32 g1, .int .u32 b1, .slice ay ny cy] 25)).heap.size := by simp
    have hA := block_two w #[.int .u32 g1, .int .u32 b1, .slice ax nx cx] #[.int .u32 g1, .int .u32 b1, .slice ay ny cy] 25 25
    generalize ((w.alloc (.cells #[.int .u32 g1, .int .u32 b1, .slice ax nx cx] 25)).alloc (.cells #[.int .u32 g1, .int .u32 b1, .slice ay ny cy] 25)) = W at *
    have hx1 := hx.below hB
    have hy1 := hy.below hB
    have a0 := fun s : InC (Below W.heap.size W) => s.cell (p := ⟨w.heap.size, 0, none⟩) (by show w.heap.size < _; omega) (hA.1 0)
    have a1 := fun s : InC (Below W.heap.size W) => s.cell (p := ⟨w.heap.size, 1, none⟩) (by show w.heap.size < _; omega) (hA.1 1)
    have a2 := fun s : InC (Below W.heap.size W) => s.cell (p := ⟨w.heap.size, 2, none⟩) (by show w.heap.size < _; omega) (hA.1 2)
    have e0 := fun s : InC (Below W.heap.size W) => s.cell (p := ⟨w.heap.size + 1, 0, none⟩) (by show w.heap.size + 1 < _; omega) (hA.2 0)
    have e1 := fun s : InC (Below W.heap.size W) => s.cell (p := ⟨w.heap.size + 1, 1, none⟩) (by show w.heap.size + 1 < _; omega) (hA.2 1)
    have e2 := fun s : InC (Below W.heap.size W) => s.cell (p := ⟨w.heap.size + 1, 2, none⟩) (by show w.heap.size + 1 < _; omega) (hA.2 2)
    have hG := fun (g b : Int) (a : Option Addr) (n c : Nat) (s : InC (Below W.heap.size W)) => Calls.inC s (hF g b a n c s.w)
    have hE := fun s : InC (Below W.heap.size W) => Calls.inC s (instsEqual_any l m ax ay nx ny cx cy s.w (hx1.below s.ok) (hy1.below s.ok) hlx hly hokx hoky hnx hny r hr')
    clear hF hA hx hy hx1 hy1
    refine wp_region_class (C := Below W.heap.size W) (by kernel_rfl) (by kernel_rfl) (below_drew W) ?_
    have hne : Nonempty (InC (Below W.heap.size W)) := ⟨⟨W, Below.refl _ _⟩⟩
    repeat (go_big_quiet_step ((first | (go_at_call 29; exact hG _ _ _ _ _ _) | (go_at_call 35; exact hE _))))
    refine wpQuiet_nil ?_
    rintro _ ⟨s, rfl⟩
    have hfin := hB.trans (s.ok.mono (by omega))
    clear hne hG hE a0 a1 a2 e0 e1 e2
    go_wp2
    go_ret
    exact ⟨rfl, hfin⟩
  · have e1 : r = false := by
      rw [← Bool.not_eq_true]
      intro h
      obtain ⟨h1, h2, _⟩ := hr.1 h
      exact H ⟨h1, h2⟩
    subst e1
    have H2 : (¬ g1 = g2) ∨ (g1 = g2 ∧ ¬ b1 = b2) := by
      by_cases h1 : g1 = g2
      · exact .inr ⟨h1, fun h2 => H ⟨h1, h2⟩⟩
      · exact .inl h1
    clear H hr
    rcases H2 with h1 | ⟨rfl, h1⟩
    · go_enter Try.func15, Try.ntmps15
      go_wp2_with fail
      have hB := two_boxes w (.cells #[.int .u32 g1, .int .u32 b1, .slice ax nx cx] 25) (.cells #[.int .u32 g2, .int .u32 b2, .slice ay ny cy] 25)
      have hs : w.heap.size + 2 = ((w.alloc (.cells #[.int .u32 g1, .int .u32 b1, .slice ax nx cx] 25)).alloc (.cells #[.int .u32 g2, .int .u32 b2, .slice ay ny cy] 25)).heap.size := by simp
      have hA := block_two w #[.int .u32 g1, .int .u32 b1, .slice ax nx cx] #[.int .u32 g2, .int .u32 b2, .slice ay ny cy] 25 25
      generalize ((w.alloc (.cells #[.int .u32 g1, .int .u32 b1, .slice ax nx cx] 25)).alloc (.cells #[.int .u32 g2, .int .u32 b2, .slice ay ny cy] 25)) = W at *
      have hx1 := hx.below hB
      have hy1 := hy.below hB
      have a0 := fun s : InC (Below W.heap.size W) => s.cell (p := ⟨w.heap.size, 0, none⟩) (by show w.heap.size < _; omega) (hA.1 0)
      have a1 := fun s : InC (Below W.heap.size W) => s.cell (p := ⟨w.heap.size, 1, none⟩) (by show w.heap.size < _; omega) (hA.1 1)
      have a2 := fun s : InC (Below W.heap.size W) => s.cell (p := ⟨w.heap.size, 2, none⟩) (by show w.heap.size < _; omega) (hA.1 2)
      have e0 := fun s : InC (Below W.heap.size W) => s.cell (p := ⟨w.heap.size + 1, 0, none⟩) (by show w.heap.size + 1 < _; omega) (hA.2 0)
      have e1 := fun s : InC (Below W.heap.size W) => s.cell (p := ⟨w.heap.size + 1, 1, none⟩) (by show w.heap.size + 1 < _; omega) (hA.2 1)
      have e2 := fun s : InC (Below W.heap.size W) => s.cell (p := ⟨w.heap.size + 1, 2, none⟩) (by show w.heap.size + 1 < _; omega) (hA.2 2)
      have hG := fun (g b : Int) (a : Option Addr) (n c : Nat) (s : InC (Below W.heap.size W)) => Calls.inC s (hF g b a n c s.w)
      clear hF hA hx hy hx1 hy1
      refine wp_region_class (C := Below W.heap.size W) (by kernel_rfl) (by kernel_rfl) (below_drew W) ?_
      have hne : Nonempty (InC (Below W.heap.size W)) := ⟨⟨W, Below.refl _ _⟩⟩
      repeat (go_big_quiet_step ((first | (go_at_call 29; exact hG _ _ _ _ _ _))))
      refine wpQuiet_nil ?_
      rintro _ ⟨s, rfl⟩
      have hfin := hB.trans (s.ok.mono (by omega))
      clear hne hG a0 a1 a2 e0 e1 e2
      go_wp2
      go_ret
      exact ⟨rfl, hfin⟩
    · go_enter Try.func15, Try.ntmps15
      go_wp2_with fail
      have hB := two_boxes w (.cells #[.int .u32 g1, .int .u32 b1, .slice ax nx cx] 25) (.cells #[.int .u32 g1, .int .u32 b2, .slice ay ny cy] 25)
      have hs : w.heap.size + 2 = ((w.alloc (.cells #[.int .u32 g1, .int .u32 b1, .slice ax nx cx] 25)).alloc (.cells #[.int .u32 g1, .int .u32 b2, .slice ay ny cy] 25)).heap.size := by simp
      have hA := block_two w #[.int .u32 g1, .int .u32 b1, .slice ax nx cx] #[.int .u32 g1, .int .u32 b2, .slice ay ny cy] 25 25
      generalize ((w.alloc (.cells #[.int .u32 g1, .int .u32 b1, .slice ax nx cx] 25)).alloc (.cells #[.int .u32 g1, .int .u32 b2, .slice ay ny cy] 25)) = W at *
      have hx1 := hx.below hB
      have hy1 := hy.below hB
      have a0 := fun s : InC (Below W.heap.size W) => s.cell (p := ⟨w.heap.size, 0, none⟩) (by show w.heap.size < _; omega) (hA.1 0)
      have a1 := fun s : InC (Below W.heap.size W) => s.cell (p := ⟨w.heap.size, 1, none⟩) (by show w.heap.size < _; omega) (hA.1 1)
      have a2 := fun s : InC (Below W.heap.size W) => s.cell (p := ⟨w.heap.size, 2, none⟩) (by show w.heap.size < _; omega) (hA.1 2)
      have e0 := fun s : InC (Below W.heap.size W) => s.cell (p := ⟨w.heap.size + 1, 0, none⟩) (by show w.heap.size + 1 < _; omega) (hA.2 0)
      have e1 := fun s : InC (Below W.heap.size W) => s.cell (p := ⟨w.heap.size + 1, 1, none⟩) (by show w.heap.size + 1 < _; omega) (hA.2 1)
      have e2 := fun s : InC (Below W.heap.size W) => s.cell (p := ⟨w.heap.size + 1, 2, none⟩) (by show w.heap.size + 1 < _; omega) (hA.2 2)
      have hG := fun (g b : Int) (a : Option Addr) (n c : Nat) (s : InC (Below W.heap.size W)) => Calls.inC s (hF g b a n c s.w)
      clear hF hA hx hy hx1 hy1
      refine wp_region_class (C := Below W.heap.size W) (by kernel_rfl) (by kernel_rfl) (below_drew W) ?_
      have hne : Nonempty (InC (Below W.heap.size W)) := ⟨⟨W, Below.refl _ _⟩⟩
      repeat (go_big_quiet_step ((first | (go_at_call 29; exact hG _ _ _ _ _ _))))
      refine wpQuiet_nil ?_
      rintro _ ⟨s, rfl⟩
      have hfin := hB.trans (s.ok.mono (by omega))
      clear hne hG a0 a1 a2 e0 e1 e2
      go_wp2
      go_ret
      exact ⟨rfl, hfin⟩

end Go.Proofs.Ytpggcpnjcalfaab

/-
  Plain facts: bytes to module and back are the bytes; modules to bytes and back are the modules.
-/
namespace Go.Proofs.Ytpggcpnjcalfaab
open Go.RowKit
set_option linter.unusedVariables false

theorem shape_faultF (b : Int) (l : List InstT) (hE : ∀ k, k < l.length → rawE (nthI l k) b = 0) : ∀ d k, l.length - k = d → fault (rawsL b l) k = (0, 0) → shapeF b k (sizeTo (rawsL b l) k) (l.drop k) = (0, 0)
  | 0, k, hd, _ => shape_end b l k _ (by omega)
  | d + 1, k, hd, h => by
    have hk : k < l.length := by omega
    rw [shape_step b l k hk, if_neg (by simp [hE k hk])]
    rw [fault_step _ _ (by rw [rawsL_len]; exact hk), nthR_raws b l k hk] at h
    have hs := rawWs_len (nthI l k) b
    rw [if_neg (by simp only; omega)] at h
    by_cases h2 : 1048576 < sizeTo (rawsL b l) (k + 1)
    · rw [if_pos h2] at h; cases h
    · rw [if_neg h2] at h ⊢
      exact shape_faultF b l hE d (k + 1) (by omega) h
theorem shape_of_fault {b : Int} {l : List InstT} (h0 : ¬ b = 0) (h1 : ¬ 65536 < b) (hE : ∀ k, k < l.length → rawE (nthI l k) b = 0) (h : fault (rawsL b l) 0 = (0, 0)) : shapeE b l = (0, 0) := by
  unfold shapeE
  rw [if_neg (by rintro (h | h)
                 · exact h0 h
                 · exact h1 h)]
  exact shape_faultF b l hE _ 0 rfl h

theorem split_len {bs : List Int} (h : splitErr bs = 0) : bs.length ≤ 4194304 ∧ bs.length % 4 = 0 := by
  unfold splitErr at h
  by_cases h1 : 4194304 < bs.length
  · rw [if_pos h1] at h; cases h
  · rw [if_neg h1] at h
    by_cases h2 : bs.length % 4 = 0
    · exact ⟨by omega, h2⟩
    · rw [if_neg h2] at h; cases h

/-- THE BYTES. -/
theorem enc_dec {bs : List Int} (hw : Within 256 bs) (h : (decE bs).1 = 0) : decH bs 3 ≠ 0 ∧ ¬ 65536 < decH bs 3 ∧ shapeE (decH bs 3) (decL bs) = (0, 0) ∧ encL (decH bs 2) (decH bs 3) (decL bs) = bs := by
  obtain ⟨h1, h2, h3, h4, h5, h6⟩ := decE_ok h
  have hww := splitL_within bs hw
  obtain ⟨w1, w2, w3, w4, w5, w6⟩ := write_read (splitL bs) hww h2
  obtain ⟨s1, s2⟩ := split_len h1
  have hj := join_split bs s2 hw
  rw [h4, h5, h6]
  generalize splitL bs = zs at *
  generalize hb : nth zs 3 = b at *
  have hre : ∀ p ∈ rest zs 5, (instAt zs b p).1.1 = (rawAt zs p).1 ∧ rawE (instAt zs b p).1 b = 0 ∧ rawWs (instAt zs b p).1 b = (rawAt zs p).2 := fun p hp => rawE_instI (rawAt_within hww p) (h3 p hp)
  have hR : rawsL b (instsAt zs b (rest zs 5)) = readR zs := by
    unfold rawsL instsAt readR
    rw [List.map_map]
    refine List.map_congr_left fun p hp => ?_
    obtain ⟨e1, _, e3⟩ := hre p hp
    simp only [Function.comp]
    rw [e1, e3]
  have hE : ∀ k, k < (instsAt zs b (rest zs 5)).length → rawE (nthI (instsAt zs b (rest zs 5)) k) b = 0 := fun k hk => by
    rw [nthI_lt _ _ hk]
    simp only [instsAt, List.getElem_map]
    exact (hre _ (List.getElem_mem _)).2.1
  have hS : shapeE b (instsAt zs b (rest zs 5)) = (0, 0) := shape_of_fault w2 w3 hE (by rw [hR]; exact w4)
  refine ⟨w2, w3, hS, ?_⟩
  unfold encL encW
  rw [hS, if_pos rfl, hR, show (instsAt zs b (rest zs 5)).length = (readR zs).length by simp [instsAt, readR], w6, hj]

/-- THE MODULES. -/
theorem dec_enc {gen b : Int} {l : List InstT} (hg0 : 0 ≤ gen) (hg1 : gen < 4294967296) (hb0 : 0 ≤ b) (hb1 : b < 4294967296) (hok : InstsOk l) (h : (shapeE b l).1 = 0) : decE (encL gen b l) = (0, 0) ∧ decL (encL gen b l) = l ∧ decH (encL gen b l) 2 = gen ∧ decH (encL gen b l) 3 = b ∧ 20 ≤ (encL gen b l).length ∧ Within 256 (encL gen b l) := by
  obtain ⟨n0, n1⟩ := shape_bound h
  have hW := encW_within (gen := gen) (b := b) hg0 hg1 hb0 hb1 hok
  obtain ⟨l1, l2⟩ := encW_len (gen := gen) h
  have hL : encL gen b l = joinL (encW gen b l) := by unfold encL; rw [if_pos h]
  have hjl := joinL_len (encW gen b l)
  have hsp := split_join (encW gen b l) hW
  have hse : splitErr (joinL (encW gen b l)) = 0 := splitErr_ok _ (by omega) (by omega)
  obtain ⟨r1, r2, r3, r4⟩ := read_write gen b (rawsL b l) (rawsL_ok b hok) (fault_shape h) n0 n1
  rw [rawsL_len] at r1 r2 r3 r4
  have hwi := joinL_within (encW gen b l)
  rw [hL]
  have eW : writeTo gen b (rawsL b l) l.length = encW gen b l := rfl
  rw [eW] at r1 r2 r3 r4
  have r2' : readR (encW gen b l) = rawsL b l := by unfold readL at r2; rw [r1, if_pos rfl] at r2; exact r2
  have r3' : nth (encW gen b l) 2 = gen := by unfold readAt at r3; rw [r1, if_pos rfl] at r3; exact r3
  have r4' : nth (encW gen b l) 3 = b := by unfold readAt at r4; rw [r1, if_pos rfl] at r4; exact r4
  generalize encW gen b l = zs at *
  have hI : ∀ p ∈ rest zs 5, ∃ x ∈ l, rawAt zs p = (x.1, rawWs x b) ∧ instAt zs b p = (x, 0) := fun p hp => by
    have : rawAt zs p ∈ readR zs := List.mem_map.2 ⟨p, hp, rfl⟩
    rw [r2'] at this
    obtain ⟨x, hx, e⟩ := List.mem_map.1 this
    obtain ⟨k, hk, rfl⟩ := List.mem_iff_getElem.1 hx
    have he := shape_each h k hk
    rw [nthI_lt _ _ hk] at he
    refine ⟨l[k], hx, e.symm, ?_⟩
    unfold instAt
    rw [← e]
    exact instI_words he (Int.le_refl _)
  have hall : ∀ p ∈ rest zs 5, (instAt zs b p).2 = 0 := fun p hp => by
    obtain ⟨x, _, _, e⟩ := hI p hp
    rw [e]
  have hD : decE (joinL zs) = (0, 0) := by
    unfold decE
    rw [if_neg (by simp [hse]), hsp, if_neg (by simp [r1]), r4']
    exact decF_all _ _ _ hall
  have hD2 : decL (joinL zs) = l := by
    unfold decL
    rw [hD, if_pos rfl, hsp, r4']
    have e1 : instsAt zs b (rest zs 5) = (readR zs).map fun r => (instI r.1 r.2 b).1 := by
      unfold instsAt readR
      rw [List.map_map]
      rfl
    rw [e1, r2']
    unfold rawsL
    rw [List.map_map]
    refine List.ext_getElem (by simp) fun k h1 h2 => ?_
    rw [List.getElem_map]
    have he := shape_each h k h2
    rw [nthI_lt _ _ h2] at he
    simp only [Function.comp]
    rw [instI_words he (Int.le_refl _)]
  refine ⟨hD, hD2, ?_, ?_, by omega, hwi⟩
  · unfold decH; rw [hD, if_pos rfl, hsp, r3']
  · unfold decH; rw [hD, if_pos rfl, hsp, r4']

end Go.Proofs.Ytpggcpnjcalfaab
