/-
  Texts laid together in one: ArgInsts, LawIdsUses.
-/
import Derived.ProofKit
import Derived.OpenShut
import Derived.SizedLaws
import Derived.Deep.Slices
import Derived.Deep.SlicePairs
import Derived.Lib.SmallJoins
import Derived.Test.YtmobologlaeefacProg
import Derived.Test.YtmobologlaeefacB01
import Derived.WalkSpells
import Derived.WalkMore
import Derived.BigRegion
import Derived.Test.YtmobologlaeefacB13
/-
  What an argument that is an instruction, or a slice of instructions, holds: all within their bounds, each list within the reach of memory.
-/
namespace Go.Proofs.Ytmobologlaeefac
open Go.ChangeShapes Go.WideShapes Go.ChangeAt Go.RowKit
set_option maxRecDepth 100000

theorem ArgInsts.cellsA : Try.prog.cellsOf 63 = 3 := by kernel_rfl
theorem ArgInsts.cells8 : Try.prog.cellsOf 5 = 1 := by kernel_rfl
theorem ArgInsts.cells32 : Try.prog.cellsOf 22 = 1 := by kernel_rfl
theorem ArgInsts.cellsS : Try.prog.cellsOf 9 = 1 := by kernel_rfl
theorem ArgInsts.bytesA : Try.prog.bytesOf 63 = 24 := by kernel_rfl
theorem ArgInsts.cells16 : Try.prog.cellsOf 48 = 1 := by kernel_rfl
theorem ArgInsts.cellsL : Try.prog.cellsOf 49 = 1 := by kernel_rfl

theorem ArgInsts.cellsI : Try.prog.cellsOf 51 = 4 := by kernel_rfl
theorem ArgInsts.bytesI : Try.prog.bytesOf 51 = 40 := by kernel_rfl

theorem weightsIn {H : Type} {P : Program} {e : TypeId} : ∀ {l : List (DataW H)} {d : DataW H}, d ∈ l → ∀ n ∈ d.weights P e, n ∈ DataW.weightsAll P e l
  | d0 :: l, d, hd, n, hn => by
    simp only [DataW.weightsAll, List.mem_append]
    rcases List.mem_cons.1 hd with rfl | h
    · exact Or.inl hn
    · exact Or.inr (weightsIn h n hn)

theorem argsV_mk {w : World} {x : Addr} {n : Nat} {f : Nat → ArgT} (h : ∀ i, i < n → w.cell? (x.add (i * 3)) = some (.int .u8 (f i).1) ∧ w.cell? (x.add (i * 3 + 1)) = some (.int .u32 (f i).2.1) ∧ w.cell? (x.add (i * 3 + 2)) = some (.string (f i).2.2)) : ArgsV w (some x) ((List.range n).map f) := by
  intro j hj
  rw [List.length_map, List.length_range] at hj
  have h0 := (h 0 (by omega)).1
  obtain ⟨b, off, spot⟩ := x
  have hs : spot = none := by simpa [Addr.add] using World.cell?_spot h0
  subst hs
  obtain ⟨h1, h2, h3⟩ := h j hj
  rw [Addr.add_lit] at h1 h2 h3
  have e : nthA ((List.range n).map f) j = f j := by simp [nthA, List.getD, hj]
  rw [e]
  exact ⟨b, off, rfl, World.block_lt_of_cell? _ _ h1, h1, by rw [Nat.add_assoc]; exact h2, by rw [Nat.add_assoc]; exact h3⟩

set_option maxHeartbeats 1000000 in
theorem open_args {H : Type} {enc : TypeId × Value → H} {w : World} {base fuel : Nat} {held : Bool} {a : Option Addr} {len cap : Nat} {d : DataW H} {ps : List MemPlace}
    (hf : DataW.trod enc Try.prog w base (fun _ => true) held fuel 49 [.slice a len cap] = some (d, ps)) (hs : ∀ n ∈ d.weights Try.prog 49, n ≤ reachBytes) :
    ∃ l : List ArgT, l.length = len ∧ ArgsV w a l ∧ ArgsOk l ∧ 24 * len ≤ 140737488351232 ∧ len ≤ cap := by
  rcases Go.Deep.open_slice Try.underlying49 hf with ⟨hcs, _⟩ | ⟨x, l, c, mm, nn, D, Pl, hcs, _, hl, hm, hmm, hx, hall⟩
  · simp at hcs
    obtain ⟨rfl, rfl, rfl⟩ := hcs
    exact ⟨[], rfl, argsV_nil, argsOk_nil, by omega, by omega⟩
  · simp at hcs
    obtain ⟨rfl, rfl, rfl⟩ := hcs
    simp only [Prod.mk.injEq] at hx
    obtain ⟨rfl, rfl⟩ := hx
    simp only [if_true] at hmm
    subst hmm
    have hs0 := hs ((((List.range len).map D).length + ((List.range (mm - len)).map fun j => D (len + j)).length) * Try.prog.bytesOf 63) (by simp [DataW.weights, Try.underlying49])
    rw [ArgInsts.bytesA] at hs0
    simp only [List.length_map, List.length_range, reachBytes] at hs0
    have key : ∀ i, i < len → ∃ r : ArgT, w.cell? (x.add (i * 3)) = some (.int .u8 r.1) ∧ w.cell? (x.add (i * 3 + 1)) = some (.int .u32 r.2.1) ∧ w.cell? (x.add (i * 3 + 2)) = some (.string r.2.2) ∧ ArgOk r := by
      intro i hi
      obtain ⟨cs, hc, ht⟩ := hall i (by omega)
      rw [ArgInsts.cellsA] at hc
      obtain ⟨_, hlen, hcell⟩ := World.cells?_some hc
      obtain ⟨xs, k, _, hxy, _, hxl, hfl⟩ := DataW.trod_struct Try.underlying63 ht
      have g0 := hfl 0 _ rfl
      have g1 := hfl 1 _ rfl
      have g2 := hfl 2 _ rfl
      match xs, hxl, cs, hlen with
      | [y0, y1, y2], _, [v0, v1, v2], _ =>
        have e0 := hcell 0 (by omega)
        have e1 := hcell 1 (by omega)
        have e2 := hcell 2 (by omega)
        rw [Go.Deep.add_add] at e0 e1 e2
        simp [ArgInsts.cells8, ArgInsts.cells32, ArgInsts.cellsS] at g0 g1 g2 e0 e1 e2
        obtain ⟨n0, q0, _, w0⟩ := DataW.trod_int Try.underlying5 g0
        obtain ⟨n1, q1, _, w1⟩ := DataW.trod_int Try.underlying22 g1
        obtain ⟨s2, q2, q3⟩ := DataW.trod_string Try.underlying9 g2
        simp at q0 q1 q2
        subst q0; subst q1; subst q2
        have b0 := bounds_u8 w0
        have b1 := bounds_u32 w1
        refine ⟨(n0, n1, s2), by simpa using e0, e1, e2, ?_⟩
        have hs2 := hs s2.size (by
          have hmem : D i ∈ (List.range len).map D := List.mem_map.2 ⟨i, List.mem_range.2 hi, rfl⟩
          simp only [DataW.weights, Try.underlying49, List.mem_cons, List.mem_append]
          refine Or.inr (Or.inl (weightsIn hmem _ ?_))
          simp only [Prod.mk.injEq] at hxy
          rw [hxy.1]
          simp only [DataW.weights, Try.underlying63]
          refine DataW.weights_mem_each (j := 2) rfl rfl _ ?_
          simp_all [DataW.weights])
        simp only [reachBytes] at hs2
        exact ⟨by simp; omega, by simp; omega, by simp; omega, by simp; omega, hs2⟩
    let f : Nat → ArgT := fun i => if h : i < len then Classical.choose (key i h) else noArg
    have hf' : ∀ i (h : i < len), f i = Classical.choose (key i h) := fun i h => dif_pos h
    refine ⟨(List.range len).map f, by simp, argsV_mk (fun i hi => ?_), fun j hj => ?_, by omega, hl⟩
    · rw [hf' i hi]
      obtain ⟨h1, h2, h3, _⟩ := Classical.choose_spec (key i hi)
      exact ⟨h1, h2, h3⟩
    · rw [List.length_map, List.length_range] at hj
      have e : nthA ((List.range len).map f) j = f j := by simp [nthA, List.getD, hj]
      rw [e, hf' j hj]
      exact (Classical.choose_spec (key j hj)).2.2.2

theorem open_inst {H : Type} {enc : TypeId × Value → H} {w : World} {b0 base : Nat} {held : Bool} {v : Value} {d : DataW H} {ps : List MemPlace}
    (hv : Value.okWide Try.prog w .any b0 51 v) (h : DataW.Trod enc Try.prog w base (fun _ => true) held 51 v d ps) (hs : ∀ n ∈ d.weights Try.prog 51, n ≤ reachBytes) :
    ∃ (x : InstT) (a : Option Addr) (n c : Nat), v = instV x a n c ∧ x.2.2.2.length = n ∧ InstOk x ∧ ArgsV w a x.2.2.2 ∧ n ≤ c := by
  obtain ⟨v0, v1, v2, v3, y0, y1, y2, y3, m, rfl, rfl, _, t0, t1, t2, t3⟩ := Go.Joins.open_agg4 Try.underlying51 (by kernel_rfl) (by kernel_rfl) hv h
  obtain ⟨n0, e0, _, w0⟩ := DataW.trod_int Try.underlying48 t0
  obtain ⟨n1, e1, _, w1⟩ := DataW.trod_int Try.underlying22 t1
  obtain ⟨n2, e2, _, w2⟩ := DataW.trod_int Try.underlying22 t2
  simp at e0 e1 e2
  subst e0; subst e1; subst e2
  have b0 := bounds_u16 w0
  have b1 := bounds_u32 w1
  have b2 := bounds_u32 w2
  obtain ⟨a, n, c, rfl⟩ : ∃ a n c, v3 = .slice a n c := by
    rcases Go.Deep.open_slice Try.underlying49 t3 with ⟨hcs, _⟩ | ⟨x, l, c, mm, nn, D, Pl, hcs, _⟩
    · simp at hcs; exact ⟨_, _, _, hcs⟩
    · simp at hcs; exact ⟨_, _, _, hcs⟩
  obtain ⟨l, hl, hv3, hok, hr, hc⟩ := open_args t3 (fun k hk => hs k (by
    simp only [DataW.weights, Try.underlying51]
    exact DataW.weights_mem_each (j := 3) rfl rfl _ hk))
  exact ⟨(n0, n1, n2, l), a, n, c, rfl, hl, ⟨by simp; omega, by simp; omega, by simp; omega, by simp; omega, by simp; omega, by simp; omega, hok, by rw [hl]; exact hr⟩, hv3, hc⟩

theorem instsV_mk {w : World} {x : Addr} {n : Nat} {f : Nat → InstT} (h : ∀ i, i < n → w.cell? (x.add (i * 4)) = some (.int .u16 (f i).1) ∧ w.cell? (x.add (i * 4 + 1)) = some (.int .u32 (f i).2.1) ∧ w.cell? (x.add (i * 4 + 2)) = some (.int .u32 (f i).2.2.1) ∧
    ∃ aj cj, w.cell? (x.add (i * 4 + 3)) = some (.slice aj (f i).2.2.2.length cj) ∧ ArgsV w aj (f i).2.2.2 ∧ (f i).2.2.2.length ≤ cj) : InstsV w (some x) ((List.range n).map f) := by
  intro j hj
  rw [List.length_map, List.length_range] at hj
  have h0 := (h 0 (by omega)).1
  obtain ⟨b, off, spot⟩ := x
  have hs : spot = none := by simpa [Addr.add] using World.cell?_spot h0
  subst hs
  obtain ⟨h1, h2, h3, aj, cj, h4, h5, h6⟩ := h j hj
  rw [Addr.add_lit] at h1 h2 h3 h4
  have e : nthI ((List.range n).map f) j = f j := by simp [nthI, List.getD, hj]
  rw [e]
  exact ⟨b, off, aj, cj, _, rfl, World.block_lt_of_cell? _ _ h1, h1, by rw [Nat.add_assoc]; exact h2, by rw [Nat.add_assoc]; exact h3, by rw [Nat.add_assoc]; exact h4, rfl, h5, h6⟩

set_option maxHeartbeats 1000000 in
theorem open_insts {H : Type} {enc : TypeId × Value → H} {w : World} {base fuel : Nat} {held : Bool} {a : Option Addr} {len cap : Nat} {d : DataW H} {ps : List MemPlace}
    (hf : DataW.trod enc Try.prog w base (fun _ => true) held fuel 23 [.slice a len cap] = some (d, ps)) (hs : ∀ n ∈ d.weights Try.prog 23, n ≤ reachBytes) :
    ∃ l : List InstT, l.length = len ∧ InstsV w a l ∧ InstsOk l ∧ 40 * len ≤ 140737488351232 ∧ len ≤ cap := by
  rcases Go.Deep.open_slice Try.underlying23 hf with ⟨hcs, _⟩ | ⟨x, l, c, mm, nn, D, Pl, hcs, _, hl, hm, hmm, hx, hall⟩
  · simp at hcs
    obtain ⟨rfl, rfl, rfl⟩ := hcs
    exact ⟨[], rfl, instsV_nil, instsOk_nil, by omega, by omega⟩
  · simp at hcs
    obtain ⟨rfl, rfl, rfl⟩ := hcs
    simp only [Prod.mk.injEq] at hx
    obtain ⟨rfl, rfl⟩ := hx
    simp only [if_true] at hmm
    subst hmm
    have hs0 := hs ((((List.range len).map D).length + ((List.range (mm - len)).map fun j => D (len + j)).length) * Try.prog.bytesOf 51) (by simp [DataW.weights, Try.underlying23])
    rw [ArgInsts.bytesI] at hs0
    simp only [List.length_map, List.length_range, reachBytes] at hs0
    have key : ∀ i, i < len → ∃ r : InstT, w.cell? (x.add (i * 4)) = some (.int .u16 r.1) ∧ w.cell? (x.add (i * 4 + 1)) = some (.int .u32 r.2.1) ∧ w.cell? (x.add (i * 4 + 2)) = some (.int .u32 r.2.2.1) ∧
        (∃ aj cj, w.cell? (x.add (i * 4 + 3)) = some (.slice aj r.2.2.2.length cj) ∧ ArgsV w aj r.2.2.2 ∧ r.2.2.2.length ≤ cj) ∧ InstOk r := by
      intro i hi
      obtain ⟨cs, hc, ht⟩ := hall i (by omega)
      rw [ArgInsts.cellsI] at hc
      obtain ⟨_, hlen, hcell⟩ := World.cells?_some hc
      obtain ⟨xs, k, _, hxy, _, hxl, hfl⟩ := DataW.trod_struct Try.underlying51 ht
      have g0 := hfl 0 _ rfl
      have g1 := hfl 1 _ rfl
      have g2 := hfl 2 _ rfl
      have g3 := hfl 3 _ rfl
      match xs, hxl, cs, hlen with
      | [y0, y1, y2, y3], _, [v0, v1, v2, v3], _ =>
        have e0 := hcell 0 (by omega)
        have e1 := hcell 1 (by omega)
        have e2 := hcell 2 (by omega)
        have e3 := hcell 3 (by omega)
        rw [Go.Deep.add_add] at e0 e1 e2 e3
        simp [ArgInsts.cells16, ArgInsts.cells32, ArgInsts.cellsL] at g0 g1 g2 g3 e0 e1 e2 e3
        obtain ⟨n0, q0, _, w0⟩ := DataW.trod_int Try.underlying48 g0
        obtain ⟨n1, q1, _, w1⟩ := DataW.trod_int Try.underlying22 g1
        obtain ⟨n2, q2, _, w2⟩ := DataW.trod_int Try.underlying22 g2
        simp at q0 q1 q2
        subst q0; subst q1; subst q2
        have b0 := bounds_u16 w0
        have b1 := bounds_u32 w1
        have b2 := bounds_u32 w2
        obtain ⟨a, n, c, rfl⟩ : ∃ a n c, v3 = .slice a n c := by
          rcases Go.Deep.open_slice Try.underlying49 g3 with ⟨hcs, _⟩ | ⟨x, l, c, mm, nn, D, Pl, hcs, _⟩
          · simp at hcs; exact ⟨_, _, _, hcs⟩
          · simp at hcs; exact ⟨_, _, _, hcs⟩
        obtain ⟨l, hl, hv3, hok, hr, hc⟩ := open_args g3 (fun k hk => hs k (by
          have hmem : D i ∈ (List.range len).map D := List.mem_map.2 ⟨i, List.mem_range.2 hi, rfl⟩
          simp only [DataW.weights, Try.underlying23, List.mem_cons, List.mem_append]
          refine Or.inr (Or.inl (weightsIn hmem _ ?_))
          simp only [Prod.mk.injEq] at hxy
          rw [hxy.1]
          simp only [DataW.weights, Try.underlying51]
          exact DataW.weights_mem_each (j := 3) rfl rfl _ hk))
        subst hl
        exact ⟨(n0, n1, n2, l), by simpa using e0, e1, e2, ⟨a, c, e3, hv3, hc⟩, by simp; omega, by simp; omega, by simp; omega, by simp; omega, by simp; omega, by simp; omega, hok, hr⟩
    let f : Nat → InstT := fun i => if h : i < len then Classical.choose (key i h) else noInst
    have hf' : ∀ i (h : i < len), f i = Classical.choose (key i h) := fun i h => dif_pos h
    refine ⟨(List.range len).map f, by simp, instsV_mk (fun i hi => ?_), fun j hj => ?_, by omega, hl⟩
    · rw [hf' i hi]
      obtain ⟨h1, h2, h3, h4, _⟩ := Classical.choose_spec (key i hi)
      exact ⟨h1, h2, h3, h4⟩
    · rw [List.length_map, List.length_range] at hj
      have e : nthI ((List.range len).map f) j = f j := by simp [nthI, List.getD, hj]
      rw [e, hf' j hj]
      exact (Classical.choose_spec (key j hj)).2.2.2.2

theorem open_module {H : Type} {enc : TypeId × Value → H} {w : World} {b0 base : Nat} {held : Bool} {v : Value} {d : DataW H} {ps : List MemPlace}
    (hv : Value.okWide Try.prog w .any b0 25 v) (h : DataW.Trod enc Try.prog w base (fun _ => true) held 25 v d ps) (hs : ∀ n ∈ d.weights Try.prog 25, n ≤ reachBytes) :
    ∃ (gen bound : Int) (a : Option Addr) (n c : Nat) (l : List InstT), v = .agg #[.int .u32 gen, .int .u32 bound, .slice a n c] ∧ 0 ≤ gen ∧ gen < 4294967296 ∧ 0 ≤ bound ∧ bound < 4294967296 ∧ l.length = n ∧ InstsV w a l ∧ InstsOk l ∧ 40 * n ≤ 140737488351232 ∧ n ≤ c := by
  obtain ⟨v0, v1, v3, y0, y1, y3, m, rfl, rfl, _, t0, t1, t3⟩ := Go.Joins.open_agg3 Try.underlying25 (by kernel_rfl) (by kernel_rfl) hv h
  obtain ⟨n0, e0, _, w0⟩ := DataW.trod_int Try.underlying22 t0
  obtain ⟨n1, e1, _, w1⟩ := DataW.trod_int Try.underlying22 t1
  simp at e0 e1
  subst e0; subst e1
  have b0 := bounds_u32 w0
  have b1 := bounds_u32 w1
  obtain ⟨a, n, c, rfl⟩ : ∃ a n c, v3 = .slice a n c := by
    rcases Go.Deep.open_slice Try.underlying23 t3 with ⟨hcs, _⟩ | ⟨x, l, c, mm, nn, D, Pl, hcs, _⟩
    · simp at hcs; exact ⟨_, _, _, hcs⟩
    · simp at hcs; exact ⟨_, _, _, hcs⟩
  obtain ⟨l, hl, hv3, hok, hr, hc⟩ := open_insts t3 (fun k hk => hs k (by
    simp only [DataW.weights, Try.underlying25]
    exact DataW.weights_mem_each (j := 2) rfl rfl _ hk))
  exact ⟨n0, n1, a, n, c, l, rfl, by omega, by omega, by omega, by omega, hl, hv3, hok, hr, hc⟩

theorem open_raw {H : Type} {enc : TypeId × Value → H} {w : World} {b0 base : Nat} {held : Bool} {v : Value} {d : DataW H} {ps : List MemPlace}
    (hv : Value.okWide Try.prog w .any b0 114 v) (h : DataW.Trod enc Try.prog w base (fun _ => true) held 114 v d ps) (hs : ∀ n ∈ d.weights Try.prog 114, n ≤ reachBytes) :
    ∃ (op : Int) (a : Option Addr) (n c : Nat) (zs : List Int), v = .agg #[.int .u16 op, .slice a n c] ∧ 0 ≤ op ∧ op < 65536 ∧ zs.length = n ∧ View .u32 w a zs ∧ Within 4294967296 zs ∧ 4 * n ≤ 140737488351232 ∧ n ≤ c := by
  obtain ⟨v0, v1, y0, y1, m, rfl, rfl, _, t0, t1⟩ := Go.Joins.open_agg2 Try.underlying114 (by kernel_rfl) (by kernel_rfl) hv h
  obtain ⟨n0, e0, _, w0⟩ := DataW.trod_int Try.underlying48 t0
  simp at e0
  subst e0
  have b0 := bounds_u16 w0
  rcases open_ints Try.underlying39 Try.underlying22 ArgInsts.cells32 t1 with ⟨hcs, _⟩ | ⟨y, l, c, zs, hcs, _, hl1, hm1, hz1, hx1, hcell, hwz⟩
  · simp at hcs
    subst hcs
    exact ⟨n0, none, 0, 0, [], rfl, by omega, by omega, rfl, view_nil, within_nil, by omega, by omega⟩
  · simp at hcs
    subst hcs
    simp only [if_true] at hz1
    have hs1 := hs (((lits (H := H) .u32 (zs.take l)).length + (lits (H := H) .u32 (zs.drop l)).length) * Try.prog.bytesOf 22) (by
      simp only [DataW.weights, Try.underlying114]
      refine DataW.weights_mem_each (j := 1) rfl rfl _ ?_
      have : y1.1 = DataW.slice (lits .u32 (zs.take l)) (lits .u32 (zs.drop l)) := by rw [hx1]
      rw [this]
      simp [DataW.weights, Try.underlying39])
    rw [show Try.prog.bytesOf 22 = 4 by kernel_rfl] at hs1
    simp only [lits, List.length_map, List.length_take, List.length_drop, reachBytes] at hs1
    have hlen : (zs.take l).length = l := by rw [List.length_take]; omega
    exact ⟨n0, some y, l, c, zs.take l, rfl, by omega, by omega, hlen, view_take hcell (by omega), within_take fun z hz => by have := bounds_u32 (hwz z hz); omega, by omega, hl1⟩

end Go.Proofs.Ytmobologlaeefac

/-
  IdsUses is true for every module and every id.
-/
namespace Go.Proofs.Ytmobologlaeefac
open Go.RowKit
set_option linter.unusedVariables false
set_option linter.unusedSimpArgs false
set_option maxRecDepth 10000

theorem usesL_len (b : Int) (l : List InstT) (id : Int) : (usesL b l id).length ≤ l.length := by
  unfold usesL
  split
  · exact usesTo_len _ _ _
  · simp

set_option maxHeartbeats 8000000 in
theorem idsUses_true (w : World) (gen bnd : Int) (a : Option Addr) (n c : Nat) (l : List InstT) (hl : l.length = n) (hv : InstsV w a l) (hok : InstsOk l) (hn : 40 * n ≤ 140737488351232) (hc : n ≤ c) (hgb : 0 ≤ gen ∧ gen < 4294967296 ∧ 0 ≤ bnd ∧ bnd < 4294967296) (id : Int) (hid : (Lit.int .u32 id).wf = true) :
    Calls Try.prog 4 #[.agg #[.int .u32 gen, .int .u32 bnd, .slice a n c], .int .u32 id] w fun e w' => e = .returned (.bool true) ∧ Below w.heap.size w w' := by
  obtain ⟨g0, g1, b0, b1⟩ := hgb
  have hRU := fun wx (h : InstsV wx a l) => refUses9_any gen bnd id a n c l wx h hok hl hn g0 g1 b0 b1
  have hRN := fun wx (h : InstsV wx a l) => refName9_any gen bnd id a n c l wx h hok hl hn g0 g1 b0 b1
  have hCp := fun wx (h : InstsV wx a l) => copyModule_any gen bnd a n c l wx h hok hl hn
  have hIU := fun ax m cx wx (h : InstsV wx ax l) (hm : l.length = m) => idsUses_any gen bnd id ax m cx l wx h hok hm (by omega) g0 g1 b0 b1
  have hIN := fun ax m cx wx (h : InstsV wx ax l) (hm : l.length = m) => idsName_any gen bnd id ax m cx l wx h hok hm (by omega) g0 g1 b0 b1
  have hul := usesL_len bnd l id
  rw [hl] at hul
  have hKI := fun ax bx m ca cb wx (h1 : View .i64 wx ax (usesL bnd l id)) (h2 : View .i64 wx bx (usesL bnd l id)) (hm : (usesL bnd l id).length = m) => ints_true ax bx m ca cb (usesL bnd l id) wx h1 h2 hm (by omega)
  unfold UsesQ at hRU hIU
  unfold NameQ at hRN hIN
  generalize usesL bnd l id = zs at *
  generalize shapeE bnd l = E at *
  generalize nameL bnd l id = nm at *
  obtain ⟨E1, E2⟩ := E
  obtain ⟨nm1, nm2⟩ := nm
  unfold modV at *
  simp only at *
  have HV := hide hv
  have HRN := hide hRN
  have HCP := hide hCp
  have HIU := hide hIU
  have HIN := hide hIN
  have HKI := hide hKI
  have hba : Below w.heap.size w (w.alloc (.cells #[.int .u32 gen, .int .u32 bnd, .slice a n c] 25)) := (Below.refl _ w).alloc (Nat.le_refl _) _
  have HM0 := hide (heap_alloc_new w (.cells #[.int .u32 gen, .int .u32 bnd, .slice a n c] 25))
  have hR := hRU _ (hv.below hba)
  have HBA := hide hba
  have HLW : Hid (w.heap.size < (w.alloc (.cells #[.int .u32 gen, .int .u32 bnd, .slice a n c] 25)).heap.size) := by show _ < _; simp
  clear hv hRN hCp hIU hIN hKI hRU hba hok hid
  go_enter Try.func4, Try.ntmps4
  go_wp2_with fail
  generalize w.alloc (.cells #[.int .u32 gen, .int .u32 bnd, .slice a n c] 25) = W0 at *
  refine hR.mono ?_
  rintro e w1 ⟨a1, m1, c1, rfl, hm1, hv1, hb1⟩
  have hba1 : Below w1.heap.size w1 (w1.alloc (.cells #[.int .i64 E1, .int .i64 E2] 29)) := (Below.refl _ w1).alloc (Nat.le_refl _) _
  have hbx := hb1.trans (hba1.mono hb1.size)
  have q0 := (hbx.block _ HLW.out).trans HM0.out
  have HM1 := hide q0
  have HS1 := hide (heap_alloc_new w1 (.cells #[.int .i64 E1, .int .i64 E2] 29))
  have HB1 := hide (HBA.out.trans (hbx.mono HBA.out.size))
  have HV1 := hide (hv1.below hba1)
  have HL1 : Hid (w.heap.size < w1.heap.size) := Nat.lt_of_lt_of_le HLW.out hb1.size
  have hcp := HCP.out _ (HV.out.below HB1.out)
  have x0 := (one_block q0).1 0
  have x1 := (one_block q0).1 1
  have x2 := (one_block q0).1 2
  have HM := hide hm1
  clear hR hb1 hba1 hbx q0 hv1 HM0 HBA HLW hm1
  go_wp2_with fail
  generalize w1.alloc (.cells #[.int .i64 E1, .int .i64 E2] 29) = W1 at *
  generalize w1.heap.size = B1 at *
  refine hcp.mono ?_
  rintro e w2 ⟨ga, rfl, _, hv2, hb2⟩
  have hb2' := hb2
  have h2 := HIU.out _ n n _ hv2 hl
  have HM2 := hide ((hb2'.block _ (by have := (Array.getElem?_eq_some_iff.1 HM1.out).1; omega)).trans HM1.out)
  have HS2 := hide ((hb2'.block _ (by have := (Array.getElem?_eq_some_iff.1 HS1.out).1; omega)).trans HS1.out)
  have HB2 := hide (HB1.out.trans (hb2.mono HB1.out.size))
  have HV2 := hide (HV1.out.below hb2)
  clear hcp hb2 hb2' hv2 x0 x1 x2 HM1 HS1 HB1 HV1
  go_wp2_with fail
  refine h2.mono ?_
  rintro e w3 ⟨a3, m3, c3, rfl, hm3, hv3, hb3⟩
  have hba3 : Below w3.heap.size w3 (w3.alloc (.cells #[.int .i64 E1, .int .i64 E2] 29)) := (Below.refl _ w3).alloc (Nat.le_refl _) _
  have hbx := hb3.trans (hba3.mono hb3.size)
  have q0 := (hbx.block _ (Array.getElem?_eq_some_iff.1 HM2.out).1).trans HM2.out
  have q1 := (hbx.block _ (Array.getElem?_eq_some_iff.1 HS2.out).1).trans HS2.out
  have HM3 := hide q0
  have HS3 := hide q1
  have HT3 := hide (heap_alloc_new w3 (.cells #[.int .i64 E1, .int .i64 E2] 29))
  have HB3 := hide (HB2.out.trans (hbx.mono HB2.out.size))
  have HV3 := hide (And.intro (HV2.out.below hbx) (hv3.below hba3))
  have HMM := hide hm3
  have hrn := HRN.out _ (HV.out.below HB3.out)
  have x0 := (one_block q0).1 0
  have x1 := (one_block q0).1 1
  have x2 := (one_block q0).1 2
  clear h2 hb3 hba3 hbx q0 q1 hv3 hm3 HM2 HS2 HB2 HV2
  go_wp2_with fail
  generalize w3.alloc (.cells #[.int .i64 E1, .int .i64 E2] 29) = W3 at *
  generalize w3.heap.size = B3 at *
  refine hrn.mono ?_
  rintro e w4 ⟨rfl, hb4⟩
  have HM4 := hide ((hb4.block _ (Array.getElem?_eq_some_iff.1 HM3.out).1).trans HM3.out)
  have HS4 := hide ((hb4.block _ (Array.getElem?_eq_some_iff.1 HS3.out).1).trans HS3.out)
  have HT4 := hide ((hb4.block _ (Array.getElem?_eq_some_iff.1 HT3.out).1).trans HT3.out)
  have HB4 := hide (HB3.out.trans (hb4.mono HB3.out.size))
  have HV4 := hide (And.intro (HV3.out.1.below hb4) (HV3.out.2.below hb4))
  have hcp := HCP.out _ (HV.out.below HB4.out)
  have x0 := (one_block HM4.out).1 0
  have x1 := (one_block HM4.out).1 1
  have x2 := (one_block HM4.out).1 2
  clear hrn hb4 HM3 HS3 HT3 HB3 HV3
  go_wp2_with fail
  refine hcp.mono ?_
  rintro e w5 ⟨gb, rfl, _, hv5, hb5⟩
  have h5 := HIN.out _ n n _ hv5 hl
  have HS5 := hide ((hb5.block _ (Array.getElem?_eq_some_iff.1 HS4.out).1).trans HS4.out)
  have HT5 := hide ((hb5.block _ (Array.getElem?_eq_some_iff.1 HT4.out).1).trans HT4.out)
  have HB5 := hide (HB4.out.trans (hb5.mono HB4.out.size))
  have HV5 := hide (And.intro (HV4.out.1.below hb5) (HV4.out.2.below hb5))
  clear hcp hb5 hv5 x0 x1 x2 HM4 HS4 HT4 HB4 HV4
  go_wp2_with fail
  refine h5.mono ?_
  rintro e w6 ⟨rfl, hb6⟩
  have k1 := (hb6.block _ (Array.getElem?_eq_some_iff.1 HS5.out).1).trans HS5.out
  have k2 := (hb6.block _ (Array.getElem?_eq_some_iff.1 HT5.out).1).trans HT5.out
  obtain ⟨s0, s1, _⟩ := cell_of_two k1
  obtain ⟨t0, t1, _⟩ := cell_of_two k2
  have HB6 := hide (HB5.out.trans (hb6.mono HB5.out.size))
  obtain rfl : m1 = m3 := by rw [← HM.out, ← HMM.out]
  have hki := HKI.out a3 a1 m1 c3 c1 w6 (HV5.out.2.below hb6) (HV5.out.1.below hb6) HM.out
  clear h5 hb6 k1 k2 HS5 HT5 HB5 HV5
  go_wp2_with fail
  refine hki.mono ?_
  rintro e w7 ⟨rfl, q, rfl⟩
  clear hki
  go_wp2_with fail
  go_ret
  exact ⟨by simp, HB6.out.trans ⟨rfl, rfl, rfl, Nat.le_refl _, fun _ _ => rfl⟩⟩

end Go.Proofs.Ytmobologlaeefac
