/-
  Texts laid together in one: ArgInsts, LawIdsRenumbers.
-/
import Derived.ProofKit
import Derived.OpenShut
import Derived.SizedLaws
import Derived.Deep.Slices
import Derived.Deep.SlicePairs
import Derived.Lib.SmallJoins
import Derived.Test.YtjjoggpddafajaaGreatProg
import Derived.Test.YtjjoggpddafajaaGreatB01
import Derived.WalkSpells
import Derived.WalkMore
import Derived.BigRegion
import Derived.Test.YtjjoggpddafajaaGreatB23
import Derived.Test.YtjjoggpddafajaaGreatB26
import Derived.Test.YtjjoggpddafajaaGreatB27
import Derived.Test.YtjjoggpddafajaaGreatB08
/-
  What an argument that is an instruction, or a slice of instructions, holds: all within their bounds, each list within the reach of memory.
-/
namespace Go.Proofs.YtjjoggpddafajaaGreat
open Go.ChangeShapes Go.WideShapes Go.ChangeAt Go.RowKit
set_option maxRecDepth 100000

theorem ArgInsts.cellsA : Tryz.prog.cellsOf 48 = 3 := by kernel_rfl
theorem ArgInsts.cells8 : Tryz.prog.cellsOf 5 = 1 := by kernel_rfl
theorem ArgInsts.cells32 : Tryz.prog.cellsOf 22 = 1 := by kernel_rfl
theorem ArgInsts.cellsS : Tryz.prog.cellsOf 9 = 1 := by kernel_rfl
theorem ArgInsts.bytesA : Tryz.prog.bytesOf 48 = 24 := by kernel_rfl
theorem ArgInsts.cells16 : Tryz.prog.cellsOf 37 = 1 := by kernel_rfl
theorem ArgInsts.cellsL : Tryz.prog.cellsOf 38 = 1 := by kernel_rfl

theorem ArgInsts.cellsI : Tryz.prog.cellsOf 40 = 4 := by kernel_rfl
theorem ArgInsts.bytesI : Tryz.prog.bytesOf 40 = 40 := by kernel_rfl

theorem weightsIn {H : Type} {P : Program} {e : TypeId} : ∀ {l : List (DataW H)} {d : DataW H}, d ∈ l → ∀ n ∈ d.weights P e, n ∈ DataW.weightsAll P e l
  | d0 :: l, d, hd, n, hn => by
    simp only [DataW.weightsAll, List.mem_append]
    rcases List.mem_cons.1 hd with rfl | h
    · exact Or.inl hn
    · exact Or.inr (weightsIn h n hn)

theorem argsV_mk {w : World} {x : Addr} {n : Nat} {f : Nat → ArgT} (h : ∀ i, i < n → w.cell? (x.add (i * 3)) = some (.int .u8 (f i).1) ∧ w.cell? (x.add (i * 3 + 1)) = some (.int .u32 (f i).2.1) ∧ w.cell? (x.add (i * 3 + 2)) = some (.string (f i).2.2)) : ArgsV w (some x) ((List.range n).map f) := by
  intro j hj
  rw [List.length_map, List.length_range] at hj
  have h0 := (h 0 (by omega)).1
  obtain ⟨b, off, spot⟩ := x
  have hs : spot = none := by simpa [Addr.add] using World.cell?_spot h0
  subst hs
  obtain ⟨h1, h2, h3⟩ := h j hj
  rw [Addr.add_lit] at h1 h2 h3
  have e : nthA ((List.range n).map f) j = f j := by simp [nthA, List.getD, hj]
  rw [e]
  exact ⟨b, off, rfl, World.block_lt_of_cell? _ _ h1, h1, by rw [Nat.add_assoc]; exact h2, by rw [Nat.add_assoc]; exact h3⟩

set_option maxHeartbeats 1000000 in
theorem open_args {H : Type} {enc : TypeId × Value → H} {w : World} {base fuel : Nat} {held : Bool} {a : Option Addr} {len cap : Nat} {d : DataW H} {ps : List MemPlace}
    (hf : DataW.trod enc Tryz.prog w base (fun _ => true) held fuel 38 [.slice a len cap] = some (d, ps)) (hs : ∀ n ∈ d.weights Tryz.prog 38, n ≤ reachBytes) :
    ∃ l : List ArgT, l.length = len ∧ ArgsV w a l ∧ ArgsOk l ∧ 24 * len ≤ 140737488351232 ∧ len ≤ cap := by
  rcases Go.Deep.open_slice Tryz.underlying38 hf with ⟨hcs, _⟩ | ⟨x, l, c, mm, nn, D, Pl, hcs, _, hl, hm, hmm, hx, hall⟩
  · simp at hcs
    obtain ⟨rfl, rfl, rfl⟩ := hcs
    exact ⟨[], rfl, argsV_nil, argsOk_nil, by omega, by omega⟩
  · simp at hcs
    obtain ⟨rfl, rfl, rfl⟩ := hcs
    simp only [Prod.mk.injEq] at hx
    obtain ⟨rfl, rfl⟩ := hx
    simp only [if_true] at hmm
    subst hmm
    have hs0 := hs ((((List.range len).map D).length + ((List.range (mm - len)).map fun j => D (len + j)).length) * Tryz.prog.bytesOf 48) (by simp [DataW.weights, Tryz.underlying38])
    rw [ArgInsts.bytesA] at hs0
    simp only [List.length_map, List.length_range, reachBytes] at hs0
    have key : ∀ i, i < len → ∃ r : ArgT, w.cell? (x.add (i * 3)) = some (.int .u8 r.1) ∧ w.cell? (x.add (i * 3 + 1)) = some (.int .u32 r.2.1) ∧ w.cell? (x.add (i * 3 + 2)) = some (.string r.2.2) ∧ ArgOk r := by
      intro i hi
      obtain ⟨cs, hc, ht⟩ := hall i (by omega)
      rw [ArgInsts.cellsA] at hc
      obtain ⟨_, hlen, hcell⟩ := World.cells?_some hc
      obtain ⟨xs, k, _, hxy, _, hxl, hfl⟩ := DataW.trod_struct Tryz.underlying48 ht
      have g0 := hfl 0 _ rfl
      have g1 := hfl 1 _ rfl
      have g2 := hfl 2 _ rfl
      match xs, hxl, cs, hlen with
      | [y0, y1, y2], _, [v0, v1, v2], _ =>
        have e0 := hcell 0 (by omega)
        have e1 := hcell 1 (by omega)
        have e2 := hcell 2 (by omega)
        rw [Go.Deep.add_add] at e0 e1 e2
        simp [ArgInsts.cells8, ArgInsts.cells32, ArgInsts.cellsS] at g0 g1 g2 e0 e1 e2
        obtain ⟨n0, q0, _, w0⟩ := DataW.trod_int Tryz.underlying5 g0
        obtain ⟨n1, q1, _, w1⟩ := DataW.trod_int Tryz.underlying22 g1
        obtain ⟨s2, q2, q3⟩ := DataW.trod_string Tryz.underlying9 g2
        simp at q0 q1 q2
        subst q0; subst q1; subst q2
        have b0 := bounds_u8 w0
        have b1 := bounds_u32 w1
        refine ⟨(n0, n1, s2), by simpa using e0, e1, e2, ?_⟩
        have hs2 := hs s2.size (by
          have hmem : D i ∈ (List.range len).map D := List.mem_map.2 ⟨i, List.mem_range.2 hi, rfl⟩
          simp only [DataW.weights, Tryz.underlying38, List.mem_cons, List.mem_append]
          refine Or.inr (Or.inl (weightsIn hmem _ ?_))
          simp only [Prod.mk.injEq] at hxy
          rw [hxy.1]
          simp only [DataW.weights, Tryz.underlying48]
          refine DataW.weights_mem_each (j := 2) rfl rfl _ ?_
          simp_all [DataW.weights])
        simp only [reachBytes] at hs2
        exact ⟨by simp; omega, by simp; omega, by simp; omega, by simp; omega, hs2⟩
    let f : Nat → ArgT := fun i => if h : i < len then Classical.choose (key i h) else noArg
    have hf' : ∀ i (h : i < len), f i = Classical.choose (key i h) := fun i h => dif_pos h
    refine ⟨(List.range len).map f, by simp, argsV_mk (fun i hi => ?_), fun j hj => ?_, by omega, hl⟩
    · rw [hf' i hi]
      obtain ⟨h1, h2, h3, _⟩ := Classical.choose_spec (key i hi)
      exact ⟨h1, h2, h3⟩
    · rw [List.length_map, List.length_range] at hj
      have e : nthA ((List.range len).map f) j = f j := by simp [nthA, List.getD, hj]
      rw [e, hf' j hj]
      exact (Classical.choose_spec (key j hj)).2.2.2

theorem open_inst {H : Type} {enc : TypeId × Value → H} {w : World} {b0 base : Nat} {held : Bool} {v : Value} {d : DataW H} {ps : List MemPlace}
    (hv : Value.okWide Tryz.prog w .any b0 40 v) (h : DataW.Trod enc Tryz.prog w base (fun _ => true) held 40 v d ps) (hs : ∀ n ∈ d.weights Tryz.prog 40, n ≤ reachBytes) :
    ∃ (x : InstT) (a : Option Addr) (n c : Nat), v = instV x a n c ∧ x.2.2.2.length = n ∧ InstOk x ∧ ArgsV w a x.2.2.2 ∧ n ≤ c := by
  obtain ⟨v0, v1, v2, v3, y0, y1, y2, y3, m, rfl, rfl, _, t0, t1, t2, t3⟩ := Go.Joins.open_agg4 Tryz.underlying40 (by kernel_rfl) (by kernel_rfl) hv h
  obtain ⟨n0, e0, _, w0⟩ := DataW.trod_int Tryz.underlying37 t0
  obtain ⟨n1, e1, _, w1⟩ := DataW.trod_int Tryz.underlying22 t1
  obtain ⟨n2, e2, _, w2⟩ := DataW.trod_int Tryz.underlying22 t2
  simp at e0 e1 e2
  subst e0; subst e1; subst e2
  have b0 := bounds_u16 w0
  have b1 := bounds_u32 w1
  have b2 := bounds_u32 w2
  obtain ⟨a, n, c, rfl⟩ : ∃ a n c, v3 = .slice a n c := by
    rcases Go.Deep.open_slice Tryz.underlying38 t3 with ⟨hcs, _⟩ | ⟨x, l, c, mm, nn, D, Pl, hcs, _⟩
    · simp at hcs; exact ⟨_, _, _, hcs⟩
    · simp at hcs; exact ⟨_, _, _, hcs⟩
  obtain ⟨l, hl, hv3, hok, hr, hc⟩ := open_args t3 (fun k hk => hs k (by
    simp only [DataW.weights, Tryz.underlying40]
    exact DataW.weights_mem_each (j := 3) rfl rfl _ hk))
  exact ⟨(n0, n1, n2, l), a, n, c, rfl, hl, ⟨by simp; omega, by simp; omega, by simp; omega, by simp; omega, by simp; omega, by simp; omega, hok, by rw [hl]; exact hr⟩, hv3, hc⟩

theorem instsV_mk {w : World} {x : Addr} {n : Nat} {f : Nat → InstT} (h : ∀ i, i < n → w.cell? (x.add (i * 4)) = some (.int .u16 (f i).1) ∧ w.cell? (x.add (i * 4 + 1)) = some (.int .u32 (f i).2.1) ∧ w.cell? (x.add (i * 4 + 2)) = some (.int .u32 (f i).2.2.1) ∧
    ∃ aj cj, w.cell? (x.add (i * 4 + 3)) = some (.slice aj (f i).2.2.2.length cj) ∧ ArgsV w aj (f i).2.2.2 ∧ (f i).2.2.2.length ≤ cj) : InstsV w (some x) ((List.range n).map f) := by
  intro j hj
  rw [List.length_map, List.length_range] at hj
  have h0 := (h 0 (by omega)).1
  obtain ⟨b, off, spot⟩ := x
  have hs : spot = none := by simpa [Addr.add] using World.cell?_spot h0
  subst hs
  obtain ⟨h1, h2, h3, aj, cj, h4, h5, h6⟩ := h j hj
  rw [Addr.add_lit] at h1 h2 h3 h4
  have e : nthI ((List.range n).map f) j = f j := by simp [nthI, List.getD, hj]
  rw [e]
  exact ⟨b, off, aj, cj, _, rfl, World.block_lt_of_cell? _ _ h1, h1, by rw [Nat.add_assoc]; exact h2, by rw [Nat.add_assoc]; exact h3, by rw [Nat.add_assoc]; exact h4, rfl, h5, h6⟩

set_option maxHeartbeats 1000000 in
theorem open_insts {H : Type} {enc : TypeId × Value → H} {w : World} {base fuel : Nat} {held : Bool} {a : Option Addr} {len cap : Nat} {d : DataW H} {ps : List MemPlace}
    (hf : DataW.trod enc Tryz.prog w base (fun _ => true) held fuel 23 [.slice a len cap] = some (d, ps)) (hs : ∀ n ∈ d.weights Tryz.prog 23, n ≤ reachBytes) :
    ∃ l : List InstT, l.length = len ∧ InstsV w a l ∧ InstsOk l ∧ 40 * len ≤ 140737488351232 ∧ len ≤ cap := by
  rcases Go.Deep.open_slice Tryz.underlying23 hf with ⟨hcs, _⟩ | ⟨x, l, c, mm, nn, D, Pl, hcs, _, hl, hm, hmm, hx, hall⟩
  · simp at hcs
    obtain ⟨rfl, rfl, rfl⟩ := hcs
    exact ⟨[], rfl, instsV_nil, instsOk_nil, by omega, by omega⟩
  · simp at hcs
    obtain ⟨rfl, rfl, rfl⟩ := hcs
    simp only [Prod.mk.injEq] at hx
    obtain ⟨rfl, rfl⟩ := hx
    simp only [if_true] at hmm
    subst hmm
    have hs0 := hs ((((List.range len).map D).length + ((List.range (mm - len)).map fun j => D (len + j)).length) * Tryz.prog.bytesOf 40) (by simp [DataW.weights, Tryz.underlying23])
    rw [ArgInsts.bytesI] at hs0
    simp only [List.length_map, List.length_range, reachBytes] at hs0
    have key : ∀ i, i < len → ∃ r : InstT, w.cell? (x.add (i * 4)) = some (.int .u16 r.1) ∧ w.cell? (x.add (i * 4 + 1)) = some (.int .u32 r.2.1) ∧ w.cell? (x.add (i * 4 + 2)) = some (.int .u32 r.2.2.1) ∧
        (∃ aj cj, w.cell? (x.add (i * 4 + 3)) = some (.slice aj r.2.2.2.length cj) ∧ ArgsV w aj r.2.2.2 ∧ r.2.2.2.length ≤ cj) ∧ InstOk r := by
      intro i hi
      obtain ⟨cs, hc, ht⟩ := hall i (by omega)
      rw [ArgInsts.cellsI] at hc
      obtain ⟨_, hlen, hcell⟩ := World.cells?_some hc
      obtain ⟨xs, k, _, hxy, _, hxl, hfl⟩ := DataW.trod_struct Tryz.underlying40 ht
      have g0 := hfl 0 _ rfl
      have g1 := hfl 1 _ rfl
      have g2 := hfl 2 _ rfl
      have g3 := hfl 3 _ rfl
      match xs, hxl, cs, hlen with
      | [y0, y1, y2, y3], _, [v0, v1, v2, v3], _ =>
        have e0 := hcell 0 (by omega)
        have e1 := hcell 1 (by omega)
        have e2 := hcell 2 (by omega)
        have e3 := hcell 3 (by omega)
        rw [Go.Deep.add_add] at e0 e1 e2 e3
        simp [ArgInsts.cells16, ArgInsts.cells32, ArgInsts.cellsL] at g0 g1 g2 g3 e0 e1 e2 e3
        obtain ⟨n0, q0, _, w0⟩ := DataW.trod_int Tryz.underlying37 g0
        obtain ⟨n1, q1, _, w1⟩ := DataW.trod_int Tryz.underlying22 g1
        obtain ⟨n2, q2, _, w2⟩ := DataW.trod_int Tryz.underlying22 g2
        simp at q0 q1 q2
        subst q0; subst q1; subst q2
        have b0 := bounds_u16 w0
        have b1 := bounds_u32 w1
        have b2 := bounds_u32 w2
        obtain ⟨a, n, c, rfl⟩ : ∃ a n c, v3 = .slice a n c := by
          rcases Go.Deep.open_slice Tryz.underlying38 g3 with ⟨hcs, _⟩ | ⟨x, l, c, mm, nn, D, Pl, hcs, _⟩
          · simp at hcs; exact ⟨_, _, _, hcs⟩
          · simp at hcs; exact ⟨_, _, _, hcs⟩
        obtain ⟨l, hl, hv3, hok, hr, hc⟩ := open_args g3 (fun k hk => hs k (by
          have hmem : D i ∈ (List.range len).map D := List.mem_map.2 ⟨i, List.mem_range.2 hi, rfl⟩
          simp only [DataW.weights, Tryz.underlying23, List.mem_cons, List.mem_append]
          refine Or.inr (Or.inl (weightsIn hmem _ ?_))
          simp only [Prod.mk.injEq] at hxy
          rw [hxy.1]
          simp only [DataW.weights, Tryz.underlying40]
          exact DataW.weights_mem_each (j := 3) rfl rfl _ hk))
        subst hl
        exact ⟨(n0, n1, n2, l), by simpa using e0, e1, e2, ⟨a, c, e3, hv3, hc⟩, by simp; omega, by simp; omega, by simp; omega, by simp; omega, by simp; omega, by simp; omega, hok, hr⟩
    let f : Nat → InstT := fun i => if h : i < len then Classical.choose (key i h) else noInst
    have hf' : ∀ i (h : i < len), f i = Classical.choose (key i h) := fun i h => dif_pos h
    refine ⟨(List.range len).map f, by simp, instsV_mk (fun i hi => ?_), fun j hj => ?_, by omega, hl⟩
    · rw [hf' i hi]
      obtain ⟨h1, h2, h3, h4, _⟩ := Classical.choose_spec (key i hi)
      exact ⟨h1, h2, h3, h4⟩
    · rw [List.length_map, List.length_range] at hj
      have e : nthI ((List.range len).map f) j = f j := by simp [nthI, List.getD, hj]
      rw [e, hf' j hj]
      exact (Classical.choose_spec (key j hj)).2.2.2.2

theorem open_module {H : Type} {enc : TypeId × Value → H} {w : World} {b0 base : Nat} {held : Bool} {v : Value} {d : DataW H} {ps : List MemPlace}
    (hv : Value.okWide Tryz.prog w .any b0 25 v) (h : DataW.Trod enc Tryz.prog w base (fun _ => true) held 25 v d ps) (hs : ∀ n ∈ d.weights Tryz.prog 25, n ≤ reachBytes) :
    ∃ (gen bound : Int) (a : Option Addr) (n c : Nat) (l : List InstT), v = .agg #[.int .u32 gen, .int .u32 bound, .slice a n c] ∧ 0 ≤ gen ∧ gen < 4294967296 ∧ 0 ≤ bound ∧ bound < 4294967296 ∧ l.length = n ∧ InstsV w a l ∧ InstsOk l ∧ 40 * n ≤ 140737488351232 ∧ n ≤ c := by
  obtain ⟨v0, v1, v3, y0, y1, y3, m, rfl, rfl, _, t0, t1, t3⟩ := Go.Joins.open_agg3 Tryz.underlying25 (by kernel_rfl) (by kernel_rfl) hv h
  obtain ⟨n0, e0, _, w0⟩ := DataW.trod_int Tryz.underlying22 t0
  obtain ⟨n1, e1, _, w1⟩ := DataW.trod_int Tryz.underlying22 t1
  simp at e0 e1
  subst e0; subst e1
  have b0 := bounds_u32 w0
  have b1 := bounds_u32 w1
  obtain ⟨a, n, c, rfl⟩ : ∃ a n c, v3 = .slice a n c := by
    rcases Go.Deep.open_slice Tryz.underlying23 t3 with ⟨hcs, _⟩ | ⟨x, l, c, mm, nn, D, Pl, hcs, _⟩
    · simp at hcs; exact ⟨_, _, _, hcs⟩
    · simp at hcs; exact ⟨_, _, _, hcs⟩
  obtain ⟨l, hl, hv3, hok, hr, hc⟩ := open_insts t3 (fun k hk => hs k (by
    simp only [DataW.weights, Tryz.underlying25]
    exact DataW.weights_mem_each (j := 2) rfl rfl _ hk))
  exact ⟨n0, n1, a, n, c, l, rfl, by omega, by omega, by omega, by omega, hl, hv3, hok, hr, hc⟩

theorem open_raw {H : Type} {enc : TypeId × Value → H} {w : World} {b0 base : Nat} {held : Bool} {v : Value} {d : DataW H} {ps : List MemPlace}
    (hv : Value.okWide Tryz.prog w .any b0 104 v) (h : DataW.Trod enc Tryz.prog w base (fun _ => true) held 104 v d ps) (hs : ∀ n ∈ d.weights Tryz.prog 104, n ≤ reachBytes) :
    ∃ (op : Int) (a : Option Addr) (n c : Nat) (zs : List Int), v = .agg #[.int .u16 op, .slice a n c] ∧ 0 ≤ op ∧ op < 65536 ∧ zs.length = n ∧ View .u32 w a zs ∧ Within 4294967296 zs ∧ 4 * n ≤ 140737488351232 ∧ n ≤ c := by
  obtain ⟨v0, v1, y0, y1, m, rfl, rfl, _, t0, t1⟩ := Go.Joins.open_agg2 Tryz.underlying104 (by kernel_rfl) (by kernel_rfl) hv h
  obtain ⟨n0, e0, _, w0⟩ := DataW.trod_int Tryz.underlying37 t0
  simp at e0
  subst e0
  have b0 := bounds_u16 w0
  rcases open_ints Tryz.underlying36 Tryz.underlying22 ArgInsts.cells32 t1 with ⟨hcs, _⟩ | ⟨y, l, c, zs, hcs, _, hl1, hm1, hz1, hx1, hcell, hwz⟩
  · simp at hcs
    subst hcs
    exact ⟨n0, none, 0, 0, [], rfl, by omega, by omega, rfl, view_nil, within_nil, by omega, by omega⟩
  · simp at hcs
    subst hcs
    simp only [if_true] at hz1
    have hs1 := hs (((lits (H := H) .u32 (zs.take l)).length + (lits (H := H) .u32 (zs.drop l)).length) * Tryz.prog.bytesOf 22) (by
      simp only [DataW.weights, Tryz.underlying104]
      refine DataW.weights_mem_each (j := 1) rfl rfl _ ?_
      have : y1.1 = DataW.slice (lits .u32 (zs.take l)) (lits .u32 (zs.drop l)) := by rw [hx1]
      rw [this]
      simp [DataW.weights, Tryz.underlying36])
    rw [show Tryz.prog.bytesOf 22 = 4 by kernel_rfl] at hs1
    simp only [lits, List.length_map, List.length_take, List.length_drop, reachBytes] at hs1
    have hlen : (zs.take l).length = l := by rw [List.length_take]; omega
    exact ⟨n0, some y, l, c, zs.take l, rfl, by omega, by omega, hlen, view_take hcell (by omega), within_take fun z hz => by have := bounds_u32 (hwz z hz); omega, by omega, hl1⟩

end Go.Proofs.YtjjoggpddafajaaGreat

/-
  IdsRenumbers is true for every module.
-/
namespace Go.Proofs.YtjjoggpddafajaaGreat
open Go.RowKit
set_option linter.unusedVariables false
set_option linter.unusedSimpArgs false
set_option maxRecDepth 10000

theorem own_keepR {w w' : World} {B e size n : Nat} {v : Value} {xs : List Value} (h : w.ownsRow B e size v n xs) (hk : ∀ k, B ≤ k → k < w.heap.size → w'.heap[k]? = w.heap[k]?) : w'.ownsRow B e size v n xs := by
  refine ⟨h.1, ?_⟩
  rcases h.2 with hn | ⟨g, cap, cur, rfl, hg, hgg, rest⟩
  · exact .inl hn
  · exact .inr ⟨g, cap, cur, rfl, hg, (hk g hg (Array.getElem?_eq_some_iff.1 hgg).1).trans hgg, rest⟩
/-- Instructions that lie from block lo on. -/
def StableR (lo : Nat) (w : World) (a : Option Addr) (l : List InstT) : Prop := ∀ w' : World, w.heap.size ≤ w'.heap.size → (∀ k, lo ≤ k → k < w.heap.size → w'.heap[k]? = w.heap[k]?) → InstsV w' a l
theorem RowT.stableR {w : World} {lo g n : Nat} {l : List InstT} (h : RowT w lo g n n l) (hl : l.length = n) : StableR lo w (some ⟨g, 0, none⟩) l := by
  intro w' hs hk
  refine RowT.view (lo := lo) (g := g) (n := n) ?_ hl
  obtain ⟨⟨cs, r1, r2⟩, r3, r4⟩ := h
  have hg := (Array.getElem?_eq_some_iff.1 r1).1
  have hb := hk g r3 hg
  have hc : ∀ i, w'.cell? ⟨g, i, none⟩ = w.cell? ⟨g, i, none⟩ := fun i => by simp only [World.cell?, hb]
  refine ⟨⟨cs, hb.trans r1, r2⟩, r3, fun j hj => ?_⟩
  obtain ⟨aj, cj, nj, c1, c2, c3, c4, c5, c6⟩ := r4 j hj
  exact ⟨aj, cj, nj, by rw [hc]; exact c1, by rw [hc]; exact c2, by rw [hc]; exact c3, by rw [hc]; exact c4, c5, own_keepR c6 (fun k hk1 hk2 => hk k (by omega) hk2)⟩

set_option maxHeartbeats 8000000 in
theorem idsRenumbers_of (w : World) (gen : Int) (N : Nat) (a : Option Addr) (n c : Nat) (l : List InstT) (hl : l.length = n) (hv : InstsV w a l) (hok : InstsOk l) (hn : 40 * n ≤ 140737488351232)
    (G Bd : Int) (L : List InstT) (E1 E2 : Int) (hLok : InstsOk L) (hLn : L.length ≤ 140737488351232)
    (hRef : ∀ wx, InstsV wx a l → Calls Tryz.prog 4 #[.agg #[.int .u32 gen, .int .u32 (N : Int), .slice a n c]] wx fun e w' => ∃ a' n' c', e = .returned (.tuple #[.agg #[.int .u32 G, .int .u32 Bd, .slice a' n' c'], .agg #[.int .i64 E1, .int .i64 E2]]) ∧ L.length = n' ∧ InstsV w' a' L ∧ Below wx.heap.size wx w')
    (hIds : ∀ wx g, InstsV wx (some ⟨g, 0, none⟩) l → Calls Tryz.prog 6 #[.agg #[.int .u32 gen, .int .u32 (N : Int), .slice (some ⟨g, 0, none⟩) n n]] wx fun e w' => ∃ a' n' c', e = .returned (.tuple #[.agg #[.int .u32 G, .int .u32 Bd, .slice a' n' c'], .agg #[.int .i64 E1, .int .i64 E2]]) ∧ L.length = n' ∧ StableR wx.heap.size w' a' L ∧ Below wx.heap.size wx w') :
    Calls Tryz.prog 3 #[.agg #[.int .u32 gen, .int .u32 (N : Int), .slice a n c]] w fun e w' => e = .returned (.bool true) ∧ Below w.heap.size w w' := by
  have HCP := hide fun wx (h : InstsV wx a l) => copyModule_own gen (N : Int) a n c l wx h hok hl hn
  have HID := hide hIds
  have HKM := hide fun g wx (h1 : InstsV wx (some ⟨g, 0, none⟩) l) (h2 : InstsV wx a l) => kitModule_any gen (N : Int) gen (N : Int) l l (some ⟨g, 0, none⟩) a n n n c wx h1 h2 hl hl hok hok (by omega) (by omega) true (by simp)
  have HKL := hide fun ax bx nx cx cy wx (h1 : InstsV wx ax L) (h2 : InstsV wx bx L) (hx : L.length = nx) => kitModule_any G Bd G Bd L L ax bx nx nx cx cy wx h1 h2 hx hx hLok hLok (by omega) (by omega) true (by simp)
  have HSP := hide fun g w0 wx (h : PartO w0 g n n l) (hb : Below w0.heap.size w0 wx) => spoilModule_any gen (N : Int) g n l w0 wx h hok hl hn hb
  unfold modV at *
  have HV := hide hv
  have HL := hide hl
  have hba : Below w.heap.size w (w.alloc (.cells #[.int .u32 gen, .int .u32 (N : Int), .slice a n c] 25)) := (Below.refl _ w).alloc (Nat.le_refl _) _
  have HM0 := hide (heap_alloc_new w (.cells #[.int .u32 gen, .int .u32 (N : Int), .slice a n c] 25))
  have hR := hRef _ (hv.below hba)
  have HBA := hide hba
  have HLW : Hid ((w.alloc (.cells #[.int .u32 gen, .int .u32 (N : Int), .slice a n c] 25)).heap.size = w.heap.size + 1) := by show _ = _; simp
  clear hv hRef hIds hba hok hLok hl
  go_enter Tryz.func3, Tryz.ntmps3
  go_wp2_with fail
  generalize w.alloc (.cells #[.int .u32 gen, .int .u32 (N : Int), .slice a n c] 25) = W0 at *
  refine hR.mono ?_
  rintro e w1 ⟨a1, n1, c1, rfl, hn1, hv1, hb1⟩
  have hba1 : Below w1.heap.size w1 ((w1.alloc (.cells #[.int .u32 G, .int .u32 Bd, .slice a1 n1 c1] 25)).alloc (.cells #[.int .i64 E1, .int .i64 E2] 28)) := ((Below.refl _ w1).alloc (Nat.le_refl _) _).alloc (by simp) _
  have hbx := hb1.trans (hba1.mono hb1.size)
  have q0 := (hbx.block w.heap.size (by rw [HLW.out]; omega)).trans HM0.out
  have kX : ((w1.alloc (.cells #[.int .u32 G, .int .u32 Bd, .slice a1 n1 c1] 25)).alloc (.cells #[.int .i64 E1, .int .i64 E2] 28)).heap[w1.heap.size]? = some (.cells #[.int .u32 G, .int .u32 Bd, .slice a1 n1 c1] 25 (0, 0)) := by rw [Below.heap_alloc _ _ _ (by simp)]; exact heap_alloc_new _ _
  have kS : ((w1.alloc (.cells #[.int .u32 G, .int .u32 Bd, .slice a1 n1 c1] 25)).alloc (.cells #[.int .i64 E1, .int .i64 E2] 28)).heap[w1.heap.size + 1]? = some (.cells #[.int .i64 E1, .int .i64 E2] 28 (0, 0)) := by have := heap_alloc_new (w1.alloc (.cells #[.int .u32 G, .int .u32 Bd, .slice a1 n1 c1] 25)) (.cells #[.int .i64 E1, .int .i64 E2] 28); simpa using this
  have HBX := hide (HBA.out.trans (hbx.mono HBA.out.size))
  have HQ := hide (And.intro q0 (And.intro kX kS))
  have HV1 := hide hv1
  have HN1 := hide hn1
  have HS1 : Hid (((w1.alloc (.cells #[.int .u32 G, .int .u32 Bd, .slice a1 n1 c1] 25)).alloc (.cells #[.int .i64 E1, .int .i64 E2] 28)).heap.size = w1.heap.size + 2) := by show _ = _; simp
  have HB11 := hide hba1
  have HBW1 := hide (HBA.out.trans (hb1.mono HBA.out.size))
  have HW1 : Hid (w.heap.size < w1.heap.size) := by show _ < _; have := hb1.size; rw [HLW.out] at this; omega
  have hcp := HCP.out _ (HV.out.below HBX.out)
  have x0 := (one_block q0).1 0
  have x1 := (one_block q0).1 1
  have x2 := (one_block q0).1 2
  clear hR hb1 hba1 hbx q0 kX kS hv1 hn1 HM0 HBA
  go_wp2_with fail
  generalize (w1.alloc (.cells #[.int .u32 G, .int .u32 Bd, .slice a1 n1 c1] 25)).alloc (.cells #[.int .i64 E1, .int .i64 E2] 28) = W1 at *
  refine hcp.mono ?_
  rintro e w2 ⟨g2, rfl, hg2, hP2, hb2⟩
  have hba2 : Below w2.heap.size w2 (w2.alloc (.cells #[.int .u32 gen, .int .u32 (N : Int), .slice (some ⟨g2, 0, none⟩) n n] 25)) := (Below.refl _ w2).alloc (Nat.le_refl _) _
  have HP2 := hide hP2
  have HB2 := hide (hb2.trans (hba2.mono hb2.size))
  have HBA2 := hide hba2
  have HC2 := hide (heap_alloc_new w2 (.cells #[.int .u32 gen, .int .u32 (N : Int), .slice (some ⟨g2, 0, none⟩) n n] 25))
  have HS2 : Hid ((w2.alloc (.cells #[.int .u32 gen, .int .u32 (N : Int), .slice (some ⟨g2, 0, none⟩) n n] 25)).heap.size = w2.heap.size + 1 ∧ w1.heap.size + 2 ≤ g2 ∧ g2 < w2.heap.size) := ⟨by simp, by rw [← HS1.out]; exact hg2, by obtain ⟨cs, r1, _⟩ := hP2.row; exact (Array.getElem?_eq_some_iff.1 r1).1⟩
  have hid := HID.out _ g2 ((hP2.below hba2).view HL.out)
  have y0 := (one_block HC2.out).1 0
  have y1 := (one_block HC2.out).1 1
  have y2 := (one_block HC2.out).1 2
  clear hcp hb2 hba2 hP2 hg2 x0 x1 x2 HCP
  go_wp2_with fail
  generalize w2.alloc (.cells #[.int .u32 gen, .int .u32 (N : Int), .slice (some ⟨g2, 0, none⟩) n n] 25) = W2 at *
  refine hid.mono ?_
  rintro e w4 ⟨a4, n4, c4, rfl, hn4, hs4, hb4⟩
  obtain rfl : n1 = n4 := by rw [← HN1.out, ← hn4]
  have hba4 : Below w4.heap.size w4 ((w4.alloc (.cells #[.int .u32 G, .int .u32 Bd, .slice a4 n1 c4] 25)).alloc (.cells #[.int .i64 E1, .int .i64 E2] 28)) := ((Below.refl _ w4).alloc (Nat.le_refl _) _).alloc (by simp) _
  have kY : ((w4.alloc (.cells #[.int .u32 G, .int .u32 Bd, .slice a4 n1 c4] 25)).alloc (.cells #[.int .i64 E1, .int .i64 E2] 28)).heap[w4.heap.size]? = some (.cells #[.int .u32 G, .int .u32 Bd, .slice a4 n1 c4] 25 (0, 0)) := by rw [Below.heap_alloc _ _ _ (by simp)]; exact heap_alloc_new _ _
  have kT : ((w4.alloc (.cells #[.int .u32 G, .int .u32 Bd, .slice a4 n1 c4] 25)).alloc (.cells #[.int .i64 E1, .int .i64 E2] 28)).heap[w4.heap.size + 1]? = some (.cells #[.int .i64 E1, .int .i64 E2] 28 (0, 0)) := by have := heap_alloc_new (w4.alloc (.cells #[.int .u32 G, .int .u32 Bd, .slice a4 n1 c4] 25)) (.cells #[.int .i64 E1, .int .i64 E2] 28); simpa using this
  have hs34 := hb4.size
  have hs12 := HB2.out.size
  rw [HS2.out.1] at hs34 hs12
  rw [HS1.out] at hs12
  have hb24 := hb4.trans (hba4.mono hb4.size)
  have hb14 := HB2.out.trans (hb24.mono HB2.out.size)
  have HALL := hide (And.intro hb24 (And.intro hb14 (HBX.out.trans (hb14.mono HBX.out.size))))
  have HS34 : Hid (w2.heap.size + 1 ≤ w4.heap.size) := hs34
  have HS4 := hide hs4
  have HKY := hide (And.intro kY kT)
  have HBA4 := hide hba4
  have c7 := (hb24.block w2.heap.size (by rw [HS2.out.1]; omega)).trans HC2.out
  have y0 := (one_block c7).1 0
  have y1 := (one_block c7).1 1
  have y2 := (one_block c7).1 2
  have q0 := (hb14.block w.heap.size (by rw [HS1.out]; have := HW1.out; omega)).trans HQ.out.1
  have x0 := (one_block q0).1 0
  have x1 := (one_block q0).1 1
  have x2 := (one_block q0).1 2
  have hkm := HKM.out g2 _ ((HP2.out.below (HBA2.out.trans (hb24.mono HBA2.out.size))).view HL.out) (HV.out.below (HBX.out.trans (hb14.mono HBX.out.size)))
  have HC4 := hide c7
  clear hid hn4 hs4 hb4 hba4 kY kT hb24 hb14 c7 q0
  go_wp2_with fail
  generalize (w4.alloc (.cells #[.int .u32 G, .int .u32 Bd, .slice a4 n1 c4] 25)).alloc (.cells #[.int .i64 E1, .int .i64 E2] 28) = W4 at *
  refine hkm.mono ?_
  rintro e w6 ⟨rfl, hb46⟩
  obtain ⟨hb24, hb14, hbw4⟩ := HALL.out
  have c7 := (hb46.block w2.heap.size (Array.getElem?_eq_some_iff.1 HC4.out).1).trans HC4.out
  have y0 := (one_block c7).1 0
  have y1 := (one_block c7).1 1
  have y2 := (one_block c7).1 2
  have hsp := HSP.out g2 w2 w6 HP2.out ((HBA2.out.trans (hb24.mono HBA2.out.size)).trans (hb46.mono (Nat.le_trans HBA2.out.size hb24.size)))
  have HB46 := hide hb46
  clear hkm hb24 hb14 hbw4 hb46 c7 x0 x1 x2
  go_wp2_with fail
  refine hsp.mono ?_
  rintro e w8 ⟨rfl, hout⟩
  obtain ⟨hb24, hb14, hbw4⟩ := HALL.out
  have hs6 := HB46.out.size
  have hsW2 := HS2.out
  have hs4a := HBA4.out.size
  have hs3w := HS34.out
  have hsE1 := HS1.out
  have h46 := HB46.out
  have hs7 := hout.size
  have hkeep : ∀ k, (k < g2 ∨ w2.heap.size ≤ k) → k < W4.heap.size → w8.heap[k]? = W4.heap[k]? := fun k h1 h3 => (hout.block k h1 (by omega)).trans (h46.block k h3)
  have hlY := (Array.getElem?_eq_some_iff.1 HKY.out.1).1
  have hlT := (Array.getElem?_eq_some_iff.1 HKY.out.2).1
  have hsz8 : W4.heap.size ≤ w8.heap.size := Nat.le_trans hs6 hs7
  have hvY : InstsV w8 a4 L := HS4.out w8 (Nat.le_trans hs4a hsz8) (fun k h1 h2 => (hkeep k (.inr (by omega)) (by omega)).trans (HBA4.out.block k h2))
  have hb18 : Below w1.heap.size w1 w8 := by
    have h14 := HB11.out.trans (hb14.mono HB11.out.size)
    exact ⟨hout.os.trans (h46.os.trans h14.os), hout.tape.trans (h46.tape.trans h14.tape), hout.output.trans (h46.output.trans h14.output), Nat.le_trans h14.size hsz8, fun k hk => (hkeep k (.inl (by omega)) (by have := h14.size; omega)).trans (h14.block k hk)⟩
  have hvX : InstsV w8 a1 L := HV1.out.below hb18
  have h14s := hb14.size
  rw [HS1.out] at h14s
  have kX := (hkeep w1.heap.size (.inl (by omega)) (by omega)).trans ((hb14.block _ (by rw [HS1.out]; omega)).trans HQ.out.2.1)
  have kS := (hkeep (w1.heap.size + 1) (.inl (by omega)) (by omega)).trans ((hb14.block _ (by rw [HS1.out]; omega)).trans HQ.out.2.2)
  have kY := (hkeep w4.heap.size (.inr (by omega)) hlY).trans HKY.out.1
  have kT := (hkeep (w4.heap.size + 1) (.inr (by omega)) hlT).trans HKY.out.2
  have hbF : Below w.heap.size w w8 := ⟨hb18.os.trans (HBW1.out.os), hb18.tape.trans (HBW1.out.tape), hb18.output.trans (HBW1.out.output), Nat.le_trans HBW1.out.size hb18.size, fun k hk => (hb18.block k (by have := HW1.out; omega)).trans (HBW1.out.block k hk)⟩
  have hkl := HKL.out a4 a1 n1 c4 c1 w8 hvY hvX HN1.out
  have HBF := hide hbF
  obtain ⟨s0, s1, _⟩ := cell_of_two kS
  obtain ⟨t0, t1, _⟩ := cell_of_two kT
  obtain ⟨bx, _⟩ := one_block kX
  obtain ⟨by_, _⟩ := one_block kY
  have x0 := bx 0
  have x1 := bx 1
  have x2 := bx 2
  have y0 := by_ 0
  have y1 := by_ 1
  have y2 := by_ 2
  clear hsW2 hs4a hs3w hsE1 hs6 hs7 hlY hlT hsz8 h14s hsp hout hb24 hb14 hbw4 h46 hkeep hvY hvX kX kS kY kT hbF hb18 bx by_
  go_wp2_with fail
  refine hkl.mono ?_
  rintro e w9 ⟨rfl, hb9⟩
  have HB9 := hide (HBF.out.trans (hb9.mono HBF.out.size))
  clear hkl hb9
  go_wp2_with fail
  go_ret
  exact ⟨rfl, HB9.out⟩

theorem idsRenumbers_true (w : World) (gen bnd : Int) (a : Option Addr) (n c : Nat) (l : List InstT) (hl : l.length = n) (hv : InstsV w a l) (hok : InstsOk l) (hn : 40 * n ≤ 140737488351232) (hc : n ≤ c) (hgb : 0 ≤ gen ∧ gen < 4294967296 ∧ 0 ≤ bnd ∧ bnd < 4294967296) :
    Calls Tryz.prog 3 #[.agg #[.int .u32 gen, .int .u32 bnd, .slice a n c]] w fun e w' => e = .returned (.bool true) ∧ Below w.heap.size w w' := by
  obtain ⟨g0, g1, b0, b1⟩ := hgb
  obtain ⟨N, rfl⟩ : ∃ N : Nat, bnd = (N : Int) := ⟨bnd.toNat, by omega⟩
  have hN : N < 4294967296 := by omega
  by_cases hE : (idsE (N : Int) l).1 = 0
  · have hsh := (layE_ok (ids_sound hE).1).2.1
    have hbm := max_bound hsh
    have hfew : n ≤ 1048576 := by rw [← hl]; exact (shape_few hsh).1
    have hck := cntR_le l n
    have hturn : turnL (fW (rnZ l N n)) l = turnL (rnF l) l := by
      refine turnL_congr fun k hk => ?_
      obtain ⟨i1, i2, i3⟩ := ids_in (hok k hk) (shape_each hsh k hk)
      have hag : ∀ id, InB (N : Int) id → fW (rnZ l N n) id = rnF l id := fun id h => by
        obtain ⟨j, rfl⟩ : ∃ j : Nat, id = (j : Int) := ⟨id.toNat, by have := h.1; omega⟩
        rw [fW_nat, rnZ_at l N n j (by have := h.2; omega)]
        unfold rnF; rw [hl]
      exact turnX_congr (fun h => hag _ (i1 h)) (fun h => hag _ (i2 h)) (fun j hj h => hag _ (i3 j hj h))
    have hrng : ∀ i, 0 ≤ rnF l i ∧ rnF l i < 4294967296 := fun i => by have := rnF_range l i; rw [hl] at this; omega
    refine idsRenumbers_of w gen N a n c l hl hv hok hn gen ((cntR l n + 1 : Nat) : Int) (turnL (rnF l) l) 0 0 (turnL_ok hrng hok) (by rw [turnL_len]; omega) (fun wx h1 => ?_) (fun wx g h1 => ?_)
    · refine (refRenumber9_ok gen N a n c l wx h1 hok hl hn g0 g1 hN hE).mono ?_
      rintro e w' ⟨a', c', rfl, hv', hb'⟩
      exact ⟨a', n, c', rfl, by rw [turnL_len]; exact hl, by rw [← hturn]; exact hv', hb'⟩
    · refine (idsRenumber_ok gen N (some ⟨g, 0, none⟩) n n l wx h1 hok hl hn g0 g1 hN hE).mono ?_
      rintro e w' ⟨g', rfl, _, hr, hb'⟩
      exact ⟨some ⟨g', 0, none⟩, n, n, rfl, by rw [turnL_len]; exact hl, hr.stableR (by rw [turnL_len]; exact hl), hb'⟩
  · refine idsRenumbers_of w gen N a n c l hl hv hok hn 0 0 [] (idsE (N : Int) l).1 ((idsE (N : Int) l).2 : Int) instsOk_nil (by simp) (fun wx h1 => ?_) (fun wx g h1 => ?_)
    · refine (refRenumber9_bad gen N a n c l wx h1 hok hl hn g0 g1 hN hE).mono ?_
      rintro e w' ⟨rfl, hb'⟩
      exact ⟨none, 0, 0, rfl, rfl, instsV_nil, hb'⟩
    · refine (idsRenumber_bad gen N (some ⟨g, 0, none⟩) n n l wx h1 hok hl hn g0 g1 hN hE).mono ?_
      rintro e w' ⟨rfl, hb'⟩
      exact ⟨none, 0, 0, rfl, rfl, fun _ _ _ => instsV_nil, hb'⟩

end Go.Proofs.YtjjoggpddafajaaGreat
