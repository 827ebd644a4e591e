/-
  Texts laid together in one: ArgInsts, KitCopyWords, LawCodeWords.
-/
import Derived.ProofKit
import Derived.OpenShut
import Derived.SizedLaws
import Derived.Deep.Slices
import Derived.Deep.SlicePairs
import Derived.Lib.SmallJoins
import Derived.Test.YtpggcpnjcalfaabProg
import Derived.Test.YtpggcpnjcalfaabB01
import Derived.WalkSpells
import Derived.Deep.QuietTactic
import Derived.BigQuiet
import Derived.WalkKit
import Derived.OwnWalkIn
import Derived.TacticsInMore
import Derived.WalkMore
import Derived.Test.YtpggcpnjcalfaabB02
import Derived.Test.YtpggcpnjcalfaabB03
import Derived.Test.YtpggcpnjcalfaabB15
import Derived.Test.YtpggcpnjcalfaabB18
/-
  What an argument that is an instruction, or a slice of instructions, holds: all within their bounds, each list within the reach of memory.
-/
namespace Go.Proofs.Ytpggcpnjcalfaab
open Go.ChangeShapes Go.WideShapes Go.ChangeAt Go.RowKit
set_option maxRecDepth 100000

theorem ArgInsts.cellsA : Try.prog.cellsOf 90 = 3 := by kernel_rfl
theorem ArgInsts.cells8 : Try.prog.cellsOf 5 = 1 := by kernel_rfl
theorem ArgInsts.cells32 : Try.prog.cellsOf 22 = 1 := by kernel_rfl
theorem ArgInsts.cellsS : Try.prog.cellsOf 9 = 1 := by kernel_rfl
theorem ArgInsts.bytesA : Try.prog.bytesOf 90 = 24 := by kernel_rfl
theorem ArgInsts.cells16 : Try.prog.cellsOf 40 = 1 := by kernel_rfl
theorem ArgInsts.cellsL : Try.prog.cellsOf 41 = 1 := by kernel_rfl

theorem ArgInsts.cellsI : Try.prog.cellsOf 43 = 4 := by kernel_rfl
theorem ArgInsts.bytesI : Try.prog.bytesOf 43 = 40 := by kernel_rfl

theorem weightsIn {H : Type} {P : Program} {e : TypeId} : ∀ {l : List (DataW H)} {d : DataW H}, d ∈ l → ∀ n ∈ d.weights P e, n ∈ DataW.weightsAll P e l
  | d0 :: l, d, hd, n, hn => by
    simp only [DataW.weightsAll, List.mem_append]
    rcases List.mem_cons.1 hd with rfl | h
    · exact Or.inl hn
    · exact Or.inr (weightsIn h n hn)

theorem argsV_mk {w : World} {x : Addr} {n : Nat} {f : Nat → ArgT} (h : ∀ i, i < n → w.cell? (x.add (i * 3)) = some (.int .u8 (f i).1) ∧ w.cell? (x.add (i * 3 + 1)) = some (.int .u32 (f i).2.1) ∧ w.cell? (x.add (i * 3 + 2)) = some (.string (f i).2.2)) : ArgsV w (some x) ((List.range n).map f) := by
  intro j hj
  rw [List.length_map, List.length_range] at hj
  have h0 := (h 0 (by omega)).1
  obtain ⟨b, off, spot⟩ := x
  have hs : spot = none := by simpa [Addr.add] using World.cell?_spot h0
  subst hs
  obtain ⟨h1, h2, h3⟩ := h j hj
  rw [Addr.add_lit] at h1 h2 h3
  have e : nthA ((List.range n).map f) j = f j := by simp [nthA, List.getD, hj]
  rw [e]
  exact ⟨b, off, rfl, World.block_lt_of_cell? _ _ h1, h1, by rw [Nat.add_assoc]; exact h2, by rw [Nat.add_assoc]; exact h3⟩

set_option maxHeartbeats 1000000 in
theorem open_args {H : Type} {enc : TypeId × Value → H} {w : World} {base fuel : Nat} {held : Bool} {a : Option Addr} {len cap : Nat} {d : DataW H} {ps : List MemPlace}
    (hf : DataW.trod enc Try.prog w base (fun _ => true) held fuel 41 [.slice a len cap] = some (d, ps)) (hs : ∀ n ∈ d.weights Try.prog 41, n ≤ reachBytes) :
    ∃ l : List ArgT, l.length = len ∧ ArgsV w a l ∧ ArgsOk l ∧ 24 * len ≤ 140737488351232 ∧ len ≤ cap := by
  rcases Go.Deep.open_slice Try.underlying41 hf with ⟨hcs, _⟩ | ⟨x, l, c, mm, nn, D, Pl, hcs, _, hl, hm, hmm, hx, hall⟩
  · simp at hcs
    obtain ⟨rfl, rfl, rfl⟩ := hcs
    exact ⟨[], rfl, argsV_nil, argsOk_nil, by omega, by omega⟩
  · simp at hcs
    obtain ⟨rfl, rfl, rfl⟩ := hcs
    simp only [Prod.mk.injEq] at hx
    obtain ⟨rfl, rfl⟩ := hx
    simp only [if_true] at hmm
    subst hmm
    have hs0 := hs ((((List.range len).map D).length + ((List.range (mm - len)).map fun j => D (len + j)).length) * Try.prog.bytesOf 90) (by simp [DataW.weights, Try.underlying41])
    rw [ArgInsts.bytesA] at hs0
    simp only [List.length_map, List.length_range, reachBytes] at hs0
    have key : ∀ i, i < len → ∃ r : ArgT, w.cell? (x.add (i * 3)) = some (.int .u8 r.1) ∧ w.cell? (x.add (i * 3 + 1)) = some (.int .u32 r.2.1) ∧ w.cell? (x.add (i * 3 + 2)) = some (.string r.2.2) ∧ ArgOk r := by
      intro i hi
      obtain ⟨cs, hc, ht⟩ := hall i (by omega)
      rw [ArgInsts.cellsA] at hc
      obtain ⟨_, hlen, hcell⟩ := World.cells?_some hc
      obtain ⟨xs, k, _, hxy, _, hxl, hfl⟩ := DataW.trod_struct Try.underlying90 ht
      have g0 := hfl 0 _ rfl
      have g1 := hfl 1 _ rfl
      have g2 := hfl 2 _ rfl
      match xs, hxl, cs, hlen with
      | [y0, y1, y2], _, [v0, v1, v2], _ =>
        have e0 := hcell 0 (by omega)
        have e1 := hcell 1 (by omega)
        have e2 := hcell 2 (by omega)
        rw [Go.Deep.add_add] at e0 e1 e2
        simp [ArgInsts.cells8, ArgInsts.cells32, ArgInsts.cellsS] at g0 g1 g2 e0 e1 e2
        obtain ⟨n0, q0, _, w0⟩ := DataW.trod_int Try.underlying5 g0
        obtain ⟨n1, q1, _, w1⟩ := DataW.trod_int Try.underlying22 g1
        obtain ⟨s2, q2, q3⟩ := DataW.trod_string Try.underlying9 g2
        simp at q0 q1 q2
        subst q0; subst q1; subst q2
        have b0 := bounds_u8 w0
        have b1 := bounds_u32 w1
        refine ⟨(n0, n1, s2), by simpa using e0, e1, e2, ?_⟩
        have hs2 := hs s2.size (by
          have hmem : D i ∈ (List.range len).map D := List.mem_map.2 ⟨i, List.mem_range.2 hi, rfl⟩
          simp only [DataW.weights, Try.underlying41, List.mem_cons, List.mem_append]
          refine Or.inr (Or.inl (weightsIn hmem _ ?_))
          simp only [Prod.mk.injEq] at hxy
          rw [hxy.1]
          simp only [DataW.weights, Try.underlying90]
          refine DataW.weights_mem_each (j := 2) rfl rfl _ ?_
          simp_all [DataW.weights])
        simp only [reachBytes] at hs2
        exact ⟨by simp; omega, by simp; omega, by simp; omega, by simp; omega, hs2⟩
    let f : Nat → ArgT := fun i => if h : i < len then Classical.choose (key i h) else noArg
    have hf' : ∀ i (h : i < len), f i = Classical.choose (key i h) := fun i h => dif_pos h
    refine ⟨(List.range len).map f, by simp, argsV_mk (fun i hi => ?_), fun j hj => ?_, by omega, hl⟩
    · rw [hf' i hi]
      obtain ⟨h1, h2, h3, _⟩ := Classical.choose_spec (key i hi)
      exact ⟨h1, h2, h3⟩
    · rw [List.length_map, List.length_range] at hj
      have e : nthA ((List.range len).map f) j = f j := by simp [nthA, List.getD, hj]
      rw [e, hf' j hj]
      exact (Classical.choose_spec (key j hj)).2.2.2

theorem open_inst {H : Type} {enc : TypeId × Value → H} {w : World} {b0 base : Nat} {held : Bool} {v : Value} {d : DataW H} {ps : List MemPlace}
    (hv : Value.okWide Try.prog w .any b0 43 v) (h : DataW.Trod enc Try.prog w base (fun _ => true) held 43 v d ps) (hs : ∀ n ∈ d.weights Try.prog 43, n ≤ reachBytes) :
    ∃ (x : InstT) (a : Option Addr) (n c : Nat), v = instV x a n c ∧ x.2.2.2.length = n ∧ InstOk x ∧ ArgsV w a x.2.2.2 ∧ n ≤ c := by
  obtain ⟨v0, v1, v2, v3, y0, y1, y2, y3, m, rfl, rfl, _, t0, t1, t2, t3⟩ := Go.Joins.open_agg4 Try.underlying43 (by kernel_rfl) (by kernel_rfl) hv h
  obtain ⟨n0, e0, _, w0⟩ := DataW.trod_int Try.underlying40 t0
  obtain ⟨n1, e1, _, w1⟩ := DataW.trod_int Try.underlying22 t1
  obtain ⟨n2, e2, _, w2⟩ := DataW.trod_int Try.underlying22 t2
  simp at e0 e1 e2
  subst e0; subst e1; subst e2
  have b0 := bounds_u16 w0
  have b1 := bounds_u32 w1
  have b2 := bounds_u32 w2
  obtain ⟨a, n, c, rfl⟩ : ∃ a n c, v3 = .slice a n c := by
    rcases Go.Deep.open_slice Try.underlying41 t3 with ⟨hcs, _⟩ | ⟨x, l, c, mm, nn, D, Pl, hcs, _⟩
    · simp at hcs; exact ⟨_, _, _, hcs⟩
    · simp at hcs; exact ⟨_, _, _, hcs⟩
  obtain ⟨l, hl, hv3, hok, hr, hc⟩ := open_args t3 (fun k hk => hs k (by
    simp only [DataW.weights, Try.underlying43]
    exact DataW.weights_mem_each (j := 3) rfl rfl _ hk))
  exact ⟨(n0, n1, n2, l), a, n, c, rfl, hl, ⟨by simp; omega, by simp; omega, by simp; omega, by simp; omega, by simp; omega, by simp; omega, hok, by rw [hl]; exact hr⟩, hv3, hc⟩

theorem instsV_mk {w : World} {x : Addr} {n : Nat} {f : Nat → InstT} (h : ∀ i, i < n → w.cell? (x.add (i * 4)) = some (.int .u16 (f i).1) ∧ w.cell? (x.add (i * 4 + 1)) = some (.int .u32 (f i).2.1) ∧ w.cell? (x.add (i * 4 + 2)) = some (.int .u32 (f i).2.2.1) ∧
    ∃ aj cj, w.cell? (x.add (i * 4 + 3)) = some (.slice aj (f i).2.2.2.length cj) ∧ ArgsV w aj (f i).2.2.2 ∧ (f i).2.2.2.length ≤ cj) : InstsV w (some x) ((List.range n).map f) := by
  intro j hj
  rw [List.length_map, List.length_range] at hj
  have h0 := (h 0 (by omega)).1
  obtain ⟨b, off, spot⟩ := x
  have hs : spot = none := by simpa [Addr.add] using World.cell?_spot h0
  subst hs
  obtain ⟨h1, h2, h3, aj, cj, h4, h5, h6⟩ := h j hj
  rw [Addr.add_lit] at h1 h2 h3 h4
  have e : nthI ((List.range n).map f) j = f j := by simp [nthI, List.getD, hj]
  rw [e]
  exact ⟨b, off, aj, cj, _, rfl, World.block_lt_of_cell? _ _ h1, h1, by rw [Nat.add_assoc]; exact h2, by rw [Nat.add_assoc]; exact h3, by rw [Nat.add_assoc]; exact h4, rfl, h5, h6⟩

set_option maxHeartbeats 1000000 in
theorem open_insts {H : Type} {enc : TypeId × Value → H} {w : World} {base fuel : Nat} {held : Bool} {a : Option Addr} {len cap : Nat} {d : DataW H} {ps : List MemPlace}
    (hf : DataW.trod enc Try.prog w base (fun _ => true) held fuel 23 [.slice a len cap] = some (d, ps)) (hs : ∀ n ∈ d.weights Try.prog 23, n ≤ reachBytes) :
    ∃ l : List InstT, l.length = len ∧ InstsV w a l ∧ InstsOk l ∧ 40 * len ≤ 140737488351232 ∧ len ≤ cap := by
  rcases Go.Deep.open_slice Try.underlying23 hf with ⟨hcs, _⟩ | ⟨x, l, c, mm, nn, D, Pl, hcs, _, hl, hm, hmm, hx, hall⟩
  · simp at hcs
    obtain ⟨rfl, rfl, rfl⟩ := hcs
    exact ⟨[], rfl, instsV_nil, instsOk_nil, by omega, by omega⟩
  · simp at hcs
    obtain ⟨rfl, rfl, rfl⟩ := hcs
    simp only [Prod.mk.injEq] at hx
    obtain ⟨rfl, rfl⟩ := hx
    simp only [if_true] at hmm
    subst hmm
    have hs0 := hs ((((List.range len).map D).length + ((List.range (mm - len)).map fun j => D (len + j)).length) * Try.prog.bytesOf 43) (by simp [DataW.weights, Try.underlying23])
    rw [ArgInsts.bytesI] at hs0
    simp only [List.length_map, List.length_range, reachBytes] at hs0
    have key : ∀ i, i < len → ∃ r : InstT, w.cell? (x.add (i * 4)) = some (.int .u16 r.1) ∧ w.cell? (x.add (i * 4 + 1)) = some (.int .u32 r.2.1) ∧ w.cell? (x.add (i * 4 + 2)) = some (.int .u32 r.2.2.1) ∧
        (∃ aj cj, w.cell? (x.add (i * 4 + 3)) = some (.slice aj r.2.2.2.length cj) ∧ ArgsV w aj r.2.2.2 ∧ r.2.2.2.length ≤ cj) ∧ InstOk r := by
      intro i hi
      obtain ⟨cs, hc, ht⟩ := hall i (by omega)
      rw [ArgInsts.cellsI] at hc
      obtain ⟨_, hlen, hcell⟩ := World.cells?_some hc
      obtain ⟨xs, k, _, hxy, _, hxl, hfl⟩ := DataW.trod_struct Try.underlying43 ht
      have g0 := hfl 0 _ rfl
      have g1 := hfl 1 _ rfl
      have g2 := hfl 2 _ rfl
      have g3 := hfl 3 _ rfl
      match xs, hxl, cs, hlen with
      | [y0, y1, y2, y3], _, [v0, v1, v2, v3], _ =>
        have e0 := hcell 0 (by omega)
        have e1 := hcell 1 (by omega)
        have e2 := hcell 2 (by omega)
        have e3 := hcell 3 (by omega)
        rw [Go.Deep.add_add] at e0 e1 e2 e3
        simp [ArgInsts.cells16, ArgInsts.cells32, ArgInsts.cellsL] at g0 g1 g2 g3 e0 e1 e2 e3
        obtain ⟨n0, q0, _, w0⟩ := DataW.trod_int Try.underlying40 g0
        obtain ⟨n1, q1, _, w1⟩ := DataW.trod_int Try.underlying22 g1
        obtain ⟨n2, q2, _, w2⟩ := DataW.trod_int Try.underlying22 g2
        simp at q0 q1 q2
        subst q0; subst q1; subst q2
        have b0 := bounds_u16 w0
        have b1 := bounds_u32 w1
        have b2 := bounds_u32 w2
        obtain ⟨a, n, c, rfl⟩ : ∃ a n c, v3 = .slice a n c := by
          rcases Go.Deep.open_slice Try.underlying41 g3 with ⟨hcs, _⟩ | ⟨x, l, c, mm, nn, D, Pl, hcs, _⟩
          · simp at hcs; exact ⟨_, _, _, hcs⟩
          · simp at hcs; exact ⟨_, _, _, hcs⟩
        obtain ⟨l, hl, hv3, hok, hr, hc⟩ := open_args g3 (fun k hk => hs k (by
          have hmem : D i ∈ (List.range len).map D := List.mem_map.2 ⟨i, List.mem_range.2 hi, rfl⟩
          simp only [DataW.weights, Try.underlying23, List.mem_cons, List.mem_append]
          refine Or.inr (Or.inl (weightsIn hmem _ ?_))
          simp only [Prod.mk.injEq] at hxy
          rw [hxy.1]
          simp only [DataW.weights, Try.underlying43]
          exact DataW.weights_mem_each (j := 3) rfl rfl _ hk))
        subst hl
        exact ⟨(n0, n1, n2, l), by simpa using e0, e1, e2, ⟨a, c, e3, hv3, hc⟩, by simp; omega, by simp; omega, by simp; omega, by simp; omega, by simp; omega, by simp; omega, hok, hr⟩
    let f : Nat → InstT := fun i => if h : i < len then Classical.choose (key i h) else noInst
    have hf' : ∀ i (h : i < len), f i = Classical.choose (key i h) := fun i h => dif_pos h
    refine ⟨(List.range len).map f, by simp, instsV_mk (fun i hi => ?_), fun j hj => ?_, by omega, hl⟩
    · rw [hf' i hi]
      obtain ⟨h1, h2, h3, h4, _⟩ := Classical.choose_spec (key i hi)
      exact ⟨h1, h2, h3, h4⟩
    · rw [List.length_map, List.length_range] at hj
      have e : nthI ((List.range len).map f) j = f j := by simp [nthI, List.getD, hj]
      rw [e, hf' j hj]
      exact (Classical.choose_spec (key j hj)).2.2.2.2

theorem open_module {H : Type} {enc : TypeId × Value → H} {w : World} {b0 base : Nat} {held : Bool} {v : Value} {d : DataW H} {ps : List MemPlace}
    (hv : Value.okWide Try.prog w .any b0 25 v) (h : DataW.Trod enc Try.prog w base (fun _ => true) held 25 v d ps) (hs : ∀ n ∈ d.weights Try.prog 25, n ≤ reachBytes) :
    ∃ (gen bound : Int) (a : Option Addr) (n c : Nat) (l : List InstT), v = .agg #[.int .u32 gen, .int .u32 bound, .slice a n c] ∧ 0 ≤ gen ∧ gen < 4294967296 ∧ 0 ≤ bound ∧ bound < 4294967296 ∧ l.length = n ∧ InstsV w a l ∧ InstsOk l ∧ 40 * n ≤ 140737488351232 ∧ n ≤ c := by
  obtain ⟨v0, v1, v3, y0, y1, y3, m, rfl, rfl, _, t0, t1, t3⟩ := Go.Joins.open_agg3 Try.underlying25 (by kernel_rfl) (by kernel_rfl) hv h
  obtain ⟨n0, e0, _, w0⟩ := DataW.trod_int Try.underlying22 t0
  obtain ⟨n1, e1, _, w1⟩ := DataW.trod_int Try.underlying22 t1
  simp at e0 e1
  subst e0; subst e1
  have b0 := bounds_u32 w0
  have b1 := bounds_u32 w1
  obtain ⟨a, n, c, rfl⟩ : ∃ a n c, v3 = .slice a n c := by
    rcases Go.Deep.open_slice Try.underlying23 t3 with ⟨hcs, _⟩ | ⟨x, l, c, mm, nn, D, Pl, hcs, _⟩
    · simp at hcs; exact ⟨_, _, _, hcs⟩
    · simp at hcs; exact ⟨_, _, _, hcs⟩
  obtain ⟨l, hl, hv3, hok, hr, hc⟩ := open_insts t3 (fun k hk => hs k (by
    simp only [DataW.weights, Try.underlying25]
    exact DataW.weights_mem_each (j := 2) rfl rfl _ hk))
  exact ⟨n0, n1, a, n, c, l, rfl, by omega, by omega, by omega, by omega, hl, hv3, hok, hr, hc⟩

theorem open_raw {H : Type} {enc : TypeId × Value → H} {w : World} {b0 base : Nat} {held : Bool} {v : Value} {d : DataW H} {ps : List MemPlace}
    (hv : Value.okWide Try.prog w .any b0 46 v) (h : DataW.Trod enc Try.prog w base (fun _ => true) held 46 v d ps) (hs : ∀ n ∈ d.weights Try.prog 46, n ≤ reachBytes) :
    ∃ (op : Int) (a : Option Addr) (n c : Nat) (zs : List Int), v = .agg #[.int .u16 op, .slice a n c] ∧ 0 ≤ op ∧ op < 65536 ∧ zs.length = n ∧ View .u32 w a zs ∧ Within 4294967296 zs ∧ 4 * n ≤ 140737488351232 ∧ n ≤ c := by
  obtain ⟨v0, v1, y0, y1, m, rfl, rfl, _, t0, t1⟩ := Go.Joins.open_agg2 Try.underlying46 (by kernel_rfl) (by kernel_rfl) hv h
  obtain ⟨n0, e0, _, w0⟩ := DataW.trod_int Try.underlying40 t0
  simp at e0
  subst e0
  have b0 := bounds_u16 w0
  rcases open_ints Try.underlying44 Try.underlying22 ArgInsts.cells32 t1 with ⟨hcs, _⟩ | ⟨y, l, c, zs, hcs, _, hl1, hm1, hz1, hx1, hcell, hwz⟩
  · simp at hcs
    subst hcs
    exact ⟨n0, none, 0, 0, [], rfl, by omega, by omega, rfl, view_nil, within_nil, by omega, by omega⟩
  · simp at hcs
    subst hcs
    simp only [if_true] at hz1
    have hs1 := hs (((lits (H := H) .u32 (zs.take l)).length + (lits (H := H) .u32 (zs.drop l)).length) * Try.prog.bytesOf 22) (by
      simp only [DataW.weights, Try.underlying46]
      refine DataW.weights_mem_each (j := 1) rfl rfl _ ?_
      have : y1.1 = DataW.slice (lits .u32 (zs.take l)) (lits .u32 (zs.drop l)) := by rw [hx1]
      rw [this]
      simp [DataW.weights, Try.underlying44])
    rw [show Try.prog.bytesOf 22 = 4 by kernel_rfl] at hs1
    simp only [lits, List.length_map, List.length_take, List.length_drop, reachBytes] at hs1
    have hlen : (zs.take l).length = l := by rw [List.length_take]; omega
    exact ⟨n0, some y, l, c, zs.take l, rfl, by omega, by omega, hlen, view_take hcell (by omega), within_take fun z hz => by have := bounds_u32 (hwz z hz); omega, by omega, hl1⟩

end Go.Proofs.Ytpggcpnjcalfaab

/-
  CopyWords of the kit answers the words in new memory.
-/
namespace Go.Proofs.Ytpggcpnjcalfaab
open Go.RowKit
set_option maxRecDepth 10000

theorem CopyWords.info : (Try.prog.info? 22).map (fun i => (i.zero, i.size, i.bytes)) = some (some (.int .u32 0), 1, 4) := by kernel_rfl

set_option maxHeartbeats 400000 in
theorem copyWords_any (a : Option Addr) (n cap : Nat) (zs : List Int) (w : World) (ha : View .u32 w a zs) (hl : zs.length = n) (hn : 4 * n ≤ 140737488351232) :
    Calls Try.prog 20 #[.slice a n cap] w fun e w' => e = .returned (.slice (some ⟨w.heap.size, 0, none⟩) n n) ∧
      w'.ownsRow w.heap.size 22 1 (.slice (some ⟨w.heap.size, 0, none⟩) n n) n (zs.map (Value.int .u32)) ∧ Below w.heap.size w w' := by
  obtain ⟨i0, hi, hz0, hz1, hz2⟩ := info_parts CopyWords.info
  have HL : Hid (zs.length = n) := hl
  clear hl
  go_enter Try.func20, Try.ntmps20
  go_wp2_with (at_make; refine wpList_make_full _ rfl _ _ 44 rfl w.heap.size 22 i0 (.int .u32 0) 1 Try.underlying44 hi hz0 hz1 _ _ _ _ n rfl rfl (by omega) (by omega) (by rw [hz2]; omega) (by unfold maxLen; omega) (Nat.le_refl _) ?_)
  intro w1 hown1 hgrow1
  have hb1 : Below w.heap.size w w1 := (Below.refl _ w).grown hgrow1 (Nat.le_refl _) (by simp)
  have hr1 := made_row zs hown1
  clear hown1 hgrow1
  go_wp2
  go_loopw [4] (fun i wr => ∃ k : Nat, k ≤ n ∧ i = .int .i64 k ∧ wr.ownsRow w.heap.size 22 1 (.slice (some ⟨w.heap.size, 0, none⟩) n n) n ((filled zs k n).map (Value.int .u32)) ∧ Below w.heap.size w wr)
    (fun i _ => n - (intOf i).toNat)
  case atStart => exact ⟨0, Nat.zero_le _, rfl, hr1, hb1⟩
  case round =>
    obtain ⟨k, hk, rfl, hown, hnx⟩ := hrel
    clear hr1 hb1
    by_cases hlt : k < n
    · obtain ⟨b, off, rfl, hbs, hc⟩ := ha k (by rw [HL.out]; exact hlt)
      obtain ⟨d1, d2, d3⟩ := fill_step hown hlt (by rw [HL.out]; exact hlt)
      have hcr : wr.cell? ⟨b, off + k, none⟩ = some (.int .u32 (nth zs k)) := (hnx.cell (p := ⟨b, off + k, none⟩) hbs).trans hc
      generalize nth zs k = x at hcr d3
      clear hc ha hown
      go_wp2
      go_roundw
      case rel => exact ⟨k + 1, by omega, by go_num, d3, hnx.setCell (Nat.le_refl _) _⟩
      case measure => simp [intOf]; omega
    · go_wp2
      go_ret
      obtain rfl : k = n := by omega
      rw [filled_whole zs k HL.out] at hown
      exact ⟨rfl, hown, hnx⟩

end Go.Proofs.Ytpggcpnjcalfaab

/-
  The law CodeWords answers true, for all words and every bound.
-/
namespace Go.Proofs.Ytpggcpnjcalfaab
open Go.RowKit Go.Shelf
attribute [local go_sem] Oper.semAt_some
set_option linter.unusedVariables false
set_option linter.unusedSimpArgs false

theorem inst_put {w : World} {B T : Nat} {z0 z1 z2 z3 : Value} (h : w.heap[B]? = some (.cells #[z0, z1, z2, z3] T (0, 0))) (u0 u1 u2 u3 : Value) :
    ((((w.setCell ⟨B, 0, none⟩ u0).setCell ⟨B, 1, none⟩ u1).setCell ⟨B, 2, none⟩ u2).setCell ⟨B, 3, none⟩ u3).heap[B]? = some (.cells #[u0, u1, u2, u3] T (0, 0)) := by
  simp only [World.setCell, Array.getElem?_modify, h]; simp

set_option maxRecDepth 100000 in
set_option maxHeartbeats 8000000 in
theorem codeWords_true (w : World) (op : Int) (a : Option Addr) (n cap : Nat) (zs : List Int) (ho0 : 0 ≤ op) (ho1 : op < 65536) (hl : zs.length = n) (hv : View .u32 w a zs) (hw : Within 4294967296 zs) (hr : 4 * n ≤ 140737488351232) (hc : n ≤ cap) (bnd : Int) (hbw : (Lit.int .u32 bnd).wf = true) :
    Calls Try.prog 6 #[.agg #[.int .u16 op, .slice a n cap], .int .u32 bnd] w fun e w' => e = .returned (.bool true) ∧ Below w.heap.size w w' := by
  have hCw := fun wx (hb : Below w.heap.size w wx) => copyWords_any a n cap zs wx (hv.below hb) hl hr
  have hIn := fun wx g (h : View .u32 wx (some ⟨g, 0, none⟩) zs) => inst_any op bnd ⟨g, 0, none⟩ n n zs wx h hl hw hr
  have hIok : InstOk (instI op zs bnd).1 := instI_ok ho0 ho1 hw
  have hNo : (instI op zs bnd).2 ≠ 0 → (instI op zs bnd).1 = noInst := fun h => instI_none h
  have hBk : (instI op zs bnd).2 = 0 → (instI op zs bnd).1.1 = op ∧ rawE (instI op zs bnd).1 bnd = 0 ∧ rawWs (instI op zs bnd).1 bnd = zs := fun h => rawE_instI hw h
  have hWd := fun wx ax ay c (h1 : View .u32 wx ax zs) (h2 : View .u32 wx ay zs) => words_true ax ay n c cap zs wx h1 h2 hl (by omega)
  generalize instI op zs bnd = I at *
  have hCi := fun wx ax m c (h : ArgsV wx ax I.1.2.2.2) (hm : I.1.2.2.2.length = m) => copyInst_any I.1 ax m c wx h hm (by have := hIok.2.2.2.2.2.2.2; omega)
  have hRw := fun wx g m c (h : ArgsV wx (some ⟨g, 0, none⟩) I.1.2.2.2) (hm : I.1.2.2.2.length = m) => raw_any I.1 bnd (some ⟨g, 0, none⟩) m c wx h hIok hm
  have hNi := fun wx ax m c (h : ArgsV wx ax I.1.2.2.2) (hm : I.1.2.2.2.length = m) => kitInst_any I.1 noInst ax none m 0 c 0 wx h argsV_nil hm rfl (by have := hIok.2.2.2.2.2.2.2; omega) (by omega)
  have hAw := fun w => awake4_true w
  have HL : Hid (zs.length = n) := hl
  have HV : Hid (View .u32 w a zs) := hv
  have hmix : Try.prog.follows .mixedOrders = true := by kernel_rfl
  obtain ⟨⟨io, it, ir, il⟩, ie⟩ := I
  have HNO : Hid _ := hNo
  have HBK : Hid _ := hBk
  unfold InstR at hIn
  unfold instV at *
  unfold noInst at hNi
  simp only at *
  clear hIok hv hl hNo hBk hbw
  refine (callsIn_wide (n := 0)).1 ?_
  refine callsIn_of_wp_marks Try.func6 rfl trivial ?_ rfl
  simp only [Try.ntmps6, List.size_toArray, List.length_cons, List.length_nil, Nat.reduceAdd, Nat.reduceSub, Array.replicate_succ, Array.replicate_zero, List.push_toArray, List.append_toArray, List.nil_append, List.cons_append]
  gi_wp2_with fail
  have hB0 : Below w.heap.size w (w.alloc (.cells #[.int .u16 op, .slice a n cap] 46)) := (Below.refl _ w).alloc (Nat.le_refl _) _
  have k0 := alloc_new w #[.int .u16 op, .slice a n cap] 46
  generalize w.alloc (.cells #[.int .u16 op, .slice a n cap] 46) = W at *
  have l0 := (Array.getElem?_eq_some_iff.1 k0).1
  rename_i K0 hK0
  have KEY : ∀ (Bx G : Nat) (a5 : Option Addr) (m5 c5 : Nat) (X : World), Below W.heap.size W X → X.heap[Bx]? = some (.cells #[.int .u16 io, .int .u32 it, .int .u32 ir, .slice a5 m5 c5] 43 (0, 0)) → ArgsV X a5 il → il.length = m5 → W.heap.size ≤ Bx →
      K0 { tmps := #[.agg #[.int .u16 op, .slice a n cap], .int .u32 bnd, .pointer (some ⟨w.heap.size, 0, none⟩), undef, .bool false, .pointer (some ⟨Bx, 0, none⟩), .int .i64 ie, undef, undef, .tuple #[.agg #[.int .u16 io, .int .u32 it, .int .u32 ir, .slice a5 m5 c5], .int .i64 ie], .pointer (some ⟨w.heap.size, 0, none⟩), .int .u16 op, .pointer (some ⟨w.heap.size, 1, none⟩), .slice a n cap, .slice (some ⟨G, 0, none⟩) n n, .agg #[.int .u16 op, .slice (some ⟨G, 0, none⟩) n n], .int .u32 bnd, .tuple #[.agg #[.int .u16 io, .int .u32 it, .int .u32 ir, .slice a5 m5 c5], .int .i64 ie], .agg #[.int .u16 io, .int .u32 it, .int .u32 ir, .slice a5 m5 c5], .int .i64 ie, undef, undef, undef, undef, undef, undef, undef, undef, undef, undef, undef, undef, undef, undef, undef, undef, undef, undef, undef, undef, undef, undef, undef, undef, undef, undef, undef, undef, undef, undef, undef, undef, undef, undef], defers := [] } X := by
    intro Bx G a5 m5 c5 X hbX kX hA hm hBx
    refine hK0 _ _ ?_
    have lX := (Array.getElem?_eq_some_iff.1 kX).1
    have kR := (hbX.block _ l0).trans k0
    have hBw := hB0.trans (hbX.mono hB0.size)
    obtain ⟨x0, x1, x2, x3⟩ := four_cells kX
    clear hK0 hCw hIn
    by_cases hie : ie = 0
    · subst hie
      obtain ⟨b1, b2, b3⟩ := HBK.out rfl
      subst b1
      have hC1 := hCi X a5 m5 c5 hA hm
      clear hNi HNO HBK
      gi_wp2_with fail
      refine ⟨trivial, rfl, (callsIn_wide.2 hC1).mono ?_⟩
      rintro e w1 ⟨g1, rfl, hg1, hA1, hb1⟩
      have hC2 := hRw w1 g1 m5 m5 hA1 hm
      rw [b2, b3, show rawO (io, it, ir, il) bnd = io by unfold rawO; rw [if_pos b2]] at hC2
      clear hC1 hCi hRw x0 x1 x2 x3 b2 b3 hA1
      gi_wp2_with fail
      refine ⟨trivial, rfl, (callsIn_wide.2 hC2).mono ?_⟩
      rintro e w2 ⟨hb2, a2, m2, c2, rfl, hm2, hown2⟩
      obtain rfl : n = m2 := by rw [← hm2, HL.out]
      have hb02 := hb1.trans (hb2.mono hb1.size)
      have hb3 : Below X.heap.size X (w2.alloc (.cells #[.int .u16 io, .slice a2 n c2] 46)) := hb02.alloc hb02.size _
      have hB3 := hBw.trans (hb3.mono hBw.size)
      obtain ⟨y0, y1, _⟩ := cell_of_two (alloc_new w2 #[.int .u16 io, .slice a2 n c2] 46)
      obtain ⟨z0, z1, _⟩ := cell_of_two ((hb3.block _ (by have := hbX.size; omega)).trans kR)
      have hC3 := hWd _ a2 a c2 ((View.ofOwn hown2 hm2).below ((Below.refl _ w2).alloc (Nat.le_refl _) _)) (HV.out.below hB3)
      have HB3 : Hid _ := hB3
      clear hC2 hb1 hb2 hb02 hb3 hB3 hown2 hWd kX kR hA hBw hbX
      gi_wp2_with fail
      refine ⟨trivial, rfl, (callsIn_wide.2 hC3).mono ?_⟩
      rintro e w4 ⟨rfl, q, hq⟩
      have hB4 : Below w.heap.size w w4 := by rw [hq]; exact bel_drewN HB3.out q
      clear hC3 hq HB3 y0 y1 z0 z1
      gi_wp2_with fail
      refine ⟨trivial, rfl, (callsIn_wide.2 (hAw _)).mono ?_⟩
      rintro e w5 ⟨rfl, hb5⟩
      have HB5 : Hid _ := hB4.trans (hb5.mono hB4.size)
      clear hB4 hb5
      gi_wp2_with fail
      exact ⟨.bool true, by simp [results, Try.results6, go_sem], rfl, HB5.out⟩
    · have hno := HNO.out hie
      have hC1 := hNi X a5 m5 c5 hA hm
      rw [show decide ((io, it, ir, il) = ((0, 0, 0, []) : InstT)) = true by rw [hno]; exact decide_eq_true rfl] at hC1
      have hieb : (ie == 0) = false := by simpa using hie
      clear hNi HNO HBK hCi hRw hno hie
      gi_wp2_with fail
      refine ⟨trivial, rfl, (callsIn_wide.2 hC1).mono ?_⟩
      rintro e w1 ⟨rfl, hb1⟩
      have hB1 := hBw.trans (hb1.mono hBw.size)
      clear hC1 hb1 x0 x1 x2 x3
      gi_wp2_with fail
      refine ⟨trivial, rfl, (callsIn_wide.2 (hAw _)).mono ?_⟩
      rintro e w5 ⟨rfl, hb5⟩
      have HB5 : Hid _ := hB1.trans (hb5.mono hB1.size)
      clear hB1 hb5
      gi_wp2_with fail
      exact ⟨.bool true, by simp [results, Try.results6, go_sem], rfl, HB5.out⟩
  clear hK0
  have hC0 : Below W.heap.size W W.drew := below_drew W
  have L0 : Hid (∀ w', Below W.heap.size W w' → w'.cell? ⟨w.heap.size, 0, none⟩ = some (.int .u16 op)) := fun w' hC => (one_block ((hC.block _ l0).trans k0)).1 0
  have L1 : Hid (∀ w', Below W.heap.size W w' → w'.cell? ⟨w.heap.size, 1, none⟩ = some (.slice a n cap)) := fun w' hC => (one_block ((hC.block _ l0).trans k0)).1 1
  refine wpIn_normal (wpIn_region_any hmix (wpAnyC_sound (C := Below W.heap.size W) _ _ _ _ ?_))
  change wpAnyC _ _ _ _ _ _ _ _ _ _ (World.drew _)
  refine wpAnyC_takeD (i := 0) (some 10) (v := .pointer (some ⟨w.heap.size, 0, none⟩)) (fun _ => trivial) (by kernel_rfl) rfl rfl (by kernel_rfl) (by kernel_rfl) (by kernel_rfl) (fun _ _ _ h => by cases h.1) hC0 (Or.inl ⟨by kernel_rfl, fun w' hC => by clear hC; go_simp⟩) ?_
  simp only [Act.put, List.setIfInBounds_toArray, List.set_cons_succ, List.set_cons_zero]
  refine wpAnyC_takeD (i := 1) (some 11) (v := .int .u16 op) (fun _ => trivial) (by kernel_rfl) rfl rfl (by kernel_rfl) (by kernel_rfl) (by kernel_rfl) (fun _ _ _ h => by cases h.1) hC0 (Or.inl ⟨by kernel_rfl, fun w' hC => by have e := L0.out w' hC; clear hC; go_simp⟩) ?_
  simp only [Act.put, List.setIfInBounds_toArray, List.set_cons_succ, List.set_cons_zero]
  refine wpAnyC_takeD (i := 2) (some 12) (v := .pointer (some ⟨w.heap.size, 1, none⟩)) (fun _ => trivial) (by kernel_rfl) rfl rfl (by kernel_rfl) (by kernel_rfl) (by kernel_rfl) (fun _ _ _ h => by cases h.1) hC0 (Or.inl ⟨by kernel_rfl, fun w' hC => by clear hC; go_simp⟩) ?_
  simp only [Act.put, List.setIfInBounds_toArray, List.set_cons_succ, List.set_cons_zero]
  refine wpAnyC_takeD (i := 3) (some 13) (v := .slice a n cap) (fun _ => trivial) (by kernel_rfl) rfl rfl (by kernel_rfl) (by kernel_rfl) (by kernel_rfl) (fun _ _ _ h => by cases h.1) hC0 (Or.inl ⟨by kernel_rfl, fun w' hC => by have e := L1.out w' hC; clear hC; go_simp⟩) ?_
  simp only [Act.put, List.setIfInBounds_toArray, List.set_cons_succ, List.set_cons_zero]
  refine wpAnyC_takeD (i := 6) (some 16) (v := .int .u32 bnd) (fun _ => trivial) (by kernel_rfl) rfl rfl (by kernel_rfl) (by kernel_rfl) (by kernel_rfl) (fun _ _ _ h => by cases h.1) hC0 (Or.inl ⟨by kernel_rfl, fun w' hC => by clear hC; go_simp⟩) ?_
  simp only [Act.put, List.setIfInBounds_toArray, List.set_cons_succ, List.set_cons_zero]
  refine wpAnyC_ready (rs := [4, 11]) (by kernel_rfl) (by simp) ?_
  refine AllC.cons rfl (fun K hK => ?_) (AllC.cons rfl (fun K hK => ?_) AllC.nil)
  · go_simp
    refine ⟨trivial, rfl, (callsIn_wide.2 (hCw _ (hB0.trans (hC0.mono hB0.size)))).mono ?_⟩
    rintro e w1 ⟨rfl, hownw1, hbw1⟩
    dsimp only
    have hCw1 : Below W.heap.size W w1 := hC0.trans (hbw1.mono hC0.size)
    have hVw1 := View.ofOwn hownw1 HL.out
    refine hK _ _ hCw1 ?_
    clear hK K hownw1
    refine wpAnyC_takeD (i := 5) (some 15) (v := .agg #[.int .u16 op, .slice (some ⟨W.heap.size, 0, none⟩) n n]) (fun _ => trivial) (by kernel_rfl) rfl rfl (by kernel_rfl) (by kernel_rfl) (by kernel_rfl) (fun _ _ _ h => by cases h.1) hCw1 (Or.inl ⟨by kernel_rfl, fun w' hC => by clear hC; go_simp⟩) ?_
    simp only [Act.put, List.setIfInBounds_toArray, List.set_cons_succ, List.set_cons_zero]
    refine wpAnyC_ready (rs := [7, 11]) (by kernel_rfl) (by simp) ?_
    refine AllC.cons rfl (fun K hK => ?_) (AllC.cons rfl (fun K hK => ?_) AllC.nil)
    · go_simp
      refine ⟨trivial, rfl, (callsIn_wide.2 (hIn _ _ hVw1)).mono ?_⟩
      rintro e w2 ⟨hbw2, a5, m5, c5, rfl, hm5, hown5⟩
      dsimp only
      have hCw2 : Below W.heap.size W w2 := hCw1.trans (hbw2.mono hCw1.size)
      have hAw2 := argsV_own hown5 hm5
      refine hK _ _ hCw2 ?_
      clear hK K
      refine wpAnyC_takeD (i := 8) (some 9) (v := .tuple #[.agg #[.int .u16 io, .int .u32 it, .int .u32 ir, .slice a5 m5 c5], .int .i64 ie]) (fun _ => trivial) (by kernel_rfl) rfl rfl (by kernel_rfl) (by kernel_rfl) (by kernel_rfl) (fun _ _ _ h => by cases h.1) hCw2 (Or.inl ⟨by kernel_rfl, fun w' hC => by clear hC; go_simp⟩) ?_
      simp only [Act.put, List.setIfInBounds_toArray, List.set_cons_succ, List.set_cons_zero]
      refine wpAnyC_takeD (i := 9) (some 18) (v := .agg #[.int .u16 io, .int .u32 it, .int .u32 ir, .slice a5 m5 c5]) (fun _ => trivial) (by kernel_rfl) rfl rfl (by kernel_rfl) (by kernel_rfl) (by kernel_rfl) (fun _ _ _ h => by cases h.1) hCw2 (Or.inl ⟨by kernel_rfl, fun w' hC => by clear hC; go_simp⟩) ?_
      simp only [Act.put, List.setIfInBounds_toArray, List.set_cons_succ, List.set_cons_zero]
      refine wpAnyC_takeD (i := 10) (some 19) (v := .int .i64 ie) (fun _ => trivial) (by kernel_rfl) rfl rfl (by kernel_rfl) (by kernel_rfl) (by kernel_rfl) (fun _ _ _ h => by cases h.1) hCw2 (Or.inl ⟨by kernel_rfl, fun w' hC => by clear hC; go_simp⟩) ?_
      simp only [Act.put, List.setIfInBounds_toArray, List.set_cons_succ, List.set_cons_zero]
      refine wpAnyC_ready (rs := [11]) (by kernel_rfl) (by simp) ?_
      refine AllC.cons rfl (fun K hK => ?_) AllC.nil
      go_simp
      have hC3 : Below W.heap.size W (w2.alloc (.cells #[.int .u16 0, .int .u32 0, .int .u32 0, .slice none 0 0] 43)) := hCw2.alloc hCw2.size _
      refine hK _ _ hC3 ?_
      clear hK K
      refine wpAnyC_ready (rs := [12]) (by kernel_rfl) (by simp) ?_
      refine AllC.cons rfl (fun K hK => ?_) AllC.nil
      go_simp
      have hC4 : Below W.heap.size W (w2.alloc (.cells #[.int .u16 io, .int .u32 it, .int .u32 ir, .slice a5 m5 c5] 43)) := hCw2.alloc hCw2.size _
      refine hK _ _ hC4 ?_
      clear hK K
      refine wpAnyC_takeD (i := 13) (some 6) (v := .int .i64 ie) (fun _ => trivial) (by kernel_rfl) rfl rfl (by kernel_rfl) (by kernel_rfl) (by kernel_rfl) (fun _ _ _ h => by cases h.1) hC4 (Or.inl ⟨by kernel_rfl, fun w' hC => by clear hC; go_simp⟩) ?_
      simp only [Act.put, List.setIfInBounds_toArray, List.set_cons_succ, List.set_cons_zero]
      exact wpAnyC_done (by kernel_rfl) ⟨rfl, KEY w2.heap.size W.heap.size a5 m5 c5 _ hC4 (alloc_new w2 _ _) (hAw2.below ((Below.refl _ w2).alloc (Nat.le_refl _) _)) hm5 hCw2.size⟩ _
    · go_simp
      have hC3 : Below W.heap.size W (w1.alloc (.cells #[.int .u16 0, .int .u32 0, .int .u32 0, .slice none 0 0] 43)) := hCw1.alloc hCw1.size _
      refine hK _ _ hC3 ?_
      clear hK K
      have kZ := alloc_new w1 #[.int .u16 0, .int .u32 0, .int .u32 0, .slice none 0 0] 43
      have hV3 := hVw1.below ((Below.refl _ w1).alloc (Nat.le_refl _) (.cells #[.int .u16 0, .int .u32 0, .int .u32 0, .slice none 0 0] 43))
      have hBB : W.heap.size ≤ w1.heap.size := hCw1.size
      have lB : w1.heap.size < (w1.alloc (.cells #[.int .u16 0, .int .u32 0, .int .u32 0, .slice none 0 0] 43)).heap.size := by simp
      generalize w1.alloc (.cells #[.int .u16 0, .int .u32 0, .int .u32 0, .slice none 0 0] 43) = W3 at *
      refine wpAnyC_ready (rs := [7]) (by kernel_rfl) (by simp) ?_
      refine AllC.cons rfl (fun K hK => ?_) AllC.nil
      go_simp
      refine ⟨trivial, rfl, (callsIn_wide.2 (hIn _ _ hV3)).mono ?_⟩
      rintro e w2 ⟨hbw2, a5, m5, c5, rfl, hm5, hown5⟩
      dsimp only
      have hCw2 : Below W.heap.size W w2 := hC3.trans (hbw2.mono hC3.size)
      have hAw2 := argsV_own hown5 hm5
      refine hK _ _ hCw2 ?_
      clear hK K
      refine wpAnyC_takeD (i := 8) (some 9) (v := .tuple #[.agg #[.int .u16 io, .int .u32 it, .int .u32 ir, .slice a5 m5 c5], .int .i64 ie]) (fun _ => trivial) (by kernel_rfl) rfl rfl (by kernel_rfl) (by kernel_rfl) (by kernel_rfl) (fun _ _ _ h => by cases h.1) hCw2 (Or.inl ⟨by kernel_rfl, fun w' hC => by clear hC; go_simp⟩) ?_
      simp only [Act.put, List.setIfInBounds_toArray, List.set_cons_succ, List.set_cons_zero]
      refine wpAnyC_takeD (i := 9) (some 18) (v := .agg #[.int .u16 io, .int .u32 it, .int .u32 ir, .slice a5 m5 c5]) (fun _ => trivial) (by kernel_rfl) rfl rfl (by kernel_rfl) (by kernel_rfl) (by kernel_rfl) (fun _ _ _ h => by cases h.1) hCw2 (Or.inl ⟨by kernel_rfl, fun w' hC => by clear hC; go_simp⟩) ?_
      simp only [Act.put, List.setIfInBounds_toArray, List.set_cons_succ, List.set_cons_zero]
      refine wpAnyC_takeD (i := 10) (some 19) (v := .int .i64 ie) (fun _ => trivial) (by kernel_rfl) rfl rfl (by kernel_rfl) (by kernel_rfl) (by kernel_rfl) (fun _ _ _ h => by cases h.1) hCw2 (Or.inl ⟨by kernel_rfl, fun w' hC => by clear hC; go_simp⟩) ?_
      simp only [Act.put, List.setIfInBounds_toArray, List.set_cons_succ, List.set_cons_zero]
      have kZ2 := (hbw2.block _ lB).trans kZ
      have hA9 : ArgsV ((((w2.setCell ⟨w1.heap.size, 0, none⟩ (.int .u16 io)).setCell ⟨w1.heap.size, 1, none⟩ (.int .u32 it)).setCell ⟨w1.heap.size, 2, none⟩ (.int .u32 ir)).setCell ⟨w1.heap.size, 3, none⟩ (.slice a5 m5 c5)) a5 il := argsV_own (ownFar (ownFar (ownFar (ownFar hown5 lB _ _) lB _ _) lB _ _) lB _ _) hm5
      refine wpAnyC_ready (rs := [12]) (by kernel_rfl) (by simp) ?_
      refine AllC.cons rfl (fun K hK => ?_) AllC.nil
      obtain ⟨zc, zf⟩ := one_block kZ2
      have z0 := zc 0
      have y0 := zf 0
      have z1 := zc 1
      have y1 := zf 1
      have z2 := zc 2
      have y2 := zf 2
      have z3 := zc 3
      have y3 := zf 3
      go_simp
      have hC9 : Below W.heap.size W ((((w2.setCell ⟨w1.heap.size, 0, none⟩ (.int .u16 io)).setCell ⟨w1.heap.size, 1, none⟩ (.int .u32 it)).setCell ⟨w1.heap.size, 2, none⟩ (.int .u32 ir)).setCell ⟨w1.heap.size, 3, none⟩ (.slice a5 m5 c5)) := (((hCw2.setCell hBB _).setCell hBB _).setCell hBB _).setCell hBB _
      refine hK _ _ hC9 ?_
      clear hK K
      refine wpAnyC_takeD (i := 13) (some 6) (v := .int .i64 ie) (fun _ => trivial) (by kernel_rfl) rfl rfl (by kernel_rfl) (by kernel_rfl) (by kernel_rfl) (fun _ _ _ h => by cases h.1) hC9 (Or.inl ⟨by kernel_rfl, fun w' hC => by clear hC; go_simp⟩) ?_
      simp only [Act.put, List.setIfInBounds_toArray, List.set_cons_succ, List.set_cons_zero]
      exact wpAnyC_done (by kernel_rfl) ⟨rfl, KEY w1.heap.size W.heap.size a5 m5 c5 _ hC9 (inst_put kZ2 _ _ _ _) hA9 hm5 hBB⟩ _
  · go_simp
    have hC3 : Below W.heap.size W (W.alloc (.cells #[.int .u16 0, .int .u32 0, .int .u32 0, .slice none 0 0] 43)).drew := ((Below.refl _ W).alloc (Nat.le_refl _) _).drew
    refine hK _ _ hC3 ?_
    clear hK K
    have kZ : (W.alloc (.cells #[.int .u16 0, .int .u32 0, .int .u32 0, .slice none 0 0] 43)).drew.heap[W.heap.size]? = some (.cells #[.int .u16 0, .int .u32 0, .int .u32 0, .slice none 0 0] 43 (0, 0)) := alloc_new W _ _
    have lB : W.heap.size < (W.alloc (.cells #[.int .u16 0, .int .u32 0, .int .u32 0, .slice none 0 0] 43)).drew.heap.size := by show _ < (W.alloc _).heap.size; simp
    have hBB : W.heap.size ≤ W.heap.size := Nat.le_refl _
    generalize (W.alloc (.cells #[.int .u16 0, .int .u32 0, .int .u32 0, .slice none 0 0] 43)).drew = W3 at *
    refine wpAnyC_ready (rs := [4]) (by kernel_rfl) (by simp) ?_
    refine AllC.cons rfl (fun K hK => ?_) AllC.nil
    go_simp
    refine ⟨trivial, rfl, (callsIn_wide.2 (hCw _ (hB0.trans (hC3.mono hB0.size)))).mono ?_⟩
    rintro e w1 ⟨rfl, hown1, hb1⟩
    dsimp only
    have hCw1 : Below W.heap.size W w1 := hC3.trans (hb1.mono hC3.size)
    have hVw1 := View.ofOwn hown1 HL.out
    refine hK _ _ hCw1 ?_
    clear hK K hown1
    refine wpAnyC_takeD (i := 5) (some 15) (v := .agg #[.int .u16 op, .slice (some ⟨W3.heap.size, 0, none⟩) n n]) (fun _ => trivial) (by kernel_rfl) rfl rfl (by kernel_rfl) (by kernel_rfl) (by kernel_rfl) (fun _ _ _ h => by cases h.1) hCw1 (Or.inl ⟨by kernel_rfl, fun w' hC => by clear hC; go_simp⟩) ?_
    simp only [Act.put, List.setIfInBounds_toArray, List.set_cons_succ, List.set_cons_zero]
    refine wpAnyC_ready (rs := [7]) (by kernel_rfl) (by simp) ?_
    refine AllC.cons rfl (fun K hK => ?_) AllC.nil
    go_simp
    refine ⟨trivial, rfl, (callsIn_wide.2 (hIn _ _ hVw1)).mono ?_⟩
    rintro e w2 ⟨hb2, a5, m5, c5, rfl, hm5, hown5⟩
    dsimp only
    have hCw2 : Below W.heap.size W w2 := hCw1.trans (hb2.mono hCw1.size)
    refine hK _ _ hCw2 ?_
    clear hK K
    refine wpAnyC_takeD (i := 8) (some 9) (v := .tuple #[.agg #[.int .u16 io, .int .u32 it, .int .u32 ir, .slice a5 m5 c5], .int .i64 ie]) (fun _ => trivial) (by kernel_rfl) rfl rfl (by kernel_rfl) (by kernel_rfl) (by kernel_rfl) (fun _ _ _ h => by cases h.1) hCw2 (Or.inl ⟨by kernel_rfl, fun w' hC => by clear hC; go_simp⟩) ?_
    simp only [Act.put, List.setIfInBounds_toArray, List.set_cons_succ, List.set_cons_zero]
    refine wpAnyC_takeD (i := 9) (some 18) (v := .agg #[.int .u16 io, .int .u32 it, .int .u32 ir, .slice a5 m5 c5]) (fun _ => trivial) (by kernel_rfl) rfl rfl (by kernel_rfl) (by kernel_rfl) (by kernel_rfl) (fun _ _ _ h => by cases h.1) hCw2 (Or.inl ⟨by kernel_rfl, fun w' hC => by clear hC; go_simp⟩) ?_
    simp only [Act.put, List.setIfInBounds_toArray, List.set_cons_succ, List.set_cons_zero]
    refine wpAnyC_takeD (i := 10) (some 19) (v := .int .i64 ie) (fun _ => trivial) (by kernel_rfl) rfl rfl (by kernel_rfl) (by kernel_rfl) (by kernel_rfl) (fun _ _ _ h => by cases h.1) hCw2 (Or.inl ⟨by kernel_rfl, fun w' hC => by clear hC; go_simp⟩) ?_
    simp only [Act.put, List.setIfInBounds_toArray, List.set_cons_succ, List.set_cons_zero]
    have lB1 : W.heap.size < w1.heap.size := Nat.lt_of_lt_of_le lB hb1.size
    have kZ2 := (hb2.block _ lB1).trans ((hb1.block _ lB).trans kZ)
    have hA9 : ArgsV ((((w2.setCell ⟨W.heap.size, 0, none⟩ (.int .u16 io)).setCell ⟨W.heap.size, 1, none⟩ (.int .u32 it)).setCell ⟨W.heap.size, 2, none⟩ (.int .u32 ir)).setCell ⟨W.heap.size, 3, none⟩ (.slice a5 m5 c5)) a5 il := argsV_own (ownFar (ownFar (ownFar (ownFar hown5 lB1 _ _) lB1 _ _) lB1 _ _) lB1 _ _) hm5
    refine wpAnyC_ready (rs := [12]) (by kernel_rfl) (by simp) ?_
    refine AllC.cons rfl (fun K hK => ?_) AllC.nil
    obtain ⟨zc, zf⟩ := one_block kZ2
    have z0 := zc 0
    have y0 := zf 0
    have z1 := zc 1
    have y1 := zf 1
    have z2 := zc 2
    have y2 := zf 2
    have z3 := zc 3
    have y3 := zf 3
    go_simp
    have hC9 : Below W.heap.size W ((((w2.setCell ⟨W.heap.size, 0, none⟩ (.int .u16 io)).setCell ⟨W.heap.size, 1, none⟩ (.int .u32 it)).setCell ⟨W.heap.size, 2, none⟩ (.int .u32 ir)).setCell ⟨W.heap.size, 3, none⟩ (.slice a5 m5 c5)) := (((hCw2.setCell hBB _).setCell hBB _).setCell hBB _).setCell hBB _
    refine hK _ _ hC9 ?_
    clear hK K
    refine wpAnyC_takeD (i := 13) (some 6) (v := .int .i64 ie) (fun _ => trivial) (by kernel_rfl) rfl rfl (by kernel_rfl) (by kernel_rfl) (by kernel_rfl) (fun _ _ _ h => by cases h.1) hC9 (Or.inl ⟨by kernel_rfl, fun w' hC => by clear hC; go_simp⟩) ?_
    simp only [Act.put, List.setIfInBounds_toArray, List.set_cons_succ, List.set_cons_zero]
    exact wpAnyC_done (by kernel_rfl) ⟨rfl, KEY W.heap.size W3.heap.size a5 m5 c5 _ hC9 (inst_put kZ2 _ _ _ _) hA9 hm5 hBB⟩ _

end Go.Proofs.Ytpggcpnjcalfaab
