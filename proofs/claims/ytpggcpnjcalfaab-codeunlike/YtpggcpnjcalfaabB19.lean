/-
  Texts laid together in one: ArgInsts, KitBytesAny, MathE, LawCodeUnlike.
-/
import Derived.ProofKit
import Derived.OpenShut
import Derived.SizedLaws
import Derived.Deep.Slices
import Derived.Deep.SlicePairs
import Derived.Lib.SmallJoins
import Derived.Test.YtpggcpnjcalfaabProg
import Derived.Test.YtpggcpnjcalfaabB01
import Derived.WalkSpells
import Derived.Deep.QuietTactic
import Derived.BigQuiet
import Derived.Test.YtpggcpnjcalfaabB13
import Derived.Test.YtpggcpnjcalfaabB15
import Derived.Test.YtpggcpnjcalfaabB18
import Derived.WalkKit
import Derived.OwnWalkIn
import Derived.TacticsInMore
import Derived.WalkMore
import Derived.Test.YtpggcpnjcalfaabB02
/-
  What an argument that is an instruction, or a slice of instructions, holds: all within their bounds, each list within the reach of memory.
-/
namespace Go.Proofs.Ytpggcpnjcalfaab
open Go.ChangeShapes Go.WideShapes Go.ChangeAt Go.RowKit
set_option maxRecDepth 100000

theorem ArgInsts.cellsA : Try.prog.cellsOf 90 = 3 := by kernel_rfl
theorem ArgInsts.cells8 : Try.prog.cellsOf 5 = 1 := by kernel_rfl
theorem ArgInsts.cells32 : Try.prog.cellsOf 22 = 1 := by kernel_rfl
theorem ArgInsts.cellsS : Try.prog.cellsOf 9 = 1 := by kernel_rfl
theorem ArgInsts.bytesA : Try.prog.bytesOf 90 = 24 := by kernel_rfl
theorem ArgInsts.cells16 : Try.prog.cellsOf 40 = 1 := by kernel_rfl
theorem ArgInsts.cellsL : Try.prog.cellsOf 41 = 1 := by kernel_rfl

theorem ArgInsts.cellsI : Try.prog.cellsOf 43 = 4 := by kernel_rfl
theorem ArgInsts.bytesI : Try.prog.bytesOf 43 = 40 := by kernel_rfl

theorem weightsIn {H : Type} {P : Program} {e : TypeId} : ∀ {l : List (DataW H)} {d : DataW H}, d ∈ l → ∀ n ∈ d.weights P e, n ∈ DataW.weightsAll P e l
  | d0 :: l, d, hd, n, hn => by
    simp only [DataW.weightsAll, List.mem_append]
    rcases List.mem_cons.1 hd with rfl | h
    · exact Or.inl hn
    · exact Or.inr (weightsIn h n hn)

theorem argsV_mk {w : World} {x : Addr} {n : Nat} {f : Nat → ArgT} (h : ∀ i, i < n → w.cell? (x.add (i * 3)) = some (.int .u8 (f i).1) ∧ w.cell? (x.add (i * 3 + 1)) = some (.int .u32 (f i).2.1) ∧ w.cell? (x.add (i * 3 + 2)) = some (.string (f i).2.2)) : ArgsV w (some x) ((List.range n).map f) := by
  intro j hj
  rw [List.length_map, List.length_range] at hj
  have h0 := (h 0 (by omega)).1
  obtain ⟨b, off, spot⟩ := x
  have hs : spot = none := by simpa [Addr.add] using World.cell?_spot h0
  subst hs
  obtain ⟨h1, h2, h3⟩ := h j hj
  rw [Addr.add_lit] at h1 h2 h3
  have e : nthA ((List.range n).map f) j = f j := by simp [nthA, List.getD, hj]
  rw [e]
  exact ⟨b, off, rfl, World.block_lt_of_cell? _ _ h1, h1, by rw [Nat.add_assoc]; exact h2, by rw [Nat.add_assoc]; exact h3⟩

set_option maxHeartbeats 1000000 in
theorem open_args {H : Type} {enc : TypeId × Value → H} {w : World} {base fuel : Nat} {held : Bool} {a : Option Addr} {len cap : Nat} {d : DataW H} {ps : List MemPlace}
    (hf : DataW.trod enc Try.prog w base (fun _ => true) held fuel 41 [.slice a len cap] = some (d, ps)) (hs : ∀ n ∈ d.weights Try.prog 41, n ≤ reachBytes) :
    ∃ l : List ArgT, l.length = len ∧ ArgsV w a l ∧ ArgsOk l ∧ 24 * len ≤ 140737488351232 ∧ len ≤ cap := by
  rcases Go.Deep.open_slice Try.underlying41 hf with ⟨hcs, _⟩ | ⟨x, l, c, mm, nn, D, Pl, hcs, _, hl, hm, hmm, hx, hall⟩
  · simp at hcs
    obtain ⟨rfl, rfl, rfl⟩ := hcs
    exact ⟨[], rfl, argsV_nil, argsOk_nil, by omega, by omega⟩
  · simp at hcs
    obtain ⟨rfl, rfl, rfl⟩ := hcs
    simp only [Prod.mk.injEq] at hx
    obtain ⟨rfl, rfl⟩ := hx
    simp only [if_true] at hmm
    subst hmm
    have hs0 := hs ((((List.range len).map D).length + ((List.range (mm - len)).map fun j => D (len + j)).length) * Try.prog.bytesOf 90) (by simp [DataW.weights, Try.underlying41])
    rw [ArgInsts.bytesA] at hs0
    simp only [List.length_map, List.length_range, reachBytes] at hs0
    have key : ∀ i, i < len → ∃ r : ArgT, w.cell? (x.add (i * 3)) = some (.int .u8 r.1) ∧ w.cell? (x.add (i * 3 + 1)) = some (.int .u32 r.2.1) ∧ w.cell? (x.add (i * 3 + 2)) = some (.string r.2.2) ∧ ArgOk r := by
      intro i hi
      obtain ⟨cs, hc, ht⟩ := hall i (by omega)
      rw [ArgInsts.cellsA] at hc
      obtain ⟨_, hlen, hcell⟩ := World.cells?_some hc
      obtain ⟨xs, k, _, hxy, _, hxl, hfl⟩ := DataW.trod_struct Try.underlying90 ht
      have g0 := hfl 0 _ rfl
      have g1 := hfl 1 _ rfl
      have g2 := hfl 2 _ rfl
      match xs, hxl, cs, hlen with
      | [y0, y1, y2], _, [v0, v1, v2], _ =>
        have e0 := hcell 0 (by omega)
        have e1 := hcell 1 (by omega)
        have e2 := hcell 2 (by omega)
        rw [Go.Deep.add_add] at e0 e1 e2
        simp [ArgInsts.cells8, ArgInsts.cells32, ArgInsts.cellsS] at g0 g1 g2 e0 e1 e2
        obtain ⟨n0, q0, _, w0⟩ := DataW.trod_int Try.underlying5 g0
        obtain ⟨n1, q1, _, w1⟩ := DataW.trod_int Try.underlying22 g1
        obtain ⟨s2, q2, q3⟩ := DataW.trod_string Try.underlying9 g2
        simp at q0 q1 q2
        subst q0; subst q1; subst q2
        have b0 := bounds_u8 w0
        have b1 := bounds_u32 w1
        refine ⟨(n0, n1, s2), by simpa using e0, e1, e2, ?_⟩
        have hs2 := hs s2.size (by
          have hmem : D i ∈ (List.range len).map D := List.mem_map.2 ⟨i, List.mem_range.2 hi, rfl⟩
          simp only [DataW.weights, Try.underlying41, List.mem_cons, List.mem_append]
          refine Or.inr (Or.inl (weightsIn hmem _ ?_))
          simp only [Prod.mk.injEq] at hxy
          rw [hxy.1]
          simp only [DataW.weights, Try.underlying90]
          refine DataW.weights_mem_each (j := 2) rfl rfl _ ?_
          simp_all [DataW.weights])
        simp only [reachBytes] at hs2
        exact ⟨by simp; omega, by simp; omega, by simp; omega, by simp; omega, hs2⟩
    let f : Nat → ArgT := fun i => if h : i < len then Classical.choose (key i h) else noArg
    have hf' : ∀ i (h : i < len), f i = Classical.choose (key i h) := fun i h => dif_pos h
    refine ⟨(List.range len).map f, by simp, argsV_mk (fun i hi => ?_), fun j hj => ?_, by omega, hl⟩
    · rw [hf' i hi]
      obtain ⟨h1, h2, h3, _⟩ := Classical.choose_spec (key i hi)
      exact ⟨h1, h2, h3⟩
    · rw [List.length_map, List.length_range] at hj
      have e : nthA ((List.range len).map f) j = f j := by simp [nthA, List.getD, hj]
      rw [e, hf' j hj]
      exact (Classical.choose_spec (key j hj)).2.2.2

theorem open_inst {H : Type} {enc : TypeId × Value → H} {w : World} {b0 base : Nat} {held : Bool} {v : Value} {d : DataW H} {ps : List MemPlace}
    (hv : Value.okWide Try.prog w .any b0 43 v) (h : DataW.Trod enc Try.prog w base (fun _ => true) held 43 v d ps) (hs : ∀ n ∈ d.weights Try.prog 43, n ≤ reachBytes) :
    ∃ (x : InstT) (a : Option Addr) (n c : Nat), v = instV x a n c ∧ x.2.2.2.length = n ∧ InstOk x ∧ ArgsV w a x.2.2.2 ∧ n ≤ c := by
  obtain ⟨v0, v1, v2, v3, y0, y1, y2, y3, m, rfl, rfl, _, t0, t1, t2, t3⟩ := Go.Joins.open_agg4 Try.underlying43 (by kernel_rfl) (by kernel_rfl) hv h
  obtain ⟨n0, e0, _, w0⟩ := DataW.trod_int Try.underlying40 t0
  obtain ⟨n1, e1, _, w1⟩ := DataW.trod_int Try.underlying22 t1
  obtain ⟨n2, e2, _, w2⟩ := DataW.trod_int Try.underlying22 t2
  simp at e0 e1 e2
  subst e0; subst e1; subst e2
  have b0 := bounds_u16 w0
  have b1 := bounds_u32 w1
  have b2 := bounds_u32 w2
  obtain ⟨a, n, c, rfl⟩ : ∃ a n c, v3 = .slice a n c := by
    rcases Go.Deep.open_slice Try.underlying41 t3 with ⟨hcs, _⟩ | ⟨x, l, c, mm, nn, D, Pl, hcs, _⟩
    · simp at hcs; exact ⟨_, _, _, hcs⟩
    · simp at hcs; exact ⟨_, _, _, hcs⟩
  obtain ⟨l, hl, hv3, hok, hr, hc⟩ := open_args t3 (fun k hk => hs k (by
    simp only [DataW.weights, Try.underlying43]
    exact DataW.weights_mem_each (j := 3) rfl rfl _ hk))
  exact ⟨(n0, n1, n2, l), a, n, c, rfl, hl, ⟨by simp; omega, by simp; omega, by simp; omega, by simp; omega, by simp; omega, by simp; omega, hok, by rw [hl]; exact hr⟩, hv3, hc⟩

theorem instsV_mk {w : World} {x : Addr} {n : Nat} {f : Nat → InstT} (h : ∀ i, i < n → w.cell? (x.add (i * 4)) = some (.int .u16 (f i).1) ∧ w.cell? (x.add (i * 4 + 1)) = some (.int .u32 (f i).2.1) ∧ w.cell? (x.add (i * 4 + 2)) = some (.int .u32 (f i).2.2.1) ∧
    ∃ aj cj, w.cell? (x.add (i * 4 + 3)) = some (.slice aj (f i).2.2.2.length cj) ∧ ArgsV w aj (f i).2.2.2 ∧ (f i).2.2.2.length ≤ cj) : InstsV w (some x) ((List.range n).map f) := by
  intro j hj
  rw [List.length_map, List.length_range] at hj
  have h0 := (h 0 (by omega)).1
  obtain ⟨b, off, spot⟩ := x
  have hs : spot = none := by simpa [Addr.add] using World.cell?_spot h0
  subst hs
  obtain ⟨h1, h2, h3, aj, cj, h4, h5, h6⟩ := h j hj
  rw [Addr.add_lit] at h1 h2 h3 h4
  have e : nthI ((List.range n).map f) j = f j := by simp [nthI, List.getD, hj]
  rw [e]
  exact ⟨b, off, aj, cj, _, rfl, World.block_lt_of_cell? _ _ h1, h1, by rw [Nat.add_assoc]; exact h2, by rw [Nat.add_assoc]; exact h3, by rw [Nat.add_assoc]; exact h4, rfl, h5, h6⟩

set_option maxHeartbeats 1000000 in
theorem open_insts {H : Type} {enc : TypeId × Value → H} {w : World} {base fuel : Nat} {held : Bool} {a : Option Addr} {len cap : Nat} {d : DataW H} {ps : List MemPlace}
    (hf : DataW.trod enc Try.prog w base (fun _ => true) held fuel 23 [.slice a len cap] = some (d, ps)) (hs : ∀ n ∈ d.weights Try.prog 23, n ≤ reachBytes) :
    ∃ l : List InstT, l.length = len ∧ InstsV w a l ∧ InstsOk l ∧ 40 * len ≤ 140737488351232 ∧ len ≤ cap := by
  rcases Go.Deep.open_slice Try.underlying23 hf with ⟨hcs, _⟩ | ⟨x, l, c, mm, nn, D, Pl, hcs, _, hl, hm, hmm, hx, hall⟩
  · simp at hcs
    obtain ⟨rfl, rfl, rfl⟩ := hcs
    exact ⟨[], rfl, instsV_nil, instsOk_nil, by omega, by omega⟩
  · simp at hcs
    obtain ⟨rfl, rfl, rfl⟩ := hcs
    simp only [Prod.mk.injEq] at hx
    obtain ⟨rfl, rfl⟩ := hx
    simp only [if_true] at hmm
    subst hmm
    have hs0 := hs ((((List.range len).map D).length + ((List.range (mm - len)).map fun j => D (len + j)).length) * Try.prog.bytesOf 43) (by simp [DataW.weights, Try.underlying23])
    rw [ArgInsts.bytesI] at hs0
    simp only [List.length_map, List.length_range, reachBytes] at hs0
    have key : ∀ i, i < len → ∃ r : InstT, w.cell? (x.add (i * 4)) = some (.int .u16 r.1) ∧ w.cell? (x.add (i * 4 + 1)) = some (.int .u32 r.2.1) ∧ w.cell? (x.add (i * 4 + 2)) = some (.int .u32 r.2.2.1) ∧
        (∃ aj cj, w.cell? (x.add (i * 4 + 3)) = some (.slice aj r.2.2.2.length cj) ∧ ArgsV w aj r.2.2.2 ∧ r.2.2.2.length ≤ cj) ∧ InstOk r := by
      intro i hi
      obtain ⟨cs, hc, ht⟩ := hall i (by omega)
      rw [ArgInsts.cellsI] at hc
      obtain ⟨_, hlen, hcell⟩ := World.cells?_some hc
      obtain ⟨xs, k, _, hxy, _, hxl, hfl⟩ := DataW.trod_struct Try.underlying43 ht
      have g0 := hfl 0 _ rfl
      have g1 := hfl 1 _ rfl
      have g2 := hfl 2 _ rfl
      have g3 := hfl 3 _ rfl
      match xs, hxl, cs, hlen with
      | [y0, y1, y2, y3], _, [v0, v1, v2, v3], _ =>
        have e0 := hcell 0 (by omega)
        have e1 := hcell 1 (by omega)
        have e2 := hcell 2 (by omega)
        have e3 := hcell 3 (by omega)
        rw [Go.Deep.add_add] at e0 e1 e2 e3
        simp [ArgInsts.cells16, ArgInsts.cells32, ArgInsts.cellsL] at g0 g1 g2 g3 e0 e1 e2 e3
        obtain ⟨n0, q0, _, w0⟩ := DataW.trod_int Try.underlying40 g0
        obtain ⟨n1, q1, _, w1⟩ := DataW.trod_int Try.underlying22 g1
        obtain ⟨n2, q2, _, w2⟩ := DataW.trod_int Try.underlying22 g2
        simp at q0 q1 q2
        subst q0; subst q1; subst q2
        have b0 := bounds_u16 w0
        have b1 := bounds_u32 w1
        have b2 := bounds_u32 w2
        obtain ⟨a, n, c, rfl⟩ : ∃ a n c, v3 = .slice a n c := by
          rcases Go.Deep.open_slice Try.underlying41 g3 with ⟨hcs, _⟩ | ⟨x, l, c, mm, nn, D, Pl, hcs, _⟩
          · simp at hcs; exact ⟨_, _, _, hcs⟩
          · simp at hcs; exact ⟨_, _, _, hcs⟩
        obtain ⟨l, hl, hv3, hok, hr, hc⟩ := open_args g3 (fun k hk => hs k (by
          have hmem : D i ∈ (List.range len).map D := List.mem_map.2 ⟨i, List.mem_range.2 hi, rfl⟩
          simp only [DataW.weights, Try.underlying23, List.mem_cons, List.mem_append]
          refine Or.inr (Or.inl (weightsIn hmem _ ?_))
          simp only [Prod.mk.injEq] at hxy
          rw [hxy.1]
          simp only [DataW.weights, Try.underlying43]
          exact DataW.weights_mem_each (j := 3) rfl rfl _ hk))
        subst hl
        exact ⟨(n0, n1, n2, l), by simpa using e0, e1, e2, ⟨a, c, e3, hv3, hc⟩, by simp; omega, by simp; omega, by simp; omega, by simp; omega, by simp; omega, by simp; omega, hok, hr⟩
    let f : Nat → InstT := fun i => if h : i < len then Classical.choose (key i h) else noInst
    have hf' : ∀ i (h : i < len), f i = Classical.choose (key i h) := fun i h => dif_pos h
    refine ⟨(List.range len).map f, by simp, instsV_mk (fun i hi => ?_), fun j hj => ?_, by omega, hl⟩
    · rw [hf' i hi]
      obtain ⟨h1, h2, h3, h4, _⟩ := Classical.choose_spec (key i hi)
      exact ⟨h1, h2, h3, h4⟩
    · rw [List.length_map, List.length_range] at hj
      have e : nthI ((List.range len).map f) j = f j := by simp [nthI, List.getD, hj]
      rw [e, hf' j hj]
      exact (Classical.choose_spec (key j hj)).2.2.2.2

theorem open_module {H : Type} {enc : TypeId × Value → H} {w : World} {b0 base : Nat} {held : Bool} {v : Value} {d : DataW H} {ps : List MemPlace}
    (hv : Value.okWide Try.prog w .any b0 25 v) (h : DataW.Trod enc Try.prog w base (fun _ => true) held 25 v d ps) (hs : ∀ n ∈ d.weights Try.prog 25, n ≤ reachBytes) :
    ∃ (gen bound : Int) (a : Option Addr) (n c : Nat) (l : List InstT), v = .agg #[.int .u32 gen, .int .u32 bound, .slice a n c] ∧ 0 ≤ gen ∧ gen < 4294967296 ∧ 0 ≤ bound ∧ bound < 4294967296 ∧ l.length = n ∧ InstsV w a l ∧ InstsOk l ∧ 40 * n ≤ 140737488351232 ∧ n ≤ c := by
  obtain ⟨v0, v1, v3, y0, y1, y3, m, rfl, rfl, _, t0, t1, t3⟩ := Go.Joins.open_agg3 Try.underlying25 (by kernel_rfl) (by kernel_rfl) hv h
  obtain ⟨n0, e0, _, w0⟩ := DataW.trod_int Try.underlying22 t0
  obtain ⟨n1, e1, _, w1⟩ := DataW.trod_int Try.underlying22 t1
  simp at e0 e1
  subst e0; subst e1
  have b0 := bounds_u32 w0
  have b1 := bounds_u32 w1
  obtain ⟨a, n, c, rfl⟩ : ∃ a n c, v3 = .slice a n c := by
    rcases Go.Deep.open_slice Try.underlying23 t3 with ⟨hcs, _⟩ | ⟨x, l, c, mm, nn, D, Pl, hcs, _⟩
    · simp at hcs; exact ⟨_, _, _, hcs⟩
    · simp at hcs; exact ⟨_, _, _, hcs⟩
  obtain ⟨l, hl, hv3, hok, hr, hc⟩ := open_insts t3 (fun k hk => hs k (by
    simp only [DataW.weights, Try.underlying25]
    exact DataW.weights_mem_each (j := 2) rfl rfl _ hk))
  exact ⟨n0, n1, a, n, c, l, rfl, by omega, by omega, by omega, by omega, hl, hv3, hok, hr, hc⟩

theorem open_raw {H : Type} {enc : TypeId × Value → H} {w : World} {b0 base : Nat} {held : Bool} {v : Value} {d : DataW H} {ps : List MemPlace}
    (hv : Value.okWide Try.prog w .any b0 46 v) (h : DataW.Trod enc Try.prog w base (fun _ => true) held 46 v d ps) (hs : ∀ n ∈ d.weights Try.prog 46, n ≤ reachBytes) :
    ∃ (op : Int) (a : Option Addr) (n c : Nat) (zs : List Int), v = .agg #[.int .u16 op, .slice a n c] ∧ 0 ≤ op ∧ op < 65536 ∧ zs.length = n ∧ View .u32 w a zs ∧ Within 4294967296 zs ∧ 4 * n ≤ 140737488351232 ∧ n ≤ c := by
  obtain ⟨v0, v1, y0, y1, m, rfl, rfl, _, t0, t1⟩ := Go.Joins.open_agg2 Try.underlying46 (by kernel_rfl) (by kernel_rfl) hv h
  obtain ⟨n0, e0, _, w0⟩ := DataW.trod_int Try.underlying40 t0
  simp at e0
  subst e0
  have b0 := bounds_u16 w0
  rcases open_ints Try.underlying44 Try.underlying22 ArgInsts.cells32 t1 with ⟨hcs, _⟩ | ⟨y, l, c, zs, hcs, _, hl1, hm1, hz1, hx1, hcell, hwz⟩
  · simp at hcs
    subst hcs
    exact ⟨n0, none, 0, 0, [], rfl, by omega, by omega, rfl, view_nil, within_nil, by omega, by omega⟩
  · simp at hcs
    subst hcs
    simp only [if_true] at hz1
    have hs1 := hs (((lits (H := H) .u32 (zs.take l)).length + (lits (H := H) .u32 (zs.drop l)).length) * Try.prog.bytesOf 22) (by
      simp only [DataW.weights, Try.underlying46]
      refine DataW.weights_mem_each (j := 1) rfl rfl _ ?_
      have : y1.1 = DataW.slice (lits .u32 (zs.take l)) (lits .u32 (zs.drop l)) := by rw [hx1]
      rw [this]
      simp [DataW.weights, Try.underlying44])
    rw [show Try.prog.bytesOf 22 = 4 by kernel_rfl] at hs1
    simp only [lits, List.length_map, List.length_take, List.length_drop, reachBytes] at hs1
    have hlen : (zs.take l).length = l := by rw [List.length_take]; omega
    exact ⟨n0, some y, l, c, zs.take l, rfl, by omega, by omega, hlen, view_take hcell (by omega), within_take fun z hz => by have := bounds_u32 (hwz z hz); omega, by omega, hl1⟩

end Go.Proofs.Ytpggcpnjcalfaab

/-
  Bytes of the kit tells whether bytes are the same.
-/
namespace Go.Proofs.Ytpggcpnjcalfaab
open Go.RowKit
set_option linter.unusedVariables false
set_option maxRecDepth 10000

set_option maxHeartbeats 1000000 in
theorem bytes_any (a b : Option Addr) (n m ca cb : Nat) (xs ys : List Int) (w : World) (ha : View .u8 w a xs) (hb : View .u8 w b ys) (hl : xs.length = n) (hm : ys.length = m) (hn : n ≤ 140737488351232) (hm2 : m ≤ 140737488351232) (r : Bool) (hr : r = true ↔ xs = ys) :
    Calls Try.prog 16 #[.slice a n ca, .slice b m cb] w fun e w' => e = .returned (.bool r) ∧ ∃ q, w' = w.drewN q := by
  have HL : Hid (xs.length = n) := hl
  have HM : Hid (ys.length = m) := hm
  have HR : Hid (r = true ↔ xs = ys) := hr
  clear hl hm hr
  by_cases hnm : n = m
  · subst hnm
    go_enter Try.func16, Try.ntmps16
    go_wp2
    go_loopw [5] (fun i wr => ∃ k q : Nat, k ≤ n ∧ i = .int .i64 k ∧ wr = w.drewN q ∧ ∀ j, j < k → nth xs j = nth ys j) (fun i _ => n - (intOf i).toNat)
    case atStart => exact ⟨0, 0, Nat.zero_le _, rfl, rfl, fun j hj => by omega⟩
    case round =>
      obtain ⟨k, q, hk, rfl, rfl, hall⟩ := hrel
      have HALL : Hid (∀ j, j < k → nth xs j = nth ys j) := hall
      clear hall
      by_cases hlt : k < n
      · obtain ⟨b1, o1, rfl, _, c1⟩ := ha k (by rw [HL.out]; exact hlt)
        obtain ⟨b2, o2, rfl, _, c2⟩ := hb k (by rw [HM.out]; exact hlt)
        have hk0 : (0 : Int) ≤ (k : Int) := by omega
        have hki : (k : Int) < (n : Int) := by omega
        have HX : Hid (nth xs k = nth xs k) := rfl
        generalize hx : nth xs k = x at *
        generalize hy : nth ys k = y at *
        have HXE : Hid (nth xs k = x) := hx
        have HYE : Hid (nth ys k = y) := hy
        clear ha hb hx hy HX
        by_cases hxy : x = y
        · subst hxy
          go_wp2
          go_quiet (fail)
          go_wp2
          go_roundw
          case rel => exact ⟨k + 1, _, by omega, by go_num, rfl, fun j hj => by
            by_cases hjk : j < k
            · exact HALL.out j hjk
            · obtain rfl : j = k := by omega
              rw [HXE.out, HYE.out]⟩
          case measure => simp [intOf]; omega
        · have hr : r = false := by
            cases hr : r with
            | false => rfl
            | true =>
              have := HR.out.1 hr
              exact absurd (by rw [← HXE.out, ← HYE.out, this]) hxy
          subst hr
          have hxyb : (x == y) = false := by simpa using hxy
          go_wp2
          go_quiet (fail)
          go_wp2
          go_ret
          exact ⟨by simp, _, World.drewN_drewN _ _ _⟩
      · obtain rfl : k = n := by omega
        have hr : r = true := HR.out.2 (nth_ext (by rw [HL.out, HM.out]) fun j hj => HALL.out j (by rw [← HL.out]; exact hj))
        subst hr
        go_wp2
        go_ret
        exact ⟨rfl, q, rfl⟩
  · have hr : r = false := by
      cases hr : r with
      | false => rfl
      | true =>
        have := HR.out.1 hr
        exact absurd (by rw [← HL.out, ← HM.out, this]) hnm
    subst hr
    have hnm' : ¬ (n : Int) = (m : Int) := by omega
    clear hnm
    go_enter Try.func16, Try.ntmps16
    go_wp2
    go_ret
    exact ⟨by simp, 0, rfl⟩

end Go.Proofs.Ytpggcpnjcalfaab

/-
  Plain facts: bytes to module and back are the bytes; modules to bytes and back are the modules.
-/
namespace Go.Proofs.Ytpggcpnjcalfaab
open Go.RowKit
set_option linter.unusedVariables false

theorem shape_faultF (b : Int) (l : List InstT) (hE : ∀ k, k < l.length → rawE (nthI l k) b = 0) : ∀ d k, l.length - k = d → fault (rawsL b l) k = (0, 0) → shapeF b k (sizeTo (rawsL b l) k) (l.drop k) = (0, 0)
  | 0, k, hd, _ => shape_end b l k _ (by omega)
  | d + 1, k, hd, h => by
    have hk : k < l.length := by omega
    rw [shape_step b l k hk, if_neg (by simp [hE k hk])]
    rw [fault_step _ _ (by rw [rawsL_len]; exact hk), nthR_raws b l k hk] at h
    have hs := rawWs_len (nthI l k) b
    rw [if_neg (by simp only; omega)] at h
    by_cases h2 : 1048576 < sizeTo (rawsL b l) (k + 1)
    · rw [if_pos h2] at h; cases h
    · rw [if_neg h2] at h ⊢
      exact shape_faultF b l hE d (k + 1) (by omega) h
theorem shape_of_fault {b : Int} {l : List InstT} (h0 : ¬ b = 0) (h1 : ¬ 65536 < b) (hE : ∀ k, k < l.length → rawE (nthI l k) b = 0) (h : fault (rawsL b l) 0 = (0, 0)) : shapeE b l = (0, 0) := by
  unfold shapeE
  rw [if_neg (by rintro (h | h)
                 · exact h0 h
                 · exact h1 h)]
  exact shape_faultF b l hE _ 0 rfl h

theorem split_len {bs : List Int} (h : splitErr bs = 0) : bs.length ≤ 4194304 ∧ bs.length % 4 = 0 := by
  unfold splitErr at h
  by_cases h1 : 4194304 < bs.length
  · rw [if_pos h1] at h; cases h
  · rw [if_neg h1] at h
    by_cases h2 : bs.length % 4 = 0
    · exact ⟨by omega, h2⟩
    · rw [if_neg h2] at h; cases h

/-- THE BYTES. -/
theorem enc_dec {bs : List Int} (hw : Within 256 bs) (h : (decE bs).1 = 0) : decH bs 3 ≠ 0 ∧ ¬ 65536 < decH bs 3 ∧ shapeE (decH bs 3) (decL bs) = (0, 0) ∧ encL (decH bs 2) (decH bs 3) (decL bs) = bs := by
  obtain ⟨h1, h2, h3, h4, h5, h6⟩ := decE_ok h
  have hww := splitL_within bs hw
  obtain ⟨w1, w2, w3, w4, w5, w6⟩ := write_read (splitL bs) hww h2
  obtain ⟨s1, s2⟩ := split_len h1
  have hj := join_split bs s2 hw
  rw [h4, h5, h6]
  generalize splitL bs = zs at *
  generalize hb : nth zs 3 = b at *
  have hre : ∀ p ∈ rest zs 5, (instAt zs b p).1.1 = (rawAt zs p).1 ∧ rawE (instAt zs b p).1 b = 0 ∧ rawWs (instAt zs b p).1 b = (rawAt zs p).2 := fun p hp => rawE_instI (rawAt_within hww p) (h3 p hp)
  have hR : rawsL b (instsAt zs b (rest zs 5)) = readR zs := by
    unfold rawsL instsAt readR
    rw [List.map_map]
    refine List.map_congr_left fun p hp => ?_
    obtain ⟨e1, _, e3⟩ := hre p hp
    simp only [Function.comp]
    rw [e1, e3]
  have hE : ∀ k, k < (instsAt zs b (rest zs 5)).length → rawE (nthI (instsAt zs b (rest zs 5)) k) b = 0 := fun k hk => by
    rw [nthI_lt _ _ hk]
    simp only [instsAt, List.getElem_map]
    exact (hre _ (List.getElem_mem _)).2.1
  have hS : shapeE b (instsAt zs b (rest zs 5)) = (0, 0) := shape_of_fault w2 w3 hE (by rw [hR]; exact w4)
  refine ⟨w2, w3, hS, ?_⟩
  unfold encL encW
  rw [hS, if_pos rfl, hR, show (instsAt zs b (rest zs 5)).length = (readR zs).length by simp [instsAt, readR], w6, hj]

/-- THE MODULES. -/
theorem dec_enc {gen b : Int} {l : List InstT} (hg0 : 0 ≤ gen) (hg1 : gen < 4294967296) (hb0 : 0 ≤ b) (hb1 : b < 4294967296) (hok : InstsOk l) (h : (shapeE b l).1 = 0) : decE (encL gen b l) = (0, 0) ∧ decL (encL gen b l) = l ∧ decH (encL gen b l) 2 = gen ∧ decH (encL gen b l) 3 = b ∧ 20 ≤ (encL gen b l).length ∧ Within 256 (encL gen b l) := by
  obtain ⟨n0, n1⟩ := shape_bound h
  have hW := encW_within (gen := gen) (b := b) hg0 hg1 hb0 hb1 hok
  obtain ⟨l1, l2⟩ := encW_len (gen := gen) h
  have hL : encL gen b l = joinL (encW gen b l) := by unfold encL; rw [if_pos h]
  have hjl := joinL_len (encW gen b l)
  have hsp := split_join (encW gen b l) hW
  have hse : splitErr (joinL (encW gen b l)) = 0 := splitErr_ok _ (by omega) (by omega)
  obtain ⟨r1, r2, r3, r4⟩ := read_write gen b (rawsL b l) (rawsL_ok b hok) (fault_shape h) n0 n1
  rw [rawsL_len] at r1 r2 r3 r4
  have hwi := joinL_within (encW gen b l)
  rw [hL]
  have eW : writeTo gen b (rawsL b l) l.length = encW gen b l := rfl
  rw [eW] at r1 r2 r3 r4
  have r2' : readR (encW gen b l) = rawsL b l := by unfold readL at r2; rw [r1, if_pos rfl] at r2; exact r2
  have r3' : nth (encW gen b l) 2 = gen := by unfold readAt at r3; rw [r1, if_pos rfl] at r3; exact r3
  have r4' : nth (encW gen b l) 3 = b := by unfold readAt at r4; rw [r1, if_pos rfl] at r4; exact r4
  generalize encW gen b l = zs at *
  have hI : ∀ p ∈ rest zs 5, ∃ x ∈ l, rawAt zs p = (x.1, rawWs x b) ∧ instAt zs b p = (x, 0) := fun p hp => by
    have : rawAt zs p ∈ readR zs := List.mem_map.2 ⟨p, hp, rfl⟩
    rw [r2'] at this
    obtain ⟨x, hx, e⟩ := List.mem_map.1 this
    obtain ⟨k, hk, rfl⟩ := List.mem_iff_getElem.1 hx
    have he := shape_each h k hk
    rw [nthI_lt _ _ hk] at he
    refine ⟨l[k], hx, e.symm, ?_⟩
    unfold instAt
    rw [← e]
    exact instI_words he (Int.le_refl _)
  have hall : ∀ p ∈ rest zs 5, (instAt zs b p).2 = 0 := fun p hp => by
    obtain ⟨x, _, _, e⟩ := hI p hp
    rw [e]
  have hD : decE (joinL zs) = (0, 0) := by
    unfold decE
    rw [if_neg (by simp [hse]), hsp, if_neg (by simp [r1]), r4']
    exact decF_all _ _ _ hall
  have hD2 : decL (joinL zs) = l := by
    unfold decL
    rw [hD, if_pos rfl, hsp, r4']
    have e1 : instsAt zs b (rest zs 5) = (readR zs).map fun r => (instI r.1 r.2 b).1 := by
      unfold instsAt readR
      rw [List.map_map]
      rfl
    rw [e1, r2']
    unfold rawsL
    rw [List.map_map]
    refine List.ext_getElem (by simp) fun k h1 h2 => ?_
    rw [List.getElem_map]
    have he := shape_each h k h2
    rw [nthI_lt _ _ h2] at he
    simp only [Function.comp]
    rw [instI_words he (Int.le_refl _)]
  refine ⟨hD, hD2, ?_, ?_, by omega, hwi⟩
  · unfold decH; rw [hD, if_pos rfl, hsp, r3']
  · unfold decH; rw [hD, if_pos rfl, hsp, r4']

end Go.Proofs.Ytpggcpnjcalfaab

/-
  The law CodeUnlike answers true, for every two modules.
-/
namespace Go.Proofs.Ytpggcpnjcalfaab
open Go.RowKit Go.Shelf
attribute [local go_sem] Oper.semAt_some
set_option linter.unusedVariables false
set_option linter.unusedSimpArgs false

/-- Modules of good shape with the same bytes are the same. -/
theorem enc_inj {g1 b1 g2 b2 : Int} {l1 l2 : List InstT} (h1 : 0 ≤ g1 ∧ g1 < 4294967296 ∧ 0 ≤ b1 ∧ b1 < 4294967296) (h2 : 0 ≤ g2 ∧ g2 < 4294967296 ∧ 0 ≤ b2 ∧ b2 < 4294967296) (k1 : InstsOk l1) (k2 : InstsOk l2) (e1 : (shapeE b1 l1).1 = 0) (e2 : (shapeE b2 l2).1 = 0) : encL g1 b1 l1 = encL g2 b2 l2 ↔ (g1 = g2 ∧ b1 = b2 ∧ l1 = l2) := by
  constructor
  · intro h
    obtain ⟨_, p2, p3, p4, _⟩ := dec_enc h1.1 h1.2.1 h1.2.2.1 h1.2.2.2 k1 e1
    obtain ⟨_, q2, q3, q4, _⟩ := dec_enc h2.1 h2.2.1 h2.2.2.1 h2.2.2.2 k2 e2
    rw [h] at p2 p3 p4
    exact ⟨p3.symm.trans q3, p4.symm.trans q4, p2.symm.trans q2⟩
  · rintro ⟨rfl, rfl, rfl⟩; rfl

set_option maxRecDepth 100000 in
set_option maxHeartbeats 8000000 in
theorem codeUnlike_any (w : World) (g1 b1 : Int) (a1 : Option Addr) (n1 c1 : Nat) (l1 : List InstT) (hl1 : l1.length = n1) (hv1 : InstsV w a1 l1) (hok1 : InstsOk l1) (hr1 : 40 * n1 ≤ 140737488351232) (hc1 : n1 ≤ c1) (hgb1 : 0 ≤ g1 ∧ g1 < 4294967296 ∧ 0 ≤ b1 ∧ b1 < 4294967296) (g2 b2 : Int) (a2 : Option Addr) (n2 c2 : Nat) (l2 : List InstT) (hl2 : l2.length = n2) (hv2 : InstsV w a2 l2) (hok2 : InstsOk l2) (hr2 : 40 * n2 ≤ 140737488351232) (hc2 : n2 ≤ c2) (hgb2 : 0 ≤ g2 ∧ g2 < 4294967296 ∧ 0 ≤ b2 ∧ b2 < 4294967296) (s1 s2 : Int × Nat) (hs1 : s1 = shapeE b1 l1) (hs2 : s2 = shapeE b2 l2) (hcase : (s1.1 ≠ 0) ∨ (s1 = (0, 0) ∧ s2.1 ≠ 0) ∨ (s1 = (0, 0) ∧ s2 = (0, 0))) :
    Calls Try.prog 4 #[modV g1 b1 a1 n1 c1, modV g2 b2 a2 n2 c2] w fun e w' => e = .returned (.bool true) ∧ Below w.heap.size w w' := by
  have hCp1 := fun wx (hb : Below w.heap.size w wx) => copyModule_any g1 b1 a1 n1 c1 l1 wx (hv1.below hb) hok1 hl1 hr1
  have hCp2 := fun wx (hb : Below w.heap.size w wx) => copyModule_any g2 b2 a2 n2 c2 l2 wx (hv2.below hb) hok2 hl2 hr2
  have hEn1 := fun wx g c (h : InstsV wx (some ⟨g, 0, none⟩) l1) => encode_any g1 b1 (some ⟨g, 0, none⟩) n1 c l1 wx hgb1.1 hgb1.2.1 hgb1.2.2.1 hgb1.2.2.2 h hok1 hl1 hr1
  have hEn2 := fun wx g c (h : InstsV wx (some ⟨g, 0, none⟩) l2) => encode_any g2 b2 (some ⟨g, 0, none⟩) n2 c l2 wx hgb2.1 hgb2.2.1 hgb2.2.2.1 hgb2.2.2.2 h hok2 hl2 hr2
  have hInj := enc_inj (g1 := g1) (b1 := b1) (g2 := g2) (b2 := b2) hgb1 hgb2 hok1 hok2
  rw [← hs1] at hEn1 hInj
  rw [← hs2] at hEn2 hInj
  have hBy := fun wx ax ay m1 m2 (h1 : View .u8 wx ax (encL g1 b1 l1)) (h2 : View .u8 wx ay (encL g2 b2 l2)) (hm1 : (encL g1 b1 l1).length = m1) (hm2 : (encL g2 b2 l2).length = m2) (k1 : m1 ≤ 140737488351232) (k2 : m2 ≤ 140737488351232) (r : Bool) (hr : r = true ↔ encL g1 b1 l1 = encL g2 b2 l2) => bytes_any ax ay m1 m2 m1 m2 (encL g1 b1 l1) (encL g2 b2 l2) wx h1 h2 hm1 hm2 k1 k2 r hr
  have hMo := fun wx (hb : Below w.heap.size w wx) (r : Bool) (hr : r = true ↔ (g1 = g2 ∧ b1 = b2 ∧ l1 = l2)) => kitModule_any g1 b1 g2 b2 l1 l2 a1 a2 n1 n2 c1 c2 wx (hv1.below hb) (hv2.below hb) hl1 hl2 hok1 hok2 (by omega) (by omega) r hr
  have hsm1 : s1 = (0, 0) → (encL g1 b1 l1).length ≤ 4194304 := fun h => by
    have h0 : (shapeE b1 l1).1 = 0 := by rw [← hs1, h]
    unfold encL; rw [if_pos h0, joinL_len]; have := (encW_len (gen := g1) h0).1; omega
  have hsm2 : s2 = (0, 0) → (encL g2 b2 l2).length ≤ 4194304 := fun h => by
    have h0 : (shapeE b2 l2).1 = 0 := by rw [← hs2, h]
    unfold encL; rw [if_pos h0, joinL_len]; have := (encW_len (gen := g2) h0).1; omega
  have hAw := fun w => awake4_true w
  have hmix : Try.prog.follows .mixedOrders = true := by kernel_rfl
  generalize encL g1 b1 l1 = bs1 at *
  generalize encL g2 b2 l2 = bs2 at *
  have HSM1 : Hid _ := hsm1
  have HSM2 : Hid _ := hsm2
  have HINJ : Hid _ := hInj
  have HCASE : Hid _ := hcase
  unfold modV at *
  clear hl1 hl2 hv1 hv2 hok1 hok2 hs1 hs2 hsm1 hsm2 hInj hcase
  obtain ⟨e1, x1⟩ := s1
  obtain ⟨e2, x2⟩ := s2
  simp only at *
  have hB0 : Below w.heap.size w ((w.alloc (.cells #[.int .u32 g1, .int .u32 b1, .slice a1 n1 c1] 25)).alloc (.cells #[.int .u32 g2, .int .u32 b2, .slice a2 n2 c2] 25)) := ((Below.refl _ w).alloc (Nat.le_refl _) _).alloc (by simp) _
  have k1 : ((w.alloc (.cells #[.int .u32 g1, .int .u32 b1, .slice a1 n1 c1] 25)).alloc (.cells #[.int .u32 g2, .int .u32 b2, .slice a2 n2 c2] 25)).heap[w.heap.size]? = some (.cells #[.int .u32 g1, .int .u32 b1, .slice a1 n1 c1] 25 (0, 0)) := (Below.heap_alloc _ _ _ (by simp)).trans (alloc_new w _ _)
  have k2 : ((w.alloc (.cells #[.int .u32 g1, .int .u32 b1, .slice a1 n1 c1] 25)).alloc (.cells #[.int .u32 g2, .int .u32 b2, .slice a2 n2 c2] 25)).heap[w.heap.size + 1]? = some (.cells #[.int .u32 g2, .int .u32 b2, .slice a2 n2 c2] 25 (0, 0)) := by simpa using alloc_new (w.alloc (.cells #[.int .u32 g1, .int .u32 b1, .slice a1 n1 c1] 25)) #[.int .u32 g2, .int .u32 b2, .slice a2 n2 c2] 25
  have hC := hCp1 _ hB0
  have HB0 : Hid _ := hB0
  have HK1 : Hid _ := k1
  have HK2 : Hid _ := k2
  clear hB0 k1 k2
  refine (callsIn_wide (n := 0)).1 ?_
  refine callsIn_of_wp_marks Try.func4 rfl trivial ?_ rfl
  simp only [Try.ntmps4, List.size_toArray, List.length_cons, List.length_nil, Nat.reduceAdd, Nat.reduceSub, Array.replicate_succ, Array.replicate_zero, List.push_toArray, List.append_toArray, List.nil_append, List.cons_append]
  gi_wp2_with fail
  have hB0 := HB0.out
  have k1 := HK1.out
  have k2 := HK2.out
  clear HB0 HK1 HK2
  generalize (w.alloc (.cells #[.int .u32 g1, .int .u32 b1, .slice a1 n1 c1] 25)).alloc (.cells #[.int .u32 g2, .int .u32 b2, .slice a2 n2 c2] 25) = W0 at *
  have l1' := (Array.getElem?_eq_some_iff.1 k1).1
  have l2' := (Array.getElem?_eq_some_iff.1 k2).1
  refine ⟨trivial, rfl, (callsIn_wide.2 hC).mono ?_⟩
  rintro e w1 ⟨p1, rfl, _, hV1, hb1⟩
  have hC2 := hEn1 w1 p1 n1 hV1
  clear hC hEn1 hV1
  gi_wp2_with fail
  refine ⟨trivial, rfl, (callsIn_wide.2 hC2).mono ?_⟩
  rintro e w2 ⟨hb2, ax, m1, rfl, hm1, hown1⟩
  have hb02 := hb1.trans (hb2.mono hb1.size)
  have hb3 : Below W0.heap.size W0 (w2.alloc (.cells #[.int .i64 e1, .int .i64 (x1 : Int)] 28)) := hb02.alloc hb02.size _
  have kS := alloc_new w2 #[.int .i64 e1, .int .i64 (x1 : Int)] 28
  obtain ⟨m3, _⟩ := one_block ((hb3.block _ l2').trans k2)
  have q0 := m3 0
  have q1 := m3 1
  have q2 := m3 2
  have HB3 : Hid _ := hB0.trans (hb3.mono hB0.size)
  have hC4 := hCp2 _ HB3.out
  have HKS : Hid _ := kS
  have HK1 : Hid _ := (hb3.block _ l1').trans k1
  have HK2 : Hid _ := (hb3.block _ l2').trans k2
  have HV1 : Hid (View .u8 _ ax bs1) := (View.ofOwn hown1 hm1).below ((Below.refl _ w2).alloc (Nat.le_refl _) (.cells #[.int .i64 e1, .int .i64 (x1 : Int)] 28))
  have HM1 : Hid (bs1.length = m1) := hm1
  clear hC2 hb1 hb2 hb02 hb3 hB0 k1 k2 kS m3 hown1 hm1 hCp1 hCp2
  gi_wp2_with fail
  have hB3 := HB3.out
  have kS := HKS.out
  have k1 := HK1.out
  have k2 := HK2.out
  have hV1 := HV1.out
  clear HB3 HKS HK1 HK2 HV1 q0 q1 q2
  generalize w2.alloc (.cells #[.int .i64 e1, .int .i64 (x1 : Int)] 28) = W3 at *
  have lS := (Array.getElem?_eq_some_iff.1 kS).1
  have l3 := (Array.getElem?_eq_some_iff.1 k1).1
  have l4 := (Array.getElem?_eq_some_iff.1 k2).1
  refine ⟨trivial, rfl, (callsIn_wide.2 hC4).mono ?_⟩
  rintro e w4 ⟨p4, rfl, _, hV4, hb4⟩
  have hC5 := hEn2 w4 p4 n2 hV4
  clear hC4 hEn2 hV4
  gi_wp2_with fail
  refine ⟨trivial, rfl, (callsIn_wide.2 hC5).mono ?_⟩
  rintro e w5 ⟨hb5, ay, m2, rfl, hm2, hown2⟩
  have hb35 := hb4.trans (hb5.mono hb4.size)
  have hb6 : Below W3.heap.size W3 (w5.alloc (.cells #[.int .i64 e2, .int .i64 (x2 : Int)] 28)) := hb35.alloc hb35.size _
  have kT := alloc_new w5 #[.int .i64 e2, .int .i64 (x2 : Int)] 28
  obtain ⟨s0, _, _⟩ := cell_of_two ((hb6.block _ lS).trans kS)
  obtain ⟨t0, _, _⟩ := cell_of_two kT
  have HB6 : Hid _ := hB3.trans (hb6.mono hB3.size)
  have HK1 : Hid _ := (hb6.block _ l3).trans k1
  have HK2 : Hid _ := (hb6.block _ l4).trans k2
  have HV1 : Hid (View .u8 _ ax bs1) := hV1.below hb6
  have HV2 : Hid (View .u8 _ ay bs2) := (View.ofOwn hown2 hm2).below ((Below.refl _ w5).alloc (Nat.le_refl _) (.cells #[.int .i64 e2, .int .i64 (x2 : Int)] 28))
  have HM2 : Hid (bs2.length = m2) := hm2
  clear hC5 hb4 hb5 hb35 hb6 hB3 kS kT k1 k2 hown2 hm2 hV1
  have hcs := HCASE.out
  generalize (x1 : Int) = y1 at *
  generalize (x2 : Int) = y2 at *
  rcases hcs with h1 | ⟨h1, h2⟩ | ⟨h1, h2⟩
  · have heb : (e1 == 0) = false := by simpa using h1
    clear h1 HCASE HINJ HSM1 HSM2 hMo hBy
    gi_wp2_with fail
    refine ⟨trivial, rfl, (callsIn_wide.2 (hAw _)).mono ?_⟩
    rintro e y4 ⟨rfl, hb7⟩
    have HBF : Hid _ := HB6.out.trans (hb7.mono HB6.out.size)
    clear HB6 hb7 s0 t0
    gi_wp2_with fail
    exact ⟨.bool true, by simp [results, Try.results4, go_sem], rfl, HBF.out⟩
  · obtain rfl : e1 = 0 := congrArg Prod.fst h1
    have heb : (e2 == 0) = false := by simpa using h2
    clear h1 h2 HCASE HINJ HSM1 HSM2 hMo hBy
    gi_wp2_with fail
    refine ⟨trivial, rfl, (callsIn_wide.2 (hAw _)).mono ?_⟩
    rintro e y4 ⟨rfl, hb7⟩
    have HBF : Hid _ := HB6.out.trans (hb7.mono HB6.out.size)
    clear HB6 hb7 s0 t0
    gi_wp2_with fail
    exact ⟨.bool true, by simp [results, Try.results4, go_sem], rfl, HBF.out⟩
  · have z1 := HSM1.out h1
    have z2 := HSM2.out h2
    obtain rfl : e1 = 0 := congrArg Prod.fst h1
    obtain rfl : e2 = 0 := congrArg Prod.fst h2
    obtain ⟨r, hr⟩ : ∃ r : Bool, r = true ↔ (g1 = g2 ∧ b1 = b2 ∧ l1 = l2) := (Classical.em (g1 = g2 ∧ b1 = b2 ∧ l1 = l2)).elim (fun h => ⟨true, fun _ => h, fun _ => rfl⟩) (fun h => ⟨false, (fun e => by cases e), fun e => absurd e h⟩)
    have hr2 : r = true ↔ bs1 = bs2 := hr.trans (HINJ.out rfl rfl).symm
    rw [HM1.out] at z1
    rw [HM2.out] at z2
    clear HCASE HINJ HSM1 HSM2
    gi_wp2_with fail
    have hB := HB6.out
    have k1 := HK1.out
    have k2 := HK2.out
    have hV1 := HV1.out
    have hV2 := HV2.out
    clear HB6 HK1 HK2 HV1 HV2 s0 t0
    clear h1 h2
    generalize w5.alloc (.cells #[.int .i64 0, .int .i64 y2] 28) = W at *
    have l5 := (Array.getElem?_eq_some_iff.1 k1).1
    have l6 := (Array.getElem?_eq_some_iff.1 k2).1
    have hC0 : Below W.heap.size W W.drew := below_drew W
    have L1 : Hid (∀ w', Below W.heap.size W w' → w'.cell? ⟨w.heap.size, 0, none⟩ = some (.int .u32 g1) ∧ w'.cell? ⟨w.heap.size, 1, none⟩ = some (.int .u32 b1) ∧ w'.cell? ⟨w.heap.size, 2, none⟩ = some (.slice a1 n1 c1)) := fun w' hC => by
      obtain ⟨hc, _⟩ := one_block ((hC.block _ l5).trans k1)
      exact ⟨hc 0, hc 1, hc 2⟩
    have L2 : Hid (∀ w', Below W.heap.size W w' → w'.cell? ⟨w.heap.size + 1, 0, none⟩ = some (.int .u32 g2) ∧ w'.cell? ⟨w.heap.size + 1, 1, none⟩ = some (.int .u32 b2) ∧ w'.cell? ⟨w.heap.size + 1, 2, none⟩ = some (.slice a2 n2 c2)) := fun w' hC => by
      obtain ⟨hc, _⟩ := one_block ((hC.block _ l6).trans k2)
      exact ⟨hc 0, hc 1, hc 2⟩
    refine wpIn_normal (wpIn_region_any hmix (wpAnyC_sound (C := Below W.heap.size W) _ _ _ _ ?_))
    change wpAnyC _ _ _ _ _ _ _ _ _ _ (World.drew _)
    refine wpAnyC_takeD (i := 0) (some 30) (v := .slice ax m1 m1) (fun _ => trivial) (by kernel_rfl) rfl rfl (by kernel_rfl) (by kernel_rfl) (by kernel_rfl) (fun _ _ _ h => by cases h.1) hC0 (Or.inl ⟨by kernel_rfl, fun w' hC => by clear hC; go_simp⟩) ?_
    simp only [Act.put, List.setIfInBounds_toArray, List.set_cons_succ, List.set_cons_zero]
    refine wpAnyC_takeD (i := 1) (some 31) (v := .slice ay m2 m2) (fun _ => trivial) (by kernel_rfl) rfl rfl (by kernel_rfl) (by kernel_rfl) (by kernel_rfl) (fun _ _ _ h => by cases h.1) hC0 (Or.inl ⟨by kernel_rfl, fun w' hC => by clear hC; go_simp⟩) ?_
    simp only [Act.put, List.setIfInBounds_toArray, List.set_cons_succ, List.set_cons_zero]
    refine wpAnyC_takeD (i := 3) (some 33) (v := .agg #[.int .u32 g1, .int .u32 b1, .slice a1 n1 c1]) (fun _ => trivial) (by kernel_rfl) rfl rfl (by kernel_rfl) (by kernel_rfl) (by kernel_rfl) (fun _ _ _ h => by cases h.1) hC0 (Or.inl ⟨by kernel_rfl, fun w' hC => by obtain ⟨e0, e1, e2⟩ := L1.out w' hC; clear hC; go_simp⟩) ?_
    simp only [Act.put, List.setIfInBounds_toArray, List.set_cons_succ, List.set_cons_zero]
    refine wpAnyC_takeD (i := 4) (some 34) (v := .agg #[.int .u32 g2, .int .u32 b2, .slice a2 n2 c2]) (fun _ => trivial) (by kernel_rfl) rfl rfl (by kernel_rfl) (by kernel_rfl) (by kernel_rfl) (fun _ _ _ h => by cases h.1) hC0 (Or.inl ⟨by kernel_rfl, fun w' hC => by obtain ⟨e0, e1, e2⟩ := L2.out w' hC; clear hC; go_simp⟩) ?_
    simp only [Act.put, List.setIfInBounds_toArray, List.set_cons_succ, List.set_cons_zero]
    refine wpAnyC_ready (rs := [2]) (by kernel_rfl) (by simp) ?_
    refine AllC.cons rfl (fun K hK => ?_) AllC.nil
    go_simp
    refine ⟨trivial, rfl, (callsIn_wide.2 (hBy _ _ _ _ _ (hV1.below hC0) (hV2.below hC0) HM1.out HM2.out (by omega) (by omega) r hr2)).mono ?_⟩
    rintro e y1 ⟨rfl, q, hq⟩
    dsimp only
    have hC1 : Below W.heap.size W y1 := by rw [hq]; exact bel_drewN hC0 q
    refine hK _ _ hC1 ?_
    clear hK K hq
    refine wpAnyC_ready (rs := [5]) (by kernel_rfl) (by simp) ?_
    refine AllC.cons rfl (fun K hK => ?_) AllC.nil
    go_simp
    refine ⟨trivial, rfl, (callsIn_wide.2 (hMo _ (hB.trans (hC1.mono hB.size)) r hr)).mono ?_⟩
    rintro e y2 ⟨rfl, hb2'⟩
    dsimp only
    have hC2 : Below W.heap.size W y2 := hC1.trans (hb2'.mono hC1.size)
    refine hK _ _ hC2 ?_
    clear hK K hb2'
    refine wpAnyC_takeD (i := 6) (some 36) (v := .bool true) (fun _ => trivial) (by kernel_rfl) rfl rfl (by kernel_rfl) (by kernel_rfl) (by kernel_rfl) (fun _ _ _ h => by cases h.1) hC2 (Or.inl ⟨by kernel_rfl, fun w' hC => by clear hC; go_simp⟩) ?_
    simp only [Act.put, List.setIfInBounds_toArray, List.set_cons_succ, List.set_cons_zero]
    refine wpAnyC_takeD (i := 7) (some 37) (v := .bool true) (fun _ => trivial) (by kernel_rfl) rfl rfl (by kernel_rfl) (by kernel_rfl) (by kernel_rfl) (fun _ _ _ h => by cases h.1) hC2 (Or.inl ⟨by kernel_rfl, fun w' hC => by clear hC; go_simp⟩) ?_
    simp only [Act.put, List.setIfInBounds_toArray, List.set_cons_succ, List.set_cons_zero]
    refine wpAnyC_ready (rs := [8]) (by kernel_rfl) (by simp) ?_
    refine AllC.cons rfl (fun K hK => ?_) AllC.nil
    go_simp
    refine ⟨trivial, rfl, (callsIn_wide.2 (hAw _)).mono ?_⟩
    rintro e y4 ⟨rfl, hb4'⟩
    dsimp only
    have hC4 : Below W.heap.size W y4 := hC2.trans (hb4'.mono hC2.size)
    refine hK _ _ hC4 ?_
    clear hK K hb4'
    refine wpAnyC_takeD (i := 9) (some 39) (v := .bool true) (fun _ => trivial) (by kernel_rfl) rfl rfl (by kernel_rfl) (by kernel_rfl) (by kernel_rfl) (fun _ _ _ h => by cases h.1) hC4 (Or.inl ⟨by kernel_rfl, fun w' hC => by clear hC; go_simp⟩) ?_
    simp only [Act.put, List.setIfInBounds_toArray, List.set_cons_succ, List.set_cons_zero]
    refine wpAnyC_takeD (i := 10) (some 4) (v := .bool true) (fun _ => trivial) (by kernel_rfl) rfl rfl (by kernel_rfl) (by kernel_rfl) (by kernel_rfl) (fun _ _ _ h => by cases h.1) hC4 (Or.inl ⟨by kernel_rfl, fun w' hC => by clear hC; go_simp⟩) ?_
    simp only [Act.put, List.setIfInBounds_toArray, List.set_cons_succ, List.set_cons_zero]
    refine wpAnyC_done (by kernel_rfl) ⟨rfl, ?_⟩ _
    have HBF : Hid _ := hB.trans (hC4.mono hB.size)
    clear hC0 hC1 hC2 hC4 hB hV1 hV2 k1 k2
    gi_wp2_with fail
    exact ⟨.bool true, by simp [results, Try.results4, go_sem], rfl, HBF.out⟩

theorem codeUnlike_true (w : World) (g1 b1 : Int) (a1 : Option Addr) (n1 c1 : Nat) (l1 : List InstT) (hl1 : l1.length = n1) (hv1 : InstsV w a1 l1) (hok1 : InstsOk l1) (hr1 : 40 * n1 ≤ 140737488351232) (hc1 : n1 ≤ c1) (hgb1 : 0 ≤ g1 ∧ g1 < 4294967296 ∧ 0 ≤ b1 ∧ b1 < 4294967296) (g2 b2 : Int) (a2 : Option Addr) (n2 c2 : Nat) (l2 : List InstT) (hl2 : l2.length = n2) (hv2 : InstsV w a2 l2) (hok2 : InstsOk l2) (hr2 : 40 * n2 ≤ 140737488351232) (hc2 : n2 ≤ c2) (hgb2 : 0 ≤ g2 ∧ g2 < 4294967296 ∧ 0 ≤ b2 ∧ b2 < 4294967296) :
    Calls Try.prog 4 #[modV g1 b1 a1 n1 c1, modV g2 b2 a2 n2 c2] w fun e w' => e = .returned (.bool true) ∧ Below w.heap.size w w' := by
  refine codeUnlike_any w g1 b1 a1 n1 c1 l1 hl1 hv1 hok1 hr1 hc1 hgb1 g2 b2 a2 n2 c2 l2 hl2 hv2 hok2 hr2 hc2 hgb2 _ _ rfl rfl ?_
  rcases shapeE_any b1 l1 with h | h
  · rcases shapeE_any b2 l2 with h2 | h2
    · exact .inr (.inr ⟨h, h2⟩)
    · exact .inr (.inl ⟨h, h2⟩)
  · exact .inl h

end Go.Proofs.Ytpggcpnjcalfaab
