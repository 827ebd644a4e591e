/-
  Texts laid together in one: ArgInsts, ArgRawN, KitCopyWords, Ref01Text2, Ref03Letter, Ref04Heads, Ref04Argument.
-/
import Derived.ProofKit
import Derived.OpenShut
import Derived.SizedLaws
import Derived.Deep.Slices
import Derived.Deep.SlicePairs
import Derived.Lib.SmallJoins
import Derived.Test.YtccllonkhklldacProg
import Derived.Test.YtccllonkhklldacB01
import Derived.WalkSpells
import Derived.Deep.QuietTactic
import Derived.BigQuiet
import Derived.Test.YtccllonkhklldacB08
import Derived.Test.YtccllonkhklldacB09
import Derived.WalkMore
import Derived.Test.YtccllonkhklldacB05
import Derived.Test.YtccllonkhklldacB07
import Derived.Test.YtccllonkhklldacB06
/-
  What an argument that is an instruction, or a slice of instructions, holds: all within their bounds, each list within the reach of memory.
-/
namespace Go.Proofs.Ytccllonkhklldac
open Go.ChangeShapes Go.WideShapes Go.ChangeAt Go.RowKit
set_option maxRecDepth 100000

theorem ArgInsts.cellsA : Try.prog.cellsOf 54 = 3 := by kernel_rfl
theorem ArgInsts.cells8 : Try.prog.cellsOf 5 = 1 := by kernel_rfl
theorem ArgInsts.cells32 : Try.prog.cellsOf 22 = 1 := by kernel_rfl
theorem ArgInsts.cellsS : Try.prog.cellsOf 9 = 1 := by kernel_rfl
theorem ArgInsts.bytesA : Try.prog.bytesOf 54 = 24 := by kernel_rfl
theorem ArgInsts.cells16 : Try.prog.cellsOf 52 = 1 := by kernel_rfl
theorem ArgInsts.cellsL : Try.prog.cellsOf 56 = 1 := by kernel_rfl

theorem ArgInsts.cellsI : Try.prog.cellsOf 58 = 4 := by kernel_rfl
theorem ArgInsts.bytesI : Try.prog.bytesOf 58 = 40 := by kernel_rfl

theorem weightsIn {H : Type} {P : Program} {e : TypeId} : ∀ {l : List (DataW H)} {d : DataW H}, d ∈ l → ∀ n ∈ d.weights P e, n ∈ DataW.weightsAll P e l
  | d0 :: l, d, hd, n, hn => by
    simp only [DataW.weightsAll, List.mem_append]
    rcases List.mem_cons.1 hd with rfl | h
    · exact Or.inl hn
    · exact Or.inr (weightsIn h n hn)

theorem argsV_mk {w : World} {x : Addr} {n : Nat} {f : Nat → ArgT} (h : ∀ i, i < n → w.cell? (x.add (i * 3)) = some (.int .u8 (f i).1) ∧ w.cell? (x.add (i * 3 + 1)) = some (.int .u32 (f i).2.1) ∧ w.cell? (x.add (i * 3 + 2)) = some (.string (f i).2.2)) : ArgsV w (some x) ((List.range n).map f) := by
  intro j hj
  rw [List.length_map, List.length_range] at hj
  have h0 := (h 0 (by omega)).1
  obtain ⟨b, off, spot⟩ := x
  have hs : spot = none := by simpa [Addr.add] using World.cell?_spot h0
  subst hs
  obtain ⟨h1, h2, h3⟩ := h j hj
  rw [Addr.add_lit] at h1 h2 h3
  have e : nthA ((List.range n).map f) j = f j := by simp [nthA, List.getD, hj]
  rw [e]
  exact ⟨b, off, rfl, World.block_lt_of_cell? _ _ h1, h1, by rw [Nat.add_assoc]; exact h2, by rw [Nat.add_assoc]; exact h3⟩

set_option maxHeartbeats 1000000 in
theorem open_args {H : Type} {enc : TypeId × Value → H} {w : World} {base fuel : Nat} {held : Bool} {a : Option Addr} {len cap : Nat} {d : DataW H} {ps : List MemPlace}
    (hf : DataW.trod enc Try.prog w base (fun _ => true) held fuel 56 [.slice a len cap] = some (d, ps)) (hs : ∀ n ∈ d.weights Try.prog 56, n ≤ reachBytes) :
    ∃ l : List ArgT, l.length = len ∧ ArgsV w a l ∧ ArgsOk l ∧ 24 * len ≤ 140737488351232 ∧ len ≤ cap := by
  rcases Go.Deep.open_slice Try.underlying56 hf with ⟨hcs, _⟩ | ⟨x, l, c, mm, nn, D, Pl, hcs, _, hl, hm, hmm, hx, hall⟩
  · simp at hcs
    obtain ⟨rfl, rfl, rfl⟩ := hcs
    exact ⟨[], rfl, argsV_nil, argsOk_nil, by omega, by omega⟩
  · simp at hcs
    obtain ⟨rfl, rfl, rfl⟩ := hcs
    simp only [Prod.mk.injEq] at hx
    obtain ⟨rfl, rfl⟩ := hx
    simp only [if_true] at hmm
    subst hmm
    have hs0 := hs ((((List.range len).map D).length + ((List.range (mm - len)).map fun j => D (len + j)).length) * Try.prog.bytesOf 54) (by simp [DataW.weights, Try.underlying56])
    rw [ArgInsts.bytesA] at hs0
    simp only [List.length_map, List.length_range, reachBytes] at hs0
    have key : ∀ i, i < len → ∃ r : ArgT, w.cell? (x.add (i * 3)) = some (.int .u8 r.1) ∧ w.cell? (x.add (i * 3 + 1)) = some (.int .u32 r.2.1) ∧ w.cell? (x.add (i * 3 + 2)) = some (.string r.2.2) ∧ ArgOk r := by
      intro i hi
      obtain ⟨cs, hc, ht⟩ := hall i (by omega)
      rw [ArgInsts.cellsA] at hc
      obtain ⟨_, hlen, hcell⟩ := World.cells?_some hc
      obtain ⟨xs, k, _, hxy, _, hxl, hfl⟩ := DataW.trod_struct Try.underlying54 ht
      have g0 := hfl 0 _ rfl
      have g1 := hfl 1 _ rfl
      have g2 := hfl 2 _ rfl
      match xs, hxl, cs, hlen with
      | [y0, y1, y2], _, [v0, v1, v2], _ =>
        have e0 := hcell 0 (by omega)
        have e1 := hcell 1 (by omega)
        have e2 := hcell 2 (by omega)
        rw [Go.Deep.add_add] at e0 e1 e2
        simp [ArgInsts.cells8, ArgInsts.cells32, ArgInsts.cellsS] at g0 g1 g2 e0 e1 e2
        obtain ⟨n0, q0, _, w0⟩ := DataW.trod_int Try.underlying5 g0
        obtain ⟨n1, q1, _, w1⟩ := DataW.trod_int Try.underlying22 g1
        obtain ⟨s2, q2, q3⟩ := DataW.trod_string Try.underlying9 g2
        simp at q0 q1 q2
        subst q0; subst q1; subst q2
        have b0 := bounds_u8 w0
        have b1 := bounds_u32 w1
        refine ⟨(n0, n1, s2), by simpa using e0, e1, e2, ?_⟩
        have hs2 := hs s2.size (by
          have hmem : D i ∈ (List.range len).map D := List.mem_map.2 ⟨i, List.mem_range.2 hi, rfl⟩
          simp only [DataW.weights, Try.underlying56, List.mem_cons, List.mem_append]
          refine Or.inr (Or.inl (weightsIn hmem _ ?_))
          simp only [Prod.mk.injEq] at hxy
          rw [hxy.1]
          simp only [DataW.weights, Try.underlying54]
          refine DataW.weights_mem_each (j := 2) rfl rfl _ ?_
          simp_all [DataW.weights])
        simp only [reachBytes] at hs2
        exact ⟨by simp; omega, by simp; omega, by simp; omega, by simp; omega, hs2⟩
    let f : Nat → ArgT := fun i => if h : i < len then Classical.choose (key i h) else noArg
    have hf' : ∀ i (h : i < len), f i = Classical.choose (key i h) := fun i h => dif_pos h
    refine ⟨(List.range len).map f, by simp, argsV_mk (fun i hi => ?_), fun j hj => ?_, by omega, hl⟩
    · rw [hf' i hi]
      obtain ⟨h1, h2, h3, _⟩ := Classical.choose_spec (key i hi)
      exact ⟨h1, h2, h3⟩
    · rw [List.length_map, List.length_range] at hj
      have e : nthA ((List.range len).map f) j = f j := by simp [nthA, List.getD, hj]
      rw [e, hf' j hj]
      exact (Classical.choose_spec (key j hj)).2.2.2

theorem open_inst {H : Type} {enc : TypeId × Value → H} {w : World} {b0 base : Nat} {held : Bool} {v : Value} {d : DataW H} {ps : List MemPlace}
    (hv : Value.okWide Try.prog w .any b0 58 v) (h : DataW.Trod enc Try.prog w base (fun _ => true) held 58 v d ps) (hs : ∀ n ∈ d.weights Try.prog 58, n ≤ reachBytes) :
    ∃ (x : InstT) (a : Option Addr) (n c : Nat), v = instV x a n c ∧ x.2.2.2.length = n ∧ InstOk x ∧ ArgsV w a x.2.2.2 ∧ n ≤ c := by
  obtain ⟨v0, v1, v2, v3, y0, y1, y2, y3, m, rfl, rfl, _, t0, t1, t2, t3⟩ := Go.Joins.open_agg4 Try.underlying58 (by kernel_rfl) (by kernel_rfl) hv h
  obtain ⟨n0, e0, _, w0⟩ := DataW.trod_int Try.underlying52 t0
  obtain ⟨n1, e1, _, w1⟩ := DataW.trod_int Try.underlying22 t1
  obtain ⟨n2, e2, _, w2⟩ := DataW.trod_int Try.underlying22 t2
  simp at e0 e1 e2
  subst e0; subst e1; subst e2
  have b0 := bounds_u16 w0
  have b1 := bounds_u32 w1
  have b2 := bounds_u32 w2
  obtain ⟨a, n, c, rfl⟩ : ∃ a n c, v3 = .slice a n c := by
    rcases Go.Deep.open_slice Try.underlying56 t3 with ⟨hcs, _⟩ | ⟨x, l, c, mm, nn, D, Pl, hcs, _⟩
    · simp at hcs; exact ⟨_, _, _, hcs⟩
    · simp at hcs; exact ⟨_, _, _, hcs⟩
  obtain ⟨l, hl, hv3, hok, hr, hc⟩ := open_args t3 (fun k hk => hs k (by
    simp only [DataW.weights, Try.underlying58]
    exact DataW.weights_mem_each (j := 3) rfl rfl _ hk))
  exact ⟨(n0, n1, n2, l), a, n, c, rfl, hl, ⟨by simp; omega, by simp; omega, by simp; omega, by simp; omega, by simp; omega, by simp; omega, hok, by rw [hl]; exact hr⟩, hv3, hc⟩

theorem instsV_mk {w : World} {x : Addr} {n : Nat} {f : Nat → InstT} (h : ∀ i, i < n → w.cell? (x.add (i * 4)) = some (.int .u16 (f i).1) ∧ w.cell? (x.add (i * 4 + 1)) = some (.int .u32 (f i).2.1) ∧ w.cell? (x.add (i * 4 + 2)) = some (.int .u32 (f i).2.2.1) ∧
    ∃ aj cj, w.cell? (x.add (i * 4 + 3)) = some (.slice aj (f i).2.2.2.length cj) ∧ ArgsV w aj (f i).2.2.2 ∧ (f i).2.2.2.length ≤ cj) : InstsV w (some x) ((List.range n).map f) := by
  intro j hj
  rw [List.length_map, List.length_range] at hj
  have h0 := (h 0 (by omega)).1
  obtain ⟨b, off, spot⟩ := x
  have hs : spot = none := by simpa [Addr.add] using World.cell?_spot h0
  subst hs
  obtain ⟨h1, h2, h3, aj, cj, h4, h5, h6⟩ := h j hj
  rw [Addr.add_lit] at h1 h2 h3 h4
  have e : nthI ((List.range n).map f) j = f j := by simp [nthI, List.getD, hj]
  rw [e]
  exact ⟨b, off, aj, cj, _, rfl, World.block_lt_of_cell? _ _ h1, h1, by rw [Nat.add_assoc]; exact h2, by rw [Nat.add_assoc]; exact h3, by rw [Nat.add_assoc]; exact h4, rfl, h5, h6⟩

set_option maxHeartbeats 1000000 in
theorem open_insts {H : Type} {enc : TypeId × Value → H} {w : World} {base fuel : Nat} {held : Bool} {a : Option Addr} {len cap : Nat} {d : DataW H} {ps : List MemPlace}
    (hf : DataW.trod enc Try.prog w base (fun _ => true) held fuel 23 [.slice a len cap] = some (d, ps)) (hs : ∀ n ∈ d.weights Try.prog 23, n ≤ reachBytes) :
    ∃ l : List InstT, l.length = len ∧ InstsV w a l ∧ InstsOk l ∧ 40 * len ≤ 140737488351232 ∧ len ≤ cap := by
  rcases Go.Deep.open_slice Try.underlying23 hf with ⟨hcs, _⟩ | ⟨x, l, c, mm, nn, D, Pl, hcs, _, hl, hm, hmm, hx, hall⟩
  · simp at hcs
    obtain ⟨rfl, rfl, rfl⟩ := hcs
    exact ⟨[], rfl, instsV_nil, instsOk_nil, by omega, by omega⟩
  · simp at hcs
    obtain ⟨rfl, rfl, rfl⟩ := hcs
    simp only [Prod.mk.injEq] at hx
    obtain ⟨rfl, rfl⟩ := hx
    simp only [if_true] at hmm
    subst hmm
    have hs0 := hs ((((List.range len).map D).length + ((List.range (mm - len)).map fun j => D (len + j)).length) * Try.prog.bytesOf 58) (by simp [DataW.weights, Try.underlying23])
    rw [ArgInsts.bytesI] at hs0
    simp only [List.length_map, List.length_range, reachBytes] at hs0
    have key : ∀ i, i < len → ∃ r : InstT, w.cell? (x.add (i * 4)) = some (.int .u16 r.1) ∧ w.cell? (x.add (i * 4 + 1)) = some (.int .u32 r.2.1) ∧ w.cell? (x.add (i * 4 + 2)) = some (.int .u32 r.2.2.1) ∧
        (∃ aj cj, w.cell? (x.add (i * 4 + 3)) = some (.slice aj r.2.2.2.length cj) ∧ ArgsV w aj r.2.2.2 ∧ r.2.2.2.length ≤ cj) ∧ InstOk r := by
      intro i hi
      obtain ⟨cs, hc, ht⟩ := hall i (by omega)
      rw [ArgInsts.cellsI] at hc
      obtain ⟨_, hlen, hcell⟩ := World.cells?_some hc
      obtain ⟨xs, k, _, hxy, _, hxl, hfl⟩ := DataW.trod_struct Try.underlying58 ht
      have g0 := hfl 0 _ rfl
      have g1 := hfl 1 _ rfl
      have g2 := hfl 2 _ rfl
      have g3 := hfl 3 _ rfl
      match xs, hxl, cs, hlen with
      | [y0, y1, y2, y3], _, [v0, v1, v2, v3], _ =>
        have e0 := hcell 0 (by omega)
        have e1 := hcell 1 (by omega)
        have e2 := hcell 2 (by omega)
        have e3 := hcell 3 (by omega)
        rw [Go.Deep.add_add] at e0 e1 e2 e3
        simp [ArgInsts.cells16, ArgInsts.cells32, ArgInsts.cellsL] at g0 g1 g2 g3 e0 e1 e2 e3
        obtain ⟨n0, q0, _, w0⟩ := DataW.trod_int Try.underlying52 g0
        obtain ⟨n1, q1, _, w1⟩ := DataW.trod_int Try.underlying22 g1
        obtain ⟨n2, q2, _, w2⟩ := DataW.trod_int Try.underlying22 g2
        simp at q0 q1 q2
        subst q0; subst q1; subst q2
        have b0 := bounds_u16 w0
        have b1 := bounds_u32 w1
        have b2 := bounds_u32 w2
        obtain ⟨a, n, c, rfl⟩ : ∃ a n c, v3 = .slice a n c := by
          rcases Go.Deep.open_slice Try.underlying56 g3 with ⟨hcs, _⟩ | ⟨x, l, c, mm, nn, D, Pl, hcs, _⟩
          · simp at hcs; exact ⟨_, _, _, hcs⟩
          · simp at hcs; exact ⟨_, _, _, hcs⟩
        obtain ⟨l, hl, hv3, hok, hr, hc⟩ := open_args g3 (fun k hk => hs k (by
          have hmem : D i ∈ (List.range len).map D := List.mem_map.2 ⟨i, List.mem_range.2 hi, rfl⟩
          simp only [DataW.weights, Try.underlying23, List.mem_cons, List.mem_append]
          refine Or.inr (Or.inl (weightsIn hmem _ ?_))
          simp only [Prod.mk.injEq] at hxy
          rw [hxy.1]
          simp only [DataW.weights, Try.underlying58]
          exact DataW.weights_mem_each (j := 3) rfl rfl _ hk))
        subst hl
        exact ⟨(n0, n1, n2, l), by simpa using e0, e1, e2, ⟨a, c, e3, hv3, hc⟩, by simp; omega, by simp; omega, by simp; omega, by simp; omega, by simp; omega, by simp; omega, hok, hr⟩
    let f : Nat → InstT := fun i => if h : i < len then Classical.choose (key i h) else noInst
    have hf' : ∀ i (h : i < len), f i = Classical.choose (key i h) := fun i h => dif_pos h
    refine ⟨(List.range len).map f, by simp, instsV_mk (fun i hi => ?_), fun j hj => ?_, by omega, hl⟩
    · rw [hf' i hi]
      obtain ⟨h1, h2, h3, h4, _⟩ := Classical.choose_spec (key i hi)
      exact ⟨h1, h2, h3, h4⟩
    · rw [List.length_map, List.length_range] at hj
      have e : nthI ((List.range len).map f) j = f j := by simp [nthI, List.getD, hj]
      rw [e, hf' j hj]
      exact (Classical.choose_spec (key j hj)).2.2.2.2

theorem open_module {H : Type} {enc : TypeId × Value → H} {w : World} {b0 base : Nat} {held : Bool} {v : Value} {d : DataW H} {ps : List MemPlace}
    (hv : Value.okWide Try.prog w .any b0 25 v) (h : DataW.Trod enc Try.prog w base (fun _ => true) held 25 v d ps) (hs : ∀ n ∈ d.weights Try.prog 25, n ≤ reachBytes) :
    ∃ (gen bound : Int) (a : Option Addr) (n c : Nat) (l : List InstT), v = .agg #[.int .u32 gen, .int .u32 bound, .slice a n c] ∧ 0 ≤ gen ∧ gen < 4294967296 ∧ 0 ≤ bound ∧ bound < 4294967296 ∧ l.length = n ∧ InstsV w a l ∧ InstsOk l ∧ 40 * n ≤ 140737488351232 ∧ n ≤ c := by
  obtain ⟨v0, v1, v3, y0, y1, y3, m, rfl, rfl, _, t0, t1, t3⟩ := Go.Joins.open_agg3 Try.underlying25 (by kernel_rfl) (by kernel_rfl) hv h
  obtain ⟨n0, e0, _, w0⟩ := DataW.trod_int Try.underlying22 t0
  obtain ⟨n1, e1, _, w1⟩ := DataW.trod_int Try.underlying22 t1
  simp at e0 e1
  subst e0; subst e1
  have b0 := bounds_u32 w0
  have b1 := bounds_u32 w1
  obtain ⟨a, n, c, rfl⟩ : ∃ a n c, v3 = .slice a n c := by
    rcases Go.Deep.open_slice Try.underlying23 t3 with ⟨hcs, _⟩ | ⟨x, l, c, mm, nn, D, Pl, hcs, _⟩
    · simp at hcs; exact ⟨_, _, _, hcs⟩
    · simp at hcs; exact ⟨_, _, _, hcs⟩
  obtain ⟨l, hl, hv3, hok, hr, hc⟩ := open_insts t3 (fun k hk => hs k (by
    simp only [DataW.weights, Try.underlying25]
    exact DataW.weights_mem_each (j := 2) rfl rfl _ hk))
  exact ⟨n0, n1, a, n, c, l, rfl, by omega, by omega, by omega, by omega, hl, hv3, hok, hr, hc⟩

theorem open_raw {H : Type} {enc : TypeId × Value → H} {w : World} {b0 base : Nat} {held : Bool} {v : Value} {d : DataW H} {ps : List MemPlace}
    (hv : Value.okWide Try.prog w .any b0 62 v) (h : DataW.Trod enc Try.prog w base (fun _ => true) held 62 v d ps) (hs : ∀ n ∈ d.weights Try.prog 62, n ≤ reachBytes) :
    ∃ (op : Int) (a : Option Addr) (n c : Nat) (zs : List Int), v = .agg #[.int .u16 op, .slice a n c] ∧ 0 ≤ op ∧ op < 65536 ∧ zs.length = n ∧ View .u32 w a zs ∧ Within 4294967296 zs ∧ 4 * n ≤ 140737488351232 ∧ n ≤ c := by
  obtain ⟨v0, v1, y0, y1, m, rfl, rfl, _, t0, t1⟩ := Go.Joins.open_agg2 Try.underlying62 (by kernel_rfl) (by kernel_rfl) hv h
  obtain ⟨n0, e0, _, w0⟩ := DataW.trod_int Try.underlying52 t0
  simp at e0
  subst e0
  have b0 := bounds_u16 w0
  rcases open_ints Try.underlying60 Try.underlying22 ArgInsts.cells32 t1 with ⟨hcs, _⟩ | ⟨y, l, c, zs, hcs, _, hl1, hm1, hz1, hx1, hcell, hwz⟩
  · simp at hcs
    subst hcs
    exact ⟨n0, none, 0, 0, [], rfl, by omega, by omega, rfl, view_nil, within_nil, by omega, by omega⟩
  · simp at hcs
    subst hcs
    simp only [if_true] at hz1
    have hs1 := hs (((lits (H := H) .u32 (zs.take l)).length + (lits (H := H) .u32 (zs.drop l)).length) * Try.prog.bytesOf 22) (by
      simp only [DataW.weights, Try.underlying62]
      refine DataW.weights_mem_each (j := 1) rfl rfl _ ?_
      have : y1.1 = DataW.slice (lits .u32 (zs.take l)) (lits .u32 (zs.drop l)) := by rw [hx1]
      rw [this]
      simp [DataW.weights, Try.underlying60])
    rw [show Try.prog.bytesOf 22 = 4 by kernel_rfl] at hs1
    simp only [lits, List.length_map, List.length_take, List.length_drop, reachBytes] at hs1
    have hlen : (zs.take l).length = l := by rw [List.length_take]; omega
    exact ⟨n0, some y, l, c, zs.take l, rfl, by omega, by omega, hlen, view_take hcell (by omega), within_take fun z hz => by have := bounds_u32 (hwz z hz); omega, by omega, hl1⟩

end Go.Proofs.Ytccllonkhklldac

/-
  What an argument holds that is an instruction as words; of nil words the room too.
-/
namespace Go.Proofs.Ytccllonkhklldac
open Go.ChangeShapes Go.WideShapes Go.ChangeAt Go.RowKit
set_option maxRecDepth 100000

theorem open_rawn {H : Type} {enc : TypeId × Value → H} {w : World} {b0 base : Nat} {held : Bool} {v : Value} {d : DataW H} {ps : List MemPlace}
    (hv : Value.okWide Try.prog w .any b0 62 v) (h : DataW.Trod enc Try.prog w base (fun _ => true) held 62 v d ps) (hs : ∀ n ∈ d.weights Try.prog 62, n ≤ reachBytes) :
    ∃ (op : Int) (a : Option Addr) (n c : Nat) (zs : List Int), v = .agg #[.int .u16 op, .slice a n c] ∧ 0 ≤ op ∧ op < 65536 ∧ zs.length = n ∧ View .u32 w a zs ∧ Within 4294967296 zs ∧ 4 * n ≤ 140737488351232 ∧ (n ≤ c ∧ (a = none → c = 0)) := by
  obtain ⟨v0, v1, y0, y1, m, rfl, rfl, _, t0, t1⟩ := Go.Joins.open_agg2 Try.underlying62 (by kernel_rfl) (by kernel_rfl) hv h
  obtain ⟨n0, e0, _, w0⟩ := DataW.trod_int Try.underlying52 t0
  simp at e0
  subst e0
  have b0 := bounds_u16 w0
  rcases open_ints Try.underlying60 Try.underlying22 ArgInsts.cells32 t1 with ⟨hcs, _⟩ | ⟨y, l, c, zs, hcs, _, hl1, hm1, hz1, hx1, hcell, hwz⟩
  · simp at hcs
    subst hcs
    exact ⟨n0, none, 0, 0, [], rfl, by omega, by omega, rfl, view_nil, within_nil, by omega, by omega, fun _ => rfl⟩
  · simp at hcs
    subst hcs
    simp only [if_true] at hz1
    have hs1 := hs (((lits (H := H) .u32 (zs.take l)).length + (lits (H := H) .u32 (zs.drop l)).length) * Try.prog.bytesOf 22) (by
      simp only [DataW.weights, Try.underlying62]
      refine DataW.weights_mem_each (j := 1) rfl rfl _ ?_
      have : y1.1 = DataW.slice (lits .u32 (zs.take l)) (lits .u32 (zs.drop l)) := by rw [hx1]
      rw [this]
      simp [DataW.weights, Try.underlying60])
    rw [show Try.prog.bytesOf 22 = 4 by kernel_rfl] at hs1
    simp only [lits, List.length_map, List.length_take, List.length_drop, reachBytes] at hs1
    have hlen : (zs.take l).length = l := by rw [List.length_take]; omega
    exact ⟨n0, some y, l, c, zs.take l, rfl, by omega, by omega, hlen, view_take hcell (by omega), within_take fun z hz => by have := bounds_u32 (hwz z hz); omega, by omega, hl1, (fun h => by cases h)⟩

end Go.Proofs.Ytccllonkhklldac

/-
  CopyWords of the kit answers the words in new memory.
-/
namespace Go.Proofs.Ytccllonkhklldac
open Go.RowKit
set_option maxRecDepth 10000

theorem CopyWords.info : (Try.prog.info? 22).map (fun i => (i.zero, i.size, i.bytes)) = some (some (.int .u32 0), 1, 4) := by kernel_rfl

set_option maxHeartbeats 400000 in
theorem copyWords_any (a : Option Addr) (n cap : Nat) (zs : List Int) (w : World) (ha : View .u32 w a zs) (hl : zs.length = n) (hn : 4 * n ≤ 140737488351232) :
    Calls Try.prog 23 #[.slice a n cap] w fun e w' => e = .returned (.slice (some ⟨w.heap.size, 0, none⟩) n n) ∧
      w'.ownsRow w.heap.size 22 1 (.slice (some ⟨w.heap.size, 0, none⟩) n n) n (zs.map (Value.int .u32)) ∧ Below w.heap.size w w' := by
  obtain ⟨i0, hi, hz0, hz1, hz2⟩ := info_parts CopyWords.info
  have HL : Hid (zs.length = n) := hl
  clear hl
  go_enter Try.func23, Try.ntmps23
  go_wp2_with (at_make; refine wpList_make_full _ rfl _ _ 60 rfl w.heap.size 22 i0 (.int .u32 0) 1 Try.underlying60 hi hz0 hz1 _ _ _ _ n rfl rfl (by omega) (by omega) (by rw [hz2]; omega) (by unfold maxLen; omega) (Nat.le_refl _) ?_)
  intro w1 hown1 hgrow1
  have hb1 : Below w.heap.size w w1 := (Below.refl _ w).grown hgrow1 (Nat.le_refl _) (by simp)
  have hr1 := made_row zs hown1
  clear hown1 hgrow1
  go_wp2
  go_loopw [4] (fun i wr => ∃ k : Nat, k ≤ n ∧ i = .int .i64 k ∧ wr.ownsRow w.heap.size 22 1 (.slice (some ⟨w.heap.size, 0, none⟩) n n) n ((filled zs k n).map (Value.int .u32)) ∧ Below w.heap.size w wr)
    (fun i _ => n - (intOf i).toNat)
  case atStart => exact ⟨0, Nat.zero_le _, rfl, hr1, hb1⟩
  case round =>
    obtain ⟨k, hk, rfl, hown, hnx⟩ := hrel
    clear hr1 hb1
    by_cases hlt : k < n
    · obtain ⟨b, off, rfl, hbs, hc⟩ := ha k (by rw [HL.out]; exact hlt)
      obtain ⟨d1, d2, d3⟩ := fill_step hown hlt (by rw [HL.out]; exact hlt)
      have hcr : wr.cell? ⟨b, off + k, none⟩ = some (.int .u32 (nth zs k)) := (hnx.cell (p := ⟨b, off + k, none⟩) hbs).trans hc
      generalize nth zs k = x at hcr d3
      clear hc ha hown
      go_wp2
      go_roundw
      case rel => exact ⟨k + 1, by omega, by go_num, d3, hnx.setCell (Nat.le_refl _) _⟩
      case measure => simp [intOf]; omega
    · go_wp2
      go_ret
      obtain rfl : k = n := by omega
      rw [filled_whole zs k HL.out] at hown
      exact ⟨rfl, hown, hnx⟩

end Go.Proofs.Ytccllonkhklldac

/-
  What Text of the document's answer returns, as one function of the words.
-/
namespace Go.Proofs.Ytccllonkhklldac
open Go.RowKit
set_option maxRecDepth 10000

theorem refText_any (a : Option Addr) (n cap : Nat) (zs : List Int) (w : World) (ha : View .u32 w a zs) (hl : zs.length = n) (hw : Within 4294967296 zs) (hn : 4 * n ≤ 140737488351232) :
    Calls Try.prog 62 #[.slice a n cap] w fun e w' => e = .returned (.tuple #[.string (textI zs).1, .int .i64 (textI zs).2.1, .int .i64 (textI zs).2.2]) ∧ Below w.heap.size w w' := by
  have hj : (joinL zs).length = 4 * n := by rw [joinL_len, hl]
  by_cases h : (joinL zs).length ≤ zeroAt (joinL zs)
  · refine (refText_none a n cap zs w ha hl hw hn fun i hi => zeroAt_before _ _ (by omega) (by omega)).mono ?_
    rintro e w' ⟨rfl, rfl⟩
    refine ⟨?_, Below.refl _ _⟩
    rw [textI, if_pos h]
  · have hz : zeroAt (joinL zs) < (joinL zs).length := by omega
    have e4 : 4 * (zeroAt (joinL zs) / 4) + zeroAt (joinL zs) % 4 = zeroAt (joinL zs) := by omega
    by_cases hp : padBad (joinL zs) = true
    · have hp' := hp
      unfold padBad at hp'
      obtain ⟨x, hx, hne⟩ := List.any_eq_true.1 hp'
      obtain ⟨k, hk, rfl⟩ := List.mem_iff_getElem.1 hx
      rw [List.length_take, List.length_drop] at hk
      rw [List.getElem_take, List.getElem_drop] at hne
      refine (refText_pad a n cap zs w (zeroAt (joinL zs) / 4) (zeroAt (joinL zs) % 4) (zeroAt (joinL zs) + 1 + k) ha hl hw hn (by omega) (by omega) (fun i hi => zeroAt_before _ _ (by omega) (by omega)) (by rw [e4]; exact zeroAt_at _ hz) (by omega) (by omega) ?_).mono ?_
      · rw [nth_lt _ _ (by omega)]; simpa using hne
      · rintro e w' ⟨rfl, rfl⟩
        refine ⟨?_, Below.refl _ _⟩
        rw [textI, if_neg h, if_pos hp]
    · refine (refText_ok a n cap zs w (zeroAt (joinL zs) / 4) (zeroAt (joinL zs) % 4) ha hl hw hn (by omega) (by omega) (fun i hi => zeroAt_before _ _ (by omega) (by omega)) (by rw [e4]; exact zeroAt_at _ hz) ?_).mono ?_
      · intro i h1 h2
        have hi : i < (joinL zs).length := by omega
        apply Classical.byContradiction
        intro hne
        apply hp
        unfold padBad
        refine List.any_eq_true.2 ⟨nth (joinL zs) i, ?_, by simpa using hne⟩
        rw [nth_lt _ _ hi]
        refine List.mem_iff_getElem.2 ⟨i - zeroAt (joinL zs) - 1, ?_, ?_⟩
        · rw [List.length_take, List.length_drop]; omega
        · rw [List.getElem_take, List.getElem_drop]
          congr 1; omega
      · rintro e w' ⟨rfl, hb⟩
        refine ⟨?_, hb⟩
        rw [textI, if_neg h, if_neg hp, e4]

end Go.Proofs.Ytccllonkhklldac

/-
  What Letter of the document's answer returns, for every operation and number.
-/
namespace Go.Proofs.Ytccllonkhklldac
open Go.RowKit
set_option maxRecDepth 10000
set_option linter.unusedVariables false
set_option linter.unusedSimpArgs false

theorem ofV_look (n : Int) : ∃ m, ofV n = formV m (lookF refT n).1 := by
  unfold ofV
  cases h : (lookF refT n).2
  · rw [(lookF_false h).1]; exact ⟨0, rfl⟩
  · exact ⟨n, rfl⟩

theorem letterI_none (i : Int) : letterI noFrm i = 0 := by
  unfold letterI
  split
  · rfl
  · split
    · rename_i h1 h2
      have : (noFrm.2.2.2.1.size : Int) = 0 := rfl
      omega
    · have : mayB noFrm (i - noFrm.2.2.2.1.size) = false := rfl
      rw [this]; rfl

set_option maxRecDepth 10000 in
set_option maxHeartbeats 2000000 in
theorem refLetter_any (n i : Int) (w : World) (h1 : i < 9223372036854775808) :
    Calls Try.prog 43 #[.int .u16 n, .int .i64 i] w fun e w' => e = .returned (.int .u8 (letterI (lookF refT n).1 i)) ∧ Below w.heap.size w w' := by
  have hR := fun w => refOf_any n w
  obtain ⟨m, hm⟩ := ofV_look n
  rw [hm] at hR
  clear hm
  have hs := look_short n
  have HN : Hid ((lookF refT n).2 = false → (lookF refT n).1 = noFrm) := fun h => by rw [(lookF_false h).1]
  generalize (lookF refT n).1 = f at *
  generalize (lookF refT n).2 = is at *
  have HL : Hid (∃ x, x = letterI f i) := ⟨_, rfl⟩
  have hs2 := hs
  simp only [shortF, Bool.and_eq_true, decide_eq_true_eq] at hs
  obtain ⟨⟨⟨s1, s2⟩, s3⟩, s4⟩ := hs
  obtain ⟨nm, t, r, fx, rs, mo, pa⟩ := f
  simp only at s1 s2 s3 s4
  clear hs2 HL
  cases is
  · have HE : Hid (letterI (nm, t, r, fx, rs, mo, pa) i = 0) := by show _ = _; rw [HN.out rfl]; exact letterI_none i
    clear HN
    unfold formV at hR
    go_enter Try.func43, Try.ntmps43
    go_wp2_with fail
    refine (hR _).mono ?_
    rintro e w1 ⟨rfl, hb⟩
    clear hR
    go_wp2
    go_ret
    exact ⟨by rw [HE.out]; rfl, hb.alloc hb.size _⟩
  · clear HN
    by_cases hi : i < 0
    · have HE : Hid (letterI (nm, t, r, fx, rs, mo, pa) i = 0) := by show _ = _; unfold letterI; rw [if_pos hi]
      unfold formV at hR
      go_enter Try.func43, Try.ntmps43
      go_wp2_with fail
      refine (hR _).mono ?_
      rintro e w1 ⟨rfl, hb⟩
      clear hR
      go_wp2
      go_ret
      exact ⟨by rw [HE.out]; rfl, hb.alloc hb.size _⟩
    · have hid : decide (i < 0) = false := by simpa using hi
      obtain ⟨k, rfl⟩ := Int.eq_ofNat_of_zero_le (show 0 ≤ i by omega)
      by_cases hx : (k : Int) < fx.size
      · have HE : Hid (letterI (nm, t, r, fx, rs, mo, pa) k = sgn fx k) := by show _ = _; unfold letterI; rw [if_neg hi, if_pos hx, Int.toNat_natCast]
        have hk : k < fx.size := by omega
        have hsg := sgn_at fx k hk
        unfold formV at hR
        go_enter Try.func43, Try.ntmps43
        go_wp2_with fail
        refine (hR _).mono ?_
        rintro e w1 ⟨rfl, hb⟩
        clear hR
        go_wp2
        go_ret
        exact ⟨by rw [HE.out]; rfl, hb.alloc hb.size _⟩
      · by_cases hr : rs.size = 0
        · have HE : Hid (letterI (nm, t, r, fx, rs, mo, pa) k = 0) := by show _ = _; unfold letterI; rw [if_neg hi, if_neg hx]; simp [mayB, hr]
          have hrz : (((rs.size : Nat) : Int) == 0) = true := by simp [hr]
          have hxd : ¬ k < fx.size := by omega
          clear hr hx hi h1 s3 s4 s1 s2
          unfold formV at hR
          go_enter Try.func43, Try.ntmps43
          go_wp2_with fail
          refine (hR _).mono ?_
          rintro e w1 ⟨rfl, hb⟩
          clear hR
          go_wp2
          go_ret
          exact ⟨by rw [HE.out]; rfl, hb.alloc hb.size _⟩
        · have hrz : (((rs.size : Nat) : Int) == 0) = false := by simp [hr]
          have hr0 : (0 : Int) < (rs.size : Int) := by omega
          have hz : ¬ (rs.size : Int) = 0 := by omega
          obtain ⟨b, hb⟩ : ∃ b : Nat, (k : Int) - (fx.size : Int) = b := ⟨k - fx.size, by omega⟩
          have hw1 : IntKind.i64.wrap ((k : Int) - (fx.size : Int)) = b := by rw [hb]; exact wrapI _ (by omega) (by omega)
          have hbl : (b : Int) < 9223372036854775808 := by omega
          have ht : Int.tdiv (b : Int) (rs.size : Int) = (b : Int) / (rs.size : Int) := Int.tdiv_eq_ediv_of_nonneg (by omega)
          have hq0 : 0 ≤ (b : Int) / (rs.size : Int) := Int.ediv_nonneg (by omega) (by omega)
          have hq1 : (b : Int) / (rs.size : Int) ≤ b := Int.ediv_le_self _ (by omega)
          have hw : IntKind.i64.wrap ((b : Int) / (rs.size : Int)) = (b : Int) / (rs.size : Int) := wrapI _ (by omega) (by omega)
          have HM : Hid (mayB (nm, t, r, fx, rs, mo, pa) b = if mo = 0 then true else decide ((b : Int) / (rs.size : Int) < mo)) := by show _ = _; simp [mayB, hr]
          have tm : Int.tmod (b : Int) (rs.size : Int) = (b : Int) % (rs.size : Int) := Int.tmod_eq_emod_of_nonneg (by omega)
          have m0 : 0 ≤ (b : Int) % (rs.size : Int) := Int.emod_nonneg _ hz
          have m1 : (b : Int) % (rs.size : Int) < (rs.size : Int) := Int.emod_lt_of_pos _ hr0
          have hw2 : IntKind.i64.wrap ((b : Int) % (rs.size : Int)) = (b : Int) % (rs.size : Int) := wrapI _ (by omega) (by omega)
          have HE : Hid (letterI (nm, t, r, fx, rs, mo, pa) k = if mayB (nm, t, r, fx, rs, mo, pa) b then sgn rs ((b : Int) % (rs.size : Int)).toNat else 0) := by show _ = _; unfold letterI; rw [if_neg hi, if_neg hx]; simp only [hb]
          by_cases hc : mo > 0 ∧ (b : Int) / (rs.size : Int) ≥ mo
          · have HF : Hid (letterI (nm, t, r, fx, rs, mo, pa) k = 0) := by show _ = _; rw [HE.out, HM.out, if_neg (show ¬ mo = 0 by omega), decide_eq_false (by omega)]; rfl
            clear HE HM tm m0 m1 hw2 hb
            have hxd : ¬ k < fx.size := by omega
            obtain ⟨hc1, hc2⟩ := hc
            clear hx hi hr h1 hbl s1 s2 hq1
            have g1 : decide (mo > 0) = true := by simpa using hc1
            have g2 : decide (mo ≤ (b : Int) / (rs.size : Int)) = true := by simpa using hc2
            unfold formV at hR
            go_enter Try.func43, Try.ntmps43
            go_wp2_with fail
            refine (hR _).mono ?_
            rintro e w1 ⟨rfl, hb⟩
            clear hR
            go_wp2
            go_quiet (fail)
            go_wp2
            go_ret
            exact ⟨by rw [HF.out]; rfl, bel_drewN (hb.alloc hb.size _) _⟩
          · have hmb : mayB (nm, t, r, fx, rs, mo, pa) b = true := by
              rw [HM.out]
              split
              · rfl
              · exact decide_eq_true (by omega)
            obtain ⟨j, hj⟩ := Int.eq_ofNat_of_zero_le m0
            have HF : Hid (letterI (nm, t, r, fx, rs, mo, pa) k = sgn rs j) := by show _ = _; rw [HE.out, hmb, if_pos rfl, hj]; rfl
            rw [hj] at tm hw2
            have hjl : j < rs.size := by omega
            have hsg := sgn_at rs j hjl
            have hxd : ¬ k < fx.size := by omega
            clear HE HM hmb hb hj m0 m1
            by_cases g1 : mo > 0
            · have g2 : decide (mo ≤ (b : Int) / (rs.size : Int)) = false := decide_eq_false (by omega)
              have g1' : decide (mo > 0) = true := decide_eq_true g1
              clear hx hi hr h1 hbl s1 s2 hq1 hc g1
              unfold formV at hR
              go_enter Try.func43, Try.ntmps43
              go_wp2_with fail
              refine (hR _).mono ?_
              rintro e w1 ⟨rfl, hb⟩
              clear hR
              go_wp2
              go_quiet (fail)
              go_wp2
              go_quiet (fail)
              go_wp2
              go_ret
              exact ⟨by rw [HF.out]; rfl, bel_drewN (bel_drewN (hb.alloc hb.size _) _) _⟩
            · have g1' : decide (mo > 0) = false := decide_eq_false g1
              clear hx hi hr h1 hbl s1 s2 hq1 hc g1 s3 s4
              unfold formV at hR
              go_enter Try.func43, Try.ntmps43
              go_wp2_with fail
              refine (hR _).mono ?_
              rintro e w1 ⟨rfl, hb⟩
              clear hR
              go_wp2
              go_quiet (fail)
              go_wp2
              go_quiet (fail)
              go_wp2
              go_ret
              exact ⟨by rw [HF.out]; rfl, bel_drewN (bel_drewN (hb.alloc hb.size _) _) _⟩

end Go.Proofs.Ytccllonkhklldac

/-
  What Heads of the document's answer returns: how many of an operation's words are ids ahead of the arguments, or what is wrong with them.
-/
namespace Go.Proofs.Ytccllonkhklldac
open Go.RowKit
set_option linter.unusedVariables false
set_option linter.unusedSimpArgs false

/-- The result's id at a place. -/
def headR (re : Bool) (zs : List Int) (b : Int) (n : Nat) : Int × Int :=
  if re then (if zs.length ≤ n then (0, 41) else if noneB (nth zs n) b then (0, 43) else ((n : Int) + 1, 0)) else ((n : Int), 0)
/-- The ids ahead of the arguments. -/
def headsI (ty re : Bool) (zs : List Int) (b : Int) : Int × Int :=
  if ty then (if zs.length = 0 then (0, 40) else if noneB (nth zs 0) b then (0, 43) else headR re zs b 1) else headR re zs b 0

theorem view_two {w : World} {a : Option Addr} {x y : Int} {r : List Int} (h : View .u32 w a (x :: y :: r)) : ∃ g off, a = some ⟨g, off, none⟩ ∧ g < w.heap.size ∧ w.cell? ⟨g, off, none⟩ = some (.int .u32 x) ∧ w.cell? ⟨g, off + 1, none⟩ = some (.int .u32 y) := by
  obtain ⟨g, off, rfl, hg, hc⟩ := h 0 (by simp)
  obtain ⟨g', off', he, _, hc'⟩ := h 1 (by simp)
  cases he
  exact ⟨g, off, rfl, hg, hc, hc'⟩

set_option maxHeartbeats 1000000 in
theorem refHeads_any (o : Int) (f : Frm) (a : Option Addr) (n cap : Nat) (zs : List Int) (b : Int) (w : World) (ha : View .u32 w a zs) (hl : zs.length = n) (hw : Within 4294967296 zs) (hn : 4 * n ≤ 140737488351232) (b0 : 0 ≤ b) (b1 : b < 4294967296) :
    Calls Try.prog 41 #[formV o f, .slice a n cap, .int .u32 b] w fun e w' => e = .returned (.tuple #[.int .i64 (headsI f.2.1 f.2.2.1 zs b).1, .int .i64 (headsI f.2.1 f.2.2.1 zs b).2]) ∧ Below w.heap.size w w' := by
  have hN : ∀ k, k < zs.length → ∀ w, Calls Try.prog 60 #[.int .u32 (nth zs k), .int .u32 b] w fun e w' => e = .returned (.bool (noneB (nth zs k) b)) ∧ w = w' := fun k hk w => none_any _ b w (hw.at hk).1 (hw.at hk).2 b0 b1
  obtain ⟨nm, ty, re, fx, rs, mo, pa⟩ := f
  unfold formV
  rcases zs with _ | ⟨x, zs⟩
  · obtain rfl : n = 0 := by simpa using hl.symm
    cases ty <;> cases re
    all_goals go_enter Try.func41, Try.ntmps41
    all_goals go_wp2
    all_goals refine bodyPost_ret (v := .tuple #[.int .i64 (headsI _ _ [] b).1, .int .i64 (headsI _ _ [] b).2]) ?_ rfl ⟨rfl, (Below.refl _ _).alloc (Nat.le_refl _) _⟩
    all_goals simp [results, Try.results41, go_sem, headsI, headR, nth]
  · have hN0 := hN 0 (by simp)
    change ∀ w, Calls Try.prog 60 #[.int .u32 x, .int .u32 b] w fun e w' => e = .returned (.bool (noneB x b)) ∧ w = w' at hN0
    rcases zs with _ | ⟨y, zs⟩
    · obtain rfl : n = 1 := by simpa using hl.symm
      obtain ⟨g, off, rfl, hg, hc⟩ := ha 0 (by simp)
      change w.cell? ⟨g, off, none⟩ = some (.int .u32 x) at hc
      clear hw ha hl hN
      cases hx : noneB x b <;> cases ty <;> cases re
      all_goals rw [hx] at hN0
      all_goals go_enter Try.func41, Try.ntmps41
      all_goals go_wp2_with (go_at_call 60; refine (hN0 _).mono ?_; rintro e w' ⟨rfl, rfl⟩)
      all_goals refine bodyPost_ret (v := .tuple #[.int .i64 (headsI _ _ [x] b).1, .int .i64 (headsI _ _ [x] b).2]) ?_ rfl ⟨rfl, (Below.refl _ _).alloc (Nat.le_refl _) _⟩
      all_goals simp [results, Try.results41, go_sem, headsI, headR, nth, hx]
    · have hN1 := hN 1 (by simp)
      change ∀ w, Calls Try.prog 60 #[.int .u32 y, .int .u32 b] w fun e w' => e = .returned (.bool (noneB y b)) ∧ w = w' at hN1
      obtain ⟨g, off, rfl, hg, hc, hc1⟩ := view_two ha
      have hn2 : (2 : Int) ≤ (n : Int) := by simp at hl; omega
      have hl2 : zs.length + 2 = n := by simpa using hl
      have HL : Hid (zs.length + 2 = n) := hl2
      clear hw ha hN hl hl2
      cases ty
      · clear hN1 hc1
        cases re
        · go_enter Try.func41, Try.ntmps41
          go_wp2
          refine bodyPost_ret (v := .tuple #[.int .i64 (headsI _ _ (x :: y :: zs) b).1, .int .i64 (headsI _ _ (x :: y :: zs) b).2]) ?_ rfl ⟨rfl, (Below.refl _ _).alloc (Nat.le_refl _) _⟩
          simp [results, Try.results41, go_sem, headsI, headR, nth]
        · cases hx : noneB x b
          all_goals rw [hx] at hN0
          all_goals go_enter Try.func41, Try.ntmps41
          all_goals go_wp2_with (go_at_call 60; refine (hN0 _).mono ?_; rintro e w' ⟨rfl, rfl⟩)
          all_goals refine bodyPost_ret (v := .tuple #[.int .i64 (headsI _ _ (x :: y :: zs) b).1, .int .i64 (headsI _ _ (x :: y :: zs) b).2]) ?_ rfl ⟨rfl, (Below.refl _ _).alloc (Nat.le_refl _) _⟩
          all_goals simp [results, Try.results41, go_sem, headsI, headR, nth, hx]
      · cases re
        · clear hN1 hc1
          cases hx : noneB x b
          all_goals rw [hx] at hN0
          all_goals go_enter Try.func41, Try.ntmps41
          all_goals go_wp2_with (go_at_call 60; refine (hN0 _).mono ?_; rintro e w' ⟨rfl, rfl⟩)
          all_goals refine bodyPost_ret (v := .tuple #[.int .i64 (headsI _ _ (x :: y :: zs) b).1, .int .i64 (headsI _ _ (x :: y :: zs) b).2]) ?_ rfl ⟨rfl, (Below.refl _ _).alloc (Nat.le_refl _) _⟩
          all_goals simp [results, Try.results41, go_sem, headsI, headR, nth, hx]
        · cases hx : noneB x b <;> cases hy : noneB y b
          all_goals rw [hx] at hN0
          all_goals rw [hy] at hN1
          all_goals go_enter Try.func41, Try.ntmps41
          all_goals go_wp2_with fail
          all_goals go_at_call 60; refine (hN0 _).mono ?_; rintro e w' ⟨rfl, rfl⟩
          all_goals go_wp2_with (go_at_call 60; refine (hN1 _).mono ?_; rintro e w' ⟨rfl, rfl⟩)
          all_goals refine bodyPost_ret (v := .tuple #[.int .i64 (headsI _ _ (x :: y :: zs) b).1, .int .i64 (headsI _ _ (x :: y :: zs) b).2]) ?_ rfl ⟨rfl, (Below.refl _ _).alloc (Nat.le_refl _) _⟩
          all_goals simp [results, Try.results41, go_sem, headsI, headR, nth, hx, hy]

end Go.Proofs.Ytccllonkhklldac

/-
  What Argument of the document's answer returns: the argument of a letter at the front of words, and how many these are; or its error.
-/
namespace Go.Proofs.Ytccllonkhklldac
open Go.RowKit
set_option linter.unusedVariables false
set_option linter.unusedSimpArgs false

theorem three_set {w : World} {B T : Nat} {z0 z1 z2 : Value} (h : w.heap[B]? = some (.cells #[z0, z1, z2] T (0, 0))) (u0 u1 u2 : Value) :
    (((w.setCell ⟨B, 0, none⟩ u0).setCell ⟨B, 1, none⟩ u1).setCell ⟨B, 2, none⟩ u2).heap[B]? = some (.cells #[u0, u1, u2] T (0, 0)) := by
  simp only [World.setCell, Array.getElem?_modify, h]; simp
theorem three_below (w : World) (B : Nat) (u0 u1 u2 : Value) : Below B w (((w.setCell ⟨B, 0, none⟩ u0).setCell ⟨B, 1, none⟩ u1).setCell ⟨B, 2, none⟩ u2) :=
  (((Below.refl B w).setCell (Nat.le_refl _) _).setCell (Nat.le_refl _) _).setCell (Nat.le_refl _) _

set_option maxHeartbeats 4000000 in
theorem refArgument_any (c : Int) (a : Option Addr) (n cap : Nat) (zs : List Int) (b : Int) (w : World) (ha : View .u32 w a zs) (hl : zs.length = n) (hw : Within 4294967296 zs) (hn : 4 * n ≤ 140737488351232) (b0 : 0 ≤ b) (b1 : b < 4294967296) :
    Calls Try.prog 42 #[.int .u8 c, .slice a n cap, .int .u32 b] w fun e w' => e = .returned (.tuple #[argV (argI c zs b).1, .int .i64 (argI c zs b).2.1, .int .i64 (argI c zs b).2.2]) ∧ Below w.heap.size w w' := by
  by_cases h0 : c = 0 ∨ zs.length = 0
  · have he : argI c zs b = (noArg, 0, 42) := by rw [argI, if_pos h0]
    rw [he]
    by_cases hc0 : c = 0
    · subst hc0
      go_enter Try.func42, Try.ntmps42
      go_wp2
      refine bodyPost_ret (v := .tuple #[argV noArg, .int .i64 0, .int .i64 42]) ?_ rfl ⟨rfl, ?_⟩
      · simp [results, Try.results42, go_sem, argV, noArg]
      · first | exact Below.refl _ _ | exact (Below.refl _ _).alloc (Nat.le_refl _) _
    · obtain rfl : n = 0 := by omega
      have hc0' : (c == 0) = false := by simpa using hc0
      go_enter Try.func42, Try.ntmps42
      go_wp2
      refine bodyPost_ret (v := .tuple #[argV noArg, .int .i64 0, .int .i64 42]) ?_ rfl ⟨rfl, ?_⟩
      · simp [results, Try.results42, go_sem, argV, noArg]
      · first | exact Below.refl _ _ | exact (Below.refl _ _).alloc (Nat.le_refl _) _
  · have hc0 : ¬ c = 0 := fun h => h0 (.inl h)
    have hz : 0 < zs.length := by omega
    have hc0' : (c == 0) = false := by simpa using hc0
    have hn0 : (1 : Int) ≤ (n : Int) := by omega
    have hK := fun w => refKind_any c w
    have hNo := fun w => none_any (nth zs 0) b w (hw.at hz).1 (hw.at hz).2 b0 b1
    have hE := fun w => refEnum_any c (nth zs 0) w
    have HV : ∀ w1, Below w.heap.size w w1 → Hid (Calls Try.prog 62 #[.slice a n cap] w1 fun e w' => e = .returned (.tuple #[.string (textI zs).1, .int .i64 (textI zs).2.1, .int .i64 (textI zs).2.2]) ∧ Below w1.heap.size w1 w') := fun w1 hb => refText_any a n cap zs w1 (ha.below hb) hl hw hn
    have HA : Hid (View .u32 w a zs) := ha
    by_cases k3 : kindI c = 3
    · have he : argI c zs b = ((3, 0, (textI zs).1), (textI zs).2.1, (textI zs).2.2) := by rw [argI, if_neg h0, if_pos k3]
      rw [he]
      rw [k3] at hK
      clear ha hl hw hNo hE he h0 k3 hc0 hz
      go_enter Try.func42, Try.ntmps42
      go_wp2_with fail
      refine (hK _).mono ?_
      rintro e w1 ⟨rfl, hb1⟩
      have hb1' : Below w.heap.size w w1 := ((Below.refl _ _).alloc (Nat.le_refl _) _).trans (hb1.mono (by simp))
      have hbx := hb1.block w.heap.size (by simp)
      rw [alloc_new] at hbx
      have HT := HV w1 hb1'
      have hsz : w.heap.size < w1.heap.size := by have := hb1.size; simp at this; omega
      clear HV hK hb1
      go_wp2_with fail
      refine HT.out.mono ?_
      rintro e w2 ⟨rfl, hb2⟩
      have hb2' := hb1'.trans (hb2.mono (by omega))
      have hbx2 := (hb2.block _ hsz).trans hbx
      obtain ⟨hc, hf⟩ := one_block hbx2
      have c0 := hc 0
      have c1 := hc 1
      have c2 := hc 2
      have hsz2 : w.heap.size < w2.heap.size := by have := hb2.size; omega
      clear HT hb1' hb2 hbx hsz w1
      go_wp2
      have hB := three_set hbx2 (.int .u8 3) (.int .u32 0) (.string (textI zs).1)
      have hW := hb2'.trans (three_below w2 w.heap.size (.int .u8 3) (.int .u32 0) (.string (textI zs).1))
      clear hc hf c0 c1 c2 hbx2 hb2' hsz2
      generalize ((w2.setCell _ _).setCell _ _).setCell _ _ = W at hB hW ⊢
      obtain ⟨hd, hf⟩ := one_block hB
      have d0 := hd 0
      have d1 := hd 1
      have d2 := hd 2
      refine bodyPost_ret (v := .tuple #[argV (3, 0, (textI zs).1), .int .i64 (textI zs).2.1, .int .i64 (textI zs).2.2]) ?_ rfl ⟨rfl, hW⟩
      simp [results, Try.results42, go_sem, argV, d0, d1, d2]
    · have k3' : (kindI c == 3) = false := by simpa using k3
      obtain ⟨g, off, rfl, hg, hcx⟩ := ha 0 hz
      have he : argI c zs b = (if kindI c = 1 ∧ noneB (nth zs 0) b = true then (noArg, 0, 43) else if kindI c = 4 ∧ enumB c (nth zs 0) = false then (noArg, 0, 31) else ((kindI c, nth zs 0, ⟨#[]⟩), 1, 0)) := by rw [argI, if_neg h0, if_neg k3]
      rw [he]
      clear HV HA ha hl hw he h0 hz
      generalize nth zs 0 = x at hNo hE hcx ⊢
      clear zs
      generalize kindI c = kd at hK k3 k3' ⊢
      generalize noneB x b = nb at hNo ⊢
      generalize enumB c x = eb at hE ⊢
      generalize enumS c x = es at hE
      change w.cell? ⟨g, off, none⟩ = some (.int .u32 x) at hcx
      by_cases k1 : kd = 1
      · subst k1
        cases nb
        · rw [if_neg (by simp), if_neg (by simp)]
          go_enter Try.func42, Try.ntmps42
          go_wp2_with fail
          refine (hK _).mono ?_
          rintro e w1 ⟨rfl, hb1⟩
          have hb1' : Below w.heap.size w w1 := ((Below.refl _ _).alloc (Nat.le_refl _) _).trans (hb1.mono (by simp))
          have hbx := hb1.block w.heap.size (by simp)
          rw [alloc_new] at hbx
          have hsz : w.heap.size < w1.heap.size := by have := hb1.size; simp at this; omega
          have hcx1 : w1.cell? ⟨g, off, none⟩ = some (.int .u32 x) := by rw [hb1'.cell hg]; exact hcx
          clear hK hb1 hcx
          go_wp2_with fail
          refine (hNo _).mono ?_
          rintro e w2 ⟨rfl, rfl⟩
          clear hNo
          go_wp2_with fail
          refine (hE _).mono ?_
          rintro e w2 ⟨rfl, hb2⟩
          have hb2' := hb1'.trans (hb2.mono (by omega))
          have hbx2 := (hb2.block _ hsz).trans hbx
          have hcx2 : w2.cell? ⟨g, off, none⟩ = some (.int .u32 x) := by rw [hb2.cell (by show g < _; omega)]; exact hcx1
          have hsz2 : w.heap.size < w2.heap.size := by have := hb2.size; omega
          clear hE hb1' hb2 hbx hsz hcx1
          clear w1
          obtain ⟨hc, hf⟩ := one_block hbx2
          have c0 := hc 0
          have c1 := hc 1
          have c2 := hc 2
          go_wp2
          have hB := three_set hbx2 (.int .u8 1) (.int .u32 x) (.string ⟨#[]⟩)
          have hW := hb2'.trans (three_below w2 w.heap.size (.int .u8 1) (.int .u32 x) (.string ⟨#[]⟩))
          clear hc hf c0 c1 c2 hbx2 hb2'
          generalize ((w2.setCell _ _).setCell _ _).setCell _ _ = W at hB hW ⊢
          obtain ⟨hd, hf⟩ := one_block hB
          have d0 := hd 0
          have d1 := hd 1
          have d2 := hd 2
          refine bodyPost_ret (v := .tuple #[.agg #[.int .u8 1, .int .u32 x, .string ⟨#[]⟩], .int .i64 1, .int .i64 0]) ?_ rfl ⟨rfl, hW⟩
          simp [results, Try.results42, go_sem, d0, d1, d2]
        · rw [if_pos ⟨rfl, rfl⟩]
          clear hE
          go_enter Try.func42, Try.ntmps42
          go_wp2_with fail
          refine (hK _).mono ?_
          rintro e w1 ⟨rfl, hb1⟩
          have hb1' : Below w.heap.size w w1 := ((Below.refl _ _).alloc (Nat.le_refl _) _).trans (hb1.mono (by simp))
          have hbx := hb1.block w.heap.size (by simp)
          rw [alloc_new] at hbx
          have hsz : w.heap.size < w1.heap.size := by have := hb1.size; simp at this; omega
          have hcx1 : w1.cell? ⟨g, off, none⟩ = some (.int .u32 x) := by rw [hb1'.cell hg]; exact hcx
          clear hK hb1 hcx
          go_wp2_with fail
          refine (hNo _).mono ?_
          rintro e w2 ⟨rfl, rfl⟩
          clear hNo
          obtain ⟨hc, hf⟩ := one_block hbx
          have c0 := hc 0
          have c1 := hc 1
          have c2 := hc 2
          go_wp2
          have hB := three_set hbx (.int .u8 0) (.int .u32 0) (.string ⟨#[]⟩)
          have hW := hb1'.trans (three_below w1 w.heap.size (.int .u8 0) (.int .u32 0) (.string ⟨#[]⟩))
          clear hc hf c0 c1 c2 hbx hb1'
          generalize ((w1.setCell _ _).setCell _ _).setCell _ _ = W at hB hW ⊢
          obtain ⟨hd, hf⟩ := one_block hB
          have d0 := hd 0
          have d1 := hd 1
          have d2 := hd 2
          refine bodyPost_ret (v := .tuple #[.agg #[.int .u8 0, .int .u32 0, .string ⟨#[]⟩], .int .i64 0, .int .i64 43]) ?_ rfl ⟨rfl, hW⟩
          simp [results, Try.results42, go_sem, d0, d1, d2]
      · by_cases k4 : kd = 4
        · subst k4
          cases eb
          · rw [if_neg (by simp), if_pos ⟨rfl, rfl⟩]
            clear hNo
            go_enter Try.func42, Try.ntmps42
            go_wp2_with fail
            refine (hK _).mono ?_
            rintro e w1 ⟨rfl, hb1⟩
            have hb1' : Below w.heap.size w w1 := ((Below.refl _ _).alloc (Nat.le_refl _) _).trans (hb1.mono (by simp))
            have hbx := hb1.block w.heap.size (by simp)
            rw [alloc_new] at hbx
            have hsz : w.heap.size < w1.heap.size := by have := hb1.size; simp at this; omega
            have hcx1 : w1.cell? ⟨g, off, none⟩ = some (.int .u32 x) := by rw [hb1'.cell hg]; exact hcx
            clear hK hb1 hcx
            go_wp2_with fail
            refine (hE _).mono ?_
            rintro e w2 ⟨rfl, hb2⟩
            have hb2' := hb1'.trans (hb2.mono (by omega))
            have hbx2 := (hb2.block _ hsz).trans hbx
            have hcx2 : w2.cell? ⟨g, off, none⟩ = some (.int .u32 x) := by rw [hb2.cell (by show g < _; omega)]; exact hcx1
            have hsz2 : w.heap.size < w2.heap.size := by have := hb2.size; omega
            clear hE hb1' hb2 hbx hsz hcx1
            clear w1
            obtain ⟨hc, hf⟩ := one_block hbx2
            have c0 := hc 0
            have c1 := hc 1
            have c2 := hc 2
            go_wp2
            have hB := three_set hbx2 (.int .u8 0) (.int .u32 0) (.string ⟨#[]⟩)
            have hW := hb2'.trans (three_below w2 w.heap.size (.int .u8 0) (.int .u32 0) (.string ⟨#[]⟩))
            clear hc hf c0 c1 c2 hbx2 hb2'
            generalize ((w2.setCell _ _).setCell _ _).setCell _ _ = W at hB hW ⊢
            obtain ⟨hd, hf⟩ := one_block hB
            have d0 := hd 0
            have d1 := hd 1
            have d2 := hd 2
            refine bodyPost_ret (v := .tuple #[.agg #[.int .u8 0, .int .u32 0, .string ⟨#[]⟩], .int .i64 0, .int .i64 31]) ?_ rfl ⟨rfl, hW⟩
            simp [results, Try.results42, go_sem, d0, d1, d2]
          · rw [if_neg (by simp), if_neg (by simp)]
            clear hNo
            go_enter Try.func42, Try.ntmps42
            go_wp2_with fail
            refine (hK _).mono ?_
            rintro e w1 ⟨rfl, hb1⟩
            have hb1' : Below w.heap.size w w1 := ((Below.refl _ _).alloc (Nat.le_refl _) _).trans (hb1.mono (by simp))
            have hbx := hb1.block w.heap.size (by simp)
            rw [alloc_new] at hbx
            have hsz : w.heap.size < w1.heap.size := by have := hb1.size; simp at this; omega
            have hcx1 : w1.cell? ⟨g, off, none⟩ = some (.int .u32 x) := by rw [hb1'.cell hg]; exact hcx
            clear hK hb1 hcx
            go_wp2_with fail
            refine (hE _).mono ?_
            rintro e w2 ⟨rfl, hb2⟩
            have hb2' := hb1'.trans (hb2.mono (by omega))
            have hbx2 := (hb2.block _ hsz).trans hbx
            have hcx2 : w2.cell? ⟨g, off, none⟩ = some (.int .u32 x) := by rw [hb2.cell (by show g < _; omega)]; exact hcx1
            have hsz2 : w.heap.size < w2.heap.size := by have := hb2.size; omega
            clear hE hb1' hb2 hbx hsz hcx1
            clear w1
            obtain ⟨hc, hf⟩ := one_block hbx2
            have c0 := hc 0
            have c1 := hc 1
            have c2 := hc 2
            go_wp2
            have hB := three_set hbx2 (.int .u8 4) (.int .u32 x) (.string ⟨#[]⟩)
            have hW := hb2'.trans (three_below w2 w.heap.size (.int .u8 4) (.int .u32 x) (.string ⟨#[]⟩))
            clear hc hf c0 c1 c2 hbx2 hb2'
            generalize ((w2.setCell _ _).setCell _ _).setCell _ _ = W at hB hW ⊢
            obtain ⟨hd, hf⟩ := one_block hB
            have d0 := hd 0
            have d1 := hd 1
            have d2 := hd 2
            refine bodyPost_ret (v := .tuple #[.agg #[.int .u8 4, .int .u32 x, .string ⟨#[]⟩], .int .i64 1, .int .i64 0]) ?_ rfl ⟨rfl, hW⟩
            simp [results, Try.results42, go_sem, d0, d1, d2]
        · rw [if_neg (fun h => k1 h.1), if_neg (fun h => k4 h.1)]
          have k1' : (kd == 1) = false := by simpa using k1
          have k4' : (kd == 4) = false := by simpa using k4
          clear hNo k1 k4 k3
          go_enter Try.func42, Try.ntmps42
          go_wp2_with fail
          refine (hK _).mono ?_
          rintro e w1 ⟨rfl, hb1⟩
          have hb1' : Below w.heap.size w w1 := ((Below.refl _ _).alloc (Nat.le_refl _) _).trans (hb1.mono (by simp))
          have hbx := hb1.block w.heap.size (by simp)
          rw [alloc_new] at hbx
          have hsz : w.heap.size < w1.heap.size := by have := hb1.size; simp at this; omega
          have hcx1 : w1.cell? ⟨g, off, none⟩ = some (.int .u32 x) := by rw [hb1'.cell hg]; exact hcx
          clear hK hb1 hcx
          go_wp2_with fail
          refine (hE _).mono ?_
          rintro e w2 ⟨rfl, hb2⟩
          have hb2' := hb1'.trans (hb2.mono (by omega))
          have hbx2 := (hb2.block _ hsz).trans hbx
          have hcx2 : w2.cell? ⟨g, off, none⟩ = some (.int .u32 x) := by rw [hb2.cell (by show g < _; omega)]; exact hcx1
          have hsz2 : w.heap.size < w2.heap.size := by have := hb2.size; omega
          clear hE hb1' hb2 hbx hsz hcx1
          clear w1
          obtain ⟨hc, hf⟩ := one_block hbx2
          have c0 := hc 0
          have c1 := hc 1
          have c2 := hc 2
          go_wp2
          have hB := three_set hbx2 (.int .u8 kd) (.int .u32 x) (.string ⟨#[]⟩)
          have hW := hb2'.trans (three_below w2 w.heap.size (.int .u8 kd) (.int .u32 x) (.string ⟨#[]⟩))
          clear hc hf c0 c1 c2 hbx2 hb2'
          generalize ((w2.setCell _ _).setCell _ _).setCell _ _ = W at hB hW ⊢
          obtain ⟨hd, hf⟩ := one_block hB
          have d0 := hd 0
          have d1 := hd 1
          have d2 := hd 2
          refine bodyPost_ret (v := .tuple #[.agg #[.int .u8 kd, .int .u32 x, .string ⟨#[]⟩], .int .i64 1, .int .i64 0]) ?_ rfl ⟨rfl, hW⟩
          simp [results, Try.results42, go_sem, d0, d1, d2]

end Go.Proofs.Ytccllonkhklldac
