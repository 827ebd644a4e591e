/-
  Texts laid together in one: Args, ArgInsts, MapU, MathS, TabG.
-/
import Derived.WideShapes
import Derived.Test.YtlcaedibmlidlaaGreatB01
import Derived.ProofKit
import Derived.OpenShut
import Derived.SizedLaws
import Derived.Deep.Slices
import Derived.Deep.SlicePairs
import Derived.Lib.SmallJoins
import Derived.Test.YtlcaedibmlidlaaGreatProg
import Derived.WalkSpells
import Derived.WalkMore
import Derived.Maps.OwnSet
import Derived.Lib.Bytealg
import Derived.Lib.IndexLaws
import Derived.Laws.BytesArg
/-
  Arguments, instructions and modules in memory: what can be read of them.
-/
namespace Go.Proofs.YtlcaedibmlidlaaGreat
open Go.RowKit

/-- An argument: its kind, its number, its text. -/
abbrev ArgT := Int × Int × ByteArray
def argV (x : ArgT) : Value := .agg #[.int .u8 x.1, .int .u32 x.2.1, .string x.2.2]
def noArg : ArgT := (0, 0, ⟨#[]⟩)
def argC (x : ArgT) : List Value := [.int .u8 x.1, .int .u32 x.2.1, .string x.2.2]
def nthA (l : List ArgT) (j : Nat) : ArgT := l.getD j noArg

/-- What can be read of a slice of arguments. -/
def ArgsV (w : World) (a : Option Addr) (l : List ArgT) : Prop :=
  ∀ j, j < l.length → ∃ b off, a = some ⟨b, off, none⟩ ∧ b < w.heap.size ∧ w.cell? ⟨b, off + j * 3, none⟩ = some (.int .u8 (nthA l j).1) ∧ w.cell? ⟨b, off + j * 3 + 1, none⟩ = some (.int .u32 (nthA l j).2.1) ∧ w.cell? ⟨b, off + j * 3 + 2, none⟩ = some (.string (nthA l j).2.2)

def ArgOk (x : ArgT) : Prop := 0 ≤ x.1 ∧ x.1 < 256 ∧ 0 ≤ x.2.1 ∧ x.2.1 < 4294967296 ∧ x.2.2.size ≤ 140737488351232
/-- Each kind, number and length lies within its bounds. -/
def ArgsOk (l : List ArgT) : Prop := ∀ j, j < l.length → ArgOk (nthA l j)

theorem argsV_nil {w : World} {a : Option Addr} : ArgsV w a [] := fun j hj => by simp at hj
theorem argsOk_nil : ArgsOk [] := fun j hj => by simp at hj

theorem ArgsV.below {w w' : World} {a : Option Addr} {l : List ArgT} (h : ArgsV w a l) (hb : Below w.heap.size w w') : ArgsV w' a l := by
  intro j hj
  obtain ⟨b, off, e, hlt, h1, h2, h3⟩ := h j hj
  exact ⟨b, off, e, Nat.lt_of_lt_of_le hlt hb.size, (hb.cell (p := ⟨b, off + j * 3, none⟩) hlt).trans h1, (hb.cell (p := ⟨b, off + j * 3 + 1, none⟩) hlt).trans h2, (hb.cell (p := ⟨b, off + j * 3 + 2, none⟩) hlt).trans h3⟩
theorem ArgsV.setCell {w : World} {a : Option Addr} {l : List ArgT} (h : ArgsV w a l) {g i : Nat} (hg : ∀ b off, a = some ⟨b, off, none⟩ → b ≠ g) (v : Value) : ArgsV (w.setCell ⟨g, i, none⟩ v) a l := by
  intro j hj
  obtain ⟨b, off, e, hlt, h1, h2, h3⟩ := h j hj
  have hne := hg b off e
  have hx : (w.setCell ⟨g, i, none⟩ v).heap[b]? = w.heap[b]? := Below.heap_setCell _ _ _ _ (by simpa using hne)
  refine ⟨b, off, e, by simpa using hlt, ?_, ?_, ?_⟩
  · simp only [World.cell?, hx] at h1 ⊢; exact h1
  · simp only [World.cell?, hx] at h2 ⊢; exact h2
  · simp only [World.cell?, hx] at h3 ⊢; exact h3

/-- An instruction: its operation, its type, its result, its arguments. -/
abbrev InstT := Int × Int × Int × List ArgT
def instV (x : InstT) (a : Option Addr) (n c : Nat) : Value := .agg #[.int .u16 x.1, .int .u32 x.2.1, .int .u32 x.2.2.1, .slice a n c]
def noInst : InstT := (0, 0, 0, [])
def nthI (l : List InstT) (j : Nat) : InstT := l.getD j noInst
def InstOk (x : InstT) : Prop := 0 ≤ x.1 ∧ x.1 < 65536 ∧ 0 ≤ x.2.1 ∧ x.2.1 < 4294967296 ∧ 0 ≤ x.2.2.1 ∧ x.2.2.1 < 4294967296 ∧ ArgsOk x.2.2.2 ∧ 24 * x.2.2.2.length ≤ 140737488351232
def InstsOk (l : List InstT) : Prop := ∀ j, j < l.length → InstOk (nthI l j)

/-- What can be read of a slice of instructions with their arguments. -/
def InstsV (w : World) (a : Option Addr) (l : List InstT) : Prop :=
  ∀ j, j < l.length → ∃ b off aj cj nj, a = some ⟨b, off, none⟩ ∧ b < w.heap.size ∧ w.cell? ⟨b, off + j * 4, none⟩ = some (.int .u16 (nthI l j).1) ∧ w.cell? ⟨b, off + j * 4 + 1, none⟩ = some (.int .u32 (nthI l j).2.1) ∧ w.cell? ⟨b, off + j * 4 + 2, none⟩ = some (.int .u32 (nthI l j).2.2.1) ∧
    w.cell? ⟨b, off + j * 4 + 3, none⟩ = some (.slice aj nj cj) ∧ (nthI l j).2.2.2.length = nj ∧ ArgsV w aj (nthI l j).2.2.2 ∧ nj ≤ cj

theorem instsV_nil {w : World} {a : Option Addr} : InstsV w a [] := fun j hj => by simp at hj
theorem instsOk_nil : InstsOk [] := fun j hj => by simp at hj
theorem InstsV.below {w w' : World} {a : Option Addr} {l : List InstT} (h : InstsV w a l) (hb : Below w.heap.size w w') : InstsV w' a l := by
  intro j hj
  obtain ⟨b, off, aj, cj, nj, e, hlt, h1, h2, h3, h4, h5, h6, h7⟩ := h j hj
  exact ⟨b, off, aj, cj, nj, e, Nat.lt_of_lt_of_le hlt hb.size, (hb.cell (p := ⟨b, off + j * 4, none⟩) hlt).trans h1, (hb.cell (p := ⟨b, off + j * 4 + 1, none⟩) hlt).trans h2, (hb.cell (p := ⟨b, off + j * 4 + 2, none⟩) hlt).trans h3, (hb.cell (p := ⟨b, off + j * 4 + 3, none⟩) hlt).trans h4, h5, h6.below hb, h7⟩
theorem nthA_lt (l : List ArgT) (j : Nat) (h : j < l.length) : nthA l j = l[j] := by simp [nthA, List.getD, h]
theorem nthI_lt (l : List InstT) (j : Nat) (h : j < l.length) : nthI l j = l[j] := by simp [nthI, List.getD, h]
end Go.Proofs.YtlcaedibmlidlaaGreat

/-
  What an argument that is an instruction, or a slice of instructions, holds: all within their bounds, each list within the reach of memory.
-/
namespace Go.Proofs.YtlcaedibmlidlaaGreat
open Go.ChangeShapes Go.WideShapes Go.ChangeAt Go.RowKit
set_option maxRecDepth 100000

theorem ArgInsts.cellsA : Tryz.prog.cellsOf 105 = 3 := by kernel_rfl
theorem ArgInsts.cells8 : Tryz.prog.cellsOf 5 = 1 := by kernel_rfl
theorem ArgInsts.cells32 : Tryz.prog.cellsOf 22 = 1 := by kernel_rfl
theorem ArgInsts.cellsS : Tryz.prog.cellsOf 9 = 1 := by kernel_rfl
theorem ArgInsts.bytesA : Tryz.prog.bytesOf 105 = 24 := by kernel_rfl
theorem ArgInsts.cells16 : Tryz.prog.cellsOf 60 = 1 := by kernel_rfl
theorem ArgInsts.cellsL : Tryz.prog.cellsOf 61 = 1 := by kernel_rfl

theorem ArgInsts.cellsI : Tryz.prog.cellsOf 63 = 4 := by kernel_rfl
theorem ArgInsts.bytesI : Tryz.prog.bytesOf 63 = 40 := by kernel_rfl

theorem weightsIn {H : Type} {P : Program} {e : TypeId} : ∀ {l : List (DataW H)} {d : DataW H}, d ∈ l → ∀ n ∈ d.weights P e, n ∈ DataW.weightsAll P e l
  | d0 :: l, d, hd, n, hn => by
    simp only [DataW.weightsAll, List.mem_append]
    rcases List.mem_cons.1 hd with rfl | h
    · exact Or.inl hn
    · exact Or.inr (weightsIn h n hn)

theorem argsV_mk {w : World} {x : Addr} {n : Nat} {f : Nat → ArgT} (h : ∀ i, i < n → w.cell? (x.add (i * 3)) = some (.int .u8 (f i).1) ∧ w.cell? (x.add (i * 3 + 1)) = some (.int .u32 (f i).2.1) ∧ w.cell? (x.add (i * 3 + 2)) = some (.string (f i).2.2)) : ArgsV w (some x) ((List.range n).map f) := by
  intro j hj
  rw [List.length_map, List.length_range] at hj
  have h0 := (h 0 (by omega)).1
  obtain ⟨b, off, spot⟩ := x
  have hs : spot = none := by simpa [Addr.add] using World.cell?_spot h0
  subst hs
  obtain ⟨h1, h2, h3⟩ := h j hj
  rw [Addr.add_lit] at h1 h2 h3
  have e : nthA ((List.range n).map f) j = f j := by simp [nthA, List.getD, hj]
  rw [e]
  exact ⟨b, off, rfl, World.block_lt_of_cell? _ _ h1, h1, by rw [Nat.add_assoc]; exact h2, by rw [Nat.add_assoc]; exact h3⟩

set_option maxHeartbeats 1000000 in
theorem open_args {H : Type} {enc : TypeId × Value → H} {w : World} {base fuel : Nat} {held : Bool} {a : Option Addr} {len cap : Nat} {d : DataW H} {ps : List MemPlace}
    (hf : DataW.trod enc Tryz.prog w base (fun _ => true) held fuel 61 [.slice a len cap] = some (d, ps)) (hs : ∀ n ∈ d.weights Tryz.prog 61, n ≤ reachBytes) :
    ∃ l : List ArgT, l.length = len ∧ ArgsV w a l ∧ ArgsOk l ∧ 24 * len ≤ 140737488351232 ∧ len ≤ cap := by
  rcases Go.Deep.open_slice Tryz.underlying61 hf with ⟨hcs, _⟩ | ⟨x, l, c, mm, nn, D, Pl, hcs, _, hl, hm, hmm, hx, hall⟩
  · simp at hcs
    obtain ⟨rfl, rfl, rfl⟩ := hcs
    exact ⟨[], rfl, argsV_nil, argsOk_nil, by omega, by omega⟩
  · simp at hcs
    obtain ⟨rfl, rfl, rfl⟩ := hcs
    simp only [Prod.mk.injEq] at hx
    obtain ⟨rfl, rfl⟩ := hx
    simp only [if_true] at hmm
    subst hmm
    have hs0 := hs ((((List.range len).map D).length + ((List.range (mm - len)).map fun j => D (len + j)).length) * Tryz.prog.bytesOf 105) (by simp [DataW.weights, Tryz.underlying61])
    rw [ArgInsts.bytesA] at hs0
    simp only [List.length_map, List.length_range, reachBytes] at hs0
    have key : ∀ i, i < len → ∃ r : ArgT, w.cell? (x.add (i * 3)) = some (.int .u8 r.1) ∧ w.cell? (x.add (i * 3 + 1)) = some (.int .u32 r.2.1) ∧ w.cell? (x.add (i * 3 + 2)) = some (.string r.2.2) ∧ ArgOk r := by
      intro i hi
      obtain ⟨cs, hc, ht⟩ := hall i (by omega)
      rw [ArgInsts.cellsA] at hc
      obtain ⟨_, hlen, hcell⟩ := World.cells?_some hc
      obtain ⟨xs, k, _, hxy, _, hxl, hfl⟩ := DataW.trod_struct Tryz.underlying105 ht
      have g0 := hfl 0 _ rfl
      have g1 := hfl 1 _ rfl
      have g2 := hfl 2 _ rfl
      match xs, hxl, cs, hlen with
      | [y0, y1, y2], _, [v0, v1, v2], _ =>
        have e0 := hcell 0 (by omega)
        have e1 := hcell 1 (by omega)
        have e2 := hcell 2 (by omega)
        rw [Go.Deep.add_add] at e0 e1 e2
        simp [ArgInsts.cells8, ArgInsts.cells32, ArgInsts.cellsS] at g0 g1 g2 e0 e1 e2
        obtain ⟨n0, q0, _, w0⟩ := DataW.trod_int Tryz.underlying5 g0
        obtain ⟨n1, q1, _, w1⟩ := DataW.trod_int Tryz.underlying22 g1
        obtain ⟨s2, q2, q3⟩ := DataW.trod_string Tryz.underlying9 g2
        simp at q0 q1 q2
        subst q0; subst q1; subst q2
        have b0 := bounds_u8 w0
        have b1 := bounds_u32 w1
        refine ⟨(n0, n1, s2), by simpa using e0, e1, e2, ?_⟩
        have hs2 := hs s2.size (by
          have hmem : D i ∈ (List.range len).map D := List.mem_map.2 ⟨i, List.mem_range.2 hi, rfl⟩
          simp only [DataW.weights, Tryz.underlying61, List.mem_cons, List.mem_append]
          refine Or.inr (Or.inl (weightsIn hmem _ ?_))
          simp only [Prod.mk.injEq] at hxy
          rw [hxy.1]
          simp only [DataW.weights, Tryz.underlying105]
          refine DataW.weights_mem_each (j := 2) rfl rfl _ ?_
          simp_all [DataW.weights])
        simp only [reachBytes] at hs2
        exact ⟨by simp; omega, by simp; omega, by simp; omega, by simp; omega, hs2⟩
    let f : Nat → ArgT := fun i => if h : i < len then Classical.choose (key i h) else noArg
    have hf' : ∀ i (h : i < len), f i = Classical.choose (key i h) := fun i h => dif_pos h
    refine ⟨(List.range len).map f, by simp, argsV_mk (fun i hi => ?_), fun j hj => ?_, by omega, hl⟩
    · rw [hf' i hi]
      obtain ⟨h1, h2, h3, _⟩ := Classical.choose_spec (key i hi)
      exact ⟨h1, h2, h3⟩
    · rw [List.length_map, List.length_range] at hj
      have e : nthA ((List.range len).map f) j = f j := by simp [nthA, List.getD, hj]
      rw [e, hf' j hj]
      exact (Classical.choose_spec (key j hj)).2.2.2

theorem instsV_mk {w : World} {x : Addr} {n : Nat} {f : Nat → InstT} (h : ∀ i, i < n → w.cell? (x.add (i * 4)) = some (.int .u16 (f i).1) ∧ w.cell? (x.add (i * 4 + 1)) = some (.int .u32 (f i).2.1) ∧ w.cell? (x.add (i * 4 + 2)) = some (.int .u32 (f i).2.2.1) ∧
    ∃ aj cj, w.cell? (x.add (i * 4 + 3)) = some (.slice aj (f i).2.2.2.length cj) ∧ ArgsV w aj (f i).2.2.2 ∧ (f i).2.2.2.length ≤ cj) : InstsV w (some x) ((List.range n).map f) := by
  intro j hj
  rw [List.length_map, List.length_range] at hj
  have h0 := (h 0 (by omega)).1
  obtain ⟨b, off, spot⟩ := x
  have hs : spot = none := by simpa [Addr.add] using World.cell?_spot h0
  subst hs
  obtain ⟨h1, h2, h3, aj, cj, h4, h5, h6⟩ := h j hj
  rw [Addr.add_lit] at h1 h2 h3 h4
  have e : nthI ((List.range n).map f) j = f j := by simp [nthI, List.getD, hj]
  rw [e]
  exact ⟨b, off, aj, cj, _, rfl, World.block_lt_of_cell? _ _ h1, h1, by rw [Nat.add_assoc]; exact h2, by rw [Nat.add_assoc]; exact h3, by rw [Nat.add_assoc]; exact h4, rfl, h5, h6⟩

set_option maxHeartbeats 1000000 in
theorem open_insts {H : Type} {enc : TypeId × Value → H} {w : World} {base fuel : Nat} {held : Bool} {a : Option Addr} {len cap : Nat} {d : DataW H} {ps : List MemPlace}
    (hf : DataW.trod enc Tryz.prog w base (fun _ => true) held fuel 23 [.slice a len cap] = some (d, ps)) (hs : ∀ n ∈ d.weights Tryz.prog 23, n ≤ reachBytes) :
    ∃ l : List InstT, l.length = len ∧ InstsV w a l ∧ InstsOk l ∧ 40 * len ≤ 140737488351232 ∧ len ≤ cap := by
  rcases Go.Deep.open_slice Tryz.underlying23 hf with ⟨hcs, _⟩ | ⟨x, l, c, mm, nn, D, Pl, hcs, _, hl, hm, hmm, hx, hall⟩
  · simp at hcs
    obtain ⟨rfl, rfl, rfl⟩ := hcs
    exact ⟨[], rfl, instsV_nil, instsOk_nil, by omega, by omega⟩
  · simp at hcs
    obtain ⟨rfl, rfl, rfl⟩ := hcs
    simp only [Prod.mk.injEq] at hx
    obtain ⟨rfl, rfl⟩ := hx
    simp only [if_true] at hmm
    subst hmm
    have hs0 := hs ((((List.range len).map D).length + ((List.range (mm - len)).map fun j => D (len + j)).length) * Tryz.prog.bytesOf 63) (by simp [DataW.weights, Tryz.underlying23])
    rw [ArgInsts.bytesI] at hs0
    simp only [List.length_map, List.length_range, reachBytes] at hs0
    have key : ∀ i, i < len → ∃ r : InstT, w.cell? (x.add (i * 4)) = some (.int .u16 r.1) ∧ w.cell? (x.add (i * 4 + 1)) = some (.int .u32 r.2.1) ∧ w.cell? (x.add (i * 4 + 2)) = some (.int .u32 r.2.2.1) ∧
        (∃ aj cj, w.cell? (x.add (i * 4 + 3)) = some (.slice aj r.2.2.2.length cj) ∧ ArgsV w aj r.2.2.2 ∧ r.2.2.2.length ≤ cj) ∧ InstOk r := by
      intro i hi
      obtain ⟨cs, hc, ht⟩ := hall i (by omega)
      rw [ArgInsts.cellsI] at hc
      obtain ⟨_, hlen, hcell⟩ := World.cells?_some hc
      obtain ⟨xs, k, _, hxy, _, hxl, hfl⟩ := DataW.trod_struct Tryz.underlying63 ht
      have g0 := hfl 0 _ rfl
      have g1 := hfl 1 _ rfl
      have g2 := hfl 2 _ rfl
      have g3 := hfl 3 _ rfl
      match xs, hxl, cs, hlen with
      | [y0, y1, y2, y3], _, [v0, v1, v2, v3], _ =>
        have e0 := hcell 0 (by omega)
        have e1 := hcell 1 (by omega)
        have e2 := hcell 2 (by omega)
        have e3 := hcell 3 (by omega)
        rw [Go.Deep.add_add] at e0 e1 e2 e3
        simp [ArgInsts.cells16, ArgInsts.cells32, ArgInsts.cellsL] at g0 g1 g2 g3 e0 e1 e2 e3
        obtain ⟨n0, q0, _, w0⟩ := DataW.trod_int Tryz.underlying60 g0
        obtain ⟨n1, q1, _, w1⟩ := DataW.trod_int Tryz.underlying22 g1
        obtain ⟨n2, q2, _, w2⟩ := DataW.trod_int Tryz.underlying22 g2
        simp at q0 q1 q2
        subst q0; subst q1; subst q2
        have b0 := bounds_u16 w0
        have b1 := bounds_u32 w1
        have b2 := bounds_u32 w2
        obtain ⟨a, n, c, rfl⟩ : ∃ a n c, v3 = .slice a n c := by
          rcases Go.Deep.open_slice Tryz.underlying61 g3 with ⟨hcs, _⟩ | ⟨x, l, c, mm, nn, D, Pl, hcs, _⟩
          · simp at hcs; exact ⟨_, _, _, hcs⟩
          · simp at hcs; exact ⟨_, _, _, hcs⟩
        obtain ⟨l, hl, hv3, hok, hr, hc⟩ := open_args g3 (fun k hk => hs k (by
          have hmem : D i ∈ (List.range len).map D := List.mem_map.2 ⟨i, List.mem_range.2 hi, rfl⟩
          simp only [DataW.weights, Tryz.underlying23, List.mem_cons, List.mem_append]
          refine Or.inr (Or.inl (weightsIn hmem _ ?_))
          simp only [Prod.mk.injEq] at hxy
          rw [hxy.1]
          simp only [DataW.weights, Tryz.underlying63]
          exact DataW.weights_mem_each (j := 3) rfl rfl _ hk))
        subst hl
        exact ⟨(n0, n1, n2, l), by simpa using e0, e1, e2, ⟨a, c, e3, hv3, hc⟩, by simp; omega, by simp; omega, by simp; omega, by simp; omega, by simp; omega, by simp; omega, hok, hr⟩
    let f : Nat → InstT := fun i => if h : i < len then Classical.choose (key i h) else noInst
    have hf' : ∀ i (h : i < len), f i = Classical.choose (key i h) := fun i h => dif_pos h
    refine ⟨(List.range len).map f, by simp, instsV_mk (fun i hi => ?_), fun j hj => ?_, by omega, hl⟩
    · rw [hf' i hi]
      obtain ⟨h1, h2, h3, h4, _⟩ := Classical.choose_spec (key i hi)
      exact ⟨h1, h2, h3, h4⟩
    · rw [List.length_map, List.length_range] at hj
      have e : nthI ((List.range len).map f) j = f j := by simp [nthI, List.getD, hj]
      rw [e, hf' j hj]
      exact (Classical.choose_spec (key j hj)).2.2.2.2

theorem open_module {H : Type} {enc : TypeId × Value → H} {w : World} {b0 base : Nat} {held : Bool} {v : Value} {d : DataW H} {ps : List MemPlace}
    (hv : Value.okWide Tryz.prog w .any b0 25 v) (h : DataW.Trod enc Tryz.prog w base (fun _ => true) held 25 v d ps) (hs : ∀ n ∈ d.weights Tryz.prog 25, n ≤ reachBytes) :
    ∃ (gen bound : Int) (a : Option Addr) (n c : Nat) (l : List InstT), v = .agg #[.int .u32 gen, .int .u32 bound, .slice a n c] ∧ 0 ≤ gen ∧ gen < 4294967296 ∧ 0 ≤ bound ∧ bound < 4294967296 ∧ l.length = n ∧ InstsV w a l ∧ InstsOk l ∧ 40 * n ≤ 140737488351232 ∧ n ≤ c := by
  obtain ⟨v0, v1, v3, y0, y1, y3, m, rfl, rfl, _, t0, t1, t3⟩ := Go.Joins.open_agg3 Tryz.underlying25 (by kernel_rfl) (by kernel_rfl) hv h
  obtain ⟨n0, e0, _, w0⟩ := DataW.trod_int Tryz.underlying22 t0
  obtain ⟨n1, e1, _, w1⟩ := DataW.trod_int Tryz.underlying22 t1
  simp at e0 e1
  subst e0; subst e1
  have b0 := bounds_u32 w0
  have b1 := bounds_u32 w1
  obtain ⟨a, n, c, rfl⟩ : ∃ a n c, v3 = .slice a n c := by
    rcases Go.Deep.open_slice Tryz.underlying23 t3 with ⟨hcs, _⟩ | ⟨x, l, c, mm, nn, D, Pl, hcs, _⟩
    · simp at hcs; exact ⟨_, _, _, hcs⟩
    · simp at hcs; exact ⟨_, _, _, hcs⟩
  obtain ⟨l, hl, hv3, hok, hr, hc⟩ := open_insts t3 (fun k hk => hs k (by
    simp only [DataW.weights, Tryz.underlying25]
    exact DataW.weights_mem_each (j := 2) rfl rfl _ hk))
  exact ⟨n0, n1, a, n, c, l, rfl, by omega, by omega, by omega, by omega, hl, hv3, hok, hr, hc⟩

end Go.Proofs.YtlcaedibmlidlaaGreat

/-
  A map by words, with numbers in it, as a function of its keys.
-/
namespace Go.Proofs.YtlcaedibmlidlaaGreat
open Go.RowKit Go.Maps
set_option linter.unusedVariables false
set_option linter.unusedSimpArgs false
set_option maxRecDepth 10000

theorem keyU : Keyed Tryz.prog 22 := int_keyed Tryz.underlying22
theorem keyU_of {x : Int} (h0 : 0 ≤ x) (h1 : x < 4294967296) : keyOf Tryz.prog 22 (.int .u32 x) = some (.int .u32 x) := keyOf_int_mk Tryz.underlying22 (by simp [Lit.wf, show IntKind.u32.min = 0 from rfl, show IntKind.u32.max = 4294967295 from rfl]; omega)

/-- Block b is a map of at most n entries: at the key x stands f x. -/
def MapU (w : World) (E : TypeId) (q : IntKind) (b n : Nat) (f : Int → Option Int) : Prop :=
  ∃ D : DataW Unit, w.ownsMap Tryz.prog 22 (plainElem Tryz.prog E) b n D ∧ (∀ x, Maps.has D (.int .u32 x) = (f x).isSome) ∧ ∀ x, D.atKey (.int .u32 x) (.lit (.int q 0)) = .lit (.int q ((f x).getD 0))
theorem MapU.made (w : World) (E : TypeId) (q : IntKind) : MapU (w.alloc (.map #[] 0)) E q w.heap.size 0 (fun _ => none) :=
  ⟨.map [], World.ownsMap_made _ _ _ _, fun x => rfl, fun x => rfl⟩
theorem MapU.lt {w : World} {E : TypeId} {q : IntKind} {b n : Nat} {f : Int → Option Int} (h : MapU w E q b n f) : b < w.heap.size := by obtain ⟨D, h1, _⟩ := h; exact h1.lt
theorem MapU.below {w w' : World} {E : TypeId} {q : IntKind} {b n : Nat} {f : Int → Option Int} (h : MapU w E q b n f) (hb : Below w.heap.size w w') : MapU w' E q b n f := by
  have hl := h.lt
  obtain ⟨D, ⟨es, ck, h1, h2⟩, h3⟩ := h
  exact ⟨D, ⟨es, ck, (hb.block b hl).trans h1, h2⟩, h3⟩
theorem MapU.block {w w' : World} {E : TypeId} {q : IntKind} {b n : Nat} {f : Int → Option Int} (h : MapU w E q b n f) (hb : w'.heap[b]? = w.heap[b]?) : MapU w' E q b n f := by
  obtain ⟨D, ⟨es, ck, h1, h2⟩, h3⟩ := h
  exact ⟨D, ⟨es, ck, hb.trans h1, h2⟩, h3⟩
theorem MapU.mono {w : World} {E : TypeId} {q : IntKind} {b n n' : Nat} {f : Int → Option Int} (h : MapU w E q b n f) (hn : n ≤ n') : MapU w E q b n' f := by
  obtain ⟨D, h1, h2⟩ := h
  exact ⟨D, h1.mono hn, h2⟩
theorem MapU.congr {w : World} {E : TypeId} {q : IntKind} {b n : Nat} {f g : Int → Option Int} (h : MapU w E q b n f) (e : ∀ x, f x = g x) : MapU w E q b n g := by
  have : f = g := funext e
  rw [← this]; exact h
theorem MapU.put {w' : World} {E : TypeId} {q : IntKind} {b n' : Nat} {f : Int → Option Int} {D : DataW Unit} {x v : Int} (hD : IsMap D) (h1 : ∀ x, Maps.has D (.int .u32 x) = (f x).isSome) (h2 : ∀ x, D.atKey (.int .u32 x) (.lit (.int q 0)) = .lit (.int q ((f x).getD 0)))
    (h : w'.ownsMap Tryz.prog 22 (plainElem Tryz.prog E) b n' (D.put (.int .u32 x) (.lit (.int q v)))) : MapU w' E q b n' (fun y => if y = x then some v else f y) := by
  refine ⟨_, h, fun y => ?_, fun y => ?_⟩
  · show _ = (if y = x then some v else f y).isSome
    by_cases e : y = x
    · subst e; rw [if_pos rfl]; exact has_put_same (k := .int .u32 y) hD (by simp [WideAt.IsKeyLit]) _
    · rw [if_neg e, ← h1 y]; exact has_put_other (by simpa using e) _
  · show _ = DataW.lit (.int q ((if y = x then some v else f y).getD 0))
    by_cases e : y = x
    · subst e; rw [if_pos rfl]; exact atKey_put_same (k := .int .u32 y) hD (by simp [WideAt.IsKeyLit]) _ _
    · rw [if_neg e, ← h2 y]; exact atKey_put_other (by simpa using e) _ _

section
variable {w : World} {ops : Array Oper} {rest : List Oper} {o : Oper} {a : Act} {Q : Exit → Act → World → Prop}
/-- 'v, ok := m[x]'. -/
theorem wpList_lookU_ok (hg : o.guard = none) (m x : Operand) (t : TypeId) (hop : o.op = Op.lookup t m x true) (E : TypeId) (q : IntKind) (ht : Tryz.prog.underlying t = some (.map 22 E)) (he : Tryz.prog.underlying E = some (.int q)) (hz : (zeroValue E).run Tryz.prog w = .ok (.int q 0) w)
    (b n : Nat) (f : Int → Option Int) (hm : a.eval m = .map (some b)) (h : MapU w E q b n f) (key : Int) (hx : a.eval x = .int .u32 key) (k0 : 0 ≤ key) (k1 : key < 4294967296)
    (hK : wpList Tryz.prog ops Q rest (a.put o.dst (.tuple #[.int q ((f key).getD 0), .bool (f key).isSome])) w) : wpList Tryz.prog ops Q (o :: rest) a w := by
  obtain ⟨D, h1, h2, h3⟩ := h
  refine wpList_lookup_own_ok_int w hg m x t hop 22 E q keyU ht he hz b n D hm h1 _ _ hx (keyU_of k0 k1) ?_
  intro c hat _
  rw [h3] at hat
  simp only [DataW.lit.injEq, Lit.int.injEq, true_and] at hat
  rw [← hat, h2]
  exact hK
/-- 'v := m[x]'. -/
theorem wpList_lookU (hg : o.guard = none) (m x : Operand) (t : TypeId) (hop : o.op = Op.lookup t m x false) (E : TypeId) (q : IntKind) (ht : Tryz.prog.underlying t = some (.map 22 E)) (he : Tryz.prog.underlying E = some (.int q)) (hz : (zeroValue E).run Tryz.prog w = .ok (.int q 0) w)
    (b n : Nat) (f : Int → Option Int) (hm : a.eval m = .map (some b)) (h : MapU w E q b n f) (key : Int) (hx : a.eval x = .int .u32 key) (k0 : 0 ≤ key) (k1 : key < 4294967296)
    (hK : wpList Tryz.prog ops Q rest (a.put o.dst (.int q ((f key).getD 0))) w) : wpList Tryz.prog ops Q (o :: rest) a w := by
  obtain ⟨D, h1, h2, h3⟩ := h
  refine wpList_lookup_own_int w hg m x t hop 22 E q keyU ht he hz b n D hm h1 _ _ hx (keyU_of k0 k1) ?_
  intro c hat _
  rw [h3] at hat
  simp only [DataW.lit.injEq, Lit.int.injEq, true_and] at hat
  rw [← hat]
  exact hK
/-- 'm[x] = v'. -/
theorem wpList_putU (hg : o.guard = none) (m x v : Operand) (t : TypeId) (hop : o.op = Op.mapUpdate t m x v) (E : TypeId) (q : IntKind) (ht : Tryz.prog.underlying t = some (.map 22 E)) (he : Tryz.prog.underlying E = some (.int q))
    (b n : Nat) (f : Int → Option Int) (hm : a.eval m = .map (some b)) (h : MapU w E q b n f) (hn : n < maxLen) (key val : Int) (hx : a.eval x = .int .u32 key) (k0 : 0 ≤ key) (k1 : key < 4294967296) (hv : a.eval v = .int q val) (hw : (Lit.int q val).wf = true)
    (hK : ∀ w', MapU w' E q b (n + 1) (fun y => if y = key then some val else f y) → w.grownBy w' (some b) → wpList Tryz.prog ops Q rest (a.put o.dst undef) w') : wpList Tryz.prog ops Q (o :: rest) a w := by
  obtain ⟨D, h1, h2, h3⟩ := h
  refine wpList_mapUpdate_own w hg m x v t hop 22 E keyU ht _ b n D hm h1 hn _ _ _ hx hv (keyU_of k0 k1) _ [] (plainElem_int he hw) ?_
  intro w' h4 h5
  exact hK w' (MapU.put h1.isMap h2 h3 h4) h5
end

end Go.Proofs.YtlcaedibmlidlaaGreat

/-
  Plain facts on strings as lists of numbers from 0 to 255: a text's words.
-/
namespace Go.Proofs.YtlcaedibmlidlaaGreat
open Go.RowKit

theorem size_list (s : ByteArray) : s.data.toList.length = s.size := by rw [Array.length_toList]; rfl

/-- A string's bytes, as numbers. -/
def strI (s : ByteArray) : List Int := s.data.toList.map fun b => (b.toNat : Int)

theorem strI_len (s : ByteArray) : (strI s).length = s.size := by rw [strI, List.length_map, size_list]
theorem strI_within (s : ByteArray) : Within 256 (strI s) := by
  intro z hz
  simp only [strI, List.mem_map] at hz
  obtain ⟨b, _, rfl⟩ := hz
  have := b.toNat_lt
  omega
theorem nth_strI (s : ByteArray) (k : Nat) (h : k < s.size) : nth (strI s) k = (s[k].toNat : Int) := by
  have h' : k < s.data.toList.length := by rw [size_list]; exact h
  have e : s[k] = s.data.toList[k] := rfl
  rw [e]
  have h2 : (strI s)[k]? = some ((s.data.toList[k].toNat : Int)) := by rw [strI, List.getElem?_map, List.getElem?_eq_getElem h']; rfl
  rw [nth, List.getD, h2]; rfl
/-- No byte 0. -/
def NoNul (s : ByteArray) : Prop := ∀ k, k < s.size → nth (strI s) k ≠ 0

theorem index_none (s : ByteArray) (h : NoNul s) : Lib.indexByte s.data.toList (0 : Int).toNat.toUInt8 = -1 := by
  have hge := Lib.indexByte_ge s.data.toList (0 : Int).toNat.toUInt8
  apply Classical.byContradiction
  intro hne
  obtain ⟨o, ho⟩ : ∃ o : Nat, Lib.indexByte s.data.toList (0 : Int).toNat.toUInt8 = o := ⟨(Lib.indexByte s.data.toList (0 : Int).toNat.toUInt8).toNat, by omega⟩
  have := (Lib.indexByte_some ho).1
  have hlt : o < s.data.toList.length := by
    rcases Nat.lt_or_ge o s.data.toList.length with h1 | h1
    · exact h1
    · rw [List.getElem?_eq_none h1] at this; simp at this
  have hs : o < s.size := by rw [← size_list]; exact hlt
  apply h o hs
  rw [nth_strI s o hs]
  have e : s[o] = s.data.toList[o] := rfl
  rw [List.getElem?_eq_getElem hlt] at this
  rw [e, Option.some.inj this]
  rfl
theorem index_some (s : ByteArray) (k : Nat) (hk : k < s.size) (h : nth (strI s) k = 0) : 0 ≤ Lib.indexByte s.data.toList (0 : Int).toNat.toUInt8 := by
  have hge := Lib.indexByte_ge s.data.toList (0 : Int).toNat.toUInt8
  apply Classical.byContradiction
  intro hne
  have hm : Lib.indexByte s.data.toList (0 : Int).toNat.toUInt8 = -1 := by omega
  have := Lib.indexByte_none hm k
  have hlt : k < s.data.toList.length := by rw [size_list]; exact hk
  apply this
  rw [List.getElem?_eq_getElem hlt]
  rw [nth_strI s k hk] at h
  have e : s[k] = s.data.toList[k] := rfl
  rw [e] at h
  have : s.data.toList[k].toNat = 0 := by omega
  exact congrArg some (UInt8.toNat_inj.1 this)

/-- A text's bytes, a byte 0, and as many more as make whole words. -/
def padI (s : ByteArray) : List Int := filled (strI s) s.size (4 * (s.size / 4 + 1))
/-- A text's words. -/
def textW (s : ByteArray) : List Int := splitL (padI s)

theorem padI_len (s : ByteArray) : (padI s).length = 4 * (s.size / 4 + 1) := filled_len _ _ _ (by omega) (by rw [strI_len]; omega)
theorem textW_len (s : ByteArray) : (textW s).length = s.size / 4 + 1 := by rw [textW, splitL_len, padI_len]; omega
theorem padI_lo (s : ByteArray) (k : Nat) (h : k < s.size) : nth (padI s) k = nth (strI s) k := by
  have e : (strI s).take s.size = strI s := List.take_of_length_le (by rw [strI_len]; omega)
  rw [padI, filled, e, getD_left _ _ _ (by rw [strI_len]; exact h)]
theorem padI_hi (s : ByteArray) (k : Nat) (h : s.size ≤ k) : nth (padI s) k = 0 := by
  have e : (strI s).take s.size = strI s := List.take_of_length_le (by rw [strI_len]; omega)
  rw [padI, filled, e, getD_right _ _ _ (by rw [strI_len]; exact h)]
  simp only [nth, List.getD, List.getElem?_replicate]
  split <;> rfl
theorem padI_within (s : ByteArray) : Within 256 (padI s) := by
  intro z hz
  simp only [padI, filled, List.mem_append, List.mem_replicate] at hz
  rcases hz with hz | ⟨_, rfl⟩
  · exact strI_within s z (List.mem_of_mem_take hz)
  · omega
/-- What lies behind the text's bytes is 0: the row is whole when they are in it. -/
theorem partL_padI (s : ByteArray) : partL (padI s) s.size (s.size / 4 + 1) = textW s := by
  have h := partL_whole (padI s) (by rw [padI_len]; omega)
  rw [padI_len, show 4 * (s.size / 4 + 1) / 4 = s.size / 4 + 1 by omega] at h
  rw [textW, ← h]
  unfold partL
  apply List.map_congr_left
  intro k hk
  have hk' : k < s.size / 4 + 1 := List.mem_range.1 hk
  unfold partW
  rw [if_pos (show 4 * k < 4 * (s.size / 4 + 1) by omega), if_pos (show 4 * k + 1 < 4 * (s.size / 4 + 1) by omega), if_pos (show 4 * k + 2 < 4 * (s.size / 4 + 1) by omega), if_pos (show 4 * k + 3 < 4 * (s.size / 4 + 1) by omega)]
  have f : ∀ i, (if i < s.size then nth (padI s) i else 0) = nth (padI s) i := fun i => by
    split
    · rfl
    · rw [padI_hi s i (by omega)]
  have f' : ∀ i (c : Int), (if i < s.size then nth (padI s) i * c else 0) = nth (padI s) i * c := fun i c => by
    split
    · rfl
    · rw [padI_hi s i (by omega)]; omega
  rw [f, f', f', f']

end Go.Proofs.YtlcaedibmlidlaaGreat

/-
  The tables of the layer grammar, as the program and the document's answer have them: texts by numbers, forms by operations, names of enumerants.
-/
namespace Go.Proofs.YtlcaedibmlidlaaGreat
open Go.RowKit
set_option linter.unusedVariables false

def namingT : List (Int × ByteArray) := [
  (1, ⟨#[79, 112, 85, 110, 100, 101, 102, 47, 116, 114, 47, 47, 47, 48, 47, 55]⟩),
  (3, ⟨#[79, 112, 83, 111, 117, 114, 99, 101, 47, 47, 108, 110, 47, 47, 48, 47, 52]⟩),
  (5, ⟨#[79, 112, 78, 97, 109, 101, 47, 47, 105, 115, 47, 47, 48, 47, 53]⟩),
  (6, ⟨#[79, 112, 77, 101, 109, 98, 101, 114, 78, 97, 109, 101, 47, 47, 105, 110, 115, 47, 47, 48, 47, 53]⟩),
  (7, ⟨#[79, 112, 83, 116, 114, 105, 110, 103, 47, 114, 47, 115, 47, 47, 48, 47, 52]⟩),
  (14, ⟨#[79, 112, 77, 101, 109, 111, 114, 121, 77, 111, 100, 101, 108, 47, 47, 97, 109, 47, 47, 48, 47, 49]⟩),
  (15, ⟨#[79, 112, 69, 110, 116, 114, 121, 80, 111, 105, 110, 116, 47, 47, 101, 105, 115, 47, 105, 47, 48, 47, 50]⟩),
  (16, ⟨#[79, 112, 69, 120, 101, 99, 117, 116, 105, 111, 110, 77, 111, 100, 101, 47, 47, 105, 120, 47, 47, 48, 47, 51]⟩),
  (17, ⟨#[79, 112, 67, 97, 112, 97, 98, 105, 108, 105, 116, 121, 47, 47, 107, 47, 47, 48, 47, 48]⟩),
  (19, ⟨#[79, 112, 84, 121, 112, 101, 86, 111, 105, 100, 47, 114, 47, 47, 47, 48, 47, 55]⟩),
  (20, ⟨#[79, 112, 84, 121, 112, 101, 66, 111, 111, 108, 47, 114, 47, 47, 47, 48, 47, 55]⟩),
  (21, ⟨#[79, 112, 84, 121, 112, 101, 73, 110, 116, 47, 114, 47, 110, 110, 47, 47, 48, 47, 55]⟩),
  (23, ⟨#[79, 112, 84, 121, 112, 101, 86, 101, 99, 116, 111, 114, 47, 114, 47, 105, 110, 47, 47, 48, 47, 55]⟩),
  (28, ⟨#[79, 112, 84, 121, 112, 101, 65, 114, 114, 97, 121, 47, 114, 47, 105, 105, 47, 47, 48, 47, 55]⟩),
  (30, ⟨#[79, 112, 84, 121, 112, 101, 83, 116, 114, 117, 99, 116, 47, 114, 47, 47, 105, 47, 48, 47, 55]⟩),
  (32, ⟨#[79, 112, 84, 121, 112, 101, 80, 111, 105, 110, 116, 101, 114, 47, 114, 47, 99, 105, 47, 47, 48, 47, 55]⟩),
  (33, ⟨#[79, 112, 84, 121, 112, 101, 70, 117, 110, 99, 116, 105, 111, 110, 47, 114, 47, 105, 47, 105, 47, 48, 47, 55]⟩)]

def makingT : List (Int × ByteArray) := [
  (41, ⟨#[79, 112, 67, 111, 110, 115, 116, 97, 110, 116, 84, 114, 117, 101, 47, 116, 114, 47, 47, 47, 48, 47, 55]⟩),
  (42, ⟨#[79, 112, 67, 111, 110, 115, 116, 97, 110, 116, 70, 97, 108, 115, 101, 47, 116, 114, 47, 47, 47, 48, 47, 55]⟩),
  (43, ⟨#[79, 112, 67, 111, 110, 115, 116, 97, 110, 116, 47, 116, 114, 47, 110, 47, 47, 48, 47, 55]⟩),
  (44, ⟨#[79, 112, 67, 111, 110, 115, 116, 97, 110, 116, 67, 111, 109, 112, 111, 115, 105, 116, 101, 47, 116, 114, 47, 47, 105, 47, 48, 47, 55]⟩),
  (46, ⟨#[79, 112, 67, 111, 110, 115, 116, 97, 110, 116, 78, 117, 108, 108, 47, 116, 114, 47, 47, 47, 48, 47, 55]⟩),
  (54, ⟨#[79, 112, 70, 117, 110, 99, 116, 105, 111, 110, 47, 116, 114, 47, 102, 105, 47, 47, 48, 47, 56]⟩),
  (55, ⟨#[79, 112, 70, 117, 110, 99, 116, 105, 111, 110, 80, 97, 114, 97, 109, 101, 116, 101, 114, 47, 116, 114, 47, 47, 47, 48, 47, 56]⟩),
  (56, ⟨#[79, 112, 70, 117, 110, 99, 116, 105, 111, 110, 69, 110, 100, 47, 47, 47, 47, 48, 47, 56]⟩),
  (57, ⟨#[79, 112, 70, 117, 110, 99, 116, 105, 111, 110, 67, 97, 108, 108, 47, 116, 114, 47, 105, 47, 105, 47, 48, 47, 56]⟩),
  (59, ⟨#[79, 112, 86, 97, 114, 105, 97, 98, 108, 101, 47, 116, 114, 47, 99, 47, 105, 47, 49, 47, 55]⟩),
  (61, ⟨#[79, 112, 76, 111, 97, 100, 47, 116, 114, 47, 105, 47, 47, 48, 47, 56]⟩),
  (62, ⟨#[79, 112, 83, 116, 111, 114, 101, 47, 47, 105, 105, 47, 47, 48, 47, 56]⟩),
  (65, ⟨#[79, 112, 65, 99, 99, 101, 115, 115, 67, 104, 97, 105, 110, 47, 116, 114, 47, 105, 47, 105, 47, 48, 47, 56]⟩),
  (71, ⟨#[79, 112, 68, 101, 99, 111, 114, 97, 116, 101, 47, 47, 105, 100, 47, 110, 47, 48, 47, 54]⟩),
  (77, ⟨#[79, 112, 86, 101, 99, 116, 111, 114, 69, 120, 116, 114, 97, 99, 116, 68, 121, 110, 97, 109, 105, 99, 47, 116, 114, 47, 105, 105, 47, 47, 48, 47, 56]⟩),
  (78, ⟨#[79, 112, 86, 101, 99, 116, 111, 114, 73, 110, 115, 101, 114, 116, 68, 121, 110, 97, 109, 105, 99, 47, 116, 114, 47, 105, 105, 105, 47, 47, 48, 47, 56]⟩),
  (79, ⟨#[79, 112, 86, 101, 99, 116, 111, 114, 83, 104, 117, 102, 102, 108, 101, 47, 116, 114, 47, 105, 105, 47, 110, 47, 48, 47, 56]⟩),
  (80, ⟨#[79, 112, 67, 111, 109, 112, 111, 115, 105, 116, 101, 67, 111, 110, 115, 116, 114, 117, 99, 116, 47, 116, 114, 47, 47, 105, 47, 48, 47, 56]⟩),
  (81, ⟨#[79, 112, 67, 111, 109, 112, 111, 115, 105, 116, 101, 69, 120, 116, 114, 97, 99, 116, 47, 116, 114, 47, 105, 47, 110, 47, 48, 47, 56]⟩),
  (82, ⟨#[79, 112, 67, 111, 109, 112, 111, 115, 105, 116, 101, 73, 110, 115, 101, 114, 116, 47, 116, 114, 47, 105, 105, 47, 110, 47, 48, 47, 56]⟩),
  (83, ⟨#[79, 112, 67, 111, 112, 121, 79, 98, 106, 101, 99, 116, 47, 116, 114, 47, 105, 47, 47, 48, 47, 56]⟩)]

def countingT : List (Int × ByteArray) := [
  (124, ⟨#[79, 112, 66, 105, 116, 99, 97, 115, 116, 47, 116, 114, 47, 105, 47, 47, 48, 47, 56]⟩),
  (126, ⟨#[79, 112, 83, 78, 101, 103, 97, 116, 101, 47, 116, 114, 47, 105, 47, 47, 48, 47, 56]⟩),
  (128, ⟨#[79, 112, 73, 65, 100, 100, 47, 116, 114, 47, 105, 105, 47, 47, 48, 47, 56]⟩),
  (130, ⟨#[79, 112, 73, 83, 117, 98, 47, 116, 114, 47, 105, 105, 47, 47, 48, 47, 56]⟩),
  (132, ⟨#[79, 112, 73, 77, 117, 108, 47, 116, 114, 47, 105, 105, 47, 47, 48, 47, 56]⟩),
  (134, ⟨#[79, 112, 85, 68, 105, 118, 47, 116, 114, 47, 105, 105, 47, 47, 48, 47, 56]⟩),
  (135, ⟨#[79, 112, 83, 68, 105, 118, 47, 116, 114, 47, 105, 105, 47, 47, 48, 47, 56]⟩),
  (137, ⟨#[79, 112, 85, 77, 111, 100, 47, 116, 114, 47, 105, 105, 47, 47, 48, 47, 56]⟩),
  (138, ⟨#[79, 112, 83, 82, 101, 109, 47, 116, 114, 47, 105, 105, 47, 47, 48, 47, 56]⟩),
  (139, ⟨#[79, 112, 83, 77, 111, 100, 47, 116, 114, 47, 105, 105, 47, 47, 48, 47, 56]⟩),
  (149, ⟨#[79, 112, 73, 65, 100, 100, 67, 97, 114, 114, 121, 47, 116, 114, 47, 105, 105, 47, 47, 48, 47, 56]⟩),
  (150, ⟨#[79, 112, 73, 83, 117, 98, 66, 111, 114, 114, 111, 119, 47, 116, 114, 47, 105, 105, 47, 47, 48, 47, 56]⟩),
  (151, ⟨#[79, 112, 85, 77, 117, 108, 69, 120, 116, 101, 110, 100, 101, 100, 47, 116, 114, 47, 105, 105, 47, 47, 48, 47, 56]⟩),
  (152, ⟨#[79, 112, 83, 77, 117, 108, 69, 120, 116, 101, 110, 100, 101, 100, 47, 116, 114, 47, 105, 105, 47, 47, 48, 47, 56]⟩),
  (154, ⟨#[79, 112, 65, 110, 121, 47, 116, 114, 47, 105, 47, 47, 48, 47, 56]⟩),
  (155, ⟨#[79, 112, 65, 108, 108, 47, 116, 114, 47, 105, 47, 47, 48, 47, 56]⟩)]

def comparingT : List (Int × ByteArray) := [
  (164, ⟨#[79, 112, 76, 111, 103, 105, 99, 97, 108, 69, 113, 117, 97, 108, 47, 116, 114, 47, 105, 105, 47, 47, 48, 47, 56]⟩),
  (165, ⟨#[79, 112, 76, 111, 103, 105, 99, 97, 108, 78, 111, 116, 69, 113, 117, 97, 108, 47, 116, 114, 47, 105, 105, 47, 47, 48, 47, 56]⟩),
  (166, ⟨#[79, 112, 76, 111, 103, 105, 99, 97, 108, 79, 114, 47, 116, 114, 47, 105, 105, 47, 47, 48, 47, 56]⟩),
  (167, ⟨#[79, 112, 76, 111, 103, 105, 99, 97, 108, 65, 110, 100, 47, 116, 114, 47, 105, 105, 47, 47, 48, 47, 56]⟩),
  (168, ⟨#[79, 112, 76, 111, 103, 105, 99, 97, 108, 78, 111, 116, 47, 116, 114, 47, 105, 47, 47, 48, 47, 56]⟩),
  (169, ⟨#[79, 112, 83, 101, 108, 101, 99, 116, 47, 116, 114, 47, 105, 105, 105, 47, 47, 48, 47, 56]⟩),
  (170, ⟨#[79, 112, 73, 69, 113, 117, 97, 108, 47, 116, 114, 47, 105, 105, 47, 47, 48, 47, 56]⟩),
  (171, ⟨#[79, 112, 73, 78, 111, 116, 69, 113, 117, 97, 108, 47, 116, 114, 47, 105, 105, 47, 47, 48, 47, 56]⟩),
  (172, ⟨#[79, 112, 85, 71, 114, 101, 97, 116, 101, 114, 84, 104, 97, 110, 47, 116, 114, 47, 105, 105, 47, 47, 48, 47, 56]⟩),
  (173, ⟨#[79, 112, 83, 71, 114, 101, 97, 116, 101, 114, 84, 104, 97, 110, 47, 116, 114, 47, 105, 105, 47, 47, 48, 47, 56]⟩),
  (174, ⟨#[79, 112, 85, 71, 114, 101, 97, 116, 101, 114, 84, 104, 97, 110, 69, 113, 117, 97, 108, 47, 116, 114, 47, 105, 105, 47, 47, 48, 47, 56]⟩),
  (175, ⟨#[79, 112, 83, 71, 114, 101, 97, 116, 101, 114, 84, 104, 97, 110, 69, 113, 117, 97, 108, 47, 116, 114, 47, 105, 105, 47, 47, 48, 47, 56]⟩),
  (176, ⟨#[79, 112, 85, 76, 101, 115, 115, 84, 104, 97, 110, 47, 116, 114, 47, 105, 105, 47, 47, 48, 47, 56]⟩),
  (177, ⟨#[79, 112, 83, 76, 101, 115, 115, 84, 104, 97, 110, 47, 116, 114, 47, 105, 105, 47, 47, 48, 47, 56]⟩),
  (178, ⟨#[79, 112, 85, 76, 101, 115, 115, 84, 104, 97, 110, 69, 113, 117, 97, 108, 47, 116, 114, 47, 105, 105, 47, 47, 48, 47, 56]⟩),
  (179, ⟨#[79, 112, 83, 76, 101, 115, 115, 84, 104, 97, 110, 69, 113, 117, 97, 108, 47, 116, 114, 47, 105, 105, 47, 47, 48, 47, 56]⟩)]

def bitT : List (Int × ByteArray) := [
  (194, ⟨#[79, 112, 83, 104, 105, 102, 116, 82, 105, 103, 104, 116, 76, 111, 103, 105, 99, 97, 108, 47, 116, 114, 47, 105, 105, 47, 47, 48, 47, 56]⟩),
  (195, ⟨#[79, 112, 83, 104, 105, 102, 116, 82, 105, 103, 104, 116, 65, 114, 105, 116, 104, 109, 101, 116, 105, 99, 47, 116, 114, 47, 105, 105, 47, 47, 48, 47, 56]⟩),
  (196, ⟨#[79, 112, 83, 104, 105, 102, 116, 76, 101, 102, 116, 76, 111, 103, 105, 99, 97, 108, 47, 116, 114, 47, 105, 105, 47, 47, 48, 47, 56]⟩),
  (197, ⟨#[79, 112, 66, 105, 116, 119, 105, 115, 101, 79, 114, 47, 116, 114, 47, 105, 105, 47, 47, 48, 47, 56]⟩),
  (198, ⟨#[79, 112, 66, 105, 116, 119, 105, 115, 101, 88, 111, 114, 47, 116, 114, 47, 105, 105, 47, 47, 48, 47, 56]⟩),
  (199, ⟨#[79, 112, 66, 105, 116, 119, 105, 115, 101, 65, 110, 100, 47, 116, 114, 47, 105, 105, 47, 47, 48, 47, 56]⟩),
  (200, ⟨#[79, 112, 78, 111, 116, 47, 116, 114, 47, 105, 47, 47, 48, 47, 56]⟩),
  (201, ⟨#[79, 112, 66, 105, 116, 70, 105, 101, 108, 100, 73, 110, 115, 101, 114, 116, 47, 116, 114, 47, 105, 105, 105, 105, 47, 47, 48, 47, 56]⟩),
  (202, ⟨#[79, 112, 66, 105, 116, 70, 105, 101, 108, 100, 83, 69, 120, 116, 114, 97, 99, 116, 47, 116, 114, 47, 105, 105, 105, 47, 47, 48, 47, 56]⟩),
  (203, ⟨#[79, 112, 66, 105, 116, 70, 105, 101, 108, 100, 85, 69, 120, 116, 114, 97, 99, 116, 47, 116, 114, 47, 105, 105, 105, 47, 47, 48, 47, 56]⟩),
  (204, ⟨#[79, 112, 66, 105, 116, 82, 101, 118, 101, 114, 115, 101, 47, 116, 114, 47, 105, 47, 47, 48, 47, 56]⟩),
  (205, ⟨#[79, 112, 66, 105, 116, 67, 111, 117, 110, 116, 47, 116, 114, 47, 105, 47, 47, 48, 47, 56]⟩)]

def flowT : List (Int × ByteArray) := [
  (245, ⟨#[79, 112, 80, 104, 105, 47, 116, 114, 47, 47, 105, 105, 47, 48, 47, 56]⟩),
  (246, ⟨#[79, 112, 76, 111, 111, 112, 77, 101, 114, 103, 101, 47, 47, 105, 105, 103, 47, 47, 48, 47, 56]⟩),
  (247, ⟨#[79, 112, 83, 101, 108, 101, 99, 116, 105, 111, 110, 77, 101, 114, 103, 101, 47, 47, 105, 104, 47, 47, 48, 47, 56]⟩),
  (248, ⟨#[79, 112, 76, 97, 98, 101, 108, 47, 114, 47, 47, 47, 48, 47, 56]⟩),
  (249, ⟨#[79, 112, 66, 114, 97, 110, 99, 104, 47, 47, 105, 47, 47, 48, 47, 56]⟩),
  (250, ⟨#[79, 112, 66, 114, 97, 110, 99, 104, 67, 111, 110, 100, 105, 116, 105, 111, 110, 97, 108, 47, 47, 105, 105, 105, 47, 47, 48, 47, 56]⟩),
  (251, ⟨#[79, 112, 83, 119, 105, 116, 99, 104, 47, 47, 105, 105, 47, 110, 105, 47, 48, 47, 56]⟩),
  (252, ⟨#[79, 112, 75, 105, 108, 108, 47, 47, 47, 47, 48, 47, 56]⟩),
  (253, ⟨#[79, 112, 82, 101, 116, 117, 114, 110, 47, 47, 47, 47, 48, 47, 56]⟩),
  (254, ⟨#[79, 112, 82, 101, 116, 117, 114, 110, 86, 97, 108, 117, 101, 47, 47, 105, 47, 47, 48, 47, 56]⟩),
  (255, ⟨#[79, 112, 85, 110, 114, 101, 97, 99, 104, 97, 98, 108, 101, 47, 47, 47, 47, 48, 47, 56]⟩)]

def enumT : List (Int × ByteArray) := [
  (107, ⟨#[48, 58, 77, 97, 116, 114, 105, 120, 59, 49, 58, 83, 104, 97, 100, 101, 114, 59]⟩),
  (97, ⟨#[48, 58, 76, 111, 103, 105, 99, 97, 108, 59]⟩),
  (109, ⟨#[48, 58, 83, 105, 109, 112, 108, 101, 59, 49, 58, 71, 76, 83, 76, 52, 53, 48, 59]⟩),
  (101, ⟨#[48, 58, 86, 101, 114, 116, 101, 120, 59, 52, 58, 70, 114, 97, 103, 109, 101, 110, 116, 59]⟩),
  (120, ⟨#[55, 58, 79, 114, 105, 103, 105, 110, 85, 112, 112, 101, 114, 76, 101, 102, 116, 59]⟩),
  (108, ⟨#[48, 58, 85, 110, 107, 110, 111, 119, 110, 59, 49, 58, 69, 83, 83, 76, 59, 50, 58, 71, 76, 83, 76, 59]⟩),
  (99, ⟨#[49, 58, 73, 110, 112, 117, 116, 59, 51, 58, 79, 117, 116, 112, 117, 116, 59, 54, 58, 80, 114, 105, 118, 97, 116, 101, 59, 55, 58, 70, 117, 110, 99, 116, 105, 111, 110, 59]⟩),
  (100, ⟨#[48, 58, 82, 101, 108, 97, 120, 101, 100, 80, 114, 101, 99, 105, 115, 105, 111, 110, 59, 49, 49, 58, 66, 117, 105, 108, 116, 73, 110, 59, 49, 52, 58, 70, 108, 97, 116, 59, 51, 48, 58, 76, 111, 99, 97, 116, 105, 111, 110, 59]⟩),
  (102, ⟨#[48, 58, 78, 111, 110, 101, 59, 49, 58, 73, 110, 108, 105, 110, 101, 59, 50, 58, 68, 111, 110, 116, 73, 110, 108, 105, 110, 101, 59, 52, 58, 80, 117, 114, 101, 59, 56, 58, 67, 111, 110, 115, 116, 59]⟩),
  (104, ⟨#[48, 58, 78, 111, 110, 101, 59, 49, 58, 70, 108, 97, 116, 116, 101, 110, 59, 50, 58, 68, 111, 110, 116, 70, 108, 97, 116, 116, 101, 110, 59]⟩),
  (103, ⟨#[48, 58, 78, 111, 110, 101, 59, 49, 58, 85, 110, 114, 111, 108, 108, 59, 50, 58, 68, 111, 110, 116, 85, 110, 114, 111, 108, 108, 59]⟩)]

/-- A form but for its operation: its name, whether it has a type and a result, Fixed, Rest, Most, Part. -/
abbrev Frm := ByteArray × Bool × Bool × ByteArray × ByteArray × Int × Int

def refT : List (Int × Frm) := [
  (1, ⟨#[79, 112, 85, 110, 100, 101, 102]⟩, true, true, ⟨#[]⟩, ⟨#[]⟩, 0, 7),
  (3, ⟨#[79, 112, 83, 111, 117, 114, 99, 101]⟩, false, false, ⟨#[108, 110]⟩, ⟨#[]⟩, 0, 4),
  (5, ⟨#[79, 112, 78, 97, 109, 101]⟩, false, false, ⟨#[105, 115]⟩, ⟨#[]⟩, 0, 5),
  (6, ⟨#[79, 112, 77, 101, 109, 98, 101, 114, 78, 97, 109, 101]⟩, false, false, ⟨#[105, 110, 115]⟩, ⟨#[]⟩, 0, 5),
  (7, ⟨#[79, 112, 83, 116, 114, 105, 110, 103]⟩, false, true, ⟨#[115]⟩, ⟨#[]⟩, 0, 4),
  (14, ⟨#[79, 112, 77, 101, 109, 111, 114, 121, 77, 111, 100, 101, 108]⟩, false, false, ⟨#[97, 109]⟩, ⟨#[]⟩, 0, 1),
  (15, ⟨#[79, 112, 69, 110, 116, 114, 121, 80, 111, 105, 110, 116]⟩, false, false, ⟨#[101, 105, 115]⟩, ⟨#[105]⟩, 0, 2),
  (16, ⟨#[79, 112, 69, 120, 101, 99, 117, 116, 105, 111, 110, 77, 111, 100, 101]⟩, false, false, ⟨#[105, 120]⟩, ⟨#[]⟩, 0, 3),
  (17, ⟨#[79, 112, 67, 97, 112, 97, 98, 105, 108, 105, 116, 121]⟩, false, false, ⟨#[107]⟩, ⟨#[]⟩, 0, 0),
  (19, ⟨#[79, 112, 84, 121, 112, 101, 86, 111, 105, 100]⟩, false, true, ⟨#[]⟩, ⟨#[]⟩, 0, 7),
  (20, ⟨#[79, 112, 84, 121, 112, 101, 66, 111, 111, 108]⟩, false, true, ⟨#[]⟩, ⟨#[]⟩, 0, 7),
  (21, ⟨#[79, 112, 84, 121, 112, 101, 73, 110, 116]⟩, false, true, ⟨#[110, 110]⟩, ⟨#[]⟩, 0, 7),
  (23, ⟨#[79, 112, 84, 121, 112, 101, 86, 101, 99, 116, 111, 114]⟩, false, true, ⟨#[105, 110]⟩, ⟨#[]⟩, 0, 7),
  (28, ⟨#[79, 112, 84, 121, 112, 101, 65, 114, 114, 97, 121]⟩, false, true, ⟨#[105, 105]⟩, ⟨#[]⟩, 0, 7),
  (30, ⟨#[79, 112, 84, 121, 112, 101, 83, 116, 114, 117, 99, 116]⟩, false, true, ⟨#[]⟩, ⟨#[105]⟩, 0, 7),
  (32, ⟨#[79, 112, 84, 121, 112, 101, 80, 111, 105, 110, 116, 101, 114]⟩, false, true, ⟨#[99, 105]⟩, ⟨#[]⟩, 0, 7),
  (33, ⟨#[79, 112, 84, 121, 112, 101, 70, 117, 110, 99, 116, 105, 111, 110]⟩, false, true, ⟨#[105]⟩, ⟨#[105]⟩, 0, 7),
  (41, ⟨#[79, 112, 67, 111, 110, 115, 116, 97, 110, 116, 84, 114, 117, 101]⟩, true, true, ⟨#[]⟩, ⟨#[]⟩, 0, 7),
  (42, ⟨#[79, 112, 67, 111, 110, 115, 116, 97, 110, 116, 70, 97, 108, 115, 101]⟩, true, true, ⟨#[]⟩, ⟨#[]⟩, 0, 7),
  (43, ⟨#[79, 112, 67, 111, 110, 115, 116, 97, 110, 116]⟩, true, true, ⟨#[110]⟩, ⟨#[]⟩, 0, 7),
  (44, ⟨#[79, 112, 67, 111, 110, 115, 116, 97, 110, 116, 67, 111, 109, 112, 111, 115, 105, 116, 101]⟩, true, true, ⟨#[]⟩, ⟨#[105]⟩, 0, 7),
  (46, ⟨#[79, 112, 67, 111, 110, 115, 116, 97, 110, 116, 78, 117, 108, 108]⟩, true, true, ⟨#[]⟩, ⟨#[]⟩, 0, 7),
  (54, ⟨#[79, 112, 70, 117, 110, 99, 116, 105, 111, 110]⟩, true, true, ⟨#[102, 105]⟩, ⟨#[]⟩, 0, 8),
  (55, ⟨#[79, 112, 70, 117, 110, 99, 116, 105, 111, 110, 80, 97, 114, 97, 109, 101, 116, 101, 114]⟩, true, true, ⟨#[]⟩, ⟨#[]⟩, 0, 8),
  (56, ⟨#[79, 112, 70, 117, 110, 99, 116, 105, 111, 110, 69, 110, 100]⟩, false, false, ⟨#[]⟩, ⟨#[]⟩, 0, 8),
  (57, ⟨#[79, 112, 70, 117, 110, 99, 116, 105, 111, 110, 67, 97, 108, 108]⟩, true, true, ⟨#[105]⟩, ⟨#[105]⟩, 0, 8),
  (59, ⟨#[79, 112, 86, 97, 114, 105, 97, 98, 108, 101]⟩, true, true, ⟨#[99]⟩, ⟨#[105]⟩, 1, 7),
  (61, ⟨#[79, 112, 76, 111, 97, 100]⟩, true, true, ⟨#[105]⟩, ⟨#[]⟩, 0, 8),
  (62, ⟨#[79, 112, 83, 116, 111, 114, 101]⟩, false, false, ⟨#[105, 105]⟩, ⟨#[]⟩, 0, 8),
  (65, ⟨#[79, 112, 65, 99, 99, 101, 115, 115, 67, 104, 97, 105, 110]⟩, true, true, ⟨#[105]⟩, ⟨#[105]⟩, 0, 8),
  (71, ⟨#[79, 112, 68, 101, 99, 111, 114, 97, 116, 101]⟩, false, false, ⟨#[105, 100]⟩, ⟨#[110]⟩, 0, 6),
  (77, ⟨#[79, 112, 86, 101, 99, 116, 111, 114, 69, 120, 116, 114, 97, 99, 116, 68, 121, 110, 97, 109, 105, 99]⟩, true, true, ⟨#[105, 105]⟩, ⟨#[]⟩, 0, 8),
  (78, ⟨#[79, 112, 86, 101, 99, 116, 111, 114, 73, 110, 115, 101, 114, 116, 68, 121, 110, 97, 109, 105, 99]⟩, true, true, ⟨#[105, 105, 105]⟩, ⟨#[]⟩, 0, 8),
  (79, ⟨#[79, 112, 86, 101, 99, 116, 111, 114, 83, 104, 117, 102, 102, 108, 101]⟩, true, true, ⟨#[105, 105]⟩, ⟨#[110]⟩, 0, 8),
  (80, ⟨#[79, 112, 67, 111, 109, 112, 111, 115, 105, 116, 101, 67, 111, 110, 115, 116, 114, 117, 99, 116]⟩, true, true, ⟨#[]⟩, ⟨#[105]⟩, 0, 8),
  (81, ⟨#[79, 112, 67, 111, 109, 112, 111, 115, 105, 116, 101, 69, 120, 116, 114, 97, 99, 116]⟩, true, true, ⟨#[105]⟩, ⟨#[110]⟩, 0, 8),
  (82, ⟨#[79, 112, 67, 111, 109, 112, 111, 115, 105, 116, 101, 73, 110, 115, 101, 114, 116]⟩, true, true, ⟨#[105, 105]⟩, ⟨#[110]⟩, 0, 8),
  (83, ⟨#[79, 112, 67, 111, 112, 121, 79, 98, 106, 101, 99, 116]⟩, true, true, ⟨#[105]⟩, ⟨#[]⟩, 0, 8),
  (124, ⟨#[79, 112, 66, 105, 116, 99, 97, 115, 116]⟩, true, true, ⟨#[105]⟩, ⟨#[]⟩, 0, 8),
  (126, ⟨#[79, 112, 83, 78, 101, 103, 97, 116, 101]⟩, true, true, ⟨#[105]⟩, ⟨#[]⟩, 0, 8),
  (128, ⟨#[79, 112, 73, 65, 100, 100]⟩, true, true, ⟨#[105, 105]⟩, ⟨#[]⟩, 0, 8),
  (130, ⟨#[79, 112, 73, 83, 117, 98]⟩, true, true, ⟨#[105, 105]⟩, ⟨#[]⟩, 0, 8),
  (132, ⟨#[79, 112, 73, 77, 117, 108]⟩, true, true, ⟨#[105, 105]⟩, ⟨#[]⟩, 0, 8),
  (134, ⟨#[79, 112, 85, 68, 105, 118]⟩, true, true, ⟨#[105, 105]⟩, ⟨#[]⟩, 0, 8),
  (135, ⟨#[79, 112, 83, 68, 105, 118]⟩, true, true, ⟨#[105, 105]⟩, ⟨#[]⟩, 0, 8),
  (137, ⟨#[79, 112, 85, 77, 111, 100]⟩, true, true, ⟨#[105, 105]⟩, ⟨#[]⟩, 0, 8),
  (138, ⟨#[79, 112, 83, 82, 101, 109]⟩, true, true, ⟨#[105, 105]⟩, ⟨#[]⟩, 0, 8),
  (139, ⟨#[79, 112, 83, 77, 111, 100]⟩, true, true, ⟨#[105, 105]⟩, ⟨#[]⟩, 0, 8),
  (149, ⟨#[79, 112, 73, 65, 100, 100, 67, 97, 114, 114, 121]⟩, true, true, ⟨#[105, 105]⟩, ⟨#[]⟩, 0, 8),
  (150, ⟨#[79, 112, 73, 83, 117, 98, 66, 111, 114, 114, 111, 119]⟩, true, true, ⟨#[105, 105]⟩, ⟨#[]⟩, 0, 8),
  (151, ⟨#[79, 112, 85, 77, 117, 108, 69, 120, 116, 101, 110, 100, 101, 100]⟩, true, true, ⟨#[105, 105]⟩, ⟨#[]⟩, 0, 8),
  (152, ⟨#[79, 112, 83, 77, 117, 108, 69, 120, 116, 101, 110, 100, 101, 100]⟩, true, true, ⟨#[105, 105]⟩, ⟨#[]⟩, 0, 8),
  (154, ⟨#[79, 112, 65, 110, 121]⟩, true, true, ⟨#[105]⟩, ⟨#[]⟩, 0, 8),
  (155, ⟨#[79, 112, 65, 108, 108]⟩, true, true, ⟨#[105]⟩, ⟨#[]⟩, 0, 8),
  (164, ⟨#[79, 112, 76, 111, 103, 105, 99, 97, 108, 69, 113, 117, 97, 108]⟩, true, true, ⟨#[105, 105]⟩, ⟨#[]⟩, 0, 8),
  (165, ⟨#[79, 112, 76, 111, 103, 105, 99, 97, 108, 78, 111, 116, 69, 113, 117, 97, 108]⟩, true, true, ⟨#[105, 105]⟩, ⟨#[]⟩, 0, 8),
  (166, ⟨#[79, 112, 76, 111, 103, 105, 99, 97, 108, 79, 114]⟩, true, true, ⟨#[105, 105]⟩, ⟨#[]⟩, 0, 8),
  (167, ⟨#[79, 112, 76, 111, 103, 105, 99, 97, 108, 65, 110, 100]⟩, true, true, ⟨#[105, 105]⟩, ⟨#[]⟩, 0, 8),
  (168, ⟨#[79, 112, 76, 111, 103, 105, 99, 97, 108, 78, 111, 116]⟩, true, true, ⟨#[105]⟩, ⟨#[]⟩, 0, 8),
  (169, ⟨#[79, 112, 83, 101, 108, 101, 99, 116]⟩, true, true, ⟨#[105, 105, 105]⟩, ⟨#[]⟩, 0, 8),
  (170, ⟨#[79, 112, 73, 69, 113, 117, 97, 108]⟩, true, true, ⟨#[105, 105]⟩, ⟨#[]⟩, 0, 8),
  (171, ⟨#[79, 112, 73, 78, 111, 116, 69, 113, 117, 97, 108]⟩, true, true, ⟨#[105, 105]⟩, ⟨#[]⟩, 0, 8),
  (172, ⟨#[79, 112, 85, 71, 114, 101, 97, 116, 101, 114, 84, 104, 97, 110]⟩, true, true, ⟨#[105, 105]⟩, ⟨#[]⟩, 0, 8),
  (173, ⟨#[79, 112, 83, 71, 114, 101, 97, 116, 101, 114, 84, 104, 97, 110]⟩, true, true, ⟨#[105, 105]⟩, ⟨#[]⟩, 0, 8),
  (174, ⟨#[79, 112, 85, 71, 114, 101, 97, 116, 101, 114, 84, 104, 97, 110, 69, 113, 117, 97, 108]⟩, true, true, ⟨#[105, 105]⟩, ⟨#[]⟩, 0, 8),
  (175, ⟨#[79, 112, 83, 71, 114, 101, 97, 116, 101, 114, 84, 104, 97, 110, 69, 113, 117, 97, 108]⟩, true, true, ⟨#[105, 105]⟩, ⟨#[]⟩, 0, 8),
  (176, ⟨#[79, 112, 85, 76, 101, 115, 115, 84, 104, 97, 110]⟩, true, true, ⟨#[105, 105]⟩, ⟨#[]⟩, 0, 8),
  (177, ⟨#[79, 112, 83, 76, 101, 115, 115, 84, 104, 97, 110]⟩, true, true, ⟨#[105, 105]⟩, ⟨#[]⟩, 0, 8),
  (178, ⟨#[79, 112, 85, 76, 101, 115, 115, 84, 104, 97, 110, 69, 113, 117, 97, 108]⟩, true, true, ⟨#[105, 105]⟩, ⟨#[]⟩, 0, 8),
  (179, ⟨#[79, 112, 83, 76, 101, 115, 115, 84, 104, 97, 110, 69, 113, 117, 97, 108]⟩, true, true, ⟨#[105, 105]⟩, ⟨#[]⟩, 0, 8),
  (194, ⟨#[79, 112, 83, 104, 105, 102, 116, 82, 105, 103, 104, 116, 76, 111, 103, 105, 99, 97, 108]⟩, true, true, ⟨#[105, 105]⟩, ⟨#[]⟩, 0, 8),
  (195, ⟨#[79, 112, 83, 104, 105, 102, 116, 82, 105, 103, 104, 116, 65, 114, 105, 116, 104, 109, 101, 116, 105, 99]⟩, true, true, ⟨#[105, 105]⟩, ⟨#[]⟩, 0, 8),
  (196, ⟨#[79, 112, 83, 104, 105, 102, 116, 76, 101, 102, 116, 76, 111, 103, 105, 99, 97, 108]⟩, true, true, ⟨#[105, 105]⟩, ⟨#[]⟩, 0, 8),
  (197, ⟨#[79, 112, 66, 105, 116, 119, 105, 115, 101, 79, 114]⟩, true, true, ⟨#[105, 105]⟩, ⟨#[]⟩, 0, 8),
  (198, ⟨#[79, 112, 66, 105, 116, 119, 105, 115, 101, 88, 111, 114]⟩, true, true, ⟨#[105, 105]⟩, ⟨#[]⟩, 0, 8),
  (199, ⟨#[79, 112, 66, 105, 116, 119, 105, 115, 101, 65, 110, 100]⟩, true, true, ⟨#[105, 105]⟩, ⟨#[]⟩, 0, 8),
  (200, ⟨#[79, 112, 78, 111, 116]⟩, true, true, ⟨#[105]⟩, ⟨#[]⟩, 0, 8),
  (201, ⟨#[79, 112, 66, 105, 116, 70, 105, 101, 108, 100, 73, 110, 115, 101, 114, 116]⟩, true, true, ⟨#[105, 105, 105, 105]⟩, ⟨#[]⟩, 0, 8),
  (202, ⟨#[79, 112, 66, 105, 116, 70, 105, 101, 108, 100, 83, 69, 120, 116, 114, 97, 99, 116]⟩, true, true, ⟨#[105, 105, 105]⟩, ⟨#[]⟩, 0, 8),
  (203, ⟨#[79, 112, 66, 105, 116, 70, 105, 101, 108, 100, 85, 69, 120, 116, 114, 97, 99, 116]⟩, true, true, ⟨#[105, 105, 105]⟩, ⟨#[]⟩, 0, 8),
  (204, ⟨#[79, 112, 66, 105, 116, 82, 101, 118, 101, 114, 115, 101]⟩, true, true, ⟨#[105]⟩, ⟨#[]⟩, 0, 8),
  (205, ⟨#[79, 112, 66, 105, 116, 67, 111, 117, 110, 116]⟩, true, true, ⟨#[105]⟩, ⟨#[]⟩, 0, 8),
  (245, ⟨#[79, 112, 80, 104, 105]⟩, true, true, ⟨#[]⟩, ⟨#[105, 105]⟩, 0, 8),
  (246, ⟨#[79, 112, 76, 111, 111, 112, 77, 101, 114, 103, 101]⟩, false, false, ⟨#[105, 105, 103]⟩, ⟨#[]⟩, 0, 8),
  (247, ⟨#[79, 112, 83, 101, 108, 101, 99, 116, 105, 111, 110, 77, 101, 114, 103, 101]⟩, false, false, ⟨#[105, 104]⟩, ⟨#[]⟩, 0, 8),
  (248, ⟨#[79, 112, 76, 97, 98, 101, 108]⟩, false, true, ⟨#[]⟩, ⟨#[]⟩, 0, 8),
  (249, ⟨#[79, 112, 66, 114, 97, 110, 99, 104]⟩, false, false, ⟨#[105]⟩, ⟨#[]⟩, 0, 8),
  (250, ⟨#[79, 112, 66, 114, 97, 110, 99, 104, 67, 111, 110, 100, 105, 116, 105, 111, 110, 97, 108]⟩, false, false, ⟨#[105, 105, 105]⟩, ⟨#[]⟩, 0, 8),
  (251, ⟨#[79, 112, 83, 119, 105, 116, 99, 104]⟩, false, false, ⟨#[105, 105]⟩, ⟨#[110, 105]⟩, 0, 8),
  (252, ⟨#[79, 112, 75, 105, 108, 108]⟩, false, false, ⟨#[]⟩, ⟨#[]⟩, 0, 8),
  (253, ⟨#[79, 112, 82, 101, 116, 117, 114, 110]⟩, false, false, ⟨#[]⟩, ⟨#[]⟩, 0, 8),
  (254, ⟨#[79, 112, 82, 101, 116, 117, 114, 110, 86, 97, 108, 117, 101]⟩, false, false, ⟨#[105]⟩, ⟨#[]⟩, 0, 8),
  (255, ⟨#[79, 112, 85, 110, 114, 101, 97, 99, 104, 97, 98, 108, 101]⟩, false, false, ⟨#[]⟩, ⟨#[]⟩, 0, 8)]

/-- The enumerants: letter, number, name. -/
def namesT : List (Int × Int × ByteArray) := [
  (107, 0, ⟨#[77, 97, 116, 114, 105, 120]⟩),
  (107, 1, ⟨#[83, 104, 97, 100, 101, 114]⟩),
  (97, 0, ⟨#[76, 111, 103, 105, 99, 97, 108]⟩),
  (109, 0, ⟨#[83, 105, 109, 112, 108, 101]⟩),
  (109, 1, ⟨#[71, 76, 83, 76, 52, 53, 48]⟩),
  (101, 0, ⟨#[86, 101, 114, 116, 101, 120]⟩),
  (101, 4, ⟨#[70, 114, 97, 103, 109, 101, 110, 116]⟩),
  (120, 7, ⟨#[79, 114, 105, 103, 105, 110, 85, 112, 112, 101, 114, 76, 101, 102, 116]⟩),
  (108, 0, ⟨#[85, 110, 107, 110, 111, 119, 110]⟩),
  (108, 1, ⟨#[69, 83, 83, 76]⟩),
  (108, 2, ⟨#[71, 76, 83, 76]⟩),
  (99, 1, ⟨#[73, 110, 112, 117, 116]⟩),
  (99, 3, ⟨#[79, 117, 116, 112, 117, 116]⟩),
  (99, 6, ⟨#[80, 114, 105, 118, 97, 116, 101]⟩),
  (99, 7, ⟨#[70, 117, 110, 99, 116, 105, 111, 110]⟩),
  (100, 0, ⟨#[82, 101, 108, 97, 120, 101, 100, 80, 114, 101, 99, 105, 115, 105, 111, 110]⟩),
  (100, 11, ⟨#[66, 117, 105, 108, 116, 73, 110]⟩),
  (100, 14, ⟨#[70, 108, 97, 116]⟩),
  (100, 30, ⟨#[76, 111, 99, 97, 116, 105, 111, 110]⟩),
  (102, 0, ⟨#[78, 111, 110, 101]⟩),
  (102, 1, ⟨#[73, 110, 108, 105, 110, 101]⟩),
  (102, 2, ⟨#[68, 111, 110, 116, 73, 110, 108, 105, 110, 101]⟩),
  (102, 4, ⟨#[80, 117, 114, 101]⟩),
  (102, 8, ⟨#[67, 111, 110, 115, 116]⟩),
  (104, 0, ⟨#[78, 111, 110, 101]⟩),
  (104, 1, ⟨#[70, 108, 97, 116, 116, 101, 110]⟩),
  (104, 2, ⟨#[68, 111, 110, 116, 70, 108, 97, 116, 116, 101, 110]⟩),
  (103, 0, ⟨#[78, 111, 110, 101]⟩),
  (103, 1, ⟨#[85, 110, 114, 111, 108, 108]⟩),
  (103, 2, ⟨#[68, 111, 110, 116, 85, 110, 114, 111, 108, 108]⟩)]

end Go.Proofs.YtlcaedibmlidlaaGreat
