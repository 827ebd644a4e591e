/-
  Texts laid together in one: ArgInsts, CodeIds, MathPr, Slots, MapU, DrawLies.
-/
import Derived.ProofKit
import Derived.OpenShut
import Derived.SizedLaws
import Derived.Deep.Slices
import Derived.Deep.SlicePairs
import Derived.Lib.SmallJoins
import Derived.Test.YtjckgnpbjekhbaaProg
import Derived.Test.YtjckgnpbjekhbaaB01
import Derived.WalkSpells
import Derived.WalkMore
import Derived.Laws.AppendOwn
import Derived.Test.YtjckgnpbjekhbaaB07
import Derived.WalkKit
import Derived.Maps.OwnSet
import Derived.OrdersIn
import Derived.Deep.AppendLies
/-
  What an argument that is an instruction, or a slice of instructions, holds: all within their bounds, each list within the reach of memory.
-/
namespace Go.Proofs.Ytjckgnpbjekhbaa
open Go.ChangeShapes Go.WideShapes Go.ChangeAt Go.RowKit
set_option maxRecDepth 100000

theorem ArgInsts.cellsA : Try.prog.cellsOf 55 = 3 := by kernel_rfl
theorem ArgInsts.cells8 : Try.prog.cellsOf 5 = 1 := by kernel_rfl
theorem ArgInsts.cells32 : Try.prog.cellsOf 22 = 1 := by kernel_rfl
theorem ArgInsts.cellsS : Try.prog.cellsOf 9 = 1 := by kernel_rfl
theorem ArgInsts.bytesA : Try.prog.bytesOf 55 = 24 := by kernel_rfl
theorem ArgInsts.cells16 : Try.prog.cellsOf 35 = 1 := by kernel_rfl
theorem ArgInsts.cellsL : Try.prog.cellsOf 36 = 1 := by kernel_rfl

theorem ArgInsts.cellsI : Try.prog.cellsOf 38 = 4 := by kernel_rfl
theorem ArgInsts.bytesI : Try.prog.bytesOf 38 = 40 := by kernel_rfl

theorem weightsIn {H : Type} {P : Program} {e : TypeId} : ∀ {l : List (DataW H)} {d : DataW H}, d ∈ l → ∀ n ∈ d.weights P e, n ∈ DataW.weightsAll P e l
  | d0 :: l, d, hd, n, hn => by
    simp only [DataW.weightsAll, List.mem_append]
    rcases List.mem_cons.1 hd with rfl | h
    · exact Or.inl hn
    · exact Or.inr (weightsIn h n hn)

theorem argsV_mk {w : World} {x : Addr} {n : Nat} {f : Nat → ArgT} (h : ∀ i, i < n → w.cell? (x.add (i * 3)) = some (.int .u8 (f i).1) ∧ w.cell? (x.add (i * 3 + 1)) = some (.int .u32 (f i).2.1) ∧ w.cell? (x.add (i * 3 + 2)) = some (.string (f i).2.2)) : ArgsV w (some x) ((List.range n).map f) := by
  intro j hj
  rw [List.length_map, List.length_range] at hj
  have h0 := (h 0 (by omega)).1
  obtain ⟨b, off, spot⟩ := x
  have hs : spot = none := by simpa [Addr.add] using World.cell?_spot h0
  subst hs
  obtain ⟨h1, h2, h3⟩ := h j hj
  rw [Addr.add_lit] at h1 h2 h3
  have e : nthA ((List.range n).map f) j = f j := by simp [nthA, List.getD, hj]
  rw [e]
  exact ⟨b, off, rfl, World.block_lt_of_cell? _ _ h1, h1, by rw [Nat.add_assoc]; exact h2, by rw [Nat.add_assoc]; exact h3⟩

set_option maxHeartbeats 1000000 in
theorem open_args {H : Type} {enc : TypeId × Value → H} {w : World} {base fuel : Nat} {held : Bool} {a : Option Addr} {len cap : Nat} {d : DataW H} {ps : List MemPlace}
    (hf : DataW.trod enc Try.prog w base (fun _ => true) held fuel 36 [.slice a len cap] = some (d, ps)) (hs : ∀ n ∈ d.weights Try.prog 36, n ≤ reachBytes) :
    ∃ l : List ArgT, l.length = len ∧ ArgsV w a l ∧ ArgsOk l ∧ 24 * len ≤ 140737488351232 ∧ len ≤ cap := by
  rcases Go.Deep.open_slice Try.underlying36 hf with ⟨hcs, _⟩ | ⟨x, l, c, mm, nn, D, Pl, hcs, _, hl, hm, hmm, hx, hall⟩
  · simp at hcs
    obtain ⟨rfl, rfl, rfl⟩ := hcs
    exact ⟨[], rfl, argsV_nil, argsOk_nil, by omega, by omega⟩
  · simp at hcs
    obtain ⟨rfl, rfl, rfl⟩ := hcs
    simp only [Prod.mk.injEq] at hx
    obtain ⟨rfl, rfl⟩ := hx
    simp only [if_true] at hmm
    subst hmm
    have hs0 := hs ((((List.range len).map D).length + ((List.range (mm - len)).map fun j => D (len + j)).length) * Try.prog.bytesOf 55) (by simp [DataW.weights, Try.underlying36])
    rw [ArgInsts.bytesA] at hs0
    simp only [List.length_map, List.length_range, reachBytes] at hs0
    have key : ∀ i, i < len → ∃ r : ArgT, w.cell? (x.add (i * 3)) = some (.int .u8 r.1) ∧ w.cell? (x.add (i * 3 + 1)) = some (.int .u32 r.2.1) ∧ w.cell? (x.add (i * 3 + 2)) = some (.string r.2.2) ∧ ArgOk r := by
      intro i hi
      obtain ⟨cs, hc, ht⟩ := hall i (by omega)
      rw [ArgInsts.cellsA] at hc
      obtain ⟨_, hlen, hcell⟩ := World.cells?_some hc
      obtain ⟨xs, k, _, hxy, _, hxl, hfl⟩ := DataW.trod_struct Try.underlying55 ht
      have g0 := hfl 0 _ rfl
      have g1 := hfl 1 _ rfl
      have g2 := hfl 2 _ rfl
      match xs, hxl, cs, hlen with
      | [y0, y1, y2], _, [v0, v1, v2], _ =>
        have e0 := hcell 0 (by omega)
        have e1 := hcell 1 (by omega)
        have e2 := hcell 2 (by omega)
        rw [Go.Deep.add_add] at e0 e1 e2
        simp [ArgInsts.cells8, ArgInsts.cells32, ArgInsts.cellsS] at g0 g1 g2 e0 e1 e2
        obtain ⟨n0, q0, _, w0⟩ := DataW.trod_int Try.underlying5 g0
        obtain ⟨n1, q1, _, w1⟩ := DataW.trod_int Try.underlying22 g1
        obtain ⟨s2, q2, q3⟩ := DataW.trod_string Try.underlying9 g2
        simp at q0 q1 q2
        subst q0; subst q1; subst q2
        have b0 := bounds_u8 w0
        have b1 := bounds_u32 w1
        refine ⟨(n0, n1, s2), by simpa using e0, e1, e2, ?_⟩
        have hs2 := hs s2.size (by
          have hmem : D i ∈ (List.range len).map D := List.mem_map.2 ⟨i, List.mem_range.2 hi, rfl⟩
          simp only [DataW.weights, Try.underlying36, List.mem_cons, List.mem_append]
          refine Or.inr (Or.inl (weightsIn hmem _ ?_))
          simp only [Prod.mk.injEq] at hxy
          rw [hxy.1]
          simp only [DataW.weights, Try.underlying55]
          refine DataW.weights_mem_each (j := 2) rfl rfl _ ?_
          simp_all [DataW.weights])
        simp only [reachBytes] at hs2
        exact ⟨by simp; omega, by simp; omega, by simp; omega, by simp; omega, hs2⟩
    let f : Nat → ArgT := fun i => if h : i < len then Classical.choose (key i h) else noArg
    have hf' : ∀ i (h : i < len), f i = Classical.choose (key i h) := fun i h => dif_pos h
    refine ⟨(List.range len).map f, by simp, argsV_mk (fun i hi => ?_), fun j hj => ?_, by omega, hl⟩
    · rw [hf' i hi]
      obtain ⟨h1, h2, h3, _⟩ := Classical.choose_spec (key i hi)
      exact ⟨h1, h2, h3⟩
    · rw [List.length_map, List.length_range] at hj
      have e : nthA ((List.range len).map f) j = f j := by simp [nthA, List.getD, hj]
      rw [e, hf' j hj]
      exact (Classical.choose_spec (key j hj)).2.2.2

theorem instsV_mk {w : World} {x : Addr} {n : Nat} {f : Nat → InstT} (h : ∀ i, i < n → w.cell? (x.add (i * 4)) = some (.int .u16 (f i).1) ∧ w.cell? (x.add (i * 4 + 1)) = some (.int .u32 (f i).2.1) ∧ w.cell? (x.add (i * 4 + 2)) = some (.int .u32 (f i).2.2.1) ∧
    ∃ aj cj, w.cell? (x.add (i * 4 + 3)) = some (.slice aj (f i).2.2.2.length cj) ∧ ArgsV w aj (f i).2.2.2 ∧ (f i).2.2.2.length ≤ cj) : InstsV w (some x) ((List.range n).map f) := by
  intro j hj
  rw [List.length_map, List.length_range] at hj
  have h0 := (h 0 (by omega)).1
  obtain ⟨b, off, spot⟩ := x
  have hs : spot = none := by simpa [Addr.add] using World.cell?_spot h0
  subst hs
  obtain ⟨h1, h2, h3, aj, cj, h4, h5, h6⟩ := h j hj
  rw [Addr.add_lit] at h1 h2 h3 h4
  have e : nthI ((List.range n).map f) j = f j := by simp [nthI, List.getD, hj]
  rw [e]
  exact ⟨b, off, aj, cj, _, rfl, World.block_lt_of_cell? _ _ h1, h1, by rw [Nat.add_assoc]; exact h2, by rw [Nat.add_assoc]; exact h3, by rw [Nat.add_assoc]; exact h4, rfl, h5, h6⟩

set_option maxHeartbeats 1000000 in
theorem open_insts {H : Type} {enc : TypeId × Value → H} {w : World} {base fuel : Nat} {held : Bool} {a : Option Addr} {len cap : Nat} {d : DataW H} {ps : List MemPlace}
    (hf : DataW.trod enc Try.prog w base (fun _ => true) held fuel 23 [.slice a len cap] = some (d, ps)) (hs : ∀ n ∈ d.weights Try.prog 23, n ≤ reachBytes) :
    ∃ l : List InstT, l.length = len ∧ InstsV w a l ∧ InstsOk l ∧ 40 * len ≤ 140737488351232 ∧ len ≤ cap := by
  rcases Go.Deep.open_slice Try.underlying23 hf with ⟨hcs, _⟩ | ⟨x, l, c, mm, nn, D, Pl, hcs, _, hl, hm, hmm, hx, hall⟩
  · simp at hcs
    obtain ⟨rfl, rfl, rfl⟩ := hcs
    exact ⟨[], rfl, instsV_nil, instsOk_nil, by omega, by omega⟩
  · simp at hcs
    obtain ⟨rfl, rfl, rfl⟩ := hcs
    simp only [Prod.mk.injEq] at hx
    obtain ⟨rfl, rfl⟩ := hx
    simp only [if_true] at hmm
    subst hmm
    have hs0 := hs ((((List.range len).map D).length + ((List.range (mm - len)).map fun j => D (len + j)).length) * Try.prog.bytesOf 38) (by simp [DataW.weights, Try.underlying23])
    rw [ArgInsts.bytesI] at hs0
    simp only [List.length_map, List.length_range, reachBytes] at hs0
    have key : ∀ i, i < len → ∃ r : InstT, w.cell? (x.add (i * 4)) = some (.int .u16 r.1) ∧ w.cell? (x.add (i * 4 + 1)) = some (.int .u32 r.2.1) ∧ w.cell? (x.add (i * 4 + 2)) = some (.int .u32 r.2.2.1) ∧
        (∃ aj cj, w.cell? (x.add (i * 4 + 3)) = some (.slice aj r.2.2.2.length cj) ∧ ArgsV w aj r.2.2.2 ∧ r.2.2.2.length ≤ cj) ∧ InstOk r := by
      intro i hi
      obtain ⟨cs, hc, ht⟩ := hall i (by omega)
      rw [ArgInsts.cellsI] at hc
      obtain ⟨_, hlen, hcell⟩ := World.cells?_some hc
      obtain ⟨xs, k, _, hxy, _, hxl, hfl⟩ := DataW.trod_struct Try.underlying38 ht
      have g0 := hfl 0 _ rfl
      have g1 := hfl 1 _ rfl
      have g2 := hfl 2 _ rfl
      have g3 := hfl 3 _ rfl
      match xs, hxl, cs, hlen with
      | [y0, y1, y2, y3], _, [v0, v1, v2, v3], _ =>
        have e0 := hcell 0 (by omega)
        have e1 := hcell 1 (by omega)
        have e2 := hcell 2 (by omega)
        have e3 := hcell 3 (by omega)
        rw [Go.Deep.add_add] at e0 e1 e2 e3
        simp [ArgInsts.cells16, ArgInsts.cells32, ArgInsts.cellsL] at g0 g1 g2 g3 e0 e1 e2 e3
        obtain ⟨n0, q0, _, w0⟩ := DataW.trod_int Try.underlying35 g0
        obtain ⟨n1, q1, _, w1⟩ := DataW.trod_int Try.underlying22 g1
        obtain ⟨n2, q2, _, w2⟩ := DataW.trod_int Try.underlying22 g2
        simp at q0 q1 q2
        subst q0; subst q1; subst q2
        have b0 := bounds_u16 w0
        have b1 := bounds_u32 w1
        have b2 := bounds_u32 w2
        obtain ⟨a, n, c, rfl⟩ : ∃ a n c, v3 = .slice a n c := by
          rcases Go.Deep.open_slice Try.underlying36 g3 with ⟨hcs, _⟩ | ⟨x, l, c, mm, nn, D, Pl, hcs, _⟩
          · simp at hcs; exact ⟨_, _, _, hcs⟩
          · simp at hcs; exact ⟨_, _, _, hcs⟩
        obtain ⟨l, hl, hv3, hok, hr, hc⟩ := open_args g3 (fun k hk => hs k (by
          have hmem : D i ∈ (List.range len).map D := List.mem_map.2 ⟨i, List.mem_range.2 hi, rfl⟩
          simp only [DataW.weights, Try.underlying23, List.mem_cons, List.mem_append]
          refine Or.inr (Or.inl (weightsIn hmem _ ?_))
          simp only [Prod.mk.injEq] at hxy
          rw [hxy.1]
          simp only [DataW.weights, Try.underlying38]
          exact DataW.weights_mem_each (j := 3) rfl rfl _ hk))
        subst hl
        exact ⟨(n0, n1, n2, l), by simpa using e0, e1, e2, ⟨a, c, e3, hv3, hc⟩, by simp; omega, by simp; omega, by simp; omega, by simp; omega, by simp; omega, by simp; omega, hok, hr⟩
    let f : Nat → InstT := fun i => if h : i < len then Classical.choose (key i h) else noInst
    have hf' : ∀ i (h : i < len), f i = Classical.choose (key i h) := fun i h => dif_pos h
    refine ⟨(List.range len).map f, by simp, instsV_mk (fun i hi => ?_), fun j hj => ?_, by omega, hl⟩
    · rw [hf' i hi]
      obtain ⟨h1, h2, h3, h4, _⟩ := Classical.choose_spec (key i hi)
      exact ⟨h1, h2, h3, h4⟩
    · rw [List.length_map, List.length_range] at hj
      have e : nthI ((List.range len).map f) j = f j := by simp [nthI, List.getD, hj]
      rw [e, hf' j hj]
      exact (Classical.choose_spec (key j hj)).2.2.2.2

theorem open_module {H : Type} {enc : TypeId × Value → H} {w : World} {b0 base : Nat} {held : Bool} {v : Value} {d : DataW H} {ps : List MemPlace}
    (hv : Value.okWide Try.prog w .any b0 25 v) (h : DataW.Trod enc Try.prog w base (fun _ => true) held 25 v d ps) (hs : ∀ n ∈ d.weights Try.prog 25, n ≤ reachBytes) :
    ∃ (gen bound : Int) (a : Option Addr) (n c : Nat) (l : List InstT), v = .agg #[.int .u32 gen, .int .u32 bound, .slice a n c] ∧ 0 ≤ gen ∧ gen < 4294967296 ∧ 0 ≤ bound ∧ bound < 4294967296 ∧ l.length = n ∧ InstsV w a l ∧ InstsOk l ∧ 40 * n ≤ 140737488351232 ∧ n ≤ c := by
  obtain ⟨v0, v1, v3, y0, y1, y3, m, rfl, rfl, _, t0, t1, t3⟩ := Go.Joins.open_agg3 Try.underlying25 (by kernel_rfl) (by kernel_rfl) hv h
  obtain ⟨n0, e0, _, w0⟩ := DataW.trod_int Try.underlying22 t0
  obtain ⟨n1, e1, _, w1⟩ := DataW.trod_int Try.underlying22 t1
  simp at e0 e1
  subst e0; subst e1
  have b0 := bounds_u32 w0
  have b1 := bounds_u32 w1
  obtain ⟨a, n, c, rfl⟩ : ∃ a n c, v3 = .slice a n c := by
    rcases Go.Deep.open_slice Try.underlying23 t3 with ⟨hcs, _⟩ | ⟨x, l, c, mm, nn, D, Pl, hcs, _⟩
    · simp at hcs; exact ⟨_, _, _, hcs⟩
    · simp at hcs; exact ⟨_, _, _, hcs⟩
  obtain ⟨l, hl, hv3, hok, hr, hc⟩ := open_insts t3 (fun k hk => hs k (by
    simp only [DataW.weights, Try.underlying25]
    exact DataW.weights_mem_each (j := 2) rfl rfl _ hk))
  exact ⟨n0, n1, a, n, c, l, rfl, by omega, by omega, by omega, by omega, hl, hv3, hok, hr, hc⟩

end Go.Proofs.Ytjckgnpbjekhbaa

/-
  What Ids of the package code answers, for every instruction.
-/
namespace Go.Proofs.Ytjckgnpbjekhbaa
open Go.RowKit
set_option linter.unusedVariables false
set_option linter.unusedSimpArgs false
set_option maxRecDepth 10000

def idsA (x : ArgT) : List Int := if x.1 = 1 then [x.2.1] else []
/-- The ids that an instruction names, up to an argument. -/
def idsTo (t : Int) (l : List ArgT) (k : Nat) : List Int := (if t = 0 then [] else [t]) ++ (l.take k).flatMap idsA
def idsI (x : InstT) : List Int := idsTo x.2.1 x.2.2.2 x.2.2.2.length

theorem idsTo_zero (t : Int) (l : List ArgT) : idsTo t l 0 = if t = 0 then [] else [t] := by simp [idsTo]
theorem idsTo_succ (t : Int) (l : List ArgT) (k : Nat) (h : k < l.length) : idsTo t l (k + 1) = idsTo t l k ++ idsA (nthA l k) := by
  unfold idsTo
  rw [List.take_add_one, List.getElem?_eq_getElem h, nthA_lt _ _ h, Option.toList_some, List.flatMap_append]
  simp [List.append_assoc]
theorem idsTo_len (t : Int) (l : List ArgT) (k : Nat) : (idsTo t l k).length ≤ 1 + k := by
  unfold idsTo
  have h1 : ((l.take k).flatMap idsA).length ≤ (l.take k).length := by
    generalize l.take k = m
    induction m with
    | nil => simp
    | cons x m ih =>
      rw [List.flatMap_cons, List.length_append, List.length_cons]
      have : (idsA x).length ≤ 1 := by unfold idsA; split <;> simp
      omega
  have h2 : (l.take k).length ≤ k := by rw [List.length_take]; omega
  rw [List.length_append]
  have h3 : (if t = 0 then [] else [t] : List Int).length ≤ 1 := by split <;> simp
  omega

theorem Ids.info : (Try.prog.info? 22).map (fun i => (i.zero, i.size, i.bytes)) = some (some (.int .u32 0), 1, 4) := by kernel_rfl

/-- A row of words while it is built, behind a box. -/
structure IdsS (w wr : World) (xo xt xr : Int) (ax : Option Addr) (n cx : Nat) (v : Value) (zs : List Int) : Prop where
  own : wr.ownsRow (w.heap.size + 1) 22 1 v zs.length (zs.map (Value.int .u32))
  box : wr.heap[w.heap.size]? = some (.cells #[.int .u16 xo, .int .u32 xt, .int .u32 xr, .slice ax n cx] 38 (0, 0))
  bel : Below w.heap.size w wr

theorem IdsS.below {w wr wr' : World} {xo xt xr : Int} {ax : Option Addr} {n cx : Nat} {v : Value} {zs : List Int} (h : IdsS w wr xo xt xr ax n cx v zs) (hb : Below wr.heap.size wr wr') : IdsS w wr' xo xt xr ax n cx v zs :=
  ⟨own_below h.own hb, (hb.block _ (Array.getElem?_eq_some_iff.1 h.box).1).trans h.box, h.bel.trans (hb.mono h.bel.size)⟩
/-- Behind an append of one word that lies in a new block. -/
theorem IdsS.push {w wr w5 : World} {xo xt xr : Int} {ax : Option Addr} {n cx : Nat} {v v' : Value} {zs : List Int} {y : Int} (h : IdsS w wr xo xt xr ax n cx v zs) (hg : wr.grownBy w5 v.ownBlock) (hown : w5.ownsRow (w.heap.size + 1) 22 1 v' (zs.length + 1) (zs.map (Value.int .u32) ++ [.int .u32 y])) : IdsS w w5 xo xt xr ax n cx v' (zs ++ [y]) := by
  have hlo : ∀ g, v.ownBlock = some g → w.heap.size + 1 ≤ g := fun g e => (h.own.lt g e).1
  refine ⟨?_, ?_, ?_⟩
  · rw [List.length_append, List.map_append]; exact hown
  · exact (hg.block _ (Array.getElem?_eq_some_iff.1 h.box).1 (fun e => by have := hlo _ e.symm; omega)).trans h.box
  · exact h.bel.grown hg h.bel.size (fun k e => by have := hlo k e; omega)

set_option maxHeartbeats 2000000 in
theorem codeIds_any (x : InstT) (ax : Option Addr) (n cx : Nat) (w : World) (hv : ArgsV w ax x.2.2.2) (hl : x.2.2.2.length = n) (hn : 24 * n ≤ 140737488351232) :
    Calls Try.prog 42 #[instV x ax n cx] w fun e w' => Below w.heap.size w w' ∧ ∃ a m c, e = .returned (.slice a m c) ∧ (idsI x).length = m ∧ w'.ownsRow w.heap.size 22 1 (.slice a m c) m ((idsI x).map (Value.int .u32)) := by
  obtain ⟨i0, hi, hz0, hz1, hz2⟩ := info_parts Ids.info
  have HI : Hid (Try.prog.info? 22 = some i0 ∧ i0.zero = some (.int .u32 0) ∧ i0.size = 1 ∧ i0.bytes = 4) := ⟨hi, hz0, hz1, hz2⟩
  clear hi hz0 hz1 hz2
  obtain ⟨xo, xt, xr, xl⟩ := x
  unfold instV
  simp only at *
  have HL : Hid (xl.length = n) := hl
  have eI : idsI (xo, xt, xr, xl) = idsTo xt xl n := by unfold idsI; simp only; rw [hl]
  rw [eI]
  clear eI hl
  have hS0 : IdsS w (w.alloc (.cells #[.int .u16 xo, .int .u32 xt, .int .u32 xr, .slice ax n cx] 38)) xo xt xr ax n cx (.slice none 0 0) [] := ⟨World.ownsRow_nil _ _ _ _, alloc_new w _ _, (Below.refl _ w).alloc (Nat.le_refl _) _⟩
  by_cases ht : xt = 0
  · subst ht
    have HS0 : Hid (IdsS w (w.alloc (.cells #[.int .u16 xo, .int .u32 0, .int .u32 xr, .slice ax n cx] 38)) xo 0 xr ax n cx (.slice none 0 0) []) := hS0
    clear hS0
    go_enter Try.func42, Try.ntmps42
    go_wp2
    go_loopw [3, 17] (fun v i wr => ∃ k : Nat, k ≤ n ∧ i = .int .i64 k ∧ IdsS w wr xo 0 xr ax n cx v (idsTo 0 xl k)) (fun _ i _ => n - (intOf i).toNat)
    case atStart => exact ⟨0, Nat.zero_le _, rfl, by rw [idsTo_zero, if_pos rfl]; exact HS0.out⟩
    case round =>
      obtain ⟨k, hk, rfl, hS⟩ := hrel
      clear HS0
      have hA := hv.below hS.bel
      obtain ⟨a', cap', rfl⟩ : ∃ a cap, u3 = .slice a (idsTo 0 xl k).length cap := by
        rcases hS.own.2 with ⟨rfl, h0⟩ | ⟨g, cap, cur, rfl, _⟩
        · exact ⟨none, 0, by rw [h0]⟩
        · exact ⟨_, _, rfl⟩
      by_cases hlt : k < n
      · have hkl : k < xl.length := by rw [HL.out]; exact hlt
        obtain ⟨b1, o1, rfl, hb1, p1, p2, p3⟩ := hA k hkl
        have hsu := idsTo_succ 0 xl k hkl
        have hln := idsTo_len 0 xl k
        have HSU : Hid _ := hsu
        generalize idsTo 0 xl k = zs at *
        have HS2 : Hid (idsTo 0 xl (k + 1) = zs ++ idsA (nthA xl k)) := HSU.out
        clear hsu HSU
        generalize nthA xl k = z at *
        obtain ⟨z1, z2, z3⟩ := z
        simp only at *
        have hki : (k : Int) < (n : Int) := by omega
        have hk0 : (0 : Int) ≤ (k : Int) := by omega
        have hS4 := hS.below ((Below.refl _ wr).alloc (Nat.le_refl _) (.cells #[.int .u8 z1, .int .u32 z2, .string z3] 55))
        clear hA
        by_cases h1 : z1 = 1
        · subst h1
          have hA1 : idsA (1, z2, z3) = [z2] := by simp [idsA]
          have N1 : Hid (((wr.alloc (.cells #[.int .u8 1, .int .u32 z2, .string z3] 55)).alloc (.cells #[.int .u32 z2] 22)).ownsRow (w.heap.size + 1) 22 1 (.slice a' zs.length cap') zs.length ((zs).map (Value.int .u32))) := own_below hS4.own ((Below.refl _ _).alloc (Nat.le_refl _) _)
          have N2 : Hid (∀ (j : Nat) (u : Value), [Value.int .u32 z2][j]? = some u → ((wr.alloc (.cells #[.int .u8 1, .int .u32 z2, .string z3] 55)).alloc (.cells #[.int .u32 z2] 22)).cell? ((⟨wr.heap.size + 1, 0, none⟩ : Addr).add j) = some u) := World.news_of_block (cs := #[.int .u32 z2]) (t := 22) (fr := (0, 0)) (by first | exact alloc_new _ _ _ | simpa using alloc_new ((wr.alloc (.cells #[.int .u8 1, .int .u32 z2, .string z3] 55))) #[.int .u32 z2] 22)
          have N3 : Hid (∀ u : Value, u ∈ [Value.int .u32 z2] → u.oneCell' = true) := by intro u hu; simp at hu; subst hu; rfl
          have N4 : zs.length + 1 ≤ maxLen := by unfold maxLen; omega
          have N5 : (zs.length + 1) * 4 ≤ 140737488355328 := by omega
          have N6 : Hid (w.heap.size + 1 ≤ ((wr.alloc (.cells #[.int .u8 1, .int .u32 z2, .string z3] 55)).alloc (.cells #[.int .u32 z2] 22)).heap.size) := by show _ ≤ _; rw [World.size_alloc]; have := (Array.getElem?_eq_some_iff.1 hS4.box).1; omega
          have HS : Hid (IdsS w ((wr.alloc (.cells #[.int .u8 1, .int .u32 z2, .string z3] 55)).alloc (.cells #[.int .u32 z2] 22)) xo 0 xr (some ⟨b1, o1, none⟩) n cx (.slice a' zs.length cap') zs) := hS4.below ((Below.refl _ _).alloc (Nat.le_refl _) _)
          go_wp2_with (at_builtin; refine wpList_append_own _ rfl (.tmp 24) (.tmp 27) 28 rfl (w.heap.size + 1) 22 i0 (.int .u32 0) 1 4 Try.underlying28 HI.out.1 HI.out.2.1 HI.out.2.2.1 HI.out.2.2.2 rfl (by decide) _ zs.length (zs.map (Value.int .u32)) rfl N1.out ⟨wr.heap.size + 1, 0, none⟩ 1 1 [.int .u32 z2] rfl rfl N2.out N3.out N4 N5 N6.out ?_)
          intro v5 w5 hown5 hgr5 _
          have hS5 := HS.out.push hgr5 hown5
          obtain ⟨a6, cap6, rfl⟩ : ∃ a cap, v5 = .slice a (zs.length + 1) cap := by
            rcases hown5.2 with ⟨_, h0⟩ | ⟨g, cap, cur, rfl, _⟩
            · omega
            · exact ⟨_, _, rfl⟩
          clear hown5 hgr5 N1 N2 N3 N6 HS hS4
          go_wp2
          go_roundw
          case rel => exact ⟨k + 1, by omega, by go_num, by rw [HS2.out, hA1]; exact hS5⟩
          case measure => simp [intOf]; omega
        · have hA1 : idsA (z1, z2, z3) = [] := by simp [idsA, h1]
          have HS4 : Hid (IdsS w (wr.alloc (.cells #[.int .u8 z1, .int .u32 z2, .string z3] 55)) xo 0 xr (some ⟨b1, o1, none⟩) n cx (.slice a' zs.length cap') zs) := hS4
          clear hS4
          go_wp2
          go_roundw
          case rel => exact ⟨k + 1, by omega, by go_num, by rw [HS2.out, hA1, List.append_nil]; exact HS4.out⟩
          case measure => simp [intOf]; omega
      · obtain rfl : k = n := by omega
        have hfin := hS.bel
        have hown := hS.own
        clear hS hA
        go_wp2
        go_ret
        refine ⟨hfin, a', _, cap', rfl, rfl, ?_⟩
        refine ⟨hown.1, ?_⟩
        rcases hown.2 with hn0 | ⟨g, cap, cur, e1, hb, rest⟩
        · exact .inl hn0
        · exact .inr ⟨g, cap, cur, e1, by omega, rest⟩
  · have ht' := ht
    have N1 : Hid (((w.alloc (.cells #[.int .u16 xo, .int .u32 xt, .int .u32 xr, .slice ax n cx] 38)).alloc (.cells #[.int .u32 xt] 22)).ownsRow (w.heap.size + 1) 22 1 (.slice none 0 0) ([] : List Int).length ((([] : List Int)).map (Value.int .u32))) := own_below hS0.own ((Below.refl _ _).alloc (Nat.le_refl _) _)
    have N2 : Hid (∀ (j : Nat) (u : Value), [Value.int .u32 xt][j]? = some u → ((w.alloc (.cells #[.int .u16 xo, .int .u32 xt, .int .u32 xr, .slice ax n cx] 38)).alloc (.cells #[.int .u32 xt] 22)).cell? ((⟨w.heap.size + 1, 0, none⟩ : Addr).add j) = some u) := World.news_of_block (cs := #[.int .u32 xt]) (t := 22) (fr := (0, 0)) (by first | exact alloc_new _ _ _ | simpa using alloc_new ((w.alloc (.cells #[.int .u16 xo, .int .u32 xt, .int .u32 xr, .slice ax n cx] 38))) #[.int .u32 xt] 22)
    have N3 : Hid (∀ u : Value, u ∈ [Value.int .u32 xt] → u.oneCell' = true) := by intro u hu; simp at hu; subst hu; rfl
    have N4 : ([] : List Int).length + 1 ≤ maxLen := by unfold maxLen; simp
    have N5 : (([] : List Int).length + 1) * 4 ≤ 140737488355328 := by simp
    have N6 : Hid (w.heap.size + 1 ≤ ((w.alloc (.cells #[.int .u16 xo, .int .u32 xt, .int .u32 xr, .slice ax n cx] 38)).alloc (.cells #[.int .u32 xt] 22)).heap.size) := by show _ ≤ _; rw [World.size_alloc]; have := (Array.getElem?_eq_some_iff.1 hS0.box).1; omega
    have HS : Hid (IdsS w ((w.alloc (.cells #[.int .u16 xo, .int .u32 xt, .int .u32 xr, .slice ax n cx] 38)).alloc (.cells #[.int .u32 xt] 22)) xo xt xr ax n cx (.slice none 0 0) ([] : List Int)) := hS0.below ((Below.refl _ _).alloc (Nat.le_refl _) _)
    clear hS0
    go_enter Try.func42, Try.ntmps42
    go_wp2_with (at_builtin; refine wpList_append_own _ rfl (.tmp 9) (.tmp 12) 28 rfl (w.heap.size + 1) 22 i0 (.int .u32 0) 1 4 Try.underlying28 HI.out.1 HI.out.2.1 HI.out.2.2.1 HI.out.2.2.2 rfl (by decide) _ 0 [] rfl N1.out ⟨w.heap.size + 1, 0, none⟩ 1 1 [.int .u32 xt] rfl rfl N2.out N3.out N4 N5 N6.out ?_)
    intro v5 w5 hown5 hgr5 _
    have hS5 := HS.out.push hgr5 hown5
    obtain ⟨a5, cap5, rfl⟩ : ∃ a cap, v5 = .slice a 1 cap := by
      rcases hown5.2 with ⟨_, h0⟩ | ⟨g, cap, cur, rfl, _⟩
      · cases h0
      · exact ⟨_, _, rfl⟩
    have b3 := (one_block hS5.box).1 3
    have HS5 : Hid (IdsS w w5 xo xt xr ax n cx (.slice a5 1 cap5) [xt]) := hS5
    clear hown5 hgr5 N1 N2 N3 N6 HS N4 N5 hS5
    go_wp2
    go_loopw [3, 17] (fun v i wr => ∃ k : Nat, k ≤ n ∧ i = .int .i64 k ∧ IdsS w wr xo xt xr ax n cx v (idsTo xt xl k)) (fun _ i _ => n - (intOf i).toNat)
    case atStart => exact ⟨0, Nat.zero_le _, rfl, by rw [idsTo_zero, if_neg ht']; exact HS5.out⟩
    case round =>
      obtain ⟨k, hk, rfl, hS⟩ := hrel
      clear HS5
      have hA := hv.below hS.bel
      obtain ⟨a', cap', rfl⟩ : ∃ a cap, u3 = .slice a (idsTo xt xl k).length cap := by
        rcases hS.own.2 with ⟨rfl, h0⟩ | ⟨g, cap, cur, rfl, _⟩
        · exact ⟨none, 0, by rw [h0]⟩
        · exact ⟨_, _, rfl⟩
      by_cases hlt : k < n
      · have hkl : k < xl.length := by rw [HL.out]; exact hlt
        obtain ⟨b1, o1, rfl, hb1, p1, p2, p3⟩ := hA k hkl
        have hsu := idsTo_succ xt xl k hkl
        have hln := idsTo_len xt xl k
        have HSU : Hid _ := hsu
        generalize idsTo xt xl k = zs at *
        have HS2 : Hid (idsTo xt xl (k + 1) = zs ++ idsA (nthA xl k)) := HSU.out
        clear hsu HSU
        generalize nthA xl k = z at *
        obtain ⟨z1, z2, z3⟩ := z
        simp only at *
        have hki : (k : Int) < (n : Int) := by omega
        have hk0 : (0 : Int) ≤ (k : Int) := by omega
        have hS4 := hS.below ((Below.refl _ wr).alloc (Nat.le_refl _) (.cells #[.int .u8 z1, .int .u32 z2, .string z3] 55))
        clear hA
        by_cases h1 : z1 = 1
        · subst h1
          have hA1 : idsA (1, z2, z3) = [z2] := by simp [idsA]
          have N1 : Hid (((wr.alloc (.cells #[.int .u8 1, .int .u32 z2, .string z3] 55)).alloc (.cells #[.int .u32 z2] 22)).ownsRow (w.heap.size + 1) 22 1 (.slice a' zs.length cap') zs.length ((zs).map (Value.int .u32))) := own_below hS4.own ((Below.refl _ _).alloc (Nat.le_refl _) _)
          have N2 : Hid (∀ (j : Nat) (u : Value), [Value.int .u32 z2][j]? = some u → ((wr.alloc (.cells #[.int .u8 1, .int .u32 z2, .string z3] 55)).alloc (.cells #[.int .u32 z2] 22)).cell? ((⟨wr.heap.size + 1, 0, none⟩ : Addr).add j) = some u) := World.news_of_block (cs := #[.int .u32 z2]) (t := 22) (fr := (0, 0)) (by first | exact alloc_new _ _ _ | simpa using alloc_new ((wr.alloc (.cells #[.int .u8 1, .int .u32 z2, .string z3] 55))) #[.int .u32 z2] 22)
          have N3 : Hid (∀ u : Value, u ∈ [Value.int .u32 z2] → u.oneCell' = true) := by intro u hu; simp at hu; subst hu; rfl
          have N4 : zs.length + 1 ≤ maxLen := by unfold maxLen; omega
          have N5 : (zs.length + 1) * 4 ≤ 140737488355328 := by omega
          have N6 : Hid (w.heap.size + 1 ≤ ((wr.alloc (.cells #[.int .u8 1, .int .u32 z2, .string z3] 55)).alloc (.cells #[.int .u32 z2] 22)).heap.size) := by show _ ≤ _; rw [World.size_alloc]; have := (Array.getElem?_eq_some_iff.1 hS4.box).1; omega
          have HS : Hid (IdsS w ((wr.alloc (.cells #[.int .u8 1, .int .u32 z2, .string z3] 55)).alloc (.cells #[.int .u32 z2] 22)) xo xt xr (some ⟨b1, o1, none⟩) n cx (.slice a' zs.length cap') zs) := hS4.below ((Below.refl _ _).alloc (Nat.le_refl _) _)
          go_wp2_with (at_builtin; refine wpList_append_own _ rfl (.tmp 24) (.tmp 27) 28 rfl (w.heap.size + 1) 22 i0 (.int .u32 0) 1 4 Try.underlying28 HI.out.1 HI.out.2.1 HI.out.2.2.1 HI.out.2.2.2 rfl (by decide) _ zs.length (zs.map (Value.int .u32)) rfl N1.out ⟨wr.heap.size + 1, 0, none⟩ 1 1 [.int .u32 z2] rfl rfl N2.out N3.out N4 N5 N6.out ?_)
          intro v5 w5 hown5 hgr5 _
          have hS5 := HS.out.push hgr5 hown5
          obtain ⟨a6, cap6, rfl⟩ : ∃ a cap, v5 = .slice a (zs.length + 1) cap := by
            rcases hown5.2 with ⟨_, h0⟩ | ⟨g, cap, cur, rfl, _⟩
            · omega
            · exact ⟨_, _, rfl⟩
          clear hown5 hgr5 N1 N2 N3 N6 HS hS4
          go_wp2
          go_roundw
          case rel => exact ⟨k + 1, by omega, by go_num, by rw [HS2.out, hA1]; exact hS5⟩
          case measure => simp [intOf]; omega
        · have hA1 : idsA (z1, z2, z3) = [] := by simp [idsA, h1]
          have HS4 : Hid (IdsS w (wr.alloc (.cells #[.int .u8 z1, .int .u32 z2, .string z3] 55)) xo xt xr (some ⟨b1, o1, none⟩) n cx (.slice a' zs.length cap') zs) := hS4
          clear hS4
          go_wp2
          go_roundw
          case rel => exact ⟨k + 1, by omega, by go_num, by rw [HS2.out, hA1, List.append_nil]; exact HS4.out⟩
          case measure => simp [intOf]; omega
      · obtain rfl : k = n := by omega
        have hfin := hS.bel
        have hown := hS.own
        clear hS hA
        go_wp2
        go_ret
        refine ⟨hfin, a', _, cap', rfl, rfl, ?_⟩
        refine ⟨hown.1, ?_⟩
        rcases hown.2 with hn0 | ⟨g, cap, cur, e1, hb, rest⟩
        · exact .inl hn0
        · exact .inr ⟨g, cap, cur, e1, by omega, rest⟩

end Go.Proofs.Ytjckgnpbjekhbaa

/-
  Pairs of ids: when they are one to one, and what stands beside an id; in plain mathematics.
-/
namespace Go.Proofs.Ytjckgnpbjekhbaa
open Go.RowKit
set_option linter.unusedVariables false
set_option linter.unusedSimpArgs false

/-- What stands beside x. -/
def thF (l : List (Int × Int)) (x : Int) : Option Int := (l.find? fun p => p.1 == x).map (·.2)
def bkF (l : List (Int × Int)) (y : Int) : Option Int := (l.find? fun p => p.2 == y).map (·.1)
/-- One to one. -/
def Bij (l : List (Int × Int)) : Prop := ∀ p ∈ l, ∀ q ∈ l, (p.1 = q.1 ↔ p.2 = q.2)
theorem bij_nil : Bij [] := fun p hp => by simp at hp
theorem thF_some {l : List (Int × Int)} {x y : Int} (h : thF l x = some y) : (x, y) ∈ l := by
  unfold thF at h
  cases hf : l.find? (fun p => p.1 == x) with
  | none => rw [hf] at h; cases h
  | some p =>
    rw [hf] at h
    simp only [Option.map_some, Option.some.injEq] at h
    have h1 := List.find?_some hf
    have h2 := List.mem_of_find?_eq_some hf
    simp only [beq_iff_eq] at h1
    rw [← h1, ← h]; exact h2
theorem bkF_some {l : List (Int × Int)} {x y : Int} (h : bkF l y = some x) : (x, y) ∈ l := by
  unfold bkF at h
  cases hf : l.find? (fun p => p.2 == y) with
  | none => rw [hf] at h; cases h
  | some p =>
    rw [hf] at h
    simp only [Option.map_some, Option.some.injEq] at h
    have h1 := List.find?_some hf
    have h2 := List.mem_of_find?_eq_some hf
    simp only [beq_iff_eq] at h1
    rw [← h1, ← h]; exact h2
theorem thF_none {l : List (Int × Int)} {x : Int} (h : thF l x = none) : ∀ p ∈ l, p.1 ≠ x := by
  intro p hp e
  unfold thF at h
  rw [Option.map_eq_none_iff, List.find?_eq_none] at h
  exact h p hp (by simpa using e)
theorem bkF_none {l : List (Int × Int)} {y : Int} (h : bkF l y = none) : ∀ p ∈ l, p.2 ≠ y := by
  intro p hp e
  unfold bkF at h
  rw [Option.map_eq_none_iff, List.find?_eq_none] at h
  exact h p hp (by simpa using e)
theorem thF_mem {l : List (Int × Int)} {x y : Int} (hB : Bij l) (h : (x, y) ∈ l) : thF l x = some y := by
  cases hf : thF l x with
  | none => exact absurd rfl (thF_none hf _ h)
  | some z =>
    have h2 := thF_some hf
    have := (hB _ h _ h2).1 rfl
    simp only at this
    rw [this]
theorem bkF_mem {l : List (Int × Int)} {x y : Int} (hB : Bij l) (h : (x, y) ∈ l) : bkF l y = some x := by
  cases hf : bkF l y with
  | none => exact absurd rfl (bkF_none hf _ h)
  | some z =>
    have h2 := bkF_some hf
    have := (hB _ h _ h2).2 rfl
    simp only at this
    rw [this]
theorem Bij.front {l m : List (Int × Int)} (h : Bij (l ++ m)) : Bij l := fun p hp q hq => h p (by simp [hp]) q (by simp [hq])
/-- Neither is there: both may come. -/
theorem join_new {l : List (Int × Int)} {a b : Int} (hB : Bij l) (h1 : thF l a = none) (h2 : bkF l b = none) : Bij (l ++ [(a, b)]) ∧ (∀ y, (if y = a then some b else thF l y) = thF (l ++ [(a, b)]) y) ∧ (∀ y, (if y = b then some a else bkF l y) = bkF (l ++ [(a, b)]) y) := by
  have n1 := thF_none h1
  have n2 := bkF_none h2
  refine ⟨fun p hp q hq => ?_, fun y => ?_, fun y => ?_⟩
  · rcases List.mem_append.1 hp with hp | hp <;> rcases List.mem_append.1 hq with hq | hq
    · exact hB p hp q hq
    · rw [List.mem_singleton] at hq; subst hq; exact ⟨fun e => absurd e (n1 p hp), fun e => absurd e (n2 p hp)⟩
    · rw [List.mem_singleton] at hp; subst hp; exact ⟨fun e => absurd e.symm (n1 q hq), fun e => absurd e.symm (n2 q hq)⟩
    · rw [List.mem_singleton] at hp hq; subst hp hq; exact ⟨fun _ => rfl, fun _ => rfl⟩
  · unfold thF at *
    rw [List.find?_append]
    by_cases e : y = a
    · subst e
      rw [if_pos rfl, Option.map_eq_none_iff.1 h1]
      simp
    · rw [if_neg e]
      cases hf : l.find? (fun p => p.1 == y) with
      | none => simp; intro e2; exact absurd e2.symm e
      | some p => simp
  · unfold bkF at *
    rw [List.find?_append]
    by_cases e : y = b
    · subst e
      rw [if_pos rfl, Option.map_eq_none_iff.1 h2]
      simp
    · rw [if_neg e]
      cases hf : l.find? (fun p => p.2 == y) with
      | none => simp; intro e2; exact absurd e2.symm e
      | some p => simp
/-- One of them is there: it must be beside the other one. -/
theorem join_old {l : List (Int × Int)} {a b : Int} (hB : Bij l) (h : ¬ (thF l a = none ∧ bkF l b = none)) : Bij (l ++ [(a, b)]) ↔ (bkF l b = some a ∧ thF l a = some b) := by
  constructor
  · intro hJ
    have hm : (a, b) ∈ l ++ [(a, b)] := by simp
    by_cases e : thF l a = none
    · exfalso
      refine h ⟨e, ?_⟩
      cases hf : bkF l b with
      | none => rfl
      | some z =>
        have h2 := bkF_some hf
        have := (hJ _ (List.mem_append_left _ h2) _ hm).2 rfl
        exact absurd this (thF_none e _ h2)
    · cases hf : thF l a with
      | none => exact absurd hf e
      | some z =>
        have h2 := thF_some hf
        have := (hJ _ (List.mem_append_left _ h2) _ hm).1 rfl
        simp only at this
        subst this
        exact ⟨bkF_mem hB h2, rfl⟩
  · rintro ⟨h1, h2⟩
    have hm := thF_some h2
    intro p hp q hq
    have hin : ∀ r, r ∈ l ++ [(a, b)] → r ∈ l := fun r hr => by
      rcases List.mem_append.1 hr with hr | hr
      · exact hr
      · rw [List.mem_singleton] at hr; subst hr; exact hm
    exact hB p (hin p hp) q (hin q hq)
theorem join_same {l : List (Int × Int)} {a b : Int} (hB : Bij l) (h2 : thF l a = some b) : (∀ y, thF l y = thF (l ++ [(a, b)]) y) ∧ (∀ y, bkF l y = bkF (l ++ [(a, b)]) y) := by
  have hm := thF_some h2
  refine ⟨fun y => ?_, fun y => ?_⟩
  · unfold thF
    rw [List.find?_append]
    cases hf : l.find? (fun p => p.1 == y) with
    | none =>
      rw [List.find?_eq_none] at hf
      have := hf _ hm
      simp only [beq_iff_eq] at this
      simp
      intro e; exact this e
    | some p => simp
  · unfold bkF
    rw [List.find?_append]
    cases hf : l.find? (fun p => p.2 == y) with
    | none =>
      rw [List.find?_eq_none] at hf
      have := hf _ hm
      simp only [beq_iff_eq] at this
      simp
      intro e; exact this e
    | some p => simp
/-- All ids of an instruction: those that it names, and the one that it makes. -/
def allI (x : InstT) : List Int := idsI x ++ (if x.2.2.1 = 0 then [] else [x.2.2.1])
end Go.Proofs.Ytjckgnpbjekhbaa

/-
  A frame as its slots: any frame of so many slots is the list of them.
-/
namespace Go.Proofs.Ytjckgnpbjekhbaa
open Go

theorem hide {p : Prop} (h : p) : Go.RowKit.Hid p := h
end Go.Proofs.Ytjckgnpbjekhbaa

/-
  A map by words, with numbers in it, as a function of its keys.
-/
namespace Go.Proofs.Ytjckgnpbjekhbaa
open Go.RowKit Go.Maps
set_option linter.unusedVariables false
set_option linter.unusedSimpArgs false
set_option maxRecDepth 10000

theorem keyU : Keyed Try.prog 22 := int_keyed Try.underlying22
theorem keyU_of {x : Int} (h0 : 0 ≤ x) (h1 : x < 4294967296) : keyOf Try.prog 22 (.int .u32 x) = some (.int .u32 x) := keyOf_int_mk Try.underlying22 (by simp [Lit.wf, show IntKind.u32.min = 0 from rfl, show IntKind.u32.max = 4294967295 from rfl]; omega)

/-- Block b is a map of at most n entries: at the key x stands f x. -/
def MapU (w : World) (E : TypeId) (q : IntKind) (b n : Nat) (f : Int → Option Int) : Prop :=
  ∃ D : DataW Unit, w.ownsMap Try.prog 22 (plainElem Try.prog E) b n D ∧ (∀ x, Maps.has D (.int .u32 x) = (f x).isSome) ∧ ∀ x, D.atKey (.int .u32 x) (.lit (.int q 0)) = .lit (.int q ((f x).getD 0))
theorem MapU.made (w : World) (E : TypeId) (q : IntKind) : MapU (w.alloc (.map #[] 0)) E q w.heap.size 0 (fun _ => none) :=
  ⟨.map [], World.ownsMap_made _ _ _ _, fun x => rfl, fun x => rfl⟩
theorem MapU.lt {w : World} {E : TypeId} {q : IntKind} {b n : Nat} {f : Int → Option Int} (h : MapU w E q b n f) : b < w.heap.size := by obtain ⟨D, h1, _⟩ := h; exact h1.lt
theorem MapU.below {w w' : World} {E : TypeId} {q : IntKind} {b n : Nat} {f : Int → Option Int} (h : MapU w E q b n f) (hb : Below w.heap.size w w') : MapU w' E q b n f := by
  have hl := h.lt
  obtain ⟨D, ⟨es, ck, h1, h2⟩, h3⟩ := h
  exact ⟨D, ⟨es, ck, (hb.block b hl).trans h1, h2⟩, h3⟩
theorem MapU.block {w w' : World} {E : TypeId} {q : IntKind} {b n : Nat} {f : Int → Option Int} (h : MapU w E q b n f) (hb : w'.heap[b]? = w.heap[b]?) : MapU w' E q b n f := by
  obtain ⟨D, ⟨es, ck, h1, h2⟩, h3⟩ := h
  exact ⟨D, ⟨es, ck, hb.trans h1, h2⟩, h3⟩
theorem MapU.mono {w : World} {E : TypeId} {q : IntKind} {b n n' : Nat} {f : Int → Option Int} (h : MapU w E q b n f) (hn : n ≤ n') : MapU w E q b n' f := by
  obtain ⟨D, h1, h2⟩ := h
  exact ⟨D, h1.mono hn, h2⟩
theorem MapU.congr {w : World} {E : TypeId} {q : IntKind} {b n : Nat} {f g : Int → Option Int} (h : MapU w E q b n f) (e : ∀ x, f x = g x) : MapU w E q b n g := by
  have : f = g := funext e
  rw [← this]; exact h
theorem MapU.put {w' : World} {E : TypeId} {q : IntKind} {b n' : Nat} {f : Int → Option Int} {D : DataW Unit} {x v : Int} (hD : IsMap D) (h1 : ∀ x, Maps.has D (.int .u32 x) = (f x).isSome) (h2 : ∀ x, D.atKey (.int .u32 x) (.lit (.int q 0)) = .lit (.int q ((f x).getD 0)))
    (h : w'.ownsMap Try.prog 22 (plainElem Try.prog E) b n' (D.put (.int .u32 x) (.lit (.int q v)))) : MapU w' E q b n' (fun y => if y = x then some v else f y) := by
  refine ⟨_, h, fun y => ?_, fun y => ?_⟩
  · show _ = (if y = x then some v else f y).isSome
    by_cases e : y = x
    · subst e; rw [if_pos rfl]; exact has_put_same (k := .int .u32 y) hD (by simp [WideAt.IsKeyLit]) _
    · rw [if_neg e, ← h1 y]; exact has_put_other (by simpa using e) _
  · show _ = DataW.lit (.int q ((if y = x then some v else f y).getD 0))
    by_cases e : y = x
    · subst e; rw [if_pos rfl]; exact atKey_put_same (k := .int .u32 y) hD (by simp [WideAt.IsKeyLit]) _ _
    · rw [if_neg e, ← h2 y]; exact atKey_put_other (by simpa using e) _ _

section
variable {w : World} {ops : Array Oper} {rest : List Oper} {o : Oper} {a : Act} {Q : Exit → Act → World → Prop}
/-- 'v, ok := m[x]'. -/
theorem wpList_lookU_ok (hg : o.guard = none) (m x : Operand) (t : TypeId) (hop : o.op = Op.lookup t m x true) (E : TypeId) (q : IntKind) (ht : Try.prog.underlying t = some (.map 22 E)) (he : Try.prog.underlying E = some (.int q)) (hz : (zeroValue E).run Try.prog w = .ok (.int q 0) w)
    (b n : Nat) (f : Int → Option Int) (hm : a.eval m = .map (some b)) (h : MapU w E q b n f) (key : Int) (hx : a.eval x = .int .u32 key) (k0 : 0 ≤ key) (k1 : key < 4294967296)
    (hK : wpList Try.prog ops Q rest (a.put o.dst (.tuple #[.int q ((f key).getD 0), .bool (f key).isSome])) w) : wpList Try.prog ops Q (o :: rest) a w := by
  obtain ⟨D, h1, h2, h3⟩ := h
  refine wpList_lookup_own_ok_int w hg m x t hop 22 E q keyU ht he hz b n D hm h1 _ _ hx (keyU_of k0 k1) ?_
  intro c hat _
  rw [h3] at hat
  simp only [DataW.lit.injEq, Lit.int.injEq, true_and] at hat
  rw [← hat, h2]
  exact hK
/-- 'v := m[x]'. -/
theorem wpList_lookU (hg : o.guard = none) (m x : Operand) (t : TypeId) (hop : o.op = Op.lookup t m x false) (E : TypeId) (q : IntKind) (ht : Try.prog.underlying t = some (.map 22 E)) (he : Try.prog.underlying E = some (.int q)) (hz : (zeroValue E).run Try.prog w = .ok (.int q 0) w)
    (b n : Nat) (f : Int → Option Int) (hm : a.eval m = .map (some b)) (h : MapU w E q b n f) (key : Int) (hx : a.eval x = .int .u32 key) (k0 : 0 ≤ key) (k1 : key < 4294967296)
    (hK : wpList Try.prog ops Q rest (a.put o.dst (.int q ((f key).getD 0))) w) : wpList Try.prog ops Q (o :: rest) a w := by
  obtain ⟨D, h1, h2, h3⟩ := h
  refine wpList_lookup_own_int w hg m x t hop 22 E q keyU ht he hz b n D hm h1 _ _ hx (keyU_of k0 k1) ?_
  intro c hat _
  rw [h3] at hat
  simp only [DataW.lit.injEq, Lit.int.injEq, true_and] at hat
  rw [← hat]
  exact hK
end

end Go.Proofs.Ytjckgnpbjekhbaa

/-
  An append within a region that draws its order, with where its row lies.
-/
namespace Go.Proofs.Ytjckgnpbjekhbaa
open Go.RowKit
set_option linter.unusedVariables false

end Go.Proofs.Ytjckgnpbjekhbaa
