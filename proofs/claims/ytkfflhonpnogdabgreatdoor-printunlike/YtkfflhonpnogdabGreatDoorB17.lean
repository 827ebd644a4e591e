/-
  Texts laid together in one: ArgInsts, LawPrintUnlike, PrintUnlikeProof.
-/
import Derived.ProofKit
import Derived.OpenShut
import Derived.SizedLaws
import Derived.Deep.Slices
import Derived.Deep.SlicePairs
import Derived.Lib.SmallJoins
import Derived.Test.YtkfflhonpnogdabGreatDoorProg
import Derived.Test.YtkfflhonpnogdabGreatDoorB01
import Derived.WalkSpells
import Derived.WalkMore
import Derived.BigRegion
import Derived.Test.YtkfflhonpnogdabGreatDoorB16
import Derived.Test.YtkfflhonpnogdabGreatDoorB02
import Derived.Test.YtkfflhonpnogdabGreatDoorB14
import Derived.Test.YtkfflhonpnogdabGreatDoorRows
import Derived.LaidMore
import Derived.Stop.Joined
import Derived.Stop.LaidErr
import Derived.Lib.LaidTab
import Derived.ShutString
import Derived.ChangeOld
import Derived.Below
/-
  What an argument that is an instruction, or a slice of instructions, holds: all within their bounds, each list within the reach of memory.
-/
namespace Go.Proofs.YtkfflhonpnogdabGreatDoor
open Go.ChangeShapes Go.WideShapes Go.ChangeAt Go.RowKit
set_option maxRecDepth 100000

theorem ArgInsts.cellsA : Tryz.prog.cellsOf 87 = 3 := by kernel_rfl
theorem ArgInsts.cells8 : Tryz.prog.cellsOf 5 = 1 := by kernel_rfl
theorem ArgInsts.cells32 : Tryz.prog.cellsOf 22 = 1 := by kernel_rfl
theorem ArgInsts.cellsS : Tryz.prog.cellsOf 9 = 1 := by kernel_rfl
theorem ArgInsts.bytesA : Tryz.prog.bytesOf 87 = 24 := by kernel_rfl
theorem ArgInsts.cells16 : Tryz.prog.cellsOf 46 = 1 := by kernel_rfl
theorem ArgInsts.cellsL : Tryz.prog.cellsOf 47 = 1 := by kernel_rfl

theorem ArgInsts.cellsI : Tryz.prog.cellsOf 49 = 4 := by kernel_rfl
theorem ArgInsts.bytesI : Tryz.prog.bytesOf 49 = 40 := by kernel_rfl

theorem weightsIn {H : Type} {P : Program} {e : TypeId} : ∀ {l : List (DataW H)} {d : DataW H}, d ∈ l → ∀ n ∈ d.weights P e, n ∈ DataW.weightsAll P e l
  | d0 :: l, d, hd, n, hn => by
    simp only [DataW.weightsAll, List.mem_append]
    rcases List.mem_cons.1 hd with rfl | h
    · exact Or.inl hn
    · exact Or.inr (weightsIn h n hn)

theorem argsV_mk {w : World} {x : Addr} {n : Nat} {f : Nat → ArgT} (h : ∀ i, i < n → w.cell? (x.add (i * 3)) = some (.int .u8 (f i).1) ∧ w.cell? (x.add (i * 3 + 1)) = some (.int .u32 (f i).2.1) ∧ w.cell? (x.add (i * 3 + 2)) = some (.string (f i).2.2)) : ArgsV w (some x) ((List.range n).map f) := by
  intro j hj
  rw [List.length_map, List.length_range] at hj
  have h0 := (h 0 (by omega)).1
  obtain ⟨b, off, spot⟩ := x
  have hs : spot = none := by simpa [Addr.add] using World.cell?_spot h0
  subst hs
  obtain ⟨h1, h2, h3⟩ := h j hj
  rw [Addr.add_lit] at h1 h2 h3
  have e : nthA ((List.range n).map f) j = f j := by simp [nthA, List.getD, hj]
  rw [e]
  exact ⟨b, off, rfl, World.block_lt_of_cell? _ _ h1, h1, by rw [Nat.add_assoc]; exact h2, by rw [Nat.add_assoc]; exact h3⟩

set_option maxHeartbeats 1000000 in
theorem open_args {H : Type} {enc : TypeId × Value → H} {w : World} {base fuel : Nat} {held : Bool} {a : Option Addr} {len cap : Nat} {d : DataW H} {ps : List MemPlace}
    (hf : DataW.trod enc Tryz.prog w base (fun _ => true) held fuel 47 [.slice a len cap] = some (d, ps)) (hs : ∀ n ∈ d.weights Tryz.prog 47, n ≤ reachBytes) :
    ∃ l : List ArgT, l.length = len ∧ ArgsV w a l ∧ ArgsOk l ∧ 24 * len ≤ 140737488351232 ∧ len ≤ cap := by
  rcases Go.Deep.open_slice Tryz.underlying47 hf with ⟨hcs, _⟩ | ⟨x, l, c, mm, nn, D, Pl, hcs, _, hl, hm, hmm, hx, hall⟩
  · simp at hcs
    obtain ⟨rfl, rfl, rfl⟩ := hcs
    exact ⟨[], rfl, argsV_nil, argsOk_nil, by omega, by omega⟩
  · simp at hcs
    obtain ⟨rfl, rfl, rfl⟩ := hcs
    simp only [Prod.mk.injEq] at hx
    obtain ⟨rfl, rfl⟩ := hx
    simp only [if_true] at hmm
    subst hmm
    have hs0 := hs ((((List.range len).map D).length + ((List.range (mm - len)).map fun j => D (len + j)).length) * Tryz.prog.bytesOf 87) (by simp [DataW.weights, Tryz.underlying47])
    rw [ArgInsts.bytesA] at hs0
    simp only [List.length_map, List.length_range, reachBytes] at hs0
    have key : ∀ i, i < len → ∃ r : ArgT, w.cell? (x.add (i * 3)) = some (.int .u8 r.1) ∧ w.cell? (x.add (i * 3 + 1)) = some (.int .u32 r.2.1) ∧ w.cell? (x.add (i * 3 + 2)) = some (.string r.2.2) ∧ ArgOk r := by
      intro i hi
      obtain ⟨cs, hc, ht⟩ := hall i (by omega)
      rw [ArgInsts.cellsA] at hc
      obtain ⟨_, hlen, hcell⟩ := World.cells?_some hc
      obtain ⟨xs, k, _, hxy, _, hxl, hfl⟩ := DataW.trod_struct Tryz.underlying87 ht
      have g0 := hfl 0 _ rfl
      have g1 := hfl 1 _ rfl
      have g2 := hfl 2 _ rfl
      match xs, hxl, cs, hlen with
      | [y0, y1, y2], _, [v0, v1, v2], _ =>
        have e0 := hcell 0 (by omega)
        have e1 := hcell 1 (by omega)
        have e2 := hcell 2 (by omega)
        rw [Go.Deep.add_add] at e0 e1 e2
        simp [ArgInsts.cells8, ArgInsts.cells32, ArgInsts.cellsS] at g0 g1 g2 e0 e1 e2
        obtain ⟨n0, q0, _, w0⟩ := DataW.trod_int Tryz.underlying5 g0
        obtain ⟨n1, q1, _, w1⟩ := DataW.trod_int Tryz.underlying22 g1
        obtain ⟨s2, q2, q3⟩ := DataW.trod_string Tryz.underlying9 g2
        simp at q0 q1 q2
        subst q0; subst q1; subst q2
        have b0 := bounds_u8 w0
        have b1 := bounds_u32 w1
        refine ⟨(n0, n1, s2), by simpa using e0, e1, e2, ?_⟩
        have hs2 := hs s2.size (by
          have hmem : D i ∈ (List.range len).map D := List.mem_map.2 ⟨i, List.mem_range.2 hi, rfl⟩
          simp only [DataW.weights, Tryz.underlying47, List.mem_cons, List.mem_append]
          refine Or.inr (Or.inl (weightsIn hmem _ ?_))
          simp only [Prod.mk.injEq] at hxy
          rw [hxy.1]
          simp only [DataW.weights, Tryz.underlying87]
          refine DataW.weights_mem_each (j := 2) rfl rfl _ ?_
          simp_all [DataW.weights])
        simp only [reachBytes] at hs2
        exact ⟨by simp; omega, by simp; omega, by simp; omega, by simp; omega, hs2⟩
    let f : Nat → ArgT := fun i => if h : i < len then Classical.choose (key i h) else noArg
    have hf' : ∀ i (h : i < len), f i = Classical.choose (key i h) := fun i h => dif_pos h
    refine ⟨(List.range len).map f, by simp, argsV_mk (fun i hi => ?_), fun j hj => ?_, by omega, hl⟩
    · rw [hf' i hi]
      obtain ⟨h1, h2, h3, _⟩ := Classical.choose_spec (key i hi)
      exact ⟨h1, h2, h3⟩
    · rw [List.length_map, List.length_range] at hj
      have e : nthA ((List.range len).map f) j = f j := by simp [nthA, List.getD, hj]
      rw [e, hf' j hj]
      exact (Classical.choose_spec (key j hj)).2.2.2

theorem instsV_mk {w : World} {x : Addr} {n : Nat} {f : Nat → InstT} (h : ∀ i, i < n → w.cell? (x.add (i * 4)) = some (.int .u16 (f i).1) ∧ w.cell? (x.add (i * 4 + 1)) = some (.int .u32 (f i).2.1) ∧ w.cell? (x.add (i * 4 + 2)) = some (.int .u32 (f i).2.2.1) ∧
    ∃ aj cj, w.cell? (x.add (i * 4 + 3)) = some (.slice aj (f i).2.2.2.length cj) ∧ ArgsV w aj (f i).2.2.2 ∧ (f i).2.2.2.length ≤ cj) : InstsV w (some x) ((List.range n).map f) := by
  intro j hj
  rw [List.length_map, List.length_range] at hj
  have h0 := (h 0 (by omega)).1
  obtain ⟨b, off, spot⟩ := x
  have hs : spot = none := by simpa [Addr.add] using World.cell?_spot h0
  subst hs
  obtain ⟨h1, h2, h3, aj, cj, h4, h5, h6⟩ := h j hj
  rw [Addr.add_lit] at h1 h2 h3 h4
  have e : nthI ((List.range n).map f) j = f j := by simp [nthI, List.getD, hj]
  rw [e]
  exact ⟨b, off, aj, cj, _, rfl, World.block_lt_of_cell? _ _ h1, h1, by rw [Nat.add_assoc]; exact h2, by rw [Nat.add_assoc]; exact h3, by rw [Nat.add_assoc]; exact h4, rfl, h5, h6⟩

set_option maxHeartbeats 1000000 in
theorem open_insts {H : Type} {enc : TypeId × Value → H} {w : World} {base fuel : Nat} {held : Bool} {a : Option Addr} {len cap : Nat} {d : DataW H} {ps : List MemPlace}
    (hf : DataW.trod enc Tryz.prog w base (fun _ => true) held fuel 23 [.slice a len cap] = some (d, ps)) (hs : ∀ n ∈ d.weights Tryz.prog 23, n ≤ reachBytes) :
    ∃ l : List InstT, l.length = len ∧ InstsV w a l ∧ InstsOk l ∧ 40 * len ≤ 140737488351232 ∧ len ≤ cap := by
  rcases Go.Deep.open_slice Tryz.underlying23 hf with ⟨hcs, _⟩ | ⟨x, l, c, mm, nn, D, Pl, hcs, _, hl, hm, hmm, hx, hall⟩
  · simp at hcs
    obtain ⟨rfl, rfl, rfl⟩ := hcs
    exact ⟨[], rfl, instsV_nil, instsOk_nil, by omega, by omega⟩
  · simp at hcs
    obtain ⟨rfl, rfl, rfl⟩ := hcs
    simp only [Prod.mk.injEq] at hx
    obtain ⟨rfl, rfl⟩ := hx
    simp only [if_true] at hmm
    subst hmm
    have hs0 := hs ((((List.range len).map D).length + ((List.range (mm - len)).map fun j => D (len + j)).length) * Tryz.prog.bytesOf 49) (by simp [DataW.weights, Tryz.underlying23])
    rw [ArgInsts.bytesI] at hs0
    simp only [List.length_map, List.length_range, reachBytes] at hs0
    have key : ∀ i, i < len → ∃ r : InstT, w.cell? (x.add (i * 4)) = some (.int .u16 r.1) ∧ w.cell? (x.add (i * 4 + 1)) = some (.int .u32 r.2.1) ∧ w.cell? (x.add (i * 4 + 2)) = some (.int .u32 r.2.2.1) ∧
        (∃ aj cj, w.cell? (x.add (i * 4 + 3)) = some (.slice aj r.2.2.2.length cj) ∧ ArgsV w aj r.2.2.2 ∧ r.2.2.2.length ≤ cj) ∧ InstOk r := by
      intro i hi
      obtain ⟨cs, hc, ht⟩ := hall i (by omega)
      rw [ArgInsts.cellsI] at hc
      obtain ⟨_, hlen, hcell⟩ := World.cells?_some hc
      obtain ⟨xs, k, _, hxy, _, hxl, hfl⟩ := DataW.trod_struct Tryz.underlying49 ht
      have g0 := hfl 0 _ rfl
      have g1 := hfl 1 _ rfl
      have g2 := hfl 2 _ rfl
      have g3 := hfl 3 _ rfl
      match xs, hxl, cs, hlen with
      | [y0, y1, y2, y3], _, [v0, v1, v2, v3], _ =>
        have e0 := hcell 0 (by omega)
        have e1 := hcell 1 (by omega)
        have e2 := hcell 2 (by omega)
        have e3 := hcell 3 (by omega)
        rw [Go.Deep.add_add] at e0 e1 e2 e3
        simp [ArgInsts.cells16, ArgInsts.cells32, ArgInsts.cellsL] at g0 g1 g2 g3 e0 e1 e2 e3
        obtain ⟨n0, q0, _, w0⟩ := DataW.trod_int Tryz.underlying46 g0
        obtain ⟨n1, q1, _, w1⟩ := DataW.trod_int Tryz.underlying22 g1
        obtain ⟨n2, q2, _, w2⟩ := DataW.trod_int Tryz.underlying22 g2
        simp at q0 q1 q2
        subst q0; subst q1; subst q2
        have b0 := bounds_u16 w0
        have b1 := bounds_u32 w1
        have b2 := bounds_u32 w2
        obtain ⟨a, n, c, rfl⟩ : ∃ a n c, v3 = .slice a n c := by
          rcases Go.Deep.open_slice Tryz.underlying47 g3 with ⟨hcs, _⟩ | ⟨x, l, c, mm, nn, D, Pl, hcs, _⟩
          · simp at hcs; exact ⟨_, _, _, hcs⟩
          · simp at hcs; exact ⟨_, _, _, hcs⟩
        obtain ⟨l, hl, hv3, hok, hr, hc⟩ := open_args g3 (fun k hk => hs k (by
          have hmem : D i ∈ (List.range len).map D := List.mem_map.2 ⟨i, List.mem_range.2 hi, rfl⟩
          simp only [DataW.weights, Tryz.underlying23, List.mem_cons, List.mem_append]
          refine Or.inr (Or.inl (weightsIn hmem _ ?_))
          simp only [Prod.mk.injEq] at hxy
          rw [hxy.1]
          simp only [DataW.weights, Tryz.underlying49]
          exact DataW.weights_mem_each (j := 3) rfl rfl _ hk))
        subst hl
        exact ⟨(n0, n1, n2, l), by simpa using e0, e1, e2, ⟨a, c, e3, hv3, hc⟩, by simp; omega, by simp; omega, by simp; omega, by simp; omega, by simp; omega, by simp; omega, hok, hr⟩
    let f : Nat → InstT := fun i => if h : i < len then Classical.choose (key i h) else noInst
    have hf' : ∀ i (h : i < len), f i = Classical.choose (key i h) := fun i h => dif_pos h
    refine ⟨(List.range len).map f, by simp, instsV_mk (fun i hi => ?_), fun j hj => ?_, by omega, hl⟩
    · rw [hf' i hi]
      obtain ⟨h1, h2, h3, h4, _⟩ := Classical.choose_spec (key i hi)
      exact ⟨h1, h2, h3, h4⟩
    · rw [List.length_map, List.length_range] at hj
      have e : nthI ((List.range len).map f) j = f j := by simp [nthI, List.getD, hj]
      rw [e, hf' j hj]
      exact (Classical.choose_spec (key j hj)).2.2.2.2

theorem open_module {H : Type} {enc : TypeId × Value → H} {w : World} {b0 base : Nat} {held : Bool} {v : Value} {d : DataW H} {ps : List MemPlace}
    (hv : Value.okWide Tryz.prog w .any b0 25 v) (h : DataW.Trod enc Tryz.prog w base (fun _ => true) held 25 v d ps) (hs : ∀ n ∈ d.weights Tryz.prog 25, n ≤ reachBytes) :
    ∃ (gen bound : Int) (a : Option Addr) (n c : Nat) (l : List InstT), v = .agg #[.int .u32 gen, .int .u32 bound, .slice a n c] ∧ 0 ≤ gen ∧ gen < 4294967296 ∧ 0 ≤ bound ∧ bound < 4294967296 ∧ l.length = n ∧ InstsV w a l ∧ InstsOk l ∧ 40 * n ≤ 140737488351232 ∧ n ≤ c := by
  obtain ⟨v0, v1, v3, y0, y1, y3, m, rfl, rfl, _, t0, t1, t3⟩ := Go.Joins.open_agg3 Tryz.underlying25 (by kernel_rfl) (by kernel_rfl) hv h
  obtain ⟨n0, e0, _, w0⟩ := DataW.trod_int Tryz.underlying22 t0
  obtain ⟨n1, e1, _, w1⟩ := DataW.trod_int Tryz.underlying22 t1
  simp at e0 e1
  subst e0; subst e1
  have b0 := bounds_u32 w0
  have b1 := bounds_u32 w1
  obtain ⟨a, n, c, rfl⟩ : ∃ a n c, v3 = .slice a n c := by
    rcases Go.Deep.open_slice Tryz.underlying23 t3 with ⟨hcs, _⟩ | ⟨x, l, c, mm, nn, D, Pl, hcs, _⟩
    · simp at hcs; exact ⟨_, _, _, hcs⟩
    · simp at hcs; exact ⟨_, _, _, hcs⟩
  obtain ⟨l, hl, hv3, hok, hr, hc⟩ := open_insts t3 (fun k hk => hs k (by
    simp only [DataW.weights, Tryz.underlying25]
    exact DataW.weights_mem_each (j := 2) rfl rfl _ hk))
  exact ⟨n0, n1, a, n, c, l, rfl, by omega, by omega, by omega, by omega, hl, hv3, hok, hr, hc⟩

end Go.Proofs.YtkfflhonpnogdabGreatDoor

/-
  The law PrintUnlike answers true, for every two modules, where the table of powers of ten is laid.
-/
namespace Go.Proofs.YtkfflhonpnogdabGreatDoor
open Go.RowKit
set_option linter.unusedVariables false
set_option linter.unusedSimpArgs false
set_option maxRecDepth 10000

theorem strI_ne {s t : ByteArray} (h : s ≠ t) : (s.toList == t.toList) = false := by
  rw [eq_strI, decide_eq_false_iff_not]
  intro e
  apply h
  have e2 : s.data.toList.map (fun x => (x.toNat : Int)) = t.data.toList.map (fun x => (x.toNat : Int)) := e
  have e3 : s.data.toList = t.data.toList := by
    refine (List.map_inj_right ?_).1 e2
    intro a b hab
    have : a.toNat = b.toNat := by omega
    exact UInt8.toNat_inj.1 this
  cases s; cases t
  simp only at e3
  congr 1
  exact Array.ext' e3

set_option maxHeartbeats 8000000 in
theorem printUnlike_bad (w : World) (g1 : Int) (N1 : Nat) (a1 : Option Addr) (n1 c1 : Nat) (l1 : List InstT) (hl1 : l1.length = n1) (hv1 : InstsV w a1 l1) (hok1 : InstsOk l1) (hr1 : 40 * n1 ≤ 140737488351232) (hg1 : 0 ≤ g1 ∧ g1 < 4294967296) (hN1 : (N1 : Int) < 4294967296)
    (g2 : Int) (N2 : Nat) (a2 : Option Addr) (n2 c2 : Nat) (l2 : List InstT) (hl2 : l2.length = n2) (hv2 : InstsV w a2 l2) (hok2 : InstsOk l2) (hr2 : 40 * n2 ≤ 140737488351232) (hg2 : 0 ≤ g2 ∧ g2 < 4294967296) (hN2 : (N2 : Int) < 4294967296) (ht : Pow10 w) (h1 : (shapeE (N1 : Int) l1).1 ≠ 0) :
    Calls Tryz.prog 3 #[.agg #[.int .u32 g1, .int .u32 N1, .slice a1 n1 c1], .agg #[.int .u32 g2, .int .u32 N2, .slice a2 n2 c2]] w fun e w' => e = .returned (.bool true) ∧ Below w.heap.size w w' := by
  have hCp1 := fun wx (hb : Below w.heap.size w wx) => copyModule_any g1 (N1 : Int) a1 n1 c1 l1 wx (hv1.below hb) hok1 hl1 hr1
  have hCp2 := fun wx (hb : Below w.heap.size w wx) => copyModule_any g2 (N2 : Int) a2 n2 c2 l2 wx (hv2.below hb) hok2 hl2 hr2
  have hT1 := fun wx p c (h : InstsV wx (some ⟨p, 0, none⟩) l1) (hb : Below w.heap.size w wx) => printTextM_any g1 N1 (some ⟨p, 0, none⟩) n1 c l1 wx h hok1 hl1 hr1 hg1.1 hg1.2 hN1 (ht.below hb)
  have hT2 := fun wx p c (h : InstsV wx (some ⟨p, 0, none⟩) l2) (hb : Below w.heap.size w wx) => printTextM_any g2 N2 (some ⟨p, 0, none⟩) n2 c l2 wx h hok2 hl2 hr2 hg2.1 hg2.2 hN2 (ht.below hb)
  have hAw := fun wx (hb : Below w.heap.size w wx) => awake8_true wx (ht.below hb)
  have HH1 := hide h1
  have hB0 := below_two8 w (.cells #[.int .u32 g1, .int .u32 N1, .slice a1 n1 c1] 25) (.cells #[.int .u32 g2, .int .u32 N2, .slice a2 n2 c2] 25)
  have k1 : ((w.alloc (.cells #[.int .u32 g1, .int .u32 N1, .slice a1 n1 c1] 25)).alloc (.cells #[.int .u32 g2, .int .u32 N2, .slice a2 n2 c2] 25)).heap[w.heap.size]? = some (.cells #[.int .u32 g1, .int .u32 N1, .slice a1 n1 c1] 25 (0, 0)) := (Below.heap_alloc _ _ _ (by simp)).trans (heap_alloc_new w _)
  have k2 : ((w.alloc (.cells #[.int .u32 g1, .int .u32 N1, .slice a1 n1 c1] 25)).alloc (.cells #[.int .u32 g2, .int .u32 N2, .slice a2 n2 c2] 25)).heap[w.heap.size + 1]? = some (.cells #[.int .u32 g2, .int .u32 N2, .slice a2 n2 c2] 25 (0, 0)) := by simpa using alloc_new (w.alloc (.cells #[.int .u32 g1, .int .u32 N1, .slice a1 n1 c1] 25)) #[.int .u32 g2, .int .u32 N2, .slice a2 n2 c2] 25
  generalize txtP g1 (N1 : Int) l1 = X at *
  generalize txtP g2 (N2 : Int) l2 = Y at *
  generalize (shapeE (N1 : Int) l1).1 = e1 at *
  generalize (shapeE (N1 : Int) l1).2 = x1 at *
  generalize (shapeE (N2 : Int) l2).1 = e2 at *
  generalize (shapeE (N2 : Int) l2).2 = x2 at *
  have HB0 := hide hB0
  have HK1 := hide k1
  have HK2 := hide k2
  unfold modV at *
  clear hB0 k1 k2 hl1 hl2 hv1 hv2 hok1 hok2 hr1 hr2 hg1 hg2 hN1 hN2 ht h1
  go_enter Tryz.func3, Tryz.ntmps3
  go_wp2_with fail
  generalize (w.alloc (.cells #[.int .u32 g1, .int .u32 N1, .slice a1 n1 c1] 25)).alloc (.cells #[.int .u32 g2, .int .u32 N2, .slice a2 n2 c2] 25) = W0 at *
  have l1' := (Array.getElem?_eq_some_iff.1 HK1.out).1
  have l2' := (Array.getElem?_eq_some_iff.1 HK2.out).1
  refine (hCp1 _ HB0.out).mono ?_
  rintro e w1 ⟨p1, rfl, _, hV1, hb1⟩
  have hC2 := hT1 w1 p1 n1 hV1 (HB0.out.trans (hb1.mono HB0.out.size))
  clear hV1 hT1 hCp1
  go_wp2_with fail
  refine hC2.mono ?_
  rintro e w2 ⟨rfl, hb2⟩
  have hb02 := hb1.trans (hb2.mono hb1.size)
  have hb3 : Below W0.heap.size W0 (w2.alloc (.cells #[.int .i64 e1, .int .i64 (x1 : Int)] 28)) := hb02.alloc hb02.size _
  obtain ⟨m3, _⟩ := one_block ((hb3.block _ l2').trans HK2.out)
  have q0 := m3 0
  have q1 := m3 1
  have q2 := m3 2
  have HKS := hide (alloc_new w2 #[.int .i64 e1, .int .i64 (x1 : Int)] 28)
  have HB3 := hide (HB0.out.trans (hb3.mono HB0.out.size))
  have HKA := hide ((hb3.block _ l1').trans HK1.out)
  have HKB := hide ((hb3.block _ l2').trans HK2.out)
  clear hC2 hb1 hb2 hb02 hb3 m3 HK1 HK2 l1' l2' HB0
  go_wp2_with fail
  generalize w2.alloc (.cells #[.int .i64 e1, .int .i64 (x1 : Int)] 28) = W3 at *
  refine (hCp2 _ HB3.out).mono ?_
  rintro e w4 ⟨p4, rfl, _, hV4, hb4⟩
  have hC5 := hT2 w4 p4 n2 hV4 (HB3.out.trans (hb4.mono HB3.out.size))
  clear hV4 hT2 hCp2 q0 q1 q2
  go_wp2_with fail
  refine hC5.mono ?_
  rintro e w5 ⟨rfl, hb5⟩
  have lS := (Array.getElem?_eq_some_iff.1 HKS.out).1
  have lA := (Array.getElem?_eq_some_iff.1 HKA.out).1
  have lB := (Array.getElem?_eq_some_iff.1 HKB.out).1
  have hb35 := hb4.trans (hb5.mono hb4.size)
  have hb6 : Below W3.heap.size W3 (w5.alloc (.cells #[.int .i64 e2, .int .i64 (x2 : Int)] 28)) := hb35.alloc hb35.size _
  obtain ⟨s1, _⟩ := one_block ((hb6.block _ lS).trans HKS.out)
  have r0 := s1 0
  obtain ⟨ma, _⟩ := one_block ((hb6.block _ lA).trans HKA.out)
  have a0 := ma 0
  have a1' := ma 1
  have a2' := ma 2
  obtain ⟨mb, _⟩ := one_block ((hb6.block _ lB).trans HKB.out)
  have b0 := mb 0
  have b1' := mb 1
  have b2' := mb 2
  obtain ⟨t0, _⟩ := one_block (alloc_new w5 #[.int .i64 e2, .int .i64 (x2 : Int)] 28)
  have u0 := t0 0
  have HB6 := hide (HB3.out.trans (hb6.mono HB3.out.size))
  have hA6 := hAw _ HB6.out
  clear hC5 hb4 hb5 hb35 hb6 s1 ma mb t0 HKS HKA HKB lS lA lB HB3
  have hz1 : (e1 == 0) = false := by have := HH1.out; simpa using this
  clear a0 a1' a2' b0 b1' b2'
  go_wp2_with fail
  refine hA6.mono ?_
  rintro e w7 ⟨rfl, hb7⟩
  go_wp2_with fail
  go_ret
  exact ⟨rfl, HB6.out.trans (hb7.mono HB6.out.size)⟩

set_option maxHeartbeats 8000000 in
theorem printUnlike_half (w : World) (g1 : Int) (N1 : Nat) (a1 : Option Addr) (n1 c1 : Nat) (l1 : List InstT) (hl1 : l1.length = n1) (hv1 : InstsV w a1 l1) (hok1 : InstsOk l1) (hr1 : 40 * n1 ≤ 140737488351232) (hg1 : 0 ≤ g1 ∧ g1 < 4294967296) (hN1 : (N1 : Int) < 4294967296)
    (g2 : Int) (N2 : Nat) (a2 : Option Addr) (n2 c2 : Nat) (l2 : List InstT) (hl2 : l2.length = n2) (hv2 : InstsV w a2 l2) (hok2 : InstsOk l2) (hr2 : 40 * n2 ≤ 140737488351232) (hg2 : 0 ≤ g2 ∧ g2 < 4294967296) (hN2 : (N2 : Int) < 4294967296) (ht : Pow10 w) (h1 : (shapeE (N1 : Int) l1).1 = 0) (h2 : (shapeE (N2 : Int) l2).1 ≠ 0) :
    Calls Tryz.prog 3 #[.agg #[.int .u32 g1, .int .u32 N1, .slice a1 n1 c1], .agg #[.int .u32 g2, .int .u32 N2, .slice a2 n2 c2]] w fun e w' => e = .returned (.bool true) ∧ Below w.heap.size w w' := by
  have hCp1 := fun wx (hb : Below w.heap.size w wx) => copyModule_any g1 (N1 : Int) a1 n1 c1 l1 wx (hv1.below hb) hok1 hl1 hr1
  have hCp2 := fun wx (hb : Below w.heap.size w wx) => copyModule_any g2 (N2 : Int) a2 n2 c2 l2 wx (hv2.below hb) hok2 hl2 hr2
  have hT1 := fun wx p c (h : InstsV wx (some ⟨p, 0, none⟩) l1) (hb : Below w.heap.size w wx) => printTextM_any g1 N1 (some ⟨p, 0, none⟩) n1 c l1 wx h hok1 hl1 hr1 hg1.1 hg1.2 hN1 (ht.below hb)
  have hT2 := fun wx p c (h : InstsV wx (some ⟨p, 0, none⟩) l2) (hb : Below w.heap.size w wx) => printTextM_any g2 N2 (some ⟨p, 0, none⟩) n2 c l2 wx h hok2 hl2 hr2 hg2.1 hg2.2 hN2 (ht.below hb)
  have hAw := fun wx (hb : Below w.heap.size w wx) => awake8_true wx (ht.below hb)
  have HH1 := hide h1
  have HH2 := hide h2
  have hB0 := below_two8 w (.cells #[.int .u32 g1, .int .u32 N1, .slice a1 n1 c1] 25) (.cells #[.int .u32 g2, .int .u32 N2, .slice a2 n2 c2] 25)
  have k1 : ((w.alloc (.cells #[.int .u32 g1, .int .u32 N1, .slice a1 n1 c1] 25)).alloc (.cells #[.int .u32 g2, .int .u32 N2, .slice a2 n2 c2] 25)).heap[w.heap.size]? = some (.cells #[.int .u32 g1, .int .u32 N1, .slice a1 n1 c1] 25 (0, 0)) := (Below.heap_alloc _ _ _ (by simp)).trans (heap_alloc_new w _)
  have k2 : ((w.alloc (.cells #[.int .u32 g1, .int .u32 N1, .slice a1 n1 c1] 25)).alloc (.cells #[.int .u32 g2, .int .u32 N2, .slice a2 n2 c2] 25)).heap[w.heap.size + 1]? = some (.cells #[.int .u32 g2, .int .u32 N2, .slice a2 n2 c2] 25 (0, 0)) := by simpa using alloc_new (w.alloc (.cells #[.int .u32 g1, .int .u32 N1, .slice a1 n1 c1] 25)) #[.int .u32 g2, .int .u32 N2, .slice a2 n2 c2] 25
  generalize txtP g1 (N1 : Int) l1 = X at *
  generalize txtP g2 (N2 : Int) l2 = Y at *
  generalize (shapeE (N1 : Int) l1).1 = e1 at *
  generalize (shapeE (N1 : Int) l1).2 = x1 at *
  generalize (shapeE (N2 : Int) l2).1 = e2 at *
  generalize (shapeE (N2 : Int) l2).2 = x2 at *
  have HB0 := hide hB0
  have HK1 := hide k1
  have HK2 := hide k2
  unfold modV at *
  clear hB0 k1 k2 hl1 hl2 hv1 hv2 hok1 hok2 hr1 hr2 hg1 hg2 hN1 hN2 ht h1 h2
  go_enter Tryz.func3, Tryz.ntmps3
  go_wp2_with fail
  generalize (w.alloc (.cells #[.int .u32 g1, .int .u32 N1, .slice a1 n1 c1] 25)).alloc (.cells #[.int .u32 g2, .int .u32 N2, .slice a2 n2 c2] 25) = W0 at *
  have l1' := (Array.getElem?_eq_some_iff.1 HK1.out).1
  have l2' := (Array.getElem?_eq_some_iff.1 HK2.out).1
  refine (hCp1 _ HB0.out).mono ?_
  rintro e w1 ⟨p1, rfl, _, hV1, hb1⟩
  have hC2 := hT1 w1 p1 n1 hV1 (HB0.out.trans (hb1.mono HB0.out.size))
  clear hV1 hT1 hCp1
  go_wp2_with fail
  refine hC2.mono ?_
  rintro e w2 ⟨rfl, hb2⟩
  have hb02 := hb1.trans (hb2.mono hb1.size)
  have hb3 : Below W0.heap.size W0 (w2.alloc (.cells #[.int .i64 e1, .int .i64 (x1 : Int)] 28)) := hb02.alloc hb02.size _
  obtain ⟨m3, _⟩ := one_block ((hb3.block _ l2').trans HK2.out)
  have q0 := m3 0
  have q1 := m3 1
  have q2 := m3 2
  have HKS := hide (alloc_new w2 #[.int .i64 e1, .int .i64 (x1 : Int)] 28)
  have HB3 := hide (HB0.out.trans (hb3.mono HB0.out.size))
  have HKA := hide ((hb3.block _ l1').trans HK1.out)
  have HKB := hide ((hb3.block _ l2').trans HK2.out)
  clear hC2 hb1 hb2 hb02 hb3 m3 HK1 HK2 l1' l2' HB0
  go_wp2_with fail
  generalize w2.alloc (.cells #[.int .i64 e1, .int .i64 (x1 : Int)] 28) = W3 at *
  refine (hCp2 _ HB3.out).mono ?_
  rintro e w4 ⟨p4, rfl, _, hV4, hb4⟩
  have hC5 := hT2 w4 p4 n2 hV4 (HB3.out.trans (hb4.mono HB3.out.size))
  clear hV4 hT2 hCp2 q0 q1 q2
  go_wp2_with fail
  refine hC5.mono ?_
  rintro e w5 ⟨rfl, hb5⟩
  have lS := (Array.getElem?_eq_some_iff.1 HKS.out).1
  have lA := (Array.getElem?_eq_some_iff.1 HKA.out).1
  have lB := (Array.getElem?_eq_some_iff.1 HKB.out).1
  have hb35 := hb4.trans (hb5.mono hb4.size)
  have hb6 : Below W3.heap.size W3 (w5.alloc (.cells #[.int .i64 e2, .int .i64 (x2 : Int)] 28)) := hb35.alloc hb35.size _
  obtain ⟨s1, _⟩ := one_block ((hb6.block _ lS).trans HKS.out)
  have r0 := s1 0
  obtain ⟨ma, _⟩ := one_block ((hb6.block _ lA).trans HKA.out)
  have a0 := ma 0
  have a1' := ma 1
  have a2' := ma 2
  obtain ⟨mb, _⟩ := one_block ((hb6.block _ lB).trans HKB.out)
  have b0 := mb 0
  have b1' := mb 1
  have b2' := mb 2
  obtain ⟨t0, _⟩ := one_block (alloc_new w5 #[.int .i64 e2, .int .i64 (x2 : Int)] 28)
  have u0 := t0 0
  have HB6 := hide (HB3.out.trans (hb6.mono HB3.out.size))
  have hA6 := hAw _ HB6.out
  clear hC5 hb4 hb5 hb35 hb6 s1 ma mb t0 HKS HKA HKB lS lA lB HB3
  have hz1 : e1 = 0 := HH1.out
  have hz2 : (e2 == 0) = false := by have := HH2.out; simpa using this
  clear a0 a1' a2' b0 b1' b2'
  go_wp2_with fail
  refine hA6.mono ?_
  rintro e w7 ⟨rfl, hb7⟩
  go_wp2_with fail
  go_ret
  exact ⟨rfl, HB6.out.trans (hb7.mono HB6.out.size)⟩

set_option maxHeartbeats 8000000 in
theorem printUnlike_same (w : World) (g1 : Int) (N1 : Nat) (a1 : Option Addr) (n1 c1 : Nat) (l1 : List InstT) (hl1 : l1.length = n1) (hv1 : InstsV w a1 l1) (hok1 : InstsOk l1) (hr1 : 40 * n1 ≤ 140737488351232) (hg1 : 0 ≤ g1 ∧ g1 < 4294967296) (hN1 : (N1 : Int) < 4294967296)
    (g2 : Int) (N2 : Nat) (a2 : Option Addr) (n2 c2 : Nat) (l2 : List InstT) (hl2 : l2.length = n2) (hv2 : InstsV w a2 l2) (hok2 : InstsOk l2) (hr2 : 40 * n2 ≤ 140737488351232) (hg2 : 0 ≤ g2 ∧ g2 < 4294967296) (hN2 : (N2 : Int) < 4294967296) (ht : Pow10 w) (h1 : (shapeE (N1 : Int) l1).1 = 0) (h2 : (shapeE (N2 : Int) l2).1 = 0) (hXY : txtP g1 (N1 : Int) l1 = txtP g2 (N2 : Int) l2) :
    Calls Tryz.prog 3 #[.agg #[.int .u32 g1, .int .u32 N1, .slice a1 n1 c1], .agg #[.int .u32 g2, .int .u32 N2, .slice a2 n2 c2]] w fun e w' => e = .returned (.bool true) ∧ Below w.heap.size w w' := by
  have hCp1 := fun wx (hb : Below w.heap.size w wx) => copyModule_any g1 (N1 : Int) a1 n1 c1 l1 wx (hv1.below hb) hok1 hl1 hr1
  have hCp2 := fun wx (hb : Below w.heap.size w wx) => copyModule_any g2 (N2 : Int) a2 n2 c2 l2 wx (hv2.below hb) hok2 hl2 hr2
  have hT1 := fun wx p c (h : InstsV wx (some ⟨p, 0, none⟩) l1) (hb : Below w.heap.size w wx) => printTextM_any g1 N1 (some ⟨p, 0, none⟩) n1 c l1 wx h hok1 hl1 hr1 hg1.1 hg1.2 hN1 (ht.below hb)
  have hT2 := fun wx p c (h : InstsV wx (some ⟨p, 0, none⟩) l2) (hb : Below w.heap.size w wx) => printTextM_any g2 N2 (some ⟨p, 0, none⟩) n2 c l2 wx h hok2 hl2 hr2 hg2.1 hg2.2 hN2 (ht.below hb)
  have hAw := fun wx (hb : Below w.heap.size w wx) => awake8_true wx (ht.below hb)
  have hMo := fun wx (hb : Below w.heap.size w wx) (r : Bool) (hr : r = true ↔ (g1 = g2 ∧ (N1 : Int) = (N2 : Int) ∧ l1 = l2)) => kitModule_any g1 (N1 : Int) g2 (N2 : Int) l1 l2 a1 a2 n1 n2 c1 c2 wx (hv1.below hb) (hv2.below hb) hl1 hl2 hok1 hok2 (by omega) (by omega) r hr
  have hR : txtP g1 (N1 : Int) l1 = txtP g2 (N2 : Int) l2 ↔ (g1 = g2 ∧ (N1 : Int) = (N2 : Int) ∧ l1 = l2) := by
    constructor
    · intro h
      unfold txtP at h
      rw [if_pos h1, if_pos h2] at h
      exact print_unlike hg1.1 hg1.2 hg2.1 hg2.2 hok1 hok2 h1 h2 (textP_size hg1.2 hok1 h1) h
    · rintro ⟨rfl, e, rfl⟩
      rw [e]
  have hMr := fun wx hb => hMo wx hb true (by simp only [true_iff]; exact hR.1 hXY)
  clear hMo hR
  have HH1 := hide h1
  have HH2 := hide h2
  have hB0 := below_two8 w (.cells #[.int .u32 g1, .int .u32 N1, .slice a1 n1 c1] 25) (.cells #[.int .u32 g2, .int .u32 N2, .slice a2 n2 c2] 25)
  have k1 : ((w.alloc (.cells #[.int .u32 g1, .int .u32 N1, .slice a1 n1 c1] 25)).alloc (.cells #[.int .u32 g2, .int .u32 N2, .slice a2 n2 c2] 25)).heap[w.heap.size]? = some (.cells #[.int .u32 g1, .int .u32 N1, .slice a1 n1 c1] 25 (0, 0)) := (Below.heap_alloc _ _ _ (by simp)).trans (heap_alloc_new w _)
  have k2 : ((w.alloc (.cells #[.int .u32 g1, .int .u32 N1, .slice a1 n1 c1] 25)).alloc (.cells #[.int .u32 g2, .int .u32 N2, .slice a2 n2 c2] 25)).heap[w.heap.size + 1]? = some (.cells #[.int .u32 g2, .int .u32 N2, .slice a2 n2 c2] 25 (0, 0)) := by simpa using alloc_new (w.alloc (.cells #[.int .u32 g1, .int .u32 N1, .slice a1 n1 c1] 25)) #[.int .u32 g2, .int .u32 N2, .slice a2 n2 c2] 25
  generalize txtP g1 (N1 : Int) l1 = X at *
  generalize txtP g2 (N2 : Int) l2 = Y at *
  subst hXY
  generalize (shapeE (N1 : Int) l1).1 = e1 at *
  generalize (shapeE (N1 : Int) l1).2 = x1 at *
  generalize (shapeE (N2 : Int) l2).1 = e2 at *
  generalize (shapeE (N2 : Int) l2).2 = x2 at *
  have HB0 := hide hB0
  have HK1 := hide k1
  have HK2 := hide k2
  unfold modV at *
  clear hB0 k1 k2 hl1 hl2 hv1 hv2 hok1 hok2 hr1 hr2 hg1 hg2 hN1 hN2 ht h1 h2
  go_enter Tryz.func3, Tryz.ntmps3
  go_wp2_with fail
  generalize (w.alloc (.cells #[.int .u32 g1, .int .u32 N1, .slice a1 n1 c1] 25)).alloc (.cells #[.int .u32 g2, .int .u32 N2, .slice a2 n2 c2] 25) = W0 at *
  have l1' := (Array.getElem?_eq_some_iff.1 HK1.out).1
  have l2' := (Array.getElem?_eq_some_iff.1 HK2.out).1
  refine (hCp1 _ HB0.out).mono ?_
  rintro e w1 ⟨p1, rfl, _, hV1, hb1⟩
  have hC2 := hT1 w1 p1 n1 hV1 (HB0.out.trans (hb1.mono HB0.out.size))
  clear hV1 hT1 hCp1
  go_wp2_with fail
  refine hC2.mono ?_
  rintro e w2 ⟨rfl, hb2⟩
  have hb02 := hb1.trans (hb2.mono hb1.size)
  have hb3 : Below W0.heap.size W0 (w2.alloc (.cells #[.int .i64 e1, .int .i64 (x1 : Int)] 28)) := hb02.alloc hb02.size _
  obtain ⟨m3, _⟩ := one_block ((hb3.block _ l2').trans HK2.out)
  have q0 := m3 0
  have q1 := m3 1
  have q2 := m3 2
  have HKS := hide (alloc_new w2 #[.int .i64 e1, .int .i64 (x1 : Int)] 28)
  have HB3 := hide (HB0.out.trans (hb3.mono HB0.out.size))
  have HKA := hide ((hb3.block _ l1').trans HK1.out)
  have HKB := hide ((hb3.block _ l2').trans HK2.out)
  clear hC2 hb1 hb2 hb02 hb3 m3 HK1 HK2 l1' l2' HB0
  go_wp2_with fail
  generalize w2.alloc (.cells #[.int .i64 e1, .int .i64 (x1 : Int)] 28) = W3 at *
  refine (hCp2 _ HB3.out).mono ?_
  rintro e w4 ⟨p4, rfl, _, hV4, hb4⟩
  have hC5 := hT2 w4 p4 n2 hV4 (HB3.out.trans (hb4.mono HB3.out.size))
  clear hV4 hT2 hCp2 q0 q1 q2
  go_wp2_with fail
  refine hC5.mono ?_
  rintro e w5 ⟨rfl, hb5⟩
  have lS := (Array.getElem?_eq_some_iff.1 HKS.out).1
  have lA := (Array.getElem?_eq_some_iff.1 HKA.out).1
  have lB := (Array.getElem?_eq_some_iff.1 HKB.out).1
  have hb35 := hb4.trans (hb5.mono hb4.size)
  have hb6 : Below W3.heap.size W3 (w5.alloc (.cells #[.int .i64 e2, .int .i64 (x2 : Int)] 28)) := hb35.alloc hb35.size _
  obtain ⟨s1, _⟩ := one_block ((hb6.block _ lS).trans HKS.out)
  have r0 := s1 0
  obtain ⟨ma, _⟩ := one_block ((hb6.block _ lA).trans HKA.out)
  have a0 := ma 0
  have a1' := ma 1
  have a2' := ma 2
  obtain ⟨mb, _⟩ := one_block ((hb6.block _ lB).trans HKB.out)
  have b0 := mb 0
  have b1' := mb 1
  have b2' := mb 2
  obtain ⟨t0, _⟩ := one_block (alloc_new w5 #[.int .i64 e2, .int .i64 (x2 : Int)] 28)
  have u0 := t0 0
  have HB6 := hide (HB3.out.trans (hb6.mono HB3.out.size))
  have hA6 := hAw _ HB6.out
  clear hC5 hb4 hb5 hb35 hb6 s1 ma mb t0 HKS HKA HKB lS lA lB HB3
  have hM6 := hMr _ HB6.out
  have hz1 : e1 = 0 := HH1.out
  have hz2 : e2 = 0 := HH2.out
  clear hA6 HH1 HH2 hMr
  subst hz1
  subst hz2
  go_wp2_with fail
  refine hM6.mono ?_
  rintro e w7 ⟨rfl, hb7⟩
  have hB7 := HB6.out.trans (hb7.mono HB6.out.size)
  have hA7 := hAw _ hB7
  go_wp2_with fail
  refine hA7.mono ?_
  rintro e w8 ⟨rfl, hb8⟩
  go_wp2_with fail
  go_ret
  exact ⟨rfl, hB7.trans (hb8.mono hB7.size)⟩

set_option maxHeartbeats 8000000 in
theorem printUnlike_other (w : World) (g1 : Int) (N1 : Nat) (a1 : Option Addr) (n1 c1 : Nat) (l1 : List InstT) (hl1 : l1.length = n1) (hv1 : InstsV w a1 l1) (hok1 : InstsOk l1) (hr1 : 40 * n1 ≤ 140737488351232) (hg1 : 0 ≤ g1 ∧ g1 < 4294967296) (hN1 : (N1 : Int) < 4294967296)
    (g2 : Int) (N2 : Nat) (a2 : Option Addr) (n2 c2 : Nat) (l2 : List InstT) (hl2 : l2.length = n2) (hv2 : InstsV w a2 l2) (hok2 : InstsOk l2) (hr2 : 40 * n2 ≤ 140737488351232) (hg2 : 0 ≤ g2 ∧ g2 < 4294967296) (hN2 : (N2 : Int) < 4294967296) (ht : Pow10 w) (h1 : (shapeE (N1 : Int) l1).1 = 0) (h2 : (shapeE (N2 : Int) l2).1 = 0) (hXY : txtP g1 (N1 : Int) l1 ≠ txtP g2 (N2 : Int) l2) :
    Calls Tryz.prog 3 #[.agg #[.int .u32 g1, .int .u32 N1, .slice a1 n1 c1], .agg #[.int .u32 g2, .int .u32 N2, .slice a2 n2 c2]] w fun e w' => e = .returned (.bool true) ∧ Below w.heap.size w w' := by
  have hCp1 := fun wx (hb : Below w.heap.size w wx) => copyModule_any g1 (N1 : Int) a1 n1 c1 l1 wx (hv1.below hb) hok1 hl1 hr1
  have hCp2 := fun wx (hb : Below w.heap.size w wx) => copyModule_any g2 (N2 : Int) a2 n2 c2 l2 wx (hv2.below hb) hok2 hl2 hr2
  have hT1 := fun wx p c (h : InstsV wx (some ⟨p, 0, none⟩) l1) (hb : Below w.heap.size w wx) => printTextM_any g1 N1 (some ⟨p, 0, none⟩) n1 c l1 wx h hok1 hl1 hr1 hg1.1 hg1.2 hN1 (ht.below hb)
  have hT2 := fun wx p c (h : InstsV wx (some ⟨p, 0, none⟩) l2) (hb : Below w.heap.size w wx) => printTextM_any g2 N2 (some ⟨p, 0, none⟩) n2 c l2 wx h hok2 hl2 hr2 hg2.1 hg2.2 hN2 (ht.below hb)
  have hAw := fun wx (hb : Below w.heap.size w wx) => awake8_true wx (ht.below hb)
  have hMo := fun wx (hb : Below w.heap.size w wx) (r : Bool) (hr : r = true ↔ (g1 = g2 ∧ (N1 : Int) = (N2 : Int) ∧ l1 = l2)) => kitModule_any g1 (N1 : Int) g2 (N2 : Int) l1 l2 a1 a2 n1 n2 c1 c2 wx (hv1.below hb) (hv2.below hb) hl1 hl2 hok1 hok2 (by omega) (by omega) r hr
  have hR : txtP g1 (N1 : Int) l1 = txtP g2 (N2 : Int) l2 ↔ (g1 = g2 ∧ (N1 : Int) = (N2 : Int) ∧ l1 = l2) := by
    constructor
    · intro h
      unfold txtP at h
      rw [if_pos h1, if_pos h2] at h
      exact print_unlike hg1.1 hg1.2 hg2.1 hg2.2 hok1 hok2 h1 h2 (textP_size hg1.2 hok1 h1) h
    · rintro ⟨rfl, e, rfl⟩
      rw [e]
  have hMr := fun wx hb => hMo wx hb false (by constructor; (intro h; cases h); (intro h; exact absurd (hR.2 h) hXY))
  clear hMo hR
  have HH1 := hide h1
  have HH2 := hide h2
  have hB0 := below_two8 w (.cells #[.int .u32 g1, .int .u32 N1, .slice a1 n1 c1] 25) (.cells #[.int .u32 g2, .int .u32 N2, .slice a2 n2 c2] 25)
  have k1 : ((w.alloc (.cells #[.int .u32 g1, .int .u32 N1, .slice a1 n1 c1] 25)).alloc (.cells #[.int .u32 g2, .int .u32 N2, .slice a2 n2 c2] 25)).heap[w.heap.size]? = some (.cells #[.int .u32 g1, .int .u32 N1, .slice a1 n1 c1] 25 (0, 0)) := (Below.heap_alloc _ _ _ (by simp)).trans (heap_alloc_new w _)
  have k2 : ((w.alloc (.cells #[.int .u32 g1, .int .u32 N1, .slice a1 n1 c1] 25)).alloc (.cells #[.int .u32 g2, .int .u32 N2, .slice a2 n2 c2] 25)).heap[w.heap.size + 1]? = some (.cells #[.int .u32 g2, .int .u32 N2, .slice a2 n2 c2] 25 (0, 0)) := by simpa using alloc_new (w.alloc (.cells #[.int .u32 g1, .int .u32 N1, .slice a1 n1 c1] 25)) #[.int .u32 g2, .int .u32 N2, .slice a2 n2 c2] 25
  generalize txtP g1 (N1 : Int) l1 = X at *
  generalize txtP g2 (N2 : Int) l2 = Y at *
  generalize (shapeE (N1 : Int) l1).1 = e1 at *
  generalize (shapeE (N1 : Int) l1).2 = x1 at *
  generalize (shapeE (N2 : Int) l2).1 = e2 at *
  generalize (shapeE (N2 : Int) l2).2 = x2 at *
  have HB0 := hide hB0
  have HK1 := hide k1
  have HK2 := hide k2
  unfold modV at *
  clear hB0 k1 k2 hl1 hl2 hv1 hv2 hok1 hok2 hr1 hr2 hg1 hg2 hN1 hN2 ht h1 h2
  go_enter Tryz.func3, Tryz.ntmps3
  go_wp2_with fail
  generalize (w.alloc (.cells #[.int .u32 g1, .int .u32 N1, .slice a1 n1 c1] 25)).alloc (.cells #[.int .u32 g2, .int .u32 N2, .slice a2 n2 c2] 25) = W0 at *
  have l1' := (Array.getElem?_eq_some_iff.1 HK1.out).1
  have l2' := (Array.getElem?_eq_some_iff.1 HK2.out).1
  refine (hCp1 _ HB0.out).mono ?_
  rintro e w1 ⟨p1, rfl, _, hV1, hb1⟩
  have hC2 := hT1 w1 p1 n1 hV1 (HB0.out.trans (hb1.mono HB0.out.size))
  clear hV1 hT1 hCp1
  go_wp2_with fail
  refine hC2.mono ?_
  rintro e w2 ⟨rfl, hb2⟩
  have hb02 := hb1.trans (hb2.mono hb1.size)
  have hb3 : Below W0.heap.size W0 (w2.alloc (.cells #[.int .i64 e1, .int .i64 (x1 : Int)] 28)) := hb02.alloc hb02.size _
  obtain ⟨m3, _⟩ := one_block ((hb3.block _ l2').trans HK2.out)
  have q0 := m3 0
  have q1 := m3 1
  have q2 := m3 2
  have HKS := hide (alloc_new w2 #[.int .i64 e1, .int .i64 (x1 : Int)] 28)
  have HB3 := hide (HB0.out.trans (hb3.mono HB0.out.size))
  have HKA := hide ((hb3.block _ l1').trans HK1.out)
  have HKB := hide ((hb3.block _ l2').trans HK2.out)
  clear hC2 hb1 hb2 hb02 hb3 m3 HK1 HK2 l1' l2' HB0
  go_wp2_with fail
  generalize w2.alloc (.cells #[.int .i64 e1, .int .i64 (x1 : Int)] 28) = W3 at *
  refine (hCp2 _ HB3.out).mono ?_
  rintro e w4 ⟨p4, rfl, _, hV4, hb4⟩
  have hC5 := hT2 w4 p4 n2 hV4 (HB3.out.trans (hb4.mono HB3.out.size))
  clear hV4 hT2 hCp2 q0 q1 q2
  go_wp2_with fail
  refine hC5.mono ?_
  rintro e w5 ⟨rfl, hb5⟩
  have lS := (Array.getElem?_eq_some_iff.1 HKS.out).1
  have lA := (Array.getElem?_eq_some_iff.1 HKA.out).1
  have lB := (Array.getElem?_eq_some_iff.1 HKB.out).1
  have hb35 := hb4.trans (hb5.mono hb4.size)
  have hb6 : Below W3.heap.size W3 (w5.alloc (.cells #[.int .i64 e2, .int .i64 (x2 : Int)] 28)) := hb35.alloc hb35.size _
  obtain ⟨s1, _⟩ := one_block ((hb6.block _ lS).trans HKS.out)
  have r0 := s1 0
  obtain ⟨ma, _⟩ := one_block ((hb6.block _ lA).trans HKA.out)
  have a0 := ma 0
  have a1' := ma 1
  have a2' := ma 2
  obtain ⟨mb, _⟩ := one_block ((hb6.block _ lB).trans HKB.out)
  have b0 := mb 0
  have b1' := mb 1
  have b2' := mb 2
  obtain ⟨t0, _⟩ := one_block (alloc_new w5 #[.int .i64 e2, .int .i64 (x2 : Int)] 28)
  have u0 := t0 0
  have HB6 := hide (HB3.out.trans (hb6.mono HB3.out.size))
  have hA6 := hAw _ HB6.out
  clear hC5 hb4 hb5 hb35 hb6 s1 ma mb t0 HKS HKA HKB lS lA lB HB3
  have hM6 := hMr _ HB6.out
  have hz1 : e1 = 0 := HH1.out
  have hz2 : e2 = 0 := HH2.out
  clear hA6 HH1 HH2 hMr
  subst hz1
  subst hz2
  have hEq := strI_ne hXY
  clear hXY
  go_wp2_with fail
  refine hM6.mono ?_
  rintro e w7 ⟨rfl, hb7⟩
  have hB7 := HB6.out.trans (hb7.mono HB6.out.size)
  have hA7 := hAw _ hB7
  go_wp2_with fail
  refine hA7.mono ?_
  rintro e w8 ⟨rfl, hb8⟩
  go_wp2_with fail
  go_ret
  exact ⟨rfl, hB7.trans (hb8.mono hB7.size)⟩

theorem printUnlike_any (w : World) (g1 b1 : Int) (a1 : Option Addr) (n1 c1 : Nat) (l1 : List InstT) (hl1 : l1.length = n1) (hv1 : InstsV w a1 l1) (hok1 : InstsOk l1) (hr1 : 40 * n1 ≤ 140737488351232) (hc1 : n1 ≤ c1) (hgb1 : 0 ≤ g1 ∧ g1 < 4294967296 ∧ 0 ≤ b1 ∧ b1 < 4294967296)
    (g2 b2 : Int) (a2 : Option Addr) (n2 c2 : Nat) (l2 : List InstT) (hl2 : l2.length = n2) (hv2 : InstsV w a2 l2) (hok2 : InstsOk l2) (hr2 : 40 * n2 ≤ 140737488351232) (hc2 : n2 ≤ c2) (hgb2 : 0 ≤ g2 ∧ g2 < 4294967296 ∧ 0 ≤ b2 ∧ b2 < 4294967296) (ht : Pow10 w) :
    Calls Tryz.prog 3 #[modV g1 b1 a1 n1 c1, modV g2 b2 a2 n2 c2] w fun e w' => e = .returned (.bool true) ∧ Below w.heap.size w w' := by
  obtain ⟨N1, rfl⟩ := Int.eq_ofNat_of_zero_le hgb1.2.2.1
  obtain ⟨N2, rfl⟩ := Int.eq_ofNat_of_zero_le hgb2.2.2.1
  have p1 : 0 ≤ g1 ∧ g1 < 4294967296 := ⟨hgb1.1, hgb1.2.1⟩
  have p2 : 0 ≤ g2 ∧ g2 < 4294967296 := ⟨hgb2.1, hgb2.2.1⟩
  by_cases h1 : (shapeE (N1 : Int) l1).1 = 0
  · by_cases h2 : (shapeE (N2 : Int) l2).1 = 0
    · by_cases hXY : txtP g1 (N1 : Int) l1 = txtP g2 (N2 : Int) l2
      · exact printUnlike_same w g1 N1 a1 n1 c1 l1 hl1 hv1 hok1 hr1 p1 hgb1.2.2.2 g2 N2 a2 n2 c2 l2 hl2 hv2 hok2 hr2 p2 hgb2.2.2.2 ht h1 h2 hXY
      · exact printUnlike_other w g1 N1 a1 n1 c1 l1 hl1 hv1 hok1 hr1 p1 hgb1.2.2.2 g2 N2 a2 n2 c2 l2 hl2 hv2 hok2 hr2 p2 hgb2.2.2.2 ht h1 h2 hXY
    · exact printUnlike_half w g1 N1 a1 n1 c1 l1 hl1 hv1 hok1 hr1 p1 hgb1.2.2.2 g2 N2 a2 n2 c2 l2 hl2 hv2 hok2 hr2 p2 hgb2.2.2.2 ht h1 h2
  · exact printUnlike_bad w g1 N1 a1 n1 c1 l1 hl1 hv1 hok1 hr1 p1 hgb1.2.2.2 g2 N2 a2 n2 c2 l2 hl2 hv2 hok2 hr2 p2 hgb2.2.2.2 ht h1

end Go.Proofs.YtkfflhonpnogdabGreatDoor

/-
  The law PrintUnlike holds where the three listed tables hold what the program lays in them: called with any arguments it returns true, and each argument reads behind the call as it read before.
-/
namespace Go.Proofs.YtkfflhonpnogdabGreatDoor.printUnlike
open Go.ChangeShapes Go.WideShapes Go.ChangeAt Go.RowKit
open Go.ChangeMaps (open_string shut_string)
set_option linter.unusedVariables false

theorem own : ownKnob Tryz.prog.godebug = none := by kernel_rfl
theorem laidOut : laidOutB Tryz.prog = true := by kernel_rfl

theorem gPow : Tryz.prog.globalNamed "internal/strconv.uint64pow10" = some 1 := by kernel_rfl
theorem tPow : (Tryz.prog.globals[1]?).map (·.type) = some 261 := by kernel_rfl
theorem cPow : Tryz.prog.cellsOf 261 = 20 := by kernel_rfl
theorem cElem : Tryz.prog.cellsOf 136 = 1 := by kernel_rfl
abbrev laid3 : List (String × DataW Unit) := [("math/bits.deBruijn32tab", Rows.laid_math_bits_deBruijn32tab), ("math/bits.deBruijn64tab", Rows.laid_math_bits_deBruijn64tab), ("internal/strconv.uint64pow10", Rows.laid_internal_strconv_uint64pow10)]
/-- The heap that the start-up leaves meets the condition. -/
theorem door_met (os : Os) (args : Array Value) : laidMetH Tryz.prog laid3 ((World.doorLaid Tryz.prog 400 os).forCall (fun _ _ => 0) ⟨#[], args, []⟩).memory :=
  laidMetH_of_parts3 (fuel := 8) (laidMet_of_run' 8 (by kernel_rfl) (by kernel_rfl)) (by kernel_rfl) (by kernel_rfl)
/-- What the condition gives: the table of powers of ten. -/
theorem of_laid {W : World} (h : laidMetH Tryz.prog laid3 W) : Pow10 W := by
  rw [MakeChecks.laidMetH_plain _ _ _ (by kernel_rfl)] at h
  have h3 := (laidMet.tail (laidMet.tail h))
  exact Lib.tabIs_of_head (k := .u64) (zs := Lib.pow10Tab) gPow tPow Tryz.underlying261 Tryz.underlying136 cElem cPow h3

set_option maxRecDepth 100000 in
theorem lifted (os : Os) (started : os.Started) (H : Type) (enc : TypeId × Value → H) :
    ReturnsInHanded {} Tryz.checked os 3 .any (fun w args => (Rows.printUnlikeSpec.pre enc Tryz.prog Tryz.f3 [] false w args ∧ laidMetH Tryz.prog laid3 w) ∧ sizedMet enc Tryz.prog Tryz.f3 (OpenSpec.ofChange Rows.printUnlikeSpec) false w args) (Rows.printUnlikeSpec.post enc Tryz.prog Tryz.f3 false true false false) := by
  refine returnsInHanded_of_change_and (C := Tryz.checked) (X := fun w _ => laidMetH Tryz.prog laid3 w) (fun _ _ _ hh h => h.of_heap hh) own started (by kernel_rfl) Tryz.func3
    (ChangeSpec.witness_shaped (enc := enc) (C := Tryz.checked) (os := os) (X := fun w _ => laidMetH Tryz.prog laid3 w) false (World.doorLaid Tryz.prog 400 os) #[.agg #[.int .u32 0, .int .u32 0, .slice none 0 0], .agg #[.int .u32 0, .int .u32 0, .slice none 0 0]] 8 rfl (World.shaped_of_RefB (by kernel_rfl) (by kernel_rfl)) (by kernel_rfl) (by kernel_rfl) (by kernel_rfl) (door_met os _)) ?_
  intro W base args ds gs before hval0 hW _ hsz0 hL _
  have hsz : (DataW.weightsEach Tryz.prog (Tryz.f3.params.toList ++ Rows.printUnlikeSpec.plain.varTypes Tryz.prog) (ds ++ gs)).all (· ≤ reachBytes) = true := hsz0
  clear hsz0
  have hval : ∀ (j : Nat) t v, Tryz.f3.params[j]? = some t → args[j]? = some v → Value.okWide Tryz.prog W .any base t v := hval0
  have hW' := hW
  obtain ⟨p, q, hA0, hV, rfl, hfz, hnd⟩ := hW
  have hA : DataW.TrodAll enc Tryz.prog W 0 (fun _ => true) true Tryz.f3.params.toList args.toList ds p := hA0
  rw [Tryz.params3] at hA hval hsz
  obtain ⟨v0, vs0, d0, ds0, p0, q0, hargs, rfl, rfl, h0, r0⟩ := trodAll_cons hA
  obtain ⟨v1, vs1, d1, ds1, p1, q1, rfl, rfl, rfl, h1, r1⟩ := trodAll_cons r0
  obtain ⟨rfl, rfl, rfl⟩ := trodAll_nil r1
  obtain rfl : args = #[v0, v1] := by cases args; simp_all
  obtain ⟨rfl, rfl⟩ := trodVars_none hV
  have k0 := h0
  have lt0 : ∀ x ∈ p0, x.block < W.heap.size := by obtain ⟨m, hm⟩ := k0; exact DataW.trod_lt m _ _ _ hm
  obtain ⟨g0, b0, a0, len0, cap0, l0, rfl, bg0, bh0, bi0, bj0, hl0, hv0, hk0, hr0, hc0⟩ := open_module (hval 0 25 v0 rfl rfl) h0 (fun n hn => by simpa using List.all_eq_true.1 hsz n (DataW.weights_mem_each (j := 0) rfl rfl n hn))
  have k1 := h1
  have lt1 : ∀ x ∈ p1, x.block < W.heap.size := by obtain ⟨m, hm⟩ := k1; exact DataW.trod_lt m _ _ _ hm
  obtain ⟨g1, b1, a1, len1, cap1, l1, rfl, bg1, bh1, bi1, bj1, hl1, hv1, hk1, hr1, hc1⟩ := open_module (hval 1 25 v1 rfl rfl) h1 (fun n hn => by simpa using List.all_eq_true.1 hsz n (DataW.weights_mem_each (j := 1) rfl rfl n hn))
  clear hA0 hval0
  refine (printUnlike_any W g0 b0 a0 len0 cap0 l0 hl0 hv0 hk0 hr0 hc0 ⟨bg0, bh0, bi0, bj0⟩ g1 b1 a1 len1 cap1 l1 hl1 hv1 hk1 hr1 hc1 ⟨bg1, bh1, bi1, bj1⟩ (of_laid hL)).mono fun e W' ⟨he, bel⟩ => ?_
  subst he
  exact ⟨_, rfl, _, _, _, [], _, [], hW', trodAll_mk1 (shut_bool Tryz.underlying4 _), (trodAll_cons_mk (Below.trod laidOut (by kernel_rfl) (of_decide_eq_true (by kernel_rfl)) k0 bel lt0) (trodAll_cons_mk (Below.trod laidOut (by kernel_rfl) (of_decide_eq_true (by kernel_rfl)) k1 bel lt1) trodAll_mk0)), rfl, bel.frame _, fun h => by cases h⟩

theorem over : Rows.printUnlikeRow.holds Tryz.pinned (OpenSpec.ofChange Rows.printUnlikeSpec) :=
  OpenClaim.holds_of_wide 3 Tryz.f3 rfl rfl rfl rfl rfl rfl rfl ⟨rfl, rfl, rfl, rfl, rfl⟩ rfl rfl rfl rfl rfl (by kernel_rfl) Tryz.func3 (by kernel_rfl)
    (of_decide_eq_true (by kernel_rfl)) (by unfold Func.isWrapper; first | (rw [if_pos (by decide +kernel)]; kernel_rfl) | (rw [if_neg (by decide +kernel)]; exact ⟨rfl, rfl⟩))
    (fun os started H enc _ => lifted os started H enc)

end Go.Proofs.YtkfflhonpnogdabGreatDoor.printUnlike

namespace Go.Proofs.YtkfflhonpnogdabGreatDoor
theorem printUnlike_holds : Rows.PrintUnlikeSaid := printUnlike.over
#print axioms printUnlike_holds
end Go.Proofs.YtkfflhonpnogdabGreatDoor
