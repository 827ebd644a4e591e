/-
  Texts laid together in one: AsmParseL, Law08Keep, ArgInsts, LawPrintRead, PrintReadProof.
-/
import Derived.WalkSpells
import Derived.WalkMore
import Derived.BigRegion
import Derived.Test.YtddkapkkjhomkaaGreatDoorProg
import Derived.Test.YtddkapkkjhomkaaGreatDoorB23
import Derived.Test.YtddkapkkjhomkaaGreatDoorB25
import Derived.Test.YtddkapkkjhomkaaGreatDoorB01
import Derived.Test.YtddkapkkjhomkaaGreatDoorB02
import Derived.Test.YtddkapkkjhomkaaGreatDoorB24
import Derived.Test.YtddkapkkjhomkaaGreatDoorB14
import Derived.ProofKit
import Derived.OpenShut
import Derived.SizedLaws
import Derived.Deep.Slices
import Derived.Deep.SlicePairs
import Derived.Lib.SmallJoins
import Derived.Deep.RegionHeld2
import Derived.Test.YtddkapkkjhomkaaGreatDoorRows
import Derived.LaidMore
import Derived.Stop.Joined
import Derived.Stop.LaidErr
import Derived.Lib.LaidTab
import Derived.ShutString
import Derived.ChangeOld
import Derived.Below
/-
  What Parse of the layer asm returns, for every text.
-/
namespace Go.Proofs.YtddkapkkjhomkaaGreatDoor
open Go.RowKit
set_option linter.unusedVariables false
set_option linter.unusedSimpArgs false
set_option maxRecDepth 10000

set_option maxHeartbeats 2000000 in
theorem asmParse_large (s : ByteArray) (w : World) (hs : 16777216 < s.size) :
    Calls Tryz.prog 23 #[.string s] w fun e w' => ParQ w w' (parseS s) e := by
  have hsi : decide ((16777216 : Int) < (s.size : Int)) = true := by simpa using (by omega : (16777216 : Int) < (s.size : Int))
  have HR : Hid (parseS s = ((0, 0, []), 4, 0)) := by show _ = _; unfold parseS; rw [if_pos hs]
  clear hs
  go_enter Tryz.func23, Tryz.ntmps23
  go_wp2_with fail
  refine bodyPost_ret (v := .tuple #[.agg #[.int .u32 0, .int .u32 0, .slice none 0 0], .agg #[.int .i64 4, .int .i64 0]]) ?_ rfl ?_
  · simp [results, Tryz.results23, go_sem]
  · unfold ParQ
    rw [HR.out]
    exact ⟨none, 0, 0, rfl, instsV_nil, rfl, fun j hj => by simp at hj, ((Below.refl _ w).alloc (Nat.le_refl _) _).alloc (by simp) _⟩

theorem asmParse_any (s : ByteArray) (w : World) : Calls Tryz.prog 23 #[.string s] w fun e w' => ParQ w w' (parseS s) e := by
  by_cases hs : s.size ≤ 16777216
  · exact asmParse_main s w hs
  · exact asmParse_large s w (by omega)

end Go.Proofs.YtddkapkkjhomkaaGreatDoor

/-
  What stands while a law of layer 8 goes on.
-/
namespace Go.Proofs.YtddkapkkjhomkaaGreatDoor
open Go.RowKit
set_option linter.unusedVariables false
set_option linter.unusedSimpArgs false
set_option maxRecDepth 10000

/-- The box of m, and what it holds. -/
structure PrB (w W : World) (g : Int) (N : Nat) (a : Option Addr) (n c : Nat) (l : List InstT) : Prop where
  mbox : W.heap[w.heap.size]? = some (.cells #[.int .u32 g, .int .u32 (N : Int), .slice a n c] 25 (0, 0))
  lv : InstsV W a l
  bel : Below w.heap.size w W
  pw : Pow10 W
theorem PrB.below {w W W' : World} {g : Int} {N : Nat} {a : Option Addr} {n c : Nat} {l : List InstT} (h : PrB w W g N a n c l) (hb : Below W.heap.size W W') : PrB w W' g N a n c l :=
  ⟨(hb.block _ (Array.getElem?_eq_some_iff.1 h.mbox).1).trans h.mbox, h.lv.below hb, h.bel.trans (hb.mono h.bel.size), h.pw.below hb⟩
theorem PrB.cells {w W : World} {g : Int} {N : Nat} {a : Option Addr} {n c : Nat} {l : List InstT} (h : PrB w W g N a n c l) : W.cell? ⟨w.heap.size, 0, none⟩ = some (.int .u32 g) ∧ W.cell? ⟨w.heap.size, 1, none⟩ = some (.int .u32 (N : Int)) ∧ W.cell? ⟨w.heap.size, 2, none⟩ = some (.slice a n c) :=
  ⟨(one_block h.mbox).1 0, (one_block h.mbox).1 1, (one_block h.mbox).1 2⟩
theorem PrB.start {w : World} {g : Int} {N : Nat} {a : Option Addr} {n : Nat} (c : Nat) {l : List InstT} (hv : InstsV w a l) (ht : Pow10 w) : PrB w (w.alloc (.cells #[.int .u32 g, .int .u32 (N : Int), .slice a n c] 25)) g N a n c l :=
  have hba : Below w.heap.size w (w.alloc (.cells #[.int .u32 g, .int .u32 (N : Int), .slice a n c] 25)) := (Below.refl _ w).alloc (Nat.le_refl _) _
  ⟨heap_alloc_new w _, hv.below hba, hba, ht.below hba⟩
theorem field_zeroP (x y : Value) (w : World) : (Instr.field 28 (.agg #[x, y]) 0).run Tryz.prog w = .ok x w := by
  kernel_rfl
theorem below_one8 (w : World) (o : Obj) : Below w.heap.size w (w.alloc o) := (Below.refl _ w).alloc (Nat.le_refl _) _
theorem blocks2P (w : World) (o0 o1 : Obj) : ((w.alloc o0).alloc o1).heap[w.heap.size]? = some o0 ∧ ((w.alloc o0).alloc o1).heap[w.heap.size + 1]? = some o1 ∧ Below w.heap.size w ((w.alloc o0).alloc o1) := by
  refine ⟨?_, ?_, ((Below.refl _ w).alloc (Nat.le_refl _) _).alloc (by simp) _⟩
  · rw [Below.heap_alloc _ _ _ (by simp)]; exact heap_alloc_new _ _
  · have := heap_alloc_new (w.alloc o0) o1; simpa using this
theorem Below.kept {W W' : World} (hb : Below W.heap.size W W') {p : Nat} {o : Obj} (h : W.heap[p]? = some o) : W'.heap[p]? = some o := (hb.block _ (Array.getElem?_eq_some_iff.1 h).1).trans h

theorem growP {W wx w' : World} (h : Below W.heap.size W wx) (hb : Below wx.heap.size wx w') : Below W.heap.size W w' := h.trans (hb.mono h.size)
theorem below_drewP (W : World) : Below W.heap.size W W.drew := (Below.refl _ W).drew
/-- The box of a module at any place, and what it holds. -/
structure MdB (W : World) (p : Nat) (g : Int) (N : Nat) (a : Option Addr) (n c : Nat) (l : List InstT) : Prop where
  mbox : W.heap[p]? = some (.cells #[.int .u32 g, .int .u32 (N : Int), .slice a n c] 25 (0, 0))
  lv : InstsV W a l
theorem MdB.below {W W' : World} {p : Nat} {g : Int} {N : Nat} {a : Option Addr} {n c : Nat} {l : List InstT} (h : MdB W p g N a n c l) (hb : Below W.heap.size W W') : MdB W' p g N a n c l := ⟨Below.kept hb h.mbox, h.lv.below hb⟩
theorem MdB.cells {W : World} {p : Nat} {g : Int} {N : Nat} {a : Option Addr} {n c : Nat} {l : List InstT} (h : MdB W p g N a n c l) : W.cell? ⟨p, 0, none⟩ = some (.int .u32 g) ∧ W.cell? ⟨p, 1, none⟩ = some (.int .u32 (N : Int)) ∧ W.cell? ⟨p, 2, none⟩ = some (.slice a n c) :=
  ⟨(one_block h.mbox).1 0, (one_block h.mbox).1 1, (one_block h.mbox).1 2⟩
/-- Where a law began, and the table of powers. -/
structure BgB (w W : World) : Prop where
  bel : Below w.heap.size w W
  pw : Pow10 W
theorem BgB.below {w W W' : World} (h : BgB w W) (hb : Below W.heap.size W W') : BgB w W' := ⟨h.bel.trans (hb.mono h.bel.size), h.pw.below hb⟩
/-- A module of good shape: its text, and what is read of it. -/
theorem facts8 {g : Int} {N n : Nat} {l : List InstT} (hl : l.length = n) (hok : InstsOk l) (hr : 40 * n ≤ 140737488351232) (hg : 0 ≤ g ∧ g < 4294967296) (hN : (N : Int) < 4294967296) (h : (shapeE (N : Int) l).1 = 0) :
    ∃ S : ByteArray, S = strOfNums (textP g (N : Int) l) ∧ S.size ≤ 16777216 ∧
      (∀ wx p c, InstsV wx (some ⟨p, 0, none⟩) l → Pow10 wx → Calls Tryz.prog 11 #[.agg #[.int .u32 g, .int .u32 N, .slice (some ⟨p, 0, none⟩) n c]] wx fun e w' => e = .returned (.tuple #[.string S, .agg #[.int .i64 0, .int .i64 0]]) ∧ Below wx.heap.size wx w') ∧
      (∀ wx, Calls Tryz.prog 23 #[.string S] wx fun e w' => ∃ a c, e = .returned (.tuple #[.agg #[.int .u32 g, .int .u32 N, .slice a n c], .agg #[.int .i64 0, .int .i64 0]]) ∧ InstsV w' a l ∧ Below wx.heap.size wx w') ∧
      (∀ wx p c, InstsV wx (some ⟨p, 0, none⟩) l → Calls Tryz.prog 22 #[.agg #[.int .u32 g, .int .u32 N, .slice (some ⟨p, 0, none⟩) n c]] wx fun e w' => e = .returned (.agg #[.int .i64 0, .int .i64 0]) ∧ Below wx.heap.size wx w') := by
  have hz := textP_size hg.2 hok h
  have hpp := print_parse hg.1 hg.2 hok h hz
  have h2 : (((shapeE (N : Int) l).2 : Nat) : Int) = 0 := by rw [shape_none h]; rfl
  refine ⟨_, rfl, hz, fun wx p c hx hp => ?_, fun wx => ?_, fun wx p c hx => ?_⟩
  · have := printTextM_any g N (some ⟨p, 0, none⟩) n c l wx hx hok hl hr hg.1 hg.2 hN hp
    rw [h, h2, show txtP g (N : Int) l = strOfNums (textP g (N : Int) l) from if_pos h] at this
    exact this
  · refine (asmParse_any (strOfNums (textP g (N : Int) l)) wx).mono ?_
    rw [hpp]
    rintro e w' ⟨a, m, c, rfl, hv, hm, _, hb⟩
    simp only at hm hv
    obtain rfl : m = n := by rw [← hm]; exact hl
    exact ⟨a, c, rfl, hv, hb⟩
  · have := codeShape_any g (N : Int) (some ⟨p, 0, none⟩) n c l wx hg.1 hg.2 (by omega) hN hx hok hl hr
    rw [h, h2] at this
    exact this

end Go.Proofs.YtddkapkkjhomkaaGreatDoor

/-
  What an argument that is an instruction, or a slice of instructions, holds: all within their bounds, each list within the reach of memory.
-/
namespace Go.Proofs.YtddkapkkjhomkaaGreatDoor
open Go.ChangeShapes Go.WideShapes Go.ChangeAt Go.RowKit
set_option maxRecDepth 100000

theorem ArgInsts.cellsA : Tryz.prog.cellsOf 67 = 3 := by kernel_rfl
theorem ArgInsts.cells8 : Tryz.prog.cellsOf 5 = 1 := by kernel_rfl
theorem ArgInsts.cells32 : Tryz.prog.cellsOf 22 = 1 := by kernel_rfl
theorem ArgInsts.cellsS : Tryz.prog.cellsOf 9 = 1 := by kernel_rfl
theorem ArgInsts.bytesA : Tryz.prog.bytesOf 67 = 24 := by kernel_rfl
theorem ArgInsts.cells16 : Tryz.prog.cellsOf 35 = 1 := by kernel_rfl
theorem ArgInsts.cellsL : Tryz.prog.cellsOf 36 = 1 := by kernel_rfl

theorem ArgInsts.cellsI : Tryz.prog.cellsOf 38 = 4 := by kernel_rfl
theorem ArgInsts.bytesI : Tryz.prog.bytesOf 38 = 40 := by kernel_rfl

theorem weightsIn {H : Type} {P : Program} {e : TypeId} : ∀ {l : List (DataW H)} {d : DataW H}, d ∈ l → ∀ n ∈ d.weights P e, n ∈ DataW.weightsAll P e l
  | d0 :: l, d, hd, n, hn => by
    simp only [DataW.weightsAll, List.mem_append]
    rcases List.mem_cons.1 hd with rfl | h
    · exact Or.inl hn
    · exact Or.inr (weightsIn h n hn)

theorem argsV_mk {w : World} {x : Addr} {n : Nat} {f : Nat → ArgT} (h : ∀ i, i < n → w.cell? (x.add (i * 3)) = some (.int .u8 (f i).1) ∧ w.cell? (x.add (i * 3 + 1)) = some (.int .u32 (f i).2.1) ∧ w.cell? (x.add (i * 3 + 2)) = some (.string (f i).2.2)) : ArgsV w (some x) ((List.range n).map f) := by
  intro j hj
  rw [List.length_map, List.length_range] at hj
  have h0 := (h 0 (by omega)).1
  obtain ⟨b, off, spot⟩ := x
  have hs : spot = none := by simpa [Addr.add] using World.cell?_spot h0
  subst hs
  obtain ⟨h1, h2, h3⟩ := h j hj
  rw [Addr.add_lit] at h1 h2 h3
  have e : nthA ((List.range n).map f) j = f j := by simp [nthA, List.getD, hj]
  rw [e]
  exact ⟨b, off, rfl, World.block_lt_of_cell? _ _ h1, h1, by rw [Nat.add_assoc]; exact h2, by rw [Nat.add_assoc]; exact h3⟩

set_option maxHeartbeats 1000000 in
theorem open_args {H : Type} {enc : TypeId × Value → H} {w : World} {base fuel : Nat} {held : Bool} {a : Option Addr} {len cap : Nat} {d : DataW H} {ps : List MemPlace}
    (hf : DataW.trod enc Tryz.prog w base (fun _ => true) held fuel 36 [.slice a len cap] = some (d, ps)) (hs : ∀ n ∈ d.weights Tryz.prog 36, n ≤ reachBytes) :
    ∃ l : List ArgT, l.length = len ∧ ArgsV w a l ∧ ArgsOk l ∧ 24 * len ≤ 140737488351232 ∧ len ≤ cap := by
  rcases Go.Deep.open_slice Tryz.underlying36 hf with ⟨hcs, _⟩ | ⟨x, l, c, mm, nn, D, Pl, hcs, _, hl, hm, hmm, hx, hall⟩
  · simp at hcs
    obtain ⟨rfl, rfl, rfl⟩ := hcs
    exact ⟨[], rfl, argsV_nil, argsOk_nil, by omega, by omega⟩
  · simp at hcs
    obtain ⟨rfl, rfl, rfl⟩ := hcs
    simp only [Prod.mk.injEq] at hx
    obtain ⟨rfl, rfl⟩ := hx
    simp only [if_true] at hmm
    subst hmm
    have hs0 := hs ((((List.range len).map D).length + ((List.range (mm - len)).map fun j => D (len + j)).length) * Tryz.prog.bytesOf 67) (by simp [DataW.weights, Tryz.underlying36])
    rw [ArgInsts.bytesA] at hs0
    simp only [List.length_map, List.length_range, reachBytes] at hs0
    have key : ∀ i, i < len → ∃ r : ArgT, w.cell? (x.add (i * 3)) = some (.int .u8 r.1) ∧ w.cell? (x.add (i * 3 + 1)) = some (.int .u32 r.2.1) ∧ w.cell? (x.add (i * 3 + 2)) = some (.string r.2.2) ∧ ArgOk r := by
      intro i hi
      obtain ⟨cs, hc, ht⟩ := hall i (by omega)
      rw [ArgInsts.cellsA] at hc
      obtain ⟨_, hlen, hcell⟩ := World.cells?_some hc
      obtain ⟨xs, k, _, hxy, _, hxl, hfl⟩ := DataW.trod_struct Tryz.underlying67 ht
      have g0 := hfl 0 _ rfl
      have g1 := hfl 1 _ rfl
      have g2 := hfl 2 _ rfl
      match xs, hxl, cs, hlen with
      | [y0, y1, y2], _, [v0, v1, v2], _ =>
        have e0 := hcell 0 (by omega)
        have e1 := hcell 1 (by omega)
        have e2 := hcell 2 (by omega)
        rw [Go.Deep.add_add] at e0 e1 e2
        simp [ArgInsts.cells8, ArgInsts.cells32, ArgInsts.cellsS] at g0 g1 g2 e0 e1 e2
        obtain ⟨n0, q0, _, w0⟩ := DataW.trod_int Tryz.underlying5 g0
        obtain ⟨n1, q1, _, w1⟩ := DataW.trod_int Tryz.underlying22 g1
        obtain ⟨s2, q2, q3⟩ := DataW.trod_string Tryz.underlying9 g2
        simp at q0 q1 q2
        subst q0; subst q1; subst q2
        have b0 := bounds_u8 w0
        have b1 := bounds_u32 w1
        refine ⟨(n0, n1, s2), by simpa using e0, e1, e2, ?_⟩
        have hs2 := hs s2.size (by
          have hmem : D i ∈ (List.range len).map D := List.mem_map.2 ⟨i, List.mem_range.2 hi, rfl⟩
          simp only [DataW.weights, Tryz.underlying36, List.mem_cons, List.mem_append]
          refine Or.inr (Or.inl (weightsIn hmem _ ?_))
          simp only [Prod.mk.injEq] at hxy
          rw [hxy.1]
          simp only [DataW.weights, Tryz.underlying67]
          refine DataW.weights_mem_each (j := 2) rfl rfl _ ?_
          simp_all [DataW.weights])
        simp only [reachBytes] at hs2
        exact ⟨by simp; omega, by simp; omega, by simp; omega, by simp; omega, hs2⟩
    let f : Nat → ArgT := fun i => if h : i < len then Classical.choose (key i h) else noArg
    have hf' : ∀ i (h : i < len), f i = Classical.choose (key i h) := fun i h => dif_pos h
    refine ⟨(List.range len).map f, by simp, argsV_mk (fun i hi => ?_), fun j hj => ?_, by omega, hl⟩
    · rw [hf' i hi]
      obtain ⟨h1, h2, h3, _⟩ := Classical.choose_spec (key i hi)
      exact ⟨h1, h2, h3⟩
    · rw [List.length_map, List.length_range] at hj
      have e : nthA ((List.range len).map f) j = f j := by simp [nthA, List.getD, hj]
      rw [e, hf' j hj]
      exact (Classical.choose_spec (key j hj)).2.2.2

theorem instsV_mk {w : World} {x : Addr} {n : Nat} {f : Nat → InstT} (h : ∀ i, i < n → w.cell? (x.add (i * 4)) = some (.int .u16 (f i).1) ∧ w.cell? (x.add (i * 4 + 1)) = some (.int .u32 (f i).2.1) ∧ w.cell? (x.add (i * 4 + 2)) = some (.int .u32 (f i).2.2.1) ∧
    ∃ aj cj, w.cell? (x.add (i * 4 + 3)) = some (.slice aj (f i).2.2.2.length cj) ∧ ArgsV w aj (f i).2.2.2 ∧ (f i).2.2.2.length ≤ cj) : InstsV w (some x) ((List.range n).map f) := by
  intro j hj
  rw [List.length_map, List.length_range] at hj
  have h0 := (h 0 (by omega)).1
  obtain ⟨b, off, spot⟩ := x
  have hs : spot = none := by simpa [Addr.add] using World.cell?_spot h0
  subst hs
  obtain ⟨h1, h2, h3, aj, cj, h4, h5, h6⟩ := h j hj
  rw [Addr.add_lit] at h1 h2 h3 h4
  have e : nthI ((List.range n).map f) j = f j := by simp [nthI, List.getD, hj]
  rw [e]
  exact ⟨b, off, aj, cj, _, rfl, World.block_lt_of_cell? _ _ h1, h1, by rw [Nat.add_assoc]; exact h2, by rw [Nat.add_assoc]; exact h3, by rw [Nat.add_assoc]; exact h4, rfl, h5, h6⟩

set_option maxHeartbeats 1000000 in
theorem open_insts {H : Type} {enc : TypeId × Value → H} {w : World} {base fuel : Nat} {held : Bool} {a : Option Addr} {len cap : Nat} {d : DataW H} {ps : List MemPlace}
    (hf : DataW.trod enc Tryz.prog w base (fun _ => true) held fuel 23 [.slice a len cap] = some (d, ps)) (hs : ∀ n ∈ d.weights Tryz.prog 23, n ≤ reachBytes) :
    ∃ l : List InstT, l.length = len ∧ InstsV w a l ∧ InstsOk l ∧ 40 * len ≤ 140737488351232 ∧ len ≤ cap := by
  rcases Go.Deep.open_slice Tryz.underlying23 hf with ⟨hcs, _⟩ | ⟨x, l, c, mm, nn, D, Pl, hcs, _, hl, hm, hmm, hx, hall⟩
  · simp at hcs
    obtain ⟨rfl, rfl, rfl⟩ := hcs
    exact ⟨[], rfl, instsV_nil, instsOk_nil, by omega, by omega⟩
  · simp at hcs
    obtain ⟨rfl, rfl, rfl⟩ := hcs
    simp only [Prod.mk.injEq] at hx
    obtain ⟨rfl, rfl⟩ := hx
    simp only [if_true] at hmm
    subst hmm
    have hs0 := hs ((((List.range len).map D).length + ((List.range (mm - len)).map fun j => D (len + j)).length) * Tryz.prog.bytesOf 38) (by simp [DataW.weights, Tryz.underlying23])
    rw [ArgInsts.bytesI] at hs0
    simp only [List.length_map, List.length_range, reachBytes] at hs0
    have key : ∀ i, i < len → ∃ r : InstT, w.cell? (x.add (i * 4)) = some (.int .u16 r.1) ∧ w.cell? (x.add (i * 4 + 1)) = some (.int .u32 r.2.1) ∧ w.cell? (x.add (i * 4 + 2)) = some (.int .u32 r.2.2.1) ∧
        (∃ aj cj, w.cell? (x.add (i * 4 + 3)) = some (.slice aj r.2.2.2.length cj) ∧ ArgsV w aj r.2.2.2 ∧ r.2.2.2.length ≤ cj) ∧ InstOk r := by
      intro i hi
      obtain ⟨cs, hc, ht⟩ := hall i (by omega)
      rw [ArgInsts.cellsI] at hc
      obtain ⟨_, hlen, hcell⟩ := World.cells?_some hc
      obtain ⟨xs, k, _, hxy, _, hxl, hfl⟩ := DataW.trod_struct Tryz.underlying38 ht
      have g0 := hfl 0 _ rfl
      have g1 := hfl 1 _ rfl
      have g2 := hfl 2 _ rfl
      have g3 := hfl 3 _ rfl
      match xs, hxl, cs, hlen with
      | [y0, y1, y2, y3], _, [v0, v1, v2, v3], _ =>
        have e0 := hcell 0 (by omega)
        have e1 := hcell 1 (by omega)
        have e2 := hcell 2 (by omega)
        have e3 := hcell 3 (by omega)
        rw [Go.Deep.add_add] at e0 e1 e2 e3
        simp [ArgInsts.cells16, ArgInsts.cells32, ArgInsts.cellsL] at g0 g1 g2 g3 e0 e1 e2 e3
        obtain ⟨n0, q0, _, w0⟩ := DataW.trod_int Tryz.underlying35 g0
        obtain ⟨n1, q1, _, w1⟩ := DataW.trod_int Tryz.underlying22 g1
        obtain ⟨n2, q2, _, w2⟩ := DataW.trod_int Tryz.underlying22 g2
        simp at q0 q1 q2
        subst q0; subst q1; subst q2
        have b0 := bounds_u16 w0
        have b1 := bounds_u32 w1
        have b2 := bounds_u32 w2
        obtain ⟨a, n, c, rfl⟩ : ∃ a n c, v3 = .slice a n c := by
          rcases Go.Deep.open_slice Tryz.underlying36 g3 with ⟨hcs, _⟩ | ⟨x, l, c, mm, nn, D, Pl, hcs, _⟩
          · simp at hcs; exact ⟨_, _, _, hcs⟩
          · simp at hcs; exact ⟨_, _, _, hcs⟩
        obtain ⟨l, hl, hv3, hok, hr, hc⟩ := open_args g3 (fun k hk => hs k (by
          have hmem : D i ∈ (List.range len).map D := List.mem_map.2 ⟨i, List.mem_range.2 hi, rfl⟩
          simp only [DataW.weights, Tryz.underlying23, List.mem_cons, List.mem_append]
          refine Or.inr (Or.inl (weightsIn hmem _ ?_))
          simp only [Prod.mk.injEq] at hxy
          rw [hxy.1]
          simp only [DataW.weights, Tryz.underlying38]
          exact DataW.weights_mem_each (j := 3) rfl rfl _ hk))
        subst hl
        exact ⟨(n0, n1, n2, l), by simpa using e0, e1, e2, ⟨a, c, e3, hv3, hc⟩, by simp; omega, by simp; omega, by simp; omega, by simp; omega, by simp; omega, by simp; omega, hok, hr⟩
    let f : Nat → InstT := fun i => if h : i < len then Classical.choose (key i h) else noInst
    have hf' : ∀ i (h : i < len), f i = Classical.choose (key i h) := fun i h => dif_pos h
    refine ⟨(List.range len).map f, by simp, instsV_mk (fun i hi => ?_), fun j hj => ?_, by omega, hl⟩
    · rw [hf' i hi]
      obtain ⟨h1, h2, h3, h4, _⟩ := Classical.choose_spec (key i hi)
      exact ⟨h1, h2, h3, h4⟩
    · rw [List.length_map, List.length_range] at hj
      have e : nthI ((List.range len).map f) j = f j := by simp [nthI, List.getD, hj]
      rw [e, hf' j hj]
      exact (Classical.choose_spec (key j hj)).2.2.2.2

theorem open_module {H : Type} {enc : TypeId × Value → H} {w : World} {b0 base : Nat} {held : Bool} {v : Value} {d : DataW H} {ps : List MemPlace}
    (hv : Value.okWide Tryz.prog w .any b0 25 v) (h : DataW.Trod enc Tryz.prog w base (fun _ => true) held 25 v d ps) (hs : ∀ n ∈ d.weights Tryz.prog 25, n ≤ reachBytes) :
    ∃ (gen bound : Int) (a : Option Addr) (n c : Nat) (l : List InstT), v = .agg #[.int .u32 gen, .int .u32 bound, .slice a n c] ∧ 0 ≤ gen ∧ gen < 4294967296 ∧ 0 ≤ bound ∧ bound < 4294967296 ∧ l.length = n ∧ InstsV w a l ∧ InstsOk l ∧ 40 * n ≤ 140737488351232 ∧ n ≤ c := by
  obtain ⟨v0, v1, v3, y0, y1, y3, m, rfl, rfl, _, t0, t1, t3⟩ := Go.Joins.open_agg3 Tryz.underlying25 (by kernel_rfl) (by kernel_rfl) hv h
  obtain ⟨n0, e0, _, w0⟩ := DataW.trod_int Tryz.underlying22 t0
  obtain ⟨n1, e1, _, w1⟩ := DataW.trod_int Tryz.underlying22 t1
  simp at e0 e1
  subst e0; subst e1
  have b0 := bounds_u32 w0
  have b1 := bounds_u32 w1
  obtain ⟨a, n, c, rfl⟩ : ∃ a n c, v3 = .slice a n c := by
    rcases Go.Deep.open_slice Tryz.underlying23 t3 with ⟨hcs, _⟩ | ⟨x, l, c, mm, nn, D, Pl, hcs, _⟩
    · simp at hcs; exact ⟨_, _, _, hcs⟩
    · simp at hcs; exact ⟨_, _, _, hcs⟩
  obtain ⟨l, hl, hv3, hok, hr, hc⟩ := open_insts t3 (fun k hk => hs k (by
    simp only [DataW.weights, Tryz.underlying25]
    exact DataW.weights_mem_each (j := 2) rfl rfl _ hk))
  exact ⟨n0, n1, a, n, c, l, rfl, by omega, by omega, by omega, by omega, hl, hv3, hok, hr, hc⟩

end Go.Proofs.YtddkapkkjhomkaaGreatDoor

/-
  The law PrintRead answers true, for every module, where the table of powers of ten is laid.
-/
namespace Go.Proofs.YtddkapkkjhomkaaGreatDoor
open Go.RowKit
set_option linter.unusedVariables false
set_option linter.unusedSimpArgs false
set_option maxRecDepth 10000

set_option maxHeartbeats 8000000 in
theorem printRead_ok (w : World) (g : Int) (N : Nat) (a : Option Addr) (n c : Nat) (l : List InstT) (hl : l.length = n) (hv : InstsV w a l) (hok : InstsOk l) (hr : 40 * n ≤ 140737488351232) (hg : 0 ≤ g ∧ g < 4294967296) (hN : (N : Int) < 4294967296) (ht : Pow10 w) (h : (shapeE (N : Int) l).1 = 0) :
    Calls Tryz.prog 6 #[.agg #[.int .u32 g, .int .u32 N, .slice a n c]] w fun e w' => e = .returned (.bool true) ∧ Below w.heap.size w w' := by
  have hz := textP_size hg.2 hok h
  have hpp := print_parse hg.1 hg.2 hok h hz
  have h2 : (((shapeE (N : Int) l).2 : Nat) : Int) = 0 := by rw [shape_none h]; rfl
  have HCP := hide fun wx (hx : InstsV wx a l) => copyModule_any g (N : Int) a n c l wx hx hok hl hr
  have hT := fun wx p c (hx : InstsV wx (some ⟨p, 0, none⟩) l) (hp : Pow10 wx) => printTextM_any g N (some ⟨p, 0, none⟩) n c l wx hx hok hl hr hg.1 hg.2 hN hp
  have hS := fun wx p c (hx : InstsV wx (some ⟨p, 0, none⟩) l) => codeShape_any g (N : Int) (some ⟨p, 0, none⟩) n c l wx hg.1 hg.2 (by omega) hN hx hok hl hr
  have hP := fun wx => asmParse_any (strOfNums (textP g (N : Int) l)) wx
  have ez : txtP g (N : Int) l = strOfNums (textP g (N : Int) l) := if_pos h
  rw [ez] at hT
  rw [hpp] at hP
  generalize strOfNums (textP g (N : Int) l) = S at *
  rw [h, h2] at hT hS
  have HKM := hide fun wx ax c' (h1 : InstsV wx ax l) (h2 : InstsV wx a l) => kitModule_any g (N : Int) g (N : Int) l l ax a n n c' c wx h1 h2 hl hl hok hok (by omega) (by omega) true (by simp)
  have HT := hide hT
  have HS := hide hS
  have HP := hide hP
  have hsz : decide ((S.size : Int) ≤ 16777216) = true := by simp; omega
  have HK0 := hide (PrB.start (g := g) (N := N) (n := n) c hv ht)
  have hfz := field_zeroP (.int .i64 0) (.int .i64 0)
  have HL := hide hl
  unfold modV at *
  clear hl hv hok hr hg hN ht h h2 hz hpp ez hT hS hP
  go_enter Tryz.func6, Tryz.ntmps6
  go_wp2_with fail
  generalize w.alloc (.cells #[.int .u32 g, .int .u32 (N : Int), .slice a n c] 25) = W0 at *
  refine (HCP.out W0 HK0.out.lv).mono ?_
  rintro e w1 ⟨p1, rfl, _, hv1, hb1⟩
  have hc1 := HT.out w1 p1 n hv1 (HK0.out.pw.below hb1)
  have HK1 := hide (HK0.out.below hb1)
  clear hb1 hv1 HK0 HT
  go_wp2_with fail
  refine hc1.mono ?_
  rintro e w2 ⟨rfl, hb2⟩
  have HK2 := hide ((HK1.out.below hb2).below (below_one8 w2 (.cells #[.int .i64 0, .int .i64 0] 28)))
  have HS2 := hide (alloc_new w2 #[.int .i64 0, .int .i64 0] 28)
  obtain ⟨m0, m1, m2⟩ := HK2.out.cells
  clear hc1 hb2 HK1
  go_wp2_with fail
  generalize w2.alloc (.cells #[.int .i64 0, .int .i64 0] 28) = W2 at *
  generalize w2.heap.size = q2 at *
  refine (HCP.out W2 HK2.out.lv).mono ?_
  rintro e w3 ⟨p3, rfl, _, hv3, hb3⟩
  have hc3 := HS.out w3 p3 n hv3
  have HK3 := hide (HK2.out.below hb3)
  have HS3 := hide (Below.kept hb3 HS2.out)
  clear hb3 hv3 HK2 HS2 HS m0 m1 m2
  go_wp2_with fail
  refine hc3.mono ?_
  rintro e w4 ⟨rfl, hb4⟩
  have HK4 := hide (HK3.out.below hb4)
  have HS4 := hide (Below.kept hb4 HS3.out)
  clear hb4 HK3 HS3 hc3
  go_wp2_with fail
  refine (HP.out _).mono ?_
  rintro e w5 ⟨a5, n5, c5, rfl, hv5, hn5, _, hb5⟩
  simp only at hn5 hv5
  obtain rfl : n5 = n := by rw [← hn5]; exact HL.out
  obtain ⟨kx, ku, hb6⟩ := blocks2P w5 (.cells #[.int .u32 g, .int .u32 (N : Int), .slice a5 n5 c5] 25) (.cells #[.int .i64 0, .int .i64 0] 28)
  have HK6 := hide ((HK4.out.below hb5).below hb6)
  have HS6 := hide (Below.kept hb6 (Below.kept hb5 HS4.out))
  have hKM := HKM.out _ a5 c5 (hv5.below hb6) HK6.out.lv
  obtain ⟨m0, m1, m2⟩ := HK6.out.cells
  obtain ⟨t0, t1, _⟩ := cell_of_two HS6.out
  clear HK4 HS4 hv5 hn5 hb5 hb6 kx ku HCP HKM HP HL
  go_wp2_with fail
  refine hKM.mono ?_
  rintro e w7 ⟨rfl, hb7⟩
  have HK7 := hide (HK6.out.below hb7)
  have hA := awake8_true w7 HK7.out.pw
  clear hKM HK6 HS6 m0 m1 m2 t0 t1 hb7
  go_wp2_with fail
  refine hA.mono ?_
  rintro e w8 ⟨rfl, hb8⟩
  go_wp2_with fail
  go_ret
  exact ⟨rfl, (HK7.out.below hb8).bel⟩

set_option maxHeartbeats 8000000 in
theorem printRead_bad (w : World) (g : Int) (N : Nat) (a : Option Addr) (n c : Nat) (l : List InstT) (hl : l.length = n) (hv : InstsV w a l) (hok : InstsOk l) (hr : 40 * n ≤ 140737488351232) (hg : 0 ≤ g ∧ g < 4294967296) (hN : (N : Int) < 4294967296) (ht : Pow10 w) (h : (shapeE (N : Int) l).1 ≠ 0) :
    Calls Tryz.prog 6 #[.agg #[.int .u32 g, .int .u32 N, .slice a n c]] w fun e w' => e = .returned (.bool true) ∧ Below w.heap.size w w' := by
  have HCP := hide fun wx (hx : InstsV wx a l) => copyModule_any g (N : Int) a n c l wx hx hok hl hr
  have hT := fun wx p c (hx : InstsV wx (some ⟨p, 0, none⟩) l) (hp : Pow10 wx) => printTextM_any g N (some ⟨p, 0, none⟩) n c l wx hx hok hl hr hg.1 hg.2 hN hp
  have hS := fun wx p c (hx : InstsV wx (some ⟨p, 0, none⟩) l) => codeShape_any g (N : Int) (some ⟨p, 0, none⟩) n c l wx hg.1 hg.2 (by omega) hN hx hok hl hr
  have ez : txtP g (N : Int) l = ⟨#[]⟩ := if_neg h
  rw [ez] at hT
  have heb : ((shapeE (N : Int) l).1 == 0) = false := by simpa using h
  generalize (shapeE (N : Int) l).1 = er at *
  generalize (shapeE (N : Int) l).2 = ea at *
  have HT := hide hT
  have HS := hide hS
  have HK0 := hide (PrB.start (g := g) (N := N) (n := n) c hv ht)
  have hfz := field_zeroP (.int .i64 er) (.int .i64 ea)
  unfold modV at *
  clear hl hv hok hr hg hN ht h ez hT hS
  go_enter Tryz.func6, Tryz.ntmps6
  go_wp2_with fail
  generalize w.alloc (.cells #[.int .u32 g, .int .u32 (N : Int), .slice a n c] 25) = W0 at *
  refine (HCP.out W0 HK0.out.lv).mono ?_
  rintro e w1 ⟨p1, rfl, _, hv1, hb1⟩
  have hc1 := HT.out w1 p1 n hv1 (HK0.out.pw.below hb1)
  have HK1 := hide (HK0.out.below hb1)
  clear hb1 hv1 HK0 HT
  go_wp2_with fail
  refine hc1.mono ?_
  rintro e w2 ⟨rfl, hb2⟩
  have HK2 := hide ((HK1.out.below hb2).below (below_one8 w2 (.cells #[.int .i64 er, .int .i64 (ea : Int)] 28)))
  have HS2 := hide (alloc_new w2 #[.int .i64 er, .int .i64 (ea : Int)] 28)
  obtain ⟨m0, m1, m2⟩ := HK2.out.cells
  clear hc1 hb2 HK1
  go_wp2_with fail
  generalize w2.alloc (.cells #[.int .i64 er, .int .i64 (ea : Int)] 28) = W2 at *
  generalize w2.heap.size = q2 at *
  refine (HCP.out W2 HK2.out.lv).mono ?_
  rintro e w3 ⟨p3, rfl, _, hv3, hb3⟩
  have hc3 := HS.out w3 p3 n hv3
  have HK3 := hide (HK2.out.below hb3)
  have HS3 := hide (Below.kept hb3 HS2.out)
  clear hb3 hv3 HK2 HS2 m0 m1 m2
  go_wp2_with fail
  refine hc3.mono ?_
  rintro e w4 ⟨rfl, hb4⟩
  have HK4 := hide (HK3.out.below hb4)
  have HS4 := hide (Below.kept hb4 HS3.out)
  obtain ⟨m0, m1, m2⟩ := HK4.out.cells
  obtain ⟨t0, t1, _⟩ := cell_of_two HS4.out
  clear hb4 HK3 HS3 hc3
  go_wp2_with fail
  clear m0 m1 m2 t0 t1
  have hK : ∀ wx, Below w4.heap.size w4 wx → (wx.cell? ⟨w.heap.size, 0, none⟩ = some (.int .u32 g) ∧ wx.cell? ⟨w.heap.size, 1, none⟩ = some (.int .u32 (N : Int)) ∧ wx.cell? ⟨w.heap.size, 2, none⟩ = some (.slice a n c)) ∧ wx.cell? ⟨q2, 0, none⟩ = some (.int .i64 er) ∧ wx.cell? ⟨q2, 1, none⟩ = some (.int .i64 (ea : Int)) := fun wx h => by
    obtain ⟨t0, t1, _⟩ := cell_of_two (Below.kept h HS4.out)
    exact ⟨(HK4.out.below h).cells, t0, t1⟩
  have mL := fun wx (h : Below w4.heap.size w4 wx) => (HK4.out.below h).lv
  have hAw := fun wx (h : Below w4.heap.size w4 wx) => awake8_true wx (HK4.out.below h).pw
  have hfin := fun wx (h : Below w4.heap.size w4 wx) => (HK4.out.below h).bel
  have hd := below_drewP w4
  go_region_held2 (fun wx => Below w4.heap.size w4 wx ∧ (wx.cell? ⟨w.heap.size, 0, none⟩ = some (.int .u32 g) ∧ wx.cell? ⟨w.heap.size, 1, none⟩ = some (.int .u32 (N : Int)) ∧ wx.cell? ⟨w.heap.size, 2, none⟩ = some (.slice a n c)) ∧ wx.cell? ⟨q2, 0, none⟩ = some (.int .i64 er) ∧ wx.cell? ⟨q2, 1, none⟩ = some (.int .i64 (ea : Int)))
    (exact ⟨by assumption, hK _ (by assumption)⟩)
    (first
      | (go_at_call 10; with_reducible refine (HCP.out _ (mL _ (by assumption))).mono ?_; rintro e w' ⟨g', rfl, _, hv', hbx⟩; have hby := growP (by assumption) hbx; clear hbx)
      | (go_at_call 22; with_reducible refine (HS.out _ _ n (by assumption)).mono ?_; rintro e w' ⟨rfl, hbx⟩; have hby := growP (by assumption) hbx; clear hbx)
      | (go_at_call 13; with_reducible refine (hAw _ (by assumption)).mono ?_; rintro e w' ⟨rfl, hbx⟩; have hby := growP (by assumption) hbx; clear hbx))
  go_wp2
  go_ret
  exact ⟨rfl, hfin _ (by assumption)⟩

theorem printRead_true (w : World) (g b : Int) (a : Option Addr) (n c : Nat) (l : List InstT) (hl : l.length = n) (hv : InstsV w a l) (hok : InstsOk l) (hr : 40 * n ≤ 140737488351232) (hc : n ≤ c) (hgb : 0 ≤ g ∧ g < 4294967296 ∧ 0 ≤ b ∧ b < 4294967296) (ht : Pow10 w) :
    Calls Tryz.prog 6 #[.agg #[.int .u32 g, .int .u32 b, .slice a n c]] w fun e w' => e = .returned (.bool true) ∧ Below w.heap.size w w' := by
  obtain ⟨g0, g1, b0, b1⟩ := hgb
  obtain ⟨N, rfl⟩ : ∃ N : Nat, b = (N : Int) := ⟨b.toNat, by omega⟩
  by_cases h : (shapeE (N : Int) l).1 = 0
  · exact printRead_ok w g N a n c l hl hv hok hr ⟨g0, g1⟩ b1 ht h
  · exact printRead_bad w g N a n c l hl hv hok hr ⟨g0, g1⟩ b1 ht h

end Go.Proofs.YtddkapkkjhomkaaGreatDoor

/-
  The law PrintRead holds where the three listed tables hold what the program lays in them: called with any arguments it returns true, and each argument reads behind the call as it read before.
-/
namespace Go.Proofs.YtddkapkkjhomkaaGreatDoor.printRead
open Go.ChangeShapes Go.WideShapes Go.ChangeAt Go.RowKit
open Go.ChangeMaps (open_string shut_string)
set_option linter.unusedVariables false

theorem own : ownKnob Tryz.prog.godebug = none := by kernel_rfl
theorem laidOut : laidOutB Tryz.prog = true := by kernel_rfl

theorem gPow : Tryz.prog.globalNamed "internal/strconv.uint64pow10" = some 1 := by kernel_rfl
theorem tPow : (Tryz.prog.globals[1]?).map (·.type) = some 277 := by kernel_rfl
theorem cPow : Tryz.prog.cellsOf 277 = 20 := by kernel_rfl
theorem cElem : Tryz.prog.cellsOf 161 = 1 := by kernel_rfl
abbrev laid3 : List (String × DataW Unit) := [("math/bits.deBruijn32tab", Rows.laid_math_bits_deBruijn32tab), ("math/bits.deBruijn64tab", Rows.laid_math_bits_deBruijn64tab), ("internal/strconv.uint64pow10", Rows.laid_internal_strconv_uint64pow10)]
/-- The heap that the start-up leaves meets the condition. -/
theorem door_met (os : Os) (args : Array Value) : laidMetH Tryz.prog laid3 ((World.doorLaid Tryz.prog 400 os).forCall (fun _ _ => 0) ⟨#[], args, []⟩).memory :=
  laidMetH_of_parts3 (fuel := 8) (laidMet_of_run' 8 (by kernel_rfl) (by kernel_rfl)) (by kernel_rfl) (by kernel_rfl)
/-- What the condition gives: the table of powers of ten. -/
theorem of_laid {W : World} (h : laidMetH Tryz.prog laid3 W) : Pow10 W := by
  rw [MakeChecks.laidMetH_plain _ _ _ (by kernel_rfl)] at h
  have h3 := (laidMet.tail (laidMet.tail h))
  exact Lib.tabIs_of_head (k := .u64) (zs := Lib.pow10Tab) gPow tPow Tryz.underlying277 Tryz.underlying161 cElem cPow h3

set_option maxRecDepth 100000 in
theorem lifted (os : Os) (started : os.Started) (H : Type) (enc : TypeId × Value → H) :
    ReturnsInHanded {} Tryz.checked os 6 .any (fun w args => (Rows.printReadSpec.pre enc Tryz.prog Tryz.f6 [] false w args ∧ laidMetH Tryz.prog laid3 w) ∧ sizedMet enc Tryz.prog Tryz.f6 (OpenSpec.ofChange Rows.printReadSpec) false w args) (Rows.printReadSpec.post enc Tryz.prog Tryz.f6 false true false false) := by
  refine returnsInHanded_of_change_and (C := Tryz.checked) (X := fun w _ => laidMetH Tryz.prog laid3 w) (fun _ _ _ hh h => h.of_heap hh) own started (by kernel_rfl) Tryz.func6
    (ChangeSpec.witness_shaped (enc := enc) (C := Tryz.checked) (os := os) (X := fun w _ => laidMetH Tryz.prog laid3 w) false (World.doorLaid Tryz.prog 400 os) #[.agg #[.int .u32 0, .int .u32 0, .slice none 0 0]] 8 rfl (World.shaped_of_RefB (by kernel_rfl) (by kernel_rfl)) (by kernel_rfl) (by kernel_rfl) (by kernel_rfl) (door_met os _)) ?_
  intro W base args ds gs before hval0 hW _ hsz0 hL _
  have hsz : (DataW.weightsEach Tryz.prog (Tryz.f6.params.toList ++ Rows.printReadSpec.plain.varTypes Tryz.prog) (ds ++ gs)).all (· ≤ reachBytes) = true := hsz0
  clear hsz0
  have hval : ∀ (j : Nat) t v, Tryz.f6.params[j]? = some t → args[j]? = some v → Value.okWide Tryz.prog W .any base t v := hval0
  have hW' := hW
  obtain ⟨p, q, hA0, hV, rfl, hfz, hnd⟩ := hW
  have hA : DataW.TrodAll enc Tryz.prog W 0 (fun _ => true) true Tryz.f6.params.toList args.toList ds p := hA0
  rw [Tryz.params6] at hA hval hsz
  obtain ⟨v0, vs0, d0, ds0, p0, q0, hargs, rfl, rfl, h0, r0⟩ := trodAll_cons hA
  obtain ⟨rfl, rfl, rfl⟩ := trodAll_nil r0
  obtain rfl : args = #[v0] := by cases args; simp_all
  obtain ⟨rfl, rfl⟩ := trodVars_none hV
  have k0 := h0
  have lt0 : ∀ x ∈ p0, x.block < W.heap.size := by obtain ⟨m, hm⟩ := k0; exact DataW.trod_lt m _ _ _ hm
  obtain ⟨g0, b0, a0, len0, cap0, l0, rfl, bg0, bh0, bi0, bj0, hl0, hv0, hk0, hr0, hc0⟩ := open_module (hval 0 25 v0 rfl rfl) h0 (fun n hn => by simpa using List.all_eq_true.1 hsz n (DataW.weights_mem_each (j := 0) rfl rfl n hn))
  clear hA0 hval0
  refine (printRead_true W g0 b0 a0 len0 cap0 l0 hl0 hv0 hk0 hr0 hc0 ⟨bg0, bh0, bi0, bj0⟩ (of_laid hL)).mono fun e W' ⟨he, bel⟩ => ?_
  subst he
  exact ⟨_, rfl, _, _, _, [], _, [], hW', trodAll_mk1 (shut_bool Tryz.underlying4 _), (trodAll_cons_mk (Below.trod laidOut (by kernel_rfl) (of_decide_eq_true (by kernel_rfl)) k0 bel lt0) trodAll_mk0), rfl, bel.frame _, fun h => by cases h⟩

theorem over : Rows.printReadRow.holds Tryz.pinned (OpenSpec.ofChange Rows.printReadSpec) :=
  OpenClaim.holds_of_wide 6 Tryz.f6 rfl rfl rfl rfl rfl rfl rfl ⟨rfl, rfl, rfl, rfl, rfl⟩ rfl rfl rfl rfl rfl (by kernel_rfl) Tryz.func6 (by kernel_rfl)
    (of_decide_eq_true (by kernel_rfl)) (by unfold Func.isWrapper; first | (rw [if_pos (by decide +kernel)]; kernel_rfl) | (rw [if_neg (by decide +kernel)]; exact ⟨rfl, rfl⟩))
    (fun os started H enc _ => lifted os started H enc)

end Go.Proofs.YtddkapkkjhomkaaGreatDoor.printRead

namespace Go.Proofs.YtddkapkkjhomkaaGreatDoor
theorem printRead_holds : Rows.PrintReadSaid := printRead.over
#print axioms printRead_holds
end Go.Proofs.YtddkapkkjhomkaaGreatDoor
