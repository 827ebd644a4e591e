/-
  Texts laid together in one: AsmParseL, Law08Keep, PrintLineF, Law08Each, ArgInsts, LawPrintEach.
-/
import Derived.WalkSpells
import Derived.WalkMore
import Derived.BigRegion
import Derived.Test.YtgjedfmipllocaaGreatDoorProg
import Derived.Test.YtgjedfmipllocaaGreatDoorB16
import Derived.Test.YtgjedfmipllocaaGreatDoorB18
import Derived.Test.YtgjedfmipllocaaGreatDoorB01
import Derived.Test.YtgjedfmipllocaaGreatDoorB17
import Derived.Test.YtgjedfmipllocaaGreatDoorB13
import Derived.Test.YtgjedfmipllocaaGreatDoorB14
import Derived.Test.YtgjedfmipllocaaGreatDoorB08
import Derived.Test.YtgjedfmipllocaaGreatDoorB11
import Derived.Test.YtgjedfmipllocaaGreatDoorB07
import Derived.ProofKit
import Derived.OpenShut
import Derived.SizedLaws
import Derived.Deep.Slices
import Derived.Deep.SlicePairs
import Derived.Lib.SmallJoins
import Derived.OwnWalkIn
import Derived.TacticsInMore
import Derived.LoopNIn
import Derived.LoopIn
import Derived.Shelf.Abstract
import Derived.Shelf.RegionOpen
import Derived.RangeFuncNested
import Derived.RangeFuncBound
import Derived.RangeFuncCalls
import Derived.RangeFuncLeaves
import Derived.Test.YtgjedfmipllocaaGreatDoorB02
import Derived.Test.YtgjedfmipllocaaGreatDoorB03
import Derived.Test.YtgjedfmipllocaaGreatDoorB05
/-
  What Parse of the layer asm returns, for every text.
-/
namespace Go.Proofs.YtgjedfmipllocaaGreatDoor
open Go.RowKit
set_option linter.unusedVariables false
set_option linter.unusedSimpArgs false
set_option maxRecDepth 10000

end Go.Proofs.YtgjedfmipllocaaGreatDoor

/-
  What stands while a law of layer 8 goes on.
-/
namespace Go.Proofs.YtgjedfmipllocaaGreatDoor
open Go.RowKit
set_option linter.unusedVariables false
set_option linter.unusedSimpArgs false
set_option maxRecDepth 10000

/-- The box of m, and what it holds. -/
structure PrB (w W : World) (g : Int) (N : Nat) (a : Option Addr) (n c : Nat) (l : List InstT) : Prop where
  mbox : W.heap[w.heap.size]? = some (.cells #[.int .u32 g, .int .u32 (N : Int), .slice a n c] 25 (0, 0))
  lv : InstsV W a l
  bel : Below w.heap.size w W
  pw : Pow10 W
theorem PrB.below {w W W' : World} {g : Int} {N : Nat} {a : Option Addr} {n c : Nat} {l : List InstT} (h : PrB w W g N a n c l) (hb : Below W.heap.size W W') : PrB w W' g N a n c l :=
  ⟨(hb.block _ (Array.getElem?_eq_some_iff.1 h.mbox).1).trans h.mbox, h.lv.below hb, h.bel.trans (hb.mono h.bel.size), h.pw.below hb⟩
theorem PrB.cells {w W : World} {g : Int} {N : Nat} {a : Option Addr} {n c : Nat} {l : List InstT} (h : PrB w W g N a n c l) : W.cell? ⟨w.heap.size, 0, none⟩ = some (.int .u32 g) ∧ W.cell? ⟨w.heap.size, 1, none⟩ = some (.int .u32 (N : Int)) ∧ W.cell? ⟨w.heap.size, 2, none⟩ = some (.slice a n c) :=
  ⟨(one_block h.mbox).1 0, (one_block h.mbox).1 1, (one_block h.mbox).1 2⟩
theorem PrB.start {w : World} {g : Int} {N : Nat} {a : Option Addr} {n : Nat} (c : Nat) {l : List InstT} (hv : InstsV w a l) (ht : Pow10 w) : PrB w (w.alloc (.cells #[.int .u32 g, .int .u32 (N : Int), .slice a n c] 25)) g N a n c l :=
  have hba : Below w.heap.size w (w.alloc (.cells #[.int .u32 g, .int .u32 (N : Int), .slice a n c] 25)) := (Below.refl _ w).alloc (Nat.le_refl _) _
  ⟨heap_alloc_new w _, hv.below hba, hba, ht.below hba⟩
theorem below_one8 (w : World) (o : Obj) : Below w.heap.size w (w.alloc o) := (Below.refl _ w).alloc (Nat.le_refl _) _
theorem Below.kept {W W' : World} (hb : Below W.heap.size W W') {p : Nat} {o : Obj} (h : W.heap[p]? = some o) : W'.heap[p]? = some o := (hb.block _ (Array.getElem?_eq_some_iff.1 h).1).trans h

theorem growP {W wx w' : World} (h : Below W.heap.size W wx) (hb : Below wx.heap.size wx w') : Below W.heap.size W w' := h.trans (hb.mono h.size)
theorem below_drewP (W : World) : Below W.heap.size W W.drew := (Below.refl _ W).drew

/-- The box of a module at any place, and what it holds. -/
structure MdB (W : World) (p : Nat) (g : Int) (N : Nat) (a : Option Addr) (n c : Nat) (l : List InstT) : Prop where
  mbox : W.heap[p]? = some (.cells #[.int .u32 g, .int .u32 (N : Int), .slice a n c] 25 (0, 0))
  lv : InstsV W a l
theorem MdB.below {W W' : World} {p : Nat} {g : Int} {N : Nat} {a : Option Addr} {n c : Nat} {l : List InstT} (h : MdB W p g N a n c l) (hb : Below W.heap.size W W') : MdB W' p g N a n c l := ⟨Below.kept hb h.mbox, h.lv.below hb⟩
theorem MdB.cells {W : World} {p : Nat} {g : Int} {N : Nat} {a : Option Addr} {n c : Nat} {l : List InstT} (h : MdB W p g N a n c l) : W.cell? ⟨p, 0, none⟩ = some (.int .u32 g) ∧ W.cell? ⟨p, 1, none⟩ = some (.int .u32 (N : Int)) ∧ W.cell? ⟨p, 2, none⟩ = some (.slice a n c) :=
  ⟨(one_block h.mbox).1 0, (one_block h.mbox).1 1, (one_block h.mbox).1 2⟩
/-- Where a law began, and the table of powers. -/
structure BgB (w W : World) : Prop where
  bel : Below w.heap.size w W
  pw : Pow10 W
theorem BgB.below {w W W' : World} (h : BgB w W) (hb : Below W.heap.size W W') : BgB w W' := ⟨h.bel.trans (hb.mono h.bel.size), h.pw.below hb⟩

/-- A module of good shape: its text. -/
theorem facts8t {g : Int} {N n : Nat} {l : List InstT} (hl : l.length = n) (hok : InstsOk l) (hr : 40 * n ≤ 140737488351232) (hg : 0 ≤ g ∧ g < 4294967296) (hN : (N : Int) < 4294967296) (h : (shapeE (N : Int) l).1 = 0) :
    ∃ S : ByteArray, S = strOfNums (textP g (N : Int) l) ∧ S.size ≤ 16777216 ∧
      (∀ wx p c, InstsV wx (some ⟨p, 0, none⟩) l → Pow10 wx → Calls Tryz.prog 7 #[.agg #[.int .u32 g, .int .u32 N, .slice (some ⟨p, 0, none⟩) n c]] wx fun e w' => e = .returned (.tuple #[.string S, .agg #[.int .i64 0, .int .i64 0]]) ∧ Below wx.heap.size wx w') := by
  have hz := textP_size hg.2 hok h
  have h2 : (((shapeE (N : Int) l).2 : Nat) : Int) = 0 := by rw [shape_none h]; rfl
  refine ⟨_, rfl, hz, fun wx p c hx hp => ?_⟩
  have := printTextM_any g N (some ⟨p, 0, none⟩) n c l wx hx hok hl hr hg.1 hg.2 hN hp
  rw [h, h2, show txtP g (N : Int) l = strOfNums (textP g (N : Int) l) from if_pos h] at this
  exact this

end Go.Proofs.YtgjedfmipllocaaGreatDoor

/-
  Line of the package print: an instruction's line, or what it lacks.
-/
namespace Go.Proofs.YtgjedfmipllocaaGreatDoor
open Go.RowKit
set_option maxRecDepth 10000
set_option linter.unusedVariables false
set_option linter.unusedSimpArgs false

/-- An instruction's line. -/
def linP (x : InstT) (b : Int) : ByteArray := if rawE x b = 0 then strOfNums (prI x) else ⟨#[]⟩

set_option maxHeartbeats 2000000 in
theorem printLine_any (x : InstT) (b : Int) (ax : Option Addr) (n cx : Nat) (w : World) (hv : ArgsV w ax x.2.2.2) (hok : InstOk x) (hl : x.2.2.2.length = n) (ht : Pow10 w) :
    Calls Tryz.prog 13 #[instV x ax n cx, .int .u32 b] w fun e w' => e = .returned (.tuple #[.string (linP x b), .int .i64 (rawE x b)]) ∧ Below w.heap.size w w' := by
  have hR := fun W (hb : Below w.heap.size w W) => raw_any x b ax n cx W (hv.below hb) hok hl
  have HB0 := hide ((Below.refl w.heap.size w).alloc (Nat.le_refl _) (.cells #[.int .u16 x.1, .int .u32 x.2.1, .int .u32 x.2.2.1, .slice ax n cx] 48))
  have HM := hide (heap_alloc_new w (.cells #[.int .u16 x.1, .int .u32 x.2.1, .int .u32 x.2.2.1, .slice ax n cx] 48))
  by_cases hz : rawE x b = 0
  · have hT := fun W (hb : Below w.heap.size w W) => printTokens_any x ax n cx W (hv.below hb) hl (by have := (inst_few hok hz).1; omega) hok (inst_few hok hz).2.2.2 (ht.below hb)
    have hW := fun W a m c (h : ToksV W a (tksI x)) (hm : (tksI x).length = m) => write_any a m c (tksI x) W h hm (tksI_in hok hz) (by have := (inst_few hok hz).2.2.1; omega)
    have eW : wErr (tksI x) = 0 := if_pos (tksI_ok hok hz)
    rw [inst_out hok hz, eW] at hW
    have ez : linP x b = strOfNums (prI x) := if_pos hz
    rw [ez, hz]
    rw [hz] at hR
    unfold instV at hR ⊢
    generalize strOfNums (prI x) = S at *
    generalize rawO x b = o at *
    generalize tksI x = T at *
    generalize rawWs x b = R at *
    clear hv hok hl ht hz eW ez
    generalize x.1 = x1 at *
    generalize x.2.1 = x2 at *
    generalize x.2.2.1 = x3 at *
    go_enter Tryz.func13, Tryz.ntmps13
    go_wp2_with fail
    generalize w.alloc (.cells #[.int .u16 x1, .int .u32 x2, .int .u32 x3, .slice ax n cx] 48) = W0 at *
    refine (hR _ HB0.out).mono ?_
    rintro e w1 ⟨hb1, a, m, c, rfl, hm, hown⟩
    clear hown hm
    have lm := (Array.getElem?_eq_some_iff.1 HM.out).1
    have hb2 : Below W0.heap.size W0 (w1.alloc (.cells #[.int .u16 o, .slice a m c] 106)) := hb1.alloc hb1.size _
    have kM2 := (hb2.block _ lm).trans HM.out
    obtain ⟨hcM, _⟩ := one_block kM2
    have m0 := hcM 0
    have m1 := hcM 1
    have m2 := hcM 2
    have m3 := hcM 3
    have HB2 := hide (HB0.out.trans (hb2.mono HB0.out.size))
    clear hb1 hb2 kM2 hcM hR lm
    go_wp2_with fail
    refine (hT _ HB2.out).mono ?_
    rintro e w3 ⟨a3, m3', c3, rfl, hv3, hm3, hb3⟩
    have HB3 := hide (HB2.out.trans (hb3.mono HB2.out.size))
    have hW' := hW w3 a3 m3' c3 hv3 hm3
    clear hb3 hW hv3 hm3 m0 m1 m2 m3 hT
    go_wp2_with fail
    refine hW'.mono ?_
    rintro e w4 ⟨rfl, hb4⟩
    have HB4 := hide (HB3.out.trans (hb4.mono HB3.out.size))
    clear hb4 hW'
    go_wp2_with fail
    refine bodyPost_ret (v := .tuple #[.string S, .int .i64 0]) ?_ rfl ⟨rfl, HB4.out⟩
    simp [results, Tryz.results13, go_sem]
  · have ez : linP x b = ⟨#[]⟩ := if_neg hz
    have heb : (rawE x b == 0) = false := by simpa using hz
    rw [ez]
    unfold instV at hR ⊢
    generalize rawE x b = E at *
    generalize rawO x b = o at *
    generalize rawWs x b = R at *
    clear hv hok hl ht hz ez
    generalize x.1 = x1 at *
    generalize x.2.1 = x2 at *
    generalize x.2.2.1 = x3 at *
    go_enter Tryz.func13, Tryz.ntmps13
    go_wp2_with fail
    generalize w.alloc (.cells #[.int .u16 x1, .int .u32 x2, .int .u32 x3, .slice ax n cx] 48) = W0 at *
    refine (hR _ HB0.out).mono ?_
    rintro e w1 ⟨hb1, a, m, c, rfl, hm, hown⟩
    clear hown hm
    have hb2 : Below W0.heap.size W0 (w1.alloc (.cells #[.int .u16 o, .slice a m c] 106)) := hb1.alloc hb1.size _
    have HB2 := hide (HB0.out.trans (hb2.mono HB0.out.size))
    clear hb1 hb2 hR HM HB0
    go_wp2_with fail
    refine bodyPost_ret (v := .tuple #[.string ⟨#[]⟩, .int .i64 E]) ?_ rfl ⟨rfl, HB2.out⟩
    simp [results, Tryz.results13, go_sem]

end Go.Proofs.YtgjedfmipllocaaGreatDoor

/-
  What the lines of a printed text are, and what their tokens say.
-/
namespace Go.Proofs.YtgjedfmipllocaaGreatDoor
open Go.RowKit
set_option linter.unusedVariables false
set_option linter.unusedSimpArgs false
set_option maxRecDepth 10000

theorem numbered_get : ∀ (L : List (List Int)) (n j : Nat), (numbered n L)[j]? = (L[j]?).map fun a => (n + j, strOfNums a)
  | [], _, j => by simp [numbered]
  | a :: r, n, 0 => by simp [numbered]
  | a :: r, n, j + 1 => by
    rw [numbered, List.getElem?_cons_succ, List.getElem?_cons_succ, numbered_get r (n + 1) j]
    have e : n + 1 + j = n + (j + 1) := by omega
    rw [e]
theorem numbered_len : ∀ (L : List (List Int)) (n : Nat), (numbered n L).length = L.length
  | [], _ => rfl
  | a :: r, n => by rw [numbered, List.length_cons, List.length_cons, numbered_len r]
theorem line_at {L : List (List Int)} {pre : List (Nat × ByteArray)} {x : Nat × ByteArray} (h : pre ++ [x] <+: numbered 1 L) : ∃ a, L[pre.length]? = some a ∧ x = (pre.length + 1, strOfNums a) := by
  obtain ⟨r, hr⟩ := h
  have e : (numbered 1 L)[pre.length]? = some x := by rw [← hr]; simp
  rw [numbered_get] at e
  cases hL : L[pre.length]? with
  | none => rw [hL] at e; simp at e
  | some a =>
    rw [hL] at e
    simp only [Option.map_some, Option.some.injEq] at e
    exact ⟨a, rfl, by rw [← e, Nat.add_comm]⟩
theorem each_line {g b : Int} {l : List InstT} {pre : List (Nat × ByteArray)} {x : Nat × ByteArray} (h : pre ++ [x] <+: numbered 1 (headL g b :: l.map fun y => prI y)) : (pre.length = 0 ∧ x = (1, strOfNums (headL g b))) ∨ ∃ j, pre.length = j + 1 ∧ j < l.length ∧ x = (j + 2, strOfNums (prI (nthI l j))) := by
  obtain ⟨a, ha, rfl⟩ := line_at h
  cases hp : pre.length with
  | zero => rw [hp] at ha; simp only [List.getElem?_cons_zero, Option.some.injEq] at ha; exact .inl ⟨rfl, by rw [ha]⟩
  | succ j =>
    rw [hp] at ha
    rw [List.getElem?_cons_succ, List.getElem?_map] at ha
    cases hj : l[j]? with
    | none => rw [hj] at ha; simp at ha
    | some y =>
      rw [hj] at ha
      simp only [Option.map_some, Option.some.injEq] at ha
      have hlt : j < l.length := (List.getElem?_eq_some_iff.1 hj).1
      refine .inr ⟨j, rfl, hlt, ?_⟩
      have : nthI l j = y := by simp [nthI, List.getD, hj]
      rw [this, ha]
theorem headTokens (g : Int) (N : Nat) (W : World) (g1 : g < 4294967296) (hN : (N : Int) < 4294967296) (hz : (headL g (N : Int)).length ≤ 1000000) :
    Calls Tryz.prog 11 #[.string (strOfNums (headL g (N : Int)))] W fun e w' => ∃ p o c, e = .returned (.tuple #[.slice (some ⟨p, o, none⟩) 3 c, .agg #[.int .i64 0, .int .i64 0]]) ∧ w'.cell? ⟨p, o + 1, none⟩ = some (.string modS) ∧ w'.cell? ⟨p, o + 4, none⟩ = some (.string (dgS g)) ∧ w'.cell? ⟨p, o + 7, none⟩ = some (.string (dgS (N : Int))) ∧ p < w'.heap.size ∧ Below W.heap.size W w' := by
  have hw := (headL_ok (g := g) (b := (N : Int)) g1 hN).1
  have ht : toksP (headL g (N : Int)) 0 = (placedW 0 (headTk g (N : Int)), 0, 0) := toks_wt (headTk g (N : Int)) (headTk_ok g1 hN)
  have h := tokens_any (strOfNums (headL g (N : Int))) W (by rw [strOfNums_size]; omega)
  rw [strI_of hw, ht] at h
  refine h.mono ?_
  rintro e w' ⟨v, rfl, hown, hb⟩
  obtain ⟨a, m, c, rfl, hv, hm⟩ := toksV_own hown
  have hl : (placedW 0 (headTk g (N : Int))).length = 3 := by rw [placedW_len]; rfl
  simp only at hm hv
  obtain rfl : m = 3 := by rw [← hm]; exact hl
  have hsm := placedW_same (headTk g (N : Int)) 0
  obtain ⟨_, a2⟩ := hsm.2 0 (by simp [headTk])
  obtain ⟨_, c2⟩ := hsm.2 1 (by simp [headTk])
  obtain ⟨_, d2⟩ := hsm.2 2 (by simp [headTk])
  obtain ⟨p, o, rfl, hp, _, x0, _⟩ := hv 0 (by rw [hl]; omega)
  obtain ⟨p', o', e1, _, _, x1, _⟩ := hv 1 (by rw [hl]; omega)
  obtain ⟨p'', o'', e2, _, _, x2, _⟩ := hv 2 (by rw [hl]; omega)
  simp only [Option.some.injEq, Addr.mk.injEq, and_true] at e1 e2
  obtain ⟨rfl, rfl⟩ := e1
  obtain ⟨rfl, rfl⟩ := e2
  rw [a2, show nthT (headTk g (N : Int)) 0 = (1, modS, 0) from rfl] at x0
  rw [c2, show nthT (headTk g (N : Int)) 1 = (3, dgS g, 0) from rfl] at x1
  rw [d2, show nthT (headTk g (N : Int)) 2 = (3, dgS (N : Int), 0) from rfl] at x2
  exact ⟨p, o, c, rfl, by simpa using x0, by simpa [Nat.add_assoc] using x1, by simpa [Nat.add_assoc] using x2, hp, hb⟩
theorem headNumber (n : Int) (W : World) (n0 : 0 ≤ n) (n1 : n < 4294967296) : Calls Tryz.prog 12 #[.string (dgS n)] W fun e w' => e = .returned (.tuple #[.int .u32 n, .int .i64 0]) ∧ W = w' := by
  have h := lexNumber_any (dgS n) W (by have := dgS_size n1; omega)
  obtain ⟨e1, e2⟩ := num_back n0 n1
  rw [e1, show numOut (strI (dgS n)) = n by unfold numOut; rw [if_pos (numErr_zero e1)]; exact e2] at h
  exact h
theorem headL_len {g : Int} {N : Nat} (g1 : g < 4294967296) (hN : (N : Int) < 4294967296) : (headL g (N : Int)).length ≤ 1000000 := by
  have d1 := dgS_size g1
  have d2 := dgS_size (n := (N : Int)) hN
  have e : headL g (N : Int) = strI modS ++ 32 :: strI (dgS g) ++ 32 :: strI (dgS (N : Int)) := by
    unfold headL headTk wtAll
    simp [wtS]
  rw [e]
  simp only [List.length_append, List.length_cons, strI_len]
  have : modS.size = 6 := rfl
  omega

end Go.Proofs.YtgjedfmipllocaaGreatDoor

/-
  What an argument that is an instruction, or a slice of instructions, holds: all within their bounds, each list within the reach of memory.
-/
namespace Go.Proofs.YtgjedfmipllocaaGreatDoor
open Go.ChangeShapes Go.WideShapes Go.ChangeAt Go.RowKit
set_option maxRecDepth 100000

theorem ArgInsts.cellsA : Tryz.prog.cellsOf 71 = 3 := by kernel_rfl
theorem ArgInsts.cells8 : Tryz.prog.cellsOf 5 = 1 := by kernel_rfl
theorem ArgInsts.cells32 : Tryz.prog.cellsOf 22 = 1 := by kernel_rfl
theorem ArgInsts.cellsS : Tryz.prog.cellsOf 9 = 1 := by kernel_rfl
theorem ArgInsts.bytesA : Tryz.prog.bytesOf 71 = 24 := by kernel_rfl
theorem ArgInsts.cells16 : Tryz.prog.cellsOf 45 = 1 := by kernel_rfl
theorem ArgInsts.cellsL : Tryz.prog.cellsOf 46 = 1 := by kernel_rfl

theorem ArgInsts.cellsI : Tryz.prog.cellsOf 48 = 4 := by kernel_rfl
theorem ArgInsts.bytesI : Tryz.prog.bytesOf 48 = 40 := by kernel_rfl

theorem weightsIn {H : Type} {P : Program} {e : TypeId} : ∀ {l : List (DataW H)} {d : DataW H}, d ∈ l → ∀ n ∈ d.weights P e, n ∈ DataW.weightsAll P e l
  | d0 :: l, d, hd, n, hn => by
    simp only [DataW.weightsAll, List.mem_append]
    rcases List.mem_cons.1 hd with rfl | h
    · exact Or.inl hn
    · exact Or.inr (weightsIn h n hn)

theorem argsV_mk {w : World} {x : Addr} {n : Nat} {f : Nat → ArgT} (h : ∀ i, i < n → w.cell? (x.add (i * 3)) = some (.int .u8 (f i).1) ∧ w.cell? (x.add (i * 3 + 1)) = some (.int .u32 (f i).2.1) ∧ w.cell? (x.add (i * 3 + 2)) = some (.string (f i).2.2)) : ArgsV w (some x) ((List.range n).map f) := by
  intro j hj
  rw [List.length_map, List.length_range] at hj
  have h0 := (h 0 (by omega)).1
  obtain ⟨b, off, spot⟩ := x
  have hs : spot = none := by simpa [Addr.add] using World.cell?_spot h0
  subst hs
  obtain ⟨h1, h2, h3⟩ := h j hj
  rw [Addr.add_lit] at h1 h2 h3
  have e : nthA ((List.range n).map f) j = f j := by simp [nthA, List.getD, hj]
  rw [e]
  exact ⟨b, off, rfl, World.block_lt_of_cell? _ _ h1, h1, by rw [Nat.add_assoc]; exact h2, by rw [Nat.add_assoc]; exact h3⟩

set_option maxHeartbeats 1000000 in
theorem open_args {H : Type} {enc : TypeId × Value → H} {w : World} {base fuel : Nat} {held : Bool} {a : Option Addr} {len cap : Nat} {d : DataW H} {ps : List MemPlace}
    (hf : DataW.trod enc Tryz.prog w base (fun _ => true) held fuel 46 [.slice a len cap] = some (d, ps)) (hs : ∀ n ∈ d.weights Tryz.prog 46, n ≤ reachBytes) :
    ∃ l : List ArgT, l.length = len ∧ ArgsV w a l ∧ ArgsOk l ∧ 24 * len ≤ 140737488351232 ∧ len ≤ cap := by
  rcases Go.Deep.open_slice Tryz.underlying46 hf with ⟨hcs, _⟩ | ⟨x, l, c, mm, nn, D, Pl, hcs, _, hl, hm, hmm, hx, hall⟩
  · simp at hcs
    obtain ⟨rfl, rfl, rfl⟩ := hcs
    exact ⟨[], rfl, argsV_nil, argsOk_nil, by omega, by omega⟩
  · simp at hcs
    obtain ⟨rfl, rfl, rfl⟩ := hcs
    simp only [Prod.mk.injEq] at hx
    obtain ⟨rfl, rfl⟩ := hx
    simp only [if_true] at hmm
    subst hmm
    have hs0 := hs ((((List.range len).map D).length + ((List.range (mm - len)).map fun j => D (len + j)).length) * Tryz.prog.bytesOf 71) (by simp [DataW.weights, Tryz.underlying46])
    rw [ArgInsts.bytesA] at hs0
    simp only [List.length_map, List.length_range, reachBytes] at hs0
    have key : ∀ i, i < len → ∃ r : ArgT, w.cell? (x.add (i * 3)) = some (.int .u8 r.1) ∧ w.cell? (x.add (i * 3 + 1)) = some (.int .u32 r.2.1) ∧ w.cell? (x.add (i * 3 + 2)) = some (.string r.2.2) ∧ ArgOk r := by
      intro i hi
      obtain ⟨cs, hc, ht⟩ := hall i (by omega)
      rw [ArgInsts.cellsA] at hc
      obtain ⟨_, hlen, hcell⟩ := World.cells?_some hc
      obtain ⟨xs, k, _, hxy, _, hxl, hfl⟩ := DataW.trod_struct Tryz.underlying71 ht
      have g0 := hfl 0 _ rfl
      have g1 := hfl 1 _ rfl
      have g2 := hfl 2 _ rfl
      match xs, hxl, cs, hlen with
      | [y0, y1, y2], _, [v0, v1, v2], _ =>
        have e0 := hcell 0 (by omega)
        have e1 := hcell 1 (by omega)
        have e2 := hcell 2 (by omega)
        rw [Go.Deep.add_add] at e0 e1 e2
        simp [ArgInsts.cells8, ArgInsts.cells32, ArgInsts.cellsS] at g0 g1 g2 e0 e1 e2
        obtain ⟨n0, q0, _, w0⟩ := DataW.trod_int Tryz.underlying5 g0
        obtain ⟨n1, q1, _, w1⟩ := DataW.trod_int Tryz.underlying22 g1
        obtain ⟨s2, q2, q3⟩ := DataW.trod_string Tryz.underlying9 g2
        simp at q0 q1 q2
        subst q0; subst q1; subst q2
        have b0 := bounds_u8 w0
        have b1 := bounds_u32 w1
        refine ⟨(n0, n1, s2), by simpa using e0, e1, e2, ?_⟩
        have hs2 := hs s2.size (by
          have hmem : D i ∈ (List.range len).map D := List.mem_map.2 ⟨i, List.mem_range.2 hi, rfl⟩
          simp only [DataW.weights, Tryz.underlying46, List.mem_cons, List.mem_append]
          refine Or.inr (Or.inl (weightsIn hmem _ ?_))
          simp only [Prod.mk.injEq] at hxy
          rw [hxy.1]
          simp only [DataW.weights, Tryz.underlying71]
          refine DataW.weights_mem_each (j := 2) rfl rfl _ ?_
          simp_all [DataW.weights])
        simp only [reachBytes] at hs2
        exact ⟨by simp; omega, by simp; omega, by simp; omega, by simp; omega, hs2⟩
    let f : Nat → ArgT := fun i => if h : i < len then Classical.choose (key i h) else noArg
    have hf' : ∀ i (h : i < len), f i = Classical.choose (key i h) := fun i h => dif_pos h
    refine ⟨(List.range len).map f, by simp, argsV_mk (fun i hi => ?_), fun j hj => ?_, by omega, hl⟩
    · rw [hf' i hi]
      obtain ⟨h1, h2, h3, _⟩ := Classical.choose_spec (key i hi)
      exact ⟨h1, h2, h3⟩
    · rw [List.length_map, List.length_range] at hj
      have e : nthA ((List.range len).map f) j = f j := by simp [nthA, List.getD, hj]
      rw [e, hf' j hj]
      exact (Classical.choose_spec (key j hj)).2.2.2

theorem instsV_mk {w : World} {x : Addr} {n : Nat} {f : Nat → InstT} (h : ∀ i, i < n → w.cell? (x.add (i * 4)) = some (.int .u16 (f i).1) ∧ w.cell? (x.add (i * 4 + 1)) = some (.int .u32 (f i).2.1) ∧ w.cell? (x.add (i * 4 + 2)) = some (.int .u32 (f i).2.2.1) ∧
    ∃ aj cj, w.cell? (x.add (i * 4 + 3)) = some (.slice aj (f i).2.2.2.length cj) ∧ ArgsV w aj (f i).2.2.2 ∧ (f i).2.2.2.length ≤ cj) : InstsV w (some x) ((List.range n).map f) := by
  intro j hj
  rw [List.length_map, List.length_range] at hj
  have h0 := (h 0 (by omega)).1
  obtain ⟨b, off, spot⟩ := x
  have hs : spot = none := by simpa [Addr.add] using World.cell?_spot h0
  subst hs
  obtain ⟨h1, h2, h3, aj, cj, h4, h5, h6⟩ := h j hj
  rw [Addr.add_lit] at h1 h2 h3 h4
  have e : nthI ((List.range n).map f) j = f j := by simp [nthI, List.getD, hj]
  rw [e]
  exact ⟨b, off, aj, cj, _, rfl, World.block_lt_of_cell? _ _ h1, h1, by rw [Nat.add_assoc]; exact h2, by rw [Nat.add_assoc]; exact h3, by rw [Nat.add_assoc]; exact h4, rfl, h5, h6⟩

set_option maxHeartbeats 1000000 in
theorem open_insts {H : Type} {enc : TypeId × Value → H} {w : World} {base fuel : Nat} {held : Bool} {a : Option Addr} {len cap : Nat} {d : DataW H} {ps : List MemPlace}
    (hf : DataW.trod enc Tryz.prog w base (fun _ => true) held fuel 23 [.slice a len cap] = some (d, ps)) (hs : ∀ n ∈ d.weights Tryz.prog 23, n ≤ reachBytes) :
    ∃ l : List InstT, l.length = len ∧ InstsV w a l ∧ InstsOk l ∧ 40 * len ≤ 140737488351232 ∧ len ≤ cap := by
  rcases Go.Deep.open_slice Tryz.underlying23 hf with ⟨hcs, _⟩ | ⟨x, l, c, mm, nn, D, Pl, hcs, _, hl, hm, hmm, hx, hall⟩
  · simp at hcs
    obtain ⟨rfl, rfl, rfl⟩ := hcs
    exact ⟨[], rfl, instsV_nil, instsOk_nil, by omega, by omega⟩
  · simp at hcs
    obtain ⟨rfl, rfl, rfl⟩ := hcs
    simp only [Prod.mk.injEq] at hx
    obtain ⟨rfl, rfl⟩ := hx
    simp only [if_true] at hmm
    subst hmm
    have hs0 := hs ((((List.range len).map D).length + ((List.range (mm - len)).map fun j => D (len + j)).length) * Tryz.prog.bytesOf 48) (by simp [DataW.weights, Tryz.underlying23])
    rw [ArgInsts.bytesI] at hs0
    simp only [List.length_map, List.length_range, reachBytes] at hs0
    have key : ∀ i, i < len → ∃ r : InstT, w.cell? (x.add (i * 4)) = some (.int .u16 r.1) ∧ w.cell? (x.add (i * 4 + 1)) = some (.int .u32 r.2.1) ∧ w.cell? (x.add (i * 4 + 2)) = some (.int .u32 r.2.2.1) ∧
        (∃ aj cj, w.cell? (x.add (i * 4 + 3)) = some (.slice aj r.2.2.2.length cj) ∧ ArgsV w aj r.2.2.2 ∧ r.2.2.2.length ≤ cj) ∧ InstOk r := by
      intro i hi
      obtain ⟨cs, hc, ht⟩ := hall i (by omega)
      rw [ArgInsts.cellsI] at hc
      obtain ⟨_, hlen, hcell⟩ := World.cells?_some hc
      obtain ⟨xs, k, _, hxy, _, hxl, hfl⟩ := DataW.trod_struct Tryz.underlying48 ht
      have g0 := hfl 0 _ rfl
      have g1 := hfl 1 _ rfl
      have g2 := hfl 2 _ rfl
      have g3 := hfl 3 _ rfl
      match xs, hxl, cs, hlen with
      | [y0, y1, y2, y3], _, [v0, v1, v2, v3], _ =>
        have e0 := hcell 0 (by omega)
        have e1 := hcell 1 (by omega)
        have e2 := hcell 2 (by omega)
        have e3 := hcell 3 (by omega)
        rw [Go.Deep.add_add] at e0 e1 e2 e3
        simp [ArgInsts.cells16, ArgInsts.cells32, ArgInsts.cellsL] at g0 g1 g2 g3 e0 e1 e2 e3
        obtain ⟨n0, q0, _, w0⟩ := DataW.trod_int Tryz.underlying45 g0
        obtain ⟨n1, q1, _, w1⟩ := DataW.trod_int Tryz.underlying22 g1
        obtain ⟨n2, q2, _, w2⟩ := DataW.trod_int Tryz.underlying22 g2
        simp at q0 q1 q2
        subst q0; subst q1; subst q2
        have b0 := bounds_u16 w0
        have b1 := bounds_u32 w1
        have b2 := bounds_u32 w2
        obtain ⟨a, n, c, rfl⟩ : ∃ a n c, v3 = .slice a n c := by
          rcases Go.Deep.open_slice Tryz.underlying46 g3 with ⟨hcs, _⟩ | ⟨x, l, c, mm, nn, D, Pl, hcs, _⟩
          · simp at hcs; exact ⟨_, _, _, hcs⟩
          · simp at hcs; exact ⟨_, _, _, hcs⟩
        obtain ⟨l, hl, hv3, hok, hr, hc⟩ := open_args g3 (fun k hk => hs k (by
          have hmem : D i ∈ (List.range len).map D := List.mem_map.2 ⟨i, List.mem_range.2 hi, rfl⟩
          simp only [DataW.weights, Tryz.underlying23, List.mem_cons, List.mem_append]
          refine Or.inr (Or.inl (weightsIn hmem _ ?_))
          simp only [Prod.mk.injEq] at hxy
          rw [hxy.1]
          simp only [DataW.weights, Tryz.underlying48]
          exact DataW.weights_mem_each (j := 3) rfl rfl _ hk))
        subst hl
        exact ⟨(n0, n1, n2, l), by simpa using e0, e1, e2, ⟨a, c, e3, hv3, hc⟩, by simp; omega, by simp; omega, by simp; omega, by simp; omega, by simp; omega, by simp; omega, hok, hr⟩
    let f : Nat → InstT := fun i => if h : i < len then Classical.choose (key i h) else noInst
    have hf' : ∀ i (h : i < len), f i = Classical.choose (key i h) := fun i h => dif_pos h
    refine ⟨(List.range len).map f, by simp, instsV_mk (fun i hi => ?_), fun j hj => ?_, by omega, hl⟩
    · rw [hf' i hi]
      obtain ⟨h1, h2, h3, h4, _⟩ := Classical.choose_spec (key i hi)
      exact ⟨h1, h2, h3, h4⟩
    · rw [List.length_map, List.length_range] at hj
      have e : nthI ((List.range len).map f) j = f j := by simp [nthI, List.getD, hj]
      rw [e, hf' j hj]
      exact (Classical.choose_spec (key j hj)).2.2.2.2

theorem open_module {H : Type} {enc : TypeId × Value → H} {w : World} {b0 base : Nat} {held : Bool} {v : Value} {d : DataW H} {ps : List MemPlace}
    (hv : Value.okWide Tryz.prog w .any b0 25 v) (h : DataW.Trod enc Tryz.prog w base (fun _ => true) held 25 v d ps) (hs : ∀ n ∈ d.weights Tryz.prog 25, n ≤ reachBytes) :
    ∃ (gen bound : Int) (a : Option Addr) (n c : Nat) (l : List InstT), v = .agg #[.int .u32 gen, .int .u32 bound, .slice a n c] ∧ 0 ≤ gen ∧ gen < 4294967296 ∧ 0 ≤ bound ∧ bound < 4294967296 ∧ l.length = n ∧ InstsV w a l ∧ InstsOk l ∧ 40 * n ≤ 140737488351232 ∧ n ≤ c := by
  obtain ⟨v0, v1, v3, y0, y1, y3, m, rfl, rfl, _, t0, t1, t3⟩ := Go.Joins.open_agg3 Tryz.underlying25 (by kernel_rfl) (by kernel_rfl) hv h
  obtain ⟨n0, e0, _, w0⟩ := DataW.trod_int Tryz.underlying22 t0
  obtain ⟨n1, e1, _, w1⟩ := DataW.trod_int Tryz.underlying22 t1
  simp at e0 e1
  subst e0; subst e1
  have b0 := bounds_u32 w0
  have b1 := bounds_u32 w1
  obtain ⟨a, n, c, rfl⟩ : ∃ a n c, v3 = .slice a n c := by
    rcases Go.Deep.open_slice Tryz.underlying23 t3 with ⟨hcs, _⟩ | ⟨x, l, c, mm, nn, D, Pl, hcs, _⟩
    · simp at hcs; exact ⟨_, _, _, hcs⟩
    · simp at hcs; exact ⟨_, _, _, hcs⟩
  obtain ⟨l, hl, hv3, hok, hr, hc⟩ := open_insts t3 (fun k hk => hs k (by
    simp only [DataW.weights, Tryz.underlying25]
    exact DataW.weights_mem_each (j := 2) rfl rfl _ hk))
  exact ⟨n0, n1, a, n, c, l, rfl, by omega, by omega, by omega, by omega, hl, hv3, hok, hr, hc⟩

end Go.Proofs.YtgjedfmipllocaaGreatDoor

/-
  The law PrintEach answers true, for every module, where the table of powers of ten is laid.
-/
namespace Go.Proofs.YtgjedfmipllocaaGreatDoor
open Go.RowKit Go.Shelf
attribute [local go_sem] Oper.semAt_some
set_option linter.unusedVariables false
set_option linter.unusedSimpArgs false
set_option maxRecDepth 100000

/-- Between two lines: the boxes of m, of the result and of n. -/
def EachI (w : World) (g : Int) (N : Nat) (a : Option Addr) (n c B : Nat) (pre : List (Nat × ByteArray)) (W : World) : Prop :=
  (Below w.heap.size w W ∧ B + 3 ≤ W.heap.size) ∧ W.heap[w.heap.size]? = some (.cells #[.int .u32 g, .int .u32 (N : Int), .slice a n c] 25 (0, 0)) ∧ W.heap[w.heap.size + 1]? = some (.cells #[.bool false] 4 (0, 0)) ∧ W.heap[B + 1]? = some (.cells #[.int .i64 pre.length] 3 (0, 0))
theorem eachI8_own (w : World) (g : Int) (N : Nat) (a : Option Addr) (n c B : Nat) (hB : w.heap.size + 2 ≤ B) : OwnFrom (B + 3) (EachI w g N a n c B) := by
  rintro pre W W' row ⟨h1, h2, h3, h4⟩ hg hr
  exact ⟨⟨belowStay h1.1 (Nat.le_refl _) (by omega) hg hr, Nat.le_trans h1.2 hg.size⟩, cellsStay h2 hg hr, cellsStay h3 hg hr, cellsStay h4 hg hr⟩

set_option maxHeartbeats 8000000 in
theorem printEach_bad (w : World) (g : Int) (N : Nat) (a : Option Addr) (n c : Nat) (l : List InstT) (hl : l.length = n) (hv : InstsV w a l) (hok : InstsOk l) (hr : 40 * n ≤ 140737488351232) (hg : 0 ≤ g ∧ g < 4294967296) (hN : (N : Int) < 4294967296) (ht : Pow10 w) (h : (shapeE (N : Int) l).1 ≠ 0) :
    Calls Tryz.prog 3 #[.agg #[.int .u32 g, .int .u32 N, .slice a n c]] w fun e w' => e = .returned (.bool true) ∧ Below w.heap.size w w' := by
  have HCP := hide fun wx (hx : InstsV wx a l) => copyModule_any g (N : Int) a n c l wx hx hok hl hr
  have hT := fun wx p c (hx : InstsV wx (some ⟨p, 0, none⟩) l) (hp : Pow10 wx) => printTextM_any g N (some ⟨p, 0, none⟩) n c l wx hx hok hl hr hg.1 hg.2 hN hp
  have ez : txtP g (N : Int) l = ⟨#[]⟩ := if_neg h
  rw [ez] at hT
  have heb : ((shapeE (N : Int) l).1 == 0) = false := by simpa using h
  generalize (shapeE (N : Int) l).1 = er at *
  generalize (shapeE (N : Int) l).2 = ea at *
  have HT := hide hT
  have HK0 := hide ((PrB.start (g := g) (N := N) (n := n) c hv ht).below (below_one8 _ (.cells #[.bool false] 4)))
  have HR0 : Hid (((w.alloc (.cells #[.int .u32 g, .int .u32 (N : Int), .slice a n c] 25)).alloc (.cells #[.bool false] 4)).heap[w.heap.size + 1]? = some (.cells #[.bool false] 4 (0, 0))) := hide (by simpa using alloc_new (w.alloc (.cells #[.int .u32 g, .int .u32 (N : Int), .slice a n c] 25)) #[.bool false] 4)
  unfold modV at *
  clear hl hv hok hr hg hN ht h ez hT
  go_enter Tryz.func3, Tryz.ntmps3
  go_wp2_with fail
  generalize (w.alloc (.cells #[.int .u32 g, .int .u32 (N : Int), .slice a n c] 25)).alloc (.cells #[.bool false] 4) = W0 at *
  refine (HCP.out W0 HK0.out.lv).mono ?_
  rintro e w1 ⟨p1, rfl, _, hv1, hb1⟩
  have hc1 := HT.out w1 p1 n hv1 (HK0.out.pw.below hb1)
  have HK1 := hide (HK0.out.below hb1)
  have HR1 := hide (Below.kept hb1 HR0.out)
  clear hb1 hv1 HK0 HT HR0
  go_wp2_with fail
  refine hc1.mono ?_
  rintro e w2 ⟨rfl, hb2⟩
  have hb2' := below_one8 w2 (.cells #[.int .i64 er, .int .i64 (ea : Int)] 28)
  have HK2 := hide ((HK1.out.below hb2).below hb2')
  have HR2 := hide (Below.kept hb2' (Below.kept hb2 HR1.out))
  have hAw := awake8_true _ HK2.out.pw
  clear hc1 hb2 HK1 HR1 hb2'
  go_wp2_with fail
  refine hAw.mono ?_
  rintro e w3 ⟨rfl, hb3⟩
  have hR3 := Below.kept hb3 HR2.out
  have hlt := (Array.getElem?_eq_some_iff.1 hR3).1
  obtain ⟨c3, f3⟩ := oneCell hR3
  obtain ⟨d3, _⟩ := oneCell (oneSet hR3 (.bool true))
  have HB3 := hide ((HK2.out.below hb3).bel.setCell (p := ⟨w.heap.size + 1, 0, none⟩) (by simp) (.bool true))
  clear hb3 HK2 HR2 hR3
  go_wp2_with fail
  refine bodyPost_ret (v := .bool true) ?_ rfl ⟨rfl, HB3.out⟩
  simp [results, Tryz.results3, go_sem, d3]

set_option maxHeartbeats 8000000 in
theorem printEach_ok (w : World) (g : Int) (N : Nat) (a : Option Addr) (n c : Nat) (l : List InstT) (hl : l.length = n) (hv : InstsV w a l) (hok : InstsOk l) (hr : 40 * n ≤ 140737488351232) (hg : 0 ≤ g ∧ g < 4294967296) (hN : (N : Int) < 4294967296) (ht : Pow10 w) (h : (shapeE (N : Int) l).1 = 0) :
    Calls Tryz.prog 3 #[.agg #[.int .u32 g, .int .u32 N, .slice a n c]] w fun e w' => e = .returned (.bool true) ∧ Below w.heap.size w w' := by
  have hmix : Tryz.prog.follows .mixedOrders = true := by kernel_rfl
  have hnf : ∀ (p : Value) (w : World), (binOp .eql 34 (.func (.func 47) #[] #[p]) .nilFunc).run Tryz.prog w = .ok (.bool false) w := fun p w => by kernel_rfl
  have HCP := hide fun wx (hx : InstsV wx a l) => copyModule_any g (N : Int) a n c l wx hx hok hl hr
  obtain ⟨S, hS, hsz, hT⟩ := facts8t hl hok hr hg hN h
  have hln : linesT S = numbered 1 (headL g (N : Int) :: l.map fun x => prI x) := by rw [hS]; exact lines_text (textP_ok hg.2 hok h)
  have HLN := hide hln
  have HSZ := hide hsz
  have HT := hide hT
  have HK0 := hide ((PrB.start (g := g) (N := N) (n := n) c hv ht).below (below_one8 _ (.cells #[.bool false] 4)))
  have HR0 : Hid (((w.alloc (.cells #[.int .u32 g, .int .u32 (N : Int), .slice a n c] 25)).alloc (.cells #[.bool false] 4)).heap[w.heap.size + 1]? = some (.cells #[.bool false] 4 (0, 0))) := hide (by simpa using alloc_new (w.alloc (.cells #[.int .u32 g, .int .u32 (N : Int), .slice a n c] 25)) #[.bool false] 4)
  have HL := hide hl
  have HOK := hide hok
  have HSH := hide h
  have HG := hide hg
  have HN := hide hN
  have HPW := hide ht
  have HVV := hide hv
  unfold modV at *
  clear hl hv hok hr hg hN ht h hT hS hln hsz
  refine (callsIn_wide (n := 0)).1 ?_
  refine callsIn_of_wp_marks Tryz.func3 rfl trivial ?_ rfl
  simp only [Tryz.ntmps3, List.size_toArray, List.length_cons, List.length_nil, Nat.reduceAdd, Nat.reduceSub, Array.replicate_succ, Array.replicate_zero, List.push_toArray, List.append_toArray, List.nil_append, List.cons_append]
  gi_wp2_with fail
  generalize (w.alloc (.cells #[.int .u32 g, .int .u32 (N : Int), .slice a n c] 25)).alloc (.cells #[.bool false] 4) = W0 at *
  refine ⟨trivial, rfl, (callsIn_wide.2 (HCP.out W0 HK0.out.lv)).mono ?_⟩
  rintro e w1 ⟨p1, rfl, _, hv1, hb1⟩
  have hc1 := HT.out w1 p1 n hv1 (HK0.out.pw.below hb1)
  have HK1 := hide (HK0.out.below hb1)
  have HR1 := hide (Below.kept hb1 HR0.out)
  clear hb1 hv1 HK0 HT HR0
  gi_wp2_with fail
  refine ⟨trivial, rfl, (callsIn_wide.2 hc1).mono ?_⟩
  rintro e w2 ⟨rfl, hb2⟩
  have HK2 := hide (HK1.out.below hb2)
  have HR2 := hide (Below.kept hb2 HR1.out)
  clear hc1 hb2 HK1 HR1
  gi_wp2_with fail
  refine ⟨trivial, rfl, (callsIn_wide.2 (lines_any S _)).mono ?_⟩
  rintro e w3 ⟨rfl, rfl⟩
  gi_wp2_with fail
  obtain ⟨wL, hwL⟩ : ∃ X, X = ((w2.alloc (.cells #[.int .i64 0, .int .i64 0] 28)).alloc (.cells #[.int .i64 0] 3)).alloc (.cells #[.string S] 9) := ⟨_, rfl⟩
  have hsL : wL.heap.size = w2.heap.size + 3 := by rw [hwL]; simp
  have hbL2 : Below w2.heap.size w2 wL := by rw [hwL]; exact (((Below.refl _ w2).alloc (Nat.le_refl _) _).alloc (by simp) _).alloc (by simp; omega) _
  have kn : wL.heap[w2.heap.size + 1]? = some (.cells #[.int .i64 0] 3 (0, 0)) := by rw [hwL]; exact allocOld (allocNew _ _ (by simp)) _
  have ks : wL.heap[w2.heap.size + 2]? = some (.cells #[.string S] 9 (0, 0)) := by rw [hwL]; exact allocNew _ _ (by simp)
  have hbL := (HK2.out.below hbL2).bel
  have km := Below.kept hbL2 HK2.out.mbox
  have kr := Below.kept hbL2 HR2.out
  have hwB : w.heap.size + 2 ≤ w2.heap.size := (Array.getElem?_eq_some_iff.1 HR2.out).1
  rw [← hwL]
  clear hwL hbL2 HK2 HR2 hnf
  simp only [Nat.add_assoc, Nat.reduceAdd]
  generalize w2.heap.size = B at *
  refine wp_tells rfl (enters_of Tryz.func47 (by kernel_rfl) rfl) (lines_tells S (by have := HSZ.out; omega) (B + 2) w.heap.size (fun _ => False) wL ks) (by omega) (fun _ => rfl)
    (EachI w g N a n c B) (fun _ _ _ => False) (by rw [hsL]; exact eachI8_own w g N a n c B hwB) (fun c => by rintro pre W W' row h; exact h.elim)
    ⟨⟨hbL, by omega⟩, km, kr, kn⟩
    (fun pre x a' W => pre ++ [x] <+: linesT S ∧ a' = { tmps := #[.agg #[.int .u32 g, .int .u32 N, .slice a n c], .pointer (some ⟨w.heap.size, 0, none⟩), .pointer (some ⟨w.heap.size + 1, 0, none⟩), .string S, .pointer (some ⟨B, 0, none⟩), .pointer (some ⟨B + 1, 0, none⟩), .func (.func 47) #[] #[.pointer (some ⟨B + 2, 0, none⟩)], .int .i64 x.1, .string x.2, undef, undef, undef, undef, undef, undef, undef, undef, undef, undef, .tuple #[.string S, .agg #[.int .i64 0, .int .i64 0]], .agg #[.int .u32 g, .int .u32 N, .slice a n c], .agg #[.int .u32 g, .int .u32 N, .slice (some ⟨p1, 0, none⟩) n n], .tuple #[.string S, .agg #[.int .i64 0, .int .i64 0]], .string S, .agg #[.int .i64 0, .int .i64 0], .pointer (some ⟨B, 0, none⟩), .int .i64 0, .bool false, undef, undef, undef, undef, undef, .string S, .func (.func 47) #[] #[.pointer (some ⟨B + 2, 0, none⟩)], .func (.func 47) #[] #[.pointer (some ⟨B + 2, 0, none⟩)], .bool false, .func (.func 47) #[] #[.pointer (some ⟨B + 2, 0, none⟩)], .int .i64 x.1, .string x.2, undef, undef, undef, undef, undef, undef, undef, undef, undef, undef, undef, undef, undef, undef, undef, undef, undef, undef, undef, undef, undef, undef, undef, undef, undef, undef, undef, undef, undef, undef, undef, undef, undef, undef, undef, undef, undef, undef, undef, undef, undef, undef, undef, undef, undef, undef, undef, undef, undef, undef, undef, undef, undef, undef, undef, undef, undef, undef, undef, undef, undef, undef, undef, undef, undef, undef, undef, undef, undef, undef, undef, undef, undef, undef, undef, undef, undef, undef, undef, undef, undef, undef, undef, undef, undef, undef, undef, undef, undef, undef, undef, undef, undef, undef, undef, undef, undef, undef, undef, undef, undef, undef, undef, undef, undef, undef, undef, undef, undef, undef, undef, undef, undef, undef, undef, undef, undef, undef], defers := [] })
    ?hAx ?assign ?body ?done ?stop
  case hAx =>
    rintro pre x a' s W W' row h hg hr
    exact h
  case assign =>
    rintro l pre x W K hI hV hK
    simp only [lineV]
    gi_wp2
    exact hK _ _ (KeepsFrom.refl _ _) (Kept.refl _ _ _) hI ⟨hV, rfl⟩
  case body =>
    rintro lp pre x a' W hl' ⟨rr, hrr⟩ ⟨⟨h1, hlt⟩, h2, h3, h4⟩ ⟨hV, rfl⟩
    rw [HLN.out] at hV
    have hxx := each_line hV
    have HGO : Hid (∀ W', Below W.heap.size (W.setCell ⟨B + 1, 0, none⟩ (.int .i64 ((pre.length : Int) + 1))) W' → KeepsFrom wL.heap.size W W' ∧ Kept w.heap.size (fun _ => False) W W' ∧ EachI w g N a n c B (pre ++ [x]) W') := fun W' hb => by
      have hs : (W.setCell ⟨B + 1, 0, none⟩ (.int .i64 ((pre.length : Int) + 1))).heap.size = W.heap.size := by simp [World.setCell]
      have hb' : Below (W.setCell ⟨B + 1, 0, none⟩ (.int .i64 ((pre.length : Int) + 1))).heap.size (W.setCell ⟨B + 1, 0, none⟩ (.int .i64 ((pre.length : Int) + 1))) W' := by rw [hs]; exact hb
      refine ⟨((KeepsOthers.setCell _ _ _).from _).trans (KeepsFrom.of_below hb'), ⟨((Below.refl _ W).setCell (by simp; omega) _).trans (hb.mono (by omega)), fun _ _ _ _ h _ => h.elim⟩, ⟨(h1.setCell (by simp; omega) _).trans (hb.mono h1.size), Nat.le_trans hlt (by rw [← hs]; exact hb'.size)⟩, Below.kept hb' (setFar h2 (by omega) _ _), Below.kept hb' (setFar h3 (by omega) _ _), ?_⟩
      rw [List.length_append, List.length_singleton]
      exact Below.kept hb' (oneSet h4 _)
    obtain ⟨c4, f4⟩ := oneCell h4
    have hln : B + 1 < W.heap.size := by omega
    have HW := hide (And.intro h1 (And.intro h2 h3))
    have HNN := hide (show n ≤ 1048576 by have := (shape_few HSH.out).1; rw [HL.out] at this; exact this)
    clear h1 h2 h3 h4 hV hrr ks kn km kr hbL
    rcases hxx with ⟨hp0, rfl⟩ | ⟨j, hpj, hj, rfl⟩
    · have hp0' : ((pre.length : Nat) : Int) = 0 := by omega
      rw [hp0'] at c4
      rw [hp0'] at HGO
      have HGO' := HGO
      clear hp0' hp0 HGO
      obtain ⟨h1, h2, h3⟩ := HW.out
      have hs1 : (W.setCell ⟨B + 1, 0, none⟩ (.int .i64 1)).heap.size = W.heap.size := by simp [World.setCell]
      have m2 := (one_block h2).1 2
      have m0 := (one_block h2).1 0
      have m1 := (one_block h2).1 1
      have hne : ¬ w.heap.size = B + 1 := by omega
      have hTk := headTokens g N (W.setCell ⟨B + 1, 0, none⟩ (.int .i64 1)) HG.out.2 HN.out (headL_len HG.out.2 HN.out)
      have HQ2 := hide (setFar h2 (by omega : w.heap.size ≠ B + 1) 0 (.int .i64 1))
      have HB1 := hide (h1.setCell (p := ⟨B + 1, 0, none⟩) (by simp; omega) (.int .i64 1))
      have HS1 := hide hs1
      have hn1 : IntKind.i64.wrap ((n : Int) + 1) = (n : Int) + 1 := by have := HNN.out; rw [IntKind.wrap_i64]; omega
      have hd1 : decide ((n : Int) + 1 < 1) = false := by simp; omega
      generalize strOfNums (headL g (N : Int)) = HD at *
      clear h1 h2 h3 hs1 HW hlt hl' hwB hsL
      gi_wp2_with fail
      refine ⟨trivial, rfl, (CallsIn.inRound lp (callsIn_wide.2 hTk)).mono ?_⟩
      rintro e w5 ⟨p, o, cc, rfl, x0, x1, x2, hp, hb5⟩
      have hal := below_one8 w5 (.cells #[.int .i64 0, .int .i64 0] 28)
      have hb6 := hb5.trans (hal.mono hb5.size)
      have hq6 := Below.kept hb6 HQ2.out
      have e0 : (w5.alloc (.cells #[.int .i64 0, .int .i64 0] 28)).heap[p]? = w5.heap[p]? := Below.heap_alloc _ _ _ hp
      have y0 : (w5.alloc (.cells #[.int .i64 0, .int .i64 0] 28)).cell? ⟨p, o + 1, none⟩ = some (.string modS) := by rw [← x0]; simp only [World.cell?]; rw [e0]
      have y1 : (w5.alloc (.cells #[.int .i64 0, .int .i64 0] 28)).cell? ⟨p, o + 4, none⟩ = some (.string (dgS g)) := by rw [← x1]; simp only [World.cell?]; rw [e0]
      have y2 : (w5.alloc (.cells #[.int .i64 0, .int .i64 0] 28)).cell? ⟨p, o + 7, none⟩ = some (.string (dgS (N : Int))) := by rw [← x2]; simp only [World.cell?]; rw [e0]
      have u0 := (cell_of_two (alloc_new w5 #[.int .i64 0, .int .i64 0] 28)).1
      have q0 := (one_block hq6).1 0
      have q1 := (one_block hq6).1 1
      have hNg := fun wx => headNumber g wx HG.out.1 HG.out.2
      have hNb := fun wx => headNumber (N : Int) wx (by omega) HN.out
      have HB6 : Hid (Below W.heap.size (W.setCell ⟨B + 1, 0, none⟩ (.int .i64 1)) (w5.alloc (.cells #[.int .i64 0, .int .i64 0] 28))) := hide (by have := hb6; rw [HS1.out] at this; exact this)
      unfold modS at y0
      generalize dgS g = DG at *
      generalize dgS (N : Int) = DN at *
      clear m0 m1 m2 x0 x1 x2 hb5 hal hb6 hq6 e0 hTk HQ2 HB1 c4 f4 hln hne
      gi_wp2_with fail
      refine ⟨trivial, rfl, (CallsIn.inRound lp (callsIn_wide.2 (hNg _))).mono ?_⟩
      rintro e w6 ⟨rfl, rfl⟩
      gi_wp2_with fail
      refine ⟨trivial, rfl, (CallsIn.inRound lp (callsIn_wide.2 (hNb _))).mono ?_⟩
      rintro e w7 ⟨rfl, rfl⟩
      gi_wp2_with fail
      exact HGO'.out _ HB6.out
    · obtain ⟨kI, hkI⟩ : ∃ kI : Int, kI = ((j + 2 : Nat) : Int) := ⟨_, rfl⟩
      have hpk : ((pre.length : Nat) : Int) + 1 = kI := by omega
      rw [hpk] at HGO
      obtain ⟨h1, h2, h3⟩ := HW.out
      have hjn : j < n := by rw [← HL.out]; exact hj
      have hnn := HNN.out
      have hs1 : (W.setCell ⟨B + 1, 0, none⟩ (.int .i64 kI)).heap.size = W.heap.size := by simp [World.setCell]
      have m2 := (one_block h2).1 2
      have hne : ¬ w.heap.size = B + 1 := by omega
      have HQ2 := hide (setFar h2 (by omega : w.heap.size ≠ B + 1) 0 (.int .i64 kI))
      have HB1 := hide (h1.setCell (p := ⟨B + 1, 0, none⟩) (by simp; omega) (.int .i64 kI))
      have HS1 := hide hs1
      have hn1 : IntKind.i64.wrap ((n : Int) + 1) = (n : Int) + 1 := by rw [IntKind.wrap_i64]; omega
      have hj1 : IntKind.i64.wrap (((pre.length : Nat) : Int) + 1) = kI := by rw [IntKind.wrap_i64]; omega
      have hj2 : IntKind.i64.wrap (kI - 2) = (j : Int) := by rw [IntKind.wrap_i64]; omega
      have hc2 : decide ((n : Int) + 1 < kI) = false := by simp; omega
      have hc3 : (kI == 1) = false := by simp; omega
      have HJN := hide hjn
      have HK := hide (And.intro hkI hpk)
      simp only
      rw [← hkI]
      generalize ((pre.length : Nat) : Int) = pI at *
      clear h1 h2 h3 hs1 HW hlt hl' hwB hsL hj hjn hkI hpk hpj hnn
      generalize hLS : strOfNums (prI (nthI l j)) = LS at *
      have HLS := hide hLS
      clear hLS
      gi_wp2_with fail
      obtain ⟨h1, h2⟩ := And.intro HB1.out HQ2.out
      generalize W.setCell ⟨B + 1, 0, none⟩ (.int .i64 kI) = W1 at *
      have hC0 : Below W1.heap.size W1 W1.drew := below_drewP W1
      have L2 : Hid (∀ w', Below W1.heap.size W1 w' → w'.cell? ⟨w.heap.size, 2, none⟩ = some (.slice a n c)) := fun w' hC => (one_block (Below.kept hC h2)).1 2
      have L1 : Hid (∀ w', Below W1.heap.size W1 w' → w'.cell? ⟨w.heap.size, 1, none⟩ = some (.int .u32 (N : Int))) := fun w' hC => (one_block (Below.kept hC h2)).1 1
      have hvw := HVV.out.below h1
      obtain ⟨bb, oo, aj, cj, nj, rfl, hbs, i0, i1, i2, i3, hlj, haj, hcj⟩ := hvw j (by rw [HL.out]; exact HJN.out)
      have LI : Hid (∀ w', Below W1.heap.size W1 w' → w'.cell? ⟨bb, oo + j * 4, none⟩ = some (.int .u16 (nthI l j).1) ∧ w'.cell? ⟨bb, oo + j * 4 + 1, none⟩ = some (.int .u32 (nthI l j).2.1) ∧ w'.cell? ⟨bb, oo + j * 4 + 2, none⟩ = some (.int .u32 (nthI l j).2.2.1) ∧ w'.cell? ⟨bb, oo + j * 4 + 3, none⟩ = some (.slice aj nj cj) ∧ ArgsV w' aj (nthI l j).2.2.2) := fun w' hC =>
        ⟨(hC.cell (p := ⟨bb, oo + j * 4, none⟩) hbs).trans i0, (hC.cell (p := ⟨bb, oo + j * 4 + 1, none⟩) hbs).trans i1, (hC.cell (p := ⟨bb, oo + j * 4 + 2, none⟩) hbs).trans i2, (hC.cell (p := ⟨bb, oo + j * 4 + 3, none⟩) hbs).trans i3, haj.below hC⟩
      have hji : (j : Int) < (n : Int) := by have := HJN.out; omega
      have hokj := HOK.out j (by rw [HL.out]; exact HJN.out)
      have hr0 := shape_each HSH.out j (by rw [HL.out]; exact HJN.out)
      have hr1 := (raw_more (m := 4294967295) hr0 (by have := HN.out; omega)).1
      have hnj : 24 * nj ≤ 140737488351232 := by rw [← hlj]; exact hokj.2.2.2.2.2.2.2
      have LC := hide fun wx (hC : Below W1.heap.size W1 wx) => copyInst_any (nthI l j) aj nj cj wx (LI.out wx hC).2.2.2.2 hlj hnj
      have LL : Hid (∀ wx q, ArgsV wx (some ⟨q, 0, none⟩) (nthI l j).2.2.2 → Below W1.heap.size W1 wx → Calls Tryz.prog 13 #[instV (nthI l j) (some ⟨q, 0, none⟩) nj nj, .int .u32 (N : Int)] wx fun e w' => e = .returned (.tuple #[.string LS, .int .i64 0]) ∧ Below wx.heap.size wx w') := fun wx q hq hC => by
        have hh := printLine_any (nthI l j) (N : Int) (some ⟨q, 0, none⟩) nj nj wx hq hokj hlj (HPW.out.below (growP HB1.out hC))
        rw [show linP (nthI l j) (N : Int) = LS by unfold linP; rw [if_pos hr0]; exact HLS.out, hr0] at hh
        exact hh
      have LM : Hid (∀ wx q, ArgsV wx (some ⟨q, 0, none⟩) (nthI l j).2.2.2 → Below W1.heap.size W1 wx → Calls Tryz.prog 13 #[instV (nthI l j) (some ⟨q, 0, none⟩) nj nj, .int .u32 4294967295] wx fun e w' => e = .returned (.tuple #[.string LS, .int .i64 0]) ∧ Below wx.heap.size wx w') := fun wx q hq hC => by
        have hh := printLine_any (nthI l j) 4294967295 (some ⟨q, 0, none⟩) nj nj wx hq hokj hlj (HPW.out.below (growP HB1.out hC))
        rw [show linP (nthI l j) 4294967295 = LS by unfold linP; rw [if_pos hr1]; exact HLS.out, hr1] at hh
        exact hh
      unfold instV at LC LL LM
      clear i0 i1 i2 i3 haj hokj hr0 hr1 hnj hlj hvw hcj hbs
      refine wpIn_normal (wpIn_region_any hmix (wpAnyC_sound (C := Below W1.heap.size W1) _ _ _ _ ?_))
      change wpAnyC _ _ _ _ _ _ _ _ _ _ (World.drew _)
      refine wpAnyC_takeD (i := 0) (some 110) (v := .pointer (some ⟨w.heap.size, 2, none⟩)) (fun _ => trivial) (by kernel_rfl) rfl rfl (by kernel_rfl) (by kernel_rfl) (by kernel_rfl) (fun _ _ _ h => by cases h.1) hC0 (Or.inl ⟨by kernel_rfl, fun w' hC => by clear hC; go_simp⟩) ?_
      simp only [Act.put, List.setIfInBounds_toArray, List.set_cons_succ, List.set_cons_zero]
      refine wpAnyC_takeD (i := 1) (some 111) (v := .slice (some ⟨bb, oo, none⟩) n c) (fun _ => trivial) (by kernel_rfl) rfl rfl (by kernel_rfl) (by kernel_rfl) (by kernel_rfl) (fun _ _ _ h => by cases h.1) hC0 (Or.inl ⟨by kernel_rfl, fun w' hC => by have q := L2.out w' hC; clear hC; go_simp⟩) ?_
      simp only [Act.put, List.setIfInBounds_toArray, List.set_cons_succ, List.set_cons_zero]
      refine wpAnyC_takeD (i := 2) (some 112) (v := .int .i64 kI) (fun _ => trivial) (by kernel_rfl) rfl rfl (by kernel_rfl) (by kernel_rfl) (by kernel_rfl) (fun _ _ _ h => by cases h.1) hC0 (Or.inl ⟨by kernel_rfl, fun w' hC => by clear hC; go_simp⟩) ?_
      simp only [Act.put, List.setIfInBounds_toArray, List.set_cons_succ, List.set_cons_zero]
      refine wpAnyC_takeD (i := 3) (some 113) (v := .int .i64 (j : Int)) (fun _ => trivial) (by kernel_rfl) rfl rfl (by kernel_rfl) (by kernel_rfl) (by kernel_rfl) (fun _ _ _ h => by cases h.1) hC0 (Or.inl ⟨by kernel_rfl, fun w' hC => by clear hC; go_simp⟩) ?_
      simp only [Act.put, List.setIfInBounds_toArray, List.set_cons_succ, List.set_cons_zero]
      refine wpAnyC_takeD (i := 4) (some 114) (v := .pointer (some ⟨bb, oo + j * 4, none⟩)) (fun _ => trivial) (by kernel_rfl) rfl rfl (by kernel_rfl) (by kernel_rfl) (by kernel_rfl) (fun _ _ _ h => by cases h.1) hC0 (Or.inl ⟨by kernel_rfl, fun w' hC => by clear hC; go_simp⟩) ?_
      simp only [Act.put, List.setIfInBounds_toArray, List.set_cons_succ, List.set_cons_zero]
      refine wpAnyC_takeD (i := 5) (some 115) (v := .agg #[.int .u16 (nthI l j).1, .int .u32 (nthI l j).2.1, .int .u32 (nthI l j).2.2.1, .slice aj nj cj]) (fun _ => trivial) (by kernel_rfl) rfl rfl (by kernel_rfl) (by kernel_rfl) (by kernel_rfl) (fun _ _ _ h => by cases h.1) hC0 (Or.inl ⟨by kernel_rfl, fun w' hC => by obtain ⟨q0, q1, q2, q3, _⟩ := LI.out w' hC; clear hC; go_simp⟩) ?_
      simp only [Act.put, List.setIfInBounds_toArray, List.set_cons_succ, List.set_cons_zero]
      refine wpAnyC_takeD (i := 7) (some 117) (v := .pointer (some ⟨w.heap.size, 1, none⟩)) (fun _ => trivial) (by kernel_rfl) rfl rfl (by kernel_rfl) (by kernel_rfl) (by kernel_rfl) (fun _ _ _ h => by cases h.1) hC0 (Or.inl ⟨by kernel_rfl, fun w' hC => by clear hC; go_simp⟩) ?_
      simp only [Act.put, List.setIfInBounds_toArray, List.set_cons_succ, List.set_cons_zero]
      refine wpAnyC_takeD (i := 8) (some 118) (v := .int .u32 (N : Int)) (fun _ => trivial) (by kernel_rfl) rfl rfl (by kernel_rfl) (by kernel_rfl) (by kernel_rfl) (fun _ _ _ h => by cases h.1) hC0 (Or.inl ⟨by kernel_rfl, fun w' hC => by have q := L1.out w' hC; clear hC; go_simp⟩) ?_
      simp only [Act.put, List.setIfInBounds_toArray, List.set_cons_succ, List.set_cons_zero]
      refine wpAnyC_ready (rs := [6]) (by kernel_rfl) (by simp) ?_
      refine AllC.cons rfl (fun K hK => ?_) AllC.nil
      go_simp
      refine ⟨trivial, rfl, (CallsIn.inRound lp (callsIn_wide.2 (LC.out _ hC0))).mono ?_⟩
      rintro e w5 ⟨g5, rfl, _, hv5, hb5⟩
      dsimp only
      have hC5 : Below W1.heap.size W1 w5 := growP hC0 hb5
      have hLn5 := LL.out w5 g5 hv5 hC5
      refine hK _ _ hC5 ?_
      clear hK K
      try simp only [Act.put, List.setIfInBounds_toArray, List.set_cons_succ, List.set_cons_zero]
      refine wpAnyC_ready (rs := [9]) (by kernel_rfl) (by simp) ?_
      refine AllC.cons rfl (fun K hK => ?_) AllC.nil
      go_simp
      refine ⟨trivial, rfl, (CallsIn.inRound lp (callsIn_wide.2 hLn5)).mono ?_⟩
      rintro e w6 ⟨rfl, hb6⟩
      dsimp only
      have hC6 : Below W1.heap.size W1 w6 := growP hC5 hb6
      refine hK _ _ hC6 ?_
      clear hK K
      try simp only [Act.put, List.setIfInBounds_toArray, List.set_cons_succ, List.set_cons_zero]
      refine wpAnyC_takeD (i := 10) (some 109) (v := .tuple #[.string LS, .int .i64 0]) (fun _ => trivial) (by kernel_rfl) rfl rfl (by kernel_rfl) (by kernel_rfl) (by kernel_rfl) (fun _ _ _ h => by cases h.1) hC6 (Or.inl ⟨by kernel_rfl, fun w' hC => by clear hC; go_simp⟩) ?_
      simp only [Act.put, List.setIfInBounds_toArray, List.set_cons_succ, List.set_cons_zero]
      refine wpAnyC_takeD (i := 11) (some 120) (v := .string LS) (fun _ => trivial) (by kernel_rfl) rfl rfl (by kernel_rfl) (by kernel_rfl) (by kernel_rfl) (fun _ _ _ h => by cases h.1) hC6 (Or.inl ⟨by kernel_rfl, fun w' hC => by clear hC; go_simp⟩) ?_
      simp only [Act.put, List.setIfInBounds_toArray, List.set_cons_succ, List.set_cons_zero]
      refine wpAnyC_takeD (i := 12) (some 121) (v := .int .i64 0) (fun _ => trivial) (by kernel_rfl) rfl rfl (by kernel_rfl) (by kernel_rfl) (by kernel_rfl) (fun _ _ _ h => by cases h.1) hC6 (Or.inl ⟨by kernel_rfl, fun w' hC => by clear hC; go_simp⟩) ?_
      simp only [Act.put, List.setIfInBounds_toArray, List.set_cons_succ, List.set_cons_zero]
      refine wpAnyC_takeD (i := 13) (some 15) (v := .string LS) (fun _ => trivial) (by kernel_rfl) rfl rfl (by kernel_rfl) (by kernel_rfl) (by kernel_rfl) (fun _ _ _ h => by cases h.1) hC6 (Or.inl ⟨by kernel_rfl, fun w' hC => by clear hC; go_simp⟩) ?_
      simp only [Act.put, List.setIfInBounds_toArray, List.set_cons_succ, List.set_cons_zero]
      refine wpAnyC_takeD (i := 14) (some 16) (v := .int .i64 0) (fun _ => trivial) (by kernel_rfl) rfl rfl (by kernel_rfl) (by kernel_rfl) (by kernel_rfl) (fun _ _ _ h => by cases h.1) hC6 (Or.inl ⟨by kernel_rfl, fun w' hC => by clear hC; go_simp⟩) ?_
      simp only [Act.put, List.setIfInBounds_toArray, List.set_cons_succ, List.set_cons_zero]
      refine wpAnyC_done (by kernel_rfl) ?_ _
      refine ⟨rfl, ?_⟩
      have z2 := L2.out _ hC6
      obtain ⟨z3, z4, z5, z6, _⟩ := LI.out _ hC6
      have hcp := LC.out _ hC6
      clear hC0 hC5 hLn5 hb5 hb6 hv5
      gi_wp2_with fail
      refine ⟨trivial, rfl, (CallsIn.inRound lp (callsIn_wide.2 hcp)).mono ?_⟩
      rintro e w7 ⟨g7, rfl, _, hv7, hb7⟩
      have hC7 := growP hC6 hb7
      have hLn7 := LM.out w7 g7 hv7 hC7
      clear z2 z3 z4 z5 z6 hcp hv7 hb7
      gi_wp2_with fail
      refine ⟨trivial, rfl, (CallsIn.inRound lp (callsIn_wide.2 hLn7)).mono ?_⟩
      rintro e w8 ⟨rfl, hb8⟩
      have HC8 := hide (growP hC7 hb8)
      clear hb8 hLn7 hC6 hC7
      gi_wp2_with fail
      have := HC8.out
      rw [HS1.out] at this
      exact HGO.out _ this
  case done =>
    rintro D xs W hD rfl ⟨⟨h1, hlt⟩, h2, h3, h4⟩ hK
    have hKl : D < W.heap.size := (Array.getElem?_eq_some_iff.1 hK).1
    have hxl : (((linesT S).length : Nat) : Int) = (n : Int) + 1 := by rw [HLN.out, numbered_len]; simp [HL.out]
    rw [hxl] at h4
    have HFIN : Hid (∀ w3 : World, Below W.heap.size W w3 → Below w.heap.size w ((w3.setCell ⟨w.heap.size + 1, 0, none⟩ (.bool true)).putObj D (.deferred none)) ∧ (w3.setCell ⟨w.heap.size + 1, 0, none⟩ (.bool true)).heap[D]? = some (.deferred (some [])) ∧ ((w3.setCell ⟨w.heap.size + 1, 0, none⟩ (.bool true)).putObj D (.deferred none)).cell? ⟨w.heap.size + 1, 0, none⟩ = some (.bool true) ∧ w3.cell? ⟨w.heap.size + 1, 0, none⟩ = some (.bool false) ∧ w3.frozen? ⟨w.heap.size + 1, 0, none⟩ = false ∧ w.heap.size + 1 < w3.heap.size) := by
      intro w3 hb3
      have e0 := (hb3.block (w.heap.size + 1) (by omega)).trans h3
      have eD := (hb3.block D hKl).trans hK
      have hne : D ≠ w.heap.size + 1 := fun e => by rw [e, h3] at hK; cases hK
      have eK : (w3.setCell ⟨w.heap.size + 1, 0, none⟩ (.bool true)).heap[D]? = some (.deferred (some [])) := setFar eD hne _ _
      have y0 : (w3.setCell ⟨w.heap.size + 1, 0, none⟩ (.bool true)).heap[w.heap.size + 1]? = some (.cells #[.bool true] 4 (0, 0)) := oneSet e0 _
      have hbY : Below w.heap.size w (w3.setCell ⟨w.heap.size + 1, 0, none⟩ (.bool true)) := (h1.trans (hb3.mono h1.size)).setCell (by simp) _
      have hput := grownBy_putObj' (w3.setCell ⟨w.heap.size + 1, 0, none⟩ (.bool true)) D (.deferred none)
      have hpr : ∀ r, some D = some r → (0 ≤ r ∧ ∃ o : Obj, (w3.setCell ⟨w.heap.size + 1, 0, none⟩ (.bool true)).heap[r]? = some o ∧ o.isCells = false) := fun r e => by cases e; exact ⟨Nat.zero_le _, _, eK, rfl⟩
      exact ⟨hbY.trans (belowK_b (w := w) (Nat.le_refl _) _ D _ _ (by omega) eK rfl rfl), eK, (oneCell (cellsStay y0 hput hpr)).1, (oneCell e0).1, (oneCell e0).2, Nat.lt_of_lt_of_le (by omega) hb3.size⟩
    obtain ⟨c4, _⟩ := oneCell h4
    have c2 := (one_block h2).1 2
    have hn1 : IntKind.i64.wrap ((n : Int) + 1) = (n : Int) + 1 := by
      have := (shape_few HSH.out).1
      rw [HL.out] at this
      rw [IntKind.wrap_i64]; omega
    have hAw := awake8_true W (HPW.out.below h1)
    clear h1 h2 h3 h4 ks kn km kr hbL hxl
    gi_wp2_with fail
    refine ⟨trivial, rfl, (callsIn_wide.2 hAw).mono ?_⟩
    rintro e w3 ⟨rfl, hb3⟩
    obtain ⟨g1, g2, g3, g4, g5, g6⟩ := HFIN.out w3 hb3
    have HG1 : Hid (Below w.heap.size w ((w3.setCell ⟨w.heap.size + 1, 0, none⟩ (.bool true)).putObj D (.deferred none))) := g1
    clear g1 HFIN hb3 hAw
    gi_wp2_with fail
    refine ⟨by simp, .inl ⟨_, _, rfl, run_takeDeferred g2, ?_⟩⟩
    exact ⟨.bool true, by simp [results, Tryz.results3, go_sem, g3], rfl, HG1.out⟩
  case stop =>
    rintro D c pre W hD hpre h hK
    exact h.elim

theorem printEach_true (w : World) (g b : Int) (a : Option Addr) (n c : Nat) (l : List InstT) (hl : l.length = n) (hv : InstsV w a l) (hok : InstsOk l) (hr : 40 * n ≤ 140737488351232) (hc : n ≤ c) (hgb : 0 ≤ g ∧ g < 4294967296 ∧ 0 ≤ b ∧ b < 4294967296) (ht : Pow10 w) :
    Calls Tryz.prog 3 #[.agg #[.int .u32 g, .int .u32 b, .slice a n c]] w fun e w' => e = .returned (.bool true) ∧ Below w.heap.size w w' := by
  obtain ⟨g0, g1, b0, b1⟩ := hgb
  obtain ⟨N, rfl⟩ : ∃ N : Nat, b = (N : Int) := ⟨b.toNat, by omega⟩
  by_cases h : (shapeE (N : Int) l).1 = 0
  · exact printEach_ok w g N a n c l hl hv hok hr ⟨g0, g1⟩ b1 ht h
  · exact printEach_bad w g N a n c l hl hv hok hr ⟨g0, g1⟩ b1 ht h

end Go.Proofs.YtgjedfmipllocaaGreatDoor
