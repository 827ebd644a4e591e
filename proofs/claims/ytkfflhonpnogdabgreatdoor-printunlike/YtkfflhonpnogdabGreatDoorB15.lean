/-
  Texts laid together in one: StringsClone, LexTok0, LexTok1, LexTokens, AsmRowOf, AsmBuilder, AsmAddInst, AsmLineF, AsmAdd, MathO, MathP, StringsCut, LexLines, AsmParseF, MathQ, MathWs, MathWl, MathRd, MathPt.
-/
import Derived.WalkSpells
import Derived.Shelf.LaysM
import Derived.Shelf.Strconv.Clone
import Derived.Test.YtkfflhonpnogdabGreatDoorProg
import Derived.WalkMore
import Derived.BigRegion
import Derived.Deep.RegionWith
import Derived.Test.YtkfflhonpnogdabGreatDoorB11
import Derived.Test.YtkfflhonpnogdabGreatDoorB14
import Derived.Deep.RegionLaw
import Derived.Deep.AppendLies
import Derived.Test.YtkfflhonpnogdabGreatDoorB07
import Derived.Shelf.RegionOpen
import Derived.OwnWalk
import Derived.RangeFuncNested
import Derived.RangeFuncBound
import Derived.RangeFuncCalls
import Derived.RangeFuncLeaves
import Derived.Shelf.Abstract
import Derived.WalkKit
import Derived.OwnWalkIn
import Derived.TacticsInMore
import Derived.LoopNIn
import Derived.LoopIn
import Derived.Test.YtkfflhonpnogdabGreatDoorB03
import Derived.Test.YtkfflhonpnogdabGreatDoorB05
import Derived.Test.YtkfflhonpnogdabGreatDoorB02
/-
  What strings.Clone returns: the text as it is; nothing that was there turns (the library's contract, laid at this program).
-/
namespace Go.Proofs.YtkfflhonpnogdabGreatDoor
open Go.RowKit Go.Shelf
set_option maxRecDepth 10000

def Cln.ren : Go.Shelf.Ren := ⟨fun | 316 => 56 | n => n, fun | 9 => 9 | 3 => 3 | 4 => 4 | 37 => 58 | 0 => 0 | 127 => 180 | 5 => 5 | n => n, fun | n => n⟩
theorem Cln.lays : Go.Proofs.LaysM.n316 Tryz.prog Cln.ren := {
  mixed := by kernel_rfl
  f316 := Tryz.func56.trans (congrArg some (by kernel_rfl))
  t0 := Tryz.underlying0
  a0 := Tryz.isAgg0
  z0 := Tryz.sizeOf0
  v0 := Tryz.zeroValue0
  t3 := Tryz.underlying3
  a3 := Tryz.isAgg3
  z3 := Tryz.sizeOf3
  v3 := Tryz.zeroValue3
  t4 := Tryz.underlying4
  a4 := Tryz.isAgg4
  z4 := Tryz.sizeOf4
  v4 := Tryz.zeroValue4
  t9 := Tryz.underlying9
  a9 := Tryz.isAgg9
  z9 := Tryz.sizeOf9
  v9 := Tryz.zeroValue9
  t37 := Tryz.underlying58
  a37 := Tryz.isAgg58
  z37 := Tryz.sizeOf58
  v37 := Tryz.zeroValue58
  t127 := Tryz.underlying180
  a127 := Tryz.isAgg180
  z127 := Tryz.sizeOf180
  v127 := Tryz.zeroValue180
  t5 := Tryz.underlying5
  a5 := Tryz.isAgg5
  z5 := Tryz.sizeOf5
  v5 := Tryz.zeroValue5
  i0 := by kernel_rfl
  i3 := by kernel_rfl
  i4 := by kernel_rfl
  i5 := by kernel_rfl
  i9 := by kernel_rfl
  i37 := by kernel_rfl
  i127 := by kernel_rfl }
end Go.Proofs.YtkfflhonpnogdabGreatDoor

/-
  The scanner's tokens of the layer lex: what holds at each of its labels, and the passes from a token that is taken, from a whole piece and from a run. No condition but what each names.
-/
namespace Go.Proofs.YtkfflhonpnogdabGreatDoor
open Go.RowKit
set_option maxRecDepth 100000
set_option linter.unusedVariables false
set_option linter.unusedSimpArgs false
attribute [local go_sem] jumps_normal jumps_exit jumps_ret jumps_panic jumps_goto onNormal_normal

/-- What holds of memory: the scanner, the spot, the tokens so far; no other block that was there has turned. -/
structure TokS (b : Nat) (s : ByteArray) (w : World) (p : Nat) (acc : List TokT) (v : Value) (w' : World) : Prop where
  scn : Scn b s p w'
  spot : w'.heap[w.heap.size]? = some (.cells #[.int .i64 0, .int .i64 0] 28 (0, 0))
  row : w'.ownsRow (w.heap.size + 2) 41 3 v acc.length (acc.flatMap tokC)
  grown : w.grownBy w' (some b)
  size : w.heap.size + 2 ≤ w'.heap.size
  at_le : p ≤ s.size
def BoxT (w w' : World) (x y z : Value) : Prop := w'.heap[w.heap.size + 1]? = some (.cells #[x, y, z] 41 (0, 0))

theorem setCell_high {w w1 : World} {r : Option Nat} (h : w.grownBy w1 r) {g : Nat} (hg : w.heap.size ≤ g) (i : Nat) (u : Value) : w.grownBy (w1.setCell ⟨g, i, none⟩ u) r :=
  ⟨h.os, h.tape, h.output, by simpa [World.setCell] using h.size, fun k hk hr => (Below.heap_setCell _ _ _ _ (by simp only; omega)).trans (h.block k hk hr)⟩
theorem row_block {w' : World} {B n : Nat} {v : Value} {xs : List Value} (h : w'.ownsRow B 41 3 v n xs) {k : Nat} (hk : k < B) : v.ownBlock = none ∨ v.ownBlock ≠ some k := by
  cases e : v.ownBlock with
  | none => exact .inl rfl
  | some g => exact .inr fun e' => by have := (h.lt g e).1; simp at e'; omega

/-- The scanner goes on. -/
theorem TokS.next {b : Nat} {s : ByteArray} {w w1 w2 : World} {p q : Nat} {acc : List TokT} {v : Value} (hb : b < w.heap.size) (h : TokS b s w p acc v w1) (hg : w1.grownBy w2 (some b)) (hS : Scn b s q w2) (hq : q ≤ s.size) : TokS b s w q acc v w2 :=
  ⟨hS, (hg.block _ (by have := h.size; omega) (by simp; omega)).trans h.spot, h.row.kept hg (row_block h.row (by omega)), grown_trans h.grown hg, Nat.le_trans h.size hg.size, hq⟩
theorem BoxT.next {b : Nat} {w w1 w2 : World} {x y z : Value} (hb : b < w.heap.size) (h : BoxT w w1 x y z) (hg : w1.grownBy w2 (some b)) : BoxT w w2 x y z :=
  (hg.block _ (Array.getElem?_eq_some_iff.1 h).1 (by simp; omega)).trans h
theorem TokS.below {b : Nat} {s : ByteArray} {w w1 w2 : World} {p : Nat} {acc : List TokT} {v : Value} (hb : b < w.heap.size) (h : TokS b s w p acc v w1) (hg : Below w1.heap.size w1 w2) : TokS b s w p acc v w2 := by
  have hs := h.size
  exact ⟨(hg.block _ (by omega)).trans h.scn, (hg.block _ (by omega)).trans h.spot, own_below h.row hg, grown_belowX h.grown hg (by omega), Nat.le_trans hs hg.size, h.at_le⟩
theorem BoxT.below {w w1 w2 : World} {x y z : Value} (h : BoxT w w1 x y z) (hg : Below w1.heap.size w1 w2) : BoxT w w2 x y z := (hg.block _ (Array.getElem?_eq_some_iff.1 h).1).trans h
theorem TokS.box {b : Nat} {s : ByteArray} {w w1 : World} {p : Nat} {acc : List TokT} {v : Value} (hb : b < w.heap.size) (h : TokS b s w p acc v w1) (i : Nat) (u : Value) : TokS b s w p acc v (w1.setCell ⟨w.heap.size + 1, i, none⟩ u) :=
  ⟨(Below.heap_setCell _ _ _ _ (by simp; omega)).trans h.scn, (Below.heap_setCell _ _ _ _ (by simp)).trans h.spot, ownsRow_setCell_below h.row (by simp) _, setCell_high h.grown (by omega) _ _, by simpa [World.setCell] using h.size, h.at_le⟩
theorem TokS.drew {b : Nat} {s : ByteArray} {w w1 : World} {p : Nat} {acc : List TokT} {v : Value} (h : TokS b s w p acc v w1) : TokS b s w p acc v w1.drew :=
  ⟨h.scn, h.spot, own_below h.row (Below.drew (Below.refl _ _)), grown_drew1 h.grown, h.size, h.at_le⟩
theorem BoxT.drew {w w1 : World} {x y z : Value} (h : BoxT w w1 x y z) : BoxT w w1.drew x y z := h
theorem BoxT.cells {w w1 : World} {x y z : Value} (h : BoxT w w1 x y z) : w1.cell? ⟨w.heap.size + 1, 0, none⟩ = some x ∧ w1.cell? ⟨w.heap.size + 1, 1, none⟩ = some y ∧ w1.cell? ⟨w.heap.size + 1, 2, none⟩ = some z ∧ ∀ i, w1.frozen? ⟨w.heap.size + 1, i, none⟩ = false := by
  unfold BoxT at h
  refine ⟨?_, ?_, ?_, fun i => ?_⟩ <;> simp [World.cell?, World.frozen?, h]
theorem TokS.cells {b : Nat} {s : ByteArray} {w w1 : World} {p : Nat} {acc : List TokT} {v : Value} (h : TokS b s w p acc v w1) : w1.cell? ⟨w.heap.size, 0, none⟩ = some (.int .i64 0) ∧ w1.cell? ⟨w.heap.size, 1, none⟩ = some (.int .i64 0) ∧ ∀ i, w1.frozen? ⟨w.heap.size, i, none⟩ = false := by
  have := h.spot
  refine ⟨?_, ?_, fun i => ?_⟩ <;> simp [World.cell?, World.frozen?, this]

theorem TokL.info : (Tryz.prog.info? 41).map (fun i => (i.zero, i.size, i.bytes)) = some (some (.agg #[.int .u8 0, .string ⟨#[]⟩, .int .i64 0]), 3, 32) := by kernel_rfl
end Go.Proofs.YtkfflhonpnogdabGreatDoor

/-
  The scanner's tokens of the layer lex: the pass from between two tokens. No condition but what each names.
-/
namespace Go.Proofs.YtkfflhonpnogdabGreatDoor
open Go.RowKit
set_option maxRecDepth 100000
set_option linter.unusedVariables false
set_option linter.unusedSimpArgs false
attribute [local go_sem] jumps_normal jumps_exit jumps_ret jumps_panic jumps_goto onNormal_normal

end Go.Proofs.YtkfflhonpnogdabGreatDoor

/-
  What Tokens of the layer lex returns, for every line whose tokens keep to the memory's reach: the tokens in new memory, or what is wrong and where; nothing that was there turns.
-/
namespace Go.Proofs.YtkfflhonpnogdabGreatDoor
open Go.RowKit
set_option maxRecDepth 100000
set_option linter.unusedVariables false
set_option linter.unusedSimpArgs false
attribute [local go_sem] jumps_normal jumps_exit jumps_ret jumps_panic jumps_goto onNormal_normal

end Go.Proofs.YtkfflhonpnogdabGreatDoor

/-
  What rowOf of the layer asm returns: a line's tokens as a row.
-/
namespace Go.Proofs.YtkfflhonpnogdabGreatDoor
open Go.RowKit
set_option linter.unusedVariables false
set_option linter.unusedSimpArgs false
set_option maxRecDepth 10000

end Go.Proofs.YtkfflhonpnogdabGreatDoor

/-
  What the methods headed and addHead of a builder return, of the layer asm.
-/
namespace Go.Proofs.YtkfflhonpnogdabGreatDoor
open Go.RowKit
set_option linter.unusedVariables false
set_option linter.unusedSimpArgs false
set_option maxRecDepth 10000

/-- A builder in memory. -/
def MBld (w : World) (B : Nat) (gen bnd : Int) (v : Value) (wd : Int) : Prop := w.heap[B]? = some (.cells #[.int .u32 gen, .int .u32 bnd, v, .int .i64 wd] 116 (0, 0))
theorem MBld.lt {w : World} {B : Nat} {gen bnd : Int} {v : Value} {wd : Int} (h : MBld w B gen bnd v wd) : B < w.heap.size := (Array.getElem?_eq_some_iff.1 h).1
theorem MBld.below {w w' : World} {B : Nat} {gen bnd : Int} {v : Value} {wd : Int} (h : MBld w B gen bnd v wd) (hb : Below w.heap.size w w') : MBld w' B gen bnd v wd := (hb.block _ h.lt).trans h
/-- All blocks that were there, but one and a row's, are as they were. -/
structure Two (w : World) (B : Nat) (ob : Option Nat) (w' : World) : Prop where
  os : w'.os = w.os
  tape : w'.tape = w.tape
  output : w'.output = w.output
  size : w.heap.size ≤ w'.heap.size
  block : ∀ k, k < w.heap.size → k ≠ B → some k ≠ ob → w'.heap[k]? = w.heap[k]?
theorem Two.of_below {w w' : World} {B : Nat} {ob : Option Nat} (h : Below w.heap.size w w') : Two w B ob w' := ⟨h.os, h.tape, h.output, h.size, fun k hk _ _ => h.block k hk⟩

end Go.Proofs.YtkfflhonpnogdabGreatDoor

/-
  What the method addInst of a builder returns, of the layer asm.
-/
namespace Go.Proofs.YtkfflhonpnogdabGreatDoor
open Go.RowKit
set_option linter.unusedVariables false
set_option linter.unusedSimpArgs false
set_option maxRecDepth 10000

theorem Inst7.info : (Tryz.prog.info? 49).map (fun i => (i.zero, i.size, i.bytes)) = some (some (.agg #[.int .u16 0, .int .u32 0, .int .u32 0, .slice none 0 0]), 4, 40) := by kernel_rfl

/-- The instructions so far, each with arguments of its own, from block lo on; the builder lies ahead of them. -/
structure Insts (w : World) (B lo : Nat) (v : Value) (xs : List InstT) : Prop where
  row : ∃ cs, w.ownsRow lo 49 4 v xs.length cs ∧ RowI w lo v.ownBlock xs cs
  lt : B < lo
  le : lo ≤ w.heap.size

end Go.Proofs.YtkfflhonpnogdabGreatDoor

/-
  What Line of the layer asm returns.
-/
namespace Go.Proofs.YtkfflhonpnogdabGreatDoor
open Go.RowKit
set_option linter.unusedVariables false
set_option linter.unusedSimpArgs false
set_option maxRecDepth 10000

end Go.Proofs.YtkfflhonpnogdabGreatDoor

/-
  What the method add of a builder returns, of the layer asm.
-/
namespace Go.Proofs.YtkfflhonpnogdabGreatDoor
open Go.RowKit
set_option linter.unusedVariables false
set_option linter.unusedSimpArgs false
set_option maxRecDepth 10000

/-- A module while its lines are read: its generator, its bound, its words (0: no head yet), its instructions. -/
abbrev ModT := Int × Int × Int × List InstT
/-- A line more: what is wrong, and the module. -/
def addS (st : ModT) (s : ByteArray) : Int × ModT :=
  if (toksP (strI s) 0).2.1 ≠ 0 ∨ (toksP (strI s) 0).1 = [] then ((toksP (strI s) 0).2.1, st)
  else if st.2.2.1 = 0 then
    (if (headP (toksP (strI s) 0).1 s.size).2.2.1 ≠ 0 then ((headP (toksP (strI s) 0).1 s.size).2.2.1, st) else (0, ((headP (toksP (strI s) 0).1 s.size).1, (headP (toksP (strI s) 0).1 s.size).2.1, 5, [])))
  else if (lineP (toksP (strI s) 0).1 s.size st.2.1).2.1 = false then ((lineP (toksP (strI s) 0).1 s.size st.2.1).2.2.1, st)
  else if 1048576 < st.2.2.1 + (1 + ((rawWs (lineP (toksP (strI s) 0).1 s.size st.2.1).1 st.2.1).length : Int)) then (4, st)
  else (0, (st.1, st.2.1, st.2.2.1 + (1 + ((rawWs (lineP (toksP (strI s) 0).1 s.size st.2.1).1 st.2.1).length : Int)), st.2.2.2 ++ [(lineP (toksP (strI s) 0).1 s.size st.2.1).1]))

/-- A module that is being read, in memory. -/
structure ModAt (w : World) (B lo : Nat) (v : Value) (st : ModT) : Prop where
  bld : MBld w B st.1 st.2.1 v st.2.2.1
  insts : Insts w B lo v st.2.2.2
  words : 0 ≤ st.2.2.1 ∧ st.2.2.1 ≤ 1048576 ∧ (st.2.2.2.length : Int) ≤ st.2.2.1
  ok : InstsOk st.2.2.2
theorem Insts.below {w w' : World} {B lo : Nat} {v : Value} {xs : List InstT} (h : Insts w B lo v xs) (hb : Below w.heap.size w w') : Insts w' B lo v xs := by
  obtain ⟨cs, h1, h2⟩ := h.row
  exact ⟨⟨cs, own_below h1 hb, h2.below hb⟩, h.lt, Nat.le_trans h.le hb.size⟩
theorem ModAt.below {w w' : World} {B lo : Nat} {v : Value} {st : ModT} (h : ModAt w B lo v st) (hb : Below w.heap.size w w') : ModAt w' B lo v st := ⟨h.bld.below hb, h.insts.below hb, h.words, h.ok⟩
theorem Two.mono {w w1 w2 : World} {B : Nat} {ob : Option Nat} (hb : Below w.heap.size w w1) (h : Two w1 B ob w2) : Two w B ob w2 :=
  ⟨h.os.trans hb.os, h.tape.trans hb.tape, h.output.trans hb.output, Nat.le_trans hb.size h.size, fun k hk h1 h2 => (h.block k (Nat.lt_of_lt_of_le hk hb.size) h1 h2).trans (hb.block k hk)⟩
end Go.Proofs.YtkfflhonpnogdabGreatDoor

/-
  Plain facts on what a line says: where it says no instruction, none is answered.
-/
namespace Go.Proofs.YtkfflhonpnogdabGreatDoor
open Go.RowKit
set_option linter.unusedVariables false
set_option linter.unusedSimpArgs false
set_option maxRecDepth 10000

end Go.Proofs.YtkfflhonpnogdabGreatDoor

/-
  Plain facts on what a line says: an instruction that it says can be written; what it says else is an error, unless it says nothing.
-/
namespace Go.Proofs.YtkfflhonpnogdabGreatDoor
open Go.RowKit
set_option linter.unusedVariables false
set_option linter.unusedSimpArgs false
set_option maxRecDepth 10000

end Go.Proofs.YtkfflhonpnogdabGreatDoor

/-
  What strings.Cut returns at a line's end.
-/
namespace Go.Proofs.YtkfflhonpnogdabGreatDoor
open Go.RowKit
set_option maxRecDepth 10000
set_option linter.unusedVariables false
set_option linter.unusedSimpArgs false

end Go.Proofs.YtkfflhonpnogdabGreatDoor

/-
  Lines of the layer lex, and what its iterator tells: the lines of the text, each with its number.
-/
namespace Go.Proofs.YtkfflhonpnogdabGreatDoor
open Go.RowKit Go.Shelf Go.Lib
set_option maxRecDepth 10000
attribute [local go_sem] Oper.semAt_some
set_option linter.unusedVariables false
set_option linter.unusedSimpArgs false

end Go.Proofs.YtkfflhonpnogdabGreatDoor

/-
  What Parse of the layer asm returns: its lines one by one.
-/
namespace Go.Proofs.YtkfflhonpnogdabGreatDoor
open Go.RowKit Go.Shelf
attribute [local go_sem] Oper.semAt_some
set_option linter.unusedVariables false
set_option linter.unusedSimpArgs false
set_option maxRecDepth 100000

/-- A module's lines, one behind the other: what is wrong, in which line, and the module. -/
def goL : ModT → List (Nat × ByteArray) → Int × Int × ModT
  | st, [] => (0, 0, st)
  | st, x :: r => if (addS st x.2).1 ≠ 0 then ((addS st x.2).1, (x.1 : Int), st) else goL (addS st x.2).2 r
def st0 : ModT := (0, 0, 0, [])
/-- What a text says: generator, bound, instructions, what is wrong, where. -/
def parseS (s : ByteArray) : (Int × Int × List InstT) × Int × Int :=
  if 16777216 < s.size then ((0, 0, []), 4, 0)
  else if (goL st0 (linesT s)).1 ≠ 0 then ((0, 0, []), (goL st0 (linesT s)).1, (goL st0 (linesT s)).2.1)
  else if (goL st0 (linesT s)).2.2.2.2.1 = 0 then ((0, 0, []), 72, ((linesT s).length : Int))
  else (((goL st0 (linesT s)).2.2.1, (goL st0 (linesT s)).2.2.2.1, (goL st0 (linesT s)).2.2.2.2.2), 0, 0)

end Go.Proofs.YtkfflhonpnogdabGreatDoor

/-
  Plain facts on what a text says: what is read is of good shape; a fault hangs on the lines up to it alone.
-/
namespace Go.Proofs.YtkfflhonpnogdabGreatDoor
open Go.RowKit
set_option linter.unusedVariables false
set_option linter.unusedSimpArgs false
set_option maxRecDepth 10000

/-- How many words instructions have, with one more each. -/
def wsum (b : Int) (l : List InstT) : Nat := (l.map fun x => 1 + (rawWs x b).length).sum
end Go.Proofs.YtkfflhonpnogdabGreatDoor

/-
  Lines as they are written by the document, all bytes of a text as \x and two digits: they are read as those tokens; a text of such lines. In plain mathematics.
-/
namespace Go.Proofs.YtkfflhonpnogdabGreatDoor
open Go.RowKit
set_option linter.unusedSimpArgs false
set_option maxRecDepth 10000
set_option linter.unusedVariables false

/-- A byte as \x and two digits. -/
def hx1 (c : Int) : List Int := [92, 120, hexD (c / 16), hexD (c % 16)]
def hxL (l : List Int) : List Int := l.flatMap hx1
def wtS (t : TokT) : List Int := if t.1 = 2 then 37 :: strI t.2.1 else if t.1 = 4 then 34 :: (hxL (strI t.2.1) ++ [34]) else strI t.2.1
theorem hex_digit {n : Int} (h0 : 0 ≤ n) (h1 : n < 16) : hexB (hexD n) = true ∧ dvI (hexD n) = n ∧ 48 ≤ hexD n ∧ hexD n ≤ 102 := by
  have : ∀ m : Fin 16, hexB (hexD (m.val : Int)) = true ∧ dvI (hexD (m.val : Int)) = (m.val : Int) ∧ 48 ≤ hexD (m.val : Int) ∧ hexD (m.val : Int) ≤ 102 := by decide
  obtain ⟨m, rfl⟩ := Int.eq_ofNat_of_zero_le h0
  exact this ⟨m, by omega⟩
theorem part_hx (c : Int) (rest : List Int) (h0 : 0 ≤ c) (h1 : c < 256) : nth (hx1 c ++ rest) 0 ≠ 34 ∧ partP (hx1 c ++ rest) 0 = some (c, (hx1 c).length) := by
  unfold hx1
  obtain ⟨a1, a2, _⟩ := hex_digit (n := c / 16) (by omega) (by omega)
  obtain ⟨b1, b2, _⟩ := hex_digit (n := c % 16) (by omega) (by omega)
  have e0 : nth ([92, 120, hexD (c / 16), hexD (c % 16)] ++ rest) 0 = 92 := by simp [nth]
  have e1 : nth ([92, 120, hexD (c / 16), hexD (c % 16)] ++ rest) (0 + 1) = 120 := by simp [nth]
  have e2 : nth ([92, 120, hexD (c / 16), hexD (c % 16)] ++ rest) (0 + 2) = hexD (c / 16) := by simp [nth]
  have e3 : nth ([92, 120, hexD (c / 16), hexD (c % 16)] ++ rest) (0 + 3) = hexD (c % 16) := by simp [nth]
  refine ⟨by rw [e0]; omega, ?_⟩
  unfold partP
  rw [e0, e1, e2, e3, if_pos rfl, if_neg (by omega), if_pos ⟨rfl, a1, b1⟩, a2, b2]
  congr 1
  simp only [List.length_cons, List.length_nil]
  rw [show 16 * (c / 16) + c % 16 = c by omega]
theorem quot_hx (t rest : List Int) (h : Within 256 t) : quotP (hxL t ++ 34 :: rest) 0 = some (t, (hxL t).length + 1) := by
  induction t with
  | nil => exact quotP_close (by simp [nth, hxL])
  | cons c t ih =>
    have hc := h c (by simp)
    have e : hxL (c :: t) ++ 34 :: rest = hx1 c ++ (hxL t ++ 34 :: rest) := by simp [hxL]
    obtain ⟨p1, p2⟩ := part_hx c (hxL t ++ 34 :: rest) hc.1 hc.2
    have el : (hxL (c :: t)).length = (hx1 c).length + (hxL t).length := by simp [hxL]
    rw [e, quotP_some p1 p2]
    have hs := quot_shift (hx1 c) (hxL t ++ 34 :: rest) 0
    rw [Nat.add_zero] at hs
    rw [Nat.zero_add, hs, ih (fun z hz => h z (by simp [hz])), el]
    simp; omega
theorem wtS_tok {t : TokT} (h : t.1 ≠ 4) : wtS t = tokS t.1 (strI t.2.1) := by
  unfold wtS tokS
  by_cases e : t.1 = 2
  · rw [if_pos e, if_pos e]
  · rw [if_neg e, if_neg e, if_neg h, if_neg h]
theorem tok_wt {t : TokT} {rest : List Int} (h : tokOk t.1 (strI t.2.1) = true) (hr : runB (nth rest 0) = false) :
    tokP (wtS t ++ rest) 0 = .inr (t.1, strI t.2.1, (wtS t).length) ∧ blankB (nth (wtS t ++ rest) 0) = false ∧ nth (wtS t ++ rest) 0 ≠ 59 ∧ 0 < (wtS t).length := by
  by_cases h4 : t.1 = 4
  · have ew : wtS t = 34 :: (hxL (strI t.2.1) ++ [34]) := by unfold wtS; rw [if_neg (by omega), if_pos h4]
    have es : wtS t ++ rest = [34] ++ (hxL (strI t.2.1) ++ 34 :: rest) := by rw [ew]; simp
    have el : (wtS t).length = (hxL (strI t.2.1)).length + 2 := by rw [ew]; simp
    rw [es, el]
    have h0 : nth ([34] ++ (hxL (strI t.2.1) ++ 34 :: rest)) 0 = 34 := by simp [nth]
    have hq := quot_shift [34] (hxL (strI t.2.1) ++ 34 :: rest) 0
    rw [quot_hx _ rest (strI_within _)] at hq
    simp only [List.length_singleton, Nat.add_zero, Option.map_some] at hq
    refine ⟨?_, by rw [h0]; rfl, by rw [h0]; decide, by omega⟩
    unfold tokP
    rw [h0, if_neg (by decide), if_neg (by decide), if_neg (by decide), if_pos rfl, Nat.zero_add, hq, h4]
    simp; omega
  · rw [wtS_tok h4]
    obtain ⟨h1, h2, h3⟩ := tok_read h (strI_within t.2.1) hr
    exact ⟨h1, h2, h3, tokS_pos h⟩
/-- Tokens as they are written, each with a blank ahead. -/
def wtAll (l : List TokT) : List Int := l.flatMap fun t => 32 :: wtS t
def placedW : Nat → List TokT → List TokT
  | _, [] => []
  | p, t :: r => (t.1, t.2.1, (p : Int)) :: placedW (p + (wtS t).length + 1) r
theorem placedW_move (k : Nat) (l : List TokT) : ∀ p, (placedW p l).map (moveT k) = placedW (p + k) l := by
  induction l with
  | nil => intro p; rfl
  | cons t r ih =>
    intro p
    simp only [placedW, List.map_cons, ih, moveT]
    rw [show p + (wtS t).length + 1 + k = p + k + (wtS t).length + 1 by omega]
    simp
theorem wtAll_head (r : List TokT) : runB (nth (wtAll r) 0) = false := by
  cases r with
  | nil => rfl
  | cons t r => rfl
theorem toks_wtAll (r : List TokT) (h : toksP ((wtAll r).drop 1) 0 = (placedW 0 r, 0, 0)) : toksP (wtAll r) 0 = (placedW 1 r, 0, 0) := by
  cases r with
  | nil => rfl
  | cons t r =>
    have e : wtAll (t :: r) = List.replicate 1 32 ++ (wtAll (t :: r)).drop 1 := rfl
    rw [e, toks_blanks, h]
    unfold shiftR
    rw [placedW_move]; rfl
theorem toks_wt (l : List TokT) (h : wOk l = true) : toksP ((wtAll l).drop 1) 0 = (placedW 0 l, 0, 0) := by
  induction l with
  | nil => rfl
  | cons t r ih =>
    simp only [wOk, List.all_cons, Bool.and_eq_true] at h
    have ih := toks_wtAll r (ih h.2)
    have e : (wtAll (t :: r)).drop 1 = wtS t ++ wtAll r := by simp [wtAll]
    obtain ⟨h1, h2, h3, hp⟩ := tok_wt h.1 (wtAll_head r)
    have hs := toks_shift (wtS t) (wtAll r) 0
    rw [Nat.add_zero, ih] at hs
    rw [e, toksP_tok (by rw [List.length_append]; omega) h3 h2 h1, hs, str_of_strI]
    unfold shiftR consR
    rw [placedW_move, if_pos rfl]
    simp only [placedW]
    rw [Nat.zero_add, Nat.add_comm 1]
theorem placedW_len (l : List TokT) : ∀ p, (placedW p l).length = l.length := by
  induction l with
  | nil => intro p; rfl
  | cons t r ih => intro p; simp [placedW, ih]
theorem placedW_same (l : List TokT) : ∀ p, SameT (placedW p l) l := by
  induction l with
  | nil => intro p; exact ⟨rfl, fun k hk => by simp at hk⟩
  | cons t r ih =>
    intro p
    refine ⟨placedW_len _ _, fun k hk => ?_⟩
    cases k with
    | zero => exact ⟨rfl, rfl⟩
    | succ k => exact (ih (p + (wtS t).length + 1)).2 k (by simpa using hk)
theorem argTk_ok {c b : Int} {x : ArgT} (hok : ArgOk x) (hk : kindI c ≠ 0) (h : wrongA c x b = 0) : tokOk (argTk c x).1 (strI (argTk c x).2.1) = true := by
  obtain ⟨hc, hkd⟩ := wrongA_kind h
  obtain ⟨o1, o2, o3, o4, o5⟩ := hok
  have hm := kindI_most c
  unfold argTk
  by_cases e1 : x.1 = 1
  · rw [if_pos e1]
    show tokOk 2 _ = true
    rw [strI_dgS]
    exact dgL_plain (by omega)
  · rw [if_neg e1]
    by_cases e2 : x.1 = 2
    · rw [if_pos e2]
      show tokOk 3 _ = true
      rw [strI_dgS]
      exact (dgL_num (by omega)).1
    · rw [if_neg e2]
      by_cases e3 : x.1 = 3
      · rw [if_pos e3]; rfl
      · rw [if_neg e3]
        show wordB _ = true
        have e4 : kindI c = 4 := by omega
        have hn : enumB c x.2.1 = true := by
          unfold wrongA at h
          by_cases em : mayStandB c x = false
          · rw [if_pos em] at h; cases h
          · rw [if_neg em, if_neg e3] at h
            unfold faultW at h
            rw [if_neg (by omega), if_pos e4] at h
            by_cases hb : enumB c x.2.1 = true
            · exact hb
            · rw [if_neg hb] at h; cases h
        exact (name_enum hn).2.2.1
theorem tksI_ok {x : InstT} {b : Int} (hx : InstOk x) (hr : rawE x b = 0) : wOk (tksI x) = true := by
  obtain ⟨h1, h2, h3⟩ := rawWs_ok hr
  obtain ⟨i1, i2, i3, i4, i5⟩ := faultI_zero h2
  obtain ⟨o, ho, hf, hof, _, hwd⟩ := name_op h1
  obtain ⟨x1, x2, x3, x4, x5, x6, x7, x8⟩ := hx
  have hpl : ∀ n : Int, n < 4294967296 → tokOk 2 (strI (dgS n)) = true := fun n hn => by
    show plainB _ = true
    rw [strI_dgS]; exact dgL_plain (by omega)
  have ha : wOk (argTks (lookF refT x.1).1 x.2.2.2) = true := by
    refine wOk_all fun k hk => ?_
    rw [argTks_len] at hk
    rw [argTks_nth _ _ _ hk]
    have hw := wrongL_zero i3 k hk
    rw [Nat.zero_add] at hw
    rcases letter_known x.1 (k : Int) with h | h
    · exact absurd h (wrongA_kind hw).1
    · exact argTk_ok (x7 k hk) h hw
  have hp : wOk (preTk (lookF refT x.1).1 x) = true := by
    unfold preTk wOk
    have e1 := hpl x.2.2.1 x6
    have e2 := hpl x.2.1 x4
    have e3 : tokOk 5 (strI eqS) = true := by decide
    have e4 : tokOk 1 (strI (lookF refT x.1).1.1) = true := hwd
    cases (lookF refT x.1).1.2.2.1 <;> cases (lookF refT x.1).1.2.1 <;> simp [e1, e2, e3, e4]
  unfold tksI
  unfold wOk at *
  rw [List.all_append, hp, ha]; rfl
theorem tksI_ne (x : InstT) : tksI x ≠ [] := by
  intro h
  have := congrArg List.length h
  unfold tksI preTk at this
  rw [List.length_append, List.length_append, List.length_append] at this
  simp at this
/-! ### no line ends within -/

theorem word_no {l : List Int} (h : wordB l = true) : ∀ z ∈ l, 32 < z := fun z hz => by
  simp only [wordB, Bool.and_eq_true, List.all_eq_true] at h
  have := h.1.2 z hz
  simp only [runB, letterB, digitB, Bool.or_eq_true, decide_eq_true_eq, beq_iff_eq] at this
  omega
theorem plain_no {l : List Int} (h : plainB l = true) : ∀ z ∈ l, 32 < z := fun z hz => by
  obtain ⟨k, hk, rfl⟩ := List.getElem_of_mem hz
  have := (plain_all h).2 k hk
  have e : nth l k = l[k] := by simp [nth, List.getD, hk]
  rw [e] at this
  simp only [digitB, decide_eq_true_eq] at this
  omega
theorem num_no {l : List Int} (h : numB l = true) : ∀ z ∈ l, 32 < z := fun z hz => by
  obtain ⟨h0, h1, h2⟩ := num_shape h
  obtain ⟨k, hk, rfl⟩ := List.getElem_of_mem hz
  have e : nth l k = l[k] := by simp [nth, List.getD, hk]
  by_cases hk0 : k = 0
  · subst hk0
    rw [e] at h1
    rcases h1 with h1 | h1
    · simp only [digitB, decide_eq_true_eq] at h1; omega
    · omega
  · have := h2 k (by omega) hk
    rw [e] at this
    simp only [runB, letterB, digitB, Bool.or_eq_true, decide_eq_true_eq, beq_iff_eq] at this
    omega
theorem wtS_no {t : TokT} (h : tokOk t.1 (strI t.2.1) = true) : ∀ z ∈ wtS t, 32 < z := fun z hz => by
  unfold wtS at hz
  unfold tokOk at h
  by_cases e2 : t.1 = 2
  · rw [if_pos e2] at hz
    rw [if_neg (by omega), if_pos e2] at h
    rcases List.mem_cons.1 hz with rfl | hz
    · omega
    · exact plain_no h z hz
  · rw [if_neg e2] at hz
    by_cases e4 : t.1 = 4
    · rw [if_pos e4] at hz
      rcases List.mem_cons.1 hz with rfl | hz
      · omega
      · rcases List.mem_append.1 hz with hz | hz
        · obtain ⟨c, hc, hz⟩ := List.mem_flatMap.1 hz
          have hw := strI_within t.2.1 c hc
          obtain ⟨_, _, a1, a2⟩ := hex_digit (n := c / 16) (by omega) (by omega)
          obtain ⟨_, _, b1, b2⟩ := hex_digit (n := c % 16) (by omega) (by omega)
          unfold hx1 at hz
          simp only [List.mem_cons, List.not_mem_nil, or_false] at hz
          rcases hz with rfl | rfl | rfl | rfl <;> omega
        · have := List.mem_singleton.1 hz; omega
    · rw [if_neg e4] at hz
      by_cases e1 : t.1 = 1
      · rw [if_pos e1] at h; exact word_no h z hz
      · rw [if_neg e1, if_neg e2] at h
        by_cases e3 : t.1 = 3
        · rw [if_pos e3] at h; exact num_no h z hz
        · rw [if_neg e3, if_neg e4] at h
          by_cases e5 : t.1 = 5
          · rw [if_pos e5] at h
            have := of_decide_eq_true h
            rw [this] at hz
            have := List.mem_singleton.1 hz; omega
          · rw [if_neg e5] at h; cases h
end Go.Proofs.YtkfflhonpnogdabGreatDoor

/-
  Texts of lines: what is read of them. In plain mathematics.
-/
namespace Go.Proofs.YtkfflhonpnogdabGreatDoor
open Go.RowKit
set_option linter.unusedSimpArgs false
set_option maxRecDepth 10000
set_option linter.unusedVariables false

/-! ### lines -/

/-- Lines, each with its end. -/
def joinLs (l : List (List Int)) : List Int := l.flatMap fun a => a ++ [10]
def numbered : Nat → List (List Int) → List (Nat × ByteArray)
  | _, [] => []
  | n, a :: r => (n, strOfNums a) :: numbered (n + 1) r
def LineOk (a : List Int) : Prop := Within 256 a ∧ ∀ z ∈ a, z ≠ 10
theorem joinLs_within {l : List (List Int)} (h : ∀ a ∈ l, LineOk a) : Within 256 (joinLs l) := fun z hz => by
  obtain ⟨a, ha, hz⟩ := List.mem_flatMap.1 hz
  rcases List.mem_append.1 hz with hz | hz
  · exact (h a ha).1 z hz
  · have := List.mem_singleton.1 hz; omega
theorem line_cut {a b : List Int} (ha : LineOk a) (hb : Within 256 b) : cutAX (strOfNums (a ++ 10 :: b)) = strOfNums a ∧ cutZ (strOfNums (a ++ 10 :: b)) = strOfNums b ∧ (strOfNums (a ++ 10 :: b)).size ≠ 0 := by
  have hw : Within 256 (a ++ 10 :: b) := within_appX ha.1 (within_cons (by omega) (by omega) hb)
  have hs := strI_of hw
  have hn : nlAt (strOfNums (a ++ 10 :: b)) = a.length := by
    refine nl_some ?_ fun k hk => ?_
    · rw [← strI_ten, hs]; simp
    · rw [Ne, ← strI_ten, hs, List.getElem?_append_left hk]
      intro e
      exact ha.2 10 (List.mem_of_getElem? e) rfl
  have hz : (strOfNums (a ++ 10 :: b)).size = a.length + 1 + b.length := by rw [← strI_len, hs]; simp; omega
  obtain ⟨c1, c2⟩ := cut_some hn
  refine ⟨?_, ?_, by omega⟩
  · rw [c1]; apply strI_inj
    rw [strI_extract, hs, strI_of ha.1]; simp
  · rw [c2]; apply strI_inj
    rw [strI_extract, hs, strI_of hb, hz]
    rw [List.take_of_length_le (by simp; omega), List.drop_append, List.drop_eq_nil_of_le (by omega)]
    simp
theorem lines_of : ∀ (l : List (List Int)) (n f : Nat), (∀ a ∈ l, LineOk a) → (strOfNums (joinLs l)).size ≤ f → linesF f n (strOfNums (joinLs l)) = numbered n l
  | [], n, f, _, _ => linesF_empty _ _ _ rfl
  | a :: r, n, f, h, hf => by
    have hr : ∀ b ∈ r, LineOk b := fun b hb => h b (by simp [hb])
    have e : joinLs (a :: r) = a ++ 10 :: joinLs r := by simp [joinLs]
    obtain ⟨c1, c2, c3⟩ := line_cut (h a (by simp)) (joinLs_within hr)
    rw [e] at hf ⊢
    obtain ⟨f', e1, e2⟩ := linesF_step f n _ c3 hf
    rw [e1, c1, c2, numbered, lines_of r (n + 1) f' hr (by rw [← c2]; exact e2)]
theorem lines_text {l : List (List Int)} (h : ∀ a ∈ l, LineOk a) : linesT (strOfNums (joinLs l)) = numbered 1 l := lines_of l 1 _ h (Nat.le_refl _)
/-! ### what a line adds -/

/-- The state behind some instructions. -/
def stAfter (st : ModT) (l : List InstT) : ModT := (st.1, st.2.1, st.2.2.1 + ((wsum st.2.1 l : Nat) : Int), st.2.2.2 ++ l)
theorem stAfter_cons (st : ModT) (x : InstT) (l : List InstT) : stAfter (st.1, st.2.1, st.2.2.1 + (1 + ((rawWs x st.2.1).length : Int)), st.2.2.2 ++ [x]) l = stAfter st (x :: l) := by
  unfold stAfter wsum
  simp only [List.map_cons, List.sum_cons, List.append_assoc, List.singleton_append]
  congr 3
  push_cast
  omega
/-! ### a module's shape -/

theorem shapeF_sum {b : Int} : ∀ (l : List InstT) (k c : Nat), (shapeF b k c l).1 = 0 → c ≤ 1048576 → c + wsum b l ≤ 1048576 ∧ ∀ x ∈ l, rawE x b = 0
  | [], _, c, _, hc => ⟨by simpa [wsum] using hc, fun x hx => by cases hx⟩
  | x :: l, k, c, h, hc => by
    rw [shapeF] at h
    by_cases h1 : rawE x b = 0
    · rw [if_neg (by rw [h1]; simp)] at h
      by_cases h2 : 1048576 < c + 1 + (rawWs x b).length
      · rw [if_pos h2] at h; cases h
      · rw [if_neg h2] at h
        obtain ⟨s1, s2⟩ := shapeF_sum l _ _ h (by omega)
        refine ⟨by simp only [wsum, List.map_cons, List.sum_cons] at s1 ⊢; omega, fun y hy => ?_⟩
        rcases List.mem_cons.1 hy with rfl | hy
        · exact h1
        · exact s2 y hy
    · rw [if_pos h1] at h; exact absurd h h1
theorem shape_sum {b : Int} {l : List InstT} (h : (shapeE b l).1 = 0) : 5 + wsum b l ≤ 1048576 ∧ ∀ x ∈ l, rawE x b = 0 := by
  unfold shapeE at h
  split at h
  · cases h
  · exact shapeF_sum l 0 5 h (by omega)
theorem oks_mem {l : List InstT} (h : InstsOk l) : ∀ x ∈ l, InstOk x := fun x hx => by
  obtain ⟨k, hk, rfl⟩ := List.getElem_of_mem hx
  have := h k hk
  rwa [nthI_lt _ _ hk] at this

/-! ### sizes -/

theorem wordsL_ge : ∀ (l : List ArgT), l.length ≤ (wordsL l).length ∧ ∀ a ∈ l, (wordsA a).length ≤ (wordsL l).length
  | [] => ⟨by simp, fun a ha => by cases ha⟩
  | x :: l => by
    obtain ⟨h1, h2⟩ := wordsL_ge l
    have e : (wordsL (x :: l)).length = (wordsA x).length + (wordsL l).length := by simp [wordsL]
    have hx : 1 ≤ (wordsA x).length := by rw [wordsA_len]; split <;> omega
    refine ⟨by rw [e, List.length_cons]; omega, fun a ha => ?_⟩
    rcases List.mem_cons.1 ha with rfl | ha
    · omega
    · have := h2 a ha; omega
theorem tksI_size {x : InstT} {b : Int} (hx : InstOk x) (hr : rawE x b = 0) : ∀ t ∈ tksI x, t.2.1.size ≤ 300000 := by
  obtain ⟨h1, h2, h3⟩ := rawWs_ok hr
  obtain ⟨i1, i2, i3, i4, i5⟩ := faultI_zero h2
  obtain ⟨o, ho, hf, hof, hnz, hwd⟩ := name_op h1
  obtain ⟨x1, x2, x3, x4, x5, x6, x7, x8⟩ := hx
  intro t ht
  unfold tksI at ht
  rcases List.mem_append.1 ht with ht | ht
  · have d1 := dgS_size x6
    have d2 := dgS_size x4
    have d3 : eqS.size = 1 := rfl
    unfold preTk at ht
    cases e1 : (lookF refT x.1).1.2.2.1 <;> cases e2 : (lookF refT x.1).1.2.1 <;> simp [e1, e2] at ht
    · subst ht; simp only; omega
    · rcases ht with rfl | rfl <;> simp only <;> omega
    · rcases ht with rfl | rfl | rfl <;> simp only <;> omega
    · rcases ht with rfl | rfl | rfl | rfl <;> simp only <;> omega
  · unfold argTks at ht
    obtain ⟨k, hk, rfl⟩ := List.mem_map.1 ht
    have hk := List.mem_range.1 hk
    have hok := x7 k hk
    have hm : nthA x.2.2.2 k ∈ x.2.2.2 := by rw [nthA_lt _ _ hk]; exact List.getElem_mem hk
    have hw := (wordsL_ge x.2.2.2).2 _ hm
    have hrl : (wordsL x.2.2.2).length ≤ (rawL (lookF refT x.1).1 x).length := by unfold rawL; rw [List.length_append]; omega
    have hd := dgS_size hok.2.2.2.1
    have hwr := wrongL_zero i3 k hk
    rw [Nat.zero_add] at hwr
    rw [wordsA_len] at hw
    unfold argTk
    by_cases e1 : (nthA x.2.2.2 k).1 = 1
    · rw [if_pos e1]; simp only; omega
    · rw [if_neg e1]
      by_cases e2 : (nthA x.2.2.2 k).1 = 2
      · rw [if_pos e2]; simp only; omega
      · rw [if_neg e2]
        by_cases e3 : (nthA x.2.2.2 k).1 = 3
        · rw [if_pos e3]; simp only
          rw [if_pos e3] at hw; omega
        · rw [if_neg e3]; simp only
          have : (enumS (letterI (lookF refT x.1).1 (k : Int)) (nthA x.2.2.2 k).2.1).size ≤ 1000 := by
            by_cases h : enumB (letterI (lookF refT x.1).1 (k : Int)) (nthA x.2.2.2 k).2.1 = true
            · exact (name_enum h).2.2.2
            · unfold enumB at h
              unfold enumS
              cases e : namesT.find? (isNum (letterI (lookF refT x.1).1 (k : Int)) (nthA x.2.2.2 k).2.1) with
              | none => decide
              | some x => rw [e] at h; simp at h
          omega
end Go.Proofs.YtkfflhonpnogdabGreatDoor

/-
  A module's text with notes and blanks between its lines: it is read as that module. In plain mathematics.
-/
namespace Go.Proofs.YtkfflhonpnogdabGreatDoor
open Go.RowKit
set_option linter.unusedSimpArgs false
set_option maxRecDepth 10000
set_option linter.unusedVariables false

/-! ### lines with a last one that has no end -/

/-! ### notes -/

/-! ### the head -/

def modS : ByteArray := ⟨#[109, 111, 100, 117, 108, 101]⟩
def headTk (g b : Int) : List TokT := [(1, modS, 0), (3, dgS g, 0), (3, dgS b, 0)]
def headL (g b : Int) : List Int := (wtAll (headTk g b)).drop 1
theorem headTk_ok {g b : Int} (g1 : g < 4294967296) (b1 : b < 4294967296) : wOk (headTk g b) = true := by
  have e1 : tokOk 3 (strI (dgS g)) = true := by show numB _ = true; rw [strI_dgS]; exact (dgL_num (by omega)).1
  have e2 : tokOk 3 (strI (dgS b)) = true := by show numB _ = true; rw [strI_dgS]; exact (dgL_num (by omega)).1
  have e3 : tokOk 1 (strI modS) = true := by decide
  simp [wOk, headTk, e1, e2, e3]
theorem headL_ok {g b : Int} (g1 : g < 4294967296) (b1 : b < 4294967296) : LineOk (headL g b) := by
  have hok := headTk_ok (g := g) (b := b) g1 b1
  simp only [wOk, List.all_eq_true] at hok
  have hno : ∀ z ∈ headL g b, 32 ≤ z := fun z hz => by
    obtain ⟨t, ht, hz⟩ := List.mem_flatMap.1 (List.mem_of_mem_drop hz)
    rcases List.mem_cons.1 hz with rfl | hz
    · omega
    · have := wtS_no (hok t ht) z hz; omega
  refine ⟨within_dropX ?_ 1, fun z hz e => by have := hno z hz; omega⟩
  intro z hz
  obtain ⟨t, ht, hz⟩ := List.mem_flatMap.1 hz
  rcases List.mem_cons.1 hz with rfl | hz
  · omega
  · simp only [headTk, List.mem_cons, List.not_mem_nil, or_false] at ht
    rcases ht with rfl | rfl | rfl <;> exact strI_within _ z (by simpa [wtS] using hz)
theorem head_read {g b : Int} (g0 : 0 ≤ g) (g1 : g < 4294967296) (b0 : 1 ≤ b) (b1 : b ≤ 65536) : addS st0 (strOfNums (headL g b)) = (0, (g, b, 5, [])) := by
  have ht := toks_wt (headTk g b) (headTk_ok g1 (by omega))
  have hsm := placedW_same (headTk g b) 0
  have hl : (placedW 0 (headTk g b)).length = 3 := by rw [placedW_len]; rfl
  obtain ⟨a1, a2⟩ := hsm.2 0 (by simp [headTk])
  obtain ⟨c1, c2⟩ := hsm.2 1 (by simp [headTk])
  obtain ⟨d1, d2⟩ := hsm.2 2 (by simp [headTk])
  have e0 : nthT (headTk g b) 0 = (1, modS, 0) := rfl
  have e1 : nthT (headTk g b) 1 = (3, dgS g, 0) := rfl
  have e2 : nthT (headTk g b) 2 = (3, dgS b, 0) := rfl
  rw [e0] at a1 a2; rw [e1] at c1 c2; rw [e2] at d1 d2
  simp only at a1 a2 c1 c2 d1 d2
  obtain ⟨n1, n2⟩ := num_back g0 g1
  obtain ⟨n3, n4⟩ := num_back (n := b) (by omega) (by omega)
  have p1 : numP (nthT (placedW 0 (headTk g b)) 1) = 0 := by rw [numP_num c1, c2]; exact n1
  have p2 : numP (nthT (placedW 0 (headTk g b)) 2) = 0 := by rw [numP_num d1, d2]; exact n3
  have hh : ∀ len, headP (placedW 0 (headTk g b)) len = (g, b, 0, 0) := fun len => by
    unfold headP
    rw [if_neg (by rw [hl]; simp), if_neg (by simp only [a1, a2]; simp [modS, moduleS]), if_neg (by omega), if_neg (by rw [p1]; simp), if_neg (by omega), if_neg (by rw [p2]; simp), c2, d2, n2, n4, if_neg (by omega), if_neg (by omega)]
  unfold addS
  rw [strI_of (headL_ok g1 (by omega)).1]
  have hX : toksP (headL g b) 0 = (placedW 0 (headTk g b), 0, 0) := ht
  rw [hX]
  simp only
  rw [if_neg (by intro h; rcases h with h | h; exact h rfl; rw [h] at hl; cases hl), if_pos (show st0.2.2.1 = 0 from rfl), hh]
  simp

/-! ### the whole -/

end Go.Proofs.YtkfflhonpnogdabGreatDoor

/-
  Lines as the program prints them: they are read as they were; a module's printed text, its size. In plain mathematics.
-/
namespace Go.Proofs.YtkfflhonpnogdabGreatDoor
open Go.RowKit
set_option linter.unusedSimpArgs false
set_option maxRecDepth 10000
set_option linter.unusedVariables false

/-- An instruction's printed line. -/
def prI (x : InstT) : List Int := (wAll (tksI x)).drop 1
theorem placed_same (l : List TokT) : SameT (placed 0 l) l := ⟨placed_len l 0, fun k hk => alike_placed hk⟩
theorem prI_read {x : InstT} {b : Int} (hx : InstOk x) (hr : rawE x b = 0) : ∃ ps, toksP (prI x) 0 = (ps, 0, 0) ∧ ps ≠ [] ∧ ps.length = (tksI x).length ∧ ∀ len, lineP ps len b = (x, true, 0, 0) := by
  refine ⟨placed 0 (tksI x), toks_written _ (tksI_ok hx hr), fun e => ?_, placed_len _ _, fun len => line_back hx hr (placed_same _)⟩
  have := congrArg List.length e
  rw [placed_len] at this
  exact tksI_ne x (List.length_eq_zero_iff.1 this)
theorem prI_within (x : InstT) : Within 256 (prI x) := within_dropX (wAll_within _) 1
theorem tokS_no {t : TokT} (h : tokOk t.1 (strI t.2.1) = true) : ∀ z ∈ tokS t.1 (strI t.2.1), 32 ≤ z := fun z hz => by
  by_cases e4 : t.1 = 4
  · rw [e4] at hz
    exact (quote_print _ (strI_within _) z (by simpa [tokS] using hz)).1
  · rw [← wtS_tok e4] at hz
    have := wtS_no h z hz; omega
theorem prI_ok {x : InstT} {b : Int} (hx : InstOk x) (hr : rawE x b = 0) : LineOk (prI x) := by
  refine ⟨prI_within x, fun z hz e => ?_⟩
  obtain ⟨t, ht, hz⟩ := List.mem_flatMap.1 (List.mem_of_mem_drop hz)
  have hok := tksI_ok hx hr
  simp only [wOk, List.all_eq_true] at hok
  rcases List.mem_cons.1 hz with rfl | hz
  · omega
  · have := tokS_no (hok t ht) z hz; omega
theorem add_pr {st : ModT} {x : InstT} (hx : InstOk x) (hr : rawE x st.2.1 = 0) (h0 : st.2.2.1 ≠ 0) (hw : st.2.2.1 + (1 + ((rawWs x st.2.1).length : Int)) ≤ 1048576) :
    addS st (strOfNums (prI x)) = (0, (st.1, st.2.1, st.2.2.1 + (1 + ((rawWs x st.2.1).length : Int)), st.2.2.2 ++ [x])) := by
  obtain ⟨ps, h1, h2, _, h3⟩ := prI_read hx hr
  unfold addS
  rw [strI_of (prI_within x), h1]
  simp only
  rw [if_neg (by simp [h2]), if_neg h0, h3]
  simp only
  rw [if_neg (by simp), if_neg (by omega)]
theorem go_pr : ∀ (l : List InstT) (st : ModT) (n : Nat), (∀ x ∈ l, InstOk x ∧ rawE x st.2.1 = 0) → 0 < st.2.2.1 → st.2.2.1 + ((wsum st.2.1 l : Nat) : Int) ≤ 1048576 → goL st (numbered n (l.map fun x => prI x)) = (0, 0, stAfter st l)
  | [], st, n, _, _, _ => by
    have : stAfter st [] = st := by simp [stAfter, wsum]
    rw [this]; rfl
  | x :: l, st, n, h, h0, hw => by
    have hx := h x (by simp)
    have es : wsum st.2.1 (x :: l) = (1 + (rawWs x st.2.1).length) + wsum st.2.1 l := by simp [wsum]
    rw [es] at hw
    have ha := add_pr hx.1 hx.2 (by omega) (by push_cast at hw; omega)
    rw [List.map_cons, numbered, goL, ha, if_neg (by simp)]
    have ih := go_pr l (st.1, st.2.1, st.2.2.1 + (1 + ((rawWs x st.2.1).length : Int)), st.2.2.2 ++ [x]) (n + 1) (fun y hy => h y (by simp [hy])) (by show (0 : Int) < st.2.2.1 + _; omega) (by show st.2.2.1 + (1 + ((rawWs x st.2.1).length : Int)) + ((wsum st.2.1 l : Nat) : Int) ≤ _; push_cast at hw; omega)
    rw [stAfter_cons] at ih
    exact ih
/-- A module's printed text. -/
def textP (g b : Int) (l : List InstT) : List Int := joinLs (headL g b :: l.map fun x => prI x)
theorem textP_ok {g : Int} {N : Nat} {l : List InstT} (g1 : g < 4294967296) (hok : InstsOk l) (hs : (shapeE (N : Int) l).1 = 0) : ∀ a ∈ headL g (N : Int) :: l.map (fun x => prI x), LineOk a := fun a ha => by
  have hsb := shape_bound hs
  rcases List.mem_cons.1 ha with rfl | ha
  · exact headL_ok g1 (by omega)
  · obtain ⟨x, hx, rfl⟩ := List.mem_map.1 ha
    exact prI_ok (oks_mem hok x hx) ((shape_sum hs).2 x hx)

theorem print_parse {g : Int} {N : Nat} {l : List InstT} (g0 : 0 ≤ g) (g1 : g < 4294967296) (hok : InstsOk l) (hs : (shapeE (N : Int) l).1 = 0) (hz : (strOfNums (textP g (N : Int) l)).size ≤ 16777216) :
    parseS (strOfNums (textP g (N : Int) l)) = ((g, (N : Int), l), 0, 0) := by
  obtain ⟨h5, hraw⟩ := shape_sum hs
  have hsb := shape_bound hs
  have hix := oks_mem hok
  have hxx : ∀ x ∈ l, InstOk x ∧ rawE x (N : Int) = 0 := fun x hx => ⟨hix x hx, hraw x hx⟩
  have hgo : goL st0 (linesT (strOfNums (textP g (N : Int) l))) = (0, 0, (g, (N : Int), 5 + ((wsum (N : Int) l : Nat) : Int), l)) := by
    unfold textP
    rw [lines_text (textP_ok g1 hok hs), numbered, goL, head_read g0 g1 (by omega) (by omega), if_neg (by simp)]
    show goL ((g, (N : Int), 5, []) : ModT) _ = _
    rw [go_pr l ((g, (N : Int), 5, []) : ModT) (1 + 1) hxx (by show (0 : Int) < 5; omega) (by show (5 : Int) + ((wsum (N : Int) l : Nat) : Int) ≤ 1048576; omega)]
    rfl
  unfold parseS
  rw [if_neg (by omega), hgo, if_neg (by simp), if_neg (by simp only; omega)]
/-- Unlike modules have unlike texts. -/
theorem print_unlike {g g' : Int} {N N' : Nat} {l l' : List InstT} (g0 : 0 ≤ g) (g1 : g < 4294967296) (g0' : 0 ≤ g') (g1' : g' < 4294967296) (hok : InstsOk l) (hok' : InstsOk l') (hs : (shapeE (N : Int) l).1 = 0) (hs' : (shapeE (N' : Int) l').1 = 0) (hz : (strOfNums (textP g (N : Int) l)).size ≤ 16777216)
    (e : strOfNums (textP g (N : Int) l) = strOfNums (textP g' (N' : Int) l')) : g = g' ∧ (N : Int) = (N' : Int) ∧ l = l' := by
  have h1 := print_parse g0 g1 hok hs hz
  rw [e] at h1 hz
  have h2 := print_parse g0' g1' hok' hs' hz
  rw [h1] at h2
  simp only [Prod.mk.injEq] at h2
  exact ⟨h2.1.1, h2.1.2.1, h2.1.2.2⟩

end Go.Proofs.YtkfflhonpnogdabGreatDoor
