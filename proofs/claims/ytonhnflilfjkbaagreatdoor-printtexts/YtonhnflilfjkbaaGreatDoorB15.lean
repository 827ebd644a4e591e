/-
  Texts laid together in one: AsmRead0, AsmRead1, AsmRead2, AsmRead, AsmNumber, AsmHead, LexStep, LexQuoted, StringsClone, LexTok0, LexTok1, LexTokens, AsmRowOf, AsmBuilder, AsmAddInst, AsmLineF, AsmAdd, MathO, MathP, StringsCut, LexLines, AsmParseF, MathQ, MathWs, MathWl, MathRd, MathPt, MathPz, PrintLine, PrintString.
-/
import Derived.WalkSpells
import Derived.WalkMore
import Derived.BigRegion
import Derived.Deep.RegionWith
import Derived.Test.YtonhnflilfjkbaaGreatDoorProg
import Derived.Test.YtonhnflilfjkbaaGreatDoorB14
import Derived.Test.YtonhnflilfjkbaaGreatDoorB12
import Derived.Deep.RegionLaw
import Derived.Deep.AppendLies
import Derived.Test.YtonhnflilfjkbaaGreatDoorB05
import Derived.OwnWalk
import Derived.Test.YtonhnflilfjkbaaGreatDoorB11
import Derived.Test.YtonhnflilfjkbaaGreatDoorB13
import Derived.Shelf.LaysM
import Derived.Shelf.Strconv.Clone
import Derived.Test.YtonhnflilfjkbaaGreatDoorB08
import Derived.Shelf.RegionOpen
import Derived.RangeFuncNested
import Derived.RangeFuncBound
import Derived.RangeFuncCalls
import Derived.RangeFuncLeaves
import Derived.Shelf.Abstract
import Derived.WalkKit
import Derived.OwnWalkIn
import Derived.TacticsInMore
import Derived.LoopNIn
import Derived.LoopIn
import Derived.Test.YtonhnflilfjkbaaGreatDoorB03
import Derived.Test.YtonhnflilfjkbaaGreatDoorB06
import Derived.Test.YtonhnflilfjkbaaGreatDoorB02
import Derived.Lib.BufferKept
import Derived.Shelf.Strings.BuilderK
import Derived.Lib.UnsafeStr
/-
  A reader's whole line, of the layer asm: what holds at each of its labels; the pass from its end.
-/
namespace Go.Proofs.YtonhnflilfjkbaaGreatDoor
open Go.RowKit
set_option linter.unusedVariables false
set_option linter.unusedSimpArgs false
set_option maxRecDepth 10000
attribute [local go_sem] jumps_normal jumps_exit jumps_ret jumps_panic jumps_goto onNormal_normal

/-- The three boxes of read, and what else has turned. -/
structure ReaS (w : World) (B : Nat) (w' : World) : Prop where
  res : w'.heap[w.heap.size]? = some (.cells #[.int .i64 0, .int .i64 0] 28 (0, 0))
  box : ∃ x0 x1 x2, w'.heap[w.heap.size + 1]? = some (.cells #[x0, x1, x2] 61 (0, 0))
  spot : ∃ y0 y1, w'.heap[w.heap.size + 2]? = some (.cells #[y0, y1] 28 (0, 0))
  grown : w.grownBy w' (some B)
theorem ReaS.size {w w' : World} {B : Nat} (h : ReaS w B w') : w.heap.size + 2 < w'.heap.size := by
  obtain ⟨_, _, h⟩ := h.spot
  exact (Array.getElem?_eq_some_iff.1 h).1
theorem grown_trans7 {w w1 w2 : World} {r : Option Nat} (h : w.grownBy w1 r) (k : w1.grownBy w2 r) : w.grownBy w2 r := ⟨k.os.trans h.os, k.tape.trans h.tape, k.output.trans h.output, Nat.le_trans h.size k.size, fun i hi hr => (k.block i (Nat.lt_of_lt_of_le hi h.size) hr).trans (h.block i hi hr)⟩
theorem ReaS.next {w w1 w2 : World} {B : Nat} (hB : B < w.heap.size) (h : ReaS w B w1) (hg : w1.grownBy w2 (some B)) : ReaS w B w2 := by
  have hs := h.size
  obtain ⟨x0, x1, x2, hx⟩ := h.box
  obtain ⟨y0, y1, hy⟩ := h.spot
  exact ⟨(hg.block _ (by omega) (by simp; omega)).trans h.res, ⟨x0, x1, x2, (hg.block _ (by omega) (by simp; omega)).trans hx⟩, ⟨y0, y1, (hg.block _ (by omega) (by simp; omega)).trans hy⟩, grown_trans7 h.grown hg⟩
theorem ReaS.below {w w1 w2 : World} {B : Nat} (hB : B < w.heap.size) (h : ReaS w B w1) (hb : Below w1.heap.size w1 w2) : ReaS w B w2 := h.next hB (grown_below2 hb _)
end Go.Proofs.YtonhnflilfjkbaaGreatDoor

/-
  A reader's whole line, of the layer asm: the pass from its next argument.
-/
namespace Go.Proofs.YtonhnflilfjkbaaGreatDoor
open Go.RowKit
set_option linter.unusedVariables false
set_option linter.unusedSimpArgs false
set_option maxRecDepth 10000
attribute [local go_sem] jumps_normal jumps_exit jumps_ret jumps_panic jumps_goto onNormal_normal

theorem ArgI.info : (Tryz.prog.info? 61).map (fun i => (i.zero, i.size, i.bytes)) = some (some (.agg #[.int .u8 0, .int .u32 0, .string ⟨#[]⟩]), 3, 24) := by kernel_rfl

end Go.Proofs.YtonhnflilfjkbaaGreatDoor

/-
  A reader's whole line, of the layer asm: the passes from its operation and from its arguments on.
-/
namespace Go.Proofs.YtonhnflilfjkbaaGreatDoor
open Go.RowKit
set_option linter.unusedVariables false
set_option linter.unusedSimpArgs false
set_option maxRecDepth 10000
attribute [local go_sem] jumps_normal jumps_exit jumps_ret jumps_panic jumps_goto onNormal_normal

end Go.Proofs.YtonhnflilfjkbaaGreatDoor

/-
  What the method read of a reader returns, of the layer asm.
-/
namespace Go.Proofs.YtonhnflilfjkbaaGreatDoor
open Go.RowKit
set_option linter.unusedVariables false
set_option linter.unusedSimpArgs false
set_option maxRecDepth 10000
attribute [local go_sem] jumps_normal jumps_exit jumps_ret jumps_panic jumps_goto onNormal_normal

end Go.Proofs.YtonhnflilfjkbaaGreatDoor

/-
  What the method number of a row of tokens returns, of the layer asm.
-/
namespace Go.Proofs.YtonhnflilfjkbaaGreatDoor
open Go.RowKit
set_option linter.unusedVariables false
set_option linter.unusedSimpArgs false
set_option maxRecDepth 10000

end Go.Proofs.YtonhnflilfjkbaaGreatDoor

/-
  What the method head of a row of tokens returns, of the layer asm.
-/
namespace Go.Proofs.YtonhnflilfjkbaaGreatDoor
open Go.RowKit
set_option linter.unusedVariables false
set_option linter.unusedSimpArgs false
set_option maxRecDepth 10000

/-- What holds while a head is taken. -/
structure HeadS (w : World) (B : Nat) (a : Option Addr) (n c : Nat) (len : Int) (rest : Array Value) (T : Nat) (l : List TokT) (k : Nat) (W : World) : Prop where
  row : RowAt W B a n c k len rest T
  toks : ToksV W a l
  grown : w.grownBy W (some B)
  head : W.heap[w.heap.size]? = some (.cells #[.int .u32 0, .int .u32 0] 106 (0, 0))
  spot : W.heap[w.heap.size + 1]? = some (.cells #[.int .i64 0, .int .i64 0] 28 (0, 0))
  lt : B < w.heap.size
  far : ∀ b off, a = some ⟨b, off, none⟩ → b ≠ B ∧ b < w.heap.size

section
variable {w : World} {B : Nat} {a : Option Addr} {n c k k' : Nat} {len : Int} {rest : Array Value} {T : Nat} {l : List TokT} {W W' : World}
theorem HeadS.size (h : HeadS w B a n c len rest T l k W) : w.heap.size + 1 < W.heap.size := (Array.getElem?_eq_some_iff.1 h.spot).1
theorem HeadS.below (h : HeadS w B a n c len rest T l k W) (hb : Below W.heap.size W W') : HeadS w B a n c len rest T l k W' :=
  ⟨h.row.below hb, h.toks.below hb, ⟨hb.os.trans h.grown.os, hb.tape.trans h.grown.tape, hb.output.trans h.grown.output, Nat.le_trans h.grown.size hb.size, fun j hj hr => (hb.block j (Nat.lt_of_lt_of_le hj h.grown.size)).trans (h.grown.block j hj hr)⟩, (hb.block _ (Array.getElem?_eq_some_iff.1 h.head).1).trans h.head, (hb.block _ h.size).trans h.spot, h.lt, h.far⟩
/-- Blocks behind the two turn, and the row's own. -/
theorem HeadS.next (h : HeadS w B a n c len rest T l k W) (hs : W.heap.size ≤ W'.heap.size) (hk : ∀ j, j < w.heap.size + 2 → j ≠ B → W'.heap[j]? = W.heap[j]?) (hos : W'.os = W.os) (htp : W'.tape = W.tape) (hout : W'.output = W.output) (hR : RowAt W' B a n c k' len rest T) : HeadS w B a n c len rest T l k' W' := by
  have hl := h.lt
  refine ⟨hR, ?_, ⟨hos.trans h.grown.os, htp.trans h.grown.tape, hout.trans h.grown.output, Nat.le_trans h.grown.size hs, fun j hj hr => (hk j (by omega) (by simpa using hr)).trans (h.grown.block j hj hr)⟩, (hk _ (by omega) (by omega)).trans h.head, (hk _ (by omega) (by omega)).trans h.spot, h.lt, h.far⟩
  intro j hj
  obtain ⟨b, off, e, hb, h1, h2, h3⟩ := h.toks j hj
  obtain ⟨f1, f2⟩ := h.far b off e
  have hx := hk b (by omega) f1
  refine ⟨b, off, e, by omega, ?_, ?_, ?_⟩
  · simp only [World.cell?, hx] at h1 ⊢; exact h1
  · simp only [World.cell?, hx] at h2 ⊢; exact h2
  · simp only [World.cell?, hx] at h3 ⊢; exact h3
theorem HeadS.grow (h : HeadS w B a n c len rest T l k W) (hg : W.grownBy W' (some B)) (hR : RowAt W' B a n c k' len rest T) : HeadS w B a n c len rest T l k' W' :=
  h.next hg.size (fun j hj hn => hg.block j (by have := h.size; omega) (by simpa using hn)) hg.os hg.tape hg.output hR
theorem HeadS.set (h : HeadS w B a n c len rest T l k W) {g : Nat} (hg : w.heap.size + 2 ≤ g) (i : Nat) (v : Value) : HeadS w B a n c len rest T l k (W.setCell ⟨g, i, none⟩ v) := by
  have hl := h.lt
  exact h.next (by simp) (fun j hj _ => Below.heap_setCell _ _ _ _ (by simp; omega)) rfl rfl rfl ((Below.heap_setCell _ _ _ _ (by simp; omega)).trans h.row)
end

end Go.Proofs.YtonhnflilfjkbaaGreatDoor

/-
  What look and step of the scanner of the layer lex do: its block holds the line, the place, the byte that is next and its kind; no other block turns.
-/
namespace Go.Proofs.YtonhnflilfjkbaaGreatDoor
open Go.RowKit
set_option maxRecDepth 10000
set_option linter.unusedVariables false
set_option linter.unusedSimpArgs false

end Go.Proofs.YtonhnflilfjkbaaGreatDoor

/-
  What quoted of the scanner of the layer lex returns, for every line and place: the text that the quotes stand for, and the scanner behind them; or that there is none. No other block that was there turns.
-/
namespace Go.Proofs.YtonhnflilfjkbaaGreatDoor
open Go.RowKit
set_option maxRecDepth 10000
set_option linter.unusedVariables false
set_option linter.unusedSimpArgs false
attribute [local go_sem] jumps_normal jumps_exit jumps_ret jumps_panic jumps_goto

end Go.Proofs.YtonhnflilfjkbaaGreatDoor

/-
  What strings.Clone returns: the text as it is; nothing that was there turns (the library's contract, laid at this program).
-/
namespace Go.Proofs.YtonhnflilfjkbaaGreatDoor
open Go.RowKit Go.Shelf
set_option maxRecDepth 10000

end Go.Proofs.YtonhnflilfjkbaaGreatDoor

/-
  The scanner's tokens of the layer lex: what holds at each of its labels, and the passes from a token that is taken, from a whole piece and from a run. No condition but what each names.
-/
namespace Go.Proofs.YtonhnflilfjkbaaGreatDoor
open Go.RowKit
set_option maxRecDepth 100000
set_option linter.unusedVariables false
set_option linter.unusedSimpArgs false
attribute [local go_sem] jumps_normal jumps_exit jumps_ret jumps_panic jumps_goto onNormal_normal

theorem TokL.info : (Tryz.prog.info? 81).map (fun i => (i.zero, i.size, i.bytes)) = some (some (.agg #[.int .u8 0, .string ⟨#[]⟩, .int .i64 0]), 3, 32) := by kernel_rfl
end Go.Proofs.YtonhnflilfjkbaaGreatDoor

/-
  The scanner's tokens of the layer lex: the pass from between two tokens. No condition but what each names.
-/
namespace Go.Proofs.YtonhnflilfjkbaaGreatDoor
open Go.RowKit
set_option maxRecDepth 100000
set_option linter.unusedVariables false
set_option linter.unusedSimpArgs false
attribute [local go_sem] jumps_normal jumps_exit jumps_ret jumps_panic jumps_goto onNormal_normal

end Go.Proofs.YtonhnflilfjkbaaGreatDoor

/-
  What Tokens of the layer lex returns, for every line whose tokens keep to the memory's reach: the tokens in new memory, or what is wrong and where; nothing that was there turns.
-/
namespace Go.Proofs.YtonhnflilfjkbaaGreatDoor
open Go.RowKit
set_option maxRecDepth 100000
set_option linter.unusedVariables false
set_option linter.unusedSimpArgs false
attribute [local go_sem] jumps_normal jumps_exit jumps_ret jumps_panic jumps_goto onNormal_normal

end Go.Proofs.YtonhnflilfjkbaaGreatDoor

/-
  What rowOf of the layer asm returns: a line's tokens as a row.
-/
namespace Go.Proofs.YtonhnflilfjkbaaGreatDoor
open Go.RowKit
set_option linter.unusedVariables false
set_option linter.unusedSimpArgs false
set_option maxRecDepth 10000

end Go.Proofs.YtonhnflilfjkbaaGreatDoor

/-
  What the methods headed and addHead of a builder return, of the layer asm.
-/
namespace Go.Proofs.YtonhnflilfjkbaaGreatDoor
open Go.RowKit
set_option linter.unusedVariables false
set_option linter.unusedSimpArgs false
set_option maxRecDepth 10000

/-- All blocks that were there, but one and a row's, are as they were. -/
structure Two (w : World) (B : Nat) (ob : Option Nat) (w' : World) : Prop where
  os : w'.os = w.os
  tape : w'.tape = w.tape
  output : w'.output = w.output
  size : w.heap.size ≤ w'.heap.size
  block : ∀ k, k < w.heap.size → k ≠ B → some k ≠ ob → w'.heap[k]? = w.heap[k]?
theorem Two.of_below {w w' : World} {B : Nat} {ob : Option Nat} (h : Below w.heap.size w w') : Two w B ob w' := ⟨h.os, h.tape, h.output, h.size, fun k hk _ _ => h.block k hk⟩

end Go.Proofs.YtonhnflilfjkbaaGreatDoor

/-
  What the method addInst of a builder returns, of the layer asm.
-/
namespace Go.Proofs.YtonhnflilfjkbaaGreatDoor
open Go.RowKit
set_option linter.unusedVariables false
set_option linter.unusedSimpArgs false
set_option maxRecDepth 10000

theorem Inst7.info : (Tryz.prog.info? 38).map (fun i => (i.zero, i.size, i.bytes)) = some (some (.agg #[.int .u16 0, .int .u32 0, .int .u32 0, .slice none 0 0]), 4, 40) := by kernel_rfl

end Go.Proofs.YtonhnflilfjkbaaGreatDoor

/-
  What Line of the layer asm returns.
-/
namespace Go.Proofs.YtonhnflilfjkbaaGreatDoor
open Go.RowKit
set_option linter.unusedVariables false
set_option linter.unusedSimpArgs false
set_option maxRecDepth 10000

end Go.Proofs.YtonhnflilfjkbaaGreatDoor

/-
  What the method add of a builder returns, of the layer asm.
-/
namespace Go.Proofs.YtonhnflilfjkbaaGreatDoor
open Go.RowKit
set_option linter.unusedVariables false
set_option linter.unusedSimpArgs false
set_option maxRecDepth 10000

end Go.Proofs.YtonhnflilfjkbaaGreatDoor

/-
  Plain facts on what a line says: where it says no instruction, none is answered.
-/
namespace Go.Proofs.YtonhnflilfjkbaaGreatDoor
open Go.RowKit
set_option linter.unusedVariables false
set_option linter.unusedSimpArgs false
set_option maxRecDepth 10000

end Go.Proofs.YtonhnflilfjkbaaGreatDoor

/-
  Plain facts on what a line says: an instruction that it says can be written; what it says else is an error, unless it says nothing.
-/
namespace Go.Proofs.YtonhnflilfjkbaaGreatDoor
open Go.RowKit
set_option linter.unusedVariables false
set_option linter.unusedSimpArgs false
set_option maxRecDepth 10000

end Go.Proofs.YtonhnflilfjkbaaGreatDoor

/-
  What strings.Cut returns at a line's end.
-/
namespace Go.Proofs.YtonhnflilfjkbaaGreatDoor
open Go.RowKit
set_option maxRecDepth 10000
set_option linter.unusedVariables false
set_option linter.unusedSimpArgs false

end Go.Proofs.YtonhnflilfjkbaaGreatDoor

/-
  Lines of the layer lex, and what its iterator tells: the lines of the text, each with its number.
-/
namespace Go.Proofs.YtonhnflilfjkbaaGreatDoor
open Go.RowKit Go.Shelf Go.Lib
set_option maxRecDepth 10000
attribute [local go_sem] Oper.semAt_some
set_option linter.unusedVariables false
set_option linter.unusedSimpArgs false

end Go.Proofs.YtonhnflilfjkbaaGreatDoor

/-
  What Parse of the layer asm returns: its lines one by one.
-/
namespace Go.Proofs.YtonhnflilfjkbaaGreatDoor
open Go.RowKit Go.Shelf
attribute [local go_sem] Oper.semAt_some
set_option linter.unusedVariables false
set_option linter.unusedSimpArgs false
set_option maxRecDepth 100000

end Go.Proofs.YtonhnflilfjkbaaGreatDoor

/-
  Plain facts on what a text says: what is read is of good shape; a fault hangs on the lines up to it alone.
-/
namespace Go.Proofs.YtonhnflilfjkbaaGreatDoor
open Go.RowKit
set_option linter.unusedVariables false
set_option linter.unusedSimpArgs false
set_option maxRecDepth 10000

/-- How many words instructions have, with one more each. -/
def wsum (b : Int) (l : List InstT) : Nat := (l.map fun x => 1 + (rawWs x b).length).sum
end Go.Proofs.YtonhnflilfjkbaaGreatDoor

/-
  Lines as they are written by the document, all bytes of a text as \x and two digits: they are read as those tokens; a text of such lines. In plain mathematics.
-/
namespace Go.Proofs.YtonhnflilfjkbaaGreatDoor
open Go.RowKit
set_option linter.unusedSimpArgs false
set_option maxRecDepth 10000
set_option linter.unusedVariables false

/-- A byte as \x and two digits. -/
def hx1 (c : Int) : List Int := [92, 120, hexD (c / 16), hexD (c % 16)]
def hxL (l : List Int) : List Int := l.flatMap hx1
def wtS (t : TokT) : List Int := if t.1 = 2 then 37 :: strI t.2.1 else if t.1 = 4 then 34 :: (hxL (strI t.2.1) ++ [34]) else strI t.2.1
theorem hex_digit {n : Int} (h0 : 0 ≤ n) (h1 : n < 16) : hexB (hexD n) = true ∧ dvI (hexD n) = n ∧ 48 ≤ hexD n ∧ hexD n ≤ 102 := by
  have : ∀ m : Fin 16, hexB (hexD (m.val : Int)) = true ∧ dvI (hexD (m.val : Int)) = (m.val : Int) ∧ 48 ≤ hexD (m.val : Int) ∧ hexD (m.val : Int) ≤ 102 := by decide
  obtain ⟨m, rfl⟩ := Int.eq_ofNat_of_zero_le h0
  exact this ⟨m, by omega⟩
theorem wtS_tok {t : TokT} (h : t.1 ≠ 4) : wtS t = tokS t.1 (strI t.2.1) := by
  unfold wtS tokS
  by_cases e : t.1 = 2
  · rw [if_pos e, if_pos e]
  · rw [if_neg e, if_neg e, if_neg h, if_neg h]
/-- Tokens as they are written, each with a blank ahead. -/
def wtAll (l : List TokT) : List Int := l.flatMap fun t => 32 :: wtS t
theorem argTk_ok {c b : Int} {x : ArgT} (hok : ArgOk x) (hk : kindI c ≠ 0) (h : wrongA c x b = 0) : tokOk (argTk c x).1 (strI (argTk c x).2.1) = true := by
  obtain ⟨hc, hkd⟩ := wrongA_kind h
  obtain ⟨o1, o2, o3, o4, o5⟩ := hok
  have hm := kindI_most c
  unfold argTk
  by_cases e1 : x.1 = 1
  · rw [if_pos e1]
    show tokOk 2 _ = true
    rw [strI_dgS]
    exact dgL_plain (by omega)
  · rw [if_neg e1]
    by_cases e2 : x.1 = 2
    · rw [if_pos e2]
      show tokOk 3 _ = true
      rw [strI_dgS]
      exact (dgL_num (by omega)).1
    · rw [if_neg e2]
      by_cases e3 : x.1 = 3
      · rw [if_pos e3]; rfl
      · rw [if_neg e3]
        show wordB _ = true
        have e4 : kindI c = 4 := by omega
        have hn : enumB c x.2.1 = true := by
          unfold wrongA at h
          by_cases em : mayStandB c x = false
          · rw [if_pos em] at h; cases h
          · rw [if_neg em, if_neg e3] at h
            unfold faultW at h
            rw [if_neg (by omega), if_pos e4] at h
            by_cases hb : enumB c x.2.1 = true
            · exact hb
            · rw [if_neg hb] at h; cases h
        exact (name_enum hn).2.2.1
theorem tksI_ok {x : InstT} {b : Int} (hx : InstOk x) (hr : rawE x b = 0) : wOk (tksI x) = true := by
  obtain ⟨h1, h2, h3⟩ := rawWs_ok hr
  obtain ⟨i1, i2, i3, i4, i5⟩ := faultI_zero h2
  obtain ⟨o, ho, hf, hof, _, hwd⟩ := name_op h1
  obtain ⟨x1, x2, x3, x4, x5, x6, x7, x8⟩ := hx
  have hpl : ∀ n : Int, n < 4294967296 → tokOk 2 (strI (dgS n)) = true := fun n hn => by
    show plainB _ = true
    rw [strI_dgS]; exact dgL_plain (by omega)
  have ha : wOk (argTks (lookF refT x.1).1 x.2.2.2) = true := by
    refine wOk_all fun k hk => ?_
    rw [argTks_len] at hk
    rw [argTks_nth _ _ _ hk]
    have hw := wrongL_zero i3 k hk
    rw [Nat.zero_add] at hw
    rcases letter_known x.1 (k : Int) with h | h
    · exact absurd h (wrongA_kind hw).1
    · exact argTk_ok (x7 k hk) h hw
  have hp : wOk (preTk (lookF refT x.1).1 x) = true := by
    unfold preTk wOk
    have e1 := hpl x.2.2.1 x6
    have e2 := hpl x.2.1 x4
    have e3 : tokOk 5 (strI eqS) = true := by decide
    have e4 : tokOk 1 (strI (lookF refT x.1).1.1) = true := hwd
    cases (lookF refT x.1).1.2.2.1 <;> cases (lookF refT x.1).1.2.1 <;> simp [e1, e2, e3, e4]
  unfold tksI
  unfold wOk at *
  rw [List.all_append, hp, ha]; rfl
theorem tksI_ne (x : InstT) : tksI x ≠ [] := by
  intro h
  have := congrArg List.length h
  unfold tksI preTk at this
  rw [List.length_append, List.length_append, List.length_append] at this
  simp at this
/-! ### no line ends within -/

theorem word_no {l : List Int} (h : wordB l = true) : ∀ z ∈ l, 32 < z := fun z hz => by
  simp only [wordB, Bool.and_eq_true, List.all_eq_true] at h
  have := h.1.2 z hz
  simp only [runB, letterB, digitB, Bool.or_eq_true, decide_eq_true_eq, beq_iff_eq] at this
  omega
theorem plain_no {l : List Int} (h : plainB l = true) : ∀ z ∈ l, 32 < z := fun z hz => by
  obtain ⟨k, hk, rfl⟩ := List.getElem_of_mem hz
  have := (plain_all h).2 k hk
  have e : nth l k = l[k] := by simp [nth, List.getD, hk]
  rw [e] at this
  simp only [digitB, decide_eq_true_eq] at this
  omega
theorem num_no {l : List Int} (h : numB l = true) : ∀ z ∈ l, 32 < z := fun z hz => by
  obtain ⟨h0, h1, h2⟩ := num_shape h
  obtain ⟨k, hk, rfl⟩ := List.getElem_of_mem hz
  have e : nth l k = l[k] := by simp [nth, List.getD, hk]
  by_cases hk0 : k = 0
  · subst hk0
    rw [e] at h1
    rcases h1 with h1 | h1
    · simp only [digitB, decide_eq_true_eq] at h1; omega
    · omega
  · have := h2 k (by omega) hk
    rw [e] at this
    simp only [runB, letterB, digitB, Bool.or_eq_true, decide_eq_true_eq, beq_iff_eq] at this
    omega
theorem wtS_no {t : TokT} (h : tokOk t.1 (strI t.2.1) = true) : ∀ z ∈ wtS t, 32 < z := fun z hz => by
  unfold wtS at hz
  unfold tokOk at h
  by_cases e2 : t.1 = 2
  · rw [if_pos e2] at hz
    rw [if_neg (by omega), if_pos e2] at h
    rcases List.mem_cons.1 hz with rfl | hz
    · omega
    · exact plain_no h z hz
  · rw [if_neg e2] at hz
    by_cases e4 : t.1 = 4
    · rw [if_pos e4] at hz
      rcases List.mem_cons.1 hz with rfl | hz
      · omega
      · rcases List.mem_append.1 hz with hz | hz
        · obtain ⟨c, hc, hz⟩ := List.mem_flatMap.1 hz
          have hw := strI_within t.2.1 c hc
          obtain ⟨_, _, a1, a2⟩ := hex_digit (n := c / 16) (by omega) (by omega)
          obtain ⟨_, _, b1, b2⟩ := hex_digit (n := c % 16) (by omega) (by omega)
          unfold hx1 at hz
          simp only [List.mem_cons, List.not_mem_nil, or_false] at hz
          rcases hz with rfl | rfl | rfl | rfl <;> omega
        · have := List.mem_singleton.1 hz; omega
    · rw [if_neg e4] at hz
      by_cases e1 : t.1 = 1
      · rw [if_pos e1] at h; exact word_no h z hz
      · rw [if_neg e1, if_neg e2] at h
        by_cases e3 : t.1 = 3
        · rw [if_pos e3] at h; exact num_no h z hz
        · rw [if_neg e3, if_neg e4] at h
          by_cases e5 : t.1 = 5
          · rw [if_pos e5] at h
            have := of_decide_eq_true h
            rw [this] at hz
            have := List.mem_singleton.1 hz; omega
          · rw [if_neg e5] at h; cases h
end Go.Proofs.YtonhnflilfjkbaaGreatDoor

/-
  Texts of lines: what is read of them. In plain mathematics.
-/
namespace Go.Proofs.YtonhnflilfjkbaaGreatDoor
open Go.RowKit
set_option linter.unusedSimpArgs false
set_option maxRecDepth 10000
set_option linter.unusedVariables false

/-! ### lines -/

/-- Lines, each with its end. -/
def joinLs (l : List (List Int)) : List Int := l.flatMap fun a => a ++ [10]
def LineOk (a : List Int) : Prop := Within 256 a ∧ ∀ z ∈ a, z ≠ 10
theorem joinLs_within {l : List (List Int)} (h : ∀ a ∈ l, LineOk a) : Within 256 (joinLs l) := fun z hz => by
  obtain ⟨a, ha, hz⟩ := List.mem_flatMap.1 hz
  rcases List.mem_append.1 hz with hz | hz
  · exact (h a ha).1 z hz
  · have := List.mem_singleton.1 hz; omega
/-! ### what a line adds -/

/-! ### a module's shape -/

theorem shapeF_sum {b : Int} : ∀ (l : List InstT) (k c : Nat), (shapeF b k c l).1 = 0 → c ≤ 1048576 → c + wsum b l ≤ 1048576 ∧ ∀ x ∈ l, rawE x b = 0
  | [], _, c, _, hc => ⟨by simpa [wsum] using hc, fun x hx => by cases hx⟩
  | x :: l, k, c, h, hc => by
    rw [shapeF] at h
    by_cases h1 : rawE x b = 0
    · rw [if_neg (by rw [h1]; simp)] at h
      by_cases h2 : 1048576 < c + 1 + (rawWs x b).length
      · rw [if_pos h2] at h; cases h
      · rw [if_neg h2] at h
        obtain ⟨s1, s2⟩ := shapeF_sum l _ _ h (by omega)
        refine ⟨by simp only [wsum, List.map_cons, List.sum_cons] at s1 ⊢; omega, fun y hy => ?_⟩
        rcases List.mem_cons.1 hy with rfl | hy
        · exact h1
        · exact s2 y hy
    · rw [if_pos h1] at h; exact absurd h h1
theorem shape_sum {b : Int} {l : List InstT} (h : (shapeE b l).1 = 0) : 5 + wsum b l ≤ 1048576 ∧ ∀ x ∈ l, rawE x b = 0 := by
  unfold shapeE at h
  split at h
  · cases h
  · exact shapeF_sum l 0 5 h (by omega)
theorem oks_mem {l : List InstT} (h : InstsOk l) : ∀ x ∈ l, InstOk x := fun x hx => by
  obtain ⟨k, hk, rfl⟩ := List.getElem_of_mem hx
  have := h k hk
  rwa [nthI_lt _ _ hk] at this

/-! ### sizes -/

theorem wordsL_ge : ∀ (l : List ArgT), l.length ≤ (wordsL l).length ∧ ∀ a ∈ l, (wordsA a).length ≤ (wordsL l).length
  | [] => ⟨by simp, fun a ha => by cases ha⟩
  | x :: l => by
    obtain ⟨h1, h2⟩ := wordsL_ge l
    have e : (wordsL (x :: l)).length = (wordsA x).length + (wordsL l).length := by simp [wordsL]
    have hx : 1 ≤ (wordsA x).length := by rw [wordsA_len]; split <;> omega
    refine ⟨by rw [e, List.length_cons]; omega, fun a ha => ?_⟩
    rcases List.mem_cons.1 ha with rfl | ha
    · omega
    · have := h2 a ha; omega
theorem tksI_size {x : InstT} {b : Int} (hx : InstOk x) (hr : rawE x b = 0) : ∀ t ∈ tksI x, t.2.1.size ≤ 300000 := by
  obtain ⟨h1, h2, h3⟩ := rawWs_ok hr
  obtain ⟨i1, i2, i3, i4, i5⟩ := faultI_zero h2
  obtain ⟨o, ho, hf, hof, hnz, hwd⟩ := name_op h1
  obtain ⟨x1, x2, x3, x4, x5, x6, x7, x8⟩ := hx
  intro t ht
  unfold tksI at ht
  rcases List.mem_append.1 ht with ht | ht
  · have d1 := dgS_size x6
    have d2 := dgS_size x4
    have d3 : eqS.size = 1 := rfl
    unfold preTk at ht
    cases e1 : (lookF refT x.1).1.2.2.1 <;> cases e2 : (lookF refT x.1).1.2.1 <;> simp [e1, e2] at ht
    · subst ht; simp only; omega
    · rcases ht with rfl | rfl <;> simp only <;> omega
    · rcases ht with rfl | rfl | rfl <;> simp only <;> omega
    · rcases ht with rfl | rfl | rfl | rfl <;> simp only <;> omega
  · unfold argTks at ht
    obtain ⟨k, hk, rfl⟩ := List.mem_map.1 ht
    have hk := List.mem_range.1 hk
    have hok := x7 k hk
    have hm : nthA x.2.2.2 k ∈ x.2.2.2 := by rw [nthA_lt _ _ hk]; exact List.getElem_mem hk
    have hw := (wordsL_ge x.2.2.2).2 _ hm
    have hrl : (wordsL x.2.2.2).length ≤ (rawL (lookF refT x.1).1 x).length := by unfold rawL; rw [List.length_append]; omega
    have hd := dgS_size hok.2.2.2.1
    have hwr := wrongL_zero i3 k hk
    rw [Nat.zero_add] at hwr
    rw [wordsA_len] at hw
    unfold argTk
    by_cases e1 : (nthA x.2.2.2 k).1 = 1
    · rw [if_pos e1]; simp only; omega
    · rw [if_neg e1]
      by_cases e2 : (nthA x.2.2.2 k).1 = 2
      · rw [if_pos e2]; simp only; omega
      · rw [if_neg e2]
        by_cases e3 : (nthA x.2.2.2 k).1 = 3
        · rw [if_pos e3]; simp only
          rw [if_pos e3] at hw; omega
        · rw [if_neg e3]; simp only
          have : (enumS (letterI (lookF refT x.1).1 (k : Int)) (nthA x.2.2.2 k).2.1).size ≤ 1000 := by
            by_cases h : enumB (letterI (lookF refT x.1).1 (k : Int)) (nthA x.2.2.2 k).2.1 = true
            · exact (name_enum h).2.2.2
            · unfold enumB at h
              unfold enumS
              cases e : namesT.find? (isNum (letterI (lookF refT x.1).1 (k : Int)) (nthA x.2.2.2 k).2.1) with
              | none => decide
              | some x => rw [e] at h; simp at h
          omega
end Go.Proofs.YtonhnflilfjkbaaGreatDoor

/-
  A module's text with notes and blanks between its lines: it is read as that module. In plain mathematics.
-/
namespace Go.Proofs.YtonhnflilfjkbaaGreatDoor
open Go.RowKit
set_option linter.unusedSimpArgs false
set_option maxRecDepth 10000
set_option linter.unusedVariables false

/-! ### lines with a last one that has no end -/

/-! ### notes -/

/-! ### the head -/

def modS : ByteArray := ⟨#[109, 111, 100, 117, 108, 101]⟩
def headTk (g b : Int) : List TokT := [(1, modS, 0), (3, dgS g, 0), (3, dgS b, 0)]
def headL (g b : Int) : List Int := (wtAll (headTk g b)).drop 1
theorem headTk_ok {g b : Int} (g1 : g < 4294967296) (b1 : b < 4294967296) : wOk (headTk g b) = true := by
  have e1 : tokOk 3 (strI (dgS g)) = true := by show numB _ = true; rw [strI_dgS]; exact (dgL_num (by omega)).1
  have e2 : tokOk 3 (strI (dgS b)) = true := by show numB _ = true; rw [strI_dgS]; exact (dgL_num (by omega)).1
  have e3 : tokOk 1 (strI modS) = true := by decide
  simp [wOk, headTk, e1, e2, e3]
theorem headL_ok {g b : Int} (g1 : g < 4294967296) (b1 : b < 4294967296) : LineOk (headL g b) := by
  have hok := headTk_ok (g := g) (b := b) g1 b1
  simp only [wOk, List.all_eq_true] at hok
  have hno : ∀ z ∈ headL g b, 32 ≤ z := fun z hz => by
    obtain ⟨t, ht, hz⟩ := List.mem_flatMap.1 (List.mem_of_mem_drop hz)
    rcases List.mem_cons.1 hz with rfl | hz
    · omega
    · have := wtS_no (hok t ht) z hz; omega
  refine ⟨within_dropX ?_ 1, fun z hz e => by have := hno z hz; omega⟩
  intro z hz
  obtain ⟨t, ht, hz⟩ := List.mem_flatMap.1 hz
  rcases List.mem_cons.1 hz with rfl | hz
  · omega
  · simp only [headTk, List.mem_cons, List.not_mem_nil, or_false] at ht
    rcases ht with rfl | rfl | rfl <;> exact strI_within _ z (by simpa [wtS] using hz)
/-! ### the whole -/

end Go.Proofs.YtonhnflilfjkbaaGreatDoor

/-
  Lines as the program prints them: they are read as they were; a module's printed text, its size. In plain mathematics.
-/
namespace Go.Proofs.YtonhnflilfjkbaaGreatDoor
open Go.RowKit
set_option linter.unusedSimpArgs false
set_option maxRecDepth 10000
set_option linter.unusedVariables false

/-- An instruction's printed line. -/
def prI (x : InstT) : List Int := (wAll (tksI x)).drop 1
theorem prI_within (x : InstT) : Within 256 (prI x) := within_dropX (wAll_within _) 1
theorem tokS_no {t : TokT} (h : tokOk t.1 (strI t.2.1) = true) : ∀ z ∈ tokS t.1 (strI t.2.1), 32 ≤ z := fun z hz => by
  by_cases e4 : t.1 = 4
  · rw [e4] at hz
    exact (quote_print _ (strI_within _) z (by simpa [tokS] using hz)).1
  · rw [← wtS_tok e4] at hz
    have := wtS_no h z hz; omega
theorem prI_ok {x : InstT} {b : Int} (hx : InstOk x) (hr : rawE x b = 0) : LineOk (prI x) := by
  refine ⟨prI_within x, fun z hz e => ?_⟩
  obtain ⟨t, ht, hz⟩ := List.mem_flatMap.1 (List.mem_of_mem_drop hz)
  have hok := tksI_ok hx hr
  simp only [wOk, List.all_eq_true] at hok
  rcases List.mem_cons.1 hz with rfl | hz
  · omega
  · have := tokS_no (hok t ht) z hz; omega
/-- A module's printed text. -/
def textP (g b : Int) (l : List InstT) : List Int := joinLs (headL g b :: l.map fun x => prI x)
theorem textP_ok {g : Int} {N : Nat} {l : List InstT} (g1 : g < 4294967296) (hok : InstsOk l) (hs : (shapeE (N : Int) l).1 = 0) : ∀ a ∈ headL g (N : Int) :: l.map (fun x => prI x), LineOk a := fun a ha => by
  have hsb := shape_bound hs
  rcases List.mem_cons.1 ha with rfl | ha
  · exact headL_ok g1 (by omega)
  · obtain ⟨x, hx, rfl⟩ := List.mem_map.1 ha
    exact prI_ok (oks_mem hok x hx) ((shape_sum hs).2 x hx)

end Go.Proofs.YtonhnflilfjkbaaGreatDoor

/-
  How long a module's printed text is: at most 16 bytes for each word. In plain mathematics.
-/
namespace Go.Proofs.YtonhnflilfjkbaaGreatDoor
open Go.RowKit
set_option linter.unusedSimpArgs false
set_option maxRecDepth 10000
set_option linter.unusedVariables false

/-- What an argument's token takes beyond 16 bytes for each word, by its letter. -/
def exF (c : Int) : Int := if c = 105 then -4 else if c = 110 then -5 else if c = 115 then -1 else if c = 100 then 1 else 0
def exL (s : ByteArray) : Int := (s.data.toList.map fun x => exF (x.toNat : Int)).foldr (· + ·) 0
def longRow (p : Int × Frm) : Bool := decide ((p.2.1.size : Int) + 1 - 16 + (if p.2.2.2.1 then -2 else 0) + (if p.2.2.1 then -4 else 0) + exL p.2.2.2.2.1 ≤ 0) && p.2.2.2.2.2.1.data.toList.all (fun x => decide (exF (x.toNat : Int) ≤ 0))
theorem longRows : refT.all longRow = true := by decide +kernel
def longName (x : Int × Int × ByteArray) : Bool := decide ((x.2.2.size : Int) + 1 ≤ 16 + exF x.1)
theorem longNames : namesT.all longName = true := by decide +kernel
theorem enum_len {c n : Int} (h : enumB c n = true) : ((enumS c n).size : Int) + 1 ≤ 16 + exF c := by
  unfold enumB at h
  obtain ⟨x, hx⟩ := Option.isSome_iff_exists.1 h
  have e : enumS c n = x.2.2 := by unfold enumS; rw [hx]
  have hr := List.all_eq_true.1 longNames x (List.mem_of_find?_eq_some hx)
  have hp := List.find?_some hx
  simp only [isNum, Bool.and_eq_true, beq_iff_eq] at hp
  simp only [longName, decide_eq_true_eq] at hr
  rw [e, ← hp.1]; exact hr
theorem arg_len {c b : Int} {x : ArgT} (hok : ArgOk x) (hk : kindI c ≠ 0) (h : wrongA c x b = 0) : ((tokS (argTk c x).1 (strI (argTk c x).2.1)).length : Int) + 1 ≤ 16 * ((wordsA x).length : Int) + exF c := by
  obtain ⟨hc, hkd⟩ := wrongA_kind h
  obtain ⟨o1, o2, o3, o4, o5⟩ := hok
  have hm := kindI_most c
  have hd := dgS_size o4
  have hk1 : kindI c = 1 → exF c = -4 := fun e => by
    unfold kindI at e
    by_cases e1 : c = 105
    · unfold exF; rw [if_pos e1]
    · rw [if_neg e1] at e
      repeat' (split at e)
      all_goals omega
  have hk2 : kindI c = 2 → exF c = -5 := fun e => by
    unfold kindI at e
    by_cases e1 : c = 105
    · rw [if_pos e1] at e; omega
    · rw [if_neg e1] at e
      by_cases e2 : c = 110
      · unfold exF; rw [if_neg e1, if_pos e2]
      · rw [if_neg e2] at e
        repeat' (split at e)
        all_goals omega
  have hk3 : kindI c = 3 → exF c = -1 := fun e => by
    unfold kindI at e
    by_cases e1 : c = 105
    · rw [if_pos e1] at e; omega
    · rw [if_neg e1] at e
      by_cases e2 : c = 110
      · rw [if_pos e2] at e; omega
      · rw [if_neg e2] at e
        by_cases e3 : c = 115
        · unfold exF; rw [if_neg e1, if_neg e2, if_pos e3]
        · rw [if_neg e3] at e
          repeat' (split at e)
          all_goals omega
  rw [wordsA_len]
  unfold argTk
  by_cases e1 : x.1 = 1
  · rw [if_pos e1, if_neg (by omega), hk1 (by omega)]
    show ((tokS 2 (strI (dgS x.2.1))).length : Int) + 1 ≤ _
    have : (tokS 2 (strI (dgS x.2.1))).length = (dgS x.2.1).size + 1 := by simp [tokS, strI_len]
    omega
  · rw [if_neg e1]
    by_cases e2 : x.1 = 2
    · rw [if_pos e2, if_neg (by omega), hk2 (by omega)]
      show ((tokS 3 (strI (dgS x.2.1))).length : Int) + 1 ≤ _
      have : (tokS 3 (strI (dgS x.2.1))).length = (dgS x.2.1).size := by simp [tokS, strI_len]
      omega
    · rw [if_neg e2]
      by_cases e3 : x.1 = 3
      · rw [if_pos e3, if_pos e3, hk3 (by omega)]
        show ((tokS 4 (strI x.2.2)).length : Int) + 1 ≤ _
        have h4 : (tokS 4 (strI x.2.2)).length ≤ 4 * x.2.2.size + 2 := by
          have := quoteL_len (strI x.2.2)
          rw [strI_len] at this
          simpa [tokS] using this
        omega
      · rw [if_neg e3, if_neg e3]
        show ((tokS 1 (strI (enumS c x.2.1))).length : Int) + 1 ≤ _
        have e4 : kindI c = 4 := by omega
        have hn : enumB c x.2.1 = true := by
          unfold wrongA at h
          by_cases em : mayStandB c x = false
          · rw [if_pos em] at h; cases h
          · rw [if_neg em, if_neg e3] at h
            unfold faultW at h
            rw [if_neg (by omega), if_pos e4] at h
            by_cases hb : enumB c x.2.1 = true
            · exact hb
            · rw [if_neg hb] at h; cases h
        have := enum_len hn
        have : (tokS 1 (strI (enumS c x.2.1))).length = (enumS c x.2.1).size := by simp [tokS, strI_len]
        omega
/-- The letters' excess, of the first n. -/
def exTo (f : Frm) : Nat → Int
  | 0 => 0
  | n + 1 => exTo f n + exF (letterI f (n : Int))
theorem args_len {f : Frm} {b : Int} {l : List ArgT} (hok : ArgsOk l) (h : ∀ j, j < l.length → wrongA (letterI f (j : Int)) (nthA l j) b = 0) (hkn : ∀ j, j < l.length → kindI (letterI f (j : Int)) ≠ 0) : ∀ n, n ≤ l.length → ((wAll ((argTks f l).take n)).length : Int) ≤ 16 * ((wordsL (l.take n)).length : Int) + exTo f n
  | 0, _ => by simp [wAll, wordsL, exTo]
  | n + 1, hn => by
    have ih := args_len hok h hkn n (by omega)
    have ha := arg_len (hok n (by omega)) (hkn n (by omega)) (h n (by omega))
    have e1 : (argTks f l).take (n + 1) = (argTks f l).take n ++ [argTk (letterI f n) (nthA l n)] := by
      rw [List.take_succ_eq_append_getElem (by rw [argTks_len]; omega)]
      congr 2
      rw [← argTks_nth f l n (by omega)]
      simp [nthT, List.getD, argTks_len, show n < l.length by omega]
    have e2 : l.take (n + 1) = l.take n ++ [nthA l n] := by
      rw [List.take_succ_eq_append_getElem (by omega : n < l.length), nthA_lt _ _ (by omega : n < l.length)]
    have e3 : (wAll ((argTks f l).take n ++ [argTk (letterI f n) (nthA l n)])).length = (wAll ((argTks f l).take n)).length + ((tokS (argTk (letterI f n) (nthA l n)).1 (strI (argTk (letterI f n) (nthA l n)).2.1)).length + 1) := by simp [wAll]
    have e4 : (wordsL (l.take n ++ [nthA l n])).length = (wordsL (l.take n)).length + (wordsA (nthA l n)).length := by simp [wordsL]
    rw [e1, e2, e3, e4, exTo]
    push_cast
    omega
theorem exTo_fix (f : Frm) : ∀ n, n ≤ f.2.2.2.1.size → exTo f n = ((f.2.2.2.1.data.toList.take n).map fun x => exF (x.toNat : Int)).foldr (· + ·) 0 := by
  have hsum : ∀ (a : List Int) (z : Int), (a ++ [z]).foldr (· + ·) 0 = a.foldr (· + ·) 0 + z := fun a z => by
    induction a with
    | nil => simp
    | cons c a ih => simp only [List.cons_append, List.foldr_cons, ih]; omega
  intro n
  induction n with
  | zero => intro _; simp [exTo]
  | succ n ih =>
    intro h
    have hl : n < f.2.2.2.1.data.toList.length := by rw [Array.length_toList]; exact h
    rw [exTo, ih (by omega), List.take_succ_eq_append_getElem hl, List.map_append, List.map_singleton, hsum]
    congr 2
    have hL : letterI f (n : Int) = sgn f.2.2.2.1 n := by unfold letterI; rw [if_neg (by omega), if_pos (by omega)]; rfl
    rw [hL]
    unfold sgn
    rw [List.getD_eq_getElem?_getD, List.getElem?_eq_getElem hl]
    rfl
theorem exF_rest {f : Frm} (h : f.2.2.2.2.1.data.toList.all (fun x => decide (exF (x.toNat : Int) ≤ 0)) = true) {n : Nat} (hn : f.2.2.2.1.size ≤ n) : exF (letterI f (n : Int)) ≤ 0 := by
  unfold letterI
  rw [if_neg (by omega), if_neg (by omega)]
  split
  · unfold sgn
    rw [List.getD_eq_getElem?_getD]
    cases e : f.2.2.2.2.1.data.toList[(((n : Int) - (f.2.2.2.1.size : Int)) % (f.2.2.2.2.1.size : Int)).toNat]? with
    | none => simp [exF]
    | some x =>
      have := List.all_eq_true.1 h x (List.mem_of_getElem? e)
      simpa using this
  · decide
theorem exTo_rest {f : Frm} (h : f.2.2.2.2.1.data.toList.all (fun x => decide (exF (x.toNat : Int) ≤ 0)) = true) : ∀ n, f.2.2.2.1.size ≤ n → exTo f n ≤ exL f.2.2.2.1 := by
  intro n hn
  induction n with
  | zero =>
    have h0 : f.2.2.2.1.size = 0 := by omega
    have := exTo_fix f 0 (by omega)
    have hnil : f.2.2.2.1.data.toList = [] := List.length_eq_zero_iff.1 (by rw [Array.length_toList]; exact h0)
    unfold exL
    rw [hnil]; simp [exTo]
  | succ n ih =>
    by_cases e : f.2.2.2.1.size ≤ n
    · have := ih e
      have h2 := exF_rest h e
      rw [exTo]; omega
    · have e2 : n + 1 = f.2.2.2.1.size := by omega
      rw [e2, exTo_fix f _ (Nat.le_refl _), List.take_of_length_le (by rw [Array.length_toList]; exact Nat.le_refl _)]
      exact Int.le_refl _
/-- At most 16 bytes for each word. -/
theorem prI_len {x : InstT} {b : Int} (hx : InstOk x) (hr : rawE x b = 0) : (prI x).length + 1 ≤ 16 * (1 + (rawWs x b).length) := by
  obtain ⟨h1, h2, h3⟩ := rawWs_ok hr
  obtain ⟨i1, i2, i3, i4, i5⟩ := faultI_zero h2
  obtain ⟨x1, x2, x3, x4, x5, x6, x7, x8⟩ := hx
  have hrow := List.all_eq_true.1 longRows _ (look_memW h1)
  simp only [longRow, Bool.and_eq_true, decide_eq_true_eq] at hrow
  obtain ⟨r1, r2⟩ := hrow
  have hw : ∀ j, j < x.2.2.2.length → wrongA (letterI (lookF refT x.1).1 (j : Int)) (nthA x.2.2.2 j) b = 0 := fun j hj => by
    have := wrongL_zero i3 j hj
    rwa [Nat.zero_add] at this
  have hkn : ∀ j, j < x.2.2.2.length → kindI (letterI (lookF refT x.1).1 (j : Int)) ≠ 0 := fun j hj => by
    rcases letter_known x.1 (j : Int) with h | h
    · exact absurd h (wrongA_kind (hw j hj)).1
    · exact h
  have ha := args_len x7 hw hkn x.2.2.2.length (Nat.le_refl _)
  rw [List.take_of_length_le (by rw [argTks_len]; omega), List.take_of_length_le (Nat.le_refl _)] at ha
  have hn : (lookF refT x.1).1.2.2.2.1.size ≤ x.2.2.2.length := by
    unfold wholeN at i4
    split at i4
    · cases i4
    · omega
  have hex := exTo_rest r2 _ hn
  have d1 := dgS_size x6
  have d2 := dgS_size x4
  have hp : ((wAll (preTk (lookF refT x.1).1 x)).length : Int) ≤ ((lookF refT x.1).1.1.size : Int) + 1 + (if (lookF refT x.1).1.2.2.1 then 14 else 0) + (if (lookF refT x.1).1.2.1 then 12 else 0) := by
    have t2 : ∀ s : ByteArray, (tokS 2 (strI s)).length = s.size + 1 := fun s => by simp [tokS, strI_len]
    have t1 : ∀ s : ByteArray, (tokS 1 (strI s)).length = s.size := fun s => by simp [tokS, strI_len]
    have t5 : (tokS 5 (strI eqS)).length = 1 := rfl
    unfold preTk wAll
    cases (lookF refT x.1).1.2.2.1 <;> cases (lookF refT x.1).1.2.1 <;> simp [t1, t2, t5] <;> omega
  have hh : ((rawL (lookF refT x.1).1 x).length : Int) = (if (lookF refT x.1).1.2.2.1 then 1 else 0) + (if (lookF refT x.1).1.2.1 then 1 else 0) + ((wordsL x.2.2.2).length : Int) := by
    unfold rawL headW
    cases (lookF refT x.1).1.2.2.1 <;> cases (lookF refT x.1).1.2.1 <;> simp <;> omega
  have he : (wAll (tksI x)).length = (wAll (preTk (lookF refT x.1).1 x)).length + (wAll (argTks (lookF refT x.1).1 x.2.2.2)).length := by unfold tksI wAll; simp
  have hpos : 1 ≤ (wAll (tksI x)).length := by
    cases e : tksI x with
    | nil => exact absurd e (tksI_ne x)
    | cons a r => simp [wAll]
  have hl : (prI x).length + 1 = (wAll (tksI x)).length := by unfold prI; rw [List.length_drop]; omega
  rw [hl, he, h3]
  cases e1 : (lookF refT x.1).1.2.2.1 <;> cases e2 : (lookF refT x.1).1.2.1 <;> simp only [e1, e2, if_true, if_false, Bool.false_eq_true] at hp hh r1 <;> omega
theorem textP_size {g : Int} {N : Nat} {l : List InstT} (g1 : g < 4294967296) (hok : InstsOk l) (hs : (shapeE (N : Int) l).1 = 0) : (strOfNums (textP g (N : Int) l)).size ≤ 16777216 := by
  obtain ⟨h5, hraw⟩ := shape_sum hs
  have hsb := shape_bound hs
  have hix := oks_mem hok
  have e : (strOfNums (textP g (N : Int) l)).size = (textP g (N : Int) l).length := by simp [strOfNums, ByteArray.size]
  have hj : ∀ l : List InstT, (∀ x ∈ l, InstOk x ∧ rawE x (N : Int) = 0) → (joinLs (l.map fun x => prI x)).length ≤ 16 * wsum (N : Int) l := fun l => by
    induction l with
    | nil => intro _; simp [joinLs, wsum]
    | cons x l ih =>
      intro h
      have i1 := ih (fun y hy => h y (by simp [hy]))
      have i2 := prI_len (h x (by simp)).1 (h x (by simp)).2
      have e1 : (joinLs ((x :: l).map fun x => prI x)).length = (prI x).length + 1 + (joinLs (l.map fun x => prI x)).length := by simp [joinLs]; omega
      have e2 : wsum (N : Int) (x :: l) = (1 + (rawWs x (N : Int)).length) + wsum (N : Int) l := by simp [wsum]
      rw [e1, e2]; omega
  have h1 := hj l (fun x hx => ⟨hix x hx, hraw x hx⟩)
  have hh : (headL g (N : Int)).length ≤ 28 := by
    have d1 := dgS_size g1
    have d2 := dgS_size (n := (N : Int)) (by omega)
    have t3 : modS.size = 6 := rfl
    unfold headL headTk wtAll
    simp [wtS, strI_len, t3]; omega
  have ht : (textP g (N : Int) l).length = (headL g (N : Int)).length + 1 + (joinLs (l.map fun x => prI x)).length := by unfold textP; simp [joinLs]; omega
  rw [e, ht]; omega

end Go.Proofs.YtonhnflilfjkbaaGreatDoor

/-
  A page's line: the tokens of a line, written, and its end.
-/
namespace Go.Proofs.YtonhnflilfjkbaaGreatDoor
open Go.RowKit
set_option maxRecDepth 10000
set_option linter.unusedVariables false
set_option linter.unusedSimpArgs false

set_option maxHeartbeats 2000000 in
theorem pageLine_any (B b : Nat) (zs : List Int) (a : Option Addr) (n cap : Nat) (l : List TokT) (w : World) (h : Pge B b zs w) (hBw : B ≤ w.heap.size) (hv : ToksV w a l) (hl : l.length = n) (hok : ToksIn l) (hu : 4 * bulkT l + 3 * n ≤ 1099511627776) (hz : zs.length ≤ 1099511627776) :
    Calls Tryz.prog 37 #[.pointer (some ⟨b, 0, none⟩), .slice a n cap] w fun e w' => e = .returned (.tuple #[]) ∧ Pge B b (zs ++ wOut l ++ [10]) w' ∧ Below B w w' ∧ Lib.OthersKept 5 (some b) w w' := by
  have hW := write_any a n cap l w hv hl hok (by omega)
  have hwl := wOut_len l
  have HL := hide hl
  have HP := hide h
  have HU := hide (And.intro hu hz)
  clear hv hok h hu hz
  go_enter Tryz.func37, Tryz.ntmps37
  go_wp2_with fail
  refine hW.mono ?_
  rintro e w1 ⟨rfl, hb1⟩
  go_wp2_with fail
  have hw1 : B ≤ w1.heap.size := Nat.le_trans hBw hb1.size
  have hsz : (strOfNums (wOut l)).size = (wOut l).length := by rw [← strI_len, strI_of (wOut_within l)]
  have hk1 : Lib.OthersKept 5 (some b) w w1 := Lib.OthersKept.below (Lib.OthersKept.refl _ _ w) hb1
  refine (pgeWriteString_any B b zs _ w1 (pge_below HP.out hb1) (by have := HU.out; have := HL.out; omega) hw1).mono ?_
  rintro e w2 ⟨rfl, hp2, hb2, hk2⟩
  rw [strI_of (wOut_within l)] at hp2
  have HP2 := hide hp2
  clear hp2
  go_wp2_with fail
  refine (pgeWriteByte_any B b _ 10 w2 HP2.out (by have := HU.out; have := HL.out; rw [List.length_append]; omega) (Nat.le_trans hw1 hb2.size)).mono ?_
  rintro e w3 ⟨rfl, hp3, hb3, hk3⟩
  go_wp2_with fail
  go_end0
  exact ⟨rfl, hp3, ((hb1.mono hBw).trans hb2).trans hb3, (hk1.trans hk2).trans hk3⟩

end Go.Proofs.YtonhnflilfjkbaaGreatDoor

/-
  What String of a page answers: its bytes.
-/
namespace Go.Proofs.YtonhnflilfjkbaaGreatDoor
open Go.RowKit Go.Shelf
set_option maxRecDepth 100000
set_option linter.unusedVariables false
set_option linter.unusedSimpArgs false

theorem nums_bytes {zs : List Int} (h : Within 256 zs) : zs.map (Value.int .u8) = Lib.byteCells (strOfNums zs).data.toList := by
  have e := strI_of h
  rw [← Lib.strCells_eq]
  have h2 : Lib.strCells (strOfNums zs) = (strI (strOfNums zs)).map (Value.int .u8) := by simp [Lib.strCells, strI]
  rw [h2, e]

theorem byte_cells : Tryz.prog.cellsOf 5 = 1 := by kernel_rfl

set_option maxHeartbeats 4000000 in
theorem pgeString_any (B b : Nat) (zs : List Int) (w : World) (h : Pge B b zs w) (hz : Within 256 zs) (h0 : zs ≠ []) :
    Calls Tryz.prog 40 #[.pointer (some ⟨b, 0, none⟩)] w fun e w' => e = .returned (.string (strOfNums zs)) ∧ Below B w w' := by
  unfold Pge at h
  rw [nums_bytes hz] at h
  have hl : (strOfNums zs).data.toList ≠ [] := by
    intro e
    have e2 := nums_bytes hz
    rw [e] at e2
    simp [Lib.byteCells] at e2
    exact h0 e2
  have hs : strOfNums zs = ⟨(strOfNums zs).data.toList.toArray⟩ := by simp
  rw [hs]
  generalize (strOfNums zs).data.toList = l at *
  clear hs hz h0
  obtain ⟨p, hp, hAt⟩ : ∃ p, (p = .pointer none ∨ p = .pointer (some ⟨b, 0, none⟩)) ∧ Lib.BuilderAtF 78 5 B b p (Lib.byteCells l) w := by
    rcases h with h | h
    · exact ⟨_, .inl rfl, h⟩
    · exact ⟨_, .inr rfl, h⟩
  obtain ⟨hB, v, hbk, hown, hne⟩ := hAt
  have hl0 : l.length ≠ 0 := by simpa using hl
  rw [Lib.byteCells_length] at hown
  obtain ⟨g, cap, cur, fz, rfl, hbg, hg, hfz, hnc, hcm, hcs, htake⟩ : ∃ g cap cur fz, v = .slice (some ⟨g, 0, none⟩) l.length cap ∧ B ≤ g ∧ w.heap[g]? = some (.cells cur 5 fz) ∧ fz.2 ≤ l.length * 1 ∧ l.length ≤ cap ∧ cap ≤ maxLen ∧ cur.size = cap * 1 ∧ cur.toList.take (l.length * 1) = Lib.byteCells l := by
    rcases hown.2 with ⟨_, hz⟩ | ⟨g, cap, cur, fz, hv, r⟩
    · exact absurd hz hl0
    · exact ⟨g, cap, cur, fz, hv, r⟩
  have c1 : w.drew.cell? ⟨b, 1, none⟩ = some (.slice (some ⟨g, 0, none⟩) l.length cap) := by
    have : w.drew.heap[b]? = some (.cells #[p, .slice (some ⟨g, 0, none⟩) l.length cap] 78 (0, 0)) := hbk
    rw [Lib.cell_of_heap this]; rfl
  have hSD : (Builtin.unsafeSliceData_ #[44] 125 #[.slice (some ⟨g, 0, none⟩) l.length cap]).run Tryz.prog w.drew = .ok (.pointer (some ⟨g, 0, none⟩)) w.drew :=
    Lib.run_unsafeSliceData_row _ _ _ _ _ _ (by omega)
  have hUS : (Builtin.unsafeString_ #[125, 3] 9 #[.pointer (some ⟨g, 0, none⟩), .int .i64 l.length]).run Tryz.prog w.drew = .ok (.string ⟨l.toArray⟩) (w.drew.freeze ⟨g, 0, none⟩ l.length) := by
    refine Lib.run_unsafeString_row w.drew 125 3 9 5 Tryz.underlying125 byte_cells g cur.size (by have hg' : w.drew.heap[g]? = some (.cells cur 5 fz) := hg; simp [World.shape?, hg']) l hl (by omega) (by unfold maxLen at hcm; omega) ?_
    intro j x hx
    have := hown.cells (g := g) rfl j (.int .u8 x.toNat) (by simp [Lib.byteCells, hx])
    exact this
  have hBG := Lib.below_freeze (Below.drew (Below.refl B w)) (p := ⟨g, 0, none⟩) hbg l.length
  have mixed : Tryz.prog.follows .mixedOrders = true := by kernel_rfl
  clear hown hbk hg hne hp
  go_enter Tryz.func40, Tryz.ntmps40
  go_wp2
  go_region_o
  all_goals (go_wp2; go_ret; exact ⟨rfl, hBG⟩)

end Go.Proofs.YtonhnflilfjkbaaGreatDoor
