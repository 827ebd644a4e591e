/-
  Texts laid together in one: RowI, FrameSmall, WordsTurned, FrameHeadFault, FrameReadHead, FrameApart, FrameParts, FrameRead, FrameTold, FrameParts2, FrameEach2, CodeRinst, WordsNew, CodeInst, Math2, MathR, MathC, MathB, MathRL, FrameMeasure, MathRW, MathWR, MathD, WordsSplit, FrameWrite, CodeFronts.
-/
import Derived.Test.YtonhnflilfjkbaaGreatDoorB03
import Derived.Test.YtonhnflilfjkbaaGreatDoorB01
import Derived.Test.YtonhnflilfjkbaaGreatDoorB07
import Derived.WalkSpells
import Derived.BigRegion
import Derived.Deep.QuietTactic
import Derived.BigQuiet
import Derived.Test.YtonhnflilfjkbaaGreatDoorB02
import Derived.Test.YtonhnflilfjkbaaGreatDoorProg
import Derived.RangeFuncNested
import Derived.RangeFuncBound
import Derived.RangeFuncCalls
import Derived.RangeFuncLeaves
import Derived.Shelf.Abstract
import Derived.Shelf.RegionOpen
import Derived.WalkKit
import Derived.OwnWalkIn
import Derived.TacticsInMore
import Derived.LoopNIn
import Derived.LoopIn
import Derived.Deep.AppendLies
import Derived.WalkMore
import Derived.Deep.RegionHeld2
import Derived.Test.YtonhnflilfjkbaaGreatDoorB05
import Derived.Test.YtonhnflilfjkbaaGreatDoorB06
import Derived.Deep.RegionWith
import Derived.Deep.DrawnRows
import Derived.Deep.RegionLaw
/-
  A row of instructions while it is built, each with arguments in memory of its own.
-/
namespace Go.Proofs.YtonhnflilfjkbaaGreatDoor
open Go.RowKit
set_option linter.unusedVariables false

/-- The instructions from the k-th on lie each in memory of its own, from block lo on; the row lies elsewhere. -/
def OwnI (w : World) (lo : Nat) (a : Option Addr) (k : Nat) (rs : List InstT) : Prop :=
  ∀ j, k ≤ j → j < rs.length → ∃ b off aj cj nj, a = some ⟨b, off, none⟩ ∧ lo ≤ b ∧ b < w.heap.size ∧ w.cell? ⟨b, off + j * 4, none⟩ = some (.int .u16 (nthI rs j).1) ∧ w.cell? ⟨b, off + j * 4 + 1, none⟩ = some (.int .u32 (nthI rs j).2.1) ∧ w.cell? ⟨b, off + j * 4 + 2, none⟩ = some (.int .u32 (nthI rs j).2.2.1) ∧ w.cell? ⟨b, off + j * 4 + 3, none⟩ = some (.slice aj nj cj) ∧ (nthI rs j).2.2.2.length = nj ∧
    w.ownsRow lo 61 3 (.slice aj nj cj) nj ((nthI rs j).2.2.2.flatMap argC) ∧ Value.ownBlock (.slice aj nj cj) ≠ some b ∧
    ∀ i, k ≤ i → i < rs.length → i ≠ j → ∀ ai ci ni g, w.cell? ⟨b, off + i * 4 + 3, none⟩ = some (.slice ai ni ci) → Value.ownBlock (.slice ai ni ci) = some g → Value.ownBlock (.slice aj nj cj) ≠ some g

/-- What is written in one instruction's arguments leaves the later ones. -/
theorem OwnI.next {w w' : World} {lo k b off : Nat} {a : Option Addr} {rs : List InstT} {ak : Option Addr} {nk ck : Nat} (h : OwnI w lo a k rs) (ha : a = some ⟨b, off, none⟩) (hk : k < rs.length) (hc : w.cell? ⟨b, off + k * 4 + 3, none⟩ = some (.slice ak nk ck)) (hg : w.grownBy w' (Value.ownBlock (.slice ak nk ck))) : OwnI w' lo a (k + 1) rs := by
  obtain ⟨b0, off0, ak0, ck0, nk0, e0, _, _, _, _, _, hc0, _, _, hnb, _⟩ := h k (Nat.le_refl _) hk
  rw [ha] at e0
  simp at e0
  obtain ⟨rfl, rfl⟩ := e0
  rw [hc] at hc0
  simp at hc0
  obtain ⟨rfl, rfl, rfl⟩ := hc0
  have cell : ∀ o, w'.cell? ⟨b, o, none⟩ = w.cell? ⟨b, o, none⟩ := fun o => World.cell?_of_block (hg.block b (World.block_lt_of_cell? _ _ hc) (fun e => hnb e.symm))
  intro j hj hjl
  obtain ⟨b1, off1, aj, cj, nj, e1, hlo1, hb1, c1, d1, d2, c2, c3, c4, c5, c6⟩ := h j (by omega) hjl
  rw [ha] at e1
  simp at e1
  obtain ⟨rfl, rfl⟩ := e1
  refine ⟨b, off, aj, cj, nj, ha, hlo1, Nat.lt_of_lt_of_le hb1 hg.size, (cell _).trans c1, (cell _).trans d1, (cell _).trans d2, (cell _).trans c2, c3, own_grown c4 hg (fun g e => c6 k (Nat.le_refl _) hk (by omega) ak ck nk g hc e), c5, ?_⟩
  intro i hi hil hij ai ci ni g hci
  rw [cell] at hci
  exact c6 i (by omega) hil hij ai ci ni g hci

/-- What is written elsewhere leaves them all. -/
theorem OwnI.kept {w w' : World} {lo lo' k : Nat} {a : Option Addr} {rs : List InstT} {ob : Option Nat} (h : OwnI w lo a k rs) (hg : w.grownBy w' ob) (hob : ∀ g, ob = some g → g < lo) (hlo : lo' ≤ lo) : OwnI w' lo' a k rs := by
  intro j hj hjl
  obtain ⟨b, off, aj, cj, nj, e1, hlo1, hb1, c1, d1, d2, c2, c3, c4, c5, c6⟩ := h j hj hjl
  have hne : some b ≠ ob := fun e => by have := hob b e.symm; omega
  have cell : ∀ o, w'.cell? ⟨b, o, none⟩ = w.cell? ⟨b, o, none⟩ := fun o => World.cell?_of_block (hg.block b hb1 hne)
  have c4' := own_grown c4 hg (fun g e e2 => by have := (c4.lt g e2).1; have := hob g e; omega)
  refine ⟨b, off, aj, cj, nj, e1, Nat.le_trans hlo hlo1, Nat.lt_of_lt_of_le hb1 hg.size, (cell _).trans c1, (cell _).trans d1, (cell _).trans d2, (cell _).trans c2, c3, ⟨c4'.1, ?_⟩, c5, fun i hi hil hij ai ci ni g hci => by rw [cell] at hci; exact c6 i hi hil hij ai ci ni g hci⟩
  rcases c4'.2 with h0 | ⟨g, cap, cur, e, hb, rest⟩
  · exact .inl h0
  · exact .inr ⟨g, cap, cur, e, Nat.le_trans hlo hb, rest⟩
theorem OwnI.below {w w' : World} {lo k : Nat} {a : Option Addr} {rs : List InstT} (h : OwnI w lo a k rs) (hb : Below w.heap.size w w') : OwnI w' lo a k rs :=
  h.kept (ob := none) ⟨hb.os, hb.tape, hb.output, hb.size, fun k hk _ => hb.block k hk⟩ (fun g e => by cases e) (Nat.le_refl _)

theorem OwnI.view {w : World} {lo : Nat} {a : Option Addr} {rs : List InstT} (h : OwnI w lo a 0 rs) : InstsV w a rs := by
  intro j hj
  obtain ⟨b, off, aj, cj, nj, e, _, hb, c1, d1, d2, c2, c3, c4, _⟩ := h j (Nat.zero_le _) hj
  refine ⟨b, off, aj, cj, nj, e, hb, c1, d1, d2, c2, c3, argsV_own c4 c3, ?_⟩
  rcases c4.2 with ⟨e1, e2⟩ | ⟨g, c', cur, e1, _, _, e4, _⟩
  · omega
  · cases e1; exact e4

structure RowI (w : World) (lo : Nat) (ob : Option Nat) (rs : List InstT) (cs : List Value) : Prop where
  len : cs.length = rs.length * 4
  each : ∀ j, j < rs.length → ∃ aj cj nj, cs[j * 4]? = some (.int .u16 (nthI rs j).1) ∧ cs[j * 4 + 1]? = some (.int .u32 (nthI rs j).2.1) ∧ cs[j * 4 + 2]? = some (.int .u32 (nthI rs j).2.2.1) ∧ cs[j * 4 + 3]? = some (.slice aj nj cj) ∧ (nthI rs j).2.2.2.length = nj ∧
    w.ownsRow lo 61 3 (.slice aj nj cj) nj ((nthI rs j).2.2.2.flatMap argC) ∧ (∀ g, Value.ownBlock (.slice aj nj cj) = some g → ob ≠ some g) ∧
    ∀ i, i < rs.length → i ≠ j → ∀ ai ci ni g, cs[i * 4 + 3]? = some (.slice ai ni ci) → Value.ownBlock (.slice ai ni ci) = some g → Value.ownBlock (.slice aj nj cj) ≠ some g

theorem RowI.grown {w w' : World} {lo : Nat} {ob : Option Nat} {rs : List InstT} {cs : List Value} {row : Option Nat} (h : RowI w lo ob rs cs) (hg : w.grownBy w' row) (hr : Apartly w lo row) : RowI w' lo ob rs cs := by
  refine ⟨h.len, fun j hj => ?_⟩
  obtain ⟨aj, cj, nj, h1, d1, d2, h2, h3, h4, h5, h6⟩ := h.each j hj
  exact ⟨aj, cj, nj, h1, d1, d2, h2, h3, own_apartly h4 hg hr, h5, h6⟩
theorem RowI.below {w w' : World} {lo : Nat} {ob : Option Nat} {rs : List InstT} {cs : List Value} (h : RowI w lo ob rs cs) (hb : Below w.heap.size w w') : RowI w' lo ob rs cs :=
  h.grown (grown_of_below hb none) (fun g e => by cases e)

/-- An instruction more, whose arguments have been laid since w0. -/
theorem RowI.push {w0 w w' : World} {v : Value} {g' lo : Nat} {rs : List InstT} {cs : List Value} {x : InstT} {a : Option Addr} {n c : Nat}
    (h : RowI w0 lo v.ownBlock rs cs) (hb : Below w0.heap.size w0 w) (hs : w.ownsRow w0.heap.size 61 3 (.slice a n c) n (x.2.2.2.flatMap argC)) (hl : x.2.2.2.length = n) (hv : ∀ b, v.ownBlock = some b → b < w0.heap.size) (hlo : lo ≤ w0.heap.size)
    (hg : w.grownBy w' v.ownBlock) (hat : v.ownBlock = some g' ∨ g' = w.heap.size) : RowI w' lo (some g') (rs ++ [x]) (cs ++ [.int .u16 x.1, .int .u32 x.2.1, .int .u32 x.2.2.1, .slice a n c]) := by
  have hcl := h.len
  have hnew : ∀ g, Value.ownBlock (.slice a n c) = some g → w0.heap.size ≤ g ∧ g < w.heap.size := fun g e => hs.lt g e
  have hold : ∀ i, i < rs.length → ∀ ai ci ni g, cs[i * 4 + 3]? = some (.slice ai ni ci) → Value.ownBlock (.slice ai ni ci) = some g → g < w0.heap.size := fun i hi ai ci ni g hc e => by
    obtain ⟨aj, cj, nj, _, _, _, h2, _, h4, _⟩ := h.each i hi
    rw [hc] at h2
    cases h2
    exact (h4.lt g e).2
  have hown : ∀ {sv : Value} {m : Nat} {xs : List Value} {B : Nat}, w.ownsRow B 61 3 sv m xs → (∀ g, sv.ownBlock = some g → v.ownBlock ≠ some g) → w'.ownsRow B 61 3 sv m xs := fun h1 h2 => own_grown h1 hg (fun g e e2 => h2 g e2 e)
  have hne : ∀ g, g < w.heap.size → v.ownBlock ≠ some g → some g' ≠ some g := fun g h1 h2 e => by
    cases e
    rcases hat with h3 | h3
    · exact h2 h3
    · omega
  refine ⟨by simp [hcl]; omega, fun j hj => ?_⟩
  rw [List.length_append, List.length_singleton] at hj
  by_cases hjl : j < rs.length
  · obtain ⟨aj, cj, nj, h1, d1, d2, h2, h3, h4, h5, h6⟩ := h.each j hjl
    rw [nthI_lo _ _ _ hjl]
    refine ⟨aj, cj, nj, by rw [List.getElem?_append_left (by omega)]; exact h1, by rw [List.getElem?_append_left (by omega)]; exact d1, by rw [List.getElem?_append_left (by omega)]; exact d2, by rw [List.getElem?_append_left (by omega)]; exact h2, h3, hown (own_below h4 hb) h5, fun g e => hne g (by have := (h4.lt g e).2; have := hb.size; omega) (h5 g e), ?_⟩
    intro i hi hij ai ci ni g hci e
    rw [List.length_append, List.length_singleton] at hi
    by_cases hil : i < rs.length
    · rw [List.getElem?_append_left (by omega)] at hci
      exact h6 i hil hij ai ci ni g hci e
    · obtain rfl : i = rs.length := by omega
      rw [List.getElem?_append_right (by omega), show rs.length * 4 + 3 - cs.length = 3 by omega] at hci
      simp at hci
      obtain ⟨rfl, rfl, rfl⟩ := hci
      intro e2
      have h7 := (hnew g e).1
      have h8 := hold j hjl aj cj nj g h2 e2
      omega
  · obtain rfl : j = rs.length := by omega
    rw [nthI_hi]
    refine ⟨a, c, n, ?_, ?_, ?_, ?_, hl, ?_, fun g e => hne g (hnew g e).2 (fun e2 => by have := hv g e2; have := (hnew g e).1; omega), ?_⟩
    · rw [List.getElem?_append_right (by omega), show rs.length * 4 - cs.length = 0 by omega]; rfl
    · rw [List.getElem?_append_right (by omega), show rs.length * 4 + 1 - cs.length = 1 by omega]; rfl
    · rw [List.getElem?_append_right (by omega), show rs.length * 4 + 2 - cs.length = 2 by omega]; rfl
    · rw [List.getElem?_append_right (by omega), show rs.length * 4 + 3 - cs.length = 3 by omega]; rfl
    · refine hown ⟨hs.1, ?_⟩ (fun g e e2 => by have := hv g e2; have := (hnew g e).1; omega)
      rcases hs.2 with h0 | ⟨g, cap, cur, e, hb', rest⟩
      · exact .inl h0
      · exact .inr ⟨g, cap, cur, e, Nat.le_trans hlo hb', rest⟩
    · intro i hi hij ai ci ni g hci e e2
      rw [List.length_append, List.length_singleton] at hi
      have hil : i < rs.length := by omega
      rw [List.getElem?_append_left (by omega)] at hci
      have := hold i hil ai ci ni g hci e
      have := (hnew g e2).1
      omega

/-- The whole row is as 'OwnI' says. -/
theorem RowI.own {w : World} {T n cap lo : Nat} {a : Option Addr} {rs : List InstT} {cs : List Value} (h : RowI w lo (Value.ownBlock (.slice a n cap)) rs cs) (hown : w.ownsRow lo T 4 (.slice a n cap) n cs) (hl : rs.length = n) : OwnI w lo a 0 rs := by
  intro j _ hj
  rcases hown.2 with ⟨_, hn⟩ | ⟨g, cap', cur, hv, hb, hgg, _⟩
  · omega
  · cases hv
    obtain ⟨aj, cj, nj, h1, d1, d2, h2, h3, h4, h5, h6⟩ := h.each j hj
    have hcl := h.len
    have c1 := hown.cellAt (j * 4) (by omega)
    have e1 := hown.cellAt (j * 4 + 1) (by omega)
    have e2 := hown.cellAt (j * 4 + 2) (by omega)
    have c2 := hown.cellAt (j * 4 + 3) (by omega)
    rw [h1] at c1
    rw [d1] at e1
    rw [d2] at e2
    rw [h2] at c2
    refine ⟨g, 0, aj, cj, nj, rfl, hb, (Array.getElem?_eq_some_iff.1 hgg).1, by rw [Nat.zero_add]; exact c1, by rw [Nat.zero_add]; exact e1, by rw [Nat.zero_add]; exact e2, by rw [Nat.zero_add]; exact c2, h3, h4, fun e => h5 g e rfl, ?_⟩
    intro i _ hi hij ai ci ni g2 hci e
    have c3 := hown.cellAt (i * 4 + 3) (by omega)
    rw [Nat.zero_add, c3] at hci
    exact h6 i hi hij ai ci ni g2 hci e

end Go.Proofs.YtonhnflilfjkbaaGreatDoor

/-
  The small functions of frame: a first word parted and made, how many words an instruction has, whether a bound may be.
-/
namespace Go.Proofs.YtonhnflilfjkbaaGreatDoor
open Go.RowKit
set_option maxRecDepth 10000

theorem mayBeBound_any (x : Int) (w : World) (h0 : 0 ≤ x) (h1 : x < 4294967296) :
    Calls Tryz.prog 111 #[.int .u32 x] w fun e w' => e = .returned (.bool (!(decide (x = 0) || decide (65536 < x)))) ∧ w = w' := by
  go_enter Tryz.func111, Tryz.ntmps111
  go_wp2
  · go_ret
    refine ⟨?_, rfl⟩
    have hx : 1 ≤ x := by assumption
    show Ending.returned (.bool (decide (x ≤ 65536))) = _
    congr 2
    by_cases h : x ≤ 65536
    · simp [h, show ¬ x = 0 by omega]
    · simp [h]; omega
  · go_ret
    refine ⟨?_, rfl⟩
    have hx : ¬ 1 ≤ x := by first | assumption | (have : x < 1 := by assumption
                                                  omega)
    obtain rfl : x = 0 := by omega
    rfl

theorem wordsOf_any (op : Int) (a : Option Addr) (n cap : Nat) (w : World) (hn : n ≤ 140737488351232) :
    Calls Tryz.prog 103 #[.agg #[.int .u16 op, .slice a n cap]] w fun e w' => e = .returned (.int .i64 ((n : Int) + 1)) ∧ w.alloc (.cells #[.int .u16 op, .slice a n cap] 54) = w' := by
  go_enter Tryz.func103, Tryz.ntmps103
  go_wp2
  go_ret
  exact ⟨ret_int (by omega), rfl⟩

theorem firstWord_any (op : Int) (a : Option Addr) (n cap : Nat) (w : World) (hn : n < 65535) (ho : 0 ≤ op) (ho2 : op < 65536) :
    Calls Tryz.prog 113 #[.agg #[.int .u16 op, .slice a n cap]] w fun e w' => e = .returned (.int .u32 (((n : Int) + 1) * 65536 + op)) ∧ Below w.heap.size w w' := by
  have hW := fun w => wordsOf_any op a n cap w (by omega)
  go_enter Tryz.func113, Tryz.ntmps113
  go_wp2_with fail
  go_region_with (go_at_call 103; refine (hW _).mono ?_; rintro e w' ⟨rfl, rfl⟩)
  all_goals go_wp2
  all_goals go_ret
  all_goals refine ⟨?_, (((Below.refl _ _).alloc (Nat.le_refl _) _).alloc (by simp) _).drew⟩
  all_goals
    show Ending.returned (.int .u32 (bits .or .u32 (IntKind.u32.wrap (IntKind.u32.wrap ((n : Int) + 1) * 65536)) (IntKind.u32.wrap op))) = _
    apply ret_int
    rw [show IntKind.u32.wrap ((n : Int) + 1) = (n : Int) + 1 by rw [IntKind.wrap_u32']; omega, show IntKind.u32.wrap (((n : Int) + 1) * 65536) = ((n : Int) + 1) * 65536 by rw [IntKind.wrap_u32']; omega, show IntKind.u32.wrap op = op by rw [IntKind.wrap_u32']; omega]
    exact or_high ((n : Int) + 1) op 16 (by omega) ho (by omega) (by omega)

end Go.Proofs.YtonhnflilfjkbaaGreatDoor

/-
  What Turned of the words package returns, for every word: its bytes the other way round.
-/
namespace Go.Proofs.YtonhnflilfjkbaaGreatDoor
open Go.RowKit
set_option maxRecDepth 10000

end Go.Proofs.YtonhnflilfjkbaaGreatDoor

/-
  What headFault of frame returns: what is wrong with a word of the head.
-/
namespace Go.Proofs.YtonhnflilfjkbaaGreatDoor
open Go.RowKit
set_option maxRecDepth 10000

end Go.Proofs.YtonhnflilfjkbaaGreatDoor

/-
  What readHead of frame returns: the first word of the head that lacks or is wrong, or the head.
-/
namespace Go.Proofs.YtonhnflilfjkbaaGreatDoor
open Go.RowKit
set_option maxRecDepth 10000

end Go.Proofs.YtonhnflilfjkbaaGreatDoor

/-
  What apart of frame returns: the instruction with words in new memory.
-/
namespace Go.Proofs.YtonhnflilfjkbaaGreatDoor
open Go.RowKit
set_option maxRecDepth 10000

end Go.Proofs.YtonhnflilfjkbaaGreatDoor

/-
  parts of frame, and what its iterator tells: the places of the instructions behind a head, with the instructions, whose words are those of the list itself.
-/
namespace Go.Proofs.YtonhnflilfjkbaaGreatDoor
open Go.RowKit Go.Shelf
attribute [local go_sem] Oper.semAt_some

end Go.Proofs.YtonhnflilfjkbaaGreatDoor

/-
  What Read of frame returns, for every list of words: its error and its place, or the head and the instructions, each with words in memory of its own.
-/
namespace Go.Proofs.YtonhnflilfjkbaaGreatDoor
open Go.RowKit Go.Shelf
attribute [local go_sem] Oper.semAt_some

end Go.Proofs.YtonhnflilfjkbaaGreatDoor

/-
  Each of frame: its iterator; what it tells, as values.
-/
namespace Go.Proofs.YtonhnflilfjkbaaGreatDoor
open Go.RowKit Go.Shelf
attribute [local go_sem] Oper.semAt_some

end Go.Proofs.YtonhnflilfjkbaaGreatDoor

/-
  What the iterator of parts tells, where a round may change boxes below as well: the list stays by its type.
-/
namespace Go.Proofs.YtonhnflilfjkbaaGreatDoor
open Go.RowKit Go.Shelf
attribute [local go_sem] Oper.semAt_some

end Go.Proofs.YtonhnflilfjkbaaGreatDoor

/-
  What the iterator of Each tells, where a round may change boxes below as well: the list stays by its type.
-/
namespace Go.Proofs.YtonhnflilfjkbaaGreatDoor
open Go.RowKit Go.Shelf
attribute [local go_sem] Oper.semAt_some

end Go.Proofs.YtonhnflilfjkbaaGreatDoor

/-
  What the method inst of the package code's reader answers.
-/
namespace Go.Proofs.YtonhnflilfjkbaaGreatDoor
open Go.RowKit
set_option linter.unusedVariables false
set_option linter.unusedSimpArgs false
set_option maxRecDepth 10000

end Go.Proofs.YtonhnflilfjkbaaGreatDoor

/-
  What New of the words package returns: a reader in a new block, its words in another one; nothing that was there has turned.
-/
namespace Go.Proofs.YtonhnflilfjkbaaGreatDoor
open Go.RowKit
set_option maxRecDepth 10000

end Go.Proofs.YtonhnflilfjkbaaGreatDoor

/-
  What Inst of the package code answers, for all words and every bound.
-/
namespace Go.Proofs.YtonhnflilfjkbaaGreatDoor
open Go.RowKit
set_option linter.unusedVariables false
set_option linter.unusedSimpArgs false
set_option maxRecDepth 100000

end Go.Proofs.YtonhnflilfjkbaaGreatDoor

/-
  Plain arithmetic for the layer of words: bytes to words and back is the bytes, words to bytes and back is the words.
-/
namespace Go.Proofs.YtonhnflilfjkbaaGreatDoor
open Go.RowKit

end Go.Proofs.YtonhnflilfjkbaaGreatDoor

/-
  Plain facts: a text's words, with whatever words behind them, are read as the text.
-/
namespace Go.Proofs.YtonhnflilfjkbaaGreatDoor
open Go.RowKit

end Go.Proofs.YtonhnflilfjkbaaGreatDoor

/-
  Plain facts on modules as words: the first instruction that is wrong, and all instructions' words.
-/
namespace Go.Proofs.YtonhnflilfjkbaaGreatDoor
open Go.RowKit
set_option linter.unusedVariables false

/-- The first instruction that is wrong, or that has too many words. -/
def shapeF (b : Int) : Nat → Nat → List InstT → Int × Nat
  | _, _, [] => (0, 0)
  | k, c, x :: l => if rawE x b ≠ 0 then (rawE x b, k) else if 1048576 < c + 1 + (rawWs x b).length then (4, k) else shapeF b (k + 1) (c + 1 + (rawWs x b).length) l
def shapeE (b : Int) (l : List InstT) : Int × Nat := if b = 0 ∨ 65536 < b then (24, 0) else shapeF b 0 5 l
/-- A module's instructions as words. -/
def rawsL (b : Int) (l : List InstT) : List (Int × List Int) := l.map fun x => (x.1, rawWs x b)
/-- What raws answers. -/
def rawsR (b : Int) (l : List InstT) : List (Int × List Int) := if (shapeE b l).1 = 0 then rawsL b l else []

theorem rawsL_len (b : Int) (l : List InstT) : (rawsL b l).length = l.length := by simp [rawsL]
theorem nthR_raws (b : Int) (l : List InstT) (k : Nat) (h : k < l.length) : nthR (rawsL b l) k = ((nthI l k).1, rawWs (nthI l k) b) := by
  rw [nthI_lt _ _ h]; simp [nthR, rawsL, List.getD, h]
theorem rawsL_take (b : Int) (l : List InstT) (k : Nat) (h : k < l.length) : rawsL b (l.take (k + 1)) = rawsL b (l.take k) ++ [((nthI l k).1, rawWs (nthI l k) b)] := by
  unfold rawsL
  rw [List.take_add_one, List.getElem?_eq_getElem h, nthI_lt _ _ h, List.map_append]; rfl
theorem dropI (l : List InstT) (k : Nat) (h : k < l.length) : l.drop k = nthI l k :: l.drop (k + 1) := by
  rw [nthI_lt _ _ h]; exact List.drop_eq_getElem_cons h

theorem shape_end (b : Int) (l : List InstT) (k c : Nat) (h : l.length ≤ k) : shapeF b k c (l.drop k) = (0, 0) := by
  rw [List.drop_eq_nil_of_le h]; rfl
theorem shape_step (b : Int) (l : List InstT) (k : Nat) (h : k < l.length) : shapeF b k (sizeTo (rawsL b l) k) (l.drop k) = if rawE (nthI l k) b ≠ 0 then (rawE (nthI l k) b, k) else if 1048576 < sizeTo (rawsL b l) (k + 1) then (4, k) else shapeF b (k + 1) (sizeTo (rawsL b l) (k + 1)) (l.drop (k + 1)) := by
  rw [dropI l k h, shapeF, sizeTo_succ (rawsL b l) k (by rw [rawsL_len]; exact h), nthR_raws b l k h]
theorem rawWs_ok {x : InstT} {b : Int} (h : rawE x b = 0) : (lookF refT x.1).2 = true ∧ faultI (lookF refT x.1).1 x b = 0 ∧ rawWs x b = rawL (lookF refT x.1).1 x := by
  have h1 := h
  unfold rawE at h1
  by_cases h2 : (lookF refT x.1).2 = true
  · rw [if_pos h2] at h1
    exact ⟨h2, h1, by unfold rawWs; rw [if_pos h]⟩
  · rw [if_neg h2] at h1; cases h1
theorem faultI_zero {f : Frm} {x : InstT} {b : Int} (h : faultI f x b = 0) : idE f.2.1 x.2.1 b 40 = 0 ∧ idE f.2.2.1 x.2.2.1 b 41 = 0 ∧ wrongL f b 0 x.2.2.2 = 0 ∧ wholeN f x.2.2.2.length = true ∧ 1 + (rawL f x).length ≤ 65535 := by
  unfold faultI at h
  by_cases h1 : idE f.2.1 x.2.1 b 40 = 0
  · rw [if_neg (by simp [h1])] at h
    by_cases h2 : idE f.2.2.1 x.2.2.1 b 41 = 0
    · rw [if_neg (by simp [h2])] at h
      by_cases h3 : wrongL f b 0 x.2.2.2 = 0
      · rw [if_neg (by simp [h3])] at h
        by_cases h4 : wholeN f x.2.2.2.length = true
        · rw [if_neg (by simp [h4])] at h
          by_cases h5 : 65535 < 1 + (rawL f x).length
          · rw [if_pos h5] at h; cases h
          · exact ⟨h1, h2, h3, h4, by omega⟩
        · rw [if_pos (by simpa using h4)] at h; cases h
      · rw [if_pos h3] at h; exact absurd h h3
    · rw [if_pos h2] at h; exact absurd h h2
  · rw [if_pos h1] at h; exact absurd h h1
theorem rawWs_len (x : InstT) (b : Int) : (rawWs x b).length < 65535 := by
  by_cases h : rawE x b = 0
  · obtain ⟨_, h2, h3⟩ := rawWs_ok h
    have := (faultI_zero h2).2.2.2.2
    rw [h3]; omega
  · rw [rawWs, if_neg h]; simp

theorem shape_bound {b : Int} {l : List InstT} (h : (shapeE b l).1 = 0) : ¬ b = 0 ∧ ¬ 65536 < b := by
  unfold shapeE at h
  by_cases h1 : b = 0 ∨ 65536 < b
  · rw [if_pos h1] at h; cases h
  · exact ⟨fun h => h1 (.inl h), fun h => h1 (.inr h)⟩
theorem shape_each {b : Int} {l : List InstT} (h : (shapeE b l).1 = 0) (k : Nat) (hk : k < l.length) : rawE (nthI l k) b = 0 := by
  have key : ∀ (l : List InstT) (i c k : Nat), (shapeF b i c l).1 = 0 → k < l.length → rawE (nthI l k) b = 0 := by
    intro l
    induction l with
    | nil => intro i c k _ hk; simp at hk
    | cons x l ih =>
      intro i c k h hk
      rw [shapeF] at h
      by_cases h1 : rawE x b ≠ 0
      · rw [if_pos h1] at h; exact absurd h h1
      · rw [if_neg h1] at h
        cases k with
        | zero => exact Classical.not_not.1 h1
        | succ k =>
          split at h
          · cases h
          · exact ih _ _ k h (by simpa using hk)
  unfold shapeE at h
  by_cases h1 : b = 0 ∨ 65536 < b
  · rw [if_pos h1] at h; cases h
  · rw [if_neg h1] at h
    exact key l 0 5 k h hk
end Go.Proofs.YtonhnflilfjkbaaGreatDoor

/-
  Plain facts: an instruction's words say the instruction, and the words of the instruction that words say are those words.
-/
namespace Go.Proofs.YtonhnflilfjkbaaGreatDoor
open Go.RowKit
set_option linter.unusedVariables false

/-! ### a text's words -/

/-! ### one argument -/

/-! ### all arguments -/

/-! ### an instruction -/

end Go.Proofs.YtonhnflilfjkbaaGreatDoor

/-
  What Read answers lies within its bounds.
-/
namespace Go.Proofs.YtonhnflilfjkbaaGreatDoor
open Go.RowKit

end Go.Proofs.YtonhnflilfjkbaaGreatDoor

/-
  What measure and Size of frame return: how many words the head and the instructions have, or the first instruction that may not be.
-/
namespace Go.Proofs.YtonhnflilfjkbaaGreatDoor
open Go.RowKit

theorem fault_any (rs : List (Int × List Int)) : fault rs 0 = (0, 0) ∨ (fault rs 0).1 ≠ 0 := by
  have key : ∀ f k, faultF rs f k = (0, 0) ∨ (faultF rs f k).1 ≠ 0 := by
    intro f
    induction f with
    | zero => intro k; exact .inl rfl
    | succ f ih =>
      intro k
      rw [faultF]
      split
      · split
        · exact .inr (by simp)
        · split
          · exact .inr (by simp)
          · exact ih (k + 1)
      · exact .inl rfl
  exact key _ _

theorem spot_set {w : World} {g T : Nat} {a b : Value} (h : w.heap[g]? = some (.cells #[a, b] T (0, 0))) (u0 u1 : Value) :
    ((w.setCell ⟨g, 0, none⟩ u0).setCell ⟨g, 1, none⟩ u1).cell? ⟨g, 0, none⟩ = some u0 ∧ ((w.setCell ⟨g, 0, none⟩ u0).setCell ⟨g, 1, none⟩ u1).cell? ⟨g, 1, none⟩ = some u1 := by
  have hfin : ((w.setCell ⟨g, 0, none⟩ u0).setCell ⟨g, 1, none⟩ u1).heap[g]? = some (.cells #[u0, u1] T (0, 0)) := by
    simp only [World.setCell, Array.getElem?_modify, h]; simp
  obtain ⟨z0, z1, _⟩ := cell_of_two hfin
  exact ⟨z0, z1⟩

theorem cell_past {w : World} {g j : Nat} {o : Obj} {v : Value} (h : w.cell? ⟨g, j, none⟩ = some v) : (w.alloc o).cell? ⟨g, j, none⟩ = some v := by
  rw [World.cell?_alloc_past _ _ _ (World.block_lt_of_cell? _ _ h)]; exact h

set_option maxRecDepth 100000 in
set_option maxHeartbeats 2000000 in
theorem measure_any (a : Option Addr) (n cap : Nat) (rs : List (Int × List Int)) (w : World) (ha : RawsV w a rs) (hok : RawsOk rs) (hl : rs.length = n) (hn : 32 * n ≤ 140737488351232) :
    Calls Tryz.prog 112 #[.slice a n cap] w fun e w' => e = .returned (.tuple #[.int .i64 (sizeOut rs), .agg #[.int .i64 (fault rs 0).1, .int .i64 (fault rs 0).2]]) ∧ Below w.heap.size w w' := by
  have HL : Hid (rs.length = n) := hl
  clear hl
  go_enter Tryz.func112, Tryz.ntmps112
  go_wp2
  go_loopw [4, 9] (fun s i wr => ∃ k : Nat, k ≤ n ∧ i = .int .i64 k ∧ s = .int .i64 (sizeTo rs k) ∧ sizeTo rs k ≤ 1048576 ∧ fault rs 0 = fault rs k ∧ wr.heap[w.heap.size]? = some (.cells #[.int .i64 0, .int .i64 0] 28 (0, 0)) ∧ Below w.heap.size w wr) (fun _ i _ => n - (intOf i).toNat)
  case atStart => exact ⟨0, Nat.zero_le _, rfl, rfl, by rw [sizeTo_zero]; omega, rfl, heap_alloc_new w _, (Below.refl _ _).alloc (Nat.le_refl _) _⟩
  case round =>
    obtain ⟨k, hk, rfl, rfl, hsz, hfe, hbox, hnx⟩ := hrel
    have HF : Hid (fault rs 0 = fault rs k) := hfe
    clear hfe
    have hlt0 : w.heap.size < wr.heap.size := (Array.getElem?_eq_some_iff.1 hbox).1
    by_cases hlt : k < n
    · obtain ⟨b, off, aj, cj, nj, rfl, hbs, p1, p2, p3, _, _⟩ := ha k (by rw [HL.out]; exact hlt)
      obtain ⟨_, _, _, h4⟩ := hok k (by rw [HL.out]; exact hlt)
      rw [p3] at h4
      have HS : Hid (sizeTo rs (k + 1) = sizeTo rs k + 1 + (nthR rs k).2.length) := sizeTo_succ rs k (by rw [HL.out]; exact hlt)
      have HT := fault_step rs k (by rw [HL.out]; exact hlt)
      rw [p3] at HT HS
      have HT' : Hid (fault rs k = if 65535 ≤ nj then (25, k) else if 1048576 < sizeTo rs (k + 1) then (4, k) else fault rs (k + 1)) := HT
      have q1 := (hnx.cell (p := ⟨b, off + k * 2, none⟩) hbs).trans p1
      have q2 := (hnx.cell (p := ⟨b, off + k * 2 + 1, none⟩) hbs).trans p2
      generalize sizeTo rs k = s at hsz HS
      have hki : (k : Int) < (n : Int) := by omega
      have hk0 : (0 : Int) ≤ (k : Int) := by omega
      have hW := fun op w => wordsOf_any op aj nj cj w (by omega)
      generalize (nthR rs k).1 = op at q1 p1
      clear HT ha p1 p2 p3 hok
      obtain ⟨R1, hR1⟩ : ∃ o, o = Obj.cells #[.int .u16 op, .slice aj nj cj] 54 (0, 0) := ⟨_, rfl⟩
      have hbx1 : ((wr.alloc R1).alloc R1).heap[w.heap.size]? = some (.cells #[.int .i64 0, .int .i64 0] 28 (0, 0)) := (Below.heap_alloc _ _ _ (by simp; omega)).trans ((Below.heap_alloc _ _ _ hlt0).trans hbox)
      obtain ⟨c0, c1, f1⟩ := cell_of_two hbox
      have f0 : wr.frozen? ⟨w.heap.size, 0, none⟩ = false := by simp [World.frozen?, hbox]
      by_cases h1 : 65535 ≤ nj
      · have b1 : decide ((65535 : Int) < (nj : Int) + 1) = true := decide_eq_true (by omega)
        have HE : Hid (fault rs 0 = (25, k)) := by show _ = _; rw [HF.out, HT'.out, if_pos h1]
        have HO : Hid (sizeOut rs = 0) := by show _ = _; unfold sizeOut; rw [HE.out]; rfl
        have hf0 := spot_set hbox (.int .i64 25) (.int .i64 k)
        have hf := And.intro (cell_past (o := R1) (cell_past (o := R1) hf0.1)) (cell_past (o := R1) (cell_past (o := R1) hf0.2))
        have HZ : Hid (_ ∧ _) := hf
        have HB : Hid (Below w.heap.size w ((((wr.setCell ⟨w.heap.size, 0, none⟩ (.int .i64 25)).setCell ⟨w.heap.size, 1, none⟩ (.int .i64 k)).alloc R1).alloc R1)) := (((hnx.setCell (by simp) _).setCell (by simp) _).alloc (by simp; omega) _).alloc (by simp; omega) _
        clear hf hf0 hbx1 hbox
        subst hR1
        go_wp2_with (go_at_call 103; refine (hW _ _).mono ?_; rintro e w' ⟨rfl, rfl⟩)
        exact bodyPost_ret (v := .tuple #[.int .i64 0, .agg #[.int .i64 25, .int .i64 k]]) (by simp [results, Tryz.results112, go_sem, HZ.out.1, HZ.out.2]) rfl ⟨by rw [HE.out, HO.out], HB.out⟩
      · have b1 : decide ((65535 : Int) < (nj : Int) + 1) = false := decide_eq_false (by omega)
        have hbx2 : (((wr.alloc R1).alloc R1).alloc R1).heap[w.heap.size]? = some (.cells #[.int .i64 0, .int .i64 0] 28 (0, 0)) := (Below.heap_alloc _ _ _ (by simp; omega)).trans hbx1
        have HB2 : Hid (Below w.heap.size w (((wr.alloc R1).alloc R1).alloc R1)) := ((hnx.alloc hnx.size _).alloc (by simp; omega) _).alloc (by simp; omega) _
        by_cases h2 : 1048576 < s + 1 + nj
        · have b2 : decide ((1048576 : Int) < (s : Int) + ((nj : Int) + 1)) = true := decide_eq_true (by omega)
          have HE : Hid (fault rs 0 = (4, k)) := by show _ = _; rw [HF.out, HT'.out, if_neg h1, if_pos (by rw [HS.out]; exact h2)]
          have HO : Hid (sizeOut rs = 0) := by show _ = _; unfold sizeOut; rw [HE.out]; rfl
          have hf := spot_set hbx2 (.int .i64 4) (.int .i64 k)
          obtain ⟨c0', c1', f1'⟩ := cell_of_two hbx2
          have f0' : (((wr.alloc R1).alloc R1).alloc R1).frozen? ⟨w.heap.size, 0, none⟩ = false := by simp only [World.frozen?, hbx2]; rfl
          have HZ : Hid (_ ∧ _) := hf
          have HB : Hid (Below w.heap.size w (((((wr.alloc R1).alloc R1).alloc R1).setCell ⟨w.heap.size, 0, none⟩ (.int .i64 4)).setCell ⟨w.heap.size, 1, none⟩ (.int .i64 k))) := (HB2.out.setCell (by simp) _).setCell (by simp) _
          clear hf hbx1 hbx2 hbox
          subst hR1
          go_wp2_with (go_at_call 103; refine (hW _ _).mono ?_; rintro e w' ⟨rfl, rfl⟩)
          exact bodyPost_ret (v := .tuple #[.int .i64 0, .agg #[.int .i64 4, .int .i64 k]]) (by simp [results, Tryz.results112, go_sem, HZ.out.1, HZ.out.2]) rfl ⟨by rw [HE.out, HO.out], HB.out⟩
        · have b2 : decide ((1048576 : Int) < (s : Int) + ((nj : Int) + 1)) = false := decide_eq_false (by omega)
          have HE : Hid (fault rs 0 = fault rs (k + 1)) := by show _ = _; rw [HF.out, HT'.out, if_neg h1, if_neg (by rw [HS.out]; exact h2)]
          have HX : Hid _ := hbx2
          clear hbx1 hbx2 hbox
          subst hR1
          go_wp2_with (go_at_call 103; refine (hW _ _).mono ?_; rintro e w' ⟨rfl, rfl⟩)
          go_roundw
          case rel => exact ⟨k + 1, by omega, by go_num, by rw [HS.out]; go_num, by rw [HS.out]; omega, HE.out, HX.out, HB2.out⟩
          case measure => simp [intOf]; omega
    · obtain rfl : k = n := by omega
      have HE : Hid (fault rs 0 = (0, 0)) := by show _ = _; rw [HF.out]; exact fault_end rs k (by rw [HL.out]; omega)
      have HO : Hid (sizeOut rs = sizeTo rs k) := by show _ = _; unfold sizeOut; rw [HE.out, if_pos rfl, HL.out]
      have hf := spot_set hbox (.int .i64 0) (.int .i64 0)
      obtain ⟨c0, c1, f1⟩ := cell_of_two hbox
      have f0 : wr.frozen? ⟨w.heap.size, 0, none⟩ = false := by simp [World.frozen?, hbox]
      have HZ : Hid (_ ∧ _) := hf
      have HB : Hid (Below w.heap.size w ((wr.setCell ⟨w.heap.size, 0, none⟩ (.int .i64 0)).setCell ⟨w.heap.size, 1, none⟩ (.int .i64 0))) := (hnx.setCell (by simp) _).setCell (by simp) _
      clear hf hbox ha hok
      go_wp2
      exact bodyPost_ret (v := .tuple #[.int .i64 (sizeTo rs k), .agg #[.int .i64 0, .int .i64 0]]) (by simp [results, Tryz.results112, go_sem, HZ.out.1, HZ.out.2]) rfl ⟨by rw [HE.out, HO.out]; rfl, HB.out⟩

end Go.Proofs.YtonhnflilfjkbaaGreatDoor

/-
  What is written is read as it was, and what is read is written as it was: on lists.
-/
namespace Go.Proofs.YtonhnflilfjkbaaGreatDoor
open Go.RowKit

end Go.Proofs.YtonhnflilfjkbaaGreatDoor

/-
  What is read is written as it was, and its instructions lie one behind the other: on lists.
-/
namespace Go.Proofs.YtonhnflilfjkbaaGreatDoor
open Go.RowKit

end Go.Proofs.YtonhnflilfjkbaaGreatDoor

/-
  Plain facts on bytes that say a module: what Decode answers, as functions of the bytes; bytes to module and back, and the other way.
-/
namespace Go.Proofs.YtonhnflilfjkbaaGreatDoor
open Go.RowKit
set_option linter.unusedVariables false

/-! ### what is read lies within its bounds -/

end Go.Proofs.YtonhnflilfjkbaaGreatDoor

/-
  What Split of the words package returns, for every list of bytes: its error, and its words in new memory; nothing that was there has turned.
-/
namespace Go.Proofs.YtonhnflilfjkbaaGreatDoor
open Go.RowKit
set_option maxRecDepth 10000

theorem Split.info : (Tryz.prog.info? 22).map (fun i => (i.zero, i.size, i.bytes)) = some (some (.int .u32 0), 1, 4) := by kernel_rfl

end Go.Proofs.YtonhnflilfjkbaaGreatDoor

/-
  What Write of frame returns, for every head and every list of instructions: its error and its place, or the words, in new memory.
-/
namespace Go.Proofs.YtonhnflilfjkbaaGreatDoor
open Go.RowKit

theorem write_bound (gen bound : Int) (a : Option Addr) (n cap : Nat) (w : World) (hb0 : 0 ≤ bound) (hb1 : bound < 4294967296) (hb : bound = 0 ∨ 65536 < bound) :
    Calls Tryz.prog 71 #[.agg #[.int .u32 gen, .int .u32 bound], .slice a n cap] w fun e w' => e = .returned (.tuple #[.slice none 0 0, .agg #[.int .i64 24, .int .i64 0]]) ∧ Below w.heap.size w w' := by
  have hM := fun w => mayBeBound_any bound w hb0 hb1
  have e1 : (!(decide (bound = 0) || decide (65536 < bound))) = false := by rcases hb with h1 | h1 <;> simp [h1]
  rw [e1] at hM
  clear hb e1
  go_enter Tryz.func71, Tryz.ntmps71
  go_wp2_with (go_at_call 111; refine (hM _).mono ?_; rintro e w' ⟨rfl, rfl⟩)
  exact bodyPost_ret (v := .tuple #[.slice none 0 0, .agg #[.int .i64 24, .int .i64 0]]) (by simp [results, Tryz.results71, go_sem]) rfl ⟨rfl, ((Below.refl _ _).alloc (Nat.le_refl _) _).alloc (by simp) _⟩

theorem bound_ok {bound : Int} (hb1 : ¬ bound = 0) (hb2 : ¬ 65536 < bound) : (!(decide (bound = 0) || decide (65536 < bound))) = true := by simp [hb1]; omega

set_option maxRecDepth 100000 in
set_option maxHeartbeats 4000000 in
theorem write_fault (gen bound : Int) (a : Option Addr) (n cap : Nat) (rs : List (Int × List Int)) (w : World) (hb0 : 0 ≤ bound) (hb1 : ¬ bound = 0) (hb2 : ¬ 65536 < bound) (ha : RawsV w a rs) (hok : RawsOk rs) (hl : rs.length = n) (hn : 32 * n ≤ 140737488351232) (hz : ¬ (fault rs 0).1 = 0) :
    Calls Tryz.prog 71 #[.agg #[.int .u32 gen, .int .u32 bound], .slice a n cap] w fun e w' => e = .returned (.tuple #[.slice none 0 0, .agg #[.int .i64 (fault rs 0).1, .int .i64 (fault rs 0).2]]) ∧ Below w.heap.size w w' := by
  have hF := fun wx (hb : Below w.heap.size w wx) => measure_any a n cap rs wx (ha.below hb) hok hl hn
  have hM := fun w => mayBeBound_any bound w hb0 (by omega)
  rw [bound_ok hb1 hb2] at hM
  have hzb : ((fault rs 0).1 == 0) = false := by simpa using hz
  clear hz
  generalize (fault rs 0).1 = er at hF hzb ⊢
  generalize (fault rs 0).2 = at_ at hF ⊢
  generalize sizeOut rs = so at hF
  clear hl hb1 hb2
  go_enter Tryz.func71, Tryz.ntmps71
  go_wp2_with (go_at_call 111; refine (hM _).mono ?_; rintro e w' ⟨rfl, rfl⟩)
  refine (hF _ (((Below.refl _ w).alloc (Nat.le_refl _) (.cells #[.int .u32 gen, .int .u32 bound] 106)).alloc (by simp) (.cells #[.int .i64 0, .int .i64 0] 28))).mono ?_
  rintro e w1 ⟨rfl, hbF⟩
  have hres1 : w1.heap[w.heap.size + 1]? = some (.cells #[.int .i64 0, .int .i64 0] 28 (0, 0)) := by
    rw [hbF.block _ (by simp)]
    have := heap_alloc_new (w.alloc (.cells #[.int .u32 gen, .int .u32 bound] 106)) (.cells #[.int .i64 0, .int .i64 0] 28)
    simpa using this
  have s1 : w.heap.size + 2 ≤ w1.heap.size := by have := hbF.size; simp at this; omega
  have hbw1 : Below w.heap.size w w1 := (((Below.refl _ w).alloc (Nat.le_refl _) _).alloc (by simp) _).trans (hbF.mono (by simp; omega))
  have hres2 := (Below.heap_alloc w1 (.cells #[.int .i64 er, .int .i64 at_] 28) _ (by omega)).trans hres1
  have hbw2 := hbw1.alloc (by omega) (.cells #[.int .i64 er, .int .i64 at_] 28)
  obtain ⟨c0, c1, f1⟩ := cell_of_two hres2
  have f0 : (w1.alloc (.cells #[.int .i64 er, .int .i64 at_] 28)).frozen? ⟨w.heap.size + 1, 0, none⟩ = false := by simp [World.frozen?, hres2]
  have hz := spot_set hres2 (.int .i64 er) (.int .i64 at_)
  have HZ : Hid (_ ∧ _) := hz
  have HB : Hid _ := hbw2
  clear hz hres1 hres2 hbw1 hbF hF hbw2 hM
  go_wp2
  go_region
  all_goals
    go_wp2
    exact bodyPost_ret (v := .tuple #[.slice none 0 0, .agg #[.int .i64 er, .int .i64 at_]]) (by simp [results, Tryz.results71, go_sem, HZ.out.1, HZ.out.2]) rfl ⟨rfl, by first | exact ((HB.out.setCell (by simp) _).setCell (by simp) _).drew | exact ((HB.out.drew.setCell (by simp) _).setCell (by simp) _) | exact ((HB.out.setCell (by simp) _).setCell (by simp) _)⟩

set_option maxRecDepth 100000 in
set_option maxHeartbeats 4000000 in
theorem write_ok (gen bound : Int) (a : Option Addr) (n cap : Nat) (rs : List (Int × List Int)) (w : World) (hb0 : 0 ≤ bound) (hb1 : ¬ bound = 0) (hb2 : ¬ 65536 < bound) (ha : RawsV w a rs) (hok : RawsOk rs) (hl : rs.length = n) (hn : 32 * n ≤ 140737488351232) (hz : fault rs 0 = (0, 0)) :
    Calls Tryz.prog 71 #[.agg #[.int .u32 gen, .int .u32 bound], .slice a n cap] w fun e w' => ∃ ax cx m, e = .returned (.tuple #[.slice ax m cx, .agg #[.int .i64 0, .int .i64 0]]) ∧ (writeTo gen bound rs n).length = m ∧
      w'.ownsRow w.heap.size 22 1 (.slice ax m cx) m ((writeTo gen bound rs n).map (Value.int .u32)) ∧ Below w.heap.size w w' := by
  obtain ⟨i0, hi, hz0, hz1, hz2⟩ := info_parts RefWrite.info
  have HL : Hid (rs.length = n) := hl
  have HN : Hid (∀ k, k ≤ n → sizeTo rs k ≤ 1048576 ∧ ∀ j, j < k → (nthR rs j).2.length < 65535) := by
    have := fault_none rs (by rw [hz])
    rw [hl] at this
    exact this
  have HWL : Hid (∀ k, k ≤ n → (writeTo gen bound rs k).length = sizeTo rs k) := fun k hk => writeTo_len gen bound rs k (by omega)
  have HWS : Hid (∀ k, k < n → writeTo gen bound rs (k + 1) = writeTo gen bound rs k ++ rawW (nthR rs k)) := fun k hk => writeTo_succ gen bound rs k (by omega)
  have hF := fun wx (hb : Below w.heap.size w wx) => measure_any a n cap rs wx (ha.below hb) hok hl hn
  have hM := fun w => mayBeBound_any bound w hb0 (by omega)
  rw [bound_ok hb1 hb2] at hM
  have hso : sizeOut rs = (sizeTo rs n : Int) := by unfold sizeOut; rw [hz, if_pos rfl, hl]
  rw [hz, hso] at hF
  have hsn := (HN.out n (Nat.le_refl _)).1
  generalize hsn' : sizeTo rs n = sn at hsn hF
  clear hl hz hb1 hb2 hso
  go_enter Tryz.func71, Tryz.ntmps71
  go_wp2_with (go_at_call 111; refine (hM _).mono ?_; rintro e w' ⟨rfl, rfl⟩)
  refine (hF _ (((Below.refl _ w).alloc (Nat.le_refl _) (.cells #[.int .u32 gen, .int .u32 bound] 106)).alloc (by simp) (.cells #[.int .i64 0, .int .i64 0] 28))).mono ?_
  rintro e w1 ⟨rfl, hbF⟩
  have hres1 : w1.heap[w.heap.size + 1]? = some (.cells #[.int .i64 0, .int .i64 0] 28 (0, 0)) := by
    rw [hbF.block _ (by simp)]
    have := heap_alloc_new (w.alloc (.cells #[.int .u32 gen, .int .u32 bound] 106)) (.cells #[.int .i64 0, .int .i64 0] 28)
    simpa using this
  have hbox1 : w1.heap[w.heap.size]? = some (.cells #[.int .u32 gen, .int .u32 bound] 106 (0, 0)) := by
    rw [hbF.block _ (by simp; omega), Below.heap_alloc _ _ _ (by simp)]
    exact heap_alloc_new w _
  have s1 : w.heap.size + 2 ≤ w1.heap.size := by have := hbF.size; simp at this; omega
  have hbw1 : Below w.heap.size w w1 := (((Below.refl _ w).alloc (Nat.le_refl _) _).alloc (by simp) _).trans (hbF.mono (by simp; omega))
  clear hF hbF hM
  go_wp2_with (at_make; refine wpList_make_own _ rfl _ _ 52 rfl (w.heap.size + 2) 22 i0 (.int .u32 0) 1 Tryz.underlying52 hi hz0 hz1 _ _ _ sn rfl rfl (by omega) (by rw [hz2]; omega) (by unfold maxLen; omega) (by simp; omega) ?_)
  intro w2 hown2 hgrow2
  have s2 := hgrow2.size
  simp only [World.size_alloc] at hown2 s2
  have hres2 : w2.heap[w.heap.size + 1]? = some (.cells #[.int .i64 0, .int .i64 0] 28 (0, 0)) := (hgrow2.block _ (by simp; omega) (by simp)).trans ((Below.heap_alloc w1 _ _ (by omega)).trans hres1)
  have hbox2 := (hgrow2.block w.heap.size (by simp; omega) (by simp)).trans ((Below.heap_alloc w1 _ _ (by omega)).trans hbox1)
  have hbw2 : Below w.heap.size w w2 := (hbw1.alloc (by omega) _).grown hgrow2 (by simp; omega) (fun k hk => by cases hk)
  obtain ⟨c0, c1, _⟩ := cell_of_two hbox2
  clear hgrow2 hres1 hbox1 hbox2 hbw1
  generalize w1.heap.size = G at *
  go_wp2_with (at_builtin; refine wpList_append_lies _ rfl (.tmp 27) (.tmp 32) 52 rfl (w.heap.size + 2) 22 i0 (.int .u32 0) 1 4 Tryz.underlying52 hi hz0 hz1 hz2 rfl (by omega) (.slice (some ⟨G + 1, 0, none⟩) 0 sn) 0 [] rfl (hown2.alloc _) ⟨w2.heap.size, 0, none⟩ 5 5 [.int .u32 119734787, .int .u32 65536, .int .u32 gen, .int .u32 bound, .int .u32 0] rfl rfl (World.news_of_block (cs := #[.int .u32 119734787, .int .u32 65536, .int .u32 gen, .int .u32 bound, .int .u32 0]) (t := 22) (fr := (0, 0)) (heap_alloc_new w2 _)) (by simp [Value.oneCell']) (by omega) (by unfold maxLen; omega) (by omega) (by simp; omega) (w2.heap.size + 1) (by simp) ?_)
  intro g3 cap3 w3 hown3 hgrow3 hat3 hlt3
  have hres3 := (hgrow3.block (w.heap.size + 1) (by simp; omega) (fun e => by simp [Value.ownBlock] at e; omega)).trans ((Below.heap_alloc w2 _ _ (by omega)).trans hres2)
  have hbw3 : Below w.heap.size w w3 := (hbw2.alloc (by omega) _).grown hgrow3 (by simp; omega) (fun k hk => by simp [Value.ownBlock] at hk; omega)
  clear hgrow3 hat3 hown2 hres2 hbw2 hlt3 c0 c1
  go_wp2
  go_loopw [8, 36] (fun v i wr => ∃ (k : Nat), k ≤ n ∧ i = .int .i64 k ∧ wr.ownsRow (w.heap.size + 2) 22 1 v (sizeTo rs k) ((writeTo gen bound rs k).map (Value.int .u32)) ∧
      wr.heap[w.heap.size + 1]? = some (.cells #[.int .i64 0, .int .i64 0] 28 (0, 0)) ∧ Below w.heap.size w wr)
    (fun _ i _ => n - (intOf i).toNat)
  case atStart => exact ⟨0, Nat.zero_le _, rfl, by simpa [writeTo, sizeTo] using hown3, hres3, hbw3⟩
  case round =>
    obtain ⟨k, hk, rfl, hown, hres, hnx⟩ := hrel
    obtain ⟨ax, cx, rfl⟩ := own_shape hown
    clear hown3 hres3 hbw3
    have hsz := hnx.size
    have hlt1 : w.heap.size + 1 < wr.heap.size := (Array.getElem?_eq_some_iff.1 hres).1
    have hob : ∀ j, Value.ownBlock (.slice ax (sizeTo rs k) cx) = some j → w.heap.size + 2 ≤ j ∧ j < wr.heap.size := fun j hj => by
      rcases hown.2 with ⟨h1, _⟩ | ⟨g, c, cur, h1, h2, h3, _⟩
      · rw [h1] at hj; simp [Value.ownBlock] at hj
      · rw [h1] at hj; simp [Value.ownBlock] at hj; subst hj; exact ⟨h2, (Array.getElem?_eq_some_iff.1 h3).1⟩
    by_cases hlt : k < n
    · obtain ⟨b, off, aj, cj, nj, rfl, hbs, p1, p2, p3, p4, _⟩ := ha k (by rw [HL.out]; exact hlt)
      obtain ⟨o1, o2, _, _⟩ := hok k (by rw [HL.out]; exact hlt)
      have HS : Hid (sizeTo rs (k + 1) = sizeTo rs k + 1 + nj) := by show _ = _; rw [sizeTo_succ rs k (by rw [HL.out]; exact hlt), p3]
      have h1 := (HN.out k hk).1
      have h2 := (HN.out (k + 1) hlt).1
      have h3 := (HN.out (k + 1) hlt).2 k (by omega)
      rw [HS.out] at h2
      rw [p3] at h3
      have HWK : Hid (writeTo gen bound rs (k + 1) = writeTo gen bound rs k ++ ((((nj : Int) + 1) * 65536 + (nthR rs k).1) :: (nthR rs k).2)) := by
        show _ = _; rw [HWS.out k hlt, rawW, p3]
      have HP3 : Hid ((nthR rs k).2.length = nj) := p3
      have q1 := (hnx.cell (p := ⟨b, off + k * 2, none⟩) hbs).trans p1
      have q2 := (hnx.cell (p := ⟨b, off + k * 2 + 1, none⟩) hbs).trans p2
      have hki : (k : Int) < (n : Int) := by omega
      have hk0 : (0 : Int) ≤ (k : Int) := by omega
      have hW := fun wx => firstWord_any (nthR rs k).1 aj nj cj wx h3 o1 o2
      clear p1 p2 p3 hok ha
      generalize hs : sizeTo rs k = s at *
      generalize writeTo gen bound rs k = ws at *
      generalize (nthR rs k).1 = op at *
      generalize (nthR rs k).2 = ms at *
      go_wp2_with fail
      refine (hW _).mono ?_
      rintro e w4 ⟨rfl, hb4⟩
      have s4 := hb4.size
      simp only [World.size_alloc] at s4
      have hown4 := own_below (hown.alloc (.cells #[.int .u16 op, .slice aj nj cj] 54)) hb4
      have hr4 := (hb4.block wr.heap.size (by simp)).trans (heap_alloc_new wr (.cells #[.int .u16 op, .slice aj nj cj] 54))
      have hres4 := (hb4.block (w.heap.size + 1) (by simp; omega)).trans ((Below.heap_alloc wr _ _ hlt1).trans hres)
      have hbw4 : Below w.heap.size w w4 := (hnx.alloc hsz _).trans (hb4.mono (by simp; omega))
      clear hb4 hW q1 q2 hown hres hnx
      go_wp2_with (at_builtin; refine wpList_append_lies _ rfl (.tmp 40) (.tmp 43) 52 rfl (w.heap.size + 2) 22 i0 (.int .u32 0) 1 4 Tryz.underlying52 hi hz0 hz1 hz2 rfl (by omega) (.slice ax s cx) s _ rfl (hown4.alloc _) ⟨w4.heap.size, 0, none⟩ 1 1 [.int .u32 (((nj : Int) + 1) * 65536 + op)] rfl rfl (World.news_of_block (cs := #[.int .u32 (((nj : Int) + 1) * 65536 + op)]) (t := 22) (fr := (0, 0)) (heap_alloc_new w4 _)) (by simp [Value.oneCell']) (by omega) (by unfold maxLen; omega) (by omega) (by simp; omega) (w4.heap.size + 1) (by simp) ?_)
      intro g5 cap5 w5 hown5 hgrow5 hat5 hlt5
      have hr5 := (hgrow5.block wr.heap.size (by simp; omega) (fun e => by have := (hob _ e.symm).2; omega)).trans ((Below.heap_alloc w4 _ _ (by omega)).trans hr4)
      have hres5 := (hgrow5.block (w.heap.size + 1) (by simp; omega) (fun e => by have := (hob _ e.symm).1; omega)).trans ((Below.heap_alloc w4 _ _ (by omega)).trans hres4)
      have hbw5 : Below w.heap.size w w5 := (hbw4.alloc (by omega) _).grown hgrow5 (by simp; omega) (fun k hk => (by have := (hob k hk).1; omega))
      have s5 := hgrow5.size
      simp only [World.size_alloc] at s5
      obtain ⟨d0, d1, _⟩ := cell_of_two hr5
      have hg5 : w.heap.size + 2 ≤ g5 := by
        rcases hat5 with h | h
        · exact (hob _ h).1
        · omega
      clear hgrow5 hat5 hown4 hr4 hres4 hbw4 hob hr5
      have hown6 : w5.ownsRow (w.heap.size + 2) 22 1 (.slice (some ⟨g5, 0, none⟩) (s + 1) cap5) (s + 1) ((ws ++ [((nj : Int) + 1) * 65536 + op]).map (Value.int .u32)) := by simpa using hown5
      clear hown5
      by_cases hnj : nj = 0
      · subst hnj
        have hms : ms = [] := List.eq_nil_of_length_eq_zero HP3.out
        subst hms
        have hcap : s + 1 ≤ cap5 := by
          rcases hown6.2 with ⟨h, _⟩ | ⟨g, c', cur, h, _, _, h4, _⟩
          · simp at h
          · cases h; exact h4
        go_wp2_with (at_builtin; refine append_run _ rfl (.tmp 45) (.tmp 47) 52 rfl (.slice (some ⟨g5, 0, none⟩) (s + 1) cap5) (.slice aj 0 cj) _ _ rfl rfl (fun ty => run_append_nothing _ _ ty 22 i0 Tryz.underlying52 hi (some ⟨g5, 0, none⟩) (s + 1) cap5 hcap aj cj) ?_)
        go_wp2
        go_roundw
        case rel => exact ⟨k + 1, by omega, by go_num, by rw [HWK.out, HS.out]; simpa using hown6, hres5, hbw5⟩
        case measure => simp [intOf]; omega
      · obtain ⟨b6, off6, rfl, _, _⟩ := p4 0 (by rw [HP3.out]; omega)
        have hv5 := p4.below hbw5
        have hnews : ∀ j u, (ms.map (Value.int .u32))[j]? = some u → w5.cell? ((⟨b6, off6, none⟩ : Addr).add j) = some u := by
          intro j u hj
          rw [List.getElem?_map] at hj
          have hjl : j < ms.length := by
            rcases Nat.lt_or_ge j ms.length with h | h
            · exact h
            · rw [List.getElem?_eq_none h] at hj; simp at hj
          obtain ⟨b', off', e', _, hc'⟩ := hv5 j hjl
          simp at e'
          obtain ⟨rfl, rfl⟩ := e'
          rw [Addr.add_lit, hc', ← hj, List.getElem?_eq_getElem hjl]
          simp [nth, List.getD, hjl]
        clear p4 hv5
        go_wp2_with (at_builtin; refine wpList_append_lies _ rfl (.tmp 45) (.tmp 47) 52 rfl (w.heap.size + 2) 22 i0 (.int .u32 0) 1 4 Tryz.underlying52 hi hz0 hz1 hz2 rfl (by omega) (.slice (some ⟨g5, 0, none⟩) (s + 1) cap5) (s + 1) _ rfl hown6 ⟨b6, off6, none⟩ nj cj (ms.map (Value.int .u32)) rfl (by rw [List.length_map, HP3.out]; omega) hnews (ints_oneCell .u32 ms) (by omega) (by unfold maxLen; omega) (by omega) (by omega) w5.heap.size rfl ?_)
        intro g7 cap7 w7 hown7 hgrow7 hat7 hlt7
        have hres7 := (hgrow7.block (w.heap.size + 1) (by omega) (fun e => by simp [Value.ownBlock] at e; omega)).trans hres5
        have hbw7 : Below w.heap.size w w7 := hbw5.grown hgrow7 hbw5.size (fun k hk => by simp [Value.ownBlock] at hk; omega)
        clear hgrow7 hat7 hown6 hres5 hbw5 hnews d0 d1
        go_wp2
        go_roundw
        case rel => exact ⟨k + 1, by omega, by go_num, by rw [HWK.out, HS.out]; simpa using hown7, hres7, hbw7⟩
        case measure => simp [intOf]; omega
    · obtain rfl : k = n := by omega
      obtain ⟨c0, c1, f1⟩ := cell_of_two hres
      have f0 : wr.frozen? ⟨w.heap.size + 1, 0, none⟩ = false := by simp [World.frozen?, hres]
      have hz := spot_set hres (.int .i64 0) (.int .i64 0)
      have HZ : Hid (_ ∧ _) := hz
      clear hz hres ha hok hob
      go_wp2
      refine bodyPost_ret (v := .tuple #[.slice ax (sizeTo rs k) cx, .agg #[.int .i64 0, .int .i64 0]]) (by simp [results, Tryz.results71, go_sem, HZ.out.1, HZ.out.2]) rfl ⟨ax, cx, _, rfl, HWL.out k hk, ?_, ?_⟩
      · exact own_base (ownsRow_setCell_below (ownsRow_setCell_below hown (by simp) _) (by simp) _) (by omega)
      · exact (hnx.setCell (by simp) _).setCell (by simp) _

/-- Write answers as is asked of it. -/
theorem writeC : WriteC 71 := by
  intro gen bound a n cap rs w _ _ hb0 hb3 ha hok hl hn _
  by_cases h1 : bound = 0 ∨ 65536 < bound
  · have e1 : writeE bound rs = (24, 0) := by unfold writeE; rw [if_pos h1]
    refine (write_bound gen bound a n cap w hb0 hb3 h1).mono ?_
    rintro e w' ⟨rfl, hb⟩
    refine ⟨hb, none, 0, 0, ?_, ?_, ?_⟩
    · simp [e1]
    · simp [writeL, e1]
    · simp only [writeL, e1]; exact World.ownsRow_nil _ _ _ _
  · have e1 : writeE bound rs = fault rs 0 := by unfold writeE; rw [if_neg h1]
    have h2 : ¬ bound = 0 := fun h => h1 (.inl h)
    have h3 : ¬ 65536 < bound := fun h => h1 (.inr h)
    rcases fault_any rs with hz | hz
    · refine (write_ok gen bound a n cap rs w hb0 h2 h3 ha hok hl hn hz).mono ?_
      rintro e w' ⟨ax, cx, m, rfl, h4, h5, hb⟩
      have e2 : writeL gen bound rs = writeTo gen bound rs n := by unfold writeL; rw [e1, hz, if_pos rfl, hl]
      refine ⟨hb, ax, cx, m, ?_, ?_, ?_⟩
      · rw [e1, hz]; rfl
      · rw [e2]; exact h4
      · rw [e2]; exact h5
    · refine (write_fault gen bound a n cap rs w hb0 h2 h3 ha hok hl hn hz).mono ?_
      rintro e w' ⟨rfl, hb⟩
      have e2 : writeL gen bound rs = [] := by unfold writeL; rw [e1, if_neg hz]
      refine ⟨hb, none, 0, 0, ?_, ?_, ?_⟩
      · rw [e1]
      · rw [e2]; rfl
      · rw [e2]; exact World.ownsRow_nil _ _ _ _

end Go.Proofs.YtonhnflilfjkbaaGreatDoor

/-
  headOf and frontOf of the package code: what they answer.
-/
namespace Go.Proofs.YtonhnflilfjkbaaGreatDoor
open Go.RowKit

theorem headOf_any (g b : Int) (a : Option Addr) (n c : Nat) (w : World) :
    Calls Tryz.prog 72 #[modV g b a n c] w fun e w' => e = .returned (.agg #[.int .u32 g, .int .u32 b]) ∧ Below w.heap.size w w' := by
  unfold modV
  go_enter Tryz.func72, Tryz.ntmps72
  go_wp2
  refine bodyPost_ret (v := .agg #[.int .u32 g, .int .u32 b]) ?_ rfl ⟨rfl, ?_⟩
  · simp [results, Tryz.results72, go_sem]
  · exact two_boxes w _ _

end Go.Proofs.YtonhnflilfjkbaaGreatDoor
