/-
  Texts laid together in one: MathI, MathT, MathN, WordsByteAt, WordsTextEnd, WordsJoin, WordsText, WordsText2, SlicesClone, Ref01Byte, Ref01Text, WordsTextSame, WordsReader, WordsReaderCalls, CodeRarg, CodeRargs, RowI, FrameSmall, WordsTurned, FrameHeadFault, FrameReadHead, FrameApart, FrameParts, FrameRead, FrameTold, FrameParts2, FrameEach2, CodeRinst, WordsNew, CodeInst, Math2, MathR, MathC, MathB, MathRL, FrameMeasure, MathRW, MathWR, MathD, WordsSplit.
-/
import Derived.Test.YtgjedfmipllocaaGreatDoorB01
import Derived.Test.YtgjedfmipllocaaGreatDoorB05
import Derived.Test.YtgjedfmipllocaaGreatDoorB06
import Derived.Test.YtgjedfmipllocaaGreatDoorProg
import Derived.WalkSpells
import Derived.WalkMore
import Derived.Test.YtgjedfmipllocaaGreatDoorB02
import Derived.Deep.QuietTactic
import Derived.BigQuiet
import Derived.Test.YtgjedfmipllocaaGreatDoorB03
import Derived.Laws.AppendOwn
import Derived.BigRegion
import Derived.RangeFuncNested
import Derived.RangeFuncBound
import Derived.RangeFuncCalls
import Derived.RangeFuncLeaves
import Derived.Shelf.Abstract
import Derived.Shelf.RegionOpen
import Derived.WalkKit
import Derived.OwnWalkIn
import Derived.TacticsInMore
import Derived.LoopNIn
import Derived.LoopIn
import Derived.Deep.AppendLies
import Derived.Deep.RegionHeld2
import Derived.Test.YtgjedfmipllocaaGreatDoorB04
import Derived.Deep.RegionWith
import Derived.Deep.DrawnRows
/-
  Plain facts on instructions as words: what is wrong with an instruction, and its words.
-/
namespace Go.Proofs.YtgjedfmipllocaaGreatDoor
open Go.RowKit
set_option linter.unusedVariables false
set_option linter.unusedSimpArgs false

/-- Is a byte of a text zero? -/
def nulS (s : ByteArray) : Bool := s.data.toList.any (· == 0)
theorem nulS_false {s : ByteArray} : nulS s = false ↔ NoNul s := by
  unfold nulS NoNul
  rw [List.any_eq_false]
  constructor
  · intro h k hk
    rw [nth_strI s k hk]
    intro e
    have h1 : s[k].toNat = 0 := by omega
    have h2 : s.data.toList[k]'(by rw [size_list]; exact hk) = 0 := UInt8.toNat_inj.1 h1
    exact h _ (List.getElem_mem (by rw [size_list]; exact hk)) (by simp [h2])
  · intro h x hx hx0
    obtain ⟨k, hk, rfl⟩ := List.mem_iff_getElem.1 hx
    have hk' : k < s.size := by rw [← size_list]; exact hk
    apply h k hk'
    rw [nth_strI s k hk']
    have e : s[k] = s.data.toList[k] := rfl
    rw [e, eq_of_beq hx0]
    rfl
theorem nulS_true {s : ByteArray} (h : nulS s = true) : ∃ k, k < s.size ∧ nth (strI s) k = 0 := by
  apply Classical.byContradiction
  intro hn
  have : NoNul s := fun k hk e => hn ⟨k, hk, e⟩
  rw [← nulS_false] at this
  rw [this] at h
  cases h
/-- What is wrong with an argument. -/
def wrongA (c : Int) (x : ArgT) (b : Int) : Int := if mayStandB c x = false then 42 else if x.1 = 3 then (if nulS x.2.2 then 13 else 0) else faultW c x.2.1 b

/-- The first wrong argument's error. -/
def wrongL (f : Frm) (b : Int) : Nat → List ArgT → Int
  | _, [] => 0
  | k, x :: l => if wrongA (letterI f k) x b = 0 then wrongL f b (k + 1) l else wrongA (letterI f k) x b

/-- An argument's words. -/
def wordsA (x : ArgT) : List Int := if x.1 = 3 then textW x.2.2 else [x.2.1]
theorem wordsA_len (x : ArgT) : (wordsA x).length = if x.1 = 3 then x.2.2.size / 4 + 1 else 1 := by
  unfold wordsA
  split
  · exact textW_len _
  · rfl
def wordsL (l : List ArgT) : List Int := l.flatMap wordsA
/-- The ids ahead of the arguments. -/
def headW (f : Frm) (t r : Int) : List Int := (if f.2.1 then [t] else []) ++ (if f.2.2.1 then [r] else [])
/-- An instruction's words. -/
def rawL (f : Frm) (x : InstT) : List Int := headW f x.2.1 x.2.2.1 ++ wordsL x.2.2.2

/-- What is wrong with an instruction, its form being f. -/
def faultI (f : Frm) (x : InstT) (b : Int) : Int :=
  if idE f.2.1 x.2.1 b 40 ≠ 0 then idE f.2.1 x.2.1 b 40
  else if idE f.2.2.1 x.2.2.1 b 41 ≠ 0 then idE f.2.2.1 x.2.2.1 b 41
  else if wrongL f b 0 x.2.2.2 ≠ 0 then wrongL f b 0 x.2.2.2
  else if wholeN f x.2.2.2.length = false then 42
  else if 65535 < 1 + (rawL f x).length then 25 else 0
/-- What Raw answers: its error. -/
def rawE (x : InstT) (b : Int) : Int := if (lookF refT x.1).2 then faultI (lookF refT x.1).1 x b else 30
/-- Its words. -/
def rawWs (x : InstT) (b : Int) : List Int := if rawE x b = 0 then rawL (lookF refT x.1).1 x else []

theorem wrongL_zero {f : Frm} {b : Int} : ∀ {l : List ArgT} {k : Nat}, wrongL f b k l = 0 → ∀ j, j < l.length → wrongA (letterI f ((k + j : Nat) : Int)) (nthA l j) b = 0
  | [], _, _, j, hj => by simp at hj
  | x :: l, k, h, j, hj => by
    rw [wrongL] at h
    by_cases h0 : wrongA (letterI f k) x b = 0
    · rw [if_pos h0] at h
      cases j with
      | zero => exact h0
      | succ j =>
        have := wrongL_zero h j (by simpa using hj)
        rw [show k + (j + 1) = k + 1 + j by omega]
        exact this
    · rw [if_neg h0] at h; exact absurd h h0
/-- The first that is wrong. -/
theorem wrongL_first {f : Frm} {b : Int} : ∀ {l : List ArgT} {k j : Nat}, j < l.length → (∀ i, i < j → wrongA (letterI f ((k + i : Nat) : Int)) (nthA l i) b = 0) → wrongA (letterI f ((k + j : Nat) : Int)) (nthA l j) b ≠ 0 → wrongL f b k l = wrongA (letterI f ((k + j : Nat) : Int)) (nthA l j) b
  | [], _, j, hj, _, _ => by simp at hj
  | x :: l, k, 0, _, _, h => by
    rw [wrongL, if_neg (show ¬ wrongA (letterI f k) x b = 0 from h)]; rfl
  | x :: l, k, j + 1, hj, h0, h => by
    have h1 : wrongA (letterI f k) x b = 0 := h0 0 (by omega)
    rw [wrongL, if_pos h1]
    have e := wrongL_first (f := f) (b := b) (l := l) (k := k + 1) (j := j) (by simpa using hj) (fun i hi => by have := h0 (i + 1) (by omega); rw [show k + (i + 1) = k + 1 + i by omega] at this; exact this) (by rw [show k + (j + 1) = k + 1 + j by omega] at h; exact h)
    rw [e, show k + (j + 1) = k + 1 + j by omega]; rfl
theorem wrongL_none {f : Frm} {b : Int} : ∀ {l : List ArgT} {k : Nat}, (∀ i, i < l.length → wrongA (letterI f ((k + i : Nat) : Int)) (nthA l i) b = 0) → wrongL f b k l = 0
  | [], _, _ => rfl
  | x :: l, k, h => by
    have h1 : wrongA (letterI f k) x b = 0 := h 0 (by simp)
    rw [wrongL, if_pos h1]
    exact wrongL_none fun i hi => by have := h (i + 1) (by simpa using hi); rw [show k + (i + 1) = k + 1 + i by omega] at this; exact this

/-- An argument that is right stands, and has its letter's kind. -/
theorem wrongA_kind {c : Int} {x : ArgT} {b : Int} (h : wrongA c x b = 0) : c ≠ 0 ∧ x.1 = kindI c := by
  unfold wrongA at h
  split at h
  · cases h
  · rename_i hm
    simp [mayStandB] at hm
    exact ⟨hm.1, hm.2.1⟩

/-- Where all arguments stand, the kinds fit just if they are whole. -/
theorem fits_whole {f : Frm} {l : List ArgT} (h : ∀ i, i < l.length → letterI f (i : Int) ≠ 0 ∧ (nthA l i).1 = kindI (letterI f (i : Int))) : (fitsI true f (kindsL l)).2 = wholeN f l.length := by
  have hl : (kindsL l).length = l.length := by simp [kindsL]
  have hb : ∀ j, j < l.length → badK f (kindsL l) j = false := fun j hj => by
    obtain ⟨h1, h2⟩ := h j hj
    simp [badK, h1, kindsL_nth l j hj, h2]
  unfold fitsI
  rw [if_neg (by simp), hl, range_not _ hb]
  have e : (if wholeB f l.length = true then ((0 : Int), true) else ((l.length : Int), false)).2 = wholeB f l.length := by split <;> simp_all
  simp only [e]
  unfold wholeB wholeN
  rw [Bool.eq_iff_iff]
  by_cases h1 : (l.length : Int) < f.2.2.2.1.size
  · rw [if_pos h1]
    simp; constructor
    · omega
    · intro h2; omega
  · rw [if_neg h1]
    by_cases h2 : f.2.2.2.2.1.size = 0
    · rw [if_pos h2]
      have h3 : ¬ f.2.2.2.1.size < l.length := fun h3 => rest_of_letters (f := f) (zs := kindsL l) (fun j hj => hb j (by rw [← hl]; exact hj)) (by rw [hl]; exact h3) h2
      simp; omega
    · rw [if_neg h2]
      simp
      constructor
      · rintro (h3 | ⟨_, h3⟩)
        · rw [show (l.length : Int) - f.2.2.2.1.size = 0 by omega]; simp
        · exact h3
      · intro h3
        by_cases h4 : (l.length : Int) - f.2.2.2.1.size = 0
        · exact .inl h4
        · exact .inr ⟨by omega, h3⟩

/-- No row of Rest has a text. -/
def noText (f : Frm) : Bool := f.2.2.2.2.1.data.toList.all (fun x => x != 115)
theorem refT_noText : refT.all (fun p => noText p.2 && shortF p.2) = true := by decide +kernel
theorem look_noText (n : Int) : noText (lookF refT n).1 = true ∧ shortF (lookF refT n).1 = true := by
  by_cases h : (lookF refT n).2 = true
  · have := (List.all_eq_true.1 refT_noText) _ (lookF_true h)
    simpa using this
  · rw [(lookF_false (by simpa using h)).1]; exact ⟨rfl, rfl⟩
theorem text_fixed {f : Frm} (hf : noText f = true) {k : Nat} (h : kindI (letterI f (k : Int)) = 3) : k < f.2.2.2.1.size := by
  apply Classical.byContradiction
  intro hn
  have hk : kindI 0 ≠ 3 := by decide
  unfold letterI at h
  rw [if_neg (by omega), if_neg (by omega)] at h
  split at h
  · rename_i hm
    generalize hj : (((k : Int) - f.2.2.2.1.size) % f.2.2.2.2.1.size).toNat = j at h
    have hlt : j < f.2.2.2.2.1.size := by
      unfold mayB at hm
      by_cases h0 : f.2.2.2.2.1.size = 0
      · rw [if_pos h0] at hm; cases hm
      · have := Int.emod_lt_of_pos ((k : Int) - f.2.2.2.1.size) (show (0 : Int) < f.2.2.2.2.1.size by omega)
        have := Int.emod_nonneg ((k : Int) - f.2.2.2.1.size) (show (f.2.2.2.2.1.size : Int) ≠ 0 by omega)
        omega
    have h1 : sgn f.2.2.2.2.1 j = 115 := by
      unfold kindI at h
      split at h
      · cases h
      · split at h
        · cases h
        · split at h
          · assumption
          · split at h <;> cases h
    have hl : j < f.2.2.2.2.1.data.toList.length := by rw [size_list]; exact hlt
    have h2 := (List.all_eq_true.1 hf) (f.2.2.2.2.1.data.toList[j]) (List.getElem_mem hl)
    simp only [bne_iff_ne, ne_eq] at h2
    apply h2
    have h3 : (f.2.2.2.2.1.data.toList[j]).toNat = 115 := by
      unfold sgn at h1
      rw [List.getD, List.getElem?_eq_getElem hl] at h1
      simp only [Option.getD_some] at h1
      omega
    exact UInt8.toNat_inj.1 h3
  · exact hk h

theorem wordsL_take (l : List ArgT) (k : Nat) (h : k < l.length) : wordsL (l.take (k + 1)) = wordsL (l.take k) ++ wordsA (nthA l k) := by
  unfold wordsL
  rw [List.take_add_one, List.getElem?_eq_getElem h, nthA_lt _ _ h, Option.toList_some, List.flatMap_append]
  simp

end Go.Proofs.YtgjedfmipllocaaGreatDoor

/-
  The text at the front of words, as a function of the words.
-/
namespace Go.Proofs.YtgjedfmipllocaaGreatDoor
open Go.RowKit

end Go.Proofs.YtgjedfmipllocaaGreatDoor

/-
  The instruction that words say, as a function of the words.
-/
namespace Go.Proofs.YtgjedfmipllocaaGreatDoor
open Go.RowKit
set_option linter.unusedVariables false
set_option linter.unusedSimpArgs false

end Go.Proofs.YtgjedfmipllocaaGreatDoor

/-
  What byteAt of the words package returns, for every word and every place from 0 to 3.
-/
namespace Go.Proofs.YtgjedfmipllocaaGreatDoor
open Go.RowKit
set_option maxRecDepth 10000

end Go.Proofs.YtgjedfmipllocaaGreatDoor

/-
  What textEnd of the words package returns: where the first byte 0 lies, or that there is none.
-/
namespace Go.Proofs.YtgjedfmipllocaaGreatDoor
open Go.RowKit
set_option maxRecDepth 10000

end Go.Proofs.YtgjedfmipllocaaGreatDoor

/-
  What Join of the words package returns, for every list of words whose bytes take at most 2^47 - 4096: their bytes, in new memory.
-/
namespace Go.Proofs.YtgjedfmipllocaaGreatDoor
open Go.RowKit
set_option maxRecDepth 10000

end Go.Proofs.YtgjedfmipllocaaGreatDoor

/-
  What Text of the words package returns, for every list of words: its error, or the text at their front and how many words it takes.
-/
namespace Go.Proofs.YtgjedfmipllocaaGreatDoor
open Go.RowKit
set_option maxRecDepth 10000

end Go.Proofs.YtgjedfmipllocaaGreatDoor

/-
  What Text of the words package returns, as one function of the words.
-/
namespace Go.Proofs.YtgjedfmipllocaaGreatDoor
open Go.RowKit

end Go.Proofs.YtgjedfmipllocaaGreatDoor

/-
  What slices.Clone of words returns: the words in new memory; nothing that was there has turned.
-/
namespace Go.Proofs.YtgjedfmipllocaaGreatDoor
open Go.RowKit
set_option maxRecDepth 10000

theorem Clone.info : (Tryz.prog.info? 22).map (fun i => (i.zero, i.size, i.bytes)) = some (some (.int .u32 0), 1, 4) := by kernel_rfl

end Go.Proofs.YtgjedfmipllocaaGreatDoor

/-
  What Byte of the document's answer returns: the k-th byte of words, for every k of theirs.
-/
namespace Go.Proofs.YtgjedfmipllocaaGreatDoor
open Go.RowKit
set_option maxRecDepth 10000

end Go.Proofs.YtgjedfmipllocaaGreatDoor

/-
  What Text of the document's answer returns, for every list of words: its error, or the text at their front and how many words it takes.
-/
namespace Go.Proofs.YtgjedfmipllocaaGreatDoor
open Go.RowKit

theorem RefText.info : (Tryz.prog.info? 5).map (fun i => (i.zero, i.size, i.bytes)) = some (some (.int .u8 0), 1, 1) := by kernel_rfl

end Go.Proofs.YtgjedfmipllocaaGreatDoor

/-
  Text of the words package and of the document's answer are the same, whatever the words.
-/
namespace Go.Proofs.YtgjedfmipllocaaGreatDoor
open Go.RowKit
set_option maxRecDepth 10000

end Go.Proofs.YtgjedfmipllocaaGreatDoor

/-
  What a reader's calls At, Left and take do: what they answer, and where the reader stands then.
-/
namespace Go.Proofs.YtgjedfmipllocaaGreatDoor
open Go.RowKit
set_option maxRecDepth 10000

end Go.Proofs.YtgjedfmipllocaaGreatDoor

/-
  What a reader's calls Word, Text and Take answer, and where the reader stands then.
-/
namespace Go.Proofs.YtgjedfmipllocaaGreatDoor
open Go.RowKit
set_option maxRecDepth 10000

end Go.Proofs.YtgjedfmipllocaaGreatDoor

/-
  What the methods ownId and arg of the package code's reader answer.
-/
namespace Go.Proofs.YtgjedfmipllocaaGreatDoor
open Go.RowKit
set_option linter.unusedVariables false
set_option linter.unusedSimpArgs false
set_option maxRecDepth 10000

end Go.Proofs.YtgjedfmipllocaaGreatDoor

/-
  What the method args of the package code's reader answers.
-/
namespace Go.Proofs.YtgjedfmipllocaaGreatDoor
open Go.RowKit
set_option linter.unusedVariables false
set_option linter.unusedSimpArgs false
set_option maxRecDepth 10000

theorem flat_arg : ∀ (l : List ArgT) (k j : Nat), k < l.length → j < 3 → (l.flatMap argC)[k * 3 + j]? = (argC (nthA l k))[j]?
  | x :: l, 0, j, _, hj => by
    rw [List.flatMap_cons, Nat.zero_mul, Nat.zero_add, List.getElem?_append_left (by simp [argC]; omega)]; rfl
  | x :: l, k + 1, j, hk, hj => by
    rw [List.flatMap_cons, List.getElem?_append_right (by simp [argC]; omega)]
    have := flat_arg l k j (by simpa using hk) hj
    rw [show (k + 1) * 3 + j - (argC x).length = k * 3 + j by simp [argC]; omega]
    exact this
/-- An owned row of arguments can be read. -/
theorem argsV_own {w : World} {B T n cap : Nat} {a : Option Addr} {l : List ArgT} (h : w.ownsRow B T 3 (.slice a n cap) n (l.flatMap argC)) (hl : l.length = n) : ArgsV w a l := by
  intro j hj
  rcases h.2 with ⟨hv, hn⟩ | ⟨g, cap', cur, hv, _, hg, _⟩
  · omega
  · cases hv
    have c0 := h.cellAt (j * 3 + 0) (by omega)
    have c1 := h.cellAt (j * 3 + 1) (by omega)
    have c2 := h.cellAt (j * 3 + 2) (by omega)
    rw [flat_arg l j 0 hj (by omega)] at c0
    rw [flat_arg l j 1 hj (by omega)] at c1
    rw [flat_arg l j 2 hj (by omega)] at c2
    exact ⟨g, 0, rfl, (Array.getElem?_eq_some_iff.1 hg).1, by rw [Nat.zero_add]; exact c0, by rw [Nat.zero_add]; exact c1, by rw [Nat.zero_add]; exact c2⟩

theorem Rargs.info : (Tryz.prog.info? 71).map (fun i => (i.zero, i.size, i.bytes)) = some (some (.agg #[.int .u8 0, .int .u32 0, .string ⟨#[]⟩]), 3, 24) := by kernel_rfl

end Go.Proofs.YtgjedfmipllocaaGreatDoor

/-
  A row of instructions while it is built, each with arguments in memory of its own.
-/
namespace Go.Proofs.YtgjedfmipllocaaGreatDoor
open Go.RowKit
set_option linter.unusedVariables false

/-- The instructions from the k-th on lie each in memory of its own, from block lo on; the row lies elsewhere. -/
def OwnI (w : World) (lo : Nat) (a : Option Addr) (k : Nat) (rs : List InstT) : Prop :=
  ∀ j, k ≤ j → j < rs.length → ∃ b off aj cj nj, a = some ⟨b, off, none⟩ ∧ lo ≤ b ∧ b < w.heap.size ∧ w.cell? ⟨b, off + j * 4, none⟩ = some (.int .u16 (nthI rs j).1) ∧ w.cell? ⟨b, off + j * 4 + 1, none⟩ = some (.int .u32 (nthI rs j).2.1) ∧ w.cell? ⟨b, off + j * 4 + 2, none⟩ = some (.int .u32 (nthI rs j).2.2.1) ∧ w.cell? ⟨b, off + j * 4 + 3, none⟩ = some (.slice aj nj cj) ∧ (nthI rs j).2.2.2.length = nj ∧
    w.ownsRow lo 71 3 (.slice aj nj cj) nj ((nthI rs j).2.2.2.flatMap argC) ∧ Value.ownBlock (.slice aj nj cj) ≠ some b ∧
    ∀ i, k ≤ i → i < rs.length → i ≠ j → ∀ ai ci ni g, w.cell? ⟨b, off + i * 4 + 3, none⟩ = some (.slice ai ni ci) → Value.ownBlock (.slice ai ni ci) = some g → Value.ownBlock (.slice aj nj cj) ≠ some g

/-- What is written in one instruction's arguments leaves the later ones. -/
theorem OwnI.next {w w' : World} {lo k b off : Nat} {a : Option Addr} {rs : List InstT} {ak : Option Addr} {nk ck : Nat} (h : OwnI w lo a k rs) (ha : a = some ⟨b, off, none⟩) (hk : k < rs.length) (hc : w.cell? ⟨b, off + k * 4 + 3, none⟩ = some (.slice ak nk ck)) (hg : w.grownBy w' (Value.ownBlock (.slice ak nk ck))) : OwnI w' lo a (k + 1) rs := by
  obtain ⟨b0, off0, ak0, ck0, nk0, e0, _, _, _, _, _, hc0, _, _, hnb, _⟩ := h k (Nat.le_refl _) hk
  rw [ha] at e0
  simp at e0
  obtain ⟨rfl, rfl⟩ := e0
  rw [hc] at hc0
  simp at hc0
  obtain ⟨rfl, rfl, rfl⟩ := hc0
  have cell : ∀ o, w'.cell? ⟨b, o, none⟩ = w.cell? ⟨b, o, none⟩ := fun o => World.cell?_of_block (hg.block b (World.block_lt_of_cell? _ _ hc) (fun e => hnb e.symm))
  intro j hj hjl
  obtain ⟨b1, off1, aj, cj, nj, e1, hlo1, hb1, c1, d1, d2, c2, c3, c4, c5, c6⟩ := h j (by omega) hjl
  rw [ha] at e1
  simp at e1
  obtain ⟨rfl, rfl⟩ := e1
  refine ⟨b, off, aj, cj, nj, ha, hlo1, Nat.lt_of_lt_of_le hb1 hg.size, (cell _).trans c1, (cell _).trans d1, (cell _).trans d2, (cell _).trans c2, c3, own_grown c4 hg (fun g e => c6 k (Nat.le_refl _) hk (by omega) ak ck nk g hc e), c5, ?_⟩
  intro i hi hil hij ai ci ni g hci
  rw [cell] at hci
  exact c6 i (by omega) hil hij ai ci ni g hci

/-- What is written elsewhere leaves them all. -/
theorem OwnI.kept {w w' : World} {lo lo' k : Nat} {a : Option Addr} {rs : List InstT} {ob : Option Nat} (h : OwnI w lo a k rs) (hg : w.grownBy w' ob) (hob : ∀ g, ob = some g → g < lo) (hlo : lo' ≤ lo) : OwnI w' lo' a k rs := by
  intro j hj hjl
  obtain ⟨b, off, aj, cj, nj, e1, hlo1, hb1, c1, d1, d2, c2, c3, c4, c5, c6⟩ := h j hj hjl
  have hne : some b ≠ ob := fun e => by have := hob b e.symm; omega
  have cell : ∀ o, w'.cell? ⟨b, o, none⟩ = w.cell? ⟨b, o, none⟩ := fun o => World.cell?_of_block (hg.block b hb1 hne)
  have c4' := own_grown c4 hg (fun g e e2 => by have := (c4.lt g e2).1; have := hob g e; omega)
  refine ⟨b, off, aj, cj, nj, e1, Nat.le_trans hlo hlo1, Nat.lt_of_lt_of_le hb1 hg.size, (cell _).trans c1, (cell _).trans d1, (cell _).trans d2, (cell _).trans c2, c3, ⟨c4'.1, ?_⟩, c5, fun i hi hil hij ai ci ni g hci => by rw [cell] at hci; exact c6 i hi hil hij ai ci ni g hci⟩
  rcases c4'.2 with h0 | ⟨g, cap, cur, e, hb, rest⟩
  · exact .inl h0
  · exact .inr ⟨g, cap, cur, e, Nat.le_trans hlo hb, rest⟩
theorem OwnI.below {w w' : World} {lo k : Nat} {a : Option Addr} {rs : List InstT} (h : OwnI w lo a k rs) (hb : Below w.heap.size w w') : OwnI w' lo a k rs :=
  h.kept (ob := none) ⟨hb.os, hb.tape, hb.output, hb.size, fun k hk _ => hb.block k hk⟩ (fun g e => by cases e) (Nat.le_refl _)

theorem OwnI.view {w : World} {lo : Nat} {a : Option Addr} {rs : List InstT} (h : OwnI w lo a 0 rs) : InstsV w a rs := by
  intro j hj
  obtain ⟨b, off, aj, cj, nj, e, _, hb, c1, d1, d2, c2, c3, c4, _⟩ := h j (Nat.zero_le _) hj
  refine ⟨b, off, aj, cj, nj, e, hb, c1, d1, d2, c2, c3, argsV_own c4 c3, ?_⟩
  rcases c4.2 with ⟨e1, e2⟩ | ⟨g, c', cur, e1, _, _, e4, _⟩
  · omega
  · cases e1; exact e4

structure RowI (w : World) (lo : Nat) (ob : Option Nat) (rs : List InstT) (cs : List Value) : Prop where
  len : cs.length = rs.length * 4
  each : ∀ j, j < rs.length → ∃ aj cj nj, cs[j * 4]? = some (.int .u16 (nthI rs j).1) ∧ cs[j * 4 + 1]? = some (.int .u32 (nthI rs j).2.1) ∧ cs[j * 4 + 2]? = some (.int .u32 (nthI rs j).2.2.1) ∧ cs[j * 4 + 3]? = some (.slice aj nj cj) ∧ (nthI rs j).2.2.2.length = nj ∧
    w.ownsRow lo 71 3 (.slice aj nj cj) nj ((nthI rs j).2.2.2.flatMap argC) ∧ (∀ g, Value.ownBlock (.slice aj nj cj) = some g → ob ≠ some g) ∧
    ∀ i, i < rs.length → i ≠ j → ∀ ai ci ni g, cs[i * 4 + 3]? = some (.slice ai ni ci) → Value.ownBlock (.slice ai ni ci) = some g → Value.ownBlock (.slice aj nj cj) ≠ some g

theorem RowI.grown {w w' : World} {lo : Nat} {ob : Option Nat} {rs : List InstT} {cs : List Value} {row : Option Nat} (h : RowI w lo ob rs cs) (hg : w.grownBy w' row) (hr : Apartly w lo row) : RowI w' lo ob rs cs := by
  refine ⟨h.len, fun j hj => ?_⟩
  obtain ⟨aj, cj, nj, h1, d1, d2, h2, h3, h4, h5, h6⟩ := h.each j hj
  exact ⟨aj, cj, nj, h1, d1, d2, h2, h3, own_apartly h4 hg hr, h5, h6⟩
theorem RowI.below {w w' : World} {lo : Nat} {ob : Option Nat} {rs : List InstT} {cs : List Value} (h : RowI w lo ob rs cs) (hb : Below w.heap.size w w') : RowI w' lo ob rs cs :=
  h.grown (grown_of_below hb none) (fun g e => by cases e)

/-- An instruction more, whose arguments have been laid since w0. -/
theorem RowI.push {w0 w w' : World} {v : Value} {g' lo : Nat} {rs : List InstT} {cs : List Value} {x : InstT} {a : Option Addr} {n c : Nat}
    (h : RowI w0 lo v.ownBlock rs cs) (hb : Below w0.heap.size w0 w) (hs : w.ownsRow w0.heap.size 71 3 (.slice a n c) n (x.2.2.2.flatMap argC)) (hl : x.2.2.2.length = n) (hv : ∀ b, v.ownBlock = some b → b < w0.heap.size) (hlo : lo ≤ w0.heap.size)
    (hg : w.grownBy w' v.ownBlock) (hat : v.ownBlock = some g' ∨ g' = w.heap.size) : RowI w' lo (some g') (rs ++ [x]) (cs ++ [.int .u16 x.1, .int .u32 x.2.1, .int .u32 x.2.2.1, .slice a n c]) := by
  have hcl := h.len
  have hnew : ∀ g, Value.ownBlock (.slice a n c) = some g → w0.heap.size ≤ g ∧ g < w.heap.size := fun g e => hs.lt g e
  have hold : ∀ i, i < rs.length → ∀ ai ci ni g, cs[i * 4 + 3]? = some (.slice ai ni ci) → Value.ownBlock (.slice ai ni ci) = some g → g < w0.heap.size := fun i hi ai ci ni g hc e => by
    obtain ⟨aj, cj, nj, _, _, _, h2, _, h4, _⟩ := h.each i hi
    rw [hc] at h2
    cases h2
    exact (h4.lt g e).2
  have hown : ∀ {sv : Value} {m : Nat} {xs : List Value} {B : Nat}, w.ownsRow B 71 3 sv m xs → (∀ g, sv.ownBlock = some g → v.ownBlock ≠ some g) → w'.ownsRow B 71 3 sv m xs := fun h1 h2 => own_grown h1 hg (fun g e e2 => h2 g e2 e)
  have hne : ∀ g, g < w.heap.size → v.ownBlock ≠ some g → some g' ≠ some g := fun g h1 h2 e => by
    cases e
    rcases hat with h3 | h3
    · exact h2 h3
    · omega
  refine ⟨by simp [hcl]; omega, fun j hj => ?_⟩
  rw [List.length_append, List.length_singleton] at hj
  by_cases hjl : j < rs.length
  · obtain ⟨aj, cj, nj, h1, d1, d2, h2, h3, h4, h5, h6⟩ := h.each j hjl
    rw [nthI_lo _ _ _ hjl]
    refine ⟨aj, cj, nj, by rw [List.getElem?_append_left (by omega)]; exact h1, by rw [List.getElem?_append_left (by omega)]; exact d1, by rw [List.getElem?_append_left (by omega)]; exact d2, by rw [List.getElem?_append_left (by omega)]; exact h2, h3, hown (own_below h4 hb) h5, fun g e => hne g (by have := (h4.lt g e).2; have := hb.size; omega) (h5 g e), ?_⟩
    intro i hi hij ai ci ni g hci e
    rw [List.length_append, List.length_singleton] at hi
    by_cases hil : i < rs.length
    · rw [List.getElem?_append_left (by omega)] at hci
      exact h6 i hil hij ai ci ni g hci e
    · obtain rfl : i = rs.length := by omega
      rw [List.getElem?_append_right (by omega), show rs.length * 4 + 3 - cs.length = 3 by omega] at hci
      simp at hci
      obtain ⟨rfl, rfl, rfl⟩ := hci
      intro e2
      have h7 := (hnew g e).1
      have h8 := hold j hjl aj cj nj g h2 e2
      omega
  · obtain rfl : j = rs.length := by omega
    rw [nthI_hi]
    refine ⟨a, c, n, ?_, ?_, ?_, ?_, hl, ?_, fun g e => hne g (hnew g e).2 (fun e2 => by have := hv g e2; have := (hnew g e).1; omega), ?_⟩
    · rw [List.getElem?_append_right (by omega), show rs.length * 4 - cs.length = 0 by omega]; rfl
    · rw [List.getElem?_append_right (by omega), show rs.length * 4 + 1 - cs.length = 1 by omega]; rfl
    · rw [List.getElem?_append_right (by omega), show rs.length * 4 + 2 - cs.length = 2 by omega]; rfl
    · rw [List.getElem?_append_right (by omega), show rs.length * 4 + 3 - cs.length = 3 by omega]; rfl
    · refine hown ⟨hs.1, ?_⟩ (fun g e e2 => by have := hv g e2; have := (hnew g e).1; omega)
      rcases hs.2 with h0 | ⟨g, cap, cur, e, hb', rest⟩
      · exact .inl h0
      · exact .inr ⟨g, cap, cur, e, Nat.le_trans hlo hb', rest⟩
    · intro i hi hij ai ci ni g hci e e2
      rw [List.length_append, List.length_singleton] at hi
      have hil : i < rs.length := by omega
      rw [List.getElem?_append_left (by omega)] at hci
      have := hold i hil ai ci ni g hci e
      have := (hnew g e2).1
      omega

/-- The whole row is as 'OwnI' says. -/
theorem RowI.own {w : World} {T n cap lo : Nat} {a : Option Addr} {rs : List InstT} {cs : List Value} (h : RowI w lo (Value.ownBlock (.slice a n cap)) rs cs) (hown : w.ownsRow lo T 4 (.slice a n cap) n cs) (hl : rs.length = n) : OwnI w lo a 0 rs := by
  intro j _ hj
  rcases hown.2 with ⟨_, hn⟩ | ⟨g, cap', cur, hv, hb, hgg, _⟩
  · omega
  · cases hv
    obtain ⟨aj, cj, nj, h1, d1, d2, h2, h3, h4, h5, h6⟩ := h.each j hj
    have hcl := h.len
    have c1 := hown.cellAt (j * 4) (by omega)
    have e1 := hown.cellAt (j * 4 + 1) (by omega)
    have e2 := hown.cellAt (j * 4 + 2) (by omega)
    have c2 := hown.cellAt (j * 4 + 3) (by omega)
    rw [h1] at c1
    rw [d1] at e1
    rw [d2] at e2
    rw [h2] at c2
    refine ⟨g, 0, aj, cj, nj, rfl, hb, (Array.getElem?_eq_some_iff.1 hgg).1, by rw [Nat.zero_add]; exact c1, by rw [Nat.zero_add]; exact e1, by rw [Nat.zero_add]; exact e2, by rw [Nat.zero_add]; exact c2, h3, h4, fun e => h5 g e rfl, ?_⟩
    intro i _ hi hij ai ci ni g2 hci e
    have c3 := hown.cellAt (i * 4 + 3) (by omega)
    rw [Nat.zero_add, c3] at hci
    exact h6 i hi hij ai ci ni g2 hci e

end Go.Proofs.YtgjedfmipllocaaGreatDoor

/-
  The small functions of frame: a first word parted and made, how many words an instruction has, whether a bound may be.
-/
namespace Go.Proofs.YtgjedfmipllocaaGreatDoor
open Go.RowKit
set_option maxRecDepth 10000

theorem mayBeBound_any (x : Int) (w : World) (h0 : 0 ≤ x) (h1 : x < 4294967296) :
    Calls Tryz.prog 192 #[.int .u32 x] w fun e w' => e = .returned (.bool (!(decide (x = 0) || decide (65536 < x)))) ∧ w = w' := by
  go_enter Tryz.func192, Tryz.ntmps192
  go_wp2
  · go_ret
    refine ⟨?_, rfl⟩
    have hx : 1 ≤ x := by assumption
    show Ending.returned (.bool (decide (x ≤ 65536))) = _
    congr 2
    by_cases h : x ≤ 65536
    · simp [h, show ¬ x = 0 by omega]
    · simp [h]; omega
  · go_ret
    refine ⟨?_, rfl⟩
    have hx : ¬ 1 ≤ x := by first | assumption | (have : x < 1 := by assumption
                                                  omega)
    obtain rfl : x = 0 := by omega
    rfl

theorem wordsOf_any (op : Int) (a : Option Addr) (n cap : Nat) (w : World) (hn : n ≤ 140737488351232) :
    Calls Tryz.prog 250 #[.agg #[.int .u16 op, .slice a n cap]] w fun e w' => e = .returned (.int .i64 ((n : Int) + 1)) ∧ w.alloc (.cells #[.int .u16 op, .slice a n cap] 106) = w' := by
  go_enter Tryz.func250, Tryz.ntmps250
  go_wp2
  go_ret
  exact ⟨ret_int (by omega), rfl⟩

theorem firstWord_any (op : Int) (a : Option Addr) (n cap : Nat) (w : World) (hn : n < 65535) (ho : 0 ≤ op) (ho2 : op < 65536) :
    Calls Tryz.prog 194 #[.agg #[.int .u16 op, .slice a n cap]] w fun e w' => e = .returned (.int .u32 (((n : Int) + 1) * 65536 + op)) ∧ Below w.heap.size w w' := by
  have hW := fun w => wordsOf_any op a n cap w (by omega)
  go_enter Tryz.func194, Tryz.ntmps194
  go_wp2_with fail
  go_region_with (go_at_call 250; refine (hW _).mono ?_; rintro e w' ⟨rfl, rfl⟩)
  all_goals go_wp2
  all_goals go_ret
  all_goals refine ⟨?_, (((Below.refl _ _).alloc (Nat.le_refl _) _).alloc (by simp) _).drew⟩
  all_goals
    show Ending.returned (.int .u32 (bits .or .u32 (IntKind.u32.wrap (IntKind.u32.wrap ((n : Int) + 1) * 65536)) (IntKind.u32.wrap op))) = _
    apply ret_int
    rw [show IntKind.u32.wrap ((n : Int) + 1) = (n : Int) + 1 by rw [IntKind.wrap_u32']; omega, show IntKind.u32.wrap (((n : Int) + 1) * 65536) = ((n : Int) + 1) * 65536 by rw [IntKind.wrap_u32']; omega, show IntKind.u32.wrap op = op by rw [IntKind.wrap_u32']; omega]
    exact or_high ((n : Int) + 1) op 16 (by omega) ho (by omega) (by omega)

end Go.Proofs.YtgjedfmipllocaaGreatDoor

/-
  What Turned of the words package returns, for every word: its bytes the other way round.
-/
namespace Go.Proofs.YtgjedfmipllocaaGreatDoor
open Go.RowKit
set_option maxRecDepth 10000

end Go.Proofs.YtgjedfmipllocaaGreatDoor

/-
  What headFault of frame returns: what is wrong with a word of the head.
-/
namespace Go.Proofs.YtgjedfmipllocaaGreatDoor
open Go.RowKit
set_option maxRecDepth 10000

end Go.Proofs.YtgjedfmipllocaaGreatDoor

/-
  What readHead of frame returns: the first word of the head that lacks or is wrong, or the head.
-/
namespace Go.Proofs.YtgjedfmipllocaaGreatDoor
open Go.RowKit
set_option maxRecDepth 10000

end Go.Proofs.YtgjedfmipllocaaGreatDoor

/-
  What apart of frame returns: the instruction with words in new memory.
-/
namespace Go.Proofs.YtgjedfmipllocaaGreatDoor
open Go.RowKit
set_option maxRecDepth 10000

end Go.Proofs.YtgjedfmipllocaaGreatDoor

/-
  parts of frame, and what its iterator tells: the places of the instructions behind a head, with the instructions, whose words are those of the list itself.
-/
namespace Go.Proofs.YtgjedfmipllocaaGreatDoor
open Go.RowKit Go.Shelf
attribute [local go_sem] Oper.semAt_some

end Go.Proofs.YtgjedfmipllocaaGreatDoor

/-
  What Read of frame returns, for every list of words: its error and its place, or the head and the instructions, each with words in memory of its own.
-/
namespace Go.Proofs.YtgjedfmipllocaaGreatDoor
open Go.RowKit Go.Shelf
attribute [local go_sem] Oper.semAt_some

end Go.Proofs.YtgjedfmipllocaaGreatDoor

/-
  Each of frame: its iterator; what it tells, as values.
-/
namespace Go.Proofs.YtgjedfmipllocaaGreatDoor
open Go.RowKit Go.Shelf
attribute [local go_sem] Oper.semAt_some

end Go.Proofs.YtgjedfmipllocaaGreatDoor

/-
  What the iterator of parts tells, where a round may change boxes below as well: the list stays by its type.
-/
namespace Go.Proofs.YtgjedfmipllocaaGreatDoor
open Go.RowKit Go.Shelf
attribute [local go_sem] Oper.semAt_some

end Go.Proofs.YtgjedfmipllocaaGreatDoor

/-
  What the iterator of Each tells, where a round may change boxes below as well: the list stays by its type.
-/
namespace Go.Proofs.YtgjedfmipllocaaGreatDoor
open Go.RowKit Go.Shelf
attribute [local go_sem] Oper.semAt_some

end Go.Proofs.YtgjedfmipllocaaGreatDoor

/-
  What the method inst of the package code's reader answers.
-/
namespace Go.Proofs.YtgjedfmipllocaaGreatDoor
open Go.RowKit
set_option linter.unusedVariables false
set_option linter.unusedSimpArgs false
set_option maxRecDepth 10000

end Go.Proofs.YtgjedfmipllocaaGreatDoor

/-
  What New of the words package returns: a reader in a new block, its words in another one; nothing that was there has turned.
-/
namespace Go.Proofs.YtgjedfmipllocaaGreatDoor
open Go.RowKit
set_option maxRecDepth 10000

end Go.Proofs.YtgjedfmipllocaaGreatDoor

/-
  What Inst of the package code answers, for all words and every bound.
-/
namespace Go.Proofs.YtgjedfmipllocaaGreatDoor
open Go.RowKit
set_option linter.unusedVariables false
set_option linter.unusedSimpArgs false
set_option maxRecDepth 100000

end Go.Proofs.YtgjedfmipllocaaGreatDoor

/-
  Plain arithmetic for the layer of words: bytes to words and back is the bytes, words to bytes and back is the words.
-/
namespace Go.Proofs.YtgjedfmipllocaaGreatDoor
open Go.RowKit

end Go.Proofs.YtgjedfmipllocaaGreatDoor

/-
  Plain facts: a text's words, with whatever words behind them, are read as the text.
-/
namespace Go.Proofs.YtgjedfmipllocaaGreatDoor
open Go.RowKit

end Go.Proofs.YtgjedfmipllocaaGreatDoor

/-
  Plain facts on modules as words: the first instruction that is wrong, and all instructions' words.
-/
namespace Go.Proofs.YtgjedfmipllocaaGreatDoor
open Go.RowKit
set_option linter.unusedVariables false

/-- The first instruction that is wrong, or that has too many words. -/
def shapeF (b : Int) : Nat → Nat → List InstT → Int × Nat
  | _, _, [] => (0, 0)
  | k, c, x :: l => if rawE x b ≠ 0 then (rawE x b, k) else if 1048576 < c + 1 + (rawWs x b).length then (4, k) else shapeF b (k + 1) (c + 1 + (rawWs x b).length) l
def shapeE (b : Int) (l : List InstT) : Int × Nat := if b = 0 ∨ 65536 < b then (24, 0) else shapeF b 0 5 l
/-- A module's instructions as words. -/
def rawsL (b : Int) (l : List InstT) : List (Int × List Int) := l.map fun x => (x.1, rawWs x b)
/-- What raws answers. -/
def rawsR (b : Int) (l : List InstT) : List (Int × List Int) := if (shapeE b l).1 = 0 then rawsL b l else []

theorem rawsL_len (b : Int) (l : List InstT) : (rawsL b l).length = l.length := by simp [rawsL]
theorem nthR_raws (b : Int) (l : List InstT) (k : Nat) (h : k < l.length) : nthR (rawsL b l) k = ((nthI l k).1, rawWs (nthI l k) b) := by
  rw [nthI_lt _ _ h]; simp [nthR, rawsL, List.getD, h]
theorem rawsL_take (b : Int) (l : List InstT) (k : Nat) (h : k < l.length) : rawsL b (l.take (k + 1)) = rawsL b (l.take k) ++ [((nthI l k).1, rawWs (nthI l k) b)] := by
  unfold rawsL
  rw [List.take_add_one, List.getElem?_eq_getElem h, nthI_lt _ _ h, List.map_append]; rfl
theorem dropI (l : List InstT) (k : Nat) (h : k < l.length) : l.drop k = nthI l k :: l.drop (k + 1) := by
  rw [nthI_lt _ _ h]; exact List.drop_eq_getElem_cons h

theorem shape_end (b : Int) (l : List InstT) (k c : Nat) (h : l.length ≤ k) : shapeF b k c (l.drop k) = (0, 0) := by
  rw [List.drop_eq_nil_of_le h]; rfl
theorem shape_step (b : Int) (l : List InstT) (k : Nat) (h : k < l.length) : shapeF b k (sizeTo (rawsL b l) k) (l.drop k) = if rawE (nthI l k) b ≠ 0 then (rawE (nthI l k) b, k) else if 1048576 < sizeTo (rawsL b l) (k + 1) then (4, k) else shapeF b (k + 1) (sizeTo (rawsL b l) (k + 1)) (l.drop (k + 1)) := by
  rw [dropI l k h, shapeF, sizeTo_succ (rawsL b l) k (by rw [rawsL_len]; exact h), nthR_raws b l k h]
theorem rawWs_ok {x : InstT} {b : Int} (h : rawE x b = 0) : (lookF refT x.1).2 = true ∧ faultI (lookF refT x.1).1 x b = 0 ∧ rawWs x b = rawL (lookF refT x.1).1 x := by
  have h1 := h
  unfold rawE at h1
  by_cases h2 : (lookF refT x.1).2 = true
  · rw [if_pos h2] at h1
    exact ⟨h2, h1, by unfold rawWs; rw [if_pos h]⟩
  · rw [if_neg h2] at h1; cases h1
theorem faultI_zero {f : Frm} {x : InstT} {b : Int} (h : faultI f x b = 0) : idE f.2.1 x.2.1 b 40 = 0 ∧ idE f.2.2.1 x.2.2.1 b 41 = 0 ∧ wrongL f b 0 x.2.2.2 = 0 ∧ wholeN f x.2.2.2.length = true ∧ 1 + (rawL f x).length ≤ 65535 := by
  unfold faultI at h
  by_cases h1 : idE f.2.1 x.2.1 b 40 = 0
  · rw [if_neg (by simp [h1])] at h
    by_cases h2 : idE f.2.2.1 x.2.2.1 b 41 = 0
    · rw [if_neg (by simp [h2])] at h
      by_cases h3 : wrongL f b 0 x.2.2.2 = 0
      · rw [if_neg (by simp [h3])] at h
        by_cases h4 : wholeN f x.2.2.2.length = true
        · rw [if_neg (by simp [h4])] at h
          by_cases h5 : 65535 < 1 + (rawL f x).length
          · rw [if_pos h5] at h; cases h
          · exact ⟨h1, h2, h3, h4, by omega⟩
        · rw [if_pos (by simpa using h4)] at h; cases h
      · rw [if_pos h3] at h; exact absurd h h3
    · rw [if_pos h2] at h; exact absurd h h2
  · rw [if_pos h1] at h; exact absurd h h1
theorem rawWs_len (x : InstT) (b : Int) : (rawWs x b).length < 65535 := by
  by_cases h : rawE x b = 0
  · obtain ⟨_, h2, h3⟩ := rawWs_ok h
    have := (faultI_zero h2).2.2.2.2
    rw [h3]; omega
  · rw [rawWs, if_neg h]; simp

theorem fault_shapeF (b : Int) (l : List InstT) : ∀ d k, l.length - k = d → (shapeF b k (sizeTo (rawsL b l) k) (l.drop k)).1 = 0 → fault (rawsL b l) k = (0, 0)
  | 0, k, hd, _ => fault_end _ _ (by rw [rawsL_len]; omega)
  | d + 1, k, hd, h => by
    have hk : k < l.length := by omega
    rw [shape_step b l k hk] at h
    rw [fault_step _ _ (by rw [rawsL_len]; exact hk), nthR_raws b l k hk]
    have hs := rawWs_len (nthI l k) b
    rw [if_neg (by simp only; omega)]
    by_cases h1 : rawE (nthI l k) b ≠ 0
    · rw [if_pos h1] at h; exact absurd h h1
    · rw [if_neg h1] at h
      by_cases h2 : 1048576 < sizeTo (rawsL b l) (k + 1)
      · rw [if_pos h2] at h; cases h
      · rw [if_neg h2] at h ⊢
        exact fault_shapeF b l d (k + 1) (by omega) h
theorem fault_shape {b : Int} {l : List InstT} (h : (shapeE b l).1 = 0) : fault (rawsL b l) 0 = (0, 0) := by
  unfold shapeE at h
  by_cases h1 : b = 0 ∨ 65536 < b
  · rw [if_pos h1] at h; cases h
  · rw [if_neg h1] at h
    exact fault_shapeF b l _ 0 rfl h
theorem shape_bound {b : Int} {l : List InstT} (h : (shapeE b l).1 = 0) : ¬ b = 0 ∧ ¬ 65536 < b := by
  unfold shapeE at h
  by_cases h1 : b = 0 ∨ 65536 < b
  · rw [if_pos h1] at h; cases h
  · exact ⟨fun h => h1 (.inl h), fun h => h1 (.inr h)⟩
theorem shape_each {b : Int} {l : List InstT} (h : (shapeE b l).1 = 0) (k : Nat) (hk : k < l.length) : rawE (nthI l k) b = 0 := by
  have key : ∀ (l : List InstT) (i c k : Nat), (shapeF b i c l).1 = 0 → k < l.length → rawE (nthI l k) b = 0 := by
    intro l
    induction l with
    | nil => intro i c k _ hk; simp at hk
    | cons x l ih =>
      intro i c k h hk
      rw [shapeF] at h
      by_cases h1 : rawE x b ≠ 0
      · rw [if_pos h1] at h; exact absurd h h1
      · rw [if_neg h1] at h
        cases k with
        | zero => exact Classical.not_not.1 h1
        | succ k =>
          split at h
          · cases h
          · exact ih _ _ k h (by simpa using hk)
  unfold shapeE at h
  by_cases h1 : b = 0 ∨ 65536 < b
  · rw [if_pos h1] at h; cases h
  · rw [if_neg h1] at h
    exact key l 0 5 k h hk
theorem sizeTo_ge (rs : List (Int × List Int)) : ∀ k, k ≤ rs.length → 5 + k ≤ sizeTo rs k
  | 0, _ => by rw [sizeTo_zero]; omega
  | k + 1, h => by rw [sizeTo_succ rs k (by omega)]; have := sizeTo_ge rs k (by omega); omega
/-- A module of good shape has few instructions. -/
theorem shape_few {b : Int} {l : List InstT} (h : (shapeE b l).1 = 0) : l.length ≤ 1048576 ∧ sizeTo (rawsL b l) l.length ≤ 1048576 := by
  have h1 := fault_none (rawsL b l) (by rw [fault_shape h]) l.length (by rw [rawsL_len]; exact Nat.le_refl _)
  have := sizeTo_ge (rawsL b l) l.length (by rw [rawsL_len]; exact Nat.le_refl _)
  omega

end Go.Proofs.YtgjedfmipllocaaGreatDoor

/-
  Plain facts: an instruction's words say the instruction, and the words of the instruction that words say are those words.
-/
namespace Go.Proofs.YtgjedfmipllocaaGreatDoor
open Go.RowKit
set_option linter.unusedVariables false

/-! ### a text's words -/

/-! ### one argument -/

theorem noneB_more {n b c : Int} (h : noneB n b = false) (hbc : b ≤ c) : noneB n c = false := by
  unfold noneB at *
  simp at *
  omega

/-! ### all arguments -/

/-! ### an instruction -/

theorem idE_zero {must : Bool} {n b e : Int} (he : e ≠ 0) (h : idE must n b e = 0) : (must = true → noneB n b = false) ∧ (must = false → n = 0) := by
  unfold idE at h
  cases must with
  | true =>
    refine ⟨fun _ => ?_, (fun h => by cases h)⟩
    by_cases h0 : n = 0
    · rw [if_pos (by simp [h0])] at h; exact absurd h he
    · rw [if_neg (by simp [h0])] at h
      by_cases h1 : b ≤ n
      · rw [if_pos (by simp [h1])] at h; cases h
      · unfold noneB; simp [h0, h1]
  | false =>
    refine ⟨(fun h => by cases h), fun _ => ?_⟩
    by_cases h0 : n = 0
    · exact h0
    · rw [if_pos (by simp [h0])] at h; exact absurd h he
theorem idE_none {n b e : Int} (h : noneB n b = false) : idE true n b e = 0 := by
  unfold noneB at h
  simp at h
  unfold idE
  simp [h.1]; omega
theorem idE_absent {b e : Int} : idE false 0 b e = 0 := by unfold idE; simp

/-- By a greater bound it has the same words. -/
theorem wrongA_more {c b m : Int} {x : ArgT} (h : wrongA c x b = 0) (hb : b ≤ m) : wrongA c x m = 0 := by
  unfold wrongA at h ⊢
  split at h
  · cases h
  · rename_i h1
    rw [if_neg h1]
    split at h
    · rename_i h2
      rw [if_pos h2]; exact h
    · rename_i h2
      rw [if_neg h2]
      unfold faultW at h ⊢
      by_cases k1 : kindI c = 1
      · rw [if_pos k1] at h ⊢
        have hn : noneB x.2.1 b = false := by
          cases hn : noneB x.2.1 b with
          | false => rfl
          | true => rw [hn] at h; cases h
        rw [noneB_more hn hb]; rfl
      · rw [if_neg k1] at h ⊢; exact h
theorem wrongL_more (f : Frm) {b m : Int} (hb : b ≤ m) : ∀ (l : List ArgT) (k : Nat), wrongL f b k l = 0 → wrongL f m k l = 0
  | [], _, _ => rfl
  | x :: l, k, h => by
    rw [wrongL] at h ⊢
    by_cases h0 : wrongA (letterI f k) x b = 0
    · rw [if_pos h0] at h
      rw [if_pos (wrongA_more h0 hb)]
      exact wrongL_more f hb l _ h
    · rw [if_neg h0] at h; exact absurd h h0
theorem idE_more {must : Bool} {n b m e : Int} (he : e ≠ 0) (hb : b ≤ m) (h : idE must n b e = 0) : idE must n m e = 0 := by
  obtain ⟨h1, h2⟩ := idE_zero he h
  cases must with
  | true => exact idE_none (noneB_more (h1 rfl) hb)
  | false => rw [h2 rfl]; exact idE_absent
theorem raw_more {x : InstT} {b m : Int} (h : rawE x b = 0) (hb : b ≤ m) : rawE x m = 0 ∧ rawWs x m = rawWs x b := by
  obtain ⟨h1, h2, h3⟩ := rawWs_ok h
  obtain ⟨t1, t2, t3, t4, t5⟩ := faultI_zero h2
  have hE : rawE x m = 0 := by
    unfold rawE
    rw [if_pos h1]
    unfold faultI
    rw [if_neg (by simp [idE_more (by decide) hb t1]), if_neg (by simp [idE_more (by decide) hb t2]), if_neg (by simp [wrongL_more _ hb _ _ t3]), if_neg (by simp [t4]), if_neg (by omega)]
  refine ⟨hE, ?_⟩
  rw [h3]
  unfold rawWs
  rw [if_pos hE]

end Go.Proofs.YtgjedfmipllocaaGreatDoor

/-
  What Read answers lies within its bounds.
-/
namespace Go.Proofs.YtgjedfmipllocaaGreatDoor
open Go.RowKit

end Go.Proofs.YtgjedfmipllocaaGreatDoor

/-
  What measure and Size of frame return: how many words the head and the instructions have, or the first instruction that may not be.
-/
namespace Go.Proofs.YtgjedfmipllocaaGreatDoor
open Go.RowKit

theorem fault_any (rs : List (Int × List Int)) : fault rs 0 = (0, 0) ∨ (fault rs 0).1 ≠ 0 := by
  have key : ∀ f k, faultF rs f k = (0, 0) ∨ (faultF rs f k).1 ≠ 0 := by
    intro f
    induction f with
    | zero => intro k; exact .inl rfl
    | succ f ih =>
      intro k
      rw [faultF]
      split
      · split
        · exact .inr (by simp)
        · split
          · exact .inr (by simp)
          · exact ih (k + 1)
      · exact .inl rfl
  exact key _ _

theorem spot_set {w : World} {g T : Nat} {a b : Value} (h : w.heap[g]? = some (.cells #[a, b] T (0, 0))) (u0 u1 : Value) :
    ((w.setCell ⟨g, 0, none⟩ u0).setCell ⟨g, 1, none⟩ u1).cell? ⟨g, 0, none⟩ = some u0 ∧ ((w.setCell ⟨g, 0, none⟩ u0).setCell ⟨g, 1, none⟩ u1).cell? ⟨g, 1, none⟩ = some u1 := by
  have hfin : ((w.setCell ⟨g, 0, none⟩ u0).setCell ⟨g, 1, none⟩ u1).heap[g]? = some (.cells #[u0, u1] T (0, 0)) := by
    simp only [World.setCell, Array.getElem?_modify, h]; simp
  obtain ⟨z0, z1, _⟩ := cell_of_two hfin
  exact ⟨z0, z1⟩

theorem cell_past {w : World} {g j : Nat} {o : Obj} {v : Value} (h : w.cell? ⟨g, j, none⟩ = some v) : (w.alloc o).cell? ⟨g, j, none⟩ = some v := by
  rw [World.cell?_alloc_past _ _ _ (World.block_lt_of_cell? _ _ h)]; exact h

set_option maxRecDepth 100000 in
set_option maxHeartbeats 2000000 in
theorem measure_any (a : Option Addr) (n cap : Nat) (rs : List (Int × List Int)) (w : World) (ha : RawsV w a rs) (hok : RawsOk rs) (hl : rs.length = n) (hn : 32 * n ≤ 140737488351232) :
    Calls Tryz.prog 193 #[.slice a n cap] w fun e w' => e = .returned (.tuple #[.int .i64 (sizeOut rs), .agg #[.int .i64 (fault rs 0).1, .int .i64 (fault rs 0).2]]) ∧ Below w.heap.size w w' := by
  have HL : Hid (rs.length = n) := hl
  clear hl
  go_enter Tryz.func193, Tryz.ntmps193
  go_wp2
  go_loopw [4, 9] (fun s i wr => ∃ k : Nat, k ≤ n ∧ i = .int .i64 k ∧ s = .int .i64 (sizeTo rs k) ∧ sizeTo rs k ≤ 1048576 ∧ fault rs 0 = fault rs k ∧ wr.heap[w.heap.size]? = some (.cells #[.int .i64 0, .int .i64 0] 28 (0, 0)) ∧ Below w.heap.size w wr) (fun _ i _ => n - (intOf i).toNat)
  case atStart => exact ⟨0, Nat.zero_le _, rfl, rfl, by rw [sizeTo_zero]; omega, rfl, heap_alloc_new w _, (Below.refl _ _).alloc (Nat.le_refl _) _⟩
  case round =>
    obtain ⟨k, hk, rfl, rfl, hsz, hfe, hbox, hnx⟩ := hrel
    have HF : Hid (fault rs 0 = fault rs k) := hfe
    clear hfe
    have hlt0 : w.heap.size < wr.heap.size := (Array.getElem?_eq_some_iff.1 hbox).1
    by_cases hlt : k < n
    · obtain ⟨b, off, aj, cj, nj, rfl, hbs, p1, p2, p3, _, _⟩ := ha k (by rw [HL.out]; exact hlt)
      obtain ⟨_, _, _, h4⟩ := hok k (by rw [HL.out]; exact hlt)
      rw [p3] at h4
      have HS : Hid (sizeTo rs (k + 1) = sizeTo rs k + 1 + (nthR rs k).2.length) := sizeTo_succ rs k (by rw [HL.out]; exact hlt)
      have HT := fault_step rs k (by rw [HL.out]; exact hlt)
      rw [p3] at HT HS
      have HT' : Hid (fault rs k = if 65535 ≤ nj then (25, k) else if 1048576 < sizeTo rs (k + 1) then (4, k) else fault rs (k + 1)) := HT
      have q1 := (hnx.cell (p := ⟨b, off + k * 2, none⟩) hbs).trans p1
      have q2 := (hnx.cell (p := ⟨b, off + k * 2 + 1, none⟩) hbs).trans p2
      generalize sizeTo rs k = s at hsz HS
      have hki : (k : Int) < (n : Int) := by omega
      have hk0 : (0 : Int) ≤ (k : Int) := by omega
      have hW := fun op w => wordsOf_any op aj nj cj w (by omega)
      generalize (nthR rs k).1 = op at q1 p1
      clear HT ha p1 p2 p3 hok
      obtain ⟨R1, hR1⟩ : ∃ o, o = Obj.cells #[.int .u16 op, .slice aj nj cj] 106 (0, 0) := ⟨_, rfl⟩
      have hbx1 : ((wr.alloc R1).alloc R1).heap[w.heap.size]? = some (.cells #[.int .i64 0, .int .i64 0] 28 (0, 0)) := (Below.heap_alloc _ _ _ (by simp; omega)).trans ((Below.heap_alloc _ _ _ hlt0).trans hbox)
      obtain ⟨c0, c1, f1⟩ := cell_of_two hbox
      have f0 : wr.frozen? ⟨w.heap.size, 0, none⟩ = false := by simp [World.frozen?, hbox]
      by_cases h1 : 65535 ≤ nj
      · have b1 : decide ((65535 : Int) < (nj : Int) + 1) = true := decide_eq_true (by omega)
        have HE : Hid (fault rs 0 = (25, k)) := by show _ = _; rw [HF.out, HT'.out, if_pos h1]
        have HO : Hid (sizeOut rs = 0) := by show _ = _; unfold sizeOut; rw [HE.out]; rfl
        have hf0 := spot_set hbox (.int .i64 25) (.int .i64 k)
        have hf := And.intro (cell_past (o := R1) (cell_past (o := R1) hf0.1)) (cell_past (o := R1) (cell_past (o := R1) hf0.2))
        have HZ : Hid (_ ∧ _) := hf
        have HB : Hid (Below w.heap.size w ((((wr.setCell ⟨w.heap.size, 0, none⟩ (.int .i64 25)).setCell ⟨w.heap.size, 1, none⟩ (.int .i64 k)).alloc R1).alloc R1)) := (((hnx.setCell (by simp) _).setCell (by simp) _).alloc (by simp; omega) _).alloc (by simp; omega) _
        clear hf hf0 hbx1 hbox
        subst hR1
        go_wp2_with (go_at_call 250; refine (hW _ _).mono ?_; rintro e w' ⟨rfl, rfl⟩)
        exact bodyPost_ret (v := .tuple #[.int .i64 0, .agg #[.int .i64 25, .int .i64 k]]) (by simp [results, Tryz.results193, go_sem, HZ.out.1, HZ.out.2]) rfl ⟨by rw [HE.out, HO.out], HB.out⟩
      · have b1 : decide ((65535 : Int) < (nj : Int) + 1) = false := decide_eq_false (by omega)
        have hbx2 : (((wr.alloc R1).alloc R1).alloc R1).heap[w.heap.size]? = some (.cells #[.int .i64 0, .int .i64 0] 28 (0, 0)) := (Below.heap_alloc _ _ _ (by simp; omega)).trans hbx1
        have HB2 : Hid (Below w.heap.size w (((wr.alloc R1).alloc R1).alloc R1)) := ((hnx.alloc hnx.size _).alloc (by simp; omega) _).alloc (by simp; omega) _
        by_cases h2 : 1048576 < s + 1 + nj
        · have b2 : decide ((1048576 : Int) < (s : Int) + ((nj : Int) + 1)) = true := decide_eq_true (by omega)
          have HE : Hid (fault rs 0 = (4, k)) := by show _ = _; rw [HF.out, HT'.out, if_neg h1, if_pos (by rw [HS.out]; exact h2)]
          have HO : Hid (sizeOut rs = 0) := by show _ = _; unfold sizeOut; rw [HE.out]; rfl
          have hf := spot_set hbx2 (.int .i64 4) (.int .i64 k)
          obtain ⟨c0', c1', f1'⟩ := cell_of_two hbx2
          have f0' : (((wr.alloc R1).alloc R1).alloc R1).frozen? ⟨w.heap.size, 0, none⟩ = false := by simp only [World.frozen?, hbx2]; rfl
          have HZ : Hid (_ ∧ _) := hf
          have HB : Hid (Below w.heap.size w (((((wr.alloc R1).alloc R1).alloc R1).setCell ⟨w.heap.size, 0, none⟩ (.int .i64 4)).setCell ⟨w.heap.size, 1, none⟩ (.int .i64 k))) := (HB2.out.setCell (by simp) _).setCell (by simp) _
          clear hf hbx1 hbx2 hbox
          subst hR1
          go_wp2_with (go_at_call 250; refine (hW _ _).mono ?_; rintro e w' ⟨rfl, rfl⟩)
          exact bodyPost_ret (v := .tuple #[.int .i64 0, .agg #[.int .i64 4, .int .i64 k]]) (by simp [results, Tryz.results193, go_sem, HZ.out.1, HZ.out.2]) rfl ⟨by rw [HE.out, HO.out], HB.out⟩
        · have b2 : decide ((1048576 : Int) < (s : Int) + ((nj : Int) + 1)) = false := decide_eq_false (by omega)
          have HE : Hid (fault rs 0 = fault rs (k + 1)) := by show _ = _; rw [HF.out, HT'.out, if_neg h1, if_neg (by rw [HS.out]; exact h2)]
          have HX : Hid _ := hbx2
          clear hbx1 hbx2 hbox
          subst hR1
          go_wp2_with (go_at_call 250; refine (hW _ _).mono ?_; rintro e w' ⟨rfl, rfl⟩)
          go_roundw
          case rel => exact ⟨k + 1, by omega, by go_num, by rw [HS.out]; go_num, by rw [HS.out]; omega, HE.out, HX.out, HB2.out⟩
          case measure => simp [intOf]; omega
    · obtain rfl : k = n := by omega
      have HE : Hid (fault rs 0 = (0, 0)) := by show _ = _; rw [HF.out]; exact fault_end rs k (by rw [HL.out]; omega)
      have HO : Hid (sizeOut rs = sizeTo rs k) := by show _ = _; unfold sizeOut; rw [HE.out, if_pos rfl, HL.out]
      have hf := spot_set hbox (.int .i64 0) (.int .i64 0)
      obtain ⟨c0, c1, f1⟩ := cell_of_two hbox
      have f0 : wr.frozen? ⟨w.heap.size, 0, none⟩ = false := by simp [World.frozen?, hbox]
      have HZ : Hid (_ ∧ _) := hf
      have HB : Hid (Below w.heap.size w ((wr.setCell ⟨w.heap.size, 0, none⟩ (.int .i64 0)).setCell ⟨w.heap.size, 1, none⟩ (.int .i64 0))) := (hnx.setCell (by simp) _).setCell (by simp) _
      clear hf hbox ha hok
      go_wp2
      exact bodyPost_ret (v := .tuple #[.int .i64 (sizeTo rs k), .agg #[.int .i64 0, .int .i64 0]]) (by simp [results, Tryz.results193, go_sem, HZ.out.1, HZ.out.2]) rfl ⟨by rw [HE.out, HO.out]; rfl, HB.out⟩

end Go.Proofs.YtgjedfmipllocaaGreatDoor

/-
  What is written is read as it was, and what is read is written as it was: on lists.
-/
namespace Go.Proofs.YtgjedfmipllocaaGreatDoor
open Go.RowKit

end Go.Proofs.YtgjedfmipllocaaGreatDoor

/-
  What is read is written as it was, and its instructions lie one behind the other: on lists.
-/
namespace Go.Proofs.YtgjedfmipllocaaGreatDoor
open Go.RowKit

end Go.Proofs.YtgjedfmipllocaaGreatDoor

/-
  Plain facts on bytes that say a module: what Decode answers, as functions of the bytes; bytes to module and back, and the other way.
-/
namespace Go.Proofs.YtgjedfmipllocaaGreatDoor
open Go.RowKit
set_option linter.unusedVariables false

/-! ### what is read lies within its bounds -/

end Go.Proofs.YtgjedfmipllocaaGreatDoor

/-
  What Split of the words package returns, for every list of bytes: its error, and its words in new memory; nothing that was there has turned.
-/
namespace Go.Proofs.YtgjedfmipllocaaGreatDoor
open Go.RowKit
set_option maxRecDepth 10000

theorem Split.info : (Tryz.prog.info? 22).map (fun i => (i.zero, i.size, i.bytes)) = some (some (.int .u32 0), 1, 4) := by kernel_rfl

end Go.Proofs.YtgjedfmipllocaaGreatDoor
