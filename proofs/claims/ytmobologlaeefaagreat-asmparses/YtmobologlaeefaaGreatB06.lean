/-
  Texts laid together in one: Ref03Named, MathA, MathR, MathT, Raws, Ref02Fault, Ref02Size, MathN, MathC, MathB, MathA2, LexKinds, LexNumber, WordsByteAt, WordsTextEnd.
-/
import Derived.WalkSpells
import Derived.WalkMore
import Derived.Test.YtmobologlaeefaaGreatB05
import Derived.Test.YtmobologlaeefaaGreatB01
import Derived.Test.YtmobologlaeefaaGreatB04
import Derived.Deep.QuietTactic
import Derived.BigQuiet
import Derived.Test.YtmobologlaeefaaGreatProg
import Derived.Test.YtmobologlaeefaaGreatB02
import Derived.Test.YtmobologlaeefaaGreatB03
/-
  What Named of the document's answer returns, for every name; the list of forms, as it can be read.
-/
namespace Go.Proofs.YtmobologlaeefaaGreat
open Go.RowKit
set_option maxRecDepth 10000
set_option linter.unusedVariables false
set_option linter.unusedSimpArgs false

theorem flat8 : ∀ (l : List Nat) (k j : Nat), k < l.length → j < 8 → (l.flatMap opCells)[k * 8 + j]? = (opCells (l.getD k 0))[j]?
  | [], k, j, h, _ => by simp at h
  | x :: l, 0, j, h, hj => by
    rw [List.flatMap_cons, List.getElem?_append_left (by simp [opCells, frmCells]; omega)]; simp
  | x :: l, k + 1, j, h, hj => by
    rw [List.flatMap_cons, List.getElem?_append_right (by simp [opCells, frmCells]; omega)]
    have e : (k + 1) * 8 + j - (opCells x).length = k * 8 + j := by simp [opCells, frmCells]; omega
    rw [e, flat8 l k j (by simpa using h) hj]
    simp

/-- The operation at a place of the list, and its form. -/
def opN (i : Nat) : Nat := opsL.getD i 0
def opF (k : Nat) : Frm := (lookF refT k).1

/-- The list of forms, as it can be read. -/
def FormsV (W : World) (v : Value) : Prop := ∃ g cap, v = .slice (some ⟨g, 0, none⟩) 93 cap ∧ g < W.heap.size ∧ ∀ i, i < 93 → (W.cell? ⟨g, i * 8, none⟩ = some (.int .u16 (opN i)) ∧ W.cell? ⟨g, i * 8 + 1, none⟩ = some (.string (opF (opN i)).1) ∧ W.cell? ⟨g, i * 8 + 2, none⟩ = some (.bool (opF (opN i)).2.1) ∧ W.cell? ⟨g, i * 8 + 3, none⟩ = some (.bool (opF (opN i)).2.2.1) ∧
  W.cell? ⟨g, i * 8 + 4, none⟩ = some (.string (opF (opN i)).2.2.2.1) ∧ W.cell? ⟨g, i * 8 + 5, none⟩ = some (.string (opF (opN i)).2.2.2.2.1) ∧ W.cell? ⟨g, i * 8 + 6, none⟩ = some (.int .i64 (opF (opN i)).2.2.2.2.2.1) ∧ W.cell? ⟨g, i * 8 + 7, none⟩ = some (.int .u8 (opF (opN i)).2.2.2.2.2.2))

theorem ops93 : opsL.length = 93 := by decide +kernel

theorem cells_at (n : Int) (f : Frm) : (frmCells n f).toList[0]? = some (.int .u16 n) ∧ (frmCells n f).toList[1]? = some (.string f.1) ∧ (frmCells n f).toList[2]? = some (.bool f.2.1) ∧ (frmCells n f).toList[3]? = some (.bool f.2.2.1) ∧ (frmCells n f).toList[4]? = some (.string f.2.2.2.1) ∧ (frmCells n f).toList[5]? = some (.string f.2.2.2.2.1) ∧ (frmCells n f).toList[6]? = some (.int .i64 f.2.2.2.2.2.1) ∧ (frmCells n f).toList[7]? = some (.int .u8 f.2.2.2.2.2.2) :=
  ⟨rfl, rfl, rfl, rfl, rfl, rfl, rfl, rfl⟩

theorem formsV_of {W : World} {B : Nat} {v : Value} (h : W.ownsRow B 64 8 v opsL.length (opsL.flatMap opCells)) : FormsV W v := by
  have hc := fun g hg => h.cells (g := g) hg
  rcases h.2 with ⟨_, h0⟩ | ⟨g, cap, cur, rfl, _, hgg, _, _, _, _⟩
  · exact absurd (ops93.symm.trans h0) (by decide)
  · refine ⟨g, cap, congrArg (fun n => Value.slice (some ⟨g, 0, none⟩) n cap) ops93, (Array.getElem?_eq_some_iff.1 hgg).1, fun i hi => ?_⟩
    have hi' : i < opsL.length := Nat.lt_of_lt_of_eq hi ops93.symm
    have q : ∀ j, j < 8 → ∀ u, (opCells (opN i))[j]? = some u → W.cell? ⟨g, i * 8 + j, none⟩ = some u := fun j hj u hu => by
      have := hc g rfl (i * 8 + j) u (by rw [flat8 _ _ _ hi' hj]; exact hu)
      rw [Addr.add_lit, Nat.zero_add] at this
      exact this
    obtain ⟨e0, e1, e2, e3, e4, e5, e6, e7⟩ := cells_at (opN i) (opF (opN i))
    exact ⟨q 0 (by omega) _ e0, q 1 (by omega) _ e1, q 2 (by omega) _ e2, q 3 (by omega) _ e3, q 4 (by omega) _ e4, q 5 (by omega) _ e5, q 6 (by omega) _ e6, q 7 (by omega) _ e7⟩

theorem FormsV.below {W W' : World} {v : Value} (h : FormsV W v) (hb : Below W.heap.size W W') : FormsV W' v := by
  obtain ⟨g, cap, e, hg, hc⟩ := h
  refine ⟨g, cap, e, Nat.lt_of_lt_of_le hg hb.size, fun i hi => ?_⟩
  have q : ∀ o, W'.cell? ⟨g, o, none⟩ = W.cell? ⟨g, o, none⟩ := fun o => hb.cell (p := ⟨g, o, none⟩) hg
  simp only [q]
  exact hc i hi

/-- A form of a name. -/
def namP (s : ByteArray) (k : Nat) : Bool := (opF k).1.toList == s.toList
def namedB (s : ByteArray) : Bool := (opsL.find? (namP s)).isSome
def namedV (s : ByteArray) : Value := match opsL.find? (namP s) with | some k => formV k (opF k) | none => formV 0 noFrm

theorem findN_at {p : Nat → Bool} : ∀ (l : List Nat) (k : Nat), k < l.length → (∀ j, j < k → p (l.getD j 0) = false) → p (l.getD k 0) = true → l.find? p = some (l.getD k 0)
  | [], k, h, _, _ => by simp at h
  | x :: l, 0, _, _, h => by
    have h' : p x = true := by simpa using h
    simp [List.find?_cons, h']
  | x :: l, k + 1, hk, h0, h => by
    have h' : p x = false := by simpa using h0 0 (by omega)
    rw [List.find?_cons, h']
    have := findN_at l k (by simpa using hk) (fun j hj => by simpa using h0 (j + 1) (by omega)) (by simpa using h)
    simpa using this
theorem findN_not {p : Nat → Bool} : ∀ (l : List Nat), (∀ j, j < l.length → p (l.getD j 0) = false) → l.find? p = none
  | [], _ => rfl
  | x :: l, h0 => by
    have h' : p x = false := by simpa using h0 0 (by simp)
    rw [List.find?_cons, h']
    exact findN_not l (fun j hj => by simpa using h0 (j + 1) (by simpa using hj))

set_option maxRecDepth 10000 in
set_option maxHeartbeats 2000000 in
theorem refNamed_any (s : ByteArray) (w : World) : Calls Tryz.prog 50 #[.string s] w fun e w' => e = .returned (.tuple #[namedV s, .bool (namedB s)]) ∧ Below w.heap.size w w' := by
  go_enter Tryz.func50, Tryz.ntmps50
  go_wp2_with fail
  refine (refAll_any _).mono ?_
  rintro e w1 ⟨v, rfl, hown, hb⟩
  have hB := (hb.block w.heap.size (by simp)).trans (alloc_new w _ _)
  have HBW : Hid (Below w.heap.size w w1) := ((Below.refl _ w).alloc (Nat.le_refl _) _).trans (hb.mono (by simp))
  have HB : Hid (w1.heap[w.heap.size]? = some (.cells (frmCells 0 noFrm) 64 (0, 0))) := hB
  obtain ⟨g, cap, rfl, hg, hc⟩ := formsV_of hown
  have HC : Hid (∀ i, i < 93 → _) := fun i (hi : i < 93) => hc i hi
  clear hc hown hb hB
  go_wp2
  go_loop [3, 5] (fun b i => b = .bool false ∧ ∃ k : Nat, k ≤ 93 ∧ i = .int .i64 k ∧ ∀ j, j < k → namP s (opN j) = false) (fun _ i => 93 - (intOf i).toNat)
  case atStart => exact ⟨rfl, 0, by omega, rfl, fun j hj => by omega⟩
  case round =>
    obtain ⟨rfl, k, hk, rfl, hno⟩ := hrel
    have HO : Hid (∀ j, j < k → namP s (opN j) = false) := hno
    clear hno
    by_cases hlt : k < 93
    · obtain ⟨c0, c1, c2, c3, c4, c5, c6, c7⟩ := HC.out k hlt
      have HP : Hid (namP s (opN k) = ((opF (opN k)).1.toList == s.toList)) := rfl
      have HF : Hid (namP s (opN k) = true → opsL.find? (namP s) = some (opN k)) := fun h => findN_at opsL k (Nat.lt_of_lt_of_eq hlt ops93.symm) HO.out h
      have HS : Hid (namP s (opN k) = false → ∀ j, j < k + 1 → namP s (opN j) = false) := fun h j hj => by
        by_cases e : j = k
        · subst e; exact h
        · exact HO.out j (by omega)
      generalize hx : opN k = x at *
      have HV : Hid (opsL.find? (namP s) = some x → namedV s = formV x (opF x) ∧ namedB s = true) := fun h => by unfold namedV namedB; rw [h]; exact ⟨rfl, rfl⟩
      generalize hf : opF x = f at *
      obtain ⟨nm, t, r, fx, rs, mo, pa⟩ := f
      simp only at c0 c1 c2 c3 c4 c5 c6 c7
      have hk0 : (0 : Int) ≤ (k : Int) := by omega
      have hki : (k : Int) < (93 : Int) := by omega
      cases hit : (nm.toList == s.toList)
      · have HE : Hid (∀ j, j < k + 1 → namP s (opN j) = false) := HS.out (by rw [HP.out]; exact hit)
        clear HF HS HO HV HP c0 c2 c3 c4 c5 c6 c7 hx hf
        go_wp2
        go_round
        case rel => exact ⟨rfl, k + 1, by omega, by go_num, HE.out⟩
        case measure => simp [intOf]; omega
      · obtain ⟨e1, e2⟩ := HV.out (HF.out (by rw [HP.out]; exact hit))
        have HE : Hid (namedV s = formV x (nm, t, r, fx, rs, mo, pa) ∧ namedB s = true) := ⟨e1, e2⟩
        obtain ⟨d0, d1, d2, d3, d4, d5, d6, d7, df⟩ := frm_cells (n := 0) (f := noFrm) HB.out
        unfold noFrm at d1 d2 d3 d4 d5 d6 d7
        clear HF HS HO HV HP e1 e2 hx hf
        go_wp2
        have hx := eight_set HB.out (.int .u16 x) (.string nm) (.bool t) (.bool r) (.string fx) (.string rs) (.int .i64 mo) (.int .u8 pa)
        have hy := eight_below w1 w.heap.size (.int .u16 x) (.string nm) (.bool t) (.bool r) (.string fx) (.string rs) (.int .i64 mo) (.int .u8 pa)
        obtain ⟨x0, x1, x2, x3, x4, x5, x6, x7, xf⟩ := frm_cells (n := x) (f := (nm, t, r, fx, rs, mo, pa)) hx
        clear hx d0 d1 d2 d3 d4 d5 d6 d7 df xf c0 c1 c2 c3 c4 c5 c6 c7
        generalize ((((((((w1.setCell ⟨w.heap.size, 0, none⟩ (.int .u16 x)).setCell ⟨w.heap.size, 1, none⟩ (.string nm)).setCell ⟨w.heap.size, 2, none⟩ (.bool t)).setCell ⟨w.heap.size, 3, none⟩ (.bool r)).setCell ⟨w.heap.size, 4, none⟩ (.string fx)).setCell ⟨w.heap.size, 5, none⟩ (.string rs)).setCell ⟨w.heap.size, 6, none⟩ (.int .i64 mo)).setCell ⟨w.heap.size, 7, none⟩ (.int .u8 pa)) = Z at *
        try rw [Exit.noGoto_ret]
        exact bodyPost_ret (v := .tuple #[formV x (nm, t, r, fx, rs, mo, pa), .bool true]) (by simp [results, Tryz.results50, go_sem, formV, x0, x1, x2, x3, x4, x5, x6, x7]) rfl ⟨by rw [HE.out.1, HE.out.2], HBW.out.trans hy⟩
    · obtain rfl : k = 93 := by omega
      have hn : opsL.find? (namP s) = none := findN_not opsL (fun j hj => HO.out j (Nat.lt_of_lt_of_eq hj ops93))
      have HE : Hid (namedV s = formV 0 noFrm ∧ namedB s = false) := by show _ ∧ _; unfold namedV namedB; rw [hn]; exact ⟨rfl, rfl⟩
      obtain ⟨d0, d1, d2, d3, d4, d5, d6, d7, df⟩ := frm_cells (n := 0) (f := noFrm) HB.out
      unfold noFrm at d1 d2 d3 d4 d5 d6 d7
      clear hn HO
      go_wp2
      have hx := eight_set HB.out (.int .u16 0) (.string ⟨#[]⟩) (.bool false) (.bool false) (.string ⟨#[]⟩) (.string ⟨#[]⟩) (.int .i64 0) (.int .u8 0)
      have hy := eight_below w1 w.heap.size (.int .u16 0) (.string ⟨#[]⟩) (.bool false) (.bool false) (.string ⟨#[]⟩) (.string ⟨#[]⟩) (.int .i64 0) (.int .u8 0)
      obtain ⟨x0, x1, x2, x3, x4, x5, x6, x7, xf⟩ := frm_cells (n := 0) (f := noFrm) hx
      unfold noFrm at x1 x2 x3 x4 x5 x6 x7
      clear hx d0 d1 d2 d3 d4 d5 d6 d7 df xf
      generalize ((((((((w1.setCell ⟨w.heap.size, 0, none⟩ (.int .u16 0)).setCell ⟨w.heap.size, 1, none⟩ (.string ⟨#[]⟩)).setCell ⟨w.heap.size, 2, none⟩ (.bool false)).setCell ⟨w.heap.size, 3, none⟩ (.bool false)).setCell ⟨w.heap.size, 4, none⟩ (.string ⟨#[]⟩)).setCell ⟨w.heap.size, 5, none⟩ (.string ⟨#[]⟩)).setCell ⟨w.heap.size, 6, none⟩ (.int .i64 0)).setCell ⟨w.heap.size, 7, none⟩ (.int .u8 0)) = Z at *
      exact bodyPost_ret (v := .tuple #[formV 0 noFrm, .bool false]) (by simp [results, Tryz.results50, go_sem, formV, noFrm, x0, x1, x2, x3, x4, x5, x6, x7]) rfl ⟨by rw [HE.out.1, HE.out.2], HBW.out.trans hy⟩

end Go.Proofs.YtmobologlaeefaaGreat

/-
  What a line's tokens say, as plain functions: a head, an argument, an instruction.
-/
namespace Go.Proofs.YtmobologlaeefaaGreat
open Go.RowKit
set_option linter.unusedVariables false
set_option linter.unusedSimpArgs false

/-- The kind of token that a letter asks for; 0: none may stand. -/
def takeK (c : Int) : Int := if kindI c = 1 then 2 else if kindI c = 2 then 3 else if kindI c = 3 then 4 else if kindI c = 4 then 1 else 0

/-- What is wrong with digits as an id. -/
def idP (s : ByteArray) (b : Int) : Int := if numB (strI s) = false then 62 else if numV (strI s) = 0 ∨ b ≤ numV (strI s) then 43 else 0

/-- What is wrong with a text as an argument of a letter. -/
def txtE (c : Int) (s : ByteArray) (b : Int) : Int :=
  if kindI c = 1 then idP s b else if kindI c = 2 then numErr (strI s) else if kindI c = 3 then (if nulS s then 13 else 0)
  else if kindI c = 4 then (if enumNB c s then 0 else 71) else 70
/-- The argument that it says. -/
def txtA (c : Int) (s : ByteArray) (b : Int) : ArgT :=
  if txtE c s b ≠ 0 then noArg
  else if kindI c = 1 then (1, numV (strI s), ⟨#[]⟩) else if kindI c = 2 then (2, numV (strI s), ⟨#[]⟩) else if kindI c = 3 then (3, 0, s)
  else (4, enumN c s, ⟨#[]⟩)
/-- The same of a token. -/
def argE (c : Int) (t : TokT) (b : Int) : Int := if takeK c = 0 ∨ t.1 ≠ takeK c then 70 else txtE c t.2.1 b
def argA (c : Int) (t : TokT) (b : Int) : ArgT := if argE c t b ≠ 0 then noArg else txtA c t.2.1 b

/-- The arguments of so many tokens, from a place on. -/
def argsN (f : Frm) (b : Int) (l : List TokT) (at_ n : Nat) : List ArgT := (List.range n).map fun (k : Nat) => argA (letterI f k) (nthT l (at_ + k)) b
/-- The first token that is wrong as an argument. -/
def badArg (f : Frm) (b : Int) (l : List TokT) (at_ : Nat) : Option Nat := (List.range (l.length - at_)).find? fun (k : Nat) => decide (argE (letterI f k) (nthT l (at_ + k)) b ≠ 0)

/-- An instruction, whether there is one, what is wrong, where. -/
abbrev LineR := InstT × Bool × Int × Int
def noLine (e p : Int) : LineR := (noInst, false, e, p)
/-- From the arguments on. -/
def lineA (o : Int) (f : Frm) (t r : Int) (l : List TokT) (at_ : Nat) (len b : Int) : LineR :=
  match badArg f b l at_ with
  | some k => noLine (argE (letterI f k) (nthT l (at_ + k)) b) (nthT l (at_ + k)).2.2
  | none =>
    if wholeN f ((l.length - at_ : Nat) : Int) = false then noLine 72 len
    else if 65535 < 1 + (rawL f (o, t, r, argsN f b l at_ (l.length - at_))).length then noLine 25 0
    else ((o, t, r, argsN f b l at_ (l.length - at_)), true, 0, 0)
/-- From the type on. -/
def lineT (o : Int) (f : Frm) (r : Int) (l : List TokT) (at_ : Nat) (len b : Int) : LineR :=
  if f.2.1 = false then lineA o f 0 r l at_ len b
  else if l.length ≤ at_ then noLine 72 len
  else if argE 105 (nthT l at_) b ≠ 0 then noLine (argE 105 (nthT l at_) b) (nthT l at_).2.2
  else lineA o f (argA 105 (nthT l at_) b).2.1 r l (at_ + 1) len b
/-- From the operation on. -/
def lineO (said : Bool) (l : List TokT) (at_ : Nat) (len b : Int) : LineR :=
  if l.length ≤ at_ then noLine 72 len
  else if (nthT l at_).1 ≠ 1 then noLine 70 (nthT l at_).2.2
  else match opsL.find? (namP (nthT l at_).2.1) with
    | none => noLine 71 (nthT l at_).2.2
    | some o => if (opF o).2.2.1 ≠ said then noLine 41 (nthT l 0).2.2
      else if said = true ∧ idP (nthT l 0).2.1 b ≠ 0 then noLine (idP (nthT l 0).2.1 b) (nthT l 0).2.2
      else lineT o (opF o) (if said then numV (strI (nthT l 0).2.1) else 0) l (at_ + 1) len b
/-- What a line's tokens say; there is one at least. -/
def lineP (l : List TokT) (len b : Int) : LineR :=
  if (nthT l 0).1 ≠ 2 then lineO false l 0 len b
  else if l.length < 2 then noLine 72 len
  else if (nthT l 1).1 ≠ 5 then noLine 70 (nthT l 1).2.2
  else lineO true l 2 len b
/-- What a line says. -/
def lineS (s : ByteArray) (b : Int) : LineR :=
  if (toksP (strI s) 0).2.1 ≠ 0 ∨ (toksP (strI s) 0).1 = [] then noLine (toksP (strI s) 0).2.1 (toksP (strI s) 0).2.2 else lineP (toksP (strI s) 0).1 s.size b

end Go.Proofs.YtmobologlaeefaaGreat

/-
  Plain facts: a text's words, with whatever words behind them, are read as the text.
-/
namespace Go.Proofs.YtmobologlaeefaaGreat
open Go.RowKit

end Go.Proofs.YtmobologlaeefaaGreat

/-
  The text at the front of words, as a function of the words.
-/
namespace Go.Proofs.YtmobologlaeefaaGreat
open Go.RowKit

end Go.Proofs.YtmobologlaeefaaGreat

/-
  Lists of instructions in memory: an operation and a list of words each.
-/
namespace Go.Proofs.YtmobologlaeefaaGreat
open Go.RowKit

/-- The instruction at a place of a list. -/
def nthR (rs : List (Int × List Int)) (j : Nat) : Int × List Int := rs.getD j (0, [])

/-- What can be read of a slice of instructions. -/
def RawsV (w : World) (a : Option Addr) (rs : List (Int × List Int)) : Prop :=
  ∀ j, j < rs.length → ∃ b off aj cj nj, a = some ⟨b, off, none⟩ ∧ b < w.heap.size ∧ w.cell? ⟨b, off + j * 2, none⟩ = some (.int .u16 (nthR rs j).1) ∧ w.cell? ⟨b, off + j * 2 + 1, none⟩ = some (.slice aj nj cj) ∧ (nthR rs j).2.length = nj ∧ View .u32 w aj (nthR rs j).2 ∧ nj ≤ cj

theorem RawsV.below {w w' : World} {a : Option Addr} {rs : List (Int × List Int)} (h : RawsV w a rs) (hb : Below w.heap.size w w') : RawsV w' a rs := by
  intro j hj
  obtain ⟨b, off, aj, cj, nj, e, hlt, h1, h2, h3, h4, h5⟩ := h j hj
  exact ⟨b, off, aj, cj, nj, e, Nat.lt_of_lt_of_le hlt hb.size, (hb.cell (p := ⟨b, off + j * 2, none⟩) hlt).trans h1, (hb.cell (p := ⟨b, off + j * 2 + 1, none⟩) hlt).trans h2, h3, h4.below hb, h5⟩

theorem RawsV.drew {w : World} {a : Option Addr} {rs : List (Int × List Int)} (h : RawsV w a rs) (q : Nat) : RawsV (w.drewN q) a rs := h.below (bel_drewN (Below.refl _ _) q)
theorem View.drew {k : IntKind} {w : World} {a : Option Addr} {zs : List Int} (h : View k w a zs) (q : Nat) : View k (w.drewN q) a zs := h.below (bel_drewN (Below.refl _ _) q)

end Go.Proofs.YtmobologlaeefaaGreat

/-
  What Fault and Size of the document's answer return: the first instruction that is too long, or with which there are too many words; and how many words there are.
-/
namespace Go.Proofs.YtmobologlaeefaaGreat
open Go.RowKit
set_option maxRecDepth 10000

/-- How many words the head and the first k instructions have. -/
def sizeTo (rs : List (Int × List Int)) (k : Nat) : Nat := (rs.take k).foldl (fun s r => s + 1 + r.2.length) 5
/-- The first instruction that may not be, and why. -/
def faultF (rs : List (Int × List Int)) : Nat → Nat → Int × Nat
  | 0, _ => (0, 0)
  | f + 1, k => if k < rs.length then (if 65535 ≤ (nthR rs k).2.length then (25, k) else if 1048576 < sizeTo rs (k + 1) then (4, k) else faultF rs f (k + 1)) else (0, 0)
def fault (rs : List (Int × List Int)) (k : Nat) : Int × Nat := faultF rs (rs.length - k) k

end Go.Proofs.YtmobologlaeefaaGreat

/-
  What Size of the document's answer returns: how many words there are, or the error.
-/
namespace Go.Proofs.YtmobologlaeefaaGreat
open Go.RowKit
set_option maxRecDepth 10000

end Go.Proofs.YtmobologlaeefaaGreat

/-
  The instruction that words say, as a function of the words.
-/
namespace Go.Proofs.YtmobologlaeefaaGreat
open Go.RowKit
set_option linter.unusedVariables false
set_option linter.unusedSimpArgs false

end Go.Proofs.YtmobologlaeefaaGreat

/-
  Plain facts on modules as words: the first instruction that is wrong, and all instructions' words.
-/
namespace Go.Proofs.YtmobologlaeefaaGreat
open Go.RowKit
set_option linter.unusedVariables false

theorem rawWs_ok {x : InstT} {b : Int} (h : rawE x b = 0) : (lookF refT x.1).2 = true ∧ faultI (lookF refT x.1).1 x b = 0 ∧ rawWs x b = rawL (lookF refT x.1).1 x := by
  have h1 := h
  unfold rawE at h1
  by_cases h2 : (lookF refT x.1).2 = true
  · rw [if_pos h2] at h1
    exact ⟨h2, h1, by unfold rawWs; rw [if_pos h]⟩
  · rw [if_neg h2] at h1; cases h1
theorem faultI_zero {f : Frm} {x : InstT} {b : Int} (h : faultI f x b = 0) : idE f.2.1 x.2.1 b 40 = 0 ∧ idE f.2.2.1 x.2.2.1 b 41 = 0 ∧ wrongL f b 0 x.2.2.2 = 0 ∧ wholeN f x.2.2.2.length = true ∧ 1 + (rawL f x).length ≤ 65535 := by
  unfold faultI at h
  by_cases h1 : idE f.2.1 x.2.1 b 40 = 0
  · rw [if_neg (by simp [h1])] at h
    by_cases h2 : idE f.2.2.1 x.2.2.1 b 41 = 0
    · rw [if_neg (by simp [h2])] at h
      by_cases h3 : wrongL f b 0 x.2.2.2 = 0
      · rw [if_neg (by simp [h3])] at h
        by_cases h4 : wholeN f x.2.2.2.length = true
        · rw [if_neg (by simp [h4])] at h
          by_cases h5 : 65535 < 1 + (rawL f x).length
          · rw [if_pos h5] at h; cases h
          · exact ⟨h1, h2, h3, h4, by omega⟩
        · rw [if_pos (by simpa using h4)] at h; cases h
      · rw [if_pos h3] at h; exact absurd h h3
    · rw [if_pos h2] at h; exact absurd h h2
  · rw [if_pos h1] at h; exact absurd h h1
theorem rawWs_len (x : InstT) (b : Int) : (rawWs x b).length < 65535 := by
  by_cases h : rawE x b = 0
  · obtain ⟨_, h2, h3⟩ := rawWs_ok h
    have := (faultI_zero h2).2.2.2.2
    rw [h3]; omega
  · rw [rawWs, if_neg h]; simp

end Go.Proofs.YtmobologlaeefaaGreat

/-
  Plain facts: an instruction's words say the instruction, and the words of the instruction that words say are those words.
-/
namespace Go.Proofs.YtmobologlaeefaaGreat
open Go.RowKit
set_option linter.unusedVariables false

/-! ### a text's words -/

/-! ### one argument -/

/-! ### all arguments -/

/-! ### an instruction -/

theorem idE_none {n b e : Int} (h : noneB n b = false) : idE true n b e = 0 := by
  unfold noneB at h
  simp at h
  unfold idE
  simp [h.1]; omega
end Go.Proofs.YtmobologlaeefaaGreat

/-
  Plain facts on what a line's tokens say: an argument that is taken is a right one; an instruction whose arguments are taken can be written but for its length.
-/
namespace Go.Proofs.YtmobologlaeefaaGreat
open Go.RowKit
set_option linter.unusedVariables false
set_option linter.unusedSimpArgs false
set_option maxRecDepth 10000

theorem ops_known : opsL.all (fun k => (lookF refT (k : Int)).2 && decide (k < 65536)) = true := by decide +kernel
theorem op_known {k : Nat} {p : Nat → Bool} (h : opsL.find? p = some k) : (lookF refT (k : Int)).2 = true ∧ k < 65536 := by
  have := List.all_eq_true.1 ops_known k (List.mem_of_find?_eq_some h)
  simpa using this
theorem kind_zero : kindI 0 = 0 := by decide +kernel
theorem kind_i : kindI 105 = 1 := by decide +kernel
theorem take_zero : takeK 0 = 0 := by unfold takeK; rw [kind_zero]; rfl
theorem kindI_most (c : Int) : 0 ≤ kindI c ∧ kindI c ≤ 4 := by unfold kindI; repeat' split <;> omega
theorem take_none {c : Int} : takeK c = 0 ↔ kindI c = 0 := by
  have := kindI_most c
  unfold takeK
  constructor
  · intro h; repeat' split at h <;> omega
  · intro h; rw [h]; rfl

def letOk (f : Frm) : Bool := f.2.2.2.1.data.toList.all (fun x => decide (kindI (x.toNat : Int) ≠ 0)) && f.2.2.2.2.1.data.toList.all (fun x => decide (kindI (x.toNat : Int) ≠ 0))
theorem refT_letOk : refT.all (fun p => letOk p.2) = true := by decide +kernel
theorem look_letOk (n : Int) : letOk (lookF refT n).1 = true := by
  by_cases h : (lookF refT n).2 = true
  · exact List.all_eq_true.1 refT_letOk _ (lookF_true h)
  · have : lookF refT n = (noFrm, false) := (lookF_false (by simpa using h)).1
    rw [this]; rfl
theorem sgn_known {s : ByteArray} (h : s.data.toList.all (fun x => decide (kindI (x.toNat : Int) ≠ 0)) = true) (k : Nat) : sgn s k = 0 ∨ kindI (sgn s k) ≠ 0 := by
  unfold sgn
  by_cases hk : k < s.data.toList.length
  · right
    have e : s.data.toList.getD k 0 = s.data.toList[k] := by rw [List.getD, List.getElem?_eq_getElem hk]; rfl
    have := List.all_eq_true.1 h _ (List.getElem_mem hk)
    rw [e]; simpa using this
  · left
    have e : s.data.toList.getD k 0 = 0 := by simp only [List.getD]; rw [List.getElem?_eq_none (by omega)]; rfl
    rw [e]; rfl
/-- A form's letter is none, or a known one. -/
theorem letter_known (n i : Int) : letterI (lookF refT n).1 i = 0 ∨ kindI (letterI (lookF refT n).1 i) ≠ 0 := by
  have h := look_letOk n
  simp only [letOk, Bool.and_eq_true] at h
  unfold letterI
  split
  · exact .inl rfl
  · split
    · exact sgn_known h.1 _
    · split
      · exact sgn_known h.2 _
      · exact .inl rfl

theorem names_range : namesT.all (fun x => decide (0 ≤ x.2.1) && decide (x.2.1 < 4294967296)) = true := by decide +kernel
theorem enum_named {c : Int} {s : ByteArray} (h : enumNB c s = true) : enumB c (enumN c s) = true ∧ 0 ≤ enumN c s ∧ enumN c s < 4294967296 := by
  unfold enumNB at h
  obtain ⟨x, hx⟩ := Option.isSome_iff_exists.1 h
  have e : enumN c s = x.2.1 := by unfold enumN; rw [hx]
  have hm := List.mem_of_find?_eq_some hx
  have hp := List.find?_some hx
  simp only [isNam, Bool.and_eq_true, beq_iff_eq] at hp
  have hr := List.all_eq_true.1 names_range x hm
  simp only [Bool.and_eq_true, decide_eq_true_eq] at hr
  rw [e]
  refine ⟨?_, hr.1, hr.2⟩
  unfold enumB
  rw [List.find?_isSome]
  exact ⟨x, hm, by simp [isNum, hp.1]⟩

theorem idP_zero {s : ByteArray} {b : Int} (h : idP s b = 0) : numB (strI s) = true ∧ noneB (numV (strI s)) b = false ∧ 0 < numV (strI s) ∧ numV (strI s) < b := by
  unfold idP at h
  split at h
  · omega
  · rename_i h0
    have hb : numB (strI s) = true := by simpa using h0
    have := num_bounds hb
    split at h
    · omega
    · rename_i h1
      refine ⟨hb, ?_, by omega, by omega⟩
      simp only [noneB, Bool.or_eq_false_iff, decide_eq_false_iff_not]
      omega

/-- An argument that is taken. -/
theorem arg_taken {c : Int} {t : TokT} {b : Int} (h : argE c t b = 0) : takeK c ≠ 0 ∧ t.1 = takeK c ∧ txtE c t.2.1 b = 0 ∧ argA c t b = txtA c t.2.1 b := by
  have h' := h
  unfold argE at h
  split at h
  · omega
  · rename_i h0
    refine ⟨by omega, by omega, h, ?_⟩
    unfold argA; rw [if_neg (by omega)]
theorem txt_right {c : Int} {s : ByteArray} {b : Int} (h : txtE c s b = 0) (hc : c ≠ 0) (hs : s.size ≤ 140737488351232) : wrongA c (txtA c s b) b = 0 ∧ (txtA c s b).1 = kindI c ∧ ArgOk (txtA c s b) := by
  have hr := kindI_most c
  have h1 := h
  unfold txtE at h
  unfold txtA
  rw [if_neg (by omega)]
  have es : ((⟨#[]⟩ : ByteArray).size == 0) = true := rfl
  by_cases k1 : kindI c = 1
  · rw [if_pos k1] at h ⊢
    obtain ⟨g1, g2, g3, g4⟩ := idP_zero h
    have gb := num_bounds g1
    refine ⟨?_, k1.symm, ⟨by simp, by simp, gb.1, gb.2, by show (0 : Nat) ≤ _; omega⟩⟩
    simp [wrongA, mayStandB, hc, k1, faultW, g2]; rfl
  · rw [if_neg k1] at h ⊢
    by_cases k2 : kindI c = 2
    · rw [if_pos k2] at h ⊢
      have gb := num_bounds (numErr_zero h)
      refine ⟨?_, k2.symm, ⟨by simp, by simp, gb.1, gb.2, by show (0 : Nat) ≤ _; omega⟩⟩
      simp [wrongA, mayStandB, hc, k2, faultW]; rfl
    · rw [if_neg k2] at h ⊢
      by_cases k3 : kindI c = 3
      · rw [if_pos k3] at h ⊢
        have hn : nulS s = false := by
          cases e : nulS s with
          | false => rfl
          | true => rw [e] at h; simp at h
        refine ⟨?_, k3.symm, ⟨by simp, by simp, by simp, by simp, hs⟩⟩
        simp [wrongA, mayStandB, hc, k3, hn]
      · rw [if_neg k3] at h ⊢
        by_cases k4 : kindI c = 4
        · rw [if_pos k4] at h
          have he : enumNB c s = true := by
            cases e : enumNB c s with
            | true => rfl
            | false => rw [e] at h; simp at h
          obtain ⟨g1, g2, g3⟩ := enum_named he
          refine ⟨?_, k4.symm, ⟨by simp, by simp, g2, g3, by show (0 : Nat) ≤ _; omega⟩⟩
          simp [wrongA, mayStandB, hc, k4, faultW, g1]; rfl
        · rw [if_neg k4] at h; omega
theorem arg_right {c : Int} {t : TokT} {b : Int} (h : argE c t b = 0) (hs : t.2.1.size ≤ 140737488351232) : wrongA c (argA c t b) b = 0 ∧ (argA c t b).1 = kindI c ∧ c ≠ 0 ∧ ArgOk (argA c t b) := by
  obtain ⟨h1, h2, h3, h4⟩ := arg_taken h
  have hc : c ≠ 0 := fun e => by rw [e] at h1; exact h1 take_zero
  obtain ⟨g1, g2, g3⟩ := txt_right h3 hc hs
  rw [h4]
  exact ⟨g1, g2, hc, g3⟩
theorem arg_id {t : TokT} {b : Int} (h : argE 105 t b = 0) : idE true (argA 105 t b).2.1 b 40 = 0 ∧ 0 ≤ (argA 105 t b).2.1 ∧ (argA 105 t b).2.1 < 4294967296 ∧ (argA 105 t b).2.1 = numV (strI t.2.1) := by
  obtain ⟨h1, h2, h3, h4⟩ := arg_taken h
  have h3' := h3
  unfold txtE at h3
  rw [if_pos kind_i] at h3
  obtain ⟨g1, g2, g3, g4⟩ := idP_zero h3
  have gb := num_bounds g1
  have e : (argA 105 t b).2.1 = numV (strI t.2.1) := by rw [h4]; unfold txtA; rw [if_neg (by omega), if_pos kind_i]
  rw [e]
  exact ⟨idE_none g2, gb.1, gb.2, rfl⟩

theorem argsN_len (f : Frm) (b : Int) (l : List TokT) (at_ n : Nat) : (argsN f b l at_ n).length = n := by simp [argsN]
theorem argsN_nth (f : Frm) (b : Int) (l : List TokT) (at_ n k : Nat) (h : k < n) : nthA (argsN f b l at_ n) k = argA (letterI f k) (nthT l (at_ + k)) b := by
  simp [argsN, nthA, List.getD, h]
theorem argsN_snoc (f : Frm) (b : Int) (l : List TokT) (at_ n : Nat) : argsN f b l at_ (n + 1) = argsN f b l at_ n ++ [argA (letterI f n) (nthT l (at_ + n)) b] := by
  simp [argsN, List.range_succ]
theorem badArg_at {f : Frm} {b : Int} {l : List TokT} {at_ k : Nat} (hk : at_ + k < l.length) (h0 : ∀ j, j < k → argE (letterI f j) (nthT l (at_ + j)) b = 0) (h : argE (letterI f k) (nthT l (at_ + k)) b ≠ 0) : badArg f b l at_ = some k :=
  range_find _ k (by omega) (fun j hj => by simp [h0 j hj]) (by simp [h])
theorem badArg_no {f : Frm} {b : Int} {l : List TokT} {at_ : Nat} (h0 : ∀ j, at_ + j < l.length → argE (letterI f j) (nthT l (at_ + j)) b = 0) : badArg f b l at_ = none :=
  range_not _ (fun j hj => by simp [h0 j (by omega)])
theorem badArg_none {f : Frm} {b : Int} {l : List TokT} {at_ : Nat} (h : badArg f b l at_ = none) : ∀ j, at_ + j < l.length → argE (letterI f j) (nthT l (at_ + j)) b = 0 := fun j hj => by
  have := (List.find?_eq_none.1 h) j (List.mem_range.2 (by omega))
  simpa using this
theorem lineA_bad {o : Int} {f : Frm} {t r : Int} {l : List TokT} {at_ k : Nat} {len b : Int} (hk : at_ + k < l.length) (h0 : ∀ j, j < k → argE (letterI f j) (nthT l (at_ + j)) b = 0) (h : argE (letterI f k) (nthT l (at_ + k)) b ≠ 0) :
    lineA o f t r l at_ len b = noLine (argE (letterI f k) (nthT l (at_ + k)) b) (nthT l (at_ + k)).2.2 := by
  unfold lineA; rw [badArg_at hk h0 h]
theorem lineA_ok {o : Int} {f : Frm} {t r : Int} {l : List TokT} {at_ : Nat} {len b : Int} (h0 : ∀ j, at_ + j < l.length → argE (letterI f j) (nthT l (at_ + j)) b = 0) :
    lineA o f t r l at_ len b = if wholeN f ((l.length - at_ : Nat) : Int) = false then noLine 72 len
      else if 65535 < 1 + (rawL f (o, t, r, argsN f b l at_ (l.length - at_))).length then noLine 25 0
      else ((o, t, r, argsN f b l at_ (l.length - at_)), true, 0, 0) := by
  unfold lineA; rw [badArg_no h0]

/-- Taken arguments. -/
theorem args_right {o : Int} {f : Frm} {b : Int} {l : List TokT} {at_ n : Nat} (hf : f = (lookF refT o).1) (h0 : ∀ j, j < n → argE (letterI f j) (nthT l (at_ + j)) b = 0) (hs : ToksIn l) (hn : at_ + n ≤ l.length) :
    ArgsOk (argsN f b l at_ n) ∧ wrongL f b 0 (argsN f b l at_ n) = 0 ∧ (fitsI true f (kindsL (argsN f b l at_ n))).2 = wholeN f (n : Int) := by
  have key : ∀ j, j < n → wrongA (letterI f j) (nthA (argsN f b l at_ n) j) b = 0 ∧ (nthA (argsN f b l at_ n) j).1 = kindI (letterI f j) ∧ letterI f j ≠ 0 ∧ ArgOk (nthA (argsN f b l at_ n) j) := fun j hj => by
    rw [argsN_nth _ _ _ _ _ _ hj]
    exact arg_right (h0 j hj) (hs (at_ + j) (by omega)).2.2.1
  refine ⟨fun j hj => (key j (by rwa [argsN_len] at hj)).2.2.2, wrongL_none fun i hi => ?_, ?_⟩
  · have := (key i (by rwa [argsN_len] at hi)).1
    rw [show 0 + i = i by omega]; exact this
  · have := fits_whole (f := f) (l := argsN f b l at_ n) (fun i hi => by
      have := key i (by rwa [argsN_len] at hi)
      exact ⟨this.2.2.1, this.2.1⟩)
    rw [argsN_len] at this
    exact this
/-- What Raw answers of a line's instruction. -/
theorem line_raw {o : Int} {f : Frm} {t r b : Int} {l : List TokT} {at_ n : Nat} (hf : f = (lookF refT o).1) (ho : (lookF refT o).2 = true) (h0 : ∀ j, j < n → argE (letterI f j) (nthT l (at_ + j)) b = 0) (hs : ToksIn l) (hn : at_ + n ≤ l.length)
    (hw : wholeN f (n : Int) = true) (ht : idE f.2.1 t b 40 = 0) (hr : idE f.2.2.1 r b 41 = 0) : rawE (o, t, r, argsN f b l at_ n) b = if 65535 < 1 + (rawL f (o, t, r, argsN f b l at_ n)).length then 25 else 0 := by
  obtain ⟨g1, g2, g3⟩ := args_right hf h0 hs hn
  unfold rawE
  rw [if_pos ho, ← hf]
  unfold faultI
  simp only [argsN_len]
  rw [if_neg (by omega), if_neg (by omega), if_neg (by omega), if_neg (by simp [hw])]

end Go.Proofs.YtmobologlaeefaaGreat

/-
  What kindOf, inRun, printable, digitValue and hexDigit of the layer lex return, for every byte; nothing turns.
-/
namespace Go.Proofs.YtmobologlaeefaaGreat
open Go.RowKit
set_option maxRecDepth 10000
set_option linter.unusedVariables false
set_option linter.unusedSimpArgs false

theorem printable_any (c : Int) (w : World) (h0 : 0 ≤ c) (h1 : c < 256) :
    Calls Tryz.prog 168 #[.int .u8 c] w fun e w' => e = .returned (.bool (printB c)) ∧ w = w' := by
  by_cases a : 32 ≤ c
  · by_cases b : c ≤ 126
    · have H : Hid (printB c = true) := by show _ = _; simp [printB]; omega
      go_enter Tryz.func168, Tryz.ntmps168
      go_wp2
      go_ret
      exact ⟨by rw [H.out]; first | rfl | (simp; done) | (simp; omega), rfl⟩
    · have H : Hid (printB c = false) := by show _ = _; simp [printB]; omega
      go_enter Tryz.func168, Tryz.ntmps168
      go_wp2
      go_ret
      exact ⟨by rw [H.out]; first | rfl | (simp; done) | (simp; omega), rfl⟩
  · have H : Hid (printB c = false) := by show _ = _; simp [printB]; omega
    go_enter Tryz.func168, Tryz.ntmps168
    go_wp2
    go_ret
    exact ⟨by rw [H.out]; first | rfl | (simp; done) | (simp; omega), rfl⟩

theorem inRun_any (k : Int) (w : World) (h0 : 0 ≤ k) (h1 : k < 256) :
    Calls Tryz.prog 151 #[.int .u8 k] w fun e w' => e = .returned (.bool (k == 3 || k == 4)) ∧ w = w' := by
  by_cases a : k = 3
  · subst a
    go_enter Tryz.func151, Tryz.ntmps151
    go_wp2
    go_ret
    exact ⟨rfl, rfl⟩
  · have a' : (k == 3) = false := by simpa using a
    go_enter Tryz.func151, Tryz.ntmps151
    go_wp2
    go_ret
    exact ⟨by rw [a']; rfl, rfl⟩

theorem kindL_letter {c : Int} (h : letterB c = true) : kindL c = 3 := by simp [kindL, h]
theorem kindL_digit {c : Int} (h : digitB c = true) : kindL c = 4 := by
  have : letterB c = false := by
    simp only [digitB, decide_eq_true_eq] at h
    simp [letterB]; omega
  simp [kindL, h, this]

set_option maxHeartbeats 1000000 in
theorem lexKindOf_any (c : Int) (w : World) (h0 : 0 ≤ c) (h1 : c < 256) :
    Calls Tryz.prog 148 #[.int .u8 c] w fun e w' => e = .returned (.int .u8 (kindL c)) ∧ w = w' := by
  by_cases a0 : c = 95
  · subst a0
    go_enter Tryz.func148, Tryz.ntmps148
    go_wp2
    go_ret
    exact ⟨rfl, rfl⟩
  by_cases a1 : 65 ≤ c ∧ c ≤ 90
  · have H : Hid (kindL c = 3) := kindL_letter (by simp [letterB]; omega)
    have b0 : (c == 95) = false := by simpa using a0
    obtain ⟨a2, a3⟩ := a1
    clear a0
    go_enter Tryz.func148, Tryz.ntmps148
    go_wp2
    go_ret
    exact ⟨by rw [H.out]; rfl, rfl⟩
  by_cases a2 : 97 ≤ c ∧ c ≤ 122
  · have H : Hid (kindL c = 3) := kindL_letter (by simp [letterB]; omega)
    have b0 : (c == 95) = false := by simpa using a0
    have b1 : 65 ≤ c := by omega
    have b2 : ¬ c ≤ 90 := by omega
    obtain ⟨a4, a3⟩ := a2
    clear a0 a1
    go_enter Tryz.func148, Tryz.ntmps148
    go_wp2
    go_ret
    exact ⟨by rw [H.out]; rfl, rfl⟩
  have d1 : (decide (65 ≤ c) && decide (c ≤ 90)) = false := by simpa using a1
  have d2 : (decide (97 ≤ c) && decide (c ≤ 122)) = false := by simpa using a2
  have hL : letterB c = false := by simp [letterB, a0]; omega
  have b0 : (c == 95) = false := by simpa using a0
  by_cases a3 : 48 ≤ c ∧ c ≤ 57
  · have H : Hid (kindL c = 4) := kindL_digit (by simp [digitB]; omega)
    obtain ⟨a4, a5⟩ := a3
    have b1 : ¬ 65 ≤ c := by omega
    have b2 : ¬ 97 ≤ c := by omega
    clear a0 a1 a2 d1 d2 hL
    go_enter Tryz.func148, Tryz.ntmps148
    go_wp2
    go_ret
    exact ⟨by rw [H.out]; rfl, rfl⟩
  have hD : digitB c = false := by simp [digitB]; omega
  have HK : Hid (kindL c = if blankB c then 2 else if c = 37 then 5 else if c = 45 then 6 else if c = 34 then 7 else if c = 92 then 8 else if c = 61 then 9 else if c = 59 then 10 else 1) := by
    show _ = _
    simp only [kindL, hL, hD]; rfl
  by_cases e0 : c = 9 ∨ c = 13 ∨ c = 32 ∨ c = 37 ∨ c = 45 ∨ c = 34 ∨ c = 61 ∨ c = 59
  · rcases e0 with rfl | rfl | rfl | rfl | rfl | rfl | rfl | rfl <;>
    · go_enter Tryz.func148, Tryz.ntmps148
      go_wp2
      go_ret
      exact ⟨rfl, rfl⟩
  by_cases e1 : c = 92
  · subst e1
    go_enter Tryz.func148, Tryz.ntmps148
    go_wp2
    go_ret
    exact ⟨rfl, rfl⟩
  simp only [not_or] at e0
  obtain ⟨f0, f1, f2, f3, f4, f5, f6, f7⟩ := e0
  have H : Hid (kindL c = 1) := by
    show _ = _
    rw [HK.out, if_neg (by simp [blankB]; omega), if_neg f3, if_neg f4, if_neg f5, if_neg e1, if_neg f6, if_neg f7]
  have g0 : (c == 9) = false := by simpa using f0
  have g1 : (c == 13) = false := by simpa using f1
  have g2 : (c == 32) = false := by simpa using f2
  have g3 : (c == 37) = false := by simpa using f3
  have g4 : (c == 45) = false := by simpa using f4
  have g5 : (c == 34) = false := by simpa using f5
  have g6 : (c == 61) = false := by simpa using f6
  have g7 : (c == 59) = false := by simpa using f7
  have g8 : (c == 92) = false := by simpa using e1
  clear f0 f1 f2 f3 f4 f5 f6 f7 e1 HK hD hL a0
  by_cases m0 : 65 ≤ c
  · have m1 : ¬ c ≤ 90 := by omega
    by_cases m2 : 97 ≤ c
    · have m3 : ¬ c ≤ 122 := by omega
      have m4 : 48 ≤ c := by omega
      have m5 : ¬ c ≤ 57 := by omega
      clear a1 a2 a3 d1 d2
      go_enter Tryz.func148, Tryz.ntmps148
      go_wp2
      go_ret
      exact ⟨by rw [H.out]; rfl, rfl⟩
    · have m4 : 48 ≤ c := by omega
      have m5 : ¬ c ≤ 57 := by omega
      clear a1 a2 a3 d1 d2
      go_enter Tryz.func148, Tryz.ntmps148
      go_wp2
      go_ret
      exact ⟨by rw [H.out]; rfl, rfl⟩
  · have m2 : ¬ 97 ≤ c := by omega
    by_cases m4 : 48 ≤ c
    · have m5 : ¬ c ≤ 57 := by omega
      clear a1 a2 a3 d1 d2
      go_enter Tryz.func148, Tryz.ntmps148
      go_wp2
      go_ret
      exact ⟨by rw [H.out]; rfl, rfl⟩
    · clear a1 a2 a3 d1 d2
      go_enter Tryz.func148, Tryz.ntmps148
      go_wp2
      go_ret
      exact ⟨by rw [H.out]; rfl, rfl⟩

theorem digitValue_any (c : Int) (w : World) (h0 : 0 ≤ c) (h1 : c < 256) :
    Calls Tryz.prog 170 #[.int .u8 c] w fun e w' => e = .returned (.int .u64 (dvI c)) ∧ w = w' := by
  have hE : ∀ c, 48 ≤ c → c ≤ 57 → dvI c = c - 48 := fun c a b => by
    unfold dvI worthI; rw [if_pos (by simp [hexB, digitB]; omega), if_pos b]
  have hF : ∀ c, 97 ≤ c → c ≤ 102 → dvI c = c - 87 := fun c a b => by
    unfold dvI worthI; rw [if_pos (by simp [hexB, digitB]; omega), if_neg (by omega), if_pos a]
  have hG : ∀ c, 65 ≤ c → c ≤ 70 → dvI c = c - 55 := fun c a b => by
    unfold dvI worthI; rw [if_pos (by simp [hexB, digitB]; omega), if_neg (by omega), if_neg (by omega)]
  by_cases a0 : 48 ≤ c
  · by_cases a1 : c ≤ 57
    · have H : Hid (dvI c = c - 48) := hE c a0 a1
      clear hE hF hG
      go_enter Tryz.func170, Tryz.ntmps170
      go_wp2
      go_ret
      exact ⟨by rw [H.out]; rfl, rfl⟩
    · by_cases a2 : 97 ≤ c
      · by_cases a3 : c ≤ 102
        · have H : Hid (dvI c = c - 87) := hF c a2 a3
          clear hE hF hG
          go_enter Tryz.func170, Tryz.ntmps170
          go_wp2
          go_ret
          exact ⟨by rw [H.out]; exact ret_int (by omega), rfl⟩
        · have H : Hid (dvI c = 18446744073709551615) := by show _ = _; unfold dvI; rw [if_neg (by simp [hexB, digitB]; omega)]
          have a4 : 65 ≤ c := by omega
          have a5 : ¬ c ≤ 70 := by omega
          clear hE hF hG
          go_enter Tryz.func170, Tryz.ntmps170
          go_wp2
          go_ret
          exact ⟨by rw [H.out]; rfl, rfl⟩
      · by_cases a3 : 65 ≤ c
        · by_cases a5 : c ≤ 70
          · have H : Hid (dvI c = c - 55) := hG c a3 a5
            clear hE hF hG
            go_enter Tryz.func170, Tryz.ntmps170
            go_wp2
            go_ret
            exact ⟨by rw [H.out]; exact ret_int (by omega), rfl⟩
          · have H : Hid (dvI c = 18446744073709551615) := by show _ = _; unfold dvI; rw [if_neg (by simp [hexB, digitB]; omega)]
            clear hE hF hG
            go_enter Tryz.func170, Tryz.ntmps170
            go_wp2
            go_ret
            exact ⟨by rw [H.out]; rfl, rfl⟩
        · have H : Hid (dvI c = 18446744073709551615) := by show _ = _; unfold dvI; rw [if_neg (by simp [hexB, digitB]; omega)]
          clear hE hF hG
          go_enter Tryz.func170, Tryz.ntmps170
          go_wp2
          go_ret
          exact ⟨by rw [H.out]; rfl, rfl⟩
  · have H : Hid (dvI c = 18446744073709551615) := by show _ = _; unfold dvI; rw [if_neg (by simp [hexB, digitB]; omega)]
    have a2 : ¬ 97 ≤ c := by omega
    have a3 : ¬ 65 ≤ c := by omega
    clear hE hF hG
    go_enter Tryz.func170, Tryz.ntmps170
    go_wp2
    go_ret
    exact ⟨by rw [H.out]; rfl, rfl⟩

end Go.Proofs.YtmobologlaeefaaGreat

/-
  What digitsOf, plainNumber, number and Number of the layer lex return, for every text; nothing turns.
-/
namespace Go.Proofs.YtmobologlaeefaaGreat
open Go.RowKit
set_option maxRecDepth 10000
set_option linter.unusedVariables false
set_option linter.unusedSimpArgs false

theorem str_empty_strI {s : ByteArray} : (strI s).isEmpty = s.toList.isEmpty := by
  rw [ByteArray.toList_eq, strI, List.isEmpty_map]

set_option maxHeartbeats 1000000 in
theorem digitsOf_any (s : ByteArray) (b : Int) (w : World) (hs : s.size ≤ 140737488351232) (hb : b = 10 ∨ b = 16) :
    Calls Tryz.prog 189 #[.string s, .int .u64 b] w fun e w' => (∃ x : Int, e = .returned (.tuple #[.int .u32 x, .bool (digsB b (strI s))]) ∧ 0 ≤ x ∧ x < 4294967296 ∧ (digsB b (strI s) = true → x = valF b 0 (strI s))) ∧ w = w' := by
  have HLen := strI_len s
  have HF : Hid (∀ k, k < s.size → b ≤ dvI (nth (strI s) k) → digsB b (strI s) = false) := fun k hk h => digs_not (by omega) h
  have HG : Hid (∀ k, 4294967296 ≤ valF b 0 ((strI s).take k) → digsB b (strI s) = false) := fun k h => digs_large (by omega) h
  have HA : Hid (∀ k, k < s.size → allD b ((strI s).take k) = true → dvI (nth (strI s) k) < b → allD b ((strI s).take (k + 1)) = true) := fun k hk h h1 => allD_snoc (by omega) h h1
  have HV : Hid (∀ k, k < s.size → valF b 0 ((strI s).take (k + 1)) = valF b 0 ((strI s).take k) * b + dvI (nth (strI s) k)) := fun k hk => valF_take b _ k (by omega)
  have HW : Hid (∀ k, 0 ≤ valF b 0 ((strI s).take k)) := fun k => valF_lo b _ (by omega)
  have HE : Hid (allD b ((strI s).take s.size) = true → valF b 0 ((strI s).take s.size) < 4294967296 → digsB b (strI s) = !s.toList.isEmpty ∧ valF b 0 ((strI s).take s.size) = valF b 0 (strI s)) := fun h1 h2 => by
    rw [List.take_of_length_le (by omega)] at h1 h2 ⊢
    refine ⟨?_, rfl⟩
    rw [digs_all h1 h2, str_empty_strI]
  clear HLen
  go_enter Tryz.func189, Tryz.ntmps189
  go_wp2
  go_loop [6, 11] (fun n i => ∃ k : Nat, k ≤ s.size ∧ i = .int .i64 k ∧ n = .int .u64 (valF b 0 ((strI s).take k)) ∧ allD b ((strI s).take k) = true ∧ valF b 0 ((strI s).take k) < 4294967296) (fun _ i => s.size - (intOf i).toNat)
  case atStart => exact ⟨0, Nat.zero_le _, rfl, rfl, rfl, by simp [valF]⟩
  case round =>
    obtain ⟨k, hk, rfl, rfl, hall, hlt32⟩ := hrel
    have hn0 := HW.out k
    by_cases hlt : k < s.size
    · have hc0 : (0 : Int) ≤ (s[k].toNat : Int) := by omega
      have hc1 : (s[k].toNat : Int) < 256 := by have := s[k].toNat_lt; omega
      have hD := fun wx => digitValue_any (s[k].toNat : Int) wx hc0 hc1
      have d0 := dv_lo (s[k].toNat : Int)
      have d1 := dv_hi (s[k].toNat : Int)
      have eF := HF.out k hlt
      have eG := HG.out (k + 1)
      have eA := HA.out k hlt hall
      have eV := HV.out k hlt
      rw [nth_strI s k hlt] at eF eA eV
      rw [eV] at eG
      have EF : Hid (b ≤ dvI (s[k].toNat : Int) → digsB b (strI s) = false) := eF
      have EG : Hid (4294967296 ≤ valF b 0 ((strI s).take k) * b + dvI (s[k].toNat : Int) → digsB b (strI s) = false) := eG
      have EA : Hid (dvI (s[k].toNat : Int) < b → allD b ((strI s).take (k + 1)) = true) := eA
      have EV : Hid (valF b 0 ((strI s).take (k + 1)) = valF b 0 ((strI s).take k) * b + dvI (s[k].toNat : Int)) := eV
      clear eF eG eA eV hall
      generalize dvI (s[k].toNat : Int) = d at *
      generalize valF b 0 ((strI s).take k) = n at *
      by_cases hge : b ≤ d
      · have HB : Hid (digsB b (strI s) = false) := EF.out hge
        have hdec : decide (b ≤ d) = true := decide_eq_true hge
        go_wp2_with (go_at_call 170; refine (hD _).mono ?_; rintro e w' ⟨rfl, rfl⟩)
        go_ret2
        exact ⟨⟨0, by rw [HB.out]; rfl, by omega, by omega, fun h => by rw [HB.out] at h; cases h⟩, rfl⟩
      · have hdec : decide (b ≤ d) = false := decide_eq_false hge
        by_cases hbig : 4294967296 ≤ n * b + d
        · have HB : Hid (digsB b (strI s) = false) := EG.out hbig
          have hdec2 : decide ((4294967295 : Int) < n * b + d) = true := decide_eq_true (by omega)
          have hw1 : 0 ≤ n * b ∧ n * b < 18446744073709551616 := by rcases hb with rfl | rfl <;> omega
          have hw2 : 0 ≤ n * b + d ∧ n * b + d < 18446744073709551616 := by rcases hb with rfl | rfl <;> omega
          clear hbig
          rcases hb with rfl | rfl <;>
          · go_wp2_with (go_at_call 170; refine (hD _).mono ?_; rintro e w' ⟨rfl, rfl⟩)
            go_ret2
            exact ⟨⟨0, by rw [HB.out]; rfl, by omega, by omega, fun h => by rw [HB.out] at h; cases h⟩, rfl⟩
        · have hdec2 : decide ((4294967295 : Int) < n * b + d) = false := decide_eq_false (by omega)
          have hsm : n * b + d < 4294967296 := by omega
          clear hbig
          rcases hb with rfl | rfl <;>
          · go_wp2_with (go_at_call 170; refine (hD _).mono ?_; rintro e w' ⟨rfl, rfl⟩)
            go_round
            case rel => exact ⟨k + 1, by omega, by go_num, by rw [EV.out], EA.out (by omega), by rw [EV.out]; exact hsm⟩
            case measure => simp [intOf]; omega
    · obtain rfl : k = s.size := by omega
      obtain ⟨e1, e2⟩ := HE.out hall hlt32
      have E2 : Hid (valF b 0 ((strI s).take s.size) = valF b 0 (strI s)) := e2
      clear e2 hall
      generalize valF b 0 ((strI s).take s.size) = n at *
      have E1 : Hid (digsB b (strI s) = !s.toList.isEmpty) := e1
      clear e1
      go_wp2
      go_ret2
      refine ⟨⟨n, ?_, hn0, hlt32, fun _ => E2.out⟩, rfl⟩
      rw [E1.out]; rfl

theorem plainNumber_any (s : ByteArray) (w : World) (hs : s.size ≤ 140737488351232) :
    Calls Tryz.prog 172 #[.string s] w fun e w' => (∃ x : Int, e = .returned (.tuple #[.int .u32 x, .bool (plainB (strI s))]) ∧ 0 ≤ x ∧ x < 4294967296 ∧ (plainB (strI s) = true → x = valF 10 0 (strI s))) ∧ w = w' := by
  have hD := fun wx => digitsOf_any s 10 wx hs (.inl rfl)
  by_cases h1 : 1 < s.size
  · have h0 := nth_strI s 0 (by omega)
    by_cases hz : (s[0].toNat : Int) = 48
    · have HB : Hid (plainB (strI s) = false) := plain_zero (by rw [strI_len]; exact h1) (by rw [h0]; exact hz)
      have hz' : ((s[0].toNat : Int) == 48) = true := by simpa using hz
      clear h0 hz
      go_enter Tryz.func172, Tryz.ntmps172
      go_wp2_with fail
      go_ret2
      exact ⟨⟨0, by rw [HB.out]; rfl, by omega, by omega, fun h => by rw [HB.out] at h; cases h⟩, rfl⟩
    · have HB : Hid (plainB (strI s) = digsB 10 (strI s)) := plain_digs (by rw [h0]; intro h; exact hz h.2)
      have hz' : ((s[0].toNat : Int) == 48) = false := by simpa using hz
      clear h0 hz
      go_enter Tryz.func172, Tryz.ntmps172
      go_wp2_with fail
      refine (hD _).mono ?_
      rintro e w' ⟨⟨x, rfl, hx0, hx1, hx⟩, rfl⟩
      go_wp2_with fail
      go_ret2
      exact ⟨⟨x, by rw [HB.out]; rfl, hx0, hx1, fun h => hx (by rw [HB.out] at h; exact h)⟩, rfl⟩
  · have HB : Hid (plainB (strI s) = digsB 10 (strI s)) := plain_digs (by rw [strI_len]; intro h; exact h1 h.1)
    go_enter Tryz.func172, Tryz.ntmps172
    go_wp2_with fail
    refine (hD _).mono ?_
    rintro e w' ⟨⟨x, rfl, hx0, hx1, hx⟩, rfl⟩
    go_wp2_with fail
    go_ret2
    exact ⟨⟨x, by rw [HB.out]; rfl, hx0, hx1, fun h => hx (by rw [HB.out] at h; exact h)⟩, rfl⟩

/-- A text begins with another. -/
def pfxB (t s : ByteArray) : Bool := decide (s.size ≤ t.size) && ((t.extract 0 s.size).toList == s.toList)
/-- What is left behind it. -/
def pfxS (t s : ByteArray) : ByteArray := if pfxB t s then t.extract s.size t.size else t

theorem litePfx_any (t s : ByteArray) (w : World) (ht : t.size ≤ 140737488351232) (hs : s.size ≤ 140737488351232) :
    Calls Tryz.prog 192 #[.string t, .string s] w fun e w' => e = .returned (.bool (pfxB t s)) ∧ w = w' := by
  by_cases h : s.size ≤ t.size
  · have HE : Hid (pfxB t s = ((t.extract 0 s.size).toList == s.toList)) := by show _ = _; unfold pfxB; rw [decide_eq_true h]; rfl
    have h' : decide ((t.size : Int) ≥ (s.size : Int)) = true := decide_eq_true (by omega)
    have hi : (s.size : Int) ≤ (t.size : Int) := by omega
    go_enter Tryz.func192, Tryz.ntmps192
    go_wp2
    go_ret
    exact ⟨by rw [HE.out]; rfl, rfl⟩
  · have HE : Hid (pfxB t s = false) := by show _ = _; unfold pfxB; rw [decide_eq_false h]; rfl
    go_enter Tryz.func192, Tryz.ntmps192
    go_wp2
    go_ret
    exact ⟨by rw [HE.out]; rfl, rfl⟩

theorem liteCutPrefix_any (t s : ByteArray) (w : World) (ht : t.size ≤ 140737488351232) (hs : s.size ≤ 140737488351232) :
    Calls Tryz.prog 202 #[.string t, .string s] w fun e w' => e = .returned (.tuple #[.string (pfxS t s), .bool (pfxB t s)]) ∧ w = w' := by
  have hP := fun wx => litePfx_any t s wx ht hs
  cases hb : pfxB t s
  · have HS : Hid (pfxS t s = t) := by show _ = _; simp [pfxS, hb]
    rw [hb] at hP
    clear hb
    go_enter Tryz.func202, Tryz.ntmps202
    go_wp2_with fail
    refine (hP _).mono ?_
    rintro e w' ⟨rfl, rfl⟩
    go_wp2_with fail
    go_ret2
    exact ⟨by rw [HS.out]; rfl, rfl⟩
  · have HS : Hid (pfxS t s = t.extract s.size t.size) := by show _ = _; simp [pfxS, hb]
    have hle : s.size ≤ t.size := by simp only [pfxB, Bool.and_eq_true, decide_eq_true_eq] at hb; exact hb.1
    have hi : (s.size : Int) ≤ (t.size : Int) := by omega
    rw [hb] at hP
    clear hb
    go_enter Tryz.func202, Tryz.ntmps202
    go_wp2_with fail
    refine (hP _).mono ?_
    rintro e w' ⟨rfl, rfl⟩
    go_wp2_with fail
    go_ret2
    exact ⟨by rw [HS.out]; rfl, rfl⟩

theorem cutPrefix_any (t s : ByteArray) (w : World) (ht : t.size ≤ 140737488351232) (hs : s.size ≤ 140737488351232) :
    Calls Tryz.prog 190 #[.string t, .string s] w fun e w' => e = .returned (.tuple #[.string (pfxS t s), .bool (pfxB t s)]) ∧ w = w' := by
  have hP := fun wx => liteCutPrefix_any t s wx ht hs
  generalize pfxB t s = b at *
  generalize pfxS t s = u at *
  go_enter Tryz.func190, Tryz.ntmps190
  go_wp2_with fail
  refine (hP _).mono ?_
  rintro e w' ⟨rfl, rfl⟩
  go_wp2_with fail
  go_ret2
  exact ⟨rfl, rfl⟩

theorem pfx_strI (t s : ByteArray) : pfxB t s = decide ((strI t).take s.size = strI s) := by
  have h1 := strI_len t
  have h2 := strI_len s
  have e : ((t.extract 0 s.size).toList == s.toList) = decide ((strI t).take s.size = strI s) := by
    rw [ByteArray.toList_eq, ByteArray.toList_eq]
    have e3 : strI (t.extract 0 s.size) = (strI t).take s.size := by rw [strI_extract]; rfl
    rw [← e3]
    by_cases h : (t.extract 0 s.size).data.toList = s.data.toList
    · have : strI (t.extract 0 s.size) = strI s := by unfold strI; rw [h]
      rw [h, decide_eq_true this]; simp
    · have : ¬ strI (t.extract 0 s.size) = strI s := fun h' => h (by rw [strI_inj h'])
      rw [decide_eq_false this]; simpa using h
  unfold pfxB; rw [e]
  by_cases hs : s.size ≤ t.size
  · simp [hs]
  · have : ¬ (strI t).take s.size = strI s := fun h => by
      have := congrArg List.length h
      rw [List.length_take] at this; omega
    rw [decide_eq_false this, Bool.and_false]
theorem pfxS_strI {t s : ByteArray} (h : pfxB t s = true) : strI (pfxS t s) = (strI t).drop s.size := by
  rw [pfxS, if_pos h, strI_extract, List.take_of_length_le (by rw [strI_len]; omega)]
theorem pfxS_size (t s : ByteArray) : (pfxS t s).size ≤ t.size := by
  unfold pfxS; split
  · rw [ByteArray.size_extract]; omega
  · omega

theorem num_neg {l : List Int} (h : l.take 1 = [45]) : numB l = (plainB (l.drop 1) && decide (1 ≤ valF 10 0 (l.drop 1) ∧ valF 10 0 (l.drop 1) ≤ 2147483648)) ∧ numV l = 4294967296 - valF 10 0 (l.drop 1) := by
  unfold numB numV; rw [if_pos h, if_pos h]; exact ⟨rfl, rfl⟩
theorem num_hex {l : List Int} (h0 : ¬ l.take 1 = [45]) (h : l.take 2 = [48, 120]) : numB l = (digsB 16 (l.drop 2) && decide (l.length ≤ 10)) ∧ numV l = valF 16 0 (l.drop 2) := by
  unfold numB numV; rw [if_neg h0, if_neg h0, if_pos h, if_pos h]; exact ⟨rfl, rfl⟩
theorem num_plain {l : List Int} (h0 : ¬ l.take 1 = [45]) (h : ¬ l.take 2 = [48, 120]) : numB l = plainB l ∧ numV l = valF 10 0 l := by
  unfold numB numV; rw [if_neg h0, if_neg h0, if_neg h, if_neg h]; exact ⟨rfl, rfl⟩

theorem number_any (s : ByteArray) (w : World) (hs : s.size ≤ 140737488351232) :
    Calls Tryz.prog 173 #[.string s] w fun e w' => (∃ x : Int, e = .returned (.tuple #[.int .u32 x, .bool (numB (strI s))]) ∧ 0 ≤ x ∧ x < 4294967296 ∧ (numB (strI s) = true → x = numV (strI s))) ∧ w = w' := by
  have hP : ∀ wx, _ := fun wx => cutPrefix_any s { data := #[45] } wx hs (by decide)
  have hQ : ∀ wx, _ := fun wx => cutPrefix_any s { data := #[48, 120] } wx hs (by decide)
  have e1 := pfx_strI s { data := #[45] }
  have e2 := pfx_strI s { data := #[48, 120] }
  rw [show strI { data := #[45] } = [45] from rfl, show ByteArray.size { data := #[45] } = 1 from rfl] at e1
  rw [show strI { data := #[48, 120] } = [48, 120] from rfl, show ByteArray.size { data := #[48, 120] } = 2 from rfl] at e2
  by_cases hm : (strI s).take 1 = [45]
  · rw [decide_eq_true hm] at e1
    have e3 := pfxS_strI e1
    rw [show ByteArray.size { data := #[45] } = 1 from rfl] at e3
    have hN := fun wx => plainNumber_any (pfxS s { data := #[45] }) wx (Nat.le_trans (pfxS_size _ _) hs)
    obtain ⟨n1, n2⟩ := num_neg hm
    rw [e3] at hN
    rw [e1] at hP
    have N1 : Hid (numB (strI s) = _) := n1
    have N2 : Hid (numV (strI s) = _) := n2
    generalize pfxS s { data := #[45] } = u at hP hN
    generalize (strI s).drop 1 = l at hN N1 N2
    generalize plainB l = B at hN N1
    generalize valF 10 0 l = v at hN N1 N2
    clear hQ e1 e2 e3 n1 n2 hm
    go_enter Tryz.func173, Tryz.ntmps173
    go_wp2_with fail
    refine (hP _).mono ?_
    rintro e w' ⟨rfl, rfl⟩
    go_wp2_with fail
    refine (hN _).mono ?_
    rintro e w' ⟨⟨x, rfl, hx0, hx1, hx⟩, rfl⟩
    cases B
    · have HB : Hid (numB (strI s) = false) := by show _ = _; rw [N1.out]; rfl
      clear N1 N2 hx hP hN
      go_wp2
      go_ret2
      exact ⟨⟨_, by rw [HB.out]; rfl, by omega, by omega, fun h => by rw [HB.out] at h; cases h⟩, rfl⟩
    · obtain rfl := hx rfl
      clear hx hP hN
      by_cases h1 : 1 ≤ x
      · have HB : Hid (numB (strI s) = decide (x ≤ 2147483648)) := by show _ = _; rw [N1.out]; simp [h1]
        go_wp2
        go_ret2
        exact ⟨⟨-x % 4294967296, by rw [HB.out]; rfl, by omega, by omega, fun h => by rw [HB.out] at h; have := of_decide_eq_true h; rw [N2.out]; omega⟩, rfl⟩
      · have HB : Hid (numB (strI s) = false) := by show _ = _; rw [N1.out]; simp [h1]
        go_wp2
        go_ret2
        exact ⟨⟨_, by rw [HB.out]; rfl, by omega, by omega, fun h => by rw [HB.out] at h; cases h⟩, rfl⟩
  · rw [decide_eq_false hm] at e1
    rw [e1] at hP
    by_cases hx : (strI s).take 2 = [48, 120]
    · rw [decide_eq_true hx] at e2
      have e3 := pfxS_strI e2
      rw [show ByteArray.size { data := #[48, 120] } = 2 from rfl] at e3
      have hN := fun wx => digitsOf_any (pfxS s { data := #[48, 120] }) 16 wx (Nat.le_trans (pfxS_size _ _) hs) (.inr rfl)
      obtain ⟨n1, n2⟩ := num_hex hm hx
      rw [e3] at hN
      rw [e2] at hQ
      have hlen : (pfxS s { data := #[48, 120] }).size = s.size - 2 := by
        rw [← strI_len, e3, List.length_drop, strI_len]
      have h2 : 2 ≤ s.size := by
        have := congrArg List.length hx
        rw [List.length_take, strI_len] at this
        simp at this; omega
      have N1 : Hid (numB (strI s) = _) := n1
      have N2 : Hid (numV (strI s) = _) := n2
      rw [strI_len] at N1
      generalize pfxS s { data := #[45] } = u' at hP
      generalize pfxS s { data := #[48, 120] } = u at hQ hN hlen
      generalize (strI s).drop 2 = l at hN N1 N2
      generalize digsB 16 l = B at hN N1
      generalize valF 16 0 l = v at hN N1 N2
      have hu : u.size ≤ 140737488351232 := by omega
      have HLEN : Hid (u.size = s.size - 2) := hlen
      clear e1 e2 e3 n1 n2 hm hx hlen
      go_enter Tryz.func173, Tryz.ntmps173
      go_wp2_with fail
      refine (hP _).mono ?_
      rintro e w' ⟨rfl, rfl⟩
      go_wp2_with fail
      refine (hQ _).mono ?_
      rintro e w' ⟨rfl, rfl⟩
      go_wp2_with fail
      refine (hN _).mono ?_
      rintro e w' ⟨⟨x, rfl, hx0, hx1, hx⟩, rfl⟩
      cases B
      · have HB : Hid (numB (strI s) = false) := by show _ = _; rw [N1.out]; rfl
        clear N1 N2 hx hP hN hQ
        go_wp2
        go_ret2
        exact ⟨⟨_, by rw [HB.out]; rfl, hx0, hx1, fun h => by rw [HB.out] at h; cases h⟩, rfl⟩
      · obtain rfl := hx rfl
        clear hx hP hN hQ
        have HB : Hid (numB (strI s) = decide ((u.size : Int) ≤ 8)) := by
          show _ = _
          have hlen := HLEN.out
          rw [N1.out]
          by_cases h : s.size ≤ 10
          · rw [decide_eq_true h, decide_eq_true (by omega)]; rfl
          · rw [decide_eq_false h, decide_eq_false (by omega)]; rfl
        go_wp2
        go_ret2
        exact ⟨⟨_, by rw [HB.out]; rfl, hx0, hx1, fun h => by rw [N2.out]⟩, rfl⟩
    · rw [decide_eq_false hx] at e2
      rw [e2] at hQ
      have hN := fun wx => plainNumber_any s wx hs
      obtain ⟨n1, n2⟩ := num_plain hm hx
      have N1 : Hid (numB (strI s) = _) := n1
      have N2 : Hid (numV (strI s) = _) := n2
      clear n1 n2 e1 e2 hm hx
      generalize pfxS s { data := #[45] } = u' at hP
      generalize pfxS s { data := #[48, 120] } = u at hQ
      generalize plainB (strI s) = B at hN N1
      generalize valF 10 0 (strI s) = v at hN N2
      go_enter Tryz.func173, Tryz.ntmps173
      go_wp2_with fail
      refine (hP _).mono ?_
      rintro e w' ⟨rfl, rfl⟩
      go_wp2_with fail
      refine (hQ _).mono ?_
      rintro e w' ⟨rfl, rfl⟩
      go_wp2_with fail
      refine (hN _).mono ?_
      rintro e w' ⟨⟨x, rfl, hx0, hx1, hx⟩, rfl⟩
      go_wp2_with fail
      go_ret2
      exact ⟨⟨_, by rw [N1.out]; rfl, hx0, hx1, fun h => by rw [N2.out]; exact hx (by rw [N1.out] at h; exact h)⟩, rfl⟩

theorem lexNumber_any (s : ByteArray) (w : World) (hs : s.size ≤ 140737488351232) :
    Calls Tryz.prog 153 #[.string s] w fun e w' => e = .returned (.tuple #[.int .u32 (numOut (strI s)), .int .i64 (numErr (strI s))]) ∧ w = w' := by
  have hN := fun wx => number_any s wx hs
  cases hb : numB (strI s)
  · have HB : Hid (numOut (strI s) = 0 ∧ numErr (strI s) = 62) := by show _ ∧ _; simp [numOut, numErr, hb]
    rw [hb] at hN
    clear hb
    go_enter Tryz.func153, Tryz.ntmps153
    go_wp2_with fail
    refine (hN _).mono ?_
    rintro e w' ⟨⟨x, rfl, hx0, hx1, hx⟩, rfl⟩
    go_wp2_with fail
    go_ret2
    exact ⟨by rw [HB.out.1, HB.out.2]; rfl, rfl⟩
  · have HB : Hid (numOut (strI s) = numV (strI s) ∧ numErr (strI s) = 0) := by show _ ∧ _; simp [numOut, numErr, hb]
    rw [hb] at hN
    clear hb
    go_enter Tryz.func153, Tryz.ntmps153
    go_wp2_with fail
    refine (hN _).mono ?_
    rintro e w' ⟨⟨x, rfl, hx0, hx1, hx⟩, rfl⟩
    have HX : Hid (x = numV (strI s)) := hx trivial
    clear hx
    go_wp2_with fail
    go_ret2
    exact ⟨by rw [HB.out.1, HB.out.2, ← HX.out]; rfl, rfl⟩

end Go.Proofs.YtmobologlaeefaaGreat

/-
  What byteAt of the words package returns, for every word and every place from 0 to 3.
-/
namespace Go.Proofs.YtmobologlaeefaaGreat
open Go.RowKit
set_option maxRecDepth 10000

end Go.Proofs.YtmobologlaeefaaGreat

/-
  What textEnd of the words package returns: where the first byte 0 lies, or that there is none.
-/
namespace Go.Proofs.YtmobologlaeefaaGreat
open Go.RowKit
set_option maxRecDepth 10000

end Go.Proofs.YtmobologlaeefaaGreat
