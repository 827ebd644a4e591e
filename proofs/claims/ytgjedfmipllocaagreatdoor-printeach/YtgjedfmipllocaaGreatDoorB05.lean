/-
  Texts laid together in one: GrammarLetter, Ref03Names, Ref03Kind, GrammarFits, Boxes, GrammarEnums, GrammarEnum, Ref04Small.
-/
import Derived.WalkSpells
import Derived.WalkMore
import Derived.Deep.QuietTactic
import Derived.BigQuiet
import Derived.Test.YtgjedfmipllocaaGreatDoorB04
import Derived.Laws.AppendOwn
import Derived.Deep.AppendLies
import Derived.RangeFuncNested
import Derived.RangeFuncBound
import Derived.Test.YtgjedfmipllocaaGreatDoorB03
import Derived.RangeFuncCalls
import Derived.RangeFuncLeaves
import Derived.Shelf.Abstract
import Derived.Shelf.RegionOpen
import Derived.WalkKit
import Derived.OwnWalkIn
import Derived.TacticsInMore
import Derived.LoopNIn
import Derived.LoopIn
import Derived.Test.YtgjedfmipllocaaGreatDoorB01
/-
  What the methods of a form answer that tell the letters of its arguments, for every form that lies in memory; and Letter, for every operation and number.
-/
namespace Go.Proofs.YtgjedfmipllocaaGreatDoor
open Go.RowKit
set_option maxRecDepth 10000
set_option linter.unusedVariables false
set_option linter.unusedSimpArgs false

/-- A form whose texts are short. -/
def shortF (f : Frm) : Bool := decide (f.2.2.2.1.size ≤ 1000) && decide (f.2.2.2.2.1.size ≤ 1000) && decide (0 ≤ f.2.2.2.2.2.1) && decide (f.2.2.2.2.2.1 ≤ 1000)

/-- Whether an argument may stand behind Fixed, at that number behind it. -/
def mayB (f : Frm) (b : Int) : Bool := if f.2.2.2.2.1.size = 0 then false else if f.2.2.2.2.2.1 = 0 then true else decide (b / f.2.2.2.2.1.size < f.2.2.2.2.2.1)

/-- The letter of an argument. -/
def letterI (f : Frm) (i : Int) : Int :=
  if i < 0 then 0 else if i < f.2.2.2.1.size then sgn f.2.2.2.1 i.toNat else if mayB f (i - f.2.2.2.1.size) then sgn f.2.2.2.2.1 ((i - f.2.2.2.1.size) % f.2.2.2.2.1.size).toNat else 0

theorem noLetter_any (p : Value) (i : Int) (w : World) : Calls Tryz.prog 258 #[p, .int .i64 i] w fun e w' => e = .returned (.int .u8 0) ∧ w = w' := by
  go_enter Tryz.func258, Tryz.ntmps258
  go_wp2
  go_ret
  exact ⟨rfl, rfl⟩

theorem fixedLetter_any (B : Nat) (n : Int) (f : Frm) (i : Int) (w : World) (h : w.heap[B]? = some (.cells (frmCells n f) 255 (0, 0))) (h0 : 0 ≤ i) (h1 : i < f.2.2.2.1.size) (hs : f.2.2.2.1.size ≤ 1000) :
    Calls Tryz.prog 259 #[.pointer (some ⟨B, 0, none⟩), .int .i64 i] w fun e w' => e = .returned (.int .u8 (sgn f.2.2.2.1 i.toNat)) ∧ w = w' := by
  obtain ⟨d0, d1, d2, d3, d4, d5, d6, d7, df⟩ := frm_cells h
  obtain ⟨nm, t, r, fx, rs, mo, pa⟩ := f
  simp only at *
  obtain ⟨k, rfl⟩ := Int.eq_ofNat_of_zero_le h0
  have hk : k < fx.size := by omega
  have hsg := sgn_at fx k hk
  clear h d0 d1 d2 d3 d5 d6 d7 df
  go_enter Tryz.func259, Tryz.ntmps259
  go_wp2
  go_ret
  exact ⟨rfl, rfl⟩

theorem wrapI (x : Int) (h0 : -9223372036854775808 ≤ x) (h1 : x < 9223372036854775808) : IntKind.i64.wrap x = x := by rw [IntKind.wrap_i64]; omega

theorem string_some (s : ByteArray) (h : s.size ≠ 0) : (s.toList == ([] : List UInt8)) = false := bytes_empty s h
theorem string_none (s : ByteArray) (h : s.size = 0) : (s.toList == ([] : List UInt8)) = true := by
  rw [ByteArray.toList_eq]
  have : s.data.toList = [] := by rw [← List.length_eq_zero_iff, Array.length_toList]; exact h
  rw [this]; rfl

theorem mayFollow_any (B : Nat) (n : Int) (f : Frm) (b : Int) (w : World) (h : w.heap[B]? = some (.cells (frmCells n f) 255 (0, 0))) (h0 : 0 ≤ b) (h1 : b < 9223372036854775808) (hs : shortF f = true) :
    Calls Tryz.prog 260 #[.pointer (some ⟨B, 0, none⟩), .int .i64 b] w fun e w' => e = .returned (.bool (mayB f b)) ∧ ∃ q, w' = w.drewN q := by
  obtain ⟨d0, d1, d2, d3, d4, d5, d6, d7, df⟩ := frm_cells h
  obtain ⟨nm, t, r, fx, rs, mo, pa⟩ := f
  simp only [shortF, Bool.and_eq_true, decide_eq_true_eq] at hs
  obtain ⟨⟨⟨s1, s2⟩, s3⟩, s4⟩ := hs
  simp only at *
  clear h d0 d1 d2 d3 d4 d7 df
  by_cases hr : rs.size = 0
  · have e := string_none rs hr
    have HM : Hid (mayB (nm, t, r, fx, rs, mo, pa) b = false) := by show _ = _; simp [mayB, hr]
    clear hr
    go_enter Tryz.func260, Tryz.ntmps260
    go_wp2
    go_ret
    exact ⟨by rw [HM.out]; rfl, 0, rfl⟩
  · have e := string_some rs hr
    by_cases hm : mo = 0
    · subst hm
      have HM : Hid (mayB (nm, t, r, fx, rs, 0, pa) b = true) := by show _ = _; simp [mayB, hr]
      clear hr s3 s4
      go_enter Tryz.func260, Tryz.ntmps260
      go_wp2
      go_quiet (fail)
      go_wp2
      go_ret
      exact ⟨by rw [HM.out]; rfl, _, rfl⟩
    · have hm' : (mo == 0) = false := by simpa using hm
      have HM : Hid (mayB (nm, t, r, fx, rs, mo, pa) b = decide (b / (rs.size : Int) < mo)) := by show _ = _; simp [mayB, hr, hm]
      have hr0 : (0 : Int) < (rs.size : Int) := by omega
      have hq0 : 0 ≤ b / (rs.size : Int) := Int.ediv_nonneg h0 (by omega)
      have hq1 : b / (rs.size : Int) ≤ b := Int.ediv_le_self _ h0
      have ht : Int.tdiv b (rs.size : Int) = b / (rs.size : Int) := Int.tdiv_eq_ediv_of_nonneg h0
      have hw : IntKind.i64.wrap (b / (rs.size : Int)) = b / (rs.size : Int) := wrapI _ (by omega) (by omega)
      have hz : ¬ (rs.size : Int) = 0 := by omega
      go_enter Tryz.func260, Tryz.ntmps260
      go_wp2
      go_quiet (fail)
      go_wp2
      go_ret
      exact ⟨by rw [HM.out]; rfl, _, rfl⟩

theorem restLetter_any (B : Nat) (n : Int) (f : Frm) (i : Int) (w : World) (h : w.heap[B]? = some (.cells (frmCells n f) 255 (0, 0))) (h0 : (f.2.2.2.1.size : Int) ≤ i) (h1 : i < 9223372036854775808) (hs : shortF f = true) (hr : f.2.2.2.2.1.size ≠ 0) :
    Calls Tryz.prog 261 #[.pointer (some ⟨B, 0, none⟩), .int .i64 i] w fun e w' => e = .returned (.int .u8 (sgn f.2.2.2.2.1 ((i - f.2.2.2.1.size) % f.2.2.2.2.1.size).toNat)) ∧ ∃ q, w' = w.drewN q := by
  obtain ⟨d0, d1, d2, d3, d4, d5, d6, d7, df⟩ := frm_cells h
  obtain ⟨nm, t, r, fx, rs, mo, pa⟩ := f
  simp only [shortF, Bool.and_eq_true, decide_eq_true_eq] at hs
  obtain ⟨⟨⟨s1, s2⟩, s3⟩, s4⟩ := hs
  simp only at *
  clear h d0 d1 d2 d3 d6 d7 df s3 s4
  have hr0 : (0 : Int) < (rs.size : Int) := by omega
  have hz : ¬ (rs.size : Int) = 0 := by omega
  have hb0 : 0 ≤ i - (fx.size : Int) := by omega
  have hw1 : IntKind.i64.wrap (i - (fx.size : Int)) = i - (fx.size : Int) := wrapI _ (by omega) (by omega)
  have ht : Int.tmod (i - (fx.size : Int)) (rs.size : Int) = (i - (fx.size : Int)) % (rs.size : Int) := Int.tmod_eq_emod_of_nonneg hb0
  have hq0 : 0 ≤ (i - (fx.size : Int)) % (rs.size : Int) := Int.emod_nonneg _ hz
  have hq1 : (i - (fx.size : Int)) % (rs.size : Int) < (rs.size : Int) := Int.emod_lt_of_pos _ hr0
  have hw2 : IntKind.i64.wrap ((i - (fx.size : Int)) % (rs.size : Int)) = (i - (fx.size : Int)) % (rs.size : Int) := wrapI _ (by omega) (by omega)
  obtain ⟨k, hk⟩ := Int.eq_ofNat_of_zero_le hq0
  rw [hk] at ht hq1 hw2 ⊢
  have hkl : k < rs.size := by omega
  have hsg := sgn_at rs k hkl
  clear hk hq0
  go_enter Tryz.func261, Tryz.ntmps261
  go_wp2
  go_quiet (fail)
  go_wp2
  go_ret
  exact ⟨rfl, _, rfl⟩

/-- Which method tells the argument. -/
def tellerN (f : Frm) (i : Int) : Nat := if i < 0 then 258 else if i < f.2.2.2.1.size then 259 else if mayB f (i - f.2.2.2.1.size) then 261 else 258

theorem teller_any (B : Nat) (n : Int) (f : Frm) (i : Int) (w : World) (h : w.heap[B]? = some (.cells (frmCells n f) 255 (0, 0))) (h1 : i < 9223372036854775808) (hs : shortF f = true) :
    Calls Tryz.prog 212 #[.pointer (some ⟨B, 0, none⟩), .int .i64 i] w fun e w' => e = .returned (.func (.func (tellerN f i)) #[.pointer (some ⟨B, 0, none⟩)] #[]) ∧ ∃ q, w' = w.drewN q := by
  have HM : Hid (∀ b : Int, 0 ≤ b → b < 9223372036854775808 → _) := fun (b : Int) (h0 : 0 ≤ b) (h1 : b < 9223372036854775808) => mayFollow_any B n f b w h h0 h1 hs
  obtain ⟨d0, d1, d2, d3, d4, d5, d6, d7, df⟩ := frm_cells h
  have hs2 := hs
  simp only [shortF, Bool.and_eq_true, decide_eq_true_eq] at hs
  obtain ⟨⟨⟨s1, s2⟩, s3⟩, s4⟩ := hs
  clear h d0 d1 d2 d3 d5 d6 d7 df
  by_cases hi : i < 0
  · have HE : Hid (tellerN f i = 258) := by show _ = _; unfold tellerN; rw [if_pos hi]
    clear hs2
    go_enter Tryz.func212, Tryz.ntmps212
    go_wp2
    go_ret
    exact ⟨by rw [HE.out]; rfl, 0, rfl⟩
  · by_cases hx : i < f.2.2.2.1.size
    · have HE : Hid (tellerN f i = 259) := by show _ = _; unfold tellerN; rw [if_neg hi, if_pos hx]
      clear hs2
      go_enter Tryz.func212, Tryz.ntmps212
      go_wp2
      go_ret
      exact ⟨by rw [HE.out]; rfl, 0, rfl⟩
    · have hc := HM.out (i - f.2.2.2.1.size) (by omega) (by omega)
      have HE : Hid (tellerN f i = if mayB f (i - f.2.2.2.1.size) then 261 else 258) := by show _ = _; unfold tellerN; rw [if_neg hi, if_neg hx]
      clear hs2 HM
      cases hb : mayB f (i - f.2.2.2.1.size)
      all_goals
        rw [hb] at hc HE
        clear hb
        go_enter Tryz.func212, Tryz.ntmps212
        go_wp2_with fail
        refine hc.mono ?_
        rintro e w' ⟨rfl, q, rfl⟩
        clear hc
        go_wp2
        go_ret
        exact ⟨by rw [HE.out]; rfl, q, rfl⟩

theorem letter_any (B : Nat) (n : Int) (f : Frm) (i : Int) (w : World) (h : w.heap[B]? = some (.cells (frmCells n f) 255 (0, 0))) (h1 : i < 9223372036854775808) (hs : shortF f = true) :
    Calls Tryz.prog 156 #[.pointer (some ⟨B, 0, none⟩), .int .i64 i] w fun e w' => e = .returned (.int .u8 (letterI f i)) ∧ ∃ q, w' = w.drewN q := by
  have hT := teller_any B n f i w h h1 hs
  have hK : ∀ q, Calls Tryz.prog (tellerN f i) #[.pointer (some ⟨B, 0, none⟩), .int .i64 i] (w.drewN q) fun e w' => e = .returned (.int .u8 (letterI f i)) ∧ ∃ q', w' = w.drewN q' := by
    intro q
    have hq : (w.drewN q).heap[B]? = some (.cells (frmCells n f) 255 (0, 0)) := h
    have hsz : f.2.2.2.1.size ≤ 1000 := by simp only [shortF, Bool.and_eq_true, decide_eq_true_eq] at hs; omega
    unfold tellerN letterI
    by_cases hi : i < 0
    · rw [if_pos hi, if_pos hi]
      exact (noLetter_any _ _ _).mono fun e w' he => ⟨he.1, q, he.2.symm⟩
    · rw [if_neg hi, if_neg hi]
      by_cases hx : i < f.2.2.2.1.size
      · rw [if_pos hx, if_pos hx]
        exact (fixedLetter_any B n f i _ hq (by omega) hx hsz).mono fun e w' he => ⟨he.1, q, he.2.symm⟩
      · rw [if_neg hx, if_neg hx]
        cases hb : mayB f (i - f.2.2.2.1.size)
        · simp only [Bool.false_eq_true, if_false]
          exact (noLetter_any _ _ _).mono fun e w' he => ⟨he.1, q, he.2.symm⟩
        · simp only [if_true]
          have hr : f.2.2.2.2.1.size ≠ 0 := fun e => by unfold mayB at hb; rw [if_pos e] at hb; cases hb
          refine (restLetter_any B n f i _ hq (by omega) h1 hs hr).mono ?_
          rintro e w' ⟨rfl, q', rfl⟩
          exact ⟨rfl, q + q', by rw [World.drewN_drewN]⟩
  have hne : ∀ args w, (callFunc (tellerN f i) args).run Tryz.prog w = .ok (.enter (tellerN f i) args) w := by
    intro args w
    unfold tellerN
    split
    · kernel_rfl
    · split
      · kernel_rfl
      · split
        · kernel_rfl
        · kernel_rfl
  generalize letterI f i = x at *
  generalize tellerN f i = g at *
  clear h hs
  go_enter Tryz.func156, Tryz.ntmps156
  go_wp2_with fail
  refine hT.mono ?_
  rintro e w' ⟨rfl, q, rfl⟩
  clear hT
  go_wp2_with fail
  refine (hK q).mono ?_
  rintro e w' ⟨rfl, q', rfl⟩
  clear hK hne
  go_wp2
  go_ret
  exact ⟨rfl, q', rfl⟩

theorem refT_short : refT.all (fun p => shortF p.2) = true := by decide +kernel
theorem look_short (n : Int) : shortF (lookF refT n).1 = true := by
  cases h : (lookF refT n).2
  · rw [(lookF_false h).1]; decide +kernel
  · exact List.all_eq_true.1 refT_short _ (lookF_true h)

set_option maxHeartbeats 1000000 in
theorem grammarLetter_any (n i : Int) (w : World) (h1 : i < 9223372036854775808) :
    Calls Tryz.prog 113 #[.int .u16 n, .int .i64 i] w fun e w' => e = .returned (.int .u8 (letterI (lookF refT n).1 i)) ∧ Below w.heap.size w w' := by
  have hT := fun w => formText_any n w
  have hR := fun w => readForm_op n w
  have hs := look_short n
  generalize ftxt n = s at *
  generalize (lookF refT n).1 = f at *
  have HL : Hid (∀ B w, _ → _) := fun B w h => letter_any B n f i w h h1 hs
  generalize letterI f i = x at *
  clear hs
  go_enter Tryz.func113, Tryz.ntmps113
  go_wp2_with fail
  refine (hT _).mono ?_
  rintro e w1 ⟨rfl, rfl⟩
  clear hT
  go_wp2_with fail
  refine (hR _).mono ?_
  rintro e w1 ⟨rfl, hb⟩
  clear hR
  have HC : Hid (formV n f = .agg (frmCells n f)) := rfl
  obtain ⟨nm, t, r, fx, rs, mo, pa⟩ := f
  unfold formV
  go_wp2_with fail
  refine (HL.out _ _ (alloc_new w1 _ _)).mono ?_
  rintro e w2 ⟨rfl, q, rfl⟩
  go_wp2
  go_ret
  exact ⟨rfl, bel_drewN (hb.alloc hb.size _) q⟩

end Go.Proofs.YtgjedfmipllocaaGreatDoor

/-
  What Names of the document's answer returns: a list of its own with all enumerants, in order.
-/
namespace Go.Proofs.YtgjedfmipllocaaGreatDoor
open Go.RowKit
set_option maxRecDepth 10000
set_option linter.unusedVariables false
set_option linter.unusedSimpArgs false

end Go.Proofs.YtgjedfmipllocaaGreatDoor

/-
  What Kind, Enum and EnumNamed of the document's answer return, and Kind of the layer grammar, for every argument.
-/
namespace Go.Proofs.YtgjedfmipllocaaGreatDoor
open Go.RowKit
set_option maxRecDepth 10000
set_option linter.unusedVariables false
set_option linter.unusedSimpArgs false

def isLet (c : Int) (x : Int × Int × ByteArray) : Bool := x.1 == c
def isNum (c n : Int) (x : Int × Int × ByteArray) : Bool := (x.1 == c) && (x.2.1 == n)
def isNam (c : Int) (s : ByteArray) (x : Int × Int × ByteArray) : Bool := (x.1 == c) && (x.2.2.toList == s.toList)

/-- The kind of a letter. -/
def kindI (c : Int) : Int := if c = 105 then 1 else if c = 110 then 2 else if c = 115 then 3 else if (namesT.find? (isLet c)).isSome then 4 else 0
/-- The name of a number. -/
def enumS (c n : Int) : ByteArray := match namesT.find? (isNum c n) with | some x => x.2.2 | none => ⟨#[]⟩
def enumB (c n : Int) : Bool := (namesT.find? (isNum c n)).isSome
/-- The number of a name. -/
def enumN (c : Int) (s : ByteArray) : Int := match namesT.find? (isNam c s) with | some x => x.2.1 | none => 0
def enumNB (c : Int) (s : ByteArray) : Bool := (namesT.find? (isNam c s)).isSome

/-- A letter of the document's list is one that has a text, and the other way. -/
def lettersOk : Bool := (namesT.all fun x => enumT.any fun p => decide (p.1 = x.1)) && (enumT.all fun p => decide (p.2.size ≠ 0) && namesT.any fun x => decide (x.1 = p.1)) && oneEach enumT
theorem letters_ok : lettersOk = true := by decide +kernel
theorem enum_text (c : Int) : ((namesT.find? (isLet c)).isSome = true → (lookT enumT c).size ≠ 0) ∧ ((namesT.find? (isLet c)).isSome = false → lookT enumT c = ⟨#[]⟩) := by
  have h := letters_ok
  simp only [lettersOk, Bool.and_eq_true] at h
  obtain ⟨⟨h1, h2⟩, h3⟩ := h
  constructor
  · intro hs
    obtain ⟨x, hx⟩ := Option.isSome_iff_exists.1 hs
    have hm := List.mem_of_find?_eq_some hx
    have hc : x.1 = c := by have := List.find?_some hx; simpa [isLet] using this
    obtain ⟨p, hp, e⟩ := List.any_eq_true.1 (List.all_eq_true.1 h1 x hm)
    have e := of_decide_eq_true e
    have := List.all_eq_true.1 h2 p hp
    simp only [Bool.and_eq_true, decide_eq_true_eq] at this
    rw [lookT_mem h3 c p.2 (by rw [← hc, ← e]; exact hp)]
    exact this.1
  · intro hs
    refine lookT_none fun k s hm e => ?_
    have := List.all_eq_true.1 h2 (k, s) hm
    simp only [Bool.and_eq_true] at this
    obtain ⟨x, hx, e2⟩ := List.any_eq_true.1 this.2
    have e2 := of_decide_eq_true e2
    have : (namesT.find? (isLet c)).isSome = true := by
      rw [List.find?_isSome]
      exact ⟨x, hx, by simp [isLet, e2, e]⟩
    rw [this] at hs; cases hs

set_option maxHeartbeats 1000000 in
theorem kind_any (c : Int) (w : World) : Calls Tryz.prog 207 #[.int .u8 c] w fun e w' => e = .returned (.int .u8 (kindI c)) ∧ w = w' := by
  by_cases h1 : c = 105
  · subst h1
    go_enter Tryz.func207, Tryz.ntmps207
    go_wp2
    go_ret
    exact ⟨rfl, rfl⟩
  · have h1' : (c == 105) = false := by simpa using h1
    by_cases h2 : c = 110
    · subst h2
      go_enter Tryz.func207, Tryz.ntmps207
      go_wp2
      go_ret
      exact ⟨rfl, rfl⟩
    · have h2' : (c == 110) = false := by simpa using h2
      by_cases h3 : c = 115
      · subst h3
        go_enter Tryz.func207, Tryz.ntmps207
        go_wp2
        go_ret
        exact ⟨rfl, rfl⟩
      · have h3' : (c == 115) = false := by simpa using h3
        have HK : Hid (kindI c = if (namesT.find? (isLet c)).isSome then 4 else 0) := by show _ = _; unfold kindI; rw [if_neg h1, if_neg h2, if_neg h3]
        obtain ⟨t1, t2⟩ := enum_text c
        have hT := fun w => enumText_any c w
        clear h1 h2 h3
        cases hb : (namesT.find? (isLet c)).isSome
        · rw [t2 hb] at hT
          rw [hb] at HK
          clear t1 t2 hb
          go_enter Tryz.func207, Tryz.ntmps207
          go_wp2_with (go_at_call 215; refine (hT _).mono ?_; rintro e w' ⟨rfl, rfl⟩)
          go_ret
          exact ⟨by rw [HK.out]; rfl, rfl⟩
        · have e := bytes_empty _ (t1 hb)
          rw [hb] at HK
          clear t1 t2 hb
          generalize lookT enumT c = s at *
          go_enter Tryz.func207, Tryz.ntmps207
          go_wp2_with (go_at_call 215; refine (hT _).mono ?_; rintro e w' ⟨rfl, rfl⟩)
          go_ret
          exact ⟨by rw [HK.out]; rfl, rfl⟩

end Go.Proofs.YtgjedfmipllocaaGreatDoor

/-
  What Fits of the layer grammar returns, for every operation and every list of kinds.
-/
namespace Go.Proofs.YtgjedfmipllocaaGreatDoor
open Go.RowKit
set_option maxRecDepth 10000
set_option linter.unusedVariables false
set_option linter.unusedSimpArgs false

/-- The kind at a place is not that of its argument's letter. -/
def badK (f : Frm) (zs : List Int) (k : Nat) : Bool := (letterI f k == 0) || !(kindI (letterI f k) == nth zs k)
/-- So many arguments are Fixed and whole rows of Rest. -/
def wholeB (f : Frm) (n : Int) : Bool := decide (n - f.2.2.2.1.size = 0) || (decide (0 < n - f.2.2.2.1.size) && decide ((n - f.2.2.2.1.size) % f.2.2.2.2.1.size = 0))
/-- What Fits answers. -/
def fitsI (is : Bool) (f : Frm) (zs : List Int) : Int × Bool :=
  if is = false then (0, false) else match (List.range zs.length).find? (badK f zs) with
    | some k => ((k : Int), false)
    | none => if wholeB f zs.length then (0, true) else (zs.length, false)

theorem range_find {p : Nat → Bool} (n k : Nat) (hk : k < n) (h0 : ∀ j, j < k → p j = false) (h : p k = true) : (List.range n).find? p = some k := by
  rw [List.find?_range_eq_some]
  exact ⟨h, by simpa using hk, fun j hj => by simpa using h0 j hj⟩
theorem range_not {p : Nat → Bool} (n : Nat) (h0 : ∀ j, j < n → p j = false) : (List.range n).find? p = none := by
  rw [List.find?_range_eq_none]
  exact fun j hj => by simpa using h0 j hj

/-- Behind Fixed a letter wants a row. -/
theorem rest_of_letters {f : Frm} {zs : List Int} (h : ∀ j, j < zs.length → badK f zs j = false) (hl : f.2.2.2.1.size < zs.length) : f.2.2.2.2.1.size ≠ 0 := fun e => by
  have := h f.2.2.2.1.size hl
  have hz : letterI f (f.2.2.2.1.size : Nat) = 0 := by
    unfold letterI mayB
    rw [if_neg (by omega), if_neg (by omega), if_pos e]; rfl
  simp [badK, hz] at this

theorem whole_any (B : Nat) (n : Int) (f : Frm) (m : Nat) (w : World) (h : w.heap[B]? = some (.cells (frmCells n f) 255 (0, 0))) (hm : (m : Int) < 9223372036854775808) (hs : shortF f = true) (hr : f.2.2.2.1.size < m → f.2.2.2.2.1.size ≠ 0) :
    Calls Tryz.prog 257 #[.pointer (some ⟨B, 0, none⟩), .int .i64 m] w fun e w' => e = .returned (.bool (wholeB f m)) ∧ w = w' := by
  obtain ⟨d0, d1, d2, d3, d4, d5, d6, d7, df⟩ := frm_cells h
  obtain ⟨nm, t, r, fx, rs, mo, pa⟩ := f
  simp only [shortF, Bool.and_eq_true, decide_eq_true_eq] at hs
  obtain ⟨⟨⟨s1, s2⟩, s3⟩, s4⟩ := hs
  simp only at *
  clear h d0 d1 d2 d3 d6 d7 df s3 s4
  have hw1 : IntKind.i64.wrap ((m : Int) - (fx.size : Int)) = (m : Int) - (fx.size : Int) := wrapI _ (by omega) (by omega)
  have HW : Hid (wholeB (nm, t, r, fx, rs, mo, pa) m = (decide ((m : Int) - fx.size = 0) || (decide (0 < (m : Int) - fx.size) && decide (((m : Int) - fx.size) % rs.size = 0)))) := rfl
  by_cases h0 : (m : Int) - (fx.size : Int) = 0
  · have HE : Hid (wholeB (nm, t, r, fx, rs, mo, pa) m = true) := by show _ = _; rw [HW.out, decide_eq_true h0]; rfl
    have hw2 : IntKind.i64.wrap ((m : Int) - (fx.size : Int)) = 0 := by rw [hw1, h0]
    clear hw1 h0 hr HW hm
    go_enter Tryz.func257, Tryz.ntmps257
    go_wp2
    go_ret
    exact ⟨by rw [HE.out]; rfl, rfl⟩
  · obtain ⟨b, hb⟩ : ∃ b : Int, (m : Int) - (fx.size : Int) = b := ⟨_, rfl⟩
    have hwb : IntKind.i64.wrap ((m : Int) - (fx.size : Int)) = b := hw1.trans hb
    have hw3 : wrap64 ((m : Int) - (fx.size : Int)) = b := by unfold wrap64; omega
    clear hw1
    rw [hb] at h0
    have hb0 : (b == 0) = false := by simpa using h0
    by_cases hp : 0 < b
    · have hz : rs.size ≠ 0 := hr (by omega)
      have hz' : ¬ (rs.size : Int) = 0 := by omega
      have tm : Int.tmod b (rs.size : Int) = b % (rs.size : Int) := Int.tmod_eq_emod_of_nonneg (by omega)
      have m0 : 0 ≤ b % (rs.size : Int) := Int.emod_nonneg _ hz'
      have m1 : b % (rs.size : Int) < (rs.size : Int) := Int.emod_lt_of_pos _ (by omega)
      have hw2 : IntKind.i64.wrap (b % (rs.size : Int)) = b % (rs.size : Int) := wrapI _ (by omega) (by omega)
      have HE : Hid (wholeB (nm, t, r, fx, rs, mo, pa) m = (b % (rs.size : Int) == 0)) := by
        show _ = _
        rw [HW.out, hb, decide_eq_false h0, decide_eq_true hp, Bool.false_or, Bool.true_and]
        rfl
      have hp' : decide (b > 0) = true := decide_eq_true hp
      generalize b % (rs.size : Int) = y at *
      clear hr HW hb h0 hz hm m0 m1
      go_enter Tryz.func257, Tryz.ntmps257
      go_wp2
      go_ret
      exact ⟨by rw [HE.out]; rfl, rfl⟩
    · have HE : Hid (wholeB (nm, t, r, fx, rs, mo, pa) m = false) := by
        show _ = _
        rw [HW.out, hb, decide_eq_false h0, decide_eq_false hp]; rfl
      have hp' : decide (b > 0) = false := decide_eq_false hp
      clear hr HW hb h0 hm hp
      go_enter Tryz.func257, Tryz.ntmps257
      go_wp2
      go_ret
      exact ⟨by rw [HE.out]; rfl, rfl⟩

set_option maxRecDepth 10000 in
set_option maxHeartbeats 2000000 in
theorem fits_any (n : Int) (a : Option Addr) (m cap : Nat) (zs : List Int) (w : World) (hv : View .u8 w a zs) (hl : zs.length = m) (hm : m ≤ 140737488351232) :
    Calls Tryz.prog 209 #[.int .u16 n, .slice a m cap] w fun e w' => e = .returned (.tuple #[.int .i64 (fitsI (lookF refT n).2 (lookF refT n).1 zs).1, .bool (fitsI (lookF refT n).2 (lookF refT n).1 zs).2]) ∧ Below w.heap.size w w' := by
  obtain ⟨_, _, _, h4, h5⟩ := ftxt_ok n
  have HL : Hid (zs.length = m) := hl
  clear hl
  cases h : (lookF refT n).2
  · have hT := fun w => formText_any n w
    rw [h5 h] at hT
    clear h4 h5 h hv hm HL
    go_enter Tryz.func209, Tryz.ntmps209
    go_wp2_with (go_at_call 147; refine (hT _).mono ?_; rintro e w' ⟨rfl, rfl⟩)
    go_ret2
    exact ⟨rfl, Below.refl _ _⟩
  · have e := bytes_empty _ (h4 h)
    have hT := fun w => formText_any n w
    have hR := fun w => readForm_op n w
    have hs := look_short n
    clear h4 h5 h
    generalize ftxt n = s at *
    generalize (lookF refT n).1 = f at *
    have HL0 : Hid (∀ B (i : Int) w, _ → _ → _) := fun B (i : Int) w h h1 => letter_any B n f i w h h1 hs
    have HW0 : Hid (∀ B w, _ → _ → _ → _) := fun B w h h1 h2 => whole_any B n f m w h h1 hs h2
    have HF : Hid (∀ x, x = fitsI true f zs → x = match (List.range zs.length).find? (badK f zs) with | some k => ((k : Int), false) | none => if wholeB f zs.length then (0, true) else ((zs.length : Int), false)) := fun x hx => by rw [hx]; rfl
    clear hs
    go_enter Tryz.func209, Tryz.ntmps209
    go_wp2_with fail
    refine (hT _).mono ?_
    rintro e w1 ⟨rfl, rfl⟩
    clear hT
    go_wp2_with fail
    refine (hR _).mono ?_
    rintro e w1 ⟨rfl, hb⟩
    clear hR e
    have hbel : Below w.heap.size w (w1.alloc (.cells (frmCells n f) 255)) := hb.alloc hb.size _
    have hblk := alloc_new w1 (frmCells n f) 255
    unfold formV
    go_wp2_with fail
    rw [show (w1.alloc (.cells #[.int .u16 n, .string f.1, .bool f.2.1, .bool f.2.2.1, .string f.2.2.2.1, .string f.2.2.2.2.1, .int .i64 f.2.2.2.2.2.1, .int .u8 f.2.2.2.2.2.2] 255)) = w1.alloc (.cells (frmCells n f) 255) from rfl]
    have HV : Hid (∀ k, k < m → _) := fun k (hk : k < m) => (hv.below hbel) k (by rw [HL.out]; exact hk)
    have HB : Hid (Below w.heap.size w (w1.alloc (.cells (frmCells n f) 255))) := hbel
    have HK : Hid ((w1.alloc (.cells (frmCells n f) 255)).heap[w1.heap.size]? = some (.cells (frmCells n f) 255 (0, 0))) := hblk
    generalize w1.alloc (.cells (frmCells n f) 255) = W at *
    clear hbel hblk hb hv
    go_loopw [4, 5, 20] (fun r b i wr => r = .int .i64 0 ∧ b = .bool false ∧ ∃ k q : Nat, k ≤ m ∧ i = .int .i64 k ∧ wr = W.drewN q ∧ ∀ j, j < k → badK f zs j = false) (fun _ _ i _ => m - (intOf i).toNat)
    case atStart => exact ⟨rfl, rfl, 0, 0, Nat.zero_le _, rfl, rfl, fun j hj => by omega⟩
    case round =>
      obtain ⟨rfl, rfl, k, q, hk, rfl, rfl, hno⟩ := hrel
      have HO : Hid (∀ j, j < k → badK f zs j = false) := hno
      clear hno
      by_cases hlt : k < m
      · obtain ⟨b, off, rfl, _, hcell⟩ := HV.out k hlt
        have hcell : (W.drewN q).cell? ⟨b, off + k, none⟩ = some (.int .u8 (nth zs k)) := hcell
        have hLt := HL0.out w1.heap.size k (W.drewN q) HK.out (by omega)
        have HBK : Hid (badK f zs k = ((letterI f k == 0) || !(kindI (letterI f k) == nth zs k))) := rfl
        have HHIT : Hid (badK f zs k = true → fitsI true f zs = ((k : Int), false)) := fun hb => by
          have e := range_find zs.length k (by rw [HL.out]; exact hlt) HO.out hb
          show (match (List.range zs.length).find? (badK f zs) with | some k => ((k : Int), false) | none => _) = _
          rw [e]
        have HS : Hid (badK f zs k = false → ∀ j, j < k + 1 → badK f zs j = false) := fun hb j hj => by
          by_cases e : j = k
          · subst e; exact hb
          · exact HO.out j (by omega)
        have hKd := fun w => kind_any (letterI f k) w
        generalize letterI f k = x at *
        generalize kindI x = y at *
        generalize nth zs k = z at *
        clear HO HV
        go_wp2_with fail
        refine hLt.mono ?_
        rintro e w' ⟨rfl, q', rfl⟩
        rw [World.drewN_drewN]
        clear hLt
        by_cases hx : x = 0
        · subst hx
          have HE : Hid (fitsI true f zs = ((k : Int), false)) := HHIT.out (by rw [HBK.out]; rfl)
          clear HHIT HS HBK
          go_wp2
          try rw [Exit.noGoto_ret]
          go_ret2
          exact ⟨by rw [HE.out]; rfl, bel_drewN HB.out _⟩
        · have hx' : (x == 0) = false := by simpa using hx
          by_cases hy : y = z
          · subst hy
            have HE : Hid (∀ j, j < k + 1 → badK f zs j = false) := HS.out (by rw [HBK.out, hx']; simp)
            clear HHIT HS HBK hx
            go_wp2_with (go_at_call 207; refine (hKd _).mono ?_; rintro e w' ⟨rfl, rfl⟩)
            go_roundw
            case rel => exact ⟨rfl, rfl, k + 1, _, by omega, by go_num, rfl, HE.out⟩
            case measure => simp [intOf]; omega
          · have hy' : (y == z) = false := by simpa using hy
            have HE : Hid (fitsI true f zs = ((k : Int), false)) := HHIT.out (by rw [HBK.out, hx', hy']; rfl)
            clear HHIT HS HBK hx hy
            go_wp2_with (go_at_call 207; refine (hKd _).mono ?_; rintro e w' ⟨rfl, rfl⟩)
            try rw [Exit.noGoto_ret]
            go_ret2
            exact ⟨by rw [HE.out]; rfl, bel_drewN HB.out _⟩
      · obtain rfl : k = m := by omega
        have hno : ∀ j, j < zs.length → badK f zs j = false := fun j hj => HO.out j (by rw [HL.out] at hj; exact hj)
        have HF2 : Hid (fitsI true f zs = if wholeB f k then (0, true) else ((k : Int), false)) := by
          show (match (List.range zs.length).find? (badK f zs) with | some k => ((k : Int), false) | none => if wholeB f zs.length then (0, true) else ((zs.length : Int), false)) = _
          rw [range_not zs.length hno, HL.out]
        have hWh := HW0.out w1.heap.size (W.drewN q) HK.out (by omega) (fun h => rest_of_letters hno (by rw [HL.out]; exact h))
        clear hno HO HV HF
        generalize wholeB f k = y at *
        go_wp2_with fail
        refine hWh.mono ?_
        rintro e w' ⟨rfl, rfl⟩
        clear hWh
        cases y
        · go_wp2
          go_ret2
          exact ⟨by rw [HF2.out]; rfl, bel_drewN HB.out _⟩
        · go_wp2
          go_ret2
          exact ⟨by rw [HF2.out]; rfl, bel_drewN HB.out _⟩

end Go.Proofs.YtgjedfmipllocaaGreatDoor

/-
  Boxes of one cell, and what lies below, over worlds that grow: small lemmas for loops over functions. No condition but what each names.
-/
namespace Go.Proofs.YtgjedfmipllocaaGreatDoor
open Go.RowKit

theorem cellsStay {W W' : World} {row : Option Nat} {k B : Nat} {cs : Array Value} {t : TypeId} {fr : Nat × Nat} (h : W.heap[k]? = some (.cells cs t fr)) (hg : W.grownBy W' row) (hr : ∀ r, row = some r → B ≤ r ∧ ∃ o : Obj, W.heap[r]? = some o ∧ o.isCells = false) : W'.heap[k]? = some (.cells cs t fr) :=
  (hg.block k (Array.getElem?_eq_some_iff.1 h).1 (fun e => by
    obtain ⟨_, o, ho, hc⟩ := hr k e.symm
    rw [h] at ho; cases ho; cases hc)).trans h
theorem belowStay {n₀ : Nat} {w W W' : World} {row : Option Nat} {B : Nat} (h : Below n₀ w W) (hn : n₀ ≤ w.heap.size) (hB : n₀ ≤ B) (hg : W.grownBy W' row) (hr : ∀ r, row = some r → B ≤ r ∧ ∃ o : Obj, W.heap[r]? = some o ∧ o.isCells = false) : Below n₀ w W' :=
  h.grown hg (Nat.le_trans hn h.size) (fun k e => Nat.le_trans hB (hr k e).1)
theorem oneCell {w : World} {g T : Nat} {v : Value} (h : w.heap[g]? = some (.cells #[v] T (0, 0))) : w.cell? ⟨g, 0, none⟩ = some v ∧ w.frozen? ⟨g, 0, none⟩ = false := by
  constructor <;> simp [World.cell?, World.frozen?, h]
theorem oneSet {w : World} {g T : Nat} {v : Value} (h : w.heap[g]? = some (.cells #[v] T (0, 0))) (u : Value) : (w.setCell ⟨g, 0, none⟩ u).heap[g]? = some (.cells #[u] T (0, 0)) := by
  simp [World.setCell, Array.getElem?_modify, h]
theorem setFar {w : World} {g k : Nat} {o : Obj} (h : w.heap[k]? = some o) (hne : k ≠ g) (i : Nat) (u : Value) : (w.setCell ⟨g, i, none⟩ u).heap[k]? = some o := (Below.heap_setCell _ _ _ _ (by simpa using hne)).trans h
theorem allocAt (w : World) (o : Obj) (k : Nat) : (w.alloc o).heap[k]? = if k = w.heap.size then some o else w.heap[k]? := by
  show (w.heap.push o)[k]? = _
  rw [Array.getElem?_push]
theorem allocOld {w : World} {k : Nat} {x : Obj} (h : w.heap[k]? = some x) (o : Obj) : (w.alloc o).heap[k]? = some x := (Below.heap_alloc _ _ _ (Array.getElem?_eq_some_iff.1 h).1).trans h
theorem allocNew (w : World) (o : Obj) {n : Nat} (h : w.heap.size = n) : (w.alloc o).heap[n]? = some o := by rw [allocAt, if_pos h.symm]

end Go.Proofs.YtgjedfmipllocaaGreatDoor

/-
  Enums of the layer grammar, and what its iterator tells: the numbers and names of a letter's enumerants, in order.
-/
namespace Go.Proofs.YtgjedfmipllocaaGreatDoor
open Go.RowKit Go.Shelf Go.Lib
set_option maxRecDepth 10000
attribute [local go_sem] Oper.semAt_some
set_option linter.unusedVariables false
set_option linter.unusedSimpArgs false

/-- What has been read of a letter's text: the number, where the name begins, what has been told. -/
abbrev EtSt := Int × Int × List (Int × ByteArray)

def etStep (s : ByteArray) (k : Nat) (c : Int) (x : EtSt) : EtSt :=
  match x with
  | (num, nf, out) =>
    if c = 59 then (0, 0, out ++ [(num, s.extract nf.toNat k)])
    else if c = 58 then (num, k + 1, out)
    else if nf = 0 then (10 * num + (c - 48), nf, out)
    else (num, nf, out)
def etTo (s : ByteArray) : Nat → EtSt
  | 0 => (0, 0, [])
  | k + 1 => etStep s k (sgn s k) (etTo s k)

def etOk (k : Nat) (c : Int) (x : EtSt) : Bool :=
  decide (c < 128 ∧ 0 ≤ c ∧ 0 ≤ x.1 ∧ x.1 ≤ 1000 ∧ 0 ≤ x.2.1 ∧ x.2.1 ≤ k ∧ (x.2.1 = 0 → c ≠ 59 → c ≠ 58 → 48 ≤ c))
def goodE (s : ByteArray) : Bool := (List.range s.size).all fun k => etOk k (sgn s k) (etTo s k)
theorem goodE_at {s : ByteArray} (h : goodE s = true) {k : Nat} (hk : k < s.size) : etOk k (sgn s k) (etTo s k) = true := List.all_eq_true.1 h k (List.mem_range.2 hk)

theorem et_grows (s : ByteArray) (k : Nat) : (etTo s k).2.2 <+: (etTo s (k + 1)).2.2 := by
  rw [etTo]
  generalize etTo s k = x
  obtain ⟨num, nf, out⟩ := x
  unfold etStep
  dsimp only
  split
  · exact ⟨_, rfl⟩
  · split
    · exact List.prefix_refl _
    · split <;> exact List.prefix_refl _
theorem et_le (s : ByteArray) (k d : Nat) : (etTo s k).2.2 <+: (etTo s (k + d)).2.2 := by
  induction d with
  | zero => exact List.prefix_refl _
  | succ d ih => exact ih.trans (et_grows s (k + d))
theorem et_prefix (s : ByteArray) {k m : Nat} (h : k ≤ m) : (etTo s k).2.2 <+: (etTo s m).2.2 := by
  have := et_le s k (m - k)
  rwa [show k + (m - k) = m by omega] at this

/-- The enumerants of a letter. -/
def enumsL (c : Int) : List (Int × ByteArray) := (namesT.filter (isLet c)).map (·.2)

def enumRowOk (p : Int × ByteArray) : Bool := goodE p.2 && decide (p.2.size ≤ 1000) && decide ((etTo p.2 p.2.size).2.2 = enumsL p.1)
theorem enumRows_ok : enumT.all enumRowOk = true := by decide +kernel

theorem lookT_or : ∀ (l : List (Int × ByteArray)) (n : Int), (n, lookT l n) ∈ l ∨ (lookT l n = ⟨#[]⟩ ∧ ∀ k s, (k, s) ∈ l → n ≠ k)
  | [], n => .inr ⟨rfl, fun _ _ h => by cases h⟩
  | (k, s) :: l, n => by
    rw [lookT]
    split
    · rename_i e; subst e; exact .inl List.mem_cons_self
    · rename_i e
      rcases lookT_or l n with h | ⟨h, h2⟩
      · exact .inl (List.mem_cons_of_mem _ h)
      · refine .inr ⟨h, fun k' s' hm => ?_⟩
        rcases List.mem_cons.1 hm with e' | hm
        · cases e'; exact e
        · exact h2 k' s' hm

theorem etext_ok (c : Int) : goodE (lookT enumT c) = true ∧ (lookT enumT c).size ≤ 1000 ∧ (etTo (lookT enumT c) (lookT enumT c).size).2.2 = enumsL c := by
  rcases lookT_or enumT c with h | ⟨h, h2⟩
  · have := List.all_eq_true.1 enumRows_ok _ h
    simp only [enumRowOk, Bool.and_eq_true, decide_eq_true_eq] at this
    exact ⟨this.1.1, this.1.2, this.2⟩
  · rw [h]
    refine ⟨by decide +kernel, by decide, ?_⟩
    have e : namesT.filter (isLet c) = [] := by
      rw [List.filter_eq_nil_iff]
      intro x hx hc
      have h0 := letters_ok
      simp only [lettersOk, Bool.and_eq_true] at h0
      obtain ⟨p, hp, e⟩ := List.any_eq_true.1 (List.all_eq_true.1 h0.1.1 x hx)
      have e := of_decide_eq_true e
      have hc : x.1 = c := by simpa [isLet] using hc
      exact h2 p.1 p.2 hp (by rw [e, hc])
    unfold enumsL
    rw [e]; rfl

theorem enums_any (c : Int) (w : World) :
    Calls Tryz.prog 159 #[.int .u8 c] w fun e w' => e = .returned (.func (.func 214) #[] #[.pointer (some ⟨w.heap.size, 0, none⟩)]) ∧ w.alloc (.cells #[.int .u8 c] 5) = w' := by
  go_enter Tryz.func159, Tryz.ntmps159
  go_wp2
  go_ret
  exact ⟨rfl, rfl⟩

/-- What is told of an enumerant. -/
def enumV (x : Int × ByteArray) : Array Value := #[.int .u32 x.1, .string x.2]

theorem iterAt_put (w : World) (k : Nat) (s : ByteArray) (pos : Nat) : w.iterAt k s pos = w.putObj k (.stringIter s pos) := rfl

set_option maxRecDepth 100000 in
set_option maxHeartbeats 2000000 in
theorem enums_tells (c : Int) (n0 : Nat) (τ : TypeId → Prop) (w : World) (B : Nat) (hB : w.heap[B]? = some (.cells #[.int .u8 c] 5 (0, 0))) :
    Tells Tryz.prog 214 #[.pointer (some ⟨B, 0, none⟩)] enumV (fun pre x _ => pre ++ [x] <+: enumsL c) n0 τ (fun xs => xs = enumsL c) (fun pre => pre <+: enumsL c) w := by
  intro l J Jx W hW hJ hJx hY h0
  have hBW : W.heap[B]? = some (.cells #[.int .u8 c] 5 (0, 0)) := (hW.block B (Array.getElem?_eq_some_iff.1 hB).1).trans hB
  have hbx : W.cell? ⟨B, 0, none⟩ = some (.int .u8 c) := by simp [World.cell?, hBW]
  obtain ⟨hg, hs, hE⟩ := etext_ok c
  have hT := fun w => enumText_any c w
  generalize lookT enumT c = s at *
  have HG : Hid (goodE s = true) := hg
  have HE : Hid ((etTo s s.size).2.2 = enumsL c) := hE
  clear hg hE hB hW hBW
  refine callsIn_of_wp Tryz.func214 rfl trivial ?_ rfl
  simp only [Tryz.ntmps214, List.size_toArray, List.length_cons, List.length_nil, Nat.reduceAdd, Nat.reduceSub, Array.replicate_succ, Array.replicate_zero, List.push_toArray, List.append_toArray, List.nil_append, List.cons_append]
  gi_wp2_with fail
  refine ⟨trivial, rfl, (callsIn_wide.2 (hT _)).mono ?_⟩
  rintro e w' ⟨rfl, rfl⟩
  clear hT
  gi_wp2
  gi_loopw [4, 5] (fun a b wr => ∃ k : Nat, k ≤ s.size ∧ a = .int .u32 (etTo s k).1 ∧ b = .int .i64 (etTo s k).2.1 ∧ J (etTo s k).2.2 wr ∧ wr.heap[W.heap.size]? = some (.stringIter s k)) (fun _ _ wr => left W.heap.size s.size wr)
  case atStart => exact ⟨0, Nat.zero_le _, rfl, rfl, hJ.alloc _ h0, heap_alloc_new W _⟩
  case round =>
    obtain ⟨k, hk, rfl, rfl, hJs, hit⟩ := hrel
    clear h0 hbx
    have HL : Hid (left W.heap.size s.size wr = s.size - k) := left_at hit
    by_cases hlt : k < s.size
    · have hok := goodE_at HG.out hlt
      have HS : Hid (etTo s (k + 1) = etStep s k (sgn s k) (etTo s k)) := rfl
      have hsg := sgn_at s k hlt
      have HPX : Hid ((etTo s (k + 1)).2.2 <+: enumsL c) := by show _ <+: _; rw [← HE.out]; exact et_prefix s hlt
      generalize sgn s k = ch at *
      generalize hrd : etTo s k = x at *
      obtain ⟨num, nf, out⟩ := x
      simp only [etOk, decide_eq_true_eq] at hok
      obtain ⟨o1, o2, o3, o4, o5, o6, o7⟩ := hok
      have hnx := fun ty => run_next_ascii_at (P := Tryz.prog) _ _ s k ty hit hlt (by omega)
      rw [hsg] at hnx
      obtain ⟨W1, hW1⟩ : ∃ X, X = wr.iterAt W.heap.size s (k + 1) := ⟨_, rfl⟩
      rw [← hW1] at hnx
      have i1 : W1.heap[W.heap.size]? = some (.stringIter s (k + 1)) := by rw [hW1]; exact iterAt_heap _ _ _ _ _ hit
      have hJ1 : J out W1 := by rw [hW1, iterAt_put]; exact hJ.putObj _ hJs (Nat.le_refl _) hit rfl
      have HI : Hid (W1.heap[W.heap.size]? = some (.stringIter s (k + 1))) := i1
      have HJ1 : Hid (J out W1) := hJ1
      clear hW1 hit hJs hsg hrd i1 hJ1
      by_cases h59 : ch = 59
      · subst h59
        have HN : Hid (etTo s (k + 1) = (0, 0, out ++ [(num, s.extract nf.toNat k)])) := by show _ = _; rw [HS.out]; simp [etStep]
        have hpx := HPX.out
        rw [HN.out] at hpx
        obtain ⟨fn, tmps, assign, body, hy, hR⟩ := hY out (num, s.extract nf.toNat k) W1 HJ1.out hpx
        simp only [enumV] at hy
        clear HS hpx o7 HPX
        gi_wp2_with fail
        refine ⟨rfl, hR.mono ?_⟩
        rintro e W3 ⟨hkf, ⟨rfl, hJ3, hk3⟩ | ⟨rfl, hJx3⟩⟩
        · have HI3 : Hid (W3.heap[W.heap.size]? = some (.stringIter s (k + 1))) := hkf.same _ _ (Nat.le_refl _) HI.out rfl
          have HJ3 : Hid (J (out ++ [(num, s.extract nf.toNat k)]) W3) := hJ3
          clear hy hR hY hkf hk3 hJ3
          gi_wp2
          go_roundw
          case rel => exact ⟨k + 1, by omega, by rw [HN.out], by rw [HN.out], by rw [HN.out]; exact HJ3.out, HI3.out⟩
          case measure => rw [HL.out, left_at HI3.out]; omega
        · have hp : out ++ [(num, s.extract nf.toNat k)] <+: enumsL c := by have := et_prefix s hlt; rw [HN.out] at this; rw [← HE.out]; exact this
          have HP : Hid (out ++ [(num, s.extract nf.toNat k)] <+: enumsL c) := hp
          clear hy hR hY hkf hp
          gi_wp2
          refine bodyPost_ret (results_none rfl _ _ _) rfl ?_
          exact ⟨⟨_, rfl⟩, .inr ⟨_, HP.out, hJx3⟩⟩
      · have h59' : (ch == 59) = false := by simpa using h59
        clear hY
        by_cases h58 : ch = 58
        · subst h58
          have HN : Hid (etTo s (k + 1) = (num, (k : Int) + 1, out)) := by show _ = _; rw [HS.out]; simp [etStep]
          clear HS o7 HPX h59
          gi_wp2
          go_roundw
          case rel => exact ⟨k + 1, by omega, by rw [HN.out], by rw [HN.out], by rw [HN.out]; exact HJ1.out, HI.out⟩
          case measure => rw [HL.out, left_at HI.out]; omega
        · have h58' : (ch == 58) = false := by simpa using h58
          by_cases hn : nf = 0
          · subst hn
            have hd := o7 rfl h59 h58
            have HN : Hid (etTo s (k + 1) = (10 * num + (ch - 48), 0, out)) := by show _ = _; rw [HS.out]; simp [etStep, h59, h58]
            clear HS o7 HPX h59 h58 o6 o5
            gi_wp2
            go_roundw
            case rel => exact ⟨k + 1, by omega, by rw [HN.out], by rw [HN.out], by rw [HN.out]; exact HJ1.out, HI.out⟩
            case measure => rw [HL.out, left_at HI.out]; omega
          · have hn' : (nf == 0) = false := by simpa using hn
            have HN : Hid (etTo s (k + 1) = (num, nf, out)) := by show _ = _; rw [HS.out]; simp [etStep, h59, h58, hn]
            clear HS o7 HPX h59 h58 hn
            gi_wp2
            go_roundw
            case rel => exact ⟨k + 1, by omega, by rw [HN.out], by rw [HN.out], by rw [HN.out]; exact HJ1.out, HI.out⟩
            case measure => rw [HL.out, left_at HI.out]; omega
    · have hnx := fun ty => run_next_end_at (P := Tryz.prog) _ _ s k ty hit hlt
      obtain rfl : k = s.size := by omega
      have hJe : J (enumsL c) wr := by rw [← HE.out]; exact hJs
      have HJe : Hid (J (enumsL c) wr) := hJe
      generalize etTo s s.size = x at *
      obtain ⟨num, nf, out⟩ := x
      clear hJs hJe hit hY
      gi_wp2
      go_end0
      exact ⟨⟨_, rfl⟩, .inl HJe.out⟩

end Go.Proofs.YtgjedfmipllocaaGreatDoor

/-
  What Enum and EnumNamed of the layer grammar return, for every letter and every number or name.
-/
namespace Go.Proofs.YtgjedfmipllocaaGreatDoor
open Go.RowKit Go.Shelf
set_option maxRecDepth 10000
attribute [local go_sem] Oper.semAt_some
set_option linter.unusedVariables false
set_option linter.unusedSimpArgs false

theorem find_pairs (c : Int) (p : Int × ByteArray → Bool) : (enumsL c).find? p = (namesT.find? (fun y => isLet c y && p y.2)).map (·.2) := by
  unfold enumsL
  rw [List.find?_map, List.find?_filter]
  simp [Bool.decide_and]
theorem enum_list {c n : Int} (h : (enumsL c).find? (fun x => x.1 == n) = none) : enumS c n = ⟨#[]⟩ ∧ enumB c n = false := by
  rw [find_pairs] at h
  have e : namesT.find? (isNum c n) = none := by simpa [isNum, isLet] using h
  simp [enumS, enumB, e]
theorem enum_list_some {c n : Int} {x : Int × ByteArray} (h : (enumsL c).find? (fun x => x.1 == n) = some x) : enumS c n = x.2 ∧ enumB c n = true := by
  rw [find_pairs] at h
  obtain ⟨y, hy, e⟩ := Option.map_eq_some_iff.1 h
  have hy : namesT.find? (isNum c n) = some y := hy
  subst e
  simp [enumS, enumB, hy]
/-- Between two rounds of Enum. -/
def EnumI (n : Int) (w : World) (pre : List (Int × ByteArray)) (W : World) : Prop :=
  (Below w.heap.size w W ∧ w.heap.size + 4 ≤ W.heap.size) ∧ W.heap[w.heap.size]? = some (.cells #[.int .u32 n] 22 (0, 0)) ∧ W.heap[w.heap.size + 1]? = some (.cells #[.string ⟨#[]⟩] 9 (0, 0)) ∧ W.heap[w.heap.size + 2]? = some (.cells #[.bool false] 4 (0, 0)) ∧ ∀ x ∈ pre, (x.1 == n) = false
/-- Behind the round that left. -/
def EnumX (n : Int) (w : World) (c : Code) (pre : List (Int × ByteArray)) (W : World) : Prop :=
  c = .ret ∧ (Below w.heap.size w W ∧ w.heap.size + 4 ≤ W.heap.size) ∧ ∃ (pre' : List (Int × ByteArray)) (x : Int × ByteArray), pre = pre' ++ [x] ∧ (∀ x ∈ pre', (x.1 == n) = false) ∧ (x.1 == n) = true ∧
    W.heap[w.heap.size + 1]? = some (.cells #[.string x.2] 9 (0, 0)) ∧ W.heap[w.heap.size + 2]? = some (.cells #[.bool true] 4 (0, 0))
theorem EnumI_own (n : Int) (w : World) : OwnFrom (w.heap.size + 4) (EnumI n w) := by
  rintro pre W W' row ⟨h1, h2, h3, h4, h5⟩ hg hr
  exact ⟨⟨belowStay h1.1 (Nat.le_refl _) (by omega) hg hr, Nat.le_trans h1.2 hg.size⟩, cellsStay h2 hg hr, cellsStay h3 hg hr, cellsStay h4 hg hr, h5⟩
theorem EnumX_own (n : Int) (w : World) (c : Code) : OwnFrom (w.heap.size + 4) (EnumX n w c) := by
  rintro pre W W' row ⟨h0, h1, pre', x, h2, h3, h4, h5, h6⟩ hg hr
  exact ⟨h0, ⟨belowStay h1.1 (Nat.le_refl _) (by omega) hg hr, Nat.le_trans h1.2 hg.size⟩, pre', x, h2, h3, h4, cellsStay h5 hg hr, cellsStay h6 hg hr⟩

set_option maxRecDepth 100000 in
set_option maxHeartbeats 4000000 in
theorem enum_any (c : Int) (n : Int) (w : World) : Calls Tryz.prog 117 #[.int .u8 c, .int .u32 n] w fun e w' => e = .returned (.tuple #[.string (enumS c n), .bool (enumB c n)]) ∧ Below w.heap.size w w' := by
  refine (callsIn_wide (n := 0)).1 ?_
  refine callsIn_of_wp_marks Tryz.func117 rfl trivial ?_ rfl
  simp only [Tryz.ntmps117, List.size_toArray, List.length_cons, List.length_nil, Nat.reduceAdd, Nat.reduceSub, Array.replicate_succ, Array.replicate_zero, List.push_toArray, List.append_toArray, List.nil_append, List.cons_append]
  gi_wp2_with fail
  refine ⟨trivial, rfl, (callsIn_wide.2 (enums_any c _)).mono ?_⟩
  rintro e w2 ⟨rfl, rfl⟩
  obtain ⟨wL, hwL⟩ : ∃ X, X = ((((w.alloc (.cells #[.int .u32 n] 22)).alloc (.cells #[.string ⟨#[]⟩] 9)).alloc (.cells #[.bool false] 4)).alloc (.cells #[.int .u8 c] 5)) := ⟨_, rfl⟩
  have hsL : wL.heap.size = w.heap.size + 4 := by rw [hwL]; simp
  have hbL : Below w.heap.size w wL := by rw [hwL]; exact (((((Below.refl _ w).alloc (Nat.le_refl _) _).alloc (by simp) _).alloc (by simp; omega) _).alloc (by simp; omega) _)
  have k0 : wL.heap[w.heap.size]? = some (.cells #[.int .u32 n] 22 (0, 0)) := by rw [hwL]; exact allocOld (allocOld (allocOld (allocNew w _ rfl) _) _) _
  have k1 : wL.heap[w.heap.size + 1]? = some (.cells #[.string ⟨#[]⟩] 9 (0, 0)) := by rw [hwL]; exact allocOld (allocOld (allocNew _ _ (by simp)) _) _
  have k2 : wL.heap[w.heap.size + 2]? = some (.cells #[.bool false] 4 (0, 0)) := by rw [hwL]; exact allocOld (allocNew _ _ (by simp)) _
  have k3 : wL.heap[w.heap.size + 3]? = some (.cells #[.int .u8 c] 5 (0, 0)) := by rw [hwL]; exact allocNew _ _ (by simp)
  gi_wp2_with fail
  rw [← hwL]
  clear hwL
  simp only [Nat.add_assoc, Nat.reduceAdd]
  refine wp_tells rfl (enters_of Tryz.func214 (by kernel_rfl) rfl) (enums_tells c w.heap.size (fun _ => False) wL (w.heap.size + 3) k3) (by omega) (fun _ => rfl)
    (EnumI n w) (EnumX n w) (by rw [hsL]; exact EnumI_own n w) (fun c => by rw [hsL]; exact EnumX_own n w c)
    ⟨⟨hbL, by omega⟩, k0, k1, k2, fun q hq => by simp at hq⟩
    (fun pre x a' W => a' = { tmps := #[.int .u8 c, .int .u32 n, undef, .pointer (some ⟨w.heap.size, 0, none⟩), .pointer (some ⟨w.heap.size + 1, 0, none⟩), .pointer (some ⟨w.heap.size + 2, 0, none⟩), .int .u32 x.1, .string x.2, .int .u8 c, .func (.func 214) #[] #[.pointer (some ⟨w.heap.size + 3, 0, none⟩)], .int .u32 x.1, .string x.2, undef, undef, undef, undef], defers := [] })
    ?hAx ?assign ?body ?done ?stop
  case hAx =>
    rintro pre x a' s W W' row h hg hr
    exact h
  case assign =>
    rintro l pre x W K hI hV hK
    simp only [enumV]
    gi_wp2
    exact hK _ _ (KeepsFrom.refl _ _) (Kept.refl _ _ _) hI rfl
  case body =>
    rintro l pre x a' W hl' ⟨r, hr⟩ ⟨⟨h1, hlt⟩, h2, h3, h4, h6⟩ rfl
    obtain ⟨c0, _⟩ := oneCell h2
    obtain ⟨c2, f2⟩ := oneCell h3
    obtain ⟨c3, f3⟩ := oneCell h4
    have go : (x.1 == n) = false → KeepsFrom wL.heap.size W W ∧ Kept w.heap.size (fun _ => False) W W ∧ EnumI n w (pre ++ [x]) W := fun hno =>
      ⟨KeepsFrom.refl _ _, Kept.refl _ _ _, ⟨h1, hlt⟩, h2, h3, h4, fun q hq => by
        rcases List.mem_append.1 hq with h | h
        · exact h6 q h
        · simp at h; subst h; exact hno⟩
    have out : (x.1 == n) = true → KeepsFrom wL.heap.size W ((W.setCell ⟨w.heap.size + 1, 0, none⟩ (.string x.2)).setCell ⟨w.heap.size + 2, 0, none⟩ (.bool true)) ∧ EnumX n w .ret (pre ++ [x]) ((W.setCell ⟨w.heap.size + 1, 0, none⟩ (.string x.2)).setCell ⟨w.heap.size + 2, 0, none⟩ (.bool true)) := fun hyes =>
      ⟨((KeepsOthers.setCell _ _ _).trans (KeepsOthers.setCell _ _ _)).from _, rfl, ⟨(h1.setCell (by simp) _).setCell (by simp) _, by simpa [World.setCell] using hlt⟩, pre, x, rfl, h6, hyes, setFar (oneSet h3 _) (by omega) _ _, oneSet (setFar h4 (by omega) _ _) _⟩
    clear h2 h3 h4 h6 h1
    cases hoe : (x.1 == n) with
    | true =>
      have hyes := out hoe
      clear go out
      gi_wp2
      first | exact hyes | (rw [hsL] at hyes; exact hyes)
    | false =>
      have hno := go hoe
      clear go out
      gi_wp2
      first | exact hno | (rw [hsL] at hno; exact hno)
  case done =>
    rintro D xs W hD rfl ⟨⟨h1, hlt⟩, h2, h3, h4, h6⟩ hK
    have hnone : (enumsL c).find? (fun x => (x.1 == n)) = none := List.find?_eq_none.2 (fun q hq => by rw [h6 q hq]; simp)
    obtain ⟨c2, f2⟩ := oneCell h3
    obtain ⟨c3, f3⟩ := oneCell h4
    obtain ⟨Y, hY⟩ : ∃ Y, Y = (W.setCell ⟨w.heap.size + 1, 0, none⟩ (.string ⟨#[]⟩)).setCell ⟨w.heap.size + 2, 0, none⟩ (.bool false) := ⟨_, rfl⟩
    have hKY : Y.heap[D]? = some (.deferred (some [])) := by rw [hY]; exact ((KeepsOthers.setCell _ _ _).trans (KeepsOthers.setCell _ _ _)).same D _ hK rfl
    have hbY : Below w.heap.size w Y := by rw [hY]; exact (h1.setCell (by simp) _).setCell (by simp) _
    have y2 : Y.heap[w.heap.size + 1]? = some (.cells #[.string ⟨#[]⟩] 9 (0, 0)) := by rw [hY]; exact setFar (oneSet h3 _) (by omega) _ _
    have y3 : Y.heap[w.heap.size + 2]? = some (.cells #[.bool false] 4 (0, 0)) := by rw [hY]; exact oneSet (setFar h4 (by omega) _ _) _
    have hput := grownBy_putObj' Y D (.deferred none)
    have hpr : ∀ r, some D = some r → ∃ o : Obj, Y.heap[r]? = some o ∧ o.isCells = false := fun r e => by cases e; exact ⟨_, hKY, rfl⟩
    have r0 := cell_kept (W := Y) (oneCell y2).1 hput hpr
    have r1 := cell_kept (W := Y) (oneCell y3).1 hput hpr
    have hbE : Below w.heap.size w (Y.putObj D (.deferred none)) := hbY.trans (belowK_b (w := w) (Nat.le_refl _) Y D _ _ (by omega) hKY rfl rfl)
    clear h1 h2 h3 h4 h6 y2 y3 hput hpr hbY
    gi_wp2_with fail
    rw [← hY]
    refine ⟨by simp, .inl ⟨_, _, rfl, run_takeDeferred hKY, ?_⟩⟩
    exact ⟨.tuple #[.string ⟨#[]⟩, .bool false], by simp [results, Tryz.results117, go_sem, r0, r1], by rw [(enum_list hnone).1, (enum_list hnone).2], hbE⟩
  case stop =>
    rintro D c' pre W hD hpre ⟨rfl, ⟨h1, hlt⟩, pre', x, rfl, h3, h4, h5, h6⟩ hK
    have hsome : (enumsL c).find? (fun x => (x.1 == n)) = some x := by
      obtain ⟨s, hs⟩ := hpre
      rw [← hs, List.append_assoc, List.find?_append, List.find?_eq_none.2 (fun q hq => by rw [h3 q hq]; simp)]
      simp [h4]
    have hput := grownBy_putObj' W D (.deferred none)
    have hpr : ∀ r, some D = some r → ∃ o : Obj, W.heap[r]? = some o ∧ o.isCells = false := fun r e => by cases e; exact ⟨_, hK, rfl⟩
    have r0 := cell_kept (W := W) (oneCell h5).1 hput hpr
    have r1 := cell_kept (W := W) (oneCell h6).1 hput hpr
    have hbE : Below w.heap.size w (W.putObj D (.deferred none)) := h1.trans (belowK_b (w := w) (Nat.le_refl _) W D _ _ (by omega) hK rfl rfl)
    clear h1 h5 h6 hput hpr
    gi_wp2_with fail
    refine ⟨by simp, .inl ⟨_, _, rfl, run_takeDeferred hK, ?_⟩⟩
    exact ⟨.tuple #[.string x.2, .bool true], by simp [results, Tryz.results117, go_sem, r0, r1], by rw [(enum_list_some hsome).1, (enum_list_some hsome).2], hbE⟩

end Go.Proofs.YtgjedfmipllocaaGreatDoor

/-
  The small functions of the document's answer for code: no id, an id that must stand, whole rows.
-/
namespace Go.Proofs.YtgjedfmipllocaaGreatDoor
open Go.RowKit
set_option linter.unusedVariables false

/-- No id below a bound. -/
def noneB (n b : Int) : Bool := decide (n = 0) || decide (b ≤ n)

/-- What is wrong with an id that must stand, or must not. -/
def idE (must : Bool) (n b e : Int) : Int := if must != decide (n ≠ 0) then e else if must && decide (b ≤ n) then 43 else 0

/-- Whole rows. -/
def wholeN (f : Frm) (n : Int) : Bool := if n < f.2.2.2.1.size then false else if f.2.2.2.2.1.size = 0 then decide (n = f.2.2.2.1.size) else decide ((n - f.2.2.2.1.size) % f.2.2.2.2.1.size = 0)

end Go.Proofs.YtgjedfmipllocaaGreatDoor
