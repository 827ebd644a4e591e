/-
  What the methods of a form answer that tell the letters of its arguments, for every form that lies in memory; and Letter, for every operation and number.
-/
import Derived.WalkSpells
import Derived.WalkMore
import Derived.Deep.QuietTactic
import Derived.BigQuiet
import Derived.Test.YtjpbiakbjpiceabGrammarOf
namespace Go.Proofs.Ytjpbiakbjpiceab
open Go.RowKit
set_option maxRecDepth 10000
set_option linter.unusedVariables false
set_option linter.unusedSimpArgs false

/-- A form whose texts are short. -/
def shortF (f : Frm) : Bool := decide (f.2.2.2.1.size ≤ 1000) && decide (f.2.2.2.2.1.size ≤ 1000) && decide (0 ≤ f.2.2.2.2.2.1) && decide (f.2.2.2.2.2.1 ≤ 1000)

/-- Whether an argument may stand behind Fixed, at that number behind it. -/
def mayB (f : Frm) (b : Int) : Bool := if f.2.2.2.2.1.size = 0 then false else if f.2.2.2.2.2.1 = 0 then true else decide (b / f.2.2.2.2.1.size < f.2.2.2.2.2.1)

/-- The letter of an argument. -/
def letterI (f : Frm) (i : Int) : Int :=
  if i < 0 then 0 else if i < f.2.2.2.1.size then sgn f.2.2.2.1 i.toNat else if mayB f (i - f.2.2.2.1.size) then sgn f.2.2.2.2.1 ((i - f.2.2.2.1.size) % f.2.2.2.2.1.size).toNat else 0

theorem noLetter_any (p : Value) (i : Int) (w : World) : Calls Try.prog 54 #[p, .int .i64 i] w fun e w' => e = .returned (.int .u8 0) ∧ w = w' := by
  go_enter Try.func54, Try.ntmps54
  go_wp2
  go_ret
  exact ⟨rfl, rfl⟩

theorem fixedLetter_any (B : Nat) (n : Int) (f : Frm) (i : Int) (w : World) (h : w.heap[B]? = some (.cells (frmCells n f) 77 (0, 0))) (h0 : 0 ≤ i) (h1 : i < f.2.2.2.1.size) (hs : f.2.2.2.1.size ≤ 1000) :
    Calls Try.prog 55 #[.pointer (some ⟨B, 0, none⟩), .int .i64 i] w fun e w' => e = .returned (.int .u8 (sgn f.2.2.2.1 i.toNat)) ∧ w = w' := by
  obtain ⟨d0, d1, d2, d3, d4, d5, d6, d7, df⟩ := frm_cells h
  obtain ⟨nm, t, r, fx, rs, mo, pa⟩ := f
  simp only at *
  obtain ⟨k, rfl⟩ := Int.eq_ofNat_of_zero_le h0
  have hk : k < fx.size := by omega
  have hsg := sgn_at fx k hk
  clear h d0 d1 d2 d3 d5 d6 d7 df
  go_enter Try.func55, Try.ntmps55
  go_wp2
  go_ret
  exact ⟨rfl, rfl⟩

theorem wrapI (x : Int) (h0 : -9223372036854775808 ≤ x) (h1 : x < 9223372036854775808) : IntKind.i64.wrap x = x := by rw [IntKind.wrap_i64]; omega

theorem string_some (s : ByteArray) (h : s.size ≠ 0) : (s.toList == ([] : List UInt8)) = false := bytes_empty s h
theorem string_none (s : ByteArray) (h : s.size = 0) : (s.toList == ([] : List UInt8)) = true := by
  rw [ByteArray.toList_eq]
  have : s.data.toList = [] := by rw [← List.length_eq_zero_iff, Array.length_toList]; exact h
  rw [this]; rfl

theorem mayFollow_any (B : Nat) (n : Int) (f : Frm) (b : Int) (w : World) (h : w.heap[B]? = some (.cells (frmCells n f) 77 (0, 0))) (h0 : 0 ≤ b) (h1 : b < 9223372036854775808) (hs : shortF f = true) :
    Calls Try.prog 56 #[.pointer (some ⟨B, 0, none⟩), .int .i64 b] w fun e w' => e = .returned (.bool (mayB f b)) ∧ ∃ q, w' = w.drewN q := by
  obtain ⟨d0, d1, d2, d3, d4, d5, d6, d7, df⟩ := frm_cells h
  obtain ⟨nm, t, r, fx, rs, mo, pa⟩ := f
  simp only [shortF, Bool.and_eq_true, decide_eq_true_eq] at hs
  obtain ⟨⟨⟨s1, s2⟩, s3⟩, s4⟩ := hs
  simp only at *
  clear h d0 d1 d2 d3 d4 d7 df
  by_cases hr : rs.size = 0
  · have e := string_none rs hr
    have HM : Hid (mayB (nm, t, r, fx, rs, mo, pa) b = false) := by show _ = _; simp [mayB, hr]
    clear hr
    go_enter Try.func56, Try.ntmps56
    go_wp2
    go_ret
    exact ⟨by rw [HM.out]; rfl, 0, rfl⟩
  · have e := string_some rs hr
    by_cases hm : mo = 0
    · subst hm
      have HM : Hid (mayB (nm, t, r, fx, rs, 0, pa) b = true) := by show _ = _; simp [mayB, hr]
      clear hr s3 s4
      go_enter Try.func56, Try.ntmps56
      go_wp2
      go_quiet (fail)
      go_wp2
      go_ret
      exact ⟨by rw [HM.out]; rfl, _, rfl⟩
    · have hm' : (mo == 0) = false := by simpa using hm
      have HM : Hid (mayB (nm, t, r, fx, rs, mo, pa) b = decide (b / (rs.size : Int) < mo)) := by show _ = _; simp [mayB, hr, hm]
      have hr0 : (0 : Int) < (rs.size : Int) := by omega
      have hq0 : 0 ≤ b / (rs.size : Int) := Int.ediv_nonneg h0 (by omega)
      have hq1 : b / (rs.size : Int) ≤ b := Int.ediv_le_self _ h0
      have ht : Int.tdiv b (rs.size : Int) = b / (rs.size : Int) := Int.tdiv_eq_ediv_of_nonneg h0
      have hw : IntKind.i64.wrap (b / (rs.size : Int)) = b / (rs.size : Int) := wrapI _ (by omega) (by omega)
      have hz : ¬ (rs.size : Int) = 0 := by omega
      go_enter Try.func56, Try.ntmps56
      go_wp2
      go_quiet (fail)
      go_wp2
      go_ret
      exact ⟨by rw [HM.out]; rfl, _, rfl⟩

theorem restLetter_any (B : Nat) (n : Int) (f : Frm) (i : Int) (w : World) (h : w.heap[B]? = some (.cells (frmCells n f) 77 (0, 0))) (h0 : (f.2.2.2.1.size : Int) ≤ i) (h1 : i < 9223372036854775808) (hs : shortF f = true) (hr : f.2.2.2.2.1.size ≠ 0) :
    Calls Try.prog 57 #[.pointer (some ⟨B, 0, none⟩), .int .i64 i] w fun e w' => e = .returned (.int .u8 (sgn f.2.2.2.2.1 ((i - f.2.2.2.1.size) % f.2.2.2.2.1.size).toNat)) ∧ ∃ q, w' = w.drewN q := by
  obtain ⟨d0, d1, d2, d3, d4, d5, d6, d7, df⟩ := frm_cells h
  obtain ⟨nm, t, r, fx, rs, mo, pa⟩ := f
  simp only [shortF, Bool.and_eq_true, decide_eq_true_eq] at hs
  obtain ⟨⟨⟨s1, s2⟩, s3⟩, s4⟩ := hs
  simp only at *
  clear h d0 d1 d2 d3 d6 d7 df s3 s4
  have hr0 : (0 : Int) < (rs.size : Int) := by omega
  have hz : ¬ (rs.size : Int) = 0 := by omega
  have hb0 : 0 ≤ i - (fx.size : Int) := by omega
  have hw1 : IntKind.i64.wrap (i - (fx.size : Int)) = i - (fx.size : Int) := wrapI _ (by omega) (by omega)
  have ht : Int.tmod (i - (fx.size : Int)) (rs.size : Int) = (i - (fx.size : Int)) % (rs.size : Int) := Int.tmod_eq_emod_of_nonneg hb0
  have hq0 : 0 ≤ (i - (fx.size : Int)) % (rs.size : Int) := Int.emod_nonneg _ hz
  have hq1 : (i - (fx.size : Int)) % (rs.size : Int) < (rs.size : Int) := Int.emod_lt_of_pos _ hr0
  have hw2 : IntKind.i64.wrap ((i - (fx.size : Int)) % (rs.size : Int)) = (i - (fx.size : Int)) % (rs.size : Int) := wrapI _ (by omega) (by omega)
  obtain ⟨k, hk⟩ := Int.eq_ofNat_of_zero_le hq0
  rw [hk] at ht hq1 hw2 ⊢
  have hkl : k < rs.size := by omega
  have hsg := sgn_at rs k hkl
  clear hk hq0
  go_enter Try.func57, Try.ntmps57
  go_wp2
  go_quiet (fail)
  go_wp2
  go_ret
  exact ⟨rfl, _, rfl⟩

/-- Which method tells the argument. -/
def tellerN (f : Frm) (i : Int) : Nat := if i < 0 then 54 else if i < f.2.2.2.1.size then 55 else if mayB f (i - f.2.2.2.1.size) then 57 else 54

theorem teller_any (B : Nat) (n : Int) (f : Frm) (i : Int) (w : World) (h : w.heap[B]? = some (.cells (frmCells n f) 77 (0, 0))) (h1 : i < 9223372036854775808) (hs : shortF f = true) :
    Calls Try.prog 50 #[.pointer (some ⟨B, 0, none⟩), .int .i64 i] w fun e w' => e = .returned (.func (.func (tellerN f i)) #[.pointer (some ⟨B, 0, none⟩)] #[]) ∧ ∃ q, w' = w.drewN q := by
  have HM : Hid (∀ b : Int, 0 ≤ b → b < 9223372036854775808 → _) := fun (b : Int) (h0 : 0 ≤ b) (h1 : b < 9223372036854775808) => mayFollow_any B n f b w h h0 h1 hs
  obtain ⟨d0, d1, d2, d3, d4, d5, d6, d7, df⟩ := frm_cells h
  have hs2 := hs
  simp only [shortF, Bool.and_eq_true, decide_eq_true_eq] at hs
  obtain ⟨⟨⟨s1, s2⟩, s3⟩, s4⟩ := hs
  clear h d0 d1 d2 d3 d5 d6 d7 df
  by_cases hi : i < 0
  · have HE : Hid (tellerN f i = 54) := by show _ = _; unfold tellerN; rw [if_pos hi]
    clear hs2
    go_enter Try.func50, Try.ntmps50
    go_wp2
    go_ret
    exact ⟨by rw [HE.out]; rfl, 0, rfl⟩
  · by_cases hx : i < f.2.2.2.1.size
    · have HE : Hid (tellerN f i = 55) := by show _ = _; unfold tellerN; rw [if_neg hi, if_pos hx]
      clear hs2
      go_enter Try.func50, Try.ntmps50
      go_wp2
      go_ret
      exact ⟨by rw [HE.out]; rfl, 0, rfl⟩
    · have hc := HM.out (i - f.2.2.2.1.size) (by omega) (by omega)
      have HE : Hid (tellerN f i = if mayB f (i - f.2.2.2.1.size) then 57 else 54) := by show _ = _; unfold tellerN; rw [if_neg hi, if_neg hx]
      clear hs2 HM
      cases hb : mayB f (i - f.2.2.2.1.size)
      all_goals
        rw [hb] at hc HE
        clear hb
        go_enter Try.func50, Try.ntmps50
        go_wp2_with fail
        refine hc.mono ?_
        rintro e w' ⟨rfl, q, rfl⟩
        clear hc
        go_wp2
        go_ret
        exact ⟨by rw [HE.out]; rfl, q, rfl⟩

theorem letter_any (B : Nat) (n : Int) (f : Frm) (i : Int) (w : World) (h : w.heap[B]? = some (.cells (frmCells n f) 77 (0, 0))) (h1 : i < 9223372036854775808) (hs : shortF f = true) :
    Calls Try.prog 30 #[.pointer (some ⟨B, 0, none⟩), .int .i64 i] w fun e w' => e = .returned (.int .u8 (letterI f i)) ∧ ∃ q, w' = w.drewN q := by
  have hT := teller_any B n f i w h h1 hs
  have hK : ∀ q, Calls Try.prog (tellerN f i) #[.pointer (some ⟨B, 0, none⟩), .int .i64 i] (w.drewN q) fun e w' => e = .returned (.int .u8 (letterI f i)) ∧ ∃ q', w' = w.drewN q' := by
    intro q
    have hq : (w.drewN q).heap[B]? = some (.cells (frmCells n f) 77 (0, 0)) := h
    have hsz : f.2.2.2.1.size ≤ 1000 := by simp only [shortF, Bool.and_eq_true, decide_eq_true_eq] at hs; omega
    unfold tellerN letterI
    by_cases hi : i < 0
    · rw [if_pos hi, if_pos hi]
      exact (noLetter_any _ _ _).mono fun e w' he => ⟨he.1, q, he.2.symm⟩
    · rw [if_neg hi, if_neg hi]
      by_cases hx : i < f.2.2.2.1.size
      · rw [if_pos hx, if_pos hx]
        exact (fixedLetter_any B n f i _ hq (by omega) hx hsz).mono fun e w' he => ⟨he.1, q, he.2.symm⟩
      · rw [if_neg hx, if_neg hx]
        cases hb : mayB f (i - f.2.2.2.1.size)
        · simp only [Bool.false_eq_true, if_false]
          exact (noLetter_any _ _ _).mono fun e w' he => ⟨he.1, q, he.2.symm⟩
        · simp only [if_true]
          have hr : f.2.2.2.2.1.size ≠ 0 := fun e => by unfold mayB at hb; rw [if_pos e] at hb; cases hb
          refine (restLetter_any B n f i _ hq (by omega) h1 hs hr).mono ?_
          rintro e w' ⟨rfl, q', rfl⟩
          exact ⟨rfl, q + q', by rw [World.drewN_drewN]⟩
  have hne : ∀ args w, (callFunc (tellerN f i) args).run Try.prog w = .ok (.enter (tellerN f i) args) w := by
    intro args w
    unfold tellerN
    split
    · kernel_rfl
    · split
      · kernel_rfl
      · split
        · kernel_rfl
        · kernel_rfl
  generalize letterI f i = x at *
  generalize tellerN f i = g at *
  clear h hs
  go_enter Try.func30, Try.ntmps30
  go_wp2_with fail
  refine hT.mono ?_
  rintro e w' ⟨rfl, q, rfl⟩
  clear hT
  go_wp2_with fail
  refine (hK q).mono ?_
  rintro e w' ⟨rfl, q', rfl⟩
  clear hK hne
  go_wp2
  go_ret
  exact ⟨rfl, q', rfl⟩

theorem refT_short : refT.all (fun p => shortF p.2) = true := by decide +kernel
theorem look_short (n : Int) : shortF (lookF refT n).1 = true := by
  cases h : (lookF refT n).2
  · rw [(lookF_false h).1]; decide +kernel
  · exact List.all_eq_true.1 refT_short _ (lookF_true h)

theorem bel_draw (w : World) (q : Nat) (B : Nat) : Below B w (w.drewN q) := bel_drewN (Below.refl _ _) q

end Go.Proofs.Ytjpbiakbjpiceab
