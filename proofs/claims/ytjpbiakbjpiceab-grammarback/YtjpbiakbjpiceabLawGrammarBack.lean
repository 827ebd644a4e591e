/-
  The law GrammarBack answers true, for every operation, letter and number.
-/
import Derived.WalkSpells
import Derived.Test.YtjpbiakbjpiceabGrammarNamed
import Derived.Test.YtjpbiakbjpiceabGrammarEnum
namespace Go.Proofs.Ytjpbiakbjpiceab
open Go.RowKit
set_option maxRecDepth 10000
set_option linter.unusedVariables false
set_option linter.unusedSimpArgs false

/-- Every form's name leads to the form. -/
def backRow (p : Int × Frm) : Bool := decide (opsL.find? (namP p.2.1) = some p.1.toNat) && decide (0 ≤ p.1) && decide (opF p.1.toNat = p.2) && decide (p.2.1.size ≤ 1000)
theorem backRows : refT.all backRow = true := by decide +kernel
theorem back_named {n : Int} (h : (lookF refT n).2 = true) : namedV (lookF refT n).1.1 = formV n (lookF refT n).1 ∧ namedB (lookF refT n).1.1 = true ∧ (lookF refT n).1.1.size ≤ 1000 := by
  have hm := lookF_true h
  have hr := List.all_eq_true.1 backRows _ hm
  simp only [backRow, Bool.and_eq_true, decide_eq_true_eq] at hr
  obtain ⟨⟨⟨r1, r2⟩, r3⟩, r4⟩ := hr
  have e : ((n.toNat : Nat) : Int) = n := by omega
  refine ⟨?_, ?_, r4⟩
  · unfold namedV; rw [r1]; dsimp only; rw [r3, e]
  · unfold namedB; rw [r1]; rfl
/-- Every enumerant's name leads to the number. -/
def backName (x : Int × Int × ByteArray) : Bool := decide (enumN x.1 x.2.2 = x.2.1) && enumNB x.1 x.2.2 && decide (kindI x.1 = 4)
theorem backNames : namesT.all backName = true := by decide +kernel
theorem back_enum {c n : Int} (h : enumB c n = true) : enumN c (enumS c n) = n ∧ enumNB c (enumS c n) = true ∧ kindI c = 4 := by
  unfold enumB at h
  obtain ⟨x, hx⟩ := Option.isSome_iff_exists.1 h
  have e : enumS c n = x.2.2 := by unfold enumS; rw [hx]
  have hr := List.all_eq_true.1 backNames x (List.mem_of_find?_eq_some hx)
  have hp := List.find?_some hx
  simp only [isNum, Bool.and_eq_true, beq_iff_eq] at hp
  simp only [backName, Bool.and_eq_true, decide_eq_true_eq] at hr
  rw [e, ← hp.1, ← hp.2]
  exact ⟨hr.1.1, hr.1.2, hr.2⟩

/-- OpIAdd. -/
def iaddS : ByteArray := ⟨#[79, 112, 73, 65, 100, 100]⟩
theorem iadd_ok : ∃ nm rs mo pa, namedV iaddS = formV 128 (nm, true, true, ⟨#[105, 105]⟩, rs, mo, pa) ∧ namedB iaddS = true := by
  have h1 : opsL.find? (namP iaddS) = some 128 := by decide +kernel
  have h2 : (opF 128).2.1 = true ∧ (opF 128).2.2.1 = true ∧ (opF 128).2.2.2.1 = ⟨#[105, 105]⟩ := by decide +kernel
  refine ⟨(opF 128).1, (opF 128).2.2.2.2.1, (opF 128).2.2.2.2.2.1, (opF 128).2.2.2.2.2.2, ?_, ?_⟩
  · unfold namedV; rw [h1]; dsimp only
    generalize opF 128 = f at *
    obtain ⟨nm, t, r, fx, rs, mo, pa⟩ := f
    obtain ⟨e1, e2, e3⟩ := h2
    simp only at e1 e2 e3
    rw [e1, e2, e3]; rfl
  · unfold namedB; rw [h1]; rfl

set_option maxRecDepth 10000 in
set_option maxHeartbeats 4000000 in
theorem grammarBack_true (w : World) (n : Int) (hn : (Lit.int .u16 n).wf = true) (c : Int) (hc : (Lit.int .u8 c).wf = true) (k : Int) (hk : (Lit.int .u32 k).wf = true) :
    Calls Try.prog 4 #[.int .u16 n, .int .u8 c, .int .u32 k] w fun e w' => e = .returned (.bool true) ∧ Below w.heap.size w w' := by
  clear hn hc hk
  have hI := fun w => named_any iaddS w (by decide)
  obtain ⟨nm0, rs0, mo0, pa0, e1, e2⟩ := iadd_ok
  rw [e1, e2] at hI
  unfold formV iaddS at hI
  clear e1 e2
  have hO := fun w => of_any n w
  have hN : Hid ((lookF refT n).2 = true → ∀ w, _) := fun h w => named_any (lookF refT n).1.1 w (Nat.le_trans (back_named h).2.2 (by omega))
  have HBN : Hid ((lookF refT n).2 = true → namedV (lookF refT n).1.1 = formV n (lookF refT n).1 ∧ namedB (lookF refT n).1.1 = true) := fun h => ⟨(back_named h).1, (back_named h).2.1⟩
  have hE := fun w => enum_any c k w
  have HEN : Hid (∀ s w, _) := fun s w => enumNamed_any c s w
  have HKD : Hid (∀ w, _) := fun w => kind_any c w
  have HBE : Hid (enumB c k = true → enumN c (enumS c k) = k ∧ enumNB c (enumS c k) = true ∧ kindI c = 4) := back_enum
  obtain ⟨m, hm⟩ := ofV_look n
  have HOV : Hid ((lookF refT n).2 = true → ofV n = formV n (lookF refT n).1) := fun h => by unfold ofV; rw [h]; rfl
  go_enter Try.func4, Try.ntmps4
  go_wp2_with fail
  refine (hI _).mono ?_
  rintro e w1 ⟨rfl, b1⟩
  clear hI
  go_wp2_with fail
  refine (hO _).mono ?_
  rintro e w2 ⟨rfl, b2⟩
  clear hO
  have hbw : Below w.heap.size w w2 := (b1.alloc b1.size _).trans (b2.mono (by have := b1.size; simp; omega))
  clear b1 b2
  have hbs := hbw.size
  cases his : (lookF refT n).2
  · rw [hm]
    clear HBN HOV hN hm his
    generalize (lookF refT n).1 = f at *
    obtain ⟨nm, t, r, fx, rs, mo, pa⟩ := f
    have HBW : Hid (Below w.heap.size w (w2.alloc (.cells (frmCells m (nm, t, r, fx, rs, mo, pa)) 33))) := hbw.alloc hbs _
    clear hbw
    unfold formV
    go_wp2_with fail
    refine (hE _).mono ?_
    rintro e w4 ⟨rfl, b4⟩
    clear hE
    have HB4 : Hid (Below w.heap.size w w4) := HBW.out.trans (b4.mono HBW.out.size)
    clear b4 HBW
    cases heb : enumB c k
    · clear HBE HEN HKD heb
      go_wp2
      go_ret
      exact ⟨rfl, HB4.out⟩
    · obtain ⟨x1, x2, x3⟩ := HBE.out heb
      have h5 := HEN.out (enumS c k) w4
      have h6 := HKD.out
      rw [x1, x2] at h5
      rw [x3] at h6
      clear HBE HEN HKD heb x1 x2 x3
      generalize enumS c k = sx at *
      go_wp2_with fail
      refine h5.mono ?_
      rintro e w5 ⟨rfl, b5⟩
      have HB5 : Hid (Below w.heap.size w w5) := HB4.out.trans (b5.mono HB4.out.size)
      clear h5 b5 HB4
      go_wp2_with (go_at_call 13; refine (h6 _).mono ?_; rintro e w' ⟨rfl, rfl⟩)
      go_ret
      exact ⟨rfl, HB5.out⟩
  · have h3 := hN.out his
    rw [(HBN.out his).1, (HBN.out his).2] at h3
    rw [HOV.out his]
    clear HBN HOV hN hm his
    generalize (lookF refT n).1 = f at *
    obtain ⟨nm, t, r, fx, rs, mo, pa⟩ := f
    have hbx : Below w.heap.size w (w2.alloc (.cells (frmCells n (nm, t, r, fx, rs, mo, pa)) 33)) := hbw.alloc hbs _
    have HBX : Hid (Below w.heap.size w (w2.alloc (.cells (frmCells n (nm, t, r, fx, rs, mo, pa)) 33))) := hbx
    clear hbw hbx
    unfold formV at *
    simp only at h3
    go_wp2_with fail
    refine (h3 _).mono ?_
    rintro e w3 ⟨rfl, b3⟩
    clear h3
    have hB := (b3.block w2.heap.size (by simp)).trans (alloc_new w2 _ _)
    obtain ⟨d0, d1, d2, d3, d4, d5, d6, d7, df⟩ := frm_cells (n := n) (f := (nm, t, r, fx, rs, mo, pa)) hB
    have hl3 : w2.heap.size < w3.heap.size := by have := b3.size; simp at this; omega
    have HBW : Hid (Below w.heap.size w (w3.alloc (.cells (frmCells n (nm, t, r, fx, rs, mo, pa)) 33))) := (HBX.out.trans (b3.mono HBX.out.size)).alloc (by have := b3.size; have := HBX.out.size; omega) _
    clear HBX b3 hB df
    go_wp2_with fail
    clear d0 d1 d2 d3 d4 d5 d6 d7
    refine (hE _).mono ?_
    rintro e w4 ⟨rfl, b4⟩
    clear hE
    have HB4 : Hid (Below w.heap.size w w4) := HBW.out.trans (b4.mono HBW.out.size)
    clear b4 HBW
    cases heb : enumB c k
    · clear HBE HEN HKD heb
      go_wp2
      go_ret
      exact ⟨rfl, HB4.out⟩
    · obtain ⟨x1, x2, x3⟩ := HBE.out heb
      have h5 := HEN.out (enumS c k) w4
      have h6 := HKD.out
      rw [x1, x2] at h5
      rw [x3] at h6
      clear HBE HEN HKD heb x1 x2 x3
      generalize enumS c k = sx at *
      go_wp2_with fail
      refine h5.mono ?_
      rintro e w5 ⟨rfl, b5⟩
      have HB5 : Hid (Below w.heap.size w w5) := HB4.out.trans (b5.mono HB4.out.size)
      clear h5 b5 HB4
      go_wp2_with (go_at_call 13; refine (h6 _).mono ?_; rintro e w' ⟨rfl, rfl⟩)
      go_ret
      exact ⟨rfl, HB5.out⟩

end Go.Proofs.Ytjpbiakbjpiceab
