/-
  What Fits of the layer grammar returns, for every operation and every list of kinds.
-/
import Derived.WalkSpells
import Derived.WalkMore
import Derived.Deep.QuietTactic
import Derived.BigQuiet
import Derived.Test.YtjpbiakbjpiceabGrammarLetter
import Derived.Test.YtjpbiakbjpiceabRef03Kind
namespace Go.Proofs.Ytjpbiakbjpiceab
open Go.RowKit
set_option maxRecDepth 10000
set_option linter.unusedVariables false
set_option linter.unusedSimpArgs false

/-- The kind at a place is not that of its argument's letter. -/
def badK (f : Frm) (zs : List Int) (k : Nat) : Bool := (letterI f k == 0) || !(kindI (letterI f k) == nth zs k)
/-- So many arguments are Fixed and whole rows of Rest. -/
def wholeB (f : Frm) (n : Int) : Bool := decide (n - f.2.2.2.1.size = 0) || (decide (0 < n - f.2.2.2.1.size) && decide ((n - f.2.2.2.1.size) % f.2.2.2.2.1.size = 0))
/-- What Fits answers. -/
def fitsI (is : Bool) (f : Frm) (zs : List Int) : Int × Bool :=
  if is = false then (0, false) else match (List.range zs.length).find? (badK f zs) with
    | some k => ((k : Int), false)
    | none => if wholeB f zs.length then (0, true) else (zs.length, false)

theorem range_find {p : Nat → Bool} (n k : Nat) (hk : k < n) (h0 : ∀ j, j < k → p j = false) (h : p k = true) : (List.range n).find? p = some k := by
  rw [List.find?_range_eq_some]
  exact ⟨h, by simpa using hk, fun j hj => by simpa using h0 j hj⟩
theorem range_not {p : Nat → Bool} (n : Nat) (h0 : ∀ j, j < n → p j = false) : (List.range n).find? p = none := by
  rw [List.find?_range_eq_none]
  exact fun j hj => by simpa using h0 j hj

/-- Behind Fixed a letter wants a row. -/
theorem rest_of_letters {f : Frm} {zs : List Int} (h : ∀ j, j < zs.length → badK f zs j = false) (hl : f.2.2.2.1.size < zs.length) : f.2.2.2.2.1.size ≠ 0 := fun e => by
  have := h f.2.2.2.1.size hl
  have hz : letterI f (f.2.2.2.1.size : Nat) = 0 := by
    unfold letterI mayB
    rw [if_neg (by omega), if_neg (by omega), if_pos e]; rfl
  simp [badK, hz] at this

theorem whole_any (B : Nat) (n : Int) (f : Frm) (m : Nat) (w : World) (h : w.heap[B]? = some (.cells (frmCells n f) 77 (0, 0))) (hm : (m : Int) < 9223372036854775808) (hs : shortF f = true) (hr : f.2.2.2.1.size < m → f.2.2.2.2.1.size ≠ 0) :
    Calls Try.prog 31 #[.pointer (some ⟨B, 0, none⟩), .int .i64 m] w fun e w' => e = .returned (.bool (wholeB f m)) ∧ w = w' := by
  obtain ⟨d0, d1, d2, d3, d4, d5, d6, d7, df⟩ := frm_cells h
  obtain ⟨nm, t, r, fx, rs, mo, pa⟩ := f
  simp only [shortF, Bool.and_eq_true, decide_eq_true_eq] at hs
  obtain ⟨⟨⟨s1, s2⟩, s3⟩, s4⟩ := hs
  simp only at *
  clear h d0 d1 d2 d3 d6 d7 df s3 s4
  have hw1 : IntKind.i64.wrap ((m : Int) - (fx.size : Int)) = (m : Int) - (fx.size : Int) := wrapI _ (by omega) (by omega)
  have HW : Hid (wholeB (nm, t, r, fx, rs, mo, pa) m = (decide ((m : Int) - fx.size = 0) || (decide (0 < (m : Int) - fx.size) && decide (((m : Int) - fx.size) % rs.size = 0)))) := rfl
  by_cases h0 : (m : Int) - (fx.size : Int) = 0
  · have HE : Hid (wholeB (nm, t, r, fx, rs, mo, pa) m = true) := by show _ = _; rw [HW.out, decide_eq_true h0]; rfl
    have hw2 : IntKind.i64.wrap ((m : Int) - (fx.size : Int)) = 0 := by rw [hw1, h0]
    clear hw1 h0 hr HW hm
    go_enter Try.func31, Try.ntmps31
    go_wp2
    go_ret
    exact ⟨by rw [HE.out]; rfl, rfl⟩
  · obtain ⟨b, hb⟩ : ∃ b : Int, (m : Int) - (fx.size : Int) = b := ⟨_, rfl⟩
    have hwb : IntKind.i64.wrap ((m : Int) - (fx.size : Int)) = b := hw1.trans hb
    have hw3 : wrap64 ((m : Int) - (fx.size : Int)) = b := by unfold wrap64; omega
    clear hw1
    rw [hb] at h0
    have hb0 : (b == 0) = false := by simpa using h0
    by_cases hp : 0 < b
    · have hz : rs.size ≠ 0 := hr (by omega)
      have hz' : ¬ (rs.size : Int) = 0 := by omega
      have tm : Int.tmod b (rs.size : Int) = b % (rs.size : Int) := Int.tmod_eq_emod_of_nonneg (by omega)
      have m0 : 0 ≤ b % (rs.size : Int) := Int.emod_nonneg _ hz'
      have m1 : b % (rs.size : Int) < (rs.size : Int) := Int.emod_lt_of_pos _ (by omega)
      have hw2 : IntKind.i64.wrap (b % (rs.size : Int)) = b % (rs.size : Int) := wrapI _ (by omega) (by omega)
      have HE : Hid (wholeB (nm, t, r, fx, rs, mo, pa) m = (b % (rs.size : Int) == 0)) := by
        show _ = _
        rw [HW.out, hb, decide_eq_false h0, decide_eq_true hp, Bool.false_or, Bool.true_and]
        rfl
      have hp' : decide (b > 0) = true := decide_eq_true hp
      generalize b % (rs.size : Int) = y at *
      clear hr HW hb h0 hz hm m0 m1
      go_enter Try.func31, Try.ntmps31
      go_wp2
      go_ret
      exact ⟨by rw [HE.out]; rfl, rfl⟩
    · have HE : Hid (wholeB (nm, t, r, fx, rs, mo, pa) m = false) := by
        show _ = _
        rw [HW.out, hb, decide_eq_false h0, decide_eq_false hp]; rfl
      have hp' : decide (b > 0) = false := decide_eq_false hp
      clear hr HW hb h0 hm hp
      go_enter Try.func31, Try.ntmps31
      go_wp2
      go_ret
      exact ⟨by rw [HE.out]; rfl, rfl⟩

set_option maxRecDepth 10000 in
set_option maxHeartbeats 2000000 in
theorem fits_any (n : Int) (a : Option Addr) (m cap : Nat) (zs : List Int) (w : World) (hv : View .u8 w a zs) (hl : zs.length = m) (hm : m ≤ 140737488351232) :
    Calls Try.prog 14 #[.int .u16 n, .slice a m cap] w fun e w' => e = .returned (.tuple #[.int .i64 (fitsI (lookF refT n).2 (lookF refT n).1 zs).1, .bool (fitsI (lookF refT n).2 (lookF refT n).1 zs).2]) ∧ Below w.heap.size w w' := by
  obtain ⟨_, _, _, h4, h5⟩ := ftxt_ok n
  have HL : Hid (zs.length = m) := hl
  clear hl
  cases h : (lookF refT n).2
  · have hT := fun w => formText_any n w
    rw [h5 h] at hT
    clear h4 h5 h hv hm HL
    go_enter Try.func14, Try.ntmps14
    go_wp2_with (go_at_call 29; refine (hT _).mono ?_; rintro e w' ⟨rfl, rfl⟩)
    go_ret2
    exact ⟨rfl, Below.refl _ _⟩
  · have e := bytes_empty _ (h4 h)
    have hT := fun w => formText_any n w
    have hR := fun w => readForm_op n w
    have hs := look_short n
    clear h4 h5 h
    generalize ftxt n = s at *
    generalize (lookF refT n).1 = f at *
    have HL0 : Hid (∀ B (i : Int) w, _ → _ → _) := fun B (i : Int) w h h1 => letter_any B n f i w h h1 hs
    have HW0 : Hid (∀ B w, _ → _ → _ → _) := fun B w h h1 h2 => whole_any B n f m w h h1 hs h2
    have HF : Hid (∀ x, x = fitsI true f zs → x = match (List.range zs.length).find? (badK f zs) with | some k => ((k : Int), false) | none => if wholeB f zs.length then (0, true) else ((zs.length : Int), false)) := fun x hx => by rw [hx]; rfl
    clear hs
    go_enter Try.func14, Try.ntmps14
    go_wp2_with fail
    refine (hT _).mono ?_
    rintro e w1 ⟨rfl, rfl⟩
    clear hT
    go_wp2_with fail
    refine (hR _).mono ?_
    rintro e w1 ⟨rfl, hb⟩
    clear hR e
    have hbel : Below w.heap.size w (w1.alloc (.cells (frmCells n f) 77)) := hb.alloc hb.size _
    have hblk := alloc_new w1 (frmCells n f) 77
    unfold formV
    go_wp2_with fail
    rw [show (w1.alloc (.cells #[.int .u16 n, .string f.1, .bool f.2.1, .bool f.2.2.1, .string f.2.2.2.1, .string f.2.2.2.2.1, .int .i64 f.2.2.2.2.2.1, .int .u8 f.2.2.2.2.2.2] 77)) = w1.alloc (.cells (frmCells n f) 77) from rfl]
    have HV : Hid (∀ k, k < m → _) := fun k (hk : k < m) => (hv.below hbel) k (by rw [HL.out]; exact hk)
    have HB : Hid (Below w.heap.size w (w1.alloc (.cells (frmCells n f) 77))) := hbel
    have HK : Hid ((w1.alloc (.cells (frmCells n f) 77)).heap[w1.heap.size]? = some (.cells (frmCells n f) 77 (0, 0))) := hblk
    generalize w1.alloc (.cells (frmCells n f) 77) = W at *
    clear hbel hblk hb hv
    go_loopw [4, 5, 20] (fun r b i wr => r = .int .i64 0 ∧ b = .bool false ∧ ∃ k q : Nat, k ≤ m ∧ i = .int .i64 k ∧ wr = W.drewN q ∧ ∀ j, j < k → badK f zs j = false) (fun _ _ i _ => m - (intOf i).toNat)
    case atStart => exact ⟨rfl, rfl, 0, 0, Nat.zero_le _, rfl, rfl, fun j hj => by omega⟩
    case round =>
      obtain ⟨rfl, rfl, k, q, hk, rfl, rfl, hno⟩ := hrel
      have HO : Hid (∀ j, j < k → badK f zs j = false) := hno
      clear hno
      by_cases hlt : k < m
      · obtain ⟨b, off, rfl, _, hcell⟩ := HV.out k hlt
        have hcell : (W.drewN q).cell? ⟨b, off + k, none⟩ = some (.int .u8 (nth zs k)) := hcell
        have hLt := HL0.out w1.heap.size k (W.drewN q) HK.out (by omega)
        have HBK : Hid (badK f zs k = ((letterI f k == 0) || !(kindI (letterI f k) == nth zs k))) := rfl
        have HHIT : Hid (badK f zs k = true → fitsI true f zs = ((k : Int), false)) := fun hb => by
          have e := range_find zs.length k (by rw [HL.out]; exact hlt) HO.out hb
          show (match (List.range zs.length).find? (badK f zs) with | some k => ((k : Int), false) | none => _) = _
          rw [e]
        have HS : Hid (badK f zs k = false → ∀ j, j < k + 1 → badK f zs j = false) := fun hb j hj => by
          by_cases e : j = k
          · subst e; exact hb
          · exact HO.out j (by omega)
        have hKd := fun w => kind_any (letterI f k) w
        generalize letterI f k = x at *
        generalize kindI x = y at *
        generalize nth zs k = z at *
        clear HO HV
        go_wp2_with fail
        refine hLt.mono ?_
        rintro e w' ⟨rfl, q', rfl⟩
        rw [World.drewN_drewN]
        clear hLt
        by_cases hx : x = 0
        · subst hx
          have HE : Hid (fitsI true f zs = ((k : Int), false)) := HHIT.out (by rw [HBK.out]; rfl)
          clear HHIT HS HBK
          go_wp2
          try rw [Exit.noGoto_ret]
          go_ret2
          exact ⟨by rw [HE.out]; rfl, bel_drewN HB.out _⟩
        · have hx' : (x == 0) = false := by simpa using hx
          by_cases hy : y = z
          · subst hy
            have HE : Hid (∀ j, j < k + 1 → badK f zs j = false) := HS.out (by rw [HBK.out, hx']; simp)
            clear HHIT HS HBK hx
            go_wp2_with (go_at_call 13; refine (hKd _).mono ?_; rintro e w' ⟨rfl, rfl⟩)
            go_roundw
            case rel => exact ⟨rfl, rfl, k + 1, _, by omega, by go_num, rfl, HE.out⟩
            case measure => simp [intOf]; omega
          · have hy' : (y == z) = false := by simpa using hy
            have HE : Hid (fitsI true f zs = ((k : Int), false)) := HHIT.out (by rw [HBK.out, hx', hy']; rfl)
            clear HHIT HS HBK hx hy
            go_wp2_with (go_at_call 13; refine (hKd _).mono ?_; rintro e w' ⟨rfl, rfl⟩)
            try rw [Exit.noGoto_ret]
            go_ret2
            exact ⟨by rw [HE.out]; rfl, bel_drewN HB.out _⟩
      · obtain rfl : k = m := by omega
        have hno : ∀ j, j < zs.length → badK f zs j = false := fun j hj => HO.out j (by rw [HL.out] at hj; exact hj)
        have HF2 : Hid (fitsI true f zs = if wholeB f k then (0, true) else ((k : Int), false)) := by
          show (match (List.range zs.length).find? (badK f zs) with | some k => ((k : Int), false) | none => if wholeB f zs.length then (0, true) else ((zs.length : Int), false)) = _
          rw [range_not zs.length hno, HL.out]
        have hWh := HW0.out w1.heap.size (W.drewN q) HK.out (by omega) (fun h => rest_of_letters hno (by rw [HL.out]; exact h))
        clear hno HO HV HF
        generalize wholeB f k = y at *
        go_wp2_with fail
        refine hWh.mono ?_
        rintro e w' ⟨rfl, rfl⟩
        clear hWh
        cases y
        · go_wp2
          go_ret2
          exact ⟨by rw [HF2.out]; rfl, bel_drewN HB.out _⟩
        · go_wp2
          go_ret2
          exact ⟨by rw [HF2.out]; rfl, bel_drewN HB.out _⟩

end Go.Proofs.Ytjpbiakbjpiceab
