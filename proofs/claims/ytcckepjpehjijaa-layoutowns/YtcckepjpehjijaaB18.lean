/-
  Texts laid together in one: Ref05Part, Ref05May0, Ref05First, Ref05May1, Ref03Letter, Ref04Wrong, Ref01Split, Ref01OfText.
-/
import Derived.WalkSpells
import Derived.WalkMore
import Derived.BigRegion
import Derived.Deep.RegionWith
import Derived.Test.YtcckepjpehjijaaProg
import Derived.Test.YtcckepjpehjijaaB07
import Derived.Test.YtcckepjpehjijaaB08
import Derived.Deep.QuietTactic
import Derived.BigQuiet
import Derived.Test.YtcckepjpehjijaaB03
import Derived.Test.YtcckepjpehjijaaB04
import Derived.Test.YtcckepjpehjijaaB06
import Derived.Deep.RegionHeld3
import Derived.Deep.DrawnRows
import Derived.Test.YtcckepjpehjijaaB01
/-
  The document's Part of an instruction.
-/
namespace Go.Proofs.Ytcckepjpehjijaa
open Go.RowKit
set_option linter.unusedVariables false
set_option linter.unusedSimpArgs false
set_option maxRecDepth 10000

/-- A part is a small number. -/
theorem partO_small (op : Int) : 0 ≤ partO op ∧ partO op ≤ 9 := by
  have h : refT.all (fun r => decide (0 ≤ r.2.2.2.2.2.2.2) && decide (r.2.2.2.2.2.2.2 ≤ 9)) = true := by decide +kernel
  unfold partO
  split
  · next h1 =>
    have h2 := List.all_eq_true.1 h _ (lookF_true h1)
    simpa using h2
  · omega

theorem partI_small (x : InstT) : 0 ≤ partI x ∧ partI x ≤ 9 := by
  unfold partI
  split
  · omega
  · exact partO_small _

set_option maxHeartbeats 4000000 in
theorem refPart_any (x : InstT) (ax : Option Addr) (n cx : Nat) (w : World) (hv : ArgsV w ax x.2.2.2) (hl : x.2.2.2.length = n) (h59 : x.1 = 59 → 1 ≤ n) :
    Calls Try.prog 30 #[instV x ax n cx] w fun e w' => e = .returned (.int .i64 (partI x)) ∧ Below w.heap.size w w' := by
  obtain ⟨xo, xt, xr, xl⟩ := x
  unfold instV partI
  simp only at *
  have hO := fun wx => refOf_any xo wx
  have hba : Below w.heap.size w (w.alloc (.cells #[.int .u16 xo, .int .u32 xt, .int .u32 xr, .slice ax n cx] 58)) := (Below.refl _ w).alloc (Nat.le_refl _) _
  have HBA := hide hba
  have hof : ∃ nm ty re fx rs mo o, ofV xo = .agg #[.int .u16 o, .string nm, .bool ty, .bool re, .string fx, .string rs, .int .i64 mo, .int .u8 (partO xo)] := by
    unfold ofV partO formV
    cases h : (lookF refT xo).2 with
    | true => exact ⟨_, _, _, _, _, _, _, by simp; exact ⟨rfl, rfl, rfl, rfl, rfl, rfl, rfl⟩⟩
    | false => exact ⟨_, _, _, _, _, _, _, by simp [noFrm]; exact ⟨rfl, rfl, rfl, rfl, rfl, rfl, rfl⟩⟩
  obtain ⟨nm, ty, re, fx, rs, mo, o, ho⟩ := hof
  rw [ho] at hO
  have hsm := partO_small xo
  generalize hp : partO xo = po at *
  have hw : wrap64 po = po := by unfold wrap64; omega
  clear hsm
  have OTHER : ¬ (xo = 59 ∧ (nthA xl 0).2.1 = 7) → Calls Try.prog 30 #[.agg #[.int .u16 xo, .int .u32 xt, .int .u32 xr, .slice ax n cx]] w fun e w' => e = .returned (.int .i64 po) ∧ Below w.heap.size w w' := by
    intro hno
    by_cases h1 : xo = 59
    · subst h1
      have h7 : (nthA xl 0).2.1 ≠ 7 := fun e => hno ⟨rfl, e⟩
      obtain ⟨ba, oa, rfl, hb, z0, z1, z2⟩ := hv 0 (by have := h59 rfl; omega)
      have hn0 : (0 : Int) < (n : Int) := by have := h59 rfl; omega
      have zz1 := (hba.cell (p := ⟨ba, oa + 0 * 3 + 1, none⟩) hb).trans z1
      rw [show oa + 0 * 3 + 1 = oa + 1 by omega] at zz1
      generalize (nthA xl 0).2.1 = y at *
      have h7' : (y == 7) = false := by simpa using h7
      clear hno h7 hv hl h59 z0 z1 z2 hba hp ho
      go_enter Try.func30, Try.ntmps30
      go_wp2_with fail
      refine (hO _).mono ?_
      rintro e w1 ⟨rfl, hb1⟩
      have HB1 := hide (HBA.out.trans (hb1.mono HBA.out.size))
      clear hb1 hO zz1
      go_wp2_with fail
      rw [hw]
      go_ret
      exact ⟨rfl, HB1.out.alloc HB1.out.size _⟩
    · have h1' : (xo == 59) = false := by simpa using h1
      clear hno h1 hv hl h59 hba hp ho
      go_enter Try.func30, Try.ntmps30
      go_wp2_with fail
      refine (hO _).mono ?_
      rintro e w1 ⟨rfl, hb1⟩
      have HB1 := hide (HBA.out.trans (hb1.mono HBA.out.size))
      clear hb1 hO
      go_wp2_with fail
      rw [hw]
      go_ret
      exact ⟨rfl, HB1.out.alloc HB1.out.size _⟩
  by_cases hc : xo = 59 ∧ (nthA xl 0).2.1 = 7
  · rw [if_pos hc]
    obtain ⟨rfl, h7⟩ := hc
    obtain ⟨ba, oa, rfl, hb, z0, z1, z2⟩ := hv 0 (by have := h59 rfl; omega)
    have hn0 : (0 : Int) < (n : Int) := by have := h59 rfl; omega
    rw [h7] at z1
    have zz1 := (hba.cell (p := ⟨ba, oa + 0 * 3 + 1, none⟩) hb).trans z1
    rw [show oa + 0 * 3 + 1 = oa + 1 by omega] at zz1
    clear OTHER h7 hv hl h59 z0 z1 z2 hba hp ho hO
    go_enter Try.func30, Try.ntmps30
    go_wp2_with fail
    go_ret
    exact ⟨rfl, HBA.out⟩
  · rw [if_neg hc]
    exact OTHER hc

end Go.Proofs.Ytcckepjpehjijaa

/-
  The document's May, of what is no part of a function.
-/
namespace Go.Proofs.Ytcckepjpehjijaa
open Go.RowKit
set_option linter.unusedVariables false
set_option linter.unusedSimpArgs false
set_option maxRecDepth 10000

set_option maxHeartbeats 8000000 in
theorem refMay_low (l : List InstT) (a : Option Addr) (n c m : Nat) (w : World) (hv : InstsV w a l) (hl : l.length = n) (hn : n ≤ 140737488351232) (hvar : VarsOk l) (hm : m < n) (p : Int) (hp : partI (nthI l m) = p) (h8 : p < 8) (r : Bool) (hr : r = (!overP l p m && (if p = 1 then decide (modelsN l m = 0) else !(decide (1 < p) && decide (modelsN l m = 0))))) :
    Calls Try.prog 29 #[.slice a n c, .int .i64 m] w fun e w' => e = .returned (.bool r) ∧ Below w.heap.size w w' := by
  have HL := hide hl
  have HV := hide hv
  have HR := hide hr
  have HVAR := hide hvar
  have HP : Hid (∀ (k : Nat) (wx : World), k < n → Below w.heap.size w wx → ∃ b off aj cj nj, a = some ⟨b, off, none⟩ ∧ b < wx.heap.size ∧ wx.cell? ⟨b, off + k * 4, none⟩ = some (.int .u16 (nthI l k).1) ∧ wx.cell? ⟨b, off + k * 4 + 1, none⟩ = some (.int .u32 (nthI l k).2.1) ∧ wx.cell? ⟨b, off + k * 4 + 2, none⟩ = some (.int .u32 (nthI l k).2.2.1) ∧ wx.cell? ⟨b, off + k * 4 + 3, none⟩ = some (.slice aj nj cj) ∧
      ∀ wy, Below wx.heap.size wx wy → Calls Try.prog 30 #[.agg #[.int .u16 (nthI l k).1, .int .u32 (nthI l k).2.1, .int .u32 (nthI l k).2.2.1, .slice aj nj cj]] wy fun e w' => e = .returned (.int .i64 (partI (nthI l k))) ∧ Below wy.heap.size wy w') := by
    intro k wx hk hb
    obtain ⟨g1, o1, aj, cj, nj, ha, hg1, p1, p2, p3, p4, p5, p6, p7⟩ := HV.out.below hb k (by rw [HL.out]; exact hk)
    refine ⟨g1, o1, aj, cj, nj, ha, hg1, p1, p2, p3, p4, fun wy hy => ?_⟩
    have := refPart_any (nthI l k) aj nj cj wy (p6.below hy) p5 (fun e => by rw [← p5]; exact HVAR.out k (by rw [HL.out]; exact hk) e)
    unfold instV at this
    exact this
  clear hl hv hr hvar
  obtain ⟨g1, o1, aj, cj, nj, ha, hg1, p1, p2, p3, p4, hC⟩ := HP.out m w hm (Below.refl _ _)
  subst ha
  rw [hp] at hC
  have hm0 : (0 : Int) ≤ (m : Int) := by omega
  have hmi : (m : Int) < (n : Int) := by omega
  have hC' := hC w (Below.refl _ _)
  clear hC
  go_enter Try.func29, Try.ntmps29
  go_wp2_with fail
  refine hC'.mono ?_
  rintro e w1 ⟨rfl, hb1⟩
  have HB1 := hide hb1
  clear hC' p1 p2 p3 p4 hb1
  go_wp2_with fail
  go_loopw [6, 7] (fun d i wr => ∃ k : Nat, k ≤ m ∧ i = .int .i64 k ∧ d = .int .i64 (modelsN l k) ∧ overP l p k = false ∧ Below w.heap.size w wr) (fun _ i _ => m - (intOf i).toNat)
  case atStart => exact ⟨0, Nat.zero_le _, rfl, rfl, rfl, HB1.out⟩
  case round =>
    obtain ⟨k, hk, rfl, rfl, hov, hbr⟩ := hrel
    have HOV := hide hov
    have HB := hide hbr
    have hml := modelsN_le l k
    clear hov
    by_cases hlt : k < m
    · have hk0 : (0 : Int) ≤ (k : Int) := by omega
      have hki : (k : Int) < (n : Int) := by omega
      have hkm : (k : Int) < (m : Int) := by omega
      obtain ⟨g2, o2, aj2, cj2, nj2, ha2, hg2, q1, q2, q3, q4, hC⟩ := HP.out k wr (by omega) hbr
      injection ha2 with e1
      injection e1 with e1 e2
      subst e1
      subst e2
      have HC := hide hC
      clear hC hbr
      have hMn : Hid (modelsN l (k + 1) = modelsN l k + (if partI (nthI l k) = 1 then 1 else 0)) := rfl
      have hOn : Hid (overP l p (k + 1) = (overP l p k || decide (p < partI (nthI l k)))) := rfl
      have hOa : Hid (p < partI (nthI l k) → overP l p m = true) := fun h => overP_at hlt h
      generalize modelsN l k = d at *
      generalize hq : partI (nthI l k) = q at *
      have hC' := HC.out wr (Below.refl _ _)
      by_cases hpq : p < q
      · obtain rfl : r = false := by rw [HR.out, hOa.out hpq]; rfl
        clear hOn hMn hOa HR HP
        go_wp2_with fail
        refine hC'.mono ?_
        rintro e w2 ⟨rfl, hb2⟩
        have HB2 := hide (HB.out.trans (hb2.mono HB.out.size))
        clear hC' HC q1 q2 q3 q4 hb2
        go_wp2_with fail
        go_ret
        exact ⟨rfl, HB2.out⟩
      · have hO2 := hide (show overP l p (k + 1) = false by rw [hOn.out, HOV.out]; simpa using hpq)
        clear hOn hOa
        by_cases hq1 : q = 1
        · have hM2 := hide (show modelsN l (k + 1) = d + 1 by rw [hMn.out, if_pos hq1])
          have hqq : (q == 1) = true := by simpa using hq1
          clear hMn
          go_wp2_with fail
          refine hC'.mono ?_
          rintro e w2 ⟨rfl, hb2⟩
          have HB2 := hide (HB.out.trans (hb2.mono HB.out.size))
          replace q1 := (hb2.cell (p := ⟨g1, o1 + k * 4, none⟩) hg2).trans q1
          replace q2 := (hb2.cell (p := ⟨g1, o1 + k * 4 + 1, none⟩) hg2).trans q2
          replace q3 := (hb2.cell (p := ⟨g1, o1 + k * 4 + 2, none⟩) hg2).trans q3
          replace q4 := (hb2.cell (p := ⟨g1, o1 + k * 4 + 3, none⟩) hg2).trans q4
          have hC2 := HC.out w2 hb2
          replace hg2 : g1 < w2.heap.size := Nat.lt_of_lt_of_le hg2 hb2.size
          clear hC' HC hb2
          go_wp2_with fail
          refine hC2.mono ?_
          rintro e w3 ⟨rfl, hb3⟩
          have HB3 := hide (HB2.out.trans (hb3.mono HB2.out.size))
          clear hC2 q1 q2 q3 q4 hb3
          go_wp2_with fail
          go_roundw
          case rel => exact ⟨k + 1, by omega, by go_num, by rw [hM2.out]; go_num, hO2.out, HB3.out⟩
          case measure => simp [intOf]; omega
        · have hM2 := hide (show modelsN l (k + 1) = d by rw [hMn.out, if_neg hq1]; rfl)
          have hqq : (q == 1) = false := by simpa using hq1
          clear hMn
          go_wp2_with fail
          refine hC'.mono ?_
          rintro e w2 ⟨rfl, hb2⟩
          have HB2 := hide (HB.out.trans (hb2.mono HB.out.size))
          replace q1 := (hb2.cell (p := ⟨g1, o1 + k * 4, none⟩) hg2).trans q1
          replace q2 := (hb2.cell (p := ⟨g1, o1 + k * 4 + 1, none⟩) hg2).trans q2
          replace q3 := (hb2.cell (p := ⟨g1, o1 + k * 4 + 2, none⟩) hg2).trans q3
          replace q4 := (hb2.cell (p := ⟨g1, o1 + k * 4 + 3, none⟩) hg2).trans q4
          have hC2 := HC.out w2 hb2
          replace hg2 : g1 < w2.heap.size := Nat.lt_of_lt_of_le hg2 hb2.size
          clear hC' HC hb2
          go_wp2_with fail
          refine hC2.mono ?_
          rintro e w3 ⟨rfl, hb3⟩
          have HB3 := hide (HB2.out.trans (hb3.mono HB2.out.size))
          clear hC2 q1 q2 q3 q4 hb3
          go_wp2_with fail
          go_roundw
          case rel => exact ⟨k + 1, by omega, by go_num, by rw [hM2.out], hO2.out, HB3.out⟩
          case measure => simp [intOf]; omega
    · obtain rfl : k = m := by omega
      have hr := HR.out
      rw [HOV.out] at hr
      generalize modelsN l k = d at *
      clear HR HP HV HVAR HL HOV
      by_cases h1 : p = 1
      · subst h1
        obtain rfl : r = ((d : Int) == 0) := by rw [hr]; by_cases e : d = 0 <;> simp [e]
        clear hr
        go_wp2_with fail
        go_ret
        exact ⟨rfl, HB.out⟩
      · rw [if_neg h1] at hr
        have h1' : (p == 1) = false := by simpa using h1
        by_cases h2 : 1 < p
        · by_cases h0 : d = 0
          · subst h0
            obtain rfl : r = false := by rw [hr]; simp [h2]
            clear hr
            go_wp2_with fail
            go_ret
            exact ⟨rfl, HB.out⟩
          · have hd : ((d : Int) == 0) = false := by simpa using h0
            obtain rfl : r = true := by rw [hr]; simp [h0]
            clear hr
            go_wp2_with fail
            go_ret
            exact ⟨rfl, HB.out⟩
        · obtain rfl : r = true := by rw [hr]; simp [h2]
          clear hr
          go_wp2_with fail
          go_ret
          exact ⟨rfl, HB.out⟩

end Go.Proofs.Ytcckepjpehjijaa

/-
  The document's first: whether a block is a function's first.
-/
namespace Go.Proofs.Ytcckepjpehjijaa
open Go.RowKit
set_option linter.unusedVariables false
set_option linter.unusedSimpArgs false
set_option maxRecDepth 10000

set_option maxHeartbeats 2000000 in
theorem refFirst_any (l : List InstT) (a : Option Addr) (n c m j : Nat) (w : World) (hv : InstsV w a l) (hl : l.length = n) (hn : n ≤ 140737488351232) (hj1 : 1 ≤ j) (hjm : j ≤ m) (hm : m < n) (hop : (nthI l j).1 = 248) (hno : ∀ i, j < i → i ≤ m → (nthI l i).1 ≠ 248) :
    Calls Try.prog 39 #[.slice a n c, .int .i64 m] w fun e w' => e = .returned (.bool (decide ((nthI l (j - 1)).1 = 54 ∨ (nthI l (j - 1)).1 = 55))) ∧ Below w.heap.size w w' := by
  obtain ⟨r, hr⟩ : ∃ r, r = decide ((nthI l (j - 1)).1 = 54 ∨ (nthI l (j - 1)).1 = 55) := ⟨_, rfl⟩
  rw [← hr]
  have HR := hide hr
  clear hr
  have HL := hide hl
  have HNO := hide hno
  have HV := hide hv
  clear hl hno hv
  go_enter Try.func39, Try.ntmps39
  go_wp2_with fail
  go_loopw [5] (fun i wr => ∃ k : Nat, j ≤ k ∧ k ≤ m ∧ i = .int .i64 k ∧ Below w.heap.size w wr) (fun i _ => (intOf i).toNat)
  case atStart => exact ⟨m, hjm, Nat.le_refl _, rfl, Below.refl _ _⟩
  case round =>
    obtain ⟨k, hk, hkm, rfl, hbr⟩ := hrel
    have HB := hide hbr
    obtain ⟨g1, o1, aj, cj, nj, ha, hg1, p1, p2, p3, p4, p5, p6, p7⟩ := HV.out.below hbr k (by rw [HL.out]; omega)
    obtain ⟨g2, o2, aj2, cj2, nj2, ha2, hg2, q1, q2, q3, q4, q5, q6, q7⟩ := HV.out.below hbr (j - 1) (by rw [HL.out]; omega)
    subst ha
    injection ha2 with e1
    injection e1 with e1 e2
    subst e1
    subst e2
    clear p2 p3 p4 p5 p6 p7 q2 q3 q4 q5 q6 q7 hg2 hbr
    have hk0 : (0 : Int) ≤ (k : Int) := by omega
    have hki : (k : Int) < (n : Int) := by omega
    by_cases he : k = j
    · subst he
      rw [hop] at p1
      generalize (nthI l (k - 1)).1 = y at *
      have hk1 : (k : Int) - 1 = ((k - 1 : Nat) : Int) := by omega
      have hk2 : (0 : Int) ≤ ((k - 1 : Nat) : Int) := by omega
      have hk3 : ((k - 1 : Nat) : Int) < (n : Int) := by omega
      have HRY : Hid (r = (y == 54 || y == 55)) := by rw [HR.out]; simp [Bool.decide_or]; rfl
      by_cases h54 : y = 54
      · subst h54
        obtain rfl : r = true := by rw [HRY.out]; rfl
        go_wp2_with fail
        go_ret
        exact ⟨rfl, HB.out⟩
      · have h5 : (y == 54) = false := by simpa using h54
        obtain rfl : r = (y == 55) := by rw [HRY.out, h5]; rfl
        go_wp2_with fail
        go_ret
        exact ⟨rfl, HB.out⟩
    · have hne := HNO.out k (by omega) hkm
      generalize (nthI l k).1 = x at *
      have hxx : (x == 248) = false := by simpa using hne
      clear q1
      go_wp2_with fail
      go_roundw
      case rel => exact ⟨k - 1, by omega, by omega, by rw [show (k : Int) - 1 = ((k - 1 : Nat) : Int) by omega], HB.out⟩
      case measure => simp [intOf]; omega

end Go.Proofs.Ytcckepjpehjijaa

/-
  The document's May, of what is a part of a function.
-/
namespace Go.Proofs.Ytcckepjpehjijaa
open Go.RowKit
set_option linter.unusedVariables false
set_option linter.unusedSimpArgs false
set_option maxRecDepth 10000

set_option maxHeartbeats 8000000 in
theorem refMay_high (l : List InstT) (a : Option Addr) (n c m : Nat) (w : World) (hv : InstsV w a l) (hl : l.length = n) (hn : n ≤ 140737488351232) (hvar : VarsOk l) (hm : m < n) (p : Int) (hp : partI (nthI l m) = p) (h8 : 8 ≤ p) (hblk : aheadO l m = 248 ∨ aheadO l m = 245 ∨ aheadO l m = 59 → (nthI l (blockAt l (m - 1))).1 = 248 ∧ 1 ≤ blockAt l (m - 1)) (r : Bool) (hr : r = (!overP l p m && (!decide (modelsN l m = 0) && mayF (nthI l m).1 (aheadO l m) (firstB l (m - 1))))) :
    Calls Try.prog 29 #[.slice a n c, .int .i64 m] w fun e w' => e = .returned (.bool r) ∧ Below w.heap.size w w' := by
  have HL := hide hl
  have HV := hide hv
  have HR := hide hr
  have HBLK := hide hblk
  clear hblk
  have HFI : Hid (0 < m → (aheadO l m = 248 ∨ aheadO l m = 245 ∨ aheadO l m = 59) → ∀ wx, Below w.heap.size w wx → Calls Try.prog 39 #[.slice a n c, .int .i64 ((m - 1 : Nat) : Int)] wx fun e w' => e = .returned (.bool (firstB l (m - 1))) ∧ Below wx.heap.size wx w') := fun hm0 hah wx hb => refFirst_any l a n c (m - 1) (blockAt l (m - 1)) wx (hv.below hb) hl hn (HBLK.out hah).2 (blockAt_le l _) (by omega) (HBLK.out hah).1 (blockAt_no l _)
  have HVAR := hide hvar
  have HP : Hid (∀ (k : Nat) (wx : World), k < n → Below w.heap.size w wx → ∃ b off aj cj nj, a = some ⟨b, off, none⟩ ∧ b < wx.heap.size ∧ wx.cell? ⟨b, off + k * 4, none⟩ = some (.int .u16 (nthI l k).1) ∧ wx.cell? ⟨b, off + k * 4 + 1, none⟩ = some (.int .u32 (nthI l k).2.1) ∧ wx.cell? ⟨b, off + k * 4 + 2, none⟩ = some (.int .u32 (nthI l k).2.2.1) ∧ wx.cell? ⟨b, off + k * 4 + 3, none⟩ = some (.slice aj nj cj) ∧
      ∀ wy, Below wx.heap.size wx wy → Calls Try.prog 30 #[.agg #[.int .u16 (nthI l k).1, .int .u32 (nthI l k).2.1, .int .u32 (nthI l k).2.2.1, .slice aj nj cj]] wy fun e w' => e = .returned (.int .i64 (partI (nthI l k))) ∧ Below wy.heap.size wy w') := by
    intro k wx hk hb
    obtain ⟨g1, o1, aj, cj, nj, ha, hg1, p1, p2, p3, p4, p5, p6, p7⟩ := HV.out.below hb k (by rw [HL.out]; exact hk)
    refine ⟨g1, o1, aj, cj, nj, ha, hg1, p1, p2, p3, p4, fun wy hy => ?_⟩
    have := refPart_any (nthI l k) aj nj cj wy (p6.below hy) p5 (fun e => by rw [← p5]; exact HVAR.out k (by rw [HL.out]; exact hk) e)
    unfold instV at this
    exact this
  clear hl hv hr hvar
  obtain ⟨g1, o1, aj, cj, nj, ha, hg1, p1, p2, p3, p4, hC⟩ := HP.out m w hm (Below.refl _ _)
  subst ha
  rw [hp] at hC
  have hm0 : (0 : Int) ≤ (m : Int) := by omega
  have hmi : (m : Int) < (n : Int) := by omega
  have hC' := hC w (Below.refl _ _)
  clear hC
  go_enter Try.func29, Try.ntmps29
  go_wp2_with fail
  refine hC'.mono ?_
  rintro e w1 ⟨rfl, hb1⟩
  have HB1 := hide hb1
  clear hC' p1 p2 p3 p4 hb1
  go_wp2_with fail
  go_loopw [6, 7] (fun d i wr => ∃ k : Nat, k ≤ m ∧ i = .int .i64 k ∧ d = .int .i64 (modelsN l k) ∧ overP l p k = false ∧ Below w.heap.size w wr) (fun _ i _ => m - (intOf i).toNat)
  case atStart => exact ⟨0, Nat.zero_le _, rfl, rfl, rfl, HB1.out⟩
  case round =>
    obtain ⟨k, hk, rfl, rfl, hov, hbr⟩ := hrel
    have HOV := hide hov
    have HB := hide hbr
    have hml := modelsN_le l k
    clear hov
    by_cases hlt : k < m
    · have hk0 : (0 : Int) ≤ (k : Int) := by omega
      have hki : (k : Int) < (n : Int) := by omega
      have hkm : (k : Int) < (m : Int) := by omega
      obtain ⟨g2, o2, aj2, cj2, nj2, ha2, hg2, q1, q2, q3, q4, hC⟩ := HP.out k wr (by omega) hbr
      injection ha2 with e1
      injection e1 with e1 e2
      subst e1
      subst e2
      have HC := hide hC
      clear hC hbr
      have hMn : Hid (modelsN l (k + 1) = modelsN l k + (if partI (nthI l k) = 1 then 1 else 0)) := rfl
      have hOn : Hid (overP l p (k + 1) = (overP l p k || decide (p < partI (nthI l k)))) := rfl
      have hOa : Hid (p < partI (nthI l k) → overP l p m = true) := fun h => overP_at hlt h
      generalize modelsN l k = d at *
      generalize hq : partI (nthI l k) = q at *
      have hC' := HC.out wr (Below.refl _ _)
      by_cases hpq : p < q
      · obtain rfl : r = false := by rw [HR.out, hOa.out hpq]; rfl
        clear hOn hMn hOa HR HP
        go_wp2_with fail
        refine hC'.mono ?_
        rintro e w2 ⟨rfl, hb2⟩
        have HB2 := hide (HB.out.trans (hb2.mono HB.out.size))
        clear hC' HC q1 q2 q3 q4 hb2
        go_wp2_with fail
        go_ret
        exact ⟨rfl, HB2.out⟩
      · have hO2 := hide (show overP l p (k + 1) = false by rw [hOn.out, HOV.out]; simpa using hpq)
        clear hOn hOa
        by_cases hq1 : q = 1
        · have hM2 := hide (show modelsN l (k + 1) = d + 1 by rw [hMn.out, if_pos hq1])
          have hqq : (q == 1) = true := by simpa using hq1
          clear hMn
          go_wp2_with fail
          refine hC'.mono ?_
          rintro e w2 ⟨rfl, hb2⟩
          have HB2 := hide (HB.out.trans (hb2.mono HB.out.size))
          replace q1 := (hb2.cell (p := ⟨g1, o1 + k * 4, none⟩) hg2).trans q1
          replace q2 := (hb2.cell (p := ⟨g1, o1 + k * 4 + 1, none⟩) hg2).trans q2
          replace q3 := (hb2.cell (p := ⟨g1, o1 + k * 4 + 2, none⟩) hg2).trans q3
          replace q4 := (hb2.cell (p := ⟨g1, o1 + k * 4 + 3, none⟩) hg2).trans q4
          have hC2 := HC.out w2 hb2
          replace hg2 : g1 < w2.heap.size := Nat.lt_of_lt_of_le hg2 hb2.size
          clear hC' HC hb2
          go_wp2_with fail
          refine hC2.mono ?_
          rintro e w3 ⟨rfl, hb3⟩
          have HB3 := hide (HB2.out.trans (hb3.mono HB2.out.size))
          clear hC2 q1 q2 q3 q4 hb3
          go_wp2_with fail
          go_roundw
          case rel => exact ⟨k + 1, by omega, by go_num, by rw [hM2.out]; go_num, hO2.out, HB3.out⟩
          case measure => simp [intOf]; omega
        · have hM2 := hide (show modelsN l (k + 1) = d by rw [hMn.out, if_neg hq1]; rfl)
          have hqq : (q == 1) = false := by simpa using hq1
          clear hMn
          go_wp2_with fail
          refine hC'.mono ?_
          rintro e w2 ⟨rfl, hb2⟩
          have HB2 := hide (HB.out.trans (hb2.mono HB.out.size))
          replace q1 := (hb2.cell (p := ⟨g1, o1 + k * 4, none⟩) hg2).trans q1
          replace q2 := (hb2.cell (p := ⟨g1, o1 + k * 4 + 1, none⟩) hg2).trans q2
          replace q3 := (hb2.cell (p := ⟨g1, o1 + k * 4 + 2, none⟩) hg2).trans q3
          replace q4 := (hb2.cell (p := ⟨g1, o1 + k * 4 + 3, none⟩) hg2).trans q4
          have hC2 := HC.out w2 hb2
          replace hg2 : g1 < w2.heap.size := Nat.lt_of_lt_of_le hg2 hb2.size
          clear hC' HC hb2
          go_wp2_with fail
          refine hC2.mono ?_
          rintro e w3 ⟨rfl, hb3⟩
          have HB3 := hide (HB2.out.trans (hb3.mono HB2.out.size))
          clear hC2 q1 q2 q3 q4 hb3
          go_wp2_with fail
          go_roundw
          case rel => exact ⟨k + 1, by omega, by go_num, by rw [hM2.out], hO2.out, HB3.out⟩
          case measure => simp [intOf]; omega
    · obtain rfl : k = m := by omega
      have hr := HR.out
      rw [HOV.out] at hr
      generalize modelsN l k = d at *
      clear HR HOV
      have h1' : (p == 1) = false := by simpa using (show p ≠ 1 by omega)
      have h2 : 1 < p := by omega
      have h9 : ¬ p < 8 := by omega
      by_cases h0 : d = 0
      · subst h0
        obtain rfl : r = false := by rw [hr]; simp
        clear hr HP HV HFI
        go_wp2_with fail
        go_ret
        exact ⟨rfl, HB.out⟩
      · have hd : ((d : Int) == 0) = false := by simpa using h0
        have HRT := hide (show r = mayF (nthI l k).1 (aheadO l k) (firstB l (k - 1)) by rw [hr]; simp [h0])
        clear hr
        obtain ⟨g2, o2, aj2, cj2, nj2, ha2, hg2, q1, q2, q3, q4, _⟩ := HP.out k wr (by omega) hbr
        injection ha2 with e1
        injection e1 with e1 e2
        subst e1
        subst e2
        clear q2 q3 q4
        generalize hop : (nthI l k).1 = op at *
        have hkp : 0 < k := by omega
        have hk1 : (k : Int) - 1 = ((k - 1 : Nat) : Int) := by omega
        have hk2 : (0 : Int) ≤ ((k - 1 : Nat) : Int) := by omega
        have hk3 : ((k - 1 : Nat) : Int) < (n : Int) := by omega
        have hk4 : (0 : Int) < (k : Int) := by omega
        obtain ⟨g2, o2, aj3, cj3, nj3, ha2, _, y1, y2, y3, y4, hC⟩ := HP.out (k - 1) wr (by omega) hbr
        injection ha2 with e1
        injection e1 with e1 e2
        subst e1
        subst e2
        have hC' := hC wr (Below.refl _ _)
        have hAE : Hid (aheadO l k = if partI (nthI l (k - 1)) = 8 then (nthI l (k - 1)).1 else 0) := hide (by unfold aheadO; simp [hkp])
        have HFJ := hide (HFI.out hkp)
        clear hC HFI HBLK HP HV HL HVAR hop
        generalize firstB l (k - 1) = fs at *
        generalize hq : partI (nthI l (k - 1)) = q at *
        generalize nthI l (k - 1) = z at *
        generalize aheadO l k = ah at *
        go_wp2_with fail
        refine hC'.mono ?_
        rintro e w2 ⟨rfl, hb2⟩
        have HB2 := hide (hbr.trans (hb2.mono hbr.size))
        replace y1 := (hb2.cell (p := ⟨g1, o1 + (k - 1) * 4, none⟩) hg2).trans y1
        replace hg2 : g1 < w2.heap.size := Nat.lt_of_lt_of_le hg2 hb2.size
        clear hC' hb2 y2 y3 y4 q1
        by_cases hq8 : q = 8
        · have hqq : (q == 8) = true := by simpa using hq8
          obtain rfl : ah = z.1 := by rw [hAE.out, if_pos hq8]
          clear hAE
          generalize z.1 = ah at *
          by_cases c54 : op = 54
          · subst c54
            by_cases a0 : ah = 0
            · subst a0
              obtain rfl : r = true := by rw [HRT.out]; rfl
              clear HRT HFJ
              go_wp2_with fail
              go_ret
              exact ⟨rfl, HB2.out⟩
            · have a0' : (ah == 0) = false := by simpa using a0
              obtain rfl : r = (ah == 56) := by rw [HRT.out]; simp [mayF, a0]
              clear HRT HFJ
              go_wp2_with fail
              go_ret
              exact ⟨rfl, HB2.out⟩
          have c54' : (op == 54) = false := by simpa using c54
          by_cases c55 : op = 55
          · subst c55
            by_cases a54 : ah = 54
            · subst a54
              obtain rfl : r = true := by rw [HRT.out]; rfl
              clear HRT HFJ
              go_wp2_with fail
              go_ret
              exact ⟨rfl, HB2.out⟩
            · have a54' : (ah == 54) = false := by simpa using a54
              obtain rfl : r = (ah == 55) := by rw [HRT.out]; simp [mayF, a54]
              clear HRT HFJ
              go_wp2_with fail
              go_ret
              exact ⟨rfl, HB2.out⟩
          have c55' : (op == 55) = false := by simpa using c55
          by_cases c248 : op = 248
          · subst c248
            by_cases a54 : ah = 54
            · subst a54
              obtain rfl : r = true := by rw [HRT.out]; rfl
              clear HRT HFJ
              go_wp2_with fail
              go_ret
              exact ⟨rfl, HB2.out⟩
            have a54' : (ah == 54) = false := by simpa using a54
            by_cases a55 : ah = 55
            · subst a55
              obtain rfl : r = true := by rw [HRT.out]; rfl
              clear HRT HFJ
              go_wp2_with fail
              go_ret
              exact ⟨rfl, HB2.out⟩
            have a55' : (ah == 55) = false := by simpa using a55
            obtain rfl : r = endsB ah := by rw [HRT.out]; simp [mayF, a54, a55]
            clear HRT HFJ
            go_wp2_with fail
            refine (refEnds_any _ w2).mono ?_
            rintro e w3 ⟨rfl, rfl⟩
            go_wp2_with fail
            go_ret
            exact ⟨rfl, HB2.out⟩
          have c248' : (op == 248) = false := by simpa using c248
          by_cases c56 : op = 56
          · subst c56
            obtain rfl : r = endsB ah := by rw [HRT.out]; rfl
            clear HRT HFJ
            go_wp2_with fail
            refine (refEnds_any _ w2).mono ?_
            rintro e w3 ⟨rfl, rfl⟩
            go_wp2_with fail
            go_ret
            exact ⟨rfl, HB2.out⟩
          have c56' : (op == 56) = false := by simpa using c56
          by_cases a0 : ah = 0
          · subst a0
            obtain rfl : r = false := by rw [HRT.out]; simp [mayF, c54, c55, c248, c56]
            clear HRT HFJ
            go_wp2_with fail
            go_ret
            exact ⟨rfl, HB2.out⟩
          have a0' : (ah == 0) = false := by simpa using a0
          by_cases a54 : ah = 54
          · subst a54
            obtain rfl : r = false := by rw [HRT.out]; simp [mayF, c54, c55, c248, c56]
            clear HRT HFJ
            go_wp2_with fail
            go_ret
            exact ⟨rfl, HB2.out⟩
          have a54' : (ah == 54) = false := by simpa using a54
          by_cases a55 : ah = 55
          · subst a55
            obtain rfl : r = false := by rw [HRT.out]; simp [mayF, c54, c55, c248, c56]
            clear HRT HFJ
            go_wp2_with fail
            go_ret
            exact ⟨rfl, HB2.out⟩
          have a55' : (ah == 55) = false := by simpa using a55
          by_cases a56 : ah = 56
          · subst a56
            obtain rfl : r = false := by rw [HRT.out]; simp [mayF, c54, c55, c248, c56]
            clear HRT HFJ
            go_wp2_with fail
            go_ret
            exact ⟨rfl, HB2.out⟩
          have a56' : (ah == 56) = false := by simpa using a56
          cases hE : endsB ah with
          | true =>
            obtain rfl : r = false := by rw [HRT.out]; simp [mayF, c54, c55, c248, c56, hE]
            clear HRT HFJ
            go_wp2_with fail
            refine (refEnds_any _ w2).mono ?_
            rintro e w3 ⟨rfl, rfl⟩
            rw [hE]
            go_wp2_with fail
            go_ret
            exact ⟨rfl, HB2.out⟩
          | false =>
            by_cases c245 : op = 245
            · subst c245
              by_cases b248 : ah = 248
              · subst b248
                obtain rfl : r = !fs := by rw [HRT.out]; simp [mayF, hE]
                have HF := hide (HFJ.out (by omega) _ HB2.out)
                clear HRT HFJ
                have HE := hide hE
                clear hE
                go_wp2_with fail
                refine (refEnds_any _ w2).mono ?_
                rintro e w3 ⟨rfl, rfl⟩
                rw [HE.out]
                go_wp2_with fail
                refine HF.out.mono ?_
                rintro e w4 ⟨rfl, hb4⟩
                have HB4 := hide (HB2.out.trans (hb4.mono HB2.out.size))
                clear HF hb4
                go_wp2_with fail
                go_ret
                exact ⟨rfl, HB4.out⟩
              have b248' : (ah == 248) = false := by simpa using b248
              by_cases b245 : ah = 245
              · subst b245
                obtain rfl : r = !fs := by rw [HRT.out]; simp [mayF, hE]
                have HF := hide (HFJ.out (by omega) _ HB2.out)
                clear HRT HFJ
                have HE := hide hE
                clear hE
                go_wp2_with fail
                refine (refEnds_any _ w2).mono ?_
                rintro e w3 ⟨rfl, rfl⟩
                rw [HE.out]
                go_wp2_with fail
                refine HF.out.mono ?_
                rintro e w4 ⟨rfl, hb4⟩
                have HB4 := hide (HB2.out.trans (hb4.mono HB2.out.size))
                clear HF hb4
                go_wp2_with fail
                go_ret
                exact ⟨rfl, HB4.out⟩
              have b245' : (ah == 245) = false := by simpa using b245
              obtain rfl : r = false := by rw [HRT.out]; simp [mayF, hE, b248, b245]
              clear HRT HFJ
              have HE := hide hE
              clear hE
              go_wp2_with fail
              refine (refEnds_any _ w2).mono ?_
              rintro e w3 ⟨rfl, rfl⟩
              rw [HE.out]
              go_wp2_with fail
              go_ret
              exact ⟨rfl, HB2.out⟩
            have c245' : (op == 245) = false := by simpa using c245
            by_cases c59 : op = 59
            · subst c59
              by_cases b248 : ah = 248
              · subst b248
                obtain rfl : r = fs := by rw [HRT.out]; simp [mayF, hE]
                have HF := hide (HFJ.out (by omega) _ HB2.out)
                clear HRT HFJ
                have HE := hide hE
                clear hE
                go_wp2_with fail
                refine (refEnds_any _ w2).mono ?_
                rintro e w3 ⟨rfl, rfl⟩
                rw [HE.out]
                go_wp2_with fail
                refine HF.out.mono ?_
                rintro e w4 ⟨rfl, hb4⟩
                have HB4 := hide (HB2.out.trans (hb4.mono HB2.out.size))
                clear HF hb4
                go_wp2_with fail
                go_ret
                exact ⟨rfl, HB4.out⟩
              have b248' : (ah == 248) = false := by simpa using b248
              by_cases b59 : ah = 59
              · subst b59
                obtain rfl : r = fs := by rw [HRT.out]; simp [mayF, hE]
                have HF := hide (HFJ.out (by omega) _ HB2.out)
                clear HRT HFJ
                have HE := hide hE
                clear hE
                go_wp2_with fail
                refine (refEnds_any _ w2).mono ?_
                rintro e w3 ⟨rfl, rfl⟩
                rw [HE.out]
                go_wp2_with fail
                refine HF.out.mono ?_
                rintro e w4 ⟨rfl, hb4⟩
                have HB4 := hide (HB2.out.trans (hb4.mono HB2.out.size))
                clear HF hb4
                go_wp2_with fail
                go_ret
                exact ⟨rfl, HB4.out⟩
              have b59' : (ah == 59) = false := by simpa using b59
              obtain rfl : r = false := by rw [HRT.out]; simp [mayF, hE, b248, b59]
              clear HRT HFJ
              have HE := hide hE
              clear hE
              go_wp2_with fail
              refine (refEnds_any _ w2).mono ?_
              rintro e w3 ⟨rfl, rfl⟩
              rw [HE.out]
              go_wp2_with fail
              go_ret
              exact ⟨rfl, HB2.out⟩
            have c59' : (op == 59) = false := by simpa using c59
            by_cases b246 : ah = 246
            · subst b246
              by_cases d249 : op = 249
              · subst d249
                obtain rfl : r = true := by rw [HRT.out]; rfl
                clear HRT HFJ
                have HE := hide hE
                clear hE
                go_wp2_with fail
                refine (refEnds_any _ w2).mono ?_
                rintro e w3 ⟨rfl, rfl⟩
                rw [HE.out]
                go_wp2_with fail
                go_ret
                exact ⟨rfl, HB2.out⟩
              · have d249' : (op == 249) = false := by simpa using d249
                obtain rfl : r = (op == 250) := by rw [HRT.out]; simp [mayF, hE, c54, c55, c248, c56, c245, c59, d249]
                clear HRT HFJ
                have HE := hide hE
                clear hE
                go_wp2_with fail
                refine (refEnds_any _ w2).mono ?_
                rintro e w3 ⟨rfl, rfl⟩
                rw [HE.out]
                go_wp2_with fail
                go_ret
                exact ⟨rfl, HB2.out⟩
            have b246' : (ah == 246) = false := by simpa using b246
            by_cases b247 : ah = 247
            · subst b247
              by_cases d250 : op = 250
              · subst d250
                obtain rfl : r = true := by rw [HRT.out]; rfl
                clear HRT HFJ
                have HE := hide hE
                clear hE
                go_wp2_with fail
                refine (refEnds_any _ w2).mono ?_
                rintro e w3 ⟨rfl, rfl⟩
                rw [HE.out]
                go_wp2_with fail
                go_ret
                exact ⟨rfl, HB2.out⟩
              · have d250' : (op == 250) = false := by simpa using d250
                obtain rfl : r = (op == 251) := by rw [HRT.out]; simp [mayF, hE, c54, c55, c248, c56, c245, c59, d250]
                clear HRT HFJ
                have HE := hide hE
                clear hE
                go_wp2_with fail
                refine (refEnds_any _ w2).mono ?_
                rintro e w3 ⟨rfl, rfl⟩
                rw [HE.out]
                go_wp2_with fail
                go_ret
                exact ⟨rfl, HB2.out⟩
            have b247' : (ah == 247) = false := by simpa using b247
            obtain rfl : r = true := by rw [HRT.out]; simp [mayF, hE, c54, c55, c248, c56, c245, c59, a0, a54, a55, a56, b246, b247]
            clear HRT HFJ
            have HE := hide hE
            clear hE
            go_wp2_with fail
            refine (refEnds_any _ w2).mono ?_
            rintro e w3 ⟨rfl, rfl⟩
            rw [HE.out]
            go_wp2_with fail
            go_ret
            exact ⟨rfl, HB2.out⟩
        · have hqq : (q == 8) = false := by simpa using hq8
          obtain rfl : ah = 0 := by rw [hAE.out, if_neg hq8]
          clear hAE y1
          by_cases c54 : op = 54
          · subst c54
            obtain rfl : r = true := by rw [HRT.out]; rfl
            clear HRT HFJ
            go_wp2_with fail
            go_ret
            exact ⟨rfl, HB2.out⟩
          have c54' : (op == 54) = false := by simpa using c54
          by_cases c55 : op = 55
          · subst c55
            obtain rfl : r = false := by rw [HRT.out]; rfl
            clear HRT HFJ
            go_wp2_with fail
            go_ret
            exact ⟨rfl, HB2.out⟩
          have c55' : (op == 55) = false := by simpa using c55
          have hE : endsB 0 = false := rfl
          by_cases c248 : op = 248
          · subst c248
            obtain rfl : r = false := by rw [HRT.out]; rfl
            clear HRT HFJ
            go_wp2_with fail
            refine (refEnds_any 0 w2).mono ?_
            rintro e w3 ⟨rfl, rfl⟩
            rw [hE]
            go_wp2_with fail
            go_ret
            exact ⟨rfl, HB2.out⟩
          have c248' : (op == 248) = false := by simpa using c248
          by_cases c56 : op = 56
          · subst c56
            obtain rfl : r = false := by rw [HRT.out]; rfl
            clear HRT HFJ
            go_wp2_with fail
            refine (refEnds_any 0 w2).mono ?_
            rintro e w3 ⟨rfl, rfl⟩
            rw [hE]
            go_wp2_with fail
            go_ret
            exact ⟨rfl, HB2.out⟩
          have c56' : (op == 56) = false := by simpa using c56
          obtain rfl : r = false := by rw [HRT.out]; simp [mayF, c54, c55, c248, c56]
          clear HRT HFJ
          go_wp2_with fail
          go_ret
          exact ⟨rfl, HB2.out⟩

end Go.Proofs.Ytcckepjpehjijaa

/-
  What Letter of the document's answer returns, for every operation and number.
-/
namespace Go.Proofs.Ytcckepjpehjijaa
open Go.RowKit
set_option maxRecDepth 10000
set_option linter.unusedVariables false
set_option linter.unusedSimpArgs false

theorem ofV_look (n : Int) : ∃ m, ofV n = formV m (lookF refT n).1 := by
  unfold ofV
  cases h : (lookF refT n).2
  · rw [(lookF_false h).1]; exact ⟨0, rfl⟩
  · exact ⟨n, rfl⟩

theorem letterI_none (i : Int) : letterI noFrm i = 0 := by
  unfold letterI
  split
  · rfl
  · split
    · rename_i h1 h2
      have : (noFrm.2.2.2.1.size : Int) = 0 := rfl
      omega
    · have : mayB noFrm (i - noFrm.2.2.2.1.size) = false := rfl
      rw [this]; rfl

set_option maxRecDepth 10000 in
set_option maxHeartbeats 2000000 in
theorem refLetter_any (n i : Int) (w : World) (h1 : i < 9223372036854775808) :
    Calls Try.prog 50 #[.int .u16 n, .int .i64 i] w fun e w' => e = .returned (.int .u8 (letterI (lookF refT n).1 i)) ∧ Below w.heap.size w w' := by
  have hR := fun w => refOf_any n w
  obtain ⟨m, hm⟩ := ofV_look n
  rw [hm] at hR
  clear hm
  have hs := look_short n
  have HN : Hid ((lookF refT n).2 = false → (lookF refT n).1 = noFrm) := fun h => by rw [(lookF_false h).1]
  generalize (lookF refT n).1 = f at *
  generalize (lookF refT n).2 = is at *
  have HL : Hid (∃ x, x = letterI f i) := ⟨_, rfl⟩
  have hs2 := hs
  simp only [shortF, Bool.and_eq_true, decide_eq_true_eq] at hs
  obtain ⟨⟨⟨s1, s2⟩, s3⟩, s4⟩ := hs
  obtain ⟨nm, t, r, fx, rs, mo, pa⟩ := f
  simp only at s1 s2 s3 s4
  clear hs2 HL
  cases is
  · have HE : Hid (letterI (nm, t, r, fx, rs, mo, pa) i = 0) := by show _ = _; rw [HN.out rfl]; exact letterI_none i
    clear HN
    unfold formV at hR
    go_enter Try.func50, Try.ntmps50
    go_wp2_with fail
    refine (hR _).mono ?_
    rintro e w1 ⟨rfl, hb⟩
    clear hR
    go_wp2
    go_ret
    exact ⟨by rw [HE.out]; rfl, hb.alloc hb.size _⟩
  · clear HN
    by_cases hi : i < 0
    · have HE : Hid (letterI (nm, t, r, fx, rs, mo, pa) i = 0) := by show _ = _; unfold letterI; rw [if_pos hi]
      unfold formV at hR
      go_enter Try.func50, Try.ntmps50
      go_wp2_with fail
      refine (hR _).mono ?_
      rintro e w1 ⟨rfl, hb⟩
      clear hR
      go_wp2
      go_ret
      exact ⟨by rw [HE.out]; rfl, hb.alloc hb.size _⟩
    · have hid : decide (i < 0) = false := by simpa using hi
      obtain ⟨k, rfl⟩ := Int.eq_ofNat_of_zero_le (show 0 ≤ i by omega)
      by_cases hx : (k : Int) < fx.size
      · have HE : Hid (letterI (nm, t, r, fx, rs, mo, pa) k = sgn fx k) := by show _ = _; unfold letterI; rw [if_neg hi, if_pos hx, Int.toNat_natCast]
        have hk : k < fx.size := by omega
        have hsg := sgn_at fx k hk
        unfold formV at hR
        go_enter Try.func50, Try.ntmps50
        go_wp2_with fail
        refine (hR _).mono ?_
        rintro e w1 ⟨rfl, hb⟩
        clear hR
        go_wp2
        go_ret
        exact ⟨by rw [HE.out]; rfl, hb.alloc hb.size _⟩
      · by_cases hr : rs.size = 0
        · have HE : Hid (letterI (nm, t, r, fx, rs, mo, pa) k = 0) := by show _ = _; unfold letterI; rw [if_neg hi, if_neg hx]; simp [mayB, hr]
          have hrz : (((rs.size : Nat) : Int) == 0) = true := by simp [hr]
          have hxd : ¬ k < fx.size := by omega
          clear hr hx hi h1 s3 s4 s1 s2
          unfold formV at hR
          go_enter Try.func50, Try.ntmps50
          go_wp2_with fail
          refine (hR _).mono ?_
          rintro e w1 ⟨rfl, hb⟩
          clear hR
          go_wp2
          go_ret
          exact ⟨by rw [HE.out]; rfl, hb.alloc hb.size _⟩
        · have hrz : (((rs.size : Nat) : Int) == 0) = false := by simp [hr]
          have hr0 : (0 : Int) < (rs.size : Int) := by omega
          have hz : ¬ (rs.size : Int) = 0 := by omega
          obtain ⟨b, hb⟩ : ∃ b : Nat, (k : Int) - (fx.size : Int) = b := ⟨k - fx.size, by omega⟩
          have hw1 : IntKind.i64.wrap ((k : Int) - (fx.size : Int)) = b := by rw [hb]; exact wrapI _ (by omega) (by omega)
          have hbl : (b : Int) < 9223372036854775808 := by omega
          have ht : Int.tdiv (b : Int) (rs.size : Int) = (b : Int) / (rs.size : Int) := Int.tdiv_eq_ediv_of_nonneg (by omega)
          have hq0 : 0 ≤ (b : Int) / (rs.size : Int) := Int.ediv_nonneg (by omega) (by omega)
          have hq1 : (b : Int) / (rs.size : Int) ≤ b := Int.ediv_le_self _ (by omega)
          have hw : IntKind.i64.wrap ((b : Int) / (rs.size : Int)) = (b : Int) / (rs.size : Int) := wrapI _ (by omega) (by omega)
          have HM : Hid (mayB (nm, t, r, fx, rs, mo, pa) b = if mo = 0 then true else decide ((b : Int) / (rs.size : Int) < mo)) := by show _ = _; simp [mayB, hr]
          have tm : Int.tmod (b : Int) (rs.size : Int) = (b : Int) % (rs.size : Int) := Int.tmod_eq_emod_of_nonneg (by omega)
          have m0 : 0 ≤ (b : Int) % (rs.size : Int) := Int.emod_nonneg _ hz
          have m1 : (b : Int) % (rs.size : Int) < (rs.size : Int) := Int.emod_lt_of_pos _ hr0
          have hw2 : IntKind.i64.wrap ((b : Int) % (rs.size : Int)) = (b : Int) % (rs.size : Int) := wrapI _ (by omega) (by omega)
          have HE : Hid (letterI (nm, t, r, fx, rs, mo, pa) k = if mayB (nm, t, r, fx, rs, mo, pa) b then sgn rs ((b : Int) % (rs.size : Int)).toNat else 0) := by show _ = _; unfold letterI; rw [if_neg hi, if_neg hx]; simp only [hb]
          by_cases hc : mo > 0 ∧ (b : Int) / (rs.size : Int) ≥ mo
          · have HF : Hid (letterI (nm, t, r, fx, rs, mo, pa) k = 0) := by show _ = _; rw [HE.out, HM.out, if_neg (show ¬ mo = 0 by omega), decide_eq_false (by omega)]; rfl
            clear HE HM tm m0 m1 hw2 hb
            have hxd : ¬ k < fx.size := by omega
            obtain ⟨hc1, hc2⟩ := hc
            clear hx hi hr h1 hbl s1 s2 hq1
            have g1 : decide (mo > 0) = true := by simpa using hc1
            have g2 : decide (mo ≤ (b : Int) / (rs.size : Int)) = true := by simpa using hc2
            unfold formV at hR
            go_enter Try.func50, Try.ntmps50
            go_wp2_with fail
            refine (hR _).mono ?_
            rintro e w1 ⟨rfl, hb⟩
            clear hR
            go_wp2
            go_quiet (fail)
            go_wp2
            go_ret
            exact ⟨by rw [HF.out]; rfl, bel_drewN (hb.alloc hb.size _) _⟩
          · have hmb : mayB (nm, t, r, fx, rs, mo, pa) b = true := by
              rw [HM.out]
              split
              · rfl
              · exact decide_eq_true (by omega)
            obtain ⟨j, hj⟩ := Int.eq_ofNat_of_zero_le m0
            have HF : Hid (letterI (nm, t, r, fx, rs, mo, pa) k = sgn rs j) := by show _ = _; rw [HE.out, hmb, if_pos rfl, hj]; rfl
            rw [hj] at tm hw2
            have hjl : j < rs.size := by omega
            have hsg := sgn_at rs j hjl
            have hxd : ¬ k < fx.size := by omega
            clear HE HM hmb hb hj m0 m1
            by_cases g1 : mo > 0
            · have g2 : decide (mo ≤ (b : Int) / (rs.size : Int)) = false := decide_eq_false (by omega)
              have g1' : decide (mo > 0) = true := decide_eq_true g1
              clear hx hi hr h1 hbl s1 s2 hq1 hc g1
              unfold formV at hR
              go_enter Try.func50, Try.ntmps50
              go_wp2_with fail
              refine (hR _).mono ?_
              rintro e w1 ⟨rfl, hb⟩
              clear hR
              go_wp2
              go_quiet (fail)
              go_wp2
              go_quiet (fail)
              go_wp2
              go_ret
              exact ⟨by rw [HF.out]; rfl, bel_drewN (bel_drewN (hb.alloc hb.size _) _) _⟩
            · have g1' : decide (mo > 0) = false := decide_eq_false g1
              clear hx hi hr h1 hbl s1 s2 hq1 hc g1 s3 s4
              unfold formV at hR
              go_enter Try.func50, Try.ntmps50
              go_wp2_with fail
              refine (hR _).mono ?_
              rintro e w1 ⟨rfl, hb⟩
              clear hR
              go_wp2
              go_quiet (fail)
              go_wp2
              go_quiet (fail)
              go_wp2
              go_ret
              exact ⟨by rw [HF.out]; rfl, bel_drewN (bel_drewN (hb.alloc hb.size _) _) _⟩

end Go.Proofs.Ytcckepjpehjijaa

/-
  What Wrong of the document's answer returns: what is wrong with an argument that stands where a letter is.
-/
namespace Go.Proofs.Ytcckepjpehjijaa
open Go.RowKit
set_option linter.unusedVariables false
set_option linter.unusedSimpArgs false
set_option maxRecDepth 10000

theorem wrongA_eq (c : Int) (x : ArgT) (b : Int) : wrongA c x b = if mayStandB c x = false then 42 else if x.1 = 1 ∧ noneB x.2.1 b = true then 43 else if x.1 = 4 ∧ enumB c x.2.1 = false then 31 else if nulS x.2.2 then 13 else 0 := by
  unfold wrongA
  by_cases hm : mayStandB c x = false
  · simp [hm]
  · have hk : kindI c = x.1 := by simp [mayStandB] at hm; exact hm.2.1.symm
    unfold faultW
    rw [hk, if_neg hm, if_neg hm]
    by_cases h3 : x.1 = 3
    · simp [h3]
    · have hs : x.2.2 = ByteArray.empty := by simp [mayStandB, h3] at hm; exact hm.2.2
      have hn : nulS x.2.2 = false := by rw [hs]; rfl
      by_cases h1 : x.1 = 1
      · cases hb : noneB x.2.1 b <;> simp [h1, hn]
      · by_cases h4 : x.1 = 4
        · cases hb : enumB c x.2.1 <;> simp [h4, hn]
        · simp [h1, h3, h4, hn]

theorem nul_first {s : ByteArray} {k : Nat} (hk : k < s.size) (h : (s[k].toNat : Int) = 0) : nulS s = true := by
  cases e : nulS s with
  | true => rfl
  | false => exact absurd (by rw [nth_strI s k hk]; exact h) ((nulS_false.1 e) k hk)
theorem nul_not {s : ByteArray} (h : ∀ j, (hj : j < s.size) → (s[j].toNat : Int) ≠ 0) : nulS s = false := nulS_false.2 fun k hk => by rw [nth_strI s k hk]; exact h k hk

set_option maxHeartbeats 4000000 in
theorem refWrong4_any (c : Int) (x : ArgT) (b : Int) (w : World) (hok : ArgOk x) (b0 : 0 ≤ b) (b1 : b < 4294967296) :
    Calls Try.prog 49 #[.int .u8 c, argV x, .int .u32 b] w fun e w' => e = .returned (.int .i64 (wrongA c x b)) ∧ Below w.heap.size w w' := by
  obtain ⟨R, hR⟩ : ∃ R, R = wrongA c x b := ⟨_, rfl⟩
  rw [← hR]
  rw [wrongA_eq] at hR
  obtain ⟨x1, x2, x3⟩ := x
  simp only at hR
  have HR := hide hR
  clear hR
  obtain ⟨g0, g1, g2, g3, g4⟩ := hok
  simp only at g0 g1 g2 g3 g4
  have hNo := fun wx => none_any x2 b wx g2 g3 b0 b1
  have hEn := fun wx => refEnum_any c x2 wx
  unfold argV
  simp only
  have hba : Below w.heap.size w (w.alloc (.cells #[.int .u8 x1, .int .u32 x2, .string x3] 54)) := (Below.refl _ w).alloc (Nat.le_refl _) _
  have kB : (w.alloc (.cells #[.int .u8 x1, .int .u32 x2, .string x3] 54)).heap[w.heap.size]? = some (.cells #[.int .u8 x1, .int .u32 x2, .string x3] 54 (0, 0)) := alloc_new w _ _
  have hsz : w.heap.size < (w.alloc (.cells #[.int .u8 x1, .int .u32 x2, .string x3] 54)).heap.size := by simp
  have hKd := fun wx => refKind_any c wx
  go_enter Try.func49, Try.ntmps49
  go_wp2_with fail
  generalize w.alloc (.cells #[.int .u8 x1, .int .u32 x2, .string x3] 54) = W at *
  have a0 := fun s : InC (Below W.heap.size W) => s.cell (p := ⟨w.heap.size, 0, none⟩) hsz ((one_block kB).1 0)
  have hK := fun s : InC (Below W.heap.size W) => Calls.inC s (hKd s.w)
  have hne : Nonempty (InC (Below W.heap.size W)) := ⟨⟨W, Below.refl _ _⟩⟩
  have hbl := below_drew W
  clear hKd g0 g1 g2 g3 b0 b1
  by_cases h0 : c = 0
  · subst h0
    refine wp_region_class (C := Below W.heap.size W) (by kernel_rfl) (by kernel_rfl) hbl ?_
    repeat (go_big_quiet_step (fail))
    refine wpQuiet_nil ?_
    rintro _ ⟨s, rfl⟩
    have hfin := hba.trans (s.ok.mono (by omega))
    clear hne hK a0 hNo hEn
    go_wp2
    go_ret
    exact ⟨by rw [HR.out, if_pos (by simp [mayStandB])]; rfl, hfin⟩
  · have h0' : (c == 0) = false := by simpa using h0
    by_cases hk : x1 = kindI c
    · have hk' : (x1 != kindI c) = false := by simp [hk]
      refine wp_region_class (C := Below W.heap.size W) (by kernel_rfl) (by kernel_rfl) hbl ?_
      repeat (go_big_quiet_step ((go_at_call 59; exact hK _)))
      refine wpQuiet_nil ?_
      rintro _ ⟨s, rfl⟩
      have hb1 := hba.trans (s.ok.mono (by omega))
      have kB1 := (s.ok.block _ hsz).trans kB
      have hs1 : w.heap.size < s.w.heap.size := Nat.lt_of_lt_of_le hsz s.ok.size
      clear hne hK a0 hba kB hsz hbl
      generalize s.w = W1 at *
      have c0 := (one_block kB1).1 0
      have c1 := (one_block kB1).1 1
      have c2 := (one_block kB1).1 2
      have HM := hide (show mayStandB c (x1, x2, x3) = (if x1 = 3 then x2 == 0 else x3.size == 0) by simp [mayStandB, h0, hk])
      have hemp := empty_size x3
      clear hk hk' h0 h0' kB1
      by_cases h3 : x1 = 3
      · subst h3
        by_cases h2 : x2 = 0
        · subst h2
          go_wp2_with fail
          refine (hEn _).mono ?_
          rintro e w2 ⟨rfl, hb2⟩
          have k0 := hb2.cell (p := ⟨w.heap.size, 0, none⟩) hs1
          rw [c0] at k0
          have k2 := hb2.cell (p := ⟨w.heap.size, 2, none⟩) hs1
          rw [c2] at k2
          have hb := hb1.trans (hb2.mono (by omega))
          clear c0 c1 c2 hb2 hb1 hNo hEn
          go_wp2
          go_loop [9] (fun i => ∃ k : Nat, k ≤ x3.size ∧ i = .int .i64 k ∧ Hid (∀ j, (hj : j < x3.size) → j < k → (x3[j].toNat : Int) ≠ 0)) (fun i => x3.size - (intOf i).toNat)
          case atStart => exact ⟨0, Nat.zero_le _, rfl, fun j hj h => by omega⟩
          case round =>
            obtain ⟨k, hkk, rfl, HJ⟩ := hrel
            by_cases hlt : k < x3.size
            · have hki : (k : Int) < (x3.size : Int) := by omega
              have hk0 : (0 : Int) ≤ (k : Int) := by omega
              by_cases hn : (x3[k].toNat : Int) = 0
              · have hn' : ((x3[k].toNat : Int) == 0) = true := by simpa using hn
                go_wp2
                go_ret
                exact ⟨by rw [HR.out, HM.out]; simp [nul_first hlt hn], hb⟩
              · have hn' : ((x3[k].toNat : Int) == 0) = false := by simpa using hn
                go_wp2
                go_round
                case rel => exact ⟨k + 1, by omega, by go_num, fun j hj h => if e : j = k then (by subst e; exact hn) else HJ.out j hj (by omega)⟩
                case measure => simp [intOf]; omega
            · obtain rfl : k = x3.size := by omega
              go_wp2
              go_ret
              exact ⟨by rw [HR.out, HM.out]; simp [nul_not fun j hj => HJ.out j hj hj], hb⟩
        · have h2' : (x2 != 0) = true := by simp [h2]
          go_wp2
          go_ret
          exact ⟨by rw [HR.out, HM.out]; simp [h2], hb1⟩
      · have h3' : (x1 == 3) = false := by simpa using h3
        have h3n : (x1 != 3) = true := by simp [h3]
        by_cases hz : x3.size = 0
        · obtain rfl := size_zero hz
          have hm : mayStandB c (x1, x2, ⟨#[]⟩) = true := by rw [HM.out, if_neg h3]; rfl
          by_cases h1 : x1 = 1
          · subst h1
            cases hnb : noneB x2 b
            · rw [hnb] at hNo
              go_wp2_with (go_at_call 60; refine (hNo _).mono ?_; rintro e w' ⟨rfl, rfl⟩)
              refine (hEn _).mono ?_
              rintro e w2 ⟨rfl, hb2⟩
              have k0 := hb2.cell (p := ⟨w.heap.size, 0, none⟩) hs1
              rw [c0] at k0
              have k2 := hb2.cell (p := ⟨w.heap.size, 2, none⟩) hs1
              rw [c2] at k2
              have hb := hb1.trans (hb2.mono (by omega))
              clear c0 c1 c2 hb2 hb1 hNo hEn
              go_wp2
              go_loop [9] (fun i => i = .int .i64 0) (fun i => 0)
              case atStart => rfl
              case round =>
                subst hrel
                go_wp2
                go_ret
                exact ⟨by rw [HR.out]; simp [hm, hnb, nulS_empty], hb⟩
            · rw [hnb] at hNo
              go_wp2_with (go_at_call 60; refine (hNo _).mono ?_; rintro e w' ⟨rfl, rfl⟩)
              go_ret
              exact ⟨by rw [HR.out]; simp [hm, hnb], hb1⟩
          · have h1' : (x1 == 1) = false := by simpa using h1
            by_cases h4 : x1 = 4
            · subst h4
              cases heb : enumB c x2
              · rw [heb] at hEn
                go_wp2_with fail
                refine (hEn _).mono ?_
                rintro e w2 ⟨rfl, hb2⟩
                have kk := hb2.cell (p := ⟨w.heap.size, 0, none⟩) hs1
                rw [c0] at kk
                have hb := hb1.trans (hb2.mono (by omega))
                clear c0 c1 c2 hb2
                go_wp2
                go_ret
                exact ⟨by rw [HR.out]; simp [hm, heb], hb⟩
              · rw [heb] at hEn
                go_wp2_with fail
                refine (hEn _).mono ?_
                rintro e w2 ⟨rfl, hb2⟩
                have k0 := hb2.cell (p := ⟨w.heap.size, 0, none⟩) hs1
                rw [c0] at k0
                have k2 := hb2.cell (p := ⟨w.heap.size, 2, none⟩) hs1
                rw [c2] at k2
                have hb := hb1.trans (hb2.mono (by omega))
                clear c0 c1 c2 hb2 hb1 hNo hEn
                go_wp2
                go_loop [9] (fun i => i = .int .i64 0) (fun i => 0)
                case atStart => rfl
                case round =>
                  subst hrel
                  go_wp2
                  go_ret
                  exact ⟨by rw [HR.out]; simp [hm, heb, nulS_empty], hb⟩
            · have h4' : (x1 == 4) = false := by simpa using h4
              go_wp2_with fail
              refine (hEn _).mono ?_
              rintro e w2 ⟨rfl, hb2⟩
              have k0 := hb2.cell (p := ⟨w.heap.size, 0, none⟩) hs1
              rw [c0] at k0
              have k2 := hb2.cell (p := ⟨w.heap.size, 2, none⟩) hs1
              rw [c2] at k2
              have hb := hb1.trans (hb2.mono (by omega))
              clear c0 c1 c2 hb2 hb1 hNo hEn
              go_wp2
              go_loop [9] (fun i => i = .int .i64 0) (fun i => 0)
              case atStart => rfl
              case round =>
                subst hrel
                go_wp2
                go_ret
                exact ⟨by rw [HR.out]; simp [hm, h1, h4, nulS_empty], hb⟩
        · have hz' : (x3.size == 0) = false := by simpa using hz
          go_wp2
          go_ret
          exact ⟨by rw [HR.out, HM.out]; simp [h3, hz], hb1⟩
    · have hk' : (x1 != kindI c) = true := by simp [hk]
      refine wp_region_class (C := Below W.heap.size W) (by kernel_rfl) (by kernel_rfl) hbl ?_
      repeat (go_big_quiet_step ((go_at_call 59; exact hK _)))
      refine wpQuiet_nil ?_
      rintro _ ⟨s, rfl⟩
      have hfin := hba.trans (s.ok.mono (by omega))
      clear hne hK a0 hNo hEn
      go_wp2
      go_ret
      exact ⟨by rw [HR.out, if_pos (by simp [mayStandB, hk])]; rfl, hfin⟩

end Go.Proofs.Ytcckepjpehjijaa

/-
  What Split of the document's answer returns, for every list of bytes: its error, and its words in new memory; nothing that was there has turned.
-/
namespace Go.Proofs.Ytcckepjpehjijaa
open Go.RowKit
set_option maxRecDepth 10000

theorem RefSplit.info : (Try.prog.info? 22).map (fun i => (i.zero, i.size, i.bytes)) = some (some (.int .u32 0), 1, 4) := by kernel_rfl

end Go.Proofs.Ytcckepjpehjijaa

/-
  What OfText of the document's answer returns, for every string: its error, or its words in new memory; nothing that was there has turned.
-/
namespace Go.Proofs.Ytcckepjpehjijaa
open Go.RowKit
set_option maxRecDepth 10000

theorem RefOfText.info : (Try.prog.info? 5).map (fun i => (i.zero, i.size, i.bytes)) = some (some (.int .u8 0), 1, 1) := by kernel_rfl

theorem refRoom_any (s : ByteArray) (w : World) (hs : s.size ≤ 140737488351232) :
    Calls Try.prog 53 #[.string s] w fun e w' => e = .returned (.int .i64 ((s.size / 4 + 1 : Nat) : Int)) ∧ w = w' := by
  go_enter Try.func53, Try.ntmps53
  go_wp2
  go_ret
  exact ⟨ret_int (by omega), rfl⟩

end Go.Proofs.Ytcckepjpehjijaa
