/-
  Texts laid together in one: Ref05May0, Ref05First, Ref05May1, Ref05Check.
-/
import Derived.WalkSpells
import Derived.WalkMore
import Derived.Test.YtjjoggpddafajaaGreatProg
import Derived.Test.YtjjoggpddafajaaGreatB08
import Derived.Test.YtjjoggpddafajaaGreatB09
import Derived.Test.YtjjoggpddafajaaGreatB23
import Derived.BigRegion
import Derived.Test.YtjjoggpddafajaaGreatB16
import Derived.Test.YtjjoggpddafajaaGreatB21
/-
  The document's May, of what is no part of a function.
-/
namespace Go.Proofs.YtjjoggpddafajaaGreat
open Go.RowKit
set_option linter.unusedVariables false
set_option linter.unusedSimpArgs false
set_option maxRecDepth 10000

set_option maxHeartbeats 8000000 in
theorem refMay_low (l : List InstT) (a : Option Addr) (n c m : Nat) (w : World) (hv : InstsV w a l) (hl : l.length = n) (hn : n ≤ 140737488351232) (hvar : VarsOk l) (hm : m < n) (p : Int) (hp : partI (nthI l m) = p) (h8 : p < 8) (r : Bool) (hr : r = (!overP l p m && (if p = 1 then decide (modelsN l m = 0) else !(decide (1 < p) && decide (modelsN l m = 0))))) :
    Calls Tryz.prog 23 #[.slice a n c, .int .i64 m] w fun e w' => e = .returned (.bool r) ∧ Below w.heap.size w w' := by
  have HL := hide hl
  have HV := hide hv
  have HR := hide hr
  have HVAR := hide hvar
  have HP : Hid (∀ (k : Nat) (wx : World), k < n → Below w.heap.size w wx → ∃ b off aj cj nj, a = some ⟨b, off, none⟩ ∧ b < wx.heap.size ∧ wx.cell? ⟨b, off + k * 4, none⟩ = some (.int .u16 (nthI l k).1) ∧ wx.cell? ⟨b, off + k * 4 + 1, none⟩ = some (.int .u32 (nthI l k).2.1) ∧ wx.cell? ⟨b, off + k * 4 + 2, none⟩ = some (.int .u32 (nthI l k).2.2.1) ∧ wx.cell? ⟨b, off + k * 4 + 3, none⟩ = some (.slice aj nj cj) ∧
      ∀ wy, Below wx.heap.size wx wy → Calls Tryz.prog 24 #[.agg #[.int .u16 (nthI l k).1, .int .u32 (nthI l k).2.1, .int .u32 (nthI l k).2.2.1, .slice aj nj cj]] wy fun e w' => e = .returned (.int .i64 (partI (nthI l k))) ∧ Below wy.heap.size wy w') := by
    intro k wx hk hb
    obtain ⟨g1, o1, aj, cj, nj, ha, hg1, p1, p2, p3, p4, p5, p6, p7⟩ := HV.out.below hb k (by rw [HL.out]; exact hk)
    refine ⟨g1, o1, aj, cj, nj, ha, hg1, p1, p2, p3, p4, fun wy hy => ?_⟩
    have := refPart_any (nthI l k) aj nj cj wy (p6.below hy) p5 (fun e => by rw [← p5]; exact HVAR.out k (by rw [HL.out]; exact hk) e)
    unfold instV at this
    exact this
  clear hl hv hr hvar
  obtain ⟨g1, o1, aj, cj, nj, ha, hg1, p1, p2, p3, p4, hC⟩ := HP.out m w hm (Below.refl _ _)
  subst ha
  rw [hp] at hC
  have hm0 : (0 : Int) ≤ (m : Int) := by omega
  have hmi : (m : Int) < (n : Int) := by omega
  have hC' := hC w (Below.refl _ _)
  clear hC
  go_enter Tryz.func23, Tryz.ntmps23
  go_wp2_with fail
  refine hC'.mono ?_
  rintro e w1 ⟨rfl, hb1⟩
  have HB1 := hide hb1
  clear hC' p1 p2 p3 p4 hb1
  go_wp2_with fail
  go_loopw [6, 7] (fun d i wr => ∃ k : Nat, k ≤ m ∧ i = .int .i64 k ∧ d = .int .i64 (modelsN l k) ∧ overP l p k = false ∧ Below w.heap.size w wr) (fun _ i _ => m - (intOf i).toNat)
  case atStart => exact ⟨0, Nat.zero_le _, rfl, rfl, rfl, HB1.out⟩
  case round =>
    obtain ⟨k, hk, rfl, rfl, hov, hbr⟩ := hrel
    have HOV := hide hov
    have HB := hide hbr
    have hml := modelsN_le l k
    clear hov
    by_cases hlt : k < m
    · have hk0 : (0 : Int) ≤ (k : Int) := by omega
      have hki : (k : Int) < (n : Int) := by omega
      have hkm : (k : Int) < (m : Int) := by omega
      obtain ⟨g2, o2, aj2, cj2, nj2, ha2, hg2, q1, q2, q3, q4, hC⟩ := HP.out k wr (by omega) hbr
      injection ha2 with e1
      injection e1 with e1 e2
      subst e1
      subst e2
      have HC := hide hC
      clear hC hbr
      have hMn : Hid (modelsN l (k + 1) = modelsN l k + (if partI (nthI l k) = 1 then 1 else 0)) := rfl
      have hOn : Hid (overP l p (k + 1) = (overP l p k || decide (p < partI (nthI l k)))) := rfl
      have hOa : Hid (p < partI (nthI l k) → overP l p m = true) := fun h => overP_at hlt h
      generalize modelsN l k = d at *
      generalize hq : partI (nthI l k) = q at *
      have hC' := HC.out wr (Below.refl _ _)
      by_cases hpq : p < q
      · obtain rfl : r = false := by rw [HR.out, hOa.out hpq]; rfl
        clear hOn hMn hOa HR HP
        go_wp2_with fail
        refine hC'.mono ?_
        rintro e w2 ⟨rfl, hb2⟩
        have HB2 := hide (HB.out.trans (hb2.mono HB.out.size))
        clear hC' HC q1 q2 q3 q4 hb2
        go_wp2_with fail
        go_ret
        exact ⟨rfl, HB2.out⟩
      · have hO2 := hide (show overP l p (k + 1) = false by rw [hOn.out, HOV.out]; simpa using hpq)
        clear hOn hOa
        by_cases hq1 : q = 1
        · have hM2 := hide (show modelsN l (k + 1) = d + 1 by rw [hMn.out, if_pos hq1])
          have hqq : (q == 1) = true := by simpa using hq1
          clear hMn
          go_wp2_with fail
          refine hC'.mono ?_
          rintro e w2 ⟨rfl, hb2⟩
          have HB2 := hide (HB.out.trans (hb2.mono HB.out.size))
          replace q1 := (hb2.cell (p := ⟨g1, o1 + k * 4, none⟩) hg2).trans q1
          replace q2 := (hb2.cell (p := ⟨g1, o1 + k * 4 + 1, none⟩) hg2).trans q2
          replace q3 := (hb2.cell (p := ⟨g1, o1 + k * 4 + 2, none⟩) hg2).trans q3
          replace q4 := (hb2.cell (p := ⟨g1, o1 + k * 4 + 3, none⟩) hg2).trans q4
          have hC2 := HC.out w2 hb2
          replace hg2 : g1 < w2.heap.size := Nat.lt_of_lt_of_le hg2 hb2.size
          clear hC' HC hb2
          go_wp2_with fail
          refine hC2.mono ?_
          rintro e w3 ⟨rfl, hb3⟩
          have HB3 := hide (HB2.out.trans (hb3.mono HB2.out.size))
          clear hC2 q1 q2 q3 q4 hb3
          go_wp2_with fail
          go_roundw
          case rel => exact ⟨k + 1, by omega, by go_num, by rw [hM2.out]; go_num, hO2.out, HB3.out⟩
          case measure => simp [intOf]; omega
        · have hM2 := hide (show modelsN l (k + 1) = d by rw [hMn.out, if_neg hq1]; rfl)
          have hqq : (q == 1) = false := by simpa using hq1
          clear hMn
          go_wp2_with fail
          refine hC'.mono ?_
          rintro e w2 ⟨rfl, hb2⟩
          have HB2 := hide (HB.out.trans (hb2.mono HB.out.size))
          replace q1 := (hb2.cell (p := ⟨g1, o1 + k * 4, none⟩) hg2).trans q1
          replace q2 := (hb2.cell (p := ⟨g1, o1 + k * 4 + 1, none⟩) hg2).trans q2
          replace q3 := (hb2.cell (p := ⟨g1, o1 + k * 4 + 2, none⟩) hg2).trans q3
          replace q4 := (hb2.cell (p := ⟨g1, o1 + k * 4 + 3, none⟩) hg2).trans q4
          have hC2 := HC.out w2 hb2
          replace hg2 : g1 < w2.heap.size := Nat.lt_of_lt_of_le hg2 hb2.size
          clear hC' HC hb2
          go_wp2_with fail
          refine hC2.mono ?_
          rintro e w3 ⟨rfl, hb3⟩
          have HB3 := hide (HB2.out.trans (hb3.mono HB2.out.size))
          clear hC2 q1 q2 q3 q4 hb3
          go_wp2_with fail
          go_roundw
          case rel => exact ⟨k + 1, by omega, by go_num, by rw [hM2.out], hO2.out, HB3.out⟩
          case measure => simp [intOf]; omega
    · obtain rfl : k = m := by omega
      have hr := HR.out
      rw [HOV.out] at hr
      generalize modelsN l k = d at *
      clear HR HP HV HVAR HL HOV
      by_cases h1 : p = 1
      · subst h1
        obtain rfl : r = ((d : Int) == 0) := by rw [hr]; by_cases e : d = 0 <;> simp [e]
        clear hr
        go_wp2_with fail
        go_ret
        exact ⟨rfl, HB.out⟩
      · rw [if_neg h1] at hr
        have h1' : (p == 1) = false := by simpa using h1
        by_cases h2 : 1 < p
        · by_cases h0 : d = 0
          · subst h0
            obtain rfl : r = false := by rw [hr]; simp [h2]
            clear hr
            go_wp2_with fail
            go_ret
            exact ⟨rfl, HB.out⟩
          · have hd : ((d : Int) == 0) = false := by simpa using h0
            obtain rfl : r = true := by rw [hr]; simp [h0]
            clear hr
            go_wp2_with fail
            go_ret
            exact ⟨rfl, HB.out⟩
        · obtain rfl : r = true := by rw [hr]; simp [h2]
          clear hr
          go_wp2_with fail
          go_ret
          exact ⟨rfl, HB.out⟩

end Go.Proofs.YtjjoggpddafajaaGreat

/-
  The document's first: whether a block is a function's first.
-/
namespace Go.Proofs.YtjjoggpddafajaaGreat
open Go.RowKit
set_option linter.unusedVariables false
set_option linter.unusedSimpArgs false
set_option maxRecDepth 10000

set_option maxHeartbeats 2000000 in
theorem refFirst_any (l : List InstT) (a : Option Addr) (n c m j : Nat) (w : World) (hv : InstsV w a l) (hl : l.length = n) (hn : n ≤ 140737488351232) (hj1 : 1 ≤ j) (hjm : j ≤ m) (hm : m < n) (hop : (nthI l j).1 = 248) (hno : ∀ i, j < i → i ≤ m → (nthI l i).1 ≠ 248) :
    Calls Tryz.prog 35 #[.slice a n c, .int .i64 m] w fun e w' => e = .returned (.bool (decide ((nthI l (j - 1)).1 = 54 ∨ (nthI l (j - 1)).1 = 55))) ∧ Below w.heap.size w w' := by
  obtain ⟨r, hr⟩ : ∃ r, r = decide ((nthI l (j - 1)).1 = 54 ∨ (nthI l (j - 1)).1 = 55) := ⟨_, rfl⟩
  rw [← hr]
  have HR := hide hr
  clear hr
  have HL := hide hl
  have HNO := hide hno
  have HV := hide hv
  clear hl hno hv
  go_enter Tryz.func35, Tryz.ntmps35
  go_wp2_with fail
  go_loopw [5] (fun i wr => ∃ k : Nat, j ≤ k ∧ k ≤ m ∧ i = .int .i64 k ∧ Below w.heap.size w wr) (fun i _ => (intOf i).toNat)
  case atStart => exact ⟨m, hjm, Nat.le_refl _, rfl, Below.refl _ _⟩
  case round =>
    obtain ⟨k, hk, hkm, rfl, hbr⟩ := hrel
    have HB := hide hbr
    obtain ⟨g1, o1, aj, cj, nj, ha, hg1, p1, p2, p3, p4, p5, p6, p7⟩ := HV.out.below hbr k (by rw [HL.out]; omega)
    obtain ⟨g2, o2, aj2, cj2, nj2, ha2, hg2, q1, q2, q3, q4, q5, q6, q7⟩ := HV.out.below hbr (j - 1) (by rw [HL.out]; omega)
    subst ha
    injection ha2 with e1
    injection e1 with e1 e2
    subst e1
    subst e2
    clear p2 p3 p4 p5 p6 p7 q2 q3 q4 q5 q6 q7 hg2 hbr
    have hk0 : (0 : Int) ≤ (k : Int) := by omega
    have hki : (k : Int) < (n : Int) := by omega
    by_cases he : k = j
    · subst he
      rw [hop] at p1
      generalize (nthI l (k - 1)).1 = y at *
      have hk1 : (k : Int) - 1 = ((k - 1 : Nat) : Int) := by omega
      have hk2 : (0 : Int) ≤ ((k - 1 : Nat) : Int) := by omega
      have hk3 : ((k - 1 : Nat) : Int) < (n : Int) := by omega
      have HRY : Hid (r = (y == 54 || y == 55)) := by rw [HR.out]; simp [Bool.decide_or]; rfl
      by_cases h54 : y = 54
      · subst h54
        obtain rfl : r = true := by rw [HRY.out]; rfl
        go_wp2_with fail
        go_ret
        exact ⟨rfl, HB.out⟩
      · have h5 : (y == 54) = false := by simpa using h54
        obtain rfl : r = (y == 55) := by rw [HRY.out, h5]; rfl
        go_wp2_with fail
        go_ret
        exact ⟨rfl, HB.out⟩
    · have hne := HNO.out k (by omega) hkm
      generalize (nthI l k).1 = x at *
      have hxx : (x == 248) = false := by simpa using hne
      clear q1
      go_wp2_with fail
      go_roundw
      case rel => exact ⟨k - 1, by omega, by omega, by rw [show (k : Int) - 1 = ((k - 1 : Nat) : Int) by omega], HB.out⟩
      case measure => simp [intOf]; omega

end Go.Proofs.YtjjoggpddafajaaGreat

/-
  The document's May, of what is a part of a function.
-/
namespace Go.Proofs.YtjjoggpddafajaaGreat
open Go.RowKit
set_option linter.unusedVariables false
set_option linter.unusedSimpArgs false
set_option maxRecDepth 10000

set_option maxHeartbeats 8000000 in
theorem refMay_high (l : List InstT) (a : Option Addr) (n c m : Nat) (w : World) (hv : InstsV w a l) (hl : l.length = n) (hn : n ≤ 140737488351232) (hvar : VarsOk l) (hm : m < n) (p : Int) (hp : partI (nthI l m) = p) (h8 : 8 ≤ p) (hblk : aheadO l m = 248 ∨ aheadO l m = 245 ∨ aheadO l m = 59 → (nthI l (blockAt l (m - 1))).1 = 248 ∧ 1 ≤ blockAt l (m - 1)) (r : Bool) (hr : r = (!overP l p m && (!decide (modelsN l m = 0) && mayF (nthI l m).1 (aheadO l m) (firstB l (m - 1))))) :
    Calls Tryz.prog 23 #[.slice a n c, .int .i64 m] w fun e w' => e = .returned (.bool r) ∧ Below w.heap.size w w' := by
  have HL := hide hl
  have HV := hide hv
  have HR := hide hr
  have HBLK := hide hblk
  clear hblk
  have HFI : Hid (0 < m → (aheadO l m = 248 ∨ aheadO l m = 245 ∨ aheadO l m = 59) → ∀ wx, Below w.heap.size w wx → Calls Tryz.prog 35 #[.slice a n c, .int .i64 ((m - 1 : Nat) : Int)] wx fun e w' => e = .returned (.bool (firstB l (m - 1))) ∧ Below wx.heap.size wx w') := fun hm0 hah wx hb => refFirst_any l a n c (m - 1) (blockAt l (m - 1)) wx (hv.below hb) hl hn (HBLK.out hah).2 (blockAt_le l _) (by omega) (HBLK.out hah).1 (blockAt_no l _)
  have HVAR := hide hvar
  have HP : Hid (∀ (k : Nat) (wx : World), k < n → Below w.heap.size w wx → ∃ b off aj cj nj, a = some ⟨b, off, none⟩ ∧ b < wx.heap.size ∧ wx.cell? ⟨b, off + k * 4, none⟩ = some (.int .u16 (nthI l k).1) ∧ wx.cell? ⟨b, off + k * 4 + 1, none⟩ = some (.int .u32 (nthI l k).2.1) ∧ wx.cell? ⟨b, off + k * 4 + 2, none⟩ = some (.int .u32 (nthI l k).2.2.1) ∧ wx.cell? ⟨b, off + k * 4 + 3, none⟩ = some (.slice aj nj cj) ∧
      ∀ wy, Below wx.heap.size wx wy → Calls Tryz.prog 24 #[.agg #[.int .u16 (nthI l k).1, .int .u32 (nthI l k).2.1, .int .u32 (nthI l k).2.2.1, .slice aj nj cj]] wy fun e w' => e = .returned (.int .i64 (partI (nthI l k))) ∧ Below wy.heap.size wy w') := by
    intro k wx hk hb
    obtain ⟨g1, o1, aj, cj, nj, ha, hg1, p1, p2, p3, p4, p5, p6, p7⟩ := HV.out.below hb k (by rw [HL.out]; exact hk)
    refine ⟨g1, o1, aj, cj, nj, ha, hg1, p1, p2, p3, p4, fun wy hy => ?_⟩
    have := refPart_any (nthI l k) aj nj cj wy (p6.below hy) p5 (fun e => by rw [← p5]; exact HVAR.out k (by rw [HL.out]; exact hk) e)
    unfold instV at this
    exact this
  clear hl hv hr hvar
  obtain ⟨g1, o1, aj, cj, nj, ha, hg1, p1, p2, p3, p4, hC⟩ := HP.out m w hm (Below.refl _ _)
  subst ha
  rw [hp] at hC
  have hm0 : (0 : Int) ≤ (m : Int) := by omega
  have hmi : (m : Int) < (n : Int) := by omega
  have hC' := hC w (Below.refl _ _)
  clear hC
  go_enter Tryz.func23, Tryz.ntmps23
  go_wp2_with fail
  refine hC'.mono ?_
  rintro e w1 ⟨rfl, hb1⟩
  have HB1 := hide hb1
  clear hC' p1 p2 p3 p4 hb1
  go_wp2_with fail
  go_loopw [6, 7] (fun d i wr => ∃ k : Nat, k ≤ m ∧ i = .int .i64 k ∧ d = .int .i64 (modelsN l k) ∧ overP l p k = false ∧ Below w.heap.size w wr) (fun _ i _ => m - (intOf i).toNat)
  case atStart => exact ⟨0, Nat.zero_le _, rfl, rfl, rfl, HB1.out⟩
  case round =>
    obtain ⟨k, hk, rfl, rfl, hov, hbr⟩ := hrel
    have HOV := hide hov
    have HB := hide hbr
    have hml := modelsN_le l k
    clear hov
    by_cases hlt : k < m
    · have hk0 : (0 : Int) ≤ (k : Int) := by omega
      have hki : (k : Int) < (n : Int) := by omega
      have hkm : (k : Int) < (m : Int) := by omega
      obtain ⟨g2, o2, aj2, cj2, nj2, ha2, hg2, q1, q2, q3, q4, hC⟩ := HP.out k wr (by omega) hbr
      injection ha2 with e1
      injection e1 with e1 e2
      subst e1
      subst e2
      have HC := hide hC
      clear hC hbr
      have hMn : Hid (modelsN l (k + 1) = modelsN l k + (if partI (nthI l k) = 1 then 1 else 0)) := rfl
      have hOn : Hid (overP l p (k + 1) = (overP l p k || decide (p < partI (nthI l k)))) := rfl
      have hOa : Hid (p < partI (nthI l k) → overP l p m = true) := fun h => overP_at hlt h
      generalize modelsN l k = d at *
      generalize hq : partI (nthI l k) = q at *
      have hC' := HC.out wr (Below.refl _ _)
      by_cases hpq : p < q
      · obtain rfl : r = false := by rw [HR.out, hOa.out hpq]; rfl
        clear hOn hMn hOa HR HP
        go_wp2_with fail
        refine hC'.mono ?_
        rintro e w2 ⟨rfl, hb2⟩
        have HB2 := hide (HB.out.trans (hb2.mono HB.out.size))
        clear hC' HC q1 q2 q3 q4 hb2
        go_wp2_with fail
        go_ret
        exact ⟨rfl, HB2.out⟩
      · have hO2 := hide (show overP l p (k + 1) = false by rw [hOn.out, HOV.out]; simpa using hpq)
        clear hOn hOa
        by_cases hq1 : q = 1
        · have hM2 := hide (show modelsN l (k + 1) = d + 1 by rw [hMn.out, if_pos hq1])
          have hqq : (q == 1) = true := by simpa using hq1
          clear hMn
          go_wp2_with fail
          refine hC'.mono ?_
          rintro e w2 ⟨rfl, hb2⟩
          have HB2 := hide (HB.out.trans (hb2.mono HB.out.size))
          replace q1 := (hb2.cell (p := ⟨g1, o1 + k * 4, none⟩) hg2).trans q1
          replace q2 := (hb2.cell (p := ⟨g1, o1 + k * 4 + 1, none⟩) hg2).trans q2
          replace q3 := (hb2.cell (p := ⟨g1, o1 + k * 4 + 2, none⟩) hg2).trans q3
          replace q4 := (hb2.cell (p := ⟨g1, o1 + k * 4 + 3, none⟩) hg2).trans q4
          have hC2 := HC.out w2 hb2
          replace hg2 : g1 < w2.heap.size := Nat.lt_of_lt_of_le hg2 hb2.size
          clear hC' HC hb2
          go_wp2_with fail
          refine hC2.mono ?_
          rintro e w3 ⟨rfl, hb3⟩
          have HB3 := hide (HB2.out.trans (hb3.mono HB2.out.size))
          clear hC2 q1 q2 q3 q4 hb3
          go_wp2_with fail
          go_roundw
          case rel => exact ⟨k + 1, by omega, by go_num, by rw [hM2.out]; go_num, hO2.out, HB3.out⟩
          case measure => simp [intOf]; omega
        · have hM2 := hide (show modelsN l (k + 1) = d by rw [hMn.out, if_neg hq1]; rfl)
          have hqq : (q == 1) = false := by simpa using hq1
          clear hMn
          go_wp2_with fail
          refine hC'.mono ?_
          rintro e w2 ⟨rfl, hb2⟩
          have HB2 := hide (HB.out.trans (hb2.mono HB.out.size))
          replace q1 := (hb2.cell (p := ⟨g1, o1 + k * 4, none⟩) hg2).trans q1
          replace q2 := (hb2.cell (p := ⟨g1, o1 + k * 4 + 1, none⟩) hg2).trans q2
          replace q3 := (hb2.cell (p := ⟨g1, o1 + k * 4 + 2, none⟩) hg2).trans q3
          replace q4 := (hb2.cell (p := ⟨g1, o1 + k * 4 + 3, none⟩) hg2).trans q4
          have hC2 := HC.out w2 hb2
          replace hg2 : g1 < w2.heap.size := Nat.lt_of_lt_of_le hg2 hb2.size
          clear hC' HC hb2
          go_wp2_with fail
          refine hC2.mono ?_
          rintro e w3 ⟨rfl, hb3⟩
          have HB3 := hide (HB2.out.trans (hb3.mono HB2.out.size))
          clear hC2 q1 q2 q3 q4 hb3
          go_wp2_with fail
          go_roundw
          case rel => exact ⟨k + 1, by omega, by go_num, by rw [hM2.out], hO2.out, HB3.out⟩
          case measure => simp [intOf]; omega
    · obtain rfl : k = m := by omega
      have hr := HR.out
      rw [HOV.out] at hr
      generalize modelsN l k = d at *
      clear HR HOV
      have h1' : (p == 1) = false := by simpa using (show p ≠ 1 by omega)
      have h2 : 1 < p := by omega
      have h9 : ¬ p < 8 := by omega
      by_cases h0 : d = 0
      · subst h0
        obtain rfl : r = false := by rw [hr]; simp
        clear hr HP HV HFI
        go_wp2_with fail
        go_ret
        exact ⟨rfl, HB.out⟩
      · have hd : ((d : Int) == 0) = false := by simpa using h0
        have HRT := hide (show r = mayF (nthI l k).1 (aheadO l k) (firstB l (k - 1)) by rw [hr]; simp [h0])
        clear hr
        obtain ⟨g2, o2, aj2, cj2, nj2, ha2, hg2, q1, q2, q3, q4, _⟩ := HP.out k wr (by omega) hbr
        injection ha2 with e1
        injection e1 with e1 e2
        subst e1
        subst e2
        clear q2 q3 q4
        generalize hop : (nthI l k).1 = op at *
        have hkp : 0 < k := by omega
        have hk1 : (k : Int) - 1 = ((k - 1 : Nat) : Int) := by omega
        have hk2 : (0 : Int) ≤ ((k - 1 : Nat) : Int) := by omega
        have hk3 : ((k - 1 : Nat) : Int) < (n : Int) := by omega
        have hk4 : (0 : Int) < (k : Int) := by omega
        obtain ⟨g2, o2, aj3, cj3, nj3, ha2, _, y1, y2, y3, y4, hC⟩ := HP.out (k - 1) wr (by omega) hbr
        injection ha2 with e1
        injection e1 with e1 e2
        subst e1
        subst e2
        have hC' := hC wr (Below.refl _ _)
        have hAE : Hid (aheadO l k = if partI (nthI l (k - 1)) = 8 then (nthI l (k - 1)).1 else 0) := hide (by unfold aheadO; simp [hkp])
        have HFJ := hide (HFI.out hkp)
        clear hC HFI HBLK HP HV HL HVAR hop
        generalize firstB l (k - 1) = fs at *
        generalize hq : partI (nthI l (k - 1)) = q at *
        generalize nthI l (k - 1) = z at *
        generalize aheadO l k = ah at *
        go_wp2_with fail
        refine hC'.mono ?_
        rintro e w2 ⟨rfl, hb2⟩
        have HB2 := hide (hbr.trans (hb2.mono hbr.size))
        replace y1 := (hb2.cell (p := ⟨g1, o1 + (k - 1) * 4, none⟩) hg2).trans y1
        replace hg2 : g1 < w2.heap.size := Nat.lt_of_lt_of_le hg2 hb2.size
        clear hC' hb2 y2 y3 y4 q1
        by_cases hq8 : q = 8
        · have hqq : (q == 8) = true := by simpa using hq8
          obtain rfl : ah = z.1 := by rw [hAE.out, if_pos hq8]
          clear hAE
          generalize z.1 = ah at *
          by_cases c54 : op = 54
          · subst c54
            by_cases a0 : ah = 0
            · subst a0
              obtain rfl : r = true := by rw [HRT.out]; rfl
              clear HRT HFJ
              go_wp2_with fail
              go_ret
              exact ⟨rfl, HB2.out⟩
            · have a0' : (ah == 0) = false := by simpa using a0
              obtain rfl : r = (ah == 56) := by rw [HRT.out]; simp [mayF, a0]
              clear HRT HFJ
              go_wp2_with fail
              go_ret
              exact ⟨rfl, HB2.out⟩
          have c54' : (op == 54) = false := by simpa using c54
          by_cases c55 : op = 55
          · subst c55
            by_cases a54 : ah = 54
            · subst a54
              obtain rfl : r = true := by rw [HRT.out]; rfl
              clear HRT HFJ
              go_wp2_with fail
              go_ret
              exact ⟨rfl, HB2.out⟩
            · have a54' : (ah == 54) = false := by simpa using a54
              obtain rfl : r = (ah == 55) := by rw [HRT.out]; simp [mayF, a54]
              clear HRT HFJ
              go_wp2_with fail
              go_ret
              exact ⟨rfl, HB2.out⟩
          have c55' : (op == 55) = false := by simpa using c55
          by_cases c248 : op = 248
          · subst c248
            by_cases a54 : ah = 54
            · subst a54
              obtain rfl : r = true := by rw [HRT.out]; rfl
              clear HRT HFJ
              go_wp2_with fail
              go_ret
              exact ⟨rfl, HB2.out⟩
            have a54' : (ah == 54) = false := by simpa using a54
            by_cases a55 : ah = 55
            · subst a55
              obtain rfl : r = true := by rw [HRT.out]; rfl
              clear HRT HFJ
              go_wp2_with fail
              go_ret
              exact ⟨rfl, HB2.out⟩
            have a55' : (ah == 55) = false := by simpa using a55
            obtain rfl : r = endsB ah := by rw [HRT.out]; simp [mayF, a54, a55]
            clear HRT HFJ
            go_wp2_with fail
            refine (refEnds_any _ w2).mono ?_
            rintro e w3 ⟨rfl, rfl⟩
            go_wp2_with fail
            go_ret
            exact ⟨rfl, HB2.out⟩
          have c248' : (op == 248) = false := by simpa using c248
          by_cases c56 : op = 56
          · subst c56
            obtain rfl : r = endsB ah := by rw [HRT.out]; rfl
            clear HRT HFJ
            go_wp2_with fail
            refine (refEnds_any _ w2).mono ?_
            rintro e w3 ⟨rfl, rfl⟩
            go_wp2_with fail
            go_ret
            exact ⟨rfl, HB2.out⟩
          have c56' : (op == 56) = false := by simpa using c56
          by_cases a0 : ah = 0
          · subst a0
            obtain rfl : r = false := by rw [HRT.out]; simp [mayF, c54, c55, c248, c56]
            clear HRT HFJ
            go_wp2_with fail
            go_ret
            exact ⟨rfl, HB2.out⟩
          have a0' : (ah == 0) = false := by simpa using a0
          by_cases a54 : ah = 54
          · subst a54
            obtain rfl : r = false := by rw [HRT.out]; simp [mayF, c54, c55, c248, c56]
            clear HRT HFJ
            go_wp2_with fail
            go_ret
            exact ⟨rfl, HB2.out⟩
          have a54' : (ah == 54) = false := by simpa using a54
          by_cases a55 : ah = 55
          · subst a55
            obtain rfl : r = false := by rw [HRT.out]; simp [mayF, c54, c55, c248, c56]
            clear HRT HFJ
            go_wp2_with fail
            go_ret
            exact ⟨rfl, HB2.out⟩
          have a55' : (ah == 55) = false := by simpa using a55
          by_cases a56 : ah = 56
          · subst a56
            obtain rfl : r = false := by rw [HRT.out]; simp [mayF, c54, c55, c248, c56]
            clear HRT HFJ
            go_wp2_with fail
            go_ret
            exact ⟨rfl, HB2.out⟩
          have a56' : (ah == 56) = false := by simpa using a56
          cases hE : endsB ah with
          | true =>
            obtain rfl : r = false := by rw [HRT.out]; simp [mayF, c54, c55, c248, c56, hE]
            clear HRT HFJ
            go_wp2_with fail
            refine (refEnds_any _ w2).mono ?_
            rintro e w3 ⟨rfl, rfl⟩
            rw [hE]
            go_wp2_with fail
            go_ret
            exact ⟨rfl, HB2.out⟩
          | false =>
            by_cases c245 : op = 245
            · subst c245
              by_cases b248 : ah = 248
              · subst b248
                obtain rfl : r = !fs := by rw [HRT.out]; simp [mayF, hE]
                have HF := hide (HFJ.out (by omega) _ HB2.out)
                clear HRT HFJ
                have HE := hide hE
                clear hE
                go_wp2_with fail
                refine (refEnds_any _ w2).mono ?_
                rintro e w3 ⟨rfl, rfl⟩
                rw [HE.out]
                go_wp2_with fail
                refine HF.out.mono ?_
                rintro e w4 ⟨rfl, hb4⟩
                have HB4 := hide (HB2.out.trans (hb4.mono HB2.out.size))
                clear HF hb4
                go_wp2_with fail
                go_ret
                exact ⟨rfl, HB4.out⟩
              have b248' : (ah == 248) = false := by simpa using b248
              by_cases b245 : ah = 245
              · subst b245
                obtain rfl : r = !fs := by rw [HRT.out]; simp [mayF, hE]
                have HF := hide (HFJ.out (by omega) _ HB2.out)
                clear HRT HFJ
                have HE := hide hE
                clear hE
                go_wp2_with fail
                refine (refEnds_any _ w2).mono ?_
                rintro e w3 ⟨rfl, rfl⟩
                rw [HE.out]
                go_wp2_with fail
                refine HF.out.mono ?_
                rintro e w4 ⟨rfl, hb4⟩
                have HB4 := hide (HB2.out.trans (hb4.mono HB2.out.size))
                clear HF hb4
                go_wp2_with fail
                go_ret
                exact ⟨rfl, HB4.out⟩
              have b245' : (ah == 245) = false := by simpa using b245
              obtain rfl : r = false := by rw [HRT.out]; simp [mayF, hE, b248, b245]
              clear HRT HFJ
              have HE := hide hE
              clear hE
              go_wp2_with fail
              refine (refEnds_any _ w2).mono ?_
              rintro e w3 ⟨rfl, rfl⟩
              rw [HE.out]
              go_wp2_with fail
              go_ret
              exact ⟨rfl, HB2.out⟩
            have c245' : (op == 245) = false := by simpa using c245
            by_cases c59 : op = 59
            · subst c59
              by_cases b248 : ah = 248
              · subst b248
                obtain rfl : r = fs := by rw [HRT.out]; simp [mayF, hE]
                have HF := hide (HFJ.out (by omega) _ HB2.out)
                clear HRT HFJ
                have HE := hide hE
                clear hE
                go_wp2_with fail
                refine (refEnds_any _ w2).mono ?_
                rintro e w3 ⟨rfl, rfl⟩
                rw [HE.out]
                go_wp2_with fail
                refine HF.out.mono ?_
                rintro e w4 ⟨rfl, hb4⟩
                have HB4 := hide (HB2.out.trans (hb4.mono HB2.out.size))
                clear HF hb4
                go_wp2_with fail
                go_ret
                exact ⟨rfl, HB4.out⟩
              have b248' : (ah == 248) = false := by simpa using b248
              by_cases b59 : ah = 59
              · subst b59
                obtain rfl : r = fs := by rw [HRT.out]; simp [mayF, hE]
                have HF := hide (HFJ.out (by omega) _ HB2.out)
                clear HRT HFJ
                have HE := hide hE
                clear hE
                go_wp2_with fail
                refine (refEnds_any _ w2).mono ?_
                rintro e w3 ⟨rfl, rfl⟩
                rw [HE.out]
                go_wp2_with fail
                refine HF.out.mono ?_
                rintro e w4 ⟨rfl, hb4⟩
                have HB4 := hide (HB2.out.trans (hb4.mono HB2.out.size))
                clear HF hb4
                go_wp2_with fail
                go_ret
                exact ⟨rfl, HB4.out⟩
              have b59' : (ah == 59) = false := by simpa using b59
              obtain rfl : r = false := by rw [HRT.out]; simp [mayF, hE, b248, b59]
              clear HRT HFJ
              have HE := hide hE
              clear hE
              go_wp2_with fail
              refine (refEnds_any _ w2).mono ?_
              rintro e w3 ⟨rfl, rfl⟩
              rw [HE.out]
              go_wp2_with fail
              go_ret
              exact ⟨rfl, HB2.out⟩
            have c59' : (op == 59) = false := by simpa using c59
            by_cases b246 : ah = 246
            · subst b246
              by_cases d249 : op = 249
              · subst d249
                obtain rfl : r = true := by rw [HRT.out]; rfl
                clear HRT HFJ
                have HE := hide hE
                clear hE
                go_wp2_with fail
                refine (refEnds_any _ w2).mono ?_
                rintro e w3 ⟨rfl, rfl⟩
                rw [HE.out]
                go_wp2_with fail
                go_ret
                exact ⟨rfl, HB2.out⟩
              · have d249' : (op == 249) = false := by simpa using d249
                obtain rfl : r = (op == 250) := by rw [HRT.out]; simp [mayF, hE, c54, c55, c248, c56, c245, c59, d249]
                clear HRT HFJ
                have HE := hide hE
                clear hE
                go_wp2_with fail
                refine (refEnds_any _ w2).mono ?_
                rintro e w3 ⟨rfl, rfl⟩
                rw [HE.out]
                go_wp2_with fail
                go_ret
                exact ⟨rfl, HB2.out⟩
            have b246' : (ah == 246) = false := by simpa using b246
            by_cases b247 : ah = 247
            · subst b247
              by_cases d250 : op = 250
              · subst d250
                obtain rfl : r = true := by rw [HRT.out]; rfl
                clear HRT HFJ
                have HE := hide hE
                clear hE
                go_wp2_with fail
                refine (refEnds_any _ w2).mono ?_
                rintro e w3 ⟨rfl, rfl⟩
                rw [HE.out]
                go_wp2_with fail
                go_ret
                exact ⟨rfl, HB2.out⟩
              · have d250' : (op == 250) = false := by simpa using d250
                obtain rfl : r = (op == 251) := by rw [HRT.out]; simp [mayF, hE, c54, c55, c248, c56, c245, c59, d250]
                clear HRT HFJ
                have HE := hide hE
                clear hE
                go_wp2_with fail
                refine (refEnds_any _ w2).mono ?_
                rintro e w3 ⟨rfl, rfl⟩
                rw [HE.out]
                go_wp2_with fail
                go_ret
                exact ⟨rfl, HB2.out⟩
            have b247' : (ah == 247) = false := by simpa using b247
            obtain rfl : r = true := by rw [HRT.out]; simp [mayF, hE, c54, c55, c248, c56, c245, c59, a0, a54, a55, a56, b246, b247]
            clear HRT HFJ
            have HE := hide hE
            clear hE
            go_wp2_with fail
            refine (refEnds_any _ w2).mono ?_
            rintro e w3 ⟨rfl, rfl⟩
            rw [HE.out]
            go_wp2_with fail
            go_ret
            exact ⟨rfl, HB2.out⟩
        · have hqq : (q == 8) = false := by simpa using hq8
          obtain rfl : ah = 0 := by rw [hAE.out, if_neg hq8]
          clear hAE y1
          by_cases c54 : op = 54
          · subst c54
            obtain rfl : r = true := by rw [HRT.out]; rfl
            clear HRT HFJ
            go_wp2_with fail
            go_ret
            exact ⟨rfl, HB2.out⟩
          have c54' : (op == 54) = false := by simpa using c54
          by_cases c55 : op = 55
          · subst c55
            obtain rfl : r = false := by rw [HRT.out]; rfl
            clear HRT HFJ
            go_wp2_with fail
            go_ret
            exact ⟨rfl, HB2.out⟩
          have c55' : (op == 55) = false := by simpa using c55
          have hE : endsB 0 = false := rfl
          by_cases c248 : op = 248
          · subst c248
            obtain rfl : r = false := by rw [HRT.out]; rfl
            clear HRT HFJ
            go_wp2_with fail
            refine (refEnds_any 0 w2).mono ?_
            rintro e w3 ⟨rfl, rfl⟩
            rw [hE]
            go_wp2_with fail
            go_ret
            exact ⟨rfl, HB2.out⟩
          have c248' : (op == 248) = false := by simpa using c248
          by_cases c56 : op = 56
          · subst c56
            obtain rfl : r = false := by rw [HRT.out]; rfl
            clear HRT HFJ
            go_wp2_with fail
            refine (refEnds_any 0 w2).mono ?_
            rintro e w3 ⟨rfl, rfl⟩
            rw [hE]
            go_wp2_with fail
            go_ret
            exact ⟨rfl, HB2.out⟩
          have c56' : (op == 56) = false := by simpa using c56
          obtain rfl : r = false := by rw [HRT.out]; simp [mayF, c54, c55, c248, c56]
          clear HRT HFJ
          go_wp2_with fail
          go_ret
          exact ⟨rfl, HB2.out⟩

end Go.Proofs.YtjjoggpddafajaaGreat

/-
  The document's Check of a module's order.
-/
namespace Go.Proofs.YtjjoggpddafajaaGreat
open Go.RowKit
set_option linter.unusedVariables false
set_option linter.unusedSimpArgs false
set_option maxRecDepth 10000

/-- Where a variable or a phi stands, a label stands ahead. -/
theorem block_ahead {l : List InstT} : ∀ {m : Nat}, okTo l m → aheadO l m = 248 ∨ aheadO l m = 245 ∨ aheadO l m = 59 → (nthI l (blockAt l (m - 1))).1 = 248 ∧ 1 ≤ blockAt l (m - 1)
  | 0, _, ha => by unfold aheadO at ha; simp at ha
  | m + 1, hok, ha => by
    have hne : aheadO l (m + 1) ≠ 0 := by omega
    obtain ⟨_, hop⟩ := ahead_at hne
    rw [Nat.add_sub_cancel] at hop ⊢
    have h8 : partI (nthI l m) = 8 := by
      unfold aheadO at hne
      split at hne
      · next h => have := h.2; rw [Nat.add_sub_cancel] at this; exact this
      · exact absurd rfl hne
    have hmay := hok m (by omega)
    have hparts : ∀ i, i < m → partI (nthI l i) ≤ 8 := fun i _ => (partI_eight _).2
    have hmo : modelsN l m ≠ 0 := fun e => by rw [mayL_noModel (by omega) e] at hmay; cases hmay
    have hm1 : 1 ≤ m := by
      rcases Nat.eq_zero_or_pos m with e | e
      · subst e; exact absurd rfl hmo
      · exact e
    rw [mayL_eight h8 hparts hmo] at hmay
    by_cases h248 : (nthI l m).1 = 248
    · rw [(firstB_label hm1 h248).2]; exact ⟨h248, hm1⟩
    · have hb := (firstB_other hm1 h248).2
      rw [hb]
      refine block_ahead (m := m) (fun i hi => hok i (by omega)) ?_
      rw [hop] at h248
      rcases ha with ha | ha | ha
      · exact absurd ha h248
      · rw [hop, ha] at hmay
        unfold mayF at hmay
        simp at hmay
        rcases hmay.2.1 with h | h
        · exact .inl h
        · exact .inr (.inl h)
      · rw [hop, ha] at hmay
        unfold mayF at hmay
        simp at hmay
        rcases hmay.2.1 with h | h
        · exact .inl h
        · exact .inr (.inr h)

theorem refMay_any (l : List InstT) (a : Option Addr) (n c m : Nat) (w : World) (hv : InstsV w a l) (hl : l.length = n) (hn : n ≤ 140737488351232) (hvar : VarsOk l) (hm : m < n) (hok : okTo l m) :
    Calls Tryz.prog 23 #[.slice a n c, .int .i64 m] w fun e w' => e = .returned (.bool (mayL l m)) ∧ Below w.heap.size w w' := by
  by_cases h8 : partI (nthI l m) < 8
  · refine refMay_low l a n c m w hv hl hn hvar hm _ rfl h8 _ ?_
    unfold mayL
    rw [show decide (partI (nthI l m) < 8) = true by simpa using h8, Bool.true_or, Bool.and_true]
  · refine refMay_high l a n c m w hv hl hn hvar hm _ rfl (by omega) (block_ahead hok) _ ?_
    unfold mayL
    rw [show decide (partI (nthI l m) < 8) = false by simpa using h8, Bool.false_or, if_neg (by omega), show decide (1 < partI (nthI l m)) = true by simp; omega, Bool.true_and, Bool.and_assoc]

set_option maxHeartbeats 8000000 in
theorem refCheck5_any (gen bnd : Int) (a : Option Addr) (n c : Nat) (l : List InstT) (w : World) (hv : InstsV w a l) (hok : InstsOk l) (hl : l.length = n) (hn : 40 * n ≤ 140737488351232) (b0 : 0 ≤ bnd) (b1 : bnd < 4294967296) :
    Calls Tryz.prog 16 #[modV gen bnd a n c] w fun e w' => e = .returned (.agg #[.int .i64 (layE bnd l).1, .int .i64 ((layE bnd l).2 : Int)]) ∧ Below w.heap.size w w' := by
  have hb0 : Below w.heap.size w ((w.alloc (.cells #[.int .u32 gen, .int .u32 bnd, .slice a n c] 25)).alloc (.cells #[.int .i64 0, .int .i64 0] 28)) := ((Below.refl _ w).alloc (Nat.le_refl _) _).alloc (by simp) _
  have hSh := refShape4_any gen bnd a n c l _ (hv.below hb0) hok hl hn b0 b1
  have HSF : Hid (∀ E P, shapeE bnd l = (E, P) → (E ≠ 0 → layE bnd l = (E, P)) ∧ (E = 0 → layE bnd l = layF l l.length 0 ∧ l.length ≤ 1048576 ∧ VarsOk l)) := fun E P he => by
    refine ⟨fun h => ?_, fun h => ⟨?_, ?_, ?_⟩⟩
    · unfold layE; rw [he, if_pos h]
    · unfold layE; rw [he, if_neg (by simpa using h)]
    · exact (shape_few (b := bnd) (l := l) (by rw [he]; exact h)).1
    · intro k hk h59
      exact var_args (b := bnd) (shape_each (by rw [he]; exact h) k hk) h59
  generalize hE : shapeE bnd l = E at *
  obtain ⟨E, P⟩ := E
  have HSFE := hide (HSF.out E P rfl)
  obtain ⟨L, hLL⟩ : ∃ L, L = layE bnd l := ⟨_, rfl⟩
  have HLL := hide hLL
  rw [← hLL]
  have HMB : Hid (((w.alloc (.cells #[.int .u32 gen, .int .u32 bnd, .slice a n c] 25)).alloc (.cells #[.int .i64 0, .int .i64 0] 28)).heap[w.heap.size]? = some (.cells #[.int .u32 gen, .int .u32 bnd, .slice a n c] 25 (0, 0))) := by
    show _ = _
    rw [Below.heap_alloc _ _ _ (by simp)]; exact heap_alloc_new w _
  have HSB : Hid (((w.alloc (.cells #[.int .u32 gen, .int .u32 bnd, .slice a n c] 25)).alloc (.cells #[.int .i64 0, .int .i64 0] 28)).heap[w.heap.size + 1]? = some (.cells #[.int .i64 0, .int .i64 0] 28 (0, 0))) := by
    have := heap_alloc_new (w.alloc (.cells #[.int .u32 gen, .int .u32 bnd, .slice a n c] 25)) (.cells #[.int .i64 0, .int .i64 0] 28)
    rw [World.size_alloc] at this
    exact this
  have HLT : Hid (w.heap.size + 1 < ((w.alloc (.cells #[.int .u32 gen, .int .u32 bnd, .slice a n c] 25)).alloc (.cells #[.int .i64 0, .int .i64 0] 28)).heap.size) := by show _ < _; simp
  have HB0 := hide hb0
  have HV := hide (hv.below hb0)
  have HL := hide hl
  have HRET : Hid (∀ (a' : Act) (Z : World), slot a'.tmps 2 = .pointer (some ⟨w.heap.size + 1, 0, none⟩) → a'.defers = [] → Z.heap[w.heap.size + 1]? = some (.cells #[.int .i64 L.1, .int .i64 (L.2 : Int)] 28 (0, 0)) → Below w.heap.size w Z → bodyPost Tryz.prog Tryz.f16 (fun e w' => e = .returned (.agg #[.int .i64 L.1, .int .i64 (L.2 : Int)]) ∧ Below w.heap.size w w') .ret a' Z) := by
    intro a' Z q2 q3 q4 q5
    have r6 := run_loadVar_mid (P := Tryz.prog) Z (w.heap.size + 1) 0 28 [.int .i64 L.1, .int .i64 (L.2 : Int)] _ (range_of_block q4) Tryz.underlying28 rfl (by kernel_rfl)
    refine bodyPost_ret (v := .agg #[.int .i64 L.1, .int .i64 (L.2 : Int)]) ?_ q3 ⟨rfl, q5⟩
    have hG2 : a'.tmps.getD 2 undef = .pointer (some ⟨w.heap.size + 1, 0, none⟩) := q2
    simp only [results, Tryz.results16, List.mapM_toArray, List.mapM_cons, List.mapM_nil, hG2, asAddr, Sem.run_bind, Sem.run_pure, Result.andThen_ok, bind_assoc, pure_bind, Sem.run_map, map_pure, r6]
    rfl
  unfold modV at *
  clear hb0 HSF hv hok hl hLL hE
  go_enter Tryz.func16, Tryz.ntmps16
  go_wp2_with fail
  generalize (w.alloc (.cells #[.int .u32 gen, .int .u32 bnd, .slice a n c] 25)).alloc (.cells #[.int .i64 0, .int .i64 0] 28) = W0 at *
  refine hSh.mono ?_
  rintro e w1 ⟨rfl, hb1⟩
  have kl := HLT.out
  have kw : W0.heap.size ≤ w1.heap.size := hb1.size
  have m2 := (hb1.cell (p := ⟨w.heap.size, 2, none⟩) (show w.heap.size < W0.heap.size by omega)).trans ((one_block HMB.out).1 2)
  have kr := (hb1.block (w.heap.size + 1) HLT.out).trans HSB.out
  obtain ⟨cr, fr⟩ := one_block kr
  have r0 := cr 0
  have r1 := cr 1
  have HB1 := hide hb1
  have hHl : w.heap.size < w1.heap.size := by omega
  have hHl1 : w.heap.size + 1 < w1.heap.size := by omega
  have FINE : Hid (∀ (X : World) (x y : Int), Below W0.heap.size W0 X → X.heap[w.heap.size + 1]? = some (.cells #[.int .i64 0, .int .i64 0] 28 (0, 0)) → ((X.setCell ⟨w.heap.size + 1, 0, none⟩ (.int .i64 x)).setCell ⟨w.heap.size + 1, 1, none⟩ (.int .i64 y)).heap[w.heap.size + 1]? = some (.cells #[.int .i64 x, .int .i64 y] 28 (0, 0)) ∧ Below w.heap.size w ((X.setCell ⟨w.heap.size + 1, 0, none⟩ (.int .i64 x)).setCell ⟨w.heap.size + 1, 1, none⟩ (.int .i64 y))) := fun X x y hX hk =>
    ⟨setCells_all (w := X) [.int .i64 x, .int .i64 y] hk rfl, below_grown (HB0.out.trans (hX.mono HB0.out.size)) (setCells_grown (w.heap.size + 1) [.int .i64 x, .int .i64 y] 0 X) (fun g e => by simp at e; omega)⟩
  clear hSh hb1 cr
  by_cases hE0 : E = 0
  · subst hE0
    obtain ⟨hLay, hlen, hvar⟩ := HSFE.out.2 rfl
    have HLAY := hide (HLL.out.trans hLay)
    have HVAR := hide hvar
    have hn1 : n ≤ 1048576 := by rw [← HL.out]; exact hlen
    have hb2 : Below W0.heap.size W0 (w1.alloc (.cells #[.int .i64 0, .int .i64 P] 28)) := HB1.out.alloc HB1.out.size _
    have HV1 := hide (HV.out.below hb2)
    have HB2 := hide hb2
    have HK2 : Hid ((w1.alloc (.cells #[.int .i64 0, .int .i64 P] 28)).heap[w.heap.size + 1]? = some (.cells #[.int .i64 0, .int .i64 0] 28 (0, 0))) := (Below.heap_alloc _ _ _ hHl1).trans kr
    have HS2 : Hid (w.heap.size + 1 < (w1.alloc (.cells #[.int .i64 0, .int .i64 P] 28)).heap.size) := by show _ < _; rw [World.size_alloc]; omega
    clear hLay hlen hvar HSFE HLL kr r0 r1 fr hb2 HB1 HV
    go_wp2_with fail
    clear m2
    generalize w1.alloc (.cells #[.int .i64 0, .int .i64 P] 28) = W1 at *
    have hls := HS2.out
    go_loopw [5, 6] (fun d i wr => ∃ k : Nat, k ≤ n ∧ i = .int .i64 k ∧ d = .int .i64 (modelsN l k) ∧ okTo l k ∧ Below W1.heap.size W1 wr) (fun _ i _ => n - (intOf i).toNat)
    case atStart => exact ⟨0, Nat.zero_le _, rfl, rfl, okTo_zero l, Below.refl _ _⟩
    case round =>
      obtain ⟨k, hk, rfl, rfl, hok, hbr⟩ := hrel
      have HOK := hide hok
      have HB := hide hbr
      have hml := modelsN_le l k
      have kr := (hbr.block (w.heap.size + 1) hls).trans HK2.out
      obtain ⟨cr, fr⟩ := one_block kr
      have r0 := cr 0
      have r1 := cr 1
      have HKR := hide kr
      have hlr : w.heap.size + 1 < wr.heap.size := Nat.lt_of_lt_of_le hls hbr.size
      clear cr kr hok
      by_cases hlt : k < n
      · have hk0 : (0 : Int) ≤ (k : Int) := by omega
        have hki : (k : Int) < (n : Int) := by omega
        have hM := refMay_any l a n c k wr (HV1.out.below hbr) HL.out (by omega) HVAR.out hlt HOK.out
        cases hmay : mayL l k with
        | false =>
          rw [hmay] at hM
          have HLE : Hid (L = (50, k)) := by
            refine HLAY.out.trans ?_
            rw [layF_wrong ⟨HOK.out, .inl ⟨by rw [HL.out]; exact hlt, hmay⟩⟩, if_neg (fun e => by have := partAt_nine e; rw [HL.out] at this; omega)]
          clear hmay hbr
          go_wp2_with fail
          refine hM.mono ?_
          rintro e w2 ⟨rfl, hb2⟩
          have kr2 := (hb2.block (w.heap.size + 1) hlr).trans HKR.out
          obtain ⟨cr2, fr2⟩ := one_block kr2
          have t0 := cr2 0
          have t1 := cr2 1
          have HKR2 := hide kr2
          have HBX := hide (HB2.out.trans ((HB.out.trans (hb2.mono HB.out.size)).mono HB2.out.size))
          clear hM hb2 cr2 kr2 r0 r1 fr
          go_wp2_with fail
          obtain ⟨f1, f2⟩ := FINE.out w2 50 k HBX.out HKR2.out
          exact HRET.out _ _ rfl rfl (by rw [HLE.out]; exact f1) f2
        | true =>
          rw [hmay] at hM
          have HOK2 := hide (HOK.out.snoc hmay)
          obtain ⟨g1, o1, aj, cj, nj, ha, hg1, p1, p2, p3, p4, p5, p6, p7⟩ := HV1.out.below hbr k (by rw [HL.out]; exact hlt)
          have hP := fun wy (hy : Below wr.heap.size wr wy) => refPart_any (nthI l k) aj nj cj wy (p6.below hy) p5 (fun e => by rw [← p5]; exact HVAR.out k (by rw [HL.out]; exact hlt) e)
          unfold instV at hP
          have HP := hide hP
          have hMn : Hid (modelsN l (k + 1) = modelsN l k + (if partI (nthI l k) = 1 then 1 else 0)) := rfl
          subst ha
          clear hmay hbr p5 p6 p7 hP
          generalize modelsN l k = d at *
          generalize partI (nthI l k) = q at *
          go_wp2_with fail
          refine hM.mono ?_
          rintro e w2 ⟨rfl, hb2⟩
          replace p1 := (hb2.cell (p := ⟨g1, o1 + k * 4, none⟩) hg1).trans p1
          replace p2 := (hb2.cell (p := ⟨g1, o1 + k * 4 + 1, none⟩) hg1).trans p2
          replace p3 := (hb2.cell (p := ⟨g1, o1 + k * 4 + 2, none⟩) hg1).trans p3
          replace p4 := (hb2.cell (p := ⟨g1, o1 + k * 4 + 3, none⟩) hg1).trans p4
          have hg2 : g1 < w2.heap.size := Nat.lt_of_lt_of_le hg1 hb2.size
          have hP2 := HP.out w2 hb2
          have HBX := hide (HB.out.trans (hb2.mono HB.out.size))
          clear hM hb2 r0 r1 fr HP hg1
          by_cases hq : q = 1
          · have hM2 := hide (show modelsN l (k + 1) = d + 1 by rw [hMn.out, if_pos hq])
            have hqq : (q == 1) = true := by simpa using hq
            clear hMn
            go_wp2_with fail
            refine hP2.mono ?_
            rintro e w3 ⟨rfl, hb3⟩
            have HB3 := hide (HBX.out.trans (hb3.mono HBX.out.size))
            clear hP2 p1 p2 p3 p4 hb3
            go_wp2_with fail
            go_roundw
            case rel => exact ⟨k + 1, by omega, by go_num, by rw [hM2.out]; go_num, HOK2.out, HB3.out⟩
            case measure => simp [intOf]; omega
          · have hM2 := hide (show modelsN l (k + 1) = d by rw [hMn.out, if_neg hq]; rfl)
            have hqq : (q == 1) = false := by simpa using hq
            clear hMn
            go_wp2_with fail
            refine hP2.mono ?_
            rintro e w3 ⟨rfl, hb3⟩
            have HB3 := hide (HBX.out.trans (hb3.mono HBX.out.size))
            clear hP2 p1 p2 p3 p4 hb3
            go_wp2_with fail
            go_roundw
            case rel => exact ⟨k + 1, by omega, by go_num, by rw [hM2.out], HOK2.out, HB3.out⟩
            case measure => simp [intOf]; omega
      · obtain rfl : k = n := by omega
        have hknl : l.length = k := HL.out
        have HEND : Hid (layF l l.length 0 = if openE l then (51, k) else (0, 0)) := by
          have e := layF_ok k 0 0 (by rw [Nat.zero_add]; exact HOK.out)
          rw [Nat.add_zero, Nat.zero_add] at e
          show _ = _
          rw [hknl, e]; rfl
        have HOE : Hid (openE l = (decide (modelsN l k = 0) || decide (aheadO l k ≠ 0 ∧ aheadO l k ≠ 56))) := by show _ = _; unfold openE; rw [hknl]
        have HBX := hide (HB2.out.trans (hbr.mono HB2.out.size))
        by_cases hd : modelsN l k = 0
        · have HLE : Hid (L = (51, k)) := by
            refine HLAY.out.trans (HEND.out.trans ?_)
            rw [HOE.out, hd]; rfl
          rw [hd]
          clear hbr hknl hd
          go_wp2_with fail
          obtain ⟨f1, f2⟩ := FINE.out wr 51 k HBX.out HKR.out
          exact HRET.out _ _ rfl rfl (by rw [HLE.out]; exact f1) f2
        · have hkp : 0 < k := by
            rcases Nat.eq_zero_or_pos k with e | e
            · subst e; exact absurd rfl hd
            · exact e
          have hdd : (((modelsN l k : Nat) : Int) == 0) = false := by simpa using hd
          have hk1 : (k : Int) - 1 = ((k - 1 : Nat) : Int) := by omega
          have hk2 : (0 : Int) ≤ ((k - 1 : Nat) : Int) := by omega
          have hk3 : ((k - 1 : Nat) : Int) < (k : Int) := by omega
          obtain ⟨g1, o1, aj, cj, nj, ha, hg1, p1, p2, p3, p4, p5, p6, p7⟩ := HV1.out.below hbr (k - 1) (by rw [HL.out]; omega)
          have hP := refPart_any (nthI l (k - 1)) aj nj cj wr p6 p5 (fun e => by rw [← p5]; exact HVAR.out (k - 1) (by rw [HL.out]; omega) e)
          unfold instV at hP
          have hAE : Hid (aheadO l k = if partI (nthI l (k - 1)) = 8 then (nthI l (k - 1)).1 else 0) := hide (by unfold aheadO; simp [hkp])
          have HOP : Hid (partI (nthI l (k - 1)) = 8 → (nthI l (k - 1)).1 ≠ 0) := fun h => op_ne_zero h
          have HD := hide hd
          subst ha
          clear hbr hknl hd p5 p6 p7
          generalize modelsN l k = d at *
          generalize partI (nthI l (k - 1)) = q at *
          generalize (nthI l (k - 1)) = z at *
          generalize aheadO l k = ah at *
          by_cases hq : q = 8
          · have hqq : (q == 8) = true := by simpa using hq
            obtain rfl : ah = z.1 := by rw [hAE.out, if_pos hq]
            have hz0 := HOP.out hq
            by_cases h56 : z.1 = 56
            · have HLE : Hid (L = (0, 0)) := by
                refine HLAY.out.trans (HEND.out.trans ?_)
                rw [HOE.out]; simp [HD.out, h56]
              rw [h56] at p1 hP
              go_wp2_with fail
              refine hP.mono ?_
              rintro e w2 ⟨rfl, hb2⟩
              replace p1 := (hb2.cell (p := ⟨g1, o1 + (k - 1) * 4, none⟩) hg1).trans p1
              have hg2 : g1 < w2.heap.size := Nat.lt_of_lt_of_le hg1 hb2.size
              have kr2 := (hb2.block (w.heap.size + 1) hlr).trans HKR.out
              obtain ⟨cr2, fr2⟩ := one_block kr2
              have t0 := cr2 0
              have t1 := cr2 1
              have HKR2 := hide kr2
              have HBY := hide (HBX.out.trans (hb2.mono HBX.out.size))
              clear hP hb2 cr2 kr2 r0 r1 fr p2 p3 p4
              go_wp2_with fail
              obtain ⟨f1, f2⟩ := FINE.out w2 0 0 HBY.out HKR2.out
              exact HRET.out _ _ rfl rfl (by rw [HLE.out]; exact f1) f2
            · have HLE : Hid (L = (51, k)) := by
                refine HLAY.out.trans (HEND.out.trans ?_)
                rw [HOE.out]; simp [hz0, h56]
              have h56' : (z.1 != 56) = true := by simpa using h56
              clear h56 hz0
              generalize z.1 = zo at *
              go_wp2_with fail
              refine hP.mono ?_
              rintro e w2 ⟨rfl, hb2⟩
              replace p1 := (hb2.cell (p := ⟨g1, o1 + (k - 1) * 4, none⟩) hg1).trans p1
              have hg2 : g1 < w2.heap.size := Nat.lt_of_lt_of_le hg1 hb2.size
              have kr2 := (hb2.block (w.heap.size + 1) hlr).trans HKR.out
              obtain ⟨cr2, fr2⟩ := one_block kr2
              have t0 := cr2 0
              have t1 := cr2 1
              have HKR2 := hide kr2
              have HBY := hide (HBX.out.trans (hb2.mono HBX.out.size))
              clear hP hb2 cr2 kr2 r0 r1 fr p2 p3 p4
              go_wp2_with fail
              obtain ⟨f1, f2⟩ := FINE.out w2 51 k HBY.out HKR2.out
              exact HRET.out _ _ rfl rfl (by rw [HLE.out]; exact f1) f2
          · have hqq : (q == 8) = false := by simpa using hq
            obtain rfl : ah = 0 := by rw [hAE.out, if_neg hq]
            have HLE : Hid (L = (0, 0)) := by
              refine HLAY.out.trans (HEND.out.trans ?_)
              rw [HOE.out]; simp [HD.out]
            go_wp2_with fail
            refine hP.mono ?_
            rintro e w2 ⟨rfl, hb2⟩
            have kr2 := (hb2.block (w.heap.size + 1) hlr).trans HKR.out
            obtain ⟨cr2, fr2⟩ := one_block kr2
            have t0 := cr2 0
            have t1 := cr2 1
            have HKR2 := hide kr2
            have HBY := hide (HBX.out.trans (hb2.mono HBX.out.size))
            clear hP hb2 cr2 kr2 r0 r1 fr p1 p2 p3 p4
            go_wp2_with fail
            obtain ⟨f1, f2⟩ := FINE.out w2 0 0 HBY.out HKR2.out
            exact HRET.out _ _ rfl rfl (by rw [HLE.out]; exact f1) f2
  · have hE1 : (E != 0) = true := by simpa using hE0
    have HLE : Hid (L = (E, P)) := HLL.out.trans (HSFE.out.1 hE0)
    have HKR := hide kr
    clear hE0
    go_wp2_with fail
    obtain ⟨f1, f2⟩ := FINE.out w1 E P HB1.out HKR.out
    refine HRET.out _ _ rfl rfl ?_ (f2.alloc f2.size _)
    rw [HLE.out]
    refine (Below.heap_alloc _ _ _ ?_).trans f1
    rw [World.size_setCell, World.size_setCell]; exact hHl1
end Go.Proofs.YtjjoggpddafajaaGreat
