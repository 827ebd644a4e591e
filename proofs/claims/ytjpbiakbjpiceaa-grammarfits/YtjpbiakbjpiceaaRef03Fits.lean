/-
  What Fits of the document's answer returns, for every operation and every list of kinds.
-/
import Derived.WalkSpells
import Derived.WalkMore
import Derived.BigRegion
import Derived.Deep.RegionWith
import Derived.Deep.QuietTactic
import Derived.BigQuiet
import Derived.Test.YtjpbiakbjpiceaaGrammarFits
import Derived.Test.YtjpbiakbjpiceaaRef03Letter
namespace Go.Proofs.Ytjpbiakbjpiceaa
open Go.RowKit
set_option linter.unusedVariables false
set_option linter.unusedSimpArgs false

theorem rows_whole (fx rs m d : Nat) (hd : rs ∣ d) (hge : m ≤ fx + d) (h : d = 0 ∨ (fx + d < m + rs)) : (decide ((m : Int) - fx = 0) || (decide (0 < (m : Int) - fx) && decide (((m : Int) - fx) % rs = 0))) = decide (fx + d = m) := by
  rw [Bool.eq_iff_iff]
  simp only [Bool.or_eq_true, Bool.and_eq_true, decide_eq_true_eq]
  constructor
  · rintro (h1 | ⟨h1, h2⟩)
    · rcases h with rfl | h
      · omega
      · have hdz : d = 0 := Nat.eq_zero_of_dvd_of_lt hd (by omega)
        omega
    · have hlt : fx < m := by omega
      have e : ((m : Int) - fx) = ((m - fx : Nat) : Int) := by omega
      rw [e] at h2
      have h3 : rs ∣ (m - fx) := by exact_mod_cast Int.dvd_of_emod_eq_zero h2
      rcases h with rfl | h
      · omega
      · have h4 : rs ∣ d - (m - fx) := Nat.dvd_sub hd h3
        have := Nat.eq_zero_of_dvd_of_lt h4 (by omega)
        omega
  · intro h1
    by_cases hz : (m : Int) - fx = 0
    · exact .inl hz
    · refine .inr ⟨by omega, ?_⟩
      have e : ((m : Int) - fx) = (d : Int) := by omega
      rw [e]
      exact Int.emod_eq_zero_of_dvd (by exact_mod_cast hd)

set_option maxRecDepth 10000 in
set_option maxHeartbeats 4000000 in
theorem refFits_any (n : Int) (a : Option Addr) (m cap : Nat) (zs : List Int) (w : World) (hv : View .u8 w a zs) (hl : zs.length = m) (hm : m ≤ 140737488351232) :
    Calls Try.prog 17 #[.int .u16 n, .slice a m cap] w fun e w' => e = .returned (.tuple #[.int .i64 (fitsI (lookF refT n).2 (lookF refT n).1 zs).1, .bool (fitsI (lookF refT n).2 (lookF refT n).1 zs).2]) ∧ Below w.heap.size w w' := by
  have hR := fun w => refOf_any n w
  obtain ⟨mm, hmm⟩ := ofV_look n
  rw [hmm] at hR
  clear hmm
  have HL : Hid (zs.length = m) := hl
  have HLT : Hid (∀ (i : Int) w, i < 9223372036854775808 → _) := fun i w (h : i < 9223372036854775808) => refLetter_any n i w h
  have hs := look_short n
  clear hl
  generalize (lookF refT n).1 = f at *
  generalize (lookF refT n).2 = is at *
  have hs2 := hs
  simp only [shortF, Bool.and_eq_true, decide_eq_true_eq] at hs2
  obtain ⟨⟨⟨s1, s2⟩, s3⟩, s4⟩ := hs2
  clear hs s3 s4
  cases is
  · unfold formV at hR
    clear HLT hv HL hm
    go_enter Try.func17, Try.ntmps17
    go_wp2_with fail
    refine (hR _).mono ?_
    rintro e w1 ⟨rfl, hb⟩
    clear hR
    go_wp2
    go_ret2
    exact ⟨rfl, hb.alloc hb.size _⟩
  · go_enter Try.func17, Try.ntmps17
    go_wp2_with fail
    refine (hR _).mono ?_
    rintro e w1 ⟨rfl, hb⟩
    clear hR
    have hbel : Below w.heap.size w (w1.alloc (.cells (frmCells mm f) 24)) := hb.alloc hb.size _
    have hblk := alloc_new w1 (frmCells mm f) 24
    unfold formV
    go_wp2_with fail
    rw [show (w1.alloc (.cells #[.int .u16 mm, .string f.1, .bool f.2.1, .bool f.2.2.1, .string f.2.2.2.1, .string f.2.2.2.2.1, .int .i64 f.2.2.2.2.2.1, .int .u8 f.2.2.2.2.2.2] 24)) = w1.alloc (.cells (frmCells mm f) 24) from rfl]
    have HV : Hid (∀ k, k < m → _) := fun k (hk : k < m) => (hv.below hbel) k (by rw [HL.out]; exact hk)
    have HB : Hid (Below w.heap.size w (w1.alloc (.cells (frmCells mm f) 24))) := hbel
    have HK : Hid ((w1.alloc (.cells (frmCells mm f) 24)).heap[w1.heap.size]? = some (.cells (frmCells mm f) 24 (0, 0))) := hblk
    have HZ : Hid (w1.heap.size < (w1.alloc (.cells (frmCells mm f) 24)).heap.size) := by show _ < _; simp
    generalize w1.alloc (.cells (frmCells mm f) 24) = W at *
    clear hbel hblk hb hv
    go_loopw [4, 5, 8] (fun r b i wr => r = .int .i64 0 ∧ b = .bool false ∧ ∃ k : Nat, k ≤ m ∧ i = .int .i64 k ∧ Below W.heap.size W wr ∧ ∀ j, j < k → badK f zs j = false) (fun _ _ i _ => m - (intOf i).toNat)
    case atStart => exact ⟨rfl, rfl, 0, Nat.zero_le _, rfl, Below.refl _ _, fun j hj => by omega⟩
    case round =>
      obtain ⟨rfl, rfl, k, hk, rfl, hbw, hno⟩ := hrel
      have HO : Hid (∀ j, j < k → badK f zs j = false) := hno
      clear hno
      by_cases hlt : k < m
      · obtain ⟨b, off, rfl, hbs, hcell⟩ := HV.out k hlt
        have HBK : Hid (badK f zs k = ((letterI f k == 0) || !(kindI (letterI f k) == nth zs k))) := rfl
        have HHIT : Hid (badK f zs k = true → fitsI true f zs = ((k : Int), false)) := fun hb => by
          have e := range_find zs.length k (by rw [HL.out]; exact hlt) HO.out hb
          show (match (List.range zs.length).find? (badK f zs) with | some k => ((k : Int), false) | none => _) = _
          rw [e]
        have HS : Hid (badK f zs k = false → ∀ j, j < k + 1 → badK f zs j = false) := fun hb j hj => by
          by_cases e : j = k
          · subst e; exact hb
          · exact HO.out j (by omega)
        have hLt := HLT.out k wr (by omega)
        have hKd := fun w => refKind_any (letterI f k) w
        generalize letterI f k = x at *
        generalize kindI x = y at *
        generalize nth zs k = z at *
        clear HO HV HLT
        go_wp2_with fail
        refine hLt.mono ?_
        rintro e w2 ⟨rfl, hb2⟩
        clear hLt
        have hbW : Below W.heap.size W w2 := hbw.trans (hb2.mono hbw.size)
        have hcw : w2.cell? ⟨b, off + k, none⟩ = some (.int .u8 z) := (hbW.cell (p := ⟨b, off + k, none⟩) hbs).trans hcell
        have hb2s : b < w2.heap.size := Nat.lt_of_lt_of_le hbs hbW.size
        have HW2 : Hid (Below W.heap.size W w2) := hbW
        clear hb2 hbw hcell hbW
        have hki : (k : Int) < (m : Int) := by omega
        have hk0 : (0 : Int) ≤ (k : Int) := by omega
        by_cases hx : x = 0
        · subst hx
          have HE : Hid (fitsI true f zs = ((k : Int), false)) := HHIT.out (by rw [HBK.out]; rfl)
          clear HHIT HS HBK
          go_wp2
          go_quiet (fail)
          go_wp2
          try rw [Exit.noGoto_ret]
          go_ret2
          exact ⟨by rw [HE.out]; rfl, HB.out.trans ((bel_drewN HW2.out _).mono HB.out.size)⟩
        · have hx' : (x == 0) = false := by simpa using hx
          clear hx
          have HY : Hid ((y = z → ∀ j, j < k + 1 → badK f zs j = false) ∧ (y ≠ z → fitsI true f zs = ((k : Int), false))) := ⟨fun h => HS.out (by rw [HBK.out, hx', h]; simp), fun h => HHIT.out (by rw [HBK.out, hx']; simpa using h)⟩
          clear HHIT HS HBK
          go_wp2
          go_region_with ((go_at_call 16; refine (hKd _).mono ?_; rintro e w3 ⟨rfl, hb3⟩; have hcx : w3.cell? ⟨b, off + k, none⟩ = some (.int .u8 z) := (hb3.cell (p := ⟨b, off + k, none⟩) hb2s).trans hcw))
          all_goals
            have HW3 : Hid (Below W.heap.size W w3) := HW2.out.drew.trans (hb3.mono HW2.out.size)
            clear hb3 hcx hKd
            by_cases hy : y = z
            · subst hy
              have HE : Hid (∀ j, j < k + 1 → badK f zs j = false) := HY.out.1 rfl
              clear HY
              go_wp2
              go_roundw
              case rel => exact ⟨rfl, rfl, k + 1, by omega, by go_num, HW3.out, HE.out⟩
              case measure => simp [intOf]; omega
            · have HE : Hid (fitsI true f zs = ((k : Int), false)) := HY.out.2 hy
              have hy' : (y != z) = true := by simpa using hy
              clear HY hy
              go_wp2
              try rw [Exit.noGoto_ret]
              go_ret2
              exact ⟨by rw [HE.out]; rfl, HB.out.trans (HW3.out.mono HB.out.size)⟩
      · obtain rfl : k = m := by omega
        have hno : ∀ j, j < zs.length → badK f zs j = false := fun j hj => HO.out j (by rw [HL.out] at hj; exact hj)
        have HF2 : Hid (fitsI true f zs = if wholeB f k then (0, true) else ((k : Int), false)) := by
          show (match (List.range zs.length).find? (badK f zs) with | some k => ((k : Int), false) | none => if wholeB f zs.length then (0, true) else ((zs.length : Int), false)) = _
          rw [range_not zs.length hno, HL.out]
        have HRS : Hid (f.2.2.2.1.size < k → f.2.2.2.2.1.size ≠ 0) := fun h => rest_of_letters hno (by rw [HL.out]; exact h)
        have HWH : Hid (wholeB f k = (decide ((k : Int) - f.2.2.2.1.size = 0) || (decide (0 < (k : Int) - f.2.2.2.1.size) && decide (((k : Int) - f.2.2.2.1.size) % f.2.2.2.2.1.size = 0)))) := rfl
        have hblk := (hbw.block _ HZ.out).trans HK.out
        obtain ⟨d0, d1, d2, d3, d4, d5, d6, d7, df⟩ := frm_cells hblk
        have HBW : Hid (Below W.heap.size W wr) := hbw
        generalize wholeB f k = y at *
        generalize f.2.2.2.1 = fx at *
        generalize f.2.2.2.2.1 = rs at *
        clear hno HO HV HLT hblk d0 d1 d2 d3 d6 d7 df hbw
        go_wp2
        go_loop [10] (fun i => ∃ d : Nat, i = .int .i64 ((fx.size : Int) + d) ∧ rs.size ∣ d ∧ (d = 0 ∨ fx.size + d < k + rs.size)) (fun i => (k + 1 - (intOf i).toNat))
        case atStart => exact ⟨0, by simp, Nat.dvd_zero _, .inl rfl⟩
        case round =>
          obtain ⟨d, rfl, hd, hd2⟩ := hrel
          have HD : Hid (rs.size ∣ d) := hd
          clear hd
          by_cases hl2 : fx.size + d < k
          · have hr0 : rs.size ≠ 0 := HRS.out (by omega)
            have ht : (fx.size : Int) + (d : Int) < (k : Int) := by omega
            have hdb : (d : Int) ≤ 140737488351232 := by omega
            go_wp2
            go_round
            case rel => exact ⟨d + rs.size, by go_num, Nat.dvd_add HD.out (Nat.dvd_refl _), .inr (by omega)⟩
            case measure => simp [intOf]; omega
          · have ht : ¬ (fx.size : Int) + (d : Int) < (k : Int) := by omega
            have e := rows_whole fx.size rs.size k d HD.out (by omega) hd2
            rw [← HWH.out] at e
            have HD2 : Hid (d = 0 ∨ fx.size + d < k + rs.size) := hd2
            clear HWH hd2
            by_cases hq : fx.size + d = k
            · have ey : y = true := by rw [e]; exact decide_eq_true hq
              subst ey
              have hq' : ((fx.size : Int) + (d : Int) != (k : Int)) = false := by simp; omega
              clear e hq
              go_wp2
              go_ret2
              exact ⟨by rw [HF2.out]; rfl, HB.out.trans (HBW.out.mono HB.out.size)⟩
            · have ey : y = false := by rw [e]; exact decide_eq_false hq
              subst ey
              have hq' : ((fx.size : Int) + (d : Int) != (k : Int)) = true := by simp; omega
              clear e hq
              go_wp2
              go_ret2
              exact ⟨by rw [HF2.out]; rfl, HB.out.trans (HBW.out.mono HB.out.size)⟩

end Go.Proofs.Ytjpbiakbjpiceaa
