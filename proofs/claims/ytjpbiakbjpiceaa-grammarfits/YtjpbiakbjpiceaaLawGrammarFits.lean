/-
  The law GrammarFits answers true, for every operation and every list of kinds.
-/
import Derived.WalkSpells
import Derived.Deep.QuietTactic
import Derived.BigQuiet
import Derived.Test.YtjpbiakbjpiceaaGrammarFits
import Derived.Test.YtjpbiakbjpiceaaRef03Fits
namespace Go.Proofs.Ytjpbiakbjpiceaa
open Go.RowKit
set_option linter.unusedVariables false

theorem u8Info : (Try.prog.info? 5).map (fun i => (i.zero, i.size, i.bytes)) = some (some (.int .u8 0), 1, 1) := by kernel_rfl

set_option maxRecDepth 10000 in
set_option maxHeartbeats 2000000 in
theorem grammarFits_true (w : World) (n : Int) (hn : (Lit.int .u16 n).wf = true) (a : Option Addr) (m cap : Nat) (zs : List Int) (hl : zs.length = m) (hv : View .u8 w a zs) (hw : Within 256 zs) (hm : 1 * m ≤ 140737488351232) :
    Calls Try.prog 6 #[.int .u16 n, .slice a m cap] w fun e w' => e = .returned (.bool true) ∧ Below w.heap.size w w' := by
  obtain ⟨i0, hi, hz0, hz1, hz2⟩ := info_parts u8Info
  have hR := refFits_any n a m cap zs w hv hl (by omega)
  have HF : Hid (∀ b c w, View .u8 w b zs → _) := fun b c w (hv : View .u8 w b zs) => fits_any n b m c zs w hv hl (by omega)
  have HL : Hid (zs.length = m) := hl
  have HV : Hid (View .u8 w a zs) := hv
  have hm' : m ≤ 140737488351232 := by omega
  clear hl hv hm hw hn
  generalize (fitsI (lookF refT n).2 (lookF refT n).1 zs).1 = x at *
  generalize (fitsI (lookF refT n).2 (lookF refT n).1 zs).2 = y at *
  go_enter Try.func6, Try.ntmps6
  go_wp2_with fail
  refine hR.mono ?_
  rintro e w1 ⟨rfl, hb1⟩
  clear hR
  go_wp2_with (at_make; refine wpList_make_full _ rfl _ _ 33 rfl w1.heap.size 5 i0 (.int .u8 0) 1 Try.underlying33 hi hz0 hz1 _ _ _ _ m rfl rfl (by omega) (by omega) (by rw [hz2]; omega) (by unfold maxLen; omega) (Nat.le_refl _) ?_)
  intro w2 hown2 hgrow2
  have hb2 : Below w1.heap.size w1 w2 := (Below.refl _ w1).grown hgrow2 (Nat.le_refl _) (by simp)
  have hr2 := made_row zs hown2
  have HV1 : Hid (View .u8 w1 a zs) := HV.out.below hb1
  clear hown2 hgrow2
  go_wp2
  go_loopw [8] (fun i wr => ∃ k : Nat, k ≤ m ∧ i = .int .i64 k ∧ wr.ownsRow w1.heap.size 5 1 (.slice (some ⟨w1.heap.size, 0, none⟩) m m) m ((filled zs k m).map (Value.int .u8)) ∧ Below w1.heap.size w1 wr)
    (fun i _ => m - (intOf i).toNat)
  case atStart => exact ⟨0, Nat.zero_le _, rfl, hr2, hb2⟩
  case round =>
    obtain ⟨k, hk, rfl, hown, hnx⟩ := hrel
    clear hr2 hb2
    by_cases hlt : k < m
    · obtain ⟨b, off, rfl, hbs, hc⟩ := HV1.out k (by rw [HL.out]; exact hlt)
      obtain ⟨d1, d2, d3⟩ := fill_step hown hlt (by rw [HL.out]; exact hlt)
      have hcr : wr.cell? ⟨b, off + k, none⟩ = some (.int .u8 (nth zs k)) := (hnx.cell (p := ⟨b, off + k, none⟩) hbs).trans hc
      generalize nth zs k = z at hcr d3
      clear hc hown
      go_wp2
      go_roundw
      case rel => exact ⟨k + 1, by omega, by go_num, d3, hnx.setCell (Nat.le_refl _) _⟩
      case measure => simp [intOf]; omega
    · obtain rfl : k = m := by omega
      rw [filled_whole zs k HL.out] at hown
      have hvc := View.ofRow hown HL.out
      go_wp2_with fail
      refine (HF.out _ _ _ hvc).mono ?_
      rintro e w3 ⟨rfl, hb3⟩
      have HVC : Hid (View .u8 w3 (some ⟨w1.heap.size, 0, none⟩) zs) := hvc.below hb3
      have HB3 : Hid (Below w1.heap.size w1 w3) := hnx.trans (hb3.mono hnx.size)
      have HV3 : Hid (View .u8 w3 a zs) := HV1.out.below HB3.out
      clear hvc hb3 hown hnx HF
      go_wp2
      go_loopw [11] (fun i wr => ∃ j q : Nat, j ≤ k ∧ i = .int .i64 j ∧ wr = w3.drewN q) (fun i _ => k - (intOf i).toNat)
      case atStart => exact ⟨0, 0, Nat.zero_le _, rfl, rfl⟩
      case round =>
        obtain ⟨j, q, hj, rfl, rfl⟩ := hrel
        by_cases hjl : j < k
        · obtain ⟨b1, o1, e1, _, c1⟩ := HVC.out j (by rw [HL.out]; exact hjl)
          obtain ⟨b2, o2, rfl, _, c2⟩ := HV3.out j (by rw [HL.out]; exact hjl)
          cases e1
          rw [Nat.zero_add] at c1
          generalize nth zs j = z at c1 c2
          have hk0 : (0 : Int) ≤ (j : Int) := by omega
          have hki : (j : Int) < (k : Int) := by omega
          go_wp2
          go_quiet (fail)
          go_wp2
          go_roundw
          case rel => exact ⟨j + 1, _, by omega, by go_num, rfl⟩
          case measure => simp [intOf]; omega
        · go_wp2
          go_ret
          exact ⟨rfl, hb1.trans ((bel_drewN HB3.out q).mono hb1.size)⟩

end Go.Proofs.Ytjpbiakbjpiceaa
