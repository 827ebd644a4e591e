/-
  What OfText of the words package returns, for every string: its error, or its words in new memory; nothing that was there has turned.
-/
import Derived.WalkSpells
import Derived.BigRegion
import Derived.Deep.RegionWith
import Derived.Deep.DrawnRows
import Derived.Test.YtmmpejhmmgkfkabMathS
import Derived.Test.YtmmpejhmmgkfkabWordsAtPlace
import Derived.Test.YtmmpejhmmgkfkabStringsIndexByte
namespace Go.Proofs.Ytmmpejhmmgkfkab
open Go.RowKit

theorem OfText.info : (Try.prog.info? 38).map (fun i => (i.zero, i.size, i.bytes)) = some (some (.int .u32 0), 1, 4) := by kernel_rfl

theorem ofText_nul (s : ByteArray) (w : World) (k : Nat) (hk : k < s.size) (h : nth (strI s) k = 0) :
    Calls Try.prog 6 #[.string s] w fun e w' => e = .returned (.tuple #[.slice none 0 0, .int .i64 13]) ∧ w = w' := by
  have hi := index_some s k hk h
  have hI := indexByte_any s w
  generalize Lib.indexByte s.data.toList (0 : Int).toNat.toUInt8 = r at hi hI
  clear h hk
  go_enter Try.func6, Try.ntmps6
  go_wp2_with fail
  refine hI.mono ?_
  rintro e w' ⟨rfl, rfl⟩
  go_wp2
  go_ret2
  exact ⟨rfl, rfl⟩

theorem ofText_large (s : ByteArray) (w : World) (hs : s.size ≤ 140737488351232) (h : NoNul s) (hl : 65535 < s.size / 4 + 1) :
    Calls Try.prog 6 #[.string s] w fun e w' => e = .returned (.tuple #[.slice none 0 0, .int .i64 4]) ∧ w = w' := by
  have hI := indexByte_any s w
  rw [index_none s h] at hI
  have hl' : (65535 : Int) < (s.size : Int) / 4 + 1 := by omega
  clear h
  go_enter Try.func6, Try.ntmps6
  go_wp2_with fail
  refine hI.mono ?_
  rintro e w' ⟨rfl, rfl⟩
  go_wp2
  go_ret2
  exact ⟨rfl, rfl⟩

theorem room_any (s : ByteArray) (w : World) (hs : s.size ≤ 140737488351232) :
    Calls Try.prog 8 #[.string s] w fun e w' => e = .returned (.int .i64 ((s.size / 4 + 1 : Nat) : Int)) ∧ w = w' := by
  go_enter Try.func8, Try.ntmps8
  go_wp2
  go_ret
  exact ⟨ret_int (by omega), rfl⟩

set_option maxHeartbeats 1000000 in
theorem ofText_ok (s : ByteArray) (w : World) (h : NoNul s) (hl : s.size / 4 + 1 ≤ 65535) :
    Calls Try.prog 6 #[.string s] w fun e w' => e = .returned (.tuple #[.slice (some ⟨w.heap.size, 0, none⟩) (s.size / 4 + 1) (s.size / 4 + 1), .int .i64 0]) ∧
      w'.ownsRow w.heap.size 38 1 (.slice (some ⟨w.heap.size, 0, none⟩) (s.size / 4 + 1) (s.size / 4 + 1)) (s.size / 4 + 1) ((textW s).map (Value.int .u32)) ∧ Below w.heap.size w w' := by
  obtain ⟨i0, hi, hz0, hz1, hz2⟩ := info_parts OfText.info
  have hI := indexByte_any s w
  rw [index_none s h] at hI
  have hR := fun wx => room_any s wx (by omega)
  have HT : Hid (partL (padI s) s.size (s.size / 4 + 1) = textW s) := partL_padI s
  clear h
  obtain ⟨m, hm⟩ : ∃ m, m = s.size / 4 + 1 := ⟨_, rfl⟩
  rw [← hm] at HT hR ⊢
  have HM : Hid (m = s.size / 4 + 1) := hm
  have hsz : s.size < 4 * m := by omega
  have hm2 : m ≤ 65535 := by omega
  have hl' : ¬ (65535 : Int) < (m : Int) := by omega
  clear hm hl
  go_enter Try.func6, Try.ntmps6
  go_wp2_with fail
  refine hI.mono ?_
  rintro e w' ⟨rfl, rfl⟩
  go_wp2_with (first | (go_at_call 8; refine (hR _).mono ?_; rintro e w' ⟨rfl, rfl⟩) | (at_make; refine wpList_make_full _ rfl _ _ 22 rfl w.heap.size 38 i0 (.int .u32 0) 1 Try.underlying22 hi hz0 hz1 _ _ _ _ m rfl rfl (by omega) (by omega) (by rw [hz2]; omega) (by unfold maxLen; omega) (Nat.le_refl _) ?_))
  intro w1 hown1 hgrow1
  have hb1 : Below w.heap.size w w1 := (Below.refl _ w).grown hgrow1 (Nat.le_refl _) (by simp)
  have hr1 := made_row (padI s) hown1
  rw [← partL_zero (padI s) (padI s)] at hr1
  clear hown1 hgrow1
  go_wp2
  go_loopw [17] (fun i wr => ∃ k : Nat, k ≤ s.size ∧ i = .int .i64 k ∧ wr.ownsRow w.heap.size 38 1 (.slice (some ⟨w.heap.size, 0, none⟩) m m) m ((partL (padI s) k m).map (Value.int .u32)) ∧ Below w.heap.size w wr)
    (fun i _ => s.size - (intOf i).toNat)
  case atStart => exact ⟨0, Nat.zero_le _, rfl, hr1, hb1⟩
  case round =>
    obtain ⟨k, hk, rfl, hown, hnx⟩ := hrel
    clear hr1 hb1
    by_cases hlt : k < s.size
    · have hpb := partW_bounds (padI s) k (k / 4) (padI_within s) (by rw [padI_len]; omega)
      have HP : Hid (bits .or .u32 (partW (padI s) k (k / 4)) (plc (s[k].toNat : Int) (k % 4)) = partW (padI s) (k + 1) (k / 4)) := by
        have := partW_step (padI s) k (padI_within s) (by rw [padI_len]; omega)
        rw [padI_lo s k hlt, nth_strI s k hlt] at this
        exact this
      have hd : wr.cell? ⟨w.heap.size, k / 4, none⟩ = some (.int .u32 (partW (padI s) k (k / 4))) := by
        rw [hown.cellAt (k / 4) (by omega)]
        have : k / 4 < m := by omega
        simp [partL, this]
      have hf : wr.frozen? ⟨w.heap.size, k / 4, none⟩ = false := hown.frozenAt _
      have hs := (hown.stored (k / 4) (.int .u32 (partW (padI s) (k + 1) (k / 4)))).1
      rw [← List.map_set, partL_set] at hs
      have hx1 : (s[k].toNat : Int) < 256 := by have := s[k].toNat_lt; omega
      generalize partW (padI s) k (k / 4) = y at hpb hd HP
      have hy0 := hpb.1
      have hy1 := hpb.2
      have eq : (k : Int).tdiv 4 = ((k / 4 : Nat) : Int) := by rw [Int.tdiv_eq_ediv_of_nonneg (by omega)]; omega
      have em : (k : Int).tmod 4 = ((k % 4 : Nat) : Int) := by rw [Int.tmod_eq_emod_of_nonneg (by omega)]; omega
      have eq' : (k : Int) / 4 = ((k / 4 : Nat) : Int) := by omega
      have em' : (k : Int) % 4 = ((k % 4 : Nat) : Int) := by omega
      have hj : k / 4 < m := by omega
      have hr : k % 4 < 4 := by omega
      have HS : Hid ((wr.setCell ⟨w.heap.size, k / 4, none⟩ (.int .u32 (bits .or .u32 y (plc (s[k].toNat : Int) (k % 4))))).ownsRow w.heap.size 38 1 (.slice (some ⟨w.heap.size, 0, none⟩) m m) m ((partL (padI s) (k + 1) m).map (Value.int .u32))) := by rw [HP.out]; exact hs
      clear hpb hown hs HP hl' hI hR
      generalize k / 4 = j at *
      generalize k % 4 = r at *
      have hA := fun wx => atPlace_any (s[k].toNat : Int) (r : Int) wx (by omega) hx1 (by omega) (by omega)
      have hj0 : (0 : Int) ≤ (j : Int) := by omega
      have hj1 : (j : Int) < (m : Int) := by omega
      have hk0 : (0 : Int) ≤ (k : Int) := by omega
      have hk1 : (k : Int) < (s.size : Int) := by omega
      have hwj : IntKind.i64.wrap (j : Int) = (j : Int) := by rw [IntKind.wrap_i64]; omega
      go_wp2
      go_region_with (go_at_call 20; refine (hA _).mono ?_; rintro e w' ⟨rfl, rfl⟩)
      all_goals
        go_wp2
        go_roundw
        case rel => exact ⟨k + 1, by omega, by go_num, HS.out.drew, (hnx.setCell (Nat.le_refl _) _).drew⟩
        case measure => simp [intOf]; omega
    · go_wp2
      go_ret2
      obtain rfl : k = s.size := by omega
      rw [HT.out] at hown
      exact ⟨rfl, hown, hnx⟩

end Go.Proofs.Ytmmpejhmmgkfkab
