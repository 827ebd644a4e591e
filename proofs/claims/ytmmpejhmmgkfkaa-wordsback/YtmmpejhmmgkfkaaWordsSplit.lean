/-
  What Split of the words package returns, for every list of bytes: its error, and its words in new memory; nothing that was there has turned.
-/
import Derived.WalkSpells
import Derived.BigRegion
import Derived.Deep.RegionWith
import Derived.Deep.DrawnRows
import Derived.Test.YtmmpejhmmgkfkaaProg
import Derived.Test.YtmmpejhmmgkfkaaMath
import Derived.Test.YtmmpejhmmgkfkaaWordsAtPlace
namespace Go.Proofs.Ytmmpejhmmgkfkaa
open Go.RowKit

theorem Split.info : (Try.prog.info? 33).map (fun i => (i.zero, i.size, i.bytes)) = some (some (.int .u32 0), 1, 4) := by kernel_rfl

theorem split_large (a : Option Addr) (n cap : Nat) (w : World) (h : 4194304 < n) :
    Calls Try.prog 11 #[.slice a n cap] w fun e w' => e = .returned (.tuple #[.slice none 0 0, .int .i64 4]) ∧ w = w' := by
  have h' : (4194304 : Int) < (n : Int) := by omega
  go_enter Try.func11, Try.ntmps11
  go_wp2
  go_ret2
  exact ⟨rfl, rfl⟩

theorem split_odd (a : Option Addr) (n cap : Nat) (w : World) (h : ¬ 4194304 < n) (h2 : ¬ n % 4 = 0) :
    Calls Try.prog 11 #[.slice a n cap] w fun e w' => e = .returned (.tuple #[.slice none 0 0, .int .i64 10]) ∧ w = w' := by
  have h' : ¬ (4194304 : Int) < (n : Int) := by omega
  have h2' : (((n : Int) % 4) == 0) = false := by simp; omega
  go_enter Try.func11, Try.ntmps11
  go_wp2
  go_ret2
  exact ⟨rfl, rfl⟩

set_option maxHeartbeats 1000000 in
theorem split_ok (a : Option Addr) (m cap : Nat) (zs : List Int) (w : World) (ha : View .u8 w a zs) (hl : zs.length = 4 * m) (hw : Within 256 zs) (h : ¬ 4194304 < 4 * m) :
    Calls Try.prog 11 #[.slice a (4 * m) cap] w fun e w' => e = .returned (.tuple #[.slice (some ⟨w.heap.size, 0, none⟩) m m, .int .i64 0]) ∧
      w'.ownsRow w.heap.size 33 1 (.slice (some ⟨w.heap.size, 0, none⟩) m m) m ((splitL zs).map (Value.int .u32)) ∧ Below w.heap.size w w' := by
  obtain ⟨i0, hi, hz0, hz1, hz2⟩ := info_parts Split.info
  have HL : Hid (zs.length = 4 * m) := hl
  clear hl
  have h' : ¬ (4194304 : Int) < 4 * (m : Int) := by omega
  go_enter Try.func11, Try.ntmps11
  go_wp2_with (at_make; refine wpList_make_full _ rfl _ _ 23 rfl w.heap.size 33 i0 (.int .u32 0) 1 Try.underlying23 hi hz0 hz1 _ _ _ _ m rfl rfl (by omega) (by omega) (by rw [hz2]; omega) (by unfold maxLen; omega) (Nat.le_refl _) ?_)
  intro w1 hown1 hgrow1
  have hb1 : Below w.heap.size w w1 := (Below.refl _ w).grown hgrow1 (Nat.le_refl _) (by simp)
  have hr1 := made_row zs hown1
  rw [← partL_zero zs zs] at hr1
  clear hown1 hgrow1
  go_wp2
  go_loopw [20] (fun i wr => ∃ k : Nat, k ≤ 4 * m ∧ i = .int .i64 k ∧ wr.ownsRow w.heap.size 33 1 (.slice (some ⟨w.heap.size, 0, none⟩) m m) m ((partL zs k m).map (Value.int .u32)) ∧ Below w.heap.size w wr)
    (fun i _ => 4 * m - (intOf i).toNat)
  case atStart => exact ⟨0, Nat.zero_le _, rfl, hr1, hb1⟩
  case round =>
    obtain ⟨k, hk, rfl, hown, hnx⟩ := hrel
    clear hr1 hb1
    by_cases hlt : k < 4 * m
    · obtain ⟨b, off, rfl, hbs, hc⟩ := ha k (by rw [HL.out]; exact hlt)
      have hx := hw.at (k := k) (by rw [HL.out]; exact hlt)
      have hcr : wr.cell? ⟨b, off + k, none⟩ = some (.int .u8 (nth zs k)) := (hnx.cell (p := ⟨b, off + k, none⟩) hbs).trans hc
      have hpb := partW_bounds zs k (k / 4) hw (by rw [HL.out]; omega)
      have HP : Hid (bits .or .u32 (partW zs k (k / 4)) (plc (nth zs k) (k % 4)) = partW zs (k + 1) (k / 4)) := partW_step zs k hw (by rw [HL.out]; exact hlt)
      have hd : wr.cell? ⟨w.heap.size, k / 4, none⟩ = some (.int .u32 (partW zs k (k / 4))) := by
        rw [hown.cellAt (k / 4) (by omega)]
        have : k / 4 < m := by omega
        simp [partL, this]
      have hf : wr.frozen? ⟨w.heap.size, k / 4, none⟩ = false := hown.frozenAt _
      have hs := (hown.stored (k / 4) (.int .u32 (partW zs (k + 1) (k / 4)))).1
      rw [← List.map_set, partL_set] at hs
      generalize nth zs k = x at hx hcr HP
      generalize partW zs k (k / 4) = y at hpb hd HP
      have hx0 := hx.1
      have hx1 := hx.2
      have hy0 := hpb.1
      have hy1 := hpb.2
      have hk0 : (0 : Int) ≤ (k : Int) / 4 := by omega
      have hk4 : (k : Int) / 4 < (m : Int) := by omega
      have eq : (k : Int).tdiv 4 = ((k / 4 : Nat) : Int) := by rw [Int.tdiv_eq_ediv_of_nonneg (by omega)]; omega
      have em : (k : Int).tmod 4 = ((k % 4 : Nat) : Int) := by rw [Int.tmod_eq_emod_of_nonneg (by omega)]; omega
      have eq' : (k : Int) / 4 = ((k / 4 : Nat) : Int) := by omega
      have em' : (k : Int) % 4 = ((k % 4 : Nat) : Int) := by omega
      have hj : k / 4 < m := by omega
      have hr : k % 4 < 4 := by omega
      have HS : Hid ((wr.setCell ⟨w.heap.size, k / 4, none⟩ (.int .u32 (bits .or .u32 y (plc x (k % 4))))).ownsRow w.heap.size 33 1 (.slice (some ⟨w.heap.size, 0, none⟩) m m) m ((partL zs (k + 1) m).map (Value.int .u32))) := by rw [HP.out]; exact hs
      clear hc hx hpb hown ha hs HP hk0 hk4
      generalize k / 4 = j at *
      generalize k % 4 = r at *
      have hA := fun wx => atPlace_any x (r : Int) wx hx0 hx1 (by omega) (by omega)
      have hj0 : (0 : Int) ≤ (j : Int) := by omega
      have hj1 : (j : Int) < (m : Int) := by omega
      have hwj : IntKind.i64.wrap (j : Int) = (j : Int) := by rw [IntKind.wrap_i64]; omega
      go_wp2
      go_region_with (go_at_call 25; refine (hA _).mono ?_; rintro e w' ⟨rfl, rfl⟩)
      all_goals
        go_wp2
        go_roundw
        case rel => exact ⟨k + 1, by omega, by go_num, HS.out.drew, (hnx.setCell (Nat.le_refl _) _).drew⟩
        case measure => simp [intOf]; omega
    · go_wp2
      go_ret2
      obtain rfl : k = 4 * m := by omega
      have e := partL_whole zs (by rw [HL.out]; omega)
      rw [HL.out, show 4 * m / 4 = m by omega] at e
      rw [e] at hown
      exact ⟨rfl, hown, hnx⟩

theorem split_any (a : Option Addr) (n cap : Nat) (zs : List Int) (w : World) (ha : View .u8 w a zs) (hl : zs.length = n) (hw : Within 256 zs) :
    Calls Try.prog 11 #[.slice a n cap] w fun e w' => ∃ ax m, e = .returned (.tuple #[.slice ax m m, .int .i64 (splitErr zs)]) ∧ (splitOut zs).length = m ∧ View .u32 w' ax (splitOut zs) ∧ NewAt w.heap.size ax ∧ Below w.heap.size w w' := by
  by_cases h : 4194304 < n
  · refine (split_large a n cap w h).mono ?_
    rintro e w' ⟨rfl, rfl⟩
    rw [splitErr_large zs (by omega), splitOut_large zs (by omega)]
    exact ⟨none, 0, rfl, rfl, view_nil, newAt_none, Below.refl _ _⟩
  · by_cases h2 : n % 4 = 0
    · obtain ⟨m, rfl⟩ : ∃ m, n = 4 * m := ⟨n / 4, by omega⟩
      refine (split_ok a m cap zs w ha hl hw h).mono ?_
      rintro e w' ⟨rfl, hown, hb⟩
      rw [splitErr_ok zs (by omega) (by omega), splitOut_ok zs (by omega) (by omega)]
      have hs : (splitL zs).length = m := by rw [splitL_len, hl]; omega
      exact ⟨_, m, rfl, hs, View.ofRow hown hs, newAt_mk (Nat.le_refl _), hb⟩
    · refine (split_odd a n cap w h h2).mono ?_
      rintro e w' ⟨rfl, rfl⟩
      rw [splitErr_odd zs (by omega) (by omega), splitOut_odd zs (by omega) (by omega)]
      exact ⟨none, 0, rfl, rfl, view_nil, newAt_none, Below.refl _ _⟩

end Go.Proofs.Ytmmpejhmmgkfkaa
