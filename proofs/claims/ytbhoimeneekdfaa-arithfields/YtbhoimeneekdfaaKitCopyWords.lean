/-
  CopyWords of the kit answers the words in new memory.
-/
import Derived.WalkSpells
import Derived.Deep.QuietTactic
import Derived.BigQuiet
import Derived.Test.YtbhoimeneekdfaaProg
import Derived.Test.YtbhoimeneekdfaaMath
namespace Go.Proofs.Ytbhoimeneekdfaa
open Go.RowKit
set_option maxRecDepth 10000

theorem CopyWords.info : (Try.prog.info? 23).map (fun i => (i.zero, i.size, i.bytes)) = some (some (.int .u32 0), 1, 4) := by kernel_rfl

set_option maxHeartbeats 400000 in
theorem copyWords_any (a : Option Addr) (n cap : Nat) (zs : List Int) (w : World) (ha : View .u32 w a zs) (hl : zs.length = n) (hn : 4 * n ≤ 140737488351232) :
    Calls Try.prog 12 #[.slice a n cap] w fun e w' => e = .returned (.slice (some ⟨w.heap.size, 0, none⟩) n n) ∧
      w'.ownsRow w.heap.size 23 1 (.slice (some ⟨w.heap.size, 0, none⟩) n n) n (zs.map (Value.int .u32)) ∧ Below w.heap.size w w' := by
  obtain ⟨i0, hi, hz0, hz1, hz2⟩ := info_parts CopyWords.info
  have HL : Hid (zs.length = n) := hl
  clear hl
  go_enter Try.func12, Try.ntmps12
  go_wp2_with (at_make; refine wpList_make_full _ rfl _ _ 28 rfl w.heap.size 23 i0 (.int .u32 0) 1 Try.underlying28 hi hz0 hz1 _ _ _ _ n rfl rfl (by omega) (by omega) (by rw [hz2]; omega) (by unfold maxLen; omega) (Nat.le_refl _) ?_)
  intro w1 hown1 hgrow1
  have hb1 : Below w.heap.size w w1 := (Below.refl _ w).grown hgrow1 (Nat.le_refl _) (by simp)
  have hr1 := made_row zs hown1
  clear hown1 hgrow1
  go_wp2
  go_loopw [4] (fun i wr => ∃ k : Nat, k ≤ n ∧ i = .int .i64 k ∧ wr.ownsRow w.heap.size 23 1 (.slice (some ⟨w.heap.size, 0, none⟩) n n) n ((filled zs k n).map (Value.int .u32)) ∧ Below w.heap.size w wr)
    (fun i _ => n - (intOf i).toNat)
  case atStart => exact ⟨0, Nat.zero_le _, rfl, hr1, hb1⟩
  case round =>
    obtain ⟨k, hk, rfl, hown, hnx⟩ := hrel
    clear hr1 hb1
    by_cases hlt : k < n
    · obtain ⟨b, off, rfl, hbs, hc⟩ := ha k (by rw [HL.out]; exact hlt)
      obtain ⟨d1, d2, d3⟩ := fill_step hown hlt (by rw [HL.out]; exact hlt)
      have hcr : wr.cell? ⟨b, off + k, none⟩ = some (.int .u32 (nth zs k)) := (hnx.cell (p := ⟨b, off + k, none⟩) hbs).trans hc
      generalize nth zs k = x at hcr d3
      clear hc ha hown
      go_wp2
      go_roundw
      case rel => exact ⟨k + 1, by omega, by go_num, d3, hnx.setCell (Nat.le_refl _) _⟩
      case measure => simp [intOf]; omega
    · go_wp2
      go_ret
      obtain rfl : k = n := by omega
      rw [filled_whole zs k HL.out] at hown
      exact ⟨rfl, hown, hnx⟩

end Go.Proofs.Ytbhoimeneekdfaa
