/-
  What Join of the document's answer returns: the bytes of words, in new memory; for every list of words whose bytes take at most 2^47 - 4096.
-/
import Derived.WalkSpells
import Derived.Test.YtmmpejhmmgkfkaaProg
import Derived.Test.YtmmpejhmmgkfkaaMath
import Derived.Test.YtmmpejhmmgkfkaaRef01Byte
namespace Go.Proofs.Ytmmpejhmmgkfkaa
open Go.RowKit

theorem RefJoin.info : (Try.prog.info? 5).map (fun i => (i.zero, i.size, i.bytes)) = some (some (.int .u8 0), 1, 1) := by kernel_rfl

set_option maxHeartbeats 400000 in
theorem refJoin_any (a : Option Addr) (n cap : Nat) (zs : List Int) (w : World) (ha : View .u32 w a zs) (hl : zs.length = n) (hn : 4 * n ≤ 140737488351232) (hw : Within 4294967296 zs) :
    Calls Try.prog 16 #[.slice a n cap] w fun e w' => e = .returned (.slice (some ⟨w.heap.size, 0, none⟩) (4 * n) (4 * n)) ∧
      w'.ownsRow w.heap.size 5 1 (.slice (some ⟨w.heap.size, 0, none⟩) (4 * n) (4 * n)) (4 * n) ((joinL zs).map (Value.int .u8)) ∧ Below w.heap.size w w' := by
  obtain ⟨i0, hi, hz0, hz1, hz2⟩ := info_parts RefJoin.info
  have hJ := joinL_len zs
  have HL : Hid ((joinL zs).length = 4 * n) := by rw [hJ, hl]; rfl
  clear hJ
  have HB : ∀ wx, Below w.heap.size w wx → ∀ k : Nat, k < 4 * n → Calls Try.prog 27 #[.slice a n cap, .int .i64 k] wx fun e w' => e = .returned (.int .u8 (nth (joinL zs) k)) ∧ wx = w' :=
    fun wx hx k hk => refByte_nat a n cap zs wx k (ha.below hx) hl hw hn hk
  generalize joinL zs = js at HL HB ⊢
  clear ha hl hw
  go_enter Try.func16, Try.ntmps16
  go_wp2_with (at_make; refine wpList_make_full _ rfl _ _ 22 rfl w.heap.size 5 i0 (.int .u8 0) 1 Try.underlying22 hi hz0 hz1 _ _ _ _ (4 * n) rfl rfl (by omega) (by omega) (by rw [hz2]; omega) (by unfold maxLen; omega) (Nat.le_refl _) ?_)
  intro w1 hown1 hgrow1
  have hb1 : Below w.heap.size w w1 := (Below.refl _ w).grown hgrow1 (Nat.le_refl _) (by simp)
  have hr1 := made_row js hown1
  clear hown1 hgrow1
  go_wp2
  go_loopw [4] (fun i wr => ∃ k : Nat, k ≤ 4 * n ∧ i = .int .i64 k ∧ wr.ownsRow w.heap.size 5 1 (.slice (some ⟨w.heap.size, 0, none⟩) (4 * n) (4 * n)) (4 * n) ((filled js k (4 * n)).map (Value.int .u8)) ∧ Below w.heap.size w wr)
    (fun i _ => 4 * n - (intOf i).toNat)
  case atStart => exact ⟨0, Nat.zero_le _, rfl, hr1, hb1⟩
  case round =>
    obtain ⟨k, hk, rfl, hown, hnx⟩ := hrel
    clear hr1 hb1
    by_cases hlt : k < 4 * n
    · obtain ⟨d1, d2, d3⟩ := fill_step hown hlt (by rw [HL.out]; exact hlt)
      have hcall := HB wr hnx k hlt
      generalize nth js k = x at hcall d3
      have HC := hcall
      clear hown hcall
      go_wp2_with (go_at_call 27; refine HC.mono ?_; rintro e w' ⟨rfl, rfl⟩)
      go_roundw
      case rel => exact ⟨k + 1, by omega, by go_num, d3, hnx.setCell (Nat.le_refl _) _⟩
      case measure => simp [intOf]; omega
    · go_wp2
      go_ret
      obtain rfl : k = 4 * n := by omega
      rw [filled_whole js _ HL.out] at hown
      exact ⟨rfl, hown, hnx⟩

end Go.Proofs.Ytmmpejhmmgkfkaa
