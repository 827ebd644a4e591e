/-
  What Join of the words package returns, for every list of words whose bytes take at most 2^47 - 4096: their bytes, in new memory.
-/
import Derived.WalkSpells
import Derived.Test.YtmmpejhmmgkfkaaProg
import Derived.Test.YtmmpejhmmgkfkaaMath
import Derived.Test.YtmmpejhmmgkfkaaWordsByteAt
namespace Go.Proofs.Ytmmpejhmmgkfkaa
open Go.RowKit

theorem Join.info_u8 : (Try.prog.info? 5).map (fun i => (i.zero, i.size, i.bytes)) = some (some (.int .u8 0), 1, 1) := by kernel_rfl

set_option maxHeartbeats 400000 in
theorem join_any (a : Option Addr) (n cap : Nat) (zs : List Int) (w : World) (hv : View .u32 w a zs) (hl : zs.length = n) (hn : 4 * n ≤ 140737488351232) (hw : Within 4294967296 zs) :
    Calls Try.prog 15 #[.slice a n cap] w fun e w' => e = .returned (.slice (some ⟨w.heap.size, 0, none⟩) (4 * n) (4 * n)) ∧
      w'.ownsRow w.heap.size 5 1 (.slice (some ⟨w.heap.size, 0, none⟩) (4 * n) (4 * n)) (4 * n) ((joinL zs).map (Value.int .u8)) ∧ Below w.heap.size w w' := by
  obtain ⟨i0, hi, hz0, hz1, hz2⟩ := info_parts Join.info_u8
  have HL : Hid (zs.length = n) := hl
  clear hl
  go_enter Try.func15, Try.ntmps15
  go_wp2_with (at_make; refine wpList_make_own _ rfl _ _ 22 rfl w.heap.size 5 i0 (.int .u8 0) 1 Try.underlying22 hi hz0 hz1 _ _ _ (4 * n) rfl rfl (by omega) (by rw [hz2]; omega) (by unfold maxLen; omega) (Nat.le_refl _) ?_)
  intro w1 hown1 hgrow1
  have hb1 : Below w.heap.size w w1 := (Below.refl _ w).grown hgrow1 (Nat.le_refl _) (by simp)
  go_wp2
  go_loopw [3, 13] (fun v i wr => ∃ k : Nat, k ≤ n ∧ i = .int .i64 k ∧ v = .slice (some ⟨w.heap.size, 0, none⟩) (4 * k) (4 * n) ∧
      wr.ownsRow w.heap.size 5 1 (.slice (some ⟨w.heap.size, 0, none⟩) (4 * k) (4 * n)) (4 * k) ((joinL (zs.take k)).map (Value.int .u8)) ∧ Below w.heap.size w wr)
    (fun _ i _ => n - (intOf i).toNat)
  case atStart => exact ⟨0, Nat.zero_le _, rfl, rfl, hown1, hb1⟩
  case round =>
    obtain ⟨k, hk, rfl, rfl, hown, hnx⟩ := hrel
    by_cases hlt : k < n
    · obtain ⟨b, off, rfl, hbs, hc⟩ := hv k (by rw [HL.out]; exact hlt)
      have hx := hw.at (k := k) (by rw [HL.out]; exact hlt)
      have hJ := joinL_snoc zs k (by rw [HL.out]; exact hlt)
      obtain ⟨x, hxe⟩ : ∃ x, x = nth zs k := ⟨_, rfl⟩
      rw [← hxe] at hc hx hJ
      have HJ : Hid (joinL (zs.take (k + 1)) = joinL (zs.take k) ++ four x) := hJ
      have hcr : wr.cell? ⟨b, off + k, none⟩ = some (.int .u32 x) := (hnx.cell (p := ⟨b, off + k, none⟩) hbs).trans hc
      have hx0 := hx.1
      have hx1 := hx.2
      clear hx hxe hJ hc hw hv hown1 hgrow1 hb1
      go_wp2
      go_loopw [3, 17] (fun v i wq => ∃ p : Nat, p ≤ 4 ∧ i = .int .i64 p ∧ v = .slice (some ⟨w.heap.size, 0, none⟩) (4 * k + p) (4 * n) ∧
          wq.ownsRow w.heap.size 5 1 (.slice (some ⟨w.heap.size, 0, none⟩) (4 * k + p) (4 * n)) (4 * k + p) ((joinL (zs.take k) ++ (four x).take p).map (Value.int .u8)) ∧ Below w.heap.size w wq)
        (fun _ i _ => 4 - (intOf i).toNat)
      case atStart => exact ⟨0, by omega, rfl, rfl, by simpa using hown, hnx⟩
      case round =>
        obtain ⟨p, hp, rfl, rfl, hownp, hnp⟩ := hrel
        clear hcr hown hnx
        by_cases hplt : p < 4
        · go_wp2_with (first | (go_at_call 26; refine (byteAt_any _ _ _ hx0 hx1 (by omega) (by omega)).mono ?_; rintro e w' ⟨rfl, rfl⟩) | (at_builtin; refine wpList_append_fits _ rfl (.tmp 20) (.tmp 24) 22 rfl w.heap.size 5 i0 1 Try.underlying22 hi hz1 w.heap.size (4 * k + p) (4 * n) _ rfl (hownp.alloc _) ⟨wr.heap.size, 0, none⟩ 1 1 [.int .u8 (byt x p)] rfl rfl (cell_one_new _ _ _) (ints_oneCell .u8 [byt x p]) (by omega) ?_; intro w4 hown4 hgrow4))
          go_roundw
          case rel =>
            refine ⟨p + 1, by omega, by go_num, rfl, ?_, ?_⟩
            · rw [four_snoc x p hplt, ← List.append_assoc, List.map_append]; exact hown4
            · exact (hnp.alloc hnp.size _).grown hgrow4 (by have := hnp.size; simp; omega) (fun j hj => by cases hj; exact Nat.le_refl _)
          case measure => simp [intOf]; omega
        · go_wp2
          go_roundw
          case rel =>
            obtain rfl : p = 4 := by omega
            refine ⟨k + 1, by omega, by go_num, rfl, ?_, hnp⟩
            rw [HJ.out]; exact hownp
          case measure => simp [intOf]; omega
    · go_wp2
      go_ret
      obtain rfl : k = n := by omega
      rw [List.take_of_length_le (by rw [HL.out]; exact Nat.le_refl _)] at hown
      exact ⟨rfl, hown, hnx⟩

end Go.Proofs.Ytmmpejhmmgkfkaa
