/-
  The law WordsJoins returns true at every list of words, and nothing that was there has turned.
-/
import Derived.WalkSpells
import Derived.Deep.QuietTactic
import Derived.BigQuiet
import Derived.Deep.RegionHeld3
import Derived.Deep.DrawnRows
import Derived.Test.YtmmpejhmmgkfkaaKitCopyWords
import Derived.Test.YtmmpejhmmgkfkaaKitWords
import Derived.Test.YtmmpejhmmgkfkaaKitBytes
import Derived.Test.YtmmpejhmmgkfkaaWordsJoin
import Derived.Test.YtmmpejhmmgkfkaaWordsTurned
import Derived.Test.YtmmpejhmmgkfkaaRef01Join
import Derived.Test.YtmmpejhmmgkfkaaRef01Turned
namespace Go.Proofs.Ytmmpejhmmgkfkaa
open Go.RowKit

set_option maxHeartbeats 1000000 in
theorem joins_law (w : World) (a : Option Addr) (n cap : Nat) (zs : List Int) (hl : zs.length = n) (hv : View .u32 w a zs) (hw : Within 4294967296 zs) (hn : 4 * n ≤ 140737488351232) :
    Calls Try.prog 4 #[.slice a n cap] w fun e w' => e = .returned (.bool true) ∧ Below w.heap.size w w' := by
  have HL : Hid (zs.length = n) := hl
  have hJ : (joinL zs).length = 4 * n := by rw [joinL_len, hl]
  have HJ : Hid ((joinL zs).length = 4 * n) := hJ
  clear hl hJ
  go_enter Try.func4, Try.ntmps4
  go_wp2_with fail
  refine (copyWords_any a n cap zs w hv HL.out hn).mono ?_
  rintro e w1 ⟨rfl, hown1, hb1⟩
  have s1 := hb1.size
  go_wp2_with fail
  refine (join_any _ n n zs w1 (View.ofRow hown1 HL.out) HL.out hn hw).mono ?_
  rintro e w2 ⟨rfl, hown2, hb2⟩
  have s2 := hb2.size
  have hb02 := hb1.trans (hb2.mono s1)
  go_wp2_with fail
  refine (refJoin_any a n cap zs w2 (hv.below hb02) HL.out hn hw).mono ?_
  rintro e w3 ⟨rfl, hown3, hb3⟩
  have s3 := hb3.size
  have hb03 := hb02.trans (hb3.mono (by omega))
  go_wp2_with fail
  refine (bytes_true _ _ (4 * n) (4 * n) (4 * n) (joinL zs) w3 (View.ofRow (own_below hown2 hb3) HJ.out) (View.ofRow hown3 HJ.out) HJ.out (by omega)).mono ?_
  rintro e w4 ⟨rfl, q, rfl⟩
  go_wp2_with fail
  refine (words_true _ a n n cap zs _ ((View.ofRow (own_below (own_below hown1 hb2) hb3) HL.out).below (bel_drewN (Below.refl _ _) q)) ((hv.below hb03).below (bel_drewN (Below.refl _ _) q)) HL.out (by omega)).mono ?_
  rintro e w5 ⟨rfl, q', rfl⟩
  have hbq : Below w.heap.size w ((w3.drewN q).drewN q') := bel_drewN (bel_drewN hb03 q) q'
  clear hown1 hown2 hown3 hb1 hb2 hb3 hb02 hb03
  generalize (w3.drewN q).drewN q' = w6 at hbq
  go_wp2
  go_loopw [5] (fun i wr => ∃ k : Nat, k ≤ n ∧ i = .int .i64 k ∧ Below w.heap.size w wr) (fun i _ => n - (intOf i).toNat)
  case atStart => exact ⟨0, Nat.zero_le _, rfl, hbq⟩
  case round =>
    obtain ⟨k, hk, rfl, hnx⟩ := hrel
    have hsz := hnx.size
    by_cases hlt : k < n
    · obtain ⟨b, off, rfl, hbs, hc⟩ := hv k (by rw [HL.out]; exact hlt)
      have hx := hw.at (k := k) (by rw [HL.out]; exact hlt)
      have hcr : wr.cell? ⟨b, off + k, none⟩ = some (.int .u32 (nth zs k)) := (hnx.cell (p := ⟨b, off + k, none⟩) hbs).trans hc
      generalize nth zs k = x at hx hcr
      have hx0 := hx.1
      have hx1 := hx.2
      have hk0 : (0 : Int) ≤ (k : Int) := by omega
      have hki : (k : Int) < (n : Int) := by omega
      have hne := World.new_ne wr _ hcr
      clear hbq hc hx
      go_wp2
      go_region_held3 (fun w' => w'.cell? ⟨b, off + k, none⟩ = some (.int .u32 x)) (go_keep) (first | (go_at_call 17; refine (turned_any _ _ hx0 hx1).mono ?_; rintro e w' ⟨rfl, rfl⟩) | (go_at_call 18; refine (refTurned_any _ _ hx0 hx1).mono ?_; rintro e w' ⟨rfl, rfl⟩))
      go_wp2
      go_roundw
      case rel => exact ⟨k + 1, by omega, by go_num, (hnx.alloc hsz _).drew⟩
      case measure => simp [intOf]; omega
    · have hT := fun w => turned_any 119734787 w (by omega) (by omega)
      have eT : turnI 119734787 = 50471687 := by decide
      rw [eT] at hT
      go_wp2_with fail
      refine (hT _).mono ?_
      rintro e w' ⟨rfl, rfl⟩
      go_wp2
      go_ret
      exact ⟨rfl, hnx⟩

end Go.Proofs.Ytmmpejhmmgkfkaa
