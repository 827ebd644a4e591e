/-
  What textEnd of the words package returns: where the first byte 0 lies, or that there is none.
-/
import Derived.WalkSpells
import Derived.WalkMore
import Derived.Test.YtmmpejhmmgkfkabProg
import Derived.Test.YtmmpejhmmgkfkabMath
import Derived.Test.YtmmpejhmmgkfkabWordsByteAt
namespace Go.Proofs.Ytmmpejhmmgkfkab
open Go.RowKit

set_option maxHeartbeats 1000000 in
theorem textEnd_none (a : Option Addr) (n cap : Nat) (zs : List Int) (w : World) (ha : View .u32 w a zs) (hl : zs.length = n) (hw : Within 4294967296 zs) (hn : 4 * n ≤ 281474976710656) (h : ∀ i, i < 4 * n → nth (joinL zs) i ≠ 0) :
    Calls Try.prog 21 #[.slice a n cap] w fun e w' => e = .returned (.tuple #[.int .i64 0, .int .i64 0, .bool false]) ∧ w = w' := by
  have HL : Hid (zs.length = n) := hl
  clear hl
  have HB : Hid (∀ k p : Nat, k < n → p < 4 → byt (nth zs k) p ≠ 0) := fun k p hk hp => by
    have := h (4 * k + p) (by omega)
    rw [joinL_getD _ _ (by rw [HL.out]; omega), show (4 * k + p) / 4 = k by omega, show (4 * k + p) % 4 = p by omega] at this
    exact this
  clear h
  go_enter Try.func21, Try.ntmps21
  go_wp2
  go_step3
  go_wp2
  go_step3
  go_wp2
  go_loop [2, 3, 4, 10] (fun r s f i => ∃ k : Nat, k ≤ n ∧ i = .int .i64 k ∧ r = .int .i64 0 ∧ s = .int .i64 0 ∧ f = .bool false) (fun _ _ _ i => n - (intOf i).toNat)
  case atStart => exact ⟨0, Nat.zero_le _, rfl, rfl, rfl, rfl⟩
  case round =>
    obtain ⟨k, hk, rfl, rfl, rfl, rfl⟩ := hrel
    by_cases hlt : k < n
    · obtain ⟨b, off, rfl, _, hc⟩ := ha k (by rw [HL.out]; exact hlt)
      have hx := hw.at (k := k) (by rw [HL.out]; exact hlt)
      have HX : Hid (∀ p : Nat, p < 4 → byt (nth zs k) p ≠ 0) := fun p hp => HB.out k p hlt hp
      generalize nth zs k = x at hc hx HX
      have hx0 := hx.1
      have hx1 := hx.2
      clear hx ha
      go_wp2
      go_loop [2, 3, 4, 15] (fun r s f i => ∃ p : Nat, p ≤ 4 ∧ i = .int .i64 p ∧ r = .int .i64 0 ∧ s = .int .i64 0 ∧ f = .bool false) (fun _ _ _ i => 4 - (intOf i).toNat)
      case atStart => exact ⟨0, Nat.zero_le _, rfl, rfl, rfl, rfl⟩
      case round =>
        obtain ⟨p, hp, rfl, rfl, rfl, rfl⟩ := hrel
        by_cases hplt : p < 4
        · have hne : (byt x p == 0) = false := by simp; exact HX.out p hplt
          have hA := fun wx => byteAt_any x (p : Int) wx hx0 hx1 (by omega) (by omega)
          rw [Int.toNat_natCast] at hA
          generalize byt x p = y at hne hA
          go_wp2_with (go_at_call 27; refine (hA _).mono ?_; rintro e w' ⟨rfl, rfl⟩)
          go_round
          case rel => exact ⟨p + 1, by omega, by go_num, rfl, rfl, rfl⟩
          case measure => simp [intOf]; omega
        · go_wp2
          go_round
          case rel => exact ⟨k + 1, by omega, by go_num, rfl, rfl, rfl⟩
          case measure => simp [intOf]; omega
    · go_wp2
      try rw [Exit.noGoto_ret]
      go_ret3
      exact ⟨rfl, rfl⟩

set_option maxHeartbeats 1000000 in
theorem textEnd_at (a : Option Addr) (n cap : Nat) (zs : List Int) (w : World) (L P : Nat) (ha : View .u32 w a zs) (hl : zs.length = n) (hw : Within 4294967296 zs) (hn : 4 * n ≤ 281474976710656)
    (hL : L < n) (hP : P < 4) (h : ∀ i, i < 4 * L + P → nth (joinL zs) i ≠ 0) (h0 : nth (joinL zs) (4 * L + P) = 0) :
    Calls Try.prog 21 #[.slice a n cap] w fun e w' => e = .returned (.tuple #[.int .i64 L, .int .i64 P, .bool true]) ∧ w = w' := by
  have HL : Hid (zs.length = n) := hl
  clear hl
  have HB : Hid (∀ k p : Nat, 4 * k + p < 4 * L + P → p < 4 → byt (nth zs k) p ≠ 0) := fun k p hk hp => by
    have := h (4 * k + p) hk
    rw [joinL_getD _ _ (by rw [HL.out]; omega), show (4 * k + p) / 4 = k by omega, show (4 * k + p) % 4 = p by omega] at this
    exact this
  have H0 : Hid (byt (nth zs L) P = 0) := by
    rw [joinL_getD _ _ (by rw [HL.out]; omega), show (4 * L + P) / 4 = L by omega, show (4 * L + P) % 4 = P by omega] at h0
    exact h0
  clear h h0
  go_enter Try.func21, Try.ntmps21
  go_wp2
  go_step3
  go_wp2
  go_step3
  go_wp2
  go_loop [2, 3, 4, 10] (fun r s f i => ∃ k : Nat, k ≤ L ∧ i = .int .i64 k ∧ r = .int .i64 0 ∧ s = .int .i64 0 ∧ f = .bool false) (fun _ _ _ i => n - (intOf i).toNat)
  case atStart => exact ⟨0, Nat.zero_le _, rfl, rfl, rfl, rfl⟩
  case round =>
    obtain ⟨k, hk, rfl, rfl, rfl, rfl⟩ := hrel
    have hlt : k < n := by omega
    obtain ⟨b, off, rfl, _, hc⟩ := ha k (by rw [HL.out]; exact hlt)
    have hx := hw.at (k := k) (by rw [HL.out]; exact hlt)
    have HX : Hid (∀ p : Nat, 4 * k + p < 4 * L + P → p < 4 → byt (nth zs k) p ≠ 0) := fun p hp h4 => HB.out k p hp h4
    have HX0 : Hid (k = L → byt (nth zs k) P = 0) := fun e => by rw [e]; exact H0.out
    generalize nth zs k = x at hc hx HX HX0
    have hx0 := hx.1
    have hx1 := hx.2
    clear hx ha
    go_wp2
    go_loop [2, 3, 4, 15] (fun r s f i => ∃ p : Nat, p ≤ 4 ∧ 4 * k + p ≤ 4 * L + P ∧ i = .int .i64 p ∧ r = .int .i64 0 ∧ s = .int .i64 0 ∧ f = .bool false) (fun _ _ _ i => 4 - (intOf i).toNat)
    case atStart => exact ⟨0, Nat.zero_le _, by omega, rfl, rfl, rfl, rfl⟩
    case round =>
      obtain ⟨p, hp, hpN, rfl, rfl, rfl, rfl⟩ := hrel
      by_cases hplt : p < 4
      · by_cases hlast : 4 * k + p < 4 * L + P
        · have hne : (byt x p == 0) = false := by simp; exact HX.out p hlast hplt
          have hA := fun wx => byteAt_any x (p : Int) wx hx0 hx1 (by omega) (by omega)
          rw [Int.toNat_natCast] at hA
          generalize byt x p = y at hne hA
          go_wp2_with (go_at_call 27; refine (hA _).mono ?_; rintro e w' ⟨rfl, rfl⟩)
          go_round
          case rel => exact ⟨p + 1, by omega, by omega, by go_num, rfl, rfl, rfl⟩
          case measure => simp [intOf]; omega
        · obtain rfl : k = L := by omega
          obtain rfl : p = P := by omega
          have hA := fun wx => byteAt_any x (p : Int) wx hx0 hx1 (by omega) (by omega)
          rw [Int.toNat_natCast, HX0.out rfl] at hA
          go_wp2_with (go_at_call 27; refine (hA _).mono ?_; rintro e w' ⟨rfl, rfl⟩)
          try rw [Exit.noGoto_ret]
          go_ret3
          exact ⟨rfl, rfl⟩
      · go_wp2
        go_round
        case rel => exact ⟨k + 1, by omega, by go_num, rfl, rfl, rfl⟩
        case measure => simp [intOf]; omega

end Go.Proofs.Ytmmpejhmmgkfkab
