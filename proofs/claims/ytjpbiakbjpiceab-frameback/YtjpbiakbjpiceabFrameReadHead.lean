/-
  What readHead of frame returns: the first word of the head that lacks or is wrong, or the head.
-/
import Derived.WalkSpells
import Derived.BigRegion
import Derived.Deep.QuietTactic
import Derived.BigQuiet
import Derived.Test.YtjpbiakbjpiceabRef02Read
import Derived.Test.YtjpbiakbjpiceabFrameHeadFault
namespace Go.Proofs.Ytjpbiakbjpiceab
open Go.RowKit

/-- What the head says, where nothing is wrong with it. -/
def headAt (zs : List Int) (i : Nat) : Int := if (headE zs 0).1 = 0 then nth zs i else 0

theorem headE_any (zs : List Int) : headE zs 0 = (0, 0) ∨ (headE zs 0).1 ≠ 0 := by
  have key : ∀ f k, headF zs f k = (0, 0) ∨ (headF zs f k).1 ≠ 0 := by
    intro f
    induction f with
    | zero => intro k; exact .inl rfl
    | succ f ih =>
      intro k
      rw [headF]
      split
      · split
        · exact .inr (by simp)
        · split
          · next h => exact .inr h
          · exact ih (k + 1)
      · exact .inl rfl
  exact key _ _

set_option maxHeartbeats 1000000 in
theorem readHead_any (a : Option Addr) (n cap : Nat) (zs : List Int) (w : World) (ha : View .u32 w a zs) (hl : zs.length = n) (hw : Within 4294967296 zs) (hn : n ≤ 1048576) :
    Calls Try.prog 32 #[.slice a n cap] w fun e w' => e = .returned (.tuple #[.agg #[.int .u32 (headAt zs 2), .int .u32 (headAt zs 3)], .agg #[.int .i64 (headE zs 0).1, .int .i64 (headE zs 0).2]]) ∧ Below w.heap.size w w' := by
  have HL : Hid (zs.length = n) := hl
  have hav := ha.below (((Below.refl _ w).alloc (Nat.le_refl _) (.cells #[.int .u32 0, .int .u32 0] 49)).alloc (by simp) (.cells #[.int .i64 0, .int .i64 0] 53))
  clear hl ha
  go_enter Try.func32, Try.ntmps32
  go_wp2
  go_loop [6] (fun i => ∃ k : Nat, k ≤ 5 ∧ k ≤ n ∧ i = .int .i64 k ∧ headE zs 0 = headE zs k) (fun i => 5 - (intOf i).toNat)
  case atStart => exact ⟨0, by omega, by omega, rfl, rfl⟩
  case round =>
    obtain ⟨k, hk, hkn, rfl, hke⟩ := hrel
    have HK : Hid (headE zs 0 = headE zs k) := hke
    clear hke
    by_cases hk5 : k < 5
    · have HS : Hid (headE zs k = if n ≤ k then (14, k) else if wrongE k (nth zs k) ≠ 0 then (wrongE k (nth zs k), k) else headE zs (k + 1)) := by
        have := headE_step zs k hk5
        rw [HL.out] at this
        exact this
      by_cases hlt : k < n
      · obtain ⟨b, off, rfl, _, hc⟩ := hav k (by rw [HL.out]; exact hlt)
        have hb := hw.at (k := k) (by rw [HL.out]; exact hlt)
        have hW := fun wx => headFault_any k (nth zs k) wx hk5 hb.1 hb.2
        have hki : ((k : Int) == (n : Int)) = false := by simp; omega
        have hki2 : (k : Int) < (n : Int) := by omega
        clear hav hb
        generalize nth zs k = x at hc hW HS
        by_cases hx : wrongE k x = 0
        · have HE2 : Hid (headE zs 0 = headE zs (k + 1)) := by show _ = _; rw [HK.out, HS.out, if_neg (by omega), if_neg (by simp [hx])]
          rw [hx] at hW
          go_wp2_with (go_at_call 51; refine (hW _).mono ?_; rintro e w' ⟨rfl, rfl⟩)
          go_round
          case rel => exact ⟨k + 1, by omega, by omega, by go_num, HE2.out⟩
          case measure => simp [intOf]; omega
        · have HE2 : Hid (headE zs 0 = (wrongE k x, k)) := by show _ = _; rw [HK.out, HS.out, if_neg (by omega), if_pos hx]
          have HA : Hid (∀ i, headAt zs i = 0) := fun i => by unfold headAt; rw [HE2.out, if_neg hx]
          have hxb : (wrongE k x == 0) = false := by simpa using hx
          clear hx
          generalize wrongE k x = er at hW hxb HE2
          go_wp2_with (go_at_call 51; refine (hW _).mono ?_; rintro e w' ⟨rfl, rfl⟩)
          exact bodyPost_ret (v := .tuple #[.agg #[.int .u32 0, .int .u32 0], .agg #[.int .i64 er, .int .i64 k]]) (by simp [results, Try.results32, go_sem]) rfl ⟨by rw [HE2.out, HA.out, HA.out], ((Below.refl _ _).alloc (Nat.le_refl _) _).alloc (by simp) _⟩
      · have HE2 : Hid (headE zs 0 = (14, k)) := by show _ = _; rw [HK.out, HS.out, if_pos (by omega)]
        have HA : Hid (∀ i, headAt zs i = 0) := fun i => by unfold headAt; rw [HE2.out, if_neg (by simp)]
        have hki : ((k : Int) == (n : Int)) = true := by simp; omega
        go_wp2
        exact bodyPost_ret (v := .tuple #[.agg #[.int .u32 0, .int .u32 0], .agg #[.int .i64 14, .int .i64 k]]) (by simp [results, Try.results32, go_sem]) rfl ⟨by rw [HE2.out, HA.out, HA.out], ((Below.refl _ _).alloc (Nat.le_refl _) _).alloc (by simp) _⟩
    · obtain rfl : k = 5 := by omega
      have HE2 : Hid (headE zs 0 = (0, 0)) := by show _ = _; rw [HK.out, headE_end]
      have HA : Hid (∀ i, headAt zs i = nth zs i) := fun i => by unfold headAt; rw [HE2.out, if_pos rfl]
      obtain ⟨b, off, rfl, _, hc2⟩ := hav 2 (by rw [HL.out]; omega)
      obtain ⟨b', off', e', _, hc3⟩ := hav 3 (by rw [HL.out]; omega)
      simp at e'
      obtain ⟨rfl, rfl⟩ := e'
      clear hav
      have h2n : (2 : Int) < (n : Int) := by omega
      have h3n : (3 : Int) < (n : Int) := by omega
      go_wp2
      go_region
      all_goals go_wp2
      all_goals
        refine bodyPost_ret (v := .tuple #[.agg #[.int .u32 (nth zs 2), .int .u32 (nth zs 3)], .agg #[.int .i64 0, .int .i64 0]]) (by simp [results, Try.results32, go_sem]) rfl ⟨?_, ?_⟩
        · rw [HE2.out, HA.out, HA.out]; rfl
        · first
            | exact ((Below.refl _ _).alloc (Nat.le_refl _) _).alloc (by simp) _
            | exact (((Below.refl _ _).alloc (Nat.le_refl _) _).alloc (by simp) _).drew

end Go.Proofs.Ytjpbiakbjpiceab
