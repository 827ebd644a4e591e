/-
  What OfText of the document's answer returns, for every string: its error, or its words in new memory; nothing that was there has turned.
-/
import Derived.WalkSpells
import Derived.Test.YtmmpejhmmgkfkaaMathS
import Derived.Test.YtmmpejhmmgkfkaaRef01Split
namespace Go.Proofs.Ytmmpejhmmgkfkaa
open Go.RowKit

theorem RefOfText.info : (Try.prog.info? 5).map (fun i => (i.zero, i.size, i.bytes)) = some (some (.int .u8 0), 1, 1) := by kernel_rfl

theorem refRoom_any (s : ByteArray) (w : World) (hs : s.size ≤ 140737488351232) :
    Calls Try.prog 24 #[.string s] w fun e w' => e = .returned (.int .i64 ((s.size / 4 + 1 : Nat) : Int)) ∧ w = w' := by
  go_enter Try.func24, Try.ntmps24
  go_wp2
  go_ret
  exact ⟨ret_int (by omega), rfl⟩

theorem refOfText_nul (s : ByteArray) (w : World) (hs : s.size ≤ 140737488351232) (N : Nat) (hk : N < s.size) (h : nth (strI s) N = 0) :
    Calls Try.prog 21 #[.string s] w fun e w' => e = .returned (.tuple #[.slice none 0 0, .int .i64 13]) ∧ w = w' := by
  have H : Hid (nth (strI s) N = 0) := h
  clear h
  go_enter Try.func21, Try.ntmps21
  go_wp2
  go_loop [4] (fun i => ∃ k : Nat, k ≤ N ∧ i = .int .i64 k) (fun i => s.size - (intOf i).toNat)
  case atStart => exact ⟨0, Nat.zero_le _, rfl⟩
  case round =>
    obtain ⟨k, hkN, rfl⟩ := hrel
    have hlt : k < s.size := by omega
    have HK : Hid (nth (strI s) k = (s[k].toNat : Int)) := nth_strI s k hlt
    by_cases hz : s[k].toNat = 0
    · have hz' : ((s[k].toNat : Int) == 0) = true := by simp [hz]
      go_wp2
      go_ret2
      exact ⟨rfl, rfl⟩
    · have hz' : ((s[k].toNat : Int) == 0) = false := by simp; exact hz
      have hne : k ≠ N := fun e => by
        subst e
        have h1 := H.out
        rw [HK.out] at h1
        omega
      clear hz
      go_wp2
      go_round
      case rel => exact ⟨k + 1, by omega, by go_num⟩
      case measure => simp [intOf]; omega

theorem refOfText_large (s : ByteArray) (w : World) (hs : s.size ≤ 140737488351232) (h : NoNul s) (hl : 65535 < s.size / 4 + 1) :
    Calls Try.prog 21 #[.string s] w fun e w' => e = .returned (.tuple #[.slice none 0 0, .int .i64 4]) ∧ w = w' := by
  have H : Hid (NoNul s) := h
  have hR := fun wx => refRoom_any s wx hs
  have hl' : (65535 : Int) < ((s.size / 4 + 1 : Nat) : Int) := by omega
  generalize s.size / 4 + 1 = m at hR hl'
  clear h hl
  go_enter Try.func21, Try.ntmps21
  go_wp2
  go_loop [4] (fun i => ∃ k : Nat, k ≤ s.size ∧ i = .int .i64 k) (fun i => s.size - (intOf i).toNat)
  case atStart => exact ⟨0, Nat.zero_le _, rfl⟩
  case round =>
    obtain ⟨k, hk, rfl⟩ := hrel
    by_cases hlt : k < s.size
    · have hz' : ((s[k].toNat : Int) == 0) = false := by
        have := H.out k hlt
        rw [nth_strI s k hlt] at this
        simpa using this
      go_wp2
      go_round
      case rel => exact ⟨k + 1, by omega, by go_num⟩
      case measure => simp [intOf]; omega
    · go_wp2_with (go_at_call 24; refine (hR _).mono ?_; rintro e w' ⟨rfl, rfl⟩)
      go_ret2
      exact ⟨rfl, rfl⟩

set_option maxHeartbeats 1000000 in
theorem refOfText_ok (s : ByteArray) (w : World) (h : NoNul s) (hl : s.size / 4 + 1 ≤ 65535) :
    Calls Try.prog 21 #[.string s] w fun e w' => ∃ ax m, e = .returned (.tuple #[.slice ax m m, .int .i64 0]) ∧ (textW s).length = m ∧ View .u32 w' ax (textW s) ∧ Below w.heap.size w w' := by
  obtain ⟨i0, hi, hz0, hz1, hz2⟩ := info_parts RefOfText.info
  have H : Hid (NoNul s) := h
  have hR := fun wx => refRoom_any s wx (by omega)
  have HW : Hid (textW s = splitL (padI s)) := rfl
  have HP : Hid (padI s = filled (strI s) s.size (4 * (s.size / 4 + 1))) := rfl
  have HPL : Hid ((padI s).length = 4 * (s.size / 4 + 1)) := padI_len s
  obtain ⟨m, hm⟩ : ∃ m, m = s.size / 4 + 1 := ⟨_, rfl⟩
  rw [← hm] at HP HPL hR
  have hl' : ¬ (65535 : Int) < (m : Int) := by omega
  have hsz : s.size < 4 * m := by omega
  have hm2 : m ≤ 65535 := by omega
  clear h hl hm
  go_enter Try.func21, Try.ntmps21
  go_wp2
  go_loop [4] (fun i => ∃ k : Nat, k ≤ s.size ∧ i = .int .i64 k) (fun i => s.size - (intOf i).toNat)
  case atStart => exact ⟨0, Nat.zero_le _, rfl⟩
  case round =>
    obtain ⟨k, hk, rfl⟩ := hrel
    by_cases hlt : k < s.size
    · have hz' : ((s[k].toNat : Int) == 0) = false := by
        have := H.out k hlt
        rw [nth_strI s k hlt] at this
        simpa using this
      go_wp2
      go_round
      case rel => exact ⟨k + 1, by omega, by go_num⟩
      case measure => simp [intOf]; omega
    · clear hk
      go_wp2_with (first | (go_at_call 24; refine (hR _).mono ?_; rintro e w' ⟨rfl, rfl⟩) | (at_make; refine wpList_make_full _ rfl _ _ 22 rfl w.heap.size 5 i0 (.int .u8 0) 1 Try.underlying22 hi hz0 hz1 _ _ _ _ (4 * m) rfl rfl (by omega) (by omega) (by rw [hz2]; omega) (by unfold maxLen; omega) (Nat.le_refl _) ?_))
      intro w1 hown1 hgrow1
      have hb1 : Below w.heap.size w w1 := (Below.refl _ w).grown hgrow1 (Nat.le_refl _) (by simp)
      have hr1 := made_row (strI s) hown1
      clear hown1 hgrow1
      go_wp2
      go_loopw [6] (fun i wr => ∃ j : Nat, j ≤ s.size ∧ i = .int .i64 j ∧ wr.ownsRow w.heap.size 5 1 (.slice (some ⟨w.heap.size, 0, none⟩) (4 * m) (4 * m)) (4 * m) ((filled (strI s) j (4 * m)).map (Value.int .u8)) ∧ Below w.heap.size w wr)
        (fun i _ => s.size - (intOf i).toNat)
      case atStart => exact ⟨0, Nat.zero_le _, rfl, hr1, hb1⟩
      case round =>
        obtain ⟨j, hj, rfl, hown, hnx⟩ := hrel
        clear hr1 hb1
        by_cases hjl : j < s.size
        · obtain ⟨d1, d2, d3⟩ := fill_step hown (by omega) (by rw [strI_len]; exact hjl)
          rw [nth_strI s j hjl] at d3
          clear hown
          go_wp2
          go_roundw
          case rel => exact ⟨j + 1, by omega, by go_num, d3, hnx.setCell (Nat.le_refl _) _⟩
          case measure => simp [intOf]; omega
        · obtain rfl : j = s.size := by omega
          rw [← HP.out] at hown
          have s1 := hnx.size
          go_wp2_with fail
          refine (refSplit_any _ (4 * m) (4 * m) (padI s) wr (View.ofRow hown HPL.out) HPL.out (padI_within s)).mono ?_
          rw [splitErr_ok _ (by rw [HPL.out]; omega) (by rw [HPL.out]; omega), splitOut_ok _ (by rw [HPL.out]; omega) (by rw [HPL.out]; omega), ← HW.out]
          rintro e w3 ⟨ax, m', rfl, hm', hvx, _, hb3⟩
          go_wp2
          go_ret2
          exact ⟨ax, m', rfl, hm', hvx, hnx.trans (hb3.mono s1)⟩

end Go.Proofs.Ytmmpejhmmgkfkaa
