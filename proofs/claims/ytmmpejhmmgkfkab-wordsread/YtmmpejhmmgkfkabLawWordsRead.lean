/-
  The law WordsRead returns true at every string and every list of words, and nothing that was there has turned.
-/
import Derived.WalkSpells
import Derived.Test.YtmmpejhmmgkfkabMathR
import Derived.Test.YtmmpejhmmgkfkabAppend
import Derived.Test.YtmmpejhmmgkfkabWordsOfText
import Derived.Test.YtmmpejhmmgkfkabWordsText
namespace Go.Proofs.Ytmmpejhmmgkfkab
open Go.RowKit

theorem Read.info : (Try.prog.info? 38).map (fun i => (i.zero, i.size, i.bytes)) = some (some (.int .u32 0), 1, 4) := by kernel_rfl

/-- What is read of a text's words, whatever stands behind. -/
theorem read_text (s : ByteArray) (ys : List Int) (hn : NoNul s) (hl : s.size / 4 + 1 ≤ 65535) (hy : Within 4294967296 ys) (hyl : 4 * ys.length ≤ 140737488351232) (a : Option Addr) (n cap : Nat) (w : World) (hv : View .u32 w a (textW s ++ ys)) (hlen : (textW s ++ ys).length = n) (hcap : n ≤ cap) :
    Calls Try.prog 7 #[.slice a n cap] w fun e w' => e = .returned (.tuple #[.string s, .int .i64 ((s.size / 4 + 1 : Nat) : Int), .int .i64 0]) ∧ Below w.heap.size w w' := by
  have hlen' : (textW s).length + ys.length = n := by rw [← hlen, List.length_append]
  rw [textW_len] at hlen'
  have e4 : 4 * (s.size / 4) + s.size % 4 = s.size := by omega
  have h := text_ok a n cap (textW s ++ ys) w (s.size / 4) (s.size % 4) hv hlen (within_append (textW_within s) hy) (by omega) (by omega) hcap (by omega) (by omega)
    (fun i hi => by
      rw [e4] at hi
      rw [joinL_text_lo s ys i (by omega), padI_lo s i hi]
      exact hn i hi)
    (by rw [e4, joinL_text_lo s ys _ (by omega), padI_hi s _ (Nat.le_refl _)])
    (text_rest s ys)
  rw [e4, text_take, str_of_strI] at h
  refine h.mono ?_
  rintro e w' ⟨rfl, hb⟩
  exact ⟨by rw [show (((s.size / 4 + 1 : Nat)) : Int) = ((s.size / 4 : Nat) : Int) + 1 by omega], hb⟩

set_option maxHeartbeats 1000000 in
theorem read_law (w : World) (s : ByteArray) (hs : s.size ≤ 140737488351232) (a : Option Addr) (n cap : Nat) (ys : List Int) (hl : ys.length = n) (hv : View .u32 w a ys) (hw : Within 4294967296 ys) (hn : 4 * n ≤ 140737488351232) :
    Calls Try.prog 3 #[.string s, .slice a n cap] w fun e w' => e = .returned (.bool true) ∧ Below w.heap.size w w' := by
  obtain ⟨i0, hi, hz0, hz1, hz2⟩ := info_parts Read.info
  have HL : Hid (ys.length = n) := hl
  have HS : Hid (∀ k (h : k < s.size), nulB s (k + 1) = (nulB s k || ((s[k].toNat : Int) == 0))) := fun k h => nulB_succ s k h
  have H0 : Hid (nulB s 0 = false) := rfl
  clear hl
  by_cases hnn : NoNul s
  · have HN : Hid (nulB s s.size = false) := nulB_none s hnn
    by_cases hlarge : 65535 < s.size / 4 + 1
    · have hO := ofText_large s w hs hnn hlarge
      have hl' : (65535 : Int) < (s.size : Int) / 4 + 1 := by omega
      clear hnn hv hw
      go_enter Try.func3, Try.ntmps3
      go_wp2_with fail
      refine hO.mono ?_
      rintro e w' ⟨rfl, rfl⟩
      go_wp2
      go_loop [7, 8] (fun f i => ∃ k : Nat, k ≤ s.size ∧ i = .int .i64 k ∧ f = .bool (nulB s k)) (fun _ i => s.size - (intOf i).toNat)
      case atStart => exact ⟨0, Nat.zero_le _, rfl, by rw [H0.out]⟩
      case round =>
        obtain ⟨k, hk, rfl, rfl⟩ := hrel
        by_cases hlt : k < s.size
        · have HK : Hid (nulB s (k + 1) = (nulB s k || ((s[k].toNat : Int) == 0))) := HS.out k hlt
          generalize nulB s k = b at HK
          cases b with
          | true =>
            go_wp2
            go_round
            case rel => exact ⟨k + 1, by omega, by go_num, by rw [HK.out]; rfl⟩
            case measure => simp [intOf]; omega
          | false =>
            go_wp2
            go_round
            case rel => exact ⟨k + 1, by omega, by go_num, by rw [HK.out, Bool.false_or]⟩
            case measure => simp [intOf]; omega
        · obtain rfl : k = s.size := by omega
          rw [HN.out]
          go_wp2
          go_ret
          exact ⟨rfl, Below.refl _ _⟩
    · have hl2 : s.size / 4 + 1 ≤ 65535 := by omega
      have hO := ofText_ok s w hnn hl2
      have hT := read_text s ys hnn hl2 hw (by rw [HL.out]; exact hn)
      have hR := fun wx => room_any s wx hs
      have htl := textW_len s
      obtain ⟨q, hq⟩ : ∃ q, q = s.size / 4 := ⟨_, rfl⟩
      rw [← hq] at hO htl hT hR hl2
      have hd : decide ((65535 : Int) < (s.size : Int) / 4 + 1) = false := by
        have : ¬ (65535 : Int) < (s.size : Int) / 4 + 1 := by omega
        exact decide_eq_false this
      have hm2 : 4 * (q + 1) ≤ 1048576 := by omega
      have HTL : Hid ((textW s).length = q + 1) := htl
      have HT : Hid (∀ (a : Option Addr) (n cap : Nat) (w : World), View .u32 w a (textW s ++ ys) → (textW s ++ ys).length = n → n ≤ cap → Calls Try.prog 7 #[.slice a n cap] w fun e w' => e = .returned (.tuple #[.string s, .int .i64 ((s.size : Int) / 4 + 1), .int .i64 0]) ∧ Below w.heap.size w w') := fun a n cap w h1 h2 h3 => by
        have := hT a n cap w h1 h2 h3
        rw [show ((q + 1 : Nat) : Int) = (s.size : Int) / 4 + 1 by omega] at this
        exact this
      rw [show ((q + 1 : Nat) : Int) = (s.size : Int) / 4 + 1 by omega] at hR
      clear hnn hw htl hlarge hT hq hl2
      go_enter Try.func3, Try.ntmps3
      go_wp2_with fail
      refine hO.mono ?_
      rintro e w1 ⟨rfl, hown1, hb1⟩
      have s1 := hb1.size
      go_wp2
      go_loop [7, 8] (fun f i => ∃ k : Nat, k ≤ s.size ∧ i = .int .i64 k ∧ f = .bool (nulB s k)) (fun _ i => s.size - (intOf i).toNat)
      case atStart => exact ⟨0, Nat.zero_le _, rfl, by rw [H0.out]⟩
      case round =>
        obtain ⟨k, hk, rfl, rfl⟩ := hrel
        by_cases hlt : k < s.size
        · have HK : Hid (nulB s (k + 1) = (nulB s k || ((s[k].toNat : Int) == 0))) := HS.out k hlt
          generalize nulB s k = b at HK
          cases b with
          | true =>
            go_wp2
            go_round
            case rel => exact ⟨k + 1, by omega, by go_num, by rw [HK.out]; rfl⟩
            case measure => simp [intOf]; omega
          | false =>
            go_wp2
            go_round
            case rel => exact ⟨k + 1, by omega, by go_num, by rw [HK.out, Bool.false_or]⟩
            case measure => simp [intOf]; omega
        · obtain rfl : k = s.size := by omega
          rw [HN.out]
          have hvx := View.ofRow hown1 HTL.out
          have hvy := hv.below hb1
          obtain ⟨g, cp, w2, hap⟩ := append_full w1 22 38 i0 (.int .u32 0) Try.underlying22 hi hz0 hz1 hz2 (some ⟨w.heap.size, 0, none⟩) a (q + 1) n cap (textW s) ys hvx hvy HTL.out HL.out (by omega) hm2 hn
          rcases hap with ⟨hrun, hcp, hv2, hb2⟩ | ⟨hn0, hrun⟩
          · have HRUN : Hid (∀ ty, (Builtin.append_ #[22, 22] ty #[.slice (some ⟨w.heap.size, 0, none⟩) (q + 1) (q + 1), .slice a n cap]).run Try.prog w1 = .ok (.slice (some ⟨g, 0, none⟩) (q + 1 + n) cp) w2) := hrun
            have hb02 := hb1.trans (hb2.mono s1)
            have s2 := hb2.size
            clear hrun
            go_wp2_with (at_builtin; refine append_run w1 rfl (.tmp 53) (.tmp 54) 22 rfl (.slice (some ⟨w.heap.size, 0, none⟩) (q + 1) (q + 1)) (.slice a n cap) (.slice (some ⟨g, 0, none⟩) (q + 1 + n) cp) w2 (by rfl) (by rfl) HRUN.out ?_)
            refine (HT.out (some ⟨g, 0, none⟩) (q + 1 + n) cp w2 hv2 (by rw [List.length_append, HTL.out, HL.out]) hcp).mono ?_
            rintro e w3 ⟨rfl, hb3⟩
            have hb03 := hb02.trans (hb3.mono (by omega))
            go_wp2_with (go_at_call 8; refine (hR _).mono ?_; rintro e w' ⟨rfl, rfl⟩)
            go_ret
            exact ⟨rfl, hb03⟩
          · have HRUN : Hid (∀ ty, (Builtin.append_ #[22, 22] ty #[.slice (some ⟨w.heap.size, 0, none⟩) (q + 1) (q + 1), .slice a n cap]).run Try.prog w1 = .ok (.slice (some ⟨w.heap.size, 0, none⟩) (q + 1) (q + 1)) w1) := hrun
            have hys : ys = [] := List.eq_nil_of_length_eq_zero (by rw [HL.out]; exact hn0)
            have HYS : Hid (ys = []) := hys
            clear hrun hys hn0
            go_wp2_with (at_builtin; refine append_run w1 rfl (.tmp 53) (.tmp 54) 22 rfl (.slice (some ⟨w.heap.size, 0, none⟩) (q + 1) (q + 1)) (.slice a n cap) (.slice (some ⟨w.heap.size, 0, none⟩) (q + 1) (q + 1)) w1 (by rfl) (by rfl) HRUN.out ?_)
            refine (HT.out (some ⟨w.heap.size, 0, none⟩) (q + 1) (q + 1) w1 (by rw [HYS.out, List.append_nil]; exact hvx) (by rw [HYS.out, List.append_nil]; exact HTL.out) (Nat.le_refl _)).mono ?_
            rintro e w3 ⟨rfl, hb3⟩
            have hb03 := hb1.trans (hb3.mono s1)
            go_wp2_with (go_at_call 8; refine (hR _).mono ?_; rintro e w' ⟨rfl, rfl⟩)
            go_ret
            exact ⟨rfl, hb03⟩
  · have hex : ∃ k, k < s.size ∧ nth (strI s) k = 0 := by
      apply Classical.byContradiction
      intro hno
      apply hnn
      intro k hk hz
      exact hno ⟨k, hk, hz⟩
    obtain ⟨k0, hk0, hz⟩ := hex
    have HN : Hid (nulB s s.size = true) := nulB_some s k0 hk0 hz
    have hO := ofText_nul s w k0 hk0 hz
    clear hnn hv hw hz hk0
    go_enter Try.func3, Try.ntmps3
    go_wp2_with fail
    refine hO.mono ?_
    rintro e w' ⟨rfl, rfl⟩
    go_wp2
    go_loop [7, 8] (fun f i => ∃ k : Nat, k ≤ s.size ∧ i = .int .i64 k ∧ f = .bool (nulB s k)) (fun _ i => s.size - (intOf i).toNat)
    case atStart => exact ⟨0, Nat.zero_le _, rfl, by rw [H0.out]⟩
    case round =>
      obtain ⟨k, hk, rfl, rfl⟩ := hrel
      by_cases hlt : k < s.size
      · have HK : Hid (nulB s (k + 1) = (nulB s k || ((s[k].toNat : Int) == 0))) := HS.out k hlt
        generalize nulB s k = b at HK
        cases b with
        | true =>
          go_wp2
          go_round
          case rel => exact ⟨k + 1, by omega, by go_num, by rw [HK.out]; rfl⟩
          case measure => simp [intOf]; omega
        | false =>
          go_wp2
          go_round
          case rel => exact ⟨k + 1, by omega, by go_num, by rw [HK.out, Bool.false_or]⟩
          case measure => simp [intOf]; omega
      · obtain rfl : k = s.size := by omega
        rw [HN.out]
        go_wp2
        go_ret
        exact ⟨rfl, Below.refl _ _⟩

end Go.Proofs.Ytmmpejhmmgkfkab
