/-
  The law WordsWrites returns true at every string, and nothing that was there has turned.
-/
import Derived.WalkSpells
import Derived.Test.YtmmpejhmmgkfkaaWordsOfText
import Derived.Test.YtmmpejhmmgkfkaaRef01OfText
import Derived.Test.YtmmpejhmmgkfkaaKitWords
namespace Go.Proofs.Ytmmpejhmmgkfkaa
open Go.RowKit

/-- The two answers are alike, whatever the string. -/
theorem writes_same (s : ByteArray) (hs : s.size ≤ 140737488351232) :
    ∃ (ws : List Int) (er : Int), ws.length ≤ 65535 ∧
      (∀ w, Calls Try.prog 21 #[.string s] w fun e w' => ∃ ax m, e = .returned (.tuple #[.slice ax m m, .int .i64 er]) ∧ ws.length = m ∧ View .u32 w' ax ws ∧ Below w.heap.size w w') ∧
      (∀ w, Calls Try.prog 22 #[.string s] w fun e w' => ∃ ax m, e = .returned (.tuple #[.slice ax m m, .int .i64 er]) ∧ ws.length = m ∧ View .u32 w' ax ws ∧ Below w.heap.size w w') := by
  by_cases hn : NoNul s
  · by_cases hl : 65535 < s.size / 4 + 1
    · exact ⟨[], 4, by simp, fun w => (refOfText_large s w hs hn hl).mono fun e w' h => ⟨none, 0, h.1, rfl, view_nil, h.2 ▸ Below.refl _ _⟩,
        fun w => (ofText_large s w hs hn hl).mono fun e w' h => ⟨none, 0, h.1, rfl, view_nil, h.2 ▸ Below.refl _ _⟩⟩
    · have hl2 : s.size / 4 + 1 ≤ 65535 := by omega
      exact ⟨textW s, 0, by rw [textW_len]; exact hl2, fun w => refOfText_ok s w hn hl2,
        fun w => (ofText_ok s w hn hl2).mono fun e w' h => ⟨_, _, h.1, textW_len s, View.ofRow h.2.1 (textW_len s), h.2.2⟩⟩
  · have hex : ∃ k, k < s.size ∧ nth (strI s) k = 0 := by
      apply Classical.byContradiction
      intro hno
      apply hn
      intro k hk hz
      exact hno ⟨k, hk, hz⟩
    obtain ⟨k, hk, hz⟩ := hex
    exact ⟨[], 13, by simp, fun w => (refOfText_nul s w hs k hk hz).mono fun e w' h => ⟨none, 0, h.1, rfl, view_nil, h.2 ▸ Below.refl _ _⟩,
      fun w => (ofText_nul s w k hk hz).mono fun e w' h => ⟨none, 0, h.1, rfl, view_nil, h.2 ▸ Below.refl _ _⟩⟩

set_option maxHeartbeats 1000000 in
theorem writes_law (w : World) (s : ByteArray) (hs : s.size ≤ 140737488351232) :
    Calls Try.prog 8 #[.string s] w fun e w' => e = .returned (.bool true) ∧ Below w.heap.size w w' := by
  obtain ⟨ws, er, hlen, hr, ho⟩ := writes_same s hs
  have hR := fun wx => room_any s wx hs
  have hR' := fun wx => refRoom_any s wx hs
  generalize s.size / 4 + 1 = m at hR hR'
  go_enter Try.func8, Try.ntmps8
  go_wp2_with fail
  refine (hr w).mono ?_
  rintro e w1 ⟨aw, m1, rfl, hm1, hv1, hb1⟩
  have s1 := hb1.size
  go_wp2_with fail
  refine (ho w1).mono ?_
  rintro e w2 ⟨ax, m2, rfl, hm2, hv2, hb2⟩
  have s2 := hb2.size
  obtain rfl : m1 = m2 := by omega
  have hb02 := hb1.trans (hb2.mono s1)
  have hv1' := hv1.below hb2
  have HM : Hid (ws.length = m1) := hm1
  have hm3 : m1 ≤ 65535 := by omega
  clear hm1 hm2 hv1
  go_wp2_with fail
  refine (words_true _ _ m1 m1 m1 ws w2 hv2 hv1' HM.out (by omega)).mono ?_
  rintro e w3 ⟨rfl, q, rfl⟩
  go_wp2_with (first | (go_at_call 23; refine (hR _).mono ?_; rintro e w' ⟨rfl, rfl⟩) | (go_at_call 24; refine (hR' _).mono ?_; rintro e w' ⟨rfl, rfl⟩))
  go_ret
  exact ⟨rfl, bel_drewN hb02 _⟩

end Go.Proofs.Ytmmpejhmmgkfkaa
