/-
  The law WordsBack returns true at every list of bytes and every list of words, and nothing that was there has turned.
-/
import Derived.WalkSpells
import Derived.Test.YtmmpejhmmgkfkaaMath2
import Derived.Test.YtmmpejhmmgkfkaaKitCopyBytes
import Derived.Test.YtmmpejhmmgkfkaaKitCopyWords
import Derived.Test.YtmmpejhmmgkfkaaKitWords
import Derived.Test.YtmmpejhmmgkfkaaKitBytes
import Derived.Test.YtmmpejhmmgkfkaaWordsSplit
import Derived.Test.YtmmpejhmmgkfkaaWordsJoin
namespace Go.Proofs.Ytmmpejhmmgkfkaa
open Go.RowKit

set_option maxHeartbeats 1000000 in
theorem back_law (w : World) (a : Option Addr) (n cap : Nat) (zs : List Int) (hl : zs.length = n) (hv : View .u8 w a zs) (hw : Within 256 zs) (hn : 1 * n ≤ 140737488351232)
    (a' : Option Addr) (n' cap' : Nat) (ys : List Int) (hl' : ys.length = n') (hv' : View .u32 w a' ys) (hw' : Within 4294967296 ys) (hn' : 4 * n' ≤ 140737488351232) :
    Calls Try.prog 5 #[.slice a n cap, .slice a' n' cap'] w fun e w' => e = .returned (.bool true) ∧ Below w.heap.size w w' := by
  rw [Nat.one_mul] at hn
  have HL : Hid (zs.length = n) := hl
  have HL' : Hid (ys.length = n') := hl'
  clear hl hl'
  go_enter Try.func5, Try.ntmps5
  go_wp2_with fail
  refine (copyBytes_any a n cap zs w hv HL.out hn).mono ?_
  rintro e w1 ⟨rfl, hown1, hb1⟩
  have s1 := hb1.size
  go_wp2_with fail
  refine (split_any _ n n zs w1 (View.ofRow hown1 HL.out) HL.out hw).mono ?_
  rintro e w2 ⟨ax, m, rfl, hm, hvx, _, hb2⟩
  have s2 := hb2.size
  have hb02 := hb1.trans (hb2.mono s1)
  clear hown1 hb1 hb2
  by_cases h4 : n % 4 = 0
  · have b1 : (((n : Int) % 4) == 0) = true := by simp; omega
    by_cases hlarge : 4194304 < n
    · have b2 : ¬ (n : Int) ≤ 4194304 := by omega
      rw [splitErr_large zs (by rw [HL.out]; exact hlarge)]
      have hbq := hb02
      clear hvx hm
      generalize w2 = wq at hbq
      have sq := hbq.size
      by_cases hbig : 1048576 < n'
      · have hb' : (1048576 : Int) < (n' : Int) := by omega
        go_wp2
        go_ret
        exact ⟨rfl, hbq⟩
      · have hb' : ¬ (1048576 : Int) < (n' : Int) := by omega
        go_wp2_with fail
        refine (copyWords_any a' n' cap' ys wq (hv'.below hbq) HL'.out hn').mono ?_
        rintro e w5 ⟨rfl, hown5, hb5⟩
        have s5 := hb5.size
        have hb05 := hbq.trans (hb5.mono sq)
        go_wp2_with fail
        refine (join_any _ n' n' ys w5 (View.ofRow hown5 HL'.out) HL'.out hn' hw').mono ?_
        rintro e w6 ⟨rfl, hown6, hb6⟩
        have s6 := hb6.size
        have hb06 := hb05.trans (hb6.mono (by omega))
        have hJ : (joinL ys).length = 4 * n' := by rw [joinL_len, HL'.out]
        have HJ : Hid ((joinL ys).length = 4 * n') := hJ
        go_wp2_with fail
        refine (split_any _ (4 * n') (4 * n') (joinL ys) w6 (View.ofRow hown6 hJ) hJ (joinL_within ys)).mono ?_
        rw [splitErr_ok _ (by rw [hJ]; omega) (by rw [hJ]; omega), splitOut_ok _ (by rw [hJ]; omega) (by rw [hJ]; omega), split_join ys hw', HL'.out]
        rintro e w7 ⟨ay, m', rfl, rfl, hvy, _, hb7⟩
        have s7 := hb7.size
        have hb07 := hb06.trans (hb7.mono (by omega))
        clear hJ
        go_wp2_with fail
        refine (words_true _ _ n' n' cap' ys w7 hvy (hv'.below hb07) HL'.out (by omega)).mono ?_
        rintro e w8 ⟨rfl, q8, rfl⟩
        go_wp2
        go_ret
        exact ⟨rfl, bel_drewN hb07 _⟩
    · have b2 : (n : Int) ≤ 4194304 := by omega
      rw [splitErr_ok zs (by rw [HL.out]; exact hlarge) (by rw [HL.out]; exact h4)]
      rw [splitOut_ok zs (by rw [HL.out]; exact hlarge) (by rw [HL.out]; exact h4)] at hvx hm
      have HM : Hid ((splitL zs).length = m) := hm
      have hmn : 4 * m ≤ n := by have := splitL_len zs; have := HL.out; omega
      have HN : Hid (4 * m = n) := by have := splitL_len zs; have := HL.out; show 4 * m = n; omega
      clear hm
      go_wp2_with fail
      refine (join_any _ m m (splitL zs) w2 hvx HM.out (by omega) (splitL_within zs hw)).mono ?_
      rw [join_split zs (by rw [HL.out]; exact h4) hw]
      rw [HN.out]
      rintro e w3 ⟨rfl, hown3, hb3⟩
      have s3 := hb3.size
      have hb03 := hb02.trans (hb3.mono (by omega))
      go_wp2_with fail
      refine (bytes_true _ _ n n cap zs w3 (View.ofRow hown3 HL.out) (hv.below hb03) HL.out (by omega)).mono ?_
      rintro e w4 ⟨rfl, q, rfl⟩
      have hbq : Below w.heap.size w (w3.drewN q) := bel_drewN hb03 q
      clear hvx hown3 hb3 hb03 hb02
      generalize w3.drewN q = wq at hbq
      have sq := hbq.size
      by_cases hbig : 1048576 < n'
      · have hb' : (1048576 : Int) < (n' : Int) := by omega
        go_wp2
        go_ret
        exact ⟨rfl, hbq⟩
      · have hb' : ¬ (1048576 : Int) < (n' : Int) := by omega
        go_wp2_with fail
        refine (copyWords_any a' n' cap' ys wq (hv'.below hbq) HL'.out hn').mono ?_
        rintro e w5 ⟨rfl, hown5, hb5⟩
        have s5 := hb5.size
        have hb05 := hbq.trans (hb5.mono sq)
        go_wp2_with fail
        refine (join_any _ n' n' ys w5 (View.ofRow hown5 HL'.out) HL'.out hn' hw').mono ?_
        rintro e w6 ⟨rfl, hown6, hb6⟩
        have s6 := hb6.size
        have hb06 := hb05.trans (hb6.mono (by omega))
        have hJ : (joinL ys).length = 4 * n' := by rw [joinL_len, HL'.out]
        have HJ : Hid ((joinL ys).length = 4 * n') := hJ
        go_wp2_with fail
        refine (split_any _ (4 * n') (4 * n') (joinL ys) w6 (View.ofRow hown6 hJ) hJ (joinL_within ys)).mono ?_
        rw [splitErr_ok _ (by rw [hJ]; omega) (by rw [hJ]; omega), splitOut_ok _ (by rw [hJ]; omega) (by rw [hJ]; omega), split_join ys hw', HL'.out]
        rintro e w7 ⟨ay, m', rfl, rfl, hvy, _, hb7⟩
        have s7 := hb7.size
        have hb07 := hb06.trans (hb7.mono (by omega))
        clear hJ
        go_wp2_with fail
        refine (words_true _ _ n' n' cap' ys w7 hvy (hv'.below hb07) HL'.out (by omega)).mono ?_
        rintro e w8 ⟨rfl, q8, rfl⟩
        go_wp2
        go_ret
        exact ⟨rfl, bel_drewN hb07 _⟩
  · have b1 : (((n : Int) % 4) == 0) = false := by simp; omega
    have ber : (splitErr zs == 0) = false := by
      unfold splitErr
      rw [HL.out]
      split
      · rfl
      · rfl
    have hbq := hb02
    clear hvx hm
    generalize splitErr zs = er at ber
    generalize w2 = wq at hbq
    have sq := hbq.size
    by_cases hbig : 1048576 < n'
    · have hb' : (1048576 : Int) < (n' : Int) := by omega
      go_wp2
      go_ret
      exact ⟨rfl, hbq⟩
    · have hb' : ¬ (1048576 : Int) < (n' : Int) := by omega
      go_wp2_with fail
      refine (copyWords_any a' n' cap' ys wq (hv'.below hbq) HL'.out hn').mono ?_
      rintro e w5 ⟨rfl, hown5, hb5⟩
      have s5 := hb5.size
      have hb05 := hbq.trans (hb5.mono sq)
      go_wp2_with fail
      refine (join_any _ n' n' ys w5 (View.ofRow hown5 HL'.out) HL'.out hn' hw').mono ?_
      rintro e w6 ⟨rfl, hown6, hb6⟩
      have s6 := hb6.size
      have hb06 := hb05.trans (hb6.mono (by omega))
      have hJ : (joinL ys).length = 4 * n' := by rw [joinL_len, HL'.out]
      have HJ : Hid ((joinL ys).length = 4 * n') := hJ
      go_wp2_with fail
      refine (split_any _ (4 * n') (4 * n') (joinL ys) w6 (View.ofRow hown6 hJ) hJ (joinL_within ys)).mono ?_
      rw [splitErr_ok _ (by rw [hJ]; omega) (by rw [hJ]; omega), splitOut_ok _ (by rw [hJ]; omega) (by rw [hJ]; omega), split_join ys hw', HL'.out]
      rintro e w7 ⟨ay, m', rfl, rfl, hvy, _, hb7⟩
      have s7 := hb7.size
      have hb07 := hb06.trans (hb7.mono (by omega))
      clear hJ
      go_wp2_with fail
      refine (words_true _ _ n' n' cap' ys w7 hvy (hv'.below hb07) HL'.out (by omega)).mono ?_
      rintro e w8 ⟨rfl, q8, rfl⟩
      go_wp2
      go_ret
      exact ⟨rfl, bel_drewN hb07 _⟩

end Go.Proofs.Ytmmpejhmmgkfkaa
