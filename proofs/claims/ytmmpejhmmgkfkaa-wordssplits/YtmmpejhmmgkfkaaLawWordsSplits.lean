/-
  The law WordsSplits returns true at every list of bytes, and nothing that was there has turned.
-/
import Derived.WalkSpells
import Derived.Test.YtmmpejhmmgkfkaaKitCopyBytes
import Derived.Test.YtmmpejhmmgkfkaaKitWords
import Derived.Test.YtmmpejhmmgkfkaaKitBytes
import Derived.Test.YtmmpejhmmgkfkaaWordsSplit
import Derived.Test.YtmmpejhmmgkfkaaRef01Split
namespace Go.Proofs.Ytmmpejhmmgkfkaa
open Go.RowKit

set_option maxHeartbeats 1000000 in
theorem splits_law (w : World) (a : Option Addr) (n cap : Nat) (zs : List Int) (hl : zs.length = n) (hv : View .u8 w a zs) (hw : Within 256 zs) (hn : 1 * n ≤ 140737488351232) :
    Calls Try.prog 3 #[.slice a n cap] w fun e w' => e = .returned (.bool true) ∧ Below w.heap.size w w' := by
  rw [Nat.one_mul] at hn
  have HL : Hid (zs.length = n) := hl
  clear hl
  have hml : (splitOut zs).length ≤ n := by
    have h1 := splitL_len zs
    have h2 := HL.out
    unfold splitOut
    split
    · omega
    · simp
  go_enter Try.func3, Try.ntmps3
  go_wp2_with fail
  refine (refSplit_any a n cap zs w hv HL.out hw).mono ?_
  rintro e w1 ⟨aw, m, rfl, hm, hvw, _, hb1⟩
  have HM : Hid ((splitOut zs).length = m) := hm
  rw [hm] at hml
  clear hm
  have s1 := hb1.size
  go_wp2_with fail
  refine (copyBytes_any a n cap zs w1 (hv.below hb1) HL.out hn).mono ?_
  rintro e w2 ⟨rfl, hown2, hb2⟩
  have s2 := hb2.size
  have hb02 := hb1.trans (hb2.mono s1)
  have hg2 : w1.heap.size < w2.heap.size := by
    rcases hown2.2 with ⟨h, _⟩ | ⟨g, cap', cur, hv', hg, hh, _⟩
    · cases h
    · cases hv'; exact (Array.getElem?_eq_some_iff.1 hh).1
  go_wp2_with fail
  refine (split_any _ n n zs w2 (View.ofRow hown2 HL.out) HL.out hw).mono ?_
  rintro e w3 ⟨ax, m', rfl, hm', hvx, hnew, hb3⟩
  obtain rfl : m = m' := by rw [← HM.out, hm']
  have s3 := hb3.size
  have hb13 := hb2.trans (hb3.mono s2)
  have hown3 := own_below hown2 hb3
  clear hm' hown2
  have hv3 := hv.below (hb02.trans (hb3.mono (by omega)))
  have hvw3 := hvw.below hb13
  generalize splitErr zs = er
  go_wp2_with fail
  refine (words_true _ _ m m m _ w3 hvx hvw3 HM.out (by omega)).mono ?_
  rintro e w4 ⟨rfl, q, rfl⟩
  go_wp2_with fail
  refine (bytes_true _ _ n n cap zs _ ((View.ofRow hown3 HL.out).below (bel_drewN (Below.refl _ _) q)) (hv3.below (bel_drewN (Below.refl _ _) q)) HL.out (by omega)).mono ?_
  rintro e w5 ⟨rfl, q', rfl⟩
  have hb6 : Below w1.heap.size w1 ((w3.drewN q).drewN q') := bel_drewN (bel_drewN hb13 q) q'
  have hvx6 : View .u32 ((w3.drewN q).drewN q') ax (splitOut zs) := (hvx.below (bel_drewN (Below.refl _ _) q)).below (bel_drewN (Below.refl _ _) q')
  have hown6 : ((w3.drewN q).drewN q').ownsRow w1.heap.size 5 1 (.slice (some ⟨w1.heap.size, 0, none⟩) n n) n (zs.map (Value.int .u8)) := own_below (own_below hown3 (bel_drewN (Below.refl _ _) q)) (bel_drewN (Below.refl _ _) q')
  clear hown3 hvx hvw3 hv3 hb13 hb3 hb2 hb02
  generalize (w3.drewN q).drewN q' = w6 at hb6 hvx6 hown6
  go_wp2
  go_loopw [8] (fun i wr => ∃ (k : Nat) (cs : List Int), k ≤ n ∧ i = .int .i64 k ∧ cs.length = n ∧ Within 256 cs ∧ wr.ownsRow w1.heap.size 5 1 (.slice (some ⟨w1.heap.size, 0, none⟩) n n) n (cs.map (Value.int .u8)) ∧ View .u32 wr ax (splitOut zs) ∧ Below w1.heap.size w1 wr)
    (fun i _ => n - (intOf i).toNat)
  case atStart => exact ⟨0, zs, Nat.zero_le _, rfl, HL.out, hw, hown6, hvx6, hb6⟩
  case round =>
    obtain ⟨k, cs, hk, rfl, hcl, hcw, hown, hvr, hnx⟩ := hrel
    have HCL : Hid (cs.length = n) := hcl
    clear hcl hb6 hvx6 hown6
    by_cases hlt : k < n
    · have hx := hcw.at (k := k) (by rw [HCL.out]; exact hlt)
      have hd : wr.cell? ⟨w1.heap.size, k, none⟩ = some (.int .u8 (nth cs k)) := by
        obtain ⟨b, off, e1, _, hc⟩ := View.ofRow hown HCL.out k (by rw [HCL.out]; exact hlt)
        simp at e1
        obtain ⟨rfl, rfl⟩ := e1
        rw [Nat.zero_add] at hc
        exact hc
      have hf : wr.frozen? ⟨w1.heap.size, k, none⟩ = false := hown.frozenAt _
      generalize nth cs k = x at hx hd
      have hx0 := hx.1
      have hx1 := hx.2
      have HS : Hid (∀ u : Int, (wr.setCell ⟨w1.heap.size, k, none⟩ (.int .u8 u)).ownsRow w1.heap.size 5 1 (.slice (some ⟨w1.heap.size, 0, none⟩) n n) n ((cs.set k u).map (Value.int .u8))) := by
        intro u
        have := (hown.stored k (.int .u8 u)).1
        rw [← List.map_set] at this
        exact this
      clear hx hown
      go_wp2
      go_roundw
      case rel => exact ⟨k + 1, cs.set k _, by omega, by go_num, by rw [List.length_set]; exact HCL.out, within_set hcw (by omega) (by omega), HS.out _, hvr.setCell hnew hg2 _, hnx.setCell (Nat.le_refl _) _⟩
      case measure => simp [intOf]; omega
    · go_wp2_with fail
      refine (words_true _ _ m m m _ wr hvr (hvw.below hnx) HM.out (by omega)).mono ?_
      rintro e w7 ⟨rfl, q7, rfl⟩
      go_wp2
      go_ret
      exact ⟨rfl, bel_drewN (hb1.trans (hnx.mono s1)) _⟩

end Go.Proofs.Ytmmpejhmmgkfkaa
