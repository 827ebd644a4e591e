/-
  A small graph is told: awake of the laws of layer 14.
-/
import Derived.WalkSpells
import Derived.WalkMore
import Derived.OwnWalk
import Derived.BigGuard
import Derived.Test.YtpdjmapmpicgjaaProg
import Derived.Test.YtpdjmapmpicgjaaGraphOf
import Derived.Test.YtpdjmapmpicgjaaKitInts
namespace Go.Proofs.Ytpdjmapmpicgjaa
open Go.RowKit
set_option linter.unusedVariables false
set_option linter.unusedSimpArgs false
set_option maxRecDepth 10000

set_option maxHeartbeats 2000000 in
theorem pair_any (a b : Int) (w : World) : Calls Try.prog 37 #[.int .i64 a, .int .i64 b] w fun e w' => ∃ g, e = .returned (.slice (some ⟨g, 0, none⟩) 2 2) ∧ w'.ownsRow w.heap.size 3 1 (.slice (some ⟨g, 0, none⟩) 2 2) 2 ([a, b].map (Value.int .i64)) ∧ Below w.heap.size w w' := by
  obtain ⟨i0, hi, hz0, hz1, hz2⟩ := info_parts GrInts.info
  go_enter Try.func37, Try.ntmps37
  go_wp2_with (at_make; refine wpList_make_full _ rfl _ _ 32 rfl w.heap.size 3 i0 (.int .i64 0) 1 Try.underlying32 hi hz0 hz1 _ _ _ _ 2 rfl rfl (by rfl) (by rfl) (by rw [hz2]; omega) (by unfold maxLen; omega) (Nat.le_refl _) ?_)
  intro w1 hown1 hgr1
  have hb1 : Below w.heap.size w w1 := (Below.refl _ w).grown hgr1 (Nat.le_refl _) (by simp)
  have hr1 : w1.ownsRow w.heap.size 3 1 (.slice (some ⟨w.heap.size, 0, none⟩) 2 2) 2 [.int .i64 0, .int .i64 0] := by
    have := made_row (List.replicate 2 0) (by simpa using hown1)
    rw [filled_zero] at this; exact this
  have c0 : w1.cell? ⟨w.heap.size, 0, none⟩ = some (.int .i64 0) := hr1.cellAt 0 (by omega)
  have f0 : w1.frozen? ⟨w.heap.size, 0, none⟩ = false := hr1.frozenAt _
  have hr2 := own_setAt hr1 0 (.int .i64 a)
  have hr3 := own_setAt hr2 1 (.int .i64 b)
  have c1 : (w1.setCell ⟨w.heap.size, 0, none⟩ (.int .i64 a)).cell? ⟨w.heap.size, 1, none⟩ = some (.int .i64 0) := hr2.cellAt 1 (by omega)
  have f1 : (w1.setCell ⟨w.heap.size, 0, none⟩ (.int .i64 a)).frozen? ⟨w.heap.size, 1, none⟩ = false := hr2.frozenAt _
  have hb2 : Below w.heap.size w (w1.setCell ⟨w.heap.size, 0, none⟩ (.int .i64 a)) := hb1.grown (grown_setCell w1 w.heap.size 0 _) hb1.size (fun k e => by cases e; exact Nat.le_refl _)
  have hb3 : Below w.heap.size w ((w1.setCell ⟨w.heap.size, 0, none⟩ (.int .i64 a)).setCell ⟨w.heap.size, 1, none⟩ (.int .i64 b)) := hb2.grown (grown_setCell _ w.heap.size 1 _) hb2.size (fun k e => by cases e; exact Nat.le_refl _)
  have HF := hide (And.intro hr3 hb3)
  have c1' : w1.cell? ⟨w.heap.size, 1, none⟩ = some (.int .i64 0) := hr1.cellAt 1 (by omega)
  have f1' : w1.frozen? ⟨w.heap.size, 1, none⟩ = false := hr1.frozenAt _
  clear hown1 hgr1 hb1 hr1 hr2 hr3 hb2 hb3 c1 f1
  go_wp2_with fail
  go_ret
  exact ⟨_, rfl, HF.out.1, HF.out.2⟩

/-- The small graph. -/
def smallN : List (List Int) := [[2, 1], [], [0, 2]]
theorem small_once : smallN.map onceF = smallN := by decide
theorem small_edges : Edges 3 smallN := by
  intro j x hx
  match j with
  | 0 => simp [smallN, rowN] at hx; omega
  | 1 => simp [smallN, rowN] at hx
  | 2 => simp [smallN, rowN] at hx; omega
  | j + 3 => simp [smallN, rowN] at hx
theorem small_next : nextL smallN 0 = [2, 1] := by decide
theorem small_ahead : aheadL smallN 2 = [0, 2] := by decide
theorem small_reached : reachB smallN 1 = true := by decide
theorem small_order : (walkF smallN).2.reverse.length = 3 := by decide

set_option maxHeartbeats 8000000 in
theorem awake14_true (w : World) : Calls Try.prog 14 #[] w fun e w' => e = .returned (.bool true) ∧ Below w.heap.size w w' := by
  obtain ⟨j0, hj, hy0, hy1, hy2⟩ := info_parts GrLists.info
  go_enter Try.func14, Try.ntmps14
  go_wp2_with (at_make; refine wpList_make_full _ rfl _ _ 22 rfl w.heap.size 32 j0 (.slice none 0 0) 1 Try.underlying22 hj hy0 hy1 _ _ _ _ 3 rfl rfl (by rfl) (by rfl) (by rw [hy2]; omega) (by unfold maxLen; omega) (Nat.le_refl _) ?_)
  intro w1 hown1 hgr1
  have hb1 : Below w.heap.size w w1 := (Below.refl _ w).grown hgr1 (Nat.le_refl _) (by simp)
  have hO1 : OwnL w1 w.heap.size (.slice (some ⟨w.heap.size, 0, none⟩) 3 3) [[], [], []] := OwnL.made (by simpa using hown1)
  have HP1 := hide (pair_any 2 1 w1)
  clear hown1 hgr1
  go_wp2_with fail
  refine HP1.out.mono ?_
  rintro e w2 ⟨g2, rfl, hr2, hb2⟩
  obtain ⟨hO2, ⟨u2, hu2⟩, hf2, _⟩ := OwnL.put (N := [[], [], []]) hO1 hb2 (j := 0) (by decide) hb1.size hr2
  have hB2 : Below w.heap.size w (w2.setCell ⟨w.heap.size, 0, none⟩ (.slice (some ⟨g2, 0, none⟩) 2 2)) := by
    have h1 := hb1.trans (hb2.mono hb1.size)
    exact h1.grown (grown_setCell _ _ _ _) h1.size (fun k e => by cases e; exact Nat.le_refl _)
  have HP2 := hide (pair_any 0 2 (w2.setCell ⟨w.heap.size, 0, none⟩ (.slice (some ⟨g2, 0, none⟩) 2 2)))
  have HO2 := hide hO2
  have HB2 := hide hB2
  clear HP1 hr2 hb2 hO1 hb1 hO2 hB2
  go_wp2_with fail
  generalize w2.setCell ⟨w.heap.size, 0, none⟩ (.slice (some ⟨g2, 0, none⟩) 2 2) = W2 at *
  refine HP2.out.mono ?_
  rintro e w3 ⟨g3, rfl, hr3, hb3⟩
  obtain ⟨hO3, ⟨u3, hu3⟩, hf3, _⟩ := OwnL.put (N := [[2, 1], [], []]) HO2.out hb3 (j := 2) (by decide) HB2.out.size hr3
  have hB3 : Below w.heap.size w (w3.setCell ⟨w.heap.size, 2, none⟩ (.slice (some ⟨g3, 0, none⟩) 2 2)) := by
    have h1 := HB2.out.trans (hb3.mono HB2.out.size)
    exact h1.grown (grown_setCell _ _ _ _) h1.size (fun k e => by cases e; exact Nat.le_refl _)
  have hO3' : OwnL (w3.setCell ⟨w.heap.size, 2, none⟩ (.slice (some ⟨g3, 0, none⟩) 2 2)) w.heap.size (.slice (some ⟨w.heap.size, 0, none⟩) 3 3) smallN := hO3
  obtain ⟨a3, c3, e3, _, hLV, _⟩ := hO3'.head
  cases e3
  have hOf := graphOf_any _ 3 3 smallN _ hLV rfl (by omega) (fun j => by
    match j with
    | 0 => decide
    | 1 => decide
    | 2 => decide
    | j + 3 => simp [smallN, rowN])
  have HOf := hide hOf
  have HB3 := hide hB3
  clear HP2 hr3 hb3 hO3 hO3' hLV hB3 hOf HO2 HB2 hu2 hf2
  go_wp2_with fail
  generalize w3.setCell ⟨w.heap.size, 2, none⟩ (.slice (some ⟨g3, 0, none⟩) 2 2) = W3 at *
  refine HOf.out.mono ?_
  rintro e w4 (⟨h, _⟩ | ⟨h, _⟩ | ⟨_, _, h, _⟩ | ⟨_, _, _, p, rfl, hG, hb4⟩)
  · exact absurd h (by decide)
  · exact absurd h (by decide)
  · exact absurd small_edges h
  rw [small_once] at hG
  have HB4 := hide (HB3.out.trans (hb4.mono HB3.out.size))
  have HG4 := hide hG
  have hLen := graphLen_any w4 _ p smallN hG
  have hNx := graphNext_any 0 w4 _ p smallN hG
  rw [small_next] at hNx
  have HNx := hide hNx
  clear HOf hG hb4 HB3 hNx hu3 hf3
  go_wp2_with fail
  refine hLen.mono ?_
  rintro e w5 ⟨rfl, rfl⟩
  have hsl : (smallN.length : Int) = 3 := by decide
  rw [hsl]
  clear hLen hsl
  go_wp2_with fail
  refine HNx.out.mono ?_
  rintro e w5 ⟨v5, rfl, hr5, hb5⟩
  obtain ⟨a5, c5, rfl, hv5, _⟩ := View.ofOwned hr5
  have HB5 := hide (HB4.out.trans (hb5.mono HB4.out.size))
  have HG5 := hide (HG4.out.below hb5)
  have HV5 := hide hv5
  have HP := hide (pair_any 2 1 w5)
  clear HNx hr5 hb5 hv5 HB4 HG4
  go_wp2_with fail
  refine HP.out.mono ?_
  rintro e w6 ⟨g6, rfl, hr6, hb6⟩
  have hK := ints_true a5 _ 2 c5 2 [2, 1] w6 (HV5.out.below hb6) (View.ofOwn hr6 rfl) rfl (by omega)
  have HK := hide hK
  have HB6 := hide (HB5.out.trans (hb6.mono HB5.out.size))
  have HG6 := hide (HG5.out.below hb6)
  clear HP hr6 hb6 HV5 HB5 HG5 hK
  go_wp2_with fail
  refine HK.out.mono ?_
  rintro e w7 ⟨rfl, q7, rfl⟩
  have hd7 : Below w6.heap.size w6 (w6.drewN q7) := bel_drewN (Below.refl _ _) q7
  have HB7 := hide (HB6.out.trans (hd7.mono HB6.out.size))
  have hG7 := HG6.out.below hd7
  generalize w6.drewN q7 = w7 at *
  have hAh := graphAhead_any 2 w7 _ p smallN hG7
  rw [small_ahead] at hAh
  have HAh := hide hAh
  have HG7 := hide hG7
  clear HK HB6 HG6 hd7 hG7 hAh
  go_wp2_with fail
  refine HAh.out.mono ?_
  rintro e w8 ⟨v8, rfl, hr8, hb8⟩
  obtain ⟨a8, c8, rfl, hv8, _⟩ := View.ofOwned hr8
  have HB8 := hide (HB7.out.trans (hb8.mono HB7.out.size))
  have HG8 := hide (HG7.out.below hb8)
  have HV8 := hide hv8
  have HP := hide (pair_any 0 2 w8)
  clear HAh hr8 hb8 hv8 HB7 HG7
  go_wp2_with fail
  refine HP.out.mono ?_
  rintro e w9 ⟨g9, rfl, hr9, hb9⟩
  have hK := ints_true a8 _ 2 c8 2 [0, 2] w9 (HV8.out.below hb9) (View.ofOwn hr9 rfl) rfl (by omega)
  have HK := hide hK
  have HB9 := hide (HB8.out.trans (hb9.mono HB8.out.size))
  have HG9 := hide (HG8.out.below hb9)
  clear HP hr9 hb9 HV8 HB8 HG8 hK
  go_wp2_with fail
  refine HK.out.mono ?_
  rintro e w10 ⟨rfl, q10, rfl⟩
  have hd10 : Below w9.heap.size w9 (w9.drewN q10) := bel_drewN (Below.refl _ _) q10
  have HB10 := hide (HB9.out.trans (hd10.mono HB9.out.size))
  have hG10 := HG9.out.below hd10
  generalize w9.drewN q10 = w10 at *
  have hRe := graphReached_any 1 w10 _ p smallN hG10
  rw [small_reached] at hRe
  have hOr := graphOrder_any w10 _ p smallN hG10
  have HOr := hide hOr
  have HRe := hide hRe
  clear HK HB9 HG9 hd10 hG10 hRe hOr
  go_wp2_with fail
  refine HRe.out.mono ?_
  rintro e w11 ⟨rfl, rfl⟩
  clear HRe
  go_wp2_with fail
  refine HOr.out.mono ?_
  rintro e w12 ⟨v12, rfl, hr12, hb12⟩
  obtain ⟨a12, c12, rfl, _, _⟩ := View.ofOwned hr12
  have hol : ((walkF smallN).2.reverse.length : Int) = 3 := by rw [small_order]; rfl
  have HB12 := hide (HB10.out.trans (hb12.mono HB10.out.size))
  generalize (walkF smallN).2.reverse.length = ol at *
  have hol' : ((ol : Int) == 3) = true := by rw [hol]; rfl
  clear HOr hr12 hb12 HB10 hol
  go_wp2_with fail
  go_ret
  exact ⟨by simp [hol'], HB12.out⟩

end Go.Proofs.Ytpdjmapmpicgjaa
