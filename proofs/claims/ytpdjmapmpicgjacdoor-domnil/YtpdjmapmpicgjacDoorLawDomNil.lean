/-
  DomNil is true for every two numbers.
-/
import Derived.RangeFuncNested
import Derived.RangeFuncBound
import Derived.RangeFuncCalls
import Derived.RangeFuncLeaves
import Derived.Shelf.Abstract
import Derived.Shelf.RegionOpen
import Derived.WalkKit
import Derived.OwnWalkIn
import Derived.TacticsInMore
import Derived.LoopNIn
import Derived.LoopIn
import Derived.WalkSpells
import Derived.Test.YtpdjmapmpicgjacDoorProg
import Derived.Test.YtpdjmapmpicgjacDoorBoxes
import Derived.Test.YtpdjmapmpicgjacDoorDomNil
namespace Go.Proofs.YtpdjmapmpicgjacDoor
open Go.RowKit Go.Shelf
attribute [local go_sem] Oper.semAt_some
set_option linter.unusedVariables false
set_option linter.unusedSimpArgs false
set_option maxRecDepth 10000

set_option maxRecDepth 100000 in
set_option maxHeartbeats 8000000 in
theorem domNil_true (w : World) (i : Int) (hi : (Lit.int .i64 i).wf = true) (k : Int) (hk : (Lit.int .i64 k).wf = true) :
    Calls Tryd.prog 5 #[.int .i64 i, .int .i64 k] w fun e w' => e = .returned (.bool true) ∧ Below w.heap.size w w' := by
  have hnf : ∀ (w : World) (a b : Addr), (binOp .eql 32 (.func (.func 28) #[] #[.pointer (some a), .pointer (some b)]) .nilFunc).run Tryd.prog w = .ok (.bool false) w := fun w a b => by kernel_rfl
  refine (callsIn_wide (n := 0)).1 ?_
  refine callsIn_of_wp_marks Tryd.func5 rfl trivial ?_ rfl
  simp only [Tryd.ntmps5, List.size_toArray, List.length_cons, List.length_nil, Nat.reduceAdd, Nat.reduceSub, Array.replicate_succ, Array.replicate_zero, List.push_toArray, List.append_toArray, List.nil_append, List.cons_append]
  gi_wp2_with fail
  refine ⟨trivial, rfl, (callsIn_wide.2 (domNew_nil _)).mono ?_⟩
  rintro e w1 ⟨rfl, rfl⟩
  gi_wp2_with fail
  obtain ⟨w1, hw1⟩ : ∃ X, X = w.alloc (.cells #[.int .i64 0] 3) := ⟨_, rfl⟩
  have hb1 : Below w.heap.size w w1 := by rw [hw1]; exact (Below.refl _ w).alloc (Nat.le_refl _) _
  have k1 : w1.heap[w.heap.size]? = some (.cells #[.int .i64 0] 3 (0, 0)) := by rw [hw1]; exact allocNew w _ rfl
  have s1 : w1.heap.size = w.heap.size + 1 := by rw [hw1]; simp
  rw [← hw1]
  clear hw1
  refine ⟨trivial, rfl, (callsIn_wide.2 (domUp_nil i w1)).mono ?_⟩
  rintro e w2 ⟨rfl, hw2⟩
  have hb12 : Below w1.heap.size w1 w2 := by rw [← hw2]; exact ((Below.refl _ w1).alloc (Nat.le_refl _) _).alloc (by simp) _
  have kT : w2.heap[w1.heap.size]? = some (.cells #[.pointer none] 24 (0, 0)) := by rw [← hw2]; exact allocOld (allocNew _ _ rfl) _
  have kI : w2.heap[w1.heap.size + 1]? = some (.cells #[.int .i64 i] 3 (0, 0)) := by rw [← hw2]; exact allocNew _ _ (by simp)
  have s2 : w2.heap.size = w1.heap.size + 2 := by rw [← hw2]; simp
  have hT := domUpNil_tells i w1.heap.size w2.heap.size (fun _ => False) w2 kT kI
  have m1 := (hb12.block _ (by omega)).trans k1
  have hb2 := hb1.trans (hb12.mono hb1.size)
  have hl2 : w.heap.size + 1 ≤ w2.heap.size := by omega
  clear hw2 kT kI k1 hb1 hb12 s1 s2
  gi_wp2_with fail
  refine wp_tells rfl (enters_of Tryd.func28 (by kernel_rfl) rfl) hT (Nat.le_refl _) (fun _ => rfl)
    (fun pre W => Below w.heap.size w W ∧ W.heap[w.heap.size]? = some (.cells #[.int .i64 0] 3 (0, 0))) (fun _ _ _ => False) ?own (fun c => by rintro pre W W' row h; exact h.elim)
    ⟨hb2, m1⟩ (fun _ _ _ _ => False) ?hAx ?assign ?body ?done ?stop
  case own =>
    rintro pre W W' row ⟨h1, h2⟩ hg hr
    exact ⟨belowStay h1 (Nat.le_refl _) (by omega) hg hr, cellsStay h2 hg hr⟩
  case hAx => rintro pre x a' s W W' row h; exact h.elim
  case assign => rintro l pre x W K hI hV; exact hV.elim
  case body => rintro l pre x a' W hl' _ _ h; exact h.elim
  case stop => rintro D c pre W hD h; exact h.elim
  case done =>
    rintro D xs W hD rfl ⟨h1, h2⟩ hK
    have hDw : w.heap.size < D := by omega
    have HDW := hide hDw
    have HB := hide h1
    have HK := hide hK
    have H2 := hide h2
    have hnr := hide (domNear_nil i k W)
    clear h1 h2 hK hD hDw hl2 m1 hb2 hT
    gi_wp2_with fail
    refine ⟨trivial, rfl, (callsIn_wide.2 hnr.out).mono ?_⟩
    rintro e W1 ⟨rfl, hb1⟩
    have HB1 := hide (HB.out.trans (hb1.mono HB.out.size))
    have HK1 := hide ((hb1.block _ (Array.getElem?_eq_some_iff.1 HK.out).1).trans HK.out)
    have N1 := hide ((hb1.block _ (Array.getElem?_eq_some_iff.1 H2.out).1).trans H2.out)
    clear hb1 hnr
    gi_wp2_with fail
    refine ⟨trivial, rfl, (callsIn_wide.2 (domOver_nil i W1)).mono ?_⟩
    rintro e w' ⟨rfl, rfl⟩
    gi_wp2_with fail
    refine ⟨trivial, rfl, (callsIn_wide.2 (domDepth_nil i W1)).mono ?_⟩
    rintro e w' ⟨rfl, rfl⟩
    gi_wp2_with fail
    refine ⟨trivial, rfl, (callsIn_wide.2 (domDominates_nil i k W1)).mono ?_⟩
    rintro e w' ⟨rfl, rfl⟩
    gi_wp2_with fail
    refine ⟨trivial, rfl, (callsIn_wide.2 (domUnder_nil i W1)).mono ?_⟩
    rintro e w' ⟨rfl, rfl⟩
    have c1 := (oneCell N1.out).1
    gi_wp2_with fail
    refine ⟨trivial, rfl, (callsIn_wide.2 (domFrontier_nil i W1)).mono ?_⟩
    rintro e W2 ⟨rfl, hb2⟩
    have HB2 := hide (HB1.out.trans (hb2.mono HB1.out.size))
    have HK2 := hide ((hb2.block _ (Array.getElem?_eq_some_iff.1 HK1.out).1).trans HK1.out)
    clear hb2 c1
    gi_wp2_with fail
    refine ⟨trivial, rfl, (callsIn_wide.2 (domBacks_nil W2)).mono ?_⟩
    rintro e W3 ⟨rfl, hb3⟩
    have HB3 := hide (HB2.out.trans (hb3.mono HB2.out.size))
    have HK3 := hide ((hb3.block _ (Array.getElem?_eq_some_iff.1 HK2.out).1).trans HK2.out)
    clear hb3
    gi_wp2_with fail
    refine ⟨by simp, .inl ⟨_, _, rfl, run_takeDeferred HK3.out, ?_⟩⟩
    exact ⟨.bool true, by simp [results, Tryd.results5, go_sem], rfl, HB3.out.grown (grownBy_putObj' _ D (.deferred none)) HB3.out.size (fun k e => by cases e; have := HDW.out; omega)⟩

end Go.Proofs.YtpdjmapmpicgjacDoor
