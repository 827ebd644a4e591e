/-
  What a tree that is none answers.
-/
import Derived.RangeFuncNested
import Derived.RangeFuncBound
import Derived.RangeFuncCalls
import Derived.RangeFuncLeaves
import Derived.Shelf.Abstract
import Derived.Shelf.RegionOpen
import Derived.WalkKit
import Derived.OwnWalkIn
import Derived.TacticsInMore
import Derived.LoopNIn
import Derived.LoopIn
import Derived.WalkSpells
import Derived.Test.YtpdjmapmpicgjacDoorProg
import Derived.Test.YtpdjmapmpicgjacDoorSlots
import Derived.Test.YtpdjmapmpicgjacDoorIter
import Derived.Test.YtpdjmapmpicgjacDoorBoxes
namespace Go.Proofs.YtpdjmapmpicgjacDoor
open Go.RowKit Go.Shelf
attribute [local go_sem] Oper.semAt_some
set_option linter.unusedVariables false
set_option linter.unusedSimpArgs false
set_option maxRecDepth 10000

theorem domReached_nil (i : Int) (w : World) : Calls Tryd.prog 29 #[.pointer none, .int .i64 i] w fun e w' => e = .returned (.bool false) ∧ w = w' := by
  go_enter Tryd.func29, Tryd.ntmps29
  go_wp2
  go_ret
  exact ⟨rfl, rfl⟩
theorem domNew_nil (w : World) : Calls Tryd.prog 19 #[.pointer none] w fun e w' => e = .returned (.tuple #[.pointer none, .int .i64 1]) ∧ w = w' := by
  go_enter Tryd.func19, Tryd.ntmps19
  go_wp2
  go_ret2
  exact ⟨rfl, rfl⟩
theorem domOver_nil (i : Int) (w : World) : Calls Tryd.prog 21 #[.pointer none, .int .i64 i] w fun e w' => e = .returned (.int .i64 (-1)) ∧ w = w' := by
  have hH := domReached_nil i w
  go_enter Tryd.func21, Tryd.ntmps21
  go_wp2_with fail
  refine hH.mono ?_
  rintro e w' ⟨rfl, rfl⟩
  go_wp2
  go_ret
  exact ⟨rfl, rfl⟩
theorem domDepth_nil (i : Int) (w : World) : Calls Tryd.prog 22 #[.pointer none, .int .i64 i] w fun e w' => e = .returned (.int .i64 (-1)) ∧ w = w' := by
  have hH := domReached_nil i w
  go_enter Tryd.func22, Tryd.ntmps22
  go_wp2_with fail
  refine hH.mono ?_
  rintro e w' ⟨rfl, rfl⟩
  go_wp2
  go_ret
  exact ⟨rfl, rfl⟩
theorem domDominates_nil (i k : Int) (w : World) : Calls Tryd.prog 23 #[.pointer none, .int .i64 i, .int .i64 k] w fun e w' => e = .returned (.bool false) ∧ w = w' := by
  have hH := domReached_nil i w
  go_enter Tryd.func23, Tryd.ntmps23
  go_wp2_with fail
  refine hH.mono ?_
  rintro e w' ⟨rfl, rfl⟩
  go_wp2
  go_ret
  exact ⟨rfl, rfl⟩
theorem domUnder_nil (i : Int) (w : World) : Calls Tryd.prog 24 #[.pointer none, .int .i64 i] w fun e w' => e = .returned (.slice none 0 0) ∧ w = w' := by
  have hH := domReached_nil i w
  go_enter Tryd.func24, Tryd.ntmps24
  go_wp2_with fail
  refine hH.mono ?_
  rintro e w' ⟨rfl, rfl⟩
  go_wp2
  go_ret
  exact ⟨rfl, rfl⟩

theorem domFrontier_nil (i : Int) (w : World) : Calls Tryd.prog 13 #[.pointer none, .int .i64 i] w fun e w' => e = .returned (.slice none 0 0) ∧ Below w.heap.size w w' := by
  have hH := fun wx => domReached_nil i wx
  refine (callsIn_wide (n := 0)).1 ?_
  refine callsIn_of_wp_marks Tryd.func13 rfl trivial ?_ rfl
  simp only [Tryd.ntmps13, List.size_toArray, List.length_cons, List.length_nil, Nat.reduceAdd, Nat.reduceSub, Array.replicate_succ, Array.replicate_zero, List.push_toArray, List.append_toArray, List.nil_append, List.cons_append]
  gi_wp2_with fail
  refine ⟨trivial, rfl, (callsIn_wide.2 (hH _)).mono ?_⟩
  rintro e w' ⟨rfl, rfl⟩
  have hb : Below w.heap.size w ((w.alloc (.cells #[.pointer none] 24)).alloc (.cells #[.int .i64 i] 3)) := ((Below.refl _ w).alloc (Nat.le_refl _) _).alloc (by simp) _
  have HB := hide hb
  clear hb hH
  gi_wp2_with fail
  exact ⟨.slice none 0 0, by simp [results, Tryd.results13, go_sem], rfl, HB.out⟩
theorem domBacks_nil (w : World) : Calls Tryd.prog 18 #[.pointer none] w fun e w' => e = .returned (.slice none 0 0) ∧ Below w.heap.size w w' := by
  refine (callsIn_wide (n := 0)).1 ?_
  refine callsIn_of_wp_marks Tryd.func18 rfl trivial ?_ rfl
  simp only [Tryd.ntmps18, List.size_toArray, List.length_cons, List.length_nil, Nat.reduceAdd, Nat.reduceSub, Array.replicate_succ, Array.replicate_zero, List.push_toArray, List.append_toArray, List.nil_append, List.cons_append]
  have hb : Below w.heap.size w (w.alloc (.cells #[.pointer none] 24)) := (Below.refl _ w).alloc (Nat.le_refl _) _
  have HB := hide hb
  clear hb
  gi_wp2_with fail
  exact ⟨.slice none 0 0, by simp [results, Tryd.results18, go_sem], rfl, HB.out⟩
theorem domUp_nil (i : Int) (w : World) : Calls Tryd.prog 12 #[.pointer none, .int .i64 i] w fun e w' => e = .returned (.func (.func 28) #[] #[.pointer (some ⟨w.heap.size, 0, none⟩), .pointer (some ⟨w.heap.size + 1, 0, none⟩)]) ∧ (w.alloc (.cells #[.pointer none] 24)).alloc (.cells #[.int .i64 i] 3) = w' := by
  go_enter Tryd.func12, Tryd.ntmps12
  go_wp2
  go_ret
  exact ⟨rfl, rfl⟩

theorem domUpNil_tells (i : Int) (B : Nat) (n₀ : Nat) (τ : TypeId → Prop) (w : World) (hT : w.heap[B]? = some (.cells #[.pointer none] 24 (0, 0))) (hI : w.heap[B + 1]? = some (.cells #[.int .i64 i] 3 (0, 0))) : Tells Tryd.prog 28 #[.pointer (some ⟨B, 0, none⟩), .pointer (some ⟨B + 1, 0, none⟩)] (fun x : Int => #[.int .i64 x]) (fun _ _ _ => False) n₀ τ (fun xs => xs = []) (fun _ => False) w := by
  rintro l J Jx W hb hJ hJx hy h0
  have kT := (oneCell ((hb.block _ (Array.getElem?_eq_some_iff.1 hT).1).trans hT)).1
  have kI := (oneCell ((hb.block _ (Array.getElem?_eq_some_iff.1 hI).1).trans hI)).1
  have hR := domReached_nil i W
  clear hT hI
  refine callsIn_of_wp_marks Tryd.func28 rfl trivial ?_ rfl
  simp only [Tryd.ntmps28, List.size_toArray, List.length_cons, List.length_nil, Nat.reduceAdd, Nat.reduceSub, Array.replicate_succ, Array.replicate_zero, List.push_toArray, List.append_toArray, List.nil_append, List.cons_append]
  gi_wp2_with fail
  refine ⟨trivial, rfl, (callsIn_wide.2 hR).mono ?_⟩
  rintro e w' ⟨rfl, rfl⟩
  gi_wp2_with fail
  exact ⟨.tuple #[], by simp [results, Tryd.results28, go_sem], ⟨_, rfl⟩, .inl ⟨[], rfl, h0⟩⟩

set_option maxRecDepth 100000 in
set_option maxHeartbeats 8000000 in
theorem domNear_nil (i k : Int) (w : World) : Calls Tryd.prog 20 #[.pointer none, .int .i64 i, .int .i64 k] w fun e w' => e = .returned (.tuple #[.int .i64 0, .bool false]) ∧ Below w.heap.size w w' := by
  refine (callsIn_wide (n := 0)).1 ?_
  refine callsIn_of_wp_marks Tryd.func20 rfl trivial ?_ rfl
  simp only [Tryd.ntmps20, List.size_toArray, List.length_cons, List.length_nil, Nat.reduceAdd, Nat.reduceSub, Array.replicate_succ, Array.replicate_zero, List.push_toArray, List.append_toArray, List.nil_append, List.cons_append]
  gi_wp2_with fail
  obtain ⟨w1, hw1⟩ : ∃ X, X = (((w.alloc (.cells #[.pointer none] 24)).alloc (.cells #[.int .i64 k] 3)).alloc (.cells #[.int .i64 0] 3)).alloc (.cells #[.bool false] 4) := ⟨_, rfl⟩
  have hb1 : Below w.heap.size w w1 := by rw [hw1]; exact ((((Below.refl _ w).alloc (Nat.le_refl _) _).alloc (by simp) _).alloc (by simp; omega) _).alloc (by simp; omega) _
  have s1 : w1.heap.size = w.heap.size + 4 := by rw [hw1]; simp
  have k2 : w1.heap[w.heap.size + 2]? = some (.cells #[.int .i64 0] 3 (0, 0)) := by rw [hw1]; exact allocOld (allocNew _ _ (by simp)) _
  have k3 : w1.heap[w.heap.size + 3]? = some (.cells #[.bool false] 4 (0, 0)) := by rw [hw1]; exact allocNew _ _ (by simp)
  rw [← hw1]
  clear hw1
  refine ⟨trivial, rfl, (callsIn_wide.2 (domUp_nil i w1)).mono ?_⟩
  rintro e w2 ⟨rfl, hw2⟩
  have hb12 : Below w1.heap.size w1 w2 := by rw [← hw2]; exact ((Below.refl _ w1).alloc (Nat.le_refl _) _).alloc (by simp) _
  have kT : w2.heap[w1.heap.size]? = some (.cells #[.pointer none] 24 (0, 0)) := by rw [← hw2]; exact allocOld (allocNew _ _ rfl) _
  have kI : w2.heap[w1.heap.size + 1]? = some (.cells #[.int .i64 i] 3 (0, 0)) := by rw [← hw2]; exact allocNew _ _ (by simp)
  have s2 : w2.heap.size = w1.heap.size + 2 := by rw [← hw2]; simp
  have hT := domUpNil_tells i w1.heap.size w2.heap.size (fun _ => False) w2 kT kI
  have m2 := (hb12.block _ (by omega)).trans k2
  have m3 := (hb12.block _ (by omega)).trans k3
  have hb2 := hb1.trans (hb12.mono hb1.size)
  have hl2 : w.heap.size + 6 ≤ w2.heap.size := by omega
  clear hw2 kT kI k2 k3 hb1 hb12 s1 s2
  gi_wp2_with fail
  refine wp_tells rfl (enters_of Tryd.func28 (by kernel_rfl) rfl) hT (Nat.le_refl _) (fun _ => rfl)
    (fun pre W => Below w.heap.size w W ∧ W.heap[w.heap.size + 2]? = some (.cells #[.int .i64 0] 3 (0, 0)) ∧ W.heap[w.heap.size + 3]? = some (.cells #[.bool false] 4 (0, 0))) (fun _ _ _ => False) ?own (fun c => by rintro pre W W' row h; exact h.elim)
    ⟨hb2, m2, m3⟩ (fun _ _ _ _ => False) ?hAx ?assign ?body ?done ?stop
  case own =>
    rintro pre W W' row ⟨h1, h2, h3⟩ hg hr
    exact ⟨belowStay h1 (Nat.le_refl _) (by omega) hg hr, cellsStay h2 hg hr, cellsStay h3 hg hr⟩
  case hAx => rintro pre x a' s W W' row h; exact h.elim
  case assign => rintro l pre x W K hI hV; exact hV.elim
  case body => rintro l pre x a' W hl' _ _ h; exact h.elim
  case stop => rintro D c pre W hD h; exact h.elim
  case done =>
    rintro D xs W hD rfl ⟨h1, h2, h3⟩ hK
    have hDw : w.heap.size + 3 < D := by omega
    have HDW := hide hDw
    have e2 := oneCell h2
    have e3 := oneCell h3
    obtain ⟨W1, hW1⟩ : ∃ X, X = (W.setCell ⟨w.heap.size + 2, 0, none⟩ (.int .i64 0)).setCell ⟨w.heap.size + 3, 0, none⟩ (.bool false) := ⟨_, rfl⟩
    have hK1 : W1.heap[D]? = some (.deferred (some [])) := by rw [hW1]; exact (KeepsOthers.setCell _ _ _).same D _ ((KeepsOthers.setCell _ _ _).same D _ hK rfl) rfl
    have hb : Below w.heap.size w W1 := by rw [hW1]; exact (h1.setCell (by simp) _).setCell (by simp) _
    have n2 : W1.heap[w.heap.size + 2]? = some (.cells #[.int .i64 0] 3 (0, 0)) := by rw [hW1]; exact setFar (oneSet h2 _) (by omega) _ _
    have n3 : W1.heap[w.heap.size + 3]? = some (.cells #[.bool false] 4 (0, 0)) := by rw [hW1]; exact oneSet (setFar h3 (by omega) _ _) _
    have f3 := oneCell (setFar h3 (show w.heap.size + 3 ≠ w.heap.size + 2 by omega) 0 (.int .i64 0))
    have HK1 := hide hK1
    have HBB := hide hb
    have N2 := hide n2
    have N3 := hide n3
    have HWW := hide hW1
    clear hK1 hb n2 n3 hW1 h1 h2 h3 hK hl2 m2 m3 hb2 hT hD hDw
    gi_wp2_with fail
    rw [← HWW.out]
    refine ⟨by simp, .inl ⟨_, _, rfl, run_takeDeferred HK1.out, ?_⟩⟩
    have hDl := HDW.out
    have r2 := (oneCell ((World.putObj_heap_other (o := .deferred none) (show w.heap.size + 2 ≠ D by omega)).trans N2.out)).1
    have r3 := (oneCell ((World.putObj_heap_other (o := .deferred none) (show w.heap.size + 3 ≠ D by omega)).trans N3.out)).1
    exact ⟨.tuple #[.int .i64 0, .bool false], by simp [results, Tryd.results20, go_sem, r2, r3], rfl, HBB.out.grown (grownBy_putObj' _ D (.deferred none)) HBB.out.size (fun k e => by cases e; omega)⟩

end Go.Proofs.YtpdjmapmpicgjacDoor
