/-
  Texts laid together in one: LawGraphNil.
-/
import Derived.RangeFuncNested
import Derived.RangeFuncBound
import Derived.RangeFuncCalls
import Derived.RangeFuncLeaves
import Derived.Shelf.Abstract
import Derived.Shelf.RegionOpen
import Derived.WalkKit
import Derived.OwnWalkIn
import Derived.TacticsInMore
import Derived.LoopNIn
import Derived.LoopIn
import Derived.Test.YtpdjmapmpicgjaaB01
import Derived.Test.YtpdjmapmpicgjaaB05
/-
  GraphNil is true for every number.
-/
namespace Go.Proofs.Ytpdjmapmpicgjaa
open Go.RowKit Go.Shelf
attribute [local go_sem] Oper.semAt_some
set_option linter.unusedVariables false
set_option linter.unusedSimpArgs false
set_option maxRecDepth 10000

theorem walkNone_tells (w : World) : Tells Try.prog 39 #[] (fun x : Int => #[.int .i64 x]) (fun _ _ _ => False) w.heap.size (fun _ => False) (fun xs => xs = []) (fun _ => False) w := by
  rintro l J Jx W hb hJ hJx hy h0
  refine callsIn_of_wp_marks Try.func39 rfl trivial ?_ rfl
  simp only [Try.ntmps39, List.size_toArray, List.length_cons, List.length_nil, Nat.reduceAdd, Nat.reduceSub, Array.replicate_succ, Array.replicate_zero, List.push_toArray, List.append_toArray, List.nil_append, List.cons_append]
  gi_wp2_with fail
  exact ⟨.tuple #[], by simp [results, Try.results39, go_sem], ⟨_, rfl⟩, h0⟩

theorem graphWalk_nil (w : World) : Calls Try.prog 16 #[.pointer none] w fun e w' => e = .returned (.func (.func 39) #[] #[]) ∧ w = w' := by
  go_enter Try.func16, Try.ntmps16
  go_wp2
  go_ret
  exact ⟨rfl, rfl⟩

set_option maxRecDepth 100000 in
set_option maxHeartbeats 8000000 in
theorem graphNil_law (w : World) (i : Int) (hi : (Lit.int .i64 i).wf = true) :
    Calls Try.prog 6 #[.int .i64 i] w fun e w' => e = .returned (.bool true) ∧ Below w.heap.size w w' := by
  have hnf : ∀ (w : World), (binOp .eql 39 (.func (.func 39) #[] #[]) .nilFunc).run Try.prog w = .ok (.bool false) w := fun w => by kernel_rfl
  have HA := hide (fun wx => awake14_true wx)
  refine (callsIn_wide (n := 0)).1 ?_
  refine callsIn_of_wp_marks Try.func6 rfl trivial ?_ rfl
  simp only [Try.ntmps6, List.size_toArray, List.length_cons, List.length_nil, Nat.reduceAdd, Nat.reduceSub, Array.replicate_succ, Array.replicate_zero, List.push_toArray, List.append_toArray, List.nil_append, List.cons_append]
  gi_wp2_with fail
  refine ⟨trivial, rfl, (callsIn_wide.2 (graphWalk_nil _)).mono ?_⟩
  rintro e w2 ⟨rfl, rfl⟩
  obtain ⟨wL, hwL⟩ : ∃ X, X = w.alloc (.cells #[.int .i64 0] 3) := ⟨_, rfl⟩
  have hsL : wL.heap.size = w.heap.size + 1 := by rw [hwL]; simp
  have hbL : Below w.heap.size w wL := by rw [hwL]; exact (Below.refl _ w).alloc (Nat.le_refl _) _
  have k0 : wL.heap[w.heap.size]? = some (.cells #[.int .i64 0] 3 (0, 0)) := by rw [hwL]; exact allocNew w _ rfl
  gi_wp2_with fail
  rw [← hwL]
  clear hwL
  refine wp_tells rfl (enters_of Try.func39 (by kernel_rfl) rfl) (walkNone_tells wL) (by omega) (fun _ => rfl)
    (fun pre W => Below w.heap.size w W ∧ W.heap[w.heap.size]? = some (.cells #[.int .i64 0] 3 (0, 0))) (fun _ _ _ => False) ?own (fun c => by rintro pre W W' row h; exact h.elim)
    ⟨hbL, k0⟩ (fun _ _ _ _ => False) ?hAx ?assign ?body ?done ?stop
  case own =>
    rintro pre W W' row ⟨h1, h2⟩ hg hr
    exact ⟨belowStay h1 (Nat.le_refl _) (by omega) hg hr, cellsStay h2 hg hr⟩
  case hAx => rintro pre x a' s W W' row h; exact h.elim
  case assign => rintro l pre x W K hI hV; exact hV.elim
  case body => rintro l pre x a' W hl' _ _ h; exact h.elim
  case stop => rintro D c pre W hD h; exact h.elim
  case done =>
    rintro D xs W hD rfl ⟨h1, h2⟩ hK
    have hKl : D < W.heap.size := (Array.getElem?_eq_some_iff.1 hK).1
    obtain ⟨c0, _⟩ := oneCell h2
    have HB := hide h1
    have HK := hide hK
    clear h1 hK k0 hbL
    gi_wp2_with fail
    refine ⟨trivial, rfl, (callsIn_wide.2 (graphLen_nil _)).mono ?_⟩
    rintro e w' ⟨rfl, rfl⟩
    gi_wp2_with fail
    refine ⟨trivial, rfl, (callsIn_wide.2 (graphNext_nil i _)).mono ?_⟩
    rintro e w' ⟨rfl, rfl⟩
    gi_wp2_with fail
    refine ⟨trivial, rfl, (callsIn_wide.2 (graphAhead_nil i _)).mono ?_⟩
    rintro e w' ⟨rfl, rfl⟩
    gi_wp2_with fail
    refine ⟨trivial, rfl, (callsIn_wide.2 (graphReached_nil i _)).mono ?_⟩
    rintro e w' ⟨rfl, rfl⟩
    gi_wp2_with fail
    refine ⟨trivial, rfl, (callsIn_wide.2 (graphOrder_nil _)).mono ?_⟩
    rintro e w' ⟨rfl, rfl⟩
    gi_wp2_with fail
    refine ⟨trivial, rfl, (callsIn_wide.2 (HA.out _)).mono ?_⟩
    rintro e w3 ⟨rfl, hb3⟩
    have eD := (hb3.block D hKl).trans HK.out
    have hbY := HB.out.trans (hb3.mono HB.out.size)
    have HG1 : Hid (Below w.heap.size w (w3.putObj D (.deferred none))) := hbY.grown (grownBy_putObj' w3 D (.deferred none)) hbY.size (fun k e => by cases e; omega)
    clear hb3 hbY
    gi_wp2_with fail
    refine ⟨by simp, .inl ⟨_, _, rfl, run_takeDeferred eD, ?_⟩⟩
    exact ⟨.bool true, by simp [results, Try.results6, go_sem], rfl, HG1.out⟩

end Go.Proofs.Ytpdjmapmpicgjaa
