/-
  All of the layer grammar, and what its iterator tells: all forms, rising by their operations.
-/
import Derived.RangeFuncNested
import Derived.RangeFuncBound
import Derived.RangeFuncCalls
import Derived.RangeFuncLeaves
import Derived.Shelf.Abstract
import Derived.Shelf.RegionOpen
import Derived.WalkKit
import Derived.OwnWalkIn
import Derived.TacticsInMore
import Derived.LoopNIn
import Derived.LoopIn
import Derived.Test.YtjpbiakbjpiceaaBoxes
import Derived.Test.YtjpbiakbjpiceaaDraw
import Derived.Test.YtjpbiakbjpiceaaGrammarFormTexts
import Derived.Test.YtjpbiakbjpiceaaGrammarNamed
namespace Go.Proofs.Ytjpbiakbjpiceaa
open Go.RowKit Go.Shelf
attribute [local go_sem] Oper.semAt_some
set_option linter.unusedVariables false
set_option linter.unusedSimpArgs false

/-- What is told of a form. -/
def allV (x : Nat) : Array Value := #[formV x (opF x)]

theorem all_any (w : World) : Calls Try.prog 24 #[] w fun e w' => e = .returned (.func (.func 35) #[] #[]) ∧ w = w' := by
  go_enter Try.func24, Try.ntmps24
  go_wp2
  go_ret
  exact ⟨rfl, rfl⟩

set_option maxRecDepth 100000 in
set_option maxHeartbeats 4000000 in
theorem all_tells (n0 : Nat) (τ : TypeId → Prop) (hτ : τ 66) (w : World) (hn0 : n0 ≤ w.heap.size) :
    Tells Try.prog 35 #[] allV (fun pre x _ => pre ++ [x] <+: opsL) n0 τ (fun xs => xs = opsL) (fun pre => pre <+: opsL) w := by
  intro l J Jx W hW hJ hJx hY h0
  have hwW := hW.size
  have HY : Hid (∀ pre x W1, J pre W1 → pre ++ [x] <+: opsL → _) := hY
  have hmix : Try.prog.follows .mixedOrders = true := by kernel_rfl
  clear hY hW
  refine callsIn_of_wp_marks Try.func35 rfl trivial ?_ rfl
  simp only [Try.ntmps35, List.size_toArray, List.length_cons, List.length_nil, Nat.reduceAdd, Nat.reduceSub, Array.replicate_succ, Array.replicate_zero, List.push_toArray, List.append_toArray, List.nil_append, List.cons_append]
  gi_wp2_with fail
  refine ⟨trivial, rfl, (callsIn_wide.2 (formTexts_any _)).mono ?_⟩
  rintro e w2 ⟨rfl, rfl⟩
  obtain ⟨wL, hwL⟩ : ∃ X, X = W.alloc (.cells #[.func (.yield l) #[] #[]] 66) := ⟨_, rfl⟩
  have hsL : wL.heap.size = W.heap.size + 1 := by rw [hwL]; simp
  have hbLW : Below W.heap.size W wL := by rw [hwL]; exact (Below.refl _ W).alloc (Nat.le_refl _) _
  have kY : wL.heap[W.heap.size]? = some (.cells #[.func (.yield l) #[] #[]] 66 (0, 0)) := by rw [hwL]; exact heap_alloc_new W _
  gi_wp2_with fail
  rw [← hwL]
  clear hwL
  refine wp_tells rfl (enters_of Try.func42 (by kernel_rfl) rfl) (formTexts_tells n0 τ wL) (by omega) (fun _ => rfl)
    (fun pre2 W2 => W.heap.size + 1 ≤ W2.heap.size ∧ W2.heap[W.heap.size]? = some (.cells #[.func (.yield l) #[] #[]] 66 (0, 0)) ∧ J pre2 W2)
    (fun c pre2 W2 => c = .ret ∧ Jx pre2 W2)
    ?hI ?hIx ⟨by omega, kY, OwnFrom.below hJ h0 hbLW⟩
    (fun pre x a' W2 => pre ++ [x] <+: opsL ∧ a' = { tmps := #[.func (.yield l) #[] #[], .pointer (some ⟨W.heap.size, 0, none⟩), .int .u16 x, .string (ftxt x), .func (.func 42) #[] #[], .int .u16 x, .string (ftxt x), undef, undef, undef, undef, undef, undef], defers := [] })
    ?hAx ?assign ?body ?done ?stop
  case hI =>
    rintro pre W2 W3 row ⟨h1, h3, h5⟩ hg hr
    rw [hsL] at hr
    exact ⟨Nat.le_trans h1 hg.size, cellsStay h3 hg hr, hJ pre W2 W3 row h5 hg (fun r e => ⟨by have := (hr r e).1; omega, (hr r e).2⟩)⟩
  case hIx =>
    rintro c pre W2 W3 row ⟨h1, h5⟩ hg hr
    rw [hsL] at hr
    exact ⟨h1, hJx pre W2 W3 row h5 hg (fun r e => ⟨by have := (hr r e).1; omega, (hr r e).2⟩)⟩
  case hAx =>
    rintro pre x a' s W2 W3 row h hg hr
    exact h
  case assign =>
    rintro l2 pre x W2 K hI hV hK
    simp only [opV]
    gi_wp2
    exact hK _ _ (KeepsFrom.refl _ _) (Kept.refl _ _ _) hI ⟨hV, rfl⟩
  case stop =>
    rintro D c pre W2 hD hpre ⟨rfl, h5⟩ hK
    have hJE : Jx pre (W2.putObj D (.deferred none)) := hJx.putObj _ h5 (by omega) hK rfl
    gi_wp2_with fail
    refine ⟨by simp, .inl ⟨_, _, rfl, run_takeDeferred hK, ?_⟩⟩
    exact ⟨_, results_none rfl _ _ _, ⟨_, rfl⟩, .inr ⟨pre, hpre, hJE⟩⟩
  case done =>
    rintro D xs W2 hD hS ⟨h1, h3, h5⟩ hK
    have hJE : J xs (W2.putObj D (.deferred none)) := hJ.putObj _ h5 (by omega) hK rfl
    gi_wp2_with fail
    refine ⟨by simp, .inl ⟨_, _, rfl, run_takeDeferred hK, ?_⟩⟩
    exact ⟨_, results_none rfl _ _ _, ⟨_, rfl⟩, .inl ⟨xs, hS, hJE⟩⟩
  case body =>
    rintro l2 pre q a' W2 hl2' ⟨r, hr⟩ ⟨h1, h3, hJs⟩ ⟨hV, rfl⟩
    have hRF := fun w => opF_read q w
    have HYQ : Hid (∀ w3, J pre w3 → YieldAt Fence.wide 0 Try.prog l #[formV q (opF q)] w3 fun e W' =>
        KeepsFrom W.heap.size w3 W' ∧ ((e = .returned (.bool true) ∧ J (pre ++ [q]) W' ∧ Kept n0 τ w3 W') ∨ (e = .returned (.bool false) ∧ Jx (pre ++ [q]) W'))) := fun w3 hj => HY.out pre q w3 hj hV
    have HFIN : Hid (∀ w3 W3, Below W2.heap.size W2 w3 → KeepsFrom W.heap.size w3 W3 → J (pre ++ [q]) W3 → Kept n0 τ w3 W3 → KeepsFrom wL.heap.size W2 W3 ∧ Kept n0 τ W2 W3 ∧ (W.heap.size + 1 ≤ W3.heap.size ∧ W3.heap[W.heap.size]? = some (.cells #[.func (.yield l) #[] #[]] 66 (0, 0)) ∧ J (pre ++ [q]) W3)) := fun w3 W3 hb3 hkf hj hk =>
      have hs3 := hb3.size
      have hs33 := hkf.size
      ⟨(KeepsFrom.of_below hb3).trans (KeepsFrom.mono hkf (by omega)), (Kept.of_below hb3 (by omega)).trans hk, by omega, hk.2 _ _ _ _ hτ ((hb3.block _ (by omega)).trans h3), hj⟩
    have HFINX : Hid (∀ w3 W3, Below W2.heap.size W2 w3 → KeepsFrom W.heap.size w3 W3 → Jx (pre ++ [q]) W3 → KeepsFrom wL.heap.size W2 W3 ∧ Code.ret = Code.ret ∧ Jx (pre ++ [q]) W3) := fun w3 W3 hb3 hkf hj =>
      ⟨(KeepsFrom.of_below hb3).trans (KeepsFrom.mono hkf (by omega)), rfl, hj⟩
    have K8 : Hid (∀ w', Below W2.heap.size W2 w' → w'.cell? ⟨W.heap.size, 0, none⟩ = some (.func (.yield l) #[] #[])) := fun w' hb => (oneCell ((hb.block _ (by omega)).trans h3)).1
    have HJ2 : Hid (J pre W2) := hJs
    have HL2 : Hid (W.heap.size < W2.heap.size) := by show _ < _; omega
    clear hV h3 hbLW kY hsL h0 HY hJs
    generalize ftxt q = t at *
    generalize opF q = f at *
    have hC0 : Below W2.heap.size W2 W2.drew := (Below.refl _ W2).drew
    gi_wp2_with fail
    refine wpIn_region_any hmix (wpAnyC_sound (C := fun _ => True) _ _ _ _ ?_)
    change wpAnyC _ _ _ _ _ _ _ _ _ _ (World.drew _)
    refine wpAnyC_takeD (i := 1) (some 8) (v := .int .u16 q) (fun _ => trivial) (by kernel_rfl) rfl rfl (by kernel_rfl) (by kernel_rfl) (by kernel_rfl) (fun _ _ _ h => h) trivial (Or.inl ⟨by kernel_rfl, fun w' _ => by go_simp⟩) ?_
    simp only [Act.put, List.setIfInBounds_toArray, List.set_cons_succ, List.set_cons_zero]
    refine wpAnyC_takeD (i := 2) (some 9) (v := .string t) (fun _ => trivial) (by kernel_rfl) rfl rfl (by kernel_rfl) (by kernel_rfl) (by kernel_rfl) (fun _ _ _ h => h) trivial (Or.inl ⟨by kernel_rfl, fun w' _ => by go_simp⟩) ?_
    simp only [Act.put, List.setIfInBounds_toArray, List.set_cons_succ, List.set_cons_zero]
    refine wpAnyC_ready (rs := [0, 3]) (by kernel_rfl) (by simp) ?_
    refine AllC.cons rfl (fun K hK => ?_) (AllC.cons rfl (fun K hK => ?_) AllC.nil)
    · have e8 := K8.out _ hC0
      go_simp
      refine hK _ _ trivial ?_
      clear hK K e8
      refine wpAnyC_ready (rs := [3]) (by kernel_rfl) (by simp) ?_
      refine AllC.cons rfl (fun K hK => ?_) AllC.nil
      go_simp
      refine ⟨trivial, rfl, (CallsIn.inRound l2 (callsIn_wide.2 (hRF _))).mono ?_⟩
      rintro e w3 ⟨rfl, hb3⟩
      dsimp only
      have hC3 : Below W2.heap.size W2 w3 := hC0.trans hb3
      refine hK _ _ trivial ?_
      clear hK K
      refine wpAnyC_ready (rs := [4]) (by kernel_rfl) (by simp) ?_
      refine AllC.cons rfl (fun K hK => ?_) AllC.nil
      obtain ⟨fn, tmps, assign, body, hy, hR⟩ := HYQ.out w3 (OwnFrom.below hJ HJ2.out hC3)
      have HC3 : Hid (Below W2.heap.size W2 w3) := hC3
      clear hC3 hb3
      go_simp
      refine ⟨rfl, hR.mono ?_⟩
      rintro e W3 ⟨hkf3, ⟨rfl, hJ3, hk3⟩ | ⟨rfl, hJx3⟩⟩
      · dsimp only
        refine hK _ _ trivial ?_
        have fin := HFIN.out w3 W3 HC3.out hkf3 hJ3 hk3
        clear hK K hy hR hkf3 hJ3 hk3
        refine wpAnyC_ready (rs := [5]) (by kernel_rfl) (by simp) ?_
        refine AllC.cons rfl (fun K hK => ?_) AllC.nil
        go_simp
        refine hK _ _ trivial ?_
        clear hK K
        refine wpAnyC_done (by kernel_rfl) ?_ _
        gi_wp2_with fail
        exact fin
      · dsimp only
        refine hK _ _ trivial ?_
        have finx := HFINX.out w3 W3 HC3.out hkf3 hJx3
        clear hK K hy hR hkf3 hJx3
        refine wpAnyC_ready (rs := [5]) (by kernel_rfl) (by simp) ?_
        refine AllC.cons rfl (fun K hK => ?_) AllC.nil
        go_simp
        refine hK _ _ trivial ?_
        clear hK K
        refine wpAnyC_done (by kernel_rfl) ?_ _
        gi_wp2_with fail
        exact ⟨finx.1, rfl, finx.2.2⟩
    · go_simp
      refine ⟨trivial, rfl, (CallsIn.inRound l2 (callsIn_wide.2 (hRF _))).mono ?_⟩
      rintro e w3 ⟨rfl, hb3⟩
      dsimp only
      have hC3 : Below W2.heap.size W2 w3 := hC0.trans hb3
      refine hK _ _ trivial ?_
      clear hK K
      refine wpAnyC_ready (rs := [0]) (by kernel_rfl) (by simp) ?_
      refine AllC.cons rfl (fun K hK => ?_) AllC.nil
      have e8 := K8.out _ hC3
      go_simp
      refine hK _ _ trivial ?_
      clear hK K e8
      refine wpAnyC_ready (rs := [4]) (by kernel_rfl) (by simp) ?_
      refine AllC.cons rfl (fun K hK => ?_) AllC.nil
      obtain ⟨fn, tmps, assign, body, hy, hR⟩ := HYQ.out w3 (OwnFrom.below hJ HJ2.out hC3)
      have HC3 : Hid (Below W2.heap.size W2 w3) := hC3
      clear hC3 hb3
      go_simp
      refine ⟨rfl, hR.mono ?_⟩
      rintro e W3 ⟨hkf3, ⟨rfl, hJ3, hk3⟩ | ⟨rfl, hJx3⟩⟩
      · dsimp only
        refine hK _ _ trivial ?_
        have fin := HFIN.out w3 W3 HC3.out hkf3 hJ3 hk3
        clear hK K hy hR hkf3 hJ3 hk3
        refine wpAnyC_ready (rs := [5]) (by kernel_rfl) (by simp) ?_
        refine AllC.cons rfl (fun K hK => ?_) AllC.nil
        go_simp
        refine hK _ _ trivial ?_
        clear hK K
        refine wpAnyC_done (by kernel_rfl) ?_ _
        gi_wp2_with fail
        exact fin
      · dsimp only
        refine hK _ _ trivial ?_
        have finx := HFINX.out w3 W3 HC3.out hkf3 hJx3
        clear hK K hy hR hkf3 hJx3
        refine wpAnyC_ready (rs := [5]) (by kernel_rfl) (by simp) ?_
        refine AllC.cons rfl (fun K hK => ?_) AllC.nil
        go_simp
        refine hK _ _ trivial ?_
        clear hK K
        refine wpAnyC_done (by kernel_rfl) ?_ _
        gi_wp2_with fail
        exact ⟨finx.1, rfl, finx.2.2⟩

end Go.Proofs.Ytjpbiakbjpiceaa
