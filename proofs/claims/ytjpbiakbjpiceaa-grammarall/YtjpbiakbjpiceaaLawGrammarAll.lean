/-
  The law GrammarAll answers true, for every number.
-/
import Derived.RangeFuncNested
import Derived.RangeFuncBound
import Derived.RangeFuncCalls
import Derived.RangeFuncLeaves
import Derived.Shelf.Abstract
import Derived.Shelf.RegionOpen
import Derived.WalkKit
import Derived.OwnWalkIn
import Derived.TacticsInMore
import Derived.LoopNIn
import Derived.LoopIn
import Derived.Test.YtjpbiakbjpiceaaBoxes
import Derived.Test.YtjpbiakbjpiceaaDraw
import Derived.Test.YtjpbiakbjpiceaaGrammarAll
namespace Go.Proofs.Ytjpbiakbjpiceaa
open Go.RowKit Go.Shelf
attribute [local go_sem] Oper.semAt_some
set_option linter.unusedVariables false
set_option linter.unusedSimpArgs false

/-- Between two rounds: the count, nothing wrong, not to be left yet. -/
def AllI (stop : Int) (g cap : Nat) (w1 : World) (pre : List Nat) (W : World) : Prop :=
  (Below w1.heap.size w1 W ∧ w1.heap.size + 3 ≤ W.heap.size) ∧ W.heap[w1.heap.size]? = some (.cells #[.slice (some ⟨g, 0, none⟩) 93 cap] 43 (0, 0)) ∧ W.heap[w1.heap.size + 1]? = some (.cells #[.int .i64 pre.length] 3 (0, 0)) ∧ W.heap[w1.heap.size + 2]? = some (.cells #[.bool true] 4 (0, 0)) ∧ (∀ m : Nat, 1 ≤ m → m ≤ pre.length → (m : Int) ≠ stop)
def AllX (stop : Int) (g cap : Nat) (w1 : World) (c : Code) (pre : List Nat) (W : World) : Prop :=
  c = .exit 0 ∧ (Below w1.heap.size w1 W ∧ w1.heap.size + 3 ≤ W.heap.size) ∧ W.heap[w1.heap.size]? = some (.cells #[.slice (some ⟨g, 0, none⟩) 93 cap] 43 (0, 0)) ∧ W.heap[w1.heap.size + 1]? = some (.cells #[.int .i64 pre.length] 3 (0, 0)) ∧ W.heap[w1.heap.size + 2]? = some (.cells #[.bool true] 4 (0, 0)) ∧ 1 ≤ pre.length ∧ (pre.length : Int) = stop
theorem allI_own (stop : Int) (g cap : Nat) (w1 : World) : OwnFrom (w1.heap.size + 3) (AllI stop g cap w1) := by
  rintro pre W W' row ⟨h1, h2, h3, h4, h5⟩ hg hr
  exact ⟨⟨belowStay h1.1 (Nat.le_refl _) (by omega) hg hr, Nat.le_trans h1.2 hg.size⟩, cellsStay h2 hg hr, cellsStay h3 hg hr, cellsStay h4 hg hr, h5⟩
theorem allX_own (stop : Int) (g cap : Nat) (w1 : World) (c : Code) : OwnFrom (w1.heap.size + 3) (AllX stop g cap w1 c) := by
  rintro pre W W' row ⟨h0, h1, h2, h3, h4, h5⟩ hg hr
  exact ⟨h0, ⟨belowStay h1.1 (Nat.le_refl _) (by omega) hg hr, Nat.le_trans h1.2 hg.size⟩, cellsStay h2 hg hr, cellsStay h3 hg hr, cellsStay h4 hg hr, h5⟩

theorem told_place {pre : List Nat} {x : Nat} (h : pre ++ [x] <+: opsL) : pre.length < 93 ∧ opN pre.length = x := by
  obtain ⟨s, hs⟩ := h
  have hl : pre.length < opsL.length := by rw [← hs]; simp
  refine ⟨Nat.lt_of_lt_of_eq hl ops93, ?_⟩
  unfold opN
  rw [← hs, List.append_assoc, List.getD_eq_getElem?_getD, List.getElem?_append_right (Nat.le_refl _)]
  simp
theorem pre_len {pre : List Nat} (h : pre <+: opsL) : pre.length ≤ 93 := Nat.le_trans h.length_le (Nat.le_of_eq ops93)

set_option maxRecDepth 100000 in
set_option maxHeartbeats 8000000 in
theorem grammarAll_true (w : World) (stop : Int) (hst : (Lit.int .i64 stop).wf = true) :
    Calls Try.prog 8 #[.int .i64 stop] w fun e w' => e = .returned (.bool true) ∧ Below w.heap.size w w' := by
  have hnf : ∀ (w : World), (binOp .eql 46 (.func (.func 35) #[] #[]) .nilFunc).run Try.prog w = .ok (.bool false) w := fun w => by kernel_rfl
  have hmix : Try.prog.follows .mixedOrders = true := by kernel_rfl
  clear hst
  refine (callsIn_wide (n := 0)).1 ?_
  refine callsIn_of_wp_marks Try.func8 rfl trivial ?_ rfl
  simp only [Try.ntmps8, List.size_toArray, List.length_cons, List.length_nil, Nat.reduceAdd, Nat.reduceSub, Array.replicate_succ, Array.replicate_zero, List.push_toArray, List.append_toArray, List.nil_append, List.cons_append]
  gi_wp2_with fail
  refine ⟨trivial, rfl, (callsIn_wide.2 (refAll_any _)).mono ?_⟩
  rintro e w1 ⟨v, rfl, hown, hb⟩
  have HFV : Hid (FormsV w1 v) := formsV_of hown
  have b1 : w1.heap[w.heap.size]? = some (.cells #[.int .i64 stop] 3 (0, 0)) := (hb.block w.heap.size (by simp)).trans (heap_alloc_new w _)
  have hbw : Below w.heap.size w w1 := ((Below.refl _ w).alloc (Nat.le_refl _) _).trans (hb.mono (by simp))
  have l1 : w.heap.size < w1.heap.size := by have := hb.size; simp at this; omega
  clear hown hb
  obtain ⟨g, cap, rfl, hg, hcells⟩ := HFV.out
  gi_wp2_with fail
  refine ⟨trivial, rfl, (callsIn_wide.2 (all_any _)).mono ?_⟩
  rintro e w2 ⟨rfl, rfl⟩
  obtain ⟨wL, hwL⟩ : ∃ X, X = ((w1.alloc (.cells #[.slice (some ⟨g, 0, none⟩) 93 cap] 43)).alloc (.cells #[.int .i64 0] 3)).alloc (.cells #[.bool true] 4) := ⟨_, rfl⟩
  have hsL : wL.heap.size = w1.heap.size + 3 := by rw [hwL]; simp
  have hbL : Below w1.heap.size w1 wL := by rw [hwL]; exact (((Below.refl _ w1).alloc (Nat.le_refl _) _).alloc (by simp) _).alloc (by simp; omega) _
  have k3 : wL.heap[w1.heap.size]? = some (.cells #[.slice (some ⟨g, 0, none⟩) 93 cap] 43 (0, 0)) := by rw [hwL]; exact (allocs3 w1 _ _ _).1
  have k4 : wL.heap[w1.heap.size + 1]? = some (.cells #[.int .i64 0] 3 (0, 0)) := by rw [hwL]; exact (allocs3 w1 _ _ _).2.1
  have k5 : wL.heap[w1.heap.size + 2]? = some (.cells #[.bool true] 4 (0, 0)) := by rw [hwL]; exact (allocs3 w1 _ _ _).2.2
  gi_wp2_with fail
  rw [← hwL]
  clear hwL
  simp only [Nat.add_assoc, Nat.reduceAdd]
  refine wp_tells rfl (enters_of Try.func35 (by kernel_rfl) rfl) (all_tells w1.heap.size (fun t => t = 66) rfl wL (by omega)) (by omega) (fun _ => rfl)
    (AllI stop g cap w1) (AllX stop g cap w1) (by rw [hsL]; exact allI_own stop g cap w1) (fun c => by rw [hsL]; exact allX_own stop g cap w1 c)
    ⟨⟨hbL, by omega⟩, k3, k4, k5, fun m h1 h2 => by simp at h2; omega⟩
    (fun pre x a' W => pre ++ [x] <+: opsL ∧ ∃ Bx, w1.heap.size + 3 ≤ Bx ∧ W.heap[Bx]? = some (.cells (frmCells x (opF x)) 24 (0, 0)) ∧ a' = { tmps := #[.int .i64 stop, .pointer (some ⟨w.heap.size, 0, none⟩), .bool false, .pointer (some ⟨w1.heap.size, 0, none⟩), .pointer (some ⟨w1.heap.size + 1, 0, none⟩), .pointer (some ⟨w1.heap.size + 2, 0, none⟩), .func (.func 35) #[] #[], .pointer (some ⟨Bx, 0, none⟩), undef, .slice (some ⟨g, 0, none⟩) 93 cap, .func (.func 35) #[] #[], .func (.func 35) #[] #[], .bool false, .func (.func 35) #[] #[], formV x (opF x), undef, undef, undef, undef, undef, undef, undef, undef, undef, undef, undef, undef, undef, undef, undef, undef, undef, undef, undef, undef, undef, undef, undef, undef, undef, undef, undef, undef, undef, undef, undef, undef, undef], defers := [] })
    ?hAx ?assign ?body ?done ?stop
  case hAx =>
    rintro pre x a' s W W' row ⟨hV, Bx, h1, h2, h3⟩ hg hr
    exact ⟨hV, Bx, h1, cellsStay h2 hg hr, h3⟩
  case assign =>
    rintro l pre x W K hI hV hK
    have hbel : ∀ o, Below W.heap.size W (W.alloc o) := fun o => (Below.refl _ W).alloc (Nat.le_refl _) o
    have hlt := hI.1.2
    simp only [allV]
    have HQ : Hid (∀ a', _ → _) := fun a' h => hK a' _ (KeepsFrom.of_below (hbel (.cells (frmCells x (opF x)) 24))) (Kept.of_below (hbel _) (by omega)) (OwnFrom.below (allI_own stop g cap w1) hI (hbel _)) ⟨hV, W.heap.size, hlt, heap_alloc_new W _, h⟩
    clear hK hI hV
    generalize opF x = f at *
    obtain ⟨nm, t, r, fx, rs, mo, pa⟩ := f
    unfold formV at *
    gi_wp2
    exact HQ.out _ rfl
  case body =>
    rintro l pre x a' W hl' ⟨rr, hrr⟩ ⟨⟨h1, hlt⟩, h2, h3, h4, h5⟩ ⟨hV, Bx, hBx, hx, rfl⟩
    obtain ⟨hpl, hpx⟩ := told_place hV
    have hc8 := hcells pre.length hpl
    rw [hpx] at hc8
    have bS := (h1.block _ l1).trans b1
    have L4 : Hid (∀ w', Below W.heap.size W w' → w'.cell? ⟨w1.heap.size + 1, 0, none⟩ = some (.int .i64 pre.length)) := fun w' h => (oneCell ((h.block _ (by omega)).trans h3)).1
    have L3 : Hid (∀ w', Below W.heap.size W w' → w'.cell? ⟨w1.heap.size, 0, none⟩ = some (.slice (some ⟨g, 0, none⟩) 93 cap)) := fun w' h => (oneCell ((h.block _ (by omega)).trans h2)).1
    have hBl : Bx < W.heap.size := (Array.getElem?_eq_some_iff.1 hx).1
    have HGO : Hid (((pre.length + 1 : Nat) : Int) ≠ stop → KeepsFrom wL.heap.size W (W.drew.setCell ⟨w1.heap.size + 1, 0, none⟩ (.int .i64 ((pre.length + 1 : Nat) : Int))) ∧ Kept w1.heap.size (fun t => t = 66) W (W.drew.setCell ⟨w1.heap.size + 1, 0, none⟩ (.int .i64 ((pre.length + 1 : Nat) : Int))) ∧ AllI stop g cap w1 (pre ++ [x]) (W.drew.setCell ⟨w1.heap.size + 1, 0, none⟩ (.int .i64 ((pre.length + 1 : Nat) : Int)))) := fun hne => by
      have e3 : W.drew.heap[w1.heap.size + 1]? = some (.cells #[.int .i64 pre.length] 3 (0, 0)) := h3
      refine ⟨((KeepsOthers.drew _).trans (KeepsOthers.setCell _ _ _)).from _, ⟨(Below.refl _ W).drew.setCell (by simp) _, KeptT.trans (KeptT.of_below (Below.refl _ W).drew) (KeptT.setCell e3 (by intro h; cases h) 0 _)⟩, ⟨h1.drew.setCell (by simp) _, by simpa [World.setCell] using hlt⟩, setFar (w := W.drew) h2 (by omega) _ _, ?_, setFar (w := W.drew) h4 (by omega) _ _, fun m hm1 hm2 => ?_⟩
      · rw [List.length_append, List.length_singleton]; exact oneSet e3 _
      · rw [List.length_append, List.length_singleton] at hm2
        by_cases e : m = pre.length + 1
        · rw [e]; exact hne
        · exact h5 m hm1 (by omega)
    have HOUT : Hid (((pre.length + 1 : Nat) : Int) = stop → KeepsFrom wL.heap.size W (W.drew.setCell ⟨w1.heap.size + 1, 0, none⟩ (.int .i64 ((pre.length + 1 : Nat) : Int))) ∧ AllX stop g cap w1 (.exit 0) (pre ++ [x]) (W.drew.setCell ⟨w1.heap.size + 1, 0, none⟩ (.int .i64 ((pre.length + 1 : Nat) : Int)))) := fun he => by
      have e3 : W.drew.heap[w1.heap.size + 1]? = some (.cells #[.int .i64 pre.length] 3 (0, 0)) := h3
      refine ⟨((KeepsOthers.drew _).trans (KeepsOthers.setCell _ _ _)).from _, rfl, ⟨h1.drew.setCell (by simp) _, by simpa [World.setCell] using hlt⟩, setFar (w := W.drew) h2 (by omega) _ _, ?_, setFar (w := W.drew) h4 (by omega) _ _, ?_, ?_⟩
      · rw [List.length_append, List.length_singleton]; exact oneSet e3 _
      · rw [List.length_append, List.length_singleton]; omega
      · rw [List.length_append, List.length_singleton]; exact he
    have HBS : Hid (W.heap[w.heap.size]? = some (.cells #[.int .i64 stop] 3 (0, 0)) ∧ W.heap[w1.heap.size + 1]? = some (.cells #[.int .i64 pre.length] 3 (0, 0))) := ⟨bS, h3⟩
    generalize opF x = f at *
    obtain ⟨nm, t, r, fx, rs, mo, pa⟩ := f
    have LB : Hid (∀ w', Below W.heap.size W w' → _) := fun w' h => by
      obtain ⟨e0, e1, e2, e3, e4, e5, e6, e7, _⟩ := frm_cells (n := x) (f := (nm, t, r, fx, rs, mo, pa)) ((h.block _ hBl).trans hx)
      exact And.intro e0 (And.intro e1 (And.intro e2 (And.intro e3 (And.intro e4 (And.intro e5 (And.intro e6 e7))))))
    have LG : Hid (∀ w', Below W.heap.size W w' → _) := fun w' (h : Below W.heap.size W w') => by
      have hgW : g < W.heap.size := Nat.lt_of_lt_of_le hg h1.size
      have q : ∀ o, w'.cell? ⟨g, o, none⟩ = w1.cell? ⟨g, o, none⟩ := fun o => (h.cell (p := ⟨g, o, none⟩) hgW).trans (h1.cell (p := ⟨g, o, none⟩) hg)
      simp only [← q] at hc8
      exact hc8
    have hpi : (pre.length : Int) < 93 := by omega
    have hp0 : (0 : Int) ≤ (pre.length : Int) := by omega
    have hC0 : Below W.heap.size W W.drew := (Below.refl _ W).drew
    clear hc8 h1 h2 h3 h4 h5 hx hV hpx bS hrr
    gi_wp2_with fail
    refine wpIn_region_any hmix (wpAnyC_sound (C := fun w' => Below W.heap.size W w') _ _ _ _ ?_)
    change wpAnyC _ _ _ _ _ _ _ _ _ _ (World.drew _)
    refine wpAnyC_takeD (i := 0) (some 15) (v := .int .i64 pre.length) (fun _ => trivial) (by kernel_rfl) rfl rfl (by kernel_rfl) (by kernel_rfl) (by kernel_rfl) (fun _ _ _ h => h) hC0 (Or.inl ⟨by kernel_rfl, fun w' hC => by have e := L4.out w' hC; clear hC; go_simp⟩) ?_
    simp only [Act.put, List.setIfInBounds_toArray, List.set_cons_succ, List.set_cons_zero]
    refine wpAnyC_takeD (i := 1) (some 16) (v := .slice (some ⟨g, 0, none⟩) 93 cap) (fun _ => trivial) (by kernel_rfl) rfl rfl (by kernel_rfl) (by kernel_rfl) (by kernel_rfl) (fun _ _ _ h => h) hC0 (Or.inl ⟨by kernel_rfl, fun w' hC => by have e := L3.out w' hC; clear hC; go_simp⟩) ?_
    simp only [Act.put, List.setIfInBounds_toArray, List.set_cons_succ, List.set_cons_zero]
    refine wpAnyC_takeD (i := 2) (some 17) (v := .int .i64 93) (fun _ => trivial) (by kernel_rfl) rfl rfl (by kernel_rfl) (by kernel_rfl) (by kernel_rfl) (fun _ _ _ h => h) hC0 (Or.inl ⟨by kernel_rfl, fun w' hC => by clear hC; go_simp⟩) ?_
    simp only [Act.put, List.setIfInBounds_toArray, List.set_cons_succ, List.set_cons_zero]
    refine wpAnyC_takeD (i := 3) (some 18) (v := .bool false) (fun _ => trivial) (by kernel_rfl) rfl rfl (by kernel_rfl) (by kernel_rfl) (by kernel_rfl) (fun _ _ _ h => h) hC0 (Or.inl ⟨by kernel_rfl, fun w' hC => by clear hC; go_simp⟩) ?_
    simp only [Act.put, List.setIfInBounds_toArray, List.set_cons_succ, List.set_cons_zero]
    refine wpAnyC_takeD (i := 4) (some 19) (v := .bool false) (fun _ => trivial) (by kernel_rfl) rfl rfl (by kernel_rfl) (by kernel_rfl) (by kernel_rfl) (fun _ _ _ h => h) hC0 (Or.inl ⟨by kernel_rfl, fun w' hC => by clear hC; go_simp⟩) ?_
    simp only [Act.put, List.setIfInBounds_toArray, List.set_cons_succ, List.set_cons_zero]
    refine wpAnyC_takeD (i := 5) (some 20) (v := formV x (nm, t, r, fx, rs, mo, pa)) (fun _ => trivial) (by kernel_rfl) rfl rfl (by kernel_rfl) (by kernel_rfl) (by kernel_rfl) (fun _ _ _ h => h) hC0 (Or.inl ⟨by kernel_rfl, fun w' hC => by obtain ⟨e0, e1, e2, e3, e4, e5, e6, e7⟩ := LB.out w' hC; clear hC; unfold formV; go_simp⟩) ?_
    simp only [Act.put, List.setIfInBounds_toArray, List.set_cons_succ, List.set_cons_zero]
    refine wpAnyC_takeD (i := 6) (some 21) (v := .slice (some ⟨g, 0, none⟩) 93 cap) (fun _ => trivial) (by kernel_rfl) rfl rfl (by kernel_rfl) (by kernel_rfl) (by kernel_rfl) (fun _ _ _ h => h) hC0 (Or.inl ⟨by kernel_rfl, fun w' hC => by have e := L3.out w' hC; clear hC; go_simp⟩) ?_
    simp only [Act.put, List.setIfInBounds_toArray, List.set_cons_succ, List.set_cons_zero]
    refine wpAnyC_takeD (i := 7) (some 22) (v := .int .i64 pre.length) (fun _ => trivial) (by kernel_rfl) rfl rfl (by kernel_rfl) (by kernel_rfl) (by kernel_rfl) (fun _ _ _ h => h) hC0 (Or.inl ⟨by kernel_rfl, fun w' hC => by have e := L4.out w' hC; clear hC; go_simp⟩) ?_
    simp only [Act.put, List.setIfInBounds_toArray, List.set_cons_succ, List.set_cons_zero]
    refine wpAnyC_takeD (i := 8) (some 23) (v := .pointer (some ⟨g, pre.length * 8, none⟩)) (fun _ => trivial) (by kernel_rfl) rfl rfl (by kernel_rfl) (by kernel_rfl) (by kernel_rfl) (fun _ _ _ h => h) hC0 (Or.inl ⟨by kernel_rfl, fun w' hC => by clear hC; go_simp⟩) ?_
    simp only [Act.put, List.setIfInBounds_toArray, List.set_cons_succ, List.set_cons_zero]
    refine wpAnyC_takeD (i := 9) (some 24) (v := formV x (nm, t, r, fx, rs, mo, pa)) (fun _ => trivial) (by kernel_rfl) rfl rfl (by kernel_rfl) (by kernel_rfl) (by kernel_rfl) (fun _ _ _ h => h) hC0 (Or.inl ⟨by kernel_rfl, fun w' hC => by obtain ⟨e0, e1, e2, e3, e4, e5, e6, e7⟩ := LG.out w' hC; clear hC; unfold formV; go_simp⟩) ?_
    simp only [Act.put, List.setIfInBounds_toArray, List.set_cons_succ, List.set_cons_zero]
    refine wpAnyC_takeD (i := 10) (some 25) (v := .bool false) (fun _ => trivial) (by kernel_rfl) rfl rfl (by kernel_rfl) (by kernel_rfl) (by kernel_rfl) (fun _ _ _ h => h) hC0 (Or.inl ⟨by kernel_rfl, fun w' hC => by clear hC; unfold formV; go_simp⟩) ?_
    simp only [Act.put, List.setIfInBounds_toArray, List.set_cons_succ, List.set_cons_zero]
    refine wpAnyC_takeD (i := 11) (some 26) (v := .bool false) (fun _ => trivial) (by kernel_rfl) rfl rfl (by kernel_rfl) (by kernel_rfl) (by kernel_rfl) (fun _ _ _ h => h) hC0 (Or.inl ⟨by kernel_rfl, fun w' hC => by clear hC; go_simp⟩) ?_
    simp only [Act.put, List.setIfInBounds_toArray, List.set_cons_succ, List.set_cons_zero]
    refine wpAnyC_done (by kernel_rfl) ?_ _
    obtain ⟨m0, mf⟩ := oneCell HBS.out.2
    obtain ⟨s0, _⟩ := oneCell HBS.out.1
    have ne : w.heap.size ≠ w1.heap.size + 1 := by omega
    clear L4 L3 LB LG hC0
    by_cases he : (pre.length : Int) + 1 = stop
    · have fin := HOUT.out (by omega)
      rw [show ((pre.length + 1 : Nat) : Int) = (pre.length : Int) + 1 by omega] at fin
      have hb : ((pre.length : Int) + 1 == stop) = true := by simpa using he
      clear HGO HOUT he
      gi_wp2
      exact fin
    · have fin := HGO.out (by omega)
      rw [show ((pre.length + 1 : Nat) : Int) = (pre.length : Int) + 1 by omega] at fin
      have hb : ((pre.length : Int) + 1 == stop) = false := by simpa using he
      clear HGO HOUT he
      gi_wp2
      exact fin
  case done =>
    rintro D xs W hD rfl ⟨⟨h1, hlt⟩, h2, h3, h4, h5⟩ hK
    rw [ops93] at h3
    have hst : stop ≤ 0 ∨ 93 < stop := by
      by_cases hp : stop ≤ 0
      · exact .inl hp
      · refine .inr ?_
        by_cases hq : 93 < stop
        · exact hq
        · exact absurd (show ((stop.toNat : Nat) : Int) = stop by omega) (h5 stop.toNat (by omega) (by rw [ops93]; omega))
    obtain ⟨c1, _⟩ := oneCell ((h1.block _ l1).trans b1)
    obtain ⟨c3, _⟩ := oneCell h2
    obtain ⟨c4, _⟩ := oneCell h3
    obtain ⟨c5, _⟩ := oneCell h4
    have hbE : Below w.heap.size w (W.putObj D (.deferred none)) := (hbw.trans (h1.mono hbw.size)).trans (belowK_b (w := w) (Nat.le_refl _) W D _ _ (by omega) hK rfl rfl)
    have HBE : Hid (Below w.heap.size w (W.putObj D (.deferred none))) := hbE
    clear h1 h2 h3 h4 h5 hbE
    by_cases hp : 0 < stop
    · have hp' : decide (stop > 0) = true := decide_eq_true hp
      have hq : decide (stop < 93) = false := decide_eq_false (by omega)
      clear hst hp
      gi_wp2_with fail
      refine ⟨by simp, .inl ⟨_, _, rfl, run_takeDeferred hK, ?_⟩⟩
      exact ⟨_, results_tmp rfl _ _ _, rfl, HBE.out⟩
    · have hp' : decide (stop > 0) = false := decide_eq_false hp
      clear hst hp
      gi_wp2_with fail
      refine ⟨by simp, .inl ⟨_, _, rfl, run_takeDeferred hK, ?_⟩⟩
      exact ⟨_, results_tmp rfl _ _ _, rfl, HBE.out⟩
  case stop =>
    rintro D c pre W hD hpre ⟨rfl, ⟨h1, hlt⟩, h2, h3, h4, h5, h6⟩ hK
    have hl := pre_len hpre
    obtain ⟨c1, _⟩ := oneCell ((h1.block _ l1).trans b1)
    obtain ⟨c3, _⟩ := oneCell h2
    obtain ⟨c4, _⟩ := oneCell h3
    obtain ⟨c5, _⟩ := oneCell h4
    have hbE : Below w.heap.size w (W.putObj D (.deferred none)) := (hbw.trans (h1.mono hbw.size)).trans (belowK_b (w := w) (Nat.le_refl _) W D _ _ (by omega) hK rfl rfl)
    have HBE : Hid (Below w.heap.size w (W.putObj D (.deferred none))) := hbE
    rw [h6] at c4
    have hp' : decide (stop > 0) = true := decide_eq_true (by omega)
    have hle : stop ≤ 93 := by omega
    clear h1 h2 h3 h4 hbE
    by_cases hq : stop < 93
    · have hq' : decide (stop < 93) = true := decide_eq_true hq
      clear hq h6 h5 hl hle
      gi_wp2_with fail
      refine ⟨by simp, .inl ⟨_, _, rfl, run_takeDeferred hK, ?_⟩⟩
      exact ⟨_, results_tmp rfl _ _ _, by simp, HBE.out⟩
    · obtain rfl : stop = 93 := by omega
      clear hq h6 h5 hl hle
      gi_wp2_with fail
      refine ⟨by simp, .inl ⟨_, _, rfl, run_takeDeferred hK, ?_⟩⟩
      exact ⟨_, results_tmp rfl _ _ _, by simp, HBE.out⟩

end Go.Proofs.Ytjpbiakbjpiceaa
