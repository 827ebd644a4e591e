/-
  One round of the loop of the law FrameBack: what is told is what was read, at the place that follows from the sizes, and Find finds it; the two counters are moved on.
-/
import Derived.RangeFuncNested
import Derived.RangeFuncBound
import Derived.RangeFuncCalls
import Derived.RangeFuncLeaves
import Derived.Shelf.Abstract
import Derived.Shelf.RegionOpen
import Derived.WalkKit
import Derived.OwnWalkIn
import Derived.TacticsInMore
import Derived.LoopNIn
import Derived.LoopIn
import Derived.WalkSpells
import Derived.Test.YtjpbiakbjpiceabBoxes
import Derived.Test.YtjpbiakbjpiceabDrawE
import Derived.Test.YtjpbiakbjpiceabDrawAppend
import Derived.Test.YtjpbiakbjpiceabKitCopyWords
import Derived.Test.YtjpbiakbjpiceabKitWords
namespace Go.Proofs.Ytjpbiakbjpiceab
open Go.RowKit Go.Shelf
attribute [local go_sem] Oper.semAt_some
set_option linter.unusedVariables false
set_option linter.unusedSimpArgs false

/-- The body of the loop over a function, off the code. -/
def rfBody : Code → Option Code
  | .rangeFunc _ _ _ b => some b
  | .seq a b => match rfBody a with | some x => some x | none => rfBody b
  | .block _ b => rfBody b
  | .cond _ a b => match rfBody a with | some x => some x | none => rfBody b
  | _ => none

theorem listIn_value {F : Fence} {n : Nat} {P : Program} {ops : Array Oper} {Q : Exit → Act → World → Prop} {a : Act} {w : World} {rest : List Oper} {o : Oper} {v : Value} (hF : ∀ f, F.fn f) (hnd : ∀ c, o.op ≠ .defer c) (hw : Region.wanted o (yielded ops a.tmps) = true) (hr : (execOp a.eval o).run P w = .ok (.value v) w) (h : wpListIn F n P ops Q rest (a.put o.dst v) w) : wpListIn F n P ops Q (o :: rest) a w := by
  unfold wpListIn
  rw [if_pos hw]
  exact ⟨fun f _ => hF f, by rw [Oper.semAt_eq _ _ _ hnd, hr]; exact h⟩
theorem listIn_skip {F : Fence} {n : Nat} {P : Program} {ops : Array Oper} {Q : Exit → Act → World → Prop} {a : Act} {w w' : World} {rest : List Oper} {o : Oper} (hF : ∀ f, F.fn f) (hnd : ∀ c, o.op ≠ .defer c) (hw : Region.wanted o (yielded ops a.tmps) = true) (hr : (execOp a.eval o).run P w = .ok .skip w') (h : wpListIn F n P ops Q rest (a.put o.dst undef) w') : wpListIn F n P ops Q (o :: rest) a w := by
  unfold wpListIn
  rw [if_pos hw]
  exact ⟨fun f _ => hF f, by rw [Oper.semAt_eq _ _ _ hnd, hr]; exact h⟩

theorem slot_of {t : Array Value} {i : Nat} {v : Value} (h : t[i]?.getD undef = v) : ∀ hi : i < t.size, t[i]'hi = v := fun hi => by
  rw [Array.getElem?_eq_getElem hi] at h; exact h

set_option maxRecDepth 100000 in
set_option maxHeartbeats 8000000 in
theorem back_round (t : Array Value) (W : World) (l : Nat) (Q : Exit → Act → World → Prop) (B1 B4 B10 B11 Bx g3 nj cx3 br offr m cx q k ba offa n cap cj : Nat) (aj : Option Addr) (op : Int)
    (hsz : t.size = 167) (e1 : t[1]?.getD undef = .pointer (some ⟨B1, 0, none⟩)) (e4 : t[4]?.getD undef = .pointer (some ⟨B4, 0, none⟩)) (e10 : t[10]?.getD undef = .pointer (some ⟨B10, 0, none⟩)) (e11 : t[11]?.getD undef = .pointer (some ⟨B11, 0, none⟩)) (e13 : t[13]?.getD undef = .int .i64 q) (e14 : t[14]?.getD undef = .pointer (some ⟨Bx, 0, none⟩))
    (c1 : W.cell? ⟨B1, 0, none⟩ = some (.slice (some ⟨ba, offa, none⟩) n cap)) (c4 : W.cell? ⟨B4, 0, none⟩ = some (.slice (some ⟨br, offr, none⟩) m cx)) (h10 : W.heap[B10]? = some (.cells #[.int .i64 k] 3 (0, 0))) (h11 : W.heap[B11]? = some (.cells #[.int .i64 q] 3 (0, 0)))
    (x0 : W.cell? ⟨Bx, 0, none⟩ = some (.int .u16 op)) (x1 : W.cell? ⟨Bx, 1, none⟩ = some (.slice (some ⟨g3, 0, none⟩) nj cx3)) (r0 : W.cell? ⟨br, offr + k * 2, none⟩ = some (.int .u16 op)) (r1 : W.cell? ⟨br, offr + k * 2 + 1, none⟩ = some (.slice aj nj cj))
    (hkm : k < m) (hqn : q + 1 + nj ≤ 1048576) (hm : m ≤ 1048576) (hne : B10 ≠ B11)
    (HWD : Hid (∀ w', Below W.heap.size W w' → Calls Try.prog 21 #[.slice (some ⟨g3, 0, none⟩) nj cx3, .slice aj nj cj] w' fun e w2 => e = .returned (.bool true) ∧ ∃ d, w2 = w'.drewN d))
    (HCW : Hid (∀ w', Below W.heap.size W w' → Calls Try.prog 16 #[.slice (some ⟨ba, offa, none⟩) n cap] w' fun e w2 => ∃ g, e = .returned (.slice (some ⟨g, 0, none⟩) n n) ∧ Below w'.heap.size w' w2 ∧ ∀ w3, Below w2.heap.size w2 w3 → Calls Try.prog 23 #[.slice (some ⟨g, 0, none⟩) n n, .int .u16 op, .int .i64 q] w3 fun e w4 => e = .returned (.tuple #[.int .i64 q, .bool true]) ∧ Below w3.heap.size w3 w4))
    (HQ : Hid (∀ a' W6, Below W.heap.size W W6 → Q .normal a' ((W6.drew.setCell ⟨B11, 0, none⟩ (.int .i64 ((q : Int) + 1 + nj))).setCell ⟨B10, 0, none⟩ (.int .i64 ((k : Int) + 1)))))
    (c : Code) (hc : rfBody (Try.f6.body.getD .skip) = some c) : c.wpIn (Fence.wide.inRound l) 0 Try.prog Q { tmps := t, defers := [] } W := by
  have hmix : Try.prog.follows .mixedOrders = true := by kernel_rfl
  have hl : ∀ (w' : World) (p : Addr) (v : Value), Below W.heap.size W w' → W.cell? p = some v → w'.cell? p = some v := fun w' p v h e => (h.cell (World.block_lt_of_cell? _ _ e)).trans e
  obtain ⟨c10, _⟩ := oneCell h10
  obtain ⟨c11, _⟩ := oneCell h11
  have L0 : Hid (∀ w', Below W.heap.size W w' → w'.cell? ⟨B1, 0, none⟩ = some (.slice (some ⟨ba, offa, none⟩) n cap)) := fun w' h => hl _ _ _ h c1
  have Ll : Hid (∀ w', Below W.heap.size W w' → w'.cell? ⟨B4, 0, none⟩ = some (.slice (some ⟨br, offr, none⟩) m cx)) := fun w' h => hl _ _ _ h c4
  have Lk : Hid (∀ w', Below W.heap.size W w' → w'.cell? ⟨B10, 0, none⟩ = some (.int .i64 k)) := fun w' h => hl _ _ _ h c10
  have Lp : Hid (∀ w', Below W.heap.size W w' → w'.cell? ⟨B11, 0, none⟩ = some (.int .i64 q)) := fun w' h => hl _ _ _ h c11
  have LO : Hid (∀ w', Below W.heap.size W w' → w'.cell? ⟨Bx, 0, none⟩ = some (.int .u16 op)) := fun w' h => hl _ _ _ h x0
  have LW : Hid (∀ w', Below W.heap.size W w' → w'.cell? ⟨Bx, 1, none⟩ = some (.slice (some ⟨g3, 0, none⟩) nj cx3)) := fun w' h => hl _ _ _ h x1
  have LR : Hid (∀ w', Below W.heap.size W w' → w'.cell? ⟨br, offr + k * 2, none⟩ = some (.int .u16 op)) := fun w' h => hl _ _ _ h r0
  have LS : Hid (∀ w', Below W.heap.size W w' → w'.cell? ⟨br, offr + k * 2 + 1, none⟩ = some (.slice aj nj cj)) := fun w' h => hl _ _ _ h r1
  have H10 : Hid (W.heap[B10]? = some (.cells #[.int .i64 k] 3 (0, 0)) ∧ W.heap[B11]? = some (.cells #[.int .i64 q] 3 (0, 0))) := ⟨h10, h11⟩
  have hki : (k : Int) < (m : Int) := by omega
  have hk0 : (0 : Int) ≤ (k : Int) := by omega
  have hkd : decide (m ≤ k) = false := decide_eq_false (by omega)
  have hkd2 : decide ((m : Int) ≤ (k : Int)) = false := decide_eq_false (by omega)
  have hC0 : Below W.heap.size W W.drew := (Below.refl _ W).drew
  clear c1 c4 h10 h11 x0 x1 r0 r1 hl c10 c11
  simp only [Try.f6, rfBody, Option.getD_some, Option.some.injEq] at hc
  subst hc
  have f1 := slot_of e1
  have f4 := slot_of e4
  have f10 := slot_of e10
  have f11 := slot_of e11
  have f13 := slot_of e13
  have f14 := slot_of e14
  clear e1 e4 e10 e11 e13 e14
  gi_wp2_with fail
  refine wpIn_normal (wpIn_region_any hmix (wpAnyC_sound (C := fun w' => Below W.heap.size W w') _ _ _ _ ?_))
  change wpAnyC _ _ _ _ _ _ _ _ _ _ (World.drew _)
  refine wpAnyC_takeD (i := 0) (some 97) (v := .int .i64 k) (fun _ => trivial) (by kernel_rfl) rfl rfl (by kernel_rfl) (by kernel_rfl) (by kernel_rfl) (fun _ _ _ h => by cases h.1) hC0 (Or.inl ⟨by rfl, fun w' hC => by have e := Lk.out w' hC; clear hC; go_simp⟩) ?_
  simp only [Act.put]
  refine wpAnyC_takeD (i := 1) (some 98) (v := .slice (some ⟨br, offr, none⟩) m cx) (fun _ => trivial) (by kernel_rfl) rfl rfl (by kernel_rfl) (by kernel_rfl) (by kernel_rfl) (fun _ _ _ h => by cases h.1) hC0 (Or.inl ⟨by rfl, fun w' hC => by have e := Ll.out w' hC; clear hC; go_simp⟩) ?_
  simp only [Act.put]
  refine wpAnyC_takeD (i := 2) (some 99) (v := .int .i64 m) (fun _ => trivial) (by kernel_rfl) rfl rfl (by kernel_rfl) (by kernel_rfl) (by kernel_rfl) (fun _ _ _ h => by cases h.1) hC0 (Or.inl ⟨by rfl, fun w' _ => by go_simp⟩) ?_
  simp only [Act.put]
  refine wpAnyC_takeD (i := 3) (some 100) (v := .bool false) (fun _ => trivial) (by kernel_rfl) rfl rfl (by kernel_rfl) (by kernel_rfl) (by kernel_rfl) (fun _ _ _ h => by cases h.1) hC0 (Or.inl ⟨by rfl, fun w' _ => by go_simp⟩) ?_
  simp only [Act.put]
  refine wpAnyC_takeD (i := 4) (some 101) (v := .bool false) (fun _ => trivial) (by kernel_rfl) rfl rfl (by kernel_rfl) (by kernel_rfl) (by kernel_rfl) (fun _ _ _ h => by cases h.1) hC0 (Or.inl ⟨by rfl, fun w' _ => by go_simp⟩) ?_
  simp only [Act.put]
  refine wpAnyC_takeD (i := 5) (some 102) (v := .int .i64 q) (fun _ => trivial) (by kernel_rfl) rfl rfl (by kernel_rfl) (by kernel_rfl) (by kernel_rfl) (fun _ _ _ h => by cases h.1) hC0 (Or.inl ⟨by simp [Region.wanted, yielded, hsz], fun w' _ => by go_simp⟩) ?_
  simp only [Act.put]
  refine wpAnyC_takeD (i := 6) (some 103) (v := .int .i64 q) (fun _ => trivial) (by kernel_rfl) rfl rfl (by kernel_rfl) (by kernel_rfl) (by kernel_rfl) (fun _ _ _ h => by cases h.1) hC0 (Or.inl ⟨by simp [Region.wanted, yielded, hsz], fun w' hC => by have e := Lp.out w' hC; clear hC; go_simp⟩) ?_
  simp only [Act.put]
  refine wpAnyC_takeD (i := 7) (some 104) (v := .bool false) (fun _ => trivial) (by kernel_rfl) rfl rfl (by kernel_rfl) (by kernel_rfl) (by kernel_rfl) (fun _ _ _ h => by cases h.1) hC0 (Or.inl ⟨by simp [Region.wanted, yielded, hsz], fun w' _ => by go_simp⟩) ?_
  simp only [Act.put]
  refine wpAnyC_takeD (i := 8) (some 105) (v := .bool false) (fun _ => trivial) (by kernel_rfl) rfl rfl (by kernel_rfl) (by kernel_rfl) (by kernel_rfl) (fun _ _ _ h => by cases h.1) hC0 (Or.inl ⟨by rfl, fun w' _ => by go_simp⟩) ?_
  simp only [Act.put]
  refine wpAnyC_takeD (i := 9) (some 106) (v := .bool false) (fun _ => trivial) (by kernel_rfl) rfl rfl (by kernel_rfl) (by kernel_rfl) (by kernel_rfl) (fun _ _ _ h => by cases h.1) hC0 (Or.inl ⟨by rfl, fun w' _ => by go_simp⟩) ?_
  simp only [Act.put]
  refine wpAnyC_takeD (i := 10) (some 107) (v := .pointer (some ⟨Bx, 0, none⟩)) (fun _ => trivial) (by kernel_rfl) rfl rfl (by kernel_rfl) (by kernel_rfl) (by kernel_rfl) (fun _ _ _ h => by cases h.1) hC0 (Or.inl ⟨by simp [Region.wanted, yielded, hsz], fun w' _ => by go_simp⟩) ?_
  simp only [Act.put]
  refine wpAnyC_takeD (i := 11) (some 108) (v := .int .u16 op) (fun _ => trivial) (by kernel_rfl) rfl rfl (by kernel_rfl) (by kernel_rfl) (by kernel_rfl) (fun _ _ _ h => by cases h.1) hC0 (Or.inl ⟨by simp [Region.wanted, yielded, hsz], fun w' hC => by have e := LO.out w' hC; clear hC; go_simp⟩) ?_
  simp only [Act.put]
  refine wpAnyC_takeD (i := 12) (some 109) (v := .slice (some ⟨br, offr, none⟩) m cx) (fun _ => trivial) (by kernel_rfl) rfl rfl (by kernel_rfl) (by kernel_rfl) (by kernel_rfl) (fun _ _ _ h => by cases h.1) hC0 (Or.inl ⟨by simp [Region.wanted, yielded, hsz], fun w' hC => by have e := Ll.out w' hC; clear hC; go_simp⟩) ?_
  simp only [Act.put]
  refine wpAnyC_takeD (i := 13) (some 110) (v := .int .i64 k) (fun _ => trivial) (by kernel_rfl) rfl rfl (by kernel_rfl) (by kernel_rfl) (by kernel_rfl) (fun _ _ _ h => by cases h.1) hC0 (Or.inl ⟨by simp [Region.wanted, yielded, hsz], fun w' hC => by have e := Lk.out w' hC; clear hC; go_simp⟩) ?_
  simp only [Act.put]
  refine wpAnyC_takeD (i := 14) (some 111) (v := .pointer (some ⟨br, offr + k * 2, none⟩)) (fun _ => trivial) (by kernel_rfl) rfl rfl (by kernel_rfl) (by kernel_rfl) (by kernel_rfl) (fun _ _ _ h => by cases h.1) hC0 (Or.inl ⟨by simp [Region.wanted, yielded, hsz], fun w' _ => by go_simp⟩) ?_
  simp only [Act.put]
  refine wpAnyC_takeD (i := 15) (some 112) (v := .pointer (some ⟨br, offr + k * 2, none⟩)) (fun _ => trivial) (by kernel_rfl) rfl rfl (by kernel_rfl) (by kernel_rfl) (by kernel_rfl) (fun _ _ _ h => by cases h.1) hC0 (Or.inl ⟨by simp [Region.wanted, yielded, hsz], fun w' _ => by go_simp⟩) ?_
  simp only [Act.put]
  refine wpAnyC_takeD (i := 16) (some 113) (v := .int .u16 op) (fun _ => trivial) (by kernel_rfl) rfl rfl (by kernel_rfl) (by kernel_rfl) (by kernel_rfl) (fun _ _ _ h => by cases h.1) hC0 (Or.inl ⟨by simp [Region.wanted, yielded, hsz], fun w' hC => by have e := LR.out w' hC; clear hC; go_simp⟩) ?_
  simp only [Act.put]
  refine wpAnyC_takeD (i := 17) (some 114) (v := .bool false) (fun _ => trivial) (by kernel_rfl) rfl rfl (by kernel_rfl) (by kernel_rfl) (by kernel_rfl) (fun _ _ _ h => by cases h.1) hC0 (Or.inl ⟨by simp [Region.wanted, yielded, hsz], fun w' _ => by go_simp⟩) ?_
  simp only [Act.put]
  refine wpAnyC_takeD (i := 18) (some 115) (v := .bool false) (fun _ => trivial) (by kernel_rfl) rfl rfl (by kernel_rfl) (by kernel_rfl) (by kernel_rfl) (fun _ _ _ h => by cases h.1) hC0 (Or.inl ⟨by rfl, fun w' _ => by go_simp⟩) ?_
  simp only [Act.put]
  refine wpAnyC_takeD (i := 19) (some 116) (v := .bool false) (fun _ => trivial) (by kernel_rfl) rfl rfl (by kernel_rfl) (by kernel_rfl) (by kernel_rfl) (fun _ _ _ h => by cases h.1) hC0 (Or.inl ⟨by rfl, fun w' _ => by go_simp⟩) ?_
  simp only [Act.put]
  refine wpAnyC_takeD (i := 20) (some 117) (v := .pointer (some ⟨Bx, 1, none⟩)) (fun _ => trivial) (by kernel_rfl) rfl rfl (by kernel_rfl) (by kernel_rfl) (by kernel_rfl) (fun _ _ _ h => by cases h.1) hC0 (Or.inl ⟨by simp [Region.wanted, yielded, hsz], fun w' _ => by go_simp⟩) ?_
  simp only [Act.put]
  refine wpAnyC_takeD (i := 21) (some 118) (v := .slice (some ⟨g3, 0, none⟩) nj cx3) (fun _ => trivial) (by kernel_rfl) rfl rfl (by kernel_rfl) (by kernel_rfl) (by kernel_rfl) (fun _ _ _ h => by cases h.1) hC0 (Or.inl ⟨by simp [Region.wanted, yielded, hsz], fun w' hC => by have e := LW.out w' hC; clear hC; go_simp⟩) ?_
  simp only [Act.put]
  refine wpAnyC_takeD (i := 22) (some 119) (v := .slice (some ⟨br, offr, none⟩) m cx) (fun _ => trivial) (by kernel_rfl) rfl rfl (by kernel_rfl) (by kernel_rfl) (by kernel_rfl) (fun _ _ _ h => by cases h.1) hC0 (Or.inl ⟨by simp [Region.wanted, yielded, hsz], fun w' hC => by have e := Ll.out w' hC; clear hC; go_simp⟩) ?_
  simp only [Act.put]
  refine wpAnyC_takeD (i := 23) (some 120) (v := .int .i64 k) (fun _ => trivial) (by kernel_rfl) rfl rfl (by kernel_rfl) (by kernel_rfl) (by kernel_rfl) (fun _ _ _ h => by cases h.1) hC0 (Or.inl ⟨by simp [Region.wanted, yielded, hsz], fun w' hC => by have e := Lk.out w' hC; clear hC; go_simp⟩) ?_
  simp only [Act.put]
  refine wpAnyC_takeD (i := 24) (some 121) (v := .pointer (some ⟨br, offr + k * 2, none⟩)) (fun _ => trivial) (by kernel_rfl) rfl rfl (by kernel_rfl) (by kernel_rfl) (by kernel_rfl) (fun _ _ _ h => by cases h.1) hC0 (Or.inl ⟨by simp [Region.wanted, yielded, hsz], fun w' _ => by go_simp⟩) ?_
  simp only [Act.put]
  refine wpAnyC_takeD (i := 25) (some 122) (v := .pointer (some ⟨br, offr + k * 2 + 1, none⟩)) (fun _ => trivial) (by kernel_rfl) rfl rfl (by kernel_rfl) (by kernel_rfl) (by kernel_rfl) (fun _ _ _ h => by cases h.1) hC0 (Or.inl ⟨by simp [Region.wanted, yielded, hsz], fun w' _ => by go_simp⟩) ?_
  simp only [Act.put]
  refine wpAnyC_takeD (i := 26) (some 123) (v := .slice aj nj cj) (fun _ => trivial) (by kernel_rfl) rfl rfl (by kernel_rfl) (by kernel_rfl) (by kernel_rfl) (fun _ _ _ h => by cases h.1) hC0 (Or.inl ⟨by simp [Region.wanted, yielded, hsz], fun w' hC => by have e := LS.out w' hC; clear hC; go_simp⟩) ?_
  simp only [Act.put]
  refine wpAnyC_ready (rs := [27]) (by kernel_rfl) (by simp) ?_
  refine AllC.cons rfl (fun K hK => ?_) AllC.nil
  rw [if_pos (by simp [Region.wanted, yielded, hsz])]
  go_simp
  refine ⟨trivial, rfl, (CallsIn.inRound l (callsIn_wide.2 (HWD.out _ hC0))).mono ?_⟩
  rintro e w3 ⟨rfl, dd, rfl⟩
  dsimp only
  have hC3 : Below W.heap.size W (W.drew.drewN dd) := bel_drewN hC0 dd
  refine hK _ _ hC3 ?_
  clear hK K hC0
  generalize W.drew.drewN dd = W3 at *
  have hC0 := hC3
  refine wpAnyC_takeD (i := 28) (some 125) (v := .bool false) (fun _ => trivial) (by kernel_rfl) rfl rfl (by kernel_rfl) (by kernel_rfl) (by kernel_rfl) (fun _ _ _ h => by cases h.1) hC0 (Or.inl ⟨by simp [Region.wanted, yielded, hsz], fun w' _ => by go_simp⟩) ?_
  simp only [Act.put]
  refine wpAnyC_takeD (i := 29) (some 126) (v := .bool false) (fun _ => trivial) (by kernel_rfl) rfl rfl (by kernel_rfl) (by kernel_rfl) (by kernel_rfl) (fun _ _ _ h => by cases h.1) hC0 (Or.inl ⟨by rfl, fun w' _ => by go_simp⟩) ?_
  simp only [Act.put]
  refine wpAnyC_done (by kernel_rfl) ⟨rfl, ?_⟩ _
  generalize hT : Array.setIfInBounds _ 126 _ = t2
  have hsz2 : t2.size = 167 := by rw [← hT]; simp [hsz]
  have g1 : t2[1]?.getD undef = .pointer (some ⟨B1, 0, none⟩) := by rw [← hT]; simp [hsz, f1]
  have g4 : t2[4]?.getD undef = .pointer (some ⟨B4, 0, none⟩) := by rw [← hT]; simp [hsz, f4]
  have g10 : t2[10]?.getD undef = .pointer (some ⟨B10, 0, none⟩) := by rw [← hT]; simp [hsz, f10]
  have g11 : t2[11]?.getD undef = .pointer (some ⟨B11, 0, none⟩) := by rw [← hT]; simp [hsz, f11]
  have g13 : t2[13]?.getD undef = .int .i64 q := by rw [← hT]; simp [hsz, f13]
  have g14 : t2[14]?.getD undef = .pointer (some ⟨Bx, 0, none⟩) := by rw [← hT]; simp [hsz, f14]
  have g126 : t2[126]?.getD undef = .bool false := by rw [← hT]; simp [hsz]
  clear hT hsz f1 f4 f10 f11 f13 f14
  have hsz := hsz2
  clear hsz2
  have f1 := slot_of g1
  have f4 := slot_of g4
  have f10 := slot_of g10
  have f11 := slot_of g11
  have f13 := slot_of g13
  have f14 := slot_of g14
  have f126 := slot_of g126
  clear g1 g4 g10 g11 g13 g14 g126
  gi_wp2_with fail
  refine wpIn_cond_false (by show _ = _; simp [Act.eval, hsz, f126]) ?_
  clear f126
  gi_wp2_with fail
  refine wpIn_normal (wpIn_region_any hmix (wpAnyC_sound (C := fun w' => Below W.heap.size W w') _ _ _ _ ?_))
  change wpAnyC _ _ _ _ _ _ _ _ _ _ (World.drew _)
  have hC4 : Below W.heap.size W W3.drew := hC3.drew
  clear hC0 hC3
  have hC0 := hC4
  refine wpAnyC_takeD (i := 0) (some 128) (v := .slice (some ⟨ba, offa, none⟩) n cap) (fun _ => trivial) (by kernel_rfl) rfl rfl (by kernel_rfl) (by kernel_rfl) (by kernel_rfl) (fun _ _ _ h => by cases h.1) hC0 (Or.inl ⟨by rfl, fun w' hC => by have e := L0.out w' hC; clear hC; go_simp⟩) ?_
  simp only [Act.put]
  refine wpAnyC_takeD (i := 2) (some 130) (v := .pointer (some ⟨Bx, 0, none⟩)) (fun _ => trivial) (by kernel_rfl) rfl rfl (by kernel_rfl) (by kernel_rfl) (by kernel_rfl) (fun _ _ _ h => by cases h.1) hC0 (Or.inl ⟨by rfl, fun w' _ => by go_simp⟩) ?_
  simp only [Act.put]
  refine wpAnyC_takeD (i := 3) (some 131) (v := .int .u16 op) (fun _ => trivial) (by kernel_rfl) rfl rfl (by kernel_rfl) (by kernel_rfl) (by kernel_rfl) (fun _ _ _ h => by cases h.1) hC0 (Or.inl ⟨by rfl, fun w' hC => by have e := LO.out w' hC; clear hC; go_simp⟩) ?_
  simp only [Act.put]
  refine wpAnyC_takeD (i := 4) (some 132) (v := .int .i64 q) (fun _ => trivial) (by kernel_rfl) rfl rfl (by kernel_rfl) (by kernel_rfl) (by kernel_rfl) (fun _ _ _ h => by cases h.1) hC0 (Or.inl ⟨by rfl, fun w' _ => by go_simp⟩) ?_
  simp only [Act.put]
  refine wpAnyC_ready (rs := [1]) (by kernel_rfl) (by simp) ?_
  refine AllC.cons rfl (fun K hK => ?_) AllC.nil
  go_simp
  refine ⟨trivial, rfl, (CallsIn.inRound l (callsIn_wide.2 (HCW.out _ hC0))).mono ?_⟩
  rintro e w5 ⟨g5, rfl, hb5, hfind⟩
  dsimp only
  have hC5 : Below W.heap.size W w5 := hC0.trans (hb5.mono hC0.size)
  refine hK _ _ hC5 ?_
  clear hK K
  refine wpAnyC_ready (rs := [5]) (by kernel_rfl) (by simp) ?_
  refine AllC.cons rfl (fun K hK => ?_) AllC.nil
  have HFD := hfind w5 (Below.refl _ _)
  clear hfind
  go_simp
  refine ⟨trivial, rfl, (CallsIn.inRound l (callsIn_wide.2 HFD)).mono ?_⟩
  rintro e w6 ⟨rfl, hb6⟩
  dsimp only
  have hC6 : Below W.heap.size W w6 := hC5.trans (hb6.mono hC5.size)
  refine hK _ _ hC6 ?_
  clear hK K HFD hb6 hb5 hC5 hC0 hC4
  have hC0 := hC6
  refine wpAnyC_takeD (i := 6) (some 127) (v := .tuple #[.int .i64 q, .bool true]) (fun _ => trivial) (by kernel_rfl) rfl rfl (by kernel_rfl) (by kernel_rfl) (by kernel_rfl) (fun _ _ _ h => by cases h.1) hC0 (Or.inl ⟨by rfl, fun w' _ => by go_simp⟩) ?_
  simp only [Act.put]
  refine wpAnyC_takeD (i := 7) (some 134) (v := .int .i64 q) (fun _ => trivial) (by kernel_rfl) rfl rfl (by kernel_rfl) (by kernel_rfl) (by kernel_rfl) (fun _ _ _ h => by cases h.1) hC0 (Or.inl ⟨by rfl, fun w' _ => by go_simp⟩) ?_
  simp only [Act.put]
  refine wpAnyC_takeD (i := 8) (some 135) (v := .bool true) (fun _ => trivial) (by kernel_rfl) rfl rfl (by kernel_rfl) (by kernel_rfl) (by kernel_rfl) (fun _ _ _ h => by cases h.1) hC0 (Or.inl ⟨by rfl, fun w' _ => by go_simp⟩) ?_
  simp only [Act.put]
  refine wpAnyC_takeD (i := 9) (some 15) (v := .int .i64 q) (fun _ => trivial) (by kernel_rfl) rfl rfl (by kernel_rfl) (by kernel_rfl) (by kernel_rfl) (fun _ _ _ h => by cases h.1) hC0 (Or.inl ⟨by rfl, fun w' _ => by go_simp⟩) ?_
  simp only [Act.put]
  refine wpAnyC_takeD (i := 10) (some 16) (v := .bool true) (fun _ => trivial) (by kernel_rfl) rfl rfl (by kernel_rfl) (by kernel_rfl) (by kernel_rfl) (fun _ _ _ h => by cases h.1) hC0 (Or.inl ⟨by rfl, fun w' _ => by go_simp⟩) ?_
  simp only [Act.put]
  refine wpAnyC_done (by kernel_rfl) ⟨rfl, ?_⟩ _
  generalize hT : Array.setIfInBounds _ 16 _ = t3
  have hsz2 : t3.size = 167 := by rw [← hT]; simp [hsz]
  have g4 : t3[4]?.getD undef = .pointer (some ⟨B4, 0, none⟩) := by rw [← hT]; simp [hsz, f4]
  have g10 : t3[10]?.getD undef = .pointer (some ⟨B10, 0, none⟩) := by rw [← hT]; simp [hsz, f10]
  have g11 : t3[11]?.getD undef = .pointer (some ⟨B11, 0, none⟩) := by rw [← hT]; simp [hsz, f11]
  have g13 : t3[13]?.getD undef = .int .i64 q := by rw [← hT]; simp [hsz, f13]
  have g15 : t3[15]?.getD undef = .int .i64 q := by rw [← hT]; simp [hsz]
  have g16 : t3[16]?.getD undef = .bool true := by rw [← hT]; simp [hsz]
  clear hT hsz f4 f10 f11 f13
  have hsz := hsz2
  clear hsz2
  have f4 := slot_of g4
  have f10 := slot_of g10
  have f11 := slot_of g11
  have f13 := slot_of g13
  have f15 := slot_of g15
  have f16 := slot_of g16
  clear g4 g10 g11 g13 g15 g16
  gi_step
  gi_step
  gi_step
  gi_step
  refine wpIn_region_lit ?_
  refine listIn_value (v := .bool true) (fun _ => trivial) (fun c h => by cases h) (by rfl) (by go_simp) ?_
  simp only [Act.put]
  refine listIn_value (v := .bool false) (fun _ => trivial) (fun c h => by cases h) (by rfl) (by go_simp) ?_
  simp only [Act.put]
  refine listIn_value (v := .bool false) (fun _ => trivial) (fun c h => by cases h) (by rfl) (by go_simp) ?_
  simp only [Act.put]
  refine listIn_value (v := .int .i64 q) (fun _ => trivial) (fun c h => by cases h) (by simp [Region.wanted, yielded, hsz]) (by go_simp) ?_
  simp only [Act.put]
  refine listIn_value (v := .int .i64 q) (fun _ => trivial) (fun c h => by cases h) (by simp [Region.wanted, yielded, hsz]) (by go_simp) ?_
  simp only [Act.put]
  refine listIn_value (v := .bool false) (fun _ => trivial) (fun c h => by cases h) (by simp [Region.wanted, yielded, hsz]) (by go_simp) ?_
  simp only [Act.put]
  refine listIn_value (v := .bool false) (fun _ => trivial) (fun c h => by cases h) (by rfl) (by go_simp) ?_
  simp only [Act.put]
  refine wpListIn_nil ?_
  generalize hT : Array.setIfInBounds _ 142 _ = t4
  have hsz2 : t4.size = 167 := by rw [← hT]; simp [hsz]
  have g4 : t4[4]?.getD undef = .pointer (some ⟨B4, 0, none⟩) := by rw [← hT]; simp [hsz, f4]
  have g10 : t4[10]?.getD undef = .pointer (some ⟨B10, 0, none⟩) := by rw [← hT]; simp [hsz, f10]
  have g11 : t4[11]?.getD undef = .pointer (some ⟨B11, 0, none⟩) := by rw [← hT]; simp [hsz, f11]
  have g142 : t4[142]?.getD undef = .bool false := by rw [← hT]; simp [hsz]
  clear hT hsz f4 f10 f11
  have hsz := hsz2
  clear hsz2
  have f4 := slot_of g4
  have f10 := slot_of g10
  have f11 := slot_of g11
  have f142 := slot_of g142
  clear g4 g10 g11 g142
  clear f13 f15 f16
  gi_step
  gi_step
  refine wpIn_cond_false (by show _ = _; simp [Act.eval, hsz, f142]) ?_
  clear f142
  gi_step
  gi_step
  gi_step
  gi_step
  have hw1 : IntKind.i64.wrap ((q : Int) + 1) = (q : Int) + 1 := by rw [IntKind.wrap_i64]; omega
  have hw2 : IntKind.i64.wrap ((q : Int) + 1 + (nj : Int)) = (q : Int) + 1 + (nj : Int) := by rw [IntKind.wrap_i64]; omega
  have hC7 : Below W.heap.size W w6.drew := hC6.drew
  clear hC0
  have hC0 := hC7
  refine wpIn_normal (wpIn_region_any hmix (wpAnyE_sound (C := fun w' => Below W.heap.size W w') (E := fun i => i == 9) _ _ _ _ ?_))
  change wpAnyE _ _ _ _ _ _ _ _ _ _ _ (World.drew _)
  refine wpAnyE_takeD (i := 0) (some 143) (v := .int .i64 q) (fun _ => trivial) (by kernel_rfl) rfl rfl (by kernel_rfl) (by kernel_rfl) (by kernel_rfl) (by kernel_rfl) (fun _ _ _ h => by cases h.1) hC0 (Or.inl ⟨by rfl, fun w' hC => by have e := Lp.out w' hC; clear hC; go_simp⟩) ?_
  simp only [Act.put]
  refine wpAnyE_takeD (i := 1) (some 144) (v := .int .i64 ((q : Int) + 1)) (fun _ => trivial) (by kernel_rfl) rfl rfl (by kernel_rfl) (by kernel_rfl) (by kernel_rfl) (by kernel_rfl) (fun _ _ _ h => by cases h.1) hC0 (Or.inl ⟨by rfl, fun w' _ => by go_simp⟩) ?_
  simp only [Act.put]
  refine wpAnyE_takeD (i := 2) (some 145) (v := .slice (some ⟨br, offr, none⟩) m cx) (fun _ => trivial) (by kernel_rfl) rfl rfl (by kernel_rfl) (by kernel_rfl) (by kernel_rfl) (by kernel_rfl) (fun _ _ _ h => by cases h.1) hC0 (Or.inl ⟨by rfl, fun w' hC => by have e := Ll.out w' hC; clear hC; go_simp⟩) ?_
  simp only [Act.put]
  refine wpAnyE_takeD (i := 3) (some 146) (v := .int .i64 k) (fun _ => trivial) (by kernel_rfl) rfl rfl (by kernel_rfl) (by kernel_rfl) (by kernel_rfl) (by kernel_rfl) (fun _ _ _ h => by cases h.1) hC0 (Or.inl ⟨by rfl, fun w' hC => by have e := Lk.out w' hC; clear hC; go_simp⟩) ?_
  simp only [Act.put]
  refine wpAnyE_takeD (i := 4) (some 147) (v := .pointer (some ⟨br, offr + k * 2, none⟩)) (fun _ => trivial) (by kernel_rfl) rfl rfl (by kernel_rfl) (by kernel_rfl) (by kernel_rfl) (by kernel_rfl) (fun _ _ _ h => by cases h.1) hC0 (Or.inl ⟨by rfl, fun w' _ => by go_simp⟩) ?_
  simp only [Act.put]
  refine wpAnyE_takeD (i := 5) (some 148) (v := .pointer (some ⟨br, offr + k * 2 + 1, none⟩)) (fun _ => trivial) (by kernel_rfl) rfl rfl (by kernel_rfl) (by kernel_rfl) (by kernel_rfl) (by kernel_rfl) (fun _ _ _ h => by cases h.1) hC0 (Or.inl ⟨by rfl, fun w' _ => by go_simp⟩) ?_
  simp only [Act.put]
  refine wpAnyE_takeD (i := 6) (some 149) (v := .slice aj nj cj) (fun _ => trivial) (by kernel_rfl) rfl rfl (by kernel_rfl) (by kernel_rfl) (by kernel_rfl) (by kernel_rfl) (fun _ _ _ h => by cases h.1) hC0 (Or.inl ⟨by rfl, fun w' hC => by have e := LS.out w' hC; clear hC; go_simp⟩) ?_
  simp only [Act.put]
  refine wpAnyE_takeD (i := 7) (some 150) (v := .int .i64 nj) (fun _ => trivial) (by kernel_rfl) rfl rfl (by kernel_rfl) (by kernel_rfl) (by kernel_rfl) (by kernel_rfl) (fun _ _ _ h => by cases h.1) hC0 (Or.inl ⟨by rfl, fun w' _ => by go_simp⟩) ?_
  simp only [Act.put]
  refine wpAnyE_takeD (i := 8) (some 151) (v := .int .i64 ((q : Int) + 1 + nj)) (fun _ => trivial) (by kernel_rfl) rfl rfl (by kernel_rfl) (by kernel_rfl) (by kernel_rfl) (by kernel_rfl) (fun _ _ _ h => by cases h.1) hC0 (Or.inl ⟨by rfl, fun w' _ => by go_simp⟩) ?_
  simp only [Act.put]
  have l10 : B10 < W.heap.size := (Array.getElem?_eq_some_iff.1 H10.out.1).1
  have l11 : B11 < W.heap.size := (Array.getElem?_eq_some_iff.1 H10.out.2).1
  obtain ⟨z11, zf11⟩ := oneCell ((hC7.block _ l11).trans H10.out.2)
  refine wpAnyE_ready (rs := [9]) (by kernel_rfl) (by simp) ?_
  refine AllE.cons rfl (fun K hK => ?_) AllE.nil
  go_simp
  refine hK _ _ (.inl rfl) ?_
  clear hK K
  refine wpAnyE_done (by kernel_rfl) ⟨rfl, ?_⟩ _
  generalize hT : Array.setIfInBounds _ 151 _ = t5
  have hsz2 : t5.size = 167 := by rw [← hT]; simp [hsz]
  have g10 : t5[10]?.getD undef = .pointer (some ⟨B10, 0, none⟩) := by rw [← hT]; simp [hsz, f10]
  clear hT hsz f10
  have hsz := hsz2
  clear hsz2
  have f10 := slot_of g10
  clear g10
  clear f4 f11
  have k10 : (w6.setCell ⟨B11, 0, none⟩ (.int .i64 ((q : Int) + 1 + nj))).drew.heap[B10]? = some (.cells #[.int .i64 k] 3 (0, 0)) := setFar (w := w6) ((hC6.block _ l10).trans H10.out.1) hne _ _
  obtain ⟨y10, yf10⟩ := oneCell k10
  have HFIN : Hid (∀ a', Q .normal a' ((w6.setCell ⟨B11, 0, none⟩ (.int .i64 ((q : Int) + 1 + nj))).drew.setCell ⟨B10, 0, none⟩ (.int .i64 ((k : Int) + 1)))) := fun a' => HQ.out a' w6 hC6
  generalize (w6.setCell ⟨B11, 0, none⟩ (.int .i64 ((q : Int) + 1 + nj))).drew = W8 at *
  have hw3 : IntKind.i64.wrap ((k : Int) + 1) = (k : Int) + 1 := by rw [IntKind.wrap_i64]; omega
  clear k10 hC7 hC0 hC6 z11 zf11 HQ
  gi_step
  gi_step
  refine wpIn_region_lit ?_
  refine listIn_value (v := .int .i64 k) (fun _ => trivial) (fun c h => by cases h) (by rfl) (by go_simp) ?_
  simp only [Act.put]
  refine listIn_value (v := .int .i64 ((k : Int) + 1)) (fun _ => trivial) (fun c h => by cases h) (by rfl) (by go_simp) ?_
  simp only [Act.put]
  refine listIn_skip (w' := W8.setCell ⟨B10, 0, none⟩ (.int .i64 ((k : Int) + 1))) (fun _ => trivial) (fun c h => by cases h) rfl (by go_simp) ?_
  refine wpListIn_nil ?_
  exact HFIN.out _

end Go.Proofs.Ytjpbiakbjpiceab
