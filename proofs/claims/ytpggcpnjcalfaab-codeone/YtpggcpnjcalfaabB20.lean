/-
  Texts laid together in one: LawCodeWords.
-/
import Derived.WalkKit
import Derived.OwnWalkIn
import Derived.TacticsInMore
import Derived.WalkSpells
import Derived.WalkMore
import Derived.Test.YtpggcpnjcalfaabB01
import Derived.Test.YtpggcpnjcalfaabB02
import Derived.Test.YtpggcpnjcalfaabB12
import Derived.Test.YtpggcpnjcalfaabB13
import Derived.Test.YtpggcpnjcalfaabB19
/-
  The law CodeWords answers true, for all words and every bound.
-/
namespace Go.Proofs.Ytpggcpnjcalfaab
open Go.RowKit Go.Shelf
attribute [local go_sem] Oper.semAt_some
set_option linter.unusedVariables false
set_option linter.unusedSimpArgs false

theorem inst_put {w : World} {B T : Nat} {z0 z1 z2 z3 : Value} (h : w.heap[B]? = some (.cells #[z0, z1, z2, z3] T (0, 0))) (u0 u1 u2 u3 : Value) :
    ((((w.setCell ⟨B, 0, none⟩ u0).setCell ⟨B, 1, none⟩ u1).setCell ⟨B, 2, none⟩ u2).setCell ⟨B, 3, none⟩ u3).heap[B]? = some (.cells #[u0, u1, u2, u3] T (0, 0)) := by
  simp only [World.setCell, Array.getElem?_modify, h]; simp

set_option maxRecDepth 100000 in
set_option maxHeartbeats 8000000 in
theorem codeWords_true (w : World) (op : Int) (a : Option Addr) (n cap : Nat) (zs : List Int) (ho0 : 0 ≤ op) (ho1 : op < 65536) (hl : zs.length = n) (hv : View .u32 w a zs) (hw : Within 4294967296 zs) (hr : 4 * n ≤ 140737488351232) (hc : n ≤ cap) (bnd : Int) (hbw : (Lit.int .u32 bnd).wf = true) :
    Calls Try.prog 6 #[.agg #[.int .u16 op, .slice a n cap], .int .u32 bnd] w fun e w' => e = .returned (.bool true) ∧ Below w.heap.size w w' := by
  have hCw := fun wx (hb : Below w.heap.size w wx) => copyWords_any a n cap zs wx (hv.below hb) hl hr
  have hIn := fun wx g (h : View .u32 wx (some ⟨g, 0, none⟩) zs) => inst_any op bnd ⟨g, 0, none⟩ n n zs wx h hl hw hr
  have hIok : InstOk (instI op zs bnd).1 := instI_ok ho0 ho1 hw
  have hNo : (instI op zs bnd).2 ≠ 0 → (instI op zs bnd).1 = noInst := fun h => instI_none h
  have hBk : (instI op zs bnd).2 = 0 → (instI op zs bnd).1.1 = op ∧ rawE (instI op zs bnd).1 bnd = 0 ∧ rawWs (instI op zs bnd).1 bnd = zs := fun h => rawE_instI hw h
  have hWd := fun wx ax ay c (h1 : View .u32 wx ax zs) (h2 : View .u32 wx ay zs) => words_true ax ay n c cap zs wx h1 h2 hl (by omega)
  generalize instI op zs bnd = I at *
  have hCi := fun wx ax m c (h : ArgsV wx ax I.1.2.2.2) (hm : I.1.2.2.2.length = m) => copyInst_any I.1 ax m c wx h hm (by have := hIok.2.2.2.2.2.2.2; omega)
  have hRw := fun wx g m c (h : ArgsV wx (some ⟨g, 0, none⟩) I.1.2.2.2) (hm : I.1.2.2.2.length = m) => raw_any I.1 bnd (some ⟨g, 0, none⟩) m c wx h hIok hm
  have hNi := fun wx ax m c (h : ArgsV wx ax I.1.2.2.2) (hm : I.1.2.2.2.length = m) => kitInst_any I.1 noInst ax none m 0 c 0 wx h argsV_nil hm rfl (by have := hIok.2.2.2.2.2.2.2; omega) (by omega)
  have hAw := fun w => awake4_true w
  have HL : Hid (zs.length = n) := hl
  have HV : Hid (View .u32 w a zs) := hv
  have hmix : Try.prog.follows .mixedOrders = true := by kernel_rfl
  obtain ⟨⟨io, it, ir, il⟩, ie⟩ := I
  have HNO : Hid _ := hNo
  have HBK : Hid _ := hBk
  unfold InstR at hIn
  unfold instV at *
  unfold noInst at hNi
  simp only at *
  clear hIok hv hl hNo hBk hbw
  refine (callsIn_wide (n := 0)).1 ?_
  refine callsIn_of_wp_marks Try.func6 rfl trivial ?_ rfl
  simp only [Try.ntmps6, List.size_toArray, List.length_cons, List.length_nil, Nat.reduceAdd, Nat.reduceSub, Array.replicate_succ, Array.replicate_zero, List.push_toArray, List.append_toArray, List.nil_append, List.cons_append]
  gi_wp2_with fail
  have hB0 : Below w.heap.size w (w.alloc (.cells #[.int .u16 op, .slice a n cap] 46)) := (Below.refl _ w).alloc (Nat.le_refl _) _
  have k0 := alloc_new w #[.int .u16 op, .slice a n cap] 46
  generalize w.alloc (.cells #[.int .u16 op, .slice a n cap] 46) = W at *
  have l0 := (Array.getElem?_eq_some_iff.1 k0).1
  rename_i K0 hK0
  have KEY : ∀ (Bx G : Nat) (a5 : Option Addr) (m5 c5 : Nat) (X : World), Below W.heap.size W X → X.heap[Bx]? = some (.cells #[.int .u16 io, .int .u32 it, .int .u32 ir, .slice a5 m5 c5] 43 (0, 0)) → ArgsV X a5 il → il.length = m5 → W.heap.size ≤ Bx →
      K0 { tmps := #[.agg #[.int .u16 op, .slice a n cap], .int .u32 bnd, .pointer (some ⟨w.heap.size, 0, none⟩), undef, .bool false, .pointer (some ⟨Bx, 0, none⟩), .int .i64 ie, undef, undef, .tuple #[.agg #[.int .u16 io, .int .u32 it, .int .u32 ir, .slice a5 m5 c5], .int .i64 ie], .pointer (some ⟨w.heap.size, 0, none⟩), .int .u16 op, .pointer (some ⟨w.heap.size, 1, none⟩), .slice a n cap, .slice (some ⟨G, 0, none⟩) n n, .agg #[.int .u16 op, .slice (some ⟨G, 0, none⟩) n n], .int .u32 bnd, .tuple #[.agg #[.int .u16 io, .int .u32 it, .int .u32 ir, .slice a5 m5 c5], .int .i64 ie], .agg #[.int .u16 io, .int .u32 it, .int .u32 ir, .slice a5 m5 c5], .int .i64 ie, undef, undef, undef, undef, undef, undef, undef, undef, undef, undef, undef, undef, undef, undef, undef, undef, undef, undef, undef, undef, undef, undef, undef, undef, undef, undef, undef, undef, undef, undef, undef, undef, undef, undef], defers := [] } X := by
    intro Bx G a5 m5 c5 X hbX kX hA hm hBx
    refine hK0 _ _ ?_
    have lX := (Array.getElem?_eq_some_iff.1 kX).1
    have kR := (hbX.block _ l0).trans k0
    have hBw := hB0.trans (hbX.mono hB0.size)
    obtain ⟨x0, x1, x2, x3⟩ := four_cells kX
    clear hK0 hCw hIn
    by_cases hie : ie = 0
    · subst hie
      obtain ⟨b1, b2, b3⟩ := HBK.out rfl
      subst b1
      have hC1 := hCi X a5 m5 c5 hA hm
      clear hNi HNO HBK
      gi_wp2_with fail
      refine ⟨trivial, rfl, (callsIn_wide.2 hC1).mono ?_⟩
      rintro e w1 ⟨g1, rfl, hg1, hA1, hb1⟩
      have hC2 := hRw w1 g1 m5 m5 hA1 hm
      rw [b2, b3, show rawO (io, it, ir, il) bnd = io by unfold rawO; rw [if_pos b2]] at hC2
      clear hC1 hCi hRw x0 x1 x2 x3 b2 b3 hA1
      gi_wp2_with fail
      refine ⟨trivial, rfl, (callsIn_wide.2 hC2).mono ?_⟩
      rintro e w2 ⟨hb2, a2, m2, c2, rfl, hm2, hown2⟩
      obtain rfl : n = m2 := by rw [← hm2, HL.out]
      have hb02 := hb1.trans (hb2.mono hb1.size)
      have hb3 : Below X.heap.size X (w2.alloc (.cells #[.int .u16 io, .slice a2 n c2] 46)) := hb02.alloc hb02.size _
      have hB3 := hBw.trans (hb3.mono hBw.size)
      obtain ⟨y0, y1, _⟩ := cell_of_two (alloc_new w2 #[.int .u16 io, .slice a2 n c2] 46)
      obtain ⟨z0, z1, _⟩ := cell_of_two ((hb3.block _ (by have := hbX.size; omega)).trans kR)
      have hC3 := hWd _ a2 a c2 ((View.ofOwn hown2 hm2).below ((Below.refl _ w2).alloc (Nat.le_refl _) _)) (HV.out.below hB3)
      have HB3 : Hid _ := hB3
      clear hC2 hb1 hb2 hb02 hb3 hB3 hown2 hWd kX kR hA hBw hbX
      gi_wp2_with fail
      refine ⟨trivial, rfl, (callsIn_wide.2 hC3).mono ?_⟩
      rintro e w4 ⟨rfl, q, hq⟩
      have hB4 : Below w.heap.size w w4 := by rw [hq]; exact bel_drewN HB3.out q
      clear hC3 hq HB3 y0 y1 z0 z1
      gi_wp2_with fail
      refine ⟨trivial, rfl, (callsIn_wide.2 (hAw _)).mono ?_⟩
      rintro e w5 ⟨rfl, hb5⟩
      have HB5 : Hid _ := hB4.trans (hb5.mono hB4.size)
      clear hB4 hb5
      gi_wp2_with fail
      exact ⟨.bool true, by simp [results, Try.results6, go_sem], rfl, HB5.out⟩
    · have hno := HNO.out hie
      have hC1 := hNi X a5 m5 c5 hA hm
      rw [show decide ((io, it, ir, il) = ((0, 0, 0, []) : InstT)) = true by rw [hno]; exact decide_eq_true rfl] at hC1
      have hieb : (ie == 0) = false := by simpa using hie
      clear hNi HNO HBK hCi hRw hno hie
      gi_wp2_with fail
      refine ⟨trivial, rfl, (callsIn_wide.2 hC1).mono ?_⟩
      rintro e w1 ⟨rfl, hb1⟩
      have hB1 := hBw.trans (hb1.mono hBw.size)
      clear hC1 hb1 x0 x1 x2 x3
      gi_wp2_with fail
      refine ⟨trivial, rfl, (callsIn_wide.2 (hAw _)).mono ?_⟩
      rintro e w5 ⟨rfl, hb5⟩
      have HB5 : Hid _ := hB1.trans (hb5.mono hB1.size)
      clear hB1 hb5
      gi_wp2_with fail
      exact ⟨.bool true, by simp [results, Try.results6, go_sem], rfl, HB5.out⟩
  clear hK0
  have hC0 : Below W.heap.size W W.drew := below_drew W
  have L0 : Hid (∀ w', Below W.heap.size W w' → w'.cell? ⟨w.heap.size, 0, none⟩ = some (.int .u16 op)) := fun w' hC => (one_block ((hC.block _ l0).trans k0)).1 0
  have L1 : Hid (∀ w', Below W.heap.size W w' → w'.cell? ⟨w.heap.size, 1, none⟩ = some (.slice a n cap)) := fun w' hC => (one_block ((hC.block _ l0).trans k0)).1 1
  refine wpIn_normal (wpIn_region_any hmix (wpAnyC_sound (C := Below W.heap.size W) _ _ _ _ ?_))
  change wpAnyC _ _ _ _ _ _ _ _ _ _ (World.drew _)
  refine wpAnyC_takeD (i := 0) (some 10) (v := .pointer (some ⟨w.heap.size, 0, none⟩)) (fun _ => trivial) (by kernel_rfl) rfl rfl (by kernel_rfl) (by kernel_rfl) (by kernel_rfl) (fun _ _ _ h => by cases h.1) hC0 (Or.inl ⟨by kernel_rfl, fun w' hC => by clear hC; go_simp⟩) ?_
  simp only [Act.put, List.setIfInBounds_toArray, List.set_cons_succ, List.set_cons_zero]
  refine wpAnyC_takeD (i := 1) (some 11) (v := .int .u16 op) (fun _ => trivial) (by kernel_rfl) rfl rfl (by kernel_rfl) (by kernel_rfl) (by kernel_rfl) (fun _ _ _ h => by cases h.1) hC0 (Or.inl ⟨by kernel_rfl, fun w' hC => by have e := L0.out w' hC; clear hC; go_simp⟩) ?_
  simp only [Act.put, List.setIfInBounds_toArray, List.set_cons_succ, List.set_cons_zero]
  refine wpAnyC_takeD (i := 2) (some 12) (v := .pointer (some ⟨w.heap.size, 1, none⟩)) (fun _ => trivial) (by kernel_rfl) rfl rfl (by kernel_rfl) (by kernel_rfl) (by kernel_rfl) (fun _ _ _ h => by cases h.1) hC0 (Or.inl ⟨by kernel_rfl, fun w' hC => by clear hC; go_simp⟩) ?_
  simp only [Act.put, List.setIfInBounds_toArray, List.set_cons_succ, List.set_cons_zero]
  refine wpAnyC_takeD (i := 3) (some 13) (v := .slice a n cap) (fun _ => trivial) (by kernel_rfl) rfl rfl (by kernel_rfl) (by kernel_rfl) (by kernel_rfl) (fun _ _ _ h => by cases h.1) hC0 (Or.inl ⟨by kernel_rfl, fun w' hC => by have e := L1.out w' hC; clear hC; go_simp⟩) ?_
  simp only [Act.put, List.setIfInBounds_toArray, List.set_cons_succ, List.set_cons_zero]
  refine wpAnyC_takeD (i := 6) (some 16) (v := .int .u32 bnd) (fun _ => trivial) (by kernel_rfl) rfl rfl (by kernel_rfl) (by kernel_rfl) (by kernel_rfl) (fun _ _ _ h => by cases h.1) hC0 (Or.inl ⟨by kernel_rfl, fun w' hC => by clear hC; go_simp⟩) ?_
  simp only [Act.put, List.setIfInBounds_toArray, List.set_cons_succ, List.set_cons_zero]
  refine wpAnyC_ready (rs := [4, 11]) (by kernel_rfl) (by simp) ?_
  refine AllC.cons rfl (fun K hK => ?_) (AllC.cons rfl (fun K hK => ?_) AllC.nil)
  · go_simp
    refine ⟨trivial, rfl, (callsIn_wide.2 (hCw _ (hB0.trans (hC0.mono hB0.size)))).mono ?_⟩
    rintro e w1 ⟨rfl, hownw1, hbw1⟩
    dsimp only
    have hCw1 : Below W.heap.size W w1 := hC0.trans (hbw1.mono hC0.size)
    have hVw1 := View.ofOwn hownw1 HL.out
    refine hK _ _ hCw1 ?_
    clear hK K hownw1
    refine wpAnyC_takeD (i := 5) (some 15) (v := .agg #[.int .u16 op, .slice (some ⟨W.heap.size, 0, none⟩) n n]) (fun _ => trivial) (by kernel_rfl) rfl rfl (by kernel_rfl) (by kernel_rfl) (by kernel_rfl) (fun _ _ _ h => by cases h.1) hCw1 (Or.inl ⟨by kernel_rfl, fun w' hC => by clear hC; go_simp⟩) ?_
    simp only [Act.put, List.setIfInBounds_toArray, List.set_cons_succ, List.set_cons_zero]
    refine wpAnyC_ready (rs := [7, 11]) (by kernel_rfl) (by simp) ?_
    refine AllC.cons rfl (fun K hK => ?_) (AllC.cons rfl (fun K hK => ?_) AllC.nil)
    · go_simp
      refine ⟨trivial, rfl, (callsIn_wide.2 (hIn _ _ hVw1)).mono ?_⟩
      rintro e w2 ⟨hbw2, a5, m5, c5, rfl, hm5, hown5⟩
      dsimp only
      have hCw2 : Below W.heap.size W w2 := hCw1.trans (hbw2.mono hCw1.size)
      have hAw2 := argsV_own hown5 hm5
      refine hK _ _ hCw2 ?_
      clear hK K
      refine wpAnyC_takeD (i := 8) (some 9) (v := .tuple #[.agg #[.int .u16 io, .int .u32 it, .int .u32 ir, .slice a5 m5 c5], .int .i64 ie]) (fun _ => trivial) (by kernel_rfl) rfl rfl (by kernel_rfl) (by kernel_rfl) (by kernel_rfl) (fun _ _ _ h => by cases h.1) hCw2 (Or.inl ⟨by kernel_rfl, fun w' hC => by clear hC; go_simp⟩) ?_
      simp only [Act.put, List.setIfInBounds_toArray, List.set_cons_succ, List.set_cons_zero]
      refine wpAnyC_takeD (i := 9) (some 18) (v := .agg #[.int .u16 io, .int .u32 it, .int .u32 ir, .slice a5 m5 c5]) (fun _ => trivial) (by kernel_rfl) rfl rfl (by kernel_rfl) (by kernel_rfl) (by kernel_rfl) (fun _ _ _ h => by cases h.1) hCw2 (Or.inl ⟨by kernel_rfl, fun w' hC => by clear hC; go_simp⟩) ?_
      simp only [Act.put, List.setIfInBounds_toArray, List.set_cons_succ, List.set_cons_zero]
      refine wpAnyC_takeD (i := 10) (some 19) (v := .int .i64 ie) (fun _ => trivial) (by kernel_rfl) rfl rfl (by kernel_rfl) (by kernel_rfl) (by kernel_rfl) (fun _ _ _ h => by cases h.1) hCw2 (Or.inl ⟨by kernel_rfl, fun w' hC => by clear hC; go_simp⟩) ?_
      simp only [Act.put, List.setIfInBounds_toArray, List.set_cons_succ, List.set_cons_zero]
      refine wpAnyC_ready (rs := [11]) (by kernel_rfl) (by simp) ?_
      refine AllC.cons rfl (fun K hK => ?_) AllC.nil
      go_simp
      have hC3 : Below W.heap.size W (w2.alloc (.cells #[.int .u16 0, .int .u32 0, .int .u32 0, .slice none 0 0] 43)) := hCw2.alloc hCw2.size _
      refine hK _ _ hC3 ?_
      clear hK K
      refine wpAnyC_ready (rs := [12]) (by kernel_rfl) (by simp) ?_
      refine AllC.cons rfl (fun K hK => ?_) AllC.nil
      go_simp
      have hC4 : Below W.heap.size W (w2.alloc (.cells #[.int .u16 io, .int .u32 it, .int .u32 ir, .slice a5 m5 c5] 43)) := hCw2.alloc hCw2.size _
      refine hK _ _ hC4 ?_
      clear hK K
      refine wpAnyC_takeD (i := 13) (some 6) (v := .int .i64 ie) (fun _ => trivial) (by kernel_rfl) rfl rfl (by kernel_rfl) (by kernel_rfl) (by kernel_rfl) (fun _ _ _ h => by cases h.1) hC4 (Or.inl ⟨by kernel_rfl, fun w' hC => by clear hC; go_simp⟩) ?_
      simp only [Act.put, List.setIfInBounds_toArray, List.set_cons_succ, List.set_cons_zero]
      exact wpAnyC_done (by kernel_rfl) ⟨rfl, KEY w2.heap.size W.heap.size a5 m5 c5 _ hC4 (alloc_new w2 _ _) (hAw2.below ((Below.refl _ w2).alloc (Nat.le_refl _) _)) hm5 hCw2.size⟩ _
    · go_simp
      have hC3 : Below W.heap.size W (w1.alloc (.cells #[.int .u16 0, .int .u32 0, .int .u32 0, .slice none 0 0] 43)) := hCw1.alloc hCw1.size _
      refine hK _ _ hC3 ?_
      clear hK K
      have kZ := alloc_new w1 #[.int .u16 0, .int .u32 0, .int .u32 0, .slice none 0 0] 43
      have hV3 := hVw1.below ((Below.refl _ w1).alloc (Nat.le_refl _) (.cells #[.int .u16 0, .int .u32 0, .int .u32 0, .slice none 0 0] 43))
      have hBB : W.heap.size ≤ w1.heap.size := hCw1.size
      have lB : w1.heap.size < (w1.alloc (.cells #[.int .u16 0, .int .u32 0, .int .u32 0, .slice none 0 0] 43)).heap.size := by simp
      generalize w1.alloc (.cells #[.int .u16 0, .int .u32 0, .int .u32 0, .slice none 0 0] 43) = W3 at *
      refine wpAnyC_ready (rs := [7]) (by kernel_rfl) (by simp) ?_
      refine AllC.cons rfl (fun K hK => ?_) AllC.nil
      go_simp
      refine ⟨trivial, rfl, (callsIn_wide.2 (hIn _ _ hV3)).mono ?_⟩
      rintro e w2 ⟨hbw2, a5, m5, c5, rfl, hm5, hown5⟩
      dsimp only
      have hCw2 : Below W.heap.size W w2 := hC3.trans (hbw2.mono hC3.size)
      have hAw2 := argsV_own hown5 hm5
      refine hK _ _ hCw2 ?_
      clear hK K
      refine wpAnyC_takeD (i := 8) (some 9) (v := .tuple #[.agg #[.int .u16 io, .int .u32 it, .int .u32 ir, .slice a5 m5 c5], .int .i64 ie]) (fun _ => trivial) (by kernel_rfl) rfl rfl (by kernel_rfl) (by kernel_rfl) (by kernel_rfl) (fun _ _ _ h => by cases h.1) hCw2 (Or.inl ⟨by kernel_rfl, fun w' hC => by clear hC; go_simp⟩) ?_
      simp only [Act.put, List.setIfInBounds_toArray, List.set_cons_succ, List.set_cons_zero]
      refine wpAnyC_takeD (i := 9) (some 18) (v := .agg #[.int .u16 io, .int .u32 it, .int .u32 ir, .slice a5 m5 c5]) (fun _ => trivial) (by kernel_rfl) rfl rfl (by kernel_rfl) (by kernel_rfl) (by kernel_rfl) (fun _ _ _ h => by cases h.1) hCw2 (Or.inl ⟨by kernel_rfl, fun w' hC => by clear hC; go_simp⟩) ?_
      simp only [Act.put, List.setIfInBounds_toArray, List.set_cons_succ, List.set_cons_zero]
      refine wpAnyC_takeD (i := 10) (some 19) (v := .int .i64 ie) (fun _ => trivial) (by kernel_rfl) rfl rfl (by kernel_rfl) (by kernel_rfl) (by kernel_rfl) (fun _ _ _ h => by cases h.1) hCw2 (Or.inl ⟨by kernel_rfl, fun w' hC => by clear hC; go_simp⟩) ?_
      simp only [Act.put, List.setIfInBounds_toArray, List.set_cons_succ, List.set_cons_zero]
      have kZ2 := (hbw2.block _ lB).trans kZ
      have hA9 : ArgsV ((((w2.setCell ⟨w1.heap.size, 0, none⟩ (.int .u16 io)).setCell ⟨w1.heap.size, 1, none⟩ (.int .u32 it)).setCell ⟨w1.heap.size, 2, none⟩ (.int .u32 ir)).setCell ⟨w1.heap.size, 3, none⟩ (.slice a5 m5 c5)) a5 il := argsV_own (ownFar (ownFar (ownFar (ownFar hown5 lB _ _) lB _ _) lB _ _) lB _ _) hm5
      refine wpAnyC_ready (rs := [12]) (by kernel_rfl) (by simp) ?_
      refine AllC.cons rfl (fun K hK => ?_) AllC.nil
      obtain ⟨zc, zf⟩ := one_block kZ2
      have z0 := zc 0
      have y0 := zf 0
      have z1 := zc 1
      have y1 := zf 1
      have z2 := zc 2
      have y2 := zf 2
      have z3 := zc 3
      have y3 := zf 3
      go_simp
      have hC9 : Below W.heap.size W ((((w2.setCell ⟨w1.heap.size, 0, none⟩ (.int .u16 io)).setCell ⟨w1.heap.size, 1, none⟩ (.int .u32 it)).setCell ⟨w1.heap.size, 2, none⟩ (.int .u32 ir)).setCell ⟨w1.heap.size, 3, none⟩ (.slice a5 m5 c5)) := (((hCw2.setCell hBB _).setCell hBB _).setCell hBB _).setCell hBB _
      refine hK _ _ hC9 ?_
      clear hK K
      refine wpAnyC_takeD (i := 13) (some 6) (v := .int .i64 ie) (fun _ => trivial) (by kernel_rfl) rfl rfl (by kernel_rfl) (by kernel_rfl) (by kernel_rfl) (fun _ _ _ h => by cases h.1) hC9 (Or.inl ⟨by kernel_rfl, fun w' hC => by clear hC; go_simp⟩) ?_
      simp only [Act.put, List.setIfInBounds_toArray, List.set_cons_succ, List.set_cons_zero]
      exact wpAnyC_done (by kernel_rfl) ⟨rfl, KEY w1.heap.size W.heap.size a5 m5 c5 _ hC9 (inst_put kZ2 _ _ _ _) hA9 hm5 hBB⟩ _
  · go_simp
    have hC3 : Below W.heap.size W (W.alloc (.cells #[.int .u16 0, .int .u32 0, .int .u32 0, .slice none 0 0] 43)).drew := ((Below.refl _ W).alloc (Nat.le_refl _) _).drew
    refine hK _ _ hC3 ?_
    clear hK K
    have kZ : (W.alloc (.cells #[.int .u16 0, .int .u32 0, .int .u32 0, .slice none 0 0] 43)).drew.heap[W.heap.size]? = some (.cells #[.int .u16 0, .int .u32 0, .int .u32 0, .slice none 0 0] 43 (0, 0)) := alloc_new W _ _
    have lB : W.heap.size < (W.alloc (.cells #[.int .u16 0, .int .u32 0, .int .u32 0, .slice none 0 0] 43)).drew.heap.size := by show _ < (W.alloc _).heap.size; simp
    have hBB : W.heap.size ≤ W.heap.size := Nat.le_refl _
    generalize (W.alloc (.cells #[.int .u16 0, .int .u32 0, .int .u32 0, .slice none 0 0] 43)).drew = W3 at *
    refine wpAnyC_ready (rs := [4]) (by kernel_rfl) (by simp) ?_
    refine AllC.cons rfl (fun K hK => ?_) AllC.nil
    go_simp
    refine ⟨trivial, rfl, (callsIn_wide.2 (hCw _ (hB0.trans (hC3.mono hB0.size)))).mono ?_⟩
    rintro e w1 ⟨rfl, hown1, hb1⟩
    dsimp only
    have hCw1 : Below W.heap.size W w1 := hC3.trans (hb1.mono hC3.size)
    have hVw1 := View.ofOwn hown1 HL.out
    refine hK _ _ hCw1 ?_
    clear hK K hown1
    refine wpAnyC_takeD (i := 5) (some 15) (v := .agg #[.int .u16 op, .slice (some ⟨W3.heap.size, 0, none⟩) n n]) (fun _ => trivial) (by kernel_rfl) rfl rfl (by kernel_rfl) (by kernel_rfl) (by kernel_rfl) (fun _ _ _ h => by cases h.1) hCw1 (Or.inl ⟨by kernel_rfl, fun w' hC => by clear hC; go_simp⟩) ?_
    simp only [Act.put, List.setIfInBounds_toArray, List.set_cons_succ, List.set_cons_zero]
    refine wpAnyC_ready (rs := [7]) (by kernel_rfl) (by simp) ?_
    refine AllC.cons rfl (fun K hK => ?_) AllC.nil
    go_simp
    refine ⟨trivial, rfl, (callsIn_wide.2 (hIn _ _ hVw1)).mono ?_⟩
    rintro e w2 ⟨hb2, a5, m5, c5, rfl, hm5, hown5⟩
    dsimp only
    have hCw2 : Below W.heap.size W w2 := hCw1.trans (hb2.mono hCw1.size)
    refine hK _ _ hCw2 ?_
    clear hK K
    refine wpAnyC_takeD (i := 8) (some 9) (v := .tuple #[.agg #[.int .u16 io, .int .u32 it, .int .u32 ir, .slice a5 m5 c5], .int .i64 ie]) (fun _ => trivial) (by kernel_rfl) rfl rfl (by kernel_rfl) (by kernel_rfl) (by kernel_rfl) (fun _ _ _ h => by cases h.1) hCw2 (Or.inl ⟨by kernel_rfl, fun w' hC => by clear hC; go_simp⟩) ?_
    simp only [Act.put, List.setIfInBounds_toArray, List.set_cons_succ, List.set_cons_zero]
    refine wpAnyC_takeD (i := 9) (some 18) (v := .agg #[.int .u16 io, .int .u32 it, .int .u32 ir, .slice a5 m5 c5]) (fun _ => trivial) (by kernel_rfl) rfl rfl (by kernel_rfl) (by kernel_rfl) (by kernel_rfl) (fun _ _ _ h => by cases h.1) hCw2 (Or.inl ⟨by kernel_rfl, fun w' hC => by clear hC; go_simp⟩) ?_
    simp only [Act.put, List.setIfInBounds_toArray, List.set_cons_succ, List.set_cons_zero]
    refine wpAnyC_takeD (i := 10) (some 19) (v := .int .i64 ie) (fun _ => trivial) (by kernel_rfl) rfl rfl (by kernel_rfl) (by kernel_rfl) (by kernel_rfl) (fun _ _ _ h => by cases h.1) hCw2 (Or.inl ⟨by kernel_rfl, fun w' hC => by clear hC; go_simp⟩) ?_
    simp only [Act.put, List.setIfInBounds_toArray, List.set_cons_succ, List.set_cons_zero]
    have lB1 : W.heap.size < w1.heap.size := Nat.lt_of_lt_of_le lB hb1.size
    have kZ2 := (hb2.block _ lB1).trans ((hb1.block _ lB).trans kZ)
    have hA9 : ArgsV ((((w2.setCell ⟨W.heap.size, 0, none⟩ (.int .u16 io)).setCell ⟨W.heap.size, 1, none⟩ (.int .u32 it)).setCell ⟨W.heap.size, 2, none⟩ (.int .u32 ir)).setCell ⟨W.heap.size, 3, none⟩ (.slice a5 m5 c5)) a5 il := argsV_own (ownFar (ownFar (ownFar (ownFar hown5 lB1 _ _) lB1 _ _) lB1 _ _) lB1 _ _) hm5
    refine wpAnyC_ready (rs := [12]) (by kernel_rfl) (by simp) ?_
    refine AllC.cons rfl (fun K hK => ?_) AllC.nil
    obtain ⟨zc, zf⟩ := one_block kZ2
    have z0 := zc 0
    have y0 := zf 0
    have z1 := zc 1
    have y1 := zf 1
    have z2 := zc 2
    have y2 := zf 2
    have z3 := zc 3
    have y3 := zf 3
    go_simp
    have hC9 : Below W.heap.size W ((((w2.setCell ⟨W.heap.size, 0, none⟩ (.int .u16 io)).setCell ⟨W.heap.size, 1, none⟩ (.int .u32 it)).setCell ⟨W.heap.size, 2, none⟩ (.int .u32 ir)).setCell ⟨W.heap.size, 3, none⟩ (.slice a5 m5 c5)) := (((hCw2.setCell hBB _).setCell hBB _).setCell hBB _).setCell hBB _
    refine hK _ _ hC9 ?_
    clear hK K
    refine wpAnyC_takeD (i := 13) (some 6) (v := .int .i64 ie) (fun _ => trivial) (by kernel_rfl) rfl rfl (by kernel_rfl) (by kernel_rfl) (by kernel_rfl) (fun _ _ _ h => by cases h.1) hC9 (Or.inl ⟨by kernel_rfl, fun w' hC => by clear hC; go_simp⟩) ?_
    simp only [Act.put, List.setIfInBounds_toArray, List.set_cons_succ, List.set_cons_zero]
    exact wpAnyC_done (by kernel_rfl) ⟨rfl, KEY W.heap.size W3.heap.size a5 m5 c5 _ hC9 (inst_put kZ2 _ _ _ _) hA9 hm5 hBB⟩ _

end Go.Proofs.Ytpggcpnjcalfaab
