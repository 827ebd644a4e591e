/-
  Texts laid together in one: Law04One, Law04Awake, LawCodeUnlike.
-/
import Derived.WalkKit
import Derived.OwnWalkIn
import Derived.TacticsInMore
import Derived.WalkSpells
import Derived.Test.YtpggcpnjcalfaabB12
import Derived.Test.YtpggcpnjcalfaabB18
import Derived.Test.YtpggcpnjcalfaabB10
import Derived.WalkMore
import Derived.Test.YtpggcpnjcalfaabB01
import Derived.Test.YtpggcpnjcalfaabB02
import Derived.Test.YtpggcpnjcalfaabB11
/-
  one of the laws of layer 4 answers a module of one instruction, in new memory.
-/
namespace Go.Proofs.Ytpggcpnjcalfaab
open Go.RowKit Go.Shelf
attribute [local go_sem] Oper.semAt_some
set_option linter.unusedVariables false
set_option linter.unusedSimpArgs false

/-- That instruction. -/
def oneI : InstT := (128, 1, 2, [(1, 3, ⟨#[]⟩), (1, 4, ⟨#[]⟩)])

theorem kitId_any (n : Int) (w : World) : Calls Try.prog 49 #[.int .u32 n] w fun e w' => e = .returned (.agg #[.int .u8 1, .int .u32 n, .string ⟨#[]⟩]) ∧ Below w.heap.size w w' := by
  go_enter Try.func49, Try.ntmps49
  go_wp2
  refine bodyPost_ret (v := .agg #[.int .u8 1, .int .u32 n, .string ⟨#[]⟩]) ?_ rfl ⟨rfl, ?_⟩
  · simp [results, Try.results49, go_sem]
  · exact (Below.refl _ _).alloc (Nat.le_refl _) _

set_option maxRecDepth 100000 in
set_option maxHeartbeats 4000000 in
theorem one_any (w : World) : Calls Try.prog 31 #[] w fun e w' => ∃ g c, e = .returned (modV 3 9 (some ⟨g, 0, none⟩) 1 c) ∧ InstsV w' (some ⟨g, 0, none⟩) [oneI] ∧ Below w.heap.size w w' := by
  have h3 := fun w => kitId_any 3 w
  have h4 := fun w => kitId_any 4 w
  obtain ⟨i0, hi, hz0, hz1, hz2⟩ := info_parts CopyModule.info
  have hmix : Try.prog.follows .mixedOrders = true := by kernel_rfl
  unfold modV
  refine (callsIn_wide (n := 0)).1 ?_
  refine callsIn_of_wp_marks Try.func31 rfl trivial ?_ rfl
  simp only [Try.ntmps31, List.size_toArray, List.length_cons, List.length_nil, Nat.reduceAdd, Nat.reduceSub, Array.replicate_succ, Array.replicate_zero, List.push_toArray, List.append_toArray, List.nil_append, List.cons_append]
  gi_wp2_with fail
  have hB0 : Below w.heap.size w ((w.alloc (.cells #[.int .u32 0, .int .u32 0, .slice none 0 0] 25)).alloc (.cells #[.int .u32 3, .int .u32 9, .slice none 0 0] 25)) := ((Below.refl _ w).alloc (Nat.le_refl _) _).alloc (by simp) _
  have kR : ((w.alloc (.cells #[.int .u32 0, .int .u32 0, .slice none 0 0] 25)).alloc (.cells #[.int .u32 3, .int .u32 9, .slice none 0 0] 25)).heap[w.heap.size]? = some (.cells #[.int .u32 0, .int .u32 0, .slice none 0 0] 25 (0, 0)) := (Below.heap_alloc _ _ _ (by simp)).trans (alloc_new w _ _)
  have kM : ((w.alloc (.cells #[.int .u32 0, .int .u32 0, .slice none 0 0] 25)).alloc (.cells #[.int .u32 3, .int .u32 9, .slice none 0 0] 25)).heap[w.heap.size + 1]? = some (.cells #[.int .u32 3, .int .u32 9, .slice none 0 0] 25 (0, 0)) := by simpa using alloc_new (w.alloc (.cells #[.int .u32 0, .int .u32 0, .slice none 0 0] 25)) #[.int .u32 3, .int .u32 9, .slice none 0 0] 25
  generalize (w.alloc (.cells #[.int .u32 0, .int .u32 0, .slice none 0 0] 25)).alloc (.cells #[.int .u32 3, .int .u32 9, .slice none 0 0] 25) = W at *
  have lM := (Array.getElem?_eq_some_iff.1 kM).1
  have hC0 : Below W.heap.size W W.drew := below_drew W
  have L2 : Hid (∀ w', Below W.heap.size W w' → w'.cell? ⟨w.heap.size + 1, 2, none⟩ = some (.slice none 0 0)) := fun w' hC => (one_block ((hC.block _ lM).trans kM)).1 2
  refine wpIn_normal (wpIn_region_any hmix (wpAnyE_sound (C := Below W.heap.size W) (E := fun i => i == 9) _ _ _ _ ?_))
  change wpAnyE _ _ _ _ _ _ _ _ _ _ _ (World.drew _)
  refine wpAnyE_takeD (i := 0) (some 3) (v := .pointer (some ⟨w.heap.size + 1, 2, none⟩)) (fun _ => trivial) (by kernel_rfl) rfl rfl (by kernel_rfl) (by kernel_rfl) (by kernel_rfl) (by kernel_rfl) (fun _ _ _ h => by cases h.1) hC0 (Or.inl ⟨by kernel_rfl, fun w' hC => by clear hC; go_simp⟩) ?_
  simp only [Act.put, List.setIfInBounds_toArray, List.set_cons_succ, List.set_cons_zero]
  refine wpAnyE_takeD (i := 1) (some 4) (v := .slice none 0 0) (fun _ => trivial) (by kernel_rfl) rfl rfl (by kernel_rfl) (by kernel_rfl) (by kernel_rfl) (by kernel_rfl) (fun _ _ _ h => by cases h.1) hC0 (Or.inl ⟨by kernel_rfl, fun w' hC => by have e := L2.out w' hC; clear hC; go_simp⟩) ?_
  simp only [Act.put, List.setIfInBounds_toArray, List.set_cons_succ, List.set_cons_zero]
  refine wpAnyE_ready (rs := [2]) (by kernel_rfl) (by simp) ?_
  refine AllE.cons rfl (fun K hK => ?_) AllE.nil
  go_simp
  refine ⟨trivial, rfl, (callsIn_wide.2 (h3 _)).mono ?_⟩
  rintro e w3 ⟨rfl, hb3⟩
  dsimp only
  have hC3 : Below W.heap.size W w3 := hC0.trans hb3
  refine hK _ _ (.inr hC3) ?_
  clear hK K hb3
  refine wpAnyE_ready (rs := [3]) (by kernel_rfl) (by simp) ?_
  refine AllE.cons rfl (fun K hK => ?_) AllE.nil
  go_simp
  refine ⟨trivial, rfl, (callsIn_wide.2 (h4 _)).mono ?_⟩
  rintro e w4 ⟨rfl, hb4⟩
  dsimp only
  have hC4 : Below W.heap.size W w4 := hC3.trans (hb4.mono hC3.size)
  refine hK _ _ (.inr hC4) ?_
  clear hK K hb4
  refine wpAnyE_ready (rs := [4]) (by kernel_rfl) (by simp) ?_
  refine AllE.cons rfl (fun K hK => ?_) AllE.nil
  go_simp
  have hC5 : Below W.heap.size W (w4.alloc (.cells #[.int .u8 1, .int .u32 3, .string ⟨#[]⟩, .int .u8 1, .int .u32 4, .string ⟨#[]⟩] 90)) := hC4.alloc hC4.size _
  refine hK _ _ (.inr hC5) ?_
  clear hK K
  refine wpAnyE_ready (rs := [5]) (by kernel_rfl) (by simp) ?_
  refine AllE.cons rfl (fun K hK => ?_) AllE.nil
  go_simp
  refine hK _ _ (.inr hC5) ?_
  clear hK K
  refine wpAnyE_ready (rs := [6]) (by kernel_rfl) (by simp) ?_
  refine AllE.cons rfl (fun K hK => ?_) AllE.nil
  go_simp
  have hC6 : Below W.heap.size W ((w4.alloc (.cells #[.int .u8 1, .int .u32 3, .string ⟨#[]⟩, .int .u8 1, .int .u32 4, .string ⟨#[]⟩] 90)).alloc (.cells #[.int .u16 128, .int .u32 1, .int .u32 2, .slice (some ⟨w4.heap.size, 0, none⟩) 2 2] 43)) := hC5.alloc hC5.size _
  refine hK _ _ (.inr hC6) ?_
  clear hK K
  refine wpAnyE_ready (rs := [7]) (by kernel_rfl) (by simp) ?_
  refine AllE.cons rfl (fun K hK => ?_) AllE.nil
  have hA : ArgsV ((w4.alloc (.cells #[.int .u8 1, .int .u32 3, .string ⟨#[]⟩, .int .u8 1, .int .u32 4, .string ⟨#[]⟩] 90)).alloc (.cells #[.int .u16 128, .int .u32 1, .int .u32 2, .slice (some ⟨w4.heap.size, 0, none⟩) 2 2] 43)) (some ⟨w4.heap.size, 0, none⟩) [(1, 3, ⟨#[]⟩), (1, 4, ⟨#[]⟩)] := by
    have kA := (Below.heap_alloc (w4.alloc (.cells #[.int .u8 1, .int .u32 3, .string ⟨#[]⟩, .int .u8 1, .int .u32 4, .string ⟨#[]⟩] 90)) (.cells #[.int .u16 128, .int .u32 1, .int .u32 2, .slice (some ⟨w4.heap.size, 0, none⟩) 2 2] 43) w4.heap.size (by simp)).trans (alloc_new w4 #[.int .u8 1, .int .u32 3, .string ⟨#[]⟩, .int .u8 1, .int .u32 4, .string ⟨#[]⟩] 90)
    obtain ⟨hc, _⟩ := one_block kA
    intro j hj
    refine ⟨w4.heap.size, 0, rfl, by simp; omega, ?_⟩
    match j, hj with
    | 0, _ => exact ⟨hc 0, hc 1, hc 2⟩
    | 1, _ => exact ⟨hc 3, hc 4, hc 5⟩
  have sW : W.heap.size ≤ w4.heap.size := hC4.size
  refine stepAny_append _ (fun _ => trivial) rfl (.tmp 4) (.tmp 9) 23 rfl W.heap.size 43 i0 (.agg #[.int .u16 0, .int .u32 0, .int .u32 0, .slice none 0 0]) 4 40 Try.underlying23 hi hz0 hz1 hz2 rfl (by decide) (.slice none 0 0) 0 [] rfl (World.ownsRow_nil _ _ _ _) ⟨w4.heap.size + 1, 0, none⟩ 1 1 [.int .u16 128, .int .u32 1, .int .u32 2, .slice (some ⟨w4.heap.size, 0, none⟩) 2 2] rfl rfl (World.news_of_block (cs := #[.int .u16 128, .int .u32 1, .int .u32 2, .slice (some ⟨w4.heap.size, 0, none⟩) 2 2]) (t := 43) (fr := (0, 0)) (by simpa using alloc_new (w4.alloc (.cells #[.int .u8 1, .int .u32 3, .string ⟨#[]⟩, .int .u8 1, .int .u32 4, .string ⟨#[]⟩] 90)) #[.int .u16 128, .int .u32 1, .int .u32 2, .slice (some ⟨w4.heap.size, 0, none⟩) 2 2] 43)) (by intro u hu; simp at hu; rcases hu with rfl | rfl | rfl | rfl <;> rfl) (by decide) (by unfold maxLen; decide) (by decide) (by simp; omega) ?_
  intro g7 cap7 w7 hown7 hgr7
  have hb7 : Below ((w4.alloc (.cells #[.int .u8 1, .int .u32 3, .string ⟨#[]⟩, .int .u8 1, .int .u32 4, .string ⟨#[]⟩] 90)).alloc (.cells #[.int .u16 128, .int .u32 1, .int .u32 2, .slice (some ⟨w4.heap.size, 0, none⟩) 2 2] 43)).heap.size ((w4.alloc (.cells #[.int .u8 1, .int .u32 3, .string ⟨#[]⟩, .int .u8 1, .int .u32 4, .string ⟨#[]⟩] 90)).alloc (.cells #[.int .u16 128, .int .u32 1, .int .u32 2, .slice (some ⟨w4.heap.size, 0, none⟩) 2 2] 43)) w7 := (Below.refl _ _).grown hgr7 (Nat.le_refl _) (fun k e => by simp [Value.ownBlock] at e)
  have hC7 : Below W.heap.size W w7 := hC6.trans (hb7.mono hC6.size)
  have hA7 := hA.below hb7
  have hV7 : InstsV w7 (some ⟨g7, 0, none⟩) [oneI] := by
    intro j hj
    obtain rfl : j = 0 := by simp at hj; exact hj
    have c0 := hown7.cellAt 0 (by decide)
    have c1 := hown7.cellAt 1 (by decide)
    have c2 := hown7.cellAt 2 (by decide)
    have c3 := hown7.cellAt 3 (by decide)
    exact ⟨g7, 0, some ⟨w4.heap.size, 0, none⟩, 2, 2, rfl, World.block_lt_of_cell? _ _ c0, c0, c1, c2, c3, rfl, hA7, Nat.le_refl _⟩
  have hg7 : W.heap.size ≤ g7 := (hown7.lt g7 rfl).1
  have HVX : Hid (∀ X : World, (∀ k, W.heap.size ≤ k → X.heap[k]? = w7.heap[k]?) → w7.heap.size ≤ X.heap.size → InstsV X (some ⟨g7, 0, none⟩) [oneI]) := by
    intro X hX hs j hj
    obtain ⟨b, off, aj, cj, nj, e, hlt, c1, c2, c3, c4, c5, c6, c7⟩ := hV7 j hj
    obtain rfl : j = 0 := by simp at hj; exact hj
    have hc0 := hown7.cellAt 3 (by decide)
    cases e
    have e4 : aj = some ⟨w4.heap.size, 0, none⟩ := by
      rw [show w7.cell? ⟨g7, 0 + 0 * 4 + 3, none⟩ = w7.cell? ⟨g7, 3, none⟩ from rfl, hc0] at c4
      simp at c4
      exact c4.1.symm
    subst e4
    have cell : ∀ b o, W.heap.size ≤ b → X.cell? ⟨b, o, none⟩ = w7.cell? ⟨b, o, none⟩ := fun b o hb => World.cell?_of_block (hX b hb)
    refine ⟨g7, 0, some ⟨w4.heap.size, 0, none⟩, cj, nj, rfl, by omega, (cell _ _ hg7).trans c1, (cell _ _ hg7).trans c2, (cell _ _ hg7).trans c3, (cell _ _ hg7).trans c4, c5, ?_, c7⟩
    intro i hi
    obtain ⟨b, off, e, hlt, a1, a2, a3⟩ := c6 i hi
    cases e
    exact ⟨_, _, rfl, by omega, (cell _ _ sW).trans a1, (cell _ _ sW).trans a2, (cell _ _ sW).trans a3⟩
  simp only [Act.put, List.setIfInBounds_toArray, List.set_cons_succ, List.set_cons_zero]
  refine hK _ _ (.inr hC7) ?_
  clear hK K hgr7 hb7 hA hA7 hown7
  refine wpAnyE_ready (rs := [8]) (by kernel_rfl) (by simp) ?_
  refine AllE.cons rfl (fun K hK => ?_) AllE.nil
  go_simp
  refine hK _ _ (.inr hC7) ?_
  clear hK K
  refine wpAnyE_ready (rs := [9]) (by kernel_rfl) (by simp) ?_
  refine AllE.cons rfl (fun K hK => ?_) AllE.nil
  have kM7 := (hC7.block _ lM).trans kM
  have kR7 := (hC7.block _ (by omega)).trans kR
  obtain ⟨m7, mf7⟩ := one_block kM7
  have y2 := m7 2
  have yf := mf7 2
  go_simp
  refine hK _ _ (.inl rfl) ?_
  clear hK K y2 yf m7 mf7
  refine wpAnyE_done (by kernel_rfl) ⟨rfl, ?_⟩ _
  have kM8 : (w7.setCell ⟨w.heap.size + 1, 2, none⟩ (.slice (some ⟨g7, 0, none⟩) 1 cap7)).heap[w.heap.size + 1]? = some (.cells #[.int .u32 3, .int .u32 9, .slice (some ⟨g7, 0, none⟩) 1 cap7] 25 (0, 0)) := by simp [World.setCell, Array.getElem?_modify, kM7]
  have kR8 : (w7.setCell ⟨w.heap.size + 1, 2, none⟩ (.slice (some ⟨g7, 0, none⟩) 1 cap7)).heap[w.heap.size]? = some (.cells #[.int .u32 0, .int .u32 0, .slice none 0 0] 25 (0, 0)) := (Below.heap_setCell _ _ _ _ (by simp)).trans kR7
  have hBw : Below w.heap.size w (w7.setCell ⟨w.heap.size + 1, 2, none⟩ (.slice (some ⟨g7, 0, none⟩) 1 cap7)) := (hB0.trans (hC7.mono hB0.size)).setCell (by simp) _
  have HV8 : Hid (InstsV (((((w7.setCell ⟨w.heap.size + 1, 2, none⟩ (.slice (some ⟨g7, 0, none⟩) 1 cap7)).setCell ⟨w.heap.size, 0, none⟩ (.int .u32 3)).setCell ⟨w.heap.size, 1, none⟩ (.int .u32 9)).setCell ⟨w.heap.size, 2, none⟩ (.slice (some ⟨g7, 0, none⟩) 1 cap7))) (some ⟨g7, 0, none⟩) [oneI]) :=
    HVX.out _ (fun k hk => by
      rw [Below.heap_setCell _ _ _ _ (by simp; omega), Below.heap_setCell _ _ _ _ (by simp; omega), Below.heap_setCell _ _ _ _ (by simp; omega), Below.heap_setCell _ _ _ _ (by simp; omega)]) (by simp)
  have hB9 := three_set3 kR8 (.int .u32 3) (.int .u32 9) (.slice (some ⟨g7, 0, none⟩) 1 cap7)
  have hBel := hBw.trans (three_below3 (w7.setCell ⟨w.heap.size + 1, 2, none⟩ (.slice (some ⟨g7, 0, none⟩) 1 cap7)) w.heap.size (.int .u32 3) (.int .u32 9) (.slice (some ⟨g7, 0, none⟩) 1 cap7))
  obtain ⟨mc, _⟩ := one_block kM8
  have m0 := mc 0
  have m1 := mc 1
  have m2 := mc 2
  obtain ⟨rc, rf⟩ := one_block kR8
  have r0 := rc 0
  have r1 := rc 1
  have r2 := rc 2
  have e0 := rf 0
  have e1 := rf 1
  have e2 := rf 2
  have HB9 : Hid _ := hB9
  have HBel : Hid _ := hBel
  clear kM8 kR8 hBw hB9 hBel mc rc rf kM7 kR7 hC0 hC3 hC4 hC5 hC6 hC7 kM kR hB0 HVX
  generalize w7.setCell ⟨w.heap.size + 1, 2, none⟩ (.slice (some ⟨g7, 0, none⟩) 1 cap7) = X at *
  gi_wp2_with fail
  have hB9 := HB9.out
  have hBel := HBel.out
  have hV8 := HV8.out
  clear r0 r1 r2 e0 e1 e2 m0 m1 m2 HB9 HBel HV8
  generalize ((X.setCell _ _).setCell _ _).setCell _ _ = Y at *
  obtain ⟨d, _⟩ := one_block hB9
  have d0 := d 0
  have d1 := d 1
  have d2 := d 2
  refine ⟨.agg #[.int .u32 3, .int .u32 9, .slice (some ⟨g7, 0, none⟩) 1 cap7], by simp [results, Try.results31, go_sem, d0, d1, d2], g7, cap7, rfl, hV8, hBel⟩

end Go.Proofs.Ytpggcpnjcalfaab

/-
  awake of the laws of layer 4 answers true.
-/
namespace Go.Proofs.Ytpggcpnjcalfaab
open Go.RowKit Go.Shelf
attribute [local go_sem] Oper.semAt_some
set_option linter.unusedVariables false
set_option linter.unusedSimpArgs false

/-- Its bytes. -/
def oneB : List Int := [3, 2, 35, 7, 0, 0, 1, 0, 3, 0, 0, 0, 9, 0, 0, 0, 0, 0, 0, 0, 128, 0, 5, 0, 1, 0, 0, 0, 2, 0, 0, 0, 3, 0, 0, 0, 4, 0, 0, 0]
theorem oneB_shape : shapeE 9 [oneI] = (0, 0) := by decide +kernel
theorem oneB_enc : encL 3 9 [oneI] = oneB := by decide +kernel
theorem oneB_dec : decE oneB = (0, 0) := by decide +kernel
theorem oneB_head : decH oneB 2 = 3 ∧ decH oneB 3 = 9 := by decide +kernel
theorem oneB_insts : decL oneB = [oneI] := by
  unfold decL
  rw [oneB_dec, if_pos rfl]
  have e1 : rest (splitL oneB) 5 = [5] := by decide +kernel
  have e2 : rawAt (splitL oneB) 5 = (128, [1, 2, 3, 4]) := by decide +kernel
  have e3 : nth (splitL oneB) 3 = 9 := by decide +kernel
  have e4 : rawE oneI 9 = 0 := by decide +kernel
  have e5 : rawWs oneI 9 = [1, 2, 3, 4] := by decide +kernel
  have e6 := instI_words (x := oneI) (m := 9) e4 (by omega)
  rw [e5] at e6
  rw [e1, e3]
  simp only [instsAt, List.map_cons, List.map_nil, instAt, e2]
  rw [show (128 : Int) = oneI.1 from rfl, e6]
theorem oneB_within : Within 256 oneB := by
  intro z hz
  simp [oneB] at hz
  omega
theorem oneI_ok : InstsOk [oneI] := by
  intro j hj
  obtain rfl : j = 0 := by simp at hj; exact hj
  refine ⟨by decide, by decide, by decide, by decide, by decide, by decide, ?_, by decide⟩
  intro k hk
  have hk2 : k < 2 := hk
  match k, hk2 with
  | 0, _ => exact ⟨by decide, by decide, by decide, by decide, by decide⟩
  | 1, _ => exact ⟨by decide, by decide, by decide, by decide, by decide⟩

theorem field_zero (x y : Value) (w : World) : (Instr.field 28 (.agg #[x, y]) 0).run Try.prog w = .ok x w := by
  have hu := Try.underlying28
  have hi := Try.underlying26
  simp [Instr.field, run_underlying hu, asAgg, part, isAgg, run_underlying hi, go_sem]

set_option maxRecDepth 100000 in
set_option maxHeartbeats 8000000 in
theorem awake4_true (w : World) : Calls Try.prog 12 #[] w fun e w' => e = .returned (.bool true) ∧ Below w.heap.size w w' := by
  have hO := fun w => one_any w
  have hEn := fun wx g c (hv : InstsV wx (some ⟨g, 0, none⟩) [oneI]) => encode_any 3 9 (some ⟨g, 0, none⟩) 1 c [oneI] wx (by decide) (by decide) (by decide) (by decide) hv oneI_ok rfl (by decide)
  rw [oneB_shape, oneB_enc] at hEn
  have hSh := fun wx g c (hv : InstsV wx (some ⟨g, 0, none⟩) [oneI]) => codeShape_any 3 9 (some ⟨g, 0, none⟩) 1 c [oneI] wx (by decide) (by decide) (by decide) (by decide) hv oneI_ok rfl (by decide)
  rw [oneB_shape] at hSh
  have hDe := fun wx a c (hv : View .u8 wx a oneB) => decode_any a 40 c oneB wx hv rfl oneB_within
  rw [oneB_dec, oneB_insts, oneB_head.1, oneB_head.2] at hDe
  have hMo := fun wx ax ay cx cy (hx : InstsV wx ax [oneI]) (hy : InstsV wx ay [oneI]) => kitModule_any 3 9 3 9 [oneI] [oneI] ax ay 1 1 cx cy wx hx hy rfl rfl oneI_ok oneI_ok (by decide) (by decide) true (by simp)
  have hmix : Try.prog.follows .mixedOrders = true := by kernel_rfl
  have hbl : oneB.length = 40 := rfl
  unfold modV at *
  refine (callsIn_wide (n := 0)).1 ?_
  refine callsIn_of_wp_marks Try.func12 rfl trivial ?_ rfl
  simp only [Try.ntmps12, List.size_toArray, List.length_cons, List.length_nil, Nat.reduceAdd, Nat.reduceSub, Array.replicate_succ, Array.replicate_zero, List.push_toArray, List.append_toArray, List.nil_append, List.cons_append]
  gi_wp2_with fail
  refine ⟨trivial, rfl, (callsIn_wide.2 (hO _)).mono ?_⟩
  rintro e w1 ⟨g1, c1, rfl, hv1, hb1⟩
  have hC1 := hEn w1 g1 c1 hv1
  gi_wp2_with fail
  refine ⟨trivial, rfl, (callsIn_wide.2 hC1).mono ?_⟩
  rintro e w2 ⟨hb2, ax, m, rfl, hm, hown2⟩
  obtain rfl : 40 = m := by rw [← hm, hbl]
  have hv2 := View.ofOwn hown2 hbl
  have hb2a : Below w2.heap.size w2 (w2.alloc (.cells #[.int .i64 0, .int .i64 0] 28)) := (Below.refl _ w2).alloc (Nat.le_refl _) _
  have kS := alloc_new w2 #[.int .i64 0, .int .i64 0] 28
  have hC2 := hDe _ ax 40 (hv2.below hb2a)
  have hB2 := (hb1.trans (hb2.mono hb1.size)).trans (hb2a.mono (hb1.trans (hb2.mono hb1.size)).size)
  have HKS : Hid _ := kS
  have HB2 : Hid _ := hB2
  have hz : ((0 : Nat) : Int) = 0 := rfl
  have lS : w2.heap.size < (w2.alloc (.cells #[.int .i64 0, .int .i64 0] 28)).heap.size := by simp
  clear hC1 hEn hDe hv1 hb1 hb2 hown2 hv2 hb2a kS hB2 hm
  gi_wp2_with fail
  have kS := HKS.out
  have hB2 := HB2.out
  clear HKS HB2
  generalize w2.alloc (.cells #[.int .i64 0, .int .i64 0] 28) = W2 at *
  refine ⟨trivial, rfl, (callsIn_wide.2 hC2).mono ?_⟩
  rintro e w3 ⟨hb3, ay, m, cy, rfl, hm, hO3⟩
  obtain rfl : 1 = m := hm
  have hv3 := hO3.view
  have s3 := hb3.size
  have kS3 := (hb3.block _ lS).trans kS
  have hB3 := hB2.trans (hb3.mono hB2.size)
  have hb4 : Below w3.heap.size w3 ((w3.alloc (.cells #[.int .u32 3, .int .u32 9, .slice ay 1 cy] 25)).alloc (.cells #[.int .i64 0, .int .i64 0] 28)) := ((Below.refl _ w3).alloc (Nat.le_refl _) _).alloc (by simp) _
  have HKS4 : Hid _ := (hb4.block _ (by omega)).trans kS3
  have HKM4 : Hid (((w3.alloc (.cells #[.int .u32 3, .int .u32 9, .slice ay 1 cy] 25)).alloc (.cells #[.int .i64 0, .int .i64 0] 28)).heap[w3.heap.size]? = some (.cells #[.int .u32 3, .int .u32 9, .slice ay 1 cy] 25 (0, 0))) := (Below.heap_alloc _ _ _ (by simp)).trans (alloc_new w3 _ _)
  have HKT4 : Hid (((w3.alloc (.cells #[.int .u32 3, .int .u32 9, .slice ay 1 cy] 25)).alloc (.cells #[.int .i64 0, .int .i64 0] 28)).heap[w3.heap.size + 1]? = some (.cells #[.int .i64 0, .int .i64 0] 28 (0, 0))) := by show _ = _; simpa using alloc_new (w3.alloc (.cells #[.int .u32 3, .int .u32 9, .slice ay 1 cy] 25)) #[.int .i64 0, .int .i64 0] 28
  have HV4 : Hid (InstsV _ ay [oneI]) := hv3.below hb4
  have HB4 : Hid _ := hB3.trans (hb4.mono hB3.size)
  clear hC2 hb3 hO3 hv3 kS kS3 hB2 hB3 hb4
  gi_wp2_with fail
  have kS := HKS4.out
  have kM := HKM4.out
  have kT := HKT4.out
  have hV := HV4.out
  have hB := HB4.out
  clear HKS4 HKM4 HKT4 HV4 HB4
  generalize (w3.alloc (.cells #[.int .u32 3, .int .u32 9, .slice ay 1 cy] 25)).alloc (.cells #[.int .i64 0, .int .i64 0] 28) = W at *
  have l1 := (Array.getElem?_eq_some_iff.1 kS).1
  have l2 := (Array.getElem?_eq_some_iff.1 kM).1
  have l3 := (Array.getElem?_eq_some_iff.1 kT).1
  have hC0 : Below W.heap.size W W.drew := below_drew W
  have LS : Hid (∀ w', Below W.heap.size W w' → w'.cell? ⟨w2.heap.size, 0, none⟩ = some (.int .i64 0)) := fun w' hC => (one_block ((hC.block _ l1).trans kS)).1 0
  have LT : Hid (∀ w', Below W.heap.size W w' → w'.cell? ⟨w3.heap.size + 1, 0, none⟩ = some (.int .i64 0)) := fun w' hC => (one_block ((hC.block _ l3).trans kT)).1 0
  have LM : Hid (∀ w', Below W.heap.size W w' → w'.cell? ⟨w3.heap.size, 0, none⟩ = some (.int .u32 3) ∧ w'.cell? ⟨w3.heap.size, 1, none⟩ = some (.int .u32 9) ∧ w'.cell? ⟨w3.heap.size, 2, none⟩ = some (.slice ay 1 cy)) := fun w' hC => by
    obtain ⟨hc, _⟩ := one_block ((hC.block _ l2).trans kM)
    exact ⟨hc 0, hc 1, hc 2⟩
  refine wpIn_normal (wpIn_region_any hmix (wpAnyC_sound (C := Below W.heap.size W) _ _ _ _ ?_))
  change wpAnyC _ _ _ _ _ _ _ _ _ _ (World.drew _)
  refine wpAnyC_takeD (i := 0) (some 15) (v := .pointer (some ⟨w2.heap.size, 0, none⟩)) (fun _ => trivial) (by kernel_rfl) rfl rfl (by kernel_rfl) (by kernel_rfl) (by kernel_rfl) (fun _ _ _ h => by cases h.1) hC0 (Or.inl ⟨by kernel_rfl, fun w' hC => by clear hC; go_simp⟩) ?_
  simp only [Act.put, List.setIfInBounds_toArray, List.set_cons_succ, List.set_cons_zero]
  refine wpAnyC_takeD (i := 1) (some 16) (v := .int .i64 0) (fun _ => trivial) (by kernel_rfl) rfl rfl (by kernel_rfl) (by kernel_rfl) (by kernel_rfl) (fun _ _ _ h => by cases h.1) hC0 (Or.inl ⟨by kernel_rfl, fun w' hC => by have e := LS.out w' hC; clear hC; go_simp⟩) ?_
  simp only [Act.put, List.setIfInBounds_toArray, List.set_cons_succ, List.set_cons_zero]
  refine wpAnyC_takeD (i := 2) (some 17) (v := .bool true) (fun _ => trivial) (by kernel_rfl) rfl rfl (by kernel_rfl) (by kernel_rfl) (by kernel_rfl) (fun _ _ _ h => by cases h.1) hC0 (Or.inl ⟨by kernel_rfl, fun w' hC => by clear hC; go_simp⟩) ?_
  simp only [Act.put, List.setIfInBounds_toArray, List.set_cons_succ, List.set_cons_zero]
  refine wpAnyC_takeD (i := 3) (some 18) (v := .bool true) (fun _ => trivial) (by kernel_rfl) rfl rfl (by kernel_rfl) (by kernel_rfl) (by kernel_rfl) (fun _ _ _ h => by cases h.1) hC0 (Or.inl ⟨by kernel_rfl, fun w' hC => by clear hC; go_simp⟩) ?_
  simp only [Act.put, List.setIfInBounds_toArray, List.set_cons_succ, List.set_cons_zero]
  refine wpAnyC_takeD (i := 4) (some 19) (v := .pointer (some ⟨w3.heap.size + 1, 0, none⟩)) (fun _ => trivial) (by kernel_rfl) rfl rfl (by kernel_rfl) (by kernel_rfl) (by kernel_rfl) (fun _ _ _ h => by cases h.1) hC0 (Or.inl ⟨by kernel_rfl, fun w' hC => by clear hC; go_simp⟩) ?_
  simp only [Act.put, List.setIfInBounds_toArray, List.set_cons_succ, List.set_cons_zero]
  refine wpAnyC_takeD (i := 5) (some 20) (v := .int .i64 0) (fun _ => trivial) (by kernel_rfl) rfl rfl (by kernel_rfl) (by kernel_rfl) (by kernel_rfl) (fun _ _ _ h => by cases h.1) hC0 (Or.inl ⟨by kernel_rfl, fun w' hC => by have e := LT.out w' hC; clear hC; go_simp⟩) ?_
  simp only [Act.put, List.setIfInBounds_toArray, List.set_cons_succ, List.set_cons_zero]
  refine wpAnyC_takeD (i := 6) (some 21) (v := .bool true) (fun _ => trivial) (by kernel_rfl) rfl rfl (by kernel_rfl) (by kernel_rfl) (by kernel_rfl) (fun _ _ _ h => by cases h.1) hC0 (Or.inl ⟨by kernel_rfl, fun w' hC => by clear hC; go_simp⟩) ?_
  simp only [Act.put, List.setIfInBounds_toArray, List.set_cons_succ, List.set_cons_zero]
  refine wpAnyC_takeD (i := 7) (some 22) (v := .bool true) (fun _ => trivial) (by kernel_rfl) rfl rfl (by kernel_rfl) (by kernel_rfl) (by kernel_rfl) (fun _ _ _ h => by cases h.1) hC0 (Or.inl ⟨by kernel_rfl, fun w' hC => by clear hC; go_simp⟩) ?_
  simp only [Act.put, List.setIfInBounds_toArray, List.set_cons_succ, List.set_cons_zero]
  refine wpAnyC_takeD (i := 8) (some 23) (v := .bool true) (fun _ => trivial) (by kernel_rfl) rfl rfl (by kernel_rfl) (by kernel_rfl) (by kernel_rfl) (fun _ _ _ h => by cases h.1) hC0 (Or.inl ⟨by kernel_rfl, fun w' hC => by clear hC; go_simp⟩) ?_
  simp only [Act.put, List.setIfInBounds_toArray, List.set_cons_succ, List.set_cons_zero]
  refine wpAnyC_takeD (i := 9) (some 24) (v := .slice ax 40 40) (fun _ => trivial) (by kernel_rfl) rfl rfl (by kernel_rfl) (by kernel_rfl) (by kernel_rfl) (fun _ _ _ h => by cases h.1) hC0 (Or.inl ⟨by kernel_rfl, fun w' hC => by clear hC; go_simp⟩) ?_
  simp only [Act.put, List.setIfInBounds_toArray, List.set_cons_succ, List.set_cons_zero]
  refine wpAnyC_takeD (i := 10) (some 25) (v := .int .i64 40) (fun _ => trivial) (by kernel_rfl) rfl rfl (by kernel_rfl) (by kernel_rfl) (by kernel_rfl) (fun _ _ _ h => by cases h.1) hC0 (Or.inl ⟨by kernel_rfl, fun w' hC => by clear hC; go_simp⟩) ?_
  simp only [Act.put, List.setIfInBounds_toArray, List.set_cons_succ, List.set_cons_zero]
  refine wpAnyC_takeD (i := 11) (some 26) (v := .bool true) (fun _ => trivial) (by kernel_rfl) rfl rfl (by kernel_rfl) (by kernel_rfl) (by kernel_rfl) (fun _ _ _ h => by cases h.1) hC0 (Or.inl ⟨by kernel_rfl, fun w' hC => by clear hC; go_simp⟩) ?_
  simp only [Act.put, List.setIfInBounds_toArray, List.set_cons_succ, List.set_cons_zero]
  refine wpAnyC_takeD (i := 12) (some 27) (v := .bool true) (fun _ => trivial) (by kernel_rfl) rfl rfl (by kernel_rfl) (by kernel_rfl) (by kernel_rfl) (fun _ _ _ h => by cases h.1) hC0 (Or.inl ⟨by kernel_rfl, fun w' hC => by clear hC; go_simp⟩) ?_
  simp only [Act.put, List.setIfInBounds_toArray, List.set_cons_succ, List.set_cons_zero]
  refine wpAnyC_takeD (i := 13) (some 28) (v := .bool true) (fun _ => trivial) (by kernel_rfl) rfl rfl (by kernel_rfl) (by kernel_rfl) (by kernel_rfl) (fun _ _ _ h => by cases h.1) hC0 (Or.inl ⟨by kernel_rfl, fun w' hC => by clear hC; go_simp⟩) ?_
  simp only [Act.put, List.setIfInBounds_toArray, List.set_cons_succ, List.set_cons_zero]
  refine wpAnyC_takeD (i := 14) (some 29) (v := .agg #[.int .u32 3, .int .u32 9, .slice ay 1 cy]) (fun _ => trivial) (by kernel_rfl) rfl rfl (by kernel_rfl) (by kernel_rfl) (by kernel_rfl) (fun _ _ _ h => by cases h.1) hC0 (Or.inl ⟨by kernel_rfl, fun w' hC => by obtain ⟨e0, e1, e2⟩ := LM.out w' hC; clear hC; go_simp⟩) ?_
  simp only [Act.put, List.setIfInBounds_toArray, List.set_cons_succ, List.set_cons_zero]
  refine wpAnyC_ready (rs := [15]) (by kernel_rfl) (by simp) ?_
  refine AllC.cons rfl (fun K hK => ?_) AllC.nil
  go_simp
  refine ⟨trivial, rfl, (callsIn_wide.2 (hO _)).mono ?_⟩
  rintro e w5 ⟨g5, c5, rfl, hv5, hb5⟩
  dsimp only
  have hC5 : Below W.heap.size W w5 := hC0.trans hb5
  refine hK _ _ hC5 ?_
  clear hK K hb5
  refine wpAnyC_ready (rs := [16]) (by kernel_rfl) (by simp) ?_
  refine AllC.cons rfl (fun K hK => ?_) AllC.nil
  go_simp
  refine ⟨trivial, rfl, (callsIn_wide.2 (hMo _ _ _ _ _ (hV.below hC5) hv5)).mono ?_⟩
  rintro e w6 ⟨rfl, hb6⟩
  dsimp only
  have hC6 : Below W.heap.size W w6 := hC5.trans (hb6.mono hC5.size)
  refine hK _ _ hC6 ?_
  clear hK K hb6
  refine wpAnyC_takeD (i := 17) (some 32) (v := .bool true) (fun _ => trivial) (by kernel_rfl) rfl rfl (by kernel_rfl) (by kernel_rfl) (by kernel_rfl) (fun _ _ _ h => by cases h.1) hC6 (Or.inl ⟨by kernel_rfl, fun w' hC => by clear hC; go_simp⟩) ?_
  simp only [Act.put, List.setIfInBounds_toArray, List.set_cons_succ, List.set_cons_zero]
  refine wpAnyC_takeD (i := 18) (some 33) (v := .bool true) (fun _ => trivial) (by kernel_rfl) rfl rfl (by kernel_rfl) (by kernel_rfl) (by kernel_rfl) (fun _ _ _ h => by cases h.1) hC6 (Or.inl ⟨by kernel_rfl, fun w' hC => by clear hC; go_simp⟩) ?_
  simp only [Act.put, List.setIfInBounds_toArray, List.set_cons_succ, List.set_cons_zero]
  refine wpAnyC_ready (rs := [19]) (by kernel_rfl) (by simp) ?_
  refine AllC.cons rfl (fun K hK => ?_) AllC.nil
  go_simp
  refine ⟨trivial, rfl, (callsIn_wide.2 (hO _)).mono ?_⟩
  rintro e w7 ⟨g7, c7, rfl, hv7, hb7⟩
  dsimp only
  have hC7 : Below W.heap.size W w7 := hC6.trans (hb7.mono hC6.size)
  refine hK _ _ hC7 ?_
  clear hK K hb7
  refine wpAnyC_ready (rs := [20]) (by kernel_rfl) (by simp) ?_
  refine AllC.cons rfl (fun K hK => ?_) AllC.nil
  go_simp
  refine ⟨trivial, rfl, (callsIn_wide.2 (hSh _ _ _ hv7)).mono ?_⟩
  rintro e w8 ⟨rfl, hb8⟩
  dsimp only
  have hC8 : Below W.heap.size W w8 := hC7.trans (hb8.mono hC7.size)
  refine hK _ _ hC8 ?_
  clear hK K hb8
  refine wpAnyC_takeD (i := 21) (some 36) (v := .int .i64 0) (fun _ => trivial) (by kernel_rfl) rfl rfl (by kernel_rfl) (by kernel_rfl) (by kernel_rfl) (fun _ _ _ h => by cases h.1) hC8 (Or.inl ⟨by kernel_rfl, fun w' hC => by clear hC; simp only [execOp]; go_simp; simp [field_zero]⟩) ?_
  simp only [Act.put, List.setIfInBounds_toArray, List.set_cons_succ, List.set_cons_zero]
  refine wpAnyC_takeD (i := 22) (some 37) (v := .bool true) (fun _ => trivial) (by kernel_rfl) rfl rfl (by kernel_rfl) (by kernel_rfl) (by kernel_rfl) (fun _ _ _ h => by cases h.1) hC8 (Or.inl ⟨by kernel_rfl, fun w' hC => by clear hC; go_simp⟩) ?_
  simp only [Act.put, List.setIfInBounds_toArray, List.set_cons_succ, List.set_cons_zero]
  refine wpAnyC_takeD (i := 23) (some 38) (v := .bool true) (fun _ => trivial) (by kernel_rfl) rfl rfl (by kernel_rfl) (by kernel_rfl) (by kernel_rfl) (fun _ _ _ h => by cases h.1) hC8 (Or.inl ⟨by kernel_rfl, fun w' hC => by clear hC; go_simp⟩) ?_
  simp only [Act.put, List.setIfInBounds_toArray, List.set_cons_succ, List.set_cons_zero]
  refine wpAnyC_takeD (i := 24) (some 0) (v := .bool true) (fun _ => trivial) (by kernel_rfl) rfl rfl (by kernel_rfl) (by kernel_rfl) (by kernel_rfl) (fun _ _ _ h => by cases h.1) hC8 (Or.inl ⟨by kernel_rfl, fun w' hC => by clear hC; go_simp⟩) ?_
  simp only [Act.put, List.setIfInBounds_toArray, List.set_cons_succ, List.set_cons_zero]
  refine wpAnyC_done (by kernel_rfl) ⟨rfl, ?_⟩ _
  have HBF : Hid _ := hB.trans (hC8.mono hB.size)
  clear hC0 hC5 hC6 hC7 hC8 hB hV kS kM kT hv5 hv7
  gi_wp2_with fail
  exact ⟨.bool true, by simp [results, Try.results12, go_sem], rfl, HBF.out⟩

end Go.Proofs.Ytpggcpnjcalfaab

/-
  The law CodeUnlike answers true, for every two modules.
-/
namespace Go.Proofs.Ytpggcpnjcalfaab
open Go.RowKit Go.Shelf
attribute [local go_sem] Oper.semAt_some
set_option linter.unusedVariables false
set_option linter.unusedSimpArgs false

/-- Modules of good shape with the same bytes are the same. -/
theorem enc_inj {g1 b1 g2 b2 : Int} {l1 l2 : List InstT} (h1 : 0 ≤ g1 ∧ g1 < 4294967296 ∧ 0 ≤ b1 ∧ b1 < 4294967296) (h2 : 0 ≤ g2 ∧ g2 < 4294967296 ∧ 0 ≤ b2 ∧ b2 < 4294967296) (k1 : InstsOk l1) (k2 : InstsOk l2) (e1 : (shapeE b1 l1).1 = 0) (e2 : (shapeE b2 l2).1 = 0) : encL g1 b1 l1 = encL g2 b2 l2 ↔ (g1 = g2 ∧ b1 = b2 ∧ l1 = l2) := by
  constructor
  · intro h
    obtain ⟨_, p2, p3, p4, _⟩ := dec_enc h1.1 h1.2.1 h1.2.2.1 h1.2.2.2 k1 e1
    obtain ⟨_, q2, q3, q4, _⟩ := dec_enc h2.1 h2.2.1 h2.2.2.1 h2.2.2.2 k2 e2
    rw [h] at p2 p3 p4
    exact ⟨p3.symm.trans q3, p4.symm.trans q4, p2.symm.trans q2⟩
  · rintro ⟨rfl, rfl, rfl⟩; rfl

set_option maxRecDepth 100000 in
set_option maxHeartbeats 8000000 in
theorem codeUnlike_any (w : World) (g1 b1 : Int) (a1 : Option Addr) (n1 c1 : Nat) (l1 : List InstT) (hl1 : l1.length = n1) (hv1 : InstsV w a1 l1) (hok1 : InstsOk l1) (hr1 : 40 * n1 ≤ 140737488351232) (hc1 : n1 ≤ c1) (hgb1 : 0 ≤ g1 ∧ g1 < 4294967296 ∧ 0 ≤ b1 ∧ b1 < 4294967296) (g2 b2 : Int) (a2 : Option Addr) (n2 c2 : Nat) (l2 : List InstT) (hl2 : l2.length = n2) (hv2 : InstsV w a2 l2) (hok2 : InstsOk l2) (hr2 : 40 * n2 ≤ 140737488351232) (hc2 : n2 ≤ c2) (hgb2 : 0 ≤ g2 ∧ g2 < 4294967296 ∧ 0 ≤ b2 ∧ b2 < 4294967296) (s1 s2 : Int × Nat) (hs1 : s1 = shapeE b1 l1) (hs2 : s2 = shapeE b2 l2) (hcase : (s1.1 ≠ 0) ∨ (s1 = (0, 0) ∧ s2.1 ≠ 0) ∨ (s1 = (0, 0) ∧ s2 = (0, 0))) :
    Calls Try.prog 4 #[modV g1 b1 a1 n1 c1, modV g2 b2 a2 n2 c2] w fun e w' => e = .returned (.bool true) ∧ Below w.heap.size w w' := by
  have hCp1 := fun wx (hb : Below w.heap.size w wx) => copyModule_any g1 b1 a1 n1 c1 l1 wx (hv1.below hb) hok1 hl1 hr1
  have hCp2 := fun wx (hb : Below w.heap.size w wx) => copyModule_any g2 b2 a2 n2 c2 l2 wx (hv2.below hb) hok2 hl2 hr2
  have hEn1 := fun wx g c (h : InstsV wx (some ⟨g, 0, none⟩) l1) => encode_any g1 b1 (some ⟨g, 0, none⟩) n1 c l1 wx hgb1.1 hgb1.2.1 hgb1.2.2.1 hgb1.2.2.2 h hok1 hl1 hr1
  have hEn2 := fun wx g c (h : InstsV wx (some ⟨g, 0, none⟩) l2) => encode_any g2 b2 (some ⟨g, 0, none⟩) n2 c l2 wx hgb2.1 hgb2.2.1 hgb2.2.2.1 hgb2.2.2.2 h hok2 hl2 hr2
  have hInj := enc_inj (g1 := g1) (b1 := b1) (g2 := g2) (b2 := b2) hgb1 hgb2 hok1 hok2
  rw [← hs1] at hEn1 hInj
  rw [← hs2] at hEn2 hInj
  have hBy := fun wx ax ay m1 m2 (h1 : View .u8 wx ax (encL g1 b1 l1)) (h2 : View .u8 wx ay (encL g2 b2 l2)) (hm1 : (encL g1 b1 l1).length = m1) (hm2 : (encL g2 b2 l2).length = m2) (k1 : m1 ≤ 140737488351232) (k2 : m2 ≤ 140737488351232) (r : Bool) (hr : r = true ↔ encL g1 b1 l1 = encL g2 b2 l2) => bytes_any ax ay m1 m2 m1 m2 (encL g1 b1 l1) (encL g2 b2 l2) wx h1 h2 hm1 hm2 k1 k2 r hr
  have hMo := fun wx (hb : Below w.heap.size w wx) (r : Bool) (hr : r = true ↔ (g1 = g2 ∧ b1 = b2 ∧ l1 = l2)) => kitModule_any g1 b1 g2 b2 l1 l2 a1 a2 n1 n2 c1 c2 wx (hv1.below hb) (hv2.below hb) hl1 hl2 hok1 hok2 (by omega) (by omega) r hr
  have hsm1 : s1 = (0, 0) → (encL g1 b1 l1).length ≤ 4194304 := fun h => by
    have h0 : (shapeE b1 l1).1 = 0 := by rw [← hs1, h]
    unfold encL; rw [if_pos h0, joinL_len]; have := (encW_len (gen := g1) h0).1; omega
  have hsm2 : s2 = (0, 0) → (encL g2 b2 l2).length ≤ 4194304 := fun h => by
    have h0 : (shapeE b2 l2).1 = 0 := by rw [← hs2, h]
    unfold encL; rw [if_pos h0, joinL_len]; have := (encW_len (gen := g2) h0).1; omega
  have hAw := fun w => awake4_true w
  have hmix : Try.prog.follows .mixedOrders = true := by kernel_rfl
  generalize encL g1 b1 l1 = bs1 at *
  generalize encL g2 b2 l2 = bs2 at *
  have HSM1 : Hid _ := hsm1
  have HSM2 : Hid _ := hsm2
  have HINJ : Hid _ := hInj
  have HCASE : Hid _ := hcase
  unfold modV at *
  clear hl1 hl2 hv1 hv2 hok1 hok2 hs1 hs2 hsm1 hsm2 hInj hcase
  obtain ⟨e1, x1⟩ := s1
  obtain ⟨e2, x2⟩ := s2
  simp only at *
  have hB0 : Below w.heap.size w ((w.alloc (.cells #[.int .u32 g1, .int .u32 b1, .slice a1 n1 c1] 25)).alloc (.cells #[.int .u32 g2, .int .u32 b2, .slice a2 n2 c2] 25)) := ((Below.refl _ w).alloc (Nat.le_refl _) _).alloc (by simp) _
  have k1 : ((w.alloc (.cells #[.int .u32 g1, .int .u32 b1, .slice a1 n1 c1] 25)).alloc (.cells #[.int .u32 g2, .int .u32 b2, .slice a2 n2 c2] 25)).heap[w.heap.size]? = some (.cells #[.int .u32 g1, .int .u32 b1, .slice a1 n1 c1] 25 (0, 0)) := (Below.heap_alloc _ _ _ (by simp)).trans (alloc_new w _ _)
  have k2 : ((w.alloc (.cells #[.int .u32 g1, .int .u32 b1, .slice a1 n1 c1] 25)).alloc (.cells #[.int .u32 g2, .int .u32 b2, .slice a2 n2 c2] 25)).heap[w.heap.size + 1]? = some (.cells #[.int .u32 g2, .int .u32 b2, .slice a2 n2 c2] 25 (0, 0)) := by simpa using alloc_new (w.alloc (.cells #[.int .u32 g1, .int .u32 b1, .slice a1 n1 c1] 25)) #[.int .u32 g2, .int .u32 b2, .slice a2 n2 c2] 25
  have hC := hCp1 _ hB0
  have HB0 : Hid _ := hB0
  have HK1 : Hid _ := k1
  have HK2 : Hid _ := k2
  clear hB0 k1 k2
  refine (callsIn_wide (n := 0)).1 ?_
  refine callsIn_of_wp_marks Try.func4 rfl trivial ?_ rfl
  simp only [Try.ntmps4, List.size_toArray, List.length_cons, List.length_nil, Nat.reduceAdd, Nat.reduceSub, Array.replicate_succ, Array.replicate_zero, List.push_toArray, List.append_toArray, List.nil_append, List.cons_append]
  gi_wp2_with fail
  have hB0 := HB0.out
  have k1 := HK1.out
  have k2 := HK2.out
  clear HB0 HK1 HK2
  generalize (w.alloc (.cells #[.int .u32 g1, .int .u32 b1, .slice a1 n1 c1] 25)).alloc (.cells #[.int .u32 g2, .int .u32 b2, .slice a2 n2 c2] 25) = W0 at *
  have l1' := (Array.getElem?_eq_some_iff.1 k1).1
  have l2' := (Array.getElem?_eq_some_iff.1 k2).1
  refine ⟨trivial, rfl, (callsIn_wide.2 hC).mono ?_⟩
  rintro e w1 ⟨p1, rfl, _, hV1, hb1⟩
  have hC2 := hEn1 w1 p1 n1 hV1
  clear hC hEn1 hV1
  gi_wp2_with fail
  refine ⟨trivial, rfl, (callsIn_wide.2 hC2).mono ?_⟩
  rintro e w2 ⟨hb2, ax, m1, rfl, hm1, hown1⟩
  have hb02 := hb1.trans (hb2.mono hb1.size)
  have hb3 : Below W0.heap.size W0 (w2.alloc (.cells #[.int .i64 e1, .int .i64 (x1 : Int)] 28)) := hb02.alloc hb02.size _
  have kS := alloc_new w2 #[.int .i64 e1, .int .i64 (x1 : Int)] 28
  obtain ⟨m3, _⟩ := one_block ((hb3.block _ l2').trans k2)
  have q0 := m3 0
  have q1 := m3 1
  have q2 := m3 2
  have HB3 : Hid _ := hB0.trans (hb3.mono hB0.size)
  have hC4 := hCp2 _ HB3.out
  have HKS : Hid _ := kS
  have HK1 : Hid _ := (hb3.block _ l1').trans k1
  have HK2 : Hid _ := (hb3.block _ l2').trans k2
  have HV1 : Hid (View .u8 _ ax bs1) := (View.ofOwn hown1 hm1).below ((Below.refl _ w2).alloc (Nat.le_refl _) (.cells #[.int .i64 e1, .int .i64 (x1 : Int)] 28))
  have HM1 : Hid (bs1.length = m1) := hm1
  clear hC2 hb1 hb2 hb02 hb3 hB0 k1 k2 kS m3 hown1 hm1 hCp1 hCp2
  gi_wp2_with fail
  have hB3 := HB3.out
  have kS := HKS.out
  have k1 := HK1.out
  have k2 := HK2.out
  have hV1 := HV1.out
  clear HB3 HKS HK1 HK2 HV1 q0 q1 q2
  generalize w2.alloc (.cells #[.int .i64 e1, .int .i64 (x1 : Int)] 28) = W3 at *
  have lS := (Array.getElem?_eq_some_iff.1 kS).1
  have l3 := (Array.getElem?_eq_some_iff.1 k1).1
  have l4 := (Array.getElem?_eq_some_iff.1 k2).1
  refine ⟨trivial, rfl, (callsIn_wide.2 hC4).mono ?_⟩
  rintro e w4 ⟨p4, rfl, _, hV4, hb4⟩
  have hC5 := hEn2 w4 p4 n2 hV4
  clear hC4 hEn2 hV4
  gi_wp2_with fail
  refine ⟨trivial, rfl, (callsIn_wide.2 hC5).mono ?_⟩
  rintro e w5 ⟨hb5, ay, m2, rfl, hm2, hown2⟩
  have hb35 := hb4.trans (hb5.mono hb4.size)
  have hb6 : Below W3.heap.size W3 (w5.alloc (.cells #[.int .i64 e2, .int .i64 (x2 : Int)] 28)) := hb35.alloc hb35.size _
  have kT := alloc_new w5 #[.int .i64 e2, .int .i64 (x2 : Int)] 28
  obtain ⟨s0, _, _⟩ := cell_of_two ((hb6.block _ lS).trans kS)
  obtain ⟨t0, _, _⟩ := cell_of_two kT
  have HB6 : Hid _ := hB3.trans (hb6.mono hB3.size)
  have HK1 : Hid _ := (hb6.block _ l3).trans k1
  have HK2 : Hid _ := (hb6.block _ l4).trans k2
  have HV1 : Hid (View .u8 _ ax bs1) := hV1.below hb6
  have HV2 : Hid (View .u8 _ ay bs2) := (View.ofOwn hown2 hm2).below ((Below.refl _ w5).alloc (Nat.le_refl _) (.cells #[.int .i64 e2, .int .i64 (x2 : Int)] 28))
  have HM2 : Hid (bs2.length = m2) := hm2
  clear hC5 hb4 hb5 hb35 hb6 hB3 kS kT k1 k2 hown2 hm2 hV1
  have hcs := HCASE.out
  generalize (x1 : Int) = y1 at *
  generalize (x2 : Int) = y2 at *
  rcases hcs with h1 | ⟨h1, h2⟩ | ⟨h1, h2⟩
  · have heb : (e1 == 0) = false := by simpa using h1
    clear h1 HCASE HINJ HSM1 HSM2 hMo hBy
    gi_wp2_with fail
    refine ⟨trivial, rfl, (callsIn_wide.2 (hAw _)).mono ?_⟩
    rintro e y4 ⟨rfl, hb7⟩
    have HBF : Hid _ := HB6.out.trans (hb7.mono HB6.out.size)
    clear HB6 hb7 s0 t0
    gi_wp2_with fail
    exact ⟨.bool true, by simp [results, Try.results4, go_sem], rfl, HBF.out⟩
  · obtain rfl : e1 = 0 := congrArg Prod.fst h1
    have heb : (e2 == 0) = false := by simpa using h2
    clear h1 h2 HCASE HINJ HSM1 HSM2 hMo hBy
    gi_wp2_with fail
    refine ⟨trivial, rfl, (callsIn_wide.2 (hAw _)).mono ?_⟩
    rintro e y4 ⟨rfl, hb7⟩
    have HBF : Hid _ := HB6.out.trans (hb7.mono HB6.out.size)
    clear HB6 hb7 s0 t0
    gi_wp2_with fail
    exact ⟨.bool true, by simp [results, Try.results4, go_sem], rfl, HBF.out⟩
  · have z1 := HSM1.out h1
    have z2 := HSM2.out h2
    obtain rfl : e1 = 0 := congrArg Prod.fst h1
    obtain rfl : e2 = 0 := congrArg Prod.fst h2
    obtain ⟨r, hr⟩ : ∃ r : Bool, r = true ↔ (g1 = g2 ∧ b1 = b2 ∧ l1 = l2) := (Classical.em (g1 = g2 ∧ b1 = b2 ∧ l1 = l2)).elim (fun h => ⟨true, fun _ => h, fun _ => rfl⟩) (fun h => ⟨false, (fun e => by cases e), fun e => absurd e h⟩)
    have hr2 : r = true ↔ bs1 = bs2 := hr.trans (HINJ.out rfl rfl).symm
    rw [HM1.out] at z1
    rw [HM2.out] at z2
    clear HCASE HINJ HSM1 HSM2
    gi_wp2_with fail
    have hB := HB6.out
    have k1 := HK1.out
    have k2 := HK2.out
    have hV1 := HV1.out
    have hV2 := HV2.out
    clear HB6 HK1 HK2 HV1 HV2 s0 t0
    clear h1 h2
    generalize w5.alloc (.cells #[.int .i64 0, .int .i64 y2] 28) = W at *
    have l5 := (Array.getElem?_eq_some_iff.1 k1).1
    have l6 := (Array.getElem?_eq_some_iff.1 k2).1
    have hC0 : Below W.heap.size W W.drew := below_drew W
    have L1 : Hid (∀ w', Below W.heap.size W w' → w'.cell? ⟨w.heap.size, 0, none⟩ = some (.int .u32 g1) ∧ w'.cell? ⟨w.heap.size, 1, none⟩ = some (.int .u32 b1) ∧ w'.cell? ⟨w.heap.size, 2, none⟩ = some (.slice a1 n1 c1)) := fun w' hC => by
      obtain ⟨hc, _⟩ := one_block ((hC.block _ l5).trans k1)
      exact ⟨hc 0, hc 1, hc 2⟩
    have L2 : Hid (∀ w', Below W.heap.size W w' → w'.cell? ⟨w.heap.size + 1, 0, none⟩ = some (.int .u32 g2) ∧ w'.cell? ⟨w.heap.size + 1, 1, none⟩ = some (.int .u32 b2) ∧ w'.cell? ⟨w.heap.size + 1, 2, none⟩ = some (.slice a2 n2 c2)) := fun w' hC => by
      obtain ⟨hc, _⟩ := one_block ((hC.block _ l6).trans k2)
      exact ⟨hc 0, hc 1, hc 2⟩
    refine wpIn_normal (wpIn_region_any hmix (wpAnyC_sound (C := Below W.heap.size W) _ _ _ _ ?_))
    change wpAnyC _ _ _ _ _ _ _ _ _ _ (World.drew _)
    refine wpAnyC_takeD (i := 0) (some 30) (v := .slice ax m1 m1) (fun _ => trivial) (by kernel_rfl) rfl rfl (by kernel_rfl) (by kernel_rfl) (by kernel_rfl) (fun _ _ _ h => by cases h.1) hC0 (Or.inl ⟨by kernel_rfl, fun w' hC => by clear hC; go_simp⟩) ?_
    simp only [Act.put, List.setIfInBounds_toArray, List.set_cons_succ, List.set_cons_zero]
    refine wpAnyC_takeD (i := 1) (some 31) (v := .slice ay m2 m2) (fun _ => trivial) (by kernel_rfl) rfl rfl (by kernel_rfl) (by kernel_rfl) (by kernel_rfl) (fun _ _ _ h => by cases h.1) hC0 (Or.inl ⟨by kernel_rfl, fun w' hC => by clear hC; go_simp⟩) ?_
    simp only [Act.put, List.setIfInBounds_toArray, List.set_cons_succ, List.set_cons_zero]
    refine wpAnyC_takeD (i := 3) (some 33) (v := .agg #[.int .u32 g1, .int .u32 b1, .slice a1 n1 c1]) (fun _ => trivial) (by kernel_rfl) rfl rfl (by kernel_rfl) (by kernel_rfl) (by kernel_rfl) (fun _ _ _ h => by cases h.1) hC0 (Or.inl ⟨by kernel_rfl, fun w' hC => by obtain ⟨e0, e1, e2⟩ := L1.out w' hC; clear hC; go_simp⟩) ?_
    simp only [Act.put, List.setIfInBounds_toArray, List.set_cons_succ, List.set_cons_zero]
    refine wpAnyC_takeD (i := 4) (some 34) (v := .agg #[.int .u32 g2, .int .u32 b2, .slice a2 n2 c2]) (fun _ => trivial) (by kernel_rfl) rfl rfl (by kernel_rfl) (by kernel_rfl) (by kernel_rfl) (fun _ _ _ h => by cases h.1) hC0 (Or.inl ⟨by kernel_rfl, fun w' hC => by obtain ⟨e0, e1, e2⟩ := L2.out w' hC; clear hC; go_simp⟩) ?_
    simp only [Act.put, List.setIfInBounds_toArray, List.set_cons_succ, List.set_cons_zero]
    refine wpAnyC_ready (rs := [2]) (by kernel_rfl) (by simp) ?_
    refine AllC.cons rfl (fun K hK => ?_) AllC.nil
    go_simp
    refine ⟨trivial, rfl, (callsIn_wide.2 (hBy _ _ _ _ _ (hV1.below hC0) (hV2.below hC0) HM1.out HM2.out (by omega) (by omega) r hr2)).mono ?_⟩
    rintro e y1 ⟨rfl, q, hq⟩
    dsimp only
    have hC1 : Below W.heap.size W y1 := by rw [hq]; exact bel_drewN hC0 q
    refine hK _ _ hC1 ?_
    clear hK K hq
    refine wpAnyC_ready (rs := [5]) (by kernel_rfl) (by simp) ?_
    refine AllC.cons rfl (fun K hK => ?_) AllC.nil
    go_simp
    refine ⟨trivial, rfl, (callsIn_wide.2 (hMo _ (hB.trans (hC1.mono hB.size)) r hr)).mono ?_⟩
    rintro e y2 ⟨rfl, hb2'⟩
    dsimp only
    have hC2 : Below W.heap.size W y2 := hC1.trans (hb2'.mono hC1.size)
    refine hK _ _ hC2 ?_
    clear hK K hb2'
    refine wpAnyC_takeD (i := 6) (some 36) (v := .bool true) (fun _ => trivial) (by kernel_rfl) rfl rfl (by kernel_rfl) (by kernel_rfl) (by kernel_rfl) (fun _ _ _ h => by cases h.1) hC2 (Or.inl ⟨by kernel_rfl, fun w' hC => by clear hC; go_simp⟩) ?_
    simp only [Act.put, List.setIfInBounds_toArray, List.set_cons_succ, List.set_cons_zero]
    refine wpAnyC_takeD (i := 7) (some 37) (v := .bool true) (fun _ => trivial) (by kernel_rfl) rfl rfl (by kernel_rfl) (by kernel_rfl) (by kernel_rfl) (fun _ _ _ h => by cases h.1) hC2 (Or.inl ⟨by kernel_rfl, fun w' hC => by clear hC; go_simp⟩) ?_
    simp only [Act.put, List.setIfInBounds_toArray, List.set_cons_succ, List.set_cons_zero]
    refine wpAnyC_ready (rs := [8]) (by kernel_rfl) (by simp) ?_
    refine AllC.cons rfl (fun K hK => ?_) AllC.nil
    go_simp
    refine ⟨trivial, rfl, (callsIn_wide.2 (hAw _)).mono ?_⟩
    rintro e y4 ⟨rfl, hb4'⟩
    dsimp only
    have hC4 : Below W.heap.size W y4 := hC2.trans (hb4'.mono hC2.size)
    refine hK _ _ hC4 ?_
    clear hK K hb4'
    refine wpAnyC_takeD (i := 9) (some 39) (v := .bool true) (fun _ => trivial) (by kernel_rfl) rfl rfl (by kernel_rfl) (by kernel_rfl) (by kernel_rfl) (fun _ _ _ h => by cases h.1) hC4 (Or.inl ⟨by kernel_rfl, fun w' hC => by clear hC; go_simp⟩) ?_
    simp only [Act.put, List.setIfInBounds_toArray, List.set_cons_succ, List.set_cons_zero]
    refine wpAnyC_takeD (i := 10) (some 4) (v := .bool true) (fun _ => trivial) (by kernel_rfl) rfl rfl (by kernel_rfl) (by kernel_rfl) (by kernel_rfl) (fun _ _ _ h => by cases h.1) hC4 (Or.inl ⟨by kernel_rfl, fun w' hC => by clear hC; go_simp⟩) ?_
    simp only [Act.put, List.setIfInBounds_toArray, List.set_cons_succ, List.set_cons_zero]
    refine wpAnyC_done (by kernel_rfl) ⟨rfl, ?_⟩ _
    have HBF : Hid _ := hB.trans (hC4.mono hB.size)
    clear hC0 hC1 hC2 hC4 hB hV1 hV2 k1 k2
    gi_wp2_with fail
    exact ⟨.bool true, by simp [results, Try.results4, go_sem], rfl, HBF.out⟩

theorem codeUnlike_true (w : World) (g1 b1 : Int) (a1 : Option Addr) (n1 c1 : Nat) (l1 : List InstT) (hl1 : l1.length = n1) (hv1 : InstsV w a1 l1) (hok1 : InstsOk l1) (hr1 : 40 * n1 ≤ 140737488351232) (hc1 : n1 ≤ c1) (hgb1 : 0 ≤ g1 ∧ g1 < 4294967296 ∧ 0 ≤ b1 ∧ b1 < 4294967296) (g2 b2 : Int) (a2 : Option Addr) (n2 c2 : Nat) (l2 : List InstT) (hl2 : l2.length = n2) (hv2 : InstsV w a2 l2) (hok2 : InstsOk l2) (hr2 : 40 * n2 ≤ 140737488351232) (hc2 : n2 ≤ c2) (hgb2 : 0 ≤ g2 ∧ g2 < 4294967296 ∧ 0 ≤ b2 ∧ b2 < 4294967296) :
    Calls Try.prog 4 #[modV g1 b1 a1 n1 c1, modV g2 b2 a2 n2 c2] w fun e w' => e = .returned (.bool true) ∧ Below w.heap.size w w' := by
  refine codeUnlike_any w g1 b1 a1 n1 c1 l1 hl1 hv1 hok1 hr1 hc1 hgb1 g2 b2 a2 n2 c2 l2 hl2 hv2 hok2 hr2 hc2 hgb2 _ _ rfl rfl ?_
  rcases shapeE_any b1 l1 with h | h
  · rcases shapeE_any b2 l2 with h2 | h2
    · exact .inr (.inr ⟨h, h2⟩)
    · exact .inr (.inl ⟨h, h2⟩)
  · exact .inl h

end Go.Proofs.Ytpggcpnjcalfaab
