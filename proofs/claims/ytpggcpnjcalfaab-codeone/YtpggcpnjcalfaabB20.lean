/-
  Texts laid together in one: LawCodeOne.
-/
import Derived.WalkKit
import Derived.OwnWalkIn
import Derived.TacticsInMore
import Derived.WalkSpells
import Derived.WalkMore
import Derived.Test.YtpggcpnjcalfaabB19
/-
  The law CodeOne answers true, for every instruction and all bounds.
-/
namespace Go.Proofs.Ytpggcpnjcalfaab
open Go.RowKit Go.Shelf
attribute [local go_sem] Oper.semAt_some
set_option linter.unusedVariables false
set_option linter.unusedSimpArgs false

set_option maxRecDepth 100000 in
set_option maxHeartbeats 4000000 in
/-- An instruction that has no words. -/
theorem codeOne_bad (w : World) (x : InstT) (ax : Option Addr) (n cx : Nat) (hl : x.2.2.2.length = n) (hv : ArgsV w ax x.2.2.2) (hok : InstOk x) (hc : n ≤ cx) (bnd more : Int) (he : rawE x bnd ≠ 0) :
    Calls Try.prog 5 #[instV x ax n cx, .int .u32 bnd, .int .u32 more] w fun e w' => e = .returned (.bool true) ∧ Below w.heap.size w w' := by
  have hn : 24 * n ≤ 140737488351232 := by rw [← hl]; exact hok.2.2.2.2.2.2.2
  have hCp := fun wx (hb : Below w.heap.size w wx) => copyInst_any x ax n cx wx (hv.below hb) hl hn
  have hRw := fun wx g (h : ArgsV wx (some ⟨g, 0, none⟩) x.2.2.2) => raw_any x bnd (some ⟨g, 0, none⟩) n n wx h hok hl
  have e1 : rawWs x bnd = [] := by unfold rawWs; rw [if_neg he]
  have e2 : rawO x bnd = 0 := by unfold rawO; rw [if_neg he]
  rw [e1, e2] at hRw
  have hAw := fun w => awake4_true w
  have heb : (rawE x bnd == 0) = false := by simpa using he
  generalize rawE x bnd = er at *
  have HL : Hid (x.2.2.2.length = n) := hl
  clear hl hv hok he e1 e2
  obtain ⟨xo, xt, xr, xl⟩ := x
  unfold instV at *
  simp only at *
  have hB0 : Below w.heap.size w (w.alloc (.cells #[.int .u16 xo, .int .u32 xt, .int .u32 xr, .slice ax n cx] 43)) := (Below.refl _ w).alloc (Nat.le_refl _) _
  have hC := hCp _ hB0
  have HB0 : Hid _ := hB0
  clear hCp hB0
  go_enter Try.func5, Try.ntmps5
  go_wp2_with fail
  have hB0 := HB0.out
  clear HB0
  generalize w.alloc (.cells #[.int .u16 xo, .int .u32 xt, .int .u32 xr, .slice ax n cx] 43) = W0 at *
  refine hC.mono ?_
  rintro e w1 ⟨g, rfl, hg, hA1, hb1⟩
  have hC2 := hRw _ g hA1
  have hB1 := hB0.trans (hb1.mono hB0.size)
  clear hC hRw hA1 hb1 hB0
  go_wp2_with fail
  refine hC2.mono ?_
  rintro e w2 ⟨hb2, a2, m2, c2, rfl, hm2, hown2⟩
  obtain rfl : 0 = m2 := hm2
  have hB2 := hB1.trans (hb2.mono hB1.size)
  have HB3 : Hid _ := hB2.alloc hB2.size (.cells #[.int .u16 0, .slice a2 0 c2] 46)
  clear hC2 hb2 hB1 hB2 hown2
  go_wp2_with fail
  refine (hAw _).mono ?_
  rintro e w3 ⟨rfl, hb3⟩
  have hB4 := HB3.out.trans (hb3.mono HB3.out.size)
  clear HB3 hb3
  go_wp2
  go_ret
  exact ⟨by simp, hB4⟩

set_option maxRecDepth 100000 in
set_option maxHeartbeats 8000000 in
theorem codeOne_up (w : World) (x : InstT) (ax : Option Addr) (n cx : Nat) (hl : x.2.2.2.length = n) (hv : ArgsV w ax x.2.2.2) (hok : InstOk x) (hc : n ≤ cx) (bnd more : Int) (hmb : more < bnd) (he : rawE x bnd = 0) :
    Calls Try.prog 5 #[instV x ax n cx, .int .u32 bnd, .int .u32 more] w fun e w' => e = .returned (.bool true) ∧ Below w.heap.size w w' := by
  have hn : 24 * n ≤ 140737488351232 := by rw [← hl]; exact hok.2.2.2.2.2.2.2
  have hCp := fun wx (hb : Below w.heap.size w wx) => copyInst_any x ax n cx wx (hv.below hb) hl hn
  have hRw := fun wx g (h : ArgsV wx (some ⟨g, 0, none⟩) x.2.2.2) => raw_any x bnd (some ⟨g, 0, none⟩) n n wx h hok hl
  have hRm := fun wx g (h : ArgsV wx (some ⟨g, 0, none⟩) x.2.2.2) => raw_any x bnd (some ⟨g, 0, none⟩) n n wx h hok hl
  have hle : bnd ≤ bnd := by omega
  obtain ⟨em1, em2⟩ := raw_more he hle
  have e2 : rawO x bnd = x.1 := by unfold rawO; rw [if_pos he]
  have e3 : rawO x bnd = x.1 := by unfold rawO; rw [if_pos em1]
  rw [em1, em2, e3] at hRm
  rw [he, e2] at hRw
  have hiw := instI_words he hle
  have hwi := rawWs_within bnd hok
  have hwl := rawWs_len x bnd
  have hCw := fun wx a2 m2 c2 (h : View .u32 wx a2 (rawWs x bnd)) (hm : (rawWs x bnd).length = m2) => copyWords_any a2 m2 c2 (rawWs x bnd) wx h hm (by omega)
  have hIn := fun wx g m2 (h : View .u32 wx (some ⟨g, 0, none⟩) (rawWs x bnd)) (hm : (rawWs x bnd).length = m2) => inst_any x.1 bnd ⟨g, 0, none⟩ m2 m2 (rawWs x bnd) wx h hm hwi (by omega)
  rw [hiw] at hIn
  have hKi := fun wx a5 m5 c5 (h : ArgsV wx a5 x.2.2.2) (hm : x.2.2.2.length = m5) (hb : Below w.heap.size w wx) => kitInst_any x x a5 ax m5 n c5 cx wx h (hv.below hb) hm hl (by omega) (by omega)
  rw [show decide (x = x) = true by simp] at hKi
  have hWd := fun wx ax ay m c d (h1 : View .u32 wx ax (rawWs x bnd)) (h2 : View .u32 wx ay (rawWs x bnd)) (hm : (rawWs x bnd).length = m) => words_true ax ay m c d (rawWs x bnd) wx h1 h2 hm (by omega)
  have hAw := fun w => awake4_true w
  have hmix : Try.prog.follows .mixedOrders = true := by kernel_rfl
  have hwl' : ∀ m : Nat, (rawWs x bnd).length = m → (m : Int) < 65535 := fun m h => by omega
  generalize rawWs x bnd = zs at *
  have HL : Hid (x.2.2.2.length = n) := hl
  clear hl hv hok he e2 e3 em1 em2 hiw hwi hle hwl
  obtain ⟨xo, xt, xr, xl⟩ := x
  unfold InstR at hIn
  unfold instV at *
  simp only at *
  have hB0 : Below w.heap.size w (w.alloc (.cells #[.int .u16 xo, .int .u32 xt, .int .u32 xr, .slice ax n cx] 43)) := (Below.refl _ w).alloc (Nat.le_refl _) _
  have hC := hCp _ hB0
  have k0 := alloc_new w #[.int .u16 xo, .int .u32 xt, .int .u32 xr, .slice ax n cx] 43
  have HB0 : Hid _ := hB0
  have HK0 : Hid _ := k0
  clear hB0 k0
  refine (callsIn_wide (n := 0)).1 ?_
  refine callsIn_of_wp_marks Try.func5 rfl trivial ?_ rfl
  simp only [Try.ntmps5, List.size_toArray, List.length_cons, List.length_nil, Nat.reduceAdd, Nat.reduceSub, Array.replicate_succ, Array.replicate_zero, List.push_toArray, List.append_toArray, List.nil_append, List.cons_append]
  gi_wp2_with fail
  have hB0 := HB0.out
  have k0 := HK0.out
  clear HB0 HK0
  generalize w.alloc (.cells #[.int .u16 xo, .int .u32 xt, .int .u32 xr, .slice ax n cx] 43) = W0 at *
  have l0 := (Array.getElem?_eq_some_iff.1 k0).1
  refine ⟨trivial, rfl, (callsIn_wide.2 hC).mono ?_⟩
  rintro e w1 ⟨g, rfl, hg, hA1, hb1⟩
  have hC2 := hRw _ g hA1
  clear hC hRw hA1
  gi_wp2_with fail
  refine ⟨trivial, rfl, (callsIn_wide.2 hC2).mono ?_⟩
  rintro e w2 ⟨hb2, a2, m2, c2, rfl, hm2, hown2⟩
  have hb02 := hb1.trans (hb2.mono hb1.size)
  have hb3 : Below w2.heap.size w2 (w2.alloc (.cells #[.int .u16 xo, .slice a2 m2 c2] 46)) := (Below.refl _ w2).alloc (Nat.le_refl _) _
  have hb03 := hb02.trans (hb3.mono hb02.size)
  have HB3 : Hid _ := hB0.trans (hb03.mono hB0.size)
  have HKI : Hid _ := (hb03.block _ l0).trans k0
  have HKR : Hid _ := alloc_new w2 #[.int .u16 xo, .slice a2 m2 c2] 46
  have HV3 : Hid (View .u32 _ a2 zs) := (View.ofOwn hown2 hm2).below hb3
  have HM2 : Hid (zs.length = m2) := hm2
  have hm2i := hwl' m2 hm2
  clear hC2 hb1 hb2 hb02 hb3 hb03 hB0 k0 hown2 hwl' hm2
  gi_wp2_with fail
  have hB3 := HB3.out
  have kI := HKI.out
  have kR := HKR.out
  have hV3 := HV3.out
  clear HB3 HKI HKR HV3
  generalize w2.alloc (.cells #[.int .u16 xo, .slice a2 m2 c2] 46) = W at *
  generalize w2.heap.size = R at *
  have lI := (Array.getElem?_eq_some_iff.1 kI).1
  have lR := (Array.getElem?_eq_some_iff.1 kR).1
  rename_i K0 hK0
  have KEY : ∀ (Bx G : Nat) (a5 : Option Addr) (m5 c5 : Nat) (X : World), Below W.heap.size W X → X.heap[Bx]? = some (.cells #[.int .u16 xo, .int .u32 xt, .int .u32 xr, .slice a5 m5 c5] 43 (0, 0)) → ArgsV X a5 xl → xl.length = m5 → W.heap.size ≤ Bx →
      K0 { tmps := #[.agg #[.int .u16 xo, .int .u32 xt, .int .u32 xr, .slice ax n cx], .int .u32 bnd, .int .u32 bnd, .pointer (some ⟨w.heap.size, 0, none⟩), undef, undef, .bool false, .pointer (some ⟨R, 0, none⟩), .int .i64 0, .pointer (some ⟨Bx, 0, none⟩), .int .i64 0, undef, undef, .tuple #[.agg #[.int .u16 xo, .slice a2 m2 c2], .int .i64 0], .agg #[.int .u16 xo, .int .u32 xt, .int .u32 xr, .slice ax n cx], .agg #[.int .u16 xo, .int .u32 xt, .int .u32 xr, .slice (some ⟨g, 0, none⟩) n n], .int .u32 bnd, .tuple #[.agg #[.int .u16 xo, .slice a2 m2 c2], .int .i64 0], .agg #[.int .u16 xo, .slice a2 m2 c2], .int .i64 0, .int .i64 0, .bool false, undef, undef, undef, undef, undef, undef, undef, undef, undef, undef, undef, undef, .int .u32 more, .int .u32 bnd, .bool true, .int .u32 bnd, .tuple #[.agg #[.int .u16 xo, .int .u32 xt, .int .u32 xr, .slice a5 m5 c5], .int .i64 0], .pointer (some ⟨R, 0, none⟩), .int .u16 xo, .pointer (some ⟨R, 1, none⟩), .slice a2 m2 c2, .slice (some ⟨G, 0, none⟩) m2 m2, .agg #[.int .u16 xo, .slice (some ⟨G, 0, none⟩) m2 m2], .int .u32 bnd, .tuple #[.agg #[.int .u16 xo, .int .u32 xt, .int .u32 xr, .slice a5 m5 c5], .int .i64 0], .agg #[.int .u16 xo, .int .u32 xt, .int .u32 xr, .slice a5 m5 c5], .int .i64 0, undef, undef, undef, undef, undef, undef, undef, undef, undef, undef, undef, undef, undef, undef, undef, undef, undef, undef, undef, undef, undef, undef, undef, undef, undef, undef, undef, undef, undef, undef, undef, undef, undef, undef, undef, undef, undef, undef, undef, undef, undef], defers := [] } X := by
    intro Bx G a5 m5 c5 X hbX kX hA hm hBx
    refine hK0 _ _ ?_
    have lX := (Array.getElem?_eq_some_iff.1 kX).1
    have kIX := (hbX.block _ lI).trans kI
    have kRX := (hbX.block _ lR).trans kR
    have hBw := hB3.trans (hbX.mono hB3.size)
    have hVX := hV3.below hbX
    obtain ⟨x0, x1, x2, x3⟩ := four_cells kIX
    have hC1 := hCp X hBw
    clear hK0 hCw hIn
    gi_wp2_with fail
    refine ⟨trivial, rfl, (callsIn_wide.2 hC1).mono ?_⟩
    rintro e y1 ⟨g1, rfl, hg1, hA1, hb1⟩
    have hC2 := hRm y1 g1 hA1
    clear hC1 hCp hRm x0 x1 x2 x3 hA1
    gi_wp2_with fail
    refine ⟨trivial, rfl, (callsIn_wide.2 hC2).mono ?_⟩
    rintro e y2 ⟨hb2, a6, m6, c6, rfl, hm6, hown6⟩
    obtain rfl : m2 = m6 := by rw [← hm6, HM2.out]
    have hb02 := hb1.trans (hb2.mono hb1.size)
    have hb3 : Below X.heap.size X (y2.alloc (.cells #[.int .u16 xo, .slice a6 m2 c6] 46)) := hb02.alloc hb02.size _
    have hB4 := hBw.trans (hb3.mono hBw.size)
    have sX := hbX.size
    have kx3 := (hb3.block _ lX).trans kX
    have kI3 := (hb3.block _ (by omega)).trans kIX
    have kR3 := (hb3.block _ (by omega)).trans kRX
    have kY := alloc_new y2 #[.int .u16 xo, .slice a6 m2 c6] 46
    have lY := (Array.getElem?_eq_some_iff.1 kY).1
    have hA3 := hA.below hb3
    have hV6 := (View.ofOwn hown6 hm6).below ((Below.refl _ y2).alloc (Nat.le_refl _) (.cells #[.int .u16 xo, .slice a6 m2 c6] 46))
    have hVR := hVX.below hb3
    obtain ⟨x0, x1, x2, x3⟩ := four_cells kx3
    obtain ⟨i0, i1, i2, i3⟩ := four_cells kI3
    have hC4 := hKi _ a5 m5 c5 hA3 hm hB4
    have HV6 : Hid (View .u32 _ a6 zs) := hV6
    have HVR : Hid (View .u32 _ a2 zs) := hVR
    have HKR3 : Hid _ := kR3
    have HKY : Hid _ := kY
    have HB4 : Hid _ := hB4
    have HLY : Hid _ := lY
    have HLR : Hid _ := (Array.getElem?_eq_some_iff.1 kR3).1
    clear hC2 hb1 hb2 hb02 hb3 hB4 hown6 kX kIX kRX hA hA3 hBw hbX hVX hV6 hVR kx3 kI3 kR3 kY lX lY
    gi_wp2_with fail
    refine ⟨trivial, rfl, (callsIn_wide.2 hC4).mono ?_⟩
    rintro e y4 ⟨rfl, hb4⟩
    obtain ⟨z0, z1, _⟩ := cell_of_two ((hb4.block _ HLY.out).trans HKY.out)
    obtain ⟨v0, v1, _⟩ := cell_of_two ((hb4.block _ HLR.out).trans HKR3.out)
    have hB5 := HB4.out.trans (hb4.mono HB4.out.size)
    have hC5 := hWd y4 a6 a2 m2 c6 c2 (HV6.out.below hb4) (HVR.out.below hb4) HM2.out
    have HKR5 : Hid _ := (hb4.block _ HLR.out).trans HKR3.out
    have HLR5 : Hid (R < y4.heap.size) := Nat.lt_of_lt_of_le HLR.out hb4.size
    clear hC4 hKi hWd hb4 HV6 HVR HKR3 HKY HB4 HLY HLR x0 x1 x2 x3 i0 i1 i2 i3
    gi_wp2_with fail
    refine ⟨trivial, rfl, (callsIn_wide.2 hC5).mono ?_⟩
    rintro e y6 ⟨rfl, q, hq⟩
    have hb6 : Below y4.heap.size y4 y6 := by rw [hq]; exact bel_drewN (Below.refl _ _) q
    obtain ⟨_, q1, _⟩ := cell_of_two ((hb6.block _ HLR5.out).trans HKR5.out)
    have hB6 := hB5.trans (hb6.mono hB5.size)
    clear hC5 hq hb6 hB5 z0 z1 v0 v1 HKR5 HLR5
    gi_wp2_with fail
    refine ⟨trivial, rfl, (callsIn_wide.2 (hAw _)).mono ?_⟩
    rintro e y7 ⟨rfl, hb7⟩
    have HB7 : Hid _ := hB6.trans (hb7.mono hB6.size)
    clear hB6 hb7 q1
    gi_wp2_with fail
    exact ⟨.bool true, by simp [results, Try.results5, go_sem], rfl, HB7.out⟩
  clear hK0
  have hC0 : Below W.heap.size W W.drew := below_drew W
  have L0 : Hid (∀ w', Below W.heap.size W w' → w'.cell? ⟨R, 0, none⟩ = some (.int .u16 xo)) := fun w' hC => (one_block ((hC.block _ lR).trans kR)).1 0
  have L1 : Hid (∀ w', Below W.heap.size W w' → w'.cell? ⟨R, 1, none⟩ = some (.slice a2 m2 c2)) := fun w' hC => (one_block ((hC.block _ lR).trans kR)).1 1
  refine wpIn_normal (wpIn_region_any hmix (wpAnyC_sound (C := Below W.heap.size W) _ _ _ _ ?_))
  change wpAnyC _ _ _ _ _ _ _ _ _ _ (World.drew _)
  refine wpAnyC_takeD (i := 0) (some 39) (v := .pointer (some ⟨R, 0, none⟩)) (fun _ => trivial) (by kernel_rfl) rfl rfl (by kernel_rfl) (by kernel_rfl) (by kernel_rfl) (fun _ _ _ h => by cases h.1) hC0 (Or.inl ⟨by kernel_rfl, fun w' hC => by clear hC; go_simp⟩) ?_
  simp only [Act.put, List.setIfInBounds_toArray, List.set_cons_succ, List.set_cons_zero]
  refine wpAnyC_takeD (i := 1) (some 40) (v := .int .u16 xo) (fun _ => trivial) (by kernel_rfl) rfl rfl (by kernel_rfl) (by kernel_rfl) (by kernel_rfl) (fun _ _ _ h => by cases h.1) hC0 (Or.inl ⟨by kernel_rfl, fun w' hC => by have e := L0.out w' hC; clear hC; go_simp⟩) ?_
  simp only [Act.put, List.setIfInBounds_toArray, List.set_cons_succ, List.set_cons_zero]
  refine wpAnyC_takeD (i := 2) (some 41) (v := .pointer (some ⟨R, 1, none⟩)) (fun _ => trivial) (by kernel_rfl) rfl rfl (by kernel_rfl) (by kernel_rfl) (by kernel_rfl) (fun _ _ _ h => by cases h.1) hC0 (Or.inl ⟨by kernel_rfl, fun w' hC => by clear hC; go_simp⟩) ?_
  simp only [Act.put, List.setIfInBounds_toArray, List.set_cons_succ, List.set_cons_zero]
  refine wpAnyC_takeD (i := 3) (some 42) (v := .slice a2 m2 c2) (fun _ => trivial) (by kernel_rfl) rfl rfl (by kernel_rfl) (by kernel_rfl) (by kernel_rfl) (fun _ _ _ h => by cases h.1) hC0 (Or.inl ⟨by kernel_rfl, fun w' hC => by have e := L1.out w' hC; clear hC; go_simp⟩) ?_
  simp only [Act.put, List.setIfInBounds_toArray, List.set_cons_succ, List.set_cons_zero]
  refine wpAnyC_takeD (i := 6) (some 45) (v := .int .u32 bnd) (fun _ => trivial) (by kernel_rfl) rfl rfl (by kernel_rfl) (by kernel_rfl) (by kernel_rfl) (fun _ _ _ h => by cases h.1) hC0 (Or.inl ⟨by kernel_rfl, fun w' hC => by clear hC; go_simp⟩) ?_
  simp only [Act.put, List.setIfInBounds_toArray, List.set_cons_succ, List.set_cons_zero]
  refine wpAnyC_ready (rs := [4, 11]) (by kernel_rfl) (by simp) ?_
  refine AllC.cons rfl (fun K hK => ?_) (AllC.cons rfl (fun K hK => ?_) AllC.nil)
  · go_simp
    refine ⟨trivial, rfl, (callsIn_wide.2 (hCw _ _ _ _ (hV3.below hC0) HM2.out)).mono ?_⟩
    rintro e w3 ⟨rfl, hownw3, hbw3⟩
    dsimp only
    have hCw3 : Below W.heap.size W w3 := hC0.trans (hbw3.mono hC0.size)
    have hVw3 := View.ofOwn hownw3 HM2.out
    refine hK _ _ hCw3 ?_
    clear hK K hownw3
    refine wpAnyC_takeD (i := 5) (some 44) (v := .agg #[.int .u16 xo, .slice (some ⟨W.heap.size, 0, none⟩) m2 m2]) (fun _ => trivial) (by kernel_rfl) rfl rfl (by kernel_rfl) (by kernel_rfl) (by kernel_rfl) (fun _ _ _ h => by cases h.1) hCw3 (Or.inl ⟨by kernel_rfl, fun w' hC => by clear hC; go_simp⟩) ?_
    simp only [Act.put, List.setIfInBounds_toArray, List.set_cons_succ, List.set_cons_zero]
    refine wpAnyC_ready (rs := [7, 11]) (by kernel_rfl) (by simp) ?_
    refine AllC.cons rfl (fun K hK => ?_) (AllC.cons rfl (fun K hK => ?_) AllC.nil)
    · go_simp
      refine ⟨trivial, rfl, (callsIn_wide.2 (hIn _ _ _ hVw3 HM2.out)).mono ?_⟩
      rintro e w4 ⟨hbw4, a5, m5, c5, rfl, hm5, hown5⟩
      dsimp only
      have hCw4 : Below W.heap.size W w4 := hCw3.trans (hbw4.mono hCw3.size)
      refine hK _ _ hCw4 ?_
      clear hK K
      refine wpAnyC_takeD (i := 8) (some 38) (v := .tuple #[.agg #[.int .u16 xo, .int .u32 xt, .int .u32 xr, .slice a5 m5 c5], .int .i64 0]) (fun _ => trivial) (by kernel_rfl) rfl rfl (by kernel_rfl) (by kernel_rfl) (by kernel_rfl) (fun _ _ _ h => by cases h.1) hCw4 (Or.inl ⟨by kernel_rfl, fun w' hC => by clear hC; go_simp⟩) ?_
      simp only [Act.put, List.setIfInBounds_toArray, List.set_cons_succ, List.set_cons_zero]
      refine wpAnyC_takeD (i := 9) (some 47) (v := .agg #[.int .u16 xo, .int .u32 xt, .int .u32 xr, .slice a5 m5 c5]) (fun _ => trivial) (by kernel_rfl) rfl rfl (by kernel_rfl) (by kernel_rfl) (by kernel_rfl) (fun _ _ _ h => by cases h.1) hCw4 (Or.inl ⟨by kernel_rfl, fun w' hC => by clear hC; go_simp⟩) ?_
      simp only [Act.put, List.setIfInBounds_toArray, List.set_cons_succ, List.set_cons_zero]
      refine wpAnyC_takeD (i := 10) (some 48) (v := .int .i64 0) (fun _ => trivial) (by kernel_rfl) rfl rfl (by kernel_rfl) (by kernel_rfl) (by kernel_rfl) (fun _ _ _ h => by cases h.1) hCw4 (Or.inl ⟨by kernel_rfl, fun w' hC => by clear hC; go_simp⟩) ?_
      simp only [Act.put, List.setIfInBounds_toArray, List.set_cons_succ, List.set_cons_zero]
      refine wpAnyC_ready (rs := [11]) (by kernel_rfl) (by simp) ?_
      refine AllC.cons rfl (fun K hK => ?_) AllC.nil
      go_simp
      have hC5 : Below W.heap.size W (w4.alloc (.cells #[.int .u16 0, .int .u32 0, .int .u32 0, .slice none 0 0] 43)) := hCw4.alloc hCw4.size _
      refine hK _ _ hC5 ?_
      clear hK K
      refine wpAnyC_ready (rs := [12]) (by kernel_rfl) (by simp) ?_
      refine AllC.cons rfl (fun K hK => ?_) AllC.nil
      go_simp
      have hC6 : Below W.heap.size W (w4.alloc (.cells #[.int .u16 xo, .int .u32 xt, .int .u32 xr, .slice a5 m5 c5] 43)) := hCw4.alloc hCw4.size _
      refine hK _ _ hC6 ?_
      clear hK K
      refine wpAnyC_takeD (i := 13) (some 10) (v := .int .i64 0) (fun _ => trivial) (by kernel_rfl) rfl rfl (by kernel_rfl) (by kernel_rfl) (by kernel_rfl) (fun _ _ _ h => by cases h.1) hC6 (Or.inl ⟨by kernel_rfl, fun w' hC => by clear hC; go_simp⟩) ?_
      simp only [Act.put, List.setIfInBounds_toArray, List.set_cons_succ, List.set_cons_zero]
      exact wpAnyC_done (by kernel_rfl) ⟨rfl, KEY w4.heap.size W.heap.size a5 m5 c5 _ hC6 (alloc_new w4 _ _) ((argsV_own hown5 hm5).below ((Below.refl _ w4).alloc (Nat.le_refl _) _)) hm5 hCw4.size⟩ _
    · go_simp
      have hC5 : Below W.heap.size W (w3.alloc (.cells #[.int .u16 0, .int .u32 0, .int .u32 0, .slice none 0 0] 43)) := hCw3.alloc hCw3.size _
      refine hK _ _ hC5 ?_
      clear hK K
      have kZ := alloc_new w3 #[.int .u16 0, .int .u32 0, .int .u32 0, .slice none 0 0] 43
      have hV5 := hVw3.below ((Below.refl _ w3).alloc (Nat.le_refl _) (.cells #[.int .u16 0, .int .u32 0, .int .u32 0, .slice none 0 0] 43))
      have hBB : W.heap.size ≤ w3.heap.size := hCw3.size
      have lB : w3.heap.size < (w3.alloc (.cells #[.int .u16 0, .int .u32 0, .int .u32 0, .slice none 0 0] 43)).heap.size := by simp
      generalize w3.alloc (.cells #[.int .u16 0, .int .u32 0, .int .u32 0, .slice none 0 0] 43) = W5 at *
      refine wpAnyC_ready (rs := [7]) (by kernel_rfl) (by simp) ?_
      refine AllC.cons rfl (fun K hK => ?_) AllC.nil
      go_simp
      refine ⟨trivial, rfl, (callsIn_wide.2 (hIn _ _ _ hV5 HM2.out)).mono ?_⟩
      rintro e w4 ⟨hbw4, a5, m5, c5, rfl, hm5, hown5⟩
      dsimp only
      have hCw4 : Below W.heap.size W w4 := hC5.trans (hbw4.mono hC5.size)
      refine hK _ _ hCw4 ?_
      clear hK K
      refine wpAnyC_takeD (i := 8) (some 38) (v := .tuple #[.agg #[.int .u16 xo, .int .u32 xt, .int .u32 xr, .slice a5 m5 c5], .int .i64 0]) (fun _ => trivial) (by kernel_rfl) rfl rfl (by kernel_rfl) (by kernel_rfl) (by kernel_rfl) (fun _ _ _ h => by cases h.1) hCw4 (Or.inl ⟨by kernel_rfl, fun w' hC => by clear hC; go_simp⟩) ?_
      simp only [Act.put, List.setIfInBounds_toArray, List.set_cons_succ, List.set_cons_zero]
      refine wpAnyC_takeD (i := 9) (some 47) (v := .agg #[.int .u16 xo, .int .u32 xt, .int .u32 xr, .slice a5 m5 c5]) (fun _ => trivial) (by kernel_rfl) rfl rfl (by kernel_rfl) (by kernel_rfl) (by kernel_rfl) (fun _ _ _ h => by cases h.1) hCw4 (Or.inl ⟨by kernel_rfl, fun w' hC => by clear hC; go_simp⟩) ?_
      simp only [Act.put, List.setIfInBounds_toArray, List.set_cons_succ, List.set_cons_zero]
      refine wpAnyC_takeD (i := 10) (some 48) (v := .int .i64 0) (fun _ => trivial) (by kernel_rfl) rfl rfl (by kernel_rfl) (by kernel_rfl) (by kernel_rfl) (fun _ _ _ h => by cases h.1) hCw4 (Or.inl ⟨by kernel_rfl, fun w' hC => by clear hC; go_simp⟩) ?_
      simp only [Act.put, List.setIfInBounds_toArray, List.set_cons_succ, List.set_cons_zero]
      have kZ2 := (hbw4.block _ lB).trans kZ
      have hA9 : ArgsV ((((w4.setCell ⟨w3.heap.size, 0, none⟩ (.int .u16 xo)).setCell ⟨w3.heap.size, 1, none⟩ (.int .u32 xt)).setCell ⟨w3.heap.size, 2, none⟩ (.int .u32 xr)).setCell ⟨w3.heap.size, 3, none⟩ (.slice a5 m5 c5)) a5 xl := argsV_own (ownFar (ownFar (ownFar (ownFar hown5 lB _ _) lB _ _) lB _ _) lB _ _) hm5
      refine wpAnyC_ready (rs := [12]) (by kernel_rfl) (by simp) ?_
      refine AllC.cons rfl (fun K hK => ?_) AllC.nil
      obtain ⟨zc, zf⟩ := one_block kZ2
      have z0 := zc 0
      have y0 := zf 0
      have z1 := zc 1
      have y1 := zf 1
      have z2 := zc 2
      have y2 := zf 2
      have z3 := zc 3
      have y3 := zf 3
      go_simp
      have hC9 : Below W.heap.size W ((((w4.setCell ⟨w3.heap.size, 0, none⟩ (.int .u16 xo)).setCell ⟨w3.heap.size, 1, none⟩ (.int .u32 xt)).setCell ⟨w3.heap.size, 2, none⟩ (.int .u32 xr)).setCell ⟨w3.heap.size, 3, none⟩ (.slice a5 m5 c5)) := (((hCw4.setCell hBB _).setCell hBB _).setCell hBB _).setCell hBB _
      refine hK _ _ hC9 ?_
      clear hK K
      refine wpAnyC_takeD (i := 13) (some 10) (v := .int .i64 0) (fun _ => trivial) (by kernel_rfl) rfl rfl (by kernel_rfl) (by kernel_rfl) (by kernel_rfl) (fun _ _ _ h => by cases h.1) hC9 (Or.inl ⟨by kernel_rfl, fun w' hC => by clear hC; go_simp⟩) ?_
      simp only [Act.put, List.setIfInBounds_toArray, List.set_cons_succ, List.set_cons_zero]
      exact wpAnyC_done (by kernel_rfl) ⟨rfl, KEY w3.heap.size W.heap.size a5 m5 c5 _ hC9 (inst_put kZ2 _ _ _ _) hA9 hm5 hBB⟩ _
  · go_simp
    have hC5 : Below W.heap.size W (W.alloc (.cells #[.int .u16 0, .int .u32 0, .int .u32 0, .slice none 0 0] 43)).drew := ((Below.refl _ W).alloc (Nat.le_refl _) _).drew
    refine hK _ _ hC5 ?_
    clear hK K
    have kZ : (W.alloc (.cells #[.int .u16 0, .int .u32 0, .int .u32 0, .slice none 0 0] 43)).drew.heap[W.heap.size]? = some (.cells #[.int .u16 0, .int .u32 0, .int .u32 0, .slice none 0 0] 43 (0, 0)) := alloc_new W _ _
    have lB : W.heap.size < (W.alloc (.cells #[.int .u16 0, .int .u32 0, .int .u32 0, .slice none 0 0] 43)).drew.heap.size := by show _ < (W.alloc _).heap.size; simp
    have hBB : W.heap.size ≤ W.heap.size := Nat.le_refl _
    generalize (W.alloc (.cells #[.int .u16 0, .int .u32 0, .int .u32 0, .slice none 0 0] 43)).drew = W5 at *
    refine wpAnyC_ready (rs := [4]) (by kernel_rfl) (by simp) ?_
    refine AllC.cons rfl (fun K hK => ?_) AllC.nil
    go_simp
    refine ⟨trivial, rfl, (callsIn_wide.2 (hCw _ _ _ _ (hV3.below hC5) HM2.out)).mono ?_⟩
    rintro e w3 ⟨rfl, hownw3, hbw3⟩
    dsimp only
    have hCw3 : Below W.heap.size W w3 := hC5.trans (hbw3.mono hC5.size)
    have hVw3 := View.ofOwn hownw3 HM2.out
    refine hK _ _ hCw3 ?_
    clear hK K hownw3
    refine wpAnyC_takeD (i := 5) (some 44) (v := .agg #[.int .u16 xo, .slice (some ⟨W5.heap.size, 0, none⟩) m2 m2]) (fun _ => trivial) (by kernel_rfl) rfl rfl (by kernel_rfl) (by kernel_rfl) (by kernel_rfl) (fun _ _ _ h => by cases h.1) hCw3 (Or.inl ⟨by kernel_rfl, fun w' hC => by clear hC; go_simp⟩) ?_
    simp only [Act.put, List.setIfInBounds_toArray, List.set_cons_succ, List.set_cons_zero]
    refine wpAnyC_ready (rs := [7]) (by kernel_rfl) (by simp) ?_
    refine AllC.cons rfl (fun K hK => ?_) AllC.nil
    go_simp
    refine ⟨trivial, rfl, (callsIn_wide.2 (hIn _ _ _ hVw3 HM2.out)).mono ?_⟩
    rintro e w4 ⟨hbw4, a5, m5, c5, rfl, hm5, hown5⟩
    dsimp only
    have hCw4 : Below W.heap.size W w4 := hCw3.trans (hbw4.mono hCw3.size)
    refine hK _ _ hCw4 ?_
    clear hK K
    refine wpAnyC_takeD (i := 8) (some 38) (v := .tuple #[.agg #[.int .u16 xo, .int .u32 xt, .int .u32 xr, .slice a5 m5 c5], .int .i64 0]) (fun _ => trivial) (by kernel_rfl) rfl rfl (by kernel_rfl) (by kernel_rfl) (by kernel_rfl) (fun _ _ _ h => by cases h.1) hCw4 (Or.inl ⟨by kernel_rfl, fun w' hC => by clear hC; go_simp⟩) ?_
    simp only [Act.put, List.setIfInBounds_toArray, List.set_cons_succ, List.set_cons_zero]
    refine wpAnyC_takeD (i := 9) (some 47) (v := .agg #[.int .u16 xo, .int .u32 xt, .int .u32 xr, .slice a5 m5 c5]) (fun _ => trivial) (by kernel_rfl) rfl rfl (by kernel_rfl) (by kernel_rfl) (by kernel_rfl) (fun _ _ _ h => by cases h.1) hCw4 (Or.inl ⟨by kernel_rfl, fun w' hC => by clear hC; go_simp⟩) ?_
    simp only [Act.put, List.setIfInBounds_toArray, List.set_cons_succ, List.set_cons_zero]
    refine wpAnyC_takeD (i := 10) (some 48) (v := .int .i64 0) (fun _ => trivial) (by kernel_rfl) rfl rfl (by kernel_rfl) (by kernel_rfl) (by kernel_rfl) (fun _ _ _ h => by cases h.1) hCw4 (Or.inl ⟨by kernel_rfl, fun w' hC => by clear hC; go_simp⟩) ?_
    simp only [Act.put, List.setIfInBounds_toArray, List.set_cons_succ, List.set_cons_zero]
    have lB1 : W.heap.size < w3.heap.size := Nat.lt_of_lt_of_le lB hbw3.size
    have kZ2 := (hbw4.block _ lB1).trans ((hbw3.block _ lB).trans kZ)
    have hA9 : ArgsV ((((w4.setCell ⟨W.heap.size, 0, none⟩ (.int .u16 xo)).setCell ⟨W.heap.size, 1, none⟩ (.int .u32 xt)).setCell ⟨W.heap.size, 2, none⟩ (.int .u32 xr)).setCell ⟨W.heap.size, 3, none⟩ (.slice a5 m5 c5)) a5 xl := argsV_own (ownFar (ownFar (ownFar (ownFar hown5 lB1 _ _) lB1 _ _) lB1 _ _) lB1 _ _) hm5
    refine wpAnyC_ready (rs := [12]) (by kernel_rfl) (by simp) ?_
    refine AllC.cons rfl (fun K hK => ?_) AllC.nil
    obtain ⟨zc, zf⟩ := one_block kZ2
    have z0 := zc 0
    have y0 := zf 0
    have z1 := zc 1
    have y1 := zf 1
    have z2 := zc 2
    have y2 := zf 2
    have z3 := zc 3
    have y3 := zf 3
    go_simp
    have hC9 : Below W.heap.size W ((((w4.setCell ⟨W.heap.size, 0, none⟩ (.int .u16 xo)).setCell ⟨W.heap.size, 1, none⟩ (.int .u32 xt)).setCell ⟨W.heap.size, 2, none⟩ (.int .u32 xr)).setCell ⟨W.heap.size, 3, none⟩ (.slice a5 m5 c5)) := (((hCw4.setCell hBB _).setCell hBB _).setCell hBB _).setCell hBB _
    refine hK _ _ hC9 ?_
    clear hK K
    refine wpAnyC_takeD (i := 13) (some 10) (v := .int .i64 0) (fun _ => trivial) (by kernel_rfl) rfl rfl (by kernel_rfl) (by kernel_rfl) (by kernel_rfl) (fun _ _ _ h => by cases h.1) hC9 (Or.inl ⟨by kernel_rfl, fun w' hC => by clear hC; go_simp⟩) ?_
    simp only [Act.put, List.setIfInBounds_toArray, List.set_cons_succ, List.set_cons_zero]
    exact wpAnyC_done (by kernel_rfl) ⟨rfl, KEY W.heap.size W5.heap.size a5 m5 c5 _ hC9 (inst_put kZ2 _ _ _ _) hA9 hm5 hBB⟩ _

set_option maxRecDepth 100000 in
set_option maxHeartbeats 8000000 in
theorem codeOne_same (w : World) (x : InstT) (ax : Option Addr) (n cx : Nat) (hl : x.2.2.2.length = n) (hv : ArgsV w ax x.2.2.2) (hok : InstOk x) (hc : n ≤ cx) (bnd more : Int) (hmb : ¬ more < bnd) (he : rawE x bnd = 0) :
    Calls Try.prog 5 #[instV x ax n cx, .int .u32 bnd, .int .u32 more] w fun e w' => e = .returned (.bool true) ∧ Below w.heap.size w w' := by
  have hn : 24 * n ≤ 140737488351232 := by rw [← hl]; exact hok.2.2.2.2.2.2.2
  have hCp := fun wx (hb : Below w.heap.size w wx) => copyInst_any x ax n cx wx (hv.below hb) hl hn
  have hRw := fun wx g (h : ArgsV wx (some ⟨g, 0, none⟩) x.2.2.2) => raw_any x bnd (some ⟨g, 0, none⟩) n n wx h hok hl
  have hRm := fun wx g (h : ArgsV wx (some ⟨g, 0, none⟩) x.2.2.2) => raw_any x more (some ⟨g, 0, none⟩) n n wx h hok hl
  have hle : bnd ≤ more := by omega
  obtain ⟨em1, em2⟩ := raw_more he hle
  have e2 : rawO x bnd = x.1 := by unfold rawO; rw [if_pos he]
  have e3 : rawO x more = x.1 := by unfold rawO; rw [if_pos em1]
  rw [em1, em2, e3] at hRm
  rw [he, e2] at hRw
  have hiw := instI_words he hle
  have hwi := rawWs_within bnd hok
  have hwl := rawWs_len x bnd
  have hCw := fun wx a2 m2 c2 (h : View .u32 wx a2 (rawWs x bnd)) (hm : (rawWs x bnd).length = m2) => copyWords_any a2 m2 c2 (rawWs x bnd) wx h hm (by omega)
  have hIn := fun wx g m2 (h : View .u32 wx (some ⟨g, 0, none⟩) (rawWs x bnd)) (hm : (rawWs x bnd).length = m2) => inst_any x.1 more ⟨g, 0, none⟩ m2 m2 (rawWs x bnd) wx h hm hwi (by omega)
  rw [hiw] at hIn
  have hKi := fun wx a5 m5 c5 (h : ArgsV wx a5 x.2.2.2) (hm : x.2.2.2.length = m5) (hb : Below w.heap.size w wx) => kitInst_any x x a5 ax m5 n c5 cx wx h (hv.below hb) hm hl (by omega) (by omega)
  rw [show decide (x = x) = true by simp] at hKi
  have hWd := fun wx ax ay m c d (h1 : View .u32 wx ax (rawWs x bnd)) (h2 : View .u32 wx ay (rawWs x bnd)) (hm : (rawWs x bnd).length = m) => words_true ax ay m c d (rawWs x bnd) wx h1 h2 hm (by omega)
  have hAw := fun w => awake4_true w
  have hmix : Try.prog.follows .mixedOrders = true := by kernel_rfl
  have hwl' : ∀ m : Nat, (rawWs x bnd).length = m → (m : Int) < 65535 := fun m h => by omega
  generalize rawWs x bnd = zs at *
  have HL : Hid (x.2.2.2.length = n) := hl
  have hmb' : decide (more < bnd) = false := decide_eq_false hmb
  clear hl hv hok he e2 e3 em1 em2 hiw hwi hle hwl hmb
  obtain ⟨xo, xt, xr, xl⟩ := x
  unfold InstR at hIn
  unfold instV at *
  simp only at *
  have hB0 : Below w.heap.size w (w.alloc (.cells #[.int .u16 xo, .int .u32 xt, .int .u32 xr, .slice ax n cx] 43)) := (Below.refl _ w).alloc (Nat.le_refl _) _
  have hC := hCp _ hB0
  have k0 := alloc_new w #[.int .u16 xo, .int .u32 xt, .int .u32 xr, .slice ax n cx] 43
  have HB0 : Hid _ := hB0
  have HK0 : Hid _ := k0
  clear hB0 k0
  refine (callsIn_wide (n := 0)).1 ?_
  refine callsIn_of_wp_marks Try.func5 rfl trivial ?_ rfl
  simp only [Try.ntmps5, List.size_toArray, List.length_cons, List.length_nil, Nat.reduceAdd, Nat.reduceSub, Array.replicate_succ, Array.replicate_zero, List.push_toArray, List.append_toArray, List.nil_append, List.cons_append]
  gi_wp2_with fail
  have hB0 := HB0.out
  have k0 := HK0.out
  clear HB0 HK0
  generalize w.alloc (.cells #[.int .u16 xo, .int .u32 xt, .int .u32 xr, .slice ax n cx] 43) = W0 at *
  have l0 := (Array.getElem?_eq_some_iff.1 k0).1
  refine ⟨trivial, rfl, (callsIn_wide.2 hC).mono ?_⟩
  rintro e w1 ⟨g, rfl, hg, hA1, hb1⟩
  have hC2 := hRw _ g hA1
  clear hC hRw hA1
  gi_wp2_with fail
  refine ⟨trivial, rfl, (callsIn_wide.2 hC2).mono ?_⟩
  rintro e w2 ⟨hb2, a2, m2, c2, rfl, hm2, hown2⟩
  have hb02 := hb1.trans (hb2.mono hb1.size)
  have hb3 : Below w2.heap.size w2 (w2.alloc (.cells #[.int .u16 xo, .slice a2 m2 c2] 46)) := (Below.refl _ w2).alloc (Nat.le_refl _) _
  have hb03 := hb02.trans (hb3.mono hb02.size)
  have HB3 : Hid _ := hB0.trans (hb03.mono hB0.size)
  have HKI : Hid _ := (hb03.block _ l0).trans k0
  have HKR : Hid _ := alloc_new w2 #[.int .u16 xo, .slice a2 m2 c2] 46
  have HV3 : Hid (View .u32 _ a2 zs) := (View.ofOwn hown2 hm2).below hb3
  have HM2 : Hid (zs.length = m2) := hm2
  have hm2i := hwl' m2 hm2
  clear hC2 hb1 hb2 hb02 hb3 hb03 hB0 k0 hown2 hwl' hm2
  gi_wp2_with fail
  have hB3 := HB3.out
  have kI := HKI.out
  have kR := HKR.out
  have hV3 := HV3.out
  clear HB3 HKI HKR HV3
  generalize w2.alloc (.cells #[.int .u16 xo, .slice a2 m2 c2] 46) = W at *
  generalize w2.heap.size = R at *
  have lI := (Array.getElem?_eq_some_iff.1 kI).1
  have lR := (Array.getElem?_eq_some_iff.1 kR).1
  rename_i K0 hK0
  have KEY : ∀ (Bx G : Nat) (a5 : Option Addr) (m5 c5 : Nat) (X : World), Below W.heap.size W X → X.heap[Bx]? = some (.cells #[.int .u16 xo, .int .u32 xt, .int .u32 xr, .slice a5 m5 c5] 43 (0, 0)) → ArgsV X a5 xl → xl.length = m5 → W.heap.size ≤ Bx →
      K0 { tmps := #[.agg #[.int .u16 xo, .int .u32 xt, .int .u32 xr, .slice ax n cx], .int .u32 bnd, .int .u32 more, .pointer (some ⟨w.heap.size, 0, none⟩), undef, undef, .bool false, .pointer (some ⟨R, 0, none⟩), .int .i64 0, .pointer (some ⟨Bx, 0, none⟩), .int .i64 0, undef, undef, .tuple #[.agg #[.int .u16 xo, .slice a2 m2 c2], .int .i64 0], .agg #[.int .u16 xo, .int .u32 xt, .int .u32 xr, .slice ax n cx], .agg #[.int .u16 xo, .int .u32 xt, .int .u32 xr, .slice (some ⟨g, 0, none⟩) n n], .int .u32 bnd, .tuple #[.agg #[.int .u16 xo, .slice a2 m2 c2], .int .i64 0], .agg #[.int .u16 xo, .slice a2 m2 c2], .int .i64 0, .int .i64 0, .bool false, undef, undef, undef, undef, undef, undef, undef, undef, undef, undef, undef, undef, .int .u32 more, .int .u32 bnd, .bool false, undef, .tuple #[.agg #[.int .u16 xo, .int .u32 xt, .int .u32 xr, .slice a5 m5 c5], .int .i64 0], .pointer (some ⟨R, 0, none⟩), .int .u16 xo, .pointer (some ⟨R, 1, none⟩), .slice a2 m2 c2, .slice (some ⟨G, 0, none⟩) m2 m2, .agg #[.int .u16 xo, .slice (some ⟨G, 0, none⟩) m2 m2], .int .u32 more, .tuple #[.agg #[.int .u16 xo, .int .u32 xt, .int .u32 xr, .slice a5 m5 c5], .int .i64 0], .agg #[.int .u16 xo, .int .u32 xt, .int .u32 xr, .slice a5 m5 c5], .int .i64 0, undef, undef, undef, undef, undef, undef, undef, undef, undef, undef, undef, undef, undef, undef, undef, undef, undef, undef, undef, undef, undef, undef, undef, undef, undef, undef, undef, undef, undef, undef, undef, undef, undef, undef, undef, undef, undef, undef, undef, undef, undef], defers := [] } X := by
    intro Bx G a5 m5 c5 X hbX kX hA hm hBx
    refine hK0 _ _ ?_
    have lX := (Array.getElem?_eq_some_iff.1 kX).1
    have kIX := (hbX.block _ lI).trans kI
    have kRX := (hbX.block _ lR).trans kR
    have hBw := hB3.trans (hbX.mono hB3.size)
    have hVX := hV3.below hbX
    obtain ⟨x0, x1, x2, x3⟩ := four_cells kIX
    have hC1 := hCp X hBw
    clear hK0 hCw hIn
    gi_wp2_with fail
    refine ⟨trivial, rfl, (callsIn_wide.2 hC1).mono ?_⟩
    rintro e y1 ⟨g1, rfl, hg1, hA1, hb1⟩
    have hC2 := hRm y1 g1 hA1
    clear hC1 hCp hRm x0 x1 x2 x3 hA1
    gi_wp2_with fail
    refine ⟨trivial, rfl, (callsIn_wide.2 hC2).mono ?_⟩
    rintro e y2 ⟨hb2, a6, m6, c6, rfl, hm6, hown6⟩
    obtain rfl : m2 = m6 := by rw [← hm6, HM2.out]
    have hb02 := hb1.trans (hb2.mono hb1.size)
    have hb3 : Below X.heap.size X (y2.alloc (.cells #[.int .u16 xo, .slice a6 m2 c6] 46)) := hb02.alloc hb02.size _
    have hB4 := hBw.trans (hb3.mono hBw.size)
    have sX := hbX.size
    have kx3 := (hb3.block _ lX).trans kX
    have kI3 := (hb3.block _ (by omega)).trans kIX
    have kR3 := (hb3.block _ (by omega)).trans kRX
    have kY := alloc_new y2 #[.int .u16 xo, .slice a6 m2 c6] 46
    have lY := (Array.getElem?_eq_some_iff.1 kY).1
    have hA3 := hA.below hb3
    have hV6 := (View.ofOwn hown6 hm6).below ((Below.refl _ y2).alloc (Nat.le_refl _) (.cells #[.int .u16 xo, .slice a6 m2 c6] 46))
    have hVR := hVX.below hb3
    obtain ⟨x0, x1, x2, x3⟩ := four_cells kx3
    obtain ⟨i0, i1, i2, i3⟩ := four_cells kI3
    have hC4 := hKi _ a5 m5 c5 hA3 hm hB4
    have HV6 : Hid (View .u32 _ a6 zs) := hV6
    have HVR : Hid (View .u32 _ a2 zs) := hVR
    have HKR3 : Hid _ := kR3
    have HKY : Hid _ := kY
    have HB4 : Hid _ := hB4
    have HLY : Hid _ := lY
    have HLR : Hid _ := (Array.getElem?_eq_some_iff.1 kR3).1
    clear hC2 hb1 hb2 hb02 hb3 hB4 hown6 kX kIX kRX hA hA3 hBw hbX hVX hV6 hVR kx3 kI3 kR3 kY lX lY
    gi_wp2_with fail
    refine ⟨trivial, rfl, (callsIn_wide.2 hC4).mono ?_⟩
    rintro e y4 ⟨rfl, hb4⟩
    obtain ⟨z0, z1, _⟩ := cell_of_two ((hb4.block _ HLY.out).trans HKY.out)
    obtain ⟨v0, v1, _⟩ := cell_of_two ((hb4.block _ HLR.out).trans HKR3.out)
    have hB5 := HB4.out.trans (hb4.mono HB4.out.size)
    have hC5 := hWd y4 a6 a2 m2 c6 c2 (HV6.out.below hb4) (HVR.out.below hb4) HM2.out
    have HKR5 : Hid _ := (hb4.block _ HLR.out).trans HKR3.out
    have HLR5 : Hid (R < y4.heap.size) := Nat.lt_of_lt_of_le HLR.out hb4.size
    clear hC4 hKi hWd hb4 HV6 HVR HKR3 HKY HB4 HLY HLR x0 x1 x2 x3 i0 i1 i2 i3
    gi_wp2_with fail
    refine ⟨trivial, rfl, (callsIn_wide.2 hC5).mono ?_⟩
    rintro e y6 ⟨rfl, q, hq⟩
    have hb6 : Below y4.heap.size y4 y6 := by rw [hq]; exact bel_drewN (Below.refl _ _) q
    obtain ⟨_, q1, _⟩ := cell_of_two ((hb6.block _ HLR5.out).trans HKR5.out)
    have hB6 := hB5.trans (hb6.mono hB5.size)
    clear hC5 hq hb6 hB5 z0 z1 v0 v1 HKR5 HLR5
    gi_wp2_with fail
    refine ⟨trivial, rfl, (callsIn_wide.2 (hAw _)).mono ?_⟩
    rintro e y7 ⟨rfl, hb7⟩
    have HB7 : Hid _ := hB6.trans (hb7.mono hB6.size)
    clear hB6 hb7 q1
    gi_wp2_with fail
    exact ⟨.bool true, by simp [results, Try.results5, go_sem], rfl, HB7.out⟩
  clear hK0
  have hC0 : Below W.heap.size W W.drew := below_drew W
  have L0 : Hid (∀ w', Below W.heap.size W w' → w'.cell? ⟨R, 0, none⟩ = some (.int .u16 xo)) := fun w' hC => (one_block ((hC.block _ lR).trans kR)).1 0
  have L1 : Hid (∀ w', Below W.heap.size W w' → w'.cell? ⟨R, 1, none⟩ = some (.slice a2 m2 c2)) := fun w' hC => (one_block ((hC.block _ lR).trans kR)).1 1
  refine wpIn_normal (wpIn_region_any hmix (wpAnyC_sound (C := Below W.heap.size W) _ _ _ _ ?_))
  change wpAnyC _ _ _ _ _ _ _ _ _ _ (World.drew _)
  refine wpAnyC_takeD (i := 0) (some 39) (v := .pointer (some ⟨R, 0, none⟩)) (fun _ => trivial) (by kernel_rfl) rfl rfl (by kernel_rfl) (by kernel_rfl) (by kernel_rfl) (fun _ _ _ h => by cases h.1) hC0 (Or.inl ⟨by kernel_rfl, fun w' hC => by clear hC; go_simp⟩) ?_
  simp only [Act.put, List.setIfInBounds_toArray, List.set_cons_succ, List.set_cons_zero]
  refine wpAnyC_takeD (i := 1) (some 40) (v := .int .u16 xo) (fun _ => trivial) (by kernel_rfl) rfl rfl (by kernel_rfl) (by kernel_rfl) (by kernel_rfl) (fun _ _ _ h => by cases h.1) hC0 (Or.inl ⟨by kernel_rfl, fun w' hC => by have e := L0.out w' hC; clear hC; go_simp⟩) ?_
  simp only [Act.put, List.setIfInBounds_toArray, List.set_cons_succ, List.set_cons_zero]
  refine wpAnyC_takeD (i := 2) (some 41) (v := .pointer (some ⟨R, 1, none⟩)) (fun _ => trivial) (by kernel_rfl) rfl rfl (by kernel_rfl) (by kernel_rfl) (by kernel_rfl) (fun _ _ _ h => by cases h.1) hC0 (Or.inl ⟨by kernel_rfl, fun w' hC => by clear hC; go_simp⟩) ?_
  simp only [Act.put, List.setIfInBounds_toArray, List.set_cons_succ, List.set_cons_zero]
  refine wpAnyC_takeD (i := 3) (some 42) (v := .slice a2 m2 c2) (fun _ => trivial) (by kernel_rfl) rfl rfl (by kernel_rfl) (by kernel_rfl) (by kernel_rfl) (fun _ _ _ h => by cases h.1) hC0 (Or.inl ⟨by kernel_rfl, fun w' hC => by have e := L1.out w' hC; clear hC; go_simp⟩) ?_
  simp only [Act.put, List.setIfInBounds_toArray, List.set_cons_succ, List.set_cons_zero]
  refine wpAnyC_takeD (i := 6) (some 45) (v := .int .u32 more) (fun _ => trivial) (by kernel_rfl) rfl rfl (by kernel_rfl) (by kernel_rfl) (by kernel_rfl) (fun _ _ _ h => by cases h.1) hC0 (Or.inl ⟨by kernel_rfl, fun w' hC => by clear hC; go_simp⟩) ?_
  simp only [Act.put, List.setIfInBounds_toArray, List.set_cons_succ, List.set_cons_zero]
  refine wpAnyC_ready (rs := [4, 11]) (by kernel_rfl) (by simp) ?_
  refine AllC.cons rfl (fun K hK => ?_) (AllC.cons rfl (fun K hK => ?_) AllC.nil)
  · go_simp
    refine ⟨trivial, rfl, (callsIn_wide.2 (hCw _ _ _ _ (hV3.below hC0) HM2.out)).mono ?_⟩
    rintro e w3 ⟨rfl, hownw3, hbw3⟩
    dsimp only
    have hCw3 : Below W.heap.size W w3 := hC0.trans (hbw3.mono hC0.size)
    have hVw3 := View.ofOwn hownw3 HM2.out
    refine hK _ _ hCw3 ?_
    clear hK K hownw3
    refine wpAnyC_takeD (i := 5) (some 44) (v := .agg #[.int .u16 xo, .slice (some ⟨W.heap.size, 0, none⟩) m2 m2]) (fun _ => trivial) (by kernel_rfl) rfl rfl (by kernel_rfl) (by kernel_rfl) (by kernel_rfl) (fun _ _ _ h => by cases h.1) hCw3 (Or.inl ⟨by kernel_rfl, fun w' hC => by clear hC; go_simp⟩) ?_
    simp only [Act.put, List.setIfInBounds_toArray, List.set_cons_succ, List.set_cons_zero]
    refine wpAnyC_ready (rs := [7, 11]) (by kernel_rfl) (by simp) ?_
    refine AllC.cons rfl (fun K hK => ?_) (AllC.cons rfl (fun K hK => ?_) AllC.nil)
    · go_simp
      refine ⟨trivial, rfl, (callsIn_wide.2 (hIn _ _ _ hVw3 HM2.out)).mono ?_⟩
      rintro e w4 ⟨hbw4, a5, m5, c5, rfl, hm5, hown5⟩
      dsimp only
      have hCw4 : Below W.heap.size W w4 := hCw3.trans (hbw4.mono hCw3.size)
      refine hK _ _ hCw4 ?_
      clear hK K
      refine wpAnyC_takeD (i := 8) (some 38) (v := .tuple #[.agg #[.int .u16 xo, .int .u32 xt, .int .u32 xr, .slice a5 m5 c5], .int .i64 0]) (fun _ => trivial) (by kernel_rfl) rfl rfl (by kernel_rfl) (by kernel_rfl) (by kernel_rfl) (fun _ _ _ h => by cases h.1) hCw4 (Or.inl ⟨by kernel_rfl, fun w' hC => by clear hC; go_simp⟩) ?_
      simp only [Act.put, List.setIfInBounds_toArray, List.set_cons_succ, List.set_cons_zero]
      refine wpAnyC_takeD (i := 9) (some 47) (v := .agg #[.int .u16 xo, .int .u32 xt, .int .u32 xr, .slice a5 m5 c5]) (fun _ => trivial) (by kernel_rfl) rfl rfl (by kernel_rfl) (by kernel_rfl) (by kernel_rfl) (fun _ _ _ h => by cases h.1) hCw4 (Or.inl ⟨by kernel_rfl, fun w' hC => by clear hC; go_simp⟩) ?_
      simp only [Act.put, List.setIfInBounds_toArray, List.set_cons_succ, List.set_cons_zero]
      refine wpAnyC_takeD (i := 10) (some 48) (v := .int .i64 0) (fun _ => trivial) (by kernel_rfl) rfl rfl (by kernel_rfl) (by kernel_rfl) (by kernel_rfl) (fun _ _ _ h => by cases h.1) hCw4 (Or.inl ⟨by kernel_rfl, fun w' hC => by clear hC; go_simp⟩) ?_
      simp only [Act.put, List.setIfInBounds_toArray, List.set_cons_succ, List.set_cons_zero]
      refine wpAnyC_ready (rs := [11]) (by kernel_rfl) (by simp) ?_
      refine AllC.cons rfl (fun K hK => ?_) AllC.nil
      go_simp
      have hC5 : Below W.heap.size W (w4.alloc (.cells #[.int .u16 0, .int .u32 0, .int .u32 0, .slice none 0 0] 43)) := hCw4.alloc hCw4.size _
      refine hK _ _ hC5 ?_
      clear hK K
      refine wpAnyC_ready (rs := [12]) (by kernel_rfl) (by simp) ?_
      refine AllC.cons rfl (fun K hK => ?_) AllC.nil
      go_simp
      have hC6 : Below W.heap.size W (w4.alloc (.cells #[.int .u16 xo, .int .u32 xt, .int .u32 xr, .slice a5 m5 c5] 43)) := hCw4.alloc hCw4.size _
      refine hK _ _ hC6 ?_
      clear hK K
      refine wpAnyC_takeD (i := 13) (some 10) (v := .int .i64 0) (fun _ => trivial) (by kernel_rfl) rfl rfl (by kernel_rfl) (by kernel_rfl) (by kernel_rfl) (fun _ _ _ h => by cases h.1) hC6 (Or.inl ⟨by kernel_rfl, fun w' hC => by clear hC; go_simp⟩) ?_
      simp only [Act.put, List.setIfInBounds_toArray, List.set_cons_succ, List.set_cons_zero]
      exact wpAnyC_done (by kernel_rfl) ⟨rfl, KEY w4.heap.size W.heap.size a5 m5 c5 _ hC6 (alloc_new w4 _ _) ((argsV_own hown5 hm5).below ((Below.refl _ w4).alloc (Nat.le_refl _) _)) hm5 hCw4.size⟩ _
    · go_simp
      have hC5 : Below W.heap.size W (w3.alloc (.cells #[.int .u16 0, .int .u32 0, .int .u32 0, .slice none 0 0] 43)) := hCw3.alloc hCw3.size _
      refine hK _ _ hC5 ?_
      clear hK K
      have kZ := alloc_new w3 #[.int .u16 0, .int .u32 0, .int .u32 0, .slice none 0 0] 43
      have hV5 := hVw3.below ((Below.refl _ w3).alloc (Nat.le_refl _) (.cells #[.int .u16 0, .int .u32 0, .int .u32 0, .slice none 0 0] 43))
      have hBB : W.heap.size ≤ w3.heap.size := hCw3.size
      have lB : w3.heap.size < (w3.alloc (.cells #[.int .u16 0, .int .u32 0, .int .u32 0, .slice none 0 0] 43)).heap.size := by simp
      generalize w3.alloc (.cells #[.int .u16 0, .int .u32 0, .int .u32 0, .slice none 0 0] 43) = W5 at *
      refine wpAnyC_ready (rs := [7]) (by kernel_rfl) (by simp) ?_
      refine AllC.cons rfl (fun K hK => ?_) AllC.nil
      go_simp
      refine ⟨trivial, rfl, (callsIn_wide.2 (hIn _ _ _ hV5 HM2.out)).mono ?_⟩
      rintro e w4 ⟨hbw4, a5, m5, c5, rfl, hm5, hown5⟩
      dsimp only
      have hCw4 : Below W.heap.size W w4 := hC5.trans (hbw4.mono hC5.size)
      refine hK _ _ hCw4 ?_
      clear hK K
      refine wpAnyC_takeD (i := 8) (some 38) (v := .tuple #[.agg #[.int .u16 xo, .int .u32 xt, .int .u32 xr, .slice a5 m5 c5], .int .i64 0]) (fun _ => trivial) (by kernel_rfl) rfl rfl (by kernel_rfl) (by kernel_rfl) (by kernel_rfl) (fun _ _ _ h => by cases h.1) hCw4 (Or.inl ⟨by kernel_rfl, fun w' hC => by clear hC; go_simp⟩) ?_
      simp only [Act.put, List.setIfInBounds_toArray, List.set_cons_succ, List.set_cons_zero]
      refine wpAnyC_takeD (i := 9) (some 47) (v := .agg #[.int .u16 xo, .int .u32 xt, .int .u32 xr, .slice a5 m5 c5]) (fun _ => trivial) (by kernel_rfl) rfl rfl (by kernel_rfl) (by kernel_rfl) (by kernel_rfl) (fun _ _ _ h => by cases h.1) hCw4 (Or.inl ⟨by kernel_rfl, fun w' hC => by clear hC; go_simp⟩) ?_
      simp only [Act.put, List.setIfInBounds_toArray, List.set_cons_succ, List.set_cons_zero]
      refine wpAnyC_takeD (i := 10) (some 48) (v := .int .i64 0) (fun _ => trivial) (by kernel_rfl) rfl rfl (by kernel_rfl) (by kernel_rfl) (by kernel_rfl) (fun _ _ _ h => by cases h.1) hCw4 (Or.inl ⟨by kernel_rfl, fun w' hC => by clear hC; go_simp⟩) ?_
      simp only [Act.put, List.setIfInBounds_toArray, List.set_cons_succ, List.set_cons_zero]
      have kZ2 := (hbw4.block _ lB).trans kZ
      have hA9 : ArgsV ((((w4.setCell ⟨w3.heap.size, 0, none⟩ (.int .u16 xo)).setCell ⟨w3.heap.size, 1, none⟩ (.int .u32 xt)).setCell ⟨w3.heap.size, 2, none⟩ (.int .u32 xr)).setCell ⟨w3.heap.size, 3, none⟩ (.slice a5 m5 c5)) a5 xl := argsV_own (ownFar (ownFar (ownFar (ownFar hown5 lB _ _) lB _ _) lB _ _) lB _ _) hm5
      refine wpAnyC_ready (rs := [12]) (by kernel_rfl) (by simp) ?_
      refine AllC.cons rfl (fun K hK => ?_) AllC.nil
      obtain ⟨zc, zf⟩ := one_block kZ2
      have z0 := zc 0
      have y0 := zf 0
      have z1 := zc 1
      have y1 := zf 1
      have z2 := zc 2
      have y2 := zf 2
      have z3 := zc 3
      have y3 := zf 3
      go_simp
      have hC9 : Below W.heap.size W ((((w4.setCell ⟨w3.heap.size, 0, none⟩ (.int .u16 xo)).setCell ⟨w3.heap.size, 1, none⟩ (.int .u32 xt)).setCell ⟨w3.heap.size, 2, none⟩ (.int .u32 xr)).setCell ⟨w3.heap.size, 3, none⟩ (.slice a5 m5 c5)) := (((hCw4.setCell hBB _).setCell hBB _).setCell hBB _).setCell hBB _
      refine hK _ _ hC9 ?_
      clear hK K
      refine wpAnyC_takeD (i := 13) (some 10) (v := .int .i64 0) (fun _ => trivial) (by kernel_rfl) rfl rfl (by kernel_rfl) (by kernel_rfl) (by kernel_rfl) (fun _ _ _ h => by cases h.1) hC9 (Or.inl ⟨by kernel_rfl, fun w' hC => by clear hC; go_simp⟩) ?_
      simp only [Act.put, List.setIfInBounds_toArray, List.set_cons_succ, List.set_cons_zero]
      exact wpAnyC_done (by kernel_rfl) ⟨rfl, KEY w3.heap.size W.heap.size a5 m5 c5 _ hC9 (inst_put kZ2 _ _ _ _) hA9 hm5 hBB⟩ _
  · go_simp
    have hC5 : Below W.heap.size W (W.alloc (.cells #[.int .u16 0, .int .u32 0, .int .u32 0, .slice none 0 0] 43)).drew := ((Below.refl _ W).alloc (Nat.le_refl _) _).drew
    refine hK _ _ hC5 ?_
    clear hK K
    have kZ : (W.alloc (.cells #[.int .u16 0, .int .u32 0, .int .u32 0, .slice none 0 0] 43)).drew.heap[W.heap.size]? = some (.cells #[.int .u16 0, .int .u32 0, .int .u32 0, .slice none 0 0] 43 (0, 0)) := alloc_new W _ _
    have lB : W.heap.size < (W.alloc (.cells #[.int .u16 0, .int .u32 0, .int .u32 0, .slice none 0 0] 43)).drew.heap.size := by show _ < (W.alloc _).heap.size; simp
    have hBB : W.heap.size ≤ W.heap.size := Nat.le_refl _
    generalize (W.alloc (.cells #[.int .u16 0, .int .u32 0, .int .u32 0, .slice none 0 0] 43)).drew = W5 at *
    refine wpAnyC_ready (rs := [4]) (by kernel_rfl) (by simp) ?_
    refine AllC.cons rfl (fun K hK => ?_) AllC.nil
    go_simp
    refine ⟨trivial, rfl, (callsIn_wide.2 (hCw _ _ _ _ (hV3.below hC5) HM2.out)).mono ?_⟩
    rintro e w3 ⟨rfl, hownw3, hbw3⟩
    dsimp only
    have hCw3 : Below W.heap.size W w3 := hC5.trans (hbw3.mono hC5.size)
    have hVw3 := View.ofOwn hownw3 HM2.out
    refine hK _ _ hCw3 ?_
    clear hK K hownw3
    refine wpAnyC_takeD (i := 5) (some 44) (v := .agg #[.int .u16 xo, .slice (some ⟨W5.heap.size, 0, none⟩) m2 m2]) (fun _ => trivial) (by kernel_rfl) rfl rfl (by kernel_rfl) (by kernel_rfl) (by kernel_rfl) (fun _ _ _ h => by cases h.1) hCw3 (Or.inl ⟨by kernel_rfl, fun w' hC => by clear hC; go_simp⟩) ?_
    simp only [Act.put, List.setIfInBounds_toArray, List.set_cons_succ, List.set_cons_zero]
    refine wpAnyC_ready (rs := [7]) (by kernel_rfl) (by simp) ?_
    refine AllC.cons rfl (fun K hK => ?_) AllC.nil
    go_simp
    refine ⟨trivial, rfl, (callsIn_wide.2 (hIn _ _ _ hVw3 HM2.out)).mono ?_⟩
    rintro e w4 ⟨hbw4, a5, m5, c5, rfl, hm5, hown5⟩
    dsimp only
    have hCw4 : Below W.heap.size W w4 := hCw3.trans (hbw4.mono hCw3.size)
    refine hK _ _ hCw4 ?_
    clear hK K
    refine wpAnyC_takeD (i := 8) (some 38) (v := .tuple #[.agg #[.int .u16 xo, .int .u32 xt, .int .u32 xr, .slice a5 m5 c5], .int .i64 0]) (fun _ => trivial) (by kernel_rfl) rfl rfl (by kernel_rfl) (by kernel_rfl) (by kernel_rfl) (fun _ _ _ h => by cases h.1) hCw4 (Or.inl ⟨by kernel_rfl, fun w' hC => by clear hC; go_simp⟩) ?_
    simp only [Act.put, List.setIfInBounds_toArray, List.set_cons_succ, List.set_cons_zero]
    refine wpAnyC_takeD (i := 9) (some 47) (v := .agg #[.int .u16 xo, .int .u32 xt, .int .u32 xr, .slice a5 m5 c5]) (fun _ => trivial) (by kernel_rfl) rfl rfl (by kernel_rfl) (by kernel_rfl) (by kernel_rfl) (fun _ _ _ h => by cases h.1) hCw4 (Or.inl ⟨by kernel_rfl, fun w' hC => by clear hC; go_simp⟩) ?_
    simp only [Act.put, List.setIfInBounds_toArray, List.set_cons_succ, List.set_cons_zero]
    refine wpAnyC_takeD (i := 10) (some 48) (v := .int .i64 0) (fun _ => trivial) (by kernel_rfl) rfl rfl (by kernel_rfl) (by kernel_rfl) (by kernel_rfl) (fun _ _ _ h => by cases h.1) hCw4 (Or.inl ⟨by kernel_rfl, fun w' hC => by clear hC; go_simp⟩) ?_
    simp only [Act.put, List.setIfInBounds_toArray, List.set_cons_succ, List.set_cons_zero]
    have lB1 : W.heap.size < w3.heap.size := Nat.lt_of_lt_of_le lB hbw3.size
    have kZ2 := (hbw4.block _ lB1).trans ((hbw3.block _ lB).trans kZ)
    have hA9 : ArgsV ((((w4.setCell ⟨W.heap.size, 0, none⟩ (.int .u16 xo)).setCell ⟨W.heap.size, 1, none⟩ (.int .u32 xt)).setCell ⟨W.heap.size, 2, none⟩ (.int .u32 xr)).setCell ⟨W.heap.size, 3, none⟩ (.slice a5 m5 c5)) a5 xl := argsV_own (ownFar (ownFar (ownFar (ownFar hown5 lB1 _ _) lB1 _ _) lB1 _ _) lB1 _ _) hm5
    refine wpAnyC_ready (rs := [12]) (by kernel_rfl) (by simp) ?_
    refine AllC.cons rfl (fun K hK => ?_) AllC.nil
    obtain ⟨zc, zf⟩ := one_block kZ2
    have z0 := zc 0
    have y0 := zf 0
    have z1 := zc 1
    have y1 := zf 1
    have z2 := zc 2
    have y2 := zf 2
    have z3 := zc 3
    have y3 := zf 3
    go_simp
    have hC9 : Below W.heap.size W ((((w4.setCell ⟨W.heap.size, 0, none⟩ (.int .u16 xo)).setCell ⟨W.heap.size, 1, none⟩ (.int .u32 xt)).setCell ⟨W.heap.size, 2, none⟩ (.int .u32 xr)).setCell ⟨W.heap.size, 3, none⟩ (.slice a5 m5 c5)) := (((hCw4.setCell hBB _).setCell hBB _).setCell hBB _).setCell hBB _
    refine hK _ _ hC9 ?_
    clear hK K
    refine wpAnyC_takeD (i := 13) (some 10) (v := .int .i64 0) (fun _ => trivial) (by kernel_rfl) rfl rfl (by kernel_rfl) (by kernel_rfl) (by kernel_rfl) (fun _ _ _ h => by cases h.1) hC9 (Or.inl ⟨by kernel_rfl, fun w' hC => by clear hC; go_simp⟩) ?_
    simp only [Act.put, List.setIfInBounds_toArray, List.set_cons_succ, List.set_cons_zero]
    exact wpAnyC_done (by kernel_rfl) ⟨rfl, KEY W.heap.size W5.heap.size a5 m5 c5 _ hC9 (inst_put kZ2 _ _ _ _) hA9 hm5 hBB⟩ _

theorem codeOne_true (w : World) (x : InstT) (ax : Option Addr) (n cx : Nat) (hl : x.2.2.2.length = n) (hv : ArgsV w ax x.2.2.2) (hok : InstOk x) (hc : n ≤ cx) (bnd : Int) (_hbw : (Lit.int .u32 bnd).wf = true) (more : Int) (_hmw : (Lit.int .u32 more).wf = true) :
    Calls Try.prog 5 #[instV x ax n cx, .int .u32 bnd, .int .u32 more] w fun e w' => e = .returned (.bool true) ∧ Below w.heap.size w w' := by
  by_cases he : rawE x bnd = 0
  · by_cases hm : more < bnd
    · exact codeOne_up w x ax n cx hl hv hok hc bnd more hm he
    · exact codeOne_same w x ax n cx hl hv hok hc bnd more hm he
  · exact codeOne_bad w x ax n cx hl hv hok hc bnd more he

end Go.Proofs.Ytpggcpnjcalfaab
