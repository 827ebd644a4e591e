/-
  Texts laid together in one: LawCodeForth.
-/
import Derived.WalkKit
import Derived.OwnWalkIn
import Derived.TacticsInMore
import Derived.WalkSpells
import Derived.WalkMore
import Derived.Test.YtpggcpnjcalfaabB19
import Derived.Test.YtpggcpnjcalfaabB02
import Derived.Test.YtpggcpnjcalfaabB18
/-
  The law CodeForth answers true, for every module.
-/
namespace Go.Proofs.Ytpggcpnjcalfaab
open Go.RowKit Go.Shelf
attribute [local go_sem] Oper.semAt_some
set_option linter.unusedVariables false
set_option linter.unusedSimpArgs false

set_option maxRecDepth 100000 in
set_option maxHeartbeats 4000000 in
/-- A module that is not of good shape. -/
theorem codeForth_bad (w : World) (gen bnd : Int) (a : Option Addr) (n cap : Nat) (l : List InstT) (hl : l.length = n) (hv : InstsV w a l) (hok : InstsOk l) (hr : 40 * n ≤ 140737488351232) (hc : n ≤ cap) (hgb : 0 ≤ gen ∧ gen < 4294967296 ∧ 0 ≤ bnd ∧ bnd < 4294967296) (he : (shapeE bnd l).1 ≠ 0) :
    Calls Try.prog 3 #[modV gen bnd a n cap] w fun e w' => e = .returned (.bool true) ∧ Below w.heap.size w w' := by
  obtain ⟨hg0, hg1, hb0, hb1⟩ := hgb
  have hCp := fun wx (hb : Below w.heap.size w wx) => copyModule_any gen bnd a n cap l wx (hv.below hb) hok hl hr
  have hSh := fun wx g c (h : InstsV wx (some ⟨g, 0, none⟩) l) => codeShape_any gen bnd (some ⟨g, 0, none⟩) n c l wx hg0 hg1 hb0 hb1 h hok hl hr
  have hEn := fun wx g c (h : InstsV wx (some ⟨g, 0, none⟩) l) => encode_any gen bnd (some ⟨g, 0, none⟩) n c l wx hg0 hg1 hb0 hb1 h hok hl hr
  have hAw := fun w => awake4_true w
  have e1 : encL gen bnd l = [] := by unfold encL; rw [if_neg he]
  rw [e1] at hEn
  have heb : ((shapeE bnd l).1 == 0) = false := by simpa using he
  generalize (shapeE bnd l).1 = er at *
  generalize (shapeE bnd l).2 = ea at *
  have HL : Hid (l.length = n) := hl
  unfold modV at *
  clear hl hv hok he e1
  have hB0 : Below w.heap.size w (w.alloc (.cells #[.int .u32 gen, .int .u32 bnd, .slice a n cap] 25)) := (Below.refl _ w).alloc (Nat.le_refl _) _
  have hC := hCp _ hB0
  have k0 := alloc_new w #[.int .u32 gen, .int .u32 bnd, .slice a n cap] 25
  have HB0 : Hid _ := hB0
  have HK0 : Hid _ := k0
  clear hB0 k0
  go_enter Try.func3, Try.ntmps3
  go_wp2_with fail
  have hB0 := HB0.out
  have k0 := HK0.out
  clear HB0 HK0
  generalize w.alloc (.cells #[.int .u32 gen, .int .u32 bnd, .slice a n cap] 25) = W0 at *
  have l0 := (Array.getElem?_eq_some_iff.1 k0).1
  refine hC.mono ?_
  rintro e w1 ⟨g1, rfl, hg1', hV1, hb1'⟩
  have hC2 := hSh w1 g1 n hV1
  clear hC hSh hV1
  go_wp2_with fail
  refine hC2.mono ?_
  rintro e w2 ⟨rfl, hb2⟩
  have hb02 := hb1'.trans (hb2.mono hb1'.size)
  have hb3 : Below W0.heap.size W0 (w2.alloc (.cells #[.int .i64 er, .int .i64 (ea : Int)] 28)) := hb02.alloc hb02.size _
  have kS := alloc_new w2 #[.int .i64 er, .int .i64 (ea : Int)] 28
  have lS := (Array.getElem?_eq_some_iff.1 kS).1
  have k3 := (hb3.block _ l0).trans k0
  obtain ⟨m3, _⟩ := one_block k3
  have m0 := m3 0
  have m1 := m3 1
  have m2 := m3 2
  have hB3 := hB0.trans (hb3.mono hB0.size)
  have hC4 := hCp _ hB3
  have HB3 : Hid _ := hB3
  have HKS : Hid _ := kS
  have HLS : Hid _ := lS
  clear hC2 hb1' hb2 hb02 hb3 hB0 k0 hB3 kS m3 k3 lS hCp
  go_wp2_with fail
  have hB3 := HB3.out
  have kS := HKS.out
  have lS := HLS.out
  clear HB3 HKS HLS m0 m1 m2
  generalize w2.alloc (.cells #[.int .i64 er, .int .i64 (ea : Int)] 28) = W3 at *
  refine hC4.mono ?_
  rintro e w4 ⟨g4, rfl, hg4, hV4, hb4⟩
  have hC5 := hEn w4 g4 n hV4
  clear hC4 hEn hV4
  go_wp2_with fail
  refine hC5.mono ?_
  rintro e w5 ⟨hb5, ax, m, rfl, hm, _⟩
  obtain rfl : 0 = m := hm
  have hb35 := hb4.trans (hb5.mono hb4.size)
  have hb6 : Below W3.heap.size W3 (w5.alloc (.cells #[.int .i64 er, .int .i64 (ea : Int)] 28)) := hb35.alloc hb35.size _
  obtain ⟨s0, s1, _⟩ := cell_of_two ((hb6.block _ lS).trans kS)
  obtain ⟨t0, t1, _⟩ := cell_of_two (alloc_new w5 #[.int .i64 er, .int .i64 (ea : Int)] 28)
  have HB6 : Hid _ := hB3.trans (hb6.mono hB3.size)
  clear hC5 hb4 hb5 hb35 hb6 hB3 kS
  go_wp2_with fail
  refine (hAw _).mono ?_
  rintro e w7 ⟨rfl, hb7⟩
  have hB7 := HB6.out.trans (hb7.mono HB6.out.size)
  clear HB6 hb7 s0 s1 t0 t1
  go_wp2
  go_ret
  exact ⟨by simp, hB7⟩

set_option maxRecDepth 100000 in
set_option maxHeartbeats 8000000 in
/-- A module of good shape. -/
theorem codeForth_good (w : World) (gen bnd : Int) (a : Option Addr) (n cap : Nat) (l : List InstT) (hl : l.length = n) (hv : InstsV w a l) (hok : InstsOk l) (hr : 40 * n ≤ 140737488351232) (hc : n ≤ cap) (hgb : 0 ≤ gen ∧ gen < 4294967296 ∧ 0 ≤ bnd ∧ bnd < 4294967296) (he : shapeE bnd l = (0, 0)) :
    Calls Try.prog 3 #[modV gen bnd a n cap] w fun e w' => e = .returned (.bool true) ∧ Below w.heap.size w w' := by
  obtain ⟨hg0, hg1, hb0, hb1⟩ := hgb
  have hCp := fun wx (hb : Below w.heap.size w wx) => copyModule_any gen bnd a n cap l wx (hv.below hb) hok hl hr
  have hSh := fun wx g c (h : InstsV wx (some ⟨g, 0, none⟩) l) => codeShape_any gen bnd (some ⟨g, 0, none⟩) n c l wx hg0 hg1 hb0 hb1 h hok hl hr
  have hEn := fun wx g c (h : InstsV wx (some ⟨g, 0, none⟩) l) => encode_any gen bnd (some ⟨g, 0, none⟩) n c l wx hg0 hg1 hb0 hb1 h hok hl hr
  have hAw := fun w => awake4_true w
  obtain ⟨d1, d2, d3, d4, d5, d6⟩ := dec_enc hg0 hg1 hb0 hb1 hok (by rw [he])
  have hDe := fun wx ax m c (h : View .u8 wx ax (encL gen bnd l)) (hm : (encL gen bnd l).length = m) => decode_any ax m c (encL gen bnd l) wx h hm d6
  rw [d1, d2, d3, d4] at hDe
  rw [he] at hSh hEn
  have hMo := fun wx ax m cx (h : InstsV wx ax l) (hm : l.length = m) (hb : Below w.heap.size w wx) => kitModule_any gen bnd gen bnd l l ax a m n cx cap wx h (hv.below hb) hm hl hok hok (by omega) (by omega) true (by simp)
  have hSa := fun wx ax m cx g c (h : InstsV wx ax l) (hm : l.length = m) (h2 : InstsV wx (some ⟨g, 0, none⟩) l) => same_any gen bnd gen bnd l l ax (some ⟨g, 0, none⟩) m n cx c wx h h2 hm hl hok hok (by omega) (by omega) true (by simp)
  have hmix : Try.prog.follows .mixedOrders = true := by kernel_rfl
  have h20 : ∀ m : Nat, (encL gen bnd l).length = m → (20 : Int) ≤ (m : Int) := fun m h => by omega
  generalize encL gen bnd l = bs at *
  have HL : Hid (l.length = n) := hl
  unfold modV at *
  clear hl hv hok he d1 d2 d3 d4 d5 d6
  have hB0 : Below w.heap.size w (w.alloc (.cells #[.int .u32 gen, .int .u32 bnd, .slice a n cap] 25)) := (Below.refl _ w).alloc (Nat.le_refl _) _
  have hC := hCp _ hB0
  have k0 := alloc_new w #[.int .u32 gen, .int .u32 bnd, .slice a n cap] 25
  have HB0 : Hid _ := hB0
  have HK0 : Hid _ := k0
  clear hB0 k0
  refine (callsIn_wide (n := 0)).1 ?_
  refine callsIn_of_wp_marks Try.func3 rfl trivial ?_ rfl
  simp only [Try.ntmps3, List.size_toArray, List.length_cons, List.length_nil, Nat.reduceAdd, Nat.reduceSub, Array.replicate_succ, Array.replicate_zero, List.push_toArray, List.append_toArray, List.nil_append, List.cons_append]
  gi_wp2_with fail
  have hB0 := HB0.out
  have k0 := HK0.out
  clear HB0 HK0
  generalize w.alloc (.cells #[.int .u32 gen, .int .u32 bnd, .slice a n cap] 25) = W0 at *
  have l0 := (Array.getElem?_eq_some_iff.1 k0).1
  refine ⟨trivial, rfl, (callsIn_wide.2 hC).mono ?_⟩
  rintro e w1 ⟨g1, rfl, hg1', hV1, hb1'⟩
  have hC2 := hSh w1 g1 n hV1
  clear hC hSh hV1
  gi_wp2_with fail
  refine ⟨trivial, rfl, (callsIn_wide.2 hC2).mono ?_⟩
  rintro e w2 ⟨rfl, hb2⟩
  have hz : ((0 : Nat) : Int) = 0 := rfl
  have hb02 := hb1'.trans (hb2.mono hb1'.size)
  have hb3 : Below W0.heap.size W0 (w2.alloc (.cells #[.int .i64 0, .int .i64 0] 28)) := hb02.alloc hb02.size _
  have kS := alloc_new w2 #[.int .i64 0, .int .i64 0] 28
  have lS := (Array.getElem?_eq_some_iff.1 kS).1
  have k3 := (hb3.block _ l0).trans k0
  obtain ⟨m3, _⟩ := one_block k3
  have m0 := m3 0
  have m1 := m3 1
  have m2 := m3 2
  have hB3 := hB0.trans (hb3.mono hB0.size)
  have hC4 := hCp _ hB3
  have HB3 : Hid _ := hB3
  have HKS : Hid _ := kS
  have HLS : Hid _ := lS
  have HK3 : Hid _ := k3
  clear hC2 hb1' hb2 hb02 hb3 hB0 k0 hB3 kS m3 k3 lS
  gi_wp2_with fail
  have hB3 := HB3.out
  have kS := HKS.out
  have lS := HLS.out
  have k3 := HK3.out
  clear HB3 HKS HLS HK3 m0 m1 m2
  generalize w2.alloc (.cells #[.int .i64 0, .int .i64 0] 28) = W3 at *
  have l3 := (Array.getElem?_eq_some_iff.1 k3).1
  refine ⟨trivial, rfl, (callsIn_wide.2 hC4).mono ?_⟩
  rintro e w4 ⟨g4, rfl, hg4, hV4, hb4⟩
  have hC5 := hEn w4 g4 n hV4
  clear hC4 hEn hV4
  gi_wp2_with fail
  refine ⟨trivial, rfl, (callsIn_wide.2 hC5).mono ?_⟩
  rintro e w5 ⟨hb5, ax, m, rfl, hm, hown5⟩
  have hb35 := hb4.trans (hb5.mono hb4.size)
  have hb6 : Below W3.heap.size W3 (w5.alloc (.cells #[.int .i64 0, .int .i64 0] 28)) := hb35.alloc hb35.size _
  have kT := alloc_new w5 #[.int .i64 0, .int .i64 0] 28
  have lT := (Array.getElem?_eq_some_iff.1 kT).1
  have hC6 := hDe _ ax m m ((View.ofOwn hown5 hm).below ((Below.refl _ w5).alloc (Nat.le_refl _) (.cells #[.int .i64 0, .int .i64 0] 28))) hm
  have HM20 : Hid ((20 : Int) ≤ (m : Int)) := h20 m hm
  obtain ⟨s0, s1, _⟩ := cell_of_two ((hb6.block _ lS).trans kS)
  have HB6 : Hid _ := hB3.trans (hb6.mono hB3.size)
  have HK6 : Hid _ := (hb6.block _ l3).trans k3
  have HKT : Hid _ := kT
  have HLT : Hid _ := lT
  clear hC5 hb4 hb5 hb35 hb6 hB3 kS hown5 hDe k3 kT lT h20 hm
  gi_wp2_with fail
  have hB6 := HB6.out
  have k6 := HK6.out
  have kT := HKT.out
  have lT := HLT.out
  clear HB6 HK6 HKT HLT s0 s1
  generalize w5.alloc (.cells #[.int .i64 0, .int .i64 0] 28) = W6 at *
  have l6 := (Array.getElem?_eq_some_iff.1 k6).1
  refine ⟨trivial, rfl, (callsIn_wide.2 hC6).mono ?_⟩
  rintro e w7 ⟨hb7, ay, m7, cy, rfl, hm7, hO7⟩
  have hb8 : Below w7.heap.size w7 ((w7.alloc (.cells #[.int .u32 gen, .int .u32 bnd, .slice ay m7 cy] 25)).alloc (.cells #[.int .i64 0, .int .i64 0] 28)) := ((Below.refl _ w7).alloc (Nat.le_refl _) _).alloc (by simp) _
  have hb68 := hb7.trans (hb8.mono hb7.size)
  have HB8 : Hid _ := hB6.trans (hb68.mono hB6.size)
  have HK8 : Hid _ := (hb68.block _ l6).trans k6
  have HT8 : Hid _ := (hb68.block _ lT).trans kT
  have HM8 : Hid (((w7.alloc (.cells #[.int .u32 gen, .int .u32 bnd, .slice ay m7 cy] 25)).alloc (.cells #[.int .i64 0, .int .i64 0] 28)).heap[w7.heap.size]? = some (.cells #[.int .u32 gen, .int .u32 bnd, .slice ay m7 cy] 25 (0, 0))) := (Below.heap_alloc _ _ _ (by simp)).trans (alloc_new w7 _ _)
  have HU8 : Hid (((w7.alloc (.cells #[.int .u32 gen, .int .u32 bnd, .slice ay m7 cy] 25)).alloc (.cells #[.int .i64 0, .int .i64 0] 28)).heap[w7.heap.size + 1]? = some (.cells #[.int .i64 0, .int .i64 0] 28 (0, 0))) := by show _ = _; simpa using alloc_new (w7.alloc (.cells #[.int .u32 gen, .int .u32 bnd, .slice ay m7 cy] 25)) #[.int .i64 0, .int .i64 0] 28
  have HV8 : Hid (InstsV _ ay l) := hO7.view.below hb8
  have HM7 : Hid (l.length = m7) := hm7
  clear hC6 hb7 hb8 hb68 hB6 k6 kT hO7 hm7
  gi_wp2_with fail
  have hB := HB8.out
  have kM := HK8.out
  have kT := HT8.out
  have kX := HM8.out
  have kU := HU8.out
  have hV := HV8.out
  clear HB8 HK8 HT8 HM8 HU8 HV8
  generalize (w7.alloc (.cells #[.int .u32 gen, .int .u32 bnd, .slice ay m7 cy] 25)).alloc (.cells #[.int .i64 0, .int .i64 0] 28) = W at *
  generalize w5.heap.size = BT at *
  generalize w7.heap.size = BX at *
  have l1 := (Array.getElem?_eq_some_iff.1 kM).1
  have l2 := (Array.getElem?_eq_some_iff.1 kT).1
  have l4 := (Array.getElem?_eq_some_iff.1 kX).1
  have l5 := (Array.getElem?_eq_some_iff.1 kU).1
  have hC0 : Below W.heap.size W W.drew := below_drew W
  have LT : Hid (∀ w', Below W.heap.size W w' → w'.cell? ⟨BT, 0, none⟩ = some (.int .i64 0)) := fun w' hC => (one_block ((hC.block _ l2).trans kT)).1 0
  have LU : Hid (∀ w', Below W.heap.size W w' → w'.cell? ⟨BX + 1, 0, none⟩ = some (.int .i64 0)) := fun w' hC => (one_block ((hC.block _ l5).trans kU)).1 0
  have LX : Hid (∀ w', Below W.heap.size W w' → w'.cell? ⟨BX, 0, none⟩ = some (.int .u32 gen) ∧ w'.cell? ⟨BX, 1, none⟩ = some (.int .u32 bnd) ∧ w'.cell? ⟨BX, 2, none⟩ = some (.slice ay m7 cy)) := fun w' hC => by
    obtain ⟨hc, _⟩ := one_block ((hC.block _ l4).trans kX)
    exact ⟨hc 0, hc 1, hc 2⟩
  have LM : Hid (∀ w', Below W.heap.size W w' → w'.cell? ⟨w.heap.size, 0, none⟩ = some (.int .u32 gen) ∧ w'.cell? ⟨w.heap.size, 1, none⟩ = some (.int .u32 bnd) ∧ w'.cell? ⟨w.heap.size, 2, none⟩ = some (.slice a n cap)) := fun w' hC => by
    obtain ⟨hc, _⟩ := one_block ((hC.block _ l1).trans kM)
    exact ⟨hc 0, hc 1, hc 2⟩
  refine wpIn_normal (wpIn_region_any hmix (wpAnyC_sound (C := Below W.heap.size W) _ _ _ _ ?_))
  change wpAnyC _ _ _ _ _ _ _ _ _ _ (World.drew _)
  refine wpAnyC_takeD (i := 0) (some 36) (v := .pointer (some ⟨BT, 0, none⟩)) (fun _ => trivial) (by kernel_rfl) rfl rfl (by kernel_rfl) (by kernel_rfl) (by kernel_rfl) (fun _ _ _ h => by cases h.1) hC0 (Or.inl ⟨by kernel_rfl, fun w' hC => by clear hC; go_simp⟩) ?_
  simp only [Act.put, List.setIfInBounds_toArray, List.set_cons_succ, List.set_cons_zero]
  refine wpAnyC_takeD (i := 1) (some 37) (v := .int .i64 0) (fun _ => trivial) (by kernel_rfl) rfl rfl (by kernel_rfl) (by kernel_rfl) (by kernel_rfl) (fun _ _ _ h => by cases h.1) hC0 (Or.inl ⟨by kernel_rfl, fun w' hC => by have e := LT.out w' hC; clear hC; go_simp⟩) ?_
  simp only [Act.put, List.setIfInBounds_toArray, List.set_cons_succ, List.set_cons_zero]
  refine wpAnyC_takeD (i := 2) (some 38) (v := .bool true) (fun _ => trivial) (by kernel_rfl) rfl rfl (by kernel_rfl) (by kernel_rfl) (by kernel_rfl) (fun _ _ _ h => by cases h.1) hC0 (Or.inl ⟨by kernel_rfl, fun w' hC => by clear hC; go_simp⟩) ?_
  simp only [Act.put, List.setIfInBounds_toArray, List.set_cons_succ, List.set_cons_zero]
  refine wpAnyC_takeD (i := 3) (some 39) (v := .bool true) (fun _ => trivial) (by kernel_rfl) rfl rfl (by kernel_rfl) (by kernel_rfl) (by kernel_rfl) (fun _ _ _ h => by cases h.1) hC0 (Or.inl ⟨by kernel_rfl, fun w' hC => by clear hC; go_simp⟩) ?_
  simp only [Act.put, List.setIfInBounds_toArray, List.set_cons_succ, List.set_cons_zero]
  refine wpAnyC_takeD (i := 4) (some 40) (v := .slice ax m m) (fun _ => trivial) (by kernel_rfl) rfl rfl (by kernel_rfl) (by kernel_rfl) (by kernel_rfl) (fun _ _ _ h => by cases h.1) hC0 (Or.inl ⟨by kernel_rfl, fun w' hC => by clear hC; go_simp⟩) ?_
  simp only [Act.put, List.setIfInBounds_toArray, List.set_cons_succ, List.set_cons_zero]
  refine wpAnyC_takeD (i := 5) (some 41) (v := .int .i64 m) (fun _ => trivial) (by kernel_rfl) rfl rfl (by kernel_rfl) (by kernel_rfl) (by kernel_rfl) (fun _ _ _ h => by cases h.1) hC0 (Or.inl ⟨by kernel_rfl, fun w' hC => by clear hC; go_simp⟩) ?_
  simp only [Act.put, List.setIfInBounds_toArray, List.set_cons_succ, List.set_cons_zero]
  refine wpAnyC_takeD (i := 6) (some 42) (v := .bool true) (fun _ => trivial) (by kernel_rfl) rfl rfl (by kernel_rfl) (by kernel_rfl) (by kernel_rfl) (fun _ _ _ h => by cases h.1) hC0 (Or.inl ⟨by kernel_rfl, fun w' hC => by clear hC; go_simp; exact HM20.out⟩) ?_
  simp only [Act.put, List.setIfInBounds_toArray, List.set_cons_succ, List.set_cons_zero]
  refine wpAnyC_takeD (i := 7) (some 43) (v := .bool true) (fun _ => trivial) (by kernel_rfl) rfl rfl (by kernel_rfl) (by kernel_rfl) (by kernel_rfl) (fun _ _ _ h => by cases h.1) hC0 (Or.inl ⟨by kernel_rfl, fun w' hC => by clear hC; go_simp⟩) ?_
  simp only [Act.put, List.setIfInBounds_toArray, List.set_cons_succ, List.set_cons_zero]
  refine wpAnyC_takeD (i := 8) (some 44) (v := .bool true) (fun _ => trivial) (by kernel_rfl) rfl rfl (by kernel_rfl) (by kernel_rfl) (by kernel_rfl) (fun _ _ _ h => by cases h.1) hC0 (Or.inl ⟨by kernel_rfl, fun w' hC => by clear hC; go_simp⟩) ?_
  simp only [Act.put, List.setIfInBounds_toArray, List.set_cons_succ, List.set_cons_zero]
  refine wpAnyC_takeD (i := 9) (some 45) (v := .pointer (some ⟨BX + 1, 0, none⟩)) (fun _ => trivial) (by kernel_rfl) rfl rfl (by kernel_rfl) (by kernel_rfl) (by kernel_rfl) (fun _ _ _ h => by cases h.1) hC0 (Or.inl ⟨by kernel_rfl, fun w' hC => by clear hC; go_simp⟩) ?_
  simp only [Act.put, List.setIfInBounds_toArray, List.set_cons_succ, List.set_cons_zero]
  refine wpAnyC_takeD (i := 10) (some 46) (v := .int .i64 0) (fun _ => trivial) (by kernel_rfl) rfl rfl (by kernel_rfl) (by kernel_rfl) (by kernel_rfl) (fun _ _ _ h => by cases h.1) hC0 (Or.inl ⟨by kernel_rfl, fun w' hC => by have e := LU.out w' hC; clear hC; go_simp⟩) ?_
  simp only [Act.put, List.setIfInBounds_toArray, List.set_cons_succ, List.set_cons_zero]
  refine wpAnyC_takeD (i := 11) (some 47) (v := .bool true) (fun _ => trivial) (by kernel_rfl) rfl rfl (by kernel_rfl) (by kernel_rfl) (by kernel_rfl) (fun _ _ _ h => by cases h.1) hC0 (Or.inl ⟨by kernel_rfl, fun w' hC => by clear hC; go_simp⟩) ?_
  simp only [Act.put, List.setIfInBounds_toArray, List.set_cons_succ, List.set_cons_zero]
  refine wpAnyC_takeD (i := 12) (some 48) (v := .bool true) (fun _ => trivial) (by kernel_rfl) rfl rfl (by kernel_rfl) (by kernel_rfl) (by kernel_rfl) (fun _ _ _ h => by cases h.1) hC0 (Or.inl ⟨by kernel_rfl, fun w' hC => by clear hC; go_simp⟩) ?_
  simp only [Act.put, List.setIfInBounds_toArray, List.set_cons_succ, List.set_cons_zero]
  refine wpAnyC_takeD (i := 13) (some 49) (v := .bool true) (fun _ => trivial) (by kernel_rfl) rfl rfl (by kernel_rfl) (by kernel_rfl) (by kernel_rfl) (fun _ _ _ h => by cases h.1) hC0 (Or.inl ⟨by kernel_rfl, fun w' hC => by clear hC; go_simp⟩) ?_
  simp only [Act.put, List.setIfInBounds_toArray, List.set_cons_succ, List.set_cons_zero]
  refine wpAnyC_takeD (i := 14) (some 50) (v := .agg #[.int .u32 gen, .int .u32 bnd, .slice ay m7 cy]) (fun _ => trivial) (by kernel_rfl) rfl rfl (by kernel_rfl) (by kernel_rfl) (by kernel_rfl) (fun _ _ _ h => by cases h.1) hC0 (Or.inl ⟨by kernel_rfl, fun w' hC => by obtain ⟨e0, e1, e2⟩ := LX.out w' hC; clear hC; go_simp⟩) ?_
  simp only [Act.put, List.setIfInBounds_toArray, List.set_cons_succ, List.set_cons_zero]
  refine wpAnyC_takeD (i := 15) (some 51) (v := .agg #[.int .u32 gen, .int .u32 bnd, .slice a n cap]) (fun _ => trivial) (by kernel_rfl) rfl rfl (by kernel_rfl) (by kernel_rfl) (by kernel_rfl) (fun _ _ _ h => by cases h.1) hC0 (Or.inl ⟨by kernel_rfl, fun w' hC => by obtain ⟨e0, e1, e2⟩ := LM.out w' hC; clear hC; go_simp⟩) ?_
  simp only [Act.put, List.setIfInBounds_toArray, List.set_cons_succ, List.set_cons_zero]
  refine wpAnyC_ready (rs := [16]) (by kernel_rfl) (by simp) ?_
  refine AllC.cons rfl (fun K hK => ?_) AllC.nil
  go_simp
  refine ⟨trivial, rfl, (callsIn_wide.2 (hMo _ _ _ _ (hV.below hC0) HM7.out (hB.trans (hC0.mono hB.size)))).mono ?_⟩
  rintro e y1 ⟨rfl, hb1'⟩
  dsimp only
  have hC1 : Below W.heap.size W y1 := hC0.trans hb1'
  refine hK _ _ hC1 ?_
  clear hK K hb1'
  refine wpAnyC_takeD (i := 17) (some 53) (v := .bool true) (fun _ => trivial) (by kernel_rfl) rfl rfl (by kernel_rfl) (by kernel_rfl) (by kernel_rfl) (fun _ _ _ h => by cases h.1) hC1 (Or.inl ⟨by kernel_rfl, fun w' hC => by clear hC; go_simp⟩) ?_
  simp only [Act.put, List.setIfInBounds_toArray, List.set_cons_succ, List.set_cons_zero]
  refine wpAnyC_takeD (i := 18) (some 54) (v := .bool true) (fun _ => trivial) (by kernel_rfl) rfl rfl (by kernel_rfl) (by kernel_rfl) (by kernel_rfl) (fun _ _ _ h => by cases h.1) hC1 (Or.inl ⟨by kernel_rfl, fun w' hC => by clear hC; go_simp⟩) ?_
  simp only [Act.put, List.setIfInBounds_toArray, List.set_cons_succ, List.set_cons_zero]
  refine wpAnyC_takeD (i := 19) (some 55) (v := .agg #[.int .u32 gen, .int .u32 bnd, .slice ay m7 cy]) (fun _ => trivial) (by kernel_rfl) rfl rfl (by kernel_rfl) (by kernel_rfl) (by kernel_rfl) (fun _ _ _ h => by cases h.1) hC1 (Or.inl ⟨by kernel_rfl, fun w' hC => by obtain ⟨e0, e1, e2⟩ := LX.out w' hC; clear hC; go_simp⟩) ?_
  simp only [Act.put, List.setIfInBounds_toArray, List.set_cons_succ, List.set_cons_zero]
  refine wpAnyC_takeD (i := 20) (some 56) (v := .agg #[.int .u32 gen, .int .u32 bnd, .slice a n cap]) (fun _ => trivial) (by kernel_rfl) rfl rfl (by kernel_rfl) (by kernel_rfl) (by kernel_rfl) (fun _ _ _ h => by cases h.1) hC1 (Or.inl ⟨by kernel_rfl, fun w' hC => by obtain ⟨e0, e1, e2⟩ := LM.out w' hC; clear hC; go_simp⟩) ?_
  simp only [Act.put, List.setIfInBounds_toArray, List.set_cons_succ, List.set_cons_zero]
  refine wpAnyC_ready (rs := [21]) (by kernel_rfl) (by simp) ?_
  refine AllC.cons rfl (fun K hK => ?_) AllC.nil
  go_simp
  refine ⟨trivial, rfl, (callsIn_wide.2 (hCp _ (hB.trans (hC1.mono hB.size)))).mono ?_⟩
  rintro e y2 ⟨g2, rfl, _, hV2, hb2'⟩
  dsimp only
  have hC2 : Below W.heap.size W y2 := hC1.trans (hb2'.mono hC1.size)
  refine hK _ _ hC2 ?_
  clear hK K hb2'
  refine wpAnyC_ready (rs := [22]) (by kernel_rfl) (by simp) ?_
  refine AllC.cons rfl (fun K hK => ?_) AllC.nil
  go_simp
  refine ⟨trivial, rfl, (callsIn_wide.2 (hSa _ _ _ _ _ _ (hV.below hC2) HM7.out hV2)).mono ?_⟩
  rintro e y3 ⟨rfl, hb3'⟩
  dsimp only
  have hC3 : Below W.heap.size W y3 := hC2.trans (hb3'.mono hC2.size)
  refine hK _ _ hC3 ?_
  clear hK K hb3'
  refine wpAnyC_takeD (i := 23) (some 59) (v := .bool true) (fun _ => trivial) (by kernel_rfl) rfl rfl (by kernel_rfl) (by kernel_rfl) (by kernel_rfl) (fun _ _ _ h => by cases h.1) hC3 (Or.inl ⟨by kernel_rfl, fun w' hC => by clear hC; go_simp⟩) ?_
  simp only [Act.put, List.setIfInBounds_toArray, List.set_cons_succ, List.set_cons_zero]
  refine wpAnyC_takeD (i := 24) (some 60) (v := .bool true) (fun _ => trivial) (by kernel_rfl) rfl rfl (by kernel_rfl) (by kernel_rfl) (by kernel_rfl) (fun _ _ _ h => by cases h.1) hC3 (Or.inl ⟨by kernel_rfl, fun w' hC => by clear hC; go_simp⟩) ?_
  simp only [Act.put, List.setIfInBounds_toArray, List.set_cons_succ, List.set_cons_zero]
  refine wpAnyC_ready (rs := [25]) (by kernel_rfl) (by simp) ?_
  refine AllC.cons rfl (fun K hK => ?_) AllC.nil
  go_simp
  refine ⟨trivial, rfl, (callsIn_wide.2 (hAw _)).mono ?_⟩
  rintro e y4 ⟨rfl, hb4'⟩
  dsimp only
  have hC4 : Below W.heap.size W y4 := hC3.trans (hb4'.mono hC3.size)
  refine hK _ _ hC4 ?_
  clear hK K hb4'
  refine wpAnyC_takeD (i := 26) (some 62) (v := .bool true) (fun _ => trivial) (by kernel_rfl) rfl rfl (by kernel_rfl) (by kernel_rfl) (by kernel_rfl) (fun _ _ _ h => by cases h.1) hC4 (Or.inl ⟨by kernel_rfl, fun w' hC => by clear hC; go_simp⟩) ?_
  simp only [Act.put, List.setIfInBounds_toArray, List.set_cons_succ, List.set_cons_zero]
  refine wpAnyC_takeD (i := 27) (some 2) (v := .bool true) (fun _ => trivial) (by kernel_rfl) rfl rfl (by kernel_rfl) (by kernel_rfl) (by kernel_rfl) (fun _ _ _ h => by cases h.1) hC4 (Or.inl ⟨by kernel_rfl, fun w' hC => by clear hC; go_simp⟩) ?_
  simp only [Act.put, List.setIfInBounds_toArray, List.set_cons_succ, List.set_cons_zero]
  refine wpAnyC_done (by kernel_rfl) ⟨rfl, ?_⟩ _
  have HBF : Hid _ := hB.trans (hC4.mono hB.size)
  clear hC0 hC1 hC2 hC3 hC4 hB hV kM kT kX kU hV2
  gi_wp2_with fail
  exact ⟨.bool true, by simp [results, Try.results3, go_sem], rfl, HBF.out⟩

theorem codeForth_true (w : World) (gen bnd : Int) (a : Option Addr) (n cap : Nat) (l : List InstT) (hl : l.length = n) (hv : InstsV w a l) (hok : InstsOk l) (hr : 40 * n ≤ 140737488351232) (hc : n ≤ cap) (hgb : 0 ≤ gen ∧ gen < 4294967296 ∧ 0 ≤ bnd ∧ bnd < 4294967296) :
    Calls Try.prog 3 #[modV gen bnd a n cap] w fun e w' => e = .returned (.bool true) ∧ Below w.heap.size w w' := by
  rcases shapeE_any bnd l with h | h
  · exact codeForth_good w gen bnd a n cap l hl hv hok hr hc hgb h
  · exact codeForth_bad w gen bnd a n cap l hl hv hok hr hc hgb h

end Go.Proofs.Ytpggcpnjcalfaab
