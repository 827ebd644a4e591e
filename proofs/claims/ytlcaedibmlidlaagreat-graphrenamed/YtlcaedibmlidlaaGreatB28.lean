/-
  Texts laid together in one: LawGraphRenamed.
-/
import Derived.WalkSpells
import Derived.WalkMore
import Derived.OwnWalk
import Derived.Deep.MidRow
import Derived.BigFrame
import Derived.Test.YtlcaedibmlidlaaGreatProg
import Derived.Test.YtlcaedibmlidlaaGreatB01
import Derived.Test.YtlcaedibmlidlaaGreatB06
import Derived.Test.YtlcaedibmlidlaaGreatB23
import Derived.Test.YtlcaedibmlidlaaGreatB24
import Derived.Test.YtlcaedibmlidlaaGreatB25
import Derived.Test.YtlcaedibmlidlaaGreatB05
import Derived.Test.YtlcaedibmlidlaaGreatB04
import Derived.Test.YtlcaedibmlidlaaGreatB27
import Derived.Test.YtlcaedibmlidlaaGreatB12
/-
  The law GraphRenamed: with other ids all functions have the same graphs and merges. UNDER WAY.
-/
namespace Go.Proofs.YtlcaedibmlidlaaGreat
open Go.RowKit
set_option linter.unusedVariables false
set_option linter.unusedSimpArgs false
set_option maxRecDepth 10000

set_option maxHeartbeats 16000000 in
theorem graphRenamed_true (w : World) (gen bnd : Int) (a : Option Addr) (n c : Nat) (l : List InstT) (hl : l.length = n) (hv : InstsV w a l) (hok : InstsOk l) (hn : 40 * n ≤ 140737488351232) (hc : n ≤ c) (hgb : 0 ≤ gen ∧ gen < 4294967296 ∧ 0 ≤ bnd ∧ bnd < 4294967296) :
    Calls Tryz.prog 4 #[.agg #[.int .u32 gen, .int .u32 bnd, .slice a n c]] w fun e w' => e = .returned (.bool true) ∧ Below w.heap.size w w' := by
  obtain ⟨g0, g1, b0, b1⟩ := hgb
  obtain ⟨N, rfl⟩ : ∃ N : Nat, bnd = (N : Int) := ⟨bnd.toNat, by omega⟩
  have hba : Below w.heap.size w (w.alloc (.cells #[.int .u32 gen, .int .u32 (N : Int), .slice a n c] 25)) := (Below.refl _ w).alloc (Nat.le_refl _) _
  have HCP := hide fun wx (h : Below w.heap.size w wx) => copyModule_any gen (N : Int) a n c l wx (hv.below h) hok hl hn
  have HRB := hide fun wx ax (h : InstsV wx ax l) (h2 : (idsE (N : Int) l).1 ≠ 0) => idsRenumber_bad gen N ax n n l wx h hok hl hn g0 g1 (by omega) h2
  have HRO := hide fun wx ax (h : InstsV wx ax l) (h2 : (idsE (N : Int) l).1 = 0) => idsRenumber_ok gen N ax n n l wx h hok hl hn g0 g1 (by omega) h2
  have HV := hide hv
  have HOK := hide hok
  have HL := hide hl
  have HN := hide hn
  have HKM := hide (allocNew w (.cells #[.int .u32 gen, .int .u32 (N : Int), .slice a n c] 25) rfl)
  have HBA := hide hba
  have m0 := (one_block HKM.out).1 0
  have m1 := (one_block HKM.out).1 1
  have m2 := (one_block HKM.out).1 2
  have hcp := HCP.out _ hba
  unfold modV at *
  clear hba hv hok hl hn
  go_enter Tryz.func4, Tryz.ntmps4
  go_wp2_with fail
  generalize World.alloc w _ = W0 at *
  refine hcp.mono ?_
  rintro e w1 ⟨g, rfl, _, hV1, hb1⟩
  have hbw1 := HBA.out.trans (hb1.mono HBA.out.size)
  have HB1 := hide hbw1
  have HKM1 := hide ((hb1.block _ (Array.getElem?_eq_some_iff.1 HKM.out).1).trans HKM.out)
  by_cases hE : (idsE (N : Int) l).1 = 0
  · have hro := HRO.out w1 _ hV1 hE
    obtain ⟨K, l2, fs, fs2, hK, hl2, hfs, hfs2, hK1, hl2n, hok2, hlay, hlay2, hfw, hfw2, hlen, hnews⟩ := news_both gen N n l HL.out HOK.out HN.out g0 g1 (by omega) hE
    rw [← hK, ← hl2] at hro
    clear hK hl2 hE
    have HCU1 := hide fun wx ax (h : InstsV wx ax l) => layCut_any gen (N : Int) ax n n l wx h HOK.out HL.out HN.out g0 g1 (by omega) (by omega)
    have HCU2 := hide fun wx ax (h : InstsV wx ax l2) => layCut_any gen (K : Int) ax n n l2 wx h hok2 hl2n HN.out g0 g1 (by omega) hK1
    have HC2 := hide fun wx ax (h : InstsV wx ax l2) => copyModule_any gen (K : Int) ax n n l2 wx h hok2 hl2n HN.out
    unfold CutQ at HCU1 HCU2
    rw [hlay, ← hfs] at HCU1
    rw [hlay2, ← hfs2] at HCU2
    unfold modV at *
    generalize hmf : fs.length = mf at *
    have HM1 := hide hmf
    have HL2 := hide hl2n
    have HM2 := hide (show fs2.length = mf by rw [hlen])
    have HFW1 := hide hfw
    have HFW2 := hide hfw2
    have HNEWS := hide hnews
    have HMF2 : Hid (mf ≤ 1048576) := by have := hfw.1; rw [hmf] at this; exact this
    clear hcp hV1 hb1 hbw1 m0 m1 m2 HKM HBA HRB HRO hfs hfs2 hK1 hl2n hok2 hlay hlay2 hfw hfw2 hlen hnews hmf
    go_wp2_with fail
    refine hro.mono ?_
    rintro e w2 ⟨g2, rfl, hg2, hR2, hb2⟩
    have hbw2 := HB1.out.trans (hb2.mono HB1.out.size)
    have hba2 : Below w2.heap.size w2 ((w2.alloc (.cells #[.int .u32 gen, .int .u32 (K : Int), .slice (some ⟨g2, 0, none⟩) n n] 25)).alloc (.cells #[.int .i64 0, .int .i64 0] 33)) := ((Below.refl _ w2).alloc (Nat.le_refl _) _).alloc (by simp) _
    have HB2 := hide (hbw2.trans (hba2.mono hbw2.size))
    have HKM2 := hide (allocOld (allocOld ((hb2.block _ (Array.getElem?_eq_some_iff.1 HKM1.out).1).trans HKM1.out) (.cells #[.int .u32 gen, .int .u32 (K : Int), .slice (some ⟨g2, 0, none⟩) n n] 25)) (.cells #[.int .i64 0, .int .i64 0] 33))
    have HKN2 := hide (allocOld (allocNew w2 (.cells #[.int .u32 gen, .int .u32 (K : Int), .slice (some ⟨g2, 0, none⟩) n n] 25) rfl) (.cells #[.int .i64 0, .int .i64 0] 33))
    have hks2 := allocNew (w2.alloc (.cells #[.int .u32 gen, .int .u32 (K : Int), .slice (some ⟨g2, 0, none⟩) n n] 25)) (.cells #[.int .i64 0, .int .i64 0] 33) (n := w2.heap.size + 1) (by simp)
    have hvn : InstsV ((w2.alloc (.cells #[.int .u32 gen, .int .u32 (K : Int), .slice (some ⟨g2, 0, none⟩) n n] 25)).alloc (.cells #[.int .i64 0, .int .i64 0] 33)) (some ⟨g2, 0, none⟩) l2 := (hR2.view HL2.out).below hba2
    have s0 := (one_block hks2).1 0
    have m0 := (one_block HKM2.out).1 0
    have m1 := (one_block HKM2.out).1 1
    have m2 := (one_block HKM2.out).1 2
    have HVN := hide hvn
    clear hR2 hb2 hbw2 hba2 hks2 hvn hro HB1 HKM1
    go_wp2_with fail
    generalize World.alloc (World.alloc w2 _) _ = W2 at *
    refine (HCP.out _ HB2.out).mono ?_
    rintro e w3 ⟨g3, rfl, _, hV3, hb3⟩
    have hcu := HCU1.out w3 _ hV3
    have HB3 := hide (HB2.out.trans (hb3.mono HB2.out.size))
    have HD3 := hide hb3
    clear hV3 hb3 s0 m0 m1 m2 HCU1
    go_wp2_with fail
    refine hcu.mono ?_
    rintro e w4 ⟨fv, rfl, hb4, hfv⟩
    obtain ⟨E4, hE4⟩ : ∃ E4 : Int, E4 = ((layE (N : Int) l).2 : Int) := ⟨_, rfl⟩
    rw [← hE4]
    have hF4 : FuncsR w4 fv fs := by
      rcases hfv with ⟨h1, _⟩ | ⟨_, h2⟩
      · exact absurd rfl h1
      · exact h2.readV
    have hba4 := (Below.refl _ w4).alloc (Nat.le_refl _) (.cells #[.int .i64 0, .int .i64 E4] 33)
    have hD4 := (HD3.out.trans (hb4.mono HD3.out.size)).trans (hba4.mono (Nat.le_trans HD3.out.size hb4.size))
    have HD4 := hide hD4
    have HB4 := hide (HB2.out.trans (hD4.mono HB2.out.size))
    have HKS4 := hide (allocNew w4 (.cells #[.int .i64 0, .int .i64 E4] 33) rfl)
    have HFR4 := hide (hF4.below hba4)
    have hkn := (hD4.block _ (Array.getElem?_eq_some_iff.1 HKN2.out).1).trans HKN2.out
    have n0 := (one_block hkn).1 0
    have n1 := (one_block hkn).1 1
    have n2 := (one_block hkn).1 2
    have HVN4 := hide (HVN.out.below hD4)
    obtain ⟨fx, fc, rfl, _⟩ := hF4
    rw [HM1.out] at HFR4 ⊢
    clear hcu hfv hE4 hb4 hba4 hD4 hkn HB3 HD3 HVN
    go_wp2_with fail
    generalize World.alloc w4 _ = W4 at *
    refine (HC2.out W4 _ HVN4.out).mono ?_
    rintro e w5 ⟨g5, rfl, _, hV5, hb5⟩
    have hcu := HCU2.out w5 _ hV5
    have HD5 := hide hb5
    clear hV5 hb5 n0 n1 n2 HCU2
    go_wp2_with fail
    refine hcu.mono ?_
    rintro e w6 ⟨fv2, rfl, hb6, hfv2⟩
    obtain ⟨E6, hE6⟩ : ∃ E6 : Int, E6 = ((layE (K : Int) l2).2 : Int) := ⟨_, rfl⟩
    rw [← hE6]
    have hF6 : FuncsR w6 fv2 fs2 := by
      rcases hfv2 with ⟨h1, _⟩ | ⟨_, h2⟩
      · exact absurd rfl h1
      · exact h2.readV
    have hba6 := (Below.refl _ w6).alloc (Nat.le_refl _) (.cells #[.int .i64 0, .int .i64 E6] 33)
    have hD6 := (HD5.out.trans (hb6.mono HD5.out.size)).trans (hba6.mono (Nat.le_trans HD5.out.size hb6.size))
    have HB6 := hide (HB4.out.trans (hD6.mono HB4.out.size))
    have HVN6 := hide (HVN4.out.below hD6)
    have HFR6 := hide (HFR4.out.below hD6)
    have HFS6 := hide (hF6.below hba6)
    have HKM6 := hide ((hD6.block _ (Nat.lt_of_lt_of_le (Array.getElem?_eq_some_iff.1 HKM2.out).1 HD4.out.size)).trans ((HD4.out.block _ (Array.getElem?_eq_some_iff.1 HKM2.out).1).trans HKM2.out))
    have HKN6 := hide ((hD6.block _ (Nat.lt_of_lt_of_le (Array.getElem?_eq_some_iff.1 HKN2.out).1 HD4.out.size)).trans ((HD4.out.block _ (Array.getElem?_eq_some_iff.1 HKN2.out).1).trans HKN2.out))
    have y0 := (one_block ((hD6.block _ (Array.getElem?_eq_some_iff.1 HKS4.out).1).trans HKS4.out)).1 0
    have z0 := (one_block (allocNew w6 (.cells #[.int .i64 0, .int .i64 E6] 33) rfl)).1 0
    obtain ⟨fx2, fc2, rfl, _⟩ := hF6
    rw [HM2.out] at HFS6 ⊢
    clear hcu hfv2 hE6 hb6 hba6 hD6 HD4 HD5 HVN4 HFR4 HKM2 HKN2 HKS4 HB4 HB2
    go_wp2_with fail
    generalize World.alloc w6 _ = W6 at *
    clear y0 z0
    go_loopw [9] (fun i wr => ∃ j : Nat, j ≤ mf ∧ i = .int .i64 j ∧ Below W6.heap.size W6 wr) (fun i _ => mf - (intOf i).toNat)
    case atStart => exact ⟨0, Nat.zero_le _, rfl, Below.refl _ _⟩
    case round =>
      obtain ⟨j, hj, rfl, hbr⟩ := hrel
      generalize hwo : wr = wo at *
      clear hwo
      have HBR := hide hbr
      by_cases hlt : j < mf
      · obtain ⟨E1, E2, NN, MM, hMM, hn1, hn2⟩ := HNEWS.out j (by first | exact hlt | (rw [HM1.out]; exact hlt))
        obtain ⟨F, a0, a1, a2, a3, a4, rfl, hF, q0, q1, q2, q3, q4, hfr⟩ := funcsR_at (HFR6.out.below hbr) HFW1.out HM1.out hlt
        obtain ⟨F2, d0, d1, d2, d3, d4, rfl, hF2, r0, r1, r2, r3, r4, hfr2⟩ := funcsR_at (HFS6.out.below hbr) HFW2.out HM2.out hlt
        generalize nthF fs j = fn at *
        generalize nthF fs2 j = fn2 at *
        have hj0 : (0 : Int) ≤ (j : Int) := by omega
        have hji : (j : Int) < (mf : Int) := by omega
        have HLT := hide hlt
        have HMM := hide hMM
        have HN1 := hide hn1
        have HN2 := hide hn2
        have HFN1 := hide hfr
        have HFN2 := hide hfr2
        have HWT := hide (HB6.out.trans (hbr.mono HB6.out.size))
        have HWN := hide (HVN6.out.below hbr)
        have hkm := (hbr.block _ (Array.getElem?_eq_some_iff.1 HKM6.out).1).trans HKM6.out
        have hkn := (hbr.block _ (Array.getElem?_eq_some_iff.1 HKN6.out).1).trans HKN6.out
        have LC : Hid (∀ w' : World, Below wo.heap.size wo w' → w'.cell? ⟨w.heap.size, 0, none⟩ = some (.int .u32 gen) ∧ w'.cell? ⟨w.heap.size, 1, none⟩ = some (.int .u32 (N : Int)) ∧ w'.cell? ⟨w.heap.size, 2, none⟩ = some (.slice a n c) ∧ w'.cell? ⟨F, j * 5, none⟩ = some a0 ∧ w'.cell? ⟨F, j * 5 + 1, none⟩ = some a1 ∧ w'.cell? ⟨F, j * 5 + 2, none⟩ = some a2 ∧ w'.cell? ⟨F, j * 5 + 3, none⟩ = some a3 ∧ w'.cell? ⟨F, j * 5 + 4, none⟩ = some a4) := fun w' h => by
          have hm := (h.block _ (Array.getElem?_eq_some_iff.1 hkm).1).trans hkm
          exact ⟨(one_block hm).1 0, (one_block hm).1 1, (one_block hm).1 2, (h.cell (p := ⟨F, j * 5, none⟩) hF).trans q0, (h.cell (p := ⟨F, j * 5 + 1, none⟩) hF).trans q1, (h.cell (p := ⟨F, j * 5 + 2, none⟩) hF).trans q2, (h.cell (p := ⟨F, j * 5 + 3, none⟩) hF).trans q3, (h.cell (p := ⟨F, j * 5 + 4, none⟩) hF).trans q4⟩
        have LD : Hid (∀ w' : World, Below wo.heap.size wo w' → w'.cell? ⟨w2.heap.size, 0, none⟩ = some (.int .u32 gen) ∧ w'.cell? ⟨w2.heap.size, 1, none⟩ = some (.int .u32 (K : Int)) ∧ w'.cell? ⟨w2.heap.size, 2, none⟩ = some (.slice (some ⟨g2, 0, none⟩) n n) ∧ w'.cell? ⟨F2, j * 5, none⟩ = some d0 ∧ w'.cell? ⟨F2, j * 5 + 1, none⟩ = some d1 ∧ w'.cell? ⟨F2, j * 5 + 2, none⟩ = some d2 ∧ w'.cell? ⟨F2, j * 5 + 3, none⟩ = some d3 ∧ w'.cell? ⟨F2, j * 5 + 4, none⟩ = some d4) := fun w' h => by
          have hm := (h.block _ (Array.getElem?_eq_some_iff.1 hkn).1).trans hkn
          exact ⟨(one_block hm).1 0, (one_block hm).1 1, (one_block hm).1 2, (h.cell (p := ⟨F2, j * 5, none⟩) hF2).trans r0, (h.cell (p := ⟨F2, j * 5 + 1, none⟩) hF2).trans r1, (h.cell (p := ⟨F2, j * 5 + 2, none⟩) hF2).trans r2, (h.cell (p := ⟨F2, j * 5 + 3, none⟩) hF2).trans r3, (h.cell (p := ⟨F2, j * 5 + 4, none⟩) hF2).trans r4⟩
        clear hj hlt hMM hn1 hn2 hF hF2 q0 q1 q2 q3 q4 r0 r1 r2 r3 r4 hfr hfr2 hkm hkn hbr
        go_wp2_with fail
        have hC0 : Below wo.heap.size wo wo.drew := below_drew wo
        have hmix : Tryz.prog.follows .mixedOrders = true := by kernel_rfl
        refine (wpIn_wide (n := 0)).1 ?_
        refine wpIn_normal (wpIn_region_any hmix (wpAnyE_sound (C := Below wo.heap.size wo) (E := fun _ => false) _ _ _ _ ?_))
        change wpAnyE _ _ _ _ _ _ _ _ _ _ _ (World.drew _)
        refine wpAnyE_takeD (i := 0) (some 65) (v := (.agg #[.int .u32 gen, .int .u32 (N : Int), .slice a n c])) (fun _ => trivial) (by kernel_rfl) rfl rfl (by kernel_rfl) (by kernel_rfl) (by kernel_rfl) (by kernel_rfl) (fun _ _ _ h => by cases h.1) hC0 (Or.inl ⟨by kernel_rfl, fun w' hC => by obtain ⟨e1, e2, e3, e4, e5, e6, e7, e8⟩ := LC.out w' hC; clear hC; go_simp⟩) ?_
        simp only [Act.put, List.setIfInBounds_toArray, List.set_cons_succ, List.set_cons_zero]
        refine wpAnyE_takeD (i := 2) (some 67) (v := (.slice (some ⟨F, 0, none⟩) mf fc)) (fun _ => trivial) (by kernel_rfl) rfl rfl (by kernel_rfl) (by kernel_rfl) (by kernel_rfl) (by kernel_rfl) (fun _ _ _ h => by cases h.1) hC0 (Or.inl ⟨by kernel_rfl, fun w' hC => by obtain ⟨e1, e2, e3, e4, e5, e6, e7, e8⟩ := LC.out w' hC; clear hC; go_simp⟩) ?_
        simp only [Act.put, List.setIfInBounds_toArray, List.set_cons_succ, List.set_cons_zero]
        refine wpAnyE_takeD (i := 3) (some 68) (v := (.int .i64 (j : Int))) (fun _ => trivial) (by kernel_rfl) rfl rfl (by kernel_rfl) (by kernel_rfl) (by kernel_rfl) (by kernel_rfl) (fun _ _ _ h => by cases h.1) hC0 (Or.inl ⟨by kernel_rfl, fun w' hC => by obtain ⟨e1, e2, e3, e4, e5, e6, e7, e8⟩ := LC.out w' hC; clear hC; go_simp⟩) ?_
        simp only [Act.put, List.setIfInBounds_toArray, List.set_cons_succ, List.set_cons_zero]
        refine wpAnyE_takeD (i := 4) (some 69) (v := (.pointer (some ⟨F, j * 5, none⟩))) (fun _ => trivial) (by kernel_rfl) rfl rfl (by kernel_rfl) (by kernel_rfl) (by kernel_rfl) (by kernel_rfl) (fun _ _ _ h => by cases h.1) hC0 (Or.inl ⟨by kernel_rfl, fun w' hC => by obtain ⟨e1, e2, e3, e4, e5, e6, e7, e8⟩ := LC.out w' hC; clear hC; go_simp⟩) ?_
        simp only [Act.put, List.setIfInBounds_toArray, List.set_cons_succ, List.set_cons_zero]
        refine wpAnyE_takeD (i := 5) (some 70) (v := (.agg #[a0, a1, a2, a3, a4])) (fun _ => trivial) (by kernel_rfl) rfl rfl (by kernel_rfl) (by kernel_rfl) (by kernel_rfl) (by kernel_rfl) (fun _ _ _ h => by cases h.1) hC0 (Or.inl ⟨by kernel_rfl, fun w' hC => by obtain ⟨e1, e2, e3, e4, e5, e6, e7, e8⟩ := LC.out w' hC; clear hC; go_simp⟩) ?_
        simp only [Act.put, List.setIfInBounds_toArray, List.set_cons_succ, List.set_cons_zero]
        obtain ⟨H, hH⟩ : ∃ H : World → Nat → Nat → Value → Value → Prop, H = fun XX bb _ gv mv => Below wo.heap.size wo XX ∧ XX.heap[bb]? = some (.cells #[.int .i64 E1, .int .i64 E2] 33 (0, 0)) ∧ NqV E1 E2 NN MM XX wo.heap.size gv mv := ⟨_, rfl⟩
        apply keyed5 H ?h1 ?h2
        case h1 =>
          intro key
          refine wpAnyE_ready (rs := [1, 11]) (by kernel_rfl) (by simp) ?_
          refine AllE.cons rfl (fun Kk hK => ?_) (AllE.cons rfl (fun Kk hK => ?_) AllE.nil)
          · skip
            go_simp
            refine ⟨trivial, rfl, (callsIn_wide.2 (HCP.out _ (HWT.out.trans (hC0.mono HWT.out.size)))).mono ?_⟩
            rintro e x1 ⟨gc, rfl, hgc, hV2, hb2⟩
            dsimp only
            have hC1 := hC0.trans (hb2.mono hC0.size)
            refine hK _ _ (.inr hC1) ?_
            clear hK Kk
            refine wpAnyE_ready (rs := [6, 11]) (by kernel_rfl) (by simp) ?_
            refine AllE.cons rfl (fun Kk hK => ?_) (AllE.cons rfl (fun Kk hK => ?_) AllE.nil)
            · skip
              go_simp
              refine ⟨trivial, rfl, (callsIn_wide.2 (HN1.out _ _ hV2 _ (HFN1.out.below hC1))).mono ?_⟩
              rintro e x2 ⟨hb3, gv, mv, rfl, hnq⟩
              dsimp only
              have hC3 := hC1.trans (hb3.mono hC1.size)
              refine hK _ _ (.inr hC3) ?_
              clear hK Kk
              refine wpAnyE_takeD (i := 7) (some 64) (v := (.tuple #[gv, mv, .agg #[.int .i64 E1, .int .i64 E2]])) (fun _ => trivial) (by kernel_rfl) rfl rfl (by kernel_rfl) (by kernel_rfl) (by kernel_rfl) (by kernel_rfl) (fun _ _ _ h => by cases h.1) hC3 (Or.inl ⟨by kernel_rfl, fun w' hC => by clear hC; go_simp⟩) ?_
              simp only [Act.put, List.setIfInBounds_toArray, List.set_cons_succ, List.set_cons_zero]
              refine wpAnyE_takeD (i := 8) (some 72) (v := gv) (fun _ => trivial) (by kernel_rfl) rfl rfl (by kernel_rfl) (by kernel_rfl) (by kernel_rfl) (by kernel_rfl) (fun _ _ _ h => by cases h.1) hC3 (Or.inl ⟨by kernel_rfl, fun w' hC => by clear hC; go_simp⟩) ?_
              simp only [Act.put, List.setIfInBounds_toArray, List.set_cons_succ, List.set_cons_zero]
              refine wpAnyE_takeD (i := 9) (some 73) (v := mv) (fun _ => trivial) (by kernel_rfl) rfl rfl (by kernel_rfl) (by kernel_rfl) (by kernel_rfl) (by kernel_rfl) (fun _ _ _ h => by cases h.1) hC3 (Or.inl ⟨by kernel_rfl, fun w' hC => by clear hC; go_simp⟩) ?_
              simp only [Act.put, List.setIfInBounds_toArray, List.set_cons_succ, List.set_cons_zero]
              refine wpAnyE_takeD (i := 10) (some 74) (v := (.agg #[.int .i64 E1, .int .i64 E2])) (fun _ => trivial) (by kernel_rfl) rfl rfl (by kernel_rfl) (by kernel_rfl) (by kernel_rfl) (by kernel_rfl) (fun _ _ _ h => by cases h.1) hC3 (Or.inl ⟨by kernel_rfl, fun w' hC => by clear hC; go_simp⟩) ?_
              simp only [Act.put, List.setIfInBounds_toArray, List.set_cons_succ, List.set_cons_zero]
              refine wpAnyE_ready (rs := [11]) (by kernel_rfl) (by simp) ?_
              refine AllE.cons rfl (fun Kk hK => ?_) AllE.nil
              go_simp
              have hC4 := hC3.alloc hC3.size (.cells #[.int .i64 0, .int .i64 0] 33)
              refine hK _ _ (.inr hC4) ?_
              clear hK Kk
              refine wpAnyE_ready (rs := [12]) (by kernel_rfl) (by simp) ?_
              refine AllE.cons rfl (fun Kk hK => ?_) AllE.nil
              go_simp
              refine hK _ _ (.inr (hC4)) ?_
              clear hK Kk
              refine wpAnyE_ready (rs := [13]) (by kernel_rfl) (by simp) ?_
              refine AllE.cons rfl (fun Kk hK => ?_) AllE.nil
              go_simp
              refine hK _ _ (.inr (hC4)) ?_
              clear hK Kk
              refine wpAnyE_ready (rs := [14]) (by kernel_rfl) (by simp) ?_
              refine AllE.cons rfl (fun Kk hK => ?_) AllE.nil
              go_simp
              refine hK _ _ (.inr (hC3.alloc hC3.size (.cells #[.int .i64 E1, .int .i64 E2] 33))) ?_
              clear hK Kk
              refine wpAnyE_done (by kernel_rfl) ⟨rfl, ?_⟩ _
              have hf : H (x2.alloc (.cells #[.int .i64 E1, .int .i64 E2] 33)) (x2.heap.size) gc gv mv := by
                rw [hH]
                exact ⟨hC3.alloc hC3.size _, allocNew _ _ rfl, hnq.below ((Below.refl _ x2).alloc (Nat.le_refl _) _) hC1.size⟩
              generalize World.alloc x2 _ = XX at hf ⊢
              generalize x2.heap.size = bb at hf ⊢
              exact key _ _ _ _ _ hf
            · skip
              go_simp
              have hC2 := hC1.alloc hC1.size (.cells #[.int .i64 0, .int .i64 0] 33)
              refine hK _ _ (.inr hC2) ?_
              clear hK Kk
              have hk9 := allocNew x1 (.cells #[.int .i64 0, .int .i64 0] 33) rfl
              have hV3 := hV2.below ((Below.refl _ x1).alloc (Nat.le_refl _) (.cells #[.int .i64 0, .int .i64 0] 33))
              refine wpAnyE_ready (rs := [6]) (by kernel_rfl) (by simp) ?_
              refine AllE.cons rfl (fun Kk hK => ?_) AllE.nil
              go_simp
              refine ⟨trivial, rfl, (callsIn_wide.2 (HN1.out _ _ hV3 _ (HFN1.out.below hC2))).mono ?_⟩
              rintro e x2 ⟨hb3, gv, mv, rfl, hnq⟩
              dsimp only
              have hC3 := hC2.trans (hb3.mono hC2.size)
              refine hK _ _ (.inr hC3) ?_
              clear hK Kk
              have hs9 := (hb3.block _ (Array.getElem?_eq_some_iff.1 hk9).1).trans hk9
              have hz9 := twoF hs9
              have v0 := hz9.1; have v1 := hz9.2.1; have y0 := (one_block hs9).1 0; have y1 := (one_block hs9).1 1
              refine wpAnyE_takeD (i := 7) (some 64) (v := (.tuple #[gv, mv, .agg #[.int .i64 E1, .int .i64 E2]])) (fun _ => trivial) (by kernel_rfl) rfl rfl (by kernel_rfl) (by kernel_rfl) (by kernel_rfl) (by kernel_rfl) (fun _ _ _ h => by cases h.1) hC3 (Or.inl ⟨by kernel_rfl, fun w' hC => by clear hC; go_simp⟩) ?_
              simp only [Act.put, List.setIfInBounds_toArray, List.set_cons_succ, List.set_cons_zero]
              refine wpAnyE_takeD (i := 8) (some 72) (v := gv) (fun _ => trivial) (by kernel_rfl) rfl rfl (by kernel_rfl) (by kernel_rfl) (by kernel_rfl) (by kernel_rfl) (fun _ _ _ h => by cases h.1) hC3 (Or.inl ⟨by kernel_rfl, fun w' hC => by clear hC; go_simp⟩) ?_
              simp only [Act.put, List.setIfInBounds_toArray, List.set_cons_succ, List.set_cons_zero]
              refine wpAnyE_takeD (i := 9) (some 73) (v := mv) (fun _ => trivial) (by kernel_rfl) rfl rfl (by kernel_rfl) (by kernel_rfl) (by kernel_rfl) (by kernel_rfl) (fun _ _ _ h => by cases h.1) hC3 (Or.inl ⟨by kernel_rfl, fun w' hC => by clear hC; go_simp⟩) ?_
              simp only [Act.put, List.setIfInBounds_toArray, List.set_cons_succ, List.set_cons_zero]
              refine wpAnyE_takeD (i := 10) (some 74) (v := (.agg #[.int .i64 E1, .int .i64 E2])) (fun _ => trivial) (by kernel_rfl) rfl rfl (by kernel_rfl) (by kernel_rfl) (by kernel_rfl) (by kernel_rfl) (fun _ _ _ h => by cases h.1) hC3 (Or.inl ⟨by kernel_rfl, fun w' hC => by clear hC; go_simp⟩) ?_
              simp only [Act.put, List.setIfInBounds_toArray, List.set_cons_succ, List.set_cons_zero]
              refine wpAnyE_ready (rs := [12]) (by kernel_rfl) (by simp) ?_
              refine AllE.cons rfl (fun Kk hK => ?_) AllE.nil
              go_simp
              refine hK _ _ (.inr (hC3)) ?_
              clear hK Kk
              refine wpAnyE_ready (rs := [13]) (by kernel_rfl) (by simp) ?_
              refine AllE.cons rfl (fun Kk hK => ?_) AllE.nil
              go_simp
              refine hK _ _ (.inr (hC3)) ?_
              clear hK Kk
              refine wpAnyE_ready (rs := [14]) (by kernel_rfl) (by simp) ?_
              refine AllE.cons rfl (fun Kk hK => ?_) AllE.nil
              go_simp
              refine hK _ _ (.inr ((hC3.setCell hC1.size _).setCell hC1.size _)) ?_
              clear hK Kk
              refine wpAnyE_done (by kernel_rfl) ⟨rfl, ?_⟩ _
              have hf : H ((x2.setCell ⟨x1.heap.size, 0, none⟩ (.int .i64 E1)).setCell ⟨x1.heap.size, 1, none⟩ (.int .i64 E2)) (x1.heap.size) gc gv mv := by
                rw [hH]
                exact ⟨(hC3.setCell hC1.size _).setCell hC1.size _, spotLd hs9 _ _, (hnq.kept (grown_setCell x2 x1.heap.size 0 _) (by simp)).kept2 (grown_setCell _ x1.heap.size 1 _) (by simp) hC2.size⟩
              generalize World.setCell _ _ _ = XX at hf ⊢
              generalize x1.heap.size = bb at hf ⊢
              exact key _ _ _ _ _ hf
          · skip
            go_simp
            have hC2 := hC0.alloc hC0.size (.cells #[.int .i64 0, .int .i64 0] 33)
            refine hK _ _ (.inr hC2) ?_
            clear hK Kk
            have hk9 : (wo.drew.alloc (.cells #[.int .i64 0, .int .i64 0] 33)).heap[wo.heap.size]? = some (.cells #[.int .i64 0, .int .i64 0] 33 (0, 0)) := allocNew wo.drew (.cells #[.int .i64 0, .int .i64 0] 33) rfl
            refine wpAnyE_ready (rs := [1]) (by kernel_rfl) (by simp) ?_
            refine AllE.cons rfl (fun Kk hK => ?_) AllE.nil
            go_simp
            refine ⟨trivial, rfl, (callsIn_wide.2 (HCP.out _ (HWT.out.trans (hC2.mono HWT.out.size)))).mono ?_⟩
            rintro e x1 ⟨gc, rfl, hgc, hV2, hb2⟩
            dsimp only
            have hC1 := hC2.trans (hb2.mono hC2.size)
            refine hK _ _ (.inr hC1) ?_
            clear hK Kk
            have hk8 := (hb2.block _ (Array.getElem?_eq_some_iff.1 hk9).1).trans hk9
            refine wpAnyE_ready (rs := [6]) (by kernel_rfl) (by simp) ?_
            refine AllE.cons rfl (fun Kk hK => ?_) AllE.nil
            go_simp
            refine ⟨trivial, rfl, (callsIn_wide.2 (HN1.out _ _ hV2 _ (HFN1.out.below hC1))).mono ?_⟩
            rintro e x2 ⟨hb3, gv, mv, rfl, hnq⟩
            dsimp only
            have hC3 := hC1.trans (hb3.mono hC1.size)
            refine hK _ _ (.inr hC3) ?_
            clear hK Kk
            have hs9 := (hb3.block _ (Array.getElem?_eq_some_iff.1 hk8).1).trans hk8
            have hz9 := twoF hs9
            have v0 := hz9.1; have v1 := hz9.2.1; have y0 := (one_block hs9).1 0; have y1 := (one_block hs9).1 1
            have hw1 : wo.heap.size < x1.heap.size := Nat.lt_of_lt_of_le (Array.getElem?_eq_some_iff.1 hk9).1 hb2.size
            refine wpAnyE_takeD (i := 7) (some 64) (v := (.tuple #[gv, mv, .agg #[.int .i64 E1, .int .i64 E2]])) (fun _ => trivial) (by kernel_rfl) rfl rfl (by kernel_rfl) (by kernel_rfl) (by kernel_rfl) (by kernel_rfl) (fun _ _ _ h => by cases h.1) hC3 (Or.inl ⟨by kernel_rfl, fun w' hC => by clear hC; go_simp⟩) ?_
            simp only [Act.put, List.setIfInBounds_toArray, List.set_cons_succ, List.set_cons_zero]
            refine wpAnyE_takeD (i := 8) (some 72) (v := gv) (fun _ => trivial) (by kernel_rfl) rfl rfl (by kernel_rfl) (by kernel_rfl) (by kernel_rfl) (by kernel_rfl) (fun _ _ _ h => by cases h.1) hC3 (Or.inl ⟨by kernel_rfl, fun w' hC => by clear hC; go_simp⟩) ?_
            simp only [Act.put, List.setIfInBounds_toArray, List.set_cons_succ, List.set_cons_zero]
            refine wpAnyE_takeD (i := 9) (some 73) (v := mv) (fun _ => trivial) (by kernel_rfl) rfl rfl (by kernel_rfl) (by kernel_rfl) (by kernel_rfl) (by kernel_rfl) (fun _ _ _ h => by cases h.1) hC3 (Or.inl ⟨by kernel_rfl, fun w' hC => by clear hC; go_simp⟩) ?_
            simp only [Act.put, List.setIfInBounds_toArray, List.set_cons_succ, List.set_cons_zero]
            refine wpAnyE_takeD (i := 10) (some 74) (v := (.agg #[.int .i64 E1, .int .i64 E2])) (fun _ => trivial) (by kernel_rfl) rfl rfl (by kernel_rfl) (by kernel_rfl) (by kernel_rfl) (by kernel_rfl) (fun _ _ _ h => by cases h.1) hC3 (Or.inl ⟨by kernel_rfl, fun w' hC => by clear hC; go_simp⟩) ?_
            simp only [Act.put, List.setIfInBounds_toArray, List.set_cons_succ, List.set_cons_zero]
            refine wpAnyE_ready (rs := [12]) (by kernel_rfl) (by simp) ?_
            refine AllE.cons rfl (fun Kk hK => ?_) AllE.nil
            go_simp
            refine hK _ _ (.inr (hC3)) ?_
            clear hK Kk
            refine wpAnyE_ready (rs := [13]) (by kernel_rfl) (by simp) ?_
            refine AllE.cons rfl (fun Kk hK => ?_) AllE.nil
            go_simp
            refine hK _ _ (.inr (hC3)) ?_
            clear hK Kk
            refine wpAnyE_ready (rs := [14]) (by kernel_rfl) (by simp) ?_
            refine AllE.cons rfl (fun Kk hK => ?_) AllE.nil
            go_simp
            refine hK _ _ (.inr ((hC3.setCell (p := ⟨wo.heap.size, 0, none⟩) (Nat.le_refl _) _).setCell (p := ⟨wo.heap.size, 1, none⟩) (Nat.le_refl _) _)) ?_
            clear hK Kk
            refine wpAnyE_done (by kernel_rfl) ⟨rfl, ?_⟩ _
            have hf : H ((x2.setCell ⟨wo.heap.size, 0, none⟩ (.int .i64 E1)).setCell ⟨wo.heap.size, 1, none⟩ (.int .i64 E2)) (wo.heap.size) gc gv mv := by
              rw [hH]
              exact ⟨(hC3.setCell (p := ⟨wo.heap.size, 0, none⟩) (Nat.le_refl _) _).setCell (p := ⟨wo.heap.size, 1, none⟩) (Nat.le_refl _) _, spotLd hs9 _ _, (hnq.kept (grown_setCell x2 wo.heap.size 0 _) hw1).kept2 (grown_setCell _ wo.heap.size 1 _) hw1 hC1.size⟩
            generalize World.setCell _ _ _ = XX at hf ⊢
            generalize wo.heap.size = bb at hf ⊢
            exact key _ _ _ _ _ hf
        case h2 =>
          rintro X b9 g9 gv1 mv1 hf
          rw [hH] at hf
          obtain ⟨hXB, hX9, hq1⟩ := hf
          clear hH H hC0 hmix
          rw [then_normalLd]
          have HXB := hide hXB
          have HX9 := hide hX9
          have HQ1 := hide hq1
          have HFN := hide (HFN2.out.below hXB)
          have HWX := hide (HWN.out.below hXB)
          have LE : Hid (∀ w' : World, Below X.heap.size X w' → w'.cell? ⟨w2.heap.size, 0, none⟩ = some (.int .u32 gen) ∧ w'.cell? ⟨w2.heap.size, 1, none⟩ = some (.int .u32 (K : Int)) ∧ w'.cell? ⟨w2.heap.size, 2, none⟩ = some (.slice (some ⟨g2, 0, none⟩) n n) ∧ w'.cell? ⟨F2, j * 5, none⟩ = some d0 ∧ w'.cell? ⟨F2, j * 5 + 1, none⟩ = some d1 ∧ w'.cell? ⟨F2, j * 5 + 2, none⟩ = some d2 ∧ w'.cell? ⟨F2, j * 5 + 3, none⟩ = some d3 ∧ w'.cell? ⟨F2, j * 5 + 4, none⟩ = some d4) := fun w' h => LD.out w' (HXB.out.trans (h.mono HXB.out.size))
          clear hXB hX9 hq1 LC LD HFN1 HFN2 HN1 HWN
          go_wp2_with fail
          have hC0 : Below X.heap.size X X.drew := below_drew X
          have hmix : Tryz.prog.follows .mixedOrders = true := by kernel_rfl
          refine (wpIn_wide (n := 0)).1 ?_
          refine wpIn_normal (wpIn_region_any hmix (wpAnyE_sound (C := Below X.heap.size X) (E := fun _ => false) _ _ _ _ ?_))
          change wpAnyE _ _ _ _ _ _ _ _ _ _ _ (World.drew _)
          refine wpAnyE_takeD (i := 0) (some 76) (v := (.agg #[.int .u32 gen, .int .u32 (K : Int), .slice (some ⟨g2, 0, none⟩) n n])) (fun _ => trivial) (by kernel_rfl) rfl rfl (by kernel_rfl) (by kernel_rfl) (by kernel_rfl) (by kernel_rfl) (fun _ _ _ h => by cases h.1) hC0 (Or.inl ⟨by kernel_rfl, fun w' hC => by obtain ⟨e1, e2, e3, e4, e5, e6, e7, e8⟩ := LE.out w' hC; clear hC; go_simp⟩) ?_
          simp only [Act.put, List.setIfInBounds_toArray, List.set_cons_succ, List.set_cons_zero]
          refine wpAnyE_takeD (i := 2) (some 78) (v := (.slice (some ⟨F2, 0, none⟩) mf fc2)) (fun _ => trivial) (by kernel_rfl) rfl rfl (by kernel_rfl) (by kernel_rfl) (by kernel_rfl) (by kernel_rfl) (fun _ _ _ h => by cases h.1) hC0 (Or.inl ⟨by kernel_rfl, fun w' hC => by obtain ⟨e1, e2, e3, e4, e5, e6, e7, e8⟩ := LE.out w' hC; clear hC; go_simp⟩) ?_
          simp only [Act.put, List.setIfInBounds_toArray, List.set_cons_succ, List.set_cons_zero]
          refine wpAnyE_takeD (i := 3) (some 79) (v := (.int .i64 (j : Int))) (fun _ => trivial) (by kernel_rfl) rfl rfl (by kernel_rfl) (by kernel_rfl) (by kernel_rfl) (by kernel_rfl) (fun _ _ _ h => by cases h.1) hC0 (Or.inl ⟨by kernel_rfl, fun w' hC => by obtain ⟨e1, e2, e3, e4, e5, e6, e7, e8⟩ := LE.out w' hC; clear hC; go_simp⟩) ?_
          simp only [Act.put, List.setIfInBounds_toArray, List.set_cons_succ, List.set_cons_zero]
          refine wpAnyE_takeD (i := 4) (some 80) (v := (.pointer (some ⟨F2, j * 5, none⟩))) (fun _ => trivial) (by kernel_rfl) rfl rfl (by kernel_rfl) (by kernel_rfl) (by kernel_rfl) (by kernel_rfl) (fun _ _ _ h => by cases h.1) hC0 (Or.inl ⟨by kernel_rfl, fun w' hC => by obtain ⟨e1, e2, e3, e4, e5, e6, e7, e8⟩ := LE.out w' hC; clear hC; go_simp⟩) ?_
          simp only [Act.put, List.setIfInBounds_toArray, List.set_cons_succ, List.set_cons_zero]
          refine wpAnyE_takeD (i := 5) (some 81) (v := (.agg #[d0, d1, d2, d3, d4])) (fun _ => trivial) (by kernel_rfl) rfl rfl (by kernel_rfl) (by kernel_rfl) (by kernel_rfl) (by kernel_rfl) (fun _ _ _ h => by cases h.1) hC0 (Or.inl ⟨by kernel_rfl, fun w' hC => by obtain ⟨e1, e2, e3, e4, e5, e6, e7, e8⟩ := LE.out w' hC; clear hC; go_simp⟩) ?_
          simp only [Act.put, List.setIfInBounds_toArray, List.set_cons_succ, List.set_cons_zero]
          obtain ⟨H, hH⟩ : ∃ H : World → Nat → Nat → Value → Value → Prop, H = fun XX bb _ gv mv => Below X.heap.size X XX ∧ XX.heap[bb]? = some (.cells #[.int .i64 E1, .int .i64 E2] 33 (0, 0)) ∧ NqV E1 E2 NN MM XX X.heap.size gv mv := ⟨_, rfl⟩
          apply keyed5 H ?h1 ?h2
          case h1 =>
            intro key
            refine wpAnyE_ready (rs := [1, 11]) (by kernel_rfl) (by simp) ?_
            refine AllE.cons rfl (fun Kk hK => ?_) (AllE.cons rfl (fun Kk hK => ?_) AllE.nil)
            · skip
              go_simp
              refine ⟨trivial, rfl, (callsIn_wide.2 (HC2.out _ _ (HWX.out.below hC0))).mono ?_⟩
              rintro e x1 ⟨gc, rfl, hgc, hV2, hb2⟩
              dsimp only
              have hC1 := hC0.trans (hb2.mono hC0.size)
              refine hK _ _ (.inr hC1) ?_
              clear hK Kk
              refine wpAnyE_ready (rs := [6, 11]) (by kernel_rfl) (by simp) ?_
              refine AllE.cons rfl (fun Kk hK => ?_) (AllE.cons rfl (fun Kk hK => ?_) AllE.nil)
              · skip
                go_simp
                refine ⟨trivial, rfl, (callsIn_wide.2 (HN2.out _ _ hV2 _ (HFN.out.below hC1))).mono ?_⟩
                rintro e x2 ⟨hb3, gv, mv, rfl, hnq⟩
                dsimp only
                have hC3 := hC1.trans (hb3.mono hC1.size)
                refine hK _ _ (.inr hC3) ?_
                clear hK Kk
                refine wpAnyE_takeD (i := 7) (some 75) (v := (.tuple #[gv, mv, .agg #[.int .i64 E1, .int .i64 E2]])) (fun _ => trivial) (by kernel_rfl) rfl rfl (by kernel_rfl) (by kernel_rfl) (by kernel_rfl) (by kernel_rfl) (fun _ _ _ h => by cases h.1) hC3 (Or.inl ⟨by kernel_rfl, fun w' hC => by clear hC; go_simp⟩) ?_
                simp only [Act.put, List.setIfInBounds_toArray, List.set_cons_succ, List.set_cons_zero]
                refine wpAnyE_takeD (i := 8) (some 83) (v := gv) (fun _ => trivial) (by kernel_rfl) rfl rfl (by kernel_rfl) (by kernel_rfl) (by kernel_rfl) (by kernel_rfl) (fun _ _ _ h => by cases h.1) hC3 (Or.inl ⟨by kernel_rfl, fun w' hC => by clear hC; go_simp⟩) ?_
                simp only [Act.put, List.setIfInBounds_toArray, List.set_cons_succ, List.set_cons_zero]
                refine wpAnyE_takeD (i := 9) (some 84) (v := mv) (fun _ => trivial) (by kernel_rfl) rfl rfl (by kernel_rfl) (by kernel_rfl) (by kernel_rfl) (by kernel_rfl) (fun _ _ _ h => by cases h.1) hC3 (Or.inl ⟨by kernel_rfl, fun w' hC => by clear hC; go_simp⟩) ?_
                simp only [Act.put, List.setIfInBounds_toArray, List.set_cons_succ, List.set_cons_zero]
                refine wpAnyE_takeD (i := 10) (some 85) (v := (.agg #[.int .i64 E1, .int .i64 E2])) (fun _ => trivial) (by kernel_rfl) rfl rfl (by kernel_rfl) (by kernel_rfl) (by kernel_rfl) (by kernel_rfl) (fun _ _ _ h => by cases h.1) hC3 (Or.inl ⟨by kernel_rfl, fun w' hC => by clear hC; go_simp⟩) ?_
                simp only [Act.put, List.setIfInBounds_toArray, List.set_cons_succ, List.set_cons_zero]
                refine wpAnyE_ready (rs := [11]) (by kernel_rfl) (by simp) ?_
                refine AllE.cons rfl (fun Kk hK => ?_) AllE.nil
                go_simp
                have hC4 := hC3.alloc hC3.size (.cells #[.int .i64 0, .int .i64 0] 33)
                refine hK _ _ (.inr hC4) ?_
                clear hK Kk
                refine wpAnyE_ready (rs := [12]) (by kernel_rfl) (by simp) ?_
                refine AllE.cons rfl (fun Kk hK => ?_) AllE.nil
                go_simp
                refine hK _ _ (.inr (hC4)) ?_
                clear hK Kk
                refine wpAnyE_ready (rs := [13]) (by kernel_rfl) (by simp) ?_
                refine AllE.cons rfl (fun Kk hK => ?_) AllE.nil
                go_simp
                refine hK _ _ (.inr (hC4)) ?_
                clear hK Kk
                refine wpAnyE_ready (rs := [14]) (by kernel_rfl) (by simp) ?_
                refine AllE.cons rfl (fun Kk hK => ?_) AllE.nil
                go_simp
                refine hK _ _ (.inr (hC3.alloc hC3.size (.cells #[.int .i64 E1, .int .i64 E2] 33))) ?_
                clear hK Kk
                refine wpAnyE_done (by kernel_rfl) ⟨rfl, ?_⟩ _
                have hf : H (x2.alloc (.cells #[.int .i64 E1, .int .i64 E2] 33)) (x2.heap.size) gc gv mv := by
                  rw [hH]
                  exact ⟨hC3.alloc hC3.size _, allocNew _ _ rfl, hnq.below ((Below.refl _ x2).alloc (Nat.le_refl _) _) hC1.size⟩
                generalize World.alloc x2 _ = XX at hf ⊢
                generalize x2.heap.size = bb at hf ⊢
                exact key _ _ _ _ _ hf
              · skip
                go_simp
                have hC2 := hC1.alloc hC1.size (.cells #[.int .i64 0, .int .i64 0] 33)
                refine hK _ _ (.inr hC2) ?_
                clear hK Kk
                have hk9 := allocNew x1 (.cells #[.int .i64 0, .int .i64 0] 33) rfl
                have hV3 := hV2.below ((Below.refl _ x1).alloc (Nat.le_refl _) (.cells #[.int .i64 0, .int .i64 0] 33))
                refine wpAnyE_ready (rs := [6]) (by kernel_rfl) (by simp) ?_
                refine AllE.cons rfl (fun Kk hK => ?_) AllE.nil
                go_simp
                refine ⟨trivial, rfl, (callsIn_wide.2 (HN2.out _ _ hV3 _ (HFN.out.below hC2))).mono ?_⟩
                rintro e x2 ⟨hb3, gv, mv, rfl, hnq⟩
                dsimp only
                have hC3 := hC2.trans (hb3.mono hC2.size)
                refine hK _ _ (.inr hC3) ?_
                clear hK Kk
                have hs9 := (hb3.block _ (Array.getElem?_eq_some_iff.1 hk9).1).trans hk9
                have hz9 := twoF hs9
                have v0 := hz9.1; have v1 := hz9.2.1; have y0 := (one_block hs9).1 0; have y1 := (one_block hs9).1 1
                refine wpAnyE_takeD (i := 7) (some 75) (v := (.tuple #[gv, mv, .agg #[.int .i64 E1, .int .i64 E2]])) (fun _ => trivial) (by kernel_rfl) rfl rfl (by kernel_rfl) (by kernel_rfl) (by kernel_rfl) (by kernel_rfl) (fun _ _ _ h => by cases h.1) hC3 (Or.inl ⟨by kernel_rfl, fun w' hC => by clear hC; go_simp⟩) ?_
                simp only [Act.put, List.setIfInBounds_toArray, List.set_cons_succ, List.set_cons_zero]
                refine wpAnyE_takeD (i := 8) (some 83) (v := gv) (fun _ => trivial) (by kernel_rfl) rfl rfl (by kernel_rfl) (by kernel_rfl) (by kernel_rfl) (by kernel_rfl) (fun _ _ _ h => by cases h.1) hC3 (Or.inl ⟨by kernel_rfl, fun w' hC => by clear hC; go_simp⟩) ?_
                simp only [Act.put, List.setIfInBounds_toArray, List.set_cons_succ, List.set_cons_zero]
                refine wpAnyE_takeD (i := 9) (some 84) (v := mv) (fun _ => trivial) (by kernel_rfl) rfl rfl (by kernel_rfl) (by kernel_rfl) (by kernel_rfl) (by kernel_rfl) (fun _ _ _ h => by cases h.1) hC3 (Or.inl ⟨by kernel_rfl, fun w' hC => by clear hC; go_simp⟩) ?_
                simp only [Act.put, List.setIfInBounds_toArray, List.set_cons_succ, List.set_cons_zero]
                refine wpAnyE_takeD (i := 10) (some 85) (v := (.agg #[.int .i64 E1, .int .i64 E2])) (fun _ => trivial) (by kernel_rfl) rfl rfl (by kernel_rfl) (by kernel_rfl) (by kernel_rfl) (by kernel_rfl) (fun _ _ _ h => by cases h.1) hC3 (Or.inl ⟨by kernel_rfl, fun w' hC => by clear hC; go_simp⟩) ?_
                simp only [Act.put, List.setIfInBounds_toArray, List.set_cons_succ, List.set_cons_zero]
                refine wpAnyE_ready (rs := [12]) (by kernel_rfl) (by simp) ?_
                refine AllE.cons rfl (fun Kk hK => ?_) AllE.nil
                go_simp
                refine hK _ _ (.inr (hC3)) ?_
                clear hK Kk
                refine wpAnyE_ready (rs := [13]) (by kernel_rfl) (by simp) ?_
                refine AllE.cons rfl (fun Kk hK => ?_) AllE.nil
                go_simp
                refine hK _ _ (.inr (hC3)) ?_
                clear hK Kk
                refine wpAnyE_ready (rs := [14]) (by kernel_rfl) (by simp) ?_
                refine AllE.cons rfl (fun Kk hK => ?_) AllE.nil
                go_simp
                refine hK _ _ (.inr ((hC3.setCell hC1.size _).setCell hC1.size _)) ?_
                clear hK Kk
                refine wpAnyE_done (by kernel_rfl) ⟨rfl, ?_⟩ _
                have hf : H ((x2.setCell ⟨x1.heap.size, 0, none⟩ (.int .i64 E1)).setCell ⟨x1.heap.size, 1, none⟩ (.int .i64 E2)) (x1.heap.size) gc gv mv := by
                  rw [hH]
                  exact ⟨(hC3.setCell hC1.size _).setCell hC1.size _, spotLd hs9 _ _, (hnq.kept (grown_setCell x2 x1.heap.size 0 _) (by simp)).kept2 (grown_setCell _ x1.heap.size 1 _) (by simp) hC2.size⟩
                generalize World.setCell _ _ _ = XX at hf ⊢
                generalize x1.heap.size = bb at hf ⊢
                exact key _ _ _ _ _ hf
            · skip
              go_simp
              have hC2 := hC0.alloc hC0.size (.cells #[.int .i64 0, .int .i64 0] 33)
              refine hK _ _ (.inr hC2) ?_
              clear hK Kk
              have hk9 : (X.drew.alloc (.cells #[.int .i64 0, .int .i64 0] 33)).heap[X.heap.size]? = some (.cells #[.int .i64 0, .int .i64 0] 33 (0, 0)) := allocNew X.drew (.cells #[.int .i64 0, .int .i64 0] 33) rfl
              refine wpAnyE_ready (rs := [1]) (by kernel_rfl) (by simp) ?_
              refine AllE.cons rfl (fun Kk hK => ?_) AllE.nil
              go_simp
              refine ⟨trivial, rfl, (callsIn_wide.2 (HC2.out _ _ (HWX.out.below hC2))).mono ?_⟩
              rintro e x1 ⟨gc, rfl, hgc, hV2, hb2⟩
              dsimp only
              have hC1 := hC2.trans (hb2.mono hC2.size)
              refine hK _ _ (.inr hC1) ?_
              clear hK Kk
              have hk8 := (hb2.block _ (Array.getElem?_eq_some_iff.1 hk9).1).trans hk9
              refine wpAnyE_ready (rs := [6]) (by kernel_rfl) (by simp) ?_
              refine AllE.cons rfl (fun Kk hK => ?_) AllE.nil
              go_simp
              refine ⟨trivial, rfl, (callsIn_wide.2 (HN2.out _ _ hV2 _ (HFN.out.below hC1))).mono ?_⟩
              rintro e x2 ⟨hb3, gv, mv, rfl, hnq⟩
              dsimp only
              have hC3 := hC1.trans (hb3.mono hC1.size)
              refine hK _ _ (.inr hC3) ?_
              clear hK Kk
              have hs9 := (hb3.block _ (Array.getElem?_eq_some_iff.1 hk8).1).trans hk8
              have hz9 := twoF hs9
              have v0 := hz9.1; have v1 := hz9.2.1; have y0 := (one_block hs9).1 0; have y1 := (one_block hs9).1 1
              have hw1 : X.heap.size < x1.heap.size := Nat.lt_of_lt_of_le (Array.getElem?_eq_some_iff.1 hk9).1 hb2.size
              refine wpAnyE_takeD (i := 7) (some 75) (v := (.tuple #[gv, mv, .agg #[.int .i64 E1, .int .i64 E2]])) (fun _ => trivial) (by kernel_rfl) rfl rfl (by kernel_rfl) (by kernel_rfl) (by kernel_rfl) (by kernel_rfl) (fun _ _ _ h => by cases h.1) hC3 (Or.inl ⟨by kernel_rfl, fun w' hC => by clear hC; go_simp⟩) ?_
              simp only [Act.put, List.setIfInBounds_toArray, List.set_cons_succ, List.set_cons_zero]
              refine wpAnyE_takeD (i := 8) (some 83) (v := gv) (fun _ => trivial) (by kernel_rfl) rfl rfl (by kernel_rfl) (by kernel_rfl) (by kernel_rfl) (by kernel_rfl) (fun _ _ _ h => by cases h.1) hC3 (Or.inl ⟨by kernel_rfl, fun w' hC => by clear hC; go_simp⟩) ?_
              simp only [Act.put, List.setIfInBounds_toArray, List.set_cons_succ, List.set_cons_zero]
              refine wpAnyE_takeD (i := 9) (some 84) (v := mv) (fun _ => trivial) (by kernel_rfl) rfl rfl (by kernel_rfl) (by kernel_rfl) (by kernel_rfl) (by kernel_rfl) (fun _ _ _ h => by cases h.1) hC3 (Or.inl ⟨by kernel_rfl, fun w' hC => by clear hC; go_simp⟩) ?_
              simp only [Act.put, List.setIfInBounds_toArray, List.set_cons_succ, List.set_cons_zero]
              refine wpAnyE_takeD (i := 10) (some 85) (v := (.agg #[.int .i64 E1, .int .i64 E2])) (fun _ => trivial) (by kernel_rfl) rfl rfl (by kernel_rfl) (by kernel_rfl) (by kernel_rfl) (by kernel_rfl) (fun _ _ _ h => by cases h.1) hC3 (Or.inl ⟨by kernel_rfl, fun w' hC => by clear hC; go_simp⟩) ?_
              simp only [Act.put, List.setIfInBounds_toArray, List.set_cons_succ, List.set_cons_zero]
              refine wpAnyE_ready (rs := [12]) (by kernel_rfl) (by simp) ?_
              refine AllE.cons rfl (fun Kk hK => ?_) AllE.nil
              go_simp
              refine hK _ _ (.inr (hC3)) ?_
              clear hK Kk
              refine wpAnyE_ready (rs := [13]) (by kernel_rfl) (by simp) ?_
              refine AllE.cons rfl (fun Kk hK => ?_) AllE.nil
              go_simp
              refine hK _ _ (.inr (hC3)) ?_
              clear hK Kk
              refine wpAnyE_ready (rs := [14]) (by kernel_rfl) (by simp) ?_
              refine AllE.cons rfl (fun Kk hK => ?_) AllE.nil
              go_simp
              refine hK _ _ (.inr ((hC3.setCell (p := ⟨X.heap.size, 0, none⟩) (Nat.le_refl _) _).setCell (p := ⟨X.heap.size, 1, none⟩) (Nat.le_refl _) _)) ?_
              clear hK Kk
              refine wpAnyE_done (by kernel_rfl) ⟨rfl, ?_⟩ _
              have hf : H ((x2.setCell ⟨X.heap.size, 0, none⟩ (.int .i64 E1)).setCell ⟨X.heap.size, 1, none⟩ (.int .i64 E2)) (X.heap.size) gc gv mv := by
                rw [hH]
                exact ⟨(hC3.setCell (p := ⟨X.heap.size, 0, none⟩) (Nat.le_refl _) _).setCell (p := ⟨X.heap.size, 1, none⟩) (Nat.le_refl _) _, spotLd hs9 _ _, (hnq.kept (grown_setCell x2 X.heap.size 0 _) hw1).kept2 (grown_setCell _ X.heap.size 1 _) hw1 hC1.size⟩
              generalize World.setCell _ _ _ = XX at hf ⊢
              generalize X.heap.size = bb at hf ⊢
              exact key _ _ _ _ _ hf
          case h2 =>
            rintro Y b8 g8 gv2 mv2 hf
            rw [hH] at hf
            obtain ⟨hXB, hX9, hq2⟩ := hf
            clear hH H hC0 hmix
            rw [then_normalLd]
            obtain ⟨hG1, x1, c1, rfl, hM1⟩ := nq_parts (HQ1.out.below hXB (Nat.le_refl _))
            obtain ⟨hG2, x2, c2, rfl, hM2⟩ := nq_parts hq2
            have hMf : (if E1 = 0 then MM else []).length ≤ 1048576 := by
              split
              · exact HMM.out
              · exact Nat.zero_le _
            generalize (if E1 = 0 then NN else []) = NX at *
            generalize (if E1 = 0 then MM else []) = MX at *
            have HMS := hide (merges_same x1 x2 c1 c2 _ MX Y hM1 hM2 rfl hMf)
            have HG1 := hide hG1
            have HG2 := hide hG2
            have HNX := hide hG1.few
            have hk9 := (hXB.block _ (Array.getElem?_eq_some_iff.1 HX9.out).1).trans HX9.out
            have p0 := (one_block hk9).1 0
            have p1 := (one_block hk9).1 1
            have p2 := (one_block hX9).1 0
            have p3 := (one_block hX9).1 1
            have HXY := hide (HXB.out.trans (hXB.mono HXB.out.size))
            generalize hnx : MX.length = nx at *
            clear hG1 hG2 hM1 hM2 hMf hk9 hXB hX9 hq2 HQ1 HMM HN2 HFN HWX LE HX9 hnx
            go_wp2_with fail
            refine HMS.out.mono ?_
            rintro e y1 ⟨rfl, hby⟩
            have HF1 := hide (HG1.out.below hby)
            have HF2 := hide (HG2.out.below hby)
            have HXZ := hide (HXY.out.trans (hby.mono HXY.out.size))
            clear hby HMS HG1 HG2 HXY p0 p1 p2 p3
            go_wp2_with fail
            refine (grq_len y1 _ _ NX HF1.out).mono ?_
            rintro e y ⟨rfl, rfl⟩
            go_wp2_with fail
            refine (grq_len y1 _ _ NX HF2.out).mono ?_
            rintro e y ⟨rfl, rfl⟩
            go_wp2_with fail
            go_loopw [16] (fun i wz => ∃ k : Nat, k ≤ NX.length ∧ i = .int .i64 k ∧ Below y1.heap.size y1 wz) (fun i _ => NX.length - (intOf i).toNat)
            case atStart => exact ⟨0, Nat.zero_le _, rfl, Below.refl _ _⟩
            case round =>
              obtain ⟨k, hk, rfl, hbz⟩ := hrel
              generalize hwz : wr = wz at *
              clear hwz
              have HBZ := hide hbz
              have HP1 := hide (HF1.out.below hbz)
              have HP2 := hide (HF2.out.below hbz)
              by_cases hlk : k < NX.length
              · have HLK := hide hlk
                have hki : (k : Int) < (NX.length : Int) := by omega
                clear hk hlk hbz
                go_wp2_with fail
                refine (grq_len wz _ _ NX HP1.out).mono ?_
                rintro e y ⟨rfl, rfl⟩
                go_wp2_with fail
                refine (grq_next (k : Int) wz _ _ NX HP1.out).mono ?_
                rintro e z1 ⟨v1, rfl, ho1, hb1⟩
                obtain ⟨a6, c6, rfl⟩ := own_shapeG ho1
                have HO1 := hide ho1
                have HE1 := hide hb1
                clear ho1 hb1
                go_wp2_with fail
                refine (grq_next (k : Int) z1 _ _ NX (HP2.out.below HE1.out)).mono ?_
                rintro e z2 ⟨v2, rfl, ho2, hb2⟩
                obtain ⟨a7, c7, rfl⟩ := own_shapeG ho2
                have HE2 := hide (HE1.out.trans (hb2.mono HE1.out.size))
                have HIN := hide (ints_true a6 a7 _ c6 c7 (nextL NX (k : Int)) z2 (View.ofOwn (own_below HO1.out hb2) rfl) (View.ofOwn ho2 rfl) rfl (by have := HP1.out.row (k : Int); omega))
                generalize nextL NX (k : Int) = LL at *
                clear ho2 hb2 HO1 HE1
                go_wp2_with fail
                refine HIN.out.mono ?_
                rintro e z3 ⟨rfl, q, rfl⟩
                have hzz : Below wz.heap.size wz (z2.drewN q) := HE2.out.trans ⟨rfl, rfl, rfl, Nat.le_refl _, fun _ _ => rfl⟩
                have HFK := hide (HBZ.out.trans (hzz.mono HBZ.out.size))
                have hwk := wrapJ HLK.out (Nat.le_trans HNX.out (by omega))
                clear HIN hki hzz
                go_wp2_with fail
                exact ⟨⟨k + 1, HLK.out, by rw [hwk]; simp, HFK.out⟩, by rw [hwk]; exact measZ2 HLK.out⟩
              · have e : k = NX.length := by omega
                subst e
                have hni : ¬ (NX.length : Int) < (NX.length : Int) := by omega
                have hwj := wrapJ HLT.out HMF2.out
                have HFIN := hide (HBR.out.trans ((HXZ.out.trans (hbz.mono HXZ.out.size)).mono HBR.out.size))
                clear hk hlk hbz
                go_wp2_with fail
                refine (grq_len wz _ _ NX HP1.out).mono ?_
                rintro e y ⟨rfl, rfl⟩
                go_wp2_with fail
                exact ⟨⟨j + 1, HLT.out, by rw [hwj]; simp, HFIN.out⟩, by rw [hwj]; exact measZ2 HLT.out⟩
      · obtain rfl : j = mf := by omega
        have hmi : ¬ (j : Int) < (j : Int) := by omega
        have HAW := hide (awake14_true wo)
        have HBW := hide (HB6.out.trans (hbr.mono HB6.out.size))
        clear hj hlt hbr
        go_wp2_with fail
        refine HAW.out.mono ?_
        rintro e w9 ⟨rfl, hb9⟩
        have HB9 := hide (HBW.out.trans (hb9.mono HBW.out.size))
        clear hb9
        go_wp2_with fail
        go_ret
        exact ⟨rfl, HB9.out⟩
  · have hrb := HRB.out w1 _ hV1 hE
    have HE := hide hE
    clear hcp hV1 hb1 hbw1 m0 m1 m2 HKM HBA HRB HRO
    go_wp2_with fail
    refine hrb.mono ?_
    rintro e w2 ⟨rfl, hb2⟩
    have hbw2 := HB1.out.trans (hb2.mono HB1.out.size)
    obtain ⟨E1, hE1⟩ : ∃ E1, E1 = (idsE (N : Int) l).1 := ⟨_, rfl⟩
    obtain ⟨E2, hE2⟩ : ∃ E2 : Int, E2 = ((idsE (N : Int) l).2 : Int) := ⟨_, rfl⟩
    rw [← hE1, ← hE2]
    have hne : ¬ E1 = 0 := by rw [hE1]; exact HE.out
    have he1 : (E1 == 0) = false := by simpa using hne
    have he2 : (E1 != 0) = true := by simpa using hne
    have hk3 := allocOld (allocNew w2 (.cells #[.int .u32 0, .int .u32 0, .slice none 0 0] 25) rfl) (.cells #[.int .i64 E1, .int .i64 E2] 33)
    have hk4 := allocNew (w2.alloc (.cells #[.int .u32 0, .int .u32 0, .slice none 0 0] 25)) (.cells #[.int .i64 E1, .int .i64 E2] 33) (n := w2.heap.size + 1) (by simp)
    have HB2 := hide (hbw2.trans ((((Below.refl _ w2).alloc (Nat.le_refl _) (.cells #[.int .u32 0, .int .u32 0, .slice none 0 0] 25)).alloc (by simp) (.cells #[.int .i64 E1, .int .i64 E2] 33)).mono hbw2.size))
    have n0 := (one_block hk3).1 0
    have n1 := (one_block hk3).1 1
    have n2 := (one_block hk3).1 2
    have s0 := (one_block hk4).1 0
    have s1 := (one_block hk4).1 1
    have hno := kitNone_none none 0 ((w2.alloc (.cells #[.int .u32 0, .int .u32 0, .slice none 0 0] 25)).alloc (.cells #[.int .i64 E1, .int .i64 E2] 33))
    unfold modV at hno
    clear hE1 hE2 hne hk3 hk4 hbw2 hb2 hrb HCP HKM1 HB1
    go_wp2_with fail
    generalize World.alloc (World.alloc w2 _) _ = W2 at *
    refine hno.mono ?_
    rintro e w3 ⟨rfl, hb3⟩
    have HB3 := hide (HB2.out.trans (hb3.mono HB2.out.size))
    have HAW := hide (awake14_true w3)
    clear hno hb3 n0 n1 n2 s0 s1
    go_wp2_with fail
    refine HAW.out.mono ?_
    rintro e w4 ⟨rfl, hb4⟩
    have HB4 := hide (HB3.out.trans (hb4.mono HB3.out.size))
    clear hb4
    go_wp2_with fail
    go_ret
    exact ⟨rfl, HB4.out⟩

end Go.Proofs.YtlcaedibmlidlaaGreat
