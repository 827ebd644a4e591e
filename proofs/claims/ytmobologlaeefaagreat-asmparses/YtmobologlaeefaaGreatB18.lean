/-
  Texts laid together in one: Ref07Line1, Ref07Line2.
-/
import Derived.WalkSpells
import Derived.WalkMore
import Derived.BigRegion
import Derived.Deep.RegionWith
import Derived.Deep.RegionHeld2
import Derived.RangeFuncNested
import Derived.OwnWalkIn
import Derived.TacticsInMore
import Derived.Test.YtmobologlaeefaaGreatProg
import Derived.Test.YtmobologlaeefaaGreatB17
/-
  What Line of the document's answer for layer 7 returns: its operation and its result.
-/
namespace Go.Proofs.YtmobologlaeefaaGreat
open Go.RowKit
set_option linter.unusedVariables false
set_option linter.unusedSimpArgs false
set_option maxRecDepth 20000

set_option maxHeartbeats 16000000 in
theorem line_op (s : ByteArray) (b : Int) (w : World) (l : List TokT) (R : LineR) (Q : Exit → Act → World → Prop) (hn : l.length ≤ 16777216) (hin : ToksIn l) (hw : wOk l = true) (hb0 : 0 ≤ b) (hb1 : b < 4294967296) (hbad : LnBad w R Q)
    (hP : ∀ a1 w1, LnJ2 s b w l R a1 w1 → (dropR 29 (Tryz.f26.body.getD .skip)).wp Tryz.prog Q a1 w1)
    (a1 : Act) (w1 : World) (hJ : LnJ1 s b w l R a1 w1) : (dropR 16 (Tryz.f26.body.getD .skip)).wp Tryz.prog Q a1 w1 := by
  refine wp_cut 29 _ _ _ ?_ hP
  clear hP
  obtain ⟨a, c, BE, at_, said, ⟨f, rfl, hsz, f0, f1, f4, f6, f7, f8, f10, f11, f12⟩, hS, hat, hsaid, hL⟩ := hJ
  conv => arg 5; whnf
  rw [frame231 f hsz, f0, f1, f4, f6, f7, f8, f10, f11, f12]
  clear f0 f1 f4 f6 f7 f8 f10 f11 f12 hsz
  have hl0 : 0 < l.length := by omega
  obtain ⟨g1, o1, rfl, hg1, t1, t2, t3⟩ := hS.toks at_ hat
  obtain ⟨g2, o2, e2, hg2', s1, s2, s3⟩ := hS.toks 0 hl0
  simp only [Option.some.injEq, Addr.mk.injEq, and_true] at e2
  obtain ⟨rfl, rfl⟩ := e2
  simp only [Nat.zero_mul, Nat.add_zero] at s1 s2 s3
  have hok0 := toks_ok hw hl0
  have hs0 := (hin 0 hl0).2.2.1
  have hL' := hL
  unfold lineO at hL'
  rw [if_neg (by omega)] at hL'
  have HNG : Hid (g1 ≠ w.heap.size ∧ g1 ≠ w.heap.size + 1) := by have := hS.off g1 o1 rfl; exact ⟨by omega, by omega⟩
  have hatn : (at_ : Int) < (l.length : Int) := by omega
  have hat0 : (0 : Int) ≤ (at_ : Int) := by omega
  have hln : (0 : Int) < (l.length : Int) := by omega
  have hll : (l.length : Int) ≤ 16777216 := by omega
  generalize nthT l at_ = z at *
  generalize hy0 : nthT l 0 = y at *
  obtain ⟨z1, z2, z3⟩ := z
  obtain ⟨y1, y2, y3⟩ := y
  simp only at t1 t2 t3 s1 s2 s3 hL' hok0 hs0 hsaid
  have HY0 := hide hy0
  have HS := hide hS
  have HBAD := hide hbad
  have HW := hide hw
  have HIN := hide hin
  have HSAID := hide hsaid
  have HOK0 := hide hok0
  have HS0 := hide hs0
  have HAT := hide hat
  have HG1 := hide hg1
  have HLL := hide hL
  clear hS hbad hw hin hsaid hok0 hs0 hat hL hy0 hg2'
  refine cut_step rfl ?_
  intro K1 hK1
  have HK1 := hide hK1
  clear hK1
  by_cases hz1 : z1 = 1
  · subst hz1
    rw [if_neg (by simp)] at hL'
    have hNm := fun wx => refNamed_any z2 wx
    have HL := hide hL'
    clear hL'
    go_wp2_with fail
    refine HK1.out _ _ ?_
    clear HK1
    refine cut_step rfl ?_
    intro K2 hK2
    have HK2 := hide hK2
    clear hK2
    cases ho : opsL.find? (namP z2) with
    | none =>
      have e1 : namedB z2 = false := by unfold namedB; rw [ho]; rfl
      have e2 : namedV z2 = formV 0 noFrm := by unfold namedV; rw [ho]
      rw [e1, e2] at hNm
      unfold formV noFrm at hNm
      simp only at hNm
      have HR : Hid (R = noLine 71 z3) := by have := HL.out; rw [ho] at this; exact this
      clear HL e1 e2 ho
      go_wp2_with fail
      refine (hNm _).mono ?_
      rintro x w2 ⟨rfl, hb2⟩
      have hba : Below w2.heap.size w2 (w2.alloc (.cells #[.int .u16 0, .string ⟨#[]⟩, .bool false, .bool false, .string ⟨#[]⟩, .string ⟨#[]⟩, .int .i64 0, .int .u8 0] 64)) := (Below.refl _ _).alloc (Nat.le_refl _) _
      have hb2a := hb2.trans (hba.mono hb2.size)
      have HS2 := hide (HS.out.below hb2a)
      have tt3 := (hb2a.cell (p := ⟨g1, o1 + at_ * 3 + 2, none⟩) hg1).trans t3
      have hg2 : g1 < (w2.alloc (.cells #[.int .u16 0, .string ⟨#[]⟩, .bool false, .bool false, .string ⟨#[]⟩, .string ⟨#[]⟩, .int .i64 0, .int .u8 0] 64)).heap.size := Nat.lt_of_lt_of_le hg1 hb2a.size
      have HT3 := hide (And.intro tt3 hg2)
      clear hNm hb2 hba hb2a HS t1 t2 t3 s1 s2 s3 hg1 tt3 hg2
      go_wp2_with fail
      refine HK2.out _ _ ?_
      clear HK2
      generalize w2.alloc (.cells #[.int .u16 0, .string ⟨#[]⟩, .bool false, .bool false, .string ⟨#[]⟩, .string ⟨#[]⟩, .int .i64 0, .int .u8 0] 64) = X at *
      obtain ⟨tt3, hg2⟩ := HT3.out
      refine cut_step rfl ?_
      intro K3 hK3
      have HK3 := hide hK3
      clear hK3 HT3
      have hlw := HS2.out.lt
      have hsw := HS2.out.size
      have LN : Hid (∀ w', LeafC w X w' → w'.cell? ⟨w.heap.size + 2, 0, none⟩ = some (.int .u16 0) ∧ w'.cell? ⟨w.heap.size + 2, 1, none⟩ = some (.int .u32 0) ∧ w'.cell? ⟨w.heap.size + 2, 2, none⟩ = some (.int .u32 0) ∧ w'.cell? ⟨w.heap.size + 2, 3, none⟩ = some (.slice none 0 0) ∧ w'.cell? ⟨g1, o1 + at_ * 3 + 2, none⟩ = some (.int .i64 (z3))) := fun w' h => by
        obtain ⟨_, _, ⟨z0, z1, z2, z3⟩, _⟩ := HS2.out.cells
        exact ⟨h.aside.cell (by omega) (by omega) (by omega) z0, h.aside.cell (by omega) (by omega) (by omega) z1, h.aside.cell (by omega) (by omega) (by omega) z2, h.aside.cell (by omega) (by omega) (by omega) z3, h.aside.cell hg2 HNG.out.1 HNG.out.2 tt3⟩
      have hC0 := LeafC.start HS2.out
      clear hlw hsw
      go_wp2_with fail
      rename_i Kr hKr
      have HKR := hide hKr
      clear hKr
      have key : ∀ (u : Array Value) (Xr : World), u.getD 4 undef = .pointer (some ⟨w.heap.size, 0, none⟩) → u.getD 5 undef = .bool false → u.getD 6 undef = .pointer (some ⟨w.heap.size + 1, 0, none⟩) → LeafC w X Xr → Xr.heap[w.heap.size + 1]? = some (.cells #[.int .i64 (71), .int .i64 (z3)] 28 (0, 0)) → Kr { tmps := u, defers := [] } Xr := by
        intro u Xr h4 h5 h6 hX hx
        refine HKR.out _ _ ?_
        have HX := hide hX
        have Hx := hide hx
        clear hX hx hC0
        go_wp2_with fail
        exact HBAD.out _ Xr _ _ h4 h5 h6 rfl HX.out.res Hx.out HX.out.bel HR.out
      have KEY := hide key
      clear key HKR
      have hmix : Tryz.prog.follows .mixedOrders = true := by kernel_rfl
      refine (wpIn_wide (n := 0)).1 ?_
      refine wpIn_normal (wpIn_region_any hmix (wpAnyC_sound (C := LeafC w X) _ _ _ _ ?_))
      change wpAnyC _ _ _ _ _ _ _ _ _ _ (World.drew _)
      refine wpAnyC_takeD (i := 0) (some 95) (v := .agg #[.int .u16 0, .int .u32 0, .int .u32 0, .slice none 0 0]) (fun _ => trivial) (by kernel_rfl) rfl rfl (by kernel_rfl) (by kernel_rfl) (by kernel_rfl) (fun _ _ _ h => by cases h.1) hC0 (Or.inl ⟨by kernel_rfl, fun w' hC => by obtain ⟨b0, b1, b2, b3, _⟩ := LN.out w' hC; clear hC; go_simp⟩) ?_
      simp only [Act.put, List.setIfInBounds_toArray, List.set_cons_succ, List.set_cons_zero]
      refine wpAnyC_takeD (i := 1) (some 96) (v := .slice (some ⟨g1, o1, none⟩) l.length c) (fun _ => trivial) (by kernel_rfl) rfl rfl (by kernel_rfl) (by kernel_rfl) (by kernel_rfl) (fun _ _ _ h => by cases h.1) hC0 (Or.inl ⟨by kernel_rfl, fun w' hC => by clear hC; go_simp⟩) ?_
      simp only [Act.put, List.setIfInBounds_toArray, List.set_cons_succ, List.set_cons_zero]
      refine wpAnyC_takeD (i := 2) (some 97) (v := .int .i64 ((at_ : Int))) (fun _ => trivial) (by kernel_rfl) rfl rfl (by kernel_rfl) (by kernel_rfl) (by kernel_rfl) (fun _ _ _ h => by cases h.1) hC0 (Or.inl ⟨by kernel_rfl, fun w' hC => by clear hC; go_simp⟩) ?_
      simp only [Act.put, List.setIfInBounds_toArray, List.set_cons_succ, List.set_cons_zero]
      refine wpAnyC_takeD (i := 3) (some 98) (v := .pointer (some ⟨g1, o1 + at_ * 3, none⟩)) (fun _ => trivial) (by kernel_rfl) rfl rfl (by kernel_rfl) (by kernel_rfl) (by kernel_rfl) (fun _ _ _ h => by cases h.1) hC0 (Or.inl ⟨by kernel_rfl, fun w' hC => by clear hC; go_simp⟩) ?_
      simp only [Act.put, List.setIfInBounds_toArray, List.set_cons_succ, List.set_cons_zero]
      refine wpAnyC_takeD (i := 4) (some 99) (v := .pointer (some ⟨g1, o1 + at_ * 3 + 2, none⟩)) (fun _ => trivial) (by kernel_rfl) rfl rfl (by kernel_rfl) (by kernel_rfl) (by kernel_rfl) (fun _ _ _ h => by cases h.1) hC0 (Or.inl ⟨by kernel_rfl, fun w' hC => by clear hC; go_simp⟩) ?_
      simp only [Act.put, List.setIfInBounds_toArray, List.set_cons_succ, List.set_cons_zero]
      refine wpAnyC_takeD (i := 5) (some 100) (v := .int .i64 (z3)) (fun _ => trivial) (by kernel_rfl) rfl rfl (by kernel_rfl) (by kernel_rfl) (by kernel_rfl) (fun _ _ _ h => by cases h.1) hC0 (Or.inl ⟨by kernel_rfl, fun w' hC => by obtain ⟨_, _, _, _, b4⟩ := LN.out w' hC; clear hC; go_simp⟩) ?_
      simp only [Act.put, List.setIfInBounds_toArray, List.set_cons_succ, List.set_cons_zero]
      refine wpAnyC_ready (rs := [6]) (by kernel_rfl) (by simp) ?_
      refine AllC.cons rfl (fun K hK => ?_) AllC.nil
      go_simp
      refine ⟨trivial, rfl, (callsIn_wide.2 (refSpot_exact _ _ _)).mono ?_⟩
      rintro x w5 ⟨rfl, hw5⟩
      dsimp only
      have hC5 : LeafC w X w5 := by rw [hw5]; exact hC0.alloc _
      clear hw5
      refine hK _ _ hC5 ?_
      clear hK K
      refine wpAnyC_ready (rs := [7]) (by kernel_rfl) (by simp) ?_
      refine AllC.cons rfl (fun K hK => ?_) AllC.nil
      obtain ⟨⟨c0, c1, c2, c3, cf⟩, _⟩ := hC5.cells
      go_simp
      refine hK _ _ (hC5).zero.1 ?_
      clear hK K c0 c1 c2 c3 cf
      refine wpAnyC_takeD (i := 8) (some 5) (v := .bool false) (fun _ => trivial) (by kernel_rfl) rfl rfl (by kernel_rfl) (by kernel_rfl) (by kernel_rfl) (fun _ _ _ h => by cases h.1) hC5.zero.1 (Or.inl ⟨by kernel_rfl, fun w' hC => by clear hC; go_simp⟩) ?_
      simp only [Act.put, List.setIfInBounds_toArray, List.set_cons_succ, List.set_cons_zero]
      refine wpAnyC_ready (rs := [9]) (by kernel_rfl) (by simp) ?_
      refine AllC.cons rfl (fun K hK => ?_) AllC.nil
      obtain ⟨_, y0, y1, s0, s1, sf⟩ := hC5.cells
      go_simp
      refine hK _ _ ((hC5.zero.1).put (.int .i64 (71)) (.int .i64 (z3))).1 ?_
      clear hK K s0 s1 sf
      have hF1 := hide (hC5.zero.1.put (.int .i64 (71)) (.int .i64 (z3))).1
      have hF2 := hide (hC5.zero.1.put (.int .i64 (71)) (.int .i64 (z3))).2
      clear hC0 hC5 LN
      refine wpAnyC_done (by kernel_rfl) ⟨rfl, ?_⟩ _
      rw [then_normal]
      generalize ((((((w5.setCell ⟨w.heap.size, 0, none⟩ (.int .u16 0)).setCell ⟨w.heap.size, 1, none⟩ (.int .u32 0)).setCell ⟨w.heap.size, 2, none⟩ (.int .u32 0)).setCell ⟨w.heap.size, 3, none⟩ (.slice none 0 0)).setCell ⟨w.heap.size + 1, 0, none⟩ (.int .i64 (71))).setCell ⟨w.heap.size + 1, 1, none⟩ (.int .i64 (z3))) = XX at *
      exact KEY.out _ XX rfl rfl rfl hF1.out hF2.out
    | some o =>
      have e1 : namedB z2 = true := by unfold namedB; rw [ho]; rfl
      have e2 : namedV z2 = formV o (opF o) := by unfold namedV; rw [ho]
      rw [e1, e2] at hNm
      have hL' := HL.out
      rw [ho] at hL'
      simp only at hL'
      have hknown := op_known ho
      have HKO := hide hknown
      clear HL e1 e2 ho hknown
      have HOPF : Hid (∃ fo, fo = opF o) := ⟨_, rfl⟩
      unfold formV at hNm
      generalize hfo : opF o = fo at *
      obtain ⟨nm, ty, re, fx, rs, mo, pa⟩ := fo
      simp only at hNm hL'
      have HL2 := hide hL'
      have HFO := hide hfo
      clear hL' hfo HOPF
      go_wp2_with fail
      refine (hNm _).mono ?_
      rintro x w2 ⟨rfl, hb2⟩
      have hba : Below w2.heap.size w2 (w2.alloc (.cells #[.int .u16 (o : Int), .string nm, .bool ty, .bool re, .string fx, .string rs, .int .i64 mo, .int .u8 pa] 64)) := (Below.refl _ _).alloc (Nat.le_refl _) _
      have hb2a := hb2.trans (hba.mono hb2.size)
      have HS2 := hide (HS.out.below hb2a)
      have HF2 := hide (heap_alloc_new w2 (.cells #[.int .u16 (o : Int), .string nm, .bool ty, .bool re, .string fx, .string rs, .int .i64 mo, .int .u8 pa] 64))
      have HGF : Hid (g1 < w2.heap.size ∧ BE < w2.heap.size) := ⟨Nat.lt_of_lt_of_le hg1 hb2.size, Nat.lt_of_lt_of_le HS.out.size hb2.size⟩
      have ss1 := (hb2a.cell (p := ⟨g1, o1 + 1, none⟩) hg1).trans s2
      have ss2 := (hb2a.cell (p := ⟨g1, o1 + 2, none⟩) hg1).trans s3
      have hg2 : g1 < (w2.alloc (.cells #[.int .u16 (o : Int), .string nm, .bool ty, .bool re, .string fx, .string rs, .int .i64 mo, .int .u8 pa] 64)).heap.size := Nat.lt_of_lt_of_le hg1 hb2a.size
      have HT3 := hide (And.intro ss1 (And.intro ss2 hg2))
      clear hNm hb2 hba hb2a HS t1 t2 t3 s1 s2 s3 hg1 ss1 ss2 hg2
      go_wp2_with fail
      refine HK2.out _ _ ?_
      clear HK2
      generalize hX : w2.alloc (.cells #[.int .u16 (o : Int), .string nm, .bool ty, .bool re, .string fx, .string rs, .int .i64 mo, .int .u8 pa] 64) = X at *
      clear hX
      generalize w2.heap.size = FB at *
      obtain ⟨ss1, ss2, hg2⟩ := HT3.out
      obtain ⟨cf, _⟩ := blk_cells HF2.out
      have d0 : X.cell? ⟨FB, 0, none⟩ = some (.int .u16 (o : Int)) := cf 0
      have d3 : X.cell? ⟨FB, 3, none⟩ = some (.bool re) := cf 3
      have lFB : FB < X.heap.size := (Array.getElem?_eq_some_iff.1 HF2.out).1
      clear cf HT3
      refine cut_step rfl ?_
      intro K3 hK3
      have HK3 := hide hK3
      clear hK3
      go_wp2_with fail
      refine HK3.out _ _ ?_
      clear HK3
      refine cut_step rfl ?_
      intro K4 hK4
      have HK4 := hide hK4
      clear hK4
      by_cases hrs : re = said
      · subst hrs
        have hL2 := HL2.out
        rw [if_neg (by simp)] at hL2
        have HL3 := hide hL2
        clear hL2 HL2
        have HKX : Hid (LnX BE FB X.heap.size (some ⟨g1, o1, none⟩) (o : Int) (nm, ty, re, fx, rs, mo, pa) 0 0 (.slice none 0 0) (X.alloc (.cells #[.int .u16 (o : Int), .int .u32 0, .int .u32 0, .slice none 0 0] 41))) := by
          have hb : Below X.heap.size X (X.alloc (.cells #[.int .u16 (o : Int), .int .u32 0, .int .u32 0, .slice none 0 0] 41)) := (Below.refl _ _).alloc (Nat.le_refl _) _
          exact ⟨(hb.block _ lFB).trans HF2.out, heap_alloc_new X _, HGF.out.2, lFB, fun b off e => by simp only [Option.some.injEq, Addr.mk.injEq] at e; obtain ⟨rfl, _, _⟩ := e; exact HGF.out.1⟩
        have HSX := hide (HS2.out.below ((Below.refl X.heap.size X).alloc (Nat.le_refl _) (.cells #[.int .u16 (o : Int), .int .u32 0, .int .u32 0, .slice none 0 0] 41)))
        have hb3 : Below X.heap.size X (X.alloc (.cells #[.int .u16 (o : Int), .int .u32 0, .int .u32 0, .slice none 0 0] 41)) := (Below.refl _ _).alloc (Nat.le_refl _) _
        have HT4 := hide (And.intro ((hb3.cell (p := ⟨g1, o1 + 1, none⟩) hg2).trans ss1) (And.intro ((hb3.cell (p := ⟨g1, o1 + 2, none⟩) hg2).trans ss2) (Nat.lt_of_lt_of_le hg2 hb3.size)))
        have HX0 : Hid (X.heap.size < (X.alloc (.cells #[.int .u16 (o : Int), .int .u32 0, .int .u32 0, .slice none 0 0] 41)).heap.size) := by show _ < _; simp
        clear hb3
        cases re
        · go_wp2_with fail
          refine HK4.out _ _ ?_
          clear HK4
          refine cut_step rfl ?_
          intro K5 hK5
          have HK5 := hide hK5
          clear hK5
          go_wp2_with fail
          refine HK5.out _ _ ?_
          clear HK5
          refine cut_step rfl ?_
          intro K6 hK6
          have HK6 := hide hK6
          clear hK6
          go_wp2_with fail
          refine HK6.out _ _ ?_
          refine cut_done rfl ?_
          have hR2 := HL3.out
          rw [if_neg (by simp)] at hR2
          rw [← HFO.out] at HKX hR2
          exact ⟨_, c, BE, FB, X.heap.size, at_, o, 0, ⟨_, rfl, rfl, rfl, rfl, rfl, rfl, rfl, rfl, rfl, rfl, rfl, rfl⟩, HSX.out, HKX.out, HAT.out, ⟨HKO.out.1, HKO.out.2, by rw [HFO.out]; simp [idE], by omega, by omega⟩, by simpa using hR2⟩
        · have hy1 : y1 = 2 := by have := HSAID.out; simpa using this.symm
          have hp : plainB (strI y2) = true := by have := HOK0.out; rw [hy1] at this; exact this
          have hI := fun wx => refId7_any y2 b wx hp HS0.out hb0 hb1
          obtain ⟨pn1, pn2⟩ := plain_num hp
          have hidz := fun (h : idP y2 b = 0) => idP_zero h
          have hid43 : idP y2 b ≠ 0 → idP y2 b = 43 := fun h => by
            unfold idP at h ⊢
            rw [if_neg (by rw [pn1]; simp)] at h ⊢
            split at h
            · rename_i hh; rw [if_pos hh]
            · exact absurd rfl h
          have hbnd := num_bounds pn1
          have HBND := hide hbnd
          have HIDZ := hide hidz
          have HID43 := hide hid43
          clear hidz hid43 hbnd pn1 pn2 hp hy1
          go_wp2_with fail
          refine HK4.out _ _ ?_
          clear HK4
          refine cut_step rfl ?_
          intro K5 hK5
          have HK5 := hide hK5
          clear hK5
          go_wp2_with fail
          refine HK5.out _ _ ?_
          clear HK5
          generalize hX2 : X.alloc (.cells #[.int .u16 (o : Int), .int .u32 0, .int .u32 0, .slice none 0 0] 41) = X2 at *
          clear hX2
          generalize X.heap.size = XB at *
          obtain ⟨tt1, tt3, hg3⟩ := HT4.out
          clear ss1 ss2 hg2 d0 d3 HT4
          have hg2 := hg3
          refine cut_step rfl ?_
          intro K6 hK6
          have HK6 := hide hK6
          clear hK6
          generalize numV (strI y2) = nv at *
          by_cases hz : idP y2 b = 0
          · rw [show decide (idP y2 b = 0) = true by simpa using hz] at hI
            have HZ := hide (HIDZ.out hz)
            obtain ⟨ci, fi⟩ := blk_cells HKX.out.inst
            have x2 := ci 2
            have x2f := fi 2
            have HKX3 := hide (HKX.out.setResult nv)
            have HSX3 := hide (HSX.out.far (g := XB) (by have := HKX.out.lt1; have := HKX.out.lt2; omega) (fun b off e => by have := HKX.out.far b off e; have := HKX.out.lt2; omega) 2 (.int .u32 nv))
            have hR2 := HL3.out
            rw [if_neg (by simp [hz])] at hR2
            have HR2 := hide hR2
            clear ci fi hR2 HL3 hz HID43 HIDZ
            go_wp2_with fail
            refine (hI _).mono ?_
            rintro x w5 ⟨rfl, rfl⟩
            clear hI
            go_wp2_with fail
            generalize X2.setCell ⟨XB, 2, none⟩ (.int .u32 nv) = Y at *
            refine HK6.out _ _ ?_
            refine cut_done rfl ?_
            rw [← HFO.out] at HKX3 HR2
            obtain ⟨q1, q2, q3, q4⟩ := HZ.out
            exact ⟨_, c, BE, FB, XB, at_, o, nv, ⟨_, rfl, rfl, rfl, rfl, rfl, rfl, rfl, rfl, rfl, rfl, rfl, rfl⟩, HSX3.out, HKX3.out, HAT.out, ⟨HKO.out.1, HKO.out.2, by rw [HFO.out]; exact idE_none q2, HBND.out.1, HBND.out.2⟩, by simpa using HR2.out⟩
          · rw [show decide (idP y2 b = 0) = false by simpa using hz] at hI
            have HR : Hid (R = noLine 43 y3) := by have := HL3.out; rw [if_pos ⟨trivial, hz⟩, HID43.out hz] at this; exact this
            clear HL3 hz HID43 HIDZ
            go_wp2_with fail
            refine (hI _).mono ?_
            rintro x w5 ⟨rfl, rfl⟩
            clear hI
            have hlw := HSX.out.lt
            have hsw := HSX.out.size
            have LN : Hid (∀ w', LeafC w X2 w' → w'.cell? ⟨w.heap.size + 2, 0, none⟩ = some (.int .u16 0) ∧ w'.cell? ⟨w.heap.size + 2, 1, none⟩ = some (.int .u32 0) ∧ w'.cell? ⟨w.heap.size + 2, 2, none⟩ = some (.int .u32 0) ∧ w'.cell? ⟨w.heap.size + 2, 3, none⟩ = some (.slice none 0 0) ∧ w'.cell? ⟨g1, o1 + 2, none⟩ = some (.int .i64 (y3))) := fun w' h => by
              obtain ⟨_, _, ⟨z0, z1, z2, z3⟩, _⟩ := HSX.out.cells
              exact ⟨h.aside.cell (by omega) (by omega) (by omega) z0, h.aside.cell (by omega) (by omega) (by omega) z1, h.aside.cell (by omega) (by omega) (by omega) z2, h.aside.cell (by omega) (by omega) (by omega) z3, h.aside.cell hg2 HNG.out.1 HNG.out.2 tt3⟩
            have hC0 := LeafC.start HSX.out
            clear hlw hsw
            go_wp2_with fail
            rename_i Kr hKr
            have HKR := hide hKr
            clear hKr
            have key : ∀ (u : Array Value) (Xr : World), u.getD 4 undef = .pointer (some ⟨w.heap.size, 0, none⟩) → u.getD 5 undef = .bool false → u.getD 6 undef = .pointer (some ⟨w.heap.size + 1, 0, none⟩) → LeafC w X2 Xr → Xr.heap[w.heap.size + 1]? = some (.cells #[.int .i64 (43), .int .i64 (y3)] 28 (0, 0)) → Kr { tmps := u, defers := [] } Xr := by
              intro u Xr h4 h5 h6 hX hx
              refine HKR.out _ _ ?_
              have HX := hide hX
              have Hx := hide hx
              clear hX hx hC0
              go_wp2_with fail
              exact HBAD.out _ Xr _ _ h4 h5 h6 rfl HX.out.res Hx.out HX.out.bel HR.out
            have KEY := hide key
            clear key HKR
            have hmix : Tryz.prog.follows .mixedOrders = true := by kernel_rfl
            refine (wpIn_wide (n := 0)).1 ?_
            refine wpIn_normal (wpIn_region_any hmix (wpAnyC_sound (C := LeafC w X2) _ _ _ _ ?_))
            change wpAnyC _ _ _ _ _ _ _ _ _ _ (World.drew _)
            refine wpAnyC_takeD (i := 0) (some 127) (v := .agg #[.int .u16 0, .int .u32 0, .int .u32 0, .slice none 0 0]) (fun _ => trivial) (by kernel_rfl) rfl rfl (by kernel_rfl) (by kernel_rfl) (by kernel_rfl) (fun _ _ _ h => by cases h.1) hC0 (Or.inl ⟨by kernel_rfl, fun w' hC => by obtain ⟨b0, b1, b2, b3, _⟩ := LN.out w' hC; clear hC; go_simp⟩) ?_
            simp only [Act.put, List.setIfInBounds_toArray, List.set_cons_succ, List.set_cons_zero]
            refine wpAnyC_takeD (i := 1) (some 128) (v := .slice (some ⟨g1, o1, none⟩) l.length c) (fun _ => trivial) (by kernel_rfl) rfl rfl (by kernel_rfl) (by kernel_rfl) (by kernel_rfl) (fun _ _ _ h => by cases h.1) hC0 (Or.inl ⟨by kernel_rfl, fun w' hC => by clear hC; go_simp⟩) ?_
            simp only [Act.put, List.setIfInBounds_toArray, List.set_cons_succ, List.set_cons_zero]
            refine wpAnyC_takeD (i := 2) (some 129) (v := .pointer (some ⟨g1, o1, none⟩)) (fun _ => trivial) (by kernel_rfl) rfl rfl (by kernel_rfl) (by kernel_rfl) (by kernel_rfl) (fun _ _ _ h => by cases h.1) hC0 (Or.inl ⟨by kernel_rfl, fun w' hC => by clear hC; go_simp⟩) ?_
            simp only [Act.put, List.setIfInBounds_toArray, List.set_cons_succ, List.set_cons_zero]
            refine wpAnyC_takeD (i := 3) (some 130) (v := .pointer (some ⟨g1, o1 + 2, none⟩)) (fun _ => trivial) (by kernel_rfl) rfl rfl (by kernel_rfl) (by kernel_rfl) (by kernel_rfl) (fun _ _ _ h => by cases h.1) hC0 (Or.inl ⟨by kernel_rfl, fun w' hC => by clear hC; go_simp⟩) ?_
            simp only [Act.put, List.setIfInBounds_toArray, List.set_cons_succ, List.set_cons_zero]
            refine wpAnyC_takeD (i := 4) (some 131) (v := .int .i64 (y3)) (fun _ => trivial) (by kernel_rfl) rfl rfl (by kernel_rfl) (by kernel_rfl) (by kernel_rfl) (fun _ _ _ h => by cases h.1) hC0 (Or.inl ⟨by kernel_rfl, fun w' hC => by obtain ⟨_, _, _, _, b4⟩ := LN.out w' hC; clear hC; go_simp⟩) ?_
            simp only [Act.put, List.setIfInBounds_toArray, List.set_cons_succ, List.set_cons_zero]
            refine wpAnyC_ready (rs := [5]) (by kernel_rfl) (by simp) ?_
            refine AllC.cons rfl (fun K hK => ?_) AllC.nil
            go_simp
            refine ⟨trivial, rfl, (callsIn_wide.2 (refSpot_exact _ _ _)).mono ?_⟩
            rintro x w5 ⟨rfl, hw5⟩
            dsimp only
            have hC5 : LeafC w X2 w5 := by rw [hw5]; exact hC0.alloc _
            clear hw5
            refine hK _ _ hC5 ?_
            clear hK K
            refine wpAnyC_ready (rs := [6]) (by kernel_rfl) (by simp) ?_
            refine AllC.cons rfl (fun K hK => ?_) AllC.nil
            obtain ⟨⟨c0, c1, c2, c3, cf⟩, _⟩ := hC5.cells
            go_simp
            refine hK _ _ (hC5).zero.1 ?_
            clear hK K c0 c1 c2 c3 cf
            refine wpAnyC_takeD (i := 7) (some 5) (v := .bool false) (fun _ => trivial) (by kernel_rfl) rfl rfl (by kernel_rfl) (by kernel_rfl) (by kernel_rfl) (fun _ _ _ h => by cases h.1) hC5.zero.1 (Or.inl ⟨by kernel_rfl, fun w' hC => by clear hC; go_simp⟩) ?_
            simp only [Act.put, List.setIfInBounds_toArray, List.set_cons_succ, List.set_cons_zero]
            refine wpAnyC_ready (rs := [8]) (by kernel_rfl) (by simp) ?_
            refine AllC.cons rfl (fun K hK => ?_) AllC.nil
            obtain ⟨_, y0, y1, s0, s1, sf⟩ := hC5.cells
            go_simp
            refine hK _ _ ((hC5.zero.1).put (.int .i64 (43)) (.int .i64 (y3))).1 ?_
            clear hK K s0 s1 sf
            have hF1 := hide (hC5.zero.1.put (.int .i64 (43)) (.int .i64 (y3))).1
            have hF2 := hide (hC5.zero.1.put (.int .i64 (43)) (.int .i64 (y3))).2
            clear hC0 hC5 LN
            refine wpAnyC_done (by kernel_rfl) ⟨rfl, ?_⟩ _
            rw [then_normal]
            generalize ((((((w5.setCell ⟨w.heap.size, 0, none⟩ (.int .u16 0)).setCell ⟨w.heap.size, 1, none⟩ (.int .u32 0)).setCell ⟨w.heap.size, 2, none⟩ (.int .u32 0)).setCell ⟨w.heap.size, 3, none⟩ (.slice none 0 0)).setCell ⟨w.heap.size + 1, 0, none⟩ (.int .i64 (43))).setCell ⟨w.heap.size + 1, 1, none⟩ (.int .i64 (y3))) = XX at *
            exact KEY.out _ XX rfl rfl rfl hF1.out hF2.out
      · have hsr : said = !re := by cases re <;> cases said <;> simp_all
        have HR : Hid (R = noLine 41 y3) := by have := HL2.out; rw [if_pos hrs] at this; exact this
        have tt3 := ss2
        subst hsr
        clear hrs HL2
        cases re
        · have hlw := HS2.out.lt
          have hsw := HS2.out.size
          have LN : Hid (∀ w', LeafC w X w' → w'.cell? ⟨w.heap.size + 2, 0, none⟩ = some (.int .u16 0) ∧ w'.cell? ⟨w.heap.size + 2, 1, none⟩ = some (.int .u32 0) ∧ w'.cell? ⟨w.heap.size + 2, 2, none⟩ = some (.int .u32 0) ∧ w'.cell? ⟨w.heap.size + 2, 3, none⟩ = some (.slice none 0 0) ∧ w'.cell? ⟨g1, o1 + 2, none⟩ = some (.int .i64 (y3))) := fun w' h => by
            obtain ⟨_, _, ⟨z0, z1, z2, z3⟩, _⟩ := HS2.out.cells
            exact ⟨h.aside.cell (by omega) (by omega) (by omega) z0, h.aside.cell (by omega) (by omega) (by omega) z1, h.aside.cell (by omega) (by omega) (by omega) z2, h.aside.cell (by omega) (by omega) (by omega) z3, h.aside.cell hg2 HNG.out.1 HNG.out.2 tt3⟩
          have hC0 := LeafC.start HS2.out
          clear hlw hsw
          go_wp2_with fail
          rename_i Kr hKr
          have HKR := hide hKr
          clear hKr
          have key : ∀ (u : Array Value) (Xr : World), u.getD 4 undef = .pointer (some ⟨w.heap.size, 0, none⟩) → u.getD 5 undef = .bool false → u.getD 6 undef = .pointer (some ⟨w.heap.size + 1, 0, none⟩) → LeafC w X Xr → Xr.heap[w.heap.size + 1]? = some (.cells #[.int .i64 (41), .int .i64 (y3)] 28 (0, 0)) → Kr { tmps := u, defers := [] } Xr := by
            intro u Xr h4 h5 h6 hX hx
            refine HKR.out _ _ ?_
            have HX := hide hX
            have Hx := hide hx
            clear hX hx hC0
            go_wp2_with fail
            exact HBAD.out _ Xr _ _ h4 h5 h6 rfl HX.out.res Hx.out HX.out.bel HR.out
          have KEY := hide key
          clear key HKR
          have hmix : Tryz.prog.follows .mixedOrders = true := by kernel_rfl
          refine (wpIn_wide (n := 0)).1 ?_
          refine wpIn_normal (wpIn_region_any hmix (wpAnyC_sound (C := LeafC w X) _ _ _ _ ?_))
          change wpAnyC _ _ _ _ _ _ _ _ _ _ (World.drew _)
          refine wpAnyC_takeD (i := 0) (some 106) (v := .agg #[.int .u16 0, .int .u32 0, .int .u32 0, .slice none 0 0]) (fun _ => trivial) (by kernel_rfl) rfl rfl (by kernel_rfl) (by kernel_rfl) (by kernel_rfl) (fun _ _ _ h => by cases h.1) hC0 (Or.inl ⟨by kernel_rfl, fun w' hC => by obtain ⟨b0, b1, b2, b3, _⟩ := LN.out w' hC; clear hC; go_simp⟩) ?_
          simp only [Act.put, List.setIfInBounds_toArray, List.set_cons_succ, List.set_cons_zero]
          refine wpAnyC_takeD (i := 1) (some 107) (v := .slice (some ⟨g1, o1, none⟩) l.length c) (fun _ => trivial) (by kernel_rfl) rfl rfl (by kernel_rfl) (by kernel_rfl) (by kernel_rfl) (fun _ _ _ h => by cases h.1) hC0 (Or.inl ⟨by kernel_rfl, fun w' hC => by clear hC; go_simp⟩) ?_
          simp only [Act.put, List.setIfInBounds_toArray, List.set_cons_succ, List.set_cons_zero]
          refine wpAnyC_takeD (i := 2) (some 108) (v := .pointer (some ⟨g1, o1, none⟩)) (fun _ => trivial) (by kernel_rfl) rfl rfl (by kernel_rfl) (by kernel_rfl) (by kernel_rfl) (fun _ _ _ h => by cases h.1) hC0 (Or.inl ⟨by kernel_rfl, fun w' hC => by clear hC; go_simp⟩) ?_
          simp only [Act.put, List.setIfInBounds_toArray, List.set_cons_succ, List.set_cons_zero]
          refine wpAnyC_takeD (i := 3) (some 109) (v := .pointer (some ⟨g1, o1 + 2, none⟩)) (fun _ => trivial) (by kernel_rfl) rfl rfl (by kernel_rfl) (by kernel_rfl) (by kernel_rfl) (fun _ _ _ h => by cases h.1) hC0 (Or.inl ⟨by kernel_rfl, fun w' hC => by clear hC; go_simp⟩) ?_
          simp only [Act.put, List.setIfInBounds_toArray, List.set_cons_succ, List.set_cons_zero]
          refine wpAnyC_takeD (i := 4) (some 110) (v := .int .i64 (y3)) (fun _ => trivial) (by kernel_rfl) rfl rfl (by kernel_rfl) (by kernel_rfl) (by kernel_rfl) (fun _ _ _ h => by cases h.1) hC0 (Or.inl ⟨by kernel_rfl, fun w' hC => by obtain ⟨_, _, _, _, b4⟩ := LN.out w' hC; clear hC; go_simp⟩) ?_
          simp only [Act.put, List.setIfInBounds_toArray, List.set_cons_succ, List.set_cons_zero]
          refine wpAnyC_ready (rs := [5]) (by kernel_rfl) (by simp) ?_
          refine AllC.cons rfl (fun K hK => ?_) AllC.nil
          go_simp
          refine ⟨trivial, rfl, (callsIn_wide.2 (refSpot_exact _ _ _)).mono ?_⟩
          rintro x w5 ⟨rfl, hw5⟩
          dsimp only
          have hC5 : LeafC w X w5 := by rw [hw5]; exact hC0.alloc _
          clear hw5
          refine hK _ _ hC5 ?_
          clear hK K
          refine wpAnyC_ready (rs := [6]) (by kernel_rfl) (by simp) ?_
          refine AllC.cons rfl (fun K hK => ?_) AllC.nil
          obtain ⟨⟨c0, c1, c2, c3, cf⟩, _⟩ := hC5.cells
          go_simp
          refine hK _ _ (hC5).zero.1 ?_
          clear hK K c0 c1 c2 c3 cf
          refine wpAnyC_takeD (i := 7) (some 5) (v := .bool false) (fun _ => trivial) (by kernel_rfl) rfl rfl (by kernel_rfl) (by kernel_rfl) (by kernel_rfl) (fun _ _ _ h => by cases h.1) hC5.zero.1 (Or.inl ⟨by kernel_rfl, fun w' hC => by clear hC; go_simp⟩) ?_
          simp only [Act.put, List.setIfInBounds_toArray, List.set_cons_succ, List.set_cons_zero]
          refine wpAnyC_ready (rs := [8]) (by kernel_rfl) (by simp) ?_
          refine AllC.cons rfl (fun K hK => ?_) AllC.nil
          obtain ⟨_, y0, y1, s0, s1, sf⟩ := hC5.cells
          go_simp
          refine hK _ _ ((hC5.zero.1).put (.int .i64 (41)) (.int .i64 (y3))).1 ?_
          clear hK K s0 s1 sf
          have hF1 := hide (hC5.zero.1.put (.int .i64 (41)) (.int .i64 (y3))).1
          have hF2 := hide (hC5.zero.1.put (.int .i64 (41)) (.int .i64 (y3))).2
          clear hC0 hC5 LN
          refine wpAnyC_done (by kernel_rfl) ⟨rfl, ?_⟩ _
          rw [then_normal]
          generalize ((((((w5.setCell ⟨w.heap.size, 0, none⟩ (.int .u16 0)).setCell ⟨w.heap.size, 1, none⟩ (.int .u32 0)).setCell ⟨w.heap.size, 2, none⟩ (.int .u32 0)).setCell ⟨w.heap.size, 3, none⟩ (.slice none 0 0)).setCell ⟨w.heap.size + 1, 0, none⟩ (.int .i64 (41))).setCell ⟨w.heap.size + 1, 1, none⟩ (.int .i64 (y3))) = XX at *
          exact KEY.out _ XX rfl rfl rfl hF1.out hF2.out
        · have hlw := HS2.out.lt
          have hsw := HS2.out.size
          have LN : Hid (∀ w', LeafC w X w' → w'.cell? ⟨w.heap.size + 2, 0, none⟩ = some (.int .u16 0) ∧ w'.cell? ⟨w.heap.size + 2, 1, none⟩ = some (.int .u32 0) ∧ w'.cell? ⟨w.heap.size + 2, 2, none⟩ = some (.int .u32 0) ∧ w'.cell? ⟨w.heap.size + 2, 3, none⟩ = some (.slice none 0 0) ∧ w'.cell? ⟨g1, o1 + 2, none⟩ = some (.int .i64 (y3))) := fun w' h => by
            obtain ⟨_, _, ⟨z0, z1, z2, z3⟩, _⟩ := HS2.out.cells
            exact ⟨h.aside.cell (by omega) (by omega) (by omega) z0, h.aside.cell (by omega) (by omega) (by omega) z1, h.aside.cell (by omega) (by omega) (by omega) z2, h.aside.cell (by omega) (by omega) (by omega) z3, h.aside.cell hg2 HNG.out.1 HNG.out.2 tt3⟩
          have hC0 := LeafC.start HS2.out
          clear hlw hsw
          go_wp2_with fail
          rename_i Kr hKr
          have HKR := hide hKr
          clear hKr
          have key : ∀ (u : Array Value) (Xr : World), u.getD 4 undef = .pointer (some ⟨w.heap.size, 0, none⟩) → u.getD 5 undef = .bool false → u.getD 6 undef = .pointer (some ⟨w.heap.size + 1, 0, none⟩) → LeafC w X Xr → Xr.heap[w.heap.size + 1]? = some (.cells #[.int .i64 (41), .int .i64 (y3)] 28 (0, 0)) → Kr { tmps := u, defers := [] } Xr := by
            intro u Xr h4 h5 h6 hX hx
            refine HKR.out _ _ ?_
            have HX := hide hX
            have Hx := hide hx
            clear hX hx hC0
            go_wp2_with fail
            exact HBAD.out _ Xr _ _ h4 h5 h6 rfl HX.out.res Hx.out HX.out.bel HR.out
          have KEY := hide key
          clear key HKR
          have hmix : Tryz.prog.follows .mixedOrders = true := by kernel_rfl
          refine (wpIn_wide (n := 0)).1 ?_
          refine wpIn_normal (wpIn_region_any hmix (wpAnyC_sound (C := LeafC w X) _ _ _ _ ?_))
          change wpAnyC _ _ _ _ _ _ _ _ _ _ (World.drew _)
          refine wpAnyC_takeD (i := 0) (some 106) (v := .agg #[.int .u16 0, .int .u32 0, .int .u32 0, .slice none 0 0]) (fun _ => trivial) (by kernel_rfl) rfl rfl (by kernel_rfl) (by kernel_rfl) (by kernel_rfl) (fun _ _ _ h => by cases h.1) hC0 (Or.inl ⟨by kernel_rfl, fun w' hC => by obtain ⟨b0, b1, b2, b3, _⟩ := LN.out w' hC; clear hC; go_simp⟩) ?_
          simp only [Act.put, List.setIfInBounds_toArray, List.set_cons_succ, List.set_cons_zero]
          refine wpAnyC_takeD (i := 1) (some 107) (v := .slice (some ⟨g1, o1, none⟩) l.length c) (fun _ => trivial) (by kernel_rfl) rfl rfl (by kernel_rfl) (by kernel_rfl) (by kernel_rfl) (fun _ _ _ h => by cases h.1) hC0 (Or.inl ⟨by kernel_rfl, fun w' hC => by clear hC; go_simp⟩) ?_
          simp only [Act.put, List.setIfInBounds_toArray, List.set_cons_succ, List.set_cons_zero]
          refine wpAnyC_takeD (i := 2) (some 108) (v := .pointer (some ⟨g1, o1, none⟩)) (fun _ => trivial) (by kernel_rfl) rfl rfl (by kernel_rfl) (by kernel_rfl) (by kernel_rfl) (fun _ _ _ h => by cases h.1) hC0 (Or.inl ⟨by kernel_rfl, fun w' hC => by clear hC; go_simp⟩) ?_
          simp only [Act.put, List.setIfInBounds_toArray, List.set_cons_succ, List.set_cons_zero]
          refine wpAnyC_takeD (i := 3) (some 109) (v := .pointer (some ⟨g1, o1 + 2, none⟩)) (fun _ => trivial) (by kernel_rfl) rfl rfl (by kernel_rfl) (by kernel_rfl) (by kernel_rfl) (fun _ _ _ h => by cases h.1) hC0 (Or.inl ⟨by kernel_rfl, fun w' hC => by clear hC; go_simp⟩) ?_
          simp only [Act.put, List.setIfInBounds_toArray, List.set_cons_succ, List.set_cons_zero]
          refine wpAnyC_takeD (i := 4) (some 110) (v := .int .i64 (y3)) (fun _ => trivial) (by kernel_rfl) rfl rfl (by kernel_rfl) (by kernel_rfl) (by kernel_rfl) (fun _ _ _ h => by cases h.1) hC0 (Or.inl ⟨by kernel_rfl, fun w' hC => by obtain ⟨_, _, _, _, b4⟩ := LN.out w' hC; clear hC; go_simp⟩) ?_
          simp only [Act.put, List.setIfInBounds_toArray, List.set_cons_succ, List.set_cons_zero]
          refine wpAnyC_ready (rs := [5]) (by kernel_rfl) (by simp) ?_
          refine AllC.cons rfl (fun K hK => ?_) AllC.nil
          go_simp
          refine ⟨trivial, rfl, (callsIn_wide.2 (refSpot_exact _ _ _)).mono ?_⟩
          rintro x w5 ⟨rfl, hw5⟩
          dsimp only
          have hC5 : LeafC w X w5 := by rw [hw5]; exact hC0.alloc _
          clear hw5
          refine hK _ _ hC5 ?_
          clear hK K
          refine wpAnyC_ready (rs := [6]) (by kernel_rfl) (by simp) ?_
          refine AllC.cons rfl (fun K hK => ?_) AllC.nil
          obtain ⟨⟨c0, c1, c2, c3, cf⟩, _⟩ := hC5.cells
          go_simp
          refine hK _ _ (hC5).zero.1 ?_
          clear hK K c0 c1 c2 c3 cf
          refine wpAnyC_takeD (i := 7) (some 5) (v := .bool false) (fun _ => trivial) (by kernel_rfl) rfl rfl (by kernel_rfl) (by kernel_rfl) (by kernel_rfl) (fun _ _ _ h => by cases h.1) hC5.zero.1 (Or.inl ⟨by kernel_rfl, fun w' hC => by clear hC; go_simp⟩) ?_
          simp only [Act.put, List.setIfInBounds_toArray, List.set_cons_succ, List.set_cons_zero]
          refine wpAnyC_ready (rs := [8]) (by kernel_rfl) (by simp) ?_
          refine AllC.cons rfl (fun K hK => ?_) AllC.nil
          obtain ⟨_, y0, y1, s0, s1, sf⟩ := hC5.cells
          go_simp
          refine hK _ _ ((hC5.zero.1).put (.int .i64 (41)) (.int .i64 (y3))).1 ?_
          clear hK K s0 s1 sf
          have hF1 := hide (hC5.zero.1.put (.int .i64 (41)) (.int .i64 (y3))).1
          have hF2 := hide (hC5.zero.1.put (.int .i64 (41)) (.int .i64 (y3))).2
          clear hC0 hC5 LN
          refine wpAnyC_done (by kernel_rfl) ⟨rfl, ?_⟩ _
          rw [then_normal]
          generalize ((((((w5.setCell ⟨w.heap.size, 0, none⟩ (.int .u16 0)).setCell ⟨w.heap.size, 1, none⟩ (.int .u32 0)).setCell ⟨w.heap.size, 2, none⟩ (.int .u32 0)).setCell ⟨w.heap.size, 3, none⟩ (.slice none 0 0)).setCell ⟨w.heap.size + 1, 0, none⟩ (.int .i64 (41))).setCell ⟨w.heap.size + 1, 1, none⟩ (.int .i64 (y3))) = XX at *
          exact KEY.out _ XX rfl rfl rfl hF1.out hF2.out
  · have hz1' : (z1 != 1) = true := by simpa using hz1
    have HR : Hid (R = noLine 70 z3) := by rw [if_pos (by simpa using hz1)] at hL'; exact hL'
    clear hL' hz1 s1 s2 s3
    have tt3 := t3
    have hg2 := hg1
    have hlw := HS.out.lt
    have hsw := HS.out.size
    have LN : Hid (∀ w', LeafC w w1 w' → w'.cell? ⟨w.heap.size + 2, 0, none⟩ = some (.int .u16 0) ∧ w'.cell? ⟨w.heap.size + 2, 1, none⟩ = some (.int .u32 0) ∧ w'.cell? ⟨w.heap.size + 2, 2, none⟩ = some (.int .u32 0) ∧ w'.cell? ⟨w.heap.size + 2, 3, none⟩ = some (.slice none 0 0) ∧ w'.cell? ⟨g1, o1 + at_ * 3 + 2, none⟩ = some (.int .i64 (z3))) := fun w' h => by
      obtain ⟨_, _, ⟨z0, z1, z2, z3⟩, _⟩ := HS.out.cells
      exact ⟨h.aside.cell (by omega) (by omega) (by omega) z0, h.aside.cell (by omega) (by omega) (by omega) z1, h.aside.cell (by omega) (by omega) (by omega) z2, h.aside.cell (by omega) (by omega) (by omega) z3, h.aside.cell hg2 HNG.out.1 HNG.out.2 tt3⟩
    have hC0 := LeafC.start HS.out
    clear hlw hsw
    go_wp2_with fail
    rename_i Kr hKr
    have HKR := hide hKr
    clear hKr
    have key : ∀ (u : Array Value) (Xr : World), u.getD 4 undef = .pointer (some ⟨w.heap.size, 0, none⟩) → u.getD 5 undef = .bool false → u.getD 6 undef = .pointer (some ⟨w.heap.size + 1, 0, none⟩) → LeafC w w1 Xr → Xr.heap[w.heap.size + 1]? = some (.cells #[.int .i64 (70), .int .i64 (z3)] 28 (0, 0)) → Kr { tmps := u, defers := [] } Xr := by
      intro u Xr h4 h5 h6 hX hx
      refine HKR.out _ _ ?_
      have HX := hide hX
      have Hx := hide hx
      clear hX hx hC0
      go_wp2_with fail
      exact HBAD.out _ Xr _ _ h4 h5 h6 rfl HX.out.res Hx.out HX.out.bel HR.out
    have KEY := hide key
    clear key HKR
    have hmix : Tryz.prog.follows .mixedOrders = true := by kernel_rfl
    refine (wpIn_wide (n := 0)).1 ?_
    refine wpIn_normal (wpIn_region_any hmix (wpAnyC_sound (C := LeafC w w1) _ _ _ _ ?_))
    change wpAnyC _ _ _ _ _ _ _ _ _ _ (World.drew _)
    refine wpAnyC_takeD (i := 0) (some 77) (v := .agg #[.int .u16 0, .int .u32 0, .int .u32 0, .slice none 0 0]) (fun _ => trivial) (by kernel_rfl) rfl rfl (by kernel_rfl) (by kernel_rfl) (by kernel_rfl) (fun _ _ _ h => by cases h.1) hC0 (Or.inl ⟨by kernel_rfl, fun w' hC => by obtain ⟨b0, b1, b2, b3, _⟩ := LN.out w' hC; clear hC; go_simp⟩) ?_
    simp only [Act.put, List.setIfInBounds_toArray, List.set_cons_succ, List.set_cons_zero]
    refine wpAnyC_takeD (i := 1) (some 78) (v := .slice (some ⟨g1, o1, none⟩) l.length c) (fun _ => trivial) (by kernel_rfl) rfl rfl (by kernel_rfl) (by kernel_rfl) (by kernel_rfl) (fun _ _ _ h => by cases h.1) hC0 (Or.inl ⟨by kernel_rfl, fun w' hC => by clear hC; go_simp⟩) ?_
    simp only [Act.put, List.setIfInBounds_toArray, List.set_cons_succ, List.set_cons_zero]
    refine wpAnyC_takeD (i := 2) (some 79) (v := .int .i64 ((at_ : Int))) (fun _ => trivial) (by kernel_rfl) rfl rfl (by kernel_rfl) (by kernel_rfl) (by kernel_rfl) (fun _ _ _ h => by cases h.1) hC0 (Or.inl ⟨by kernel_rfl, fun w' hC => by clear hC; go_simp⟩) ?_
    simp only [Act.put, List.setIfInBounds_toArray, List.set_cons_succ, List.set_cons_zero]
    refine wpAnyC_takeD (i := 3) (some 80) (v := .pointer (some ⟨g1, o1 + at_ * 3, none⟩)) (fun _ => trivial) (by kernel_rfl) rfl rfl (by kernel_rfl) (by kernel_rfl) (by kernel_rfl) (fun _ _ _ h => by cases h.1) hC0 (Or.inl ⟨by kernel_rfl, fun w' hC => by clear hC; go_simp⟩) ?_
    simp only [Act.put, List.setIfInBounds_toArray, List.set_cons_succ, List.set_cons_zero]
    refine wpAnyC_takeD (i := 4) (some 81) (v := .pointer (some ⟨g1, o1 + at_ * 3 + 2, none⟩)) (fun _ => trivial) (by kernel_rfl) rfl rfl (by kernel_rfl) (by kernel_rfl) (by kernel_rfl) (fun _ _ _ h => by cases h.1) hC0 (Or.inl ⟨by kernel_rfl, fun w' hC => by clear hC; go_simp⟩) ?_
    simp only [Act.put, List.setIfInBounds_toArray, List.set_cons_succ, List.set_cons_zero]
    refine wpAnyC_takeD (i := 5) (some 82) (v := .int .i64 (z3)) (fun _ => trivial) (by kernel_rfl) rfl rfl (by kernel_rfl) (by kernel_rfl) (by kernel_rfl) (fun _ _ _ h => by cases h.1) hC0 (Or.inl ⟨by kernel_rfl, fun w' hC => by obtain ⟨_, _, _, _, b4⟩ := LN.out w' hC; clear hC; go_simp⟩) ?_
    simp only [Act.put, List.setIfInBounds_toArray, List.set_cons_succ, List.set_cons_zero]
    refine wpAnyC_ready (rs := [6]) (by kernel_rfl) (by simp) ?_
    refine AllC.cons rfl (fun K hK => ?_) AllC.nil
    go_simp
    refine ⟨trivial, rfl, (callsIn_wide.2 (refSpot_exact _ _ _)).mono ?_⟩
    rintro x w5 ⟨rfl, hw5⟩
    dsimp only
    have hC5 : LeafC w w1 w5 := by rw [hw5]; exact hC0.alloc _
    clear hw5
    refine hK _ _ hC5 ?_
    clear hK K
    refine wpAnyC_ready (rs := [7]) (by kernel_rfl) (by simp) ?_
    refine AllC.cons rfl (fun K hK => ?_) AllC.nil
    obtain ⟨⟨c0, c1, c2, c3, cf⟩, _⟩ := hC5.cells
    go_simp
    refine hK _ _ (hC5).zero.1 ?_
    clear hK K c0 c1 c2 c3 cf
    refine wpAnyC_takeD (i := 8) (some 5) (v := .bool false) (fun _ => trivial) (by kernel_rfl) rfl rfl (by kernel_rfl) (by kernel_rfl) (by kernel_rfl) (fun _ _ _ h => by cases h.1) hC5.zero.1 (Or.inl ⟨by kernel_rfl, fun w' hC => by clear hC; go_simp⟩) ?_
    simp only [Act.put, List.setIfInBounds_toArray, List.set_cons_succ, List.set_cons_zero]
    refine wpAnyC_ready (rs := [9]) (by kernel_rfl) (by simp) ?_
    refine AllC.cons rfl (fun K hK => ?_) AllC.nil
    obtain ⟨_, y0, y1, s0, s1, sf⟩ := hC5.cells
    go_simp
    refine hK _ _ ((hC5.zero.1).put (.int .i64 (70)) (.int .i64 (z3))).1 ?_
    clear hK K s0 s1 sf
    have hF1 := hide (hC5.zero.1.put (.int .i64 (70)) (.int .i64 (z3))).1
    have hF2 := hide (hC5.zero.1.put (.int .i64 (70)) (.int .i64 (z3))).2
    clear hC0 hC5 LN
    refine wpAnyC_done (by kernel_rfl) ⟨rfl, ?_⟩ _
    rw [then_normal]
    generalize ((((((w5.setCell ⟨w.heap.size, 0, none⟩ (.int .u16 0)).setCell ⟨w.heap.size, 1, none⟩ (.int .u32 0)).setCell ⟨w.heap.size, 2, none⟩ (.int .u32 0)).setCell ⟨w.heap.size, 3, none⟩ (.slice none 0 0)).setCell ⟨w.heap.size + 1, 0, none⟩ (.int .i64 (70))).setCell ⟨w.heap.size + 1, 1, none⟩ (.int .i64 (z3))) = XX at *
    exact KEY.out _ XX rfl rfl rfl hF1.out hF2.out

end Go.Proofs.YtmobologlaeefaaGreat

/-
  What Line of the document's answer for layer 7 returns: its type.
-/
namespace Go.Proofs.YtmobologlaeefaaGreat
open Go.RowKit
set_option linter.unusedVariables false
set_option linter.unusedSimpArgs false
set_option maxRecDepth 20000

set_option maxHeartbeats 8000000 in
theorem line_type (s : ByteArray) (b : Int) (w : World) (l : List TokT) (R : LineR) (Q : Exit → Act → World → Prop) (hn : l.length ≤ 16777216) (hin : ToksIn l) (hw : wOk l = true) (hb0 : 0 ≤ b) (hb1 : b < 4294967296) (hbad : LnBad w R Q)
    (hP : ∀ a1 w1, LnJ3 s b w l R a1 w1 → (dropR 38 (Tryz.f26.body.getD .skip)).wp Tryz.prog Q a1 w1)
    (a1 : Act) (w1 : World) (hJ : LnJ2 s b w l R a1 w1) : (dropR 29 (Tryz.f26.body.getD .skip)).wp Tryz.prog Q a1 w1 := by
  refine wp_cut 38 _ _ _ ?_ hP
  clear hP
  obtain ⟨a, c, BE, FB, XB, at_, o, r, ⟨f, rfl, hsz, f0, f1, f4, f6, f7, f8, f10, f12, f13, f15⟩, hS, hX, hat, hH, hL⟩ := hJ
  conv => arg 5; whnf
  rw [frame231 f hsz, f0, f1, f4, f6, f7, f8, f10, f12, f13, f15]
  clear f0 f1 f4 f6 f7 f8 f10 f12 f13 f15 hsz
  have HS := hide hS
  have HX := hide hX
  have HH := hide hH
  have HL := hide hL
  have HBAD := hide hbad
  have HIN := hide hin
  have HW := hide hw
  have hatn : (at_ : Int) ≤ 16777216 := by omega
  have hll : (l.length : Int) ≤ 16777216 := by omega
  have d2 : w1.cell? ⟨FB, 2, none⟩ = some (.bool (opF o).2.1) := (blk_cells hX.form).1 2
  have HAT := hide hat
  clear hS hX hH hL hbad hin hw hat
  refine cut_step rfl ?_
  intro K1 hK1
  have HK1 := hide hK1
  clear hK1
  go_wp2_with fail
  obtain ⟨q, hq⟩ : ∃ q, q = at_ + 1 := ⟨_, rfl⟩
  rw [show (at_ : Int) + 1 = (q : Int) by omega]
  have hqn : (q : Int) ≤ 16777216 := by have := HAT.out; omega
  rw [← hq] at HL
  have HQ : Hid (q ≤ l.length) := by show _ ≤ _; have := HAT.out; omega
  clear hq
  refine HK1.out _ _ ?_
  clear HK1
  refine cut_step rfl ?_
  intro K2 hK2
  have HK2 := hide hK2
  clear hK2
  generalize hty : (opF o).2.1 = ty at d2
  cases ty
  · have HJ := hide (show HeadOk o 0 r b from ⟨HH.out, by rw [hty]; simp [idE], by omega, by omega⟩)
    have HR1 := hide (HL.out.trans (show lineT o (opF o) r l q (s.size : Int) b = _ by unfold lineT; rw [if_pos hty]))
    clear hty
    go_wp2_with fail
    refine HK2.out _ _ ?_
    refine cut_done rfl ?_
    exact ⟨a, c, BE, FB, XB, q, o, 0, r, ⟨_, rfl, rfl, rfl, rfl, rfl, rfl, rfl, rfl, rfl, rfl, rfl, rfl⟩, HS.out, HX.out, HQ.out, HJ.out, HR1.out⟩
  · have hLT := HL.out
    unfold lineT at hLT
    rw [if_neg (by rw [hty]; simp)] at hLT
    by_cases hqe : q = l.length
    · have HR : Hid (R = noLine 72 (s.size : Int)) := by rw [if_pos (by omega)] at hLT; exact hLT
      have hqe' : ((q : Int) == (l.length : Int)) = true := by simp [hqe]
      clear hLT hty hqe
      have hlw := HS.out.lt
      have hsw := HS.out.size
      obtain ⟨⟨u0, u1, u2, u3, fu⟩, ⟨p0, p1, fp⟩, ⟨z0, z1, z2, z3⟩, ⟨q0, q1⟩⟩ := HS.out.cells
      have hput := HS.out.put (.int .u16 0) (.int .u32 0) (.int .u32 0) (.slice none 0 0) (.int .i64 (72)) (.int .i64 ((s.size : Int))) (.cells #[.int .i64 (72), .int .i64 ((s.size : Int))] 28)
      have HPUT := hide hput
      have n1 : BE ≠ w.heap.size := by omega
      have n2 : BE ≠ w.heap.size + 1 := by omega
      have l0 : w.heap.size < w1.heap.size := by omega
      have l1 : w.heap.size + 1 < w1.heap.size := by omega
      have l2 : w.heap.size + 2 < w1.heap.size := by omega
      clear hput hlw 
      go_wp2_with fail
      refine wp_norm ?_
      go_region
      all_goals
        rw [onNormal_normal]
        generalize ((((((w1.setCell ⟨w.heap.size, 0, none⟩ (.int .u16 0)).setCell ⟨w.heap.size, 1, none⟩ (.int .u32 0)).setCell ⟨w.heap.size, 2, none⟩ (.int .u32 0)).setCell ⟨w.heap.size, 3, none⟩ (.slice none 0 0)).setCell ⟨w.heap.size + 1, 0, none⟩ (.int .i64 (72))).setCell ⟨w.heap.size + 1, 1, none⟩ (.int .i64 ((s.size : Int)))) = X at *
        go_wp2_with fail
        first
          | exact HBAD.out _ _ _ _ rfl rfl rfl rfl HPUT.out.1.1 HPUT.out.1.2.1 HPUT.out.1.2.2 HR.out
          | exact HBAD.out _ _ _ _ rfl rfl rfl rfl HPUT.out.2.1 HPUT.out.2.2.1 HPUT.out.2.2.2 HR.out
          | exact HBAD.out _ _ _ _ rfl rfl rfl rfl HPUT.out.2.1 HPUT.out.2.2.1 HPUT.out.2.2.2.drew HR.out
          | exact HBAD.out _ _ _ _ rfl rfl rfl rfl HPUT.out.1.1 HPUT.out.1.2.1 HPUT.out.1.2.2.drew HR.out
    · have hlt : q < l.length := by have := HQ.out; omega
      have hqe' : ((q : Int) == (l.length : Int)) = false := by simp; omega
      rw [if_neg (by omega)] at hLT
      obtain ⟨g1, o1, rfl, hg1, t1, t2, t3⟩ := HS.out.toks q hlt
      have hok := toks_ok HW.out hlt
      have hArg := fun wx => refArgument7_any 105 (nthT l q) b wx (.inr (by rw [kind_i]; decide)) hok (HIN.out q hlt).2.2.1 hb0 hb1
      have hid := fun h => arg_id (t := nthT l q) (b := b) h
      have hqi : (q : Int) < (l.length : Int) := by omega
      have hq0 : (0 : Int) ≤ (q : Int) := by omega
      generalize argE 105 (nthT l q) b = E at *
      generalize argA 105 (nthT l q) b = A at *
      generalize nthT l q = z at *
      obtain ⟨z1, z2, z3⟩ := z
      obtain ⟨A1, A2, A3⟩ := A
      unfold tokV argV at hArg
      simp only at t1 t2 t3 hArg hLT hid
      have HID := hide hid
      have HLT := hide hLT
      have HTY := hide hty
      have HQL := hide hlt
      clear hqe hok hid hLT hty hlt
      go_wp2_with fail
      refine (hArg _).mono ?_
      rintro x w2 ⟨rfl, hb2⟩
      have hba : Below w2.heap.size w2 (w2.alloc (.cells #[.int .u8 A1, .int .u32 A2, .string A3] 81)) := (Below.refl _ _).alloc (Nat.le_refl _) _
      have hb2a := hb2.trans (hba.mono hb2.size)
      have HS2 := hide (HS.out.below hb2a)
      have HX2 := hide (HX.out.below hb2a)
      have HKX := hide (heap_alloc_new w2 (.cells #[.int .u8 A1, .int .u32 A2, .string A3] 81))
      have HSW := hide (HS.out.below hb2)
      have HXW := hide (HX.out.below hb2)
      have HMB : Hid (XB < w2.heap.size) := Nat.lt_of_lt_of_le HX.out.size hb2.size
      have tt3 := (hb2a.cell (p := ⟨g1, o1 + q * 3 + 2, none⟩) hg1).trans t3
      have hg2 : g1 < (w2.alloc (.cells #[.int .u8 A1, .int .u32 A2, .string A3] 81)).heap.size := Nat.lt_of_lt_of_le hg1 hb2a.size
      have HT3 := hide (And.intro tt3 hg2)
      have HNG : Hid (g1 ≠ w.heap.size ∧ g1 ≠ w.heap.size + 1) := by have := HS.out.off g1 o1 rfl; exact ⟨by omega, by omega⟩
      clear hArg hb2 hba hb2a HS HX d2 t1 t2 t3 hg1 tt3 hg2
      by_cases hE : E = 0
      · subst hE
        have HGD : Hid (HeadOk o A2 r b ∧ R = lineA o (opF o) A2 r l (q + 1) (s.size : Int) b) := by
          obtain ⟨q1, q2, q3, _⟩ := HID.out rfl
          have := HLT.out
          rw [if_neg (by simp)] at this
          exact ⟨⟨HH.out, by rw [HTY.out]; exact q1, q2, q3⟩, this⟩
        clear HLT HID
        obtain ⟨ci, fi⟩ := blk_cells HXW.out.inst
        have x1 := ci 1
        have x1f := fi 1
        have HX3 := hide ((HXW.out.setType A2).below ((Below.refl _ _).alloc (Nat.le_refl _) (.cells #[.int .u8 A1, .int .u32 A2, .string A3] 81)))
        have HS3 := hide ((HSW.out.far (g := XB) (by have := HX2.out.lt1; have := HX2.out.lt2; omega) (fun b off e => by have := HX2.out.far b off e; have := HX2.out.lt2; omega) 1 (.int .u32 A2)).below ((Below.refl _ _).alloc (Nat.le_refl _) (.cells #[.int .u8 A1, .int .u32 A2, .string A3] 81)))
        have n1 : w2.heap.size ≠ XB := by have := HMB.out; omega
        have n2 : XB < w2.heap.size := HMB.out
        obtain ⟨q2, hq2⟩ : ∃ q2, q2 = q + 1 := ⟨_, rfl⟩
        have HQ2 := hide hq2
        have HGD2 := hide (And.intro HGD.out.1 HGD.out.2)
        rw [← hq2] at HGD2
        have HE2 : Hid ((q : Int) + 1 = (q2 : Int)) := by show _ = _; omega
        clear ci fi hq2 HGD
        go_wp2_with fail
        generalize (w2.setCell ⟨XB, 1, none⟩ (.int .u32 A2)).alloc (.cells #[.int .u8 A1, .int .u32 A2, .string A3] 81) = Y at *
        rw [HE2.out]
        refine HK2.out _ _ ?_
        refine cut_done rfl ?_
        exact ⟨_, c, BE, FB, XB, q2, o, A2, r, ⟨_, rfl, rfl, rfl, rfl, rfl, rfl, rfl, rfl, rfl, rfl, rfl, rfl⟩, HS3.out, HX3.out, by have := HQ2.out; have := HQL.out; omega, HGD2.out.1, HGD2.out.2⟩
      · have hE' : (E != 0) = true := by simpa using hE
        have HR : Hid (R = noLine E z3) := by have := HLT.out; rw [if_pos hE] at this; exact this
        clear hE HLT HID HX2 HKX
        go_wp2_with fail
        generalize w2.alloc (.cells #[.int .u8 A1, .int .u32 A2, .string A3] 81) = X at *
        obtain ⟨tt3, hg2⟩ := HT3.out
        clear HT3 HSW HXW
        have hlw := HS2.out.lt
        have hsw := HS2.out.size
        have LN : Hid (∀ w', LeafC w X w' → w'.cell? ⟨w.heap.size + 2, 0, none⟩ = some (.int .u16 0) ∧ w'.cell? ⟨w.heap.size + 2, 1, none⟩ = some (.int .u32 0) ∧ w'.cell? ⟨w.heap.size + 2, 2, none⟩ = some (.int .u32 0) ∧ w'.cell? ⟨w.heap.size + 2, 3, none⟩ = some (.slice none 0 0) ∧ w'.cell? ⟨g1, o1 + q * 3 + 2, none⟩ = some (.int .i64 (z3))) := fun w' h => by
          obtain ⟨_, _, ⟨z0, z1, z2, z3⟩, _⟩ := HS2.out.cells
          exact ⟨h.aside.cell (by omega) (by omega) (by omega) z0, h.aside.cell (by omega) (by omega) (by omega) z1, h.aside.cell (by omega) (by omega) (by omega) z2, h.aside.cell (by omega) (by omega) (by omega) z3, h.aside.cell hg2 HNG.out.1 HNG.out.2 tt3⟩
        have hC0 := LeafC.start HS2.out
        clear hlw hsw
        go_wp2_with fail
        rename_i Kr hKr
        have HKR := hide hKr
        clear hKr
        have key : ∀ (u : Array Value) (Xr : World), u.getD 4 undef = .pointer (some ⟨w.heap.size, 0, none⟩) → u.getD 5 undef = .bool false → u.getD 6 undef = .pointer (some ⟨w.heap.size + 1, 0, none⟩) → LeafC w X Xr → Xr.heap[w.heap.size + 1]? = some (.cells #[.int .i64 (E), .int .i64 (z3)] 28 (0, 0)) → Kr { tmps := u, defers := [] } Xr := by
          intro u Xr h4 h5 h6 hX hx
          refine HKR.out _ _ ?_
          have HX := hide hX
          have Hx := hide hx
          clear hX hx hC0
          go_wp2_with fail
          exact HBAD.out _ Xr _ _ h4 h5 h6 rfl HX.out.res Hx.out HX.out.bel HR.out
        have KEY := hide key
        clear key HKR
        have hmix : Tryz.prog.follows .mixedOrders = true := by kernel_rfl
        refine (wpIn_wide (n := 0)).1 ?_
        refine wpIn_normal (wpIn_region_any hmix (wpAnyC_sound (C := LeafC w X) _ _ _ _ ?_))
        change wpAnyC _ _ _ _ _ _ _ _ _ _ (World.drew _)
        refine wpAnyC_takeD (i := 0) (some 156) (v := .agg #[.int .u16 0, .int .u32 0, .int .u32 0, .slice none 0 0]) (fun _ => trivial) (by kernel_rfl) rfl rfl (by kernel_rfl) (by kernel_rfl) (by kernel_rfl) (fun _ _ _ h => by cases h.1) hC0 (Or.inl ⟨by kernel_rfl, fun w' hC => by obtain ⟨b0, b1, b2, b3, _⟩ := LN.out w' hC; clear hC; go_simp⟩) ?_
        simp only [Act.put, List.setIfInBounds_toArray, List.set_cons_succ, List.set_cons_zero]
        refine wpAnyC_takeD (i := 1) (some 157) (v := .int .i64 (E)) (fun _ => trivial) (by kernel_rfl) rfl rfl (by kernel_rfl) (by kernel_rfl) (by kernel_rfl) (fun _ _ _ h => by cases h.1) hC0 (Or.inl ⟨by kernel_rfl, fun w' hC => by clear hC; go_simp⟩) ?_
        simp only [Act.put, List.setIfInBounds_toArray, List.set_cons_succ, List.set_cons_zero]
        refine wpAnyC_takeD (i := 2) (some 158) (v := .slice (some ⟨g1, o1, none⟩) l.length c) (fun _ => trivial) (by kernel_rfl) rfl rfl (by kernel_rfl) (by kernel_rfl) (by kernel_rfl) (fun _ _ _ h => by cases h.1) hC0 (Or.inl ⟨by kernel_rfl, fun w' hC => by clear hC; go_simp⟩) ?_
        simp only [Act.put, List.setIfInBounds_toArray, List.set_cons_succ, List.set_cons_zero]
        refine wpAnyC_takeD (i := 3) (some 159) (v := .int .i64 ((q : Int))) (fun _ => trivial) (by kernel_rfl) rfl rfl (by kernel_rfl) (by kernel_rfl) (by kernel_rfl) (fun _ _ _ h => by cases h.1) hC0 (Or.inl ⟨by kernel_rfl, fun w' hC => by clear hC; go_simp⟩) ?_
        simp only [Act.put, List.setIfInBounds_toArray, List.set_cons_succ, List.set_cons_zero]
        refine wpAnyC_takeD (i := 4) (some 160) (v := .pointer (some ⟨g1, o1 + q * 3, none⟩)) (fun _ => trivial) (by kernel_rfl) rfl rfl (by kernel_rfl) (by kernel_rfl) (by kernel_rfl) (fun _ _ _ h => by cases h.1) hC0 (Or.inl ⟨by kernel_rfl, fun w' hC => by clear hC; go_simp⟩) ?_
        simp only [Act.put, List.setIfInBounds_toArray, List.set_cons_succ, List.set_cons_zero]
        refine wpAnyC_takeD (i := 5) (some 161) (v := .pointer (some ⟨g1, o1 + q * 3 + 2, none⟩)) (fun _ => trivial) (by kernel_rfl) rfl rfl (by kernel_rfl) (by kernel_rfl) (by kernel_rfl) (fun _ _ _ h => by cases h.1) hC0 (Or.inl ⟨by kernel_rfl, fun w' hC => by clear hC; go_simp⟩) ?_
        simp only [Act.put, List.setIfInBounds_toArray, List.set_cons_succ, List.set_cons_zero]
        refine wpAnyC_takeD (i := 6) (some 162) (v := .int .i64 (z3)) (fun _ => trivial) (by kernel_rfl) rfl rfl (by kernel_rfl) (by kernel_rfl) (by kernel_rfl) (fun _ _ _ h => by cases h.1) hC0 (Or.inl ⟨by kernel_rfl, fun w' hC => by obtain ⟨_, _, _, _, b4⟩ := LN.out w' hC; clear hC; go_simp⟩) ?_
        simp only [Act.put, List.setIfInBounds_toArray, List.set_cons_succ, List.set_cons_zero]
        refine wpAnyC_ready (rs := [7]) (by kernel_rfl) (by simp) ?_
        refine AllC.cons rfl (fun K hK => ?_) AllC.nil
        go_simp
        refine ⟨trivial, rfl, (callsIn_wide.2 (refSpot_exact _ _ _)).mono ?_⟩
        rintro x w5 ⟨rfl, hw5⟩
        dsimp only
        have hC5 : LeafC w X w5 := by rw [hw5]; exact hC0.alloc _
        clear hw5
        refine hK _ _ hC5 ?_
        clear hK K
        refine wpAnyC_ready (rs := [8]) (by kernel_rfl) (by simp) ?_
        refine AllC.cons rfl (fun K hK => ?_) AllC.nil
        obtain ⟨⟨c0, c1, c2, c3, cf⟩, _⟩ := hC5.cells
        go_simp
        refine hK _ _ (hC5).zero.1 ?_
        clear hK K c0 c1 c2 c3 cf
        refine wpAnyC_takeD (i := 9) (some 5) (v := .bool false) (fun _ => trivial) (by kernel_rfl) rfl rfl (by kernel_rfl) (by kernel_rfl) (by kernel_rfl) (fun _ _ _ h => by cases h.1) hC5.zero.1 (Or.inl ⟨by kernel_rfl, fun w' hC => by clear hC; go_simp⟩) ?_
        simp only [Act.put, List.setIfInBounds_toArray, List.set_cons_succ, List.set_cons_zero]
        refine wpAnyC_ready (rs := [10]) (by kernel_rfl) (by simp) ?_
        refine AllC.cons rfl (fun K hK => ?_) AllC.nil
        obtain ⟨_, y0, y1, s0, s1, sf⟩ := hC5.cells
        go_simp
        refine hK _ _ ((hC5.zero.1).put (.int .i64 (E)) (.int .i64 (z3))).1 ?_
        clear hK K s0 s1 sf
        have hF1 := hide (hC5.zero.1.put (.int .i64 (E)) (.int .i64 (z3))).1
        have hF2 := hide (hC5.zero.1.put (.int .i64 (E)) (.int .i64 (z3))).2
        clear hC0 hC5 LN
        refine wpAnyC_done (by kernel_rfl) ⟨rfl, ?_⟩ _
        rw [then_normal]
        generalize ((((((w5.setCell ⟨w.heap.size, 0, none⟩ (.int .u16 0)).setCell ⟨w.heap.size, 1, none⟩ (.int .u32 0)).setCell ⟨w.heap.size, 2, none⟩ (.int .u32 0)).setCell ⟨w.heap.size, 3, none⟩ (.slice none 0 0)).setCell ⟨w.heap.size + 1, 0, none⟩ (.int .i64 (E))).setCell ⟨w.heap.size + 1, 1, none⟩ (.int .i64 (z3))) = XX at *
        exact KEY.out _ XX rfl rfl rfl hF1.out hF2.out

end Go.Proofs.YtmobologlaeefaaGreat
