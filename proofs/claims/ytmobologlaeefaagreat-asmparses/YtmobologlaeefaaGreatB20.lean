/-
  Texts laid together in one: Ref07LineF, Law06Texts, Ref06Lines, Ref07Parse0.
-/
import Derived.WalkSpells
import Derived.WalkMore
import Derived.BigRegion
import Derived.Deep.RegionWith
import Derived.Deep.RegionHeld2
import Derived.RangeFuncNested
import Derived.OwnWalkIn
import Derived.TacticsInMore
import Derived.Test.YtmobologlaeefaaGreatProg
import Derived.Test.YtmobologlaeefaaGreatB17
import Derived.Test.YtmobologlaeefaaGreatB18
import Derived.Test.YtmobologlaeefaaGreatB19
import Derived.Test.YtmobologlaeefaaGreatB12
import Derived.Deep.QuietTactic
import Derived.BigQuiet
import Derived.Test.YtmobologlaeefaaGreatB01
import Derived.Test.YtmobologlaeefaaGreatB13
import Derived.Deep.AppendLies
import Derived.Test.YtmobologlaeefaaGreatB14
import Derived.Test.YtmobologlaeefaaGreatB16
/-
  What Line of the document's answer for layer 7 returns.
-/
namespace Go.Proofs.YtmobologlaeefaaGreat
open Go.RowKit
set_option linter.unusedVariables false
set_option linter.unusedSimpArgs false
set_option maxRecDepth 20000

set_option maxHeartbeats 16000000 in
theorem line_start (s : ByteArray) (b : Int) (w : World) (R : LineR) (Q : Exit → Act → World → Prop) (hs : s.size ≤ 16777216) (hR : R = lineS s b) (hbad : LnBad w R Q) (hbad2 : LnBad w R Q)
    (hP : ∀ a1 w1, (toksP (strI s) 0).2.1 = 0 → LnJ1 s b w (toksP (strI s) 0).1 R a1 w1 → (dropR 16 (Tryz.f26.body.getD .skip)).wp Tryz.prog Q a1 w1)
    (t : Array Value) (hsz : t.size = 231) (h0 : slot t 0 = .string s) (h1 : slot t 1 = .int .u32 b) : (Tryz.f26.body.getD .skip).wp Tryz.prog Q { tmps := t, defers := [] } w := by
  have hT := fun wx => refTokens_any s wx hs
  obtain ⟨_, _, g3, g4, _⟩ := toks_good (strI_within s) 0
  rw [strI_len] at g3
  unfold lineS at hR
  generalize hTT : toksP (strI s) 0 = TT at *
  obtain ⟨l, er, at_⟩ := TT
  simp only at hT hR g3 hP
  refine wp_cut 16 (J := fun x y => er = 0 ∧ LnJ1 s b w l R x y) _ _ _ ?_ (fun a1 w1 h => hP a1 w1 h.1 h.2)
  clear hP g4 hTT
  conv => arg 5; whnf
  rw [frame231 t hsz, h0, h1]
  clear h0 h1 hsz
  have HBAD := hide hbad
  have hll : (l.length : Int) ≤ 16777216 := by omega
  have HHR := hide hR
  have HG3 := hide g3
  clear hbad hbad2 hR g3
  have hB0 : Below w.heap.size w (((w.alloc (.cells #[.int .u16 0, .int .u32 0, .int .u32 0, .slice none 0 0] 41)).alloc (.cells #[.int .i64 0, .int .i64 0] 28)).alloc (.cells #[.int .u16 0, .int .u32 0, .int .u32 0, .slice none 0 0] 41)) := (((Below.refl _ w).alloc (Nat.le_refl _) _).alloc (by simp) _).alloc (by simp; omega) _
  have k0 : (((w.alloc (.cells #[.int .u16 0, .int .u32 0, .int .u32 0, .slice none 0 0] 41)).alloc (.cells #[.int .i64 0, .int .i64 0] 28)).alloc (.cells #[.int .u16 0, .int .u32 0, .int .u32 0, .slice none 0 0] 41)).heap[w.heap.size]? = some (.cells #[.int .u16 0, .int .u32 0, .int .u32 0, .slice none 0 0] 41 (0, 0)) := by
    rw [Below.heap_alloc _ _ _ (by simp; omega), Below.heap_alloc _ _ _ (by simp)]; exact heap_alloc_new w _
  have k1 : (((w.alloc (.cells #[.int .u16 0, .int .u32 0, .int .u32 0, .slice none 0 0] 41)).alloc (.cells #[.int .i64 0, .int .i64 0] 28)).alloc (.cells #[.int .u16 0, .int .u32 0, .int .u32 0, .slice none 0 0] 41)).heap[w.heap.size + 1]? = some (.cells #[.int .i64 0, .int .i64 0] 28 (0, 0)) := by
    rw [Below.heap_alloc _ _ _ (by simp)]; simpa using heap_alloc_new (w.alloc (.cells #[.int .u16 0, .int .u32 0, .int .u32 0, .slice none 0 0] 41)) (.cells #[.int .i64 0, .int .i64 0] 28)
  have k2 : (((w.alloc (.cells #[.int .u16 0, .int .u32 0, .int .u32 0, .slice none 0 0] 41)).alloc (.cells #[.int .i64 0, .int .i64 0] 28)).alloc (.cells #[.int .u16 0, .int .u32 0, .int .u32 0, .slice none 0 0] 41)).heap[w.heap.size + 2]? = some (.cells #[.int .u16 0, .int .u32 0, .int .u32 0, .slice none 0 0] 41 (0, 0)) := by
    simpa using heap_alloc_new ((w.alloc (.cells #[.int .u16 0, .int .u32 0, .int .u32 0, .slice none 0 0] 41)).alloc (.cells #[.int .i64 0, .int .i64 0] 28)) (.cells #[.int .u16 0, .int .u32 0, .int .u32 0, .slice none 0 0] 41)
  have HK := hide (And.intro hB0 (And.intro k0 (And.intro k1 k2)))
  clear hB0 k0 k1 k2
  refine cut_step rfl ?_
  intro K1 hK1
  have HK1 := hide hK1
  clear hK1
  go_wp2_with fail
  refine HK1.out _ _ ?_
  clear HK1
  refine cut_step rfl ?_
  intro K2 hK2
  have HK2 := hide hK2
  clear hK2
  go_wp2_with fail
  refine HK2.out _ _ ?_
  clear HK2
  refine cut_step rfl ?_
  intro K3 hK3
  have HK3 := hide hK3
  clear hK3
  go_wp2_with fail
  generalize ((w.alloc (.cells #[.int .u16 0, .int .u32 0, .int .u32 0, .slice none 0 0] 41)).alloc (.cells #[.int .i64 0, .int .i64 0] 28)).alloc (.cells #[.int .u16 0, .int .u32 0, .int .u32 0, .slice none 0 0] 41) = W at *
  refine (hT _).mono ?_
  rintro e w1 ⟨v1, rfl, hrow, hb1⟩
  obtain ⟨a1, c1, rfl⟩ := own_shape7 hrow
  obtain ⟨hv, hfar⟩ := toks_of_own hrow rfl
  have hba : Below w1.heap.size w1 (w1.alloc (.cells #[.int .i64 er, .int .i64 at_] 28)) := (Below.refl _ _).alloc (Nat.le_refl _) _
  have hb1a := hb1.trans (hba.mono hb1.size)
  obtain ⟨hB0, k0, k1, k2⟩ := HK.out
  have sz := (Array.getElem?_eq_some_iff.1 k2).1
  have hB1 := hB0.trans (hb1a.mono hB0.size)
  have q0 := (hb1a.block _ (by omega)).trans k0
  have q1 := (hb1a.block _ (by omega)).trans k1
  have q2 := (hb1a.block _ sz).trans k2
  have q3 := heap_alloc_new w1 (.cells #[.int .i64 er, .int .i64 at_] 28)
  have s1 : w.heap.size + 2 < w1.heap.size := Nat.lt_of_lt_of_le sz hb1.size
  have HQ := hide (And.intro hB1 (And.intro q0 (And.intro q1 (And.intro q2 q3))))
  have HV := hide (hv.below hba)
  have HFAR : Hid (∀ b off, a1 = some ⟨b, off, none⟩ → w.heap.size + 2 < b ∧ b < w1.heap.size) := fun b off e => by have := hfar b off e; have := sz; omega
  have HSZ : Hid (w1.heap.size < (w1.alloc (.cells #[.int .i64 er, .int .i64 at_] 28)).heap.size) := by show _ < _; simp
  clear hT hrow hv hfar hba hb1a hB0 k0 k1 k2 sz hB1 q0 q1 q2 q3 HK hb1
  go_wp2_with fail
  refine HK3.out _ _ ?_
  clear HK3
  refine cut_step rfl ?_
  intro K4 hK4
  have HK4 := hide hK4
  clear hK4
  generalize w1.alloc (.cells #[.int .i64 er, .int .i64 at_] 28) = W2 at *
  generalize w1.heap.size = BS at *
  have e0 : W2.cell? ⟨BS, 0, none⟩ = some (.int .i64 er) := (blk_cells HQ.out.2.2.2.2).1 0
  have e1 : W2.cell? ⟨BS, 1, none⟩ = some (.int .i64 at_) := (blk_cells HQ.out.2.2.2.2).1 1
  by_cases hE : er = 0 ∧ l ≠ []
  · obtain ⟨rfl, hne⟩ := hE
    have hl0 : 0 < l.length := List.length_pos_iff.2 hne
    have HR1 : Hid (R = lineP l (s.size : Int) b) := by have := HHR.out; rw [if_neg (by simpa using hne)] at this; exact this
    have hne' : ((l.length : Int) == 0) = false := by simp; omega
    clear HHR hne
    go_wp2_with fail
    refine HK4.out _ _ ?_
    clear HK4
    refine cut_step rfl ?_
    intro K5 hK5
    have HK5 := hide hK5
    clear hK5
    go_wp2_with fail
    refine (refSpot_exact _ _ _).mono ?_
    rintro x w5 ⟨rfl, hw5⟩
    have hb5 : Below W2.heap.size W2 w5 := by rw [hw5]; exact (Below.refl _ _).alloc (Nat.le_refl _) _
    clear hw5
    have hba : Below w5.heap.size w5 (w5.alloc (.cells #[.int .i64 72, .int .i64 (s.size : Int)] 28)) := (Below.refl _ _).alloc (Nat.le_refl _) _
    have hbb := hb5.trans (hba.mono hb5.size)
    have HSW : Hid (LnS w w5.heap.size (s.size : Int) a1 l (w5.alloc (.cells #[.int .i64 72, .int .i64 (s.size : Int)] 28))) := by
      obtain ⟨h1, h2, h3, h4, h5⟩ := HQ.out
      have s2 := HSZ.out
      have s5 := hb5.size
      exact ⟨(hbb.block _ (by omega)).trans h2, (hbb.block _ (by omega)).trans h3, (hbb.block _ (by omega)).trans h4, heap_alloc_new w5 _, h1.trans (hbb.mono h1.size), HV.out.below hbb, by omega, fun b off e => (HFAR.out b off e).1⟩
    clear hb5 hba hbb HQ HV HFAR HSZ e0 e1
    go_wp2_with fail
    refine HK5.out _ _ ?_
    clear HK5
    refine cut_step rfl ?_
    intro K6 hK6
    have HK6 := hide hK6
    clear hK6
    generalize w5.alloc (.cells #[.int .i64 72, .int .i64 (s.size : Int)] 28) = X at *
    generalize w5.heap.size = BE at *
    obtain ⟨g1, o1, rfl, hg1, t1, t2, t3⟩ := HSW.out.toks 0 hl0
    simp only [Nat.zero_mul, Nat.add_zero] at t1 t2 t3
    have hln : (0 : Int) < (l.length : Int) := by omega
    generalize hy0 : nthT l 0 = y at *
    obtain ⟨y1, y2, y3⟩ := y
    simp only at t1 t2 t3
    have HY0 := hide hy0
    clear hy0
    go_wp2_with fail
    refine HK6.out _ _ ?_
    clear HK6
    refine cut_step rfl ?_
    intro K7 hK7
    have HK7 := hide hK7
    clear hK7
    go_wp2_with fail
    refine HK7.out _ _ ?_
    clear HK7
    refine cut_step rfl ?_
    intro K8 hK8
    have HK8 := hide hK8
    clear hK8
    have HL0 := hide hl0
    by_cases hsd : y1 = 2
    · subst hsd
      have HNG : Hid (g1 ≠ w.heap.size ∧ g1 ≠ w.heap.size + 1) := by have := HSW.out.off g1 o1 rfl; exact ⟨by omega, by omega⟩
      have hLP := HR1.out
      unfold lineP at hLP
      rw [HY0.out, if_neg (by simp)] at hLP
      by_cases hl1 : l.length = 1
      · have HR : Hid (R = noLine 72 (s.size : Int)) := by rw [if_pos (by omega)] at hLP; exact hLP
        have hl1' : ((l.length : Int) == 1) = true := by simp; omega
        clear hLP hl1 HR1
        have hlw := HSW.out.lt
        have hsw := HSW.out.size
        obtain ⟨⟨u0, u1, u2, u3, fu⟩, ⟨p0, p1, fp⟩, ⟨z0, z1, z2, z3⟩, ⟨q0, q1⟩⟩ := HSW.out.cells
        have hput := HSW.out.put (.int .u16 0) (.int .u32 0) (.int .u32 0) (.slice none 0 0) (.int .i64 (72)) (.int .i64 ((s.size : Int))) (.cells #[.int .i64 (72), .int .i64 ((s.size : Int))] 28)
        have HPUT := hide hput
        have n1 : BE ≠ w.heap.size := by omega
        have n2 : BE ≠ w.heap.size + 1 := by omega
        have l0 : w.heap.size < X.heap.size := by omega
        have l1 : w.heap.size + 1 < X.heap.size := by omega
        have l2 : w.heap.size + 2 < X.heap.size := by omega
        clear hput hlw 
        go_wp2_with fail
        refine wp_norm ?_
        go_region
        all_goals
          rw [onNormal_normal]
          generalize ((((((X.setCell ⟨w.heap.size, 0, none⟩ (.int .u16 0)).setCell ⟨w.heap.size, 1, none⟩ (.int .u32 0)).setCell ⟨w.heap.size, 2, none⟩ (.int .u32 0)).setCell ⟨w.heap.size, 3, none⟩ (.slice none 0 0)).setCell ⟨w.heap.size + 1, 0, none⟩ (.int .i64 (72))).setCell ⟨w.heap.size + 1, 1, none⟩ (.int .i64 ((s.size : Int)))) = X at *
          go_wp2_with fail
          first
            | exact HBAD.out _ _ _ _ rfl rfl rfl rfl HPUT.out.1.1 HPUT.out.1.2.1 HPUT.out.1.2.2 HR.out
            | exact HBAD.out _ _ _ _ rfl rfl rfl rfl HPUT.out.2.1 HPUT.out.2.2.1 HPUT.out.2.2.2 HR.out
            | exact HBAD.out _ _ _ _ rfl rfl rfl rfl HPUT.out.2.1 HPUT.out.2.2.1 HPUT.out.2.2.2.drew HR.out
            | exact HBAD.out _ _ _ _ rfl rfl rfl rfl HPUT.out.1.1 HPUT.out.1.2.1 HPUT.out.1.2.2.drew HR.out
      · have hl1' : ((l.length : Int) == 1) = false := by simp; omega
        rw [if_neg (by omega)] at hLP
        obtain ⟨g2, o2, e2, hg2', s1', s2', s3'⟩ := HSW.out.toks 1 (by omega)
        simp only [Option.some.injEq, Addr.mk.injEq, and_true] at e2
        obtain ⟨rfl, rfl⟩ := e2
        simp only [Nat.one_mul] at s1' s2' s3'
        have hln1 : (1 : Int) < (l.length : Int) := by omega
        generalize nthT l 1 = z at *
        obtain ⟨z1, z2, z3⟩ := z
        simp only at s1' s2' s3' hLP
        have tt3 := s3'
        have hg2 := hg1
        by_cases hz : z1 = 5
        · subst hz
          rw [if_neg (by simp)] at hLP
          by_cases hl2 : l.length = 2
          · have HR : Hid (R = noLine 72 (s.size : Int)) := by unfold lineO at hLP; rw [if_pos (by omega)] at hLP; exact hLP
            have hl2' : ((l.length : Int) == 2) = true := by simp; omega
            clear hLP hl2 HR1 s2' s3' tt3 hl1
            have hlw := HSW.out.lt
            have hsw := HSW.out.size
            obtain ⟨⟨u0, u1, u2, u3, fu⟩, ⟨p0, p1, fp⟩, ⟨z0, z1, z2, z3⟩, ⟨q0, q1⟩⟩ := HSW.out.cells
            have hput := HSW.out.put (.int .u16 0) (.int .u32 0) (.int .u32 0) (.slice none 0 0) (.int .i64 (72)) (.int .i64 ((s.size : Int))) (.cells #[.int .i64 (72), .int .i64 ((s.size : Int))] 28)
            have HPUT := hide hput
            have n1 : BE ≠ w.heap.size := by omega
            have n2 : BE ≠ w.heap.size + 1 := by omega
            have l0 : w.heap.size < X.heap.size := by omega
            have l1 : w.heap.size + 1 < X.heap.size := by omega
            have l2 : w.heap.size + 2 < X.heap.size := by omega
            clear hput hlw 
            go_wp2_with fail
            refine wp_norm ?_
            go_region
            all_goals
              rw [onNormal_normal]
              generalize ((((((X.setCell ⟨w.heap.size, 0, none⟩ (.int .u16 0)).setCell ⟨w.heap.size, 1, none⟩ (.int .u32 0)).setCell ⟨w.heap.size, 2, none⟩ (.int .u32 0)).setCell ⟨w.heap.size, 3, none⟩ (.slice none 0 0)).setCell ⟨w.heap.size + 1, 0, none⟩ (.int .i64 (72))).setCell ⟨w.heap.size + 1, 1, none⟩ (.int .i64 ((s.size : Int)))) = X at *
              go_wp2_with fail
              first
                | exact HBAD.out _ _ _ _ rfl rfl rfl rfl HPUT.out.1.1 HPUT.out.1.2.1 HPUT.out.1.2.2 HR.out
                | exact HBAD.out _ _ _ _ rfl rfl rfl rfl HPUT.out.2.1 HPUT.out.2.2.1 HPUT.out.2.2.2 HR.out
                | exact HBAD.out _ _ _ _ rfl rfl rfl rfl HPUT.out.2.1 HPUT.out.2.2.1 HPUT.out.2.2.2.drew HR.out
                | exact HBAD.out _ _ _ _ rfl rfl rfl rfl HPUT.out.1.1 HPUT.out.1.2.1 HPUT.out.1.2.2.drew HR.out
          · have hl2' : ((l.length : Int) == 2) = false := by simp; omega
            have HJR := hide hLP
            clear hLP
            go_wp2_with fail
            refine HK8.out _ _ ?_
            refine cut_done rfl ?_
            exact ⟨trivial, _, c1, BE, 2, true, ⟨_, rfl, rfl, rfl, rfl, rfl, rfl, rfl, rfl, rfl, rfl, rfl⟩, HSW.out, by omega, by rw [HY0.out]; rfl, HJR.out⟩
        · have hz' : (z1 != 5) = true := by simpa using hz
          have HR : Hid (R = noLine 70 z3) := by rw [if_pos (by simpa using hz)] at hLP; exact hLP
          clear hLP hz HR1 hl1
          have hlw := HSW.out.lt
          have hsw := HSW.out.size
          have LN : Hid (∀ w', LeafC w X w' → w'.cell? ⟨w.heap.size + 2, 0, none⟩ = some (.int .u16 0) ∧ w'.cell? ⟨w.heap.size + 2, 1, none⟩ = some (.int .u32 0) ∧ w'.cell? ⟨w.heap.size + 2, 2, none⟩ = some (.int .u32 0) ∧ w'.cell? ⟨w.heap.size + 2, 3, none⟩ = some (.slice none 0 0) ∧ w'.cell? ⟨g1, o1 + 3 + 2, none⟩ = some (.int .i64 (z3))) := fun w' h => by
            obtain ⟨_, _, ⟨z0, z1, z2, z3⟩, _⟩ := HSW.out.cells
            exact ⟨h.aside.cell (by omega) (by omega) (by omega) z0, h.aside.cell (by omega) (by omega) (by omega) z1, h.aside.cell (by omega) (by omega) (by omega) z2, h.aside.cell (by omega) (by omega) (by omega) z3, h.aside.cell hg2 HNG.out.1 HNG.out.2 tt3⟩
          have hC0 := LeafC.start HSW.out
          clear hlw hsw
          go_wp2_with fail
          rename_i Kr hKr
          have HKR := hide hKr
          clear hKr
          have key : ∀ (u : Array Value) (Xr : World), u.getD 4 undef = .pointer (some ⟨w.heap.size, 0, none⟩) → u.getD 5 undef = .bool false → u.getD 6 undef = .pointer (some ⟨w.heap.size + 1, 0, none⟩) → LeafC w X Xr → Xr.heap[w.heap.size + 1]? = some (.cells #[.int .i64 (70), .int .i64 (z3)] 28 (0, 0)) → Kr { tmps := u, defers := [] } Xr := by
            intro u Xr h4 h5 h6 hX hx
            refine HKR.out _ _ ?_
            have HX := hide hX
            have Hx := hide hx
            clear hX hx hC0
            go_wp2_with fail
            exact HBAD.out _ Xr _ _ h4 h5 h6 rfl HX.out.res Hx.out HX.out.bel HR.out
          have KEY := hide key
          clear key HKR
          have hmix : Tryz.prog.follows .mixedOrders = true := by kernel_rfl
          refine (wpIn_wide (n := 0)).1 ?_
          refine wpIn_normal (wpIn_region_any hmix (wpAnyC_sound (C := LeafC w X) _ _ _ _ ?_))
          change wpAnyC _ _ _ _ _ _ _ _ _ _ (World.drew _)
          refine wpAnyC_takeD (i := 0) (some 60) (v := .agg #[.int .u16 0, .int .u32 0, .int .u32 0, .slice none 0 0]) (fun _ => trivial) (by kernel_rfl) rfl rfl (by kernel_rfl) (by kernel_rfl) (by kernel_rfl) (fun _ _ _ h => by cases h.1) hC0 (Or.inl ⟨by kernel_rfl, fun w' hC => by obtain ⟨b0, b1, b2, b3, _⟩ := LN.out w' hC; clear hC; go_simp⟩) ?_
          simp only [Act.put, List.setIfInBounds_toArray, List.set_cons_succ, List.set_cons_zero]
          refine wpAnyC_takeD (i := 1) (some 61) (v := .slice (some ⟨g1, o1, none⟩) l.length c1) (fun _ => trivial) (by kernel_rfl) rfl rfl (by kernel_rfl) (by kernel_rfl) (by kernel_rfl) (fun _ _ _ h => by cases h.1) hC0 (Or.inl ⟨by kernel_rfl, fun w' hC => by clear hC; go_simp⟩) ?_
          simp only [Act.put, List.setIfInBounds_toArray, List.set_cons_succ, List.set_cons_zero]
          refine wpAnyC_takeD (i := 2) (some 62) (v := .pointer (some ⟨g1, o1 + 3, none⟩)) (fun _ => trivial) (by kernel_rfl) rfl rfl (by kernel_rfl) (by kernel_rfl) (by kernel_rfl) (fun _ _ _ h => by cases h.1) hC0 (Or.inl ⟨by kernel_rfl, fun w' hC => by clear hC; go_simp⟩) ?_
          simp only [Act.put, List.setIfInBounds_toArray, List.set_cons_succ, List.set_cons_zero]
          refine wpAnyC_takeD (i := 3) (some 63) (v := .pointer (some ⟨g1, o1 + 3 + 2, none⟩)) (fun _ => trivial) (by kernel_rfl) rfl rfl (by kernel_rfl) (by kernel_rfl) (by kernel_rfl) (fun _ _ _ h => by cases h.1) hC0 (Or.inl ⟨by kernel_rfl, fun w' hC => by clear hC; go_simp⟩) ?_
          simp only [Act.put, List.setIfInBounds_toArray, List.set_cons_succ, List.set_cons_zero]
          refine wpAnyC_takeD (i := 4) (some 64) (v := .int .i64 (z3)) (fun _ => trivial) (by kernel_rfl) rfl rfl (by kernel_rfl) (by kernel_rfl) (by kernel_rfl) (fun _ _ _ h => by cases h.1) hC0 (Or.inl ⟨by kernel_rfl, fun w' hC => by obtain ⟨_, _, _, _, b4⟩ := LN.out w' hC; clear hC; go_simp⟩) ?_
          simp only [Act.put, List.setIfInBounds_toArray, List.set_cons_succ, List.set_cons_zero]
          refine wpAnyC_ready (rs := [5]) (by kernel_rfl) (by simp) ?_
          refine AllC.cons rfl (fun K hK => ?_) AllC.nil
          go_simp
          refine ⟨trivial, rfl, (callsIn_wide.2 (refSpot_exact _ _ _)).mono ?_⟩
          rintro x w5 ⟨rfl, hw5⟩
          dsimp only
          have hC5 : LeafC w X w5 := by rw [hw5]; exact hC0.alloc _
          clear hw5
          refine hK _ _ hC5 ?_
          clear hK K
          refine wpAnyC_ready (rs := [6]) (by kernel_rfl) (by simp) ?_
          refine AllC.cons rfl (fun K hK => ?_) AllC.nil
          obtain ⟨⟨c0, c1, c2, c3, cf⟩, _⟩ := hC5.cells
          go_simp
          refine hK _ _ (hC5).zero.1 ?_
          clear hK K c0 c1 c2 c3 cf
          refine wpAnyC_takeD (i := 7) (some 5) (v := .bool false) (fun _ => trivial) (by kernel_rfl) rfl rfl (by kernel_rfl) (by kernel_rfl) (by kernel_rfl) (fun _ _ _ h => by cases h.1) hC5.zero.1 (Or.inl ⟨by kernel_rfl, fun w' hC => by clear hC; go_simp⟩) ?_
          simp only [Act.put, List.setIfInBounds_toArray, List.set_cons_succ, List.set_cons_zero]
          refine wpAnyC_ready (rs := [8]) (by kernel_rfl) (by simp) ?_
          refine AllC.cons rfl (fun K hK => ?_) AllC.nil
          obtain ⟨_, y0, y1, s0, s1, sf⟩ := hC5.cells
          go_simp
          refine hK _ _ ((hC5.zero.1).put (.int .i64 (70)) (.int .i64 (z3))).1 ?_
          clear hK K s0 s1 sf
          have hF1 := hide (hC5.zero.1.put (.int .i64 (70)) (.int .i64 (z3))).1
          have hF2 := hide (hC5.zero.1.put (.int .i64 (70)) (.int .i64 (z3))).2
          clear hC0 hC5 LN
          refine wpAnyC_done (by kernel_rfl) ⟨rfl, ?_⟩ _
          rw [then_normal]
          generalize ((((((w5.setCell ⟨w.heap.size, 0, none⟩ (.int .u16 0)).setCell ⟨w.heap.size, 1, none⟩ (.int .u32 0)).setCell ⟨w.heap.size, 2, none⟩ (.int .u32 0)).setCell ⟨w.heap.size, 3, none⟩ (.slice none 0 0)).setCell ⟨w.heap.size + 1, 0, none⟩ (.int .i64 (70))).setCell ⟨w.heap.size + 1, 1, none⟩ (.int .i64 (z3))) = XX at *
          exact KEY.out _ XX rfl rfl rfl hF1.out hF2.out
    · have hsd' : (y1 == 2) = false := by simpa using hsd
      have HJR : Hid (R = lineO false l 0 (s.size : Int) b) := by have := HR1.out; unfold lineP at this; rw [HY0.out, if_pos (by simpa using hsd)] at this; exact this
      go_wp2_with fail
      rw [hsd']
      refine HK8.out _ _ ?_
      refine cut_done rfl ?_
      exact ⟨trivial, _, c1, BE, 0, false, ⟨_, rfl, rfl, rfl, rfl, rfl, rfl, rfl, rfl, rfl, rfl, rfl⟩, HSW.out, HL0.out, by rw [HY0.out]; exact hsd'.symm, HJR.out⟩
  · have HR : Hid (R = noLine er at_) := by
      have := HHR.out
      rw [if_pos] at this
      · exact this
      · by_cases h : er = 0
        · right; exact Classical.byContradiction fun h2 => hE ⟨h, h2⟩
        · exact .inl h
    by_cases her : er = 0
    · have hl0 : l = [] := Classical.byContradiction fun h2 => hE ⟨her, h2⟩
      subst her
      subst hl0
      clear hE
      simp only [List.length_nil] at *
      obtain ⟨j1, j2, j3, j4, j5⟩ := HQ.out
      obtain ⟨cu, fu⟩ := blk_cells j2
      obtain ⟨cp, fp⟩ := blk_cells j3
      obtain ⟨cz, _⟩ := blk_cells j4
      have u0 := cu 0
      have u1 := cu 1
      have u2 := cu 2
      have u3 := cu 3
      have p0 := cp 0
      have p1 := cp 1
      have z0 := cz 0
      have z1 := cz 1
      have z2 := cz 2
      have z3 := cz 3
      obtain ⟨r1, r2, r3⟩ := six_drew j2 j3 (.int .u16 0) (.int .u32 0) (.int .u32 0) (.slice none 0 0) (.int .i64 0) (.int .i64 at_)
      have HY := hide (And.intro r1 (And.intro r2 (j1.trans r3)))
      have n1 : BS ≠ w.heap.size := by omega
      have n2 : BS ≠ w.heap.size + 1 := by omega
      clear j1 j2 j3 j4 j5 cu cp cz r1 r2 r3 HQ HHR
      go_wp2_with fail
      refine wp_norm ?_
      go_region
      all_goals
        rw [onNormal_normal]
        generalize ((((((W2.setCell ⟨w.heap.size, 0, none⟩ (.int .u16 0)).setCell ⟨w.heap.size, 1, none⟩ (.int .u32 0)).setCell ⟨w.heap.size, 2, none⟩ (.int .u32 0)).setCell ⟨w.heap.size, 3, none⟩ (.slice none 0 0)).setCell ⟨w.heap.size + 1, 0, none⟩ (.int .i64 0)).setCell ⟨w.heap.size + 1, 1, none⟩ (.int .i64 at_)).drew = X at *
        go_wp2_with fail
        exact HBAD.out _ X 0 at_ rfl rfl rfl rfl HY.out.1 HY.out.2.1 HY.out.2.2 HR.out
    · have her' : (er != 0) = true := by simpa using her
      clear hE her
      obtain ⟨j1, j2, j3, j4, j5⟩ := HQ.out
      obtain ⟨cu, fu⟩ := blk_cells j2
      obtain ⟨cp, fp⟩ := blk_cells j3
      obtain ⟨cz, _⟩ := blk_cells j4
      have u0 := cu 0
      have u1 := cu 1
      have u2 := cu 2
      have u3 := cu 3
      have p0 := cp 0
      have p1 := cp 1
      have z0 := cz 0
      have z1 := cz 1
      have z2 := cz 2
      have z3 := cz 3
      obtain ⟨r1, r2, r3⟩ := six_drew j2 j3 (.int .u16 0) (.int .u32 0) (.int .u32 0) (.slice none 0 0) (.int .i64 er) (.int .i64 at_)
      have HY := hide (And.intro r1 (And.intro r2 (j1.trans r3)))
      have n1 : BS ≠ w.heap.size := by omega
      have n2 : BS ≠ w.heap.size + 1 := by omega
      clear j1 j2 j3 j4 j5 cu cp cz r1 r2 r3 HQ HHR
      go_wp2_with fail
      refine wp_norm ?_
      go_region
      all_goals
        rw [onNormal_normal]
        generalize ((((((W2.setCell ⟨w.heap.size, 0, none⟩ (.int .u16 0)).setCell ⟨w.heap.size, 1, none⟩ (.int .u32 0)).setCell ⟨w.heap.size, 2, none⟩ (.int .u32 0)).setCell ⟨w.heap.size, 3, none⟩ (.slice none 0 0)).setCell ⟨w.heap.size + 1, 0, none⟩ (.int .i64 er)).setCell ⟨w.heap.size + 1, 1, none⟩ (.int .i64 at_)).drew = X at *
        go_wp2_with fail
        exact HBAD.out _ X er at_ rfl rfl rfl rfl HY.out.1 HY.out.2.1 HY.out.2.2 HR.out

/-- What Line of the document's answer returns. -/
theorem refLine7_any (s : ByteArray) (b : Int) (w : World) (hs : s.size ≤ 16777216) (hb0 : 0 ≤ b) (hb1 : b < 4294967296) :
    Calls Tryz.prog 26 #[.string s, .int .u32 b] w fun e w' => ∃ ax m cx, e = .returned (.tuple #[instV (lineS s b).1 ax m cx, .bool (lineS s b).2.1, .agg #[.int .i64 (lineS s b).2.2.1, .int .i64 (lineS s b).2.2.2]]) ∧ w'.ownsRow w.heap.size 81 3 (.slice ax m cx) m ((lineS s b).1.2.2.2.flatMap argC) ∧ (lineS s b).1.2.2.2.length = m ∧ Below w.heap.size w w' := by
  obtain ⟨g1, _, g3, g4, _⟩ := toks_good (strI_within s) 0
  have hIn := toksIn_of (l := (toksP (strI s) 0).1) (n := (strI s).length) (by rw [strI_len]; omega) g4
  rw [strI_len] at g3
  have hn : (toksP (strI s) 0).1.length ≤ 16777216 := by omega
  obtain ⟨R, hR⟩ : ∃ R, R = lineS s b := ⟨_, rfl⟩
  rw [← hR]
  have hbad : LnBad w R (bodyPost Tryz.prog Tryz.f26 fun e w' => ∃ ax m cx, e = .returned (.tuple #[instV R.1 ax m cx, .bool R.2.1, .agg #[.int .i64 R.2.2.1, .int .i64 R.2.2.2]]) ∧ w'.ownsRow w.heap.size 81 3 (.slice ax m cx) m (R.1.2.2.2.flatMap argC) ∧ R.1.2.2.2.length = m ∧ Below w.heap.size w w') := by
    intro a' w' E P q4 q5 q6 q7 k1 k2 k3 k4
    obtain ⟨c, _⟩ := blk_cells k1
    obtain ⟨d, _⟩ := blk_cells k2
    have c0 := c 0
    have c1 := c 1
    have c2 := c 2
    have c3 := c 3
    have d0 := d 0
    have d1 := d 1
    refine bodyPost_ret (v := .tuple #[.agg #[.int .u16 0, .int .u32 0, .int .u32 0, .slice none 0 0], .bool false, .agg #[.int .i64 E, .int .i64 P]]) ?_ q7 ?_
    · simp only [results, Tryz.results26]
      have q4' : a'.tmps[4]?.getD undef = .pointer (some ⟨w.heap.size, 0, none⟩) := by rw [← Array.getD_eq_getD_getElem?]; exact q4
      have q5' : a'.tmps[5]?.getD undef = .bool false := by rw [← Array.getD_eq_getD_getElem?]; exact q5
      have q6' : a'.tmps[6]?.getD undef = .pointer (some ⟨w.heap.size + 1, 0, none⟩) := by rw [← Array.getD_eq_getD_getElem?]; exact q6
      simp [go_sem, q4', q5', q6', c0, c1, c2, c3, d0, d1]
    · rw [k4]
      exact ⟨none, 0, 0, rfl, World.ownsRow_nil _ _ _ _, rfl, k3⟩
  have hgood : LnOk w R (bodyPost Tryz.prog Tryz.f26 fun e w' => ∃ ax m cx, e = .returned (.tuple #[instV R.1 ax m cx, .bool R.2.1, .agg #[.int .i64 R.2.2.1, .int .i64 R.2.2.2]]) ∧ w'.ownsRow w.heap.size 81 3 (.slice ax m cx) m (R.1.2.2.2.flatMap argC) ∧ R.1.2.2.2.length = m ∧ Below w.heap.size w w') := by
    intro a' w' x ax m cx q4 q5 q6 q7 k1 k2 k3 k4 k5 k6
    obtain ⟨c, _⟩ := blk_cells k1
    obtain ⟨d, _⟩ := blk_cells k2
    have c0 := c 0
    have c1 := c 1
    have c2 := c 2
    have c3 := c 3
    have d0 := d 0
    have d1 := d 1
    refine bodyPost_ret (v := .tuple #[.agg #[.int .u16 x.1, .int .u32 x.2.1, .int .u32 x.2.2.1, .slice ax m cx], .bool true, .agg #[.int .i64 0, .int .i64 0]]) ?_ q7 ?_
    · simp only [results, Tryz.results26]
      have q4' : a'.tmps[4]?.getD undef = .pointer (some ⟨w.heap.size, 0, none⟩) := by rw [← Array.getD_eq_getD_getElem?]; exact q4
      have q5' : a'.tmps[5]?.getD undef = .bool true := by rw [← Array.getD_eq_getD_getElem?]; exact q5
      have q6' : a'.tmps[6]?.getD undef = .pointer (some ⟨w.heap.size + 1, 0, none⟩) := by rw [← Array.getD_eq_getD_getElem?]; exact q6
      simp [go_sem, q4', q5', q6', c0, c1, c2, c3, d0, d1]
    · rw [k6]
      exact ⟨ax, m, cx, rfl, own_mono7 k4 (by omega), k5, k3⟩
  go_enter Tryz.func26, Tryz.ntmps26
  exact line_start s b w R _ hs hR hbad hbad (fun a1 w1 _ hJ => line_op s b w _ R _ hn hIn g1 hb0 hb1 hbad (fun a2 w2 h2 => line_type s b w _ R _ hn hIn g1 hb0 hb1 hbad (fun a3 w3 h3 => line_args s b w _ R _ hn hIn g1 hb0 hb1 hbad (fun a4 w4 h4 => line_fits s b w _ R _ hn hIn hbad hgood a4 w4 h4) a3 w3 h3) a2 w2 h2) a1 w1 hJ) _ rfl rfl rfl

end Go.Proofs.YtmobologlaeefaaGreat

/-
  texts of the statements of layer 6: the texts of tokens in new memory; Texts of the kit: true of lists that are the same. Nothing that was there turns.
-/
namespace Go.Proofs.YtmobologlaeefaaGreat
open Go.RowKit
set_option maxRecDepth 10000
set_option linter.unusedVariables false
set_option linter.unusedSimpArgs false

def nthS (l : List ByteArray) (k : Nat) : ByteArray := l.getD k ⟨#[]⟩
/-- What can be read of a slice of texts. -/
def StrsV (w : World) (a : Option Addr) (l : List ByteArray) : Prop :=
  ∀ j, j < l.length → ∃ b off, a = some ⟨b, off, none⟩ ∧ b < w.heap.size ∧ w.cell? ⟨b, off + j, none⟩ = some (.string (nthS l j))
theorem StrsV.below {w w' : World} {a : Option Addr} {l : List ByteArray} (h : StrsV w a l) (hb : Below w.heap.size w w') : StrsV w' a l := by
  intro j hj
  obtain ⟨b, off, e, hlt, h1⟩ := h j hj
  exact ⟨b, off, e, Nat.lt_of_lt_of_le hlt hb.size, (hb.cell (p := ⟨b, off + j, none⟩) hlt).trans h1⟩
theorem strs_own {w : World} {B : Nat} {v : Value} {l : List ByteArray} (h : w.ownsRow B 9 1 v l.length (l.map Value.string)) : ∃ a c, v = .slice a l.length c ∧ StrsV w a l := by
  rcases h.2 with ⟨rfl, h0⟩ | ⟨g, cap, cur, rfl, rest⟩
  · have : l = [] := List.length_eq_zero_iff.1 h0
    subst this
    exact ⟨none, 0, rfl, fun j hj => by simp at hj⟩
  · refine ⟨_, cap, rfl, fun j hj => ?_⟩
    have hc := h.cellAt j (by omega)
    have e : (l.map Value.string)[j]? = some (.string (nthS l j)) := by simp [nthS, List.getD, hj]
    rw [e] at hc
    exact ⟨g, 0, rfl, World.block_lt_of_cell? _ _ hc, by rw [Nat.zero_add]; exact hc⟩

theorem Strs.info : (Tryz.prog.info? 9).map (fun i => (i.zero, i.size, i.bytes)) = some (some (.string ⟨#[]⟩), 1, 16) := by kernel_rfl
end Go.Proofs.YtmobologlaeefaaGreat

/-
  Lines of the document's answer: the lines of the text, in new memory. Nothing that was there turns.
-/
namespace Go.Proofs.YtmobologlaeefaaGreat
open Go.RowKit
set_option maxRecDepth 10000
set_option linter.unusedVariables false
set_option linter.unusedSimpArgs false

theorem strI_rest (s : ByteArray) (a : Nat) : strI (s.extract a s.size) = (strI s).drop a := by
  rw [strI_extract, List.take_of_length_le (by rw [strI_len]; omega)]
theorem rest_at (s : ByteArray) (a j : Nat) : (s.extract a s.size).data.toList[j]? = some 10 ↔ s.data.toList[a + j]? = some 10 := by
  rw [← strI_ten, strI_rest, List.getElem?_drop, strI_ten]
theorem line_cut (s : ByteArray) (a k : Nat) (ha : a ≤ k) (hk : k < s.size) (h10 : s.data.toList[k]? = some 10) (hno : ∀ j : Nat, a ≤ j → j < k → s.data.toList[j]? ≠ some 10) :
    cutAX (s.extract a s.size) = s.extract a k ∧ cutZ (s.extract a s.size) = s.extract (k + 1) s.size := by
  have e : nlAt (s.extract a s.size) = ((k - a : Nat) : Int) := nl_some ((rest_at s a (k - a)).2 (by rw [show a + (k - a) = k by omega]; exact h10)) (fun j hj h => hno (a + j) (by omega) (by omega) ((rest_at s a j).1 h))
  obtain ⟨e1, e2⟩ := cut_some e
  rw [e1, e2]
  constructor
  · apply strI_inj
    rw [strI_extract, strI_rest, strI_extract, List.drop_zero, List.drop_take]
  · apply strI_inj
    rw [strI_rest, strI_rest, strI_rest, List.drop_drop, show a + (k - a + 1) = k + 1 by omega]
theorem line_last (s : ByteArray) (a : Nat) (hno : ∀ j : Nat, a ≤ j → j < s.size → s.data.toList[j]? ≠ some 10) :
    cutAX (s.extract a s.size) = s.extract a s.size ∧ cutZ (s.extract a s.size) = ⟨#[]⟩ := by
  refine cut_none (nl_none fun j h => ?_)
  have h := (rest_at s a j).1 h
  have hl := (List.getElem?_eq_some_iff.1 h).1
  rw [Array.length_toList] at hl
  exact hno (a + j) (by omega) hl h
theorem byte_ten (s : ByteArray) (k : Nat) (hk : k < s.size) : s.data.toList[k]? = some 10 ↔ (s[k].toNat : Int) = 10 := by
  have : s.data.toList[k]? = some s[k] := by rw [Array.getElem?_toList]; exact Array.getElem?_eq_getElem hk
  rw [this, ten_iff]; simp
/-- The lines alone. -/
def lineL (s : ByteArray) : List ByteArray := (linesT s).map fun x => x.2
def restL (f n : Nat) (s : ByteArray) : List ByteArray := (linesF f n s).map fun x => x.2
theorem extract_rest_size (s : ByteArray) (a : Nat) : (s.extract a s.size).size = s.size - a := by rw [ByteArray.size_extract]; omega

theorem rest_step (s : ByteArray) (acc : List ByteArray) (f n a k : Nat) (hf : s.size - a ≤ f) (ha : a ≤ k) (hk : k < s.size) (h10 : s.data.toList[k]? = some 10) (hno : ∀ j : Nat, a ≤ j → j < k → s.data.toList[j]? ≠ some 10) (he : acc ++ restL f n (s.extract a s.size) = lineL s) :
    ∃ f', (acc ++ [s.extract a k]) ++ restL f' (n + 1) (s.extract (k + 1) s.size) = lineL s ∧ s.size - (k + 1) ≤ f' := by
  have hz := extract_rest_size s a
  have hz2 := extract_rest_size s (k + 1)
  obtain ⟨f', e1, e2⟩ := linesF_step f n (s.extract a s.size) (by omega) (by omega)
  obtain ⟨c1, c2⟩ := line_cut s a k ha hk h10 hno
  rw [c1, c2] at e1
  rw [c2, hz2] at e2
  refine ⟨f', ?_, e2⟩
  rw [← he]; unfold restL; rw [e1]; simp
theorem rest_last (s : ByteArray) (acc : List ByteArray) (f n a : Nat) (hf : s.size - a ≤ f) (hno : ∀ j : Nat, a ≤ j → j < s.size → s.data.toList[j]? ≠ some 10) (he : acc ++ restL f n (s.extract a s.size) = lineL s) :
    (a < s.size → lineL s = acc ++ [s.extract a s.size]) ∧ (¬ a < s.size → lineL s = acc) := by
  have hz := extract_rest_size s a
  constructor
  · intro h
    obtain ⟨f', e1, e2⟩ := linesF_step f n (s.extract a s.size) (by omega) (by omega)
    obtain ⟨c1, c2⟩ := line_last s a hno
    rw [c1, c2, linesF_empty f' (n + 1) ⟨#[]⟩ rfl] at e1
    rw [← he]; unfold restL; rw [e1]; rfl
  · intro h
    rw [← he]; unfold restL; rw [linesF_empty _ _ _ (by omega)]; simp

set_option maxHeartbeats 2000000 in
theorem refLines_any (s : ByteArray) (w : World) (hs : s.size ≤ 16777216) :
    Calls Tryz.prog 23 #[.string s] w fun e w' => ∃ v, e = .returned v ∧ w'.ownsRow w.heap.size 9 1 v (lineL s).length ((lineL s).map Value.string) ∧ Below w.heap.size w w' := by
  obtain ⟨i0, hi, hz0, hz1, hz2⟩ := info_parts Strs.info
  have HST : Hid (∀ acc f n a k, _) := rest_step s
  have HLA : Hid (∀ acc f n a, _) := rest_last s
  have HB : Hid (∀ k hk, _) := byte_ten s
  have H0 : Hid ([] ++ restL s.size 1 (s.extract 0 s.size) = lineL s) := by
    show _ = _
    rw [show s.extract 0 s.size = s from strI_inj (by rw [strI_rest]; rfl)]; rfl
  go_enter Tryz.func23, Tryz.ntmps23
  go_wp2_with fail
  go_loopw [3, 4, 5] (fun v fr i wr => ∃ (k a f n : Nat) (acc : List ByteArray), k ≤ s.size ∧ a ≤ k ∧ i = .int .i64 k ∧ fr = .int .i64 a ∧ acc.length ≤ a ∧ Hid (s.size - a ≤ f ∧ (∀ j : Nat, a ≤ j → j < k → s.data.toList[j]? ≠ some 10) ∧ acc ++ restL f n (s.extract a s.size) = lineL s) ∧ wr.ownsRow w.heap.size 9 1 v acc.length (acc.map Value.string) ∧ Below w.heap.size w wr) (fun _ _ i _ => s.size - (intOf i).toNat)
  case atStart => exact ⟨0, 0, s.size, 1, [], Nat.zero_le _, Nat.le_refl _, rfl, rfl, Nat.le_refl _, ⟨by omega, fun j _ h => by omega, H0.out⟩, World.ownsRow_nil _ _ _ _, Below.refl _ _⟩
  case round =>
    obtain ⟨k, a, f, n, acc, hk, ha, rfl, rfl, hal, HI, hrow, hbel⟩ := hrel
    have hsz := hbel.size
    by_cases hlt : k < s.size
    · have hki : (k : Int) < (s.size : Int) := by omega
      have hk0 : (0 : Int) ≤ (k : Int) := by omega
      have hai : (a : Int) ≤ (k : Int) := by omega
      have hBk := HB.out k hlt
      by_cases h10 : (s[k].toNat : Int) = 10
      · obtain ⟨f', e1, e2⟩ := HST.out acc f n a k HI.out.1 ha hlt (hBk.2 h10) HI.out.2.1 HI.out.2.2
        have HN : Hid (s.size - (k + 1) ≤ f' ∧ (∀ j : Nat, k + 1 ≤ j → j < k + 1 → s.data.toList[j]? ≠ some 10) ∧ (acc ++ [s.extract a k]) ++ restL f' (n + 1) (s.extract (k + 1) s.size) = lineL s) := ⟨e2, fun j h1 h2 => by omega, e1⟩
        have hb : ((s[k].toNat : Int) == 10) = true := by simpa using h10
        clear HI hBk e1 e2 H0 HST HLA HB h10
        have HM : Hid ((acc ++ [s.extract a k]).map Value.string = acc.map Value.string ++ [.string (s.extract a k)]) := by show _ = _; simp
        have hra := hrow.alloc (.cells #[.string (s.extract a k)] 9)
        have ew := hbel.alloc hsz (.cells #[.string (s.extract a k)] 9)
        have hnone : ∀ kk, u3.ownBlock = some kk → w.heap.size ≤ kk := fun kk e => (hrow.lt kk e).1
        generalize hm : acc.length = m at *
        generalize acc.map Value.string = xs at *
        clear hrow
        go_wp2_with (at_builtin; refine wpList_append_own _ rfl (.tmp 16) (.tmp 21) 52 rfl w.heap.size 9 i0 (.string ⟨#[]⟩) 1 16 Tryz.underlying52 hi hz0 hz1 hz2 rfl (by decide) u3 m xs rfl hra ⟨wr.heap.size, 0, none⟩ 1 1 [.string (s.extract a k)] rfl rfl ?c1 ?c2 ?c3 ?c4 ?c5 ?_)
        case c1 =>
          intro j u hj
          match j, hj with
          | 0, hj => simp at hj; subst hj; simp [Addr.add]
        case c2 => intro u hu; simp at hu; subst hu; rfl
        case c3 => unfold maxLen; omega
        case c4 => omega
        case c5 => simp; omega
        intro v2 w2 hown2 hgr2 _
        have hb2 : Below w.heap.size w w2 := ew.grown hgr2 (by simp; omega) (fun kk e => hnone kk e)
        clear hgr2 hra ew
        go_wp2_with fail
        go_roundw
        case rel => exact ⟨k + 1, k + 1, f', n + 1, acc ++ [s.extract a k], by omega, Nat.le_refl _, by go_num, by go_num, by simp; omega, HN, by rw [HM.out, List.length_append, hm]; exact hown2, hb2⟩
        case measure => simp [intOf]; omega
      · have hb : ((s[k].toNat : Int) == 10) = false := by simpa using h10
        have HN : Hid (s.size - a ≤ f ∧ (∀ j : Nat, a ≤ j → j < k + 1 → s.data.toList[j]? ≠ some 10) ∧ acc ++ restL f n (s.extract a s.size) = lineL s) := ⟨HI.out.1, fun j h1 h2 => by
          by_cases e : j = k
          · subst e; intro h; exact h10 (hBk.1 h)
          · exact HI.out.2.1 j h1 (by omega), HI.out.2.2⟩
        clear HI hBk H0 HST HLA HB h10
        go_wp2_with fail
        go_roundw
        case rel => exact ⟨k + 1, a, f, n, acc, by omega, by omega, by go_num, rfl, hal, HN, hrow, hbel⟩
        case measure => simp [intOf]; omega
    · obtain rfl : k = s.size := by omega
      obtain ⟨q1, q2⟩ := HLA.out acc f n a HI.out.1 HI.out.2.1 HI.out.2.2
      clear HI H0 HST HLA HB
      by_cases hq : a < s.size
      · have HM : Hid ((lineL s).map Value.string = acc.map Value.string ++ [.string (s.extract a s.size)] ∧ (lineL s).length = acc.length + 1) := by show _ ∧ _; rw [q1 hq]; simp
        clear q1 q2
        have hqi : (a : Int) < (s.size : Int) := by omega
        have hra := hrow.alloc (.cells #[.string (s.extract a s.size)] 9)
        have ew := hbel.alloc hsz (.cells #[.string (s.extract a s.size)] 9)
        have hnone : ∀ kk, u3.ownBlock = some kk → w.heap.size ≤ kk := fun kk e => (hrow.lt kk e).1
        generalize acc.length = m at *
        generalize acc.map Value.string = xs at *
        clear hrow
        go_wp2_with (at_builtin; refine wpList_append_own _ rfl (.tmp 29) (.tmp 33) 52 rfl w.heap.size 9 i0 (.string ⟨#[]⟩) 1 16 Tryz.underlying52 hi hz0 hz1 hz2 rfl (by decide) u3 m xs rfl hra ⟨wr.heap.size, 0, none⟩ 1 1 [.string (s.extract a s.size)] rfl rfl ?c1 ?c2 ?c3 ?c4 ?c5 ?_)
        case c1 =>
          intro j u hj
          match j, hj with
          | 0, hj => simp at hj; subst hj; simp [Addr.add]
        case c2 => intro u hu; simp at hu; subst hu; rfl
        case c3 => unfold maxLen; omega
        case c4 => omega
        case c5 => simp; omega
        intro v2 w2 hown2 hgr2 _
        have hb2 : Below w.heap.size w w2 := ew.grown hgr2 (by simp; omega) (fun kk e => hnone kk e)
        clear hgr2 hra ew
        go_wp2_with fail
        go_ret
        exact ⟨_, rfl, by rw [HM.out.1, HM.out.2]; exact hown2, hb2⟩
      · have HM : Hid (lineL s = acc) := q2 hq
        clear q1 q2
        go_wp2_with fail
        go_ret
        exact ⟨_, rfl, by rw [HM.out]; exact hrow, hbel⟩

end Go.Proofs.YtmobologlaeefaaGreat

/-
  What Parse of the document's answer for layer 7 returns: what holds within it.
-/
namespace Go.Proofs.YtmobologlaeefaaGreat
open Go.RowKit
set_option linter.unusedVariables false
set_option linter.unusedSimpArgs false
set_option maxRecDepth 20000

/-- The results' boxes, that of no module, the module's. -/
structure PrB (w : World) (gen bnd : Int) (v : Value) (W : World) : Prop where
  res : W.heap[w.heap.size]? = some (.cells #[.int .u32 0, .int .u32 0, .slice none 0 0] 25 (0, 0))
  spot : W.heap[w.heap.size + 1]? = some (.cells #[.int .i64 0, .int .i64 0] 28 (0, 0))
  non : W.heap[w.heap.size + 2]? = some (.cells #[.int .u32 0, .int .u32 0, .slice none 0 0] 25 (0, 0))
  mod : W.heap[w.heap.size + 3]? = some (.cells #[.int .u32 gen, .int .u32 bnd, v] 25 (0, 0))
  bel : Below w.heap.size w W
theorem PrB.size {w W : World} {gen bnd : Int} {v : Value} (h : PrB w gen bnd v W) : w.heap.size + 3 < W.heap.size := (Array.getElem?_eq_some_iff.1 h.mod).1
theorem PrB.below {w W W' : World} {gen bnd : Int} {v : Value} (h : PrB w gen bnd v W) (hb : Below W.heap.size W W') : PrB w gen bnd v W' := by
  have s := h.size
  exact ⟨(hb.block _ (by omega)).trans h.res, (hb.block _ (by omega)).trans h.spot, (hb.block _ (by omega)).trans h.non, (hb.block _ s).trans h.mod, h.bel.trans (hb.mono h.bel.size)⟩
theorem PrB.row {w W W' : World} {gen bnd : Int} {v : Value} {row : Option Nat} (h : PrB w gen bnd v W) (hg : W.grownBy W' row) (hr : ∀ g, row = some g → w.heap.size + 4 ≤ g) : PrB w gen bnd v W' := by
  have s := h.size
  have key : ∀ i, i < w.heap.size + 4 → W'.heap[i]? = W.heap[i]? := fun i hi => hg.block i (by omega) (fun e => by have := hr i e.symm; omega)
  exact ⟨(key _ (by omega)).trans h.res, (key _ (by omega)).trans h.spot, (key _ (by omega)).trans h.non, (key _ (by omega)).trans h.mod, ⟨hg.os.trans h.bel.os, hg.tape.trans h.bel.tape, hg.output.trans h.bel.output, Nat.le_trans h.bel.size hg.size, fun i hi => (key i (by omega)).trans (h.bel.block i hi)⟩⟩
theorem PrB.put {w W : World} {gen bnd : Int} {v : Value} (h : PrB w gen bnd v W) (i : Nat) (u : Value) (g' b' : Int) (v' : Value) (ho : (W.setCell ⟨w.heap.size + 3, i, none⟩ u).heap[w.heap.size + 3]? = some (.cells #[.int .u32 g', .int .u32 b', v'] 25 (0, 0))) : PrB w g' b' v' (W.setCell ⟨w.heap.size + 3, i, none⟩ u) :=
  ⟨(Below.heap_setCell _ _ _ _ (by simp)).trans h.res, (Below.heap_setCell _ _ _ _ (by simp)).trans h.spot, (Below.heap_setCell _ _ _ _ (by simp)).trans h.non, ho, h.bel.setCell (by simp) _⟩
theorem PrB.setGen {w W : World} {gen bnd : Int} {v : Value} (h : PrB w gen bnd v W) (x : Int) : PrB w x bnd v (W.setCell ⟨w.heap.size + 3, 0, none⟩ (.int .u32 x)) := h.put 0 _ x bnd v (by have := h.mod; simp [World.setCell, Array.getElem?_modify, this])
theorem PrB.setBnd {w W : World} {gen bnd : Int} {v : Value} (h : PrB w gen bnd v W) (x : Int) : PrB w gen x v (W.setCell ⟨w.heap.size + 3, 1, none⟩ (.int .u32 x)) := h.put 1 _ gen x v (by have := h.mod; simp [World.setCell, Array.getElem?_modify, this])
theorem PrB.setInsts {w W : World} {gen bnd : Int} {v : Value} (h : PrB w gen bnd v W) (x : Value) : PrB w gen bnd x (W.setCell ⟨w.heap.size + 3, 2, none⟩ x) := h.put 2 _ gen bnd x (by have := h.mod; simp [World.setCell, Array.getElem?_modify, this])

/-- While no module is returned. -/
structure LeafP (w W wx : World) : Prop where
  aside : Aside W w.heap.size wx
  res : wx.heap[w.heap.size]? = some (.cells #[.int .u32 0, .int .u32 0, .slice none 0 0] 25 (0, 0))
  spot : ∃ y0 y1, wx.heap[w.heap.size + 1]? = some (.cells #[y0, y1] 28 (0, 0))
  bel : Below w.heap.size w wx
theorem LeafP.start {w W : World} {gen bnd : Int} {v : Value} (h : PrB w gen bnd v W) : LeafP w W W.drew := ⟨Aside.refl _ _, h.res, ⟨_, _, h.spot⟩, h.bel.drew⟩
theorem LeafP.alloc {w W wx : World} (h : LeafP w W wx) (o : Obj) : LeafP w W (wx.alloc o) := by
  obtain ⟨y0, y1, hy⟩ := h.spot
  exact ⟨h.aside.alloc o, (Below.heap_alloc _ _ _ (Array.getElem?_eq_some_iff.1 h.res).1).trans h.res, ⟨y0, y1, (Below.heap_alloc _ _ _ (Array.getElem?_eq_some_iff.1 hy).1).trans hy⟩, h.bel.alloc h.bel.size _⟩
theorem LeafP.zero {w W wx : World} (h : LeafP w W wx) : LeafP w W (((wx.setCell ⟨w.heap.size, 0, none⟩ (.int .u32 0)).setCell ⟨w.heap.size, 1, none⟩ (.int .u32 0)).setCell ⟨w.heap.size, 2, none⟩ (.slice none 0 0)) := by
  have k : (((wx.setCell ⟨w.heap.size, 0, none⟩ (.int .u32 0)).setCell ⟨w.heap.size, 1, none⟩ (.int .u32 0)).setCell ⟨w.heap.size, 2, none⟩ (.slice none 0 0)).heap[w.heap.size + 1]? = wx.heap[w.heap.size + 1]? := by
    rw [Below.heap_setCell _ _ _ _ (by simp), Below.heap_setCell _ _ _ _ (by simp), Below.heap_setCell _ _ _ _ (by simp)]
  obtain ⟨y0, y1, hy⟩ := h.spot
  refine ⟨((h.aside.set0 _ _).set0 _ _).set0 _ _, ?_, ⟨y0, y1, k.trans hy⟩, ((h.bel.setCell (Nat.le_refl _) _).setCell (Nat.le_refl _) _).setCell (Nat.le_refl _) _⟩
  have := h.res
  simp [World.setCell, Array.getElem?_modify, this]
theorem LeafP.put {w W wx : World} (h : LeafP w W wx) (v0 v1 : Value) : LeafP w W ((wx.setCell ⟨w.heap.size + 1, 0, none⟩ v0).setCell ⟨w.heap.size + 1, 1, none⟩ v1) ∧ ((wx.setCell ⟨w.heap.size + 1, 0, none⟩ v0).setCell ⟨w.heap.size + 1, 1, none⟩ v1).heap[w.heap.size + 1]? = some (.cells #[v0, v1] 28 (0, 0)) := by
  obtain ⟨y0, y1, hy⟩ := h.spot
  obtain ⟨g1, g2⟩ := two_putB hy v0 v1
  exact ⟨⟨(h.aside.set1 _ _).set1 _ _, (g2.block _ (by omega)).trans h.res, ⟨v0, v1, g1⟩, h.bel.trans (g2.mono (by omega))⟩, g1⟩
theorem LeafP.cells {w W wx : World} (h : LeafP w W wx) : (wx.cell? ⟨w.heap.size, 0, none⟩ = some (.int .u32 0) ∧ wx.cell? ⟨w.heap.size, 1, none⟩ = some (.int .u32 0) ∧ wx.cell? ⟨w.heap.size, 2, none⟩ = some (.slice none 0 0) ∧ ∀ i, wx.frozen? ⟨w.heap.size, i, none⟩ = false) ∧ ∃ y0 y1, wx.cell? ⟨w.heap.size + 1, 0, none⟩ = some y0 ∧ wx.cell? ⟨w.heap.size + 1, 1, none⟩ = some y1 ∧ ∀ i, wx.frozen? ⟨w.heap.size + 1, i, none⟩ = false := by
  obtain ⟨c1, f1⟩ := blk_cells h.res
  obtain ⟨y0, y1, hy⟩ := h.spot
  obtain ⟨c2, f2⟩ := blk_cells hy
  exact ⟨⟨c1 0, c1 1, c1 2, f1⟩, y0, y1, c2 0, c2 1, f2⟩

/-- The state between two lines. -/
structure PrL (w : World) (s : ByteArray) (a : Option Addr) (lo : Nat) (st : ModT) (k : Nat) (v : Value) (wr : World) : Prop where
  box : PrB w st.1 st.2.1 v wr
  insts : Insts wr (w.heap.size + 3) lo v st.2.2.2
  words : 0 ≤ st.2.2.1 ∧ st.2.2.1 ≤ 1048576 ∧ (st.2.2.2.length : Int) ≤ st.2.2.1
  ok : InstsOk st.2.2.2
  bnd : 0 ≤ st.2.1 ∧ st.2.1 < 4294967296
  go : ∀ r, goL st0 ((linesT s).take k ++ r) = goL st r
  strs : StrsV wr a (lineL s)
  far : ∀ b off, a = some ⟨b, off, none⟩ → w.heap.size + 4 ≤ b ∧ b < lo
theorem PrL.below {w wr w' : World} {s : ByteArray} {a : Option Addr} {lo k : Nat} {st : ModT} {v : Value} (h : PrL w s a lo st k v wr) (hb : Below wr.heap.size wr w') : PrL w s a lo st k v w' := ⟨h.box.below hb, h.insts.below hb, h.words, h.ok, h.bnd, h.go, h.strs.below hb, h.far⟩

theorem headS_bnd (s : ByteArray) : 0 ≤ (headS s).2.1 ∧ (headS s).2.1 < 4294967296 := by
  unfold headS headP
  repeat' split
  all_goals simp
  all_goals omega
theorem Insts.setB {W : World} {B lo : Nat} {v : Value} {xs : List InstT} (h : Insts W B lo v xs) (i : Nat) (u : Value) : Insts (W.setCell ⟨B, i, none⟩ u) B lo v xs := by
  obtain ⟨cs, h1, h2⟩ := h.row
  refine ⟨⟨cs, ownsRow_setCell_below h1 (by simpa using h.lt) _, h2.grown (grown_set (World.grownBy.refl W (some B)) i u) (fun g e => by simp only [Option.some.injEq] at e; subst e; exact .inl h.lt)⟩, h.lt, ?_⟩
  rw [World.size_setCell]; exact h.le
theorem StrsV.setB {W : World} {a : Option Addr} {l : List ByteArray} (h : StrsV W a l) (B i : Nat) (u : Value) (hne : ∀ b off, a = some ⟨b, off, none⟩ → b ≠ B) : StrsV (W.setCell ⟨B, i, none⟩ u) a l := by
  intro j hj
  obtain ⟨b, off, e, h1, h2⟩ := h j hj
  refine ⟨b, off, e, by rw [World.size_setCell]; exact h1, ?_⟩
  simp only [World.cell?] at h2 ⊢
  rw [Below.heap_setCell _ _ _ _ (by simpa using hne b off e)]
  exact h2
theorem PrL.head {w W : World} {s : ByteArray} {a : Option Addr} {lo k : Nat} {st : ModT} {v : Value} (h : PrL w s a lo st k v W) (hn : st.2.2.2 = []) (g b : Int) (hb : 0 ≤ b ∧ b < 4294967296) (hgo : ∀ r, goL st0 ((linesT s).take (k + 1) ++ r) = goL (g, b, 5, []) r) : PrL w s a lo (g, b, 5, []) (k + 1) v ((W.setCell ⟨w.heap.size + 3, 0, none⟩ (.int .u32 g)).setCell ⟨w.heap.size + 3, 1, none⟩ (.int .u32 b)) := by
  have hi := h.insts
  rw [hn] at hi
  exact ⟨(h.box.setGen g).setBnd b, (hi.setB 0 _).setB 1 _, by simp, fun j hj => by simp at hj, hb, hgo, (h.strs.setB _ 0 _ (fun b off e => by have := (h.far b off e).1; omega)).setB _ 1 _ (fun b off e => by have := (h.far b off e).1; omega), h.far⟩

theorem line_at {s : ByteArray} {k : Nat} (hk : k < (lineL s).length) : (linesT s).take (k + 1) = (linesT s).take k ++ [(k + 1, nthS (lineL s) k)] ∧ (nthS (lineL s) k).size ≤ s.size ∧ linesT s = (linesT s).take k ++ ((k + 1, nthS (lineL s) k) :: (linesT s).drop (k + 1)) := by
  have hk' : k < (linesT s).length := by simpa [lineL] using hk
  have e1 : (linesT s).take (k + 1) = (linesT s).take k ++ [(linesT s)[k]] := by rw [List.take_add_one, List.getElem?_eq_getElem hk']; rfl
  have hp : (linesT s).take k ++ [(linesT s)[k]] <+: linesT s := by rw [← e1]; exact List.take_prefix _ _
  obtain ⟨p1, p2, _⟩ := pre_at hp
  have hl : ((linesT s).take k).length = k := by rw [List.length_take]; omega
  have hn : nthS (lineL s) k = (linesT s)[k].2 := by simp [nthS, lineL, List.getD, hk']
  have e2 : (linesT s)[k] = (k + 1, nthS (lineL s) k) := by rw [hn]; exact Prod.ext (by rw [p1, hl]) rfl
  refine ⟨by rw [e1, e2], by rw [hn]; exact p2, ?_⟩
  conv => lhs; rw [← List.take_append_drop k (linesT s), List.drop_eq_getElem_cons hk', e2]

end Go.Proofs.YtmobologlaeefaaGreat
