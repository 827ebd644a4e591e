/-
  Texts laid together in one: Ref07LineF, Bulk, LawAsmLines.
-/
import Derived.WalkSpells
import Derived.WalkMore
import Derived.BigRegion
import Derived.Deep.RegionWith
import Derived.Deep.RegionHeld2
import Derived.RangeFuncNested
import Derived.OwnWalkIn
import Derived.TacticsInMore
import Derived.Test.YtbkkmabmkonnbaaGreatProg
import Derived.Test.YtbkkmabmkonnbaaGreatB23
import Derived.Test.YtbkkmabmkonnbaaGreatB24
import Derived.Test.YtbkkmabmkonnbaaGreatB25
import Derived.Test.YtbkkmabmkonnbaaGreatB16
import Derived.Test.YtbkkmabmkonnbaaGreatRows
import Derived.Test.YtbkkmabmkonnbaaGreatB18
import Derived.Test.YtbkkmabmkonnbaaGreatB01
/-
  What Line of the document's answer for layer 7 returns.
-/
namespace Go.Proofs.YtbkkmabmkonnbaaGreat
open Go.RowKit
set_option linter.unusedVariables false
set_option linter.unusedSimpArgs false
set_option maxRecDepth 20000

set_option maxHeartbeats 16000000 in
theorem line_start (s : ByteArray) (b : Int) (w : World) (R : LineR) (Q : Exit → Act → World → Prop) (hs : s.size ≤ 16777216) (hR : R = lineS s b) (hbad : LnBad w R Q) (hbad2 : LnBad w R Q)
    (hP : ∀ a1 w1, (toksP (strI s) 0).2.1 = 0 → LnJ1 s b w (toksP (strI s) 0).1 R a1 w1 → (dropR 16 (Tryz.f8.body.getD .skip)).wp Tryz.prog Q a1 w1)
    (t : Array Value) (hsz : t.size = 231) (h0 : slot t 0 = .string s) (h1 : slot t 1 = .int .u32 b) : (Tryz.f8.body.getD .skip).wp Tryz.prog Q { tmps := t, defers := [] } w := by
  have hT := fun wx => refTokens_any s wx hs
  obtain ⟨_, _, g3, g4, _⟩ := toks_good (strI_within s) 0
  rw [strI_len] at g3
  unfold lineS at hR
  generalize hTT : toksP (strI s) 0 = TT at *
  obtain ⟨l, er, at_⟩ := TT
  simp only at hT hR g3 hP
  refine wp_cut 16 (J := fun x y => er = 0 ∧ LnJ1 s b w l R x y) _ _ _ ?_ (fun a1 w1 h => hP a1 w1 h.1 h.2)
  clear hP g4 hTT
  conv => arg 5; whnf
  rw [frame231 t hsz, h0, h1]
  clear h0 h1 hsz
  have HBAD := hide hbad
  have hll : (l.length : Int) ≤ 16777216 := by omega
  have HHR := hide hR
  have HG3 := hide g3
  clear hbad hbad2 hR g3
  have hB0 : Below w.heap.size w (((w.alloc (.cells #[.int .u16 0, .int .u32 0, .int .u32 0, .slice none 0 0] 26)).alloc (.cells #[.int .i64 0, .int .i64 0] 29)).alloc (.cells #[.int .u16 0, .int .u32 0, .int .u32 0, .slice none 0 0] 26)) := (((Below.refl _ w).alloc (Nat.le_refl _) _).alloc (by simp) _).alloc (by simp; omega) _
  have k0 : (((w.alloc (.cells #[.int .u16 0, .int .u32 0, .int .u32 0, .slice none 0 0] 26)).alloc (.cells #[.int .i64 0, .int .i64 0] 29)).alloc (.cells #[.int .u16 0, .int .u32 0, .int .u32 0, .slice none 0 0] 26)).heap[w.heap.size]? = some (.cells #[.int .u16 0, .int .u32 0, .int .u32 0, .slice none 0 0] 26 (0, 0)) := by
    rw [Below.heap_alloc _ _ _ (by simp; omega), Below.heap_alloc _ _ _ (by simp)]; exact heap_alloc_new w _
  have k1 : (((w.alloc (.cells #[.int .u16 0, .int .u32 0, .int .u32 0, .slice none 0 0] 26)).alloc (.cells #[.int .i64 0, .int .i64 0] 29)).alloc (.cells #[.int .u16 0, .int .u32 0, .int .u32 0, .slice none 0 0] 26)).heap[w.heap.size + 1]? = some (.cells #[.int .i64 0, .int .i64 0] 29 (0, 0)) := by
    rw [Below.heap_alloc _ _ _ (by simp)]; simpa using heap_alloc_new (w.alloc (.cells #[.int .u16 0, .int .u32 0, .int .u32 0, .slice none 0 0] 26)) (.cells #[.int .i64 0, .int .i64 0] 29)
  have k2 : (((w.alloc (.cells #[.int .u16 0, .int .u32 0, .int .u32 0, .slice none 0 0] 26)).alloc (.cells #[.int .i64 0, .int .i64 0] 29)).alloc (.cells #[.int .u16 0, .int .u32 0, .int .u32 0, .slice none 0 0] 26)).heap[w.heap.size + 2]? = some (.cells #[.int .u16 0, .int .u32 0, .int .u32 0, .slice none 0 0] 26 (0, 0)) := by
    simpa using heap_alloc_new ((w.alloc (.cells #[.int .u16 0, .int .u32 0, .int .u32 0, .slice none 0 0] 26)).alloc (.cells #[.int .i64 0, .int .i64 0] 29)) (.cells #[.int .u16 0, .int .u32 0, .int .u32 0, .slice none 0 0] 26)
  have HK := hide (And.intro hB0 (And.intro k0 (And.intro k1 k2)))
  clear hB0 k0 k1 k2
  refine cut_step rfl ?_
  intro K1 hK1
  have HK1 := hide hK1
  clear hK1
  go_wp2_with fail
  refine HK1.out _ _ ?_
  clear HK1
  refine cut_step rfl ?_
  intro K2 hK2
  have HK2 := hide hK2
  clear hK2
  go_wp2_with fail
  refine HK2.out _ _ ?_
  clear HK2
  refine cut_step rfl ?_
  intro K3 hK3
  have HK3 := hide hK3
  clear hK3
  go_wp2_with fail
  generalize ((w.alloc (.cells #[.int .u16 0, .int .u32 0, .int .u32 0, .slice none 0 0] 26)).alloc (.cells #[.int .i64 0, .int .i64 0] 29)).alloc (.cells #[.int .u16 0, .int .u32 0, .int .u32 0, .slice none 0 0] 26) = W at *
  refine (hT _).mono ?_
  rintro e w1 ⟨v1, rfl, hrow, hb1⟩
  obtain ⟨a1, c1, rfl⟩ := own_shape7 hrow
  obtain ⟨hv, hfar⟩ := toks_of_own hrow rfl
  have hba : Below w1.heap.size w1 (w1.alloc (.cells #[.int .i64 er, .int .i64 at_] 29)) := (Below.refl _ _).alloc (Nat.le_refl _) _
  have hb1a := hb1.trans (hba.mono hb1.size)
  obtain ⟨hB0, k0, k1, k2⟩ := HK.out
  have sz := (Array.getElem?_eq_some_iff.1 k2).1
  have hB1 := hB0.trans (hb1a.mono hB0.size)
  have q0 := (hb1a.block _ (by omega)).trans k0
  have q1 := (hb1a.block _ (by omega)).trans k1
  have q2 := (hb1a.block _ sz).trans k2
  have q3 := heap_alloc_new w1 (.cells #[.int .i64 er, .int .i64 at_] 29)
  have s1 : w.heap.size + 2 < w1.heap.size := Nat.lt_of_lt_of_le sz hb1.size
  have HQ := hide (And.intro hB1 (And.intro q0 (And.intro q1 (And.intro q2 q3))))
  have HV := hide (hv.below hba)
  have HFAR : Hid (∀ b off, a1 = some ⟨b, off, none⟩ → w.heap.size + 2 < b ∧ b < w1.heap.size) := fun b off e => by have := hfar b off e; have := sz; omega
  have HSZ : Hid (w1.heap.size < (w1.alloc (.cells #[.int .i64 er, .int .i64 at_] 29)).heap.size) := by show _ < _; simp
  clear hT hrow hv hfar hba hb1a hB0 k0 k1 k2 sz hB1 q0 q1 q2 q3 HK hb1
  go_wp2_with fail
  refine HK3.out _ _ ?_
  clear HK3
  refine cut_step rfl ?_
  intro K4 hK4
  have HK4 := hide hK4
  clear hK4
  generalize w1.alloc (.cells #[.int .i64 er, .int .i64 at_] 29) = W2 at *
  generalize w1.heap.size = BS at *
  have e0 : W2.cell? ⟨BS, 0, none⟩ = some (.int .i64 er) := (blk_cells HQ.out.2.2.2.2).1 0
  have e1 : W2.cell? ⟨BS, 1, none⟩ = some (.int .i64 at_) := (blk_cells HQ.out.2.2.2.2).1 1
  by_cases hE : er = 0 ∧ l ≠ []
  · obtain ⟨rfl, hne⟩ := hE
    have hl0 : 0 < l.length := List.length_pos_iff.2 hne
    have HR1 : Hid (R = lineP l (s.size : Int) b) := by have := HHR.out; rw [if_neg (by simpa using hne)] at this; exact this
    have hne' : ((l.length : Int) == 0) = false := by simp; omega
    clear HHR hne
    go_wp2_with fail
    refine HK4.out _ _ ?_
    clear HK4
    refine cut_step rfl ?_
    intro K5 hK5
    have HK5 := hide hK5
    clear hK5
    go_wp2_with fail
    refine (refSpot_exact _ _ _).mono ?_
    rintro x w5 ⟨rfl, hw5⟩
    have hb5 : Below W2.heap.size W2 w5 := by rw [hw5]; exact (Below.refl _ _).alloc (Nat.le_refl _) _
    clear hw5
    have hba : Below w5.heap.size w5 (w5.alloc (.cells #[.int .i64 72, .int .i64 (s.size : Int)] 29)) := (Below.refl _ _).alloc (Nat.le_refl _) _
    have hbb := hb5.trans (hba.mono hb5.size)
    have HSW : Hid (LnS w w5.heap.size (s.size : Int) a1 l (w5.alloc (.cells #[.int .i64 72, .int .i64 (s.size : Int)] 29))) := by
      obtain ⟨h1, h2, h3, h4, h5⟩ := HQ.out
      have s2 := HSZ.out
      have s5 := hb5.size
      exact ⟨(hbb.block _ (by omega)).trans h2, (hbb.block _ (by omega)).trans h3, (hbb.block _ (by omega)).trans h4, heap_alloc_new w5 _, h1.trans (hbb.mono h1.size), HV.out.below hbb, by omega, fun b off e => (HFAR.out b off e).1⟩
    clear hb5 hba hbb HQ HV HFAR HSZ e0 e1
    go_wp2_with fail
    refine HK5.out _ _ ?_
    clear HK5
    refine cut_step rfl ?_
    intro K6 hK6
    have HK6 := hide hK6
    clear hK6
    generalize w5.alloc (.cells #[.int .i64 72, .int .i64 (s.size : Int)] 29) = X at *
    generalize w5.heap.size = BE at *
    obtain ⟨g1, o1, rfl, hg1, t1, t2, t3⟩ := HSW.out.toks 0 hl0
    simp only [Nat.zero_mul, Nat.add_zero] at t1 t2 t3
    have hln : (0 : Int) < (l.length : Int) := by omega
    generalize hy0 : nthT l 0 = y at *
    obtain ⟨y1, y2, y3⟩ := y
    simp only at t1 t2 t3
    have HY0 := hide hy0
    clear hy0
    go_wp2_with fail
    refine HK6.out _ _ ?_
    clear HK6
    refine cut_step rfl ?_
    intro K7 hK7
    have HK7 := hide hK7
    clear hK7
    go_wp2_with fail
    refine HK7.out _ _ ?_
    clear HK7
    refine cut_step rfl ?_
    intro K8 hK8
    have HK8 := hide hK8
    clear hK8
    have HL0 := hide hl0
    by_cases hsd : y1 = 2
    · subst hsd
      have HNG : Hid (g1 ≠ w.heap.size ∧ g1 ≠ w.heap.size + 1) := by have := HSW.out.off g1 o1 rfl; exact ⟨by omega, by omega⟩
      have hLP := HR1.out
      unfold lineP at hLP
      rw [HY0.out, if_neg (by simp)] at hLP
      by_cases hl1 : l.length = 1
      · have HR : Hid (R = noLine 72 (s.size : Int)) := by rw [if_pos (by omega)] at hLP; exact hLP
        have hl1' : ((l.length : Int) == 1) = true := by simp; omega
        clear hLP hl1 HR1
        have hlw := HSW.out.lt
        have hsw := HSW.out.size
        obtain ⟨⟨u0, u1, u2, u3, fu⟩, ⟨p0, p1, fp⟩, ⟨z0, z1, z2, z3⟩, ⟨q0, q1⟩⟩ := HSW.out.cells
        have hput := HSW.out.put (.int .u16 0) (.int .u32 0) (.int .u32 0) (.slice none 0 0) (.int .i64 (72)) (.int .i64 ((s.size : Int))) (.cells #[.int .i64 (72), .int .i64 ((s.size : Int))] 29)
        have HPUT := hide hput
        have n1 : BE ≠ w.heap.size := by omega
        have n2 : BE ≠ w.heap.size + 1 := by omega
        have l0 : w.heap.size < X.heap.size := by omega
        have l1 : w.heap.size + 1 < X.heap.size := by omega
        have l2 : w.heap.size + 2 < X.heap.size := by omega
        clear hput hlw 
        go_wp2_with fail
        refine wp_norm ?_
        go_region
        all_goals
          rw [onNormal_normal]
          generalize ((((((X.setCell ⟨w.heap.size, 0, none⟩ (.int .u16 0)).setCell ⟨w.heap.size, 1, none⟩ (.int .u32 0)).setCell ⟨w.heap.size, 2, none⟩ (.int .u32 0)).setCell ⟨w.heap.size, 3, none⟩ (.slice none 0 0)).setCell ⟨w.heap.size + 1, 0, none⟩ (.int .i64 (72))).setCell ⟨w.heap.size + 1, 1, none⟩ (.int .i64 ((s.size : Int)))) = X at *
          go_wp2_with fail
          first
            | exact HBAD.out _ _ _ _ rfl rfl rfl rfl HPUT.out.1.1 HPUT.out.1.2.1 HPUT.out.1.2.2 HR.out
            | exact HBAD.out _ _ _ _ rfl rfl rfl rfl HPUT.out.2.1 HPUT.out.2.2.1 HPUT.out.2.2.2 HR.out
            | exact HBAD.out _ _ _ _ rfl rfl rfl rfl HPUT.out.2.1 HPUT.out.2.2.1 HPUT.out.2.2.2.drew HR.out
            | exact HBAD.out _ _ _ _ rfl rfl rfl rfl HPUT.out.1.1 HPUT.out.1.2.1 HPUT.out.1.2.2.drew HR.out
      · have hl1' : ((l.length : Int) == 1) = false := by simp; omega
        rw [if_neg (by omega)] at hLP
        obtain ⟨g2, o2, e2, hg2', s1', s2', s3'⟩ := HSW.out.toks 1 (by omega)
        simp only [Option.some.injEq, Addr.mk.injEq, and_true] at e2
        obtain ⟨rfl, rfl⟩ := e2
        simp only [Nat.one_mul] at s1' s2' s3'
        have hln1 : (1 : Int) < (l.length : Int) := by omega
        generalize nthT l 1 = z at *
        obtain ⟨z1, z2, z3⟩ := z
        simp only at s1' s2' s3' hLP
        have tt3 := s3'
        have hg2 := hg1
        by_cases hz : z1 = 5
        · subst hz
          rw [if_neg (by simp)] at hLP
          by_cases hl2 : l.length = 2
          · have HR : Hid (R = noLine 72 (s.size : Int)) := by unfold lineO at hLP; rw [if_pos (by omega)] at hLP; exact hLP
            have hl2' : ((l.length : Int) == 2) = true := by simp; omega
            clear hLP hl2 HR1 s2' s3' tt3 hl1
            have hlw := HSW.out.lt
            have hsw := HSW.out.size
            obtain ⟨⟨u0, u1, u2, u3, fu⟩, ⟨p0, p1, fp⟩, ⟨z0, z1, z2, z3⟩, ⟨q0, q1⟩⟩ := HSW.out.cells
            have hput := HSW.out.put (.int .u16 0) (.int .u32 0) (.int .u32 0) (.slice none 0 0) (.int .i64 (72)) (.int .i64 ((s.size : Int))) (.cells #[.int .i64 (72), .int .i64 ((s.size : Int))] 29)
            have HPUT := hide hput
            have n1 : BE ≠ w.heap.size := by omega
            have n2 : BE ≠ w.heap.size + 1 := by omega
            have l0 : w.heap.size < X.heap.size := by omega
            have l1 : w.heap.size + 1 < X.heap.size := by omega
            have l2 : w.heap.size + 2 < X.heap.size := by omega
            clear hput hlw 
            go_wp2_with fail
            refine wp_norm ?_
            go_region
            all_goals
              rw [onNormal_normal]
              generalize ((((((X.setCell ⟨w.heap.size, 0, none⟩ (.int .u16 0)).setCell ⟨w.heap.size, 1, none⟩ (.int .u32 0)).setCell ⟨w.heap.size, 2, none⟩ (.int .u32 0)).setCell ⟨w.heap.size, 3, none⟩ (.slice none 0 0)).setCell ⟨w.heap.size + 1, 0, none⟩ (.int .i64 (72))).setCell ⟨w.heap.size + 1, 1, none⟩ (.int .i64 ((s.size : Int)))) = X at *
              go_wp2_with fail
              first
                | exact HBAD.out _ _ _ _ rfl rfl rfl rfl HPUT.out.1.1 HPUT.out.1.2.1 HPUT.out.1.2.2 HR.out
                | exact HBAD.out _ _ _ _ rfl rfl rfl rfl HPUT.out.2.1 HPUT.out.2.2.1 HPUT.out.2.2.2 HR.out
                | exact HBAD.out _ _ _ _ rfl rfl rfl rfl HPUT.out.2.1 HPUT.out.2.2.1 HPUT.out.2.2.2.drew HR.out
                | exact HBAD.out _ _ _ _ rfl rfl rfl rfl HPUT.out.1.1 HPUT.out.1.2.1 HPUT.out.1.2.2.drew HR.out
          · have hl2' : ((l.length : Int) == 2) = false := by simp; omega
            have HJR := hide hLP
            clear hLP
            go_wp2_with fail
            refine HK8.out _ _ ?_
            refine cut_done rfl ?_
            exact ⟨trivial, _, c1, BE, 2, true, ⟨_, rfl, rfl, rfl, rfl, rfl, rfl, rfl, rfl, rfl, rfl, rfl⟩, HSW.out, by omega, by rw [HY0.out]; rfl, HJR.out⟩
        · have hz' : (z1 != 5) = true := by simpa using hz
          have HR : Hid (R = noLine 70 z3) := by rw [if_pos (by simpa using hz)] at hLP; exact hLP
          clear hLP hz HR1 hl1
          have hlw := HSW.out.lt
          have hsw := HSW.out.size
          have LN : Hid (∀ w', LeafC w X w' → w'.cell? ⟨w.heap.size + 2, 0, none⟩ = some (.int .u16 0) ∧ w'.cell? ⟨w.heap.size + 2, 1, none⟩ = some (.int .u32 0) ∧ w'.cell? ⟨w.heap.size + 2, 2, none⟩ = some (.int .u32 0) ∧ w'.cell? ⟨w.heap.size + 2, 3, none⟩ = some (.slice none 0 0) ∧ w'.cell? ⟨g1, o1 + 3 + 2, none⟩ = some (.int .i64 (z3))) := fun w' h => by
            obtain ⟨_, _, ⟨z0, z1, z2, z3⟩, _⟩ := HSW.out.cells
            exact ⟨h.aside.cell (by omega) (by omega) (by omega) z0, h.aside.cell (by omega) (by omega) (by omega) z1, h.aside.cell (by omega) (by omega) (by omega) z2, h.aside.cell (by omega) (by omega) (by omega) z3, h.aside.cell hg2 HNG.out.1 HNG.out.2 tt3⟩
          have hC0 := LeafC.start HSW.out
          clear hlw hsw
          go_wp2_with fail
          rename_i Kr hKr
          have HKR := hide hKr
          clear hKr
          have key : ∀ (u : Array Value) (Xr : World), u.getD 4 undef = .pointer (some ⟨w.heap.size, 0, none⟩) → u.getD 5 undef = .bool false → u.getD 6 undef = .pointer (some ⟨w.heap.size + 1, 0, none⟩) → LeafC w X Xr → Xr.heap[w.heap.size + 1]? = some (.cells #[.int .i64 (70), .int .i64 (z3)] 29 (0, 0)) → Kr { tmps := u, defers := [] } Xr := by
            intro u Xr h4 h5 h6 hX hx
            refine HKR.out _ _ ?_
            have HX := hide hX
            have Hx := hide hx
            clear hX hx hC0
            go_wp2_with fail
            exact HBAD.out _ Xr _ _ h4 h5 h6 rfl HX.out.res Hx.out HX.out.bel HR.out
          have KEY := hide key
          clear key HKR
          have hmix : Tryz.prog.follows .mixedOrders = true := by kernel_rfl
          refine (wpIn_wide (n := 0)).1 ?_
          refine wpIn_normal (wpIn_region_any hmix (wpAnyC_sound (C := LeafC w X) _ _ _ _ ?_))
          change wpAnyC _ _ _ _ _ _ _ _ _ _ (World.drew _)
          refine wpAnyC_takeD (i := 0) (some 60) (v := .agg #[.int .u16 0, .int .u32 0, .int .u32 0, .slice none 0 0]) (fun _ => trivial) (by kernel_rfl) rfl rfl (by kernel_rfl) (by kernel_rfl) (by kernel_rfl) (fun _ _ _ h => by cases h.1) hC0 (Or.inl ⟨by kernel_rfl, fun w' hC => by obtain ⟨b0, b1, b2, b3, _⟩ := LN.out w' hC; clear hC; go_simp⟩) ?_
          simp only [Act.put, List.setIfInBounds_toArray, List.set_cons_succ, List.set_cons_zero]
          refine wpAnyC_takeD (i := 1) (some 61) (v := .slice (some ⟨g1, o1, none⟩) l.length c1) (fun _ => trivial) (by kernel_rfl) rfl rfl (by kernel_rfl) (by kernel_rfl) (by kernel_rfl) (fun _ _ _ h => by cases h.1) hC0 (Or.inl ⟨by kernel_rfl, fun w' hC => by clear hC; go_simp⟩) ?_
          simp only [Act.put, List.setIfInBounds_toArray, List.set_cons_succ, List.set_cons_zero]
          refine wpAnyC_takeD (i := 2) (some 62) (v := .pointer (some ⟨g1, o1 + 3, none⟩)) (fun _ => trivial) (by kernel_rfl) rfl rfl (by kernel_rfl) (by kernel_rfl) (by kernel_rfl) (fun _ _ _ h => by cases h.1) hC0 (Or.inl ⟨by kernel_rfl, fun w' hC => by clear hC; go_simp⟩) ?_
          simp only [Act.put, List.setIfInBounds_toArray, List.set_cons_succ, List.set_cons_zero]
          refine wpAnyC_takeD (i := 3) (some 63) (v := .pointer (some ⟨g1, o1 + 3 + 2, none⟩)) (fun _ => trivial) (by kernel_rfl) rfl rfl (by kernel_rfl) (by kernel_rfl) (by kernel_rfl) (fun _ _ _ h => by cases h.1) hC0 (Or.inl ⟨by kernel_rfl, fun w' hC => by clear hC; go_simp⟩) ?_
          simp only [Act.put, List.setIfInBounds_toArray, List.set_cons_succ, List.set_cons_zero]
          refine wpAnyC_takeD (i := 4) (some 64) (v := .int .i64 (z3)) (fun _ => trivial) (by kernel_rfl) rfl rfl (by kernel_rfl) (by kernel_rfl) (by kernel_rfl) (fun _ _ _ h => by cases h.1) hC0 (Or.inl ⟨by kernel_rfl, fun w' hC => by obtain ⟨_, _, _, _, b4⟩ := LN.out w' hC; clear hC; go_simp⟩) ?_
          simp only [Act.put, List.setIfInBounds_toArray, List.set_cons_succ, List.set_cons_zero]
          refine wpAnyC_ready (rs := [5]) (by kernel_rfl) (by simp) ?_
          refine AllC.cons rfl (fun K hK => ?_) AllC.nil
          go_simp
          refine ⟨trivial, rfl, (callsIn_wide.2 (refSpot_exact _ _ _)).mono ?_⟩
          rintro x w5 ⟨rfl, hw5⟩
          dsimp only
          have hC5 : LeafC w X w5 := by rw [hw5]; exact hC0.alloc _
          clear hw5
          refine hK _ _ hC5 ?_
          clear hK K
          refine wpAnyC_ready (rs := [6]) (by kernel_rfl) (by simp) ?_
          refine AllC.cons rfl (fun K hK => ?_) AllC.nil
          obtain ⟨⟨c0, c1, c2, c3, cf⟩, _⟩ := hC5.cells
          go_simp
          refine hK _ _ (hC5).zero.1 ?_
          clear hK K c0 c1 c2 c3 cf
          refine wpAnyC_takeD (i := 7) (some 5) (v := .bool false) (fun _ => trivial) (by kernel_rfl) rfl rfl (by kernel_rfl) (by kernel_rfl) (by kernel_rfl) (fun _ _ _ h => by cases h.1) hC5.zero.1 (Or.inl ⟨by kernel_rfl, fun w' hC => by clear hC; go_simp⟩) ?_
          simp only [Act.put, List.setIfInBounds_toArray, List.set_cons_succ, List.set_cons_zero]
          refine wpAnyC_ready (rs := [8]) (by kernel_rfl) (by simp) ?_
          refine AllC.cons rfl (fun K hK => ?_) AllC.nil
          obtain ⟨_, y0, y1, s0, s1, sf⟩ := hC5.cells
          go_simp
          refine hK _ _ ((hC5.zero.1).put (.int .i64 (70)) (.int .i64 (z3))).1 ?_
          clear hK K s0 s1 sf
          have hF1 := hide (hC5.zero.1.put (.int .i64 (70)) (.int .i64 (z3))).1
          have hF2 := hide (hC5.zero.1.put (.int .i64 (70)) (.int .i64 (z3))).2
          clear hC0 hC5 LN
          refine wpAnyC_done (by kernel_rfl) ⟨rfl, ?_⟩ _
          rw [then_normal]
          generalize ((((((w5.setCell ⟨w.heap.size, 0, none⟩ (.int .u16 0)).setCell ⟨w.heap.size, 1, none⟩ (.int .u32 0)).setCell ⟨w.heap.size, 2, none⟩ (.int .u32 0)).setCell ⟨w.heap.size, 3, none⟩ (.slice none 0 0)).setCell ⟨w.heap.size + 1, 0, none⟩ (.int .i64 (70))).setCell ⟨w.heap.size + 1, 1, none⟩ (.int .i64 (z3))) = XX at *
          exact KEY.out _ XX rfl rfl rfl hF1.out hF2.out
    · have hsd' : (y1 == 2) = false := by simpa using hsd
      have HJR : Hid (R = lineO false l 0 (s.size : Int) b) := by have := HR1.out; unfold lineP at this; rw [HY0.out, if_pos (by simpa using hsd)] at this; exact this
      go_wp2_with fail
      rw [hsd']
      refine HK8.out _ _ ?_
      refine cut_done rfl ?_
      exact ⟨trivial, _, c1, BE, 0, false, ⟨_, rfl, rfl, rfl, rfl, rfl, rfl, rfl, rfl, rfl, rfl, rfl⟩, HSW.out, HL0.out, by rw [HY0.out]; exact hsd'.symm, HJR.out⟩
  · have HR : Hid (R = noLine er at_) := by
      have := HHR.out
      rw [if_pos] at this
      · exact this
      · by_cases h : er = 0
        · right; exact Classical.byContradiction fun h2 => hE ⟨h, h2⟩
        · exact .inl h
    by_cases her : er = 0
    · have hl0 : l = [] := Classical.byContradiction fun h2 => hE ⟨her, h2⟩
      subst her
      subst hl0
      clear hE
      simp only [List.length_nil] at *
      obtain ⟨j1, j2, j3, j4, j5⟩ := HQ.out
      obtain ⟨cu, fu⟩ := blk_cells j2
      obtain ⟨cp, fp⟩ := blk_cells j3
      obtain ⟨cz, _⟩ := blk_cells j4
      have u0 := cu 0
      have u1 := cu 1
      have u2 := cu 2
      have u3 := cu 3
      have p0 := cp 0
      have p1 := cp 1
      have z0 := cz 0
      have z1 := cz 1
      have z2 := cz 2
      have z3 := cz 3
      obtain ⟨r1, r2, r3⟩ := six_drew j2 j3 (.int .u16 0) (.int .u32 0) (.int .u32 0) (.slice none 0 0) (.int .i64 0) (.int .i64 at_)
      have HY := hide (And.intro r1 (And.intro r2 (j1.trans r3)))
      have n1 : BS ≠ w.heap.size := by omega
      have n2 : BS ≠ w.heap.size + 1 := by omega
      clear j1 j2 j3 j4 j5 cu cp cz r1 r2 r3 HQ HHR
      go_wp2_with fail
      refine wp_norm ?_
      go_region
      all_goals
        rw [onNormal_normal]
        generalize ((((((W2.setCell ⟨w.heap.size, 0, none⟩ (.int .u16 0)).setCell ⟨w.heap.size, 1, none⟩ (.int .u32 0)).setCell ⟨w.heap.size, 2, none⟩ (.int .u32 0)).setCell ⟨w.heap.size, 3, none⟩ (.slice none 0 0)).setCell ⟨w.heap.size + 1, 0, none⟩ (.int .i64 0)).setCell ⟨w.heap.size + 1, 1, none⟩ (.int .i64 at_)).drew = X at *
        go_wp2_with fail
        exact HBAD.out _ X 0 at_ rfl rfl rfl rfl HY.out.1 HY.out.2.1 HY.out.2.2 HR.out
    · have her' : (er != 0) = true := by simpa using her
      clear hE her
      obtain ⟨j1, j2, j3, j4, j5⟩ := HQ.out
      obtain ⟨cu, fu⟩ := blk_cells j2
      obtain ⟨cp, fp⟩ := blk_cells j3
      obtain ⟨cz, _⟩ := blk_cells j4
      have u0 := cu 0
      have u1 := cu 1
      have u2 := cu 2
      have u3 := cu 3
      have p0 := cp 0
      have p1 := cp 1
      have z0 := cz 0
      have z1 := cz 1
      have z2 := cz 2
      have z3 := cz 3
      obtain ⟨r1, r2, r3⟩ := six_drew j2 j3 (.int .u16 0) (.int .u32 0) (.int .u32 0) (.slice none 0 0) (.int .i64 er) (.int .i64 at_)
      have HY := hide (And.intro r1 (And.intro r2 (j1.trans r3)))
      have n1 : BS ≠ w.heap.size := by omega
      have n2 : BS ≠ w.heap.size + 1 := by omega
      clear j1 j2 j3 j4 j5 cu cp cz r1 r2 r3 HQ HHR
      go_wp2_with fail
      refine wp_norm ?_
      go_region
      all_goals
        rw [onNormal_normal]
        generalize ((((((W2.setCell ⟨w.heap.size, 0, none⟩ (.int .u16 0)).setCell ⟨w.heap.size, 1, none⟩ (.int .u32 0)).setCell ⟨w.heap.size, 2, none⟩ (.int .u32 0)).setCell ⟨w.heap.size, 3, none⟩ (.slice none 0 0)).setCell ⟨w.heap.size + 1, 0, none⟩ (.int .i64 er)).setCell ⟨w.heap.size + 1, 1, none⟩ (.int .i64 at_)).drew = X at *
        go_wp2_with fail
        exact HBAD.out _ X er at_ rfl rfl rfl rfl HY.out.1 HY.out.2.1 HY.out.2.2 HR.out

/-- What Line of the document's answer returns. -/
theorem refLine7_any (s : ByteArray) (b : Int) (w : World) (hs : s.size ≤ 16777216) (hb0 : 0 ≤ b) (hb1 : b < 4294967296) :
    Calls Tryz.prog 8 #[.string s, .int .u32 b] w fun e w' => ∃ ax m cx, e = .returned (.tuple #[instV (lineS s b).1 ax m cx, .bool (lineS s b).2.1, .agg #[.int .i64 (lineS s b).2.2.1, .int .i64 (lineS s b).2.2.2]]) ∧ w'.ownsRow w.heap.size 63 3 (.slice ax m cx) m ((lineS s b).1.2.2.2.flatMap argC) ∧ (lineS s b).1.2.2.2.length = m ∧ Below w.heap.size w w' := by
  obtain ⟨g1, _, g3, g4, _⟩ := toks_good (strI_within s) 0
  have hIn := toksIn_of (l := (toksP (strI s) 0).1) (n := (strI s).length) (by rw [strI_len]; omega) g4
  rw [strI_len] at g3
  have hn : (toksP (strI s) 0).1.length ≤ 16777216 := by omega
  obtain ⟨R, hR⟩ : ∃ R, R = lineS s b := ⟨_, rfl⟩
  rw [← hR]
  have hbad : LnBad w R (bodyPost Tryz.prog Tryz.f8 fun e w' => ∃ ax m cx, e = .returned (.tuple #[instV R.1 ax m cx, .bool R.2.1, .agg #[.int .i64 R.2.2.1, .int .i64 R.2.2.2]]) ∧ w'.ownsRow w.heap.size 63 3 (.slice ax m cx) m (R.1.2.2.2.flatMap argC) ∧ R.1.2.2.2.length = m ∧ Below w.heap.size w w') := by
    intro a' w' E P q4 q5 q6 q7 k1 k2 k3 k4
    obtain ⟨c, _⟩ := blk_cells k1
    obtain ⟨d, _⟩ := blk_cells k2
    have c0 := c 0
    have c1 := c 1
    have c2 := c 2
    have c3 := c 3
    have d0 := d 0
    have d1 := d 1
    refine bodyPost_ret (v := .tuple #[.agg #[.int .u16 0, .int .u32 0, .int .u32 0, .slice none 0 0], .bool false, .agg #[.int .i64 E, .int .i64 P]]) ?_ q7 ?_
    · simp only [results, Tryz.results8]
      have q4' : a'.tmps[4]?.getD undef = .pointer (some ⟨w.heap.size, 0, none⟩) := by rw [← Array.getD_eq_getD_getElem?]; exact q4
      have q5' : a'.tmps[5]?.getD undef = .bool false := by rw [← Array.getD_eq_getD_getElem?]; exact q5
      have q6' : a'.tmps[6]?.getD undef = .pointer (some ⟨w.heap.size + 1, 0, none⟩) := by rw [← Array.getD_eq_getD_getElem?]; exact q6
      simp [go_sem, q4', q5', q6', c0, c1, c2, c3, d0, d1]
    · rw [k4]
      exact ⟨none, 0, 0, rfl, World.ownsRow_nil _ _ _ _, rfl, k3⟩
  have hgood : LnOk w R (bodyPost Tryz.prog Tryz.f8 fun e w' => ∃ ax m cx, e = .returned (.tuple #[instV R.1 ax m cx, .bool R.2.1, .agg #[.int .i64 R.2.2.1, .int .i64 R.2.2.2]]) ∧ w'.ownsRow w.heap.size 63 3 (.slice ax m cx) m (R.1.2.2.2.flatMap argC) ∧ R.1.2.2.2.length = m ∧ Below w.heap.size w w') := by
    intro a' w' x ax m cx q4 q5 q6 q7 k1 k2 k3 k4 k5 k6
    obtain ⟨c, _⟩ := blk_cells k1
    obtain ⟨d, _⟩ := blk_cells k2
    have c0 := c 0
    have c1 := c 1
    have c2 := c 2
    have c3 := c 3
    have d0 := d 0
    have d1 := d 1
    refine bodyPost_ret (v := .tuple #[.agg #[.int .u16 x.1, .int .u32 x.2.1, .int .u32 x.2.2.1, .slice ax m cx], .bool true, .agg #[.int .i64 0, .int .i64 0]]) ?_ q7 ?_
    · simp only [results, Tryz.results8]
      have q4' : a'.tmps[4]?.getD undef = .pointer (some ⟨w.heap.size, 0, none⟩) := by rw [← Array.getD_eq_getD_getElem?]; exact q4
      have q5' : a'.tmps[5]?.getD undef = .bool true := by rw [← Array.getD_eq_getD_getElem?]; exact q5
      have q6' : a'.tmps[6]?.getD undef = .pointer (some ⟨w.heap.size + 1, 0, none⟩) := by rw [← Array.getD_eq_getD_getElem?]; exact q6
      simp [go_sem, q4', q5', q6', c0, c1, c2, c3, d0, d1]
    · rw [k6]
      exact ⟨ax, m, cx, rfl, own_mono7 k4 (by omega), k5, k3⟩
  go_enter Tryz.func8, Tryz.ntmps8
  exact line_start s b w R _ hs hR hbad hbad (fun a1 w1 _ hJ => line_op s b w _ R _ hn hIn g1 hb0 hb1 hbad (fun a2 w2 h2 => line_type s b w _ R _ hn hIn g1 hb0 hb1 hbad (fun a3 w3 h3 => line_args s b w _ R _ hn hIn g1 hb0 hb1 hbad (fun a4 w4 h4 => line_fits s b w _ R _ hn hIn hbad hgood a4 w4 h4) a3 w3 h3) a2 w2 h2) a1 w1 hJ) _ rfl rfl rfl

end Go.Proofs.YtbkkmabmkonnbaaGreat

/-
  What the bound of an upto statement gives of a slice that is the first argument.
-/
namespace Go.Proofs.YtbkkmabmkonnbaaGreat

theorem bulk_one {H : Type} : ∀ d : DataW H, 0 < Rows.uptoBulk d
  | .lit l => by cases l <;> simp [Rows.uptoBulk]
  | .nil => by simp [Rows.uptoBulk]
  | .ptr _ => by simp [Rows.uptoBulk]
  | .slice _ _ => by simp [Rows.uptoBulk]
  | .agg _ => by simp [Rows.uptoBulk]
  | .iface _ _ => by simp [Rows.uptoBulk]
  | .map _ => by simp [Rows.uptoBulk]
  | .held _ => by simp [Rows.uptoBulk]
theorem bulk_all {H : Type} : ∀ l : List (DataW H), l.length ≤ Rows.uptoBulkAll l
  | [] => by simp [Rows.uptoBulkAll]
  | d :: l => by
    have h1 := bulk_one d
    have h2 := bulk_all l
    simp only [Rows.uptoBulkAll, List.length_cons]; omega
theorem bulk_slice {H : Type} {es sp rest : List (DataW H)} (h : Rows.uptoSmall H (.slice es sp :: rest) = true) : es.length + sp.length ≤ 1048576 := by
  have h0 : Rows.uptoBulkAll (DataW.slice es sp :: rest) ≤ 1048576 := of_decide_eq_true h
  have h1 := bulk_all es
  have h2 := bulk_all sp
  simp only [Rows.uptoBulkAll, Rows.uptoBulk] at h0
  omega

theorem bulk_part {H : Type} {d : DataW H} : ∀ {l : List (DataW H)}, d ∈ l → Rows.uptoBulk d ≤ Rows.uptoBulkAll l
  | [], h => by cases h
  | x :: l, h => by
    simp only [Rows.uptoBulkAll]
    rcases List.mem_cons.1 h with e | h
    · subst e; omega
    · have := bulk_part h; omega

theorem bulk_at {H : Type} {es sp l : List (DataW H)} (h : Rows.uptoSmall H l = true) (hm : DataW.slice es sp ∈ l) : es.length + sp.length ≤ 1048576 := by
  have h0 : Rows.uptoBulkAll l ≤ 1048576 := of_decide_eq_true h
  have h1 := bulk_all es
  have h2 := bulk_all sp
  have h3 := bulk_part hm
  simp only [Rows.uptoBulk] at h3
  omega

theorem bulk_str {H : Type} {s : ByteArray} {l : List (DataW H)} (h : Rows.uptoSmall H l = true) (hm : DataW.lit (.string s.data.toList) ∈ l) : s.size ≤ 1048576 := by
  have h0 : Rows.uptoBulkAll l ≤ 1048576 := of_decide_eq_true h
  have h3 := bulk_part hm
  simp only [Rows.uptoBulk, Array.length_toList] at h3
  have : s.data.size = s.size := rfl
  omega

end Go.Proofs.YtbkkmabmkonnbaaGreat

/-
  AsmLines is true for every line of at most 1048576 bytes and every bound.
-/
namespace Go.Proofs.YtbkkmabmkonnbaaGreat
open Go.RowKit
set_option linter.unusedVariables false
set_option linter.unusedSimpArgs false
set_option maxRecDepth 10000

theorem lineA_none {o : Int} {f : Frm} {t r : Int} {l : List TokT} {at_ : Nat} {len b : Int} (h : (lineA o f t r l at_ len b).2.1 = false) : (lineA o f t r l at_ len b).1 = noInst := by
  unfold lineA at h ⊢
  split at h
  · rfl
  · rename_i h0
    split at h
    · rename_i h1; simp only [h1, if_true]; rfl
    · rename_i h1
      split at h
      · rename_i h2; simp only [h1, h2, if_true, if_false]; rfl
      · cases h
theorem lineT_none {o : Int} {f : Frm} {r : Int} {l : List TokT} {at_ : Nat} {len b : Int} (h : (lineT o f r l at_ len b).2.1 = false) : (lineT o f r l at_ len b).1 = noInst := by
  unfold lineT at h ⊢
  by_cases h1 : f.2.1 = false
  · rw [if_pos h1] at h ⊢; exact lineA_none h
  · rw [if_neg h1] at h ⊢
    by_cases h2 : l.length ≤ at_
    · rw [if_pos h2]; rfl
    · rw [if_neg h2] at h ⊢
      by_cases h3 : argE 105 (nthT l at_) b ≠ 0
      · rw [if_pos h3]; rfl
      · rw [if_neg h3] at h ⊢; exact lineA_none h
theorem lineO_none {said : Bool} {l : List TokT} {at_ : Nat} {len b : Int} (h : (lineO said l at_ len b).2.1 = false) : (lineO said l at_ len b).1 = noInst := by
  unfold lineO at h ⊢
  by_cases h1 : l.length ≤ at_
  · rw [if_pos h1]; rfl
  · rw [if_neg h1] at h ⊢
    by_cases h2 : (nthT l at_).1 ≠ 1
    · rw [if_pos h2]; rfl
    · rw [if_neg h2] at h ⊢
      cases ho : opsL.find? (namP (nthT l at_).2.1) with
      | none => rfl
      | some o =>
        rw [ho] at h
        simp only at h ⊢
        by_cases h3 : (opF o).2.2.1 ≠ said
        · rw [if_pos h3]; rfl
        · rw [if_neg h3] at h ⊢
          by_cases h4 : said = true ∧ idP (nthT l 0).2.1 b ≠ 0
          · rw [if_pos h4]; rfl
          · rw [if_neg h4] at h ⊢; exact lineT_none h
theorem lineS_none {s : ByteArray} {b : Int} (h : (lineS s b).2.1 = false) : (lineS s b).1 = noInst := by
  unfold lineS at h ⊢
  by_cases h1 : (toksP (strI s) 0).2.1 ≠ 0 ∨ (toksP (strI s) 0).1 = []
  · rw [if_pos h1]; rfl
  · rw [if_neg h1] at h ⊢
    unfold lineP at h ⊢
    by_cases h2 : (nthT (toksP (strI s) 0).1 0).1 ≠ 2
    · rw [if_pos h2] at h ⊢; exact lineO_none h
    · rw [if_neg h2] at h ⊢
      by_cases h3 : (toksP (strI s) 0).1.length < 2
      · rw [if_pos h3]; rfl
      · rw [if_neg h3] at h ⊢
        by_cases h4 : (nthT (toksP (strI s) 0).1 1).1 ≠ 5
        · rw [if_pos h4]; rfl
        · rw [if_neg h4] at h ⊢; exact lineO_none h

set_option maxHeartbeats 4000000 in
theorem asmLines_true (w : World) (s : ByteArray) (b : Int) (hs : s.size ≤ 16777216) (hb0 : 0 ≤ b) (hb1 : b < 4294967296) :
    Calls Tryz.prog 3 #[.string s, .int .u32 b] w fun e w' => e = .returned (.bool true) ∧ Below w.heap.size w w' := by
  have hL := fun wx => refLine7_any s b wx hs hb0 hb1
  have hA := fun wx => asmLine_any s b wx (by omega)
  have hno := fun h => lineS_none (s := s) (b := b) h
  generalize lineS s b = R at *
  obtain ⟨x, is, E, P⟩ := R
  unfold LineQ at hA
  unfold instV at hL hA
  simp only at hL hA hno
  obtain ⟨xo, xt, xr, xl⟩ := x
  simp only at hL hA
  have HNO := hide hno
  clear hno
  go_enter Tryz.func3, Tryz.ntmps3
  go_wp2_with fail
  refine (hL _).mono ?_
  rintro e w1 ⟨a1, m1, c1, rfl, hrow1, hm1, hb1'⟩
  have hba1 : Below w1.heap.size w1 ((w1.alloc (.cells #[.int .u16 xo, .int .u32 xt, .int .u32 xr, .slice a1 m1 c1] 26)).alloc (.cells #[.int .i64 E, .int .i64 P] 29)) := ((Below.refl _ w1).alloc (Nat.le_refl _) _).alloc (by simp) _
  have kI1 : ((w1.alloc (.cells #[.int .u16 xo, .int .u32 xt, .int .u32 xr, .slice a1 m1 c1] 26)).alloc (.cells #[.int .i64 E, .int .i64 P] 29)).heap[w1.heap.size]? = some (.cells #[.int .u16 xo, .int .u32 xt, .int .u32 xr, .slice a1 m1 c1] 26 (0, 0)) := (Below.heap_alloc _ _ _ (by simp)).trans (heap_alloc_new w1 _)
  have kS1 : ((w1.alloc (.cells #[.int .u16 xo, .int .u32 xt, .int .u32 xr, .slice a1 m1 c1] 26)).alloc (.cells #[.int .i64 E, .int .i64 P] 29)).heap[w1.heap.size + 1]? = some (.cells #[.int .i64 E, .int .i64 P] 29 (0, 0)) := by simpa using heap_alloc_new (w1.alloc (.cells #[.int .u16 xo, .int .u32 xt, .int .u32 xr, .slice a1 m1 c1] 26)) (.cells #[.int .i64 E, .int .i64 P] 29)
  have HV1 := hide ((argsV_own7 hrow1 hm1).below hba1)
  have HB1 := hide (hb1'.trans (hba1.mono hb1'.size))
  have HI1 := hide kI1
  have HS1 := hide kS1
  clear hL hrow1 hb1' hba1 kI1 kS1
  go_wp2_with fail
  generalize (w1.alloc (.cells #[.int .u16 xo, .int .u32 xt, .int .u32 xr, .slice a1 m1 c1] 26)).alloc (.cells #[.int .i64 E, .int .i64 P] 29) = W1 at *
  refine (hA _).mono ?_
  rintro e w2 ⟨a2, m2, c2, rfl, hrow2, hm2, hb2, hgood⟩
  have sS1 := (Array.getElem?_eq_some_iff.1 HS1.out).1
  have hba2 : Below w2.heap.size w2 ((w2.alloc (.cells #[.int .u16 xo, .int .u32 xt, .int .u32 xr, .slice a2 m2 c2] 26)).alloc (.cells #[.int .i64 E, .int .i64 P] 29)) := ((Below.refl _ w2).alloc (Nat.le_refl _) _).alloc (by simp) _
  have hb2a := hb2.trans (hba2.mono hb2.size)
  have kI2 : ((w2.alloc (.cells #[.int .u16 xo, .int .u32 xt, .int .u32 xr, .slice a2 m2 c2] 26)).alloc (.cells #[.int .i64 E, .int .i64 P] 29)).heap[w2.heap.size]? = some (.cells #[.int .u16 xo, .int .u32 xt, .int .u32 xr, .slice a2 m2 c2] 26 (0, 0)) := (Below.heap_alloc _ _ _ (by simp)).trans (heap_alloc_new w2 _)
  have kS2 : ((w2.alloc (.cells #[.int .u16 xo, .int .u32 xt, .int .u32 xr, .slice a2 m2 c2] 26)).alloc (.cells #[.int .i64 E, .int .i64 P] 29)).heap[w2.heap.size + 1]? = some (.cells #[.int .i64 E, .int .i64 P] 29 (0, 0)) := by simpa using heap_alloc_new (w2.alloc (.cells #[.int .u16 xo, .int .u32 xt, .int .u32 xr, .slice a2 m2 c2] 26)) (.cells #[.int .i64 E, .int .i64 P] 29)
  have HV2 := hide ((argsV_own7 hrow2 hm2).below hba2)
  have HV12 := hide (HV1.out.below hb2a)
  have HB2 := hide (HB1.out.trans (hb2a.mono HB1.out.size))
  have HM := hide (And.intro hm1 hm2)
  have hlen : m1 ≤ 140737488351232 := by
    cases hi : is with
    | true => have := (hgood hi).1.2.2.2.2.2.2.2; simp only at this; omega
    | false =>
      have := HNO.out hi
      simp only [noInst, Prod.mk.injEq] at this
      rw [this.2.2.2] at hm1
      simp at hm1
      omega
  have HLEN : Hid (m1 ≤ 140737488351232 ∧ m2 ≤ 140737488351232) := ⟨hlen, by omega⟩
  have q1 := (hb2.block _ (by omega)).trans HI1.out
  have q2 := (hb2.block _ sS1).trans HS1.out
  obtain ⟨ci, _⟩ := blk_cells q1
  obtain ⟨cs, _⟩ := blk_cells q2
  have i0 := ci 0
  have i1 := ci 1
  have i2 := ci 2
  have i3 := ci 3
  have s0 := cs 0
  have s1 := cs 1
  have l1 : w1.heap.size < w2.heap.size := (Array.getElem?_eq_some_iff.1 q1).1
  have l2 : w1.heap.size + 1 < w2.heap.size := (Array.getElem?_eq_some_iff.1 q2).1
  have hK := kitInst_any (xo, xt, xr, xl) (xo, xt, xr, xl) a2 a1 m2 m1 c2 c1 _ HV2.out HV12.out HM.out.2 HM.out.1 HLEN.out.2 HLEN.out.1
  rw [show decide (((xo, xt, xr, xl) : InstT) = (xo, xt, xr, xl)) = true by exact decide_eq_true rfl] at hK
  unfold instV at hK
  simp only at hK
  clear hA hrow2 hb2 hba2 hb2a kI2 kS2 HV1 HB1 HI1 HS1 hgood hm1 hm2 ci cs q1 q2 hlen
  go_wp2_with fail
  refine hK.mono ?_
  rintro e w3 ⟨rfl, hb3⟩
  have HB3 := hide (HB2.out.trans (hb3.mono HB2.out.size))
  clear hK hb3
  go_wp2_with fail
  go_ret
  exact ⟨rfl, HB3.out⟩

theorem asmLines_upto (w : World) (s : ByteArray) (hs : s.size ≤ 140737488351232) (b : Int) (hb : (Lit.int .u32 b).wf = true) (hu : s.size ≤ 1048576) :
    Calls Tryz.prog 3 #[.string s, .int .u32 b] w fun e w' => e = .returned (.bool true) ∧ Below w.heap.size w w' := by
  have h := bounds_u32 hb
  exact asmLines_true w s b (by omega) (by omega) (by omega)

end Go.Proofs.YtbkkmabmkonnbaaGreat
