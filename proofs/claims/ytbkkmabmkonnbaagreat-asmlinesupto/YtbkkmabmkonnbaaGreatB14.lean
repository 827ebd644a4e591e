/-
  Texts laid together in one: AsmRead2, AsmRead, LexWords, LexBuilder, LexStep.
-/
import Derived.WalkSpells
import Derived.WalkMore
import Derived.BigRegion
import Derived.Deep.RegionWith
import Derived.OwnWalk
import Derived.Test.YtbkkmabmkonnbaaGreatProg
import Derived.Test.YtbkkmabmkonnbaaGreatB13
import Derived.Test.YtbkkmabmkonnbaaGreatB08
import Derived.Test.YtbkkmabmkonnbaaGreatB10
import Derived.Shelf.Strings.BuilderK
/-
  A reader's whole line, of the layer asm: the passes from its operation and from its arguments on.
-/
namespace Go.Proofs.YtbkkmabmkonnbaaGreat
open Go.RowKit
set_option linter.unusedVariables false
set_option linter.unusedSimpArgs false
set_option maxRecDepth 10000
attribute [local go_sem] jumps_normal jumps_exit jumps_ret jumps_panic jumps_goto onNormal_normal

set_option maxHeartbeats 4000000 in
theorem read_args (w : World) (B : Nat) (a : Option Addr) (n c : Nat) (len b : Int) (l : List TokT) (R : LineR) (Q : Exit → Act → World → Prop) (hB : B < w.heap.size) (hn : 32 * n ≤ 140737488351232)
    (hP : ∀ N a1 w1, ReadJ w B a n c len b l R 3 a1 w1 → ReadM B n 3 a1 w1 ≤ N → (behind (findLabel (scopeOf (Tryz.f29.body.getD .skip)) 3)).wp Tryz.prog (jumps (fun l' a' w' => ReadJ w B a n c len b l R l' a' w' ∧ ReadM B n l' a' w' < N) Q) a1 w1)
    (N : Nat) (a1 : Act) (w1 : World) (hJ : ReadJ w B a n c len b l R 1 a1 w1) (hN : ReadM B n 1 a1 w1 ≤ N) :
    (behind (findLabel (scopeOf (Tryz.f29.body.getD .skip)) 1)).wp Tryz.prog (jumps (fun l' a' w' => ReadJ w B a n c len b l R l' a' w' ∧ ReadM B n l' a' w' < N) Q) a1 w1 := by
  obtain ⟨k, o, t, r, ⟨f, rfl, hsz, h0, h2, h3, h4⟩, hS, hR, hkn, hH, hL⟩ := hJ
  have HN : Hid (n + 3 ≤ N) := by
    unfold ReadM at hN
    rw [if_neg (by omega), if_pos rfl] at hN
    exact hN
  clear hN
  conv => arg 2; whnf
  rw [frame111 f hsz, h0, h2, h3, h4]
  clear h0 h2 h3 h4 hsz
  obtain ⟨i0, hi, hz0, hz1, hz2⟩ := info_parts ArgI.info
  obtain ⟨w2, hrun, hown, hgrow⟩ := run_make_own (P := Tryz.prog) w1.drew (w.heap.size + 3) 24 63 i0 (.agg #[.int .u8 0, .int .u32 0, .string ⟨#[]⟩]) 3 Tryz.underlying24 hi hz0 hz1 .i64 .i64 (n - k) (by rw [hz2]; omega) (by unfold maxLen; omega) (by show w.heap.size + 3 ≤ w1.heap.size; have := hS.size; omega)
  have hb2 : Below w1.heap.size w1 w2 := ((below_drew w1).trans ((Below.refl _ w1.drew).grown hgrow (Nat.le_refl _) (by simp)))
  have HS2 := hide (hS.below hB hb2)
  have HR2 := hide (hR.below hb2)
  have HO2 := hide hown
  have HH := hide hH
  have HL := hide hL
  have c0 : w1.cell? ⟨B, 0, none⟩ = some (.slice a n c) := (blk_cells hR.block).1 0
  have c1 : w1.cell? ⟨B, 1, none⟩ = some (.int .i64 (k : Int)) := (blk_cells hR.block).1 1
  have d15 : w2.cell? ⟨B, 15, none⟩ = some (.slice none 0 0) := (blk_cells HR2.out.block).1 15
  have e15 : w2.frozen? ⟨B, 15, none⟩ = false := (blk_cells HR2.out.block).2 15
  have hsub : IntKind.i64.wrap ((n : Int) - (k : Int)) = ((n - k : Nat) : Int) := by rw [IntKind.wrap_i64]; omega
  generalize n - k = m at *
  have esz : w1.drew.heap.size = w1.heap.size := rfl
  rw [esz] at hrun HO2
  clear hown hgrow hb2 hS hR hH hL hi hz0 hz1 hz2 esz
  go_wp2_with fail
  refine wp_norm ?_
  go_region
  all_goals
    have HR3 := hide (HR2.out.setArgs (.slice (some ⟨w1.heap.size, 0, none⟩) 0 m))
    have HS3 := hide (HS2.out.setB hB 15 (.slice (some ⟨w1.heap.size, 0, none⟩) 0 m))
    have HO3 := hide (ownsRow_setCell_below HO2.out (a := ⟨B, 15, none⟩) (by simp; omega) (.slice (some ⟨w1.heap.size, 0, none⟩) 0 m))
    clear HR2 HS2 HO2 d15 e15 c0 c1 hrun hsub
    generalize w2.setCell ⟨B, 15, none⟩ (.slice (some ⟨w1.heap.size, 0, none⟩) 0 m) = Y at *
    rw [onNormal_normal]
    go_wp2_with fail
    refine wp_label ?_
    rename_i Kx hKx
    refine hKx _ _ (hP N _ Y ⟨k, 0, o, t, r, some ⟨w1.heap.size, 0, none⟩, m, ⟨_, rfl, rfl, rfl, rfl, rfl, rfl⟩, HS3.out, HR3.out, by omega, HH.out, HL.out, HO3.out, fun i hi => by omega⟩ ?_)
    unfold ReadM
    rw [if_neg (by omega), if_neg (by omega), if_pos rfl, HR3.out.pos]
    have := HN.out
    omega

/-- The spot's box is written. -/
theorem ReaS.spotted {w w1 : World} {B : Nat} (h : ReaS w B w1) (v0 v1 : Value) : ReaS w B ((w1.setCell ⟨w.heap.size + 2, 0, none⟩ v0).setCell ⟨w.heap.size + 2, 1, none⟩ v1) ∧
    ((w1.setCell ⟨w.heap.size + 2, 0, none⟩ v0).setCell ⟨w.heap.size + 2, 1, none⟩ v1).heap[w.heap.size + 2]? = some (.cells #[v0, v1] 29 (0, 0)) ∧
    Below (w.heap.size + 2) w1 ((w1.setCell ⟨w.heap.size + 2, 0, none⟩ v0).setCell ⟨w.heap.size + 2, 1, none⟩ v1) := by
  obtain ⟨y0, y1, hy⟩ := h.spot
  obtain ⟨g1, g2⟩ := two_putB hy v0 v1
  exact ⟨h.at2 g2 g1, g1, g2⟩

set_option maxHeartbeats 4000000 in
theorem read_op (w : World) (B : Nat) (a : Option Addr) (n c : Nat) (len b : Int) (l : List TokT) (R : LineR) (Q : Exit → Act → World → Prop) (hB : B < w.heap.size) (hl : l.length = n) (hn : 32 * n ≤ 140737488351232) (hin : ToksIn l) (hkd : ∀ t ∈ l, t.1 ≠ 0) (hv : ToksV w a l) (hfar : ∀ g off, a = some ⟨g, off, none⟩ → g ≠ B) (h1 : 0 < n) (hret : ReadRet w B a n c len b R Q)
    (hP : ∀ N a1 w1, ReadJ w B a n c len b l R 1 a1 w1 → ReadM B n 1 a1 w1 ≤ N → (behind (findLabel (scopeOf (Tryz.f29.body.getD .skip)) 1)).wp Tryz.prog (jumps (fun l' a' w' => ReadJ w B a n c len b l R l' a' w' ∧ ReadM B n l' a' w' < N) Q) a1 w1)
    (N : Nat) (a1 : Act) (w1 : World) (hJ : ReadJ w B a n c len b l R 0 a1 w1) (hN : ReadM B n 0 a1 w1 ≤ N) :
    (behind (findLabel (scopeOf (Tryz.f29.body.getD .skip)) 0)).wp Tryz.prog (jumps (fun l' a' w' => ReadJ w B a n c len b l R l' a' w' ∧ ReadM B n l' a' w' < N) Q) a1 w1 := by
  obtain ⟨k, ⟨f, rfl, hsz, h0, h2, h3, h4⟩, hS, hR, hkn, hL⟩ := hJ
  have HN : Hid (n + 4 ≤ N) := by
    unfold ReadM at hN
    rw [if_pos rfl] at hN
    exact hN
  clear hN
  conv => arg 2; whnf
  rw [frame111 f hsz, h0, h2, h3, h4]
  clear h0 h2 h3 h4 hsz
  have hOp := operation_any B a n c k len b 0 noFrm 0 0 (.slice none 0 0) 0 l w1 hR (toks_kept hv hS.grown hfar) hl hn hin hkn h1 hfar
  have HS := hide hS
  have HV := hide hv
  have HL := hide hL
  have HIN := hide hin
  have HKD := hide hkd
  have HFAR := hide hfar
  have HLL := hide hl
  have HRET := hide hret
  have HP := hide hP
  clear hS hv hL hin hkd hfar hl hret hR hP
  go_wp2_with fail
  refine hOp.mono ?_
  rintro x w2 ⟨E, P, rfl, hg2, hq2⟩
  have S2 := HS.out.next hB hg2
  obtain ⟨y0, y1, hy⟩ := S2.spot
  obtain ⟨cy, fy⟩ := blk_cells hy
  have by0 := cy 0
  have by1 := cy 1
  obtain ⟨S3, k3, b3⟩ := S2.spotted (.int .i64 E) (.int .i64 P)
  have HS3 := hide S3
  have HK3 := hide k3
  have HB3 := hide b3
  have HSZ := hide S2.size
  unfold OpA at hq2
  rcases hq2 with ⟨hE, hO⟩ | ⟨hE, hkn2, o, r, hO, hres, hRd⟩
  · have hE1 : (E != 0) = true := by simpa using hE
    have HR0 := hide (HL.out.trans hO)
    have HE0 := hide hE
    obtain ⟨cq, fq⟩ := blk_cells S2.res
    have r0 := cq 0
    have r1 := cq 1
    obtain ⟨x1, x2⟩ := two_putB S3.res (.int .i64 E) (.int .i64 P)
    have HG := hide (grown_put S3.grown x2)
    have HX1 := hide x1
    clear hOp S2 hy cy cq S3 k3 b3 x1 x2 hE hO hg2 HS HB3
    go_wp2_with fail
    generalize (((w2.setCell ⟨w.heap.size + 2, 0, none⟩ (.int .i64 E)).setCell ⟨w.heap.size + 2, 1, none⟩ (.int .i64 P)).setCell ⟨w.heap.size, 0, none⟩ (.int .i64 E)).setCell ⟨w.heap.size, 1, none⟩ (.int .i64 P) = Z at *
    rw [jumps_ret]
    exact HRET.out _ Z E P rfl rfl HX1.out HG.out (.inl ⟨HE0.out, HR0.out⟩)
  · subst hE
    have HR0 := hide (HL.out.trans hO)
    have HRES := hide hres
    have HRD := hide (hRd.belowAt b3 (by omega))
    have c6 : w2.cell? ⟨B, 6, none⟩ = some (.bool (opF o).2.1) := (blk_cells hRd.block).1 6
    have nB : B ≠ w.heap.size + 2 := by omega
    have HKN := hide hkn2
    clear hO hres hRd HL hOp S2 hy cy S3 k3 b3 hg2 HS hkn2
    generalize hty : (opF o).2.1 = ty at c6
    cases ty
    · have HJ := hide (show HeadOk o 0 r b from ⟨HRES.out, by rw [hty]; simp [idE], by omega, by omega⟩)
      have HR1 := hide (HR0.out.trans (show lineT o (opF o) r l (k + 1) len b = _ by unfold lineT; rw [if_pos hty]))
      clear hty
      go_wp2_with fail
      go_step3
      generalize (w2.setCell ⟨w.heap.size + 2, 0, none⟩ (.int .i64 0)).setCell ⟨w.heap.size + 2, 1, none⟩ (.int .i64 P) = X at *
      refine ⟨⟨k + 1, o, 0, r, ⟨_, rfl, rfl, rfl, rfl, rfl, rfl⟩, HS3.out, HRD.out, HKN.out, HJ.out, HR1.out⟩, ?_⟩
      have := HN.out
      show n + 3 < N
      omega
    · have HTY := hide hty
      clear hty
      go_wp2_with fail
      generalize (w2.setCell ⟨w.heap.size + 2, 0, none⟩ (.int .i64 0)).setCell ⟨w.heap.size + 2, 1, none⟩ (.int .i64 P) = X at *
      clear by0 by1 fy c6
      have hArg := argument_any B a n c (k + 1) len b _ 105 l X HRD.out (toks_kept HV.out HS3.out.grown HFAR.out) HLL.out hn HIN.out HKD.out HKN.out
      obtain ⟨A, hA⟩ : ∃ A, A = argQ 105 l (k + 1) len b := ⟨_, rfl⟩
      rw [← hA] at hArg
      have HA := hide hA
      clear hA
      obtain ⟨⟨A1, A2, A3⟩, E, PP⟩ := A
      unfold argV at hArg
      simp only at hArg
      refine hArg.mono ?_
      rintro x w4 ⟨rfl, hg4, hr4⟩
      have S4 := HS3.out.next hB hg4
      obtain ⟨x0, x1, x2, hx⟩ := S4.box
      obtain ⟨y0, y1, hy⟩ := S4.spot
      obtain ⟨cx1, fx1⟩ := blk_cells hx
      obtain ⟨cy1, fy1⟩ := blk_cells hy
      have bx0 := cx1 0
      have bx1 := cx1 1
      have bx2 := cx1 2
      have by0 := cy1 0
      have by1 := cy1 1
      obtain ⟨S5, k5, p5, b5, _⟩ := S4.wrote (.int .u8 A1) (.int .u32 A2) (.string A3) (.int .i64 E) (.int .i64 PP)
      have HS5 := hide S5
      have HK5 := hide k5
      have hbad : E ≠ 0 → R = noLine E PP := fun hE => by
        have hh := HA.out
        unfold argQ at hh
        rw [HR0.out]
        unfold lineT
        rw [if_neg (by rw [HTY.out]; simp)]
        by_cases hq : l.length ≤ k + 1
        · rw [if_pos hq] at hh ⊢
          simp only [Prod.mk.injEq] at hh
          rw [hh.2.1, hh.2.2]
        · rw [if_neg hq] at hh ⊢
          by_cases hz : argE 105 (nthT l (k + 1)) b = 0
          · rw [if_neg (by simpa using hz)] at hh
            simp only [Prod.mk.injEq] at hh
            exact absurd hh.2.1 hE
          · rw [if_pos hz] at hh ⊢
            simp only [Prod.mk.injEq] at hh
            rw [hh.2.1, hh.2.2]
      have hgood : E = 0 → k + 1 < n ∧ HeadOk o A2 r b ∧ R = lineA o (opF o) A2 r l (k + 2) len b := fun hE => by
        have hh := HA.out
        unfold argQ at hh
        have hR0 := HR0.out
        unfold lineT at hR0
        rw [if_neg (by rw [HTY.out]; simp)] at hR0
        by_cases hq : l.length ≤ k + 1
        · rw [if_pos hq] at hh
          simp only [Prod.mk.injEq] at hh
          omega
        · rw [if_neg hq] at hh hR0
          by_cases hz : argE 105 (nthT l (k + 1)) b = 0
          · rw [if_neg (by simpa using hz)] at hh hR0
            simp only [Prod.mk.injEq] at hh
            obtain ⟨q1, q2, q3, q4⟩ := arg_id hz
            have eA : (argA 105 (nthT l (k + 1)) b).2.1 = A2 := by rw [← hh.1]
            rw [eA] at q1 q2 q3 hR0
            exact ⟨by have := HLL.out; omega, ⟨HRES.out, by rw [HTY.out]; exact q1, q2, q3⟩, hR0⟩
          · rw [if_pos hz] at hh
            simp only [Prod.mk.injEq] at hh
            exact absurd (hh.2.1.symm.trans hE) hz
      by_cases hE0 : E = 0
      · subst hE0
        have HGD := hide (hgood rfl)
        have hrd4 : Rea w4 B a n c (k + 2) len b o (opF o) o 0 r (.slice none 0 0) 0 := hr4 rfl
        have d13 : w4.cell? ⟨B, 13, none⟩ = some (.int .u32 0) := (blk_cells hrd4.block).1 13
        have e13 : w4.frozen? ⟨B, 13, none⟩ = false := (blk_cells hrd4.block).2 13
        have HRD5 := hide (hrd4.belowAt b5 (by omega))
        have nB1 : B ≠ w.heap.size + 1 := by omega
        clear hArg hbad hgood S4 hx hy cx1 cy1 S5 k5 p5 b5 hg4 hr4 HR0 HA HS3 HRD hrd4
        go_wp2_with fail
        have HRD6 := hide (HRD5.out.setType A2)
        have HS6 := hide (HS5.out.setB hB 13 (.int .u32 A2))
        generalize (((((w4.setCell ⟨w.heap.size + 1, 0, none⟩ (.int .u8 A1)).setCell ⟨w.heap.size + 1, 1, none⟩ (.int .u32 A2)).setCell ⟨w.heap.size + 1, 2, none⟩ (.string A3)).setCell ⟨w.heap.size + 2, 0, none⟩ (.int .i64 0)).setCell ⟨w.heap.size + 2, 1, none⟩ (.int .i64 PP)).setCell ⟨B, 13, none⟩ (.int .u32 A2) = Y at *
        refine wp_label ?_
        rename_i Kx hKx
        obtain ⟨q1, q2, q3⟩ := HGD.out
        refine hKx _ _ (HP.out N _ Y ⟨k + 2, o, A2, r, ⟨_, rfl, rfl, rfl, rfl, rfl, rfl⟩, HS6.out, HRD6.out, q1, q2, q3⟩ ?_)
        have := HN.out
        show n + 3 ≤ N
        omega
      · have hE1 : (E != 0) = true := by simpa using hE0
        have HR1 := hide (hbad hE0)
        have HE0 := hide hE0
        obtain ⟨cq, fq⟩ := blk_cells S4.res
        have r0 := cq 0
        have r1 := cq 1
        obtain ⟨z1, z2⟩ := two_putB S5.res (.int .i64 E) (.int .i64 PP)
        have HG := hide (grown_put S5.grown z2)
        have HX1 := hide z1
        clear hArg hbad hgood S4 hx hy cx1 cy1 cq S5 k5 p5 b5 hg4 hr4 HR0 HA HS3 HRD z1 z2 hE0
        go_wp2_with fail
        generalize ((((((w4.setCell ⟨w.heap.size + 1, 0, none⟩ (.int .u8 A1)).setCell ⟨w.heap.size + 1, 1, none⟩ (.int .u32 A2)).setCell ⟨w.heap.size + 1, 2, none⟩ (.string A3)).setCell ⟨w.heap.size + 2, 0, none⟩ (.int .i64 E)).setCell ⟨w.heap.size + 2, 1, none⟩ (.int .i64 PP)).setCell ⟨w.heap.size, 0, none⟩ (.int .i64 E)).setCell ⟨w.heap.size, 1, none⟩ (.int .i64 PP) = Z at *
        rw [jumps_ret]
        exact HRET.out _ Z E PP rfl rfl HX1.out HG.out (.inl ⟨HE0.out, HR1.out⟩)

end Go.Proofs.YtbkkmabmkonnbaaGreat

/-
  What the method read of a reader returns, of the layer asm.
-/
namespace Go.Proofs.YtbkkmabmkonnbaaGreat
open Go.RowKit
set_option linter.unusedVariables false
set_option linter.unusedSimpArgs false
set_option maxRecDepth 10000
attribute [local go_sem] jumps_normal jumps_exit jumps_ret jumps_panic jumps_goto onNormal_normal

/-- What taking a token says. -/
def takeQ (l : List TokT) (k : Nat) (kd len : Int) : TokT × Int × Int :=
  if l.length ≤ k then (noTok, 72, len) else if (nthT l k).1 ≠ kd then (noTok, 70, (nthT l k).2.2) else (nthT l k, 0, 0)
theorem take_any7 (B : Nat) (a : Option Addr) (n c k : Nat) (len : Int) (rest : Array Value) (T : Nat) (l : List TokT) (kd : Int) (w : World) (h : RowAt w B a n c k len rest T) (hv : ToksV w a l) (hl : l.length = n) (hn : 32 * n ≤ 140737488351232) (hk : k ≤ n) :
    Calls Tryz.prog 51 #[.pointer (some ⟨B, 0, none⟩), .int .u8 kd] w fun e w' => e = .returned (.tuple #[tokV (takeQ l k kd len).1, .agg #[.int .i64 (takeQ l k kd len).2.1, .int .i64 (takeQ l k kd len).2.2]]) ∧ w.grownBy w' (some B) ∧ ((takeQ l k kd len).2.1 = 0 → RowAt w' B a n c (k + 1) len rest T) := by
  unfold takeQ
  by_cases h1 : l.length ≤ k
  · obtain rfl : k = n := by omega
    rw [if_pos h1]
    refine (take_early B a k c len rest T kd w h).mono ?_
    rintro e w' ⟨rfl, hb⟩
    exact ⟨rfl, grown_below2 hb _, fun h => by simp at h⟩
  · rw [if_neg h1]
    by_cases h2 : (nthT l k).1 = kd
    · rw [if_neg (by simpa using h2)]
      refine (take_ok B a n c k len rest T l kd w h hv hl hn (by omega) h2).mono ?_
      rintro e w' ⟨rfl, hR, hg⟩
      exact ⟨rfl, hg, fun _ => hR⟩
    · rw [if_pos h2]
      refine (take_wrong B a n c k len rest T l kd w h hv hl hn (by omega) h2).mono ?_
      rintro e w' ⟨rfl, hb⟩
      exact ⟨rfl, grown_below2 hb _, fun h => by simp at h⟩

set_option maxHeartbeats 4000000 in
theorem read_any (B : Nat) (a : Option Addr) (n c : Nat) (len b : Int) (l : List TokT) (w : World) (hR : Rea w B a n c 0 len b 0 noFrm 0 0 0 (.slice none 0 0) 0) (hv : ToksV w a l) (hl : l.length = n) (hn : 32 * n ≤ 140737488351232) (hin : ToksIn l) (hkd : ∀ t ∈ l, t.1 ≠ 0) (h1 : 0 < n) (hfar : ∀ g off, a = some ⟨g, off, none⟩ → g ≠ B) :
    Calls Tryz.prog 29 #[.pointer (some ⟨B, 0, none⟩)] w fun e w' => ∃ E P : Int, e = .returned (.agg #[.int .i64 E, .int .i64 P]) ∧ w.grownBy w' (some B) ∧ ReadQ w w' B a n c len b (lineP l len b) E P := by
  have hB := hR.lt
  obtain ⟨R, hRR⟩ : ∃ R, R = lineP l len b := ⟨_, rfl⟩
  rw [← hRR]
  have hret : ReadRet w B a n c len b R (bodyPost Tryz.prog Tryz.f29 fun e w' => ∃ E P : Int, e = .returned (.agg #[.int .i64 E, .int .i64 P]) ∧ w.grownBy w' (some B) ∧ ReadQ w w' B a n c len b R E P) := by
    intro a' w' E P q2 q3 q4 q5 q6
    have c0 : w'.cell? ⟨w.heap.size, 0, none⟩ = some (.int .i64 E) := by rw [Lib.cell_of_heap q4]; rfl
    have c1 : w'.cell? ⟨w.heap.size, 1, none⟩ = some (.int .i64 P) := by rw [Lib.cell_of_heap q4]; rfl
    refine bodyPost_ret (v := .agg #[.int .i64 E, .int .i64 P]) ?_ q3 ⟨E, P, rfl, q5, q6⟩
    simp only [results, Tryz.results29]
    have q2' : a'.tmps[2]?.getD undef = .pointer (some ⟨w.heap.size, 0, none⟩) := by rw [← Array.getD_eq_getD_getElem?]; exact q2
    simp [go_sem, q2', c0, c1]
  have HRET := hide hret
  have hb0 : Below w.heap.size w (((w.alloc (.cells #[.int .i64 0, .int .i64 0] 29)).alloc (.cells #[.int .u8 0, .int .u32 0, .string ⟨#[]⟩] 63)).alloc (.cells #[.int .i64 0, .int .i64 0] 29)) := (((Below.refl _ w).alloc (Nat.le_refl _) _).alloc (by simp) _).alloc (by simp; omega) _
  have hS : ReaS w B (((w.alloc (.cells #[.int .i64 0, .int .i64 0] 29)).alloc (.cells #[.int .u8 0, .int .u32 0, .string ⟨#[]⟩] 63)).alloc (.cells #[.int .i64 0, .int .i64 0] 29)) := by
    refine ⟨?_, ⟨.int .u8 0, .int .u32 0, .string ⟨#[]⟩, ?_⟩, ⟨.int .i64 0, .int .i64 0, ?_⟩, grown_below2 hb0 _⟩
    · rw [Below.heap_alloc _ _ _ (by simp; omega), Below.heap_alloc _ _ _ (by simp)]; exact heap_alloc_new w _
    · rw [Below.heap_alloc _ _ _ (by simp)]; simpa using heap_alloc_new (w.alloc (.cells #[.int .i64 0, .int .i64 0] 29)) (.cells #[.int .u8 0, .int .u32 0, .string ⟨#[]⟩] 63)
    · simpa using heap_alloc_new ((w.alloc (.cells #[.int .i64 0, .int .i64 0] 29)).alloc (.cells #[.int .u8 0, .int .u32 0, .string ⟨#[]⟩] 63)) (.cells #[.int .i64 0, .int .i64 0] 29)
  have hR0 := hR.below hb0
  have hv0 := hv.below hb0
  have HS := hide hS
  have HR := hide hR0
  have HV0 := hide hv0
  have HV := hide hv
  have HIN := hide hin
  have HKD := hide hkd
  have HFAR := hide hfar
  have HLL := hide hl
  have HRR := hide hRR
  clear hret hb0 hS hR hR0 hv0 hv hin hkd hfar hRR
  go_enter Tryz.func29, Tryz.ntmps29
  go_wp2_with fail
  refine wp_scope_ranked (ReadJ w B a n c len b l R) (ReadM B n) (fun l => if l = 2 then 0 else if l = 3 then 1 else if l = 1 then 2 else 3) ?hf ?pass ?first
  case hf =>
    intro l a w1 hJ
    match l, hJ with
    | 0, _ => rfl
    | 1, _ => rfl
    | 2, _ => rfl
    | 3, _ => rfl
  case pass =>
    intro l' hprev N a1 w1 hJ hN
    match l', hJ with
    | 0, hJ => exact read_op w B a n c len b l R _ hB hl hn HIN.out HKD.out HV.out HFAR.out h1 HRET.out (hprev 1 (by decide)) N a1 w1 hJ hN
    | 1, hJ => exact read_args w B a n c len b l R _ hB hn (hprev 3 (by decide)) N a1 w1 hJ hN
    | 2, hJ => exact read_end w B a n c len b l R _ _ hB hl hn HIN.out HRET.out a1 w1 hJ
    | 3, hJ => exact read_next w B a n c len b l R _ hB hl hn HIN.out HKD.out HV.out HFAR.out HRET.out N a1 w1 hJ hN
  case first =>
    intro hP
    have HP := hide hP
    clear hP
    have hSy := says_any B a n c 0 len _ _ l _ HR.out HV0.out hl h1
    by_cases h2 : (nthT l 0).1 = 2
    · rw [show ((nthT l 0).1 == 2) = true by simpa using h2] at hSy
      go_wp2_with fail
      generalize ((w.alloc (.cells #[.int .i64 0, .int .i64 0] 29)).alloc (.cells #[.int .u8 0, .int .u32 0, .string ⟨#[]⟩] 63)).alloc (.cells #[.int .i64 0, .int .i64 0] 29) = W at *
      have hc1 : W.cell? ⟨B, 1, none⟩ = some (.int .i64 0) := (blk_cells HR.out.block).1 1
      have hf1 : W.frozen? ⟨B, 1, none⟩ = false := (blk_cells HR.out.block).2 1
      have HT := hide (take_any7 B a n c 1 len _ _ l 5 (W.setCell ⟨B, 1, none⟩ (.int .i64 1)) HR.out.setNext (toks_kept HV0.out (grown_set (World.grownBy.refl W (some B)) 1 _) HFAR.out) hl hn (by omega))
      have HS1 := hide (HS.out.setB hB 1 (.int .i64 1))
      refine hSy.mono ?_
      rintro e w' ⟨rfl, rfl⟩
      clear hSy
      go_wp2_with fail
      generalize W.setCell ⟨B, 1, none⟩ (.int .i64 1) = W1 at *
      have HQ := hide (show takeQ l 1 5 len = takeQ l 1 5 len from rfl)
      obtain ⟨A, hA⟩ : ∃ A, A = takeQ l 1 5 len := ⟨_, rfl⟩
      have hT := HT.out
      rw [← hA] at hT
      have HA := hide hA
      clear hA HT hc1 hf1 HQ
      obtain ⟨⟨A1, A2, A3⟩, E, P⟩ := A
      unfold tokV at hT
      simp only at hT
      refine hT.mono ?_
      rintro e w2 ⟨rfl, hg2, hr2⟩
      have S2 := HS1.out.next hB hg2
      obtain ⟨y0, y1, hy⟩ := S2.spot
      obtain ⟨cy, fy⟩ := blk_cells hy
      have by0 := cy 0
      have by1 := cy 1
      obtain ⟨S3, k3, b3⟩ := S2.spotted (.int .i64 E) (.int .i64 P)
      have HS3 := hide S3
      by_cases hE : E = 0
      · subst hE
        have HL : Hid (R = lineO ((nthT l 0).1 == 2) l 2 len b ∧ 2 ≤ n) := by
          show _ ∧ _
          rw [HRR.out, show ((nthT l 0).1 == 2) = true by simpa using h2]
          have hh := HA.out
          unfold takeQ at hh
          unfold lineP
          rw [if_neg (by simpa using h2)]
          by_cases hq : l.length ≤ 1
          · rw [if_pos hq] at hh
            simp only [Prod.mk.injEq] at hh
            omega
          · rw [if_neg hq] at hh
            rw [if_neg (by omega)]
            by_cases hz : (nthT l 1).1 = 5
            · rw [if_neg (by simpa using hz)]
              exact ⟨rfl, by omega⟩
            · rw [if_pos hz] at hh
              simp only [Prod.mk.injEq] at hh
              omega
        have HRD := hide ((show Rea w2 B a n c 2 len b 0 noFrm 0 0 0 (.slice none 0 0) 0 from hr2 rfl).belowAt b3 (by omega))
        clear hT S2 hy cy S3 k3 b3 hg2 hr2 HS HS1 HR HV0 HA
        go_wp2_with fail
        generalize (w2.setCell ⟨w.heap.size + 2, 0, none⟩ (.int .i64 0)).setCell ⟨w.heap.size + 2, 1, none⟩ (.int .i64 P) = Y at *
        refine wp_label ?_
        rename_i Kx hKx
        exact hKx _ _ (HP.out 0 _ Y ⟨2, ⟨_, rfl, rfl, rfl, rfl, rfl, rfl⟩, HS3.out, HRD.out, HL.out.2, HL.out.1⟩)
      · have hE1 : (E != 0) = true := by simpa using hE
        have HE0 := hide hE
        have HR0 : Hid (R = noLine E P) := by
          show _ = _
          rw [HRR.out]
          have hh := HA.out
          unfold takeQ at hh
          unfold lineP
          rw [if_neg (by simpa using h2)]
          by_cases hq : l.length ≤ 1
          · rw [if_pos hq] at hh
            simp only [Prod.mk.injEq] at hh
            rw [if_pos (by omega), hh.2.1, hh.2.2]
          · rw [if_neg hq] at hh
            rw [if_neg (by omega)]
            by_cases hz : (nthT l 1).1 = 5
            · rw [if_neg (by simpa using hz)] at hh
              simp only [Prod.mk.injEq] at hh
              exact absurd hh.2.1 hE
            · rw [if_pos hz] at hh ⊢
              simp only [Prod.mk.injEq] at hh
              rw [hh.2.1, hh.2.2]
        obtain ⟨cq, fq⟩ := blk_cells S2.res
        have r0 := cq 0
        have r1 := cq 1
        obtain ⟨x1, x2⟩ := two_putB S3.res (.int .i64 E) (.int .i64 P)
        have HG := hide (grown_put S3.grown x2)
        have HX1 := hide x1
        clear hT S2 hy cy cq S3 k3 b3 hg2 hr2 HS HS1 HR HV0 HA x1 x2 hE HP
        go_wp2_with fail
        generalize (((w2.setCell ⟨w.heap.size + 2, 0, none⟩ (.int .i64 E)).setCell ⟨w.heap.size + 2, 1, none⟩ (.int .i64 P)).setCell ⟨w.heap.size, 0, none⟩ (.int .i64 E)).setCell ⟨w.heap.size, 1, none⟩ (.int .i64 P) = Z at *
        rw [jumps_ret]
        exact HRET.out _ Z E P rfl rfl HX1.out HG.out (.inl ⟨HE0.out, HR0.out⟩)
    · rw [show ((nthT l 0).1 == 2) = false by simpa using h2] at hSy
      have HL : Hid (R = lineO ((nthT l 0).1 == 2) l 0 len b) := by
        show _ = _
        rw [HRR.out, show ((nthT l 0).1 == 2) = false by simpa using h2]
        unfold lineP
        rw [if_pos h2]
      go_wp2_with fail
      generalize ((w.alloc (.cells #[.int .i64 0, .int .i64 0] 29)).alloc (.cells #[.int .u8 0, .int .u32 0, .string ⟨#[]⟩] 63)).alloc (.cells #[.int .i64 0, .int .i64 0] 29) = W at *
      refine hSy.mono ?_
      rintro e w' ⟨rfl, rfl⟩
      clear hSy
      go_wp2_with fail
      go_step3
      exact ⟨0, ⟨_, rfl, rfl, rfl, rfl, rfl, rfl⟩, HS.out, HR.out, Nat.zero_le _, HL.out⟩

end Go.Proofs.YtbkkmabmkonnbaaGreat

/-
  What isWord and mayBe of the layer lex return, for every text and token.
-/
namespace Go.Proofs.YtbkkmabmkonnbaaGreat
open Go.RowKit
set_option maxRecDepth 10000
set_option linter.unusedVariables false
set_option linter.unusedSimpArgs false

set_option maxHeartbeats 1000000 in
theorem isWord_any (s : ByteArray) (w : World) (hs : s.size ≤ 140737488351232) :
    Calls Tryz.prog 123 #[.string s] w fun e w' => e = .returned (.bool (wordB (strI s))) ∧ w = w' := by
  have HN : Hid (∀ k, k < s.size → runB (nth (strI s) k) = false → wordB (strI s) = false) := fun k hk h => word_not (by rw [strI_len]; exact hk) h
  have HA : Hid ((∀ k, k < s.size → runB (nth (strI s) k) = true) → wordB (strI s) = (!s.toList.isEmpty && letterB (nth (strI s) 0))) := fun h => by
    rw [← str_empty_strI]
    cases hl : strI s with
    | nil => rfl
    | cons c r =>
      rw [← hl, word_all (by rw [hl]; simp) (fun k hk => h k (by rw [← strI_len]; exact hk)), hl]; rfl
  have HZ : Hid (s.size = 0 → s.toList.isEmpty = true) := fun h => by rw [← str_empty_strI, List.isEmpty_iff, ← List.length_eq_zero_iff, strI_len]; exact h
  have HZ2 : Hid (0 < s.size → s.toList.isEmpty = false) := fun h => by
    rw [← str_empty_strI]
    have := strI_len s
    cases hl : strI s with
    | nil => rw [hl] at this; simp at this; omega
    | cons c r => rfl
  go_enter Tryz.func123, Tryz.ntmps123
  go_wp2
  go_loop [6] (fun i => ∃ k : Nat, k ≤ s.size ∧ i = .int .i64 k ∧ ∀ j, j < k → runB (nth (strI s) j) = true) (fun i => s.size - (intOf i).toNat)
  case atStart => exact ⟨0, Nat.zero_le _, rfl, fun j hj => by omega⟩
  case round =>
    obtain ⟨k, hk, rfl, hall⟩ := hrel
    by_cases hlt : k < s.size
    · have hc0 : (0 : Int) ≤ (s[k].toNat : Int) := by omega
      have hc1 : (s[k].toNat : Int) < 256 := by have := s[k].toNat_lt; omega
      have hK := fun wx => lexKindOf_any (s[k].toNat : Int) wx hc0 hc1
      have hR := fun wx => inRun_any (kindL (s[k].toNat : Int)) wx (by have := kind_lo (s[k].toNat : Int); omega) (by have := kind_hi (s[k].toNat : Int); omega)
      have EN := HN.out k hlt
      rw [nth_strI s k hlt] at EN
      have EA : Hid (runB (s[k].toNat : Int) = true → ∀ j, j < k + 1 → runB (nth (strI s) j) = true) := fun h j hj => by
        by_cases e : j = k
        · subst e; rw [nth_strI s j hlt]; exact h
        · exact hall j (by omega)
      have EN' : Hid (runB (s[k].toNat : Int) = false → wordB (strI s) = false) := EN
      clear EN hall
      rw [kind_run] at hR
      generalize kindL (s[k].toNat : Int) = kd at *
      generalize runB (s[k].toNat : Int) = rb at *
      cases rb
      · have HB : Hid (wordB (strI s) = false) := EN'.out rfl
        go_wp2_with (first | (go_at_call 91; refine (hK _).mono ?_; rintro e w' ⟨rfl, rfl⟩) | (go_at_call 94; refine (hR _).mono ?_; rintro e w' ⟨rfl, rfl⟩))
        go_ret
        exact ⟨by rw [HB.out]; rfl, rfl⟩
      · go_wp2_with (first | (go_at_call 91; refine (hK _).mono ?_; rintro e w' ⟨rfl, rfl⟩) | (go_at_call 94; refine (hR _).mono ?_; rintro e w' ⟨rfl, rfl⟩))
        go_round
        case rel => exact ⟨k + 1, by omega, by go_num, EA.out trivial⟩
        case measure => simp [intOf]; omega
    · obtain rfl : k = s.size := by omega
      have HB : Hid (wordB (strI s) = (!s.toList.isEmpty && letterB (nth (strI s) 0))) := HA.out hall
      clear hall
      by_cases hz : 0 < s.size
      · have he := HZ2.out hz
        have hc0 : (0 : Int) ≤ (s[0].toNat : Int) := by omega
        have hc1 : (s[0].toNat : Int) < 256 := by have := s[0].toNat_lt; omega
        have hK := fun wx => lexKindOf_any (s[0].toNat : Int) wx hc0 hc1
        rw [nth_strI s 0 hz] at HB
        have HK : Hid ((kindL (s[0].toNat : Int) == 3) = letterB (s[0].toNat : Int)) := kind_letter _
        have HB2 : Hid (wordB (strI s) = (kindL (s[0].toNat : Int) == 3)) := by show _ = _; rw [HB.out, he, HK.out]; rfl
        clear HB HK
        generalize kindL (s[0].toNat : Int) = kd at *
        go_wp2_with (go_at_call 91; refine (hK _).mono ?_; rintro e w' ⟨rfl, rfl⟩)
        go_ret
        exact ⟨by rw [HB2.out]; rfl, rfl⟩
      · have he := HZ.out (by omega)
        have HB2 : Hid (wordB (strI s) = false) := by show _ = _; rw [HB.out, he]; rfl
        clear HB
        go_wp2_with fail
        go_ret
        exact ⟨by rw [HB2.out]; rfl, rfl⟩

theorem eq_strI (s t : ByteArray) : (s.toList == t.toList) = decide (strI s = strI t) := by
  rw [ByteArray.toList_eq, ByteArray.toList_eq]
  by_cases h : s.data.toList = t.data.toList
  · have : strI s = strI t := by unfold strI; rw [h]
    rw [h, decide_eq_true this]; simp
  · have : ¬ strI s = strI t := fun h' => h (by rw [strI_inj h'])
    rw [decide_eq_false this]; simpa using h

theorem mayBe_any (k : Int) (s : ByteArray) (a : Int) (w : World) (hk0 : 0 ≤ k) (hk1 : k < 256) (hs : s.size ≤ 140737488351232) :
    Calls Tryz.prog 95 #[.agg #[.int .u8 k, .string s, .int .i64 a]] w fun e w' => e = .returned (.bool (tokOk k (strI s))) ∧ Below w.heap.size w w' := by
  have HB : Hid (Below w.heap.size w (w.alloc (.cells #[.int .u8 k, .string s, .int .i64 a] 55))) := (Below.refl _ w).alloc (Nat.le_refl _) _
  by_cases k1 : k = 1
  · subst k1
    have HT : Hid (tokOk 1 (strI s) = wordB (strI s)) := rfl
    have hW := fun wx => isWord_any s wx hs
    generalize wordB (strI s) = B at hW HT
    go_enter Tryz.func95, Tryz.ntmps95
    go_wp2_with fail
    refine (hW _).mono ?_
    rintro e w' ⟨rfl, rfl⟩
    go_wp2_with fail
    go_ret
    exact ⟨by rw [HT.out]; rfl, HB.out⟩
  by_cases k2 : k = 2
  · subst k2
    have HT : Hid (tokOk 2 (strI s) = plainB (strI s)) := rfl
    have hW := fun wx => plainNumber_any s wx hs
    generalize plainB (strI s) = B at hW HT
    go_enter Tryz.func95, Tryz.ntmps95
    go_wp2_with fail
    refine (hW _).mono ?_
    rintro e w' ⟨⟨x, rfl, _, _, _⟩, rfl⟩
    go_wp2_with fail
    go_ret
    exact ⟨by rw [HT.out]; rfl, HB.out⟩
  by_cases k3 : k = 3
  · subst k3
    have HT : Hid (tokOk 3 (strI s) = numB (strI s)) := rfl
    have hW := fun wx => number_any s wx hs
    generalize numB (strI s) = B at hW HT
    go_enter Tryz.func95, Tryz.ntmps95
    go_wp2_with fail
    refine (hW _).mono ?_
    rintro e w' ⟨⟨x, rfl, _, _, _⟩, rfl⟩
    go_wp2_with fail
    go_ret
    exact ⟨by rw [HT.out]; rfl, HB.out⟩
  by_cases k4 : k = 4
  · subst k4
    have HT : Hid (tokOk 4 (strI s) = true) := rfl
    go_enter Tryz.func95, Tryz.ntmps95
    go_wp2_with fail
    go_ret
    exact ⟨by rw [HT.out]; rfl, HB.out⟩
  by_cases k5 : k = 5
  · subst k5
    have HT : Hid (tokOk 5 (strI s) = (s.toList == [61])) := by
      have e := eq_strI s { data := #[61] }
      rw [show ByteArray.toList { data := #[61] } = [61] by rw [ByteArray.toList_eq]] at e
      show _ = _
      rw [e]; rfl
    go_enter Tryz.func95, Tryz.ntmps95
    go_wp2_with fail
    go_ret
    exact ⟨by rw [HT.out]; rfl, HB.out⟩
  have HT : Hid (tokOk k (strI s) = false) := by show _ = _; simp [tokOk, k1, k2, k3, k4, k5]
  have b1 : (k == 1) = false := by simpa using k1
  have b2 : (k == 2) = false := by simpa using k2
  have b3 : (k == 3) = false := by simpa using k3
  have b4 : (k == 4) = false := by simpa using k4
  have b5 : (k == 5) = false := by simpa using k5
  clear k1 k2 k3 k4 k5
  go_enter Tryz.func95, Tryz.ntmps95
  go_wp2_with fail
  go_ret
  exact ⟨by rw [HT.out]; rfl, HB.out⟩

end Go.Proofs.YtbkkmabmkonnbaaGreat

/-
  What copyCheck, WriteByte, WriteString and String of a strings.Builder return, of a builder that the call itself has made: the bytes that it holds, up to Go's own limit of a length; every block but the builder's own and rows of bytes stands as it stood.
-/
namespace Go.Proofs.YtbkkmabmkonnbaaGreat
open Go.RowKit Go.Shelf
set_option maxRecDepth 10000
set_option linter.unusedVariables false
set_option linter.unusedSimpArgs false

/-- A builder in a block of its own that holds these bytes. -/
def Bld (B b : Nat) (zs : List Int) (w : World) : Prop := Lib.IsBuilderF 191 5 B b (zs.map (Value.int .u8)) w

theorem bld_lt {B b : Nat} {zs : List Int} {w : World} (h : Bld B b zs w) : b < w.heap.size := by
  rcases h with h | h
  · exact h.lt
  · exact h.lt
theorem bld_new (w : World) (B : Nat) (hB : B ≤ w.heap.size) : Bld B w.heap.size [] (w.alloc (.cells #[.pointer none, .slice none 0 0] 191)) :=
  .inl ⟨hB, .slice none 0 0, heap_alloc_new w _, World.ownsRowF_nil _ _ _ _, by simp [Value.ownBlock]⟩
/-- A turn elsewhere, in a block that is no row of bytes, leaves it. -/
theorem bld_kept {B b : Nat} {zs : List Int} {w w' : World} {row : Option Nat} (h : Bld B b zs w) (hg : w.grownBy w' row) (hb : row ≠ some b) (hr : ∀ r, row = some r → ∀ c fz, w.heap[r]? ≠ some (.cells c 5 fz)) : Bld B b zs w' := by
  have key : ∀ p, Lib.BuilderAtF 191 5 B b p (zs.map (Value.int .u8)) w → Lib.BuilderAtF 191 5 B b p (zs.map (Value.int .u8)) w' := by
    intro p hp
    have hlt := hp.lt
    obtain ⟨hB, v, hbk, hown, hne⟩ := hp
    refine ⟨hB, v, (hg.block b hlt (fun e => hb e.symm)).trans hbk, hown.kept hg ?_, hne⟩
    cases hv : v.ownBlock with
    | none => exact .inl rfl
    | some g =>
      refine .inr fun e => ?_
      obtain ⟨c, fz, hc⟩ := Lib.ownsRowF_kind hown g hv
      exact hr g e.symm c fz hc
  rcases h with h | h
  · exact .inl (key _ h)
  · exact .inr (key _ h)
theorem bld_below {B b : Nat} {zs : List Int} {w w' : World} (h : Bld B b zs w) (hb : Below w.heap.size w w') : Bld B b zs w' :=
  bld_kept h (row := none) ⟨hb.os, hb.tape, hb.output, hb.size, fun k hk _ => hb.block k hk⟩ (by simp) (fun r e => by cases e)
theorem bld_alloc {B b : Nat} {zs : List Int} {w : World} (h : Bld B b zs w) (o : Obj) : Bld B b zs (w.alloc o) := bld_below h ((Below.refl _ w).alloc (Nat.le_refl _) o)

theorem Bld.size : (Tryz.prog.info? 191).map (fun i => i.size) = some 2 := by kernel_rfl
theorem Bld.lies : liesAt Tryz.prog Tryz.prog.depth 191 (2 / Tryz.prog.cellsOf 191) 0 191 1 = true := by kernel_rfl
theorem Bld.info : (Tryz.prog.info? 5).map (fun i => (i.zero, i.size, i.bytes)) = some (some (.int .u8 0), 1, 1) := by kernel_rfl

set_option maxHeartbeats 1000000 in
theorem copyCheck_used (b : Nat) (w : World) (h0 : w.cell? ⟨b, 0, none⟩ = some (.pointer (some ⟨b, 0, none⟩))) :
    Calls Tryz.prog 141 #[.pointer (some ⟨b, 0, none⟩)] w fun e w' => e = .returned (.tuple #[]) ∧ w = w' := by
  obtain ⟨j, hj, _⟩ := Option.map_eq_some_iff.1 Bld.size
  go_enter Tryz.func141, Tryz.ntmps141
  go_wp2
  rw [Lib.run_neq_ptr_same w _ Tryz.underlying189 hj]
  go_wp2
  go_end0
  exact ⟨rfl, rfl⟩

set_option maxHeartbeats 1000000 in
theorem copyCheck_fresh (b : Nat) (w : World) (h0 : w.cell? ⟨b, 0, none⟩ = some (.pointer none)) (hsh : w.shape? b = some (191, 2)) (hfz : w.frozen? ⟨b, 0, none⟩ = false) :
    Calls Tryz.prog 141 #[.pointer (some ⟨b, 0, none⟩)] w fun e w' => e = .returned (.tuple #[]) ∧ w' = w.setCell ⟨b, 0, none⟩ (.pointer (some ⟨b, 0, none⟩)) := by
  obtain ⟨j, hj, hjs⟩ := Option.map_eq_some_iff.1 Bld.size
  go_enter Tryz.func141, Tryz.ntmps141
  go_wp2
  rw [Lib.run_to_unsafe w ⟨b, 0, none⟩ Tryz.underlying189 Tryz.underlying213 hj (by rw [hjs]; decide) hsh (Nat.zero_lt_succ 1)]
  simp only [Result.andThen]
  rw [Oper.upon_value]
  go_wp2
  rw [run_callFunc_extern Tryz.func151 (by kernel_rfl) (by kernel_rfl) (by kernel_rfl) (e := Extern.AbiNoEscape.same) (by kernel_rfl)]
  rw [Lib.run_noEscape]
  simp only [Result.andThen]
  rw [Oper.upon_value]
  go_wp2
  rw [Lib.run_from_unsafe w ⟨b, 0, none⟩ Tryz.underlying213 Tryz.underlying189 hj hsh Bld.lies]
  simp only [Result.andThen]
  rw [Oper.upon_value]
  go_wp2
  go_end0
  exact ⟨rfl, rfl⟩

theorem copyCheck_any (B b : Nat) (bs : List Value) (w : World) (h : Lib.IsBuilderF 191 5 B b bs w) :
    Calls Tryz.prog 141 #[.pointer (some ⟨b, 0, none⟩)] w fun e w' => e = .returned (.tuple #[]) ∧ (Lib.BuilderAtF 191 5 B b (.pointer (some ⟨b, 0, none⟩)) bs w' ∧ Below B w w' ∧ Lib.OthersKept 5 (some b) w w') := by
  rcases h with h | h
  · refine (copyCheck_fresh b w h.cell0 h.shape h.frozen0).mono ?_
    rintro e w' ⟨rfl, rfl⟩
    exact ⟨rfl, h.used _, (Below.refl B w).setCell (p := ⟨b, 0, none⟩) h.1 _, (Lib.OthersKept.refl _ _ w).setCell ⟨b, 0, none⟩ rfl _⟩
  · refine (copyCheck_used b w h.cell0).mono ?_
    rintro e w' ⟨rfl, rfl⟩
    exact ⟨rfl, h, Below.refl B _, Lib.OthersKept.refl _ _ _⟩

set_option maxHeartbeats 2000000 in
theorem writeByte_any (B b : Nat) (zs : List Int) (c : Int) (w : World) (h : Bld B b zs w) (hlen : zs.length + 1 ≤ 140737488355328) (hBw : B ≤ w.heap.size) :
    Calls Tryz.prog 121 #[.pointer (some ⟨b, 0, none⟩), .int .u8 c] w fun e w' => e = .returned .nilIface ∧ Bld B b (zs ++ [c]) w' ∧ Below B w w' ∧ Lib.OthersKept 5 (some b) w w' := by
  obtain ⟨i0, hi, hz0, hz1, hz2⟩ := info_parts Bld.info
  have hC := copyCheck_any B b _ w h
  have HL : Hid ((zs.map (Value.int .u8)).length = zs.length) := List.length_map _
  clear h
  go_enter Tryz.func121, Tryz.ntmps121
  go_wp2_with fail
  refine hC.mono ?_
  rintro e w1 ⟨rfl, h1, hb1, hk1⟩
  obtain ⟨hB, v, hbk, hown, hne⟩ := h1
  have c1 : w1.cell? ⟨b, 1, none⟩ = some v := by rw [Lib.cell_of_heap hbk]; rfl
  rw [HL.out] at hown
  clear hC
  go_wp2_with (at_builtin; refine wpList_append_ownF _ rfl _ _ 47 rfl B 5 i0 (.int .u8 0) 1 1 Tryz.underlying47 hi hz0 hz1 hz2 rfl (by decide) _ _ _ rfl (hown.alloc _) ⟨w1.heap.size, 0, none⟩ 1 1 [.int .u8 c] rfl rfl ?c1 ?c2 ?c3 ?c4 ?c5 ?_)
  case c1 =>
    intro j u hj
    match j, hj with
    | 0, hj => simp at hj; subst hj; simp [Addr.add]
  case c2 => intro u hu; simp at hu; subst hu; rfl
  case c3 => unfold maxLen; omega
  case c4 => omega
  case c5 => have := hb1.size; simp; omega
  intro v' w2 hown' hgrow _
  have hlt : b < w1.heap.size := (Array.getElem?_eq_some_iff.1 hbk).1
  have hb2 : w2.heap[b]? = some (.cells #[.pointer (some ⟨b, 0, none⟩), v] 191 (0, 0)) := by
    rw [hgrow.block b (by simp; omega) (fun e => hne e.symm), Lib.alloc_old w1 _ b hlt]
    exact hbk
  have d1 : w2.cell? ⟨b, 1, none⟩ = some v := by rw [Lib.cell_of_heap hb2]; rfl
  have f1 : w2.frozen? ⟨b, 1, none⟩ = false := Lib.frozen_of_heap hb2 1
  obtain ⟨g, cap, rfl⟩ : ∃ g cap, v' = .slice (some ⟨g, 0, none⟩) (zs.length + 1) cap := by
    rcases hown'.2 with ⟨_, h0⟩ | ⟨g, cap, cur, fz, hv, _⟩
    · omega
    · exact ⟨g, cap, hv⟩
  have HP := Lib.BuilderAtF.put (T := 191) (e := 5) hB hb2 (bs' := zs.map (Value.int .u8) ++ [.int .u8 c]) (by simpa using hown') (by decide)
  have HB := ((hb1.alloc (by have := hb1.size; omega) _).grown hgrow (by have := hb1.size; simp; omega) (fun k hk => (hown.lt k hk).1)).setCell (p := ⟨b, 1, none⟩) hB (.slice (some ⟨g, 0, none⟩) (zs.length + 1) cap)
  have HO := ((hk1.alloc _).grown hgrow (Lib.ownsRowF_kind (hown.alloc _))).setCell ⟨b, 1, none⟩ rfl (.slice (some ⟨g, 0, none⟩) (zs.length + 1) cap)
  clear hown hown' hgrow hb1 hk1
  go_wp2
  go_ret
  exact ⟨rfl, by refine .inr ?_; rw [List.map_append]; exact HP, HB, HO⟩

def Bld.ren : Go.Shelf.Ren := ⟨fun | 169 => 119 | n => n, fun | 70 => 189 | 9 => 9 | 0 => 0 | 72 => 191 | 37 => 47 | 127 => 178 | 3 => 3 | 5 => 5 | n => n, fun | n => n⟩
theorem Bld.lays : Go.Proofs.Lays.n169 Tryz.prog Bld.ren := {
  mixed := by kernel_rfl
  f169 := Tryz.func119.trans (congrArg some (by kernel_rfl))
  t0 := Tryz.underlying0
  a0 := Tryz.isAgg0
  z0 := Tryz.sizeOf0
  v0 := Tryz.zeroValue0
  t3 := Tryz.underlying3
  a3 := Tryz.isAgg3
  z3 := Tryz.sizeOf3
  v3 := Tryz.zeroValue3
  t9 := Tryz.underlying9
  a9 := Tryz.isAgg9
  z9 := Tryz.sizeOf9
  v9 := Tryz.zeroValue9
  t37 := Tryz.underlying47
  a37 := Tryz.isAgg47
  z37 := Tryz.sizeOf47
  v37 := Tryz.zeroValue47
  t70 := Tryz.underlying189
  a70 := Tryz.isAgg189
  z70 := Tryz.sizeOf189
  v70 := Tryz.zeroValue189
  t72 := Tryz.underlying191
  a72 := Tryz.isAgg191
  z72 := Tryz.sizeOf191
  v72 := Tryz.zeroValue191
  t127 := Tryz.underlying178
  a127 := Tryz.isAgg178
  z127 := Tryz.sizeOf178
  v127 := Tryz.zeroValue178 }
theorem Bld.extra : Builder.Extra Tryz.prog Bld.ren := {
  sizeBuilder := by kernel_rfl
  liesBuilder := by kernel_rfl
  t5 := Tryz.underlying5
  a5 := Tryz.isAgg5
  z5 := Tryz.sizeOf5
  v5 := Tryz.zeroValue5
  infoByte := by kernel_rfl
  cellsByte := by kernel_rfl
  sizeByte := by kernel_rfl
  neB5 := by decide }

theorem within_bytes {zs : List Int} (h : Within 256 zs) : zs.map (Value.int .u8) = Lib.byteCells (zs.map fun n => UInt8.ofNat n.toNat) := by
  unfold Lib.byteCells
  rw [List.map_map]
  apply List.map_congr_left
  intro z hz
  have := h z hz
  have hlt : z.toNat < 256 := by omega
  simp only [Function.comp_def]
  rw [UInt8.toNat_ofNat_of_lt' (by simpa using hlt)]
  congr 1; omega

theorem buildString_any (B b : Nat) (zs : List Int) (w : World) (h : Bld B b zs w) (hz : Within 256 zs) (hBw : B ≤ w.heap.size) :
    Calls Tryz.prog 119 #[.pointer (some ⟨b, 0, none⟩)] w fun e w' => e = .returned (.string (strOfNums zs)) ∧ Bld B b zs w' ∧ Below B w w' ∧ Lib.OthersKept 5 (some b) w w' := by
  unfold Bld at h ⊢
  rw [within_bytes hz] at h ⊢
  exact Any.Builder_String_any_k Bld.lays Bld.extra B b _ w h hBw

end Go.Proofs.YtbkkmabmkonnbaaGreat

/-
  What look and step of the scanner of the layer lex do: its block holds the line, the place, the byte that is next and its kind; no other block turns.
-/
namespace Go.Proofs.YtbkkmabmkonnbaaGreat
open Go.RowKit
set_option maxRecDepth 10000
set_option linter.unusedVariables false
set_option linter.unusedSimpArgs false

/-- The kind of what is next: 0 at the end. -/
def kAt (l : List Int) (p : Nat) : Int := if p < l.length then kindL (nth l p) else 0
def scnC (s : ByteArray) (p : Nat) (x y : Value) : Obj := .cells #[.string s, .int .i64 p, x, y] 142 (0, 0)
/-- A scanner of a line that stands at a place. -/
def Scn (b : Nat) (s : ByteArray) (p : Nat) (w : World) : Prop := w.heap[b]? = some (scnC s p (.int .u8 (nth (strI s) p)) (.int .u8 (kAt (strI s) p)))

theorem grown_trans {w w1 w2 : World} {r : Option Nat} (h : w.grownBy w1 r) (k : w1.grownBy w2 r) : w.grownBy w2 r :=
  ⟨k.os.trans h.os, k.tape.trans h.tape, k.output.trans h.output, Nat.le_trans h.size k.size, fun i hi hr => (k.block i (Nat.lt_of_lt_of_le hi h.size) hr).trans (h.block i hi hr)⟩
theorem grown_refl (w : World) (r : Option Nat) : w.grownBy w r := ⟨rfl, rfl, rfl, Nat.le_refl _, fun _ _ _ => rfl⟩
theorem grown_belowX {w w1 w2 : World} {r : Option Nat} {B : Nat} (h : w.grownBy w1 r) (k : Below B w1 w2) (hB : w.heap.size ≤ B) : w.grownBy w2 r :=
  ⟨k.os.trans h.os, k.tape.trans h.tape, k.output.trans h.output, Nat.le_trans h.size k.size, fun i hi hr => (k.block i (Nat.lt_of_lt_of_le hi hB)).trans (h.block i hi hr)⟩
theorem grown_setCellX {w w1 : World} {b : Nat} (h : w.grownBy w1 (some b)) (i : Nat) (u : Value) : w.grownBy (w1.setCell ⟨b, i, none⟩ u) (some b) :=
  ⟨h.os, h.tape, h.output, by simpa [World.setCell] using h.size, fun k hk hr => (Below.heap_setCell _ _ _ _ (fun e => hr (by rw [e]))).trans (h.block k hk hr)⟩
theorem grown_drewX {w w1 : World} {r : Option Nat} (h : w.grownBy w1 r) (n : Nat) : w.grownBy (w1.drewN n) r := ⟨h.os, h.tape, h.output, h.size, h.block⟩
theorem grown_drew1 {w w1 : World} {r : Option Nat} (h : w.grownBy w1 r) : w.grownBy w1.drew r := ⟨h.os, h.tape, h.output, h.size, h.block⟩

theorem scn_cells {w : World} {b p : Nat} {s : ByteArray} {x y : Value} (h : w.heap[b]? = some (scnC s p x y)) : w.cell? ⟨b, 0, none⟩ = some (.string s) ∧ w.cell? ⟨b, 1, none⟩ = some (.int .i64 p) ∧ w.cell? ⟨b, 2, none⟩ = some x ∧ w.cell? ⟨b, 3, none⟩ = some y ∧ ∀ i, w.frozen? ⟨b, i, none⟩ = false := by
  refine ⟨?_, ?_, ?_, ?_, fun i => ?_⟩ <;> simp [World.cell?, World.frozen?, h, scnC]

theorem scn_set2 {w : World} {b p : Nat} {s : ByteArray} {x y : Value} (h : w.heap[b]? = some (scnC s p x y)) (u : Value) : (w.setCell ⟨b, 2, none⟩ u).heap[b]? = some (scnC s p u y) := by
  simp [World.setCell, Array.getElem?_modify, h, scnC]
theorem scn_set3 {w : World} {b p : Nat} {s : ByteArray} {x y : Value} (h : w.heap[b]? = some (scnC s p x y)) (u : Value) : (w.setCell ⟨b, 3, none⟩ u).heap[b]? = some (scnC s p x u) := by
  simp [World.setCell, Array.getElem?_modify, h, scnC]
theorem scn_set1 {w : World} {b p : Nat} {s : ByteArray} {x y : Value} (h : w.heap[b]? = some (scnC s p x y)) (q : Nat) : (w.setCell ⟨b, 1, none⟩ (.int .i64 q)).heap[b]? = some (scnC s q x y) := by
  simp [World.setCell, Array.getElem?_modify, h, scnC]
theorem scn_drew {w : World} {b : Nat} {o : Option Obj} (h : w.heap[b]? = o) : w.drew.heap[b]? = o := h

set_option maxHeartbeats 2000000 in
theorem look_any (b p : Nat) (s : ByteArray) (x y : Value) (w : World) (h : w.heap[b]? = some (scnC s p x y)) (hp : p ≤ 140737488351300) (hs : s.size ≤ 140737488351232) :
    Calls Tryz.prog 72 #[.pointer (some ⟨b, 0, none⟩)] w fun e w' => e = .returned (.tuple #[]) ∧ Scn b s p w' ∧ w.grownBy w' (some b) := by
  obtain ⟨c0, c1, c2, c3, cf⟩ := scn_cells h
  by_cases hlt : p < s.size
  · have hc0 : (0 : Int) ≤ (s[p].toNat : Int) := by omega
    have hc1 : (s[p].toNat : Int) < 256 := by have := s[p].toNat_lt; omega
    have hK := fun wx => lexKindOf_any (s[p].toNat : Int) wx hc0 hc1
    have hn := nth_strI s p hlt
    have hk : kAt (strI s) p = kindL (s[p].toNat : Int) := by rw [kAt, if_pos (by rw [strI_len]; exact hlt), hn]
    have HF : Hid (∀ w' : World, w.grownBy w' (some b) → w'.heap[b]? = some (scnC s p (.int .u8 (s[p].toNat : Int)) (.int .u8 (kindL (s[p].toNat : Int)))) → Scn b s p w' ∧ w.grownBy w' (some b)) := fun w' hg hh => ⟨by unfold Scn; rw [hn, hk]; exact hh, hg⟩
    have HS : Hid (w.heap[b]? = some (scnC s p x y)) := h
    have hpi : (p : Int) < (s.size : Int) := by omega
    have f2 := cf 2
    have f3 := cf 3
    clear h hn hk cf
    generalize kindL (s[p].toNat : Int) = kd at *
    go_enter Tryz.func72, Tryz.ntmps72
    go_wp2
    go_region
    go_wp2
    go_region
    all_goals
      go_wp2_with fail
      refine (hK _).mono ?_
      rintro e w' ⟨rfl, rfl⟩
      go_wp2_with fail
      go_end0
      refine ⟨rfl, HF.out _ ?_ ?_⟩
      · exact grown_setCellX (grown_drew1 (grown_setCellX (grown_drew1 (grown_setCellX (grown_setCellX (grown_refl w _) 2 _) 3 _)) 2 _)) 3 _
      · exact scn_set3 (scn_drew (scn_set2 (scn_drew (scn_set3 (scn_set2 HS.out _) _)) _)) _
  · have hn : nth (strI s) p = 0 := nth_over _ _ (by rw [strI_len]; omega)
    have hk : kAt (strI s) p = 0 := by rw [kAt, if_neg (by rw [strI_len]; exact hlt)]
    have HF : Hid (∀ w' : World, w.grownBy w' (some b) → w'.heap[b]? = some (scnC s p (.int .u8 0) (.int .u8 0)) → Scn b s p w' ∧ w.grownBy w' (some b)) := fun w' hg hh => ⟨by unfold Scn; rw [hn, hk]; exact hh, hg⟩
    have HS : Hid (w.heap[b]? = some (scnC s p x y)) := h
    have hpi : ¬ (p : Int) < (s.size : Int) := by omega
    have f2 := cf 2
    have f3 := cf 3
    clear h hn hk cf
    go_enter Tryz.func72, Tryz.ntmps72
    go_wp2
    go_region
    go_wp2
    go_end0
    refine ⟨rfl, HF.out _ ?_ ?_⟩
    · exact grown_drew1 (grown_setCellX (grown_setCellX (grown_refl w _) 2 _) 3 _)
    · exact scn_drew (scn_set3 (scn_set2 HS.out _) _)

theorem step_any (b p : Nat) (s : ByteArray) (w : World) (h : Scn b s p w) (hp : p ≤ 140737488351240) (hs : s.size ≤ 140737488351232) :
    Calls Tryz.prog 92 #[.pointer (some ⟨b, 0, none⟩)] w fun e w' => e = .returned (.tuple #[]) ∧ Scn b s (p + 1) w' ∧ w.grownBy w' (some b) := by
  obtain ⟨c0, c1, c2, c3, cf⟩ := scn_cells h
  have hL := look_any b (p + 1) s _ _ _ (scn_set1 h (p + 1)) (by omega) hs
  have hg := grown_setCellX (grown_refl w (some b)) 1 (.int .i64 ((p + 1 : Nat) : Int))
  have f1 := cf 1
  rw [show ((p + 1 : Nat) : Int) = (p : Int) + 1 by omega] at hL hg
  clear h cf
  go_enter Tryz.func92, Tryz.ntmps92
  go_wp2_with fail
  refine hL.mono ?_
  rintro e w' ⟨rfl, h1, h2⟩
  go_wp2_with fail
  go_end0
  exact ⟨rfl, h1, grown_trans hg h2⟩

end Go.Proofs.YtbkkmabmkonnbaaGreat
