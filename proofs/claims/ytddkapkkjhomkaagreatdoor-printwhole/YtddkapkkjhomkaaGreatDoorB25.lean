/-
  Texts laid together in one: AsmRead1, AsmRead2, AsmRead, AsmNumber.
-/
import Derived.WalkSpells
import Derived.WalkMore
import Derived.BigRegion
import Derived.Deep.RegionWith
import Derived.Deep.RegionLaw
import Derived.Deep.AppendLies
import Derived.Test.YtddkapkkjhomkaaGreatDoorProg
import Derived.Test.YtddkapkkjhomkaaGreatDoorB24
import Derived.Test.YtddkapkkjhomkaaGreatDoorB04
import Derived.OwnWalk
import Derived.Test.YtddkapkkjhomkaaGreatDoorB22
import Derived.Test.YtddkapkkjhomkaaGreatDoorB21
/-
  A reader's whole line, of the layer asm: the pass from its next argument.
-/
namespace Go.Proofs.YtddkapkkjhomkaaGreatDoor
open Go.RowKit
set_option linter.unusedVariables false
set_option linter.unusedSimpArgs false
set_option maxRecDepth 10000
attribute [local go_sem] jumps_normal jumps_exit jumps_ret jumps_panic jumps_goto onNormal_normal

theorem ArgI.info : (Tryz.prog.info? 67).map (fun i => (i.zero, i.size, i.bytes)) = some (some (.agg #[.int .u8 0, .int .u32 0, .string ⟨#[]⟩]), 3, 24) := by kernel_rfl

/-- The boxes of an argument and its spot are written. -/
theorem ReaS.wrote {w w1 : World} {B : Nat} (h : ReaS w B w1) (u0 u1 u2 v0 v1 : Value) : ReaS w B (((((w1.setCell ⟨w.heap.size + 1, 0, none⟩ u0).setCell ⟨w.heap.size + 1, 1, none⟩ u1).setCell ⟨w.heap.size + 1, 2, none⟩ u2).setCell ⟨w.heap.size + 2, 0, none⟩ v0).setCell ⟨w.heap.size + 2, 1, none⟩ v1) ∧
    (((((w1.setCell ⟨w.heap.size + 1, 0, none⟩ u0).setCell ⟨w.heap.size + 1, 1, none⟩ u1).setCell ⟨w.heap.size + 1, 2, none⟩ u2).setCell ⟨w.heap.size + 2, 0, none⟩ v0).setCell ⟨w.heap.size + 2, 1, none⟩ v1).heap[w.heap.size + 1]? = some (.cells #[u0, u1, u2] 67 (0, 0)) ∧
    (((((w1.setCell ⟨w.heap.size + 1, 0, none⟩ u0).setCell ⟨w.heap.size + 1, 1, none⟩ u1).setCell ⟨w.heap.size + 1, 2, none⟩ u2).setCell ⟨w.heap.size + 2, 0, none⟩ v0).setCell ⟨w.heap.size + 2, 1, none⟩ v1).heap[w.heap.size + 2]? = some (.cells #[v0, v1] 28 (0, 0)) ∧
    Below (w.heap.size + 1) w1 (((((w1.setCell ⟨w.heap.size + 1, 0, none⟩ u0).setCell ⟨w.heap.size + 1, 1, none⟩ u1).setCell ⟨w.heap.size + 1, 2, none⟩ u2).setCell ⟨w.heap.size + 2, 0, none⟩ v0).setCell ⟨w.heap.size + 2, 1, none⟩ v1) ∧ ∀ {e size n : Nat} {v : Value} {xs : List Value}, w1.ownsRow (w.heap.size + 3) e size v n xs → (((((w1.setCell ⟨w.heap.size + 1, 0, none⟩ u0).setCell ⟨w.heap.size + 1, 1, none⟩ u1).setCell ⟨w.heap.size + 1, 2, none⟩ u2).setCell ⟨w.heap.size + 2, 0, none⟩ v0).setCell ⟨w.heap.size + 2, 1, none⟩ v1).ownsRow (w.heap.size + 3) e size v n xs := by
  obtain ⟨x0, x1, x2, hx⟩ := h.box
  obtain ⟨y0, y1, hy⟩ := h.spot
  obtain ⟨g1, g2, g3⟩ := five_put hx hy u0 u1 u2 v0 v1
  refine ⟨⟨(g3.block _ (by omega)).trans h.res, ⟨u0, u1, u2, g1⟩, ⟨v0, v1, g2⟩, grown_put h.grown (g3.mono (by omega))⟩, g1, g2, g3, fun ho => ?_⟩
  exact ownsRow_setCell_below (ownsRow_setCell_below (ownsRow_setCell_below (ownsRow_setCell_below (ownsRow_setCell_below ho (a := ⟨w.heap.size + 1, 0, none⟩) (by simp) _) (a := ⟨w.heap.size + 1, 1, none⟩) (by simp) _) (a := ⟨w.heap.size + 1, 2, none⟩) (by simp) _) (a := ⟨w.heap.size + 2, 0, none⟩) (by simp) _) (a := ⟨w.heap.size + 2, 1, none⟩) (by simp) _
theorem ReaS.row {w X Y Z : World} {B : Nat} {row : Option Nat} (hB : B < w.heap.size) (h : ReaS w B X) (hb : Below X.heap.size X Y) (hg : Y.grownBy Z row) (hr : ∀ g, row = some g → w.heap.size + 3 ≤ g) : ReaS w B Z := by
  have h1 := h.below hB hb
  have hs := h1.size
  obtain ⟨x0, x1, x2, hx⟩ := h1.box
  obtain ⟨y0, y1, hy⟩ := h1.spot
  have key : ∀ i, i < w.heap.size + 3 → Z.heap[i]? = Y.heap[i]? := fun i hi => hg.block i (by omega) (fun e => by have := hr i e.symm; omega)
  exact ⟨(key _ (by omega)).trans h1.res, ⟨x0, x1, x2, (key _ (by omega)).trans hx⟩, ⟨y0, y1, (key _ (by omega)).trans hy⟩, ⟨hg.os.trans h1.grown.os, hg.tape.trans h1.grown.tape, hg.output.trans h1.grown.output, Nat.le_trans h1.grown.size hg.size, fun i hi hn => (key i (by omega)).trans (h1.grown.block i hi hn)⟩⟩
theorem Rea.row {X Y Z : World} {B : Nat} {row : Option Nat} {a : Option Addr} {n c k : Nat} {len b fo : Int} {f : Frm} {io it ir : Int} {av : Value} {wd : Int} (h : Rea X B a n c k len b fo f io it ir av wd) (hb : Below X.heap.size X Y) (hg : Y.grownBy Z row) (hr : ∀ g, row = some g → B < g) : Rea Z B a n c k len b fo f io it ir av wd :=
  Rea.mk ((hg.block B (Nat.lt_of_lt_of_le h.lt hb.size) (fun e => by have := hr B e.symm; omega)).trans ((hb.block B h.lt).trans h.block))
theorem ReaS.setB {w X : World} {B : Nat} (hB : B < w.heap.size) (h : ReaS w B X) (i : Nat) (v : Value) : ReaS w B (X.setCell ⟨B, i, none⟩ v) := h.next hB (grown_set (World.grownBy.refl X (some B)) i v)

set_option maxHeartbeats 4000000 in
theorem read_next (w : World) (B : Nat) (a : Option Addr) (n c : Nat) (len b : Int) (l : List TokT) (R : LineR) (Q : Exit → Act → World → Prop) (hB : B < w.heap.size) (hl : l.length = n) (hn : 32 * n ≤ 140737488351232) (hin : ToksIn l) (hkd : ∀ t ∈ l, t.1 ≠ 0) (hv : ToksV w a l) (hfar : ∀ g off, a = some ⟨g, off, none⟩ → g ≠ B) (hret : ReadRet w B a n c len b R Q)
    (N : Nat) (a1 : Act) (w1 : World) (hJ : ReadJ w B a n c len b l R 3 a1 w1) (hN : ReadM B n 3 a1 w1 ≤ N) :
    (behind (findLabel (scopeOf (Tryz.f133.body.getD .skip)) 3)).wp Tryz.prog (jumps (fun l' a' w' => ReadJ w B a n c len b l R l' a' w' ∧ ReadM B n l' a' w' < N) Q) a1 w1 := by
  obtain ⟨k, j, o, t, r, ax, cx, ⟨f, rfl, hsz, h0, h2, h3, h4⟩, hS, hR, hkj, hH, hL, hrow, hgood⟩ := hJ
  have HN : Hid (n - (k + j) + 1 ≤ N) := by
    unfold ReadM at hN
    rw [if_neg (by omega), if_neg (by omega), if_pos rfl, hR.pos] at hN
    exact hN
  clear hN
  conv => arg 2; whnf
  rw [frame111 f hsz, h0, h2, h3, h4]
  clear h0 h2 h3 h4 hsz
  have HV := hide hv
  have HH := hide hH
  have HROW := hide hrow
  have HL := hide hL
  have HGOOD := hide hgood
  have HRET := hide hret
  have HS := hide hS
  have HR := hide hR
  have HIN := hide hin
  have HKD := hide hkd
  have HFAR := hide hfar
  have HLL := hide hl
  clear hv hH hrow hL hgood hret hS hin hkd hfar hl
  have hE := ended_any B a n c (k + j) len _ _ w1 hR
  clear hR
  by_cases hend : k + j = n
  · rw [show (((k + j : Nat) : Int) == (n : Int)) = true by simp; omega] at hE
    clear hkj
    go_wp2_with fail
    refine hE.mono ?_
    rintro e w2 ⟨rfl, q, rfl⟩
    have hbq := bel_drewN (Below.refl w1.heap.size w1) q
    have HS2 := hide (HS.out.below hB hbq)
    have HR2 := hide (HR.out.below hbq)
    have HROW2 := hide (own_below HROW.out hbq)
    clear hE hbq
    generalize w1.drewN q = w2 at *
    go_wp2_with fail
    go_step3
    refine ⟨⟨k, j, o, t, r, ax, cx, ⟨_, rfl, rfl, rfl, rfl, rfl, rfl⟩, HS2.out, HR2.out, hend, HH.out, HL.out, HROW2.out, HGOOD.out⟩, ?_⟩
    have := HN.out
    show 0 < N
    omega
  · rw [show (((k + j : Nat) : Int) == (n : Int)) = false by simp; omega] at hE
    go_wp2_with fail
    refine hE.mono ?_
    rintro e w2 ⟨rfl, q, rfl⟩
    have hbq := bel_drewN (Below.refl w1.heap.size w1) q
    have HS2 := hide (HS.out.below hB hbq)
    have HR2 := hide (HR.out.below hbq)
    have HROW2 := hide (own_below HROW.out hbq)
    clear hE hbq HS HR HROW
    generalize w1.drewN q = w2 at *
    have hkn : k + j < n := by omega
    have c4 : w2.cell? ⟨B, 4, none⟩ = some (.int .u16 (o : Int)) := (blk_cells HR2.out.block).1 4
    have c15 : w2.cell? ⟨B, 15, none⟩ = some (.slice ax j cx) := (blk_cells HR2.out.block).1 15
    have hLt := fun (wx : World) => grammarLetter_any (o : Int) (j : Int) wx (by omega)
    have hArg := fun (wx : World) (hb : Below w2.heap.size w2 wx) => argument_any B a n c (k + j) len b _ (letterI (opF o) j) l wx (HR2.out.below hb) (toks_kept HV.out (grown_bel HS2.out.grown hb) HFAR.out) HLL.out hn HIN.out HKD.out (by omega)
    obtain ⟨A, hA⟩ : ∃ A, A = argQ (letterI (opF o) j) l (k + j) len b := ⟨_, rfl⟩
    rw [← hA] at hArg
    have elet : letterI (lookF refT (o : Int)).1 (j : Int) = letterI (opF o) j := rfl
    rw [elet] at hLt
    clear elet
    obtain ⟨ch, hch⟩ : ∃ ch, ch = letterI (opF o) j := ⟨_, rfl⟩
    rw [← hch] at hArg hLt
    have HCH := hide hch
    rw [← hch] at hA
    have HA := hide hA
    clear hch hA
    obtain ⟨⟨A1, A2, A3⟩, E, P⟩ := A
    unfold argV at hArg
    simp only at hArg
    have HARG := hide hArg
    clear hArg
    go_wp2_with fail
    refine wp_norm ?_
    go_region_with ((first | (go_at_call 73; refine (hLt _).mono ?_; rintro x w3 ⟨rfl, hb3⟩; have hb23 := hide ((below_drew w2).trans hb3); clear hb3) | (go_at_call 176; refine (HARG.out _ hb23.out).mono ?_; rintro x w4 ⟨rfl, hg4, hr4⟩; have HS4 := hide ((HS2.out.below hB hb23.out).next hB hg4); have HR4 := hide hr4; have HG4 := hide hg4; obtain ⟨x0, x1, x2, hx⟩ := HS4.out.box; obtain ⟨y0, y1, hy⟩ := HS4.out.spot; obtain ⟨cx1, fx1⟩ := blk_cells hx; obtain ⟨cy1, fy1⟩ := blk_cells hy; have bx0 := cx1 0; have bx1 := cx1 1; have bx2 := cx1 2; have by0 := cy1 0; have by1 := cy1 1; clear hg4 hr4 cx1 cy1 hx hy)))
    all_goals
      obtain ⟨S5, k5, p5, b5, o5⟩ := HS4.out.wrote (.int .u8 A1) (.int .u32 A2) (.string A3) (.int .i64 E) (.int .i64 P)
      have HS5 := hide S5
      have HK5 := hide k5
      have HP5 := hide p5
      have HROW5 := hide (o5 ((own_below HROW2.out hb23.out).kept HG4.out (own_far7 HROW2.out (by omega))))
      have HRD5 : Hid (E = 0 → Rea _ B a n c (k + j + 1) len b o (opF o) o t r (.slice ax j cx) 0) := fun h => Rea.belowAt (HR4.out h) b5 (by omega)
      clear S5 k5 p5 b5 o5 bx0 bx1 bx2 by0 by1 fx1 fy1 HS4 HR4 HG4 hb23 HROW2 HS2 HR2 HARG hLt c4 c15
      generalize ((((w4.setCell ⟨w.heap.size + 1, 0, none⟩ (.int .u8 A1)).setCell ⟨w.heap.size + 1, 1, none⟩ (.int .u32 A2)).setCell ⟨w.heap.size + 1, 2, none⟩ (.string A3)).setCell ⟨w.heap.size + 2, 0, none⟩ (.int .i64 E)).setCell ⟨w.heap.size + 2, 1, none⟩ (.int .i64 P) = X at *
      have p0 : X.cell? ⟨w.heap.size + 2, 0, none⟩ = some (.int .i64 E) := (blk_cells HP5.out).1 0
      have p1 : X.cell? ⟨w.heap.size + 2, 1, none⟩ = some (.int .i64 P) := (blk_cells HP5.out).1 1
      have hbad : E ≠ 0 → R = noLine E P := fun hE => by
        have hh := HA.out
        unfold argQ at hh
        rw [HCH.out, if_neg (by rw [HLL.out]; omega)] at hh
        by_cases hz : argE (letterI (opF o) j) (nthT l (k + j)) b = 0
        · rw [if_neg (by simpa using hz)] at hh
          simp only [Prod.mk.injEq] at hh
          exact absurd hh.2.1 hE
        · rw [if_pos hz] at hh
          simp only [Prod.mk.injEq] at hh
          rw [hh.2.1, hh.2.2, HL.out]
          exact lineA_bad (by rw [HLL.out]; omega) HGOOD.out hz
      have hgoodA : E = 0 → argE (letterI (opF o) j) (nthT l (k + j)) b = 0 ∧ argA (letterI (opF o) j) (nthT l (k + j)) b = (A1, A2, A3) := fun hE => by
        have hh := HA.out
        unfold argQ at hh
        rw [HCH.out, if_neg (by rw [HLL.out]; omega)] at hh
        by_cases hz : argE (letterI (opF o) j) (nthT l (k + j)) b = 0
        · rw [if_neg (by simpa using hz)] at hh
          simp only [Prod.mk.injEq] at hh
          exact ⟨hz, by rw [← hh.1]⟩
        · rw [if_pos hz] at hh
          simp only [Prod.mk.injEq] at hh
          exact absurd (hh.2.1.symm.trans hE) hz
      have HBAD := hide hbad
      have HGA := hide hgoodA
      clear hbad hgoodA HA
      by_cases hE0 : E = 0
      · subst hE0
        have HZ := hide (HGA.out rfl)
        have hrd := HRD5.out rfl
        have HRD := hide hrd
        have c15 : X.cell? ⟨B, 15, none⟩ = some (.slice ax j cx) := (blk_cells hrd.block).1 15
        have x0 : X.cell? ⟨w.heap.size + 1, 0, none⟩ = some (.int .u8 A1) := (blk_cells HK5.out).1 0
        have x1 : X.cell? ⟨w.heap.size + 1, 1, none⟩ = some (.int .u32 A2) := (blk_cells HK5.out).1 1
        have x2 : X.cell? ⟨w.heap.size + 1, 2, none⟩ = some (.string A3) := (blk_cells HK5.out).1 2
        obtain ⟨i0, hi, hz0, hz1, hz2⟩ := info_parts ArgI.info
        have hob : ∀ g, (Value.slice ax j cx).ownBlock = some g → w.heap.size + 3 ≤ g := fun g e => (HROW5.out.lt g e).1
        have HOB := hide hob
        have hsz : w.heap.size + 2 < X.heap.size := HS5.out.size
        have sB5 : B < X.heap.size := by omega
        have hba : Below X.heap.size X (X.alloc (.cells #[.int .u8 A1, .int .u32 A2, .string A3] 67)).drew := ((Below.refl _ X).alloc (Nat.le_refl _) _).drew
        have HBA := hide hba
        clear hrd hob hba HRD5 hend HGA HBAD
        rw [onNormal_normal]
        go_wp2_with fail
        refine wp_norm ?_
        go_region_law ((refine step_append_lies _ (by rfl) _ _ _ (by rfl) (w.heap.size + 3) 67 i0 (.agg #[.int .u8 0, .int .u32 0, .string ⟨#[]⟩]) 3 24 Tryz.underlying36 hi hz0 hz1 hz2 rfl (by omega) (.slice ax j cx) j _ (by rfl) ((HROW5.out.alloc _).drew) ⟨X.heap.size, 0, none⟩ 1 1 [.int .u8 A1, .int .u32 A2, .string A3] (by rfl) (by rfl) (World.news_of_block (cs := #[.int .u8 A1, .int .u32 A2, .string A3]) (t := 67) (fr := (0, 0)) (heap_alloc_new X _)) (by simp [Value.oneCell']) (by omega) (by unfold maxLen; omega) (by omega) (by simp; omega) (X.heap.size + 1) (by simp) ?_; intro g2 cap2 w6 hown6 hgrow6 hat6 hlt6; have HR6 := hide (HRD.out.row HBA.out hgrow6 (fun g e => by have := HOB.out g e; omega)); have HS6 := hide (HS5.out.row hB HBA.out hgrow6 HOB.out); have d15 : w6.cell? ⟨B, 15, none⟩ = some (.slice ax j cx) := (blk_cells HR6.out.block).1 15; have e15 : w6.frozen? ⟨B, 15, none⟩ = false := (blk_cells HR6.out.block).2 15; have HO6 := hide hown6; clear hgrow6 hown6 hat6))
        all_goals
          have HR7 := hide (HR6.out.setArgs (.slice (some ⟨g2, 0, none⟩) (j + 1) cap2))
          have HS7 := hide (HS6.out.setB hB 15 (.slice (some ⟨g2, 0, none⟩) (j + 1) cap2))
          have HO7 := hide (ownsRow_setCell_below HO6.out (a := ⟨B, 15, none⟩) (by simp; omega) (.slice (some ⟨g2, 0, none⟩) (j + 1) cap2))
          clear HR6 HS6 HO6 d15 e15 c15 x0 x1 x2 p0 p1
          generalize w6.setCell ⟨B, 15, none⟩ (.slice (some ⟨g2, 0, none⟩) (j + 1) cap2) = Y at *
          rw [onNormal_normal]
          go_wp2_with fail
          go_step3
          obtain ⟨z1, z2⟩ := HZ.out
          refine ⟨⟨k, j + 1, o, t, r, some ⟨g2, 0, none⟩, cap2, ⟨_, rfl, rfl, rfl, rfl, rfl, rfl⟩, HS7.out, HR7.out, by omega, HH.out, HL.out, ?_, ?_⟩, ?_⟩
          · rw [argsN_snoc, z2, List.flatMap_append]; exact HO7.out
          · intro i hi
            by_cases hij : i = j
            · subst hij; exact z1
            · exact HGOOD.out i (by omega)
          · unfold ReadM
            rw [if_neg (by omega), if_neg (by omega), if_pos rfl, HR7.out.pos]
            have := HN.out
            omega
      · have hE1 : (E != 0) = true := by simpa using hE0
        have HR0 := hide (HBAD.out hE0)
        have kS := HS5.out.res
        obtain ⟨cp, fp⟩ := blk_cells kS
        have r0 := cp 0
        have r1 := cp 1
        obtain ⟨x1, x2⟩ := two_putB kS (.int .i64 E) (.int .i64 P)
        have HG := hide (grown_put HS5.out.grown x2)
        have HX1 := hide x1
        clear cp kS x1 x2 hE0 HBAD HGA HRD5 HROW5 HK5 HP5 hend
        rw [onNormal_normal]
        go_wp2_with fail
        generalize (X.setCell ⟨w.heap.size, 0, none⟩ (.int .i64 E)).setCell ⟨w.heap.size, 1, none⟩ (.int .i64 P) = Z at *
        rw [jumps_ret]
        exact HRET.out _ Z E P rfl rfl HX1.out HG.out (.inl ⟨by simpa using hE1, HR0.out⟩)

end Go.Proofs.YtddkapkkjhomkaaGreatDoor

/-
  A reader's whole line, of the layer asm: the passes from its operation and from its arguments on.
-/
namespace Go.Proofs.YtddkapkkjhomkaaGreatDoor
open Go.RowKit
set_option linter.unusedVariables false
set_option linter.unusedSimpArgs false
set_option maxRecDepth 10000
attribute [local go_sem] jumps_normal jumps_exit jumps_ret jumps_panic jumps_goto onNormal_normal

set_option maxHeartbeats 4000000 in
theorem read_args (w : World) (B : Nat) (a : Option Addr) (n c : Nat) (len b : Int) (l : List TokT) (R : LineR) (Q : Exit → Act → World → Prop) (hB : B < w.heap.size) (hn : 32 * n ≤ 140737488351232)
    (hP : ∀ N a1 w1, ReadJ w B a n c len b l R 3 a1 w1 → ReadM B n 3 a1 w1 ≤ N → (behind (findLabel (scopeOf (Tryz.f133.body.getD .skip)) 3)).wp Tryz.prog (jumps (fun l' a' w' => ReadJ w B a n c len b l R l' a' w' ∧ ReadM B n l' a' w' < N) Q) a1 w1)
    (N : Nat) (a1 : Act) (w1 : World) (hJ : ReadJ w B a n c len b l R 1 a1 w1) (hN : ReadM B n 1 a1 w1 ≤ N) :
    (behind (findLabel (scopeOf (Tryz.f133.body.getD .skip)) 1)).wp Tryz.prog (jumps (fun l' a' w' => ReadJ w B a n c len b l R l' a' w' ∧ ReadM B n l' a' w' < N) Q) a1 w1 := by
  obtain ⟨k, o, t, r, ⟨f, rfl, hsz, h0, h2, h3, h4⟩, hS, hR, hkn, hH, hL⟩ := hJ
  have HN : Hid (n + 3 ≤ N) := by
    unfold ReadM at hN
    rw [if_neg (by omega), if_pos rfl] at hN
    exact hN
  clear hN
  conv => arg 2; whnf
  rw [frame111 f hsz, h0, h2, h3, h4]
  clear h0 h2 h3 h4 hsz
  obtain ⟨i0, hi, hz0, hz1, hz2⟩ := info_parts ArgI.info
  obtain ⟨w2, hrun, hown, hgrow⟩ := run_make_own (P := Tryz.prog) w1.drew (w.heap.size + 3) 36 67 i0 (.agg #[.int .u8 0, .int .u32 0, .string ⟨#[]⟩]) 3 Tryz.underlying36 hi hz0 hz1 .i64 .i64 (n - k) (by rw [hz2]; omega) (by unfold maxLen; omega) (by show w.heap.size + 3 ≤ w1.heap.size; have := hS.size; omega)
  have hb2 : Below w1.heap.size w1 w2 := ((below_drew w1).trans ((Below.refl _ w1.drew).grown hgrow (Nat.le_refl _) (by simp)))
  have HS2 := hide (hS.below hB hb2)
  have HR2 := hide (hR.below hb2)
  have HO2 := hide hown
  have HH := hide hH
  have HL := hide hL
  have c0 : w1.cell? ⟨B, 0, none⟩ = some (.slice a n c) := (blk_cells hR.block).1 0
  have c1 : w1.cell? ⟨B, 1, none⟩ = some (.int .i64 (k : Int)) := (blk_cells hR.block).1 1
  have d15 : w2.cell? ⟨B, 15, none⟩ = some (.slice none 0 0) := (blk_cells HR2.out.block).1 15
  have e15 : w2.frozen? ⟨B, 15, none⟩ = false := (blk_cells HR2.out.block).2 15
  have hsub : IntKind.i64.wrap ((n : Int) - (k : Int)) = ((n - k : Nat) : Int) := by rw [IntKind.wrap_i64]; omega
  generalize n - k = m at *
  have esz : w1.drew.heap.size = w1.heap.size := rfl
  rw [esz] at hrun HO2
  clear hown hgrow hb2 hS hR hH hL hi hz0 hz1 hz2 esz
  go_wp2_with fail
  refine wp_norm ?_
  go_region
  all_goals
    have HR3 := hide (HR2.out.setArgs (.slice (some ⟨w1.heap.size, 0, none⟩) 0 m))
    have HS3 := hide (HS2.out.setB hB 15 (.slice (some ⟨w1.heap.size, 0, none⟩) 0 m))
    have HO3 := hide (ownsRow_setCell_below HO2.out (a := ⟨B, 15, none⟩) (by simp; omega) (.slice (some ⟨w1.heap.size, 0, none⟩) 0 m))
    clear HR2 HS2 HO2 d15 e15 c0 c1 hrun hsub
    generalize w2.setCell ⟨B, 15, none⟩ (.slice (some ⟨w1.heap.size, 0, none⟩) 0 m) = Y at *
    rw [onNormal_normal]
    go_wp2_with fail
    refine wp_label ?_
    rename_i Kx hKx
    refine hKx _ _ (hP N _ Y ⟨k, 0, o, t, r, some ⟨w1.heap.size, 0, none⟩, m, ⟨_, rfl, rfl, rfl, rfl, rfl, rfl⟩, HS3.out, HR3.out, by omega, HH.out, HL.out, HO3.out, fun i hi => by omega⟩ ?_)
    unfold ReadM
    rw [if_neg (by omega), if_neg (by omega), if_pos rfl, HR3.out.pos]
    have := HN.out
    omega

/-- The spot's box is written. -/
theorem ReaS.spotted {w w1 : World} {B : Nat} (h : ReaS w B w1) (v0 v1 : Value) : ReaS w B ((w1.setCell ⟨w.heap.size + 2, 0, none⟩ v0).setCell ⟨w.heap.size + 2, 1, none⟩ v1) ∧
    ((w1.setCell ⟨w.heap.size + 2, 0, none⟩ v0).setCell ⟨w.heap.size + 2, 1, none⟩ v1).heap[w.heap.size + 2]? = some (.cells #[v0, v1] 28 (0, 0)) ∧
    Below (w.heap.size + 2) w1 ((w1.setCell ⟨w.heap.size + 2, 0, none⟩ v0).setCell ⟨w.heap.size + 2, 1, none⟩ v1) := by
  obtain ⟨y0, y1, hy⟩ := h.spot
  obtain ⟨g1, g2⟩ := two_putB hy v0 v1
  exact ⟨h.at2 g2 g1, g1, g2⟩

set_option maxHeartbeats 4000000 in
theorem read_op (w : World) (B : Nat) (a : Option Addr) (n c : Nat) (len b : Int) (l : List TokT) (R : LineR) (Q : Exit → Act → World → Prop) (hB : B < w.heap.size) (hl : l.length = n) (hn : 32 * n ≤ 140737488351232) (hin : ToksIn l) (hkd : ∀ t ∈ l, t.1 ≠ 0) (hv : ToksV w a l) (hfar : ∀ g off, a = some ⟨g, off, none⟩ → g ≠ B) (h1 : 0 < n) (hret : ReadRet w B a n c len b R Q)
    (hP : ∀ N a1 w1, ReadJ w B a n c len b l R 1 a1 w1 → ReadM B n 1 a1 w1 ≤ N → (behind (findLabel (scopeOf (Tryz.f133.body.getD .skip)) 1)).wp Tryz.prog (jumps (fun l' a' w' => ReadJ w B a n c len b l R l' a' w' ∧ ReadM B n l' a' w' < N) Q) a1 w1)
    (N : Nat) (a1 : Act) (w1 : World) (hJ : ReadJ w B a n c len b l R 0 a1 w1) (hN : ReadM B n 0 a1 w1 ≤ N) :
    (behind (findLabel (scopeOf (Tryz.f133.body.getD .skip)) 0)).wp Tryz.prog (jumps (fun l' a' w' => ReadJ w B a n c len b l R l' a' w' ∧ ReadM B n l' a' w' < N) Q) a1 w1 := by
  obtain ⟨k, ⟨f, rfl, hsz, h0, h2, h3, h4⟩, hS, hR, hkn, hL⟩ := hJ
  have HN : Hid (n + 4 ≤ N) := by
    unfold ReadM at hN
    rw [if_pos rfl] at hN
    exact hN
  clear hN
  conv => arg 2; whnf
  rw [frame111 f hsz, h0, h2, h3, h4]
  clear h0 h2 h3 h4 hsz
  have hOp := operation_any B a n c k len b 0 noFrm 0 0 (.slice none 0 0) 0 l w1 hR (toks_kept hv hS.grown hfar) hl hn hin hkn h1 hfar
  have HS := hide hS
  have HV := hide hv
  have HL := hide hL
  have HIN := hide hin
  have HKD := hide hkd
  have HFAR := hide hfar
  have HLL := hide hl
  have HRET := hide hret
  have HP := hide hP
  clear hS hv hL hin hkd hfar hl hret hR hP
  go_wp2_with fail
  refine hOp.mono ?_
  rintro x w2 ⟨E, P, rfl, hg2, hq2⟩
  have S2 := HS.out.next hB hg2
  obtain ⟨y0, y1, hy⟩ := S2.spot
  obtain ⟨cy, fy⟩ := blk_cells hy
  have by0 := cy 0
  have by1 := cy 1
  obtain ⟨S3, k3, b3⟩ := S2.spotted (.int .i64 E) (.int .i64 P)
  have HS3 := hide S3
  have HK3 := hide k3
  have HB3 := hide b3
  have HSZ := hide S2.size
  unfold OpA at hq2
  rcases hq2 with ⟨hE, hO⟩ | ⟨hE, hkn2, o, r, hO, hres, hRd⟩
  · have hE1 : (E != 0) = true := by simpa using hE
    have HR0 := hide (HL.out.trans hO)
    have HE0 := hide hE
    obtain ⟨cq, fq⟩ := blk_cells S2.res
    have r0 := cq 0
    have r1 := cq 1
    obtain ⟨x1, x2⟩ := two_putB S3.res (.int .i64 E) (.int .i64 P)
    have HG := hide (grown_put S3.grown x2)
    have HX1 := hide x1
    clear hOp S2 hy cy cq S3 k3 b3 x1 x2 hE hO hg2 HS HB3
    go_wp2_with fail
    generalize (((w2.setCell ⟨w.heap.size + 2, 0, none⟩ (.int .i64 E)).setCell ⟨w.heap.size + 2, 1, none⟩ (.int .i64 P)).setCell ⟨w.heap.size, 0, none⟩ (.int .i64 E)).setCell ⟨w.heap.size, 1, none⟩ (.int .i64 P) = Z at *
    rw [jumps_ret]
    exact HRET.out _ Z E P rfl rfl HX1.out HG.out (.inl ⟨HE0.out, HR0.out⟩)
  · subst hE
    have HR0 := hide (HL.out.trans hO)
    have HRES := hide hres
    have HRD := hide (hRd.belowAt b3 (by omega))
    have c6 : w2.cell? ⟨B, 6, none⟩ = some (.bool (opF o).2.1) := (blk_cells hRd.block).1 6
    have nB : B ≠ w.heap.size + 2 := by omega
    have HKN := hide hkn2
    clear hO hres hRd HL hOp S2 hy cy S3 k3 b3 hg2 HS hkn2
    generalize hty : (opF o).2.1 = ty at c6
    cases ty
    · have HJ := hide (show HeadOk o 0 r b from ⟨HRES.out, by rw [hty]; simp [idE], by omega, by omega⟩)
      have HR1 := hide (HR0.out.trans (show lineT o (opF o) r l (k + 1) len b = _ by unfold lineT; rw [if_pos hty]))
      clear hty
      go_wp2_with fail
      go_step3
      generalize (w2.setCell ⟨w.heap.size + 2, 0, none⟩ (.int .i64 0)).setCell ⟨w.heap.size + 2, 1, none⟩ (.int .i64 P) = X at *
      refine ⟨⟨k + 1, o, 0, r, ⟨_, rfl, rfl, rfl, rfl, rfl, rfl⟩, HS3.out, HRD.out, HKN.out, HJ.out, HR1.out⟩, ?_⟩
      have := HN.out
      show n + 3 < N
      omega
    · have HTY := hide hty
      clear hty
      go_wp2_with fail
      generalize (w2.setCell ⟨w.heap.size + 2, 0, none⟩ (.int .i64 0)).setCell ⟨w.heap.size + 2, 1, none⟩ (.int .i64 P) = X at *
      clear by0 by1 fy c6
      have hArg := argument_any B a n c (k + 1) len b _ 105 l X HRD.out (toks_kept HV.out HS3.out.grown HFAR.out) HLL.out hn HIN.out HKD.out HKN.out
      obtain ⟨A, hA⟩ : ∃ A, A = argQ 105 l (k + 1) len b := ⟨_, rfl⟩
      rw [← hA] at hArg
      have HA := hide hA
      clear hA
      obtain ⟨⟨A1, A2, A3⟩, E, PP⟩ := A
      unfold argV at hArg
      simp only at hArg
      refine hArg.mono ?_
      rintro x w4 ⟨rfl, hg4, hr4⟩
      have S4 := HS3.out.next hB hg4
      obtain ⟨x0, x1, x2, hx⟩ := S4.box
      obtain ⟨y0, y1, hy⟩ := S4.spot
      obtain ⟨cx1, fx1⟩ := blk_cells hx
      obtain ⟨cy1, fy1⟩ := blk_cells hy
      have bx0 := cx1 0
      have bx1 := cx1 1
      have bx2 := cx1 2
      have by0 := cy1 0
      have by1 := cy1 1
      obtain ⟨S5, k5, p5, b5, _⟩ := S4.wrote (.int .u8 A1) (.int .u32 A2) (.string A3) (.int .i64 E) (.int .i64 PP)
      have HS5 := hide S5
      have HK5 := hide k5
      have hbad : E ≠ 0 → R = noLine E PP := fun hE => by
        have hh := HA.out
        unfold argQ at hh
        rw [HR0.out]
        unfold lineT
        rw [if_neg (by rw [HTY.out]; simp)]
        by_cases hq : l.length ≤ k + 1
        · rw [if_pos hq] at hh ⊢
          simp only [Prod.mk.injEq] at hh
          rw [hh.2.1, hh.2.2]
        · rw [if_neg hq] at hh ⊢
          by_cases hz : argE 105 (nthT l (k + 1)) b = 0
          · rw [if_neg (by simpa using hz)] at hh
            simp only [Prod.mk.injEq] at hh
            exact absurd hh.2.1 hE
          · rw [if_pos hz] at hh ⊢
            simp only [Prod.mk.injEq] at hh
            rw [hh.2.1, hh.2.2]
      have hgood : E = 0 → k + 1 < n ∧ HeadOk o A2 r b ∧ R = lineA o (opF o) A2 r l (k + 2) len b := fun hE => by
        have hh := HA.out
        unfold argQ at hh
        have hR0 := HR0.out
        unfold lineT at hR0
        rw [if_neg (by rw [HTY.out]; simp)] at hR0
        by_cases hq : l.length ≤ k + 1
        · rw [if_pos hq] at hh
          simp only [Prod.mk.injEq] at hh
          omega
        · rw [if_neg hq] at hh hR0
          by_cases hz : argE 105 (nthT l (k + 1)) b = 0
          · rw [if_neg (by simpa using hz)] at hh hR0
            simp only [Prod.mk.injEq] at hh
            obtain ⟨q1, q2, q3, q4⟩ := arg_id hz
            have eA : (argA 105 (nthT l (k + 1)) b).2.1 = A2 := by rw [← hh.1]
            rw [eA] at q1 q2 q3 hR0
            exact ⟨by have := HLL.out; omega, ⟨HRES.out, by rw [HTY.out]; exact q1, q2, q3⟩, hR0⟩
          · rw [if_pos hz] at hh
            simp only [Prod.mk.injEq] at hh
            exact absurd (hh.2.1.symm.trans hE) hz
      by_cases hE0 : E = 0
      · subst hE0
        have HGD := hide (hgood rfl)
        have hrd4 : Rea w4 B a n c (k + 2) len b o (opF o) o 0 r (.slice none 0 0) 0 := hr4 rfl
        have d13 : w4.cell? ⟨B, 13, none⟩ = some (.int .u32 0) := (blk_cells hrd4.block).1 13
        have e13 : w4.frozen? ⟨B, 13, none⟩ = false := (blk_cells hrd4.block).2 13
        have HRD5 := hide (hrd4.belowAt b5 (by omega))
        have nB1 : B ≠ w.heap.size + 1 := by omega
        clear hArg hbad hgood S4 hx hy cx1 cy1 S5 k5 p5 b5 hg4 hr4 HR0 HA HS3 HRD hrd4
        go_wp2_with fail
        have HRD6 := hide (HRD5.out.setType A2)
        have HS6 := hide (HS5.out.setB hB 13 (.int .u32 A2))
        generalize (((((w4.setCell ⟨w.heap.size + 1, 0, none⟩ (.int .u8 A1)).setCell ⟨w.heap.size + 1, 1, none⟩ (.int .u32 A2)).setCell ⟨w.heap.size + 1, 2, none⟩ (.string A3)).setCell ⟨w.heap.size + 2, 0, none⟩ (.int .i64 0)).setCell ⟨w.heap.size + 2, 1, none⟩ (.int .i64 PP)).setCell ⟨B, 13, none⟩ (.int .u32 A2) = Y at *
        refine wp_label ?_
        rename_i Kx hKx
        obtain ⟨q1, q2, q3⟩ := HGD.out
        refine hKx _ _ (HP.out N _ Y ⟨k + 2, o, A2, r, ⟨_, rfl, rfl, rfl, rfl, rfl, rfl⟩, HS6.out, HRD6.out, q1, q2, q3⟩ ?_)
        have := HN.out
        show n + 3 ≤ N
        omega
      · have hE1 : (E != 0) = true := by simpa using hE0
        have HR1 := hide (hbad hE0)
        have HE0 := hide hE0
        obtain ⟨cq, fq⟩ := blk_cells S4.res
        have r0 := cq 0
        have r1 := cq 1
        obtain ⟨z1, z2⟩ := two_putB S5.res (.int .i64 E) (.int .i64 PP)
        have HG := hide (grown_put S5.grown z2)
        have HX1 := hide z1
        clear hArg hbad hgood S4 hx hy cx1 cy1 cq S5 k5 p5 b5 hg4 hr4 HR0 HA HS3 HRD z1 z2 hE0
        go_wp2_with fail
        generalize ((((((w4.setCell ⟨w.heap.size + 1, 0, none⟩ (.int .u8 A1)).setCell ⟨w.heap.size + 1, 1, none⟩ (.int .u32 A2)).setCell ⟨w.heap.size + 1, 2, none⟩ (.string A3)).setCell ⟨w.heap.size + 2, 0, none⟩ (.int .i64 E)).setCell ⟨w.heap.size + 2, 1, none⟩ (.int .i64 PP)).setCell ⟨w.heap.size, 0, none⟩ (.int .i64 E)).setCell ⟨w.heap.size, 1, none⟩ (.int .i64 PP) = Z at *
        rw [jumps_ret]
        exact HRET.out _ Z E PP rfl rfl HX1.out HG.out (.inl ⟨HE0.out, HR1.out⟩)

end Go.Proofs.YtddkapkkjhomkaaGreatDoor

/-
  What the method read of a reader returns, of the layer asm.
-/
namespace Go.Proofs.YtddkapkkjhomkaaGreatDoor
open Go.RowKit
set_option linter.unusedVariables false
set_option linter.unusedSimpArgs false
set_option maxRecDepth 10000
attribute [local go_sem] jumps_normal jumps_exit jumps_ret jumps_panic jumps_goto onNormal_normal

/-- What taking a token says. -/
def takeQ (l : List TokT) (k : Nat) (kd len : Int) : TokT × Int × Int :=
  if l.length ≤ k then (noTok, 72, len) else if (nthT l k).1 ≠ kd then (noTok, 70, (nthT l k).2.2) else (nthT l k, 0, 0)
theorem take_any7 (B : Nat) (a : Option Addr) (n c k : Nat) (len : Int) (rest : Array Value) (T : Nat) (l : List TokT) (kd : Int) (w : World) (h : RowAt w B a n c k len rest T) (hv : ToksV w a l) (hl : l.length = n) (hn : 32 * n ≤ 140737488351232) (hk : k ≤ n) :
    Calls Tryz.prog 171 #[.pointer (some ⟨B, 0, none⟩), .int .u8 kd] w fun e w' => e = .returned (.tuple #[tokV (takeQ l k kd len).1, .agg #[.int .i64 (takeQ l k kd len).2.1, .int .i64 (takeQ l k kd len).2.2]]) ∧ w.grownBy w' (some B) ∧ ((takeQ l k kd len).2.1 = 0 → RowAt w' B a n c (k + 1) len rest T) := by
  unfold takeQ
  by_cases h1 : l.length ≤ k
  · obtain rfl : k = n := by omega
    rw [if_pos h1]
    refine (take_early B a k c len rest T kd w h).mono ?_
    rintro e w' ⟨rfl, hb⟩
    exact ⟨rfl, grown_below2 hb _, fun h => by simp at h⟩
  · rw [if_neg h1]
    by_cases h2 : (nthT l k).1 = kd
    · rw [if_neg (by simpa using h2)]
      refine (take_ok B a n c k len rest T l kd w h hv hl hn (by omega) h2).mono ?_
      rintro e w' ⟨rfl, hR, hg⟩
      exact ⟨rfl, hg, fun _ => hR⟩
    · rw [if_pos h2]
      refine (take_wrong B a n c k len rest T l kd w h hv hl hn (by omega) h2).mono ?_
      rintro e w' ⟨rfl, hb⟩
      exact ⟨rfl, grown_below2 hb _, fun h => by simp at h⟩

set_option maxHeartbeats 4000000 in
theorem read_any (B : Nat) (a : Option Addr) (n c : Nat) (len b : Int) (l : List TokT) (w : World) (hR : Rea w B a n c 0 len b 0 noFrm 0 0 0 (.slice none 0 0) 0) (hv : ToksV w a l) (hl : l.length = n) (hn : 32 * n ≤ 140737488351232) (hin : ToksIn l) (hkd : ∀ t ∈ l, t.1 ≠ 0) (h1 : 0 < n) (hfar : ∀ g off, a = some ⟨g, off, none⟩ → g ≠ B) :
    Calls Tryz.prog 133 #[.pointer (some ⟨B, 0, none⟩)] w fun e w' => ∃ E P : Int, e = .returned (.agg #[.int .i64 E, .int .i64 P]) ∧ w.grownBy w' (some B) ∧ ReadQ w w' B a n c len b (lineP l len b) E P := by
  have hB := hR.lt
  obtain ⟨R, hRR⟩ : ∃ R, R = lineP l len b := ⟨_, rfl⟩
  rw [← hRR]
  have hret : ReadRet w B a n c len b R (bodyPost Tryz.prog Tryz.f133 fun e w' => ∃ E P : Int, e = .returned (.agg #[.int .i64 E, .int .i64 P]) ∧ w.grownBy w' (some B) ∧ ReadQ w w' B a n c len b R E P) := by
    intro a' w' E P q2 q3 q4 q5 q6
    have c0 : w'.cell? ⟨w.heap.size, 0, none⟩ = some (.int .i64 E) := by rw [Lib.cell_of_heap q4]; rfl
    have c1 : w'.cell? ⟨w.heap.size, 1, none⟩ = some (.int .i64 P) := by rw [Lib.cell_of_heap q4]; rfl
    refine bodyPost_ret (v := .agg #[.int .i64 E, .int .i64 P]) ?_ q3 ⟨E, P, rfl, q5, q6⟩
    simp only [results, Tryz.results133]
    have q2' : a'.tmps[2]?.getD undef = .pointer (some ⟨w.heap.size, 0, none⟩) := by rw [← Array.getD_eq_getD_getElem?]; exact q2
    simp [go_sem, q2', c0, c1]
  have HRET := hide hret
  have hb0 : Below w.heap.size w (((w.alloc (.cells #[.int .i64 0, .int .i64 0] 28)).alloc (.cells #[.int .u8 0, .int .u32 0, .string ⟨#[]⟩] 67)).alloc (.cells #[.int .i64 0, .int .i64 0] 28)) := (((Below.refl _ w).alloc (Nat.le_refl _) _).alloc (by simp) _).alloc (by simp; omega) _
  have hS : ReaS w B (((w.alloc (.cells #[.int .i64 0, .int .i64 0] 28)).alloc (.cells #[.int .u8 0, .int .u32 0, .string ⟨#[]⟩] 67)).alloc (.cells #[.int .i64 0, .int .i64 0] 28)) := by
    refine ⟨?_, ⟨.int .u8 0, .int .u32 0, .string ⟨#[]⟩, ?_⟩, ⟨.int .i64 0, .int .i64 0, ?_⟩, grown_below2 hb0 _⟩
    · rw [Below.heap_alloc _ _ _ (by simp; omega), Below.heap_alloc _ _ _ (by simp)]; exact heap_alloc_new w _
    · rw [Below.heap_alloc _ _ _ (by simp)]; simpa using heap_alloc_new (w.alloc (.cells #[.int .i64 0, .int .i64 0] 28)) (.cells #[.int .u8 0, .int .u32 0, .string ⟨#[]⟩] 67)
    · simpa using heap_alloc_new ((w.alloc (.cells #[.int .i64 0, .int .i64 0] 28)).alloc (.cells #[.int .u8 0, .int .u32 0, .string ⟨#[]⟩] 67)) (.cells #[.int .i64 0, .int .i64 0] 28)
  have hR0 := hR.below hb0
  have hv0 := hv.below hb0
  have HS := hide hS
  have HR := hide hR0
  have HV0 := hide hv0
  have HV := hide hv
  have HIN := hide hin
  have HKD := hide hkd
  have HFAR := hide hfar
  have HLL := hide hl
  have HRR := hide hRR
  clear hret hb0 hS hR hR0 hv0 hv hin hkd hfar hRR
  go_enter Tryz.func133, Tryz.ntmps133
  go_wp2_with fail
  refine wp_scope_ranked (ReadJ w B a n c len b l R) (ReadM B n) (fun l => if l = 2 then 0 else if l = 3 then 1 else if l = 1 then 2 else 3) ?hf ?pass ?first
  case hf =>
    intro l a w1 hJ
    match l, hJ with
    | 0, _ => rfl
    | 1, _ => rfl
    | 2, _ => rfl
    | 3, _ => rfl
  case pass =>
    intro l' hprev N a1 w1 hJ hN
    match l', hJ with
    | 0, hJ => exact read_op w B a n c len b l R _ hB hl hn HIN.out HKD.out HV.out HFAR.out h1 HRET.out (hprev 1 (by decide)) N a1 w1 hJ hN
    | 1, hJ => exact read_args w B a n c len b l R _ hB hn (hprev 3 (by decide)) N a1 w1 hJ hN
    | 2, hJ => exact read_end w B a n c len b l R _ _ hB hl hn HIN.out HRET.out a1 w1 hJ
    | 3, hJ => exact read_next w B a n c len b l R _ hB hl hn HIN.out HKD.out HV.out HFAR.out HRET.out N a1 w1 hJ hN
  case first =>
    intro hP
    have HP := hide hP
    clear hP
    have hSy := says_any B a n c 0 len _ _ l _ HR.out HV0.out hl h1
    by_cases h2 : (nthT l 0).1 = 2
    · rw [show ((nthT l 0).1 == 2) = true by simpa using h2] at hSy
      go_wp2_with fail
      generalize ((w.alloc (.cells #[.int .i64 0, .int .i64 0] 28)).alloc (.cells #[.int .u8 0, .int .u32 0, .string ⟨#[]⟩] 67)).alloc (.cells #[.int .i64 0, .int .i64 0] 28) = W at *
      have hc1 : W.cell? ⟨B, 1, none⟩ = some (.int .i64 0) := (blk_cells HR.out.block).1 1
      have hf1 : W.frozen? ⟨B, 1, none⟩ = false := (blk_cells HR.out.block).2 1
      have HT := hide (take_any7 B a n c 1 len _ _ l 5 (W.setCell ⟨B, 1, none⟩ (.int .i64 1)) HR.out.setNext (toks_kept HV0.out (grown_set (World.grownBy.refl W (some B)) 1 _) HFAR.out) hl hn (by omega))
      have HS1 := hide (HS.out.setB hB 1 (.int .i64 1))
      refine hSy.mono ?_
      rintro e w' ⟨rfl, rfl⟩
      clear hSy
      go_wp2_with fail
      generalize W.setCell ⟨B, 1, none⟩ (.int .i64 1) = W1 at *
      have HQ := hide (show takeQ l 1 5 len = takeQ l 1 5 len from rfl)
      obtain ⟨A, hA⟩ : ∃ A, A = takeQ l 1 5 len := ⟨_, rfl⟩
      have hT := HT.out
      rw [← hA] at hT
      have HA := hide hA
      clear hA HT hc1 hf1 HQ
      obtain ⟨⟨A1, A2, A3⟩, E, P⟩ := A
      unfold tokV at hT
      simp only at hT
      refine hT.mono ?_
      rintro e w2 ⟨rfl, hg2, hr2⟩
      have S2 := HS1.out.next hB hg2
      obtain ⟨y0, y1, hy⟩ := S2.spot
      obtain ⟨cy, fy⟩ := blk_cells hy
      have by0 := cy 0
      have by1 := cy 1
      obtain ⟨S3, k3, b3⟩ := S2.spotted (.int .i64 E) (.int .i64 P)
      have HS3 := hide S3
      by_cases hE : E = 0
      · subst hE
        have HL : Hid (R = lineO ((nthT l 0).1 == 2) l 2 len b ∧ 2 ≤ n) := by
          show _ ∧ _
          rw [HRR.out, show ((nthT l 0).1 == 2) = true by simpa using h2]
          have hh := HA.out
          unfold takeQ at hh
          unfold lineP
          rw [if_neg (by simpa using h2)]
          by_cases hq : l.length ≤ 1
          · rw [if_pos hq] at hh
            simp only [Prod.mk.injEq] at hh
            omega
          · rw [if_neg hq] at hh
            rw [if_neg (by omega)]
            by_cases hz : (nthT l 1).1 = 5
            · rw [if_neg (by simpa using hz)]
              exact ⟨rfl, by omega⟩
            · rw [if_pos hz] at hh
              simp only [Prod.mk.injEq] at hh
              omega
        have HRD := hide ((show Rea w2 B a n c 2 len b 0 noFrm 0 0 0 (.slice none 0 0) 0 from hr2 rfl).belowAt b3 (by omega))
        clear hT S2 hy cy S3 k3 b3 hg2 hr2 HS HS1 HR HV0 HA
        go_wp2_with fail
        generalize (w2.setCell ⟨w.heap.size + 2, 0, none⟩ (.int .i64 0)).setCell ⟨w.heap.size + 2, 1, none⟩ (.int .i64 P) = Y at *
        refine wp_label ?_
        rename_i Kx hKx
        exact hKx _ _ (HP.out 0 _ Y ⟨2, ⟨_, rfl, rfl, rfl, rfl, rfl, rfl⟩, HS3.out, HRD.out, HL.out.2, HL.out.1⟩)
      · have hE1 : (E != 0) = true := by simpa using hE
        have HE0 := hide hE
        have HR0 : Hid (R = noLine E P) := by
          show _ = _
          rw [HRR.out]
          have hh := HA.out
          unfold takeQ at hh
          unfold lineP
          rw [if_neg (by simpa using h2)]
          by_cases hq : l.length ≤ 1
          · rw [if_pos hq] at hh
            simp only [Prod.mk.injEq] at hh
            rw [if_pos (by omega), hh.2.1, hh.2.2]
          · rw [if_neg hq] at hh
            rw [if_neg (by omega)]
            by_cases hz : (nthT l 1).1 = 5
            · rw [if_neg (by simpa using hz)] at hh
              simp only [Prod.mk.injEq] at hh
              exact absurd hh.2.1 hE
            · rw [if_pos hz] at hh ⊢
              simp only [Prod.mk.injEq] at hh
              rw [hh.2.1, hh.2.2]
        obtain ⟨cq, fq⟩ := blk_cells S2.res
        have r0 := cq 0
        have r1 := cq 1
        obtain ⟨x1, x2⟩ := two_putB S3.res (.int .i64 E) (.int .i64 P)
        have HG := hide (grown_put S3.grown x2)
        have HX1 := hide x1
        clear hT S2 hy cy cq S3 k3 b3 hg2 hr2 HS HS1 HR HV0 HA x1 x2 hE HP
        go_wp2_with fail
        generalize (((w2.setCell ⟨w.heap.size + 2, 0, none⟩ (.int .i64 E)).setCell ⟨w.heap.size + 2, 1, none⟩ (.int .i64 P)).setCell ⟨w.heap.size, 0, none⟩ (.int .i64 E)).setCell ⟨w.heap.size, 1, none⟩ (.int .i64 P) = Z at *
        rw [jumps_ret]
        exact HRET.out _ Z E P rfl rfl HX1.out HG.out (.inl ⟨HE0.out, HR0.out⟩)
    · rw [show ((nthT l 0).1 == 2) = false by simpa using h2] at hSy
      have HL : Hid (R = lineO ((nthT l 0).1 == 2) l 0 len b) := by
        show _ = _
        rw [HRR.out, show ((nthT l 0).1 == 2) = false by simpa using h2]
        unfold lineP
        rw [if_pos h2]
      go_wp2_with fail
      generalize ((w.alloc (.cells #[.int .i64 0, .int .i64 0] 28)).alloc (.cells #[.int .u8 0, .int .u32 0, .string ⟨#[]⟩] 67)).alloc (.cells #[.int .i64 0, .int .i64 0] 28) = W at *
      refine hSy.mono ?_
      rintro e w' ⟨rfl, rfl⟩
      clear hSy
      go_wp2_with fail
      go_step3
      exact ⟨0, ⟨_, rfl, rfl, rfl, rfl, rfl, rfl⟩, HS.out, HR.out, Nat.zero_le _, HL.out⟩

end Go.Proofs.YtddkapkkjhomkaaGreatDoor

/-
  What the method number of a row of tokens returns, of the layer asm.
-/
namespace Go.Proofs.YtddkapkkjhomkaaGreatDoor
open Go.RowKit
set_option linter.unusedVariables false
set_option linter.unusedSimpArgs false
set_option maxRecDepth 10000

set_option maxHeartbeats 2000000 in
/-- Where the token is not taken. -/
theorem number_bad (B : Nat) (w : World) (e p : Int) (he : e ≠ 0)
    (hT : ∀ wx, Below w.heap.size w wx → Calls Tryz.prog 171 #[.pointer (some ⟨B, 0, none⟩), .int .u8 3] wx fun x w' => x = .returned (.tuple #[tokV noTok, .agg #[.int .i64 e, .int .i64 p]]) ∧ Below wx.heap.size wx w') :
    Calls Tryz.prog 173 #[.pointer (some ⟨B, 0, none⟩)] w fun x w' => x = .returned (.tuple #[.int .u32 0, tokV noTok, .agg #[.int .i64 e, .int .i64 p]]) ∧ Below w.heap.size w w' := by
  have he' : (e != 0) = true := by simp [he]
  obtain ⟨kT, kS, hb⟩ := tok_spot_boxes w
  have hC := hT _ hb
  unfold tokV noTok at hC ⊢
  clear hT he
  go_enter Tryz.func173, Tryz.ntmps173
  go_wp2_with fail
  generalize (w.alloc (.cells #[.int .u8 0, .string ⟨#[]⟩, .int .i64 0] 106)).alloc (.cells #[.int .i64 0, .int .i64 0] 28) = W at *
  refine hC.mono ?_
  rintro x w1 ⟨rfl, hb1⟩
  have hba : Below w1.heap.size w1 ((w1.alloc (.cells #[.int .u8 0, .string ⟨#[]⟩, .int .i64 0] 106)).alloc (.cells #[.int .i64 e, .int .i64 p] 28)) := ((Below.refl _ w1).alloc (Nat.le_refl _) _).alloc (by simp) _
  have hb1a := hb1.trans (hba.mono hb1.size)
  have sS := (Array.getElem?_eq_some_iff.1 kS).1
  have s1 : w.heap.size + 1 < w1.heap.size := Nat.lt_of_lt_of_le sS hb1.size
  have HT := hide ((hb1a.block _ (by omega)).trans kT)
  have HS := hide ((hb1a.block _ sS).trans kS)
  have HB := hide (hb.trans (hb1a.mono hb.size))
  have kA : ((w1.alloc (.cells #[.int .u8 0, .string ⟨#[]⟩, .int .i64 0] 106)).alloc (.cells #[.int .i64 e, .int .i64 p] 28)).heap[w1.heap.size]? = some (.cells #[.int .u8 0, .string ⟨#[]⟩, .int .i64 0] 106 (0, 0)) := (Below.heap_alloc _ _ _ (by simp)).trans (heap_alloc_new w1 _)
  have kC : ((w1.alloc (.cells #[.int .u8 0, .string ⟨#[]⟩, .int .i64 0] 106)).alloc (.cells #[.int .i64 e, .int .i64 p] 28)).heap[w1.heap.size + 1]? = some (.cells #[.int .i64 e, .int .i64 p] 28 (0, 0)) := by simpa using heap_alloc_new (w1.alloc (.cells #[.int .u8 0, .string ⟨#[]⟩, .int .i64 0] 106)) (.cells #[.int .i64 e, .int .i64 p] 28)
  have HA := hide kA
  have HC := hide kC
  clear hC hb1 hba hb1a kT kS hb sS kA kC
  go_wp2_with fail
  generalize (w1.alloc (.cells #[.int .u8 0, .string ⟨#[]⟩, .int .i64 0] 106)).alloc (.cells #[.int .i64 e, .int .i64 p] 28) = W2 at *
  obtain ⟨cz, _⟩ := blk_cells HA.out
  obtain ⟨cy, _⟩ := blk_cells HC.out
  obtain ⟨ct, ft⟩ := blk_cells HT.out
  obtain ⟨cp, fp⟩ := blk_cells HS.out
  have y0 := cz 0
  have y1 := cz 1
  have y2 := cz 2
  have v0 := cy 0
  have v1 := cy 1
  have t0 := ct 0
  have t1 := ct 1
  have t2 := ct 2
  have p0 := cp 0
  have p1 := cp 1
  obtain ⟨x1, x2, x3⟩ := five_drew HT.out HS.out (.int .u8 0) (.string ⟨#[]⟩) (.int .i64 0) (.int .i64 e) (.int .i64 p)
  have HY := hide (HB.out.trans x3)
  have HY1 := hide x1
  have HY2 := hide x2
  have n1 : w1.heap.size ≠ w.heap.size := by omega
  have n2 : w1.heap.size + 1 ≠ w.heap.size := by omega
  have n3 : w1.heap.size ≠ w.heap.size + 1 := by omega
  have n4 : w1.heap.size + 1 ≠ w.heap.size + 1 := by omega
  clear x1 x2 x3 cz cy ct cp HT HS HA HC HB
  go_region
  generalize (((((W2.setCell ⟨w.heap.size, 0, none⟩ (.int .u8 0)).setCell ⟨w.heap.size, 1, none⟩ (.string ⟨#[]⟩)).setCell ⟨w.heap.size, 2, none⟩ (.int .i64 0)).setCell ⟨w.heap.size + 1, 0, none⟩ (.int .i64 e)).setCell ⟨w.heap.size + 1, 1, none⟩ (.int .i64 p)).drew = X at *
  clear y0 y1 y2 v0 v1 t0 t1 t2 p0 p1 ft fp
  go_wp2
  obtain ⟨e1, _⟩ := blk_cells HY1.out
  obtain ⟨e2, _⟩ := blk_cells HY2.out
  have a0 := e1 0
  have a1 := e1 1
  have a2 := e1 2
  have b0 := e2 0
  have b1 := e2 1
  refine bodyPost_ret (v := .tuple #[.int .u32 0, .agg #[.int .u8 0, .string ⟨#[]⟩, .int .i64 0], .agg #[.int .i64 e, .int .i64 p]]) ?_ rfl ⟨rfl, HY.out⟩
  simp [results, Tryz.results173, go_sem, a0, a1, a2, b0, b1]

set_option maxHeartbeats 4000000 in
/-- Where it is. -/
theorem number_ok (B : Nat) (a : Option Addr) (n c k : Nat) (len : Int) (rest : Array Value) (T : Nat) (l : List TokT) (w : World) (h : RowAt w B a n c k len rest T) (hv : ToksV w a l) (hl : l.length = n) (hn : 32 * n ≤ 140737488351232) (hk : k < n) (hkd : (nthT l k).1 = 3) (hsz : (nthT l k).2.1.size ≤ 140737488351232) :
    Calls Tryz.prog 173 #[.pointer (some ⟨B, 0, none⟩)] w fun x w' => x = .returned (.tuple #[.int .u32 (numOut (strI (nthT l k).2.1)), tokV (nthT l k), .agg #[.int .i64 (numErr (strI (nthT l k).2.1)), .int .i64 (fltA (numErr (strI (nthT l k).2.1)) (nthT l k).2.2)]]) ∧ RowAt w' B a n c (k + 1) len rest T ∧ w.grownBy w' (some B) := by
  obtain ⟨kT, kS, hb⟩ := tok_spot_boxes w
  have hC := take_ok B a n c k len rest T l 3 _ (h.below hb) (hv.below hb) hl hn hk hkd
  have hlt := h.lt
  have hN := fun wx => lexNumber_any (nthT l k).2.1 wx hsz
  have hFA := fun wx => faultAt_any (nthT l k) (numErr (strI (nthT l k).2.1)) wx
  generalize numErr (strI (nthT l k).2.1) = ne at *
  generalize numOut (strI (nthT l k).2.1) = no at *
  generalize nthT l k = z at *
  obtain ⟨z1, z2, z3⟩ := z
  unfold tokV at hC hFA ⊢
  simp only at hC hFA hN ⊢
  generalize fltA ne z3 = fp0 at *
  clear h hv hl hn hk hkd hsz
  go_enter Tryz.func173, Tryz.ntmps173
  go_wp2_with fail
  generalize (w.alloc (.cells #[.int .u8 0, .string ⟨#[]⟩, .int .i64 0] 106)).alloc (.cells #[.int .i64 0, .int .i64 0] 28) = W at *
  refine hC.mono ?_
  rintro x w1 ⟨rfl, hR1, hg1⟩
  have hba : Below w1.heap.size w1 ((w1.alloc (.cells #[.int .u8 z1, .string z2, .int .i64 z3] 106)).alloc (.cells #[.int .i64 0, .int .i64 0] 28)) := ((Below.refl _ w1).alloc (Nat.le_refl _) _).alloc (by simp) _
  have sS := (Array.getElem?_eq_some_iff.1 kS).1
  have s1 : w.heap.size + 1 < w1.heap.size := Nat.lt_of_lt_of_le sS hg1.size
  have HT := hide ((hba.block _ (by omega)).trans ((hg1.block _ (by omega) (by simp; omega)).trans kT))
  have HS := hide ((hba.block _ s1).trans ((hg1.block _ sS (by simp; omega)).trans kS))
  have hg : w.grownBy ((w1.alloc (.cells #[.int .u8 z1, .string z2, .int .i64 z3] 106)).alloc (.cells #[.int .i64 0, .int .i64 0] 28)) (some B) :=
    ⟨hba.os.trans (hg1.os.trans hb.os), hba.tape.trans (hg1.tape.trans hb.tape), hba.output.trans (hg1.output.trans hb.output), Nat.le_trans hb.size (Nat.le_trans hg1.size hba.size), fun j hj hr => (hba.block j (by omega)).trans ((hg1.block j (Nat.lt_of_lt_of_le hj hb.size) hr).trans (hb.block j hj))⟩
  have HG := hide hg
  have HR := hide (hR1.below hba)
  have kA : ((w1.alloc (.cells #[.int .u8 z1, .string z2, .int .i64 z3] 106)).alloc (.cells #[.int .i64 0, .int .i64 0] 28)).heap[w1.heap.size]? = some (.cells #[.int .u8 z1, .string z2, .int .i64 z3] 106 (0, 0)) := (Below.heap_alloc _ _ _ (by simp)).trans (heap_alloc_new w1 _)
  have HA := hide kA
  have sA : w1.heap.size + 1 < ((w1.alloc (.cells #[.int .u8 z1, .string z2, .int .i64 z3] 106)).alloc (.cells #[.int .i64 0, .int .i64 0] 28)).heap.size := by simp
  clear hC hg1 hR1 hba kT kS hb sS kA hg
  go_wp2_with fail
  generalize (w1.alloc (.cells #[.int .u8 z1, .string z2, .int .i64 z3] 106)).alloc (.cells #[.int .i64 0, .int .i64 0] 28) = W2 at *
  refine (hN _).mono ?_
  rintro x w' ⟨rfl, rfl⟩
  clear hN
  obtain ⟨cz, _⟩ := blk_cells HA.out
  obtain ⟨ct, ft⟩ := blk_cells HT.out
  obtain ⟨cp, fp⟩ := blk_cells HS.out
  have y0 := cz 0
  have y1 := cz 1
  have y2 := cz 2
  have t0 := ct 0
  have t1 := ct 1
  have t2 := ct 2
  have p0 := cp 0
  have p1 := cp 1
  have n1 : w1.heap.size ≠ w.heap.size := by omega
  have n3 : w1.heap.size ≠ w.heap.size + 1 := by omega
  have sw : w.heap.size + 1 < W2.heap.size := by omega
  have sw2 : w.heap.size < W2.heap.size := by omega
  clear cz ct cp
  go_wp2_with fail
  go_region_with ((go_at_call 172; refine (hFA _).mono ?_; rintro x w3 ⟨rfl, hbx⟩; have m0 := hbx.cell (p := ⟨w.heap.size, 0, none⟩) (by simp; omega); have m1 := hbx.cell (p := ⟨w.heap.size, 1, none⟩) (by simp; omega); have m2 := hbx.cell (p := ⟨w.heap.size, 2, none⟩) (by simp; omega); have m3 := hbx.cell (p := ⟨w.heap.size + 1, 0, none⟩) (by simp; omega); have m4 := hbx.cell (p := ⟨w.heap.size + 1, 1, none⟩) (by simp; omega); have m5 := hbx.frozen (p := ⟨w.heap.size, 0, none⟩) (by simp; omega); have m6 := hbx.frozen (p := ⟨w.heap.size, 1, none⟩) (by simp; omega); have m7 := hbx.frozen (p := ⟨w.heap.size, 2, none⟩) (by simp; omega); have m8 := hbx.frozen (p := ⟨w.heap.size + 1, 0, none⟩) (by simp; omega); have m9 := hbx.frozen (p := ⟨w.heap.size + 1, 1, none⟩) (by simp; omega); have l0 := hbx.cell (p := ⟨w1.heap.size, 0, none⟩) (by simp; omega); have l1 := hbx.cell (p := ⟨w1.heap.size, 1, none⟩) (by simp; omega); have l2 := hbx.cell (p := ⟨w1.heap.size, 2, none⟩) (by simp; omega); have HBX := hide hbx))
  all_goals
    have hbx := HBX.out
    have sB := HR.out.lt
    have kT3 := (hbx.block w.heap.size (by simp; omega)).trans HT.out
    have kS3 := (hbx.block (w.heap.size + 1) (by simp; omega)).trans HS.out
    have hR3 := (hbx.block B (by simp; omega)).trans HR.out
    have hg3 : w.grownBy w3 (some B) := ⟨hbx.os.trans HG.out.os, hbx.tape.trans HG.out.tape, hbx.output.trans HG.out.output, Nat.le_trans HG.out.size hbx.size, fun j hj hr => (hbx.block j (by simp; omega)).trans (HG.out.block j hj hr)⟩
    obtain ⟨x1, x2, x3⟩ := five_put kT3 kS3 (.int .u8 z1) (.string z2) (.int .i64 z3) (.int .i64 ne) (.int .i64 fp0)
    have hRX := (x3.block B hlt).trans hR3
    have hgX := grown_put hg3 x3
    have HRX := hide hRX
    have HGX := hide hgX
    have HY1 := hide x1
    have HY2 := hide x2
    clear hbx kT3 kS3 hR3 hg3 x1 x2 x3 hRX hgX m0 m1 m2 m3 m4 m5 m6 m7 m8 m9 l0 l1 l2 HBX y0 y1 y2 t0 t1 t2 p0 p1 ft fp HT HS HR HG HA hFA
    generalize ((((w3.setCell ⟨w.heap.size, 0, none⟩ (.int .u8 z1)).setCell ⟨w.heap.size, 1, none⟩ (.string z2)).setCell ⟨w.heap.size, 2, none⟩ (.int .i64 z3)).setCell ⟨w.heap.size + 1, 0, none⟩ (.int .i64 ne)).setCell ⟨w.heap.size + 1, 1, none⟩ (.int .i64 fp0) = X at *
    go_wp2
    obtain ⟨e1, _⟩ := blk_cells HY1.out
    obtain ⟨e2, _⟩ := blk_cells HY2.out
    have a0 := e1 0
    have a1 := e1 1
    have a2 := e1 2
    have b0 := e2 0
    have b1 := e2 1
    refine bodyPost_ret (v := .tuple #[.int .u32 no, .agg #[.int .u8 z1, .string z2, .int .i64 z3], .agg #[.int .i64 ne, .int .i64 fp0]]) ?_ rfl ⟨rfl, HRX.out, HGX.out⟩
    simp [results, Tryz.results173, go_sem, a0, a1, a2, b0, b1]

end Go.Proofs.YtddkapkkjhomkaaGreatDoor
