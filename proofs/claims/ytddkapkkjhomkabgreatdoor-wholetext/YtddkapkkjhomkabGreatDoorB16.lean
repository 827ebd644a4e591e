/-
  Texts laid together in one: AsmTakeW, AsmTakeO, AsmArg, AsmArgO, AsmSays, AsmRd, GrammarNamed, AsmOp.
-/
import Derived.WalkSpells
import Derived.WalkMore
import Derived.BigRegion
import Derived.Test.YtddkapkkjhomkabGreatDoorProg
import Derived.Test.YtddkapkkjhomkabGreatDoorB15
import Derived.Deep.RegionWith
import Derived.Test.YtddkapkkjhomkabGreatDoorB04
import Derived.RangeFuncNested
import Derived.RangeFuncBound
import Derived.RangeFuncCalls
import Derived.RangeFuncLeaves
import Derived.Shelf.Abstract
import Derived.Shelf.RegionOpen
import Derived.WalkKit
import Derived.OwnWalkIn
import Derived.TacticsInMore
import Derived.LoopNIn
import Derived.LoopIn
import Derived.Test.YtddkapkkjhomkabGreatDoorB05
import Derived.Test.YtddkapkkjhomkabGreatDoorB11
import Derived.Deep.QuietTactic
import Derived.BigQuiet
/-
  What the method take of a row of tokens returns, of the layer asm: the next token is of another kind.
-/
namespace Go.Proofs.YtddkapkkjhomkabGreatDoor
open Go.RowKit
set_option linter.unusedVariables false
set_option linter.unusedSimpArgs false
set_option maxRecDepth 10000

set_option maxHeartbeats 2000000 in
theorem take_wrong (B : Nat) (a : Option Addr) (n c k : Nat) (len : Int) (rest : Array Value) (T : Nat) (l : List TokT) (kd : Int) (w : World) (h : RowAt w B a n c k len rest T) (hv : ToksV w a l) (hl : l.length = n) (hn : 32 * n ≤ 140737488351232) (hk : k < n) (hkd : (nthT l k).1 ≠ kd) :
    Calls Tryz.prog 145 #[.pointer (some ⟨B, 0, none⟩), .int .u8 kd] w fun e w' => e = .returned (.tuple #[tokV noTok, .agg #[.int .i64 70, .int .i64 (nthT l k).2.2]]) ∧ Below w.heap.size w w' := by
  obtain ⟨z, hz⟩ : ∃ z, z = nthT l k := ⟨_, rfl⟩
  rw [← hz] at hkd ⊢
  obtain ⟨z1, z2, z3⟩ := z
  simp only at hkd ⊢
  have HZN := hide hz
  clear hz
  obtain ⟨kT, kS, hb⟩ := tok_spot_boxes w
  have hR := h.below hb
  have hE := ended_any B a n c k len rest T _ hR
  rw [show ((k : Int) == (n : Int)) = false by simp; omega] at hE
  have hlt := h.lt
  have hV := hv.below hb
  clear h hv
  go_enter Tryz.func145, Tryz.ntmps145
  go_wp2_with fail
  generalize (w.alloc (.cells #[.int .u8 0, .string ⟨#[]⟩, .int .i64 0] 41)).alloc (.cells #[.int .i64 0, .int .i64 0] 28) = W at *
  refine hE.mono ?_
  rintro e w1 ⟨rfl, q, rfl⟩
  have hbq := bel_drewN (Below.refl W.heap.size W) q
  have sS := (Array.getElem?_eq_some_iff.1 kS).1
  have kT1 := (hbq.block _ (by omega)).trans kT
  have kS1 := (hbq.block _ sS).trans kS
  have hR1 := hR.below hbq
  have hV1 := hV.below hbq
  have hb1 := hb.trans (hbq.mono hb.size)
  have s1 : w.heap.size + 1 < (W.drewN q).heap.size := Nat.lt_of_lt_of_le sS hbq.size
  clear hE hbq kT kS hR hb sS hV
  generalize W.drewN q = W1 at *
  obtain ⟨r0, r1, r2, rf⟩ := hR1.cells
  obtain ⟨g1, o1, rfl, hg1, q1, q2, q3⟩ := hV1 k (by omega)
  rw [← HZN.out] at q1 q2 q3
  simp only at q1 q2 q3
  clear HZN
  have hki : (k : Int) < (n : Int) := by omega
  have hk0 : (0 : Int) ≤ (k : Int) := by omega
  have hne : B ≠ w.heap.size := by omega
  have hne1 : B ≠ w.heap.size + 1 := by omega
  have HB := hide hb1
  have HT := hide kT1
  have HS := hide kS1
  have HR := hide hR1
  have hB1 : B < W1.heap.size := hR1.lt
  have hkb : (k : Int) < 140737488351232 := by omega
  clear hR1 hb1 kT1 kS1 hV1 hl hn
  go_wp2
  go_region
  have hb2 : Below W1.heap.size W1 (W1.alloc (.cells #[.int .u8 z1, .string z2, .int .i64 z3] 41)).drew := ((Below.refl _ _).alloc (Nat.le_refl _) _).drew
  have kZ : (W1.alloc (.cells #[.int .u8 z1, .string z2, .int .i64 z3] 41)).drew.heap[W1.heap.size]? = some (.cells #[.int .u8 z1, .string z2, .int .i64 z3] 41 (0, 0)) := heap_alloc_new W1 _
  have HT2 := hide ((hb2.block _ (by omega)).trans HT.out)
  have HS2 := hide ((hb2.block _ s1).trans HS.out)
  have HR2 := hide (HR.out.below hb2)
  have HB2 := hide (HB.out.trans (hb2.mono (by omega)))
  have HZ := hide kZ
  have sz : W1.heap.size < (W1.alloc (.cells #[.int .u8 z1, .string z2, .int .i64 z3] 41)).drew.heap.size := (Array.getElem?_eq_some_iff.1 kZ).1
  have s2 : w.heap.size + 1 < W1.heap.size := s1
  clear hb2 kZ HT HS HR HB r0 r1 r2 rf q1 q2 q3 s1 hki hk0 hg1
  generalize (W1.alloc (.cells #[.int .u8 z1, .string z2, .int .i64 z3] 41)).drew = W2 at *
  obtain ⟨cz, fz⟩ := blk_cells HZ.out
  have y0 := cz 0
  have y1 := cz 1
  have y2 := cz 2
  clear cz HZ
  have hkd' : (z1 != kd) = true := by simp [hkd]
  have hFA := fun wx => faultAt_any (z1, z2, z3) 70 wx
  rw [show fltA 70 ((z1, z2, z3) : TokT).2.2 = z3 by unfold fltA; simp] at hFA
  unfold tokV at hFA
  simp only at hFA
  go_wp2_with fail
  refine (hFA _).mono ?_
  rintro e w3 ⟨rfl, hb3⟩
  have kT3 := (hb3.block _ (by omega)).trans HT2.out
  have kS3 := (hb3.block _ (by omega)).trans HS2.out
  have hb03 := HB2.out.trans (hb3.mono HB2.out.size)
  have s3 : w.heap.size + 1 < w3.heap.size := by have := hb3.size; omega
  obtain ⟨ct, ft⟩ := blk_cells kT3
  obtain ⟨cp, fp⟩ := blk_cells kS3
  have t0 := ct 0
  have t1 := ct 1
  have t2 := ct 2
  have p0 := cp 0
  have p1 := cp 1
  obtain ⟨x1, x2, x3⟩ := five_put kT3 kS3 (.int .u8 0) (.string ⟨#[]⟩) (.int .i64 0) (.int .i64 70) (.int .i64 z3)
  have HY := hide (hb03.trans x3)
  have HY1 := hide x1
  have HY2 := hide x2
  clear hFA hb3 hb03 kT3 kS3 ct cp x1 x2 x3 HT2 HS2 HB2 HR2 y0 y1 y2 fz
  go_wp2
  generalize ((((w3.setCell ⟨w.heap.size, 0, none⟩ (.int .u8 0)).setCell ⟨w.heap.size, 1, none⟩ (.string ⟨#[]⟩)).setCell ⟨w.heap.size, 2, none⟩ (.int .i64 0)).setCell ⟨w.heap.size + 1, 0, none⟩ (.int .i64 70)).setCell ⟨w.heap.size + 1, 1, none⟩ (.int .i64 z3) = X at *
  obtain ⟨z1, _⟩ := blk_cells HY1.out
  obtain ⟨z2, _⟩ := blk_cells HY2.out
  have a0 := z1 0
  have a1 := z1 1
  have a2 := z1 2
  have b0 := z2 0
  have b1 := z2 1
  refine bodyPost_ret (v := .tuple #[tokV noTok, .agg #[.int .i64 70, .int .i64 z3]]) ?_ rfl ⟨rfl, HY.out⟩
  simp [results, Tryz.results145, go_sem, a0, a1, a2, b0, b1, tokV, noTok]

end Go.Proofs.YtddkapkkjhomkabGreatDoor

/-
  What the method take of a row of tokens returns, of the layer asm: the next token is of that kind.
-/
namespace Go.Proofs.YtddkapkkjhomkabGreatDoor
open Go.RowKit
set_option linter.unusedVariables false
set_option linter.unusedSimpArgs false
set_option maxRecDepth 10000

set_option maxHeartbeats 2000000 in
theorem take_ok (B : Nat) (a : Option Addr) (n c k : Nat) (len : Int) (rest : Array Value) (T : Nat) (l : List TokT) (kd : Int) (w : World) (h : RowAt w B a n c k len rest T) (hv : ToksV w a l) (hl : l.length = n) (hn : 32 * n ≤ 140737488351232) (hk : k < n) (hkd : (nthT l k).1 = kd) :
    Calls Tryz.prog 145 #[.pointer (some ⟨B, 0, none⟩), .int .u8 kd] w fun e w' => e = .returned (.tuple #[tokV (nthT l k), .agg #[.int .i64 0, .int .i64 0]]) ∧ RowAt w' B a n c (k + 1) len rest T ∧ w.grownBy w' (some B) := by
  obtain ⟨z, hz⟩ : ∃ z, z = nthT l k := ⟨_, rfl⟩
  rw [← hz] at hkd ⊢
  obtain ⟨z1, z2, z3⟩ := z
  simp only at hkd ⊢
  subst hkd
  have HZN := hide hz
  clear hz
  obtain ⟨kT, kS, hb⟩ := tok_spot_boxes w
  have hR := h.below hb
  have hE := ended_any B a n c k len rest T _ hR
  rw [show ((k : Int) == (n : Int)) = false by simp; omega] at hE
  have hlt := h.lt
  have hV := hv.below hb
  clear h hv
  go_enter Tryz.func145, Tryz.ntmps145
  go_wp2_with fail
  generalize (w.alloc (.cells #[.int .u8 0, .string ⟨#[]⟩, .int .i64 0] 41)).alloc (.cells #[.int .i64 0, .int .i64 0] 28) = W at *
  refine hE.mono ?_
  rintro e w1 ⟨rfl, q, rfl⟩
  have hbq := bel_drewN (Below.refl W.heap.size W) q
  have sS := (Array.getElem?_eq_some_iff.1 kS).1
  have kT1 := (hbq.block _ (by omega)).trans kT
  have kS1 := (hbq.block _ sS).trans kS
  have hR1 := hR.below hbq
  have hV1 := hV.below hbq
  have hb1 := hb.trans (hbq.mono hb.size)
  have s1 : w.heap.size + 1 < (W.drewN q).heap.size := Nat.lt_of_lt_of_le sS hbq.size
  clear hE hbq kT kS hR hb sS hV
  generalize W.drewN q = W1 at *
  obtain ⟨r0, r1, r2, rf⟩ := hR1.cells
  obtain ⟨g1, o1, rfl, hg1, q1, q2, q3⟩ := hV1 k (by omega)
  rw [← HZN.out] at q1 q2 q3
  simp only at q1 q2 q3
  clear HZN
  have hki : (k : Int) < (n : Int) := by omega
  have hk0 : (0 : Int) ≤ (k : Int) := by omega
  have hne : B ≠ w.heap.size := by omega
  have hne1 : B ≠ w.heap.size + 1 := by omega
  have HB := hide hb1
  have HT := hide kT1
  have HS := hide kS1
  have HR := hide hR1
  have hB1 : B < W1.heap.size := hR1.lt
  have hkb : (k : Int) < 140737488351232 := by omega
  have hnb : (n : Int) ≤ 140737488351232 := by omega
  clear hR1 hb1 kT1 kS1 hV1 hl hn
  go_wp2
  go_region
  have hb2 : Below W1.heap.size W1 (W1.alloc (.cells #[.int .u8 z1, .string z2, .int .i64 z3] 41)).drew := ((Below.refl _ _).alloc (Nat.le_refl _) _).drew
  have kZ : (W1.alloc (.cells #[.int .u8 z1, .string z2, .int .i64 z3] 41)).drew.heap[W1.heap.size]? = some (.cells #[.int .u8 z1, .string z2, .int .i64 z3] 41 (0, 0)) := heap_alloc_new W1 _
  have HT2 := hide ((hb2.block _ (by omega)).trans HT.out)
  have HS2 := hide ((hb2.block _ s1).trans HS.out)
  have HR2 := hide (HR.out.below hb2)
  have HB2 := hide (HB.out.trans (hb2.mono (by omega)))
  have HZ := hide kZ
  have sz : W1.heap.size < (W1.alloc (.cells #[.int .u8 z1, .string z2, .int .i64 z3] 41)).drew.heap.size := (Array.getElem?_eq_some_iff.1 kZ).1
  have s2 : w.heap.size + 1 < W1.heap.size := s1
  clear hb2 kZ HT HS HR HB r0 r1 r2 rf q1 q2 q3 s1 hg1
  generalize (W1.alloc (.cells #[.int .u8 z1, .string z2, .int .i64 z3] 41)).drew = W2 at *
  obtain ⟨cz, fz⟩ := blk_cells HZ.out
  have y0 := cz 0
  have y1 := cz 1
  have y2 := cz 2
  clear cz HZ
  obtain ⟨r0, r1, r2, rf⟩ := HR2.out.cells
  obtain ⟨ct, ft⟩ := blk_cells HT2.out
  obtain ⟨cp, fp⟩ := blk_cells HS2.out
  have t0 := ct 0
  have t1 := ct 1
  have t2 := ct 2
  have p0 := cp 0
  have p1 := cp 1
  have hR3 := HR2.out.step
  have kT3 : (W2.setCell ⟨B, 1, none⟩ (.int .i64 ((k + 1 : Nat) : Int))).heap[w.heap.size]? = some (.cells #[.int .u8 0, .string ⟨#[]⟩, .int .i64 0] 41 (0, 0)) := (Below.heap_setCell _ _ _ _ (by simp; omega)).trans HT2.out
  have kS3 : (W2.setCell ⟨B, 1, none⟩ (.int .i64 ((k + 1 : Nat) : Int))).heap[w.heap.size + 1]? = some (.cells #[.int .i64 0, .int .i64 0] 28 (0, 0)) := (Below.heap_setCell _ _ _ _ (by simp; omega)).trans HS2.out
  have hg3 : w.grownBy (W2.setCell ⟨B, 1, none⟩ (.int .i64 ((k + 1 : Nat) : Int))) (some B) := ⟨HB2.out.os, HB2.out.tape, HB2.out.output, by have := HB2.out.size; simpa using this, fun j hj hr => (Below.heap_setCell _ _ _ _ (by simp at hr ⊢; omega)).trans (HB2.out.block j hj)⟩
  obtain ⟨x1, x2, x3⟩ := five_put kT3 kS3 (.int .u8 z1) (.string z2) (.int .i64 z3) (.int .i64 0) (.int .i64 0)
  have hgX : w.grownBy (((((((W2.setCell ⟨B, 1, none⟩ (.int .i64 ((k + 1 : Nat) : Int))).setCell ⟨w.heap.size, 0, none⟩ (.int .u8 z1)).setCell ⟨w.heap.size, 1, none⟩ (.string z2)).setCell ⟨w.heap.size, 2, none⟩ (.int .i64 z3)).setCell ⟨w.heap.size + 1, 0, none⟩ (.int .i64 0)).setCell ⟨w.heap.size + 1, 1, none⟩ (.int .i64 0))) (some B) :=
    ⟨x3.os.trans hg3.os, x3.tape.trans hg3.tape, x3.output.trans hg3.output, Nat.le_trans hg3.size x3.size, fun j hj hr => (x3.block j hj).trans (hg3.block j hj hr)⟩
  have hRX : RowAt (((((((W2.setCell ⟨B, 1, none⟩ (.int .i64 ((k + 1 : Nat) : Int))).setCell ⟨w.heap.size, 0, none⟩ (.int .u8 z1)).setCell ⟨w.heap.size, 1, none⟩ (.string z2)).setCell ⟨w.heap.size, 2, none⟩ (.int .i64 z3)).setCell ⟨w.heap.size + 1, 0, none⟩ (.int .i64 0)).setCell ⟨w.heap.size + 1, 1, none⟩ (.int .i64 0))) B (some ⟨g1, o1, none⟩) n c (k + 1) len rest T := (x3.block B hlt).trans hR3
  have HG := hide hgX
  have HRX := hide hRX
  have HY1 := hide x1
  have HY2 := hide x2
  have hcast : ((k : Int) + 1) = ((k + 1 : Nat) : Int) := by omega
  have HC := hide hcast
  clear hR3 kT3 kS3 hg3 x1 x2 x3 hgX hRX ct cp HT2 HS2 HB2 HR2 hcast
  have n1 : B ≠ W1.heap.size := by omega
  have n2 : W1.heap.size ≠ B := by omega
  have n3 : w.heap.size ≠ B := by omega
  have n4 : w.heap.size + 1 ≠ B := by omega
  have n5 : w.heap.size ≠ W1.heap.size := by omega
  have n6 : w.heap.size + 1 ≠ W1.heap.size := by omega
  have rf1 := rf 1
  have ft0 := ft 0
  have ft1 := ft 1
  have ft2 := ft 2
  have fp0 := fp 0
  have fp1 := fp 1
  clear rf ft fp fz hne hne1 hB1 hlt s2 sz
  have hk0 : (0 : Int) ≤ (k : Int) := by omega
  go_wp2
  rw [HC.out]
  generalize (((((W2.setCell ⟨B, 1, none⟩ (.int .i64 ((k + 1 : Nat) : Int))).setCell ⟨w.heap.size, 0, none⟩ (.int .u8 z1)).setCell ⟨w.heap.size, 1, none⟩ (.string z2)).setCell ⟨w.heap.size, 2, none⟩ (.int .i64 z3)).setCell ⟨w.heap.size + 1, 0, none⟩ (.int .i64 0)).setCell ⟨w.heap.size + 1, 1, none⟩ (.int .i64 0) = X at *
  obtain ⟨e1, _⟩ := blk_cells HY1.out
  obtain ⟨e2, _⟩ := blk_cells HY2.out
  have a0 := e1 0
  have a1 := e1 1
  have a2 := e1 2
  have b0 := e2 0
  have b1 := e2 1
  refine bodyPost_ret (v := .tuple #[tokV (z1, z2, z3), .agg #[.int .i64 0, .int .i64 0]]) ?_ rfl ⟨rfl, HRX.out, HG.out⟩
  simp [results, Tryz.results145, go_sem, a0, a1, a2, b0, b1, tokV]

end Go.Proofs.YtddkapkkjhomkabGreatDoor

/-
  What the method argument of a reader returns, of the layer asm.
-/
namespace Go.Proofs.YtddkapkkjhomkabGreatDoor
open Go.RowKit
set_option linter.unusedVariables false
set_option linter.unusedSimpArgs false
set_option maxRecDepth 10000

/-- A reader in memory: its row, its bound, and what stands behind. -/
def ReadAt (w : World) (B : Nat) (a : Option Addr) (n c k : Nat) (len b : Int) (rest : Array Value) : Prop := RowAt w B a n c k len (#[.int .u32 b] ++ rest) 203
theorem ReadAt.bound {w : World} {B : Nat} {a : Option Addr} {n c k : Nat} {len b : Int} {rest : Array Value} (h : ReadAt w B a n c k len b rest) : w.cell? ⟨B, 3, none⟩ = some (.int .u32 b) := by
  unfold ReadAt RowAt at h
  simp only [World.cell?, h]
  rw [Array.getElem?_append_right (by simp)]
  rw [Array.getElem?_append_left (by simp)]
  rfl

/-- Both results' boxes. -/
theorem arg_spot_boxes (w : World) : ((w.alloc (.cells #[.int .u8 0, .int .u32 0, .string ⟨#[]⟩] 87)).alloc (.cells #[.int .i64 0, .int .i64 0] 28)).heap[w.heap.size]? = some (.cells #[.int .u8 0, .int .u32 0, .string ⟨#[]⟩] 87 (0, 0)) ∧ ((w.alloc (.cells #[.int .u8 0, .int .u32 0, .string ⟨#[]⟩] 87)).alloc (.cells #[.int .i64 0, .int .i64 0] 28)).heap[w.heap.size + 1]? = some (.cells #[.int .i64 0, .int .i64 0] 28 (0, 0)) ∧ Below w.heap.size w ((w.alloc (.cells #[.int .u8 0, .int .u32 0, .string ⟨#[]⟩] 87)).alloc (.cells #[.int .i64 0, .int .i64 0] 28)) :=
  ⟨(Below.heap_alloc _ _ _ (by simp)).trans (heap_alloc_new w _), by simpa using heap_alloc_new (w.alloc (.cells #[.int .u8 0, .int .u32 0, .string ⟨#[]⟩] 87)) (.cells #[.int .i64 0, .int .i64 0] 28), ((Below.refl _ w).alloc (Nat.le_refl _) _).alloc (by simp) _⟩

set_option maxHeartbeats 4000000 in
/-- Where no token is taken. -/
theorem argument_bad (B : Nat) (a : Option Addr) (n c k : Nat) (len b : Int) (rest : Array Value) (ch : Int) (w : World) (e p : Int) (he : e ≠ 0) (h : ReadAt w B a n c k len b rest)
    (hT : ∀ wx, Below w.heap.size w wx → Calls Tryz.prog 145 #[.pointer (some ⟨B, 0, none⟩), .int .u8 (takeK ch)] wx fun x w' => x = .returned (.tuple #[tokV noTok, .agg #[.int .i64 e, .int .i64 p]]) ∧ Below wx.heap.size wx w') :
    Calls Tryz.prog 150 #[.pointer (some ⟨B, 0, none⟩), .int .u8 ch] w fun x w' => x = .returned (.tuple #[argV noArg, .agg #[.int .i64 e, .int .i64 p]]) ∧ Below w.heap.size w w' := by
  have he' : (e != 0) = true := by simp [he]
  obtain ⟨kT, kS, hb⟩ := arg_spot_boxes w
  have hTk := fun wx => taker_any7 ch b wx
  have hlt := RowAt.lt h
  have hR := RowAt.below h hb
  have c3 := ReadAt.bound (h := hR)
  have HT := hide kT
  have HS := hide kS
  have HB := hide hb
  unfold tokV noTok at hT
  have HTT := hide hT
  generalize takeK ch = tk at *
  generalize takerN ch = tn at *
  clear h hR kT kS hb he hT
  go_enter Tryz.func150, Tryz.ntmps150
  go_wp2_with fail
  generalize (w.alloc (.cells #[.int .u8 0, .int .u32 0, .string ⟨#[]⟩] 87)).alloc (.cells #[.int .i64 0, .int .i64 0] 28) = W at *
  refine (hTk _).mono ?_
  rintro x w1 ⟨rfl, hb1⟩
  have sS := (Array.getElem?_eq_some_iff.1 HS.out).1
  have hb01 := HB.out.trans (hb1.mono HB.out.size)
  have hC := HTT.out _ hb01
  have HT1 := hide ((hb1.block _ (by omega)).trans HT.out)
  have HS1 := hide ((hb1.block _ sS).trans HS.out)
  have s1 : w.heap.size + 1 < w1.heap.size := Nat.lt_of_lt_of_le sS hb1.size
  have HB1 := hide hb01
  clear hTk hb1 HT HS HB HTT hb01 c3 sS
  go_wp2_with fail
  refine hC.mono ?_
  rintro x w2 ⟨rfl, hb2⟩
  have hba : Below w2.heap.size w2 ((w2.alloc (.cells #[.int .u8 0, .string ⟨#[]⟩, .int .i64 0] 41)).alloc (.cells #[.int .i64 e, .int .i64 p] 28)) := ((Below.refl _ w2).alloc (Nat.le_refl _) _).alloc (by simp) _
  have hb2a := hb2.trans (hba.mono hb2.size)
  have HT2 := hide ((hb2a.block _ (by omega)).trans HT1.out)
  have HS2 := hide ((hb2a.block _ s1).trans HS1.out)
  have HB2 := hide (HB1.out.trans (hb2a.mono HB1.out.size))
  have kC : ((w2.alloc (.cells #[.int .u8 0, .string ⟨#[]⟩, .int .i64 0] 41)).alloc (.cells #[.int .i64 e, .int .i64 p] 28)).heap[w2.heap.size + 1]? = some (.cells #[.int .i64 e, .int .i64 p] 28 (0, 0)) := by simpa using heap_alloc_new (w2.alloc (.cells #[.int .u8 0, .string ⟨#[]⟩, .int .i64 0] 41)) (.cells #[.int .i64 e, .int .i64 p] 28)
  have HC := hide kC
  have s2 : w.heap.size + 1 < w2.heap.size := Nat.lt_of_lt_of_le s1 hb2.size
  clear hC hb2 hba hb2a kC HT1 HS1 HB1
  go_wp2_with fail
  generalize (w2.alloc (.cells #[.int .u8 0, .string ⟨#[]⟩, .int .i64 0] 41)).alloc (.cells #[.int .i64 e, .int .i64 p] 28) = W2 at *
  obtain ⟨cy, _⟩ := blk_cells HC.out
  obtain ⟨ct, ft⟩ := blk_cells HT2.out
  obtain ⟨cp, fp⟩ := blk_cells HS2.out
  have v0 := cy 0
  have v1 := cy 1
  have t0 := ct 0
  have t1 := ct 1
  have t2 := ct 2
  have p0 := cp 0
  have p1 := cp 1
  obtain ⟨x1, x2, x3⟩ := five_drew HT2.out HS2.out (.int .u8 0) (.int .u32 0) (.string ⟨#[]⟩) (.int .i64 e) (.int .i64 p)
  have HY := hide (HB2.out.trans x3)
  have HY1 := hide x1
  have HY2 := hide x2
  have n2 : w2.heap.size + 1 ≠ w.heap.size := by omega
  have n4 : w2.heap.size + 1 ≠ w.heap.size + 1 := by omega
  clear x1 x2 x3 cy ct cp HT2 HS2 HC HB2
  go_region
  generalize (((((W2.setCell ⟨w.heap.size, 0, none⟩ (.int .u8 0)).setCell ⟨w.heap.size, 1, none⟩ (.int .u32 0)).setCell ⟨w.heap.size, 2, none⟩ (.string ⟨#[]⟩)).setCell ⟨w.heap.size + 1, 0, none⟩ (.int .i64 e)).setCell ⟨w.heap.size + 1, 1, none⟩ (.int .i64 p)).drew = X at *
  clear v0 v1 t0 t1 t2 p0 p1 ft fp
  go_wp2
  obtain ⟨e1, _⟩ := blk_cells HY1.out
  obtain ⟨e2, _⟩ := blk_cells HY2.out
  have a0 := e1 0
  have a1 := e1 1
  have a2 := e1 2
  have b0 := e2 0
  have b1 := e2 1
  refine bodyPost_ret (v := .tuple #[argV noArg, .agg #[.int .i64 e, .int .i64 p]]) ?_ rfl ⟨rfl, HY.out⟩
  simp [results, Tryz.results150, go_sem, a0, a1, a2, b0, b1, argV, noArg]

end Go.Proofs.YtddkapkkjhomkabGreatDoor

/-
  What the method argument of a reader returns, of the layer asm, where a token is taken.
-/
namespace Go.Proofs.YtddkapkkjhomkabGreatDoor
open Go.RowKit
set_option linter.unusedVariables false
set_option linter.unusedSimpArgs false
set_option maxRecDepth 10000

set_option maxHeartbeats 8000000 in
theorem argument_ok (B : Nat) (a : Option Addr) (n c k : Nat) (len b : Int) (rest : Array Value) (ch : Int) (l : List TokT) (w : World) (h : ReadAt w B a n c k len b rest) (hv : ToksV w a l) (hl : l.length = n) (hn : 32 * n ≤ 140737488351232) (hk : k < n) (hkd : (nthT l k).1 = takeK ch) (hsz : (nthT l k).2.1.size ≤ 140737488351232) :
    Calls Tryz.prog 150 #[.pointer (some ⟨B, 0, none⟩), .int .u8 ch] w fun x w' => x = .returned (.tuple #[argV (txtA ch (nthT l k).2.1 b), .agg #[.int .i64 (txtE ch (nthT l k).2.1 b), .int .i64 (fltA (txtE ch (nthT l k).2.1 b) (nthT l k).2.2)]]) ∧ ReadAt w' B a n c (k + 1) len b rest ∧ w.grownBy w' (some B) := by
  obtain ⟨kT, kS, hb⟩ := arg_spot_boxes w
  have hTk := fun wx => taker_any7 ch b wx
  have hTo := fun (wx : World) (hb : Below w.heap.size w wx) => take_ok B a n c k len (#[Value.int .u32 b] ++ rest) 203 l (takeK ch) wx (RowAt.below (rest := #[Value.int .u32 b] ++ rest) (T := 203) h hb) (hv.below hb) hl hn hk hkd
  have hFn := fun wx => taken_any ch b (nthT l k).2.1 wx hsz
  have hFA := fun wx => faultAt_any (nthT l k) (txtE ch (nthT l k).2.1 b) wx
  have hlt := RowAt.lt h
  have hR := RowAt.below h hb
  have c3 := ReadAt.bound (h := hR)
  have hne : ∀ args w, (callFunc (takerN ch) args).run Tryz.prog w = .ok (.enter (takerN ch) args) w := by
    intro args w
    unfold takerN
    split
    · kernel_rfl
    · split
      · kernel_rfl
      · split
        · kernel_rfl
        · split
          · kernel_rfl
          · kernel_rfl
  generalize txtE ch (nthT l k).2.1 b = te at *
  generalize txtA ch (nthT l k).2.1 b = ta at *
  obtain ⟨f0, f1, f2⟩ := ta
  generalize nthT l k = z at *
  obtain ⟨z1, z2, z3⟩ := z
  simp only at hkd
  subst hkd
  unfold tokV at hTo hFA
  unfold argV at hFn ⊢
  simp only at hTo hFA hFn ⊢
  generalize fltA te z3 = fp0 at *
  have HT := hide kT
  have HS := hide kS
  have HB := hide hb
  have HTO := hide hTo
  generalize hz1 : takeK ch = z1 at *
  generalize takerN ch = tn at *
  clear h hR kT kS hb hTo hv hl hn hk hsz hz1
  go_enter Tryz.func150, Tryz.ntmps150
  go_wp2_with fail
  generalize (w.alloc (.cells #[.int .u8 0, .int .u32 0, .string ⟨#[]⟩] 87)).alloc (.cells #[.int .i64 0, .int .i64 0] 28) = W at *
  refine (hTk _).mono ?_
  rintro x w1 ⟨rfl, hb1⟩
  have sS := (Array.getElem?_eq_some_iff.1 HS.out).1
  have hb01 := HB.out.trans (hb1.mono HB.out.size)
  have hC := HTO.out _ hb01
  have HT1 := hide ((hb1.block _ (by omega)).trans HT.out)
  have HS1 := hide ((hb1.block _ sS).trans HS.out)
  have s1 : w.heap.size + 1 < w1.heap.size := Nat.lt_of_lt_of_le sS hb1.size
  have HB1 := hide hb01
  clear hTk hb1 HT HS HB HTO hb01 c3 sS
  go_wp2_with fail
  refine hC.mono ?_
  rintro x w2 ⟨rfl, hR2, hg2⟩
  have hba : Below w2.heap.size w2 ((w2.alloc (.cells #[.int .u8 z1, .string z2, .int .i64 z3] 41)).alloc (.cells #[.int .i64 0, .int .i64 0] 28)) := ((Below.refl _ w2).alloc (Nat.le_refl _) _).alloc (by simp) _
  have s2 : w.heap.size + 1 < w2.heap.size := Nat.lt_of_lt_of_le s1 hg2.size
  have HT2 := hide ((hba.block _ (by omega)).trans ((hg2.block _ (by omega) (by simp; omega)).trans HT1.out))
  have HS2 := hide ((hba.block _ s2).trans ((hg2.block _ s1 (by simp; omega)).trans HS1.out))
  have HR2 := hide (RowAt.below hR2 hba)
  have hg : w.grownBy ((w2.alloc (.cells #[.int .u8 z1, .string z2, .int .i64 z3] 41)).alloc (.cells #[.int .i64 0, .int .i64 0] 28)) (some B) :=
    ⟨hba.os.trans (hg2.os.trans HB1.out.os), hba.tape.trans (hg2.tape.trans HB1.out.tape), hba.output.trans (hg2.output.trans HB1.out.output), Nat.le_trans HB1.out.size (Nat.le_trans hg2.size hba.size), fun j hj hr => (hba.block j (by omega)).trans ((hg2.block j (Nat.lt_of_lt_of_le hj HB1.out.size) hr).trans (HB1.out.block j hj))⟩
  have HG2 := hide hg
  have kA : ((w2.alloc (.cells #[.int .u8 z1, .string z2, .int .i64 z3] 41)).alloc (.cells #[.int .i64 0, .int .i64 0] 28)).heap[w2.heap.size]? = some (.cells #[.int .u8 z1, .string z2, .int .i64 z3] 41 (0, 0)) := (Below.heap_alloc _ _ _ (by simp)).trans (heap_alloc_new w2 _)
  have HA2 := hide kA
  have sA : w2.heap.size + 1 < ((w2.alloc (.cells #[.int .u8 z1, .string z2, .int .i64 z3] 41)).alloc (.cells #[.int .i64 0, .int .i64 0] 28)).heap.size := by simp
  clear hC hR2 hg2 hba kA hg HT1 HS1 HB1
  go_wp2_with fail
  generalize (w2.alloc (.cells #[.int .u8 z1, .string z2, .int .i64 z3] 41)).alloc (.cells #[.int .i64 0, .int .i64 0] 28) = W2 at *
  refine (hFn _).mono ?_
  rintro x w3 ⟨rfl, hb3⟩
  have hba : Below w3.heap.size w3 (w3.alloc (.cells #[.int .u8 f0, .int .u32 f1, .string f2] 87)) := (Below.refl _ w3).alloc (Nat.le_refl _) _
  have hb3a := hb3.trans (hba.mono hb3.size)
  have sR := HR2.out.lt
  have HT3 := hide ((hb3a.block _ (by omega)).trans HT2.out)
  have HS3 := hide ((hb3a.block _ (by omega)).trans HS2.out)
  have HR3 := hide (RowAt.below HR2.out hb3a)
  have HA3 := hide ((hb3a.block _ (by omega)).trans HA2.out)
  have HF3 := hide (heap_alloc_new w3 (.cells #[.int .u8 f0, .int .u32 f1, .string f2] 87))
  have HG3 := hide (show w.grownBy (w3.alloc (.cells #[.int .u8 f0, .int .u32 f1, .string f2] 87)) (some B) from ⟨hb3a.os.trans HG2.out.os, hb3a.tape.trans HG2.out.tape, hb3a.output.trans HG2.out.output, Nat.le_trans HG2.out.size hb3a.size, fun j hj hr => (hb3a.block j (Nat.lt_of_lt_of_le hj HG2.out.size)).trans (HG2.out.block j hj hr)⟩)
  have s3 : w2.heap.size + 1 < w3.heap.size := Nat.lt_of_lt_of_le sA hb3.size
  clear hFn hne hb3 hba hb3a HT2 HS2 HR2 HA2 HG2
  go_wp2_with fail
  generalize w3.alloc (.cells #[.int .u8 f0, .int .u32 f1, .string f2] 87) = W3 at *
  obtain ⟨cz, _⟩ := blk_cells HA3.out
  obtain ⟨cf, _⟩ := blk_cells HF3.out
  obtain ⟨ct, ft⟩ := blk_cells HT3.out
  obtain ⟨cp, fp⟩ := blk_cells HS3.out
  have y0 := cz 0
  have y1 := cz 1
  have y2 := cz 2
  have g0 := cf 0
  have g1 := cf 1
  have g2 := cf 2
  have t0 := ct 0
  have t1 := ct 1
  have t2 := ct 2
  have p0 := cp 0
  have p1 := cp 1
  have n1 : w2.heap.size ≠ w.heap.size := by omega
  have n3 : w2.heap.size ≠ w.heap.size + 1 := by omega
  have n5 : w3.heap.size ≠ w.heap.size := by omega
  have n6 : w3.heap.size ≠ w.heap.size + 1 := by omega
  have sW3 : w3.heap.size < W3.heap.size := (Array.getElem?_eq_some_iff.1 HF3.out).1
  clear cz cf ct cp
  go_region_with ((go_at_call 146; refine (hFA _).mono ?_; rintro x w4 ⟨rfl, hbx⟩; have m0 := hbx.cell (p := ⟨w.heap.size, 0, none⟩) (by simp; omega); have m1 := hbx.cell (p := ⟨w.heap.size, 1, none⟩) (by simp; omega); have m2 := hbx.cell (p := ⟨w.heap.size, 2, none⟩) (by simp; omega); have m3 := hbx.cell (p := ⟨w.heap.size + 1, 0, none⟩) (by simp; omega); have m4 := hbx.cell (p := ⟨w.heap.size + 1, 1, none⟩) (by simp; omega); have m5 := hbx.frozen (p := ⟨w.heap.size, 0, none⟩) (by simp; omega); have m6 := hbx.frozen (p := ⟨w.heap.size, 1, none⟩) (by simp; omega); have m7 := hbx.frozen (p := ⟨w.heap.size, 2, none⟩) (by simp; omega); have m8 := hbx.frozen (p := ⟨w.heap.size + 1, 0, none⟩) (by simp; omega); have m9 := hbx.frozen (p := ⟨w.heap.size + 1, 1, none⟩) (by simp; omega); have l0 := hbx.cell (p := ⟨w3.heap.size, 0, none⟩) (by simp; omega); have l1 := hbx.cell (p := ⟨w3.heap.size, 1, none⟩) (by simp; omega); have l2 := hbx.cell (p := ⟨w3.heap.size, 2, none⟩) (by simp; omega); have HBX := hide hbx))
  all_goals
    have hbx := HBX.out
    have kT4 := (hbx.block w.heap.size (by simp; omega)).trans HT3.out
    have kS4 := (hbx.block (w.heap.size + 1) (by simp; omega)).trans HS3.out
    have hR4 := (hbx.block B (by simp; omega)).trans HR3.out
    have hg4 : w.grownBy w4 (some B) := ⟨hbx.os.trans HG3.out.os, hbx.tape.trans HG3.out.tape, hbx.output.trans HG3.out.output, Nat.le_trans HG3.out.size hbx.size, fun j hj hr => (hbx.block j (by simp; omega)).trans (HG3.out.block j hj hr)⟩
    obtain ⟨x1, x2, x3⟩ := five_put kT4 kS4 (.int .u8 f0) (.int .u32 f1) (.string f2) (.int .i64 te) (.int .i64 fp0)
    have hRX := (x3.block B hlt).trans hR4
    have hgX := grown_put hg4 x3
    have HRX := hide hRX
    have HGX := hide hgX
    have HY1 := hide x1
    have HY2 := hide x2
    clear hbx kT4 kS4 hR4 hg4 x1 x2 x3 hRX hgX m0 m1 m2 m3 m4 m5 m6 m7 m8 m9 l0 l1 l2 HBX y0 y1 y2 g0 g1 g2 t0 t1 t2 p0 p1 ft fp HT3 HS3 HR3 HG3 HA3 HF3 hFA
    generalize ((((w4.setCell ⟨w.heap.size, 0, none⟩ (.int .u8 f0)).setCell ⟨w.heap.size, 1, none⟩ (.int .u32 f1)).setCell ⟨w.heap.size, 2, none⟩ (.string f2)).setCell ⟨w.heap.size + 1, 0, none⟩ (.int .i64 te)).setCell ⟨w.heap.size + 1, 1, none⟩ (.int .i64 fp0) = X at *
    go_wp2
    obtain ⟨e1, _⟩ := blk_cells HY1.out
    obtain ⟨e2, _⟩ := blk_cells HY2.out
    have a0 := e1 0
    have a1 := e1 1
    have a2 := e1 2
    have b0 := e2 0
    have b1 := e2 1
    refine bodyPost_ret (v := .tuple #[.agg #[.int .u8 f0, .int .u32 f1, .string f2], .agg #[.int .i64 te, .int .i64 fp0]]) ?_ rfl ⟨rfl, HRX.out, HGX.out⟩
    simp [results, Tryz.results150, go_sem, a0, a1, a2, b0, b1]

end Go.Proofs.YtddkapkkjhomkabGreatDoor

/-
  What the method saysResult of a reader returns; what argument returns, in one form.
-/
namespace Go.Proofs.YtddkapkkjhomkabGreatDoor
open Go.RowKit
set_option linter.unusedVariables false
set_option linter.unusedSimpArgs false
set_option maxRecDepth 10000

set_option maxHeartbeats 2000000 in
theorem says_any (B : Nat) (a : Option Addr) (n c k : Nat) (len : Int) (rest : Array Value) (T : Nat) (l : List TokT) (w : World) (h : RowAt w B a n c k len rest T) (hv : ToksV w a l) (hl : l.length = n) (hn : 0 < n) :
    Calls Tryz.prog 148 #[.pointer (some ⟨B, 0, none⟩)] w fun e w' => e = .returned (.bool ((nthT l 0).1 == 2)) ∧ w = w' := by
  obtain ⟨c0, c1, c2, cf⟩ := h.cells
  obtain ⟨g1, o1, rfl, hg1, t1, t2, t3⟩ := hv 0 (by omega)
  simp only [Nat.zero_mul, Nat.add_zero] at t1
  have hn0 : (0 : Int) < (n : Int) := by omega
  generalize (nthT l 0).1 = z1 at *
  clear h hv hl hn t2 t3
  go_enter Tryz.func148, Tryz.ntmps148
  go_wp2
  go_ret
  exact ⟨rfl, rfl⟩

/-- What is wrong with the token at a place as an argument, and where. -/
def argQ (ch : Int) (l : List TokT) (k : Nat) (len b : Int) : ArgT × Int × Int :=
  if l.length ≤ k then (noArg, 72, len) else if argE ch (nthT l k) b ≠ 0 then (noArg, argE ch (nthT l k) b, (nthT l k).2.2) else (argA ch (nthT l k) b, 0, 0)

theorem argument_any (B : Nat) (a : Option Addr) (n c k : Nat) (len b : Int) (rest : Array Value) (ch : Int) (l : List TokT) (w : World) (h : ReadAt w B a n c k len b rest) (hv : ToksV w a l) (hl : l.length = n) (hn : 32 * n ≤ 140737488351232) (hin : ToksIn l) (hkd : ∀ t ∈ l, t.1 ≠ 0) (hk : k ≤ n) :
    Calls Tryz.prog 150 #[.pointer (some ⟨B, 0, none⟩), .int .u8 ch] w fun x w' => x = .returned (.tuple #[argV (argQ ch l k len b).1, .agg #[.int .i64 (argQ ch l k len b).2.1, .int .i64 (argQ ch l k len b).2.2]]) ∧ w.grownBy w' (some B) ∧ ((argQ ch l k len b).2.1 = 0 → ReadAt w' B a n c (k + 1) len b rest) := by
  unfold argQ
  by_cases h1 : l.length ≤ k
  · obtain rfl : k = n := by omega
    rw [if_pos h1]
    refine (argument_bad B a k c k len b rest ch w 72 len (by decide) h fun wx hb => take_early B a k c len _ _ (takeK ch) wx (RowAt.below h hb)).mono ?_
    rintro x w' ⟨rfl, hb⟩
    exact ⟨rfl, grown_below2 hb _, fun h => by simp at h⟩
  · rw [if_neg h1]
    have hm : nthT l k ∈ l := by rw [nthT_lt l k (by omega)]; exact List.getElem_mem _
    by_cases h2 : (nthT l k).1 = takeK ch
    · have h0 : takeK ch ≠ 0 := by rw [← h2]; exact hkd _ hm
      have e1 : argE ch (nthT l k) b = txtE ch (nthT l k).2.1 b := by unfold argE; rw [if_neg (by omega)]
      refine (argument_ok B a n c k len b rest ch l w h hv hl hn (by omega) h2 (hin k (by omega)).2.2.1).mono ?_
      rintro x w' ⟨rfl, hR, hg⟩
      by_cases h3 : txtE ch (nthT l k).2.1 b = 0
      · have e2 : argA ch (nthT l k) b = txtA ch (nthT l k).2.1 b := by unfold argA; rw [if_neg (by omega)]
        rw [if_neg (by omega), e2, h3]
        exact ⟨rfl, hg, fun _ => hR⟩
      · have e2 : txtA ch (nthT l k).2.1 b = noArg := by unfold txtA; rw [if_pos h3]
        have e3 : fltA (txtE ch (nthT l k).2.1 b) (nthT l k).2.2 = (nthT l k).2.2 := by unfold fltA; rw [if_neg h3]
        rw [if_pos (by omega), e1, e2, e3]
        exact ⟨rfl, hg, fun h => absurd h h3⟩
    · have e1 : argE ch (nthT l k) b = 70 := by unfold argE; rw [if_pos (.inr h2)]
      rw [if_pos (by omega), e1]
      refine (argument_bad B a n c k len b rest ch w 70 (nthT l k).2.2 (by decide) h fun wx hb => take_wrong B a n c k len _ _ l (takeK ch) wx (RowAt.below h hb) (hv.below hb) hl hn (by omega) h2).mono ?_
      rintro x w' ⟨rfl, hb⟩
      exact ⟨rfl, grown_below2 hb _, fun h => by simp at h⟩

end Go.Proofs.YtddkapkkjhomkabGreatDoor

/-
  A reader of the layer asm in memory, whole: its row, its bound, its form, its instruction, its words.
-/
namespace Go.Proofs.YtddkapkkjhomkabGreatDoor
open Go.RowKit
set_option linter.unusedVariables false
set_option linter.unusedSimpArgs false
set_option maxRecDepth 10000

/-- What stands behind a reader's bound. -/
def rdRest (fo : Int) (f : Frm) (io it ir : Int) (av : Value) (wd : Int) : Array Value := #[.int .u16 fo, .string f.1, .bool f.2.1, .bool f.2.2.1, .string f.2.2.2.1, .string f.2.2.2.2.1, .int .i64 f.2.2.2.2.2.1, .int .u8 f.2.2.2.2.2.2, .int .u16 io, .int .u32 it, .int .u32 ir, av, .int .i64 wd]
/-- A whole reader. -/
def Rea (w : World) (B : Nat) (a : Option Addr) (n c k : Nat) (len b fo : Int) (f : Frm) (io it ir : Int) (av : Value) (wd : Int) : Prop := ReadAt w B a n c k len b (rdRest fo f io it ir av wd)
def rdCells (a : Option Addr) (n c k : Nat) (len b fo : Int) (f : Frm) (io it ir : Int) (av : Value) (wd : Int) : Array Value := #[.slice a n c, .int .i64 (k : Int), .int .i64 len, .int .u32 b, .int .u16 fo, .string f.1, .bool f.2.1, .bool f.2.2.1, .string f.2.2.2.1, .string f.2.2.2.2.1, .int .i64 f.2.2.2.2.2.1, .int .u8 f.2.2.2.2.2.2, .int .u16 io, .int .u32 it, .int .u32 ir, av, .int .i64 wd]
theorem rd_cells (a : Option Addr) (n c k : Nat) (len b fo : Int) (f : Frm) (io it ir : Int) (av : Value) (wd : Int) : #[Value.slice a n c, .int .i64 (k : Int), .int .i64 len] ++ (#[Value.int .u32 b] ++ rdRest fo f io it ir av wd) = rdCells a n c k len b fo f io it ir av wd := by
  simp [rdRest, rdCells]
section
variable {w w' : World} {B : Nat} {a : Option Addr} {n c k : Nat} {len b fo : Int} {f : Frm} {io it ir : Int} {av : Value} {wd : Int}
theorem Rea.block (h : Rea w B a n c k len b fo f io it ir av wd) : w.heap[B]? = some (.cells (rdCells a n c k len b fo f io it ir av wd) 203 (0, 0)) := by
  have := h; unfold Rea ReadAt RowAt at this; rw [rd_cells] at this; exact this
theorem Rea.mk (h : w.heap[B]? = some (.cells (rdCells a n c k len b fo f io it ir av wd) 203 (0, 0))) : Rea w B a n c k len b fo f io it ir av wd := by
  unfold Rea ReadAt RowAt; rw [rd_cells]; exact h
theorem Rea.below (h : Rea w B a n c k len b fo f io it ir av wd) (hb : Below w.heap.size w w') : Rea w' B a n c k len b fo f io it ir av wd := RowAt.below h hb
theorem Rea.lt (h : Rea w B a n c k len b fo f io it ir av wd) : B < w.heap.size := RowAt.lt h
theorem Rea.setType (h : Rea w B a n c k len b fo f io it ir av wd) (x : Int) : Rea (w.setCell ⟨B, 13, none⟩ (.int .u32 x)) B a n c k len b fo f io x ir av wd := by
  apply Rea.mk; have := h.block; simp [World.setCell, Array.getElem?_modify, this, rdCells]
theorem Rea.setResult (h : Rea w B a n c k len b fo f io it ir av wd) (x : Int) : Rea (w.setCell ⟨B, 14, none⟩ (.int .u32 x)) B a n c k len b fo f io it x av wd := by
  apply Rea.mk; have := h.block; simp [World.setCell, Array.getElem?_modify, this, rdCells]
theorem Rea.setArgs (h : Rea w B a n c k len b fo f io it ir av wd) (x : Value) : Rea (w.setCell ⟨B, 15, none⟩ x) B a n c k len b fo f io it ir x wd := by
  apply Rea.mk; have := h.block; simp [World.setCell, Array.getElem?_modify, this, rdCells]
theorem Rea.setWords (h : Rea w B a n c k len b fo f io it ir av wd) (x : Int) : Rea (w.setCell ⟨B, 16, none⟩ (.int .i64 x)) B a n c k len b fo f io it ir av x := by
  apply Rea.mk; have := h.block; simp [World.setCell, Array.getElem?_modify, this, rdCells]
theorem Rea.setNext (h : Rea w B a n c k len b fo f io it ir av wd) : Rea (w.setCell ⟨B, 1, none⟩ (.int .i64 ((k + 1 : Nat) : Int))) B a n c (k + 1) len b fo f io it ir av wd := RowAt.step h
end

end Go.Proofs.YtddkapkkjhomkabGreatDoor

/-
  What Named of the layer grammar returns, for every name.
-/
namespace Go.Proofs.YtddkapkkjhomkabGreatDoor
open Go.RowKit Go.Shelf
set_option maxRecDepth 10000
attribute [local go_sem] Oper.semAt_some
set_option linter.unusedVariables false
set_option linter.unusedSimpArgs false

theorem eight_far {w : World} {B k : Nat} {o : Obj} (h : w.heap[k]? = some o) (hne : k ≠ B) (u0 u1 u2 u3 u4 u5 u6 u7 : Value) :
    ((((((((w.setCell ⟨B, 0, none⟩ u0).setCell ⟨B, 1, none⟩ u1).setCell ⟨B, 2, none⟩ u2).setCell ⟨B, 3, none⟩ u3).setCell ⟨B, 4, none⟩ u4).setCell ⟨B, 5, none⟩ u5).setCell ⟨B, 6, none⟩ u6).setCell ⟨B, 7, none⟩ u7).heap[k]? = some o :=
  setFar (setFar (setFar (setFar (setFar (setFar (setFar (setFar h hne _ _) hne _ _) hne _ _) hne _ _) hne _ _) hne _ _) hne _ _) hne _ _
theorem eight_others (w : World) (B : Nat) (u0 u1 u2 u3 u4 u5 u6 u7 : Value) :
    KeepsOthers w ((((((((w.setCell ⟨B, 0, none⟩ u0).setCell ⟨B, 1, none⟩ u1).setCell ⟨B, 2, none⟩ u2).setCell ⟨B, 3, none⟩ u3).setCell ⟨B, 4, none⟩ u4).setCell ⟨B, 5, none⟩ u5).setCell ⟨B, 6, none⟩ u6).setCell ⟨B, 7, none⟩ u7) :=
  (((((((KeepsOthers.setCell _ _ _).trans (KeepsOthers.setCell _ _ _)).trans (KeepsOthers.setCell _ _ _)).trans (KeepsOthers.setCell _ _ _)).trans (KeepsOthers.setCell _ _ _)).trans (KeepsOthers.setCell _ _ _)).trans (KeepsOthers.setCell _ _ _)).trans (KeepsOthers.setCell _ _ _)

/-- A text begins with another. -/
def hpB (t s : ByteArray) : Bool := decide (s.size ≤ t.size) && ((t.extract 0 s.size).toList == s.toList)

theorem litePrefix_any (t s : ByteArray) (w : World) (ht : t.size ≤ 140737488351232) (hs : s.size ≤ 140737488351232) :
    Calls Tryz.prog 129 #[.string t, .string s] w fun e w' => e = .returned (.bool (hpB t s)) ∧ w = w' := by
  by_cases h : s.size ≤ t.size
  · have HE : Hid (hpB t s = ((t.extract 0 s.size).toList == s.toList)) := by show _ = _; unfold hpB; rw [decide_eq_true h]; rfl
    have h' : decide ((t.size : Int) ≥ (s.size : Int)) = true := decide_eq_true (by omega)
    have hi : (s.size : Int) ≤ (t.size : Int) := by omega
    go_enter Tryz.func129, Tryz.ntmps129
    go_wp2
    go_ret
    exact ⟨by rw [HE.out]; rfl, rfl⟩
  · have HE : Hid (hpB t s = false) := by show _ = _; unfold hpB; rw [decide_eq_false h]; rfl
    go_enter Tryz.func129, Tryz.ntmps129
    go_wp2
    go_ret
    exact ⟨by rw [HE.out]; rfl, rfl⟩

theorem hasPrefix_any (t s : ByteArray) (w : World) (ht : t.size ≤ 140737488351232) (hs : s.size ≤ 140737488351232) :
    Calls Tryz.prog 172 #[.string t, .string s] w fun e w' => e = .returned (.bool (hpB t s)) ∧ w = w' := by
  have hL := fun w => litePrefix_any t s w ht hs
  generalize hpB t s = b at *
  go_enter Tryz.func172, Tryz.ntmps172
  go_wp2_with fail
  refine (hL _).mono ?_
  rintro e w1 ⟨rfl, rfl⟩
  go_wp2
  go_ret
  exact ⟨rfl, rfl⟩

theorem heads_ok : opsL.all (fun k => hpB (ftxt k) (opF k).1) = true := by decide +kernel
theorem bytes_eq {a b : ByteArray} (h : (a.toList == b.toList) = true) : a = b := by
  have h := eq_of_beq h
  rw [ByteArray.toList_eq, ByteArray.toList_eq] at h
  obtain ⟨⟨a⟩⟩ := a
  obtain ⟨⟨b⟩⟩ := b
  simp only at h
  rw [h]
theorem nam_head {s : ByteArray} {k : Nat} (hk : k ∈ opsL) (h : hpB (ftxt k) s = false) : namP s k = false := by
  cases e : namP s k
  · rfl
  · have h1 := List.all_eq_true.1 heads_ok k hk
    rw [bytes_eq e] at h1
    rw [h1] at h; cases h

/-- Between two rounds. -/
def NamedI (s : ByteArray) (w : World) (pre : List Nat) (W : World) : Prop :=
  (Below w.heap.size w W ∧ w.heap.size + 3 ≤ W.heap.size) ∧ W.heap[w.heap.size]? = some (.cells #[.string s] 9 (0, 0)) ∧ W.heap[w.heap.size + 1]? = some (.cells (frmCells 0 noFrm) 89 (0, 0)) ∧ W.heap[w.heap.size + 2]? = some (.cells #[.bool false] 4 (0, 0)) ∧ ∀ k ∈ pre, namP s k = false
/-- Behind the round that left. -/
def NamedX (s : ByteArray) (w : World) (c : Code) (pre : List Nat) (W : World) : Prop :=
  c = .ret ∧ (Below w.heap.size w W ∧ w.heap.size + 3 ≤ W.heap.size) ∧ ∃ (pre' : List Nat) (x : Nat), pre = pre' ++ [x] ∧ (∀ k ∈ pre', namP s k = false) ∧ namP s x = true ∧
    W.heap[w.heap.size + 1]? = some (.cells (frmCells x (opF x)) 89 (0, 0)) ∧ W.heap[w.heap.size + 2]? = some (.cells #[.bool true] 4 (0, 0))
theorem namedI_own (s : ByteArray) (w : World) : OwnFrom (w.heap.size + 3) (NamedI s w) := by
  rintro pre W W' row ⟨h1, h2, h3, h4, h5⟩ hg hr
  exact ⟨⟨belowStay h1.1 (Nat.le_refl _) (by omega) hg hr, Nat.le_trans h1.2 hg.size⟩, cellsStay h2 hg hr, cellsStay h3 hg hr, cellsStay h4 hg hr, h5⟩
theorem namedX_own (s : ByteArray) (w : World) (c : Code) : OwnFrom (w.heap.size + 3) (NamedX s w c) := by
  rintro pre W W' row ⟨h0, h1, pre', x, h2, h3, h4, h5, h6⟩ hg hr
  exact ⟨h0, ⟨belowStay h1.1 (Nat.le_refl _) (by omega) hg hr, Nat.le_trans h1.2 hg.size⟩, pre', x, h2, h3, h4, cellsStay h5 hg hr, cellsStay h6 hg hr⟩

theorem opF_read (k : Nat) (w : World) : Calls Tryz.prog 74 #[.int .u16 k, .string (ftxt k)] w fun e w' => e = .returned (formV k (opF k)) ∧ Below w.heap.size w w' := readForm_op k w
theorem ftxt_size (k : Nat) : (ftxt k).size ≤ 140737488351232 := Nat.le_trans (ftxt_ok k).2.1 (by omega)

set_option maxRecDepth 100000 in
set_option maxHeartbeats 4000000 in
theorem named_any (s : ByteArray) (w : World) (hs : s.size ≤ 140737488351232) : Calls Tryz.prog 163 #[.string s] w fun e w' => e = .returned (.tuple #[namedV s, .bool (namedB s)]) ∧ Below w.heap.size w w' := by
  have HP : Hid (∀ k w, _) := fun (k : Nat) w => hasPrefix_any (ftxt k) s w (ftxt_size k) hs
  clear hs
  refine (callsIn_wide (n := 0)).1 ?_
  refine callsIn_of_wp_marks Tryz.func163 rfl trivial ?_ rfl
  simp only [Tryz.ntmps163, List.size_toArray, List.length_cons, List.length_nil, Nat.reduceAdd, Nat.reduceSub, Array.replicate_succ, Array.replicate_zero, List.push_toArray, List.append_toArray, List.nil_append, List.cons_append]
  gi_wp2_with fail
  refine ⟨trivial, rfl, (callsIn_wide.2 (formTexts_any _)).mono ?_⟩
  rintro e w2 ⟨rfl, rfl⟩
  obtain ⟨wL, hwL⟩ : ∃ X, X = (((w.alloc (.cells #[.string s] 9)).alloc (.cells #[.int .u16 0, .string ⟨#[]⟩, .bool false, .bool false, .string ⟨#[]⟩, .string ⟨#[]⟩, .int .i64 0, .int .u8 0] 89)).alloc (.cells #[.bool false] 4)) := ⟨_, rfl⟩
  have hsL : wL.heap.size = w.heap.size + 3 := by rw [hwL]; simp
  have hbL : Below w.heap.size w wL := by rw [hwL]; exact ((((Below.refl _ w).alloc (Nat.le_refl _) _).alloc (by simp) _).alloc (by simp; omega) _)
  have k0 : wL.heap[w.heap.size]? = some (.cells #[.string s] 9 (0, 0)) := by rw [hwL]; exact allocOld (allocOld (allocNew w _ rfl) _) _
  have k1 : wL.heap[w.heap.size + 1]? = some (.cells (frmCells 0 noFrm) 89 (0, 0)) := by rw [hwL]; exact allocOld (allocNew _ _ (by simp)) _
  have k2 : wL.heap[w.heap.size + 2]? = some (.cells #[.bool false] 4 (0, 0)) := by rw [hwL]; exact allocNew _ _ (by simp)
  gi_wp2_with fail
  rw [← hwL]
  clear hwL
  simp only [Nat.add_assoc, Nat.reduceAdd]
  refine wp_tells rfl (enters_of Tryz.func183 (by kernel_rfl) rfl) (formTexts_tells w.heap.size (fun _ => False) wL) (by omega) (fun _ => rfl)
    (NamedI s w) (NamedX s w) (by rw [hsL]; exact namedI_own s w) (fun c => by rw [hsL]; exact namedX_own s w c)
    ⟨⟨hbL, by omega⟩, k0, k1, k2, fun q hq => by simp at hq⟩
    (fun pre x a' W => pre ++ [x] <+: opsL ∧ a' = { tmps := #[.string s, .pointer (some ⟨w.heap.size, 0, none⟩), .pointer (some ⟨w.heap.size + 1, 0, none⟩), .pointer (some ⟨w.heap.size + 2, 0, none⟩), .int .u16 x, .string (ftxt x), undef, .func (.func 183) #[] #[], .int .u16 x, .string (ftxt x), undef, undef, undef, undef, undef, undef, undef, undef, undef, undef, undef, undef, undef], defers := [] })
    ?hAx ?assign ?body ?done ?stop
  case hAx =>
    rintro pre x a' s W W' row h hg hr
    exact h
  case assign =>
    rintro l pre x W K hI hV hK
    simp only [opV]
    gi_wp2
    exact hK _ _ (KeepsFrom.refl _ _) (Kept.refl _ _ _) hI ⟨hV, rfl⟩
  case body =>
    rintro l pre x a' W hl' ⟨r, hr⟩ ⟨⟨h1, hlt⟩, h2, h3, h4, h6⟩ ⟨hV, rfl⟩
    have hx : x ∈ opsL := hV.subset (by simp)
    have HHP := HP.out x
    have HNH : Hid (hpB (ftxt x) s = false → namP s x = false) := nam_head hx
    have hRF := fun w => opF_read x w
    obtain ⟨c0, _⟩ := oneCell h2
    have go : ∀ W', Below W.heap.size W W' → namP s x = false → KeepsFrom wL.heap.size W W' ∧ Kept w.heap.size (fun _ => False) W W' ∧ NamedI s w (pre ++ [x]) W' := fun W' hb hno =>
      have sz := hb.size
      ⟨KeepsFrom.of_below hb, Kept.of_below hb (by omega), ⟨h1.trans (hb.mono h1.size), by omega⟩, (hb.block _ (by omega)).trans h2, (hb.block _ (by omega)).trans h3, (hb.block _ (by omega)).trans h4, fun q hq => by
        rcases List.mem_append.1 hq with h | h
        · exact h6 q h
        · simp at h; subst h; exact hno⟩
    have HGO : Hid (∀ W', Below W.heap.size W W' → namP s x = false → KeepsFrom wL.heap.size W W' ∧ Kept w.heap.size (fun _ => False) W W' ∧ NamedI s w (pre ++ [x]) W') := go
    have HPP : Hid (namP s x = ((opF x).1.toList == s.toList)) := rfl
    have HOUT : Hid (∀ W' W'' : World, Below W.heap.size W W' → namP s x = true → Below (w.heap.size + 1) W' W'' → KeepsOthers W' W'' → W''.heap[w.heap.size + 1]? = some (.cells (frmCells x (opF x)) 89 (0, 0)) → W''.heap[w.heap.size + 2]? = some (.cells #[.bool true] 4 (0, 0)) → KeepsFrom wL.heap.size W W'' ∧ NamedX s w .ret (pre ++ [x]) W'') := fun W' W'' hb hyes hb2 hko e1 e2 =>
      have sz := hb.size
      have sz2 := hb2.size
      ⟨(KeepsFrom.of_below hb).trans (hko.from _), rfl, ⟨(h1.trans (hb.mono h1.size)).trans (hb2.mono (by omega)), by omega⟩, pre, x, rfl, h6, hyes, e1, e2⟩
    have H34 : Hid (W.heap[w.heap.size + 1]? = some (.cells (frmCells 0 noFrm) 89 (0, 0)) ∧ W.heap[w.heap.size + 2]? = some (.cells #[.bool false] 4 (0, 0)) ∧ W.heap[w.heap.size]? = some (.cells #[.string s] 9 (0, 0))) := ⟨h3, h4, h2⟩
    clear go h2 h3 h4 h6 h1 hV hx
    generalize ftxt x = t at *
    gi_wp2_with fail
    refine ⟨trivial, rfl, (CallsIn.inRound l (callsIn_wide.2 (HHP _))).mono ?_⟩
    rintro e w3 ⟨rfl, rfl⟩
    cases hp : hpB t s
    · have hno := HNH.out hp
      have fin := HGO.out W (Below.refl _ _) hno
      clear HGO HOUT
      gi_wp2
      exact fin
    · clear HNH
      gi_wp2_with fail
      refine ⟨trivial, rfl, (CallsIn.inRound l (callsIn_wide.2 (hRF _))).mono ?_⟩
      rintro e w3 ⟨rfl, hb3⟩
      have hbw3 : Below W.heap.size W (w3.alloc (.cells (frmCells x (opF x)) 147)) := hb3.alloc hb3.size _
      have s3 := hb3.size
      obtain ⟨q1, q2, q3⟩ := H34.out
      have d1 := (hb3.block (w.heap.size + 1) (by omega)).trans q1
      have d2 := (hb3.block (w.heap.size + 2) (by omega)).trans q2
      have d3 := (hb3.block w.heap.size (by omega)).trans q3
      obtain ⟨g0, _⟩ := oneCell d3
      obtain ⟨g2, gf⟩ := oneCell d2
      obtain ⟨u0, u1, u2, u3, u4, u5, u6, u7, uf⟩ := frm_cells (n := 0) (f := noFrm) d1
      unfold noFrm at u1 u2 u3 u4 u5 u6 u7
      have l0 : w.heap.size < w3.heap.size := by omega
      have l1 : w.heap.size + 1 < w3.heap.size := by omega
      have l2 : w.heap.size + 2 < w3.heap.size := by omega
      have HW4 : Hid (Below W.heap.size W (w3.alloc (.cells (frmCells x (opF x)) 147))) := hbw3
      have HD : Hid (w3.heap[w.heap.size + 1]? = some (.cells (frmCells 0 noFrm) 89 (0, 0)) ∧ w3.heap[w.heap.size + 2]? = some (.cells #[.bool false] 4 (0, 0))) := ⟨d1, d2⟩
      have HB3 : Hid (Below W.heap.size W w3) := hb3
      clear q1 q2 q3 d1 d2 d3 hb3 hbw3 c0 hRF HHP H34
      generalize hf : opF x = f at *
      obtain ⟨nm, t', r', fx, rs, mo, pa⟩ := f
      unfold formV
      cases hn : (nm.toList == s.toList)
      · have hno : namP s x = false := by rw [HPP.out]; exact hn
        have fin := HGO.out _ HW4.out hno
        clear HGO HOUT hf hno HPP
        gi_wp2
        exact fin
      · have hyes : namP s x = true := by rw [HPP.out]; exact hn
        have HFIN : Hid (∀ W'', Below (w.heap.size + 1) w3 W'' → KeepsOthers w3 W'' → W''.heap[w.heap.size + 1]? = some (.cells (frmCells x (nm, t', r', fx, rs, mo, pa)) 89 (0, 0)) → W''.heap[w.heap.size + 2]? = some (.cells #[.bool true] 4 (0, 0)) → KeepsFrom wL.heap.size W W'' ∧ NamedX s w .ret (pre ++ [x]) W'') := fun W'' => HOUT.out _ W'' HB3.out hyes
        clear HGO HOUT hf hyes HPP HW4
        gi_wp2
        refine HFIN.out _ ?_ ?_ ?_ ?_
        · exact ((eight_below w3 (w.heap.size + 1) _ _ _ _ _ _ _ _).setCell (p := ⟨w.heap.size + 2, 0, none⟩) (by simp) _).alloc (by simp [World.setCell]; omega) _
        · exact ((eight_others w3 (w.heap.size + 1) _ _ _ _ _ _ _ _).trans (KeepsOthers.setCell _ _ _)).trans ⟨by simp, fun k o hk _ => allocOld hk _⟩
        · exact allocOld (setFar (eight_set HD.out.1 _ _ _ _ _ _ _ _) (by omega) _ _) _
        · exact allocOld (oneSet (eight_far HD.out.2 (by omega) _ _ _ _ _ _ _ _) _) _
  case done =>
    rintro D xs W hD rfl ⟨⟨h1, hlt⟩, h2, h3, h4, h6⟩ hK
    have hnone : opsL.find? (namP s) = none := List.find?_eq_none.2 (fun q hq => by rw [h6 q hq]; simp)
    have HE : Hid (namedV s = formV 0 noFrm ∧ namedB s = false) := by show _ ∧ _; unfold namedV namedB; rw [hnone]; exact ⟨rfl, rfl⟩
    obtain ⟨c3, f3⟩ := oneCell h4
    obtain ⟨u0, u1, u2, u3, u4, u5, u6, u7, uf⟩ := frm_cells (n := 0) (f := noFrm) h3
    unfold noFrm at u1 u2 u3 u4 u5 u6 u7
    clear hnone
    obtain ⟨Y, hY⟩ : ∃ Y, Y = ((((((((W.setCell ⟨w.heap.size + 1, 0, none⟩ (.int .u16 0)).setCell ⟨w.heap.size + 1, 1, none⟩ (.string ⟨#[]⟩)).setCell ⟨w.heap.size + 1, 2, none⟩ (.bool false)).setCell ⟨w.heap.size + 1, 3, none⟩ (.bool false)).setCell ⟨w.heap.size + 1, 4, none⟩ (.string ⟨#[]⟩)).setCell ⟨w.heap.size + 1, 5, none⟩ (.string ⟨#[]⟩)).setCell ⟨w.heap.size + 1, 6, none⟩ (.int .i64 0)).setCell ⟨w.heap.size + 1, 7, none⟩ (.int .u8 0)).setCell ⟨w.heap.size + 2, 0, none⟩ (.bool false) := ⟨_, rfl⟩
    have hKY : Y.heap[D]? = some (.deferred (some [])) := by rw [hY]; exact ((eight_others _ _ _ _ _ _ _ _ _ _).trans (KeepsOthers.setCell _ _ _)).same D _ hK rfl
    have hbY : Below w.heap.size w Y := by rw [hY]; exact (h1.trans ((eight_below _ _ _ _ _ _ _ _ _ _).mono (by omega))).setCell (by simp) _
    have y2 : Y.heap[w.heap.size + 1]? = some (.cells (frmCells 0 noFrm) 89 (0, 0)) := by rw [hY]; exact setFar (eight_set h3 _ _ _ _ _ _ _ _) (by omega) _ _
    have y3 : Y.heap[w.heap.size + 2]? = some (.cells #[.bool false] 4 (0, 0)) := by rw [hY]; exact oneSet (eight_far h4 (by omega) _ _ _ _ _ _ _ _) _
    have hput := grownBy_putObj' Y D (.deferred none)
    have hpr : ∀ r, some D = some r → (0 ≤ r ∧ ∃ o : Obj, Y.heap[r]? = some o ∧ o.isCells = false) := fun r e => by cases e; exact ⟨Nat.zero_le _, _, hKY, rfl⟩
    have r1 := (oneCell (cellsStay y3 hput hpr)).1
    have HR : Hid ((Y.putObj D (.deferred none)).heap[w.heap.size + 1]? = some (.cells (frmCells 0 noFrm) 89 (0, 0))) := cellsStay y2 hput hpr
    have hbE : Below w.heap.size w (Y.putObj D (.deferred none)) := hbY.trans (belowK_b (w := w) (Nat.le_refl _) Y D _ _ (by omega) hKY rfl rfl)
    clear h1 h2 h3 h4 h6 y2 y3 hput hpr hbY
    gi_wp2_with fail
    rw [← hY]
    refine ⟨by simp, .inl ⟨_, _, rfl, run_takeDeferred hKY, ?_⟩⟩
    obtain ⟨v0, v1, v2, v3, v4, v5, v6, v7, vf⟩ := frm_cells HR.out
    unfold noFrm at v1 v2 v3 v4 v5 v6 v7
    exact ⟨.tuple #[formV 0 noFrm, .bool false], by simp [results, Tryz.results163, go_sem, formV, noFrm, r1, v0, v1, v2, v3, v4, v5, v6, v7], by rw [HE.out.1, HE.out.2], hbE⟩
  case stop =>
    rintro D c pre W hD hpre ⟨rfl, ⟨h1, hlt⟩, pre', x, rfl, h3, h4, h5, h6⟩ hK
    have hsome : opsL.find? (namP s) = some x := by
      obtain ⟨z, hz⟩ := hpre
      rw [← hz, List.append_assoc, List.find?_append, List.find?_eq_none.2 (fun q hq => by rw [h3 q hq]; simp)]
      simp [h4]
    have HE : Hid (namedV s = formV x (opF x) ∧ namedB s = true) := by show _ ∧ _; unfold namedV namedB; rw [hsome]; exact ⟨rfl, rfl⟩
    have hput := grownBy_putObj' W D (.deferred none)
    have hpr : ∀ r, some D = some r → (0 ≤ r ∧ ∃ o : Obj, W.heap[r]? = some o ∧ o.isCells = false) := fun r e => by cases e; exact ⟨Nat.zero_le _, _, hK, rfl⟩
    have r1 := (oneCell (cellsStay h6 hput hpr)).1
    obtain ⟨u0, u1, u2, u3, u4, u5, u6, u7, uf⟩ := frm_cells (cellsStay h5 hput hpr)
    have hbE : Below w.heap.size w (W.putObj D (.deferred none)) := h1.trans (belowK_b (w := w) (Nat.le_refl _) W D _ _ (by omega) hK rfl rfl)
    clear h1 h5 h6 hput hpr
    gi_wp2_with fail
    refine ⟨by simp, .inl ⟨_, _, rfl, run_takeDeferred hK, ?_⟩⟩
    exact ⟨.tuple #[formV x (opF x), .bool true], by simp [results, Tryz.results163, go_sem, formV, r1, u0, u1, u2, u3, u4, u5, u6, u7], by rw [HE.out.1, HE.out.2], hbE⟩

end Go.Proofs.YtddkapkkjhomkabGreatDoor

/-
  What the method operation of a reader returns, of the layer asm.
-/
namespace Go.Proofs.YtddkapkkjhomkabGreatDoor
open Go.RowKit
set_option linter.unusedVariables false
set_option linter.unusedSimpArgs false
set_option maxRecDepth 10000

theorem spot_box (w : World) : (w.alloc (.cells #[.int .i64 0, .int .i64 0] 28)).heap[w.heap.size]? = some (.cells #[.int .i64 0, .int .i64 0] 28 (0, 0)) ∧ Below w.heap.size w (w.alloc (.cells #[.int .i64 0, .int .i64 0] 28)) := ⟨heap_alloc_new w _, (Below.refl _ w).alloc (Nat.le_refl _) _⟩
theorem two_putB {W : World} {g T : Nat} {x0 x1 : Value} (k : W.heap[g]? = some (.cells #[x0, x1] T (0, 0))) (u0 u1 : Value) : ((W.setCell ⟨g, 0, none⟩ u0).setCell ⟨g, 1, none⟩ u1).heap[g]? = some (.cells #[u0, u1] T (0, 0)) ∧ Below g W ((W.setCell ⟨g, 0, none⟩ u0).setCell ⟨g, 1, none⟩ u1) :=
  ⟨two_set k u0 u1, ((Below.refl g W).setCell (Nat.le_refl _) _).setCell (Nat.le_refl _) _⟩

set_option maxHeartbeats 4000000 in
/-- Where no word is taken. -/
theorem operation_bad (B : Nat) (w : World) (e p : Int) (he : e ≠ 0)
    (hT : ∀ wx, Below w.heap.size w wx → Calls Tryz.prog 145 #[.pointer (some ⟨B, 0, none⟩), .int .u8 1] wx fun x w' => x = .returned (.tuple #[tokV noTok, .agg #[.int .i64 e, .int .i64 p]]) ∧ Below wx.heap.size wx w') :
    Calls Tryz.prog 149 #[.pointer (some ⟨B, 0, none⟩)] w fun x w' => x = .returned (.agg #[.int .i64 e, .int .i64 p]) ∧ Below w.heap.size w w' := by
  have he' : (e != 0) = true := by simp [he]
  obtain ⟨kS, hb⟩ := spot_box w
  unfold tokV noTok at hT
  have hC := hT _ hb
  have HS := hide kS
  have HB := hide hb
  clear kS hb he hT
  go_enter Tryz.func149, Tryz.ntmps149
  go_wp2_with fail
  generalize w.alloc (.cells #[.int .i64 0, .int .i64 0] 28) = W at *
  refine hC.mono ?_
  rintro x w1 ⟨rfl, hb1⟩
  have sS := (Array.getElem?_eq_some_iff.1 HS.out).1
  have hba : Below w1.heap.size w1 ((w1.alloc (.cells #[.int .u8 0, .string ⟨#[]⟩, .int .i64 0] 41)).alloc (.cells #[.int .i64 e, .int .i64 p] 28)) := ((Below.refl _ w1).alloc (Nat.le_refl _) _).alloc (by simp) _
  have s1 : w.heap.size < w1.heap.size := Nat.lt_of_lt_of_le sS hb1.size
  have kS1 := (hb1.block _ sS).trans HS.out
  obtain ⟨cp, fp⟩ := blk_cells kS1
  have p0 := cp 0
  have p1 := cp 1
  obtain ⟨x1, x2⟩ := two_putB kS1 (.int .i64 e) (.int .i64 p)
  have hbY := (HB.out.trans (hb1.mono HB.out.size)).trans x2
  have hbZ : Below ((w1.setCell ⟨w.heap.size, 0, none⟩ (.int .i64 e)).setCell ⟨w.heap.size, 1, none⟩ (.int .i64 p)).heap.size ((w1.setCell ⟨w.heap.size, 0, none⟩ (.int .i64 e)).setCell ⟨w.heap.size, 1, none⟩ (.int .i64 p)) ((((w1.setCell ⟨w.heap.size, 0, none⟩ (.int .i64 e)).setCell ⟨w.heap.size, 1, none⟩ (.int .i64 p)).alloc (.cells #[.int .u8 0, .string ⟨#[]⟩, .int .i64 0] 41)).alloc (.cells #[.int .i64 e, .int .i64 p] 28)) := ((Below.refl _ _).alloc (Nat.le_refl _) _).alloc (by simp) _
  have HY := hide (hbY.trans (hbZ.mono hbY.size))
  have HY1 := hide ((hbZ.block _ (Array.getElem?_eq_some_iff.1 x1).1).trans x1)
  clear hC hb1 hba kS1 cp x1 x2 HS HB hbY hbZ
  go_wp2_with fail
  generalize (((w1.setCell ⟨w.heap.size, 0, none⟩ (.int .i64 e)).setCell ⟨w.heap.size, 1, none⟩ (.int .i64 p)).alloc (.cells #[.int .u8 0, .string ⟨#[]⟩, .int .i64 0] 41)).alloc (.cells #[.int .i64 e, .int .i64 p] 28) = X at *
  obtain ⟨e1, _⟩ := blk_cells HY1.out
  have a0 := e1 0
  have a1 := e1 1
  refine bodyPost_ret (v := .agg #[.int .i64 e, .int .i64 p]) ?_ rfl ⟨rfl, HY.out⟩
  simp [results, Tryz.results149, go_sem, a0, a1]

end Go.Proofs.YtddkapkkjhomkabGreatDoor
