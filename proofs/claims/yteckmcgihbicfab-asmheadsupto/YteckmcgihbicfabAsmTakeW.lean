/-
  What the method take of a row of tokens returns, of the layer asm: the next token is of another kind.
-/
import Derived.WalkSpells
import Derived.WalkMore
import Derived.BigRegion
import Derived.Test.YteckmcgihbicfabProg
import Derived.Test.YteckmcgihbicfabAsmRow
namespace Go.Proofs.Yteckmcgihbicfab
open Go.RowKit
set_option linter.unusedVariables false
set_option linter.unusedSimpArgs false
set_option maxRecDepth 10000

set_option maxHeartbeats 2000000 in
theorem take_wrong (B : Nat) (a : Option Addr) (n c k : Nat) (len : Int) (rest : Array Value) (T : Nat) (l : List TokT) (kd : Int) (w : World) (h : RowAt w B a n c k len rest T) (hv : ToksV w a l) (hl : l.length = n) (hn : 32 * n ≤ 140737488351232) (hk : k < n) (hkd : (nthT l k).1 ≠ kd) :
    Calls Try.prog 43 #[.pointer (some ⟨B, 0, none⟩), .int .u8 kd] w fun e w' => e = .returned (.tuple #[tokV noTok, .agg #[.int .i64 70, .int .i64 (nthT l k).2.2]]) ∧ Below w.heap.size w w' := by
  obtain ⟨z, hz⟩ : ∃ z, z = nthT l k := ⟨_, rfl⟩
  rw [← hz] at hkd ⊢
  obtain ⟨z1, z2, z3⟩ := z
  simp only at hkd ⊢
  have HZN := hide hz
  clear hz
  obtain ⟨kT, kS, hb⟩ := tok_spot_boxes w
  have hR := h.below hb
  have hE := ended_any B a n c k len rest T _ hR
  rw [show ((k : Int) == (n : Int)) = false by simp; omega] at hE
  have hlt := h.lt
  have hV := hv.below hb
  clear h hv
  go_enter Try.func43, Try.ntmps43
  go_wp2_with fail
  generalize (w.alloc (.cells #[.int .u8 0, .string ⟨#[]⟩, .int .i64 0] 77)).alloc (.cells #[.int .i64 0, .int .i64 0] 28) = W at *
  refine hE.mono ?_
  rintro e w1 ⟨rfl, q, rfl⟩
  have hbq := bel_drewN (Below.refl W.heap.size W) q
  have sS := (Array.getElem?_eq_some_iff.1 kS).1
  have kT1 := (hbq.block _ (by omega)).trans kT
  have kS1 := (hbq.block _ sS).trans kS
  have hR1 := hR.below hbq
  have hV1 := hV.below hbq
  have hb1 := hb.trans (hbq.mono hb.size)
  have s1 : w.heap.size + 1 < (W.drewN q).heap.size := Nat.lt_of_lt_of_le sS hbq.size
  clear hE hbq kT kS hR hb sS hV
  generalize W.drewN q = W1 at *
  obtain ⟨r0, r1, r2, rf⟩ := hR1.cells
  obtain ⟨g1, o1, rfl, hg1, q1, q2, q3⟩ := hV1 k (by omega)
  rw [← HZN.out] at q1 q2 q3
  simp only at q1 q2 q3
  clear HZN
  have hki : (k : Int) < (n : Int) := by omega
  have hk0 : (0 : Int) ≤ (k : Int) := by omega
  have hne : B ≠ w.heap.size := by omega
  have hne1 : B ≠ w.heap.size + 1 := by omega
  have HB := hide hb1
  have HT := hide kT1
  have HS := hide kS1
  have HR := hide hR1
  have hB1 : B < W1.heap.size := hR1.lt
  have hkb : (k : Int) < 140737488351232 := by omega
  clear hR1 hb1 kT1 kS1 hV1 hl hn
  go_wp2
  go_region
  have hb2 : Below W1.heap.size W1 (W1.alloc (.cells #[.int .u8 z1, .string z2, .int .i64 z3] 77)).drew := ((Below.refl _ _).alloc (Nat.le_refl _) _).drew
  have kZ : (W1.alloc (.cells #[.int .u8 z1, .string z2, .int .i64 z3] 77)).drew.heap[W1.heap.size]? = some (.cells #[.int .u8 z1, .string z2, .int .i64 z3] 77 (0, 0)) := heap_alloc_new W1 _
  have HT2 := hide ((hb2.block _ (by omega)).trans HT.out)
  have HS2 := hide ((hb2.block _ s1).trans HS.out)
  have HR2 := hide (HR.out.below hb2)
  have HB2 := hide (HB.out.trans (hb2.mono (by omega)))
  have HZ := hide kZ
  have sz : W1.heap.size < (W1.alloc (.cells #[.int .u8 z1, .string z2, .int .i64 z3] 77)).drew.heap.size := (Array.getElem?_eq_some_iff.1 kZ).1
  have s2 : w.heap.size + 1 < W1.heap.size := s1
  clear hb2 kZ HT HS HR HB r0 r1 r2 rf q1 q2 q3 s1 hki hk0 hg1
  generalize (W1.alloc (.cells #[.int .u8 z1, .string z2, .int .i64 z3] 77)).drew = W2 at *
  obtain ⟨cz, fz⟩ := blk_cells HZ.out
  have y0 := cz 0
  have y1 := cz 1
  have y2 := cz 2
  clear cz HZ
  have hkd' : (z1 != kd) = true := by simp [hkd]
  have hFA := fun wx => faultAt_any (z1, z2, z3) 70 wx
  rw [show fltA 70 ((z1, z2, z3) : TokT).2.2 = z3 by unfold fltA; simp] at hFA
  unfold tokV at hFA
  simp only at hFA
  go_wp2_with fail
  refine (hFA _).mono ?_
  rintro e w3 ⟨rfl, hb3⟩
  have kT3 := (hb3.block _ (by omega)).trans HT2.out
  have kS3 := (hb3.block _ (by omega)).trans HS2.out
  have hb03 := HB2.out.trans (hb3.mono HB2.out.size)
  have s3 : w.heap.size + 1 < w3.heap.size := by have := hb3.size; omega
  obtain ⟨ct, ft⟩ := blk_cells kT3
  obtain ⟨cp, fp⟩ := blk_cells kS3
  have t0 := ct 0
  have t1 := ct 1
  have t2 := ct 2
  have p0 := cp 0
  have p1 := cp 1
  obtain ⟨x1, x2, x3⟩ := five_put kT3 kS3 (.int .u8 0) (.string ⟨#[]⟩) (.int .i64 0) (.int .i64 70) (.int .i64 z3)
  have HY := hide (hb03.trans x3)
  have HY1 := hide x1
  have HY2 := hide x2
  clear hFA hb3 hb03 kT3 kS3 ct cp x1 x2 x3 HT2 HS2 HB2 HR2 y0 y1 y2 fz
  go_wp2
  generalize ((((w3.setCell ⟨w.heap.size, 0, none⟩ (.int .u8 0)).setCell ⟨w.heap.size, 1, none⟩ (.string ⟨#[]⟩)).setCell ⟨w.heap.size, 2, none⟩ (.int .i64 0)).setCell ⟨w.heap.size + 1, 0, none⟩ (.int .i64 70)).setCell ⟨w.heap.size + 1, 1, none⟩ (.int .i64 z3) = X at *
  obtain ⟨z1, _⟩ := blk_cells HY1.out
  obtain ⟨z2, _⟩ := blk_cells HY2.out
  have a0 := z1 0
  have a1 := z1 1
  have a2 := z1 2
  have b0 := z2 0
  have b1 := z2 1
  refine bodyPost_ret (v := .tuple #[tokV noTok, .agg #[.int .i64 70, .int .i64 z3]]) ?_ rfl ⟨rfl, HY.out⟩
  simp [results, Try.results43, go_sem, a0, a1, a2, b0, b1, tokV, noTok]

end Go.Proofs.Yteckmcgihbicfab
