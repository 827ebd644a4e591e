/-
  What the method number of a row of tokens returns, of the layer asm.
-/
import Derived.WalkSpells
import Derived.WalkMore
import Derived.BigRegion
import Derived.Deep.RegionWith
import Derived.Test.YteckmcgihbicfabProg
import Derived.Test.YteckmcgihbicfabAsmRow
import Derived.Test.YteckmcgihbicfabAsmTakeW
import Derived.Test.YteckmcgihbicfabAsmTakeO
import Derived.Test.YteckmcgihbicfabLexNumber
namespace Go.Proofs.Yteckmcgihbicfab
open Go.RowKit
set_option linter.unusedVariables false
set_option linter.unusedSimpArgs false
set_option maxRecDepth 10000

set_option maxHeartbeats 2000000 in
/-- Where the token is not taken. -/
theorem number_bad (B : Nat) (w : World) (e p : Int) (he : e ≠ 0)
    (hT : ∀ wx, Below w.heap.size w wx → Calls Try.prog 43 #[.pointer (some ⟨B, 0, none⟩), .int .u8 3] wx fun x w' => x = .returned (.tuple #[tokV noTok, .agg #[.int .i64 e, .int .i64 p]]) ∧ Below wx.heap.size wx w') :
    Calls Try.prog 45 #[.pointer (some ⟨B, 0, none⟩)] w fun x w' => x = .returned (.tuple #[.int .u32 0, tokV noTok, .agg #[.int .i64 e, .int .i64 p]]) ∧ Below w.heap.size w w' := by
  have he' : (e != 0) = true := by simp [he]
  obtain ⟨kT, kS, hb⟩ := tok_spot_boxes w
  have hC := hT _ hb
  unfold tokV noTok at hC ⊢
  clear hT he
  go_enter Try.func45, Try.ntmps45
  go_wp2_with fail
  generalize (w.alloc (.cells #[.int .u8 0, .string ⟨#[]⟩, .int .i64 0] 77)).alloc (.cells #[.int .i64 0, .int .i64 0] 28) = W at *
  refine hC.mono ?_
  rintro x w1 ⟨rfl, hb1⟩
  have hba : Below w1.heap.size w1 ((w1.alloc (.cells #[.int .u8 0, .string ⟨#[]⟩, .int .i64 0] 77)).alloc (.cells #[.int .i64 e, .int .i64 p] 28)) := ((Below.refl _ w1).alloc (Nat.le_refl _) _).alloc (by simp) _
  have hb1a := hb1.trans (hba.mono hb1.size)
  have sS := (Array.getElem?_eq_some_iff.1 kS).1
  have s1 : w.heap.size + 1 < w1.heap.size := Nat.lt_of_lt_of_le sS hb1.size
  have HT := hide ((hb1a.block _ (by omega)).trans kT)
  have HS := hide ((hb1a.block _ sS).trans kS)
  have HB := hide (hb.trans (hb1a.mono hb.size))
  have kA : ((w1.alloc (.cells #[.int .u8 0, .string ⟨#[]⟩, .int .i64 0] 77)).alloc (.cells #[.int .i64 e, .int .i64 p] 28)).heap[w1.heap.size]? = some (.cells #[.int .u8 0, .string ⟨#[]⟩, .int .i64 0] 77 (0, 0)) := (Below.heap_alloc _ _ _ (by simp)).trans (heap_alloc_new w1 _)
  have kC : ((w1.alloc (.cells #[.int .u8 0, .string ⟨#[]⟩, .int .i64 0] 77)).alloc (.cells #[.int .i64 e, .int .i64 p] 28)).heap[w1.heap.size + 1]? = some (.cells #[.int .i64 e, .int .i64 p] 28 (0, 0)) := by simpa using heap_alloc_new (w1.alloc (.cells #[.int .u8 0, .string ⟨#[]⟩, .int .i64 0] 77)) (.cells #[.int .i64 e, .int .i64 p] 28)
  have HA := hide kA
  have HC := hide kC
  clear hC hb1 hba hb1a kT kS hb sS kA kC
  go_wp2_with fail
  generalize (w1.alloc (.cells #[.int .u8 0, .string ⟨#[]⟩, .int .i64 0] 77)).alloc (.cells #[.int .i64 e, .int .i64 p] 28) = W2 at *
  obtain ⟨cz, _⟩ := blk_cells HA.out
  obtain ⟨cy, _⟩ := blk_cells HC.out
  obtain ⟨ct, ft⟩ := blk_cells HT.out
  obtain ⟨cp, fp⟩ := blk_cells HS.out
  have y0 := cz 0
  have y1 := cz 1
  have y2 := cz 2
  have v0 := cy 0
  have v1 := cy 1
  have t0 := ct 0
  have t1 := ct 1
  have t2 := ct 2
  have p0 := cp 0
  have p1 := cp 1
  obtain ⟨x1, x2, x3⟩ := five_drew HT.out HS.out (.int .u8 0) (.string ⟨#[]⟩) (.int .i64 0) (.int .i64 e) (.int .i64 p)
  have HY := hide (HB.out.trans x3)
  have HY1 := hide x1
  have HY2 := hide x2
  have n1 : w1.heap.size ≠ w.heap.size := by omega
  have n2 : w1.heap.size + 1 ≠ w.heap.size := by omega
  have n3 : w1.heap.size ≠ w.heap.size + 1 := by omega
  have n4 : w1.heap.size + 1 ≠ w.heap.size + 1 := by omega
  clear x1 x2 x3 cz cy ct cp HT HS HA HC HB
  go_region
  generalize (((((W2.setCell ⟨w.heap.size, 0, none⟩ (.int .u8 0)).setCell ⟨w.heap.size, 1, none⟩ (.string ⟨#[]⟩)).setCell ⟨w.heap.size, 2, none⟩ (.int .i64 0)).setCell ⟨w.heap.size + 1, 0, none⟩ (.int .i64 e)).setCell ⟨w.heap.size + 1, 1, none⟩ (.int .i64 p)).drew = X at *
  clear y0 y1 y2 v0 v1 t0 t1 t2 p0 p1 ft fp
  go_wp2
  obtain ⟨e1, _⟩ := blk_cells HY1.out
  obtain ⟨e2, _⟩ := blk_cells HY2.out
  have a0 := e1 0
  have a1 := e1 1
  have a2 := e1 2
  have b0 := e2 0
  have b1 := e2 1
  refine bodyPost_ret (v := .tuple #[.int .u32 0, .agg #[.int .u8 0, .string ⟨#[]⟩, .int .i64 0], .agg #[.int .i64 e, .int .i64 p]]) ?_ rfl ⟨rfl, HY.out⟩
  simp [results, Try.results45, go_sem, a0, a1, a2, b0, b1]

set_option maxHeartbeats 4000000 in
/-- Where it is. -/
theorem number_ok (B : Nat) (a : Option Addr) (n c k : Nat) (len : Int) (rest : Array Value) (T : Nat) (l : List TokT) (w : World) (h : RowAt w B a n c k len rest T) (hv : ToksV w a l) (hl : l.length = n) (hn : 32 * n ≤ 140737488351232) (hk : k < n) (hkd : (nthT l k).1 = 3) (hsz : (nthT l k).2.1.size ≤ 140737488351232) :
    Calls Try.prog 45 #[.pointer (some ⟨B, 0, none⟩)] w fun x w' => x = .returned (.tuple #[.int .u32 (numOut (strI (nthT l k).2.1)), tokV (nthT l k), .agg #[.int .i64 (numErr (strI (nthT l k).2.1)), .int .i64 (fltA (numErr (strI (nthT l k).2.1)) (nthT l k).2.2)]]) ∧ RowAt w' B a n c (k + 1) len rest T ∧ w.grownBy w' (some B) := by
  obtain ⟨kT, kS, hb⟩ := tok_spot_boxes w
  have hC := take_ok B a n c k len rest T l 3 _ (h.below hb) (hv.below hb) hl hn hk hkd
  have hlt := h.lt
  have hN := fun wx => lexNumber_any (nthT l k).2.1 wx hsz
  have hFA := fun wx => faultAt_any (nthT l k) (numErr (strI (nthT l k).2.1)) wx
  generalize numErr (strI (nthT l k).2.1) = ne at *
  generalize numOut (strI (nthT l k).2.1) = no at *
  generalize nthT l k = z at *
  obtain ⟨z1, z2, z3⟩ := z
  unfold tokV at hC hFA ⊢
  simp only at hC hFA hN ⊢
  generalize fltA ne z3 = fp0 at *
  clear h hv hl hn hk hkd hsz
  go_enter Try.func45, Try.ntmps45
  go_wp2_with fail
  generalize (w.alloc (.cells #[.int .u8 0, .string ⟨#[]⟩, .int .i64 0] 77)).alloc (.cells #[.int .i64 0, .int .i64 0] 28) = W at *
  refine hC.mono ?_
  rintro x w1 ⟨rfl, hR1, hg1⟩
  have hba : Below w1.heap.size w1 ((w1.alloc (.cells #[.int .u8 z1, .string z2, .int .i64 z3] 77)).alloc (.cells #[.int .i64 0, .int .i64 0] 28)) := ((Below.refl _ w1).alloc (Nat.le_refl _) _).alloc (by simp) _
  have sS := (Array.getElem?_eq_some_iff.1 kS).1
  have s1 : w.heap.size + 1 < w1.heap.size := Nat.lt_of_lt_of_le sS hg1.size
  have HT := hide ((hba.block _ (by omega)).trans ((hg1.block _ (by omega) (by simp; omega)).trans kT))
  have HS := hide ((hba.block _ s1).trans ((hg1.block _ sS (by simp; omega)).trans kS))
  have hg : w.grownBy ((w1.alloc (.cells #[.int .u8 z1, .string z2, .int .i64 z3] 77)).alloc (.cells #[.int .i64 0, .int .i64 0] 28)) (some B) :=
    ⟨hba.os.trans (hg1.os.trans hb.os), hba.tape.trans (hg1.tape.trans hb.tape), hba.output.trans (hg1.output.trans hb.output), Nat.le_trans hb.size (Nat.le_trans hg1.size hba.size), fun j hj hr => (hba.block j (by omega)).trans ((hg1.block j (Nat.lt_of_lt_of_le hj hb.size) hr).trans (hb.block j hj))⟩
  have HG := hide hg
  have HR := hide (hR1.below hba)
  have kA : ((w1.alloc (.cells #[.int .u8 z1, .string z2, .int .i64 z3] 77)).alloc (.cells #[.int .i64 0, .int .i64 0] 28)).heap[w1.heap.size]? = some (.cells #[.int .u8 z1, .string z2, .int .i64 z3] 77 (0, 0)) := (Below.heap_alloc _ _ _ (by simp)).trans (heap_alloc_new w1 _)
  have HA := hide kA
  have sA : w1.heap.size + 1 < ((w1.alloc (.cells #[.int .u8 z1, .string z2, .int .i64 z3] 77)).alloc (.cells #[.int .i64 0, .int .i64 0] 28)).heap.size := by simp
  clear hC hg1 hR1 hba kT kS hb sS kA hg
  go_wp2_with fail
  generalize (w1.alloc (.cells #[.int .u8 z1, .string z2, .int .i64 z3] 77)).alloc (.cells #[.int .i64 0, .int .i64 0] 28) = W2 at *
  refine (hN _).mono ?_
  rintro x w' ⟨rfl, rfl⟩
  clear hN
  obtain ⟨cz, _⟩ := blk_cells HA.out
  obtain ⟨ct, ft⟩ := blk_cells HT.out
  obtain ⟨cp, fp⟩ := blk_cells HS.out
  have y0 := cz 0
  have y1 := cz 1
  have y2 := cz 2
  have t0 := ct 0
  have t1 := ct 1
  have t2 := ct 2
  have p0 := cp 0
  have p1 := cp 1
  have n1 : w1.heap.size ≠ w.heap.size := by omega
  have n3 : w1.heap.size ≠ w.heap.size + 1 := by omega
  have sw : w.heap.size + 1 < W2.heap.size := by omega
  have sw2 : w.heap.size < W2.heap.size := by omega
  clear cz ct cp
  go_wp2_with fail
  go_region_with ((go_at_call 44; refine (hFA _).mono ?_; rintro x w3 ⟨rfl, hbx⟩; have m0 := hbx.cell (p := ⟨w.heap.size, 0, none⟩) (by simp; omega); have m1 := hbx.cell (p := ⟨w.heap.size, 1, none⟩) (by simp; omega); have m2 := hbx.cell (p := ⟨w.heap.size, 2, none⟩) (by simp; omega); have m3 := hbx.cell (p := ⟨w.heap.size + 1, 0, none⟩) (by simp; omega); have m4 := hbx.cell (p := ⟨w.heap.size + 1, 1, none⟩) (by simp; omega); have m5 := hbx.frozen (p := ⟨w.heap.size, 0, none⟩) (by simp; omega); have m6 := hbx.frozen (p := ⟨w.heap.size, 1, none⟩) (by simp; omega); have m7 := hbx.frozen (p := ⟨w.heap.size, 2, none⟩) (by simp; omega); have m8 := hbx.frozen (p := ⟨w.heap.size + 1, 0, none⟩) (by simp; omega); have m9 := hbx.frozen (p := ⟨w.heap.size + 1, 1, none⟩) (by simp; omega); have l0 := hbx.cell (p := ⟨w1.heap.size, 0, none⟩) (by simp; omega); have l1 := hbx.cell (p := ⟨w1.heap.size, 1, none⟩) (by simp; omega); have l2 := hbx.cell (p := ⟨w1.heap.size, 2, none⟩) (by simp; omega); have HBX := hide hbx))
  all_goals
    have hbx := HBX.out
    have sB := HR.out.lt
    have kT3 := (hbx.block w.heap.size (by simp; omega)).trans HT.out
    have kS3 := (hbx.block (w.heap.size + 1) (by simp; omega)).trans HS.out
    have hR3 := (hbx.block B (by simp; omega)).trans HR.out
    have hg3 : w.grownBy w3 (some B) := ⟨hbx.os.trans HG.out.os, hbx.tape.trans HG.out.tape, hbx.output.trans HG.out.output, Nat.le_trans HG.out.size hbx.size, fun j hj hr => (hbx.block j (by simp; omega)).trans (HG.out.block j hj hr)⟩
    obtain ⟨x1, x2, x3⟩ := five_put kT3 kS3 (.int .u8 z1) (.string z2) (.int .i64 z3) (.int .i64 ne) (.int .i64 fp0)
    have hRX := (x3.block B hlt).trans hR3
    have hgX := grown_put hg3 x3
    have HRX := hide hRX
    have HGX := hide hgX
    have HY1 := hide x1
    have HY2 := hide x2
    clear hbx kT3 kS3 hR3 hg3 x1 x2 x3 hRX hgX m0 m1 m2 m3 m4 m5 m6 m7 m8 m9 l0 l1 l2 HBX y0 y1 y2 t0 t1 t2 p0 p1 ft fp HT HS HR HG HA hFA
    generalize ((((w3.setCell ⟨w.heap.size, 0, none⟩ (.int .u8 z1)).setCell ⟨w.heap.size, 1, none⟩ (.string z2)).setCell ⟨w.heap.size, 2, none⟩ (.int .i64 z3)).setCell ⟨w.heap.size + 1, 0, none⟩ (.int .i64 ne)).setCell ⟨w.heap.size + 1, 1, none⟩ (.int .i64 fp0) = X at *
    go_wp2
    obtain ⟨e1, _⟩ := blk_cells HY1.out
    obtain ⟨e2, _⟩ := blk_cells HY2.out
    have a0 := e1 0
    have a1 := e1 1
    have a2 := e1 2
    have b0 := e2 0
    have b1 := e2 1
    refine bodyPost_ret (v := .tuple #[.int .u32 no, .agg #[.int .u8 z1, .string z2, .int .i64 z3], .agg #[.int .i64 ne, .int .i64 fp0]]) ?_ rfl ⟨rfl, HRX.out, HGX.out⟩
    simp [results, Try.results45, go_sem, a0, a1, a2, b0, b1]

end Go.Proofs.Yteckmcgihbicfab
