/-
  Texts laid together in one: AsmOpS, AsmOpA, AsmEnd, Jumps, AsmRead0.
-/
import Derived.WalkSpells
import Derived.WalkMore
import Derived.BigRegion
import Derived.Deep.RegionWith
import Derived.Deep.QuietTactic
import Derived.BigQuiet
import Derived.Test.YtddkapkkjhomkaaGreatDoorProg
import Derived.Test.YtddkapkkjhomkaaGreatDoorB23
import Derived.Test.YtddkapkkjhomkaaGreatDoorB18
import Derived.Test.YtddkapkkjhomkaaGreatDoorB13
import Derived.Test.YtddkapkkjhomkaaGreatDoorB05
import Derived.Test.YtddkapkkjhomkaaGreatDoorB11
import Derived.WalkKit
import Derived.ScopeJumps
import Derived.Test.YtddkapkkjhomkaaGreatDoorB19
/-
  What the method operation of a reader returns, of the layer asm, where a word is taken.
-/
namespace Go.Proofs.YtddkapkkjhomkaaGreatDoor
open Go.RowKit
set_option linter.unusedVariables false
set_option linter.unusedSimpArgs false
set_option maxRecDepth 10000

/-- What holds behind an operation that has a name. -/
def OpQ (w' : World) (B : Nat) (a : Option Addr) (n c k : Nat) (len b : Int) (o : Nat) (f : Frm) (it ir : Int) (av : Value) (wd : Int) (z : TokT) (E P : Int) : Prop :=
  if f.2.2.1 ≠ (z.1 == 2) then E = 41 ∧ P = z.2.2 else if f.2.2.1 = false then E = 0 ∧ P = 0 ∧ Rea w' B a n c (k + 1) len b o f o it ir av wd
  else E = idP z.2.1 b ∧ P = fltA E z.2.2 ∧ (E = 0 → Rea w' B a n c (k + 1) len b o f o it (numV (strI z.2.1)) av wd)

theorem grown_bel {w w1 w2 : World} {B : Nat} (h : w.grownBy w1 (some B)) (hb : Below w1.heap.size w1 w2) : w.grownBy w2 (some B) := ⟨hb.os.trans h.os, hb.tape.trans h.tape, hb.output.trans h.output, Nat.le_trans h.size hb.size, fun j hj hr => (hb.block j (Nat.lt_of_lt_of_le hj h.size)).trans (h.block j hj hr)⟩
theorem grown_set {w w1 : World} {B : Nat} (h : w.grownBy w1 (some B)) (i : Nat) (v : Value) : w.grownBy (w1.setCell ⟨B, i, none⟩ v) (some B) := ⟨h.os, h.tape, h.output, by simp only [World.setCell, Array.size_modify]; exact h.size, fun j hj hr => by
  have hne : B ≠ j := fun e => hr (by rw [e])
  simp only [World.setCell, Array.getElem?_modify, if_neg hne]; exact h.block j hj hr⟩
theorem Rea.belowAt {w w' : World} {B : Nat} {a : Option Addr} {n c k : Nat} {len b fo : Int} {f : Frm} {io it ir : Int} {av : Value} {wd : Int} {g : Nat} (h : Rea w B a n c k len b fo f io it ir av wd) (hb : Below g w w') (hg : B < g) : Rea w' B a n c k len b fo f io it ir av wd := Rea.mk ((hb.block _ hg).trans h.block)
theorem lt_ad8 (W : World) : W.heap.size < (W.alloc (.cells #[.int .u8 0, .int .u32 0, .string ⟨#[]⟩] 67)).drew.heap.size := by show _ < (W.alloc _).heap.size; simp
theorem argbox_b {W w8 : World} {x0 x1 x2 : Value} {T : Nat} (hb : Below (W.alloc (.cells #[x0, x1, x2] T)).drew.heap.size (W.alloc (.cells #[x0, x1, x2] T)).drew w8) (u0 u1 u2 : Value) : (((w8.setCell ⟨W.heap.size, 0, none⟩ u0).setCell ⟨W.heap.size, 1, none⟩ u1).setCell ⟨W.heap.size, 2, none⟩ u2).heap[W.heap.size]? = some (.cells #[u0, u1, u2] T (0, 0)) ∧ Below W.heap.size W (((w8.setCell ⟨W.heap.size, 0, none⟩ u0).setCell ⟨W.heap.size, 1, none⟩ u1).setCell ⟨W.heap.size, 2, none⟩ u2) := by
  have k8 : w8.heap[W.heap.size]? = some (.cells #[x0, x1, x2] T (0, 0)) := (hb.block _ (by show _ < (W.alloc _).heap.size; simp)).trans (heap_alloc_new W _)
  obtain ⟨a, b⟩ := arg_put k8 u0 u1 u2
  have h1 : Below W.heap.size W (W.alloc (.cells #[x0, x1, x2] T)).drew := ((Below.refl _ W).alloc (Nat.le_refl _) _).drew
  exact ⟨a, (h1.trans (hb.mono h1.size)).trans b⟩

set_option maxHeartbeats 4000000 in
/-- The word names an operation. -/
theorem operation_some (B : Nat) (a : Option Addr) (n c k : Nat) (len b fo0 : Int) (f0 : Frm) (io0 it ir : Int) (av : Value) (wd : Int) (l : List TokT) (o : Nat) (w : World) (h : Rea w B a n c k len b fo0 f0 io0 it ir av wd) (hv : ToksV w a l) (hl : l.length = n) (hn : 32 * n ≤ 140737488351232) (hk : k < n) (hkd : (nthT l k).1 = 1) (hsz : (nthT l k).2.1.size ≤ 140737488351232) (hno : opsL.find? (namP (nthT l k).2.1) = some o) (hs0 : (nthT l 0).2.1.size ≤ 140737488351232) (hfar : ∀ g off, a = some ⟨g, off, none⟩ → g ≠ B) :
    Calls Tryz.prog 175 #[.pointer (some ⟨B, 0, none⟩)] w fun x w' => ∃ E P : Int, x = .returned (.agg #[.int .i64 E, .int .i64 P]) ∧ w.grownBy w' (some B) ∧ OpQ w' B a n c k len b o (opF o) it ir av wd (nthT l 0) E P := by
  obtain ⟨kS, hb⟩ := spot_box w
  have hC := take_ok B a n c k len _ _ l 1 _ (RowAt.below h hb) (hv.below hb) hl hn hk hkd
  have hNm := fun wx => named_any (nthT l k).2.1 wx hsz
  have e1 : namedB (nthT l k).2.1 = true := by unfold namedB; rw [hno]; rfl
  have e2 : namedV (nthT l k).2.1 = formV o (opF o) := by unfold namedV; rw [hno]
  rw [e1, e2] at hNm
  have hSy := fun (wx : World) (k' : Nat) (rest' : Array Value) (T' : Nat) (hx : RowAt wx B a n c k' len rest' T') (hvx : ToksV wx a l) => says_any B a n c k' len rest' T' l wx hx hvx hl (by omega)
  have hFA := fun (e : Int) wx => faultAt_any (nthT l 0) e wx
  have hId := fun wx => wantId_any 105 b (nthT l 0).2.1 wx hs0
  have hlt := Rea.lt h
  have HFAR : Hid (∀ j, j < n → ∃ g off, a = some ⟨g, off, none⟩ ∧ g < w.heap.size) := fun j hj => by
    obtain ⟨g, off, e, hg, _⟩ := hv j (by omega)
    exact ⟨g, off, e, hg⟩
  have HV := hide hv
  have HL := hide hl
  have HFB := hide hfar
  clear hfar
  have HN0 : Hid (0 < n) := by show 0 < n; omega
  obtain ⟨z, hz⟩ : ∃ z, z = nthT l k := ⟨_, rfl⟩
  rw [← hz] at hC hNm
  clear hz
  generalize hf : opF o = f at *
  obtain ⟨nm, ty, re, fx, rs, mo, pa⟩ := f
  unfold formV at hNm
  simp only at hNm ⊢
  obtain ⟨z1, z2, z3⟩ := z
  unfold tokV at hC
  simp only at hC hNm
  have HS := hide kS
  have HB := hide hb
  have HH := hide h
  clear kS hb h hv hl hn hk hkd hsz hno e1 e2 hs0
  go_enter Tryz.func175, Tryz.ntmps175
  go_wp2_with fail
  generalize w.alloc (.cells #[.int .i64 0, .int .i64 0] 28) = W at *
  refine hC.mono ?_
  rintro x w1 ⟨rfl, hR1, hg1⟩
  have sS := (Array.getElem?_eq_some_iff.1 HS.out).1
  have s1 : w.heap.size < w1.heap.size := Nat.lt_of_lt_of_le sS hg1.size
  have hba : Below w1.heap.size w1 ((w1.alloc (.cells #[.int .u8 z1, .string z2, .int .i64 z3] 106)).alloc (.cells #[.int .i64 0, .int .i64 0] 28)) := ((Below.refl _ w1).alloc (Nat.le_refl _) _).alloc (by simp) _
  have HS1 := hide ((hba.block _ s1).trans ((hg1.block _ sS (by simp; omega)).trans HS.out))
  have hg : w.grownBy ((w1.alloc (.cells #[.int .u8 z1, .string z2, .int .i64 z3] 106)).alloc (.cells #[.int .i64 0, .int .i64 0] 28)) (some B) :=
    ⟨hba.os.trans (hg1.os.trans HB.out.os), hba.tape.trans (hg1.tape.trans HB.out.tape), hba.output.trans (hg1.output.trans HB.out.output), Nat.le_trans HB.out.size (Nat.le_trans hg1.size hba.size), fun j hj hr => (hba.block j (by omega)).trans ((hg1.block j (Nat.lt_of_lt_of_le hj HB.out.size) hr).trans (HB.out.block j hj))⟩
  have HG := hide hg
  have kA : ((w1.alloc (.cells #[.int .u8 z1, .string z2, .int .i64 z3] 106)).alloc (.cells #[.int .i64 0, .int .i64 0] 28)).heap[w1.heap.size]? = some (.cells #[.int .u8 z1, .string z2, .int .i64 z3] 106 (0, 0)) := (Below.heap_alloc _ _ _ (by simp)).trans (heap_alloc_new w1 _)
  have HA := hide kA
  have sA : w1.heap.size < ((w1.alloc (.cells #[.int .u8 z1, .string z2, .int .i64 z3] 106)).alloc (.cells #[.int .i64 0, .int .i64 0] 28)).heap.size := by simp; omega
  have HR := hide (show Rea _ B a n c (k + 1) len b fo0 f0 io0 it ir av wd from RowAt.below hR1 hba)
  clear hC hR1 hg1 hba hg kA HS HB sS
  go_wp2_with fail
  generalize (w1.alloc (.cells #[.int .u8 z1, .string z2, .int .i64 z3] 106)).alloc (.cells #[.int .i64 0, .int .i64 0] 28) = W2 at *
  refine (hNm _).mono ?_
  rintro x w3 ⟨rfl, hb3⟩
  have s3 : w1.heap.size < w3.heap.size := Nat.lt_of_lt_of_le sA hb3.size
  have kA3 := (hb3.block _ sA).trans HA.out
  have kS3 := (hb3.block _ (by omega)).trans HS1.out
  obtain ⟨ca, _⟩ := blk_cells kA3
  have y0 := ca 0
  have y1 := ca 1
  have y2 := ca 2
  have hba : Below w3.heap.size w3 (w3.alloc (.cells #[.int .u16 (o : Int), .string nm, .bool ty, .bool re, .string fx, .string rs, .int .i64 mo, .int .u8 pa] 94)) := (Below.refl _ _).alloc (Nat.le_refl _) _
  have hb3a := hb3.trans (hba.mono hb3.size)
  have HS3 := hide ((hba.block _ (by omega)).trans kS3)
  have HA3 := hide ((hba.block _ s3).trans kA3)
  have HR3 := hide (HR.out.below hb3a)
  have HF3 := hide (heap_alloc_new w3 (.cells #[.int .u16 (o : Int), .string nm, .bool ty, .bool re, .string fx, .string rs, .int .i64 mo, .int .u8 pa] 94))
  have HG3 := hide (show w.grownBy (w3.alloc (.cells #[.int .u16 (o : Int), .string nm, .bool ty, .bool re, .string fx, .string rs, .int .i64 mo, .int .u8 pa] 94)) (some B) from ⟨hb3a.os.trans HG.out.os, hb3a.tape.trans HG.out.tape, hb3a.output.trans HG.out.output, Nat.le_trans HG.out.size hb3a.size, fun j hj hr => (hb3a.block j (Nat.lt_of_lt_of_le hj HG.out.size)).trans (HG.out.block j hj hr)⟩)
  have hsF : w3.heap.size < (w3.alloc (.cells #[.int .u16 (o : Int), .string nm, .bool ty, .bool re, .string fx, .string rs, .int .i64 mo, .int .u8 pa] 94)).heap.size := by simp
  clear hNm hb3 kA3 kS3 ca hba hb3a HA HS1 HG HR
  go_wp2_with fail
  generalize (w3.alloc (.cells #[.int .u16 (o : Int), .string nm, .bool ty, .bool re, .string fx, .string rs, .int .i64 mo, .int .u8 pa] 94)) = W4 at *
  obtain ⟨cr, fr⟩ := blk_cells HR3.out.block
  obtain ⟨cd, _⟩ := blk_cells HF3.out
  have r4 : W4.cell? ⟨B, 4, none⟩ = some (.int .u16 fo0) := cr 4
  have r5 : W4.cell? ⟨B, 5, none⟩ = some (.string f0.1) := cr 5
  have r6 : W4.cell? ⟨B, 6, none⟩ = some (.bool f0.2.1) := cr 6
  have r7 : W4.cell? ⟨B, 7, none⟩ = some (.bool f0.2.2.1) := cr 7
  have r8 : W4.cell? ⟨B, 8, none⟩ = some (.string f0.2.2.2.1) := cr 8
  have r9 : W4.cell? ⟨B, 9, none⟩ = some (.string f0.2.2.2.2.1) := cr 9
  have r10 : W4.cell? ⟨B, 10, none⟩ = some (.int .i64 f0.2.2.2.2.2.1) := cr 10
  have r11 : W4.cell? ⟨B, 11, none⟩ = some (.int .u8 f0.2.2.2.2.2.2) := cr 11
  have r12 : W4.cell? ⟨B, 12, none⟩ = some (.int .u16 io0) := cr 12
  have d0 := cd 0
  have d1 := cd 1
  have d2 := cd 2
  have d3 := cd 3
  have d4 := cd 4
  have d5 := cd 5
  have d6 := cd 6
  have d7 := cd 7
  have nB : B ≠ w3.heap.size := by omega
  have nB2 : w3.heap.size ≠ B := by omega
  clear cr cd y0 y1 y2
  go_region
  have HF4 := hide ((formW_far W4 B o (nm, ty, re, fx, rs, mo, pa) (by omega)).trans HF3.out)
  have HS4 := hide ((formW_far W4 B o (nm, ty, re, fx, rs, mo, pa) (by omega)).trans HS3.out)
  have HR4 := hide (formW_rd HR3.out o (nm, ty, re, fx, rs, mo, pa))
  have HG4 := hide (formW_grown o (nm, ty, re, fx, rs, mo, pa) HG3.out)
  have hs4 := formW_size W4 B o (nm, ty, re, fx, rs, mo, pa)
  have HSZ4 : Hid (w3.heap.size < (formW W4 B o (nm, ty, re, fx, rs, mo, pa)).heap.size) := by show _ < _; rw [hs4]; exact hsF
  have hV4 : ToksV (formW W4 B o (nm, ty, re, fx, rs, mo, pa)) a l := by
    intro j hj
    obtain ⟨g, off, e, hg, q1, q2, q3⟩ := HV.out j hj
    have hx : (formW W4 B o (nm, ty, re, fx, rs, mo, pa)).heap[g]? = w.heap[g]? := (formW_far W4 B o _ (HFB.out g off e)).trans (HG3.out.block g hg (by simpa using HFB.out g off e))
    refine ⟨g, off, e, by rw [hs4]; have := HG3.out.size; omega, ?_, ?_, ?_⟩
    · simp only [World.cell?, hx] at q1 ⊢; exact q1
    · simp only [World.cell?, hx] at q2 ⊢; exact q2
    · simp only [World.cell?, hx] at q3 ⊢; exact q3
  have HV4 := hide hV4
  unfold formW at HF4 HS4 HR4 HG4 HSZ4 HV4
  simp only at HF4 HS4 HR4 HG4 HSZ4 HV4
  clear r4 r5 r6 r7 r8 r9 r10 r11 r12 d0 d1 d2 d3 d4 d5 d6 d7 fr hs4 hV4 HF3 HS3 HR3 HG3 HV HFAR
  generalize (((((((((W4.setCell ⟨B, 4, none⟩ (.int .u16 (o : Int))).setCell ⟨B, 5, none⟩ (.string nm)).setCell ⟨B, 6, none⟩ (.bool ty)).setCell ⟨B, 7, none⟩ (.bool re)).setCell ⟨B, 8, none⟩ (.string fx)).setCell ⟨B, 9, none⟩ (.string rs)).setCell ⟨B, 10, none⟩ (.int .i64 mo)).setCell ⟨B, 11, none⟩ (.int .u8 pa)).setCell ⟨B, 12, none⟩ (.int .u16 (o : Int))).drew = W5 at *
  obtain ⟨c0, c1, c2, cf⟩ := RowAt.cells HR4.out
  obtain ⟨g1, o1, rfl, hg1, t1, t2, t3⟩ := HV4.out 0 (by rw [HL.out]; exact HN0.out)
  simp only [Nat.zero_mul, Nat.add_zero] at t1 t2 t3
  have hn0 : (0 : Int) < (n : Int) := by have := HN0.out; omega
  have hSy4 := fun (wx : World) (hb : Below W5.heap.size W5 wx) => hSy wx (k + 1) _ _ (RowAt.below HR4.out hb) (HV4.out.below hb)
  have HSY := hide hSy4
  clear hSy hSy4
  obtain ⟨y, hy⟩ : ∃ y, y = nthT l 0 := ⟨_, rfl⟩
  rw [← hy] at t1 t2 t3 hFA hId HSY
  have HY0 := hide hy
  clear hy
  obtain ⟨y1, y2, y3⟩ := y
  unfold tokV at hFA
  simp only at t1 t2 t3 hFA hId HSY
  have hbT : Below W5.heap.size W5 (W5.alloc (.cells #[.int .u8 y1, .string y2, .int .i64 y3] 106)) := (Below.refl _ _).alloc (Nat.le_refl _) _
  have sF5 := HSZ4.out
  have kF6 := (hbT.block _ sF5).trans HF4.out
  have HF6 := hide kF6
  have HS6 := hide ((hbT.block _ (by omega)).trans HS4.out)
  have HR6 := hide (HR4.out.below hbT)
  have HT6 := hide (heap_alloc_new W5 (.cells #[.int .u8 y1, .string y2, .int .i64 y3] 106))
  have HG6 := hide (show w.grownBy (W5.alloc (.cells #[.int .u8 y1, .string y2, .int .i64 y3] 106)) (some B) from ⟨hbT.os.trans HG4.out.os, hbT.tape.trans HG4.out.tape, hbT.output.trans HG4.out.output, Nat.le_trans HG4.out.size hbT.size, fun j hj hr => (hbT.block j (Nat.lt_of_lt_of_le hj HG4.out.size)).trans (HG4.out.block j hj hr)⟩)
  have HBT := hide hbT
  clear hbT kF6
  go_wp2_with fail
  generalize W5.alloc (.cells #[.int .u8 y1, .string y2, .int .i64 y3] 106) = W6 at *
  obtain ⟨cd, _⟩ := blk_cells HF6.out
  have d3 := cd 3
  clear c0 c1 c2 cf t1 t2 t3 cd
  have hSq := fun q => HSY.out (W6.drewN q) (HBT.out.trans ((bel_drewN (Below.refl W6.heap.size W6) q).mono HBT.out.size))
  go_quiet ((go_at_call 174; exact Calls.quiet_of_same ((hSq _).mono fun _ _ h => ⟨h.1, h.2.symm⟩)))
  have hbq : Below W6.heap.size W6 (W6.drewN nq) := bel_drewN (Below.refl _ W6) nq
  have HT7 := hide ((hbq.block _ (Array.getElem?_eq_some_iff.1 HT6.out).1).trans HT6.out)
  have HS7 := hide ((hbq.block _ (Array.getElem?_eq_some_iff.1 HS6.out).1).trans HS6.out)
  have HF7 := hide ((hbq.block _ (Array.getElem?_eq_some_iff.1 HF6.out).1).trans HF6.out)
  have HR7 := hide (HR6.out.below hbq)
  have HG7 := hide (grown_bel HG6.out hbq)
  clear hbq hSq d3 HT6 HS6 HF6 HR6 HG6 HSY HBT
  generalize W6.drewN nq = W7 at *
  have sS7 := (Array.getElem?_eq_some_iff.1 HS7.out).1
  have sT7 := (Array.getElem?_eq_some_iff.1 HT7.out).1
  obtain ⟨cu, _⟩ := blk_cells HT7.out
  have u0 := cu 0
  have u1 := cu 1
  have u2 := cu 2
  obtain ⟨cd, _⟩ := blk_cells HF7.out
  have d3 := cd 3
  clear cu cd
  generalize hsb : (y1 == 2) = sb
  cases re <;> cases sb
  · obtain ⟨cp, fp⟩ := blk_cells HS7.out
    have p0 := cp 0
    have p1 := cp 1
    obtain ⟨x1, x2⟩ := two_putB HS7.out (.int .i64 0) (.int .i64 0)
    have HY := hide (grown_put HG7.out x2)
    have HY1 := hide x1
    have HY2 := hide (HR7.out.belowAt x2 hlt)
    clear hFA cp x1 x2 u0 u1 u2
    go_wp2_with fail
    generalize (W7.setCell ⟨w.heap.size, 0, none⟩ (.int .i64 0)).setCell ⟨w.heap.size, 1, none⟩ (.int .i64 0) = X at *
    obtain ⟨e1, _⟩ := blk_cells HY1.out
    have a0 := e1 0
    have a1 := e1 1
    refine bodyPost_ret (v := .agg #[.int .i64 0, .int .i64 0]) ?_ rfl ⟨0, 0, rfl, HY.out, by rw [← HY0.out]; unfold OpQ; simp [hsb]; exact HY2.out⟩
    simp [results, Tryz.results175, go_sem, a0, a1]
  · have hF1 := hFA 41
    rw [show fltA 41 y3 = y3 by unfold fltA; simp] at hF1
    go_wp2_with fail
    refine (hF1 _).mono ?_
    rintro x w8 ⟨rfl, hb8⟩
    have kS8 := (hb8.block _ sS7).trans HS7.out
    obtain ⟨cp, fp⟩ := blk_cells kS8
    have p0 := cp 0
    have p1 := cp 1
    obtain ⟨x1, x2⟩ := two_putB kS8 (.int .i64 41) (.int .i64 y3)
    have HY := hide (grown_put (grown_bel HG7.out hb8) x2)
    have HY1 := hide x1
    clear hFA hF1 hb8 kS8 cp x1 x2 u0 u1 u2 d3
    go_wp2_with fail
    generalize (w8.setCell ⟨w.heap.size, 0, none⟩ (.int .i64 41)).setCell ⟨w.heap.size, 1, none⟩ (.int .i64 y3) = X at *
    obtain ⟨e1, _⟩ := blk_cells HY1.out
    have a0 := e1 0
    have a1 := e1 1
    refine bodyPost_ret (v := .agg #[.int .i64 41, .int .i64 y3]) ?_ rfl ⟨41, y3, rfl, HY.out, by rw [← HY0.out]; unfold OpQ; simp [hsb]⟩
    simp [results, Tryz.results175, go_sem, a0, a1]
  · have hF1 := hFA 41
    rw [show fltA 41 y3 = y3 by unfold fltA; simp] at hF1
    go_wp2_with fail
    refine (hF1 _).mono ?_
    rintro x w8 ⟨rfl, hb8⟩
    have kS8 := (hb8.block _ sS7).trans HS7.out
    obtain ⟨cp, fp⟩ := blk_cells kS8
    have p0 := cp 0
    have p1 := cp 1
    obtain ⟨x1, x2⟩ := two_putB kS8 (.int .i64 41) (.int .i64 y3)
    have HY := hide (grown_put (grown_bel HG7.out hb8) x2)
    have HY1 := hide x1
    clear hFA hF1 hb8 kS8 cp x1 x2 u0 u1 u2 d3
    go_wp2_with fail
    generalize (w8.setCell ⟨w.heap.size, 0, none⟩ (.int .i64 41)).setCell ⟨w.heap.size, 1, none⟩ (.int .i64 y3) = X at *
    obtain ⟨e1, _⟩ := blk_cells HY1.out
    have a0 := e1 0
    have a1 := e1 1
    refine bodyPost_ret (v := .agg #[.int .i64 41, .int .i64 y3]) ?_ rfl ⟨41, y3, rfl, HY.out, by rw [← HY0.out]; unfold OpQ; simp [hsb]⟩
    simp [results, Tryz.results175, go_sem, a0, a1]
  · have hbd := ReadAt.bound HR7.out
    obtain ⟨ar, har⟩ : ∃ ar : ArgT, ar = if idP y2 b = 0 then (1, numV (strI y2), ⟨#[]⟩) else noArg := ⟨_, rfl⟩
    have hq : idP y2 b = 0 → ar.2.1 = numV (strI y2) := fun e => by rw [har, if_pos e]
    rw [← har] at hId
    have HQ := hide hq
    clear har hq
    obtain ⟨q0, q1, q2⟩ := ar
    unfold argV at hId
    simp only at hId
    have sB7 : B < W7.heap.size := HR7.out.lt
    have frB : ∀ i, W7.frozen? ⟨B, i, none⟩ = false := (blk_cells HR7.out.block).2
    go_wp2_with fail
    go_region_with ((go_at_call 209; first | (refine (hId _).mono ?_; rintro x w8 ⟨rfl, hb8⟩; have v0 := hb8.cell (p := ⟨W7.heap.size, 0, none⟩) (lt_ad8 W7); have v1 := hb8.cell (p := ⟨W7.heap.size, 1, none⟩) (lt_ad8 W7); have v2 := hb8.cell (p := ⟨W7.heap.size, 2, none⟩) (lt_ad8 W7); have v3 := hb8.frozen (p := ⟨W7.heap.size, 0, none⟩) (lt_ad8 W7); have v4 := hb8.frozen (p := ⟨W7.heap.size, 1, none⟩) (lt_ad8 W7); have v5 := hb8.frozen (p := ⟨W7.heap.size, 2, none⟩) (lt_ad8 W7); have HB8 := hide hb8) | (refine (hId _).mono ?_; rintro x w8 ⟨rfl, hb8⟩; have HB8 := hide hb8)))
    all_goals
      first
        | (obtain ⟨kX, hbX⟩ := argbox_b HB8.out (.int .u8 q0) (.int .u32 q1) (.string q2); clear HB8 hb8 v0 v1 v2 v3 v4 v5; generalize ((w8.setCell ⟨W7.heap.size, 0, none⟩ (.int .u8 q0)).setCell ⟨W7.heap.size, 1, none⟩ (.int .u32 q1)).setCell ⟨W7.heap.size, 2, none⟩ (.string q2) = X at *; obtain ⟨MB, hMB⟩ : ∃ MB, MB = W7.heap.size := ⟨_, rfl⟩; have hM : W7.heap.size ≤ MB := by omega
           rw [← hMB] at kX ⊢; clear hMB)
        | (have hb9 : Below W7.drew.heap.size W7.drew w8 := HB8.out; have hbX := ((below_drew W7).trans hb9).alloc hb9.size (.cells #[.int .u8 q0, .int .u32 q1, .string q2] 67); have kX := heap_alloc_new w8 (.cells #[.int .u8 q0, .int .u32 q1, .string q2] 67); have hM : W7.heap.size ≤ w8.heap.size := hb9.size; clear hb8 hb9 HB8; generalize w8.alloc (.cells #[.int .u8 q0, .int .u32 q1, .string q2] 67) = X at *; generalize w8.heap.size = MB at *)
      have kT := (hbX.block _ sT7).trans HT7.out
      have kS := (hbX.block _ sS7).trans HS7.out
      have hR := HR7.out.below hbX
      have hG := grown_bel HG7.out hbX
      have nT : B ≠ W5.heap.size := by omega
      have nT2 : W5.heap.size ≠ B := by omega
      have nS : B ≠ w.heap.size := by omega
      have b14 : X.cell? ⟨B, 14, none⟩ = some (.int .u32 ir) := (blk_cells hR.block).1 14
      have f14 : X.frozen? ⟨B, 14, none⟩ = false := (blk_cells hR.block).2 14
      have m1 : X.cell? ⟨MB, 1, none⟩ = some (.int .u32 q1) := (blk_cells kX).1 1
      obtain ⟨cu, _⟩ := blk_cells kT
      have k0 := cu 0
      have k1 := cu 1
      have k2 := cu 2
      have HR9 := hide (hR.setResult q1)
      have HG9 := hide (grown_set hG 14 (.int .u32 q1))
      have hS9 : (X.setCell ⟨B, 14, none⟩ (.int .u32 q1)).heap[w.heap.size]? = some (.cells #[.int .i64 0, .int .i64 0] 28 (0, 0)) := by
        simp only [World.setCell, Array.getElem?_modify, if_neg nS]; exact kS
      have HS9 := hide hS9
      clear hbX kX cu kT kS hR hG hS9 hbd frB d3 u0 u1 u2 hId
      go_wp2_with fail
      generalize X.setCell ⟨B, 14, none⟩ (.int .u32 q1) = Y at *
      refine (hFA _ _).mono ?_
      rintro x w9 ⟨rfl, hb9⟩
      generalize hE : idP y2 b = E at *
      generalize hP : fltA E y3 = PP at *
      have kS9 := (hb9.block _ (Array.getElem?_eq_some_iff.1 HS9.out).1).trans HS9.out
      obtain ⟨cp, fp⟩ := blk_cells kS9
      have p0 := cp 0
      have p1 := cp 1
      obtain ⟨x1, x2⟩ := two_putB kS9 (.int .i64 E) (.int .i64 PP)
      have HY := hide (grown_put (grown_bel HG9.out hb9) x2)
      have HY1 := hide x1
      have HY2 := hide ((HR9.out.below hb9).belowAt x2 hlt)
      clear hFA hb9 kS9 cp x1 x2 k0 k1 k2 b14 f14 m1
      go_wp2_with fail
      generalize (w9.setCell ⟨w.heap.size, 0, none⟩ (.int .i64 E)).setCell ⟨w.heap.size, 1, none⟩ (.int .i64 PP) = Z at *
      obtain ⟨e1, _⟩ := blk_cells HY1.out
      have a0 := e1 0
      have a1 := e1 1
      refine bodyPost_ret (v := .agg #[.int .i64 E, .int .i64 PP]) ?_ rfl ⟨E, PP, rfl, HY.out, ?_⟩
      · simp [results, Tryz.results175, go_sem, a0, a1]
      · rw [← HY0.out]
        unfold OpQ
        rw [if_neg (by simp [hsb]), if_neg (by simp)]
        refine ⟨hE.symm, hP.symm, fun h0 => ?_⟩
        rw [← HQ.out h0]
        exact HY2.out

end Go.Proofs.YtddkapkkjhomkaaGreatDoor

/-
  What the method operation of a reader returns, of the layer asm, in one form.
-/
namespace Go.Proofs.YtddkapkkjhomkaaGreatDoor
open Go.RowKit
set_option linter.unusedVariables false
set_option linter.unusedSimpArgs false

/-- The operation is known, its result fits. -/
def ResOk (o : Nat) (r b : Int) : Prop := (lookF refT o).2 = true ∧ o < 65536 ∧ idE (opF o).2.2.1 r b 41 = 0 ∧ 0 ≤ r ∧ r < 4294967296
/-- What holds behind an operation, by what the line says. -/
def OpA (w' : World) (B : Nat) (a : Option Addr) (n c k : Nat) (len b : Int) (it : Int) (av : Value) (wd : Int) (l : List TokT) (E P : Int) : Prop :=
  (E ≠ 0 ∧ lineO ((nthT l 0).1 == 2) l k len b = noLine E P) ∨
  (E = 0 ∧ k < n ∧ ∃ (o : Nat) (r : Int), lineO ((nthT l 0).1 == 2) l k len b = lineT o (opF o) r l (k + 1) len b ∧ ResOk o r b ∧ Rea w' B a n c (k + 1) len b o (opF o) o it r av wd)

theorem operation_any (B : Nat) (a : Option Addr) (n c k : Nat) (len b fo0 : Int) (f0 : Frm) (io0 it : Int) (av : Value) (wd : Int) (l : List TokT) (w : World) (h : Rea w B a n c k len b fo0 f0 io0 it 0 av wd) (hv : ToksV w a l) (hl : l.length = n) (hn : 32 * n ≤ 140737488351232) (hin : ToksIn l) (hk : k ≤ n) (h0 : 0 < n) (hfar : ∀ g off, a = some ⟨g, off, none⟩ → g ≠ B) :
    Calls Tryz.prog 175 #[.pointer (some ⟨B, 0, none⟩)] w fun x w' => ∃ E P : Int, x = .returned (.agg #[.int .i64 E, .int .i64 P]) ∧ w.grownBy w' (some B) ∧ OpA w' B a n c k len b it av wd l E P := by
  by_cases h1 : n ≤ k
  · obtain rfl : k = n := by omega
    refine (operation_bad B w 72 len (by decide) fun wx hb => take_early B a k c len _ _ 1 wx (RowAt.below h hb)).mono ?_
    rintro x w' ⟨rfl, hb⟩
    exact ⟨72, len, rfl, grown_below2 hb _, .inl ⟨by decide, by unfold lineO; rw [if_pos (by omega)]⟩⟩
  · have hlk : ¬ l.length ≤ k := by omega
    by_cases h2 : (nthT l k).1 = 1
    · have s1 := (hin k (by omega)).2.2.1
      have s0 := (hin 0 (by omega)).2.2.1
      cases ho : opsL.find? (namP (nthT l k).2.1) with
      | none =>
        refine (operation_none B a n c k len _ _ l w h hv hl hn (by omega) h2 s1 ho).mono ?_
        rintro x w' ⟨rfl, hg⟩
        refine ⟨71, _, rfl, hg, .inl ⟨by decide, ?_⟩⟩
        unfold lineO
        rw [if_neg hlk, if_neg (by omega), ho]
      | some o =>
        refine (operation_some B a n c k len b fo0 f0 io0 it 0 av wd l o w h hv hl hn (by omega) h2 s1 ho s0 hfar).mono ?_
        rintro x w' ⟨E, P, rfl, hg, hq⟩
        refine ⟨E, P, rfl, hg, ?_⟩
        unfold OpQ at hq
        unfold OpA lineO
        rw [if_neg hlk, if_neg (by omega), ho]
        simp only
        by_cases h3 : (opF o).2.2.1 = ((nthT l 0).1 == 2)
        · rw [if_neg (by simp [h3])] at hq
          rw [if_neg (by simp [h3])]
          by_cases h4 : (opF o).2.2.1 = false
          · rw [if_pos h4] at hq
            obtain ⟨rfl, rfl, hR⟩ := hq
            rw [← h3, h4]
            exact .inr ⟨rfl, by omega, o, 0, by simp, ⟨(op_known ho).1, (op_known ho).2, by rw [h4]; simp [idE], by omega, by omega⟩, hR⟩
          · rw [if_neg h4] at hq
            obtain ⟨rfl, rfl, hR⟩ := hq
            have h5 : ((nthT l 0).1 == 2) = true := by rw [← h3]; simpa using h4
            rw [h5]
            by_cases h6 : idP (nthT l 0).2.1 b = 0
            · obtain ⟨q1, q2, q3, q4⟩ := idP_zero h6
              have q5 := num_bounds q1
              exact .inr ⟨h6, by omega, o, _, by simp [h6], ⟨(op_known ho).1, (op_known ho).2, by rw [h3, h5]; exact idE_none q2, q5.1, q5.2⟩, hR h6⟩
            · refine .inl ⟨h6, ?_⟩
              rw [if_pos ⟨rfl, h6⟩]
              unfold fltA; rw [if_neg h6]
        · rw [if_pos h3] at hq
          obtain ⟨rfl, rfl⟩ := hq
          exact .inl ⟨by decide, by rw [if_pos h3]⟩
    · refine (operation_bad B w 70 (nthT l k).2.2 (by decide) fun wx hb => take_wrong B a n c k len _ _ l 1 wx (RowAt.below h hb) (hv.below hb) hl hn (by omega) h2).mono ?_
      rintro x w' ⟨rfl, hb⟩
      exact ⟨70, _, rfl, grown_below2 hb _, .inl ⟨by decide, by unfold lineO; rw [if_neg hlk, if_pos h2]⟩⟩

end Go.Proofs.YtddkapkkjhomkaaGreatDoor

/-
  What the method end of a reader returns, of the layer asm.
-/
namespace Go.Proofs.YtddkapkkjhomkaaGreatDoor
open Go.RowKit
set_option linter.unusedVariables false
set_option linter.unusedSimpArgs false
set_option maxRecDepth 10000

theorem lt_ad9 (W : World) : W.heap.size < (W.alloc (.cells #[.int .u16 0, .slice none 0 0] 60)).drew.heap.size := by show _ < (W.alloc _).heap.size; simp
theorem rawbox_e {W w8 : World} {x0 x1 : Value} {T : Nat} (hb : Below (W.alloc (.cells #[x0, x1] T)).drew.heap.size (W.alloc (.cells #[x0, x1] T)).drew w8) (u0 u1 : Value) : ((w8.setCell ⟨W.heap.size, 0, none⟩ u0).setCell ⟨W.heap.size, 1, none⟩ u1).heap[W.heap.size]? = some (.cells #[u0, u1] T (0, 0)) ∧ Below W.heap.size W ((w8.setCell ⟨W.heap.size, 0, none⟩ u0).setCell ⟨W.heap.size, 1, none⟩ u1) := by
  have k8 : w8.heap[W.heap.size]? = some (.cells #[x0, x1] T (0, 0)) := (hb.block _ (by show _ < (W.alloc _).heap.size; simp)).trans (heap_alloc_new W _)
  obtain ⟨a, b⟩ := two_putB k8 u0 u1
  have h1 : Below W.heap.size W (W.alloc (.cells #[x0, x1] T)).drew := ((Below.refl _ W).alloc (Nat.le_refl _) _).drew
  exact ⟨a, (h1.trans (hb.mono h1.size)).trans b⟩

/-- What holds behind the end of a line. -/
def EndQ (w' : World) (B : Nat) (a : Option Addr) (n c k : Nat) (len b fo : Int) (f : Frm) (x : InstT) (av : Value) (E P : Int) : Prop :=
  if (fitsI (lookF refT fo).2 (lookF refT fo).1 (kindsL x.2.2.2)).2 = false then E = 72 ∧ P = len
  else E = rawE x b ∧ P = 0 ∧ Rea w' B a n c k len b fo f x.1 x.2.1 x.2.2.1 av (1 + ((rawWs x b).length : Int))

set_option maxHeartbeats 4000000 in
theorem end_any (B : Nat) (a : Option Addr) (n c k : Nat) (len b fo : Int) (f : Frm) (io it ir : Int) (xs : List ArgT) (ax : Option Addr) (m cx : Nat) (wd : Int) (w : World) (h : Rea w B a n c k len b fo f io it ir (.slice ax m cx) wd) (hv : ArgsV w ax xs) (hl : xs.length = m) (hok : InstOk (io, it, ir, xs)) :
    Calls Tryz.prog 177 #[.pointer (some ⟨B, 0, none⟩)] w fun x w' => ∃ E P : Int, x = .returned (.agg #[.int .i64 E, .int .i64 P]) ∧ w.grownBy w' (some B) ∧ EndQ w' B a n c k len b fo f (io, it, ir, xs) (.slice ax m cx) E P := by
  have hm : 24 * m ≤ 140737488351232 := by have := hok.2.2.2.2.2.2.2; simp only at this; omega
  obtain ⟨i0, hi, hz0, hz1, hz2⟩ := info_parts Whole.info
  have HL : Hid (xs.length = m) := hl
  have hF := fun (g : Nat) (w : World) (h : View .u8 w (some ⟨g, 0, none⟩) (kindsL xs)) => fits_any fo (some ⟨g, 0, none⟩) m m (kindsL xs) w h (by rw [kindsL, List.length_map]; exact hl) (by omega)
  have HRw := hide (fun (wx : World) (hx : ArgsV wx ax xs) => raw_any (io, it, ir, xs) b ax m cx wx hx hok hl)
  have HWL := hide (rawWs_len (io, it, ir, xs) b)
  unfold EndQ
  simp only
  generalize rawE (io, it, ir, xs) b = rE at *
  generalize rawO (io, it, ir, xs) b = rO at *
  generalize rawWs (io, it, ir, xs) b = rW at *
  generalize fitsI (lookF refT fo).2 (lookF refT fo).1 (kindsL xs) = r at hF ⊢
  obtain ⟨kS, hb⟩ := spot_box w
  have hlt := h.lt
  have hlt0 := hide hlt
  have hR := h.below hb
  have hvW := hv.below hb
  have hsW : w.heap.size < (w.alloc (.cells #[.int .i64 0, .int .i64 0] 28)).heap.size := by simp
  have hW : (w.alloc (.cells #[.int .i64 0, .int .i64 0] 28)).heap.size = w.heap.size + 1 := by simp
  have HS := hide kS
  have HB := hide hb
  have HR := hide hR
  have HV := hide hvW
  have g15 : w.cell? ⟨B, 15, none⟩ = some (.slice ax m cx) := (blk_cells h.block).1 15
  clear kS hb hR hvW hl hok hv h
  go_enter Tryz.func177, Tryz.ntmps177
  go_wp2_with (at_make; refine wpList_make_full _ rfl _ _ 44 rfl (w.alloc (.cells #[.int .i64 0, .int .i64 0] 28)).heap.size 5 i0 (.int .u8 0) 1 Tryz.underlying44 hi hz0 hz1 _ _ _ _ m rfl rfl (by omega) (by omega) (by rw [hz2]; omega) (by unfold maxLen; omega) (Nat.le_refl _) ?_)
  intro w1 hown1 hgrow1
  clear g15
  generalize w.alloc (.cells #[.int .i64 0, .int .i64 0] 28) = W at *
  have hb1 : Below W.heap.size W w1 := (Below.refl _ W).grown hgrow1 (by omega) (by simp)
  have hr1 := made_row (kindsL xs) hown1
  have hsw : w.heap.size < W.heap.size := by omega
  obtain ⟨G, hG⟩ : ∃ G, G = w.heap.size + 1 := ⟨_, rfl⟩
  try simp only [hW] at hr1
  rw [← hG] at hr1 hW ⊢
  clear hown1 hgrow1 hG
  have g15 : w1.cell? ⟨B, 15, none⟩ = some (.slice ax m cx) := (blk_cells (HR.out.below hb1).block).1 15
  rw [hW] at hb1
  go_wp2
  go_loopw [23] (fun i wr => ∃ k : Nat, k ≤ m ∧ i = .int .i64 k ∧ wr.ownsRow G 5 1 (.slice (some ⟨G, 0, none⟩) m m) m ((filled (kindsL xs) k m).map (Value.int .u8)) ∧ Below G W wr)
    (fun i _ => m - (intOf i).toNat)
  case atStart => exact ⟨0, Nat.zero_le _, rfl, hr1, hb1⟩
  case round =>
    obtain ⟨k, hk, rfl, hown, hnx⟩ := hrel
    clear hr1 hb1 g15
    by_cases hlt : k < m
    · obtain ⟨b, off, rfl, hbs, c1, c2, c3⟩ := HV.out k (by rw [HL.out]; exact hlt)
      have hkl : k < (kindsL xs).length := by rw [kindsL, List.length_map, HL.out]; exact hlt
      obtain ⟨d1, d2, d3⟩ := fill_step hown hlt hkl
      rw [kindsL_nth xs k (by rw [HL.out]; exact hlt)] at d3
      rw [hW] at hbs
      have q1 := (hnx.cell (p := ⟨b, off + k * 3, none⟩) hbs).trans c1
      have q2 := (hnx.cell (p := ⟨b, off + k * 3 + 1, none⟩) hbs).trans c2
      have q3 := (hnx.cell (p := ⟨b, off + k * 3 + 2, none⟩) hbs).trans c3
      generalize nthA xs k = z at q1 q2 q3 d3
      obtain ⟨z1, z2, z3⟩ := z
      have hk0 : (0 : Int) ≤ (k : Int) := by omega
      have hki : (k : Int) < (m : Int) := by omega
      have hsz := hnx.size
      have HOWN : Hid _ := hown
      have HD3 : Hid _ := d3
      have hgl : G < wr.heap.size := World.block_lt_of_cell? _ _ d1
      have d1' : (wr.alloc (.cells #[.int .u8 z1, .int .u32 z2, .string z3] 67)).cell? ⟨G, k, none⟩ = some (.int .u8 0) := ((Below.refl _ wr).alloc (Nat.le_refl _) _).cell (p := ⟨G, k, none⟩) hgl ▸ d1
      have d2' : (wr.alloc (.cells #[.int .u8 z1, .int .u32 z2, .string z3] 67)).frozen? ⟨G, k, none⟩ = false := ((Below.refl _ wr).alloc (Nat.le_refl _) _).frozen (p := ⟨G, k, none⟩) hgl ▸ d2
      clear c1 c2 c3 hown d3 d1 d2 hkl
      go_wp2
      go_roundw
      case rel => exact ⟨k + 1, by omega, by go_num, own_below HD3.out ((Below.refl _ _).alloc (Nat.le_refl _) _), (hnx.setCell (p := ⟨G, k, none⟩) (Nat.le_refl _) _).alloc (by rw [World.size_setCell]; omega) _⟩
      case measure => simp [intOf]; omega
    · obtain rfl : k = m := by omega
      rw [filled_whole (kindsL xs) k (by rw [kindsL, List.length_map, HL.out])] at hown
      have hV := View.ofRow hown (by rw [kindsL, List.length_map, HL.out])
      have hnx' : Below W.heap.size W wr := by rw [hW]; exact hnx
      have hnW := hnx'.size
      have HR1 := hide (HR.out.below hnx')
      have g4 : wr.cell? ⟨B, 4, none⟩ = some (.int .u16 fo) := (blk_cells HR1.out.block).1 4
      clear hown
      go_wp2_with fail
      refine (hF _ _ hV).mono ?_
      rintro e w2 ⟨rfl, hb2⟩
      have hfin := hnx'.trans (hb2.mono hnW)
      have HF2 := hide hfin
      have HR2 := hide (HR.out.below hfin)
      have HS2 := hide ((hfin.block _ hsw).trans HS.out)
      have HG2 := hide (grown_below2 (HB.out.trans (hfin.mono HB.out.size)) (some B))
      have HV2 := hide (HV.out.below hfin)
      clear hb2 hV hF g4 hfin HR1 HS HR hnx hnx'
      obtain ⟨r1, r2⟩ := r
      simp only
      cases r2
      · have g2 : w2.cell? ⟨B, 2, none⟩ = some (.int .i64 len) := (blk_cells HR2.out.block).1 2
        obtain ⟨cp, fp⟩ := blk_cells HS2.out
        have p0 := cp 0
        have p1 := cp 1
        obtain ⟨x1, x2⟩ := two_putB HS2.out (.int .i64 72) (.int .i64 len)
        have HY := hide (grown_put HG2.out x2)
        have HY1 := hide x1
        clear cp x1 x2
        go_wp2_with fail
        generalize (w2.setCell ⟨w.heap.size, 0, none⟩ (.int .i64 72)).setCell ⟨w.heap.size, 1, none⟩ (.int .i64 len) = X at *
        obtain ⟨e1, _⟩ := blk_cells HY1.out
        have a0 := e1 0
        have a1 := e1 1
        refine bodyPost_ret (v := .agg #[.int .i64 72, .int .i64 len]) ?_ rfl ⟨72, len, rfl, HY.out, by simp⟩
        simp [results, Tryz.results177, go_sem, a0, a1]
      · have hbl := HR2.out.block
        have hRw2 := fun (wx : World) (hx : Below w2.heap.size w2 wx) => HRw.out wx (HV2.out.below hx)
        unfold instV at hRw2
        simp only at hRw2
        have c3 : w2.cell? ⟨B, 3, none⟩ = some (.int .u32 b) := (blk_cells hbl).1 3
        have c12 : w2.cell? ⟨B, 12, none⟩ = some (.int .u16 io) := (blk_cells hbl).1 12
        have c13 : w2.cell? ⟨B, 13, none⟩ = some (.int .u32 it) := (blk_cells hbl).1 13
        have c14 : w2.cell? ⟨B, 14, none⟩ = some (.int .u32 ir) := (blk_cells hbl).1 14
        have c15 : w2.cell? ⟨B, 15, none⟩ = some (.slice ax k cx) := (blk_cells hbl).1 15
        have sB2 : B < w2.heap.size := HR2.out.lt
        have sS2 := (Array.getElem?_eq_some_iff.1 HS2.out).1
        clear hbl
        go_wp2_with fail
        go_region_with ((go_at_call 34; first | (refine (hRw2 _ (Below.refl _ _).drew).mono ?_; rintro x w5 ⟨hb5, a5, m5, c5, rfl, hm5, hown5⟩; have HB5 := hide hb5; have HM5 := hide hm5; clear hm5 hown5) | (refine (hRw2 _ ((Below.refl _ _).alloc (Nat.le_refl _) _).drew).mono ?_; rintro x w5 ⟨hb5, a5, m5, c5, rfl, hm5, hown5⟩; have v0 := hb5.cell (p := ⟨w2.heap.size, 0, none⟩) (lt_ad9 w2); have v1 := hb5.cell (p := ⟨w2.heap.size, 1, none⟩) (lt_ad9 w2); have v2 := hb5.frozen (p := ⟨w2.heap.size, 0, none⟩) (lt_ad9 w2); have v3 := hb5.frozen (p := ⟨w2.heap.size, 1, none⟩) (lt_ad9 w2); have HB5 := hide hb5; have HM5 := hide hm5; clear hm5 hown5)))
        all_goals
          first
            | (obtain ⟨kX, hbX⟩ := rawbox_e HB5.out (.int .u16 rO) (.slice a5 m5 c5); clear HB5 hb5 v0 v1 v2 v3; generalize (w5.setCell ⟨w2.heap.size, 0, none⟩ (.int .u16 rO)).setCell ⟨w2.heap.size, 1, none⟩ (.slice a5 m5 c5) = X at *; obtain ⟨MB, hMB⟩ : ∃ MB, MB = w2.heap.size := ⟨_, rfl⟩; rw [← hMB] at kX ⊢; clear hMB)
            | (have hb9 : Below w2.drew.heap.size w2.drew w5 := HB5.out; have hbX := ((below_drew w2).trans hb9).alloc hb9.size (.cells #[.int .u16 rO, .slice a5 m5 c5] 60); have kX := heap_alloc_new w5 (.cells #[.int .u16 rO, .slice a5 m5 c5] 60); clear hb5 hb9 HB5; generalize w5.alloc (.cells #[.int .u16 rO, .slice a5 m5 c5] 60) = X at *; generalize w5.heap.size = MB at *)
          have kS := (hbX.block _ sS2).trans HS2.out
          have hR := HR2.out.below hbX
          have hG := grown_bel HG2.out hbX
          have nS : B ≠ w.heap.size := by omega
          have nS2 : w.heap.size ≠ B := by omega
          have b16 : X.cell? ⟨B, 16, none⟩ = some (.int .i64 wd) := (blk_cells hR.block).1 16
          have f16 : X.frozen? ⟨B, 16, none⟩ = false := (blk_cells hR.block).2 16
          have m1 : X.cell? ⟨MB, 1, none⟩ = some (.slice a5 m5 c5) := (blk_cells kX).1 1
          obtain ⟨cp, fp⟩ := blk_cells kS
          have p0 := cp 0
          have p1 := cp 1
          have hm6 : (m5 : Int) < 65535 := by have := HWL.out; have := HM5.out; omega
          have hm7 : (0 : Int) ≤ (m5 : Int) := by omega
          have hR9 := hR.setWords (1 + (m5 : Int))
          have hG9 := grown_set hG 16 (.int .i64 (1 + (m5 : Int)))
          have hS9 : (X.setCell ⟨B, 16, none⟩ (.int .i64 (1 + (m5 : Int)))).heap[w.heap.size]? = some (.cells #[.int .i64 0, .int .i64 0] 28 (0, 0)) := by
            simp only [World.setCell, Array.getElem?_modify, if_neg nS]; exact kS
          obtain ⟨x1, x2⟩ := two_putB hS9 (.int .i64 rE) (.int .i64 0)
          have HY := hide (grown_put hG9 x2)
          have HY1 := hide x1
          have HY2 := hide (hR9.belowAt x2 hlt0.out)
          clear hbX kX cp kS hR hG hS9 hR9 hG9 x1 x2 hRw2 c3 c12 c13 c14 c15
          go_wp2_with fail
          generalize ((X.setCell ⟨B, 16, none⟩ (.int .i64 (1 + (m5 : Int)))).setCell ⟨w.heap.size, 0, none⟩ (.int .i64 rE)).setCell ⟨w.heap.size, 1, none⟩ (.int .i64 0) = Z at *
          obtain ⟨e1, _⟩ := blk_cells HY1.out
          have a0 := e1 0
          have a1 := e1 1
          refine bodyPost_ret (v := .agg #[.int .i64 rE, .int .i64 0]) ?_ rfl ⟨rE, 0, rfl, HY.out, ?_⟩
          · simp [results, Tryz.results177, go_sem, a0, a1]
          · refine ⟨rfl, rfl, ?_⟩
            rw [HM5.out]
            exact HY2.out

end Go.Proofs.YtddkapkkjhomkaaGreatDoor

/-
  A scope in which the run jumps to several labels: what holds at each jump, and a measure that every pass from a label lowers. No condition but what each names.
-/
namespace Go.Proofs.YtddkapkkjhomkaaGreatDoor
open Go

/-- As Q; by a goto to a label: what holds there. -/
def jumps (J : Nat → Act → World → Prop) (Q : Exit → Act → World → Prop) : Exit → Act → World → Prop
  | .goto l, a, w => J l a w
  | e, a, w => Q e a w

section
variable {Q : Exit → Act → World → Prop} {J : Nat → Act → World → Prop} {a : Act} {w : World}
theorem jumps_normal : jumps J Q .normal a w = Q .normal a w := rfl
theorem jumps_exit (id : Nat) : jumps J Q (.exit id) a w = Q (.exit id) a w := rfl
theorem jumps_ret : jumps J Q .ret a w = Q .ret a w := rfl
theorem jumps_panic (ch : List PanicEntry) : jumps J Q (.panic ch) a w = Q (.panic ch) a w := rfl
theorem jumps_goto (l : Nat) : jumps J Q (.goto l) a w = J l a w := rfl
end

theorem wp_scope_many {P : Program} {a : Act} {w : World} {Q : Exit → Act → World → Prop} {c : Code} (rest : Nat → Code) (J : Nat → Act → World → Prop) (μ : Nat → Act → World → Nat) (hf : ∀ l a w, J l a w → findLabel c l = some (rest l))
    (first : c.wp P (jumps J Q) a w)
    (pass : ∀ l a w, J l a w → (rest l).wp P (jumps (fun l' a' w' => J l' a' w' ∧ μ l' a' w' < μ l a w) Q) a w) : (Code.scope c).wp P Q a w := by
  intro b k cs
  have hg : ∀ l a w, J l a w → gotoIn l (.inScope c :: k) = some (.code (rest l) :: .inScope c :: k) := fun l a w h => by simp [gotoIn, hf l a w h]
  have key : ∀ n l a w, μ l a w = n → J l a w → ∃ e a' w', Q e a' w' ∧ Arrives P (lone (b.at a (.code (rest l) :: .inScope c :: k)) cs w) b k cs e a' w' := by
    intro n
    induction n using Nat.strongRecOn with
    | _ n ih =>
      intro l a w hn hJ
      obtain ⟨e, a₁, w₁, hq, harr⟩ := pass l a w hJ b (.inScope c :: k) cs
      cases e with
      | normal => exact ⟨.normal, a₁, w₁, hq, Steps.trans harr (.one step_inScope)⟩
      | exit id => exact ⟨.exit id, a₁, w₁, hq, fun k' hk => harr k' (by simp [exitTo, hk])⟩
      | goto l' =>
        obtain ⟨hJ', hlt⟩ := hq
        obtain ⟨e₂, a₂, w₂, hq₂, harr₂⟩ := ih _ (by omega) l' a₁ w₁ rfl hJ'
        exact ⟨e₂, a₂, w₂, hq₂, .of_steps (harr _ (hg l' _ _ hJ')) harr₂⟩
      | ret => exact ⟨_, a₁, w₁, hq, harr⟩
      | panic ch => exact ⟨_, a₁, w₁, hq, harr⟩
      | outgrown => exact ⟨_, a₁, w₁, hq, harr⟩
  obtain ⟨e, a₁, w₁, hq, harr⟩ := first b (.inScope c :: k) cs
  cases e with
  | normal => exact ⟨.normal, a₁, w₁, hq, .head step_scope (Steps.trans harr (.one step_inScope))⟩
  | exit id => exact ⟨.exit id, a₁, w₁, hq, fun k' hk => .head step_scope (harr k' (by simp [exitTo, hk]))⟩
  | goto l' =>
    obtain ⟨e₂, a₂, w₂, hq₂, harr₂⟩ := key _ l' a₁ w₁ rfl hq
    exact ⟨e₂, a₂, w₂, hq₂, .of_steps (.head step_scope (harr _ (hg l' _ _ hq))) harr₂⟩
  | ret => exact ⟨_, a₁, w₁, hq, .of_steps (.one step_scope) harr⟩
  | panic ch => exact ⟨_, a₁, w₁, hq, .of_steps (.one step_scope) harr⟩
  | outgrown => exact ⟨_, a₁, w₁, hq, .of_steps (.one step_scope) harr⟩

/-- What stands behind a label. -/
def behind : Option Code → Code
  | some (.seq .skip x) => x
  | _ => .skip

/-- The same law, label by label in an order: a pass may go on into a label that is before it in that order. -/
theorem wp_scope_ranked {P : Program} {a : Act} {w : World} {Q : Exit → Act → World → Prop} {c : Code} (J : Nat → Act → World → Prop) (μ : Nat → Act → World → Nat) (ord : Nat → Nat)
    (hf : ∀ l a w, J l a w → findLabel c l = some (.seq .skip (behind (findLabel c l))))
    (pass : ∀ l, (∀ l', ord l' < ord l → ∀ N a w, J l' a w → μ l' a w ≤ N → (behind (findLabel c l')).wp P (jumps (fun l' a' w' => J l' a' w' ∧ μ l' a' w' < N) Q) a w) →
      ∀ N a w, J l a w → μ l a w ≤ N → (behind (findLabel c l)).wp P (jumps (fun l' a' w' => J l' a' w' ∧ μ l' a' w' < N) Q) a w)
    (first : (∀ l a w, J l a w → (behind (findLabel c l)).wp P (jumps J Q) a w) → c.wp P (jumps J Q) a w) : (Code.scope c).wp P Q a w := by
  have all : ∀ n l, ord l = n → ∀ N a w, J l a w → μ l a w ≤ N → (behind (findLabel c l)).wp P (jumps (fun l' a' w' => J l' a' w' ∧ μ l' a' w' < N) Q) a w := by
    intro n
    induction n using Nat.strongRecOn with
    | _ n ih =>
      intro l hl
      exact pass l fun l' hlt => ih (ord l') (by omega) l' rfl
  refine wp_scope_many (fun l => .seq .skip (behind (findLabel c l))) J μ hf (first fun l a w h => ?_) (fun l a w h => wp_seq (wp_skip (all _ l rfl _ a w h (Nat.le_refl _))))
  refine wp_mono (all _ l rfl _ a w h (Nat.le_refl _)) fun e a' w' hq => ?_
  cases e with
  | goto l' => exact hq.1
  | normal => exact hq
  | exit id => exact hq
  | ret => exact hq
  | panic ch => exact hq
  | outgrown => exact hq

end Go.Proofs.YtddkapkkjhomkaaGreatDoor

/-
  A reader's whole line, of the layer asm: what holds at each of its labels; the pass from its end.
-/
namespace Go.Proofs.YtddkapkkjhomkaaGreatDoor
open Go.RowKit
set_option linter.unusedVariables false
set_option linter.unusedSimpArgs false
set_option maxRecDepth 10000
attribute [local go_sem] jumps_normal jumps_exit jumps_ret jumps_panic jumps_goto onNormal_normal

/-- The code within the first scope. -/
def scopeOf : Code → Code
  | .seq _ x => scopeOf x
  | .scope c => c
  | _ => .skip

theorem frame111 (t : Array Value) (h : t.size = 111) : t = #[slot t 0, slot t 1, slot t 2, slot t 3, slot t 4, slot t 5, slot t 6, slot t 7, slot t 8, slot t 9, slot t 10, slot t 11, slot t 12, slot t 13, slot t 14, slot t 15, slot t 16, slot t 17, slot t 18, slot t 19, slot t 20, slot t 21, slot t 22, slot t 23, slot t 24, slot t 25, slot t 26, slot t 27, slot t 28, slot t 29, slot t 30, slot t 31, slot t 32, slot t 33, slot t 34, slot t 35, slot t 36, slot t 37, slot t 38, slot t 39, slot t 40, slot t 41, slot t 42, slot t 43, slot t 44, slot t 45, slot t 46, slot t 47, slot t 48, slot t 49, slot t 50, slot t 51, slot t 52, slot t 53, slot t 54, slot t 55, slot t 56, slot t 57, slot t 58, slot t 59, slot t 60, slot t 61, slot t 62, slot t 63, slot t 64, slot t 65, slot t 66, slot t 67, slot t 68, slot t 69, slot t 70, slot t 71, slot t 72, slot t 73, slot t 74, slot t 75, slot t 76, slot t 77, slot t 78, slot t 79, slot t 80, slot t 81, slot t 82, slot t 83, slot t 84, slot t 85, slot t 86, slot t 87, slot t 88, slot t 89, slot t 90, slot t 91, slot t 92, slot t 93, slot t 94, slot t 95, slot t 96, slot t 97, slot t 98, slot t 99, slot t 100, slot t 101, slot t 102, slot t 103, slot t 104, slot t 105, slot t 106, slot t 107, slot t 108, slot t 109, slot t 110] := (frame_eq t 111 h).trans rfl

theorem flat_arg7 : ∀ (l : List ArgT) (k j : Nat), k < l.length → j < 3 → (l.flatMap argC)[k * 3 + j]? = (argC (nthA l k))[j]?
  | x :: l, 0, j, _, hj => by
    rw [List.flatMap_cons, Nat.zero_mul, Nat.zero_add, List.getElem?_append_left (by simp [argC]; omega)]; rfl
  | x :: l, k + 1, j, hk, hj => by
    rw [List.flatMap_cons, List.getElem?_append_right (by simp [argC]; omega)]
    have := flat_arg7 l k j (by simpa using hk) hj
    rw [show (k + 1) * 3 + j - (argC x).length = k * 3 + j by simp [argC]; omega]
    exact this
/-- An owned row of arguments can be read. -/
theorem argsV_own7 {w : World} {B T n cap : Nat} {a : Option Addr} {l : List ArgT} (h : w.ownsRow B T 3 (.slice a n cap) n (l.flatMap argC)) (hl : l.length = n) : ArgsV w a l := by
  intro j hj
  rcases h.2 with ⟨hv, hn⟩ | ⟨g, cap', cur, hv, _, hg, _⟩
  · omega
  · cases hv
    have c0 := h.cellAt (j * 3 + 0) (by omega)
    have c1 := h.cellAt (j * 3 + 1) (by omega)
    have c2 := h.cellAt (j * 3 + 2) (by omega)
    rw [flat_arg7 l j 0 hj (by omega)] at c0
    rw [flat_arg7 l j 1 hj (by omega)] at c1
    rw [flat_arg7 l j 2 hj (by omega)] at c2
    exact ⟨g, 0, rfl, (Array.getElem?_eq_some_iff.1 hg).1, by rw [Nat.zero_add]; exact c0, by rw [Nat.zero_add]; exact c1, by rw [Nat.zero_add]; exact c2⟩

/-- The three boxes of read, and what else has turned. -/
structure ReaS (w : World) (B : Nat) (w' : World) : Prop where
  res : w'.heap[w.heap.size]? = some (.cells #[.int .i64 0, .int .i64 0] 28 (0, 0))
  box : ∃ x0 x1 x2, w'.heap[w.heap.size + 1]? = some (.cells #[x0, x1, x2] 67 (0, 0))
  spot : ∃ y0 y1, w'.heap[w.heap.size + 2]? = some (.cells #[y0, y1] 28 (0, 0))
  grown : w.grownBy w' (some B)
theorem ReaS.size {w w' : World} {B : Nat} (h : ReaS w B w') : w.heap.size + 2 < w'.heap.size := by
  obtain ⟨_, _, h⟩ := h.spot
  exact (Array.getElem?_eq_some_iff.1 h).1
theorem grown_trans7 {w w1 w2 : World} {r : Option Nat} (h : w.grownBy w1 r) (k : w1.grownBy w2 r) : w.grownBy w2 r := ⟨k.os.trans h.os, k.tape.trans h.tape, k.output.trans h.output, Nat.le_trans h.size k.size, fun i hi hr => (k.block i (Nat.lt_of_lt_of_le hi h.size) hr).trans (h.block i hi hr)⟩
theorem ReaS.next {w w1 w2 : World} {B : Nat} (hB : B < w.heap.size) (h : ReaS w B w1) (hg : w1.grownBy w2 (some B)) : ReaS w B w2 := by
  have hs := h.size
  obtain ⟨x0, x1, x2, hx⟩ := h.box
  obtain ⟨y0, y1, hy⟩ := h.spot
  exact ⟨(hg.block _ (by omega) (by simp; omega)).trans h.res, ⟨x0, x1, x2, (hg.block _ (by omega) (by simp; omega)).trans hx⟩, ⟨y0, y1, (hg.block _ (by omega) (by simp; omega)).trans hy⟩, grown_trans7 h.grown hg⟩
theorem ReaS.below {w w1 w2 : World} {B : Nat} (hB : B < w.heap.size) (h : ReaS w B w1) (hb : Below w1.heap.size w1 w2) : ReaS w B w2 := h.next hB (grown_below2 hb _)
theorem ReaS.at2 {w w1 w2 : World} {B : Nat} {y0 y1 : Value} (h : ReaS w B w1) (hb : Below (w.heap.size + 2) w1 w2) (hy : w2.heap[w.heap.size + 2]? = some (.cells #[y0, y1] 28 (0, 0))) : ReaS w B w2 := by
  have hs := h.size
  obtain ⟨x0, x1, x2, hx⟩ := h.box
  exact ⟨(hb.block _ (by omega)).trans h.res, ⟨x0, x1, x2, (hb.block _ (by omega)).trans hx⟩, ⟨y0, y1, hy⟩, grown_put h.grown (hb.mono (by omega))⟩
theorem toks_kept {w w' : World} {a : Option Addr} {B : Nat} {l : List TokT} (hv : ToksV w a l) (hg : w.grownBy w' (some B)) (hfar : ∀ g off, a = some ⟨g, off, none⟩ → g ≠ B) : ToksV w' a l := by
  intro j hj
  obtain ⟨g, off, e, hlt, q1, q2, q3⟩ := hv j hj
  have hx : w'.heap[g]? = w.heap[g]? := hg.block g hlt (by simpa using hfar g off e)
  refine ⟨g, off, e, Nat.lt_of_lt_of_le hlt hg.size, ?_, ?_, ?_⟩
  · simp only [World.cell?, hx] at q1 ⊢; exact q1
  · simp only [World.cell?, hx] at q2 ⊢; exact q2
  · simp only [World.cell?, hx] at q3 ⊢; exact q3
theorem own_far7 {w' : World} {B e size n : Nat} {v : Value} {xs : List Value} (h : w'.ownsRow B e size v n xs) {k : Nat} (hk : k < B) : v.ownBlock = none ∨ v.ownBlock ≠ some k := by
  cases e : v.ownBlock with
  | none => exact .inl rfl
  | some g => exact .inr fun e' => by have := (h.lt g e).1; simp at e'; omega

/-- The frame of read: what its slots hold. -/
def FrmR (B : Nat) (w : World) (a' : Act) : Prop := ∃ t : Array Value, a' = { tmps := t, defers := [] } ∧ t.size = 111 ∧ slot t 0 = .pointer (some ⟨B, 0, none⟩) ∧ slot t 2 = .pointer (some ⟨w.heap.size, 0, none⟩) ∧ slot t 3 = .pointer (some ⟨w.heap.size + 1, 0, none⟩) ∧ slot t 4 = .pointer (some ⟨w.heap.size + 2, 0, none⟩)

/-- What read leaves. -/
def ReadQ (w w' : World) (B : Nat) (a : Option Addr) (n c : Nat) (len b : Int) (R : LineR) (E P : Int) : Prop :=
  (E ≠ 0 ∧ R = noLine E P) ∨
  (E = 0 ∧ P = 0 ∧ ∃ (o : Nat) (t r : Int) (xs : List ArgT) (ax : Option Addr) (m cx k : Nat), R = (((o : Int), t, r, xs), true, 0, 0) ∧ Rea w' B a n c k len b o (opF o) o t r (.slice ax m cx) (1 + ((rawWs ((o : Int), t, r, xs) b).length : Int)) ∧
    w'.ownsRow (w.heap.size + 3) 67 3 (.slice ax m cx) m (xs.flatMap argC) ∧ xs.length = m ∧ InstOk ((o : Int), t, r, xs) ∧ rawE ((o : Int), t, r, xs) b = 0)
/-- Where read ends. -/
def ReadRet (w : World) (B : Nat) (a : Option Addr) (n c : Nat) (len b : Int) (R : LineR) (Q : Exit → Act → World → Prop) : Prop :=
  ∀ (a' : Act) (w' : World) (E P : Int), a'.tmps.getD 2 undef = .pointer (some ⟨w.heap.size, 0, none⟩) → a'.defers = [] → w'.heap[w.heap.size]? = some (.cells #[.int .i64 E, .int .i64 P] 28 (0, 0)) → w.grownBy w' (some B) → ReadQ w w' B a n c len b R E P → Q .ret a' w'

/-- The head of an instruction fits. -/
def HeadOk (o : Nat) (t r b : Int) : Prop := ResOk o r b ∧ idE (opF o).2.1 t b 40 = 0 ∧ 0 ≤ t ∧ t < 4294967296

def ReadJ (w : World) (B : Nat) (a : Option Addr) (n c : Nat) (len b : Int) (l : List TokT) (R : LineR) : Nat → Act → World → Prop
  | 0, a', w' => ∃ k : Nat, FrmR B w a' ∧ ReaS w B w' ∧ Rea w' B a n c k len b 0 noFrm 0 0 0 (.slice none 0 0) 0 ∧ k ≤ n ∧ R = lineO ((nthT l 0).1 == 2) l k len b
  | 1, a', w' => ∃ (k o : Nat) (t r : Int), FrmR B w a' ∧ ReaS w B w' ∧ Rea w' B a n c k len b o (opF o) o t r (.slice none 0 0) 0 ∧ k ≤ n ∧ HeadOk o t r b ∧ R = lineA o (opF o) t r l k len b
  | 3, a', w' => ∃ (k j o : Nat) (t r : Int) (ax : Option Addr) (cx : Nat), FrmR B w a' ∧ ReaS w B w' ∧ Rea w' B a n c (k + j) len b o (opF o) o t r (.slice ax j cx) 0 ∧ k + j ≤ n ∧ HeadOk o t r b ∧ R = lineA o (opF o) t r l k len b ∧
      w'.ownsRow (w.heap.size + 3) 67 3 (.slice ax j cx) j ((argsN (opF o) b l k j).flatMap argC) ∧ ∀ i, i < j → argE (letterI (opF o) i) (nthT l (k + i)) b = 0
  | 2, a', w' => ∃ (k j o : Nat) (t r : Int) (ax : Option Addr) (cx : Nat), FrmR B w a' ∧ ReaS w B w' ∧ Rea w' B a n c (k + j) len b o (opF o) o t r (.slice ax j cx) 0 ∧ k + j = n ∧ HeadOk o t r b ∧ R = lineA o (opF o) t r l k len b ∧
      w'.ownsRow (w.heap.size + 3) 67 3 (.slice ax j cx) j ((argsN (opF o) b l k j).flatMap argC) ∧ ∀ i, i < j → argE (letterI (opF o) i) (nthT l (k + i)) b = 0
  | _, _, _ => False
def posR (B : Nat) (w' : World) : Nat := match w'.cell? ⟨B, 1, none⟩ with
  | some (.int _ n) => n.toNat
  | _ => 0
def ReadM (B n : Nat) (l : Nat) (_ : Act) (w' : World) : Nat := if l = 0 then n + 4 else if l = 1 then n + 3 else if l = 3 then n - posR B w' + 1 else 0
theorem Rea.pos {w : World} {B : Nat} {a : Option Addr} {n c k : Nat} {len b fo : Int} {f : Frm} {io it ir : Int} {av : Value} {wd : Int} (h : Rea w B a n c k len b fo f io it ir av wd) : posR B w = k := by
  have : w.cell? ⟨B, 1, none⟩ = some (.int .i64 k) := (blk_cells h.block).1 1
  unfold posR; rw [this]; simp

set_option maxHeartbeats 4000000 in
theorem read_end (w : World) (B : Nat) (a : Option Addr) (n c : Nat) (len b : Int) (l : List TokT) (R : LineR) (Q : Exit → Act → World → Prop) (J : Nat → Act → World → Prop) (hB : B < w.heap.size) (hl : l.length = n) (hn : 32 * n ≤ 140737488351232) (hin : ToksIn l) (hret : ReadRet w B a n c len b R Q)
    (a1 : Act) (w1 : World) (hJ : ReadJ w B a n c len b l R 2 a1 w1) :
    (behind (findLabel (scopeOf (Tryz.f133.body.getD .skip)) 2)).wp Tryz.prog (jumps J Q) a1 w1 := by
  obtain ⟨k, j, o, t, r, ax, cx, ⟨f, rfl, hsz, h0, h2, h3, h4⟩, hS, hR, hkj, hH, hL, hrow, hgood⟩ := hJ
  conv => arg 2; whnf
  rw [frame111 f hsz, h0, h2, h3, h4]
  clear h0 h2 h3 h4 hsz
  obtain ⟨⟨hk1, hk2, hk3, hk4, hk5⟩, hk6, hk7, hk8⟩ := hH
  obtain ⟨ga, gb, gc⟩ := args_right (o := (o : Int)) (f := opF o) (b := b) (l := l) (at_ := k) (n := j) rfl hgood hin (by omega)
  have hlen := argsN_len (opF o) b l k j
  have hV := argsV_own7 hrow hlen
  have hok : InstOk ((o : Int), t, r, argsN (opF o) b l k j) := ⟨by simp, by simp; omega, hk7, hk8, hk4, hk5, ga, by simp only [hlen]; omega⟩
  have hC := end_any B a n c (k + j) len b o (opF o) o t r (argsN (opF o) b l k j) ax j cx 0 w1 hR hV hlen hok
  have hlr := fun (hw : wholeN (opF o) (j : Int) = true) => line_raw (o := (o : Int)) (f := opF o) (t := t) (r := r) (b := b) (l := l) (at_ := k) (n := j) rfl hk1 hgood hin (by omega) hw hk6 hk3
  have hj : l.length - k = j := by omega
  have hA := lineA_ok (o := (o : Int)) (f := opF o) (t := t) (r := r) (l := l) (at_ := k) (len := len) (b := b) (fun i hi => hgood i (by omega))
  rw [hj, ← hL] at hA
  have hKEY : ∀ (w2 : World) (E P : Int), w1.grownBy w2 (some B) → EndQ w2 B a n c (k + j) len b o (opF o) ((o : Int), t, r, argsN (opF o) b l k j) (.slice ax j cx) E P → ReadQ w w2 B a n c len b R E P := by
    intro w2 E P hg hq
    unfold EndQ at hq
    simp only at hq
    rw [hk1] at hq
    have hfit : (fitsI true (lookF refT (o : Int)).1 (kindsL (argsN (opF o) b l k j))).2 = wholeN (opF o) (j : Int) := gc
    rw [hfit] at hq
    by_cases hw : wholeN (opF o) (j : Int) = false
    · rw [if_pos hw] at hq hA
      obtain ⟨rfl, rfl⟩ := hq
      exact .inl ⟨by decide, hA⟩
    · rw [if_neg hw] at hq hA
      obtain ⟨rfl, rfl, hR2⟩ := hq
      have hw' : wholeN (opF o) (j : Int) = true := by simpa using hw
      by_cases hb : 65535 < 1 + (rawL (opF o) ((o : Int), t, r, argsN (opF o) b l k j)).length
      · rw [if_pos hb] at hA
        have := hlr hw'
        rw [if_pos hb] at this
        rw [this]
        exact .inl ⟨by decide, hA⟩
      · rw [if_neg hb] at hA
        have := hlr hw'
        rw [if_neg hb] at this
        refine .inr ⟨this, rfl, o, t, r, _, ax, j, cx, k + j, hA, hR2, ?_, hlen, hok, this⟩
        exact hrow.kept hg (own_far7 hrow (by omega))
  have HKEY := hide hKEY
  have HS := hide hS
  have hlt := hS.size
  clear hKEY hlr hA hV hok hrow hgood hR hS ga gb gc hlen hL hk1 hk2 hk3 hk4 hk5 hk6 hk7 hk8 hj hkj hin
  go_wp2_with fail
  refine hC.mono ?_
  rintro x w2 ⟨E, P, rfl, hg, hq⟩
  have HS2 := HS.out.next hB hg
  have HQ := hide (HKEY.out w2 E P hg hq)
  have kS := HS2.res
  obtain ⟨cp, fp⟩ := blk_cells kS
  have p0 := cp 0
  have p1 := cp 1
  obtain ⟨x1, x2⟩ := two_putB kS (.int .i64 E) (.int .i64 P)
  have HG := hide (grown_put HS2.grown x2)
  have HX1 := hide x1
  have HX2 := hide x2
  clear hC hq hg cp kS x1 x2 HS2 HKEY HS
  go_wp2_with fail
  generalize hX : (w2.setCell ⟨w.heap.size, 0, none⟩ (.int .i64 E)).setCell ⟨w.heap.size, 1, none⟩ (.int .i64 P) = X at *
  refine hret _ X E P rfl rfl HX1.out HG.out ?_
  rcases HQ.out with h | ⟨h1, h2, o', t', r', xs, ax', m', cx', k', q1, q2, q3, q4, q5, q6⟩
  · exact .inl h
  · refine .inr ⟨h1, h2, o', t', r', xs, ax', m', cx', k', q1, q2.belowAt HX2.out hB, ?_, q4, q5, q6⟩
    rw [← hX]
    exact ownsRow_setCell_below (ownsRow_setCell_below q3 (a := ⟨w.heap.size, 0, none⟩) (by simp) _) (a := ⟨w.heap.size, 1, none⟩) (by simp) _

end Go.Proofs.YtddkapkkjhomkaaGreatDoor
