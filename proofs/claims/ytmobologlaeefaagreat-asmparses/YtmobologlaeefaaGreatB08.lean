/-
  Texts laid together in one: AsmOpO, AsmOpS, AsmOpA, CodeWinst, CodeRaw.
-/
import Derived.WalkSpells
import Derived.WalkMore
import Derived.BigRegion
import Derived.Deep.RegionWith
import Derived.Deep.QuietTactic
import Derived.BigQuiet
import Derived.Test.YtmobologlaeefaaGreatProg
import Derived.Test.YtmobologlaeefaaGreatB07
import Derived.Test.YtmobologlaeefaaGreatB06
import Derived.Deep.RegionHeld2
import Derived.Test.YtmobologlaeefaaGreatB05
import Derived.Test.YtmobologlaeefaaGreatB03
/-
  What the method operation of a reader returns, of the layer asm, where a word is taken.
-/
namespace Go.Proofs.YtmobologlaeefaaGreat
open Go.RowKit
set_option linter.unusedVariables false
set_option linter.unusedSimpArgs false
set_option maxRecDepth 10000

/-- A form and an operation are laid into a reader. -/
def formW (W : World) (B : Nat) (o : Int) (f : Frm) : World := ((((((((((W.setCell ⟨B, 4, none⟩ (.int .u16 o)).setCell ⟨B, 5, none⟩ (.string f.1)).setCell ⟨B, 6, none⟩ (.bool f.2.1)).setCell ⟨B, 7, none⟩ (.bool f.2.2.1)).setCell ⟨B, 8, none⟩ (.string f.2.2.2.1)).setCell ⟨B, 9, none⟩ (.string f.2.2.2.2.1)).setCell ⟨B, 10, none⟩ (.int .i64 f.2.2.2.2.2.1)).setCell ⟨B, 11, none⟩ (.int .u8 f.2.2.2.2.2.2)).setCell ⟨B, 12, none⟩ (.int .u16 o)).drew)

theorem formW_far (W : World) (B : Nat) (o : Int) (f : Frm) {j : Nat} (hj : j ≠ B) : (formW W B o f).heap[j]? = W.heap[j]? := by
  unfold formW
  have e : ∀ (X : World) (i : Nat) (v : Value), (X.setCell ⟨B, i, none⟩ v).heap[j]? = X.heap[j]? := fun X i v => Below.heap_setCell _ _ _ _ (by simpa using hj)
  have d : ∀ X : World, X.drew.heap[j]? = X.heap[j]? := fun X => rfl
  rw [d]; simp only [e]
theorem formW_size (W : World) (B : Nat) (o : Int) (f : Frm) : (formW W B o f).heap.size = W.heap.size := by
  unfold formW
  have d : ∀ X : World, X.drew.heap.size = X.heap.size := fun X => rfl
  rw [d]; simp
theorem formW_grown {w W : World} {B : Nat} (o : Int) (f : Frm) (h : w.grownBy W (some B)) : w.grownBy (formW W B o f) (some B) := by
  refine ⟨?_, ?_, ?_, by rw [formW_size]; exact h.size, fun j hj hr => (formW_far W B o f (by simpa using hr)).trans (h.block j hj hr)⟩
  · unfold formW; rw [show ∀ X : World, X.drew.os = X.os from fun _ => rfl]; simp only [show ∀ (X : World) (p : Addr) (v : Value), (X.setCell p v).os = X.os from fun _ _ _ => rfl]; exact h.os
  · unfold formW; rw [show ∀ X : World, X.drew.tape = X.tape from fun _ => rfl]; simp only [show ∀ (X : World) (p : Addr) (v : Value), (X.setCell p v).tape = X.tape from fun _ _ _ => rfl]; exact h.tape
  · unfold formW; rw [show ∀ X : World, X.drew.output = X.output from fun _ => rfl]; simp only [show ∀ (X : World) (p : Addr) (v : Value), (X.setCell p v).output = X.output from fun _ _ _ => rfl]; exact h.output
set_option maxHeartbeats 2000000 in
theorem formW_rd {W : World} {B : Nat} {a : Option Addr} {n c k : Nat} {len b fo : Int} {f : Frm} {io it ir : Int} {av : Value} {wd : Int} (h : Rea W B a n c k len b fo f io it ir av wd) (o : Int) (g : Frm) : Rea (formW W B o g) B a n c k len b o g o it ir av wd := by
  apply Rea.mk
  have hb := h.block
  unfold formW
  have d : ∀ X : World, X.drew.heap[B]? = X.heap[B]? := fun X => rfl
  rw [d]
  have e : ∀ (X : World) (cs : Array Value) (i : Nat) (v : Value), X.heap[B]? = some (.cells cs 172 (0, 0)) → (X.setCell ⟨B, i, none⟩ v).heap[B]? = some (.cells (cs.setIfInBounds i v) 172 (0, 0)) := fun X cs i v hx => by
    simp [World.setCell, Array.getElem?_modify, hx]
  have h9 := e _ _ 12 (.int .u16 o) (e _ _ 11 (.int .u8 g.2.2.2.2.2.2) (e _ _ 10 (.int .i64 g.2.2.2.2.2.1) (e _ _ 9 (.string g.2.2.2.2.1) (e _ _ 8 (.string g.2.2.2.1) (e _ _ 7 (.bool g.2.2.1) (e _ _ 6 (.bool g.2.1) (e _ _ 5 (.string g.1) (e _ _ 4 (.int .u16 o) hb))))))))
  rw [h9]
  simp [rdCells]

set_option maxHeartbeats 4000000 in
/-- The word names nothing. -/
theorem operation_none (B : Nat) (a : Option Addr) (n c k : Nat) (len : Int) (rest : Array Value) (T : Nat) (l : List TokT) (w : World) (h : RowAt w B a n c k len rest T) (hv : ToksV w a l) (hl : l.length = n) (hn : 32 * n ≤ 140737488351232) (hk : k < n) (hkd : (nthT l k).1 = 1) (hsz : (nthT l k).2.1.size ≤ 140737488351232) (hno : opsL.find? (namP (nthT l k).2.1) = none) :
    Calls Tryz.prog 124 #[.pointer (some ⟨B, 0, none⟩)] w fun x w' => x = .returned (.agg #[.int .i64 71, .int .i64 (nthT l k).2.2]) ∧ w.grownBy w' (some B) := by
  obtain ⟨kS, hb⟩ := spot_box w
  have hC := take_ok B a n c k len rest T l 1 _ (h.below hb) (hv.below hb) hl hn hk hkd
  have hNm := fun wx => named_any (nthT l k).2.1 wx hsz
  have e1 : namedB (nthT l k).2.1 = false := by unfold namedB; rw [hno]; rfl
  have e2 : namedV (nthT l k).2.1 = formV 0 noFrm := by unfold namedV; rw [hno]
  rw [e1, e2] at hNm
  unfold formV noFrm at hNm
  have hFA := fun wx => faultAt_any (nthT l k) 71 wx
  rw [show fltA 71 (nthT l k).2.2 = (nthT l k).2.2 by unfold fltA; simp] at hFA
  have hlt := h.lt
  generalize nthT l k = z at *
  obtain ⟨z1, z2, z3⟩ := z
  unfold tokV at hC hFA
  simp only at hC hFA hNm ⊢
  have HS := hide kS
  have HB := hide hb
  clear kS hb h hv hl hn hk hkd hsz hno e1 e2
  go_enter Tryz.func124, Tryz.ntmps124
  go_wp2_with fail
  generalize w.alloc (.cells #[.int .i64 0, .int .i64 0] 28) = W at *
  refine hC.mono ?_
  rintro x w1 ⟨rfl, hR1, hg1⟩
  have sS := (Array.getElem?_eq_some_iff.1 HS.out).1
  have s1 : w.heap.size < w1.heap.size := Nat.lt_of_lt_of_le sS hg1.size
  have hba : Below w1.heap.size w1 ((w1.alloc (.cells #[.int .u8 z1, .string z2, .int .i64 z3] 102)).alloc (.cells #[.int .i64 0, .int .i64 0] 28)) := ((Below.refl _ w1).alloc (Nat.le_refl _) _).alloc (by simp) _
  have HS1 := hide ((hba.block _ s1).trans ((hg1.block _ sS (by simp; omega)).trans HS.out))
  have hg : w.grownBy ((w1.alloc (.cells #[.int .u8 z1, .string z2, .int .i64 z3] 102)).alloc (.cells #[.int .i64 0, .int .i64 0] 28)) (some B) :=
    ⟨hba.os.trans (hg1.os.trans HB.out.os), hba.tape.trans (hg1.tape.trans HB.out.tape), hba.output.trans (hg1.output.trans HB.out.output), Nat.le_trans HB.out.size (Nat.le_trans hg1.size hba.size), fun j hj hr => (hba.block j (by omega)).trans ((hg1.block j (Nat.lt_of_lt_of_le hj HB.out.size) hr).trans (HB.out.block j hj))⟩
  have HG := hide hg
  have kA : ((w1.alloc (.cells #[.int .u8 z1, .string z2, .int .i64 z3] 102)).alloc (.cells #[.int .i64 0, .int .i64 0] 28)).heap[w1.heap.size]? = some (.cells #[.int .u8 z1, .string z2, .int .i64 z3] 102 (0, 0)) := (Below.heap_alloc _ _ _ (by simp)).trans (heap_alloc_new w1 _)
  have HA := hide kA
  have sA : w1.heap.size < ((w1.alloc (.cells #[.int .u8 z1, .string z2, .int .i64 z3] 102)).alloc (.cells #[.int .i64 0, .int .i64 0] 28)).heap.size := by simp; omega
  clear hC hR1 hg1 hba hg kA HS HB sS
  go_wp2_with fail
  generalize (w1.alloc (.cells #[.int .u8 z1, .string z2, .int .i64 z3] 102)).alloc (.cells #[.int .i64 0, .int .i64 0] 28) = W2 at *
  refine (hNm _).mono ?_
  rintro x w3 ⟨rfl, hb3⟩
  have s3 : w1.heap.size < w3.heap.size := Nat.lt_of_lt_of_le sA hb3.size
  have kA3 := (hb3.block _ sA).trans HA.out
  have kS3 := (hb3.block _ (by omega)).trans HS1.out
  obtain ⟨ca, _⟩ := blk_cells kA3
  have y0 := ca 0
  have y1 := ca 1
  have y2 := ca 2
  have hba : Below w3.heap.size w3 (w3.alloc (.cells #[.int .u16 0, .string ⟨#[]⟩, .bool false, .bool false, .string ⟨#[]⟩, .string ⟨#[]⟩, .int .i64 0, .int .u8 0] 64)) := (Below.refl _ _).alloc (Nat.le_refl _) _
  have hb3a := hb3.trans (hba.mono hb3.size)
  have HS3 := hide ((hba.block _ (by omega)).trans kS3)
  have HG3 := hide (show w.grownBy (w3.alloc (.cells #[.int .u16 0, .string ⟨#[]⟩, .bool false, .bool false, .string ⟨#[]⟩, .string ⟨#[]⟩, .int .i64 0, .int .u8 0] 64)) (some B) from ⟨hb3a.os.trans HG.out.os, hb3a.tape.trans HG.out.tape, hb3a.output.trans HG.out.output, Nat.le_trans HG.out.size hb3a.size, fun j hj hr => (hb3a.block j (Nat.lt_of_lt_of_le hj HG.out.size)).trans (HG.out.block j hj hr)⟩)
  clear hNm hb3 kA3 kS3 ca hba hb3a HA HS1 HG
  go_wp2_with fail
  generalize w3.alloc (.cells #[.int .u16 0, .string ⟨#[]⟩, .bool false, .bool false, .string ⟨#[]⟩, .string ⟨#[]⟩, .int .i64 0, .int .u8 0] 64) = W4 at *
  refine (hFA _).mono ?_
  rintro x w5 ⟨rfl, hb5⟩
  have sW := (Array.getElem?_eq_some_iff.1 HS3.out).1
  have kS5 := (hb5.block _ sW).trans HS3.out
  obtain ⟨cp, fp⟩ := blk_cells kS5
  have p0 := cp 0
  have p1 := cp 1
  obtain ⟨x1, x2⟩ := two_putB kS5 (.int .i64 71) (.int .i64 z3)
  have hg5 : w.grownBy w5 (some B) := ⟨hb5.os.trans HG3.out.os, hb5.tape.trans HG3.out.tape, hb5.output.trans HG3.out.output, Nat.le_trans HG3.out.size hb5.size, fun j hj hr => (hb5.block j (Nat.lt_of_lt_of_le hj HG3.out.size)).trans (HG3.out.block j hj hr)⟩
  have HY := hide (grown_put hg5 x2)
  have HY1 := hide x1
  clear hFA hb5 kS5 cp x1 x2 hg5 HG3 HS3 y0 y1 y2
  go_wp2_with fail
  generalize (w5.setCell ⟨w.heap.size, 0, none⟩ (.int .i64 71)).setCell ⟨w.heap.size, 1, none⟩ (.int .i64 z3) = X at *
  obtain ⟨e1, _⟩ := blk_cells HY1.out
  have a0 := e1 0
  have a1 := e1 1
  refine bodyPost_ret (v := .agg #[.int .i64 71, .int .i64 z3]) ?_ rfl ⟨rfl, HY.out⟩
  simp [results, Tryz.results124, go_sem, a0, a1]

end Go.Proofs.YtmobologlaeefaaGreat

/-
  What the method operation of a reader returns, of the layer asm, where a word is taken.
-/
namespace Go.Proofs.YtmobologlaeefaaGreat
open Go.RowKit
set_option linter.unusedVariables false
set_option linter.unusedSimpArgs false
set_option maxRecDepth 10000

/-- What holds behind an operation that has a name. -/
def OpQ (w' : World) (B : Nat) (a : Option Addr) (n c k : Nat) (len b : Int) (o : Nat) (f : Frm) (it ir : Int) (av : Value) (wd : Int) (z : TokT) (E P : Int) : Prop :=
  if f.2.2.1 ≠ (z.1 == 2) then E = 41 ∧ P = z.2.2 else if f.2.2.1 = false then E = 0 ∧ P = 0 ∧ Rea w' B a n c (k + 1) len b o f o it ir av wd
  else E = idP z.2.1 b ∧ P = fltA E z.2.2 ∧ (E = 0 → Rea w' B a n c (k + 1) len b o f o it (numV (strI z.2.1)) av wd)

theorem grown_bel {w w1 w2 : World} {B : Nat} (h : w.grownBy w1 (some B)) (hb : Below w1.heap.size w1 w2) : w.grownBy w2 (some B) := ⟨hb.os.trans h.os, hb.tape.trans h.tape, hb.output.trans h.output, Nat.le_trans h.size hb.size, fun j hj hr => (hb.block j (Nat.lt_of_lt_of_le hj h.size)).trans (h.block j hj hr)⟩
theorem grown_set {w w1 : World} {B : Nat} (h : w.grownBy w1 (some B)) (i : Nat) (v : Value) : w.grownBy (w1.setCell ⟨B, i, none⟩ v) (some B) := ⟨h.os, h.tape, h.output, by simp only [World.setCell, Array.size_modify]; exact h.size, fun j hj hr => by
  have hne : B ≠ j := fun e => hr (by rw [e])
  simp only [World.setCell, Array.getElem?_modify, if_neg hne]; exact h.block j hj hr⟩
theorem Rea.belowAt {w w' : World} {B : Nat} {a : Option Addr} {n c k : Nat} {len b fo : Int} {f : Frm} {io it ir : Int} {av : Value} {wd : Int} {g : Nat} (h : Rea w B a n c k len b fo f io it ir av wd) (hb : Below g w w') (hg : B < g) : Rea w' B a n c k len b fo f io it ir av wd := Rea.mk ((hb.block _ hg).trans h.block)
theorem lt_ad8 (W : World) : W.heap.size < (W.alloc (.cells #[.int .u8 0, .int .u32 0, .string ⟨#[]⟩] 81)).drew.heap.size := by show _ < (W.alloc _).heap.size; simp
theorem argbox_b {W w8 : World} {x0 x1 x2 : Value} {T : Nat} (hb : Below (W.alloc (.cells #[x0, x1, x2] T)).drew.heap.size (W.alloc (.cells #[x0, x1, x2] T)).drew w8) (u0 u1 u2 : Value) : (((w8.setCell ⟨W.heap.size, 0, none⟩ u0).setCell ⟨W.heap.size, 1, none⟩ u1).setCell ⟨W.heap.size, 2, none⟩ u2).heap[W.heap.size]? = some (.cells #[u0, u1, u2] T (0, 0)) ∧ Below W.heap.size W (((w8.setCell ⟨W.heap.size, 0, none⟩ u0).setCell ⟨W.heap.size, 1, none⟩ u1).setCell ⟨W.heap.size, 2, none⟩ u2) := by
  have k8 : w8.heap[W.heap.size]? = some (.cells #[x0, x1, x2] T (0, 0)) := (hb.block _ (by show _ < (W.alloc _).heap.size; simp)).trans (heap_alloc_new W _)
  obtain ⟨a, b⟩ := arg_put k8 u0 u1 u2
  have h1 : Below W.heap.size W (W.alloc (.cells #[x0, x1, x2] T)).drew := ((Below.refl _ W).alloc (Nat.le_refl _) _).drew
  exact ⟨a, (h1.trans (hb.mono h1.size)).trans b⟩

set_option maxHeartbeats 4000000 in
/-- The word names an operation. -/
theorem operation_some (B : Nat) (a : Option Addr) (n c k : Nat) (len b fo0 : Int) (f0 : Frm) (io0 it ir : Int) (av : Value) (wd : Int) (l : List TokT) (o : Nat) (w : World) (h : Rea w B a n c k len b fo0 f0 io0 it ir av wd) (hv : ToksV w a l) (hl : l.length = n) (hn : 32 * n ≤ 140737488351232) (hk : k < n) (hkd : (nthT l k).1 = 1) (hsz : (nthT l k).2.1.size ≤ 140737488351232) (hno : opsL.find? (namP (nthT l k).2.1) = some o) (hs0 : (nthT l 0).2.1.size ≤ 140737488351232) (hfar : ∀ g off, a = some ⟨g, off, none⟩ → g ≠ B) :
    Calls Tryz.prog 124 #[.pointer (some ⟨B, 0, none⟩)] w fun x w' => ∃ E P : Int, x = .returned (.agg #[.int .i64 E, .int .i64 P]) ∧ w.grownBy w' (some B) ∧ OpQ w' B a n c k len b o (opF o) it ir av wd (nthT l 0) E P := by
  obtain ⟨kS, hb⟩ := spot_box w
  have hC := take_ok B a n c k len _ _ l 1 _ (RowAt.below h hb) (hv.below hb) hl hn hk hkd
  have hNm := fun wx => named_any (nthT l k).2.1 wx hsz
  have e1 : namedB (nthT l k).2.1 = true := by unfold namedB; rw [hno]; rfl
  have e2 : namedV (nthT l k).2.1 = formV o (opF o) := by unfold namedV; rw [hno]
  rw [e1, e2] at hNm
  have hSy := fun (wx : World) (k' : Nat) (rest' : Array Value) (T' : Nat) (hx : RowAt wx B a n c k' len rest' T') (hvx : ToksV wx a l) => says_any B a n c k' len rest' T' l wx hx hvx hl (by omega)
  have hFA := fun (e : Int) wx => faultAt_any (nthT l 0) e wx
  have hId := fun wx => wantId_any 105 b (nthT l 0).2.1 wx hs0
  have hlt := Rea.lt h
  have HFAR : Hid (∀ j, j < n → ∃ g off, a = some ⟨g, off, none⟩ ∧ g < w.heap.size) := fun j hj => by
    obtain ⟨g, off, e, hg, _⟩ := hv j (by omega)
    exact ⟨g, off, e, hg⟩
  have HV := hide hv
  have HL := hide hl
  have HFB := hide hfar
  clear hfar
  have HN0 : Hid (0 < n) := by show 0 < n; omega
  obtain ⟨z, hz⟩ : ∃ z, z = nthT l k := ⟨_, rfl⟩
  rw [← hz] at hC hNm
  clear hz
  generalize hf : opF o = f at *
  obtain ⟨nm, ty, re, fx, rs, mo, pa⟩ := f
  unfold formV at hNm
  simp only at hNm ⊢
  obtain ⟨z1, z2, z3⟩ := z
  unfold tokV at hC
  simp only at hC hNm
  have HS := hide kS
  have HB := hide hb
  have HH := hide h
  clear kS hb h hv hl hn hk hkd hsz hno e1 e2 hs0
  go_enter Tryz.func124, Tryz.ntmps124
  go_wp2_with fail
  generalize w.alloc (.cells #[.int .i64 0, .int .i64 0] 28) = W at *
  refine hC.mono ?_
  rintro x w1 ⟨rfl, hR1, hg1⟩
  have sS := (Array.getElem?_eq_some_iff.1 HS.out).1
  have s1 : w.heap.size < w1.heap.size := Nat.lt_of_lt_of_le sS hg1.size
  have hba : Below w1.heap.size w1 ((w1.alloc (.cells #[.int .u8 z1, .string z2, .int .i64 z3] 102)).alloc (.cells #[.int .i64 0, .int .i64 0] 28)) := ((Below.refl _ w1).alloc (Nat.le_refl _) _).alloc (by simp) _
  have HS1 := hide ((hba.block _ s1).trans ((hg1.block _ sS (by simp; omega)).trans HS.out))
  have hg : w.grownBy ((w1.alloc (.cells #[.int .u8 z1, .string z2, .int .i64 z3] 102)).alloc (.cells #[.int .i64 0, .int .i64 0] 28)) (some B) :=
    ⟨hba.os.trans (hg1.os.trans HB.out.os), hba.tape.trans (hg1.tape.trans HB.out.tape), hba.output.trans (hg1.output.trans HB.out.output), Nat.le_trans HB.out.size (Nat.le_trans hg1.size hba.size), fun j hj hr => (hba.block j (by omega)).trans ((hg1.block j (Nat.lt_of_lt_of_le hj HB.out.size) hr).trans (HB.out.block j hj))⟩
  have HG := hide hg
  have kA : ((w1.alloc (.cells #[.int .u8 z1, .string z2, .int .i64 z3] 102)).alloc (.cells #[.int .i64 0, .int .i64 0] 28)).heap[w1.heap.size]? = some (.cells #[.int .u8 z1, .string z2, .int .i64 z3] 102 (0, 0)) := (Below.heap_alloc _ _ _ (by simp)).trans (heap_alloc_new w1 _)
  have HA := hide kA
  have sA : w1.heap.size < ((w1.alloc (.cells #[.int .u8 z1, .string z2, .int .i64 z3] 102)).alloc (.cells #[.int .i64 0, .int .i64 0] 28)).heap.size := by simp; omega
  have HR := hide (show Rea _ B a n c (k + 1) len b fo0 f0 io0 it ir av wd from RowAt.below hR1 hba)
  clear hC hR1 hg1 hba hg kA HS HB sS
  go_wp2_with fail
  generalize (w1.alloc (.cells #[.int .u8 z1, .string z2, .int .i64 z3] 102)).alloc (.cells #[.int .i64 0, .int .i64 0] 28) = W2 at *
  refine (hNm _).mono ?_
  rintro x w3 ⟨rfl, hb3⟩
  have s3 : w1.heap.size < w3.heap.size := Nat.lt_of_lt_of_le sA hb3.size
  have kA3 := (hb3.block _ sA).trans HA.out
  have kS3 := (hb3.block _ (by omega)).trans HS1.out
  obtain ⟨ca, _⟩ := blk_cells kA3
  have y0 := ca 0
  have y1 := ca 1
  have y2 := ca 2
  have hba : Below w3.heap.size w3 (w3.alloc (.cells #[.int .u16 (o : Int), .string nm, .bool ty, .bool re, .string fx, .string rs, .int .i64 mo, .int .u8 pa] 64)) := (Below.refl _ _).alloc (Nat.le_refl _) _
  have hb3a := hb3.trans (hba.mono hb3.size)
  have HS3 := hide ((hba.block _ (by omega)).trans kS3)
  have HA3 := hide ((hba.block _ s3).trans kA3)
  have HR3 := hide (HR.out.below hb3a)
  have HF3 := hide (heap_alloc_new w3 (.cells #[.int .u16 (o : Int), .string nm, .bool ty, .bool re, .string fx, .string rs, .int .i64 mo, .int .u8 pa] 64))
  have HG3 := hide (show w.grownBy (w3.alloc (.cells #[.int .u16 (o : Int), .string nm, .bool ty, .bool re, .string fx, .string rs, .int .i64 mo, .int .u8 pa] 64)) (some B) from ⟨hb3a.os.trans HG.out.os, hb3a.tape.trans HG.out.tape, hb3a.output.trans HG.out.output, Nat.le_trans HG.out.size hb3a.size, fun j hj hr => (hb3a.block j (Nat.lt_of_lt_of_le hj HG.out.size)).trans (HG.out.block j hj hr)⟩)
  have hsF : w3.heap.size < (w3.alloc (.cells #[.int .u16 (o : Int), .string nm, .bool ty, .bool re, .string fx, .string rs, .int .i64 mo, .int .u8 pa] 64)).heap.size := by simp
  clear hNm hb3 kA3 kS3 ca hba hb3a HA HS1 HG HR
  go_wp2_with fail
  generalize (w3.alloc (.cells #[.int .u16 (o : Int), .string nm, .bool ty, .bool re, .string fx, .string rs, .int .i64 mo, .int .u8 pa] 64)) = W4 at *
  obtain ⟨cr, fr⟩ := blk_cells HR3.out.block
  obtain ⟨cd, _⟩ := blk_cells HF3.out
  have r4 : W4.cell? ⟨B, 4, none⟩ = some (.int .u16 fo0) := cr 4
  have r5 : W4.cell? ⟨B, 5, none⟩ = some (.string f0.1) := cr 5
  have r6 : W4.cell? ⟨B, 6, none⟩ = some (.bool f0.2.1) := cr 6
  have r7 : W4.cell? ⟨B, 7, none⟩ = some (.bool f0.2.2.1) := cr 7
  have r8 : W4.cell? ⟨B, 8, none⟩ = some (.string f0.2.2.2.1) := cr 8
  have r9 : W4.cell? ⟨B, 9, none⟩ = some (.string f0.2.2.2.2.1) := cr 9
  have r10 : W4.cell? ⟨B, 10, none⟩ = some (.int .i64 f0.2.2.2.2.2.1) := cr 10
  have r11 : W4.cell? ⟨B, 11, none⟩ = some (.int .u8 f0.2.2.2.2.2.2) := cr 11
  have r12 : W4.cell? ⟨B, 12, none⟩ = some (.int .u16 io0) := cr 12
  have d0 := cd 0
  have d1 := cd 1
  have d2 := cd 2
  have d3 := cd 3
  have d4 := cd 4
  have d5 := cd 5
  have d6 := cd 6
  have d7 := cd 7
  have nB : B ≠ w3.heap.size := by omega
  have nB2 : w3.heap.size ≠ B := by omega
  clear cr cd y0 y1 y2
  go_region
  have HF4 := hide ((formW_far W4 B o (nm, ty, re, fx, rs, mo, pa) (by omega)).trans HF3.out)
  have HS4 := hide ((formW_far W4 B o (nm, ty, re, fx, rs, mo, pa) (by omega)).trans HS3.out)
  have HR4 := hide (formW_rd HR3.out o (nm, ty, re, fx, rs, mo, pa))
  have HG4 := hide (formW_grown o (nm, ty, re, fx, rs, mo, pa) HG3.out)
  have hs4 := formW_size W4 B o (nm, ty, re, fx, rs, mo, pa)
  have HSZ4 : Hid (w3.heap.size < (formW W4 B o (nm, ty, re, fx, rs, mo, pa)).heap.size) := by show _ < _; rw [hs4]; exact hsF
  have hV4 : ToksV (formW W4 B o (nm, ty, re, fx, rs, mo, pa)) a l := by
    intro j hj
    obtain ⟨g, off, e, hg, q1, q2, q3⟩ := HV.out j hj
    have hx : (formW W4 B o (nm, ty, re, fx, rs, mo, pa)).heap[g]? = w.heap[g]? := (formW_far W4 B o _ (HFB.out g off e)).trans (HG3.out.block g hg (by simpa using HFB.out g off e))
    refine ⟨g, off, e, by rw [hs4]; have := HG3.out.size; omega, ?_, ?_, ?_⟩
    · simp only [World.cell?, hx] at q1 ⊢; exact q1
    · simp only [World.cell?, hx] at q2 ⊢; exact q2
    · simp only [World.cell?, hx] at q3 ⊢; exact q3
  have HV4 := hide hV4
  unfold formW at HF4 HS4 HR4 HG4 HSZ4 HV4
  simp only at HF4 HS4 HR4 HG4 HSZ4 HV4
  clear r4 r5 r6 r7 r8 r9 r10 r11 r12 d0 d1 d2 d3 d4 d5 d6 d7 fr hs4 hV4 HF3 HS3 HR3 HG3 HV HFAR
  generalize (((((((((W4.setCell ⟨B, 4, none⟩ (.int .u16 (o : Int))).setCell ⟨B, 5, none⟩ (.string nm)).setCell ⟨B, 6, none⟩ (.bool ty)).setCell ⟨B, 7, none⟩ (.bool re)).setCell ⟨B, 8, none⟩ (.string fx)).setCell ⟨B, 9, none⟩ (.string rs)).setCell ⟨B, 10, none⟩ (.int .i64 mo)).setCell ⟨B, 11, none⟩ (.int .u8 pa)).setCell ⟨B, 12, none⟩ (.int .u16 (o : Int))).drew = W5 at *
  obtain ⟨c0, c1, c2, cf⟩ := RowAt.cells HR4.out
  obtain ⟨g1, o1, rfl, hg1, t1, t2, t3⟩ := HV4.out 0 (by rw [HL.out]; exact HN0.out)
  simp only [Nat.zero_mul, Nat.add_zero] at t1 t2 t3
  have hn0 : (0 : Int) < (n : Int) := by have := HN0.out; omega
  have hSy4 := fun (wx : World) (hb : Below W5.heap.size W5 wx) => hSy wx (k + 1) _ _ (RowAt.below HR4.out hb) (HV4.out.below hb)
  have HSY := hide hSy4
  clear hSy hSy4
  obtain ⟨y, hy⟩ : ∃ y, y = nthT l 0 := ⟨_, rfl⟩
  rw [← hy] at t1 t2 t3 hFA hId HSY
  have HY0 := hide hy
  clear hy
  obtain ⟨y1, y2, y3⟩ := y
  unfold tokV at hFA
  simp only at t1 t2 t3 hFA hId HSY
  have hbT : Below W5.heap.size W5 (W5.alloc (.cells #[.int .u8 y1, .string y2, .int .i64 y3] 102)) := (Below.refl _ _).alloc (Nat.le_refl _) _
  have sF5 := HSZ4.out
  have kF6 := (hbT.block _ sF5).trans HF4.out
  have HF6 := hide kF6
  have HS6 := hide ((hbT.block _ (by omega)).trans HS4.out)
  have HR6 := hide (HR4.out.below hbT)
  have HT6 := hide (heap_alloc_new W5 (.cells #[.int .u8 y1, .string y2, .int .i64 y3] 102))
  have HG6 := hide (show w.grownBy (W5.alloc (.cells #[.int .u8 y1, .string y2, .int .i64 y3] 102)) (some B) from ⟨hbT.os.trans HG4.out.os, hbT.tape.trans HG4.out.tape, hbT.output.trans HG4.out.output, Nat.le_trans HG4.out.size hbT.size, fun j hj hr => (hbT.block j (Nat.lt_of_lt_of_le hj HG4.out.size)).trans (HG4.out.block j hj hr)⟩)
  have HBT := hide hbT
  clear hbT kF6
  go_wp2_with fail
  generalize W5.alloc (.cells #[.int .u8 y1, .string y2, .int .i64 y3] 102) = W6 at *
  obtain ⟨cd, _⟩ := blk_cells HF6.out
  have d3 := cd 3
  clear c0 c1 c2 cf t1 t2 t3 cd
  have hSq := fun q => HSY.out (W6.drewN q) (HBT.out.trans ((bel_drewN (Below.refl W6.heap.size W6) q).mono HBT.out.size))
  go_quiet ((go_at_call 123; exact Calls.quiet_of_same ((hSq _).mono fun _ _ h => ⟨h.1, h.2.symm⟩)))
  have hbq : Below W6.heap.size W6 (W6.drewN nq) := bel_drewN (Below.refl _ W6) nq
  have HT7 := hide ((hbq.block _ (Array.getElem?_eq_some_iff.1 HT6.out).1).trans HT6.out)
  have HS7 := hide ((hbq.block _ (Array.getElem?_eq_some_iff.1 HS6.out).1).trans HS6.out)
  have HF7 := hide ((hbq.block _ (Array.getElem?_eq_some_iff.1 HF6.out).1).trans HF6.out)
  have HR7 := hide (HR6.out.below hbq)
  have HG7 := hide (grown_bel HG6.out hbq)
  clear hbq hSq d3 HT6 HS6 HF6 HR6 HG6 HSY HBT
  generalize W6.drewN nq = W7 at *
  have sS7 := (Array.getElem?_eq_some_iff.1 HS7.out).1
  have sT7 := (Array.getElem?_eq_some_iff.1 HT7.out).1
  obtain ⟨cu, _⟩ := blk_cells HT7.out
  have u0 := cu 0
  have u1 := cu 1
  have u2 := cu 2
  obtain ⟨cd, _⟩ := blk_cells HF7.out
  have d3 := cd 3
  clear cu cd
  generalize hsb : (y1 == 2) = sb
  cases re <;> cases sb
  · obtain ⟨cp, fp⟩ := blk_cells HS7.out
    have p0 := cp 0
    have p1 := cp 1
    obtain ⟨x1, x2⟩ := two_putB HS7.out (.int .i64 0) (.int .i64 0)
    have HY := hide (grown_put HG7.out x2)
    have HY1 := hide x1
    have HY2 := hide (HR7.out.belowAt x2 hlt)
    clear hFA cp x1 x2 u0 u1 u2
    go_wp2_with fail
    generalize (W7.setCell ⟨w.heap.size, 0, none⟩ (.int .i64 0)).setCell ⟨w.heap.size, 1, none⟩ (.int .i64 0) = X at *
    obtain ⟨e1, _⟩ := blk_cells HY1.out
    have a0 := e1 0
    have a1 := e1 1
    refine bodyPost_ret (v := .agg #[.int .i64 0, .int .i64 0]) ?_ rfl ⟨0, 0, rfl, HY.out, by rw [← HY0.out]; unfold OpQ; simp [hsb]; exact HY2.out⟩
    simp [results, Tryz.results124, go_sem, a0, a1]
  · have hF1 := hFA 41
    rw [show fltA 41 y3 = y3 by unfold fltA; simp] at hF1
    go_wp2_with fail
    refine (hF1 _).mono ?_
    rintro x w8 ⟨rfl, hb8⟩
    have kS8 := (hb8.block _ sS7).trans HS7.out
    obtain ⟨cp, fp⟩ := blk_cells kS8
    have p0 := cp 0
    have p1 := cp 1
    obtain ⟨x1, x2⟩ := two_putB kS8 (.int .i64 41) (.int .i64 y3)
    have HY := hide (grown_put (grown_bel HG7.out hb8) x2)
    have HY1 := hide x1
    clear hFA hF1 hb8 kS8 cp x1 x2 u0 u1 u2 d3
    go_wp2_with fail
    generalize (w8.setCell ⟨w.heap.size, 0, none⟩ (.int .i64 41)).setCell ⟨w.heap.size, 1, none⟩ (.int .i64 y3) = X at *
    obtain ⟨e1, _⟩ := blk_cells HY1.out
    have a0 := e1 0
    have a1 := e1 1
    refine bodyPost_ret (v := .agg #[.int .i64 41, .int .i64 y3]) ?_ rfl ⟨41, y3, rfl, HY.out, by rw [← HY0.out]; unfold OpQ; simp [hsb]⟩
    simp [results, Tryz.results124, go_sem, a0, a1]
  · have hF1 := hFA 41
    rw [show fltA 41 y3 = y3 by unfold fltA; simp] at hF1
    go_wp2_with fail
    refine (hF1 _).mono ?_
    rintro x w8 ⟨rfl, hb8⟩
    have kS8 := (hb8.block _ sS7).trans HS7.out
    obtain ⟨cp, fp⟩ := blk_cells kS8
    have p0 := cp 0
    have p1 := cp 1
    obtain ⟨x1, x2⟩ := two_putB kS8 (.int .i64 41) (.int .i64 y3)
    have HY := hide (grown_put (grown_bel HG7.out hb8) x2)
    have HY1 := hide x1
    clear hFA hF1 hb8 kS8 cp x1 x2 u0 u1 u2 d3
    go_wp2_with fail
    generalize (w8.setCell ⟨w.heap.size, 0, none⟩ (.int .i64 41)).setCell ⟨w.heap.size, 1, none⟩ (.int .i64 y3) = X at *
    obtain ⟨e1, _⟩ := blk_cells HY1.out
    have a0 := e1 0
    have a1 := e1 1
    refine bodyPost_ret (v := .agg #[.int .i64 41, .int .i64 y3]) ?_ rfl ⟨41, y3, rfl, HY.out, by rw [← HY0.out]; unfold OpQ; simp [hsb]⟩
    simp [results, Tryz.results124, go_sem, a0, a1]
  · have hbd := ReadAt.bound HR7.out
    obtain ⟨ar, har⟩ : ∃ ar : ArgT, ar = if idP y2 b = 0 then (1, numV (strI y2), ⟨#[]⟩) else noArg := ⟨_, rfl⟩
    have hq : idP y2 b = 0 → ar.2.1 = numV (strI y2) := fun e => by rw [har, if_pos e]
    rw [← har] at hId
    have HQ := hide hq
    clear har hq
    obtain ⟨q0, q1, q2⟩ := ar
    unfold argV at hId
    simp only at hId
    have sB7 : B < W7.heap.size := HR7.out.lt
    have frB : ∀ i, W7.frozen? ⟨B, i, none⟩ = false := (blk_cells HR7.out.block).2
    go_wp2_with fail
    go_region_with ((go_at_call 155; first | (refine (hId _).mono ?_; rintro x w8 ⟨rfl, hb8⟩; have v0 := hb8.cell (p := ⟨W7.heap.size, 0, none⟩) (lt_ad8 W7); have v1 := hb8.cell (p := ⟨W7.heap.size, 1, none⟩) (lt_ad8 W7); have v2 := hb8.cell (p := ⟨W7.heap.size, 2, none⟩) (lt_ad8 W7); have v3 := hb8.frozen (p := ⟨W7.heap.size, 0, none⟩) (lt_ad8 W7); have v4 := hb8.frozen (p := ⟨W7.heap.size, 1, none⟩) (lt_ad8 W7); have v5 := hb8.frozen (p := ⟨W7.heap.size, 2, none⟩) (lt_ad8 W7); have HB8 := hide hb8) | (refine (hId _).mono ?_; rintro x w8 ⟨rfl, hb8⟩; have HB8 := hide hb8)))
    all_goals
      first
        | (obtain ⟨kX, hbX⟩ := argbox_b HB8.out (.int .u8 q0) (.int .u32 q1) (.string q2); clear HB8 hb8 v0 v1 v2 v3 v4 v5; generalize ((w8.setCell ⟨W7.heap.size, 0, none⟩ (.int .u8 q0)).setCell ⟨W7.heap.size, 1, none⟩ (.int .u32 q1)).setCell ⟨W7.heap.size, 2, none⟩ (.string q2) = X at *; obtain ⟨MB, hMB⟩ : ∃ MB, MB = W7.heap.size := ⟨_, rfl⟩; have hM : W7.heap.size ≤ MB := by omega
           rw [← hMB] at kX ⊢; clear hMB)
        | (have hb9 : Below W7.drew.heap.size W7.drew w8 := HB8.out; have hbX := ((below_drew W7).trans hb9).alloc hb9.size (.cells #[.int .u8 q0, .int .u32 q1, .string q2] 81); have kX := heap_alloc_new w8 (.cells #[.int .u8 q0, .int .u32 q1, .string q2] 81); have hM : W7.heap.size ≤ w8.heap.size := hb9.size; clear hb8 hb9 HB8; generalize w8.alloc (.cells #[.int .u8 q0, .int .u32 q1, .string q2] 81) = X at *; generalize w8.heap.size = MB at *)
      have kT := (hbX.block _ sT7).trans HT7.out
      have kS := (hbX.block _ sS7).trans HS7.out
      have hR := HR7.out.below hbX
      have hG := grown_bel HG7.out hbX
      have nT : B ≠ W5.heap.size := by omega
      have nT2 : W5.heap.size ≠ B := by omega
      have nS : B ≠ w.heap.size := by omega
      have b14 : X.cell? ⟨B, 14, none⟩ = some (.int .u32 ir) := (blk_cells hR.block).1 14
      have f14 : X.frozen? ⟨B, 14, none⟩ = false := (blk_cells hR.block).2 14
      have m1 : X.cell? ⟨MB, 1, none⟩ = some (.int .u32 q1) := (blk_cells kX).1 1
      obtain ⟨cu, _⟩ := blk_cells kT
      have k0 := cu 0
      have k1 := cu 1
      have k2 := cu 2
      have HR9 := hide (hR.setResult q1)
      have HG9 := hide (grown_set hG 14 (.int .u32 q1))
      have hS9 : (X.setCell ⟨B, 14, none⟩ (.int .u32 q1)).heap[w.heap.size]? = some (.cells #[.int .i64 0, .int .i64 0] 28 (0, 0)) := by
        simp only [World.setCell, Array.getElem?_modify, if_neg nS]; exact kS
      have HS9 := hide hS9
      clear hbX kX cu kT kS hR hG hS9 hbd frB d3 u0 u1 u2 hId
      go_wp2_with fail
      generalize X.setCell ⟨B, 14, none⟩ (.int .u32 q1) = Y at *
      refine (hFA _ _).mono ?_
      rintro x w9 ⟨rfl, hb9⟩
      generalize hE : idP y2 b = E at *
      generalize hP : fltA E y3 = PP at *
      have kS9 := (hb9.block _ (Array.getElem?_eq_some_iff.1 HS9.out).1).trans HS9.out
      obtain ⟨cp, fp⟩ := blk_cells kS9
      have p0 := cp 0
      have p1 := cp 1
      obtain ⟨x1, x2⟩ := two_putB kS9 (.int .i64 E) (.int .i64 PP)
      have HY := hide (grown_put (grown_bel HG9.out hb9) x2)
      have HY1 := hide x1
      have HY2 := hide ((HR9.out.below hb9).belowAt x2 hlt)
      clear hFA hb9 kS9 cp x1 x2 k0 k1 k2 b14 f14 m1
      go_wp2_with fail
      generalize (w9.setCell ⟨w.heap.size, 0, none⟩ (.int .i64 E)).setCell ⟨w.heap.size, 1, none⟩ (.int .i64 PP) = Z at *
      obtain ⟨e1, _⟩ := blk_cells HY1.out
      have a0 := e1 0
      have a1 := e1 1
      refine bodyPost_ret (v := .agg #[.int .i64 E, .int .i64 PP]) ?_ rfl ⟨E, PP, rfl, HY.out, ?_⟩
      · simp [results, Tryz.results124, go_sem, a0, a1]
      · rw [← HY0.out]
        unfold OpQ
        rw [if_neg (by simp [hsb]), if_neg (by simp)]
        refine ⟨hE.symm, hP.symm, fun h0 => ?_⟩
        rw [← HQ.out h0]
        exact HY2.out

end Go.Proofs.YtmobologlaeefaaGreat

/-
  What the method operation of a reader returns, of the layer asm, in one form.
-/
namespace Go.Proofs.YtmobologlaeefaaGreat
open Go.RowKit
set_option linter.unusedVariables false
set_option linter.unusedSimpArgs false

/-- The operation is known, its result fits. -/
def ResOk (o : Nat) (r b : Int) : Prop := (lookF refT o).2 = true ∧ o < 65536 ∧ idE (opF o).2.2.1 r b 41 = 0 ∧ 0 ≤ r ∧ r < 4294967296
/-- What holds behind an operation, by what the line says. -/
def OpA (w' : World) (B : Nat) (a : Option Addr) (n c k : Nat) (len b : Int) (it : Int) (av : Value) (wd : Int) (l : List TokT) (E P : Int) : Prop :=
  (E ≠ 0 ∧ lineO ((nthT l 0).1 == 2) l k len b = noLine E P) ∨
  (E = 0 ∧ k < n ∧ ∃ (o : Nat) (r : Int), lineO ((nthT l 0).1 == 2) l k len b = lineT o (opF o) r l (k + 1) len b ∧ ResOk o r b ∧ Rea w' B a n c (k + 1) len b o (opF o) o it r av wd)

theorem operation_any (B : Nat) (a : Option Addr) (n c k : Nat) (len b fo0 : Int) (f0 : Frm) (io0 it : Int) (av : Value) (wd : Int) (l : List TokT) (w : World) (h : Rea w B a n c k len b fo0 f0 io0 it 0 av wd) (hv : ToksV w a l) (hl : l.length = n) (hn : 32 * n ≤ 140737488351232) (hin : ToksIn l) (hk : k ≤ n) (h0 : 0 < n) (hfar : ∀ g off, a = some ⟨g, off, none⟩ → g ≠ B) :
    Calls Tryz.prog 124 #[.pointer (some ⟨B, 0, none⟩)] w fun x w' => ∃ E P : Int, x = .returned (.agg #[.int .i64 E, .int .i64 P]) ∧ w.grownBy w' (some B) ∧ OpA w' B a n c k len b it av wd l E P := by
  by_cases h1 : n ≤ k
  · obtain rfl : k = n := by omega
    refine (operation_bad B w 72 len (by decide) fun wx hb => take_early B a k c len _ _ 1 wx (RowAt.below h hb)).mono ?_
    rintro x w' ⟨rfl, hb⟩
    exact ⟨72, len, rfl, grown_below2 hb _, .inl ⟨by decide, by unfold lineO; rw [if_pos (by omega)]⟩⟩
  · have hlk : ¬ l.length ≤ k := by omega
    by_cases h2 : (nthT l k).1 = 1
    · have s1 := (hin k (by omega)).2.2.1
      have s0 := (hin 0 (by omega)).2.2.1
      cases ho : opsL.find? (namP (nthT l k).2.1) with
      | none =>
        refine (operation_none B a n c k len _ _ l w h hv hl hn (by omega) h2 s1 ho).mono ?_
        rintro x w' ⟨rfl, hg⟩
        refine ⟨71, _, rfl, hg, .inl ⟨by decide, ?_⟩⟩
        unfold lineO
        rw [if_neg hlk, if_neg (by omega), ho]
      | some o =>
        refine (operation_some B a n c k len b fo0 f0 io0 it 0 av wd l o w h hv hl hn (by omega) h2 s1 ho s0 hfar).mono ?_
        rintro x w' ⟨E, P, rfl, hg, hq⟩
        refine ⟨E, P, rfl, hg, ?_⟩
        unfold OpQ at hq
        unfold OpA lineO
        rw [if_neg hlk, if_neg (by omega), ho]
        simp only
        by_cases h3 : (opF o).2.2.1 = ((nthT l 0).1 == 2)
        · rw [if_neg (by simp [h3])] at hq
          rw [if_neg (by simp [h3])]
          by_cases h4 : (opF o).2.2.1 = false
          · rw [if_pos h4] at hq
            obtain ⟨rfl, rfl, hR⟩ := hq
            rw [← h3, h4]
            exact .inr ⟨rfl, by omega, o, 0, by simp, ⟨(op_known ho).1, (op_known ho).2, by rw [h4]; simp [idE], by omega, by omega⟩, hR⟩
          · rw [if_neg h4] at hq
            obtain ⟨rfl, rfl, hR⟩ := hq
            have h5 : ((nthT l 0).1 == 2) = true := by rw [← h3]; simpa using h4
            rw [h5]
            by_cases h6 : idP (nthT l 0).2.1 b = 0
            · obtain ⟨q1, q2, q3, q4⟩ := idP_zero h6
              have q5 := num_bounds q1
              exact .inr ⟨h6, by omega, o, _, by simp [h6], ⟨(op_known ho).1, (op_known ho).2, by rw [h3, h5]; exact idE_none q2, q5.1, q5.2⟩, hR h6⟩
            · refine .inl ⟨h6, ?_⟩
              rw [if_pos ⟨rfl, h6⟩]
              unfold fltA; rw [if_neg h6]
        · rw [if_pos h3] at hq
          obtain ⟨rfl, rfl⟩ := hq
          exact .inl ⟨by decide, by rw [if_pos h3]⟩
    · refine (operation_bad B w 70 (nthT l k).2.2 (by decide) fun wx hb => take_wrong B a n c k len _ _ l 1 wx (RowAt.below h hb) (hv.below hb) hl hn (by omega) h2).mono ?_
      rintro x w' ⟨rfl, hb⟩
      exact ⟨70, _, rfl, grown_below2 hb _, .inl ⟨by decide, by unfold lineO; rw [if_neg hlk, if_pos h2]⟩⟩

end Go.Proofs.YtmobologlaeefaaGreat

/-
  What the methods ownId and inst of the package code's writer do.
-/
namespace Go.Proofs.YtmobologlaeefaaGreat
open Go.RowKit
set_option linter.unusedVariables false
set_option linter.unusedSimpArgs false
set_option maxRecDepth 10000

def hasL (has : Bool) (c : Int) (zs : List Int) (n : Int) : List Int := if has then putL c 1 zs [n] else zs
def hasC (has : Bool) (c : Int) : Int := if has then c + 1 else c

set_option maxHeartbeats 1000000 in
theorem ownIdW_any (B : Nat) (o : Int) (f : Frm) (b : Int) (zs : List Int) (c : Int) (n : Int) (has : Bool) (wr : Int) (w : World) (hW : Wrt w B o f b zs c) (hc : c + 1 < 9223372036854775808) (hwr : wr ≠ 0) :
    Calls Tryz.prog 128 #[.pointer (some ⟨B, 0, none⟩), .int .u32 n, .bool has, .int .i64 wr] w fun e w' => e = .returned (.int .i64 (idE has n b wr)) ∧ KeepW B w w' ∧ (idE has n b wr = 0 → Wrt w' B o f b (hasL has c zs n) (hasC has c)) ∧ (idE has n b wr ≠ 0 → Wrt w' B o f b zs c) := by
  by_cases hn : n = 0
  · subst hn
    cases has
    · have e1 : idE false 0 b wr = 0 := by simp [idE]
      rw [e1]
      go_enter Tryz.func128, Tryz.ntmps128
      go_wp2
      go_ret
      exact ⟨rfl, KeepW.refl _ _, fun _ => hW, fun _ => hW⟩
    · have e1 : idE true 0 b wr = wr := by simp [idE]
      rw [e1]
      go_enter Tryz.func128, Tryz.ntmps128
      go_wp2
      go_ret
      exact ⟨rfl, KeepW.refl _ _, fun h => absurd h hwr, fun _ => hW⟩
  · have hn' : (n == 0) = false := by simpa using hn
    have hn2 : (n != 0) = true := by simpa using hn
    cases has
    · have e1 : idE false n b wr = wr := by simp [idE, hn]
      rw [e1]
      go_enter Tryz.func128, Tryz.ntmps128
      go_wp2
      go_ret
      exact ⟨rfl, KeepW.refl _ _, fun h => absurd h hwr, fun _ => hW⟩
    · have e1 : idE true n b wr = faultW 105 n b := by
        have : kindI 105 = 1 := by decide
        simp [idE, hn, faultW, this, noneB]
      have hP := putWord_any B o f b zs c 105 (1, n, ⟨#[]⟩) w hW hc
      unfold argV at hP
      simp only at hP
      rw [e1]
      generalize faultW 105 n b = r at *
      clear e1
      go_enter Tryz.func128, Tryz.ntmps128
      go_wp2_with fail
      refine hP.mono ?_
      rintro e w1 ⟨rfl, hk, hw1, hw2⟩
      clear hP
      go_wp2
      go_ret
      exact ⟨rfl, hk, hw1, hw2⟩

theorem Wrt.cells {w : World} {B : Nat} {o : Int} {f : Frm} {b : Int} {zs : List Int} {c : Int} (h : Wrt w B o f b zs c) : w.cell? ⟨B, 0, none⟩ = some (.int .u16 o) ∧ w.cell? ⟨B, 2, none⟩ = some (.bool f.2.1) ∧ w.cell? ⟨B, 3, none⟩ = some (.bool f.2.2.1) ∧ w.cell? ⟨B, 10, none⟩ = some (.int .i64 c) := by
  obtain ⟨⟨v, h1, h2⟩, h3⟩ := h
  obtain ⟨hc, _⟩ := one_block h1
  exact ⟨hc 0, hc 2, hc 3, hc 10⟩

/-- Arguments that lie below a block. -/
def ArgsL (w : World) (B : Nat) (a : Option Addr) (l : List ArgT) : Prop :=
  ∀ j, j < l.length → ∃ b off, a = some ⟨b, off, none⟩ ∧ b < B ∧ w.cell? ⟨b, off + j * 3, none⟩ = some (.int .u8 (nthA l j).1) ∧ w.cell? ⟨b, off + j * 3 + 1, none⟩ = some (.int .u32 (nthA l j).2.1) ∧ w.cell? ⟨b, off + j * 3 + 2, none⟩ = some (.string (nthA l j).2.2)
theorem ArgsL.of {w : World} {a : Option Addr} {l : List ArgT} (h : ArgsV w a l) : ArgsL w w.heap.size a l := h
theorem ArgsL.view {w : World} {B : Nat} {a : Option Addr} {l : List ArgT} (h : ArgsL w B a l) (hB : B ≤ w.heap.size) : ArgsV w a l := fun j hj => by
  obtain ⟨b, off, e, hlt, h1⟩ := h j hj
  exact ⟨b, off, e, by omega, h1⟩
theorem ArgsL.below {w w' : World} {B : Nat} {a : Option Addr} {l : List ArgT} (h : ArgsL w B a l) (hb : Below B w w') : ArgsL w' B a l := fun j hj => by
  obtain ⟨b, off, e, hlt, h1, h2, h3⟩ := h j hj
  exact ⟨b, off, e, hlt, (hb.cell (p := ⟨b, off + j * 3, none⟩) hlt).trans h1, (hb.cell (p := ⟨b, off + j * 3 + 1, none⟩) hlt).trans h2, (hb.cell (p := ⟨b, off + j * 3 + 2, none⟩) hlt).trans h3⟩
theorem ArgsL.mono {w : World} {B B' : Nat} {a : Option Addr} {l : List ArgT} (h : ArgsL w B a l) (hb : B ≤ B') : ArgsL w B' a l := fun j hj => by
  obtain ⟨b, off, e, hlt, h1⟩ := h j hj
  exact ⟨b, off, e, by omega, h1⟩

theorem ids_words (f : Frm) (t r : Int) : hasL f.2.2.1 (hasC f.2.1 1) (hasL f.2.1 1 [] t) r = headW f t r ∧ hasC f.2.2.1 (hasC f.2.1 1) = 1 + (headW f t r).length := by
  cases h1 : f.2.1 <;> cases h2 : f.2.2.1 <;> simp [hasL, hasC, headW, h1, h2, putL]

theorem four_cells {w : World} {G T : Nat} {a b c d : Value} (h : w.heap[G]? = some (.cells #[a, b, c, d] T (0, 0))) : w.cell? ⟨G, 0, none⟩ = some a ∧ w.cell? ⟨G, 1, none⟩ = some b ∧ w.cell? ⟨G, 2, none⟩ = some c ∧ w.cell? ⟨G, 3, none⟩ = some d := by
  obtain ⟨hc, _⟩ := one_block h
  exact ⟨hc 0, hc 1, hc 2, hc 3⟩

set_option maxHeartbeats 2000000 in
theorem winst_any (B : Nat) (f : Frm) (b : Int) (x : InstT) (ax : Option Addr) (n cx : Nat) (w : World) (hW : Wrt w B x.1 f b [] 1) (hf : lookF refT x.1 = (f, true)) (hok : InstOk x) (hv : ArgsL w B ax x.2.2.2) (hl : x.2.2.2.length = n) :
    Calls Tryz.prog 104 #[.pointer (some ⟨B, 0, none⟩), instV x ax n cx] w fun e w' => e = .returned (.int .i64 (faultI f x b)) ∧ KeepW B w w' ∧ (faultI f x b = 0 → ∃ c, Wrt w' B x.1 f b (rawL f x) c) := by
  obtain ⟨xo, xt, xr, xl⟩ := x
  unfold instV
  simp only at *
  obtain ⟨_, _, _, _, _, _, hal, han⟩ := hok
  simp only at *
  have hBl := hW.lt
  have hb1 : Below w.heap.size w (w.alloc (.cells #[.int .u16 xo, .int .u32 xt, .int .u32 xr, .slice ax n cx] 41)) := (Below.refl _ w).alloc (Nat.le_refl _) _
  have hW1 := hW.below hb1
  have hG1 := alloc_new w #[.int .u16 xo, .int .u32 xt, .int .u32 xr, .slice ax n cx] 41
  have hK1 := KeepW.of_below hb1 (Nat.le_of_lt hBl)
  have hO := fun zs c n has wr wx (h : Wrt wx B xo f b zs c) h2 h3 => ownIdW_any B xo f b zs c n has wr wx h h2 h3
  have HE : Hid (faultI f (xo, xt, xr, xl) b = if idE f.2.1 xt b 40 ≠ 0 then idE f.2.1 xt b 40 else if idE f.2.2.1 xr b 41 ≠ 0 then idE f.2.2.1 xr b 41 else if wrongL f b 0 xl ≠ 0 then wrongL f b 0 xl else if wholeN f xl.length = false then 42 else if 65535 < 1 + (rawL f (xo, xt, xr, xl)).length then 25 else 0) := rfl
  generalize hfe : faultI f (xo, xt, xr, xl) b = fe at HE ⊢
  clear hfe
  have iw := ids_words f xt xr
  go_enter Tryz.func104, Tryz.ntmps104
  go_wp2_with fail
  generalize w.alloc (.cells #[.int .u16 xo, .int .u32 xt, .int .u32 xr, .slice ax n cx] 41) = W at *
  have hO1 := hO [] 1 xt f.2.1 40 W.drew (hW1.below (below_drew W)) (by omega) (by omega)
  have c1 := hW1.cells.2.1
  have c2 := (four_cells hG1).2.1
  generalize hr1 : idE f.2.1 xt b 40 = r1 at *
  go_region_held2 (fun wx => wx.cell? ⟨B, 2, none⟩ = some (.bool f.2.1) ∧ wx.cell? ⟨w.heap.size, 1, none⟩ = some (.int .u32 xt))
    (first | exact ⟨c1, c2⟩ | assumption)
    (first | (go_at_call 128; refine hO1.mono ?_; rintro e w2 ⟨rfl, hk2, hy2, hn2⟩; have hS : w2.cell? ⟨B, 2, none⟩ = some (.bool f.2.1) ∧ w2.cell? ⟨w.heap.size, 1, none⟩ = some (.int .u32 xt) := ⟨(by by_cases h : r1 = 0; exact (hy2 h).cells.2.1; exact (hn2 h).cells.2.1), (four_cells (hk2.keep _ _ _ _ hG1 (by omega) (by decide))).2.1⟩))
  clear hO1 c1 c2
  have hK2 : KeepW B w w2 := hK1.trans ((KeepW.of_below (below_drew W) (by have := hb1.size; omega)).trans hk2)
  have hG2 := hk2.keep _ _ _ _ hG1 (by omega) (by decide)
  clear hk2 hG1 hW1 hK1
  by_cases z1 : r1 = 0
  · subst z1
    have hW2 := hy2 rfl
    clear hy2 hn2 hS
    go_wp2
    have hO2 := hO (hasL f.2.1 1 [] xt) (hasC f.2.1 1) xr f.2.2.1 41 w2.drew (hW2.below (below_drew w2)) (by unfold hasC; split <;> omega) (by omega)
    rw [iw.1, iw.2] at hO2
    have c1 := hW2.cells.2.2.1
    have c2 := (four_cells hG2).2.2.1
    generalize hr2 : idE f.2.2.1 xr b 41 = r2 at *
    go_region_held2 (fun wx => wx.cell? ⟨B, 3, none⟩ = some (.bool f.2.2.1) ∧ wx.cell? ⟨w.heap.size, 2, none⟩ = some (.int .u32 xr))
      (first | exact ⟨c1, c2⟩ | assumption)
      (first | (go_at_call 128; refine hO2.mono ?_; rintro e w3 ⟨rfl, hk3, hy3, hn3⟩; have hS : w3.cell? ⟨B, 3, none⟩ = some (.bool f.2.2.1) ∧ w3.cell? ⟨w.heap.size, 2, none⟩ = some (.int .u32 xr) := ⟨(by by_cases h : r2 = 0; exact (hy3 h).cells.2.2.1; exact (hn3 h).cells.2.2.1), (four_cells (hk3.keep _ _ _ _ hG2 (by omega) (by decide))).2.2.1⟩))
    clear hO2 c1 c2
    have hK3 : KeepW B w w3 := hK2.trans ((KeepW.of_below (below_drew w2) (by have := hK2.below.size; omega)).trans hk3)
    have hG3 := hk3.keep _ _ _ _ hG2 (by omega) (by decide)
    clear hk3 hG2 hW2 hK2
    by_cases z2 : r2 = 0
    · subst z2
      have hW3 := hy3 rfl
      clear hy3 hn3 hS
      have c3 := (four_cells hG3).2.2.2
      have hK3w := hK3
      go_wp2
      have HF : Hid (lookF refT xo = (f, true)) := hf
      have HL : Hid (xl.length = n) := hl
      have hLt := fun (k : Nat) (hk : k < 140737488351232) w => grammarLetter_any xo k w (by omega)
      rw [hf] at hLt
      have hsh := look_noText xo
      rw [hf] at hsh
      obtain ⟨hnt, hsf⟩ := hsh
      have hfx : f.2.2.2.1.size ≤ 1000 := by simp [shortF] at hsf; omega
      have hc0 : ((headW f xt xr).length : Int) ≤ 2 := by
        unfold headW
        cases f.2.1 <;> cases f.2.2.1 <;> simp
      have hn47 : n < 140737488351232 := by omega
      have hWh := fun wx (h : ArgsV wx ax xl) (h0 : wx.cell? ⟨B, 0, none⟩ = some (.int .u16 xo)) (hB : B < wx.heap.size) => formWhole_any B xo ax n cx xl wx hB h0 h hl (by omega)
      rw [hf] at hWh
      have hfeW : ∀ v, v ≠ 0 → wrongL f b 0 xl = v → fe = v := fun v hv h => by rw [HE.out, h]; simp [hv]
      have hfeH : wrongL f b 0 xl = 0 → wholeN f xl.length = false → fe = 42 := fun h h2 => by rw [HE.out, h, h2]; simp
      have hfeC : wrongL f b 0 xl = 0 → wholeN f xl.length = true → fe = if 65535 < 1 + (rawL f (xo, xt, xr, xl)).length then 25 else 0 := fun h h2 => by rw [HE.out, h, h2]; simp
      clear HE hf hl hsf hO
      go_loopw [41] (fun i wr => ∃ (k : Nat) (zs : List Int) (c : Int), k ≤ n ∧ i = .int .i64 k ∧ Wrt wr B xo f b zs c ∧ KeepW B w wr ∧ wr.heap[w.heap.size]? = some (.cells #[.int .u16 xo, .int .u32 xt, .int .u32 xr, .slice ax n cx] 41 (0, 0)) ∧ (∀ j, j < k → wrongA (letterI f (j : Int)) (nthA xl j) b = 0) ∧
          c = 1 + (headW f xt xr).length + (wordsL (xl.take k)).length ∧ (c ≤ 65535 → zs = headW f xt xr ++ wordsL (xl.take k)) ∧ c ≤ 3 + k + ((min k 1000 : Nat) : Int) * 140737488351233) (fun i _ => n - (intOf i).toNat)
      case atStart => exact ⟨0, _, _, Nat.zero_le _, rfl, hW3, hK3w, hG3, fun j hj => by omega, by simp [wordsL], fun _ => by simp [wordsL], by simp; omega⟩
      case round =>
        obtain ⟨k, zs, c, hk, rfl, hWr, hKr, hGr, hall, hce, hzs, hcb⟩ := hrel
        clear hW3 hK3 hK3w hG3 c3
        have HALL : Hid (∀ j, j < k → wrongA (letterI f (j : Int)) (nthA xl j) b = 0) := hall
        have HCE : Hid (c = 1 + (headW f xt xr).length + (wordsL (xl.take k)).length) := hce
        have HZS : Hid (c ≤ 65535 → zs = headW f xt xr ++ wordsL (xl.take k)) := hzs
        clear hall hce hzs
        have hBr := hWr.lt
        have hszr := hKr.below.size
        have hA := hv.below hKr.below
        by_cases hlt : k < n
        · have hkl : k < xl.length := by rw [HL.out]; exact hlt
          obtain ⟨b1, o1, rfl, hb1l, p1, p2, p3⟩ := hA k hkl
          have hax := hal k hkl
          have hL := hLt k (by omega)
          have hMs := fun w => mayStand_any (letterI f (k : Int)) (nthA xl k) w
          have hPW := fun wx (h : Wrt wx B xo f b zs c) => putWord_any B xo f b zs c (letterI f (k : Int)) (nthA xl k) wx h (by omega)
          have hPN := fun wx (h : Wrt wx B xo f b zs c) j hj h0 => putText_nul B xo f b zs c (letterI f (k : Int)) (nthA xl k) wx h j hj h0
          have hPT := fun wx (h : Wrt wx B xo f b zs c) (hnn : NoNul (nthA xl k).2.2) (h2 : (nthA xl k).2.2.size ≤ 140737488351232) => putText_ok B xo f b zs c (letterI f (k : Int)) (nthA xl k) wx h hnn h2 (by omega)
          have hPu := fun w => putter_any B (nthA xl k).1 w
          unfold argV at hMs hPW hPN hPT
          have hki : (k : Int) < (n : Int) := by omega
          have hk0 : (0 : Int) ≤ (k : Int) := by omega
          have w0 := hWr.cells.1
          have hwr : ∀ v, v ≠ 0 → wrongA (letterI f (k : Int)) (nthA xl k) b = v → fe = v := fun v hv0 h => hfeW v hv0 (by
            rw [wrongL_first (k := 0) (j := k) hkl (fun i hi => by rw [Nat.zero_add]; exact HALL.out i hi) (by rw [Nat.zero_add, h]; exact hv0), Nat.zero_add, h])
          have hnext : wrongA (letterI f (k : Int)) (nthA xl k) b = 0 → ∀ j, j < k + 1 → wrongA (letterI f (j : Int)) (nthA xl j) b = 0 := fun h j hj => by
            by_cases hjk : j < k
            · exact HALL.out j hjk
            · obtain rfl : j = k := by omega
              exact h
          have htk := wordsL_take xl k hkl
          have hkind : kindI (letterI f (k : Int)) = 3 → k < 1000 := fun h => Nat.lt_of_lt_of_le (text_fixed hnt h) hfx
          have HN : Hid (∀ v, v ≠ 0 → wrongA (letterI f (k : Int)) (nthA xl k) b = v → fe = v) := hwr
          have HX : Hid (wrongA (letterI f (k : Int)) (nthA xl k) b = 0 → ∀ j, j < k + 1 → wrongA (letterI f (j : Int)) (nthA xl j) b = 0) := hnext
          have HT : Hid (wordsL (xl.take (k + 1)) = wordsL (xl.take k) ++ wordsA (nthA xl k)) := htk
          have HKD : Hid (kindI (letterI f (k : Int)) = 3 → k < 1000) := hkind
          clear hwr hnext htk hkind hA hWh hfeW hfeH hfeC hLt hnt hfx
          generalize nthA xl k = z at *
          obtain ⟨z1, z2, z3⟩ := z
          generalize letterI f (k : Int) = cc at *
          simp only at *
          go_wp2_with fail
          have hb4 : Below wr.heap.size wr (wr.alloc (.cells #[.int .u8 z1, .int .u32 z2, .string z3] 81)) := (Below.refl _ wr).alloc (Nat.le_refl _) _
          have kA := alloc_new wr #[.int .u8 z1, .int .u32 z2, .string z3] 81
          have hl4 : wr.heap.size < (wr.alloc (.cells #[.int .u8 z1, .int .u32 z2, .string z3] 81)).heap.size := by simp
          generalize wr.alloc (.cells #[.int .u8 z1, .int .u32 z2, .string z3] 81) = W4 at *
          refine (hL _).mono ?_
          rintro e w5 ⟨rfl, hb5⟩
          have kA5 := (hb5.block _ hl4).trans kA
          have s5 := hb5.size
          obtain ⟨hc5, _⟩ := one_block kA5
          have a0 := hc5 0
          have a1 := hc5 1
          have a2 := hc5 2
          clear hc5 hL
          go_wp2_with fail
          refine (hMs _).mono ?_
          rintro e w6 ⟨rfl, hb6⟩
          have s6 := hb6.size
          have kA6 := (hb6.block _ (by omega)).trans kA5
          have hb46 := hb4.trans ((hb5.trans (hb6.mono s5)).mono (by omega))
          have hW6 := hWr.below hb46
          have hG6 := (hb46.block _ (Array.getElem?_eq_some_iff.1 hGr).1).trans hGr
          have hK6 := hKr.trans (KeepW.of_below hb46 (by omega))
          obtain ⟨hc6, _⟩ := one_block kA6
          have d0 := hc6 0
          have d1 := hc6 1
          have d2 := hc6 2
          have HG6 : Hid (w6.heap[w.heap.size]? = some (.cells #[.int .u16 xo, .int .u32 xt, .int .u32 xr, .slice (some ⟨b1, o1, none⟩) n cx] 41 (0, 0))) := hG6
          have HK6 : Hid (KeepW B w w6) := hK6
          have HW6 : Hid (Wrt w6 B xo f b zs c) := hW6
          clear hc6 a0 a1 a2 kA5 kA6 kA hb4 hb5 hb6 hMs hb46 hG6 hK6 hW6 hGr hWr hKr p1 p2 p3 hl4 s5 s6
          cases hms : mayStandB cc (z1, z2, z3)
          · have e1 : fe = 42 := HN.out 42 (by decide) (by rw [wrongA, if_pos hms])
            subst e1
            clear d0 d1 d2
            go_wp2
            go_ret
            exact ⟨rfl, HK6.out, fun h => by cases h⟩
          · have HMS : Hid (wrongA cc (z1, z2, z3) b = if z1 = 3 then (if nulS z3 then 13 else 0) else faultW cc z2 b) := by
              show _ = _
              rw [wrongA, hms]; simp
            have HKC : Hid (z1 = kindI cc) := by
              unfold mayStandB at hms
              simp only [Bool.and_eq_true] at hms
              exact eq_of_beq hms.1.2
            clear hms
            go_wp2_with fail
            refine (hPu _).mono ?_
            rintro e w7 ⟨rfl, rfl⟩
            by_cases k3 : z1 = 3
            · subst k3
              rw [if_pos rfl]
              cases hnu : nulS z3
              · have e0 : wrongA cc (3, z2, z3) b = 0 := by rw [HMS.out, hnu]; simp
                have hP := hPT w6 HW6.out (nulS_false.1 hnu) hax.2.2.2.2
                have hrm : z3.size ≤ 140737488351232 := hax.2.2.2.2
                have hk1 := HKD.out HKC.out.symm
                have hlw : (wordsA (3, z2, z3)).length = z3.size / 4 + 1 := by rw [wordsA_len]; simp
                have hww : wordsA (3, z2, z3) = textW z3 := by rw [wordsA]; simp
                obtain ⟨m, hm⟩ : ∃ m, m = z3.size / 4 + 1 := ⟨_, rfl⟩
                rw [← hm] at hP hlw
                have hmb : m ≤ 140737488351232 := by omega
                clear hm
                go_wp2_with fail
                refine hP.mono ?_
                rintro e w8 ⟨rfl, hk8, hW8⟩
                clear hP hPW hPN hPT hPu d0 d1 d2
                go_wp2
                go_roundw
                case rel =>
                  refine ⟨k + 1, _, _, by omega, by go_num, hW8, HK6.out.trans hk8, hk8.keep _ _ _ _ HG6.out (by omega) (by decide), HX.out e0, ?_, fun h => ?_, ?_⟩
                  · rw [HT.out, List.length_append, hlw, HCE.out]; push_cast; omega
                  · rw [putL, if_pos h, HZS.out (by omega), HT.out, hww, List.append_assoc]
                  · push_cast; omega
                case measure => simp [intOf]; omega
              · have e1 : fe = 13 := HN.out 13 (by decide) (by rw [HMS.out, hnu]; simp)
                subst e1
                obtain ⟨j, hj, h0⟩ := nulS_true hnu
                have hP := hPN w6 HW6.out j hj h0
                go_wp2_with fail
                refine hP.mono ?_
                rintro e w8 ⟨rfl, hk8⟩
                clear hP hPW hPN hPT hPu d0 d1 d2
                go_wp2
                go_ret
                exact ⟨rfl, HK6.out.trans hk8, fun h => by cases h⟩
            · rw [if_neg k3]
              have hP := hPW w6 HW6.out
              have HMS2 : Hid (wrongA cc (z1, z2, z3) b = faultW cc z2 b) := by show _ = _; rw [HMS.out, if_neg k3]
              have hww : wordsA (z1, z2, z3) = [z2] := by rw [wordsA]; simp [k3]
              generalize faultW cc z2 b = r at *
              go_wp2_with fail
              refine hP.mono ?_
              rintro e w8 ⟨rfl, hk8, hy8, _⟩
              clear hP hPW hPN hPT hPu d0 d1 d2
              by_cases hr0 : r = 0
              · subst hr0
                have hW8 := hy8 rfl
                go_wp2
                go_roundw
                case rel =>
                  refine ⟨k + 1, _, _, by omega, by go_num, hW8, HK6.out.trans hk8, hk8.keep _ _ _ _ HG6.out (by omega) (by decide), HX.out HMS2.out, ?_, fun h => ?_, ?_⟩
                  · rw [HT.out, List.length_append, hww, HCE.out]; simp; omega
                  · rw [putL, if_pos h, HZS.out (by omega), HT.out, hww, List.append_assoc]
                  · push_cast; omega
                case measure => simp [intOf]; omega
              · have e1 : fe = r := HN.out r hr0 HMS2.out
                subst e1
                go_wp2
                go_ret
                exact ⟨rfl, HK6.out.trans hk8, fun h => absurd h hr0⟩
        · obtain rfl : k = n := by omega
          have hwl : wrongL f b 0 xl = 0 := wrongL_none fun i hi => by rw [Nat.zero_add]; exact HALL.out i (by rw [← HL.out]; exact hi)
          have hfw := fits_whole (f := f) (l := xl) (fun i hi => wrongA_kind (HALL.out i (by rw [← HL.out]; exact hi)))
          have htk : xl.take k = xl := List.take_of_length_le (by rw [HL.out]; exact Nat.le_refl _)
          have hcR : c = ((1 + (rawL f (xo, xt, xr, xl)).length : Nat) : Int) := by rw [HCE.out, htk, rawL, List.length_append]; push_cast; omega
          have hzR : c ≤ 65535 → zs = rawL f (xo, xt, xr, xl) := fun h => by rw [HZS.out h, htk]; rfl
          have hfC := hfeC hwl
          have hfH := hfeH hwl
          have c3 := (four_cells hGr).2.2.2
          have c10 := hWr.cells.2.2.2
          have hw0 := hWr.cells.1
          have HGR : Hid _ := hGr
          have HKR : Hid (KeepW B w wr) := hKr
          have HWR : Hid (Wrt wr B xo f b zs c) := hWr
          have hV := hA.view (by omega)
          clear hv hA hGr hKr hWr hfeC hfeH hfeW hLt HALL HCE HZS hwl htk
          go_wp2
          have a3 := fun s : InC (Below wr.heap.size wr) => s.cell (p := ⟨w.heap.size, 3, none⟩) (Array.getElem?_eq_some_iff.1 HGR.out).1 c3
          have hF := fun s : InC (Below wr.heap.size wr) => Calls.inC s (hWh s.w (hV.below s.ok) (s.cell (p := ⟨B, 0, none⟩) hBr hw0) (by have := s.ok.size; omega))
          rw [hfw] at hF
          clear hWh hfw
          cases hwh : wholeN f xl.length
          · have e1 : fe = 42 := hfH hwh
            subst e1
            rw [hwh] at hF
            refine wp_region_class (C := Below wr.heap.size wr) (by kernel_rfl) (by kernel_rfl) (below_drew wr) ?_
            have hne : Nonempty (InC (Below wr.heap.size wr)) := ⟨⟨wr, Below.refl _ _⟩⟩
            repeat (go_big_quiet_step ((go_at_call 131; exact hF _)))
            refine wpQuiet_nil ?_
            rintro _ ⟨s, rfl⟩
            have hfin := HKR.out.trans (KeepW.of_below s.ok (by omega))
            clear hne hF a3
            go_wp2
            go_ret
            first | exact ⟨rfl, hfin, fun h => by cases h⟩ | exact ⟨rfl, hfin⟩
          · rw [hwh] at hF
            have hfe := hfC hwh
            refine wp_region_class (C := Below wr.heap.size wr) (by kernel_rfl) (by kernel_rfl) (below_drew wr) ?_
            have hne : Nonempty (InC (Below wr.heap.size wr)) := ⟨⟨wr, Below.refl _ _⟩⟩
            repeat (go_big_quiet_step ((go_at_call 131; exact hF _)))
            refine wpQuiet_nil ?_
            rintro _ ⟨s, rfl⟩
            have hfin := HKR.out.trans (KeepW.of_below s.ok (by omega))
            have hW9 := HWR.out.below s.ok
            have k10 := s.cell (p := ⟨B, 10, none⟩) hBr c10
            clear hne hF a3 c10 c3
            by_cases hlg : (65535 : Int) < c
            · have e1 : fe = 25 := by rw [hfe, if_pos (by omega)]
              clear hfe hcR hfC hfH hzR
              subst e1
              go_wp2
              go_ret
              first | exact ⟨rfl, hfin, fun h => by cases h⟩ | exact ⟨rfl, hfin⟩
            · have e1 : fe = 0 := by rw [hfe, if_neg (by omega)]
              have HZR : Hid (zs = rawL f (xo, xt, xr, xl)) := hzR (by omega)
              clear hfe hcR hfC hfH hzR
              subst e1
              go_wp2
              go_ret
              have hW10 : Wrt s.w B xo f b (rawL f (xo, xt, xr, xl)) c := by rw [← HZR.out]; exact hW9
              first | exact ⟨rfl, hfin, fun _ => ⟨c, hW10⟩⟩ | exact ⟨rfl, hfin, ⟨c, hW10⟩⟩
    · have e1 : fe = r2 := by rw [HE.out]; simp [z2]
      subst e1
      go_wp2
      go_ret
      exact ⟨rfl, hK3, fun h => absurd h z2⟩
  · have e1 : fe = r1 := by rw [HE.out]; simp [z1]
    subst e1
    go_wp2
    go_ret
    exact ⟨rfl, hK2, fun h => absurd h z1⟩

end Go.Proofs.YtmobologlaeefaaGreat

/-
  What Raw of the package code answers, for every instruction and bound.
-/
namespace Go.Proofs.YtmobologlaeefaaGreat
open Go.RowKit
set_option linter.unusedVariables false
set_option linter.unusedSimpArgs false
set_option maxRecDepth 10000

/-- The operation that Raw answers. -/
def rawO (x : InstT) (b : Int) : Int := if rawE x b = 0 then x.1 else 0

theorem two_put2 {w : World} {B T : Nat} {z0 z1 : Value} (h : w.heap[B]? = some (.cells #[z0, z1] T (0, 0))) (u0 u1 : Value) :
    ((w.setCell ⟨B, 0, none⟩ u0).setCell ⟨B, 1, none⟩ u1).heap[B]? = some (.cells #[u0, u1] T (0, 0)) := by
  simp only [World.setCell, Array.getElem?_modify, h]; simp
theorem two_below (w : World) (B : Nat) (u0 u1 : Value) : Below B w ((w.setCell ⟨B, 0, none⟩ u0).setCell ⟨B, 1, none⟩ u1) :=
  ((Below.refl B w).setCell (Nat.le_refl _) _).setCell (Nat.le_refl _) _

theorem own_lo {w : World} {lo lo' e size n : Nat} {v : Value} {xs : List Value} (h : w.ownsRow lo e size v n xs) (hl : lo' ≤ lo) : w.ownsRow lo' e size v n xs := by
  refine ⟨h.1, ?_⟩
  rcases h.2 with hn | ⟨g, cap, cur, e1, hb, rest⟩
  · exact .inl hn
  · exact .inr ⟨g, cap, cur, e1, Nat.le_trans hl hb, rest⟩

set_option maxHeartbeats 2000000 in
theorem raw_any (x : InstT) (b : Int) (ax : Option Addr) (n cx : Nat) (w : World) (hv : ArgsV w ax x.2.2.2) (hok : InstOk x) (hl : x.2.2.2.length = n) :
    Calls Tryz.prog 65 #[instV x ax n cx, .int .u32 b] w fun e w' => Below w.heap.size w w' ∧ ∃ a m c, e = .returned (.tuple #[.agg #[.int .u16 (rawO x b), .slice a m c], .int .i64 (rawE x b)]) ∧ (rawWs x b).length = m ∧
      w'.ownsRow w.heap.size 22 1 (.slice a m c) m ((rawWs x b).map (Value.int .u32)) := by
  have hOf := fun w => of_any x.1 w
  obtain ⟨f, hf⟩ : ∃ f, f = (lookF refT x.1).1 := ⟨_, rfl⟩
  by_cases h0 : (lookF refT x.1).2 = true
  · have hff : lookF refT x.1 = (f, true) := by rw [hf, ← h0]
    have hE : rawE x b = faultI f x b := by rw [rawE, if_pos h0, ← hf]
    have eV : ofV x.1 = formV x.1 f := by unfold ofV; rw [if_pos h0, ← hf]
    rw [hff, eV] at hOf
    have hI := fun (B : Nat) wx (hW : Wrt wx B x.1 f b [] 1) (h : ArgsL wx B ax x.2.2.2) => winst_any B f b x ax n cx wx hW hff hok h hl
    rw [← hE] at hI
    have hRW : rawE x b = 0 → rawWs x b = rawL f x ∧ rawO x b = x.1 := fun h => ⟨by rw [rawWs, if_pos h, ← hf], by rw [rawO, if_pos h]⟩
    have hRN : rawE x b ≠ 0 → rawWs x b = [] ∧ rawO x b = 0 := fun h => ⟨by rw [rawWs, if_neg h], by rw [rawO, if_neg h]⟩
    generalize rawE x b = r at *
    generalize rawWs x b = ws at *
    generalize rawO x b = ro at *
    clear hff hE eV h0 hf hok
    obtain ⟨xo, xt, xr, xl⟩ := x
    unfold instV at hI ⊢
    unfold formV at hOf
    obtain ⟨f1, f2, f3, f4, f5, f6, f7⟩ := f
    simp only at *
    go_enter Tryz.func65, Tryz.ntmps65
    go_wp2_with fail
    have hB0 : Below w.heap.size w ((w.alloc (.cells #[.int .u16 xo, .int .u32 xt, .int .u32 xr, .slice ax n cx] 41)).alloc (.cells #[.int .u16 0, .slice none 0 0] 93)) := ((Below.refl _ w).alloc (Nat.le_refl _) _).alloc (by simp) _
    have kI : ((w.alloc (.cells #[.int .u16 xo, .int .u32 xt, .int .u32 xr, .slice ax n cx] 41)).alloc (.cells #[.int .u16 0, .slice none 0 0] 93)).heap[w.heap.size]? = some (.cells #[.int .u16 xo, .int .u32 xt, .int .u32 xr, .slice ax n cx] 41 (0, 0)) := (Below.heap_alloc _ _ _ (by simp)).trans (alloc_new w _ _)
    have kR : ((w.alloc (.cells #[.int .u16 xo, .int .u32 xt, .int .u32 xr, .slice ax n cx] 41)).alloc (.cells #[.int .u16 0, .slice none 0 0] 93)).heap[w.heap.size + 1]? = some (.cells #[.int .u16 0, .slice none 0 0] 93 (0, 0)) := by simpa using alloc_new (w.alloc (.cells #[.int .u16 xo, .int .u32 xt, .int .u32 xr, .slice ax n cx] 41)) #[.int .u16 0, .slice none 0 0] 93
    generalize (w.alloc (.cells #[.int .u16 xo, .int .u32 xt, .int .u32 xr, .slice ax n cx] 41)).alloc (.cells #[.int .u16 0, .slice none 0 0] 93) = W0 at *
    have l0 := (Array.getElem?_eq_some_iff.1 kR).1
    refine (hOf _).mono ?_
    rintro e w1 ⟨rfl, hb1⟩
    have s1 := hb1.size
    have kI1 := (hb1.block _ (by omega)).trans kI
    have kR1 := (hb1.block _ l0).trans kR
    have hb01 := hB0.trans (hb1.mono (by omega))
    clear hb1 kI kR hB0 hOf
    have hb2 : Below w1.heap.size w1 (w1.alloc (.cells #[.int .u16 xo, .string f1, .bool f2, .bool f3, .string f4, .string f5, .int .i64 f6, .int .u8 f7] 64)) := (Below.refl _ _).alloc (Nat.le_refl _) _
    have kI2 := (hb2.block _ (by omega)).trans kI1
    have kR2 := (hb2.block _ (by omega)).trans kR1
    have hl2 : w1.heap.size < (w1.alloc (.cells #[.int .u16 xo, .string f1, .bool f2, .bool f3, .string f4, .string f5, .int .i64 f6, .int .u8 f7] 64)).heap.size := by simp
    have hb02 := hb01.trans (hb2.mono (by omega))
    have s02 := hb02.size
    have hW3b : Below (w1.heap.size + 1) (w1.alloc (.cells #[.int .u16 xo, .string f1, .bool f2, .bool f3, .string f4, .string f5, .int .i64 f6, .int .u8 f7] 64)) ((w1.alloc (.cells #[.int .u16 xo, .string f1, .bool f2, .bool f3, .string f4, .string f5, .int .i64 f6, .int .u8 f7] 64)).alloc (.cells (wrtC xo (f1, f2, f3, f4, f5, f6, f7) b (.slice none 0 0) 1) 179)) := (Below.refl _ _).alloc (by simp) _
    obtain ⟨i0, i1, i2, i3⟩ := four_cells ((hW3b.block _ (by omega)).trans kI2)
    have kW := alloc_new (w1.alloc (.cells #[.int .u16 xo, .string f1, .bool f2, .bool f3, .string f4, .string f5, .int .i64 f6, .int .u8 f7] 64)) (wrtC xo (f1, f2, f3, f4, f5, f6, f7) b (.slice none 0 0) 1) 179
    rw [World.size_alloc] at kW
    have kI3 := (hW3b.block _ (by omega)).trans kI2
    have kR3 := (hW3b.block _ (by omega)).trans kR2
    have hb03 := hb02.trans (hW3b.mono (by omega))
    have hlW : w1.heap.size + 1 < ((w1.alloc (.cells #[.int .u16 xo, .string f1, .bool f2, .bool f3, .string f4, .string f5, .int .i64 f6, .int .u8 f7] 64)).alloc (.cells (wrtC xo (f1, f2, f3, f4, f5, f6, f7) b (.slice none 0 0) 1) 179)).heap.size := by simp
    have hWr : Wrt ((w1.alloc (.cells #[.int .u16 xo, .string f1, .bool f2, .bool f3, .string f4, .string f5, .int .i64 f6, .int .u8 f7] 64)).alloc (.cells (wrtC xo (f1, f2, f3, f4, f5, f6, f7) b (.slice none 0 0) 1) 179)) (w1.heap.size + 1) xo (f1, f2, f3, f4, f5, f6, f7) b [] 1 := ⟨⟨_, kW, World.ownsRow_nil _ _ _ _⟩, by simp, by simp⟩
    have hAr := ((ArgsL.of hv).below hb03).mono (show w.heap.size ≤ w1.heap.size + 1 by omega)
    have hC := hI (w1.heap.size + 1) _ hWr hAr
    clear hWr hAr hI kW kI2 kR2 hb02 hW3b hb2 kI1 kR1 hb01 hv
    unfold wrtC at *
    simp only at *
    go_wp2_with fail
    generalize (w1.alloc (.cells #[.int .u16 xo, .string f1, .bool f2, .bool f3, .string f4, .string f5, .int .i64 f6, .int .u8 f7] 64)).alloc (.cells #[.int .u16 xo, .string f1, .bool f2, .bool f3, .string f4, .string f5, .int .i64 f6, .int .u8 f7, .int .u32 b, .slice none 0 0, .int .i64 1] 179) = W3 at *
    refine hC.mono ?_
    rintro e w4 ⟨rfl, hk4, hy4⟩
    have kI4 := hk4.keep _ _ _ _ kI3 (by omega) (by decide)
    have kR4 := hk4.keep _ _ _ _ kR3 (by omega) (by decide)
    have hb04 := hb03.trans (hk4.below.mono (by omega))
    obtain ⟨hcR, hfR⟩ := one_block kR4
    have r0 := hcR 0
    have r1 := hcR 1
    obtain ⟨j0, j1, j2, j3⟩ := four_cells kI4
    clear hC kI3 kR3 hb03 i0 i1 i2 i3 kI4 hcR
    by_cases hr : r = 0
    · subst hr
      obtain ⟨c, hW4⟩ := hy4 rfl
      obtain ⟨⟨v, hbx, hown⟩, _⟩ := hW4
      obtain ⟨e1, e2⟩ := hRW rfl
      rw [← e1] at hown
      obtain ⟨a', cap', rfl, _, hwl⟩ := View.ofOwned hown
      have hown' := own_lo hown (show w.heap.size + 2 ≤ w1.heap.size + 1 + 1 by omega)
      obtain ⟨hcW, _⟩ := one_block hbx
      have k9 := hcW 9
      change w4.cell? ⟨w1.heap.size + 1, 9, none⟩ = some (.slice a' ws.length cap') at k9
      have HO : Hid _ := hown
      subst e2
      have HO2 : Hid _ := hown'
      clear hRW hRN e1 hbx hcW hy4 hk4 hown hwl hown' HO
      generalize ws.length = m at *
      go_wp2
      have hB3 := two_put2 kR4 (.int .u16 ro) (.slice a' m cap')
      have hBel := hb04.trans ((two_below w4 (w.heap.size + 1) (.int .u16 ro) (.slice a' m cap')).mono (by omega))
      have hO3 := own_lo (ownFar (ownFar HO2.out (show w.heap.size + 1 < w.heap.size + 2 by omega) 0 (.int .u16 ro)) (show w.heap.size + 1 < w.heap.size + 2 by omega) 1 (.slice a' m cap')) (show w.heap.size ≤ w.heap.size + 2 by omega)
      clear hb04 kR4 r0 r1 hfR k9 HO2 j0 j1 j2 j3
      generalize (w4.setCell _ _).setCell _ _ = W at hB3 hBel hO3 ⊢
      obtain ⟨hd, _⟩ := one_block hB3
      have d0 := hd 0
      have d1 := hd 1
      refine bodyPost_ret (v := .tuple #[.agg #[.int .u16 ro, .slice a' m cap'], .int .i64 0]) ?_ rfl ⟨hBel, a', m, cap', rfl, ?_, hO3⟩
      · simp [results, Tryz.results65, go_sem, d0, d1]
      · have := hO3.1
        simpa using this
    · obtain ⟨e1, e2⟩ := hRN hr
      subst e1 e2
      clear hRW hRN hy4 hk4 j0 j1 j2 j3
      go_wp2
      have hB3 := two_put2 kR4 (.int .u16 0) (.slice none 0 0)
      have hBel := hb04.trans ((two_below w4 (w.heap.size + 1) (.int .u16 0) (.slice none 0 0)).mono (by omega))
      clear hb04 kR4 r0 r1 hfR
      generalize (w4.setCell _ _).setCell _ _ = W at hB3 hBel ⊢
      obtain ⟨hd, _⟩ := one_block hB3
      have d0 := hd 0
      have d1 := hd 1
      refine bodyPost_ret (v := .tuple #[.agg #[.int .u16 0, .slice none 0 0], .int .i64 r]) ?_ rfl ⟨hBel, none, 0, 0, rfl, rfl, World.ownsRow_nil _ _ _ _⟩
      simp [results, Tryz.results65, go_sem, d0, d1]
  · have hE : rawE x b = 30 := by rw [rawE, if_neg h0]
    have hE2 : rawWs x b = [] := by rw [rawWs, hE]; rfl
    have hE3 : rawO x b = 0 := by rw [rawO, hE]; rfl
    rw [hE, hE2, hE3]
    have h0' : (lookF refT x.1).2 = false := by simpa using h0
    have eV : ofV x.1 = formV 0 noFrm := by unfold ofV; rw [if_neg h0]
    rw [h0', eV] at hOf
    unfold formV noFrm at hOf
    clear hE hE2 hE3 h0 h0' eV hf
    obtain ⟨xo, xt, xr, xl⟩ := x
    unfold instV
    simp only at *
    go_enter Tryz.func65, Tryz.ntmps65
    go_wp2_with fail
    have hB0 : Below w.heap.size w ((w.alloc (.cells #[.int .u16 xo, .int .u32 xt, .int .u32 xr, .slice ax n cx] 41)).alloc (.cells #[.int .u16 0, .slice none 0 0] 93)) := ((Below.refl _ w).alloc (Nat.le_refl _) _).alloc (by simp) _
    have kI : ((w.alloc (.cells #[.int .u16 xo, .int .u32 xt, .int .u32 xr, .slice ax n cx] 41)).alloc (.cells #[.int .u16 0, .slice none 0 0] 93)).heap[w.heap.size]? = some (.cells #[.int .u16 xo, .int .u32 xt, .int .u32 xr, .slice ax n cx] 41 (0, 0)) := (Below.heap_alloc _ _ _ (by simp)).trans (alloc_new w _ _)
    have kR : ((w.alloc (.cells #[.int .u16 xo, .int .u32 xt, .int .u32 xr, .slice ax n cx] 41)).alloc (.cells #[.int .u16 0, .slice none 0 0] 93)).heap[w.heap.size + 1]? = some (.cells #[.int .u16 0, .slice none 0 0] 93 (0, 0)) := by simpa using alloc_new (w.alloc (.cells #[.int .u16 xo, .int .u32 xt, .int .u32 xr, .slice ax n cx] 41)) #[.int .u16 0, .slice none 0 0] 93
    generalize (w.alloc (.cells #[.int .u16 xo, .int .u32 xt, .int .u32 xr, .slice ax n cx] 41)).alloc (.cells #[.int .u16 0, .slice none 0 0] 93) = W0 at *
    have l0 := (Array.getElem?_eq_some_iff.1 kR).1
    refine (hOf _).mono ?_
    rintro e w1 ⟨rfl, hb1⟩
    have s1 := hb1.size
    have kI1 := (hb1.block _ (by omega)).trans kI
    have kR1 := (hb1.block _ l0).trans kR
    have hb01 := hB0.trans (hb1.mono (by omega))
    clear hb1 kI kR hB0 hOf
    have hb2 : Below w1.heap.size w1 (w1.alloc (.cells #[.int .u16 0, .string ⟨#[]⟩, .bool false, .bool false, .string ⟨#[]⟩, .string ⟨#[]⟩, .int .i64 0, .int .u8 0] 64)) := (Below.refl _ _).alloc (Nat.le_refl _) _
    have kR2 := (hb2.block _ (by omega)).trans kR1
    obtain ⟨hcR, hfR⟩ := one_block kR2
    have r0 := hcR 0
    have r1 := hcR 1
    have hb02 := hb01.trans (hb2.mono (by omega))
    clear hb2 kI1 kR1 hcR hb01
    go_wp2
    have hB3 := two_put2 kR2 (.int .u16 0) (.slice none 0 0)
    have hBel := hb02.trans ((two_below _ (w.heap.size + 1) (.int .u16 0) (.slice none 0 0)).mono (by omega))
    clear hb02 kR2 r0 r1 hfR
    generalize ((w1.alloc _).setCell _ _).setCell _ _ = W at hB3 hBel ⊢
    obtain ⟨hd, _⟩ := one_block hB3
    have d0 := hd 0
    have d1 := hd 1
    refine bodyPost_ret (v := .tuple #[.agg #[.int .u16 0, .slice none 0 0], .int .i64 30]) ?_ rfl ⟨hBel, none, 0, 0, rfl, rfl, World.ownsRow_nil _ _ _ _⟩
    simp [results, Tryz.results65, go_sem, d0, d1]

end Go.Proofs.YtmobologlaeefaaGreat
