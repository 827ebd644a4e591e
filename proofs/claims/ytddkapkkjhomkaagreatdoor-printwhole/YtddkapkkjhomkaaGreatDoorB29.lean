/-
  Texts laid together in one: AsmAddInst, AsmLineF, AsmAdd, MathO, MathP, StringsCut, LexLines.
-/
import Derived.WalkSpells
import Derived.WalkMore
import Derived.BigRegion
import Derived.Deep.RegionLaw
import Derived.Deep.AppendLies
import Derived.Test.YtddkapkkjhomkaaGreatDoorProg
import Derived.Test.YtddkapkkjhomkaaGreatDoorB28
import Derived.Test.YtddkapkkjhomkaaGreatDoorB25
import Derived.Test.YtddkapkkjhomkaaGreatDoorB26
import Derived.Test.YtddkapkkjhomkaaGreatDoorB18
import Derived.Shelf.RegionOpen
import Derived.OwnWalk
import Derived.Test.YtddkapkkjhomkaaGreatDoorB21
import Derived.RangeFuncNested
import Derived.RangeFuncBound
import Derived.RangeFuncCalls
import Derived.RangeFuncLeaves
import Derived.Shelf.Abstract
import Derived.WalkKit
import Derived.OwnWalkIn
import Derived.TacticsInMore
import Derived.LoopNIn
import Derived.LoopIn
import Derived.Test.YtddkapkkjhomkaaGreatDoorB02
import Derived.Test.YtddkapkkjhomkaaGreatDoorB04
import Derived.Test.YtddkapkkjhomkaaGreatDoorB27
/-
  What the method addInst of a builder returns, of the layer asm.
-/
namespace Go.Proofs.YtddkapkkjhomkaaGreatDoor
open Go.RowKit
set_option linter.unusedVariables false
set_option linter.unusedSimpArgs false
set_option maxRecDepth 10000

theorem Inst7.info : (Tryz.prog.info? 38).map (fun i => (i.zero, i.size, i.bytes)) = some (some (.agg #[.int .u16 0, .int .u32 0, .int .u32 0, .slice none 0 0]), 4, 40) := by kernel_rfl

/-- The instructions so far, each with arguments of its own, from block lo on; the builder lies ahead of them. -/
structure Insts (w : World) (B lo : Nat) (v : Value) (xs : List InstT) : Prop where
  row : ∃ cs, w.ownsRow lo 38 4 v xs.length cs ∧ RowI w lo v.ownBlock xs cs
  lt : B < lo
  le : lo ≤ w.heap.size

/-- What holds behind an instruction that is added. -/
def AddQ (w w' : World) (B lo : Nat) (gen bnd : Int) (v : Value) (wd : Int) (xs : List InstT) (R : LineR) (E : Int) : Prop :=
  (E ≠ 0 ∧ R.2.1 = false ∧ E = R.2.2.1) ∨ (E = 4 ∧ R.2.1 = true ∧ 1048576 < wd + (1 + ((rawWs R.1 bnd).length : Int))) ∨
  (E = 0 ∧ R.2.1 = true ∧ InstOk R.1 ∧ rawE R.1 bnd = 0 ∧ wd + (1 + ((rawWs R.1 bnd).length : Int)) ≤ 1048576 ∧ ∃ v', MBld w' B gen bnd v' (wd + (1 + ((rawWs R.1 bnd).length : Int))) ∧ Insts w' B lo v' (xs ++ [R.1]))

set_option maxHeartbeats 8000000 in
theorem addInst_any (B lo : Nat) (gen bnd : Int) (v : Value) (wd : Int) (xs : List InstT) (a : Option Addr) (n c : Nat) (len : Int) (l : List TokT) (w : World) (h : MBld w B gen bnd v wd) (hi : Insts w B lo v xs) (hw0 : 0 ≤ wd) (hw1 : wd ≤ 1048576) (hx : xs.length ≤ 16777216) (hv : ToksV w a l) (hl : l.length = n) (hn : 32 * n ≤ 140737488351232) (hin : ToksIn l) (hkd : ∀ t ∈ l, t.1 ≠ 0) (h1 : 0 < n) (hfar : ∀ b off, a = some ⟨b, off, none⟩ → b < w.heap.size) :
    Calls Tryz.prog 83 #[.pointer (some ⟨B, 0, none⟩), .agg #[.slice a n c, .int .i64 0, .int .i64 len]] w fun e w' => ∃ E : Int, e = .returned (.int .i64 E) ∧ Two w B v.ownBlock w' ∧ AddQ w w' B lo gen bnd v wd xs (lineP l len bnd) E := by
  obtain ⟨R, hRR⟩ : ∃ R, R = lineP l len bnd := ⟨_, rfl⟩
  rw [← hRR]
  have HRR0 := hide hRR
  clear hRR
  have hba : Below w.heap.size w (w.alloc (.cells #[.slice a n c, .int .i64 0, .int .i64 len] 134)) := (Below.refl _ w).alloc (Nat.le_refl _) _
  have hB := h.lt
  have HB := hide (h.below hba)
  have HV := hide (hv.below hba)
  have HBA := hide hba
  have HI := hide hi
  have HIN := hide hin
  have HKD := hide hkd
  have HFAR := hide hfar
  have r0 : (w.alloc (.cells #[.slice a n c, .int .i64 0, .int .i64 len] 134)).cell? ⟨w.heap.size, 0, none⟩ = some (.slice a n c) := (blk_cells (heap_alloc_new w _)).1 0
  have r1 : (w.alloc (.cells #[.slice a n c, .int .i64 0, .int .i64 len] 134)).cell? ⟨w.heap.size, 1, none⟩ = some (.int .i64 0) := (blk_cells (heap_alloc_new w _)).1 1
  have r2 : (w.alloc (.cells #[.slice a n c, .int .i64 0, .int .i64 len] 134)).cell? ⟨w.heap.size, 2, none⟩ = some (.int .i64 len) := (blk_cells (heap_alloc_new w _)).1 2
  have HR := hide (And.intro r0 (And.intro r1 r2))
  have b1 : (w.alloc (.cells #[.slice a n c, .int .i64 0, .int .i64 len] 134)).cell? ⟨B, 1, none⟩ = some (.int .u32 bnd) := (blk_cells HB.out).1 1
  have HB1 := hide b1
  have HSZ : Hid (w.heap.size < (w.alloc (.cells #[.slice a n c, .int .i64 0, .int .i64 len] 134)).heap.size) := by show _ < _; simp
  clear hba h hv hin hkd hfar hi r0 r1 r2 b1
  go_enter Tryz.func83, Tryz.ntmps83
  go_wp2_with fail
  generalize w.alloc (.cells #[.slice a n c, .int .i64 0, .int .i64 len] 134) = W at *
  obtain ⟨r0, r1, r2⟩ := HR.out
  have b1 := HB1.out
  have lB : B < W.heap.size := HB.out.lt
  have lw := HSZ.out
  go_region
  have hba2 : Below W.heap.size W (W.alloc (.cells #[.slice a n c, .int .i64 0, .int .i64 len, .int .u32 bnd, .int .u16 0, .string ⟨#[]⟩, .bool false, .bool false, .string ⟨#[]⟩, .string ⟨#[]⟩, .int .i64 0, .int .u8 0, .int .u16 0, .int .u32 0, .int .u32 0, .slice none 0 0, .int .i64 0] 197)).drew := ((Below.refl _ W).alloc (Nat.le_refl _) _).drew
  have hrd : Rea (W.alloc (.cells #[.slice a n c, .int .i64 0, .int .i64 len, .int .u32 bnd, .int .u16 0, .string ⟨#[]⟩, .bool false, .bool false, .string ⟨#[]⟩, .string ⟨#[]⟩, .int .i64 0, .int .u8 0, .int .u16 0, .int .u32 0, .int .u32 0, .slice none 0 0, .int .i64 0] 197)).drew W.heap.size a n c 0 len bnd 0 noFrm 0 0 0 (.slice none 0 0) 0 := Rea.mk (heap_alloc_new W _)
  have hC := read_any W.heap.size a n c len bnd l _ hrd (HV.out.below hba2) hl hn HIN.out HKD.out h1 (fun g off e => by have := HFAR.out g off e; omega)
  have HB2 := hide (HB.out.below hba2)
  have HBA2 := hide (HBA.out.trans (hba2.mono HBA.out.size))
  have HSZ2 : Hid (W.heap.size < (W.alloc (.cells #[.slice a n c, .int .i64 0, .int .i64 len, .int .u32 bnd, .int .u16 0, .string ⟨#[]⟩, .bool false, .bool false, .string ⟨#[]⟩, .string ⟨#[]⟩, .int .i64 0, .int .u8 0, .int .u16 0, .int .u32 0, .int .u32 0, .slice none 0 0, .int .i64 0] 197)).drew.heap.size) := by show _ < (W.alloc _).heap.size; simp
  clear r0 r1 r2 b1 hba2 hrd HB HBA HB1 HR HV
  go_wp2_with fail
  generalize (W.alloc (.cells #[.slice a n c, .int .i64 0, .int .i64 len, .int .u32 bnd, .int .u16 0, .string ⟨#[]⟩, .bool false, .bool false, .string ⟨#[]⟩, .string ⟨#[]⟩, .int .i64 0, .int .u8 0, .int .u16 0, .int .u32 0, .int .u32 0, .slice none 0 0, .int .i64 0] 197)).drew = W2 at *
  refine hC.mono ?_
  rintro x w3 ⟨E, P, rfl, hg3, hq3⟩
  have s2 := HSZ2.out
  have s3 := hg3.size
  have hb3 : Below w.heap.size w w3 := ⟨hg3.os.trans HBA2.out.os, hg3.tape.trans HBA2.out.tape, hg3.output.trans HBA2.out.output, Nat.le_trans HBA2.out.size hg3.size, fun j hj => (hg3.block j (by omega) (by simp; omega)).trans (HBA2.out.block j hj)⟩
  have hB3 : MBld w3 B gen bnd v wd := (hg3.block B (by omega) (by simp; omega)).trans HB2.out
  have hba3 : Below w3.heap.size w3 (w3.alloc (.cells #[.int .i64 E, .int .i64 P] 28)) := (Below.refl _ _).alloc (Nat.le_refl _) _
  have HB3 := hide hb3
  have HBD3 := hide hB3
  rw [← HRR0.out] at hq3
  rcases hq3 with ⟨hE, hR⟩ | ⟨hE, hP, o, t, r, ys, ax, m, cx, k, q1, q2, q3, q4, q5, q6⟩
  · have hE' : (E != 0) = true := by simpa using hE
    have HE := hide hE
    have HRR := hide hR
    clear hE hR hg3 hb3 hB3 hba3 hC HI HIN HKD HFAR
    go_wp2_with fail
    refine bodyPost_ret (v := .int .i64 E) ?_ rfl ⟨E, rfl, Two.of_below (HB3.out.trans (((Below.refl _ w3).alloc (Nat.le_refl _) _).mono HB3.out.size)), .inl ⟨HE.out, by rw [HRR.out]; rfl, by rw [HRR.out]; rfl⟩⟩
    simp [results, Tryz.results83, go_sem]
  · subst hE
    subst hP
    have HQ1 := hide q1
    generalize hrl : 1 + ((rawWs ((o : Int), t, r, ys) bnd).length : Int) = rl at *
    have hrl1 : 1 ≤ rl ∧ rl ≤ 65536 := by have := rawWs_len ((o : Int), t, r, ys) bnd; omega
    have HRL := hide hrl
    have q2a := q2.below hba3
    have hB3a := hB3.below hba3
    have q3a := own_below q3 hba3
    have hb3a := hb3.trans (hba3.mono hb3.size)
    obtain ⟨cr, _⟩ := blk_cells q2a.block
    obtain ⟨cb, fb⟩ := blk_cells hB3a
    have z12 : (w3.alloc (.cells #[.int .i64 0, .int .i64 0] 28)).cell? ⟨W.heap.size, 12, none⟩ = some (.int .u16 (o : Int)) := cr 12
    have z13 : (w3.alloc (.cells #[.int .i64 0, .int .i64 0] 28)).cell? ⟨W.heap.size, 13, none⟩ = some (.int .u32 t) := cr 13
    have z14 : (w3.alloc (.cells #[.int .i64 0, .int .i64 0] 28)).cell? ⟨W.heap.size, 14, none⟩ = some (.int .u32 r) := cr 14
    have z15 : (w3.alloc (.cells #[.int .i64 0, .int .i64 0] 28)).cell? ⟨W.heap.size, 15, none⟩ = some (.slice ax m cx) := cr 15
    have z16 : (w3.alloc (.cells #[.int .i64 0, .int .i64 0] 28)).cell? ⟨W.heap.size, 16, none⟩ = some (.int .i64 rl) := cr 16
    have y2 : (w3.alloc (.cells #[.int .i64 0, .int .i64 0] 28)).cell? ⟨B, 2, none⟩ = some v := cb 2
    have y3 : (w3.alloc (.cells #[.int .i64 0, .int .i64 0] 28)).cell? ⟨B, 3, none⟩ = some (.int .i64 wd) := cb 3
    have HZ := hide (And.intro z12 (And.intro z13 (And.intro z14 (And.intro z15 (And.intro z16 (And.intro y2 (And.intro y3 fb)))))))
    have HO3 := hide q3a
    have HREA := hide q2a.block
    have HB4 := hide hB3a
    have HBB := hide hb3a
    have HQ := hide (And.intro q4 (And.intro q5 q6))
    have HSP := hide (And.intro ((blk_cells (heap_alloc_new w3 (.cells #[.int .i64 0, .int .i64 0] 28))).1 0) ((blk_cells (heap_alloc_new w3 (.cells #[.int .i64 0, .int .i64 0] 28))).1 1))
    have HSW : Hid (w3.heap.size < (w3.alloc (.cells #[.int .i64 0, .int .i64 0] 28)).heap.size ∧ W.heap.size < w3.heap.size) := ⟨by simp, by omega⟩
    have HSW2 : Hid (W2.heap.size ≤ w3.heap.size) := s3
    have hsum : IntKind.i64.wrap (wd + rl) = wd + rl := by rw [IntKind.wrap_i64]; omega
    clear q1 q2 q3 q4 q5 q6 q2a hB3a q3a hb3a cr cb fb hg3 hb3 hB3 hba3 hC HBD3 HIN HKD HFAR HB2 HBA2 HB3 hrl s3
    go_wp2_with fail
    generalize w3.alloc (.cells #[.int .i64 0, .int .i64 0] 28) = W4 at *
    obtain ⟨z12, z13, z14, z15, z16, y2, y3, fb⟩ := HZ.out
    have nB : W.heap.size ≠ B := by omega
    have nB2 : B ≠ W.heap.size := by omega
    go_region
    all_goals
      have hB5 := HB4.out.setWords (wd + rl)
      have HB5 : Hid (MBld (W4.setCell ⟨B, 3, none⟩ (.int .i64 (wd + rl))).drew B gen bnd v (wd + rl)) := hB5
      have HZ5 : Hid ((W4.setCell ⟨B, 3, none⟩ (.int .i64 (wd + rl))).drew.heap[W.heap.size]? = W4.heap[W.heap.size]?) := Below.heap_setCell _ _ _ _ (by simpa using nB)
      have HW0 : Hid (Below (w.setCell ⟨B, 3, none⟩ (.int .i64 (wd + rl))).heap.size (w.setCell ⟨B, 3, none⟩ (.int .i64 (wd + rl))) (W4.setCell ⟨B, 3, none⟩ (.int .i64 (wd + rl))).drew) := by
        have hb := HBB.out
        refine ⟨hb.os, hb.tape, hb.output, by show _ ≤ (W4.setCell _ _).heap.size; rw [World.size_setCell, World.size_setCell]; exact hb.size, fun k hk => ?_⟩
        rw [World.size_setCell] at hk
        show (W4.setCell _ _).heap[k]? = _
        simp only [World.setCell, Array.getElem?_modify, hb.block k hk]
      have HO5 : Hid ((W4.setCell ⟨B, 3, none⟩ (.int .i64 (wd + rl))).drew.ownsRow (W2.heap.size + 3) 67 3 (.slice ax m cx) m (ys.flatMap argC)) := own_below (ownsRow_setCell_below HO3.out (a := ⟨B, 3, none⟩) (by simp; omega) _) (Below.refl _ _).drew
      have HSZ5 : Hid (W2.heap.size ≤ (W4.setCell ⟨B, 3, none⟩ (.int .i64 (wd + rl))).drew.heap.size ∧ W.heap.size < (W4.setCell ⟨B, 3, none⟩ (.int .i64 (wd + rl))).drew.heap.size) := by
        have : (W4.setCell ⟨B, 3, none⟩ (.int .i64 (wd + rl))).drew.heap.size = W4.heap.size := World.size_setCell _ _ _
        rw [this]
        have := HSW.out
        have := HSW2.out
        exact ⟨by omega, by omega⟩
      clear hB5 z12 z13 z14 z15 z16 y2 y3 fb HZ HB4
      have HZ6 : Hid (W4.heap[W.heap.size]? = some (.cells (rdCells a n c k len bnd (o : Int) (opF o) (o : Int) t r (.slice ax m cx) rl) 197 (0, 0))) := HREA.out
      generalize (W4.setCell ⟨B, 3, none⟩ (.int .i64 (wd + rl))).drew = W5 at *
      have kR := HZ5.out.trans HZ6.out
      obtain ⟨cr, _⟩ := blk_cells kR
      obtain ⟨cb, fb⟩ := blk_cells HB5.out
      have b3 : W5.cell? ⟨B, 3, none⟩ = some (.int .i64 (wd + rl)) := cb 3
      have b2 : W5.cell? ⟨B, 2, none⟩ = some v := cb 2
      have z12 : W5.cell? ⟨W.heap.size, 12, none⟩ = some (.int .u16 (o : Int)) := cr 12
      have z13 : W5.cell? ⟨W.heap.size, 13, none⟩ = some (.int .u32 t) := cr 13
      have z14 : W5.cell? ⟨W.heap.size, 14, none⟩ = some (.int .u32 r) := cr 14
      have z15 : W5.cell? ⟨W.heap.size, 15, none⟩ = some (.slice ax m cx) := cr 15
      have hwe : (w.setCell ⟨B, 3, none⟩ (.int .i64 (wd + rl))).heap.size = w.heap.size := World.size_setCell _ _ _
      have HTW : Hid (∀ k, k < w.heap.size → k ≠ B → W5.heap[k]? = w.heap[k]?) := fun k hk hkB => (HW0.out.block k (by rw [hwe]; exact hk)).trans (Below.heap_setCell _ _ _ _ (by simpa using hkB))
      clear kR cr cb HZ5 HZ6 HREA
      by_cases hbig : 1048576 < wd + rl
      · have hbig' : decide ((1048576 : Int) < wd + rl) = true := by simpa using hbig
        have HBIG := hide hbig
        clear hbig b2 z12 z13 z14 z15 hwe
        go_wp2_with fail
        refine bodyPost_ret (v := .int .i64 4) ?_ rfl ⟨4, rfl, ⟨HW0.out.os, HW0.out.tape, HW0.out.output, by have := HW0.out.size; rw [World.size_setCell] at this; exact this, fun k hk hB _ => HTW.out k hk hB⟩, .inr (.inl ⟨rfl, by rw [HQ1.out], ?_⟩)⟩
        · simp [results, Tryz.results83, go_sem]
        · rw [HQ1.out]; simp only; rw [HRL.out]; exact HBIG.out
      · have hbig' : decide ((1048576 : Int) < wd + rl) = false := by simpa using hbig
        have HBIG := hide hbig
        obtain ⟨cs, hown, hrow⟩ := HI.out.row
        have hloB := HI.out.lt
        have hlow := HI.out.le
        have hown0 := ownsRow_setCell_below hown (a := ⟨B, 3, none⟩) (by simpa using hloB) (.int .i64 (wd + rl))
        have hrow0 := hrow.grown (grown_set (World.grownBy.refl w (some B)) 3 (.int .i64 (wd + rl))) (fun g e => by simp only [Option.some.injEq] at e; subst e; exact .inl hloB)
        have hown5 := own_below hown0 HW0.out
        have hob : ∀ g, v.ownBlock = some g → lo ≤ g ∧ g < w.heap.size := fun g e => hown.lt g e
        obtain ⟨i0, hi, hz0, hz1, hz2⟩ := info_parts Inst7.info
        have hba : Below W5.heap.size W5 (W5.alloc (.cells #[.int .u16 (o : Int), .int .u32 t, .int .u32 r, .slice ax m cx] 38)).drew := ((Below.refl _ W5).alloc (Nat.le_refl _) _).drew
        have hszw : w.heap.size ≤ W5.heap.size := by have := HW0.out.size; rw [hwe] at this; exact this
        have HBA5 := hide hba
        have HROW0 := hide hrow0
        have HOWN5 := hide hown5
        have HOB := hide hob
        have HSX := hide HSZ5.out
        have HSYZ : Hid ((W5.alloc (.cells #[.int .u16 (o : Int), .int .u32 t, .int .u32 r, .slice ax m cx] 38)).drew.heap.size = W5.heap.size + 1) := by show (W5.alloc _).heap.size = _; simp
        have lB5 : B < W5.heap.size := by omega
        have lW5 : W.heap.size < W5.heap.size := HSZ5.out.2
        clear hbig hown hrow hown0 hrow0 hown5 hba HI HSZ5 hob hwe
        go_wp2_with fail
        go_region_law ((refine step_append_lies _ (by rfl) _ _ _ (by rfl) lo 38 i0 (.agg #[.int .u16 0, .int .u32 0, .int .u32 0, .slice none 0 0]) 4 40 Tryz.underlying23 hi hz0 hz1 hz2 rfl (by omega) v xs.length cs (by rfl) ((HOWN5.out.alloc _).drew) ⟨W5.heap.size, 0, none⟩ 1 1 [.int .u16 (o : Int), .int .u32 t, .int .u32 r, .slice ax m cx] (by rfl) (by rfl) (World.news_of_block (cs := #[.int .u16 (o : Int), .int .u32 t, .int .u32 r, .slice ax m cx]) (t := 38) (fr := (0, 0)) (heap_alloc_new W5 _)) (by simp [Value.oneCell']) (by omega) (by unfold maxLen; omega) (by omega) (by simp; omega) (W5.heap.size + 1) (by simp) ?_; intro g6 cap6 w6 hown6 hgrow6 hat6 hlt6; have HB6 : Hid (MBld w6 B gen bnd v (wd + rl)) := (hgrow6.block B (by simp; omega) (fun e => by have := HOB.out B e.symm; omega)).trans ((HBA5.out.block B lB5).trans HB5.out); have d2 : w6.cell? ⟨B, 2, none⟩ = some v := (blk_cells HB6.out).1 2; have e2 : w6.frozen? ⟨B, 2, none⟩ = false := (blk_cells HB6.out).2 2; have HO6 := hide hown6; have HG6 := hide hgrow6; have HA6 := hide hat6; clear hown6 hgrow6 hat6))
        all_goals
          have hpush := RowI.push (w0 := w.setCell ⟨B, 3, none⟩ (.int .i64 (wd + rl))) (x := ((o : Int), t, r, ys)) HROW0.out (HW0.out.trans (HBA5.out.mono HW0.out.size)) (own_mono7 (own_below HO5.out HBA5.out) (B' := (w.setCell ⟨B, 3, none⟩ (.int .i64 (wd + rl))).heap.size) (by rw [World.size_setCell]; have := HSX.out; omega)) HQ.out.1 (fun b e => by rw [World.size_setCell]; exact (HOB.out b e).2) (by rw [World.size_setCell]; exact hlow) HG6.out (by rw [HSYZ.out]; exact HA6.out)
          have HB7 := hide (HB6.out.setInsts (.slice (some ⟨g6, 0, none⟩) (xs.length + 1) cap6))
          have HO7 := hide (ownsRow_setCell_below HO6.out (a := ⟨B, 2, none⟩) (by simpa using hloB) (.slice (some ⟨g6, 0, none⟩) (xs.length + 1) cap6))
          have HR7 := hide (hpush.grown (grown_set (World.grownBy.refl w6 (some B)) 2 (.slice (some ⟨g6, 0, none⟩) (xs.length + 1) cap6)) (fun g e => by simp only [Option.some.injEq] at e; subst e; exact .inl hloB))
          have HT7 : Hid (Two w B v.ownBlock (w6.setCell ⟨B, 2, none⟩ (.slice (some ⟨g6, 0, none⟩) (xs.length + 1) cap6))) := by
            have h0 := HW0.out
            have h5 := HBA5.out
            have h6 := HG6.out
            refine ⟨h6.os.trans (h5.os.trans h0.os), h6.tape.trans (h5.tape.trans h0.tape), h6.output.trans (h5.output.trans h0.output), ?_, fun k hk hB hne => ?_⟩
            · rw [World.size_setCell]; exact Nat.le_trans hszw (Nat.le_trans h5.size h6.size)
            · rw [Below.heap_setCell _ _ _ _ (by simpa using hB)]
              exact (h6.block k (by rw [HSYZ.out]; omega) hne).trans ((h5.block k (by omega)).trans (HTW.out k hk hB))
          have HLE7 : Hid (lo ≤ (w6.setCell ⟨B, 2, none⟩ (.slice (some ⟨g6, 0, none⟩) (xs.length + 1) cap6)).heap.size) := by
            show _ ≤ _
            rw [World.size_setCell]
            have := HG6.out.size
            rw [HSYZ.out] at this
            omega
          clear hpush HB6 HO6 HG6 HA6 d2 e2 b3 b2 z12 z13 z14 z15 HO5 HW0 HBA5 HROW0 HOWN5
          generalize w6.setCell ⟨B, 2, none⟩ (.slice (some ⟨g6, 0, none⟩) (xs.length + 1) cap6) = Z at *
          go_wp2_with fail
          refine bodyPost_ret (v := .int .i64 0) ?_ rfl ⟨0, rfl, HT7.out, .inr (.inr ?_)⟩
          · simp [results, Tryz.results83, go_sem]
          · rw [HQ1.out]
            refine ⟨rfl, rfl, HQ.out.2.1, HQ.out.2.2, by rw [HRL.out]; have := HBIG.out; omega, .slice (some ⟨g6, 0, none⟩) (xs.length + 1) cap6, by rw [HRL.out]; exact HB7.out, ⟨⟨_, by rw [List.length_append]; exact HO7.out, HR7.out⟩, hloB, HLE7.out⟩⟩

end Go.Proofs.YtddkapkkjhomkaaGreatDoor

/-
  What Line of the layer asm returns.
-/
namespace Go.Proofs.YtddkapkkjhomkaaGreatDoor
open Go.RowKit
set_option linter.unusedVariables false
set_option linter.unusedSimpArgs false
set_option maxRecDepth 10000

theorem wok_kind {l : List TokT} (h : wOk l = true) : ∀ t ∈ l, t.1 ≠ 0 := by
  intro t ht e
  have := List.all_eq_true.1 h t ht
  rw [e] at this
  simp [tokOk] at this
end Go.Proofs.YtddkapkkjhomkaaGreatDoor

/-
  What the method add of a builder returns, of the layer asm.
-/
namespace Go.Proofs.YtddkapkkjhomkaaGreatDoor
open Go.RowKit
set_option linter.unusedVariables false
set_option linter.unusedSimpArgs false
set_option maxRecDepth 10000

/-- A module while its lines are read: its generator, its bound, its words (0: no head yet), its instructions. -/
abbrev ModT := Int × Int × Int × List InstT
/-- A line more: what is wrong, and the module. -/
def addS (st : ModT) (s : ByteArray) : Int × ModT :=
  if (toksP (strI s) 0).2.1 ≠ 0 ∨ (toksP (strI s) 0).1 = [] then ((toksP (strI s) 0).2.1, st)
  else if st.2.2.1 = 0 then
    (if (headP (toksP (strI s) 0).1 s.size).2.2.1 ≠ 0 then ((headP (toksP (strI s) 0).1 s.size).2.2.1, st) else (0, ((headP (toksP (strI s) 0).1 s.size).1, (headP (toksP (strI s) 0).1 s.size).2.1, 5, [])))
  else if (lineP (toksP (strI s) 0).1 s.size st.2.1).2.1 = false then ((lineP (toksP (strI s) 0).1 s.size st.2.1).2.2.1, st)
  else if 1048576 < st.2.2.1 + (1 + ((rawWs (lineP (toksP (strI s) 0).1 s.size st.2.1).1 st.2.1).length : Int)) then (4, st)
  else (0, (st.1, st.2.1, st.2.2.1 + (1 + ((rawWs (lineP (toksP (strI s) 0).1 s.size st.2.1).1 st.2.1).length : Int)), st.2.2.2 ++ [(lineP (toksP (strI s) 0).1 s.size st.2.1).1]))

/-- A module that is being read, in memory. -/
structure ModAt (w : World) (B lo : Nat) (v : Value) (st : ModT) : Prop where
  bld : MBld w B st.1 st.2.1 v st.2.2.1
  insts : Insts w B lo v st.2.2.2
  words : 0 ≤ st.2.2.1 ∧ st.2.2.1 ≤ 1048576 ∧ (st.2.2.2.length : Int) ≤ st.2.2.1
  ok : InstsOk st.2.2.2
theorem Insts.below {w w' : World} {B lo : Nat} {v : Value} {xs : List InstT} (h : Insts w B lo v xs) (hb : Below w.heap.size w w') : Insts w' B lo v xs := by
  obtain ⟨cs, h1, h2⟩ := h.row
  exact ⟨⟨cs, own_below h1 hb, h2.below hb⟩, h.lt, Nat.le_trans h.le hb.size⟩
theorem ModAt.below {w w' : World} {B lo : Nat} {v : Value} {st : ModT} (h : ModAt w B lo v st) (hb : Below w.heap.size w w') : ModAt w' B lo v st := ⟨h.bld.below hb, h.insts.below hb, h.words, h.ok⟩
theorem Two.mono {w w1 w2 : World} {B : Nat} {ob : Option Nat} (hb : Below w.heap.size w w1) (h : Two w1 B ob w2) : Two w B ob w2 :=
  ⟨h.os.trans hb.os, h.tape.trans hb.tape, h.output.trans hb.output, Nat.le_trans hb.size h.size, fun k hk h1 h2 => (h.block k (Nat.lt_of_lt_of_le hk hb.size) h1 h2).trans (hb.block k hk)⟩
theorem instsOk_push {xs : List InstT} {x : InstT} (h : InstsOk xs) (hx : InstOk x) : InstsOk (xs ++ [x]) := by
  intro j hj
  rw [List.length_append, List.length_singleton] at hj
  by_cases hl : j < xs.length
  · have : nthI (xs ++ [x]) j = nthI xs j := by simp [nthI, List.getD, List.getElem?_append_left hl]
    rw [this]; exact h j hl
  · obtain rfl : j = xs.length := by omega
    have : nthI (xs ++ [x]) xs.length = x := by simp [nthI, List.getD]
    rw [this]; exact hx

set_option maxHeartbeats 8000000 in
theorem addLine_any (B lo : Nat) (v : Value) (st : ModT) (s : ByteArray) (w : World) (h : ModAt w B lo v st) (hs : s.size ≤ 16777216) :
    Calls Tryz.prog 40 #[.pointer (some ⟨B, 0, none⟩), .string s] w fun e w' => e = .returned (.int .i64 (addS st s).1) ∧ Two w B v.ownBlock w' ∧ ((addS st s).1 = 0 → ∃ v', ModAt w' B lo v' (addS st s).2) := by
  have hT := fun wx => rowOf_any s wx (by omega)
  obtain ⟨g1, _, g3, g4, _⟩ := toks_good (strI_within s) 0
  have hIn := toksIn_of (l := (toksP (strI s) 0).1) (n := (strI s).length) (by rw [strI_len]; omega) g4
  have hkd := wok_kind g1
  rw [strI_len] at g3
  obtain ⟨gen, bnd, wd, xs⟩ := st
  obtain ⟨RR, hRR⟩ : ∃ RR, RR = addS (gen, bnd, wd, xs) s := ⟨_, rfl⟩
  rw [← hRR]
  unfold addS at hRR
  simp only at hRR
  obtain ⟨T, hTT⟩ : ∃ T, T = toksP (strI s) 0 := ⟨_, rfl⟩
  rw [← hTT] at hT hRR g3 hIn hkd
  clear hTT g4 g1
  obtain ⟨l, er, at_⟩ := T
  simp only at hT hRR g3 hIn hkd
  have HRR := hide hRR
  have HM := hide h
  have HIN := hide hIn
  have HKD := hide hkd
  have HG3 := hide g3
  clear hRR h hIn hkd g3
  go_enter Tryz.func40, Tryz.ntmps40
  go_wp2_with fail
  refine (hT _).mono ?_
  rintro e w1 ⟨a1, c1, rfl, hrow, hb1⟩
  obtain ⟨hv, hfar⟩ := toks_of_own hrow rfl
  have hba : Below w1.heap.size w1 ((w1.alloc (.cells #[.slice a1 l.length c1, .int .i64 0, .int .i64 (s.size : Int)] 134)).alloc (.cells #[.int .i64 er, .int .i64 at_] 28)) := ((Below.refl _ w1).alloc (Nat.le_refl _) _).alloc (by simp) _
  have hb1a := hb1.trans (hba.mono hb1.size)
  have hR1 : RowAt ((w1.alloc (.cells #[.slice a1 l.length c1, .int .i64 0, .int .i64 (s.size : Int)] 134)).alloc (.cells #[.int .i64 er, .int .i64 at_] 28)) w1.heap.size a1 l.length c1 0 (s.size : Int) #[] 134 := (Below.heap_alloc _ _ _ (by simp)).trans (heap_alloc_new w1 _)
  have kP : ((w1.alloc (.cells #[.slice a1 l.length c1, .int .i64 0, .int .i64 (s.size : Int)] 134)).alloc (.cells #[.int .i64 er, .int .i64 at_] 28)).heap[w1.heap.size + 1]? = some (.cells #[.int .i64 er, .int .i64 at_] 28 (0, 0)) := by simpa using heap_alloc_new (w1.alloc (.cells #[.slice a1 l.length c1, .int .i64 0, .int .i64 (s.size : Int)] 134)) (.cells #[.int .i64 er, .int .i64 at_] 28)
  have hE := ended_any w1.heap.size a1 l.length c1 0 (s.size : Int) #[] 134 _ hR1
  have HM1 := hide (HM.out.below hb1a)
  have HV1 := hide (hv.below hba)
  have HB1 := hide hb1a
  have HR1 := hide hR1
  have HP1 := hide kP
  have HFAR : Hid (∀ b off, a1 = some ⟨b, off, none⟩ → b < w1.heap.size) := fun b off e => (hfar b off e).2
  have HSZ : Hid (w1.heap.size + 1 < ((w1.alloc (.cells #[.slice a1 l.length c1, .int .i64 0, .int .i64 (s.size : Int)] 134)).alloc (.cells #[.int .i64 er, .int .i64 at_] 28)).heap.size) := by show _ < _; simp
  clear hT hrow hb1 hv hfar hba hb1a hR1 kP HM
  by_cases he : er = 0
  · subst he
    by_cases hl0 : l = []
    · subst hl0
      rw [show (((0 : Nat) : Int) == ((([] : List TokT).length : Nat) : Int)) = true by simp] at hE
      simp only [List.length_nil] at *
      go_wp2_with fail
      generalize (w1.alloc (.cells #[.slice a1 0 c1, .int .i64 0, .int .i64 (s.size : Int)] 134)).alloc (.cells #[.int .i64 0, .int .i64 at_] 28) = W at *
      refine hE.mono ?_
      rintro x w3 ⟨rfl, q, rfl⟩
      have hbq := bel_drewN (Below.refl W.heap.size W) q
      have k0 : (W.drewN q).cell? ⟨w1.heap.size + 1, 0, none⟩ = some (.int .i64 0) := (blk_cells ((hbq.block _ HSZ.out).trans HP1.out)).1 0
      have HM3 := hide (HM1.out.below hbq)
      have HB3 := hide (HB1.out.trans (hbq.mono HB1.out.size))
      clear hE hbq
      generalize W.drewN q = W3 at *
      go_wp2_with fail
      refine bodyPost_ret (v := .int .i64 0) ?_ rfl ?_
      · simp [results, Tryz.results40, go_sem]
      · rw [HRR.out, if_pos (.inr trivial)]
        exact ⟨rfl, Two.of_below HB3.out, fun _ => ⟨v, HM3.out⟩⟩
    · have hln : 0 < l.length := List.length_pos_iff.2 hl0
      rw [show (((0 : Nat) : Int) == (l.length : Int)) = false by simp; omega] at hE
      have hRR := HRR.out
      rw [if_neg (by simpa using hl0)] at hRR
      have HRR2 := hide hRR
      clear hRR HRR
      go_wp2_with fail
      generalize (w1.alloc (.cells #[.slice a1 l.length c1, .int .i64 0, .int .i64 (s.size : Int)] 134)).alloc (.cells #[.int .i64 0, .int .i64 at_] 28) = W at *
      refine hE.mono ?_
      rintro x w3 ⟨rfl, q, rfl⟩
      have hbq := bel_drewN (Below.refl W.heap.size W) q
      have HM3 := hide (HM1.out.below hbq)
      have HB3 := hide (HB1.out.trans (hbq.mono HB1.out.size))
      have HV3 := hide (HV1.out.below hbq)
      have HR3 := hide (HR1.out.below hbq)
      have HSZ3 : Hid (w1.heap.size + 1 < (W.drewN q).heap.size) := Nat.lt_of_lt_of_le HSZ.out hbq.size
      clear hE hbq HM1 HB1 HV1 HR1 HP1 HSZ
      generalize W.drewN q = W3 at *
      have hHd := headed_any B gen bnd v wd W3 HM3.out.bld
      obtain ⟨r0, r1, r2, _⟩ := HR3.out.cells
      have hw := HM3.out.words
      simp only at hw
      by_cases hwd : wd = 0
      · subst hwd
        rw [show decide ((0 : Int) < 0) = false by decide] at hHd
        have hAH := addHead_any B gen bnd v 0 a1 l.length c1 (s.size : Int) l W3 HM3.out.bld HV3.out rfl (by have := HG3.out; omega) HIN.out (fun b off e => by have := HFAR.out b off e; have := HSZ3.out; omega)
        have hRR := HRR2.out
        rw [if_pos rfl] at hRR
        generalize headP l (s.size : Int) = H at *
        obtain ⟨H1, H2, H3, H4⟩ := H
        simp only at hAH hRR
        have HRR3 := hide hRR
        clear hRR HRR2 hw
        go_wp2_with fail
        refine hHd.mono ?_
        rintro x w4 ⟨rfl, rfl⟩
        clear hHd
        go_wp2_with fail
        refine hAH.mono ?_
        rintro x w5 ⟨rfl, hg5, hq5⟩
        have HG5 := hide hg5
        have HQ5 := hide hq5
        clear hAH hg5 hq5
        go_wp2_with fail
        refine bodyPost_ret (v := .int .i64 H3) ?_ rfl ?_
        · simp [results, Tryz.results40, go_sem]
        · by_cases hz : H3 = 0
          · rw [HRR3.out, if_neg (by simpa using hz)]
            refine ⟨by rw [hz], Two.mono HB3.out (Two.of_grown HG5.out), fun _ => ⟨.slice none 0 0, ⟨HQ5.out hz, ⟨⟨[], World.ownsRow_nil _ _ _ _, rowI_nil⟩, HM3.out.insts.lt, Nat.le_trans HM3.out.insts.le HG5.out.size⟩, by simp, fun j hj => by simp at hj⟩⟩⟩
          · rw [HRR3.out, if_pos hz]
            exact ⟨rfl, Two.mono HB3.out (Two.of_grown HG5.out), fun h => absurd h hz⟩
      · rw [show decide (0 < wd) = true by simp; omega] at hHd
        have hAI := addInst_any B lo gen bnd v wd xs a1 l.length c1 (s.size : Int) l W3 HM3.out.bld HM3.out.insts hw.1 hw.2.1 (by omega) HV3.out rfl (by have := HG3.out; omega) HIN.out HKD.out hln (fun b off e => by have := HFAR.out b off e; have := HSZ3.out; omega)
        have hRR := HRR2.out
        rw [if_neg hwd] at hRR
        generalize lineP l (s.size : Int) bnd = R at *
        have HRR3 := hide hRR
        have HW := hide hw
        clear hRR HRR2 hw
        go_wp2_with fail
        refine hHd.mono ?_
        rintro x w4 ⟨rfl, rfl⟩
        clear hHd
        go_wp2_with fail
        refine hAI.mono ?_
        rintro x w5 ⟨E, rfl, hT5, hq5⟩
        have HT5 := hide hT5
        have HQ5 := hide hq5
        clear hAI hT5 hq5
        go_wp2_with fail
        refine bodyPost_ret (v := .int .i64 E) ?_ rfl ?_
        · simp [results, Tryz.results40, go_sem]
        · rcases HQ5.out with ⟨q1, q2, q3⟩ | ⟨rfl, q2, q3⟩ | ⟨rfl, q2, q3, q4, q5, v', q6, q7⟩
          · rw [HRR3.out, if_pos q2]
            exact ⟨by rw [q3], Two.mono HB3.out HT5.out, fun h => absurd (q3.trans h) q1⟩
          · rw [HRR3.out, if_neg (by rw [q2]; simp), if_pos q3]
            exact ⟨rfl, Two.mono HB3.out HT5.out, fun h => by simp at h⟩
          · rw [HRR3.out, if_neg (by rw [q2]; simp), if_neg (by omega)]
            refine ⟨rfl, Two.mono HB3.out HT5.out, fun _ => ⟨v', ⟨q6, q7, ⟨by have := HW.out; simp only; omega, q5, ?_⟩, instsOk_push HM3.out.ok q3⟩⟩⟩
            have := HW.out
            simp only [List.length_append, List.length_singleton]
            omega
  · have he' : (er != 0) = true := by simpa using he
    have HE := hide he
    have k0 : ((w1.alloc (.cells #[.slice a1 l.length c1, .int .i64 0, .int .i64 (s.size : Int)] 134)).alloc (.cells #[.int .i64 er, .int .i64 at_] 28)).cell? ⟨w1.heap.size + 1, 0, none⟩ = some (.int .i64 er) := (blk_cells HP1.out).1 0
    clear he hE
    go_wp2_with fail
    refine bodyPost_ret (v := .int .i64 er) ?_ rfl ?_
    · simp [results, Tryz.results40, go_sem]
    · rw [HRR.out, if_pos (.inl HE.out)]
      exact ⟨rfl, Two.of_below HB1.out, fun h => absurd h HE.out⟩

end Go.Proofs.YtddkapkkjhomkaaGreatDoor

/-
  Plain facts on what a line says: where it says no instruction, none is answered.
-/
namespace Go.Proofs.YtddkapkkjhomkaaGreatDoor
open Go.RowKit
set_option linter.unusedVariables false
set_option linter.unusedSimpArgs false
set_option maxRecDepth 10000

end Go.Proofs.YtddkapkkjhomkaaGreatDoor

/-
  Plain facts on what a line says: an instruction that it says can be written; what it says else is an error, unless it says nothing.
-/
namespace Go.Proofs.YtddkapkkjhomkaaGreatDoor
open Go.RowKit
set_option linter.unusedVariables false
set_option linter.unusedSimpArgs false
set_option maxRecDepth 10000

end Go.Proofs.YtddkapkkjhomkaaGreatDoor

/-
  What strings.Cut returns at a line's end.
-/
namespace Go.Proofs.YtddkapkkjhomkaaGreatDoor
open Go.RowKit
set_option maxRecDepth 10000
set_option linter.unusedVariables false
set_option linter.unusedSimpArgs false

theorem liteIndexByte_any (s : ByteArray) (w : World) :
    Calls Tryz.prog 201 #[.string s, .int .u8 10] w fun e w' => e = .returned (.int .i64 (nlAt s)) ∧ w = w' := by
  have hx := fun (w : World) => run_callFunc_extern (P := Tryz.prog) (f := 220) Tryz.func220 (by kernel_rfl) (by kernel_rfl) (by kernel_rfl) (e := Extern.BytealgIndexByte.indexByte) (by kernel_rfl) #[.string s, .int .u8 10] w
  simp only [Lib.run_indexByteString, Result.andThen] at hx
  have e : Lib.indexByte s.data.toList (10 : Int).toNat.toUInt8 = nlAt s := rfl
  rw [e] at hx
  generalize nlAt s = r at hx
  go_enter Tryz.func201, Tryz.ntmps201
  go_wp2
  go_ret
  exact ⟨rfl, rfl⟩

set_option maxRecDepth 100000 in
set_option maxHeartbeats 2000000 in
theorem liteIndex_any (s : ByteArray) (w : World) :
    Calls Tryz.prog 168 #[.string s, .string ⟨#[10]⟩] w fun e w' => e = .returned (.int .i64 (nlAt s)) ∧ w = w' := by
  have hI := fun wx => liteIndexByte_any s wx
  have hz : (⟨#[10]⟩ : ByteArray).size = 1 := rfl
  by_cases hc : ([10] == s.toList) = true
  · have e0 : nlAt s = 0 := by
      have h := eq_of_beq hc
      rw [ByteArray.toList_eq] at h
      unfold nlAt; rw [← h]; rfl
    rw [e0]
    clear hI
    go_enter Tryz.func168, Tryz.ntmps168
    go_wp2_with fail
    go_ret
    exact ⟨rfl, rfl⟩
  · generalize nlAt s = r at *
    have hc : ([10] == s.toList) = false := by simpa using hc
    go_enter Tryz.func168, Tryz.ntmps168
    go_wp2_with fail
    refine (hI _).mono ?_
    rintro e w1 ⟨rfl, rfl⟩
    go_wp2
    go_ret
    exact ⟨rfl, rfl⟩

set_option maxHeartbeats 2000000 in
theorem liteCut_any (s : ByteArray) (w : World) (hs : s.size ≤ 140737488351232) :
    Calls Tryz.prog 129 #[.string s, .string ⟨#[10]⟩] w fun e w' => (∃ b, e = .returned (.tuple #[.string (cutAX s), .string (cutZ s), .bool b])) ∧ Below w.heap.size w w' := by
  have hI := fun wx => liteIndex_any s wx
  have hz : (⟨#[10]⟩ : ByteArray).size = 1 := rfl
  rcases nl_cases s with ⟨e, _⟩ | ⟨m, e, hm, _, _⟩
  · rw [(cut_none e).1, (cut_none e).2]
    rw [e] at hI
    go_enter Tryz.func129, Tryz.ntmps129
    go_wp2_with fail
    refine (hI _).mono ?_
    rintro e w1 ⟨rfl, rfl⟩
    go_wp2
    go_ret3
    exact ⟨⟨_, rfl⟩, Below.refl _ _⟩
  · rw [(cut_some e).1, (cut_some e).2]
    rw [e] at hI
    have h0 : ¬ ((m : Int) < 0) := by omega
    have h1 : (m : Int) + 1 ≤ (s.size : Int) := by omega
    have h2 : (m : Int) ≤ (s.size : Int) := by omega
    go_enter Tryz.func129, Tryz.ntmps129
    go_wp2_with fail
    refine (hI _).mono ?_
    rintro e w1 ⟨rfl, rfl⟩
    go_wp2_with fail
    go_quiet (fail)
    go_wp2
    go_ret3
    exact ⟨⟨_, rfl⟩, bel_drewN (Below.refl _ _) _⟩

theorem cut_any (s : ByteArray) (w : World) (hs : s.size ≤ 140737488351232) :
    Calls Tryz.prog 78 #[.string s, .string ⟨#[10]⟩] w fun e w' => (∃ b, e = .returned (.tuple #[.string (cutAX s), .string (cutZ s), .bool b])) ∧ Below w.heap.size w w' := by
  have hI := fun wx => liteCut_any s wx hs
  go_enter Tryz.func78, Tryz.ntmps78
  go_wp2_with fail
  refine (hI _).mono ?_
  rintro e w1 ⟨⟨b, rfl⟩, hb⟩
  have HB : Hid (Below w.heap.size w w1) := hb
  clear hb
  go_wp2
  go_ret3
  exact ⟨⟨_, rfl⟩, HB.out⟩

end Go.Proofs.YtddkapkkjhomkaaGreatDoor

/-
  Lines of the layer lex, and what its iterator tells: the lines of the text, each with its number.
-/
namespace Go.Proofs.YtddkapkkjhomkaaGreatDoor
open Go.RowKit Go.Shelf Go.Lib
set_option maxRecDepth 10000
attribute [local go_sem] Oper.semAt_some
set_option linter.unusedVariables false
set_option linter.unusedSimpArgs false

/-- What is told of a line. -/
def lineV (x : Nat × ByteArray) : Array Value := #[.int .i64 x.1, .string x.2]
def sizeV : Value → Nat
  | .string s => s.size
  | _ => 0

theorem lines_any (s : ByteArray) (w : World) : Calls Tryz.prog 39 #[.string s] w fun e w' => e = .returned (.func (.func 77) #[] #[.pointer (some ⟨w.heap.size, 0, none⟩)]) ∧ w' = w.alloc (.cells #[.string s] 9) := by
  go_enter Tryz.func39, Tryz.ntmps39
  go_wp2
  go_ret
  exact ⟨rfl, rfl⟩

theorem size_not (s : ByteArray) (h : s.size = 0) : s.toList.isEmpty = true := by
  rw [ByteArray.toList_eq]
  have : s.data.toList = [] := by rw [← List.length_eq_zero_iff, Array.length_toList]; exact h
  rw [this]; rfl
theorem size_some (s : ByteArray) (h : s.size ≠ 0) : s.toList.isEmpty = false := by
  rw [ByteArray.toList_eq]
  cases e : s.data.toList with
  | nil => exact absurd (by rw [← show s.data.size = s.size from rfl, ← Array.length_toList, e]; rfl) h
  | cons x l => rfl

set_option maxRecDepth 100000 in
set_option maxHeartbeats 2000000 in
theorem lines_tells (s : ByteArray) (hs : s.size ≤ 140737488351232) (b : Nat) (n0 : Nat) (τ : TypeId → Prop) (w : World) (hb : w.heap[b]? = some (.cells #[.string s] 9 (0, 0))) :
    Tells Tryz.prog 77 #[.pointer (some ⟨b, 0, none⟩)] lineV (fun pre x _ => pre ++ [x] <+: linesT s) n0 τ (fun xs => xs = linesT s) (fun pre => pre <+: linesT s) w := by
  intro l J Jx W hW hJ hJx hY h0
  have HY : Hid (∀ pre x W1, J pre W1 → pre ++ [x] <+: linesT s → _) := hY
  have hbl : b < w.heap.size := (Array.getElem?_eq_some_iff.1 hb).1
  obtain ⟨c0, _⟩ := oneCell ((hW.block b hbl).trans hb)
  clear hY hW hb
  refine callsIn_of_wp Tryz.func77 rfl trivial ?_ rfl
  simp only [Tryz.ntmps77, List.size_toArray, List.length_cons, List.length_nil, Nat.reduceAdd, Nat.reduceSub, Array.replicate_succ, Array.replicate_zero, List.push_toArray, List.append_toArray, List.nil_append, List.cons_append]
  gi_wp2
  gi_loopw [3, 4] (fun t i wr => ∃ (z : ByteArray) (pre : List (Nat × ByteArray)) (f : Nat), t = .string z ∧ i = .int .i64 ((pre.length : Int) + 1) ∧ z.size ≤ f ∧ pre.length + z.size ≤ s.size ∧ pre ++ linesF f (pre.length + 1) z = linesT s ∧ J pre wr) (fun t _ _ => sizeV t)
  case atStart => exact ⟨s, [], s.size, rfl, rfl, Nat.le_refl _, by simp, rfl, h0⟩
  case round =>
    obtain ⟨z, pre, f, rfl, rfl, hf, hsz, hpre, hJs⟩ := hrel
    clear h0
    by_cases hz : z.size = 0
    · have HJ : Hid (pre = linesT s ∧ J pre wr) := ⟨by rw [← hpre, linesF_empty _ _ _ hz, List.append_nil], hJs⟩
      have hz' := size_not z hz
      clear hJs HY hpre
      gi_wp2
      go_end0
      exact ⟨⟨_, rfl⟩, .inl ⟨_, HJ.out.1, HJ.out.2⟩⟩
    · obtain ⟨f', e1, hf'⟩ := linesF_step f (pre.length + 1) z hz hf
      have hZ := cutZ_size z hz
      have hA := cutA_size z
      have hz' := size_some z hz
      have HPX : Hid (pre ++ [(pre.length + 1, cutAX z)] <+: linesT s) := ⟨linesF f' (pre.length + 1 + 1) (cutZ z), by rw [← hpre, e1]; simp⟩
      have HN : Hid ((pre ++ [(pre.length + 1, cutAX z)]) ++ linesF f' ((pre ++ [(pre.length + 1, cutAX z)]).length + 1) (cutZ z) = linesT s) := by show _ = _; rw [← hpre, e1]; simp
      have hC := fun wx => cut_any z wx (by omega)
      have hD := fun wx => stringsClone_any (cutAX z) wx (by omega)
      have HJ : Hid (J pre wr) := hJs
      have HZ : Hid ((cutZ z).size < z.size ∧ (cutZ z).size ≤ f') := ⟨hZ, hf'⟩
      clear hJs hpre e1 hZ hA hf hf'
      generalize cutAX z = la at *
      generalize cutZ z = lz at *
      gi_wp2_with fail
      refine ⟨trivial, rfl, (callsIn_wide.2 (hC _)).mono ?_⟩
      rintro e w' ⟨⟨bb, rfl⟩, hB1⟩
      gi_wp2_with fail
      refine ⟨trivial, rfl, (callsIn_wide.2 (hD _)).mono ?_⟩
      rintro e W2 ⟨rfl, hB2⟩
      obtain ⟨fn, tmps, assign, body, hy, hR⟩ := HY.out pre (pre.length + 1, la) W2 (OwnFrom.below hJ HJ.out (hB1.trans (hB2.mono hB1.size))) HPX.out
      simp only [lineV, Int.natCast_add, Int.natCast_one] at hy
      clear HY hC hD
      gi_wp2_with fail
      refine ⟨rfl, hR.mono ?_⟩
      rintro e W3 ⟨hkf, ⟨rfl, hJ3, hk3⟩ | ⟨rfl, hJx3⟩⟩
      · have HJ3 : Hid (J (pre ++ [(pre.length + 1, la)]) W3) := hJ3
        clear hy hR hkf hk3 hJ3
        gi_wp2
        go_roundw
        case rel => exact ⟨lz, pre ++ [(pre.length + 1, la)], f', rfl, by simp, HZ.out.2, by have := HZ.out.1; simp; omega, HN.out, HJ3.out⟩
        case measure => have := HZ.out.1; simp only [sizeV]; omega
      · clear hy hR hkf
        gi_wp2
        refine bodyPost_ret (results_none rfl _ _ _) rfl ?_
        exact ⟨⟨_, rfl⟩, .inr ⟨_, HPX.out, hJx3⟩⟩

end Go.Proofs.YtddkapkkjhomkaaGreatDoor
