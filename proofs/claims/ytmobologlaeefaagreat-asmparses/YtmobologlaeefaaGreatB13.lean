/-
  Texts laid together in one: AsmAddInst, AsmLineF, AsmAdd, MathO, MathP, MathLn, StringsCut, LexLines, Draw, DrawAppend.
-/
import Derived.WalkSpells
import Derived.WalkMore
import Derived.BigRegion
import Derived.Deep.RegionLaw
import Derived.Deep.AppendLies
import Derived.Test.YtmobologlaeefaaGreatProg
import Derived.Test.YtmobologlaeefaaGreatB12
import Derived.Test.YtmobologlaeefaaGreatB09
import Derived.Test.YtmobologlaeefaaGreatB10
import Derived.Test.YtmobologlaeefaaGreatB06
import Derived.Lib.Bytealg
import Derived.Lib.IndexLaws
import Derived.Test.YtmobologlaeefaaGreatB01
import Derived.Shelf.RegionOpen
import Derived.OwnWalk
import Derived.RangeFuncNested
import Derived.RangeFuncBound
import Derived.RangeFuncCalls
import Derived.RangeFuncLeaves
import Derived.Shelf.Abstract
import Derived.WalkKit
import Derived.OwnWalkIn
import Derived.TacticsInMore
import Derived.LoopNIn
import Derived.LoopIn
import Derived.Test.YtmobologlaeefaaGreatB04
import Derived.Test.YtmobologlaeefaaGreatB11
import Derived.OrdersIn
/-
  What the method addInst of a builder returns, of the layer asm.
-/
namespace Go.Proofs.YtmobologlaeefaaGreat
open Go.RowKit
set_option linter.unusedVariables false
set_option linter.unusedSimpArgs false
set_option maxRecDepth 10000

theorem Inst7.info : (Tryz.prog.info? 41).map (fun i => (i.zero, i.size, i.bytes)) = some (some (.agg #[.int .u16 0, .int .u32 0, .int .u32 0, .slice none 0 0]), 4, 40) := by kernel_rfl

/-- The instructions so far, each with arguments of its own, from block lo on; the builder lies ahead of them. -/
structure Insts (w : World) (B lo : Nat) (v : Value) (xs : List InstT) : Prop where
  row : ∃ cs, w.ownsRow lo 41 4 v xs.length cs ∧ RowI w lo v.ownBlock xs cs
  lt : B < lo
  le : lo ≤ w.heap.size

/-- What holds behind an instruction that is added. -/
def AddQ (w w' : World) (B lo : Nat) (gen bnd : Int) (v : Value) (wd : Int) (xs : List InstT) (R : LineR) (E : Int) : Prop :=
  (E ≠ 0 ∧ R.2.1 = false ∧ E = R.2.2.1) ∨ (E = 4 ∧ R.2.1 = true ∧ 1048576 < wd + (1 + ((rawWs R.1 bnd).length : Int))) ∨
  (E = 0 ∧ R.2.1 = true ∧ InstOk R.1 ∧ rawE R.1 bnd = 0 ∧ wd + (1 + ((rawWs R.1 bnd).length : Int)) ≤ 1048576 ∧ ∃ v', MBld w' B gen bnd v' (wd + (1 + ((rawWs R.1 bnd).length : Int))) ∧ Insts w' B lo v' (xs ++ [R.1]))

set_option maxHeartbeats 8000000 in
theorem addInst_any (B lo : Nat) (gen bnd : Int) (v : Value) (wd : Int) (xs : List InstT) (a : Option Addr) (n c : Nat) (len : Int) (l : List TokT) (w : World) (h : MBld w B gen bnd v wd) (hi : Insts w B lo v xs) (hw0 : 0 ≤ wd) (hw1 : wd ≤ 1048576) (hx : xs.length ≤ 16777216) (hv : ToksV w a l) (hl : l.length = n) (hn : 32 * n ≤ 140737488351232) (hin : ToksIn l) (hkd : ∀ t ∈ l, t.1 ≠ 0) (h1 : 0 < n) (hfar : ∀ b off, a = some ⟨b, off, none⟩ → b < w.heap.size) :
    Calls Tryz.prog 62 #[.pointer (some ⟨B, 0, none⟩), .agg #[.slice a n c, .int .i64 0, .int .i64 len]] w fun e w' => ∃ E : Int, e = .returned (.int .i64 E) ∧ Two w B v.ownBlock w' ∧ AddQ w w' B lo gen bnd v wd xs (lineP l len bnd) E := by
  obtain ⟨R, hRR⟩ : ∃ R, R = lineP l len bnd := ⟨_, rfl⟩
  rw [← hRR]
  have HRR0 := hide hRR
  clear hRR
  have hba : Below w.heap.size w (w.alloc (.cells #[.slice a n c, .int .i64 0, .int .i64 len] 122)) := (Below.refl _ w).alloc (Nat.le_refl _) _
  have hB := h.lt
  have HB := hide (h.below hba)
  have HV := hide (hv.below hba)
  have HBA := hide hba
  have HI := hide hi
  have HIN := hide hin
  have HKD := hide hkd
  have HFAR := hide hfar
  have r0 : (w.alloc (.cells #[.slice a n c, .int .i64 0, .int .i64 len] 122)).cell? ⟨w.heap.size, 0, none⟩ = some (.slice a n c) := (blk_cells (heap_alloc_new w _)).1 0
  have r1 : (w.alloc (.cells #[.slice a n c, .int .i64 0, .int .i64 len] 122)).cell? ⟨w.heap.size, 1, none⟩ = some (.int .i64 0) := (blk_cells (heap_alloc_new w _)).1 1
  have r2 : (w.alloc (.cells #[.slice a n c, .int .i64 0, .int .i64 len] 122)).cell? ⟨w.heap.size, 2, none⟩ = some (.int .i64 len) := (blk_cells (heap_alloc_new w _)).1 2
  have HR := hide (And.intro r0 (And.intro r1 r2))
  have b1 : (w.alloc (.cells #[.slice a n c, .int .i64 0, .int .i64 len] 122)).cell? ⟨B, 1, none⟩ = some (.int .u32 bnd) := (blk_cells HB.out).1 1
  have HB1 := hide b1
  have HSZ : Hid (w.heap.size < (w.alloc (.cells #[.slice a n c, .int .i64 0, .int .i64 len] 122)).heap.size) := by show _ < _; simp
  clear hba h hv hin hkd hfar hi r0 r1 r2 b1
  go_enter Tryz.func62, Tryz.ntmps62
  go_wp2_with fail
  generalize w.alloc (.cells #[.slice a n c, .int .i64 0, .int .i64 len] 122) = W at *
  obtain ⟨r0, r1, r2⟩ := HR.out
  have b1 := HB1.out
  have lB : B < W.heap.size := HB.out.lt
  have lw := HSZ.out
  go_region
  have hba2 : Below W.heap.size W (W.alloc (.cells #[.slice a n c, .int .i64 0, .int .i64 len, .int .u32 bnd, .int .u16 0, .string ⟨#[]⟩, .bool false, .bool false, .string ⟨#[]⟩, .string ⟨#[]⟩, .int .i64 0, .int .u8 0, .int .u16 0, .int .u32 0, .int .u32 0, .slice none 0 0, .int .i64 0] 172)).drew := ((Below.refl _ W).alloc (Nat.le_refl _) _).drew
  have hrd : Rea (W.alloc (.cells #[.slice a n c, .int .i64 0, .int .i64 len, .int .u32 bnd, .int .u16 0, .string ⟨#[]⟩, .bool false, .bool false, .string ⟨#[]⟩, .string ⟨#[]⟩, .int .i64 0, .int .u8 0, .int .u16 0, .int .u32 0, .int .u32 0, .slice none 0 0, .int .i64 0] 172)).drew W.heap.size a n c 0 len bnd 0 noFrm 0 0 0 (.slice none 0 0) 0 := Rea.mk (heap_alloc_new W _)
  have hC := read_any W.heap.size a n c len bnd l _ hrd (HV.out.below hba2) hl hn HIN.out HKD.out h1 (fun g off e => by have := HFAR.out g off e; omega)
  have HB2 := hide (HB.out.below hba2)
  have HBA2 := hide (HBA.out.trans (hba2.mono HBA.out.size))
  have HSZ2 : Hid (W.heap.size < (W.alloc (.cells #[.slice a n c, .int .i64 0, .int .i64 len, .int .u32 bnd, .int .u16 0, .string ⟨#[]⟩, .bool false, .bool false, .string ⟨#[]⟩, .string ⟨#[]⟩, .int .i64 0, .int .u8 0, .int .u16 0, .int .u32 0, .int .u32 0, .slice none 0 0, .int .i64 0] 172)).drew.heap.size) := by show _ < (W.alloc _).heap.size; simp
  clear r0 r1 r2 b1 hba2 hrd HB HBA HB1 HR HV
  go_wp2_with fail
  generalize (W.alloc (.cells #[.slice a n c, .int .i64 0, .int .i64 len, .int .u32 bnd, .int .u16 0, .string ⟨#[]⟩, .bool false, .bool false, .string ⟨#[]⟩, .string ⟨#[]⟩, .int .i64 0, .int .u8 0, .int .u16 0, .int .u32 0, .int .u32 0, .slice none 0 0, .int .i64 0] 172)).drew = W2 at *
  refine hC.mono ?_
  rintro x w3 ⟨E, P, rfl, hg3, hq3⟩
  have s2 := HSZ2.out
  have s3 := hg3.size
  have hb3 : Below w.heap.size w w3 := ⟨hg3.os.trans HBA2.out.os, hg3.tape.trans HBA2.out.tape, hg3.output.trans HBA2.out.output, Nat.le_trans HBA2.out.size hg3.size, fun j hj => (hg3.block j (by omega) (by simp; omega)).trans (HBA2.out.block j hj)⟩
  have hB3 : MBld w3 B gen bnd v wd := (hg3.block B (by omega) (by simp; omega)).trans HB2.out
  have hba3 : Below w3.heap.size w3 (w3.alloc (.cells #[.int .i64 E, .int .i64 P] 28)) := (Below.refl _ _).alloc (Nat.le_refl _) _
  have HB3 := hide hb3
  have HBD3 := hide hB3
  rw [← HRR0.out] at hq3
  rcases hq3 with ⟨hE, hR⟩ | ⟨hE, hP, o, t, r, ys, ax, m, cx, k, q1, q2, q3, q4, q5, q6⟩
  · have hE' : (E != 0) = true := by simpa using hE
    have HE := hide hE
    have HRR := hide hR
    clear hE hR hg3 hb3 hB3 hba3 hC HI HIN HKD HFAR
    go_wp2_with fail
    refine bodyPost_ret (v := .int .i64 E) ?_ rfl ⟨E, rfl, Two.of_below (HB3.out.trans (((Below.refl _ w3).alloc (Nat.le_refl _) _).mono HB3.out.size)), .inl ⟨HE.out, by rw [HRR.out]; rfl, by rw [HRR.out]; rfl⟩⟩
    simp [results, Tryz.results62, go_sem]
  · subst hE
    subst hP
    have HQ1 := hide q1
    generalize hrl : 1 + ((rawWs ((o : Int), t, r, ys) bnd).length : Int) = rl at *
    have hrl1 : 1 ≤ rl ∧ rl ≤ 65536 := by have := rawWs_len ((o : Int), t, r, ys) bnd; omega
    have HRL := hide hrl
    have q2a := q2.below hba3
    have hB3a := hB3.below hba3
    have q3a := own_below q3 hba3
    have hb3a := hb3.trans (hba3.mono hb3.size)
    obtain ⟨cr, _⟩ := blk_cells q2a.block
    obtain ⟨cb, fb⟩ := blk_cells hB3a
    have z12 : (w3.alloc (.cells #[.int .i64 0, .int .i64 0] 28)).cell? ⟨W.heap.size, 12, none⟩ = some (.int .u16 (o : Int)) := cr 12
    have z13 : (w3.alloc (.cells #[.int .i64 0, .int .i64 0] 28)).cell? ⟨W.heap.size, 13, none⟩ = some (.int .u32 t) := cr 13
    have z14 : (w3.alloc (.cells #[.int .i64 0, .int .i64 0] 28)).cell? ⟨W.heap.size, 14, none⟩ = some (.int .u32 r) := cr 14
    have z15 : (w3.alloc (.cells #[.int .i64 0, .int .i64 0] 28)).cell? ⟨W.heap.size, 15, none⟩ = some (.slice ax m cx) := cr 15
    have z16 : (w3.alloc (.cells #[.int .i64 0, .int .i64 0] 28)).cell? ⟨W.heap.size, 16, none⟩ = some (.int .i64 rl) := cr 16
    have y2 : (w3.alloc (.cells #[.int .i64 0, .int .i64 0] 28)).cell? ⟨B, 2, none⟩ = some v := cb 2
    have y3 : (w3.alloc (.cells #[.int .i64 0, .int .i64 0] 28)).cell? ⟨B, 3, none⟩ = some (.int .i64 wd) := cb 3
    have HZ := hide (And.intro z12 (And.intro z13 (And.intro z14 (And.intro z15 (And.intro z16 (And.intro y2 (And.intro y3 fb)))))))
    have HO3 := hide q3a
    have HREA := hide q2a.block
    have HB4 := hide hB3a
    have HBB := hide hb3a
    have HQ := hide (And.intro q4 (And.intro q5 q6))
    have HSP := hide (And.intro ((blk_cells (heap_alloc_new w3 (.cells #[.int .i64 0, .int .i64 0] 28))).1 0) ((blk_cells (heap_alloc_new w3 (.cells #[.int .i64 0, .int .i64 0] 28))).1 1))
    have HSW : Hid (w3.heap.size < (w3.alloc (.cells #[.int .i64 0, .int .i64 0] 28)).heap.size ∧ W.heap.size < w3.heap.size) := ⟨by simp, by omega⟩
    have HSW2 : Hid (W2.heap.size ≤ w3.heap.size) := s3
    have hsum : IntKind.i64.wrap (wd + rl) = wd + rl := by rw [IntKind.wrap_i64]; omega
    clear q1 q2 q3 q4 q5 q6 q2a hB3a q3a hb3a cr cb fb hg3 hb3 hB3 hba3 hC HBD3 HIN HKD HFAR HB2 HBA2 HB3 hrl s3
    go_wp2_with fail
    generalize w3.alloc (.cells #[.int .i64 0, .int .i64 0] 28) = W4 at *
    obtain ⟨z12, z13, z14, z15, z16, y2, y3, fb⟩ := HZ.out
    have nB : W.heap.size ≠ B := by omega
    have nB2 : B ≠ W.heap.size := by omega
    go_region
    all_goals
      have hB5 := HB4.out.setWords (wd + rl)
      have HB5 : Hid (MBld (W4.setCell ⟨B, 3, none⟩ (.int .i64 (wd + rl))).drew B gen bnd v (wd + rl)) := hB5
      have HZ5 : Hid ((W4.setCell ⟨B, 3, none⟩ (.int .i64 (wd + rl))).drew.heap[W.heap.size]? = W4.heap[W.heap.size]?) := Below.heap_setCell _ _ _ _ (by simpa using nB)
      have HW0 : Hid (Below (w.setCell ⟨B, 3, none⟩ (.int .i64 (wd + rl))).heap.size (w.setCell ⟨B, 3, none⟩ (.int .i64 (wd + rl))) (W4.setCell ⟨B, 3, none⟩ (.int .i64 (wd + rl))).drew) := by
        have hb := HBB.out
        refine ⟨hb.os, hb.tape, hb.output, by show _ ≤ (W4.setCell _ _).heap.size; rw [World.size_setCell, World.size_setCell]; exact hb.size, fun k hk => ?_⟩
        rw [World.size_setCell] at hk
        show (W4.setCell _ _).heap[k]? = _
        simp only [World.setCell, Array.getElem?_modify, hb.block k hk]
      have HO5 : Hid ((W4.setCell ⟨B, 3, none⟩ (.int .i64 (wd + rl))).drew.ownsRow (W2.heap.size + 3) 81 3 (.slice ax m cx) m (ys.flatMap argC)) := own_below (ownsRow_setCell_below HO3.out (a := ⟨B, 3, none⟩) (by simp; omega) _) (Below.refl _ _).drew
      have HSZ5 : Hid (W2.heap.size ≤ (W4.setCell ⟨B, 3, none⟩ (.int .i64 (wd + rl))).drew.heap.size ∧ W.heap.size < (W4.setCell ⟨B, 3, none⟩ (.int .i64 (wd + rl))).drew.heap.size) := by
        have : (W4.setCell ⟨B, 3, none⟩ (.int .i64 (wd + rl))).drew.heap.size = W4.heap.size := World.size_setCell _ _ _
        rw [this]
        have := HSW.out
        have := HSW2.out
        exact ⟨by omega, by omega⟩
      clear hB5 z12 z13 z14 z15 z16 y2 y3 fb HZ HB4
      have HZ6 : Hid (W4.heap[W.heap.size]? = some (.cells (rdCells a n c k len bnd (o : Int) (opF o) (o : Int) t r (.slice ax m cx) rl) 172 (0, 0))) := HREA.out
      generalize (W4.setCell ⟨B, 3, none⟩ (.int .i64 (wd + rl))).drew = W5 at *
      have kR := HZ5.out.trans HZ6.out
      obtain ⟨cr, _⟩ := blk_cells kR
      obtain ⟨cb, fb⟩ := blk_cells HB5.out
      have b3 : W5.cell? ⟨B, 3, none⟩ = some (.int .i64 (wd + rl)) := cb 3
      have b2 : W5.cell? ⟨B, 2, none⟩ = some v := cb 2
      have z12 : W5.cell? ⟨W.heap.size, 12, none⟩ = some (.int .u16 (o : Int)) := cr 12
      have z13 : W5.cell? ⟨W.heap.size, 13, none⟩ = some (.int .u32 t) := cr 13
      have z14 : W5.cell? ⟨W.heap.size, 14, none⟩ = some (.int .u32 r) := cr 14
      have z15 : W5.cell? ⟨W.heap.size, 15, none⟩ = some (.slice ax m cx) := cr 15
      have hwe : (w.setCell ⟨B, 3, none⟩ (.int .i64 (wd + rl))).heap.size = w.heap.size := World.size_setCell _ _ _
      have HTW : Hid (∀ k, k < w.heap.size → k ≠ B → W5.heap[k]? = w.heap[k]?) := fun k hk hkB => (HW0.out.block k (by rw [hwe]; exact hk)).trans (Below.heap_setCell _ _ _ _ (by simpa using hkB))
      clear kR cr cb HZ5 HZ6 HREA
      by_cases hbig : 1048576 < wd + rl
      · have hbig' : decide ((1048576 : Int) < wd + rl) = true := by simpa using hbig
        have HBIG := hide hbig
        clear hbig b2 z12 z13 z14 z15 hwe
        go_wp2_with fail
        refine bodyPost_ret (v := .int .i64 4) ?_ rfl ⟨4, rfl, ⟨HW0.out.os, HW0.out.tape, HW0.out.output, by have := HW0.out.size; rw [World.size_setCell] at this; exact this, fun k hk hB _ => HTW.out k hk hB⟩, .inr (.inl ⟨rfl, by rw [HQ1.out], ?_⟩)⟩
        · simp [results, Tryz.results62, go_sem]
        · rw [HQ1.out]; simp only; rw [HRL.out]; exact HBIG.out
      · have hbig' : decide ((1048576 : Int) < wd + rl) = false := by simpa using hbig
        have HBIG := hide hbig
        obtain ⟨cs, hown, hrow⟩ := HI.out.row
        have hloB := HI.out.lt
        have hlow := HI.out.le
        have hown0 := ownsRow_setCell_below hown (a := ⟨B, 3, none⟩) (by simpa using hloB) (.int .i64 (wd + rl))
        have hrow0 := hrow.grown (grown_set (World.grownBy.refl w (some B)) 3 (.int .i64 (wd + rl))) (fun g e => by simp only [Option.some.injEq] at e; subst e; exact .inl hloB)
        have hown5 := own_below hown0 HW0.out
        have hob : ∀ g, v.ownBlock = some g → lo ≤ g ∧ g < w.heap.size := fun g e => hown.lt g e
        obtain ⟨i0, hi, hz0, hz1, hz2⟩ := info_parts Inst7.info
        have hba : Below W5.heap.size W5 (W5.alloc (.cells #[.int .u16 (o : Int), .int .u32 t, .int .u32 r, .slice ax m cx] 41)).drew := ((Below.refl _ W5).alloc (Nat.le_refl _) _).drew
        have hszw : w.heap.size ≤ W5.heap.size := by have := HW0.out.size; rw [hwe] at this; exact this
        have HBA5 := hide hba
        have HROW0 := hide hrow0
        have HOWN5 := hide hown5
        have HOB := hide hob
        have HSX := hide HSZ5.out
        have HSYZ : Hid ((W5.alloc (.cells #[.int .u16 (o : Int), .int .u32 t, .int .u32 r, .slice ax m cx] 41)).drew.heap.size = W5.heap.size + 1) := by show (W5.alloc _).heap.size = _; simp
        have lB5 : B < W5.heap.size := by omega
        have lW5 : W.heap.size < W5.heap.size := HSZ5.out.2
        clear hbig hown hrow hown0 hrow0 hown5 hba HI HSZ5 hob hwe
        go_wp2_with fail
        go_region_law ((refine step_append_lies _ (by rfl) _ _ _ (by rfl) lo 41 i0 (.agg #[.int .u16 0, .int .u32 0, .int .u32 0, .slice none 0 0]) 4 40 Tryz.underlying23 hi hz0 hz1 hz2 rfl (by omega) v xs.length cs (by rfl) ((HOWN5.out.alloc _).drew) ⟨W5.heap.size, 0, none⟩ 1 1 [.int .u16 (o : Int), .int .u32 t, .int .u32 r, .slice ax m cx] (by rfl) (by rfl) (World.news_of_block (cs := #[.int .u16 (o : Int), .int .u32 t, .int .u32 r, .slice ax m cx]) (t := 41) (fr := (0, 0)) (heap_alloc_new W5 _)) (by simp [Value.oneCell']) (by omega) (by unfold maxLen; omega) (by omega) (by simp; omega) (W5.heap.size + 1) (by simp) ?_; intro g6 cap6 w6 hown6 hgrow6 hat6 hlt6; have HB6 : Hid (MBld w6 B gen bnd v (wd + rl)) := (hgrow6.block B (by simp; omega) (fun e => by have := HOB.out B e.symm; omega)).trans ((HBA5.out.block B lB5).trans HB5.out); have d2 : w6.cell? ⟨B, 2, none⟩ = some v := (blk_cells HB6.out).1 2; have e2 : w6.frozen? ⟨B, 2, none⟩ = false := (blk_cells HB6.out).2 2; have HO6 := hide hown6; have HG6 := hide hgrow6; have HA6 := hide hat6; clear hown6 hgrow6 hat6))
        all_goals
          have hpush := RowI.push (w0 := w.setCell ⟨B, 3, none⟩ (.int .i64 (wd + rl))) (x := ((o : Int), t, r, ys)) HROW0.out (HW0.out.trans (HBA5.out.mono HW0.out.size)) (own_mono7 (own_below HO5.out HBA5.out) (B' := (w.setCell ⟨B, 3, none⟩ (.int .i64 (wd + rl))).heap.size) (by rw [World.size_setCell]; have := HSX.out; omega)) HQ.out.1 (fun b e => by rw [World.size_setCell]; exact (HOB.out b e).2) (by rw [World.size_setCell]; exact hlow) HG6.out (by rw [HSYZ.out]; exact HA6.out)
          have HB7 := hide (HB6.out.setInsts (.slice (some ⟨g6, 0, none⟩) (xs.length + 1) cap6))
          have HO7 := hide (ownsRow_setCell_below HO6.out (a := ⟨B, 2, none⟩) (by simpa using hloB) (.slice (some ⟨g6, 0, none⟩) (xs.length + 1) cap6))
          have HR7 := hide (hpush.grown (grown_set (World.grownBy.refl w6 (some B)) 2 (.slice (some ⟨g6, 0, none⟩) (xs.length + 1) cap6)) (fun g e => by simp only [Option.some.injEq] at e; subst e; exact .inl hloB))
          have HT7 : Hid (Two w B v.ownBlock (w6.setCell ⟨B, 2, none⟩ (.slice (some ⟨g6, 0, none⟩) (xs.length + 1) cap6))) := by
            have h0 := HW0.out
            have h5 := HBA5.out
            have h6 := HG6.out
            refine ⟨h6.os.trans (h5.os.trans h0.os), h6.tape.trans (h5.tape.trans h0.tape), h6.output.trans (h5.output.trans h0.output), ?_, fun k hk hB hne => ?_⟩
            · rw [World.size_setCell]; exact Nat.le_trans hszw (Nat.le_trans h5.size h6.size)
            · rw [Below.heap_setCell _ _ _ _ (by simpa using hB)]
              exact (h6.block k (by rw [HSYZ.out]; omega) hne).trans ((h5.block k (by omega)).trans (HTW.out k hk hB))
          have HLE7 : Hid (lo ≤ (w6.setCell ⟨B, 2, none⟩ (.slice (some ⟨g6, 0, none⟩) (xs.length + 1) cap6)).heap.size) := by
            show _ ≤ _
            rw [World.size_setCell]
            have := HG6.out.size
            rw [HSYZ.out] at this
            omega
          clear hpush HB6 HO6 HG6 HA6 d2 e2 b3 b2 z12 z13 z14 z15 HO5 HW0 HBA5 HROW0 HOWN5
          generalize w6.setCell ⟨B, 2, none⟩ (.slice (some ⟨g6, 0, none⟩) (xs.length + 1) cap6) = Z at *
          go_wp2_with fail
          refine bodyPost_ret (v := .int .i64 0) ?_ rfl ⟨0, rfl, HT7.out, .inr (.inr ?_)⟩
          · simp [results, Tryz.results62, go_sem]
          · rw [HQ1.out]
            refine ⟨rfl, rfl, HQ.out.2.1, HQ.out.2.2, by rw [HRL.out]; have := HBIG.out; omega, .slice (some ⟨g6, 0, none⟩) (xs.length + 1) cap6, by rw [HRL.out]; exact HB7.out, ⟨⟨_, by rw [List.length_append]; exact HO7.out, HR7.out⟩, hloB, HLE7.out⟩⟩

end Go.Proofs.YtmobologlaeefaaGreat

/-
  What Line of the layer asm returns.
-/
namespace Go.Proofs.YtmobologlaeefaaGreat
open Go.RowKit
set_option linter.unusedVariables false
set_option linter.unusedSimpArgs false
set_option maxRecDepth 10000

theorem wok_kind {l : List TokT} (h : wOk l = true) : ∀ t ∈ l, t.1 ≠ 0 := by
  intro t ht e
  have := List.all_eq_true.1 h t ht
  rw [e] at this
  simp [tokOk] at this
/-- The boxes of an instruction and a spot are written. -/
theorem six_put {W : World} {b T S : Nat} {x0 x1 x2 x3 y0 y1 : Value} (kT : W.heap[b]? = some (.cells #[x0, x1, x2, x3] T (0, 0))) (kS : W.heap[b + 1]? = some (.cells #[y0, y1] S (0, 0))) (u0 u1 u2 u3 v0 v1 : Value) :
    ((((((W.setCell ⟨b, 0, none⟩ u0).setCell ⟨b, 1, none⟩ u1).setCell ⟨b, 2, none⟩ u2).setCell ⟨b, 3, none⟩ u3).setCell ⟨b + 1, 0, none⟩ v0).setCell ⟨b + 1, 1, none⟩ v1).heap[b]? = some (.cells #[u0, u1, u2, u3] T (0, 0)) ∧ ((((((W.setCell ⟨b, 0, none⟩ u0).setCell ⟨b, 1, none⟩ u1).setCell ⟨b, 2, none⟩ u2).setCell ⟨b, 3, none⟩ u3).setCell ⟨b + 1, 0, none⟩ v0).setCell ⟨b + 1, 1, none⟩ v1).heap[b + 1]? = some (.cells #[v0, v1] S (0, 0)) ∧
      Below b W ((((((W.setCell ⟨b, 0, none⟩ u0).setCell ⟨b, 1, none⟩ u1).setCell ⟨b, 2, none⟩ u2).setCell ⟨b, 3, none⟩ u3).setCell ⟨b + 1, 0, none⟩ v0).setCell ⟨b + 1, 1, none⟩ v1) := by
  refine ⟨?_, ?_, ?_⟩
  · simp only [World.setCell, Array.getElem?_modify, kT]; simp
  · simp only [World.setCell, Array.getElem?_modify, kS]; simp
  · exact ((((((Below.refl b W).setCell (Nat.le_refl _) _).setCell (Nat.le_refl _) _).setCell (Nat.le_refl _) _).setCell (Nat.le_refl _) _).setCell (by simp) _).setCell (by simp) _

theorem six_drew {W : World} {b T S : Nat} {x0 x1 x2 x3 y0 y1 : Value} (kT : W.heap[b]? = some (.cells #[x0, x1, x2, x3] T (0, 0))) (kS : W.heap[b + 1]? = some (.cells #[y0, y1] S (0, 0))) (u0 u1 u2 u3 v0 v1 : Value) :
    (((((((W.setCell ⟨b, 0, none⟩ u0).setCell ⟨b, 1, none⟩ u1).setCell ⟨b, 2, none⟩ u2).setCell ⟨b, 3, none⟩ u3).setCell ⟨b + 1, 0, none⟩ v0).setCell ⟨b + 1, 1, none⟩ v1).drew).heap[b]? = some (.cells #[u0, u1, u2, u3] T (0, 0)) ∧ (((((((W.setCell ⟨b, 0, none⟩ u0).setCell ⟨b, 1, none⟩ u1).setCell ⟨b, 2, none⟩ u2).setCell ⟨b, 3, none⟩ u3).setCell ⟨b + 1, 0, none⟩ v0).setCell ⟨b + 1, 1, none⟩ v1).drew).heap[b + 1]? = some (.cells #[v0, v1] S (0, 0)) ∧ Below b W (((((((W.setCell ⟨b, 0, none⟩ u0).setCell ⟨b, 1, none⟩ u1).setCell ⟨b, 2, none⟩ u2).setCell ⟨b, 3, none⟩ u3).setCell ⟨b + 1, 0, none⟩ v0).setCell ⟨b + 1, 1, none⟩ v1).drew) := by
  obtain ⟨h1, h2, h3⟩ := six_put kT kS u0 u1 u2 u3 v0 v1
  generalize ((((((W.setCell ⟨b, 0, none⟩ u0).setCell ⟨b, 1, none⟩ u1).setCell ⟨b, 2, none⟩ u2).setCell ⟨b, 3, none⟩ u3).setCell ⟨b + 1, 0, none⟩ v0).setCell ⟨b + 1, 1, none⟩ v1) = Y at *
  exact ⟨h1, h2, h3.drew⟩
theorem six_own {W : World} {b B e size n : Nat} {v : Value} {xs : List Value} (h : W.ownsRow B e size v n xs) (hB : b + 1 < B) (u0 u1 u2 u3 v0 v1 : Value) : ((((((W.setCell ⟨b, 0, none⟩ u0).setCell ⟨b, 1, none⟩ u1).setCell ⟨b, 2, none⟩ u2).setCell ⟨b, 3, none⟩ u3).setCell ⟨b + 1, 0, none⟩ v0).setCell ⟨b + 1, 1, none⟩ v1).ownsRow B e size v n xs :=
  ownsRow_setCell_below (ownsRow_setCell_below (ownsRow_setCell_below (ownsRow_setCell_below (ownsRow_setCell_below (ownsRow_setCell_below h (a := ⟨b, 0, none⟩) (by simp; omega) _) (a := ⟨b, 1, none⟩) (by simp; omega) _) (a := ⟨b, 2, none⟩) (by simp; omega) _) (a := ⟨b, 3, none⟩) (by simp; omega) _) (a := ⟨b + 1, 0, none⟩) (by simp; omega) _) (a := ⟨b + 1, 1, none⟩) (by simp; omega) _

end Go.Proofs.YtmobologlaeefaaGreat

/-
  What the method add of a builder returns, of the layer asm.
-/
namespace Go.Proofs.YtmobologlaeefaaGreat
open Go.RowKit
set_option linter.unusedVariables false
set_option linter.unusedSimpArgs false
set_option maxRecDepth 10000

/-- A module while its lines are read: its generator, its bound, its words (0: no head yet), its instructions. -/
abbrev ModT := Int × Int × Int × List InstT
/-- A line more: what is wrong, and the module. -/
def addS (st : ModT) (s : ByteArray) : Int × ModT :=
  if (toksP (strI s) 0).2.1 ≠ 0 ∨ (toksP (strI s) 0).1 = [] then ((toksP (strI s) 0).2.1, st)
  else if st.2.2.1 = 0 then
    (if (headP (toksP (strI s) 0).1 s.size).2.2.1 ≠ 0 then ((headP (toksP (strI s) 0).1 s.size).2.2.1, st) else (0, ((headP (toksP (strI s) 0).1 s.size).1, (headP (toksP (strI s) 0).1 s.size).2.1, 5, [])))
  else if (lineP (toksP (strI s) 0).1 s.size st.2.1).2.1 = false then ((lineP (toksP (strI s) 0).1 s.size st.2.1).2.2.1, st)
  else if 1048576 < st.2.2.1 + (1 + ((rawWs (lineP (toksP (strI s) 0).1 s.size st.2.1).1 st.2.1).length : Int)) then (4, st)
  else (0, (st.1, st.2.1, st.2.2.1 + (1 + ((rawWs (lineP (toksP (strI s) 0).1 s.size st.2.1).1 st.2.1).length : Int)), st.2.2.2 ++ [(lineP (toksP (strI s) 0).1 s.size st.2.1).1]))

/-- A module that is being read, in memory. -/
structure ModAt (w : World) (B lo : Nat) (v : Value) (st : ModT) : Prop where
  bld : MBld w B st.1 st.2.1 v st.2.2.1
  insts : Insts w B lo v st.2.2.2
  words : 0 ≤ st.2.2.1 ∧ st.2.2.1 ≤ 1048576 ∧ (st.2.2.2.length : Int) ≤ st.2.2.1
  ok : InstsOk st.2.2.2
theorem Insts.below {w w' : World} {B lo : Nat} {v : Value} {xs : List InstT} (h : Insts w B lo v xs) (hb : Below w.heap.size w w') : Insts w' B lo v xs := by
  obtain ⟨cs, h1, h2⟩ := h.row
  exact ⟨⟨cs, own_below h1 hb, h2.below hb⟩, h.lt, Nat.le_trans h.le hb.size⟩
theorem ModAt.below {w w' : World} {B lo : Nat} {v : Value} {st : ModT} (h : ModAt w B lo v st) (hb : Below w.heap.size w w') : ModAt w' B lo v st := ⟨h.bld.below hb, h.insts.below hb, h.words, h.ok⟩
theorem Two.mono {w w1 w2 : World} {B : Nat} {ob : Option Nat} (hb : Below w.heap.size w w1) (h : Two w1 B ob w2) : Two w B ob w2 :=
  ⟨h.os.trans hb.os, h.tape.trans hb.tape, h.output.trans hb.output, Nat.le_trans hb.size h.size, fun k hk h1 h2 => (h.block k (Nat.lt_of_lt_of_le hk hb.size) h1 h2).trans (hb.block k hk)⟩
theorem instsOk_push {xs : List InstT} {x : InstT} (h : InstsOk xs) (hx : InstOk x) : InstsOk (xs ++ [x]) := by
  intro j hj
  rw [List.length_append, List.length_singleton] at hj
  by_cases hl : j < xs.length
  · have : nthI (xs ++ [x]) j = nthI xs j := by simp [nthI, List.getD, List.getElem?_append_left hl]
    rw [this]; exact h j hl
  · obtain rfl : j = xs.length := by omega
    have : nthI (xs ++ [x]) xs.length = x := by simp [nthI, List.getD]
    rw [this]; exact hx

set_option maxHeartbeats 8000000 in
theorem addLine_any (B lo : Nat) (v : Value) (st : ModT) (s : ByteArray) (w : World) (h : ModAt w B lo v st) (hs : s.size ≤ 16777216) :
    Calls Tryz.prog 30 #[.pointer (some ⟨B, 0, none⟩), .string s] w fun e w' => e = .returned (.int .i64 (addS st s).1) ∧ Two w B v.ownBlock w' ∧ ((addS st s).1 = 0 → ∃ v', ModAt w' B lo v' (addS st s).2) := by
  have hT := fun wx => rowOf_any s wx (by omega)
  obtain ⟨g1, _, g3, g4, _⟩ := toks_good (strI_within s) 0
  have hIn := toksIn_of (l := (toksP (strI s) 0).1) (n := (strI s).length) (by rw [strI_len]; omega) g4
  have hkd := wok_kind g1
  rw [strI_len] at g3
  obtain ⟨gen, bnd, wd, xs⟩ := st
  obtain ⟨RR, hRR⟩ : ∃ RR, RR = addS (gen, bnd, wd, xs) s := ⟨_, rfl⟩
  rw [← hRR]
  unfold addS at hRR
  simp only at hRR
  obtain ⟨T, hTT⟩ : ∃ T, T = toksP (strI s) 0 := ⟨_, rfl⟩
  rw [← hTT] at hT hRR g3 hIn hkd
  clear hTT g4 g1
  obtain ⟨l, er, at_⟩ := T
  simp only at hT hRR g3 hIn hkd
  have HRR := hide hRR
  have HM := hide h
  have HIN := hide hIn
  have HKD := hide hkd
  have HG3 := hide g3
  clear hRR h hIn hkd g3
  go_enter Tryz.func30, Tryz.ntmps30
  go_wp2_with fail
  refine (hT _).mono ?_
  rintro e w1 ⟨a1, c1, rfl, hrow, hb1⟩
  obtain ⟨hv, hfar⟩ := toks_of_own hrow rfl
  have hba : Below w1.heap.size w1 ((w1.alloc (.cells #[.slice a1 l.length c1, .int .i64 0, .int .i64 (s.size : Int)] 122)).alloc (.cells #[.int .i64 er, .int .i64 at_] 28)) := ((Below.refl _ w1).alloc (Nat.le_refl _) _).alloc (by simp) _
  have hb1a := hb1.trans (hba.mono hb1.size)
  have hR1 : RowAt ((w1.alloc (.cells #[.slice a1 l.length c1, .int .i64 0, .int .i64 (s.size : Int)] 122)).alloc (.cells #[.int .i64 er, .int .i64 at_] 28)) w1.heap.size a1 l.length c1 0 (s.size : Int) #[] 122 := (Below.heap_alloc _ _ _ (by simp)).trans (heap_alloc_new w1 _)
  have kP : ((w1.alloc (.cells #[.slice a1 l.length c1, .int .i64 0, .int .i64 (s.size : Int)] 122)).alloc (.cells #[.int .i64 er, .int .i64 at_] 28)).heap[w1.heap.size + 1]? = some (.cells #[.int .i64 er, .int .i64 at_] 28 (0, 0)) := by simpa using heap_alloc_new (w1.alloc (.cells #[.slice a1 l.length c1, .int .i64 0, .int .i64 (s.size : Int)] 122)) (.cells #[.int .i64 er, .int .i64 at_] 28)
  have hE := ended_any w1.heap.size a1 l.length c1 0 (s.size : Int) #[] 122 _ hR1
  have HM1 := hide (HM.out.below hb1a)
  have HV1 := hide (hv.below hba)
  have HB1 := hide hb1a
  have HR1 := hide hR1
  have HP1 := hide kP
  have HFAR : Hid (∀ b off, a1 = some ⟨b, off, none⟩ → b < w1.heap.size) := fun b off e => (hfar b off e).2
  have HSZ : Hid (w1.heap.size + 1 < ((w1.alloc (.cells #[.slice a1 l.length c1, .int .i64 0, .int .i64 (s.size : Int)] 122)).alloc (.cells #[.int .i64 er, .int .i64 at_] 28)).heap.size) := by show _ < _; simp
  clear hT hrow hb1 hv hfar hba hb1a hR1 kP HM
  by_cases he : er = 0
  · subst he
    by_cases hl0 : l = []
    · subst hl0
      rw [show (((0 : Nat) : Int) == ((([] : List TokT).length : Nat) : Int)) = true by simp] at hE
      simp only [List.length_nil] at *
      go_wp2_with fail
      generalize (w1.alloc (.cells #[.slice a1 0 c1, .int .i64 0, .int .i64 (s.size : Int)] 122)).alloc (.cells #[.int .i64 0, .int .i64 at_] 28) = W at *
      refine hE.mono ?_
      rintro x w3 ⟨rfl, q, rfl⟩
      have hbq := bel_drewN (Below.refl W.heap.size W) q
      have k0 : (W.drewN q).cell? ⟨w1.heap.size + 1, 0, none⟩ = some (.int .i64 0) := (blk_cells ((hbq.block _ HSZ.out).trans HP1.out)).1 0
      have HM3 := hide (HM1.out.below hbq)
      have HB3 := hide (HB1.out.trans (hbq.mono HB1.out.size))
      clear hE hbq
      generalize W.drewN q = W3 at *
      go_wp2_with fail
      refine bodyPost_ret (v := .int .i64 0) ?_ rfl ?_
      · simp [results, Tryz.results30, go_sem]
      · rw [HRR.out, if_pos (.inr trivial)]
        exact ⟨rfl, Two.of_below HB3.out, fun _ => ⟨v, HM3.out⟩⟩
    · have hln : 0 < l.length := List.length_pos_iff.2 hl0
      rw [show (((0 : Nat) : Int) == (l.length : Int)) = false by simp; omega] at hE
      have hRR := HRR.out
      rw [if_neg (by simpa using hl0)] at hRR
      have HRR2 := hide hRR
      clear hRR HRR
      go_wp2_with fail
      generalize (w1.alloc (.cells #[.slice a1 l.length c1, .int .i64 0, .int .i64 (s.size : Int)] 122)).alloc (.cells #[.int .i64 0, .int .i64 at_] 28) = W at *
      refine hE.mono ?_
      rintro x w3 ⟨rfl, q, rfl⟩
      have hbq := bel_drewN (Below.refl W.heap.size W) q
      have HM3 := hide (HM1.out.below hbq)
      have HB3 := hide (HB1.out.trans (hbq.mono HB1.out.size))
      have HV3 := hide (HV1.out.below hbq)
      have HR3 := hide (HR1.out.below hbq)
      have HSZ3 : Hid (w1.heap.size + 1 < (W.drewN q).heap.size) := Nat.lt_of_lt_of_le HSZ.out hbq.size
      clear hE hbq HM1 HB1 HV1 HR1 HP1 HSZ
      generalize W.drewN q = W3 at *
      have hHd := headed_any B gen bnd v wd W3 HM3.out.bld
      obtain ⟨r0, r1, r2, _⟩ := HR3.out.cells
      have hw := HM3.out.words
      simp only at hw
      by_cases hwd : wd = 0
      · subst hwd
        rw [show decide ((0 : Int) < 0) = false by decide] at hHd
        have hAH := addHead_any B gen bnd v 0 a1 l.length c1 (s.size : Int) l W3 HM3.out.bld HV3.out rfl (by have := HG3.out; omega) HIN.out (fun b off e => by have := HFAR.out b off e; have := HSZ3.out; omega)
        have hRR := HRR2.out
        rw [if_pos rfl] at hRR
        generalize headP l (s.size : Int) = H at *
        obtain ⟨H1, H2, H3, H4⟩ := H
        simp only at hAH hRR
        have HRR3 := hide hRR
        clear hRR HRR2 hw
        go_wp2_with fail
        refine hHd.mono ?_
        rintro x w4 ⟨rfl, rfl⟩
        clear hHd
        go_wp2_with fail
        refine hAH.mono ?_
        rintro x w5 ⟨rfl, hg5, hq5⟩
        have HG5 := hide hg5
        have HQ5 := hide hq5
        clear hAH hg5 hq5
        go_wp2_with fail
        refine bodyPost_ret (v := .int .i64 H3) ?_ rfl ?_
        · simp [results, Tryz.results30, go_sem]
        · by_cases hz : H3 = 0
          · rw [HRR3.out, if_neg (by simpa using hz)]
            refine ⟨by rw [hz], Two.mono HB3.out (Two.of_grown HG5.out), fun _ => ⟨.slice none 0 0, ⟨HQ5.out hz, ⟨⟨[], World.ownsRow_nil _ _ _ _, rowI_nil⟩, HM3.out.insts.lt, Nat.le_trans HM3.out.insts.le HG5.out.size⟩, by simp, fun j hj => by simp at hj⟩⟩⟩
          · rw [HRR3.out, if_pos hz]
            exact ⟨rfl, Two.mono HB3.out (Two.of_grown HG5.out), fun h => absurd h hz⟩
      · rw [show decide (0 < wd) = true by simp; omega] at hHd
        have hAI := addInst_any B lo gen bnd v wd xs a1 l.length c1 (s.size : Int) l W3 HM3.out.bld HM3.out.insts hw.1 hw.2.1 (by omega) HV3.out rfl (by have := HG3.out; omega) HIN.out HKD.out hln (fun b off e => by have := HFAR.out b off e; have := HSZ3.out; omega)
        have hRR := HRR2.out
        rw [if_neg hwd] at hRR
        generalize lineP l (s.size : Int) bnd = R at *
        have HRR3 := hide hRR
        have HW := hide hw
        clear hRR HRR2 hw
        go_wp2_with fail
        refine hHd.mono ?_
        rintro x w4 ⟨rfl, rfl⟩
        clear hHd
        go_wp2_with fail
        refine hAI.mono ?_
        rintro x w5 ⟨E, rfl, hT5, hq5⟩
        have HT5 := hide hT5
        have HQ5 := hide hq5
        clear hAI hT5 hq5
        go_wp2_with fail
        refine bodyPost_ret (v := .int .i64 E) ?_ rfl ?_
        · simp [results, Tryz.results30, go_sem]
        · rcases HQ5.out with ⟨q1, q2, q3⟩ | ⟨rfl, q2, q3⟩ | ⟨rfl, q2, q3, q4, q5, v', q6, q7⟩
          · rw [HRR3.out, if_pos q2]
            exact ⟨by rw [q3], Two.mono HB3.out HT5.out, fun h => absurd (q3.trans h) q1⟩
          · rw [HRR3.out, if_neg (by rw [q2]; simp), if_pos q3]
            exact ⟨rfl, Two.mono HB3.out HT5.out, fun h => by simp at h⟩
          · rw [HRR3.out, if_neg (by rw [q2]; simp), if_neg (by omega)]
            refine ⟨rfl, Two.mono HB3.out HT5.out, fun _ => ⟨v', ⟨q6, q7, ⟨by have := HW.out; simp only; omega, q5, ?_⟩, instsOk_push HM3.out.ok q3⟩⟩⟩
            have := HW.out
            simp only [List.length_append, List.length_singleton]
            omega
  · have he' : (er != 0) = true := by simpa using he
    have HE := hide he
    have k0 : ((w1.alloc (.cells #[.slice a1 l.length c1, .int .i64 0, .int .i64 (s.size : Int)] 122)).alloc (.cells #[.int .i64 er, .int .i64 at_] 28)).cell? ⟨w1.heap.size + 1, 0, none⟩ = some (.int .i64 er) := (blk_cells HP1.out).1 0
    clear he hE
    go_wp2_with fail
    refine bodyPost_ret (v := .int .i64 er) ?_ rfl ?_
    · simp [results, Tryz.results30, go_sem]
    · rw [HRR.out, if_pos (.inl HE.out)]
      exact ⟨rfl, Two.of_below HB1.out, fun h => absurd h HE.out⟩

end Go.Proofs.YtmobologlaeefaaGreat

/-
  Plain facts on what a line says: where it says no instruction, none is answered.
-/
namespace Go.Proofs.YtmobologlaeefaaGreat
open Go.RowKit
set_option linter.unusedVariables false
set_option linter.unusedSimpArgs false
set_option maxRecDepth 10000

end Go.Proofs.YtmobologlaeefaaGreat

/-
  Plain facts on what a line says: an instruction that it says can be written; what it says else is an error, unless it says nothing.
-/
namespace Go.Proofs.YtmobologlaeefaaGreat
open Go.RowKit
set_option linter.unusedVariables false
set_option linter.unusedSimpArgs false
set_option maxRecDepth 10000

/-- What a line says is an instruction that can be written. -/
def Says (R : LineR) (b : Int) : Prop := R.2.1 = true → InstOk R.1 ∧ rawE R.1 b = 0 ∧ R.2.2.1 = 0 ∧ R.2.2.2 = 0
theorem says_no (e p b : Int) : Says (noLine e p) b := fun h => by simp [noLine] at h
theorem lineA_says {o : Nat} {t r : Int} {l : List TokT} {at_ : Nat} {len b : Int} (hh : HeadOk o t r b) (hin : ToksIn l) (hn : 24 * l.length ≤ 140737488351232) (hat : at_ ≤ l.length) : Says (lineA o (opF o) t r l at_ len b) b := by
  obtain ⟨⟨hk1, hk2, hk3, hk4, hk5⟩, hk6, hk7, hk8⟩ := hh
  cases hb : badArg (opF o) b l at_ with
  | some k => unfold lineA; rw [hb]; exact says_no _ _ _
  | none =>
    have h0 := badArg_none hb
    rw [lineA_ok h0]
    split
    · exact says_no _ _ _
    · rename_i hw
      have hw' : wholeN (opF o) ((l.length - at_ : Nat) : Int) = true := by simpa using hw
      have hraw := line_raw (o := (o : Int)) (f := opF o) (t := t) (r := r) (b := b) (l := l) (at_ := at_) (n := l.length - at_) rfl hk1 (fun j hj => h0 j (by omega)) hin (by omega) hw' hk6 hk3
      obtain ⟨ga, _, _⟩ := args_right (o := (o : Int)) (f := opF o) (b := b) (l := l) (at_ := at_) (n := l.length - at_) rfl (fun j hj => h0 j (by omega)) hin (by omega)
      have hlen := argsN_len (opF o) b l at_ (l.length - at_)
      split
      · exact says_no _ _ _
      · rename_i hbig
        rw [if_neg hbig] at hraw
        exact fun _ => ⟨⟨by simp, by simp; omega, hk7, hk8, hk4, hk5, ga, by simp only [hlen]; omega⟩, hraw, rfl, rfl⟩
theorem lineT_says {o : Nat} {r : Int} {l : List TokT} {at_ : Nat} {len b : Int} (hh : ResOk o r b) (hin : ToksIn l) (hn : 24 * l.length ≤ 140737488351232) (hat : at_ ≤ l.length) : Says (lineT o (opF o) r l at_ len b) b := by
  unfold lineT
  by_cases h1 : (opF o).2.1 = false
  · rw [if_pos h1]; exact lineA_says ⟨hh, by rw [h1]; simp [idE], by omega, by omega⟩ hin hn hat
  · rw [if_neg h1]
    by_cases h2 : l.length ≤ at_
    · rw [if_pos h2]; exact says_no _ _ _
    · rw [if_neg h2]
      by_cases h3 : argE 105 (nthT l at_) b = 0
      · rw [if_neg (by simpa using h3)]
        obtain ⟨q1, q2, q3, _⟩ := arg_id h3
        exact lineA_says ⟨hh, by rw [show (opF o).2.1 = true by simpa using h1]; exact q1, q2, q3⟩ hin hn (by omega)
      · rw [if_pos h3]; exact says_no _ _ _
theorem lineO_says {said : Bool} {l : List TokT} {at_ : Nat} {len b : Int} (hin : ToksIn l) (hn : 24 * l.length ≤ 140737488351232) : Says (lineO said l at_ len b) b := by
  unfold lineO
  by_cases h1 : l.length ≤ at_
  · rw [if_pos h1]; exact says_no _ _ _
  · rw [if_neg h1]
    by_cases h2 : (nthT l at_).1 = 1
    · rw [if_neg (by simpa using h2)]
      cases ho : opsL.find? (namP (nthT l at_).2.1) with
      | none => exact says_no _ _ _
      | some o =>
        simp only
        by_cases h3 : (opF o).2.2.1 = said
        · rw [if_neg (by simpa using h3)]
          by_cases h4 : said = true ∧ idP (nthT l 0).2.1 b ≠ 0
          · rw [if_pos h4]; exact says_no _ _ _
          · rw [if_neg h4]
            refine lineT_says ?_ hin hn (by omega)
            cases hsd : said
            · simp only [Bool.false_eq_true, if_false]
              exact ⟨(op_known ho).1, (op_known ho).2, by rw [h3, hsd]; simp [idE], by omega, by omega⟩
            · have hz : idP (nthT l 0).2.1 b = 0 := Classical.byContradiction fun hne => h4 ⟨hsd, hne⟩
              obtain ⟨q1, q2, _, _⟩ := idP_zero hz
              have q5 := num_bounds q1
              simp only [if_true]
              exact ⟨(op_known ho).1, (op_known ho).2, by rw [h3, hsd]; exact idE_none q2, q5.1, q5.2⟩
        · rw [if_pos h3]; exact says_no _ _ _
    · rw [if_pos h2]; exact says_no _ _ _
theorem lineP_says {l : List TokT} {len b : Int} (hin : ToksIn l) (hn : 24 * l.length ≤ 140737488351232) : Says (lineP l len b) b := by
  unfold lineP
  split
  · exact lineO_says hin hn
  · split
    · exact says_no _ _ _
    · split
      · exact says_no _ _ _
      · exact lineO_says hin hn

/-- What is no instruction is an error. -/
def Errs (R : LineR) : Prop := R.2.1 = false → R.2.2.1 ≠ 0
theorem errs_no {e p : Int} (h : e ≠ 0) : Errs (noLine e p) := fun _ => h
theorem lineA_errs {o : Int} {f : Frm} {t r : Int} {l : List TokT} {at_ : Nat} {len b : Int} : Errs (lineA o f t r l at_ len b) := by
  unfold lineA
  cases hb : badArg f b l at_ with
  | some k =>
    have := List.find?_some hb
    exact errs_no (by simpa using this)
  | none =>
    simp only
    split
    · exact errs_no (by decide)
    · split
      · exact errs_no (by decide)
      · exact fun h => by simp at h
theorem lineT_errs {o : Int} {f : Frm} {r : Int} {l : List TokT} {at_ : Nat} {len b : Int} : Errs (lineT o f r l at_ len b) := by
  unfold lineT
  split
  · exact lineA_errs
  · split
    · exact errs_no (by decide)
    · split
      · rename_i h; exact errs_no h
      · exact lineA_errs
theorem lineO_errs {said : Bool} {l : List TokT} {at_ : Nat} {len b : Int} : Errs (lineO said l at_ len b) := by
  unfold lineO
  split
  · exact errs_no (by decide)
  · split
    · exact errs_no (by decide)
    · split
      · exact errs_no (by decide)
      · split
        · exact errs_no (by decide)
        · split
          · rename_i h; exact errs_no h.2
          · exact lineT_errs
theorem lineP_errs {l : List TokT} {len b : Int} : Errs (lineP l len b) := by
  unfold lineP
  split
  · exact lineO_errs
  · split
    · exact errs_no (by decide)
    · split
      · exact errs_no (by decide)
      · exact lineO_errs

/-- A line behind the head, by what it says. -/
theorem addS_headed {st : ModT} {s : ByteArray} (h : st.2.2.1 ≠ 0) (hs : s.size ≤ 16777216) : addS st s = if (lineS s st.2.1).2.2.1 ≠ 0 then ((lineS s st.2.1).2.2.1, st) else if (lineS s st.2.1).2.1 = false then (0, st)
    else if 1048576 < st.2.2.1 + (1 + ((rawWs (lineS s st.2.1).1 st.2.1).length : Int)) then (4, st) else (0, (st.1, st.2.1, st.2.2.1 + (1 + ((rawWs (lineS s st.2.1).1 st.2.1).length : Int)), st.2.2.2 ++ [(lineS s st.2.1).1])) := by
  unfold addS lineS
  by_cases h1 : (toksP (strI s) 0).2.1 ≠ 0 ∨ (toksP (strI s) 0).1 = []
  · rw [if_pos h1, if_pos h1]
    simp only [noLine]
    by_cases h2 : (toksP (strI s) 0).2.1 = 0
    · rw [if_neg (by simpa using h2)]; simp [h2]
    · rw [if_pos h2]
  · rw [if_neg h1, if_neg h1, if_neg h]
    obtain ⟨_, _, g3, g4, _⟩ := toks_good (strI_within s) 0
    have hin := toksIn_of (l := (toksP (strI s) 0).1) (n := (strI s).length) (by rw [strI_len]; omega) g4
    rw [strI_len] at g3
    have hy := lineP_says (l := (toksP (strI s) 0).1) (len := (s.size : Int)) (b := st.2.1) hin (by omega)
    have he := lineP_errs (l := (toksP (strI s) 0).1) (len := (s.size : Int)) (b := st.2.1)
    generalize lineP (toksP (strI s) 0).1 (s.size : Int) st.2.1 = R at *
    cases hb : R.2.1 with
    | false =>
      have := he hb
      rw [if_pos rfl, if_pos this]
    | true =>
      obtain ⟨_, _, q3, _⟩ := hy hb
      simp [q3]

end Go.Proofs.YtmobologlaeefaaGreat

/-
  Lines of a text: the cut at the first byte 10, the lines with their numbers, and what they come to joined.
-/
namespace Go.Proofs.YtmobologlaeefaaGreat
open Go.RowKit
set_option linter.unusedSimpArgs false
set_option linter.unusedVariables false

def nlAt (s : ByteArray) : Int := Lib.indexByte s.data.toList 10
def cutAX (s : ByteArray) : ByteArray := if nlAt s < 0 then s else s.extract 0 (nlAt s).toNat
def cutZ (s : ByteArray) : ByteArray := if nlAt s < 0 then ⟨#[]⟩ else s.extract ((nlAt s).toNat + 1) s.size
def linesF : Nat → Nat → ByteArray → List (Nat × ByteArray)
  | 0, _, _ => []
  | f + 1, n, s => if s.size = 0 then [] else (n, cutAX s) :: linesF f (n + 1) (cutZ s)
def linesT (s : ByteArray) : List (Nat × ByteArray) := linesF s.size 1 s
theorem nl_cases (s : ByteArray) : (nlAt s = -1 ∧ ∀ k : Nat, s.data.toList[k]? ≠ some 10) ∨ (∃ m : Nat, nlAt s = m ∧ m < s.size ∧ s.data.toList[m]? = some 10 ∧ ∀ k : Nat, k < m → s.data.toList[k]? ≠ some 10) := by
  have h := Lib.indexByte_ge s.data.toList 10
  by_cases h0 : nlAt s < 0
  · have e : nlAt s = -1 := by unfold nlAt at *; omega
    exact Or.inl ⟨e, fun k => Lib.indexByte_none e k⟩
  · obtain ⟨m, e⟩ : ∃ m : Nat, nlAt s = m := ⟨(nlAt s).toNat, by omega⟩
    obtain ⟨h1, h2⟩ := Lib.indexByte_some (show Lib.indexByte s.data.toList 10 = m from e)
    refine Or.inr ⟨m, e, ?_, h1, h2⟩
    have := (List.getElem?_eq_some_iff.1 h1).1
    rw [Array.length_toList] at this
    exact this
theorem nl_none {s : ByteArray} (h : ∀ k : Nat, s.data.toList[k]? ≠ some 10) : nlAt s = -1 := by
  rcases nl_cases s with ⟨e, _⟩ | ⟨m, _, _, h1, _⟩
  · exact e
  · exact absurd h1 (h m)
theorem nl_some {s : ByteArray} {o : Nat} (h1 : s.data.toList[o]? = some 10) (h2 : ∀ k : Nat, k < o → s.data.toList[k]? ≠ some 10) : nlAt s = o := by
  rcases nl_cases s with ⟨_, h⟩ | ⟨m, e, _, h3, h4⟩
  · exact absurd h1 (h o)
  · rcases Nat.lt_trichotomy m o with h | h | h
    · exact absurd h3 (h2 m h)
    · rw [e, h]
    · exact absurd h1 (h4 o h)
theorem cutA_size (s : ByteArray) : (cutAX s).size ≤ s.size := by
  unfold cutAX; split
  · exact Nat.le_refl _
  · rw [ByteArray.size_extract]; omega
theorem cutZ_size (s : ByteArray) (h : s.size ≠ 0) : (cutZ s).size < s.size := by
  unfold cutZ; split
  · show 0 < s.size; omega
  · rw [ByteArray.size_extract]; omega
theorem strI_at (s : ByteArray) (k : Nat) : (strI s)[k]? = (s.data.toList[k]?).map fun b => (b.toNat : Int) := by
  simp [strI]
theorem ten_iff (b : UInt8) : (b.toNat : Int) = 10 ↔ b = 10 := by
  constructor
  · intro h
    have : b.toNat = (10 : UInt8).toNat := by show b.toNat = 10; omega
    exact UInt8.toNat_inj.1 this
  · rintro rfl; rfl
theorem strI_ten (s : ByteArray) (k : Nat) : (strI s)[k]? = some 10 ↔ s.data.toList[k]? = some 10 := by
  rw [strI_at]
  cases s.data.toList[k]? with
  | none => simp
  | some b => simp [ten_iff]

theorem cut_none {s : ByteArray} (h : nlAt s = -1) : cutAX s = s ∧ cutZ s = ⟨#[]⟩ := by unfold cutAX cutZ; rw [h]; simp
theorem cut_some {s : ByteArray} {m : Nat} (h : nlAt s = m) : cutAX s = s.extract 0 m ∧ cutZ s = s.extract (m + 1) s.size := by
  unfold cutAX cutZ; rw [h]; simp only [show ¬ ((m : Int) < 0) by omega, if_false, Int.toNat_natCast]; exact ⟨trivial, trivial⟩
theorem cut_ten (s : ByteArray) : ∀ k : Nat, (cutAX s).data.toList[k]? ≠ some 10 := by
  intro k hk
  rw [← strI_ten] at hk
  rcases nl_cases s with ⟨e, h⟩ | ⟨m, e, hm, h1, h2⟩
  · rw [(cut_none e).1, strI_ten] at hk; exact h k hk
  · rw [(cut_some e).1, strI_extract] at hk
    have hlt := (List.getElem?_eq_some_iff.1 hk).1
    simp only [List.drop_zero, List.length_take] at hlt hk
    rw [List.getElem?_take_of_lt (by omega), strI_ten] at hk
    exact h2 k (by omega) hk
theorem linesF_empty (f n : Nat) (s : ByteArray) (h : s.size = 0) : linesF f n s = [] := by
  cases f with
  | zero => rfl
  | succ f => rw [linesF, if_pos h]
theorem linesF_step (f n : Nat) (s : ByteArray) (h : s.size ≠ 0) (hf : s.size ≤ f) : ∃ f', linesF f n s = (n, cutAX s) :: linesF f' (n + 1) (cutZ s) ∧ (cutZ s).size ≤ f' := by
  cases f with
  | zero => omega
  | succ f =>
    have := cutZ_size s h
    exact ⟨f, by rw [linesF, if_neg h], by omega⟩
theorem lines_at (f : Nat) : ∀ (n : Nat) (s : ByteArray) (k : Nat) (x : Nat × ByteArray), (linesF f n s)[k]? = some x → x.1 = n + k ∧ x.2.size ≤ s.size ∧ ∀ j : Nat, x.2.data.toList[j]? ≠ some 10 := by
  induction f with
  | zero => intro n s k x h; simp [linesF] at h
  | succ f ih =>
    intro n s k x h
    rw [linesF] at h
    split at h
    · simp at h
    · rename_i h0
      cases k with
      | zero =>
        simp at h; subst h
        exact ⟨rfl, cutA_size s, cut_ten s⟩
      | succ k =>
        simp at h
        obtain ⟨h1, h2, h3⟩ := ih _ _ _ _ h
        have := cutZ_size s h0
        exact ⟨by omega, by omega, h3⟩
theorem lines_len (f : Nat) : ∀ (n : Nat) (s : ByteArray), (linesF f n s).length ≤ s.size := by
  induction f with
  | zero => intro n s; simp [linesF]
  | succ f ih =>
    intro n s
    rw [linesF]
    split
    · simp
    · rename_i h0
      have := cutZ_size s h0
      have := ih (n + 1) (cutZ s)
      simp only [List.length_cons]; omega
theorem pre_at {s : ByteArray} {pre : List (Nat × ByteArray)} {x : Nat × ByteArray} (h : pre ++ [x] <+: linesT s) : x.1 = pre.length + 1 ∧ x.2.size ≤ s.size ∧ (∀ j : Nat, x.2.data.toList[j]? ≠ some 10) ∧ pre.length < (linesT s).length ∧ (linesT s)[pre.length]? = some x := by
  obtain ⟨r, e⟩ := h
  have e2 : (linesT s)[pre.length]? = some x := by rw [← e]; simp
  obtain ⟨h1, h2, h3⟩ := lines_at _ _ _ _ _ e2
  exact ⟨by omega, h2, h3, (List.getElem?_eq_some_iff.1 e2).1, e2⟩
end Go.Proofs.YtmobologlaeefaaGreat

/-
  What strings.Cut returns at a line's end.
-/
namespace Go.Proofs.YtmobologlaeefaaGreat
open Go.RowKit
set_option maxRecDepth 10000
set_option linter.unusedVariables false
set_option linter.unusedSimpArgs false

theorem liteIndexByte_any (s : ByteArray) (w : World) :
    Calls Tryz.prog 144 #[.string s, .int .u8 10] w fun e w' => e = .returned (.int .i64 (nlAt s)) ∧ w = w' := by
  have hx := fun (w : World) => run_callFunc_extern (P := Tryz.prog) (f := 165) Tryz.func165 (by kernel_rfl) (by kernel_rfl) (by kernel_rfl) (e := Extern.BytealgIndexByte.indexByte) (by kernel_rfl) #[.string s, .int .u8 10] w
  simp only [Lib.run_indexByteString, Result.andThen] at hx
  have e : Lib.indexByte s.data.toList (10 : Int).toNat.toUInt8 = nlAt s := rfl
  rw [e] at hx
  generalize nlAt s = r at hx
  go_enter Tryz.func144, Tryz.ntmps144
  go_wp2
  go_ret
  exact ⟨rfl, rfl⟩

set_option maxRecDepth 100000 in
set_option maxHeartbeats 2000000 in
theorem liteIndex_any (s : ByteArray) (w : World) :
    Calls Tryz.prog 117 #[.string s, .string ⟨#[10]⟩] w fun e w' => e = .returned (.int .i64 (nlAt s)) ∧ w = w' := by
  have hI := fun wx => liteIndexByte_any s wx
  have hz : (⟨#[10]⟩ : ByteArray).size = 1 := rfl
  by_cases hc : ([10] == s.toList) = true
  · have e0 : nlAt s = 0 := by
      have h := eq_of_beq hc
      rw [ByteArray.toList_eq] at h
      unfold nlAt; rw [← h]; rfl
    rw [e0]
    clear hI
    go_enter Tryz.func117, Tryz.ntmps117
    go_wp2_with fail
    go_ret
    exact ⟨rfl, rfl⟩
  · generalize nlAt s = r at *
    have hc : ([10] == s.toList) = false := by simpa using hc
    go_enter Tryz.func117, Tryz.ntmps117
    go_wp2_with fail
    refine (hI _).mono ?_
    rintro e w1 ⟨rfl, rfl⟩
    go_wp2
    go_ret
    exact ⟨rfl, rfl⟩

set_option maxHeartbeats 2000000 in
theorem liteCut_any (s : ByteArray) (w : World) (hs : s.size ≤ 140737488351232) :
    Calls Tryz.prog 96 #[.string s, .string ⟨#[10]⟩] w fun e w' => (∃ b, e = .returned (.tuple #[.string (cutAX s), .string (cutZ s), .bool b])) ∧ Below w.heap.size w w' := by
  have hI := fun wx => liteIndex_any s wx
  have hz : (⟨#[10]⟩ : ByteArray).size = 1 := rfl
  rcases nl_cases s with ⟨e, _⟩ | ⟨m, e, hm, _, _⟩
  · rw [(cut_none e).1, (cut_none e).2]
    rw [e] at hI
    go_enter Tryz.func96, Tryz.ntmps96
    go_wp2_with fail
    refine (hI _).mono ?_
    rintro e w1 ⟨rfl, rfl⟩
    go_wp2
    go_ret3
    exact ⟨⟨_, rfl⟩, Below.refl _ _⟩
  · rw [(cut_some e).1, (cut_some e).2]
    rw [e] at hI
    have h0 : ¬ ((m : Int) < 0) := by omega
    have h1 : (m : Int) + 1 ≤ (s.size : Int) := by omega
    have h2 : (m : Int) ≤ (s.size : Int) := by omega
    go_enter Tryz.func96, Tryz.ntmps96
    go_wp2_with fail
    refine (hI _).mono ?_
    rintro e w1 ⟨rfl, rfl⟩
    go_wp2_with fail
    go_quiet (fail)
    go_wp2
    go_ret3
    exact ⟨⟨_, rfl⟩, bel_drewN (Below.refl _ _) _⟩

theorem cut_any (s : ByteArray) (w : World) (hs : s.size ≤ 140737488351232) :
    Calls Tryz.prog 57 #[.string s, .string ⟨#[10]⟩] w fun e w' => (∃ b, e = .returned (.tuple #[.string (cutAX s), .string (cutZ s), .bool b])) ∧ Below w.heap.size w w' := by
  have hI := fun wx => liteCut_any s wx hs
  go_enter Tryz.func57, Tryz.ntmps57
  go_wp2_with fail
  refine (hI _).mono ?_
  rintro e w1 ⟨⟨b, rfl⟩, hb⟩
  have HB : Hid (Below w.heap.size w w1) := hb
  clear hb
  go_wp2
  go_ret3
  exact ⟨⟨_, rfl⟩, HB.out⟩

end Go.Proofs.YtmobologlaeefaaGreat

/-
  Lines of the layer lex, and what its iterator tells: the lines of the text, each with its number.
-/
namespace Go.Proofs.YtmobologlaeefaaGreat
open Go.RowKit Go.Shelf Go.Lib
set_option maxRecDepth 10000
attribute [local go_sem] Oper.semAt_some
set_option linter.unusedVariables false
set_option linter.unusedSimpArgs false

/-- What is told of a line. -/
def lineV (x : Nat × ByteArray) : Array Value := #[.int .i64 x.1, .string x.2]
def sizeV : Value → Nat
  | .string s => s.size
  | _ => 0

theorem lines_any (s : ByteArray) (w : World) : Calls Tryz.prog 29 #[.string s] w fun e w' => e = .returned (.func (.func 56) #[] #[.pointer (some ⟨w.heap.size, 0, none⟩)]) ∧ w' = w.alloc (.cells #[.string s] 9) := by
  go_enter Tryz.func29, Tryz.ntmps29
  go_wp2
  go_ret
  exact ⟨rfl, rfl⟩

theorem size_not (s : ByteArray) (h : s.size = 0) : s.toList.isEmpty = true := by
  rw [ByteArray.toList_eq]
  have : s.data.toList = [] := by rw [← List.length_eq_zero_iff, Array.length_toList]; exact h
  rw [this]; rfl
theorem size_some (s : ByteArray) (h : s.size ≠ 0) : s.toList.isEmpty = false := by
  rw [ByteArray.toList_eq]
  cases e : s.data.toList with
  | nil => exact absurd (by rw [← show s.data.size = s.size from rfl, ← Array.length_toList, e]; rfl) h
  | cons x l => rfl

set_option maxRecDepth 100000 in
set_option maxHeartbeats 2000000 in
theorem lines_tells (s : ByteArray) (hs : s.size ≤ 140737488351232) (b : Nat) (n0 : Nat) (τ : TypeId → Prop) (w : World) (hb : w.heap[b]? = some (.cells #[.string s] 9 (0, 0))) :
    Tells Tryz.prog 56 #[.pointer (some ⟨b, 0, none⟩)] lineV (fun pre x _ => pre ++ [x] <+: linesT s) n0 τ (fun xs => xs = linesT s) (fun pre => pre <+: linesT s) w := by
  intro l J Jx W hW hJ hJx hY h0
  have HY : Hid (∀ pre x W1, J pre W1 → pre ++ [x] <+: linesT s → _) := hY
  have hbl : b < w.heap.size := (Array.getElem?_eq_some_iff.1 hb).1
  obtain ⟨c0, _⟩ := oneCell ((hW.block b hbl).trans hb)
  clear hY hW hb
  refine callsIn_of_wp Tryz.func56 rfl trivial ?_ rfl
  simp only [Tryz.ntmps56, List.size_toArray, List.length_cons, List.length_nil, Nat.reduceAdd, Nat.reduceSub, Array.replicate_succ, Array.replicate_zero, List.push_toArray, List.append_toArray, List.nil_append, List.cons_append]
  gi_wp2
  gi_loopw [3, 4] (fun t i wr => ∃ (z : ByteArray) (pre : List (Nat × ByteArray)) (f : Nat), t = .string z ∧ i = .int .i64 ((pre.length : Int) + 1) ∧ z.size ≤ f ∧ pre.length + z.size ≤ s.size ∧ pre ++ linesF f (pre.length + 1) z = linesT s ∧ J pre wr) (fun t _ _ => sizeV t)
  case atStart => exact ⟨s, [], s.size, rfl, rfl, Nat.le_refl _, by simp, rfl, h0⟩
  case round =>
    obtain ⟨z, pre, f, rfl, rfl, hf, hsz, hpre, hJs⟩ := hrel
    clear h0
    by_cases hz : z.size = 0
    · have HJ : Hid (pre = linesT s ∧ J pre wr) := ⟨by rw [← hpre, linesF_empty _ _ _ hz, List.append_nil], hJs⟩
      have hz' := size_not z hz
      clear hJs HY hpre
      gi_wp2
      go_end0
      exact ⟨⟨_, rfl⟩, .inl ⟨_, HJ.out.1, HJ.out.2⟩⟩
    · obtain ⟨f', e1, hf'⟩ := linesF_step f (pre.length + 1) z hz hf
      have hZ := cutZ_size z hz
      have hA := cutA_size z
      have hz' := size_some z hz
      have HPX : Hid (pre ++ [(pre.length + 1, cutAX z)] <+: linesT s) := ⟨linesF f' (pre.length + 1 + 1) (cutZ z), by rw [← hpre, e1]; simp⟩
      have HN : Hid ((pre ++ [(pre.length + 1, cutAX z)]) ++ linesF f' ((pre ++ [(pre.length + 1, cutAX z)]).length + 1) (cutZ z) = linesT s) := by show _ = _; rw [← hpre, e1]; simp
      have hC := fun wx => cut_any z wx (by omega)
      have hD := fun wx => stringsClone_any (cutAX z) wx (by omega)
      have HJ : Hid (J pre wr) := hJs
      have HZ : Hid ((cutZ z).size < z.size ∧ (cutZ z).size ≤ f') := ⟨hZ, hf'⟩
      clear hJs hpre e1 hZ hA hf hf'
      generalize cutAX z = la at *
      generalize cutZ z = lz at *
      gi_wp2_with fail
      refine ⟨trivial, rfl, (callsIn_wide.2 (hC _)).mono ?_⟩
      rintro e w' ⟨⟨bb, rfl⟩, hB1⟩
      gi_wp2_with fail
      refine ⟨trivial, rfl, (callsIn_wide.2 (hD _)).mono ?_⟩
      rintro e W2 ⟨rfl, hB2⟩
      obtain ⟨fn, tmps, assign, body, hy, hR⟩ := HY.out pre (pre.length + 1, la) W2 (OwnFrom.below hJ HJ.out (hB1.trans (hB2.mono hB1.size))) HPX.out
      simp only [lineV, Int.natCast_add, Int.natCast_one] at hy
      clear HY hC hD
      gi_wp2_with fail
      refine ⟨rfl, hR.mono ?_⟩
      rintro e W3 ⟨hkf, ⟨rfl, hJ3, hk3⟩ | ⟨rfl, hJx3⟩⟩
      · have HJ3 : Hid (J (pre ++ [(pre.length + 1, la)]) W3) := hJ3
        clear hy hR hkf hk3 hJ3
        gi_wp2
        go_roundw
        case rel => exact ⟨lz, pre ++ [(pre.length + 1, la)], f', rfl, by simp, HZ.out.2, by have := HZ.out.1; simp; omega, HN.out, HJ3.out⟩
        case measure => have := HZ.out.1; simp only [sizeV]; omega
      · clear hy hR hkf
        gi_wp2
        refine bodyPost_ret (results_none rfl _ _ _) rfl ?_
        exact ⟨⟨_, rfl⟩, .inr ⟨_, HPX.out, hJx3⟩⟩

end Go.Proofs.YtmobologlaeefaaGreat

/-
  A region that draws its order, in a round or out of one: an operation that yields the same in every world of a class that no operation of the region leaves may be taken first.
-/
namespace Go.Proofs.YtmobologlaeefaaGreat
open Go.RowKit
set_option linter.unusedVariables false

section
variable {F : Fence} {n : Nat} {P : Program} {md : Region.Mode} {ops : Array Oper} {C : World → Prop} {Q : Exit → Act → World → Prop}

/-- As wpAnyIn, and each operation leaves a world of the class. -/
def wpAnyC (F : Fence) (n : Nat) (P : Program) (md : Region.Mode) (ops : Array Oper) (C : World → Prop) (Q : Exit → Act → World → Prop) : Nat → Array Bool → Act → World → Prop
  | 0, listed, a, w => Region.ready md ops listed = [] ∧ Q .normal a w
  | fuel + 1, listed, a, w => (Region.ready md ops listed = [] → Q .normal a w) ∧ ∀ i ∈ Region.ready md ops listed, wpOpIn F n P ops Q i (fun a' w' => C w' ∧ wpAnyC F n P md ops C Q fuel (listed.setIfInBounds i true) a' w') a w

theorem wpAnyC_sound : ∀ (fuel : Nat) (listed : Array Bool) (a : Act) (w : World), wpAnyC F n P md ops C Q fuel listed a w → wpAnyIn F n P md ops Q fuel listed a w
  | 0, _, _, _, h => h
  | fuel + 1, listed, a, w, h => ⟨h.1, fun i hi => wpOpIn_mono (fun a' w' h' => wpAnyC_sound fuel _ a' w' h'.2) (h.2 i hi)⟩

theorem wpAnyC_done {listed : Array Bool} {a : Act} {w : World} (hr : Region.ready md ops listed = []) (h : Q .normal a w) : ∀ fuel, wpAnyC F n P md ops C Q fuel listed a w
  | 0 => ⟨hr, h⟩
  | _ + 1 => ⟨fun _ => h, by rw [hr]; simp⟩

/-- In every world of the class it yields v. -/
def YieldsC (P : Program) (ops : Array Oper) (C : World → Prop) (o : Oper) (v : Value) (a : Act) : Prop :=
  (Region.wanted o (yielded ops a.tmps) = true ∧ ∀ w, C w → (execOp a.eval o).run P w = .ok (.value v) w) ∨ (Region.wanted o (yielded ops a.tmps) = false ∧ v = undef)

theorem YieldsC.op {i : Nat} {o : Oper} {v : Value} {a : Act} (hF : ∀ f, F.fn f) (hnd : ∀ c, o.op ≠ .defer c) (hi : ops[i]? = some o) (hy : YieldsC P ops C o v a) {K : Act → World → Prop} {w : World} (hC : C w) (h : K (a.put o.dst v) w) : wpOpIn F n P ops Q i K a w := by
  unfold wpOpIn
  simp only [hi]
  rcases hy with ⟨hw, hv⟩ | ⟨hw, rfl⟩
  · rw [if_pos hw]
    exact ⟨fun f _ => hF f, by rw [Oper.semAt_eq _ _ _ hnd, hv w hC]; exact h⟩
  · rw [if_neg (by rw [hw]; simp)]
    exact ⟨fun f _ => hF f, h⟩

/-- What another operation does hangs not on what the one has yielded. -/
theorem opIn_put {j : Nat} {oi oj : Oper} {v : Value} (hF : ∀ f, F.fn f) (hnd : ∀ c, oj.op ≠ .defer c) (hj : ops[j]? = some oj) (hap : oi.apart ops oj = true) (hsj : ∀ cs b, oj.op ≠ .select cs b)
    (hQ : ∀ c a w, Q (.panic c) (a.put oi.dst v) w → Q (.panic c) a w) {K : Act → World → Prop} {a : Act} {w : World} (h : wpOpIn F n P ops Q j K (a.put oi.dst v) w) :
    wpOpIn F n P ops Q j (fun a' w' => (∃ ds u, a' = ({ a with defers := ds } : Act).put oj.dst u) ∧ K (a'.put oi.dst v) w') a w := by
  obtain ⟨h1, h2, _⟩ := Oper.apart_spec hap
  unfold wpOpIn at *
  simp only [hj] at *
  rw [wanted_put oj a oi.dst v h1] at h
  have here : ∀ u w', K ((a.put oi.dst v).put oj.dst u) w' → (∃ ds u', a.put oj.dst u = ({ a with defers := ds } : Act).put oj.dst u') ∧ K ((a.put oj.dst u).put oi.dst v) w' := fun u w' hk => ⟨⟨a.defers, u, rfl⟩, by rw [← Act.put_comm a v u h2]; exact hk⟩
  by_cases hw : Region.wanted oj (yielded ops a.tmps) = true
  · rw [if_pos hw] at h ⊢
    obtain ⟨_, h⟩ := h
    refine ⟨fun f _ => hF f, ?_⟩
    rw [Oper.semAt_eq _ _ _ hnd, execOp_put oj hsj a oi.dst v h1] at h
    rw [Oper.semAt_eq _ _ _ hnd]
    generalize (execOp a.eval oj).run P w = r at *
    cases r with
    | ok x w' =>
      cases x <;> simp only [Oper.uponIn] at h ⊢
      case value u => exact here u _ h
      case skip => exact here _ _ h
      case defer d =>
        refine ⟨⟨d :: a.defers, undef, rfl⟩, ?_⟩
        rw [← Act.put_comm _ v undef h2, ← Act.put_defers]
        exact h
      case enter f args =>
        refine ⟨h.1, CallsIn.mono h.2 fun e w'' he => ?_⟩
        cases e with
        | returned u => exact here u _ he
        | panicked c => exact hQ _ _ _ he
        | outgrown => exact he
      case row row args => exact ⟨h.1, RowsIn.mono h.2 fun u w'' he => here u _ he⟩
      case round l f tmps assign body =>
        refine ⟨h.1, RoundIn.mono h.2 fun e w'' he => ?_⟩
        cases e with
        | returned u => exact here u _ he
        | panicked c => exact hQ _ _ _ he
        | outgrown => exact he
    | halt x w' =>
      cases x <;> simp only [Oper.uponIn] at h ⊢
      case panic u => exact hQ _ _ _ h
  · rw [if_neg hw] at h ⊢
    exact ⟨fun f _ => hF f, here _ _ h.2⟩

theorem YieldsC.put {oi oj : Oper} {v u : Value} {a : Act} {ds : List Deferred} (hy : YieldsC P ops C oi v a) (hap : oi.apart ops oj = true) (hsi : ∀ cs b, oi.op ≠ .select cs b) : YieldsC P ops C oi v (({ a with defers := ds } : Act).put oj.dst u) := by
  obtain ⟨_, _, h3⟩ := Oper.apart_spec hap
  have e1 : execOp (({ a with defers := ds } : Act).put oj.dst u).eval oi = execOp a.eval oi := (execOp_put oi hsi { a with defers := ds } oj.dst u h3).trans rfl
  have e2 : Region.wanted oi (yielded ops (({ a with defers := ds } : Act).put oj.dst u).tmps) = Region.wanted oi (yielded ops a.tmps) := (wanted_put oi { a with defers := ds } oj.dst u h3).trans rfl
  unfold YieldsC
  rw [e1, e2]
  exact hy

theorem wpAnyC_first {i : Nat} {oi : Oper} {v : Value} (hF : ∀ f, F.fn f) (hnd : ∀ (j : Nat) (o : Oper), ops[j]? = some o → ∀ c, o.op ≠ .defer c) (hi : ops[i]? = some oi) (hsel : ∀ (j : Nat) (o : Oper) cs b, ops[j]? = some o → o.op ≠ .select cs b)
    (hQ : ∀ c a w, Q (.panic c) (a.put oi.dst v) w → Q (.panic c) a w) : ∀ (fuel : Nat) (listed : Array Bool) (a : Act) (w : World),
      (∀ j oj, ops[j]? = some oj → j ≠ i → listed.getD j true = false → (∀ e ∈ oj.after, Region.binds md e = true → e.on ≠ i) → oi.apart ops oj = true) →
      i ∈ Region.ready md ops listed → YieldsC P ops C oi v a → C w → wpAnyC F n P md ops C Q fuel (listed.setIfInBounds i true) (a.put oi.dst v) w → wpAnyC F n P md ops C Q (fuel + 1) listed a w := by
  intro fuel
  induction fuel with
  | zero =>
    intro listed a w _ hr hy hC H
    refine ⟨fun h => (by rw [h] at hr; cases hr), fun j hj => ?_⟩
    by_cases hji : j = i
    · subst hji; exact hy.op hF (hnd j oi hi) hi hC ⟨hC, H⟩
    · have := ready_mono hj hji
      rw [H.1] at this
      cases this
  | succ fuel ih =>
    intro listed a w hfree hr hy hC H
    refine ⟨fun h => (by rw [h] at hr; cases hr), fun j hj => ?_⟩
    by_cases hji : j = i
    · subst hji; exact hy.op hF (hnd j oi hi) hi hC ⟨hC, H⟩
    · obtain ⟨hjun, oj, hoj, hall⟩ := mem_ready.1 hj
      have hnot : ∀ e ∈ oj.after, Region.binds md e = true → e.on ≠ i := fun e he hb heq => by
        have h1 := hall e he hb
        have h0 := (mem_ready.1 hr).1
        rw [heq] at h1
        rcases Nat.lt_or_ge i listed.size with h' | h'
        · simp [h'] at h0 h1; rw [h0] at h1; cases h1
        · simp [Array.getElem?_eq_none h'] at h1
      have hap := hfree j oj hoj hji hjun hnot
      have h2 := opIn_put hF (hnd j oj hoj) hoj hap (fun cs b => hsel j oj cs b hoj) hQ (H.2 j (ready_mono hj hji))
      refine wpOpIn_mono (fun a' w' h3 => ?_) h2
      obtain ⟨⟨ds, u, rfl⟩, hC', h4⟩ := h3
      refine ⟨hC', ih (listed.setIfInBounds j true) _ w' (fun k ok hk hki hun hno => hfree k ok hk hki ?_ hno) (ready_mono hr (Ne.symm hji)) (hy.put hap (fun cs b => hsel i oi cs b hi)) hC' ?_⟩
      · by_cases hjk : j = k
        · subst hjk; exact hjun
        · rw [getD_set_ne true hjk] at hun; exact hun
      · rw [Array.setIfInBounds_comm _ _ hji]
        exact h4

/-- No operation of it is a defer. -/
def noDefer (ops : Array Oper) : Bool := ops.all fun o => match o.op with | .defer _ => false | _ => true
theorem noDefer_spec (h : noDefer ops = true) (j : Nat) (o : Oper) (hj : ops[j]? = some o) (c : Call) : o.op ≠ .defer c := fun e => by
  obtain ⟨hlt, hk⟩ := Array.getElem?_eq_some_iff.1 hj
  have := (Array.all_eq_true.1 h) j hlt
  rw [hk, e] at this
  cases this

theorem wpAnyC_take {i : Nat} {oi : Oper} {v : Value} {fuel : Nat} {listed : Array Bool} {a : Act} {w : World} (hF : ∀ f, F.fn f) (hnd : noDefer ops = true) (hi : ops[i]? = some oi) (hs : Region.noSelect ops = true) (hf : Region.free md ops listed i = true) (hr : (Region.ready md ops listed).contains i = true)
    (hQ : ∀ c a w, Q (.panic c) (a.put oi.dst v) w → Q (.panic c) a w) (hC : C w) (hy : YieldsC P ops C oi v a) (h : wpAnyC F n P md ops C Q fuel (listed.setIfInBounds i true) (a.put oi.dst v) w) : wpAnyC F n P md ops C Q (fuel + 1) listed a w :=
  wpAnyC_first hF (noDefer_spec hnd) hi (Region.noSelect_spec hs) hQ fuel listed a w (Region.free_spec hi hf) (by simpa using hr) hy hC h

/-- The same, with the temporary named. -/
theorem wpAnyC_takeD {i : Nat} {oi : Oper} (d : Option Tmp) {v : Value} {fuel : Nat} {listed : Array Bool} {a : Act} {w : World} (hF : ∀ f, F.fn f) (hnd : noDefer ops = true) (hi : ops[i]? = some oi) (hd : oi.dst = d) (hs : Region.noSelect ops = true) (hf : Region.free md ops listed i = true) (hr : (Region.ready md ops listed).contains i = true)
    (hQ : ∀ c a w, Q (.panic c) (a.put d v) w → Q (.panic c) a w) (hC : C w) (hy : YieldsC P ops C oi v a) (h : wpAnyC F n P md ops C Q fuel (listed.setIfInBounds i true) (a.put d v) w) : wpAnyC F n P md ops C Q (fuel + 1) listed a w := by
  subst hd
  exact wpAnyC_take hF hnd hi hs hf hr hQ hC hy h

/-- The operations that may come up, one by one. -/
def AllC (F : Fence) (n : Nat) (P : Program) (md : Region.Mode) (ops : Array Oper) (C : World → Prop) (Q : Exit → Act → World → Prop) (fuel : Nat) (listed : Array Bool) (a : Act) (w : World) (rs : List Nat) : Prop :=
  ∀ i ∈ rs, wpOpIn F n P ops Q i (fun a' w' => C w' ∧ wpAnyC F n P md ops C Q fuel (listed.setIfInBounds i true) a' w') a w
theorem AllC.nil {fuel : Nat} {listed : Array Bool} {a : Act} {w : World} : AllC F n P md ops C Q fuel listed a w [] := fun _ h => by cases h
theorem AllC.cons {fuel : Nat} {listed : Array Bool} {a : Act} {w : World} {i : Nat} {o : Oper} {rs : List Nat} (ho : ops[i]? = some o)
    (h : ∀ K' : Act → World → Prop, (∀ a w, C w → wpAnyC F n P md ops C Q fuel (listed.setIfInBounds i true) a w → K' a w) → if Region.wanted o (yielded ops a.tmps) = true then Oper.wpIn F n P o a w K' Q else (∀ f, o.about P w a.eval = some f → F.fn f) ∧ K' (a.put o.dst undef) w)
    (hs : AllC F n P md ops C Q fuel listed a w rs) : AllC F n P md ops C Q fuel listed a w (i :: rs) := fun j hj => by
  rcases List.mem_cons.1 hj with rfl | hj
  · exact wpOpIn_step ho (fun K' hK => h K' (fun a w hC hw => hK a w ⟨hC, hw⟩))
  · exact hs j hj
theorem wpAnyC_ready {rs : List Nat} {fuel : Nat} {listed : Array Bool} {a : Act} {w : World} (hr : Region.ready md ops listed = rs) (hne : rs ≠ []) (h : AllC F n P md ops C Q fuel listed a w rs) : wpAnyC F n P md ops C Q (fuel + 1) listed a w :=
  ⟨fun h0 => absurd (hr ▸ h0) hne, hr ▸ h⟩

end

end Go.Proofs.YtmobologlaeefaaGreat

/-
  An append within a region that draws its order, in or out of a round.
-/
namespace Go.Proofs.YtmobologlaeefaaGreat
open Go.RowKit
set_option linter.unusedVariables false

/-- A piece of code that goes on. -/
theorem wpIn_normal {F : Fence} {n : Nat} {P : Program} {c : Code} {Q : Exit → Act → World → Prop} {a : Act} {w : World} (h : c.wpIn F n P (fun e a w => e = .normal ∧ Q .normal a w) a w) : c.wpIn F n P Q a w :=
  Code.wpIn_mono (fun e a w h => by obtain ⟨rfl, h⟩ := h; exact h) h

end Go.Proofs.YtmobologlaeefaaGreat
