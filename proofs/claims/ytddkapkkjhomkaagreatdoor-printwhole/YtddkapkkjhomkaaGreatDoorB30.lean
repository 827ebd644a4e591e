/-
  Texts laid together in one: AsmParseF, MathQ, MathWs, MathWl, MathRd, MathPt.
-/
import Derived.RangeFuncNested
import Derived.RangeFuncBound
import Derived.RangeFuncCalls
import Derived.RangeFuncLeaves
import Derived.Shelf.Abstract
import Derived.Shelf.RegionOpen
import Derived.WalkKit
import Derived.OwnWalkIn
import Derived.TacticsInMore
import Derived.LoopNIn
import Derived.LoopIn
import Derived.WalkSpells
import Derived.Test.YtddkapkkjhomkaaGreatDoorProg
import Derived.Test.YtddkapkkjhomkaaGreatDoorB29
import Derived.Test.YtddkapkkjhomkaaGreatDoorB02
import Derived.Test.YtddkapkkjhomkaaGreatDoorB04
import Derived.Test.YtddkapkkjhomkaaGreatDoorB01
import Derived.Test.YtddkapkkjhomkaaGreatDoorB11
import Derived.Test.YtddkapkkjhomkaaGreatDoorB18
import Derived.Test.YtddkapkkjhomkaaGreatDoorB21
/-
  What Parse of the layer asm returns: its lines one by one.
-/
namespace Go.Proofs.YtddkapkkjhomkaaGreatDoor
open Go.RowKit Go.Shelf
attribute [local go_sem] Oper.semAt_some
set_option linter.unusedVariables false
set_option linter.unusedSimpArgs false
set_option maxRecDepth 100000

/-- A module's lines, one behind the other: what is wrong, in which line, and the module. -/
def goL : ModT → List (Nat × ByteArray) → Int × Int × ModT
  | st, [] => (0, 0, st)
  | st, x :: r => if (addS st x.2).1 ≠ 0 then ((addS st x.2).1, (x.1 : Int), st) else goL (addS st x.2).2 r
def st0 : ModT := (0, 0, 0, [])
/-- What a text says: generator, bound, instructions, what is wrong, where. -/
def parseS (s : ByteArray) : (Int × Int × List InstT) × Int × Int :=
  if 16777216 < s.size then ((0, 0, []), 4, 0)
  else if (goL st0 (linesT s)).1 ≠ 0 then ((0, 0, []), (goL st0 (linesT s)).1, (goL st0 (linesT s)).2.1)
  else if (goL st0 (linesT s)).2.2.2.2.1 = 0 then ((0, 0, []), 72, ((linesT s).length : Int))
  else (((goL st0 (linesT s)).2.2.1, (goL st0 (linesT s)).2.2.2.1, (goL st0 (linesT s)).2.2.2.2.2), 0, 0)

/-- Between two lines. -/
def PrsI (w : World) (pre : List (Nat × ByteArray)) (W : World) : Prop :=
  Below w.heap.size w W ∧ W.heap[w.heap.size]? = some (.cells #[.int .u32 0, .int .u32 0, .slice none 0 0] 25 (0, 0)) ∧ W.heap[w.heap.size + 1]? = some (.cells #[.int .i64 0, .int .i64 0] 28 (0, 0)) ∧ W.heap[w.heap.size + 3]? = some (.cells #[.int .i64 pre.length] 3 (0, 0)) ∧
  ∃ v st, ModAt W (w.heap.size + 2) (w.heap.size + 5) v st ∧ ∀ r, goL st0 (pre ++ r) = goL st r
/-- Where a line is wrong. -/
def PrsX (s : ByteArray) (w : World) (c : Code) (pre : List (Nat × ByteArray)) (W : World) : Prop :=
  c = .ret ∧ (goL st0 (linesT s)).1 ≠ 0 ∧ Below w.heap.size w W ∧ W.heap[w.heap.size]? = some (.cells #[.int .u32 0, .int .u32 0, .slice none 0 0] 25 (0, 0)) ∧ W.heap[w.heap.size + 1]? = some (.cells #[.int .i64 (goL st0 (linesT s)).1, .int .i64 (goL st0 (linesT s)).2.1] 28 (0, 0))
theorem Insts.stay {W W' : World} {B lo : Nat} {v : Value} {xs : List InstT} {row : Option Nat} (h : Insts W B lo v xs) (hg : W.grownBy W' row) (hr : ∀ r, row = some r → ∃ o : Obj, W.heap[r]? = some o ∧ o.isCells = false) : Insts W' B lo v xs := by
  obtain ⟨cs, h1, h2⟩ := h.row
  have hap : Apartly W lo row := fun g e => .inr (hr g e)
  exact ⟨⟨cs, own_apartly h1 hg hap, h2.grown hg hap⟩, h.lt, Nat.le_trans h.le hg.size⟩
theorem prsI_own (w : World) : OwnFrom (w.heap.size + 5) (PrsI w) := by
  rintro pre W W' row ⟨h1, h2, h3, h4, v, st, h5, h6⟩ hg hr
  exact ⟨belowStay h1 (Nat.le_refl _) (by omega) hg hr, cellsStay h2 hg hr, cellsStay h3 hg hr, cellsStay h4 hg hr, v, st, ⟨cellsStay h5.bld hg hr, h5.insts.stay hg (fun r e => (hr r e).2), h5.words, h5.ok⟩, h6⟩
theorem prsX_own (s : ByteArray) (w : World) (c : Code) : OwnFrom (w.heap.size + 5) (PrsX s w c) := by
  rintro pre W W' row ⟨h0, h1, h2, h3, h4⟩ hg hr
  exact ⟨h0, h1, belowStay h2 (Nat.le_refl _) (by omega) hg hr, cellsStay h3 hg hr, cellsStay h4 hg hr⟩

/-- What Parse leaves. -/
def ParQ (w w' : World) (R : (Int × Int × List InstT) × Int × Int) (e : Ending) : Prop := ∃ a n c, e = .returned (.tuple #[.agg #[.int .u32 R.1.1, .int .u32 R.1.2.1, .slice a n c], .agg #[.int .i64 R.2.1, .int .i64 R.2.2]]) ∧ InstsV w' a R.1.2.2 ∧ R.1.2.2.length = n ∧ InstsOk R.1.2.2 ∧ Below w.heap.size w w'

set_option maxHeartbeats 8000000 in
theorem asmParse_main (s : ByteArray) (w : World) (hs : s.size ≤ 16777216) :
    Calls Tryz.prog 23 #[.string s] w fun e w' => ParQ w w' (parseS s) e := by
  refine (callsIn_wide (n := 0)).1 ?_
  refine callsIn_of_wp_marks Tryz.func23 rfl trivial ?_ rfl
  simp only [Tryz.ntmps23, List.size_toArray, List.length_cons, List.length_nil, Nat.reduceAdd, Nat.reduceSub, Array.replicate_succ, Array.replicate_zero, List.push_toArray, List.append_toArray, List.nil_append, List.cons_append]
  have hsi : decide ((16777216 : Int) < (s.size : Int)) = false := by simpa using (by omega : ¬ (16777216 : Int) < (s.size : Int))
  gi_wp2_with fail
  refine ⟨trivial, rfl, (callsIn_wide.2 (lines_any s _)).mono ?_⟩
  rintro e w2 ⟨rfl, rfl⟩
  obtain ⟨wL, hwL⟩ : ∃ X, X = ((((w.alloc (.cells #[.int .u32 0, .int .u32 0, .slice none 0 0] 25)).alloc (.cells #[.int .i64 0, .int .i64 0] 28)).alloc (.cells #[.int .u32 0, .int .u32 0, .slice none 0 0, .int .i64 0] 72)).alloc (.cells #[.int .i64 0] 3)).alloc (.cells #[.string s] 9) := ⟨_, rfl⟩
  have hsL : wL.heap.size = w.heap.size + 5 := by rw [hwL]; simp
  have hbL : Below w.heap.size w wL := by rw [hwL]; exact (((((Below.refl _ w).alloc (Nat.le_refl _) _).alloc (by simp) _).alloc (by simp; omega) _).alloc (by simp; omega) _).alloc (by simp; omega) _
  have k0 : wL.heap[w.heap.size]? = some (.cells #[.int .u32 0, .int .u32 0, .slice none 0 0] 25 (0, 0)) := by rw [hwL]; exact allocOld (allocOld (allocOld (allocOld (allocNew w _ rfl) _) _) _) _
  have k1 : wL.heap[w.heap.size + 1]? = some (.cells #[.int .i64 0, .int .i64 0] 28 (0, 0)) := by rw [hwL]; exact allocOld (allocOld (allocOld (allocNew _ _ (by simp)) _) _) _
  have k2 : wL.heap[w.heap.size + 2]? = some (.cells #[.int .u32 0, .int .u32 0, .slice none 0 0, .int .i64 0] 72 (0, 0)) := by rw [hwL]; exact allocOld (allocOld (allocNew _ _ (by simp)) _) _
  have k3 : wL.heap[w.heap.size + 3]? = some (.cells #[.int .i64 0] 3 (0, 0)) := by rw [hwL]; exact allocOld (allocNew _ _ (by simp)) _
  have k4 : wL.heap[w.heap.size + 4]? = some (.cells #[.string s] 9 (0, 0)) := by rw [hwL]; exact allocNew _ _ (by simp)
  clear hsi
  gi_wp2_with fail
  rw [← hwL]
  clear hwL
  simp only [Nat.add_assoc, Nat.reduceAdd]
  refine wp_tells rfl (enters_of Tryz.func77 (by kernel_rfl) rfl) (lines_tells s (by omega) (w.heap.size + 4) w.heap.size (fun _ => False) wL k4) (by omega) (fun _ => rfl)
    (PrsI w) (PrsX s w) (by rw [hsL]; exact prsI_own w) (fun c => by rw [hsL]; exact prsX_own s w c)
    ⟨hbL, k0, k1, k3, .slice none 0 0, st0, ⟨k2, ⟨⟨[], World.ownsRow_nil _ _ _ _, rowI_nil⟩, by omega, by omega⟩, by simp [st0], fun j hj => by simp [st0] at hj⟩, fun r => rfl⟩
    (fun pre x a' W => pre ++ [x] <+: linesT s ∧ a' = { tmps := #[.string s, undef, .pointer (some ⟨w.heap.size, 0, none⟩), .pointer (some ⟨w.heap.size + 1, 0, none⟩), .pointer (some ⟨w.heap.size + 2, 0, none⟩), .pointer (some ⟨w.heap.size + 3, 0, none⟩), .int .i64 x.1, .string x.2, undef, .string s, .int .i64 (s.size : Int), .bool false, undef, undef, .string s, .func (.func 77) #[] #[.pointer (some ⟨w.heap.size + 4, 0, none⟩)], .int .i64 x.1, .string x.2, undef, undef, undef, undef, undef, undef, undef, undef, undef, undef, undef, undef, undef, undef, undef, undef, undef], defers := [] })
    ?hAx ?assign ?body ?done ?stop
  case hAx =>
    rintro pre x a' s W W' row h hg hr
    exact h
  case assign =>
    rintro l pre x W K hI hV hK
    simp only [lineV]
    gi_wp2
    exact hK _ _ (KeepsFrom.refl _ _) (Kept.refl _ _ _) hI ⟨hV, rfl⟩
  case body =>
    rintro l pre x a' W hl' ⟨rr, hrr⟩ ⟨h1, h2, h3, h4, v, st, h5, h6⟩ ⟨hV, rfl⟩
    obtain ⟨p1, p2, p3, p4, p5⟩ := pre_at hV
    obtain ⟨n, t⟩ := x
    simp only at p1 p2 p3
    have hC := addLine_any (w.heap.size + 2) (w.heap.size + 5) v st t W h5 (by omega)
    have hpl : pre.length < s.size := Nat.lt_of_lt_of_le p4 (lines_len _ _ _)
    obtain ⟨rest, hrest⟩ := hV
    have HBAD : Hid ((addS st t).1 ≠ 0 → (goL st0 (linesT s)).1 = (addS st t).1 ∧ (goL st0 (linesT s)).2.1 = (n : Int)) := fun h => by
      rw [← hrest, List.append_assoc, h6]
      simp only [List.singleton_append, goL, if_pos h, and_self]
    have HNX : Hid ((addS st t).1 = 0 → ∀ r, goL st0 (pre ++ [(n, t)] ++ r) = goL (addS st t).2 r) := fun h r => by
      rw [List.append_assoc, h6]
      simp only [List.singleton_append, goL]
      rw [if_neg (by simpa using h)]
    generalize addS st t = A at *
    obtain ⟨E, st'⟩ := A
    simp only at hC
    have HH := hide (And.intro h1 (And.intro h2 (And.intro h3 (And.intro h4 h5))))
    clear h1 h2 h3 h4 h6 k0 k1 k2 k3 k4 hbL
    gi_wp2_with fail
    refine ⟨trivial, rfl, (CallsIn.inRound l (callsIn_wide.2 hC)).mono ?_⟩
    rintro e w5 ⟨rfl, hT5, hq5⟩
    obtain ⟨h1, h2, h3, h4, h5⟩ := HH.out
    obtain ⟨cs, ho1, ho2⟩ := h5.insts.row
    have hob : ∀ g, v.ownBlock = some g → w.heap.size + 5 ≤ g := fun g e => (ho1.lt g e).1
    have hcell : ∀ g, v.ownBlock = some g → ∃ c t f, W.heap[g]? = some (.cells c t f) := fun g e => by
      rcases ho1.2 with ⟨e1, _⟩ | ⟨g', cap, cur, e1, _, e3, _⟩
      · rw [e1] at e; simp [Value.ownBlock] at e
      · rw [e1] at e
        have : some g' = some g := e
        cases this
        exact ⟨_, _, _, e3⟩
    have keep : ∀ k, k < w.heap.size + 5 → k ≠ w.heap.size + 2 → W.heap[k]? = w5.heap[k]? := fun k hk hB => by
      by_cases hkl : k < W.heap.size
      · exact (hT5.block k hkl hB (fun e => by have := hob k e.symm; omega)).symm
      · have := h5.insts.le; omega
    have hw5 : Below w.heap.size w w5 := ⟨hT5.os.trans h1.os, hT5.tape.trans h1.tape, hT5.output.trans h1.output, Nat.le_trans h1.size hT5.size, fun k hk => (keep k (by omega) (by omega)).symm.trans (h1.block k hk)⟩
    have q2 := (keep _ (by omega) (by omega)).symm.trans h2
    have q3 := (keep _ (by omega) (by omega)).symm.trans h3
    have q4 := (keep _ (by omega) (by omega)).symm.trans h4
    have hKF : KeepsFrom wL.heap.size W w5 := ⟨hT5.size, fun k o hk ho hoc => by
      refine (hT5.block k (Array.getElem?_eq_some_iff.1 ho).1 (fun e => ?_) (fun e => ?_)).trans ho
      · subst e
        have hb : W.heap[w.heap.size + 2]? = some (.cells #[.int .u32 st.1, .int .u32 st.2.1, v, .int .i64 st.2.2.1] 72 (0, 0)) := h5.bld
        rw [hb] at ho; cases ho; cases hoc
      · obtain ⟨c, t, f, hc⟩ := hcell k e.symm
        rw [hc] at ho; cases ho; cases hoc⟩
    have HBW : Hid (Below w.heap.size W w5) := ⟨hT5.os, hT5.tape, hT5.output, hT5.size, fun k hk => (keep k (by omega) (by omega)).symm⟩
    have HKF := hide hKF
    have HW5 := hide hw5
    have HQ := hide hq5
    have HQ2 := hide q2
    have HQ3 := hide q3
    have HQ4 := hide q4
    have HSW : Hid (w.heap.size + 5 ≤ w5.heap.size) := Nat.le_trans h5.insts.le hT5.size
    obtain ⟨cm, fm⟩ := blk_cells q2
    obtain ⟨cp, fp⟩ := blk_cells q3
    obtain ⟨cl, fl⟩ := blk_cells q4
    have m0 := cm 0
    have m1 := cm 1
    have m2 := cm 2
    have s0 := cp 0
    have s1 := cp 1
    have l0 := cl 0
    clear hC hT5 hq5 hKF hw5 q2 q3 q4 cm cp cl h1 h2 h3 h4 h5 HH ho1 ho2 hob hcell keep
    by_cases hE : E = 0
    · subst hE
      have hNX := HNX.out rfl
      have HN2 := hide hNX
      obtain ⟨v', hM'⟩ := HQ.out rfl
      have HM' := hide hM'
      clear hNX hM' HBAD HNX HQ
      gi_wp2_with fail
      have hkf := HKF.out
      have hw5 := HW5.out
      have hM := HM'.out
      obtain ⟨cs, hr1, hr2⟩ := hM.insts.row
      refine ⟨⟨by simpa [World.setCell] using hkf.size, fun k o hk ho hoc => (KeepsOthers.setCell _ _ _).same k o (hkf.same k o hk ho hoc) hoc⟩, ⟨HBW.out.setCell (by simp) _, fun _ _ _ _ h _ => h.elim⟩, hw5.setCell (by simp) _, setFar HQ2.out (by omega) _ _, setFar HQ3.out (by omega) _ _, ?_, v', st', ?_, HN2.out⟩
      · have := oneSet HQ4.out (.int .i64 ((pre.length : Int) + 1))
        rw [List.length_append, List.length_singleton]
        simpa using this
      · refine ⟨(Below.heap_setCell _ _ _ _ (by simp)).trans hM.bld, ⟨⟨cs, ownsRow_setCell_below hr1 (by simp) _, hr2.grown (grown_set (World.grownBy.refl w5 (some (w.heap.size + 3))) 0 _) (fun g e => by simp only [Option.some.injEq] at e; subst e; exact .inl (by omega))⟩, hM.insts.lt, ?_⟩, hM.words, hM.ok⟩
        rw [World.size_setCell]; exact hM.insts.le
    · have hE' : (E != 0) = true := by simpa using hE
      have HB2 := hide (HBAD.out hE)
      have HE := hide hE
      clear HBAD HNX HQ hE
      gi_wp2_with fail
      have hkf := HKF.out
      have hw5 := HW5.out
      refine ⟨⟨by simpa [World.setCell] using hkf.size, fun k o hk ho hoc => (KeepsOthers.setCell _ _ _).same k o ((KeepsOthers.setCell _ _ _).same k o ((KeepsOthers.setCell _ _ _).same k o ((KeepsOthers.setCell _ _ _).same k o ((KeepsOthers.setCell _ _ _).same k o (hkf.same k o hk ho hoc) hoc) hoc) hoc) hoc) hoc⟩, rfl, by rw [HB2.out.1]; exact HE.out, ((((hw5.setCell (Nat.le_refl _) _).setCell (Nat.le_refl _) _).setCell (Nat.le_refl _) _).setCell (by simp) _).setCell (by simp) _, ?_, ?_⟩
      · have := HQ2.out
        simp [World.setCell, Array.getElem?_modify, this]
      · rw [HB2.out.1, HB2.out.2]
        have := HQ3.out
        simp [World.setCell, Array.getElem?_modify, this]
        try omega
  case stop =>
    rintro D c pre W hD _ ⟨rfl, hne, h1, h2, h3⟩ hK
    have hput := grownBy_putObj' W D (.deferred none)
    have hrr : ∀ r, some D = some r → w.heap.size + 5 ≤ r ∧ ∃ o : Obj, W.heap[r]? = some o ∧ o.isCells = false := fun r e => by cases e; exact ⟨by omega, _, hK, rfl⟩
    have HBE := hide (belowStay h1 (Nat.le_refl _) (by omega) hput hrr)
    have k2' := cellsStay h2 hput hrr
    have k3' := cellsStay h3 hput hrr
    obtain ⟨cm, _⟩ := blk_cells k2'
    obtain ⟨cp, _⟩ := blk_cells k3'
    have r0 := cm 0
    have r1 := cm 1
    have r2 := cm 2
    have r3 := cp 0
    have r4 := cp 1
    have HR : Hid (parseS s = ((0, 0, []), (goL st0 (linesT s)).1, (goL st0 (linesT s)).2.1)) := by show _ = _; unfold parseS; rw [if_neg (by omega), if_pos hne]
    clear k0 k1 k2 k3 k4 h1 h2 h3 hput hrr k2' k3' cm cp
    gi_wp2_with fail
    refine ⟨by simp, .inl ⟨_, _, rfl, run_takeDeferred hK, ?_⟩⟩
    refine ⟨.tuple #[.agg #[.int .u32 0, .int .u32 0, .slice none 0 0], .agg #[.int .i64 (goL st0 (linesT s)).1, .int .i64 (goL st0 (linesT s)).2.1]], by simp [results, Tryz.results23, go_sem, r0, r1, r2, r3, r4], ?_⟩
    unfold ParQ
    rw [HR.out]
    exact ⟨none, 0, 0, rfl, instsV_nil, rfl, fun j hj => by simp at hj, HBE.out⟩
  case done =>
    rintro D xs W hD rfl ⟨h1, h2, h3, h4, v, st, h5, h6⟩ hK
    have hgo : goL st0 (linesT s) = (0, 0, st) := by have := h6 []; rw [List.append_nil] at this; exact this
    have hHd := headed_any (w.heap.size + 2) st.1 st.2.1 v st.2.2.1 W h5.bld
    have hwd := h5.words
    have HH := hide (And.intro h1 (And.intro h2 (And.intro h3 (And.intro h4 h5))))
    have HGO := hide hgo
    clear k0 k1 k2 k3 k4 h1 h2 h3 h4 h6 hgo
    by_cases hz : st.2.2.1 = 0
    · rw [show decide (0 < st.2.2.1) = false by simp; omega] at hHd
      have HR : Hid (parseS s = ((0, 0, []), 72, ((linesT s).length : Int))) := by show _ = _; unfold parseS; rw [if_neg (by omega), HGO.out]; simp [hz]
      clear h5 hwd hz
      gi_wp2_with fail
      refine ⟨trivial, rfl, (callsIn_wide.2 hHd).mono ?_⟩
      rintro e w5 ⟨rfl, rfl⟩
      gi_wp2_with fail
      rename_i Kr hKr
      have HKR := hide hKr
      obtain ⟨h1, h2, h3, h4, h5⟩ := HH.out
      have hl5 : w.heap.size + 5 ≤ D := by omega
      clear hKr hHd HGO HH h5
      have key : ∀ (u : Array Value) (X : World), u.getD 2 undef = .pointer (some ⟨w.heap.size, 0, none⟩) → u.getD 3 undef = .pointer (some ⟨w.heap.size + 1, 0, none⟩) → X.heap[w.heap.size]? = some (.cells #[.int .u32 0, .int .u32 0, .slice none 0 0] 25 (0, 0)) → X.heap[w.heap.size + 1]? = some (.cells #[.int .i64 72, .int .i64 ((linesT s).length : Int)] 28 (0, 0)) → Below w.heap.size w X → X.heap[D]? = some (.deferred (some [])) →
          Kr { tmps := u, defers := [{ target := .collected D, args := #[] }] } X := by
        intro u X g2 g3 j1 j2 j3 j4
        refine HKR.out _ _ ?_
        have hput := grownBy_putObj' X D (.deferred none)
        have hrr : ∀ r, some D = some r → w.heap.size + 5 ≤ r ∧ ∃ o : Obj, X.heap[r]? = some o ∧ o.isCells = false := fun r e => by cases e; exact ⟨hl5, _, j4, rfl⟩
        have HBE := hide (belowStay j3 (Nat.le_refl _) (by omega) hput hrr)
        obtain ⟨cm, _⟩ := blk_cells (cellsStay j1 hput hrr)
        obtain ⟨cp, _⟩ := blk_cells (cellsStay j2 hput hrr)
        have r0 := cm 0
        have r1 := cm 1
        have r2 := cm 2
        have r3 := cp 0
        have r4 := cp 1
        clear hput hrr cm cp j1 j2 j3
        gi_wp2_with fail
        refine ⟨by simp, .inl ⟨_, _, rfl, run_takeDeferred j4, ?_⟩⟩
        have g2' : u[2]?.getD undef = .pointer (some ⟨w.heap.size, 0, none⟩) := by rw [← Array.getD_eq_getD_getElem?]; exact g2
        have g3' : u[3]?.getD undef = .pointer (some ⟨w.heap.size + 1, 0, none⟩) := by rw [← Array.getD_eq_getD_getElem?]; exact g3
        refine ⟨.tuple #[.agg #[.int .u32 0, .int .u32 0, .slice none 0 0], .agg #[.int .i64 72, .int .i64 ((linesT s).length : Int)]], by simp [results, Tryz.results23, go_sem, g2', g3', r0, r1, r2, r3, r4], ?_⟩
        unfold ParQ
        rw [HR.out]
        exact ⟨none, 0, 0, rfl, instsV_nil, rfl, fun j hj => by simp at hj, HBE.out⟩
      have KEY := hide key
      clear key HKR
      have hmix : Tryz.prog.follows .mixedOrders = true := by kernel_rfl
      have hC0 : (fun wx : World => wx.heap[w.heap.size]? = some (.cells #[.int .u32 0, .int .u32 0, .slice none 0 0] 25 (0, 0)) ∧ (∃ y0 y1, wx.heap[w.heap.size + 1]? = some (.cells #[y0, y1] 28 (0, 0))) ∧ wx.heap[w.heap.size + 3]? = some (.cells #[.int .i64 ((linesT s).length : Int)] 3 (0, 0)) ∧ Below w.heap.size w wx ∧ wx.heap[D]? = some (.deferred (some []))) W.drew := ⟨h2, ⟨_, _, h3⟩, h4, h1.drew, hK⟩
      refine wpIn_normal (wpIn_region_any hmix (wpAnyC_sound (C := fun wx : World => wx.heap[w.heap.size]? = some (.cells #[.int .u32 0, .int .u32 0, .slice none 0 0] 25 (0, 0)) ∧ (∃ y0 y1, wx.heap[w.heap.size + 1]? = some (.cells #[y0, y1] 28 (0, 0))) ∧ wx.heap[w.heap.size + 3]? = some (.cells #[.int .i64 ((linesT s).length : Int)] 3 (0, 0)) ∧ Below w.heap.size w wx ∧ wx.heap[D]? = some (.deferred (some []))) _ _ _ _ ?_))
      change wpAnyC _ _ _ _ _ _ _ _ _ _ (World.drew _)
      refine wpAnyC_takeD (i := 0) (some 29) (v := .agg #[.int .u32 0, .int .u32 0, .slice none 0 0]) (fun _ => trivial) (by kernel_rfl) rfl rfl (by kernel_rfl) (by kernel_rfl) (by kernel_rfl) (fun _ _ _ h => by cases h.1) hC0 (Or.inl ⟨by kernel_rfl, fun w' hC => by clear hC; go_simp⟩) ?_
      simp only [Act.put, List.setIfInBounds_toArray, List.set_cons_succ, List.set_cons_zero]
      refine wpAnyC_takeD (i := 1) (some 30) (v := .int .i64 ((linesT s).length : Int)) (fun _ => trivial) (by kernel_rfl) rfl rfl (by kernel_rfl) (by kernel_rfl) (by kernel_rfl) (fun _ _ _ h => by cases h.1) hC0 (Or.inl ⟨by kernel_rfl, fun w' hC => by have e0 := (blk_cells hC.2.2.1).1 0; clear hC; go_simp⟩) ?_
      simp only [Act.put, List.setIfInBounds_toArray, List.set_cons_succ, List.set_cons_zero]
      refine wpAnyC_takeD (i := 2) (some 31) (v := .agg #[.int .i64 72, .int .i64 ((linesT s).length : Int)]) (fun _ => trivial) (by kernel_rfl) rfl rfl (by kernel_rfl) (by kernel_rfl) (by kernel_rfl) (fun _ _ _ h => by cases h.1) hC0 (Or.inl ⟨by kernel_rfl, fun w' hC => by clear hC; go_simp⟩) ?_
      simp only [Act.put, List.setIfInBounds_toArray, List.set_cons_succ, List.set_cons_zero]
      refine wpAnyC_ready (rs := [3]) (by kernel_rfl) (by simp) ?_
      refine AllC.cons rfl (fun K hK' => ?_) AllC.nil
      obtain ⟨cm, fm⟩ := blk_cells h2
      obtain ⟨cp, fp⟩ := blk_cells h3
      have m0 := cm 0
      have m1 := cm 1
      have m2 := cm 2
      have s0 := cp 0
      have s1 := cp 1
      have hD0 : D ≠ w.heap.size := by omega
      have hD1 : D ≠ w.heap.size + 1 := by omega
      have n2 : (((W.setCell ⟨w.heap.size, 0, none⟩ (.int .u32 0)).setCell ⟨w.heap.size, 1, none⟩ (.int .u32 0)).setCell ⟨w.heap.size, 2, none⟩ (.slice none 0 0)).heap[w.heap.size]? = some (.cells #[.int .u32 0, .int .u32 0, .slice none 0 0] 25 (0, 0)) := by simp [World.setCell, Array.getElem?_modify, h2]
      have n3 : (((W.setCell ⟨w.heap.size, 0, none⟩ (.int .u32 0)).setCell ⟨w.heap.size, 1, none⟩ (.int .u32 0)).setCell ⟨w.heap.size, 2, none⟩ (.slice none 0 0)).heap[w.heap.size + 1]? = some (.cells #[.int .i64 0, .int .i64 0] 28 (0, 0)) := by rw [Below.heap_setCell _ _ _ _ (by simp), Below.heap_setCell _ _ _ _ (by simp), Below.heap_setCell _ _ _ _ (by simp)]; exact h3
      have n4 : (((W.setCell ⟨w.heap.size, 0, none⟩ (.int .u32 0)).setCell ⟨w.heap.size, 1, none⟩ (.int .u32 0)).setCell ⟨w.heap.size, 2, none⟩ (.slice none 0 0)).heap[w.heap.size + 3]? = some (.cells #[.int .i64 ((linesT s).length : Int)] 3 (0, 0)) := by rw [Below.heap_setCell _ _ _ _ (by simp), Below.heap_setCell _ _ _ _ (by simp), Below.heap_setCell _ _ _ _ (by simp)]; exact h4
      have n5 : Below w.heap.size w (((W.setCell ⟨w.heap.size, 0, none⟩ (.int .u32 0)).setCell ⟨w.heap.size, 1, none⟩ (.int .u32 0)).setCell ⟨w.heap.size, 2, none⟩ (.slice none 0 0)) := ((h1.setCell (Nat.le_refl _) _).setCell (Nat.le_refl _) _).setCell (Nat.le_refl _) _
      have n6 : (((W.setCell ⟨w.heap.size, 0, none⟩ (.int .u32 0)).setCell ⟨w.heap.size, 1, none⟩ (.int .u32 0)).setCell ⟨w.heap.size, 2, none⟩ (.slice none 0 0)).heap[D]? = some (.deferred (some [])) := by rw [Below.heap_setCell _ _ _ _ (by simpa using hD0), Below.heap_setCell _ _ _ _ (by simpa using hD0), Below.heap_setCell _ _ _ _ (by simpa using hD0)]; exact hK
      obtain ⟨o1, o2⟩ := two_putB n3 (.int .i64 72) (.int .i64 ((linesT s).length : Int))
      have HN := hide (And.intro n2 (And.intro n3 (And.intro n4 (And.intro n5 n6))))
      have HO := hide (And.intro o1 o2)
      have HDD := hide (And.intro hD0 hD1)
      clear n2 n3 n4 n5 n6 o1 o2 cm cp hC0 h1 h2 h3 h4
      go_simp
      refine hK' _ _ ⟨HN.out.1, ⟨_, _, HN.out.2.1⟩, HN.out.2.2.1, HN.out.2.2.2.1.drew, HN.out.2.2.2.2⟩ ?_
      clear hK' K
      refine wpAnyC_ready (rs := [4]) (by kernel_rfl) (by simp) ?_
      refine AllC.cons rfl (fun K hK' => ?_) AllC.nil
      go_simp
      have hD0 := HDD.out.1
      have hD1 := HDD.out.2
      have e2 := (HO.out.2.block w.heap.size (by omega)).trans HN.out.1
      have e5 := HN.out.2.2.2.1.trans (HO.out.2.mono (by omega))
      have e6 : ((((W.setCell ⟨w.heap.size, 0, none⟩ (.int .u32 0)).setCell ⟨w.heap.size, 1, none⟩ (.int .u32 0)).setCell ⟨w.heap.size, 2, none⟩ (.slice none 0 0)).setCell ⟨w.heap.size + 1, 0, none⟩ (.int .i64 72)).setCell ⟨w.heap.size + 1, 1, none⟩ (.int .i64 ((linesT s).length : Int)) |>.heap[D]? = some (.deferred (some [])) := by
        rw [Below.heap_setCell _ _ _ _ (by simpa using hD1), Below.heap_setCell _ _ _ _ (by simpa using hD1)]; exact HN.out.2.2.2.2
      have e4 : ((((W.setCell ⟨w.heap.size, 0, none⟩ (.int .u32 0)).setCell ⟨w.heap.size, 1, none⟩ (.int .u32 0)).setCell ⟨w.heap.size, 2, none⟩ (.slice none 0 0)).setCell ⟨w.heap.size + 1, 0, none⟩ (.int .i64 72)).setCell ⟨w.heap.size + 1, 1, none⟩ (.int .i64 ((linesT s).length : Int)) |>.heap[w.heap.size + 3]? = some (.cells #[.int .i64 ((linesT s).length : Int)] 3 (0, 0)) := by
        rw [Below.heap_setCell _ _ _ _ (by simp), Below.heap_setCell _ _ _ _ (by simp)]; exact HN.out.2.2.1
      have HE := hide (And.intro e2 (And.intro HO.out.1 (And.intro e5 (And.intro e6 e4))))
      clear e2 e4 e5 e6 HN HO
      refine hK' _ _ ⟨HE.out.1, ⟨_, _, HE.out.2.1⟩, HE.out.2.2.2.2, HE.out.2.2.1.drew, HE.out.2.2.2.1⟩ ?_
      refine wpAnyC_done (by kernel_rfl) ⟨rfl, ?_⟩ _
      generalize ((((W.setCell ⟨w.heap.size, 0, none⟩ (.int .u32 0)).setCell ⟨w.heap.size, 1, none⟩ (.int .u32 0)).setCell ⟨w.heap.size, 2, none⟩ (.slice none 0 0)).setCell ⟨w.heap.size + 1, 0, none⟩ (.int .i64 72)).setCell ⟨w.heap.size + 1, 1, none⟩ (.int .i64 ((linesT s).length : Int)) = XF at *
      show Kr _ _
      exact KEY.out _ _ rfl rfl HE.out.1 HE.out.2.1 HE.out.2.2.1.drew HE.out.2.2.2.1
    · rw [show decide (0 < st.2.2.1) = true by simp; omega] at hHd
      have HR : Hid (parseS s = ((st.1, st.2.1, st.2.2.2), 0, 0)) := by show _ = _; unfold parseS; rw [if_neg (by omega), HGO.out]; simp [hz]
      obtain ⟨h1, h2, h3, h4, _⟩ := HH.out
      obtain ⟨cs, hr1, hr2⟩ := h5.insts.row
      obtain ⟨av, cv, rfl⟩ := own_shape7 hr1
      obtain ⟨cb, _⟩ := blk_cells h5.bld
      obtain ⟨cm, fm⟩ := blk_cells h2
      obtain ⟨cp, fp⟩ := blk_cells h3
      have b0 := cb 0
      have b1 := cb 1
      have b2 := cb 2
      have m0 := cm 0
      have m1 := cm 1
      have m2 := cm 2
      have s0 := cp 0
      have s1 := cp 1
      have HOK := hide h5.ok
      have HRW := hide (And.intro hr1 hr2)
      clear h5 hwd hz cb cm cp h1 h2 h3 h4 hr1 hr2
      gi_wp2_with fail
      refine ⟨trivial, rfl, (callsIn_wide.2 hHd).mono ?_⟩
      rintro e w5 ⟨rfl, rfl⟩
      obtain ⟨h1, h2, h3, h4, h5⟩ := HH.out
      obtain ⟨f1, f2, f3⟩ := five_put h2 h3 (.int .u32 st.1) (.int .u32 st.2.1) (.slice av st.2.2.2.length cv) (.int .i64 0) (.int .i64 0)
      have hD0 : D ≠ w.heap.size := by omega
      have hD1 : D ≠ w.heap.size + 1 := by omega
      have hKY : (((((W.setCell ⟨w.heap.size, 0, none⟩ (.int .u32 st.1)).setCell ⟨w.heap.size, 1, none⟩ (.int .u32 st.2.1)).setCell ⟨w.heap.size, 2, none⟩ (.slice av st.2.2.2.length cv)).setCell ⟨w.heap.size + 1, 0, none⟩ (.int .i64 0)).setCell ⟨w.heap.size + 1, 1, none⟩ (.int .i64 0)).heap[D]? = some (.deferred (some [])) := by
        rw [Below.heap_setCell _ _ _ _ (by simpa using hD1), Below.heap_setCell _ _ _ _ (by simpa using hD1), Below.heap_setCell _ _ _ _ (by simpa using hD0), Below.heap_setCell _ _ _ _ (by simpa using hD0), Below.heap_setCell _ _ _ _ (by simpa using hD0)]; exact hK
      have hoY := ownsRow_setCell_below (ownsRow_setCell_below (ownsRow_setCell_below (ownsRow_setCell_below (ownsRow_setCell_below HRW.out.1 (a := ⟨w.heap.size, 0, none⟩) (by simp) (.int .u32 st.1)) (a := ⟨w.heap.size, 1, none⟩) (by simp) (.int .u32 st.2.1)) (a := ⟨w.heap.size, 2, none⟩) (by simp) (.slice av st.2.2.2.length cv)) (a := ⟨w.heap.size + 1, 0, none⟩) (by simp) (.int .i64 0)) (a := ⟨w.heap.size + 1, 1, none⟩) (by simp) (.int .i64 0)
      have hrY := (HRW.out.2.grown (grown_set (grown_set (grown_set (World.grownBy.refl W (some w.heap.size)) 0 (.int .u32 st.1)) 1 (.int .u32 st.2.1)) 2 (.slice av st.2.2.2.length cv)) (fun g e => by simp only [Option.some.injEq] at e; subst e; exact .inl (by omega))).grown (grown_set (grown_set (World.grownBy.refl _ (some (w.heap.size + 1))) 0 (.int .i64 0)) 1 (.int .i64 0)) (fun g e => by simp only [Option.some.injEq] at e; subst e; exact .inl (by omega))
      have hbY := h1.trans f3
      have HY := hide (And.intro f1 (And.intro f2 (And.intro hbY (And.intro hKY (And.intro hoY hrY)))))
      clear h1 h2 h3 h4 h5 f1 f2 f3 hKY hoY hrY hbY hHd HH HRW
      gi_wp2_with fail
      generalize ((((W.setCell ⟨w.heap.size, 0, none⟩ (.int .u32 st.1)).setCell ⟨w.heap.size, 1, none⟩ (.int .u32 st.2.1)).setCell ⟨w.heap.size, 2, none⟩ (.slice av st.2.2.2.length cv)).setCell ⟨w.heap.size + 1, 0, none⟩ (.int .i64 0)).setCell ⟨w.heap.size + 1, 1, none⟩ (.int .i64 0) = Y at *
      obtain ⟨f1, f2, hbY, hKY, hoY, hrY⟩ := HY.out
      have hput := grownBy_putObj' Y D (.deferred none)
      have hrr : ∀ r, some D = some r → w.heap.size + 5 ≤ r ∧ ∃ o : Obj, Y.heap[r]? = some o ∧ o.isCells = false := fun r e => by cases e; exact ⟨by omega, _, hKY, rfl⟩
      have HBE := hide (belowStay hbY (Nat.le_refl _) (by omega) hput hrr)
      obtain ⟨cm, _⟩ := blk_cells (cellsStay f1 hput hrr)
      obtain ⟨cp, _⟩ := blk_cells (cellsStay f2 hput hrr)
      have r0 := cm 0
      have r1 := cm 1
      have r2 := cm 2
      have r3 := cp 0
      have r4 := cp 1
      have hap : Apartly Y (w.heap.size + 5) (some D) := fun g e => .inr (hrr g e).2
      have hV := ((hrY.grown hput hap).own (own_apartly hoY hput hap) rfl).view
      refine ⟨by simp, .inl ⟨_, _, rfl, run_takeDeferred hKY, ?_⟩⟩
      refine ⟨.tuple #[.agg #[.int .u32 st.1, .int .u32 st.2.1, .slice av st.2.2.2.length cv], .agg #[.int .i64 0, .int .i64 0]], by simp [results, Tryz.results23, go_sem, r0, r1, r2, r3, r4], ?_⟩
      unfold ParQ
      rw [HR.out]
      exact ⟨av, st.2.2.2.length, cv, rfl, hV, rfl, HOK.out, HBE.out⟩

end Go.Proofs.YtddkapkkjhomkaaGreatDoor

/-
  Plain facts on what a text says: what is read is of good shape; a fault hangs on the lines up to it alone.
-/
namespace Go.Proofs.YtddkapkkjhomkaaGreatDoor
open Go.RowKit
set_option linter.unusedVariables false
set_option linter.unusedSimpArgs false
set_option maxRecDepth 10000

/-- How many words instructions have, with one more each. -/
def wsum (b : Int) (l : List InstT) : Nat := (l.map fun x => 1 + (rawWs x b).length).sum
end Go.Proofs.YtddkapkkjhomkaaGreatDoor

/-
  Lines as they are written by the document, all bytes of a text as \x and two digits: they are read as those tokens; a text of such lines. In plain mathematics.
-/
namespace Go.Proofs.YtddkapkkjhomkaaGreatDoor
open Go.RowKit
set_option linter.unusedSimpArgs false
set_option maxRecDepth 10000
set_option linter.unusedVariables false

/-- A byte as \x and two digits. -/
def hx1 (c : Int) : List Int := [92, 120, hexD (c / 16), hexD (c % 16)]
def hxL (l : List Int) : List Int := l.flatMap hx1
def wtS (t : TokT) : List Int := if t.1 = 2 then 37 :: strI t.2.1 else if t.1 = 4 then 34 :: (hxL (strI t.2.1) ++ [34]) else strI t.2.1
theorem hex_digit {n : Int} (h0 : 0 ≤ n) (h1 : n < 16) : hexB (hexD n) = true ∧ dvI (hexD n) = n ∧ 48 ≤ hexD n ∧ hexD n ≤ 102 := by
  have : ∀ m : Fin 16, hexB (hexD (m.val : Int)) = true ∧ dvI (hexD (m.val : Int)) = (m.val : Int) ∧ 48 ≤ hexD (m.val : Int) ∧ hexD (m.val : Int) ≤ 102 := by decide
  obtain ⟨m, rfl⟩ := Int.eq_ofNat_of_zero_le h0
  exact this ⟨m, by omega⟩
theorem part_hx (c : Int) (rest : List Int) (h0 : 0 ≤ c) (h1 : c < 256) : nth (hx1 c ++ rest) 0 ≠ 34 ∧ partP (hx1 c ++ rest) 0 = some (c, (hx1 c).length) := by
  unfold hx1
  obtain ⟨a1, a2, _⟩ := hex_digit (n := c / 16) (by omega) (by omega)
  obtain ⟨b1, b2, _⟩ := hex_digit (n := c % 16) (by omega) (by omega)
  have e0 : nth ([92, 120, hexD (c / 16), hexD (c % 16)] ++ rest) 0 = 92 := by simp [nth]
  have e1 : nth ([92, 120, hexD (c / 16), hexD (c % 16)] ++ rest) (0 + 1) = 120 := by simp [nth]
  have e2 : nth ([92, 120, hexD (c / 16), hexD (c % 16)] ++ rest) (0 + 2) = hexD (c / 16) := by simp [nth]
  have e3 : nth ([92, 120, hexD (c / 16), hexD (c % 16)] ++ rest) (0 + 3) = hexD (c % 16) := by simp [nth]
  refine ⟨by rw [e0]; omega, ?_⟩
  unfold partP
  rw [e0, e1, e2, e3, if_pos rfl, if_neg (by omega), if_pos ⟨rfl, a1, b1⟩, a2, b2]
  congr 1
  simp only [List.length_cons, List.length_nil]
  rw [show 16 * (c / 16) + c % 16 = c by omega]
theorem quot_hx (t rest : List Int) (h : Within 256 t) : quotP (hxL t ++ 34 :: rest) 0 = some (t, (hxL t).length + 1) := by
  induction t with
  | nil => exact quotP_close (by simp [nth, hxL])
  | cons c t ih =>
    have hc := h c (by simp)
    have e : hxL (c :: t) ++ 34 :: rest = hx1 c ++ (hxL t ++ 34 :: rest) := by simp [hxL]
    obtain ⟨p1, p2⟩ := part_hx c (hxL t ++ 34 :: rest) hc.1 hc.2
    have el : (hxL (c :: t)).length = (hx1 c).length + (hxL t).length := by simp [hxL]
    rw [e, quotP_some p1 p2]
    have hs := quot_shift (hx1 c) (hxL t ++ 34 :: rest) 0
    rw [Nat.add_zero] at hs
    rw [Nat.zero_add, hs, ih (fun z hz => h z (by simp [hz])), el]
    simp; omega
theorem wtS_tok {t : TokT} (h : t.1 ≠ 4) : wtS t = tokS t.1 (strI t.2.1) := by
  unfold wtS tokS
  by_cases e : t.1 = 2
  · rw [if_pos e, if_pos e]
  · rw [if_neg e, if_neg e, if_neg h, if_neg h]
theorem tok_wt {t : TokT} {rest : List Int} (h : tokOk t.1 (strI t.2.1) = true) (hr : runB (nth rest 0) = false) :
    tokP (wtS t ++ rest) 0 = .inr (t.1, strI t.2.1, (wtS t).length) ∧ blankB (nth (wtS t ++ rest) 0) = false ∧ nth (wtS t ++ rest) 0 ≠ 59 ∧ 0 < (wtS t).length := by
  by_cases h4 : t.1 = 4
  · have ew : wtS t = 34 :: (hxL (strI t.2.1) ++ [34]) := by unfold wtS; rw [if_neg (by omega), if_pos h4]
    have es : wtS t ++ rest = [34] ++ (hxL (strI t.2.1) ++ 34 :: rest) := by rw [ew]; simp
    have el : (wtS t).length = (hxL (strI t.2.1)).length + 2 := by rw [ew]; simp
    rw [es, el]
    have h0 : nth ([34] ++ (hxL (strI t.2.1) ++ 34 :: rest)) 0 = 34 := by simp [nth]
    have hq := quot_shift [34] (hxL (strI t.2.1) ++ 34 :: rest) 0
    rw [quot_hx _ rest (strI_within _)] at hq
    simp only [List.length_singleton, Nat.add_zero, Option.map_some] at hq
    refine ⟨?_, by rw [h0]; rfl, by rw [h0]; decide, by omega⟩
    unfold tokP
    rw [h0, if_neg (by decide), if_neg (by decide), if_neg (by decide), if_pos rfl, Nat.zero_add, hq, h4]
    simp; omega
  · rw [wtS_tok h4]
    obtain ⟨h1, h2, h3⟩ := tok_read h (strI_within t.2.1) hr
    exact ⟨h1, h2, h3, tokS_pos h⟩
/-- Tokens as they are written, each with a blank ahead. -/
def wtAll (l : List TokT) : List Int := l.flatMap fun t => 32 :: wtS t
def placedW : Nat → List TokT → List TokT
  | _, [] => []
  | p, t :: r => (t.1, t.2.1, (p : Int)) :: placedW (p + (wtS t).length + 1) r
theorem placedW_move (k : Nat) (l : List TokT) : ∀ p, (placedW p l).map (moveT k) = placedW (p + k) l := by
  induction l with
  | nil => intro p; rfl
  | cons t r ih =>
    intro p
    simp only [placedW, List.map_cons, ih, moveT]
    rw [show p + (wtS t).length + 1 + k = p + k + (wtS t).length + 1 by omega]
    simp
theorem wtAll_head (r : List TokT) : runB (nth (wtAll r) 0) = false := by
  cases r with
  | nil => rfl
  | cons t r => rfl
theorem toks_wtAll (r : List TokT) (h : toksP ((wtAll r).drop 1) 0 = (placedW 0 r, 0, 0)) : toksP (wtAll r) 0 = (placedW 1 r, 0, 0) := by
  cases r with
  | nil => rfl
  | cons t r =>
    have e : wtAll (t :: r) = List.replicate 1 32 ++ (wtAll (t :: r)).drop 1 := rfl
    rw [e, toks_blanks, h]
    unfold shiftR
    rw [placedW_move]; rfl
theorem toks_wt (l : List TokT) (h : wOk l = true) : toksP ((wtAll l).drop 1) 0 = (placedW 0 l, 0, 0) := by
  induction l with
  | nil => rfl
  | cons t r ih =>
    simp only [wOk, List.all_cons, Bool.and_eq_true] at h
    have ih := toks_wtAll r (ih h.2)
    have e : (wtAll (t :: r)).drop 1 = wtS t ++ wtAll r := by simp [wtAll]
    obtain ⟨h1, h2, h3, hp⟩ := tok_wt h.1 (wtAll_head r)
    have hs := toks_shift (wtS t) (wtAll r) 0
    rw [Nat.add_zero, ih] at hs
    rw [e, toksP_tok (by rw [List.length_append]; omega) h3 h2 h1, hs, str_of_strI]
    unfold shiftR consR
    rw [placedW_move, if_pos rfl]
    simp only [placedW]
    rw [Nat.zero_add, Nat.add_comm 1]
theorem placedW_len (l : List TokT) : ∀ p, (placedW p l).length = l.length := by
  induction l with
  | nil => intro p; rfl
  | cons t r ih => intro p; simp [placedW, ih]
theorem placedW_same (l : List TokT) : ∀ p, SameT (placedW p l) l := by
  induction l with
  | nil => intro p; exact ⟨rfl, fun k hk => by simp at hk⟩
  | cons t r ih =>
    intro p
    refine ⟨placedW_len _ _, fun k hk => ?_⟩
    cases k with
    | zero => exact ⟨rfl, rfl⟩
    | succ k => exact (ih (p + (wtS t).length + 1)).2 k (by simpa using hk)
theorem argTk_ok {c b : Int} {x : ArgT} (hok : ArgOk x) (hk : kindI c ≠ 0) (h : wrongA c x b = 0) : tokOk (argTk c x).1 (strI (argTk c x).2.1) = true := by
  obtain ⟨hc, hkd⟩ := wrongA_kind h
  obtain ⟨o1, o2, o3, o4, o5⟩ := hok
  have hm := kindI_most c
  unfold argTk
  by_cases e1 : x.1 = 1
  · rw [if_pos e1]
    show tokOk 2 _ = true
    rw [strI_dgS]
    exact dgL_plain (by omega)
  · rw [if_neg e1]
    by_cases e2 : x.1 = 2
    · rw [if_pos e2]
      show tokOk 3 _ = true
      rw [strI_dgS]
      exact (dgL_num (by omega)).1
    · rw [if_neg e2]
      by_cases e3 : x.1 = 3
      · rw [if_pos e3]; rfl
      · rw [if_neg e3]
        show wordB _ = true
        have e4 : kindI c = 4 := by omega
        have hn : enumB c x.2.1 = true := by
          unfold wrongA at h
          by_cases em : mayStandB c x = false
          · rw [if_pos em] at h; cases h
          · rw [if_neg em, if_neg e3] at h
            unfold faultW at h
            rw [if_neg (by omega), if_pos e4] at h
            by_cases hb : enumB c x.2.1 = true
            · exact hb
            · rw [if_neg hb] at h; cases h
        exact (name_enum hn).2.2.1
theorem tksI_ok {x : InstT} {b : Int} (hx : InstOk x) (hr : rawE x b = 0) : wOk (tksI x) = true := by
  obtain ⟨h1, h2, h3⟩ := rawWs_ok hr
  obtain ⟨i1, i2, i3, i4, i5⟩ := faultI_zero h2
  obtain ⟨o, ho, hf, hof, _, hwd⟩ := name_op h1
  obtain ⟨x1, x2, x3, x4, x5, x6, x7, x8⟩ := hx
  have hpl : ∀ n : Int, n < 4294967296 → tokOk 2 (strI (dgS n)) = true := fun n hn => by
    show plainB _ = true
    rw [strI_dgS]; exact dgL_plain (by omega)
  have ha : wOk (argTks (lookF refT x.1).1 x.2.2.2) = true := by
    refine wOk_all fun k hk => ?_
    rw [argTks_len] at hk
    rw [argTks_nth _ _ _ hk]
    have hw := wrongL_zero i3 k hk
    rw [Nat.zero_add] at hw
    rcases letter_known x.1 (k : Int) with h | h
    · exact absurd h (wrongA_kind hw).1
    · exact argTk_ok (x7 k hk) h hw
  have hp : wOk (preTk (lookF refT x.1).1 x) = true := by
    unfold preTk wOk
    have e1 := hpl x.2.2.1 x6
    have e2 := hpl x.2.1 x4
    have e3 : tokOk 5 (strI eqS) = true := by decide
    have e4 : tokOk 1 (strI (lookF refT x.1).1.1) = true := hwd
    cases (lookF refT x.1).1.2.2.1 <;> cases (lookF refT x.1).1.2.1 <;> simp [e1, e2, e3, e4]
  unfold tksI
  unfold wOk at *
  rw [List.all_append, hp, ha]; rfl
theorem tksI_ne (x : InstT) : tksI x ≠ [] := by
  intro h
  have := congrArg List.length h
  unfold tksI preTk at this
  rw [List.length_append, List.length_append, List.length_append] at this
  simp at this
/-! ### no line ends within -/

theorem word_no {l : List Int} (h : wordB l = true) : ∀ z ∈ l, 32 < z := fun z hz => by
  simp only [wordB, Bool.and_eq_true, List.all_eq_true] at h
  have := h.1.2 z hz
  simp only [runB, letterB, digitB, Bool.or_eq_true, decide_eq_true_eq, beq_iff_eq] at this
  omega
theorem plain_no {l : List Int} (h : plainB l = true) : ∀ z ∈ l, 32 < z := fun z hz => by
  obtain ⟨k, hk, rfl⟩ := List.getElem_of_mem hz
  have := (plain_all h).2 k hk
  have e : nth l k = l[k] := by simp [nth, List.getD, hk]
  rw [e] at this
  simp only [digitB, decide_eq_true_eq] at this
  omega
theorem num_no {l : List Int} (h : numB l = true) : ∀ z ∈ l, 32 < z := fun z hz => by
  obtain ⟨h0, h1, h2⟩ := num_shape h
  obtain ⟨k, hk, rfl⟩ := List.getElem_of_mem hz
  have e : nth l k = l[k] := by simp [nth, List.getD, hk]
  by_cases hk0 : k = 0
  · subst hk0
    rw [e] at h1
    rcases h1 with h1 | h1
    · simp only [digitB, decide_eq_true_eq] at h1; omega
    · omega
  · have := h2 k (by omega) hk
    rw [e] at this
    simp only [runB, letterB, digitB, Bool.or_eq_true, decide_eq_true_eq, beq_iff_eq] at this
    omega
theorem wtS_no {t : TokT} (h : tokOk t.1 (strI t.2.1) = true) : ∀ z ∈ wtS t, 32 < z := fun z hz => by
  unfold wtS at hz
  unfold tokOk at h
  by_cases e2 : t.1 = 2
  · rw [if_pos e2] at hz
    rw [if_neg (by omega), if_pos e2] at h
    rcases List.mem_cons.1 hz with rfl | hz
    · omega
    · exact plain_no h z hz
  · rw [if_neg e2] at hz
    by_cases e4 : t.1 = 4
    · rw [if_pos e4] at hz
      rcases List.mem_cons.1 hz with rfl | hz
      · omega
      · rcases List.mem_append.1 hz with hz | hz
        · obtain ⟨c, hc, hz⟩ := List.mem_flatMap.1 hz
          have hw := strI_within t.2.1 c hc
          obtain ⟨_, _, a1, a2⟩ := hex_digit (n := c / 16) (by omega) (by omega)
          obtain ⟨_, _, b1, b2⟩ := hex_digit (n := c % 16) (by omega) (by omega)
          unfold hx1 at hz
          simp only [List.mem_cons, List.not_mem_nil, or_false] at hz
          rcases hz with rfl | rfl | rfl | rfl <;> omega
        · have := List.mem_singleton.1 hz; omega
    · rw [if_neg e4] at hz
      by_cases e1 : t.1 = 1
      · rw [if_pos e1] at h; exact word_no h z hz
      · rw [if_neg e1, if_neg e2] at h
        by_cases e3 : t.1 = 3
        · rw [if_pos e3] at h; exact num_no h z hz
        · rw [if_neg e3, if_neg e4] at h
          by_cases e5 : t.1 = 5
          · rw [if_pos e5] at h
            have := of_decide_eq_true h
            rw [this] at hz
            have := List.mem_singleton.1 hz; omega
          · rw [if_neg e5] at h; cases h
end Go.Proofs.YtddkapkkjhomkaaGreatDoor

/-
  Texts of lines: what is read of them. In plain mathematics.
-/
namespace Go.Proofs.YtddkapkkjhomkaaGreatDoor
open Go.RowKit
set_option linter.unusedSimpArgs false
set_option maxRecDepth 10000
set_option linter.unusedVariables false

/-! ### lines -/

/-- Lines, each with its end. -/
def joinLs (l : List (List Int)) : List Int := l.flatMap fun a => a ++ [10]
def numbered : Nat → List (List Int) → List (Nat × ByteArray)
  | _, [] => []
  | n, a :: r => (n, strOfNums a) :: numbered (n + 1) r
def LineOk (a : List Int) : Prop := Within 256 a ∧ ∀ z ∈ a, z ≠ 10
theorem joinLs_within {l : List (List Int)} (h : ∀ a ∈ l, LineOk a) : Within 256 (joinLs l) := fun z hz => by
  obtain ⟨a, ha, hz⟩ := List.mem_flatMap.1 hz
  rcases List.mem_append.1 hz with hz | hz
  · exact (h a ha).1 z hz
  · have := List.mem_singleton.1 hz; omega
theorem line_cut {a b : List Int} (ha : LineOk a) (hb : Within 256 b) : cutAX (strOfNums (a ++ 10 :: b)) = strOfNums a ∧ cutZ (strOfNums (a ++ 10 :: b)) = strOfNums b ∧ (strOfNums (a ++ 10 :: b)).size ≠ 0 := by
  have hw : Within 256 (a ++ 10 :: b) := within_appX ha.1 (within_cons (by omega) (by omega) hb)
  have hs := strI_of hw
  have hn : nlAt (strOfNums (a ++ 10 :: b)) = a.length := by
    refine nl_some ?_ fun k hk => ?_
    · rw [← strI_ten, hs]; simp
    · rw [Ne, ← strI_ten, hs, List.getElem?_append_left hk]
      intro e
      exact ha.2 10 (List.mem_of_getElem? e) rfl
  have hz : (strOfNums (a ++ 10 :: b)).size = a.length + 1 + b.length := by rw [← strI_len, hs]; simp; omega
  obtain ⟨c1, c2⟩ := cut_some hn
  refine ⟨?_, ?_, by omega⟩
  · rw [c1]; apply strI_inj
    rw [strI_extract, hs, strI_of ha.1]; simp
  · rw [c2]; apply strI_inj
    rw [strI_extract, hs, strI_of hb, hz]
    rw [List.take_of_length_le (by simp; omega), List.drop_append, List.drop_eq_nil_of_le (by omega)]
    simp
theorem lines_of : ∀ (l : List (List Int)) (n f : Nat), (∀ a ∈ l, LineOk a) → (strOfNums (joinLs l)).size ≤ f → linesF f n (strOfNums (joinLs l)) = numbered n l
  | [], n, f, _, _ => linesF_empty _ _ _ rfl
  | a :: r, n, f, h, hf => by
    have hr : ∀ b ∈ r, LineOk b := fun b hb => h b (by simp [hb])
    have e : joinLs (a :: r) = a ++ 10 :: joinLs r := by simp [joinLs]
    obtain ⟨c1, c2, c3⟩ := line_cut (h a (by simp)) (joinLs_within hr)
    rw [e] at hf ⊢
    obtain ⟨f', e1, e2⟩ := linesF_step f n _ c3 hf
    rw [e1, c1, c2, numbered, lines_of r (n + 1) f' hr (by rw [← c2]; exact e2)]
theorem lines_text {l : List (List Int)} (h : ∀ a ∈ l, LineOk a) : linesT (strOfNums (joinLs l)) = numbered 1 l := lines_of l 1 _ h (Nat.le_refl _)
/-! ### what a line adds -/

/-- The state behind some instructions. -/
def stAfter (st : ModT) (l : List InstT) : ModT := (st.1, st.2.1, st.2.2.1 + ((wsum st.2.1 l : Nat) : Int), st.2.2.2 ++ l)
theorem stAfter_cons (st : ModT) (x : InstT) (l : List InstT) : stAfter (st.1, st.2.1, st.2.2.1 + (1 + ((rawWs x st.2.1).length : Int)), st.2.2.2 ++ [x]) l = stAfter st (x :: l) := by
  unfold stAfter wsum
  simp only [List.map_cons, List.sum_cons, List.append_assoc, List.singleton_append]
  congr 3
  push_cast
  omega
/-! ### a module's shape -/

theorem shapeF_sum {b : Int} : ∀ (l : List InstT) (k c : Nat), (shapeF b k c l).1 = 0 → c ≤ 1048576 → c + wsum b l ≤ 1048576 ∧ ∀ x ∈ l, rawE x b = 0
  | [], _, c, _, hc => ⟨by simpa [wsum] using hc, fun x hx => by cases hx⟩
  | x :: l, k, c, h, hc => by
    rw [shapeF] at h
    by_cases h1 : rawE x b = 0
    · rw [if_neg (by rw [h1]; simp)] at h
      by_cases h2 : 1048576 < c + 1 + (rawWs x b).length
      · rw [if_pos h2] at h; cases h
      · rw [if_neg h2] at h
        obtain ⟨s1, s2⟩ := shapeF_sum l _ _ h (by omega)
        refine ⟨by simp only [wsum, List.map_cons, List.sum_cons] at s1 ⊢; omega, fun y hy => ?_⟩
        rcases List.mem_cons.1 hy with rfl | hy
        · exact h1
        · exact s2 y hy
    · rw [if_pos h1] at h; exact absurd h h1
theorem shape_sum {b : Int} {l : List InstT} (h : (shapeE b l).1 = 0) : 5 + wsum b l ≤ 1048576 ∧ ∀ x ∈ l, rawE x b = 0 := by
  unfold shapeE at h
  split at h
  · cases h
  · exact shapeF_sum l 0 5 h (by omega)
theorem oks_mem {l : List InstT} (h : InstsOk l) : ∀ x ∈ l, InstOk x := fun x hx => by
  obtain ⟨k, hk, rfl⟩ := List.getElem_of_mem hx
  have := h k hk
  rwa [nthI_lt _ _ hk] at this

/-! ### sizes -/

theorem wordsL_ge : ∀ (l : List ArgT), l.length ≤ (wordsL l).length ∧ ∀ a ∈ l, (wordsA a).length ≤ (wordsL l).length
  | [] => ⟨by simp, fun a ha => by cases ha⟩
  | x :: l => by
    obtain ⟨h1, h2⟩ := wordsL_ge l
    have e : (wordsL (x :: l)).length = (wordsA x).length + (wordsL l).length := by simp [wordsL]
    have hx : 1 ≤ (wordsA x).length := by rw [wordsA_len]; split <;> omega
    refine ⟨by rw [e, List.length_cons]; omega, fun a ha => ?_⟩
    rcases List.mem_cons.1 ha with rfl | ha
    · omega
    · have := h2 a ha; omega
theorem tksI_size {x : InstT} {b : Int} (hx : InstOk x) (hr : rawE x b = 0) : ∀ t ∈ tksI x, t.2.1.size ≤ 300000 := by
  obtain ⟨h1, h2, h3⟩ := rawWs_ok hr
  obtain ⟨i1, i2, i3, i4, i5⟩ := faultI_zero h2
  obtain ⟨o, ho, hf, hof, hnz, hwd⟩ := name_op h1
  obtain ⟨x1, x2, x3, x4, x5, x6, x7, x8⟩ := hx
  intro t ht
  unfold tksI at ht
  rcases List.mem_append.1 ht with ht | ht
  · have d1 := dgS_size x6
    have d2 := dgS_size x4
    have d3 : eqS.size = 1 := rfl
    unfold preTk at ht
    cases e1 : (lookF refT x.1).1.2.2.1 <;> cases e2 : (lookF refT x.1).1.2.1 <;> simp [e1, e2] at ht
    · subst ht; simp only; omega
    · rcases ht with rfl | rfl <;> simp only <;> omega
    · rcases ht with rfl | rfl | rfl <;> simp only <;> omega
    · rcases ht with rfl | rfl | rfl | rfl <;> simp only <;> omega
  · unfold argTks at ht
    obtain ⟨k, hk, rfl⟩ := List.mem_map.1 ht
    have hk := List.mem_range.1 hk
    have hok := x7 k hk
    have hm : nthA x.2.2.2 k ∈ x.2.2.2 := by rw [nthA_lt _ _ hk]; exact List.getElem_mem hk
    have hw := (wordsL_ge x.2.2.2).2 _ hm
    have hrl : (wordsL x.2.2.2).length ≤ (rawL (lookF refT x.1).1 x).length := by unfold rawL; rw [List.length_append]; omega
    have hd := dgS_size hok.2.2.2.1
    have hwr := wrongL_zero i3 k hk
    rw [Nat.zero_add] at hwr
    rw [wordsA_len] at hw
    unfold argTk
    by_cases e1 : (nthA x.2.2.2 k).1 = 1
    · rw [if_pos e1]; simp only; omega
    · rw [if_neg e1]
      by_cases e2 : (nthA x.2.2.2 k).1 = 2
      · rw [if_pos e2]; simp only; omega
      · rw [if_neg e2]
        by_cases e3 : (nthA x.2.2.2 k).1 = 3
        · rw [if_pos e3]; simp only
          rw [if_pos e3] at hw; omega
        · rw [if_neg e3]; simp only
          have : (enumS (letterI (lookF refT x.1).1 (k : Int)) (nthA x.2.2.2 k).2.1).size ≤ 1000 := by
            by_cases h : enumB (letterI (lookF refT x.1).1 (k : Int)) (nthA x.2.2.2 k).2.1 = true
            · exact (name_enum h).2.2.2
            · unfold enumB at h
              unfold enumS
              cases e : namesT.find? (isNum (letterI (lookF refT x.1).1 (k : Int)) (nthA x.2.2.2 k).2.1) with
              | none => decide
              | some x => rw [e] at h; simp at h
          omega
end Go.Proofs.YtddkapkkjhomkaaGreatDoor

/-
  A module's text with notes and blanks between its lines: it is read as that module. In plain mathematics.
-/
namespace Go.Proofs.YtddkapkkjhomkaaGreatDoor
open Go.RowKit
set_option linter.unusedSimpArgs false
set_option maxRecDepth 10000
set_option linter.unusedVariables false

/-! ### lines with a last one that has no end -/

/-! ### notes -/

/-! ### the head -/

def modS : ByteArray := ⟨#[109, 111, 100, 117, 108, 101]⟩
def headTk (g b : Int) : List TokT := [(1, modS, 0), (3, dgS g, 0), (3, dgS b, 0)]
def headL (g b : Int) : List Int := (wtAll (headTk g b)).drop 1
theorem headTk_ok {g b : Int} (g1 : g < 4294967296) (b1 : b < 4294967296) : wOk (headTk g b) = true := by
  have e1 : tokOk 3 (strI (dgS g)) = true := by show numB _ = true; rw [strI_dgS]; exact (dgL_num (by omega)).1
  have e2 : tokOk 3 (strI (dgS b)) = true := by show numB _ = true; rw [strI_dgS]; exact (dgL_num (by omega)).1
  have e3 : tokOk 1 (strI modS) = true := by decide
  simp [wOk, headTk, e1, e2, e3]
theorem headL_ok {g b : Int} (g1 : g < 4294967296) (b1 : b < 4294967296) : LineOk (headL g b) := by
  have hok := headTk_ok (g := g) (b := b) g1 b1
  simp only [wOk, List.all_eq_true] at hok
  have hno : ∀ z ∈ headL g b, 32 ≤ z := fun z hz => by
    obtain ⟨t, ht, hz⟩ := List.mem_flatMap.1 (List.mem_of_mem_drop hz)
    rcases List.mem_cons.1 hz with rfl | hz
    · omega
    · have := wtS_no (hok t ht) z hz; omega
  refine ⟨within_dropX ?_ 1, fun z hz e => by have := hno z hz; omega⟩
  intro z hz
  obtain ⟨t, ht, hz⟩ := List.mem_flatMap.1 hz
  rcases List.mem_cons.1 hz with rfl | hz
  · omega
  · simp only [headTk, List.mem_cons, List.not_mem_nil, or_false] at ht
    rcases ht with rfl | rfl | rfl <;> exact strI_within _ z (by simpa [wtS] using hz)
theorem head_read {g b : Int} (g0 : 0 ≤ g) (g1 : g < 4294967296) (b0 : 1 ≤ b) (b1 : b ≤ 65536) : addS st0 (strOfNums (headL g b)) = (0, (g, b, 5, [])) := by
  have ht := toks_wt (headTk g b) (headTk_ok g1 (by omega))
  have hsm := placedW_same (headTk g b) 0
  have hl : (placedW 0 (headTk g b)).length = 3 := by rw [placedW_len]; rfl
  obtain ⟨a1, a2⟩ := hsm.2 0 (by simp [headTk])
  obtain ⟨c1, c2⟩ := hsm.2 1 (by simp [headTk])
  obtain ⟨d1, d2⟩ := hsm.2 2 (by simp [headTk])
  have e0 : nthT (headTk g b) 0 = (1, modS, 0) := rfl
  have e1 : nthT (headTk g b) 1 = (3, dgS g, 0) := rfl
  have e2 : nthT (headTk g b) 2 = (3, dgS b, 0) := rfl
  rw [e0] at a1 a2; rw [e1] at c1 c2; rw [e2] at d1 d2
  simp only at a1 a2 c1 c2 d1 d2
  obtain ⟨n1, n2⟩ := num_back g0 g1
  obtain ⟨n3, n4⟩ := num_back (n := b) (by omega) (by omega)
  have p1 : numP (nthT (placedW 0 (headTk g b)) 1) = 0 := by rw [numP_num c1, c2]; exact n1
  have p2 : numP (nthT (placedW 0 (headTk g b)) 2) = 0 := by rw [numP_num d1, d2]; exact n3
  have hh : ∀ len, headP (placedW 0 (headTk g b)) len = (g, b, 0, 0) := fun len => by
    unfold headP
    rw [if_neg (by rw [hl]; simp), if_neg (by simp only [a1, a2]; simp [modS, moduleS]), if_neg (by omega), if_neg (by rw [p1]; simp), if_neg (by omega), if_neg (by rw [p2]; simp), c2, d2, n2, n4, if_neg (by omega), if_neg (by omega)]
  unfold addS
  rw [strI_of (headL_ok g1 (by omega)).1]
  have hX : toksP (headL g b) 0 = (placedW 0 (headTk g b), 0, 0) := ht
  rw [hX]
  simp only
  rw [if_neg (by intro h; rcases h with h | h; exact h rfl; rw [h] at hl; cases hl), if_pos (show st0.2.2.1 = 0 from rfl), hh]
  simp

/-! ### the whole -/

end Go.Proofs.YtddkapkkjhomkaaGreatDoor

/-
  Lines as the program prints them: they are read as they were; a module's printed text, its size. In plain mathematics.
-/
namespace Go.Proofs.YtddkapkkjhomkaaGreatDoor
open Go.RowKit
set_option linter.unusedSimpArgs false
set_option maxRecDepth 10000
set_option linter.unusedVariables false

/-- An instruction's printed line. -/
def prI (x : InstT) : List Int := (wAll (tksI x)).drop 1
theorem placed_same (l : List TokT) : SameT (placed 0 l) l := ⟨placed_len l 0, fun k hk => alike_placed hk⟩
theorem prI_read {x : InstT} {b : Int} (hx : InstOk x) (hr : rawE x b = 0) : ∃ ps, toksP (prI x) 0 = (ps, 0, 0) ∧ ps ≠ [] ∧ ps.length = (tksI x).length ∧ ∀ len, lineP ps len b = (x, true, 0, 0) := by
  refine ⟨placed 0 (tksI x), toks_written _ (tksI_ok hx hr), fun e => ?_, placed_len _ _, fun len => line_back hx hr (placed_same _)⟩
  have := congrArg List.length e
  rw [placed_len] at this
  exact tksI_ne x (List.length_eq_zero_iff.1 this)
theorem prI_within (x : InstT) : Within 256 (prI x) := within_dropX (wAll_within _) 1
theorem tokS_no {t : TokT} (h : tokOk t.1 (strI t.2.1) = true) : ∀ z ∈ tokS t.1 (strI t.2.1), 32 ≤ z := fun z hz => by
  by_cases e4 : t.1 = 4
  · rw [e4] at hz
    exact (quote_print _ (strI_within _) z (by simpa [tokS] using hz)).1
  · rw [← wtS_tok e4] at hz
    have := wtS_no h z hz; omega
theorem prI_ok {x : InstT} {b : Int} (hx : InstOk x) (hr : rawE x b = 0) : LineOk (prI x) := by
  refine ⟨prI_within x, fun z hz e => ?_⟩
  obtain ⟨t, ht, hz⟩ := List.mem_flatMap.1 (List.mem_of_mem_drop hz)
  have hok := tksI_ok hx hr
  simp only [wOk, List.all_eq_true] at hok
  rcases List.mem_cons.1 hz with rfl | hz
  · omega
  · have := tokS_no (hok t ht) z hz; omega
theorem add_pr {st : ModT} {x : InstT} (hx : InstOk x) (hr : rawE x st.2.1 = 0) (h0 : st.2.2.1 ≠ 0) (hw : st.2.2.1 + (1 + ((rawWs x st.2.1).length : Int)) ≤ 1048576) :
    addS st (strOfNums (prI x)) = (0, (st.1, st.2.1, st.2.2.1 + (1 + ((rawWs x st.2.1).length : Int)), st.2.2.2 ++ [x])) := by
  obtain ⟨ps, h1, h2, _, h3⟩ := prI_read hx hr
  unfold addS
  rw [strI_of (prI_within x), h1]
  simp only
  rw [if_neg (by simp [h2]), if_neg h0, h3]
  simp only
  rw [if_neg (by simp), if_neg (by omega)]
theorem go_pr : ∀ (l : List InstT) (st : ModT) (n : Nat), (∀ x ∈ l, InstOk x ∧ rawE x st.2.1 = 0) → 0 < st.2.2.1 → st.2.2.1 + ((wsum st.2.1 l : Nat) : Int) ≤ 1048576 → goL st (numbered n (l.map fun x => prI x)) = (0, 0, stAfter st l)
  | [], st, n, _, _, _ => by
    have : stAfter st [] = st := by simp [stAfter, wsum]
    rw [this]; rfl
  | x :: l, st, n, h, h0, hw => by
    have hx := h x (by simp)
    have es : wsum st.2.1 (x :: l) = (1 + (rawWs x st.2.1).length) + wsum st.2.1 l := by simp [wsum]
    rw [es] at hw
    have ha := add_pr hx.1 hx.2 (by omega) (by push_cast at hw; omega)
    rw [List.map_cons, numbered, goL, ha, if_neg (by simp)]
    have ih := go_pr l (st.1, st.2.1, st.2.2.1 + (1 + ((rawWs x st.2.1).length : Int)), st.2.2.2 ++ [x]) (n + 1) (fun y hy => h y (by simp [hy])) (by show (0 : Int) < st.2.2.1 + _; omega) (by show st.2.2.1 + (1 + ((rawWs x st.2.1).length : Int)) + ((wsum st.2.1 l : Nat) : Int) ≤ _; push_cast at hw; omega)
    rw [stAfter_cons] at ih
    exact ih
/-- A module's printed text. -/
def textP (g b : Int) (l : List InstT) : List Int := joinLs (headL g b :: l.map fun x => prI x)
theorem textP_ok {g : Int} {N : Nat} {l : List InstT} (g1 : g < 4294967296) (hok : InstsOk l) (hs : (shapeE (N : Int) l).1 = 0) : ∀ a ∈ headL g (N : Int) :: l.map (fun x => prI x), LineOk a := fun a ha => by
  have hsb := shape_bound hs
  rcases List.mem_cons.1 ha with rfl | ha
  · exact headL_ok g1 (by omega)
  · obtain ⟨x, hx, rfl⟩ := List.mem_map.1 ha
    exact prI_ok (oks_mem hok x hx) ((shape_sum hs).2 x hx)

theorem print_parse {g : Int} {N : Nat} {l : List InstT} (g0 : 0 ≤ g) (g1 : g < 4294967296) (hok : InstsOk l) (hs : (shapeE (N : Int) l).1 = 0) (hz : (strOfNums (textP g (N : Int) l)).size ≤ 16777216) :
    parseS (strOfNums (textP g (N : Int) l)) = ((g, (N : Int), l), 0, 0) := by
  obtain ⟨h5, hraw⟩ := shape_sum hs
  have hsb := shape_bound hs
  have hix := oks_mem hok
  have hxx : ∀ x ∈ l, InstOk x ∧ rawE x (N : Int) = 0 := fun x hx => ⟨hix x hx, hraw x hx⟩
  have hgo : goL st0 (linesT (strOfNums (textP g (N : Int) l))) = (0, 0, (g, (N : Int), 5 + ((wsum (N : Int) l : Nat) : Int), l)) := by
    unfold textP
    rw [lines_text (textP_ok g1 hok hs), numbered, goL, head_read g0 g1 (by omega) (by omega), if_neg (by simp)]
    show goL ((g, (N : Int), 5, []) : ModT) _ = _
    rw [go_pr l ((g, (N : Int), 5, []) : ModT) (1 + 1) hxx (by show (0 : Int) < 5; omega) (by show (5 : Int) + ((wsum (N : Int) l : Nat) : Int) ≤ 1048576; omega)]
    rfl
  unfold parseS
  rw [if_neg (by omega), hgo, if_neg (by simp), if_neg (by simp only; omega)]
end Go.Proofs.YtddkapkkjhomkaaGreatDoor
