/-
  Texts laid together in one: AsmParseF, MathQ.
-/
import Derived.RangeFuncNested
import Derived.RangeFuncBound
import Derived.RangeFuncCalls
import Derived.RangeFuncLeaves
import Derived.Shelf.Abstract
import Derived.Shelf.RegionOpen
import Derived.WalkKit
import Derived.OwnWalkIn
import Derived.TacticsInMore
import Derived.LoopNIn
import Derived.LoopIn
import Derived.WalkSpells
import Derived.Test.YtmobologlaeefaaGreatProg
import Derived.Test.YtmobologlaeefaaGreatB13
import Derived.Test.YtmobologlaeefaaGreatB04
import Derived.Test.YtmobologlaeefaaGreatB06
/-
  What Parse of the layer asm returns: its lines one by one.
-/
namespace Go.Proofs.YtmobologlaeefaaGreat
open Go.RowKit Go.Shelf
attribute [local go_sem] Oper.semAt_some
set_option linter.unusedVariables false
set_option linter.unusedSimpArgs false
set_option maxRecDepth 100000

/-- A module's lines, one behind the other: what is wrong, in which line, and the module. -/
def goL : ModT → List (Nat × ByteArray) → Int × Int × ModT
  | st, [] => (0, 0, st)
  | st, x :: r => if (addS st x.2).1 ≠ 0 then ((addS st x.2).1, (x.1 : Int), st) else goL (addS st x.2).2 r
def st0 : ModT := (0, 0, 0, [])
/-- What a text says: generator, bound, instructions, what is wrong, where. -/
def parseS (s : ByteArray) : (Int × Int × List InstT) × Int × Int :=
  if 16777216 < s.size then ((0, 0, []), 4, 0)
  else if (goL st0 (linesT s)).1 ≠ 0 then ((0, 0, []), (goL st0 (linesT s)).1, (goL st0 (linesT s)).2.1)
  else if (goL st0 (linesT s)).2.2.2.2.1 = 0 then ((0, 0, []), 72, ((linesT s).length : Int))
  else (((goL st0 (linesT s)).2.2.1, (goL st0 (linesT s)).2.2.2.1, (goL st0 (linesT s)).2.2.2.2.2), 0, 0)

/-- Between two lines. -/
def PrsI (w : World) (pre : List (Nat × ByteArray)) (W : World) : Prop :=
  Below w.heap.size w W ∧ W.heap[w.heap.size]? = some (.cells #[.int .u32 0, .int .u32 0, .slice none 0 0] 25 (0, 0)) ∧ W.heap[w.heap.size + 1]? = some (.cells #[.int .i64 0, .int .i64 0] 28 (0, 0)) ∧ W.heap[w.heap.size + 3]? = some (.cells #[.int .i64 pre.length] 3 (0, 0)) ∧
  ∃ v st, ModAt W (w.heap.size + 2) (w.heap.size + 5) v st ∧ ∀ r, goL st0 (pre ++ r) = goL st r
/-- Where a line is wrong. -/
def PrsX (s : ByteArray) (w : World) (c : Code) (pre : List (Nat × ByteArray)) (W : World) : Prop :=
  c = .ret ∧ (goL st0 (linesT s)).1 ≠ 0 ∧ Below w.heap.size w W ∧ W.heap[w.heap.size]? = some (.cells #[.int .u32 0, .int .u32 0, .slice none 0 0] 25 (0, 0)) ∧ W.heap[w.heap.size + 1]? = some (.cells #[.int .i64 (goL st0 (linesT s)).1, .int .i64 (goL st0 (linesT s)).2.1] 28 (0, 0))
theorem Insts.stay {W W' : World} {B lo : Nat} {v : Value} {xs : List InstT} {row : Option Nat} (h : Insts W B lo v xs) (hg : W.grownBy W' row) (hr : ∀ r, row = some r → ∃ o : Obj, W.heap[r]? = some o ∧ o.isCells = false) : Insts W' B lo v xs := by
  obtain ⟨cs, h1, h2⟩ := h.row
  have hap : Apartly W lo row := fun g e => .inr (hr g e)
  exact ⟨⟨cs, own_apartly h1 hg hap, h2.grown hg hap⟩, h.lt, Nat.le_trans h.le hg.size⟩
theorem prsI_own (w : World) : OwnFrom (w.heap.size + 5) (PrsI w) := by
  rintro pre W W' row ⟨h1, h2, h3, h4, v, st, h5, h6⟩ hg hr
  exact ⟨belowStay h1 (Nat.le_refl _) (by omega) hg hr, cellsStay h2 hg hr, cellsStay h3 hg hr, cellsStay h4 hg hr, v, st, ⟨cellsStay h5.bld hg hr, h5.insts.stay hg (fun r e => (hr r e).2), h5.words, h5.ok⟩, h6⟩
theorem prsX_own (s : ByteArray) (w : World) (c : Code) : OwnFrom (w.heap.size + 5) (PrsX s w c) := by
  rintro pre W W' row ⟨h0, h1, h2, h3, h4⟩ hg hr
  exact ⟨h0, h1, belowStay h2 (Nat.le_refl _) (by omega) hg hr, cellsStay h3 hg hr, cellsStay h4 hg hr⟩

/-- What Parse leaves. -/
def ParQ (w w' : World) (R : (Int × Int × List InstT) × Int × Int) (e : Ending) : Prop := ∃ a n c, e = .returned (.tuple #[.agg #[.int .u32 R.1.1, .int .u32 R.1.2.1, .slice a n c], .agg #[.int .i64 R.2.1, .int .i64 R.2.2]]) ∧ InstsV w' a R.1.2.2 ∧ R.1.2.2.length = n ∧ InstsOk R.1.2.2 ∧ Below w.heap.size w w'

set_option maxHeartbeats 8000000 in
theorem asmParse_main (s : ByteArray) (w : World) (hs : s.size ≤ 16777216) :
    Calls Tryz.prog 9 #[.string s] w fun e w' => ParQ w w' (parseS s) e := by
  refine (callsIn_wide (n := 0)).1 ?_
  refine callsIn_of_wp_marks Tryz.func9 rfl trivial ?_ rfl
  simp only [Tryz.ntmps9, List.size_toArray, List.length_cons, List.length_nil, Nat.reduceAdd, Nat.reduceSub, Array.replicate_succ, Array.replicate_zero, List.push_toArray, List.append_toArray, List.nil_append, List.cons_append]
  have hsi : decide ((16777216 : Int) < (s.size : Int)) = false := by simpa using (by omega : ¬ (16777216 : Int) < (s.size : Int))
  gi_wp2_with fail
  refine ⟨trivial, rfl, (callsIn_wide.2 (lines_any s _)).mono ?_⟩
  rintro e w2 ⟨rfl, rfl⟩
  obtain ⟨wL, hwL⟩ : ∃ X, X = ((((w.alloc (.cells #[.int .u32 0, .int .u32 0, .slice none 0 0] 25)).alloc (.cells #[.int .i64 0, .int .i64 0] 28)).alloc (.cells #[.int .u32 0, .int .u32 0, .slice none 0 0, .int .i64 0] 69)).alloc (.cells #[.int .i64 0] 3)).alloc (.cells #[.string s] 9) := ⟨_, rfl⟩
  have hsL : wL.heap.size = w.heap.size + 5 := by rw [hwL]; simp
  have hbL : Below w.heap.size w wL := by rw [hwL]; exact (((((Below.refl _ w).alloc (Nat.le_refl _) _).alloc (by simp) _).alloc (by simp; omega) _).alloc (by simp; omega) _).alloc (by simp; omega) _
  have k0 : wL.heap[w.heap.size]? = some (.cells #[.int .u32 0, .int .u32 0, .slice none 0 0] 25 (0, 0)) := by rw [hwL]; exact allocOld (allocOld (allocOld (allocOld (allocNew w _ rfl) _) _) _) _
  have k1 : wL.heap[w.heap.size + 1]? = some (.cells #[.int .i64 0, .int .i64 0] 28 (0, 0)) := by rw [hwL]; exact allocOld (allocOld (allocOld (allocNew _ _ (by simp)) _) _) _
  have k2 : wL.heap[w.heap.size + 2]? = some (.cells #[.int .u32 0, .int .u32 0, .slice none 0 0, .int .i64 0] 69 (0, 0)) := by rw [hwL]; exact allocOld (allocOld (allocNew _ _ (by simp)) _) _
  have k3 : wL.heap[w.heap.size + 3]? = some (.cells #[.int .i64 0] 3 (0, 0)) := by rw [hwL]; exact allocOld (allocNew _ _ (by simp)) _
  have k4 : wL.heap[w.heap.size + 4]? = some (.cells #[.string s] 9 (0, 0)) := by rw [hwL]; exact allocNew _ _ (by simp)
  clear hsi
  gi_wp2_with fail
  rw [← hwL]
  clear hwL
  simp only [Nat.add_assoc, Nat.reduceAdd]
  refine wp_tells rfl (enters_of Tryz.func56 (by kernel_rfl) rfl) (lines_tells s (by omega) (w.heap.size + 4) w.heap.size (fun _ => False) wL k4) (by omega) (fun _ => rfl)
    (PrsI w) (PrsX s w) (by rw [hsL]; exact prsI_own w) (fun c => by rw [hsL]; exact prsX_own s w c)
    ⟨hbL, k0, k1, k3, .slice none 0 0, st0, ⟨k2, ⟨⟨[], World.ownsRow_nil _ _ _ _, rowI_nil⟩, by omega, by omega⟩, by simp [st0], fun j hj => by simp [st0] at hj⟩, fun r => rfl⟩
    (fun pre x a' W => pre ++ [x] <+: linesT s ∧ a' = { tmps := #[.string s, undef, .pointer (some ⟨w.heap.size, 0, none⟩), .pointer (some ⟨w.heap.size + 1, 0, none⟩), .pointer (some ⟨w.heap.size + 2, 0, none⟩), .pointer (some ⟨w.heap.size + 3, 0, none⟩), .int .i64 x.1, .string x.2, undef, .string s, .int .i64 (s.size : Int), .bool false, undef, undef, .string s, .func (.func 56) #[] #[.pointer (some ⟨w.heap.size + 4, 0, none⟩)], .int .i64 x.1, .string x.2, undef, undef, undef, undef, undef, undef, undef, undef, undef, undef, undef, undef, undef, undef, undef, undef, undef], defers := [] })
    ?hAx ?assign ?body ?done ?stop
  case hAx =>
    rintro pre x a' s W W' row h hg hr
    exact h
  case assign =>
    rintro l pre x W K hI hV hK
    simp only [lineV]
    gi_wp2
    exact hK _ _ (KeepsFrom.refl _ _) (Kept.refl _ _ _) hI ⟨hV, rfl⟩
  case body =>
    rintro l pre x a' W hl' ⟨rr, hrr⟩ ⟨h1, h2, h3, h4, v, st, h5, h6⟩ ⟨hV, rfl⟩
    obtain ⟨p1, p2, p3, p4, p5⟩ := pre_at hV
    obtain ⟨n, t⟩ := x
    simp only at p1 p2 p3
    have hC := addLine_any (w.heap.size + 2) (w.heap.size + 5) v st t W h5 (by omega)
    have hpl : pre.length < s.size := Nat.lt_of_lt_of_le p4 (lines_len _ _ _)
    obtain ⟨rest, hrest⟩ := hV
    have HBAD : Hid ((addS st t).1 ≠ 0 → (goL st0 (linesT s)).1 = (addS st t).1 ∧ (goL st0 (linesT s)).2.1 = (n : Int)) := fun h => by
      rw [← hrest, List.append_assoc, h6]
      simp only [List.singleton_append, goL, if_pos h, and_self]
    have HNX : Hid ((addS st t).1 = 0 → ∀ r, goL st0 (pre ++ [(n, t)] ++ r) = goL (addS st t).2 r) := fun h r => by
      rw [List.append_assoc, h6]
      simp only [List.singleton_append, goL]
      rw [if_neg (by simpa using h)]
    generalize addS st t = A at *
    obtain ⟨E, st'⟩ := A
    simp only at hC
    have HH := hide (And.intro h1 (And.intro h2 (And.intro h3 (And.intro h4 h5))))
    clear h1 h2 h3 h4 h6 k0 k1 k2 k3 k4 hbL
    gi_wp2_with fail
    refine ⟨trivial, rfl, (CallsIn.inRound l (callsIn_wide.2 hC)).mono ?_⟩
    rintro e w5 ⟨rfl, hT5, hq5⟩
    obtain ⟨h1, h2, h3, h4, h5⟩ := HH.out
    obtain ⟨cs, ho1, ho2⟩ := h5.insts.row
    have hob : ∀ g, v.ownBlock = some g → w.heap.size + 5 ≤ g := fun g e => (ho1.lt g e).1
    have hcell : ∀ g, v.ownBlock = some g → ∃ c t f, W.heap[g]? = some (.cells c t f) := fun g e => by
      rcases ho1.2 with ⟨e1, _⟩ | ⟨g', cap, cur, e1, _, e3, _⟩
      · rw [e1] at e; simp [Value.ownBlock] at e
      · rw [e1] at e
        have : some g' = some g := e
        cases this
        exact ⟨_, _, _, e3⟩
    have keep : ∀ k, k < w.heap.size + 5 → k ≠ w.heap.size + 2 → W.heap[k]? = w5.heap[k]? := fun k hk hB => by
      by_cases hkl : k < W.heap.size
      · exact (hT5.block k hkl hB (fun e => by have := hob k e.symm; omega)).symm
      · have := h5.insts.le; omega
    have hw5 : Below w.heap.size w w5 := ⟨hT5.os.trans h1.os, hT5.tape.trans h1.tape, hT5.output.trans h1.output, Nat.le_trans h1.size hT5.size, fun k hk => (keep k (by omega) (by omega)).symm.trans (h1.block k hk)⟩
    have q2 := (keep _ (by omega) (by omega)).symm.trans h2
    have q3 := (keep _ (by omega) (by omega)).symm.trans h3
    have q4 := (keep _ (by omega) (by omega)).symm.trans h4
    have hKF : KeepsFrom wL.heap.size W w5 := ⟨hT5.size, fun k o hk ho hoc => by
      refine (hT5.block k (Array.getElem?_eq_some_iff.1 ho).1 (fun e => ?_) (fun e => ?_)).trans ho
      · subst e
        have hb : W.heap[w.heap.size + 2]? = some (.cells #[.int .u32 st.1, .int .u32 st.2.1, v, .int .i64 st.2.2.1] 69 (0, 0)) := h5.bld
        rw [hb] at ho; cases ho; cases hoc
      · obtain ⟨c, t, f, hc⟩ := hcell k e.symm
        rw [hc] at ho; cases ho; cases hoc⟩
    have HBW : Hid (Below w.heap.size W w5) := ⟨hT5.os, hT5.tape, hT5.output, hT5.size, fun k hk => (keep k (by omega) (by omega)).symm⟩
    have HKF := hide hKF
    have HW5 := hide hw5
    have HQ := hide hq5
    have HQ2 := hide q2
    have HQ3 := hide q3
    have HQ4 := hide q4
    have HSW : Hid (w.heap.size + 5 ≤ w5.heap.size) := Nat.le_trans h5.insts.le hT5.size
    obtain ⟨cm, fm⟩ := blk_cells q2
    obtain ⟨cp, fp⟩ := blk_cells q3
    obtain ⟨cl, fl⟩ := blk_cells q4
    have m0 := cm 0
    have m1 := cm 1
    have m2 := cm 2
    have s0 := cp 0
    have s1 := cp 1
    have l0 := cl 0
    clear hC hT5 hq5 hKF hw5 q2 q3 q4 cm cp cl h1 h2 h3 h4 h5 HH ho1 ho2 hob hcell keep
    by_cases hE : E = 0
    · subst hE
      have hNX := HNX.out rfl
      have HN2 := hide hNX
      obtain ⟨v', hM'⟩ := HQ.out rfl
      have HM' := hide hM'
      clear hNX hM' HBAD HNX HQ
      gi_wp2_with fail
      have hkf := HKF.out
      have hw5 := HW5.out
      have hM := HM'.out
      obtain ⟨cs, hr1, hr2⟩ := hM.insts.row
      refine ⟨⟨by simpa [World.setCell] using hkf.size, fun k o hk ho hoc => (KeepsOthers.setCell _ _ _).same k o (hkf.same k o hk ho hoc) hoc⟩, ⟨HBW.out.setCell (by simp) _, fun _ _ _ _ h _ => h.elim⟩, hw5.setCell (by simp) _, setFar HQ2.out (by omega) _ _, setFar HQ3.out (by omega) _ _, ?_, v', st', ?_, HN2.out⟩
      · have := oneSet HQ4.out (.int .i64 ((pre.length : Int) + 1))
        rw [List.length_append, List.length_singleton]
        simpa using this
      · refine ⟨(Below.heap_setCell _ _ _ _ (by simp)).trans hM.bld, ⟨⟨cs, ownsRow_setCell_below hr1 (by simp) _, hr2.grown (grown_set (World.grownBy.refl w5 (some (w.heap.size + 3))) 0 _) (fun g e => by simp only [Option.some.injEq] at e; subst e; exact .inl (by omega))⟩, hM.insts.lt, ?_⟩, hM.words, hM.ok⟩
        rw [World.size_setCell]; exact hM.insts.le
    · have hE' : (E != 0) = true := by simpa using hE
      have HB2 := hide (HBAD.out hE)
      have HE := hide hE
      clear HBAD HNX HQ hE
      gi_wp2_with fail
      have hkf := HKF.out
      have hw5 := HW5.out
      refine ⟨⟨by simpa [World.setCell] using hkf.size, fun k o hk ho hoc => (KeepsOthers.setCell _ _ _).same k o ((KeepsOthers.setCell _ _ _).same k o ((KeepsOthers.setCell _ _ _).same k o ((KeepsOthers.setCell _ _ _).same k o ((KeepsOthers.setCell _ _ _).same k o (hkf.same k o hk ho hoc) hoc) hoc) hoc) hoc) hoc⟩, rfl, by rw [HB2.out.1]; exact HE.out, ((((hw5.setCell (Nat.le_refl _) _).setCell (Nat.le_refl _) _).setCell (Nat.le_refl _) _).setCell (by simp) _).setCell (by simp) _, ?_, ?_⟩
      · have := HQ2.out
        simp [World.setCell, Array.getElem?_modify, this]
      · rw [HB2.out.1, HB2.out.2]
        have := HQ3.out
        simp [World.setCell, Array.getElem?_modify, this]
        try omega
  case stop =>
    rintro D c pre W hD _ ⟨rfl, hne, h1, h2, h3⟩ hK
    have hput := grownBy_putObj' W D (.deferred none)
    have hrr : ∀ r, some D = some r → w.heap.size + 5 ≤ r ∧ ∃ o : Obj, W.heap[r]? = some o ∧ o.isCells = false := fun r e => by cases e; exact ⟨by omega, _, hK, rfl⟩
    have HBE := hide (belowStay h1 (Nat.le_refl _) (by omega) hput hrr)
    have k2' := cellsStay h2 hput hrr
    have k3' := cellsStay h3 hput hrr
    obtain ⟨cm, _⟩ := blk_cells k2'
    obtain ⟨cp, _⟩ := blk_cells k3'
    have r0 := cm 0
    have r1 := cm 1
    have r2 := cm 2
    have r3 := cp 0
    have r4 := cp 1
    have HR : Hid (parseS s = ((0, 0, []), (goL st0 (linesT s)).1, (goL st0 (linesT s)).2.1)) := by show _ = _; unfold parseS; rw [if_neg (by omega), if_pos hne]
    clear k0 k1 k2 k3 k4 h1 h2 h3 hput hrr k2' k3' cm cp
    gi_wp2_with fail
    refine ⟨by simp, .inl ⟨_, _, rfl, run_takeDeferred hK, ?_⟩⟩
    refine ⟨.tuple #[.agg #[.int .u32 0, .int .u32 0, .slice none 0 0], .agg #[.int .i64 (goL st0 (linesT s)).1, .int .i64 (goL st0 (linesT s)).2.1]], by simp [results, Tryz.results9, go_sem, r0, r1, r2, r3, r4], ?_⟩
    unfold ParQ
    rw [HR.out]
    exact ⟨none, 0, 0, rfl, instsV_nil, rfl, fun j hj => by simp at hj, HBE.out⟩
  case done =>
    rintro D xs W hD rfl ⟨h1, h2, h3, h4, v, st, h5, h6⟩ hK
    have hgo : goL st0 (linesT s) = (0, 0, st) := by have := h6 []; rw [List.append_nil] at this; exact this
    have hHd := headed_any (w.heap.size + 2) st.1 st.2.1 v st.2.2.1 W h5.bld
    have hwd := h5.words
    have HH := hide (And.intro h1 (And.intro h2 (And.intro h3 (And.intro h4 h5))))
    have HGO := hide hgo
    clear k0 k1 k2 k3 k4 h1 h2 h3 h4 h6 hgo
    by_cases hz : st.2.2.1 = 0
    · rw [show decide (0 < st.2.2.1) = false by simp; omega] at hHd
      have HR : Hid (parseS s = ((0, 0, []), 72, ((linesT s).length : Int))) := by show _ = _; unfold parseS; rw [if_neg (by omega), HGO.out]; simp [hz]
      clear h5 hwd hz
      gi_wp2_with fail
      refine ⟨trivial, rfl, (callsIn_wide.2 hHd).mono ?_⟩
      rintro e w5 ⟨rfl, rfl⟩
      gi_wp2_with fail
      rename_i Kr hKr
      have HKR := hide hKr
      obtain ⟨h1, h2, h3, h4, h5⟩ := HH.out
      have hl5 : w.heap.size + 5 ≤ D := by omega
      clear hKr hHd HGO HH h5
      have key : ∀ (u : Array Value) (X : World), u.getD 2 undef = .pointer (some ⟨w.heap.size, 0, none⟩) → u.getD 3 undef = .pointer (some ⟨w.heap.size + 1, 0, none⟩) → X.heap[w.heap.size]? = some (.cells #[.int .u32 0, .int .u32 0, .slice none 0 0] 25 (0, 0)) → X.heap[w.heap.size + 1]? = some (.cells #[.int .i64 72, .int .i64 ((linesT s).length : Int)] 28 (0, 0)) → Below w.heap.size w X → X.heap[D]? = some (.deferred (some [])) →
          Kr { tmps := u, defers := [{ target := .collected D, args := #[] }] } X := by
        intro u X g2 g3 j1 j2 j3 j4
        refine HKR.out _ _ ?_
        have hput := grownBy_putObj' X D (.deferred none)
        have hrr : ∀ r, some D = some r → w.heap.size + 5 ≤ r ∧ ∃ o : Obj, X.heap[r]? = some o ∧ o.isCells = false := fun r e => by cases e; exact ⟨hl5, _, j4, rfl⟩
        have HBE := hide (belowStay j3 (Nat.le_refl _) (by omega) hput hrr)
        obtain ⟨cm, _⟩ := blk_cells (cellsStay j1 hput hrr)
        obtain ⟨cp, _⟩ := blk_cells (cellsStay j2 hput hrr)
        have r0 := cm 0
        have r1 := cm 1
        have r2 := cm 2
        have r3 := cp 0
        have r4 := cp 1
        clear hput hrr cm cp j1 j2 j3
        gi_wp2_with fail
        refine ⟨by simp, .inl ⟨_, _, rfl, run_takeDeferred j4, ?_⟩⟩
        have g2' : u[2]?.getD undef = .pointer (some ⟨w.heap.size, 0, none⟩) := by rw [← Array.getD_eq_getD_getElem?]; exact g2
        have g3' : u[3]?.getD undef = .pointer (some ⟨w.heap.size + 1, 0, none⟩) := by rw [← Array.getD_eq_getD_getElem?]; exact g3
        refine ⟨.tuple #[.agg #[.int .u32 0, .int .u32 0, .slice none 0 0], .agg #[.int .i64 72, .int .i64 ((linesT s).length : Int)]], by simp [results, Tryz.results9, go_sem, g2', g3', r0, r1, r2, r3, r4], ?_⟩
        unfold ParQ
        rw [HR.out]
        exact ⟨none, 0, 0, rfl, instsV_nil, rfl, fun j hj => by simp at hj, HBE.out⟩
      have KEY := hide key
      clear key HKR
      have hmix : Tryz.prog.follows .mixedOrders = true := by kernel_rfl
      have hC0 : (fun wx : World => wx.heap[w.heap.size]? = some (.cells #[.int .u32 0, .int .u32 0, .slice none 0 0] 25 (0, 0)) ∧ (∃ y0 y1, wx.heap[w.heap.size + 1]? = some (.cells #[y0, y1] 28 (0, 0))) ∧ wx.heap[w.heap.size + 3]? = some (.cells #[.int .i64 ((linesT s).length : Int)] 3 (0, 0)) ∧ Below w.heap.size w wx ∧ wx.heap[D]? = some (.deferred (some []))) W.drew := ⟨h2, ⟨_, _, h3⟩, h4, h1.drew, hK⟩
      refine wpIn_normal (wpIn_region_any hmix (wpAnyC_sound (C := fun wx : World => wx.heap[w.heap.size]? = some (.cells #[.int .u32 0, .int .u32 0, .slice none 0 0] 25 (0, 0)) ∧ (∃ y0 y1, wx.heap[w.heap.size + 1]? = some (.cells #[y0, y1] 28 (0, 0))) ∧ wx.heap[w.heap.size + 3]? = some (.cells #[.int .i64 ((linesT s).length : Int)] 3 (0, 0)) ∧ Below w.heap.size w wx ∧ wx.heap[D]? = some (.deferred (some []))) _ _ _ _ ?_))
      change wpAnyC _ _ _ _ _ _ _ _ _ _ (World.drew _)
      refine wpAnyC_takeD (i := 0) (some 29) (v := .agg #[.int .u32 0, .int .u32 0, .slice none 0 0]) (fun _ => trivial) (by kernel_rfl) rfl rfl (by kernel_rfl) (by kernel_rfl) (by kernel_rfl) (fun _ _ _ h => by cases h.1) hC0 (Or.inl ⟨by kernel_rfl, fun w' hC => by clear hC; go_simp⟩) ?_
      simp only [Act.put, List.setIfInBounds_toArray, List.set_cons_succ, List.set_cons_zero]
      refine wpAnyC_takeD (i := 1) (some 30) (v := .int .i64 ((linesT s).length : Int)) (fun _ => trivial) (by kernel_rfl) rfl rfl (by kernel_rfl) (by kernel_rfl) (by kernel_rfl) (fun _ _ _ h => by cases h.1) hC0 (Or.inl ⟨by kernel_rfl, fun w' hC => by have e0 := (blk_cells hC.2.2.1).1 0; clear hC; go_simp⟩) ?_
      simp only [Act.put, List.setIfInBounds_toArray, List.set_cons_succ, List.set_cons_zero]
      refine wpAnyC_takeD (i := 2) (some 31) (v := .agg #[.int .i64 72, .int .i64 ((linesT s).length : Int)]) (fun _ => trivial) (by kernel_rfl) rfl rfl (by kernel_rfl) (by kernel_rfl) (by kernel_rfl) (fun _ _ _ h => by cases h.1) hC0 (Or.inl ⟨by kernel_rfl, fun w' hC => by clear hC; go_simp⟩) ?_
      simp only [Act.put, List.setIfInBounds_toArray, List.set_cons_succ, List.set_cons_zero]
      refine wpAnyC_ready (rs := [3]) (by kernel_rfl) (by simp) ?_
      refine AllC.cons rfl (fun K hK' => ?_) AllC.nil
      obtain ⟨cm, fm⟩ := blk_cells h2
      obtain ⟨cp, fp⟩ := blk_cells h3
      have m0 := cm 0
      have m1 := cm 1
      have m2 := cm 2
      have s0 := cp 0
      have s1 := cp 1
      have hD0 : D ≠ w.heap.size := by omega
      have hD1 : D ≠ w.heap.size + 1 := by omega
      have n2 : (((W.setCell ⟨w.heap.size, 0, none⟩ (.int .u32 0)).setCell ⟨w.heap.size, 1, none⟩ (.int .u32 0)).setCell ⟨w.heap.size, 2, none⟩ (.slice none 0 0)).heap[w.heap.size]? = some (.cells #[.int .u32 0, .int .u32 0, .slice none 0 0] 25 (0, 0)) := by simp [World.setCell, Array.getElem?_modify, h2]
      have n3 : (((W.setCell ⟨w.heap.size, 0, none⟩ (.int .u32 0)).setCell ⟨w.heap.size, 1, none⟩ (.int .u32 0)).setCell ⟨w.heap.size, 2, none⟩ (.slice none 0 0)).heap[w.heap.size + 1]? = some (.cells #[.int .i64 0, .int .i64 0] 28 (0, 0)) := by rw [Below.heap_setCell _ _ _ _ (by simp), Below.heap_setCell _ _ _ _ (by simp), Below.heap_setCell _ _ _ _ (by simp)]; exact h3
      have n4 : (((W.setCell ⟨w.heap.size, 0, none⟩ (.int .u32 0)).setCell ⟨w.heap.size, 1, none⟩ (.int .u32 0)).setCell ⟨w.heap.size, 2, none⟩ (.slice none 0 0)).heap[w.heap.size + 3]? = some (.cells #[.int .i64 ((linesT s).length : Int)] 3 (0, 0)) := by rw [Below.heap_setCell _ _ _ _ (by simp), Below.heap_setCell _ _ _ _ (by simp), Below.heap_setCell _ _ _ _ (by simp)]; exact h4
      have n5 : Below w.heap.size w (((W.setCell ⟨w.heap.size, 0, none⟩ (.int .u32 0)).setCell ⟨w.heap.size, 1, none⟩ (.int .u32 0)).setCell ⟨w.heap.size, 2, none⟩ (.slice none 0 0)) := ((h1.setCell (Nat.le_refl _) _).setCell (Nat.le_refl _) _).setCell (Nat.le_refl _) _
      have n6 : (((W.setCell ⟨w.heap.size, 0, none⟩ (.int .u32 0)).setCell ⟨w.heap.size, 1, none⟩ (.int .u32 0)).setCell ⟨w.heap.size, 2, none⟩ (.slice none 0 0)).heap[D]? = some (.deferred (some [])) := by rw [Below.heap_setCell _ _ _ _ (by simpa using hD0), Below.heap_setCell _ _ _ _ (by simpa using hD0), Below.heap_setCell _ _ _ _ (by simpa using hD0)]; exact hK
      obtain ⟨o1, o2⟩ := two_putB n3 (.int .i64 72) (.int .i64 ((linesT s).length : Int))
      have HN := hide (And.intro n2 (And.intro n3 (And.intro n4 (And.intro n5 n6))))
      have HO := hide (And.intro o1 o2)
      have HDD := hide (And.intro hD0 hD1)
      clear n2 n3 n4 n5 n6 o1 o2 cm cp hC0 h1 h2 h3 h4
      go_simp
      refine hK' _ _ ⟨HN.out.1, ⟨_, _, HN.out.2.1⟩, HN.out.2.2.1, HN.out.2.2.2.1.drew, HN.out.2.2.2.2⟩ ?_
      clear hK' K
      refine wpAnyC_ready (rs := [4]) (by kernel_rfl) (by simp) ?_
      refine AllC.cons rfl (fun K hK' => ?_) AllC.nil
      go_simp
      have hD0 := HDD.out.1
      have hD1 := HDD.out.2
      have e2 := (HO.out.2.block w.heap.size (by omega)).trans HN.out.1
      have e5 := HN.out.2.2.2.1.trans (HO.out.2.mono (by omega))
      have e6 : ((((W.setCell ⟨w.heap.size, 0, none⟩ (.int .u32 0)).setCell ⟨w.heap.size, 1, none⟩ (.int .u32 0)).setCell ⟨w.heap.size, 2, none⟩ (.slice none 0 0)).setCell ⟨w.heap.size + 1, 0, none⟩ (.int .i64 72)).setCell ⟨w.heap.size + 1, 1, none⟩ (.int .i64 ((linesT s).length : Int)) |>.heap[D]? = some (.deferred (some [])) := by
        rw [Below.heap_setCell _ _ _ _ (by simpa using hD1), Below.heap_setCell _ _ _ _ (by simpa using hD1)]; exact HN.out.2.2.2.2
      have e4 : ((((W.setCell ⟨w.heap.size, 0, none⟩ (.int .u32 0)).setCell ⟨w.heap.size, 1, none⟩ (.int .u32 0)).setCell ⟨w.heap.size, 2, none⟩ (.slice none 0 0)).setCell ⟨w.heap.size + 1, 0, none⟩ (.int .i64 72)).setCell ⟨w.heap.size + 1, 1, none⟩ (.int .i64 ((linesT s).length : Int)) |>.heap[w.heap.size + 3]? = some (.cells #[.int .i64 ((linesT s).length : Int)] 3 (0, 0)) := by
        rw [Below.heap_setCell _ _ _ _ (by simp), Below.heap_setCell _ _ _ _ (by simp)]; exact HN.out.2.2.1
      have HE := hide (And.intro e2 (And.intro HO.out.1 (And.intro e5 (And.intro e6 e4))))
      clear e2 e4 e5 e6 HN HO
      refine hK' _ _ ⟨HE.out.1, ⟨_, _, HE.out.2.1⟩, HE.out.2.2.2.2, HE.out.2.2.1.drew, HE.out.2.2.2.1⟩ ?_
      refine wpAnyC_done (by kernel_rfl) ⟨rfl, ?_⟩ _
      generalize ((((W.setCell ⟨w.heap.size, 0, none⟩ (.int .u32 0)).setCell ⟨w.heap.size, 1, none⟩ (.int .u32 0)).setCell ⟨w.heap.size, 2, none⟩ (.slice none 0 0)).setCell ⟨w.heap.size + 1, 0, none⟩ (.int .i64 72)).setCell ⟨w.heap.size + 1, 1, none⟩ (.int .i64 ((linesT s).length : Int)) = XF at *
      show Kr _ _
      exact KEY.out _ _ rfl rfl HE.out.1 HE.out.2.1 HE.out.2.2.1.drew HE.out.2.2.2.1
    · rw [show decide (0 < st.2.2.1) = true by simp; omega] at hHd
      have HR : Hid (parseS s = ((st.1, st.2.1, st.2.2.2), 0, 0)) := by show _ = _; unfold parseS; rw [if_neg (by omega), HGO.out]; simp [hz]
      obtain ⟨h1, h2, h3, h4, _⟩ := HH.out
      obtain ⟨cs, hr1, hr2⟩ := h5.insts.row
      obtain ⟨av, cv, rfl⟩ := own_shape7 hr1
      obtain ⟨cb, _⟩ := blk_cells h5.bld
      obtain ⟨cm, fm⟩ := blk_cells h2
      obtain ⟨cp, fp⟩ := blk_cells h3
      have b0 := cb 0
      have b1 := cb 1
      have b2 := cb 2
      have m0 := cm 0
      have m1 := cm 1
      have m2 := cm 2
      have s0 := cp 0
      have s1 := cp 1
      have HOK := hide h5.ok
      have HRW := hide (And.intro hr1 hr2)
      clear h5 hwd hz cb cm cp h1 h2 h3 h4 hr1 hr2
      gi_wp2_with fail
      refine ⟨trivial, rfl, (callsIn_wide.2 hHd).mono ?_⟩
      rintro e w5 ⟨rfl, rfl⟩
      obtain ⟨h1, h2, h3, h4, h5⟩ := HH.out
      obtain ⟨f1, f2, f3⟩ := five_put h2 h3 (.int .u32 st.1) (.int .u32 st.2.1) (.slice av st.2.2.2.length cv) (.int .i64 0) (.int .i64 0)
      have hD0 : D ≠ w.heap.size := by omega
      have hD1 : D ≠ w.heap.size + 1 := by omega
      have hKY : (((((W.setCell ⟨w.heap.size, 0, none⟩ (.int .u32 st.1)).setCell ⟨w.heap.size, 1, none⟩ (.int .u32 st.2.1)).setCell ⟨w.heap.size, 2, none⟩ (.slice av st.2.2.2.length cv)).setCell ⟨w.heap.size + 1, 0, none⟩ (.int .i64 0)).setCell ⟨w.heap.size + 1, 1, none⟩ (.int .i64 0)).heap[D]? = some (.deferred (some [])) := by
        rw [Below.heap_setCell _ _ _ _ (by simpa using hD1), Below.heap_setCell _ _ _ _ (by simpa using hD1), Below.heap_setCell _ _ _ _ (by simpa using hD0), Below.heap_setCell _ _ _ _ (by simpa using hD0), Below.heap_setCell _ _ _ _ (by simpa using hD0)]; exact hK
      have hoY := ownsRow_setCell_below (ownsRow_setCell_below (ownsRow_setCell_below (ownsRow_setCell_below (ownsRow_setCell_below HRW.out.1 (a := ⟨w.heap.size, 0, none⟩) (by simp) (.int .u32 st.1)) (a := ⟨w.heap.size, 1, none⟩) (by simp) (.int .u32 st.2.1)) (a := ⟨w.heap.size, 2, none⟩) (by simp) (.slice av st.2.2.2.length cv)) (a := ⟨w.heap.size + 1, 0, none⟩) (by simp) (.int .i64 0)) (a := ⟨w.heap.size + 1, 1, none⟩) (by simp) (.int .i64 0)
      have hrY := (HRW.out.2.grown (grown_set (grown_set (grown_set (World.grownBy.refl W (some w.heap.size)) 0 (.int .u32 st.1)) 1 (.int .u32 st.2.1)) 2 (.slice av st.2.2.2.length cv)) (fun g e => by simp only [Option.some.injEq] at e; subst e; exact .inl (by omega))).grown (grown_set (grown_set (World.grownBy.refl _ (some (w.heap.size + 1))) 0 (.int .i64 0)) 1 (.int .i64 0)) (fun g e => by simp only [Option.some.injEq] at e; subst e; exact .inl (by omega))
      have hbY := h1.trans f3
      have HY := hide (And.intro f1 (And.intro f2 (And.intro hbY (And.intro hKY (And.intro hoY hrY)))))
      clear h1 h2 h3 h4 h5 f1 f2 f3 hKY hoY hrY hbY hHd HH HRW
      gi_wp2_with fail
      generalize ((((W.setCell ⟨w.heap.size, 0, none⟩ (.int .u32 st.1)).setCell ⟨w.heap.size, 1, none⟩ (.int .u32 st.2.1)).setCell ⟨w.heap.size, 2, none⟩ (.slice av st.2.2.2.length cv)).setCell ⟨w.heap.size + 1, 0, none⟩ (.int .i64 0)).setCell ⟨w.heap.size + 1, 1, none⟩ (.int .i64 0) = Y at *
      obtain ⟨f1, f2, hbY, hKY, hoY, hrY⟩ := HY.out
      have hput := grownBy_putObj' Y D (.deferred none)
      have hrr : ∀ r, some D = some r → w.heap.size + 5 ≤ r ∧ ∃ o : Obj, Y.heap[r]? = some o ∧ o.isCells = false := fun r e => by cases e; exact ⟨by omega, _, hKY, rfl⟩
      have HBE := hide (belowStay hbY (Nat.le_refl _) (by omega) hput hrr)
      obtain ⟨cm, _⟩ := blk_cells (cellsStay f1 hput hrr)
      obtain ⟨cp, _⟩ := blk_cells (cellsStay f2 hput hrr)
      have r0 := cm 0
      have r1 := cm 1
      have r2 := cm 2
      have r3 := cp 0
      have r4 := cp 1
      have hap : Apartly Y (w.heap.size + 5) (some D) := fun g e => .inr (hrr g e).2
      have hV := ((hrY.grown hput hap).own (own_apartly hoY hput hap) rfl).view
      refine ⟨by simp, .inl ⟨_, _, rfl, run_takeDeferred hKY, ?_⟩⟩
      refine ⟨.tuple #[.agg #[.int .u32 st.1, .int .u32 st.2.1, .slice av st.2.2.2.length cv], .agg #[.int .i64 0, .int .i64 0]], by simp [results, Tryz.results9, go_sem, r0, r1, r2, r3, r4], ?_⟩
      unfold ParQ
      rw [HR.out]
      exact ⟨av, st.2.2.2.length, cv, rfl, hV, rfl, HOK.out, HBE.out⟩

end Go.Proofs.YtmobologlaeefaaGreat

/-
  Plain facts on what a text says: what is read is of good shape; a fault hangs on the lines up to it alone.
-/
namespace Go.Proofs.YtmobologlaeefaaGreat
open Go.RowKit
set_option linter.unusedVariables false
set_option linter.unusedSimpArgs false
set_option maxRecDepth 10000

theorem line_saysQ (s : ByteArray) (b : Int) (hs : s.size ≤ 16777216) : (lineS s b).2.1 = true → InstOk (lineS s b).1 ∧ rawE (lineS s b).1 b = 0 := by
  unfold lineS
  split
  · intro h; simp [noLine] at h
  · intro h
    obtain ⟨_, _, g3, g4, _⟩ := toks_good (strI_within s) 0
    have hin := toksIn_of (l := (toksP (strI s) 0).1) (n := (strI s).length) (by rw [strI_len]; omega) g4
    rw [strI_len] at g3
    obtain ⟨p1, p2, _⟩ := lineP_says (l := (toksP (strI s) 0).1) (len := (s.size : Int)) (b := b) hin (by omega) h
    exact ⟨p1, p2⟩

/-- How many words instructions have, with one more each. -/
def wsum (b : Int) (l : List InstT) : Nat := (l.map fun x => 1 + (rawWs x b).length).sum
theorem wsum_snoc (b : Int) (l : List InstT) (x : InstT) : wsum b (l ++ [x]) = wsum b l + (1 + (rawWs x b).length) := by simp [wsum]
theorem wsum_len (b : Int) : ∀ l : List InstT, l.length ≤ wsum b l
  | [] => by simp [wsum]
  | x :: l => by have := wsum_len b l; simp only [wsum, List.map_cons, List.sum_cons, List.length_cons] at this ⊢; omega
/-- A module that is being read is of good shape. -/
structure StOk (st : ModT) : Prop where
  gen : 0 ≤ st.1 ∧ st.1 < 4294967296
  zero : st.2.2.1 = 0 → st.2.2.2 = []
  head : st.2.2.1 ≠ 0 → 1 ≤ st.2.1 ∧ st.2.1 ≤ 65536 ∧ st.2.2.1 = ((5 + wsum st.2.1 st.2.2.2 : Nat) : Int) ∧ st.2.2.1 ≤ 1048576 ∧ (∀ x ∈ st.2.2.2, rawE x st.2.1 = 0)
theorem stOk0 : StOk st0 := ⟨by simp [st0], fun _ => rfl, fun h => absurd rfl h⟩
theorem headP_bnd (l : List TokT) (n : Int) (h : (headP l n).2.2.1 = 0) : 1 ≤ (headP l n).2.1 ∧ (headP l n).2.1 ≤ 65536 := by
  revert h
  unfold headP
  repeat' split
  all_goals intro h
  all_goals first | (exact absurd h (by assumption)) | (simp at h; done) | (simp only; omega)
theorem headP_gen (l : List TokT) (n : Int) : 0 ≤ (headP l n).1 ∧ (headP l n).1 < 4294967296 := by
  unfold headP
  repeat' split
  all_goals try simp
  rename_i h _ _ _ _
  have h1 : numP (nthT l 1) = 0 := by simpa using h
  unfold numP at h1
  split at h1
  · cases h1
  · exact num_bounds (numErr_zero h1)
theorem addS_keeps {st : ModT} {s : ByteArray} (h : StOk st) (hs : s.size ≤ 16777216) (he : (addS st s).1 = 0) : StOk (addS st s).2 := by
  by_cases hz : st.2.2.1 = 0
  · unfold addS at he ⊢
    split
    · exact h
    · rename_i h1
      rw [if_neg h1, if_pos hz] at he
      try rw [if_pos hz]
      split
      · exact h
      · rename_i h2
        have := headP_bnd (toksP (strI s) 0).1 s.size (by simpa using h2)
        exact ⟨headP_gen _ _, fun e => by simp at e, fun _ => ⟨this.1, this.2, by simp [wsum], by simp, fun x hx => by simp at hx⟩⟩
  · have hh := h.head hz
    rw [addS_headed hz hs] at he ⊢
    split
    · exact h
    · rename_i h1
      rw [if_neg h1] at he
      split
      · exact h
      · rename_i h2
        rw [if_neg h2] at he
        have hy := line_saysQ s st.2.1 hs (by simpa using h2)
        split
        · exact h
        · rename_i h3
          refine ⟨h.gen, fun e => ?_, fun _ => ⟨hh.1, hh.2.1, ?_, by simp only; omega, fun x hx => ?_⟩⟩
          · simp only at e; have := hh.2.2.1; omega
          · simp only; rw [wsum_snoc, hh.2.2.1]; push_cast; omega
          · rcases List.mem_append.1 hx with hx | hx
            · exact hh.2.2.2.2 x hx
            · rw [List.mem_singleton] at hx; subst hx; exact hy.2
theorem goL_keeps : ∀ (L : List (Nat × ByteArray)) (st : ModT), StOk st → (∀ x ∈ L, x.2.size ≤ 16777216) → (goL st L).1 = 0 → StOk (goL st L).2.2
  | [], st, h, _, _ => h
  | x :: L, st, h, hs, he => by
    rw [goL] at he ⊢
    by_cases h1 : (addS st x.2).1 ≠ 0
    · rw [if_pos h1] at he; exact absurd he h1
    · rw [if_neg h1] at he ⊢
      exact goL_keeps L _ (addS_keeps h (hs x (by simp)) (by simpa using h1)) (fun y hy => hs y (by simp [hy])) he
theorem linesT_le (s : ByteArray) : ∀ x ∈ linesT s, x.2.size ≤ s.size := fun x hx => by
  obtain ⟨k, hk⟩ := List.mem_iff_getElem?.1 hx
  exact (lines_at _ _ _ _ _ hk).2.1
theorem parse_len (s : ByteArray) : (parseS s).1.2.2.length ≤ 1048576 := by
  unfold parseS
  repeat' split
  all_goals try simp
  rename_i h1 h2 h3
  obtain ⟨b1, b2, b3, b4, b5⟩ := (goL_keeps (linesT s) st0 stOk0 (fun x hx => Nat.le_trans (linesT_le s x hx) (by omega)) (by simpa using h2)).head h3
  have := wsum_len (goL st0 (linesT s)).2.2.2.1 (goL st0 (linesT s)).2.2.2.2.2
  omega

end Go.Proofs.YtmobologlaeefaaGreat
