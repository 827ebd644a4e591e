/-
  The law LexLines holds, for texts whose lines keep to the memory's reach: a walk of its body with what the iterator of Lines tells.
-/
import Derived.RangeFuncNested
import Derived.RangeFuncBound
import Derived.RangeFuncCalls
import Derived.RangeFuncLeaves
import Derived.Shelf.Abstract
import Derived.Shelf.RegionOpen
import Derived.WalkKit
import Derived.OwnWalkIn
import Derived.TacticsInMore
import Derived.LoopNIn
import Derived.LoopIn
import Derived.Test.YtccllonkhklldaaBoxes
import Derived.Test.YtccllonkhklldaaLexLines
import Derived.Test.YtccllonkhklldaaLaw06Awake
import Derived.Test.YtccllonkhklldaaRef06Lines
namespace Go.Proofs.Ytccllonkhklldaa
open Go.RowKit Go.Shelf
attribute [local go_sem] Oper.semAt_some
set_option linter.unusedVariables false
set_option linter.unusedSimpArgs false

/-- Between two rounds: the count. -/
def LinI (s : ByteArray) (a : Option Addr) (m c : Nat) (stop : Int) (w1 : World) (pre : List (Nat × ByteArray)) (W : World) : Prop :=
  (Below w1.heap.size w1 W ∧ w1.heap.size + 3 ≤ W.heap.size) ∧ W.heap[w1.heap.size]? = some (.cells #[.slice a m c] 38 (0, 0)) ∧ W.heap[w1.heap.size + 1]? = some (.cells #[.string s] 9 (0, 0)) ∧ W.heap[w1.heap.size + 2]? = some (.cells #[.int .i64 pre.length] 3 (0, 0)) ∧ (∀ j : Nat, 1 ≤ j → j ≤ pre.length → (j : Int) ≠ stop)
def LinX (s : ByteArray) (a : Option Addr) (m c : Nat) (stop : Int) (w1 : World) (cd : Code) (pre : List (Nat × ByteArray)) (W : World) : Prop :=
  cd = .exit 0 ∧ (Below w1.heap.size w1 W ∧ w1.heap.size + 3 ≤ W.heap.size) ∧ W.heap[w1.heap.size]? = some (.cells #[.slice a m c] 38 (0, 0)) ∧ W.heap[w1.heap.size + 1]? = some (.cells #[.string s] 9 (0, 0)) ∧ W.heap[w1.heap.size + 2]? = some (.cells #[.int .i64 pre.length] 3 (0, 0)) ∧ (pre.length : Int) = stop
theorem linI_own (s : ByteArray) (a : Option Addr) (m c : Nat) (stop : Int) (w1 : World) : OwnFrom (w1.heap.size + 3) (LinI s a m c stop w1) := by
  rintro pre W W' row ⟨h1, h2, h3, h4, h5⟩ hg hr
  exact ⟨⟨belowStay h1.1 (Nat.le_refl _) (by omega) hg hr, Nat.le_trans h1.2 hg.size⟩, cellsStay h2 hg hr, cellsStay h3 hg hr, cellsStay h4 hg hr, h5⟩
theorem linX_own (s : ByteArray) (a : Option Addr) (m c : Nat) (stop : Int) (w1 : World) (cd : Code) : OwnFrom (w1.heap.size + 3) (LinX s a m c stop w1 cd) := by
  rintro pre W W' row ⟨h0, h1, h2, h3, h4, h5⟩ hg hr
  exact ⟨h0, ⟨belowStay h1.1 (Nat.le_refl _) (by omega) hg hr, Nat.le_trans h1.2 hg.size⟩, cellsStay h2 hg hr, cellsStay h3 hg hr, cellsStay h4 hg hr, h5⟩
theorem lineL_at {s : ByteArray} {pre : List (Nat × ByteArray)} {x : Nat × ByteArray} (h : pre ++ [x] <+: linesT s) : pre.length < (lineL s).length ∧ nthS (lineL s) pre.length = x.2 := by
  obtain ⟨_, _, _, h4, h5⟩ := pre_at h
  refine ⟨by simpa [lineL] using h4, ?_⟩
  simp [nthS, lineL, List.getD, h5]

set_option maxRecDepth 100000 in
set_option maxHeartbeats 8000000 in
theorem lexLines_law (w : World) (s : ByteArray) (_ : s.size ≤ 140737488351232) (stop : Int) (_ : (Lit.int .i64 stop).wf = true) (hu : s.size ≤ 1048576) :
    Calls Try.prog 7 #[.string s, .int .i64 stop] w fun e w' => e = .returned (.bool true) ∧ Below w.heap.size w w' := by
  have hnf : ∀ (p : Value) (w : World), (binOp .eql 41 (.func (.func 31) #[] #[p]) .nilFunc).run Try.prog w = .ok (.bool false) w := fun p w => by kernel_rfl
  have HA : Hid (∀ wx, _) := fun wx => awake6_true wx
  have hs : s.size ≤ 140737488351232 := by omega
  have hml : (lineL s).length ≤ s.size := by simp only [lineL, List.length_map]; exact lines_len _ _ _
  refine (callsIn_wide (n := 0)).1 ?_
  refine callsIn_of_wp_marks Try.func7 rfl trivial ?_ rfl
  simp only [Try.ntmps7, List.size_toArray, List.length_cons, List.length_nil, Nat.reduceAdd, Nat.reduceSub, Array.replicate_succ, Array.replicate_zero, List.push_toArray, List.append_toArray, List.nil_append, List.cons_append]
  gi_wp2_with fail
  refine ⟨trivial, rfl, (callsIn_wide.2 (refLines_any s _ hu)).mono ?_⟩
  rintro e w1 ⟨v, rfl, hrow, hb⟩
  obtain ⟨a, c, rfl, hsv⟩ := strs_own hrow
  have b0 : w1.heap[w.heap.size]? = some (.cells #[.int .i64 stop] 3 (0, 0)) := (hb.block w.heap.size (by simp; omega)).trans (allocOld (allocNew w _ rfl) _)
  have b1 : w1.heap[w.heap.size + 1]? = some (.cells #[.bool false] 4 (0, 0)) := (hb.block (w.heap.size + 1) (by simp)).trans (allocNew _ _ (by simp))
  have hbw : Below w.heap.size w w1 := (((Below.refl _ w).alloc (Nat.le_refl _) _).alloc (by simp) _).trans (hb.mono (by simp; omega))
  have lw : w.heap.size + 2 ≤ w1.heap.size := by have := hb.size; simp at this; omega
  clear hrow hb
  generalize hm : (lineL s).length = m at *
  gi_wp2_with fail
  refine ⟨trivial, rfl, (callsIn_wide.2 (lines_any s _)).mono ?_⟩
  rintro e w2 ⟨rfl, rfl⟩
  obtain ⟨wL, hwL⟩ : ∃ X, X = ((w1.alloc (.cells #[.slice a m c] 38)).alloc (.cells #[.string s] 9)).alloc (.cells #[.int .i64 0] 3) := ⟨_, rfl⟩
  have hsL : wL.heap.size = w1.heap.size + 3 := by rw [hwL]; simp
  have hbL : Below w1.heap.size w1 wL := by rw [hwL]; exact (((Below.refl _ w1).alloc (Nat.le_refl _) _).alloc (by simp) _).alloc (by simp; omega) _
  have k0 : wL.heap[w1.heap.size]? = some (.cells #[.slice a m c] 38 (0, 0)) := by rw [hwL]; exact allocOld (allocOld (allocNew w1 _ rfl) _) _
  have k1 : wL.heap[w1.heap.size + 1]? = some (.cells #[.string s] 9 (0, 0)) := by rw [hwL]; exact allocOld (allocNew _ _ (by simp)) _
  have k2 : wL.heap[w1.heap.size + 2]? = some (.cells #[.int .i64 0] 3 (0, 0)) := by rw [hwL]; exact allocNew _ _ (by simp)
  gi_wp2_with fail
  rename_i K1 hK1
  simp only [← hwL]
  clear hwL
  simp only [Nat.add_assoc, Nat.reduceAdd]
  -- one round of either loop
  have STEP : Hid (∀ (pre : List (Nat × ByteArray)) (x : Nat × ByteArray) (W : World), pre ++ [x] <+: linesT s → Below w1.heap.size w1 W → W.heap[w1.heap.size]? = some (.cells #[.slice a m c] 38 (0, 0)) → W.heap[w1.heap.size + 2]? = some (.cells #[.int .i64 pre.length] 3 (0, 0)) →
      x.1 = pre.length + 1 ∧ pre.length < m ∧ pre.length < 1048576 ∧ ∃ b off, a = some ⟨b, off, none⟩ ∧ b ≠ w1.heap.size + 2 ∧ W.cell? ⟨b, off + pre.length, none⟩ = some (.string x.2)) := by
    intro pre x W hV h1 h2 h3
    obtain ⟨p1, _⟩ := pre_at hV
    obtain ⟨q1, q2⟩ := lineL_at hV
    obtain ⟨b, off, e, hlt, hc⟩ := hsv pre.length q1
    rw [q2] at hc
    exact ⟨p1, by omega, by omega, b, off, e, by omega, (h1.cell (p := ⟨b, off + pre.length, none⟩) hlt).trans hc⟩
  have REST : Hid (∀ (D k : Nat) (W : World), w1.heap.size + 3 ≤ D → Below w1.heap.size w1 W → W.heap[w1.heap.size]? = some (.cells #[.slice a m c] 38 (0, 0)) → W.heap[w1.heap.size + 1]? = some (.cells #[.string s] 9 (0, 0)) → W.heap[w1.heap.size + 2]? = some (.cells #[.int .i64 k] 3 (0, 0)) → (k = m ∨ (k : Int) = stop) → W.heap[D]? = some (.deferred (some [])) →
      K1 { tmps := #[.string s, .int .i64 stop, undef, .pointer (some ⟨w.heap.size, 0, none⟩), .pointer (some ⟨w.heap.size + 1, 0, none⟩), .pointer (some ⟨w1.heap.size, 0, none⟩), .func (.func 31) #[] #[.pointer (some ⟨w1.heap.size + 1, 0, none⟩)], .pointer (some ⟨w1.heap.size + 2, 0, none⟩), undef, undef, undef, undef, .string s, .slice a m c, .string s, .func (.func 31) #[] #[.pointer (some ⟨w1.heap.size + 1, 0, none⟩)], .func (.func 31) #[] #[.pointer (some ⟨w1.heap.size + 1, 0, none⟩)], .bool false, .func (.func 31) #[] #[.pointer (some ⟨w1.heap.size + 1, 0, none⟩)], undef, undef, undef, undef, undef, undef, undef, undef, undef, undef, undef, undef, undef, undef, undef, undef, undef, undef, undef, undef, undef, undef, undef, undef, undef, undef, undef, undef, undef, undef, undef, undef, undef, undef, undef, undef, undef, undef, undef, undef, undef, undef, undef, undef, undef, undef, undef, undef, undef, undef, undef, undef, undef, undef, undef, undef, undef, undef, undef, undef, undef, undef, undef, undef], defers := [{ target := .collected D, args := #[] }] } W) := by
    intro D k W hD h1 h2 h3 h4 hk hKD
    apply hK1
    have lD : D < W.heap.size := (Array.getElem?_eq_some_iff.1 hKD).1
    obtain ⟨cS, _⟩ := oneCell ((h1.block _ (by omega)).trans b0)
    obtain ⟨cL, _⟩ := oneCell h2
    obtain ⟨cN, fN⟩ := oneCell h4
    have n0 := oneSet h4 (.int .i64 0)
    have hb0 : Below w1.heap.size w1 (W.setCell ⟨w1.heap.size + 2, 0, none⟩ (.int .i64 0)) := h1.setCell (by simp) _
    have hD0 : (W.setCell ⟨w1.heap.size + 2, 0, none⟩ (.int .i64 0)).heap[D]? = some (.deferred (some [])) := (KeepsOthers.setCell _ _ _).same D _ hKD rfl
    have m0 : (W.setCell ⟨w1.heap.size + 2, 0, none⟩ (.int .i64 0)).heap[w1.heap.size]? = some (.cells #[.slice a m c] 38 (0, 0)) := setFar h2 (by omega) _ _
    have m1 : (W.setCell ⟨w1.heap.size + 2, 0, none⟩ (.int .i64 0)).heap[w1.heap.size + 1]? = some (.cells #[.string s] 9 (0, 0)) := setFar h3 (by omega) _ _
    have s0 : (W.setCell ⟨w1.heap.size + 2, 0, none⟩ (.int .i64 0)).heap.size = W.heap.size := by simp [World.setCell]
    clear h1 h2 h3 h4 hKD k0 k1 k2 hbL hsL
    by_cases hkm : k = m
    · subst hkm
      clear hk
      gi_wp2_with fail
      clear cS cL cN fN
      generalize W.setCell ⟨w1.heap.size + 2, 0, none⟩ (.int .i64 0) = wM at *
      refine wp_tells rfl (enters_of Try.func31 (by kernel_rfl) rfl) (lines_tells s hs (w1.heap.size + 1) w1.heap.size (fun _ => False) wM m1) (by omega) (fun _ => rfl)
        (fun pre W2 => LinI s a k c 0 w1 pre W2 ∧ W2.heap[D]? = some (.deferred (some [])) ∧ wM.heap.size ≤ W2.heap.size) (fun _ _ _ => False) ?hI (fun c => by rintro pre W W' row h; exact h.elim)
        ⟨⟨⟨hb0, by omega⟩, m0, m1, by simpa using n0, fun j hj _ => by omega⟩, hD0, Nat.le_refl _⟩
        (fun pre x a' W => pre ++ [x] <+: linesT s ∧ a' = { tmps := #[.string s, .int .i64 stop, undef, .pointer (some ⟨w.heap.size, 0, none⟩), .pointer (some ⟨w.heap.size + 1, 0, none⟩), .pointer (some ⟨w1.heap.size, 0, none⟩), .func (.func 31) #[] #[.pointer (some ⟨w1.heap.size + 1, 0, none⟩)], .pointer (some ⟨w1.heap.size + 2, 0, none⟩), undef, undef, .int .i64 x.1, .string x.2, .string s, .slice a k c, .string s, .func (.func 31) #[] #[.pointer (some ⟨w1.heap.size + 1, 0, none⟩)], .func (.func 31) #[] #[.pointer (some ⟨w1.heap.size + 1, 0, none⟩)], .bool false, .func (.func 31) #[] #[.pointer (some ⟨w1.heap.size + 1, 0, none⟩)], undef, undef, undef, undef, undef, undef, undef, undef, undef, undef, undef, undef, undef, undef, undef, undef, undef, undef, undef, undef, undef, undef, undef, undef, undef, .int .i64 k, .slice a k c, .int .i64 k, .bool false, .bool false, undef, undef, undef, .bool false, .func (.func 31) #[] #[.pointer (some ⟨w1.heap.size + 1, 0, none⟩)], .int .i64 x.1, .string x.2, undef, undef, undef, undef, undef, undef, undef, undef, undef, undef, undef, undef, undef, undef, undef, undef, undef, undef, undef, undef, undef, undef, undef, undef, undef, undef, undef], defers := [] })
        ?hAx ?assign ?body ?done ?stop
      case hI =>
        rintro pre W2 W3 row ⟨h1, h2, h3⟩ hg hr
        exact ⟨linI_own s a k c 0 w1 pre W2 W3 row h1 hg (fun r e => ⟨by have := (hr r e).1; omega, (hr r e).2⟩), (hg.block D (Array.getElem?_eq_some_iff.1 h2).1 (fun e => by have := (hr D e.symm).1; omega)).trans h2, Nat.le_trans h3 hg.size⟩
      case hAx =>
        rintro pre x a' s W W' row h hg hr
        exact h
      case assign =>
        rintro l pre x W K hI hV hK
        simp only [lineV]
        gi_wp2
        exact hK _ _ (KeepsFrom.refl _ _) (Kept.refl _ _ _) hI ⟨hV, rfl⟩
      case stop =>
        rintro D2 cd pre W2 _ _ h _
        exact h.elim
      case body =>
        rintro l pre x a' W2 hl' ⟨rr, hrr⟩ ⟨⟨⟨h1, hlt⟩, h2, h3, h4, h5⟩, hDD, hsM⟩ ⟨hV, rfl⟩
        obtain ⟨p1, p2, p3, b, off, rfl, hne, cE⟩ := STEP.out pre x W2 hV h1 h2 h4
        obtain ⟨nn, t⟩ := x
        simp only at p1 cE
        subst p1
        have HGO : Hid (∀ W', W' = W2.setCell ⟨w1.heap.size + 2, 0, none⟩ (.int .i64 ((pre.length : Int) + 1)) → KeepsFrom wM.heap.size W2 W' ∧ Kept w1.heap.size (fun _ => False) W2 W' ∧ LinI s (some ⟨b, off, none⟩) k c 0 w1 (pre ++ [(pre.length + 1, t)]) W' ∧ W'.heap[D]? = some (.deferred (some [])) ∧ wM.heap.size ≤ W'.heap.size) := by
          rintro W' rfl
          refine ⟨(KeepsOthers.setCell _ _ _).from _, ⟨(Below.refl _ W2).setCell (by simp) _, fun _ _ _ _ h _ => h.elim⟩, ⟨⟨h1.setCell (by simp) _, by simpa [World.setCell] using hlt⟩, setFar h2 (by omega) _ _, setFar h3 (by omega) _ _, ?_, fun j hj _ => by omega⟩, (KeepsOthers.setCell _ _ _).same D _ hDD rfl, by simpa [World.setCell] using hsM⟩
          rw [List.length_append, List.length_singleton]; exact oneSet h4 _
        obtain ⟨cL, _⟩ := oneCell h2
        obtain ⟨cN, fN⟩ := oneCell h4
        have hpi : (pre.length : Int) < (k : Int) := by omega
        have hp0 : (0 : Int) ≤ (pre.length : Int) := by omega
        have hge : decide (k ≤ pre.length) = false := decide_eq_false (by omega)
        clear h1 h2 h3 h4 h5 hDD hV hrr STEP hK1 n0 hb0 hD0 m0 m1 b0 b1 hsv
        simp only [Int.natCast_add, Int.natCast_one]
        gi_wp2
        exact HGO.out _ rfl
      case done =>
        rintro D2 xs W2 hD2 rfl ⟨⟨⟨h1, hlt⟩, h2, h3, h4, h5⟩, hDD, hsM⟩ hK2
        have hlen : (linesT s).length = k := by rw [← hm]; simp [lineL]
        rw [hlen] at h4
        have e0 := (h1.block _ (by omega)).trans b1
        have hD2l : D2 < W2.heap.size := (Array.getElem?_eq_some_iff.1 hK2).1
        have hDl : D < W2.heap.size := (Array.getElem?_eq_some_iff.1 hDD).1
        have HFIN : Hid (∀ w3 : World, Below W2.heap.size W2 w3 → w3.cell? ⟨w.heap.size + 1, 0, none⟩ = some (.bool false) ∧ w3.frozen? ⟨w.heap.size + 1, 0, none⟩ = false ∧ w.heap.size + 1 < w3.heap.size ∧ ∀ X, X = w3.setCell ⟨w.heap.size + 1, 0, none⟩ (.bool true) → X.heap[D2]? = some (.deferred (some [])) ∧ (X.putObj D2 (.deferred none)).heap[D]? = some (.deferred (some [])) ∧ ((X.putObj D2 (.deferred none)).putObj D (.deferred none)).cell? ⟨w.heap.size + 1, 0, none⟩ = some (.bool true) ∧ Below w.heap.size w ((X.putObj D2 (.deferred none)).putObj D (.deferred none))) := by
          intro w3 hb3
          have e1 := (hb3.block (w.heap.size + 1) (by omega)).trans e0
          have hne2 : D2 ≠ w.heap.size + 1 := by omega
          have hneD : D ≠ w.heap.size + 1 := by omega
          refine ⟨(oneCell e1).1, (oneCell e1).2, Nat.lt_of_lt_of_le (by omega) hb3.size, ?_⟩
          rintro X rfl
          have f2 : (w3.setCell ⟨w.heap.size + 1, 0, none⟩ (.bool true)).heap[D2]? = some (.deferred (some [])) := setFar ((hb3.block D2 hD2l).trans hK2) hne2 _ _
          have f1 : (w3.setCell ⟨w.heap.size + 1, 0, none⟩ (.bool true)).heap[D]? = some (.deferred (some [])) := setFar ((hb3.block D hDl).trans hDD) hneD _ _
          have y0 : (w3.setCell ⟨w.heap.size + 1, 0, none⟩ (.bool true)).heap[w.heap.size + 1]? = some (.cells #[.bool true] 4 (0, 0)) := oneSet e1 _
          have hbY : Below w.heap.size w (w3.setCell ⟨w.heap.size + 1, 0, none⟩ (.bool true)) := ((hbw.trans (h1.mono hbw.size)).trans (hb3.mono (by omega))).setCell (by simp) _
          generalize w3.setCell ⟨w.heap.size + 1, 0, none⟩ (.bool true) = X at *
          have hneDD : D ≠ D2 := by omega
          have f1' : (X.putObj D2 (.deferred none)).heap[D]? = some (.deferred (some [])) := (World.putObj_heap_other (by omega)).trans f1
          have y1 : (X.putObj D2 (.deferred none)).heap[w.heap.size + 1]? = some (.cells #[.bool true] 4 (0, 0)) := (World.putObj_heap_other (by omega)).trans y0
          have y2 : ((X.putObj D2 (.deferred none)).putObj D (.deferred none)).heap[w.heap.size + 1]? = some (.cells #[.bool true] 4 (0, 0)) := (World.putObj_heap_other (by omega)).trans y1
          have hbZ := hbY.trans (belowK_b (w := w) (Nat.le_refl _) X D2 _ (.deferred none) (by omega) f2 rfl rfl)
          exact ⟨f2, f1', (oneCell y2).1, hbZ.trans (belowK_b (w := w) (Nat.le_refl _) _ D _ _ (by omega) f1' rfl rfl)⟩
        obtain ⟨cL, _⟩ := oneCell h2
        obtain ⟨cN, fN⟩ := oneCell h4
        clear h1 h2 h3 h4 h5 STEP hK1 n0 hb0 hD0 m0 m1 b0 b1 hsv e0 hDD
        gi_wp2_with fail
        refine ⟨trivial, rfl, (callsIn_wide.2 (HA.out _)).mono ?_⟩
        rintro e w3 ⟨rfl, hb3⟩
        obtain ⟨g1, g2, g3, g4⟩ := HFIN.out w3 hb3
        clear HFIN hb3
        gi_wp2_with fail
        obtain ⟨f2, f1, y, hbE⟩ := g4 _ rfl
        refine ⟨by simp, .inl ⟨_, _, rfl, run_takeDeferred f2, ?_⟩⟩
        refine ⟨by simp, .inl ⟨_, _, rfl, run_takeDeferred f1, ?_⟩⟩
        exact ⟨.bool true, by simp [results, Try.results7, go_sem, y], rfl, hbE⟩
    · have hk' : (k : Int) = stop := by rcases hk with h | h; exact absurd h hkm; exact h
      subst hk'
      have hne : ((k : Int) != (m : Int)) = true := by simp; omega
      clear hk
      gi_wp2_with fail
      clear cS cL cN fN
      generalize W.setCell ⟨w1.heap.size + 2, 0, none⟩ (.int .i64 0) = wM at *
      refine wp_tells rfl (enters_of Try.func31 (by kernel_rfl) rfl) (lines_tells s hs (w1.heap.size + 1) w1.heap.size (fun _ => False) wM m1) (by omega) (fun _ => rfl)
        (fun pre W2 => LinI s a m c 0 w1 pre W2 ∧ W2.heap[D]? = some (.deferred (some [])) ∧ wM.heap.size ≤ W2.heap.size) (fun _ _ _ => False) ?hI (fun c => by rintro pre W W' row h; exact h.elim)
        ⟨⟨⟨hb0, by omega⟩, m0, m1, by simpa using n0, fun j hj _ => by omega⟩, hD0, Nat.le_refl _⟩
        (fun pre x a' W => pre ++ [x] <+: linesT s ∧ a' = { tmps := #[.string s, .int .i64 k, undef, .pointer (some ⟨w.heap.size, 0, none⟩), .pointer (some ⟨w.heap.size + 1, 0, none⟩), .pointer (some ⟨w1.heap.size, 0, none⟩), .func (.func 31) #[] #[.pointer (some ⟨w1.heap.size + 1, 0, none⟩)], .pointer (some ⟨w1.heap.size + 2, 0, none⟩), undef, undef, .int .i64 x.1, .string x.2, .string s, .slice a m c, .string s, .func (.func 31) #[] #[.pointer (some ⟨w1.heap.size + 1, 0, none⟩)], .func (.func 31) #[] #[.pointer (some ⟨w1.heap.size + 1, 0, none⟩)], .bool false, .func (.func 31) #[] #[.pointer (some ⟨w1.heap.size + 1, 0, none⟩)], undef, undef, undef, undef, undef, undef, undef, undef, undef, undef, undef, undef, undef, undef, undef, undef, undef, undef, undef, undef, undef, undef, undef, undef, undef, .int .i64 k, .slice a m c, .int .i64 m, .bool true, .bool true, .int .i64 k, .int .i64 k, .bool false, .bool false, .func (.func 31) #[] #[.pointer (some ⟨w1.heap.size + 1, 0, none⟩)], .int .i64 x.1, .string x.2, undef, undef, undef, undef, undef, undef, undef, undef, undef, undef, undef, undef, undef, undef, undef, undef, undef, undef, undef, undef, undef, undef, undef, undef, undef, undef, undef], defers := [] })
        ?hAx ?assign ?body ?done ?stop
      case hI =>
        rintro pre W2 W3 row ⟨h1, h2, h3⟩ hg hr
        exact ⟨linI_own s a m c 0 w1 pre W2 W3 row h1 hg (fun r e => ⟨by have := (hr r e).1; omega, (hr r e).2⟩), (hg.block D (Array.getElem?_eq_some_iff.1 h2).1 (fun e => by have := (hr D e.symm).1; omega)).trans h2, Nat.le_trans h3 hg.size⟩
      case hAx =>
        rintro pre x a' s W W' row h hg hr
        exact h
      case assign =>
        rintro l pre x W K hI hV hK
        simp only [lineV]
        gi_wp2
        exact hK _ _ (KeepsFrom.refl _ _) (Kept.refl _ _ _) hI ⟨hV, rfl⟩
      case stop =>
        rintro D2 cd pre W2 _ _ h _
        exact h.elim
      case body =>
        rintro l pre x a' W2 hl' ⟨rr, hrr⟩ ⟨⟨⟨h1, hlt⟩, h2, h3, h4, h5⟩, hDD, hsM⟩ ⟨hV, rfl⟩
        obtain ⟨p1, p2, p3, b, off, rfl, hne, cE⟩ := STEP.out pre x W2 hV h1 h2 h4
        obtain ⟨nn, t⟩ := x
        simp only at p1 cE
        subst p1
        have HGO : Hid (∀ W', W' = W2.setCell ⟨w1.heap.size + 2, 0, none⟩ (.int .i64 ((pre.length : Int) + 1)) → KeepsFrom wM.heap.size W2 W' ∧ Kept w1.heap.size (fun _ => False) W2 W' ∧ LinI s (some ⟨b, off, none⟩) m c 0 w1 (pre ++ [(pre.length + 1, t)]) W' ∧ W'.heap[D]? = some (.deferred (some [])) ∧ wM.heap.size ≤ W'.heap.size) := by
          rintro W' rfl
          refine ⟨(KeepsOthers.setCell _ _ _).from _, ⟨(Below.refl _ W2).setCell (by simp) _, fun _ _ _ _ h _ => h.elim⟩, ⟨⟨h1.setCell (by simp) _, by simpa [World.setCell] using hlt⟩, setFar h2 (by omega) _ _, setFar h3 (by omega) _ _, ?_, fun j hj _ => by omega⟩, (KeepsOthers.setCell _ _ _).same D _ hDD rfl, by simpa [World.setCell] using hsM⟩
          rw [List.length_append, List.length_singleton]; exact oneSet h4 _
        obtain ⟨cL, _⟩ := oneCell h2
        obtain ⟨cN, fN⟩ := oneCell h4
        have hpi : (pre.length : Int) < (m : Int) := by omega
        have hp0 : (0 : Int) ≤ (pre.length : Int) := by omega
        have hge : decide (m ≤ pre.length) = false := decide_eq_false (by omega)
        clear h1 h2 h3 h4 h5 hDD hV hrr STEP hK1 n0 hb0 hD0 m0 m1 b0 b1 hsv
        simp only [Int.natCast_add, Int.natCast_one]
        gi_wp2
        exact HGO.out _ rfl
      case done =>
        rintro D2 xs W2 hD2 rfl ⟨⟨⟨h1, hlt⟩, h2, h3, h4, h5⟩, hDD, hsM⟩ hK2
        have hlen : (linesT s).length = m := by rw [← hm]; simp [lineL]
        rw [hlen] at h4
        have e0 := (h1.block _ (by omega)).trans b1
        have hD2l : D2 < W2.heap.size := (Array.getElem?_eq_some_iff.1 hK2).1
        have hDl : D < W2.heap.size := (Array.getElem?_eq_some_iff.1 hDD).1
        have HFIN : Hid (∀ w3 : World, Below W2.heap.size W2 w3 → w3.cell? ⟨w.heap.size + 1, 0, none⟩ = some (.bool false) ∧ w3.frozen? ⟨w.heap.size + 1, 0, none⟩ = false ∧ w.heap.size + 1 < w3.heap.size ∧ ∀ X, X = w3.setCell ⟨w.heap.size + 1, 0, none⟩ (.bool true) → X.heap[D2]? = some (.deferred (some [])) ∧ (X.putObj D2 (.deferred none)).heap[D]? = some (.deferred (some [])) ∧ ((X.putObj D2 (.deferred none)).putObj D (.deferred none)).cell? ⟨w.heap.size + 1, 0, none⟩ = some (.bool true) ∧ Below w.heap.size w ((X.putObj D2 (.deferred none)).putObj D (.deferred none))) := by
          intro w3 hb3
          have e1 := (hb3.block (w.heap.size + 1) (by omega)).trans e0
          have hne2 : D2 ≠ w.heap.size + 1 := by omega
          have hneD : D ≠ w.heap.size + 1 := by omega
          refine ⟨(oneCell e1).1, (oneCell e1).2, Nat.lt_of_lt_of_le (by omega) hb3.size, ?_⟩
          rintro X rfl
          have f2 : (w3.setCell ⟨w.heap.size + 1, 0, none⟩ (.bool true)).heap[D2]? = some (.deferred (some [])) := setFar ((hb3.block D2 hD2l).trans hK2) hne2 _ _
          have f1 : (w3.setCell ⟨w.heap.size + 1, 0, none⟩ (.bool true)).heap[D]? = some (.deferred (some [])) := setFar ((hb3.block D hDl).trans hDD) hneD _ _
          have y0 : (w3.setCell ⟨w.heap.size + 1, 0, none⟩ (.bool true)).heap[w.heap.size + 1]? = some (.cells #[.bool true] 4 (0, 0)) := oneSet e1 _
          have hbY : Below w.heap.size w (w3.setCell ⟨w.heap.size + 1, 0, none⟩ (.bool true)) := ((hbw.trans (h1.mono hbw.size)).trans (hb3.mono (by omega))).setCell (by simp) _
          generalize w3.setCell ⟨w.heap.size + 1, 0, none⟩ (.bool true) = X at *
          have hneDD : D ≠ D2 := by omega
          have f1' : (X.putObj D2 (.deferred none)).heap[D]? = some (.deferred (some [])) := (World.putObj_heap_other (by omega)).trans f1
          have y1 : (X.putObj D2 (.deferred none)).heap[w.heap.size + 1]? = some (.cells #[.bool true] 4 (0, 0)) := (World.putObj_heap_other (by omega)).trans y0
          have y2 : ((X.putObj D2 (.deferred none)).putObj D (.deferred none)).heap[w.heap.size + 1]? = some (.cells #[.bool true] 4 (0, 0)) := (World.putObj_heap_other (by omega)).trans y1
          have hbZ := hbY.trans (belowK_b (w := w) (Nat.le_refl _) X D2 _ (.deferred none) (by omega) f2 rfl rfl)
          exact ⟨f2, f1', (oneCell y2).1, hbZ.trans (belowK_b (w := w) (Nat.le_refl _) _ D _ _ (by omega) f1' rfl rfl)⟩
        obtain ⟨cL, _⟩ := oneCell h2
        obtain ⟨cN, fN⟩ := oneCell h4
        clear h1 h2 h3 h4 h5 STEP hK1 n0 hb0 hD0 m0 m1 b0 b1 hsv e0 hDD
        gi_wp2_with fail
        refine ⟨trivial, rfl, (callsIn_wide.2 (HA.out _)).mono ?_⟩
        rintro e w3 ⟨rfl, hb3⟩
        obtain ⟨g1, g2, g3, g4⟩ := HFIN.out w3 hb3
        clear HFIN hb3
        gi_wp2_with fail
        obtain ⟨f2, f1, y, hbE⟩ := g4 _ rfl
        refine ⟨by simp, .inl ⟨_, _, rfl, run_takeDeferred f2, ?_⟩⟩
        refine ⟨by simp, .inl ⟨_, _, rfl, run_takeDeferred f1, ?_⟩⟩
        exact ⟨.bool true, by simp [results, Try.results7, go_sem, y], rfl, hbE⟩
  clear hK1
  refine wp_tells rfl (enters_of Try.func31 (by kernel_rfl) rfl) (lines_tells s hs (w1.heap.size + 1) w1.heap.size (fun _ => False) wL k1) (by omega) (fun _ => rfl)
    (LinI s a m c stop w1) (LinX s a m c stop w1) (by rw [hsL]; exact linI_own s a m c stop w1) (fun cd => by rw [hsL]; exact linX_own s a m c stop w1 cd)
    ⟨⟨hbL, by omega⟩, k0, k1, k2, fun j h1 h2 => by simp at h2; omega⟩
    (fun pre x a' W => pre ++ [x] <+: linesT s ∧ a' = { tmps := #[.string s, .int .i64 stop, undef, .pointer (some ⟨w.heap.size, 0, none⟩), .pointer (some ⟨w.heap.size + 1, 0, none⟩), .pointer (some ⟨w1.heap.size, 0, none⟩), .func (.func 31) #[] #[.pointer (some ⟨w1.heap.size + 1, 0, none⟩)], .pointer (some ⟨w1.heap.size + 2, 0, none⟩), .int .i64 x.1, .string x.2, undef, undef, .string s, .slice a m c, .string s, .func (.func 31) #[] #[.pointer (some ⟨w1.heap.size + 1, 0, none⟩)], .func (.func 31) #[] #[.pointer (some ⟨w1.heap.size + 1, 0, none⟩)], .bool false, .func (.func 31) #[] #[.pointer (some ⟨w1.heap.size + 1, 0, none⟩)], .int .i64 x.1, .string x.2, undef, undef, undef, undef, undef, undef, undef, undef, undef, undef, undef, undef, undef, undef, undef, undef, undef, undef, undef, undef, undef, undef, undef, undef, undef, undef, undef, undef, undef, undef, undef, undef, undef, undef, undef, undef, undef, undef, undef, undef, undef, undef, undef, undef, undef, undef, undef, undef, undef, undef, undef, undef, undef, undef, undef, undef, undef, undef, undef, undef, undef, undef], defers := [] })
    ?hAx ?assign ?body ?done ?stop
  case hAx =>
    rintro pre x a' s W W' row h hg hr
    exact h
  case assign =>
    rintro l pre x W K hI hV hK
    simp only [lineV]
    gi_wp2
    exact hK _ _ (KeepsFrom.refl _ _) (Kept.refl _ _ _) hI ⟨hV, rfl⟩
  case body =>
    rintro l pre x a' W2 hl' ⟨rr, hrr⟩ ⟨⟨h1, hlt⟩, h2, h3, h4, h5⟩ ⟨hV, rfl⟩
    obtain ⟨p1, p2, p3, b, off, rfl, hne, cE⟩ := STEP.out pre x W2 hV h1 h2 h4
    obtain ⟨nn, t⟩ := x
    simp only at p1 cE
    subst p1
    have eS := (h1.block _ (by omega)).trans b0
    have HGO : Hid (∀ W', W' = W2.setCell ⟨w1.heap.size + 2, 0, none⟩ (.int .i64 ((pre.length : Int) + 1)) → KeepsFrom wL.heap.size W2 W' ∧ (((pre.length : Int) + 1 ≠ stop) → Kept w1.heap.size (fun _ => False) W2 W' ∧ LinI s (some ⟨b, off, none⟩) m c stop w1 (pre ++ [(pre.length + 1, t)]) W') ∧ (((pre.length : Int) + 1 = stop) → LinX s (some ⟨b, off, none⟩) m c stop w1 (.exit 0) (pre ++ [(pre.length + 1, t)]) W')) := by
      rintro W' rfl
      have hn : (W2.setCell ⟨w1.heap.size + 2, 0, none⟩ (.int .i64 ((pre.length : Int) + 1))).heap[w1.heap.size + 2]? = some (.cells #[.int .i64 ((pre ++ [(pre.length + 1, t)]).length : Nat)] 3 (0, 0)) := by
        rw [List.length_append, List.length_singleton]; exact oneSet h4 _
      refine ⟨(KeepsOthers.setCell _ _ _).from _, fun hne => ⟨⟨(Below.refl _ W2).setCell (by simp) _, fun _ _ _ _ h _ => h.elim⟩, ⟨h1.setCell (by simp) _, by simpa [World.setCell] using hlt⟩, setFar h2 (by omega) _ _, setFar h3 (by omega) _ _, hn, fun j hj1 hj2 => ?_⟩, fun he => ⟨rfl, ⟨h1.setCell (by simp) _, by simpa [World.setCell] using hlt⟩, setFar h2 (by omega) _ _, setFar h3 (by omega) _ _, hn, ?_⟩⟩
      · rw [List.length_append, List.length_singleton] at hj2
        by_cases e : j = pre.length + 1
        · rw [e]; simpa using hne
        · exact h5 j hj1 (by omega)
      · rw [List.length_append, List.length_singleton]; simpa using he
    obtain ⟨cL, _⟩ := oneCell h2
    obtain ⟨cN, fN⟩ := oneCell h4
    obtain ⟨cS, _⟩ := oneCell eS
    have hpi : (pre.length : Int) < (m : Int) := by omega
    have hp0 : (0 : Int) ≤ (pre.length : Int) := by omega
    have hge : decide (m ≤ pre.length) = false := decide_eq_false (by omega)
    have ne : w.heap.size ≠ w1.heap.size + 2 := by omega
    have l2 : w1.heap.size + 2 < W2.heap.size := by omega
    have l0 : w.heap.size < W2.heap.size := by omega
    obtain ⟨g1, g2, g3⟩ := HGO.out _ rfl
    clear h1 h2 h3 h4 h5 hV hrr STEP b0 b1 hsv REST HGO k0 k1 k2 hbL eS
    simp only [Int.natCast_add, Int.natCast_one]
    by_cases he : (pre.length : Int) + 1 = stop
    · have fin := And.intro g1 (g3 he)
      have hb : ((pre.length : Int) + 1 == stop) = true := by simpa using he
      clear g1 g2 g3 he
      gi_wp2
      exact fin
    · have fin := And.intro g1 (g2 he)
      have hb : ((pre.length : Int) + 1 == stop) = false := by simpa using he
      clear g1 g2 g3 he
      gi_wp2
      exact fin
  case done =>
    rintro D xs W hD rfl ⟨⟨h1, hlt⟩, h2, h3, h4, h5⟩ hK
    have hlen : (linesT s).length = m := by rw [← hm]; simp [lineL]
    rw [hlen] at h4
    exact REST.out D m W (by omega) h1 h2 h3 h4 (.inl rfl) hK
  case stop =>
    rintro D cd pre W hD hpre ⟨rfl, ⟨h1, hlt⟩, h2, h3, h4, h5⟩ hK
    gi_wp2_with fail
    exact REST.out D pre.length W (by omega) h1 h2 h3 h4 (.inr h5) hK

end Go.Proofs.Ytccllonkhklldaa
