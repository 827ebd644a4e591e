/-
  GraphWalk is true for every list of edges and every number of rounds.
-/
import Derived.RangeFuncNested
import Derived.RangeFuncBound
import Derived.RangeFuncCalls
import Derived.RangeFuncLeaves
import Derived.Shelf.Abstract
import Derived.Shelf.RegionOpen
import Derived.WalkKit
import Derived.OwnWalkIn
import Derived.TacticsInMore
import Derived.LoopNIn
import Derived.LoopIn
import Derived.WalkSpells
import Derived.Test.YtpdjmapmpicgjaaProg
import Derived.Test.YtpdjmapmpicgjaaArgLists
import Derived.Test.YtpdjmapmpicgjaaLaw14Awake
import Derived.Test.YtpdjmapmpicgjaaLaw14Copied
import Derived.Test.YtpdjmapmpicgjaaLaw14Both
namespace Go.Proofs.Ytpdjmapmpicgjaa
open Go.RowKit Go.Shelf
attribute [local go_sem] Oper.semAt_some
set_option linter.unusedVariables false
set_option linter.unusedSimpArgs false
set_option maxRecDepth 10000

theorem name_frameW {F : Fence} {n : Nat} {P : Program} {c : Code} {Q : Exit → Act → World → Prop} {t : Array Value} {d : List Deferred} {w : World} (h : ∀ T, T = t → c.wpIn F n P Q { tmps := T, defers := d } w) : c.wpIn F n P Q { tmps := t, defers := d } w := h t rfl

/-- Between two rounds: how many there were; nb: the block of the count. -/
def GwI (w6 : World) (zs pre : List Int) (W : World) : Prop :=
  (Below w6.heap.size w6 W ∧ w6.heap.size + 1 ≤ W.heap.size) ∧ W.heap[w6.heap.size]? = some (.cells #[.int .i64 pre.length] 3 (0, 0)) ∧ pre <+: zs
theorem gwI_own (w6 : World) (zs : List Int) : OwnFrom (w6.heap.size + 1) (GwI w6 zs) := by
  rintro pre W W' row ⟨h1, h2, h3⟩ hg hr
  exact ⟨⟨belowStay h1.1 (Nat.le_refl _) (by omega) hg hr, Nat.le_trans h1.2 hg.size⟩, cellsStay h2 hg hr, h3⟩
/-- Behind the round that left. -/
def GwX (w6 : World) (zs : List Int) (stop : Int) (c : Code) (pre : List Int) (W : World) : Prop := c = .exit 0 ∧ GwI w6 zs pre W ∧ (pre.length : Int) = stop
theorem gwX_own (w6 : World) (zs : List Int) (stop : Int) (c : Code) : OwnFrom (w6.heap.size + 1) (GwX w6 zs stop c) := by
  rintro pre W W' row ⟨h0, h1, h2⟩ hg hr
  exact ⟨h0, gwI_own w6 zs pre W W' row h1 hg hr, h2⟩
theorem gwI_next {w6 : World} {zs pre : List Int} {x : Int} {W : World} (h : GwI w6 zs pre W) (hp : pre ++ [x] <+: zs) : KeepsFrom (w6.heap.size + 1) W (W.setCell ⟨w6.heap.size, 0, none⟩ (.int .i64 ((pre.length : Int) + 1))) ∧ Kept w6.heap.size (fun _ => False) W (W.setCell ⟨w6.heap.size, 0, none⟩ (.int .i64 ((pre.length : Int) + 1))) ∧ GwI w6 zs (pre ++ [x]) (W.setCell ⟨w6.heap.size, 0, none⟩ (.int .i64 ((pre.length : Int) + 1))) := by
  have hb : Below w6.heap.size W (W.setCell ⟨w6.heap.size, 0, none⟩ (.int .i64 ((pre.length : Int) + 1))) := (Below.refl _ _).setCell (by simp) _
  refine ⟨(KeepsOthers.setCell _ _ _).from _, ⟨hb, KeptT.none⟩, ⟨h.1.1.trans hb, by have := h.1.2; simpa [World.setCell] using this⟩, ?_, hp⟩
  have := oneSet h.2.1 (.int .i64 ((pre.length : Int) + 1))
  simpa using this
/-- What is told next. -/
theorem told_at {zs pre : List Int} {x : Int} (h : pre ++ [x] <+: zs) : pre.length < zs.length ∧ nth zs pre.length = x := by
  obtain ⟨q, hq⟩ := h
  subst hq
  constructor
  · simp
  · simp [nth, List.getD]

set_option maxRecDepth 100000 in
set_option maxHeartbeats 8000000 in
theorem graphWalk_true (w : World) (a : Option Addr) (n c : Nat) (N : List (List Int)) (hl : N.length = n) (hv : LV w a N) (hn : 24 * n ≤ 140737488351232) (hr : ∀ q, 8 * (rowN N q).length ≤ 140737488351232) (hc : n ≤ c) (stop : Int) (hst : (Lit.int .i64 stop).wf = true) :
    Calls Try.prog 4 #[.slice a n c, .int .i64 stop] w fun e w' => e = .returned (.bool true) ∧ Below w.heap.size w w' := by
  have HA := hide (fun wx => awake14_true wx)
  have HL := hide hl
  have HCP := hide (fun wx (h : Below w.heap.size w wx) => copied14_any a n c N wx (hv.below h) hl hn hr)
  have HOF := hide (fun ax wx (h : LV wx ax N) => graphOf_any ax n n N wx h hl hn hr)
  have HRF := hide (fun wx (h : Below w.heap.size w wx) => refOf14_any a n c N wx (hv.below h) hl hn hr)
  clear hl hv hr hn hst
  refine (callsIn_wide (n := 0)).1 ?_
  refine callsIn_of_wp_marks Try.func4 rfl trivial ?_ rfl
  simp only [Try.ntmps4, List.size_toArray, List.length_cons, List.length_nil, Nat.reduceAdd, Nat.reduceSub, Array.replicate_succ, Array.replicate_zero, List.push_toArray, List.append_toArray, List.nil_append, List.cons_append]
  gi_wp2_with fail
  obtain ⟨wA, hwA⟩ : ∃ X, X = (w.alloc (.cells #[.int .i64 stop] 3)).alloc (.cells #[.bool false] 4) := ⟨_, rfl⟩
  have hbA : Below w.heap.size w wA := by rw [hwA]; exact ((Below.refl _ w).alloc (Nat.le_refl _) _).alloc (by simp) _
  have kS : wA.heap[w.heap.size]? = some (.cells #[.int .i64 stop] 3 (0, 0)) := by rw [hwA]; exact allocOld (allocNew w _ rfl) _
  have kR : wA.heap[w.heap.size + 1]? = some (.cells #[.bool false] 4 (0, 0)) := by rw [hwA]; exact allocNew _ _ (by simp)
  rw [← hwA]
  clear hwA
  refine ⟨trivial, rfl, (callsIn_wide.2 (HRF.out wA hbA)).mono ?_⟩
  rintro e w1 hq1
  obtain ⟨wp, er, rfl, hE, hb1, hR1, hR0⟩ := rfQ_open hq1
  have HB1 := hide (hbA.trans (hb1.mono hbA.size))
  have KS1 := hide ((hb1.block _ (Array.getElem?_eq_some_iff.1 kS).1).trans kS)
  have KR1 := hide ((hb1.block _ (Array.getElem?_eq_some_iff.1 kR).1).trans kR)
  have HE := hide hE
  have HRW := hide (fun w3 (h : Below w1.heap.size w1 w3) => both_refWalk w1 w3 _ N wp er hE hR1 hR0 h)
  clear hq1 hb1 hR1 hR0 hE hbA kS kR
  gi_wp2_with fail
  refine ⟨trivial, rfl, (callsIn_wide.2 (HCP.out w1 HB1.out)).mono ?_⟩
  rintro e w2 ⟨h, rfl, hO2, hb2⟩
  obtain ⟨a', c', e', _, hLV, _⟩ := hO2.head
  rw [HL.out] at e'
  cases e'
  have HOFF := hide (HOF.out _ w2 hLV)
  have HB2 := hide hb2
  clear hO2 hb2 hLV
  gi_wp2_with fail
  refine ⟨trivial, rfl, (callsIn_wide.2 HOFF.out).mono ?_⟩
  rintro e w3 hq3
  obtain ⟨gp, er2, rfl, hE2, hb3, hG1, hG0⟩ := ofQ_open hq3
  have hee := ofE_uniq hE2 HE.out
  subst hee
  have HB3 := hide (HB2.out.trans (hb3.mono HB2.out.size))
  have HGW := hide (fun w5 (h : Below w3.heap.size w3 w5) => both_walk w3 w5 _ N gp er2 hE2 hG1 hG0 h)
  have HZ := hide (zsF_len hE2)
  clear hq3 hE2 hb3 hG1 hG0 HOFF HE HB2
  generalize zsF N er2 = zs at *
  gi_wp2_with fail
  refine ⟨trivial, rfl, (callsIn_wide.2 (HRW.out w3 HB3.out)).mono ?_⟩
  rintro e w4 ⟨v4, rfl, ho4, hb4⟩
  obtain ⟨la, lc, rfl, hvl, _⟩ := View.ofOwned ho4
  obtain ⟨w5, hw5⟩ : ∃ X, X = w4.alloc (.cells #[.slice la zs.length lc] 32) := ⟨_, rfl⟩
  have hb45 : Below w4.heap.size w4 w5 := by rw [hw5]; exact (Below.refl _ _).alloc (Nat.le_refl _) _
  have kL : w5.heap[w4.heap.size]? = some (.cells #[.slice la zs.length lc] 32 (0, 0)) := by rw [hw5]; exact allocNew _ _ rfl
  have hb35 : Below w3.heap.size w3 w5 := hb4.trans (hb45.mono hb4.size)
  have hgw := HGW.out w5 hb35
  have hvl5 := hvl.below hb45
  clear ho4 HRW HGW hvl
  gi_wp2_with fail
  rw [← hw5]
  clear hw5
  refine ⟨trivial, rfl, (callsIn_wide.2 hgw).mono ?_⟩
  rintro e w6 ⟨gf, lb, rfl, hb6, hSeq⟩
  have hbA6 := HB1.out.trans ((HB3.out.trans ((hb35.trans (hb6.mono hb35.size)).mono HB3.out.size)).mono HB1.out.size)
  have HB6 := hide hbA6
  have hb16 := (HB3.out.trans ((hb35.trans (hb6.mono hb35.size)).mono HB3.out.size))
  have KS6 := hide ((hb16.block _ (Array.getElem?_eq_some_iff.1 KS1.out).1).trans KS1.out)
  have KR6 := hide ((hb16.block _ (Array.getElem?_eq_some_iff.1 KR1.out).1).trans KR1.out)
  have KL6 := hide ((hb6.block _ (Array.getElem?_eq_some_iff.1 kL).1).trans kL)
  have HV6 := hide (hvl5.below hb6)
  have HSQ := hide hSeq
  have hnn := hSeq.notNil
  have LW : w.heap.size + 1 < w6.heap.size := (Array.getElem?_eq_some_iff.1 KR6.out).1
  have LL : w4.heap.size < w6.heap.size := (Array.getElem?_eq_some_iff.1 KL6.out).1
  clear hgw hb35 hb45 hb4 hb6 hbA6 hb16 hSeq kL hvl5
  gi_wp2_with fail
  rename_i K1 hK1
  obtain ⟨w7, hw7⟩ : ∃ X, X = w6.alloc (.cells #[.int .i64 0] 3) := ⟨_, rfl⟩
  have hb67 : Below w6.heap.size w6 w7 := by rw [hw7]; exact (Below.refl _ _).alloc (Nat.le_refl _) _
  have kN : w7.heap[w6.heap.size]? = some (.cells #[.int .i64 0] 3 (0, 0)) := by rw [hw7]; exact allocNew _ _ rfl
  have s7 : w7.heap.size = w6.heap.size + 1 := by rw [hw7]; simp
  rw [← hw7]
  clear hw7
  refine name_frameW fun T0 hT0 => ?_
  have REST1 : Hid (∀ (D k : Nat) (W : World), w7.heap.size ≤ D → Below w6.heap.size w6 W → w6.heap.size + 1 ≤ W.heap.size → W.heap[w6.heap.size]? = some (.cells #[.int .i64 k] 3 (0, 0)) → (k = zs.length ∨ (k : Int) = stop) → k ≤ zs.length → W.heap[D]? = some (.deferred (some [])) → K1 { tmps := T0, defers := [{ target := .collected D, args := #[] }] } W) := by
    intro D k W hD b1 b2 kn hk hkz hKD
    apply hK1
    subst hT0
    have cS := (oneCell ((b1.block _ (by omega)).trans KS6.out)).1
    have cL := (oneCell ((b1.block _ LL).trans KL6.out)).1
    obtain ⟨cN, fN⟩ := oneCell kn
    have kn0 := oneSet kn (.int .i64 0)
    have hb0 : Below w6.heap.size w6 (W.setCell ⟨w6.heap.size, 0, none⟩ (.int .i64 0)) := b1.setCell (by simp) _
    have hD0 : (W.setCell ⟨w6.heap.size, 0, none⟩ (.int .i64 0)).heap[D]? = some (.deferred (some [])) := (KeepsOthers.setCell _ _ _).same D _ hKD rfl
    have s0 : w6.heap.size + 1 ≤ (W.setCell ⟨w6.heap.size, 0, none⟩ (.int .i64 0)).heap.size := by simpa [World.setCell] using b2
    have hcase : ((k : Int) != (zs.length : Int)) = false ∨ (((k : Int) != (zs.length : Int)) = true ∧ ((k : Int) != stop) = false) := by
      rcases Decidable.em (k = zs.length) with h | h
      · exact .inl (by simp [h])
      · refine .inr ⟨by simp; omega, ?_⟩
        rcases hk with h' | h'
        · exact absurd h' h
        · simp [h']
    have HB0 := hide hb0
    have HD0 := hide hD0
    have HS0 := hide s0
    have HN0 := hide kn0
    clear kn hk hkz hKD kn0 hb0 hD0 s0 b1 b2 hK1
    rcases hcase with hc1 | ⟨hc1, hc2⟩
    all_goals
      gi_wp2_with fail
      rename_i K2 hK2
      clear cS cL cN fN
      generalize hWM : W.setCell ⟨w6.heap.size, 0, none⟩ (.int .i64 0) = wM at *
      clear hWM
      refine name_frameW fun T1 hT1 => ?_
      refine wp_tells (by rw [hT1]; rfl) HSQ.out.enters (HSQ.out.tells wM w6.heap.size (by have := HS0.out; omega) (Nat.le_refl _) HB0.out) (by have := HS0.out; omega) (fun _ => rfl)
        (fun pre W2 => GwI w6 zs pre W2 ∧ W2.heap[D]? = some (.deferred (some [])) ∧ wM.heap.size ≤ W2.heap.size) (fun _ _ _ => False) ?hI (fun c => by rintro pre W2 W' row h; exact h.elim)
        ⟨⟨⟨HB0.out, HS0.out⟩, by simpa using HN0.out, List.nil_prefix⟩, HD0.out, Nat.le_refl _⟩
        (fun pre x a' W2 => pre ++ [x] <+: zs ∧ a' = { tmps := (T1.setIfInBounds 63 (.int .i64 x)).setIfInBounds 13 (.int .i64 x), defers := [] }) ?hAx ?assign ?body ?done ?stop
      case hI =>
        rintro pre W2 W3 row ⟨h1, h2, h3⟩ hg hr
        have hDl := (Array.getElem?_eq_some_iff.1 HD0.out).1
        exact ⟨gwI_own w6 zs pre W2 W3 row h1 hg (fun r e => ⟨by have := (hr r e).1; have := HS0.out; omega, (hr r e).2⟩), (hg.block D (Array.getElem?_eq_some_iff.1 h2).1 (fun e => by have := (hr D e.symm).1; omega)).trans h2, Nat.le_trans h3 hg.size⟩
      case hAx => rintro pre x a' s W2 W' row h hg hr; exact h
      case stop => rintro D2 c pre W2 hD2 hS h; exact h.elim
      case assign =>
        rintro l pre x W2 K hI hV hK
        have hK2 := hK _ W2 (KeepsFrom.refl _ _) (Kept.refl _ _ _) hI ⟨hV, rfl⟩
        clear hK
        subst hT1
        simp only [intV1, List.setIfInBounds_toArray, List.set_cons_succ, List.set_cons_zero] at hK2 ⊢
        gi_wp2
        exact hK2
      case body =>
        rintro l pre x a' W hl' hrr ⟨hI, hDD, hsM⟩ ⟨hV, rfl⟩
        obtain ⟨hlt, hnx⟩ := told_at hV
        have hnxt := gwI_next hI hV
        obtain ⟨⟨b1, b2⟩, kn, hpre⟩ := hI
        subst hT1
        simp only [intV1, List.setIfInBounds_toArray, List.set_cons_succ, List.set_cons_zero]
        obtain ⟨b3, o3, rfl, hb3, hcq⟩ := (HV6.out.below b1) pre.length hlt
        rw [hnx] at hcq
        have cS := (oneCell ((b1.block _ (by omega)).trans KS6.out)).1
        have cL := (oneCell ((b1.block _ LL).trans KL6.out)).1
        obtain ⟨cN, fN⟩ := oneCell kn
        have hz4 := HZ.out
        have cS2 : (W.setCell ⟨w6.heap.size, 0, none⟩ (.int .i64 ((pre.length : Int) + 1))).cell? ⟨w.heap.size, 0, none⟩ = some (.int .i64 stop) := (oneCell (setFar ((b1.block _ (by omega)).trans KS6.out) (by omega) _ _)).1
        obtain ⟨cN2, _⟩ := oneCell (oneSet kn (.int .i64 ((pre.length : Int) + 1)))
        have hlti : (pre.length : Int) < (zs.length : Int) := by omega
        have hnpi : (pre.length : Int) ≤ 4096 := by omega
        have hge : decide ((zs.length : Int) ≤ (pre.length : Int)) = false := decide_eq_false (by omega)
        have hge2 : decide (zs.length ≤ pre.length) = false := decide_eq_false (by omega)
        have hwr : IntKind.i64.wrap ((pre.length : Int) + 1) = (pre.length : Int) + 1 := by rw [IntKind.wrap_i64] <;> omega
        have HX := hide hnxt
        have HDD := hide (((KeepsOthers.setCell W ⟨w6.heap.size, 0, none⟩ (.int .i64 ((pre.length : Int) + 1))).same D _ hDD rfl))
        have HSM : Hid (wM.heap.size ≤ (W.setCell ⟨w6.heap.size, 0, none⟩ (.int .i64 ((pre.length : Int) + 1))).heap.size) := by show _ ≤ _; simpa [World.setCell] using hsM
        have HS0' := HS0.out
        generalize hnp : pre.length = np at *
        have HNP := hide hnp
        clear hnp hnx hlt hV b1 b2 kn hpre hb3 hnxt hz4 hDD hsM
        gi_wp2_with fail
        exact ⟨⟨HX.out.1.size, fun q o hq ho hc => HX.out.1.same q o (by omega) ho hc⟩, HX.out.2.1, HX.out.2.2, HDD.out, HSM.out⟩
      case done =>
        rintro D2 xs W2 hD2 rfl ⟨⟨⟨b1, b2⟩, kn, _⟩, hDD, hsM⟩ hKD2
        subst hT1
        have cS := (oneCell ((b1.block _ (by omega)).trans KS6.out)).1
        have cL := (oneCell ((b1.block _ LL).trans KL6.out)).1
        obtain ⟨cN, fN⟩ := oneCell kn
        have HB2 := hide (HB6.out.trans (b1.mono HB6.out.size))
        have KR2 := hide ((b1.block _ LW).trans KR6.out)
        have HDD := hide hDD
        have HKD := hide hKD2
        have hDw : w.heap.size + 1 < D := by omega
        have hDD2 : D < D2 := by have := (Array.getElem?_eq_some_iff.1 HD0.out).1; omega
        clear b1 b2 kn hDD hsM hKD2
        gi_wp2_with fail
        refine ⟨trivial, rfl, (callsIn_wide.2 (HA.out _)).mono ?_⟩
        rintro e W4 ⟨rfl, hb4⟩
        have k4 := (hb4.block _ (Array.getElem?_eq_some_iff.1 KR2.out).1).trans KR2.out
        have kr4 := oneCell k4
        have hD4 := (hb4.block _ (Array.getElem?_eq_some_iff.1 HDD.out).1).trans HDD.out
        have hE4 := (hb4.block _ (Array.getElem?_eq_some_iff.1 HKD.out).1).trans HKD.out
        have hbw4 := HB2.out.trans (hb4.mono HB2.out.size)
        obtain ⟨Y, hY⟩ : ∃ Y, Y = W4.setCell ⟨w.heap.size + 1, 0, none⟩ (.bool true) := ⟨_, rfl⟩
        have hDY : Y.heap[D]? = some (.deferred (some [])) := by rw [hY]; exact (KeepsOthers.setCell _ _ _).same D _ hD4 rfl
        have hEY : Y.heap[D2]? = some (.deferred (some [])) := by rw [hY]; exact (KeepsOthers.setCell _ _ _).same D2 _ hE4 rfl
        have hrY : Y.heap[w.heap.size + 1]? = some (.cells #[.bool true] 4 (0, 0)) := by rw [hY]; exact oneSet k4 _
        have hbY : Below w.heap.size w Y := by rw [hY]; exact hbw4.setCell (by simp) _
        clear hb4 k4 hD4 hE4 hbw4
        gi_wp2_with fail
        rw [← hY]
        clear hY kr4
        have hDY2 : (Y.putObj D2 (.deferred none)).heap[D]? = some (.deferred (some [])) := (World.putObj_heap_other (by omega)).trans hDY
        refine ⟨by simp, .inl ⟨_, _, rfl, run_takeDeferred hEY, ?_⟩⟩
        refine ⟨by simp, .inl ⟨_, _, rfl, run_takeDeferred hDY2, ?_⟩⟩
        have r0 := (oneCell ((World.putObj_heap_other (o := .deferred none) (show w.heap.size + 1 ≠ D by omega)).trans ((World.putObj_heap_other (o := .deferred none) (show w.heap.size + 1 ≠ D2 by omega)).trans hrY))).1
        have hb1 := hbY.grown (grownBy_putObj' Y D2 (.deferred none)) hbY.size (fun k e => by cases e; omega)
        exact ⟨.bool true, by simp [results, Try.results4, go_sem, r0], rfl, hb1.grown (grownBy_putObj' _ D (.deferred none)) hb1.size (fun k e => by cases e; omega)⟩
  clear hK1
  refine wp_tells (by rw [hT0]; rfl) HSQ.out.enters (HSQ.out.tells w7 w6.heap.size (by omega) (Nat.le_refl _) hb67) (by omega) (fun _ => rfl)
    (GwI w6 zs) (GwX w6 zs stop) (by rw [s7]; exact gwI_own w6 zs) (fun c => by rw [s7]; exact gwX_own w6 zs stop c)
    ⟨⟨hb67, by omega⟩, by simpa using kN, List.nil_prefix⟩
    (fun pre x a' W => pre ++ [x] <+: zs ∧ a' = { tmps := (T0.setIfInBounds 35 (.int .i64 x)).setIfInBounds 12 (.int .i64 x), defers := [] }) ?hAx ?assign ?body ?done ?stop
  case hAx => rintro pre x a' s W W' row h hg hr; exact h
  case assign =>
    rintro l pre x W K hI hV hK
    have hK2 := hK _ W (KeepsFrom.refl _ _) (Kept.refl _ _ _) hI ⟨hV, rfl⟩
    clear hK REST1
    subst hT0
    simp only [intV1, List.setIfInBounds_toArray, List.set_cons_succ, List.set_cons_zero] at hK2 ⊢
    gi_wp2
    exact hK2
  case done =>
    rintro D xs W hD rfl ⟨⟨b1, b2⟩, kn, hp⟩ hKD
    gi_wp2_with fail
    exact REST1.out D xs.length W (by omega) b1 b2 kn (.inl rfl) (Nat.le_refl _) hKD
  case stop =>
    rintro D c pre W hD hp ⟨rfl, ⟨⟨b1, b2⟩, kn, hpre⟩, hs⟩ hKD
    gi_wp2_with fail
    exact REST1.out D pre.length W (by omega) b1 b2 kn (.inr hs) hpre.length_le hKD
  case body =>
    rintro l pre x a' W hl' hrr hI ⟨hV, rfl⟩
    obtain ⟨hlt, hnx⟩ := told_at hV
    have hnxt := gwI_next hI hV
    obtain ⟨⟨b1, b2⟩, kn, hpre⟩ := hI
    subst hT0
    simp only [intV1, List.setIfInBounds_toArray, List.set_cons_succ, List.set_cons_zero]
    obtain ⟨b3, o3, rfl, hb3, hcq⟩ := (HV6.out.below b1) pre.length hlt
    rw [hnx] at hcq
    have cS := (oneCell ((b1.block _ (by omega)).trans KS6.out)).1
    have cL := (oneCell ((b1.block _ LL).trans KL6.out)).1
    obtain ⟨cN, fN⟩ := oneCell kn
    have hz4 := HZ.out
    have cS2 : (W.setCell ⟨w6.heap.size, 0, none⟩ (.int .i64 ((pre.length : Int) + 1))).cell? ⟨w.heap.size, 0, none⟩ = some (.int .i64 stop) := (oneCell (setFar ((b1.block _ (by omega)).trans KS6.out) (by omega) _ _)).1
    obtain ⟨cN2, _⟩ := oneCell (oneSet kn (.int .i64 ((pre.length : Int) + 1)))
    have hlti : (pre.length : Int) < (zs.length : Int) := by omega
    have hnpi : (pre.length : Int) ≤ 4096 := by omega
    have hge : decide ((zs.length : Int) ≤ (pre.length : Int)) = false := decide_eq_false (by omega)
    have hge2 : decide (zs.length ≤ pre.length) = false := decide_eq_false (by omega)
    have hwr : IntKind.i64.wrap ((pre.length : Int) + 1) = (pre.length : Int) + 1 := by rw [IntKind.wrap_i64] <;> omega
    have HX := hide hnxt
    clear REST1
    generalize hnp : pre.length = np at *
    have HNP := hide hnp
    clear hnp hnx hlt hV b1 b2 kn hpre hb3 hnxt hz4
    rcases Decidable.em ((np : Int) + 1 = stop) with hs | hs
    · have hsb : ((np : Int) + 1 == stop) = true := by simp [hs]
      have HS := hide hs
      clear hs
      gi_wp2_with fail
      refine ⟨?_, rfl, HX.out.2.2, by have := HS.out; have := HNP.out; simp; omega⟩
      have := HX.out.1
      rwa [s7]
    · have hsb : ((np : Int) + 1 == stop) = false := by simpa using hs
      clear hs
      gi_wp2_with fail
      refine ⟨?_, HX.out.2.1, HX.out.2.2⟩
      have := HX.out.1
      rwa [s7]

end Go.Proofs.Ytpdjmapmpicgjaa
