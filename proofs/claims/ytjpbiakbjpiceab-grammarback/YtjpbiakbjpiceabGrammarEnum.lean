/-
  What Enum and EnumNamed of the layer grammar return, for every letter and every number or name.
-/
import Derived.RangeFuncNested
import Derived.RangeFuncBound
import Derived.RangeFuncCalls
import Derived.RangeFuncLeaves
import Derived.Shelf.Abstract
import Derived.Shelf.RegionOpen
import Derived.WalkKit
import Derived.OwnWalkIn
import Derived.TacticsInMore
import Derived.LoopNIn
import Derived.LoopIn
import Derived.Test.YtjpbiakbjpiceabBoxes
import Derived.Test.YtjpbiakbjpiceabGrammarEnums
namespace Go.Proofs.Ytjpbiakbjpiceab
open Go.RowKit Go.Shelf
set_option maxRecDepth 10000
attribute [local go_sem] Oper.semAt_some
set_option linter.unusedVariables false
set_option linter.unusedSimpArgs false

theorem find_pairs (c : Int) (p : Int × ByteArray → Bool) : (enumsL c).find? p = (namesT.find? (fun y => isLet c y && p y.2)).map (·.2) := by
  unfold enumsL
  rw [List.find?_map, List.find?_filter]
  simp [Bool.decide_and]
theorem enum_list {c n : Int} (h : (enumsL c).find? (fun x => x.1 == n) = none) : enumS c n = ⟨#[]⟩ ∧ enumB c n = false := by
  rw [find_pairs] at h
  have e : namesT.find? (isNum c n) = none := by simpa [isNum, isLet] using h
  simp [enumS, enumB, e]
theorem enum_list_some {c n : Int} {x : Int × ByteArray} (h : (enumsL c).find? (fun x => x.1 == n) = some x) : enumS c n = x.2 ∧ enumB c n = true := by
  rw [find_pairs] at h
  obtain ⟨y, hy, e⟩ := Option.map_eq_some_iff.1 h
  have hy : namesT.find? (isNum c n) = some y := hy
  subst e
  simp [enumS, enumB, hy]
theorem named_list {c : Int} {s : ByteArray} (h : (enumsL c).find? (fun x => x.2.toList == s.toList) = none) : enumN c s = 0 ∧ enumNB c s = false := by
  rw [find_pairs] at h
  have e : namesT.find? (isNam c s) = none := by simpa [isNam, isLet] using h
  simp [enumN, enumNB, e]
theorem named_list_some {c : Int} {s : ByteArray} {x : Int × ByteArray} (h : (enumsL c).find? (fun x => x.2.toList == s.toList) = some x) : enumN c s = x.1 ∧ enumNB c s = true := by
  rw [find_pairs] at h
  obtain ⟨y, hy, e⟩ := Option.map_eq_some_iff.1 h
  have hy : namesT.find? (isNam c s) = some y := hy
  subst e
  simp [enumN, enumNB, hy]

/-- Between two rounds of Enum. -/
def EnumI (n : Int) (w : World) (pre : List (Int × ByteArray)) (W : World) : Prop :=
  (Below w.heap.size w W ∧ w.heap.size + 4 ≤ W.heap.size) ∧ W.heap[w.heap.size]? = some (.cells #[.int .u32 n] 24 (0, 0)) ∧ W.heap[w.heap.size + 1]? = some (.cells #[.string ⟨#[]⟩] 9 (0, 0)) ∧ W.heap[w.heap.size + 2]? = some (.cells #[.bool false] 4 (0, 0)) ∧ ∀ x ∈ pre, (x.1 == n) = false
/-- Behind the round that left. -/
def EnumX (n : Int) (w : World) (c : Code) (pre : List (Int × ByteArray)) (W : World) : Prop :=
  c = .ret ∧ (Below w.heap.size w W ∧ w.heap.size + 4 ≤ W.heap.size) ∧ ∃ (pre' : List (Int × ByteArray)) (x : Int × ByteArray), pre = pre' ++ [x] ∧ (∀ x ∈ pre', (x.1 == n) = false) ∧ (x.1 == n) = true ∧
    W.heap[w.heap.size + 1]? = some (.cells #[.string x.2] 9 (0, 0)) ∧ W.heap[w.heap.size + 2]? = some (.cells #[.bool true] 4 (0, 0))
theorem EnumI_own (n : Int) (w : World) : OwnFrom (w.heap.size + 4) (EnumI n w) := by
  rintro pre W W' row ⟨h1, h2, h3, h4, h5⟩ hg hr
  exact ⟨⟨belowStay h1.1 (Nat.le_refl _) (by omega) hg hr, Nat.le_trans h1.2 hg.size⟩, cellsStay h2 hg hr, cellsStay h3 hg hr, cellsStay h4 hg hr, h5⟩
theorem EnumX_own (n : Int) (w : World) (c : Code) : OwnFrom (w.heap.size + 4) (EnumX n w c) := by
  rintro pre W W' row ⟨h0, h1, pre', x, h2, h3, h4, h5, h6⟩ hg hr
  exact ⟨h0, ⟨belowStay h1.1 (Nat.le_refl _) (by omega) hg hr, Nat.le_trans h1.2 hg.size⟩, pre', x, h2, h3, h4, cellsStay h5 hg hr, cellsStay h6 hg hr⟩

set_option maxRecDepth 100000 in
set_option maxHeartbeats 4000000 in
theorem enum_any (c : Int) (n : Int) (w : World) : Calls Try.prog 11 #[.int .u8 c, .int .u32 n] w fun e w' => e = .returned (.tuple #[.string (enumS c n), .bool (enumB c n)]) ∧ Below w.heap.size w w' := by
  refine (callsIn_wide (n := 0)).1 ?_
  refine callsIn_of_wp_marks Try.func11 rfl trivial ?_ rfl
  simp only [Try.ntmps11, List.size_toArray, List.length_cons, List.length_nil, Nat.reduceAdd, Nat.reduceSub, Array.replicate_succ, Array.replicate_zero, List.push_toArray, List.append_toArray, List.nil_append, List.cons_append]
  gi_wp2_with fail
  refine ⟨trivial, rfl, (callsIn_wide.2 (enums_any c _)).mono ?_⟩
  rintro e w2 ⟨rfl, rfl⟩
  obtain ⟨wL, hwL⟩ : ∃ X, X = ((((w.alloc (.cells #[.int .u32 n] 24)).alloc (.cells #[.string ⟨#[]⟩] 9)).alloc (.cells #[.bool false] 4)).alloc (.cells #[.int .u8 c] 5)) := ⟨_, rfl⟩
  have hsL : wL.heap.size = w.heap.size + 4 := by rw [hwL]; simp
  have hbL : Below w.heap.size w wL := by rw [hwL]; exact (((((Below.refl _ w).alloc (Nat.le_refl _) _).alloc (by simp) _).alloc (by simp; omega) _).alloc (by simp; omega) _)
  have k0 : wL.heap[w.heap.size]? = some (.cells #[.int .u32 n] 24 (0, 0)) := by rw [hwL]; exact allocOld (allocOld (allocOld (allocNew w _ rfl) _) _) _
  have k1 : wL.heap[w.heap.size + 1]? = some (.cells #[.string ⟨#[]⟩] 9 (0, 0)) := by rw [hwL]; exact allocOld (allocOld (allocNew _ _ (by simp)) _) _
  have k2 : wL.heap[w.heap.size + 2]? = some (.cells #[.bool false] 4 (0, 0)) := by rw [hwL]; exact allocOld (allocNew _ _ (by simp)) _
  have k3 : wL.heap[w.heap.size + 3]? = some (.cells #[.int .u8 c] 5 (0, 0)) := by rw [hwL]; exact allocNew _ _ (by simp)
  gi_wp2_with fail
  rw [← hwL]
  clear hwL
  simp only [Nat.add_assoc, Nat.reduceAdd]
  refine wp_tells rfl (enters_of Try.func24 (by kernel_rfl) rfl) (enums_tells c w.heap.size (fun _ => False) wL (w.heap.size + 3) k3) (by omega) (fun _ => rfl)
    (EnumI n w) (EnumX n w) (by rw [hsL]; exact EnumI_own n w) (fun c => by rw [hsL]; exact EnumX_own n w c)
    ⟨⟨hbL, by omega⟩, k0, k1, k2, fun q hq => by simp at hq⟩
    (fun pre x a' W => a' = { tmps := #[.int .u8 c, .int .u32 n, undef, .pointer (some ⟨w.heap.size, 0, none⟩), .pointer (some ⟨w.heap.size + 1, 0, none⟩), .pointer (some ⟨w.heap.size + 2, 0, none⟩), .int .u32 x.1, .string x.2, .int .u8 c, .func (.func 24) #[] #[.pointer (some ⟨w.heap.size + 3, 0, none⟩)], .int .u32 x.1, .string x.2, undef, undef, undef, undef], defers := [] })
    ?hAx ?assign ?body ?done ?stop
  case hAx =>
    rintro pre x a' s W W' row h hg hr
    exact h
  case assign =>
    rintro l pre x W K hI hV hK
    simp only [enumV]
    gi_wp2
    exact hK _ _ (KeepsFrom.refl _ _) (Kept.refl _ _ _) hI rfl
  case body =>
    rintro l pre x a' W hl' ⟨r, hr⟩ ⟨⟨h1, hlt⟩, h2, h3, h4, h6⟩ rfl
    obtain ⟨c0, _⟩ := oneCell h2
    obtain ⟨c2, f2⟩ := oneCell h3
    obtain ⟨c3, f3⟩ := oneCell h4
    have go : (x.1 == n) = false → KeepsFrom wL.heap.size W W ∧ Kept w.heap.size (fun _ => False) W W ∧ EnumI n w (pre ++ [x]) W := fun hno =>
      ⟨KeepsFrom.refl _ _, Kept.refl _ _ _, ⟨h1, hlt⟩, h2, h3, h4, fun q hq => by
        rcases List.mem_append.1 hq with h | h
        · exact h6 q h
        · simp at h; subst h; exact hno⟩
    have out : (x.1 == n) = true → KeepsFrom wL.heap.size W ((W.setCell ⟨w.heap.size + 1, 0, none⟩ (.string x.2)).setCell ⟨w.heap.size + 2, 0, none⟩ (.bool true)) ∧ EnumX n w .ret (pre ++ [x]) ((W.setCell ⟨w.heap.size + 1, 0, none⟩ (.string x.2)).setCell ⟨w.heap.size + 2, 0, none⟩ (.bool true)) := fun hyes =>
      ⟨((KeepsOthers.setCell _ _ _).trans (KeepsOthers.setCell _ _ _)).from _, rfl, ⟨(h1.setCell (by simp) _).setCell (by simp) _, by simpa [World.setCell] using hlt⟩, pre, x, rfl, h6, hyes, setFar (oneSet h3 _) (by omega) _ _, oneSet (setFar h4 (by omega) _ _) _⟩
    clear h2 h3 h4 h6 h1
    cases hoe : (x.1 == n) with
    | true =>
      have hyes := out hoe
      clear go out
      gi_wp2
      first | exact hyes | (rw [hsL] at hyes; exact hyes)
    | false =>
      have hno := go hoe
      clear go out
      gi_wp2
      first | exact hno | (rw [hsL] at hno; exact hno)
  case done =>
    rintro D xs W hD rfl ⟨⟨h1, hlt⟩, h2, h3, h4, h6⟩ hK
    have hnone : (enumsL c).find? (fun x => (x.1 == n)) = none := List.find?_eq_none.2 (fun q hq => by rw [h6 q hq]; simp)
    obtain ⟨c2, f2⟩ := oneCell h3
    obtain ⟨c3, f3⟩ := oneCell h4
    obtain ⟨Y, hY⟩ : ∃ Y, Y = (W.setCell ⟨w.heap.size + 1, 0, none⟩ (.string ⟨#[]⟩)).setCell ⟨w.heap.size + 2, 0, none⟩ (.bool false) := ⟨_, rfl⟩
    have hKY : Y.heap[D]? = some (.deferred (some [])) := by rw [hY]; exact ((KeepsOthers.setCell _ _ _).trans (KeepsOthers.setCell _ _ _)).same D _ hK rfl
    have hbY : Below w.heap.size w Y := by rw [hY]; exact (h1.setCell (by simp) _).setCell (by simp) _
    have y2 : Y.heap[w.heap.size + 1]? = some (.cells #[.string ⟨#[]⟩] 9 (0, 0)) := by rw [hY]; exact setFar (oneSet h3 _) (by omega) _ _
    have y3 : Y.heap[w.heap.size + 2]? = some (.cells #[.bool false] 4 (0, 0)) := by rw [hY]; exact oneSet (setFar h4 (by omega) _ _) _
    have hput := grownBy_putObj' Y D (.deferred none)
    have hpr : ∀ r, some D = some r → ∃ o : Obj, Y.heap[r]? = some o ∧ o.isCells = false := fun r e => by cases e; exact ⟨_, hKY, rfl⟩
    have r0 := cell_kept (W := Y) (oneCell y2).1 hput hpr
    have r1 := cell_kept (W := Y) (oneCell y3).1 hput hpr
    have hbE : Below w.heap.size w (Y.putObj D (.deferred none)) := hbY.trans (belowK_b (w := w) (Nat.le_refl _) Y D _ _ (by omega) hKY rfl rfl)
    clear h1 h2 h3 h4 h6 y2 y3 hput hpr hbY
    gi_wp2_with fail
    rw [← hY]
    refine ⟨by simp, .inl ⟨_, _, rfl, run_takeDeferred hKY, ?_⟩⟩
    exact ⟨.tuple #[.string ⟨#[]⟩, .bool false], by simp [results, Try.results11, go_sem, r0, r1], by rw [(enum_list hnone).1, (enum_list hnone).2], hbE⟩
  case stop =>
    rintro D c' pre W hD hpre ⟨rfl, ⟨h1, hlt⟩, pre', x, rfl, h3, h4, h5, h6⟩ hK
    have hsome : (enumsL c).find? (fun x => (x.1 == n)) = some x := by
      obtain ⟨s, hs⟩ := hpre
      rw [← hs, List.append_assoc, List.find?_append, List.find?_eq_none.2 (fun q hq => by rw [h3 q hq]; simp)]
      simp [h4]
    have hput := grownBy_putObj' W D (.deferred none)
    have hpr : ∀ r, some D = some r → ∃ o : Obj, W.heap[r]? = some o ∧ o.isCells = false := fun r e => by cases e; exact ⟨_, hK, rfl⟩
    have r0 := cell_kept (W := W) (oneCell h5).1 hput hpr
    have r1 := cell_kept (W := W) (oneCell h6).1 hput hpr
    have hbE : Below w.heap.size w (W.putObj D (.deferred none)) := h1.trans (belowK_b (w := w) (Nat.le_refl _) W D _ _ (by omega) hK rfl rfl)
    clear h1 h5 h6 hput hpr
    gi_wp2_with fail
    refine ⟨by simp, .inl ⟨_, _, rfl, run_takeDeferred hK, ?_⟩⟩
    exact ⟨.tuple #[.string x.2, .bool true], by simp [results, Try.results11, go_sem, r0, r1], by rw [(enum_list_some hsome).1, (enum_list_some hsome).2], hbE⟩

/-- Between two rounds of EnumNamed. -/
def EnumNamedI (s : ByteArray) (w : World) (pre : List (Int × ByteArray)) (W : World) : Prop :=
  (Below w.heap.size w W ∧ w.heap.size + 4 ≤ W.heap.size) ∧ W.heap[w.heap.size]? = some (.cells #[.string s] 9 (0, 0)) ∧ W.heap[w.heap.size + 1]? = some (.cells #[.int .u32 0] 24 (0, 0)) ∧ W.heap[w.heap.size + 2]? = some (.cells #[.bool false] 4 (0, 0)) ∧ ∀ x ∈ pre, (x.2.toList == s.toList) = false
/-- Behind the round that left. -/
def EnumNamedX (s : ByteArray) (w : World) (c : Code) (pre : List (Int × ByteArray)) (W : World) : Prop :=
  c = .ret ∧ (Below w.heap.size w W ∧ w.heap.size + 4 ≤ W.heap.size) ∧ ∃ (pre' : List (Int × ByteArray)) (x : Int × ByteArray), pre = pre' ++ [x] ∧ (∀ x ∈ pre', (x.2.toList == s.toList) = false) ∧ (x.2.toList == s.toList) = true ∧
    W.heap[w.heap.size + 1]? = some (.cells #[.int .u32 x.1] 24 (0, 0)) ∧ W.heap[w.heap.size + 2]? = some (.cells #[.bool true] 4 (0, 0))
theorem EnumNamedI_own (s : ByteArray) (w : World) : OwnFrom (w.heap.size + 4) (EnumNamedI s w) := by
  rintro pre W W' row ⟨h1, h2, h3, h4, h5⟩ hg hr
  exact ⟨⟨belowStay h1.1 (Nat.le_refl _) (by omega) hg hr, Nat.le_trans h1.2 hg.size⟩, cellsStay h2 hg hr, cellsStay h3 hg hr, cellsStay h4 hg hr, h5⟩
theorem EnumNamedX_own (s : ByteArray) (w : World) (c : Code) : OwnFrom (w.heap.size + 4) (EnumNamedX s w c) := by
  rintro pre W W' row ⟨h0, h1, pre', x, h2, h3, h4, h5, h6⟩ hg hr
  exact ⟨h0, ⟨belowStay h1.1 (Nat.le_refl _) (by omega) hg hr, Nat.le_trans h1.2 hg.size⟩, pre', x, h2, h3, h4, cellsStay h5 hg hr, cellsStay h6 hg hr⟩

set_option maxRecDepth 100000 in
set_option maxHeartbeats 4000000 in
theorem enumNamed_any (c : Int) (s : ByteArray) (w : World) : Calls Try.prog 12 #[.int .u8 c, .string s] w fun e w' => e = .returned (.tuple #[.int .u32 (enumN c s), .bool (enumNB c s)]) ∧ Below w.heap.size w w' := by
  refine (callsIn_wide (n := 0)).1 ?_
  refine callsIn_of_wp_marks Try.func12 rfl trivial ?_ rfl
  simp only [Try.ntmps12, List.size_toArray, List.length_cons, List.length_nil, Nat.reduceAdd, Nat.reduceSub, Array.replicate_succ, Array.replicate_zero, List.push_toArray, List.append_toArray, List.nil_append, List.cons_append]
  gi_wp2_with fail
  refine ⟨trivial, rfl, (callsIn_wide.2 (enums_any c _)).mono ?_⟩
  rintro e w2 ⟨rfl, rfl⟩
  obtain ⟨wL, hwL⟩ : ∃ X, X = ((((w.alloc (.cells #[.string s] 9)).alloc (.cells #[.int .u32 0] 24)).alloc (.cells #[.bool false] 4)).alloc (.cells #[.int .u8 c] 5)) := ⟨_, rfl⟩
  have hsL : wL.heap.size = w.heap.size + 4 := by rw [hwL]; simp
  have hbL : Below w.heap.size w wL := by rw [hwL]; exact (((((Below.refl _ w).alloc (Nat.le_refl _) _).alloc (by simp) _).alloc (by simp; omega) _).alloc (by simp; omega) _)
  have k0 : wL.heap[w.heap.size]? = some (.cells #[.string s] 9 (0, 0)) := by rw [hwL]; exact allocOld (allocOld (allocOld (allocNew w _ rfl) _) _) _
  have k1 : wL.heap[w.heap.size + 1]? = some (.cells #[.int .u32 0] 24 (0, 0)) := by rw [hwL]; exact allocOld (allocOld (allocNew _ _ (by simp)) _) _
  have k2 : wL.heap[w.heap.size + 2]? = some (.cells #[.bool false] 4 (0, 0)) := by rw [hwL]; exact allocOld (allocNew _ _ (by simp)) _
  have k3 : wL.heap[w.heap.size + 3]? = some (.cells #[.int .u8 c] 5 (0, 0)) := by rw [hwL]; exact allocNew _ _ (by simp)
  gi_wp2_with fail
  rw [← hwL]
  clear hwL
  simp only [Nat.add_assoc, Nat.reduceAdd]
  refine wp_tells rfl (enters_of Try.func24 (by kernel_rfl) rfl) (enums_tells c w.heap.size (fun _ => False) wL (w.heap.size + 3) k3) (by omega) (fun _ => rfl)
    (EnumNamedI s w) (EnumNamedX s w) (by rw [hsL]; exact EnumNamedI_own s w) (fun c => by rw [hsL]; exact EnumNamedX_own s w c)
    ⟨⟨hbL, by omega⟩, k0, k1, k2, fun q hq => by simp at hq⟩
    (fun pre x a' W => a' = { tmps := #[.int .u8 c, .string s, undef, .pointer (some ⟨w.heap.size, 0, none⟩), .pointer (some ⟨w.heap.size + 1, 0, none⟩), .pointer (some ⟨w.heap.size + 2, 0, none⟩), .int .u32 x.1, .string x.2, .int .u8 c, .func (.func 24) #[] #[.pointer (some ⟨w.heap.size + 3, 0, none⟩)], .int .u32 x.1, .string x.2, undef, undef, undef, undef], defers := [] })
    ?hAx ?assign ?body ?done ?stop
  case hAx =>
    rintro pre x a' s W W' row h hg hr
    exact h
  case assign =>
    rintro l pre x W K hI hV hK
    simp only [enumV]
    gi_wp2
    exact hK _ _ (KeepsFrom.refl _ _) (Kept.refl _ _ _) hI rfl
  case body =>
    rintro l pre x a' W hl' ⟨r, hr⟩ ⟨⟨h1, hlt⟩, h2, h3, h4, h6⟩ rfl
    obtain ⟨c0, _⟩ := oneCell h2
    obtain ⟨c2, f2⟩ := oneCell h3
    obtain ⟨c3, f3⟩ := oneCell h4
    have go : (x.2.toList == s.toList) = false → KeepsFrom wL.heap.size W W ∧ Kept w.heap.size (fun _ => False) W W ∧ EnumNamedI s w (pre ++ [x]) W := fun hno =>
      ⟨KeepsFrom.refl _ _, Kept.refl _ _ _, ⟨h1, hlt⟩, h2, h3, h4, fun q hq => by
        rcases List.mem_append.1 hq with h | h
        · exact h6 q h
        · simp at h; subst h; exact hno⟩
    have out : (x.2.toList == s.toList) = true → KeepsFrom wL.heap.size W ((W.setCell ⟨w.heap.size + 1, 0, none⟩ (.int .u32 x.1)).setCell ⟨w.heap.size + 2, 0, none⟩ (.bool true)) ∧ EnumNamedX s w .ret (pre ++ [x]) ((W.setCell ⟨w.heap.size + 1, 0, none⟩ (.int .u32 x.1)).setCell ⟨w.heap.size + 2, 0, none⟩ (.bool true)) := fun hyes =>
      ⟨((KeepsOthers.setCell _ _ _).trans (KeepsOthers.setCell _ _ _)).from _, rfl, ⟨(h1.setCell (by simp) _).setCell (by simp) _, by simpa [World.setCell] using hlt⟩, pre, x, rfl, h6, hyes, setFar (oneSet h3 _) (by omega) _ _, oneSet (setFar h4 (by omega) _ _) _⟩
    clear h2 h3 h4 h6 h1
    cases hoe : (x.2.toList == s.toList) with
    | true =>
      have hyes := out hoe
      clear go out
      gi_wp2
      first | exact hyes | (rw [hsL] at hyes; exact hyes)
    | false =>
      have hno := go hoe
      clear go out
      gi_wp2
      first | exact hno | (rw [hsL] at hno; exact hno)
  case done =>
    rintro D xs W hD rfl ⟨⟨h1, hlt⟩, h2, h3, h4, h6⟩ hK
    have hnone : (enumsL c).find? (fun x => (x.2.toList == s.toList)) = none := List.find?_eq_none.2 (fun q hq => by rw [h6 q hq]; simp)
    obtain ⟨c2, f2⟩ := oneCell h3
    obtain ⟨c3, f3⟩ := oneCell h4
    obtain ⟨Y, hY⟩ : ∃ Y, Y = (W.setCell ⟨w.heap.size + 1, 0, none⟩ (.int .u32 0)).setCell ⟨w.heap.size + 2, 0, none⟩ (.bool false) := ⟨_, rfl⟩
    have hKY : Y.heap[D]? = some (.deferred (some [])) := by rw [hY]; exact ((KeepsOthers.setCell _ _ _).trans (KeepsOthers.setCell _ _ _)).same D _ hK rfl
    have hbY : Below w.heap.size w Y := by rw [hY]; exact (h1.setCell (by simp) _).setCell (by simp) _
    have y2 : Y.heap[w.heap.size + 1]? = some (.cells #[.int .u32 0] 24 (0, 0)) := by rw [hY]; exact setFar (oneSet h3 _) (by omega) _ _
    have y3 : Y.heap[w.heap.size + 2]? = some (.cells #[.bool false] 4 (0, 0)) := by rw [hY]; exact oneSet (setFar h4 (by omega) _ _) _
    have hput := grownBy_putObj' Y D (.deferred none)
    have hpr : ∀ r, some D = some r → ∃ o : Obj, Y.heap[r]? = some o ∧ o.isCells = false := fun r e => by cases e; exact ⟨_, hKY, rfl⟩
    have r0 := cell_kept (W := Y) (oneCell y2).1 hput hpr
    have r1 := cell_kept (W := Y) (oneCell y3).1 hput hpr
    have hbE : Below w.heap.size w (Y.putObj D (.deferred none)) := hbY.trans (belowK_b (w := w) (Nat.le_refl _) Y D _ _ (by omega) hKY rfl rfl)
    clear h1 h2 h3 h4 h6 y2 y3 hput hpr hbY
    gi_wp2_with fail
    rw [← hY]
    refine ⟨by simp, .inl ⟨_, _, rfl, run_takeDeferred hKY, ?_⟩⟩
    exact ⟨.tuple #[.int .u32 0, .bool false], by simp [results, Try.results12, go_sem, r0, r1], by rw [(named_list hnone).1, (named_list hnone).2], hbE⟩
  case stop =>
    rintro D c' pre W hD hpre ⟨rfl, ⟨h1, hlt⟩, pre', x, rfl, h3, h4, h5, h6⟩ hK
    have hsome : (enumsL c).find? (fun x => (x.2.toList == s.toList)) = some x := by
      obtain ⟨s, hs⟩ := hpre
      rw [← hs, List.append_assoc, List.find?_append, List.find?_eq_none.2 (fun q hq => by rw [h3 q hq]; simp)]
      simp [h4]
    have hput := grownBy_putObj' W D (.deferred none)
    have hpr : ∀ r, some D = some r → ∃ o : Obj, W.heap[r]? = some o ∧ o.isCells = false := fun r e => by cases e; exact ⟨_, hK, rfl⟩
    have r0 := cell_kept (W := W) (oneCell h5).1 hput hpr
    have r1 := cell_kept (W := W) (oneCell h6).1 hput hpr
    have hbE : Below w.heap.size w (W.putObj D (.deferred none)) := h1.trans (belowK_b (w := w) (Nat.le_refl _) W D _ _ (by omega) hK rfl rfl)
    clear h1 h5 h6 hput hpr
    gi_wp2_with fail
    refine ⟨by simp, .inl ⟨_, _, rfl, run_takeDeferred hK, ?_⟩⟩
    exact ⟨.tuple #[.int .u32 x.1, .bool true], by simp [results, Try.results12, go_sem, r0, r1], by rw [(named_list_some hsome).1, (named_list_some hsome).2], hbE⟩

end Go.Proofs.Ytjpbiakbjpiceab
