/-
  What Find of frame returns: the place of the first instruction of an operation, from a place on.
-/
import Derived.RangeFuncNested
import Derived.RangeFuncBound
import Derived.RangeFuncCalls
import Derived.RangeFuncLeaves
import Derived.Shelf.Abstract
import Derived.Shelf.RegionOpen
import Derived.WalkKit
import Derived.OwnWalkIn
import Derived.TacticsInMore
import Derived.LoopNIn
import Derived.LoopIn
import Derived.Test.YtjpbiakbjpiceabFrame
import Derived.Test.YtjpbiakbjpiceabFrameParts
import Derived.Test.YtjpbiakbjpiceabFrameRead
namespace Go.Proofs.Ytjpbiakbjpiceab
open Go.RowKit Go.Shelf
attribute [local go_sem] Oper.semAt_some

/-- Between two rounds of Find. -/
def FindI (zs : List Int) (w : World) (op from_ : Int) (pre : List Nat) (W : World) : Prop :=
  (Below w.heap.size w W ∧ w.heap.size + 5 ≤ W.heap.size) ∧ W.heap[w.heap.size]? = some (.cells #[.int .u16 op] 31 (0, 0)) ∧ W.heap[w.heap.size + 1]? = some (.cells #[.int .i64 from_] 3 (0, 0)) ∧
  W.heap[w.heap.size + 2]? = some (.cells #[.int .i64 0] 3 (0, 0)) ∧ W.heap[w.heap.size + 3]? = some (.cells #[.bool false] 4 (0, 0)) ∧ ∀ q ∈ pre, isAt zs op from_ q = false
/-- Behind the round that left. -/
def FindX (zs : List Int) (w : World) (op from_ : Int) (c : Code) (pre : List Nat) (W : World) : Prop :=
  c = .ret ∧ (Below w.heap.size w W ∧ w.heap.size + 5 ≤ W.heap.size) ∧ ∃ (pre' : List Nat) (x : Nat), pre = pre' ++ [x] ∧ (∀ q ∈ pre', isAt zs op from_ q = false) ∧ isAt zs op from_ x = true ∧
    W.heap[w.heap.size + 2]? = some (.cells #[.int .i64 x] 3 (0, 0)) ∧ W.heap[w.heap.size + 3]? = some (.cells #[.bool true] 4 (0, 0))

theorem findI_own (zs : List Int) (w : World) (op from_ : Int) : OwnFrom (w.heap.size + 5) (FindI zs w op from_) := by
  rintro pre W W' row ⟨h1, h2, h3, h4, h5, h6⟩ hg hr
  exact ⟨⟨below_stay h1.1 (Nat.le_refl _) (by omega) hg hr, Nat.le_trans h1.2 hg.size⟩, cells_stay h2 hg hr, cells_stay h3 hg hr, cells_stay h4 hg hr, cells_stay h5 hg hr, h6⟩
theorem findX_own (zs : List Int) (w : World) (op from_ : Int) (c : Code) : OwnFrom (w.heap.size + 5) (FindX zs w op from_ c) := by
  rintro pre W W' row ⟨h0, h1, pre', x, h2, h3, h4, h5, h6⟩ hg hr
  exact ⟨h0, ⟨below_stay h1.1 (Nat.le_refl _) (by omega) hg hr, Nat.le_trans h1.2 hg.size⟩, pre', x, h2, h3, h4, cells_stay h5 hg hr, cells_stay h6 hg hr⟩

theorem one_cell {w : World} {g T : Nat} {v : Value} (h : w.heap[g]? = some (.cells #[v] T (0, 0))) : w.cell? ⟨g, 0, none⟩ = some v ∧ w.frozen? ⟨g, 0, none⟩ = false := by
  constructor <;> simp [World.cell?, World.frozen?, h]
theorem one_set {w : World} {g T : Nat} {v : Value} (h : w.heap[g]? = some (.cells #[v] T (0, 0))) (u : Value) : (w.setCell ⟨g, 0, none⟩ u).heap[g]? = some (.cells #[u] T (0, 0)) := by
  simp [World.setCell, Array.getElem?_modify, h]
theorem set_far {w : World} {g k : Nat} {o : Obj} (h : w.heap[k]? = some o) (hne : k ≠ g) (u : Value) : (w.setCell ⟨g, 0, none⟩ u).heap[k]? = some o := (Below.heap_setCell _ _ _ _ (by simpa using hne)).trans h

set_option maxRecDepth 100000 in
set_option maxHeartbeats 4000000 in
theorem findC : FindC 23 := by
  intro a n cap zs op from_ w ha hl hw hn hc ho0 ho1 hf0 hf1
  refine (callsIn_wide (n := 0)).1 ?_
  refine callsIn_of_wp_marks Try.func23 rfl trivial ?_ rfl
  simp only [Try.ntmps23, List.size_toArray, List.length_cons, List.length_nil, Nat.reduceAdd, Nat.reduceSub, Array.replicate_succ, Array.replicate_zero, List.push_toArray, List.append_toArray, List.nil_append, List.cons_append]
  gi_wp2_with fail
  refine ⟨trivial, rfl, (callsIn_wide.2 (parts_any a n cap _)).mono ?_⟩
  rintro e w2 ⟨rfl, rfl⟩
  obtain ⟨wL, hwL⟩ : ∃ X, X = (((((w.alloc (.cells #[.int .u16 op] 31)).alloc (.cells #[.int .i64 from_] 3)).alloc (.cells #[.int .i64 0] 3)).alloc (.cells #[.bool false] 4)).alloc (.cells #[.slice a n cap] 47)) := ⟨_, rfl⟩
  have hsL : wL.heap.size = w.heap.size + 5 := by rw [hwL]; simp
  have hbL : Below w.heap.size w wL := by rw [hwL]; exact ((((((Below.refl _ w).alloc (Nat.le_refl _) _).alloc (by simp) _).alloc (by simp; omega) _).alloc (by simp; omega) _).alloc (by simp; omega) _)
  obtain ⟨k0, k1, k2, k3, k4⟩ : wL.heap[w.heap.size]? = some (.cells #[.int .u16 op] 31 (0, 0)) ∧ wL.heap[w.heap.size + 1]? = some (.cells #[.int .i64 from_] 3 (0, 0)) ∧ wL.heap[w.heap.size + 2]? = some (.cells #[.int .i64 0] 3 (0, 0)) ∧ wL.heap[w.heap.size + 3]? = some (.cells #[.bool false] 4 (0, 0)) ∧ wL.heap[w.heap.size + 4]? = some (.cells #[.slice a n cap] 47 (0, 0)) := by
    rw [hwL]; exact heap_five w _ _ _ _ _
  gi_wp2_with fail
  rw [← hwL]
  clear hwL
  simp only [Nat.add_assoc, Nat.reduceAdd]
  refine wp_tells rfl (enters_of Try.func52 (by kernel_rfl) rfl) (parts_tells a n cap zs w ha hl hw hn hc (fun t => t = 47) rfl wL (w.heap.size + 4) hbL k4) (by omega) (fun _ => rfl)
    (FindI zs w op from_) (FindX zs w op from_) (by rw [hsL]; exact findI_own zs w op from_) (fun c => by rw [hsL]; exact findX_own zs w op from_ c)
    ⟨⟨hbL, by omega⟩, k0, k1, k2, k3, fun q hq => by simp at hq⟩
    (fun pre x a' W => ∃ Bx, w.heap.size + 5 ≤ Bx ∧ W.heap[Bx]? = some (.cells #[.int .u16 (opI zs x), .slice (further a cap (x + 1)) (x + cntN zs x - (x + 1)) (cap - (x + 1))] 68 (0, 0)) ∧ a' = { tmps := #[.slice a n cap, .int .u16 op, .int .i64 from_, undef, .pointer (some ⟨w.heap.size, 0, none⟩), .pointer (some ⟨w.heap.size + 1, 0, none⟩), .pointer (some ⟨w.heap.size + 2, 0, none⟩), .pointer (some ⟨w.heap.size + 3, 0, none⟩), .int .i64 x, .pointer (some ⟨Bx, 0, none⟩), .slice a n cap, .func (.func 52) #[] #[.pointer (some ⟨w.heap.size + 4, 0, none⟩)], .int .i64 x, .agg #[.int .u16 (opI zs x), .slice (further a cap (x + 1)) (x + cntN zs x - (x + 1)) (cap - (x + 1))], undef, undef, undef, undef, undef, undef, undef, undef, undef, undef], defers := [] })
    ?hAx ?assign ?body ?done ?stop
  case hAx =>
    rintro pre x a' s W W' row ⟨Bx, h1, h2, h3⟩ hg hr
    exact ⟨Bx, h1, cells_stay h2 hg hr, h3⟩
  case assign =>
    rintro l pre x W K hI hV hK
    have hbel : ∀ o, Below W.heap.size W (W.alloc o) := fun o => (Below.refl _ W).alloc (Nat.le_refl _) o
    have hlt := hI.1.2
    simp only [partV]
    gi_wp2
    exact hK _ _ (KeepsFrom.of_below (hbel _)) (Kept.of_below (hbel _) (by omega)) (OwnFrom.below (findI_own zs w op from_) hI (hbel _)) ⟨W.heap.size, hlt, heap_alloc_new W _, rfl⟩
  case body =>
    rintro l pre x a' W hl' ⟨r, hr⟩ ⟨⟨h1, hlt⟩, h2, h3, h4, h5, h6⟩ ⟨Bx, hBx, hx, rfl⟩
    obtain ⟨c0, _⟩ := one_cell h2
    obtain ⟨c1, _⟩ := one_cell h3
    obtain ⟨c2, f2⟩ := one_cell h4
    obtain ⟨c3, f3⟩ := one_cell h5
    obtain ⟨x0, x1, _⟩ := cell_of_two hx
    have HIS : Hid (isAt zs op from_ x = (decide (from_ ≤ (x : Int)) && (opI zs x == op))) := rfl
    have go : isAt zs op from_ x = false → KeepsFrom wL.heap.size W W ∧ Kept w.heap.size (fun t => t = 47) W W ∧ FindI zs w op from_ (pre ++ [x]) W := fun hno =>
      ⟨KeepsFrom.refl _ _, Kept.refl _ _ _, ⟨h1, hlt⟩, h2, h3, h4, h5, fun q hq => by
        rcases List.mem_append.1 hq with h | h
        · exact h6 q h
        · simp at h; subst h; exact hno⟩
    have out : isAt zs op from_ x = true → KeepsFrom wL.heap.size W ((W.setCell ⟨w.heap.size + 2, 0, none⟩ (.int .i64 x)).setCell ⟨w.heap.size + 3, 0, none⟩ (.bool true)) ∧ FindX zs w op from_ .ret (pre ++ [x]) ((W.setCell ⟨w.heap.size + 2, 0, none⟩ (.int .i64 x)).setCell ⟨w.heap.size + 3, 0, none⟩ (.bool true)) := fun hyes =>
      ⟨((KeepsOthers.setCell _ _ _).trans (KeepsOthers.setCell _ _ _)).from _, rfl, ⟨(h1.setCell (by simp) _).setCell (by simp) _, by simpa [World.setCell] using hlt⟩, pre, x, rfl, h6, hyes, set_far (one_set h4 _) (by omega) _, one_set (set_far h5 (by omega) _) _⟩
    clear h2 h3 h4 h5 h6 h1 hx
    generalize opI zs x = o at *
    by_cases hge : from_ ≤ (x : Int)
    · have b1 : decide (from_ ≤ (x : Int)) = true := decide_eq_true hge
      cases hoe : (o == op) with
      | true =>
        have hyes := out (by rw [HIS.out, b1, hoe]; rfl)
        clear go out
        gi_wp2
        first | exact hyes | (rw [hsL] at hyes; exact hyes)
      | false =>
        have hno := go (by rw [HIS.out, hoe, Bool.and_false])
        clear go out
        gi_wp2
        first | exact hno | (rw [hsL] at hno; exact hno)
    · have b1 : decide (from_ ≤ (x : Int)) = false := decide_eq_false hge
      have hno := go (by rw [HIS.out, b1, Bool.false_and])
      clear go out
      gi_wp2
      first | exact hno | (rw [hsL] at hno; exact hno)
  case done =>
    rintro D xs W hD rfl ⟨⟨h1, hlt⟩, h2, h3, h4, h5, h6⟩ hK
    have hnone : findP zs op from_ = none := List.find?_eq_none.2 (fun q hq => by rw [h6 q hq]; simp)
    obtain ⟨c2, f2⟩ := one_cell h4
    obtain ⟨c3, f3⟩ := one_cell h5
    obtain ⟨Y, hY⟩ : ∃ Y, Y = (W.setCell ⟨w.heap.size + 2, 0, none⟩ (.int .i64 0)).setCell ⟨w.heap.size + 3, 0, none⟩ (.bool false) := ⟨_, rfl⟩
    have hKY : Y.heap[D]? = some (.deferred (some [])) := by rw [hY]; exact ((KeepsOthers.setCell _ _ _).trans (KeepsOthers.setCell _ _ _)).same D _ hK rfl
    have hbY : Below w.heap.size w Y := by rw [hY]; exact (h1.setCell (by simp) _).setCell (by simp) _
    have y2 : Y.heap[w.heap.size + 2]? = some (.cells #[.int .i64 0] 3 (0, 0)) := by rw [hY]; exact set_far (one_set h4 _) (by omega) _
    have y3 : Y.heap[w.heap.size + 3]? = some (.cells #[.bool false] 4 (0, 0)) := by rw [hY]; exact one_set (set_far h5 (by omega) _) _
    have hput := grownBy_putObj' Y D (.deferred none)
    have hpr : ∀ r, some D = some r → ∃ o : Obj, Y.heap[r]? = some o ∧ o.isCells = false := fun r e => by cases e; exact ⟨_, hKY, rfl⟩
    have r0 := cell_kept (W := Y) (one_cell y2).1 hput hpr
    have r1 := cell_kept (W := Y) (one_cell y3).1 hput hpr
    have hbE : Below w.heap.size w (Y.putObj D (.deferred none)) := hbY.trans (belowK_b (w := w) (Nat.le_refl _) Y D _ _ (by omega) hKY rfl rfl)
    clear h1 h2 h3 h4 h5 h6 y2 y3 hput hpr hbY
    gi_wp2_with fail
    rw [← hY]
    refine ⟨by simp, .inl ⟨_, _, rfl, run_takeDeferred hKY, ?_⟩⟩
    exact ⟨.tuple #[.int .i64 0, .bool false], by simp [results, Try.results23, go_sem, r0, r1], by rw [findAt_none hnone, findIs_none hnone], hbE⟩
  case stop =>
    rintro D c pre W hD hpre ⟨rfl, ⟨h1, hlt⟩, pre', x, rfl, h3, h4, h5, h6⟩ hK
    have hsome : findP zs op from_ = some x := by
      obtain ⟨s, hs⟩ := hpre
      unfold findP
      rw [← hs, List.append_assoc, List.find?_append, List.find?_eq_none.2 (fun q hq => by rw [h3 q hq]; simp)]
      simp [h4]
    have hput := grownBy_putObj' W D (.deferred none)
    have hpr : ∀ r, some D = some r → ∃ o : Obj, W.heap[r]? = some o ∧ o.isCells = false := fun r e => by cases e; exact ⟨_, hK, rfl⟩
    have r0 := cell_kept (W := W) (one_cell h5).1 hput hpr
    have r1 := cell_kept (W := W) (one_cell h6).1 hput hpr
    have hbE : Below w.heap.size w (W.putObj D (.deferred none)) := h1.trans (belowK_b (w := w) (Nat.le_refl _) W D _ _ (by omega) hK rfl rfl)
    clear h1 h5 h6 hput hpr
    gi_wp2_with fail
    refine ⟨by simp, .inl ⟨_, _, rfl, run_takeDeferred hK, ?_⟩⟩
    exact ⟨.tuple #[.int .i64 x, .bool true], by simp [results, Try.results23, go_sem, r0, r1], by rw [findAt_some hsome, findIs_some hsome], hbE⟩

end Go.Proofs.Ytjpbiakbjpiceab
