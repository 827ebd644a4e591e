/-
  Texts laid together in one: Ref05Parts.
-/
import Derived.WalkSpells
import Derived.WalkMore
import Derived.BigRegion
import Derived.Deep.MidRow
import Derived.Test.YtckhgdjcofpijaaProg
import Derived.Test.YtckhgdjcofpijaaB22
import Derived.Test.YtckhgdjcofpijaaB18
/-
  The document's Parts.
-/
namespace Go.Proofs.Ytckhgdjcofpijaa
open Go.RowKit
set_option linter.unusedVariables false
set_option linter.unusedSimpArgs false
set_option maxRecDepth 10000

/-- How many of the first k have the part p. -/
def ownP (l : List InstT) (p : Nat) : Nat → Nat
  | 0 => 0
  | k + 1 => ownP l p k + (if partI (nthI l k) = p then 1 else 0)
theorem cnt_own (l : List InstT) (p : Nat) : ∀ k, cntP l (p + 1) k = cntP l p k + ownP l p k
  | 0 => rfl
  | k + 1 => by
    rw [cntP, cntP, ownP, cnt_own l p k]
    by_cases h1 : partI (nthI l k) < p
    · rw [if_pos (by omega), if_pos h1, if_neg (by omega)]; omega
    · by_cases h2 : partI (nthI l k) = p
      · rw [if_pos (by omega), if_neg h1, if_pos h2]; omega
      · rw [if_neg (by omega), if_neg h1, if_neg h2]; omega
theorem ownP_le (l : List InstT) (p : Nat) : ∀ k, ownP l p k ≤ k
  | 0 => Nat.le_refl _
  | k + 1 => by have := ownP_le l p k; rw [ownP]; split <;> omega
/-- The places of the first parts. -/
def spanTo (l : List InstT) (n k i : Nat) : Int := if i < 2 * k then cntP l ((i + 1) / 2) n else 0
/-- The box of the places. -/
def SpanB (W : World) (B : Nat) (f : Nat → Int) : Prop := ∃ cs : Array Value, W.heap[B]? = some (.cells cs 35 (0, 0)) ∧ cs.size = 20 ∧ ∀ i, i < 20 → cs[i]? = some (.int .i64 (f i))
theorem SpanB.lt {W : World} {B : Nat} {f : Nat → Int} (h : SpanB W B f) : B < W.heap.size := by obtain ⟨cs, h1, _⟩ := h; exact (Array.getElem?_eq_some_iff.1 h1).1
theorem SpanB.cell {W : World} {B : Nat} {f : Nat → Int} (h : SpanB W B f) (i : Nat) (hi : i < 20) : W.cell? ⟨B, i, none⟩ = some (.int .i64 (f i)) ∧ W.frozen? ⟨B, i, none⟩ = false := by
  obtain ⟨cs, h1, _, h3⟩ := h
  exact ⟨by simp only [World.cell?, h1]; exact h3 i hi, by simp [World.frozen?, h1]⟩
theorem SpanB.set {W : World} {B : Nat} {f : Nat → Int} (h : SpanB W B f) (i : Nat) (x : Int) : SpanB (W.setCell ⟨B, i, none⟩ (.int .i64 x)) B (fun j => if j = i then x else f j) := by
  obtain ⟨cs, h1, h2, h3⟩ := h
  refine ⟨cs.setIfInBounds i (.int .i64 x), by simp [World.setCell, Array.getElem?_modify, h1], by simp [h2], fun j hj => ?_⟩
  by_cases e : j = i
  · subst e; rw [Array.getElem?_setIfInBounds_self_of_lt (by omega)]; simp
  · rw [Array.getElem?_setIfInBounds_ne (fun e2 => e e2.symm), h3 j hj]; simp [e]
theorem SpanB.block {W W' : World} {B : Nat} {f : Nat → Int} (h : SpanB W B f) (hb : W'.heap[B]? = W.heap[B]?) : SpanB W' B f := by
  obtain ⟨cs, h1, h2⟩ := h; exact ⟨cs, hb.trans h1, h2⟩
theorem SpanB.congr {W : World} {B : Nat} {f g : Nat → Int} (h : SpanB W B f) (hfg : ∀ i, i < 20 → g i = f i) : SpanB W B g := by
  obtain ⟨cs, h1, h2, h3⟩ := h; exact ⟨cs, h1, h2, fun i hi => by rw [hfg i hi]; exact h3 i hi⟩
theorem SpanB.row {W : World} {B : Nat} {f : Nat → Int} (h : SpanB W B f) : W.heap[B]? = some (.cells #[.int .i64 (f 0), .int .i64 (f 1), .int .i64 (f 2), .int .i64 (f 3), .int .i64 (f 4), .int .i64 (f 5), .int .i64 (f 6), .int .i64 (f 7), .int .i64 (f 8), .int .i64 (f 9), .int .i64 (f 10), .int .i64 (f 11), .int .i64 (f 12), .int .i64 (f 13), .int .i64 (f 14), .int .i64 (f 15), .int .i64 (f 16), .int .i64 (f 17), .int .i64 (f 18), .int .i64 (f 19)] 35 (0, 0)) := by
  obtain ⟨cs, h1, h2, h3⟩ := h
  have e : cs = #[.int .i64 (f 0), .int .i64 (f 1), .int .i64 (f 2), .int .i64 (f 3), .int .i64 (f 4), .int .i64 (f 5), .int .i64 (f 6), .int .i64 (f 7), .int .i64 (f 8), .int .i64 (f 9), .int .i64 (f 10), .int .i64 (f 11), .int .i64 (f 12), .int .i64 (f 13), .int .i64 (f 14), .int .i64 (f 15), .int .i64 (f 16), .int .i64 (f 17), .int .i64 (f 18), .int .i64 (f 19)] := by
    apply Array.ext_getElem?
    intro i
    match i with
    | 0 => exact h3 0 (by omega)
    | 1 => exact h3 1 (by omega)
    | 2 => exact h3 2 (by omega)
    | 3 => exact h3 3 (by omega)
    | 4 => exact h3 4 (by omega)
    | 5 => exact h3 5 (by omega)
    | 6 => exact h3 6 (by omega)
    | 7 => exact h3 7 (by omega)
    | 8 => exact h3 8 (by omega)
    | 9 => exact h3 9 (by omega)
    | 10 => exact h3 10 (by omega)
    | 11 => exact h3 11 (by omega)
    | 12 => exact h3 12 (by omega)
    | 13 => exact h3 13 (by omega)
    | 14 => exact h3 14 (by omega)
    | 15 => exact h3 15 (by omega)
    | 16 => exact h3 16 (by omega)
    | 17 => exact h3 17 (by omega)
    | 18 => exact h3 18 (by omega)
    | 19 => exact h3 19 (by omega)
    | m + 20 => rw [Array.getElem?_eq_none (by omega), Array.getElem?_eq_none (by simp)]
  rw [h1, e]
theorem span_next (l : List InstT) (n k i : Nat) : spanTo l n (k + 1) i = if i = k * 2 + 1 then ((cntP l k n + ownP l k n : Nat) : Int) else if i = k * 2 then ((cntP l k n : Nat) : Int) else spanTo l n k i := by
  unfold spanTo
  by_cases e1 : i = k * 2 + 1
  · subst e1; rw [if_pos (by omega), if_pos rfl, show (k * 2 + 1 + 1) / 2 = k + 1 by omega, cnt_own]
  · by_cases e2 : i = k * 2
    · subst e2; rw [if_pos (by omega), if_neg e1, if_pos rfl, show (k * 2 + 1) / 2 = k by omega]
    · rw [if_neg e1, if_neg e2]
      by_cases h : i < 2 * k
      · rw [if_pos (by omega), if_pos h]
      · rw [if_neg (by omega), if_neg h]

set_option maxHeartbeats 8000000 in
theorem refParts5_any (gen bnd : Int) (a : Option Addr) (n c : Nat) (l : List InstT) (w : World) (hv : InstsV w a l) (hok : InstsOk l) (hl : l.length = n) (hn : 40 * n ≤ 140737488351232) (b0 : 0 ≤ bnd) (b1 : bnd < 4294967296) :
    Calls Try.prog 12 #[modV gen bnd a n c] w fun e w' => e = .returned (.tuple #[partsV (partsF bnd l), .agg #[.int .i64 (layE bnd l).1, .int .i64 ((layE bnd l).2 : Int)]]) ∧ Below w.heap.size w w' := by
  have hb0 : Below w.heap.size w ((((w.alloc (.cells #[.int .u32 gen, .int .u32 bnd, .slice a n c] 25)).alloc (.cells #[.int .i64 0, .int .i64 0, .int .i64 0, .int .i64 0, .int .i64 0, .int .i64 0, .int .i64 0, .int .i64 0, .int .i64 0, .int .i64 0, .int .i64 0, .int .i64 0, .int .i64 0, .int .i64 0, .int .i64 0, .int .i64 0, .int .i64 0, .int .i64 0, .int .i64 0, .int .i64 0] 35)).alloc (.cells #[.int .i64 0, .int .i64 0] 29)).alloc (.cells #[.int .i64 0, .int .i64 0, .int .i64 0, .int .i64 0, .int .i64 0, .int .i64 0, .int .i64 0, .int .i64 0, .int .i64 0, .int .i64 0, .int .i64 0, .int .i64 0, .int .i64 0, .int .i64 0, .int .i64 0, .int .i64 0, .int .i64 0, .int .i64 0, .int .i64 0, .int .i64 0] 35)) := ((((Below.refl _ w).alloc (Nat.le_refl _) _).alloc (by simp) _).alloc (by simp; omega) _).alloc (by simp; omega) _
  have hC := refCheck5_any gen bnd a n c l _ (hv.below hb0) hok hl hn b0 b1
  have HMB : Hid (((((w.alloc (.cells #[.int .u32 gen, .int .u32 bnd, .slice a n c] 25)).alloc (.cells #[.int .i64 0, .int .i64 0, .int .i64 0, .int .i64 0, .int .i64 0, .int .i64 0, .int .i64 0, .int .i64 0, .int .i64 0, .int .i64 0, .int .i64 0, .int .i64 0, .int .i64 0, .int .i64 0, .int .i64 0, .int .i64 0, .int .i64 0, .int .i64 0, .int .i64 0, .int .i64 0] 35)).alloc (.cells #[.int .i64 0, .int .i64 0] 29)).alloc (.cells #[.int .i64 0, .int .i64 0, .int .i64 0, .int .i64 0, .int .i64 0, .int .i64 0, .int .i64 0, .int .i64 0, .int .i64 0, .int .i64 0, .int .i64 0, .int .i64 0, .int .i64 0, .int .i64 0, .int .i64 0, .int .i64 0, .int .i64 0, .int .i64 0, .int .i64 0, .int .i64 0] 35)).heap[w.heap.size]? = some (.cells #[.int .u32 gen, .int .u32 bnd, .slice a n c] 25 (0, 0))) := by
    show _ = _
    rw [Below.heap_alloc _ _ _ (by simp <;> omega), Below.heap_alloc _ _ _ (by simp <;> omega), Below.heap_alloc _ _ _ (by simp)]; exact heap_alloc_new w _
  have HZB : Hid (((((w.alloc (.cells #[.int .u32 gen, .int .u32 bnd, .slice a n c] 25)).alloc (.cells #[.int .i64 0, .int .i64 0, .int .i64 0, .int .i64 0, .int .i64 0, .int .i64 0, .int .i64 0, .int .i64 0, .int .i64 0, .int .i64 0, .int .i64 0, .int .i64 0, .int .i64 0, .int .i64 0, .int .i64 0, .int .i64 0, .int .i64 0, .int .i64 0, .int .i64 0, .int .i64 0] 35)).alloc (.cells #[.int .i64 0, .int .i64 0] 29)).alloc (.cells #[.int .i64 0, .int .i64 0, .int .i64 0, .int .i64 0, .int .i64 0, .int .i64 0, .int .i64 0, .int .i64 0, .int .i64 0, .int .i64 0, .int .i64 0, .int .i64 0, .int .i64 0, .int .i64 0, .int .i64 0, .int .i64 0, .int .i64 0, .int .i64 0, .int .i64 0, .int .i64 0] 35)).heap[w.heap.size + 1]? = some (.cells #[.int .i64 0, .int .i64 0, .int .i64 0, .int .i64 0, .int .i64 0, .int .i64 0, .int .i64 0, .int .i64 0, .int .i64 0, .int .i64 0, .int .i64 0, .int .i64 0, .int .i64 0, .int .i64 0, .int .i64 0, .int .i64 0, .int .i64 0, .int .i64 0, .int .i64 0, .int .i64 0] 35 (0, 0))) := by
    have := heap_alloc_new (w.alloc (.cells #[.int .u32 gen, .int .u32 bnd, .slice a n c] 25)) (.cells #[.int .i64 0, .int .i64 0, .int .i64 0, .int .i64 0, .int .i64 0, .int .i64 0, .int .i64 0, .int .i64 0, .int .i64 0, .int .i64 0, .int .i64 0, .int .i64 0, .int .i64 0, .int .i64 0, .int .i64 0, .int .i64 0, .int .i64 0, .int .i64 0, .int .i64 0, .int .i64 0] 35)
    rw [World.size_alloc] at this
    exact ((Below.heap_alloc _ _ _ (by simp <;> omega)).trans (Below.heap_alloc _ _ _ (by simp))).trans this
  have HSB : Hid (((((w.alloc (.cells #[.int .u32 gen, .int .u32 bnd, .slice a n c] 25)).alloc (.cells #[.int .i64 0, .int .i64 0, .int .i64 0, .int .i64 0, .int .i64 0, .int .i64 0, .int .i64 0, .int .i64 0, .int .i64 0, .int .i64 0, .int .i64 0, .int .i64 0, .int .i64 0, .int .i64 0, .int .i64 0, .int .i64 0, .int .i64 0, .int .i64 0, .int .i64 0, .int .i64 0] 35)).alloc (.cells #[.int .i64 0, .int .i64 0] 29)).alloc (.cells #[.int .i64 0, .int .i64 0, .int .i64 0, .int .i64 0, .int .i64 0, .int .i64 0, .int .i64 0, .int .i64 0, .int .i64 0, .int .i64 0, .int .i64 0, .int .i64 0, .int .i64 0, .int .i64 0, .int .i64 0, .int .i64 0, .int .i64 0, .int .i64 0, .int .i64 0, .int .i64 0] 35)).heap[w.heap.size + 2]? = some (.cells #[.int .i64 0, .int .i64 0] 29 (0, 0))) := by
    have := heap_alloc_new ((w.alloc (.cells #[.int .u32 gen, .int .u32 bnd, .slice a n c] 25)).alloc (.cells #[.int .i64 0, .int .i64 0, .int .i64 0, .int .i64 0, .int .i64 0, .int .i64 0, .int .i64 0, .int .i64 0, .int .i64 0, .int .i64 0, .int .i64 0, .int .i64 0, .int .i64 0, .int .i64 0, .int .i64 0, .int .i64 0, .int .i64 0, .int .i64 0, .int .i64 0, .int .i64 0] 35)) (.cells #[.int .i64 0, .int .i64 0] 29)
    rw [World.size_alloc, World.size_alloc] at this
    exact (Below.heap_alloc _ _ _ (by simp)).trans this
  have HPB : Hid (((((w.alloc (.cells #[.int .u32 gen, .int .u32 bnd, .slice a n c] 25)).alloc (.cells #[.int .i64 0, .int .i64 0, .int .i64 0, .int .i64 0, .int .i64 0, .int .i64 0, .int .i64 0, .int .i64 0, .int .i64 0, .int .i64 0, .int .i64 0, .int .i64 0, .int .i64 0, .int .i64 0, .int .i64 0, .int .i64 0, .int .i64 0, .int .i64 0, .int .i64 0, .int .i64 0] 35)).alloc (.cells #[.int .i64 0, .int .i64 0] 29)).alloc (.cells #[.int .i64 0, .int .i64 0, .int .i64 0, .int .i64 0, .int .i64 0, .int .i64 0, .int .i64 0, .int .i64 0, .int .i64 0, .int .i64 0, .int .i64 0, .int .i64 0, .int .i64 0, .int .i64 0, .int .i64 0, .int .i64 0, .int .i64 0, .int .i64 0, .int .i64 0, .int .i64 0] 35)).heap[w.heap.size + 3]? = some (.cells #[.int .i64 0, .int .i64 0, .int .i64 0, .int .i64 0, .int .i64 0, .int .i64 0, .int .i64 0, .int .i64 0, .int .i64 0, .int .i64 0, .int .i64 0, .int .i64 0, .int .i64 0, .int .i64 0, .int .i64 0, .int .i64 0, .int .i64 0, .int .i64 0, .int .i64 0, .int .i64 0] 35 (0, 0))) := by
    have := heap_alloc_new (((w.alloc (.cells #[.int .u32 gen, .int .u32 bnd, .slice a n c] 25)).alloc (.cells #[.int .i64 0, .int .i64 0, .int .i64 0, .int .i64 0, .int .i64 0, .int .i64 0, .int .i64 0, .int .i64 0, .int .i64 0, .int .i64 0, .int .i64 0, .int .i64 0, .int .i64 0, .int .i64 0, .int .i64 0, .int .i64 0, .int .i64 0, .int .i64 0, .int .i64 0, .int .i64 0] 35)).alloc (.cells #[.int .i64 0, .int .i64 0] 29)) (.cells #[.int .i64 0, .int .i64 0, .int .i64 0, .int .i64 0, .int .i64 0, .int .i64 0, .int .i64 0, .int .i64 0, .int .i64 0, .int .i64 0, .int .i64 0, .int .i64 0, .int .i64 0, .int .i64 0, .int .i64 0, .int .i64 0, .int .i64 0, .int .i64 0, .int .i64 0, .int .i64 0] 35)
    rw [World.size_alloc, World.size_alloc, World.size_alloc] at this
    exact this
  have HLT : Hid (w.heap.size + 3 < ((((w.alloc (.cells #[.int .u32 gen, .int .u32 bnd, .slice a n c] 25)).alloc (.cells #[.int .i64 0, .int .i64 0, .int .i64 0, .int .i64 0, .int .i64 0, .int .i64 0, .int .i64 0, .int .i64 0, .int .i64 0, .int .i64 0, .int .i64 0, .int .i64 0, .int .i64 0, .int .i64 0, .int .i64 0, .int .i64 0, .int .i64 0, .int .i64 0, .int .i64 0, .int .i64 0] 35)).alloc (.cells #[.int .i64 0, .int .i64 0] 29)).alloc (.cells #[.int .i64 0, .int .i64 0, .int .i64 0, .int .i64 0, .int .i64 0, .int .i64 0, .int .i64 0, .int .i64 0, .int .i64 0, .int .i64 0, .int .i64 0, .int .i64 0, .int .i64 0, .int .i64 0, .int .i64 0, .int .i64 0, .int .i64 0, .int .i64 0, .int .i64 0, .int .i64 0] 35)).heap.size) := by show _ < _; simp
  have HB0 := hide hb0
  have HV := hide hv
  have HL := hide hl
  have HFL : Hid ((layE bnd l).1 = 0 → VarsOk l ∧ l.length ≤ 1048576) := fun h => by
    have hs : (shapeE bnd l).1 = 0 := by
      unfold layE at h
      by_cases h1 : (shapeE bnd l).1 = 0
      · exact h1
      · rw [if_pos h1] at h; exact absurd h h1
    exact ⟨fun k hk h59 => var_args (b := bnd) (shape_each hs k hk) h59, (shape_few hs).1⟩
  have HRET : Hid (∀ (a' : Act) (Z : World) (f : Nat → Int), slot a'.tmps 2 = .pointer (some ⟨w.heap.size + 1, 0, none⟩) → slot a'.tmps 3 = .pointer (some ⟨w.heap.size + 2, 0, none⟩) → a'.defers = [] → Z.heap[w.heap.size + 1]? = some (.cells #[.int .i64 (f 0), .int .i64 (f 1), .int .i64 (f 2), .int .i64 (f 3), .int .i64 (f 4), .int .i64 (f 5), .int .i64 (f 6), .int .i64 (f 7), .int .i64 (f 8), .int .i64 (f 9), .int .i64 (f 10), .int .i64 (f 11), .int .i64 (f 12), .int .i64 (f 13), .int .i64 (f 14), .int .i64 (f 15), .int .i64 (f 16), .int .i64 (f 17), .int .i64 (f 18), .int .i64 (f 19)] 35 (0, 0)) → Z.heap[w.heap.size + 2]? = some (.cells #[.int .i64 (layE bnd l).1, .int .i64 ((layE bnd l).2 : Int)] 29 (0, 0)) → Below w.heap.size w Z → (∀ i, i < 20 → f i = partsF bnd l i) →
      bodyPost Try.prog Try.f12 (fun e w' => e = .returned (.tuple #[partsV (partsF bnd l), .agg #[.int .i64 (layE bnd l).1, .int .i64 ((layE bnd l).2 : Int)]]) ∧ Below w.heap.size w w') .ret a' Z) := by
    intro a' Z f q2 q3 q4 q5 q6 q7 q8
    refine bodyPost_ret (v := .tuple #[partsV f, .agg #[.int .i64 (layE bnd l).1, .int .i64 ((layE bnd l).2 : Int)]]) ?_ q4 ⟨by rw [partsV_congr q8], q7⟩
    have r5 := run_loadVar_mid (P := Try.prog) Z (w.heap.size + 1) 0 35 [.int .i64 (f 0), .int .i64 (f 1), .int .i64 (f 2), .int .i64 (f 3), .int .i64 (f 4), .int .i64 (f 5), .int .i64 (f 6), .int .i64 (f 7), .int .i64 (f 8), .int .i64 (f 9), .int .i64 (f 10), .int .i64 (f 11), .int .i64 (f 12), .int .i64 (f 13), .int .i64 (f 14), .int .i64 (f 15), .int .i64 (f 16), .int .i64 (f 17), .int .i64 (f 18), .int .i64 (f 19)] _ (range_of_block q5) Try.underlying35 rfl (by kernel_rfl)
    have r6 := run_loadVar_mid (P := Try.prog) Z (w.heap.size + 2) 0 29 [.int .i64 (layE bnd l).1, .int .i64 ((layE bnd l).2 : Int)] _ (range_of_block q6) Try.underlying29 rfl (by kernel_rfl)
    have hG2 : a'.tmps.getD 2 undef = .pointer (some ⟨w.heap.size + 1, 0, none⟩) := q2
    have hG3 : a'.tmps.getD 3 undef = .pointer (some ⟨w.heap.size + 2, 0, none⟩) := q3
    simp only [results, Try.results12, List.mapM_toArray, List.mapM_cons, List.mapM_nil, hG2, hG3, asAddr, Sem.run_bind, Sem.run_pure, Result.andThen_ok, bind_assoc, pure_bind, Sem.run_map, map_pure, r5, r6]
    rfl
  have HPF1 : Hid ((layE bnd l).1 ≠ 0 → ∀ i, partsF bnd l i = 0) := fun h i => by unfold partsF; rw [if_pos h]
  have HPF2 : Hid ((layE bnd l).1 = 0 → ∀ i, partsF bnd l i = cntP l ((i + 1) / 2) l.length) := fun h i => by unfold partsF; rw [if_neg (by simpa using h)]
  generalize partsF bnd l = PFF at *
  generalize layE bnd l = L at *
  obtain ⟨e1, e2⟩ := L
  unfold modV at *
  clear hb0 hv hok hl
  go_enter Try.func12, Try.ntmps12
  go_wp2_with fail
  generalize (((w.alloc (.cells #[.int .u32 gen, .int .u32 bnd, .slice a n c] 25)).alloc (.cells #[.int .i64 0, .int .i64 0, .int .i64 0, .int .i64 0, .int .i64 0, .int .i64 0, .int .i64 0, .int .i64 0, .int .i64 0, .int .i64 0, .int .i64 0, .int .i64 0, .int .i64 0, .int .i64 0, .int .i64 0, .int .i64 0, .int .i64 0, .int .i64 0, .int .i64 0, .int .i64 0] 35)).alloc (.cells #[.int .i64 0, .int .i64 0] 29)).alloc (.cells #[.int .i64 0, .int .i64 0, .int .i64 0, .int .i64 0, .int .i64 0, .int .i64 0, .int .i64 0, .int .i64 0, .int .i64 0, .int .i64 0, .int .i64 0, .int .i64 0, .int .i64 0, .int .i64 0, .int .i64 0, .int .i64 0, .int .i64 0, .int .i64 0, .int .i64 0, .int .i64 0] 35) = W0 at *
  refine hC.mono ?_
  rintro e w1 ⟨rfl, hb1⟩
  have kl := HLT.out
  have kw : W0.heap.size ≤ w1.heap.size := hb1.size
  have hb2 : Below W0.heap.size W0 (w1.alloc (.cells #[.int .i64 e1, .int .i64 e2] 29)) := hb1.alloc hb1.size _
  have HB2 := hide hb2
  have HSN := hide (heap_alloc_new w1 (.cells #[.int .i64 e1, .int .i64 e2] 29))
  have HSX : Hid (w1.heap.size < (w1.alloc (.cells #[.int .i64 e1, .int .i64 e2] 29)).heap.size) := by show _ < _; simp
  clear hC hb1 hb2
  by_cases hE0 : e1 = 0
  · subst hE0
    obtain ⟨hvar, hlen⟩ := HFL.out rfl
    have HVAR := hide hvar
    have hn1 : n ≤ 1048576 := by rw [← HL.out]; exact hlen
    have HPF3 : Hid (∀ i, PFF i = cntP l ((i + 1) / 2) l.length) := fun i => HPF2.out rfl i
    clear hvar hlen HFL HPF1 HPF2
    go_wp2_with fail
    generalize w1.alloc (.cells #[.int .i64 0, .int .i64 e2] 29) = W1 at *
    generalize w1.heap.size = S at *
    have hsx := HSX.out
    have HBW1 := hide (HB0.out.trans (HB2.out.mono HB0.out.size))
    have HP0 : Hid (SpanB W1 (w.heap.size + 3) (spanTo l n 0)) := ⟨_, (HB2.out.block _ kl).trans HPB.out, rfl, fun i hi => by
      unfold spanTo
      rw [if_neg (by omega)]
      match i, hi with
      | 0, _ => rfl
      | 1, _ => rfl
      | 2, _ => rfl
      | 3, _ => rfl
      | 4, _ => rfl
      | 5, _ => rfl
      | 6, _ => rfl
      | 7, _ => rfl
      | 8, _ => rfl
      | 9, _ => rfl
      | 10, _ => rfl
      | 11, _ => rfl
      | 12, _ => rfl
      | 13, _ => rfl
      | 14, _ => rfl
      | 15, _ => rfl
      | 16, _ => rfl
      | 17, _ => rfl
      | 18, _ => rfl
      | 19, _ => rfl
      | m + 20, h => exact absurd h (by omega)⟩
    go_loopw [6] (fun i wr => ∃ k : Nat, k ≤ 10 ∧ i = .int .i64 k ∧ SpanB wr (w.heap.size + 3) (spanTo l n k) ∧ KeepB (w.heap.size + 3) W1 wr) (fun i _ => 10 - (intOf i).toNat)
    case atStart => exact ⟨0, by omega, rfl, HP0.out, KeepB.refl _ _⟩
    case round =>
      obtain ⟨k, hk, rfl, hSp, hKp⟩ := hrel
      rename World => wo
      have HSP := hide hSp
      have HKP := hide hKp
      have HBW := hide (KeepB.low HBW1.out (show w.heap.size ≤ w.heap.size + 3 by omega) hKp)
      have hsz : w.heap.size + 3 < wo.heap.size := hSp.lt
      have hSl : S < wo.heap.size := Nat.lt_of_lt_of_le hsx hKp.size
      by_cases hlt : k < 10
      · have hki : (k : Int) < 10 := by omega
        have hk0 : (0 : Int) ≤ (k : Int) := by omega
        have m2 : wo.cell? ⟨w.heap.size, 2, none⟩ = some (.slice a n c) := (World.cell?_of_block (a := ⟨w.heap.size, 2, none⟩) (hKp.block w.heap.size (by have := HB2.out.size; omega) (by omega))).trans ((one_block ((HB2.out.block w.heap.size (by omega)).trans HMB.out)).1 2)
        have HM2 := hide m2
        clear hSp hKp
        go_wp2_with fail
        go_loopw [7, 8, 9] (fun x y z wz => ∃ i : Nat, i ≤ n ∧ z = .int .i64 i ∧ x = .int .i64 (cntP l k i) ∧ y = .int .i64 (ownP l k i) ∧ Below wo.heap.size wo wz) (fun _ _ z _ => n - (intOf z).toNat)
        case atStart => exact ⟨0, Nat.zero_le _, rfl, rfl, rfl, Below.refl _ _⟩
        case round =>
          obtain ⟨i, hi, rfl, rfl, rfl, hbq⟩ := hrel
          have HBQ := hide hbq
          have hcl := cntP_le l k i
          have hol := ownP_le l k i
          have m2 := (hbq.cell (p := ⟨w.heap.size, 2, none⟩) (show w.heap.size < wo.heap.size by omega)).trans HM2.out
          have hwq : w.heap.size < wr.heap.size := Nat.lt_of_lt_of_le (by omega) hbq.size
          by_cases hin : i < n
          · have hi0 : (0 : Int) ≤ (i : Int) := by omega
            have hii : (i : Int) < (n : Int) := by omega
            have hbw : Below w.heap.size w wr := HBW.out.trans (hbq.mono HBW.out.size)
            obtain ⟨g1, o1, aj, cj, nj, ha, hg1, p1, p2, p3, p4, p5, p6, p7⟩ := HV.out.below hbw i (by rw [HL.out]; exact hin)
            have hP := fun wy (hy : Below wr.heap.size wr wy) => refPart_any (nthI l i) aj nj cj wy (p6.below hy) p5 (fun e => by rw [← p5]; exact HVAR.out i (by rw [HL.out]; exact hin) e)
            unfold instV at hP
            have HP := hide hP
            have hP1 := hP wr (Below.refl _ _)
            have hcn : Hid (cntP l k (i + 1) = cntP l k i + (if partI (nthI l i) < k then 1 else 0)) := rfl
            have hon : Hid (ownP l k (i + 1) = ownP l k i + (if partI (nthI l i) = k then 1 else 0)) := rfl
            subst ha
            clear hbq p5 p6 p7 hP hbw
            generalize cntP l k i = x at *
            generalize ownP l k i = y at *
            generalize partI (nthI l i) = q at *
            generalize nthI l i = zz at *
            by_cases h1 : q < (k : Int)
            · have hX := hide (show cntP l k (i + 1) = x + 1 by rw [hcn.out, if_pos h1])
              have hY := hide (show ownP l k (i + 1) = y by rw [hon.out, if_neg (by omega)]; rfl)
              have hd1 : decide (q < (k : Int)) = true := by simpa using h1
              have hd2 : (q == (k : Int)) = false := by simp; omega
              clear hcn hon
              go_wp2_with fail
              refine hP1.mono ?_
              rintro e w2 ⟨rfl, hb2⟩
              replace p1 := (hb2.cell (p := ⟨g1, o1 + i * 4, none⟩) hg1).trans p1
              replace p2 := (hb2.cell (p := ⟨g1, o1 + i * 4 + 1, none⟩) hg1).trans p2
              replace p3 := (hb2.cell (p := ⟨g1, o1 + i * 4 + 2, none⟩) hg1).trans p3
              replace p4 := (hb2.cell (p := ⟨g1, o1 + i * 4 + 3, none⟩) hg1).trans p4
              replace m2 := (hb2.cell (p := ⟨w.heap.size, 2, none⟩) hwq).trans m2
              have hg2 : g1 < w2.heap.size := Nat.lt_of_lt_of_le hg1 hb2.size
              have hwq2 : w.heap.size < w2.heap.size := Nat.lt_of_lt_of_le hwq hb2.size
              have hP2 := HP.out w2 hb2
              have HBX := hide (HBQ.out.trans (hb2.mono HBQ.out.size))
              clear hP1 hb2 HP hg1
              go_wp2_with fail
              refine hP2.mono ?_
              rintro e w3 ⟨rfl, hb3⟩
              have HB3 := hide (HBX.out.trans (hb3.mono HBX.out.size))
              clear hP2 p1 p2 p3 p4 hb3 m2
              go_wp2_with fail
              go_roundw
              case rel => exact ⟨i + 1, by omega, by go_num, by rw [hX.out]; go_num, by rw [hY.out], HB3.out⟩
              case measure => simp [intOf]; omega
            · by_cases h2 : q = (k : Int)
              · have hX := hide (show cntP l k (i + 1) = x by rw [hcn.out, if_neg h1]; rfl)
                have hY := hide (show ownP l k (i + 1) = y + 1 by rw [hon.out, if_pos h2])
                have hd1 : decide (q < (k : Int)) = false := by simp; omega
                have hd2 : (q == (k : Int)) = true := by simp; omega
                clear hcn hon h2
                go_wp2_with fail
                refine hP1.mono ?_
                rintro e w2 ⟨rfl, hb2⟩
                replace p1 := (hb2.cell (p := ⟨g1, o1 + i * 4, none⟩) hg1).trans p1
                replace p2 := (hb2.cell (p := ⟨g1, o1 + i * 4 + 1, none⟩) hg1).trans p2
                replace p3 := (hb2.cell (p := ⟨g1, o1 + i * 4 + 2, none⟩) hg1).trans p3
                replace p4 := (hb2.cell (p := ⟨g1, o1 + i * 4 + 3, none⟩) hg1).trans p4
                replace m2 := (hb2.cell (p := ⟨w.heap.size, 2, none⟩) hwq).trans m2
                have hg2 : g1 < w2.heap.size := Nat.lt_of_lt_of_le hg1 hb2.size
                have hwq2 : w.heap.size < w2.heap.size := Nat.lt_of_lt_of_le hwq hb2.size
                have hP2 := HP.out w2 hb2
                have HBX := hide (HBQ.out.trans (hb2.mono HBQ.out.size))
                clear hP1 hb2 HP hg1
                go_wp2_with fail
                refine hP2.mono ?_
                rintro e w3 ⟨rfl, hb3⟩
                have HB3 := hide (HBX.out.trans (hb3.mono HBX.out.size))
                clear hP2 p1 p2 p3 p4 hb3 m2
                go_wp2_with fail
                go_roundw
                case rel => exact ⟨i + 1, by omega, by go_num, by rw [hX.out], by rw [hY.out]; go_num, HB3.out⟩
                case measure => simp [intOf]; omega
              · have hX := hide (show cntP l k (i + 1) = x by rw [hcn.out, if_neg h1]; rfl)
                have hY := hide (show ownP l k (i + 1) = y by rw [hon.out, if_neg h2]; rfl)
                have hd1 : decide (q < (k : Int)) = false := by simp; omega
                have hd2 : (q == (k : Int)) = false := by simp; omega
                clear hcn hon h2
                go_wp2_with fail
                refine hP1.mono ?_
                rintro e w2 ⟨rfl, hb2⟩
                replace p1 := (hb2.cell (p := ⟨g1, o1 + i * 4, none⟩) hg1).trans p1
                replace p2 := (hb2.cell (p := ⟨g1, o1 + i * 4 + 1, none⟩) hg1).trans p2
                replace p3 := (hb2.cell (p := ⟨g1, o1 + i * 4 + 2, none⟩) hg1).trans p3
                replace p4 := (hb2.cell (p := ⟨g1, o1 + i * 4 + 3, none⟩) hg1).trans p4
                replace m2 := (hb2.cell (p := ⟨w.heap.size, 2, none⟩) hwq).trans m2
                have hg2 : g1 < w2.heap.size := Nat.lt_of_lt_of_le hg1 hb2.size
                have hwq2 : w.heap.size < w2.heap.size := Nat.lt_of_lt_of_le hwq hb2.size
                have hP2 := HP.out w2 hb2
                have HBX := hide (HBQ.out.trans (hb2.mono HBQ.out.size))
                clear hP1 hb2 HP hg1
                go_wp2_with fail
                refine hP2.mono ?_
                rintro e w3 ⟨rfl, hb3⟩
                have HB3 := hide (HBX.out.trans (hb3.mono HBX.out.size))
                clear hP2 p1 p2 p3 p4 hb3 m2
                go_wp2_with fail
                go_roundw
                case rel => exact ⟨i + 1, by omega, by go_num, by rw [hX.out], by rw [hY.out], HB3.out⟩
                case measure => simp [intOf]; omega
          · obtain rfl : i = n := by omega
            have hSq : SpanB wr (w.heap.size + 3) (spanTo l i k) := HSP.out.block (hbq.block _ hsz)
            obtain ⟨y0, f0⟩ := hSq.cell (k * 2) (by omega)
            have HS1 := hSq.set (k * 2) ((cntP l k i : Nat) : Int)
            obtain ⟨y1, f1⟩ := HS1.cell (k * 2 + 1) (by omega)
            obtain ⟨y1', f1'⟩ := hSq.cell (k * 2 + 1) (by omega)
            have HS2 := HS1.set (k * 2 + 1) ((cntP l k i + ownP l k i : Nat) : Int)
            have HS3 := hide (HS2.congr (g := spanTo l i (k + 1)) (fun j hj => span_next l i k j))
            have HK3 := hide ((HKP.out.trans (.of_below hbq)).trans ((KeepB.set (B := w.heap.size + 3) wr (k * 2) (.int .i64 ((cntP l k i : Nat) : Int))).trans (KeepB.set (B := w.heap.size + 3) _ (k * 2 + 1) (.int .i64 ((cntP l k i + ownP l k i : Nat) : Int)))))
            have hwr : IntKind.i64.wrap (((cntP l k i : Nat) : Int) + ((ownP l k i : Nat) : Int)) = ((cntP l k i + ownP l k i : Nat) : Int) := by rw [IntKind.wrap_i64]; omega
            have hlq : w.heap.size + 3 < wr.heap.size := hSq.lt
            clear hbq hSq HS1 HS2 y1 f1
            generalize ((cntP l k i + ownP l k i : Nat) : Int) = sv at *
            generalize ((cntP l k i : Nat) : Int) = x at *
            generalize ((ownP l k i : Nat) : Int) = y at *
            clear hcl hol
            go_wp2_with fail
            go_roundw
            case rel => exact ⟨k + 1, by omega, by go_num, HS3.out, HK3.out⟩
            case measure => simp [intOf]; omega
      · obtain rfl : k = 10 := by omega
        have HFF : Hid (∀ i, i < 20 → spanTo l n 10 i = PFF i) := fun i hi => by rw [HPF3.out i]; unfold spanTo; rw [if_pos (by omega), HL.out]
        have hrow := hSp.row
        have KE : wo.heap[S]? = some (.cells #[.int .i64 0, .int .i64 e2] 29 (0, 0)) := (hKp.block S hsx (by omega)).trans HSN.out
        have KR1 := (hKp.block (w.heap.size + 1) (by have := HB2.out.size; omega) (by omega)).trans ((HB2.out.block (w.heap.size + 1) (by omega)).trans HZB.out)
        have KR2 := (hKp.block (w.heap.size + 2) (by have := HB2.out.size; omega) (by omega)).trans ((HB2.out.block (w.heap.size + 2) (by omega)).trans HSB.out)
        clear hSp hKp
        go_wp2_with fail
        have kz := KR1
        have ks := KR2
        have hgy1 := setCells_grown (w.heap.size + 1) [.int .i64 (spanTo l n 10 0), .int .i64 (spanTo l n 10 1), .int .i64 (spanTo l n 10 2), .int .i64 (spanTo l n 10 3), .int .i64 (spanTo l n 10 4), .int .i64 (spanTo l n 10 5), .int .i64 (spanTo l n 10 6), .int .i64 (spanTo l n 10 7), .int .i64 (spanTo l n 10 8), .int .i64 (spanTo l n 10 9), .int .i64 (spanTo l n 10 10), .int .i64 (spanTo l n 10 11), .int .i64 (spanTo l n 10 12), .int .i64 (spanTo l n 10 13), .int .i64 (spanTo l n 10 14), .int .i64 (spanTo l n 10 15), .int .i64 (spanTo l n 10 16), .int .i64 (spanTo l n 10 17), .int .i64 (spanTo l n 10 18), .int .i64 (spanTo l n 10 19)] 0 wo.drew
        have hp1 := setCells_all (w := wo.drew) [.int .i64 (spanTo l n 10 0), .int .i64 (spanTo l n 10 1), .int .i64 (spanTo l n 10 2), .int .i64 (spanTo l n 10 3), .int .i64 (spanTo l n 10 4), .int .i64 (spanTo l n 10 5), .int .i64 (spanTo l n 10 6), .int .i64 (spanTo l n 10 7), .int .i64 (spanTo l n 10 8), .int .i64 (spanTo l n 10 9), .int .i64 (spanTo l n 10 10), .int .i64 (spanTo l n 10 11), .int .i64 (spanTo l n 10 12), .int .i64 (spanTo l n 10 13), .int .i64 (spanTo l n 10 14), .int .i64 (spanTo l n 10 15), .int .i64 (spanTo l n 10 16), .int .i64 (spanTo l n 10 17), .int .i64 (spanTo l n 10 18), .int .i64 (spanTo l n 10 19)] kz rfl
        have hgy2 := setCells_grown (w.heap.size + 2) [.int .i64 0, .int .i64 e2] 0 (wo.drew.setCells (w.heap.size + 1) 0 [.int .i64 (spanTo l n 10 0), .int .i64 (spanTo l n 10 1), .int .i64 (spanTo l n 10 2), .int .i64 (spanTo l n 10 3), .int .i64 (spanTo l n 10 4), .int .i64 (spanTo l n 10 5), .int .i64 (spanTo l n 10 6), .int .i64 (spanTo l n 10 7), .int .i64 (spanTo l n 10 8), .int .i64 (spanTo l n 10 9), .int .i64 (spanTo l n 10 10), .int .i64 (spanTo l n 10 11), .int .i64 (spanTo l n 10 12), .int .i64 (spanTo l n 10 13), .int .i64 (spanTo l n 10 14), .int .i64 (spanTo l n 10 15), .int .i64 (spanTo l n 10 16), .int .i64 (spanTo l n 10 17), .int .i64 (spanTo l n 10 18), .int .i64 (spanTo l n 10 19)])
        have ks2 := (hgy1.block (w.heap.size + 2) (show w.heap.size + 2 < wo.heap.size by omega) (by simp)).trans ks
        have hp2 := setCells_all (w := wo.drew.setCells (w.heap.size + 1) 0 [.int .i64 (spanTo l n 10 0), .int .i64 (spanTo l n 10 1), .int .i64 (spanTo l n 10 2), .int .i64 (spanTo l n 10 3), .int .i64 (spanTo l n 10 4), .int .i64 (spanTo l n 10 5), .int .i64 (spanTo l n 10 6), .int .i64 (spanTo l n 10 7), .int .i64 (spanTo l n 10 8), .int .i64 (spanTo l n 10 9), .int .i64 (spanTo l n 10 10), .int .i64 (spanTo l n 10 11), .int .i64 (spanTo l n 10 12), .int .i64 (spanTo l n 10 13), .int .i64 (spanTo l n 10 14), .int .i64 (spanTo l n 10 15), .int .i64 (spanTo l n 10 16), .int .i64 (spanTo l n 10 17), .int .i64 (spanTo l n 10 18), .int .i64 (spanTo l n 10 19)]) [.int .i64 0, .int .i64 e2] ks2 rfl
        have hsd : wo.drew.heap.size = wo.heap.size := rfl
        have HP1 : Hid (((wo.drew.setCells (w.heap.size + 1) 0 [.int .i64 (spanTo l n 10 0), .int .i64 (spanTo l n 10 1), .int .i64 (spanTo l n 10 2), .int .i64 (spanTo l n 10 3), .int .i64 (spanTo l n 10 4), .int .i64 (spanTo l n 10 5), .int .i64 (spanTo l n 10 6), .int .i64 (spanTo l n 10 7), .int .i64 (spanTo l n 10 8), .int .i64 (spanTo l n 10 9), .int .i64 (spanTo l n 10 10), .int .i64 (spanTo l n 10 11), .int .i64 (spanTo l n 10 12), .int .i64 (spanTo l n 10 13), .int .i64 (spanTo l n 10 14), .int .i64 (spanTo l n 10 15), .int .i64 (spanTo l n 10 16), .int .i64 (spanTo l n 10 17), .int .i64 (spanTo l n 10 18), .int .i64 (spanTo l n 10 19)]).setCells (w.heap.size + 2) 0 [.int .i64 0, .int .i64 e2]).heap[w.heap.size + 1]? = some (.cells #[.int .i64 (spanTo l n 10 0), .int .i64 (spanTo l n 10 1), .int .i64 (spanTo l n 10 2), .int .i64 (spanTo l n 10 3), .int .i64 (spanTo l n 10 4), .int .i64 (spanTo l n 10 5), .int .i64 (spanTo l n 10 6), .int .i64 (spanTo l n 10 7), .int .i64 (spanTo l n 10 8), .int .i64 (spanTo l n 10 9), .int .i64 (spanTo l n 10 10), .int .i64 (spanTo l n 10 11), .int .i64 (spanTo l n 10 12), .int .i64 (spanTo l n 10 13), .int .i64 (spanTo l n 10 14), .int .i64 (spanTo l n 10 15), .int .i64 (spanTo l n 10 16), .int .i64 (spanTo l n 10 17), .int .i64 (spanTo l n 10 18), .int .i64 (spanTo l n 10 19)] 35 (0, 0))) := (hgy2.block (w.heap.size + 1) (by have h2 := hgy1.size; omega) (by simp)).trans hp1
        have HP2 := hide hp2
        have HBF := hide (below_grown (below_grown (HBW.out.drew) hgy1 (fun g e => by simp at e; omega)) hgy2 (fun g e => by simp at e; omega))
        have ht1 := there_of_block (w := wo.drew) kz 20 rfl
        have ht2 := there_of_block ks2 2 rfl
        have hC0 : wo.drew.heap[w.heap.size + 3]? = wo.heap[w.heap.size + 3]? ∧ wo.drew.heap[S]? = wo.heap[S]? := ⟨rfl, rfl⟩
        have hC1 : (wo.drew.setCells (w.heap.size + 1) 0 [.int .i64 (spanTo l n 10 0), .int .i64 (spanTo l n 10 1), .int .i64 (spanTo l n 10 2), .int .i64 (spanTo l n 10 3), .int .i64 (spanTo l n 10 4), .int .i64 (spanTo l n 10 5), .int .i64 (spanTo l n 10 6), .int .i64 (spanTo l n 10 7), .int .i64 (spanTo l n 10 8), .int .i64 (spanTo l n 10 9), .int .i64 (spanTo l n 10 10), .int .i64 (spanTo l n 10 11), .int .i64 (spanTo l n 10 12), .int .i64 (spanTo l n 10 13), .int .i64 (spanTo l n 10 14), .int .i64 (spanTo l n 10 15), .int .i64 (spanTo l n 10 16), .int .i64 (spanTo l n 10 17), .int .i64 (spanTo l n 10 18), .int .i64 (spanTo l n 10 19)]).heap[w.heap.size + 3]? = wo.heap[w.heap.size + 3]? ∧ (wo.drew.setCells (w.heap.size + 1) 0 [.int .i64 (spanTo l n 10 0), .int .i64 (spanTo l n 10 1), .int .i64 (spanTo l n 10 2), .int .i64 (spanTo l n 10 3), .int .i64 (spanTo l n 10 4), .int .i64 (spanTo l n 10 5), .int .i64 (spanTo l n 10 6), .int .i64 (spanTo l n 10 7), .int .i64 (spanTo l n 10 8), .int .i64 (spanTo l n 10 9), .int .i64 (spanTo l n 10 10), .int .i64 (spanTo l n 10 11), .int .i64 (spanTo l n 10 12), .int .i64 (spanTo l n 10 13), .int .i64 (spanTo l n 10 14), .int .i64 (spanTo l n 10 15), .int .i64 (spanTo l n 10 16), .int .i64 (spanTo l n 10 17), .int .i64 (spanTo l n 10 18), .int .i64 (spanTo l n 10 19)]).heap[S]? = wo.heap[S]? := ⟨hgy1.block _ (by show _ < wo.heap.size; omega) (by simp), hgy1.block _ (by show _ < wo.heap.size; omega) (by simp; omega)⟩
        have hC2 : ((wo.drew.setCells (w.heap.size + 1) 0 [.int .i64 (spanTo l n 10 0), .int .i64 (spanTo l n 10 1), .int .i64 (spanTo l n 10 2), .int .i64 (spanTo l n 10 3), .int .i64 (spanTo l n 10 4), .int .i64 (spanTo l n 10 5), .int .i64 (spanTo l n 10 6), .int .i64 (spanTo l n 10 7), .int .i64 (spanTo l n 10 8), .int .i64 (spanTo l n 10 9), .int .i64 (spanTo l n 10 10), .int .i64 (spanTo l n 10 11), .int .i64 (spanTo l n 10 12), .int .i64 (spanTo l n 10 13), .int .i64 (spanTo l n 10 14), .int .i64 (spanTo l n 10 15), .int .i64 (spanTo l n 10 16), .int .i64 (spanTo l n 10 17), .int .i64 (spanTo l n 10 18), .int .i64 (spanTo l n 10 19)]).setCells (w.heap.size + 2) 0 [.int .i64 0, .int .i64 e2]).heap[w.heap.size + 3]? = wo.heap[w.heap.size + 3]? ∧ ((wo.drew.setCells (w.heap.size + 1) 0 [.int .i64 (spanTo l n 10 0), .int .i64 (spanTo l n 10 1), .int .i64 (spanTo l n 10 2), .int .i64 (spanTo l n 10 3), .int .i64 (spanTo l n 10 4), .int .i64 (spanTo l n 10 5), .int .i64 (spanTo l n 10 6), .int .i64 (spanTo l n 10 7), .int .i64 (spanTo l n 10 8), .int .i64 (spanTo l n 10 9), .int .i64 (spanTo l n 10 10), .int .i64 (spanTo l n 10 11), .int .i64 (spanTo l n 10 12), .int .i64 (spanTo l n 10 13), .int .i64 (spanTo l n 10 14), .int .i64 (spanTo l n 10 15), .int .i64 (spanTo l n 10 16), .int .i64 (spanTo l n 10 17), .int .i64 (spanTo l n 10 18), .int .i64 (spanTo l n 10 19)]).setCells (w.heap.size + 2) 0 [.int .i64 0, .int .i64 e2]).heap[S]? = wo.heap[S]? :=
          ⟨(hgy2.block _ (by have h2 := hgy1.size; omega) (by simp)).trans hC1.1, (hgy2.block _ (by have h2 := hgy1.size; omega) (by simp; omega)).trans hC1.2⟩
        have LC1 : ∀ w' : World, (w'.heap[w.heap.size + 3]? = wo.heap[w.heap.size + 3]? ∧ w'.heap[S]? = wo.heap[S]?) → w'.rangeAt (w.heap.size + 3) 0 [.int .i64 (spanTo l n 10 0), .int .i64 (spanTo l n 10 1), .int .i64 (spanTo l n 10 2), .int .i64 (spanTo l n 10 3), .int .i64 (spanTo l n 10 4), .int .i64 (spanTo l n 10 5), .int .i64 (spanTo l n 10 6), .int .i64 (spanTo l n 10 7), .int .i64 (spanTo l n 10 8), .int .i64 (spanTo l n 10 9), .int .i64 (spanTo l n 10 10), .int .i64 (spanTo l n 10 11), .int .i64 (spanTo l n 10 12), .int .i64 (spanTo l n 10 13), .int .i64 (spanTo l n 10 14), .int .i64 (spanTo l n 10 15), .int .i64 (spanTo l n 10 16), .int .i64 (spanTo l n 10 17), .int .i64 (spanTo l n 10 18), .int .i64 (spanTo l n 10 19)] := fun w' h => range_of_block (h.1.trans hrow)
        have LC2 : ∀ w' : World, (w'.heap[w.heap.size + 3]? = wo.heap[w.heap.size + 3]? ∧ w'.heap[S]? = wo.heap[S]?) → w'.rangeAt S 0 [.int .i64 0, .int .i64 e2] := fun w' h => range_of_block (h.2.trans KE)
        clear hgy1 hp1 hgy2 hp2 kz ks ks2
        have hmix : Try.prog.follows .mixedOrders = true := by kernel_rfl
        refine (wpIn_wide (n := 0)).1 ?_
        refine wpIn_normal (wpIn_region_any hmix (wpAnyE_sound (C := fun w' => w'.heap[w.heap.size + 3]? = wo.heap[w.heap.size + 3]? ∧ w'.heap[S]? = wo.heap[S]?) (E := fun i => false) _ _ _ _ ?_))
        change wpAnyE _ _ _ _ _ _ _ _ _ _ _ (World.drew _)
        refine wpAnyE_takeD (i := 0) (some 55) (v := .agg #[.int .i64 (spanTo l n 10 0), .int .i64 (spanTo l n 10 1), .int .i64 (spanTo l n 10 2), .int .i64 (spanTo l n 10 3), .int .i64 (spanTo l n 10 4), .int .i64 (spanTo l n 10 5), .int .i64 (spanTo l n 10 6), .int .i64 (spanTo l n 10 7), .int .i64 (spanTo l n 10 8), .int .i64 (spanTo l n 10 9), .int .i64 (spanTo l n 10 10), .int .i64 (spanTo l n 10 11), .int .i64 (spanTo l n 10 12), .int .i64 (spanTo l n 10 13), .int .i64 (spanTo l n 10 14), .int .i64 (spanTo l n 10 15), .int .i64 (spanTo l n 10 16), .int .i64 (spanTo l n 10 17), .int .i64 (spanTo l n 10 18), .int .i64 (spanTo l n 10 19)]) (fun _ => trivial) (by kernel_rfl) rfl rfl (by kernel_rfl) (by kernel_rfl) (by kernel_rfl) (by kernel_rfl) (fun _ _ _ h => by cases h.1) hC0 (yieldsC_load rfl 35 (.tmp 4) rfl (w.heap.size + 3) 0 rfl [.int .i64 (spanTo l n 10 0), .int .i64 (spanTo l n 10 1), .int .i64 (spanTo l n 10 2), .int .i64 (spanTo l n 10 3), .int .i64 (spanTo l n 10 4), .int .i64 (spanTo l n 10 5), .int .i64 (spanTo l n 10 6), .int .i64 (spanTo l n 10 7), .int .i64 (spanTo l n 10 8), .int .i64 (spanTo l n 10 9), .int .i64 (spanTo l n 10 10), .int .i64 (spanTo l n 10 11), .int .i64 (spanTo l n 10 12), .int .i64 (spanTo l n 10 13), .int .i64 (spanTo l n 10 14), .int .i64 (spanTo l n 10 15), .int .i64 (spanTo l n 10 16), .int .i64 (spanTo l n 10 17), .int .i64 (spanTo l n 10 18), .int .i64 (spanTo l n 10 19)] _ LC1 Try.underlying35 rfl (by kernel_rfl)) ?_
        simp only [Act.put, List.setIfInBounds_toArray, List.set_cons_succ, List.set_cons_zero]
        refine wpAnyE_takeD (i := 1) (some 56) (v := .agg #[.int .i64 0, .int .i64 e2]) (fun _ => trivial) (by kernel_rfl) rfl rfl (by kernel_rfl) (by kernel_rfl) (by kernel_rfl) (by kernel_rfl) (fun _ _ _ h => by cases h.1) hC0 (yieldsC_load rfl 29 (.tmp 5) rfl S 0 rfl [.int .i64 0, .int .i64 e2] _ LC2 Try.underlying29 rfl (by kernel_rfl)) ?_
        simp only [Act.put, List.setIfInBounds_toArray, List.set_cons_succ, List.set_cons_zero]
        refine wpAnyE_ready (rs := [2]) (by kernel_rfl) (by simp) ?_
        refine AllE.cons rfl (fun K hK => ?_) AllE.nil
        refine stepAny_store _ (fun _ => trivial) rfl 35 (.tmp 2) (.tmp 55) rfl (w.heap.size + 1) 0 #[.int .i64 (spanTo l n 10 0), .int .i64 (spanTo l n 10 1), .int .i64 (spanTo l n 10 2), .int .i64 (spanTo l n 10 3), .int .i64 (spanTo l n 10 4), .int .i64 (spanTo l n 10 5), .int .i64 (spanTo l n 10 6), .int .i64 (spanTo l n 10 7), .int .i64 (spanTo l n 10 8), .int .i64 (spanTo l n 10 9), .int .i64 (spanTo l n 10 10), .int .i64 (spanTo l n 10 11), .int .i64 (spanTo l n 10 12), .int .i64 (spanTo l n 10 13), .int .i64 (spanTo l n 10 14), .int .i64 (spanTo l n 10 15), .int .i64 (spanTo l n 10 16), .int .i64 (spanTo l n 10 17), .int .i64 (spanTo l n 10 18), .int .i64 (spanTo l n 10 19)] rfl rfl ht1 (by kernel_rfl) (by simp [Value.oneCell']) ?_
        refine hK _ _ (.inr hC1) ?_
        clear hK K
        refine wpAnyE_ready (rs := [3]) (by kernel_rfl) (by simp) ?_
        refine AllE.cons rfl (fun K hK => ?_) AllE.nil
        refine stepAny_store _ (fun _ => trivial) rfl 29 (.tmp 3) (.tmp 56) rfl (w.heap.size + 2) 0 #[.int .i64 0, .int .i64 e2] rfl rfl ht2 (by kernel_rfl) (by simp [Value.oneCell']) ?_
        refine hK _ _ (.inr hC2) ?_
        clear hK K
        refine wpAnyE_done (by kernel_rfl) ⟨rfl, ?_⟩ _
        clear ht1 ht2 hC1 hC2 hC0 LC1 LC2
        dsimp only
        generalize (wo.drew.setCells (w.heap.size + 1) 0 [.int .i64 (spanTo l n 10 0), .int .i64 (spanTo l n 10 1), .int .i64 (spanTo l n 10 2), .int .i64 (spanTo l n 10 3), .int .i64 (spanTo l n 10 4), .int .i64 (spanTo l n 10 5), .int .i64 (spanTo l n 10 6), .int .i64 (spanTo l n 10 7), .int .i64 (spanTo l n 10 8), .int .i64 (spanTo l n 10 9), .int .i64 (spanTo l n 10 10), .int .i64 (spanTo l n 10 11), .int .i64 (spanTo l n 10 12), .int .i64 (spanTo l n 10 13), .int .i64 (spanTo l n 10 14), .int .i64 (spanTo l n 10 15), .int .i64 (spanTo l n 10 16), .int .i64 (spanTo l n 10 17), .int .i64 (spanTo l n 10 18), .int .i64 (spanTo l n 10 19)]).setCells (w.heap.size + 2) 0 [.int .i64 0, .int .i64 e2] = Z at *
        rw [then_normalW]
        go_wp2_with fail
        exact HRET.out _ Z _ rfl rfl rfl HP1.out HP2.out HBF.out HFF.out
  · have hE1 : (e1 != 0) = true := by simpa using hE0
    have HFF : Hid (∀ i, i < 20 → (fun _ => (0 : Int)) i = PFF i) := fun i hi => (HPF1.out hE0 i).symm
    clear hE0 HPF2 HFL
    go_wp2_with fail
    generalize w1.alloc (.cells #[.int .i64 e1, .int .i64 e2] 29) = W1 at *
    generalize w1.heap.size = S at *
    have hsx := HSX.out
    have HBW := hide (HB0.out.trans (HB2.out.mono HB0.out.size))
    have hsz : w.heap.size + 3 < W1.heap.size := by have := HB2.out.size; omega
    have kz := (HB2.out.block (w.heap.size + 1) (by omega)).trans HZB.out
    have ks := (HB2.out.block (w.heap.size + 2) (by omega)).trans HSB.out
    have hgy1 := setCells_grown (w.heap.size + 1) [.int .i64 0, .int .i64 0, .int .i64 0, .int .i64 0, .int .i64 0, .int .i64 0, .int .i64 0, .int .i64 0, .int .i64 0, .int .i64 0, .int .i64 0, .int .i64 0, .int .i64 0, .int .i64 0, .int .i64 0, .int .i64 0, .int .i64 0, .int .i64 0, .int .i64 0, .int .i64 0] 0 W1.drew
    have hp1 := setCells_all (w := W1.drew) [.int .i64 0, .int .i64 0, .int .i64 0, .int .i64 0, .int .i64 0, .int .i64 0, .int .i64 0, .int .i64 0, .int .i64 0, .int .i64 0, .int .i64 0, .int .i64 0, .int .i64 0, .int .i64 0, .int .i64 0, .int .i64 0, .int .i64 0, .int .i64 0, .int .i64 0, .int .i64 0] kz rfl
    have hgy2 := setCells_grown (w.heap.size + 2) [.int .i64 e1, .int .i64 e2] 0 (W1.drew.setCells (w.heap.size + 1) 0 [.int .i64 0, .int .i64 0, .int .i64 0, .int .i64 0, .int .i64 0, .int .i64 0, .int .i64 0, .int .i64 0, .int .i64 0, .int .i64 0, .int .i64 0, .int .i64 0, .int .i64 0, .int .i64 0, .int .i64 0, .int .i64 0, .int .i64 0, .int .i64 0, .int .i64 0, .int .i64 0])
    have ks2 := (hgy1.block (w.heap.size + 2) (show w.heap.size + 2 < W1.heap.size by omega) (by simp)).trans ks
    have hp2 := setCells_all (w := W1.drew.setCells (w.heap.size + 1) 0 [.int .i64 0, .int .i64 0, .int .i64 0, .int .i64 0, .int .i64 0, .int .i64 0, .int .i64 0, .int .i64 0, .int .i64 0, .int .i64 0, .int .i64 0, .int .i64 0, .int .i64 0, .int .i64 0, .int .i64 0, .int .i64 0, .int .i64 0, .int .i64 0, .int .i64 0, .int .i64 0]) [.int .i64 e1, .int .i64 e2] ks2 rfl
    have hsd : W1.drew.heap.size = W1.heap.size := rfl
    have HP1 : Hid (((W1.drew.setCells (w.heap.size + 1) 0 [.int .i64 0, .int .i64 0, .int .i64 0, .int .i64 0, .int .i64 0, .int .i64 0, .int .i64 0, .int .i64 0, .int .i64 0, .int .i64 0, .int .i64 0, .int .i64 0, .int .i64 0, .int .i64 0, .int .i64 0, .int .i64 0, .int .i64 0, .int .i64 0, .int .i64 0, .int .i64 0]).setCells (w.heap.size + 2) 0 [.int .i64 e1, .int .i64 e2]).heap[w.heap.size + 1]? = some (.cells #[.int .i64 0, .int .i64 0, .int .i64 0, .int .i64 0, .int .i64 0, .int .i64 0, .int .i64 0, .int .i64 0, .int .i64 0, .int .i64 0, .int .i64 0, .int .i64 0, .int .i64 0, .int .i64 0, .int .i64 0, .int .i64 0, .int .i64 0, .int .i64 0, .int .i64 0, .int .i64 0] 35 (0, 0))) := (hgy2.block (w.heap.size + 1) (by have h2 := hgy1.size; omega) (by simp)).trans hp1
    have HP2 := hide hp2
    have HBF := hide (below_grown (below_grown (HBW.out.drew) hgy1 (fun g e => by simp at e; omega)) hgy2 (fun g e => by simp at e; omega))
    have ht1 := there_of_block (w := W1.drew) kz 20 rfl
    have ht2 := there_of_block ks2 2 rfl
    have hC0 : W1.drew.heap[w.heap.size + 3]? = W1.heap[w.heap.size + 3]? ∧ W1.drew.heap[S]? = W1.heap[S]? := ⟨rfl, rfl⟩
    have hC1 : (W1.drew.setCells (w.heap.size + 1) 0 [.int .i64 0, .int .i64 0, .int .i64 0, .int .i64 0, .int .i64 0, .int .i64 0, .int .i64 0, .int .i64 0, .int .i64 0, .int .i64 0, .int .i64 0, .int .i64 0, .int .i64 0, .int .i64 0, .int .i64 0, .int .i64 0, .int .i64 0, .int .i64 0, .int .i64 0, .int .i64 0]).heap[w.heap.size + 3]? = W1.heap[w.heap.size + 3]? ∧ (W1.drew.setCells (w.heap.size + 1) 0 [.int .i64 0, .int .i64 0, .int .i64 0, .int .i64 0, .int .i64 0, .int .i64 0, .int .i64 0, .int .i64 0, .int .i64 0, .int .i64 0, .int .i64 0, .int .i64 0, .int .i64 0, .int .i64 0, .int .i64 0, .int .i64 0, .int .i64 0, .int .i64 0, .int .i64 0, .int .i64 0]).heap[S]? = W1.heap[S]? := ⟨hgy1.block _ (by show _ < W1.heap.size; omega) (by simp), hgy1.block _ (by show _ < W1.heap.size; omega) (by simp; omega)⟩
    have hC2 : ((W1.drew.setCells (w.heap.size + 1) 0 [.int .i64 0, .int .i64 0, .int .i64 0, .int .i64 0, .int .i64 0, .int .i64 0, .int .i64 0, .int .i64 0, .int .i64 0, .int .i64 0, .int .i64 0, .int .i64 0, .int .i64 0, .int .i64 0, .int .i64 0, .int .i64 0, .int .i64 0, .int .i64 0, .int .i64 0, .int .i64 0]).setCells (w.heap.size + 2) 0 [.int .i64 e1, .int .i64 e2]).heap[w.heap.size + 3]? = W1.heap[w.heap.size + 3]? ∧ ((W1.drew.setCells (w.heap.size + 1) 0 [.int .i64 0, .int .i64 0, .int .i64 0, .int .i64 0, .int .i64 0, .int .i64 0, .int .i64 0, .int .i64 0, .int .i64 0, .int .i64 0, .int .i64 0, .int .i64 0, .int .i64 0, .int .i64 0, .int .i64 0, .int .i64 0, .int .i64 0, .int .i64 0, .int .i64 0, .int .i64 0]).setCells (w.heap.size + 2) 0 [.int .i64 e1, .int .i64 e2]).heap[S]? = W1.heap[S]? :=
      ⟨(hgy2.block _ (by have h2 := hgy1.size; omega) (by simp)).trans hC1.1, (hgy2.block _ (by have h2 := hgy1.size; omega) (by simp; omega)).trans hC1.2⟩
    have LC1 : ∀ w' : World, (w'.heap[w.heap.size + 3]? = W1.heap[w.heap.size + 3]? ∧ w'.heap[S]? = W1.heap[S]?) → w'.rangeAt (w.heap.size + 3) 0 [.int .i64 0, .int .i64 0, .int .i64 0, .int .i64 0, .int .i64 0, .int .i64 0, .int .i64 0, .int .i64 0, .int .i64 0, .int .i64 0, .int .i64 0, .int .i64 0, .int .i64 0, .int .i64 0, .int .i64 0, .int .i64 0, .int .i64 0, .int .i64 0, .int .i64 0, .int .i64 0] := fun w' h => range_of_block (h.1.trans ((HB2.out.block (w.heap.size + 3) kl).trans HPB.out))
    have LC2 : ∀ w' : World, (w'.heap[w.heap.size + 3]? = W1.heap[w.heap.size + 3]? ∧ w'.heap[S]? = W1.heap[S]?) → w'.rangeAt S 0 [.int .i64 e1, .int .i64 e2] := fun w' h => range_of_block (h.2.trans HSN.out)
    clear hgy1 hp1 hgy2 hp2 kz ks ks2
    have hmix : Try.prog.follows .mixedOrders = true := by kernel_rfl
    refine (wpIn_wide (n := 0)).1 ?_
    refine wpIn_normal (wpIn_region_any hmix (wpAnyE_sound (C := fun w' => w'.heap[w.heap.size + 3]? = W1.heap[w.heap.size + 3]? ∧ w'.heap[S]? = W1.heap[S]?) (E := fun i => false) _ _ _ _ ?_))
    change wpAnyE _ _ _ _ _ _ _ _ _ _ _ (World.drew _)
    refine wpAnyE_takeD (i := 0) (some 15) (v := .agg #[.int .i64 0, .int .i64 0, .int .i64 0, .int .i64 0, .int .i64 0, .int .i64 0, .int .i64 0, .int .i64 0, .int .i64 0, .int .i64 0, .int .i64 0, .int .i64 0, .int .i64 0, .int .i64 0, .int .i64 0, .int .i64 0, .int .i64 0, .int .i64 0, .int .i64 0, .int .i64 0]) (fun _ => trivial) (by kernel_rfl) rfl rfl (by kernel_rfl) (by kernel_rfl) (by kernel_rfl) (by kernel_rfl) (fun _ _ _ h => by cases h.1) hC0 (yieldsC_load rfl 35 (.tmp 4) rfl (w.heap.size + 3) 0 rfl [.int .i64 0, .int .i64 0, .int .i64 0, .int .i64 0, .int .i64 0, .int .i64 0, .int .i64 0, .int .i64 0, .int .i64 0, .int .i64 0, .int .i64 0, .int .i64 0, .int .i64 0, .int .i64 0, .int .i64 0, .int .i64 0, .int .i64 0, .int .i64 0, .int .i64 0, .int .i64 0] _ LC1 Try.underlying35 rfl (by kernel_rfl)) ?_
    simp only [Act.put, List.setIfInBounds_toArray, List.set_cons_succ, List.set_cons_zero]
    refine wpAnyE_takeD (i := 1) (some 16) (v := .agg #[.int .i64 e1, .int .i64 e2]) (fun _ => trivial) (by kernel_rfl) rfl rfl (by kernel_rfl) (by kernel_rfl) (by kernel_rfl) (by kernel_rfl) (fun _ _ _ h => by cases h.1) hC0 (yieldsC_load rfl 29 (.tmp 5) rfl S 0 rfl [.int .i64 e1, .int .i64 e2] _ LC2 Try.underlying29 rfl (by kernel_rfl)) ?_
    simp only [Act.put, List.setIfInBounds_toArray, List.set_cons_succ, List.set_cons_zero]
    refine wpAnyE_ready (rs := [2]) (by kernel_rfl) (by simp) ?_
    refine AllE.cons rfl (fun K hK => ?_) AllE.nil
    refine stepAny_store _ (fun _ => trivial) rfl 35 (.tmp 2) (.tmp 15) rfl (w.heap.size + 1) 0 #[.int .i64 0, .int .i64 0, .int .i64 0, .int .i64 0, .int .i64 0, .int .i64 0, .int .i64 0, .int .i64 0, .int .i64 0, .int .i64 0, .int .i64 0, .int .i64 0, .int .i64 0, .int .i64 0, .int .i64 0, .int .i64 0, .int .i64 0, .int .i64 0, .int .i64 0, .int .i64 0] rfl rfl ht1 (by kernel_rfl) (by simp [Value.oneCell']) ?_
    refine hK _ _ (.inr hC1) ?_
    clear hK K
    refine wpAnyE_ready (rs := [3]) (by kernel_rfl) (by simp) ?_
    refine AllE.cons rfl (fun K hK => ?_) AllE.nil
    refine stepAny_store _ (fun _ => trivial) rfl 29 (.tmp 3) (.tmp 16) rfl (w.heap.size + 2) 0 #[.int .i64 e1, .int .i64 e2] rfl rfl ht2 (by kernel_rfl) (by simp [Value.oneCell']) ?_
    refine hK _ _ (.inr hC2) ?_
    clear hK K
    refine wpAnyE_done (by kernel_rfl) ⟨rfl, ?_⟩ _
    clear ht1 ht2 hC1 hC2 hC0 LC1 LC2
    dsimp only
    generalize (W1.drew.setCells (w.heap.size + 1) 0 [.int .i64 0, .int .i64 0, .int .i64 0, .int .i64 0, .int .i64 0, .int .i64 0, .int .i64 0, .int .i64 0, .int .i64 0, .int .i64 0, .int .i64 0, .int .i64 0, .int .i64 0, .int .i64 0, .int .i64 0, .int .i64 0, .int .i64 0, .int .i64 0, .int .i64 0, .int .i64 0]).setCells (w.heap.size + 2) 0 [.int .i64 e1, .int .i64 e2] = Z at *
    rw [then_normalW]
    go_wp2_with fail
    exact HRET.out _ Z (fun _ => 0) rfl rfl rfl HP1.out HP2.out HBF.out HFF.out

end Go.Proofs.Ytckhgdjcofpijaa
