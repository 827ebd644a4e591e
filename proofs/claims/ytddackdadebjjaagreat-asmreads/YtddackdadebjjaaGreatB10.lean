/-
  Texts laid together in one: CodeEncode, DrawE.
-/
import Derived.WalkSpells
import Derived.WalkMore
import Derived.BigRegion
import Derived.Deep.RegionWith
import Derived.Deep.DrawnRows
import Derived.Test.YtddackdadebjjaaGreatB09
import Derived.Test.YtddackdadebjjaaGreatB08
import Derived.Test.YtddackdadebjjaaGreatB07
import Derived.OrdersIn
import Derived.RangeFuncNested
import Derived.Test.YtddackdadebjjaaGreatB02
/-
  What Shape and Encode of the package code answer, for every module.
-/
namespace Go.Proofs.YtddackdadebjjaaGreat
open Go.RowKit
set_option linter.unusedVariables false
set_option linter.unusedSimpArgs false
set_option maxRecDepth 10000

set_option maxHeartbeats 2000000 in
theorem codeShape_any (gen bound : Int) (a : Option Addr) (n cap : Nat) (l : List InstT) (w : World) (hg0 : 0 ≤ gen) (hg1 : gen < 4294967296) (hb0 : 0 ≤ bound) (hb1 : bound < 4294967296) (hv : InstsV w a l) (hok : InstsOk l) (hl : l.length = n) (hn : 40 * n ≤ 140737488351232) :
    Calls Tryz.prog 5 #[modV gen bound a n cap] w fun e w' => e = .returned (.agg #[.int .i64 (shapeE bound l).1, .int .i64 (shapeE bound l).2]) ∧ Below w.heap.size w w' := by
  have hR := fun wx (hb : Below w.heap.size w wx) => raws_any gen bound a n cap l wx hg0 hg1 hb0 hb1 (hv.below hb) hok hl hn
  generalize (shapeE bound l).1 = e1 at *
  generalize (shapeE bound l).2 = e2 at *
  have HL : Hid (l.length = n) := hl
  unfold modV at *
  clear hv hok hl
  have hB0 : Below w.heap.size w ((w.alloc (.cells #[.int .u32 gen, .int .u32 bound, .slice a n cap] 25)).alloc (.cells #[.int .i64 0, .int .i64 0] 29)) := ((Below.refl _ w).alloc (Nat.le_refl _) _).alloc (by simp) _
  have hC := hR _ hB0
  have kX : ((w.alloc (.cells #[.int .u32 gen, .int .u32 bound, .slice a n cap] 25)).alloc (.cells #[.int .i64 0, .int .i64 0] 29)).heap[w.heap.size + 1]? = some (.cells #[.int .i64 0, .int .i64 0] 29 (0, 0)) := by simpa using alloc_new (w.alloc (.cells #[.int .u32 gen, .int .u32 bound, .slice a n cap] 25)) #[.int .i64 0, .int .i64 0] 29
  have HB0 : Hid _ := hB0
  have HX : Hid _ := kX
  clear hR hB0 kX
  go_enter Tryz.func5, Tryz.ntmps5
  go_wp2_with fail
  have hB0 := HB0.out
  have kX := HX.out
  clear HB0 HX
  generalize (w.alloc (.cells #[.int .u32 gen, .int .u32 bound, .slice a n cap] 25)).alloc (.cells #[.int .i64 0, .int .i64 0] 29) = W0 at *
  refine hC.mono ?_
  rintro e w1 ⟨hb1', ax, cx, m, rfl, hm, _, hV1⟩
  have l0 := (Array.getElem?_eq_some_iff.1 kX).1
  have s1 := hb1'.size
  have hb2 : Below W0.heap.size W0 (w1.alloc (.cells #[.int .i64 e1, .int .i64 e2] 29)) := hb1'.alloc s1 _
  have kX2 := (hb2.block _ l0).trans kX
  obtain ⟨d0, d1, _⟩ := cell_of_two (alloc_new w1 #[.int .i64 e1, .int .i64 e2] 29)
  obtain ⟨hcX, hfX⟩ := one_block kX2
  have c0 := hcX 0
  have c1 := hcX 1
  have f0 := hfX 0
  have f1 := hfX 1
  have hBel := hB0.trans (hb2.mono hB0.size)
  have hB3 := two_put2 kX2 (.int .i64 e1) (.int .i64 e2)
  have hBel2 := hBel.trans ((two_below (w1.alloc (.cells #[.int .i64 e1, .int .i64 e2] 29)) (w.heap.size + 1) (.int .i64 e1) (.int .i64 e2)).mono (by omega))
  have HB3 : Hid _ := hB3
  have HBel2 : Hid _ := hBel2
  have hne : w1.heap.size ≠ w.heap.size + 1 := by omega
  clear hC hb1' hb2 kX kX2 hcX hfX hB0 hBel hB3 hBel2 hV1 hm
  go_wp2
  have hB3 := HB3.out
  have hBel := HBel2.out
  clear HB3 HBel2 c0 c1 f0 f1 d0 d1
  generalize ((w1.alloc _).setCell _ _).setCell _ _ = W at hB3 hBel ⊢
  obtain ⟨hd, _⟩ := one_block hB3
  have d0 := hd 0
  have d1 := hd 1
  refine bodyPost_ret (v := .agg #[.int .i64 e1, .int .i64 e2]) ?_ rfl ⟨rfl, hBel⟩
  simp [results, Tryz.results5, go_sem, d0, d1]

end Go.Proofs.YtddackdadebjjaaGreat

/-
  As Draw, where some operations of the region (those of E) may leave the class: each of them waits for every operation that is taken first.
-/
namespace Go.Proofs.YtddackdadebjjaaGreat
open Go.RowKit
set_option linter.unusedVariables false

section
variable {F : Fence} {n : Nat} {P : Program} {md : Region.Mode} {ops : Array Oper} {C : World → Prop} {E : Nat → Bool} {Q : Exit → Act → World → Prop}

/-- As wpAnyIn, and each operation leaves a world of the class. -/
def wpAnyE (F : Fence) (n : Nat) (P : Program) (md : Region.Mode) (ops : Array Oper) (C : World → Prop) (E : Nat → Bool) (Q : Exit → Act → World → Prop) : Nat → Array Bool → Act → World → Prop
  | 0, listed, a, w => Region.ready md ops listed = [] ∧ Q .normal a w
  | fuel + 1, listed, a, w => (Region.ready md ops listed = [] → Q .normal a w) ∧ ∀ i ∈ Region.ready md ops listed, wpOpIn F n P ops Q i (fun a' w' => (E i = true ∨ C w') ∧ wpAnyE F n P md ops C E Q fuel (listed.setIfInBounds i true) a' w') a w

theorem wpAnyE_sound : ∀ (fuel : Nat) (listed : Array Bool) (a : Act) (w : World), wpAnyE F n P md ops C E Q fuel listed a w → wpAnyIn F n P md ops Q fuel listed a w
  | 0, _, _, _, h => h
  | fuel + 1, listed, a, w, h => ⟨h.1, fun i hi => wpOpIn_mono (fun a' w' h' => wpAnyE_sound fuel _ a' w' h'.2) (h.2 i hi)⟩

theorem wpAnyE_done {listed : Array Bool} {a : Act} {w : World} (hr : Region.ready md ops listed = []) (h : Q .normal a w) : ∀ fuel, wpAnyE F n P md ops C E Q fuel listed a w
  | 0 => ⟨hr, h⟩
  | _ + 1 => ⟨fun _ => h, by rw [hr]; simp⟩

/-- An operation that may leave the class waits for i. -/
def waits (md : Region.Mode) (ops : Array Oper) (E : Nat → Bool) (i : Nat) : Bool := (List.range ops.size).all fun j => !E j || j == i || (match ops[j]? with | some o => o.after.any fun e => Region.binds md e && e.on == i | none => true)
theorem waits_spec {i : Nat} (h : waits md ops E i = true) {j : Nat} {oj : Oper} (hj : ops[j]? = some oj) (hE : E j = true) (hji : j ≠ i) : ∃ e ∈ oj.after, Region.binds md e = true ∧ e.on = i := by
  have hlt := (Array.getElem?_eq_some_iff.1 hj).1
  have := List.all_eq_true.1 h j (List.mem_range.2 hlt)
  simp only [hE, Bool.not_true, Bool.false_or, hj, Bool.or_eq_true, beq_iff_eq, hji, false_or] at this
  obtain ⟨e, he, h2⟩ := Array.any_eq_true'.1 this
  simp only [Bool.and_eq_true, beq_iff_eq] at h2
  exact ⟨e, he, h2.1, h2.2⟩

theorem wpAnyE_first {i : Nat} {oi : Oper} {v : Value} (hF : ∀ f, F.fn f) (hnd : ∀ (j : Nat) (o : Oper), ops[j]? = some o → ∀ c, o.op ≠ .defer c) (hi : ops[i]? = some oi) (hsel : ∀ (j : Nat) (o : Oper) cs b, ops[j]? = some o → o.op ≠ .select cs b)
    (hQ : ∀ c a w, Q (.panic c) (a.put oi.dst v) w → Q (.panic c) a w) (hE : waits md ops E i = true) : ∀ (fuel : Nat) (listed : Array Bool) (a : Act) (w : World),
      (∀ j oj, ops[j]? = some oj → j ≠ i → listed.getD j true = false → (∀ e ∈ oj.after, Region.binds md e = true → e.on ≠ i) → oi.apart ops oj = true) →
      i ∈ Region.ready md ops listed → YieldsC P ops C oi v a → C w → wpAnyE F n P md ops C E Q fuel (listed.setIfInBounds i true) (a.put oi.dst v) w → wpAnyE F n P md ops C E Q (fuel + 1) listed a w := by
  intro fuel
  induction fuel with
  | zero =>
    intro listed a w _ hr hy hC H
    refine ⟨fun h => (by rw [h] at hr; cases hr), fun j hj => ?_⟩
    by_cases hji : j = i
    · subst hji; exact hy.op hF (hnd j oi hi) hi hC ⟨.inr hC, H⟩
    · have := ready_mono hj hji
      rw [H.1] at this
      cases this
  | succ fuel ih =>
    intro listed a w hfree hr hy hC H
    refine ⟨fun h => (by rw [h] at hr; cases hr), fun j hj => ?_⟩
    by_cases hji : j = i
    · subst hji; exact hy.op hF (hnd j oi hi) hi hC ⟨.inr hC, H⟩
    · obtain ⟨hjun, oj, hoj, hall⟩ := mem_ready.1 hj
      have hnot : ∀ e ∈ oj.after, Region.binds md e = true → e.on ≠ i := fun e he hb heq => by
        have h1 := hall e he hb
        have h0 := (mem_ready.1 hr).1
        rw [heq] at h1
        rcases Nat.lt_or_ge i listed.size with h' | h'
        · simp [h'] at h0 h1; rw [h0] at h1; cases h1
        · simp [Array.getElem?_eq_none h'] at h1
      have hap := hfree j oj hoj hji hjun hnot
      have h2 := opIn_put hF (hnd j oj hoj) hoj hap (fun cs b => hsel j oj cs b hoj) hQ (H.2 j (ready_mono hj hji))
      refine wpOpIn_mono (fun a' w' h3 => ?_) h2
      obtain ⟨⟨ds, u, rfl⟩, hC0, h4⟩ := h3
      have hC' : C w' := by
        rcases hC0 with hEj | hC'
        · obtain ⟨e, he, hb, hon⟩ := waits_spec hE hoj hEj hji
          exact absurd hon (hnot e he hb)
        · exact hC'
      refine ⟨.inr hC', ih (listed.setIfInBounds j true) _ w' (fun k ok hk hki hun hno => hfree k ok hk hki ?_ hno) (ready_mono hr (Ne.symm hji)) (hy.put hap (fun cs b => hsel i oi cs b hi)) hC' ?_⟩
      · by_cases hjk : j = k
        · subst hjk; exact hjun
        · rw [getD_set_ne true hjk] at hun; exact hun
      · rw [Array.setIfInBounds_comm _ _ hji]
        exact h4

theorem wpAnyE_take {i : Nat} {oi : Oper} {v : Value} {fuel : Nat} {listed : Array Bool} {a : Act} {w : World} (hF : ∀ f, F.fn f) (hnd : noDefer ops = true) (hi : ops[i]? = some oi) (hs : Region.noSelect ops = true) (hf : Region.free md ops listed i = true) (hr : (Region.ready md ops listed).contains i = true)
    (hE : waits md ops E i = true) (hQ : ∀ c a w, Q (.panic c) (a.put oi.dst v) w → Q (.panic c) a w) (hC : C w) (hy : YieldsC P ops C oi v a) (h : wpAnyE F n P md ops C E Q fuel (listed.setIfInBounds i true) (a.put oi.dst v) w) : wpAnyE F n P md ops C E Q (fuel + 1) listed a w :=
  wpAnyE_first hF (noDefer_spec hnd) hi (Region.noSelect_spec hs) hQ hE fuel listed a w (Region.free_spec hi hf) (by simpa using hr) hy hC h

/-- The same, with the temporary named. -/
theorem wpAnyE_takeD {i : Nat} {oi : Oper} (d : Option Tmp) {v : Value} {fuel : Nat} {listed : Array Bool} {a : Act} {w : World} (hF : ∀ f, F.fn f) (hnd : noDefer ops = true) (hi : ops[i]? = some oi) (hd : oi.dst = d) (hs : Region.noSelect ops = true) (hf : Region.free md ops listed i = true) (hr : (Region.ready md ops listed).contains i = true)
    (hE : waits md ops E i = true) (hQ : ∀ c a w, Q (.panic c) (a.put d v) w → Q (.panic c) a w) (hC : C w) (hy : YieldsC P ops C oi v a) (h : wpAnyE F n P md ops C E Q fuel (listed.setIfInBounds i true) (a.put d v) w) : wpAnyE F n P md ops C E Q (fuel + 1) listed a w := by
  subst hd
  exact wpAnyE_take hF hnd hi hs hf hr hE hQ hC hy h

/-- The operations that may come up, one by one. -/
def AllE (F : Fence) (n : Nat) (P : Program) (md : Region.Mode) (ops : Array Oper) (C : World → Prop) (E : Nat → Bool) (Q : Exit → Act → World → Prop) (fuel : Nat) (listed : Array Bool) (a : Act) (w : World) (rs : List Nat) : Prop :=
  ∀ i ∈ rs, wpOpIn F n P ops Q i (fun a' w' => (E i = true ∨ C w') ∧ wpAnyE F n P md ops C E Q fuel (listed.setIfInBounds i true) a' w') a w
theorem AllE.nil {fuel : Nat} {listed : Array Bool} {a : Act} {w : World} : AllE F n P md ops C E Q fuel listed a w [] := fun _ h => by cases h
theorem AllE.cons {fuel : Nat} {listed : Array Bool} {a : Act} {w : World} {i : Nat} {o : Oper} {rs : List Nat} (ho : ops[i]? = some o)
    (h : ∀ K' : Act → World → Prop, (∀ a w, (E i = true ∨ C w) → wpAnyE F n P md ops C E Q fuel (listed.setIfInBounds i true) a w → K' a w) → if Region.wanted o (yielded ops a.tmps) = true then Oper.wpIn F n P o a w K' Q else (∀ f, o.about P w a.eval = some f → F.fn f) ∧ K' (a.put o.dst undef) w)
    (hs : AllE F n P md ops C E Q fuel listed a w rs) : AllE F n P md ops C E Q fuel listed a w (i :: rs) := fun j hj => by
  rcases List.mem_cons.1 hj with rfl | hj
  · exact wpOpIn_step ho (fun K' hK => h K' (fun a w hC hw => hK a w ⟨hC, hw⟩))
  · exact hs j hj
theorem wpAnyE_ready {rs : List Nat} {fuel : Nat} {listed : Array Bool} {a : Act} {w : World} (hr : Region.ready md ops listed = rs) (hne : rs ≠ []) (h : AllE F n P md ops C E Q fuel listed a w rs) : wpAnyE F n P md ops C E Q (fuel + 1) listed a w :=
  ⟨fun h0 => absurd (hr ▸ h0) hne, hr ▸ h⟩

end

end Go.Proofs.YtddackdadebjjaaGreat
