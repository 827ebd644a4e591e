/-
  Texts laid together in one: DrawE, Law04One, Law04Awake, LawCodeBack.
-/
import Derived.OrdersIn
import Derived.RangeFuncNested
import Derived.Test.YtpggcpnjcalfaaaB12
import Derived.WalkKit
import Derived.OwnWalkIn
import Derived.TacticsInMore
import Derived.WalkSpells
import Derived.Test.YtpggcpnjcalfaaaB18
import Derived.Test.YtpggcpnjcalfaaaB10
import Derived.WalkMore
import Derived.Test.YtpggcpnjcalfaaaB01
/-
  As Draw, where some operations of the region (those of E) may leave the class: each of them waits for every operation that is taken first.
-/
namespace Go.Proofs.Ytpggcpnjcalfaaa
open Go.RowKit
set_option linter.unusedVariables false

section
variable {F : Fence} {n : Nat} {P : Program} {md : Region.Mode} {ops : Array Oper} {C : World → Prop} {E : Nat → Bool} {Q : Exit → Act → World → Prop}

/-- As wpAnyIn, and each operation leaves a world of the class. -/
def wpAnyE (F : Fence) (n : Nat) (P : Program) (md : Region.Mode) (ops : Array Oper) (C : World → Prop) (E : Nat → Bool) (Q : Exit → Act → World → Prop) : Nat → Array Bool → Act → World → Prop
  | 0, listed, a, w => Region.ready md ops listed = [] ∧ Q .normal a w
  | fuel + 1, listed, a, w => (Region.ready md ops listed = [] → Q .normal a w) ∧ ∀ i ∈ Region.ready md ops listed, wpOpIn F n P ops Q i (fun a' w' => (E i = true ∨ C w') ∧ wpAnyE F n P md ops C E Q fuel (listed.setIfInBounds i true) a' w') a w

theorem wpAnyE_sound : ∀ (fuel : Nat) (listed : Array Bool) (a : Act) (w : World), wpAnyE F n P md ops C E Q fuel listed a w → wpAnyIn F n P md ops Q fuel listed a w
  | 0, _, _, _, h => h
  | fuel + 1, listed, a, w, h => ⟨h.1, fun i hi => wpOpIn_mono (fun a' w' h' => wpAnyE_sound fuel _ a' w' h'.2) (h.2 i hi)⟩

theorem wpAnyE_done {listed : Array Bool} {a : Act} {w : World} (hr : Region.ready md ops listed = []) (h : Q .normal a w) : ∀ fuel, wpAnyE F n P md ops C E Q fuel listed a w
  | 0 => ⟨hr, h⟩
  | _ + 1 => ⟨fun _ => h, by rw [hr]; simp⟩

/-- An operation that may leave the class waits for i. -/
def waits (md : Region.Mode) (ops : Array Oper) (E : Nat → Bool) (i : Nat) : Bool := (List.range ops.size).all fun j => !E j || j == i || (match ops[j]? with | some o => o.after.any fun e => Region.binds md e && e.on == i | none => true)
theorem waits_spec {i : Nat} (h : waits md ops E i = true) {j : Nat} {oj : Oper} (hj : ops[j]? = some oj) (hE : E j = true) (hji : j ≠ i) : ∃ e ∈ oj.after, Region.binds md e = true ∧ e.on = i := by
  have hlt := (Array.getElem?_eq_some_iff.1 hj).1
  have := List.all_eq_true.1 h j (List.mem_range.2 hlt)
  simp only [hE, Bool.not_true, Bool.false_or, hj, Bool.or_eq_true, beq_iff_eq, hji, false_or] at this
  obtain ⟨e, he, h2⟩ := Array.any_eq_true'.1 this
  simp only [Bool.and_eq_true, beq_iff_eq] at h2
  exact ⟨e, he, h2.1, h2.2⟩

theorem wpAnyE_first {i : Nat} {oi : Oper} {v : Value} (hF : ∀ f, F.fn f) (hnd : ∀ (j : Nat) (o : Oper), ops[j]? = some o → ∀ c, o.op ≠ .defer c) (hi : ops[i]? = some oi) (hsel : ∀ (j : Nat) (o : Oper) cs b, ops[j]? = some o → o.op ≠ .select cs b)
    (hQ : ∀ c a w, Q (.panic c) (a.put oi.dst v) w → Q (.panic c) a w) (hE : waits md ops E i = true) : ∀ (fuel : Nat) (listed : Array Bool) (a : Act) (w : World),
      (∀ j oj, ops[j]? = some oj → j ≠ i → listed.getD j true = false → (∀ e ∈ oj.after, Region.binds md e = true → e.on ≠ i) → oi.apart ops oj = true) →
      i ∈ Region.ready md ops listed → YieldsC P ops C oi v a → C w → wpAnyE F n P md ops C E Q fuel (listed.setIfInBounds i true) (a.put oi.dst v) w → wpAnyE F n P md ops C E Q (fuel + 1) listed a w := by
  intro fuel
  induction fuel with
  | zero =>
    intro listed a w _ hr hy hC H
    refine ⟨fun h => (by rw [h] at hr; cases hr), fun j hj => ?_⟩
    by_cases hji : j = i
    · subst hji; exact hy.op hF (hnd j oi hi) hi hC ⟨.inr hC, H⟩
    · have := ready_mono hj hji
      rw [H.1] at this
      cases this
  | succ fuel ih =>
    intro listed a w hfree hr hy hC H
    refine ⟨fun h => (by rw [h] at hr; cases hr), fun j hj => ?_⟩
    by_cases hji : j = i
    · subst hji; exact hy.op hF (hnd j oi hi) hi hC ⟨.inr hC, H⟩
    · obtain ⟨hjun, oj, hoj, hall⟩ := mem_ready.1 hj
      have hnot : ∀ e ∈ oj.after, Region.binds md e = true → e.on ≠ i := fun e he hb heq => by
        have h1 := hall e he hb
        have h0 := (mem_ready.1 hr).1
        rw [heq] at h1
        rcases Nat.lt_or_ge i listed.size with h' | h'
        · simp [h'] at h0 h1; rw [h0] at h1; cases h1
        · simp [Array.getElem?_eq_none h'] at h1
      have hap := hfree j oj hoj hji hjun hnot
      have h2 := opIn_put hF (hnd j oj hoj) hoj hap (fun cs b => hsel j oj cs b hoj) hQ (H.2 j (ready_mono hj hji))
      refine wpOpIn_mono (fun a' w' h3 => ?_) h2
      obtain ⟨⟨ds, u, rfl⟩, hC0, h4⟩ := h3
      have hC' : C w' := by
        rcases hC0 with hEj | hC'
        · obtain ⟨e, he, hb, hon⟩ := waits_spec hE hoj hEj hji
          exact absurd hon (hnot e he hb)
        · exact hC'
      refine ⟨.inr hC', ih (listed.setIfInBounds j true) _ w' (fun k ok hk hki hun hno => hfree k ok hk hki ?_ hno) (ready_mono hr (Ne.symm hji)) (hy.put hap (fun cs b => hsel i oi cs b hi)) hC' ?_⟩
      · by_cases hjk : j = k
        · subst hjk; exact hjun
        · rw [getD_set_ne true hjk] at hun; exact hun
      · rw [Array.setIfInBounds_comm _ _ hji]
        exact h4

theorem wpAnyE_take {i : Nat} {oi : Oper} {v : Value} {fuel : Nat} {listed : Array Bool} {a : Act} {w : World} (hF : ∀ f, F.fn f) (hnd : noDefer ops = true) (hi : ops[i]? = some oi) (hs : Region.noSelect ops = true) (hf : Region.free md ops listed i = true) (hr : (Region.ready md ops listed).contains i = true)
    (hE : waits md ops E i = true) (hQ : ∀ c a w, Q (.panic c) (a.put oi.dst v) w → Q (.panic c) a w) (hC : C w) (hy : YieldsC P ops C oi v a) (h : wpAnyE F n P md ops C E Q fuel (listed.setIfInBounds i true) (a.put oi.dst v) w) : wpAnyE F n P md ops C E Q (fuel + 1) listed a w :=
  wpAnyE_first hF (noDefer_spec hnd) hi (Region.noSelect_spec hs) hQ hE fuel listed a w (Region.free_spec hi hf) (by simpa using hr) hy hC h

/-- The same, with the temporary named. -/
theorem wpAnyE_takeD {i : Nat} {oi : Oper} (d : Option Tmp) {v : Value} {fuel : Nat} {listed : Array Bool} {a : Act} {w : World} (hF : ∀ f, F.fn f) (hnd : noDefer ops = true) (hi : ops[i]? = some oi) (hd : oi.dst = d) (hs : Region.noSelect ops = true) (hf : Region.free md ops listed i = true) (hr : (Region.ready md ops listed).contains i = true)
    (hE : waits md ops E i = true) (hQ : ∀ c a w, Q (.panic c) (a.put d v) w → Q (.panic c) a w) (hC : C w) (hy : YieldsC P ops C oi v a) (h : wpAnyE F n P md ops C E Q fuel (listed.setIfInBounds i true) (a.put d v) w) : wpAnyE F n P md ops C E Q (fuel + 1) listed a w := by
  subst hd
  exact wpAnyE_take hF hnd hi hs hf hr hE hQ hC hy h

/-- The operations that may come up, one by one. -/
def AllE (F : Fence) (n : Nat) (P : Program) (md : Region.Mode) (ops : Array Oper) (C : World → Prop) (E : Nat → Bool) (Q : Exit → Act → World → Prop) (fuel : Nat) (listed : Array Bool) (a : Act) (w : World) (rs : List Nat) : Prop :=
  ∀ i ∈ rs, wpOpIn F n P ops Q i (fun a' w' => (E i = true ∨ C w') ∧ wpAnyE F n P md ops C E Q fuel (listed.setIfInBounds i true) a' w') a w
theorem AllE.nil {fuel : Nat} {listed : Array Bool} {a : Act} {w : World} : AllE F n P md ops C E Q fuel listed a w [] := fun _ h => by cases h
theorem AllE.cons {fuel : Nat} {listed : Array Bool} {a : Act} {w : World} {i : Nat} {o : Oper} {rs : List Nat} (ho : ops[i]? = some o)
    (h : ∀ K' : Act → World → Prop, (∀ a w, (E i = true ∨ C w) → wpAnyE F n P md ops C E Q fuel (listed.setIfInBounds i true) a w → K' a w) → if Region.wanted o (yielded ops a.tmps) = true then Oper.wpIn F n P o a w K' Q else (∀ f, o.about P w a.eval = some f → F.fn f) ∧ K' (a.put o.dst undef) w)
    (hs : AllE F n P md ops C E Q fuel listed a w rs) : AllE F n P md ops C E Q fuel listed a w (i :: rs) := fun j hj => by
  rcases List.mem_cons.1 hj with rfl | hj
  · exact wpOpIn_step ho (fun K' hK => h K' (fun a w hC hw => hK a w ⟨hC, hw⟩))
  · exact hs j hj
theorem wpAnyE_ready {rs : List Nat} {fuel : Nat} {listed : Array Bool} {a : Act} {w : World} (hr : Region.ready md ops listed = rs) (hne : rs ≠ []) (h : AllE F n P md ops C E Q fuel listed a w rs) : wpAnyE F n P md ops C E Q (fuel + 1) listed a w :=
  ⟨fun h0 => absurd (hr ▸ h0) hne, hr ▸ h⟩

end

end Go.Proofs.Ytpggcpnjcalfaaa

/-
  one of the laws of layer 4 answers a module of one instruction, in new memory.
-/
namespace Go.Proofs.Ytpggcpnjcalfaaa
open Go.RowKit Go.Shelf
attribute [local go_sem] Oper.semAt_some
set_option linter.unusedVariables false
set_option linter.unusedSimpArgs false

/-- That instruction. -/
def oneI : InstT := (128, 1, 2, [(1, 3, ⟨#[]⟩), (1, 4, ⟨#[]⟩)])

theorem kitId_any (n : Int) (w : World) : Calls Try.prog 50 #[.int .u32 n] w fun e w' => e = .returned (.agg #[.int .u8 1, .int .u32 n, .string ⟨#[]⟩]) ∧ Below w.heap.size w w' := by
  go_enter Try.func50, Try.ntmps50
  go_wp2
  refine bodyPost_ret (v := .agg #[.int .u8 1, .int .u32 n, .string ⟨#[]⟩]) ?_ rfl ⟨rfl, ?_⟩
  · simp [results, Try.results50, go_sem]
  · exact (Below.refl _ _).alloc (Nat.le_refl _) _

set_option maxRecDepth 100000 in
set_option maxHeartbeats 4000000 in
theorem one_any (w : World) : Calls Try.prog 31 #[] w fun e w' => ∃ g c, e = .returned (modV 3 9 (some ⟨g, 0, none⟩) 1 c) ∧ InstsV w' (some ⟨g, 0, none⟩) [oneI] ∧ Below w.heap.size w w' := by
  have h3 := fun w => kitId_any 3 w
  have h4 := fun w => kitId_any 4 w
  obtain ⟨i0, hi, hz0, hz1, hz2⟩ := info_parts CopyModule.info
  have hmix : Try.prog.follows .mixedOrders = true := by kernel_rfl
  unfold modV
  refine (callsIn_wide (n := 0)).1 ?_
  refine callsIn_of_wp_marks Try.func31 rfl trivial ?_ rfl
  simp only [Try.ntmps31, List.size_toArray, List.length_cons, List.length_nil, Nat.reduceAdd, Nat.reduceSub, Array.replicate_succ, Array.replicate_zero, List.push_toArray, List.append_toArray, List.nil_append, List.cons_append]
  gi_wp2_with fail
  have hB0 : Below w.heap.size w ((w.alloc (.cells #[.int .u32 0, .int .u32 0, .slice none 0 0] 45)).alloc (.cells #[.int .u32 3, .int .u32 9, .slice none 0 0] 45)) := ((Below.refl _ w).alloc (Nat.le_refl _) _).alloc (by simp) _
  have kR : ((w.alloc (.cells #[.int .u32 0, .int .u32 0, .slice none 0 0] 45)).alloc (.cells #[.int .u32 3, .int .u32 9, .slice none 0 0] 45)).heap[w.heap.size]? = some (.cells #[.int .u32 0, .int .u32 0, .slice none 0 0] 45 (0, 0)) := (Below.heap_alloc _ _ _ (by simp)).trans (alloc_new w _ _)
  have kM : ((w.alloc (.cells #[.int .u32 0, .int .u32 0, .slice none 0 0] 45)).alloc (.cells #[.int .u32 3, .int .u32 9, .slice none 0 0] 45)).heap[w.heap.size + 1]? = some (.cells #[.int .u32 3, .int .u32 9, .slice none 0 0] 45 (0, 0)) := by simpa using alloc_new (w.alloc (.cells #[.int .u32 0, .int .u32 0, .slice none 0 0] 45)) #[.int .u32 3, .int .u32 9, .slice none 0 0] 45
  generalize (w.alloc (.cells #[.int .u32 0, .int .u32 0, .slice none 0 0] 45)).alloc (.cells #[.int .u32 3, .int .u32 9, .slice none 0 0] 45) = W at *
  have lM := (Array.getElem?_eq_some_iff.1 kM).1
  have hC0 : Below W.heap.size W W.drew := below_drew W
  have L2 : Hid (∀ w', Below W.heap.size W w' → w'.cell? ⟨w.heap.size + 1, 2, none⟩ = some (.slice none 0 0)) := fun w' hC => (one_block ((hC.block _ lM).trans kM)).1 2
  refine wpIn_normal (wpIn_region_any hmix (wpAnyE_sound (C := Below W.heap.size W) (E := fun i => i == 9) _ _ _ _ ?_))
  change wpAnyE _ _ _ _ _ _ _ _ _ _ _ (World.drew _)
  refine wpAnyE_takeD (i := 0) (some 3) (v := .pointer (some ⟨w.heap.size + 1, 2, none⟩)) (fun _ => trivial) (by kernel_rfl) rfl rfl (by kernel_rfl) (by kernel_rfl) (by kernel_rfl) (by kernel_rfl) (fun _ _ _ h => by cases h.1) hC0 (Or.inl ⟨by kernel_rfl, fun w' hC => by clear hC; go_simp⟩) ?_
  simp only [Act.put, List.setIfInBounds_toArray, List.set_cons_succ, List.set_cons_zero]
  refine wpAnyE_takeD (i := 1) (some 4) (v := .slice none 0 0) (fun _ => trivial) (by kernel_rfl) rfl rfl (by kernel_rfl) (by kernel_rfl) (by kernel_rfl) (by kernel_rfl) (fun _ _ _ h => by cases h.1) hC0 (Or.inl ⟨by kernel_rfl, fun w' hC => by have e := L2.out w' hC; clear hC; go_simp⟩) ?_
  simp only [Act.put, List.setIfInBounds_toArray, List.set_cons_succ, List.set_cons_zero]
  refine wpAnyE_ready (rs := [2]) (by kernel_rfl) (by simp) ?_
  refine AllE.cons rfl (fun K hK => ?_) AllE.nil
  go_simp
  refine ⟨trivial, rfl, (callsIn_wide.2 (h3 _)).mono ?_⟩
  rintro e w3 ⟨rfl, hb3⟩
  dsimp only
  have hC3 : Below W.heap.size W w3 := hC0.trans hb3
  refine hK _ _ (.inr hC3) ?_
  clear hK K hb3
  refine wpAnyE_ready (rs := [3]) (by kernel_rfl) (by simp) ?_
  refine AllE.cons rfl (fun K hK => ?_) AllE.nil
  go_simp
  refine ⟨trivial, rfl, (callsIn_wide.2 (h4 _)).mono ?_⟩
  rintro e w4 ⟨rfl, hb4⟩
  dsimp only
  have hC4 : Below W.heap.size W w4 := hC3.trans (hb4.mono hC3.size)
  refine hK _ _ (.inr hC4) ?_
  clear hK K hb4
  refine wpAnyE_ready (rs := [4]) (by kernel_rfl) (by simp) ?_
  refine AllE.cons rfl (fun K hK => ?_) AllE.nil
  go_simp
  have hC5 : Below W.heap.size W (w4.alloc (.cells #[.int .u8 1, .int .u32 3, .string ⟨#[]⟩, .int .u8 1, .int .u32 4, .string ⟨#[]⟩] 65)) := hC4.alloc hC4.size _
  refine hK _ _ (.inr hC5) ?_
  clear hK K
  refine wpAnyE_ready (rs := [5]) (by kernel_rfl) (by simp) ?_
  refine AllE.cons rfl (fun K hK => ?_) AllE.nil
  go_simp
  refine hK _ _ (.inr hC5) ?_
  clear hK K
  refine wpAnyE_ready (rs := [6]) (by kernel_rfl) (by simp) ?_
  refine AllE.cons rfl (fun K hK => ?_) AllE.nil
  go_simp
  have hC6 : Below W.heap.size W ((w4.alloc (.cells #[.int .u8 1, .int .u32 3, .string ⟨#[]⟩, .int .u8 1, .int .u32 4, .string ⟨#[]⟩] 65)).alloc (.cells #[.int .u16 128, .int .u32 1, .int .u32 2, .slice (some ⟨w4.heap.size, 0, none⟩) 2 2] 29)) := hC5.alloc hC5.size _
  refine hK _ _ (.inr hC6) ?_
  clear hK K
  refine wpAnyE_ready (rs := [7]) (by kernel_rfl) (by simp) ?_
  refine AllE.cons rfl (fun K hK => ?_) AllE.nil
  have hA : ArgsV ((w4.alloc (.cells #[.int .u8 1, .int .u32 3, .string ⟨#[]⟩, .int .u8 1, .int .u32 4, .string ⟨#[]⟩] 65)).alloc (.cells #[.int .u16 128, .int .u32 1, .int .u32 2, .slice (some ⟨w4.heap.size, 0, none⟩) 2 2] 29)) (some ⟨w4.heap.size, 0, none⟩) [(1, 3, ⟨#[]⟩), (1, 4, ⟨#[]⟩)] := by
    have kA := (Below.heap_alloc (w4.alloc (.cells #[.int .u8 1, .int .u32 3, .string ⟨#[]⟩, .int .u8 1, .int .u32 4, .string ⟨#[]⟩] 65)) (.cells #[.int .u16 128, .int .u32 1, .int .u32 2, .slice (some ⟨w4.heap.size, 0, none⟩) 2 2] 29) w4.heap.size (by simp)).trans (alloc_new w4 #[.int .u8 1, .int .u32 3, .string ⟨#[]⟩, .int .u8 1, .int .u32 4, .string ⟨#[]⟩] 65)
    obtain ⟨hc, _⟩ := one_block kA
    intro j hj
    refine ⟨w4.heap.size, 0, rfl, by simp; omega, ?_⟩
    match j, hj with
    | 0, _ => exact ⟨hc 0, hc 1, hc 2⟩
    | 1, _ => exact ⟨hc 3, hc 4, hc 5⟩
  have sW : W.heap.size ≤ w4.heap.size := hC4.size
  refine stepAny_append _ (fun _ => trivial) rfl (.tmp 4) (.tmp 9) 43 rfl W.heap.size 29 i0 (.agg #[.int .u16 0, .int .u32 0, .int .u32 0, .slice none 0 0]) 4 40 Try.underlying43 hi hz0 hz1 hz2 rfl (by decide) (.slice none 0 0) 0 [] rfl (World.ownsRow_nil _ _ _ _) ⟨w4.heap.size + 1, 0, none⟩ 1 1 [.int .u16 128, .int .u32 1, .int .u32 2, .slice (some ⟨w4.heap.size, 0, none⟩) 2 2] rfl rfl (World.news_of_block (cs := #[.int .u16 128, .int .u32 1, .int .u32 2, .slice (some ⟨w4.heap.size, 0, none⟩) 2 2]) (t := 29) (fr := (0, 0)) (by simpa using alloc_new (w4.alloc (.cells #[.int .u8 1, .int .u32 3, .string ⟨#[]⟩, .int .u8 1, .int .u32 4, .string ⟨#[]⟩] 65)) #[.int .u16 128, .int .u32 1, .int .u32 2, .slice (some ⟨w4.heap.size, 0, none⟩) 2 2] 29)) (by intro u hu; simp at hu; rcases hu with rfl | rfl | rfl | rfl <;> rfl) (by decide) (by unfold maxLen; decide) (by decide) (by simp; omega) ?_
  intro g7 cap7 w7 hown7 hgr7
  have hb7 : Below ((w4.alloc (.cells #[.int .u8 1, .int .u32 3, .string ⟨#[]⟩, .int .u8 1, .int .u32 4, .string ⟨#[]⟩] 65)).alloc (.cells #[.int .u16 128, .int .u32 1, .int .u32 2, .slice (some ⟨w4.heap.size, 0, none⟩) 2 2] 29)).heap.size ((w4.alloc (.cells #[.int .u8 1, .int .u32 3, .string ⟨#[]⟩, .int .u8 1, .int .u32 4, .string ⟨#[]⟩] 65)).alloc (.cells #[.int .u16 128, .int .u32 1, .int .u32 2, .slice (some ⟨w4.heap.size, 0, none⟩) 2 2] 29)) w7 := (Below.refl _ _).grown hgr7 (Nat.le_refl _) (fun k e => by simp [Value.ownBlock] at e)
  have hC7 : Below W.heap.size W w7 := hC6.trans (hb7.mono hC6.size)
  have hA7 := hA.below hb7
  have hV7 : InstsV w7 (some ⟨g7, 0, none⟩) [oneI] := by
    intro j hj
    obtain rfl : j = 0 := by simp at hj; exact hj
    have c0 := hown7.cellAt 0 (by decide)
    have c1 := hown7.cellAt 1 (by decide)
    have c2 := hown7.cellAt 2 (by decide)
    have c3 := hown7.cellAt 3 (by decide)
    exact ⟨g7, 0, some ⟨w4.heap.size, 0, none⟩, 2, 2, rfl, World.block_lt_of_cell? _ _ c0, c0, c1, c2, c3, rfl, hA7, Nat.le_refl _⟩
  have hg7 : W.heap.size ≤ g7 := (hown7.lt g7 rfl).1
  have HVX : Hid (∀ X : World, (∀ k, W.heap.size ≤ k → X.heap[k]? = w7.heap[k]?) → w7.heap.size ≤ X.heap.size → InstsV X (some ⟨g7, 0, none⟩) [oneI]) := by
    intro X hX hs j hj
    obtain ⟨b, off, aj, cj, nj, e, hlt, c1, c2, c3, c4, c5, c6, c7⟩ := hV7 j hj
    obtain rfl : j = 0 := by simp at hj; exact hj
    have hc0 := hown7.cellAt 3 (by decide)
    cases e
    have e4 : aj = some ⟨w4.heap.size, 0, none⟩ := by
      rw [show w7.cell? ⟨g7, 0 + 0 * 4 + 3, none⟩ = w7.cell? ⟨g7, 3, none⟩ from rfl, hc0] at c4
      simp at c4
      exact c4.1.symm
    subst e4
    have cell : ∀ b o, W.heap.size ≤ b → X.cell? ⟨b, o, none⟩ = w7.cell? ⟨b, o, none⟩ := fun b o hb => World.cell?_of_block (hX b hb)
    refine ⟨g7, 0, some ⟨w4.heap.size, 0, none⟩, cj, nj, rfl, by omega, (cell _ _ hg7).trans c1, (cell _ _ hg7).trans c2, (cell _ _ hg7).trans c3, (cell _ _ hg7).trans c4, c5, ?_, c7⟩
    intro i hi
    obtain ⟨b, off, e, hlt, a1, a2, a3⟩ := c6 i hi
    cases e
    exact ⟨_, _, rfl, by omega, (cell _ _ sW).trans a1, (cell _ _ sW).trans a2, (cell _ _ sW).trans a3⟩
  simp only [Act.put, List.setIfInBounds_toArray, List.set_cons_succ, List.set_cons_zero]
  refine hK _ _ (.inr hC7) ?_
  clear hK K hgr7 hb7 hA hA7 hown7
  refine wpAnyE_ready (rs := [8]) (by kernel_rfl) (by simp) ?_
  refine AllE.cons rfl (fun K hK => ?_) AllE.nil
  go_simp
  refine hK _ _ (.inr hC7) ?_
  clear hK K
  refine wpAnyE_ready (rs := [9]) (by kernel_rfl) (by simp) ?_
  refine AllE.cons rfl (fun K hK => ?_) AllE.nil
  have kM7 := (hC7.block _ lM).trans kM
  have kR7 := (hC7.block _ (by omega)).trans kR
  obtain ⟨m7, mf7⟩ := one_block kM7
  have y2 := m7 2
  have yf := mf7 2
  go_simp
  refine hK _ _ (.inl rfl) ?_
  clear hK K y2 yf m7 mf7
  refine wpAnyE_done (by kernel_rfl) ⟨rfl, ?_⟩ _
  have kM8 : (w7.setCell ⟨w.heap.size + 1, 2, none⟩ (.slice (some ⟨g7, 0, none⟩) 1 cap7)).heap[w.heap.size + 1]? = some (.cells #[.int .u32 3, .int .u32 9, .slice (some ⟨g7, 0, none⟩) 1 cap7] 45 (0, 0)) := by simp [World.setCell, Array.getElem?_modify, kM7]
  have kR8 : (w7.setCell ⟨w.heap.size + 1, 2, none⟩ (.slice (some ⟨g7, 0, none⟩) 1 cap7)).heap[w.heap.size]? = some (.cells #[.int .u32 0, .int .u32 0, .slice none 0 0] 45 (0, 0)) := (Below.heap_setCell _ _ _ _ (by simp)).trans kR7
  have hBw : Below w.heap.size w (w7.setCell ⟨w.heap.size + 1, 2, none⟩ (.slice (some ⟨g7, 0, none⟩) 1 cap7)) := (hB0.trans (hC7.mono hB0.size)).setCell (by simp) _
  have HV8 : Hid (InstsV (((((w7.setCell ⟨w.heap.size + 1, 2, none⟩ (.slice (some ⟨g7, 0, none⟩) 1 cap7)).setCell ⟨w.heap.size, 0, none⟩ (.int .u32 3)).setCell ⟨w.heap.size, 1, none⟩ (.int .u32 9)).setCell ⟨w.heap.size, 2, none⟩ (.slice (some ⟨g7, 0, none⟩) 1 cap7))) (some ⟨g7, 0, none⟩) [oneI]) :=
    HVX.out _ (fun k hk => by
      rw [Below.heap_setCell _ _ _ _ (by simp; omega), Below.heap_setCell _ _ _ _ (by simp; omega), Below.heap_setCell _ _ _ _ (by simp; omega), Below.heap_setCell _ _ _ _ (by simp; omega)]) (by simp)
  have hB9 := three_set3 kR8 (.int .u32 3) (.int .u32 9) (.slice (some ⟨g7, 0, none⟩) 1 cap7)
  have hBel := hBw.trans (three_below3 (w7.setCell ⟨w.heap.size + 1, 2, none⟩ (.slice (some ⟨g7, 0, none⟩) 1 cap7)) w.heap.size (.int .u32 3) (.int .u32 9) (.slice (some ⟨g7, 0, none⟩) 1 cap7))
  obtain ⟨mc, _⟩ := one_block kM8
  have m0 := mc 0
  have m1 := mc 1
  have m2 := mc 2
  obtain ⟨rc, rf⟩ := one_block kR8
  have r0 := rc 0
  have r1 := rc 1
  have r2 := rc 2
  have e0 := rf 0
  have e1 := rf 1
  have e2 := rf 2
  have HB9 : Hid _ := hB9
  have HBel : Hid _ := hBel
  clear kM8 kR8 hBw hB9 hBel mc rc rf kM7 kR7 hC0 hC3 hC4 hC5 hC6 hC7 kM kR hB0 HVX
  generalize w7.setCell ⟨w.heap.size + 1, 2, none⟩ (.slice (some ⟨g7, 0, none⟩) 1 cap7) = X at *
  gi_wp2_with fail
  have hB9 := HB9.out
  have hBel := HBel.out
  have hV8 := HV8.out
  clear r0 r1 r2 e0 e1 e2 m0 m1 m2 HB9 HBel HV8
  generalize ((X.setCell _ _).setCell _ _).setCell _ _ = Y at *
  obtain ⟨d, _⟩ := one_block hB9
  have d0 := d 0
  have d1 := d 1
  have d2 := d 2
  refine ⟨.agg #[.int .u32 3, .int .u32 9, .slice (some ⟨g7, 0, none⟩) 1 cap7], by simp [results, Try.results31, go_sem, d0, d1, d2], g7, cap7, rfl, hV8, hBel⟩

end Go.Proofs.Ytpggcpnjcalfaaa

/-
  awake of the laws of layer 4 answers true.
-/
namespace Go.Proofs.Ytpggcpnjcalfaaa
open Go.RowKit Go.Shelf
attribute [local go_sem] Oper.semAt_some
set_option linter.unusedVariables false
set_option linter.unusedSimpArgs false

/-- Its bytes. -/
def oneB : List Int := [3, 2, 35, 7, 0, 0, 1, 0, 3, 0, 0, 0, 9, 0, 0, 0, 0, 0, 0, 0, 128, 0, 5, 0, 1, 0, 0, 0, 2, 0, 0, 0, 3, 0, 0, 0, 4, 0, 0, 0]
theorem oneB_shape : shapeE 9 [oneI] = (0, 0) := by decide +kernel
theorem oneB_enc : encL 3 9 [oneI] = oneB := by decide +kernel
theorem oneB_dec : decE oneB = (0, 0) := by decide +kernel
theorem oneB_head : decH oneB 2 = 3 ∧ decH oneB 3 = 9 := by decide +kernel
theorem oneB_insts : decL oneB = [oneI] := by
  unfold decL
  rw [oneB_dec, if_pos rfl]
  have e1 : rest (splitL oneB) 5 = [5] := by decide +kernel
  have e2 : rawAt (splitL oneB) 5 = (128, [1, 2, 3, 4]) := by decide +kernel
  have e3 : nth (splitL oneB) 3 = 9 := by decide +kernel
  have e4 : rawE oneI 9 = 0 := by decide +kernel
  have e5 : rawWs oneI 9 = [1, 2, 3, 4] := by decide +kernel
  have e6 := instI_words (x := oneI) (m := 9) e4 (by omega)
  rw [e5] at e6
  rw [e1, e3]
  simp only [instsAt, List.map_cons, List.map_nil, instAt, e2]
  rw [show (128 : Int) = oneI.1 from rfl, e6]
theorem oneB_within : Within 256 oneB := by
  intro z hz
  simp [oneB] at hz
  omega
theorem oneI_ok : InstsOk [oneI] := by
  intro j hj
  obtain rfl : j = 0 := by simp at hj; exact hj
  refine ⟨by decide, by decide, by decide, by decide, by decide, by decide, ?_, by decide⟩
  intro k hk
  have hk2 : k < 2 := hk
  match k, hk2 with
  | 0, _ => exact ⟨by decide, by decide, by decide, by decide, by decide⟩
  | 1, _ => exact ⟨by decide, by decide, by decide, by decide, by decide⟩

theorem field_zero (x y : Value) (w : World) : (Instr.field 47 (.agg #[x, y]) 0).run Try.prog w = .ok x w := by
  have hu := Try.underlying47
  have hi := Try.underlying30
  simp [Instr.field, run_underlying hu, asAgg, part, isAgg, run_underlying hi, go_sem]

set_option maxRecDepth 100000 in
set_option maxHeartbeats 8000000 in
theorem awake4_true (w : World) : Calls Try.prog 12 #[] w fun e w' => e = .returned (.bool true) ∧ Below w.heap.size w w' := by
  have hO := fun w => one_any w
  have hEn := fun wx g c (hv : InstsV wx (some ⟨g, 0, none⟩) [oneI]) => encode_any 3 9 (some ⟨g, 0, none⟩) 1 c [oneI] wx (by decide) (by decide) (by decide) (by decide) hv oneI_ok rfl (by decide)
  rw [oneB_shape, oneB_enc] at hEn
  have hSh := fun wx g c (hv : InstsV wx (some ⟨g, 0, none⟩) [oneI]) => codeShape_any 3 9 (some ⟨g, 0, none⟩) 1 c [oneI] wx (by decide) (by decide) (by decide) (by decide) hv oneI_ok rfl (by decide)
  rw [oneB_shape] at hSh
  have hDe := fun wx a c (hv : View .u8 wx a oneB) => decode_any a 40 c oneB wx hv rfl oneB_within
  rw [oneB_dec, oneB_insts, oneB_head.1, oneB_head.2] at hDe
  have hMo := fun wx ax ay cx cy (hx : InstsV wx ax [oneI]) (hy : InstsV wx ay [oneI]) => kitModule_any 3 9 3 9 [oneI] [oneI] ax ay 1 1 cx cy wx hx hy rfl rfl oneI_ok oneI_ok (by decide) (by decide) true (by simp)
  have hmix : Try.prog.follows .mixedOrders = true := by kernel_rfl
  have hbl : oneB.length = 40 := rfl
  unfold modV at *
  refine (callsIn_wide (n := 0)).1 ?_
  refine callsIn_of_wp_marks Try.func12 rfl trivial ?_ rfl
  simp only [Try.ntmps12, List.size_toArray, List.length_cons, List.length_nil, Nat.reduceAdd, Nat.reduceSub, Array.replicate_succ, Array.replicate_zero, List.push_toArray, List.append_toArray, List.nil_append, List.cons_append]
  gi_wp2_with fail
  refine ⟨trivial, rfl, (callsIn_wide.2 (hO _)).mono ?_⟩
  rintro e w1 ⟨g1, c1, rfl, hv1, hb1⟩
  have hC1 := hEn w1 g1 c1 hv1
  gi_wp2_with fail
  refine ⟨trivial, rfl, (callsIn_wide.2 hC1).mono ?_⟩
  rintro e w2 ⟨hb2, ax, m, rfl, hm, hown2⟩
  obtain rfl : 40 = m := by rw [← hm, hbl]
  have hv2 := View.ofOwn hown2 hbl
  have hb2a : Below w2.heap.size w2 (w2.alloc (.cells #[.int .i64 0, .int .i64 0] 47)) := (Below.refl _ w2).alloc (Nat.le_refl _) _
  have kS := alloc_new w2 #[.int .i64 0, .int .i64 0] 47
  have hC2 := hDe _ ax 40 (hv2.below hb2a)
  have hB2 := (hb1.trans (hb2.mono hb1.size)).trans (hb2a.mono (hb1.trans (hb2.mono hb1.size)).size)
  have HKS : Hid _ := kS
  have HB2 : Hid _ := hB2
  have hz : ((0 : Nat) : Int) = 0 := rfl
  have lS : w2.heap.size < (w2.alloc (.cells #[.int .i64 0, .int .i64 0] 47)).heap.size := by simp
  clear hC1 hEn hDe hv1 hb1 hb2 hown2 hv2 hb2a kS hB2 hm
  gi_wp2_with fail
  have kS := HKS.out
  have hB2 := HB2.out
  clear HKS HB2
  generalize w2.alloc (.cells #[.int .i64 0, .int .i64 0] 47) = W2 at *
  refine ⟨trivial, rfl, (callsIn_wide.2 hC2).mono ?_⟩
  rintro e w3 ⟨hb3, ay, m, cy, rfl, hm, hO3⟩
  obtain rfl : 1 = m := hm
  have hv3 := hO3.view
  have s3 := hb3.size
  have kS3 := (hb3.block _ lS).trans kS
  have hB3 := hB2.trans (hb3.mono hB2.size)
  have hb4 : Below w3.heap.size w3 ((w3.alloc (.cells #[.int .u32 3, .int .u32 9, .slice ay 1 cy] 45)).alloc (.cells #[.int .i64 0, .int .i64 0] 47)) := ((Below.refl _ w3).alloc (Nat.le_refl _) _).alloc (by simp) _
  have HKS4 : Hid _ := (hb4.block _ (by omega)).trans kS3
  have HKM4 : Hid (((w3.alloc (.cells #[.int .u32 3, .int .u32 9, .slice ay 1 cy] 45)).alloc (.cells #[.int .i64 0, .int .i64 0] 47)).heap[w3.heap.size]? = some (.cells #[.int .u32 3, .int .u32 9, .slice ay 1 cy] 45 (0, 0))) := (Below.heap_alloc _ _ _ (by simp)).trans (alloc_new w3 _ _)
  have HKT4 : Hid (((w3.alloc (.cells #[.int .u32 3, .int .u32 9, .slice ay 1 cy] 45)).alloc (.cells #[.int .i64 0, .int .i64 0] 47)).heap[w3.heap.size + 1]? = some (.cells #[.int .i64 0, .int .i64 0] 47 (0, 0))) := by show _ = _; simpa using alloc_new (w3.alloc (.cells #[.int .u32 3, .int .u32 9, .slice ay 1 cy] 45)) #[.int .i64 0, .int .i64 0] 47
  have HV4 : Hid (InstsV _ ay [oneI]) := hv3.below hb4
  have HB4 : Hid _ := hB3.trans (hb4.mono hB3.size)
  clear hC2 hb3 hO3 hv3 kS kS3 hB2 hB3 hb4
  gi_wp2_with fail
  have kS := HKS4.out
  have kM := HKM4.out
  have kT := HKT4.out
  have hV := HV4.out
  have hB := HB4.out
  clear HKS4 HKM4 HKT4 HV4 HB4
  generalize (w3.alloc (.cells #[.int .u32 3, .int .u32 9, .slice ay 1 cy] 45)).alloc (.cells #[.int .i64 0, .int .i64 0] 47) = W at *
  have l1 := (Array.getElem?_eq_some_iff.1 kS).1
  have l2 := (Array.getElem?_eq_some_iff.1 kM).1
  have l3 := (Array.getElem?_eq_some_iff.1 kT).1
  have hC0 : Below W.heap.size W W.drew := below_drew W
  have LS : Hid (∀ w', Below W.heap.size W w' → w'.cell? ⟨w2.heap.size, 0, none⟩ = some (.int .i64 0)) := fun w' hC => (one_block ((hC.block _ l1).trans kS)).1 0
  have LT : Hid (∀ w', Below W.heap.size W w' → w'.cell? ⟨w3.heap.size + 1, 0, none⟩ = some (.int .i64 0)) := fun w' hC => (one_block ((hC.block _ l3).trans kT)).1 0
  have LM : Hid (∀ w', Below W.heap.size W w' → w'.cell? ⟨w3.heap.size, 0, none⟩ = some (.int .u32 3) ∧ w'.cell? ⟨w3.heap.size, 1, none⟩ = some (.int .u32 9) ∧ w'.cell? ⟨w3.heap.size, 2, none⟩ = some (.slice ay 1 cy)) := fun w' hC => by
    obtain ⟨hc, _⟩ := one_block ((hC.block _ l2).trans kM)
    exact ⟨hc 0, hc 1, hc 2⟩
  refine wpIn_normal (wpIn_region_any hmix (wpAnyC_sound (C := Below W.heap.size W) _ _ _ _ ?_))
  change wpAnyC _ _ _ _ _ _ _ _ _ _ (World.drew _)
  refine wpAnyC_takeD (i := 0) (some 15) (v := .pointer (some ⟨w2.heap.size, 0, none⟩)) (fun _ => trivial) (by kernel_rfl) rfl rfl (by kernel_rfl) (by kernel_rfl) (by kernel_rfl) (fun _ _ _ h => by cases h.1) hC0 (Or.inl ⟨by kernel_rfl, fun w' hC => by clear hC; go_simp⟩) ?_
  simp only [Act.put, List.setIfInBounds_toArray, List.set_cons_succ, List.set_cons_zero]
  refine wpAnyC_takeD (i := 1) (some 16) (v := .int .i64 0) (fun _ => trivial) (by kernel_rfl) rfl rfl (by kernel_rfl) (by kernel_rfl) (by kernel_rfl) (fun _ _ _ h => by cases h.1) hC0 (Or.inl ⟨by kernel_rfl, fun w' hC => by have e := LS.out w' hC; clear hC; go_simp⟩) ?_
  simp only [Act.put, List.setIfInBounds_toArray, List.set_cons_succ, List.set_cons_zero]
  refine wpAnyC_takeD (i := 2) (some 17) (v := .bool true) (fun _ => trivial) (by kernel_rfl) rfl rfl (by kernel_rfl) (by kernel_rfl) (by kernel_rfl) (fun _ _ _ h => by cases h.1) hC0 (Or.inl ⟨by kernel_rfl, fun w' hC => by clear hC; go_simp⟩) ?_
  simp only [Act.put, List.setIfInBounds_toArray, List.set_cons_succ, List.set_cons_zero]
  refine wpAnyC_takeD (i := 3) (some 18) (v := .bool true) (fun _ => trivial) (by kernel_rfl) rfl rfl (by kernel_rfl) (by kernel_rfl) (by kernel_rfl) (fun _ _ _ h => by cases h.1) hC0 (Or.inl ⟨by kernel_rfl, fun w' hC => by clear hC; go_simp⟩) ?_
  simp only [Act.put, List.setIfInBounds_toArray, List.set_cons_succ, List.set_cons_zero]
  refine wpAnyC_takeD (i := 4) (some 19) (v := .pointer (some ⟨w3.heap.size + 1, 0, none⟩)) (fun _ => trivial) (by kernel_rfl) rfl rfl (by kernel_rfl) (by kernel_rfl) (by kernel_rfl) (fun _ _ _ h => by cases h.1) hC0 (Or.inl ⟨by kernel_rfl, fun w' hC => by clear hC; go_simp⟩) ?_
  simp only [Act.put, List.setIfInBounds_toArray, List.set_cons_succ, List.set_cons_zero]
  refine wpAnyC_takeD (i := 5) (some 20) (v := .int .i64 0) (fun _ => trivial) (by kernel_rfl) rfl rfl (by kernel_rfl) (by kernel_rfl) (by kernel_rfl) (fun _ _ _ h => by cases h.1) hC0 (Or.inl ⟨by kernel_rfl, fun w' hC => by have e := LT.out w' hC; clear hC; go_simp⟩) ?_
  simp only [Act.put, List.setIfInBounds_toArray, List.set_cons_succ, List.set_cons_zero]
  refine wpAnyC_takeD (i := 6) (some 21) (v := .bool true) (fun _ => trivial) (by kernel_rfl) rfl rfl (by kernel_rfl) (by kernel_rfl) (by kernel_rfl) (fun _ _ _ h => by cases h.1) hC0 (Or.inl ⟨by kernel_rfl, fun w' hC => by clear hC; go_simp⟩) ?_
  simp only [Act.put, List.setIfInBounds_toArray, List.set_cons_succ, List.set_cons_zero]
  refine wpAnyC_takeD (i := 7) (some 22) (v := .bool true) (fun _ => trivial) (by kernel_rfl) rfl rfl (by kernel_rfl) (by kernel_rfl) (by kernel_rfl) (fun _ _ _ h => by cases h.1) hC0 (Or.inl ⟨by kernel_rfl, fun w' hC => by clear hC; go_simp⟩) ?_
  simp only [Act.put, List.setIfInBounds_toArray, List.set_cons_succ, List.set_cons_zero]
  refine wpAnyC_takeD (i := 8) (some 23) (v := .bool true) (fun _ => trivial) (by kernel_rfl) rfl rfl (by kernel_rfl) (by kernel_rfl) (by kernel_rfl) (fun _ _ _ h => by cases h.1) hC0 (Or.inl ⟨by kernel_rfl, fun w' hC => by clear hC; go_simp⟩) ?_
  simp only [Act.put, List.setIfInBounds_toArray, List.set_cons_succ, List.set_cons_zero]
  refine wpAnyC_takeD (i := 9) (some 24) (v := .slice ax 40 40) (fun _ => trivial) (by kernel_rfl) rfl rfl (by kernel_rfl) (by kernel_rfl) (by kernel_rfl) (fun _ _ _ h => by cases h.1) hC0 (Or.inl ⟨by kernel_rfl, fun w' hC => by clear hC; go_simp⟩) ?_
  simp only [Act.put, List.setIfInBounds_toArray, List.set_cons_succ, List.set_cons_zero]
  refine wpAnyC_takeD (i := 10) (some 25) (v := .int .i64 40) (fun _ => trivial) (by kernel_rfl) rfl rfl (by kernel_rfl) (by kernel_rfl) (by kernel_rfl) (fun _ _ _ h => by cases h.1) hC0 (Or.inl ⟨by kernel_rfl, fun w' hC => by clear hC; go_simp⟩) ?_
  simp only [Act.put, List.setIfInBounds_toArray, List.set_cons_succ, List.set_cons_zero]
  refine wpAnyC_takeD (i := 11) (some 26) (v := .bool true) (fun _ => trivial) (by kernel_rfl) rfl rfl (by kernel_rfl) (by kernel_rfl) (by kernel_rfl) (fun _ _ _ h => by cases h.1) hC0 (Or.inl ⟨by kernel_rfl, fun w' hC => by clear hC; go_simp⟩) ?_
  simp only [Act.put, List.setIfInBounds_toArray, List.set_cons_succ, List.set_cons_zero]
  refine wpAnyC_takeD (i := 12) (some 27) (v := .bool true) (fun _ => trivial) (by kernel_rfl) rfl rfl (by kernel_rfl) (by kernel_rfl) (by kernel_rfl) (fun _ _ _ h => by cases h.1) hC0 (Or.inl ⟨by kernel_rfl, fun w' hC => by clear hC; go_simp⟩) ?_
  simp only [Act.put, List.setIfInBounds_toArray, List.set_cons_succ, List.set_cons_zero]
  refine wpAnyC_takeD (i := 13) (some 28) (v := .bool true) (fun _ => trivial) (by kernel_rfl) rfl rfl (by kernel_rfl) (by kernel_rfl) (by kernel_rfl) (fun _ _ _ h => by cases h.1) hC0 (Or.inl ⟨by kernel_rfl, fun w' hC => by clear hC; go_simp⟩) ?_
  simp only [Act.put, List.setIfInBounds_toArray, List.set_cons_succ, List.set_cons_zero]
  refine wpAnyC_takeD (i := 14) (some 29) (v := .agg #[.int .u32 3, .int .u32 9, .slice ay 1 cy]) (fun _ => trivial) (by kernel_rfl) rfl rfl (by kernel_rfl) (by kernel_rfl) (by kernel_rfl) (fun _ _ _ h => by cases h.1) hC0 (Or.inl ⟨by kernel_rfl, fun w' hC => by obtain ⟨e0, e1, e2⟩ := LM.out w' hC; clear hC; go_simp⟩) ?_
  simp only [Act.put, List.setIfInBounds_toArray, List.set_cons_succ, List.set_cons_zero]
  refine wpAnyC_ready (rs := [15]) (by kernel_rfl) (by simp) ?_
  refine AllC.cons rfl (fun K hK => ?_) AllC.nil
  go_simp
  refine ⟨trivial, rfl, (callsIn_wide.2 (hO _)).mono ?_⟩
  rintro e w5 ⟨g5, c5, rfl, hv5, hb5⟩
  dsimp only
  have hC5 : Below W.heap.size W w5 := hC0.trans hb5
  refine hK _ _ hC5 ?_
  clear hK K hb5
  refine wpAnyC_ready (rs := [16]) (by kernel_rfl) (by simp) ?_
  refine AllC.cons rfl (fun K hK => ?_) AllC.nil
  go_simp
  refine ⟨trivial, rfl, (callsIn_wide.2 (hMo _ _ _ _ _ (hV.below hC5) hv5)).mono ?_⟩
  rintro e w6 ⟨rfl, hb6⟩
  dsimp only
  have hC6 : Below W.heap.size W w6 := hC5.trans (hb6.mono hC5.size)
  refine hK _ _ hC6 ?_
  clear hK K hb6
  refine wpAnyC_takeD (i := 17) (some 32) (v := .bool true) (fun _ => trivial) (by kernel_rfl) rfl rfl (by kernel_rfl) (by kernel_rfl) (by kernel_rfl) (fun _ _ _ h => by cases h.1) hC6 (Or.inl ⟨by kernel_rfl, fun w' hC => by clear hC; go_simp⟩) ?_
  simp only [Act.put, List.setIfInBounds_toArray, List.set_cons_succ, List.set_cons_zero]
  refine wpAnyC_takeD (i := 18) (some 33) (v := .bool true) (fun _ => trivial) (by kernel_rfl) rfl rfl (by kernel_rfl) (by kernel_rfl) (by kernel_rfl) (fun _ _ _ h => by cases h.1) hC6 (Or.inl ⟨by kernel_rfl, fun w' hC => by clear hC; go_simp⟩) ?_
  simp only [Act.put, List.setIfInBounds_toArray, List.set_cons_succ, List.set_cons_zero]
  refine wpAnyC_ready (rs := [19]) (by kernel_rfl) (by simp) ?_
  refine AllC.cons rfl (fun K hK => ?_) AllC.nil
  go_simp
  refine ⟨trivial, rfl, (callsIn_wide.2 (hO _)).mono ?_⟩
  rintro e w7 ⟨g7, c7, rfl, hv7, hb7⟩
  dsimp only
  have hC7 : Below W.heap.size W w7 := hC6.trans (hb7.mono hC6.size)
  refine hK _ _ hC7 ?_
  clear hK K hb7
  refine wpAnyC_ready (rs := [20]) (by kernel_rfl) (by simp) ?_
  refine AllC.cons rfl (fun K hK => ?_) AllC.nil
  go_simp
  refine ⟨trivial, rfl, (callsIn_wide.2 (hSh _ _ _ hv7)).mono ?_⟩
  rintro e w8 ⟨rfl, hb8⟩
  dsimp only
  have hC8 : Below W.heap.size W w8 := hC7.trans (hb8.mono hC7.size)
  refine hK _ _ hC8 ?_
  clear hK K hb8
  refine wpAnyC_takeD (i := 21) (some 36) (v := .int .i64 0) (fun _ => trivial) (by kernel_rfl) rfl rfl (by kernel_rfl) (by kernel_rfl) (by kernel_rfl) (fun _ _ _ h => by cases h.1) hC8 (Or.inl ⟨by kernel_rfl, fun w' hC => by clear hC; simp only [execOp]; go_simp; simp [field_zero]⟩) ?_
  simp only [Act.put, List.setIfInBounds_toArray, List.set_cons_succ, List.set_cons_zero]
  refine wpAnyC_takeD (i := 22) (some 37) (v := .bool true) (fun _ => trivial) (by kernel_rfl) rfl rfl (by kernel_rfl) (by kernel_rfl) (by kernel_rfl) (fun _ _ _ h => by cases h.1) hC8 (Or.inl ⟨by kernel_rfl, fun w' hC => by clear hC; go_simp⟩) ?_
  simp only [Act.put, List.setIfInBounds_toArray, List.set_cons_succ, List.set_cons_zero]
  refine wpAnyC_takeD (i := 23) (some 38) (v := .bool true) (fun _ => trivial) (by kernel_rfl) rfl rfl (by kernel_rfl) (by kernel_rfl) (by kernel_rfl) (fun _ _ _ h => by cases h.1) hC8 (Or.inl ⟨by kernel_rfl, fun w' hC => by clear hC; go_simp⟩) ?_
  simp only [Act.put, List.setIfInBounds_toArray, List.set_cons_succ, List.set_cons_zero]
  refine wpAnyC_takeD (i := 24) (some 0) (v := .bool true) (fun _ => trivial) (by kernel_rfl) rfl rfl (by kernel_rfl) (by kernel_rfl) (by kernel_rfl) (fun _ _ _ h => by cases h.1) hC8 (Or.inl ⟨by kernel_rfl, fun w' hC => by clear hC; go_simp⟩) ?_
  simp only [Act.put, List.setIfInBounds_toArray, List.set_cons_succ, List.set_cons_zero]
  refine wpAnyC_done (by kernel_rfl) ⟨rfl, ?_⟩ _
  have HBF : Hid _ := hB.trans (hC8.mono hB.size)
  clear hC0 hC5 hC6 hC7 hC8 hB hV kS kM kT hv5 hv7
  gi_wp2_with fail
  exact ⟨.bool true, by simp [results, Try.results12, go_sem], rfl, HBF.out⟩

end Go.Proofs.Ytpggcpnjcalfaaa

/-
  The law CodeBack answers true, for all bytes.
-/
namespace Go.Proofs.Ytpggcpnjcalfaaa
open Go.RowKit
set_option linter.unusedVariables false
set_option linter.unusedSimpArgs false
set_option maxRecDepth 10000

set_option maxHeartbeats 4000000 in
/-- Bytes that are no module. -/
theorem codeBack_bad (w : World) (a : Option Addr) (n cap : Nat) (zs : List Int) (hl : zs.length = n) (hv : View .u8 w a zs) (hw : Within 256 zs) (hr : 1 * n ≤ 140737488351232) (he : (decE zs).1 ≠ 0) :
    Calls Try.prog 5 #[.slice a n cap] w fun e w' => e = .returned (.bool true) ∧ Below w.heap.size w w' := by
  have hC := copyBytes_any a n cap zs w hv hl (by omega)
  have hD := fun wx g (h : View .u8 wx (some ⟨g, 0, none⟩) zs) => decode_any (some ⟨g, 0, none⟩) n n zs wx h hl hw
  have e1 : decL zs = [] := by unfold decL; rw [if_neg he]
  have e2 : ∀ i, decH zs i = 0 := fun i => by unfold decH; rw [if_neg he]
  rw [e1, e2, e2] at hD
  have hN := fun ax c wx => kitNone_none ax c wx
  have hAw := fun w => awake4_true w
  have heb : ((decE zs).1 == 0) = false := by simpa using he
  generalize (decE zs).1 = er at *
  generalize (decE zs).2 = ea at *
  have HL : Hid (zs.length = n) := hl
  unfold modV at *
  clear hl hv hw he e1 e2
  go_enter Try.func5, Try.ntmps5
  go_wp2_with fail
  refine hC.mono ?_
  rintro e w1 ⟨rfl, hown1, hb1⟩
  have hC2 := hD w1 w.heap.size (View.ofOwn hown1 HL.out)
  clear hC hD hown1
  go_wp2_with fail
  refine hC2.mono ?_
  rintro e w2 ⟨hb2, ax, m, cx, rfl, hm, _⟩
  obtain rfl : 0 = m := hm
  have hB2 := hb1.trans (hb2.mono hb1.size)
  have hB3 := (hB2.alloc hB2.size (.cells #[.int .u32 0, .int .u32 0, .slice ax 0 cx] 45)).alloc (by simp; have := hB2.size; omega) (.cells #[.int .i64 er, .int .i64 (ea : Int)] 47)
  have HB3 : Hid _ := hB3
  clear hC2 hb1 hb2 hB2 hB3
  go_wp2_with fail
  refine (hN _ _ _).mono ?_
  rintro e w3 ⟨rfl, hb3⟩
  have hB4 := HB3.out.trans (hb3.mono HB3.out.size)
  clear HB3 hb3
  go_wp2_with fail
  refine (hAw _).mono ?_
  rintro e w4 ⟨rfl, hb4⟩
  have hB5 := hB4.trans (hb4.mono hB4.size)
  clear hB4 hb4
  go_wp2
  go_ret
  exact ⟨by simp, hB5⟩

set_option maxHeartbeats 4000000 in
/-- Bytes of a module. -/
theorem codeBack_good (w : World) (a : Option Addr) (n cap : Nat) (zs : List Int) (hl : zs.length = n) (hv : View .u8 w a zs) (hw : Within 256 zs) (hr : 1 * n ≤ 140737488351232) (he : decE zs = (0, 0)) :
    Calls Try.prog 5 #[.slice a n cap] w fun e w' => e = .returned (.bool true) ∧ Below w.heap.size w w' := by
  have hC := copyBytes_any a n cap zs w hv hl (by omega)
  have hD := fun wx g (h : View .u8 wx (some ⟨g, 0, none⟩) zs) => decode_any (some ⟨g, 0, none⟩) n n zs wx h hl hw
  rw [he] at hD
  obtain ⟨m1, m2, m3, m4⟩ := enc_dec hw (by rw [he])
  have hdl := decL_len (bs := zs)
  have hdo := decL_ok hw
  have hg := decH_range hw 2
  have hb := decH_range hw 3
  have hCp := fun wx ax m cx (h : InstsV wx ax (decL zs)) (hm : (decL zs).length = m) => copyModule_any (decH zs 2) (decH zs 3) ax m cx (decL zs) wx h hdo hm (by omega)
  have hSh := fun wx g m c (h : InstsV wx (some ⟨g, 0, none⟩) (decL zs)) (hm : (decL zs).length = m) => codeShape_any (decH zs 2) (decH zs 3) (some ⟨g, 0, none⟩) m c (decL zs) wx hg.1 hg.2 hb.1 hb.2 h hdo hm (by omega)
  have hEn := fun wx g m c (h : InstsV wx (some ⟨g, 0, none⟩) (decL zs)) (hm : (decL zs).length = m) => encode_any (decH zs 2) (decH zs 3) (some ⟨g, 0, none⟩) m c (decL zs) wx hg.1 hg.2 hb.1 hb.2 h hdo hm (by omega)
  rw [m3] at hSh
  rw [m3, m4] at hEn
  have hBy := fun wx ax m (h1 : View .u8 wx ax zs) (h2 : View .u8 wx a zs) (hm : zs.length = m) => bytes_true ax a m m cap zs wx h1 h2 hm (by omega)
  have hAw := fun w => awake4_true w
  have m1b : (decH zs 3 == 0) = false := by simpa using m1
  have m2b : decide (65536 < decH zs 3) = false := by simpa using m2
  generalize decH zs 2 = gen at *
  generalize decH zs 3 = bnd at *
  generalize decL zs = l at *
  have HL : Hid (zs.length = n) := hl
  have HV : Hid (View .u8 w a zs) := hv
  unfold modV at *
  clear hl hv hw he m1 m2 m3 m4 hdl hdo
  go_enter Try.func5, Try.ntmps5
  go_wp2_with fail
  refine hC.mono ?_
  rintro e w1 ⟨rfl, hown1, hb1⟩
  have hC2 := hD w1 w.heap.size (View.ofOwn hown1 HL.out)
  clear hC hD hown1
  go_wp2_with fail
  refine hC2.mono ?_
  rintro e w2 ⟨hb2, ax, m, cx, rfl, hm, hO2⟩
  have hB2 := hb1.trans (hb2.mono hb1.size)
  have hb3 : Below w2.heap.size w2 ((w2.alloc (.cells #[.int .u32 gen, .int .u32 bnd, .slice ax m cx] 45)).alloc (.cells #[.int .i64 0, .int .i64 0] 47)) := ((Below.refl _ w2).alloc (Nat.le_refl _) _).alloc (by simp) _
  have HB3 : Hid _ := hB2.trans (hb3.mono hB2.size)
  have HV3 : Hid (InstsV _ ax l) := hO2.view.below hb3
  have HK3 : Hid (((w2.alloc (.cells #[.int .u32 gen, .int .u32 bnd, .slice ax m cx] 45)).alloc (.cells #[.int .i64 0, .int .i64 0] 47)).heap[w2.heap.size]? = some (.cells #[.int .u32 gen, .int .u32 bnd, .slice ax m cx] 45 (0, 0))) := (Below.heap_alloc _ _ _ (by simp)).trans (alloc_new w2 _ _)
  have hz : ((0 : Nat) : Int) = 0 := rfl
  have HM : Hid (l.length = m) := hm
  clear hC2 hb1 hb2 hB2 hb3 hO2 hm
  go_wp2_with fail
  have hB3 := HB3.out
  have hV3 := HV3.out
  have k3 := HK3.out
  clear HB3 HV3 HK3
  generalize (w2.alloc (.cells #[.int .u32 gen, .int .u32 bnd, .slice ax m cx] 45)).alloc (.cells #[.int .i64 0, .int .i64 0] 47) = W3 at *
  have l3 := (Array.getElem?_eq_some_iff.1 k3).1
  refine (hCp _ _ _ _ hV3 HM.out).mono ?_
  rintro e w4 ⟨g4, rfl, hg4, hV4, hb4⟩
  have hC5 := hSh w4 g4 m m hV4 HM.out
  clear hSh hV4
  go_wp2_with fail
  refine hC5.mono ?_
  rintro e w5 ⟨rfl, hb5⟩
  have hb35 := hb4.trans (hb5.mono hb4.size)
  have hV5 := hV3.below hb35
  have k5 := (hb35.block _ l3).trans k3
  have hB5 := hB3.trans (hb35.mono hB3.size)
  have s5 := hb35.size
  obtain ⟨c5, _⟩ := one_block k5
  have c0 := c5 0
  have c1 := c5 1
  have c2 := c5 2
  have hF := fun wx => field_zero (.int .i64 0) (.int .i64 0) wx
  clear hC5 hb4 hb5 hb35 hV3 k3 hB3 c5
  go_wp2_with fail
  refine (hCp _ _ _ _ hV5 HM.out).mono ?_
  rintro e w6 ⟨g6, rfl, hg6, hV6, hb6⟩
  have hC7 := hEn w6 g6 m m hV6 HM.out
  clear hEn hCp hV6 hF c0 c1 c2 k5 hV5
  go_wp2_with fail
  refine hC7.mono ?_
  rintro e w7 ⟨hb7, ay, m7, rfl, hm7, hown7⟩
  obtain rfl : n = m7 := by rw [← hm7, HL.out]
  have hb57 := hb6.trans (hb7.mono hb6.size)
  have hB7 := hB5.trans (hb57.mono hB5.size)
  have hb8 : Below w7.heap.size w7 (w7.alloc (.cells #[.int .i64 0, .int .i64 0] 47)) := (Below.refl _ w7).alloc (Nat.le_refl _) _
  have hB8 := hB7.trans (hb8.mono hB7.size)
  have hC9 := hBy _ ay n ((View.ofOwn hown7 hm7).below hb8) (HV.out.below hB8) HL.out
  have HB8 : Hid _ := hB8
  clear hC7 hb6 hb7 hb57 hB5 hB7 hb8 hB8 hown7 hBy
  go_wp2_with fail
  refine hC9.mono ?_
  rintro e w9 ⟨rfl, q, hq⟩
  have hB9 := HB8.out
  have hB9' : Below w.heap.size w w9 := by rw [hq]; exact bel_drewN hB9 q
  clear hC9 HB8 hB9 hq
  go_wp2_with fail
  refine (hAw _).mono ?_
  rintro e w10 ⟨rfl, hb10⟩
  have hB10 := hB9'.trans (hb10.mono hB9'.size)
  clear hB9' hb10
  go_wp2
  go_ret
  exact ⟨by simp, hB10⟩

theorem codeBack_true (w : World) (a : Option Addr) (n cap : Nat) (zs : List Int) (hl : zs.length = n) (hv : View .u8 w a zs) (hw : Within 256 zs) (hr : 1 * n ≤ 140737488351232) :
    Calls Try.prog 5 #[.slice a n cap] w fun e w' => e = .returned (.bool true) ∧ Below w.heap.size w w' := by
  rcases decE_any zs with h | h
  · exact codeBack_good w a n cap zs hl hv hw hr h
  · exact codeBack_bad w a n cap zs hl hv hw hr h

end Go.Proofs.Ytpggcpnjcalfaaa
