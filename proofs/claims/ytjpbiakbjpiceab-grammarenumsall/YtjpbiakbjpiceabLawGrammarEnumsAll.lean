/-
  The law GrammarEnumsAll answers true, for every letter.
-/
import Derived.RangeFuncNested
import Derived.RangeFuncBound
import Derived.RangeFuncCalls
import Derived.RangeFuncLeaves
import Derived.Shelf.Abstract
import Derived.Shelf.RegionOpen
import Derived.WalkKit
import Derived.OwnWalkIn
import Derived.TacticsInMore
import Derived.LoopNIn
import Derived.LoopIn
import Derived.Test.YtjpbiakbjpiceabBoxes
import Derived.Test.YtjpbiakbjpiceabDrawAppend
import Derived.Test.YtjpbiakbjpiceabGrammarEnums
namespace Go.Proofs.Ytjpbiakbjpiceab
open Go.RowKit Go.Shelf
attribute [local go_sem] Oper.semAt_some
set_option linter.unusedVariables false
set_option linter.unusedSimpArgs false
set_option maxRecDepth 10000

/-- The enumerants of a letter among the first k. -/
def ownT (c : Int) (k : Nat) : List (Int × Int × ByteArray) := (namesT.take k).filter (isLet c)
theorem ownT_len (c : Int) (k : Nat) : (ownT c k).length ≤ k := Nat.le_trans (List.length_filter_le _ _) (List.length_take_le _ _)
theorem names30 : namesT.length = 30 := by decide +kernel
theorem ownT_next (c : Int) (k : Nat) (h : k < 30) : ownT c (k + 1) = if isLet c (nmN k) then ownT c k ++ [nmN k] else ownT c k := by
  unfold ownT
  have e : namesT.take (k + 1) = namesT.take k ++ [nmN k] := by
    have hk : k < namesT.length := by rw [names30]; exact h
    rw [List.take_succ_eq_append_getElem hk]
    simp [nmN, List.getD, hk]
  rw [e, List.filter_append]
  cases hi : isLet c (nmN k)
  · simp [List.filter_cons, hi]
  · simp [List.filter_cons, hi]
theorem ownT_all (c : Int) : (ownT c 30).map (·.2) = enumsL c := by
  unfold ownT enumsL
  rw [List.take_of_length_le (by rw [names30]; exact Nat.le_refl _)]

theorem ownsRow_far {w : World} {base e size n : Nat} {v : Value} {xs : List Value} (h : w.ownsRow base e size v n xs) {g : Nat} (hg : g < base) (u : Value) : (w.setCell ⟨g, 0, none⟩ u).ownsRow base e size v n xs := by
  refine ⟨h.1, ?_⟩
  rcases h.2 with hn | ⟨g', cap, cur, rfl, hb, hgg, rest⟩
  · exact .inl hn
  · exact .inr ⟨g', cap, cur, rfl, hb, setFar hgg (by omega) _ _, rest⟩

/-- Between two rounds. -/
def EaI (wA : World) (pre : List (Int × ByteArray)) (W : World) : Prop :=
  (Below wA.heap.size wA W ∧ wA.heap.size + 3 ≤ W.heap.size) ∧ W.heap[wA.heap.size]? = some (.cells #[.int .i64 pre.length] 3 (0, 0)) ∧ W.heap[wA.heap.size + 1]? = some (.cells #[.bool true] 4 (0, 0))
theorem eaI_own (wA : World) : OwnFrom (wA.heap.size + 3) (EaI wA) := by
  rintro pre W W' row ⟨h1, h2, h3⟩ hg hr
  exact ⟨⟨belowStay h1.1 (Nat.le_refl _) (by omega) hg hr, Nat.le_trans h1.2 hg.size⟩, cellsStay h2 hg hr, cellsStay h3 hg hr⟩

theorem nameInfo : ∃ i0, Try.prog.info? 26 = some i0 ∧ i0.zero = some (.agg #[.int .u8 0, .int .u32 0, .string ⟨#[]⟩]) ∧ i0.size = 3 ∧ i0.bytes = 24 ∧ (Value.agg #[.int .u8 0, .int .u32 0, .string ⟨#[]⟩]).cells.size = 3 := ⟨_, rfl, rfl, rfl, rfl, rfl⟩

theorem told_own {c : Int} {pre : List (Int × ByteArray)} {x : Int × ByteArray} (h : pre ++ [x] <+: enumsL c) : pre.length < (ownT c 30).length ∧ ((ownT c 30).getD pre.length (0, 0, ⟨#[]⟩)).2 = x := by
  obtain ⟨z, hz⟩ := h
  rw [← ownT_all] at hz
  have hl : pre.length < (ownT c 30).length := by
    have := congrArg List.length hz
    simp at this; omega
  refine ⟨hl, ?_⟩
  have e := congrArg (fun l => l[pre.length]?) hz
  simp only [List.append_assoc] at e
  rw [List.getElem?_append_right (Nat.le_refl _), List.getElem?_map] at e
  simp only [Nat.sub_self, List.singleton_append, List.getElem?_cons_zero] at e
  rw [List.getD_eq_getElem?_getD]
  rw [List.getElem?_eq_getElem hl] at e ⊢
  simpa using e.symm

set_option maxRecDepth 100000 in
set_option maxHeartbeats 8000000 in
theorem grammarEnumsAll_true (w : World) (c : Int) (hc : (Lit.int .u8 c).wf = true) :
    Calls Try.prog 3 #[.int .u8 c] w fun e w' => e = .returned (.bool true) ∧ Below w.heap.size w w' := by
  obtain ⟨i0, hi, hz0, hz1, hz2, hz3⟩ := nameInfo
  have HI : Hid (Try.prog.info? 26 = some i0 ∧ i0.zero = some (.agg #[.int .u8 0, .int .u32 0, .string ⟨#[]⟩]) ∧ i0.size = 3 ∧ i0.bytes = 24 ∧ (Value.agg #[.int .u8 0, .int .u32 0, .string ⟨#[]⟩]).cells.size = 3) := ⟨hi, hz0, hz1, hz2, hz3⟩
  have hnf : ∀ (w : World) (B : Nat), (binOp .eql 28 (.func (.func 24) #[] #[.pointer (some ⟨B, 0, none⟩)]) .nilFunc).run Try.prog w = .ok (.bool false) w := fun w B => by kernel_rfl
  have hmix : Try.prog.follows .mixedOrders = true := by kernel_rfl
  clear hc hi hz0 hz1 hz2 hz3
  refine (callsIn_wide (n := 0)).1 ?_
  refine callsIn_of_wp_marks Try.func3 rfl trivial ?_ rfl
  simp only [Try.ntmps3, List.size_toArray, List.length_cons, List.length_nil, Nat.reduceAdd, Nat.reduceSub, Array.replicate_succ, Array.replicate_zero, List.push_toArray, List.append_toArray, List.nil_append, List.cons_append]
  gi_wp2_with fail
  refine ⟨trivial, rfl, (callsIn_wide.2 (names_view _)).mono ?_⟩
  rintro e w1 ⟨v1, rfl, ⟨g, cap, rfl, hcells⟩, hb⟩
  have HC : Hid (∀ k, k < 30 → _) := fun k (hk : k < 30) => hcells k hk
  have hg : g < w1.heap.size := World.block_lt_of_cell? _ _ (hcells 0 (by omega)).1
  have HBW : Hid (Below w.heap.size w w1) := hb
  have hs1 := hb.size
  clear hcells hb
  gi_wp2
  gi_loopw [5] (fun i wr => ∃ k : Nat, k ≤ 30 ∧ i = .int .i64 k ∧ ∃ v, Below w1.heap.size w1 wr ∧ wr.heap[w1.heap.size]? = some (.cells #[v] 22 (0, 0)) ∧ wr.ownsRow (w1.heap.size + 1) 26 3 v (ownT c k).length ((ownT c k).flatMap nmCells)) (fun i _ => 30 - (intOf i).toNat)
  case atStart => exact ⟨0, by omega, rfl, .slice none 0 0, (Below.refl _ w1).alloc (Nat.le_refl _) _, heap_alloc_new w1 _, World.ownsRow_nil _ _ _ _⟩
  case round =>
    obtain ⟨k, hk, rfl, v, hbr, hbox, hown⟩ := hrel
    have hsr : w1.heap.size < wr.heap.size := (Array.getElem?_eq_some_iff.1 hbox).1
    have HBR : Hid (Below w1.heap.size w1 wr) := hbr
    have HBX : Hid (wr.heap[w1.heap.size]? = some (.cells #[v] 22 (0, 0))) := hbox
    have HO : Hid (wr.ownsRow (w1.heap.size + 1) 26 3 v (ownT c k).length ((ownT c k).flatMap nmCells)) := hown
    obtain ⟨cb, _⟩ := oneCell hbox
    have hol := ownT_len c k
    by_cases hlt : k < 30
    · obtain ⟨e0, e1, e2⟩ := HC.out k hlt
      have c0 := (hbr.cell (p := ⟨g, k * 3, none⟩) hg).trans e0
      have c1 := (hbr.cell (p := ⟨g, k * 3 + 1, none⟩) hg).trans e1
      have c2 := (hbr.cell (p := ⟨g, k * 3 + 2, none⟩) hg).trans e2
      have HN0 : Hid (ownT c (k + 1) = if isLet c (nmN k) then ownT c k ++ [nmN k] else ownT c k) := ownT_next c k hlt
      have HIL : Hid (isLet c (nmN k) = ((nmN k).1 == c)) := rfl
      have hki : (k : Int) < 30 := by omega
      have hk0 : (0 : Int) ≤ (k : Int) := by omega
      clear e0 e1 e2 hbr hbox hown
      generalize nmN k = y at *
      obtain ⟨l, nn, s⟩ := y
      simp only at c0 c1 c2
      by_cases hit : l = c
      · subst hit
        have HN : Hid (ownT l (k + 1) = ownT l k ++ [(l, nn, s)]) := by show _ = _; rw [HN0.out, HIL.out]; simp
        have HOA : Hid ((wr.drew.alloc (.cells #[.int .u8 l, .int .u32 nn, .string s] 26)).ownsRow (w1.heap.size + 1) 26 3 v (ownT l k).length ((ownT l k).flatMap nmCells)) := (own_below HO.out (Below.refl _ wr).drew).alloc _
        clear HN0 HIL
        gi_wp2_with fail
        refine wpIn_normal (wpIn_region_any hmix (wpAnyC_sound (C := fun _ => True) _ _ _ _ ?_))
        change wpAnyC _ _ _ _ _ _ _ _ _ _ (World.drew _)
        refine wpAnyC_takeD (i := 1) (some 26) (v := .slice (some ⟨g, 0, none⟩) 30 cap) (fun _ => trivial) (by kernel_rfl) rfl rfl (by kernel_rfl) (by kernel_rfl) (by kernel_rfl) (fun _ _ _ h => by cases h.1) trivial (Or.inl ⟨by kernel_rfl, fun w' _ => by go_simp⟩) ?_
        simp only [Act.put, List.setIfInBounds_toArray, List.set_cons_succ, List.set_cons_zero]
        refine wpAnyC_takeD (i := 2) (some 27) (v := .int .i64 k) (fun _ => trivial) (by kernel_rfl) rfl rfl (by kernel_rfl) (by kernel_rfl) (by kernel_rfl) (fun _ _ _ h => by cases h.1) trivial (Or.inl ⟨by kernel_rfl, fun w' _ => by go_simp⟩) ?_
        simp only [Act.put, List.setIfInBounds_toArray, List.set_cons_succ, List.set_cons_zero]
        refine wpAnyC_takeD (i := 3) (some 28) (v := .pointer (some ⟨g, k * 3, none⟩)) (fun _ => trivial) (by kernel_rfl) rfl rfl (by kernel_rfl) (by kernel_rfl) (by kernel_rfl) (fun _ _ _ h => by cases h.1) trivial (Or.inl ⟨by kernel_rfl, fun w' _ => by go_simp⟩) ?_
        simp only [Act.put, List.setIfInBounds_toArray, List.set_cons_succ, List.set_cons_zero]
        refine wpAnyC_ready (rs := [0, 4]) (by kernel_rfl) (by simp) ?_
        refine AllC.cons rfl (fun K hK => ?_) (AllC.cons rfl (fun K hK => ?_) AllC.nil)
        · go_simp
          refine hK _ _ trivial ?_
          clear hK K
          refine wpAnyC_ready (rs := [4]) (by kernel_rfl) (by simp) ?_
          refine AllC.cons rfl (fun K hK => ?_) AllC.nil
          go_simp
          refine hK _ _ trivial ?_
          clear hK K
          refine wpAnyC_ready (rs := [5]) (by kernel_rfl) (by simp) ?_
          refine AllC.cons rfl (fun K hK => ?_) AllC.nil
          go_simp
          refine hK _ _ trivial ?_
          clear hK K
          refine wpAnyC_ready (rs := [6]) (by kernel_rfl) (by simp) ?_
          refine AllC.cons rfl (fun K hK => ?_) AllC.nil
          refine stepAny_append _ (fun _ => trivial) (by rfl) _ _ _ (by rfl) (w1.heap.size + 1) 26 i0 _ 3 24 Try.underlying22 HI.out.1 HI.out.2.1 HI.out.2.2.1 HI.out.2.2.2.1 HI.out.2.2.2.2 (by omega) v (ownT l k).length ((ownT l k).flatMap nmCells) (by rfl) HOA.out ⟨wr.heap.size, 0, none⟩ 1 1 [.int .u8 l, .int .u32 nn, .string s] (by rfl) (by rfl) (World.news_of_block (cs := #[.int .u8 l, .int .u32 nn, .string s]) (t := 26) (fr := (0, 0)) (allocNew _ _ rfl)) (by simp [Value.oneCell']) (by omega) (by unfold maxLen; omega) (by omega) (by simp; omega) ?_
          intro g6 c6 w6 hown6 hgr6
          refine hK _ _ trivial ?_
          clear hK K
          have hb6 : Below (w1.heap.size + 1) wr w6 := ((Below.refl _ wr).drew.alloc (by show w1.heap.size + 1 ≤ wr.heap.size; omega) _).grown hgr6 (by simp; omega) (fun j hj => (HO.out.lt j hj).1)
          have h64 := (hb6.block w1.heap.size (by omega)).trans HBX.out
          obtain ⟨q4, qf⟩ := oneCell h64
          have HO6 : Hid (w6.ownsRow (w1.heap.size + 1) 26 3 (.slice (some ⟨g6, 0, none⟩) ((ownT l k).length + 1) c6) (ownT l (k + 1)).length ((ownT l (k + 1)).flatMap nmCells)) := by
            show World.ownsRow _ _ _ _ _ _ _
            rw [HN.out, List.length_append, List.length_singleton, List.flatMap_append, List.flatMap_singleton]
            exact hown6
          have HB6 : Hid (Below (w1.heap.size + 1) wr w6 ∧ w6.heap[w1.heap.size]? = some (.cells #[v] 22 (0, 0))) := ⟨hb6, h64⟩
          clear hown6 hgr6 hb6 h64
          refine wpAnyC_ready (rs := [7]) (by kernel_rfl) (by simp) ?_
          refine AllC.cons rfl (fun K hK => ?_) AllC.nil
          go_simp
          refine hK _ _ trivial ?_
          clear hK K
          refine wpAnyC_done (by kernel_rfl) ⟨rfl, ?_⟩ _
          gi_wp2
          go_roundw
          case rel => exact ⟨k + 1, by omega, by go_num, _, HBR.out.trans ((HB6.out.1.mono (by omega)).setCell (by simp) _), oneSet HB6.out.2 _, ownsRow_far HO6.out (by simp) _⟩
          case measure => simp [intOf]; omega
        · go_simp
          refine hK _ _ trivial ?_
          clear hK K
          refine wpAnyC_ready (rs := [0, 5]) (by kernel_rfl) (by simp) ?_
          refine AllC.cons rfl (fun K hK => ?_) (AllC.cons rfl (fun K hK => ?_) AllC.nil)
          · go_simp
            refine hK _ _ trivial ?_
            clear hK K
            refine wpAnyC_ready (rs := [5]) (by kernel_rfl) (by simp) ?_
            refine AllC.cons rfl (fun K hK => ?_) AllC.nil
            go_simp
            refine hK _ _ trivial ?_
            clear hK K
            refine wpAnyC_ready (rs := [6]) (by kernel_rfl) (by simp) ?_
            refine AllC.cons rfl (fun K hK => ?_) AllC.nil
            refine stepAny_append _ (fun _ => trivial) (by rfl) _ _ _ (by rfl) (w1.heap.size + 1) 26 i0 _ 3 24 Try.underlying22 HI.out.1 HI.out.2.1 HI.out.2.2.1 HI.out.2.2.2.1 HI.out.2.2.2.2 (by omega) v (ownT l k).length ((ownT l k).flatMap nmCells) (by rfl) HOA.out ⟨wr.heap.size, 0, none⟩ 1 1 [.int .u8 l, .int .u32 nn, .string s] (by rfl) (by rfl) (World.news_of_block (cs := #[.int .u8 l, .int .u32 nn, .string s]) (t := 26) (fr := (0, 0)) (allocNew _ _ rfl)) (by simp [Value.oneCell']) (by omega) (by unfold maxLen; omega) (by omega) (by simp; omega) ?_
            intro g6 c6 w6 hown6 hgr6
            refine hK _ _ trivial ?_
            clear hK K
            have hb6 : Below (w1.heap.size + 1) wr w6 := ((Below.refl _ wr).drew.alloc (by show w1.heap.size + 1 ≤ wr.heap.size; omega) _).grown hgr6 (by simp; omega) (fun j hj => (HO.out.lt j hj).1)
            have h64 := (hb6.block w1.heap.size (by omega)).trans HBX.out
            obtain ⟨q4, qf⟩ := oneCell h64
            have HO6 : Hid (w6.ownsRow (w1.heap.size + 1) 26 3 (.slice (some ⟨g6, 0, none⟩) ((ownT l k).length + 1) c6) (ownT l (k + 1)).length ((ownT l (k + 1)).flatMap nmCells)) := by
              show World.ownsRow _ _ _ _ _ _ _
              rw [HN.out, List.length_append, List.length_singleton, List.flatMap_append, List.flatMap_singleton]
              exact hown6
            have HB6 : Hid (Below (w1.heap.size + 1) wr w6 ∧ w6.heap[w1.heap.size]? = some (.cells #[v] 22 (0, 0))) := ⟨hb6, h64⟩
            clear hown6 hgr6 hb6 h64
            refine wpAnyC_ready (rs := [7]) (by kernel_rfl) (by simp) ?_
            refine AllC.cons rfl (fun K hK => ?_) AllC.nil
            go_simp
            refine hK _ _ trivial ?_
            clear hK K
            refine wpAnyC_done (by kernel_rfl) ⟨rfl, ?_⟩ _
            gi_wp2
            go_roundw
            case rel => exact ⟨k + 1, by omega, by go_num, _, HBR.out.trans ((HB6.out.1.mono (by omega)).setCell (by simp) _), oneSet HB6.out.2 _, ownsRow_far HO6.out (by simp) _⟩
            case measure => simp [intOf]; omega
          · go_simp
            refine hK _ _ trivial ?_
            clear hK K
            refine wpAnyC_ready (rs := [0]) (by kernel_rfl) (by simp) ?_
            refine AllC.cons rfl (fun K hK => ?_) AllC.nil
            go_simp
            refine hK _ _ trivial ?_
            clear hK K
            refine wpAnyC_ready (rs := [6]) (by kernel_rfl) (by simp) ?_
            refine AllC.cons rfl (fun K hK => ?_) AllC.nil
            refine stepAny_append _ (fun _ => trivial) (by rfl) _ _ _ (by rfl) (w1.heap.size + 1) 26 i0 _ 3 24 Try.underlying22 HI.out.1 HI.out.2.1 HI.out.2.2.1 HI.out.2.2.2.1 HI.out.2.2.2.2 (by omega) v (ownT l k).length ((ownT l k).flatMap nmCells) (by rfl) HOA.out ⟨wr.heap.size, 0, none⟩ 1 1 [.int .u8 l, .int .u32 nn, .string s] (by rfl) (by rfl) (World.news_of_block (cs := #[.int .u8 l, .int .u32 nn, .string s]) (t := 26) (fr := (0, 0)) (allocNew _ _ rfl)) (by simp [Value.oneCell']) (by omega) (by unfold maxLen; omega) (by omega) (by simp; omega) ?_
            intro g6 c6 w6 hown6 hgr6
            refine hK _ _ trivial ?_
            clear hK K
            have hb6 : Below (w1.heap.size + 1) wr w6 := ((Below.refl _ wr).drew.alloc (by show w1.heap.size + 1 ≤ wr.heap.size; omega) _).grown hgr6 (by simp; omega) (fun j hj => (HO.out.lt j hj).1)
            have h64 := (hb6.block w1.heap.size (by omega)).trans HBX.out
            obtain ⟨q4, qf⟩ := oneCell h64
            have HO6 : Hid (w6.ownsRow (w1.heap.size + 1) 26 3 (.slice (some ⟨g6, 0, none⟩) ((ownT l k).length + 1) c6) (ownT l (k + 1)).length ((ownT l (k + 1)).flatMap nmCells)) := by
              show World.ownsRow _ _ _ _ _ _ _
              rw [HN.out, List.length_append, List.length_singleton, List.flatMap_append, List.flatMap_singleton]
              exact hown6
            have HB6 : Hid (Below (w1.heap.size + 1) wr w6 ∧ w6.heap[w1.heap.size]? = some (.cells #[v] 22 (0, 0))) := ⟨hb6, h64⟩
            clear hown6 hgr6 hb6 h64
            refine wpAnyC_ready (rs := [7]) (by kernel_rfl) (by simp) ?_
            refine AllC.cons rfl (fun K hK => ?_) AllC.nil
            go_simp
            refine hK _ _ trivial ?_
            clear hK K
            refine wpAnyC_done (by kernel_rfl) ⟨rfl, ?_⟩ _
            gi_wp2
            go_roundw
            case rel => exact ⟨k + 1, by omega, by go_num, _, HBR.out.trans ((HB6.out.1.mono (by omega)).setCell (by simp) _), oneSet HB6.out.2 _, ownsRow_far HO6.out (by simp) _⟩
            case measure => simp [intOf]; omega
      · have hit' : (l == c) = false := by simpa using hit
        have HN : Hid (ownT c (k + 1) = ownT c k) := by show _ = _; rw [HN0.out, HIL.out, hit']; rfl
        clear HN0 HIL hit
        gi_wp2
        go_roundw
        case rel => exact ⟨k + 1, by omega, by go_num, v, HBR.out, HBX.out, by rw [HN.out]; exact HO.out⟩
        case measure => simp [intOf]; omega
    · obtain rfl : k = 30 := by omega
      clear hbr hbox hown hlt
      gi_wp2_with fail
      refine ⟨trivial, rfl, (callsIn_wide.2 (enums_any c _)).mono ?_⟩
      rintro e w2 ⟨rfl, rfl⟩
      obtain ⟨wL, hwL⟩ : ∃ X, X = ((wr.alloc (.cells #[.int .i64 0] 3)).alloc (.cells #[.bool true] 4)).alloc (.cells #[.int .u8 c] 5) := ⟨_, rfl⟩
      have hsL : wL.heap.size = wr.heap.size + 3 := by rw [hwL]; simp
      have hbL : Below wr.heap.size wr wL := by rw [hwL]; exact (((Below.refl _ wr).alloc (Nat.le_refl _) _).alloc (by simp) _).alloc (by simp; omega) _
      have k4 : wL.heap[wr.heap.size]? = some (.cells #[.int .i64 0] 3 (0, 0)) := by rw [hwL]; exact (allocs3 wr _ _ _).1
      have k5 : wL.heap[wr.heap.size + 1]? = some (.cells #[.bool true] 4 (0, 0)) := by rw [hwL]; exact (allocs3 wr _ _ _).2.1
      have k6 : wL.heap[wr.heap.size + 2]? = some (.cells #[.int .u8 c] 5 (0, 0)) := by rw [hwL]; exact (allocs3 wr _ _ _).2.2
      gi_wp2_with fail
      rw [← hwL]
      clear hwL
      simp only [Nat.add_assoc, Nat.reduceAdd]
      have hsw : w1.heap.size ≤ wr.heap.size := by omega
      have HBE0 : Hid (Below w.heap.size w wr) := HBW.out.trans (HBR.out.mono HBW.out.size)
      refine wp_tells rfl (enters_of Try.func24 (by kernel_rfl) rfl) (enums_tells c wr.heap.size (fun _ => False) wL (wr.heap.size + 2) k6) (by omega) (fun _ => rfl)
        (EaI wr) (fun _ _ _ => False) (by rw [hsL]; exact eaI_own wr) (fun _ _ _ _ _ h _ _ => h)
        ⟨⟨hbL, by omega⟩, k4, k5⟩
        (fun pre x a' W => pre ++ [x] <+: enumsL c ∧ a' = { tmps := #[.int .u8 c, undef, .bool false, .slice (some ⟨g, 0, none⟩) 30 cap, .pointer (some ⟨w1.heap.size, 0, none⟩), .int .i64 30, .pointer (some ⟨wr.heap.size, 0, none⟩), .pointer (some ⟨wr.heap.size + 1, 0, none⟩), .func (.func 24) #[] #[.pointer (some ⟨wr.heap.size + 2, 0, none⟩)], .int .u32 x.1, .string x.2, .slice (some ⟨g, 0, none⟩) 30 cap, .int .i64 30, .slice (some ⟨g, 0, none⟩) 30 cap, .int .i64 30, .bool false, u16, u17, u18, u19, u20, u21, u22, u23, u24, u25, u26, u27, u28, u29, u30, u31, .int .u8 c, .func (.func 24) #[] #[.pointer (some ⟨wr.heap.size + 2, 0, none⟩)], .func (.func 24) #[] #[.pointer (some ⟨wr.heap.size + 2, 0, none⟩)], .bool false, .func (.func 24) #[] #[.pointer (some ⟨wr.heap.size + 2, 0, none⟩)], .int .u32 x.1, .string x.2, undef, undef, undef, undef, undef, undef, undef, undef, undef, undef, undef, undef, undef, undef, undef, undef, undef, undef, undef, undef, undef, undef, undef, undef, undef, undef, undef, undef, undef, undef, undef], defers := [] })
        ?hAx ?assign ?body ?done ?stop
      case hAx =>
        rintro pre x a' s W W' row h hg hr
        exact h
      case assign =>
        rintro l pre x W K hI hV hK
        simp only [enumV]
        gi_wp2
        exact hK _ _ (KeepsFrom.refl _ _) (Kept.refl _ _ _) hI ⟨hV, rfl⟩
      case stop =>
        rintro D c' pre W hD hpre h hK
        exact h.elim
      case body =>
        rintro l pre x a' W hl' ⟨rr, hrr⟩ ⟨⟨h1, hlt⟩, h2, h3⟩ ⟨hV, rfl⟩
        obtain ⟨hpl, hpx⟩ := told_own hV
        obtain ⟨g2, c2, hve⟩ : ∃ g2 c2, v = .slice (some ⟨g2, 0, none⟩) (ownT c 30).length c2 := by
          rcases HO.out.2 with ⟨_, h0⟩ | ⟨g2, c2, cur, e', _⟩
          · omega
          · exact ⟨g2, c2, e'⟩
        have hbox2 := (h1.block w1.heap.size hsr).trans HBX.out
        rw [hve] at hbox2
        obtain ⟨b0, _⟩ := oneCell hbox2
        obtain ⟨n0, nf⟩ := oneCell h2
        have hcl := fun j (hj : j < 3) u hu => HO.out.cells (g := g2) (by rw [hve]; rfl) (pre.length * 3 + j) u (by rw [flat_at _ _ _ hpl hj]; exact hu)
        have g2s : g2 < wr.heap.size := World.block_lt_of_cell? _ _ (by have := hcl 0 (by omega) _ rfl; rw [Addr.add_lit] at this; exact this)
        have d1 : W.cell? ⟨g2, pre.length * 3 + 1, none⟩ = some (.int .u32 x.1) := by
          have := hcl 1 (by omega) _ rfl
          rw [Addr.add_lit, Nat.zero_add, hpx] at this
          exact (h1.cell (p := ⟨g2, pre.length * 3 + 1, none⟩) g2s).trans this
        have d2 : W.cell? ⟨g2, pre.length * 3 + 2, none⟩ = some (.string x.2) := by
          have := hcl 2 (by omega) _ rfl
          rw [Addr.add_lit, Nat.zero_add, hpx] at this
          exact (h1.cell (p := ⟨g2, pre.length * 3 + 2, none⟩) g2s).trans this
        have hol30 := ownT_len c 30
        have fin : KeepsFrom wL.heap.size W (W.setCell ⟨wr.heap.size, 0, none⟩ (.int .i64 ((pre.length : Int) + 1))) ∧ Kept wr.heap.size (fun _ => False) W (W.setCell ⟨wr.heap.size, 0, none⟩ (.int .i64 ((pre.length : Int) + 1))) ∧ EaI wr (pre ++ [x]) (W.setCell ⟨wr.heap.size, 0, none⟩ (.int .i64 ((pre.length : Int) + 1))) := by
          refine ⟨(KeepsOthers.setCell _ _ _).from _, ⟨(Below.refl wr.heap.size W).setCell (by simp) _, fun _ _ _ _ h _ => h.elim⟩, ⟨h1.setCell (by simp) _, by simpa [World.setCell] using hlt⟩, ?_, setFar h3 (by omega) _ _⟩
          rw [List.length_append, List.length_singleton]
          exact oneSet h2 _
        have HFIN : Hid (_ ∧ _ ∧ _) := fin
        generalize (ownT c 30).length = L at *
        have hpi : (pre.length : Int) < (L : Int) := by omega
        have hp0 : (0 : Int) ≤ (pre.length : Int) := by omega
        have hpd : decide ((L : Int) ≤ (pre.length : Int)) = false := decide_eq_false (by omega)
        have hpl' : ¬ L ≤ pre.length := by omega
        clear hcl hbox2 hve hpx hV fin hrr h1 h2 h3
        gi_wp2
        exact HFIN.out
      case done =>
        rintro D xs W hD rfl ⟨⟨h1, hlt⟩, h2, h3⟩ hK
        obtain ⟨c4, _⟩ := oneCell h2
        obtain ⟨c5, _⟩ := oneCell h3
        obtain ⟨b0, _⟩ := oneCell ((h1.block w1.heap.size hsr).trans HBX.out)
        have hbE : Below w.heap.size w (W.putObj D (.deferred none)) := (HBE0.out.trans (h1.mono HBE0.out.size)).trans (belowK_b (w := w) (Nat.le_refl _) W D _ _ (by have := HBE0.out.size; omega) hK rfl rfl)
        have hle : (enumsL c).length = (ownT c 30).length := by rw [← ownT_all, List.length_map]
        rw [hle] at c4
        obtain ⟨a2, c2, hve⟩ : ∃ a2 c2, v = .slice a2 (ownT c 30).length c2 := by
          rcases HO.out.2 with ⟨e', h0⟩ | ⟨g2, c2, cur, e', _⟩
          · exact ⟨none, 0, by rw [e', h0]⟩
          · exact ⟨_, _, e'⟩
        rw [hve] at b0
        have HBE : Hid (Below w.heap.size w (W.putObj D (.deferred none))) := hbE
        generalize (ownT c 30).length = L at *
        clear h1 h2 h3 hbE hle hve
        gi_wp2_with fail
        refine ⟨by simp, .inl ⟨_, _, rfl, run_takeDeferred hK, ?_⟩⟩
        exact ⟨_, results_tmp rfl _ _ _, by simp, HBE.out⟩

end Go.Proofs.Ytjpbiakbjpiceab
