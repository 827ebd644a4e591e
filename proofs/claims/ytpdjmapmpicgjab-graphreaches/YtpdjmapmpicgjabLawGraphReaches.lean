/-
  GraphReaches is true for every list of edges.
-/
import Derived.RangeFuncNested
import Derived.RangeFuncBound
import Derived.RangeFuncCalls
import Derived.RangeFuncLeaves
import Derived.Shelf.Abstract
import Derived.Shelf.RegionOpen
import Derived.WalkKit
import Derived.OwnWalkIn
import Derived.TacticsInMore
import Derived.LoopNIn
import Derived.LoopIn
import Derived.WalkSpells
import Derived.Test.YtpdjmapmpicgjabProg
import Derived.Test.YtpdjmapmpicgjabArgLists
import Derived.Test.YtpdjmapmpicgjabRowO
import Derived.Test.YtpdjmapmpicgjabDrawAppend
import Derived.Test.YtpdjmapmpicgjabAppendView
import Derived.Test.YtpdjmapmpicgjabGraphValues
import Derived.Test.YtpdjmapmpicgjabLaw14Awake
import Derived.Test.YtpdjmapmpicgjabLaw14Copied
import Derived.Test.YtpdjmapmpicgjabLaw14Among
namespace Go.Proofs.Ytpdjmapmpicgjab
open Go.RowKit Go.Shelf
attribute [local go_sem] Oper.semAt_some
set_option linter.unusedVariables false
set_option linter.unusedSimpArgs false
set_option maxRecDepth 10000

theorem name_frame {F : Fence} {n : Nat} {P : Program} {c : Code} {Q : Exit → Act → World → Prop} {t : Array Value} {d : List Deferred} {w : World} (h : ∀ T, T = t → c.wpIn F n P Q { tmps := T, defers := d } w) : c.wpIn F n P Q { tmps := t, defers := d } w := h t rfl

/-- What the walk comes to next. -/
theorem walk_next {M : List (List Int)} {t : WalkS} {pre : List Int} {x : Int} (hQ : WalkQ M t) (hp : pre ++ [x] <+: t.1) : x ∉ pre ∧ pre.length < M.length ∧ (0 ≤ x ∧ x < M.length) ∧ (pre = [] → x = 0) ∧ (pre ≠ [] → ∃ y ∈ aheadL M x, y ∈ pre) := by
  obtain ⟨q, hq⟩ := hp
  have hnd : (pre ++ [x]).Nodup := hQ.good.1.sublist (List.IsPrefix.sublist ⟨q, hq⟩)
  have hx : x ∉ pre := fun h => by
    rw [List.nodup_append] at hnd
    exact hnd.2.2 x h x (by simp) rfl
  have hmem : ∀ y ∈ pre ++ [x], 0 ≤ y ∧ y < (M.length : Int) := fun y hy => hQ.good.2 y (by rw [← hq]; exact List.mem_append.2 (.inl hy))
  have hx2 := hmem x (by simp)
  have hlen := hQ.good.len
  rw [← hq] at hlen
  simp at hlen
  refine ⟨hx, by omega, hx2, fun e => ?_, fun hne => ?_⟩
  · obtain ⟨e', he⟩ := hQ.first
    rw [← hq, e] at he
    simp at he
    exact he.1
  · have hnb : nodeB M.length x = true := by unfold nodeB; exact decide_eq_true hx2
    unfold aheadL
    rw [hnb, if_pos rfl]
    have hq' : t.1 = pre ++ x :: q := by rw [← hq]; simp
    rcases hQ.led pre x q hq' with ⟨y, hy, hxy⟩ | h0
    · have hyn := hmem y (List.mem_append.2 (.inl hy))
      refine ⟨y, (aheadT_mem M M.length x y).2 ⟨y.toNat, by omega, hxy, by omega⟩, hy⟩
    · simp at h0
      obtain ⟨e', he⟩ := hQ.first
      rw [← hq] at he
      cases pre with
      | nil => exact absurd rfl hne
      | cons z pre => simp at he; exact absurd (by rw [h0, he.1]; simp) hx

theorem ownsRow_farR {w : World} {base e size n : Nat} {v : Value} {xs : List Value} (h : w.ownsRow base e size v n xs) {g : Nat} (hg : g < base) (u : Value) : (w.setCell ⟨g, 0, none⟩ u).ownsRow base e size v n xs := by
  refine ⟨h.1, ?_⟩
  rcases h.2 with hn | ⟨g', cap, cur, rfl, hb, hgg, rest⟩
  · exact .inl hn
  · exact .inr ⟨g', cap, cur, rfl, hb, setFar hgg (by omega) _ _, rest⟩

theorem order_first (M : List (List Int)) (h : 0 < M.length) : ∃ l, (walkF M).2.reverse = 0 :: l := by
  unfold walkF
  obtain ⟨f, hf⟩ : ∃ f, M.length = f + 1 := ⟨M.length - 1, by omega⟩
  rw [hf, dfs_succ]
  simp

/-- Between two rounds. -/
def RcI (w2 : World) (p : Nat) (zs pre : List Int) (W : World) : Prop :=
  (Below w2.heap.size w2 W ∧ w2.heap.size + 3 ≤ W.heap.size) ∧ W.heap[w2.heap.size]? = some (.cells #[.pointer (some ⟨p, 0, none⟩)] 23 (0, 0)) ∧
  (∃ v, W.heap[w2.heap.size + 1]? = some (.cells #[v] 29 (0, 0)) ∧ W.ownsRow (w2.heap.size + 3) 3 1 v pre.length (pre.map (Value.int .i64))) ∧ pre <+: zs
theorem rcI_own (w2 : World) (p : Nat) (zs : List Int) : OwnFrom (w2.heap.size + 3) (RcI w2 p zs) := by
  rintro pre W W' row ⟨h1, h2, ⟨v, h3, h4⟩, h5⟩ hg hr
  exact ⟨⟨belowStay h1.1 (Nat.le_refl _) (by omega) hg hr, Nat.le_trans h1.2 hg.size⟩, cellsStay h2 hg hr, ⟨v, cellsStay h3 hg hr, own_apartly h4 hg (fun g e => .inr (hr g e).2)⟩, h5⟩
theorem rcI_push {w2 W w6 : World} {p : Nat} {zs pre : List Int} {x : Int} {v v6 : Value} (o : Obj) (h : RcI w2 p zs pre W) (hv : W.heap[w2.heap.size + 1]? = some (.cells #[v] 29 (0, 0))) (ho : W.ownsRow (w2.heap.size + 3) 3 1 v pre.length (pre.map (Value.int .i64))) (hp : pre ++ [x] <+: zs) (hg : (W.alloc o).grownBy w6 v.ownBlock) (h6 : w6.ownsRow (w2.heap.size + 3) 3 1 v6 (pre ++ [x]).length ((pre ++ [x]).map (Value.int .i64))) :
    (w6.heap[w2.heap.size + 1]? = some (.cells #[v] 29 (0, 0))) ∧ KeepsFrom (w2.heap.size + 3) W (w6.setCell ⟨w2.heap.size + 1, 0, none⟩ v6) ∧ Kept w2.heap.size (fun _ => False) W (w6.setCell ⟨w2.heap.size + 1, 0, none⟩ v6) ∧ RcI w2 p zs (pre ++ [x]) (w6.setCell ⟨w2.heap.size + 1, 0, none⟩ v6) := by
  obtain ⟨⟨b1, b2⟩, h2, _, _⟩ := h
  have hba : Below W.heap.size W (W.alloc o) := (Below.refl _ _).alloc (Nat.le_refl _) _
  have hoa := own_below ho hba
  have hlt : ∀ j, v.ownBlock = some j → w2.heap.size + 3 ≤ j := fun j e => (World.ownsRow.lt ho j e).1
  have hb6 : Below (w2.heap.size + 3) W w6 := (hba.mono b2).grown hg (by rw [World.size_alloc]; omega) hlt
  have hs6 := hb6.size
  have k1 := (hb6.block (w2.heap.size + 1) (by omega)).trans hv
  have k0 := (hb6.block w2.heap.size (by omega)).trans h2
  have hbz : Below w2.heap.size W (w6.setCell ⟨w2.heap.size + 1, 0, none⟩ v6) := (hb6.mono (by omega)).setCell (by simp) v6
  have hsz : (w6.setCell ⟨w2.heap.size + 1, 0, none⟩ v6).heap.size = w6.heap.size := by simp [World.setCell]
  refine ⟨k1, ?_, ⟨hbz, KeptT.none⟩, ⟨⟨b1.trans hbz, by omega⟩, setFar k0 (by omega) _ _, ⟨v6, oneSet k1 v6, ownsRow_farR h6 (by simp) _⟩, hp⟩⟩
  exact ((KeepsFrom.of_below hba).trans ((others_row hoa hg).from _)).trans ((KeepsOthers.setCell _ _ _).from _)

set_option maxRecDepth 100000 in
set_option maxHeartbeats 8000000 in
theorem graphReaches_true (w : World) (a : Option Addr) (n c : Nat) (N : List (List Int)) (hl : N.length = n) (hv : LV w a N) (hn : 24 * n ≤ 140737488351232) (hr : ∀ q, 8 * (rowN N q).length ≤ 140737488351232) (hc : n ≤ c) :
    Calls Try.prog 3 #[.slice a n c] w fun e w' => e = .returned (.bool true) ∧ Below w.heap.size w w' := by
  have hnf : ∀ (w : World) (B : Nat), (binOp .eql 31 (.func (.func 31) #[] #[.pointer (some ⟨B, 0, none⟩)]) .nilFunc).run Try.prog w = .ok (.bool false) w := fun w B => by kernel_rfl
  have hcp := copied14_any a n c N
  have HA := hide (fun wx => awake14_true wx)
  have HL := hide hl
  have HV := hide hv
  have HCP := hide (fun wx (h : Below w.heap.size w wx) => hcp wx (hv.below h) hl hn hr)
  have hni : (24 : Int) * n ≤ 140737488351232 := by omega
  have HOF := hide (fun ax wx (h : LV wx ax N) => graphOf_any ax n n N wx h hl hn hr)
  clear hl hv hr hn hcp
  refine (callsIn_wide (n := 0)).1 ?_
  refine callsIn_of_wp_marks Try.func3 rfl trivial ?_ rfl
  simp only [Try.ntmps3, List.size_toArray, List.length_cons, List.length_nil, Nat.reduceAdd, Nat.reduceSub, Array.replicate_succ, Array.replicate_zero, List.push_toArray, List.append_toArray, List.nil_append, List.cons_append]
  gi_wp2_with fail
  obtain ⟨wR, hwR⟩ : ∃ X, X = w.alloc (.cells #[.bool false] 4) := ⟨_, rfl⟩
  have hbR : Below w.heap.size w wR := by rw [hwR]; exact (Below.refl _ w).alloc (Nat.le_refl _) _
  have kR : wR.heap[w.heap.size]? = some (.cells #[.bool false] 4 (0, 0)) := by rw [hwR]; exact allocNew w _ rfl
  rw [← hwR]
  clear hwR
  refine ⟨trivial, rfl, (callsIn_wide.2 (HCP.out wR hbR)).mono ?_⟩
  rintro e w1 ⟨h, rfl, hO1, hb1⟩
  obtain ⟨a', c', e', _, hLV, _⟩ := hO1.head
  rw [HL.out] at e'
  cases e'
  have HOFF := hide (HOF.out _ w1 hLV)
  have HB1 := hide (hbR.trans (hb1.mono hbR.size))
  have KR := hide ((hb1.block _ (Array.getElem?_eq_some_iff.1 kR).1).trans kR)
  clear hO1 hb1 hLV hbR kR
  gi_wp2_with fail
  refine ⟨trivial, rfl, (callsIn_wide.2 HOFF.out).mono ?_⟩
  rintro e w2 hq
  unfold OfQ at hq
  rw [HL.out] at hq
  rcases hq with ⟨_, rfl, hb2⟩ | ⟨_, rfl, hb2⟩ | ⟨_, _, _, rfl, hb2⟩ | ⟨h0, h4, hE, p, rfl, hG, hb2⟩
  iterate 3
    · have hbx : Below w2.heap.size w2 (w2.alloc (.cells #[.pointer none] 23)) := (Below.refl _ _).alloc (Nat.le_refl _) _
      have hb22 := hb2.trans (hbx.mono hb2.size)
      have HB2 := hide (HB1.out.trans (hb22.mono HB1.out.size))
      have KR2 := hide ((hb22.block _ (Array.getElem?_eq_some_iff.1 KR.out).1).trans KR.out)
      have kg := (oneCell (allocNew w2 (.cells #[.pointer none] 23) rfl)).1
      have kr2 := oneCell KR2.out
      clear HOFF hb2 hbx hb22
      gi_wp2_with fail
      refine ⟨trivial, rfl, (callsIn_wide.2 (HA.out _)).mono ?_⟩
      rintro e w3 ⟨rfl, hb3⟩
      have HB3 := hide (HB2.out.trans (hb3.mono HB2.out.size))
      have k3 := (hb3.block _ (Array.getElem?_eq_some_iff.1 KR2.out).1).trans KR2.out
      have kr3 := oneCell k3
      obtain ⟨d3, _⟩ := oneCell (oneSet k3 (.bool true))
      have HB4 := hide (HB3.out.setCell (p := ⟨w.heap.size, 0, none⟩) (by simp) (.bool true))
      clear hb3 k3
      gi_wp2_with fail
      exact ⟨.bool true, by simp [results, Try.results3, go_sem, d3], rfl, HB4.out⟩
  · have HB2 := hide (HB1.out.trans (hb2.mono HB1.out.size))
    have KR2 := hide ((hb2.block _ (Array.getElem?_eq_some_iff.1 KR.out).1).trans KR.out)
    have HG2 := hide hG
    have LR2 : w.heap.size < w2.heap.size := by have := hb2.size; have := HB1.out.size; have := (Array.getElem?_eq_some_iff.1 KR2.out).1; omega
    clear HOFF hb2 hG
    obtain ⟨w3, hw3⟩ : ∃ X, X = ((w2.alloc (.cells #[.pointer (some ⟨p, 0, none⟩)] 23)).alloc (.cells #[.slice none 0 0] 29)) := ⟨_, rfl⟩
    have hb23 : Below w2.heap.size w2 w3 := by rw [hw3]; exact ((Below.refl _ w2).alloc (Nat.le_refl _) _).alloc (by simp) _
    have s3 : w3.heap.size = w2.heap.size + 2 := by rw [hw3]; simp
    have kG : w3.heap[w2.heap.size]? = some (.cells #[.pointer (some ⟨p, 0, none⟩)] 23 (0, 0)) := by rw [hw3]; exact allocOld (allocNew w2 _ rfl) _
    have kW : w3.heap[w2.heap.size + 1]? = some (.cells #[.slice none 0 0] 29 (0, 0)) := by rw [hw3]; exact allocNew _ _ (by simp)
    have hIT := graphIter_any w2 w3 _ p _ HG2.out hb23
    gi_wp2_with fail
    rw [← hw3]
    clear hw3
    refine ⟨trivial, rfl, (callsIn_wide.2 hIT).mono ?_⟩
    rintro e w4 ⟨ia, ic, rfl, hB4, hvw, hs4, hb34⟩
    clear hIT
    gi_wp2_with fail
    have hQ := walkF_all _ HG2.out.edges HG2.out.some_
    have hml : (N.map onceF).length = n := by rw [List.length_map]; exact HL.out
    generalize N.map onceF = M at *
    have HML := hide hml
    have HQ := hide hQ
    have HNEXT := hide (fun pre x (h : pre ++ [x] <+: (walkF M).1) => walk_next hQ h)
    have s4 : w4.heap.size = w2.heap.size + 3 := by omega
    have hb24 : Below w2.heap.size w2 w4 := hb23.trans (hb34.mono (by omega))
    have KG4 := (hb34.block _ (by omega)).trans kG
    have KW4 := (hb34.block _ (by omega)).trans kW
    rw [s3] at hB4
    have hzl : (walkF M).1.length ≤ 4096 := by have := hQ.good.len; rw [hml] at this; omega
    have hTL := values_tells ia (walkF M).1.length ic (walkF M).1 w2.heap.size (fun _ => False) w4 (w2.heap.size + 2) hB4 rfl (by omega) (by omega) (fun X hX => hvw.below (hb24.trans hX))
    clear hQ hml hB4 hvw hb34 kG kW hb23 hs4 hzl
    refine name_frame fun T0 hT0 => ?_
    refine wp_tells (by rw [hT0]; rfl) (enters_of Try.func31 (by kernel_rfl) rfl) hTL (by omega) (fun _ => rfl)
      (RcI w2 p (walkF M).1) (fun _ _ _ => False) (by rw [s4]; exact rcI_own w2 p _) (fun c => by rintro pre W W' row h; exact h.elim)
      ⟨⟨hb24, by omega⟩, KG4, ⟨_, KW4, World.ownsRow_nil _ _ _ _⟩, List.nil_prefix⟩
      (fun pre x a' W => pre ++ [x] <+: (walkF M).1 ∧ a' = { tmps := (T0.setIfInBounds 34 (.int .i64 x)).setIfInBounds 7 (.int .i64 x), defers := [] }) ?hAx ?assign ?body ?done ?stop
    case hAx => rintro pre x a' s W W' row h hg hr; exact h
    case stop => rintro D c pre W hD hS h; exact h.elim
    case assign =>
      rintro l pre x W K hI hV hK
      have hK2 := hK _ W (KeepsFrom.refl _ _) (Kept.refl _ _ _) hI ⟨hV, rfl⟩
      clear hK
      subst hT0
      simp only [intV1, List.setIfInBounds_toArray, List.set_cons_succ, List.set_cons_zero] at hK2 ⊢
      gi_wp2
      exact hK2
    case body =>
      rintro l pre x a' W hl' hrr ⟨⟨b1, b2⟩, kg, ⟨vS, kw, hown⟩, hpre⟩ ⟨hV, rfl⟩
      obtain ⟨hx, hpl, hxn, hp0, hp1⟩ := HNEXT.out pre x hV
      subst hT0
      simp only [intV1, List.setIfInBounds_toArray, List.set_cons_succ, List.set_cons_zero]
      have hG := HG2.out.below b1
      obtain ⟨sa, sc, rfl, hvs, hsl⟩ := View.ofOwned hown
      have HNO := hide (fun wx (h : Below W.heap.size W wx) => among_no sa pre.length sc pre x wx (hvs.below h) rfl (by rw [HML.out] at hpl; omega) hx)
      have HLN := hide (fun wx (h : Below W.heap.size W wx) => graphLen_any wx _ p M (hG.below h))
      have HKW := hide (fun wx (h : Below W.heap.size W wx) => (h.block _ (by omega)).trans kw)
      have HKG := hide (fun wx (h : Below W.heap.size W wx) => (h.block _ (by omega)).trans kg)
      rw [HML.out] at HLN hpl
      have HI := hide (show RcI w2 p (walkF M).1 pre W from ⟨⟨b1, b2⟩, kg, ⟨_, kw, hown⟩, hpre⟩)
      have HOWN := hide hown
      have HVS := hide hvs
      have HPL := hide hpl
      have HB2 := hide b2
      have HX := hide hxn
      have HP0 := hide hp0
      have HP1 := hide hp1
      have hC0 := (Below.refl W.heap.size W).drew
      have hlt1 : (pre.length : Int) < (n : Int) := by omega
      generalize hnp : pre.length = np at *
      have HNP := hide hnp
      have hge : decide ((n : Int) ≤ (np : Int)) = false := decide_eq_false (by omega)
      have hge2 : decide (n ≤ np) = false := decide_eq_false (by omega)
      clear hx hpl hxn hp0 hp1 hG hvs hsl b1 b2 kg kw hown hpre hTL hnp hb24 KG4 KW4 hrr
      gi_wp2_with fail
      have hmix : Try.prog.follows .mixedOrders = true := by kernel_rfl
      refine wpIn_normal (wpIn_region_any hmix (wpAnyC_sound (C := Below W.heap.size W) _ _ _ _ ?_))
      change wpAnyC _ _ _ _ _ _ _ _ _ _ (World.drew _)
      refine wpAnyC_takeD (i := 0) (some 35) (v := .slice sa np sc) (fun _ => trivial) (by kernel_rfl) rfl rfl (by kernel_rfl) (by kernel_rfl) (by kernel_rfl) (fun _ _ _ h => by cases h.1) hC0 (Or.inl ⟨by kernel_rfl, fun w' hC => by have e1 := (oneCell (HKW.out w' hC)).1; clear hC; go_simp⟩) ?_
      simp only [Act.put, List.setIfInBounds_toArray, List.set_cons_succ, List.set_cons_zero]
      refine wpAnyC_takeD (i := 1) (some 36) (v := .int .i64 x) (fun _ => trivial) (by kernel_rfl) rfl rfl (by kernel_rfl) (by kernel_rfl) (by kernel_rfl) (fun _ _ _ h => by cases h.1) hC0 (Or.inl ⟨by kernel_rfl, fun w' hC => by clear hC; go_simp⟩) ?_
      simp only [Act.put, List.setIfInBounds_toArray, List.set_cons_succ, List.set_cons_zero]
      refine wpAnyC_ready (rs := [2]) (by kernel_rfl) (by simp) ?_
      refine AllC.cons rfl (fun K hK => ?_) AllC.nil
      go_simp
      refine ⟨trivial, rfl, (CallsIn.inRound l (callsIn_wide.2 (HNO.out _ hC0))).mono ?_⟩
      rintro e w5 ⟨rfl, rfl⟩
      dsimp only
      refine hK _ _ hC0 ?_
      clear hK K
      try simp only [Act.put, List.setIfInBounds_toArray, List.set_cons_succ, List.set_cons_zero]
      refine wpAnyC_takeD (i := 3) (some 38) (v := .bool false) (fun _ => trivial) (by kernel_rfl) rfl rfl (by kernel_rfl) (by kernel_rfl) (by kernel_rfl) (fun _ _ _ h => by cases h.1) hC0 (Or.inl ⟨by kernel_rfl, fun w' hC => by clear hC; go_simp⟩) ?_
      simp only [Act.put, List.setIfInBounds_toArray, List.set_cons_succ, List.set_cons_zero]
      refine wpAnyC_takeD (i := 4) (some 39) (v := .slice sa np sc) (fun _ => trivial) (by kernel_rfl) rfl rfl (by kernel_rfl) (by kernel_rfl) (by kernel_rfl) (fun _ _ _ h => by cases h.1) hC0 (Or.inl ⟨by kernel_rfl, fun w' hC => by have e1 := (oneCell (HKW.out w' hC)).1; clear hC; go_simp⟩) ?_
      simp only [Act.put, List.setIfInBounds_toArray, List.set_cons_succ, List.set_cons_zero]
      refine wpAnyC_takeD (i := 5) (some 40) (v := .int .i64 (np : Int)) (fun _ => trivial) (by kernel_rfl) rfl rfl (by kernel_rfl) (by kernel_rfl) (by kernel_rfl) (fun _ _ _ h => by cases h.1) hC0 (Or.inl ⟨by kernel_rfl, fun w' hC => by clear hC; go_simp⟩) ?_
      simp only [Act.put, List.setIfInBounds_toArray, List.set_cons_succ, List.set_cons_zero]
      refine wpAnyC_takeD (i := 6) (some 41) (v := .pointer (some ⟨p, 0, none⟩)) (fun _ => trivial) (by kernel_rfl) rfl rfl (by kernel_rfl) (by kernel_rfl) (by kernel_rfl) (fun _ _ _ h => by cases h.1) hC0 (Or.inl ⟨by kernel_rfl, fun w' hC => by have e1 := (oneCell (HKG.out w' hC)).1; clear hC; go_simp⟩) ?_
      simp only [Act.put, List.setIfInBounds_toArray, List.set_cons_succ, List.set_cons_zero]
      refine wpAnyC_ready (rs := [7]) (by kernel_rfl) (by simp) ?_
      refine AllC.cons rfl (fun K hK => ?_) AllC.nil
      go_simp
      refine ⟨trivial, rfl, (CallsIn.inRound l (callsIn_wide.2 (HLN.out _ hC0))).mono ?_⟩
      rintro e w5 ⟨rfl, rfl⟩
      dsimp only
      refine hK _ _ hC0 ?_
      clear hK K
      try simp only [Act.put, List.setIfInBounds_toArray, List.set_cons_succ, List.set_cons_zero]
      refine wpAnyC_takeD (i := 8) (some 43) (v := .bool false) (fun _ => trivial) (by kernel_rfl) rfl rfl (by kernel_rfl) (by kernel_rfl) (by kernel_rfl) (fun _ _ _ h => by cases h.1) hC0 (Or.inl ⟨by kernel_rfl, fun w' hC => by clear hC; go_simp⟩) ?_
      simp only [Act.put, List.setIfInBounds_toArray, List.set_cons_succ, List.set_cons_zero]
      refine wpAnyC_takeD (i := 9) (some 44) (v := .bool false) (fun _ => trivial) (by kernel_rfl) rfl rfl (by kernel_rfl) (by kernel_rfl) (by kernel_rfl) (fun _ _ _ h => by cases h.1) hC0 (Or.inl ⟨by kernel_rfl, fun w' hC => by clear hC; go_simp⟩) ?_
      simp only [Act.put, List.setIfInBounds_toArray, List.set_cons_succ, List.set_cons_zero]
      refine wpAnyC_done (by kernel_rfl) ?_ _
      refine ⟨rfl, ?_⟩
      have hw2 := HB2.out
      have c0 := (oneCell (HKW.out _ hC0)).1
      have g0 := (oneCell (HKG.out _ hC0)).1
      have hnx := fun wx (h : Below W.heap.size W wx) => graphAhead_any x wx _ p M ((HG2.out.below HI.out.1.1).below h)
      have hAL : (aheadL M x).length ≤ 4096 := by
        unfold aheadL
        split
        · exact Nat.le_trans (aheadT_len _ _ _) HG2.out.few
        · simp
      have HEX : Hid (pre = [] ∨ ∃ y ∈ aheadL M x, y ∈ pre) := by
        by_cases e : pre = []
        · exact .inl e
        · exact .inr (HP1.out e)
      have hcase : (pre = [] ∧ ((np : Int) == 0) = true ∧ (x != 0) = false) ∨ (pre ≠ [] ∧ ((np : Int) == 0) = false ∧ True) := by
        by_cases e : pre = []
        · exact .inl ⟨e, by rw [← HNP.out, e]; rfl, by rw [HP0.out e]; rfl⟩
        · refine .inr ⟨e, ?_, trivial⟩
          have : np ≠ 0 := fun h => e (List.eq_nil_of_length_eq_zero (by rw [HNP.out]; exact h))
          have : ¬ (np : Int) = 0 := by omega
          simpa using this
      have HNX := hide (hnx _ hC0)
      generalize aheadL M x = AH at *
      generalize hWD : W.drew = WD at *
      clear hnx hWD
      have HC0 := hide hC0
      rcases hcase with ⟨hpe, hz, hz2⟩ | ⟨hpe, hz, hz2⟩
      all_goals
        have HPE := hide hpe
        clear hpe hC0
        gi_wp2_with fail
        refine ⟨trivial, rfl, (CallsIn.inRound l (callsIn_wide.2 HNX.out)).mono ?_⟩
        rintro e w5 ⟨v5, rfl, ho5, hb5⟩
        obtain ⟨aa, ac, rfl, hva, _⟩ := View.ofOwned ho5
        have hB5 : Below W.heap.size W w5 := HC0.out.trans (hb5.mono HC0.out.size)
        have c5 := (oneCell (HKW.out _ hB5)).1
        have HB5 := hide hB5
        have HVA := hide hva
        generalize hna : AH.length = na at *
        have HNA := hide hna
        have HFR : Hid (∀ b : Bool, (b = true ↔ pre = [] ∨ ∃ y ∈ AH.take na, y ∈ pre) → b = true) := fun b hb => hb.2 (by rw [← HNA.out, List.take_length]; exact HEX.out)
        clear ho5 hb5 hva hB5 hna c0 g0
        gi_wp2_with fail
        gi_loopw [9, 10] (fun v i wr => ∃ (k : Nat) (b : Bool), k ≤ na ∧ v = .bool b ∧ i = .int .i64 k ∧ (b = true ↔ pre = [] ∨ ∃ y ∈ AH.take k, y ∈ pre) ∧ Below W.heap.size W wr ∧ Below w5.heap.size w5 wr) (fun _ i _ => na - (intOf i).toNat)
        case atStart => exact ⟨0, _, Nat.zero_le _, rfl, rfl, by simp [HPE.out], HB5.out, Below.refl _ _⟩
        case round =>
          obtain ⟨k, b, hk, rfl, rfl, hb, hW, hW5⟩ := hrel
          by_cases hlt : k < na
          · have hkA : k < AH.length := by rw [HNA.out]; exact hlt
            obtain ⟨b3, o3, rfl, hb3, hcq⟩ := (HVA.out.below hW5) k hkA
            have hki : (k : Int) < (na : Int) := by omega
            have HLT := hide hlt
            have HBB : Hid ((b = true ∨ nth AH k ∈ pre) ↔ pre = [] ∨ ∃ y ∈ AH.take (k + 1), y ∈ pre) := by
              show _ ↔ _
              rw [hb, take_snoc AH k hkA]
              constructor
              · rintro ((h | ⟨y, h, h2⟩) | h)
                · exact .inl h
                · exact .inr ⟨y, List.mem_append.2 (.inl h), h2⟩
                · exact .inr ⟨_, List.mem_append.2 (.inr (by simp)), h⟩
              · rintro (h | ⟨y, h, h2⟩)
                · exact .inl (.inl h)
                · rcases List.mem_append.1 h with h | h
                  · exact .inl (.inr ⟨y, h, h2⟩)
                  · simp at h; subst h; exact .inr h2
            have HW := hide hW
            have HW5 := hide hW5
            have HKW2 := hide (fun wx (h : Below wr.heap.size wr wx) => HKW.out wx (HW.out.trans (h.mono HW.out.size)))
            have HCQ := hide (fun wx (h : Below wr.heap.size wr wx) => (h.cell (p := ⟨b3, o3 + k, none⟩) hb3).trans hcq)
            have HAM := hide (fun wx (h : Below wr.heap.size wr wx) => among_any sa np sc pre (nth AH k) wx (HVS.out.below (HW.out.trans (h.mono HW.out.size))) HNP.out (by have := HPL.out; omega))
            generalize nth AH k = y at *
            generalize hdd : decide (y ∈ pre) = dd at *
            have HDD : Hid (dd = true ↔ y ∈ pre) := by show _ ↔ _; rw [← hdd]; simp
            have hC1 := (Below.refl wr.heap.size wr).drew
            clear hdd hb hkA hlt hk hW hW5 hb3 hcq
            cases b with
            | true =>
              gi_wp2_with fail
              have hmix : Try.prog.follows .mixedOrders = true := by kernel_rfl
              refine wpIn_normal (wpIn_region_any hmix (wpAnyC_sound (C := Below wr.heap.size wr) _ _ _ _ ?_))
              change wpAnyC _ _ _ _ _ _ _ _ _ _ (World.drew _)
              refine wpAnyC_takeD (i := 0) (some 64) (v := .bool true) (fun _ => trivial) (by kernel_rfl) rfl rfl (by kernel_rfl) (by kernel_rfl) (by kernel_rfl) (fun _ _ _ h => by cases h.1) hC1 (Or.inl ⟨by kernel_rfl, fun w' hC => by clear hC; go_simp⟩) ?_
              simp only [Act.put, List.setIfInBounds_toArray, List.set_cons_succ, List.set_cons_zero]
              refine wpAnyC_takeD (i := 1) (some 65) (v := .bool true) (fun _ => trivial) (by kernel_rfl) rfl rfl (by kernel_rfl) (by kernel_rfl) (by kernel_rfl) (fun _ _ _ h => by cases h.1) hC1 (Or.inl ⟨by kernel_rfl, fun w' hC => by clear hC; go_simp⟩) ?_
              simp only [Act.put, List.setIfInBounds_toArray, List.set_cons_succ, List.set_cons_zero]
              refine wpAnyC_takeD (i := 2) (some 66) (v := undef) (fun _ => trivial) (by kernel_rfl) rfl rfl (by kernel_rfl) (by kernel_rfl) (by kernel_rfl) (fun _ _ _ h => by cases h.1) hC1 (Or.inr ⟨by kernel_rfl, rfl⟩) ?_
              simp only [Act.put, List.setIfInBounds_toArray, List.set_cons_succ, List.set_cons_zero]
              refine wpAnyC_takeD (i := 3) (some 67) (v := undef) (fun _ => trivial) (by kernel_rfl) rfl rfl (by kernel_rfl) (by kernel_rfl) (by kernel_rfl) (fun _ _ _ h => by cases h.1) hC1 (Or.inr ⟨by kernel_rfl, rfl⟩) ?_
              simp only [Act.put, List.setIfInBounds_toArray, List.set_cons_succ, List.set_cons_zero]
              refine wpAnyC_takeD (i := 4) (some 68) (v := undef) (fun _ => trivial) (by kernel_rfl) rfl rfl (by kernel_rfl) (by kernel_rfl) (by kernel_rfl) (fun _ _ _ h => by cases h.1) hC1 (Or.inr ⟨by kernel_rfl, rfl⟩) ?_
              simp only [Act.put, List.setIfInBounds_toArray, List.set_cons_succ, List.set_cons_zero]
              refine wpAnyC_takeD (i := 5) (some 69) (v := undef) (fun _ => trivial) (by kernel_rfl) rfl rfl (by kernel_rfl) (by kernel_rfl) (by kernel_rfl) (fun _ _ _ h => by cases h.1) hC1 (Or.inr ⟨by kernel_rfl, rfl⟩) ?_
              simp only [Act.put, List.setIfInBounds_toArray, List.set_cons_succ, List.set_cons_zero]
              refine wpAnyC_takeD (i := 6) (some 70) (v := undef) (fun _ => trivial) (by kernel_rfl) rfl rfl (by kernel_rfl) (by kernel_rfl) (by kernel_rfl) (fun _ _ _ h => by cases h.1) hC1 (Or.inr ⟨by kernel_rfl, rfl⟩) ?_
              simp only [Act.put, List.setIfInBounds_toArray, List.set_cons_succ, List.set_cons_zero]
              refine wpAnyC_takeD (i := 7) (some 71) (v := undef) (fun _ => trivial) (by kernel_rfl) rfl rfl (by kernel_rfl) (by kernel_rfl) (by kernel_rfl) (fun _ _ _ h => by cases h.1) hC1 (Or.inr ⟨by kernel_rfl, rfl⟩) ?_
              simp only [Act.put, List.setIfInBounds_toArray, List.set_cons_succ, List.set_cons_zero]
              refine wpAnyC_takeD (i := 8) (some 72) (v := .bool true) (fun _ => trivial) (by kernel_rfl) rfl rfl (by kernel_rfl) (by kernel_rfl) (by kernel_rfl) (fun _ _ _ h => by cases h.1) hC1 (Or.inl ⟨by kernel_rfl, fun w' hC => by clear hC; go_simp⟩) ?_
              simp only [Act.put, List.setIfInBounds_toArray, List.set_cons_succ, List.set_cons_zero]
              refine wpAnyC_takeD (i := 9) (some 9) (v := .bool true) (fun _ => trivial) (by kernel_rfl) rfl rfl (by kernel_rfl) (by kernel_rfl) (by kernel_rfl) (fun _ _ _ h => by cases h.1) hC1 (Or.inl ⟨by kernel_rfl, fun w' hC => by clear hC; go_simp⟩) ?_
              simp only [Act.put, List.setIfInBounds_toArray, List.set_cons_succ, List.set_cons_zero]
              refine wpAnyC_done (by kernel_rfl) ?_ _
              refine ⟨rfl, ?_⟩
              gi_wp2_with fail
              exact ⟨⟨k + 1, true, HLT.out, rfl, by simp, ⟨fun _ => HBB.out.1 (.inl (by first | rfl | trivial)), fun _ => by first | rfl | trivial⟩, HW.out.drew, HW5.out.drew⟩, measZ2 HLT.out⟩
            | false =>
              gi_wp2_with fail
              have hmix : Try.prog.follows .mixedOrders = true := by kernel_rfl
              refine wpIn_normal (wpIn_region_any hmix (wpAnyC_sound (C := Below wr.heap.size wr) _ _ _ _ ?_))
              change wpAnyC _ _ _ _ _ _ _ _ _ _ (World.drew _)
              refine wpAnyC_takeD (i := 0) (some 64) (v := .bool false) (fun _ => trivial) (by kernel_rfl) rfl rfl (by kernel_rfl) (by kernel_rfl) (by kernel_rfl) (fun _ _ _ h => by cases h.1) hC1 (Or.inl ⟨by kernel_rfl, fun w' hC => by clear hC; go_simp⟩) ?_
              simp only [Act.put, List.setIfInBounds_toArray, List.set_cons_succ, List.set_cons_zero]
              refine wpAnyC_takeD (i := 1) (some 65) (v := .bool false) (fun _ => trivial) (by kernel_rfl) rfl rfl (by kernel_rfl) (by kernel_rfl) (by kernel_rfl) (fun _ _ _ h => by cases h.1) hC1 (Or.inl ⟨by kernel_rfl, fun w' hC => by clear hC; go_simp⟩) ?_
              simp only [Act.put, List.setIfInBounds_toArray, List.set_cons_succ, List.set_cons_zero]
              refine wpAnyC_takeD (i := 2) (some 66) (v := .slice sa np sc) (fun _ => trivial) (by kernel_rfl) rfl rfl (by kernel_rfl) (by kernel_rfl) (by kernel_rfl) (fun _ _ _ h => by cases h.1) hC1 (Or.inl ⟨by kernel_rfl, fun w' hC => by have e1 := (oneCell (HKW2.out w' hC)).1; clear hC; go_simp⟩) ?_
              simp only [Act.put, List.setIfInBounds_toArray, List.set_cons_succ, List.set_cons_zero]
              refine wpAnyC_takeD (i := 3) (some 67) (v := .slice (some ⟨b3, o3, none⟩) na ac) (fun _ => trivial) (by kernel_rfl) rfl rfl (by kernel_rfl) (by kernel_rfl) (by kernel_rfl) (fun _ _ _ h => by cases h.1) hC1 (Or.inl ⟨by kernel_rfl, fun w' hC => by clear hC; go_simp⟩) ?_
              simp only [Act.put, List.setIfInBounds_toArray, List.set_cons_succ, List.set_cons_zero]
              refine wpAnyC_takeD (i := 4) (some 68) (v := .int .i64 (k : Int)) (fun _ => trivial) (by kernel_rfl) rfl rfl (by kernel_rfl) (by kernel_rfl) (by kernel_rfl) (fun _ _ _ h => by cases h.1) hC1 (Or.inl ⟨by kernel_rfl, fun w' hC => by clear hC; go_simp⟩) ?_
              simp only [Act.put, List.setIfInBounds_toArray, List.set_cons_succ, List.set_cons_zero]
              refine wpAnyC_takeD (i := 5) (some 69) (v := .pointer (some ⟨b3, o3 + k, none⟩)) (fun _ => trivial) (by kernel_rfl) rfl rfl (by kernel_rfl) (by kernel_rfl) (by kernel_rfl) (fun _ _ _ h => by cases h.1) hC1 (Or.inl ⟨by kernel_rfl, fun w' hC => by clear hC; go_simp⟩) ?_
              simp only [Act.put, List.setIfInBounds_toArray, List.set_cons_succ, List.set_cons_zero]
              refine wpAnyC_takeD (i := 6) (some 70) (v := .int .i64 y) (fun _ => trivial) (by kernel_rfl) rfl rfl (by kernel_rfl) (by kernel_rfl) (by kernel_rfl) (fun _ _ _ h => by cases h.1) hC1 (Or.inl ⟨by kernel_rfl, fun w' hC => by have e1 := HCQ.out w' hC; clear hC; go_simp⟩) ?_
              simp only [Act.put, List.setIfInBounds_toArray, List.set_cons_succ, List.set_cons_zero]
              refine wpAnyC_ready (rs := [7]) (by kernel_rfl) (by simp) ?_
              refine AllC.cons rfl (fun K hK => ?_) AllC.nil
              go_simp
              refine ⟨trivial, rfl, (CallsIn.inRound l (callsIn_wide.2 (HAM.out _ hC1))).mono ?_⟩
              rintro e w6 ⟨rfl, rfl⟩
              dsimp only
              refine hK _ _ hC1 ?_
              clear hK K
              try simp only [Act.put, List.setIfInBounds_toArray, List.set_cons_succ, List.set_cons_zero]
              refine wpAnyC_takeD (i := 8) (some 72) (v := .bool dd) (fun _ => trivial) (by kernel_rfl) rfl rfl (by kernel_rfl) (by kernel_rfl) (by kernel_rfl) (fun _ _ _ h => by cases h.1) hC1 (Or.inl ⟨by kernel_rfl, fun w' hC => by clear hC; go_simp⟩) ?_
              simp only [Act.put, List.setIfInBounds_toArray, List.set_cons_succ, List.set_cons_zero]
              refine wpAnyC_takeD (i := 9) (some 9) (v := .bool dd) (fun _ => trivial) (by kernel_rfl) rfl rfl (by kernel_rfl) (by kernel_rfl) (by kernel_rfl) (fun _ _ _ h => by cases h.1) hC1 (Or.inl ⟨by kernel_rfl, fun w' hC => by clear hC; go_simp⟩) ?_
              simp only [Act.put, List.setIfInBounds_toArray, List.set_cons_succ, List.set_cons_zero]
              refine wpAnyC_done (by kernel_rfl) ?_ _
              refine ⟨rfl, ?_⟩
              gi_wp2_with fail
              exact ⟨⟨k + 1, dd, HLT.out, rfl, by simp, ⟨fun h => HBB.out.1 (.inr (HDD.out.1 h)), fun h => HDD.out.2 ((HBB.out.2 h).resolve_left (by simp))⟩, HW.out.drew, HW5.out.drew⟩, measZ2 HLT.out⟩
          · have e : na = k := by omega
            subst e
            have hbt := HFR.out b hb
            subst hbt
            have c5 := oneCell (HKW.out _ hW)
            have HW := hide hW
            have hOW := own_below HOWN.out hW
            clear hb hk hlt hW hW5
            obtain ⟨i0, hi0, hz0, hz1, hz2⟩ := info_parts GrInts.info
            have hOA := own_below hOW ((Below.refl wr.heap.size wr).alloc (Nat.le_refl _) (.cells #[.int .i64 x] 3))
            have HOA := hide hOA
            have HII := hide (And.intro hi0 (And.intro hz0 (And.intro hz1 hz2)))
            have HOW := hide hOW
            have HWS := hide HW.out.size
            clear hOA hOW hi0 hz0 hz1 hz2
            gi_wp2_with (gi_at_builtin; refine wpListIn_append_own _ rfl (.tmp 75) (.tmp 77) 29 rfl (w2.heap.size + 3) 3 i0 (.int .i64 0) 1 8 Try.underlying29 HII.out.1 HII.out.2.1 HII.out.2.2.1 HII.out.2.2.2 rfl (by omega) (.slice sa np sc) np _ (by rfl) HOA.out ⟨wr.heap.size, 0, none⟩ 1 1 [.int .i64 x] (by rfl) (by rfl) (World.news_of_block (cs := #[.int .i64 x]) (t := 3) (fr := (0, 0)) (allocNew _ _ rfl)) (by simp [Value.oneCell']) (by unfold maxLen; have := HPL.out; omega) (by have := HPL.out; omega) (by rw [World.size_alloc]; have := HWS.out; have := HB2.out; omega) ?_)
            intro v6 w6 hown6 hg6 _
            obtain ⟨a6, c6, rfl⟩ := own_shapeG hown6
            have hIr := OwnFrom.below (rcI_own w2 p _) HI.out HW.out
            obtain ⟨k6, hf1, hf2, hf3⟩ := rcI_push (.cells #[.int .i64 x] 3) hIr (HKW.out _ HW.out) (by rw [HNP.out]; exact HOW.out) hV hg6 (by simpa [HNP.out] using hown6)
            have HF1 := hide ((KeepsFrom.of_below HW.out).trans hf1)
            have HF2 := hide ((Kept.of_below HW.out (by have := HB2.out; omega)).trans hf2)
            have HF3 := hide hf3
            obtain ⟨e6, f6⟩ := oneCell k6
            clear hIr hf1 hf2 hf3 hg6 hown6 k6
            gi_wp2_with fail
            refine ⟨?_, HF2.out, HF3.out⟩
            have := HF1.out
            rwa [s4]
    case done =>
      rintro D xs W hD rfl ⟨⟨b1, b2⟩, kg, ⟨vS, kw, hown⟩, _⟩ hKD
      subst hT0
      have hG := HG2.out.below b1
      obtain ⟨sa, sc, rfl, hvs, hsl⟩ := View.ofOwned hown
      obtain ⟨cg, _⟩ := oneCell kg
      obtain ⟨cw, _⟩ := oneCell kw
      have hQ := HQ.out
      have hnz : (walkF M).2.reverse.length = (walkF M).1.length := by rw [List.length_reverse]; exact hQ.perm.length_eq
      have HOR := hide (graphOrder_any W _ p M hG)
      have HOM : Hid (∀ x, x ∈ (walkF M).2.reverse ↔ x ∈ (walkF M).1) := fun x => by rw [List.mem_reverse]; exact hQ.perm.mem_iff
      have HO0 := hide (order_first M (by rw [HML.out]; exact h0))
      have HCL := hide hQ.closed
      have HZ : Hid ((walkF M).1.length ≤ 4096) := by show _ ≤ _; have := hQ.good.len; rw [HML.out] at this; omega
      have HRB : Hid (∀ i : Nat, i < n → reachB M (i : Int) = decide ((i : Int) ∈ (walkF M).1)) := fun i hi => by
        unfold reachB
        have : nodeB M.length (i : Int) = true := by unfold nodeB; rw [HML.out]; exact decide_eq_true ⟨by omega, by omega⟩
        rw [this]; simp
      have HVS := hide hvs
      have HG := hide hG
      have HB1 := hide b1
      generalize (walkF M).2.reverse = o at *
      generalize (walkF M).1 = zs at *
      generalize hnp : zs.length = np at *
      have HNP := hide hnp
      clear hQ hvs hsl hG b1 hown hnp hTL hb24 KG4 KW4 HNEXT HQ
      gi_wp2_with fail
      refine ⟨trivial, rfl, (callsIn_wide.2 HOR.out).mono ?_⟩
      rintro e w5 ⟨v5, rfl, ho5, hb5⟩
      obtain ⟨oa, oc, rfl, hvo, _⟩ := View.ofOwned ho5
      rw [hnz]
      have cg5 := (oneCell ((hb5.block _ (Array.getElem?_eq_some_iff.1 kg).1).trans kg)).1
      have cw5 := (oneCell ((hb5.block _ (Array.getElem?_eq_some_iff.1 kw).1).trans kw)).1
      have hol : o.length = np := hnz
      obtain ⟨ob, oo, rfl, hobl, co⟩ := hvo 0 (by obtain ⟨l0, e0⟩ := HO0.out; rw [e0]; simp)
      have hn0 : nth o 0 = 0 := by obtain ⟨l0, e0⟩ := HO0.out; rw [e0]; rfl
      rw [hn0, Nat.add_zero] at co
      have hnp1 : 0 < np := by obtain ⟨l0, e0⟩ := HO0.out; rw [← hol, e0]; simp
      have hnpi : (0 : Int) < (np : Int) := by omega
      have hz : ((np : Int) == 0) = false := by
        have : ¬ (np : Int) = 0 := by omega
        simpa using this
      have HVO := hide hvo
      have HOL := hide hol
      have HB5 := hide (HB1.out.trans (hb5.mono HB1.out.size))
      have HG5 := hide (HG.out.below hb5)
      have HVS5 := hide (HVS.out.below hb5)
      have KG5 := hide ((hb5.block _ (Array.getElem?_eq_some_iff.1 kg).1).trans kg)
      have KW5 := hide ((hb5.block _ (Array.getElem?_eq_some_iff.1 kw).1).trans kw)
      have KR5 := hide (((HB1.out.trans (hb5.mono HB1.out.size)).block _ LR2).trans KR2.out)
      have KD5 := hide ((hb5.block _ (Array.getElem?_eq_some_iff.1 hKD).1).trans hKD)
      clear hvo hol hb5 ho5 hnz kg kw hKD cg cw HOR HVS HG
      gi_wp2_with fail
      gi_loopw [12] (fun i wr => ∃ q : Nat, q ≤ n ∧ i = .int .i64 q ∧ Below w5.heap.size w5 wr) (fun i _ => n - (intOf i).toNat)
      case atStart => exact ⟨0, Nat.zero_le _, rfl, Below.refl _ _⟩
      case round =>
        obtain ⟨q, hq, rfl, hbr⟩ := hrel
        have cg := (oneCell ((hbr.block _ (Array.getElem?_eq_some_iff.1 KG5.out).1).trans KG5.out)).1
        have cw := (oneCell ((hbr.block _ (Array.getElem?_eq_some_iff.1 KW5.out).1).trans KW5.out)).1
        have hLN := graphLen_any wr _ p M (HG5.out.below hbr)
        rw [HML.out] at hLN
        by_cases hlt : q < n
        · have hqi : (q : Int) < (n : Int) := by omega
          gi_wp2_with fail
          refine ⟨trivial, rfl, (callsIn_wide.2 hLN).mono ?_⟩
          rintro e w6 ⟨rfl, rfl⟩
          gi_wp2_with fail
          have hVS := HVS5.out.below hbr
          have HAW := hide (fun x wx (h : Below wr.heap.size wr wx) => among_any sa np sc zs x wx (hVS.below h) HNP.out (by have := HZ.out; omega))
          have hVO := HVO.out.below hbr
          have HAO := hide (fun x wx (h : Below wr.heap.size wr wx) => among_any _ np oc o x wx (hVO.below h) HOL.out (by have := HZ.out; omega))
          have hG := HG5.out.below hbr
          have HGR := hide (fun wx (h : Below wr.heap.size wr wx) => graphReached_any (q : Int) wx _ p M (hG.below h))
          have HGN := hide (fun wx (h : Below wr.heap.size wr wx) => graphNext_any (q : Int) wx _ p M (hG.below h))
          have hne : nextL M (q : Int) = rowN M q := by
            unfold nextL
            have : nodeB M.length (q : Int) = true := by unfold nodeB; rw [HML.out]; exact decide_eq_true ⟨by omega, by omega⟩
            rw [this]; simp
          have hrl := hG.rows q
          have hao := HAO.out (q : Int)
          have hgr := HGR.out
          have haw := HAW.out (q : Int) wr (Below.refl _ _)
          rw [show decide ((q : Int) ∈ o) = decide ((q : Int) ∈ zs) from by rw [Bool.eq_iff_iff]; simp [HOM.out]] at hao
          rw [HRB.out q hlt] at hgr
          rw [hne] at HGN
          have HIS : Hid (decide ((q : Int) ∈ zs) = true → ∀ y ∈ rowN M q, y ∈ zs) := fun h y hy => by
            have := HCL.out (q : Int) (of_decide_eq_true h) y
            simpa using this hy
          generalize decide ((q : Int) ∈ zs) = is at *
          have HAO := hide hao
          have HGR := hide hgr
          have HLT := hide hlt
          have HBR := hide hbr
          have hC0 := (Below.refl wr.heap.size wr).drew
          clear hao hgr hne hVS hVO hG hLN hlt hq hbr
          refine ⟨trivial, rfl, (callsIn_wide.2 haw).mono ?_⟩
          rintro e w6 ⟨rfl, rfl⟩
          clear haw
          gi_wp2_with fail
          refine ⟨trivial, rfl, (callsIn_wide.2 (HAO.out _ (by first | exact Below.refl _ _ | exact hC0))).mono ?_⟩
          rintro e w6 ⟨rfl, rfl⟩
          gi_wp2_with fail
          refine ⟨trivial, rfl, (callsIn_wide.2 (HGR.out _ (by first | exact Below.refl _ _ | exact hC0))).mono ?_⟩
          rintro e w6 ⟨rfl, rfl⟩
          gi_wp2_with fail
          refine ⟨trivial, rfl, (callsIn_wide.2 (HGN.out _ (by first | exact Below.refl _ _ | exact hC0))).mono ?_⟩
          rintro e w6 ⟨v6, rfl, ho6, hb6⟩
          obtain ⟨la, lc, rfl, hvl, _⟩ := View.ofOwned ho6
          have HVL := hide hvl
          have HB6 := hide (HBR.out.trans (hb6.mono HBR.out.size))
          have hAW := fun x wx (h : Below w6.heap.size w6 wx) => HAW.out x wx (hb6.trans (h.mono hb6.size))
          have HAW6 := hide hAW
          have KW6 := hide ((HB6.out.block _ (Array.getElem?_eq_some_iff.1 KW5.out).1).trans KW5.out)
          generalize hnl : (rowN M q).length = nl at *
          have HNL := hide hnl
          have hnli : (nl : Int) ≤ 4096 := by omega
          clear ho6 hb6 hvl hAW hnl hrl hC0
          gi_wp2_with fail
          gi_loopw [15] (fun i wr => ∃ k : Nat, k ≤ nl ∧ i = .int .i64 k ∧ Below w6.heap.size w6 wr) (fun i _ => nl - (intOf i).toNat)
          case atStart => exact ⟨0, Nat.zero_le _, rfl, Below.refl _ _⟩
          case round =>
            obtain ⟨k, hk, rfl, hbq⟩ := hrel
            by_cases hlt : k < nl
            · have hkL : k < (rowN M q).length := by rw [HNL.out]; exact hlt
              obtain ⟨b3, o3, rfl, hb3, hcq⟩ := (HVL.out.below hbq) k hkL
              have hki : (k : Int) < (nl : Int) := by omega
              have hiy : is = true → decide (nth (rowN M q) k ∈ zs) = true := fun h => decide_eq_true (HIS.out h _ (nth_memG _ _ hkL))
              have HKW3 := hide (fun wx (h : Below wr.heap.size wr wx) => ((hbq.trans (h.mono hbq.size)).block _ (Array.getElem?_eq_some_iff.1 KW6.out).1).trans KW6.out)
              have HCQ := hide (fun wx (h : Below wr.heap.size wr wx) => (h.cell (p := ⟨b3, o3 + k, none⟩) hb3).trans hcq)
              have HAMM := hide (fun wx (h : Below wr.heap.size wr wx) => HAW6.out (nth (rowN M q) k) wx (hbq.trans (h.mono hbq.size)))
              have HBQ := hide hbq
              have HLK := hide hlt
              have hC1 := (Below.refl wr.heap.size wr).drew
              generalize nth (rowN M q) k = y at *
              clear hkL hb3 hcq hbq hlt hk
              cases is with
              | true =>
                have HAM := hide HAMM.out
                rw [hiy rfl] at HAM
                clear hiy HAMM
                gi_wp2_with fail
                have hmix : Try.prog.follows .mixedOrders = true := by kernel_rfl
                refine wpIn_normal (wpIn_region_any hmix (wpAnyC_sound (C := Below wr.heap.size wr) _ _ _ _ ?_))
                change wpAnyC _ _ _ _ _ _ _ _ _ _ (World.drew _)
                refine wpAnyC_takeD (i := 0) (some 127) (v := .bool true) (fun _ => trivial) (by kernel_rfl) rfl rfl (by kernel_rfl) (by kernel_rfl) (by kernel_rfl) (fun _ _ _ h => by cases h.1) hC1 (Or.inl ⟨by kernel_rfl, fun w' hC => by clear hC; go_simp⟩) ?_
                simp only [Act.put, List.setIfInBounds_toArray, List.set_cons_succ, List.set_cons_zero]
                refine wpAnyC_takeD (i := 1) (some 128) (v := .bool true) (fun _ => trivial) (by kernel_rfl) rfl rfl (by kernel_rfl) (by kernel_rfl) (by kernel_rfl) (fun _ _ _ h => by cases h.1) hC1 (Or.inl ⟨by kernel_rfl, fun w' hC => by clear hC; go_simp⟩) ?_
                simp only [Act.put, List.setIfInBounds_toArray, List.set_cons_succ, List.set_cons_zero]
                refine wpAnyC_takeD (i := 2) (some 129) (v := .slice sa np sc) (fun _ => trivial) (by kernel_rfl) rfl rfl (by kernel_rfl) (by kernel_rfl) (by kernel_rfl) (fun _ _ _ h => by cases h.1) hC1 (Or.inl ⟨by kernel_rfl, fun w' hC => by have e1 := (oneCell (HKW3.out w' hC)).1; clear hC; go_simp⟩) ?_
                simp only [Act.put, List.setIfInBounds_toArray, List.set_cons_succ, List.set_cons_zero]
                refine wpAnyC_takeD (i := 3) (some 130) (v := .slice (some ⟨b3, o3, none⟩) nl lc) (fun _ => trivial) (by kernel_rfl) rfl rfl (by kernel_rfl) (by kernel_rfl) (by kernel_rfl) (fun _ _ _ h => by cases h.1) hC1 (Or.inl ⟨by kernel_rfl, fun w' hC => by clear hC; go_simp⟩) ?_
                simp only [Act.put, List.setIfInBounds_toArray, List.set_cons_succ, List.set_cons_zero]
                refine wpAnyC_takeD (i := 4) (some 131) (v := .int .i64 (k : Int)) (fun _ => trivial) (by kernel_rfl) rfl rfl (by kernel_rfl) (by kernel_rfl) (by kernel_rfl) (fun _ _ _ h => by cases h.1) hC1 (Or.inl ⟨by kernel_rfl, fun w' hC => by clear hC; go_simp⟩) ?_
                simp only [Act.put, List.setIfInBounds_toArray, List.set_cons_succ, List.set_cons_zero]
                refine wpAnyC_takeD (i := 5) (some 132) (v := .pointer (some ⟨b3, o3 + k, none⟩)) (fun _ => trivial) (by kernel_rfl) rfl rfl (by kernel_rfl) (by kernel_rfl) (by kernel_rfl) (fun _ _ _ h => by cases h.1) hC1 (Or.inl ⟨by kernel_rfl, fun w' hC => by clear hC; go_simp⟩) ?_
                simp only [Act.put, List.setIfInBounds_toArray, List.set_cons_succ, List.set_cons_zero]
                refine wpAnyC_takeD (i := 6) (some 133) (v := .int .i64 y) (fun _ => trivial) (by kernel_rfl) rfl rfl (by kernel_rfl) (by kernel_rfl) (by kernel_rfl) (fun _ _ _ h => by cases h.1) hC1 (Or.inl ⟨by kernel_rfl, fun w' hC => by have e1 := HCQ.out w' hC; clear hC; go_simp⟩) ?_
                simp only [Act.put, List.setIfInBounds_toArray, List.set_cons_succ, List.set_cons_zero]
                refine wpAnyC_ready (rs := [7]) (by kernel_rfl) (by simp) ?_
                refine AllC.cons rfl (fun K hK => ?_) AllC.nil
                go_simp
                refine ⟨trivial, rfl, (callsIn_wide.2 (HAM.out _ hC1)).mono ?_⟩
                rintro e w7 ⟨rfl, rfl⟩
                dsimp only
                refine hK _ _ hC1 ?_
                clear hK K
                try simp only [Act.put, List.setIfInBounds_toArray, List.set_cons_succ, List.set_cons_zero]
                refine wpAnyC_takeD (i := 8) (some 135) (v := .bool false) (fun _ => trivial) (by kernel_rfl) rfl rfl (by kernel_rfl) (by kernel_rfl) (by kernel_rfl) (fun _ _ _ h => by cases h.1) hC1 (Or.inl ⟨by kernel_rfl, fun w' hC => by clear hC; go_simp⟩) ?_
                simp only [Act.put, List.setIfInBounds_toArray, List.set_cons_succ, List.set_cons_zero]
                refine wpAnyC_takeD (i := 9) (some 136) (v := .bool false) (fun _ => trivial) (by kernel_rfl) rfl rfl (by kernel_rfl) (by kernel_rfl) (by kernel_rfl) (fun _ _ _ h => by cases h.1) hC1 (Or.inl ⟨by kernel_rfl, fun w' hC => by clear hC; go_simp⟩) ?_
                simp only [Act.put, List.setIfInBounds_toArray, List.set_cons_succ, List.set_cons_zero]
                refine wpAnyC_done (by kernel_rfl) ?_ _
                refine ⟨rfl, ?_⟩
                gi_wp2_with fail
                exact ⟨⟨k + 1, HLK.out, by simp, HBQ.out.drew⟩, measZ2 HLK.out⟩
              | false =>
                clear hiy HAMM
                gi_wp2_with fail
                have hmix : Try.prog.follows .mixedOrders = true := by kernel_rfl
                refine wpIn_normal (wpIn_region_any hmix (wpAnyC_sound (C := Below wr.heap.size wr) _ _ _ _ ?_))
                change wpAnyC _ _ _ _ _ _ _ _ _ _ (World.drew _)
                refine wpAnyC_takeD (i := 0) (some 127) (v := .bool false) (fun _ => trivial) (by kernel_rfl) rfl rfl (by kernel_rfl) (by kernel_rfl) (by kernel_rfl) (fun _ _ _ h => by cases h.1) hC1 (Or.inl ⟨by kernel_rfl, fun w' hC => by clear hC; go_simp⟩) ?_
                simp only [Act.put, List.setIfInBounds_toArray, List.set_cons_succ, List.set_cons_zero]
                refine wpAnyC_takeD (i := 1) (some 128) (v := .bool false) (fun _ => trivial) (by kernel_rfl) rfl rfl (by kernel_rfl) (by kernel_rfl) (by kernel_rfl) (fun _ _ _ h => by cases h.1) hC1 (Or.inl ⟨by kernel_rfl, fun w' hC => by clear hC; go_simp⟩) ?_
                simp only [Act.put, List.setIfInBounds_toArray, List.set_cons_succ, List.set_cons_zero]
                refine wpAnyC_takeD (i := 2) (some 129) (v := undef) (fun _ => trivial) (by kernel_rfl) rfl rfl (by kernel_rfl) (by kernel_rfl) (by kernel_rfl) (fun _ _ _ h => by cases h.1) hC1 (Or.inr ⟨by kernel_rfl, rfl⟩) ?_
                simp only [Act.put, List.setIfInBounds_toArray, List.set_cons_succ, List.set_cons_zero]
                refine wpAnyC_takeD (i := 3) (some 130) (v := undef) (fun _ => trivial) (by kernel_rfl) rfl rfl (by kernel_rfl) (by kernel_rfl) (by kernel_rfl) (fun _ _ _ h => by cases h.1) hC1 (Or.inr ⟨by kernel_rfl, rfl⟩) ?_
                simp only [Act.put, List.setIfInBounds_toArray, List.set_cons_succ, List.set_cons_zero]
                refine wpAnyC_takeD (i := 4) (some 131) (v := undef) (fun _ => trivial) (by kernel_rfl) rfl rfl (by kernel_rfl) (by kernel_rfl) (by kernel_rfl) (fun _ _ _ h => by cases h.1) hC1 (Or.inr ⟨by kernel_rfl, rfl⟩) ?_
                simp only [Act.put, List.setIfInBounds_toArray, List.set_cons_succ, List.set_cons_zero]
                refine wpAnyC_takeD (i := 5) (some 132) (v := undef) (fun _ => trivial) (by kernel_rfl) rfl rfl (by kernel_rfl) (by kernel_rfl) (by kernel_rfl) (fun _ _ _ h => by cases h.1) hC1 (Or.inr ⟨by kernel_rfl, rfl⟩) ?_
                simp only [Act.put, List.setIfInBounds_toArray, List.set_cons_succ, List.set_cons_zero]
                refine wpAnyC_takeD (i := 6) (some 133) (v := undef) (fun _ => trivial) (by kernel_rfl) rfl rfl (by kernel_rfl) (by kernel_rfl) (by kernel_rfl) (fun _ _ _ h => by cases h.1) hC1 (Or.inr ⟨by kernel_rfl, rfl⟩) ?_
                simp only [Act.put, List.setIfInBounds_toArray, List.set_cons_succ, List.set_cons_zero]
                refine wpAnyC_takeD (i := 7) (some 134) (v := undef) (fun _ => trivial) (by kernel_rfl) rfl rfl (by kernel_rfl) (by kernel_rfl) (by kernel_rfl) (fun _ _ _ h => by cases h.1) hC1 (Or.inr ⟨by kernel_rfl, rfl⟩) ?_
                simp only [Act.put, List.setIfInBounds_toArray, List.set_cons_succ, List.set_cons_zero]
                refine wpAnyC_takeD (i := 8) (some 135) (v := undef) (fun _ => trivial) (by kernel_rfl) rfl rfl (by kernel_rfl) (by kernel_rfl) (by kernel_rfl) (fun _ _ _ h => by cases h.1) hC1 (Or.inr ⟨by kernel_rfl, rfl⟩) ?_
                simp only [Act.put, List.setIfInBounds_toArray, List.set_cons_succ, List.set_cons_zero]
                refine wpAnyC_takeD (i := 9) (some 136) (v := .bool false) (fun _ => trivial) (by kernel_rfl) rfl rfl (by kernel_rfl) (by kernel_rfl) (by kernel_rfl) (fun _ _ _ h => by cases h.1) hC1 (Or.inl ⟨by kernel_rfl, fun w' hC => by clear hC; go_simp⟩) ?_
                simp only [Act.put, List.setIfInBounds_toArray, List.set_cons_succ, List.set_cons_zero]
                refine wpAnyC_done (by kernel_rfl) ?_ _
                refine ⟨rfl, ?_⟩
                gi_wp2_with fail
                exact ⟨⟨k + 1, HLK.out, by simp, HBQ.out.drew⟩, measZ2 HLK.out⟩
            · have e : nl = k := by omega
              subst e
              have HB7 := hide (HB6.out.trans (hbq.mono HB6.out.size))
              clear hk hbq
              gi_wp2_with fail
              exact ⟨⟨q + 1, HLT.out, by simp, HB7.out⟩, measZ2 HLT.out⟩
        · have e : n = q := by omega
          subst e
          have HB7 := hide hbr
          have KR7 := hide ((hbr.block _ (Array.getElem?_eq_some_iff.1 KR5.out).1).trans KR5.out)
          have KD7 := hide ((hbr.block _ (Array.getElem?_eq_some_iff.1 KD5.out).1).trans KD5.out)
          clear hq hbr
          gi_wp2_with fail
          refine ⟨trivial, rfl, (callsIn_wide.2 hLN).mono ?_⟩
          rintro e w6 ⟨rfl, rfl⟩
          gi_wp2_with fail
          refine ⟨trivial, rfl, (callsIn_wide.2 (HA.out _)).mono ?_⟩
          rintro e w7 ⟨rfl, hb7⟩
          have k7 := (hb7.block _ (Array.getElem?_eq_some_iff.1 KR7.out).1).trans KR7.out
          have kr7 := oneCell k7
          obtain ⟨d7, _⟩ := oneCell (oneSet k7 (.bool true))
          have eD := (hb7.block D (Array.getElem?_eq_some_iff.1 KD7.out).1).trans KD7.out
          have hb8 := HB5.out.trans ((HB7.out.trans (hb7.mono HB7.out.size)).mono HB5.out.size)
          have hbw := (HB2.out.trans (hb8.mono HB2.out.size)).setCell (p := ⟨w.heap.size, 0, none⟩) (by simp) (.bool true)
          have eD8 : (w7.setCell ⟨w.heap.size, 0, none⟩ (.bool true)).heap[D]? = some (.deferred (some [])) := (KeepsOthers.setCell _ _ _).same D _ eD rfl
          have hne : D ≠ w.heap.size := by omega
          obtain ⟨d9, _⟩ := oneCell ((World.putObj_heap_other (o := .deferred none) hne.symm).trans (oneSet k7 (.bool true)))
          have HB9 : Hid (Below w.heap.size w ((w7.setCell ⟨w.heap.size, 0, none⟩ (.bool true)).putObj D (.deferred none))) := hbw.grown (grownBy_putObj' _ D (.deferred none)) hbw.size (fun k e => by cases e; omega)
          have ED8 := hide eD8
          clear hb7 k7 hb8 hbw eD eD8
          gi_wp2_with fail
          refine ⟨by simp, .inl ⟨_, _, rfl, run_takeDeferred ED8.out, ?_⟩⟩
          exact ⟨.bool true, by simp [results, Try.results3, go_sem, d9], rfl, HB9.out⟩

end Go.Proofs.Ytpdjmapmpicgjab
