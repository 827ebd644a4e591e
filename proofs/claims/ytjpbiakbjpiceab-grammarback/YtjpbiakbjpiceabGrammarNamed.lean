/-
  What Named of the layer grammar returns, for every name.
-/
import Derived.RangeFuncNested
import Derived.RangeFuncBound
import Derived.RangeFuncCalls
import Derived.RangeFuncLeaves
import Derived.Shelf.Abstract
import Derived.Shelf.RegionOpen
import Derived.WalkKit
import Derived.OwnWalkIn
import Derived.TacticsInMore
import Derived.LoopNIn
import Derived.LoopIn
import Derived.Test.YtjpbiakbjpiceabBoxes
import Derived.Test.YtjpbiakbjpiceabGrammarFormTexts
import Derived.Test.YtjpbiakbjpiceabRef03Named
namespace Go.Proofs.Ytjpbiakbjpiceab
open Go.RowKit Go.Shelf
set_option maxRecDepth 10000
attribute [local go_sem] Oper.semAt_some
set_option linter.unusedVariables false
set_option linter.unusedSimpArgs false

theorem eight_far {w : World} {B k : Nat} {o : Obj} (h : w.heap[k]? = some o) (hne : k ≠ B) (u0 u1 u2 u3 u4 u5 u6 u7 : Value) :
    ((((((((w.setCell ⟨B, 0, none⟩ u0).setCell ⟨B, 1, none⟩ u1).setCell ⟨B, 2, none⟩ u2).setCell ⟨B, 3, none⟩ u3).setCell ⟨B, 4, none⟩ u4).setCell ⟨B, 5, none⟩ u5).setCell ⟨B, 6, none⟩ u6).setCell ⟨B, 7, none⟩ u7).heap[k]? = some o :=
  setFar (setFar (setFar (setFar (setFar (setFar (setFar (setFar h hne _ _) hne _ _) hne _ _) hne _ _) hne _ _) hne _ _) hne _ _) hne _ _
theorem eight_others (w : World) (B : Nat) (u0 u1 u2 u3 u4 u5 u6 u7 : Value) :
    KeepsOthers w ((((((((w.setCell ⟨B, 0, none⟩ u0).setCell ⟨B, 1, none⟩ u1).setCell ⟨B, 2, none⟩ u2).setCell ⟨B, 3, none⟩ u3).setCell ⟨B, 4, none⟩ u4).setCell ⟨B, 5, none⟩ u5).setCell ⟨B, 6, none⟩ u6).setCell ⟨B, 7, none⟩ u7) :=
  (((((((KeepsOthers.setCell _ _ _).trans (KeepsOthers.setCell _ _ _)).trans (KeepsOthers.setCell _ _ _)).trans (KeepsOthers.setCell _ _ _)).trans (KeepsOthers.setCell _ _ _)).trans (KeepsOthers.setCell _ _ _)).trans (KeepsOthers.setCell _ _ _)).trans (KeepsOthers.setCell _ _ _)

/-- A text begins with another. -/
def hpB (t s : ByteArray) : Bool := decide (s.size ≤ t.size) && ((t.extract 0 s.size).toList == s.toList)

theorem litePrefix_any (t s : ByteArray) (w : World) (ht : t.size ≤ 140737488351232) (hs : s.size ≤ 140737488351232) :
    Calls Try.prog 43 #[.string t, .string s] w fun e w' => e = .returned (.bool (hpB t s)) ∧ w = w' := by
  by_cases h : s.size ≤ t.size
  · have HE : Hid (hpB t s = ((t.extract 0 s.size).toList == s.toList)) := by show _ = _; unfold hpB; rw [decide_eq_true h]; rfl
    have h' : decide ((t.size : Int) ≥ (s.size : Int)) = true := decide_eq_true (by omega)
    have hi : (s.size : Int) ≤ (t.size : Int) := by omega
    go_enter Try.func43, Try.ntmps43
    go_wp2
    go_ret
    exact ⟨by rw [HE.out]; rfl, rfl⟩
  · have HE : Hid (hpB t s = false) := by show _ = _; unfold hpB; rw [decide_eq_false h]; rfl
    go_enter Try.func43, Try.ntmps43
    go_wp2
    go_ret
    exact ⟨by rw [HE.out]; rfl, rfl⟩

theorem hasPrefix_any (t s : ByteArray) (w : World) (ht : t.size ≤ 140737488351232) (hs : s.size ≤ 140737488351232) :
    Calls Try.prog 27 #[.string t, .string s] w fun e w' => e = .returned (.bool (hpB t s)) ∧ w = w' := by
  have hL := fun w => litePrefix_any t s w ht hs
  generalize hpB t s = b at *
  go_enter Try.func27, Try.ntmps27
  go_wp2_with fail
  refine (hL _).mono ?_
  rintro e w1 ⟨rfl, rfl⟩
  go_wp2
  go_ret
  exact ⟨rfl, rfl⟩

theorem heads_ok : opsL.all (fun k => hpB (ftxt k) (opF k).1) = true := by decide +kernel
theorem bytes_eq {a b : ByteArray} (h : (a.toList == b.toList) = true) : a = b := by
  have h := eq_of_beq h
  rw [ByteArray.toList_eq, ByteArray.toList_eq] at h
  obtain ⟨⟨a⟩⟩ := a
  obtain ⟨⟨b⟩⟩ := b
  simp only at h
  rw [h]
theorem nam_head {s : ByteArray} {k : Nat} (hk : k ∈ opsL) (h : hpB (ftxt k) s = false) : namP s k = false := by
  cases e : namP s k
  · rfl
  · have h1 := List.all_eq_true.1 heads_ok k hk
    rw [bytes_eq e] at h1
    rw [h1] at h; cases h

/-- Between two rounds. -/
def NamedI (s : ByteArray) (w : World) (pre : List Nat) (W : World) : Prop :=
  (Below w.heap.size w W ∧ w.heap.size + 3 ≤ W.heap.size) ∧ W.heap[w.heap.size]? = some (.cells #[.string s] 9 (0, 0)) ∧ W.heap[w.heap.size + 1]? = some (.cells (frmCells 0 noFrm) 33 (0, 0)) ∧ W.heap[w.heap.size + 2]? = some (.cells #[.bool false] 4 (0, 0)) ∧ ∀ k ∈ pre, namP s k = false
/-- Behind the round that left. -/
def NamedX (s : ByteArray) (w : World) (c : Code) (pre : List Nat) (W : World) : Prop :=
  c = .ret ∧ (Below w.heap.size w W ∧ w.heap.size + 3 ≤ W.heap.size) ∧ ∃ (pre' : List Nat) (x : Nat), pre = pre' ++ [x] ∧ (∀ k ∈ pre', namP s k = false) ∧ namP s x = true ∧
    W.heap[w.heap.size + 1]? = some (.cells (frmCells x (opF x)) 33 (0, 0)) ∧ W.heap[w.heap.size + 2]? = some (.cells #[.bool true] 4 (0, 0))
theorem namedI_own (s : ByteArray) (w : World) : OwnFrom (w.heap.size + 3) (NamedI s w) := by
  rintro pre W W' row ⟨h1, h2, h3, h4, h5⟩ hg hr
  exact ⟨⟨belowStay h1.1 (Nat.le_refl _) (by omega) hg hr, Nat.le_trans h1.2 hg.size⟩, cellsStay h2 hg hr, cellsStay h3 hg hr, cellsStay h4 hg hr, h5⟩
theorem namedX_own (s : ByteArray) (w : World) (c : Code) : OwnFrom (w.heap.size + 3) (NamedX s w c) := by
  rintro pre W W' row ⟨h0, h1, pre', x, h2, h3, h4, h5, h6⟩ hg hr
  exact ⟨h0, ⟨belowStay h1.1 (Nat.le_refl _) (by omega) hg hr, Nat.le_trans h1.2 hg.size⟩, pre', x, h2, h3, h4, cellsStay h5 hg hr, cellsStay h6 hg hr⟩

theorem opF_read (k : Nat) (w : World) : Calls Try.prog 28 #[.int .u16 k, .string (ftxt k)] w fun e w' => e = .returned (formV k (opF k)) ∧ Below w.heap.size w w' := readForm_op k w
theorem ftxt_size (k : Nat) : (ftxt k).size ≤ 140737488351232 := Nat.le_trans (ftxt_ok k).2.1 (by omega)

set_option maxRecDepth 100000 in
set_option maxHeartbeats 4000000 in
theorem named_any (s : ByteArray) (w : World) (hs : s.size ≤ 140737488351232) : Calls Try.prog 9 #[.string s] w fun e w' => e = .returned (.tuple #[namedV s, .bool (namedB s)]) ∧ Below w.heap.size w w' := by
  have HP : Hid (∀ k w, _) := fun (k : Nat) w => hasPrefix_any (ftxt k) s w (ftxt_size k) hs
  clear hs
  refine (callsIn_wide (n := 0)).1 ?_
  refine callsIn_of_wp_marks Try.func9 rfl trivial ?_ rfl
  simp only [Try.ntmps9, List.size_toArray, List.length_cons, List.length_nil, Nat.reduceAdd, Nat.reduceSub, Array.replicate_succ, Array.replicate_zero, List.push_toArray, List.append_toArray, List.nil_append, List.cons_append]
  gi_wp2_with fail
  refine ⟨trivial, rfl, (callsIn_wide.2 (formTexts_any _)).mono ?_⟩
  rintro e w2 ⟨rfl, rfl⟩
  obtain ⟨wL, hwL⟩ : ∃ X, X = (((w.alloc (.cells #[.string s] 9)).alloc (.cells #[.int .u16 0, .string ⟨#[]⟩, .bool false, .bool false, .string ⟨#[]⟩, .string ⟨#[]⟩, .int .i64 0, .int .u8 0] 33)).alloc (.cells #[.bool false] 4)) := ⟨_, rfl⟩
  have hsL : wL.heap.size = w.heap.size + 3 := by rw [hwL]; simp
  have hbL : Below w.heap.size w wL := by rw [hwL]; exact ((((Below.refl _ w).alloc (Nat.le_refl _) _).alloc (by simp) _).alloc (by simp; omega) _)
  have k0 : wL.heap[w.heap.size]? = some (.cells #[.string s] 9 (0, 0)) := by rw [hwL]; exact allocOld (allocOld (allocNew w _ rfl) _) _
  have k1 : wL.heap[w.heap.size + 1]? = some (.cells (frmCells 0 noFrm) 33 (0, 0)) := by rw [hwL]; exact allocOld (allocNew _ _ (by simp)) _
  have k2 : wL.heap[w.heap.size + 2]? = some (.cells #[.bool false] 4 (0, 0)) := by rw [hwL]; exact allocNew _ _ (by simp)
  gi_wp2_with fail
  rw [← hwL]
  clear hwL
  simp only [Nat.add_assoc, Nat.reduceAdd]
  refine wp_tells rfl (enters_of Try.func42 (by kernel_rfl) rfl) (formTexts_tells w.heap.size (fun _ => False) wL) (by omega) (fun _ => rfl)
    (NamedI s w) (NamedX s w) (by rw [hsL]; exact namedI_own s w) (fun c => by rw [hsL]; exact namedX_own s w c)
    ⟨⟨hbL, by omega⟩, k0, k1, k2, fun q hq => by simp at hq⟩
    (fun pre x a' W => pre ++ [x] <+: opsL ∧ a' = { tmps := #[.string s, .pointer (some ⟨w.heap.size, 0, none⟩), .pointer (some ⟨w.heap.size + 1, 0, none⟩), .pointer (some ⟨w.heap.size + 2, 0, none⟩), .int .u16 x, .string (ftxt x), undef, .func (.func 42) #[] #[], .int .u16 x, .string (ftxt x), undef, undef, undef, undef, undef, undef, undef, undef, undef, undef, undef, undef, undef], defers := [] })
    ?hAx ?assign ?body ?done ?stop
  case hAx =>
    rintro pre x a' s W W' row h hg hr
    exact h
  case assign =>
    rintro l pre x W K hI hV hK
    simp only [opV]
    gi_wp2
    exact hK _ _ (KeepsFrom.refl _ _) (Kept.refl _ _ _) hI ⟨hV, rfl⟩
  case body =>
    rintro l pre x a' W hl' ⟨r, hr⟩ ⟨⟨h1, hlt⟩, h2, h3, h4, h6⟩ ⟨hV, rfl⟩
    have hx : x ∈ opsL := hV.subset (by simp)
    have HHP := HP.out x
    have HNH : Hid (hpB (ftxt x) s = false → namP s x = false) := nam_head hx
    have hRF := fun w => opF_read x w
    obtain ⟨c0, _⟩ := oneCell h2
    have go : ∀ W', Below W.heap.size W W' → namP s x = false → KeepsFrom wL.heap.size W W' ∧ Kept w.heap.size (fun _ => False) W W' ∧ NamedI s w (pre ++ [x]) W' := fun W' hb hno =>
      have sz := hb.size
      ⟨KeepsFrom.of_below hb, Kept.of_below hb (by omega), ⟨h1.trans (hb.mono h1.size), by omega⟩, (hb.block _ (by omega)).trans h2, (hb.block _ (by omega)).trans h3, (hb.block _ (by omega)).trans h4, fun q hq => by
        rcases List.mem_append.1 hq with h | h
        · exact h6 q h
        · simp at h; subst h; exact hno⟩
    have HGO : Hid (∀ W', Below W.heap.size W W' → namP s x = false → KeepsFrom wL.heap.size W W' ∧ Kept w.heap.size (fun _ => False) W W' ∧ NamedI s w (pre ++ [x]) W') := go
    have HPP : Hid (namP s x = ((opF x).1.toList == s.toList)) := rfl
    have HOUT : Hid (∀ W' W'' : World, Below W.heap.size W W' → namP s x = true → Below (w.heap.size + 1) W' W'' → KeepsOthers W' W'' → W''.heap[w.heap.size + 1]? = some (.cells (frmCells x (opF x)) 33 (0, 0)) → W''.heap[w.heap.size + 2]? = some (.cells #[.bool true] 4 (0, 0)) → KeepsFrom wL.heap.size W W'' ∧ NamedX s w .ret (pre ++ [x]) W'') := fun W' W'' hb hyes hb2 hko e1 e2 =>
      have sz := hb.size
      have sz2 := hb2.size
      ⟨(KeepsFrom.of_below hb).trans (hko.from _), rfl, ⟨(h1.trans (hb.mono h1.size)).trans (hb2.mono (by omega)), by omega⟩, pre, x, rfl, h6, hyes, e1, e2⟩
    have H34 : Hid (W.heap[w.heap.size + 1]? = some (.cells (frmCells 0 noFrm) 33 (0, 0)) ∧ W.heap[w.heap.size + 2]? = some (.cells #[.bool false] 4 (0, 0)) ∧ W.heap[w.heap.size]? = some (.cells #[.string s] 9 (0, 0))) := ⟨h3, h4, h2⟩
    clear go h2 h3 h4 h6 h1 hV hx
    generalize ftxt x = t at *
    gi_wp2_with fail
    refine ⟨trivial, rfl, (CallsIn.inRound l (callsIn_wide.2 (HHP _))).mono ?_⟩
    rintro e w3 ⟨rfl, rfl⟩
    cases hp : hpB t s
    · have hno := HNH.out hp
      have fin := HGO.out W (Below.refl _ _) hno
      clear HGO HOUT
      gi_wp2
      exact fin
    · clear HNH
      gi_wp2_with fail
      refine ⟨trivial, rfl, (CallsIn.inRound l (callsIn_wide.2 (hRF _))).mono ?_⟩
      rintro e w3 ⟨rfl, hb3⟩
      have hbw3 : Below W.heap.size W (w3.alloc (.cells (frmCells x (opF x)) 77)) := hb3.alloc hb3.size _
      have s3 := hb3.size
      obtain ⟨q1, q2, q3⟩ := H34.out
      have d1 := (hb3.block (w.heap.size + 1) (by omega)).trans q1
      have d2 := (hb3.block (w.heap.size + 2) (by omega)).trans q2
      have d3 := (hb3.block w.heap.size (by omega)).trans q3
      obtain ⟨g0, _⟩ := oneCell d3
      obtain ⟨g2, gf⟩ := oneCell d2
      obtain ⟨u0, u1, u2, u3, u4, u5, u6, u7, uf⟩ := frm_cells (n := 0) (f := noFrm) d1
      unfold noFrm at u1 u2 u3 u4 u5 u6 u7
      have l0 : w.heap.size < w3.heap.size := by omega
      have l1 : w.heap.size + 1 < w3.heap.size := by omega
      have l2 : w.heap.size + 2 < w3.heap.size := by omega
      have HW4 : Hid (Below W.heap.size W (w3.alloc (.cells (frmCells x (opF x)) 77))) := hbw3
      have HD : Hid (w3.heap[w.heap.size + 1]? = some (.cells (frmCells 0 noFrm) 33 (0, 0)) ∧ w3.heap[w.heap.size + 2]? = some (.cells #[.bool false] 4 (0, 0))) := ⟨d1, d2⟩
      have HB3 : Hid (Below W.heap.size W w3) := hb3
      clear q1 q2 q3 d1 d2 d3 hb3 hbw3 c0 hRF HHP H34
      generalize hf : opF x = f at *
      obtain ⟨nm, t', r', fx, rs, mo, pa⟩ := f
      unfold formV
      cases hn : (nm.toList == s.toList)
      · have hno : namP s x = false := by rw [HPP.out]; exact hn
        have fin := HGO.out _ HW4.out hno
        clear HGO HOUT hf hno HPP
        gi_wp2
        exact fin
      · have hyes : namP s x = true := by rw [HPP.out]; exact hn
        have HFIN : Hid (∀ W'', Below (w.heap.size + 1) w3 W'' → KeepsOthers w3 W'' → W''.heap[w.heap.size + 1]? = some (.cells (frmCells x (nm, t', r', fx, rs, mo, pa)) 33 (0, 0)) → W''.heap[w.heap.size + 2]? = some (.cells #[.bool true] 4 (0, 0)) → KeepsFrom wL.heap.size W W'' ∧ NamedX s w .ret (pre ++ [x]) W'') := fun W'' => HOUT.out _ W'' HB3.out hyes
        clear HGO HOUT hf hyes HPP HW4
        gi_wp2
        refine HFIN.out _ ?_ ?_ ?_ ?_
        · exact ((eight_below w3 (w.heap.size + 1) _ _ _ _ _ _ _ _).setCell (p := ⟨w.heap.size + 2, 0, none⟩) (by simp) _).alloc (by simp [World.setCell]; omega) _
        · exact ((eight_others w3 (w.heap.size + 1) _ _ _ _ _ _ _ _).trans (KeepsOthers.setCell _ _ _)).trans ⟨by simp, fun k o hk _ => allocOld hk _⟩
        · exact allocOld (setFar (eight_set HD.out.1 _ _ _ _ _ _ _ _) (by omega) _ _) _
        · exact allocOld (oneSet (eight_far HD.out.2 (by omega) _ _ _ _ _ _ _ _) _) _
  case done =>
    rintro D xs W hD rfl ⟨⟨h1, hlt⟩, h2, h3, h4, h6⟩ hK
    have hnone : opsL.find? (namP s) = none := List.find?_eq_none.2 (fun q hq => by rw [h6 q hq]; simp)
    have HE : Hid (namedV s = formV 0 noFrm ∧ namedB s = false) := by show _ ∧ _; unfold namedV namedB; rw [hnone]; exact ⟨rfl, rfl⟩
    obtain ⟨c3, f3⟩ := oneCell h4
    obtain ⟨u0, u1, u2, u3, u4, u5, u6, u7, uf⟩ := frm_cells (n := 0) (f := noFrm) h3
    unfold noFrm at u1 u2 u3 u4 u5 u6 u7
    clear hnone
    obtain ⟨Y, hY⟩ : ∃ Y, Y = ((((((((W.setCell ⟨w.heap.size + 1, 0, none⟩ (.int .u16 0)).setCell ⟨w.heap.size + 1, 1, none⟩ (.string ⟨#[]⟩)).setCell ⟨w.heap.size + 1, 2, none⟩ (.bool false)).setCell ⟨w.heap.size + 1, 3, none⟩ (.bool false)).setCell ⟨w.heap.size + 1, 4, none⟩ (.string ⟨#[]⟩)).setCell ⟨w.heap.size + 1, 5, none⟩ (.string ⟨#[]⟩)).setCell ⟨w.heap.size + 1, 6, none⟩ (.int .i64 0)).setCell ⟨w.heap.size + 1, 7, none⟩ (.int .u8 0)).setCell ⟨w.heap.size + 2, 0, none⟩ (.bool false) := ⟨_, rfl⟩
    have hKY : Y.heap[D]? = some (.deferred (some [])) := by rw [hY]; exact ((eight_others _ _ _ _ _ _ _ _ _ _).trans (KeepsOthers.setCell _ _ _)).same D _ hK rfl
    have hbY : Below w.heap.size w Y := by rw [hY]; exact (h1.trans ((eight_below _ _ _ _ _ _ _ _ _ _).mono (by omega))).setCell (by simp) _
    have y2 : Y.heap[w.heap.size + 1]? = some (.cells (frmCells 0 noFrm) 33 (0, 0)) := by rw [hY]; exact setFar (eight_set h3 _ _ _ _ _ _ _ _) (by omega) _ _
    have y3 : Y.heap[w.heap.size + 2]? = some (.cells #[.bool false] 4 (0, 0)) := by rw [hY]; exact oneSet (eight_far h4 (by omega) _ _ _ _ _ _ _ _) _
    have hput := grownBy_putObj' Y D (.deferred none)
    have hpr : ∀ r, some D = some r → (0 ≤ r ∧ ∃ o : Obj, Y.heap[r]? = some o ∧ o.isCells = false) := fun r e => by cases e; exact ⟨Nat.zero_le _, _, hKY, rfl⟩
    have r1 := (oneCell (cellsStay y3 hput hpr)).1
    have HR : Hid ((Y.putObj D (.deferred none)).heap[w.heap.size + 1]? = some (.cells (frmCells 0 noFrm) 33 (0, 0))) := cellsStay y2 hput hpr
    have hbE : Below w.heap.size w (Y.putObj D (.deferred none)) := hbY.trans (belowK_b (w := w) (Nat.le_refl _) Y D _ _ (by omega) hKY rfl rfl)
    clear h1 h2 h3 h4 h6 y2 y3 hput hpr hbY
    gi_wp2_with fail
    rw [← hY]
    refine ⟨by simp, .inl ⟨_, _, rfl, run_takeDeferred hKY, ?_⟩⟩
    obtain ⟨v0, v1, v2, v3, v4, v5, v6, v7, vf⟩ := frm_cells HR.out
    unfold noFrm at v1 v2 v3 v4 v5 v6 v7
    exact ⟨.tuple #[formV 0 noFrm, .bool false], by simp [results, Try.results9, go_sem, formV, noFrm, r1, v0, v1, v2, v3, v4, v5, v6, v7], by rw [HE.out.1, HE.out.2], hbE⟩
  case stop =>
    rintro D c pre W hD hpre ⟨rfl, ⟨h1, hlt⟩, pre', x, rfl, h3, h4, h5, h6⟩ hK
    have hsome : opsL.find? (namP s) = some x := by
      obtain ⟨z, hz⟩ := hpre
      rw [← hz, List.append_assoc, List.find?_append, List.find?_eq_none.2 (fun q hq => by rw [h3 q hq]; simp)]
      simp [h4]
    have HE : Hid (namedV s = formV x (opF x) ∧ namedB s = true) := by show _ ∧ _; unfold namedV namedB; rw [hsome]; exact ⟨rfl, rfl⟩
    have hput := grownBy_putObj' W D (.deferred none)
    have hpr : ∀ r, some D = some r → (0 ≤ r ∧ ∃ o : Obj, W.heap[r]? = some o ∧ o.isCells = false) := fun r e => by cases e; exact ⟨Nat.zero_le _, _, hK, rfl⟩
    have r1 := (oneCell (cellsStay h6 hput hpr)).1
    obtain ⟨u0, u1, u2, u3, u4, u5, u6, u7, uf⟩ := frm_cells (cellsStay h5 hput hpr)
    have hbE : Below w.heap.size w (W.putObj D (.deferred none)) := h1.trans (belowK_b (w := w) (Nat.le_refl _) W D _ _ (by omega) hK rfl rfl)
    clear h1 h5 h6 hput hpr
    gi_wp2_with fail
    refine ⟨by simp, .inl ⟨_, _, rfl, run_takeDeferred hK, ?_⟩⟩
    exact ⟨.tuple #[formV x (opF x), .bool true], by simp [results, Try.results9, go_sem, formV, r1, u0, u1, u2, u3, u4, u5, u6, u7], by rw [HE.out.1, HE.out.2], hbE⟩

end Go.Proofs.Ytjpbiakbjpiceab
