/-
  What Of of the document's answer returns, for every operation: the form of its table, or none.
-/
import Derived.WalkSpells
import Derived.Test.YtjpbiakbjpiceaaProg
import Derived.Test.YtjpbiakbjpiceaaSwitch
import Derived.Test.YtjpbiakbjpiceaaTabG
import Derived.Test.YtjpbiakbjpiceaaRef03Form
namespace Go.Proofs.Ytjpbiakbjpiceaa
open Go.RowKit
set_option linter.unusedVariables false
set_option linter.unusedSimpArgs false

theorem one_block {w : World} {B T : Nat} {cs : Array Value} (h : w.heap[B]? = some (.cells cs T (0, 0))) : (∀ i, w.cell? ⟨B, i, none⟩ = cs[i]?) ∧ (∀ i, w.frozen? ⟨B, i, none⟩ = false) := by
  refine ⟨fun i => ?_, fun i => ?_⟩
  · simp [World.cell?, h]
  · simp [World.frozen?, h]
theorem alloc_new (w : World) (cs : Array Value) (T : Nat) : (w.alloc (.cells cs T)).heap[w.heap.size]? = some (.cells cs T (0, 0)) := heap_alloc_new w _

theorem eight_set {w : World} {B T : Nat} {z0 z1 z2 z3 z4 z5 z6 z7 : Value} (h : w.heap[B]? = some (.cells #[z0, z1, z2, z3, z4, z5, z6, z7] T (0, 0))) (u0 u1 u2 u3 u4 u5 u6 u7 : Value) :
    ((((((((w.setCell ⟨B, 0, none⟩ u0).setCell ⟨B, 1, none⟩ u1).setCell ⟨B, 2, none⟩ u2).setCell ⟨B, 3, none⟩ u3).setCell ⟨B, 4, none⟩ u4).setCell ⟨B, 5, none⟩ u5).setCell ⟨B, 6, none⟩ u6).setCell ⟨B, 7, none⟩ u7).heap[B]? = some (.cells #[u0, u1, u2, u3, u4, u5, u6, u7] T (0, 0)) := by
  simp only [World.setCell, Array.getElem?_modify, h]; simp
theorem eight_below (w : World) (B : Nat) (u0 u1 u2 u3 u4 u5 u6 u7 : Value) :
    Below B w ((((((((w.setCell ⟨B, 0, none⟩ u0).setCell ⟨B, 1, none⟩ u1).setCell ⟨B, 2, none⟩ u2).setCell ⟨B, 3, none⟩ u3).setCell ⟨B, 4, none⟩ u4).setCell ⟨B, 5, none⟩ u5).setCell ⟨B, 6, none⟩ u6).setCell ⟨B, 7, none⟩ u7) :=
  ((((((((Below.refl B w).setCell (Nat.le_refl _) _).setCell (Nat.le_refl _) _).setCell (Nat.le_refl _) _).setCell (Nat.le_refl _) _).setCell (Nat.le_refl _) _).setCell (Nat.le_refl _) _).setCell (Nat.le_refl _) _).setCell (Nat.le_refl _) _

/-- A form as its cells. -/
def frmCells (n : Int) (f : Frm) : Array Value := #[.int .u16 n, .string f.1, .bool f.2.1, .bool f.2.2.1, .string f.2.2.2.1, .string f.2.2.2.2.1, .int .i64 f.2.2.2.2.2.1, .int .u8 f.2.2.2.2.2.2]

/-- A form in a block: its cells. -/
theorem frm_cells {w : World} {B T : Nat} {n : Int} {f : Frm} (h : w.heap[B]? = some (.cells (frmCells n f) T (0, 0))) :
    w.cell? ⟨B, 0, none⟩ = some (.int .u16 n) ∧ w.cell? ⟨B, 1, none⟩ = some (.string f.1) ∧ w.cell? ⟨B, 2, none⟩ = some (.bool f.2.1) ∧ w.cell? ⟨B, 3, none⟩ = some (.bool f.2.2.1) ∧ w.cell? ⟨B, 4, none⟩ = some (.string f.2.2.2.1) ∧ w.cell? ⟨B, 5, none⟩ = some (.string f.2.2.2.2.1) ∧ w.cell? ⟨B, 6, none⟩ = some (.int .i64 f.2.2.2.2.2.1) ∧ w.cell? ⟨B, 7, none⟩ = some (.int .u8 f.2.2.2.2.2.2) ∧ ∀ i, w.frozen? ⟨B, i, none⟩ = false := by
  obtain ⟨hc, hf⟩ := one_block h
  exact ⟨hc 0, hc 1, hc 2, hc 3, hc 4, hc 5, hc 6, hc 7, hf⟩

theorem store_frm (w : World) (B : Nat) (z0 z1 z2 z3 z4 z5 z6 z7 : Value) (h : w.heap[B]? = some (.cells #[z0, z1, z2, z3, z4, z5, z6, z7] 24 (0, 0))) (a : Act) (r : Nat) (n : Int) (f : Frm) (h2 : a.tmps[2]?.getD undef = .pointer (some ⟨B, 0, none⟩)) (hr : a.tmps[r]?.getD undef = formV n f) (ty : TypeId) (pos : String) (af : Array Edge) :
    ∃ w', (execOp a.eval ⟨none, .store 24 (.tmp 2) (.tmp r), ty, pos, af, none⟩).run Try.prog w = .ok .skip w' ∧ w'.heap[B]? = some (.cells (frmCells n f) 24 (0, 0)) ∧ Below B w w' := by
  obtain ⟨hc, hf⟩ := one_block h
  have c0 := hc 0
  have c1 := hc 1
  have c2 := hc 2
  have c3 := hc 3
  have c4 := hc 4
  have c5 := hc 5
  have c6 := hc 6
  have c7 := hc 7
  unfold formV at hr
  refine ⟨_, ?_, eight_set h _ _ _ _ _ _ _ _, eight_below _ _ _ _ _ _ _ _ _ _⟩
  clear h
  simp [execOp, go_sem, h2, hr, hf, c0, c1, c2, c3, c4, c5, c6, c7]

theorem op_skip {P : Program} {o : Oper} {a : Act} {w w' : World} {K : Act → World → Prop} {Q : Exit → Act → World → Prop} (h : (execOp a.eval o).run P w = .ok .skip w') (hK : K (a.put o.dst undef) w') : o.wp P a w K Q := by
  unfold Oper.wp; rw [h]; exact hK
theorem op_new {P : Program} {o : Oper} {a : Act} {w w' : World} {K : Act → World → Prop} {Q : Exit → Act → World → Prop} {v : Value} (h : (execOp a.eval o).run P w = .ok (.value v) w') (hK : K (a.put o.dst v) w') : o.wp P a w K Q := by
  unfold Oper.wp; rw [h]; exact hK
theorem op_enter {P : Program} {o : Oper} {a : Act} {w : World} {K : Act → World → Prop} {Q : Exit → Act → World → Prop} {f : FuncId} {args : Array Value} (h : (execOp a.eval o).run P w = .ok (.enter f args) w) {v : Value} {R : World → Prop} (hc : Calls P f args w fun e w' => e = .returned v ∧ R w')
    (hK : ∀ w', R w' → K (a.put o.dst v) w') : o.wp P a w K Q := by
  unfold Oper.wp; rw [h]
  refine hc.mono ?_
  rintro e w' ⟨rfl, hr⟩
  exact hK w' hr

/-- The form that an arm answers. -/
def armForm (g T top : Nat) : Code → Option Frm
  | .seq (.region _ ops false) .ret =>
    match ops.toList with
    | [⟨some m, .move (.tmp 0), _, _, _, none⟩, ⟨some r, .call ⟨.value (.func g'), args, _⟩, _, _, _, none⟩, ⟨none, .store T' (.tmp 2) (.tmp r'), _, _, _, none⟩, ⟨some 3, .assign (.const (.bool true)), _, _, _, none⟩] =>
      match args.toList with
      | [.tmp m', .const (.string nm), .const (.bool t), .const (.bool rr), .const (.string fx), .const (.string rs), .const (.int .i64 mo), .const (.int .u8 pa)] =>
        if g' = g ∧ T' = T ∧ m' = m ∧ r' = r ∧ 5 ≤ m ∧ 5 ≤ r ∧ m < top ∧ r < top ∧ m ≠ r then some (nm, t, rr, fx, rs, mo, pa) else none
      | _ => none
    | _ => none
  | _ => none

theorem wp_armForm {top : Nat} {c : Code} {f : Frm} (h : armForm 25 24 top c = some f) {a : Act} {w : World} {B : Nat} {n : Int} {fn : Func} {R : Ending → World → Prop} (hfn : fn.results = #[.cell 2 24, .tmp 3]) (h5 : 5 ≤ top)
    (hs : a.tmps.size = top) (hd : a.defers = []) (h0 : a.tmps.getD 0 undef = .int .u16 n) (h2 : a.tmps.getD 2 undef = .pointer (some ⟨B, 0, none⟩)) {z0 z1 z2 z3 z4 z5 z6 z7 : Value} (hB : w.heap[B]? = some (.cells #[z0, z1, z2, z3, z4, z5, z6, z7] 24 (0, 0)))
    (hR : ∀ w', Below B w w' → R (.returned (.tuple #[formV n f, .bool true])) w') {Q : Exit → Act → World → Prop} (hQ : ∀ a' w', bodyPost Try.prog fn R .ret a' w' → Q .ret a' w') : c.wp Try.prog Q a w := by
  unfold armForm at h
  split at h
  case h_2 => cases h
  rename_i id ops
  split at h
  case h_2 => cases h
  rename_i m y1 y2 y3 r g' args y4 y5 y6 y7 T' r' y8 y9 y10 y11 y12 y13 hl
  split at h
  case h_2 => cases h
  rename_i m' nm t rr fx rs mo pa hargs
  split at h
  case isFalse => cases h
  rename_i hh
  obtain ⟨rfl, rfl, rfl, rfl, k1, k2, k3, k4, k5⟩ := hh
  have q1 : ∀ i : Nat, i < 5 → ∀ s : Nat, ¬ (m' = i ∧ i < s) := fun i hi s h => absurd (Nat.lt_of_lt_of_le hi k1) (by rw [h.1]; exact Nat.lt_irrefl _)
  have q2 : ∀ i : Nat, i < 5 → ∀ s : Nat, ¬ (r' = i ∧ i < s) := fun i hi s h => absurd (Nat.lt_of_lt_of_le hi k2) (by rw [h.1]; exact Nat.lt_irrefl _)
  cases h
  obtain ⟨args⟩ := args
  simp only at hargs
  subst hargs
  refine wp_seq (wp_region_list ?_)
  rw [hl]
  have hBs : B < w.heap.size := (Array.getElem?_eq_some_iff.1 hB).1
  have e0 : a.tmps[0]?.getD undef = .int .u16 n := by rw [← Array.getD_eq_getD_getElem?]; exact h0
  refine wpList_plain rfl fun K hK => op_value (v := .int .u16 n) (by simp [execOp, go_sem, e0]) (hK _ _ ?_)
  clear hK K
  generalize ha1 : a.put (some m') (.int .u16 n) = a1
  have e1 : a1.tmps[m']?.getD undef = .int .u16 n := by rw [← Array.getD_eq_getD_getElem?, ← ha1, getD_put, if_pos ⟨rfl, by rw [hs]; exact k3⟩]
  refine wpList_plain rfl fun K hK => op_enter (f := 25) (by simp [execOp, go_sem, e1]) (form_any n nm t rr fx rs mo pa w) (fun w1 hb1 => hK _ _ ?_)
  clear hK K
  have hB1 := (hb1.block B hBs).trans hB
  generalize ha2 : a1.put (some r') _ = a2
  have e2 : a2.tmps[2]?.getD undef = .pointer (some ⟨B, 0, none⟩) := by rw [← Array.getD_eq_getD_getElem?, ← ha2, getD_put, if_neg (q2 2 (by decide) _), ← ha1, getD_put, if_neg (q1 2 (by decide) _)]; exact h2
  have e3 : a2.tmps[r']?.getD undef = formV n (nm, t, rr, fx, rs, mo, pa) := by rw [← Array.getD_eq_getD_getElem?, ← ha2, getD_put, if_pos ⟨rfl, by rw [← ha1]; simp [Act.put]; rw [hs]; exact k4⟩]; rfl
  obtain ⟨w2, hrun, hB2, hb2⟩ := store_frm w1 B z0 z1 z2 z3 z4 z5 z6 z7 hB1 a2 r' n (nm, t, rr, fx, rs, mo, pa) e2 e3 y8 y9 y10
  refine wpList_plain rfl fun K hK => op_skip hrun (hK _ _ ?_)
  clear hK K
  refine wpList_plain rfl fun K hK => op_value (v := .bool true) (by simp [execOp, go_sem]) (hK _ _ ?_)
  clear hK K
  refine wpList_nil (wp_ret (hQ _ _ ?_))
  have sz : (a2.put none undef).tmps.size = top := by rw [← ha2, ← ha1]; simp [Act.put, hs]
  refine ⟨by rw [← ha2, ← ha1]; simp [Act.put, hd], .tuple #[formV n (nm, t, rr, fx, rs, mo, pa), .bool true], ?_, hR w2 ((hb1.mono (Nat.le_of_lt hBs)).trans hb2)⟩
  generalize ha3 : (a2.put none undef).put (some 3) (.bool true) = a3
  have e4 : a3.tmps[2]?.getD undef = .pointer (some ⟨B, 0, none⟩) := by rw [← Array.getD_eq_getD_getElem?, ← ha3, getD_put, if_neg (by omega), Array.getD_eq_getD_getElem?]; exact e2
  have e5 : a3.tmps[3]?.getD undef = .bool true := by rw [← Array.getD_eq_getD_getElem?, ← ha3, getD_put, if_pos ⟨rfl, by rw [sz]; omega⟩]
  obtain ⟨hc, hf⟩ := one_block hB2
  have c0 := hc 0
  have c1 := hc 1
  have c2 := hc 2
  have c3 := hc 3
  have c4 := hc 4
  have c5 := hc 5
  have c6 := hc 6
  have c7 := hc 7
  unfold frmCells at c0 c1 c2 c3 c4 c5 c6 c7
  simp [results, hfn, go_sem, e4, e5, formV, c0, c1, c2, c3, c4, c5, c6, c7]

/-- A list of arms, each a form. -/
def formsOf (g T top : Nat) : List (Int × Code) → Option (List (Int × Frm))
  | [] => some []
  | (k, c) :: l => match armForm g T top c, formsOf g T top l with
    | some s, some t => some ((k, s) :: t)
    | _, _ => none
theorem formsOf_mem {g T top : Nat} : ∀ {l : List (Int × Code)} {t : List (Int × Frm)}, formsOf g T top l = some t → ∀ k c, (k, c) ∈ l → ∃ s, armForm g T top c = some s ∧ (k, s) ∈ t
  | [], _, _, _, _, hm => by cases hm
  | (k', c') :: l, t, h, k, c, hm => by
    rw [formsOf] at h
    split at h
    case h_2 => cases h
    rename_i s t' h1 h2
    cases h
    rcases List.mem_cons.1 hm with e | hm
    · cases e; exact ⟨s, h1, List.mem_cons_self⟩
    · obtain ⟨s2, h3, h4⟩ := formsOf_mem h2 k c hm
      exact ⟨s2, h3, List.mem_cons_of_mem _ h4⟩
theorem formsOf_keys {g T top : Nat} : ∀ {l : List (Int × Code)} {t : List (Int × Frm)}, formsOf g T top l = some t → ∀ k s, (k, s) ∈ t → ∃ c, (k, c) ∈ l
  | [], _, h, _, _, hm => by rw [formsOf] at h; cases h; cases hm
  | (k', c') :: l, t, h, k, s, hm => by
    rw [formsOf] at h
    split at h
    case h_2 => cases h
    rename_i s' t' h1 h2
    cases h
    rcases List.mem_cons.1 hm with e | hm
    · cases e; exact ⟨c', List.mem_cons_self⟩
    · obtain ⟨c2, h3⟩ := formsOf_keys h2 k s hm
      exact ⟨c2, List.mem_cons_of_mem _ h3⟩

/-- The form of an operation, and whether there is one. -/
def lookF : List (Int × Frm) → Int → Frm × Bool
  | [], _ => (noFrm, false)
  | (k, s) :: l, n => if n = k then (s, true) else lookF l n
def oneEachF (l : List (Int × Frm)) : Bool := match l with
  | [] => true
  | (k, _) :: l => (l.all fun p => decide (p.1 ≠ k)) && oneEachF l
theorem lookF_mem : ∀ {l : List (Int × Frm)}, oneEachF l = true → ∀ k s, (k, s) ∈ l → lookF l k = (s, true)
  | [], _, _, _, h => by cases h
  | (k', s') :: l, h1, k, s, hm => by
    rw [oneEachF, Bool.and_eq_true] at h1
    rcases List.mem_cons.1 hm with e | hm
    · cases e; simp [lookF]
    · have := List.all_eq_true.1 h1.1 (k, s) hm
      simp only [ne_eq, decide_not, Bool.not_eq_true', decide_eq_false_iff_not] at this
      rw [lookF, if_neg this]
      exact lookF_mem h1.2 k s hm
theorem lookF_none : ∀ {l : List (Int × Frm)} {n : Int}, (∀ k s, (k, s) ∈ l → n ≠ k) → lookF l n = (noFrm, false)
  | [], _, _ => rfl
  | (k', s') :: l, n, h => by
    rw [lookF, if_neg (h k' s' List.mem_cons_self)]
    exact lookF_none fun k s hm => h k s (List.mem_cons_of_mem _ hm)

/-- What is answered of an operation: its number and form, or zeros. -/
def ofV (n : Int) : Value := if (lookF refT n).2 then formV n (lookF refT n).1 else formV 0 noFrm

theorem wp_noForm {top m : Nat} {a : Act} {w : World} {B : Nat} {fn : Func} {R : Ending → World → Prop} {y1 y2 y3 y4 y5 y6 y7 y8 y9 id} (hfn : fn.results = #[.cell 2 24, .tmp 3]) (h5 : 5 ≤ top) (hm : m < top) (hm5 : 5 ≤ m)
    (hs : a.tmps.size = top) (hd : a.defers = []) (h2 : a.tmps.getD 2 undef = .pointer (some ⟨B, 0, none⟩)) {z0 z1 z2 z3 z4 z5 z6 z7 : Value} (hB : w.heap[B]? = some (.cells #[z0, z1, z2, z3, z4, z5, z6, z7] 24 (0, 0)))
    (hR : ∀ w', Below B w w' → R (.returned (.tuple #[formV 0 noFrm, .bool false])) w') :
    (Code.seq (.region id #[⟨some m, .build 24 #[], y1, y2, y3, none⟩, ⟨none, .store 24 (.tmp 2) (.tmp m), y4, y5, y6, none⟩, ⟨some 3, .assign (.const (.bool false)), y7, y8, y9, none⟩] false) .ret).wp Try.prog (bodyPost Try.prog fn R) a w := by
  refine wp_seq (wp_region_lit ?_)
  refine wpList_plain rfl fun K hK => op_value (v := formV 0 noFrm) (by simp [execOp, go_sem, formV, noFrm]) (hK _ _ ?_)
  clear hK K
  generalize ha2 : a.put (some m) _ = a2
  have e2 : a2.tmps[2]?.getD undef = .pointer (some ⟨B, 0, none⟩) := by rw [← Array.getD_eq_getD_getElem?, ← ha2, getD_put, if_neg (by omega)]; exact h2
  have e3 : a2.tmps[m]?.getD undef = formV 0 noFrm := by rw [← Array.getD_eq_getD_getElem?, ← ha2, getD_put, if_pos ⟨rfl, by rw [hs]; exact hm⟩]
  obtain ⟨w2, hrun, hB2, hb2⟩ := store_frm w B z0 z1 z2 z3 z4 z5 z6 z7 hB a2 m 0 noFrm e2 e3 y4 y5 y6
  refine wpList_plain rfl fun K hK => op_skip hrun (hK _ _ ?_)
  clear hK K
  refine wpList_plain rfl fun K hK => op_value (v := .bool false) (by simp [execOp, go_sem]) (hK _ _ ?_)
  clear hK K
  refine wpList_nil (wp_ret ?_)
  have sz : (a2.put none undef).tmps.size = top := by rw [← ha2]; simp [Act.put, hs]
  refine ⟨by rw [← ha2]; simp [Act.put, hd], .tuple #[formV 0 noFrm, .bool false], ?_, hR w2 hb2⟩
  generalize ha3 : (a2.put none undef).put (some 3) (.bool false) = a3
  have e4 : a3.tmps[2]?.getD undef = .pointer (some ⟨B, 0, none⟩) := by rw [← Array.getD_eq_getD_getElem?, ← ha3, getD_put, if_neg (by omega), Array.getD_eq_getD_getElem?]; exact e2
  have e5 : a3.tmps[3]?.getD undef = .bool false := by rw [← Array.getD_eq_getD_getElem?, ← ha3, getD_put, if_pos ⟨rfl, by rw [sz]; omega⟩]
  obtain ⟨hc, hf⟩ := one_block hB2
  have c0 := hc 0
  have c1 := hc 1
  have c2 := hc 2
  have c3 := hc 3
  have c4 := hc 4
  have c5 := hc 5
  have c6 := hc 6
  have c7 := hc 7
  unfold frmCells noFrm at c0 c1 c2 c3 c4 c5 c6 c7
  simp [results, hfn, go_sem, e4, e5, formV, noFrm, c0, c1, c2, c3, c4, c5, c6, c7]

/-- The switch, off the code. -/
def formSwitch (g T top : Nat) (c : Code) : Option (List (Int × Frm)) := match armsOf 4 5 top .u16 200 c with
  | some l => formsOf g T top l
  | none => none

set_option maxRecDepth 10000 in
theorem refOf_any (n : Int) (w : World) : Calls Try.prog 9 #[.int .u16 n] w fun e w' => e = .returned (.tuple #[ofV n, .bool (lookF refT n).2]) ∧ Below w.heap.size w w' := by
  refine calls_of_wp Try.func9 rfl ?_
  generalize ha : ({ tmps := #[.int .u16 n] ++ Array.replicate (Try.f9.ntmps - (#[Value.int .u16 n] : Array Value).size) undef, defers := [] } : Act) = a
  have hsz : a.tmps.size = Try.f9.ntmps := by rw [← ha]; simp
  have ha0 : a.tmps.getD 0 undef = .int .u16 n := by rw [← ha]; rw [Array.getD_eq_getD_getElem?, Array.getElem?_append_left (by simp)]; rfl
  have had : a.defers = [] := by rw [← ha]
  have h1 : oneEachF refT = true := by decide +kernel
  clear ha
  refine wp_seq (wp_region_lit ?_)
  refine wpList_plain rfl fun K hK => op_new (v := .pointer (some ⟨w.heap.size, 0, none⟩)) (w' := w.alloc (.cells (frmCells 0 noFrm) 24)) (by simp [execOp, go_sem, frmCells, noFrm]) (hK _ _ ?_)
  clear hK K
  refine wpList_plain rfl fun K hK => op_value (v := .bool false) (by simp [execOp, go_sem]) (hK _ _ (wpList_nil ?_))
  clear hK K
  refine wp_seq (wp_seq (wp_region_lit ?_))
  generalize hA : (a.put (some 2) (.pointer (some ⟨w.heap.size, 0, none⟩))).put (some 3) (.bool false) = A
  have sA : A.tmps.size = Try.f9.ntmps := by rw [← hA]; simp [Act.put, hsz]
  have dA : A.defers = [] := by rw [← hA]; simp [Act.put, had]
  have A0 : A.tmps.getD 0 undef = .int .u16 n := by rw [← hA, getD_put, if_neg (by omega), getD_put, if_neg (by omega)]; exact ha0
  have A2 : A.tmps.getD 2 undef = .pointer (some ⟨w.heap.size, 0, none⟩) := by rw [← hA, getD_put, if_neg (by omega), getD_put, if_pos ⟨rfl, by rw [hsz]; decide⟩]
  clear hA
  have A0' : A.tmps[0]?.getD undef = .int .u16 n := by rw [← Array.getD_eq_getD_getElem?]; exact A0
  refine wpList_plain rfl fun K hK => op_value (v := .int .u16 n) (by simp [execOp, go_sem, A0']) (hK _ _ (wpList_nil (wp_block ?_)))
  clear hK K
  generalize hX : A.put (some 4) (.int .u16 n) = X
  have sX : X.tmps.size = Try.f9.ntmps := by rw [← hX]; simp [Act.put, sA]
  have dX : X.defers = [] := by rw [← hX]; simp [Act.put, dA]
  have X0 : X.tmps.getD 0 undef = .int .u16 n := by rw [← hX, getD_put, if_neg (by omega)]; exact A0
  have X2 : X.tmps.getD 2 undef = .pointer (some ⟨w.heap.size, 0, none⟩) := by rw [← hX, getD_put, if_neg (by omega)]; exact A2
  have X4 : X.tmps.getD 4 undef = .int .u16 n := by rw [← hX, getD_put, if_pos ⟨rfl, by rw [sA]; decide⟩]
  clear hX A0 A0' A2 dA sA
  have hB : (w.alloc (.cells (frmCells 0 noFrm) 24)).heap[w.heap.size]? = some (.cells (frmCells 0 noFrm) 24 (0, 0)) := alloc_new w _ _
  have hbel : Below w.heap.size w (w.alloc (.cells (frmCells 0 noFrm) 24)) := (Below.refl _ w).alloc (Nat.le_refl _) _
  generalize w.alloc (.cells (frmCells 0 noFrm) 24) = W at *
  have sw : ∀ c, formSwitch 25 24 Try.f9.ntmps c = some refT → ∀ Q, (∀ a' (d : Code) f, Agree 5 X a' → armForm 25 24 Try.f9.ntmps d = some f → lookF refT n = (f, true) → d.wp Try.prog Q a' W) → (∀ a', Agree 5 X a' → lookF refT n = (noFrm, false) → Q .normal a' W) → c.wp Try.prog Q X W := by
    intro c hc Q harm hno
    unfold formSwitch at hc
    split at hc
    case h_2 => cases hc
    rename_i l hl
    refine wp_arms (x := 4) (lo := 5) (n := n) (by omega) 200 c l X W hl sX X4 (fun a' k d hag hm e => ?_) (fun a' hag hn => ?_)
    · obtain ⟨f, h3, h5⟩ := formsOf_mem hc k d hm
      exact harm a' d f hag h3 (by rw [e]; exact lookF_mem h1 k f h5)
    · exact hno a' hag (lookF_none fun k s hm => by obtain ⟨c, hc⟩ := formsOf_keys hc k s hm; exact hn k c hc)
  refine sw _ (by kernel_rfl) _ (fun a' d f hag h3 h4 => ?_) (fun a' hag h4 => ?_)
  · exact wp_armForm (B := w.heap.size) (n := n) (fn := Try.f9) (R := fun e w' => e = .returned (.tuple #[ofV n, .bool (lookF refT n).2]) ∧ Below w.heap.size w w') h3 rfl (by decide) (hag.1.trans sX) (hag.2.1.trans dX) ((hag.2.2 0 (by omega)).trans X0) ((hag.2.2 2 (by omega)).trans X2) hB (fun w' hb => ⟨by rw [ofV, h4]; rfl, hbel.trans hb⟩) (fun a' w' h => h)
  · exact wp_noForm (top := Try.f9.ntmps) (B := w.heap.size) (fn := Try.f9) (R := fun e w' => e = .returned (.tuple #[ofV n, .bool (lookF refT n).2]) ∧ Below w.heap.size w w') rfl (by decide) (by decide) (by decide) (hag.1.trans sX) (hag.2.1.trans dX) ((hag.2.2 2 (by omega)).trans X2) hB (fun w' hb => ⟨by rw [ofV, h4]; rfl, hbel.trans hb⟩)

end Go.Proofs.Ytjpbiakbjpiceaa
