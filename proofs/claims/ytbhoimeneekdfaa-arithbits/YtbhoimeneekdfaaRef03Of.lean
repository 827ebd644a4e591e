/-
  What Of of the document's answer returns, for every operation: the form of its table, or none.
-/
import Derived.WalkSpells
import Derived.Test.YtbhoimeneekdfaaProg
import Derived.Test.YtbhoimeneekdfaaSwitch
import Derived.Test.YtbhoimeneekdfaaTabG
import Derived.Test.YtbhoimeneekdfaaRef03Form
namespace Go.Proofs.Ytbhoimeneekdfaa
open Go.RowKit
set_option maxRecDepth 10000
set_option linter.unusedVariables false
set_option linter.unusedSimpArgs false

theorem one_block {w : World} {B T : Nat} {cs : Array Value} (h : w.heap[B]? = some (.cells cs T (0, 0))) : (∀ i, w.cell? ⟨B, i, none⟩ = cs[i]?) ∧ (∀ i, w.frozen? ⟨B, i, none⟩ = false) := by
  refine ⟨fun i => ?_, fun i => ?_⟩
  · simp [World.cell?, h]
  · simp [World.frozen?, h]
theorem alloc_new (w : World) (cs : Array Value) (T : Nat) : (w.alloc (.cells cs T)).heap[w.heap.size]? = some (.cells cs T (0, 0)) := heap_alloc_new w _

theorem eight_set {w : World} {B T : Nat} {z0 z1 z2 z3 z4 z5 z6 z7 : Value} (h : w.heap[B]? = some (.cells #[z0, z1, z2, z3, z4, z5, z6, z7] T (0, 0))) (u0 u1 u2 u3 u4 u5 u6 u7 : Value) :
    ((((((((w.setCell ⟨B, 0, none⟩ u0).setCell ⟨B, 1, none⟩ u1).setCell ⟨B, 2, none⟩ u2).setCell ⟨B, 3, none⟩ u3).setCell ⟨B, 4, none⟩ u4).setCell ⟨B, 5, none⟩ u5).setCell ⟨B, 6, none⟩ u6).setCell ⟨B, 7, none⟩ u7).heap[B]? = some (.cells #[u0, u1, u2, u3, u4, u5, u6, u7] T (0, 0)) := by
  simp only [World.setCell, Array.getElem?_modify, h]; simp
theorem eight_below (w : World) (B : Nat) (u0 u1 u2 u3 u4 u5 u6 u7 : Value) :
    Below B w ((((((((w.setCell ⟨B, 0, none⟩ u0).setCell ⟨B, 1, none⟩ u1).setCell ⟨B, 2, none⟩ u2).setCell ⟨B, 3, none⟩ u3).setCell ⟨B, 4, none⟩ u4).setCell ⟨B, 5, none⟩ u5).setCell ⟨B, 6, none⟩ u6).setCell ⟨B, 7, none⟩ u7) :=
  ((((((((Below.refl B w).setCell (Nat.le_refl _) _).setCell (Nat.le_refl _) _).setCell (Nat.le_refl _) _).setCell (Nat.le_refl _) _).setCell (Nat.le_refl _) _).setCell (Nat.le_refl _) _).setCell (Nat.le_refl _) _).setCell (Nat.le_refl _) _

/-- A form as its cells. -/
def frmCells (n : Int) (f : Frm) : Array Value := #[.int .u16 n, .string f.1, .bool f.2.1, .bool f.2.2.1, .string f.2.2.2.1, .string f.2.2.2.2.1, .int .i64 f.2.2.2.2.2.1, .int .u8 f.2.2.2.2.2.2]

/-- A form in a block: its cells. -/
theorem frm_cells {w : World} {B T : Nat} {n : Int} {f : Frm} (h : w.heap[B]? = some (.cells (frmCells n f) T (0, 0))) :
    w.cell? ⟨B, 0, none⟩ = some (.int .u16 n) ∧ w.cell? ⟨B, 1, none⟩ = some (.string f.1) ∧ w.cell? ⟨B, 2, none⟩ = some (.bool f.2.1) ∧ w.cell? ⟨B, 3, none⟩ = some (.bool f.2.2.1) ∧ w.cell? ⟨B, 4, none⟩ = some (.string f.2.2.2.1) ∧ w.cell? ⟨B, 5, none⟩ = some (.string f.2.2.2.2.1) ∧ w.cell? ⟨B, 6, none⟩ = some (.int .i64 f.2.2.2.2.2.1) ∧ w.cell? ⟨B, 7, none⟩ = some (.int .u8 f.2.2.2.2.2.2) ∧ ∀ i, w.frozen? ⟨B, i, none⟩ = false := by
  obtain ⟨hc, hf⟩ := one_block h
  exact ⟨hc 0, hc 1, hc 2, hc 3, hc 4, hc 5, hc 6, hc 7, hf⟩

theorem store_frm (w : World) (B : Nat) (z0 z1 z2 z3 z4 z5 z6 z7 : Value) (h : w.heap[B]? = some (.cells #[z0, z1, z2, z3, z4, z5, z6, z7] 46 (0, 0))) (a : Act) (r : Nat) (n : Int) (f : Frm) (h2 : a.tmps[2]?.getD undef = .pointer (some ⟨B, 0, none⟩)) (hr : a.tmps[r]?.getD undef = formV n f) (ty : TypeId) (pos : String) (af : Array Edge) :
    ∃ w', (execOp a.eval ⟨none, .store 46 (.tmp 2) (.tmp r), ty, pos, af, none⟩).run Try.prog w = .ok .skip w' ∧ w'.heap[B]? = some (.cells (frmCells n f) 46 (0, 0)) ∧ Below B w w' := by
  obtain ⟨hc, hf⟩ := one_block h
  have c0 := hc 0
  have c1 := hc 1
  have c2 := hc 2
  have c3 := hc 3
  have c4 := hc 4
  have c5 := hc 5
  have c6 := hc 6
  have c7 := hc 7
  unfold formV at hr
  refine ⟨_, ?_, eight_set h _ _ _ _ _ _ _ _, eight_below _ _ _ _ _ _ _ _ _ _⟩
  clear h
  simp [execOp, go_sem, h2, hr, hf, c0, c1, c2, c3, c4, c5, c6, c7]

theorem op_skip {P : Program} {o : Oper} {a : Act} {w w' : World} {K : Act → World → Prop} {Q : Exit → Act → World → Prop} (h : (execOp a.eval o).run P w = .ok .skip w') (hK : K (a.put o.dst undef) w') : o.wp P a w K Q := by
  unfold Oper.wp; rw [h]; exact hK
theorem op_new {P : Program} {o : Oper} {a : Act} {w w' : World} {K : Act → World → Prop} {Q : Exit → Act → World → Prop} {v : Value} (h : (execOp a.eval o).run P w = .ok (.value v) w') (hK : K (a.put o.dst v) w') : o.wp P a w K Q := by
  unfold Oper.wp; rw [h]; exact hK
theorem op_enter {P : Program} {o : Oper} {a : Act} {w : World} {K : Act → World → Prop} {Q : Exit → Act → World → Prop} {f : FuncId} {args : Array Value} (h : (execOp a.eval o).run P w = .ok (.enter f args) w) {v : Value} {R : World → Prop} (hc : Calls P f args w fun e w' => e = .returned v ∧ R w')
    (hK : ∀ w', R w' → K (a.put o.dst v) w') : o.wp P a w K Q := by
  unfold Oper.wp; rw [h]
  refine hc.mono ?_
  rintro e w' ⟨rfl, hr⟩
  exact hK w' hr

/-- The form that an arm answers. -/
def armForm (g T top : Nat) : Code → Option Frm
  | .seq (.region _ ops false) .ret =>
    match ops.toList with
    | [⟨some m, .move (.tmp 0), _, _, _, none⟩, ⟨some r, .call ⟨.value (.func g'), args, _⟩, _, _, _, none⟩, ⟨none, .store T' (.tmp 2) (.tmp r'), _, _, _, none⟩, ⟨some 3, .assign (.const (.bool true)), _, _, _, none⟩] =>
      match args.toList with
      | [.tmp m', .const (.string nm), .const (.bool t), .const (.bool rr), .const (.string fx), .const (.string rs), .const (.int .i64 mo), .const (.int .u8 pa)] =>
        if g' = g ∧ T' = T ∧ m' = m ∧ r' = r ∧ 5 ≤ m ∧ 5 ≤ r ∧ m < top ∧ r < top ∧ m ≠ r then some (nm, t, rr, fx, rs, mo, pa) else none
      | _ => none
    | _ => none
  | _ => none

/-- A list of arms, each a form. -/
def formsOf (g T top : Nat) : List (Int × Code) → Option (List (Int × Frm))
  | [] => some []
  | (k, c) :: l => match armForm g T top c, formsOf g T top l with
    | some s, some t => some ((k, s) :: t)
    | _, _ => none
theorem formsOf_mem {g T top : Nat} : ∀ {l : List (Int × Code)} {t : List (Int × Frm)}, formsOf g T top l = some t → ∀ k c, (k, c) ∈ l → ∃ s, armForm g T top c = some s ∧ (k, s) ∈ t
  | [], _, _, _, _, hm => by cases hm
  | (k', c') :: l, t, h, k, c, hm => by
    rw [formsOf] at h
    split at h
    case h_2 => cases h
    rename_i s t' h1 h2
    cases h
    rcases List.mem_cons.1 hm with e | hm
    · cases e; exact ⟨s, h1, List.mem_cons_self⟩
    · obtain ⟨s2, h3, h4⟩ := formsOf_mem h2 k c hm
      exact ⟨s2, h3, List.mem_cons_of_mem _ h4⟩
theorem formsOf_keys {g T top : Nat} : ∀ {l : List (Int × Code)} {t : List (Int × Frm)}, formsOf g T top l = some t → ∀ k s, (k, s) ∈ t → ∃ c, (k, c) ∈ l
  | [], _, h, _, _, hm => by rw [formsOf] at h; cases h; cases hm
  | (k', c') :: l, t, h, k, s, hm => by
    rw [formsOf] at h
    split at h
    case h_2 => cases h
    rename_i s' t' h1 h2
    cases h
    rcases List.mem_cons.1 hm with e | hm
    · cases e; exact ⟨c', List.mem_cons_self⟩
    · obtain ⟨c2, h3⟩ := formsOf_keys h2 k s hm
      exact ⟨c2, List.mem_cons_of_mem _ h3⟩

/-- The form of an operation, and whether there is one. -/
def lookF : List (Int × Frm) → Int → Frm × Bool
  | [], _ => (noFrm, false)
  | (k, s) :: l, n => if n = k then (s, true) else lookF l n
def oneEachF (l : List (Int × Frm)) : Bool := match l with
  | [] => true
  | (k, _) :: l => (l.all fun p => decide (p.1 ≠ k)) && oneEachF l
theorem lookF_mem : ∀ {l : List (Int × Frm)}, oneEachF l = true → ∀ k s, (k, s) ∈ l → lookF l k = (s, true)
  | [], _, _, _, h => by cases h
  | (k', s') :: l, h1, k, s, hm => by
    rw [oneEachF, Bool.and_eq_true] at h1
    rcases List.mem_cons.1 hm with e | hm
    · cases e; simp [lookF]
    · have := List.all_eq_true.1 h1.1 (k, s) hm
      simp only [ne_eq, decide_not, Bool.not_eq_true', decide_eq_false_iff_not] at this
      rw [lookF, if_neg this]
      exact lookF_mem h1.2 k s hm
theorem lookF_none : ∀ {l : List (Int × Frm)} {n : Int}, (∀ k s, (k, s) ∈ l → n ≠ k) → lookF l n = (noFrm, false)
  | [], _, _ => rfl
  | (k', s') :: l, n, h => by
    rw [lookF, if_neg (h k' s' List.mem_cons_self)]
    exact lookF_none fun k s hm => h k s (List.mem_cons_of_mem _ hm)

/-- What is answered of an operation: its number and form, or zeros. -/
def ofV (n : Int) : Value := if (lookF refT n).2 then formV n (lookF refT n).1 else formV 0 noFrm

theorem wp_noForm {top m : Nat} {a : Act} {w : World} {B : Nat} {fn : Func} {R : Ending → World → Prop} {y1 y2 y3 y4 y5 y6 y7 y8 y9 id} (hfn : fn.results = #[.cell 2 46, .tmp 3]) (h5 : 5 ≤ top) (hm : m < top) (hm5 : 5 ≤ m)
    (hs : a.tmps.size = top) (hd : a.defers = []) (h2 : a.tmps.getD 2 undef = .pointer (some ⟨B, 0, none⟩)) {z0 z1 z2 z3 z4 z5 z6 z7 : Value} (hB : w.heap[B]? = some (.cells #[z0, z1, z2, z3, z4, z5, z6, z7] 46 (0, 0)))
    (hR : ∀ w', Below B w w' → R (.returned (.tuple #[formV 0 noFrm, .bool false])) w') :
    (Code.seq (.region id #[⟨some m, .build 46 #[], y1, y2, y3, none⟩, ⟨none, .store 46 (.tmp 2) (.tmp m), y4, y5, y6, none⟩, ⟨some 3, .assign (.const (.bool false)), y7, y8, y9, none⟩] false) .ret).wp Try.prog (bodyPost Try.prog fn R) a w := by
  refine wp_seq (wp_region_lit ?_)
  refine wpList_plain rfl fun K hK => op_value (v := formV 0 noFrm) (by simp [execOp, go_sem, formV, noFrm]) (hK _ _ ?_)
  clear hK K
  generalize ha2 : a.put (some m) _ = a2
  have e2 : a2.tmps[2]?.getD undef = .pointer (some ⟨B, 0, none⟩) := by rw [← Array.getD_eq_getD_getElem?, ← ha2, getD_put, if_neg (by omega)]; exact h2
  have e3 : a2.tmps[m]?.getD undef = formV 0 noFrm := by rw [← Array.getD_eq_getD_getElem?, ← ha2, getD_put, if_pos ⟨rfl, by rw [hs]; exact hm⟩]
  obtain ⟨w2, hrun, hB2, hb2⟩ := store_frm w B z0 z1 z2 z3 z4 z5 z6 z7 hB a2 m 0 noFrm e2 e3 y4 y5 y6
  refine wpList_plain rfl fun K hK => op_skip hrun (hK _ _ ?_)
  clear hK K
  refine wpList_plain rfl fun K hK => op_value (v := .bool false) (by simp [execOp, go_sem]) (hK _ _ ?_)
  clear hK K
  refine wpList_nil (wp_ret ?_)
  have sz : (a2.put none undef).tmps.size = top := by rw [← ha2]; simp [Act.put, hs]
  refine ⟨by rw [← ha2]; simp [Act.put, hd], .tuple #[formV 0 noFrm, .bool false], ?_, hR w2 hb2⟩
  generalize ha3 : (a2.put none undef).put (some 3) (.bool false) = a3
  have e4 : a3.tmps[2]?.getD undef = .pointer (some ⟨B, 0, none⟩) := by rw [← Array.getD_eq_getD_getElem?, ← ha3, getD_put, if_neg (by omega), Array.getD_eq_getD_getElem?]; exact e2
  have e5 : a3.tmps[3]?.getD undef = .bool false := by rw [← Array.getD_eq_getD_getElem?, ← ha3, getD_put, if_pos ⟨rfl, by rw [sz]; omega⟩]
  obtain ⟨hc, hf⟩ := one_block hB2
  have c0 := hc 0
  have c1 := hc 1
  have c2 := hc 2
  have c3 := hc 3
  have c4 := hc 4
  have c5 := hc 5
  have c6 := hc 6
  have c7 := hc 7
  unfold frmCells noFrm at c0 c1 c2 c3 c4 c5 c6 c7
  simp [results, hfn, go_sem, e4, e5, formV, noFrm, c0, c1, c2, c3, c4, c5, c6, c7]

/-- The switch, off the code. -/
def formSwitch (g T top : Nat) (c : Code) : Option (List (Int × Frm)) := match armsOf 4 5 top .u16 200 c with
  | some l => formsOf g T top l
  | none => none

end Go.Proofs.Ytbhoimeneekdfaa
