/-
  What Named of the document's answer returns, for every name; the list of forms, as it can be read.
-/
import Derived.WalkSpells
import Derived.WalkMore
import Derived.Test.YtjpbiakbjpiceaaRef03All
namespace Go.Proofs.Ytjpbiakbjpiceaa
open Go.RowKit
set_option linter.unusedVariables false
set_option linter.unusedSimpArgs false

theorem flat8 : ∀ (l : List Nat) (k j : Nat), k < l.length → j < 8 → (l.flatMap opCells)[k * 8 + j]? = (opCells (l.getD k 0))[j]?
  | [], k, j, h, _ => by simp at h
  | x :: l, 0, j, h, hj => by
    rw [List.flatMap_cons, List.getElem?_append_left (by simp [opCells, frmCells]; omega)]; simp
  | x :: l, k + 1, j, h, hj => by
    rw [List.flatMap_cons, List.getElem?_append_right (by simp [opCells, frmCells]; omega)]
    have e : (k + 1) * 8 + j - (opCells x).length = k * 8 + j := by simp [opCells, frmCells]; omega
    rw [e, flat8 l k j (by simpa using h) hj]
    simp

/-- The operation at a place of the list, and its form. -/
def opN (i : Nat) : Nat := opsL.getD i 0
def opF (k : Nat) : Frm := (lookF refT k).1

/-- The list of forms, as it can be read. -/
def FormsV (W : World) (v : Value) : Prop := ∃ g cap, v = .slice (some ⟨g, 0, none⟩) 93 cap ∧ g < W.heap.size ∧ ∀ i, i < 93 → (W.cell? ⟨g, i * 8, none⟩ = some (.int .u16 (opN i)) ∧ W.cell? ⟨g, i * 8 + 1, none⟩ = some (.string (opF (opN i)).1) ∧ W.cell? ⟨g, i * 8 + 2, none⟩ = some (.bool (opF (opN i)).2.1) ∧ W.cell? ⟨g, i * 8 + 3, none⟩ = some (.bool (opF (opN i)).2.2.1) ∧
  W.cell? ⟨g, i * 8 + 4, none⟩ = some (.string (opF (opN i)).2.2.2.1) ∧ W.cell? ⟨g, i * 8 + 5, none⟩ = some (.string (opF (opN i)).2.2.2.2.1) ∧ W.cell? ⟨g, i * 8 + 6, none⟩ = some (.int .i64 (opF (opN i)).2.2.2.2.2.1) ∧ W.cell? ⟨g, i * 8 + 7, none⟩ = some (.int .u8 (opF (opN i)).2.2.2.2.2.2))

theorem ops93 : opsL.length = 93 := by decide +kernel

theorem cells_at (n : Int) (f : Frm) : (frmCells n f).toList[0]? = some (.int .u16 n) ∧ (frmCells n f).toList[1]? = some (.string f.1) ∧ (frmCells n f).toList[2]? = some (.bool f.2.1) ∧ (frmCells n f).toList[3]? = some (.bool f.2.2.1) ∧ (frmCells n f).toList[4]? = some (.string f.2.2.2.1) ∧ (frmCells n f).toList[5]? = some (.string f.2.2.2.2.1) ∧ (frmCells n f).toList[6]? = some (.int .i64 f.2.2.2.2.2.1) ∧ (frmCells n f).toList[7]? = some (.int .u8 f.2.2.2.2.2.2) :=
  ⟨rfl, rfl, rfl, rfl, rfl, rfl, rfl, rfl⟩

theorem formsV_of {W : World} {B : Nat} {v : Value} (h : W.ownsRow B 24 8 v opsL.length (opsL.flatMap opCells)) : FormsV W v := by
  have hc := fun g hg => h.cells (g := g) hg
  rcases h.2 with ⟨_, h0⟩ | ⟨g, cap, cur, rfl, _, hgg, _, _, _, _⟩
  · exact absurd (ops93.symm.trans h0) (by decide)
  · refine ⟨g, cap, congrArg (fun n => Value.slice (some ⟨g, 0, none⟩) n cap) ops93, (Array.getElem?_eq_some_iff.1 hgg).1, fun i hi => ?_⟩
    have hi' : i < opsL.length := Nat.lt_of_lt_of_eq hi ops93.symm
    have q : ∀ j, j < 8 → ∀ u, (opCells (opN i))[j]? = some u → W.cell? ⟨g, i * 8 + j, none⟩ = some u := fun j hj u hu => by
      have := hc g rfl (i * 8 + j) u (by rw [flat8 _ _ _ hi' hj]; exact hu)
      rw [Addr.add_lit, Nat.zero_add] at this
      exact this
    obtain ⟨e0, e1, e2, e3, e4, e5, e6, e7⟩ := cells_at (opN i) (opF (opN i))
    exact ⟨q 0 (by omega) _ e0, q 1 (by omega) _ e1, q 2 (by omega) _ e2, q 3 (by omega) _ e3, q 4 (by omega) _ e4, q 5 (by omega) _ e5, q 6 (by omega) _ e6, q 7 (by omega) _ e7⟩

theorem FormsV.below {W W' : World} {v : Value} (h : FormsV W v) (hb : Below W.heap.size W W') : FormsV W' v := by
  obtain ⟨g, cap, e, hg, hc⟩ := h
  refine ⟨g, cap, e, Nat.lt_of_lt_of_le hg hb.size, fun i hi => ?_⟩
  have q : ∀ o, W'.cell? ⟨g, o, none⟩ = W.cell? ⟨g, o, none⟩ := fun o => hb.cell (p := ⟨g, o, none⟩) hg
  simp only [q]
  exact hc i hi

/-- A form of a name. -/
def namP (s : ByteArray) (k : Nat) : Bool := (opF k).1.toList == s.toList
def namedB (s : ByteArray) : Bool := (opsL.find? (namP s)).isSome
def namedV (s : ByteArray) : Value := match opsL.find? (namP s) with | some k => formV k (opF k) | none => formV 0 noFrm

theorem findN_at {p : Nat → Bool} : ∀ (l : List Nat) (k : Nat), k < l.length → (∀ j, j < k → p (l.getD j 0) = false) → p (l.getD k 0) = true → l.find? p = some (l.getD k 0)
  | [], k, h, _, _ => by simp at h
  | x :: l, 0, _, _, h => by
    have h' : p x = true := by simpa using h
    simp [List.find?_cons, h']
  | x :: l, k + 1, hk, h0, h => by
    have h' : p x = false := by simpa using h0 0 (by omega)
    rw [List.find?_cons, h']
    have := findN_at l k (by simpa using hk) (fun j hj => by simpa using h0 (j + 1) (by omega)) (by simpa using h)
    simpa using this
theorem findN_not {p : Nat → Bool} : ∀ (l : List Nat), (∀ j, j < l.length → p (l.getD j 0) = false) → l.find? p = none
  | [], _ => rfl
  | x :: l, h0 => by
    have h' : p x = false := by simpa using h0 0 (by simp)
    rw [List.find?_cons, h']
    exact findN_not l (fun j hj => by simpa using h0 (j + 1) (by simpa using hj))

set_option maxRecDepth 10000 in
set_option maxHeartbeats 2000000 in
theorem refNamed_any (s : ByteArray) (w : World) : Calls Try.prog 11 #[.string s] w fun e w' => e = .returned (.tuple #[namedV s, .bool (namedB s)]) ∧ Below w.heap.size w w' := by
  go_enter Try.func11, Try.ntmps11
  go_wp2_with fail
  refine (refAll_any _).mono ?_
  rintro e w1 ⟨v, rfl, hown, hb⟩
  have hB := (hb.block w.heap.size (by simp)).trans (alloc_new w _ _)
  have HBW : Hid (Below w.heap.size w w1) := ((Below.refl _ w).alloc (Nat.le_refl _) _).trans (hb.mono (by simp))
  have HB : Hid (w1.heap[w.heap.size]? = some (.cells (frmCells 0 noFrm) 24 (0, 0))) := hB
  obtain ⟨g, cap, rfl, hg, hc⟩ := formsV_of hown
  have HC : Hid (∀ i, i < 93 → _) := fun i (hi : i < 93) => hc i hi
  clear hc hown hb hB
  go_wp2
  go_loop [3, 5] (fun b i => b = .bool false ∧ ∃ k : Nat, k ≤ 93 ∧ i = .int .i64 k ∧ ∀ j, j < k → namP s (opN j) = false) (fun _ i => 93 - (intOf i).toNat)
  case atStart => exact ⟨rfl, 0, by omega, rfl, fun j hj => by omega⟩
  case round =>
    obtain ⟨rfl, k, hk, rfl, hno⟩ := hrel
    have HO : Hid (∀ j, j < k → namP s (opN j) = false) := hno
    clear hno
    by_cases hlt : k < 93
    · obtain ⟨c0, c1, c2, c3, c4, c5, c6, c7⟩ := HC.out k hlt
      have HP : Hid (namP s (opN k) = ((opF (opN k)).1.toList == s.toList)) := rfl
      have HF : Hid (namP s (opN k) = true → opsL.find? (namP s) = some (opN k)) := fun h => findN_at opsL k (Nat.lt_of_lt_of_eq hlt ops93.symm) HO.out h
      have HS : Hid (namP s (opN k) = false → ∀ j, j < k + 1 → namP s (opN j) = false) := fun h j hj => by
        by_cases e : j = k
        · subst e; exact h
        · exact HO.out j (by omega)
      generalize hx : opN k = x at *
      have HV : Hid (opsL.find? (namP s) = some x → namedV s = formV x (opF x) ∧ namedB s = true) := fun h => by unfold namedV namedB; rw [h]; exact ⟨rfl, rfl⟩
      generalize hf : opF x = f at *
      obtain ⟨nm, t, r, fx, rs, mo, pa⟩ := f
      simp only at c0 c1 c2 c3 c4 c5 c6 c7
      have hk0 : (0 : Int) ≤ (k : Int) := by omega
      have hki : (k : Int) < (93 : Int) := by omega
      cases hit : (nm.toList == s.toList)
      · have HE : Hid (∀ j, j < k + 1 → namP s (opN j) = false) := HS.out (by rw [HP.out]; exact hit)
        clear HF HS HO HV HP c0 c2 c3 c4 c5 c6 c7 hx hf
        go_wp2
        go_round
        case rel => exact ⟨rfl, k + 1, by omega, by go_num, HE.out⟩
        case measure => simp [intOf]; omega
      · obtain ⟨e1, e2⟩ := HV.out (HF.out (by rw [HP.out]; exact hit))
        have HE : Hid (namedV s = formV x (nm, t, r, fx, rs, mo, pa) ∧ namedB s = true) := ⟨e1, e2⟩
        obtain ⟨d0, d1, d2, d3, d4, d5, d6, d7, df⟩ := frm_cells (n := 0) (f := noFrm) HB.out
        unfold noFrm at d1 d2 d3 d4 d5 d6 d7
        clear HF HS HO HV HP e1 e2 hx hf
        go_wp2
        have hx := eight_set HB.out (.int .u16 x) (.string nm) (.bool t) (.bool r) (.string fx) (.string rs) (.int .i64 mo) (.int .u8 pa)
        have hy := eight_below w1 w.heap.size (.int .u16 x) (.string nm) (.bool t) (.bool r) (.string fx) (.string rs) (.int .i64 mo) (.int .u8 pa)
        obtain ⟨x0, x1, x2, x3, x4, x5, x6, x7, xf⟩ := frm_cells (n := x) (f := (nm, t, r, fx, rs, mo, pa)) hx
        clear hx d0 d1 d2 d3 d4 d5 d6 d7 df xf c0 c1 c2 c3 c4 c5 c6 c7
        generalize ((((((((w1.setCell ⟨w.heap.size, 0, none⟩ (.int .u16 x)).setCell ⟨w.heap.size, 1, none⟩ (.string nm)).setCell ⟨w.heap.size, 2, none⟩ (.bool t)).setCell ⟨w.heap.size, 3, none⟩ (.bool r)).setCell ⟨w.heap.size, 4, none⟩ (.string fx)).setCell ⟨w.heap.size, 5, none⟩ (.string rs)).setCell ⟨w.heap.size, 6, none⟩ (.int .i64 mo)).setCell ⟨w.heap.size, 7, none⟩ (.int .u8 pa)) = Z at *
        try rw [Exit.noGoto_ret]
        exact bodyPost_ret (v := .tuple #[formV x (nm, t, r, fx, rs, mo, pa), .bool true]) (by simp [results, Try.results11, go_sem, formV, x0, x1, x2, x3, x4, x5, x6, x7]) rfl ⟨by rw [HE.out.1, HE.out.2], HBW.out.trans hy⟩
    · obtain rfl : k = 93 := by omega
      have hn : opsL.find? (namP s) = none := findN_not opsL (fun j hj => HO.out j (Nat.lt_of_lt_of_eq hj ops93))
      have HE : Hid (namedV s = formV 0 noFrm ∧ namedB s = false) := by show _ ∧ _; unfold namedV namedB; rw [hn]; exact ⟨rfl, rfl⟩
      obtain ⟨d0, d1, d2, d3, d4, d5, d6, d7, df⟩ := frm_cells (n := 0) (f := noFrm) HB.out
      unfold noFrm at d1 d2 d3 d4 d5 d6 d7
      clear hn HO
      go_wp2
      have hx := eight_set HB.out (.int .u16 0) (.string ⟨#[]⟩) (.bool false) (.bool false) (.string ⟨#[]⟩) (.string ⟨#[]⟩) (.int .i64 0) (.int .u8 0)
      have hy := eight_below w1 w.heap.size (.int .u16 0) (.string ⟨#[]⟩) (.bool false) (.bool false) (.string ⟨#[]⟩) (.string ⟨#[]⟩) (.int .i64 0) (.int .u8 0)
      obtain ⟨x0, x1, x2, x3, x4, x5, x6, x7, xf⟩ := frm_cells (n := 0) (f := noFrm) hx
      unfold noFrm at x1 x2 x3 x4 x5 x6 x7
      clear hx d0 d1 d2 d3 d4 d5 d6 d7 df xf
      generalize ((((((((w1.setCell ⟨w.heap.size, 0, none⟩ (.int .u16 0)).setCell ⟨w.heap.size, 1, none⟩ (.string ⟨#[]⟩)).setCell ⟨w.heap.size, 2, none⟩ (.bool false)).setCell ⟨w.heap.size, 3, none⟩ (.bool false)).setCell ⟨w.heap.size, 4, none⟩ (.string ⟨#[]⟩)).setCell ⟨w.heap.size, 5, none⟩ (.string ⟨#[]⟩)).setCell ⟨w.heap.size, 6, none⟩ (.int .i64 0)).setCell ⟨w.heap.size, 7, none⟩ (.int .u8 0)) = Z at *
      exact bodyPost_ret (v := .tuple #[formV 0 noFrm, .bool false]) (by simp [results, Try.results11, go_sem, formV, noFrm, x0, x1, x2, x3, x4, x5, x6, x7]) rfl ⟨by rw [HE.out.1, HE.out.2], HBW.out.trans hy⟩

end Go.Proofs.Ytjpbiakbjpiceaa
