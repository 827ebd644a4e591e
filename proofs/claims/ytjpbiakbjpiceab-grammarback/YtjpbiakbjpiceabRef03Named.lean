/-
  What Named of the document's answer returns, for every name; the list of forms, as it can be read.
-/
import Derived.WalkSpells
import Derived.WalkMore
import Derived.Test.YtjpbiakbjpiceabRef03All
namespace Go.Proofs.Ytjpbiakbjpiceab
open Go.RowKit
set_option maxRecDepth 10000
set_option linter.unusedVariables false
set_option linter.unusedSimpArgs false

theorem flat8 : ∀ (l : List Nat) (k j : Nat), k < l.length → j < 8 → (l.flatMap opCells)[k * 8 + j]? = (opCells (l.getD k 0))[j]?
  | [], k, j, h, _ => by simp at h
  | x :: l, 0, j, h, hj => by
    rw [List.flatMap_cons, List.getElem?_append_left (by simp [opCells, frmCells]; omega)]; simp
  | x :: l, k + 1, j, h, hj => by
    rw [List.flatMap_cons, List.getElem?_append_right (by simp [opCells, frmCells]; omega)]
    have e : (k + 1) * 8 + j - (opCells x).length = k * 8 + j := by simp [opCells, frmCells]; omega
    rw [e, flat8 l k j (by simpa using h) hj]
    simp

/-- The operation at a place of the list, and its form. -/
def opN (i : Nat) : Nat := opsL.getD i 0
def opF (k : Nat) : Frm := (lookF refT k).1

/-- The list of forms, as it can be read. -/
def FormsV (W : World) (v : Value) : Prop := ∃ g cap, v = .slice (some ⟨g, 0, none⟩) 93 cap ∧ g < W.heap.size ∧ ∀ i, i < 93 → (W.cell? ⟨g, i * 8, none⟩ = some (.int .u16 (opN i)) ∧ W.cell? ⟨g, i * 8 + 1, none⟩ = some (.string (opF (opN i)).1) ∧ W.cell? ⟨g, i * 8 + 2, none⟩ = some (.bool (opF (opN i)).2.1) ∧ W.cell? ⟨g, i * 8 + 3, none⟩ = some (.bool (opF (opN i)).2.2.1) ∧
  W.cell? ⟨g, i * 8 + 4, none⟩ = some (.string (opF (opN i)).2.2.2.1) ∧ W.cell? ⟨g, i * 8 + 5, none⟩ = some (.string (opF (opN i)).2.2.2.2.1) ∧ W.cell? ⟨g, i * 8 + 6, none⟩ = some (.int .i64 (opF (opN i)).2.2.2.2.2.1) ∧ W.cell? ⟨g, i * 8 + 7, none⟩ = some (.int .u8 (opF (opN i)).2.2.2.2.2.2))

theorem ops93 : opsL.length = 93 := by decide +kernel

theorem cells_at (n : Int) (f : Frm) : (frmCells n f).toList[0]? = some (.int .u16 n) ∧ (frmCells n f).toList[1]? = some (.string f.1) ∧ (frmCells n f).toList[2]? = some (.bool f.2.1) ∧ (frmCells n f).toList[3]? = some (.bool f.2.2.1) ∧ (frmCells n f).toList[4]? = some (.string f.2.2.2.1) ∧ (frmCells n f).toList[5]? = some (.string f.2.2.2.2.1) ∧ (frmCells n f).toList[6]? = some (.int .i64 f.2.2.2.2.2.1) ∧ (frmCells n f).toList[7]? = some (.int .u8 f.2.2.2.2.2.2) :=
  ⟨rfl, rfl, rfl, rfl, rfl, rfl, rfl, rfl⟩

theorem formsV_of {W : World} {B : Nat} {v : Value} (h : W.ownsRow B 33 8 v opsL.length (opsL.flatMap opCells)) : FormsV W v := by
  have hc := fun g hg => h.cells (g := g) hg
  rcases h.2 with ⟨_, h0⟩ | ⟨g, cap, cur, rfl, _, hgg, _, _, _, _⟩
  · exact absurd (ops93.symm.trans h0) (by decide)
  · refine ⟨g, cap, congrArg (fun n => Value.slice (some ⟨g, 0, none⟩) n cap) ops93, (Array.getElem?_eq_some_iff.1 hgg).1, fun i hi => ?_⟩
    have hi' : i < opsL.length := Nat.lt_of_lt_of_eq hi ops93.symm
    have q : ∀ j, j < 8 → ∀ u, (opCells (opN i))[j]? = some u → W.cell? ⟨g, i * 8 + j, none⟩ = some u := fun j hj u hu => by
      have := hc g rfl (i * 8 + j) u (by rw [flat8 _ _ _ hi' hj]; exact hu)
      rw [Addr.add_lit, Nat.zero_add] at this
      exact this
    obtain ⟨e0, e1, e2, e3, e4, e5, e6, e7⟩ := cells_at (opN i) (opF (opN i))
    exact ⟨q 0 (by omega) _ e0, q 1 (by omega) _ e1, q 2 (by omega) _ e2, q 3 (by omega) _ e3, q 4 (by omega) _ e4, q 5 (by omega) _ e5, q 6 (by omega) _ e6, q 7 (by omega) _ e7⟩

theorem FormsV.below {W W' : World} {v : Value} (h : FormsV W v) (hb : Below W.heap.size W W') : FormsV W' v := by
  obtain ⟨g, cap, e, hg, hc⟩ := h
  refine ⟨g, cap, e, Nat.lt_of_lt_of_le hg hb.size, fun i hi => ?_⟩
  have q : ∀ o, W'.cell? ⟨g, o, none⟩ = W.cell? ⟨g, o, none⟩ := fun o => hb.cell (p := ⟨g, o, none⟩) hg
  simp only [q]
  exact hc i hi

/-- A form of a name. -/
def namP (s : ByteArray) (k : Nat) : Bool := (opF k).1.toList == s.toList
def namedB (s : ByteArray) : Bool := (opsL.find? (namP s)).isSome
def namedV (s : ByteArray) : Value := match opsL.find? (namP s) with | some k => formV k (opF k) | none => formV 0 noFrm

theorem findN_at {p : Nat → Bool} : ∀ (l : List Nat) (k : Nat), k < l.length → (∀ j, j < k → p (l.getD j 0) = false) → p (l.getD k 0) = true → l.find? p = some (l.getD k 0)
  | [], k, h, _, _ => by simp at h
  | x :: l, 0, _, _, h => by
    have h' : p x = true := by simpa using h
    simp [List.find?_cons, h']
  | x :: l, k + 1, hk, h0, h => by
    have h' : p x = false := by simpa using h0 0 (by omega)
    rw [List.find?_cons, h']
    have := findN_at l k (by simpa using hk) (fun j hj => by simpa using h0 (j + 1) (by omega)) (by simpa using h)
    simpa using this
theorem findN_not {p : Nat → Bool} : ∀ (l : List Nat), (∀ j, j < l.length → p (l.getD j 0) = false) → l.find? p = none
  | [], _ => rfl
  | x :: l, h0 => by
    have h' : p x = false := by simpa using h0 0 (by simp)
    rw [List.find?_cons, h']
    exact findN_not l (fun j hj => by simpa using h0 (j + 1) (by simpa using hj))

end Go.Proofs.Ytjpbiakbjpiceab
