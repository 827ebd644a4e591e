/-
  A map from operations to functions, that a function makes and asks at once.
-/
import Derived.WalkSpells
import Derived.WalkMore
import Derived.Maps.OwnSet
import Derived.Test.YtbhoimeneekdfaaProg
namespace Go.Proofs.Ytbhoimeneekdfaa
open Go.RowKit Go.Maps
set_option linter.unusedVariables false
set_option linter.unusedSimpArgs false
set_option maxRecDepth 10000

theorem keyH : Keyed Try.prog 22 := int_keyed Try.underlying22
theorem keyH_of {x : Int} (h0 : 0 ≤ x) (h1 : x < 65536) : keyOf Try.prog 22 (.int .u16 x) = some (.int .u16 x) := keyOf_int_mk Try.underlying22 (by simp [Lit.wf, show IntKind.u16.min = 0 from rfl, show IntKind.u16.max = 65535 from rfl]; omega)

/-- How a function reads as a map's element: as itself. -/
def fnElem (v : Value) : Option (DataW Value × List MemPlace) := some (.held v, [])

/-- Block b is a map of at most n entries: at the key x stands the function f x, or none. -/
def MapF (w : World) (b n : Nat) (f : Int → Value) : Prop :=
  ∃ D : DataW Value, w.ownsMap Try.prog 22 fnElem b n D ∧ ∀ x, D.atKey (.int .u16 x) (.held .nilFunc) = .held (f x)
theorem MapF.made (w : World) : MapF (w.alloc (.map #[] 0)) w.heap.size 0 (fun _ => .nilFunc) :=
  ⟨.map [], World.ownsMap_made _ _ _ _, fun x => rfl⟩
theorem MapF.lt {w : World} {b n : Nat} {f : Int → Value} (h : MapF w b n f) : b < w.heap.size := by obtain ⟨D, h1, _⟩ := h; exact h1.lt

section
variable {w : World} {ops : Array Oper} {rest : List Oper} {o : Oper} {a : Act} {Q : Exit → Act → World → Prop}
theorem MapF.look {b n : Nat} {f : Int → Value} (h : MapF w b n f) (t E : TypeId) (ht : Try.prog.underlying t = some (.map 22 E)) (hz : (zeroValue E).run Try.prog w = .ok .nilFunc w) (key : Int) (k0 : 0 ≤ key) (k1 : key < 65536) :
    (Instr.lookup t (.map (some b)) (.int .u16 key) false).run Try.prog w = .ok (f key) w := by
  obtain ⟨D, h1, h2⟩ := h
  obtain ⟨v, ps, hrun, hv⟩ := h1.lookup keyH ht hz (zd := .held .nilFunc) (zp := []) rfl (keyH_of k0 k1)
  rw [h2] at hv
  simp only [fnElem, Option.some.injEq, Prod.mk.injEq, DataW.held.injEq] at hv
  rw [hrun, hv.1]
theorem wpList_lookF (hg : o.guard = none) (m x : Operand) (t : TypeId) (hop : o.op = Op.lookup t m x false) (E : TypeId) (ht : Try.prog.underlying t = some (.map 22 E)) (hz : (zeroValue E).run Try.prog w = .ok .nilFunc w)
    (b n : Nat) (f : Int → Value) (hm : a.eval m = .map (some b)) (h : MapF w b n f) (key : Int) (hx : a.eval x = .int .u16 key) (k0 : 0 ≤ key) (k1 : key < 65536)
    (hK : wpList Try.prog ops Q rest (a.put o.dst (f key)) w) : wpList Try.prog ops Q (o :: rest) a w := by
  refine wpList_plain hg fun K' hK' => ?_
  have hrun := h.look t E ht hz key k0 k1
  unfold Oper.wp
  simp [execOp, hop, hm, hx, hrun, Result.andThen]
  exact hK' _ _ hK
theorem MapF.ins {b n : Nat} {f : Int → Value} (h : MapF w b n f) (t E : TypeId) (ht : Try.prog.underlying t = some (.map 22 E)) (hn : n < maxLen) (key : Int) (val : Value) (k0 : 0 ≤ key) (k1 : key < 65536) :
    ∃ w', (Instr.mapUpdate t (.map (some b)) (.int .u16 key) val).run Try.prog w = .ok () w' ∧ MapF w' b (n + 1) (fun y => if y = key then val else f y) ∧ w.grownBy w' (some b) := by
  obtain ⟨D, h1, h2⟩ := h
  obtain ⟨w', hrun, r1, r2⟩ := h1.update keyH ht hn (keyH_of k0 k1) (show fnElem val = some (.held val, []) from rfl)
  refine ⟨w', hrun, ⟨_, r1, fun y => ?_⟩, r2⟩
  show _ = DataW.held (if y = key then val else f y)
  by_cases e : y = key
  · subst e; rw [if_pos rfl]; exact atKey_put_same (k := .int .u16 y) h1.isMap (by simp [WideAt.IsKeyLit]) _ _
  · rw [if_neg e, ← h2 y]; exact atKey_put_other (by simpa using e) _ _
theorem below_ins {W w w' : World} {N b : Nat} (hb : Below N W w) (hW : N ≤ W.heap.size) (hN : N ≤ b) (hg : w.grownBy w' (some b)) : Below N W w' := hb.grown hg (Nat.le_trans hW hb.size) (fun k e => by cases e; exact hN)
theorem below_made (w : World) : Below w.heap.size w (w.alloc (.map #[] 0)) := (Below.refl _ w).alloc (Nat.le_refl _) _
/-- A function without captured variables. -/
def fnV (n : Nat) : Value := .func (.func n) #[] #[]
theorem fnV_eq (n : Nat) : Value.func (.func n) #[] #[] = fnV n := rfl
/-- An entry of a map's literal. -/
theorem wpList_insF (hg : o.guard = none) (m x v : Operand) (t : TypeId) (hop : o.op = Op.insert t m x v) (E : TypeId) (ht : Try.prog.underlying t = some (.map 22 E))
    (b n : Nat) (f : Int → Value) (hm : a.eval m = .map (some b)) (h : MapF w b n f) (hn : n < maxLen) (key : Int) (val : Value) (hx : a.eval x = .int .u16 key) (k0 : 0 ≤ key) (k1 : key < 65536) (hv : a.eval v = val)
    (hK : ∀ w', MapF w' b (n + 1) (fun y => if y = key then val else f y) → w.grownBy w' (some b) → wpList Try.prog ops Q rest (a.put o.dst undef) w') : wpList Try.prog ops Q (o :: rest) a w := by
  obtain ⟨D, h1, h2⟩ := h
  refine wpList_plain hg fun K' hK' => ?_
  obtain ⟨w', hrun, r1, r2⟩ := h1.update keyH ht hn (keyH_of k0 k1) (show fnElem val = some (.held val, []) from rfl)
  unfold Oper.wp
  simp [execOp, hop, hm, hx, hv, hrun, Result.andThen]
  refine hK' _ _ (hK w' ⟨_, r1, fun y => ?_⟩ r2)
  show _ = DataW.held (if y = key then val else f y)
  by_cases e : y = key
  · subst e; rw [if_pos rfl]; exact atKey_put_same (k := .int .u16 y) h1.isMap (by simp [WideAt.IsKeyLit]) _ _
  · rw [if_neg e, ← h2 y]; exact atKey_put_other (by simpa using e) _ _
end

end Go.Proofs.Ytbhoimeneekdfaa
