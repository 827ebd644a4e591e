/-
  Rows of 32 words in a block of their own.
-/
import Derived.WalkSpells
import Derived.WalkMore
import Derived.Deep.MidRow
import Derived.Test.YtbhoimeneekdfaaProg
import Derived.Test.YtbhoimeneekdfaaPuts
namespace Go.Proofs.Ytbhoimeneekdfaa
open Go.RowKit
set_option linter.unusedVariables false
set_option linter.unusedSimpArgs false
set_option maxRecDepth 10000

def arr32 (f : Nat → Int) : List Value := (List.range 32).map fun k => .int .u32 (f k)
theorem arr32_len (f : Nat → Int) : (arr32 f).length = 32 := by simp [arr32]
theorem arr32_get (f : Nat → Int) (k : Nat) (h : k < 32) : (arr32 f)[k]? = some (.int .u32 (f k)) := by simp [arr32, h]
theorem arr32_congr {f g : Nat → Int} (h : ∀ k, k < 32 → f k = g k) : arr32 f = arr32 g := by
  unfold arr32
  apply List.map_congr_left
  intro k hk
  rw [h k (by simpa using hk)]
theorem arr32_set (f : Nat → Int) (k : Nat) (v : Int) (h : k < 32) : (arr32 f).set k (.int .u32 v) = arr32 (fun j => if j = k then v else f j) := by
  apply List.ext_getElem?
  intro j
  by_cases hj : j < 32
  · rw [List.getElem?_set, arr32_get _ j hj, arr32_get _ j hj, arr32_len]
    by_cases e : k = j
    · subst e; simp [h]
    · have e' : ¬ j = k := fun x => e x.symm
      simp [e, e']
  · rw [List.getElem?_eq_none (by rw [List.length_set, arr32_len]; omega), List.getElem?_eq_none (by rw [arr32_len]; omega)]

/-- Block b is a row of 32 words. -/
def ArrB (w : World) (b : Nat) (f : Nat → Int) : Prop := w.heap[b]? = some (.cells (arr32 f).toArray 37 (0, 0))
theorem ArrB.lt {w : World} {b : Nat} {f : Nat → Int} (h : ArrB w b f) : b < w.heap.size := (Array.getElem?_eq_some_iff.1 h).1
theorem ArrB.cell {w : World} {b : Nat} {f : Nat → Int} (h : ArrB w b f) (k : Nat) (hk : k < 32) : w.cell? ⟨b, k, none⟩ = some (.int .u32 (f k)) := by
  unfold ArrB at h
  simp [World.cell?, h, arr32_get f k hk]
theorem ArrB.frozen {w : World} {b : Nat} {f : Nat → Int} (h : ArrB w b f) (k : Nat) : w.frozen? ⟨b, k, none⟩ = false := by
  unfold ArrB at h
  simp [World.frozen?, h]
theorem ArrB.congr {w : World} {b : Nat} {f g : Nat → Int} (h : ArrB w b f) (e : ∀ k, k < 32 → f k = g k) : ArrB w b g := by
  unfold ArrB at h ⊢
  rw [h, arr32_congr e]
theorem ArrB.below {w w' : World} {b : Nat} {f : Nat → Int} (h : ArrB w b f) (hb : Below w.heap.size w w') : ArrB w' b f := by
  have := h.lt
  unfold ArrB at h ⊢
  rw [hb.block b this, h]
theorem ArrB.other {w w' : World} {b : Nat} {f : Nat → Int} (h : ArrB w b f) (hb : w'.heap[b]? = w.heap[b]?) : ArrB w' b f := by
  unfold ArrB at h ⊢
  rw [hb, h]
theorem ArrB.set {w : World} {b : Nat} {f : Nat → Int} (h : ArrB w b f) (k : Nat) (hk : k < 32) (v : Int) : ArrB (w.setCell ⟨b, k, none⟩ (.int .u32 v)) b (fun j => if j = k then v else f j) := by
  have hlt := h.lt
  unfold ArrB at h ⊢
  simp only [World.setCell, Array.getElem?_modify]
  rw [if_pos trivial, h, ← arr32_set f k v hk]
  simp
theorem ArrB.range {w : World} {b : Nat} {f : Nat → Int} (h : ArrB w b f) : w.rangeAt b 0 (arr32 f) := fun j v hv => by
  have hj : j < 32 := by
    have := (List.getElem?_eq_some_iff.1 hv).1
    rwa [arr32_len] at this
  rw [arr32_get f j hj] at hv
  rw [Nat.zero_add, h.cell j hj, hv]
theorem ArrB.there {w : World} {b : Nat} {f : Nat → Int} (h : ArrB w b f) : w.there b 0 32 := fun j hj => by
  rw [Nat.zero_add, h.cell j hj, h.frozen j]; simp
theorem arr32_zero : (arr32 fun _ => 0).toArray = #[.int .u32 0, .int .u32 0, .int .u32 0, .int .u32 0, .int .u32 0, .int .u32 0, .int .u32 0, .int .u32 0, .int .u32 0, .int .u32 0, .int .u32 0, .int .u32 0, .int .u32 0, .int .u32 0, .int .u32 0, .int .u32 0, .int .u32 0, .int .u32 0, .int .u32 0, .int .u32 0, .int .u32 0, .int .u32 0, .int .u32 0, .int .u32 0, .int .u32 0, .int .u32 0, .int .u32 0, .int .u32 0, .int .u32 0, .int .u32 0, .int .u32 0, .int .u32 0] := rfl

theorem ArrB.new (w : World) (f : Nat → Int) : ArrB (w.alloc (.cells (arr32 f).toArray 37)) w.heap.size f := by
  unfold ArrB
  show (w.heap.push _)[w.heap.size]? = _
  rw [Array.getElem?_push_size]
theorem ArrB.two (w : World) : ArrB ((w.alloc (.cells (arr32 fun _ => 0).toArray 37)).alloc (.cells (arr32 fun _ => 0).toArray 37)) w.heap.size (fun _ => 0) ∧ ArrB ((w.alloc (.cells (arr32 fun _ => 0).toArray 37)).alloc (.cells (arr32 fun _ => 0).toArray 37)) (w.heap.size + 1) (fun _ => 0) := by
  constructor
  · exact (ArrB.new w _).below ((Below.refl _ _).alloc (Nat.le_refl _) _)
  · have := ArrB.new (w.alloc (.cells (arr32 fun _ => 0).toArray 37)) (fun _ => 0)
    rwa [World.size_alloc] at this
theorem below_two (w : World) (o p : Obj) : Below w.heap.size w ((w.alloc o).alloc p) := ((Below.refl _ w).alloc (Nat.le_refl _) o).alloc (by simp) p

theorem arr32_one (f : Nat → Int) : (arr32 f).toArray.all (·.oneCell') = true := all_oneCell_toArray fun v hv => by
  unfold arr32 at hv
  obtain ⟨k, _, rfl⟩ := List.mem_map.1 hv
  rfl
theorem info32 : (Try.prog.info? 37).map (·.size) = some 32 := by kernel_rfl
theorem ArrB.load {w : World} {b : Nat} {f : Nat → Int} (h : ArrB w b f) : (Instr.loadAt 37 (.pointer (some ⟨b, 0, none⟩))).run Try.prog w = .ok (.agg (arr32 f).toArray) w :=
  run_loadAt_mid w b 0 _ (arr32 f) _ h.range Try.underlying37 rfl (by rw [arr32_len]; exact info32)
theorem ArrB.loadVar {w : World} {b : Nat} {f : Nat → Int} (h : ArrB w b f) : (loadVar 37 ⟨b, 0, none⟩).run Try.prog w = .ok (.agg (arr32 f).toArray) w :=
  run_loadVar_mid w b 0 _ (arr32 f) _ h.range Try.underlying37 rfl (by rw [arr32_len]; exact info32)
theorem ArrB.store {w : World} {b : Nat} {f : Nat → Int} (h : ArrB w b f) (g : Nat → Int) : (Instr.storeAt 37 (.pointer (some ⟨b, 0, none⟩)) (.agg (arr32 g).toArray)).run Try.prog w = .ok () (w.setCells b 0 (arr32 g)) :=
  run_storeAt_mid w b 0 _ (arr32 g).toArray (by rw [List.size_toArray, arr32_len]; exact h.there) (by rw [List.size_toArray, arr32_len]; exact info32) (arr32_one g)
theorem ArrB.storeVar {w : World} {b : Nat} {f : Nat → Int} (h : ArrB w b f) (g : Nat → Int) : (storeVar 37 ⟨b, 0, none⟩ (.agg (arr32 g).toArray)).run Try.prog w = .ok () (w.setCells b 0 (arr32 g)) :=
  run_storeVar_mid w b 0 _ (arr32 g).toArray (by rw [List.size_toArray, arr32_len]; exact h.there) (by rw [List.size_toArray, arr32_len]; exact info32) (arr32_one g)
theorem ArrB.stored {w : World} {b : Nat} {f : Nat → Int} (h : ArrB w b f) (g : Nat → Int) : ArrB (w.setCells b 0 (arr32 g)) b g := by
  unfold ArrB at h ⊢
  exact setCells_all (arr32 g) h (by rw [List.size_toArray, arr32_len, arr32_len])
theorem below_stored {W w : World} {N b : Nat} (hb : Below N W w) (hW : N ≤ W.heap.size) (hN : N ≤ b) (vs : List Value) : Below N W (w.setCells b 0 vs) :=
  hb.grown (setCells_grown b vs 0 w) (Nat.le_trans hW hb.size) (fun k e => by cases e; exact hN)
theorem ArrB.apart {w : World} {b b' : Nat} {f : Nat → Int} (h : ArrB w b f) (hne : b ≠ b') (vs : List Value) : ArrB (w.setCells b' 0 vs) b f :=
  h.other ((setCells_grown b' vs 0 w).block b h.lt (fun e => hne (Option.some.inj e)))

section
variable {w : World} {ops : Array Oper} {rest : List Oper} {o : Oper} {a : Act} {Q : Exit → Act → World → Prop}
theorem wpList_load32 (hg : o.guard = none) (x : Operand) (ho : o.op = .load 37 x) (b : Nat) (f : Nat → Int) (hx : a.eval x = .pointer (some ⟨b, 0, none⟩)) (h : ArrB w b f)
    (hK : wpList Try.prog ops Q rest (a.put o.dst (.agg (arr32 f).toArray)) w) : wpList Try.prog ops Q (o :: rest) a w :=
  wpList_load_mid hg _ x ho b 0 hx (arr32 f) _ h.range Try.underlying37 rfl (by rw [arr32_len]; exact info32) hK
theorem wpList_store32 (hg : o.guard = none) (x y : Operand) (ho : o.op = .store 37 x y) (b : Nat) (f g : Nat → Int) (hx : a.eval x = .pointer (some ⟨b, 0, none⟩)) (hy : a.eval y = .agg (arr32 g).toArray) (h : ArrB w b f)
    (hK : wpList Try.prog ops Q rest (a.put o.dst undef) (w.setCells b 0 (arr32 g))) : wpList Try.prog ops Q (o :: rest) a w :=
  wpList_store_mid hg _ x y ho b 0 (arr32 g).toArray hx hy (by rw [List.size_toArray, arr32_len]; exact h.there) (by rw [List.size_toArray, arr32_len]; exact info32) (arr32_one g) hK
theorem wpList_load32A (hg : o.guard = none) (x : Operand) (ho : o.op = .load 37 x) (b : Nat) (f : Nat → Int) (hx : a.eval x = .pointer (some ⟨b, 0, none⟩)) (h : ArrB w b f)
    (hK : ∀ AR, (arr32 f).toArray = AR → wpList Try.prog ops Q rest (a.put o.dst (.agg AR)) w) : wpList Try.prog ops Q (o :: rest) a w :=
  wpList_load32 hg x ho b f hx h (hK _ rfl)
theorem wpList_store32A (hg : o.guard = none) (x y : Operand) (ho : o.op = .store 37 x y) (b : Nat) (f g : Nat → Int) (AR : Array Value) (hx : a.eval x = .pointer (some ⟨b, 0, none⟩)) (hy : a.eval y = .agg AR) (hAR : (arr32 g).toArray = AR) (h : ArrB w b f)
    (hK : ∀ w', ArrB w' b g → w.grownBy w' (some b) → wpList Try.prog ops Q rest (a.put o.dst undef) w') : wpList Try.prog ops Q (o :: rest) a w :=
  wpList_store32 hg x y ho b f g hx (by rw [hy, hAR]) h (hK _ (h.stored g) (setCells_grown b (arr32 g) 0 w))
end

end Go.Proofs.Ytbhoimeneekdfaa
