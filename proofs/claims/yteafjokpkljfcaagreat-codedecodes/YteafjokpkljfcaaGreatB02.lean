/-
  Texts laid together in one: KitCopyModule, Draw, DrawAppend, Rdr, Raws, Ref02Wrong, Ref02Ends, Ref02At, Ref02Fault, Ref02Size, Ref02Places, MathRead.
-/
import Derived.WalkSpells
import Derived.BigRegion
import Derived.Deep.RegionWith
import Derived.Deep.DrawnRows
import Derived.Test.YteafjokpkljfcaaGreatB01
import Derived.OrdersIn
import Derived.RangeFuncNested
import Derived.Deep.AppendLies
import Derived.Maps.AppendAt
import Derived.Maps.Range
import Derived.OneCell
import Derived.Test.YteafjokpkljfcaaGreatProg
import Derived.Deep.RegionLaw
import Derived.Deep.QuietTactic
import Derived.BigQuiet
/-
  CopyModule of the kit answers the module in new memory.
-/
namespace Go.Proofs.YteafjokpkljfcaaGreat
open Go.RowKit

theorem CopyModule.info : (Tryz.prog.info? 48).map (fun i => (i.zero, i.size, i.bytes)) = some (some (.agg #[.int .u16 0, .int .u32 0, .int .u32 0, .slice none 0 0]), 4, 40) := by kernel_rfl

/-- The first k instructions lie in the row at g, their arguments in later blocks. -/
structure PartI (w : World) (g n k : Nat) (l : List InstT) : Prop where
  row : ∃ cs : Array Value, w.heap[g]? = some (.cells cs 48 (0, 0)) ∧ cs.size = n * 4
  each : ∀ j, j < k → ∃ gj nj, w.cell? ⟨g, j * 4, none⟩ = some (.int .u16 (nthI l j).1) ∧ w.cell? ⟨g, j * 4 + 1, none⟩ = some (.int .u32 (nthI l j).2.1) ∧ w.cell? ⟨g, j * 4 + 2, none⟩ = some (.int .u32 (nthI l j).2.2.1) ∧ w.cell? ⟨g, j * 4 + 3, none⟩ = some (.slice (some ⟨gj, 0, none⟩) nj nj) ∧
    (nthI l j).2.2.2.length = nj ∧ ArgsV w (some ⟨gj, 0, none⟩) (nthI l j).2.2.2 ∧ g < gj

theorem PartI.below {w w' : World} {g n k : Nat} {l : List InstT} (h : PartI w g n k l) (hb : Below w.heap.size w w') : PartI w' g n k l := by
  obtain ⟨⟨cs, h1, h2⟩, h3⟩ := h
  have hg : g < w.heap.size := (Array.getElem?_eq_some_iff.1 h1).1
  refine ⟨⟨cs, by rw [hb.block g hg]; exact h1, h2⟩, fun j hj => ?_⟩
  obtain ⟨gj, nj, c1, c2, c3, c4, c5, c6, c7⟩ := h3 j hj
  exact ⟨gj, nj, (hb.cell (p := ⟨g, j * 4, none⟩) hg).trans c1, (hb.cell (p := ⟨g, j * 4 + 1, none⟩) hg).trans c2, (hb.cell (p := ⟨g, j * 4 + 2, none⟩) hg).trans c3, (hb.cell (p := ⟨g, j * 4 + 3, none⟩) hg).trans c4, c5, c6.below hb, c7⟩

/-- An instruction is stored. -/
theorem PartI.store {w : World} {g n k : Nat} {l : List InstT} (h : PartI w g n k l) (hk : k < n) (gk nk : Nat) (hl : (nthI l k).2.2.2.length = nk) (hv : ArgsV w (some ⟨gk, 0, none⟩) (nthI l k).2.2.2) (hg : g < gk) :
    PartI ((((w.setCell ⟨g, k * 4, none⟩ (.int .u16 (nthI l k).1)).setCell ⟨g, k * 4 + 1, none⟩ (.int .u32 (nthI l k).2.1)).setCell ⟨g, k * 4 + 2, none⟩ (.int .u32 (nthI l k).2.2.1)).setCell ⟨g, k * 4 + 3, none⟩ (.slice (some ⟨gk, 0, none⟩) nk nk)) g n (k + 1) l := by
  obtain ⟨⟨cs, h1, h2⟩, h3⟩ := h
  obtain ⟨W, hW⟩ : ∃ W, W = (((w.setCell ⟨g, k * 4, none⟩ (.int .u16 (nthI l k).1)).setCell ⟨g, k * 4 + 1, none⟩ (.int .u32 (nthI l k).2.1)).setCell ⟨g, k * 4 + 2, none⟩ (.int .u32 (nthI l k).2.2.1)).setCell ⟨g, k * 4 + 3, none⟩ (.slice (some ⟨gk, 0, none⟩) nk nk) := ⟨_, rfl⟩
  have hb : W.heap[g]? = some (.cells ((((cs.setIfInBounds (k * 4) (.int .u16 (nthI l k).1)).setIfInBounds (k * 4 + 1) (.int .u32 (nthI l k).2.1)).setIfInBounds (k * 4 + 2) (.int .u32 (nthI l k).2.2.1)).setIfInBounds (k * 4 + 3) (.slice (some ⟨gk, 0, none⟩) nk nk)) 48 (0, 0)) := by
    rw [hW]; simp [World.setCell, Array.getElem?_modify, h1]
  have cell : ∀ j, W.cell? ⟨g, j, none⟩ = ((((cs.setIfInBounds (k * 4) (.int .u16 (nthI l k).1)).setIfInBounds (k * 4 + 1) (.int .u32 (nthI l k).2.1)).setIfInBounds (k * 4 + 2) (.int .u32 (nthI l k).2.2.1)).setIfInBounds (k * 4 + 3) (.slice (some ⟨gk, 0, none⟩) nk nk))[j]? := fun j => by
    simp [World.cell?, hb]
  have old : ∀ j, w.cell? ⟨g, j, none⟩ = cs[j]? := fun j => by simp [World.cell?, h1]
  have far : ∀ gj m, g < gj → ArgsV w (some ⟨gj, 0, none⟩) m → ArgsV W (some ⟨gj, 0, none⟩) m := fun gj m hlt hm => by
    rw [hW]
    exact args_far (args_far (args_far (args_far hm (by omega) _ _) (by omega) _ _) (by omega) _ _) (by omega) _ _
  rw [← hW]
  refine ⟨⟨_, hb, by simp [h2]⟩, fun j hj => ?_⟩
  by_cases hjk : j < k
  · obtain ⟨gj, nj, c1, c2, c3, c4, c5, c6, c7⟩ := h3 j hjk
    rw [old] at c1 c2 c3 c4
    refine ⟨gj, nj, ?_, ?_, ?_, ?_, c5, far _ _ c7 c6, c7⟩
    all_goals rw [cell, Array.getElem?_setIfInBounds_ne (by omega), Array.getElem?_setIfInBounds_ne (by omega), Array.getElem?_setIfInBounds_ne (by omega), Array.getElem?_setIfInBounds_ne (by omega)]
    · exact c1
    · exact c2
    · exact c3
    · exact c4
  · obtain rfl : j = k := by omega
    refine ⟨gk, nk, ?_, ?_, ?_, ?_, hl, far _ _ hg hv, hg⟩
    · rw [cell, Array.getElem?_setIfInBounds_ne (by omega), Array.getElem?_setIfInBounds_ne (by omega), Array.getElem?_setIfInBounds_ne (by omega), Array.getElem?_setIfInBounds_self_of_lt (by omega)]
    · rw [cell, Array.getElem?_setIfInBounds_ne (by omega), Array.getElem?_setIfInBounds_ne (by omega), Array.getElem?_setIfInBounds_self_of_lt (by simp; omega)]
    · rw [cell, Array.getElem?_setIfInBounds_ne (by omega), Array.getElem?_setIfInBounds_self_of_lt (by simp; omega)]
    · rw [cell, Array.getElem?_setIfInBounds_self_of_lt (by simp; omega)]

theorem PartI.view {w : World} {g n : Nat} {l : List InstT} (h : PartI w g n n l) (hl : l.length = n) : InstsV w (some ⟨g, 0, none⟩) l := by
  intro j hj
  obtain ⟨gj, nj, c1, c2, c3, c4, c5, c6, c7⟩ := h.each j (by omega)
  exact ⟨g, 0, some ⟨gj, 0, none⟩, nj, nj, rfl, World.block_lt_of_cell? _ _ c1, by rw [Nat.zero_add]; exact c1, by rw [Nat.zero_add]; exact c2, by rw [Nat.zero_add]; exact c3, by rw [Nat.zero_add]; exact c4, c5, c6, Nat.le_refl _⟩

theorem PartI.far {w : World} {g n k : Nat} {l : List InstT} (h : PartI w g n k l) {b : Nat} (hb : b < g) (i : Nat) (v : Value) : PartI (w.setCell ⟨b, i, none⟩ v) g n k l := by
  obtain ⟨⟨cs, h1, h2⟩, h3⟩ := h
  have hx : (w.setCell ⟨b, i, none⟩ v).heap[g]? = w.heap[g]? := Below.heap_setCell _ _ _ _ (by simp; omega)
  have hc : ∀ j, (w.setCell ⟨b, i, none⟩ v).cell? ⟨g, j, none⟩ = w.cell? ⟨g, j, none⟩ := fun j => by simp only [World.cell?, hx]
  refine ⟨⟨cs, by rw [hx]; exact h1, h2⟩, fun j hj => ?_⟩
  obtain ⟨gj, nj, c1, c2, c3, c4, c5, c6, c7⟩ := h3 j hj
  exact ⟨gj, nj, by rw [hc]; exact c1, by rw [hc]; exact c2, by rw [hc]; exact c3, by rw [hc]; exact c4, c5, args_far c6 (by omega) _ _, c7⟩

theorem three_set3 {w : World} {B T : Nat} {z0 z1 z2 : Value} (h : w.heap[B]? = some (.cells #[z0, z1, z2] T (0, 0))) (u0 u1 u2 : Value) :
    (((w.setCell ⟨B, 0, none⟩ u0).setCell ⟨B, 1, none⟩ u1).setCell ⟨B, 2, none⟩ u2).heap[B]? = some (.cells #[u0, u1, u2] T (0, 0)) := by
  simp only [World.setCell, Array.getElem?_modify, h]; simp
theorem three_below3 (w : World) (B : Nat) (u0 u1 u2 : Value) : Below B w (((w.setCell ⟨B, 0, none⟩ u0).setCell ⟨B, 1, none⟩ u1).setCell ⟨B, 2, none⟩ u2) :=
  (((Below.refl B w).setCell (Nat.le_refl _) _).setCell (Nat.le_refl _) _).setCell (Nat.le_refl _) _

end Go.Proofs.YteafjokpkljfcaaGreat

/-
  A region that draws its order, in a round or out of one: an operation that yields the same in every world of a class that no operation of the region leaves may be taken first.
-/
namespace Go.Proofs.YteafjokpkljfcaaGreat
open Go.RowKit
set_option linter.unusedVariables false

section
variable {F : Fence} {n : Nat} {P : Program} {md : Region.Mode} {ops : Array Oper} {C : World → Prop} {Q : Exit → Act → World → Prop}

/-- As wpAnyIn, and each operation leaves a world of the class. -/
def wpAnyC (F : Fence) (n : Nat) (P : Program) (md : Region.Mode) (ops : Array Oper) (C : World → Prop) (Q : Exit → Act → World → Prop) : Nat → Array Bool → Act → World → Prop
  | 0, listed, a, w => Region.ready md ops listed = [] ∧ Q .normal a w
  | fuel + 1, listed, a, w => (Region.ready md ops listed = [] → Q .normal a w) ∧ ∀ i ∈ Region.ready md ops listed, wpOpIn F n P ops Q i (fun a' w' => C w' ∧ wpAnyC F n P md ops C Q fuel (listed.setIfInBounds i true) a' w') a w

theorem wpAnyC_sound : ∀ (fuel : Nat) (listed : Array Bool) (a : Act) (w : World), wpAnyC F n P md ops C Q fuel listed a w → wpAnyIn F n P md ops Q fuel listed a w
  | 0, _, _, _, h => h
  | fuel + 1, listed, a, w, h => ⟨h.1, fun i hi => wpOpIn_mono (fun a' w' h' => wpAnyC_sound fuel _ a' w' h'.2) (h.2 i hi)⟩

theorem wpAnyC_done {listed : Array Bool} {a : Act} {w : World} (hr : Region.ready md ops listed = []) (h : Q .normal a w) : ∀ fuel, wpAnyC F n P md ops C Q fuel listed a w
  | 0 => ⟨hr, h⟩
  | _ + 1 => ⟨fun _ => h, by rw [hr]; simp⟩

/-- In every world of the class it yields v. -/
def YieldsC (P : Program) (ops : Array Oper) (C : World → Prop) (o : Oper) (v : Value) (a : Act) : Prop :=
  (Region.wanted o (yielded ops a.tmps) = true ∧ ∀ w, C w → (execOp a.eval o).run P w = .ok (.value v) w) ∨ (Region.wanted o (yielded ops a.tmps) = false ∧ v = undef)

theorem YieldsC.op {i : Nat} {o : Oper} {v : Value} {a : Act} (hF : ∀ f, F.fn f) (hnd : ∀ c, o.op ≠ .defer c) (hi : ops[i]? = some o) (hy : YieldsC P ops C o v a) {K : Act → World → Prop} {w : World} (hC : C w) (h : K (a.put o.dst v) w) : wpOpIn F n P ops Q i K a w := by
  unfold wpOpIn
  simp only [hi]
  rcases hy with ⟨hw, hv⟩ | ⟨hw, rfl⟩
  · rw [if_pos hw]
    exact ⟨fun f _ => hF f, by rw [Oper.semAt_eq _ _ _ hnd, hv w hC]; exact h⟩
  · rw [if_neg (by rw [hw]; simp)]
    exact ⟨fun f _ => hF f, h⟩

/-- What another operation does hangs not on what the one has yielded. -/
theorem opIn_put {j : Nat} {oi oj : Oper} {v : Value} (hF : ∀ f, F.fn f) (hnd : ∀ c, oj.op ≠ .defer c) (hj : ops[j]? = some oj) (hap : oi.apart ops oj = true) (hsj : ∀ cs b, oj.op ≠ .select cs b)
    (hQ : ∀ c a w, Q (.panic c) (a.put oi.dst v) w → Q (.panic c) a w) {K : Act → World → Prop} {a : Act} {w : World} (h : wpOpIn F n P ops Q j K (a.put oi.dst v) w) :
    wpOpIn F n P ops Q j (fun a' w' => (∃ ds u, a' = ({ a with defers := ds } : Act).put oj.dst u) ∧ K (a'.put oi.dst v) w') a w := by
  obtain ⟨h1, h2, _⟩ := Oper.apart_spec hap
  unfold wpOpIn at *
  simp only [hj] at *
  rw [wanted_put oj a oi.dst v h1] at h
  have here : ∀ u w', K ((a.put oi.dst v).put oj.dst u) w' → (∃ ds u', a.put oj.dst u = ({ a with defers := ds } : Act).put oj.dst u') ∧ K ((a.put oj.dst u).put oi.dst v) w' := fun u w' hk => ⟨⟨a.defers, u, rfl⟩, by rw [← Act.put_comm a v u h2]; exact hk⟩
  by_cases hw : Region.wanted oj (yielded ops a.tmps) = true
  · rw [if_pos hw] at h ⊢
    obtain ⟨_, h⟩ := h
    refine ⟨fun f _ => hF f, ?_⟩
    rw [Oper.semAt_eq _ _ _ hnd, execOp_put oj hsj a oi.dst v h1] at h
    rw [Oper.semAt_eq _ _ _ hnd]
    generalize (execOp a.eval oj).run P w = r at *
    cases r with
    | ok x w' =>
      cases x <;> simp only [Oper.uponIn] at h ⊢
      case value u => exact here u _ h
      case skip => exact here _ _ h
      case defer d =>
        refine ⟨⟨d :: a.defers, undef, rfl⟩, ?_⟩
        rw [← Act.put_comm _ v undef h2, ← Act.put_defers]
        exact h
      case enter f args =>
        refine ⟨h.1, CallsIn.mono h.2 fun e w'' he => ?_⟩
        cases e with
        | returned u => exact here u _ he
        | panicked c => exact hQ _ _ _ he
        | outgrown => exact he
      case row row args => exact ⟨h.1, RowsIn.mono h.2 fun u w'' he => here u _ he⟩
      case round l f tmps assign body =>
        refine ⟨h.1, RoundIn.mono h.2 fun e w'' he => ?_⟩
        cases e with
        | returned u => exact here u _ he
        | panicked c => exact hQ _ _ _ he
        | outgrown => exact he
    | halt x w' =>
      cases x <;> simp only [Oper.uponIn] at h ⊢
      case panic u => exact hQ _ _ _ h
  · rw [if_neg hw] at h ⊢
    exact ⟨fun f _ => hF f, here _ _ h.2⟩

theorem YieldsC.put {oi oj : Oper} {v u : Value} {a : Act} {ds : List Deferred} (hy : YieldsC P ops C oi v a) (hap : oi.apart ops oj = true) (hsi : ∀ cs b, oi.op ≠ .select cs b) : YieldsC P ops C oi v (({ a with defers := ds } : Act).put oj.dst u) := by
  obtain ⟨_, _, h3⟩ := Oper.apart_spec hap
  have e1 : execOp (({ a with defers := ds } : Act).put oj.dst u).eval oi = execOp a.eval oi := (execOp_put oi hsi { a with defers := ds } oj.dst u h3).trans rfl
  have e2 : Region.wanted oi (yielded ops (({ a with defers := ds } : Act).put oj.dst u).tmps) = Region.wanted oi (yielded ops a.tmps) := (wanted_put oi { a with defers := ds } oj.dst u h3).trans rfl
  unfold YieldsC
  rw [e1, e2]
  exact hy

theorem wpAnyC_first {i : Nat} {oi : Oper} {v : Value} (hF : ∀ f, F.fn f) (hnd : ∀ (j : Nat) (o : Oper), ops[j]? = some o → ∀ c, o.op ≠ .defer c) (hi : ops[i]? = some oi) (hsel : ∀ (j : Nat) (o : Oper) cs b, ops[j]? = some o → o.op ≠ .select cs b)
    (hQ : ∀ c a w, Q (.panic c) (a.put oi.dst v) w → Q (.panic c) a w) : ∀ (fuel : Nat) (listed : Array Bool) (a : Act) (w : World),
      (∀ j oj, ops[j]? = some oj → j ≠ i → listed.getD j true = false → (∀ e ∈ oj.after, Region.binds md e = true → e.on ≠ i) → oi.apart ops oj = true) →
      i ∈ Region.ready md ops listed → YieldsC P ops C oi v a → C w → wpAnyC F n P md ops C Q fuel (listed.setIfInBounds i true) (a.put oi.dst v) w → wpAnyC F n P md ops C Q (fuel + 1) listed a w := by
  intro fuel
  induction fuel with
  | zero =>
    intro listed a w _ hr hy hC H
    refine ⟨fun h => (by rw [h] at hr; cases hr), fun j hj => ?_⟩
    by_cases hji : j = i
    · subst hji; exact hy.op hF (hnd j oi hi) hi hC ⟨hC, H⟩
    · have := ready_mono hj hji
      rw [H.1] at this
      cases this
  | succ fuel ih =>
    intro listed a w hfree hr hy hC H
    refine ⟨fun h => (by rw [h] at hr; cases hr), fun j hj => ?_⟩
    by_cases hji : j = i
    · subst hji; exact hy.op hF (hnd j oi hi) hi hC ⟨hC, H⟩
    · obtain ⟨hjun, oj, hoj, hall⟩ := mem_ready.1 hj
      have hnot : ∀ e ∈ oj.after, Region.binds md e = true → e.on ≠ i := fun e he hb heq => by
        have h1 := hall e he hb
        have h0 := (mem_ready.1 hr).1
        rw [heq] at h1
        rcases Nat.lt_or_ge i listed.size with h' | h'
        · simp [h'] at h0 h1; rw [h0] at h1; cases h1
        · simp [Array.getElem?_eq_none h'] at h1
      have hap := hfree j oj hoj hji hjun hnot
      have h2 := opIn_put hF (hnd j oj hoj) hoj hap (fun cs b => hsel j oj cs b hoj) hQ (H.2 j (ready_mono hj hji))
      refine wpOpIn_mono (fun a' w' h3 => ?_) h2
      obtain ⟨⟨ds, u, rfl⟩, hC', h4⟩ := h3
      refine ⟨hC', ih (listed.setIfInBounds j true) _ w' (fun k ok hk hki hun hno => hfree k ok hk hki ?_ hno) (ready_mono hr (Ne.symm hji)) (hy.put hap (fun cs b => hsel i oi cs b hi)) hC' ?_⟩
      · by_cases hjk : j = k
        · subst hjk; exact hjun
        · rw [getD_set_ne true hjk] at hun; exact hun
      · rw [Array.setIfInBounds_comm _ _ hji]
        exact h4

/-- No operation of it is a defer. -/
def noDefer (ops : Array Oper) : Bool := ops.all fun o => match o.op with | .defer _ => false | _ => true
theorem noDefer_spec (h : noDefer ops = true) (j : Nat) (o : Oper) (hj : ops[j]? = some o) (c : Call) : o.op ≠ .defer c := fun e => by
  obtain ⟨hlt, hk⟩ := Array.getElem?_eq_some_iff.1 hj
  have := (Array.all_eq_true.1 h) j hlt
  rw [hk, e] at this
  cases this

theorem wpAnyC_take {i : Nat} {oi : Oper} {v : Value} {fuel : Nat} {listed : Array Bool} {a : Act} {w : World} (hF : ∀ f, F.fn f) (hnd : noDefer ops = true) (hi : ops[i]? = some oi) (hs : Region.noSelect ops = true) (hf : Region.free md ops listed i = true) (hr : (Region.ready md ops listed).contains i = true)
    (hQ : ∀ c a w, Q (.panic c) (a.put oi.dst v) w → Q (.panic c) a w) (hC : C w) (hy : YieldsC P ops C oi v a) (h : wpAnyC F n P md ops C Q fuel (listed.setIfInBounds i true) (a.put oi.dst v) w) : wpAnyC F n P md ops C Q (fuel + 1) listed a w :=
  wpAnyC_first hF (noDefer_spec hnd) hi (Region.noSelect_spec hs) hQ fuel listed a w (Region.free_spec hi hf) (by simpa using hr) hy hC h

/-- The same, with the temporary named. -/
theorem wpAnyC_takeD {i : Nat} {oi : Oper} (d : Option Tmp) {v : Value} {fuel : Nat} {listed : Array Bool} {a : Act} {w : World} (hF : ∀ f, F.fn f) (hnd : noDefer ops = true) (hi : ops[i]? = some oi) (hd : oi.dst = d) (hs : Region.noSelect ops = true) (hf : Region.free md ops listed i = true) (hr : (Region.ready md ops listed).contains i = true)
    (hQ : ∀ c a w, Q (.panic c) (a.put d v) w → Q (.panic c) a w) (hC : C w) (hy : YieldsC P ops C oi v a) (h : wpAnyC F n P md ops C Q fuel (listed.setIfInBounds i true) (a.put d v) w) : wpAnyC F n P md ops C Q (fuel + 1) listed a w := by
  subst hd
  exact wpAnyC_take hF hnd hi hs hf hr hQ hC hy h

/-- The operations that may come up, one by one. -/
def AllC (F : Fence) (n : Nat) (P : Program) (md : Region.Mode) (ops : Array Oper) (C : World → Prop) (Q : Exit → Act → World → Prop) (fuel : Nat) (listed : Array Bool) (a : Act) (w : World) (rs : List Nat) : Prop :=
  ∀ i ∈ rs, wpOpIn F n P ops Q i (fun a' w' => C w' ∧ wpAnyC F n P md ops C Q fuel (listed.setIfInBounds i true) a' w') a w
theorem AllC.nil {fuel : Nat} {listed : Array Bool} {a : Act} {w : World} : AllC F n P md ops C Q fuel listed a w [] := fun _ h => by cases h
theorem AllC.cons {fuel : Nat} {listed : Array Bool} {a : Act} {w : World} {i : Nat} {o : Oper} {rs : List Nat} (ho : ops[i]? = some o)
    (h : ∀ K' : Act → World → Prop, (∀ a w, C w → wpAnyC F n P md ops C Q fuel (listed.setIfInBounds i true) a w → K' a w) → if Region.wanted o (yielded ops a.tmps) = true then Oper.wpIn F n P o a w K' Q else (∀ f, o.about P w a.eval = some f → F.fn f) ∧ K' (a.put o.dst undef) w)
    (hs : AllC F n P md ops C Q fuel listed a w rs) : AllC F n P md ops C Q fuel listed a w (i :: rs) := fun j hj => by
  rcases List.mem_cons.1 hj with rfl | hj
  · exact wpOpIn_step ho (fun K' hK => h K' (fun a w hC hw => hK a w ⟨hC, hw⟩))
  · exact hs j hj
theorem wpAnyC_ready {rs : List Nat} {fuel : Nat} {listed : Array Bool} {a : Act} {w : World} (hr : Region.ready md ops listed = rs) (hne : rs ≠ []) (h : AllC F n P md ops C Q fuel listed a w rs) : wpAnyC F n P md ops C Q (fuel + 1) listed a w :=
  ⟨fun h0 => absurd (hr ▸ h0) hne, hr ▸ h⟩

end

end Go.Proofs.YteafjokpkljfcaaGreat

/-
  An append within a region that draws its order, in or out of a round.
-/
namespace Go.Proofs.YteafjokpkljfcaaGreat
open Go.RowKit
set_option linter.unusedVariables false

/-- A piece of code that goes on. -/
theorem wpIn_normal {F : Fence} {n : Nat} {P : Program} {c : Code} {Q : Exit → Act → World → Prop} {a : Act} {w : World} (h : c.wpIn F n P (fun e a w => e = .normal ∧ Q .normal a w) a w) : c.wpIn F n P Q a w :=
  Code.wpIn_mono (fun e a w h => by obtain ⟨rfl, h⟩ := h; exact h) h

theorem stepAny_append {P : Program} (w : World) {F : Fence} (hF : ∀ f, F.fn f) {o : Oper} {ops : Array Oper} {a : Act} {K : Act → World → Prop} {Q : Exit → Act → World → Prop} (hgd : o.guard = none) (s x : Operand) (t : TypeId)
    (ho : o.op = .call { callee := .builtin .append, args := #[s, x], argTypes := #[t, t] }) (base : Nat) (e : TypeId) (i : TypeInfo) (z : Value) (size bytes : Nat) (ht : P.underlying t = some (.slice e)) (hi : P.info? e = some i) (hz : i.zero = some z)
    (hsize : i.size = size) (hby : i.bytes = bytes) (hzs : z.cells.size = size) (hsz : 0 < size) (v : Value) (n : Nat) (xs : List Value) (hs : a.eval s = v) (hown : w.ownsRow base e size v n xs)
    (ad : Addr) (m c : Nat) (news : List Value) (hx : a.eval x = .slice (some ad) m c) (hl : news.length = m * size) (hnews : ∀ j u, news[j]? = some u → w.cell? (ad.add j) = some u) (h1 : ∀ u ∈ news, u.oneCell' = true)
    (hm : 0 < m) (h63 : n + m ≤ maxLen) (hbytes : (n + m) * bytes ≤ 140737488355328) (hbase : base ≤ w.heap.size)
    (h : ∀ g cap w', w'.ownsRow base e size (.slice (some ⟨g, 0, none⟩) (n + m) cap) (n + m) (xs ++ news) → w.grownBy w' v.ownBlock → K (a.put o.dst (.slice (some ⟨g, 0, none⟩) (n + m) cap)) w') :
    if Region.wanted o (yielded ops a.tmps) = true then Oper.wpIn F 0 P o a w K Q else (∀ f, o.about P w a.eval = some f → F.fn f) ∧ K (a.put o.dst undef) w := by
  obtain ⟨v', w', hr, h2, h3, _⟩ := run_append_own (P := P) w base t o.type e i z size bytes ht hi hz hsize hby hzs hsz v n xs hown ad m c news hl hnews h1 h63 hbytes hbase
  obtain ⟨g, cap', rfl⟩ : ∃ g cap', v' = .slice (some ⟨g, 0, none⟩) (n + m) cap' := by
    rcases h2.2 with ⟨_, h0⟩ | ⟨g, cap', cur, e', _⟩
    · omega
    · exact ⟨g, cap', e'⟩
  rw [if_pos (by simp [Region.wanted, hgd])]
  refine ⟨fun f _ => hF f, ?_⟩
  rw [Oper.semAt_eq _ _ _ (fun c hc => by rw [ho] at hc; cases hc)]
  unfold execOp
  simp only [ho, resolve, invoke, builtin, Sem.run_bind, Sem.run_pure, Result.andThen_ok, List.map_toArray, List.map_cons, List.map_nil, hs, hx, hr]
  exact h g cap' w' h2 h3

end Go.Proofs.YteafjokpkljfcaaGreat

/-
  A reader in memory: its two cells lie in one block; what was there before it turns in that block alone. And what a slice of a list is.
-/
namespace Go.Proofs.YteafjokpkljfcaaGreat
open Go.RowKit

/-- W0: the world in which the reader was made; wr: a later one. -/
structure Rd (T : TypeId) (W0 wr : World) (gr : Nat) (v : Value) (p : Nat) : Prop where
  grown : W0.grownBy wr (some gr)
  box : wr.heap[gr]? = some (.cells #[v, .int .i64 (p : Int)] T (0, 0))

theorem cell_of_two {w : World} {g : Nat} {a b : Value} {T : TypeId} (h : w.heap[g]? = some (.cells #[a, b] T (0, 0))) : w.cell? ⟨g, 0, none⟩ = some a ∧ w.cell? ⟨g, 1, none⟩ = some b ∧ w.frozen? ⟨g, 1, none⟩ = false := by
  refine ⟨?_, ?_, ?_⟩ <;> simp [World.cell?, World.frozen?, h]

theorem two_setCell {w : World} {g : Nat} {a b : Value} {T : TypeId} (h : w.heap[g]? = some (.cells #[a, b] T (0, 0))) (u : Value) : (w.setCell ⟨g, 1, none⟩ u).heap[g]? = some (.cells #[a, u] T (0, 0)) := by
  simp [World.setCell, Array.getElem?_modify, h]

theorem grown_setCell (w : World) (g j : Nat) (u : Value) : w.grownBy (w.setCell ⟨g, j, none⟩ u) (some g) :=
  ⟨rfl, rfl, rfl, by simp [World.setCell], fun k _ hne => Below.heap_setCell _ _ _ _ (fun e => hne (by rw [e]))⟩

theorem Rd.set {T : TypeId} {W0 wr : World} {gr : Nat} {v : Value} {p : Nat} (h : Rd T W0 wr gr v p) (q : Nat) (u : Int) (hu : u = (q : Int)) : Rd T W0 (wr.setCell ⟨gr, 1, none⟩ (.int .i64 u)) gr v q := by
  subst hu
  exact ⟨h.grown.trans (grown_setCell wr gr 1 _), two_setCell h.box _⟩

theorem Rd.lt {T : TypeId} {W0 wr : World} {gr : Nat} {v : Value} {p : Nat} (h : Rd T W0 wr gr v p) : gr < wr.heap.size := (Array.getElem?_eq_some_iff.1 h.box).1

/-- Where nothing that is there turns. -/
theorem Rd.below {T : TypeId} {W0 wr w' : World} {gr : Nat} {v : Value} {p : Nat} (h : Rd T W0 wr gr v p) (hb : Below wr.heap.size wr w') : Rd T W0 w' gr v p := by
  refine ⟨⟨hb.os.trans h.grown.os, hb.tape.trans h.grown.tape, hb.output.trans h.grown.output, Nat.le_trans h.grown.size hb.size, fun k hk hne => ?_⟩, by rw [hb.block gr h.lt]; exact h.box⟩
  rw [hb.block k (Nat.lt_of_lt_of_le hk h.grown.size)]
  exact h.grown.block k hk hne

/-- Where a block alone turns that is new since the reader was looked at. -/
theorem Rd.far {T : TypeId} {W0 w' w'' : World} {gr g : Nat} {v : Value} {p : Nat} (h : Rd T W0 w' gr v p) (h0 : W0.heap.size ≤ g) (hg : gr < g) (hgr : w'.grownBy w'' (some g)) : Rd T W0 w'' gr v p := by
  refine ⟨h.grown.andThen hgr (fun j hj => by cases hj; exact .inl h0), ?_⟩
  rw [hgr.block gr h.lt (fun e => by cases e; omega)]
  exact h.box

/-- The reader's words are as they were. -/
theorem Rd.view {T : TypeId} {W0 wr : World} {gr : Nat} {v : Value} {p : Nat} (h : Rd T W0 wr gr v p) {a : Option Addr} {zs : List Int} (hv : View .u32 W0 a zs) (hne : ∀ b off s, a = some ⟨b, off, s⟩ → b ≠ gr) : View .u32 wr a zs := by
  intro j hj
  obtain ⟨b, off, e, hlt, hc⟩ := hv j hj
  refine ⟨b, off, e, Nat.lt_of_lt_of_le hlt h.grown.size, ?_⟩
  rw [← hc]
  exact World.cell?_of_block (w := W0) (h.grown.block b hlt (fun e' => hne b off none e (by cases e'; rfl)))

/-- What is cut off at the front of a list. -/
theorem View.drop {k : IntKind} {w : World} {b off : Nat} {zs : List Int} (h : View k w (some ⟨b, off, none⟩) zs) (p : Nat) : View k w (some ⟨b, off + p, none⟩) (zs.drop p) := by
  intro j hj
  rw [List.length_drop] at hj
  obtain ⟨b', off', e, hb, hc⟩ := h (p + j) (by omega)
  simp at e
  obtain ⟨rfl, rfl⟩ := e
  refine ⟨b, off + p, rfl, hb, ?_⟩
  rw [Nat.add_assoc, hc]
  simp [nth, List.getD]

/-- The address of a slice that is cut at its front. -/
def cutA (a : Option Addr) (cap p : Nat) : Option Addr := if cap = p then a else a.map (·.add p)

theorem View.cut {k : IntKind} {w : World} {a : Option Addr} {cap : Nat} {zs : List Int} (h : View k w a zs) (hcap : zs.length ≤ cap) (p : Nat) : View k w (cutA a cap p) (zs.drop p) := by
  by_cases hp : p < zs.length
  · obtain ⟨b, off, rfl, _, _⟩ := h p hp
    rw [cutA, if_neg (by omega)]
    have := View.drop h p
    rw [Option.map_some, Addr.add_lit]
    exact this
  · rw [List.drop_of_length_le (by omega)]
    exact view_nil

theorem nth_drop (zs : List Int) (p j : Nat) : nth (zs.drop p) j = nth zs (p + j) := by simp [nth, List.getD]
/-- What the call owns, nil or not, can be read. -/
theorem View.ofOwn {k : IntKind} {w : World} {B e n cap : Nat} {a : Option Addr} {zs : List Int} (h : w.ownsRow B e 1 (.slice a n cap) n (zs.map (Value.int k))) (hl : zs.length = n) : View k w a zs := by
  rcases h.2 with ⟨_, hn⟩ | ⟨g, cap', cur, hv, _⟩
  · have : zs = [] := List.eq_nil_of_length_eq_zero (by rw [hl]; simpa using hn)
    subst this; exact view_nil
  · cases hv; exact View.ofRow h hl

end Go.Proofs.YteafjokpkljfcaaGreat

/-
  Lists of instructions in memory: an operation and a list of words each.
-/
namespace Go.Proofs.YteafjokpkljfcaaGreat
open Go.RowKit

/-- The instruction at a place of a list. -/
def nthR (rs : List (Int × List Int)) (j : Nat) : Int × List Int := rs.getD j (0, [])

/-- What can be read of a slice of instructions. -/
def RawsV (w : World) (a : Option Addr) (rs : List (Int × List Int)) : Prop :=
  ∀ j, j < rs.length → ∃ b off aj cj nj, a = some ⟨b, off, none⟩ ∧ b < w.heap.size ∧ w.cell? ⟨b, off + j * 2, none⟩ = some (.int .u16 (nthR rs j).1) ∧ w.cell? ⟨b, off + j * 2 + 1, none⟩ = some (.slice aj nj cj) ∧ (nthR rs j).2.length = nj ∧ View .u32 w aj (nthR rs j).2 ∧ nj ≤ cj

/-- Each operation, each word and each length lies within its bounds. -/
def RawsOk (rs : List (Int × List Int)) : Prop := ∀ j, j < rs.length → 0 ≤ (nthR rs j).1 ∧ (nthR rs j).1 < 65536 ∧ Within 4294967296 (nthR rs j).2 ∧ 4 * (nthR rs j).2.length ≤ 140737488351232

theorem RawsV.below {w w' : World} {a : Option Addr} {rs : List (Int × List Int)} (h : RawsV w a rs) (hb : Below w.heap.size w w') : RawsV w' a rs := by
  intro j hj
  obtain ⟨b, off, aj, cj, nj, e, hlt, h1, h2, h3, h4, h5⟩ := h j hj
  exact ⟨b, off, aj, cj, nj, e, Nat.lt_of_lt_of_le hlt hb.size, (hb.cell (p := ⟨b, off + j * 2, none⟩) hlt).trans h1, (hb.cell (p := ⟨b, off + j * 2 + 1, none⟩) hlt).trans h2, h3, h4.below hb, h5⟩

theorem rawsV_nil {w : World} {a : Option Addr} : RawsV w a [] := fun j hj => by simp at hj

theorem RawsV.drew {w : World} {a : Option Addr} {rs : List (Int × List Int)} (h : RawsV w a rs) (q : Nat) : RawsV (w.drewN q) a rs := h.below (bel_drewN (Below.refl _ _) q)
theorem View.drew {k : IntKind} {w : World} {a : Option Addr} {zs : List Int} (h : View k w a zs) (q : Nat) : View k (w.drewN q) a zs := h.below (bel_drewN (Below.refl _ _) q)

end Go.Proofs.YteafjokpkljfcaaGreat

/-
  What Wrong of the document's answer returns: what is wrong with a word of the head.
-/
namespace Go.Proofs.YteafjokpkljfcaaGreat
open Go.RowKit
set_option maxRecDepth 10000

/-- What is wrong with a word of the head, by its place. -/
def wrongE (k : Nat) (x : Int) : Int :=
  if k = 0 then (if x = 50471687 then 21 else if x = 119734787 then 0 else 20)
  else if k = 1 then (if x = 65536 then 0 else 22)
  else if k = 3 then (if x = 0 then 24 else if 65536 < x then 24 else 0)
  else if k = 4 then (if x = 0 then 0 else 23)
  else 0

set_option maxHeartbeats 1000000 in
theorem refWrong_any (k : Nat) (x : Int) (w : World) (hk : k < 5) :
    Calls Tryz.prog 22 #[.int .i64 k, .int .u32 x] w fun e w' => e = .returned (.int .i64 (wrongE k x)) ∧ w = w' := by
  rcases (show k = 0 ∨ k = 1 ∨ k = 2 ∨ k = 3 ∨ k = 4 by omega) with rfl | rfl | rfl | rfl | rfl
  · by_cases h1 : x = 50471687
    · have HE : Hid (wrongE 0 x = 21) := by show _ = _; simp [wrongE, h1]
      have b1 : (x == 50471687) = true := by simpa using h1
      clear h1
      go_enter Tryz.func22, Tryz.ntmps22
      go_wp2
      go_ret
      exact ⟨ret_int HE.out.symm, rfl⟩
    · have b1 : (x == 50471687) = false := by simpa using h1
      by_cases h2 : x = 119734787
      · have HE : Hid (wrongE 0 x = 0) := by show _ = _; simp [wrongE, h2]
        have b2 : (x == 119734787) = true := by simpa using h2
        clear h1 h2
        go_enter Tryz.func22, Tryz.ntmps22
        go_wp2
        go_ret
        exact ⟨ret_int HE.out.symm, rfl⟩
      · have HE : Hid (wrongE 0 x = 20) := by show _ = _; simp [wrongE, h1, h2]
        have b2 : (x == 119734787) = false := by simpa using h2
        clear h1 h2
        go_enter Tryz.func22, Tryz.ntmps22
        go_wp2
        go_ret
        exact ⟨ret_int HE.out.symm, rfl⟩
  · by_cases h1 : x = 65536
    · have HE : Hid (wrongE 1 x = 0) := by show _ = _; simp [wrongE, h1]
      have b1 : (x == 65536) = true := by simpa using h1
      clear h1
      go_enter Tryz.func22, Tryz.ntmps22
      go_wp2
      go_ret
      exact ⟨ret_int HE.out.symm, rfl⟩
    · have HE : Hid (wrongE 1 x = 22) := by show _ = _; simp [wrongE, h1]
      have b1 : (x == 65536) = false := by simpa using h1
      clear h1
      go_enter Tryz.func22, Tryz.ntmps22
      go_wp2
      go_ret
      exact ⟨ret_int HE.out.symm, rfl⟩
  · go_enter Tryz.func22, Tryz.ntmps22
    go_wp2
    go_ret
    exact ⟨rfl, rfl⟩
  · by_cases h1 : x = 0
    · have HE : Hid (wrongE 3 x = 24) := by show _ = _; simp [wrongE, h1]
      have b1 : (x == 0) = true := by simpa using h1
      clear h1
      go_enter Tryz.func22, Tryz.ntmps22
      go_wp2
      go_ret
      exact ⟨ret_int HE.out.symm, rfl⟩
    · have b1 : (x == 0) = false := by simpa using h1
      by_cases h2 : 65536 < x
      · have HE : Hid (wrongE 3 x = 24) := by show _ = _; simp [wrongE, h1, h2]
        have b2 : decide (65536 < x) = true := decide_eq_true h2
        clear h1 h2
        go_enter Tryz.func22, Tryz.ntmps22
        go_wp2
        go_ret
        exact ⟨ret_int HE.out.symm, rfl⟩
      · have HE : Hid (wrongE 3 x = 0) := by show _ = _; simp [wrongE, h1, h2]
        have b2 : decide (65536 < x) = false := decide_eq_false h2
        clear h1 h2
        go_enter Tryz.func22, Tryz.ntmps22
        go_wp2
        go_ret
        exact ⟨ret_int HE.out.symm, rfl⟩
  · by_cases h1 : x = 0
    · have HE : Hid (wrongE 4 x = 0) := by show _ = _; simp [wrongE, h1]
      have b1 : (x == 0) = true := by simpa using h1
      clear h1
      go_enter Tryz.func22, Tryz.ntmps22
      go_wp2
      go_ret
      exact ⟨ret_int HE.out.symm, rfl⟩
    · have HE : Hid (wrongE 4 x = 23) := by show _ = _; simp [wrongE, h1]
      have b1 : (x == 0) = false := by simpa using h1
      clear h1
      go_enter Tryz.func22, Tryz.ntmps22
      go_wp2
      go_ret
      exact ⟨ret_int HE.out.symm, rfl⟩

end Go.Proofs.YteafjokpkljfcaaGreat

/-
  What Count, Ends and Wrong of the document's answer return.
-/
namespace Go.Proofs.YteafjokpkljfcaaGreat
open Go.RowKit
set_option maxRecDepth 10000

theorem refCount_any (a : Option Addr) (n cap : Nat) (zs : List Int) (w : World) (p : Nat) (ha : View .u32 w a zs) (hl : zs.length = n) (hw : Within 4294967296 zs) (hp : p < n) :
    Calls Tryz.prog 45 #[.slice a n cap, .int .i64 p] w fun e w' => e = .returned (.int .i64 (cntN zs p)) ∧ w = w' := by
  obtain ⟨b, off, rfl, _, hc⟩ := ha p (by omega)
  have hx := hw.at (k := p) (by omega)
  have HC : Hid (nth zs p / 65536 = (cntN zs p : Int)) := cntN_int zs p hx.1
  have hpi : (p : Int) < (n : Int) := by omega
  clear ha hl hw
  generalize nth zs p = x at hc hx HC
  have hx0 := hx.1
  have hx1 := hx.2
  go_enter Tryz.func45, Tryz.ntmps45
  go_wp2
  go_ret
  exact ⟨ret_int HC.out, rfl⟩

theorem refEnds_yes (a : Option Addr) (n cap : Nat) (zs : List Int) (w : World) (p : Nat) (ha : View .u32 w a zs) (hl : zs.length = n) (hw : Within 4294967296 zs) (hn : 4 * n ≤ 140737488351232) (hp : p < n) (h : badB zs p = false) :
    Calls Tryz.prog 23 #[.slice a n cap, .int .i64 p] w fun e w' => e = .returned (.tuple #[.int .i64 ((p + cntN zs p : Nat) : Int), .bool true]) ∧ w = w' := by
  have hC := fun wx hv => refCount_any a n cap zs wx p hv hl hw hp
  have h1 := cnt_pos h
  have h2 := cnt_fits h
  rw [hl] at h2
  have hCw := hC w ha
  clear hC ha hl hw h
  generalize cntN zs p = c at *
  have hc0 : ((c : Int) == 0) = false := by simp; omega
  have hc1 : decide ((n : Int) - (p : Int) < (c : Int)) = false := decide_eq_false (by omega)
  go_enter Tryz.func23, Tryz.ntmps23
  go_wp2_with fail
  refine hCw.mono ?_
  rintro e w' ⟨rfl, rfl⟩
  go_wp2
  go_ret2
  exact ⟨rfl, rfl⟩

theorem refEnds_no (a : Option Addr) (n cap : Nat) (zs : List Int) (w : World) (p : Nat) (ha : View .u32 w a zs) (hl : zs.length = n) (hw : Within 4294967296 zs) (hn : 4 * n ≤ 140737488351232) (hp : p < n) (h : badB zs p = true) :
    Calls Tryz.prog 23 #[.slice a n cap, .int .i64 p] w fun e w' => e = .returned (.tuple #[.int .i64 0, .bool false]) ∧ w = w' := by
  have hCw := refCount_any a n cap zs w p ha hl hw hp
  have h' : cntN zs p = 0 ∨ n < p + cntN zs p := by unfold badB at h; rw [hl] at h; simpa using h
  clear ha hl hw h
  generalize cntN zs p = c at *
  by_cases hz : c = 0
  · subst hz
    go_enter Tryz.func23, Tryz.ntmps23
    go_wp2_with fail
    refine hCw.mono ?_
    rintro e w' ⟨rfl, rfl⟩
    go_wp2
    go_ret2
    exact ⟨rfl, rfl⟩
  · have hc0 : ((c : Int) == 0) = false := by simp; omega
    have hc1 : decide ((n : Int) - (p : Int) < (c : Int)) = true := decide_eq_true (by omega)
    clear h' hz
    go_enter Tryz.func23, Tryz.ntmps23
    go_wp2_with fail
    refine hCw.mono ?_
    rintro e w' ⟨rfl, rfl⟩
    go_wp2
    go_ret2
    exact ⟨rfl, rfl⟩

end Go.Proofs.YteafjokpkljfcaaGreat

/-
  What At of the document's answer returns: the instruction at a place, up to another one, its words in new memory.
-/
namespace Go.Proofs.YteafjokpkljfcaaGreat
open Go.RowKit

theorem RefAt.info : (Tryz.prog.info? 23).map (fun i => (i.zero, i.size, i.bytes)) = some (some (.int .u32 0), 1, 4) := by kernel_rfl

theorem own_base {w : World} {B B' e size n : Nat} {v : Value} {xs : List Value} (h : w.ownsRow B e size v n xs) (hb : B' ≤ B) : w.ownsRow B' e size v n xs := by
  refine ⟨h.1, ?_⟩
  rcases h.2 with hn | ⟨g, cap, cur, rfl, hg, rest⟩
  · exact .inl hn
  · exact .inr ⟨g, cap, cur, rfl, Nat.le_trans hb hg, rest⟩

/-- The words from a place up to another one. -/
def midL (zs : List Int) (p k : Nat) : List Int := (zs.drop p).take k
theorem midL_snoc (zs : List Int) (p k : Nat) (h : p + k < zs.length) : midL zs p (k + 1) = midL zs p k ++ [nth zs (p + k)] := by
  unfold midL
  rw [take_snoc _ _ (by rw [List.length_drop]; omega), nth_drop]
theorem midL_len (zs : List Int) (p k : Nat) (h : p + k ≤ zs.length) : (midL zs p k).length = k := by
  unfold midL; rw [List.length_take, List.length_drop]; omega

set_option maxRecDepth 100000 in
set_option maxHeartbeats 2000000 in
theorem refAt_any (a : Option Addr) (n cap : Nat) (zs : List Int) (w : World) (p q : Nat) (ha : View .u32 w a zs) (hl : zs.length = n) (hw : Within 4294967296 zs) (hn : 4 * n ≤ 140737488351232) (hp : p < q) (hq : q ≤ n) :
    Calls Tryz.prog 24 #[.slice a n cap, .int .i64 p, .int .i64 q] w fun e w' => ∃ ax cx, e = .returned (.agg #[.int .u16 (opI zs p), .slice ax (q - p - 1) cx]) ∧
      w'.ownsRow w.heap.size 23 1 (.slice ax (q - p - 1) cx) (q - p - 1) ((midL zs (p + 1) (q - p - 1)).map (Value.int .u32)) ∧ Below w.heap.size w w' := by
  obtain ⟨i0, hi, hz0, hz1, hz2⟩ := info_parts RefAt.info
  have HL : Hid (zs.length = n) := hl
  obtain ⟨b, off, rfl, hbs, hc⟩ := ha p (by omega)
  have hx := hw.at (k := p) (by omega)
  have HO : Hid (opI zs p = nth zs p % 65536) := rfl
  generalize nth zs p = x at hc hx HO
  have hx0 := hx.1
  have hx1 := hx.2
  have hpi : (p : Int) < (n : Int) := by omega
  clear hl hw hx
  go_enter Tryz.func24, Tryz.ntmps24
  go_wp2
  go_loopw [8] (fun i wr => ∃ (k : Nat) (v : Value), p + 1 + k ≤ q ∧ i = .int .i64 ((p + 1 + k : Nat) : Int) ∧ wr.heap[w.heap.size + 1]? = some (.cells #[.int .u16 (x % 65536), v] 52 (0, 0)) ∧ wr.heap[w.heap.size]? = some (.cells #[.int .u16 0, .slice none 0 0] 52 (0, 0)) ∧
      wr.ownsRow (w.heap.size + 2) 23 1 v k ((midL zs (p + 1) k).map (Value.int .u32)) ∧ Below w.heap.size w wr)
    (fun i _ => q - (intOf i).toNat)
  case atStart =>
    refine ⟨0, .slice none 0 0, by omega, by go_num, ?_, ?_, World.ownsRow_nil _ _ _ _, ((Below.refl _ _).alloc (Nat.le_refl _) _).alloc (by simp) _⟩
    · have := heap_alloc_new (w.alloc (.cells #[.int .u16 0, .slice none 0 0] 52)) (.cells #[.int .u16 (x % 65536), .slice none 0 0] 52)
      simpa using this
    · rw [Below.heap_alloc _ _ _ (by simp)]
      exact heap_alloc_new w _
  case round =>
    obtain ⟨k, v, hkq, rfl, hbox, hres, hown, hnx⟩ := hrel
    have hsz := hnx.size
    have hlt1 : w.heap.size + 1 < wr.heap.size := (Array.getElem?_eq_some_iff.1 hbox).1
    by_cases hlt : p + 1 + k < q
    · obtain ⟨b2, off2, e2, hbs2, hc2⟩ := ha (p + 1 + k) (by rw [HL.out]; omega)
      simp at e2
      obtain ⟨rfl, rfl⟩ := e2
      have HM : Hid (midL zs (p + 1) (k + 1) = midL zs (p + 1) k ++ [nth zs (p + 1 + k)]) := midL_snoc zs (p + 1) k (by rw [HL.out]; omega)
      have hcr : wr.cell? ⟨b, off + (p + 1 + k), none⟩ = some (.int .u32 (nth zs (p + 1 + k))) := (hnx.cell (p := ⟨b, off + (p + 1 + k), none⟩) hbs).trans hc2
      generalize nth zs (p + 1 + k) = y at hcr HM hc2
      obtain ⟨c0, c1, f1⟩ := cell_of_two hbox
      obtain ⟨ax, cx, hv⟩ : ∃ a c, v = .slice a k c := by
        rcases hown.2 with ⟨rfl, rfl⟩ | ⟨g, c, cur, rfl, _⟩
        · exact ⟨none, 0, rfl⟩
        · exact ⟨_, c, rfl⟩
      subst hv
      have hpk : ((p + 1 + k : Nat) : Int) < (q : Int) := by omega
      have hpn : ((p + 1 + k : Nat) : Int) < (n : Int) := by omega
      have hp0 : (0 : Int) ≤ ((p + 1 + k : Nat) : Int) := by omega
      have hob : ∀ j, Value.ownBlock (.slice ax k cx) = some j → w.heap.size + 2 ≤ j := fun j hj => by
        rcases hown.2 with ⟨h1, _⟩ | ⟨g, c, cur, h1, h2, _⟩
        · rw [h1] at hj; simp [Value.ownBlock] at hj
        · rw [h1] at hj; simp [Value.ownBlock] at hj; omega
      clear hc hc2 ha
      have hkn : k < n := by omega
      generalize hj : p + 1 + k = j at hcr hpk hpn hp0 hlt hkq ⊢
      have HJ : Hid (p + 1 + k = j) := hj
      clear hj
      go_wp2
      go_region_law ((refine step_append_lies _ (by rfl) _ _ _ (by rfl) (w.heap.size + 2) 23 i0 (.int .u32 0) 1 4 Tryz.underlying37 hi hz0 hz1 hz2 rfl (by omega) (.slice ax k cx) k _ (by rfl) ((hown.alloc _).drew) ⟨wr.heap.size, 0, none⟩ 1 1 [.int .u32 y] (by rfl) (by rfl) (World.news_of_block (cs := #[.int .u32 y]) (t := 23) (fr := (0, 0)) (heap_alloc_new wr _)) (by simp [Value.oneCell']) (by omega) (by unfold maxLen; omega) (by omega) (by simp; omega) (wr.heap.size + 1) (by simp) ?_; intro g2 cap2 w1 hown1 hgrow1 hat1 hlt1'; have hbox1 := (hgrow1.block (w.heap.size + 1) (by simp; omega) (fun e => by have := hob _ e.symm; omega)).trans ((Below.heap_alloc wr _ _ hlt1).trans hbox); have hres1 := (hgrow1.block w.heap.size (by simp; omega) (fun e => by have := hob _ e.symm; omega)).trans ((Below.heap_alloc wr _ _ (by omega)).trans hres); obtain ⟨d0, d1, e1⟩ := cell_of_two hbox1))
      all_goals
        go_wp2
        go_roundw
        case rel =>
          refine ⟨k + 1, .slice (some ⟨g2, 0, none⟩) (k + 1) cap2, by have := HJ.out; omega, by have := HJ.out; go_num, two_setCell hbox1 _, ?_, ?_, ?_⟩
          · rw [Below.heap_setCell _ _ _ _ (by simp)]; exact hres1
          · rw [HM.out, List.map_append]
            exact ownsRow_setCell_below hown1 (by simp) _
          · exact (((hnx.alloc hsz _).drew).grown hgrow1 (by simp; omega) (fun k hk => by have := hob k hk; omega)).setCell (by simp) _
        case measure => simp [intOf]; omega
    · have ek : k = q - p - 1 := by omega
      subst ek
      obtain ⟨c0, c1, f1⟩ := cell_of_two hbox
      obtain ⟨r0, r1, fr1⟩ := cell_of_two hres
      have fr0 : wr.frozen? ⟨w.heap.size, 0, none⟩ = false := by simp [World.frozen?, hres]
      obtain ⟨ax, cx, hv⟩ : ∃ a c, v = .slice a (q - p - 1) c := by
        rcases hown.2 with ⟨rfl, h0⟩ | ⟨g, c, cur, rfl, _⟩
        · exact ⟨none, 0, by rw [h0]⟩
        · exact ⟨_, c, rfl⟩
      subst hv
      have hfin : ((wr.setCell ⟨w.heap.size, 0, none⟩ (.int .u16 (x % 65536))).setCell ⟨w.heap.size, 1, none⟩ (.slice ax (q - p - 1) cx)).heap[w.heap.size]? = some (.cells #[.int .u16 (x % 65536), .slice ax (q - p - 1) cx] 52 (0, 0)) := by
        simp [World.setCell, Array.getElem?_modify, hres]
      obtain ⟨z0, z1, _⟩ := cell_of_two hfin
      have HZ0 : Hid (_ = _) := z0
      have HZ1 : Hid (_ = _) := z1
      clear z0 z1 hfin
      go_wp2
      refine bodyPost_ret (v := .agg #[.int .u16 (x % 65536), .slice ax (q - p - 1) cx]) (by simp [results, Tryz.results24, go_sem, HZ0.out, HZ1.out]) rfl ⟨ax, cx, by rw [HO.out], ?_, ?_⟩
      · exact own_base (ownsRow_setCell_below (ownsRow_setCell_below hown (by simp) _) (by simp) _) (by omega)
      · exact (hnx.setCell (by simp) _).setCell (by simp) _

end Go.Proofs.YteafjokpkljfcaaGreat

/-
  What Fault and Size of the document's answer return: the first instruction that is too long, or with which there are too many words; and how many words there are.
-/
namespace Go.Proofs.YteafjokpkljfcaaGreat
open Go.RowKit
set_option maxRecDepth 10000

/-- How many words the head and the first k instructions have. -/
def sizeTo (rs : List (Int × List Int)) (k : Nat) : Nat := (rs.take k).foldl (fun s r => s + 1 + r.2.length) 5
/-- The first instruction that may not be, and why. -/
def faultF (rs : List (Int × List Int)) : Nat → Nat → Int × Nat
  | 0, _ => (0, 0)
  | f + 1, k => if k < rs.length then (if 65535 ≤ (nthR rs k).2.length then (25, k) else if 1048576 < sizeTo rs (k + 1) then (4, k) else faultF rs f (k + 1)) else (0, 0)
def fault (rs : List (Int × List Int)) (k : Nat) : Int × Nat := faultF rs (rs.length - k) k

theorem sizeTo_zero (rs : List (Int × List Int)) : sizeTo rs 0 = 5 := rfl
theorem sizeTo_succ (rs : List (Int × List Int)) (k : Nat) (h : k < rs.length) : sizeTo rs (k + 1) = sizeTo rs k + 1 + (nthR rs k).2.length := by
  have e : rs.take (k + 1) = rs.take k ++ [nthR rs k] := by
    rw [List.take_succ_eq_append_getElem h]; simp [nthR, List.getD, h]
  rw [sizeTo, e, List.foldl_append]; rfl
theorem fault_end (rs : List (Int × List Int)) (k : Nat) (h : rs.length ≤ k) : fault rs k = (0, 0) := by
  rw [fault, show rs.length - k = 0 by omega]; rfl
theorem fault_step (rs : List (Int × List Int)) (k : Nat) (h : k < rs.length) : fault rs k = if 65535 ≤ (nthR rs k).2.length then (25, k) else if 1048576 < sizeTo rs (k + 1) then (4, k) else fault rs (k + 1) := by
  rw [fault, show rs.length - k = (rs.length - (k + 1)) + 1 by omega, faultF, if_pos h]; rfl

end Go.Proofs.YteafjokpkljfcaaGreat

/-
  What Size of the document's answer returns: how many words there are, or the error.
-/
namespace Go.Proofs.YteafjokpkljfcaaGreat
open Go.RowKit
set_option maxRecDepth 10000

/-- How many words there are; 0 beside an error. -/
def sizeOut (rs : List (Int × List Int)) : Int := if (fault rs 0).1 = 0 then (sizeTo rs rs.length : Int) else 0

/-- Without a fault all is small. -/
theorem fault_none (rs : List (Int × List Int)) (h : (fault rs 0).1 = 0) : ∀ k, k ≤ rs.length → sizeTo rs k ≤ 1048576 ∧ ∀ j, j < k → (nthR rs j).2.length < 65535 := by
  have key : ∀ k, k ≤ rs.length → fault rs 0 = fault rs k ∧ sizeTo rs k ≤ 1048576 ∧ ∀ j, j < k → (nthR rs j).2.length < 65535 := by
    intro k
    induction k with
    | zero => intro _; exact ⟨rfl, by rw [sizeTo_zero]; omega, fun j hj => by omega⟩
    | succ k ih =>
      intro hk
      obtain ⟨h1, h2, h3⟩ := ih (by omega)
      have hs := fault_step rs k (by omega)
      by_cases c1 : 65535 ≤ (nthR rs k).2.length
      · rw [if_pos c1] at hs; rw [h1, hs] at h; simp at h
      · rw [if_neg c1] at hs
        by_cases c2 : 1048576 < sizeTo rs (k + 1)
        · rw [if_pos c2] at hs; rw [h1, hs] at h; simp at h
        · rw [if_neg c2] at hs
          refine ⟨h1.trans hs, by omega, fun j hj => ?_⟩
          by_cases e : j = k
          · subst e; omega
          · exact h3 j (by omega)
  exact fun k hk => (key k hk).2

end Go.Proofs.YteafjokpkljfcaaGreat

/-
  What Places of the document's answer returns, of at most 1048576 words: the places of the instructions, in new memory.
-/
namespace Go.Proofs.YteafjokpkljfcaaGreat
open Go.RowKit
set_option maxRecDepth 10000

theorem RefPlaces.info : (Tryz.prog.info? 3).map (fun i => (i.zero, i.size, i.bytes)) = some (some (.int .i64 0), 1, 8) := by kernel_rfl

theorem own_shape {w : World} {B e n : Nat} {v : Value} {xs : List Value} (h : w.ownsRow B e 1 v n xs) : ∃ a c, v = .slice a n c := by
  rcases h.2 with ⟨rfl, rfl⟩ | ⟨g, c, cur, rfl, _⟩
  · exact ⟨none, 0, rfl⟩
  · exact ⟨_, c, rfl⟩

end Go.Proofs.YteafjokpkljfcaaGreat

/-
  What Read answers, as a function on lists: its error with its place, or the instructions; and the row of instructions in memory while it is built.
-/
namespace Go.Proofs.YteafjokpkljfcaaGreat
open Go.RowKit

/-- The first word of the head that lacks or is wrong, from place k on. -/
def headF (zs : List Int) : Nat → Nat → Int × Nat
  | 0, _ => (0, 0)
  | f + 1, k => if k < 5 then (if zs.length ≤ k then (14, k) else if wrongE k (nth zs k) ≠ 0 then (wrongE k (nth zs k), k) else headF zs f (k + 1)) else (0, 0)
def headE (zs : List Int) (k : Nat) : Int × Nat := headF zs (5 - k) k
theorem headE_end (zs : List Int) : headE zs 5 = (0, 0) := rfl
theorem headE_step (zs : List Int) (k : Nat) (h : k < 5) : headE zs k = if zs.length ≤ k then (14, k) else if wrongE k (nth zs k) ≠ 0 then (wrongE k (nth zs k), k) else headE zs (k + 1) := by
  rw [headE, show 5 - k = (5 - (k + 1)) + 1 by omega, headF, if_pos h]; rfl

/-- The error of Read, and its place. -/
def readE (zs : List Int) : Int × Nat :=
  if 1048576 < zs.length then (4, 1048576) else if (headE zs 0).1 ≠ 0 then headE zs 0 else if stop zs 5 < zs.length then (25, stop zs 5) else (0, 0)
/-- The instruction at a place. -/
def rawAt (zs : List Int) (p : Nat) : Int × List Int := (opI zs p, midL zs (p + 1) (cntN zs p - 1))
/-- The instructions. -/
def readR (zs : List Int) : List (Int × List Int) := (rest zs 5).map (rawAt zs)

/-- The cells of a row of instructions: each operation, and each list of words, which lies in another block than the row. -/
structure RowR (w : World) (lo : Nat) (ob : Option Nat) (rs : List (Int × List Int)) (cs : List Value) : Prop where
  len : cs.length = rs.length * 2
  each : ∀ j, j < rs.length → ∃ aj cj nj, cs[j * 2]? = some (.int .u16 (nthR rs j).1) ∧ cs[j * 2 + 1]? = some (.slice aj nj cj) ∧ (nthR rs j).2.length = nj ∧ View .u32 w aj (nthR rs j).2 ∧ nj ≤ cj ∧ ∀ b off s, aj = some ⟨b, off, s⟩ → ob ≠ some b ∧ b < w.heap.size ∧ lo ≤ b

theorem rowR_nil {w : World} {lo : Nat} {ob : Option Nat} : RowR w lo ob [] [] := ⟨rfl, fun j hj => by simp at hj⟩

theorem RowR.view {w : World} {B T g n cap lo : Nat} {rs : List (Int × List Int)} {cs : List Value} {ob : Option Nat} (h : RowR w lo ob rs cs) (hown : w.ownsRow B T 2 (.slice (some ⟨g, 0, none⟩) n cap) n cs) (hl : rs.length = n) : RawsV w (some ⟨g, 0, none⟩) rs := by
  intro j hj
  obtain ⟨aj, cj, nj, h1, h2, h3, h4, h5, _⟩ := h.each j hj
  have c1 := hown.cellAt (j * 2) (by omega)
  have c2 := hown.cellAt (j * 2 + 1) (by omega)
  rw [h1] at c1
  rw [h2] at c2
  exact ⟨g, 0, aj, cj, nj, rfl, World.block_lt_of_cell? _ _ c1, by rw [Nat.zero_add]; exact c1, by rw [Nat.zero_add]; exact c2, h3, h4, h5⟩

theorem RowR.viewAny {w : World} {B T n cap lo : Nat} {a : Option Addr} {rs : List (Int × List Int)} {cs : List Value} {ob : Option Nat} (h : RowR w lo ob rs cs) (hown : w.ownsRow B T 2 (.slice a n cap) n cs) (hl : rs.length = n) : RawsV w a rs := by
  rcases hown.2 with ⟨_, hn⟩ | ⟨g, cap', cur, hv, _⟩
  · have : rs = [] := List.eq_nil_of_length_eq_zero (by omega)
    subst this; exact fun j hj => by simp at hj
  · cases hv; exact h.view hown hl

/-- What is written in the row alone leaves the words as they were. -/
theorem view_grown {k : IntKind} {w w' : World} {a : Option Addr} {zs : List Int} {ob : Option Nat} (h : View k w a zs) (hg : w.grownBy w' ob) (hne : ∀ b off s, a = some ⟨b, off, s⟩ → ob ≠ some b) : View k w' a zs := by
  intro j hj
  obtain ⟨b, off, e, hlt, hc⟩ := h j hj
  refine ⟨b, off, e, Nat.lt_of_lt_of_le hlt hg.size, ?_⟩
  rw [← hc]
  exact World.cell?_of_block (w := w) (hg.block b hlt (fun e' => hne b off none e e'.symm))

theorem RowR.below {w w' : World} {lo : Nat} {ob : Option Nat} {rs : List (Int × List Int)} {cs : List Value} (h : RowR w lo ob rs cs) (hb : Below w.heap.size w w') : RowR w' lo ob rs cs := by
  refine ⟨h.len, fun j hj => ?_⟩
  obtain ⟨aj, cj, nj, h1, h2, h3, h4, h5, h6⟩ := h.each j hj
  exact ⟨aj, cj, nj, h1, h2, h3, h4.below hb, h5, fun b off s e => ⟨(h6 b off s e).1, Nat.lt_of_lt_of_le (h6 b off s e).2.1 hb.size, (h6 b off s e).2.2⟩⟩

theorem RowR.setCell {w : World} {lo : Nat} {ob : Option Nat} {rs : List (Int × List Int)} {cs : List Value} (h : RowR w lo ob rs cs) {g j : Nat} (hg : g < lo) (u : Value) : RowR (w.setCell ⟨g, j, none⟩ u) lo ob rs cs := by
  refine ⟨h.len, fun i hi => ?_⟩
  obtain ⟨aj, cj, nj, h1, h2, h3, h4, h5, h6⟩ := h.each i hi
  exact ⟨aj, cj, nj, h1, h2, h3, h4.setCell (fun b off s e => (h6 b off s e).2.2) hg u, h5, fun b off s e => ⟨(h6 b off s e).1, by have := (h6 b off s e).2.1; simpa [World.setCell] using this, (h6 b off s e).2.2⟩⟩

theorem nthR_lo (rs : List (Int × List Int)) (r : Int × List Int) (j : Nat) (h : j < rs.length) : nthR (rs ++ [r]) j = nthR rs j := by
  simp [nthR, List.getD, List.getElem?_append_left h]
theorem nthR_hi (rs : List (Int × List Int)) (r : Int × List Int) : nthR (rs ++ [r]) rs.length = r := by
  simp [nthR, List.getD]

/-- An instruction more. -/
theorem RowR.push {w w' : World} {v : Value} {g' H lo : Nat} {rs : List (Int × List Int)} {cs : List Value} {r : Int × List Int} {a : Option Addr} {n c : Nat}
    (h : RowR w lo v.ownBlock rs cs) (hv : View .u32 w a r.2) (hl : r.2.length = n) (hc : n ≤ c) (ha : ∀ b off s, a = some ⟨b, off, s⟩ → v.ownBlock ≠ some b ∧ b < H ∧ lo ≤ b) (hH : w.heap.size = H)
    (hg : w.grownBy w' v.ownBlock) (hat : v.ownBlock = some g' ∨ g' = H) : RowR w' lo (some g') (rs ++ [r]) (cs ++ [.int .u16 r.1, .slice a n c]) := by
  have key : ∀ b, v.ownBlock ≠ some b → b < H → lo ≤ b → (some g' ≠ some b ∧ b < w'.heap.size ∧ lo ≤ b) := fun b h1 h2 h0 => by
    refine ⟨fun e => ?_, by have := hg.size; omega, h0⟩
    cases e
    rcases hat with h3 | h3
    · exact h1 h3
    · omega
  refine ⟨by simp [h.len]; omega, fun j hj => ?_⟩
  rw [List.length_append, List.length_singleton] at hj
  by_cases hjl : j < rs.length
  · obtain ⟨aj, cj, nj, h1, h2, h3, h4, h5, h6⟩ := h.each j hjl
    rw [nthR_lo _ _ _ hjl]
    have hcl := h.len
    exact ⟨aj, cj, nj, by rw [List.getElem?_append_left (by omega)]; exact h1, by rw [List.getElem?_append_left (by omega)]; exact h2, h3, view_grown h4 hg (fun b off s e => (h6 b off s e).1), h5,
      fun b off s e => key b (h6 b off s e).1 (by have := (h6 b off s e).2.1; omega) (h6 b off s e).2.2⟩
  · obtain rfl : j = rs.length := by omega
    rw [nthR_hi]
    have hcl := h.len
    refine ⟨a, c, n, ?_, ?_, hl, view_grown hv hg (fun b off s e => (ha b off s e).1), hc, fun b off s e => key b (ha b off s e).1 (ha b off s e).2.1 (ha b off s e).2.2⟩
    · rw [List.getElem?_append_right (by omega), show rs.length * 2 - cs.length = 0 by omega]; rfl
    · rw [List.getElem?_append_right (by omega), show rs.length * 2 + 1 - cs.length = 1 by omega]; rfl

end Go.Proofs.YteafjokpkljfcaaGreat
