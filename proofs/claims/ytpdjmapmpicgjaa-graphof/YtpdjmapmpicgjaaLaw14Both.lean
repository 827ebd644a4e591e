/-
  What both graphs answer of the same list of edges, in one form; what the program's walk tells, of a graph or of none.
-/
import Derived.RangeFuncNested
import Derived.RangeFuncBound
import Derived.RangeFuncCalls
import Derived.RangeFuncLeaves
import Derived.Shelf.Abstract
import Derived.Shelf.RegionOpen
import Derived.WalkKit
import Derived.OwnWalkIn
import Derived.TacticsInMore
import Derived.LoopNIn
import Derived.LoopIn
import Derived.WalkSpells
import Derived.Test.YtpdjmapmpicgjaaProg
import Derived.Test.YtpdjmapmpicgjaaBoxes
import Derived.Test.YtpdjmapmpicgjaaGraphValues
import Derived.Test.YtpdjmapmpicgjaaGraphAsks
import Derived.Test.YtpdjmapmpicgjaaRef14Asks
namespace Go.Proofs.Ytpdjmapmpicgjaa
open Go.RowKit Go.Shelf
attribute [local go_sem] Oper.semAt_some
set_option linter.unusedVariables false
set_option linter.unusedSimpArgs false
set_option maxRecDepth 10000

/-- What Of says of edges. -/
def OfE (N : List (List Int)) (er : Int) : Prop := (N.length = 0 ∧ er = 2) ∨ (4096 < N.length ∧ er = 4) ∨ (0 < N.length ∧ N.length ≤ 4096 ∧ ¬ Edges N.length N ∧ er = 141) ∨ (0 < N.length ∧ N.length ≤ 4096 ∧ Edges N.length N ∧ er = 0)
theorem ofE_uniq {N : List (List Int)} {a b : Int} (h : OfE N a) (k : OfE N b) : a = b := by
  rcases h with ⟨h1, rfl⟩ | ⟨h1, rfl⟩ | ⟨h1, h2, h3, rfl⟩ | ⟨h1, h2, h3, rfl⟩ <;> rcases k with ⟨k1, rfl⟩ | ⟨k1, rfl⟩ | ⟨k1, k2, k3, rfl⟩ | ⟨k1, k2, k3, rfl⟩ <;> first | rfl | omega | exact absurd k3 h3 | exact absurd h3 k3
theorem ofE_zero {N : List (List Int)} {er : Int} (h : OfE N er) (e : er = 0) : 0 < N.length ∧ N.length ≤ 4096 ∧ Edges N.length N := by
  rcases h with ⟨h1, rfl⟩ | ⟨h1, rfl⟩ | ⟨h1, h2, h3, rfl⟩ | ⟨h1, h2, h3, rfl⟩
  · cases e
  · cases e
  · cases e
  · exact ⟨h1, h2, h3⟩
theorem made_edges {N : List (List Int)} (hE : Edges N.length N) : Edges (N.map onceF).length (N.map onceF) ∧ ∀ j, (rowN (N.map onceF) j).Nodup := by
  have hrow : ∀ j, rowN (N.map onceF) j = onceF (rowN N j) := fun j => by
    by_cases hj : j < N.length
    · exact rowN_map N onceF j hj
    · rw [rowN_out _ _ (by rw [List.length_map]; omega), rowN_out _ _ (by omega)]; rfl
  refine ⟨fun j x hx => ?_, fun j => by rw [hrow]; exact once_nodup _⟩
  rw [hrow, once_mem] at hx
  rw [List.length_map]
  exact hE j x hx

theorem rfQ_open {w w' : World} {e : Ending} {N : List (List Int)} (h : RfQ w w' e N) : ∃ wp er, e = .returned (.tuple #[.pointer wp, .int .i64 er]) ∧ OfE N er ∧ Below w.heap.size w w' ∧ (er = 0 → ∃ p, wp = some ⟨p, 0, none⟩ ∧ RfG w' p w.heap.size (N.map onceF)) ∧ (er ≠ 0 → wp = none) := by
  rcases h with ⟨h1, rfl, hb⟩ | ⟨h1, rfl, hb⟩ | ⟨h1, h2, h3, rfl, hb⟩ | ⟨h1, h2, h3, p, rfl, hR, hp, hb⟩
  · exact ⟨none, 2, rfl, .inl ⟨h1, rfl⟩, hb, (fun e => by cases e), fun _ => rfl⟩
  · exact ⟨none, 4, rfl, .inr (.inl ⟨h1, rfl⟩), hb, (fun e => by cases e), fun _ => rfl⟩
  · exact ⟨none, 141, rfl, .inr (.inr (.inl ⟨h1, h2, h3, rfl⟩)), hb, (fun e => by cases e), fun _ => rfl⟩
  · refine ⟨some ⟨p, 0, none⟩, 0, rfl, .inr (.inr (.inr ⟨h1, h2, h3, rfl⟩)), hb, fun _ => ⟨p, rfl, hR, (made_edges h3).1, by rw [List.length_map]; exact h2, by rw [List.length_map]; exact h1, (made_edges h3).2⟩, fun e => absurd rfl e⟩
theorem ofQ_open {w w' : World} {e : Ending} {N : List (List Int)} (h : OfQ w w' e N) : ∃ gp er, e = .returned (.tuple #[.pointer gp, .int .i64 er]) ∧ OfE N er ∧ Below w.heap.size w w' ∧ (er = 0 → ∃ p, gp = some ⟨p, 0, none⟩ ∧ GrV w' w.heap.size p (N.map onceF)) ∧ (er ≠ 0 → gp = none) := by
  rcases h with ⟨h1, rfl, hb⟩ | ⟨h1, rfl, hb⟩ | ⟨h1, h2, h3, rfl, hb⟩ | ⟨h1, h2, h3, p, rfl, hR, hb⟩
  · exact ⟨none, 2, rfl, .inl ⟨h1, rfl⟩, hb, (fun e => by cases e), fun _ => rfl⟩
  · exact ⟨none, 4, rfl, .inr (.inl ⟨h1, rfl⟩), hb, (fun e => by cases e), fun _ => rfl⟩
  · exact ⟨none, 141, rfl, .inr (.inr (.inl ⟨h1, h2, h3, rfl⟩)), hb, (fun e => by cases e), fun _ => rfl⟩
  · exact ⟨some ⟨p, 0, none⟩, 0, rfl, .inr (.inr (.inr ⟨h1, h2, h3, rfl⟩)), hb, fun _ => ⟨p, rfl, hR⟩, fun e => absurd rfl e⟩

/-- The nodes that are reached, in the walk's order. -/
def zsF (N : List (List Int)) (er : Int) : List Int := if er = 0 then (walkF (N.map onceF)).1 else []
theorem zsF_len {N : List (List Int)} {er : Int} (h : OfE N er) : (zsF N er).length ≤ 4096 := by
  unfold zsF
  split
  · rename_i e
    obtain ⟨h1, h2, h3⟩ := ofE_zero h e
    have := (walkF_all _ (made_edges h3).1 (by rw [List.length_map]; exact h1)).good.len
    rw [List.length_map] at this
    omega
  · simp

set_option maxHeartbeats 2000000 in
theorem refWalk14_nil (w : World) : Calls Try.prog 15 #[.pointer none] w fun e w' => AnsI w w' e [] := by
  have hL := refLen14_nil (w.alloc (.cells #[.slice none 0 0, .slice none 0 0] 64))
  have hb : Below w.heap.size w (w.alloc (.cells #[.slice none 0 0, .slice none 0 0] 64)) := (Below.refl _ _).alloc (Nat.le_refl _) _
  have HB := hide hb
  obtain ⟨c0, _⟩ := twoCells (allocNew w (.cells #[.slice none 0 0, .slice none 0 0] 64) rfl)
  clear hb
  go_enter Try.func15, Try.ntmps15
  go_wp2_with fail
  refine hL.mono ?_
  rintro e w1 ⟨rfl, rfl⟩
  clear hL
  go_wp2_with fail
  go_ret
  exact ⟨_, rfl, World.ownsRow_nil _ _ _ _, HB.out⟩

theorem walkE_tells (n₀ : Nat) (τ : TypeId → Prop) (w : World) : Tells Try.prog 39 #[] intV1 (fun pre x _ => pre ++ [x] <+: []) n₀ τ (fun xs => xs = []) (fun pre => pre <+: []) w := by
  rintro l J Jx W hb hJ hJx hy h0
  refine callsIn_of_wp_marks Try.func39 rfl trivial ?_ rfl
  simp only [Try.ntmps39, List.size_toArray, List.length_cons, List.length_nil, Nat.reduceAdd, Nat.reduceSub, Array.replicate_succ, Array.replicate_zero, List.push_toArray, List.append_toArray, List.nil_append, List.cons_append]
  gi_wp2_with fail
  exact ⟨.tuple #[], by simp [results, Try.results39, go_sem], ⟨_, rfl⟩, .inl h0⟩
theorem graphWalkE_any (w : World) : Calls Try.prog 16 #[.pointer none] w fun e w' => e = .returned (.func (.func 39) #[] #[]) ∧ w = w' := by
  go_enter Try.func16, Try.ntmps16
  go_wp2
  go_ret
  exact ⟨rfl, rfl⟩

/-- What is asked of a function that is gone over. -/
structure Seq1 (w6 : World) (gf : Nat) (lb : Array Value) (zs : List Int) : Prop where
  enters : ∀ args w, (callFunc gf args).run Try.prog w = .ok (.enter gf args) w
  notNil : ∀ w : World, (binOp .eql 39 (.func (.func gf) #[] lb) .nilFunc).run Try.prog w = .ok (.bool false) w
  tells : ∀ W n₀, n₀ ≤ W.heap.size → w6.heap.size ≤ n₀ → Below w6.heap.size w6 W → Tells Try.prog gf lb intV1 (fun pre x _ => pre ++ [x] <+: zs) n₀ (fun _ => False) (fun xs => xs = zs) (fun pre => pre <+: zs) W

theorem both_walk (w3 w5 : World) (lo : Nat) (N : List (List Int)) (gp : Option Addr) (er : Int) (hE : OfE N er) (hg : er = 0 → ∃ p, gp = some ⟨p, 0, none⟩ ∧ GrV w3 lo p (N.map onceF)) (hn : er ≠ 0 → gp = none) (hb : Below w3.heap.size w3 w5) :
    Calls Try.prog 16 #[.pointer gp] w5 fun e w6 => ∃ gf lb, e = .returned (.func (.func gf) #[] lb) ∧ Below w5.heap.size w5 w6 ∧ Seq1 w6 gf lb (zsF N er) := by
  have hlen := zsF_len hE
  by_cases e : er = 0
  · obtain ⟨p, rfl, hG⟩ := hg e
    have hz : zsF N er = (walkF (N.map onceF)).1 := if_pos e
    rw [hz] at hlen
    refine (graphIter_any w3 w5 lo p _ hG hb).mono ?_
    rintro e6 w6 ⟨a, c, rfl, hB, hv, hs, hb6⟩
    refine ⟨_, _, rfl, hb6, enters_of Try.func54 (by kernel_rfl) rfl, fun w => by kernel_rfl, fun W n₀ h1 h2 hbW => ?_⟩
    rw [hz]
    have hlt : w5.heap.size < w6.heap.size := (Array.getElem?_eq_some_iff.1 hB).1
    have hbx := (hbW.block _ hlt).trans hB
    have h36 : Below w3.heap.size w3 w6 := hb.trans (hb6.mono hb.size)
    have h3W : Below w3.heap.size w3 W := h36.trans (hbW.mono h36.size)
    exact values_tells a _ c _ n₀ _ W _ hbx rfl (by omega) h1 (fun X hX => hv.below (h3W.trans (hX.mono (by have := h36.size; omega))))
  · have hz : zsF N er = [] := if_neg e
    rw [hn e, hz]
    refine (graphWalkE_any w5).mono ?_
    rintro e6 w6 ⟨rfl, rfl⟩
    exact ⟨_, _, rfl, Below.refl _ _, enters_of Try.func39 (by kernel_rfl) rfl, fun w => by kernel_rfl, fun W n₀ h1 h2 hbW => walkE_tells _ _ _⟩
theorem both_refWalk (w1 w3 : World) (lo : Nat) (N : List (List Int)) (wp : Option Addr) (er : Int) (hE : OfE N er) (hg : er = 0 → ∃ p, wp = some ⟨p, 0, none⟩ ∧ RfG w1 p lo (N.map onceF)) (hn : er ≠ 0 → wp = none) (hb : Below w1.heap.size w1 w3) :
    Calls Try.prog 15 #[.pointer wp] w3 fun e w4 => AnsI w3 w4 e (zsF N er) := by
  by_cases e : er = 0
  · obtain ⟨p, rfl, hG⟩ := hg e
    have hz : zsF N er = (walkF (N.map onceF)).1 := if_pos e
    rw [hz]
    exact refWalk14_any w3 p lo _ (hG.below hb)
  · have hz : zsF N er = [] := if_neg e
    rw [hn e, hz]
    exact refWalk14_nil w3

end Go.Proofs.Ytpdjmapmpicgjaa
