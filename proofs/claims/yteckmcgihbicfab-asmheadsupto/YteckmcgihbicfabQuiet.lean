/-
  A region that draws its order, whose operations read and call: in every world of a class each yields the same, and leaves a world of the class. One walk in the order of the text serves every order.
-/
import Derived.Deep.QuietTactic
import Derived.BigQuiet
import Derived.Test.YteckmcgihbicfabMath3
namespace Go.Proofs.Yteckmcgihbicfab
open Go.RowKit

/-- A world of a class. -/
structure InC (C : World → Prop) where
  w : World
  ok : C w

theorem wp_region_class {P : Program} {C : World → Prop} {id : Nat} {Q : Exit → Act → World → Prop} {a : Act} {w : World} {l : List Oper} (hm : P.follows .mixedOrders = true) (hB : Region.lexB .any l.toArray = true) (hC : C w.drew)
    (h : wpQuiet P l.toArray (fun w' => ∃ s : InC C, w' = s.w) (fun a' => ∀ w', (∃ s : InC C, w' = s.w) → Q .normal a' w') l a) : (Code.region id l.toArray true).wp P Q a w :=
  wp_region_quiet (C := fun w' => ∃ s : InC C, w' = s.w) hm hB ⟨⟨_, hC⟩, rfl⟩ (by simpa using h)

theorem InC.cell {W : World} (s : InC (Below W.heap.size W)) {p : Addr} {v : Value} (hp : p.block < W.heap.size) (h : W.cell? p = some v) : s.w.cell? p = some v := (s.ok.cell hp).trans h
theorem InC.frozen {W : World} (s : InC (Below W.heap.size W)) {p : Addr} {v : Bool} (hp : p.block < W.heap.size) (h : W.frozen? p = v) : s.w.frozen? p = v := (s.ok.frozen hp).trans h
theorem below_drew (W : World) : Below W.heap.size W W.drew := (Below.refl _ W).drew

/-- A call that lays new things alone, met in the class. -/
theorem Calls.inC {P : Program} {f : FuncId} {args : Array Value} {W : World} {v : Value} (s : InC (Below W.heap.size W)) (h : Calls P f args s.w fun e w' => e = .returned v ∧ Below s.w.heap.size s.w w') :
    Calls P f args s.w fun e w'' => e = .returned v ∧ ∃ s' : InC (Below W.heap.size W), w'' = s'.w :=
  h.mono fun _ w' ⟨he, hb⟩ => ⟨he, ⟨w', s.ok.trans (hb.mono s.ok.size)⟩, rfl⟩
theorem Calls.inC_same {P : Program} {f : FuncId} {args : Array Value} {W : World} {v : Value} (s : InC (Below W.heap.size W)) (h : Calls P f args s.w fun e w' => e = .returned v ∧ s.w = w') :
    Calls P f args s.w fun e w'' => e = .returned v ∧ ∃ s' : InC (Below W.heap.size W), w'' = s'.w :=
  h.mono fun _ _ ⟨he, hb⟩ => ⟨he, s, hb.symm⟩
theorem Calls.inC_drew {P : Program} {f : FuncId} {args : Array Value} {W : World} {v : Value} (s : InC (Below W.heap.size W)) (h : Calls P f args s.w fun e w' => e = .returned v ∧ ∃ q, w' = s.w.drewN q) :
    Calls P f args s.w fun e w'' => e = .returned v ∧ ∃ s' : InC (Below W.heap.size W), w'' = s'.w :=
  h.mono fun _ w' ⟨he, q, hq⟩ => ⟨he, ⟨w', by rw [hq]; exact bel_drewN s.ok q⟩, rfl⟩

end Go.Proofs.Yteckmcgihbicfab
