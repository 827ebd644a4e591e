/-
  A long function cut at one of its regions: what holds there, and the rest by itself.
-/
import Derived.WalkKit
import Derived.WalkMore
namespace Go.Proofs.Ytpdjmapmpicgjaa
open Go

/-- The first region of a piece of code. -/
def headR : Code → Nat
  | .region k _ _ => k
  | .seq a _ => headR a
  | _ => 99999
/-- The code from a region on. -/
def dropR (n : Nat) : Code → Code
  | .seq a b => match headR a == n with
    | true => .seq a b
    | false => dropR n b
  | c => c
/-- The code ahead of a region, which ends in J. -/
def cutWp (P : Program) (n : Nat) (J : Act → World → Prop) (Q : Exit → Act → World → Prop) : Code → Act → World → Prop
  | .seq a b, x, w => match headR a == n with
    | true => J x w
    | false => a.wp P (Exit.then (cutWp P n J Q b) Q) x w
  | c, x, w => c.wp P Q x w

theorem wp_cut {P : Program} (n : Nat) {J : Act → World → Prop} {Q : Exit → Act → World → Prop} : ∀ (c : Code) (x : Act) (w : World), cutWp P n J Q c x w → (∀ x w, J x w → (dropR n c).wp P Q x w) → c.wp P Q x w
  | .seq a b, x, w, h, hJ => by
    unfold cutWp at h
    unfold dropR at hJ
    cases e : headR a == n with
    | true => rw [e] at h hJ; exact hJ _ _ h
    | false =>
      rw [e] at h hJ
      refine wp_seq (wp_mono h fun e a' w' hq => ?_)
      cases e with
      | normal => exact wp_cut n b a' w' hq hJ
      | _ => exact hq
  | .skip, _, _, h, _ => h
  | .region .., _, _, h, _ => h
  | .cond .., _, _, h, _ => h
  | .block .., _, _, h, _ => h
  | .loop .., _, _, h, _ => h
  | .rangeFunc .., _, _, h, _ => h
  | .exit .., _, _, h, _ => h
  | .scope .., _, _, h, _ => h
  | .label .., _, _, h, _ => h
  | .goto .., _, _, h, _ => h
  | .ret, _, _, h, _ => h
  | .refuse .., _, _, h, _ => h
theorem cut_step {P : Program} {n : Nat} {J : Act → World → Prop} {Q : Exit → Act → World → Prop} {a b : Code} {x : Act} {w : World} (hn : (headR a == n) = false) (h : ∀ K : Act → World → Prop, (∀ x w, cutWp P n J Q b x w → K x w) → a.wp P (Exit.then K Q) x w) : cutWp P n J Q (.seq a b) x w := by
  unfold cutWp
  rw [hn]
  exact h _ fun _ _ h => h
theorem cut_done {P : Program} {n : Nat} {J : Act → World → Prop} {Q : Exit → Act → World → Prop} {a b : Code} {x : Act} {w : World} (hn : (headR a == n) = true) (h : J x w) : cutWp P n J Q (.seq a b) x w := by
  unfold cutWp
  rw [hn]
  exact h
theorem then_normal {K : Act → World → Prop} {Q : Exit → Act → World → Prop} {x : Act} {w : World} : Exit.then K Q .normal x w = K x w := rfl
theorem then_ret {K : Act → World → Prop} {Q : Exit → Act → World → Prop} {x : Act} {w : World} : Exit.then K Q .ret x w = Q .ret x w := rfl

end Go.Proofs.Ytpdjmapmpicgjaa
