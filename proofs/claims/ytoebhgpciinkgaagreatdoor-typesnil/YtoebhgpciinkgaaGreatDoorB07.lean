/-
  Texts in one: Jumps.
-/
import Derived.WalkKit
import Derived.WalkMore
import Derived.ScopeJumps
namespace Go.Proofs.YtoebhgpciinkgaaGreatDoor
open Go
def jumps (J:Nat→Act→World→Prop) (Q:Exit→Act→World→Prop):Exit→Act→World→Prop
 | .goto l,a,w=>J l a w
 | e,a,w=>Q e a w
section
variable {Q : Exit → Act → World → Prop} {J : Nat → Act → World → Prop} {a : Act} {w : World}
theorem jumps_normal:jumps J Q .normal a w=Q .normal a w:=rfl
theorem jumps_exit (id:Nat):jumps J Q (.exit id) a w=Q (.exit id) a w:=rfl
theorem jumps_ret:jumps J Q .ret a w=Q .ret a w:=rfl
theorem jumps_panic (ch:List PanicEntry):jumps J Q (.panic ch) a w=Q (.panic ch) a w:=rfl
theorem jumps_goto (l:Nat):jumps J Q (.goto l) a w=J l a w:=rfl
end

theorem wp_scope_many {P:Program} {a:Act} {w:World} {Q:Exit→Act→World→Prop} {c:Code} (rest:Nat→Code) (J:Nat→Act→World→Prop) (μ:Nat→Act→World→Nat) (hf:∀ l a w,J l a w→findLabel c l=some (rest l))
  (first:c.wp P (jumps J Q) a w)
  (pass:∀ l a w,J l a w→(rest l).wp P (jumps (fun l' a' w'=>J l' a' w'∧μ l' a' w'<μ l a w) Q) a w):(Code.scope c).wp P Q a w:=by
 intro b k cs
 have hg:∀ l a w,J l a w→gotoIn l (.inScope c :: k)=some (.code (rest l) :: .inScope c :: k):=fun l a w h=>by simp [gotoIn,hf l a w h]
 have key:∀ n l a w,μ l a w=n→J l a w→∃ e a' w',Q e a' w'∧Arrives P (lone (b.at a (.code (rest l) :: .inScope c :: k)) cs w) b k cs e a' w':=by
  intro n
  induction n using Nat.strongRecOn with
  | _ n ih =>
   intro l a w hn hJ
   obtain⟨e,a₁,w₁,hq,harr⟩:=pass l a w hJ b (.inScope c :: k) cs
   cases e with
   | normal=>exact⟨.normal,a₁,w₁,hq,Steps.trans harr (.one step_inScope)⟩
   | exit id=>exact⟨.exit id,a₁,w₁,hq,fun k' hk=>harr k' (by simp [exitTo,hk])⟩
   | goto l' =>
    obtain⟨hJ',hlt⟩:=hq
    obtain⟨e₂,a₂,w₂,hq₂,harr₂⟩:=ih _ (by omega) l' a₁ w₁ rfl hJ'
    exact⟨e₂,a₂,w₂,hq₂,.of_steps (harr _ (hg l' _ _ hJ')) harr₂⟩
   | ret=>exact⟨_,a₁,w₁,hq,harr⟩
   | panic ch=>exact⟨_,a₁,w₁,hq,harr⟩
   | outgrown=>exact⟨_,a₁,w₁,hq,harr⟩
 obtain⟨e,a₁,w₁,hq,harr⟩:=first b (.inScope c :: k) cs
 cases e with
 | normal=>exact⟨.normal,a₁,w₁,hq,.head step_scope (Steps.trans harr (.one step_inScope))⟩
 | exit id=>exact⟨.exit id,a₁,w₁,hq,fun k' hk=>.head step_scope (harr k' (by simp [exitTo,hk]))⟩
 | goto l' =>
  obtain⟨e₂,a₂,w₂,hq₂,harr₂⟩:=key _ l' a₁ w₁ rfl hq
  exact⟨e₂,a₂,w₂,hq₂,.of_steps (.head step_scope (harr _ (hg l' _ _ hq))) harr₂⟩
 | ret=>exact⟨_,a₁,w₁,hq,.of_steps (.one step_scope) harr⟩
 | panic ch=>exact⟨_,a₁,w₁,hq,.of_steps (.one step_scope) harr⟩
 | outgrown=>exact⟨_,a₁,w₁,hq,.of_steps (.one step_scope) harr⟩
def behind:Option Code→Code
 | some (.seq .skip x)=>x
 | _=>.skip
theorem wp_scope_ranked {P:Program} {a:Act} {w:World} {Q:Exit→Act→World→Prop} {c:Code} (J:Nat→Act→World→Prop) (μ:Nat→Act→World→Nat) (ord:Nat→Nat)
  (hf:∀ l a w,J l a w→findLabel c l=some (.seq .skip (behind (findLabel c l))))
  (pass:∀ l,(∀ l',ord l'<ord l→∀ N a w,J l' a w→μ l' a w≤N→(behind (findLabel c l')).wp P (jumps (fun l' a' w'=>J l' a' w'∧μ l' a' w'<N) Q) a w) →
   ∀ N a w,J l a w→μ l a w≤N→(behind (findLabel c l)).wp P (jumps (fun l' a' w'=>J l' a' w'∧μ l' a' w'<N) Q) a w)
  (first:(∀ l a w,J l a w→(behind (findLabel c l)).wp P (jumps J Q) a w)→c.wp P (jumps J Q) a w):(Code.scope c).wp P Q a w:=by
 have all:∀ n l,ord l=n→∀ N a w,J l a w→μ l a w≤N→(behind (findLabel c l)).wp P (jumps (fun l' a' w'=>J l' a' w'∧μ l' a' w'<N) Q) a w:=by
  intro n
  induction n using Nat.strongRecOn with
  | _ n ih =>
   intro l hl
   exact pass l fun l' hlt=>ih (ord l') (by omega) l' rfl
 refine wp_scope_many (fun l=>.seq .skip (behind (findLabel c l))) J μ hf (first fun l a w h=>?_) (fun l a w h=>wp_seq (wp_skip (all _ l rfl _ a w h (Nat.le_refl _))))
 refine wp_mono (all _ l rfl _ a w h (Nat.le_refl _)) fun e a' w' hq=>?_
 cases e with
 | goto l'=>exact hq.1
 | normal=>exact hq
 | exit id=>exact hq
 | ret=>exact hq
 | panic ch=>exact hq
 | outgrown=>exact hq
end Go.Proofs.YtoebhgpciinkgaaGreatDoor
