/-
  What Arity of arith answers, for all operations.
-/
import Derived.WalkSpells
import Derived.WalkMore
import Derived.Test.YtbhoimeneekdfaaArithUnary
import Derived.Test.YtbhoimeneekdfaaArithPair
import Derived.Test.YtbhoimeneekdfaaGrammarOf
namespace Go.Proofs.Ytbhoimeneekdfaa
open Go.RowKit
set_option linter.unusedVariables false
set_option linter.unusedSimpArgs false
set_option maxRecDepth 10000

/-- How many words an operation takes. -/
def arV (op : Int) : Int := if unB op = true ∨ op = 154 ∨ op = 155 then 1 else if binB op = true ∨ prB op = true then 2 else if op = 169 ∨ op = 202 ∨ op = 203 then 3 else if op = 201 then 4 else 0
theorem lookF_no : ∀ (l : List (Int × Frm)) (n : Int), (lookF l n).2 = false → (lookF l n).1 = noFrm
  | [], n, _ => rfl
  | (k, s) :: l, n, h => by
    unfold lookF at h ⊢
    split at h
    · cases h
    · rename_i hk
      rw [if_neg hk]
      exact lookF_no l n h
theorem of_form (op : Int) : ∃ n f, ofV op = formV n f ∧ f = (lookF refT op).1 := by
  unfold ofV
  cases h : (lookF refT op).2
  · exact ⟨0, noFrm, rfl, (lookF_no _ _ h).symm⟩
  · exact ⟨op, _, rfl, rfl⟩
theorem arity_table : ((List.range 82).all fun i => (((lookF refT (124 + (i : Int))).1.2.2.2.1.size : Nat) : Int) == arV (124 + (i : Int))) = true := by decide +kernel
theorem arity_83 : (((lookF refT 83).1.2.2.2.1.size : Nat) : Int) = arV 83 := by decide +kernel
theorem arity_in (op : Int) (h : op = 83 ∨ (124 ≤ op ∧ op ≤ 205)) : (((lookF refT op).1.2.2.2.1.size : Nat) : Int) = arV op := by
  rcases h with rfl | h
  · exact arity_83
  · obtain ⟨i, hi⟩ : ∃ i : Nat, op = 124 + (i : Int) := ⟨(op - 124).toNat, by omega⟩
    have := List.all_eq_true.1 arity_table i (by simp; omega)
    rw [hi]
    simpa using this
theorem arity_out (op : Int) (h1 : op ≠ 83) (h2 : ¬ (124 ≤ op ∧ op ≤ 205)) : arV op = 0 := by
  have hu : unB op = false := by simp [unB]; omega
  have hb : binB op = false := by
    unfold binB
    rw [Bool.eq_false_iff]
    intro e
    have hm : op ∈ binOps := by simpa using e
    simp only [binOps, List.mem_cons, List.not_mem_nil, or_false] at hm
    omega
  have hp : prB op = false := by simp [prB]; omega
  unfold arV
  rw [hu, hb, hp]
  simp
  omega

set_option maxHeartbeats 2000000 in
theorem arity_any (op : Int) (w : World) : Calls Try.prog 8 #[.int .u16 op] w fun e w' => e = .returned (.int .i64 (arV op)) ∧ Below w.heap.size w w' := by
  have hW := fun w => within_any op 124 205 w
  by_cases h : op = 83 ∨ (124 ≤ op ∧ op ≤ 205)
  · have hA := arity_in op h
    obtain ⟨n, f, hf, rfl⟩ := of_form op
    have hO := of_any op w
    rw [hf] at hO
    clear hf
    have hs : ((lookF refT op).1.2.2.2.1.size : Int) = arV op := hA
    generalize (lookF refT op).2 = B at *
    generalize (lookF refT op).1 = f at *
    obtain ⟨f1, f2, f3, f4, f5, f6, f7⟩ := f
    simp only at hs hA
    unfold formV at hO
    simp only [frmCells] at hO
    generalize arV op = V at *
    clear hA
    by_cases h83 : op = 83
    · subst h83
      go_enter Try.func8, Try.ntmps8
      go_wp2_with fail
      refine hO.mono ?_
      rintro e w1 ⟨rfl, hb⟩
      go_wp2
      go_ret
      exact ⟨rfl, hb.alloc hb.size _⟩
    · have hd : decide (124 ≤ op ∧ op ≤ 205) = true := by simp; omega
      rw [hd] at hW
      clear hd h
      go_enter Try.func8, Try.ntmps8
      go_wp2_with fail
      refine (hW _).mono ?_
      rintro e w1 ⟨rfl, rfl⟩
      go_wp2_with fail
      refine hO.mono ?_
      rintro e w1 ⟨rfl, hb⟩
      go_wp2
      go_ret
      exact ⟨rfl, hb.alloc hb.size _⟩
  · have hz := arity_out op (by omega) (by omega)
    rw [hz]
    have hd : decide (124 ≤ op ∧ op ≤ 205) = false := by simp; omega
    rw [hd] at hW
    have h83 : ¬ op = 83 := by omega
    clear hd h hz
    go_enter Try.func8, Try.ntmps8
    go_wp2_with fail
    refine (hW _).mono ?_
    rintro e w1 ⟨rfl, rfl⟩
    go_wp2
    go_ret
    exact ⟨rfl, Below.refl _ _⟩

end Go.Proofs.Ytbhoimeneekdfaa
