/-
  formTexts of the layer grammar, and what its iterator tells: the operations that have forms, rising, with their texts.
-/
import Derived.RangeFuncNested
import Derived.RangeFuncBound
import Derived.RangeFuncCalls
import Derived.RangeFuncLeaves
import Derived.Shelf.Abstract
import Derived.Shelf.RegionOpen
import Derived.WalkKit
import Derived.OwnWalkIn
import Derived.TacticsInMore
import Derived.LoopNIn
import Derived.LoopIn
import Derived.Test.YtjpbiakbjpiceabBoxes
import Derived.Test.YtjpbiakbjpiceabGrammarOf
namespace Go.Proofs.Ytjpbiakbjpiceab
open Go.RowKit Go.Shelf Go.Lib
set_option maxRecDepth 10000
attribute [local go_sem] Oper.semAt_some
set_option linter.unusedVariables false
set_option linter.unusedSimpArgs false

/-- The operations below k that have a text. -/
def opsTo : Nat → List Nat
  | 0 => []
  | k + 1 => if (ftxt k).size = 0 then opsTo k else opsTo k ++ [k]
def opsL : List Nat := opsTo 256
theorem ops_grows (k : Nat) : opsTo k <+: opsTo (k + 1) := by
  rw [opsTo]
  split
  · exact List.prefix_refl _
  · exact ⟨_, rfl⟩
theorem ops_prefix {k m : Nat} (h : k ≤ m) : opsTo k <+: opsTo m := by
  obtain ⟨d, rfl⟩ := Nat.le.dest h
  clear h
  induction d with
  | zero => exact List.prefix_refl _
  | succ d ih => exact ih.trans (ops_grows (k + d))

/-- What is told of an operation. -/
def opV (x : Nat) : Array Value := #[.int .u16 x, .string (ftxt x)]

theorem formTexts_any (w : World) : Calls Try.prog 26 #[] w fun e w' => e = .returned (.func (.func 42) #[] #[]) ∧ w = w' := by
  go_enter Try.func26, Try.ntmps26
  go_wp2
  go_ret
  exact ⟨rfl, rfl⟩

theorem size_beq (s : ByteArray) (h : s.size = 0) : (s.toList == ([] : List UInt8)) = true := by
  rw [ByteArray.toList_eq]
  have : s.data.toList = [] := by rw [← List.length_eq_zero_iff, Array.length_toList]; exact h
  rw [this]; rfl

set_option maxRecDepth 100000 in
set_option maxHeartbeats 2000000 in
theorem formTexts_tells (n0 : Nat) (τ : TypeId → Prop) (w : World) :
    Tells Try.prog 42 #[] opV (fun pre x _ => pre ++ [x] <+: opsL) n0 τ (fun xs => xs = opsL) (fun pre => pre <+: opsL) w := by
  intro l J Jx W hW hJ hJx hY h0
  have HY : Hid (∀ pre x W1, J pre W1 → pre ++ [x] <+: opsL → _) := hY
  clear hY hW
  refine callsIn_of_wp Try.func42 rfl trivial ?_ rfl
  simp only [Try.ntmps42, List.size_toArray, List.length_cons, List.length_nil, Nat.reduceAdd, Nat.reduceSub, Array.replicate_succ, Array.replicate_zero, List.push_toArray, List.append_toArray, List.nil_append, List.cons_append]
  gi_wp2
  gi_loopw [4] (fun i wr => ∃ k : Nat, k ≤ 256 ∧ i = .int .u16 k ∧ J (opsTo k) wr) (fun i _ => 256 - (intOf i).toNat)
  case atStart => exact ⟨0, by omega, rfl, h0⟩
  case round =>
    obtain ⟨k, hk, rfl, hJs⟩ := hrel
    clear h0
    by_cases hlt : k < 256
    · have hlt' : (k : Int) < 256 := by omega
      have hT := fun w => formText_any k w
      by_cases he : (ftxt k).size = 0
      · have HN : Hid (opsTo (k + 1) = opsTo k) := by show _ = _; rw [opsTo, if_pos he]
        have eb := size_beq _ he
        generalize ftxt k = s at *
        have HJ : Hid (J (opsTo k) wr) := hJs
        clear he HY hJs
        gi_wp2_with fail
        refine ⟨trivial, rfl, (callsIn_wide.2 (hT _)).mono ?_⟩
        rintro e w' ⟨rfl, rfl⟩
        gi_wp2
        refine ⟨fun _ h => (by cases h), ?_⟩
        gi_wp2
        go_roundw
        case rel => exact ⟨k + 1, by omega, by go_num, by rw [HN.out]; exact HJ.out⟩
        case measure => simp [intOf]; omega
      · have HN : Hid (opsTo (k + 1) = opsTo k ++ [k]) := by show _ = _; rw [opsTo, if_neg he]
        have eb := bytes_empty _ he
        have hpx : opsTo k ++ [k] <+: opsL := by rw [← HN.out]; exact ops_prefix hlt
        have HPX : Hid (opsTo k ++ [k] <+: opsL) := hpx
        obtain ⟨fn, tmps, assign, body, hy, hR⟩ := HY.out (opsTo k) k wr hJs hpx
        simp only [opV] at hy
        generalize ftxt k = s at *
        clear he HY hJs hpx
        gi_wp2_with fail
        refine ⟨trivial, rfl, (callsIn_wide.2 (hT _)).mono ?_⟩
        rintro e w' ⟨rfl, rfl⟩
        gi_wp2_with fail
        refine ⟨rfl, hR.mono ?_⟩
        rintro e W3 ⟨hkf, ⟨rfl, hJ3, hk3⟩ | ⟨rfl, hJx3⟩⟩
        · have HJ3 : Hid (J (opsTo k ++ [k]) W3) := hJ3
          clear hy hR hkf hk3 hJ3 hT
          gi_wp2
          go_roundw
          case rel => exact ⟨k + 1, by omega, by go_num, by rw [HN.out]; exact HJ3.out⟩
          case measure => simp [intOf]; omega
        · clear hy hR hkf hT
          gi_wp2
          refine bodyPost_ret (results_none rfl _ _ _) rfl ?_
          exact ⟨⟨_, rfl⟩, .inr ⟨_, HPX.out, hJx3⟩⟩
    · obtain rfl : k = 256 := by omega
      have HJ : Hid (J opsL wr) := hJs
      clear hJs HY
      gi_wp2
      go_end0
      exact ⟨⟨_, rfl⟩, .inl ⟨_, rfl, HJ.out⟩⟩

end Go.Proofs.Ytjpbiakbjpiceab
