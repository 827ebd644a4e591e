/-
  What Fault and Size of the document's answer return: the first instruction that is too long, or with which there are too many words; and how many words there are.
-/
import Derived.WalkSpells
import Derived.Deep.QuietTactic
import Derived.BigQuiet
import Derived.Test.YtckpijgnkkjfkaaProg
import Derived.Test.YtckpijgnkkjfkaaRaws
namespace Go.Proofs.Ytckpijgnkkjfkaa
open Go.RowKit

/-- How many words the head and the first k instructions have. -/
def sizeTo (rs : List (Int × List Int)) (k : Nat) : Nat := (rs.take k).foldl (fun s r => s + 1 + r.2.length) 5
/-- The first instruction that may not be, and why. -/
def faultF (rs : List (Int × List Int)) : Nat → Nat → Int × Nat
  | 0, _ => (0, 0)
  | f + 1, k => if k < rs.length then (if 65535 ≤ (nthR rs k).2.length then (25, k) else if 1048576 < sizeTo rs (k + 1) then (4, k) else faultF rs f (k + 1)) else (0, 0)
def fault (rs : List (Int × List Int)) (k : Nat) : Int × Nat := faultF rs (rs.length - k) k

theorem sizeTo_zero (rs : List (Int × List Int)) : sizeTo rs 0 = 5 := rfl
theorem sizeTo_succ (rs : List (Int × List Int)) (k : Nat) (h : k < rs.length) : sizeTo rs (k + 1) = sizeTo rs k + 1 + (nthR rs k).2.length := by
  have e : rs.take (k + 1) = rs.take k ++ [nthR rs k] := by
    rw [List.take_succ_eq_append_getElem h]; simp [nthR, List.getD, h]
  rw [sizeTo, e, List.foldl_append]; rfl
theorem fault_end (rs : List (Int × List Int)) (k : Nat) (h : rs.length ≤ k) : fault rs k = (0, 0) := by
  rw [fault, show rs.length - k = 0 by omega]; rfl
theorem fault_step (rs : List (Int × List Int)) (k : Nat) (h : k < rs.length) : fault rs k = if 65535 ≤ (nthR rs k).2.length then (25, k) else if 1048576 < sizeTo rs (k + 1) then (4, k) else fault rs (k + 1) := by
  rw [fault, show rs.length - k = (rs.length - (k + 1)) + 1 by omega, faultF, if_pos h]; rfl

theorem ret_agg2 {k : IntKind} {a b c d : Int} (h : a = b) (h2 : c = d) : (Value.agg #[.int k a, .int k c]) = .agg #[.int k b, .int k d] := by rw [h, h2]

set_option maxHeartbeats 1000000 in
theorem refFault_any (a : Option Addr) (n cap : Nat) (rs : List (Int × List Int)) (w : World) (ha : RawsV w a rs) (hl : rs.length = n) (hn : 32 * n ≤ 140737488351232) :
    Calls Try.prog 35 #[.slice a n cap] w fun e w' => e = .returned (.agg #[.int .i64 (fault rs 0).1, .int .i64 (fault rs 0).2]) ∧ Below w.heap.size w w' := by
  have HL : Hid (rs.length = n) := hl
  clear hl
  go_enter Try.func35, Try.ntmps35
  go_wp2
  go_loop [3, 4] (fun s i => ∃ k : Nat, k ≤ n ∧ i = .int .i64 k ∧ s = .int .i64 (sizeTo rs k) ∧ sizeTo rs k ≤ 1048576 ∧ fault rs 0 = fault rs k) (fun _ i => n - (intOf i).toNat)
  case atStart => exact ⟨0, Nat.zero_le _, rfl, rfl, by rw [sizeTo_zero]; omega, rfl⟩
  case round =>
    obtain ⟨k, hk, rfl, rfl, hsz, hfe⟩ := hrel
    have HF : Hid (fault rs 0 = fault rs k) := hfe
    clear hfe
    by_cases hlt : k < n
    · obtain ⟨b, off, aj, cj, nj, rfl, hbs, p1, p2, p3, _, _⟩ := ha k (by rw [HL.out]; exact hlt)
      have HS : Hid (sizeTo rs (k + 1) = sizeTo rs k + 1 + (nthR rs k).2.length) := sizeTo_succ rs k (by rw [HL.out]; exact hlt)
      have HT := fault_step rs k (by rw [HL.out]; exact hlt)
      rw [p3] at HT HS
      have HT' : Hid (fault rs k = if 65535 ≤ nj then (25, k) else if 1048576 < sizeTo rs (k + 1) then (4, k) else fault rs (k + 1)) := HT
      generalize sizeTo rs k = s at hsz HS
      have hki : (k : Int) < (n : Int) := by omega
      clear HT ha p3
      by_cases h1 : 65535 ≤ nj
      · have b1 : decide ((65535 : Int) ≤ (nj : Int)) = true := decide_eq_true (by omega)
        have HE : Hid (fault rs 0 = (25, k)) := by show _ = _; rw [HF.out, HT'.out, if_pos h1]
        go_wp2
        exact bodyPost_ret (v := .agg #[.int .i64 25, .int .i64 k]) (by simp [results, Try.results35, go_sem]) rfl ⟨by rw [HE.out], ((Below.refl _ _).alloc (Nat.le_refl _) _)⟩
      · have b1 : decide ((65535 : Int) ≤ (nj : Int)) = false := decide_eq_false (by omega)
        by_cases h2 : 1048576 < s + 1 + nj
        · have b2 : decide ((1048576 : Int) < (s : Int) + 1 + (nj : Int)) = true := decide_eq_true (by omega)
          have HE : Hid (fault rs 0 = (4, k)) := by show _ = _; rw [HF.out, HT'.out, if_neg h1, if_pos (by rw [HS.out]; exact h2)]
          go_wp2
          exact bodyPost_ret (v := .agg #[.int .i64 4, .int .i64 k]) (by simp [results, Try.results35, go_sem]) rfl ⟨by rw [HE.out], ((Below.refl _ _).alloc (Nat.le_refl _) _)⟩
        · have b2 : decide ((1048576 : Int) < (s : Int) + 1 + (nj : Int)) = false := decide_eq_false (by omega)
          have HE : Hid (fault rs 0 = fault rs (k + 1)) := by show _ = _; rw [HF.out, HT'.out, if_neg h1, if_neg (by rw [HS.out]; exact h2)]
          go_wp2
          go_round
          case rel => exact ⟨k + 1, by omega, by go_num, by rw [HS.out]; go_num, by rw [HS.out]; omega, HE.out⟩
          case measure => simp [intOf]; omega
    · have HE : Hid (fault rs 0 = (0, 0)) := by show _ = _; rw [HF.out]; exact fault_end rs k (by rw [HL.out]; omega)
      go_wp2
      exact bodyPost_ret (v := .agg #[.int .i64 0, .int .i64 0]) (by simp [results, Try.results35, go_sem]) rfl ⟨by rw [HE.out]; rfl, ((Below.refl _ _).alloc (Nat.le_refl _) _)⟩

end Go.Proofs.Ytckpijgnkkjfkaa
