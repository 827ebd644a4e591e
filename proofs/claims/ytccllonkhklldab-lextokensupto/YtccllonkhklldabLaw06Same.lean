/-
  tokens and alike of the statements of layer 6: true of lists that are the same, and of lists that are the same by kind and text; nothing that was there turns.
-/
import Derived.WalkSpells
import Derived.Deep.QuietTactic
import Derived.BigQuiet
import Derived.WalkMore
import Derived.Laws.StructEq
import Derived.Test.YtccllonkhklldabProg
import Derived.Test.YtccllonkhklldabToks
namespace Go.Proofs.Ytccllonkhklldab
open Go.RowKit
set_option maxRecDepth 10000
set_option linter.unusedVariables false
set_option linter.unusedSimpArgs false

set_option maxHeartbeats 2000000 in
theorem sameTokens_any (l : List TokT) (n : Nat) (a a' : Option Addr) (c c' : Nat) (w : World) (hl : l.length = n) (hn : n ≤ 140737488351232) (hv : ToksV w a l) (hv' : ToksV w a' l) :
    Calls Try.prog 11 #[.slice a n c, .slice a' n c'] w fun e w' => e = .returned (.bool true) ∧ ∃ q, w' = w.drewN q := by
  have HL := hl
  clear hl
  have HLL : Hid (l.length = n) := HL
  clear HL
  go_enter Try.func11, Try.ntmps11
  go_wp2_with fail
  go_loopw [5] (fun i wr => ∃ k q : Nat, k ≤ n ∧ i = .int .i64 k ∧ wr = w.drewN q) (fun i _ => n - (intOf i).toNat)
  case atStart => exact ⟨0, 0, Nat.zero_le _, rfl, rfl⟩
  case round =>
    obtain ⟨k, q, hk, rfl, rfl⟩ := hrel
    by_cases hlt : k < n
    · obtain ⟨b, off, rfl, _, c0, c1, c2⟩ := hv k (by rw [HLL.out]; exact hlt)
      obtain ⟨b', off', rfl, _, d0, d1, d2⟩ := hv' k (by rw [HLL.out]; exact hlt)
      generalize (nthT l k).1 = x at *
      generalize (nthT l k).2.1 = y at *
      generalize (nthT l k).2.2 = z at *
      have hki : (k : Int) < (n : Int) := by omega
      have hk0 : (0 : Int) ≤ (k : Int) := by omega
      clear hv hv'
      go_wp2_with fail
      go_quiet (fail)
      go_wp2_with fail
      go_roundw
      case rel => exact ⟨k + 1, _, by omega, by go_num, rfl⟩
      case measure => simp [intOf]; omega
    · go_wp2_with fail
      go_ret
      exact ⟨rfl, q, rfl⟩

set_option maxHeartbeats 2000000 in
theorem alikeTokens_any (l m : List TokT) (n : Nat) (a a' : Option Addr) (c c' : Nat) (w : World) (hl : l.length = n) (hm : m.length = n) (hn : n ≤ 140737488351232) (hv : ToksV w a l) (hv' : ToksV w a' m) (hs : ∀ k, k < n → (nthT l k).1 = (nthT m k).1 ∧ (nthT l k).2.1 = (nthT m k).2.1) :
    Calls Try.prog 15 #[.slice a n c, .slice a' n c'] w fun e w' => e = .returned (.bool true) ∧ ∃ q, w' = w.drewN q := by
  have HLL : Hid (l.length = n) := hl
  have HMM : Hid (m.length = n) := hm
  have HS : Hid (∀ k, k < n → (nthT l k).1 = (nthT m k).1 ∧ (nthT l k).2.1 = (nthT m k).2.1) := hs
  clear hl hm hs
  go_enter Try.func15, Try.ntmps15
  go_wp2_with fail
  go_loopw [5] (fun i wr => ∃ k q : Nat, k ≤ n ∧ i = .int .i64 k ∧ wr = w.drewN q) (fun i _ => n - (intOf i).toNat)
  case atStart => exact ⟨0, 0, Nat.zero_le _, rfl, rfl⟩
  case round =>
    obtain ⟨k, q, hk, rfl, rfl⟩ := hrel
    by_cases hlt : k < n
    · obtain ⟨b, off, rfl, _, c0, c1, c2⟩ := hv k (by rw [HLL.out]; exact hlt)
      obtain ⟨b', off', rfl, _, d0, d1, d2⟩ := hv' k (by rw [HMM.out]; exact hlt)
      obtain ⟨e1, e2⟩ := HS.out k hlt
      rw [← e1] at d0
      rw [← e2] at d1
      generalize (nthT l k).1 = x at *
      generalize (nthT l k).2.1 = y at *
      have hki : (k : Int) < (n : Int) := by omega
      have hk0 : (0 : Int) ≤ (k : Int) := by omega
      clear hv hv' c2 d2 e1 e2
      go_wp2_with fail
      go_quiet (fail)
      go_wp2_with fail
      go_roundw
      case rel => exact ⟨k + 1, _, by omega, by go_num, rfl⟩
      case measure => simp [intOf]; omega
    · go_wp2_with fail
      go_ret
      exact ⟨rfl, q, rfl⟩

end Go.Proofs.Ytccllonkhklldab
