/-
  What headFault of frame returns: what is wrong with a word of the head.
-/
import Derived.WalkSpells
import Derived.Test.YtjpbiakbjpiceabRef02Wrong
import Derived.Test.YtjpbiakbjpiceabWordsTurned
import Derived.Test.YtjpbiakbjpiceabFrameSmall
namespace Go.Proofs.Ytjpbiakbjpiceab
open Go.RowKit

theorem turned_magic : turnI 119734787 = 50471687 := by decide

set_option maxHeartbeats 1000000 in
theorem headFault_any (k : Nat) (x : Int) (w : World) (hk : k < 5) (hx0 : 0 ≤ x) (hx1 : x < 4294967296) :
    Calls Try.prog 51 #[.int .i64 k, .int .u32 x] w fun e w' => e = .returned (.int .i64 (wrongE k x)) ∧ w = w' := by
  have hT := fun w => turned_any 119734787 w (by omega) (by omega)
  rw [turned_magic] at hT
  have hM := fun w => mayBeBound_any x w hx0 hx1
  rcases (show k = 0 ∨ k = 1 ∨ k = 2 ∨ k = 3 ∨ k = 4 by omega) with rfl | rfl | rfl | rfl | rfl
  · clear hM
    by_cases h1 : x = 50471687
    · have HE : Hid (wrongE 0 x = 21) := by show _ = _; simp [wrongE, h1]
      have b1 : (x == 50471687) = true := by simpa using h1
      clear h1
      go_enter Try.func51, Try.ntmps51
      go_wp2_with (go_at_call 58; refine (hT _).mono ?_; rintro e w' ⟨rfl, rfl⟩)
      go_ret
      exact ⟨ret_int HE.out.symm, rfl⟩
    · have b1 : (x == 50471687) = false := by simpa using h1
      by_cases h2 : x = 119734787
      · have HE : Hid (wrongE 0 x = 0) := by show _ = _; simp [wrongE, h2]
        have b2 : (x == 119734787) = true := by simpa using h2
        clear h1 h2
        go_enter Try.func51, Try.ntmps51
        go_wp2_with (go_at_call 58; refine (hT _).mono ?_; rintro e w' ⟨rfl, rfl⟩)
        go_ret
        exact ⟨ret_int HE.out.symm, rfl⟩
      · have HE : Hid (wrongE 0 x = 20) := by show _ = _; simp [wrongE, h1, h2]
        have b2 : (x == 119734787) = false := by simpa using h2
        clear h1 h2
        go_enter Try.func51, Try.ntmps51
        go_wp2_with (go_at_call 58; refine (hT _).mono ?_; rintro e w' ⟨rfl, rfl⟩)
        go_ret
        exact ⟨ret_int HE.out.symm, rfl⟩
  · clear hM hT
    by_cases h1 : x = 65536
    · have HE : Hid (wrongE 1 x = 0) := by show _ = _; simp [wrongE, h1]
      have b1 : (x == 65536) = true := by simpa using h1
      clear h1
      go_enter Try.func51, Try.ntmps51
      go_wp2
      go_ret
      exact ⟨ret_int HE.out.symm, rfl⟩
    · have HE : Hid (wrongE 1 x = 22) := by show _ = _; simp [wrongE, h1]
      have b1 : (x == 65536) = false := by simpa using h1
      clear h1
      go_enter Try.func51, Try.ntmps51
      go_wp2
      go_ret
      exact ⟨ret_int HE.out.symm, rfl⟩
  · clear hM hT
    go_enter Try.func51, Try.ntmps51
    go_wp2
    go_ret
    exact ⟨rfl, rfl⟩
  · clear hT
    by_cases h1 : x = 0 ∨ 65536 < x
    · have HE : Hid (wrongE 3 x = 24) := by show _ = _; rcases h1 with h1 | h1 <;> simp [wrongE, h1]
      have e1 : (!(decide (x = 0) || decide (65536 < x))) = false := by rcases h1 with h1 | h1 <;> simp [h1]
      rw [e1] at hM
      clear h1 e1
      go_enter Try.func51, Try.ntmps51
      go_wp2_with (go_at_call 37; refine (hM _).mono ?_; rintro e w' ⟨rfl, rfl⟩)
      go_ret
      exact ⟨ret_int HE.out.symm, rfl⟩
    · have HE : Hid (wrongE 3 x = 0) := by show _ = _; simp [wrongE, show ¬ x = 0 from fun h => h1 (.inl h), show ¬ 65536 < x from fun h => h1 (.inr h)]
      have e1 : (!(decide (x = 0) || decide (65536 < x))) = true := by simp [show ¬ x = 0 from fun h => h1 (.inl h), show ¬ 65536 < x from fun h => h1 (.inr h)]
      rw [e1] at hM
      clear h1 e1
      go_enter Try.func51, Try.ntmps51
      go_wp2_with (go_at_call 37; refine (hM _).mono ?_; rintro e w' ⟨rfl, rfl⟩)
      go_ret
      exact ⟨ret_int HE.out.symm, rfl⟩
  · clear hM hT
    by_cases h1 : x = 0
    · have HE : Hid (wrongE 4 x = 0) := by show _ = _; simp [wrongE, h1]
      have b1 : (x == 0) = true := by simpa using h1
      clear h1
      go_enter Try.func51, Try.ntmps51
      go_wp2
      go_ret
      exact ⟨ret_int HE.out.symm, rfl⟩
    · have HE : Hid (wrongE 4 x = 23) := by show _ = _; simp [wrongE, h1]
      have b1 : (x == 0) = false := by simpa using h1
      clear h1
      go_enter Try.func51, Try.ntmps51
      go_wp2
      go_ret
      exact ⟨ret_int HE.out.symm, rfl⟩

end Go.Proofs.Ytjpbiakbjpiceab
