/-
  What Size of the document's answer returns: how many words there are, or the error.
-/
import Derived.WalkSpells
import Derived.Deep.QuietTactic
import Derived.BigQuiet
import Derived.Test.YtckpijgnkkjfkaaRaws
import Derived.Test.YtckpijgnkkjfkaaRef02Fault
namespace Go.Proofs.Ytckpijgnkkjfkaa
open Go.RowKit

/-- How many words there are; 0 beside an error. -/
def sizeOut (rs : List (Int × List Int)) : Int := if (fault rs 0).1 = 0 then (sizeTo rs rs.length : Int) else 0

/-- Without a fault all is small. -/
theorem fault_none (rs : List (Int × List Int)) (h : (fault rs 0).1 = 0) : ∀ k, k ≤ rs.length → sizeTo rs k ≤ 1048576 ∧ ∀ j, j < k → (nthR rs j).2.length < 65535 := by
  have key : ∀ k, k ≤ rs.length → fault rs 0 = fault rs k ∧ sizeTo rs k ≤ 1048576 ∧ ∀ j, j < k → (nthR rs j).2.length < 65535 := by
    intro k
    induction k with
    | zero => intro _; exact ⟨rfl, by rw [sizeTo_zero]; omega, fun j hj => by omega⟩
    | succ k ih =>
      intro hk
      obtain ⟨h1, h2, h3⟩ := ih (by omega)
      have hs := fault_step rs k (by omega)
      by_cases c1 : 65535 ≤ (nthR rs k).2.length
      · rw [if_pos c1] at hs; rw [h1, hs] at h; simp at h
      · rw [if_neg c1] at hs
        by_cases c2 : 1048576 < sizeTo rs (k + 1)
        · rw [if_pos c2] at hs; rw [h1, hs] at h; simp at h
        · rw [if_neg c2] at hs
          refine ⟨h1.trans hs, by omega, fun j hj => ?_⟩
          by_cases e : j = k
          · subst e; omega
          · exact h3 j (by omega)
  exact fun k hk => (key k hk).2

set_option maxHeartbeats 1000000 in
theorem refSize_any (a : Option Addr) (n cap : Nat) (rs : List (Int × List Int)) (w : World) (ha : RawsV w a rs) (hl : rs.length = n) (hn : 32 * n ≤ 140737488351232) :
    Calls Try.prog 18 #[.slice a n cap] w fun e w' => e = .returned (.tuple #[.int .i64 (sizeOut rs), .int .i64 (fault rs 0).1]) ∧ Below w.heap.size w w' := by
  have HL : Hid (rs.length = n) := hl
  have hF := refFault_any a n cap rs w ha hl hn
  have HO : Hid (sizeOut rs = if (fault rs 0).1 = 0 then (sizeTo rs n : Int) else 0) := by show _ = _; rw [sizeOut, hl]
  by_cases hz : (fault rs 0).1 = 0
  · have HN : Hid (∀ k, k ≤ n → sizeTo rs k ≤ 1048576 ∧ ∀ j, j < k → (nthR rs j).2.length < 65535) := by
      have := fault_none rs hz
      rw [hl] at this
      exact this
    rw [HO.out, if_pos hz]
    rw [hz] at hF ⊢
    clear hl hz HO
    generalize (fault rs 0).2 = at_ at hF
    go_enter Try.func18, Try.ntmps18
    go_wp2_with fail
    refine hF.mono ?_
    rintro e w1 ⟨rfl, hb1⟩
    have s1 := hb1.size
    have ha2 := ha.below (hb1.alloc s1 (.cells #[.int .i64 0, .int .i64 at_] 29))
    go_wp2
    go_loop [5, 6] (fun s i => ∃ k : Nat, k ≤ n ∧ i = .int .i64 k ∧ s = .int .i64 (sizeTo rs k)) (fun _ i => n - (intOf i).toNat)
    case atStart => exact ⟨0, Nat.zero_le _, rfl, rfl⟩
    case round =>
      obtain ⟨k, hk, rfl, rfl⟩ := hrel
      by_cases hlt : k < n
      · obtain ⟨b, off, aj, cj, nj, rfl, hbs, p1, p2, p3, _, _⟩ := ha2 k (by rw [HL.out]; exact hlt)
        have HS : Hid (sizeTo rs (k + 1) = sizeTo rs k + 1 + (nthR rs k).2.length) := sizeTo_succ rs k (by rw [HL.out]; exact hlt)
        have h1 := (HN.out k hk).1
        have h2 := (HN.out (k + 1) hlt).1
        rw [HS.out, p3] at h2
        rw [p3] at HS
        generalize sizeTo rs k = s at h1 h2 HS
        have hki : (k : Int) < (n : Int) := by omega
        clear ha ha2 p3
        go_wp2
        go_round
        case rel => exact ⟨k + 1, by omega, by go_num, by rw [HS.out]; go_num⟩
        case measure => simp [intOf]; omega
      · obtain rfl : k = n := by omega
        go_wp2
        go_ret2
        exact ⟨rfl, hb1.alloc s1 _⟩
  · rw [HO.out, if_neg hz]
    have hzb : ((fault rs 0).1 == 0) = false := by simpa using hz
    clear HO hz hl
    generalize (fault rs 0).1 = er at hF hzb ⊢
    generalize (fault rs 0).2 = at_ at hF
    go_enter Try.func18, Try.ntmps18
    go_wp2_with fail
    refine hF.mono ?_
    rintro e w1 ⟨rfl, hb1⟩
    have s1 := hb1.size
    go_wp2
    go_quiet (fail)
    go_wp2
    go_ret2
    exact ⟨rfl, bel_drewN (hb1.alloc s1 _) _⟩

end Go.Proofs.Ytckpijgnkkjfkaa
