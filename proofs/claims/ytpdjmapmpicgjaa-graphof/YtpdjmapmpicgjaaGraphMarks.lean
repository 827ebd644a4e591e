/-
  Marks of nodes: whether a node is marked, and a mark more.
-/
import Derived.WalkSpells
import Derived.WalkMore
import Derived.BigRegion
import Derived.Deep.RegionWith
import Derived.Test.YtpdjmapmpicgjaaProg
import Derived.Test.YtpdjmapmpicgjaaMath
import Derived.Test.YtpdjmapmpicgjaaSlots
namespace Go.Proofs.Ytpdjmapmpicgjaa
open Go.RowKit
set_option linter.unusedVariables false
set_option linter.unusedSimpArgs false
set_option maxRecDepth 10000

/-- The words of marks, at a place. -/
def MkAt (w : World) (b off : Nat) (m : Nat → Nat) : Prop := ∀ k, k < 64 → w.cell? ⟨b, off + k, none⟩ = some (.int .u64 (m k : Int)) ∧ w.frozen? ⟨b, off + k, none⟩ = false ∧ m k < 18446744073709551616
def hasM (m : Nat → Nat) (i : Nat) : Bool := (m (i / 64)).testBit (i % 64)
def setM (m : Nat → Nat) (i : Nat) : Nat → Nat := fun k => if k = i / 64 then m k ||| 2 ^ (i % 64) else m k

theorem hasM_setM (m : Nat → Nat) (i j : Nat) : hasM (setM m i) j = (decide (j = i) || hasM m j) := by
  unfold hasM setM
  by_cases h : j / 64 = i / 64
  · rw [if_pos h, Nat.testBit_or, Nat.testBit_two_pow]
    by_cases h2 : j = i
    · subst h2; simp
    · have : ¬ i % 64 = j % 64 := by omega
      simp [h2, this]
  · rw [if_neg h]
    have : ¬ j = i := fun e => h (by rw [e])
    simp [this]
theorem setM_lt (m : Nat → Nat) (i k : Nat) (h : m k < 18446744073709551616) : setM m i k < 18446744073709551616 := by
  unfold setM; split
  · have : (2 : Nat) ^ (i % 64) < 2 ^ 64 := Nat.pow_lt_pow_right (by omega) (by omega)
    exact Nat.or_lt_two_pow (n := 64) h this
  · exact h
theorem pow_wrap (r : Nat) (hr : r < 64) : IntKind.u64.wrap (2 ^ r) = (2 : Int) ^ r := by
  have hp : (2 : Nat) ^ r < 18446744073709551616 := Nat.pow_lt_pow_right (n := 64) (by omega) hr
  have e : (2 : Int) ^ r = ((2 ^ r : Nat) : Int) := by simp
  rw [e]
  clear e
  generalize (2 : Nat) ^ r = P at *
  rw [IntKind.wrap_u64]
  omega
theorem bit_and (v r : Nat) (h : v < 18446744073709551616) : (bits .and .u64 ((v : Int) / 2 ^ r) 1 == 1) = v.testBit r := by
  have e : ((v : Int) / 2 ^ r) = ((v / 2 ^ r : Nat) : Int) := by simp
  rw [e]
  have hb := u64_and_nat (v / 2 ^ r) 1 (Nat.lt_of_le_of_lt (Nat.div_le_self _ _) h) (by omega)
  rw [show ((1 : Nat) : Int) = 1 from rfl] at hb
  rw [hb, Nat.testBit_eq_decide_div_mod_eq, Nat.and_one_is_mod]
  rw [Bool.eq_iff_iff]
  simp
  omega

set_option maxHeartbeats 1000000 in
theorem marksHas_any (b off : Nat) (m : Nat → Nat) (i : Nat) (w : World) (h : MkAt w b off m) (hi : i < 4096) : Calls Try.prog 46 #[.pointer (some ⟨b, off, none⟩), .int .i64 (i : Int)] w fun e w' => e = .returned (.bool (hasM m i)) ∧ w = w' := by
  obtain ⟨hc, hf, hm⟩ := h (i / 64) (by omega)
  have h0 : (0 : Int) ≤ (i : Int) := by omega
  have h1 : (i : Int) < 4096 := by omega
  obtain ⟨q, hq⟩ : ∃ q, i / 64 = q := ⟨_, rfl⟩
  obtain ⟨r, hr⟩ : ∃ r, i % 64 = r := ⟨_, rfl⟩
  have hqi : (i : Int) / 64 = (q : Int) := by omega
  have hri : (i : Int) % 64 = (r : Int) := by omega
  have HQ : Hid (q < 64) := by show q < 64; omega
  have hq1 : (q : Int) < 64 := by omega
  have hr1 : (r : Int) < 64 := by omega
  have HX : Hid (hasM m i = (m q).testBit r) := by show _ = _; unfold hasM; rw [hq, hr]
  rw [hq] at hc hm
  generalize hasM m i = x at *
  generalize m q = v at *
  have HM := hide hm
  clear h hi hf hq hr hm
  go_enter Try.func46, Try.ntmps46
  go_wp2
  go_ret
  exact ⟨by rw [HX.out, bit_and v r HM.out]; rfl, rfl⟩

set_option maxHeartbeats 2000000 in
theorem marksSet_any (b off : Nat) (m : Nat → Nat) (i : Nat) (w : World) (h : MkAt w b off m) (hi : i < 4096) : Calls Try.prog 60 #[.pointer (some ⟨b, off, none⟩), .int .i64 (i : Int)] w fun e w' => e = .returned (.tuple #[]) ∧ ∃ d, w' = (w.setCell ⟨b, off + i / 64, none⟩ (.int .u64 (setM m i (i / 64) : Int))).drewN d := by
  obtain ⟨hc, hf, hm⟩ := h (i / 64) (by omega)
  have h0 : (0 : Int) ≤ (i : Int) := by omega
  have h1 : (i : Int) < 4096 := by omega
  obtain ⟨q, hq⟩ : ∃ q, i / 64 = q := ⟨_, rfl⟩
  obtain ⟨r, hr⟩ : ∃ r, i % 64 = r := ⟨_, rfl⟩
  have eq : (i : Int).tdiv 64 = (q : Int) := by rw [Int.tdiv_eq_ediv_of_nonneg (by omega)]; omega
  have em : (i : Int).tmod 64 = (r : Int) := by rw [Int.tmod_eq_emod_of_nonneg (by omega)]; omega
  have hqi : (i : Int) / 64 = (q : Int) := by omega
  have hri : (i : Int) % 64 = (r : Int) := by omega
  have hq1 : (q : Int) < 64 := by omega
  have hr1 : (r : Int) < 64 := by omega
  have hwq : IntKind.i64.wrap (q : Int) = (q : Int) := by rw [IntKind.wrap_i64]; omega
  have hwr : IntKind.i64.wrap (r : Int) = (r : Int) := by rw [IntKind.wrap_i64]; omega
  have HX : Hid ((setM m i q : Int) = bits .or .u64 (m q : Int) (2 ^ r)) := by
    show _ = _
    unfold setM
    rw [if_pos hq.symm, hr]
    have hp : (2 : Nat) ^ r < 18446744073709551616 := Nat.pow_lt_pow_right (n := 64) (by omega) (by omega)
    rw [hq] at hm
    have := u64_or_nat (m q) (2 ^ r) hm hp
    rw [← this]; simp
  have hws : IntKind.u64.wrap (2 ^ r) = (2 : Int) ^ r := pow_wrap r (by omega)
  rw [hq] at hc hm hf ⊢
  generalize setM m i q = x at *
  generalize m q = v at *
  have HM := hide hm
  clear h hi hq hr hm
  go_enter Try.func60, Try.ntmps60
  go_region_with (fail)
  all_goals
    go_end0
    rw [← HX.out]
    exact ⟨rfl, 1, rfl⟩

end Go.Proofs.Ytpdjmapmpicgjaa
