/-
  The law ArithOrders answers true, for all words.
-/
import Derived.WalkSpells
import Derived.WalkMore
import Derived.Test.YtaegchobdhbjmaaMathAr
import Derived.Test.YtaegchobdhbjmaaArithBinary
namespace Go.Proofs.Ytaegchobdhbjmaa
open Go.RowKit Go.Maps
set_option linter.unusedVariables false
set_option linter.unusedSimpArgs false
set_option maxRecDepth 10000

set_option maxHeartbeats 4000000 in
theorem arithOrders_0 (a b : Int) (w : World) (a0 : 0 ≤ a) (a1 : a < 4294967296) (b0 : 0 ≤ b) (b1 : b < 4294967296) (h1 : a < b) (h2 : wrap32 a < wrap32 b) : Calls Try.prog 7 #[.int .u32 a, .int .u32 b] w fun e w' => e = .returned (.bool true) ∧ Below w.heap.size w w' := by
  have e176 : binV 176 a b = 1 := by simp [binV, b2i]; try omega
  have e170 : binV 170 a b = 0 := by simp [binV, b2i]; try omega
  have e172 : binV 172 a b = 0 := by simp [binV, b2i]; try omega
  have e177 : binV 177 a b = 1 := by simp [binV, b2i]; try omega
  have e173 : binV 173 a b = 0 := by simp [binV, b2i]; try omega
  have e174 : binV 174 a b = 0 := by simp [binV, b2i]; try omega
  have e178 : binV 178 a b = 1 := by simp [binV, b2i]; try omega
  have e171 : binV 171 a b = 1 := by simp [binV, b2i]; try omega
  have e175 : binV 175 a b = 0 := by simp [binV, b2i]; try omega
  have e179 : binV 179 a b = 1 := by simp [binV, b2i]; try omega
  have q1 : binV 176 1 2 = 1 := by simp [binV, b2i]
  have q2 : binV 177 4294967295 0 = 1 := by simp [binV, b2i, wrap32]
  have m1 : binV 128 a 2147483648 = (a + 2147483648) % 4294967296 := rfl
  have m2 : binV 128 b 2147483648 = (b + 2147483648) % 4294967296 := rfl
  have hm : binV 176 ((a + 2147483648) % 4294967296) ((b + 2147483648) % 4294967296) = 1 := by simp [binV, b2i]; try (unfold wrap32 at h2; omega)
  have e176b : binV 176 b a = 0 := by simp [binV, b2i]; try omega
  have hb : Below w.heap.size w w := Below.refl _ _
  go_enter Try.func7, Try.ntmps7
  go_wp2_with (go_at_call 13; refine (twoV_any _ _ _ _ w _ (by assumption) (by first | assumption | decide) (by omega) (by omega) (by omega) (by omega) (by omega) (by omega)).mono ?_; rintro e w' ⟨rfl, hb⟩)
  go_ret
  exact ⟨rfl, by assumption⟩

set_option maxHeartbeats 4000000 in
theorem arithOrders_1 (a b : Int) (w : World) (a0 : 0 ≤ a) (a1 : a < 4294967296) (b0 : 0 ≤ b) (b1 : b < 4294967296) (h1 : a < b) (h2 : wrap32 b < wrap32 a) : Calls Try.prog 7 #[.int .u32 a, .int .u32 b] w fun e w' => e = .returned (.bool true) ∧ Below w.heap.size w w' := by
  have e176 : binV 176 a b = 1 := by simp [binV, b2i]; try omega
  have e170 : binV 170 a b = 0 := by simp [binV, b2i]; try omega
  have e172 : binV 172 a b = 0 := by simp [binV, b2i]; try omega
  have e177 : binV 177 a b = 0 := by simp [binV, b2i]; try omega
  have e173 : binV 173 a b = 1 := by simp [binV, b2i]; try omega
  have e174 : binV 174 a b = 0 := by simp [binV, b2i]; try omega
  have e178 : binV 178 a b = 1 := by simp [binV, b2i]; try omega
  have e171 : binV 171 a b = 1 := by simp [binV, b2i]; try omega
  have e175 : binV 175 a b = 1 := by simp [binV, b2i]; try omega
  have e179 : binV 179 a b = 0 := by simp [binV, b2i]; try omega
  have q1 : binV 176 1 2 = 1 := by simp [binV, b2i]
  have q2 : binV 177 4294967295 0 = 1 := by simp [binV, b2i, wrap32]
  have m1 : binV 128 a 2147483648 = (a + 2147483648) % 4294967296 := rfl
  have m2 : binV 128 b 2147483648 = (b + 2147483648) % 4294967296 := rfl
  have hm : binV 176 ((a + 2147483648) % 4294967296) ((b + 2147483648) % 4294967296) = 0 := by simp [binV, b2i]; try (unfold wrap32 at h2; omega)
  have e176b : binV 176 b a = 0 := by simp [binV, b2i]; try omega
  have hb : Below w.heap.size w w := Below.refl _ _
  go_enter Try.func7, Try.ntmps7
  go_wp2_with (go_at_call 13; refine (twoV_any _ _ _ _ w _ (by assumption) (by first | assumption | decide) (by omega) (by omega) (by omega) (by omega) (by omega) (by omega)).mono ?_; rintro e w' ⟨rfl, hb⟩)
  go_ret
  exact ⟨rfl, by assumption⟩

set_option maxHeartbeats 4000000 in
theorem arithOrders_2 (a b : Int) (w : World) (a0 : 0 ≤ a) (a1 : a < 4294967296) (b0 : 0 ≤ b) (b1 : b < 4294967296) (h1 : a = b) : Calls Try.prog 7 #[.int .u32 a, .int .u32 b] w fun e w' => e = .returned (.bool true) ∧ Below w.heap.size w w' := by
  subst h1
  have h2 : True := trivial
  have h1 : True := trivial
  have e176 : binV 176 a a = 0 := by simp [binV, b2i]; try omega
  have e170 : binV 170 a a = 1 := by simp [binV, b2i]; try omega
  have e172 : binV 172 a a = 0 := by simp [binV, b2i]; try omega
  have e177 : binV 177 a a = 0 := by simp [binV, b2i]; try omega
  have e173 : binV 173 a a = 0 := by simp [binV, b2i]; try omega
  have e174 : binV 174 a a = 1 := by simp [binV, b2i]; try omega
  have e178 : binV 178 a a = 1 := by simp [binV, b2i]; try omega
  have e171 : binV 171 a a = 0 := by simp [binV, b2i]; try omega
  have e175 : binV 175 a a = 1 := by simp [binV, b2i]; try omega
  have e179 : binV 179 a a = 1 := by simp [binV, b2i]; try omega
  have q1 : binV 176 1 2 = 1 := by simp [binV, b2i]
  have q2 : binV 177 4294967295 0 = 1 := by simp [binV, b2i, wrap32]
  have m1 : binV 128 a 2147483648 = (a + 2147483648) % 4294967296 := rfl
  have hm : binV 176 ((a + 2147483648) % 4294967296) ((a + 2147483648) % 4294967296) = 0 := by simp [binV, b2i]; try (unfold wrap32 at h2; omega)
  have hb : Below w.heap.size w w := Below.refl _ _
  go_enter Try.func7, Try.ntmps7
  go_wp2_with (go_at_call 13; refine (twoV_any _ _ _ _ w _ (by assumption) (by first | assumption | decide) (by omega) (by omega) (by omega) (by omega) (by omega) (by omega)).mono ?_; rintro e w' ⟨rfl, hb⟩)
  go_ret
  exact ⟨rfl, by assumption⟩

set_option maxHeartbeats 4000000 in
theorem arithOrders_3 (a b : Int) (w : World) (a0 : 0 ≤ a) (a1 : a < 4294967296) (b0 : 0 ≤ b) (b1 : b < 4294967296) (h1 : b < a) (h2 : wrap32 a < wrap32 b) : Calls Try.prog 7 #[.int .u32 a, .int .u32 b] w fun e w' => e = .returned (.bool true) ∧ Below w.heap.size w w' := by
  have e176 : binV 176 a b = 0 := by simp [binV, b2i]; try omega
  have e170 : binV 170 a b = 0 := by simp [binV, b2i]; try omega
  have e172 : binV 172 a b = 1 := by simp [binV, b2i]; try omega
  have e177 : binV 177 a b = 1 := by simp [binV, b2i]; try omega
  have e173 : binV 173 a b = 0 := by simp [binV, b2i]; try omega
  have e174 : binV 174 a b = 1 := by simp [binV, b2i]; try omega
  have e178 : binV 178 a b = 0 := by simp [binV, b2i]; try omega
  have e171 : binV 171 a b = 1 := by simp [binV, b2i]; try omega
  have e175 : binV 175 a b = 0 := by simp [binV, b2i]; try omega
  have e179 : binV 179 a b = 1 := by simp [binV, b2i]; try omega
  have q1 : binV 176 1 2 = 1 := by simp [binV, b2i]
  have q2 : binV 177 4294967295 0 = 1 := by simp [binV, b2i, wrap32]
  have m1 : binV 128 a 2147483648 = (a + 2147483648) % 4294967296 := rfl
  have m2 : binV 128 b 2147483648 = (b + 2147483648) % 4294967296 := rfl
  have hm : binV 176 ((a + 2147483648) % 4294967296) ((b + 2147483648) % 4294967296) = 1 := by simp [binV, b2i]; try (unfold wrap32 at h2; omega)
  have e176b : binV 176 b a = 1 := by simp [binV, b2i]; try omega
  have hb : Below w.heap.size w w := Below.refl _ _
  go_enter Try.func7, Try.ntmps7
  go_wp2_with (go_at_call 13; refine (twoV_any _ _ _ _ w _ (by assumption) (by first | assumption | decide) (by omega) (by omega) (by omega) (by omega) (by omega) (by omega)).mono ?_; rintro e w' ⟨rfl, hb⟩)
  go_ret
  exact ⟨rfl, by assumption⟩

set_option maxHeartbeats 4000000 in
theorem arithOrders_4 (a b : Int) (w : World) (a0 : 0 ≤ a) (a1 : a < 4294967296) (b0 : 0 ≤ b) (b1 : b < 4294967296) (h1 : b < a) (h2 : wrap32 b < wrap32 a) : Calls Try.prog 7 #[.int .u32 a, .int .u32 b] w fun e w' => e = .returned (.bool true) ∧ Below w.heap.size w w' := by
  have e176 : binV 176 a b = 0 := by simp [binV, b2i]; try omega
  have e170 : binV 170 a b = 0 := by simp [binV, b2i]; try omega
  have e172 : binV 172 a b = 1 := by simp [binV, b2i]; try omega
  have e177 : binV 177 a b = 0 := by simp [binV, b2i]; try omega
  have e173 : binV 173 a b = 1 := by simp [binV, b2i]; try omega
  have e174 : binV 174 a b = 1 := by simp [binV, b2i]; try omega
  have e178 : binV 178 a b = 0 := by simp [binV, b2i]; try omega
  have e171 : binV 171 a b = 1 := by simp [binV, b2i]; try omega
  have e175 : binV 175 a b = 1 := by simp [binV, b2i]; try omega
  have e179 : binV 179 a b = 0 := by simp [binV, b2i]; try omega
  have q1 : binV 176 1 2 = 1 := by simp [binV, b2i]
  have q2 : binV 177 4294967295 0 = 1 := by simp [binV, b2i, wrap32]
  have m1 : binV 128 a 2147483648 = (a + 2147483648) % 4294967296 := rfl
  have m2 : binV 128 b 2147483648 = (b + 2147483648) % 4294967296 := rfl
  have hm : binV 176 ((a + 2147483648) % 4294967296) ((b + 2147483648) % 4294967296) = 0 := by simp [binV, b2i]; try (unfold wrap32 at h2; omega)
  have e176b : binV 176 b a = 1 := by simp [binV, b2i]; try omega
  have hb : Below w.heap.size w w := Below.refl _ _
  go_enter Try.func7, Try.ntmps7
  go_wp2_with (go_at_call 13; refine (twoV_any _ _ _ _ w _ (by assumption) (by first | assumption | decide) (by omega) (by omega) (by omega) (by omega) (by omega) (by omega)).mono ?_; rintro e w' ⟨rfl, hb⟩)
  go_ret
  exact ⟨rfl, by assumption⟩

theorem arithOrders_true (w : World) (a : Int) (ha : (Lit.int .u32 a).wf = true) (b : Int) (hb : (Lit.int .u32 b).wf = true) : Calls Try.prog 7 #[.int .u32 a, .int .u32 b] w fun e w' => e = .returned (.bool true) ∧ Below w.heap.size w w' := by
  have ha' : 0 ≤ a ∧ a < 4294967296 := by simp [Lit.wf, show IntKind.u32.min = 0 from rfl, show IntKind.u32.max = 4294967295 from rfl] at ha; omega
  have hb' : 0 ≤ b ∧ b < 4294967296 := by simp [Lit.wf, show IntKind.u32.min = 0 from rfl, show IntKind.u32.max = 4294967295 from rfl] at hb; omega
  obtain ⟨a0, a1⟩ := ha'
  obtain ⟨b0, b1⟩ := hb'
  by_cases h1 : a = b
  · exact arithOrders_2 a b w a0 a1 b0 b1 h1
  · have hw : wrap32 a ≠ wrap32 b := by unfold wrap32; omega
    by_cases h2 : a < b
    · by_cases h3 : wrap32 a < wrap32 b
      · exact arithOrders_0 a b w a0 a1 b0 b1 h2 h3
      · exact arithOrders_1 a b w a0 a1 b0 b1 h2 (by omega)
    · by_cases h3 : wrap32 a < wrap32 b
      · exact arithOrders_3 a b w a0 a1 b0 b1 (by omega) h3
      · exact arithOrders_4 a b w a0 a1 b0 b1 (by omega) (by omega)

end Go.Proofs.Ytaegchobdhbjmaa
