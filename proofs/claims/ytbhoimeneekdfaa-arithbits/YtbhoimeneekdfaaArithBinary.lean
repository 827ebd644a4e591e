/-
  What Binary of arith answers, for all operations and words.
-/
import Derived.WalkSpells
import Derived.WalkMore
import Derived.Laws.EntriesVeiled
import Derived.Test.YtbhoimeneekdfaaMathAr
import Derived.Test.YtbhoimeneekdfaaArithTwos
namespace Go.Proofs.Ytbhoimeneekdfaa
open Go.RowKit Go.Maps
set_option linter.unusedVariables false
set_option linter.unusedSimpArgs false
set_option maxRecDepth 10000

set_option maxHeartbeats 2000000 in
theorem ofQuotients6_any (op a b : Int) (p n : Nat) (w : World) (a0 : 0 ≤ a) (a1 : a < 4294967296) (b0 : 0 ≤ b) (b1 : b < 4294967296) (hc : w.cell? ⟨p, 0, none⟩ = some (.func (.func n) #[] #[])) (hD : TwoD op n) (hz : ∀ a, binV op a 0 = 0) :
    Calls Try.prog 73 #[.int .u32 a, .int .u32 b, .pointer (some ⟨p, 0, none⟩)] w fun e w' => e = .returned (.int .u32 (binV op a b)) ∧ w = w' := by
  by_cases hb : b = 0
  · subst hb
    go_enter Try.func73, Try.ntmps73
    go_wp2
    go_ret
    exact ⟨by rw [hz]; rfl, rfl⟩
  · have hC := fun W => hD.2 a b W a0 a1 b0 b1 hb
    have hEn := hD.1
    unfold Enters at hEn
    generalize binV op a b = V at *
    clear hD
    go_enter Try.func73, Try.ntmps73
    go_wp2_with fail
    refine (hC _).mono ?_
    rintro e w' ⟨rfl, rfl⟩
    go_wp2
    go_ret
    exact ⟨rfl, rfl⟩

set_option maxHeartbeats 2000000 in
theorem arithBinary_any (op a b : Int) (w : World) (h0 : 0 ≤ op) (h1 : op < 65536) (a0 : 0 ≤ a) (a1 : a < 4294967296) (b0 : 0 ≤ b) (b1 : b < 4294967296) : Calls Try.prog 24 #[.int .u16 op, .int .u32 a, .int .u32 b] w fun e w' => e = .returned (.tuple #[.int .u32 (binV op a b), .bool (binB op)]) ∧ Below w.heap.size w w' := by
  have hE := nilzeroFn0
  have hE2 := somezeroFn0
  have hO := ofTwo_any op w h0 h1
  go_enter Try.func24, Try.ntmps24
  go_wp2_with fail
  refine hO.mono ?_
  rintro e w' ⟨v, rfl, hq, hb⟩
  rcases hq with ⟨q1, q2, rfl⟩ | ⟨n, rfl, q2, q3⟩ | ⟨p, n, rfl, q2, q3, q4, q5, q6⟩
  · go_wp2
    go_ret2
    exact ⟨by simp [q1, q2], hb⟩
  · have hC := fun W => q3.2 a b W a0 a1 b0 b1
    have hEn := q3.1
    unfold Enters at hEn
    clear q3 hO
    go_wp2_with fail
    refine (hC _).mono ?_
    rintro e w'' ⟨rfl, rfl⟩
    go_wp2
    go_ret2
    exact ⟨by simp [q2], hb⟩
  · have hC := fun W hW => ofQuotients6_any op a b p n W a0 a1 b0 b1 hW q5 q6
    clear q5 q6 hO
    go_wp2_with fail
    refine (hC _ q4).mono ?_
    rintro e w'' ⟨rfl, rfl⟩
    go_wp2
    go_ret2
    exact ⟨by simp [q2], hb⟩

theorem two13_any (op a b : Int) (w : World) (h0 : 0 ≤ op) (h1 : op < 65536) (a0 : 0 ≤ a) (a1 : a < 4294967296) (b0 : 0 ≤ b) (b1 : b < 4294967296) : Calls Try.prog 13 #[.int .u16 op, .int .u32 a, .int .u32 b] w fun e w' => e = .returned (.int .u32 (binV op a b)) ∧ Below w.heap.size w w' := by
  have hO := arithBinary_any op a b w h0 h1 a0 a1 b0 b1
  generalize binV op a b = V at *
  go_enter Try.func13, Try.ntmps13
  go_wp2_with fail
  refine hO.mono ?_
  rintro e w' ⟨rfl, hb⟩
  go_wp2
  go_ret
  exact ⟨rfl, hb⟩

theorem twoV_any (op a b v : Int) (W w : World) (hW : Below W.heap.size W w) (hv : binV op a b = v) (h0 : 0 ≤ op) (h1 : op < 65536) (a0 : 0 ≤ a) (a1 : a < 4294967296) (b0 : 0 ≤ b) (b1 : b < 4294967296) : Calls Try.prog 13 #[.int .u16 op, .int .u32 a, .int .u32 b] w fun e w' => e = .returned (.int .u32 v) ∧ Below W.heap.size W w' := by
  subst hv
  refine (two13_any op a b w h0 h1 a0 a1 b0 b1).mono ?_
  rintro e w' ⟨rfl, hb⟩
  exact ⟨rfl, hW.trans (hb.mono hW.size)⟩

end Go.Proofs.Ytbhoimeneekdfaa
