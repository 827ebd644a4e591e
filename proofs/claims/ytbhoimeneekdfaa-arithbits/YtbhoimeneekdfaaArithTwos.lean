/-
  What the operations of two words of arith answer, for all operations and words.
-/
import Derived.WalkSpells
import Derived.WalkMore
import Derived.Laws.EntriesVeiled
import Derived.Test.YtbhoimeneekdfaaMathAr
import Derived.Test.YtbhoimeneekdfaaMapF
import Derived.Test.YtbhoimeneekdfaaArithMaps
namespace Go.Proofs.Ytbhoimeneekdfaa
open Go.RowKit Go.Maps
set_option linter.unusedVariables false
set_option linter.unusedSimpArgs false
set_option maxRecDepth 10000

theorem bne_dec (a b : Int) : (a != b) = decide (a ≠ b) := by cases h : (a != b) <;> simp_all
theorem beq_dec (a b : Int) : (a == b) = decide (a = b) := by cases h : (a == b) <;> simp_all

theorem word13_any (x : Bool) (w : World) : Calls Try.prog 33 #[.bool x] w fun e w' => e = .returned (.int .u32 (b2i x)) ∧ w = w' := by
  cases x
  · go_enter Try.func33, Try.ntmps33
    go_wp2
    go_ret
    exact ⟨rfl, rfl⟩
  · go_enter Try.func33, Try.ntmps33
    go_wp2
    go_ret
    exact ⟨rfl, rfl⟩

theorem within_any (op a b : Int) (w : World) : Calls Try.prog 19 #[.int .u16 op, .int .u16 a, .int .u16 b] w fun e w' => e = .returned (.bool (decide (a ≤ op ∧ op ≤ b))) ∧ w = w' := by
  by_cases h1 : a ≤ op
  · by_cases h2 : op ≤ b
    · go_enter Try.func19, Try.ntmps19
      go_wp2
      go_ret
      exact ⟨by simp [h1, h2], rfl⟩
    · go_enter Try.func19, Try.ntmps19
      go_wp2
      go_ret
      exact ⟨by simp [h1, h2], rfl⟩
  · go_enter Try.func19, Try.ntmps19
    go_wp2
    go_ret
    exact ⟨by simp [show ¬ a ≤ op by omega], rfl⟩

theorem ofSums1_any (a b : Int) (w : World) (a0 : 0 ≤ a) (a1 : a < 4294967296) (b0 : 0 ≤ b) (b1 : b < 4294967296) : Calls Try.prog 64 #[.int .u32 a, .int .u32 b] w fun e w' => e = .returned (.int .u32 (binV 128 a b)) ∧ w = w' := by
  go_enter Try.func64, Try.ntmps64
  go_wp2
  go_ret
  exact ⟨by simp [binV, bne_dec, beq_dec], rfl⟩

theorem ofSums2_any (a b : Int) (w : World) (a0 : 0 ≤ a) (a1 : a < 4294967296) (b0 : 0 ≤ b) (b1 : b < 4294967296) : Calls Try.prog 65 #[.int .u32 a, .int .u32 b] w fun e w' => e = .returned (.int .u32 (binV 130 a b)) ∧ w = w' := by
  go_enter Try.func65, Try.ntmps65
  go_wp2
  go_ret
  exact ⟨by simp [binV, bne_dec, beq_dec], rfl⟩

theorem ofSums3_any (a b : Int) (w : World) (a0 : 0 ≤ a) (a1 : a < 4294967296) (b0 : 0 ≤ b) (b1 : b < 4294967296) : Calls Try.prog 66 #[.int .u32 a, .int .u32 b] w fun e w' => e = .returned (.int .u32 (binV 132 a b)) ∧ w = w' := by
  go_enter Try.func66, Try.ntmps66
  go_wp2
  go_ret
  exact ⟨by simp [binV, bne_dec, beq_dec], rfl⟩

theorem ofTruths1_any (a b : Int) (w : World) (a0 : 0 ≤ a) (a1 : a < 4294967296) (b0 : 0 ≤ b) (b1 : b < 4294967296) : Calls Try.prog 74 #[.int .u32 a, .int .u32 b] w fun e w' => e = .returned (.int .u32 (binV 164 a b)) ∧ w = w' := by
  by_cases ha : a = 0
  · by_cases hb : b = 0
    · go_enter Try.func74, Try.ntmps74
      go_wp2_with (go_at_call 33; refine (word13_any _ _).mono ?_; rintro e w' ⟨rfl, rfl⟩)
      go_ret
      exact ⟨by simp [binV, bne_dec, beq_dec, ha, hb], rfl⟩
    · go_enter Try.func74, Try.ntmps74
      go_wp2_with (go_at_call 33; refine (word13_any _ _).mono ?_; rintro e w' ⟨rfl, rfl⟩)
      go_ret
      exact ⟨by simp [binV, bne_dec, beq_dec, ha, hb], rfl⟩
  · by_cases hb : b = 0
    · go_enter Try.func74, Try.ntmps74
      go_wp2_with (go_at_call 33; refine (word13_any _ _).mono ?_; rintro e w' ⟨rfl, rfl⟩)
      go_ret
      exact ⟨by simp [binV, bne_dec, beq_dec, ha, hb], rfl⟩
    · go_enter Try.func74, Try.ntmps74
      go_wp2_with (go_at_call 33; refine (word13_any _ _).mono ?_; rintro e w' ⟨rfl, rfl⟩)
      go_ret
      exact ⟨by simp [binV, bne_dec, beq_dec, ha, hb], rfl⟩

theorem ofTruths2_any (a b : Int) (w : World) (a0 : 0 ≤ a) (a1 : a < 4294967296) (b0 : 0 ≤ b) (b1 : b < 4294967296) : Calls Try.prog 75 #[.int .u32 a, .int .u32 b] w fun e w' => e = .returned (.int .u32 (binV 165 a b)) ∧ w = w' := by
  by_cases ha : a = 0
  · by_cases hb : b = 0
    · go_enter Try.func75, Try.ntmps75
      go_wp2_with (go_at_call 33; refine (word13_any _ _).mono ?_; rintro e w' ⟨rfl, rfl⟩)
      go_ret
      exact ⟨by simp [binV, bne_dec, beq_dec, ha, hb], rfl⟩
    · go_enter Try.func75, Try.ntmps75
      go_wp2_with (go_at_call 33; refine (word13_any _ _).mono ?_; rintro e w' ⟨rfl, rfl⟩)
      go_ret
      exact ⟨by simp [binV, bne_dec, beq_dec, ha, hb], rfl⟩
  · by_cases hb : b = 0
    · go_enter Try.func75, Try.ntmps75
      go_wp2_with (go_at_call 33; refine (word13_any _ _).mono ?_; rintro e w' ⟨rfl, rfl⟩)
      go_ret
      exact ⟨by simp [binV, bne_dec, beq_dec, ha, hb], rfl⟩
    · go_enter Try.func75, Try.ntmps75
      go_wp2_with (go_at_call 33; refine (word13_any _ _).mono ?_; rintro e w' ⟨rfl, rfl⟩)
      go_ret
      exact ⟨by simp [binV, bne_dec, beq_dec, ha, hb], rfl⟩

theorem ofTruths3_any (a b : Int) (w : World) (a0 : 0 ≤ a) (a1 : a < 4294967296) (b0 : 0 ≤ b) (b1 : b < 4294967296) : Calls Try.prog 76 #[.int .u32 a, .int .u32 b] w fun e w' => e = .returned (.int .u32 (binV 166 a b)) ∧ w = w' := by
  by_cases ha : a = 0
  · by_cases hb : b = 0
    · go_enter Try.func76, Try.ntmps76
      go_wp2_with (go_at_call 33; refine (word13_any _ _).mono ?_; rintro e w' ⟨rfl, rfl⟩)
      go_ret
      exact ⟨by simp [binV, bne_dec, beq_dec, ha, hb], rfl⟩
    · go_enter Try.func76, Try.ntmps76
      go_wp2_with (go_at_call 33; refine (word13_any _ _).mono ?_; rintro e w' ⟨rfl, rfl⟩)
      go_ret
      exact ⟨by simp [binV, bne_dec, beq_dec, ha, hb], rfl⟩
  · by_cases hb : b = 0
    · go_enter Try.func76, Try.ntmps76
      go_wp2_with (go_at_call 33; refine (word13_any _ _).mono ?_; rintro e w' ⟨rfl, rfl⟩)
      go_ret
      exact ⟨by simp [binV, bne_dec, beq_dec, ha, hb], rfl⟩
    · go_enter Try.func76, Try.ntmps76
      go_wp2_with (go_at_call 33; refine (word13_any _ _).mono ?_; rintro e w' ⟨rfl, rfl⟩)
      go_ret
      exact ⟨by simp [binV, bne_dec, beq_dec, ha, hb], rfl⟩

theorem ofTruths4_any (a b : Int) (w : World) (a0 : 0 ≤ a) (a1 : a < 4294967296) (b0 : 0 ≤ b) (b1 : b < 4294967296) : Calls Try.prog 77 #[.int .u32 a, .int .u32 b] w fun e w' => e = .returned (.int .u32 (binV 167 a b)) ∧ w = w' := by
  by_cases ha : a = 0
  · by_cases hb : b = 0
    · go_enter Try.func77, Try.ntmps77
      go_wp2_with (go_at_call 33; refine (word13_any _ _).mono ?_; rintro e w' ⟨rfl, rfl⟩)
      go_ret
      exact ⟨by simp [binV, bne_dec, beq_dec, ha, hb], rfl⟩
    · go_enter Try.func77, Try.ntmps77
      go_wp2_with (go_at_call 33; refine (word13_any _ _).mono ?_; rintro e w' ⟨rfl, rfl⟩)
      go_ret
      exact ⟨by simp [binV, bne_dec, beq_dec, ha, hb], rfl⟩
  · by_cases hb : b = 0
    · go_enter Try.func77, Try.ntmps77
      go_wp2_with (go_at_call 33; refine (word13_any _ _).mono ?_; rintro e w' ⟨rfl, rfl⟩)
      go_ret
      exact ⟨by simp [binV, bne_dec, beq_dec, ha, hb], rfl⟩
    · go_enter Try.func77, Try.ntmps77
      go_wp2_with (go_at_call 33; refine (word13_any _ _).mono ?_; rintro e w' ⟨rfl, rfl⟩)
      go_ret
      exact ⟨by simp [binV, bne_dec, beq_dec, ha, hb], rfl⟩

theorem ofGreater1_any (a b : Int) (w : World) (a0 : 0 ≤ a) (a1 : a < 4294967296) (b0 : 0 ≤ b) (b1 : b < 4294967296) : Calls Try.prog 78 #[.int .u32 a, .int .u32 b] w fun e w' => e = .returned (.int .u32 (binV 170 a b)) ∧ w = w' := by
  go_enter Try.func78, Try.ntmps78
  go_wp2_with (go_at_call 33; refine (word13_any _ _).mono ?_; rintro e w' ⟨rfl, rfl⟩)
  go_ret
  exact ⟨by simp [binV, bne_dec, beq_dec], rfl⟩

theorem ofGreater2_any (a b : Int) (w : World) (a0 : 0 ≤ a) (a1 : a < 4294967296) (b0 : 0 ≤ b) (b1 : b < 4294967296) : Calls Try.prog 79 #[.int .u32 a, .int .u32 b] w fun e w' => e = .returned (.int .u32 (binV 171 a b)) ∧ w = w' := by
  go_enter Try.func79, Try.ntmps79
  go_wp2_with (go_at_call 33; refine (word13_any _ _).mono ?_; rintro e w' ⟨rfl, rfl⟩)
  go_ret
  exact ⟨by simp [binV, bne_dec, beq_dec], rfl⟩

theorem ofGreater3_any (a b : Int) (w : World) (a0 : 0 ≤ a) (a1 : a < 4294967296) (b0 : 0 ≤ b) (b1 : b < 4294967296) : Calls Try.prog 80 #[.int .u32 a, .int .u32 b] w fun e w' => e = .returned (.int .u32 (binV 172 a b)) ∧ w = w' := by
  go_enter Try.func80, Try.ntmps80
  go_wp2_with (go_at_call 33; refine (word13_any _ _).mono ?_; rintro e w' ⟨rfl, rfl⟩)
  go_ret
  exact ⟨by simp [binV, bne_dec, beq_dec], rfl⟩

theorem ofGreater4_any (a b : Int) (w : World) (a0 : 0 ≤ a) (a1 : a < 4294967296) (b0 : 0 ≤ b) (b1 : b < 4294967296) : Calls Try.prog 81 #[.int .u32 a, .int .u32 b] w fun e w' => e = .returned (.int .u32 (binV 174 a b)) ∧ w = w' := by
  go_enter Try.func81, Try.ntmps81
  go_wp2_with (go_at_call 33; refine (word13_any _ _).mono ?_; rintro e w' ⟨rfl, rfl⟩)
  go_ret
  exact ⟨by simp [binV, bne_dec, beq_dec], rfl⟩

theorem ofGreater5_any (a b : Int) (w : World) (a0 : 0 ≤ a) (a1 : a < 4294967296) (b0 : 0 ≤ b) (b1 : b < 4294967296) : Calls Try.prog 82 #[.int .u32 a, .int .u32 b] w fun e w' => e = .returned (.int .u32 (binV 173 a b)) ∧ w = w' := by
  go_enter Try.func82, Try.ntmps82
  go_wp2_with (go_at_call 33; refine (word13_any _ _).mono ?_; rintro e w' ⟨rfl, rfl⟩)
  go_ret
  exact ⟨by simp [binV, bne_dec, beq_dec], rfl⟩

theorem ofGreater6_any (a b : Int) (w : World) (a0 : 0 ≤ a) (a1 : a < 4294967296) (b0 : 0 ≤ b) (b1 : b < 4294967296) : Calls Try.prog 83 #[.int .u32 a, .int .u32 b] w fun e w' => e = .returned (.int .u32 (binV 175 a b)) ∧ w = w' := by
  go_enter Try.func83, Try.ntmps83
  go_wp2_with (go_at_call 33; refine (word13_any _ _).mono ?_; rintro e w' ⟨rfl, rfl⟩)
  go_ret
  exact ⟨by simp [binV, bne_dec, beq_dec], rfl⟩

theorem ofLess1_any (a b : Int) (w : World) (a0 : 0 ≤ a) (a1 : a < 4294967296) (b0 : 0 ≤ b) (b1 : b < 4294967296) : Calls Try.prog 84 #[.int .u32 a, .int .u32 b] w fun e w' => e = .returned (.int .u32 (binV 176 a b)) ∧ w = w' := by
  go_enter Try.func84, Try.ntmps84
  go_wp2_with (go_at_call 33; refine (word13_any _ _).mono ?_; rintro e w' ⟨rfl, rfl⟩)
  go_ret
  exact ⟨by simp [binV, bne_dec, beq_dec], rfl⟩

theorem ofLess2_any (a b : Int) (w : World) (a0 : 0 ≤ a) (a1 : a < 4294967296) (b0 : 0 ≤ b) (b1 : b < 4294967296) : Calls Try.prog 85 #[.int .u32 a, .int .u32 b] w fun e w' => e = .returned (.int .u32 (binV 178 a b)) ∧ w = w' := by
  go_enter Try.func85, Try.ntmps85
  go_wp2_with (go_at_call 33; refine (word13_any _ _).mono ?_; rintro e w' ⟨rfl, rfl⟩)
  go_ret
  exact ⟨by simp [binV, bne_dec, beq_dec], rfl⟩

theorem ofLess3_any (a b : Int) (w : World) (a0 : 0 ≤ a) (a1 : a < 4294967296) (b0 : 0 ≤ b) (b1 : b < 4294967296) : Calls Try.prog 86 #[.int .u32 a, .int .u32 b] w fun e w' => e = .returned (.int .u32 (binV 177 a b)) ∧ w = w' := by
  go_enter Try.func86, Try.ntmps86
  go_wp2_with (go_at_call 33; refine (word13_any _ _).mono ?_; rintro e w' ⟨rfl, rfl⟩)
  go_ret
  exact ⟨by simp [binV, bne_dec, beq_dec], rfl⟩

theorem ofLess4_any (a b : Int) (w : World) (a0 : 0 ≤ a) (a1 : a < 4294967296) (b0 : 0 ≤ b) (b1 : b < 4294967296) : Calls Try.prog 87 #[.int .u32 a, .int .u32 b] w fun e w' => e = .returned (.int .u32 (binV 179 a b)) ∧ w = w' := by
  go_enter Try.func87, Try.ntmps87
  go_wp2_with (go_at_call 33; refine (word13_any _ _).mono ?_; rintro e w' ⟨rfl, rfl⟩)
  go_ret
  exact ⟨by simp [binV, bne_dec, beq_dec], rfl⟩

theorem ofBits1_any (a b : Int) (w : World) (a0 : 0 ≤ a) (a1 : a < 4294967296) (b0 : 0 ≤ b) (b1 : b < 4294967296) : Calls Try.prog 88 #[.int .u32 a, .int .u32 b] w fun e w' => e = .returned (.int .u32 (binV 194 a b)) ∧ w = w' := by
  go_enter Try.func88, Try.ntmps88
  go_wp2
  go_ret
  exact ⟨by simp [binV, bne_dec, beq_dec], rfl⟩

theorem ofBits2_any (a b : Int) (w : World) (a0 : 0 ≤ a) (a1 : a < 4294967296) (b0 : 0 ≤ b) (b1 : b < 4294967296) : Calls Try.prog 89 #[.int .u32 a, .int .u32 b] w fun e w' => e = .returned (.int .u32 (binV 195 a b)) ∧ w = w' := by
  go_enter Try.func89, Try.ntmps89
  go_wp2
  go_ret
  exact ⟨by simp [binV, bne_dec, beq_dec], rfl⟩

theorem ofBits3_any (a b : Int) (w : World) (a0 : 0 ≤ a) (a1 : a < 4294967296) (b0 : 0 ≤ b) (b1 : b < 4294967296) : Calls Try.prog 90 #[.int .u32 a, .int .u32 b] w fun e w' => e = .returned (.int .u32 (binV 196 a b)) ∧ w = w' := by
  go_enter Try.func90, Try.ntmps90
  go_wp2
  go_ret
  exact ⟨by simp [binV, bne_dec, beq_dec], rfl⟩

theorem ofBits4_any (a b : Int) (w : World) (a0 : 0 ≤ a) (a1 : a < 4294967296) (b0 : 0 ≤ b) (b1 : b < 4294967296) : Calls Try.prog 91 #[.int .u32 a, .int .u32 b] w fun e w' => e = .returned (.int .u32 (binV 197 a b)) ∧ w = w' := by
  go_enter Try.func91, Try.ntmps91
  go_wp2
  go_ret
  exact ⟨by simp [binV, bne_dec, beq_dec], rfl⟩

theorem ofBits5_any (a b : Int) (w : World) (a0 : 0 ≤ a) (a1 : a < 4294967296) (b0 : 0 ≤ b) (b1 : b < 4294967296) : Calls Try.prog 92 #[.int .u32 a, .int .u32 b] w fun e w' => e = .returned (.int .u32 (binV 198 a b)) ∧ w = w' := by
  go_enter Try.func92, Try.ntmps92
  go_wp2
  go_ret
  exact ⟨by simp [binV, bne_dec, beq_dec], rfl⟩

theorem ofBits6_any (a b : Int) (w : World) (a0 : 0 ≤ a) (a1 : a < 4294967296) (b0 : 0 ≤ b) (b1 : b < 4294967296) : Calls Try.prog 93 #[.int .u32 a, .int .u32 b] w fun e w' => e = .returned (.int .u32 (binV 199 a b)) ∧ w = w' := by
  go_enter Try.func93, Try.ntmps93
  go_wp2
  go_ret
  exact ⟨by simp [binV, bne_dec, beq_dec], rfl⟩

theorem ofQuotients1_any (a b : Int) (w : World) (a0 : 0 ≤ a) (a1 : a < 4294967296) (b0 : 0 ≤ b) (b1 : b < 4294967296) (hb : b ≠ 0) : Calls Try.prog 67 #[.int .u32 a, .int .u32 b] w fun e w' => e = .returned (.int .u32 (binV 134 a b)) ∧ w = w' := by
  have hs := wrap_zero b b0 b1 hb
  have hI := wrap_in a
  have hJ := wrap_in b
  go_enter Try.func67, Try.ntmps67
  go_wp2
  go_ret
  exact ⟨by simp [binV, hb], rfl⟩

theorem ofQuotients2_any (a b : Int) (w : World) (a0 : 0 ≤ a) (a1 : a < 4294967296) (b0 : 0 ≤ b) (b1 : b < 4294967296) (hb : b ≠ 0) : Calls Try.prog 68 #[.int .u32 a, .int .u32 b] w fun e w' => e = .returned (.int .u32 (binV 137 a b)) ∧ w = w' := by
  have hs := wrap_zero b b0 b1 hb
  have hI := wrap_in a
  have hJ := wrap_in b
  go_enter Try.func68, Try.ntmps68
  go_wp2
  go_ret
  exact ⟨by simp [binV, hb], rfl⟩

theorem ofQuotients3_any (a b : Int) (w : World) (a0 : 0 ≤ a) (a1 : a < 4294967296) (b0 : 0 ≤ b) (b1 : b < 4294967296) (hb : b ≠ 0) : Calls Try.prog 69 #[.int .u32 a, .int .u32 b] w fun e w' => e = .returned (.int .u32 (binV 135 a b)) ∧ w = w' := by
  have hs := wrap_zero b b0 b1 hb
  have hI := wrap_in a
  have hJ := wrap_in b
  go_enter Try.func69, Try.ntmps69
  go_wp2
  go_ret
  exact ⟨by simp [binV, hb, wrap_mod], rfl⟩

theorem ofQuotients4_any (a b : Int) (w : World) (a0 : 0 ≤ a) (a1 : a < 4294967296) (b0 : 0 ≤ b) (b1 : b < 4294967296) (hb : b ≠ 0) : Calls Try.prog 70 #[.int .u32 a, .int .u32 b] w fun e w' => e = .returned (.int .u32 (binV 138 a b)) ∧ w = w' := by
  have hs := wrap_zero b b0 b1 hb
  have hI := wrap_in a
  have hJ := wrap_in b
  go_enter Try.func70, Try.ntmps70
  go_wp2
  go_ret
  exact ⟨by simp [binV, hb], rfl⟩

theorem floored_any (s t : Int) (w : World) (s0 : -2147483648 ≤ s) (s1 : s < 2147483648) (t0 : -2147483648 ≤ t) (t1 : t < 2147483648) (ht : t ≠ 0) : Calls Try.prog 72 #[.int .i32 s, .int .i32 t] w fun e w' => e = .returned (.int .i32 (flo s t)) ∧ w = w' := by
  have hm := tmod_in s t ht
  have hm2 : s.tmod t < 2147483648 ∧ -2147483648 ≤ s.tmod t := by omega
  clear hm
  by_cases h1 : s.tmod t = 0
  · go_enter Try.func72, Try.ntmps72
    go_wp2
    go_ret
    exact ⟨by simp [flo, h1], rfl⟩
  · by_cases h3 : t < 0
    · by_cases h4 : s.tmod t < 0
      · skip
        go_enter Try.func72, Try.ntmps72
        go_wp2
        go_ret
        exact ⟨by simp [flo, h1, h3, h4], rfl⟩

      · have hw : wrap32 (s.tmod t + t) = s.tmod t + t := by unfold wrap32; omega
        go_enter Try.func72, Try.ntmps72
        go_wp2
        go_ret
        exact ⟨by simp [flo, h1, h3, show ¬ s.tmod t < 0 by omega, hw], rfl⟩
    · by_cases h4 : s.tmod t < 0
      · have hw : wrap32 (s.tmod t + t) = s.tmod t + t := by unfold wrap32; omega
        go_enter Try.func72, Try.ntmps72
        go_wp2
        go_ret
        exact ⟨by simp [flo, h1, show ¬ t < 0 by omega, h4, hw], rfl⟩

      · skip
        go_enter Try.func72, Try.ntmps72
        go_wp2
        go_ret
        exact ⟨by simp [flo, h1, show ¬ t < 0 by omega, show ¬ s.tmod t < 0 by omega], rfl⟩

theorem ofQuotients5_any (a b : Int) (w : World) (a0 : 0 ≤ a) (a1 : a < 4294967296) (b0 : 0 ≤ b) (b1 : b < 4294967296) (hb : b ≠ 0) : Calls Try.prog 71 #[.int .u32 a, .int .u32 b] w fun e w' => e = .returned (.int .u32 (binV 139 a b)) ∧ w = w' := by
  have hs := wrap_zero b b0 b1 hb
  have hI := wrap_in a
  have hJ := wrap_in b
  go_enter Try.func71, Try.ntmps71
  go_wp2_with (go_at_call 72; refine (floored_any _ _ _ hI.1 hI.2 hJ.1 hJ.2 hs).mono ?_; rintro e w' ⟨rfl, rfl⟩)
  go_ret
  exact ⟨by simp [binV, hb], rfl⟩

/-- Which function divides. -/
def quoV (op : Int) : Value := if op = 139 then fnV 71 else if op = 138 then fnV 70 else if op = 135 then fnV 69 else if op = 137 then fnV 68 else if op = 134 then fnV 67 else .nilFunc

set_option maxHeartbeats 2000000 in
theorem ofQuotients_any (op : Int) (w : World) (h0 : 0 ≤ op) (h1 : op < 65536) : Calls Try.prog 59 #[.int .u16 op] w fun e w' => ((quoV op = .nilFunc ∧ e = .returned .nilFunc) ∨ ∃ p n, quoV op = .func (.func n) #[] #[] ∧ e = .returned (.func (.func 73) #[] #[.pointer (some ⟨p, 0, none⟩)]) ∧ p < w'.heap.size ∧ w'.cell? ⟨p, 0, none⟩ = some (quoV op)) ∧ Below w.heap.size w w' := by
  have hmm := @run_makeMap Try.prog
  obtain ⟨w1, r1, m1, g1⟩ := (MapF.made w).ins 68 _ Try.underlying68 (by unfold maxLen; omega) 134 (.func (.func 67) #[] #[]) (by omega) (by omega)
  have b1 := below_ins (below_made w) (Nat.le_refl _) (Nat.le_refl _) g1
  obtain ⟨w2, r2, m2, g2⟩ := m1.ins 68 _ Try.underlying68 (by unfold maxLen; omega) 137 (.func (.func 68) #[] #[]) (by omega) (by omega)
  have b2 := below_ins b1 (Nat.le_refl _) (Nat.le_refl _) g2
  obtain ⟨w3, r3, m3, g3⟩ := m2.ins 68 _ Try.underlying68 (by unfold maxLen; omega) 135 (.func (.func 69) #[] #[]) (by omega) (by omega)
  have b3 := below_ins b2 (Nat.le_refl _) (Nat.le_refl _) g3
  obtain ⟨w4, r4, m4, g4⟩ := m3.ins 68 _ Try.underlying68 (by unfold maxLen; omega) 138 (.func (.func 70) #[] #[]) (by omega) (by omega)
  have b4 := below_ins b3 (Nat.le_refl _) (Nat.le_refl _) g4
  obtain ⟨w5, r5, m5, g5⟩ := m4.ins 68 _ Try.underlying68 (by unfold maxLen; omega) 139 (.func (.func 71) #[] #[]) (by omega) (by omega)
  have b5 := below_ins b4 (Nat.le_refl _) (Nat.le_refl _) g5
  have hlk := m5.look 68 _ Try.underlying68 (zeroFn0 _) op h0 h1
  change _ = Result.ok (quoV op) _ at hlk
  have hc : quoV op = .nilFunc ∨ ∃ n, quoV op = .func (.func n) #[] #[] := by
    unfold quoV
    repeat' split
    all_goals first | exact .inr ⟨_, rfl⟩ | exact .inl rfl
  generalize quoV op = V at *
  clear m1 m2 m3 m4 m5 g1 g2 g3 g4 g5 b1 b2 b3 b4
  have hE := nilzeroFn0
  have hE2 := somezeroFn0
  rcases hc with rfl | ⟨n, rfl⟩
  · go_enter Try.func59, Try.ntmps59
    go_wp2
    go_ret
    exact ⟨.inl ⟨by first | rfl | trivial, rfl⟩, (b5.alloc b5.size _)⟩
  · go_enter Try.func59, Try.ntmps59
    go_wp2
    go_ret
    refine ⟨.inr ⟨_, _, rfl, rfl, ?_, ?_⟩, (b5.alloc b5.size _)⟩
    · simp
    · simp

/-- Function n is entered when it is called. -/
def Enters (n : Nat) : Prop := ∀ (args : Array Value) (w : World), (callFunc n args).run Try.prog w = .ok (.enter n args) w
/-- A function of two words that answers what the operation makes. -/
def TwoN (op : Int) (n : Nat) : Prop := Enters n ∧ ∀ (a b : Int) (W : World), 0 ≤ a → a < 4294967296 → 0 ≤ b → b < 4294967296 → Calls Try.prog n #[.int .u32 a, .int .u32 b] W fun e w' => e = .returned (.int .u32 (binV op a b)) ∧ W = w'
/-- .. where the second one is not 0. -/
def TwoD (op : Int) (n : Nat) : Prop := Enters n ∧ ∀ (a b : Int) (W : World), 0 ≤ a → a < 4294967296 → 0 ≤ b → b < 4294967296 → b ≠ 0 → Calls Try.prog n #[.int .u32 a, .int .u32 b] W fun e w' => e = .returned (.int .u32 (binV op a b)) ∧ W = w'
def TwoQ (op : Int) (v : Value) (w' : World) : Prop :=
  (binB op = false ∧ binV op = (fun _ _ => 0) ∧ v = .nilFunc) ∨ (∃ n, v = .func (.func n) #[] #[] ∧ binB op = true ∧ TwoN op n) ∨ ∃ p n, v = .func (.func 73) #[] #[.pointer (some ⟨p, 0, none⟩)] ∧ binB op = true ∧ p < w'.heap.size ∧ w'.cell? ⟨p, 0, none⟩ = some (.func (.func n) #[] #[]) ∧ TwoD op n ∧ ∀ a, binV op a 0 = 0
theorem TwoQ.none {op : Int} {w' : World} (h : ∀ x ∈ binOps, op ≠ x) : TwoQ op .nilFunc w' := by
  refine .inl ⟨?_, ?_, rfl⟩
  · unfold binB
    rw [Bool.eq_false_iff]
    intro e
    exact h op (by simpa using e) rfl
  · funext a b
    simp only [binOps, List.mem_cons, List.not_mem_nil, or_false, forall_eq_or_imp, forall_eq] at h
    obtain ⟨h1, h2, h3, h4, h5, h6, h7, h8, h9, h10, h11, h12, h13, h14, h15, h16, h17, h18, h19, h20, h21, h22, h23, h24, h25, h26, h27, h28⟩ := h
    simp only [binV, h1, h2, h3, h4, h5, h6, h7, h8, h9, h10, h11, h12, h13, h14, h15, h16, h17, h18, h19, h20, h21, h22, h23, h24, h25, h26, h27, h28, if_false]

theorem ofSumsV_q (op : Int) (w' : World) (h : 128 ≤ op ∧ op ≤ 132) : TwoQ op (ofSumsV op) w' := by
  by_cases e128 : op = 128
  · subst e128; exact .inr (.inl ⟨64, rfl, rfl, Try.call64, fun a b W => ofSums1_any a b W⟩)
  by_cases e130 : op = 130
  · subst e130; exact .inr (.inl ⟨65, rfl, rfl, Try.call65, fun a b W => ofSums2_any a b W⟩)
  by_cases e132 : op = 132
  · subst e132; exact .inr (.inl ⟨66, rfl, rfl, Try.call66, fun a b W => ofSums3_any a b W⟩)
  rw [show ofSumsV op = .nilFunc by simp [ofSumsV, e128, e130, e132]]
  exact TwoQ.none (by simp only [binOps, List.mem_cons, List.not_mem_nil, or_false, forall_eq_or_imp, forall_eq]; omega)

theorem ofTruthsV_q (op : Int) (w' : World) (h : 164 ≤ op ∧ op ≤ 167) : TwoQ op (ofTruthsV op) w' := by
  by_cases e164 : op = 164
  · subst e164; exact .inr (.inl ⟨74, rfl, rfl, Try.call74, fun a b W => ofTruths1_any a b W⟩)
  by_cases e165 : op = 165
  · subst e165; exact .inr (.inl ⟨75, rfl, rfl, Try.call75, fun a b W => ofTruths2_any a b W⟩)
  by_cases e166 : op = 166
  · subst e166; exact .inr (.inl ⟨76, rfl, rfl, Try.call76, fun a b W => ofTruths3_any a b W⟩)
  by_cases e167 : op = 167
  · subst e167; exact .inr (.inl ⟨77, rfl, rfl, Try.call77, fun a b W => ofTruths4_any a b W⟩)
  rw [show ofTruthsV op = .nilFunc by simp [ofTruthsV, e164, e165, e166, e167]]
  exact TwoQ.none (by simp only [binOps, List.mem_cons, List.not_mem_nil, or_false, forall_eq_or_imp, forall_eq]; omega)

theorem ofGreaterV_q (op : Int) (w' : World) (h : 170 ≤ op ∧ op ≤ 175) : TwoQ op (ofGreaterV op) w' := by
  by_cases e170 : op = 170
  · subst e170; exact .inr (.inl ⟨78, rfl, rfl, Try.call78, fun a b W => ofGreater1_any a b W⟩)
  by_cases e171 : op = 171
  · subst e171; exact .inr (.inl ⟨79, rfl, rfl, Try.call79, fun a b W => ofGreater2_any a b W⟩)
  by_cases e172 : op = 172
  · subst e172; exact .inr (.inl ⟨80, rfl, rfl, Try.call80, fun a b W => ofGreater3_any a b W⟩)
  by_cases e174 : op = 174
  · subst e174; exact .inr (.inl ⟨81, rfl, rfl, Try.call81, fun a b W => ofGreater4_any a b W⟩)
  by_cases e173 : op = 173
  · subst e173; exact .inr (.inl ⟨82, rfl, rfl, Try.call82, fun a b W => ofGreater5_any a b W⟩)
  by_cases e175 : op = 175
  · subst e175; exact .inr (.inl ⟨83, rfl, rfl, Try.call83, fun a b W => ofGreater6_any a b W⟩)
  rw [show ofGreaterV op = .nilFunc by simp [ofGreaterV, e170, e171, e172, e174, e173, e175]]
  exact TwoQ.none (by simp only [binOps, List.mem_cons, List.not_mem_nil, or_false, forall_eq_or_imp, forall_eq]; omega)

theorem ofLessV_q (op : Int) (w' : World) (h : 176 ≤ op ∧ op ≤ 179) : TwoQ op (ofLessV op) w' := by
  by_cases e176 : op = 176
  · subst e176; exact .inr (.inl ⟨84, rfl, rfl, Try.call84, fun a b W => ofLess1_any a b W⟩)
  by_cases e178 : op = 178
  · subst e178; exact .inr (.inl ⟨85, rfl, rfl, Try.call85, fun a b W => ofLess2_any a b W⟩)
  by_cases e177 : op = 177
  · subst e177; exact .inr (.inl ⟨86, rfl, rfl, Try.call86, fun a b W => ofLess3_any a b W⟩)
  by_cases e179 : op = 179
  · subst e179; exact .inr (.inl ⟨87, rfl, rfl, Try.call87, fun a b W => ofLess4_any a b W⟩)
  rw [show ofLessV op = .nilFunc by simp [ofLessV, e176, e178, e177, e179]]
  exact TwoQ.none (by simp only [binOps, List.mem_cons, List.not_mem_nil, or_false, forall_eq_or_imp, forall_eq]; omega)

theorem ofBitsV_q (op : Int) (w' : World) (h : 194 ≤ op ∧ op ≤ 199) : TwoQ op (ofBitsV op) w' := by
  by_cases e194 : op = 194
  · subst e194; exact .inr (.inl ⟨88, rfl, rfl, Try.call88, fun a b W => ofBits1_any a b W⟩)
  by_cases e195 : op = 195
  · subst e195; exact .inr (.inl ⟨89, rfl, rfl, Try.call89, fun a b W => ofBits2_any a b W⟩)
  by_cases e196 : op = 196
  · subst e196; exact .inr (.inl ⟨90, rfl, rfl, Try.call90, fun a b W => ofBits3_any a b W⟩)
  by_cases e197 : op = 197
  · subst e197; exact .inr (.inl ⟨91, rfl, rfl, Try.call91, fun a b W => ofBits4_any a b W⟩)
  by_cases e198 : op = 198
  · subst e198; exact .inr (.inl ⟨92, rfl, rfl, Try.call92, fun a b W => ofBits5_any a b W⟩)
  by_cases e199 : op = 199
  · subst e199; exact .inr (.inl ⟨93, rfl, rfl, Try.call93, fun a b W => ofBits6_any a b W⟩)
  rw [show ofBitsV op = .nilFunc by simp [ofBitsV, e194, e195, e196, e197, e198, e199]]
  exact TwoQ.none (by simp only [binOps, List.mem_cons, List.not_mem_nil, or_false, forall_eq_or_imp, forall_eq]; omega)

theorem quoV_q (op : Int) (w' : World) (v : Value) (h : 134 ≤ op ∧ op ≤ 139) (hq : (quoV op = .nilFunc ∧ v = .nilFunc) ∨ ∃ p n, quoV op = .func (.func n) #[] #[] ∧ v = .func (.func 73) #[] #[.pointer (some ⟨p, 0, none⟩)] ∧ p < w'.heap.size ∧ w'.cell? ⟨p, 0, none⟩ = some (quoV op)) : TwoQ op v w' := by
  by_cases e134 : op = 134
  · subst e134
    rcases hq with ⟨h1, _⟩ | ⟨p, n, h1, rfl, h3, h4⟩
    · cases h1
    · rw [h1] at h4
      have en : n = 67 := by
        have : quoV 134 = fnV 67 := rfl
        rw [this] at h1
        injection h1 with h1
        injection h1 with h1
        exact h1.symm
      subst en
      exact .inr (.inr ⟨p, _, rfl, rfl, h3, h4, ⟨Try.call67, fun a b W => ofQuotients1_any a b W⟩, fun a => by simp [binV]⟩)
  by_cases e137 : op = 137
  · subst e137
    rcases hq with ⟨h1, _⟩ | ⟨p, n, h1, rfl, h3, h4⟩
    · cases h1
    · rw [h1] at h4
      have en : n = 68 := by
        have : quoV 137 = fnV 68 := rfl
        rw [this] at h1
        injection h1 with h1
        injection h1 with h1
        exact h1.symm
      subst en
      exact .inr (.inr ⟨p, _, rfl, rfl, h3, h4, ⟨Try.call68, fun a b W => ofQuotients2_any a b W⟩, fun a => by simp [binV]⟩)
  by_cases e135 : op = 135
  · subst e135
    rcases hq with ⟨h1, _⟩ | ⟨p, n, h1, rfl, h3, h4⟩
    · cases h1
    · rw [h1] at h4
      have en : n = 69 := by
        have : quoV 135 = fnV 69 := rfl
        rw [this] at h1
        injection h1 with h1
        injection h1 with h1
        exact h1.symm
      subst en
      exact .inr (.inr ⟨p, _, rfl, rfl, h3, h4, ⟨Try.call69, fun a b W => ofQuotients3_any a b W⟩, fun a => by simp [binV]⟩)
  by_cases e138 : op = 138
  · subst e138
    rcases hq with ⟨h1, _⟩ | ⟨p, n, h1, rfl, h3, h4⟩
    · cases h1
    · rw [h1] at h4
      have en : n = 70 := by
        have : quoV 138 = fnV 70 := rfl
        rw [this] at h1
        injection h1 with h1
        injection h1 with h1
        exact h1.symm
      subst en
      exact .inr (.inr ⟨p, _, rfl, rfl, h3, h4, ⟨Try.call70, fun a b W => ofQuotients4_any a b W⟩, fun a => by simp [binV]⟩)
  by_cases e139 : op = 139
  · subst e139
    rcases hq with ⟨h1, _⟩ | ⟨p, n, h1, rfl, h3, h4⟩
    · cases h1
    · rw [h1] at h4
      have en : n = 71 := by
        have : quoV 139 = fnV 71 := rfl
        rw [this] at h1
        injection h1 with h1
        injection h1 with h1
        exact h1.symm
      subst en
      exact .inr (.inr ⟨p, _, rfl, rfl, h3, h4, ⟨Try.call71, fun a b W => ofQuotients5_any a b W⟩, fun a => by simp [binV]⟩)
  have e0 : quoV op = .nilFunc := by simp [quoV, e134, e137, e135, e138, e139]
  rcases hq with ⟨_, rfl⟩ | ⟨p, n, h1, _⟩
  · exact TwoQ.none (by simp only [binOps, List.mem_cons, List.not_mem_nil, or_false, forall_eq_or_imp, forall_eq]; omega)
  · rw [e0] at h1; cases h1

set_option maxHeartbeats 4000000 in
theorem ofTwo_any (op : Int) (w : World) (h0 : 0 ≤ op) (h1 : op < 65536) : Calls Try.prog 48 #[.int .u16 op] w fun e w' => ∃ v, e = .returned v ∧ TwoQ op v w' ∧ Below w.heap.size w w' := by
  by_cases c0 : 128 ≤ op ∧ op ≤ 132
  · have d0 : decide (128 ≤ op ∧ op ≤ 132) = true := by simp; omega
    go_enter Try.func48, Try.ntmps48
    go_wp2_with (go_at_call 19; refine (within_any _ _ _ _).mono ?_; rintro e w' ⟨rfl, rfl⟩; first | rw [d0])
    refine (ofSums_any op _ h0 h1).mono ?_
    rintro e w' ⟨rfl, hb⟩
    have hv := ofSumsV_q op w' c0
    generalize ofSumsV op = v at *
    go_wp2
    go_ret
    exact ⟨_, rfl, hv, hb⟩
  by_cases c1 : 134 ≤ op ∧ op ≤ 139
  · have d0 : decide (128 ≤ op ∧ op ≤ 132) = false := by simp; omega
    have d1 : decide (134 ≤ op ∧ op ≤ 139) = true := by simp; omega
    go_enter Try.func48, Try.ntmps48
    go_wp2_with (go_at_call 19; refine (within_any _ _ _ _).mono ?_; rintro e w' ⟨rfl, rfl⟩; first | rw [d0] | rw [d1])
    refine (ofQuotients_any op _ h0 h1).mono ?_
    rintro e w' ⟨hq, hb⟩
    have hv : ∃ v, e = .returned v ∧ TwoQ op v w' := by
      rcases hq with ⟨q1, rfl⟩ | ⟨p, n, q1, rfl, q3, q4⟩
      · exact ⟨_, rfl, quoV_q op w' _ c1 (.inl ⟨q1, rfl⟩)⟩
      · exact ⟨_, rfl, quoV_q op w' _ c1 (.inr ⟨p, n, q1, rfl, q3, q4⟩)⟩
    obtain ⟨v, rfl, hv⟩ := hv
    go_wp2
    go_ret
    exact ⟨_, rfl, hv, hb⟩
  by_cases c2 : 164 ≤ op ∧ op ≤ 167
  · have d0 : decide (128 ≤ op ∧ op ≤ 132) = false := by simp; omega
    have d1 : decide (134 ≤ op ∧ op ≤ 139) = false := by simp; omega
    have d2 : decide (164 ≤ op ∧ op ≤ 167) = true := by simp; omega
    go_enter Try.func48, Try.ntmps48
    go_wp2_with (go_at_call 19; refine (within_any _ _ _ _).mono ?_; rintro e w' ⟨rfl, rfl⟩; first | rw [d0] | rw [d1] | rw [d2])
    refine (ofTruths_any op _ h0 h1).mono ?_
    rintro e w' ⟨rfl, hb⟩
    have hv := ofTruthsV_q op w' c2
    generalize ofTruthsV op = v at *
    go_wp2
    go_ret
    exact ⟨_, rfl, hv, hb⟩
  by_cases c3 : 170 ≤ op ∧ op ≤ 175
  · have d0 : decide (128 ≤ op ∧ op ≤ 132) = false := by simp; omega
    have d1 : decide (134 ≤ op ∧ op ≤ 139) = false := by simp; omega
    have d2 : decide (164 ≤ op ∧ op ≤ 167) = false := by simp; omega
    have d3 : decide (170 ≤ op ∧ op ≤ 175) = true := by simp; omega
    go_enter Try.func48, Try.ntmps48
    go_wp2_with (go_at_call 19; refine (within_any _ _ _ _).mono ?_; rintro e w' ⟨rfl, rfl⟩; first | rw [d0] | rw [d1] | rw [d2] | rw [d3])
    refine (ofGreater_any op _ h0 h1).mono ?_
    rintro e w' ⟨rfl, hb⟩
    have hv := ofGreaterV_q op w' c3
    generalize ofGreaterV op = v at *
    go_wp2
    go_ret
    exact ⟨_, rfl, hv, hb⟩
  by_cases c4 : 176 ≤ op ∧ op ≤ 179
  · have d0 : decide (128 ≤ op ∧ op ≤ 132) = false := by simp; omega
    have d1 : decide (134 ≤ op ∧ op ≤ 139) = false := by simp; omega
    have d2 : decide (164 ≤ op ∧ op ≤ 167) = false := by simp; omega
    have d3 : decide (170 ≤ op ∧ op ≤ 175) = false := by simp; omega
    have d4 : decide (176 ≤ op ∧ op ≤ 179) = true := by simp; omega
    go_enter Try.func48, Try.ntmps48
    go_wp2_with (go_at_call 19; refine (within_any _ _ _ _).mono ?_; rintro e w' ⟨rfl, rfl⟩; first | rw [d0] | rw [d1] | rw [d2] | rw [d3] | rw [d4])
    refine (ofLess_any op _ h0 h1).mono ?_
    rintro e w' ⟨rfl, hb⟩
    have hv := ofLessV_q op w' c4
    generalize ofLessV op = v at *
    go_wp2
    go_ret
    exact ⟨_, rfl, hv, hb⟩
  by_cases c5 : 194 ≤ op ∧ op ≤ 199
  · have d0 : decide (128 ≤ op ∧ op ≤ 132) = false := by simp; omega
    have d1 : decide (134 ≤ op ∧ op ≤ 139) = false := by simp; omega
    have d2 : decide (164 ≤ op ∧ op ≤ 167) = false := by simp; omega
    have d3 : decide (170 ≤ op ∧ op ≤ 175) = false := by simp; omega
    have d4 : decide (176 ≤ op ∧ op ≤ 179) = false := by simp; omega
    have d5 : decide (194 ≤ op ∧ op ≤ 199) = true := by simp; omega
    go_enter Try.func48, Try.ntmps48
    go_wp2_with (go_at_call 19; refine (within_any _ _ _ _).mono ?_; rintro e w' ⟨rfl, rfl⟩; first | rw [d0] | rw [d1] | rw [d2] | rw [d3] | rw [d4] | rw [d5])
    refine (ofBits_any op _ h0 h1).mono ?_
    rintro e w' ⟨rfl, hb⟩
    have hv := ofBitsV_q op w' c5
    generalize ofBitsV op = v at *
    go_wp2
    go_ret
    exact ⟨_, rfl, hv, hb⟩
  have d0 : decide (128 ≤ op ∧ op ≤ 132) = false := by simp; omega
  have d1 : decide (134 ≤ op ∧ op ≤ 139) = false := by simp; omega
  have d2 : decide (164 ≤ op ∧ op ≤ 167) = false := by simp; omega
  have d3 : decide (170 ≤ op ∧ op ≤ 175) = false := by simp; omega
  have d4 : decide (176 ≤ op ∧ op ≤ 179) = false := by simp; omega
  have d5 : decide (194 ≤ op ∧ op ≤ 199) = false := by simp; omega
  go_enter Try.func48, Try.ntmps48
  go_wp2_with (go_at_call 19; refine (within_any _ _ _ _).mono ?_; rintro e w' ⟨rfl, rfl⟩; first | rw [d0] | rw [d1] | rw [d2] | rw [d3] | rw [d4] | rw [d5])
  go_ret
  exact ⟨_, rfl, TwoQ.none (by simp only [binOps, List.mem_cons, List.not_mem_nil, or_false, forall_eq_or_imp, forall_eq]; omega), Below.refl _ _⟩

end Go.Proofs.Ytbhoimeneekdfaa
