/-
  The law ArithWide answers true, for all words.
-/
import Derived.WalkSpells
import Derived.WalkMore
import Derived.Test.YtaegchobdhbjmaaMathAr
import Derived.Test.YtaegchobdhbjmaaArithPair
namespace Go.Proofs.Ytaegchobdhbjmaa
open Go.RowKit Go.Maps
set_option linter.unusedVariables false
set_option linter.unusedSimpArgs false
set_option maxRecDepth 10000

theorem pairV_any (op a b x y : Int) (t : Bool) (W w : World) (hW : Below W.heap.size W w) (hx : prX op a b = x) (hy : prY op a b = y) (ht : prB op = t) (h0 : 0 ≤ op) (h1 : op < 65536) (a0 : 0 ≤ a) (a1 : a < 4294967296) (b0 : 0 ≤ b) (b1 : b < 4294967296) : Calls Try.prog 12 #[.int .u16 op, .int .u32 a, .int .u32 b] w fun e w' => e = .returned (.tuple #[.int .u32 x, .int .u32 y, .bool t]) ∧ Below W.heap.size W w' := by
  subst hx hy ht
  refine (arithPair_any op a b w h0 h1 a0 a1 b0 b1).mono ?_
  rintro e w' ⟨rfl, hb⟩
  exact ⟨rfl, hW.trans (hb.mono hW.size)⟩

set_option maxHeartbeats 4000000 in
theorem arithWide_at (a b x1 y1 x2 y2 x3 y3 x4 y4 P S T N : Int) (w : World) (a0 : 0 ≤ a) (a1 : a < 4294967296) (b0 : 0 ≤ b) (b1 : b < 4294967296)
    (e1 : prX 149 a b = x1) (f1 : prY 149 a b = y1) (e2 : prX 150 a b = x2) (f2 : prY 150 a b = y2) (e3 : prX 151 a b = x3) (f3 : prY 151 a b = y3) (e4 : prX 152 a b = x4) (f4 : prY 152 a b = y4)
    (i1 : 0 ≤ x1 ∧ x1 < 4294967296) (j1 : 0 ≤ y1 ∧ y1 < 4294967296) (i2 : 0 ≤ x2 ∧ x2 < 4294967296) (j2 : 0 ≤ y2 ∧ y2 < 4294967296) (i3 : 0 ≤ x3 ∧ x3 < 4294967296) (j3 : 0 ≤ y3 ∧ y3 < 4294967296) (i4 : 0 ≤ x4 ∧ x4 < 4294967296) (j4 : 0 ≤ y4 ∧ y4 < 4294967296)
    (k1 : x1 + y1 * 4294967296 = a + b) (k2 : a + y2 * 4294967296 = x2 + b) (k3 : x3 + y3 * 4294967296 = a * b) (hS : wrap32 a = S) (hT : wrap32 b = T) (iS : -2147483648 ≤ S ∧ S < 2147483648) (iT : -2147483648 ≤ T ∧ T < 2147483648) (k4 : wrap64 (x4 + y4 * 4294967296) = S * T) (iN : -4611686018427387904 ≤ S * T ∧ S * T ≤ 4611686018427387904) (iP : 0 ≤ a * b ∧ a * b ≤ 18446744065119617025) :
    Calls Try.prog 8 #[.int .u32 a, .int .u32 b] w fun e w' => e = .returned (.bool true) ∧ Below w.heap.size w w' := by
  have p1 : prB 149 = true := rfl
  have p2 : prB 150 = true := rfl
  have p3 : prB 151 = true := rfl
  have p4 : prB 152 = true := rfl
  have hb : Below w.heap.size w w := Below.refl _ _
  go_enter Try.func8, Try.ntmps8
  go_wp2_with (go_at_call 12; refine (pairV_any _ _ _ _ _ _ w _ (by assumption) (by assumption) (by assumption) (by assumption) (by omega) (by omega) (by omega) (by omega) (by omega) (by omega)).mono ?_; rintro e w' ⟨rfl, hb⟩)
  go_ret
  exact ⟨rfl, by assumption⟩

theorem arithWide_true (w : World) (a : Int) (ha : (Lit.int .u32 a).wf = true) (b : Int) (hb : (Lit.int .u32 b).wf = true) : Calls Try.prog 8 #[.int .u32 a, .int .u32 b] w fun e w' => e = .returned (.bool true) ∧ Below w.heap.size w w' := by
  have ha' : 0 ≤ a ∧ a < 4294967296 := by simp [Lit.wf, show IntKind.u32.min = 0 from rfl, show IntKind.u32.max = 4294967295 from rfl] at ha; omega
  have hb' : 0 ≤ b ∧ b < 4294967296 := by simp [Lit.wf, show IntKind.u32.min = 0 from rfl, show IntKind.u32.max = 4294967295 from rfl] at hb; omega
  obtain ⟨a0, a1⟩ := ha'
  obtain ⟨b0, b1⟩ := hb'
  have hm := mul_in a b a0 a1 b0 b1
  have hs := smul_in _ _ (wrap_in a) (wrap_in b)
  have hx1 : prX 149 a b = (a + b) % 4294967296 := rfl
  have hy1 : prY 149 a b = b2i (decide (4294967296 ≤ a + b)) := rfl
  have hx2 : prX 150 a b = (a - b) % 4294967296 := rfl
  have hy2 : prY 150 a b = b2i (decide (a < b)) := rfl
  have hx3 : prX 151 a b = a * b % 4294967296 := rfl
  have hy3 : prY 151 a b = a * b / 4294967296 := rfl
  have hx4 : prX 152 a b = wrap32 a * wrap32 b % 4294967296 := rfl
  have hy4 : prY 152 a b = wrap32 a * wrap32 b / 4294967296 % 4294967296 := rfl
  have b1' := b2i_in (decide (4294967296 ≤ a + b))
  have b2' := b2i_in (decide (a < b))
  have c1 : (a + b) % 4294967296 + b2i (decide (4294967296 ≤ a + b)) * 4294967296 = a + b := by
    by_cases h : 4294967296 ≤ a + b
    · simp [b2i, h]; omega
    · simp [b2i, h]; omega
  have c2 : a + b2i (decide (a < b)) * 4294967296 = (a - b) % 4294967296 + b := by
    by_cases h : a < b
    · simp [b2i, h]; omega
    · simp [b2i, h]; omega
  refine arithWide_at a b _ _ _ _ _ _ _ _ 0 _ _ 0 w a0 a1 b0 b1 hx1 hy1 hx2 hy2 hx3 hy3 hx4 hy4 (by omega) (by omega) (by omega) (by omega) (by omega) (by omega) (by omega) (by omega) c1 c2 ?_ rfl rfl (wrap_in a) (wrap_in b) ?_ hs hm
  · generalize a * b = P at *; omega
  · generalize wrap32 a * wrap32 b = N at *
    unfold wrap64; omega

end Go.Proofs.Ytaegchobdhbjmaa
