/-
  The law ArithRing answers true, for all words.
-/
import Derived.WalkSpells
import Derived.WalkMore
import Derived.Test.YtaegchobdhbjmaaMathDv
import Derived.Test.YtaegchobdhbjmaaArithUnary
import Derived.Test.YtaegchobdhbjmaaArithBinary
namespace Go.Proofs.Ytaegchobdhbjmaa
open Go.RowKit Go.Maps
set_option linter.unusedVariables false
set_option linter.unusedSimpArgs false
set_option maxRecDepth 10000

theorem binaryV_any (op a b v : Int) (t : Bool) (W w : World) (hW : Below W.heap.size W w) (hv : binV op a b = v) (ht : binB op = t) (h0 : 0 ≤ op) (h1 : op < 65536) (a0 : 0 ≤ a) (a1 : a < 4294967296) (b0 : 0 ≤ b) (b1 : b < 4294967296) : Calls Try.prog 10 #[.int .u16 op, .int .u32 a, .int .u32 b] w fun e w' => e = .returned (.tuple #[.int .u32 v, .bool t]) ∧ Below W.heap.size W w' := by
  subst hv ht
  refine (arithBinary_any op a b w h0 h1 a0 a1 b0 b1).mono ?_
  rintro e w' ⟨rfl, hb⟩
  exact ⟨rfl, hW.trans (hb.mono hW.size)⟩
theorem unaryV_any (op a v : Int) (t : Bool) (W w : World) (hW : Below W.heap.size W w) (hv : unV op a = v) (ht : unB op = t) (h0 : 0 ≤ op) (h1 : op < 65536) (a0 : 0 ≤ a) (a1 : a < 4294967296) : Calls Try.prog 14 #[.int .u16 op, .int .u32 a] w fun e w' => e = .returned (.tuple #[.int .u32 v, .bool t]) ∧ Below W.heap.size W w' := by
  subst hv ht
  refine (arithUnary_any op a w h0 h1 a0 a1).mono ?_
  rintro e w' ⟨rfl, hb⟩
  exact ⟨rfl, hW.trans (hb.mono hW.size)⟩

set_option maxHeartbeats 4000000 in
theorem arithRing_at (a b c ab bc ac sabc mab mbc mac mabc n dist : Int) (w : World) (a0 : 0 ≤ a) (a1 : a < 4294967296) (b0 : 0 ≤ b) (b1 : b < 4294967296) (c0 : 0 ≤ c) (c1 : c < 4294967296)
    (e1 : binV 128 a b = ab) (e2 : binV 128 b a = ab) (e3 : binV 132 a b = mab) (e4 : binV 132 b a = mab) (e5 : binV 128 ab c = sabc) (e6 : binV 128 b c = bc) (e7 : binV 128 a bc = sabc) (e8 : binV 132 mab c = mabc) (e9 : binV 132 b c = mbc) (e10 : binV 132 a mbc = mabc)
    (e11 : unV 126 b = n) (e12 : binV 132 a bc = dist) (e13 : binV 132 a c = mac) (e14 : binV 128 mab mac = dist) (e15 : binV 130 ab b = a) (e16 : binV 130 a b = ac) (e17 : binV 128 a n = ac) (e18 : binV 132 a 1 = a)
    (i1 : 0 ≤ ab ∧ ab < 4294967296) (i2 : 0 ≤ bc ∧ bc < 4294967296) (i4 : 0 ≤ mab ∧ mab < 4294967296) (i5 : 0 ≤ mbc ∧ mbc < 4294967296) (i6 : 0 ≤ mac ∧ mac < 4294967296) (i7 : 0 ≤ n ∧ n < 4294967296) :
    Calls Try.prog 5 #[.int .u32 a, .int .u32 b, .int .u32 c] w fun e w' => e = .returned (.bool true) ∧ Below w.heap.size w w' := by
  have q1 : binV 128 2 3 = 5 := rfl
  have q2 : binV 132 2 3 = 6 := rfl
  have q3 : binB 128 = true := rfl
  have q4 : binB 132 = true := rfl
  have q5 : unB 126 = true := rfl
  have hb : Below w.heap.size w w := Below.refl _ _
  go_enter Try.func5, Try.ntmps5
  go_wp2_with (first | (go_at_call 13; refine (twoV_any _ _ _ _ w _ (by assumption) (by assumption) (by omega) (by omega) (by omega) (by omega) (by omega) (by omega)).mono ?_; rintro e w' ⟨rfl, hb⟩) | (go_at_call 10; refine (binaryV_any _ _ _ _ _ w _ (by assumption) (by assumption) (by assumption) (by omega) (by omega) (by omega) (by omega) (by omega) (by omega)).mono ?_; rintro e w' ⟨rfl, hb⟩) | (go_at_call 14; refine (unaryV_any _ _ _ _ w _ (by assumption) (by assumption) (by assumption) (by omega) (by omega) (by omega) (by omega)).mono ?_; rintro e w' ⟨rfl, hb⟩))
  go_ret
  exact ⟨rfl, by assumption⟩

theorem arithRing_true (w : World) (a : Int) (ha : (Lit.int .u32 a).wf = true) (b : Int) (hb : (Lit.int .u32 b).wf = true) (c : Int) (hc : (Lit.int .u32 c).wf = true) : Calls Try.prog 5 #[.int .u32 a, .int .u32 b, .int .u32 c] w fun e w' => e = .returned (.bool true) ∧ Below w.heap.size w w' := by
  have ha' : 0 ≤ a ∧ a < 4294967296 := by simp [Lit.wf, show IntKind.u32.min = 0 from rfl, show IntKind.u32.max = 4294967295 from rfl] at ha; omega
  have hb' : 0 ≤ b ∧ b < 4294967296 := by simp [Lit.wf, show IntKind.u32.min = 0 from rfl, show IntKind.u32.max = 4294967295 from rfl] at hb; omega
  have hc' : 0 ≤ c ∧ c < 4294967296 := by simp [Lit.wf, show IntKind.u32.min = 0 from rfl, show IntKind.u32.max = 4294967295 from rfl] at hc; omega
  have mr : ∀ x y : Int, x * (y % 4294967296) % 4294967296 = x * y % 4294967296 := fun x y => by rw [Int.mul_comm x (y % 4294967296), mod_back, Int.mul_comm]
  have ml : ∀ x y : Int, x % 4294967296 * y % 4294967296 = x * y % 4294967296 := fun x y => mod_back x y _
  refine arithRing_at a b c ((a + b) % 4294967296) ((b + c) % 4294967296) ((a - b) % 4294967296) (((a + b) % 4294967296 + c) % 4294967296) (a * b % 4294967296) (b * c % 4294967296) (a * c % 4294967296) (a * b % 4294967296 * c % 4294967296) ((-b) % 4294967296) (a * ((b + c) % 4294967296) % 4294967296) w ha'.1 ha'.2 hb'.1 hb'.2 hc'.1 hc'.2
    rfl ?_ rfl ?_ rfl rfl ?_ rfl rfl ?_ rfl rfl rfl ?_ ?_ rfl ?_ ?_ (by omega) (by omega) (by omega) (by omega) (by omega) (by omega)
  · show (b + a) % 4294967296 = _; rw [Int.add_comm]
  · show b * a % 4294967296 = _; rw [Int.mul_comm]
  · show (a + (b + c) % 4294967296) % 4294967296 = _; omega
  · show a * (b * c % 4294967296) % 4294967296 = _
    rw [mr, ml, Int.mul_assoc]
  · show (a * b % 4294967296 + a * c % 4294967296) % 4294967296 = _
    rw [mr, Int.mul_add, ← Int.add_emod]
  · show ((a + b) % 4294967296 - b) % 4294967296 = a; omega
  · show (a + (-b) % 4294967296) % 4294967296 = (a - b) % 4294967296; omega
  · show a * 1 % 4294967296 = a; omega

end Go.Proofs.Ytaegchobdhbjmaa
