/-
  The small functions of frame: a first word parted and made, how many words an instruction has, whether a bound may be.
-/
import Derived.WalkSpells
import Derived.BigRegion
import Derived.Deep.QuietTactic
import Derived.BigQuiet
import Derived.Test.YtjpbiakbjpiceabMathF
import Derived.Test.YtjpbiakbjpiceabRaws
import Derived.Test.YtjpbiakbjpiceabRef02At
namespace Go.Proofs.Ytjpbiakbjpiceab
open Go.RowKit

theorem partFirst_any (x : Int) (w : World) (h0 : 0 ≤ x) (h1 : x < 4294967296) :
    Calls Try.prog 53 #[.int .u32 x] w fun e w' => e = .returned (.tuple #[.int .u16 (x % 65536), .int .i64 (x / 65536)]) ∧ w = w' := by
  go_enter Try.func53, Try.ntmps53
  go_wp2
  refine bodyPost_ret (v := .tuple #[.int .u16 (IntKind.u16.wrap x), .int .i64 (x / 65536)]) (by simp [results, Try.results53, go_sem]) rfl ⟨?_, rfl⟩
  rw [show IntKind.u16.wrap x = x % 65536 by simp [IntKind.wrap, IntKind.bits, IntKind.signed]]

theorem mayBeBound_any (x : Int) (w : World) (h0 : 0 ≤ x) (h1 : x < 4294967296) :
    Calls Try.prog 37 #[.int .u32 x] w fun e w' => e = .returned (.bool (!(decide (x = 0) || decide (65536 < x)))) ∧ w = w' := by
  go_enter Try.func37, Try.ntmps37
  go_wp2
  · go_ret
    refine ⟨?_, rfl⟩
    have hx : 1 ≤ x := by assumption
    show Ending.returned (.bool (decide (x ≤ 65536))) = _
    congr 2
    by_cases h : x ≤ 65536
    · simp [h, show ¬ x = 0 by omega]
    · simp [h]; omega
  · go_ret
    refine ⟨?_, rfl⟩
    have hx : ¬ 1 ≤ x := by first | assumption | (have : x < 1 := by assumption
                                                  omega)
    obtain rfl : x = 0 := by omega
    rfl

theorem wordsOf_any (op : Int) (a : Option Addr) (n cap : Nat) (w : World) (hn : n ≤ 140737488351232) :
    Calls Try.prog 35 #[.agg #[.int .u16 op, .slice a n cap]] w fun e w' => e = .returned (.int .i64 ((n : Int) + 1)) ∧ w.alloc (.cells #[.int .u16 op, .slice a n cap] 68) = w' := by
  go_enter Try.func35, Try.ntmps35
  go_wp2
  go_ret
  exact ⟨ret_int (by omega), rfl⟩

theorem firstWord_any (op : Int) (a : Option Addr) (n cap : Nat) (w : World) (hn : n < 65535) (ho : 0 ≤ op) (ho2 : op < 65536) :
    Calls Try.prog 39 #[.agg #[.int .u16 op, .slice a n cap]] w fun e w' => e = .returned (.int .u32 (((n : Int) + 1) * 65536 + op)) ∧ Below w.heap.size w w' := by
  have hW := fun w => wordsOf_any op a n cap w (by omega)
  go_enter Try.func39, Try.ntmps39
  go_wp2_with fail
  go_region_with (go_at_call 35; refine (hW _).mono ?_; rintro e w' ⟨rfl, rfl⟩)
  all_goals go_wp2
  all_goals go_ret
  all_goals refine ⟨?_, (((Below.refl _ _).alloc (Nat.le_refl _) _).alloc (by simp) _).drew⟩
  all_goals
    show Ending.returned (.int .u32 (bits .or .u32 (IntKind.u32.wrap (IntKind.u32.wrap ((n : Int) + 1) * 65536)) (IntKind.u32.wrap op))) = _
    apply ret_int
    rw [show IntKind.u32.wrap ((n : Int) + 1) = (n : Int) + 1 by rw [IntKind.wrap_u32']; omega, show IntKind.u32.wrap (((n : Int) + 1) * 65536) = ((n : Int) + 1) * 65536 by rw [IntKind.wrap_u32']; omega, show IntKind.u32.wrap op = op by rw [IntKind.wrap_u32']; omega]
    exact or_high ((n : Int) + 1) op 16 (by omega) ho (by omega) (by omega)

end Go.Proofs.Ytjpbiakbjpiceab
