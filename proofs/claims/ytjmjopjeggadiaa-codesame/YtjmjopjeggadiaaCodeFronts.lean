/-
  headOf and frontOf of the package code: what they answer.
-/
import Derived.WalkSpells
import Derived.Deep.QuietTactic
import Derived.BigQuiet
import Derived.BigRegion
import Derived.Deep.RegionWith
import Derived.Deep.DrawnRows
import Derived.Test.YtjmjopjeggadiaaProg
import Derived.Test.YtjmjopjeggadiaaKitModule
import Derived.Test.YtjmjopjeggadiaaQuiet
namespace Go.Proofs.Ytjmjopjeggadiaa
open Go.RowKit

theorem headOf_any (g b : Int) (a : Option Addr) (n c : Nat) (w : World) :
    Calls Try.prog 31 #[modV g b a n c] w fun e w' => e = .returned (.agg #[.int .u32 g, .int .u32 b]) ∧ Below w.heap.size w w' := by
  unfold modV
  go_enter Try.func31, Try.ntmps31
  go_wp2
  refine bodyPost_ret (v := .agg #[.int .u32 g, .int .u32 b]) ?_ rfl ⟨rfl, ?_⟩
  · simp [results, Try.results31, go_sem]
  · exact two_boxes w _ _

theorem frontOf_any (x : InstT) (a : Option Addr) (n c : Nat) (w : World) :
    Calls Try.prog 51 #[instV x a n c] w fun e w' => e = .returned (.agg #[.int .u16 x.1, .int .u32 x.2.1, .int .u32 x.2.2.1]) ∧ Below w.heap.size w w' := by
  unfold instV
  go_enter Try.func51, Try.ntmps51
  go_wp2
  refine bodyPost_ret (v := .agg #[.int .u16 x.1, .int .u32 x.2.1, .int .u32 x.2.2.1]) ?_ rfl ⟨rfl, ?_⟩
  · simp [results, Try.results51, go_sem]
  · exact two_boxes w _ _

end Go.Proofs.Ytjmjopjeggadiaa
