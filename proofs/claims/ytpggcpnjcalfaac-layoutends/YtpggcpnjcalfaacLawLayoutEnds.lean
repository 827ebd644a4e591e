/-
  The law LayoutEnds answers true, for every operation.
-/
import Derived.WalkSpells
import Derived.Test.YtpggcpnjcalfaacLayoutEnds
namespace Go.Proofs.Ytpggcpnjcalfaac
open Go.RowKit

set_option maxHeartbeats 1000000 in
theorem layoutEnds_true (w : World) (op : Int) (_hop : (Lit.int .u16 op).wf = true) : Calls Try.prog 5 #[.int .u16 op] w fun e w' => e = .returned (.bool true) ∧ Below w.heap.size w w' := by
  have h1 := fun w => ends_any op w
  have h2 := fun w => refEnds_any op w
  generalize endsB op = r at *
  go_enter Try.func5, Try.ntmps5
  go_wp2_with fail
  refine (h1 _).mono ?_
  rintro e w' ⟨rfl, rfl⟩
  go_wp2_with fail
  refine (h2 _).mono ?_
  rintro e w' ⟨rfl, rfl⟩
  go_wp2
  go_ret
  exact ⟨by simp, Below.refl _ _⟩

end Go.Proofs.Ytpggcpnjcalfaac
