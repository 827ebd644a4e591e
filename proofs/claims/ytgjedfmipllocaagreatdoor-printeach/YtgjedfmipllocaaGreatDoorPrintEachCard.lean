/-
  The card of the law PrintEach holds: the law's row, its three listed tables tied to the program's text.
-/
import Derived.Test.YtgjedfmipllocaaGreatDoorTie
import Derived.Test.YtgjedfmipllocaaGreatDoorCards
import Derived.Test.YtgjedfmipllocaaGreatDoorB20
import Derived.SevenTiedAt
namespace Go.Proofs.YtgjedfmipllocaaGreatDoor
open Go

theorem printEachCard_holds : Rows.PrintEachCardSaid :=
  Claim7.holds_tied_plain_at .later [] [.data, .data, .data] true (true, "7b8b913a1d85c2639c5cf7baade9f5f79df907505354e1184d0149cdcf885587") true
    printEach_holds (fun _ h => by cases h) (by kernel_rfl) (fun _ h => by cases h) printEach_row_tie rfl ⟨rfl, rfl⟩ (by kernel_rfl) rfl
    (fun f fn hf hfn => by
      obtain rfl : f = 3 := Option.some.inj ((show Tryz.prog.funcNamed "intaglio/intagliolaw08.PrintEach" = some 3 by kernel_rfl).symm.trans hf) |>.symm
      obtain rfl : fn = Tryz.f3 := (Option.some.inj (Tryz.func3.symm.trans hfn)).symm
      exact ⟨by kernel_rfl, fun j t ht => by
        rw [Tryz.params3] at ht
        have hm : t ∈ [25] := by simpa using Array.mem_of_getElem? ht
        have hall : ([25].all fun u => !Tryz.prog.wantsStandIn u) = true := by kernel_rfl
        exact (show Tryz.prog.wantsStandIn t = false by simpa using List.all_eq_true.1 hall t hm)⟩)
    (by kernel_rfl)
#print axioms printEachCard_holds
end Go.Proofs.YtgjedfmipllocaaGreatDoor
