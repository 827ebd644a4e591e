/-
  The card of the law PrintUnlike holds: the law's row, its three listed tables tied to the program's text.
-/
import Derived.Test.YtkfflhonpnogdabGreatDoorTie
import Derived.Test.YtkfflhonpnogdabGreatDoorCards
import Derived.Test.YtkfflhonpnogdabGreatDoorB17
import Derived.SevenTiedAt
namespace Go.Proofs.YtkfflhonpnogdabGreatDoor
open Go

theorem printUnlikeCard_holds : Rows.PrintUnlikeCardSaid :=
  Claim7.holds_tied_plain_at .later [] [.data, .data, .data] true (true, "0857d144eb50d6abb4b7a56f679c2eb691d8e47fea24e48f068b9139362ac94c") false
    printUnlike_holds (fun _ h => by cases h) (by kernel_rfl) (fun _ h => by cases h) printUnlike_row_tie rfl ⟨rfl, rfl⟩ (by kernel_rfl) rfl
    (fun f fn hf hfn => by
      obtain rfl : f = 3 := Option.some.inj ((show Tryz.prog.funcNamed "intaglio/intagliolaw08.PrintUnlike" = some 3 by kernel_rfl).symm.trans hf) |>.symm
      obtain rfl : fn = Tryz.f3 := (Option.some.inj (Tryz.func3.symm.trans hfn)).symm
      exact ⟨by kernel_rfl, fun j t ht => by
        rw [Tryz.params3] at ht
        have hm : t ∈ [25, 25] := by simpa using Array.mem_of_getElem? ht
        have hall : ([25, 25].all fun u => !Tryz.prog.wantsStandIn u) = true := by kernel_rfl
        exact (show Tryz.prog.wantsStandIn t = false by simpa using List.all_eq_true.1 hall t hm)⟩)
    (by kernel_rfl)
#print axioms printUnlikeCard_holds
end Go.Proofs.YtkfflhonpnogdabGreatDoor
