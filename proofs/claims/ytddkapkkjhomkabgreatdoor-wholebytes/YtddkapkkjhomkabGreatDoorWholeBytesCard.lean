/-
  The card of the law WholeBytes holds: the law's row, its three listed tables tied to the program's text.
-/
import Derived.Test.YtddkapkkjhomkabGreatDoorTie
import Derived.Test.YtddkapkkjhomkabGreatDoorCards
import Derived.Test.YtddkapkkjhomkabGreatDoorM28
import Derived.SevenTiedAt
namespace Go.Proofs.YtddkapkkjhomkabGreatDoor
open Go

theorem wholeBytesCard_holds : Rows.WholeBytesCardSaid :=
  Claim7.holds_tied_plain_at .later [] [.data, .data, .data] true (true, "0857d144eb50d6abb4b7a56f679c2eb691d8e47fea24e48f068b9139362ac94c") false
    wholeBytes_holds (fun _ h => by cases h) (by kernel_rfl) (fun _ h => by cases h) wholeBytes_row_tie rfl ⟨rfl, rfl⟩ (by kernel_rfl) rfl
    (fun f fn hf hfn => by
      obtain rfl : f = 6 := Option.some.inj ((show Tryz.prog.funcNamed "intaglio/intagliotop.WholeBytes" = some 6 by kernel_rfl).symm.trans hf) |>.symm
      obtain rfl : fn = Tryz.f6 := (Option.some.inj (Tryz.func6.symm.trans hfn)).symm
      exact ⟨by kernel_rfl, fun j t ht => by
        rw [Tryz.params6] at ht
        have hm : t ∈ [58] := by simpa using Array.mem_of_getElem? ht
        have hall : ([58].all fun u => !Tryz.prog.wantsStandIn u) = true := by kernel_rfl
        exact (show Tryz.prog.wantsStandIn t = false by simpa using List.all_eq_true.1 hall t hm)⟩)
    (by kernel_rfl)
#print axioms wholeBytesCard_holds
end Go.Proofs.YtddkapkkjhomkabGreatDoor
