/-
  The card of the law WholeText holds: the law's row, its three listed tables tied to the program's text.
-/
import Derived.Test.YtddkapkkjhomkabGreatDoorTie
import Derived.Test.YtddkapkkjhomkabGreatDoorCards
import Derived.Test.YtddkapkkjhomkabGreatDoorB26
import Derived.SevenTiedAt
namespace Go.Proofs.YtddkapkkjhomkabGreatDoor
open Go

theorem wholeTextCard_holds : Rows.WholeTextCardSaid :=
  Claim7.holds_tied_plain_at .later [] [.data, .data, .data] true (true, "0857d144eb50d6abb4b7a56f679c2eb691d8e47fea24e48f068b9139362ac94c") false
    wholeText_holds (fun _ h => by cases h) (by kernel_rfl) (fun _ h => by cases h) wholeText_row_tie rfl ⟨rfl, rfl⟩ (by kernel_rfl) rfl
    (fun f fn hf hfn => by
      obtain rfl : f = 7 := Option.some.inj ((show Tryz.prog.funcNamed "intaglio/intagliotop.WholeText" = some 7 by kernel_rfl).symm.trans hf) |>.symm
      obtain rfl : fn = Tryz.f7 := (Option.some.inj (Tryz.func7.symm.trans hfn)).symm
      exact ⟨by kernel_rfl, fun j t ht => by
        rw [Tryz.params7] at ht
        have hm : t ∈ [9] := by simpa using Array.mem_of_getElem? ht
        have hall : ([9].all fun u => !Tryz.prog.wantsStandIn u) = true := by kernel_rfl
        exact (show Tryz.prog.wantsStandIn t = false by simpa using List.all_eq_true.1 hall t hm)⟩)
    (by kernel_rfl)
#print axioms wholeTextCard_holds
end Go.Proofs.YtddkapkkjhomkabGreatDoor
