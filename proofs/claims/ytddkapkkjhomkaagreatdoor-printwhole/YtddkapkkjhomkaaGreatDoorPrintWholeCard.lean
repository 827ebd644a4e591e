/-
  The card of the law PrintWhole holds: the law's row, its three listed tables tied to the program's text.
-/
import Derived.Test.YtddkapkkjhomkaaGreatDoorTie
import Derived.Test.YtddkapkkjhomkaaGreatDoorCards
import Derived.Test.YtddkapkkjhomkaaGreatDoorM28
import Derived.SevenTiedAt
namespace Go.Proofs.YtddkapkkjhomkaaGreatDoor
open Go

theorem printWholeCard_holds : Rows.PrintWholeCardSaid :=
  Claim7.holds_tied_plain_at .later [] [.data, .data, .data] true (true, "64c91803a893767e31507ed467f0e6adaac075f3434fc333dba63cbc30be3970") false
    printWhole_holds (fun _ h => by cases h) (by kernel_rfl) (fun _ h => by cases h) printWhole_row_tie rfl ⟨rfl, rfl⟩ (by kernel_rfl) rfl
    (fun f fn hf hfn => by
      obtain rfl : f = 8 := Option.some.inj ((show Tryz.prog.funcNamed "intaglio/intagliolaw08.PrintWhole" = some 8 by kernel_rfl).symm.trans hf) |>.symm
      obtain rfl : fn = Tryz.f8 := (Option.some.inj (Tryz.func8.symm.trans hfn)).symm
      exact ⟨by kernel_rfl, fun j t ht => by
        rw [Tryz.params8] at ht
        have hm : t ∈ [44] := by simpa using Array.mem_of_getElem? ht
        have hall : ([44].all fun u => !Tryz.prog.wantsStandIn u) = true := by kernel_rfl
        exact (show Tryz.prog.wantsStandIn t = false by simpa using List.all_eq_true.1 hall t hm)⟩)
    (by kernel_rfl)
#print axioms printWholeCard_holds
end Go.Proofs.YtddkapkkjhomkaaGreatDoor
