/-
  The card of the law PrintRead holds: the law's row, its three listed tables tied to the program's text.
-/
import Derived.Test.YtddkapkkjhomkaaGreatDoorTie
import Derived.Test.YtddkapkkjhomkaaGreatDoorCards
import Derived.Test.YtddkapkkjhomkaaGreatDoorB26
import Derived.SevenTiedAt
namespace Go.Proofs.YtddkapkkjhomkaaGreatDoor
open Go

theorem printReadCard_holds : Rows.PrintReadCardSaid :=
  Claim7.holds_tied_plain_at .later [] [.data, .data, .data] true (true, "64c91803a893767e31507ed467f0e6adaac075f3434fc333dba63cbc30be3970") false
    printRead_holds (fun _ h => by cases h) (by kernel_rfl) (fun _ h => by cases h) printRead_row_tie rfl ⟨rfl, rfl⟩ (by kernel_rfl) rfl
    (fun f fn hf hfn => by
      obtain rfl : f = 6 := Option.some.inj ((show Tryz.prog.funcNamed "intaglio/intagliolaw08.PrintRead" = some 6 by kernel_rfl).symm.trans hf) |>.symm
      obtain rfl : fn = Tryz.f6 := (Option.some.inj (Tryz.func6.symm.trans hfn)).symm
      exact ⟨by kernel_rfl, fun j t ht => by
        rw [Tryz.params6] at ht
        have hm : t ∈ [25] := by simpa using Array.mem_of_getElem? ht
        have hall : ([25].all fun u => !Tryz.prog.wantsStandIn u) = true := by kernel_rfl
        exact (show Tryz.prog.wantsStandIn t = false by simpa using List.all_eq_true.1 hall t hm)⟩)
    (by kernel_rfl)
#print axioms printReadCard_holds
end Go.Proofs.YtddkapkkjhomkaaGreatDoor
