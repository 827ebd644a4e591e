/-
  The card of the law DomNil holds: the law's row, its listed tables tied to the program's text.
-/
import Derived.Test.YtpdjmapmpicgjacDoorTie
import Derived.Test.YtpdjmapmpicgjacDoorCards
import Derived.Test.YtpdjmapmpicgjacDoorDomNilProof
import Derived.SevenTiedAt
namespace Go.Proofs.YtpdjmapmpicgjacDoor
open Go

theorem domNilCard_holds : Rows.DomNilCardSaid :=
  Claim7.holds_tied_plain_at .later [] [.data] true (true, "f1eaac08e1e6fc847805d2c6fa21809ee619751892ffad9aa1c4bf9eebfac1c4") false
    domNil_holds (fun _ h => by cases h) (by kernel_rfl) (fun _ h => by cases h) domNil_row_tie rfl ⟨rfl, rfl⟩ (by kernel_rfl) rfl
    (fun f fn hf hfn => by
      obtain rfl : f = 5 := Option.some.inj ((show Tryd.prog.funcNamed "intaglio/intagliolaw15.DomNil" = some 5 by kernel_rfl).symm.trans hf) |>.symm
      obtain rfl : fn = Tryd.f5 := (Option.some.inj (Tryd.func5.symm.trans hfn)).symm
      exact ⟨by kernel_rfl, fun j t ht => by
        rw [Tryd.params5] at ht
        have hm : t ∈ [3, 3] := by simpa using Array.mem_of_getElem? ht
        have hall : ([3, 3].all fun u => !Tryd.prog.wantsStandIn u) = true := by kernel_rfl
        exact (show Tryd.prog.wantsStandIn t = false by simpa using List.all_eq_true.1 hall t hm)⟩)
    (by kernel_rfl)
#print axioms domNilCard_holds
end Go.Proofs.YtpdjmapmpicgjacDoor
