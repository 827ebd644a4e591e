/-
  The card of the law PrintBytes holds: the law's row, its three listed tables tied to the program's text.
-/
import Derived.Test.YtonhnflilfjkbaaGreatDoorB30
import Derived.Test.YtonhnflilfjkbaaGreatDoorTie
import Derived.Test.YtonhnflilfjkbaaGreatDoorCards
import Derived.SevenTiedAt
namespace Go.Proofs.YtonhnflilfjkbaaGreatDoor
open Go
theorem printBytesCard_holds:Rows.PrintBytesCardSaid :=
 Claim7.holds_tied_plain_at .later [] [.data,.data,.data] true (true,"b0e1bb8661e9adedb4131191e6ff6506970f72c841d874a08ce06b7e4c21439f") false
  printBytes_holds (fun _ h=>by cases h) (by kernel_rfl) (fun _ h=>by cases h) printBytes_row_tie rfl ⟨rfl,rfl⟩ (by kernel_rfl) rfl
  (fun f fn hf hfn=>by
   obtain rfl:f=5:=Option.some.inj ((show Tryz.prog.funcNamed "intaglio/intagliolaw08.PrintBytes"=some 5 by kernel_rfl).symm.trans hf) |>.symm
   obtain rfl:fn=Tryz.f5:=(Option.some.inj (Tryz.func5.symm.trans hfn)).symm
   exact⟨by kernel_rfl,fun j t ht=>by
    rw [Tryz.params5] at ht
    have hm:t∈[44]:=by simpa using Array.mem_of_getElem? ht
    have hall:([44].all fun u=>!Tryz.prog.wantsStandIn u)=true:=by kernel_rfl
    exact (show Tryz.prog.wantsStandIn t=false by simpa using List.all_eq_true.1 hall t hm)⟩)
  (by kernel_rfl)
#print axioms printBytesCard_holds
end Go.Proofs.YtonhnflilfjkbaaGreatDoor
