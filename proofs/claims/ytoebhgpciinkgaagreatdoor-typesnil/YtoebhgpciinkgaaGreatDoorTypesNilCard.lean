/-
  The card of the law TypesNil holds: the law's row, its three listed tables tied to the program's text.
-/
import Derived.Test.YtoebhgpciinkgaaGreatDoorB24
import Derived.Test.YtoebhgpciinkgaaGreatDoorTie
import Derived.Test.YtoebhgpciinkgaaGreatDoorCards
import Derived.SevenTiedAt
namespace Go.Proofs.YtoebhgpciinkgaaGreatDoor
open Go
theorem typesNilCard_holds:Rows.TypesNilCardSaid :=
 Claim7.holds_tied_plain_at .later [] [.data,.data,.data] true (true,"6b7cfd7efa5307e9ad06effd0f30528087b62d3a05900a5f9a62dc05f2a103a1") false
  typesNil_holds (fun _ h=>by cases h) (by kernel_rfl) (fun _ h=>by cases h) typesNil_row_tie rfl ⟨rfl,rfl⟩ (by kernel_rfl) rfl
  (fun f fn hf hfn=>by
   obtain rfl:f=6:=Option.some.inj ((show Tryz.prog.funcNamed "intaglio/intagliolaw10.TypesNil"=some 6 by kernel_rfl).symm.trans hf) |>.symm
   obtain rfl:fn=Tryz.f6:=(Option.some.inj (Tryz.func6.symm.trans hfn)).symm
   exact⟨by kernel_rfl,fun j t ht=>by
    rw [Tryz.params6] at ht
    have hm:t∈[22,3]:=by simpa using Array.mem_of_getElem? ht
    have hall:([22,3].all fun u=>!Tryz.prog.wantsStandIn u)=true:=by kernel_rfl
    exact (show Tryz.prog.wantsStandIn t=false by simpa using List.all_eq_true.1 hall t hm)⟩)
  (by kernel_rfl)
#print axioms typesNilCard_holds
end Go.Proofs.YtoebhgpciinkgaaGreatDoor
