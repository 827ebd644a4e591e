/-
  The law LexQuotes, for a text whose quoted form keeps to the memory's reach: a walk of its body with the contracts of what it calls.
-/
import Derived.WalkSpells
import Derived.WalkMore
import Derived.Test.YtccllonkhklldaaProg
import Derived.Test.YtccllonkhklldaaRef06Quote
import Derived.Test.YtccllonkhklldaaLaw06Awake
namespace Go.Proofs.Ytccllonkhklldaa
open Go.RowKit
set_option maxRecDepth 10000
set_option linter.unusedVariables false

theorem lexQuotes_law (w : World) (s : ByteArray) (hs0 : s.size ≤ 140737488351232) (hs : s.size ≤ 1048576) :
    Calls Try.prog 5 #[.string s] w fun e w' => e = .returned (.bool true) ∧ Below w.heap.size w w' := by
  have h1 := fun wx => quote_any s wx (by omega)
  have h2 := fun wx => refQuote_any s wx hs
  have hA := fun wx => awake6_true wx
  generalize strOfNums (quoteL (strI s)) = q at *
  go_enter Try.func5, Try.ntmps5
  go_wp2_with fail
  refine (h1 _).mono ?_
  rintro e w1 ⟨rfl, hb1⟩
  go_wp2_with fail
  refine (h2 _).mono ?_
  rintro e w2 ⟨rfl, hb2⟩
  go_wp2_with fail
  refine (hA _).mono ?_
  rintro e w3 ⟨rfl, hb3⟩
  go_wp2_with fail
  go_ret
  have hb := hb1.trans (hb2.mono hb1.size)
  exact ⟨rfl, hb.trans (hb3.mono hb.size)⟩

end Go.Proofs.Ytccllonkhklldaa
