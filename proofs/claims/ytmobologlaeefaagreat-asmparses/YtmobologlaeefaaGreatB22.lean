/-
  Texts laid together in one: LawAsmParses.
-/
import Derived.Test.YtmobologlaeefaaGreatProg
import Derived.Test.YtmobologlaeefaaGreatB15
import Derived.Test.YtmobologlaeefaaGreatB21
import Derived.Test.YtmobologlaeefaaGreatB14
/-
  AsmParses is true for every text.
-/
namespace Go.Proofs.YtmobologlaeefaaGreat
open Go.RowKit

theorem asmParses_any (w : World) (s : ByteArray) (_ : s.size ≤ 140737488351232) :
    Calls Tryz.prog 3 #[.string s] w fun e w' => e = .returned (.bool true) ∧ Below w.heap.size w w' :=
  asmParses_of w s (fun wx => refParse7_any s wx) (by have := parse_len s; omega)

end Go.Proofs.YtmobologlaeefaaGreat
