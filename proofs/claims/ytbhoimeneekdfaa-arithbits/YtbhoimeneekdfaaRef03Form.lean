/-
  What form of the document's answer returns: a form of just these fields.
-/
import Derived.WalkSpells
import Derived.Test.YtbhoimeneekdfaaProg
import Derived.Test.YtbhoimeneekdfaaSwitch
import Derived.Test.YtbhoimeneekdfaaTabG
namespace Go.Proofs.Ytbhoimeneekdfaa
open Go.RowKit
set_option maxRecDepth 10000

/-- A form as a value. -/
def formV (op : Int) (f : Frm) : Value := .agg #[.int .u16 op, .string f.1, .bool f.2.1, .bool f.2.2.1, .string f.2.2.2.1, .string f.2.2.2.2.1, .int .i64 f.2.2.2.2.2.1, .int .u8 f.2.2.2.2.2.2]
/-- No form. -/
def noFrm : Frm := (⟨#[]⟩, false, false, ⟨#[]⟩, ⟨#[]⟩, 0, 0)

end Go.Proofs.Ytbhoimeneekdfaa
