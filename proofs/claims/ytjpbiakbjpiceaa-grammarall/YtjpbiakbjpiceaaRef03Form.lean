/-
  What form of the document's answer returns: a form of just these fields.
-/
import Derived.WalkSpells
import Derived.Test.YtjpbiakbjpiceaaProg
import Derived.Test.YtjpbiakbjpiceaaSwitch
import Derived.Test.YtjpbiakbjpiceaaTabG
namespace Go.Proofs.Ytjpbiakbjpiceaa
open Go.RowKit

/-- A form as a value. -/
def formV (op : Int) (f : Frm) : Value := .agg #[.int .u16 op, .string f.1, .bool f.2.1, .bool f.2.2.1, .string f.2.2.2.1, .string f.2.2.2.2.1, .int .i64 f.2.2.2.2.2.1, .int .u8 f.2.2.2.2.2.2]
/-- No form. -/
def noFrm : Frm := (⟨#[]⟩, false, false, ⟨#[]⟩, ⟨#[]⟩, 0, 0)

theorem form_any (n : Int) (nm : ByteArray) (t r : Bool) (fx rs : ByteArray) (mo pa : Int) (w : World) :
    Calls Try.prog 25 #[.int .u16 n, .string nm, .bool t, .bool r, .string fx, .string rs, .int .i64 mo, .int .u8 pa] w fun e w' => e = .returned (.agg #[.int .u16 n, .string nm, .bool t, .bool r, .string fx, .string rs, .int .i64 mo, .int .u8 pa]) ∧ Below w.heap.size w w' := by
  go_enter Try.func25, Try.ntmps25
  go_wp2
  go_goals
  exact bodyPost_ret (v := .agg #[.int .u16 n, .string nm, .bool t, .bool r, .string fx, .string rs, .int .i64 mo, .int .u8 pa]) (by simp [results, Try.results25, go_sem]) rfl ⟨rfl, (Below.refl _ _).alloc (Nat.le_refl _) _⟩

end Go.Proofs.Ytjpbiakbjpiceaa
