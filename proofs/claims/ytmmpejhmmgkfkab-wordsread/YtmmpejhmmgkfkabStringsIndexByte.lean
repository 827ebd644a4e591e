/-
  What strings.IndexByte returns of the byte 0: below 0 where there is none, else 0 or more.
-/
import Derived.WalkSpells
import Derived.Test.YtmmpejhmmgkfkabProg
import Derived.Test.YtmmpejhmmgkfkabMathS
namespace Go.Proofs.Ytmmpejhmmgkfkab
open Go.RowKit

theorem indexByte_any (s : ByteArray) (w : World) :
    Calls Try.prog 19 #[.string s, .int .u8 0] w fun e w' => e = .returned (.int .i64 (Lib.indexByte s.data.toList (0 : Int).toNat.toUInt8)) ∧ w = w' := by
  have hx := fun (w : World) => run_callFunc_extern (P := Try.prog) (f := 28) Try.func28 (by kernel_rfl) (by kernel_rfl) (by kernel_rfl) (e := Extern.BytealgIndexByte.indexByte) (by kernel_rfl) #[.string s, .int .u8 0] w
  simp only [Lib.run_indexByteString, Result.andThen] at hx
  generalize Lib.indexByte s.data.toList (0 : Int).toNat.toUInt8 = r at hx
  go_enter Try.func19, Try.ntmps19
  go_wp2
  go_ret
  exact ⟨rfl, rfl⟩

end Go.Proofs.Ytmmpejhmmgkfkab
