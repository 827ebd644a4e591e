/-
  What strings.IndexByte returns of the byte 0: below 0 where there is none, else 0 or more.
-/
import Derived.WalkSpells
import Derived.Test.YtmmpejhmmgkfkaaProg
import Derived.Test.YtmmpejhmmgkfkaaMathS
namespace Go.Proofs.Ytmmpejhmmgkfkaa
open Go.RowKit

theorem indexByte_any (s : ByteArray) (w : World) :
    Calls Try.prog 29 #[.string s, .int .u8 0] w fun e w' => e = .returned (.int .i64 (Lib.indexByte s.data.toList (0 : Int).toNat.toUInt8)) ∧ w = w' := by
  have hx := fun (w : World) => run_callFunc_extern (P := Try.prog) (f := 31) Try.func31 (by kernel_rfl) (by kernel_rfl) (by kernel_rfl) (e := Extern.BytealgIndexByte.indexByte) (by kernel_rfl) #[.string s, .int .u8 0] w
  simp only [Lib.run_indexByteString, Result.andThen] at hx
  generalize Lib.indexByte s.data.toList (0 : Int).toNat.toUInt8 = r at hx
  go_enter Try.func29, Try.ntmps29
  go_wp2
  go_ret
  exact ⟨rfl, rfl⟩

end Go.Proofs.Ytmmpejhmmgkfkaa
