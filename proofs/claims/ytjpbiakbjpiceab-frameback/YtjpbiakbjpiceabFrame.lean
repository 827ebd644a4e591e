/-
  What the calls of layer 2 answer, as functions on lists; what the document's answer returns; and what is asked of the program's calls (as conditions, each proved where the program's text is walked).
-/
import Derived.Test.YtjpbiakbjpiceabRef02Read
import Derived.Test.YtjpbiakbjpiceabRef02Write
import Derived.Test.YtjpbiakbjpiceabRef02Find
import Derived.Test.YtjpbiakbjpiceabLaw02Apart
namespace Go.Proofs.Ytjpbiakbjpiceab
open Go.RowKit

def readL (zs : List Int) : List (Int × List Int) := if (readE zs).1 = 0 then readR zs else []
def readAt (zs : List Int) (i : Nat) : Int := if (readE zs).1 = 0 then nth zs i else 0
def writeE (bound : Int) (rs : List (Int × List Int)) : Int × Nat := if bound = 0 ∨ 65536 < bound then (24, 0) else fault rs 0
def writeL (gen bound : Int) (rs : List (Int × List Int)) : List Int := if (writeE bound rs).1 = 0 then writeTo gen bound rs rs.length else []

/-- What is asked of Read. -/
def ReadC (f : Nat) : Prop := ∀ (a : Option Addr) (n cap : Nat) (zs : List Int) (w : World), View .u32 w a zs → zs.length = n → Within 4294967296 zs → 4 * n ≤ 140737488351232 → n ≤ cap →
  Calls Try.prog f #[.slice a n cap] w fun e w' => Below w.heap.size w w' ∧ ∃ ax cx m, e = .returned (.tuple #[.agg #[.int .u32 (readAt zs 2), .int .u32 (readAt zs 3)], .slice ax m cx, .agg #[.int .i64 (readE zs).1, .int .i64 (readE zs).2]]) ∧ (readL zs).length = m ∧ OwnR w' w.heap.size ax 0 (readL zs)
/-- What is asked of Write. -/
def WriteC (f : Nat) : Prop := ∀ (gen bound : Int) (a : Option Addr) (n cap : Nat) (rs : List (Int × List Int)) (w : World), 0 ≤ gen → gen < 4294967296 → 0 ≤ bound → bound < 4294967296 → RawsV w a rs → RawsOk rs → rs.length = n → 32 * n ≤ 140737488351232 → n ≤ cap →
  Calls Try.prog f #[.agg #[.int .u32 gen, .int .u32 bound], .slice a n cap] w fun e w' => Below w.heap.size w w' ∧ ∃ ax cx m, e = .returned (.tuple #[.slice ax m cx, .agg #[.int .i64 (writeE bound rs).1, .int .i64 (writeE bound rs).2]]) ∧ (writeL gen bound rs).length = m ∧
    w'.ownsRow w.heap.size 24 1 (.slice ax m cx) m ((writeL gen bound rs).map (Value.int .u32))
/-- What is asked of Size. -/
def SizeC (f : Nat) : Prop := ∀ (a : Option Addr) (n cap : Nat) (rs : List (Int × List Int)) (w : World), RawsV w a rs → RawsOk rs → rs.length = n → 32 * n ≤ 140737488351232 → n ≤ cap →
  Calls Try.prog f #[.slice a n cap] w fun e w' => e = .returned (.tuple #[.int .i64 (sizeOut rs), .int .i64 (fault rs 0).1]) ∧ Below w.heap.size w w'
/-- What is asked of Find. -/
def FindC (f : Nat) : Prop := ∀ (a : Option Addr) (n cap : Nat) (zs : List Int) (op from_ : Int) (w : World), View .u32 w a zs → zs.length = n → Within 4294967296 zs → 4 * n ≤ 140737488351232 → n ≤ cap → 0 ≤ op → op < 65536 → -9223372036854775808 ≤ from_ → from_ ≤ 9223372036854775807 →
  Calls Try.prog f #[.slice a n cap, .int .u16 op, .int .i64 from_] w fun e w' => e = .returned (.tuple #[.int .i64 (findAt zs op from_), .bool (findIs zs op from_)]) ∧ Below w.heap.size w w'

end Go.Proofs.Ytjpbiakbjpiceab
