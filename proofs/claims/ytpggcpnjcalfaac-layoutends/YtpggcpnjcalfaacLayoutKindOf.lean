/-
  What kindOf and Ends of the package layout answer, and Ends of the document.
-/
import Derived.WalkSpells
import Derived.Test.YtpggcpnjcalfaacProg
import Derived.Test.YtpggcpnjcalfaacMath3
import Derived.Test.YtpggcpnjcalfaacLayoutKindA
import Derived.Test.YtpggcpnjcalfaacLayoutKindB
import Derived.Test.YtpggcpnjcalfaacLayoutKindC
import Derived.Test.YtpggcpnjcalfaacLayoutKindD
import Derived.Test.YtpggcpnjcalfaacLayoutKindE
import Derived.Test.YtpggcpnjcalfaacLayoutKindF
namespace Go.Proofs.Ytpggcpnjcalfaac
open Go.RowKit
set_option linter.unusedVariables false
set_option linter.unusedSimpArgs false

/-- What an operation is in a function. -/
def kindOp (op : Int) : Int :=
  if op = 54 then 1 else if op = 55 then 2 else if op = 56 then 4 else if op = 248 then 8 else if op = 59 then 16 else if op = 245 then 32 else if op = 247 then 128 else if op = 246 then 256
  else if op = 250 then 3584 else if op = 249 then 2560 else if op = 252 ∨ op = 253 ∨ op = 254 ∨ op = 255 then 512 else if op = 251 then 1536 else 64
/-- Does it end a block? -/
def endsB (op : Int) : Bool := decide (249 ≤ op) && decide (op ≤ 255)

theorem kindOf_any (op : Int) (w : World) : Calls Try.prog 29 #[.int .u16 op] w fun e w' => e = .returned (.int .u16 (kindOp op)) ∧ w = w' := by
  by_cases h54 : op = 54
  · subst h54; exact kindOf_54 w
  by_cases h55 : op = 55
  · subst h55; exact kindOf_55 w
  by_cases h56 : op = 56
  · subst h56; exact kindOf_56 w
  by_cases h248 : op = 248
  · subst h248; exact kindOf_248 w
  by_cases h59 : op = 59
  · subst h59; exact kindOf_59 w
  by_cases h245 : op = 245
  · subst h245; exact kindOf_245 w
  by_cases h247 : op = 247
  · subst h247; exact kindOf_247 w
  by_cases h246 : op = 246
  · subst h246; exact kindOf_246 w
  by_cases h250 : op = 250
  · subst h250; exact kindOf_250 w
  by_cases h249 : op = 249
  · subst h249; exact kindOf_249 w
  by_cases h252 : op = 252
  · subst h252; exact kindOf_252 w
  by_cases h253 : op = 253
  · subst h253; exact kindOf_253 w
  by_cases h254 : op = 254
  · subst h254; exact kindOf_254 w
  by_cases h255 : op = 255
  · subst h255; exact kindOf_255 w
  by_cases h251 : op = 251
  · subst h251; exact kindOf_251 w
  have e : kindOp op = 64 := by
    unfold kindOp
    simp [h54, h55, h56, h248, h59, h245, h247, h246, h250, h249, h252, h253, h254, h255, h251]
  rw [e]
  exact kindOf_other op w (by simpa using h54) (by simpa using h55) (by simpa using h56) (by simpa using h248) (by simpa using h59) (by simpa using h245) (by simpa using h247) (by simpa using h246) (by simpa using h250) (by simpa using h249) (by simpa using h252) (by simpa using h253) (by simpa using h254) (by simpa using h255) (by simpa using h251)

end Go.Proofs.Ytpggcpnjcalfaac
