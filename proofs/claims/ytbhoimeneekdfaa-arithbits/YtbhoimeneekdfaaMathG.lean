/-
  How the text of a form is read, sign by sign: plain mathematics, and that each text of the table reads as the form of the document's table.
-/
import Derived.Test.YtbhoimeneekdfaaTabG
import Derived.Test.YtbhoimeneekdfaaSwitch
namespace Go.Proofs.Ytbhoimeneekdfaa
open Go.RowKit

/-- The sign at a place. -/
def sgn (s : ByteArray) (k : Nat) : Int := ((s.data.toList.getD k 0).toNat : Int)

theorem sgn_at (s : ByteArray) (k : Nat) (h : k < s.size) : ((s[k]'h).toNat : Int) = sgn s k := by
  have h' : k < s.data.toList.length := by simpa using h
  unfold sgn
  rw [List.getD_eq_getElem?_getD, List.getElem?_eq_getElem h']
  rfl

/-- What has been read: which column, where it began, and the form so far. -/
abbrev RdSt := Int × Int × Frm

def rdStep (s : ByteArray) (k : Nat) (c : Int) (x : RdSt) : RdSt :=
  match x with
  | (col, fr, nm, t, r, fx, rs, mo, pa) =>
    if c = 47 then (col + 1, k + 1, nm, t, r, fx, rs, mo, pa)
    else if col = 0 then (col, fr, s.extract fr.toNat (k + 1), t, r, fx, rs, mo, pa)
    else if col = 1 then (col, fr, nm, t || (c == 116), r || (c == 114), fx, rs, mo, pa)
    else if col = 2 then (col, fr, nm, t, r, s.extract fr.toNat (k + 1), rs, mo, pa)
    else if col = 3 then (col, fr, nm, t, r, fx, s.extract fr.toNat (k + 1), mo, pa)
    else if col = 4 then (col, fr, nm, t, r, fx, rs, 10 * mo + (c - 48), pa)
    else (col, fr, nm, t, r, fx, rs, mo, c - 48)

def rdTo (s : ByteArray) : Nat → RdSt
  | 0 => (0, 0, ⟨#[]⟩, false, false, ⟨#[]⟩, ⟨#[]⟩, 0, 0)
  | k + 1 => rdStep s k (sgn s k) (rdTo s k)

/-- A state, and a sign, that the reading of a good text meets. -/
def rdOk (k : Nat) (c : Int) (x : RdSt) : Bool :=
  decide (c < 128 ∧ 0 ≤ c ∧ 0 ≤ x.1 ∧ x.1 ≤ 5 ∧ 0 ≤ x.2.1 ∧ x.2.1 ≤ k ∧ 0 ≤ x.2.2.2.2.2.2.2.1 ∧ x.2.2.2.2.2.2.2.1 ≤ 1000 ∧ (x.1 = 4 → c ≠ 47 → 48 ≤ c) ∧ (x.1 = 5 → c ≠ 47 → 48 ≤ c))
def goodT (s : ByteArray) : Bool := (List.range s.size).all fun k => rdOk k (sgn s k) (rdTo s k)
theorem goodT_at {s : ByteArray} (h : goodT s = true) {k : Nat} (hk : k < s.size) : rdOk k (sgn s k) (rdTo s k) = true := List.all_eq_true.1 h k (List.mem_range.2 hk)

/-- The form that a text tells. -/
def rdF (s : ByteArray) : Frm := (rdTo s s.size).2.2

/-- The text of an operation's form. -/
def ftxt (n : Int) : ByteArray := if n < 41 then lookT namingT n else if n < 124 then lookT makingT n else if n < 164 then lookT countingT n else if n < 194 then lookT comparingT n else if n < 245 then lookT bitT n else lookT flowT n

end Go.Proofs.Ytbhoimeneekdfaa
