/-
  A frame as its slots: any frame of so many slots is the list of them.
-/
import Derived.WalkKit
namespace Go.Proofs.Ytpdjmapmpicgjab
open Go

theorem hide {p : Prop} (h : p) : Go.RowKit.Hid p := h
/-- What a slot holds. -/
def slot (t : Array Value) (i : Nat) : Value := t.getD i undef
theorem frame_eq (t : Array Value) (n : Nat) (h : t.size = n) : t = ((List.range n).map (slot t)).toArray := by
  apply Array.ext
  · simp [h]
  · intro i h1 h2
    simp [slot, Array.getD, h1]
end Go.Proofs.Ytpdjmapmpicgjab
