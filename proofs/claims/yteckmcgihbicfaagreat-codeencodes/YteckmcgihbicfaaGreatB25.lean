/-
  Texts laid together in one: LawCodeEncodes.
-/
import Derived.Test.YteckmcgihbicfaaGreatB24
/-
  The law CodeEncodes answers true, for every module.
-/
namespace Go.Proofs.YteckmcgihbicfaaGreat
open Go.RowKit

theorem codeEncodes_true (w : World) (gen b : Int) (ax : Option Addr) (n cx : Nat) (l : List InstT) (hl : l.length = n) (hv : InstsV w ax l) (hok : InstsOk l) (hr : 40 * n ≤ 140737488351232) (hc : n ≤ cx) (hbd : 0 ≤ gen ∧ gen < 4294967296 ∧ 0 ≤ b ∧ b < 4294967296) :
    Calls Tryz.prog 4 #[modV gen b ax n cx] w fun e w' => e = .returned (.bool true) ∧ Below w.heap.size w w' :=
  codeEncodes_of w gen b ax n cx l hl hv hok hr hc hbd fun wy hy hsh => refWords4_any gen b ax n cx l wy hy hok hl hr hbd.1 hbd.2.1 hbd.2.2.1 hbd.2.2.2 hsh

end Go.Proofs.YteckmcgihbicfaaGreat
