/-
  What look and step of the scanner of the layer lex do: its block holds the line, the place, the byte that is next and its kind; no other block turns.
-/
import Derived.WalkSpells
import Derived.BigRegion
import Derived.Test.YteckmcgihbicfabProg
import Derived.Test.YteckmcgihbicfabMathX
import Derived.Test.YteckmcgihbicfabLexKinds
namespace Go.Proofs.Yteckmcgihbicfab
open Go.RowKit
set_option maxRecDepth 10000
set_option linter.unusedVariables false
set_option linter.unusedSimpArgs false

/-- The kind of what is next: 0 at the end. -/
def kAt (l : List Int) (p : Nat) : Int := if p < l.length then kindL (nth l p) else 0
def scnC (s : ByteArray) (p : Nat) (x y : Value) : Obj := .cells #[.string s, .int .i64 p, x, y] 113 (0, 0)
/-- A scanner of a line that stands at a place. -/
def Scn (b : Nat) (s : ByteArray) (p : Nat) (w : World) : Prop := w.heap[b]? = some (scnC s p (.int .u8 (nth (strI s) p)) (.int .u8 (kAt (strI s) p)))

theorem grown_trans {w w1 w2 : World} {r : Option Nat} (h : w.grownBy w1 r) (k : w1.grownBy w2 r) : w.grownBy w2 r :=
  ⟨k.os.trans h.os, k.tape.trans h.tape, k.output.trans h.output, Nat.le_trans h.size k.size, fun i hi hr => (k.block i (Nat.lt_of_lt_of_le hi h.size) hr).trans (h.block i hi hr)⟩
theorem grown_refl (w : World) (r : Option Nat) : w.grownBy w r := ⟨rfl, rfl, rfl, Nat.le_refl _, fun _ _ _ => rfl⟩
theorem grown_below {w w1 w2 : World} {r : Option Nat} {B : Nat} (h : w.grownBy w1 r) (k : Below B w1 w2) (hB : w.heap.size ≤ B) : w.grownBy w2 r :=
  ⟨k.os.trans h.os, k.tape.trans h.tape, k.output.trans h.output, Nat.le_trans h.size k.size, fun i hi hr => (k.block i (Nat.lt_of_lt_of_le hi hB)).trans (h.block i hi hr)⟩
theorem grown_setCell {w w1 : World} {b : Nat} (h : w.grownBy w1 (some b)) (i : Nat) (u : Value) : w.grownBy (w1.setCell ⟨b, i, none⟩ u) (some b) :=
  ⟨h.os, h.tape, h.output, by simpa [World.setCell] using h.size, fun k hk hr => (Below.heap_setCell _ _ _ _ (fun e => hr (by rw [e]))).trans (h.block k hk hr)⟩
theorem grown_drew {w w1 : World} {r : Option Nat} (h : w.grownBy w1 r) (n : Nat) : w.grownBy (w1.drewN n) r := ⟨h.os, h.tape, h.output, h.size, h.block⟩
theorem grown_drew1 {w w1 : World} {r : Option Nat} (h : w.grownBy w1 r) : w.grownBy w1.drew r := ⟨h.os, h.tape, h.output, h.size, h.block⟩

theorem scn_cells {w : World} {b p : Nat} {s : ByteArray} {x y : Value} (h : w.heap[b]? = some (scnC s p x y)) : w.cell? ⟨b, 0, none⟩ = some (.string s) ∧ w.cell? ⟨b, 1, none⟩ = some (.int .i64 p) ∧ w.cell? ⟨b, 2, none⟩ = some x ∧ w.cell? ⟨b, 3, none⟩ = some y ∧ ∀ i, w.frozen? ⟨b, i, none⟩ = false := by
  refine ⟨?_, ?_, ?_, ?_, fun i => ?_⟩ <;> simp [World.cell?, World.frozen?, h, scnC]

theorem scn_set2 {w : World} {b p : Nat} {s : ByteArray} {x y : Value} (h : w.heap[b]? = some (scnC s p x y)) (u : Value) : (w.setCell ⟨b, 2, none⟩ u).heap[b]? = some (scnC s p u y) := by
  simp [World.setCell, Array.getElem?_modify, h, scnC]
theorem scn_set3 {w : World} {b p : Nat} {s : ByteArray} {x y : Value} (h : w.heap[b]? = some (scnC s p x y)) (u : Value) : (w.setCell ⟨b, 3, none⟩ u).heap[b]? = some (scnC s p x u) := by
  simp [World.setCell, Array.getElem?_modify, h, scnC]
theorem scn_set1 {w : World} {b p : Nat} {s : ByteArray} {x y : Value} (h : w.heap[b]? = some (scnC s p x y)) (q : Nat) : (w.setCell ⟨b, 1, none⟩ (.int .i64 q)).heap[b]? = some (scnC s q x y) := by
  simp [World.setCell, Array.getElem?_modify, h, scnC]
theorem scn_drew {w : World} {b : Nat} {o : Option Obj} (h : w.heap[b]? = o) : w.drew.heap[b]? = o := h

set_option maxHeartbeats 2000000 in
theorem look_any (b p : Nat) (s : ByteArray) (x y : Value) (w : World) (h : w.heap[b]? = some (scnC s p x y)) (hp : p ≤ 140737488351300) (hs : s.size ≤ 140737488351232) :
    Calls Try.prog 62 #[.pointer (some ⟨b, 0, none⟩)] w fun e w' => e = .returned (.tuple #[]) ∧ Scn b s p w' ∧ w.grownBy w' (some b) := by
  obtain ⟨c0, c1, c2, c3, cf⟩ := scn_cells h
  by_cases hlt : p < s.size
  · have hc0 : (0 : Int) ≤ (s[p].toNat : Int) := by omega
    have hc1 : (s[p].toNat : Int) < 256 := by have := s[p].toNat_lt; omega
    have hK := fun wx => kindOf_any (s[p].toNat : Int) wx hc0 hc1
    have hn := nth_strI s p hlt
    have hk : kAt (strI s) p = kindL (s[p].toNat : Int) := by rw [kAt, if_pos (by rw [strI_len]; exact hlt), hn]
    have HF : Hid (∀ w' : World, w.grownBy w' (some b) → w'.heap[b]? = some (scnC s p (.int .u8 (s[p].toNat : Int)) (.int .u8 (kindL (s[p].toNat : Int)))) → Scn b s p w' ∧ w.grownBy w' (some b)) := fun w' hg hh => ⟨by unfold Scn; rw [hn, hk]; exact hh, hg⟩
    have HS : Hid (w.heap[b]? = some (scnC s p x y)) := h
    have hpi : (p : Int) < (s.size : Int) := by omega
    have f2 := cf 2
    have f3 := cf 3
    clear h hn hk cf
    generalize kindL (s[p].toNat : Int) = kd at *
    go_enter Try.func62, Try.ntmps62
    go_wp2
    go_region
    go_wp2
    go_region
    all_goals
      go_wp2_with fail
      refine (hK _).mono ?_
      rintro e w' ⟨rfl, rfl⟩
      go_wp2_with fail
      go_end0
      refine ⟨rfl, HF.out _ ?_ ?_⟩
      · exact grown_setCell (grown_drew1 (grown_setCell (grown_drew1 (grown_setCell (grown_setCell (grown_refl w _) 2 _) 3 _)) 2 _)) 3 _
      · exact scn_set3 (scn_drew (scn_set2 (scn_drew (scn_set3 (scn_set2 HS.out _) _)) _)) _
  · have hn : nth (strI s) p = 0 := nth_over _ _ (by rw [strI_len]; omega)
    have hk : kAt (strI s) p = 0 := by rw [kAt, if_neg (by rw [strI_len]; exact hlt)]
    have HF : Hid (∀ w' : World, w.grownBy w' (some b) → w'.heap[b]? = some (scnC s p (.int .u8 0) (.int .u8 0)) → Scn b s p w' ∧ w.grownBy w' (some b)) := fun w' hg hh => ⟨by unfold Scn; rw [hn, hk]; exact hh, hg⟩
    have HS : Hid (w.heap[b]? = some (scnC s p x y)) := h
    have hpi : ¬ (p : Int) < (s.size : Int) := by omega
    have f2 := cf 2
    have f3 := cf 3
    clear h hn hk cf
    go_enter Try.func62, Try.ntmps62
    go_wp2
    go_region
    go_wp2
    go_end0
    refine ⟨rfl, HF.out _ ?_ ?_⟩
    · exact grown_drew1 (grown_setCell (grown_setCell (grown_refl w _) 2 _) 3 _)
    · exact scn_drew (scn_set3 (scn_set2 HS.out _) _)

theorem step_any (b p : Nat) (s : ByteArray) (w : World) (h : Scn b s p w) (hp : p ≤ 140737488351240) (hs : s.size ≤ 140737488351232) :
    Calls Try.prog 76 #[.pointer (some ⟨b, 0, none⟩)] w fun e w' => e = .returned (.tuple #[]) ∧ Scn b s (p + 1) w' ∧ w.grownBy w' (some b) := by
  obtain ⟨c0, c1, c2, c3, cf⟩ := scn_cells h
  have hL := look_any b (p + 1) s _ _ _ (scn_set1 h (p + 1)) (by omega) hs
  have hg := grown_setCell (grown_refl w (some b)) 1 (.int .i64 ((p + 1 : Nat) : Int))
  have f1 := cf 1
  rw [show ((p + 1 : Nat) : Int) = (p : Int) + 1 by omega] at hL hg
  clear h cf
  go_enter Try.func76, Try.ntmps76
  go_wp2_with fail
  refine hL.mono ?_
  rintro e w' ⟨rfl, h1, h2⟩
  go_wp2_with fail
  go_end0
  exact ⟨rfl, h1, grown_trans hg h2⟩

end Go.Proofs.Yteckmcgihbicfab
