/-
  Plain arithmetic for the layer of words: the four bytes of a word, a word out of four bytes, and that 'or' of parts that do not overlap is their sum. No condition but the bounds that each lemma names.
-/
import Derived.WalkKit
import Derived.Laws.BitsAllLaws
import Derived.WalkSmall
import Derived.OpenShut
import Derived.ProofKit
namespace Go.Proofs.Ytpdjmapmpicgjab
open Go.RowKit

/-- The number at a place of a list (0 behind its end). -/
def nth (zs : List Int) (k : Nat) : Int := zs.getD k 0

/-- The byte of a word at a place. -/
def byt (x : Int) (p : Nat) : Int := x / 256 ^ p % 256

/-! ### lists of words and bytes -/

/-- A word's four bytes. -/
def four (x : Int) : List Int := [byt x 0, byt x 1, byt x 2, byt x 3]
theorem take_snoc (zs : List Int) (k : Nat) (h : k < zs.length) : zs.take (k + 1) = zs.take k ++ [nth zs k] := by
  rw [List.take_succ_eq_append_getElem h]; simp [nth, List.getD, h]
/-- What can be read of a slice of integers: each of its cells, in a block that is there. -/
def View (k : IntKind) (w : World) (a : Option Addr) (zs : List Int) : Prop :=
  ∀ j, j < zs.length → ∃ b off, a = some ⟨b, off, none⟩ ∧ b < w.heap.size ∧ w.cell? ⟨b, off + j, none⟩ = some (.int k (nth zs j))

/-- Every number lies in 0 to m - 1. -/
def Within (m : Int) (zs : List Int) : Prop := ∀ z ∈ zs, 0 ≤ z ∧ z < m

theorem Within.at {m : Int} {zs : List Int} (h : Within m zs) {k : Nat} (hk : k < zs.length) : 0 ≤ nth zs k ∧ nth zs k < m := by
  have e : nth zs k = zs[k] := by simp [nth, List.getD, hk]
  rw [e]; exact h _ (List.getElem_mem hk)

theorem View.below {k : IntKind} {w w' : World} {a : Option Addr} {zs : List Int} (h : View k w a zs) (hb : Below w.heap.size w w') : View k w' a zs := by
  intro j hj
  obtain ⟨b, off, e, hlt, hc⟩ := h j hj
  exact ⟨b, off, e, Nat.lt_of_lt_of_le hlt hb.size, (hb.cell (p := ⟨b, off + j, none⟩) hlt).trans hc⟩

theorem bel_drewN {B : Nat} {a w : World} (h : Below B a w) (n : Nat) : Below B a (w.drewN n) := h.trans ⟨rfl, rfl, rfl, Nat.le_refl _, fun _ _ => rfl⟩

/-- What the call owns can be read. -/
theorem View.ofRow {k : IntKind} {w : World} {B e g n cap : Nat} {zs : List Int} (h : w.ownsRow B e 1 (.slice (some ⟨g, 0, none⟩) n cap) n (zs.map (Value.int k))) (hl : zs.length = n) : View k w (some ⟨g, 0, none⟩) zs := by
  intro j hj
  have hc := h.cellAt j (by omega)
  have e : (zs.map (Value.int k))[j]? = some (.int k (nth zs j)) := by simp [nth, List.getD, hj]
  rw [e] at hc
  exact ⟨g, 0, rfl, World.block_lt_of_cell? _ _ hc, by rw [Nat.zero_add]; exact hc⟩

/-- What the call owns stays owned where nothing old has turned. -/
theorem own_below {w w' : World} {B e size n : Nat} {v : Value} {xs : List Value} (h : w.ownsRow B e size v n xs) (hb : Below w.heap.size w w') : w'.ownsRow B e size v n xs := by
  refine ⟨h.1, ?_⟩
  rcases h.2 with hn | ⟨g, cap, cur, rfl, hg, hgg, rest⟩
  · exact .inl hn
  · exact .inr ⟨g, cap, cur, rfl, hg, by rw [hb.block g (Array.getElem?_eq_some_iff.1 hgg).1]; exact hgg, rest⟩

theorem view_nil {k : IntKind} {w : World} {a : Option Addr} : View k w a [] := fun j hj => by simp at hj
theorem view_take {k : IntKind} {w : World} {x : Addr} {zs : List Int} {n : Nat} (hcell : ∀ i, i < zs.length → w.cell? (x.add i) = some (.int k (nth zs i))) (hn : n ≤ zs.length) : View k w (some x) (zs.take n) := by
  intro j hj
  rw [List.length_take] at hj
  have hc0 := hcell 0 (by omega)
  have hc := hcell j (by omega)
  obtain ⟨b, off, spot⟩ := x
  have hs : spot = none := by simpa [Addr.add] using World.cell?_spot hc0
  subst hs
  have hc' : w.cell? ⟨b, off + j, none⟩ = some (.int k (nth zs j)) := by rw [← Addr.add_lit]; exact hc
  refine ⟨b, off, rfl, World.block_lt_of_cell? _ _ hc', ?_⟩
  rw [hc']
  simp [nth, List.getD, show j < n by omega]

/-! ### a row that is filled from its head on -/

/-- The first k numbers, and zeros up to n. -/
def filled (zs : List Int) (k n : Nat) : List Int := zs.take k ++ List.replicate (n - k) 0

theorem filled_len (zs : List Int) (k n : Nat) (hk : k ≤ n) (hz : k ≤ zs.length) : (filled zs k n).length = n := by
  simp only [filled, List.length_append, List.length_take, List.length_replicate]; omega
theorem filled_whole (zs : List Int) (n : Nat) (hz : zs.length = n) : filled zs n n = zs := by
  subst hz; simp [filled]
theorem filled_zero (zs : List Int) (n : Nat) : filled zs 0 n = List.replicate n 0 := by simp [filled]
theorem filled_set (zs : List Int) (k n : Nat) (hk : k < n) (hz : k < zs.length) : (filled zs k n).set k (nth zs k) = filled zs (k + 1) n := by
  have e : (zs.take k).length = k := by rw [List.length_take]; omega
  rw [filled, filled, List.set_append_right _ _ (by omega), e, Nat.sub_self, take_snoc zs k hz, List.append_assoc]
  congr 1
  rw [show n - k = (n - (k + 1)) + 1 by omega, List.replicate_succ]
  simp

/-- A row that 'make' has just laid holds zeros. -/
theorem made_row {w : World} {B e : Nat} {v : Value} {n : Nat} {k : IntKind} (zs : List Int) (h : w.ownsRow B e 1 v n (madeCells #[Value.int k 0] n).toList) : w.ownsRow B e 1 v n ((filled zs 0 n).map (Value.int k)) := by
  have e1 : (madeCells #[Value.int k 0] n).toList = (filled zs 0 n).map (Value.int k) := by
    rw [filled_zero, List.map_replicate]
    exact toList_madeCells_one (.int k 0) n
  rw [← e1]; exact h

/-! ### bytes to words -/

/-- It lies in blocks from B on. -/
def NewAt (B : Nat) (a : Option Addr) : Prop := ∀ b off s, a = some ⟨b, off, s⟩ → B ≤ b
/-- A store into another block leaves a view as it was. -/
theorem View.setCell {k : IntKind} {w : World} {a : Option Addr} {zs : List Int} (h : View k w a zs) {B g j : Nat} (hn : NewAt B a) (hg : g < B) (u : Value) : View k (w.setCell ⟨g, j, none⟩ u) a zs := by
  intro i hi
  obtain ⟨b, off, rfl, hb, hc⟩ := h i hi
  have := hn b off none rfl
  refine ⟨b, off, rfl, by simpa [World.setCell] using hb, ?_⟩
  rw [← hc]
  exact World.cell?_of_block (w := w) (Below.heap_setCell w ⟨g, j, none⟩ u b (by simp; omega))

end Go.Proofs.Ytpdjmapmpicgjab
