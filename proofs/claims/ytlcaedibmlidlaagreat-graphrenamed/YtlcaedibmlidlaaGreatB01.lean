/-
  Texts laid together in one: Math, Slots, Math3, Iter, Boxes, Rdr, Raws, KitWords, Law02Raws, KitSpoilWords, Law02Apart, RowX.
-/
import Derived.WalkKit
import Derived.Laws.BitsAllLaws
import Derived.WalkSmall
import Derived.OpenShut
import Derived.ProofKit
import Derived.Laws.BytesArg
import Derived.RangeFuncNested
import Derived.RangeFuncLeaves
import Derived.RangeFuncBound
import Derived.Maps.AppendAt
import Derived.Maps.Range
import Derived.OneCell
import Derived.WalkSpells
import Derived.Deep.QuietTactic
import Derived.BigQuiet
import Derived.Test.YtlcaedibmlidlaaGreatProg
import Derived.Deep.AppendLies
import Derived.Laws.AppendOwn
/-
  Plain arithmetic for the layer of words: the four bytes of a word, a word out of four bytes, and that 'or' of parts that do not overlap is their sum. No condition but the bounds that each lemma names.
-/
namespace Go.Proofs.YtlcaedibmlidlaaGreat
open Go.RowKit

theorem ret_int {k : IntKind} {a b : Int} (h : a = b) : Ending.returned (.int k a) = .returned (.int k b) := by rw [h]

/-- The number at a place of a list (0 behind its end). -/
def nth (zs : List Int) (k : Nat) : Int := zs.getD k 0

/-- The byte of a word at a place. -/
def byt (x : Int) (p : Nat) : Int := x / 256 ^ p % 256

/-- A byte at a place of a word. -/
def plc (c : Int) (p : Nat) : Int := c * 256 ^ p

theorem or_u32 (a b s : Nat) (hb : b < 2 ^ s) (h : a * 2 ^ s + b < 4294967296) : bits .or .u32 ((a * 2 ^ s : Nat) : Int) (b : Int) = ((a * 2 ^ s + b : Nat) : Int) := by
  rw [u32_or_nat _ _ (by omega) (by omega), ← Nat.shiftLeft_eq, Nat.shiftLeft_add_eq_or_of_lt hb]

theorem or_u32' (a b s : Nat) (hb : b < 2 ^ s) (h : a * 2 ^ s + b < 4294967296) : bits .or .u32 (b : Int) ((a * 2 ^ s : Nat) : Int) = ((a * 2 ^ s + b : Nat) : Int) := by
  rw [u32_or_nat _ _ (by omega) (by omega), Nat.or_comm, ← Nat.shiftLeft_eq, Nat.shiftLeft_add_eq_or_of_lt hb]

/-- High first: the low part comes to it. -/
theorem or_high (a b : Int) (s : Nat) (ha : 0 ≤ a) (hb0 : 0 ≤ b) (hb : b < 2 ^ s) (h : a * 2 ^ s + b < 4294967296) : bits .or .u32 (a * 2 ^ s) b = a * 2 ^ s + b := by
  obtain ⟨m, rfl⟩ := Int.eq_ofNat_of_zero_le ha
  obtain ⟨n, rfl⟩ := Int.eq_ofNat_of_zero_le hb0
  have e : ((m : Int) * 2 ^ s) = ((m * 2 ^ s : Nat) : Int) := by simp
  rw [e] at h ⊢
  rw [or_u32 m n s (by have : ((n : Nat) : Int) < ((2 ^ s : Nat) : Int) := by simpa using hb
                       omega) (by omega)]
  simp

/-- Low first: the high part comes to it. -/
theorem or_low (a b : Int) (s : Nat) (ha : 0 ≤ a) (hb0 : 0 ≤ b) (hb : b < 2 ^ s) (h : a * 2 ^ s + b < 4294967296) : bits .or .u32 b (a * 2 ^ s) = b + a * 2 ^ s := by
  obtain ⟨m, rfl⟩ := Int.eq_ofNat_of_zero_le ha
  obtain ⟨n, rfl⟩ := Int.eq_ofNat_of_zero_le hb0
  have e : ((m : Int) * 2 ^ s) = ((m * 2 ^ s : Nat) : Int) := by simp
  rw [e] at h ⊢
  rw [or_u32' m n s (by have : ((n : Nat) : Int) < ((2 ^ s : Nat) : Int) := by simpa using hb
                        omega) (by omega)]
  simp; omega

theorem or_zero (b : Int) (hb0 : 0 ≤ b) (hb : b < 4294967296) : bits .or .u32 0 b = b := by
  have := or_high 0 b 32 (by omega) hb0 (by omega) (by omega)
  simpa using this

theorem plc0 (c : Int) : plc c 0 = c := by simp [plc]
theorem plc1 (c : Int) : plc c 1 = c * 256 := by simp [plc]
theorem plc2 (c : Int) : plc c 2 = c * 65536 := by simp [plc]
theorem plc3 (c : Int) : plc c 3 = c * 16777216 := by simp [plc]

/-! ### lists of words and bytes -/

/-- A word's four bytes. -/
def four (x : Int) : List Int := [byt x 0, byt x 1, byt x 2, byt x 3]
theorem take_snoc (zs : List Int) (k : Nat) (h : k < zs.length) : zs.take (k + 1) = zs.take k ++ [nth zs k] := by
  rw [List.take_succ_eq_append_getElem h]; simp [nth, List.getD, h]
/-- What can be read of a slice of integers: each of its cells, in a block that is there. -/
def View (k : IntKind) (w : World) (a : Option Addr) (zs : List Int) : Prop :=
  ∀ j, j < zs.length → ∃ b off, a = some ⟨b, off, none⟩ ∧ b < w.heap.size ∧ w.cell? ⟨b, off + j, none⟩ = some (.int k (nth zs j))

/-- Every number lies in 0 to m - 1. -/
def Within (m : Int) (zs : List Int) : Prop := ∀ z ∈ zs, 0 ≤ z ∧ z < m

theorem Within.at {m : Int} {zs : List Int} (h : Within m zs) {k : Nat} (hk : k < zs.length) : 0 ≤ nth zs k ∧ nth zs k < m := by
  have e : nth zs k = zs[k] := by simp [nth, List.getD, hk]
  rw [e]; exact h _ (List.getElem_mem hk)

theorem View.below {k : IntKind} {w w' : World} {a : Option Addr} {zs : List Int} (h : View k w a zs) (hb : Below w.heap.size w w') : View k w' a zs := by
  intro j hj
  obtain ⟨b, off, e, hlt, hc⟩ := h j hj
  exact ⟨b, off, e, Nat.lt_of_lt_of_le hlt hb.size, (hb.cell (p := ⟨b, off + j, none⟩) hlt).trans hc⟩

theorem bel_drewN {B : Nat} {a w : World} (h : Below B a w) (n : Nat) : Below B a (w.drewN n) := h.trans ⟨rfl, rfl, rfl, Nat.le_refl _, fun _ _ => rfl⟩

/-- What the call owns can be read. -/
theorem View.ofRow {k : IntKind} {w : World} {B e g n cap : Nat} {zs : List Int} (h : w.ownsRow B e 1 (.slice (some ⟨g, 0, none⟩) n cap) n (zs.map (Value.int k))) (hl : zs.length = n) : View k w (some ⟨g, 0, none⟩) zs := by
  intro j hj
  have hc := h.cellAt j (by omega)
  have e : (zs.map (Value.int k))[j]? = some (.int k (nth zs j)) := by simp [nth, List.getD, hj]
  rw [e] at hc
  exact ⟨g, 0, rfl, World.block_lt_of_cell? _ _ hc, by rw [Nat.zero_add]; exact hc⟩

/-- What the call owns stays owned where nothing old has turned. -/
theorem own_below {w w' : World} {B e size n : Nat} {v : Value} {xs : List Value} (h : w.ownsRow B e size v n xs) (hb : Below w.heap.size w w') : w'.ownsRow B e size v n xs := by
  refine ⟨h.1, ?_⟩
  rcases h.2 with hn | ⟨g, cap, cur, rfl, hg, hgg, rest⟩
  · exact .inl hn
  · exact .inr ⟨g, cap, cur, rfl, hg, by rw [hb.block g (Array.getElem?_eq_some_iff.1 hgg).1]; exact hgg, rest⟩

theorem view_nil {k : IntKind} {w : World} {a : Option Addr} : View k w a [] := fun j hj => by simp at hj
/-! ### a row that is filled from its head on -/

/-- The first k numbers, and zeros up to n. -/
def filled (zs : List Int) (k n : Nat) : List Int := zs.take k ++ List.replicate (n - k) 0

theorem filled_len (zs : List Int) (k n : Nat) (hk : k ≤ n) (hz : k ≤ zs.length) : (filled zs k n).length = n := by
  simp only [filled, List.length_append, List.length_take, List.length_replicate]; omega
theorem filled_whole (zs : List Int) (n : Nat) (hz : zs.length = n) : filled zs n n = zs := by
  subst hz; simp [filled]
theorem filled_zero (zs : List Int) (n : Nat) : filled zs 0 n = List.replicate n 0 := by simp [filled]
theorem filled_at (zs : List Int) (k n : Nat) (hk : k < n) (hz : k ≤ zs.length) : (filled zs k n)[k]? = some 0 := by
  have e : (zs.take k).length = k := by rw [List.length_take]; omega
  rw [filled, List.getElem?_append_right (by omega), e, Nat.sub_self]
  simp [show 0 < n - k by omega]
theorem filled_set (zs : List Int) (k n : Nat) (hk : k < n) (hz : k < zs.length) : (filled zs k n).set k (nth zs k) = filled zs (k + 1) n := by
  have e : (zs.take k).length = k := by rw [List.length_take]; omega
  rw [filled, filled, List.set_append_right _ _ (by omega), e, Nat.sub_self, take_snoc zs k hz, List.append_assoc]
  congr 1
  rw [show n - k = (n - (k + 1)) + 1 by omega, List.replicate_succ]
  simp

/-- A row that 'make' has just laid holds zeros. -/
theorem made_row {w : World} {B e : Nat} {v : Value} {n : Nat} {k : IntKind} (zs : List Int) (h : w.ownsRow B e 1 v n (madeCells #[Value.int k 0] n).toList) : w.ownsRow B e 1 v n ((filled zs 0 n).map (Value.int k)) := by
  have e1 : (madeCells #[Value.int k 0] n).toList = (filled zs 0 n).map (Value.int k) := by
    rw [filled_zero, List.map_replicate]
    exact toList_madeCells_one (.int k 0) n
  rw [← e1]; exact h

/-- A store into the row at the place that comes next. -/
theorem fill_step {w : World} {B e g n : Nat} {k : IntKind} {zs : List Int} {i : Nat} (h : w.ownsRow B e 1 (.slice (some ⟨g, 0, none⟩) n n) n ((filled zs i n).map (Value.int k))) (hi : i < n) (hz : i < zs.length) :
    w.cell? ⟨g, i, none⟩ = some (.int k 0) ∧ w.frozen? ⟨g, i, none⟩ = false ∧ (w.setCell ⟨g, i, none⟩ (.int k (nth zs i))).ownsRow B e 1 (.slice (some ⟨g, 0, none⟩) n n) n ((filled zs (i + 1) n).map (Value.int k)) := by
  refine ⟨?_, h.frozenAt i, ?_⟩
  · rw [h.cellAt i (by omega), List.getElem?_map, filled_at zs i n hi (by omega)]; rfl
  · have := h.stored i (.int k (nth zs i))
    rw [← List.map_set, filled_set zs i n hi hz] at this
    exact this.1

theorem getD_left (xs ys : List Int) (k : Nat) (h : k < xs.length) : nth (xs ++ ys) k = nth xs k := by
  simp [nth, List.getD, List.getElem?_append_left h]
theorem getD_right (xs ys : List Int) (k : Nat) (h : xs.length ≤ k) : nth (xs ++ ys) k = nth ys (k - xs.length) := by
  simp [nth, List.getD, List.getElem?_append_right h]

/-! ### bytes to words -/

/-- The word out of the bytes from 4 k on. -/
def wordAt (zs : List Int) (k : Nat) : Int := nth zs (4 * k) + nth zs (4 * k + 1) * 256 + nth zs (4 * k + 2) * 65536 + nth zs (4 * k + 3) * 16777216
/-- The words of bytes. -/
def splitL (zs : List Int) : List Int := (List.range (zs.length / 4)).map (wordAt zs)
theorem splitL_len (zs : List Int) : (splitL zs).length = zs.length / 4 := by simp [splitL]
/-- Word k when the first i bytes have been put to their places. -/
def partW (zs : List Int) (i k : Nat) : Int :=
  (if 4 * k < i then nth zs (4 * k) else 0) + (if 4 * k + 1 < i then nth zs (4 * k + 1) * 256 else 0) + (if 4 * k + 2 < i then nth zs (4 * k + 2) * 65536 else 0) + (if 4 * k + 3 < i then nth zs (4 * k + 3) * 16777216 else 0)
/-- The row then. -/
def partL (zs : List Int) (i n : Nat) : List Int := (List.range n).map (partW zs i)

theorem partL_zero (zs ys : List Int) (n : Nat) : partL zs 0 n = filled ys 0 n := by
  rw [filled_zero]
  apply List.ext_getElem? 
  intro k
  by_cases hk : k < n
  · simp [partL, partW, hk]
  · simp [partL, hk]
theorem partL_whole (zs : List Int) (h : zs.length % 4 = 0) : partL zs zs.length (zs.length / 4) = splitL zs := by
  unfold partL splitL
  apply List.map_congr_left
  intro k hk
  have hk' : k < zs.length / 4 := List.mem_range.1 hk
  unfold partW wordAt
  rw [if_pos (by omega), if_pos (by omega), if_pos (by omega), if_pos (by omega)]
theorem partW_other (zs : List Int) (i k : Nat) (h : k ≠ i / 4) : partW zs (i + 1) k = partW zs i k := by
  unfold partW
  have h0 : (4 * k < i + 1) = (4 * k < i) := by apply propext; omega
  have h1 : (4 * k + 1 < i + 1) = (4 * k + 1 < i) := by apply propext; omega
  have h2 : (4 * k + 2 < i + 1) = (4 * k + 2 < i) := by apply propext; omega
  have h3 : (4 * k + 3 < i + 1) = (4 * k + 3 < i) := by apply propext; omega
  simp only [h0, h1, h2, h3]
theorem partL_set (zs : List Int) (i n : Nat) : (partL zs i n).set (i / 4) (partW zs (i + 1) (i / 4)) = partL zs (i + 1) n := by
  apply List.ext_getElem?
  intro k
  rw [List.getElem?_set]
  by_cases hk : k < n
  · by_cases e : i / 4 = k
    · subst e; simp [partL, hk]
    · simp [partL, hk, e, partW_other zs i k (fun h => e h.symm)]
  · by_cases e : i / 4 = k
    · subst e; simp [partL, hk]
    · simp [partL, hk, e]

/-- The byte that comes next is put to its place. -/
theorem partW_step (zs : List Int) (i : Nat) (hw : Within 256 zs) (hi : i < zs.length) :
    bits .or .u32 (partW zs i (i / 4)) (plc (nth zs i) (i % 4)) = partW zs (i + 1) (i / 4) := by
  have hc := hw.at hi
  rcases (show i % 4 = 0 ∨ i % 4 = 1 ∨ i % 4 = 2 ∨ i % 4 = 3 by omega) with e | e | e | e
  · have e0 : 4 * (i / 4) = i := by omega
    rw [e, plc0]; unfold partW
    rw [if_neg (by omega), if_neg (by omega), if_neg (by omega), if_neg (by omega), if_pos (by omega), if_neg (by omega), if_neg (by omega), if_neg (by omega), e0]
    have := or_zero (nth zs i) hc.1 (by omega)
    simpa using this
  · have e0 : 4 * (i / 4) + 1 = i := by omega
    have b0 := hw.at (k := 4 * (i / 4)) (by omega)
    rw [e, plc1]; unfold partW
    rw [if_pos (by omega), if_neg (by omega), if_neg (by omega), if_neg (by omega), if_pos (by omega), if_pos (by omega), if_neg (by omega), if_neg (by omega), e0]
    have := or_low (nth zs i) (nth zs (4 * (i / 4))) 8 hc.1 b0.1 (by omega) (by omega)
    rw [show ((nth zs i) * 2 ^ 8 : Int) = nth zs i * 256 by omega] at this
    simpa using this
  · have e0 : 4 * (i / 4) + 2 = i := by omega
    have b0 := hw.at (k := 4 * (i / 4)) (by omega)
    have b1 := hw.at (k := 4 * (i / 4) + 1) (by omega)
    rw [e, plc2]; unfold partW
    rw [if_pos (by omega), if_pos (by omega), if_neg (by omega), if_neg (by omega), if_pos (by omega), if_pos (by omega), if_pos (by omega), if_neg (by omega), e0]
    have := or_low (nth zs i) (nth zs (4 * (i / 4)) + nth zs (4 * (i / 4) + 1) * 256) 16 hc.1 (by omega) (by omega) (by omega)
    rw [show ((nth zs i) * 2 ^ 16 : Int) = nth zs i * 65536 by omega] at this
    simpa using this
  · have e0 : 4 * (i / 4) + 3 = i := by omega
    have b0 := hw.at (k := 4 * (i / 4)) (by omega)
    have b1 := hw.at (k := 4 * (i / 4) + 1) (by omega)
    have b2 := hw.at (k := 4 * (i / 4) + 2) (by omega)
    rw [e, plc3]; unfold partW
    rw [if_pos (by omega), if_pos (by omega), if_pos (by omega), if_neg (by omega), if_pos (by omega), if_pos (by omega), if_pos (by omega), if_pos (by omega), e0]
    have := or_low (nth zs i) (nth zs (4 * (i / 4)) + nth zs (4 * (i / 4) + 1) * 256 + nth zs (4 * (i / 4) + 2) * 65536) 24 hc.1 (by omega) (by omega) (by omega)
    rw [show ((nth zs i) * 2 ^ 24 : Int) = nth zs i * 16777216 by omega] at this
    simpa using this

theorem partW_bounds (zs : List Int) (i k : Nat) (hw : Within 256 zs) (h : 4 * k + 4 ≤ zs.length) : 0 ≤ partW zs i k ∧ partW zs i k < 4294967296 := by
  have b0 := hw.at (k := 4 * k) (by omega)
  have b1 := hw.at (k := 4 * k + 1) (by omega)
  have b2 := hw.at (k := 4 * k + 2) (by omega)
  have b3 := hw.at (k := 4 * k + 3) (by omega)
  unfold partW
  split <;> split <;> split <;> split <;> omega
/-- It lies in blocks from B on. -/
def NewAt (B : Nat) (a : Option Addr) : Prop := ∀ b off s, a = some ⟨b, off, s⟩ → B ≤ b
theorem newAt_mk {B b off : Nat} (h : B ≤ b) : NewAt B (some ⟨b, off, none⟩) := fun b' off' s e => by simp at e; omega

/-- A store into another block leaves a view as it was. -/
theorem View.setCell {k : IntKind} {w : World} {a : Option Addr} {zs : List Int} (h : View k w a zs) {B g j : Nat} (hn : NewAt B a) (hg : g < B) (u : Value) : View k (w.setCell ⟨g, j, none⟩ u) a zs := by
  intro i hi
  obtain ⟨b, off, rfl, hb, hc⟩ := h i hi
  have := hn b off none rfl
  refine ⟨b, off, rfl, by simpa [World.setCell] using hb, ?_⟩
  rw [← hc]
  exact World.cell?_of_block (w := w) (Below.heap_setCell w ⟨g, j, none⟩ u b (by simp; omega))

end Go.Proofs.YtlcaedibmlidlaaGreat

/-
  A frame as its slots: any frame of so many slots is the list of them.
-/
namespace Go.Proofs.YtlcaedibmlidlaaGreat
open Go

theorem hide {p : Prop} (h : p) : Go.RowKit.Hid p := h
/-- What a slot holds. -/
def slot (t : Array Value) (i : Nat) : Value := t.getD i undef
theorem frame_eq (t : Array Value) (n : Nat) (h : t.size = n) : t = ((List.range n).map (slot t)).toArray := by
  apply Array.ext
  · simp [h]
  · intro i h1 h2
    simp [slot, Array.getD, h1]
/-- What holds where a piece of code goes on. -/
def onNormal (K : Act → World → Prop) : Exit → Act → World → Prop
  | .normal, a, w => K a w
  | _, _, _ => False
theorem onNormal_normal (K : Act → World → Prop) (a : Act) (w : World) : onNormal K .normal a w = K a w := rfl
theorem wp_norm {P : Program} {c : Code} {Q : Exit → Act → World → Prop} {a : Act} {w : World} (h : c.wp P (onNormal (Q .normal)) a w) : c.wp P Q a w :=
  wp_mono h fun e a w h => by
    cases e with
    | normal => exact h
    | _ => exact False.elim h

end Go.Proofs.YtlcaedibmlidlaaGreat

/-
  Plain arithmetic for the layer of words: a text at the front of words: where its end lies, and what stands behind it in its word.
-/
namespace Go.Proofs.YtlcaedibmlidlaaGreat
open Go.RowKit

end Go.Proofs.YtlcaedibmlidlaaGreat

/-
  A range over a function whose iterator hands out what it has just made: what is asked of such an iterator ('Tells'), and what a loop over it comes to ('wp_tells'). V: what holds of a thing that is told, in the world in which it is told; what a round keeps is said by Kept: what lay below n₀, and every box of a type of τ. The calls' fence is the wide one.
-/
namespace Go.Proofs.YtlcaedibmlidlaaGreat
open Go.RowKit
set_option linter.unusedVariables false

/-- Every block of cells of a type of τ lies as it lay. -/
def KeptT (τ : TypeId → Prop) (A B : World) : Prop := ∀ (k : Nat) (cs : Array Value) (t : TypeId) (fr : Nat × Nat), τ t → A.heap[k]? = some (.cells cs t fr) → B.heap[k]? = some (.cells cs t fr)

theorem KeptT.refl (τ : TypeId → Prop) (A : World) : KeptT τ A A := fun _ _ _ _ _ h => h
theorem KeptT.trans {τ : TypeId → Prop} {A B C : World} (h : KeptT τ A B) (k : KeptT τ B C) : KeptT τ A C := fun i cs t fr ht hi => k i cs t fr ht (h i cs t fr ht hi)
theorem KeptT.none {A B : World} : KeptT (fun _ => False) A B := fun _ _ _ _ h _ => h.elim
theorem KeptT.of_grownBy {τ : TypeId → Prop} {A B : World} {row : Option Nat} (hg : A.grownBy B row) (hr : ∀ (j : Nat) (cs : Array Value) (t : TypeId) (fr : Nat × Nat), row = some j → A.heap[j]? = some (.cells cs t fr) → ¬ τ t) : KeptT τ A B := fun k cs t fr ht hk => by
  refine (hg.block k (Array.getElem?_eq_some_iff.1 hk).1 (fun e => ?_)).trans hk
  exact hr k cs t fr e.symm hk ht
theorem KeptT.row {τ : TypeId → Prop} {A B : World} {b e size n : Nat} {v : Value} {xs : List Value} (h : A.ownsRow b e size v n xs) (hg : A.grownBy B v.ownBlock) (hne : ¬ τ e) : KeptT τ A B := KeptT.of_grownBy hg fun j cs t fr ej hj => by
  rcases h.2 with ⟨h1, _⟩ | ⟨g, c, cur, h1, _, h3, _⟩
  · rw [h1] at ej; simp [Value.ownBlock] at ej
  · rw [h1] at ej; simp [Value.ownBlock] at ej; subst ej
    rw [h3] at hj; cases hj; exact hne
/-- What a round keeps that goes on. -/
def Kept (n₀ : Nat) (τ : TypeId → Prop) (A B : World) : Prop := Below n₀ A B ∧ KeptT τ A B
theorem Kept.refl (n₀ : Nat) (τ : TypeId → Prop) (A : World) : Kept n₀ τ A A := ⟨Below.refl _ _, KeptT.refl _ _⟩
theorem Kept.trans {n₀ : Nat} {τ : TypeId → Prop} {A B C : World} (h : Kept n₀ τ A B) (k : Kept n₀ τ B C) : Kept n₀ τ A C := ⟨h.1.trans k.1, h.2.trans k.2⟩
/-- The turn of a record. -/
theorem Kept.putObj {n₀ : Nat} {τ : TypeId → Prop} (A : World) {l : Nat} {o : Obj} (o' : Obj) (hl : A.heap[l]? = some o) (ho : o.isCells = false) (hn : n₀ ≤ l) : Kept n₀ τ A (A.putObj l o') := by
  have hlt := (Array.getElem?_eq_some_iff.1 hl).1
  refine ⟨(Below.refl n₀ A).grown (grownBy_putObj' A l o') (by omega) (fun k e => by cases e; exact hn), KeptT.of_grownBy (grownBy_putObj' A l o') fun j cs t fr e hj => ?_⟩
  cases e
  rw [hl] at hj
  cases hj
  cases ho
theorem grown_of_below {A B : World} (h : Below A.heap.size A B) (row : Option Nat) : A.grownBy B row := ⟨h.os, h.tape, h.output, h.size, fun k hk _ => h.block k hk⟩
theorem KeepsFrom.mono {m m' : Nat} {A B : World} (h : KeepsFrom m A B) (hm : m ≤ m') : KeepsFrom m' A B := ⟨h.size, fun k o hk h1 h2 => h.same k o (Nat.le_trans hm hk) h1 h2⟩
theorem OwnFrom.below {β : Type} {B : Nat} {I : β → World → Prop} (h : OwnFrom B I) {s : β} {A C : World} (hs : I s A) (hb : Below A.heap.size A C) : I s C :=
  h s A C Option.none hs (grown_of_below hb _) (fun r e => by cases e)
theorem OwnFrom.mono {β : Type} {B B' : Nat} {I : β → World → Prop} (h : OwnFrom B I) (hB : B ≤ B') : OwnFrom B' I := fun s W W' row hs hg hr => h s W W' row hs hg (fun r e => ⟨Nat.le_trans hB (hr r e).1, (hr r e).2⟩)

/-- What is asked of an iterator's function. -/
def Tells {α : Type} (P : Program) (g : Nat) (lb : Array Value) (encs : α → Array Value) (V : List α → α → World → Prop) (n₀ : Nat) (τ : TypeId → Prop) (S Sp : List α → Prop) (w : World) : Prop :=
  ∀ (l : Nat) (J Jx : List α → World → Prop) (W : World), Below w.heap.size w W → OwnFrom W.heap.size J → OwnFrom W.heap.size Jx →
    (∀ pre x W1, J pre W1 → V pre x W1 → YieldAt Fence.wide 0 P l (encs x) W1 fun e W' =>
      KeepsFrom W.heap.size W1 W' ∧ ((e = .returned (.bool true) ∧ J (pre ++ [x]) W' ∧ Kept n₀ τ W1 W') ∨ (e = .returned (.bool false) ∧ Jx (pre ++ [x]) W'))) →
    J [] W →
    CallsIn Fence.wide 0 P g (#[.func (.yield l) #[] #[]] ++ lb) W fun e W' => (∃ v, e = .returned v) ∧ ((∃ xs, S xs ∧ J xs W') ∨ (∃ pre, Sp pre ∧ Jx pre W'))

/-- A loop over such an iterator. -/
theorem wp_tells {α : Type} {P : Program} {g : Operand} {ps : Array Tmp} {assign body : Code} {Q : Exit → Act → World → Prop} {a : Act} {w : World} {gf : Nat} {lb : Array Value}
    (hg : a.eval g = .func (.func gf) #[] lb) (eg : ∀ args w, (callFunc gf args).run P w = .ok (.enter gf args) w)
    {encs : α → Array Value} {V : List α → α → World → Prop} {n₀ : Nat} {τ : TypeId → Prop} {S Sp : List α → Prop} (hseq : Tells P gf lb encs V n₀ τ S Sp w) (hn : n₀ ≤ w.heap.size) (hps : ∀ x, (encs x).size = ps.size)
    (I : List α → World → Prop) (Ix : Code → List α → World → Prop) (hI : OwnFrom w.heap.size I) (hIx : ∀ c, OwnFrom w.heap.size (Ix c)) (h0 : I [] w)
    (Ax : List α → α → Act → World → Prop) (hAx : ∀ pre x a', OwnFrom w.heap.size (fun (_ : Unit) W => Ax pre x a' W))
    (hassign : ∀ (l : Nat) (pre : List α) (x : α) (W : World) (K : Act → World → Prop), I pre W → V pre x W → (∀ a' W', KeepsFrom w.heap.size W W' → Kept n₀ τ W W' → I pre W' → Ax pre x a' W' → K a' W') →
      assign.wpIn (Fence.wide.inRound l) 0 P (Exit.then K (fun _ _ _ => False)) { tmps := (ps.zip (encs x)).foldl (fun t (p, v) => t.setIfInBounds p v) a.tmps, defers := [] } W)
    (hbody : ∀ (l : Nat) (pre : List α) (x : α) (a' : Act) (W : World), w.heap.size ≤ l → (∃ r, W.heap[l]? = some (.loop r)) → I pre W → Ax pre x a' W → body.wpIn (Fence.wide.inRound l) 0 P (ownPostG w.heap.size (Kept n₀ τ) I Ix (pre ++ [x]) W) a' W)
    (hdone : ∀ (D : Nat) (xs : List α) (W : World), w.heap.size ≤ D → S xs → I xs W → W.heap[D]? = some (.deferred (some [])) → Q .normal { a with defers := { target := .collected D, args := #[] } :: a.defers } W)
    (hstop : ∀ (D : Nat) (c : Code) (pre : List α) (W : World), w.heap.size ≤ D → Sp pre → Ix c pre W → W.heap[D]? = some (.deferred (some [])) → c.wpIn Fence.wide 0 P Q { a with defers := { target := .collected D, args := #[] } :: a.defers } W) :
    (Code.rangeFunc g ps assign body).wpIn Fence.wide 0 P Q a w := by
  refine wpIn_rangeFunc fun fn hfn => ?_
  -- the block for deferred calls lies at D, the loop's record at D + 1
  generalize hD : w.heap.size = D at *
  let rec_ : LoopState → Option Code → Obj := fun st pe => .loop { state := st, pending := pe, fn, tmps := a.tmps, params := ps, assign, body, defers := D }
  have hrecC : ∀ st pe, (rec_ st pe).isCells = false := fun _ _ => rfl
  let W0 : World := (w.alloc (.deferred (some []))).alloc (rec_ .ready none)
  have hsz0 : W0.heap.size = D + 2 := by show ((w.alloc _).alloc _).heap.size = _; simp [hD]
  have hrun : (Instr.enterLoop fn a.tmps ps assign body Fence.wide.round).run P w = .ok (D + 1, [{ target := .collected D, args := #[] }]) W0 := by
    have := run_enterLoop_outer (P := P) (w := w) fn a.tmps ps assign body
    rw [hD] at this
    exact this
  have hrec0 : W0.heap[D + 1]? = some (rec_ .ready none) := by
    have := World.alloc_heap_new (w.alloc (.deferred (some []))) (rec_ .ready none)
    rw [World.size_alloc, hD] at this
    exact this
  have hdef0 : W0.heap[D]? = some (.deferred (some [])) := by
    have := World.alloc_heap_new w (.deferred (some []))
    rw [hD] at this
    exact (Below.heap_alloc _ _ _ (by simp [hD])).trans this
  have hbel0 : Below w.heap.size w W0 := ((Below.refl _ w).alloc (Nat.le_refl _) _).alloc (by simp) _
  refine ⟨D + 1, [{ target := .collected D, args := #[] }], W0, { target := .fn (.func gf) lb, args := #[.func (.yield (D + 1)) #[] #[]] }, W0, gf, #[.func (.yield (D + 1)) #[] #[]] ++ lb, W0, hrun, ?_, fun _ _ => trivial, ?_, (fun h => by cases h), ?_⟩
  · simp only [resolve, hg]; simp [go_sem]
  · simp [invoke, go_sem, eg]
  -- what holds between two rounds: the caller's word, and the two blocks of the loop
  have hnew : ∀ {k : Nat}, W0.heap.size ≤ k → D ≤ k ∧ k ≠ D + 1 ∧ k ≠ D := fun h => by rw [hsz0] at h; exact ⟨by omega, by omega, by omega⟩
  have stays : ∀ {A B : World} {row : Option Nat} {k : Nat} {o : Obj}, A.grownBy B row → (∀ r, row = some r → W0.heap.size ≤ r ∧ ∃ o : Obj, A.heap[r]? = some o ∧ o.isCells = false) → k < D + 2 → A.heap[k]? = some o → B.heap[k]? = some o := fun hgr hr hk h =>
    (hgr.block _ (Array.getElem?_eq_some_iff.1 h).1 (fun e => by have := (hr _ e.symm).1; rw [hsz0] at this; omega)).trans h
  refine (hseq (D + 1) (fun pre W => I pre W ∧ W.heap[D + 1]? = some (rec_ .ready none) ∧ W.heap[D]? = some (.deferred (some [])))
    (fun pre W => ∃ c, Ix c pre W ∧ W.heap[D + 1]? = some (rec_ .done (some c)) ∧ W.heap[D]? = some (.deferred (some []))) W0 hbel0 ?_ ?_ ?_ ⟨OwnFrom.below hI h0 hbel0, hrec0, hdef0⟩).mono ?_
  · intro s A B row hs hgr hr
    exact ⟨hI s A B row hs.1 hgr (fun r e => ⟨(hnew (hr r e).1).1, (hr r e).2⟩), stays hgr hr (by omega) hs.2.1, stays hgr hr (by omega) hs.2.2⟩
  · rintro s A B row ⟨c, hc, h1, h2⟩ hgr hr
    exact ⟨c, hIx c s A B row hc hgr (fun r e => ⟨(hnew (hr r e).1).1, (hr r e).2⟩), stays hgr hr (by omega) h1, stays hgr hr (by omega) h2⟩
  · -- a round
    rintro pre x W ⟨hi, hl, hk⟩ hV
    have hy := run_yield (P := P) (args := encs x) hl (hps x)
    refine ⟨fn, _, assign, body, hy, roundIn_of_wpIn hfn (hassign _ pre x W _ hi hV ?_)⟩
    intro a' Wa hkf hkp hia hax
    have hla := hkf.same _ _ (by omega) hl rfl
    have hka := hkf.same _ _ (Nat.le_refl _) hk rfl
    have hlt : D + 1 < Wa.heap.size := (Array.getElem?_eq_some_iff.1 hla).1
    refine ⟨_, run_beginRound hla rfl, ?_⟩
    have hlb : (Wa.putObj (D + 1) (rec_ .busy none)).heap[D + 1]? = some (rec_ .busy none) := World.putObj_heap_same hlt
    have hkb : (Wa.putObj (D + 1) (rec_ .busy none)).heap[D]? = some (.deferred (some [])) := (World.putObj_heap_other (by omega)).trans hka
    have kpb : Kept n₀ τ W (Wa.putObj (D + 1) (rec_ .busy none)) := hkp.trans (Kept.putObj Wa _ hla rfl (by omega))
    have put_from : ∀ (A : World) (o : Obj), KeepsFrom W0.heap.size A (A.putObj (D + 1) o) := fun A o => KeepsFrom.of_grownBy (grownBy_putObj' A (D + 1) o) (fun j e => by cases e; rw [hsz0]; omega)
    have kfb : KeepsFrom W0.heap.size W (Wa.putObj (D + 1) (rec_ .busy none)) := (KeepsFrom.mono hkf (by rw [hsz0]; omega)).trans (put_from Wa _)
    refine wpIn_mono (hbody _ pre x a' _ (by omega) ⟨_, hlb⟩ (hI.putObj _ hia (by omega) hla rfl) ((hAx pre x a').putObj (s := ()) _ hax (by omega) hla rfl)) ?_
    have leave : ∀ (j : Option Code) (W3 : World), KeepsFrom D (Wa.putObj (D + 1) (rec_ .busy none)) W3 →
        (Instr.endRound (D + 1) j).run P W3 = .ok (.bool j.isNone) (W3.putObj (D + 1) (rec_ (if j.isNone then .ready else .done) j)) ∧ W3.heap[D + 1]? = some (rec_ .busy none) ∧
        (W3.putObj (D + 1) (rec_ (if j.isNone then .ready else .done) j)).heap[D + 1]? = some (rec_ (if j.isNone then .ready else .done) j) ∧ (W3.putObj (D + 1) (rec_ (if j.isNone then .ready else .done) j)).heap[D]? = some (.deferred (some [])) ∧
        KeepsFrom W0.heap.size W (W3.putObj (D + 1) (rec_ (if j.isNone then .ready else .done) j)) := fun j W3 h3 => by
      have hl3 := h3.same _ _ (by omega) hlb rfl
      exact ⟨run_endRound (P := P) j hl3, hl3, World.putObj_heap_same (Array.getElem?_eq_some_iff.1 hl3).1, (World.putObj_heap_other (by omega)).trans (h3.same _ _ (Nat.le_refl _) hkb rfl),
        (kfb.trans (KeepsFrom.mono h3 (by rw [hsz0]; omega))).trans (put_from W3 _)⟩
    rintro e a3 W3 hp
    cases e with
    | normal =>
      obtain ⟨h3, kp3, hi3⟩ := hp
      obtain ⟨hr, hl3, hl4, hk4, kf4⟩ := leave none W3 h3
      exact ⟨_, _, hr, kf4, .inl ⟨rfl, ⟨hI.putObj _ hi3 (by omega) hl3 rfl, hl4, hk4⟩, (kpb.trans kp3).trans (Kept.putObj W3 _ hl3 rfl (by omega))⟩⟩
    | ret =>
      obtain ⟨h3, hi3⟩ := hp
      obtain ⟨hr, hl3, hl4, hk4, kf4⟩ := leave (some .ret) W3 h3
      exact ⟨_, _, hr, kf4, .inr ⟨rfl, .ret, (hIx _).putObj _ hi3 (by omega) hl3 rfl, hl4, hk4⟩⟩
    | exit id =>
      obtain ⟨h3, hi3⟩ := hp
      obtain ⟨hr, hl3, hl4, hk4, kf4⟩ := leave (some (.exit id)) W3 h3
      exact ⟨_, _, hr, kf4, .inr ⟨rfl, .exit id, (hIx _).putObj _ hi3 (by omega) hl3 rfl, hl4, hk4⟩⟩
    | goto t =>
      obtain ⟨h3, hi3⟩ := hp
      obtain ⟨hr, hl3, hl4, hk4, kf4⟩ := leave (some (.goto t)) W3 h3
      exact ⟨_, _, hr, kf4, .inr ⟨rfl, .goto t, (hIx _).putObj _ hi3 (by omega) hl3 rfl, hl4, hk4⟩⟩
    | panic ch => exact hp.elim
    | outgrown => exact hp.elim
  · -- behind the iterator's call
    rintro e W2 ⟨⟨v, rfl⟩, ⟨xs, hS, hi, hl, hk⟩ | ⟨pre, hSp, c, hi, hl, hk⟩⟩
    · exact ⟨none, _, run_endLoop (P := P) hl (by simp), hdone _ xs _ (Nat.le_refl _) hS (hI.putObj _ hi (by omega) hl rfl) ((World.putObj_heap_other (by omega)).trans hk)⟩
    · exact ⟨some c, _, run_endLoop (P := P) hl (by simp), hstop _ c pre _ (Nat.le_refl _) hSp ((hIx c).putObj _ hi (by omega) hl rfl) ((World.putObj_heap_other (by omega)).trans hk)⟩

end Go.Proofs.YtlcaedibmlidlaaGreat

/-
  Boxes of one cell, and what lies below, over worlds that grow: small lemmas for loops over functions. No condition but what each names.
-/
namespace Go.Proofs.YtlcaedibmlidlaaGreat
open Go.RowKit

theorem cellsStay {W W' : World} {row : Option Nat} {k B : Nat} {cs : Array Value} {t : TypeId} {fr : Nat × Nat} (h : W.heap[k]? = some (.cells cs t fr)) (hg : W.grownBy W' row) (hr : ∀ r, row = some r → B ≤ r ∧ ∃ o : Obj, W.heap[r]? = some o ∧ o.isCells = false) : W'.heap[k]? = some (.cells cs t fr) :=
  (hg.block k (Array.getElem?_eq_some_iff.1 h).1 (fun e => by
    obtain ⟨_, o, ho, hc⟩ := hr k e.symm
    rw [h] at ho; cases ho; cases hc)).trans h
theorem belowStay {n₀ : Nat} {w W W' : World} {row : Option Nat} {B : Nat} (h : Below n₀ w W) (hn : n₀ ≤ w.heap.size) (hB : n₀ ≤ B) (hg : W.grownBy W' row) (hr : ∀ r, row = some r → B ≤ r ∧ ∃ o : Obj, W.heap[r]? = some o ∧ o.isCells = false) : Below n₀ w W' :=
  h.grown hg (Nat.le_trans hn h.size) (fun k e => Nat.le_trans hB (hr k e).1)
theorem oneCell {w : World} {g T : Nat} {v : Value} (h : w.heap[g]? = some (.cells #[v] T (0, 0))) : w.cell? ⟨g, 0, none⟩ = some v ∧ w.frozen? ⟨g, 0, none⟩ = false := by
  constructor <;> simp [World.cell?, World.frozen?, h]
theorem oneSet {w : World} {g T : Nat} {v : Value} (h : w.heap[g]? = some (.cells #[v] T (0, 0))) (u : Value) : (w.setCell ⟨g, 0, none⟩ u).heap[g]? = some (.cells #[u] T (0, 0)) := by
  simp [World.setCell, Array.getElem?_modify, h]
theorem setFar {w : World} {g k : Nat} {o : Obj} (h : w.heap[k]? = some o) (hne : k ≠ g) (i : Nat) (u : Value) : (w.setCell ⟨g, i, none⟩ u).heap[k]? = some o := (Below.heap_setCell _ _ _ _ (by simpa using hne)).trans h
theorem allocAt (w : World) (o : Obj) (k : Nat) : (w.alloc o).heap[k]? = if k = w.heap.size then some o else w.heap[k]? := by
  show (w.heap.push o)[k]? = _
  rw [Array.getElem?_push]
theorem allocOld {w : World} {k : Nat} {x : Obj} (h : w.heap[k]? = some x) (o : Obj) : (w.alloc o).heap[k]? = some x := (Below.heap_alloc _ _ _ (Array.getElem?_eq_some_iff.1 h).1).trans h
theorem allocNew (w : World) (o : Obj) {n : Nat} (h : w.heap.size = n) : (w.alloc o).heap[n]? = some o := by rw [allocAt, if_pos h.symm]

end Go.Proofs.YtlcaedibmlidlaaGreat

/-
  A reader in memory: its two cells lie in one block; what was there before it turns in that block alone. And what a slice of a list is.
-/
namespace Go.Proofs.YtlcaedibmlidlaaGreat
open Go.RowKit

theorem cell_of_two {w : World} {g : Nat} {a b : Value} {T : TypeId} (h : w.heap[g]? = some (.cells #[a, b] T (0, 0))) : w.cell? ⟨g, 0, none⟩ = some a ∧ w.cell? ⟨g, 1, none⟩ = some b ∧ w.frozen? ⟨g, 1, none⟩ = false := by
  refine ⟨?_, ?_, ?_⟩ <;> simp [World.cell?, World.frozen?, h]

theorem grown_setCell (w : World) (g j : Nat) (u : Value) : w.grownBy (w.setCell ⟨g, j, none⟩ u) (some g) :=
  ⟨rfl, rfl, rfl, by simp [World.setCell], fun k _ hne => Below.heap_setCell _ _ _ _ (fun e => hne (by rw [e]))⟩

/-- What the call owns, nil or not, can be read. -/
theorem View.ofOwn {k : IntKind} {w : World} {B e n cap : Nat} {a : Option Addr} {zs : List Int} (h : w.ownsRow B e 1 (.slice a n cap) n (zs.map (Value.int k))) (hl : zs.length = n) : View k w a zs := by
  rcases h.2 with ⟨_, hn⟩ | ⟨g, cap', cur, hv, _⟩
  · have : zs = [] := List.eq_nil_of_length_eq_zero (by rw [hl]; simpa using hn)
    subst this; exact view_nil
  · cases hv; exact View.ofRow h hl

end Go.Proofs.YtlcaedibmlidlaaGreat

/-
  Lists of instructions in memory: an operation and a list of words each.
-/
namespace Go.Proofs.YtlcaedibmlidlaaGreat
open Go.RowKit

/-- The instruction at a place of a list. -/
def nthR (rs : List (Int × List Int)) (j : Nat) : Int × List Int := rs.getD j (0, [])

/-- What can be read of a slice of instructions. -/
def RawsV (w : World) (a : Option Addr) (rs : List (Int × List Int)) : Prop :=
  ∀ j, j < rs.length → ∃ b off aj cj nj, a = some ⟨b, off, none⟩ ∧ b < w.heap.size ∧ w.cell? ⟨b, off + j * 2, none⟩ = some (.int .u16 (nthR rs j).1) ∧ w.cell? ⟨b, off + j * 2 + 1, none⟩ = some (.slice aj nj cj) ∧ (nthR rs j).2.length = nj ∧ View .u32 w aj (nthR rs j).2 ∧ nj ≤ cj

/-- Each operation, each word and each length lies within its bounds. -/
def RawsOk (rs : List (Int × List Int)) : Prop := ∀ j, j < rs.length → 0 ≤ (nthR rs j).1 ∧ (nthR rs j).1 < 65536 ∧ Within 4294967296 (nthR rs j).2 ∧ 4 * (nthR rs j).2.length ≤ 140737488351232

theorem RawsV.below {w w' : World} {a : Option Addr} {rs : List (Int × List Int)} (h : RawsV w a rs) (hb : Below w.heap.size w w') : RawsV w' a rs := by
  intro j hj
  obtain ⟨b, off, aj, cj, nj, e, hlt, h1, h2, h3, h4, h5⟩ := h j hj
  exact ⟨b, off, aj, cj, nj, e, Nat.lt_of_lt_of_le hlt hb.size, (hb.cell (p := ⟨b, off + j * 2, none⟩) hlt).trans h1, (hb.cell (p := ⟨b, off + j * 2 + 1, none⟩) hlt).trans h2, h3, h4.below hb, h5⟩

theorem rawsV_nil {w : World} {a : Option Addr} : RawsV w a [] := fun j hj => by simp at hj

end Go.Proofs.YtlcaedibmlidlaaGreat

/-
  Words of the kit answers true of two lists that are the same.
-/
namespace Go.Proofs.YtlcaedibmlidlaaGreat
open Go.RowKit
set_option maxRecDepth 10000

end Go.Proofs.YtlcaedibmlidlaaGreat

/-
  raws of the laws of layer 2 answers true of two lists of instructions that are the same; head answers the words of a head.
-/
namespace Go.Proofs.YtlcaedibmlidlaaGreat
open Go.RowKit
set_option maxRecDepth 10000

end Go.Proofs.YtlcaedibmlidlaaGreat

/-
  SpoilWords of the kit writes over the words of a row of the call's own, and nothing else.
-/
namespace Go.Proofs.YtlcaedibmlidlaaGreat
open Go.RowKit
set_option maxRecDepth 10000

end Go.Proofs.YtlcaedibmlidlaaGreat

/-
  apart of the laws of layer 2 answers true of instructions each of which lies in memory of its own, and are the wanted ones; what was there ahead of them stays.
-/
namespace Go.Proofs.YtlcaedibmlidlaaGreat
open Go.RowKit

/-- The instructions from the k-th on lie each in memory of its own, from block lo on; the row lies elsewhere. -/
def OwnR (w : World) (lo : Nat) (a : Option Addr) (k : Nat) (rs : List (Int × List Int)) : Prop :=
  ∀ j, k ≤ j → j < rs.length → ∃ b off aj cj nj, a = some ⟨b, off, none⟩ ∧ lo ≤ b ∧ b < w.heap.size ∧ w.cell? ⟨b, off + j * 2, none⟩ = some (.int .u16 (nthR rs j).1) ∧ w.cell? ⟨b, off + j * 2 + 1, none⟩ = some (.slice aj nj cj) ∧ (nthR rs j).2.length = nj ∧
    w.ownsRow lo 22 1 (.slice aj nj cj) nj ((nthR rs j).2.map (Value.int .u32)) ∧ Value.ownBlock (.slice aj nj cj) ≠ some b ∧
    ∀ i, k ≤ i → i < rs.length → i ≠ j → ∀ ai ci ni g, w.cell? ⟨b, off + i * 2 + 1, none⟩ = some (.slice ai ni ci) → Value.ownBlock (.slice ai ni ci) = some g → Value.ownBlock (.slice aj nj cj) ≠ some g

theorem own_grown {w w' : World} {B e size n : Nat} {v : Value} {xs : List Value} {ob : Option Nat} (h : w.ownsRow B e size v n xs) (hg : w.grownBy w' ob) (hne : ∀ g, ob = some g → v.ownBlock ≠ some g) : w'.ownsRow B e size v n xs := by
  refine ⟨h.1, ?_⟩
  rcases h.2 with hn | ⟨g, cap, cur, rfl, hb, hgg, rest⟩
  · exact .inl hn
  · exact .inr ⟨g, cap, cur, rfl, hb, by rw [hg.block g (Array.getElem?_eq_some_iff.1 hgg).1 (fun e => hne g e.symm rfl)]; exact hgg, rest⟩

theorem OwnR.view {w : World} {lo : Nat} {a : Option Addr} {rs : List (Int × List Int)} (h : OwnR w lo a 0 rs) : RawsV w a rs := by
  intro j hj
  obtain ⟨b, off, aj, cj, nj, e, _, hb, c1, c2, c3, c4, _⟩ := h j (Nat.zero_le _) hj
  refine ⟨b, off, aj, cj, nj, e, hb, c1, c2, c3, View.ofOwn c4 c3, ?_⟩
  rcases c4.2 with ⟨e1, e2⟩ | ⟨g, c', cur, e1, _, _, e4, _⟩
  · omega
  · cases e1; exact e4

end Go.Proofs.YtlcaedibmlidlaaGreat

/-
  Rows of memory that lie apart from one another.
-/
namespace Go.Proofs.YtlcaedibmlidlaaGreat
open Go.RowKit
set_option linter.unusedVariables false
set_option linter.unusedSimpArgs false
set_option maxRecDepth 10000

structure RowX where
  T : Nat
  size : Nat
  v : Value
  n : Nat
  xs : List Value
def RowX.own (r : RowX) (w : World) (lo : Nat) : Prop := w.ownsRow lo r.T r.size r.v r.n r.xs
/-- Rows, each in memory of its own. -/
structure RowsX {ι : Type} (w : World) (lo : Nat) (In : ι → Prop) (R : ι → RowX) : Prop where
  own : ∀ q, In q → (R q).own w lo
  apart : ∀ q q', In q → In q' → q ≠ q' → ∀ g, (R q).v.ownBlock = some g → (R q').v.ownBlock ≠ some g
theorem RowsX.kept {ι : Type} {w w' : World} {lo : Nat} {In : ι → Prop} {R : ι → RowX} {ob : Option Nat} (h : RowsX w lo In R) (hg : w.grownBy w' ob) (hob : ∀ g, ob = some g → g < lo) : RowsX w' lo In R :=
  ⟨fun q hq => own_grown (h.own q hq) hg (fun g e e2 => by have := (World.ownsRow.lt (h.own q hq) g e2).1; have := hob g e; omega), h.apart⟩
theorem RowsX.put {ι : Type} {w w' : World} {lo : Nat} {In : ι → Prop} {R R' : ι → RowX} (h : RowsX w lo In R) (i : ι) (hi : In i) (hg : w.grownBy w' (R i).v.ownBlock) (hnew : (R' i).own w' lo) (hv : (R' i).v.ownBlock = (R i).v.ownBlock ∨ ∀ g, (R' i).v.ownBlock = some g → w.heap.size ≤ g) (hs : ∀ q, In q → q ≠ i → R' q = R q) : RowsX w' lo In R' := by
  constructor
  · intro q hq
    by_cases e : q = i
    · rw [e]; exact hnew
    · rw [hs q hq e]
      exact own_grown (h.own q hq) hg (fun g eg => h.apart i q hi hq (fun e2 => e e2.symm) g eg)
  · intro q q' hq hq' hne g e1 e2
    by_cases eq : q = i
    · subst eq
      have hq'i : q' ≠ q := fun e => hne e.symm
      rw [hs q' hq' hq'i] at e2
      rcases hv with hv | hv
      · rw [hv] at e1; exact h.apart q q' hq hq' hne g e1 e2
      · have := hv g e1; have := (World.ownsRow.lt (h.own q' hq') g e2).2; omega
    · rw [hs q hq eq] at e1
      by_cases eq' : q' = i
      · subst eq'
        rcases hv with hv | hv
        · rw [hv] at e2; exact h.apart q q' hq hq' hne g e1 e2
        · have := hv g e2; have := (World.ownsRow.lt (h.own q hq) g e1).2; omega
      · rw [hs q' hq' eq'] at e2
        exact h.apart q q' hq hq' hne g e1 e2
theorem RowsX.grow {ι : Type} {w : World} {lo : Nat} {In In' : ι → Prop} {R R' : ι → RowX} (h : RowsX w lo In R) (hin : ∀ q, In' q → In q ∨ ((R' q).v = .slice none 0 0 ∧ (R' q).n = 0 ∧ (R' q).xs = [])) (hs : ∀ q, In q → R' q = R q) : RowsX w lo In' R' := by
  constructor
  · intro q hq
    rcases hin q hq with h1 | ⟨h1, h2, h3⟩
    · rw [hs q h1]; exact h.own q h1
    · unfold RowX.own; rw [h1, h2, h3]; exact World.ownsRow_nil _ _ _ _
  · intro q q' hq hq' hne g e1 e2
    rcases hin q hq with h1 | ⟨h1, _, _⟩
    · rcases hin q' hq' with k1 | ⟨k1, _, _⟩
      · rw [hs q h1] at e1; rw [hs q' k1] at e2; exact h.apart q q' h1 k1 hne g e1 e2
      · rw [k1] at e2; cases e2
    · rw [h1] at e1; cases e1

/-- A cell of an own row is written. -/
theorem own_setAt {w : World} {lo e size n g cap : Nat} {xs : List Value} (h : w.ownsRow lo e size (.slice (some ⟨g, 0, none⟩) n cap) n xs) (i : Nat) (u : Value) : (w.setCell ⟨g, i, none⟩ u).ownsRow lo e size (.slice (some ⟨g, 0, none⟩) n cap) n (xs.set i u) := by
  refine ⟨by rw [List.length_set]; exact h.1, .inr ?_⟩
  rcases h.2 with ⟨h1, _⟩ | ⟨g', cap', cur, e1, h2, h3, h4, h5, h6, h7⟩
  · cases h1
  · cases e1
    refine ⟨g, cap, cur.setIfInBounds i u, rfl, h2, ?_, h4, h5, by simp [h6], ?_⟩
    · simp [World.setCell, Array.getElem?_modify, h3]
    · rw [Array.toList_setIfInBounds, List.take_set, h7]
theorem own_form {w : World} {lo e size n : Nat} {v : Value} {xs : List Value} (h : w.ownsRow lo e size v n xs) (hn : 0 < n) : ∃ g cap, v = .slice (some ⟨g, 0, none⟩) n cap ∧ lo ≤ g ∧ g < w.heap.size ∧ n ≤ cap ∧ (∀ i, w.frozen? ⟨g, i, none⟩ = false) ∧ (∀ i, i < n * size → w.cell? ⟨g, i, none⟩ = xs[i]?) := by
  rcases h.2 with ⟨_, h1⟩ | ⟨g, cap, cur, e1, h2, h3, h4, h5, h6, h7⟩
  · omega
  · refine ⟨g, cap, e1, h2, (Array.getElem?_eq_some_iff.1 h3).1, h4, fun i => by simp [World.frozen?, h3], fun i hi => ?_⟩
    rw [show w.cell? ⟨g, i, none⟩ = cur[i]? by simp [World.cell?, h3], ← h7, List.getElem?_take, if_pos hi]
    simp
theorem grown_cell (w : World) (g i : Nat) (u : Value) : w.grownBy (w.setCell ⟨g, i, none⟩ u) (some g) := grown_setCell w g i u
end Go.Proofs.YtlcaedibmlidlaaGreat
