/-
  Texts laid together in one: Math, Math3, Slots, Quiet, Math2, MathS, MathL, MathX, MathZ, Toks, MathY, MathH.
-/
import Derived.WalkKit
import Derived.Laws.BitsAllLaws
import Derived.WalkSmall
import Derived.OpenShut
import Derived.ProofKit
import Derived.Laws.BytesArg
import Derived.Deep.QuietTactic
import Derived.BigQuiet
import Derived.Lib.Bytealg
import Derived.Lib.IndexLaws
/-
  Plain arithmetic for the layer of words: the four bytes of a word, a word out of four bytes, and that 'or' of parts that do not overlap is their sum. No condition but the bounds that each lemma names.
-/
namespace Go.Proofs.YtmobologlaeefaaGreat
open Go.RowKit

theorem ret_int {k : IntKind} {a b : Int} (h : a = b) : Ending.returned (.int k a) = .returned (.int k b) := by rw [h]

/-- The number at a place of a list (0 behind its end). -/
def nth (zs : List Int) (k : Nat) : Int := zs.getD k 0

/-- The byte of a word at a place. -/
def byt (x : Int) (p : Nat) : Int := x / 256 ^ p % 256

/-- A byte at a place of a word. -/
def plc (c : Int) (p : Nat) : Int := c * 256 ^ p

theorem or_u32 (a b s : Nat) (hb : b < 2 ^ s) (h : a * 2 ^ s + b < 4294967296) : bits .or .u32 ((a * 2 ^ s : Nat) : Int) (b : Int) = ((a * 2 ^ s + b : Nat) : Int) := by
  rw [u32_or_nat _ _ (by omega) (by omega), ← Nat.shiftLeft_eq, Nat.shiftLeft_add_eq_or_of_lt hb]

theorem or_u32' (a b s : Nat) (hb : b < 2 ^ s) (h : a * 2 ^ s + b < 4294967296) : bits .or .u32 (b : Int) ((a * 2 ^ s : Nat) : Int) = ((a * 2 ^ s + b : Nat) : Int) := by
  rw [u32_or_nat _ _ (by omega) (by omega), Nat.or_comm, ← Nat.shiftLeft_eq, Nat.shiftLeft_add_eq_or_of_lt hb]

/-- High first: the low part comes to it. -/
theorem or_high (a b : Int) (s : Nat) (ha : 0 ≤ a) (hb0 : 0 ≤ b) (hb : b < 2 ^ s) (h : a * 2 ^ s + b < 4294967296) : bits .or .u32 (a * 2 ^ s) b = a * 2 ^ s + b := by
  obtain ⟨m, rfl⟩ := Int.eq_ofNat_of_zero_le ha
  obtain ⟨n, rfl⟩ := Int.eq_ofNat_of_zero_le hb0
  have e : ((m : Int) * 2 ^ s) = ((m * 2 ^ s : Nat) : Int) := by simp
  rw [e] at h ⊢
  rw [or_u32 m n s (by have : ((n : Nat) : Int) < ((2 ^ s : Nat) : Int) := by simpa using hb
                       omega) (by omega)]
  simp

/-- Low first: the high part comes to it. -/
theorem or_low (a b : Int) (s : Nat) (ha : 0 ≤ a) (hb0 : 0 ≤ b) (hb : b < 2 ^ s) (h : a * 2 ^ s + b < 4294967296) : bits .or .u32 b (a * 2 ^ s) = b + a * 2 ^ s := by
  obtain ⟨m, rfl⟩ := Int.eq_ofNat_of_zero_le ha
  obtain ⟨n, rfl⟩ := Int.eq_ofNat_of_zero_le hb0
  have e : ((m : Int) * 2 ^ s) = ((m * 2 ^ s : Nat) : Int) := by simp
  rw [e] at h ⊢
  rw [or_u32' m n s (by have : ((n : Nat) : Int) < ((2 ^ s : Nat) : Int) := by simpa using hb
                        omega) (by omega)]
  simp; omega

theorem or_zero (b : Int) (hb0 : 0 ≤ b) (hb : b < 4294967296) : bits .or .u32 0 b = b := by
  have := or_high 0 b 32 (by omega) hb0 (by omega) (by omega)
  simpa using this

theorem plc0 (c : Int) : plc c 0 = c := by simp [plc]
theorem plc1 (c : Int) : plc c 1 = c * 256 := by simp [plc]
theorem plc2 (c : Int) : plc c 2 = c * 65536 := by simp [plc]
theorem plc3 (c : Int) : plc c 3 = c * 16777216 := by simp [plc]

/-! ### lists of words and bytes -/

/-- A word's four bytes. -/
def four (x : Int) : List Int := [byt x 0, byt x 1, byt x 2, byt x 3]
theorem take_snoc (zs : List Int) (k : Nat) (h : k < zs.length) : zs.take (k + 1) = zs.take k ++ [nth zs k] := by
  rw [List.take_succ_eq_append_getElem h]; simp [nth, List.getD, h]
/-- What can be read of a slice of integers: each of its cells, in a block that is there. -/
def View (k : IntKind) (w : World) (a : Option Addr) (zs : List Int) : Prop :=
  ∀ j, j < zs.length → ∃ b off, a = some ⟨b, off, none⟩ ∧ b < w.heap.size ∧ w.cell? ⟨b, off + j, none⟩ = some (.int k (nth zs j))

/-- Every number lies in 0 to m - 1. -/
def Within (m : Int) (zs : List Int) : Prop := ∀ z ∈ zs, 0 ≤ z ∧ z < m

theorem Within.at {m : Int} {zs : List Int} (h : Within m zs) {k : Nat} (hk : k < zs.length) : 0 ≤ nth zs k ∧ nth zs k < m := by
  have e : nth zs k = zs[k] := by simp [nth, List.getD, hk]
  rw [e]; exact h _ (List.getElem_mem hk)

theorem View.below {k : IntKind} {w w' : World} {a : Option Addr} {zs : List Int} (h : View k w a zs) (hb : Below w.heap.size w w') : View k w' a zs := by
  intro j hj
  obtain ⟨b, off, e, hlt, hc⟩ := h j hj
  exact ⟨b, off, e, Nat.lt_of_lt_of_le hlt hb.size, (hb.cell (p := ⟨b, off + j, none⟩) hlt).trans hc⟩

theorem bel_drewN {B : Nat} {a w : World} (h : Below B a w) (n : Nat) : Below B a (w.drewN n) := h.trans ⟨rfl, rfl, rfl, Nat.le_refl _, fun _ _ => rfl⟩

/-- What the call owns can be read. -/
theorem View.ofRow {k : IntKind} {w : World} {B e g n cap : Nat} {zs : List Int} (h : w.ownsRow B e 1 (.slice (some ⟨g, 0, none⟩) n cap) n (zs.map (Value.int k))) (hl : zs.length = n) : View k w (some ⟨g, 0, none⟩) zs := by
  intro j hj
  have hc := h.cellAt j (by omega)
  have e : (zs.map (Value.int k))[j]? = some (.int k (nth zs j)) := by simp [nth, List.getD, hj]
  rw [e] at hc
  exact ⟨g, 0, rfl, World.block_lt_of_cell? _ _ hc, by rw [Nat.zero_add]; exact hc⟩

/-- What the call owns stays owned where nothing old has turned. -/
theorem own_below {w w' : World} {B e size n : Nat} {v : Value} {xs : List Value} (h : w.ownsRow B e size v n xs) (hb : Below w.heap.size w w') : w'.ownsRow B e size v n xs := by
  refine ⟨h.1, ?_⟩
  rcases h.2 with hn | ⟨g, cap, cur, rfl, hg, hgg, rest⟩
  · exact .inl hn
  · exact .inr ⟨g, cap, cur, rfl, hg, by rw [hb.block g (Array.getElem?_eq_some_iff.1 hgg).1]; exact hgg, rest⟩

theorem view_nil {k : IntKind} {w : World} {a : Option Addr} : View k w a [] := fun j hj => by simp at hj
/-! ### a row that is filled from its head on -/

/-- The first k numbers, and zeros up to n. -/
def filled (zs : List Int) (k n : Nat) : List Int := zs.take k ++ List.replicate (n - k) 0

theorem filled_len (zs : List Int) (k n : Nat) (hk : k ≤ n) (hz : k ≤ zs.length) : (filled zs k n).length = n := by
  simp only [filled, List.length_append, List.length_take, List.length_replicate]; omega
theorem filled_whole (zs : List Int) (n : Nat) (hz : zs.length = n) : filled zs n n = zs := by
  subst hz; simp [filled]
theorem filled_zero (zs : List Int) (n : Nat) : filled zs 0 n = List.replicate n 0 := by simp [filled]
theorem filled_at (zs : List Int) (k n : Nat) (hk : k < n) (hz : k ≤ zs.length) : (filled zs k n)[k]? = some 0 := by
  have e : (zs.take k).length = k := by rw [List.length_take]; omega
  rw [filled, List.getElem?_append_right (by omega), e, Nat.sub_self]
  simp [show 0 < n - k by omega]
theorem filled_set (zs : List Int) (k n : Nat) (hk : k < n) (hz : k < zs.length) : (filled zs k n).set k (nth zs k) = filled zs (k + 1) n := by
  have e : (zs.take k).length = k := by rw [List.length_take]; omega
  rw [filled, filled, List.set_append_right _ _ (by omega), e, Nat.sub_self, take_snoc zs k hz, List.append_assoc]
  congr 1
  rw [show n - k = (n - (k + 1)) + 1 by omega, List.replicate_succ]
  simp

/-- A row that 'make' has just laid holds zeros. -/
theorem made_row {w : World} {B e : Nat} {v : Value} {n : Nat} {k : IntKind} (zs : List Int) (h : w.ownsRow B e 1 v n (madeCells #[Value.int k 0] n).toList) : w.ownsRow B e 1 v n ((filled zs 0 n).map (Value.int k)) := by
  have e1 : (madeCells #[Value.int k 0] n).toList = (filled zs 0 n).map (Value.int k) := by
    rw [filled_zero, List.map_replicate]
    exact toList_madeCells_one (.int k 0) n
  rw [← e1]; exact h

/-- A store into the row at the place that comes next. -/
theorem fill_step {w : World} {B e g n : Nat} {k : IntKind} {zs : List Int} {i : Nat} (h : w.ownsRow B e 1 (.slice (some ⟨g, 0, none⟩) n n) n ((filled zs i n).map (Value.int k))) (hi : i < n) (hz : i < zs.length) :
    w.cell? ⟨g, i, none⟩ = some (.int k 0) ∧ w.frozen? ⟨g, i, none⟩ = false ∧ (w.setCell ⟨g, i, none⟩ (.int k (nth zs i))).ownsRow B e 1 (.slice (some ⟨g, 0, none⟩) n n) n ((filled zs (i + 1) n).map (Value.int k)) := by
  refine ⟨?_, h.frozenAt i, ?_⟩
  · rw [h.cellAt i (by omega), List.getElem?_map, filled_at zs i n hi (by omega)]; rfl
  · have := h.stored i (.int k (nth zs i))
    rw [← List.map_set, filled_set zs i n hi hz] at this
    exact this.1

theorem getD_left (xs ys : List Int) (k : Nat) (h : k < xs.length) : nth (xs ++ ys) k = nth xs k := by
  simp [nth, List.getD, List.getElem?_append_left h]
theorem getD_right (xs ys : List Int) (k : Nat) (h : xs.length ≤ k) : nth (xs ++ ys) k = nth ys (k - xs.length) := by
  simp [nth, List.getD, List.getElem?_append_right h]

theorem within_one {m x : Int} (h0 : 0 ≤ x) (h1 : x < m) : Within m [x] := by
  intro z hz; simp at hz; subst hz; exact ⟨h0, h1⟩

/-! ### bytes to words -/

/-- The word out of the bytes from 4 k on. -/
def wordAt (zs : List Int) (k : Nat) : Int := nth zs (4 * k) + nth zs (4 * k + 1) * 256 + nth zs (4 * k + 2) * 65536 + nth zs (4 * k + 3) * 16777216
/-- The words of bytes. -/
def splitL (zs : List Int) : List Int := (List.range (zs.length / 4)).map (wordAt zs)
theorem splitL_len (zs : List Int) : (splitL zs).length = zs.length / 4 := by simp [splitL]
/-- Word k when the first i bytes have been put to their places. -/
def partW (zs : List Int) (i k : Nat) : Int :=
  (if 4 * k < i then nth zs (4 * k) else 0) + (if 4 * k + 1 < i then nth zs (4 * k + 1) * 256 else 0) + (if 4 * k + 2 < i then nth zs (4 * k + 2) * 65536 else 0) + (if 4 * k + 3 < i then nth zs (4 * k + 3) * 16777216 else 0)
/-- The row then. -/
def partL (zs : List Int) (i n : Nat) : List Int := (List.range n).map (partW zs i)

theorem partL_zero (zs ys : List Int) (n : Nat) : partL zs 0 n = filled ys 0 n := by
  rw [filled_zero]
  apply List.ext_getElem? 
  intro k
  by_cases hk : k < n
  · simp [partL, partW, hk]
  · simp [partL, hk]
theorem partL_whole (zs : List Int) (h : zs.length % 4 = 0) : partL zs zs.length (zs.length / 4) = splitL zs := by
  unfold partL splitL
  apply List.map_congr_left
  intro k hk
  have hk' : k < zs.length / 4 := List.mem_range.1 hk
  unfold partW wordAt
  rw [if_pos (by omega), if_pos (by omega), if_pos (by omega), if_pos (by omega)]
theorem partW_other (zs : List Int) (i k : Nat) (h : k ≠ i / 4) : partW zs (i + 1) k = partW zs i k := by
  unfold partW
  have h0 : (4 * k < i + 1) = (4 * k < i) := by apply propext; omega
  have h1 : (4 * k + 1 < i + 1) = (4 * k + 1 < i) := by apply propext; omega
  have h2 : (4 * k + 2 < i + 1) = (4 * k + 2 < i) := by apply propext; omega
  have h3 : (4 * k + 3 < i + 1) = (4 * k + 3 < i) := by apply propext; omega
  simp only [h0, h1, h2, h3]
theorem partL_set (zs : List Int) (i n : Nat) : (partL zs i n).set (i / 4) (partW zs (i + 1) (i / 4)) = partL zs (i + 1) n := by
  apply List.ext_getElem?
  intro k
  rw [List.getElem?_set]
  by_cases hk : k < n
  · by_cases e : i / 4 = k
    · subst e; simp [partL, hk]
    · simp [partL, hk, e, partW_other zs i k (fun h => e h.symm)]
  · by_cases e : i / 4 = k
    · subst e; simp [partL, hk]
    · simp [partL, hk, e]

/-- The byte that comes next is put to its place. -/
theorem partW_step (zs : List Int) (i : Nat) (hw : Within 256 zs) (hi : i < zs.length) :
    bits .or .u32 (partW zs i (i / 4)) (plc (nth zs i) (i % 4)) = partW zs (i + 1) (i / 4) := by
  have hc := hw.at hi
  rcases (show i % 4 = 0 ∨ i % 4 = 1 ∨ i % 4 = 2 ∨ i % 4 = 3 by omega) with e | e | e | e
  · have e0 : 4 * (i / 4) = i := by omega
    rw [e, plc0]; unfold partW
    rw [if_neg (by omega), if_neg (by omega), if_neg (by omega), if_neg (by omega), if_pos (by omega), if_neg (by omega), if_neg (by omega), if_neg (by omega), e0]
    have := or_zero (nth zs i) hc.1 (by omega)
    simpa using this
  · have e0 : 4 * (i / 4) + 1 = i := by omega
    have b0 := hw.at (k := 4 * (i / 4)) (by omega)
    rw [e, plc1]; unfold partW
    rw [if_pos (by omega), if_neg (by omega), if_neg (by omega), if_neg (by omega), if_pos (by omega), if_pos (by omega), if_neg (by omega), if_neg (by omega), e0]
    have := or_low (nth zs i) (nth zs (4 * (i / 4))) 8 hc.1 b0.1 (by omega) (by omega)
    rw [show ((nth zs i) * 2 ^ 8 : Int) = nth zs i * 256 by omega] at this
    simpa using this
  · have e0 : 4 * (i / 4) + 2 = i := by omega
    have b0 := hw.at (k := 4 * (i / 4)) (by omega)
    have b1 := hw.at (k := 4 * (i / 4) + 1) (by omega)
    rw [e, plc2]; unfold partW
    rw [if_pos (by omega), if_pos (by omega), if_neg (by omega), if_neg (by omega), if_pos (by omega), if_pos (by omega), if_pos (by omega), if_neg (by omega), e0]
    have := or_low (nth zs i) (nth zs (4 * (i / 4)) + nth zs (4 * (i / 4) + 1) * 256) 16 hc.1 (by omega) (by omega) (by omega)
    rw [show ((nth zs i) * 2 ^ 16 : Int) = nth zs i * 65536 by omega] at this
    simpa using this
  · have e0 : 4 * (i / 4) + 3 = i := by omega
    have b0 := hw.at (k := 4 * (i / 4)) (by omega)
    have b1 := hw.at (k := 4 * (i / 4) + 1) (by omega)
    have b2 := hw.at (k := 4 * (i / 4) + 2) (by omega)
    rw [e, plc3]; unfold partW
    rw [if_pos (by omega), if_pos (by omega), if_pos (by omega), if_neg (by omega), if_pos (by omega), if_pos (by omega), if_pos (by omega), if_pos (by omega), e0]
    have := or_low (nth zs i) (nth zs (4 * (i / 4)) + nth zs (4 * (i / 4) + 1) * 256 + nth zs (4 * (i / 4) + 2) * 65536) 24 hc.1 (by omega) (by omega) (by omega)
    rw [show ((nth zs i) * 2 ^ 24 : Int) = nth zs i * 16777216 by omega] at this
    simpa using this

theorem partW_bounds (zs : List Int) (i k : Nat) (hw : Within 256 zs) (h : 4 * k + 4 ≤ zs.length) : 0 ≤ partW zs i k ∧ partW zs i k < 4294967296 := by
  have b0 := hw.at (k := 4 * k) (by omega)
  have b1 := hw.at (k := 4 * k + 1) (by omega)
  have b2 := hw.at (k := 4 * k + 2) (by omega)
  have b3 := hw.at (k := 4 * k + 3) (by omega)
  unfold partW
  split <;> split <;> split <;> split <;> omega
/-- It lies in blocks from B on. -/
def NewAt (B : Nat) (a : Option Addr) : Prop := ∀ b off s, a = some ⟨b, off, s⟩ → B ≤ b
theorem newAt_mk {B b off : Nat} (h : B ≤ b) : NewAt B (some ⟨b, off, none⟩) := fun b' off' s e => by simp at e; omega

/-- A store into another block leaves a view as it was. -/
theorem View.setCell {k : IntKind} {w : World} {a : Option Addr} {zs : List Int} (h : View k w a zs) {B g j : Nat} (hn : NewAt B a) (hg : g < B) (u : Value) : View k (w.setCell ⟨g, j, none⟩ u) a zs := by
  intro i hi
  obtain ⟨b, off, rfl, hb, hc⟩ := h i hi
  have := hn b off none rfl
  refine ⟨b, off, rfl, by simpa [World.setCell] using hb, ?_⟩
  rw [← hc]
  exact World.cell?_of_block (w := w) (Below.heap_setCell w ⟨g, j, none⟩ u b (by simp; omega))

end Go.Proofs.YtmobologlaeefaaGreat

/-
  Plain arithmetic for the layer of words: a text at the front of words: where its end lies, and what stands behind it in its word.
-/
namespace Go.Proofs.YtmobologlaeefaaGreat
open Go.RowKit

theorem nth_take (zs : List Int) (k n : Nat) (h : k < n) : nth (zs.take n) k = nth zs k := by
  simp [nth, List.getD, h]

theorem View.take {k : IntKind} {w : World} {a : Option Addr} {zs : List Int} (h : View k w a zs) (n : Nat) : View k w a (zs.take n) := by
  intro j hj
  rw [List.length_take] at hj
  obtain ⟨b, off, e, hb, hc⟩ := h j (by omega)
  exact ⟨b, off, e, hb, by rw [hc, nth_take _ _ _ (by omega)]⟩

end Go.Proofs.YtmobologlaeefaaGreat

/-
  A frame as its slots: any frame of so many slots is the list of them.
-/
namespace Go.Proofs.YtmobologlaeefaaGreat
open Go

theorem hide {p : Prop} (h : p) : Go.RowKit.Hid p := h
/-- What a slot holds. -/
def slot (t : Array Value) (i : Nat) : Value := t.getD i undef
theorem frame_eq (t : Array Value) (n : Nat) (h : t.size = n) : t = ((List.range n).map (slot t)).toArray := by
  apply Array.ext
  · simp [h]
  · intro i h1 h2
    simp [slot, Array.getD, h1]
theorem frame99 (t : Array Value) (h : t.size = 99) : t = #[slot t 0, slot t 1, slot t 2, slot t 3, slot t 4, slot t 5, slot t 6, slot t 7, slot t 8, slot t 9, slot t 10, slot t 11, slot t 12, slot t 13, slot t 14, slot t 15, slot t 16, slot t 17, slot t 18, slot t 19, slot t 20, slot t 21, slot t 22, slot t 23, slot t 24, slot t 25, slot t 26, slot t 27, slot t 28, slot t 29, slot t 30, slot t 31, slot t 32, slot t 33, slot t 34, slot t 35, slot t 36, slot t 37, slot t 38, slot t 39, slot t 40, slot t 41, slot t 42, slot t 43, slot t 44, slot t 45, slot t 46, slot t 47, slot t 48, slot t 49, slot t 50, slot t 51, slot t 52, slot t 53, slot t 54, slot t 55, slot t 56, slot t 57, slot t 58, slot t 59, slot t 60, slot t 61, slot t 62, slot t 63, slot t 64, slot t 65, slot t 66, slot t 67, slot t 68, slot t 69, slot t 70, slot t 71, slot t 72, slot t 73, slot t 74, slot t 75, slot t 76, slot t 77, slot t 78, slot t 79, slot t 80, slot t 81, slot t 82, slot t 83, slot t 84, slot t 85, slot t 86, slot t 87, slot t 88, slot t 89, slot t 90, slot t 91, slot t 92, slot t 93, slot t 94, slot t 95, slot t 96, slot t 97, slot t 98] := (frame_eq t 99 h).trans rfl

/-- What holds where a piece of code goes on. -/
def onNormal (K : Act → World → Prop) : Exit → Act → World → Prop
  | .normal, a, w => K a w
  | _, _, _ => False
theorem onNormal_normal (K : Act → World → Prop) (a : Act) (w : World) : onNormal K .normal a w = K a w := rfl
theorem wp_norm {P : Program} {c : Code} {Q : Exit → Act → World → Prop} {a : Act} {w : World} (h : c.wp P (onNormal (Q .normal)) a w) : c.wp P Q a w :=
  wp_mono h fun e a w h => by
    cases e with
    | normal => exact h
    | _ => exact False.elim h

end Go.Proofs.YtmobologlaeefaaGreat

/-
  A region that draws its order, whose operations read and call: in every world of a class each yields the same, and leaves a world of the class. One walk in the order of the text serves every order.
-/
namespace Go.Proofs.YtmobologlaeefaaGreat
open Go.RowKit

/-- A world of a class. -/
structure InC (C : World → Prop) where
  w : World
  ok : C w

theorem wp_region_class {P : Program} {C : World → Prop} {id : Nat} {Q : Exit → Act → World → Prop} {a : Act} {w : World} {l : List Oper} (hm : P.follows .mixedOrders = true) (hB : Region.lexB .any l.toArray = true) (hC : C w.drew)
    (h : wpQuiet P l.toArray (fun w' => ∃ s : InC C, w' = s.w) (fun a' => ∀ w', (∃ s : InC C, w' = s.w) → Q .normal a' w') l a) : (Code.region id l.toArray true).wp P Q a w :=
  wp_region_quiet (C := fun w' => ∃ s : InC C, w' = s.w) hm hB ⟨⟨_, hC⟩, rfl⟩ (by simpa using h)

theorem InC.cell {W : World} (s : InC (Below W.heap.size W)) {p : Addr} {v : Value} (hp : p.block < W.heap.size) (h : W.cell? p = some v) : s.w.cell? p = some v := (s.ok.cell hp).trans h
theorem InC.frozen {W : World} (s : InC (Below W.heap.size W)) {p : Addr} {v : Bool} (hp : p.block < W.heap.size) (h : W.frozen? p = v) : s.w.frozen? p = v := (s.ok.frozen hp).trans h
theorem below_drew (W : World) : Below W.heap.size W W.drew := (Below.refl _ W).drew

/-- A call that lays new things alone, met in the class. -/
theorem Calls.inC {P : Program} {f : FuncId} {args : Array Value} {W : World} {v : Value} (s : InC (Below W.heap.size W)) (h : Calls P f args s.w fun e w' => e = .returned v ∧ Below s.w.heap.size s.w w') :
    Calls P f args s.w fun e w'' => e = .returned v ∧ ∃ s' : InC (Below W.heap.size W), w'' = s'.w :=
  h.mono fun _ w' ⟨he, hb⟩ => ⟨he, ⟨w', s.ok.trans (hb.mono s.ok.size)⟩, rfl⟩
theorem Calls.inC_same {P : Program} {f : FuncId} {args : Array Value} {W : World} {v : Value} (s : InC (Below W.heap.size W)) (h : Calls P f args s.w fun e w' => e = .returned v ∧ s.w = w') :
    Calls P f args s.w fun e w'' => e = .returned v ∧ ∃ s' : InC (Below W.heap.size W), w'' = s'.w :=
  h.mono fun _ _ ⟨he, hb⟩ => ⟨he, s, hb.symm⟩
end Go.Proofs.YtmobologlaeefaaGreat

/-
  Plain arithmetic for the layer of words: bytes to words and back is the bytes, words to bytes and back is the words.
-/
namespace Go.Proofs.YtmobologlaeefaaGreat
open Go.RowKit

end Go.Proofs.YtmobologlaeefaaGreat

/-
  Plain facts on strings as lists of numbers from 0 to 255: a text's words.
-/
namespace Go.Proofs.YtmobologlaeefaaGreat
open Go.RowKit

theorem size_list (s : ByteArray) : s.data.toList.length = s.size := by rw [Array.length_toList]; rfl

/-- A string's bytes, as numbers. -/
def strI (s : ByteArray) : List Int := s.data.toList.map fun b => (b.toNat : Int)

theorem strI_len (s : ByteArray) : (strI s).length = s.size := by rw [strI, List.length_map, size_list]
theorem strI_within (s : ByteArray) : Within 256 (strI s) := by
  intro z hz
  simp only [strI, List.mem_map] at hz
  obtain ⟨b, _, rfl⟩ := hz
  have := b.toNat_lt
  omega
theorem nth_strI (s : ByteArray) (k : Nat) (h : k < s.size) : nth (strI s) k = (s[k].toNat : Int) := by
  have h' : k < s.data.toList.length := by rw [size_list]; exact h
  have e : s[k] = s.data.toList[k] := rfl
  rw [e]
  have h2 : (strI s)[k]? = some ((s.data.toList[k].toNat : Int)) := by rw [strI, List.getElem?_map, List.getElem?_eq_getElem h']; rfl
  rw [nth, List.getD, h2]; rfl
/-- The string is what its numbers make. -/
theorem str_of_strI (s : ByteArray) : strOfNums (strI s) = s := by
  have e : (strI s).map (fun n => UInt8.ofNat n.toNat) = s.data.toList := by
    simp [strI, Function.comp_def]
  unfold strOfNums
  rw [e]

/-- No byte 0. -/
def NoNul (s : ByteArray) : Prop := ∀ k, k < s.size → nth (strI s) k ≠ 0

theorem index_none (s : ByteArray) (h : NoNul s) : Lib.indexByte s.data.toList (0 : Int).toNat.toUInt8 = -1 := by
  have hge := Lib.indexByte_ge s.data.toList (0 : Int).toNat.toUInt8
  apply Classical.byContradiction
  intro hne
  obtain ⟨o, ho⟩ : ∃ o : Nat, Lib.indexByte s.data.toList (0 : Int).toNat.toUInt8 = o := ⟨(Lib.indexByte s.data.toList (0 : Int).toNat.toUInt8).toNat, by omega⟩
  have := (Lib.indexByte_some ho).1
  have hlt : o < s.data.toList.length := by
    rcases Nat.lt_or_ge o s.data.toList.length with h1 | h1
    · exact h1
    · rw [List.getElem?_eq_none h1] at this; simp at this
  have hs : o < s.size := by rw [← size_list]; exact hlt
  apply h o hs
  rw [nth_strI s o hs]
  have e : s[o] = s.data.toList[o] := rfl
  rw [List.getElem?_eq_getElem hlt] at this
  rw [e, Option.some.inj this]
  rfl
theorem index_some (s : ByteArray) (k : Nat) (hk : k < s.size) (h : nth (strI s) k = 0) : 0 ≤ Lib.indexByte s.data.toList (0 : Int).toNat.toUInt8 := by
  have hge := Lib.indexByte_ge s.data.toList (0 : Int).toNat.toUInt8
  apply Classical.byContradiction
  intro hne
  have hm : Lib.indexByte s.data.toList (0 : Int).toNat.toUInt8 = -1 := by omega
  have := Lib.indexByte_none hm k
  have hlt : k < s.data.toList.length := by rw [size_list]; exact hk
  apply this
  rw [List.getElem?_eq_getElem hlt]
  rw [nth_strI s k hk] at h
  have e : s[k] = s.data.toList[k] := rfl
  rw [e] at h
  have : s.data.toList[k].toNat = 0 := by omega
  exact congrArg some (UInt8.toNat_inj.1 this)

/-- A text's bytes, a byte 0, and as many more as make whole words. -/
def padI (s : ByteArray) : List Int := filled (strI s) s.size (4 * (s.size / 4 + 1))
/-- A text's words. -/
def textW (s : ByteArray) : List Int := splitL (padI s)

theorem padI_len (s : ByteArray) : (padI s).length = 4 * (s.size / 4 + 1) := filled_len _ _ _ (by omega) (by rw [strI_len]; omega)
theorem textW_len (s : ByteArray) : (textW s).length = s.size / 4 + 1 := by rw [textW, splitL_len, padI_len]; omega
theorem padI_lo (s : ByteArray) (k : Nat) (h : k < s.size) : nth (padI s) k = nth (strI s) k := by
  have e : (strI s).take s.size = strI s := List.take_of_length_le (by rw [strI_len]; omega)
  rw [padI, filled, e, getD_left _ _ _ (by rw [strI_len]; exact h)]
theorem padI_hi (s : ByteArray) (k : Nat) (h : s.size ≤ k) : nth (padI s) k = 0 := by
  have e : (strI s).take s.size = strI s := List.take_of_length_le (by rw [strI_len]; omega)
  rw [padI, filled, e, getD_right _ _ _ (by rw [strI_len]; exact h)]
  simp only [nth, List.getD, List.getElem?_replicate]
  split <;> rfl
theorem padI_within (s : ByteArray) : Within 256 (padI s) := by
  intro z hz
  simp only [padI, filled, List.mem_append, List.mem_replicate] at hz
  rcases hz with hz | ⟨_, rfl⟩
  · exact strI_within s z (List.mem_of_mem_take hz)
  · omega
/-- What lies behind the text's bytes is 0: the row is whole when they are in it. -/
theorem partL_padI (s : ByteArray) : partL (padI s) s.size (s.size / 4 + 1) = textW s := by
  have h := partL_whole (padI s) (by rw [padI_len]; omega)
  rw [padI_len, show 4 * (s.size / 4 + 1) / 4 = s.size / 4 + 1 by omega] at h
  rw [textW, ← h]
  unfold partL
  apply List.map_congr_left
  intro k hk
  have hk' : k < s.size / 4 + 1 := List.mem_range.1 hk
  unfold partW
  rw [if_pos (show 4 * k < 4 * (s.size / 4 + 1) by omega), if_pos (show 4 * k + 1 < 4 * (s.size / 4 + 1) by omega), if_pos (show 4 * k + 2 < 4 * (s.size / 4 + 1) by omega), if_pos (show 4 * k + 3 < 4 * (s.size / 4 + 1) by omega)]
  have f : ∀ i, (if i < s.size then nth (padI s) i else 0) = nth (padI s) i := fun i => by
    split
    · rfl
    · rw [padI_hi s i (by omega)]
  have f' : ∀ i (c : Int), (if i < s.size then nth (padI s) i * c else 0) = nth (padI s) i * c := fun i c => by
    split
    · rfl
    · rw [padI_hi s i (by omega)]; omega
  rw [f, f', f', f']

end Go.Proofs.YtmobologlaeefaaGreat

/-
  Plain facts on the layer lex: kinds of bytes, numbers in digits, runs. No condition but what each names.
-/
namespace Go.Proofs.YtmobologlaeefaaGreat
open Go.RowKit

/-- Letters, digits, blanks, bytes of a run, digits to the base 16. -/
def letterB (c : Int) : Bool := c == 95 || decide (65 ≤ c ∧ c ≤ 90) || decide (97 ≤ c ∧ c ≤ 122)
def digitB (c : Int) : Bool := decide (48 ≤ c ∧ c ≤ 57)
def blankB (c : Int) : Bool := c == 9 || c == 13 || c == 32
def runB (c : Int) : Bool := letterB c || digitB c
def hexB (c : Int) : Bool := digitB c || decide (97 ≤ c ∧ c ≤ 102) || decide (65 ≤ c ∧ c ≤ 70)
def printB (c : Int) : Bool := decide (32 ≤ c ∧ c ≤ 126)
/-- What a digit is worth. -/
def worthI (c : Int) : Int := if c ≤ 57 then c - 48 else if 97 ≤ c then c - 87 else c - 55
/-- .. of another byte more than any digit. -/
def dvI (c : Int) : Int := if hexB c then worthI c else 18446744073709551615
/-- A byte's kind, as the code numbers them. -/
def kindL (c : Int) : Int := if letterB c then 3 else if digitB c then 4 else if blankB c then 2 else if c = 37 then 5 else if c = 45 then 6 else if c = 34 then 7 else if c = 92 then 8 else if c = 61 then 9 else if c = 59 then 10 else 1

theorem worth_lo {c : Int} (h : hexB c = true) : 0 ≤ worthI c := by
  simp only [hexB, digitB, Bool.or_eq_true, decide_eq_true_eq] at h
  unfold worthI; split
  · omega
  · split <;> omega
theorem worth_hi {c : Int} (h : hexB c = true) : worthI c < 16 := by
  simp only [hexB, digitB, Bool.or_eq_true, decide_eq_true_eq] at h
  unfold worthI; split
  · omega
  · split <;> omega
theorem dv_lo (c : Int) : 0 ≤ dvI c := by
  unfold dvI; split
  · exact worth_lo (by assumption)
  · omega
theorem dv_hi (c : Int) : dvI c < 18446744073709551616 := by
  unfold dvI; split
  · have := worth_hi (c := c) (by assumption); omega
  · omega
theorem dv_hex (c : Int) : dvI c < 16 ↔ hexB c = true := by
  unfold dvI; split
  · have := worth_hi (c := c) (by assumption)
    constructor
    · intro _; assumption
    · intro _; omega
  · constructor
    · intro h; omega
    · intro h; contradiction
theorem digit_hex {c : Int} (h : digitB c = true) : hexB c = true := by simp [hexB, h]
theorem dv_digit (c : Int) : dvI c < 10 ↔ digitB c = true := by
  unfold dvI; split
  · rename_i h
    simp only [hexB, digitB, Bool.or_eq_true, decide_eq_true_eq] at h ⊢
    unfold worthI; split
    · constructor <;> intro _ <;> omega
    · split <;> constructor <;> intro _ <;> omega
  · rename_i h
    constructor
    · intro h; omega
    · intro h'; exact absurd (digit_hex h') h

/-! ### numbers in digits -/

/-- What digits say to a base, behind a number. -/
def valF (b : Int) : Int → List Int → Int
  | n, [] => n
  | n, c :: r => valF b (n * b + dvI c) r
/-- Digits to a base. -/
def allD (b : Int) (l : List Int) : Bool := l.all fun c => decide (dvI c < b)

theorem valF_snoc (b n : Int) (l : List Int) (c : Int) : valF b n (l ++ [c]) = valF b n l * b + dvI c := by
  induction l generalizing n with
  | nil => rfl
  | cons x l ih => simp only [List.cons_append, valF]; exact ih _
theorem valF_take (b : Int) (l : List Int) (k : Nat) (h : k < l.length) : valF b 0 (l.take (k + 1)) = valF b 0 (l.take k) * b + dvI (nth l k) := by
  rw [take_snoc l k h, valF_snoc]
theorem valF_ge (b n : Int) (l : List Int) (hb : 1 ≤ b) (hn : 0 ≤ n) : n ≤ valF b n l := by
  induction l generalizing n with
  | nil => exact Int.le_refl _
  | cons c l ih =>
    have h0 := dv_lo c
    have h1 : n * 1 ≤ n * b := Int.mul_le_mul_of_nonneg_left hb hn
    have := ih (n * b + dvI c) (by omega)
    simp only [valF]; omega
theorem valF_lo (b : Int) (l : List Int) (hb : 1 ≤ b) : 0 ≤ valF b 0 l := valF_ge b 0 l hb (Int.le_refl _)
theorem valF_append (b n : Int) (l m : List Int) : valF b n (l ++ m) = valF b (valF b n l) m := by
  induction l generalizing n with
  | nil => rfl
  | cons x l ih => simp only [List.cons_append, valF]; exact ih _
theorem valF_take_le (b : Int) (l : List Int) (k : Nat) (hb : 1 ≤ b) : valF b 0 (l.take k) ≤ valF b 0 l := by
  have e : l = l.take k ++ l.drop k := (List.take_append_drop k l).symm
  have h := valF_ge b (valF b 0 (l.take k)) (l.drop k) hb (valF_lo b _ hb)
  rw [← valF_append, ← e] at h
  exact h
/-- Below the base to the power of how many there are. -/
theorem valF_lt (b : Int) (l : List Int) (hb : 1 ≤ b) (h : allD b l = true) (n : Int) (j : Nat) (hn : n < b ^ j) : valF b n l < b ^ (j + l.length) := by
  induction l generalizing n j with
  | nil => simpa [valF] using hn
  | cons c l ih =>
    simp only [allD, List.all_cons, Bool.and_eq_true, decide_eq_true_eq] at h
    have h1 : (n + 1) * b ≤ b ^ j * b := Int.mul_le_mul_of_nonneg_right (by omega) (by omega)
    have e : (n + 1) * b = n * b + b := by rw [Int.add_mul]; omega
    have := ih h.2 (n * b + dvI c) (j + 1) (by rw [Int.pow_succ]; omega)
    simp only [valF, List.length_cons]
    rw [show j + (l.length + 1) = j + 1 + l.length by omega]
    exact this
theorem valF_pow (b n : Int) (l : List Int) (hb : 1 ≤ b) (hn : 0 ≤ n) : n * b ^ l.length ≤ valF b n l := by
  induction l generalizing n with
  | nil => simp [valF]
  | cons c l ih =>
    have h0 := dv_lo c
    have hm : 0 ≤ n * b := Int.mul_nonneg hn (by omega)
    have h1 := ih (n * b + dvI c) (by omega)
    have h2 : n * b * b ^ l.length ≤ (n * b + dvI c) * b ^ l.length := Int.mul_le_mul_of_nonneg_right (by omega) (Int.le_of_lt (Int.pow_pos (by omega)))
    simp only [valF, List.length_cons, Int.pow_succ]
    have e : n * (b ^ l.length * b) = n * b * b ^ l.length := by rw [Int.mul_comm (b ^ l.length) b, Int.mul_assoc]
    omega

/-- The digits to a base that say a number below 2^32. -/
def digsB (b : Int) (l : List Int) : Bool := !l.isEmpty && allD b l && decide (valF b 0 l < 4294967296)
/-- A plain number. -/
def plainB (l : List Int) : Bool := !(decide (1 < l.length) && nth l 0 == 48) && digsB 10 l

theorem allD_at {b : Int} {l : List Int} (h : allD b l = true) {k : Nat} (hk : k < l.length) : dvI (nth l k) < b := by
  simp only [allD, List.all_eq_true, decide_eq_true_eq] at h
  have e : nth l k = l[k] := by simp [nth, List.getD, hk]
  rw [e]; exact h _ (List.getElem_mem hk)
theorem allD_snoc {b : Int} {l : List Int} {k : Nat} (hk : k < l.length) (h : allD b (l.take k) = true) (h1 : dvI (nth l k) < b) : allD b (l.take (k + 1)) = true := by
  rw [take_snoc l k hk]
  simp only [allD, List.all_append, Bool.and_eq_true] at h ⊢
  exact ⟨h, by simpa using h1⟩
theorem digs_not {b : Int} {l : List Int} {k : Nat} (hk : k < l.length) (h1 : b ≤ dvI (nth l k)) : digsB b l = false := by
  cases e : digsB b l
  · rfl
  · simp only [digsB, Bool.and_eq_true] at e
    have := allD_at e.1.2 hk
    omega
theorem digs_large {b : Int} {l : List Int} {k : Nat} (hb : 1 ≤ b) (h1 : 4294967296 ≤ valF b 0 (l.take k)) : digsB b l = false := by
  cases e : digsB b l
  · rfl
  · simp only [digsB, Bool.and_eq_true, decide_eq_true_eq] at e
    have := valF_take_le b l k hb
    omega
theorem digs_all {b : Int} {l : List Int} (h : allD b l = true) (h1 : valF b 0 l < 4294967296) : digsB b l = !l.isEmpty := by
  simp [digsB, h, h1]
theorem plain_zero {l : List Int} (h : 1 < l.length) (h0 : nth l 0 = 48) : plainB l = false := by simp [plainB, h, h0]
theorem plain_digs {l : List Int} (h : ¬ (1 < l.length ∧ nth l 0 = 48)) : plainB l = digsB 10 l := by
  have e : (decide (1 < l.length) && nth l 0 == 48) = false := by
    cases e : (decide (1 < l.length) && nth l 0 == 48)
    · rfl
    · simp at e; exact absurd e h
  rw [plainB, e]; rfl
/-- More than ten digits, the first not 0: 2^32 or more. -/
theorem plain_long {l : List Int} (h : 10 < l.length) : plainB l = false := by
  cases e : plainB l
  · rfl
  · match l, h with
    | c :: r, h =>
      simp only [plainB, digsB, Bool.and_eq_true, decide_eq_true_eq, Bool.not_eq_true'] at e
      obtain ⟨e1, ⟨_, e3⟩, e4⟩ := e
      have hc : dvI c < 10 := by have := allD_at e3 (k := 0) (by simp); exact this
      have hd := (dv_digit c).1 hc
      have hne : c ≠ 48 := by
        intro hc; subst hc
        have : decide (1 < (48 :: r).length) = true := decide_eq_true (by simp at h ⊢; omega)
        rw [this] at e1
        simp [nth] at e1
      have h1 : 1 ≤ dvI c := by
        have := digit_hex hd
        simp only [digitB, decide_eq_true_eq] at hd
        unfold dvI worthI; rw [if_pos this, if_pos (by omega)]; omega
      have h2 := valF_pow 10 (0 * 10 + dvI c) r (by omega) (by omega)
      have e5 : valF 10 0 (c :: r) = valF 10 (0 * 10 + dvI c) r := rfl
      have h3 : (10 : Int) ^ 10 ≤ 10 ^ r.length := by
        have hl : 10 ≤ r.length := by simp at h; omega
        obtain ⟨m, hm⟩ : ∃ m, r.length = 10 + m := ⟨r.length - 10, by omega⟩
        rw [hm, Int.pow_add]
        have h0 : (0 : Int) < 10 ^ m := Int.pow_pos (by decide)
        have : (1 : Int) ≤ 10 ^ m := by omega
        have := Int.mul_le_mul_of_nonneg_left this (show (0 : Int) ≤ 10 ^ 10 by decide)
        omega
      have h4 : 1 * (10 : Int) ^ r.length ≤ (0 * 10 + dvI c) * 10 ^ r.length := Int.mul_le_mul_of_nonneg_right (by omega) (Int.le_of_lt (Int.pow_pos (by decide)))
      omega

/-- A number's text, and what it says. -/
def numB (l : List Int) : Bool :=
  if l.take 1 = [45] then plainB (l.drop 1) && decide (1 ≤ valF 10 0 (l.drop 1) ∧ valF 10 0 (l.drop 1) ≤ 2147483648)
  else if l.take 2 = [48, 120] then digsB 16 (l.drop 2) && decide (l.length ≤ 10)
  else plainB l
def numV (l : List Int) : Int :=
  if l.take 1 = [45] then 4294967296 - valF 10 0 (l.drop 1)
  else if l.take 2 = [48, 120] then valF 16 0 (l.drop 2)
  else valF 10 0 l
/-- What Number answers. -/
def numOut (l : List Int) : Int := if numB l then numV l else 0
def numErr (l : List Int) : Int := if numB l then 0 else 62

theorem num_bounds {l : List Int} (h : numB l = true) : 0 ≤ numV l ∧ numV l < 4294967296 := by
  unfold numB at h; unfold numV
  split at h
  · rename_i e; rw [if_pos e]
    simp only [Bool.and_eq_true, decide_eq_true_eq] at h
    omega
  · rename_i e; rw [if_neg e]
    split at h
    · rename_i e2; rw [if_pos e2]
      simp only [digsB, Bool.and_eq_true, decide_eq_true_eq] at h
      have := valF_lo 16 (l.drop 2) (by omega)
      omega
    · rename_i e2; rw [if_neg e2]
      simp only [plainB, digsB, Bool.and_eq_true, decide_eq_true_eq] at h
      have := valF_lo 10 l (by omega)
      omega

/-! ### strings and their numbers -/

theorem strI_inj {s t : ByteArray} (h : strI s = strI t) : s = t := by rw [← str_of_strI s, ← str_of_strI t, h]
theorem strI_of {l : List Int} (h : Within 256 l) : strI (strOfNums l) = l := by
  unfold strI strOfNums
  simp only [List.map_map]
  apply List.ext_getElem (by simp)
  intro k h1 h2
  simp only [List.getElem_map, Function.comp_def]
  have := h (l[k]) (List.getElem_mem h2)
  have hlt : l[k].toNat < 256 := by omega
  rw [UInt8.toNat_ofNat_of_lt' (by simpa using hlt)]
  omega
theorem strI_extract (s : ByteArray) (a b : Nat) : strI (s.extract a b) = ((strI s).take b).drop a := by
  unfold strI
  rw [ByteArray.data_extract]
  simp [List.map_drop, List.map_take, List.extract_eq_take_drop, List.drop_take]
end Go.Proofs.YtmobologlaeefaaGreat

/-
  The layer lex as plain functions on lists of numbers: quotes, tokens, lines of tokens. No condition but what each names.
-/
namespace Go.Proofs.YtmobologlaeefaaGreat
open Go.RowKit

/-! ### quotes -/

theorem within_appX {m : Int} {a b : List Int} (ha : Within m a) (hb : Within m b) : Within m (a ++ b) := fun z hz => by
  rcases List.mem_append.1 hz with h | h
  · exact ha z h
  · exact hb z h
theorem within_cons {m c : Int} {a : List Int} (h0 : 0 ≤ c) (h1 : c < m) (ha : Within m a) : Within m (c :: a) := fun z hz => by
  rcases List.mem_cons.1 hz with h | h
  · subst h; exact ⟨h0, h1⟩
  · exact ha z h
/-! ### tokens -/

theorem kind_letter (c : Int) : (kindL c == 3) = letterB c := by
  unfold kindL
  cases letterB c
  · simp only [Bool.false_eq_true, if_false]
    repeat' split
    all_goals rfl
  · rfl
theorem kind_run (c : Int) : (kindL c == 3 || kindL c == 4) = runB c := by
  unfold kindL runB
  cases letterB c
  · cases digitB c
    · simp only [Bool.false_eq_true, if_false]
      repeat' split
      all_goals rfl
    · rfl
  · rfl
theorem kind_lo (c : Int) : 1 ≤ kindL c := by unfold kindL; repeat' split <;> omega
theorem kind_hi (c : Int) : kindL c ≤ 10 := by unfold kindL; repeat' split <;> omega

/-- A run that begins with a letter. -/
def wordB (l : List Int) : Bool := !l.isEmpty && l.all runB && letterB (nth l 0)
/-- A token's text may be, by its kind. -/
def tokOk (k : Int) (l : List Int) : Bool := if k = 1 then wordB l else if k = 2 then plainB l else if k = 3 then numB l else if k = 4 then true else if k = 5 then decide (l = [61]) else false
theorem word_not {l : List Int} {k : Nat} (h : k < l.length) (hr : runB (nth l k) = false) : wordB l = false := by
  have e : nth l k = l[k] := by simp [nth, List.getD, h]
  cases hb : wordB l
  · rfl
  · simp only [wordB, Bool.and_eq_true, List.all_eq_true] at hb
    have := hb.1.2 _ (List.getElem_mem h)
    rw [← e, hr] at this; cases this
theorem word_all {l : List Int} (h : l ≠ []) (hr : ∀ k, k < l.length → runB (nth l k) = true) : wordB l = letterB (nth l 0) := by
  have e : l.all runB = true := by
    rw [List.all_eq_true]
    intro x hx
    obtain ⟨k, hk, rfl⟩ := List.getElem_of_mem hx
    have := hr k hk
    have e : nth l k = l[k] := by simp [nth, List.getD, hk]
    rwa [e] at this
  have e2 : l.isEmpty = false := by cases l <;> simp_all
  simp [wordB, e, e2]
/-- A token: its kind, its text, its place. -/
abbrev TokT := Int × ByteArray × Int
def nthT (l : List TokT) (k : Nat) : TokT := l.getD k (0, ⟨#[]⟩, 0)
def wOk (l : List TokT) : Bool := l.all fun t => tokOk t.1 (strI t.2.1)
/-- How many bytes the texts have together. -/
def bulkT (l : List TokT) : Nat := (l.map fun t => t.2.1.size).sum

/-! ### reading -/

/-- Where the run from a place ends. -/
def runE (l : List Int) (p : Nat) : Nat := p + ((l.drop p).takeWhile runB).length
/-- A piece. -/
def cutL (l : List Int) (a b : Nat) : List Int := (l.take b).drop a
/-- What stands at a place within a quoted text for one byte, and how many bytes it is. -/
def partP (l : List Int) (p : Nat) : Option (Int × Nat) :=
  if nth l p = 92 then
    if nth l (p + 1) = 34 ∨ nth l (p + 1) = 92 then some (nth l (p + 1), 2)
    else if nth l (p + 1) = 120 ∧ hexB (nth l (p + 2)) = true ∧ hexB (nth l (p + 3)) = true then some (16 * dvI (nth l (p + 2)) + dvI (nth l (p + 3)), 4)
    else none
  else if printB (nth l p) = true then some (nth l p, 1) else none
/-- A quoted text from behind its first quote on: what it stands for, and where it ends. -/
def quotF : Nat → List Int → Nat → Option (List Int × Nat)
  | 0, _, _ => none
  | f + 1, l, p => if nth l p = 34 then some ([], p + 1) else match partP l p with
    | none => none
    | some (b, n) => (quotF f l (p + n)).map fun r => (b :: r.1, r.2)
def quotP (l : List Int) (p : Nat) : Option (List Int × Nat) := quotF (l.length + 1) l p
/-- The token at a place: its kind, its text, where it ends; or what is wrong. -/
def tokP (l : List Int) (p : Nat) : Sum Int (Int × List Int × Nat) :=
  if letterB (nth l p) then .inr (1, cutL l p (runE l p), runE l p)
  else if nth l p = 37 then if plainB (cutL l (p + 1) (runE l (p + 1))) then .inr (2, cutL l (p + 1) (runE l (p + 1)), runE l (p + 1)) else .inl 62
  else if digitB (nth l p) || decide (nth l p = 45) then if numB (cutL l p (runE l (p + 1))) then .inr (3, cutL l p (runE l (p + 1)), runE l (p + 1)) else .inl 62
  else if nth l p = 34 then match quotP l (p + 1) with
    | some (b, q) => .inr (4, b, q)
    | none => .inl 61
  else if nth l p = 61 then .inr (5, [61], p + 1)
  else .inl 60
abbrev TokR := List TokT × Int × Int
/-- A token more ahead; what is wrong stays. -/
def consR (t : TokT) (r : TokR) : TokR := if r.2.1 = 0 then (t :: r.1, 0, 0) else r
def joinR (acc : List TokT) (r : TokR) : TokR := if r.2.1 = 0 then (acc ++ r.1, 0, 0) else ([], r.2.1, r.2.2)
def toksF : Nat → List Int → Nat → TokR
  | 0, _, _ => ([], 0, 0)
  | f + 1, l, p =>
    if p < l.length ∧ nth l p ≠ 59 then
      if blankB (nth l p) then toksF f l (p + 1) else match tokP l p with
        | .inl e => ([], e, (p : Int))
        | .inr (k, t, q) => consR (k, strOfNums t, (p : Int)) (toksF f l q)
    else ([], 0, 0)
/-- The tokens of a line from a place on. -/
def toksP (l : List Int) (p : Nat) : TokR := toksF (l.length + 1) l p

theorem nth_over (l : List Int) (k : Nat) (h : l.length ≤ k) : nth l k = 0 := by simp [nth, List.getD, List.getElem?_eq_none h]

theorem runE_spec {l : List Int} {p k : Nat} (hp : p ≤ k) (hk : k ≤ l.length) (h : ∀ i, p ≤ i → i < k → runB (nth l i) = true) (he : k = l.length ∨ runB (nth l k) = false) : runE l p = k := by
  have key : ∀ (n : Nat) (p : Nat), k - p = n → p ≤ k → (∀ i, p ≤ i → i < k → runB (nth l i) = true) → ((l.drop p).takeWhile runB).length = k - p := by
    intro n
    induction n with
    | zero =>
      intro p hn hp _
      obtain rfl : p = k := by omega
      rcases he with he | he
      · rw [List.drop_eq_nil_of_le (by omega)]; simp
      · by_cases hl : p < l.length
        · rw [List.drop_eq_getElem_cons hl]
          have e : nth l p = l[p] := by simp [nth, List.getD, hl]
          rw [e] at he
          rw [List.takeWhile_cons_of_neg (by simp [he])]; simp
        · rw [List.drop_eq_nil_of_le (by omega)]; simp
    | succ n ih =>
      intro p hn hp h
      have hl : p < l.length := by omega
      have e : nth l p = l[p] := by simp [nth, List.getD, hl]
      have h0 := h p (Nat.le_refl _) (by omega)
      rw [e] at h0
      rw [List.drop_eq_getElem_cons hl, List.takeWhile_cons_of_pos (by simpa using h0)]
      have := ih (p + 1) (by omega) (by omega) (fun i hi hik => h i (by omega) hik)
      simp only [List.length_cons]; omega
  have := key _ p rfl hp h
  unfold runE; omega
theorem runE_le (l : List Int) (p : Nat) (h : p ≤ l.length) : runE l p ≤ l.length := by
  have := (List.takeWhile_sublist (p := runB) (l := l.drop p)).length_le
  rw [List.length_drop] at this
  unfold runE; omega
theorem runE_ge (l : List Int) (p : Nat) : p ≤ runE l p := by unfold runE; omega
theorem runE_gt {l : List Int} {p : Nat} (h : p < l.length) (hr : runB (nth l p) = true) : p + 1 ≤ runE l p := by
  have e : nth l p = l[p] := by simp [nth, List.getD, h]
  rw [e] at hr
  unfold runE
  rw [List.drop_eq_getElem_cons h, List.takeWhile_cons_of_pos (by simpa using hr)]
  simp

theorem partP_some {l : List Int} {p n : Nat} {b : Int} (h : partP l p = some (b, n)) : 1 ≤ n ∧ p + n ≤ l.length := by
  have hlt : ∀ k, nth l k ≠ 0 → k < l.length := fun k hk => by
    rcases Nat.lt_or_ge k l.length with h' | h'
    · exact h'
    · exact absurd (nth_over l k h') hk
  have hhex : hexB 0 = false := by decide
  unfold partP at h
  split at h
  · split at h
    · rename_i h1
      have := hlt (p + 1) (by omega)
      simp at h; omega
    · split at h
      · rename_i h1
        have := hlt (p + 3) (fun e => by rw [e, hhex] at h1; exact absurd h1.2.2 (by decide))
        simp at h; omega
      · cases h
  · split at h
    · rename_i h1
      have := hlt p (fun e => by rw [e] at h1; exact absurd h1 (by decide))
      simp at h; omega
    · cases h
theorem partP_over {l : List Int} {p : Nat} (h : l.length ≤ p) : partP l p = none := by
  cases e : partP l p
  · rfl
  · have := partP_some e; omega
theorem quotF_succ (f : Nat) (l : List Int) (p : Nat) : quotF (f + 1) l p = if nth l p = 34 then some ([], p + 1) else match partP l p with
    | none => none
    | some (b, n) => (quotF f l (p + n)).map fun r => (b :: r.1, r.2) := rfl
theorem toksF_succ (f : Nat) (l : List Int) (p : Nat) : toksF (f + 1) l p = if p < l.length ∧ nth l p ≠ 59 then
      if blankB (nth l p) then toksF f l (p + 1) else match tokP l p with
        | .inl e => ([], e, (p : Int))
        | .inr (k, t, q) => consR (k, strOfNums t, (p : Int)) (toksF f l q)
    else ([], 0, 0) := rfl
theorem quotF_fuel (l : List Int) : ∀ (f g p : Nat), l.length - p < f → l.length - p < g → quotF f l p = quotF g l p := by
  intro f
  induction f with
  | zero => intro g p h; omega
  | succ f ih =>
    intro g p hf hg
    match g, hg with
    | g + 1, hg =>
      unfold quotF
      split
      · rfl
      · cases e : partP l p with
        | none => rfl
        | some bn =>
          obtain ⟨b, n⟩ := bn
          have := partP_some e
          simp only
          rw [ih g (p + n) (by omega) (by omega)]
theorem quotP_close {l : List Int} {p : Nat} (h : nth l p = 34) : quotP l p = some ([], p + 1) := by
  unfold quotP quotF; rw [if_pos h]
theorem quotP_none {l : List Int} {p : Nat} (h : nth l p ≠ 34) (h1 : partP l p = none) : quotP l p = none := by
  unfold quotP quotF; rw [if_neg h, h1]
theorem quotP_some {l : List Int} {p n : Nat} {b : Int} (h : nth l p ≠ 34) (h1 : partP l p = some (b, n)) : quotP l p = (quotP l (p + n)).map fun r => (b :: r.1, r.2) := by
  have := partP_some h1
  have e : quotP l p = (quotF l.length l (p + n)).map fun r => (b :: r.1, r.2) := by
    show quotF (l.length + 1) l p = _
    rw [quotF_succ, if_neg h, h1]
  rw [e, quotF_fuel l l.length (l.length + 1) (p + n) (by omega) (by omega)]
  rfl
theorem quotP_end {l : List Int} : ∀ {p q : Nat} {b : List Int}, quotP l p = some (b, q) → p + 1 ≤ q ∧ q ≤ l.length := by
  have key : ∀ (f p q : Nat) (b : List Int), quotF f l p = some (b, q) → p + 1 ≤ q ∧ q ≤ l.length := by
    intro f
    induction f with
    | zero => intro p q b h; cases h
    | succ f ih =>
      intro p q b h
      unfold quotF at h
      split at h
      · rename_i h1
        have : p < l.length := by
          rcases Nat.lt_or_ge p l.length with h' | h'
          · exact h'
          · rw [nth_over l p h'] at h1; omega
        simp at h; omega
      · cases e : partP l p with
        | none => rw [e] at h; cases h
        | some bn =>
          obtain ⟨b', n⟩ := bn
          rw [e] at h
          simp only [Option.map_eq_some_iff] at h
          obtain ⟨⟨bs, q'⟩, h1, h2⟩ := h
          have := ih _ _ _ h1
          simp at h2; omega
  intro p q b h
  exact key _ p q b h

theorem tokP_end {l : List Int} {p q : Nat} {k : Int} {t : List Int} (hp : p < l.length) (h : tokP l p = .inr (k, t, q)) : p + 1 ≤ q ∧ q ≤ l.length := by
  unfold tokP at h
  split at h
  · rename_i h1
    have := runE_gt hp (by simp [runB, h1])
    have := runE_le l p (by omega)
    simp at h; omega
  · have a := runE_ge l (p + 1)
    have b := runE_le l (p + 1) (by omega)
    split at h
    · split at h
      · simp at h; omega
      · cases h
    · split at h
      · split at h
        · simp at h; omega
        · cases h
      · split at h
        · split at h
          · rename_i e
            have := quotP_end e
            simp at h; omega
          · cases h
        · split at h
          · simp at h; omega
          · cases h
theorem toksF_fuel (l : List Int) : ∀ (f g p : Nat), l.length - p < f → l.length - p < g → toksF f l p = toksF g l p := by
  intro f
  induction f with
  | zero => intro g p h; omega
  | succ f ih =>
    intro g p hf hg
    match g, hg with
    | g + 1, hg =>
      unfold toksF
      split
      · rename_i h1
        split
        · rw [ih g (p + 1) (by omega) (by omega)]
        · cases e : tokP l p with
          | inl _ => rfl
          | inr r =>
            obtain ⟨k, t, q⟩ := r
            have := tokP_end h1.1 e
            simp only
            rw [ih g q (by omega) (by omega)]
      · rfl
theorem toksP_end {l : List Int} {p : Nat} (h : ¬ (p < l.length ∧ nth l p ≠ 59)) : toksP l p = ([], 0, 0) := by
  unfold toksP toksF; rw [if_neg h]
theorem toksP_blank {l : List Int} {p : Nat} (h : p < l.length) (h1 : blankB (nth l p) = true) : toksP l p = toksP l (p + 1) := by
  have h2 : nth l p ≠ 59 := fun e => by rw [e] at h1; exact absurd h1 (by decide)
  have e : toksP l p = toksF l.length l (p + 1) := by
    show toksF (l.length + 1) l p = _
    rw [toksF_succ, if_pos ⟨h, h2⟩, if_pos h1]
  rw [e, toksF_fuel l l.length (l.length + 1) (p + 1) (by omega) (by omega)]
  rfl
theorem toksP_err {l : List Int} {p : Nat} {e : Int} (h : p < l.length) (h2 : nth l p ≠ 59) (h1 : blankB (nth l p) = false) (ht : tokP l p = .inl e) : toksP l p = ([], e, (p : Int)) := by
  unfold toksP toksF; rw [if_pos ⟨h, h2⟩, if_neg (by simp [h1]), ht]
theorem toksP_tok {l : List Int} {p q : Nat} {k : Int} {t : List Int} (h : p < l.length) (h2 : nth l p ≠ 59) (h1 : blankB (nth l p) = false) (ht : tokP l p = .inr (k, t, q)) : toksP l p = consR (k, strOfNums t, (p : Int)) (toksP l q) := by
  have hq := tokP_end h ht
  have e : toksP l p = consR (k, strOfNums t, (p : Int)) (toksF l.length l q) := by
    show toksF (l.length + 1) l p = _
    rw [toksF_succ, if_pos ⟨h, h2⟩, if_neg (by simp [h1]), ht]
  rw [e, toksF_fuel l l.length (l.length + 1) q (by omega) (by omega)]
  rfl
theorem join_cons (acc : List TokT) (t : TokT) (r : TokR) : joinR acc (consR t r) = joinR (acc ++ [t]) r := by
  unfold joinR consR
  by_cases h : r.2.1 = 0
  · simp [h]
  · simp [h]
theorem toksP_shape (l : List Int) (p : Nat) : ((toksP l p).2.1 = 0 → (toksP l p).2.2 = 0) ∧ ((toksP l p).2.1 ≠ 0 → (toksP l p).1 = []) := by
  have key : ∀ f p, ((toksF f l p).2.1 = 0 → (toksF f l p).2.2 = 0) ∧ ((toksF f l p).2.1 ≠ 0 → (toksF f l p).1 = []) := by
    intro f
    induction f with
    | zero => intro p; simp [toksF]
    | succ f ih =>
      intro p
      unfold toksF
      split
      · split
        · exact ih _
        · split
          · rename_i e he
            have hne : e ≠ 0 := by
              intro h0; subst h0
              unfold tokP at he
              repeat' (split at he)
              all_goals simp at he
            simp [hne]
          · rename_i k t q he
            have := ih q
            unfold consR; split
            · simp
            · exact this
      · simp
  exact key _ p
theorem join_nil (l : List Int) (p : Nat) : joinR [] (toksP l p) = toksP l p := by
  have h := toksP_shape l p
  unfold joinR
  split
  · rename_i e
    rcases hr : toksP l p with ⟨a, b, c⟩
    rw [hr] at h e
    simp only at h e
    simp [e, h.1 e]
  · rename_i e
    rcases hr : toksP l p with ⟨a, b, c⟩
    rw [hr] at h e
    simp only at h e
    simp [h.2 e]

end Go.Proofs.YtmobologlaeefaaGreat

/-
  The layer lex there and back: tokens that are written are read, each at its place; a line moved to the right; a note behind a line. No condition but what each names.
-/
namespace Go.Proofs.YtmobologlaeefaaGreat
open Go.RowKit

/-! ### moved to the right -/

/-! ### one token -/

theorem nth_dropX (l : List Int) (a k : Nat) : nth (l.drop a) k = nth l (a + k) := by unfold nth; simp [List.getD, List.getElem?_drop]
/-! ### a line of tokens -/

end Go.Proofs.YtmobologlaeefaaGreat

/-
  Tokens in memory: what can be read of them.
-/
namespace Go.Proofs.YtmobologlaeefaaGreat
open Go.RowKit
set_option linter.unusedSimpArgs false
set_option linter.unusedVariables false

def tokV (x : TokT) : Value := .agg #[.int .u8 x.1, .string x.2.1, .int .i64 x.2.2]
def tokC (x : TokT) : List Value := [.int .u8 x.1, .string x.2.1, .int .i64 x.2.2]

/-- What can be read of a slice of tokens. -/
def ToksV (w : World) (a : Option Addr) (l : List TokT) : Prop :=
  ∀ j, j < l.length → ∃ b off, a = some ⟨b, off, none⟩ ∧ b < w.heap.size ∧ w.cell? ⟨b, off + j * 3, none⟩ = some (.int .u8 (nthT l j).1) ∧ w.cell? ⟨b, off + j * 3 + 1, none⟩ = some (.string (nthT l j).2.1) ∧ w.cell? ⟨b, off + j * 3 + 2, none⟩ = some (.int .i64 (nthT l j).2.2)

def TokIn (x : TokT) : Prop := 0 ≤ x.1 ∧ x.1 < 256 ∧ x.2.1.size ≤ 140737488351232 ∧ -9223372036854775808 ≤ x.2.2 ∧ x.2.2 < 9223372036854775808
/-- Each kind, text and place lies within its bounds. -/
def ToksIn (l : List TokT) : Prop := ∀ j, j < l.length → TokIn (nthT l j)

theorem toksV_nil {w : World} {a : Option Addr} : ToksV w a [] := fun j hj => by simp at hj
theorem ToksV.below {w w' : World} {a : Option Addr} {l : List TokT} (h : ToksV w a l) (hb : Below w.heap.size w w') : ToksV w' a l := by
  intro j hj
  obtain ⟨b, off, e, hlt, h1, h2, h3⟩ := h j hj
  exact ⟨b, off, e, Nat.lt_of_lt_of_le hlt hb.size, (hb.cell (p := ⟨b, off + j * 3, none⟩) hlt).trans h1, (hb.cell (p := ⟨b, off + j * 3 + 1, none⟩) hlt).trans h2, (hb.cell (p := ⟨b, off + j * 3 + 2, none⟩) hlt).trans h3⟩
theorem ToksV.drew {w : World} {a : Option Addr} {l : List TokT} (h : ToksV w a l) (q : Nat) : ToksV (w.drewN q) a l := h.below (bel_drewN (Below.refl _ _) q)

theorem nthT_lt (l : List TokT) (j : Nat) (h : j < l.length) : nthT l j = l[j] := by simp [nthT, List.getD, h]
theorem flatT_at (l : List TokT) (j : Nat) (h : j < l.length) : (l.flatMap tokC)[j * 3]? = some (.int .u8 (nthT l j).1) ∧ (l.flatMap tokC)[j * 3 + 1]? = some (.string (nthT l j).2.1) ∧ (l.flatMap tokC)[j * 3 + 2]? = some (.int .i64 (nthT l j).2.2) := by
  induction l generalizing j with
  | nil => simp at h
  | cons x l ih =>
    cases j with
    | zero => simp [tokC, nthT]
    | succ j =>
      have := ih j (by simpa using h)
      rw [show (j + 1) * 3 = 3 + j * 3 by omega]
      have e : ∀ i, (List.flatMap tokC (x :: l))[3 + i]? = (l.flatMap tokC)[i]? := fun i => by
        rw [List.flatMap_cons, List.getElem?_append_right (by simp [tokC])]
        congr 1; simp [tokC]
      rw [e, show 3 + j * 3 + 1 = 3 + (j * 3 + 1) by omega, e, show 3 + j * 3 + 2 = 3 + (j * 3 + 2) by omega, e]
      have e2 : nthT (x :: l) (j + 1) = nthT l j := by simp [nthT, List.getD]
      rw [e2]; exact this
/-- What the call owns can be read. -/
theorem ToksV.ofRow {w : World} {B e g n cap : Nat} {l : List TokT} (h : w.ownsRow B e 3 (.slice (some ⟨g, 0, none⟩) n cap) n (l.flatMap tokC)) (hl : l.length = n) : ToksV w (some ⟨g, 0, none⟩) l := by
  intro j hj
  have hc := h.cells (g := g) rfl
  obtain ⟨h0, h1, h2⟩ := flatT_at l j hj
  have c0 := hc _ _ h0
  have c1 := hc _ _ h1
  have c2 := hc _ _ h2
  rw [Addr.add_lit, Nat.zero_add] at c0 c1 c2
  refine ⟨g, 0, rfl, World.block_lt_of_cell? _ _ c0, ?_, ?_, ?_⟩
  · rw [Nat.zero_add]; exact c0
  · rw [Nat.zero_add]; exact c1
  · rw [Nat.zero_add]; exact c2

end Go.Proofs.YtmobologlaeefaaGreat

/-
  The layer lex: what a line's tokens are: each may be; how long; where what is wrong stands; a note behind a line changes nothing. No condition but what each names.
-/
namespace Go.Proofs.YtmobologlaeefaaGreat
open Go.RowKit
set_option linter.unusedSimpArgs false
set_option linter.unusedVariables false

theorem cut_within {m : Int} {l : List Int} (h : Within m l) (a b : Nat) : Within m (cutL l a b) := fun z hz => h z (List.mem_of_mem_take (List.mem_of_mem_drop hz))
theorem cut_length (l : List Int) (a b : Nat) (h : b ≤ l.length) : (cutL l a b).length = b - a := by
  unfold cutL; rw [List.length_drop, List.length_take]; omega
theorem cut_nth (l : List Int) (a b i : Nat) (h : a + i < b) : nth (cutL l a b) i = nth l (a + i) := by
  unfold cutL nth
  simp [List.getD, List.getElem?_drop, List.getElem?_take, h]
theorem run_in {l : List Int} {p i : Nat} (h : p ≤ i) (hi : i < runE l p) : runB (nth l i) = true := by
  have key : ∀ (m : List Int) (j : Nat), j < (m.takeWhile runB).length → runB (nth m j) = true := by
    intro m
    induction m with
    | nil => intro j hj; simp at hj
    | cons c m ih =>
      intro j hj
      by_cases hc : runB c = true
      · rw [List.takeWhile_cons_of_pos hc] at hj
        cases j with
        | zero => exact hc
        | succ j =>
          have := ih j (by simpa using hj)
          simpa [nth, List.getD] using this
      · rw [List.takeWhile_cons_of_neg hc] at hj; simp at hj
  unfold runE at hi
  have := key (l.drop p) (i - p) (by omega)
  rw [nth_dropX, show p + (i - p) = i by omega] at this
  exact this
theorem part_byte {l : List Int} (hw : Within 256 l) {p n : Nat} {b : Int} (h : partP l p = some (b, n)) : 0 ≤ b ∧ b < 256 := by
  have hn : ∀ k, 0 ≤ nth l k ∧ nth l k < 256 := fun k => by
    rcases Nat.lt_or_ge k l.length with h' | h'
    · exact hw.at h'
    · rw [nth_over l k h']; omega
  unfold partP at h
  split at h
  · split at h
    · simp at h; have := hn (p + 1); omega
    · split at h
      · rename_i h1
        simp at h
        have a := dv_lo (nth l (p + 2)); have b := (dv_hex (nth l (p + 2))).2 h1.2.1
        have c := dv_lo (nth l (p + 3)); have d := (dv_hex (nth l (p + 3))).2 h1.2.2
        omega
      · cases h
  · split at h
    · simp at h; have := hn p; omega
    · cases h
theorem quot_bytes {l : List Int} (hw : Within 256 l) {p q : Nat} {b : List Int} (h : quotP l p = some (b, q)) : Within 256 b ∧ b.length + p + 1 ≤ q := by
  have key : ∀ (f p q : Nat) (b : List Int), quotF f l p = some (b, q) → Within 256 b ∧ b.length + p + 1 ≤ q := by
    intro f
    induction f with
    | zero => intro p q b h; cases h
    | succ f ih =>
      intro p q b h
      rw [quotF_succ] at h
      split at h
      · simp at h
        obtain ⟨rfl, rfl⟩ := h
        exact ⟨fun z hz => by simp at hz, by simp⟩
      · cases e : partP l p with
        | none => rw [e] at h; cases h
        | some bn =>
          obtain ⟨b', n⟩ := bn
          rw [e] at h
          simp only [Option.map_eq_some_iff] at h
          obtain ⟨⟨bs, q'⟩, h1, h2⟩ := h
          simp only [Prod.mk.injEq] at h2
          obtain ⟨rfl, rfl⟩ := h2
          have h3 := ih _ _ _ h1
          have h4 := part_byte hw e
          have h5 := partP_some e
          exact ⟨within_cons h4.1 h4.2 h3.1, by simp only [List.length_cons]; omega⟩
  exact key _ p q b h
/-- The token at a place may be; its text is no longer than it is. -/
theorem tok_good {l : List Int} (hw : Within 256 l) {p q : Nat} {k : Int} {t : List Int} (hp : p < l.length) (h : tokP l p = .inr (k, t, q)) : tokOk k t = true ∧ Within 256 t ∧ t.length + p ≤ q ∧ 0 ≤ k ∧ k < 256 := by
  have hq := tokP_end hp h
  unfold tokP at h
  split at h
  · rename_i hc
    simp only [Sum.inr.injEq, Prod.mk.injEq] at h
    obtain ⟨rfl, rfl, rfl⟩ := h
    refine ⟨?_, cut_within hw _ _, by rw [cut_length _ _ _ hq.2]; omega, by decide, by decide⟩
    have hl := cut_length l p (runE l p) hq.2
    show wordB _ = true
    rw [word_all (fun e => by rw [e] at hl; simp at hl; omega) (fun i hi => ?_), cut_nth _ _ _ _ (by omega)]
    · exact hc
    · rw [hl] at hi
      rw [cut_nth l p (runE l p) i (by omega)]
      exact run_in (p := p) (by omega) (by omega)
  · split at h
    · split at h
      · rename_i hc
        simp only [Sum.inr.injEq, Prod.mk.injEq] at h
        obtain ⟨rfl, rfl, rfl⟩ := h
        exact ⟨hc, cut_within hw _ _, by rw [cut_length _ _ _ hq.2]; omega, by decide, by decide⟩
      · cases h
    · split at h
      · split at h
        · rename_i hc
          simp only [Sum.inr.injEq, Prod.mk.injEq] at h
          obtain ⟨rfl, rfl, rfl⟩ := h
          exact ⟨hc, cut_within hw _ _, by rw [cut_length _ _ _ hq.2]; omega, by decide, by decide⟩
        · cases h
      · split at h
        · split at h
          · rename_i e
            have := quot_bytes hw e
            simp only [Sum.inr.injEq, Prod.mk.injEq] at h
            obtain ⟨rfl, rfl, rfl⟩ := h
            exact ⟨rfl, this.1, by omega, by decide, by decide⟩
          · cases h
        · split at h
          · simp only [Sum.inr.injEq, Prod.mk.injEq] at h
            obtain ⟨rfl, rfl, rfl⟩ := h
            exact ⟨rfl, within_one (by decide) (by decide), by simp; omega, by decide, by decide⟩
          · cases h
theorem tok_err {l : List Int} {p : Nat} {e : Int} (h : tokP l p = .inl e) : e = 60 ∨ e = 61 ∨ e = 62 := by
  unfold tokP at h
  repeat' (split at h)
  all_goals simp at h
  all_goals omega
/-- Of all tokens of a line. -/
theorem toks_good {l : List Int} (hw : Within 256 l) (p : Nat) : wOk (toksP l p).1 = true ∧ bulkT (toksP l p).1 ≤ l.length - p ∧ (toksP l p).1.length ≤ l.length - p ∧ (∀ t ∈ (toksP l p).1, 0 ≤ t.1 ∧ t.1 < 256 ∧ t.2.1.size ≤ l.length ∧ 0 ≤ t.2.2 ∧ t.2.2 < l.length) ∧
    ((toksP l p).2.1 = 0 ∨ ((toksP l p).2.1 = 60 ∨ (toksP l p).2.1 = 61 ∨ (toksP l p).2.1 = 62) ∧ 0 ≤ (toksP l p).2.2 ∧ (toksP l p).2.2 < l.length) := by
  have key : ∀ f p, wOk (toksF f l p).1 = true ∧ bulkT (toksF f l p).1 ≤ l.length - p ∧ (toksF f l p).1.length ≤ l.length - p ∧ (∀ t ∈ (toksF f l p).1, 0 ≤ t.1 ∧ t.1 < 256 ∧ t.2.1.size ≤ l.length ∧ 0 ≤ t.2.2 ∧ t.2.2 < l.length) ∧
    ((toksF f l p).2.1 = 0 ∨ ((toksF f l p).2.1 = 60 ∨ (toksF f l p).2.1 = 61 ∨ (toksF f l p).2.1 = 62) ∧ 0 ≤ (toksF f l p).2.2 ∧ (toksF f l p).2.2 < l.length) := by
    intro f
    induction f with
    | zero => intro p; exact ⟨rfl, by simp [toksF, bulkT], by simp [toksF], fun t ht => by simp [toksF] at ht, .inl rfl⟩
    | succ f ih =>
      intro p
      rw [toksF_succ]
      split
      · rename_i hc
        split
        · have := ih (p + 1)
          exact ⟨this.1, by omega, by omega, this.2.2.2.1, this.2.2.2.2⟩
        · cases e : tokP l p with
          | inl er =>
            have := tok_err e
            exact ⟨rfl, by simp [bulkT], by simp, fun t ht => by simp at ht, .inr ⟨this, by simp; omega⟩⟩
          | inr r =>
            obtain ⟨k, t, q⟩ := r
            have hq := tokP_end hc.1 e
            obtain ⟨g1, g2, g3, g4, g5⟩ := tok_good hw hc.1 e
            obtain ⟨i1, i2, i3, i4, i5⟩ := ih q
            simp only
            unfold consR
            split
            · rename_i h0
              have hsz : (strOfNums t).size = t.length := strOfNums_size t
              refine ⟨?_, ?_, ?_, ?_, .inl rfl⟩
              · simp only [wOk, List.all_cons, Bool.and_eq_true]
                refine ⟨by rw [strI_of g2]; exact g1, i1⟩
              · simp only [bulkT, List.map_cons, List.sum_cons] at i2 ⊢
                rw [hsz]; omega
              · simp only [List.length_cons]; omega
              · intro x hx
                rcases List.mem_cons.1 hx with rfl | hx
                · exact ⟨g4, g5, by simp only [hsz]; omega, by simp, by simp; omega⟩
                · exact i4 x hx
            · exact ⟨i1, by omega, by omega, i4, i5⟩
      · exact ⟨rfl, by simp [bulkT], by simp, fun t ht => by simp at ht, .inl rfl⟩
  exact key _ p
theorem toksIn_of {l : List TokT} {n : Nat} (hn : n ≤ 140737488351232) (h : ∀ t ∈ l, 0 ≤ t.1 ∧ t.1 < 256 ∧ t.2.1.size ≤ n ∧ 0 ≤ t.2.2 ∧ t.2.2 < n) : ToksIn l := by
  intro j hj
  rw [nthT_lt l j hj]
  have := h _ (List.getElem_mem hj)
  exact ⟨this.1, this.2.1, by omega, by omega, by omega⟩

/-! ### tokens that are written anew -/

/-! ### a note behind a line -/

/-! ### a quoted text alone -/

end Go.Proofs.YtmobologlaeefaaGreat

/-
  What the tokens of a head's line say, as plain functions.
-/
namespace Go.Proofs.YtmobologlaeefaaGreat
open Go.RowKit
set_option linter.unusedVariables false
set_option linter.unusedSimpArgs false

def moduleS : ByteArray := ⟨#[109, 111, 100, 117, 108, 101]⟩

/-- What is wrong with a token that must be a number. -/
def numP (t : TokT) : Int := if t.1 ≠ 3 then 70 else numErr (strI t.2.1)

/-- What the tokens of a head's line say: generator, bound, what is wrong, where. -/
def headP (l : List TokT) (len : Int) : Int × Int × Int × Int :=
  if l.length < 1 then (0, 0, 72, len)
  else if ¬ ((nthT l 0).1 = 1 ∧ (nthT l 0).2.1 = moduleS) then (0, 0, 70, (nthT l 0).2.2)
  else if l.length < 2 then (0, 0, 72, len)
  else if numP (nthT l 1) ≠ 0 then (0, 0, numP (nthT l 1), (nthT l 1).2.2)
  else if l.length < 3 then (0, 0, 72, len)
  else if numP (nthT l 2) ≠ 0 then (0, 0, numP (nthT l 2), (nthT l 2).2.2)
  else if numV (strI (nthT l 2).2.1) < 1 ∨ 65536 < numV (strI (nthT l 2).2.1) then (0, 0, 24, (nthT l 2).2.2)
  else if 3 < l.length then (0, 0, 70, (nthT l 3).2.2)
  else (numV (strI (nthT l 1).2.1), numV (strI (nthT l 2).2.1), 0, 0)

/-- What a head's line says. -/
def headS (s : ByteArray) : Int × Int × Int × Int :=
  if (toksP (strI s) 0).2.1 ≠ 0 then (0, 0, (toksP (strI s) 0).2.1, (toksP (strI s) 0).2.2) else headP (toksP (strI s) 0).1 s.size

theorem numV_ok {l : List Int} (h : numB l = true) : numErr l = 0 ∧ numOut l = numV l ∧ 0 ≤ numV l ∧ numV l < 4294967296 := by
  have := num_bounds h
  refine ⟨?_, ?_, this.1, this.2⟩
  · unfold numErr; rw [h]; rfl
  · unfold numOut; rw [h]; rfl
theorem numErr_zero {l : List Int} (h : numErr l = 0) : numB l = true := by
  unfold numErr at h; split at h
  · assumption
  · omega

/-- The first token is wrong. -/
theorem headP_first {l : List TokT} {len : Int} (h : 0 < l.length) : ¬ ((nthT l 0).1 = 1 ∧ (nthT l 0).2.1 = moduleS) → headP l len = (0, 0, 70, (nthT l 0).2.2) := fun h1 => by
  unfold headP; rw [if_neg (by omega), if_pos h1]
theorem headP_early {l : List TokT} {len : Int} (h : l.length < 3) (h0 : 1 ≤ l.length → (nthT l 0).1 = 1 ∧ (nthT l 0).2.1 = moduleS) (h1 : 2 ≤ l.length → numP (nthT l 1) = 0) : headP l len = (0, 0, 72, len) := by
  unfold headP
  by_cases a : l.length < 1
  · rw [if_pos a]
  · rw [if_neg a, if_neg (by have := h0 (by omega); simp [this])]
    by_cases b : l.length < 2
    · rw [if_pos b]
    · rw [if_neg b, if_neg (by have := h1 (by omega); omega), if_pos h]
theorem headP_one {l : List TokT} {len : Int} (h : 1 < l.length) (h0 : (nthT l 0).1 = 1 ∧ (nthT l 0).2.1 = moduleS) : numP (nthT l 1) ≠ 0 → headP l len = (0, 0, numP (nthT l 1), (nthT l 1).2.2) := fun h1 => by
  unfold headP; rw [if_neg (by omega), if_neg (by simp [h0]), if_neg (by omega), if_pos h1]
theorem headP_two {l : List TokT} {len : Int} (h : 2 < l.length) (h0 : (nthT l 0).1 = 1 ∧ (nthT l 0).2.1 = moduleS) (h1 : numP (nthT l 1) = 0) :
    (numP (nthT l 2) ≠ 0 → headP l len = (0, 0, numP (nthT l 2), (nthT l 2).2.2)) ∧ (numP (nthT l 2) = 0 → (numV (strI (nthT l 2).2.1) < 1 ∨ 65536 < numV (strI (nthT l 2).2.1)) → headP l len = (0, 0, 24, (nthT l 2).2.2)) := by
  unfold headP
  rw [if_neg (by omega), if_neg (by simp [h0]), if_neg (by omega), if_neg (by omega), if_neg (by omega)]
  exact ⟨fun h2 => by rw [if_pos h2], fun h2 h3 => by rw [if_neg (by omega), if_pos h3]⟩
theorem headP_three {l : List TokT} {len : Int} (h : 2 < l.length) (h0 : (nthT l 0).1 = 1 ∧ (nthT l 0).2.1 = moduleS) (h1 : numP (nthT l 1) = 0) (h2 : numP (nthT l 2) = 0) (h3 : ¬ (numV (strI (nthT l 2).2.1) < 1 ∨ 65536 < numV (strI (nthT l 2).2.1))) :
    headP l len = if 3 < l.length then (0, 0, 70, (nthT l 3).2.2) else (numV (strI (nthT l 1).2.1), numV (strI (nthT l 2).2.1), 0, 0) := by
  unfold headP
  rw [if_neg (by omega), if_neg (by simp [h0]), if_neg (by omega), if_neg (by omega), if_neg (by omega), if_neg (by omega), if_neg h3]
theorem numP_kind {t : TokT} (h : t.1 ≠ 3) : numP t = 70 := by unfold numP; rw [if_pos h]
theorem numP_num {t : TokT} (h : t.1 = 3) : numP t = numErr (strI t.2.1) := by unfold numP; rw [if_neg (by simp [h])]

end Go.Proofs.YtmobologlaeefaaGreat
