/-
  Texts laid together in one: Math, Slots, Math3, Iter, Boxes, Rdr, Raws, KitWords, Law02Raws.
-/
import Derived.WalkKit
import Derived.Laws.BitsAllLaws
import Derived.WalkSmall
import Derived.OpenShut
import Derived.ProofKit
import Derived.Laws.BytesArg
import Derived.RangeFuncNested
import Derived.RangeFuncLeaves
import Derived.RangeFuncBound
import Derived.Maps.AppendAt
import Derived.Maps.Range
import Derived.OneCell
import Derived.WalkSpells
import Derived.Deep.QuietTactic
import Derived.BigQuiet
import Derived.Test.YtclgjolplobdbaaProg
/-
  Plain arithmetic for the layer of words: the four bytes of a word, a word out of four bytes, and that 'or' of parts that do not overlap is their sum. No condition but the bounds that each lemma names.
-/
namespace Go.Proofs.Ytclgjolplobdbaa
open Go.RowKit

theorem ret_int {k : IntKind} {a b : Int} (h : a = b) : Ending.returned (.int k a) = .returned (.int k b) := by rw [h]

/-- The number at a place of a list (0 behind its end). -/
def nth (zs : List Int) (k : Nat) : Int := zs.getD k 0

/-- The byte of a word at a place. -/
def byt (x : Int) (p : Nat) : Int := x / 256 ^ p % 256

theorem byt_lo (x : Int) (p : Nat) : 0 ≤ byt x p := Int.emod_nonneg _ (by decide)
theorem byt_hi (x : Int) (p : Nat) : byt x p < 256 := Int.emod_lt_of_pos _ (by decide)

/-- A byte at a place of a word. -/
def plc (c : Int) (p : Nat) : Int := c * 256 ^ p

theorem or_u32 (a b s : Nat) (hb : b < 2 ^ s) (h : a * 2 ^ s + b < 4294967296) : bits .or .u32 ((a * 2 ^ s : Nat) : Int) (b : Int) = ((a * 2 ^ s + b : Nat) : Int) := by
  rw [u32_or_nat _ _ (by omega) (by omega), ← Nat.shiftLeft_eq, Nat.shiftLeft_add_eq_or_of_lt hb]

theorem or_u32' (a b s : Nat) (hb : b < 2 ^ s) (h : a * 2 ^ s + b < 4294967296) : bits .or .u32 (b : Int) ((a * 2 ^ s : Nat) : Int) = ((a * 2 ^ s + b : Nat) : Int) := by
  rw [u32_or_nat _ _ (by omega) (by omega), Nat.or_comm, ← Nat.shiftLeft_eq, Nat.shiftLeft_add_eq_or_of_lt hb]

/-- High first: the low part comes to it. -/
theorem or_high (a b : Int) (s : Nat) (ha : 0 ≤ a) (hb0 : 0 ≤ b) (hb : b < 2 ^ s) (h : a * 2 ^ s + b < 4294967296) : bits .or .u32 (a * 2 ^ s) b = a * 2 ^ s + b := by
  obtain ⟨m, rfl⟩ := Int.eq_ofNat_of_zero_le ha
  obtain ⟨n, rfl⟩ := Int.eq_ofNat_of_zero_le hb0
  have e : ((m : Int) * 2 ^ s) = ((m * 2 ^ s : Nat) : Int) := by simp
  rw [e] at h ⊢
  rw [or_u32 m n s (by have : ((n : Nat) : Int) < ((2 ^ s : Nat) : Int) := by simpa using hb
                       omega) (by omega)]
  simp

/-- Low first: the high part comes to it. -/
theorem or_low (a b : Int) (s : Nat) (ha : 0 ≤ a) (hb0 : 0 ≤ b) (hb : b < 2 ^ s) (h : a * 2 ^ s + b < 4294967296) : bits .or .u32 b (a * 2 ^ s) = b + a * 2 ^ s := by
  obtain ⟨m, rfl⟩ := Int.eq_ofNat_of_zero_le ha
  obtain ⟨n, rfl⟩ := Int.eq_ofNat_of_zero_le hb0
  have e : ((m : Int) * 2 ^ s) = ((m * 2 ^ s : Nat) : Int) := by simp
  rw [e] at h ⊢
  rw [or_u32' m n s (by have : ((n : Nat) : Int) < ((2 ^ s : Nat) : Int) := by simpa using hb
                        omega) (by omega)]
  simp; omega

theorem or_zero (b : Int) (hb0 : 0 ≤ b) (hb : b < 4294967296) : bits .or .u32 0 b = b := by
  have := or_high 0 b 32 (by omega) hb0 (by omega) (by omega)
  simpa using this

/-- The word turned round. -/
def turnI (x : Int) : Int := byt x 0 * 16777216 + byt x 1 * 65536 + byt x 2 * 256 + byt x 3

theorem byt0 (x : Int) : byt x 0 = x % 256 := by simp [byt]
theorem byt1 (x : Int) : byt x 1 = x / 256 % 256 := by simp [byt]
theorem byt2 (x : Int) : byt x 2 = x / 65536 % 256 := by simp [byt]
theorem byt3 (x : Int) : byt x 3 = x / 16777216 % 256 := by simp [byt]

theorem turnI_lo (x : Int) : 0 ≤ turnI x := by
  have := byt_lo x 0; have := byt_lo x 1; have := byt_lo x 2; have := byt_lo x 3
  unfold turnI; omega
theorem turnI_hi (x : Int) : turnI x < 4294967296 := by
  have := byt_hi x 0; have := byt_hi x 1; have := byt_hi x 2; have := byt_hi x 3
  unfold turnI; omega
theorem turnI_byt0 (x : Int) : byt (turnI x) 0 = byt x 3 := by
  have := byt_lo x 0; have := byt_lo x 1; have := byt_lo x 2; have := byt_lo x 3
  have := byt_hi x 0; have := byt_hi x 1; have := byt_hi x 2; have := byt_hi x 3
  rw [byt0 (turnI x)]; unfold turnI; omega
theorem turnI_byt1 (x : Int) : byt (turnI x) 1 = byt x 2 := by
  have := byt_lo x 0; have := byt_lo x 1; have := byt_lo x 2; have := byt_lo x 3
  have := byt_hi x 0; have := byt_hi x 1; have := byt_hi x 2; have := byt_hi x 3
  rw [byt1 (turnI x)]; unfold turnI; omega
theorem turnI_byt2 (x : Int) : byt (turnI x) 2 = byt x 1 := by
  have := byt_lo x 0; have := byt_lo x 1; have := byt_lo x 2; have := byt_lo x 3
  have := byt_hi x 0; have := byt_hi x 1; have := byt_hi x 2; have := byt_hi x 3
  rw [byt2 (turnI x)]; unfold turnI; omega
theorem turnI_byt3 (x : Int) : byt (turnI x) 3 = byt x 0 := by
  have := byt_lo x 0; have := byt_lo x 1; have := byt_lo x 2; have := byt_lo x 3
  have := byt_hi x 0; have := byt_hi x 1; have := byt_hi x 2; have := byt_hi x 3
  rw [byt3 (turnI x)]; unfold turnI; omega

/-- A word is its four bytes. -/
theorem of_byt (x : Int) (h0 : 0 ≤ x) (h1 : x < 4294967296) : byt x 0 + byt x 1 * 256 + byt x 2 * 65536 + byt x 3 * 16777216 = x := by
  rw [byt0, byt1, byt2, byt3]; omega

theorem turnI_turnI (x : Int) (h0 : 0 ≤ x) (h1 : x < 4294967296) : turnI (turnI x) = x := by
  have e : turnI (turnI x) = byt (turnI x) 0 * 16777216 + byt (turnI x) 1 * 65536 + byt (turnI x) 2 * 256 + byt (turnI x) 3 := rfl
  rw [e, turnI_byt0, turnI_byt1, turnI_byt2, turnI_byt3]
  have := of_byt x h0 h1
  omega

theorem plc0 (c : Int) : plc c 0 = c := by simp [plc]
theorem plc1 (c : Int) : plc c 1 = c * 256 := by simp [plc]
theorem plc2 (c : Int) : plc c 2 = c * 65536 := by simp [plc]
theorem plc3 (c : Int) : plc c 3 = c * 16777216 := by simp [plc]

/-- The four parts put together, the highest first. -/
theorem or_four_high (a b c d : Int) (a0 : 0 ≤ a) (a1 : a < 256) (b0 : 0 ≤ b) (b1 : b < 256) (c0 : 0 ≤ c) (c1 : c < 256) (d0 : 0 ≤ d) (d1 : d < 256) :
    bits .or .u32 (bits .or .u32 (bits .or .u32 (bits .or .u32 0 (plc a 3)) (plc b 2)) (plc c 1)) (plc d 0) = a * 16777216 + b * 65536 + c * 256 + d := by
  rw [plc0, plc1, plc2, plc3, or_zero _ (by omega) (by omega)]
  have e1 := or_high a (b * 65536) 24 a0 (by omega) (by omega) (by omega)
  have e2 := or_high (a * 256 + b) (c * 256) 16 (by omega) (by omega) (by omega) (by omega)
  have e3 := or_high (a * 65536 + b * 256 + c) d 8 (by omega) (by omega) (by omega) (by omega)
  rw [show (a * 2 ^ 24 : Int) = a * 16777216 by omega] at e1
  rw [show ((a * 256 + b) * 2 ^ 16 : Int) = a * 16777216 + b * 65536 by omega] at e2
  rw [show ((a * 65536 + b * 256 + c) * 2 ^ 8 : Int) = a * 16777216 + b * 65536 + c * 256 by omega] at e3
  rw [e1, e2, e3]

/-! ### lists of words and bytes -/

/-- A word's four bytes. -/
def four (x : Int) : List Int := [byt x 0, byt x 1, byt x 2, byt x 3]
/-- The bytes of words. -/
def joinL (zs : List Int) : List Int := zs.flatMap four

theorem four_len (x : Int) : (four x).length = 4 := rfl
theorem joinL_len (zs : List Int) : (joinL zs).length = 4 * zs.length := by
  induction zs with
  | nil => rfl
  | cons z zs ih => simp only [joinL, List.flatMap_cons, List.length_append, four_len, List.length_cons] at ih ⊢; omega
theorem take_snoc (zs : List Int) (k : Nat) (h : k < zs.length) : zs.take (k + 1) = zs.take k ++ [nth zs k] := by
  rw [List.take_succ_eq_append_getElem h]; simp [nth, List.getD, h]
theorem joinL_snoc (zs : List Int) (k : Nat) (h : k < zs.length) : joinL (zs.take (k + 1)) = joinL (zs.take k) ++ four (nth zs k) := by
  rw [take_snoc zs k h]; simp [joinL]
theorem four_snoc (x : Int) (p : Nat) (h : p < 4) : (four x).take (p + 1) = (four x).take p ++ [byt x p] := by
  match p, h with
  | 0, _ => rfl
  | 1, _ => rfl
  | 2, _ => rfl
  | 3, _ => rfl
theorem four_whole (x : Int) : (four x).take 4 = four x := rfl

/-- What can be read of a slice of integers: each of its cells, in a block that is there. -/
def View (k : IntKind) (w : World) (a : Option Addr) (zs : List Int) : Prop :=
  ∀ j, j < zs.length → ∃ b off, a = some ⟨b, off, none⟩ ∧ b < w.heap.size ∧ w.cell? ⟨b, off + j, none⟩ = some (.int k (nth zs j))

/-- Every number lies in 0 to m - 1. -/
def Within (m : Int) (zs : List Int) : Prop := ∀ z ∈ zs, 0 ≤ z ∧ z < m

theorem Within.at {m : Int} {zs : List Int} (h : Within m zs) {k : Nat} (hk : k < zs.length) : 0 ≤ nth zs k ∧ nth zs k < m := by
  have e : nth zs k = zs[k] := by simp [nth, List.getD, hk]
  rw [e]; exact h _ (List.getElem_mem hk)

theorem View.below {k : IntKind} {w w' : World} {a : Option Addr} {zs : List Int} (h : View k w a zs) (hb : Below w.heap.size w w') : View k w' a zs := by
  intro j hj
  obtain ⟨b, off, e, hlt, hc⟩ := h j hj
  exact ⟨b, off, e, Nat.lt_of_lt_of_le hlt hb.size, (hb.cell (p := ⟨b, off + j, none⟩) hlt).trans hc⟩

theorem bel_drewN {B : Nat} {a w : World} (h : Below B a w) (n : Nat) : Below B a (w.drewN n) := h.trans ⟨rfl, rfl, rfl, Nat.le_refl _, fun _ _ => rfl⟩

/-- What the call owns can be read. -/
theorem View.ofRow {k : IntKind} {w : World} {B e g n cap : Nat} {zs : List Int} (h : w.ownsRow B e 1 (.slice (some ⟨g, 0, none⟩) n cap) n (zs.map (Value.int k))) (hl : zs.length = n) : View k w (some ⟨g, 0, none⟩) zs := by
  intro j hj
  have hc := h.cellAt j (by omega)
  have e : (zs.map (Value.int k))[j]? = some (.int k (nth zs j)) := by simp [nth, List.getD, hj]
  rw [e] at hc
  exact ⟨g, 0, rfl, World.block_lt_of_cell? _ _ hc, by rw [Nat.zero_add]; exact hc⟩

/-- What the call owns stays owned where nothing old has turned. -/
theorem own_below {w w' : World} {B e size n : Nat} {v : Value} {xs : List Value} (h : w.ownsRow B e size v n xs) (hb : Below w.heap.size w w') : w'.ownsRow B e size v n xs := by
  refine ⟨h.1, ?_⟩
  rcases h.2 with hn | ⟨g, cap, cur, rfl, hg, hgg, rest⟩
  · exact .inl hn
  · exact .inr ⟨g, cap, cur, rfl, hg, by rw [hb.block g (Array.getElem?_eq_some_iff.1 hgg).1]; exact hgg, rest⟩

theorem view_nil {k : IntKind} {w : World} {a : Option Addr} : View k w a [] := fun j hj => by simp at hj
theorem within_nil {m : Int} : Within m [] := fun z hz => by simp at hz
theorem within_take {m : Int} {zs : List Int} {n : Nat} (h : ∀ z ∈ zs, 0 ≤ z ∧ z < m) : Within m (zs.take n) := fun z hz => h z (List.mem_of_mem_take hz)
theorem view_take {k : IntKind} {w : World} {x : Addr} {zs : List Int} {n : Nat} (hcell : ∀ i, i < zs.length → w.cell? (x.add i) = some (.int k (nth zs i))) (hn : n ≤ zs.length) : View k w (some x) (zs.take n) := by
  intro j hj
  rw [List.length_take] at hj
  have hc0 := hcell 0 (by omega)
  have hc := hcell j (by omega)
  obtain ⟨b, off, spot⟩ := x
  have hs : spot = none := by simpa [Addr.add] using World.cell?_spot hc0
  subst hs
  have hc' : w.cell? ⟨b, off + j, none⟩ = some (.int k (nth zs j)) := by rw [← Addr.add_lit]; exact hc
  refine ⟨b, off, rfl, World.block_lt_of_cell? _ _ hc', ?_⟩
  rw [hc']
  simp [nth, List.getD, show j < n by omega]

/-! ### a row that is filled from its head on -/

/-- The first k numbers, and zeros up to n. -/
def filled (zs : List Int) (k n : Nat) : List Int := zs.take k ++ List.replicate (n - k) 0

theorem filled_len (zs : List Int) (k n : Nat) (hk : k ≤ n) (hz : k ≤ zs.length) : (filled zs k n).length = n := by
  simp only [filled, List.length_append, List.length_take, List.length_replicate]; omega
theorem filled_whole (zs : List Int) (n : Nat) (hz : zs.length = n) : filled zs n n = zs := by
  subst hz; simp [filled]
theorem filled_zero (zs : List Int) (n : Nat) : filled zs 0 n = List.replicate n 0 := by simp [filled]
theorem filled_at (zs : List Int) (k n : Nat) (hk : k < n) (hz : k ≤ zs.length) : (filled zs k n)[k]? = some 0 := by
  have e : (zs.take k).length = k := by rw [List.length_take]; omega
  rw [filled, List.getElem?_append_right (by omega), e, Nat.sub_self]
  simp [show 0 < n - k by omega]
theorem filled_set (zs : List Int) (k n : Nat) (hk : k < n) (hz : k < zs.length) : (filled zs k n).set k (nth zs k) = filled zs (k + 1) n := by
  have e : (zs.take k).length = k := by rw [List.length_take]; omega
  rw [filled, filled, List.set_append_right _ _ (by omega), e, Nat.sub_self, take_snoc zs k hz, List.append_assoc]
  congr 1
  rw [show n - k = (n - (k + 1)) + 1 by omega, List.replicate_succ]
  simp

/-- A row that 'make' has just laid holds zeros. -/
theorem made_row {w : World} {B e : Nat} {v : Value} {n : Nat} {k : IntKind} (zs : List Int) (h : w.ownsRow B e 1 v n (madeCells #[Value.int k 0] n).toList) : w.ownsRow B e 1 v n ((filled zs 0 n).map (Value.int k)) := by
  have e1 : (madeCells #[Value.int k 0] n).toList = (filled zs 0 n).map (Value.int k) := by
    rw [filled_zero, List.map_replicate]
    exact toList_madeCells_one (.int k 0) n
  rw [← e1]; exact h

/-- A store into the row at the place that comes next. -/
theorem fill_step {w : World} {B e g n : Nat} {k : IntKind} {zs : List Int} {i : Nat} (h : w.ownsRow B e 1 (.slice (some ⟨g, 0, none⟩) n n) n ((filled zs i n).map (Value.int k))) (hi : i < n) (hz : i < zs.length) :
    w.cell? ⟨g, i, none⟩ = some (.int k 0) ∧ w.frozen? ⟨g, i, none⟩ = false ∧ (w.setCell ⟨g, i, none⟩ (.int k (nth zs i))).ownsRow B e 1 (.slice (some ⟨g, 0, none⟩) n n) n ((filled zs (i + 1) n).map (Value.int k)) := by
  refine ⟨?_, h.frozenAt i, ?_⟩
  · rw [h.cellAt i (by omega), List.getElem?_map, filled_at zs i n hi (by omega)]; rfl
  · have := h.stored i (.int k (nth zs i))
    rw [← List.map_set, filled_set zs i n hi hz] at this
    exact this.1

theorem getD_left (xs ys : List Int) (k : Nat) (h : k < xs.length) : nth (xs ++ ys) k = nth xs k := by
  simp [nth, List.getD, List.getElem?_append_left h]
theorem getD_right (xs ys : List Int) (k : Nat) (h : xs.length ≤ k) : nth (xs ++ ys) k = nth ys (k - xs.length) := by
  simp [nth, List.getD, List.getElem?_append_right h]

/-- The k-th byte of words. -/
theorem joinL_getD (zs : List Int) (k : Nat) (h : k < 4 * zs.length) : nth (joinL zs) k = byt (nth zs (k / 4)) (k % 4) := by
  induction zs generalizing k with
  | nil => simp at h
  | cons z zs ih =>
    simp only [List.length_cons] at h
    have e : joinL (z :: zs) = four z ++ joinL zs := rfl
    by_cases hk : k < 4
    · have e2 : k / 4 = 0 := by omega
      have e3 : k % 4 = k := by omega
      rw [e, e2, e3, getD_left _ _ _ (by rw [four_len]; exact hk)]
      match k, hk with
      | 0, _ => rfl
      | 1, _ => rfl
      | 2, _ => rfl
      | 3, _ => rfl
    · have e2 : k / 4 = (k - 4) / 4 + 1 := by omega
      have e3 : k % 4 = (k - 4) % 4 := by omega
      rw [e, e2, e3, getD_right _ _ _ (by rw [four_len]; omega), four_len, ih (k - 4) (by omega)]
      rfl

theorem div_pow_lo (X : Int) (j : Nat) (h0 : 0 ≤ X) : 0 ≤ X / 256 ^ j := Int.ediv_nonneg h0 (Int.le_of_lt (Int.pow_pos (by decide)))
theorem div_pow_hi (X : Int) (j : Nat) (m : Int) (h0 : 0 ≤ X) (h : X < m) : X / 256 ^ j < m := by
  have := Int.ediv_le_self (256 ^ j) h0
  omega
theorem div_pow_succ (X : Int) (j : Nat) : X / 256 ^ j / 256 = X / 256 ^ (j + 1) := by
  rw [Int.pow_succ, Int.ediv_ediv_of_nonneg (Int.le_of_lt (Int.pow_pos (by decide)))]

theorem row_one {x : Int} {k : IntKind} {w : World} {b : Nat} (h : w.cell? ⟨b, 0, none⟩ = some (.int k x)) : View k w (some ⟨b, 0, none⟩) [x] := by
  intro j hj
  obtain rfl : j = 0 := by simp at hj; exact hj
  exact ⟨b, 0, rfl, World.block_lt_of_cell? _ _ h, by simpa [nth] using h⟩

theorem within_one {m x : Int} (h0 : 0 ≤ x) (h1 : x < m) : Within m [x] := by
  intro z hz; simp at hz; subst hz; exact ⟨h0, h1⟩

/-! ### bytes to words -/

/-- The word out of the bytes from 4 k on. -/
def wordAt (zs : List Int) (k : Nat) : Int := nth zs (4 * k) + nth zs (4 * k + 1) * 256 + nth zs (4 * k + 2) * 65536 + nth zs (4 * k + 3) * 16777216
/-- The words of bytes. -/
def splitL (zs : List Int) : List Int := (List.range (zs.length / 4)).map (wordAt zs)
/-- The error of bytes that are to be parted into words. -/
def splitErr (zs : List Int) : Int := if 4194304 < zs.length then 4 else if zs.length % 4 = 0 then 0 else 10
/-- The words that are answered: none beside an error. -/
def splitOut (zs : List Int) : List Int := if splitErr zs = 0 then splitL zs else []

theorem nth_range (f : Nat → Int) (n k : Nat) (h : k < n) : nth ((List.range n).map f) k = f k := by
  simp [nth, List.getD, h]
theorem splitL_len (zs : List Int) : (splitL zs).length = zs.length / 4 := by simp [splitL]
theorem nth_splitL (zs : List Int) (k : Nat) (h : k < zs.length / 4) : nth (splitL zs) k = wordAt zs k := nth_range _ _ _ h

theorem splitErr_large (zs : List Int) (h : 4194304 < zs.length) : splitErr zs = 4 := by simp [splitErr, h]
theorem splitErr_odd (zs : List Int) (h : ¬ 4194304 < zs.length) (h2 : ¬ zs.length % 4 = 0) : splitErr zs = 10 := by simp [splitErr, h, h2]
theorem splitErr_ok (zs : List Int) (h : ¬ 4194304 < zs.length) (h2 : zs.length % 4 = 0) : splitErr zs = 0 := by simp [splitErr, h, h2]
theorem splitOut_large (zs : List Int) (h : 4194304 < zs.length) : splitOut zs = [] := by rw [splitOut, splitErr_large zs h]; rfl
theorem splitOut_odd (zs : List Int) (h : ¬ 4194304 < zs.length) (h2 : ¬ zs.length % 4 = 0) : splitOut zs = [] := by rw [splitOut, splitErr_odd zs h h2]; rfl
theorem splitOut_ok (zs : List Int) (h : ¬ 4194304 < zs.length) (h2 : zs.length % 4 = 0) : splitOut zs = splitL zs := by rw [splitOut, splitErr_ok zs h h2]; rfl

/-- Word k when the first i bytes have been put to their places. -/
def partW (zs : List Int) (i k : Nat) : Int :=
  (if 4 * k < i then nth zs (4 * k) else 0) + (if 4 * k + 1 < i then nth zs (4 * k + 1) * 256 else 0) + (if 4 * k + 2 < i then nth zs (4 * k + 2) * 65536 else 0) + (if 4 * k + 3 < i then nth zs (4 * k + 3) * 16777216 else 0)
/-- The row then. -/
def partL (zs : List Int) (i n : Nat) : List Int := (List.range n).map (partW zs i)

theorem partL_len (zs : List Int) (i n : Nat) : (partL zs i n).length = n := by simp [partL]
theorem partL_zero (zs ys : List Int) (n : Nat) : partL zs 0 n = filled ys 0 n := by
  rw [filled_zero]
  apply List.ext_getElem? 
  intro k
  by_cases hk : k < n
  · simp [partL, partW, hk]
  · simp [partL, hk]
theorem partL_whole (zs : List Int) (h : zs.length % 4 = 0) : partL zs zs.length (zs.length / 4) = splitL zs := by
  unfold partL splitL
  apply List.map_congr_left
  intro k hk
  have hk' : k < zs.length / 4 := List.mem_range.1 hk
  unfold partW wordAt
  rw [if_pos (by omega), if_pos (by omega), if_pos (by omega), if_pos (by omega)]
theorem partW_other (zs : List Int) (i k : Nat) (h : k ≠ i / 4) : partW zs (i + 1) k = partW zs i k := by
  unfold partW
  have h0 : (4 * k < i + 1) = (4 * k < i) := by apply propext; omega
  have h1 : (4 * k + 1 < i + 1) = (4 * k + 1 < i) := by apply propext; omega
  have h2 : (4 * k + 2 < i + 1) = (4 * k + 2 < i) := by apply propext; omega
  have h3 : (4 * k + 3 < i + 1) = (4 * k + 3 < i) := by apply propext; omega
  simp only [h0, h1, h2, h3]
theorem partL_set (zs : List Int) (i n : Nat) : (partL zs i n).set (i / 4) (partW zs (i + 1) (i / 4)) = partL zs (i + 1) n := by
  apply List.ext_getElem?
  intro k
  rw [List.getElem?_set]
  by_cases hk : k < n
  · by_cases e : i / 4 = k
    · subst e; simp [partL, hk]
    · simp [partL, hk, e, partW_other zs i k (fun h => e h.symm)]
  · by_cases e : i / 4 = k
    · subst e; simp [partL, hk]
    · simp [partL, hk, e]

/-- The byte that comes next is put to its place. -/
theorem partW_step (zs : List Int) (i : Nat) (hw : Within 256 zs) (hi : i < zs.length) :
    bits .or .u32 (partW zs i (i / 4)) (plc (nth zs i) (i % 4)) = partW zs (i + 1) (i / 4) := by
  have hc := hw.at hi
  rcases (show i % 4 = 0 ∨ i % 4 = 1 ∨ i % 4 = 2 ∨ i % 4 = 3 by omega) with e | e | e | e
  · have e0 : 4 * (i / 4) = i := by omega
    rw [e, plc0]; unfold partW
    rw [if_neg (by omega), if_neg (by omega), if_neg (by omega), if_neg (by omega), if_pos (by omega), if_neg (by omega), if_neg (by omega), if_neg (by omega), e0]
    have := or_zero (nth zs i) hc.1 (by omega)
    simpa using this
  · have e0 : 4 * (i / 4) + 1 = i := by omega
    have b0 := hw.at (k := 4 * (i / 4)) (by omega)
    rw [e, plc1]; unfold partW
    rw [if_pos (by omega), if_neg (by omega), if_neg (by omega), if_neg (by omega), if_pos (by omega), if_pos (by omega), if_neg (by omega), if_neg (by omega), e0]
    have := or_low (nth zs i) (nth zs (4 * (i / 4))) 8 hc.1 b0.1 (by omega) (by omega)
    rw [show ((nth zs i) * 2 ^ 8 : Int) = nth zs i * 256 by omega] at this
    simpa using this
  · have e0 : 4 * (i / 4) + 2 = i := by omega
    have b0 := hw.at (k := 4 * (i / 4)) (by omega)
    have b1 := hw.at (k := 4 * (i / 4) + 1) (by omega)
    rw [e, plc2]; unfold partW
    rw [if_pos (by omega), if_pos (by omega), if_neg (by omega), if_neg (by omega), if_pos (by omega), if_pos (by omega), if_pos (by omega), if_neg (by omega), e0]
    have := or_low (nth zs i) (nth zs (4 * (i / 4)) + nth zs (4 * (i / 4) + 1) * 256) 16 hc.1 (by omega) (by omega) (by omega)
    rw [show ((nth zs i) * 2 ^ 16 : Int) = nth zs i * 65536 by omega] at this
    simpa using this
  · have e0 : 4 * (i / 4) + 3 = i := by omega
    have b0 := hw.at (k := 4 * (i / 4)) (by omega)
    have b1 := hw.at (k := 4 * (i / 4) + 1) (by omega)
    have b2 := hw.at (k := 4 * (i / 4) + 2) (by omega)
    rw [e, plc3]; unfold partW
    rw [if_pos (by omega), if_pos (by omega), if_pos (by omega), if_neg (by omega), if_pos (by omega), if_pos (by omega), if_pos (by omega), if_pos (by omega), e0]
    have := or_low (nth zs i) (nth zs (4 * (i / 4)) + nth zs (4 * (i / 4) + 1) * 256 + nth zs (4 * (i / 4) + 2) * 65536) 24 hc.1 (by omega) (by omega) (by omega)
    rw [show ((nth zs i) * 2 ^ 24 : Int) = nth zs i * 16777216 by omega] at this
    simpa using this

theorem partW_bounds (zs : List Int) (i k : Nat) (hw : Within 256 zs) (h : 4 * k + 4 ≤ zs.length) : 0 ≤ partW zs i k ∧ partW zs i k < 4294967296 := by
  have b0 := hw.at (k := 4 * k) (by omega)
  have b1 := hw.at (k := 4 * k + 1) (by omega)
  have b2 := hw.at (k := 4 * k + 2) (by omega)
  have b3 := hw.at (k := 4 * k + 3) (by omega)
  unfold partW
  split <;> split <;> split <;> split <;> omega
theorem wordAt_bounds (zs : List Int) (k : Nat) (hw : Within 256 zs) (h : 4 * k + 4 ≤ zs.length) : 0 ≤ wordAt zs k ∧ wordAt zs k < 4294967296 := by
  have b0 := hw.at (k := 4 * k) (by omega)
  have b1 := hw.at (k := 4 * k + 1) (by omega)
  have b2 := hw.at (k := 4 * k + 2) (by omega)
  have b3 := hw.at (k := 4 * k + 3) (by omega)
  unfold wordAt; omega

/-- It lies in blocks from B on. -/
def NewAt (B : Nat) (a : Option Addr) : Prop := ∀ b off s, a = some ⟨b, off, s⟩ → B ≤ b
theorem newAt_none {B : Nat} : NewAt B none := fun b off s h => by simp at h
theorem newAt_mk {B b off : Nat} (h : B ≤ b) : NewAt B (some ⟨b, off, none⟩) := fun b' off' s e => by simp at e; omega

/-- A store into another block leaves a view as it was. -/
theorem View.setCell {k : IntKind} {w : World} {a : Option Addr} {zs : List Int} (h : View k w a zs) {B g j : Nat} (hn : NewAt B a) (hg : g < B) (u : Value) : View k (w.setCell ⟨g, j, none⟩ u) a zs := by
  intro i hi
  obtain ⟨b, off, rfl, hb, hc⟩ := h i hi
  have := hn b off none rfl
  refine ⟨b, off, rfl, by simpa [World.setCell] using hb, ?_⟩
  rw [← hc]
  exact World.cell?_of_block (w := w) (Below.heap_setCell w ⟨g, j, none⟩ u b (by simp; omega))

theorem cell_far {w : World} {g b : Nat} (h : b ≠ g) (j o : Nat) (u : Value) : (w.setCell ⟨g, j, none⟩ u).cell? ⟨b, o, none⟩ = w.cell? ⟨b, o, none⟩ :=
  World.cell?_of_block (w := w) (Below.heap_setCell w ⟨g, j, none⟩ u b (by simpa using h))

theorem within_set {m : Int} {zs : List Int} (h : Within m zs) {k : Nat} {u : Int} (h0 : 0 ≤ u) (h1 : u < m) : Within m (zs.set k u) := by
  intro z hz
  rcases List.mem_or_eq_of_mem_set hz with h' | h'
  · exact h z h'
  · subst h'; exact ⟨h0, h1⟩

end Go.Proofs.Ytclgjolplobdbaa

/-
  A frame as its slots: any frame of so many slots is the list of them.
-/
namespace Go.Proofs.Ytclgjolplobdbaa
open Go

theorem hide {p : Prop} (h : p) : Go.RowKit.Hid p := h
/-- What a slot holds. -/
def slot (t : Array Value) (i : Nat) : Value := t.getD i undef
theorem frame_eq (t : Array Value) (n : Nat) (h : t.size = n) : t = ((List.range n).map (slot t)).toArray := by
  apply Array.ext
  · simp [h]
  · intro i h1 h2
    simp [slot, Array.getD, h1]
theorem frame99 (t : Array Value) (h : t.size = 99) : t = #[slot t 0, slot t 1, slot t 2, slot t 3, slot t 4, slot t 5, slot t 6, slot t 7, slot t 8, slot t 9, slot t 10, slot t 11, slot t 12, slot t 13, slot t 14, slot t 15, slot t 16, slot t 17, slot t 18, slot t 19, slot t 20, slot t 21, slot t 22, slot t 23, slot t 24, slot t 25, slot t 26, slot t 27, slot t 28, slot t 29, slot t 30, slot t 31, slot t 32, slot t 33, slot t 34, slot t 35, slot t 36, slot t 37, slot t 38, slot t 39, slot t 40, slot t 41, slot t 42, slot t 43, slot t 44, slot t 45, slot t 46, slot t 47, slot t 48, slot t 49, slot t 50, slot t 51, slot t 52, slot t 53, slot t 54, slot t 55, slot t 56, slot t 57, slot t 58, slot t 59, slot t 60, slot t 61, slot t 62, slot t 63, slot t 64, slot t 65, slot t 66, slot t 67, slot t 68, slot t 69, slot t 70, slot t 71, slot t 72, slot t 73, slot t 74, slot t 75, slot t 76, slot t 77, slot t 78, slot t 79, slot t 80, slot t 81, slot t 82, slot t 83, slot t 84, slot t 85, slot t 86, slot t 87, slot t 88, slot t 89, slot t 90, slot t 91, slot t 92, slot t 93, slot t 94, slot t 95, slot t 96, slot t 97, slot t 98] := (frame_eq t 99 h).trans rfl

/-- What holds where a piece of code goes on. -/
def onNormal (K : Act → World → Prop) : Exit → Act → World → Prop
  | .normal, a, w => K a w
  | _, _, _ => False
theorem onNormal_normal (K : Act → World → Prop) (a : Act) (w : World) : onNormal K .normal a w = K a w := rfl
theorem wp_norm {P : Program} {c : Code} {Q : Exit → Act → World → Prop} {a : Act} {w : World} (h : c.wp P (onNormal (Q .normal)) a w) : c.wp P Q a w :=
  wp_mono h fun e a w h => by
    cases e with
    | normal => exact h
    | _ => exact False.elim h

end Go.Proofs.Ytclgjolplobdbaa

/-
  Plain arithmetic for the layer of words: a text at the front of words: where its end lies, and what stands behind it in its word.
-/
namespace Go.Proofs.Ytclgjolplobdbaa
open Go.RowKit

theorem rest_zero (X : Int) (P : Nat) (hP : P < 4) (h0 : 0 ≤ X) (h1 : X < 4294967296) : X / 256 ^ P = 0 ↔ ∀ q, P ≤ q → q < 4 → byt X q = 0 := by
  rcases (show P = 0 ∨ P = 1 ∨ P = 2 ∨ P = 3 by omega) with rfl | rfl | rfl | rfl
  · constructor
    · intro h q _ hq
      have h' : X = 0 := by simpa using h
      subst h'; simp [byt]
    · intro h
      have a := h 0 (by omega) (by omega); have b := h 1 (by omega) (by omega); have c := h 2 (by omega) (by omega); have d := h 3 (by omega) (by omega)
      rw [byt0] at a; rw [byt1] at b; rw [byt2] at c; rw [byt3] at d
      simp; omega
  · constructor
    · intro h q hq hq4
      have h' : X / 256 = 0 := by simpa using h
      rcases (show q = 1 ∨ q = 2 ∨ q = 3 by omega) with rfl | rfl | rfl
      · rw [byt1]; omega
      · rw [byt2]; omega
      · rw [byt3]; omega
    · intro h
      have b := h 1 (by omega) (by omega); have c := h 2 (by omega) (by omega); have d := h 3 (by omega) (by omega)
      rw [byt1] at b; rw [byt2] at c; rw [byt3] at d
      simp; omega
  · constructor
    · intro h q hq hq4
      have h' : X / 65536 = 0 := by simpa using h
      rcases (show q = 2 ∨ q = 3 by omega) with rfl | rfl
      · rw [byt2]; omega
      · rw [byt3]; omega
    · intro h
      have c := h 2 (by omega) (by omega); have d := h 3 (by omega) (by omega)
      rw [byt2] at c; rw [byt3] at d
      simp; omega
  · constructor
    · intro h q hq hq4
      have h' : X / 16777216 = 0 := by simpa using h
      obtain rfl : q = 3 := by omega
      rw [byt3]; omega
    · intro h
      have d := h 3 (by omega) (by omega)
      rw [byt3] at d
      simp; omega

/-- The first place at which a list has a 0, or its length. -/
theorem first_zero (js : List Int) (n : Nat) : ∃ N, N ≤ n ∧ (∀ i, i < N → nth js i ≠ 0) ∧ (N < n → nth js N = 0) := by
  induction n with
  | zero => exact ⟨0, Nat.le_refl _, fun i hi => by omega, fun h => by omega⟩
  | succ n ih =>
    obtain ⟨N, h1, h2, h3⟩ := ih
    by_cases hN : N < n
    · exact ⟨N, by omega, h2, fun _ => h3 hN⟩
    · obtain rfl : N = n := by omega
      by_cases hz : nth js N = 0
      · exact ⟨N, by omega, h2, fun _ => hz⟩
      · refine ⟨N + 1, by omega, fun i hi => ?_, fun h => by omega⟩
        by_cases e : i = N
        · subst e; exact hz
        · exact h2 i (by omega)

theorem joinL_take (zs : List Int) (k : Nat) : joinL (zs.take k) = (joinL zs).take (4 * k) := by
  induction zs generalizing k with
  | nil => simp [joinL]
  | cons z zs ih =>
    cases k with
    | zero => rfl
    | succ k =>
      have e1 : joinL ((z :: zs).take (k + 1)) = four z ++ joinL (zs.take k) := rfl
      have e2 : joinL (z :: zs) = four z ++ joinL zs := rfl
      rw [e1, e2, ih, show 4 * (k + 1) = 4 * k + 4 by omega]
      rfl

theorem nth_take (zs : List Int) (k n : Nat) (h : k < n) : nth (zs.take n) k = nth zs k := by
  simp [nth, List.getD, h]

theorem View.take {k : IntKind} {w : World} {a : Option Addr} {zs : List Int} (h : View k w a zs) (n : Nat) : View k w a (zs.take n) := by
  intro j hj
  rw [List.length_take] at hj
  obtain ⟨b, off, e, hb, hc⟩ := h j (by omega)
  exact ⟨b, off, e, hb, by rw [hc, nth_take _ _ _ (by omega)]⟩

theorem within_of_take {m : Int} {zs : List Int} {n : Nat} (h : Within m zs) : Within m (zs.take n) := fun z hz => h z (List.mem_of_mem_take hz)

end Go.Proofs.Ytclgjolplobdbaa

/-
  A range over a function whose iterator hands out what it has just made: what is asked of such an iterator ('Tells'), and what a loop over it comes to ('wp_tells'). V: what holds of a thing that is told, in the world in which it is told; what a round keeps is said by Kept: what lay below n₀, and every box of a type of τ. The calls' fence is the wide one.
-/
namespace Go.Proofs.Ytclgjolplobdbaa
open Go.RowKit
set_option linter.unusedVariables false

/-- Every block of cells of a type of τ lies as it lay. -/
def KeptT (τ : TypeId → Prop) (A B : World) : Prop := ∀ (k : Nat) (cs : Array Value) (t : TypeId) (fr : Nat × Nat), τ t → A.heap[k]? = some (.cells cs t fr) → B.heap[k]? = some (.cells cs t fr)

theorem KeptT.refl (τ : TypeId → Prop) (A : World) : KeptT τ A A := fun _ _ _ _ _ h => h
theorem KeptT.trans {τ : TypeId → Prop} {A B C : World} (h : KeptT τ A B) (k : KeptT τ B C) : KeptT τ A C := fun i cs t fr ht hi => k i cs t fr ht (h i cs t fr ht hi)
theorem KeptT.none {A B : World} : KeptT (fun _ => False) A B := fun _ _ _ _ h _ => h.elim
theorem KeptT.of_grownBy {τ : TypeId → Prop} {A B : World} {row : Option Nat} (hg : A.grownBy B row) (hr : ∀ (j : Nat) (cs : Array Value) (t : TypeId) (fr : Nat × Nat), row = some j → A.heap[j]? = some (.cells cs t fr) → ¬ τ t) : KeptT τ A B := fun k cs t fr ht hk => by
  refine (hg.block k (Array.getElem?_eq_some_iff.1 hk).1 (fun e => ?_)).trans hk
  exact hr k cs t fr e.symm hk ht
theorem KeptT.of_below {τ : TypeId → Prop} {A B : World} (h : Below A.heap.size A B) : KeptT τ A B := fun k cs t fr _ hk => (h.block k (Array.getElem?_eq_some_iff.1 hk).1).trans hk

theorem KeptT.row {τ : TypeId → Prop} {A B : World} {b e size n : Nat} {v : Value} {xs : List Value} (h : A.ownsRow b e size v n xs) (hg : A.grownBy B v.ownBlock) (hne : ¬ τ e) : KeptT τ A B := KeptT.of_grownBy hg fun j cs t fr ej hj => by
  rcases h.2 with ⟨h1, _⟩ | ⟨g, c, cur, h1, _, h3, _⟩
  · rw [h1] at ej; simp [Value.ownBlock] at ej
  · rw [h1] at ej; simp [Value.ownBlock] at ej; subst ej
    rw [h3] at hj; cases hj; exact hne
theorem KeptT.setCell {τ : TypeId → Prop} {A : World} {b : Nat} {cs : Array Value} {t : TypeId} {fr : Nat × Nat} (h : A.heap[b]? = some (.cells cs t fr)) (hne : ¬ τ t) (j : Nat) (v : Value) : KeptT τ A (A.setCell ⟨b, j, Option.none⟩ v) := fun k cs' t' fr' ht hk => by
  refine (Below.heap_setCell A ⟨b, j, Option.none⟩ v k (fun e => ?_)).trans hk
  simp only at e
  subst e
  rw [h] at hk; cases hk; exact hne ht
theorem others_row {A B : World} {b e size n : Nat} {v : Value} {xs : List Value} (h : A.ownsRow b e size v n xs) (hg : A.grownBy B v.ownBlock) : KeepsOthers A B := KeepsOthers.of_grownBy hg fun j o ej hj => by
  rcases h.2 with ⟨h1, _⟩ | ⟨g, c, cur, h1, _, h3, _⟩
  · rw [h1] at ej; simp [Value.ownBlock] at ej
  · rw [h1] at ej; simp [Value.ownBlock] at ej; subst ej
    rw [h3] at hj; cases hj; rfl

/-- What a round keeps that goes on. -/
def Kept (n₀ : Nat) (τ : TypeId → Prop) (A B : World) : Prop := Below n₀ A B ∧ KeptT τ A B
theorem Kept.refl (n₀ : Nat) (τ : TypeId → Prop) (A : World) : Kept n₀ τ A A := ⟨Below.refl _ _, KeptT.refl _ _⟩
theorem Kept.trans {n₀ : Nat} {τ : TypeId → Prop} {A B C : World} (h : Kept n₀ τ A B) (k : Kept n₀ τ B C) : Kept n₀ τ A C := ⟨h.1.trans k.1, h.2.trans k.2⟩
/-- The turn of a record. -/
theorem Kept.putObj {n₀ : Nat} {τ : TypeId → Prop} (A : World) {l : Nat} {o : Obj} (o' : Obj) (hl : A.heap[l]? = some o) (ho : o.isCells = false) (hn : n₀ ≤ l) : Kept n₀ τ A (A.putObj l o') := by
  have hlt := (Array.getElem?_eq_some_iff.1 hl).1
  refine ⟨(Below.refl n₀ A).grown (grownBy_putObj' A l o') (by omega) (fun k e => by cases e; exact hn), KeptT.of_grownBy (grownBy_putObj' A l o') fun j cs t fr e hj => ?_⟩
  cases e
  rw [hl] at hj
  cases hj
  cases ho
theorem Kept.of_below {n₀ : Nat} {τ : TypeId → Prop} {A B : World} (h : Below A.heap.size A B) (hn : n₀ ≤ A.heap.size) : Kept n₀ τ A B := ⟨h.mono hn, KeptT.of_below h⟩

theorem grown_of_below {A B : World} (h : Below A.heap.size A B) (row : Option Nat) : A.grownBy B row := ⟨h.os, h.tape, h.output, h.size, fun k hk _ => h.block k hk⟩
theorem KeepsFrom.of_below {m : Nat} {A B : World} (h : Below A.heap.size A B) : KeepsFrom m A B := ⟨h.size, fun k o _ hk _ => (h.block k (Array.getElem?_eq_some_iff.1 hk).1).trans hk⟩
theorem KeepsFrom.mono {m m' : Nat} {A B : World} (h : KeepsFrom m A B) (hm : m ≤ m') : KeepsFrom m' A B := ⟨h.size, fun k o hk h1 h2 => h.same k o (Nat.le_trans hm hk) h1 h2⟩
theorem OwnFrom.below {β : Type} {B : Nat} {I : β → World → Prop} (h : OwnFrom B I) {s : β} {A C : World} (hs : I s A) (hb : Below A.heap.size A C) : I s C :=
  h s A C Option.none hs (grown_of_below hb _) (fun r e => by cases e)
theorem OwnFrom.mono {β : Type} {B B' : Nat} {I : β → World → Prop} (h : OwnFrom B I) (hB : B ≤ B') : OwnFrom B' I := fun s W W' row hs hg hr => h s W W' row hs hg (fun r e => ⟨Nat.le_trans hB (hr r e).1, (hr r e).2⟩)

/-- What is asked of an iterator's function. -/
def Tells {α : Type} (P : Program) (g : Nat) (lb : Array Value) (encs : α → Array Value) (V : List α → α → World → Prop) (n₀ : Nat) (τ : TypeId → Prop) (S Sp : List α → Prop) (w : World) : Prop :=
  ∀ (l : Nat) (J Jx : List α → World → Prop) (W : World), Below w.heap.size w W → OwnFrom W.heap.size J → OwnFrom W.heap.size Jx →
    (∀ pre x W1, J pre W1 → V pre x W1 → YieldAt Fence.wide 0 P l (encs x) W1 fun e W' =>
      KeepsFrom W.heap.size W1 W' ∧ ((e = .returned (.bool true) ∧ J (pre ++ [x]) W' ∧ Kept n₀ τ W1 W') ∨ (e = .returned (.bool false) ∧ Jx (pre ++ [x]) W'))) →
    J [] W →
    CallsIn Fence.wide 0 P g (#[.func (.yield l) #[] #[]] ++ lb) W fun e W' => (∃ v, e = .returned v) ∧ ((∃ xs, S xs ∧ J xs W') ∨ (∃ pre, Sp pre ∧ Jx pre W'))

/-- A loop over such an iterator. -/
theorem wp_tells {α : Type} {P : Program} {g : Operand} {ps : Array Tmp} {assign body : Code} {Q : Exit → Act → World → Prop} {a : Act} {w : World} {gf : Nat} {lb : Array Value}
    (hg : a.eval g = .func (.func gf) #[] lb) (eg : ∀ args w, (callFunc gf args).run P w = .ok (.enter gf args) w)
    {encs : α → Array Value} {V : List α → α → World → Prop} {n₀ : Nat} {τ : TypeId → Prop} {S Sp : List α → Prop} (hseq : Tells P gf lb encs V n₀ τ S Sp w) (hn : n₀ ≤ w.heap.size) (hps : ∀ x, (encs x).size = ps.size)
    (I : List α → World → Prop) (Ix : Code → List α → World → Prop) (hI : OwnFrom w.heap.size I) (hIx : ∀ c, OwnFrom w.heap.size (Ix c)) (h0 : I [] w)
    (Ax : List α → α → Act → World → Prop) (hAx : ∀ pre x a', OwnFrom w.heap.size (fun (_ : Unit) W => Ax pre x a' W))
    (hassign : ∀ (l : Nat) (pre : List α) (x : α) (W : World) (K : Act → World → Prop), I pre W → V pre x W → (∀ a' W', KeepsFrom w.heap.size W W' → Kept n₀ τ W W' → I pre W' → Ax pre x a' W' → K a' W') →
      assign.wpIn (Fence.wide.inRound l) 0 P (Exit.then K (fun _ _ _ => False)) { tmps := (ps.zip (encs x)).foldl (fun t (p, v) => t.setIfInBounds p v) a.tmps, defers := [] } W)
    (hbody : ∀ (l : Nat) (pre : List α) (x : α) (a' : Act) (W : World), w.heap.size ≤ l → (∃ r, W.heap[l]? = some (.loop r)) → I pre W → Ax pre x a' W → body.wpIn (Fence.wide.inRound l) 0 P (ownPostG w.heap.size (Kept n₀ τ) I Ix (pre ++ [x]) W) a' W)
    (hdone : ∀ (D : Nat) (xs : List α) (W : World), w.heap.size ≤ D → S xs → I xs W → W.heap[D]? = some (.deferred (some [])) → Q .normal { a with defers := { target := .collected D, args := #[] } :: a.defers } W)
    (hstop : ∀ (D : Nat) (c : Code) (pre : List α) (W : World), w.heap.size ≤ D → Sp pre → Ix c pre W → W.heap[D]? = some (.deferred (some [])) → c.wpIn Fence.wide 0 P Q { a with defers := { target := .collected D, args := #[] } :: a.defers } W) :
    (Code.rangeFunc g ps assign body).wpIn Fence.wide 0 P Q a w := by
  refine wpIn_rangeFunc fun fn hfn => ?_
  -- the block for deferred calls lies at D, the loop's record at D + 1
  generalize hD : w.heap.size = D at *
  let rec_ : LoopState → Option Code → Obj := fun st pe => .loop { state := st, pending := pe, fn, tmps := a.tmps, params := ps, assign, body, defers := D }
  have hrecC : ∀ st pe, (rec_ st pe).isCells = false := fun _ _ => rfl
  let W0 : World := (w.alloc (.deferred (some []))).alloc (rec_ .ready none)
  have hsz0 : W0.heap.size = D + 2 := by show ((w.alloc _).alloc _).heap.size = _; simp [hD]
  have hrun : (Instr.enterLoop fn a.tmps ps assign body Fence.wide.round).run P w = .ok (D + 1, [{ target := .collected D, args := #[] }]) W0 := by
    have := run_enterLoop_outer (P := P) (w := w) fn a.tmps ps assign body
    rw [hD] at this
    exact this
  have hrec0 : W0.heap[D + 1]? = some (rec_ .ready none) := by
    have := World.alloc_heap_new (w.alloc (.deferred (some []))) (rec_ .ready none)
    rw [World.size_alloc, hD] at this
    exact this
  have hdef0 : W0.heap[D]? = some (.deferred (some [])) := by
    have := World.alloc_heap_new w (.deferred (some []))
    rw [hD] at this
    exact (Below.heap_alloc _ _ _ (by simp [hD])).trans this
  have hbel0 : Below w.heap.size w W0 := ((Below.refl _ w).alloc (Nat.le_refl _) _).alloc (by simp) _
  refine ⟨D + 1, [{ target := .collected D, args := #[] }], W0, { target := .fn (.func gf) lb, args := #[.func (.yield (D + 1)) #[] #[]] }, W0, gf, #[.func (.yield (D + 1)) #[] #[]] ++ lb, W0, hrun, ?_, fun _ _ => trivial, ?_, (fun h => by cases h), ?_⟩
  · simp only [resolve, hg]; simp [go_sem]
  · simp [invoke, go_sem, eg]
  -- what holds between two rounds: the caller's word, and the two blocks of the loop
  have hnew : ∀ {k : Nat}, W0.heap.size ≤ k → D ≤ k ∧ k ≠ D + 1 ∧ k ≠ D := fun h => by rw [hsz0] at h; exact ⟨by omega, by omega, by omega⟩
  have stays : ∀ {A B : World} {row : Option Nat} {k : Nat} {o : Obj}, A.grownBy B row → (∀ r, row = some r → W0.heap.size ≤ r ∧ ∃ o : Obj, A.heap[r]? = some o ∧ o.isCells = false) → k < D + 2 → A.heap[k]? = some o → B.heap[k]? = some o := fun hgr hr hk h =>
    (hgr.block _ (Array.getElem?_eq_some_iff.1 h).1 (fun e => by have := (hr _ e.symm).1; rw [hsz0] at this; omega)).trans h
  refine (hseq (D + 1) (fun pre W => I pre W ∧ W.heap[D + 1]? = some (rec_ .ready none) ∧ W.heap[D]? = some (.deferred (some [])))
    (fun pre W => ∃ c, Ix c pre W ∧ W.heap[D + 1]? = some (rec_ .done (some c)) ∧ W.heap[D]? = some (.deferred (some []))) W0 hbel0 ?_ ?_ ?_ ⟨OwnFrom.below hI h0 hbel0, hrec0, hdef0⟩).mono ?_
  · intro s A B row hs hgr hr
    exact ⟨hI s A B row hs.1 hgr (fun r e => ⟨(hnew (hr r e).1).1, (hr r e).2⟩), stays hgr hr (by omega) hs.2.1, stays hgr hr (by omega) hs.2.2⟩
  · rintro s A B row ⟨c, hc, h1, h2⟩ hgr hr
    exact ⟨c, hIx c s A B row hc hgr (fun r e => ⟨(hnew (hr r e).1).1, (hr r e).2⟩), stays hgr hr (by omega) h1, stays hgr hr (by omega) h2⟩
  · -- a round
    rintro pre x W ⟨hi, hl, hk⟩ hV
    have hy := run_yield (P := P) (args := encs x) hl (hps x)
    refine ⟨fn, _, assign, body, hy, roundIn_of_wpIn hfn (hassign _ pre x W _ hi hV ?_)⟩
    intro a' Wa hkf hkp hia hax
    have hla := hkf.same _ _ (by omega) hl rfl
    have hka := hkf.same _ _ (Nat.le_refl _) hk rfl
    have hlt : D + 1 < Wa.heap.size := (Array.getElem?_eq_some_iff.1 hla).1
    refine ⟨_, run_beginRound hla rfl, ?_⟩
    have hlb : (Wa.putObj (D + 1) (rec_ .busy none)).heap[D + 1]? = some (rec_ .busy none) := World.putObj_heap_same hlt
    have hkb : (Wa.putObj (D + 1) (rec_ .busy none)).heap[D]? = some (.deferred (some [])) := (World.putObj_heap_other (by omega)).trans hka
    have kpb : Kept n₀ τ W (Wa.putObj (D + 1) (rec_ .busy none)) := hkp.trans (Kept.putObj Wa _ hla rfl (by omega))
    have put_from : ∀ (A : World) (o : Obj), KeepsFrom W0.heap.size A (A.putObj (D + 1) o) := fun A o => KeepsFrom.of_grownBy (grownBy_putObj' A (D + 1) o) (fun j e => by cases e; rw [hsz0]; omega)
    have kfb : KeepsFrom W0.heap.size W (Wa.putObj (D + 1) (rec_ .busy none)) := (KeepsFrom.mono hkf (by rw [hsz0]; omega)).trans (put_from Wa _)
    refine wpIn_mono (hbody _ pre x a' _ (by omega) ⟨_, hlb⟩ (hI.putObj _ hia (by omega) hla rfl) ((hAx pre x a').putObj (s := ()) _ hax (by omega) hla rfl)) ?_
    have leave : ∀ (j : Option Code) (W3 : World), KeepsFrom D (Wa.putObj (D + 1) (rec_ .busy none)) W3 →
        (Instr.endRound (D + 1) j).run P W3 = .ok (.bool j.isNone) (W3.putObj (D + 1) (rec_ (if j.isNone then .ready else .done) j)) ∧ W3.heap[D + 1]? = some (rec_ .busy none) ∧
        (W3.putObj (D + 1) (rec_ (if j.isNone then .ready else .done) j)).heap[D + 1]? = some (rec_ (if j.isNone then .ready else .done) j) ∧ (W3.putObj (D + 1) (rec_ (if j.isNone then .ready else .done) j)).heap[D]? = some (.deferred (some [])) ∧
        KeepsFrom W0.heap.size W (W3.putObj (D + 1) (rec_ (if j.isNone then .ready else .done) j)) := fun j W3 h3 => by
      have hl3 := h3.same _ _ (by omega) hlb rfl
      exact ⟨run_endRound (P := P) j hl3, hl3, World.putObj_heap_same (Array.getElem?_eq_some_iff.1 hl3).1, (World.putObj_heap_other (by omega)).trans (h3.same _ _ (Nat.le_refl _) hkb rfl),
        (kfb.trans (KeepsFrom.mono h3 (by rw [hsz0]; omega))).trans (put_from W3 _)⟩
    rintro e a3 W3 hp
    cases e with
    | normal =>
      obtain ⟨h3, kp3, hi3⟩ := hp
      obtain ⟨hr, hl3, hl4, hk4, kf4⟩ := leave none W3 h3
      exact ⟨_, _, hr, kf4, .inl ⟨rfl, ⟨hI.putObj _ hi3 (by omega) hl3 rfl, hl4, hk4⟩, (kpb.trans kp3).trans (Kept.putObj W3 _ hl3 rfl (by omega))⟩⟩
    | ret =>
      obtain ⟨h3, hi3⟩ := hp
      obtain ⟨hr, hl3, hl4, hk4, kf4⟩ := leave (some .ret) W3 h3
      exact ⟨_, _, hr, kf4, .inr ⟨rfl, .ret, (hIx _).putObj _ hi3 (by omega) hl3 rfl, hl4, hk4⟩⟩
    | exit id =>
      obtain ⟨h3, hi3⟩ := hp
      obtain ⟨hr, hl3, hl4, hk4, kf4⟩ := leave (some (.exit id)) W3 h3
      exact ⟨_, _, hr, kf4, .inr ⟨rfl, .exit id, (hIx _).putObj _ hi3 (by omega) hl3 rfl, hl4, hk4⟩⟩
    | goto t =>
      obtain ⟨h3, hi3⟩ := hp
      obtain ⟨hr, hl3, hl4, hk4, kf4⟩ := leave (some (.goto t)) W3 h3
      exact ⟨_, _, hr, kf4, .inr ⟨rfl, .goto t, (hIx _).putObj _ hi3 (by omega) hl3 rfl, hl4, hk4⟩⟩
    | panic ch => exact hp.elim
    | outgrown => exact hp.elim
  · -- behind the iterator's call
    rintro e W2 ⟨⟨v, rfl⟩, ⟨xs, hS, hi, hl, hk⟩ | ⟨pre, hSp, c, hi, hl, hk⟩⟩
    · exact ⟨none, _, run_endLoop (P := P) hl (by simp), hdone _ xs _ (Nat.le_refl _) hS (hI.putObj _ hi (by omega) hl rfl) ((World.putObj_heap_other (by omega)).trans hk)⟩
    · exact ⟨some c, _, run_endLoop (P := P) hl (by simp), hstop _ c pre _ (Nat.le_refl _) hSp ((hIx c).putObj _ hi (by omega) hl rfl) ((World.putObj_heap_other (by omega)).trans hk)⟩

end Go.Proofs.Ytclgjolplobdbaa

/-
  Boxes of one cell, and what lies below, over worlds that grow: small lemmas for loops over functions. No condition but what each names.
-/
namespace Go.Proofs.Ytclgjolplobdbaa
open Go.RowKit

theorem cellsStay {W W' : World} {row : Option Nat} {k B : Nat} {cs : Array Value} {t : TypeId} {fr : Nat × Nat} (h : W.heap[k]? = some (.cells cs t fr)) (hg : W.grownBy W' row) (hr : ∀ r, row = some r → B ≤ r ∧ ∃ o : Obj, W.heap[r]? = some o ∧ o.isCells = false) : W'.heap[k]? = some (.cells cs t fr) :=
  (hg.block k (Array.getElem?_eq_some_iff.1 h).1 (fun e => by
    obtain ⟨_, o, ho, hc⟩ := hr k e.symm
    rw [h] at ho; cases ho; cases hc)).trans h
theorem belowStay {n₀ : Nat} {w W W' : World} {row : Option Nat} {B : Nat} (h : Below n₀ w W) (hn : n₀ ≤ w.heap.size) (hB : n₀ ≤ B) (hg : W.grownBy W' row) (hr : ∀ r, row = some r → B ≤ r ∧ ∃ o : Obj, W.heap[r]? = some o ∧ o.isCells = false) : Below n₀ w W' :=
  h.grown hg (Nat.le_trans hn h.size) (fun k e => Nat.le_trans hB (hr k e).1)
theorem oneCell {w : World} {g T : Nat} {v : Value} (h : w.heap[g]? = some (.cells #[v] T (0, 0))) : w.cell? ⟨g, 0, none⟩ = some v ∧ w.frozen? ⟨g, 0, none⟩ = false := by
  constructor <;> simp [World.cell?, World.frozen?, h]
theorem oneSet {w : World} {g T : Nat} {v : Value} (h : w.heap[g]? = some (.cells #[v] T (0, 0))) (u : Value) : (w.setCell ⟨g, 0, none⟩ u).heap[g]? = some (.cells #[u] T (0, 0)) := by
  simp [World.setCell, Array.getElem?_modify, h]
theorem setFar {w : World} {g k : Nat} {o : Obj} (h : w.heap[k]? = some o) (hne : k ≠ g) (i : Nat) (u : Value) : (w.setCell ⟨g, i, none⟩ u).heap[k]? = some o := (Below.heap_setCell _ _ _ _ (by simpa using hne)).trans h
theorem allocAt (w : World) (o : Obj) (k : Nat) : (w.alloc o).heap[k]? = if k = w.heap.size then some o else w.heap[k]? := by
  show (w.heap.push o)[k]? = _
  rw [Array.getElem?_push]
theorem allocOld {w : World} {k : Nat} {x : Obj} (h : w.heap[k]? = some x) (o : Obj) : (w.alloc o).heap[k]? = some x := (Below.heap_alloc _ _ _ (Array.getElem?_eq_some_iff.1 h).1).trans h
theorem allocNew (w : World) (o : Obj) {n : Nat} (h : w.heap.size = n) : (w.alloc o).heap[n]? = some o := by rw [allocAt, if_pos h.symm]

end Go.Proofs.Ytclgjolplobdbaa

/-
  A reader in memory: its two cells lie in one block; what was there before it turns in that block alone. And what a slice of a list is.
-/
namespace Go.Proofs.Ytclgjolplobdbaa
open Go.RowKit

/-- W0: the world in which the reader was made; wr: a later one. -/
structure Rd (T : TypeId) (W0 wr : World) (gr : Nat) (v : Value) (p : Nat) : Prop where
  grown : W0.grownBy wr (some gr)
  box : wr.heap[gr]? = some (.cells #[v, .int .i64 (p : Int)] T (0, 0))

theorem cell_of_two {w : World} {g : Nat} {a b : Value} {T : TypeId} (h : w.heap[g]? = some (.cells #[a, b] T (0, 0))) : w.cell? ⟨g, 0, none⟩ = some a ∧ w.cell? ⟨g, 1, none⟩ = some b ∧ w.frozen? ⟨g, 1, none⟩ = false := by
  refine ⟨?_, ?_, ?_⟩ <;> simp [World.cell?, World.frozen?, h]

theorem two_setCell {w : World} {g : Nat} {a b : Value} {T : TypeId} (h : w.heap[g]? = some (.cells #[a, b] T (0, 0))) (u : Value) : (w.setCell ⟨g, 1, none⟩ u).heap[g]? = some (.cells #[a, u] T (0, 0)) := by
  simp [World.setCell, Array.getElem?_modify, h]

theorem grown_setCell (w : World) (g j : Nat) (u : Value) : w.grownBy (w.setCell ⟨g, j, none⟩ u) (some g) :=
  ⟨rfl, rfl, rfl, by simp [World.setCell], fun k _ hne => Below.heap_setCell _ _ _ _ (fun e => hne (by rw [e]))⟩

theorem Rd.set {T : TypeId} {W0 wr : World} {gr : Nat} {v : Value} {p : Nat} (h : Rd T W0 wr gr v p) (q : Nat) (u : Int) (hu : u = (q : Int)) : Rd T W0 (wr.setCell ⟨gr, 1, none⟩ (.int .i64 u)) gr v q := by
  subst hu
  exact ⟨h.grown.trans (grown_setCell wr gr 1 _), two_setCell h.box _⟩

theorem Rd.lt {T : TypeId} {W0 wr : World} {gr : Nat} {v : Value} {p : Nat} (h : Rd T W0 wr gr v p) : gr < wr.heap.size := (Array.getElem?_eq_some_iff.1 h.box).1

/-- Where nothing that is there turns. -/
theorem Rd.below {T : TypeId} {W0 wr w' : World} {gr : Nat} {v : Value} {p : Nat} (h : Rd T W0 wr gr v p) (hb : Below wr.heap.size wr w') : Rd T W0 w' gr v p := by
  refine ⟨⟨hb.os.trans h.grown.os, hb.tape.trans h.grown.tape, hb.output.trans h.grown.output, Nat.le_trans h.grown.size hb.size, fun k hk hne => ?_⟩, by rw [hb.block gr h.lt]; exact h.box⟩
  rw [hb.block k (Nat.lt_of_lt_of_le hk h.grown.size)]
  exact h.grown.block k hk hne

/-- Where a block alone turns that is new since the reader was looked at. -/
theorem Rd.far {T : TypeId} {W0 w' w'' : World} {gr g : Nat} {v : Value} {p : Nat} (h : Rd T W0 w' gr v p) (h0 : W0.heap.size ≤ g) (hg : gr < g) (hgr : w'.grownBy w'' (some g)) : Rd T W0 w'' gr v p := by
  refine ⟨h.grown.andThen hgr (fun j hj => by cases hj; exact .inl h0), ?_⟩
  rw [hgr.block gr h.lt (fun e => by cases e; omega)]
  exact h.box

/-- The reader's words are as they were. -/
theorem Rd.view {T : TypeId} {W0 wr : World} {gr : Nat} {v : Value} {p : Nat} (h : Rd T W0 wr gr v p) {a : Option Addr} {zs : List Int} (hv : View .u32 W0 a zs) (hne : ∀ b off s, a = some ⟨b, off, s⟩ → b ≠ gr) : View .u32 wr a zs := by
  intro j hj
  obtain ⟨b, off, e, hlt, hc⟩ := hv j hj
  refine ⟨b, off, e, Nat.lt_of_lt_of_le hlt h.grown.size, ?_⟩
  rw [← hc]
  exact World.cell?_of_block (w := W0) (h.grown.block b hlt (fun e' => hne b off none e (by cases e'; rfl)))

/-- What is cut off at the front of a list. -/
theorem View.drop {k : IntKind} {w : World} {b off : Nat} {zs : List Int} (h : View k w (some ⟨b, off, none⟩) zs) (p : Nat) : View k w (some ⟨b, off + p, none⟩) (zs.drop p) := by
  intro j hj
  rw [List.length_drop] at hj
  obtain ⟨b', off', e, hb, hc⟩ := h (p + j) (by omega)
  simp at e
  obtain ⟨rfl, rfl⟩ := e
  refine ⟨b, off + p, rfl, hb, ?_⟩
  rw [Nat.add_assoc, hc]
  simp [nth, List.getD]

/-- The address of a slice that is cut at its front. -/
def cutA (a : Option Addr) (cap p : Nat) : Option Addr := if cap = p then a else a.map (·.add p)

theorem View.cut {k : IntKind} {w : World} {a : Option Addr} {cap : Nat} {zs : List Int} (h : View k w a zs) (hcap : zs.length ≤ cap) (p : Nat) : View k w (cutA a cap p) (zs.drop p) := by
  by_cases hp : p < zs.length
  · obtain ⟨b, off, rfl, _, _⟩ := h p hp
    rw [cutA, if_neg (by omega)]
    have := View.drop h p
    rw [Option.map_some, Addr.add_lit]
    exact this
  · rw [List.drop_of_length_le (by omega)]
    exact view_nil

theorem nth_drop (zs : List Int) (p j : Nat) : nth (zs.drop p) j = nth zs (p + j) := by simp [nth, List.getD]
theorem within_drop {m : Int} {zs : List Int} {n : Nat} (h : Within m zs) : Within m (zs.drop n) := fun z hz => h z (List.mem_of_mem_drop hz)

/-- What the call owns, nil or not, can be read. -/
theorem View.ofOwn {k : IntKind} {w : World} {B e n cap : Nat} {a : Option Addr} {zs : List Int} (h : w.ownsRow B e 1 (.slice a n cap) n (zs.map (Value.int k))) (hl : zs.length = n) : View k w a zs := by
  rcases h.2 with ⟨_, hn⟩ | ⟨g, cap', cur, hv, _⟩
  · have : zs = [] := List.eq_nil_of_length_eq_zero (by rw [hl]; simpa using hn)
    subst this; exact view_nil
  · cases hv; exact View.ofRow h hl

end Go.Proofs.Ytclgjolplobdbaa

/-
  Lists of instructions in memory: an operation and a list of words each.
-/
namespace Go.Proofs.Ytclgjolplobdbaa
open Go.RowKit

/-- The instruction at a place of a list. -/
def nthR (rs : List (Int × List Int)) (j : Nat) : Int × List Int := rs.getD j (0, [])

/-- What can be read of a slice of instructions. -/
def RawsV (w : World) (a : Option Addr) (rs : List (Int × List Int)) : Prop :=
  ∀ j, j < rs.length → ∃ b off aj cj nj, a = some ⟨b, off, none⟩ ∧ b < w.heap.size ∧ w.cell? ⟨b, off + j * 2, none⟩ = some (.int .u16 (nthR rs j).1) ∧ w.cell? ⟨b, off + j * 2 + 1, none⟩ = some (.slice aj nj cj) ∧ (nthR rs j).2.length = nj ∧ View .u32 w aj (nthR rs j).2 ∧ nj ≤ cj

/-- Each operation, each word and each length lies within its bounds. -/
def RawsOk (rs : List (Int × List Int)) : Prop := ∀ j, j < rs.length → 0 ≤ (nthR rs j).1 ∧ (nthR rs j).1 < 65536 ∧ Within 4294967296 (nthR rs j).2 ∧ 4 * (nthR rs j).2.length ≤ 140737488351232

theorem RawsV.below {w w' : World} {a : Option Addr} {rs : List (Int × List Int)} (h : RawsV w a rs) (hb : Below w.heap.size w w') : RawsV w' a rs := by
  intro j hj
  obtain ⟨b, off, aj, cj, nj, e, hlt, h1, h2, h3, h4, h5⟩ := h j hj
  exact ⟨b, off, aj, cj, nj, e, Nat.lt_of_lt_of_le hlt hb.size, (hb.cell (p := ⟨b, off + j * 2, none⟩) hlt).trans h1, (hb.cell (p := ⟨b, off + j * 2 + 1, none⟩) hlt).trans h2, h3, h4.below hb, h5⟩

theorem rawsV_nil {w : World} {a : Option Addr} : RawsV w a [] := fun j hj => by simp at hj

theorem RawsV.drew {w : World} {a : Option Addr} {rs : List (Int × List Int)} (h : RawsV w a rs) (q : Nat) : RawsV (w.drewN q) a rs := h.below (bel_drewN (Below.refl _ _) q)
theorem View.drew {k : IntKind} {w : World} {a : Option Addr} {zs : List Int} (h : View k w a zs) (q : Nat) : View k (w.drewN q) a zs := h.below (bel_drewN (Below.refl _ _) q)

end Go.Proofs.Ytclgjolplobdbaa

/-
  Words of the kit answers true of two lists that are the same.
-/
namespace Go.Proofs.Ytclgjolplobdbaa
open Go.RowKit
set_option maxRecDepth 10000

set_option maxHeartbeats 400000 in
theorem words_true (a b : Option Addr) (n ca cb : Nat) (zs : List Int) (w : World) (ha : View .u32 w a zs) (hb : View .u32 w b zs) (hl : zs.length = n) (hn : n ≤ 140737488351232) :
    Calls Try.prog 6 #[.slice a n ca, .slice b n cb] w fun e w' => e = .returned (.bool true) ∧ ∃ q, w' = w.drewN q := by
  have HL : Hid (zs.length = n) := hl
  clear hl
  go_enter Try.func6, Try.ntmps6
  go_wp2
  go_loopw [5] (fun i wr => ∃ k q : Nat, k ≤ n ∧ i = .int .i64 k ∧ wr = w.drewN q) (fun i _ => n - (intOf i).toNat)
  case atStart => exact ⟨0, 0, Nat.zero_le _, rfl, rfl⟩
  case round =>
    obtain ⟨k, q, hk, rfl, rfl⟩ := hrel
    by_cases hlt : k < n
    · obtain ⟨b1, o1, rfl, _, c1⟩ := ha k (by rw [HL.out]; exact hlt)
      obtain ⟨b2, o2, rfl, _, c2⟩ := hb k (by rw [HL.out]; exact hlt)
      have hk0 : (0 : Int) ≤ (k : Int) := by omega
      have hki : (k : Int) < (n : Int) := by omega
      clear ha hb
      go_wp2
      go_quiet (fail)
      go_wp2
      go_roundw
      case rel => exact ⟨k + 1, _, by omega, by go_num, rfl⟩
      case measure => simp [intOf]; omega
    · go_wp2
      go_ret
      exact ⟨rfl, q, rfl⟩

end Go.Proofs.Ytclgjolplobdbaa

/-
  raws of the laws of layer 2 answers true of two lists of instructions that are the same; head answers the words of a head.
-/
namespace Go.Proofs.Ytclgjolplobdbaa
open Go.RowKit
set_option maxRecDepth 10000

theorem quiet_words {a b : Option Addr} {n ca cb : Nat} {zs : List Int} {w : World} (ha : View .u32 w a zs) (hb : View .u32 w b zs) (hl : zs.length = n) (hn : n ≤ 140737488351232) (q : Nat) :
    Calls Try.prog 6 #[.slice a n ca, .slice b n cb] (w.drewN q) fun e w' => e = .returned (.bool true) ∧ ∃ m, w' = w.drewN m := by
  refine (words_true a b n ca cb zs (w.drewN q) (ha.drew q) (hb.drew q) hl hn).mono ?_
  rintro e w' ⟨he, m, hm⟩
  exact ⟨he, q + m, by rw [hm, World.drewN_drewN]⟩

end Go.Proofs.Ytclgjolplobdbaa
