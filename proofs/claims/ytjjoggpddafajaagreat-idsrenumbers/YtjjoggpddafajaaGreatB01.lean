/-
  Texts laid together in one: Math, Math3, Rdr, Raws, KitWords, Law02Raws, KitSpoilWords, Law02Apart, Args, MathS.
-/
import Derived.WalkKit
import Derived.Laws.BitsAllLaws
import Derived.WalkSmall
import Derived.OpenShut
import Derived.ProofKit
import Derived.Laws.BytesArg
import Derived.Maps.AppendAt
import Derived.Maps.Range
import Derived.OneCell
import Derived.WalkSpells
import Derived.Deep.QuietTactic
import Derived.BigQuiet
import Derived.Test.YtjjoggpddafajaaGreatProg
import Derived.Deep.AppendLies
import Derived.WideShapes
import Derived.Lib.Bytealg
import Derived.Lib.IndexLaws
/-
  Plain arithmetic for the layer of words: the four bytes of a word, a word out of four bytes, and that 'or' of parts that do not overlap is their sum. No condition but the bounds that each lemma names.
-/
namespace Go.Proofs.YtjjoggpddafajaaGreat
open Go.RowKit

theorem ret_int {k : IntKind} {a b : Int} (h : a = b) : Ending.returned (.int k a) = .returned (.int k b) := by rw [h]

/-- The number at a place of a list (0 behind its end). -/
def nth (zs : List Int) (k : Nat) : Int := zs.getD k 0

/-- The byte of a word at a place. -/
def byt (x : Int) (p : Nat) : Int := x / 256 ^ p % 256

theorem byt_lo (x : Int) (p : Nat) : 0 ≤ byt x p := Int.emod_nonneg _ (by decide)
theorem byt_hi (x : Int) (p : Nat) : byt x p < 256 := Int.emod_lt_of_pos _ (by decide)

/-- A byte at a place of a word. -/
def plc (c : Int) (p : Nat) : Int := c * 256 ^ p

theorem or_u32 (a b s : Nat) (hb : b < 2 ^ s) (h : a * 2 ^ s + b < 4294967296) : bits .or .u32 ((a * 2 ^ s : Nat) : Int) (b : Int) = ((a * 2 ^ s + b : Nat) : Int) := by
  rw [u32_or_nat _ _ (by omega) (by omega), ← Nat.shiftLeft_eq, Nat.shiftLeft_add_eq_or_of_lt hb]

theorem or_u32' (a b s : Nat) (hb : b < 2 ^ s) (h : a * 2 ^ s + b < 4294967296) : bits .or .u32 (b : Int) ((a * 2 ^ s : Nat) : Int) = ((a * 2 ^ s + b : Nat) : Int) := by
  rw [u32_or_nat _ _ (by omega) (by omega), Nat.or_comm, ← Nat.shiftLeft_eq, Nat.shiftLeft_add_eq_or_of_lt hb]

/-- High first: the low part comes to it. -/
theorem or_high (a b : Int) (s : Nat) (ha : 0 ≤ a) (hb0 : 0 ≤ b) (hb : b < 2 ^ s) (h : a * 2 ^ s + b < 4294967296) : bits .or .u32 (a * 2 ^ s) b = a * 2 ^ s + b := by
  obtain ⟨m, rfl⟩ := Int.eq_ofNat_of_zero_le ha
  obtain ⟨n, rfl⟩ := Int.eq_ofNat_of_zero_le hb0
  have e : ((m : Int) * 2 ^ s) = ((m * 2 ^ s : Nat) : Int) := by simp
  rw [e] at h ⊢
  rw [or_u32 m n s (by have : ((n : Nat) : Int) < ((2 ^ s : Nat) : Int) := by simpa using hb
                       omega) (by omega)]
  simp

/-- Low first: the high part comes to it. -/
theorem or_low (a b : Int) (s : Nat) (ha : 0 ≤ a) (hb0 : 0 ≤ b) (hb : b < 2 ^ s) (h : a * 2 ^ s + b < 4294967296) : bits .or .u32 b (a * 2 ^ s) = b + a * 2 ^ s := by
  obtain ⟨m, rfl⟩ := Int.eq_ofNat_of_zero_le ha
  obtain ⟨n, rfl⟩ := Int.eq_ofNat_of_zero_le hb0
  have e : ((m : Int) * 2 ^ s) = ((m * 2 ^ s : Nat) : Int) := by simp
  rw [e] at h ⊢
  rw [or_u32' m n s (by have : ((n : Nat) : Int) < ((2 ^ s : Nat) : Int) := by simpa using hb
                        omega) (by omega)]
  simp; omega

theorem or_zero (b : Int) (hb0 : 0 ≤ b) (hb : b < 4294967296) : bits .or .u32 0 b = b := by
  have := or_high 0 b 32 (by omega) hb0 (by omega) (by omega)
  simpa using this

/-- The word turned round. -/
def turnI (x : Int) : Int := byt x 0 * 16777216 + byt x 1 * 65536 + byt x 2 * 256 + byt x 3

theorem byt0 (x : Int) : byt x 0 = x % 256 := by simp [byt]
theorem byt1 (x : Int) : byt x 1 = x / 256 % 256 := by simp [byt]
theorem byt2 (x : Int) : byt x 2 = x / 65536 % 256 := by simp [byt]
theorem byt3 (x : Int) : byt x 3 = x / 16777216 % 256 := by simp [byt]

theorem turnI_lo (x : Int) : 0 ≤ turnI x := by
  have := byt_lo x 0; have := byt_lo x 1; have := byt_lo x 2; have := byt_lo x 3
  unfold turnI; omega
theorem turnI_hi (x : Int) : turnI x < 4294967296 := by
  have := byt_hi x 0; have := byt_hi x 1; have := byt_hi x 2; have := byt_hi x 3
  unfold turnI; omega
theorem turnI_byt0 (x : Int) : byt (turnI x) 0 = byt x 3 := by
  have := byt_lo x 0; have := byt_lo x 1; have := byt_lo x 2; have := byt_lo x 3
  have := byt_hi x 0; have := byt_hi x 1; have := byt_hi x 2; have := byt_hi x 3
  rw [byt0 (turnI x)]; unfold turnI; omega
theorem turnI_byt1 (x : Int) : byt (turnI x) 1 = byt x 2 := by
  have := byt_lo x 0; have := byt_lo x 1; have := byt_lo x 2; have := byt_lo x 3
  have := byt_hi x 0; have := byt_hi x 1; have := byt_hi x 2; have := byt_hi x 3
  rw [byt1 (turnI x)]; unfold turnI; omega
theorem turnI_byt2 (x : Int) : byt (turnI x) 2 = byt x 1 := by
  have := byt_lo x 0; have := byt_lo x 1; have := byt_lo x 2; have := byt_lo x 3
  have := byt_hi x 0; have := byt_hi x 1; have := byt_hi x 2; have := byt_hi x 3
  rw [byt2 (turnI x)]; unfold turnI; omega
theorem turnI_byt3 (x : Int) : byt (turnI x) 3 = byt x 0 := by
  have := byt_lo x 0; have := byt_lo x 1; have := byt_lo x 2; have := byt_lo x 3
  have := byt_hi x 0; have := byt_hi x 1; have := byt_hi x 2; have := byt_hi x 3
  rw [byt3 (turnI x)]; unfold turnI; omega

/-- A word is its four bytes. -/
theorem of_byt (x : Int) (h0 : 0 ≤ x) (h1 : x < 4294967296) : byt x 0 + byt x 1 * 256 + byt x 2 * 65536 + byt x 3 * 16777216 = x := by
  rw [byt0, byt1, byt2, byt3]; omega

theorem turnI_turnI (x : Int) (h0 : 0 ≤ x) (h1 : x < 4294967296) : turnI (turnI x) = x := by
  have e : turnI (turnI x) = byt (turnI x) 0 * 16777216 + byt (turnI x) 1 * 65536 + byt (turnI x) 2 * 256 + byt (turnI x) 3 := rfl
  rw [e, turnI_byt0, turnI_byt1, turnI_byt2, turnI_byt3]
  have := of_byt x h0 h1
  omega

theorem plc0 (c : Int) : plc c 0 = c := by simp [plc]
theorem plc1 (c : Int) : plc c 1 = c * 256 := by simp [plc]
theorem plc2 (c : Int) : plc c 2 = c * 65536 := by simp [plc]
theorem plc3 (c : Int) : plc c 3 = c * 16777216 := by simp [plc]

/-- The four parts put together, the highest first. -/
theorem or_four_high (a b c d : Int) (a0 : 0 ≤ a) (a1 : a < 256) (b0 : 0 ≤ b) (b1 : b < 256) (c0 : 0 ≤ c) (c1 : c < 256) (d0 : 0 ≤ d) (d1 : d < 256) :
    bits .or .u32 (bits .or .u32 (bits .or .u32 (bits .or .u32 0 (plc a 3)) (plc b 2)) (plc c 1)) (plc d 0) = a * 16777216 + b * 65536 + c * 256 + d := by
  rw [plc0, plc1, plc2, plc3, or_zero _ (by omega) (by omega)]
  have e1 := or_high a (b * 65536) 24 a0 (by omega) (by omega) (by omega)
  have e2 := or_high (a * 256 + b) (c * 256) 16 (by omega) (by omega) (by omega) (by omega)
  have e3 := or_high (a * 65536 + b * 256 + c) d 8 (by omega) (by omega) (by omega) (by omega)
  rw [show (a * 2 ^ 24 : Int) = a * 16777216 by omega] at e1
  rw [show ((a * 256 + b) * 2 ^ 16 : Int) = a * 16777216 + b * 65536 by omega] at e2
  rw [show ((a * 65536 + b * 256 + c) * 2 ^ 8 : Int) = a * 16777216 + b * 65536 + c * 256 by omega] at e3
  rw [e1, e2, e3]

/-! ### lists of words and bytes -/

/-- A word's four bytes. -/
def four (x : Int) : List Int := [byt x 0, byt x 1, byt x 2, byt x 3]
/-- The bytes of words. -/
def joinL (zs : List Int) : List Int := zs.flatMap four

theorem four_len (x : Int) : (four x).length = 4 := rfl
theorem joinL_len (zs : List Int) : (joinL zs).length = 4 * zs.length := by
  induction zs with
  | nil => rfl
  | cons z zs ih => simp only [joinL, List.flatMap_cons, List.length_append, four_len, List.length_cons] at ih ⊢; omega
theorem take_snoc (zs : List Int) (k : Nat) (h : k < zs.length) : zs.take (k + 1) = zs.take k ++ [nth zs k] := by
  rw [List.take_succ_eq_append_getElem h]; simp [nth, List.getD, h]
theorem joinL_snoc (zs : List Int) (k : Nat) (h : k < zs.length) : joinL (zs.take (k + 1)) = joinL (zs.take k) ++ four (nth zs k) := by
  rw [take_snoc zs k h]; simp [joinL]
theorem four_snoc (x : Int) (p : Nat) (h : p < 4) : (four x).take (p + 1) = (four x).take p ++ [byt x p] := by
  match p, h with
  | 0, _ => rfl
  | 1, _ => rfl
  | 2, _ => rfl
  | 3, _ => rfl
theorem four_whole (x : Int) : (four x).take 4 = four x := rfl

/-- What can be read of a slice of integers: each of its cells, in a block that is there. -/
def View (k : IntKind) (w : World) (a : Option Addr) (zs : List Int) : Prop :=
  ∀ j, j < zs.length → ∃ b off, a = some ⟨b, off, none⟩ ∧ b < w.heap.size ∧ w.cell? ⟨b, off + j, none⟩ = some (.int k (nth zs j))

/-- Every number lies in 0 to m - 1. -/
def Within (m : Int) (zs : List Int) : Prop := ∀ z ∈ zs, 0 ≤ z ∧ z < m

theorem Within.at {m : Int} {zs : List Int} (h : Within m zs) {k : Nat} (hk : k < zs.length) : 0 ≤ nth zs k ∧ nth zs k < m := by
  have e : nth zs k = zs[k] := by simp [nth, List.getD, hk]
  rw [e]; exact h _ (List.getElem_mem hk)

theorem View.below {k : IntKind} {w w' : World} {a : Option Addr} {zs : List Int} (h : View k w a zs) (hb : Below w.heap.size w w') : View k w' a zs := by
  intro j hj
  obtain ⟨b, off, e, hlt, hc⟩ := h j hj
  exact ⟨b, off, e, Nat.lt_of_lt_of_le hlt hb.size, (hb.cell (p := ⟨b, off + j, none⟩) hlt).trans hc⟩

theorem bel_drewN {B : Nat} {a w : World} (h : Below B a w) (n : Nat) : Below B a (w.drewN n) := h.trans ⟨rfl, rfl, rfl, Nat.le_refl _, fun _ _ => rfl⟩

/-- What the call owns can be read. -/
theorem View.ofRow {k : IntKind} {w : World} {B e g n cap : Nat} {zs : List Int} (h : w.ownsRow B e 1 (.slice (some ⟨g, 0, none⟩) n cap) n (zs.map (Value.int k))) (hl : zs.length = n) : View k w (some ⟨g, 0, none⟩) zs := by
  intro j hj
  have hc := h.cellAt j (by omega)
  have e : (zs.map (Value.int k))[j]? = some (.int k (nth zs j)) := by simp [nth, List.getD, hj]
  rw [e] at hc
  exact ⟨g, 0, rfl, World.block_lt_of_cell? _ _ hc, by rw [Nat.zero_add]; exact hc⟩

/-- What the call owns stays owned where nothing old has turned. -/
theorem own_below {w w' : World} {B e size n : Nat} {v : Value} {xs : List Value} (h : w.ownsRow B e size v n xs) (hb : Below w.heap.size w w') : w'.ownsRow B e size v n xs := by
  refine ⟨h.1, ?_⟩
  rcases h.2 with hn | ⟨g, cap, cur, rfl, hg, hgg, rest⟩
  · exact .inl hn
  · exact .inr ⟨g, cap, cur, rfl, hg, by rw [hb.block g (Array.getElem?_eq_some_iff.1 hgg).1]; exact hgg, rest⟩

theorem view_nil {k : IntKind} {w : World} {a : Option Addr} : View k w a [] := fun j hj => by simp at hj
theorem within_nil {m : Int} : Within m [] := fun z hz => by simp at hz
theorem within_take {m : Int} {zs : List Int} {n : Nat} (h : ∀ z ∈ zs, 0 ≤ z ∧ z < m) : Within m (zs.take n) := fun z hz => h z (List.mem_of_mem_take hz)
theorem view_take {k : IntKind} {w : World} {x : Addr} {zs : List Int} {n : Nat} (hcell : ∀ i, i < zs.length → w.cell? (x.add i) = some (.int k (nth zs i))) (hn : n ≤ zs.length) : View k w (some x) (zs.take n) := by
  intro j hj
  rw [List.length_take] at hj
  have hc0 := hcell 0 (by omega)
  have hc := hcell j (by omega)
  obtain ⟨b, off, spot⟩ := x
  have hs : spot = none := by simpa [Addr.add] using World.cell?_spot hc0
  subst hs
  have hc' : w.cell? ⟨b, off + j, none⟩ = some (.int k (nth zs j)) := by rw [← Addr.add_lit]; exact hc
  refine ⟨b, off, rfl, World.block_lt_of_cell? _ _ hc', ?_⟩
  rw [hc']
  simp [nth, List.getD, show j < n by omega]

/-! ### a row that is filled from its head on -/

/-- The first k numbers, and zeros up to n. -/
def filled (zs : List Int) (k n : Nat) : List Int := zs.take k ++ List.replicate (n - k) 0

theorem filled_len (zs : List Int) (k n : Nat) (hk : k ≤ n) (hz : k ≤ zs.length) : (filled zs k n).length = n := by
  simp only [filled, List.length_append, List.length_take, List.length_replicate]; omega
theorem filled_whole (zs : List Int) (n : Nat) (hz : zs.length = n) : filled zs n n = zs := by
  subst hz; simp [filled]
theorem filled_zero (zs : List Int) (n : Nat) : filled zs 0 n = List.replicate n 0 := by simp [filled]
theorem filled_at (zs : List Int) (k n : Nat) (hk : k < n) (hz : k ≤ zs.length) : (filled zs k n)[k]? = some 0 := by
  have e : (zs.take k).length = k := by rw [List.length_take]; omega
  rw [filled, List.getElem?_append_right (by omega), e, Nat.sub_self]
  simp [show 0 < n - k by omega]
theorem filled_set (zs : List Int) (k n : Nat) (hk : k < n) (hz : k < zs.length) : (filled zs k n).set k (nth zs k) = filled zs (k + 1) n := by
  have e : (zs.take k).length = k := by rw [List.length_take]; omega
  rw [filled, filled, List.set_append_right _ _ (by omega), e, Nat.sub_self, take_snoc zs k hz, List.append_assoc]
  congr 1
  rw [show n - k = (n - (k + 1)) + 1 by omega, List.replicate_succ]
  simp

/-- A row that 'make' has just laid holds zeros. -/
theorem made_row {w : World} {B e : Nat} {v : Value} {n : Nat} {k : IntKind} (zs : List Int) (h : w.ownsRow B e 1 v n (madeCells #[Value.int k 0] n).toList) : w.ownsRow B e 1 v n ((filled zs 0 n).map (Value.int k)) := by
  have e1 : (madeCells #[Value.int k 0] n).toList = (filled zs 0 n).map (Value.int k) := by
    rw [filled_zero, List.map_replicate]
    exact toList_madeCells_one (.int k 0) n
  rw [← e1]; exact h

/-- A store into the row at the place that comes next. -/
theorem fill_step {w : World} {B e g n : Nat} {k : IntKind} {zs : List Int} {i : Nat} (h : w.ownsRow B e 1 (.slice (some ⟨g, 0, none⟩) n n) n ((filled zs i n).map (Value.int k))) (hi : i < n) (hz : i < zs.length) :
    w.cell? ⟨g, i, none⟩ = some (.int k 0) ∧ w.frozen? ⟨g, i, none⟩ = false ∧ (w.setCell ⟨g, i, none⟩ (.int k (nth zs i))).ownsRow B e 1 (.slice (some ⟨g, 0, none⟩) n n) n ((filled zs (i + 1) n).map (Value.int k)) := by
  refine ⟨?_, h.frozenAt i, ?_⟩
  · rw [h.cellAt i (by omega), List.getElem?_map, filled_at zs i n hi (by omega)]; rfl
  · have := h.stored i (.int k (nth zs i))
    rw [← List.map_set, filled_set zs i n hi hz] at this
    exact this.1

theorem getD_left (xs ys : List Int) (k : Nat) (h : k < xs.length) : nth (xs ++ ys) k = nth xs k := by
  simp [nth, List.getD, List.getElem?_append_left h]
theorem getD_right (xs ys : List Int) (k : Nat) (h : xs.length ≤ k) : nth (xs ++ ys) k = nth ys (k - xs.length) := by
  simp [nth, List.getD, List.getElem?_append_right h]

/-- The k-th byte of words. -/
theorem joinL_getD (zs : List Int) (k : Nat) (h : k < 4 * zs.length) : nth (joinL zs) k = byt (nth zs (k / 4)) (k % 4) := by
  induction zs generalizing k with
  | nil => simp at h
  | cons z zs ih =>
    simp only [List.length_cons] at h
    have e : joinL (z :: zs) = four z ++ joinL zs := rfl
    by_cases hk : k < 4
    · have e2 : k / 4 = 0 := by omega
      have e3 : k % 4 = k := by omega
      rw [e, e2, e3, getD_left _ _ _ (by rw [four_len]; exact hk)]
      match k, hk with
      | 0, _ => rfl
      | 1, _ => rfl
      | 2, _ => rfl
      | 3, _ => rfl
    · have e2 : k / 4 = (k - 4) / 4 + 1 := by omega
      have e3 : k % 4 = (k - 4) % 4 := by omega
      rw [e, e2, e3, getD_right _ _ _ (by rw [four_len]; omega), four_len, ih (k - 4) (by omega)]
      rfl

theorem div_pow_lo (X : Int) (j : Nat) (h0 : 0 ≤ X) : 0 ≤ X / 256 ^ j := Int.ediv_nonneg h0 (Int.le_of_lt (Int.pow_pos (by decide)))
theorem div_pow_hi (X : Int) (j : Nat) (m : Int) (h0 : 0 ≤ X) (h : X < m) : X / 256 ^ j < m := by
  have := Int.ediv_le_self (256 ^ j) h0
  omega
theorem div_pow_succ (X : Int) (j : Nat) : X / 256 ^ j / 256 = X / 256 ^ (j + 1) := by
  rw [Int.pow_succ, Int.ediv_ediv_of_nonneg (Int.le_of_lt (Int.pow_pos (by decide)))]

theorem row_one {x : Int} {k : IntKind} {w : World} {b : Nat} (h : w.cell? ⟨b, 0, none⟩ = some (.int k x)) : View k w (some ⟨b, 0, none⟩) [x] := by
  intro j hj
  obtain rfl : j = 0 := by simp at hj; exact hj
  exact ⟨b, 0, rfl, World.block_lt_of_cell? _ _ h, by simpa [nth] using h⟩

theorem within_one {m x : Int} (h0 : 0 ≤ x) (h1 : x < m) : Within m [x] := by
  intro z hz; simp at hz; subst hz; exact ⟨h0, h1⟩

/-! ### bytes to words -/

/-- The word out of the bytes from 4 k on. -/
def wordAt (zs : List Int) (k : Nat) : Int := nth zs (4 * k) + nth zs (4 * k + 1) * 256 + nth zs (4 * k + 2) * 65536 + nth zs (4 * k + 3) * 16777216
/-- The words of bytes. -/
def splitL (zs : List Int) : List Int := (List.range (zs.length / 4)).map (wordAt zs)
/-- The error of bytes that are to be parted into words. -/
def splitErr (zs : List Int) : Int := if 4194304 < zs.length then 4 else if zs.length % 4 = 0 then 0 else 10
/-- The words that are answered: none beside an error. -/
def splitOut (zs : List Int) : List Int := if splitErr zs = 0 then splitL zs else []

theorem nth_range (f : Nat → Int) (n k : Nat) (h : k < n) : nth ((List.range n).map f) k = f k := by
  simp [nth, List.getD, h]
theorem splitL_len (zs : List Int) : (splitL zs).length = zs.length / 4 := by simp [splitL]
theorem nth_splitL (zs : List Int) (k : Nat) (h : k < zs.length / 4) : nth (splitL zs) k = wordAt zs k := nth_range _ _ _ h

theorem splitErr_large (zs : List Int) (h : 4194304 < zs.length) : splitErr zs = 4 := by simp [splitErr, h]
theorem splitErr_odd (zs : List Int) (h : ¬ 4194304 < zs.length) (h2 : ¬ zs.length % 4 = 0) : splitErr zs = 10 := by simp [splitErr, h, h2]
theorem splitErr_ok (zs : List Int) (h : ¬ 4194304 < zs.length) (h2 : zs.length % 4 = 0) : splitErr zs = 0 := by simp [splitErr, h, h2]
theorem splitOut_large (zs : List Int) (h : 4194304 < zs.length) : splitOut zs = [] := by rw [splitOut, splitErr_large zs h]; rfl
theorem splitOut_odd (zs : List Int) (h : ¬ 4194304 < zs.length) (h2 : ¬ zs.length % 4 = 0) : splitOut zs = [] := by rw [splitOut, splitErr_odd zs h h2]; rfl
theorem splitOut_ok (zs : List Int) (h : ¬ 4194304 < zs.length) (h2 : zs.length % 4 = 0) : splitOut zs = splitL zs := by rw [splitOut, splitErr_ok zs h h2]; rfl

/-- Word k when the first i bytes have been put to their places. -/
def partW (zs : List Int) (i k : Nat) : Int :=
  (if 4 * k < i then nth zs (4 * k) else 0) + (if 4 * k + 1 < i then nth zs (4 * k + 1) * 256 else 0) + (if 4 * k + 2 < i then nth zs (4 * k + 2) * 65536 else 0) + (if 4 * k + 3 < i then nth zs (4 * k + 3) * 16777216 else 0)
/-- The row then. -/
def partL (zs : List Int) (i n : Nat) : List Int := (List.range n).map (partW zs i)

theorem partL_len (zs : List Int) (i n : Nat) : (partL zs i n).length = n := by simp [partL]
theorem partL_zero (zs ys : List Int) (n : Nat) : partL zs 0 n = filled ys 0 n := by
  rw [filled_zero]
  apply List.ext_getElem? 
  intro k
  by_cases hk : k < n
  · simp [partL, partW, hk]
  · simp [partL, hk]
theorem partL_whole (zs : List Int) (h : zs.length % 4 = 0) : partL zs zs.length (zs.length / 4) = splitL zs := by
  unfold partL splitL
  apply List.map_congr_left
  intro k hk
  have hk' : k < zs.length / 4 := List.mem_range.1 hk
  unfold partW wordAt
  rw [if_pos (by omega), if_pos (by omega), if_pos (by omega), if_pos (by omega)]
theorem partW_other (zs : List Int) (i k : Nat) (h : k ≠ i / 4) : partW zs (i + 1) k = partW zs i k := by
  unfold partW
  have h0 : (4 * k < i + 1) = (4 * k < i) := by apply propext; omega
  have h1 : (4 * k + 1 < i + 1) = (4 * k + 1 < i) := by apply propext; omega
  have h2 : (4 * k + 2 < i + 1) = (4 * k + 2 < i) := by apply propext; omega
  have h3 : (4 * k + 3 < i + 1) = (4 * k + 3 < i) := by apply propext; omega
  simp only [h0, h1, h2, h3]
theorem partL_set (zs : List Int) (i n : Nat) : (partL zs i n).set (i / 4) (partW zs (i + 1) (i / 4)) = partL zs (i + 1) n := by
  apply List.ext_getElem?
  intro k
  rw [List.getElem?_set]
  by_cases hk : k < n
  · by_cases e : i / 4 = k
    · subst e; simp [partL, hk]
    · simp [partL, hk, e, partW_other zs i k (fun h => e h.symm)]
  · by_cases e : i / 4 = k
    · subst e; simp [partL, hk]
    · simp [partL, hk, e]

/-- The byte that comes next is put to its place. -/
theorem partW_step (zs : List Int) (i : Nat) (hw : Within 256 zs) (hi : i < zs.length) :
    bits .or .u32 (partW zs i (i / 4)) (plc (nth zs i) (i % 4)) = partW zs (i + 1) (i / 4) := by
  have hc := hw.at hi
  rcases (show i % 4 = 0 ∨ i % 4 = 1 ∨ i % 4 = 2 ∨ i % 4 = 3 by omega) with e | e | e | e
  · have e0 : 4 * (i / 4) = i := by omega
    rw [e, plc0]; unfold partW
    rw [if_neg (by omega), if_neg (by omega), if_neg (by omega), if_neg (by omega), if_pos (by omega), if_neg (by omega), if_neg (by omega), if_neg (by omega), e0]
    have := or_zero (nth zs i) hc.1 (by omega)
    simpa using this
  · have e0 : 4 * (i / 4) + 1 = i := by omega
    have b0 := hw.at (k := 4 * (i / 4)) (by omega)
    rw [e, plc1]; unfold partW
    rw [if_pos (by omega), if_neg (by omega), if_neg (by omega), if_neg (by omega), if_pos (by omega), if_pos (by omega), if_neg (by omega), if_neg (by omega), e0]
    have := or_low (nth zs i) (nth zs (4 * (i / 4))) 8 hc.1 b0.1 (by omega) (by omega)
    rw [show ((nth zs i) * 2 ^ 8 : Int) = nth zs i * 256 by omega] at this
    simpa using this
  · have e0 : 4 * (i / 4) + 2 = i := by omega
    have b0 := hw.at (k := 4 * (i / 4)) (by omega)
    have b1 := hw.at (k := 4 * (i / 4) + 1) (by omega)
    rw [e, plc2]; unfold partW
    rw [if_pos (by omega), if_pos (by omega), if_neg (by omega), if_neg (by omega), if_pos (by omega), if_pos (by omega), if_pos (by omega), if_neg (by omega), e0]
    have := or_low (nth zs i) (nth zs (4 * (i / 4)) + nth zs (4 * (i / 4) + 1) * 256) 16 hc.1 (by omega) (by omega) (by omega)
    rw [show ((nth zs i) * 2 ^ 16 : Int) = nth zs i * 65536 by omega] at this
    simpa using this
  · have e0 : 4 * (i / 4) + 3 = i := by omega
    have b0 := hw.at (k := 4 * (i / 4)) (by omega)
    have b1 := hw.at (k := 4 * (i / 4) + 1) (by omega)
    have b2 := hw.at (k := 4 * (i / 4) + 2) (by omega)
    rw [e, plc3]; unfold partW
    rw [if_pos (by omega), if_pos (by omega), if_pos (by omega), if_neg (by omega), if_pos (by omega), if_pos (by omega), if_pos (by omega), if_pos (by omega), e0]
    have := or_low (nth zs i) (nth zs (4 * (i / 4)) + nth zs (4 * (i / 4) + 1) * 256 + nth zs (4 * (i / 4) + 2) * 65536) 24 hc.1 (by omega) (by omega) (by omega)
    rw [show ((nth zs i) * 2 ^ 24 : Int) = nth zs i * 16777216 by omega] at this
    simpa using this

theorem partW_bounds (zs : List Int) (i k : Nat) (hw : Within 256 zs) (h : 4 * k + 4 ≤ zs.length) : 0 ≤ partW zs i k ∧ partW zs i k < 4294967296 := by
  have b0 := hw.at (k := 4 * k) (by omega)
  have b1 := hw.at (k := 4 * k + 1) (by omega)
  have b2 := hw.at (k := 4 * k + 2) (by omega)
  have b3 := hw.at (k := 4 * k + 3) (by omega)
  unfold partW
  split <;> split <;> split <;> split <;> omega
theorem wordAt_bounds (zs : List Int) (k : Nat) (hw : Within 256 zs) (h : 4 * k + 4 ≤ zs.length) : 0 ≤ wordAt zs k ∧ wordAt zs k < 4294967296 := by
  have b0 := hw.at (k := 4 * k) (by omega)
  have b1 := hw.at (k := 4 * k + 1) (by omega)
  have b2 := hw.at (k := 4 * k + 2) (by omega)
  have b3 := hw.at (k := 4 * k + 3) (by omega)
  unfold wordAt; omega

/-- It lies in blocks from B on. -/
def NewAt (B : Nat) (a : Option Addr) : Prop := ∀ b off s, a = some ⟨b, off, s⟩ → B ≤ b
theorem newAt_none {B : Nat} : NewAt B none := fun b off s h => by simp at h
theorem newAt_mk {B b off : Nat} (h : B ≤ b) : NewAt B (some ⟨b, off, none⟩) := fun b' off' s e => by simp at e; omega

/-- A store into another block leaves a view as it was. -/
theorem View.setCell {k : IntKind} {w : World} {a : Option Addr} {zs : List Int} (h : View k w a zs) {B g j : Nat} (hn : NewAt B a) (hg : g < B) (u : Value) : View k (w.setCell ⟨g, j, none⟩ u) a zs := by
  intro i hi
  obtain ⟨b, off, rfl, hb, hc⟩ := h i hi
  have := hn b off none rfl
  refine ⟨b, off, rfl, by simpa [World.setCell] using hb, ?_⟩
  rw [← hc]
  exact World.cell?_of_block (w := w) (Below.heap_setCell w ⟨g, j, none⟩ u b (by simp; omega))

theorem cell_far {w : World} {g b : Nat} (h : b ≠ g) (j o : Nat) (u : Value) : (w.setCell ⟨g, j, none⟩ u).cell? ⟨b, o, none⟩ = w.cell? ⟨b, o, none⟩ :=
  World.cell?_of_block (w := w) (Below.heap_setCell w ⟨g, j, none⟩ u b (by simpa using h))

theorem within_set {m : Int} {zs : List Int} (h : Within m zs) {k : Nat} {u : Int} (h0 : 0 ≤ u) (h1 : u < m) : Within m (zs.set k u) := by
  intro z hz
  rcases List.mem_or_eq_of_mem_set hz with h' | h'
  · exact h z h'
  · subst h'; exact ⟨h0, h1⟩

end Go.Proofs.YtjjoggpddafajaaGreat

/-
  Plain arithmetic for the layer of words: a text at the front of words: where its end lies, and what stands behind it in its word.
-/
namespace Go.Proofs.YtjjoggpddafajaaGreat
open Go.RowKit

theorem rest_zero (X : Int) (P : Nat) (hP : P < 4) (h0 : 0 ≤ X) (h1 : X < 4294967296) : X / 256 ^ P = 0 ↔ ∀ q, P ≤ q → q < 4 → byt X q = 0 := by
  rcases (show P = 0 ∨ P = 1 ∨ P = 2 ∨ P = 3 by omega) with rfl | rfl | rfl | rfl
  · constructor
    · intro h q _ hq
      have h' : X = 0 := by simpa using h
      subst h'; simp [byt]
    · intro h
      have a := h 0 (by omega) (by omega); have b := h 1 (by omega) (by omega); have c := h 2 (by omega) (by omega); have d := h 3 (by omega) (by omega)
      rw [byt0] at a; rw [byt1] at b; rw [byt2] at c; rw [byt3] at d
      simp; omega
  · constructor
    · intro h q hq hq4
      have h' : X / 256 = 0 := by simpa using h
      rcases (show q = 1 ∨ q = 2 ∨ q = 3 by omega) with rfl | rfl | rfl
      · rw [byt1]; omega
      · rw [byt2]; omega
      · rw [byt3]; omega
    · intro h
      have b := h 1 (by omega) (by omega); have c := h 2 (by omega) (by omega); have d := h 3 (by omega) (by omega)
      rw [byt1] at b; rw [byt2] at c; rw [byt3] at d
      simp; omega
  · constructor
    · intro h q hq hq4
      have h' : X / 65536 = 0 := by simpa using h
      rcases (show q = 2 ∨ q = 3 by omega) with rfl | rfl
      · rw [byt2]; omega
      · rw [byt3]; omega
    · intro h
      have c := h 2 (by omega) (by omega); have d := h 3 (by omega) (by omega)
      rw [byt2] at c; rw [byt3] at d
      simp; omega
  · constructor
    · intro h q hq hq4
      have h' : X / 16777216 = 0 := by simpa using h
      obtain rfl : q = 3 := by omega
      rw [byt3]; omega
    · intro h
      have d := h 3 (by omega) (by omega)
      rw [byt3] at d
      simp; omega

/-- The first place at which a list has a 0, or its length. -/
theorem first_zero (js : List Int) (n : Nat) : ∃ N, N ≤ n ∧ (∀ i, i < N → nth js i ≠ 0) ∧ (N < n → nth js N = 0) := by
  induction n with
  | zero => exact ⟨0, Nat.le_refl _, fun i hi => by omega, fun h => by omega⟩
  | succ n ih =>
    obtain ⟨N, h1, h2, h3⟩ := ih
    by_cases hN : N < n
    · exact ⟨N, by omega, h2, fun _ => h3 hN⟩
    · obtain rfl : N = n := by omega
      by_cases hz : nth js N = 0
      · exact ⟨N, by omega, h2, fun _ => hz⟩
      · refine ⟨N + 1, by omega, fun i hi => ?_, fun h => by omega⟩
        by_cases e : i = N
        · subst e; exact hz
        · exact h2 i (by omega)

theorem joinL_take (zs : List Int) (k : Nat) : joinL (zs.take k) = (joinL zs).take (4 * k) := by
  induction zs generalizing k with
  | nil => simp [joinL]
  | cons z zs ih =>
    cases k with
    | zero => rfl
    | succ k =>
      have e1 : joinL ((z :: zs).take (k + 1)) = four z ++ joinL (zs.take k) := rfl
      have e2 : joinL (z :: zs) = four z ++ joinL zs := rfl
      rw [e1, e2, ih, show 4 * (k + 1) = 4 * k + 4 by omega]
      rfl

theorem nth_take (zs : List Int) (k n : Nat) (h : k < n) : nth (zs.take n) k = nth zs k := by
  simp [nth, List.getD, h]

theorem View.take {k : IntKind} {w : World} {a : Option Addr} {zs : List Int} (h : View k w a zs) (n : Nat) : View k w a (zs.take n) := by
  intro j hj
  rw [List.length_take] at hj
  obtain ⟨b, off, e, hb, hc⟩ := h j (by omega)
  exact ⟨b, off, e, hb, by rw [hc, nth_take _ _ _ (by omega)]⟩

theorem within_of_take {m : Int} {zs : List Int} {n : Nat} (h : Within m zs) : Within m (zs.take n) := fun z hz => h z (List.mem_of_mem_take hz)

end Go.Proofs.YtjjoggpddafajaaGreat

/-
  A reader in memory: its two cells lie in one block; what was there before it turns in that block alone. And what a slice of a list is.
-/
namespace Go.Proofs.YtjjoggpddafajaaGreat
open Go.RowKit

/-- W0: the world in which the reader was made; wr: a later one. -/
structure Rd (T : TypeId) (W0 wr : World) (gr : Nat) (v : Value) (p : Nat) : Prop where
  grown : W0.grownBy wr (some gr)
  box : wr.heap[gr]? = some (.cells #[v, .int .i64 (p : Int)] T (0, 0))

theorem cell_of_two {w : World} {g : Nat} {a b : Value} {T : TypeId} (h : w.heap[g]? = some (.cells #[a, b] T (0, 0))) : w.cell? ⟨g, 0, none⟩ = some a ∧ w.cell? ⟨g, 1, none⟩ = some b ∧ w.frozen? ⟨g, 1, none⟩ = false := by
  refine ⟨?_, ?_, ?_⟩ <;> simp [World.cell?, World.frozen?, h]

theorem two_setCell {w : World} {g : Nat} {a b : Value} {T : TypeId} (h : w.heap[g]? = some (.cells #[a, b] T (0, 0))) (u : Value) : (w.setCell ⟨g, 1, none⟩ u).heap[g]? = some (.cells #[a, u] T (0, 0)) := by
  simp [World.setCell, Array.getElem?_modify, h]

theorem grown_setCell (w : World) (g j : Nat) (u : Value) : w.grownBy (w.setCell ⟨g, j, none⟩ u) (some g) :=
  ⟨rfl, rfl, rfl, by simp [World.setCell], fun k _ hne => Below.heap_setCell _ _ _ _ (fun e => hne (by rw [e]))⟩

theorem Rd.set {T : TypeId} {W0 wr : World} {gr : Nat} {v : Value} {p : Nat} (h : Rd T W0 wr gr v p) (q : Nat) (u : Int) (hu : u = (q : Int)) : Rd T W0 (wr.setCell ⟨gr, 1, none⟩ (.int .i64 u)) gr v q := by
  subst hu
  exact ⟨h.grown.trans (grown_setCell wr gr 1 _), two_setCell h.box _⟩

theorem Rd.lt {T : TypeId} {W0 wr : World} {gr : Nat} {v : Value} {p : Nat} (h : Rd T W0 wr gr v p) : gr < wr.heap.size := (Array.getElem?_eq_some_iff.1 h.box).1

/-- Where nothing that is there turns. -/
theorem Rd.below {T : TypeId} {W0 wr w' : World} {gr : Nat} {v : Value} {p : Nat} (h : Rd T W0 wr gr v p) (hb : Below wr.heap.size wr w') : Rd T W0 w' gr v p := by
  refine ⟨⟨hb.os.trans h.grown.os, hb.tape.trans h.grown.tape, hb.output.trans h.grown.output, Nat.le_trans h.grown.size hb.size, fun k hk hne => ?_⟩, by rw [hb.block gr h.lt]; exact h.box⟩
  rw [hb.block k (Nat.lt_of_lt_of_le hk h.grown.size)]
  exact h.grown.block k hk hne

/-- Where a block alone turns that is new since the reader was looked at. -/
theorem Rd.far {T : TypeId} {W0 w' w'' : World} {gr g : Nat} {v : Value} {p : Nat} (h : Rd T W0 w' gr v p) (h0 : W0.heap.size ≤ g) (hg : gr < g) (hgr : w'.grownBy w'' (some g)) : Rd T W0 w'' gr v p := by
  refine ⟨h.grown.andThen hgr (fun j hj => by cases hj; exact .inl h0), ?_⟩
  rw [hgr.block gr h.lt (fun e => by cases e; omega)]
  exact h.box

/-- The reader's words are as they were. -/
theorem Rd.view {T : TypeId} {W0 wr : World} {gr : Nat} {v : Value} {p : Nat} (h : Rd T W0 wr gr v p) {a : Option Addr} {zs : List Int} (hv : View .u32 W0 a zs) (hne : ∀ b off s, a = some ⟨b, off, s⟩ → b ≠ gr) : View .u32 wr a zs := by
  intro j hj
  obtain ⟨b, off, e, hlt, hc⟩ := hv j hj
  refine ⟨b, off, e, Nat.lt_of_lt_of_le hlt h.grown.size, ?_⟩
  rw [← hc]
  exact World.cell?_of_block (w := W0) (h.grown.block b hlt (fun e' => hne b off none e (by cases e'; rfl)))

/-- What is cut off at the front of a list. -/
theorem View.drop {k : IntKind} {w : World} {b off : Nat} {zs : List Int} (h : View k w (some ⟨b, off, none⟩) zs) (p : Nat) : View k w (some ⟨b, off + p, none⟩) (zs.drop p) := by
  intro j hj
  rw [List.length_drop] at hj
  obtain ⟨b', off', e, hb, hc⟩ := h (p + j) (by omega)
  simp at e
  obtain ⟨rfl, rfl⟩ := e
  refine ⟨b, off + p, rfl, hb, ?_⟩
  rw [Nat.add_assoc, hc]
  simp [nth, List.getD]

/-- The address of a slice that is cut at its front. -/
def cutA (a : Option Addr) (cap p : Nat) : Option Addr := if cap = p then a else a.map (·.add p)

theorem View.cut {k : IntKind} {w : World} {a : Option Addr} {cap : Nat} {zs : List Int} (h : View k w a zs) (hcap : zs.length ≤ cap) (p : Nat) : View k w (cutA a cap p) (zs.drop p) := by
  by_cases hp : p < zs.length
  · obtain ⟨b, off, rfl, _, _⟩ := h p hp
    rw [cutA, if_neg (by omega)]
    have := View.drop h p
    rw [Option.map_some, Addr.add_lit]
    exact this
  · rw [List.drop_of_length_le (by omega)]
    exact view_nil

theorem nth_drop (zs : List Int) (p j : Nat) : nth (zs.drop p) j = nth zs (p + j) := by simp [nth, List.getD]
theorem within_drop {m : Int} {zs : List Int} {n : Nat} (h : Within m zs) : Within m (zs.drop n) := fun z hz => h z (List.mem_of_mem_drop hz)

/-- What the call owns, nil or not, can be read. -/
theorem View.ofOwn {k : IntKind} {w : World} {B e n cap : Nat} {a : Option Addr} {zs : List Int} (h : w.ownsRow B e 1 (.slice a n cap) n (zs.map (Value.int k))) (hl : zs.length = n) : View k w a zs := by
  rcases h.2 with ⟨_, hn⟩ | ⟨g, cap', cur, hv, _⟩
  · have : zs = [] := List.eq_nil_of_length_eq_zero (by rw [hl]; simpa using hn)
    subst this; exact view_nil
  · cases hv; exact View.ofRow h hl

end Go.Proofs.YtjjoggpddafajaaGreat

/-
  Lists of instructions in memory: an operation and a list of words each.
-/
namespace Go.Proofs.YtjjoggpddafajaaGreat
open Go.RowKit

/-- The instruction at a place of a list. -/
def nthR (rs : List (Int × List Int)) (j : Nat) : Int × List Int := rs.getD j (0, [])

/-- What can be read of a slice of instructions. -/
def RawsV (w : World) (a : Option Addr) (rs : List (Int × List Int)) : Prop :=
  ∀ j, j < rs.length → ∃ b off aj cj nj, a = some ⟨b, off, none⟩ ∧ b < w.heap.size ∧ w.cell? ⟨b, off + j * 2, none⟩ = some (.int .u16 (nthR rs j).1) ∧ w.cell? ⟨b, off + j * 2 + 1, none⟩ = some (.slice aj nj cj) ∧ (nthR rs j).2.length = nj ∧ View .u32 w aj (nthR rs j).2 ∧ nj ≤ cj

/-- Each operation, each word and each length lies within its bounds. -/
def RawsOk (rs : List (Int × List Int)) : Prop := ∀ j, j < rs.length → 0 ≤ (nthR rs j).1 ∧ (nthR rs j).1 < 65536 ∧ Within 4294967296 (nthR rs j).2 ∧ 4 * (nthR rs j).2.length ≤ 140737488351232

theorem RawsV.below {w w' : World} {a : Option Addr} {rs : List (Int × List Int)} (h : RawsV w a rs) (hb : Below w.heap.size w w') : RawsV w' a rs := by
  intro j hj
  obtain ⟨b, off, aj, cj, nj, e, hlt, h1, h2, h3, h4, h5⟩ := h j hj
  exact ⟨b, off, aj, cj, nj, e, Nat.lt_of_lt_of_le hlt hb.size, (hb.cell (p := ⟨b, off + j * 2, none⟩) hlt).trans h1, (hb.cell (p := ⟨b, off + j * 2 + 1, none⟩) hlt).trans h2, h3, h4.below hb, h5⟩

theorem rawsV_nil {w : World} {a : Option Addr} : RawsV w a [] := fun j hj => by simp at hj

theorem RawsV.drew {w : World} {a : Option Addr} {rs : List (Int × List Int)} (h : RawsV w a rs) (q : Nat) : RawsV (w.drewN q) a rs := h.below (bel_drewN (Below.refl _ _) q)
theorem View.drew {k : IntKind} {w : World} {a : Option Addr} {zs : List Int} (h : View k w a zs) (q : Nat) : View k (w.drewN q) a zs := h.below (bel_drewN (Below.refl _ _) q)

end Go.Proofs.YtjjoggpddafajaaGreat

/-
  Words of the kit answers true of two lists that are the same.
-/
namespace Go.Proofs.YtjjoggpddafajaaGreat
open Go.RowKit
set_option maxRecDepth 10000

end Go.Proofs.YtjjoggpddafajaaGreat

/-
  raws of the laws of layer 2 answers true of two lists of instructions that are the same; head answers the words of a head.
-/
namespace Go.Proofs.YtjjoggpddafajaaGreat
open Go.RowKit
set_option maxRecDepth 10000

end Go.Proofs.YtjjoggpddafajaaGreat

/-
  SpoilWords of the kit writes over the words of a row of the call's own, and nothing else.
-/
namespace Go.Proofs.YtjjoggpddafajaaGreat
open Go.RowKit
set_option maxRecDepth 10000

end Go.Proofs.YtjjoggpddafajaaGreat

/-
  apart of the laws of layer 2 answers true of instructions each of which lies in memory of its own, and are the wanted ones; what was there ahead of them stays.
-/
namespace Go.Proofs.YtjjoggpddafajaaGreat
open Go.RowKit

theorem Apart.info : (Tryz.prog.info? 22).map (fun i => (i.zero, i.size, i.bytes)) = some (some (.int .u32 0), 1, 4) := by kernel_rfl

/-- The instructions from the k-th on lie each in memory of its own, from block lo on; the row lies elsewhere. -/
def OwnR (w : World) (lo : Nat) (a : Option Addr) (k : Nat) (rs : List (Int × List Int)) : Prop :=
  ∀ j, k ≤ j → j < rs.length → ∃ b off aj cj nj, a = some ⟨b, off, none⟩ ∧ lo ≤ b ∧ b < w.heap.size ∧ w.cell? ⟨b, off + j * 2, none⟩ = some (.int .u16 (nthR rs j).1) ∧ w.cell? ⟨b, off + j * 2 + 1, none⟩ = some (.slice aj nj cj) ∧ (nthR rs j).2.length = nj ∧
    w.ownsRow lo 22 1 (.slice aj nj cj) nj ((nthR rs j).2.map (Value.int .u32)) ∧ Value.ownBlock (.slice aj nj cj) ≠ some b ∧
    ∀ i, k ≤ i → i < rs.length → i ≠ j → ∀ ai ci ni g, w.cell? ⟨b, off + i * 2 + 1, none⟩ = some (.slice ai ni ci) → Value.ownBlock (.slice ai ni ci) = some g → Value.ownBlock (.slice aj nj cj) ≠ some g

theorem own_grown {w w' : World} {B e size n : Nat} {v : Value} {xs : List Value} {ob : Option Nat} (h : w.ownsRow B e size v n xs) (hg : w.grownBy w' ob) (hne : ∀ g, ob = some g → v.ownBlock ≠ some g) : w'.ownsRow B e size v n xs := by
  refine ⟨h.1, ?_⟩
  rcases h.2 with hn | ⟨g, cap, cur, rfl, hb, hgg, rest⟩
  · exact .inl hn
  · exact .inr ⟨g, cap, cur, rfl, hb, by rw [hg.block g (Array.getElem?_eq_some_iff.1 hgg).1 (fun e => hne g e.symm rfl)]; exact hgg, rest⟩

/-- What is written in one instruction's words leaves the later ones. -/
theorem OwnR.next {w w' : World} {lo k b off : Nat} {a : Option Addr} {rs : List (Int × List Int)} {ak : Option Addr} {nk ck : Nat} (h : OwnR w lo a k rs) (ha : a = some ⟨b, off, none⟩) (hk : k < rs.length) (hc : w.cell? ⟨b, off + k * 2 + 1, none⟩ = some (.slice ak nk ck)) (hg : w.grownBy w' (Value.ownBlock (.slice ak nk ck))) : OwnR w' lo a (k + 1) rs := by
  obtain ⟨b0, off0, ak0, ck0, nk0, e0, _, _, _, hc0, _, _, hnb, _⟩ := h k (Nat.le_refl _) hk
  rw [ha] at e0
  simp at e0
  obtain ⟨rfl, rfl⟩ := e0
  rw [hc] at hc0
  simp at hc0
  obtain ⟨rfl, rfl, rfl⟩ := hc0
  have cell : ∀ o, w'.cell? ⟨b, o, none⟩ = w.cell? ⟨b, o, none⟩ := fun o => World.cell?_of_block (hg.block b (World.block_lt_of_cell? _ _ hc) (fun e => hnb e.symm))
  intro j hj hjl
  obtain ⟨b1, off1, aj, cj, nj, e1, hlo1, hb1, c1, c2, c3, c4, c5, c6⟩ := h j (by omega) hjl
  rw [ha] at e1
  simp at e1
  obtain ⟨rfl, rfl⟩ := e1
  refine ⟨b, off, aj, cj, nj, ha, hlo1, Nat.lt_of_lt_of_le hb1 hg.size, (cell _).trans c1, (cell _).trans c2, c3, own_grown c4 hg (fun g e => c6 k (Nat.le_refl _) hk (by omega) ak ck nk g hc e), c5, ?_⟩
  intro i hi hil hij ai ci ni g hci
  rw [cell] at hci
  exact c6 i (by omega) hil hij ai ci ni g hci

theorem grown_drew (w : World) (q : Nat) (ob : Option Nat) : w.grownBy (w.drewN q) ob := by
  have h := bel_drewN (Below.refl w.heap.size w) q
  exact ⟨h.os, h.tape, h.output, h.size, fun k hk _ => h.block k hk⟩

/-- An append and what is written in its row: nothing but the old row and new blocks. -/
theorem grown_new {w w1 w2 : World} {ob : Option Nat} {g H : Nat} (h1 : w.grownBy w1 ob) (hat : ob = some g ∨ g = H) (hH : w.heap.size = H) (h2 : w1.grownBy w2 (some g)) : w.grownBy w2 ob :=
  ⟨h2.os.trans h1.os, h2.tape.trans h1.tape, h2.output.trans h1.output, Nat.le_trans h1.size h2.size, fun k hk hne =>
    (h2.block k (Nat.lt_of_lt_of_le hk h1.size) (fun e => by
      cases e
      rcases hat with h | h
      · exact hne h.symm
      · omega)).trans (h1.block k hk hne)⟩

/-- What is written elsewhere leaves them all. -/
theorem OwnR.kept {w w' : World} {lo lo' k : Nat} {a : Option Addr} {rs : List (Int × List Int)} {ob : Option Nat} (h : OwnR w lo a k rs) (hg : w.grownBy w' ob) (hob : ∀ g, ob = some g → g < lo) (hlo : lo' ≤ lo) : OwnR w' lo' a k rs := by
  intro j hj hjl
  obtain ⟨b, off, aj, cj, nj, e1, hlo1, hb1, c1, c2, c3, c4, c5, c6⟩ := h j hj hjl
  have hne : some b ≠ ob := fun e => by have := hob b e.symm; omega
  have cell : ∀ o, w'.cell? ⟨b, o, none⟩ = w.cell? ⟨b, o, none⟩ := fun o => World.cell?_of_block (hg.block b hb1 hne)
  have c4' := own_grown c4 hg (fun g e e2 => by have := (c4.lt g e2).1; have := hob g e; omega)
  refine ⟨b, off, aj, cj, nj, e1, Nat.le_trans hlo hlo1, Nat.lt_of_lt_of_le hb1 hg.size, (cell _).trans c1, (cell _).trans c2, c3, ⟨c4'.1, ?_⟩, c5, fun i hi hil hij ai ci ni g hci => by rw [cell] at hci; exact c6 i hi hil hij ai ci ni g hci⟩
  rcases c4'.2 with h0 | ⟨g, cap, cur, e, hb, rest⟩
  · exact .inl h0
  · exact .inr ⟨g, cap, cur, e, Nat.le_trans hlo hb, rest⟩
theorem OwnR.below {w w' : World} {lo k : Nat} {a : Option Addr} {rs : List (Int × List Int)} (h : OwnR w lo a k rs) (hb : Below w.heap.size w w') : OwnR w' lo a k rs :=
  h.kept (ob := none) ⟨hb.os, hb.tape, hb.output, hb.size, fun k hk _ => hb.block k hk⟩ (fun g e => by cases e) (Nat.le_refl _)

theorem OwnR.view {w : World} {lo : Nat} {a : Option Addr} {rs : List (Int × List Int)} (h : OwnR w lo a 0 rs) : RawsV w a rs := by
  intro j hj
  obtain ⟨b, off, aj, cj, nj, e, _, hb, c1, c2, c3, c4, _⟩ := h j (Nat.zero_le _) hj
  refine ⟨b, off, aj, cj, nj, e, hb, c1, c2, c3, View.ofOwn c4 c3, ?_⟩
  rcases c4.2 with ⟨e1, e2⟩ | ⟨g, c', cur, e1, _, _, e4, _⟩
  · omega
  · cases e1; exact e4

end Go.Proofs.YtjjoggpddafajaaGreat

/-
  Arguments, instructions and modules in memory: what can be read of them.
-/
namespace Go.Proofs.YtjjoggpddafajaaGreat
open Go.RowKit

/-- An argument: its kind, its number, its text. -/
abbrev ArgT := Int × Int × ByteArray
def argV (x : ArgT) : Value := .agg #[.int .u8 x.1, .int .u32 x.2.1, .string x.2.2]
def noArg : ArgT := (0, 0, ⟨#[]⟩)
def argC (x : ArgT) : List Value := [.int .u8 x.1, .int .u32 x.2.1, .string x.2.2]
def nthA (l : List ArgT) (j : Nat) : ArgT := l.getD j noArg

theorem str_inj {a b : ByteArray} (h : a.toList = b.toList) : a = b := by
  rw [ByteArray.toList_eq, ByteArray.toList_eq] at h
  exact Go.WideShapes.bytes_inj h

/-- What can be read of a slice of arguments. -/
def ArgsV (w : World) (a : Option Addr) (l : List ArgT) : Prop :=
  ∀ j, j < l.length → ∃ b off, a = some ⟨b, off, none⟩ ∧ b < w.heap.size ∧ w.cell? ⟨b, off + j * 3, none⟩ = some (.int .u8 (nthA l j).1) ∧ w.cell? ⟨b, off + j * 3 + 1, none⟩ = some (.int .u32 (nthA l j).2.1) ∧ w.cell? ⟨b, off + j * 3 + 2, none⟩ = some (.string (nthA l j).2.2)

def ArgOk (x : ArgT) : Prop := 0 ≤ x.1 ∧ x.1 < 256 ∧ 0 ≤ x.2.1 ∧ x.2.1 < 4294967296 ∧ x.2.2.size ≤ 140737488351232
/-- Each kind, number and length lies within its bounds. -/
def ArgsOk (l : List ArgT) : Prop := ∀ j, j < l.length → ArgOk (nthA l j)

theorem argsV_nil {w : World} {a : Option Addr} : ArgsV w a [] := fun j hj => by simp at hj
theorem argsOk_nil : ArgsOk [] := fun j hj => by simp at hj

theorem ArgsV.below {w w' : World} {a : Option Addr} {l : List ArgT} (h : ArgsV w a l) (hb : Below w.heap.size w w') : ArgsV w' a l := by
  intro j hj
  obtain ⟨b, off, e, hlt, h1, h2, h3⟩ := h j hj
  exact ⟨b, off, e, Nat.lt_of_lt_of_le hlt hb.size, (hb.cell (p := ⟨b, off + j * 3, none⟩) hlt).trans h1, (hb.cell (p := ⟨b, off + j * 3 + 1, none⟩) hlt).trans h2, (hb.cell (p := ⟨b, off + j * 3 + 2, none⟩) hlt).trans h3⟩
theorem ArgsV.drew {w : World} {a : Option Addr} {l : List ArgT} (h : ArgsV w a l) (q : Nat) : ArgsV (w.drewN q) a l := h.below (bel_drewN (Below.refl _ _) q)
theorem ArgsV.setCell {w : World} {a : Option Addr} {l : List ArgT} (h : ArgsV w a l) {g i : Nat} (hg : ∀ b off, a = some ⟨b, off, none⟩ → b ≠ g) (v : Value) : ArgsV (w.setCell ⟨g, i, none⟩ v) a l := by
  intro j hj
  obtain ⟨b, off, e, hlt, h1, h2, h3⟩ := h j hj
  have hne := hg b off e
  have hx : (w.setCell ⟨g, i, none⟩ v).heap[b]? = w.heap[b]? := Below.heap_setCell _ _ _ _ (by simpa using hne)
  refine ⟨b, off, e, by simpa using hlt, ?_, ?_, ?_⟩
  · simp only [World.cell?, hx] at h1 ⊢; exact h1
  · simp only [World.cell?, hx] at h2 ⊢; exact h2
  · simp only [World.cell?, hx] at h3 ⊢; exact h3

/-- An instruction: its operation, its type, its result, its arguments. -/
abbrev InstT := Int × Int × Int × List ArgT
def instV (x : InstT) (a : Option Addr) (n c : Nat) : Value := .agg #[.int .u16 x.1, .int .u32 x.2.1, .int .u32 x.2.2.1, .slice a n c]
def noInst : InstT := (0, 0, 0, [])
def nthI (l : List InstT) (j : Nat) : InstT := l.getD j noInst
def InstOk (x : InstT) : Prop := 0 ≤ x.1 ∧ x.1 < 65536 ∧ 0 ≤ x.2.1 ∧ x.2.1 < 4294967296 ∧ 0 ≤ x.2.2.1 ∧ x.2.2.1 < 4294967296 ∧ ArgsOk x.2.2.2 ∧ 24 * x.2.2.2.length ≤ 140737488351232
def InstsOk (l : List InstT) : Prop := ∀ j, j < l.length → InstOk (nthI l j)

/-- What can be read of a slice of instructions with their arguments. -/
def InstsV (w : World) (a : Option Addr) (l : List InstT) : Prop :=
  ∀ j, j < l.length → ∃ b off aj cj nj, a = some ⟨b, off, none⟩ ∧ b < w.heap.size ∧ w.cell? ⟨b, off + j * 4, none⟩ = some (.int .u16 (nthI l j).1) ∧ w.cell? ⟨b, off + j * 4 + 1, none⟩ = some (.int .u32 (nthI l j).2.1) ∧ w.cell? ⟨b, off + j * 4 + 2, none⟩ = some (.int .u32 (nthI l j).2.2.1) ∧
    w.cell? ⟨b, off + j * 4 + 3, none⟩ = some (.slice aj nj cj) ∧ (nthI l j).2.2.2.length = nj ∧ ArgsV w aj (nthI l j).2.2.2 ∧ nj ≤ cj

theorem instsV_nil {w : World} {a : Option Addr} : InstsV w a [] := fun j hj => by simp at hj
theorem instsOk_nil : InstsOk [] := fun j hj => by simp at hj
theorem InstsV.below {w w' : World} {a : Option Addr} {l : List InstT} (h : InstsV w a l) (hb : Below w.heap.size w w') : InstsV w' a l := by
  intro j hj
  obtain ⟨b, off, aj, cj, nj, e, hlt, h1, h2, h3, h4, h5, h6, h7⟩ := h j hj
  exact ⟨b, off, aj, cj, nj, e, Nat.lt_of_lt_of_le hlt hb.size, (hb.cell (p := ⟨b, off + j * 4, none⟩) hlt).trans h1, (hb.cell (p := ⟨b, off + j * 4 + 1, none⟩) hlt).trans h2, (hb.cell (p := ⟨b, off + j * 4 + 2, none⟩) hlt).trans h3, (hb.cell (p := ⟨b, off + j * 4 + 3, none⟩) hlt).trans h4, h5, h6.below hb, h7⟩
theorem InstsV.drew {w : World} {a : Option Addr} {l : List InstT} (h : InstsV w a l) (q : Nat) : InstsV (w.drewN q) a l := h.below (bel_drewN (Below.refl _ _) q)

theorem nthA_lt (l : List ArgT) (j : Nat) (h : j < l.length) : nthA l j = l[j] := by simp [nthA, List.getD, h]
theorem nthI_lt (l : List InstT) (j : Nat) (h : j < l.length) : nthI l j = l[j] := by simp [nthI, List.getD, h]
theorem nthA_lo (l : List ArgT) (x : ArgT) (j : Nat) (h : j < l.length) : nthA (l ++ [x]) j = nthA l j := by simp [nthA, List.getD, List.getElem?_append_left h]
theorem nthA_hi (l : List ArgT) (x : ArgT) : nthA (l ++ [x]) l.length = x := by simp [nthA, List.getD]
theorem nthI_lo (l : List InstT) (x : InstT) (j : Nat) (h : j < l.length) : nthI (l ++ [x]) j = nthI l j := by simp [nthI, List.getD, List.getElem?_append_left h]
theorem nthI_hi (l : List InstT) (x : InstT) : nthI (l ++ [x]) l.length = x := by simp [nthI, List.getD]
theorem argsOk_push {l : List ArgT} {x : ArgT} (h : ArgsOk l) (hx : ArgOk x) : ArgsOk (l ++ [x]) := by
  intro j hj
  rw [List.length_append, List.length_singleton] at hj
  by_cases hjl : j < l.length
  · rw [nthA_lo _ _ _ hjl]; exact h j hjl
  · obtain rfl : j = l.length := by omega
    rw [nthA_hi]; exact hx

/-- Two lists are the same just if they are as long and the same at each place. -/
theorem argsEq_iff (l m : List ArgT) : l = m ↔ l.length = m.length ∧ ∀ j, j < l.length → nthA l j = nthA m j := by
  constructor
  · rintro rfl; exact ⟨rfl, fun _ _ => rfl⟩
  · rintro ⟨h1, h2⟩
    refine List.ext_getElem h1 fun j hj hj' => ?_
    have := h2 j hj
    rw [nthA_lt _ _ hj, nthA_lt _ _ hj'] at this
    exact this
theorem instsEq_iff (l m : List InstT) : l = m ↔ l.length = m.length ∧ ∀ j, j < l.length → nthI l j = nthI m j := by
  constructor
  · rintro rfl; exact ⟨rfl, fun _ _ => rfl⟩
  · rintro ⟨h1, h2⟩
    refine List.ext_getElem h1 fun j hj hj' => ?_
    have := h2 j hj
    rw [nthI_lt _ _ hj, nthI_lt _ _ hj'] at this
    exact this

end Go.Proofs.YtjjoggpddafajaaGreat

/-
  Plain facts on strings as lists of numbers from 0 to 255: a text's words.
-/
namespace Go.Proofs.YtjjoggpddafajaaGreat
open Go.RowKit

theorem size_list (s : ByteArray) : s.data.toList.length = s.size := by rw [Array.length_toList]; rfl

/-- A string's bytes, as numbers. -/
def strI (s : ByteArray) : List Int := s.data.toList.map fun b => (b.toNat : Int)

theorem strI_len (s : ByteArray) : (strI s).length = s.size := by rw [strI, List.length_map, size_list]
theorem strI_within (s : ByteArray) : Within 256 (strI s) := by
  intro z hz
  simp only [strI, List.mem_map] at hz
  obtain ⟨b, _, rfl⟩ := hz
  have := b.toNat_lt
  omega
theorem nth_strI (s : ByteArray) (k : Nat) (h : k < s.size) : nth (strI s) k = (s[k].toNat : Int) := by
  have h' : k < s.data.toList.length := by rw [size_list]; exact h
  have e : s[k] = s.data.toList[k] := rfl
  rw [e]
  have h2 : (strI s)[k]? = some ((s.data.toList[k].toNat : Int)) := by rw [strI, List.getElem?_map, List.getElem?_eq_getElem h']; rfl
  rw [nth, List.getD, h2]; rfl
/-- The string is what its numbers make. -/
theorem str_of_strI (s : ByteArray) : strOfNums (strI s) = s := by
  have e : (strI s).map (fun n => UInt8.ofNat n.toNat) = s.data.toList := by
    simp [strI, Function.comp_def]
  unfold strOfNums
  rw [e]

/-- No byte 0. -/
def NoNul (s : ByteArray) : Prop := ∀ k, k < s.size → nth (strI s) k ≠ 0

theorem index_none (s : ByteArray) (h : NoNul s) : Lib.indexByte s.data.toList (0 : Int).toNat.toUInt8 = -1 := by
  have hge := Lib.indexByte_ge s.data.toList (0 : Int).toNat.toUInt8
  apply Classical.byContradiction
  intro hne
  obtain ⟨o, ho⟩ : ∃ o : Nat, Lib.indexByte s.data.toList (0 : Int).toNat.toUInt8 = o := ⟨(Lib.indexByte s.data.toList (0 : Int).toNat.toUInt8).toNat, by omega⟩
  have := (Lib.indexByte_some ho).1
  have hlt : o < s.data.toList.length := by
    rcases Nat.lt_or_ge o s.data.toList.length with h1 | h1
    · exact h1
    · rw [List.getElem?_eq_none h1] at this; simp at this
  have hs : o < s.size := by rw [← size_list]; exact hlt
  apply h o hs
  rw [nth_strI s o hs]
  have e : s[o] = s.data.toList[o] := rfl
  rw [List.getElem?_eq_getElem hlt] at this
  rw [e, Option.some.inj this]
  rfl
theorem index_some (s : ByteArray) (k : Nat) (hk : k < s.size) (h : nth (strI s) k = 0) : 0 ≤ Lib.indexByte s.data.toList (0 : Int).toNat.toUInt8 := by
  have hge := Lib.indexByte_ge s.data.toList (0 : Int).toNat.toUInt8
  apply Classical.byContradiction
  intro hne
  have hm : Lib.indexByte s.data.toList (0 : Int).toNat.toUInt8 = -1 := by omega
  have := Lib.indexByte_none hm k
  have hlt : k < s.data.toList.length := by rw [size_list]; exact hk
  apply this
  rw [List.getElem?_eq_getElem hlt]
  rw [nth_strI s k hk] at h
  have e : s[k] = s.data.toList[k] := rfl
  rw [e] at h
  have : s.data.toList[k].toNat = 0 := by omega
  exact congrArg some (UInt8.toNat_inj.1 this)

/-- A text's bytes, a byte 0, and as many more as make whole words. -/
def padI (s : ByteArray) : List Int := filled (strI s) s.size (4 * (s.size / 4 + 1))
/-- A text's words. -/
def textW (s : ByteArray) : List Int := splitL (padI s)

theorem padI_len (s : ByteArray) : (padI s).length = 4 * (s.size / 4 + 1) := filled_len _ _ _ (by omega) (by rw [strI_len]; omega)
theorem textW_len (s : ByteArray) : (textW s).length = s.size / 4 + 1 := by rw [textW, splitL_len, padI_len]; omega
theorem padI_lo (s : ByteArray) (k : Nat) (h : k < s.size) : nth (padI s) k = nth (strI s) k := by
  have e : (strI s).take s.size = strI s := List.take_of_length_le (by rw [strI_len]; omega)
  rw [padI, filled, e, getD_left _ _ _ (by rw [strI_len]; exact h)]
theorem padI_hi (s : ByteArray) (k : Nat) (h : s.size ≤ k) : nth (padI s) k = 0 := by
  have e : (strI s).take s.size = strI s := List.take_of_length_le (by rw [strI_len]; omega)
  rw [padI, filled, e, getD_right _ _ _ (by rw [strI_len]; exact h)]
  simp only [nth, List.getD, List.getElem?_replicate]
  split <;> rfl
theorem padI_within (s : ByteArray) : Within 256 (padI s) := by
  intro z hz
  simp only [padI, filled, List.mem_append, List.mem_replicate] at hz
  rcases hz with hz | ⟨_, rfl⟩
  · exact strI_within s z (List.mem_of_mem_take hz)
  · omega
/-- What lies behind the text's bytes is 0: the row is whole when they are in it. -/
theorem partL_padI (s : ByteArray) : partL (padI s) s.size (s.size / 4 + 1) = textW s := by
  have h := partL_whole (padI s) (by rw [padI_len]; omega)
  rw [padI_len, show 4 * (s.size / 4 + 1) / 4 = s.size / 4 + 1 by omega] at h
  rw [textW, ← h]
  unfold partL
  apply List.map_congr_left
  intro k hk
  have hk' : k < s.size / 4 + 1 := List.mem_range.1 hk
  unfold partW
  rw [if_pos (show 4 * k < 4 * (s.size / 4 + 1) by omega), if_pos (show 4 * k + 1 < 4 * (s.size / 4 + 1) by omega), if_pos (show 4 * k + 2 < 4 * (s.size / 4 + 1) by omega), if_pos (show 4 * k + 3 < 4 * (s.size / 4 + 1) by omega)]
  have f : ∀ i, (if i < s.size then nth (padI s) i else 0) = nth (padI s) i := fun i => by
    split
    · rfl
    · rw [padI_hi s i (by omega)]
  have f' : ∀ i (c : Int), (if i < s.size then nth (padI s) i * c else 0) = nth (padI s) i * c := fun i c => by
    split
    · rfl
    · rw [padI_hi s i (by omega)]; omega
  rw [f, f', f', f']

end Go.Proofs.YtjjoggpddafajaaGreat
