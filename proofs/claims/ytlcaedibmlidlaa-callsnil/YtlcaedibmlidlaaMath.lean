/-
  Plain arithmetic for the layer of words: the four bytes of a word, a word out of four bytes, and that 'or' of parts that do not overlap is their sum. No condition but the bounds that each lemma names.
-/
import Derived.WalkKit
import Derived.Laws.BitsAllLaws
import Derived.WalkSmall
import Derived.OpenShut
import Derived.ProofKit
namespace Go.Proofs.Ytlcaedibmlidlaa
open Go.RowKit

theorem ret_int {k : IntKind} {a b : Int} (h : a = b) : Ending.returned (.int k a) = .returned (.int k b) := by rw [h]

/-- The number at a place of a list (0 behind its end). -/
def nth (zs : List Int) (k : Nat) : Int := zs.getD k 0

/-- The byte of a word at a place. -/
def byt (x : Int) (p : Nat) : Int := x / 256 ^ p % 256

theorem byt_lo (x : Int) (p : Nat) : 0 ≤ byt x p := Int.emod_nonneg _ (by decide)
theorem byt_hi (x : Int) (p : Nat) : byt x p < 256 := Int.emod_lt_of_pos _ (by decide)

/-- A byte at a place of a word. -/
def plc (c : Int) (p : Nat) : Int := c * 256 ^ p

theorem or_u32 (a b s : Nat) (hb : b < 2 ^ s) (h : a * 2 ^ s + b < 4294967296) : bits .or .u32 ((a * 2 ^ s : Nat) : Int) (b : Int) = ((a * 2 ^ s + b : Nat) : Int) := by
  rw [u32_or_nat _ _ (by omega) (by omega), ← Nat.shiftLeft_eq, Nat.shiftLeft_add_eq_or_of_lt hb]

theorem or_u32' (a b s : Nat) (hb : b < 2 ^ s) (h : a * 2 ^ s + b < 4294967296) : bits .or .u32 (b : Int) ((a * 2 ^ s : Nat) : Int) = ((a * 2 ^ s + b : Nat) : Int) := by
  rw [u32_or_nat _ _ (by omega) (by omega), Nat.or_comm, ← Nat.shiftLeft_eq, Nat.shiftLeft_add_eq_or_of_lt hb]

/-- High first: the low part comes to it. -/
theorem or_high (a b : Int) (s : Nat) (ha : 0 ≤ a) (hb0 : 0 ≤ b) (hb : b < 2 ^ s) (h : a * 2 ^ s + b < 4294967296) : bits .or .u32 (a * 2 ^ s) b = a * 2 ^ s + b := by
  obtain ⟨m, rfl⟩ := Int.eq_ofNat_of_zero_le ha
  obtain ⟨n, rfl⟩ := Int.eq_ofNat_of_zero_le hb0
  have e : ((m : Int) * 2 ^ s) = ((m * 2 ^ s : Nat) : Int) := by simp
  rw [e] at h ⊢
  rw [or_u32 m n s (by have : ((n : Nat) : Int) < ((2 ^ s : Nat) : Int) := by simpa using hb
                       omega) (by omega)]
  simp

/-- Low first: the high part comes to it. -/
theorem or_low (a b : Int) (s : Nat) (ha : 0 ≤ a) (hb0 : 0 ≤ b) (hb : b < 2 ^ s) (h : a * 2 ^ s + b < 4294967296) : bits .or .u32 b (a * 2 ^ s) = b + a * 2 ^ s := by
  obtain ⟨m, rfl⟩ := Int.eq_ofNat_of_zero_le ha
  obtain ⟨n, rfl⟩ := Int.eq_ofNat_of_zero_le hb0
  have e : ((m : Int) * 2 ^ s) = ((m * 2 ^ s : Nat) : Int) := by simp
  rw [e] at h ⊢
  rw [or_u32' m n s (by have : ((n : Nat) : Int) < ((2 ^ s : Nat) : Int) := by simpa using hb
                        omega) (by omega)]
  simp; omega

theorem or_zero (b : Int) (hb0 : 0 ≤ b) (hb : b < 4294967296) : bits .or .u32 0 b = b := by
  have := or_high 0 b 32 (by omega) hb0 (by omega) (by omega)
  simpa using this

/-- The word turned round. -/
def turnI (x : Int) : Int := byt x 0 * 16777216 + byt x 1 * 65536 + byt x 2 * 256 + byt x 3

theorem byt0 (x : Int) : byt x 0 = x % 256 := by simp [byt]
theorem byt1 (x : Int) : byt x 1 = x / 256 % 256 := by simp [byt]
theorem byt2 (x : Int) : byt x 2 = x / 65536 % 256 := by simp [byt]
theorem byt3 (x : Int) : byt x 3 = x / 16777216 % 256 := by simp [byt]

theorem turnI_lo (x : Int) : 0 ≤ turnI x := by
  have := byt_lo x 0; have := byt_lo x 1; have := byt_lo x 2; have := byt_lo x 3
  unfold turnI; omega
theorem turnI_hi (x : Int) : turnI x < 4294967296 := by
  have := byt_hi x 0; have := byt_hi x 1; have := byt_hi x 2; have := byt_hi x 3
  unfold turnI; omega
theorem turnI_byt0 (x : Int) : byt (turnI x) 0 = byt x 3 := by
  have := byt_lo x 0; have := byt_lo x 1; have := byt_lo x 2; have := byt_lo x 3
  have := byt_hi x 0; have := byt_hi x 1; have := byt_hi x 2; have := byt_hi x 3
  rw [byt0 (turnI x)]; unfold turnI; omega
theorem turnI_byt1 (x : Int) : byt (turnI x) 1 = byt x 2 := by
  have := byt_lo x 0; have := byt_lo x 1; have := byt_lo x 2; have := byt_lo x 3
  have := byt_hi x 0; have := byt_hi x 1; have := byt_hi x 2; have := byt_hi x 3
  rw [byt1 (turnI x)]; unfold turnI; omega
theorem turnI_byt2 (x : Int) : byt (turnI x) 2 = byt x 1 := by
  have := byt_lo x 0; have := byt_lo x 1; have := byt_lo x 2; have := byt_lo x 3
  have := byt_hi x 0; have := byt_hi x 1; have := byt_hi x 2; have := byt_hi x 3
  rw [byt2 (turnI x)]; unfold turnI; omega
theorem turnI_byt3 (x : Int) : byt (turnI x) 3 = byt x 0 := by
  have := byt_lo x 0; have := byt_lo x 1; have := byt_lo x 2; have := byt_lo x 3
  have := byt_hi x 0; have := byt_hi x 1; have := byt_hi x 2; have := byt_hi x 3
  rw [byt3 (turnI x)]; unfold turnI; omega

/-- A word is its four bytes. -/
theorem of_byt (x : Int) (h0 : 0 ≤ x) (h1 : x < 4294967296) : byt x 0 + byt x 1 * 256 + byt x 2 * 65536 + byt x 3 * 16777216 = x := by
  rw [byt0, byt1, byt2, byt3]; omega

theorem turnI_turnI (x : Int) (h0 : 0 ≤ x) (h1 : x < 4294967296) : turnI (turnI x) = x := by
  have e : turnI (turnI x) = byt (turnI x) 0 * 16777216 + byt (turnI x) 1 * 65536 + byt (turnI x) 2 * 256 + byt (turnI x) 3 := rfl
  rw [e, turnI_byt0, turnI_byt1, turnI_byt2, turnI_byt3]
  have := of_byt x h0 h1
  omega

theorem plc0 (c : Int) : plc c 0 = c := by simp [plc]
theorem plc1 (c : Int) : plc c 1 = c * 256 := by simp [plc]
theorem plc2 (c : Int) : plc c 2 = c * 65536 := by simp [plc]
theorem plc3 (c : Int) : plc c 3 = c * 16777216 := by simp [plc]

/-- The four parts put together, the highest first. -/
theorem or_four_high (a b c d : Int) (a0 : 0 ≤ a) (a1 : a < 256) (b0 : 0 ≤ b) (b1 : b < 256) (c0 : 0 ≤ c) (c1 : c < 256) (d0 : 0 ≤ d) (d1 : d < 256) :
    bits .or .u32 (bits .or .u32 (bits .or .u32 (bits .or .u32 0 (plc a 3)) (plc b 2)) (plc c 1)) (plc d 0) = a * 16777216 + b * 65536 + c * 256 + d := by
  rw [plc0, plc1, plc2, plc3, or_zero _ (by omega) (by omega)]
  have e1 := or_high a (b * 65536) 24 a0 (by omega) (by omega) (by omega)
  have e2 := or_high (a * 256 + b) (c * 256) 16 (by omega) (by omega) (by omega) (by omega)
  have e3 := or_high (a * 65536 + b * 256 + c) d 8 (by omega) (by omega) (by omega) (by omega)
  rw [show (a * 2 ^ 24 : Int) = a * 16777216 by omega] at e1
  rw [show ((a * 256 + b) * 2 ^ 16 : Int) = a * 16777216 + b * 65536 by omega] at e2
  rw [show ((a * 65536 + b * 256 + c) * 2 ^ 8 : Int) = a * 16777216 + b * 65536 + c * 256 by omega] at e3
  rw [e1, e2, e3]

/-! ### lists of words and bytes -/

/-- A word's four bytes. -/
def four (x : Int) : List Int := [byt x 0, byt x 1, byt x 2, byt x 3]
/-- The bytes of words. -/
def joinL (zs : List Int) : List Int := zs.flatMap four

theorem four_len (x : Int) : (four x).length = 4 := rfl
theorem joinL_len (zs : List Int) : (joinL zs).length = 4 * zs.length := by
  induction zs with
  | nil => rfl
  | cons z zs ih => simp only [joinL, List.flatMap_cons, List.length_append, four_len, List.length_cons] at ih ⊢; omega
theorem take_snoc (zs : List Int) (k : Nat) (h : k < zs.length) : zs.take (k + 1) = zs.take k ++ [nth zs k] := by
  rw [List.take_succ_eq_append_getElem h]; simp [nth, List.getD, h]
theorem joinL_snoc (zs : List Int) (k : Nat) (h : k < zs.length) : joinL (zs.take (k + 1)) = joinL (zs.take k) ++ four (nth zs k) := by
  rw [take_snoc zs k h]; simp [joinL]
theorem four_snoc (x : Int) (p : Nat) (h : p < 4) : (four x).take (p + 1) = (four x).take p ++ [byt x p] := by
  match p, h with
  | 0, _ => rfl
  | 1, _ => rfl
  | 2, _ => rfl
  | 3, _ => rfl
theorem four_whole (x : Int) : (four x).take 4 = four x := rfl

/-- What can be read of a slice of integers: each of its cells, in a block that is there. -/
def View (k : IntKind) (w : World) (a : Option Addr) (zs : List Int) : Prop :=
  ∀ j, j < zs.length → ∃ b off, a = some ⟨b, off, none⟩ ∧ b < w.heap.size ∧ w.cell? ⟨b, off + j, none⟩ = some (.int k (nth zs j))

/-- Every number lies in 0 to m - 1. -/
def Within (m : Int) (zs : List Int) : Prop := ∀ z ∈ zs, 0 ≤ z ∧ z < m

theorem Within.at {m : Int} {zs : List Int} (h : Within m zs) {k : Nat} (hk : k < zs.length) : 0 ≤ nth zs k ∧ nth zs k < m := by
  have e : nth zs k = zs[k] := by simp [nth, List.getD, hk]
  rw [e]; exact h _ (List.getElem_mem hk)

theorem View.below {k : IntKind} {w w' : World} {a : Option Addr} {zs : List Int} (h : View k w a zs) (hb : Below w.heap.size w w') : View k w' a zs := by
  intro j hj
  obtain ⟨b, off, e, hlt, hc⟩ := h j hj
  exact ⟨b, off, e, Nat.lt_of_lt_of_le hlt hb.size, (hb.cell (p := ⟨b, off + j, none⟩) hlt).trans hc⟩

theorem bel_drewN {B : Nat} {a w : World} (h : Below B a w) (n : Nat) : Below B a (w.drewN n) := h.trans ⟨rfl, rfl, rfl, Nat.le_refl _, fun _ _ => rfl⟩

/-- What the call owns can be read. -/
theorem View.ofRow {k : IntKind} {w : World} {B e g n cap : Nat} {zs : List Int} (h : w.ownsRow B e 1 (.slice (some ⟨g, 0, none⟩) n cap) n (zs.map (Value.int k))) (hl : zs.length = n) : View k w (some ⟨g, 0, none⟩) zs := by
  intro j hj
  have hc := h.cellAt j (by omega)
  have e : (zs.map (Value.int k))[j]? = some (.int k (nth zs j)) := by simp [nth, List.getD, hj]
  rw [e] at hc
  exact ⟨g, 0, rfl, World.block_lt_of_cell? _ _ hc, by rw [Nat.zero_add]; exact hc⟩

/-- What the call owns stays owned where nothing old has turned. -/
theorem own_below {w w' : World} {B e size n : Nat} {v : Value} {xs : List Value} (h : w.ownsRow B e size v n xs) (hb : Below w.heap.size w w') : w'.ownsRow B e size v n xs := by
  refine ⟨h.1, ?_⟩
  rcases h.2 with hn | ⟨g, cap, cur, rfl, hg, hgg, rest⟩
  · exact .inl hn
  · exact .inr ⟨g, cap, cur, rfl, hg, by rw [hb.block g (Array.getElem?_eq_some_iff.1 hgg).1]; exact hgg, rest⟩

theorem view_nil {k : IntKind} {w : World} {a : Option Addr} : View k w a [] := fun j hj => by simp at hj
theorem within_nil {m : Int} : Within m [] := fun z hz => by simp at hz
theorem within_take {m : Int} {zs : List Int} {n : Nat} (h : ∀ z ∈ zs, 0 ≤ z ∧ z < m) : Within m (zs.take n) := fun z hz => h z (List.mem_of_mem_take hz)
theorem view_take {k : IntKind} {w : World} {x : Addr} {zs : List Int} {n : Nat} (hcell : ∀ i, i < zs.length → w.cell? (x.add i) = some (.int k (nth zs i))) (hn : n ≤ zs.length) : View k w (some x) (zs.take n) := by
  intro j hj
  rw [List.length_take] at hj
  have hc0 := hcell 0 (by omega)
  have hc := hcell j (by omega)
  obtain ⟨b, off, spot⟩ := x
  have hs : spot = none := by simpa [Addr.add] using World.cell?_spot hc0
  subst hs
  have hc' : w.cell? ⟨b, off + j, none⟩ = some (.int k (nth zs j)) := by rw [← Addr.add_lit]; exact hc
  refine ⟨b, off, rfl, World.block_lt_of_cell? _ _ hc', ?_⟩
  rw [hc']
  simp [nth, List.getD, show j < n by omega]

/-! ### a row that is filled from its head on -/

/-- The first k numbers, and zeros up to n. -/
def filled (zs : List Int) (k n : Nat) : List Int := zs.take k ++ List.replicate (n - k) 0

theorem filled_len (zs : List Int) (k n : Nat) (hk : k ≤ n) (hz : k ≤ zs.length) : (filled zs k n).length = n := by
  simp only [filled, List.length_append, List.length_take, List.length_replicate]; omega
theorem filled_whole (zs : List Int) (n : Nat) (hz : zs.length = n) : filled zs n n = zs := by
  subst hz; simp [filled]
theorem filled_zero (zs : List Int) (n : Nat) : filled zs 0 n = List.replicate n 0 := by simp [filled]
theorem filled_at (zs : List Int) (k n : Nat) (hk : k < n) (hz : k ≤ zs.length) : (filled zs k n)[k]? = some 0 := by
  have e : (zs.take k).length = k := by rw [List.length_take]; omega
  rw [filled, List.getElem?_append_right (by omega), e, Nat.sub_self]
  simp [show 0 < n - k by omega]
theorem filled_set (zs : List Int) (k n : Nat) (hk : k < n) (hz : k < zs.length) : (filled zs k n).set k (nth zs k) = filled zs (k + 1) n := by
  have e : (zs.take k).length = k := by rw [List.length_take]; omega
  rw [filled, filled, List.set_append_right _ _ (by omega), e, Nat.sub_self, take_snoc zs k hz, List.append_assoc]
  congr 1
  rw [show n - k = (n - (k + 1)) + 1 by omega, List.replicate_succ]
  simp

/-- A row that 'make' has just laid holds zeros. -/
theorem made_row {w : World} {B e : Nat} {v : Value} {n : Nat} {k : IntKind} (zs : List Int) (h : w.ownsRow B e 1 v n (madeCells #[Value.int k 0] n).toList) : w.ownsRow B e 1 v n ((filled zs 0 n).map (Value.int k)) := by
  have e1 : (madeCells #[Value.int k 0] n).toList = (filled zs 0 n).map (Value.int k) := by
    rw [filled_zero, List.map_replicate]
    exact toList_madeCells_one (.int k 0) n
  rw [← e1]; exact h

/-- A store into the row at the place that comes next. -/
theorem fill_step {w : World} {B e g n : Nat} {k : IntKind} {zs : List Int} {i : Nat} (h : w.ownsRow B e 1 (.slice (some ⟨g, 0, none⟩) n n) n ((filled zs i n).map (Value.int k))) (hi : i < n) (hz : i < zs.length) :
    w.cell? ⟨g, i, none⟩ = some (.int k 0) ∧ w.frozen? ⟨g, i, none⟩ = false ∧ (w.setCell ⟨g, i, none⟩ (.int k (nth zs i))).ownsRow B e 1 (.slice (some ⟨g, 0, none⟩) n n) n ((filled zs (i + 1) n).map (Value.int k)) := by
  refine ⟨?_, h.frozenAt i, ?_⟩
  · rw [h.cellAt i (by omega), List.getElem?_map, filled_at zs i n hi (by omega)]; rfl
  · have := h.stored i (.int k (nth zs i))
    rw [← List.map_set, filled_set zs i n hi hz] at this
    exact this.1

theorem getD_left (xs ys : List Int) (k : Nat) (h : k < xs.length) : nth (xs ++ ys) k = nth xs k := by
  simp [nth, List.getD, List.getElem?_append_left h]
theorem getD_right (xs ys : List Int) (k : Nat) (h : xs.length ≤ k) : nth (xs ++ ys) k = nth ys (k - xs.length) := by
  simp [nth, List.getD, List.getElem?_append_right h]

/-- The k-th byte of words. -/
theorem joinL_getD (zs : List Int) (k : Nat) (h : k < 4 * zs.length) : nth (joinL zs) k = byt (nth zs (k / 4)) (k % 4) := by
  induction zs generalizing k with
  | nil => simp at h
  | cons z zs ih =>
    simp only [List.length_cons] at h
    have e : joinL (z :: zs) = four z ++ joinL zs := rfl
    by_cases hk : k < 4
    · have e2 : k / 4 = 0 := by omega
      have e3 : k % 4 = k := by omega
      rw [e, e2, e3, getD_left _ _ _ (by rw [four_len]; exact hk)]
      match k, hk with
      | 0, _ => rfl
      | 1, _ => rfl
      | 2, _ => rfl
      | 3, _ => rfl
    · have e2 : k / 4 = (k - 4) / 4 + 1 := by omega
      have e3 : k % 4 = (k - 4) % 4 := by omega
      rw [e, e2, e3, getD_right _ _ _ (by rw [four_len]; omega), four_len, ih (k - 4) (by omega)]
      rfl

theorem div_pow_lo (X : Int) (j : Nat) (h0 : 0 ≤ X) : 0 ≤ X / 256 ^ j := Int.ediv_nonneg h0 (Int.le_of_lt (Int.pow_pos (by decide)))
theorem div_pow_hi (X : Int) (j : Nat) (m : Int) (h0 : 0 ≤ X) (h : X < m) : X / 256 ^ j < m := by
  have := Int.ediv_le_self (256 ^ j) h0
  omega
theorem div_pow_succ (X : Int) (j : Nat) : X / 256 ^ j / 256 = X / 256 ^ (j + 1) := by
  rw [Int.pow_succ, Int.ediv_ediv_of_nonneg (Int.le_of_lt (Int.pow_pos (by decide)))]

theorem row_one {x : Int} {k : IntKind} {w : World} {b : Nat} (h : w.cell? ⟨b, 0, none⟩ = some (.int k x)) : View k w (some ⟨b, 0, none⟩) [x] := by
  intro j hj
  obtain rfl : j = 0 := by simp at hj; exact hj
  exact ⟨b, 0, rfl, World.block_lt_of_cell? _ _ h, by simpa [nth] using h⟩

theorem within_one {m x : Int} (h0 : 0 ≤ x) (h1 : x < m) : Within m [x] := by
  intro z hz; simp at hz; subst hz; exact ⟨h0, h1⟩

/-! ### bytes to words -/

/-- The word out of the bytes from 4 k on. -/
def wordAt (zs : List Int) (k : Nat) : Int := nth zs (4 * k) + nth zs (4 * k + 1) * 256 + nth zs (4 * k + 2) * 65536 + nth zs (4 * k + 3) * 16777216
/-- The words of bytes. -/
def splitL (zs : List Int) : List Int := (List.range (zs.length / 4)).map (wordAt zs)
/-- The error of bytes that are to be parted into words. -/
def splitErr (zs : List Int) : Int := if 4194304 < zs.length then 4 else if zs.length % 4 = 0 then 0 else 10
/-- The words that are answered: none beside an error. -/
def splitOut (zs : List Int) : List Int := if splitErr zs = 0 then splitL zs else []

theorem nth_range (f : Nat → Int) (n k : Nat) (h : k < n) : nth ((List.range n).map f) k = f k := by
  simp [nth, List.getD, h]
theorem splitL_len (zs : List Int) : (splitL zs).length = zs.length / 4 := by simp [splitL]
theorem nth_splitL (zs : List Int) (k : Nat) (h : k < zs.length / 4) : nth (splitL zs) k = wordAt zs k := nth_range _ _ _ h

theorem splitErr_large (zs : List Int) (h : 4194304 < zs.length) : splitErr zs = 4 := by simp [splitErr, h]
theorem splitErr_odd (zs : List Int) (h : ¬ 4194304 < zs.length) (h2 : ¬ zs.length % 4 = 0) : splitErr zs = 10 := by simp [splitErr, h, h2]
theorem splitErr_ok (zs : List Int) (h : ¬ 4194304 < zs.length) (h2 : zs.length % 4 = 0) : splitErr zs = 0 := by simp [splitErr, h, h2]
theorem splitOut_large (zs : List Int) (h : 4194304 < zs.length) : splitOut zs = [] := by rw [splitOut, splitErr_large zs h]; rfl
theorem splitOut_odd (zs : List Int) (h : ¬ 4194304 < zs.length) (h2 : ¬ zs.length % 4 = 0) : splitOut zs = [] := by rw [splitOut, splitErr_odd zs h h2]; rfl
theorem splitOut_ok (zs : List Int) (h : ¬ 4194304 < zs.length) (h2 : zs.length % 4 = 0) : splitOut zs = splitL zs := by rw [splitOut, splitErr_ok zs h h2]; rfl

/-- Word k when the first i bytes have been put to their places. -/
def partW (zs : List Int) (i k : Nat) : Int :=
  (if 4 * k < i then nth zs (4 * k) else 0) + (if 4 * k + 1 < i then nth zs (4 * k + 1) * 256 else 0) + (if 4 * k + 2 < i then nth zs (4 * k + 2) * 65536 else 0) + (if 4 * k + 3 < i then nth zs (4 * k + 3) * 16777216 else 0)
/-- The row then. -/
def partL (zs : List Int) (i n : Nat) : List Int := (List.range n).map (partW zs i)

theorem partL_len (zs : List Int) (i n : Nat) : (partL zs i n).length = n := by simp [partL]
theorem partL_zero (zs ys : List Int) (n : Nat) : partL zs 0 n = filled ys 0 n := by
  rw [filled_zero]
  apply List.ext_getElem? 
  intro k
  by_cases hk : k < n
  · simp [partL, partW, hk]
  · simp [partL, hk]
theorem partL_whole (zs : List Int) (h : zs.length % 4 = 0) : partL zs zs.length (zs.length / 4) = splitL zs := by
  unfold partL splitL
  apply List.map_congr_left
  intro k hk
  have hk' : k < zs.length / 4 := List.mem_range.1 hk
  unfold partW wordAt
  rw [if_pos (by omega), if_pos (by omega), if_pos (by omega), if_pos (by omega)]
theorem partW_other (zs : List Int) (i k : Nat) (h : k ≠ i / 4) : partW zs (i + 1) k = partW zs i k := by
  unfold partW
  have h0 : (4 * k < i + 1) = (4 * k < i) := by apply propext; omega
  have h1 : (4 * k + 1 < i + 1) = (4 * k + 1 < i) := by apply propext; omega
  have h2 : (4 * k + 2 < i + 1) = (4 * k + 2 < i) := by apply propext; omega
  have h3 : (4 * k + 3 < i + 1) = (4 * k + 3 < i) := by apply propext; omega
  simp only [h0, h1, h2, h3]
theorem partL_set (zs : List Int) (i n : Nat) : (partL zs i n).set (i / 4) (partW zs (i + 1) (i / 4)) = partL zs (i + 1) n := by
  apply List.ext_getElem?
  intro k
  rw [List.getElem?_set]
  by_cases hk : k < n
  · by_cases e : i / 4 = k
    · subst e; simp [partL, hk]
    · simp [partL, hk, e, partW_other zs i k (fun h => e h.symm)]
  · by_cases e : i / 4 = k
    · subst e; simp [partL, hk]
    · simp [partL, hk, e]

/-- The byte that comes next is put to its place. -/
theorem partW_step (zs : List Int) (i : Nat) (hw : Within 256 zs) (hi : i < zs.length) :
    bits .or .u32 (partW zs i (i / 4)) (plc (nth zs i) (i % 4)) = partW zs (i + 1) (i / 4) := by
  have hc := hw.at hi
  rcases (show i % 4 = 0 ∨ i % 4 = 1 ∨ i % 4 = 2 ∨ i % 4 = 3 by omega) with e | e | e | e
  · have e0 : 4 * (i / 4) = i := by omega
    rw [e, plc0]; unfold partW
    rw [if_neg (by omega), if_neg (by omega), if_neg (by omega), if_neg (by omega), if_pos (by omega), if_neg (by omega), if_neg (by omega), if_neg (by omega), e0]
    have := or_zero (nth zs i) hc.1 (by omega)
    simpa using this
  · have e0 : 4 * (i / 4) + 1 = i := by omega
    have b0 := hw.at (k := 4 * (i / 4)) (by omega)
    rw [e, plc1]; unfold partW
    rw [if_pos (by omega), if_neg (by omega), if_neg (by omega), if_neg (by omega), if_pos (by omega), if_pos (by omega), if_neg (by omega), if_neg (by omega), e0]
    have := or_low (nth zs i) (nth zs (4 * (i / 4))) 8 hc.1 b0.1 (by omega) (by omega)
    rw [show ((nth zs i) * 2 ^ 8 : Int) = nth zs i * 256 by omega] at this
    simpa using this
  · have e0 : 4 * (i / 4) + 2 = i := by omega
    have b0 := hw.at (k := 4 * (i / 4)) (by omega)
    have b1 := hw.at (k := 4 * (i / 4) + 1) (by omega)
    rw [e, plc2]; unfold partW
    rw [if_pos (by omega), if_pos (by omega), if_neg (by omega), if_neg (by omega), if_pos (by omega), if_pos (by omega), if_pos (by omega), if_neg (by omega), e0]
    have := or_low (nth zs i) (nth zs (4 * (i / 4)) + nth zs (4 * (i / 4) + 1) * 256) 16 hc.1 (by omega) (by omega) (by omega)
    rw [show ((nth zs i) * 2 ^ 16 : Int) = nth zs i * 65536 by omega] at this
    simpa using this
  · have e0 : 4 * (i / 4) + 3 = i := by omega
    have b0 := hw.at (k := 4 * (i / 4)) (by omega)
    have b1 := hw.at (k := 4 * (i / 4) + 1) (by omega)
    have b2 := hw.at (k := 4 * (i / 4) + 2) (by omega)
    rw [e, plc3]; unfold partW
    rw [if_pos (by omega), if_pos (by omega), if_pos (by omega), if_neg (by omega), if_pos (by omega), if_pos (by omega), if_pos (by omega), if_pos (by omega), e0]
    have := or_low (nth zs i) (nth zs (4 * (i / 4)) + nth zs (4 * (i / 4) + 1) * 256 + nth zs (4 * (i / 4) + 2) * 65536) 24 hc.1 (by omega) (by omega) (by omega)
    rw [show ((nth zs i) * 2 ^ 24 : Int) = nth zs i * 16777216 by omega] at this
    simpa using this

theorem partW_bounds (zs : List Int) (i k : Nat) (hw : Within 256 zs) (h : 4 * k + 4 ≤ zs.length) : 0 ≤ partW zs i k ∧ partW zs i k < 4294967296 := by
  have b0 := hw.at (k := 4 * k) (by omega)
  have b1 := hw.at (k := 4 * k + 1) (by omega)
  have b2 := hw.at (k := 4 * k + 2) (by omega)
  have b3 := hw.at (k := 4 * k + 3) (by omega)
  unfold partW
  split <;> split <;> split <;> split <;> omega
theorem wordAt_bounds (zs : List Int) (k : Nat) (hw : Within 256 zs) (h : 4 * k + 4 ≤ zs.length) : 0 ≤ wordAt zs k ∧ wordAt zs k < 4294967296 := by
  have b0 := hw.at (k := 4 * k) (by omega)
  have b1 := hw.at (k := 4 * k + 1) (by omega)
  have b2 := hw.at (k := 4 * k + 2) (by omega)
  have b3 := hw.at (k := 4 * k + 3) (by omega)
  unfold wordAt; omega

/-- It lies in blocks from B on. -/
def NewAt (B : Nat) (a : Option Addr) : Prop := ∀ b off s, a = some ⟨b, off, s⟩ → B ≤ b
theorem newAt_none {B : Nat} : NewAt B none := fun b off s h => by simp at h
theorem newAt_mk {B b off : Nat} (h : B ≤ b) : NewAt B (some ⟨b, off, none⟩) := fun b' off' s e => by simp at e; omega

/-- A store into another block leaves a view as it was. -/
theorem View.setCell {k : IntKind} {w : World} {a : Option Addr} {zs : List Int} (h : View k w a zs) {B g j : Nat} (hn : NewAt B a) (hg : g < B) (u : Value) : View k (w.setCell ⟨g, j, none⟩ u) a zs := by
  intro i hi
  obtain ⟨b, off, rfl, hb, hc⟩ := h i hi
  have := hn b off none rfl
  refine ⟨b, off, rfl, by simpa [World.setCell] using hb, ?_⟩
  rw [← hc]
  exact World.cell?_of_block (w := w) (Below.heap_setCell w ⟨g, j, none⟩ u b (by simp; omega))

theorem cell_far {w : World} {g b : Nat} (h : b ≠ g) (j o : Nat) (u : Value) : (w.setCell ⟨g, j, none⟩ u).cell? ⟨b, o, none⟩ = w.cell? ⟨b, o, none⟩ :=
  World.cell?_of_block (w := w) (Below.heap_setCell w ⟨g, j, none⟩ u b (by simpa using h))

theorem within_set {m : Int} {zs : List Int} (h : Within m zs) {k : Nat} {u : Int} (h0 : 0 ≤ u) (h1 : u < m) : Within m (zs.set k u) := by
  intro z hz
  rcases List.mem_or_eq_of_mem_set hz with h' | h'
  · exact h z h'
  · subst h'; exact ⟨h0, h1⟩

end Go.Proofs.Ytlcaedibmlidlaa
