/-
  Texts laid together in one: MathR, Raws, Ref02Fault, Ref02Size, MathC, MathB, Ref02Wrong, Ref02Ends, Ref02At, Ref02Places, MathRead, Ref02Read, Ref02Write, Ref02Find, Law02Raws, KitSpoilWords.
-/
import Derived.Test.YtpggcpnjcalfaabB10
import Derived.Test.YtpggcpnjcalfaabB01
import Derived.Test.YtpggcpnjcalfaabB02
import Derived.WalkSpells
import Derived.Deep.QuietTactic
import Derived.BigQuiet
import Derived.Test.YtpggcpnjcalfaabProg
import Derived.Test.YtpggcpnjcalfaabB07
import Derived.BigRegion
import Derived.Deep.RegionLaw
import Derived.Deep.AppendLies
import Derived.Deep.DrawnRows
/-
  Plain facts: a text's words, with whatever words behind them, are read as the text.
-/
namespace Go.Proofs.Ytpggcpnjcalfaab
open Go.RowKit

theorem joinL_append (xs ys : List Int) : joinL (xs ++ ys) = joinL xs ++ joinL ys := by simp [joinL]
theorem joinL_textW (s : ByteArray) : joinL (textW s) = padI s := join_split (padI s) (by rw [padI_len]; omega) (padI_within s)
theorem joinL_text_lo (s : ByteArray) (ys : List Int) (i : Nat) (h : i < 4 * (s.size / 4 + 1)) : nth (joinL (textW s ++ ys)) i = nth (padI s) i := by
  rw [joinL_append, joinL_textW, getD_left _ _ _ (by rw [padI_len]; exact h)]
theorem text_take (s : ByteArray) (ys : List Int) : (joinL (textW s ++ ys)).take s.size = strI s := by
  rw [joinL_append, joinL_textW, List.take_append_of_le_length (by rw [padI_len]; omega), padI, filled]
  have e : (strI s).take s.size = strI s := List.take_of_length_le (by rw [strI_len]; omega)
  rw [e, List.take_append_of_le_length (by rw [strI_len]; omega), e]
theorem textW_within (s : ByteArray) : Within 4294967296 (textW s) := splitL_within (padI s) (padI_within s)
theorem within_append {m : Int} {xs ys : List Int} (hx : Within m xs) (hy : Within m ys) : Within m (xs ++ ys) := by
  intro z hz
  rcases List.mem_append.1 hz with h | h
  · exact hx z h
  · exact hy z h
/-- Behind the text's end its word holds nothing. -/
theorem text_rest (s : ByteArray) (ys : List Int) : nth (textW s ++ ys) (s.size / 4) / 256 ^ (s.size % 4) = 0 := by
  have hL : s.size / 4 < (textW s).length := by rw [textW_len]; omega
  have hw := (textW_within s).at hL
  rw [getD_left _ _ _ hL]
  rw [rest_zero _ _ (by omega) hw.1 hw.2]
  intro q hq1 hq2
  have := joinL_getD (textW s) (4 * (s.size / 4) + q) (by rw [textW_len]; omega)
  rw [joinL_textW, show (4 * (s.size / 4) + q) / 4 = s.size / 4 by omega, show (4 * (s.size / 4) + q) % 4 = q by omega] at this
  rw [← this, padI_hi s _ (by omega)]

/-- Is there a byte 0 among the first k? -/
def nulB (s : ByteArray) (k : Nat) : Bool := (List.range k).any fun i => nth (strI s) i == 0
theorem nulB_succ (s : ByteArray) (k : Nat) (h : k < s.size) : nulB s (k + 1) = (nulB s k || ((s[k].toNat : Int) == 0)) := by
  rw [← nth_strI s k h]
  simp [nulB, List.range_succ]
theorem nulB_none (s : ByteArray) (h : NoNul s) : nulB s s.size = false := by
  rw [nulB, List.any_eq_false]
  intro k hk
  have := h k (List.mem_range.1 hk)
  simpa using this
theorem nulB_some (s : ByteArray) (k : Nat) (hk : k < s.size) (h : nth (strI s) k = 0) : nulB s s.size = true := by
  rw [nulB, List.any_eq_true]
  exact ⟨k, List.mem_range.2 hk, by simpa using h⟩

end Go.Proofs.Ytpggcpnjcalfaab

/-
  Lists of instructions in memory: an operation and a list of words each.
-/
namespace Go.Proofs.Ytpggcpnjcalfaab
open Go.RowKit

/-- The instruction at a place of a list. -/
def nthR (rs : List (Int × List Int)) (j : Nat) : Int × List Int := rs.getD j (0, [])

/-- What can be read of a slice of instructions. -/
def RawsV (w : World) (a : Option Addr) (rs : List (Int × List Int)) : Prop :=
  ∀ j, j < rs.length → ∃ b off aj cj nj, a = some ⟨b, off, none⟩ ∧ b < w.heap.size ∧ w.cell? ⟨b, off + j * 2, none⟩ = some (.int .u16 (nthR rs j).1) ∧ w.cell? ⟨b, off + j * 2 + 1, none⟩ = some (.slice aj nj cj) ∧ (nthR rs j).2.length = nj ∧ View .u32 w aj (nthR rs j).2 ∧ nj ≤ cj

/-- Each operation, each word and each length lies within its bounds. -/
def RawsOk (rs : List (Int × List Int)) : Prop := ∀ j, j < rs.length → 0 ≤ (nthR rs j).1 ∧ (nthR rs j).1 < 65536 ∧ Within 4294967296 (nthR rs j).2 ∧ 4 * (nthR rs j).2.length ≤ 140737488351232

theorem RawsV.below {w w' : World} {a : Option Addr} {rs : List (Int × List Int)} (h : RawsV w a rs) (hb : Below w.heap.size w w') : RawsV w' a rs := by
  intro j hj
  obtain ⟨b, off, aj, cj, nj, e, hlt, h1, h2, h3, h4, h5⟩ := h j hj
  exact ⟨b, off, aj, cj, nj, e, Nat.lt_of_lt_of_le hlt hb.size, (hb.cell (p := ⟨b, off + j * 2, none⟩) hlt).trans h1, (hb.cell (p := ⟨b, off + j * 2 + 1, none⟩) hlt).trans h2, h3, h4.below hb, h5⟩

theorem rawsV_nil {w : World} {a : Option Addr} : RawsV w a [] := fun j hj => by simp at hj

theorem RawsV.drew {w : World} {a : Option Addr} {rs : List (Int × List Int)} (h : RawsV w a rs) (q : Nat) : RawsV (w.drewN q) a rs := h.below (bel_drewN (Below.refl _ _) q)
theorem View.drew {k : IntKind} {w : World} {a : Option Addr} {zs : List Int} (h : View k w a zs) (q : Nat) : View k (w.drewN q) a zs := h.below (bel_drewN (Below.refl _ _) q)

end Go.Proofs.Ytpggcpnjcalfaab

/-
  What Fault and Size of the document's answer return: the first instruction that is too long, or with which there are too many words; and how many words there are.
-/
namespace Go.Proofs.Ytpggcpnjcalfaab
open Go.RowKit
set_option maxRecDepth 10000

/-- How many words the head and the first k instructions have. -/
def sizeTo (rs : List (Int × List Int)) (k : Nat) : Nat := (rs.take k).foldl (fun s r => s + 1 + r.2.length) 5
/-- The first instruction that may not be, and why. -/
def faultF (rs : List (Int × List Int)) : Nat → Nat → Int × Nat
  | 0, _ => (0, 0)
  | f + 1, k => if k < rs.length then (if 65535 ≤ (nthR rs k).2.length then (25, k) else if 1048576 < sizeTo rs (k + 1) then (4, k) else faultF rs f (k + 1)) else (0, 0)
def fault (rs : List (Int × List Int)) (k : Nat) : Int × Nat := faultF rs (rs.length - k) k

theorem sizeTo_zero (rs : List (Int × List Int)) : sizeTo rs 0 = 5 := rfl
theorem sizeTo_succ (rs : List (Int × List Int)) (k : Nat) (h : k < rs.length) : sizeTo rs (k + 1) = sizeTo rs k + 1 + (nthR rs k).2.length := by
  have e : rs.take (k + 1) = rs.take k ++ [nthR rs k] := by
    rw [List.take_succ_eq_append_getElem h]; simp [nthR, List.getD, h]
  rw [sizeTo, e, List.foldl_append]; rfl
theorem fault_end (rs : List (Int × List Int)) (k : Nat) (h : rs.length ≤ k) : fault rs k = (0, 0) := by
  rw [fault, show rs.length - k = 0 by omega]; rfl
theorem fault_step (rs : List (Int × List Int)) (k : Nat) (h : k < rs.length) : fault rs k = if 65535 ≤ (nthR rs k).2.length then (25, k) else if 1048576 < sizeTo rs (k + 1) then (4, k) else fault rs (k + 1) := by
  rw [fault, show rs.length - k = (rs.length - (k + 1)) + 1 by omega, faultF, if_pos h]; rfl

theorem ret_agg2 {k : IntKind} {a b c d : Int} (h : a = b) (h2 : c = d) : (Value.agg #[.int k a, .int k c]) = .agg #[.int k b, .int k d] := by rw [h, h2]

end Go.Proofs.Ytpggcpnjcalfaab

/-
  What Size of the document's answer returns: how many words there are, or the error.
-/
namespace Go.Proofs.Ytpggcpnjcalfaab
open Go.RowKit
set_option maxRecDepth 10000

/-- How many words there are; 0 beside an error. -/
def sizeOut (rs : List (Int × List Int)) : Int := if (fault rs 0).1 = 0 then (sizeTo rs rs.length : Int) else 0

/-- Without a fault all is small. -/
theorem fault_none (rs : List (Int × List Int)) (h : (fault rs 0).1 = 0) : ∀ k, k ≤ rs.length → sizeTo rs k ≤ 1048576 ∧ ∀ j, j < k → (nthR rs j).2.length < 65535 := by
  have key : ∀ k, k ≤ rs.length → fault rs 0 = fault rs k ∧ sizeTo rs k ≤ 1048576 ∧ ∀ j, j < k → (nthR rs j).2.length < 65535 := by
    intro k
    induction k with
    | zero => intro _; exact ⟨rfl, by rw [sizeTo_zero]; omega, fun j hj => by omega⟩
    | succ k ih =>
      intro hk
      obtain ⟨h1, h2, h3⟩ := ih (by omega)
      have hs := fault_step rs k (by omega)
      by_cases c1 : 65535 ≤ (nthR rs k).2.length
      · rw [if_pos c1] at hs; rw [h1, hs] at h; simp at h
      · rw [if_neg c1] at hs
        by_cases c2 : 1048576 < sizeTo rs (k + 1)
        · rw [if_pos c2] at hs; rw [h1, hs] at h; simp at h
        · rw [if_neg c2] at hs
          refine ⟨h1.trans hs, by omega, fun j hj => ?_⟩
          by_cases e : j = k
          · subst e; omega
          · exact h3 j (by omega)
  exact fun k hk => (key k hk).2

end Go.Proofs.Ytpggcpnjcalfaab

/-
  Plain facts on modules as words: the first instruction that is wrong, and all instructions' words.
-/
namespace Go.Proofs.Ytpggcpnjcalfaab
open Go.RowKit
set_option linter.unusedVariables false

/-- The first instruction that is wrong, or that has too many words. -/
def shapeF (b : Int) : Nat → Nat → List InstT → Int × Nat
  | _, _, [] => (0, 0)
  | k, c, x :: l => if rawE x b ≠ 0 then (rawE x b, k) else if 1048576 < c + 1 + (rawWs x b).length then (4, k) else shapeF b (k + 1) (c + 1 + (rawWs x b).length) l
def shapeE (b : Int) (l : List InstT) : Int × Nat := if b = 0 ∨ 65536 < b then (24, 0) else shapeF b 0 5 l
/-- A module's instructions as words. -/
def rawsL (b : Int) (l : List InstT) : List (Int × List Int) := l.map fun x => (x.1, rawWs x b)
/-- What raws answers. -/
def rawsR (b : Int) (l : List InstT) : List (Int × List Int) := if (shapeE b l).1 = 0 then rawsL b l else []

theorem rawsL_len (b : Int) (l : List InstT) : (rawsL b l).length = l.length := by simp [rawsL]
theorem nthR_raws (b : Int) (l : List InstT) (k : Nat) (h : k < l.length) : nthR (rawsL b l) k = ((nthI l k).1, rawWs (nthI l k) b) := by
  rw [nthI_lt _ _ h]; simp [nthR, rawsL, List.getD, h]
theorem rawsL_take (b : Int) (l : List InstT) (k : Nat) (h : k < l.length) : rawsL b (l.take (k + 1)) = rawsL b (l.take k) ++ [((nthI l k).1, rawWs (nthI l k) b)] := by
  unfold rawsL
  rw [List.take_add_one, List.getElem?_eq_getElem h, nthI_lt _ _ h, List.map_append]; rfl
theorem dropI (l : List InstT) (k : Nat) (h : k < l.length) : l.drop k = nthI l k :: l.drop (k + 1) := by
  rw [nthI_lt _ _ h]; exact List.drop_eq_getElem_cons h

theorem shape_end (b : Int) (l : List InstT) (k c : Nat) (h : l.length ≤ k) : shapeF b k c (l.drop k) = (0, 0) := by
  rw [List.drop_eq_nil_of_le h]; rfl
theorem shape_step (b : Int) (l : List InstT) (k : Nat) (h : k < l.length) : shapeF b k (sizeTo (rawsL b l) k) (l.drop k) = if rawE (nthI l k) b ≠ 0 then (rawE (nthI l k) b, k) else if 1048576 < sizeTo (rawsL b l) (k + 1) then (4, k) else shapeF b (k + 1) (sizeTo (rawsL b l) (k + 1)) (l.drop (k + 1)) := by
  rw [dropI l k h, shapeF, sizeTo_succ (rawsL b l) k (by rw [rawsL_len]; exact h), nthR_raws b l k h]
theorem shape_any (b : Int) : ∀ (l : List InstT) (k c : Nat), shapeF b k c l = (0, 0) ∨ (shapeF b k c l).1 ≠ 0
  | [], _, _ => .inl rfl
  | x :: l, k, c => by
    rw [shapeF]
    by_cases h1 : rawE x b ≠ 0
    · rw [if_pos h1]; exact .inr h1
    · rw [if_neg h1]
      split
      · exact .inr (by simp)
      · exact shape_any b l _ _
theorem shapeE_any (b : Int) (l : List InstT) : shapeE b l = (0, 0) ∨ (shapeE b l).1 ≠ 0 := by
  unfold shapeE
  split
  · exact .inr (by decide)
  · exact shape_any b l 0 5

theorem rawWs_ok {x : InstT} {b : Int} (h : rawE x b = 0) : (lookF refT x.1).2 = true ∧ faultI (lookF refT x.1).1 x b = 0 ∧ rawWs x b = rawL (lookF refT x.1).1 x := by
  have h1 := h
  unfold rawE at h1
  by_cases h2 : (lookF refT x.1).2 = true
  · rw [if_pos h2] at h1
    exact ⟨h2, h1, by unfold rawWs; rw [if_pos h]⟩
  · rw [if_neg h2] at h1; cases h1
theorem faultI_zero {f : Frm} {x : InstT} {b : Int} (h : faultI f x b = 0) : idE f.2.1 x.2.1 b 40 = 0 ∧ idE f.2.2.1 x.2.2.1 b 41 = 0 ∧ wrongL f b 0 x.2.2.2 = 0 ∧ wholeN f x.2.2.2.length = true ∧ 1 + (rawL f x).length ≤ 65535 := by
  unfold faultI at h
  by_cases h1 : idE f.2.1 x.2.1 b 40 = 0
  · rw [if_neg (by simp [h1])] at h
    by_cases h2 : idE f.2.2.1 x.2.2.1 b 41 = 0
    · rw [if_neg (by simp [h2])] at h
      by_cases h3 : wrongL f b 0 x.2.2.2 = 0
      · rw [if_neg (by simp [h3])] at h
        by_cases h4 : wholeN f x.2.2.2.length = true
        · rw [if_neg (by simp [h4])] at h
          by_cases h5 : 65535 < 1 + (rawL f x).length
          · rw [if_pos h5] at h; cases h
          · exact ⟨h1, h2, h3, h4, by omega⟩
        · rw [if_pos (by simpa using h4)] at h; cases h
      · rw [if_pos h3] at h; exact absurd h h3
    · rw [if_pos h2] at h; exact absurd h h2
  · rw [if_pos h1] at h; exact absurd h h1
theorem rawWs_len (x : InstT) (b : Int) : (rawWs x b).length < 65535 := by
  by_cases h : rawE x b = 0
  · obtain ⟨_, h2, h3⟩ := rawWs_ok h
    have := (faultI_zero h2).2.2.2.2
    rw [h3]; omega
  · rw [rawWs, if_neg h]; simp

theorem wordsL_within {l : List ArgT} (h : ArgsOk l) : Within 4294967296 (wordsL l) := by
  intro z hz
  obtain ⟨x, hx, hzx⟩ := List.mem_flatMap.1 hz
  obtain ⟨k, hk, rfl⟩ := List.mem_iff_getElem.1 hx
  have ho := h k hk
  rw [nthA_lt _ _ hk] at ho
  unfold wordsA at hzx
  split at hzx
  · exact textW_within _ z hzx
  · rw [List.mem_singleton] at hzx; subst hzx
    exact ⟨ho.2.2.1, ho.2.2.2.1⟩
theorem rawWs_within {x : InstT} (b : Int) (h : InstOk x) : Within 4294967296 (rawWs x b) := by
  unfold rawWs
  split
  · refine within_append ?_ (wordsL_within h.2.2.2.2.2.2.1)
    unfold headW
    refine within_append ?_ ?_
    · split
      · exact within_one h.2.2.1 h.2.2.2.1
      · exact within_nil
    · split
      · exact within_one h.2.2.2.2.1 h.2.2.2.2.2.1
      · exact within_nil
  · exact within_nil
theorem rawsL_ok (b : Int) {l : List InstT} (h : InstsOk l) : RawsOk (rawsL b l) := by
  intro j hj
  rw [rawsL_len] at hj
  rw [nthR_raws b l j hj]
  have ho := h j hj
  refine ⟨ho.1, ho.2.1, rawWs_within b ho, ?_⟩
  have := rawWs_len (nthI l j) b
  simp only
  omega
theorem rawsR_ok (b : Int) {l : List InstT} (h : InstsOk l) : RawsOk (rawsR b l) := by
  unfold rawsR
  split
  · exact rawsL_ok b h
  · intro j hj; simp at hj

theorem fault_shapeF (b : Int) (l : List InstT) : ∀ d k, l.length - k = d → (shapeF b k (sizeTo (rawsL b l) k) (l.drop k)).1 = 0 → fault (rawsL b l) k = (0, 0)
  | 0, k, hd, _ => fault_end _ _ (by rw [rawsL_len]; omega)
  | d + 1, k, hd, h => by
    have hk : k < l.length := by omega
    rw [shape_step b l k hk] at h
    rw [fault_step _ _ (by rw [rawsL_len]; exact hk), nthR_raws b l k hk]
    have hs := rawWs_len (nthI l k) b
    rw [if_neg (by simp only; omega)]
    by_cases h1 : rawE (nthI l k) b ≠ 0
    · rw [if_pos h1] at h; exact absurd h h1
    · rw [if_neg h1] at h
      by_cases h2 : 1048576 < sizeTo (rawsL b l) (k + 1)
      · rw [if_pos h2] at h; cases h
      · rw [if_neg h2] at h ⊢
        exact fault_shapeF b l d (k + 1) (by omega) h
theorem fault_shape {b : Int} {l : List InstT} (h : (shapeE b l).1 = 0) : fault (rawsL b l) 0 = (0, 0) := by
  unfold shapeE at h
  by_cases h1 : b = 0 ∨ 65536 < b
  · rw [if_pos h1] at h; cases h
  · rw [if_neg h1] at h
    exact fault_shapeF b l _ 0 rfl h
theorem shape_bound {b : Int} {l : List InstT} (h : (shapeE b l).1 = 0) : ¬ b = 0 ∧ ¬ 65536 < b := by
  unfold shapeE at h
  by_cases h1 : b = 0 ∨ 65536 < b
  · rw [if_pos h1] at h; cases h
  · exact ⟨fun h => h1 (.inl h), fun h => h1 (.inr h)⟩
theorem shape_each {b : Int} {l : List InstT} (h : (shapeE b l).1 = 0) (k : Nat) (hk : k < l.length) : rawE (nthI l k) b = 0 := by
  have key : ∀ (l : List InstT) (i c k : Nat), (shapeF b i c l).1 = 0 → k < l.length → rawE (nthI l k) b = 0 := by
    intro l
    induction l with
    | nil => intro i c k _ hk; simp at hk
    | cons x l ih =>
      intro i c k h hk
      rw [shapeF] at h
      by_cases h1 : rawE x b ≠ 0
      · rw [if_pos h1] at h; exact absurd h h1
      · rw [if_neg h1] at h
        cases k with
        | zero => exact Classical.not_not.1 h1
        | succ k =>
          split at h
          · cases h
          · exact ih _ _ k h (by simpa using hk)
  unfold shapeE at h
  by_cases h1 : b = 0 ∨ 65536 < b
  · rw [if_pos h1] at h; cases h
  · rw [if_neg h1] at h
    exact key l 0 5 k h hk
theorem sizeTo_ge (rs : List (Int × List Int)) : ∀ k, k ≤ rs.length → 5 + k ≤ sizeTo rs k
  | 0, _ => by rw [sizeTo_zero]; omega
  | k + 1, h => by rw [sizeTo_succ rs k (by omega)]; have := sizeTo_ge rs k (by omega); omega
/-- A module of good shape has few instructions. -/
theorem shape_few {b : Int} {l : List InstT} (h : (shapeE b l).1 = 0) : l.length ≤ 1048576 ∧ sizeTo (rawsL b l) l.length ≤ 1048576 := by
  have h1 := fault_none (rawsL b l) (by rw [fault_shape h]) l.length (by rw [rawsL_len]; exact Nat.le_refl _)
  have := sizeTo_ge (rawsL b l) l.length (by rw [rawsL_len]; exact Nat.le_refl _)
  omega

end Go.Proofs.Ytpggcpnjcalfaab

/-
  Plain facts: an instruction's words say the instruction, and the words of the instruction that words say are those words.
-/
namespace Go.Proofs.Ytpggcpnjcalfaab
open Go.RowKit
set_option linter.unusedVariables false

/-! ### a text's words -/

theorem zeroAt_eq {js : List Int} {n : Nat} (h0 : ∀ i, i < n → nth js i ≠ 0) (hn : n < js.length) (h1 : nth js n = 0) : zeroAt js = n := by
  have hlt : zeroAt js < js.length := by
    unfold zeroAt
    rw [List.findIdx_lt_length]
    refine ⟨js[n], List.getElem_mem hn, ?_⟩
    rw [nth_lt _ _ hn] at h1
    simp [h1]
  rcases Nat.lt_trichotomy (zeroAt js) n with h | h | h
  · exact absurd (zeroAt_at js hlt) (h0 _ h)
  · exact h
  · exact absurd h1 (zeroAt_before js n h hn)

theorem textI_textW (s : ByteArray) (ys : List Int) (hs : NoNul s) : textI (textW s ++ ys) = (s, ((s.size / 4 : Nat) : Int) + 1, 0) := by
  have hlen : (joinL (textW s ++ ys)).length = 4 * (s.size / 4 + 1) + 4 * ys.length := by rw [joinL_len, List.length_append, textW_len]; omega
  have hz : zeroAt (joinL (textW s ++ ys)) = s.size := by
    refine zeroAt_eq (fun i hi => ?_) (by omega) ?_
    · rw [joinL_text_lo s ys i (by omega), padI_lo s i hi]; exact hs i hi
    · rw [joinL_text_lo s ys s.size (by omega), padI_hi s s.size (Nat.le_refl _)]
  have hp : padBad (joinL (textW s ++ ys)) = false := by
    cases h : padBad (joinL (textW s ++ ys)) with
    | false => rfl
    | true =>
      obtain ⟨q, h1, h2, h3⟩ := (padBad_iff (L := s.size / 4) (P := s.size % 4) (by rw [hz]; omega) (by omega) (by omega)).1 h
      rw [joinL_text_lo s ys _ (by omega), padI_hi s _ (by omega)] at h3
      exact absurd rfl h3
  unfold textI
  rw [if_neg (by omega), if_neg (by simp [hp]), hz, text_take, str_of_strI]

theorem strI_strOf {js : List Int} (h : Within 256 js) : strI (strOfNums js) = js := by
  have hsz : (strOfNums js).size = js.length := strOfNums_size js
  refine nth_ext (by rw [strI_len, hsz]) fun k hk => ?_
  rw [strI_len, hsz] at hk
  rw [nth_strI _ _ (by rw [hsz]; exact hk)]
  have hb := h.at hk
  have e : (strOfNums js).data.toList = js.map fun z => z.toNat.toUInt8 := by simp [strOfNums]
  have hg : (strOfNums js)[k]'(by rw [hsz]; exact hk) = (js[k]).toNat.toUInt8 := by
    have : (strOfNums js)[k]'(by rw [hsz]; exact hk) = (strOfNums js).data.toList[k]'(by rw [size_list, hsz]; exact hk) := rfl
    rw [this]
    simp only [e, List.getElem_map]
  rw [hg, nth_lt _ _ hk]
  rw [nth_lt _ _ hk] at hb
  have : (js[k]).toNat.toUInt8.toNat = (js[k]).toNat % 256 := by simp
  rw [this]; omega

/-- The words of a text that was read are those that it was read of. -/
theorem textW_textI {zs : List Int} (hw : Within 4294967296 zs) (h : (textI zs).2.2 = 0) : textW (textI zs).1 = zs.take (textI zs).2.1.toNat ∧ NoNul (textI zs).1 := by
  obtain ⟨h1, h2, h3⟩ := textI_some h
  have hl := joinL_len zs
  rw [h3]
  simp only
  generalize hN : zeroAt (joinL zs) = N at *
  have hws : Within 256 ((joinL zs).take N) := within_take (joinL_within zs)
  have hsI := strI_strOf hws
  have hsz : (strOfNums ((joinL zs).take N)).size = N := by rw [strOfNums_size, List.length_take]; omega
  have hnt : ((((N / 4 : Nat) : Int) + 1)).toNat = N / 4 + 1 := by omega
  rw [hnt]
  constructor
  · -- both have the same bytes
    have hb : joinL (textW (strOfNums ((joinL zs).take N))) = joinL (zs.take (N / 4 + 1)) := by
      rw [joinL_textW, joinL_take]
      refine nth_ext (by rw [padI_len, hsz, List.length_take]; omega) fun k hk => ?_
      rw [padI_len, hsz] at hk
      rw [nth_take _ _ _ hk]
      by_cases hkN : k < N
      · rw [padI_lo _ _ (by rw [hsz]; exact hkN), hsI, nth_take _ _ _ hkN]
      · rw [padI_hi _ _ (by rw [hsz]; omega)]
        by_cases hke : k = N
        · subst hke; rw [← hN]; exact (zeroAt_at _ (by rw [hN]; exact h1)).symm
        · apply Classical.byContradiction
          intro hne
          have : padBad (joinL zs) = true := (padBad_iff (L := N / 4) (P := N % 4) (by rw [hN]; omega) (by omega) (by omega)).2 ⟨k - 4 * (N / 4), by omega, by omega, by rw [show 4 * (N / 4) + (k - 4 * (N / 4)) = k by omega]; exact fun e => hne e.symm⟩
          rw [h2] at this; cases this
    have e1 := split_join (textW (strOfNums ((joinL zs).take N))) (textW_within _)
    have e2 := split_join (zs.take (N / 4 + 1)) (within_of_take hw)
    rw [← e1, hb, e2]
  · intro k hk
    rw [hsz] at hk
    rw [hsI, nth_take _ _ _ hk]
    exact zeroAt_before _ k (by rw [hN]; exact hk) (by omega)

/-! ### one argument -/

theorem noneB_more {n b c : Int} (h : noneB n b = false) (hbc : b ≤ c) : noneB n c = false := by
  unfold noneB at *
  simp at *
  omega

theorem argI_words {c b m : Int} {x : ArgT} (ys : List Int) (h : wrongA c x b = 0) (hb : b ≤ m) : argI c (wordsA x ++ ys) m = (x, ((wordsA x).length : Int), 0) := by
  obtain ⟨xk, xn, xs⟩ := x
  unfold wrongA at h
  by_cases hm : mayStandB c (xk, xn, xs) = false
  · rw [if_pos hm] at h; cases h
  · rw [if_neg hm] at h
    have hm' : mayStandB c (xk, xn, xs) = true := by simpa using hm
    unfold mayStandB at hm'
    simp only [Bool.and_eq_true, Bool.not_eq_true', beq_eq_false_iff_ne, beq_iff_eq] at hm'
    obtain ⟨⟨hc, hk⟩, hx⟩ := hm'
    simp only at h hk hx
    by_cases h3 : xk = 3
    · rw [if_pos h3] at h hx
      subst h3
      have hx0 : xn = 0 := by simpa using hx
      subst hx0
      have hnul : nulS xs = false := by
        cases hn : nulS xs with
        | false => rfl
        | true => rw [hn] at h; cases h
      have hW : wordsA (3, 0, xs) = textW xs := by simp [wordsA]
      unfold argI
      rw [hW, if_neg (by rintro (h | h)
                         · exact hc h
                         · rw [List.length_append, textW_len] at h; omega), if_pos hk.symm, textI_textW xs ys (nulS_false.1 hnul), textW_len]
      simp
    · rw [if_neg h3] at h hx
      have hx0 : xs = ⟨#[]⟩ := size_zero (by simpa using hx)
      subst hx0
      have hW : wordsA (xk, xn, ⟨#[]⟩) = [xn] := by simp [wordsA, h3]
      have hn0 : nth ([xn] ++ ys) 0 = xn := rfl
      unfold argI
      rw [hW, if_neg (by rintro (h | h)
                         · exact hc h
                         · simp at h), if_neg (by rw [← hk]; exact h3), hn0]
      unfold faultW at h
      rw [← hk] at h ⊢
      by_cases h1 : xk = 1
      · rw [if_pos h1] at h
        have hnb : noneB xn b = false := by
          cases hn : noneB xn b with
          | false => rfl
          | true => rw [hn] at h; cases h
        rw [if_neg (by rw [noneB_more hnb hb]; simp), if_neg (by omega)]
        rfl
      · rw [if_neg h1] at h
        rw [if_neg (by simp [h1])]
        by_cases h4 : xk = 4
        · rw [if_pos h4] at h
          have he : enumB c xn = true := by
            cases hn : enumB c xn with
            | true => rfl
            | false => rw [hn] at h; cases h
          rw [if_neg (by simp [he])]
          rfl
        · rw [if_neg (by simp [h4])]
          rfl

theorem nth_take1 (zs : List Int) (h : zs.length ≠ 0) : zs.take 1 = [nth zs 0] := by
  cases zs with
  | nil => simp at h
  | cons z zs => rfl

/-- The words of an argument that was read are those that it was read of. -/
theorem argI_back {c b : Int} {zs : List Int} (hw : Within 4294967296 zs) (h : (argI c zs b).2.2 = 0) : wrongA c (argI c zs b).1 b = 0 ∧ wordsA (argI c zs b).1 = zs.take (argI c zs b).2.1.toNat ∧ 1 ≤ (argI c zs b).2.1.toNat ∧ (argI c zs b).2.1.toNat ≤ zs.length := by
  unfold argI at h ⊢
  by_cases h0 : c = 0 ∨ zs.length = 0
  · rw [if_pos h0] at h; cases h
  · rw [if_neg h0] at h ⊢
    have hc : c ≠ 0 := fun e => h0 (.inl e)
    have hl : zs.length ≠ 0 := fun e => h0 (.inr e)
    by_cases h3 : kindI c = 3
    · rw [if_pos h3] at h ⊢
      simp only at h ⊢
      obtain ⟨e1, e2⟩ := textW_textI hw h
      obtain ⟨r1, r2, r3, r4, r5⟩ := textI_range zs
      have r3' := r3 h
      refine ⟨?_, ?_, by omega, by omega⟩
      · unfold wrongA mayStandB
        simp [hc, h3, nulS_false.2 e2]
      · unfold wordsA
        rw [if_pos rfl]; exact e1
    · rw [if_neg h3] at h ⊢
      by_cases h1 : kindI c = 1 ∧ noneB (nth zs 0) b = true
      · rw [if_pos h1] at h; cases h
      · rw [if_neg h1] at h ⊢
        by_cases h4 : kindI c = 4 ∧ enumB c (nth zs 0) = false
        · rw [if_pos h4] at h; cases h
        · rw [if_neg h4] at h ⊢
          simp only
          refine ⟨?_, ?_, by omega, by omega⟩
          · have hm : mayStandB c (kindI c, nth zs 0, ⟨#[]⟩) = true := by unfold mayStandB; simp [hc, h3, ByteArray.size]
            unfold wrongA
            rw [if_neg (by simp [hm]), if_neg h3]
            unfold faultW
            simp only
            by_cases k1 : kindI c = 1
            · rw [if_pos k1, if_neg (fun e => h1 ⟨k1, e⟩)]
            · rw [if_neg k1]
              by_cases k4 : kindI c = 4
              · rw [if_pos k4]
                have : enumB c (nth zs 0) = true := by
                  cases hn : enumB c (nth zs 0) with
                  | true => rfl
                  | false => exact absurd ⟨k4, hn⟩ h4
                rw [if_pos this]
              · rw [if_neg k4]
          · unfold wordsA
            rw [if_neg h3]
            exact (nth_take1 zs hl).symm

/-! ### all arguments -/

theorem wordsL_cons (x : ArgT) (l : List ArgT) : wordsL (x :: l) = wordsA x ++ wordsL l := rfl
theorem wordsA_pos (x : ArgT) : 1 ≤ (wordsA x).length := by rw [wordsA_len]; split <;> omega

theorem argsI_words (f : Frm) {b m : Int} (hb : b ≤ m) : ∀ (l acc : List ArgT) (fuel : Nat), wrongL f b acc.length l = 0 → wholeN f ((acc.length + l.length : Nat) : Int) = true → (wordsL l).length < fuel → argsI f m fuel (wordsL l) acc = (acc ++ l, 0)
  | [], acc, 0, _, _, hf => by omega
  | [], acc, fuel + 1, _, hw, _ => by
    rw [argsI, if_pos (by simp [wordsL]), if_pos (by simpa using hw), List.append_nil]
  | x :: l, acc, 0, _, _, hf => by omega
  | x :: l, acc, fuel + 1, h, hw, hf => by
    rw [wrongL] at h
    by_cases h0 : wrongA (letterI f acc.length) x b = 0
    · rw [if_pos h0] at h
      have hp := wordsA_pos x
      have ha := argI_words (wordsL l) h0 hb
      rw [wordsL_cons, List.length_append] at hf
      rw [wordsL_cons, argsI, if_neg (by rw [List.length_append]; omega), ha]
      simp only
      rw [if_neg (by simp), Int.toNat_natCast, List.drop_left]
      have := argsI_words f hb l (acc ++ [x]) fuel (by rw [List.length_append]; exact h) (by rw [List.length_append, List.length_singleton]; rw [List.length_cons] at hw; rw [show acc.length + 1 + l.length = acc.length + (l.length + 1) by omega]; exact hw) (by omega)
      rw [this, List.append_assoc]; rfl
    · rw [if_neg h0] at h; exact absurd h h0

theorem argsI_back (f : Frm) (b : Int) : ∀ (fuel : Nat) (zs : List Int) (acc : List ArgT), Within 4294967296 zs → (argsI f b fuel zs acc).2 = 0 → ∃ l, (argsI f b fuel zs acc).1 = acc ++ l ∧ wrongL f b acc.length l = 0 ∧ wordsL l = zs ∧ wholeN f ((acc.length + l.length : Nat) : Int) = true
  | 0, zs, acc, _, h => by rw [argsI] at h; cases h
  | fuel + 1, zs, acc, hw, h => by
    rw [argsI] at h ⊢
    by_cases h0 : zs.length = 0
    · rw [if_pos h0] at h ⊢
      by_cases h1 : wholeN f acc.length = true
      · rw [if_pos h1]
        exact ⟨[], by simp, rfl, by rw [List.eq_nil_of_length_eq_zero h0]; rfl, by simpa using h1⟩
      · rw [if_neg h1] at h; cases h
    · rw [if_neg h0] at h ⊢
      by_cases h1 : (argI (letterI f acc.length) zs b).2.2 = 0
      · rw [if_neg (by simp [h1])] at h ⊢
        obtain ⟨a1, a2, a3, a4⟩ := argI_back hw h1
        generalize argI (letterI f acc.length) zs b = r at *
        obtain ⟨l, e1, e2, e3, e4⟩ := argsI_back f b fuel _ _ (fun z hz => hw z (List.mem_of_mem_drop hz)) h
        refine ⟨r.1 :: l, by rw [e1, List.append_assoc]; rfl, ?_, ?_, ?_⟩
        · rw [wrongL, if_pos a1]
          rw [List.length_append] at e2; exact e2
        · rw [wordsL_cons, a2, e3, List.take_append_drop]
        · rw [List.length_append, List.length_singleton] at e4
          rw [List.length_cons, show acc.length + (l.length + 1) = acc.length + 1 + l.length by omega]; exact e4
      · rw [if_pos h1] at h; exact absurd h h1

/-! ### an instruction -/

theorem idE_zero {must : Bool} {n b e : Int} (he : e ≠ 0) (h : idE must n b e = 0) : (must = true → noneB n b = false) ∧ (must = false → n = 0) := by
  unfold idE at h
  cases must with
  | true =>
    refine ⟨fun _ => ?_, (fun h => by cases h)⟩
    by_cases h0 : n = 0
    · rw [if_pos (by simp [h0])] at h; exact absurd h he
    · rw [if_neg (by simp [h0])] at h
      by_cases h1 : b ≤ n
      · rw [if_pos (by simp [h1])] at h; cases h
      · unfold noneB; simp [h0, h1]
  | false =>
    refine ⟨(fun h => by cases h), fun _ => ?_⟩
    by_cases h0 : n = 0
    · exact h0
    · rw [if_pos (by simp [h0])] at h; exact absurd h he
theorem idE_none {n b e : Int} (h : noneB n b = false) : idE true n b e = 0 := by
  unfold noneB at h
  simp at h
  unfold idE
  simp [h.1]; omega
theorem idE_absent {b e : Int} : idE false 0 b e = 0 := by unfold idE; simp

theorem instI_words {x : InstT} {b m : Int} (h : rawE x b = 0) (hb : b ≤ m) : instI x.1 (rawWs x b) m = (x, 0) := by
  obtain ⟨h1, h2, h3⟩ := rawWs_ok h
  have hlen := rawWs_len x b
  obtain ⟨t1, t2, t3, t4, t5⟩ := faultI_zero h2
  obtain ⟨t1a, t1b⟩ := idE_zero (by decide) t1
  obtain ⟨t2a, t2b⟩ := idE_zero (by decide) t2
  unfold instI
  rw [if_neg (by omega), if_neg (by simp [h1]), h3]
  rw [h3] at hlen
  generalize (lookF refT x.1).1 = f at *
  obtain ⟨xo, xt, xr, xl⟩ := x
  simp only at *
  have hd : (rawL f (xo, xt, xr, xl)).drop (f.2.1.toNat + f.2.2.1.toNat) = wordsL xl := by
    unfold rawL headW
    simp only
    cases f.2.1 <;> cases f.2.2.1 <;> rfl
  have hty : headTy f.2.1 (rawL f (xo, xt, xr, xl)) m = (xt, 0) := by
    unfold headTy rawL headW
    simp only
    cases e1 : f.2.1 with
    | true =>
      have := noneB_more (t1a e1) hb
      simp [nth, this]
    | false => simp [t1b e1]
  have hre : headRes f.2.2.1 (rawL f (xo, xt, xr, xl)) m f.2.1.toNat = (xr, 0) := by
    unfold headRes rawL headW
    simp only
    cases e2 : f.2.2.1 with
    | true =>
      have := noneB_more (t2a e2) hb
      cases e1 : f.2.1 <;> simp [nth, this]
    | false => simp [t2b e2]
  have hargs : argsI f m ((rawL f (xo, xt, xr, xl)).length + 1) (wordsL xl) [] = (xl, 0) := by
    have := argsI_words f hb xl [] ((rawL f (xo, xt, xr, xl)).length + 1) (by simpa using t3) (by simpa using t4) (by unfold rawL; simp only [List.length_append]; omega)
    simpa using this
  unfold instF
  rw [hty, hre, hd, hargs]
  rfl

theorem headTy_zero {ty : Bool} {zs : List Int} {b : Int} (h : (headTy ty zs b).2 = 0) : idE ty (headTy ty zs b).1 b 40 = 0 ∧ (ty = true → 0 < zs.length ∧ (headTy ty zs b).1 = nth zs 0) ∧ (ty = false → (headTy ty zs b).1 = 0) := by
  cases ty with
  | false => exact ⟨idE_absent, (fun h => by cases h), fun _ => rfl⟩
  | true =>
    by_cases h1 : zs.length ≤ 0
    · have e : headTy true zs b = (0, 40) := by unfold headTy; rw [if_pos rfl, if_pos h1]
      rw [e] at h; cases h
    · have e : headTy true zs b = (nth zs 0, if noneB (nth zs 0) b then 43 else 0) := by unfold headTy; rw [if_pos rfl, if_neg h1]
      rw [e] at h ⊢
      have hn : noneB (nth zs 0) b = false := by
        cases hn : noneB (nth zs 0) b with
        | false => rfl
        | true => rw [hn] at h; cases h
      exact ⟨idE_none hn, fun _ => ⟨by omega, rfl⟩, (fun h => by cases h)⟩

theorem headRes_zero {re : Bool} {zs : List Int} {b : Int} {p : Nat} (h : (headRes re zs b p).2 = 0) : idE re (headRes re zs b p).1 b 41 = 0 ∧ (re = true → p < zs.length ∧ (headRes re zs b p).1 = nth zs p) ∧ (re = false → (headRes re zs b p).1 = 0) := by
  cases re with
  | false => exact ⟨idE_absent, (fun h => by cases h), fun _ => rfl⟩
  | true =>
    by_cases h1 : zs.length ≤ p
    · have e : headRes true zs b p = (0, 41) := by unfold headRes; rw [if_pos rfl, if_pos h1]
      rw [e] at h; cases h
    · have e : headRes true zs b p = (nth zs p, if noneB (nth zs p) b then 43 else 0) := by unfold headRes; rw [if_pos rfl, if_neg h1]
      rw [e] at h ⊢
      have hn : noneB (nth zs p) b = false := by
        cases hn : noneB (nth zs p) b with
        | false => rfl
        | true => rw [hn] at h; cases h
      exact ⟨idE_none hn, fun _ => ⟨by omega, rfl⟩, (fun h => by cases h)⟩

theorem instI_some {op b : Int} {zs : List Int} (h : (instI op zs b).2 = 0) : zs.length < 65535 ∧ (lookF refT op).2 = true ∧ instI op zs b = instF (lookF refT op).1 op zs b := by
  unfold instI at h ⊢
  by_cases h1 : 65535 ≤ zs.length
  · rw [if_pos h1] at h; cases h
  · rw [if_neg h1] at h ⊢
    by_cases h2 : (lookF refT op).2 = false
    · rw [if_pos h2] at h; cases h
    · rw [if_neg h2]
      exact ⟨by omega, by simpa using h2, rfl⟩
theorem instF_none {f : Frm} {op b : Int} {zs : List Int} (h : (instF f op zs b).2 ≠ 0) : (instF f op zs b).1 = noInst := by
  unfold instF at h ⊢
  split
  · rfl
  · split
    · rfl
    · split
      · rfl
      · rename_i h1 h2 h3
        rw [if_neg h1, if_neg h2, if_neg h3] at h
        exact absurd rfl h
theorem instI_none {op b : Int} {zs : List Int} (h : (instI op zs b).2 ≠ 0) : (instI op zs b).1 = noInst := by
  unfold instI at h ⊢
  split
  · rfl
  · split
    · rfl
    · rename_i h1 h2
      rw [if_neg h1, if_neg h2] at h
      exact instF_none h

/-- The words of the instruction that words say. -/
theorem rawE_instI {op b : Int} {zs : List Int} (hw : Within 4294967296 zs) (h : (instI op zs b).2 = 0) : (instI op zs b).1.1 = op ∧ rawE (instI op zs b).1 b = 0 ∧ rawWs (instI op zs b).1 b = zs := by
  obtain ⟨h1, h2, h3⟩ := instI_some h
  rw [h3] at h ⊢
  generalize hf : (lookF refT op).1 = f at *
  unfold instF at h ⊢
  by_cases k1 : (headTy f.2.1 zs b).2 = 0
  · rw [if_neg (by simp [k1])] at h ⊢
    by_cases k2 : (headRes f.2.2.1 zs b f.2.1.toNat).2 = 0
    · rw [if_neg (by simp [k2])] at h ⊢
      by_cases k3 : (argsI f b (zs.length + 1) (zs.drop (f.2.1.toNat + f.2.2.1.toNat)) []).2 = 0
      · rw [if_neg (by simp [k3])] at h ⊢
        obtain ⟨l, e1, e2, e3, e4⟩ := argsI_back f b _ _ _ (fun z hz => hw z (List.mem_of_mem_drop hz)) k3
        rw [e1]
        simp only [List.nil_append] at *
        obtain ⟨u1, u2, u3⟩ := headTy_zero k1
        obtain ⟨v1, v2, v3⟩ := headRes_zero k2
        generalize (headTy f.2.1 zs b).1 = t at *
        generalize (headRes f.2.2.1 zs b f.2.1.toNat).1 = r at *
        have hz : rawL f (op, t, r, l) = zs := by
          unfold rawL headW
          simp only
          rw [e3]
          cases c1 : f.2.1 with
          | true =>
            obtain ⟨q1, q2⟩ := u2 c1
            rw [c1] at v2
            cases c2 : f.2.2.1 with
            | true =>
              obtain ⟨q3, q4⟩ := v2 c2
              subst q2 q4
              match zs, q1, q3 with
              | a :: b :: zs, _, _ => rfl
            | false =>
              subst q2
              match zs, q1 with
              | a :: zs, _ => rfl
          | false =>
            rw [c1] at v2
            cases c2 : f.2.2.1 with
            | true =>
              obtain ⟨q3, q4⟩ := v2 c2
              subst q4
              match zs, q3 with
              | a :: zs, _ => rfl
            | false => rfl
        have hE : rawE (op, t, r, l) b = 0 := by
          unfold rawE
          simp only
          rw [if_pos h2, hf]
          unfold faultI
          simp only
          rw [if_neg (by simp [u1]), if_neg (by simp [v1]), if_neg (by simpa using e2), if_neg (by simpa using e4), hz, if_neg (by omega)]
        refine ⟨by trivial, hE, ?_⟩
        unfold rawWs
        rw [if_pos hE]
        simp only
        rw [hf, hz]
      · rw [if_pos k3] at h; exact absurd h k3
    · rw [if_pos k2] at h; exact absurd h k2
  · rw [if_pos k1] at h; exact absurd h k1

/-- By a greater bound it has the same words. -/
theorem wrongA_more {c b m : Int} {x : ArgT} (h : wrongA c x b = 0) (hb : b ≤ m) : wrongA c x m = 0 := by
  unfold wrongA at h ⊢
  split at h
  · cases h
  · rename_i h1
    rw [if_neg h1]
    split at h
    · rename_i h2
      rw [if_pos h2]; exact h
    · rename_i h2
      rw [if_neg h2]
      unfold faultW at h ⊢
      by_cases k1 : kindI c = 1
      · rw [if_pos k1] at h ⊢
        have hn : noneB x.2.1 b = false := by
          cases hn : noneB x.2.1 b with
          | false => rfl
          | true => rw [hn] at h; cases h
        rw [noneB_more hn hb]; rfl
      · rw [if_neg k1] at h ⊢; exact h
theorem wrongL_more (f : Frm) {b m : Int} (hb : b ≤ m) : ∀ (l : List ArgT) (k : Nat), wrongL f b k l = 0 → wrongL f m k l = 0
  | [], _, _ => rfl
  | x :: l, k, h => by
    rw [wrongL] at h ⊢
    by_cases h0 : wrongA (letterI f k) x b = 0
    · rw [if_pos h0] at h
      rw [if_pos (wrongA_more h0 hb)]
      exact wrongL_more f hb l _ h
    · rw [if_neg h0] at h; exact absurd h h0
theorem idE_more {must : Bool} {n b m e : Int} (he : e ≠ 0) (hb : b ≤ m) (h : idE must n b e = 0) : idE must n m e = 0 := by
  obtain ⟨h1, h2⟩ := idE_zero he h
  cases must with
  | true => exact idE_none (noneB_more (h1 rfl) hb)
  | false => rw [h2 rfl]; exact idE_absent
theorem raw_more {x : InstT} {b m : Int} (h : rawE x b = 0) (hb : b ≤ m) : rawE x m = 0 ∧ rawWs x m = rawWs x b := by
  obtain ⟨h1, h2, h3⟩ := rawWs_ok h
  obtain ⟨t1, t2, t3, t4, t5⟩ := faultI_zero h2
  have hE : rawE x m = 0 := by
    unfold rawE
    rw [if_pos h1]
    unfold faultI
    rw [if_neg (by simp [idE_more (by decide) hb t1]), if_neg (by simp [idE_more (by decide) hb t2]), if_neg (by simp [wrongL_more _ hb _ _ t3]), if_neg (by simp [t4]), if_neg (by omega)]
  refine ⟨hE, ?_⟩
  rw [h3]
  unfold rawWs
  rw [if_pos hE]

end Go.Proofs.Ytpggcpnjcalfaab

/-
  What Wrong of the document's answer returns: what is wrong with a word of the head.
-/
namespace Go.Proofs.Ytpggcpnjcalfaab
open Go.RowKit
set_option maxRecDepth 10000

/-- What is wrong with a word of the head, by its place. -/
def wrongE (k : Nat) (x : Int) : Int :=
  if k = 0 then (if x = 50471687 then 21 else if x = 119734787 then 0 else 20)
  else if k = 1 then (if x = 65536 then 0 else 22)
  else if k = 3 then (if x = 0 then 24 else if 65536 < x then 24 else 0)
  else if k = 4 then (if x = 0 then 0 else 23)
  else 0

end Go.Proofs.Ytpggcpnjcalfaab

/-
  What Count, Ends and Wrong of the document's answer return.
-/
namespace Go.Proofs.Ytpggcpnjcalfaab
open Go.RowKit
set_option maxRecDepth 10000

end Go.Proofs.Ytpggcpnjcalfaab

/-
  What At of the document's answer returns: the instruction at a place, up to another one, its words in new memory.
-/
namespace Go.Proofs.Ytpggcpnjcalfaab
open Go.RowKit

theorem RefAt.info : (Try.prog.info? 22).map (fun i => (i.zero, i.size, i.bytes)) = some (some (.int .u32 0), 1, 4) := by kernel_rfl

theorem own_base {w : World} {B B' e size n : Nat} {v : Value} {xs : List Value} (h : w.ownsRow B e size v n xs) (hb : B' ≤ B) : w.ownsRow B' e size v n xs := by
  refine ⟨h.1, ?_⟩
  rcases h.2 with hn | ⟨g, cap, cur, rfl, hg, rest⟩
  · exact .inl hn
  · exact .inr ⟨g, cap, cur, rfl, Nat.le_trans hb hg, rest⟩

/-- The words from a place up to another one. -/
def midL (zs : List Int) (p k : Nat) : List Int := (zs.drop p).take k
theorem midL_snoc (zs : List Int) (p k : Nat) (h : p + k < zs.length) : midL zs p (k + 1) = midL zs p k ++ [nth zs (p + k)] := by
  unfold midL
  rw [take_snoc _ _ (by rw [List.length_drop]; omega), nth_drop]
theorem midL_len (zs : List Int) (p k : Nat) (h : p + k ≤ zs.length) : (midL zs p k).length = k := by
  unfold midL; rw [List.length_take, List.length_drop]; omega

end Go.Proofs.Ytpggcpnjcalfaab

/-
  What Places of the document's answer returns, of at most 1048576 words: the places of the instructions, in new memory.
-/
namespace Go.Proofs.Ytpggcpnjcalfaab
open Go.RowKit
set_option maxRecDepth 10000

theorem RefPlaces.info : (Try.prog.info? 3).map (fun i => (i.zero, i.size, i.bytes)) = some (some (.int .i64 0), 1, 8) := by kernel_rfl

theorem own_shape {w : World} {B e n : Nat} {v : Value} {xs : List Value} (h : w.ownsRow B e 1 v n xs) : ∃ a c, v = .slice a n c := by
  rcases h.2 with ⟨rfl, rfl⟩ | ⟨g, c, cur, rfl, _⟩
  · exact ⟨none, 0, rfl⟩
  · exact ⟨_, c, rfl⟩

end Go.Proofs.Ytpggcpnjcalfaab

/-
  What Read answers, as a function on lists: its error with its place, or the instructions; and the row of instructions in memory while it is built.
-/
namespace Go.Proofs.Ytpggcpnjcalfaab
open Go.RowKit

/-- The first word of the head that lacks or is wrong, from place k on. -/
def headF (zs : List Int) : Nat → Nat → Int × Nat
  | 0, _ => (0, 0)
  | f + 1, k => if k < 5 then (if zs.length ≤ k then (14, k) else if wrongE k (nth zs k) ≠ 0 then (wrongE k (nth zs k), k) else headF zs f (k + 1)) else (0, 0)
def headE (zs : List Int) (k : Nat) : Int × Nat := headF zs (5 - k) k
theorem headE_end (zs : List Int) : headE zs 5 = (0, 0) := rfl
theorem headE_step (zs : List Int) (k : Nat) (h : k < 5) : headE zs k = if zs.length ≤ k then (14, k) else if wrongE k (nth zs k) ≠ 0 then (wrongE k (nth zs k), k) else headE zs (k + 1) := by
  rw [headE, show 5 - k = (5 - (k + 1)) + 1 by omega, headF, if_pos h]; rfl

/-- The error of Read, and its place. -/
def readE (zs : List Int) : Int × Nat :=
  if 1048576 < zs.length then (4, 1048576) else if (headE zs 0).1 ≠ 0 then headE zs 0 else if stop zs 5 < zs.length then (25, stop zs 5) else (0, 0)
/-- The instruction at a place. -/
def rawAt (zs : List Int) (p : Nat) : Int × List Int := (opI zs p, midL zs (p + 1) (cntN zs p - 1))
/-- The instructions. -/
def readR (zs : List Int) : List (Int × List Int) := (rest zs 5).map (rawAt zs)

/-- The cells of a row of instructions: each operation, and each list of words, which lies in another block than the row. -/
structure RowR (w : World) (lo : Nat) (ob : Option Nat) (rs : List (Int × List Int)) (cs : List Value) : Prop where
  len : cs.length = rs.length * 2
  each : ∀ j, j < rs.length → ∃ aj cj nj, cs[j * 2]? = some (.int .u16 (nthR rs j).1) ∧ cs[j * 2 + 1]? = some (.slice aj nj cj) ∧ (nthR rs j).2.length = nj ∧ View .u32 w aj (nthR rs j).2 ∧ nj ≤ cj ∧ ∀ b off s, aj = some ⟨b, off, s⟩ → ob ≠ some b ∧ b < w.heap.size ∧ lo ≤ b

theorem rowR_nil {w : World} {lo : Nat} {ob : Option Nat} : RowR w lo ob [] [] := ⟨rfl, fun j hj => by simp at hj⟩

theorem RowR.view {w : World} {B T g n cap lo : Nat} {rs : List (Int × List Int)} {cs : List Value} {ob : Option Nat} (h : RowR w lo ob rs cs) (hown : w.ownsRow B T 2 (.slice (some ⟨g, 0, none⟩) n cap) n cs) (hl : rs.length = n) : RawsV w (some ⟨g, 0, none⟩) rs := by
  intro j hj
  obtain ⟨aj, cj, nj, h1, h2, h3, h4, h5, _⟩ := h.each j hj
  have c1 := hown.cellAt (j * 2) (by omega)
  have c2 := hown.cellAt (j * 2 + 1) (by omega)
  rw [h1] at c1
  rw [h2] at c2
  exact ⟨g, 0, aj, cj, nj, rfl, World.block_lt_of_cell? _ _ c1, by rw [Nat.zero_add]; exact c1, by rw [Nat.zero_add]; exact c2, h3, h4, h5⟩

theorem RowR.viewAny {w : World} {B T n cap lo : Nat} {a : Option Addr} {rs : List (Int × List Int)} {cs : List Value} {ob : Option Nat} (h : RowR w lo ob rs cs) (hown : w.ownsRow B T 2 (.slice a n cap) n cs) (hl : rs.length = n) : RawsV w a rs := by
  rcases hown.2 with ⟨_, hn⟩ | ⟨g, cap', cur, hv, _⟩
  · have : rs = [] := List.eq_nil_of_length_eq_zero (by omega)
    subst this; exact fun j hj => by simp at hj
  · cases hv; exact h.view hown hl

/-- What is written in the row alone leaves the words as they were. -/
theorem view_grown {k : IntKind} {w w' : World} {a : Option Addr} {zs : List Int} {ob : Option Nat} (h : View k w a zs) (hg : w.grownBy w' ob) (hne : ∀ b off s, a = some ⟨b, off, s⟩ → ob ≠ some b) : View k w' a zs := by
  intro j hj
  obtain ⟨b, off, e, hlt, hc⟩ := h j hj
  refine ⟨b, off, e, Nat.lt_of_lt_of_le hlt hg.size, ?_⟩
  rw [← hc]
  exact World.cell?_of_block (w := w) (hg.block b hlt (fun e' => hne b off none e e'.symm))

theorem RowR.below {w w' : World} {lo : Nat} {ob : Option Nat} {rs : List (Int × List Int)} {cs : List Value} (h : RowR w lo ob rs cs) (hb : Below w.heap.size w w') : RowR w' lo ob rs cs := by
  refine ⟨h.len, fun j hj => ?_⟩
  obtain ⟨aj, cj, nj, h1, h2, h3, h4, h5, h6⟩ := h.each j hj
  exact ⟨aj, cj, nj, h1, h2, h3, h4.below hb, h5, fun b off s e => ⟨(h6 b off s e).1, Nat.lt_of_lt_of_le (h6 b off s e).2.1 hb.size, (h6 b off s e).2.2⟩⟩

theorem RowR.setCell {w : World} {lo : Nat} {ob : Option Nat} {rs : List (Int × List Int)} {cs : List Value} (h : RowR w lo ob rs cs) {g j : Nat} (hg : g < lo) (u : Value) : RowR (w.setCell ⟨g, j, none⟩ u) lo ob rs cs := by
  refine ⟨h.len, fun i hi => ?_⟩
  obtain ⟨aj, cj, nj, h1, h2, h3, h4, h5, h6⟩ := h.each i hi
  exact ⟨aj, cj, nj, h1, h2, h3, h4.setCell (fun b off s e => (h6 b off s e).2.2) hg u, h5, fun b off s e => ⟨(h6 b off s e).1, by have := (h6 b off s e).2.1; simpa [World.setCell] using this, (h6 b off s e).2.2⟩⟩

theorem nthR_lo (rs : List (Int × List Int)) (r : Int × List Int) (j : Nat) (h : j < rs.length) : nthR (rs ++ [r]) j = nthR rs j := by
  simp [nthR, List.getD, List.getElem?_append_left h]
theorem nthR_hi (rs : List (Int × List Int)) (r : Int × List Int) : nthR (rs ++ [r]) rs.length = r := by
  simp [nthR, List.getD]

/-- An instruction more. -/
theorem RowR.push {w w' : World} {v : Value} {g' H lo : Nat} {rs : List (Int × List Int)} {cs : List Value} {r : Int × List Int} {a : Option Addr} {n c : Nat}
    (h : RowR w lo v.ownBlock rs cs) (hv : View .u32 w a r.2) (hl : r.2.length = n) (hc : n ≤ c) (ha : ∀ b off s, a = some ⟨b, off, s⟩ → v.ownBlock ≠ some b ∧ b < H ∧ lo ≤ b) (hH : w.heap.size = H)
    (hg : w.grownBy w' v.ownBlock) (hat : v.ownBlock = some g' ∨ g' = H) : RowR w' lo (some g') (rs ++ [r]) (cs ++ [.int .u16 r.1, .slice a n c]) := by
  have key : ∀ b, v.ownBlock ≠ some b → b < H → lo ≤ b → (some g' ≠ some b ∧ b < w'.heap.size ∧ lo ≤ b) := fun b h1 h2 h0 => by
    refine ⟨fun e => ?_, by have := hg.size; omega, h0⟩
    cases e
    rcases hat with h3 | h3
    · exact h1 h3
    · omega
  refine ⟨by simp [h.len]; omega, fun j hj => ?_⟩
  rw [List.length_append, List.length_singleton] at hj
  by_cases hjl : j < rs.length
  · obtain ⟨aj, cj, nj, h1, h2, h3, h4, h5, h6⟩ := h.each j hjl
    rw [nthR_lo _ _ _ hjl]
    have hcl := h.len
    exact ⟨aj, cj, nj, by rw [List.getElem?_append_left (by omega)]; exact h1, by rw [List.getElem?_append_left (by omega)]; exact h2, h3, view_grown h4 hg (fun b off s e => (h6 b off s e).1), h5,
      fun b off s e => key b (h6 b off s e).1 (by have := (h6 b off s e).2.1; omega) (h6 b off s e).2.2⟩
  · obtain rfl : j = rs.length := by omega
    rw [nthR_hi]
    have hcl := h.len
    refine ⟨a, c, n, ?_, ?_, hl, view_grown hv hg (fun b off s e => (ha b off s e).1), hc, fun b off s e => key b (ha b off s e).1 (ha b off s e).2.1 (ha b off s e).2.2⟩
    · rw [List.getElem?_append_right (by omega), show rs.length * 2 - cs.length = 0 by omega]; rfl
    · rw [List.getElem?_append_right (by omega), show rs.length * 2 + 1 - cs.length = 1 by omega]; rfl

end Go.Proofs.Ytpggcpnjcalfaab

/-
  What Read of the document's answer returns, for every list of words: its error and its place, or the head and the instructions, in new memory.
-/
namespace Go.Proofs.Ytpggcpnjcalfaab
open Go.RowKit

theorem RefRead.info : (Try.prog.info? 46).map (fun i => (i.zero, i.size, i.bytes)) = some (some (.agg #[.int .u16 0, .slice none 0 0]), 2, 32) := by kernel_rfl

theorem head_ok (zs : List Int) (h : (headE zs 0).1 = 0) : 5 ≤ zs.length ∧ ∀ k, k < 5 → wrongE k (nth zs k) = 0 := by
  have key : ∀ d k, 5 - k = d → k ≤ 5 → (headE zs k).1 = 0 → (k < 5 → 5 ≤ zs.length) ∧ ∀ j, k ≤ j → j < 5 → wrongE j (nth zs j) = 0 := by
    intro d
    induction d with
    | zero => intro k hd hk _; exact ⟨fun h => by omega, fun j h1 h2 => by omega⟩
    | succ d ih =>
      intro k hd hk hz
      rw [headE_step zs k (by omega)] at hz
      by_cases h1 : zs.length ≤ k
      · rw [if_pos h1] at hz; simp at hz
      · rw [if_neg h1] at hz
        by_cases h2 : wrongE k (nth zs k) ≠ 0
        · rw [if_pos h2] at hz; exact absurd hz h2
        · rw [if_neg h2] at hz
          obtain ⟨g1, g2⟩ := ih (k + 1) (by omega) (by omega) hz
          refine ⟨fun _ => ?_, fun j hj1 hj2 => ?_⟩
          · by_cases e : k + 1 < 5
            · exact g1 e
            · omega
          · by_cases e : j = k
            · subst e; exact Classical.byContradiction h2
            · exact g2 j (by omega) hj2
  have := key 5 0 rfl (by omega) h
  exact ⟨this.1 (by omega), fun k hk => this.2 k (by omega) hk⟩

theorem set_two_boxes {w : World} {g0 g1 T0 T1 : Nat} {a b c d : Value} (h0 : w.heap[g0]? = some (.cells #[a, b] T0 (0, 0))) (h1 : w.heap[g1]? = some (.cells #[c, d] T1 (0, 0))) (hne : g0 ≠ g1) (u0 u1 v0 v1 : Value) :
    ((((w.setCell ⟨g0, 0, none⟩ u0).setCell ⟨g0, 1, none⟩ u1).setCell ⟨g1, 0, none⟩ v0).setCell ⟨g1, 1, none⟩ v1).cell? ⟨g0, 0, none⟩ = some u0 ∧
    ((((w.setCell ⟨g0, 0, none⟩ u0).setCell ⟨g0, 1, none⟩ u1).setCell ⟨g1, 0, none⟩ v0).setCell ⟨g1, 1, none⟩ v1).cell? ⟨g0, 1, none⟩ = some u1 ∧
    ((((w.setCell ⟨g0, 0, none⟩ u0).setCell ⟨g0, 1, none⟩ u1).setCell ⟨g1, 0, none⟩ v0).setCell ⟨g1, 1, none⟩ v1).cell? ⟨g1, 0, none⟩ = some v0 ∧
    ((((w.setCell ⟨g0, 0, none⟩ u0).setCell ⟨g0, 1, none⟩ u1).setCell ⟨g1, 0, none⟩ v0).setCell ⟨g1, 1, none⟩ v1).cell? ⟨g1, 1, none⟩ = some v1 := by
  have hne' : ¬ g1 = g0 := fun e => hne e.symm
  refine ⟨?_, ?_, ?_, ?_⟩ <;> simp [World.setCell, World.cell?, Array.getElem?_modify, h0, h1, hne, hne']

theorem own_shape2 {w : World} {B e n : Nat} {v : Value} {xs : List Value} (h : w.ownsRow B e 2 v n xs) : ∃ a c, v = .slice a n c := by
  rcases h.2 with ⟨rfl, rfl⟩ | ⟨g, c, cur, rfl, _⟩
  · exact ⟨none, 0, rfl⟩
  · exact ⟨_, c, rfl⟩

end Go.Proofs.Ytpggcpnjcalfaab

/-
  What Write of the document's answer returns, for every head and every list of instructions: its error and its place, or the words, in new memory.
-/
namespace Go.Proofs.Ytpggcpnjcalfaab
open Go.RowKit

theorem RefWrite.info : (Try.prog.info? 22).map (fun i => (i.zero, i.size, i.bytes)) = some (some (.int .u32 0), 1, 4) := by kernel_rfl

/-- An instruction's words. -/
def rawW (r : Int × List Int) : List Int := (((r.2.length : Int) + 1) * 65536 + r.1) :: r.2
/-- The words of the head and of the first k instructions. -/
def writeTo (gen bound : Int) (rs : List (Int × List Int)) (k : Nat) : List Int := [119734787, 65536, gen, bound, 0] ++ (rs.take k).flatMap rawW

theorem writeTo_succ (gen bound : Int) (rs : List (Int × List Int)) (k : Nat) (h : k < rs.length) : writeTo gen bound rs (k + 1) = writeTo gen bound rs k ++ rawW (nthR rs k) := by
  have e : rs.take (k + 1) = rs.take k ++ [nthR rs k] := by
    rw [List.take_succ_eq_append_getElem h]; simp [nthR, List.getD, h]
  rw [writeTo, e, List.flatMap_append, ← List.append_assoc]; simp [writeTo]
theorem writeTo_len (gen bound : Int) (rs : List (Int × List Int)) : ∀ k, k ≤ rs.length → (writeTo gen bound rs k).length = sizeTo rs k
  | 0, _ => rfl
  | k + 1, h => by
    rw [writeTo_succ gen bound rs k (by omega), List.length_append, writeTo_len gen bound rs k (by omega), sizeTo_succ rs k (by omega)]
    simp [rawW]; omega

end Go.Proofs.Ytpggcpnjcalfaab

/-
  What Find of the document's answer returns, of at most 1048576 words.
-/
namespace Go.Proofs.Ytpggcpnjcalfaab
open Go.RowKit
set_option maxRecDepth 10000

theorem find_at (P : Nat → Bool) : ∀ (l : List Nat) (k : Nat), k < l.length → (∀ j, j < k → P (l.getD j 0) = false) → P (l.getD k 0) = true → l.find? P = some (l.getD k 0)
  | [], k, h, _, _ => by simp at h
  | x :: l, 0, _, _, h => by
    have h' : P x = true := h
    simp [h']
  | x :: l, k + 1, h, hb, hk => by
    have h0 : P x = false := hb 0 (by omega)
    have ih := find_at P l k (by simpa using h) (fun j hj => hb (j + 1) (by omega)) hk
    rw [List.find?_cons, h0]
    exact ih
theorem find_none (P : Nat → Bool) (l : List Nat) (h : ∀ j, j < l.length → P (l.getD j 0) = false) : l.find? P = none := by
  rw [List.find?_eq_none]
  intro x hx
  obtain ⟨j, hj, rfl⟩ := List.getElem_of_mem hx
  have := h j hj
  simp [List.getD, hj] at this
  simp [this]

/-- Is it an instruction of this operation, not ahead of that place? -/
def isAt (zs : List Int) (op from_ : Int) (q : Nat) : Bool := decide (from_ ≤ (q : Int)) && (opI zs q == op)
/-- The first one. -/
def findP (zs : List Int) (op from_ : Int) : Option Nat := (rest zs 5).find? (isAt zs op from_)
def findAt (zs : List Int) (op from_ : Int) : Int := match findP zs op from_ with | some q => (q : Int) | none => 0
def findIs (zs : List Int) (op from_ : Int) : Bool := (findP zs op from_).isSome

theorem findAt_some {zs : List Int} {op f : Int} {q : Nat} (h : findP zs op f = some q) : findAt zs op f = q := by unfold findAt; rw [h]
theorem findAt_none {zs : List Int} {op f : Int} (h : findP zs op f = none) : findAt zs op f = 0 := by unfold findAt; rw [h]
theorem findIs_some {zs : List Int} {op f : Int} {q : Nat} (h : findP zs op f = some q) : findIs zs op f = true := by unfold findIs; rw [h]; rfl
theorem findIs_none {zs : List Int} {op f : Int} (h : findP zs op f = none) : findIs zs op f = false := by unfold findIs; rw [h]; rfl

theorem ret_pair {k : IntKind} {a b : Int} {x y : Bool} (h : a = b) (h2 : x = y) : Ending.returned (.tuple #[.int k a, .bool x]) = .returned (.tuple #[.int k b, .bool y]) := by rw [h, h2]

end Go.Proofs.Ytpggcpnjcalfaab

/-
  raws of the laws of layer 2 answers true of two lists of instructions that are the same; head answers the words of a head.
-/
namespace Go.Proofs.Ytpggcpnjcalfaab
open Go.RowKit
set_option maxRecDepth 10000

theorem quiet_words {a b : Option Addr} {n ca cb : Nat} {zs : List Int} {w : World} (ha : View .u32 w a zs) (hb : View .u32 w b zs) (hl : zs.length = n) (hn : n ≤ 140737488351232) (q : Nat) :
    Calls Try.prog 22 #[.slice a n ca, .slice b n cb] (w.drewN q) fun e w' => e = .returned (.bool true) ∧ ∃ m, w' = w.drewN m := by
  refine (words_true a b n ca cb zs (w.drewN q) (ha.drew q) (hb.drew q) hl hn).mono ?_
  rintro e w' ⟨he, m, hm⟩
  exact ⟨he, q + m, by rw [hm, World.drewN_drewN]⟩

end Go.Proofs.Ytpggcpnjcalfaab

/-
  SpoilWords of the kit writes over the words of a row of the call's own, and nothing else.
-/
namespace Go.Proofs.Ytpggcpnjcalfaab
open Go.RowKit
set_option maxRecDepth 10000

end Go.Proofs.Ytpggcpnjcalfaab
