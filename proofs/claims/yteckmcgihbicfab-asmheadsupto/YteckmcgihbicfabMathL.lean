/-
  Plain facts on the layer lex: kinds of bytes, numbers in digits, runs. No condition but what each names.
-/
import Derived.Test.YteckmcgihbicfabMath2
import Derived.Test.YteckmcgihbicfabMath3
import Derived.Test.YteckmcgihbicfabMathS
namespace Go.Proofs.Yteckmcgihbicfab
open Go.RowKit

/-- Letters, digits, blanks, bytes of a run, digits to the base 16. -/
def letterB (c : Int) : Bool := c == 95 || decide (65 ≤ c ∧ c ≤ 90) || decide (97 ≤ c ∧ c ≤ 122)
def digitB (c : Int) : Bool := decide (48 ≤ c ∧ c ≤ 57)
def blankB (c : Int) : Bool := c == 9 || c == 13 || c == 32
def runB (c : Int) : Bool := letterB c || digitB c
def hexB (c : Int) : Bool := digitB c || decide (97 ≤ c ∧ c ≤ 102) || decide (65 ≤ c ∧ c ≤ 70)
def printB (c : Int) : Bool := decide (32 ≤ c ∧ c ≤ 126)
/-- What a digit is worth. -/
def worthI (c : Int) : Int := if c ≤ 57 then c - 48 else if 97 ≤ c then c - 87 else c - 55
/-- .. of another byte more than any digit. -/
def dvI (c : Int) : Int := if hexB c then worthI c else 18446744073709551615
/-- A byte's kind, as the code numbers them. -/
def kindL (c : Int) : Int := if letterB c then 3 else if digitB c then 4 else if blankB c then 2 else if c = 37 then 5 else if c = 45 then 6 else if c = 34 then 7 else if c = 92 then 8 else if c = 61 then 9 else if c = 59 then 10 else 1

theorem worth_lo {c : Int} (h : hexB c = true) : 0 ≤ worthI c := by
  simp only [hexB, digitB, Bool.or_eq_true, decide_eq_true_eq] at h
  unfold worthI; split
  · omega
  · split <;> omega
theorem worth_hi {c : Int} (h : hexB c = true) : worthI c < 16 := by
  simp only [hexB, digitB, Bool.or_eq_true, decide_eq_true_eq] at h
  unfold worthI; split
  · omega
  · split <;> omega
theorem dv_lo (c : Int) : 0 ≤ dvI c := by
  unfold dvI; split
  · exact worth_lo (by assumption)
  · omega
theorem dv_hi (c : Int) : dvI c < 18446744073709551616 := by
  unfold dvI; split
  · have := worth_hi (c := c) (by assumption); omega
  · omega
theorem dv_hex (c : Int) : dvI c < 16 ↔ hexB c = true := by
  unfold dvI; split
  · have := worth_hi (c := c) (by assumption)
    constructor
    · intro _; assumption
    · intro _; omega
  · constructor
    · intro h; omega
    · intro h; contradiction
theorem digit_hex {c : Int} (h : digitB c = true) : hexB c = true := by simp [hexB, h]
theorem dv_digit (c : Int) : dvI c < 10 ↔ digitB c = true := by
  unfold dvI; split
  · rename_i h
    simp only [hexB, digitB, Bool.or_eq_true, decide_eq_true_eq] at h ⊢
    unfold worthI; split
    · constructor <;> intro _ <;> omega
    · split <;> constructor <;> intro _ <;> omega
  · rename_i h
    constructor
    · intro h; omega
    · intro h'; exact absurd (digit_hex h') h

/-! ### numbers in digits -/

/-- What digits say to a base, behind a number. -/
def valF (b : Int) : Int → List Int → Int
  | n, [] => n
  | n, c :: r => valF b (n * b + dvI c) r
/-- Digits to a base. -/
def allD (b : Int) (l : List Int) : Bool := l.all fun c => decide (dvI c < b)

theorem valF_snoc (b n : Int) (l : List Int) (c : Int) : valF b n (l ++ [c]) = valF b n l * b + dvI c := by
  induction l generalizing n with
  | nil => rfl
  | cons x l ih => simp only [List.cons_append, valF]; exact ih _
theorem valF_take (b : Int) (l : List Int) (k : Nat) (h : k < l.length) : valF b 0 (l.take (k + 1)) = valF b 0 (l.take k) * b + dvI (nth l k) := by
  rw [take_snoc l k h, valF_snoc]
theorem valF_ge (b n : Int) (l : List Int) (hb : 1 ≤ b) (hn : 0 ≤ n) : n ≤ valF b n l := by
  induction l generalizing n with
  | nil => exact Int.le_refl _
  | cons c l ih =>
    have h0 := dv_lo c
    have h1 : n * 1 ≤ n * b := Int.mul_le_mul_of_nonneg_left hb hn
    have := ih (n * b + dvI c) (by omega)
    simp only [valF]; omega
theorem valF_lo (b : Int) (l : List Int) (hb : 1 ≤ b) : 0 ≤ valF b 0 l := valF_ge b 0 l hb (Int.le_refl _)
theorem valF_append (b n : Int) (l m : List Int) : valF b n (l ++ m) = valF b (valF b n l) m := by
  induction l generalizing n with
  | nil => rfl
  | cons x l ih => simp only [List.cons_append, valF]; exact ih _
theorem valF_take_le (b : Int) (l : List Int) (k : Nat) (hb : 1 ≤ b) : valF b 0 (l.take k) ≤ valF b 0 l := by
  have e : l = l.take k ++ l.drop k := (List.take_append_drop k l).symm
  have h := valF_ge b (valF b 0 (l.take k)) (l.drop k) hb (valF_lo b _ hb)
  rw [← valF_append, ← e] at h
  exact h
/-- Below the base to the power of how many there are. -/
theorem valF_lt (b : Int) (l : List Int) (hb : 1 ≤ b) (h : allD b l = true) (n : Int) (j : Nat) (hn : n < b ^ j) : valF b n l < b ^ (j + l.length) := by
  induction l generalizing n j with
  | nil => simpa [valF] using hn
  | cons c l ih =>
    simp only [allD, List.all_cons, Bool.and_eq_true, decide_eq_true_eq] at h
    have h1 : (n + 1) * b ≤ b ^ j * b := Int.mul_le_mul_of_nonneg_right (by omega) (by omega)
    have e : (n + 1) * b = n * b + b := by rw [Int.add_mul]; omega
    have := ih h.2 (n * b + dvI c) (j + 1) (by rw [Int.pow_succ]; omega)
    simp only [valF, List.length_cons]
    rw [show j + (l.length + 1) = j + 1 + l.length by omega]
    exact this
theorem valF_pow (b n : Int) (l : List Int) (hb : 1 ≤ b) (hn : 0 ≤ n) : n * b ^ l.length ≤ valF b n l := by
  induction l generalizing n with
  | nil => simp [valF]
  | cons c l ih =>
    have h0 := dv_lo c
    have hm : 0 ≤ n * b := Int.mul_nonneg hn (by omega)
    have h1 := ih (n * b + dvI c) (by omega)
    have h2 : n * b * b ^ l.length ≤ (n * b + dvI c) * b ^ l.length := Int.mul_le_mul_of_nonneg_right (by omega) (Int.le_of_lt (Int.pow_pos (by omega)))
    simp only [valF, List.length_cons, Int.pow_succ]
    have e : n * (b ^ l.length * b) = n * b * b ^ l.length := by rw [Int.mul_comm (b ^ l.length) b, Int.mul_assoc]
    omega

/-- The digits to a base that say a number below 2^32. -/
def digsB (b : Int) (l : List Int) : Bool := !l.isEmpty && allD b l && decide (valF b 0 l < 4294967296)
/-- A plain number. -/
def plainB (l : List Int) : Bool := !(decide (1 < l.length) && nth l 0 == 48) && digsB 10 l

theorem allD_take {b : Int} {l : List Int} (h : allD b l = true) (k : Nat) : allD b (l.take k) = true := by
  simp only [allD, List.all_eq_true] at h ⊢
  exact fun x hx => h x (List.mem_of_mem_take hx)
theorem allD_at {b : Int} {l : List Int} (h : allD b l = true) {k : Nat} (hk : k < l.length) : dvI (nth l k) < b := by
  simp only [allD, List.all_eq_true, decide_eq_true_eq] at h
  have e : nth l k = l[k] := by simp [nth, List.getD, hk]
  rw [e]; exact h _ (List.getElem_mem hk)
theorem allD_snoc {b : Int} {l : List Int} {k : Nat} (hk : k < l.length) (h : allD b (l.take k) = true) (h1 : dvI (nth l k) < b) : allD b (l.take (k + 1)) = true := by
  rw [take_snoc l k hk]
  simp only [allD, List.all_append, Bool.and_eq_true] at h ⊢
  exact ⟨h, by simpa using h1⟩
theorem digs_not {b : Int} {l : List Int} {k : Nat} (hk : k < l.length) (h1 : b ≤ dvI (nth l k)) : digsB b l = false := by
  cases e : digsB b l
  · rfl
  · simp only [digsB, Bool.and_eq_true] at e
    have := allD_at e.1.2 hk
    omega
theorem digs_large {b : Int} {l : List Int} {k : Nat} (hb : 1 ≤ b) (h1 : 4294967296 ≤ valF b 0 (l.take k)) : digsB b l = false := by
  cases e : digsB b l
  · rfl
  · simp only [digsB, Bool.and_eq_true, decide_eq_true_eq] at e
    have := valF_take_le b l k hb
    omega
theorem digs_all {b : Int} {l : List Int} (h : allD b l = true) (h1 : valF b 0 l < 4294967296) : digsB b l = !l.isEmpty := by
  simp [digsB, h, h1]
theorem plain_zero {l : List Int} (h : 1 < l.length) (h0 : nth l 0 = 48) : plainB l = false := by simp [plainB, h, h0]
theorem plain_digs {l : List Int} (h : ¬ (1 < l.length ∧ nth l 0 = 48)) : plainB l = digsB 10 l := by
  have e : (decide (1 < l.length) && nth l 0 == 48) = false := by
    cases e : (decide (1 < l.length) && nth l 0 == 48)
    · rfl
    · simp at e; exact absurd e h
  rw [plainB, e]; rfl
theorem plain_nil : plainB [] = false := rfl
/-- More than ten digits, the first not 0: 2^32 or more. -/
theorem plain_long {l : List Int} (h : 10 < l.length) : plainB l = false := by
  cases e : plainB l
  · rfl
  · match l, h with
    | c :: r, h =>
      simp only [plainB, digsB, Bool.and_eq_true, decide_eq_true_eq, Bool.not_eq_true'] at e
      obtain ⟨e1, ⟨_, e3⟩, e4⟩ := e
      have hc : dvI c < 10 := by have := allD_at e3 (k := 0) (by simp); exact this
      have hd := (dv_digit c).1 hc
      have hne : c ≠ 48 := by
        intro hc; subst hc
        have : decide (1 < (48 :: r).length) = true := decide_eq_true (by simp at h ⊢; omega)
        rw [this] at e1
        simp [nth] at e1
      have h1 : 1 ≤ dvI c := by
        have := digit_hex hd
        simp only [digitB, decide_eq_true_eq] at hd
        unfold dvI worthI; rw [if_pos this, if_pos (by omega)]; omega
      have h2 := valF_pow 10 (0 * 10 + dvI c) r (by omega) (by omega)
      have e5 : valF 10 0 (c :: r) = valF 10 (0 * 10 + dvI c) r := rfl
      have h3 : (10 : Int) ^ 10 ≤ 10 ^ r.length := by
        have hl : 10 ≤ r.length := by simp at h; omega
        obtain ⟨m, hm⟩ : ∃ m, r.length = 10 + m := ⟨r.length - 10, by omega⟩
        rw [hm, Int.pow_add]
        have h0 : (0 : Int) < 10 ^ m := Int.pow_pos (by decide)
        have : (1 : Int) ≤ 10 ^ m := by omega
        have := Int.mul_le_mul_of_nonneg_left this (show (0 : Int) ≤ 10 ^ 10 by decide)
        omega
      have h4 : 1 * (10 : Int) ^ r.length ≤ (0 * 10 + dvI c) * 10 ^ r.length := Int.mul_le_mul_of_nonneg_right (by omega) (Int.le_of_lt (Int.pow_pos (by decide)))
      omega

/-- A number's text, and what it says. -/
def numB (l : List Int) : Bool :=
  if l.take 1 = [45] then plainB (l.drop 1) && decide (1 ≤ valF 10 0 (l.drop 1) ∧ valF 10 0 (l.drop 1) ≤ 2147483648)
  else if l.take 2 = [48, 120] then digsB 16 (l.drop 2) && decide (l.length ≤ 10)
  else plainB l
def numV (l : List Int) : Int :=
  if l.take 1 = [45] then 4294967296 - valF 10 0 (l.drop 1)
  else if l.take 2 = [48, 120] then valF 16 0 (l.drop 2)
  else valF 10 0 l
/-- What Number answers. -/
def numOut (l : List Int) : Int := if numB l then numV l else 0
def numErr (l : List Int) : Int := if numB l then 0 else 62

theorem num_bounds {l : List Int} (h : numB l = true) : 0 ≤ numV l ∧ numV l < 4294967296 := by
  unfold numB at h; unfold numV
  split at h
  · rename_i e; rw [if_pos e]
    simp only [Bool.and_eq_true, decide_eq_true_eq] at h
    omega
  · rename_i e; rw [if_neg e]
    split at h
    · rename_i e2; rw [if_pos e2]
      simp only [digsB, Bool.and_eq_true, decide_eq_true_eq] at h
      have := valF_lo 16 (l.drop 2) (by omega)
      omega
    · rename_i e2; rw [if_neg e2]
      simp only [plainB, digsB, Bool.and_eq_true, decide_eq_true_eq] at h
      have := valF_lo 10 l (by omega)
      omega

/-! ### strings and their numbers -/

theorem strI_inj {s t : ByteArray} (h : strI s = strI t) : s = t := by rw [← str_of_strI s, ← str_of_strI t, h]
theorem strI_of {l : List Int} (h : Within 256 l) : strI (strOfNums l) = l := by
  unfold strI strOfNums
  simp only [List.map_map]
  apply List.ext_getElem (by simp)
  intro k h1 h2
  simp only [List.getElem_map, Function.comp_def]
  have := h (l[k]) (List.getElem_mem h2)
  have hlt : l[k].toNat < 256 := by omega
  rw [UInt8.toNat_ofNat_of_lt' (by simpa using hlt)]
  omega
theorem strI_append (s t : ByteArray) : strI (s ++ t) = strI s ++ strI t := by
  unfold strI
  rw [ByteArray.data_append]; simp
theorem strI_extract (s : ByteArray) (a b : Nat) : strI (s.extract a b) = ((strI s).take b).drop a := by
  unfold strI
  rw [ByteArray.data_extract]
  simp [List.map_drop, List.map_take, List.extract_eq_take_drop, List.drop_take]
theorem strOfNums_append (a b : List Int) : strOfNums (a ++ b) = strOfNums a ++ strOfNums b := by
  unfold strOfNums
  apply ByteArray.ext
  rw [ByteArray.data_append]; simp

end Go.Proofs.Yteckmcgihbicfab
