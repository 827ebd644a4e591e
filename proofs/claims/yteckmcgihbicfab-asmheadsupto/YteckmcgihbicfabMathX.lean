/-
  The layer lex as plain functions on lists of numbers: quotes, tokens, lines of tokens. No condition but what each names.
-/
import Derived.Test.YteckmcgihbicfabMathL
namespace Go.Proofs.Yteckmcgihbicfab
open Go.RowKit

/-! ### quotes -/

def hexD (n : Int) : Int := if n < 10 then 48 + n else 87 + n
/-- A byte within a quoted text. -/
def escL (c : Int) : List Int := if c = 34 ∨ c = 92 then [92, c] else if printB c then [c] else [92, 120, hexD (c / 16), hexD (c % 16)]
/-- A text in quotes. -/
def quoteL (l : List Int) : List Int := 34 :: (l.flatMap escL ++ [34])

theorem hexD_within {n : Int} (h0 : 0 ≤ n) (h1 : n < 16) : 0 ≤ hexD n ∧ hexD n < 256 := by unfold hexD; split <;> omega
theorem escL_within {c : Int} (h0 : 0 ≤ c) (h1 : c < 256) : Within 256 (escL c) := by
  have a := hexD_within (n := c / 16) (by omega) (by omega)
  have b := hexD_within (n := c % 16) (by omega) (by omega)
  intro z hz
  unfold escL at hz
  split at hz
  · simp at hz; omega
  · split at hz
    · simp at hz; omega
    · simp only [List.mem_cons, List.not_mem_nil, or_false] at hz
      rcases hz with rfl | rfl | rfl | rfl <;> omega
theorem escL_len (c : Int) : (escL c).length ≤ 4 := by
  unfold escL; split
  · simp
  · split <;> simp
theorem flat_within {l : List Int} (h : Within 256 l) : Within 256 (l.flatMap escL) := by
  intro z hz
  obtain ⟨c, hc, hz⟩ := List.mem_flatMap.1 hz
  exact escL_within (h c hc).1 (h c hc).2 z hz
theorem flat_len (l : List Int) : (l.flatMap escL).length ≤ 4 * l.length := by
  induction l with
  | nil => simp
  | cons c l ih =>
    have := escL_len c
    simp only [List.flatMap_cons, List.length_append, List.length_cons]; omega
theorem within_append {m : Int} {a b : List Int} (ha : Within m a) (hb : Within m b) : Within m (a ++ b) := fun z hz => by
  rcases List.mem_append.1 hz with h | h
  · exact ha z h
  · exact hb z h
theorem within_cons {m c : Int} {a : List Int} (h0 : 0 ≤ c) (h1 : c < m) (ha : Within m a) : Within m (c :: a) := fun z hz => by
  rcases List.mem_cons.1 hz with h | h
  · subst h; exact ⟨h0, h1⟩
  · exact ha z h
theorem quoteL_within {l : List Int} (h : Within 256 l) : Within 256 (quoteL l) :=
  within_cons (by omega) (by omega) (within_append (flat_within h) (within_one (by omega) (by omega)))
theorem quoteL_len (l : List Int) : (quoteL l).length ≤ 4 * l.length + 2 := by
  have := flat_len l
  simp only [quoteL, List.length_cons, List.length_append, List.length_nil]; omega
theorem flat_snoc (l : List Int) (k : Nat) (h : k < l.length) : (l.take (k + 1)).flatMap escL = (l.take k).flatMap escL ++ escL (nth l k) := by
  rw [take_snoc l k h]; simp

/-! ### tokens -/

theorem kind_letter (c : Int) : (kindL c == 3) = letterB c := by
  unfold kindL
  cases letterB c
  · simp only [Bool.false_eq_true, if_false]
    repeat' split
    all_goals rfl
  · rfl
theorem kind_run (c : Int) : (kindL c == 3 || kindL c == 4) = runB c := by
  unfold kindL runB
  cases letterB c
  · cases digitB c
    · simp only [Bool.false_eq_true, if_false]
      repeat' split
      all_goals rfl
    · rfl
  · rfl
theorem kind_lo (c : Int) : 1 ≤ kindL c := by unfold kindL; repeat' split <;> omega
theorem kind_hi (c : Int) : kindL c ≤ 10 := by unfold kindL; repeat' split <;> omega

/-- A run that begins with a letter. -/
def wordB (l : List Int) : Bool := !l.isEmpty && l.all runB && letterB (nth l 0)
/-- A token's text may be, by its kind. -/
def tokOk (k : Int) (l : List Int) : Bool := if k = 1 then wordB l else if k = 2 then plainB l else if k = 3 then numB l else if k = 4 then true else if k = 5 then decide (l = [61]) else false
/-- How it stands in a line. -/
def tokS (k : Int) (l : List Int) : List Int := if k = 2 then 37 :: l else if k = 4 then quoteL l else l

theorem word_not {l : List Int} {k : Nat} (h : k < l.length) (hr : runB (nth l k) = false) : wordB l = false := by
  have e : nth l k = l[k] := by simp [nth, List.getD, h]
  cases hb : wordB l
  · rfl
  · simp only [wordB, Bool.and_eq_true, List.all_eq_true] at hb
    have := hb.1.2 _ (List.getElem_mem h)
    rw [← e, hr] at this; cases this
theorem word_all {l : List Int} (h : l ≠ []) (hr : ∀ k, k < l.length → runB (nth l k) = true) : wordB l = letterB (nth l 0) := by
  have e : l.all runB = true := by
    rw [List.all_eq_true]
    intro x hx
    obtain ⟨k, hk, rfl⟩ := List.getElem_of_mem hx
    have := hr k hk
    have e : nth l k = l[k] := by simp [nth, List.getD, hk]
    rwa [e] at this
  have e2 : l.isEmpty = false := by cases l <;> simp_all
  simp [wordB, e, e2]
theorem tokS_within {k : Int} {l : List Int} (h : Within 256 l) : Within 256 (tokS k l) := by
  unfold tokS; split
  · exact within_cons (by omega) (by omega) h
  · split
    · exact quoteL_within h
    · exact h
theorem tokS_len (k : Int) (l : List Int) : (tokS k l).length ≤ 4 * l.length + 2 := by
  have := quoteL_len l
  unfold tokS; split
  · simp; omega
  · split <;> omega

/-- A token: its kind, its text, its place. -/
abbrev TokT := Int × ByteArray × Int
def nthT (l : List TokT) (k : Nat) : TokT := l.getD k (0, ⟨#[]⟩, 0)
/-- Tokens as they are written, each with a blank ahead. -/
def wAll (l : List TokT) : List Int := l.flatMap fun t => 32 :: tokS t.1 (strI t.2.1)
def wOk (l : List TokT) : Bool := l.all fun t => tokOk t.1 (strI t.2.1)
/-- What Write answers. -/
def wOut (l : List TokT) : List Int := if wOk l then (wAll l).drop 1 else []
def wErr (l : List TokT) : Int := if wOk l then 0 else 2
/-- How many bytes the texts have together. -/
def bulkT (l : List TokT) : Nat := (l.map fun t => t.2.1.size).sum

theorem takeT_snoc (l : List TokT) (k : Nat) (h : k < l.length) : l.take (k + 1) = l.take k ++ [nthT l k] := by
  rw [List.take_succ_eq_append_getElem h]; simp [nthT, List.getD, h]
theorem wAll_snoc (l : List TokT) (k : Nat) (h : k < l.length) : wAll (l.take (k + 1)) = wAll (l.take k) ++ 32 :: tokS (nthT l k).1 (strI (nthT l k).2.1) := by
  rw [takeT_snoc l k h]; simp [wAll]
theorem wAll_drop0 (l : List TokT) (h : 0 < l.length) : (wAll (l.take 1)).drop 1 = tokS (nthT l 0).1 (strI (nthT l 0).2.1) := by
  rw [wAll_snoc l 0 h]; simp [wAll]
theorem wAll_dropS (l : List TokT) (k : Nat) (h0 : 0 < k) (h : k < l.length) : (wAll (l.take (k + 1))).drop 1 = ((wAll (l.take k)).drop 1 ++ [32]) ++ tokS (nthT l k).1 (strI (nthT l k).2.1) := by
  rw [wAll_snoc l k h]
  have hl : 1 ≤ (wAll (l.take k)).length := by
    obtain ⟨m, rfl⟩ : ∃ m, k = m + 1 := ⟨k - 1, by omega⟩
    rw [wAll_snoc l m (by omega)]; simp; omega
  rw [List.drop_append_of_le_length hl]; simp
theorem wOk_at {l : List TokT} (h : wOk l = true) {k : Nat} (hk : k < l.length) : tokOk (nthT l k).1 (strI (nthT l k).2.1) = true := by
  simp only [wOk, List.all_eq_true] at h
  have e : nthT l k = l[k] := by simp [nthT, List.getD, hk]
  rw [e]; exact h _ (List.getElem_mem hk)
theorem wOk_not {l : List TokT} {k : Nat} (hk : k < l.length) (h : tokOk (nthT l k).1 (strI (nthT l k).2.1) = false) : wOk l = false := by
  cases e : wOk l
  · rfl
  · rw [wOk_at e hk] at h; cases h
theorem wOk_all {l : List TokT} (h : ∀ k, k < l.length → tokOk (nthT l k).1 (strI (nthT l k).2.1) = true) : wOk l = true := by
  simp only [wOk, List.all_eq_true]
  intro x hx
  obtain ⟨k, hk, rfl⟩ := List.getElem_of_mem hx
  have := h k hk
  have e : nthT l k = l[k] := by simp [nthT, List.getD, hk]
  rwa [e] at this
theorem wAll_within (l : List TokT) : Within 256 (wAll l) := by
  intro z hz
  obtain ⟨t, _, hz⟩ := List.mem_flatMap.1 hz
  rcases List.mem_cons.1 hz with h | h
  · omega
  · exact tokS_within (strI_within _) z h
theorem within_drop {m : Int} {l : List Int} (h : Within m l) (n : Nat) : Within m (l.drop n) := fun z hz => h z (List.mem_of_mem_drop hz)
theorem wAll_len (l : List TokT) : (wAll l).length ≤ 4 * bulkT l + 3 * l.length := by
  induction l with
  | nil => simp [wAll]
  | cons t l ih =>
    have := tokS_len t.1 (strI t.2.1)
    rw [strI_len] at this
    have e : wAll (t :: l) = (32 :: tokS t.1 (strI t.2.1)) ++ wAll l := rfl
    rw [e]
    have e2 : bulkT (t :: l) = t.2.1.size + bulkT l := rfl
    simp only [List.length_append, List.length_cons, e2] at *
    omega
theorem bulkT_take (l : List TokT) (k : Nat) : bulkT (l.take k) ≤ bulkT l := by
  induction l generalizing k with
  | nil => simp
  | cons t l ih =>
    cases k with
    | zero => simp [bulkT]
    | succ k =>
      have := ih k
      simp only [List.take_succ_cons, bulkT, List.map_cons, List.sum_cons] at *
      omega
theorem bulkT_at (l : List TokT) (k : Nat) (h : k < l.length) : (nthT l k).2.1.size ≤ bulkT l := by
  have h1 := bulkT_take l (k + 1)
  rw [takeT_snoc l k h] at h1
  have e : bulkT (l.take k ++ [nthT l k]) = bulkT (l.take k) + (nthT l k).2.1.size := by simp [bulkT]
  omega

/-! ### reading -/

/-- Where the run from a place ends. -/
def runE (l : List Int) (p : Nat) : Nat := p + ((l.drop p).takeWhile runB).length
/-- A piece. -/
def cutL (l : List Int) (a b : Nat) : List Int := (l.take b).drop a
/-- What stands at a place within a quoted text for one byte, and how many bytes it is. -/
def partP (l : List Int) (p : Nat) : Option (Int × Nat) :=
  if nth l p = 92 then
    if nth l (p + 1) = 34 ∨ nth l (p + 1) = 92 then some (nth l (p + 1), 2)
    else if nth l (p + 1) = 120 ∧ hexB (nth l (p + 2)) = true ∧ hexB (nth l (p + 3)) = true then some (16 * dvI (nth l (p + 2)) + dvI (nth l (p + 3)), 4)
    else none
  else if printB (nth l p) = true then some (nth l p, 1) else none
/-- A quoted text from behind its first quote on: what it stands for, and where it ends. -/
def quotF : Nat → List Int → Nat → Option (List Int × Nat)
  | 0, _, _ => none
  | f + 1, l, p => if nth l p = 34 then some ([], p + 1) else match partP l p with
    | none => none
    | some (b, n) => (quotF f l (p + n)).map fun r => (b :: r.1, r.2)
def quotP (l : List Int) (p : Nat) : Option (List Int × Nat) := quotF (l.length + 1) l p
/-- The token at a place: its kind, its text, where it ends; or what is wrong. -/
def tokP (l : List Int) (p : Nat) : Sum Int (Int × List Int × Nat) :=
  if letterB (nth l p) then .inr (1, cutL l p (runE l p), runE l p)
  else if nth l p = 37 then if plainB (cutL l (p + 1) (runE l (p + 1))) then .inr (2, cutL l (p + 1) (runE l (p + 1)), runE l (p + 1)) else .inl 62
  else if digitB (nth l p) || decide (nth l p = 45) then if numB (cutL l p (runE l (p + 1))) then .inr (3, cutL l p (runE l (p + 1)), runE l (p + 1)) else .inl 62
  else if nth l p = 34 then match quotP l (p + 1) with
    | some (b, q) => .inr (4, b, q)
    | none => .inl 61
  else if nth l p = 61 then .inr (5, [61], p + 1)
  else .inl 60
abbrev TokR := List TokT × Int × Int
/-- A token more ahead; what is wrong stays. -/
def consR (t : TokT) (r : TokR) : TokR := if r.2.1 = 0 then (t :: r.1, 0, 0) else r
def joinR (acc : List TokT) (r : TokR) : TokR := if r.2.1 = 0 then (acc ++ r.1, 0, 0) else ([], r.2.1, r.2.2)
def toksF : Nat → List Int → Nat → TokR
  | 0, _, _ => ([], 0, 0)
  | f + 1, l, p =>
    if p < l.length ∧ nth l p ≠ 59 then
      if blankB (nth l p) then toksF f l (p + 1) else match tokP l p with
        | .inl e => ([], e, (p : Int))
        | .inr (k, t, q) => consR (k, strOfNums t, (p : Int)) (toksF f l q)
    else ([], 0, 0)
/-- The tokens of a line from a place on. -/
def toksP (l : List Int) (p : Nat) : TokR := toksF (l.length + 1) l p

theorem nth_over (l : List Int) (k : Nat) (h : l.length ≤ k) : nth l k = 0 := by simp [nth, List.getD, List.getElem?_eq_none h]

theorem runE_spec {l : List Int} {p k : Nat} (hp : p ≤ k) (hk : k ≤ l.length) (h : ∀ i, p ≤ i → i < k → runB (nth l i) = true) (he : k = l.length ∨ runB (nth l k) = false) : runE l p = k := by
  have key : ∀ (n : Nat) (p : Nat), k - p = n → p ≤ k → (∀ i, p ≤ i → i < k → runB (nth l i) = true) → ((l.drop p).takeWhile runB).length = k - p := by
    intro n
    induction n with
    | zero =>
      intro p hn hp _
      obtain rfl : p = k := by omega
      rcases he with he | he
      · rw [List.drop_eq_nil_of_le (by omega)]; simp
      · by_cases hl : p < l.length
        · rw [List.drop_eq_getElem_cons hl]
          have e : nth l p = l[p] := by simp [nth, List.getD, hl]
          rw [e] at he
          rw [List.takeWhile_cons_of_neg (by simp [he])]; simp
        · rw [List.drop_eq_nil_of_le (by omega)]; simp
    | succ n ih =>
      intro p hn hp h
      have hl : p < l.length := by omega
      have e : nth l p = l[p] := by simp [nth, List.getD, hl]
      have h0 := h p (Nat.le_refl _) (by omega)
      rw [e] at h0
      rw [List.drop_eq_getElem_cons hl, List.takeWhile_cons_of_pos (by simpa using h0)]
      have := ih (p + 1) (by omega) (by omega) (fun i hi hik => h i (by omega) hik)
      simp only [List.length_cons]; omega
  have := key _ p rfl hp h
  unfold runE; omega
theorem runE_le (l : List Int) (p : Nat) (h : p ≤ l.length) : runE l p ≤ l.length := by
  have := (List.takeWhile_sublist (p := runB) (l := l.drop p)).length_le
  rw [List.length_drop] at this
  unfold runE; omega
theorem runE_ge (l : List Int) (p : Nat) : p ≤ runE l p := by unfold runE; omega
theorem runE_gt {l : List Int} {p : Nat} (h : p < l.length) (hr : runB (nth l p) = true) : p + 1 ≤ runE l p := by
  have e : nth l p = l[p] := by simp [nth, List.getD, h]
  rw [e] at hr
  unfold runE
  rw [List.drop_eq_getElem_cons h, List.takeWhile_cons_of_pos (by simpa using hr)]
  simp

theorem partP_some {l : List Int} {p n : Nat} {b : Int} (h : partP l p = some (b, n)) : 1 ≤ n ∧ p + n ≤ l.length := by
  have hlt : ∀ k, nth l k ≠ 0 → k < l.length := fun k hk => by
    rcases Nat.lt_or_ge k l.length with h' | h'
    · exact h'
    · exact absurd (nth_over l k h') hk
  have hhex : hexB 0 = false := by decide
  unfold partP at h
  split at h
  · split at h
    · rename_i h1
      have := hlt (p + 1) (by omega)
      simp at h; omega
    · split at h
      · rename_i h1
        have := hlt (p + 3) (fun e => by rw [e, hhex] at h1; exact absurd h1.2.2 (by decide))
        simp at h; omega
      · cases h
  · split at h
    · rename_i h1
      have := hlt p (fun e => by rw [e] at h1; exact absurd h1 (by decide))
      simp at h; omega
    · cases h
theorem partP_over {l : List Int} {p : Nat} (h : l.length ≤ p) : partP l p = none := by
  cases e : partP l p
  · rfl
  · have := partP_some e; omega
theorem quotF_succ (f : Nat) (l : List Int) (p : Nat) : quotF (f + 1) l p = if nth l p = 34 then some ([], p + 1) else match partP l p with
    | none => none
    | some (b, n) => (quotF f l (p + n)).map fun r => (b :: r.1, r.2) := rfl
theorem toksF_succ (f : Nat) (l : List Int) (p : Nat) : toksF (f + 1) l p = if p < l.length ∧ nth l p ≠ 59 then
      if blankB (nth l p) then toksF f l (p + 1) else match tokP l p with
        | .inl e => ([], e, (p : Int))
        | .inr (k, t, q) => consR (k, strOfNums t, (p : Int)) (toksF f l q)
    else ([], 0, 0) := rfl
theorem quotF_fuel (l : List Int) : ∀ (f g p : Nat), l.length - p < f → l.length - p < g → quotF f l p = quotF g l p := by
  intro f
  induction f with
  | zero => intro g p h; omega
  | succ f ih =>
    intro g p hf hg
    match g, hg with
    | g + 1, hg =>
      unfold quotF
      split
      · rfl
      · cases e : partP l p with
        | none => rfl
        | some bn =>
          obtain ⟨b, n⟩ := bn
          have := partP_some e
          simp only
          rw [ih g (p + n) (by omega) (by omega)]
theorem quotP_close {l : List Int} {p : Nat} (h : nth l p = 34) : quotP l p = some ([], p + 1) := by
  unfold quotP quotF; rw [if_pos h]
theorem quotP_none {l : List Int} {p : Nat} (h : nth l p ≠ 34) (h1 : partP l p = none) : quotP l p = none := by
  unfold quotP quotF; rw [if_neg h, h1]
theorem quotP_some {l : List Int} {p n : Nat} {b : Int} (h : nth l p ≠ 34) (h1 : partP l p = some (b, n)) : quotP l p = (quotP l (p + n)).map fun r => (b :: r.1, r.2) := by
  have := partP_some h1
  have e : quotP l p = (quotF l.length l (p + n)).map fun r => (b :: r.1, r.2) := by
    show quotF (l.length + 1) l p = _
    rw [quotF_succ, if_neg h, h1]
  rw [e, quotF_fuel l l.length (l.length + 1) (p + n) (by omega) (by omega)]
  rfl
theorem quotP_end {l : List Int} : ∀ {p q : Nat} {b : List Int}, quotP l p = some (b, q) → p + 1 ≤ q ∧ q ≤ l.length := by
  have key : ∀ (f p q : Nat) (b : List Int), quotF f l p = some (b, q) → p + 1 ≤ q ∧ q ≤ l.length := by
    intro f
    induction f with
    | zero => intro p q b h; cases h
    | succ f ih =>
      intro p q b h
      unfold quotF at h
      split at h
      · rename_i h1
        have : p < l.length := by
          rcases Nat.lt_or_ge p l.length with h' | h'
          · exact h'
          · rw [nth_over l p h'] at h1; omega
        simp at h; omega
      · cases e : partP l p with
        | none => rw [e] at h; cases h
        | some bn =>
          obtain ⟨b', n⟩ := bn
          rw [e] at h
          simp only [Option.map_eq_some_iff] at h
          obtain ⟨⟨bs, q'⟩, h1, h2⟩ := h
          have := ih _ _ _ h1
          simp at h2; omega
  intro p q b h
  exact key _ p q b h

theorem tokP_end {l : List Int} {p q : Nat} {k : Int} {t : List Int} (hp : p < l.length) (h : tokP l p = .inr (k, t, q)) : p + 1 ≤ q ∧ q ≤ l.length := by
  unfold tokP at h
  split at h
  · rename_i h1
    have := runE_gt hp (by simp [runB, h1])
    have := runE_le l p (by omega)
    simp at h; omega
  · have a := runE_ge l (p + 1)
    have b := runE_le l (p + 1) (by omega)
    split at h
    · split at h
      · simp at h; omega
      · cases h
    · split at h
      · split at h
        · simp at h; omega
        · cases h
      · split at h
        · split at h
          · rename_i e
            have := quotP_end e
            simp at h; omega
          · cases h
        · split at h
          · simp at h; omega
          · cases h
theorem toksF_fuel (l : List Int) : ∀ (f g p : Nat), l.length - p < f → l.length - p < g → toksF f l p = toksF g l p := by
  intro f
  induction f with
  | zero => intro g p h; omega
  | succ f ih =>
    intro g p hf hg
    match g, hg with
    | g + 1, hg =>
      unfold toksF
      split
      · rename_i h1
        split
        · rw [ih g (p + 1) (by omega) (by omega)]
        · cases e : tokP l p with
          | inl _ => rfl
          | inr r =>
            obtain ⟨k, t, q⟩ := r
            have := tokP_end h1.1 e
            simp only
            rw [ih g q (by omega) (by omega)]
      · rfl
theorem toksP_end {l : List Int} {p : Nat} (h : ¬ (p < l.length ∧ nth l p ≠ 59)) : toksP l p = ([], 0, 0) := by
  unfold toksP toksF; rw [if_neg h]
theorem toksP_blank {l : List Int} {p : Nat} (h : p < l.length) (h1 : blankB (nth l p) = true) : toksP l p = toksP l (p + 1) := by
  have h2 : nth l p ≠ 59 := fun e => by rw [e] at h1; exact absurd h1 (by decide)
  have e : toksP l p = toksF l.length l (p + 1) := by
    show toksF (l.length + 1) l p = _
    rw [toksF_succ, if_pos ⟨h, h2⟩, if_pos h1]
  rw [e, toksF_fuel l l.length (l.length + 1) (p + 1) (by omega) (by omega)]
  rfl
theorem toksP_err {l : List Int} {p : Nat} {e : Int} (h : p < l.length) (h2 : nth l p ≠ 59) (h1 : blankB (nth l p) = false) (ht : tokP l p = .inl e) : toksP l p = ([], e, (p : Int)) := by
  unfold toksP toksF; rw [if_pos ⟨h, h2⟩, if_neg (by simp [h1]), ht]
theorem toksP_tok {l : List Int} {p q : Nat} {k : Int} {t : List Int} (h : p < l.length) (h2 : nth l p ≠ 59) (h1 : blankB (nth l p) = false) (ht : tokP l p = .inr (k, t, q)) : toksP l p = consR (k, strOfNums t, (p : Int)) (toksP l q) := by
  have hq := tokP_end h ht
  have e : toksP l p = consR (k, strOfNums t, (p : Int)) (toksF l.length l q) := by
    show toksF (l.length + 1) l p = _
    rw [toksF_succ, if_pos ⟨h, h2⟩, if_neg (by simp [h1]), ht]
  rw [e, toksF_fuel l l.length (l.length + 1) q (by omega) (by omega)]
  rfl
theorem join_cons (acc : List TokT) (t : TokT) (r : TokR) : joinR acc (consR t r) = joinR (acc ++ [t]) r := by
  unfold joinR consR
  by_cases h : r.2.1 = 0
  · simp [h]
  · simp [h]
theorem toksP_shape (l : List Int) (p : Nat) : ((toksP l p).2.1 = 0 → (toksP l p).2.2 = 0) ∧ ((toksP l p).2.1 ≠ 0 → (toksP l p).1 = []) := by
  have key : ∀ f p, ((toksF f l p).2.1 = 0 → (toksF f l p).2.2 = 0) ∧ ((toksF f l p).2.1 ≠ 0 → (toksF f l p).1 = []) := by
    intro f
    induction f with
    | zero => intro p; simp [toksF]
    | succ f ih =>
      intro p
      unfold toksF
      split
      · split
        · exact ih _
        · split
          · rename_i e he
            have hne : e ≠ 0 := by
              intro h0; subst h0
              unfold tokP at he
              repeat' (split at he)
              all_goals simp at he
            simp [hne]
          · rename_i k t q he
            have := ih q
            unfold consR; split
            · simp
            · exact this
      · simp
  exact key _ p
theorem join_nil (l : List Int) (p : Nat) : joinR [] (toksP l p) = toksP l p := by
  have h := toksP_shape l p
  unfold joinR
  split
  · rename_i e
    rcases hr : toksP l p with ⟨a, b, c⟩
    rw [hr] at h e
    simp only at h e
    simp [e, h.1 e]
  · rename_i e
    rcases hr : toksP l p with ⟨a, b, c⟩
    rw [hr] at h e
    simp only at h e
    simp [h.2 e]

end Go.Proofs.Yteckmcgihbicfab
