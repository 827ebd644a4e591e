/-
  Texts laid together in one: MathI, CodeWinst, CodeRaw, MathR, MathC, MathRL.
-/
import Derived.Test.YtpggcpnjcalfaabB01
import Derived.Test.YtpggcpnjcalfaabB07
import Derived.Test.YtpggcpnjcalfaabB08
import Derived.WalkSpells
import Derived.WalkMore
import Derived.Deep.RegionHeld2
import Derived.Test.YtpggcpnjcalfaabB06
import Derived.Test.YtpggcpnjcalfaabB04
import Derived.Test.YtpggcpnjcalfaabB03
/-
  Plain facts on instructions as words: what is wrong with an instruction, and its words.
-/
namespace Go.Proofs.Ytpggcpnjcalfaab
open Go.RowKit
set_option linter.unusedVariables false
set_option linter.unusedSimpArgs false

/-- Is a byte of a text zero? -/
def nulS (s : ByteArray) : Bool := s.data.toList.any (· == 0)
theorem nulS_false {s : ByteArray} : nulS s = false ↔ NoNul s := by
  unfold nulS NoNul
  rw [List.any_eq_false]
  constructor
  · intro h k hk
    rw [nth_strI s k hk]
    intro e
    have h1 : s[k].toNat = 0 := by omega
    have h2 : s.data.toList[k]'(by rw [size_list]; exact hk) = 0 := UInt8.toNat_inj.1 h1
    exact h _ (List.getElem_mem (by rw [size_list]; exact hk)) (by simp [h2])
  · intro h x hx hx0
    obtain ⟨k, hk, rfl⟩ := List.mem_iff_getElem.1 hx
    have hk' : k < s.size := by rw [← size_list]; exact hk
    apply h k hk'
    rw [nth_strI s k hk']
    have e : s[k] = s.data.toList[k] := rfl
    rw [e, eq_of_beq hx0]
    rfl
theorem nulS_true {s : ByteArray} (h : nulS s = true) : ∃ k, k < s.size ∧ nth (strI s) k = 0 := by
  apply Classical.byContradiction
  intro hn
  have : NoNul s := fun k hk e => hn ⟨k, hk, e⟩
  rw [← nulS_false] at this
  rw [this] at h
  cases h
theorem nulS_empty : nulS ⟨#[]⟩ = false := rfl
theorem size_zero {s : ByteArray} (h : s.size = 0) : s = ⟨#[]⟩ := by
  have : s.data = #[] := Array.eq_empty_of_size_eq_zero h
  cases s; simp_all

/-- What is wrong with an argument. -/
def wrongA (c : Int) (x : ArgT) (b : Int) : Int := if mayStandB c x = false then 42 else if x.1 = 3 then (if nulS x.2.2 then 13 else 0) else faultW c x.2.1 b

/-- The first wrong argument's error. -/
def wrongL (f : Frm) (b : Int) : Nat → List ArgT → Int
  | _, [] => 0
  | k, x :: l => if wrongA (letterI f k) x b = 0 then wrongL f b (k + 1) l else wrongA (letterI f k) x b

/-- An argument's words. -/
def wordsA (x : ArgT) : List Int := if x.1 = 3 then textW x.2.2 else [x.2.1]
theorem wordsA_len (x : ArgT) : (wordsA x).length = if x.1 = 3 then x.2.2.size / 4 + 1 else 1 := by
  unfold wordsA
  split
  · exact textW_len _
  · rfl
def wordsL (l : List ArgT) : List Int := l.flatMap wordsA
/-- The ids ahead of the arguments. -/
def headW (f : Frm) (t r : Int) : List Int := (if f.2.1 then [t] else []) ++ (if f.2.2.1 then [r] else [])
/-- An instruction's words. -/
def rawL (f : Frm) (x : InstT) : List Int := headW f x.2.1 x.2.2.1 ++ wordsL x.2.2.2

/-- What is wrong with an instruction, its form being f. -/
def faultI (f : Frm) (x : InstT) (b : Int) : Int :=
  if idE f.2.1 x.2.1 b 40 ≠ 0 then idE f.2.1 x.2.1 b 40
  else if idE f.2.2.1 x.2.2.1 b 41 ≠ 0 then idE f.2.2.1 x.2.2.1 b 41
  else if wrongL f b 0 x.2.2.2 ≠ 0 then wrongL f b 0 x.2.2.2
  else if wholeN f x.2.2.2.length = false then 42
  else if 65535 < 1 + (rawL f x).length then 25 else 0
/-- What Raw answers: its error. -/
def rawE (x : InstT) (b : Int) : Int := if (lookF refT x.1).2 then faultI (lookF refT x.1).1 x b else 30
/-- Its words. -/
def rawWs (x : InstT) (b : Int) : List Int := if rawE x b = 0 then rawL (lookF refT x.1).1 x else []

theorem wrongL_zero {f : Frm} {b : Int} : ∀ {l : List ArgT} {k : Nat}, wrongL f b k l = 0 → ∀ j, j < l.length → wrongA (letterI f ((k + j : Nat) : Int)) (nthA l j) b = 0
  | [], _, _, j, hj => by simp at hj
  | x :: l, k, h, j, hj => by
    rw [wrongL] at h
    by_cases h0 : wrongA (letterI f k) x b = 0
    · rw [if_pos h0] at h
      cases j with
      | zero => exact h0
      | succ j =>
        have := wrongL_zero h j (by simpa using hj)
        rw [show k + (j + 1) = k + 1 + j by omega]
        exact this
    · rw [if_neg h0] at h; exact absurd h h0
/-- The first that is wrong. -/
theorem wrongL_first {f : Frm} {b : Int} : ∀ {l : List ArgT} {k j : Nat}, j < l.length → (∀ i, i < j → wrongA (letterI f ((k + i : Nat) : Int)) (nthA l i) b = 0) → wrongA (letterI f ((k + j : Nat) : Int)) (nthA l j) b ≠ 0 → wrongL f b k l = wrongA (letterI f ((k + j : Nat) : Int)) (nthA l j) b
  | [], _, j, hj, _, _ => by simp at hj
  | x :: l, k, 0, _, _, h => by
    rw [wrongL, if_neg (show ¬ wrongA (letterI f k) x b = 0 from h)]; rfl
  | x :: l, k, j + 1, hj, h0, h => by
    have h1 : wrongA (letterI f k) x b = 0 := h0 0 (by omega)
    rw [wrongL, if_pos h1]
    have e := wrongL_first (f := f) (b := b) (l := l) (k := k + 1) (j := j) (by simpa using hj) (fun i hi => by have := h0 (i + 1) (by omega); rw [show k + (i + 1) = k + 1 + i by omega] at this; exact this) (by rw [show k + (j + 1) = k + 1 + j by omega] at h; exact h)
    rw [e, show k + (j + 1) = k + 1 + j by omega]; rfl
theorem wrongL_none {f : Frm} {b : Int} : ∀ {l : List ArgT} {k : Nat}, (∀ i, i < l.length → wrongA (letterI f ((k + i : Nat) : Int)) (nthA l i) b = 0) → wrongL f b k l = 0
  | [], _, _ => rfl
  | x :: l, k, h => by
    have h1 : wrongA (letterI f k) x b = 0 := h 0 (by simp)
    rw [wrongL, if_pos h1]
    exact wrongL_none fun i hi => by have := h (i + 1) (by simpa using hi); rw [show k + (i + 1) = k + 1 + i by omega] at this; exact this

/-- An argument that is right stands, and has its letter's kind. -/
theorem wrongA_kind {c : Int} {x : ArgT} {b : Int} (h : wrongA c x b = 0) : c ≠ 0 ∧ x.1 = kindI c := by
  unfold wrongA at h
  split at h
  · cases h
  · rename_i hm
    simp [mayStandB] at hm
    exact ⟨hm.1, hm.2.1⟩

/-- Where all arguments stand, the kinds fit just if they are whole. -/
theorem fits_whole {f : Frm} {l : List ArgT} (h : ∀ i, i < l.length → letterI f (i : Int) ≠ 0 ∧ (nthA l i).1 = kindI (letterI f (i : Int))) : (fitsI true f (kindsL l)).2 = wholeN f l.length := by
  have hl : (kindsL l).length = l.length := by simp [kindsL]
  have hb : ∀ j, j < l.length → badK f (kindsL l) j = false := fun j hj => by
    obtain ⟨h1, h2⟩ := h j hj
    simp [badK, h1, kindsL_nth l j hj, h2]
  unfold fitsI
  rw [if_neg (by simp), hl, range_not _ hb]
  have e : (if wholeB f l.length = true then ((0 : Int), true) else ((l.length : Int), false)).2 = wholeB f l.length := by split <;> simp_all
  simp only [e]
  unfold wholeB wholeN
  rw [Bool.eq_iff_iff]
  by_cases h1 : (l.length : Int) < f.2.2.2.1.size
  · rw [if_pos h1]
    simp; constructor
    · omega
    · intro h2; omega
  · rw [if_neg h1]
    by_cases h2 : f.2.2.2.2.1.size = 0
    · rw [if_pos h2]
      have h3 : ¬ f.2.2.2.1.size < l.length := fun h3 => rest_of_letters (f := f) (zs := kindsL l) (fun j hj => hb j (by rw [← hl]; exact hj)) (by rw [hl]; exact h3) h2
      simp; omega
    · rw [if_neg h2]
      simp
      constructor
      · rintro (h3 | ⟨_, h3⟩)
        · rw [show (l.length : Int) - f.2.2.2.1.size = 0 by omega]; simp
        · exact h3
      · intro h3
        by_cases h4 : (l.length : Int) - f.2.2.2.1.size = 0
        · exact .inl h4
        · exact .inr ⟨by omega, h3⟩

/-- No row of Rest has a text. -/
def noText (f : Frm) : Bool := f.2.2.2.2.1.data.toList.all (fun x => x != 115)
theorem refT_noText : refT.all (fun p => noText p.2 && shortF p.2) = true := by decide +kernel
theorem look_noText (n : Int) : noText (lookF refT n).1 = true ∧ shortF (lookF refT n).1 = true := by
  by_cases h : (lookF refT n).2 = true
  · have := (List.all_eq_true.1 refT_noText) _ (lookF_true h)
    simpa using this
  · rw [(lookF_false (by simpa using h)).1]; exact ⟨rfl, rfl⟩
theorem text_fixed {f : Frm} (hf : noText f = true) {k : Nat} (h : kindI (letterI f (k : Int)) = 3) : k < f.2.2.2.1.size := by
  apply Classical.byContradiction
  intro hn
  have hk : kindI 0 ≠ 3 := by decide
  unfold letterI at h
  rw [if_neg (by omega), if_neg (by omega)] at h
  split at h
  · rename_i hm
    generalize hj : (((k : Int) - f.2.2.2.1.size) % f.2.2.2.2.1.size).toNat = j at h
    have hlt : j < f.2.2.2.2.1.size := by
      unfold mayB at hm
      by_cases h0 : f.2.2.2.2.1.size = 0
      · rw [if_pos h0] at hm; cases hm
      · have := Int.emod_lt_of_pos ((k : Int) - f.2.2.2.1.size) (show (0 : Int) < f.2.2.2.2.1.size by omega)
        have := Int.emod_nonneg ((k : Int) - f.2.2.2.1.size) (show (f.2.2.2.2.1.size : Int) ≠ 0 by omega)
        omega
    have h1 : sgn f.2.2.2.2.1 j = 115 := by
      unfold kindI at h
      split at h
      · cases h
      · split at h
        · cases h
        · split at h
          · assumption
          · split at h <;> cases h
    have hl : j < f.2.2.2.2.1.data.toList.length := by rw [size_list]; exact hlt
    have h2 := (List.all_eq_true.1 hf) (f.2.2.2.2.1.data.toList[j]) (List.getElem_mem hl)
    simp only [bne_iff_ne, ne_eq] at h2
    apply h2
    have h3 : (f.2.2.2.2.1.data.toList[j]).toNat = 115 := by
      unfold sgn at h1
      rw [List.getD, List.getElem?_eq_getElem hl] at h1
      simp only [Option.getD_some] at h1
      omega
    exact UInt8.toNat_inj.1 h3
  · exact hk h

theorem wordsL_take (l : List ArgT) (k : Nat) (h : k < l.length) : wordsL (l.take (k + 1)) = wordsL (l.take k) ++ wordsA (nthA l k) := by
  unfold wordsL
  rw [List.take_add_one, List.getElem?_eq_getElem h, nthA_lt _ _ h, Option.toList_some, List.flatMap_append]
  simp

end Go.Proofs.Ytpggcpnjcalfaab

/-
  What the methods ownId and inst of the package code's writer do.
-/
namespace Go.Proofs.Ytpggcpnjcalfaab
open Go.RowKit
set_option linter.unusedVariables false
set_option linter.unusedSimpArgs false
set_option maxRecDepth 10000

def hasL (has : Bool) (c : Int) (zs : List Int) (n : Int) : List Int := if has then putL c 1 zs [n] else zs
def hasC (has : Bool) (c : Int) : Int := if has then c + 1 else c

set_option maxHeartbeats 1000000 in
theorem ownIdW_any (B : Nat) (o : Int) (f : Frm) (b : Int) (zs : List Int) (c : Int) (n : Int) (has : Bool) (wr : Int) (w : World) (hW : Wrt w B o f b zs c) (hc : c + 1 < 9223372036854775808) (hwr : wr ≠ 0) :
    Calls Try.prog 61 #[.pointer (some ⟨B, 0, none⟩), .int .u32 n, .bool has, .int .i64 wr] w fun e w' => e = .returned (.int .i64 (idE has n b wr)) ∧ KeepW B w w' ∧ (idE has n b wr = 0 → Wrt w' B o f b (hasL has c zs n) (hasC has c)) ∧ (idE has n b wr ≠ 0 → Wrt w' B o f b zs c) := by
  by_cases hn : n = 0
  · subst hn
    cases has
    · have e1 : idE false 0 b wr = 0 := by simp [idE]
      rw [e1]
      go_enter Try.func61, Try.ntmps61
      go_wp2
      go_ret
      exact ⟨rfl, KeepW.refl _ _, fun _ => hW, fun _ => hW⟩
    · have e1 : idE true 0 b wr = wr := by simp [idE]
      rw [e1]
      go_enter Try.func61, Try.ntmps61
      go_wp2
      go_ret
      exact ⟨rfl, KeepW.refl _ _, fun h => absurd h hwr, fun _ => hW⟩
  · have hn' : (n == 0) = false := by simpa using hn
    have hn2 : (n != 0) = true := by simpa using hn
    cases has
    · have e1 : idE false n b wr = wr := by simp [idE, hn]
      rw [e1]
      go_enter Try.func61, Try.ntmps61
      go_wp2
      go_ret
      exact ⟨rfl, KeepW.refl _ _, fun h => absurd h hwr, fun _ => hW⟩
    · have e1 : idE true n b wr = faultW 105 n b := by
        have : kindI 105 = 1 := by decide
        simp [idE, hn, faultW, this, noneB]
      have hP := putWord_any B o f b zs c 105 (1, n, ⟨#[]⟩) w hW hc
      unfold argV at hP
      simp only at hP
      rw [e1]
      generalize faultW 105 n b = r at *
      clear e1
      go_enter Try.func61, Try.ntmps61
      go_wp2_with fail
      refine hP.mono ?_
      rintro e w1 ⟨rfl, hk, hw1, hw2⟩
      clear hP
      go_wp2
      go_ret
      exact ⟨rfl, hk, hw1, hw2⟩

theorem Wrt.cells {w : World} {B : Nat} {o : Int} {f : Frm} {b : Int} {zs : List Int} {c : Int} (h : Wrt w B o f b zs c) : w.cell? ⟨B, 0, none⟩ = some (.int .u16 o) ∧ w.cell? ⟨B, 2, none⟩ = some (.bool f.2.1) ∧ w.cell? ⟨B, 3, none⟩ = some (.bool f.2.2.1) ∧ w.cell? ⟨B, 10, none⟩ = some (.int .i64 c) := by
  obtain ⟨⟨v, h1, h2⟩, h3⟩ := h
  obtain ⟨hc, _⟩ := one_block h1
  exact ⟨hc 0, hc 2, hc 3, hc 10⟩

/-- Arguments that lie below a block. -/
def ArgsL (w : World) (B : Nat) (a : Option Addr) (l : List ArgT) : Prop :=
  ∀ j, j < l.length → ∃ b off, a = some ⟨b, off, none⟩ ∧ b < B ∧ w.cell? ⟨b, off + j * 3, none⟩ = some (.int .u8 (nthA l j).1) ∧ w.cell? ⟨b, off + j * 3 + 1, none⟩ = some (.int .u32 (nthA l j).2.1) ∧ w.cell? ⟨b, off + j * 3 + 2, none⟩ = some (.string (nthA l j).2.2)
theorem ArgsL.of {w : World} {a : Option Addr} {l : List ArgT} (h : ArgsV w a l) : ArgsL w w.heap.size a l := h
theorem ArgsL.view {w : World} {B : Nat} {a : Option Addr} {l : List ArgT} (h : ArgsL w B a l) (hB : B ≤ w.heap.size) : ArgsV w a l := fun j hj => by
  obtain ⟨b, off, e, hlt, h1⟩ := h j hj
  exact ⟨b, off, e, by omega, h1⟩
theorem ArgsL.below {w w' : World} {B : Nat} {a : Option Addr} {l : List ArgT} (h : ArgsL w B a l) (hb : Below B w w') : ArgsL w' B a l := fun j hj => by
  obtain ⟨b, off, e, hlt, h1, h2, h3⟩ := h j hj
  exact ⟨b, off, e, hlt, (hb.cell (p := ⟨b, off + j * 3, none⟩) hlt).trans h1, (hb.cell (p := ⟨b, off + j * 3 + 1, none⟩) hlt).trans h2, (hb.cell (p := ⟨b, off + j * 3 + 2, none⟩) hlt).trans h3⟩
theorem ArgsL.mono {w : World} {B B' : Nat} {a : Option Addr} {l : List ArgT} (h : ArgsL w B a l) (hb : B ≤ B') : ArgsL w B' a l := fun j hj => by
  obtain ⟨b, off, e, hlt, h1⟩ := h j hj
  exact ⟨b, off, e, by omega, h1⟩

theorem ids_words (f : Frm) (t r : Int) : hasL f.2.2.1 (hasC f.2.1 1) (hasL f.2.1 1 [] t) r = headW f t r ∧ hasC f.2.2.1 (hasC f.2.1 1) = 1 + (headW f t r).length := by
  cases h1 : f.2.1 <;> cases h2 : f.2.2.1 <;> simp [hasL, hasC, headW, h1, h2, putL]

theorem four_cells {w : World} {G T : Nat} {a b c d : Value} (h : w.heap[G]? = some (.cells #[a, b, c, d] T (0, 0))) : w.cell? ⟨G, 0, none⟩ = some a ∧ w.cell? ⟨G, 1, none⟩ = some b ∧ w.cell? ⟨G, 2, none⟩ = some c ∧ w.cell? ⟨G, 3, none⟩ = some d := by
  obtain ⟨hc, _⟩ := one_block h
  exact ⟨hc 0, hc 1, hc 2, hc 3⟩

set_option maxHeartbeats 2000000 in
theorem winst_any (B : Nat) (f : Frm) (b : Int) (x : InstT) (ax : Option Addr) (n cx : Nat) (w : World) (hW : Wrt w B x.1 f b [] 1) (hf : lookF refT x.1 = (f, true)) (hok : InstOk x) (hv : ArgsL w B ax x.2.2.2) (hl : x.2.2.2.length = n) :
    Calls Try.prog 38 #[.pointer (some ⟨B, 0, none⟩), instV x ax n cx] w fun e w' => e = .returned (.int .i64 (faultI f x b)) ∧ KeepW B w w' ∧ (faultI f x b = 0 → ∃ c, Wrt w' B x.1 f b (rawL f x) c) := by
  obtain ⟨xo, xt, xr, xl⟩ := x
  unfold instV
  simp only at *
  obtain ⟨_, _, _, _, _, _, hal, han⟩ := hok
  simp only at *
  have hBl := hW.lt
  have hb1 : Below w.heap.size w (w.alloc (.cells #[.int .u16 xo, .int .u32 xt, .int .u32 xr, .slice ax n cx] 43)) := (Below.refl _ w).alloc (Nat.le_refl _) _
  have hW1 := hW.below hb1
  have hG1 := alloc_new w #[.int .u16 xo, .int .u32 xt, .int .u32 xr, .slice ax n cx] 43
  have hK1 := KeepW.of_below hb1 (Nat.le_of_lt hBl)
  have hO := fun zs c n has wr wx (h : Wrt wx B xo f b zs c) h2 h3 => ownIdW_any B xo f b zs c n has wr wx h h2 h3
  have HE : Hid (faultI f (xo, xt, xr, xl) b = if idE f.2.1 xt b 40 ≠ 0 then idE f.2.1 xt b 40 else if idE f.2.2.1 xr b 41 ≠ 0 then idE f.2.2.1 xr b 41 else if wrongL f b 0 xl ≠ 0 then wrongL f b 0 xl else if wholeN f xl.length = false then 42 else if 65535 < 1 + (rawL f (xo, xt, xr, xl)).length then 25 else 0) := rfl
  generalize hfe : faultI f (xo, xt, xr, xl) b = fe at HE ⊢
  clear hfe
  have iw := ids_words f xt xr
  go_enter Try.func38, Try.ntmps38
  go_wp2_with fail
  generalize w.alloc (.cells #[.int .u16 xo, .int .u32 xt, .int .u32 xr, .slice ax n cx] 43) = W at *
  have hO1 := hO [] 1 xt f.2.1 40 W.drew (hW1.below (below_drew W)) (by omega) (by omega)
  have c1 := hW1.cells.2.1
  have c2 := (four_cells hG1).2.1
  generalize hr1 : idE f.2.1 xt b 40 = r1 at *
  go_region_held2 (fun wx => wx.cell? ⟨B, 2, none⟩ = some (.bool f.2.1) ∧ wx.cell? ⟨w.heap.size, 1, none⟩ = some (.int .u32 xt))
    (first | exact ⟨c1, c2⟩ | assumption)
    (first | (go_at_call 61; refine hO1.mono ?_; rintro e w2 ⟨rfl, hk2, hy2, hn2⟩; have hS : w2.cell? ⟨B, 2, none⟩ = some (.bool f.2.1) ∧ w2.cell? ⟨w.heap.size, 1, none⟩ = some (.int .u32 xt) := ⟨(by by_cases h : r1 = 0; exact (hy2 h).cells.2.1; exact (hn2 h).cells.2.1), (four_cells (hk2.keep _ _ _ _ hG1 (by omega) (by decide))).2.1⟩))
  clear hO1 c1 c2
  have hK2 : KeepW B w w2 := hK1.trans ((KeepW.of_below (below_drew W) (by have := hb1.size; omega)).trans hk2)
  have hG2 := hk2.keep _ _ _ _ hG1 (by omega) (by decide)
  clear hk2 hG1 hW1 hK1
  by_cases z1 : r1 = 0
  · subst z1
    have hW2 := hy2 rfl
    clear hy2 hn2 hS
    go_wp2
    have hO2 := hO (hasL f.2.1 1 [] xt) (hasC f.2.1 1) xr f.2.2.1 41 w2.drew (hW2.below (below_drew w2)) (by unfold hasC; split <;> omega) (by omega)
    rw [iw.1, iw.2] at hO2
    have c1 := hW2.cells.2.2.1
    have c2 := (four_cells hG2).2.2.1
    generalize hr2 : idE f.2.2.1 xr b 41 = r2 at *
    go_region_held2 (fun wx => wx.cell? ⟨B, 3, none⟩ = some (.bool f.2.2.1) ∧ wx.cell? ⟨w.heap.size, 2, none⟩ = some (.int .u32 xr))
      (first | exact ⟨c1, c2⟩ | assumption)
      (first | (go_at_call 61; refine hO2.mono ?_; rintro e w3 ⟨rfl, hk3, hy3, hn3⟩; have hS : w3.cell? ⟨B, 3, none⟩ = some (.bool f.2.2.1) ∧ w3.cell? ⟨w.heap.size, 2, none⟩ = some (.int .u32 xr) := ⟨(by by_cases h : r2 = 0; exact (hy3 h).cells.2.2.1; exact (hn3 h).cells.2.2.1), (four_cells (hk3.keep _ _ _ _ hG2 (by omega) (by decide))).2.2.1⟩))
    clear hO2 c1 c2
    have hK3 : KeepW B w w3 := hK2.trans ((KeepW.of_below (below_drew w2) (by have := hK2.below.size; omega)).trans hk3)
    have hG3 := hk3.keep _ _ _ _ hG2 (by omega) (by decide)
    clear hk3 hG2 hW2 hK2
    by_cases z2 : r2 = 0
    · subst z2
      have hW3 := hy3 rfl
      clear hy3 hn3 hS
      have c3 := (four_cells hG3).2.2.2
      have hK3w := hK3
      go_wp2
      have HF : Hid (lookF refT xo = (f, true)) := hf
      have HL : Hid (xl.length = n) := hl
      have hLt := fun (k : Nat) (hk : k < 140737488351232) w => grammarLetter_any xo k w (by omega)
      rw [hf] at hLt
      have hsh := look_noText xo
      rw [hf] at hsh
      obtain ⟨hnt, hsf⟩ := hsh
      have hfx : f.2.2.2.1.size ≤ 1000 := by simp [shortF] at hsf; omega
      have hc0 : ((headW f xt xr).length : Int) ≤ 2 := by
        unfold headW
        cases f.2.1 <;> cases f.2.2.1 <;> simp
      have hn47 : n < 140737488351232 := by omega
      have hWh := fun wx (h : ArgsV wx ax xl) (h0 : wx.cell? ⟨B, 0, none⟩ = some (.int .u16 xo)) (hB : B < wx.heap.size) => formWhole_any B xo ax n cx xl wx hB h0 h hl (by omega)
      rw [hf] at hWh
      have hfeW : ∀ v, v ≠ 0 → wrongL f b 0 xl = v → fe = v := fun v hv h => by rw [HE.out, h]; simp [hv]
      have hfeH : wrongL f b 0 xl = 0 → wholeN f xl.length = false → fe = 42 := fun h h2 => by rw [HE.out, h, h2]; simp
      have hfeC : wrongL f b 0 xl = 0 → wholeN f xl.length = true → fe = if 65535 < 1 + (rawL f (xo, xt, xr, xl)).length then 25 else 0 := fun h h2 => by rw [HE.out, h, h2]; simp
      clear HE hf hl hsf hO
      go_loopw [41] (fun i wr => ∃ (k : Nat) (zs : List Int) (c : Int), k ≤ n ∧ i = .int .i64 k ∧ Wrt wr B xo f b zs c ∧ KeepW B w wr ∧ wr.heap[w.heap.size]? = some (.cells #[.int .u16 xo, .int .u32 xt, .int .u32 xr, .slice ax n cx] 43 (0, 0)) ∧ (∀ j, j < k → wrongA (letterI f (j : Int)) (nthA xl j) b = 0) ∧
          c = 1 + (headW f xt xr).length + (wordsL (xl.take k)).length ∧ (c ≤ 65535 → zs = headW f xt xr ++ wordsL (xl.take k)) ∧ c ≤ 3 + k + ((min k 1000 : Nat) : Int) * 140737488351233) (fun i _ => n - (intOf i).toNat)
      case atStart => exact ⟨0, _, _, Nat.zero_le _, rfl, hW3, hK3w, hG3, fun j hj => by omega, by simp [wordsL], fun _ => by simp [wordsL], by simp; omega⟩
      case round =>
        obtain ⟨k, zs, c, hk, rfl, hWr, hKr, hGr, hall, hce, hzs, hcb⟩ := hrel
        clear hW3 hK3 hK3w hG3 c3
        have HALL : Hid (∀ j, j < k → wrongA (letterI f (j : Int)) (nthA xl j) b = 0) := hall
        have HCE : Hid (c = 1 + (headW f xt xr).length + (wordsL (xl.take k)).length) := hce
        have HZS : Hid (c ≤ 65535 → zs = headW f xt xr ++ wordsL (xl.take k)) := hzs
        clear hall hce hzs
        have hBr := hWr.lt
        have hszr := hKr.below.size
        have hA := hv.below hKr.below
        by_cases hlt : k < n
        · have hkl : k < xl.length := by rw [HL.out]; exact hlt
          obtain ⟨b1, o1, rfl, hb1l, p1, p2, p3⟩ := hA k hkl
          have hax := hal k hkl
          have hL := hLt k (by omega)
          have hMs := fun w => mayStand_any (letterI f (k : Int)) (nthA xl k) w
          have hPW := fun wx (h : Wrt wx B xo f b zs c) => putWord_any B xo f b zs c (letterI f (k : Int)) (nthA xl k) wx h (by omega)
          have hPN := fun wx (h : Wrt wx B xo f b zs c) j hj h0 => putText_nul B xo f b zs c (letterI f (k : Int)) (nthA xl k) wx h j hj h0
          have hPT := fun wx (h : Wrt wx B xo f b zs c) (hnn : NoNul (nthA xl k).2.2) (h2 : (nthA xl k).2.2.size ≤ 140737488351232) => putText_ok B xo f b zs c (letterI f (k : Int)) (nthA xl k) wx h hnn h2 (by omega)
          have hPu := fun w => putter_any B (nthA xl k).1 w
          unfold argV at hMs hPW hPN hPT
          have hki : (k : Int) < (n : Int) := by omega
          have hk0 : (0 : Int) ≤ (k : Int) := by omega
          have w0 := hWr.cells.1
          have hwr : ∀ v, v ≠ 0 → wrongA (letterI f (k : Int)) (nthA xl k) b = v → fe = v := fun v hv0 h => hfeW v hv0 (by
            rw [wrongL_first (k := 0) (j := k) hkl (fun i hi => by rw [Nat.zero_add]; exact HALL.out i hi) (by rw [Nat.zero_add, h]; exact hv0), Nat.zero_add, h])
          have hnext : wrongA (letterI f (k : Int)) (nthA xl k) b = 0 → ∀ j, j < k + 1 → wrongA (letterI f (j : Int)) (nthA xl j) b = 0 := fun h j hj => by
            by_cases hjk : j < k
            · exact HALL.out j hjk
            · obtain rfl : j = k := by omega
              exact h
          have htk := wordsL_take xl k hkl
          have hkind : kindI (letterI f (k : Int)) = 3 → k < 1000 := fun h => Nat.lt_of_lt_of_le (text_fixed hnt h) hfx
          have HN : Hid (∀ v, v ≠ 0 → wrongA (letterI f (k : Int)) (nthA xl k) b = v → fe = v) := hwr
          have HX : Hid (wrongA (letterI f (k : Int)) (nthA xl k) b = 0 → ∀ j, j < k + 1 → wrongA (letterI f (j : Int)) (nthA xl j) b = 0) := hnext
          have HT : Hid (wordsL (xl.take (k + 1)) = wordsL (xl.take k) ++ wordsA (nthA xl k)) := htk
          have HKD : Hid (kindI (letterI f (k : Int)) = 3 → k < 1000) := hkind
          clear hwr hnext htk hkind hA hWh hfeW hfeH hfeC hLt hnt hfx
          generalize nthA xl k = z at *
          obtain ⟨z1, z2, z3⟩ := z
          generalize letterI f (k : Int) = cc at *
          simp only at *
          go_wp2_with fail
          have hb4 : Below wr.heap.size wr (wr.alloc (.cells #[.int .u8 z1, .int .u32 z2, .string z3] 90)) := (Below.refl _ wr).alloc (Nat.le_refl _) _
          have kA := alloc_new wr #[.int .u8 z1, .int .u32 z2, .string z3] 90
          have hl4 : wr.heap.size < (wr.alloc (.cells #[.int .u8 z1, .int .u32 z2, .string z3] 90)).heap.size := by simp
          generalize wr.alloc (.cells #[.int .u8 z1, .int .u32 z2, .string z3] 90) = W4 at *
          refine (hL _).mono ?_
          rintro e w5 ⟨rfl, hb5⟩
          have kA5 := (hb5.block _ hl4).trans kA
          have s5 := hb5.size
          obtain ⟨hc5, _⟩ := one_block kA5
          have a0 := hc5 0
          have a1 := hc5 1
          have a2 := hc5 2
          clear hc5 hL
          go_wp2_with fail
          refine (hMs _).mono ?_
          rintro e w6 ⟨rfl, hb6⟩
          have s6 := hb6.size
          have kA6 := (hb6.block _ (by omega)).trans kA5
          have hb46 := hb4.trans ((hb5.trans (hb6.mono s5)).mono (by omega))
          have hW6 := hWr.below hb46
          have hG6 := (hb46.block _ (Array.getElem?_eq_some_iff.1 hGr).1).trans hGr
          have hK6 := hKr.trans (KeepW.of_below hb46 (by omega))
          obtain ⟨hc6, _⟩ := one_block kA6
          have d0 := hc6 0
          have d1 := hc6 1
          have d2 := hc6 2
          have HG6 : Hid (w6.heap[w.heap.size]? = some (.cells #[.int .u16 xo, .int .u32 xt, .int .u32 xr, .slice (some ⟨b1, o1, none⟩) n cx] 43 (0, 0))) := hG6
          have HK6 : Hid (KeepW B w w6) := hK6
          have HW6 : Hid (Wrt w6 B xo f b zs c) := hW6
          clear hc6 a0 a1 a2 kA5 kA6 kA hb4 hb5 hb6 hMs hb46 hG6 hK6 hW6 hGr hWr hKr p1 p2 p3 hl4 s5 s6
          cases hms : mayStandB cc (z1, z2, z3)
          · have e1 : fe = 42 := HN.out 42 (by decide) (by rw [wrongA, if_pos hms])
            subst e1
            clear d0 d1 d2
            go_wp2
            go_ret
            exact ⟨rfl, HK6.out, fun h => by cases h⟩
          · have HMS : Hid (wrongA cc (z1, z2, z3) b = if z1 = 3 then (if nulS z3 then 13 else 0) else faultW cc z2 b) := by
              show _ = _
              rw [wrongA, hms]; simp
            have HKC : Hid (z1 = kindI cc) := by
              unfold mayStandB at hms
              simp only [Bool.and_eq_true] at hms
              exact eq_of_beq hms.1.2
            clear hms
            go_wp2_with fail
            refine (hPu _).mono ?_
            rintro e w7 ⟨rfl, rfl⟩
            by_cases k3 : z1 = 3
            · subst k3
              rw [if_pos rfl]
              cases hnu : nulS z3
              · have e0 : wrongA cc (3, z2, z3) b = 0 := by rw [HMS.out, hnu]; simp
                have hP := hPT w6 HW6.out (nulS_false.1 hnu) hax.2.2.2.2
                have hrm : z3.size ≤ 140737488351232 := hax.2.2.2.2
                have hk1 := HKD.out HKC.out.symm
                have hlw : (wordsA (3, z2, z3)).length = z3.size / 4 + 1 := by rw [wordsA_len]; simp
                have hww : wordsA (3, z2, z3) = textW z3 := by rw [wordsA]; simp
                obtain ⟨m, hm⟩ : ∃ m, m = z3.size / 4 + 1 := ⟨_, rfl⟩
                rw [← hm] at hP hlw
                have hmb : m ≤ 140737488351232 := by omega
                clear hm
                go_wp2_with fail
                refine hP.mono ?_
                rintro e w8 ⟨rfl, hk8, hW8⟩
                clear hP hPW hPN hPT hPu d0 d1 d2
                go_wp2
                go_roundw
                case rel =>
                  refine ⟨k + 1, _, _, by omega, by go_num, hW8, HK6.out.trans hk8, hk8.keep _ _ _ _ HG6.out (by omega) (by decide), HX.out e0, ?_, fun h => ?_, ?_⟩
                  · rw [HT.out, List.length_append, hlw, HCE.out]; push_cast; omega
                  · rw [putL, if_pos h, HZS.out (by omega), HT.out, hww, List.append_assoc]
                  · push_cast; omega
                case measure => simp [intOf]; omega
              · have e1 : fe = 13 := HN.out 13 (by decide) (by rw [HMS.out, hnu]; simp)
                subst e1
                obtain ⟨j, hj, h0⟩ := nulS_true hnu
                have hP := hPN w6 HW6.out j hj h0
                go_wp2_with fail
                refine hP.mono ?_
                rintro e w8 ⟨rfl, hk8⟩
                clear hP hPW hPN hPT hPu d0 d1 d2
                go_wp2
                go_ret
                exact ⟨rfl, HK6.out.trans hk8, fun h => by cases h⟩
            · rw [if_neg k3]
              have hP := hPW w6 HW6.out
              have HMS2 : Hid (wrongA cc (z1, z2, z3) b = faultW cc z2 b) := by show _ = _; rw [HMS.out, if_neg k3]
              have hww : wordsA (z1, z2, z3) = [z2] := by rw [wordsA]; simp [k3]
              generalize faultW cc z2 b = r at *
              go_wp2_with fail
              refine hP.mono ?_
              rintro e w8 ⟨rfl, hk8, hy8, _⟩
              clear hP hPW hPN hPT hPu d0 d1 d2
              by_cases hr0 : r = 0
              · subst hr0
                have hW8 := hy8 rfl
                go_wp2
                go_roundw
                case rel =>
                  refine ⟨k + 1, _, _, by omega, by go_num, hW8, HK6.out.trans hk8, hk8.keep _ _ _ _ HG6.out (by omega) (by decide), HX.out HMS2.out, ?_, fun h => ?_, ?_⟩
                  · rw [HT.out, List.length_append, hww, HCE.out]; simp; omega
                  · rw [putL, if_pos h, HZS.out (by omega), HT.out, hww, List.append_assoc]
                  · push_cast; omega
                case measure => simp [intOf]; omega
              · have e1 : fe = r := HN.out r hr0 HMS2.out
                subst e1
                go_wp2
                go_ret
                exact ⟨rfl, HK6.out.trans hk8, fun h => absurd h hr0⟩
        · obtain rfl : k = n := by omega
          have hwl : wrongL f b 0 xl = 0 := wrongL_none fun i hi => by rw [Nat.zero_add]; exact HALL.out i (by rw [← HL.out]; exact hi)
          have hfw := fits_whole (f := f) (l := xl) (fun i hi => wrongA_kind (HALL.out i (by rw [← HL.out]; exact hi)))
          have htk : xl.take k = xl := List.take_of_length_le (by rw [HL.out]; exact Nat.le_refl _)
          have hcR : c = ((1 + (rawL f (xo, xt, xr, xl)).length : Nat) : Int) := by rw [HCE.out, htk, rawL, List.length_append]; push_cast; omega
          have hzR : c ≤ 65535 → zs = rawL f (xo, xt, xr, xl) := fun h => by rw [HZS.out h, htk]; rfl
          have hfC := hfeC hwl
          have hfH := hfeH hwl
          have c3 := (four_cells hGr).2.2.2
          have c10 := hWr.cells.2.2.2
          have hw0 := hWr.cells.1
          have HGR : Hid _ := hGr
          have HKR : Hid (KeepW B w wr) := hKr
          have HWR : Hid (Wrt wr B xo f b zs c) := hWr
          have hV := hA.view (by omega)
          clear hv hA hGr hKr hWr hfeC hfeH hfeW hLt HALL HCE HZS hwl htk
          go_wp2
          have a3 := fun s : InC (Below wr.heap.size wr) => s.cell (p := ⟨w.heap.size, 3, none⟩) (Array.getElem?_eq_some_iff.1 HGR.out).1 c3
          have hF := fun s : InC (Below wr.heap.size wr) => Calls.inC s (hWh s.w (hV.below s.ok) (s.cell (p := ⟨B, 0, none⟩) hBr hw0) (by have := s.ok.size; omega))
          rw [hfw] at hF
          clear hWh hfw
          cases hwh : wholeN f xl.length
          · have e1 : fe = 42 := hfH hwh
            subst e1
            rw [hwh] at hF
            refine wp_region_class (C := Below wr.heap.size wr) (by kernel_rfl) (by kernel_rfl) (below_drew wr) ?_
            have hne : Nonempty (InC (Below wr.heap.size wr)) := ⟨⟨wr, Below.refl _ _⟩⟩
            repeat (go_big_quiet_step ((go_at_call 65; exact hF _)))
            refine wpQuiet_nil ?_
            rintro _ ⟨s, rfl⟩
            have hfin := HKR.out.trans (KeepW.of_below s.ok (by omega))
            clear hne hF a3
            go_wp2
            go_ret
            first | exact ⟨rfl, hfin, fun h => by cases h⟩ | exact ⟨rfl, hfin⟩
          · rw [hwh] at hF
            have hfe := hfC hwh
            refine wp_region_class (C := Below wr.heap.size wr) (by kernel_rfl) (by kernel_rfl) (below_drew wr) ?_
            have hne : Nonempty (InC (Below wr.heap.size wr)) := ⟨⟨wr, Below.refl _ _⟩⟩
            repeat (go_big_quiet_step ((go_at_call 65; exact hF _)))
            refine wpQuiet_nil ?_
            rintro _ ⟨s, rfl⟩
            have hfin := HKR.out.trans (KeepW.of_below s.ok (by omega))
            have hW9 := HWR.out.below s.ok
            have k10 := s.cell (p := ⟨B, 10, none⟩) hBr c10
            clear hne hF a3 c10 c3
            by_cases hlg : (65535 : Int) < c
            · have e1 : fe = 25 := by rw [hfe, if_pos (by omega)]
              clear hfe hcR hfC hfH hzR
              subst e1
              go_wp2
              go_ret
              first | exact ⟨rfl, hfin, fun h => by cases h⟩ | exact ⟨rfl, hfin⟩
            · have e1 : fe = 0 := by rw [hfe, if_neg (by omega)]
              have HZR : Hid (zs = rawL f (xo, xt, xr, xl)) := hzR (by omega)
              clear hfe hcR hfC hfH hzR
              subst e1
              go_wp2
              go_ret
              have hW10 : Wrt s.w B xo f b (rawL f (xo, xt, xr, xl)) c := by rw [← HZR.out]; exact hW9
              first | exact ⟨rfl, hfin, fun _ => ⟨c, hW10⟩⟩ | exact ⟨rfl, hfin, ⟨c, hW10⟩⟩
    · have e1 : fe = r2 := by rw [HE.out]; simp [z2]
      subst e1
      go_wp2
      go_ret
      exact ⟨rfl, hK3, fun h => absurd h z2⟩
  · have e1 : fe = r1 := by rw [HE.out]; simp [z1]
    subst e1
    go_wp2
    go_ret
    exact ⟨rfl, hK2, fun h => absurd h z1⟩

end Go.Proofs.Ytpggcpnjcalfaab

/-
  What Raw of the package code answers, for every instruction and bound.
-/
namespace Go.Proofs.Ytpggcpnjcalfaab
open Go.RowKit
set_option linter.unusedVariables false
set_option linter.unusedSimpArgs false
set_option maxRecDepth 10000

/-- The operation that Raw answers. -/
def rawO (x : InstT) (b : Int) : Int := if rawE x b = 0 then x.1 else 0

theorem two_put2 {w : World} {B T : Nat} {z0 z1 : Value} (h : w.heap[B]? = some (.cells #[z0, z1] T (0, 0))) (u0 u1 : Value) :
    ((w.setCell ⟨B, 0, none⟩ u0).setCell ⟨B, 1, none⟩ u1).heap[B]? = some (.cells #[u0, u1] T (0, 0)) := by
  simp only [World.setCell, Array.getElem?_modify, h]; simp
theorem two_below (w : World) (B : Nat) (u0 u1 : Value) : Below B w ((w.setCell ⟨B, 0, none⟩ u0).setCell ⟨B, 1, none⟩ u1) :=
  ((Below.refl B w).setCell (Nat.le_refl _) _).setCell (Nat.le_refl _) _

theorem own_lo {w : World} {lo lo' e size n : Nat} {v : Value} {xs : List Value} (h : w.ownsRow lo e size v n xs) (hl : lo' ≤ lo) : w.ownsRow lo' e size v n xs := by
  refine ⟨h.1, ?_⟩
  rcases h.2 with hn | ⟨g, cap, cur, e1, hb, rest⟩
  · exact .inl hn
  · exact .inr ⟨g, cap, cur, e1, Nat.le_trans hl hb, rest⟩

set_option maxHeartbeats 2000000 in
theorem raw_any (x : InstT) (b : Int) (ax : Option Addr) (n cx : Nat) (w : World) (hv : ArgsV w ax x.2.2.2) (hok : InstOk x) (hl : x.2.2.2.length = n) :
    Calls Try.prog 17 #[instV x ax n cx, .int .u32 b] w fun e w' => Below w.heap.size w w' ∧ ∃ a m c, e = .returned (.tuple #[.agg #[.int .u16 (rawO x b), .slice a m c], .int .i64 (rawE x b)]) ∧ (rawWs x b).length = m ∧
      w'.ownsRow w.heap.size 22 1 (.slice a m c) m ((rawWs x b).map (Value.int .u32)) := by
  have hOf := fun w => of_any x.1 w
  obtain ⟨f, hf⟩ : ∃ f, f = (lookF refT x.1).1 := ⟨_, rfl⟩
  by_cases h0 : (lookF refT x.1).2 = true
  · have hff : lookF refT x.1 = (f, true) := by rw [hf, ← h0]
    have hE : rawE x b = faultI f x b := by rw [rawE, if_pos h0, ← hf]
    have eV : ofV x.1 = formV x.1 f := by unfold ofV; rw [if_pos h0, ← hf]
    rw [hff, eV] at hOf
    have hI := fun (B : Nat) wx (hW : Wrt wx B x.1 f b [] 1) (h : ArgsL wx B ax x.2.2.2) => winst_any B f b x ax n cx wx hW hff hok h hl
    rw [← hE] at hI
    have hRW : rawE x b = 0 → rawWs x b = rawL f x ∧ rawO x b = x.1 := fun h => ⟨by rw [rawWs, if_pos h, ← hf], by rw [rawO, if_pos h]⟩
    have hRN : rawE x b ≠ 0 → rawWs x b = [] ∧ rawO x b = 0 := fun h => ⟨by rw [rawWs, if_neg h], by rw [rawO, if_neg h]⟩
    generalize rawE x b = r at *
    generalize rawWs x b = ws at *
    generalize rawO x b = ro at *
    clear hff hE eV h0 hf hok
    obtain ⟨xo, xt, xr, xl⟩ := x
    unfold instV at hI ⊢
    unfold formV at hOf
    obtain ⟨f1, f2, f3, f4, f5, f6, f7⟩ := f
    simp only at *
    go_enter Try.func17, Try.ntmps17
    go_wp2_with fail
    have hB0 : Below w.heap.size w ((w.alloc (.cells #[.int .u16 xo, .int .u32 xt, .int .u32 xr, .slice ax n cx] 43)).alloc (.cells #[.int .u16 0, .slice none 0 0] 46)) := ((Below.refl _ w).alloc (Nat.le_refl _) _).alloc (by simp) _
    have kI : ((w.alloc (.cells #[.int .u16 xo, .int .u32 xt, .int .u32 xr, .slice ax n cx] 43)).alloc (.cells #[.int .u16 0, .slice none 0 0] 46)).heap[w.heap.size]? = some (.cells #[.int .u16 xo, .int .u32 xt, .int .u32 xr, .slice ax n cx] 43 (0, 0)) := (Below.heap_alloc _ _ _ (by simp)).trans (alloc_new w _ _)
    have kR : ((w.alloc (.cells #[.int .u16 xo, .int .u32 xt, .int .u32 xr, .slice ax n cx] 43)).alloc (.cells #[.int .u16 0, .slice none 0 0] 46)).heap[w.heap.size + 1]? = some (.cells #[.int .u16 0, .slice none 0 0] 46 (0, 0)) := by simpa using alloc_new (w.alloc (.cells #[.int .u16 xo, .int .u32 xt, .int .u32 xr, .slice ax n cx] 43)) #[.int .u16 0, .slice none 0 0] 46
    generalize (w.alloc (.cells #[.int .u16 xo, .int .u32 xt, .int .u32 xr, .slice ax n cx] 43)).alloc (.cells #[.int .u16 0, .slice none 0 0] 46) = W0 at *
    have l0 := (Array.getElem?_eq_some_iff.1 kR).1
    refine (hOf _).mono ?_
    rintro e w1 ⟨rfl, hb1⟩
    have s1 := hb1.size
    have kI1 := (hb1.block _ (by omega)).trans kI
    have kR1 := (hb1.block _ l0).trans kR
    have hb01 := hB0.trans (hb1.mono (by omega))
    clear hb1 kI kR hB0 hOf
    have hb2 : Below w1.heap.size w1 (w1.alloc (.cells #[.int .u16 xo, .string f1, .bool f2, .bool f3, .string f4, .string f5, .int .i64 f6, .int .u8 f7] 81)) := (Below.refl _ _).alloc (Nat.le_refl _) _
    have kI2 := (hb2.block _ (by omega)).trans kI1
    have kR2 := (hb2.block _ (by omega)).trans kR1
    have hl2 : w1.heap.size < (w1.alloc (.cells #[.int .u16 xo, .string f1, .bool f2, .bool f3, .string f4, .string f5, .int .i64 f6, .int .u8 f7] 81)).heap.size := by simp
    have hb02 := hb01.trans (hb2.mono (by omega))
    have s02 := hb02.size
    have hW3b : Below (w1.heap.size + 1) (w1.alloc (.cells #[.int .u16 xo, .string f1, .bool f2, .bool f3, .string f4, .string f5, .int .i64 f6, .int .u8 f7] 81)) ((w1.alloc (.cells #[.int .u16 xo, .string f1, .bool f2, .bool f3, .string f4, .string f5, .int .i64 f6, .int .u8 f7] 81)).alloc (.cells (wrtC xo (f1, f2, f3, f4, f5, f6, f7) b (.slice none 0 0) 1) 87)) := (Below.refl _ _).alloc (by simp) _
    obtain ⟨i0, i1, i2, i3⟩ := four_cells ((hW3b.block _ (by omega)).trans kI2)
    have kW := alloc_new (w1.alloc (.cells #[.int .u16 xo, .string f1, .bool f2, .bool f3, .string f4, .string f5, .int .i64 f6, .int .u8 f7] 81)) (wrtC xo (f1, f2, f3, f4, f5, f6, f7) b (.slice none 0 0) 1) 87
    rw [World.size_alloc] at kW
    have kI3 := (hW3b.block _ (by omega)).trans kI2
    have kR3 := (hW3b.block _ (by omega)).trans kR2
    have hb03 := hb02.trans (hW3b.mono (by omega))
    have hlW : w1.heap.size + 1 < ((w1.alloc (.cells #[.int .u16 xo, .string f1, .bool f2, .bool f3, .string f4, .string f5, .int .i64 f6, .int .u8 f7] 81)).alloc (.cells (wrtC xo (f1, f2, f3, f4, f5, f6, f7) b (.slice none 0 0) 1) 87)).heap.size := by simp
    have hWr : Wrt ((w1.alloc (.cells #[.int .u16 xo, .string f1, .bool f2, .bool f3, .string f4, .string f5, .int .i64 f6, .int .u8 f7] 81)).alloc (.cells (wrtC xo (f1, f2, f3, f4, f5, f6, f7) b (.slice none 0 0) 1) 87)) (w1.heap.size + 1) xo (f1, f2, f3, f4, f5, f6, f7) b [] 1 := ⟨⟨_, kW, World.ownsRow_nil _ _ _ _⟩, by simp, by simp⟩
    have hAr := ((ArgsL.of hv).below hb03).mono (show w.heap.size ≤ w1.heap.size + 1 by omega)
    have hC := hI (w1.heap.size + 1) _ hWr hAr
    clear hWr hAr hI kW kI2 kR2 hb02 hW3b hb2 kI1 kR1 hb01 hv
    unfold wrtC at *
    simp only at *
    go_wp2_with fail
    generalize (w1.alloc (.cells #[.int .u16 xo, .string f1, .bool f2, .bool f3, .string f4, .string f5, .int .i64 f6, .int .u8 f7] 81)).alloc (.cells #[.int .u16 xo, .string f1, .bool f2, .bool f3, .string f4, .string f5, .int .i64 f6, .int .u8 f7, .int .u32 b, .slice none 0 0, .int .i64 1] 87) = W3 at *
    refine hC.mono ?_
    rintro e w4 ⟨rfl, hk4, hy4⟩
    have kI4 := hk4.keep _ _ _ _ kI3 (by omega) (by decide)
    have kR4 := hk4.keep _ _ _ _ kR3 (by omega) (by decide)
    have hb04 := hb03.trans (hk4.below.mono (by omega))
    obtain ⟨hcR, hfR⟩ := one_block kR4
    have r0 := hcR 0
    have r1 := hcR 1
    obtain ⟨j0, j1, j2, j3⟩ := four_cells kI4
    clear hC kI3 kR3 hb03 i0 i1 i2 i3 kI4 hcR
    by_cases hr : r = 0
    · subst hr
      obtain ⟨c, hW4⟩ := hy4 rfl
      obtain ⟨⟨v, hbx, hown⟩, _⟩ := hW4
      obtain ⟨e1, e2⟩ := hRW rfl
      rw [← e1] at hown
      obtain ⟨a', cap', rfl, _, hwl⟩ := View.ofOwned hown
      have hown' := own_lo hown (show w.heap.size + 2 ≤ w1.heap.size + 1 + 1 by omega)
      obtain ⟨hcW, _⟩ := one_block hbx
      have k9 := hcW 9
      change w4.cell? ⟨w1.heap.size + 1, 9, none⟩ = some (.slice a' ws.length cap') at k9
      have HO : Hid _ := hown
      subst e2
      have HO2 : Hid _ := hown'
      clear hRW hRN e1 hbx hcW hy4 hk4 hown hwl hown' HO
      generalize ws.length = m at *
      go_wp2
      have hB3 := two_put2 kR4 (.int .u16 ro) (.slice a' m cap')
      have hBel := hb04.trans ((two_below w4 (w.heap.size + 1) (.int .u16 ro) (.slice a' m cap')).mono (by omega))
      have hO3 := own_lo (ownFar (ownFar HO2.out (show w.heap.size + 1 < w.heap.size + 2 by omega) 0 (.int .u16 ro)) (show w.heap.size + 1 < w.heap.size + 2 by omega) 1 (.slice a' m cap')) (show w.heap.size ≤ w.heap.size + 2 by omega)
      clear hb04 kR4 r0 r1 hfR k9 HO2 j0 j1 j2 j3
      generalize (w4.setCell _ _).setCell _ _ = W at hB3 hBel hO3 ⊢
      obtain ⟨hd, _⟩ := one_block hB3
      have d0 := hd 0
      have d1 := hd 1
      refine bodyPost_ret (v := .tuple #[.agg #[.int .u16 ro, .slice a' m cap'], .int .i64 0]) ?_ rfl ⟨hBel, a', m, cap', rfl, ?_, hO3⟩
      · simp [results, Try.results17, go_sem, d0, d1]
      · have := hO3.1
        simpa using this
    · obtain ⟨e1, e2⟩ := hRN hr
      subst e1 e2
      clear hRW hRN hy4 hk4 j0 j1 j2 j3
      go_wp2
      have hB3 := two_put2 kR4 (.int .u16 0) (.slice none 0 0)
      have hBel := hb04.trans ((two_below w4 (w.heap.size + 1) (.int .u16 0) (.slice none 0 0)).mono (by omega))
      clear hb04 kR4 r0 r1 hfR
      generalize (w4.setCell _ _).setCell _ _ = W at hB3 hBel ⊢
      obtain ⟨hd, _⟩ := one_block hB3
      have d0 := hd 0
      have d1 := hd 1
      refine bodyPost_ret (v := .tuple #[.agg #[.int .u16 0, .slice none 0 0], .int .i64 r]) ?_ rfl ⟨hBel, none, 0, 0, rfl, rfl, World.ownsRow_nil _ _ _ _⟩
      simp [results, Try.results17, go_sem, d0, d1]
  · have hE : rawE x b = 30 := by rw [rawE, if_neg h0]
    have hE2 : rawWs x b = [] := by rw [rawWs, hE]; rfl
    have hE3 : rawO x b = 0 := by rw [rawO, hE]; rfl
    rw [hE, hE2, hE3]
    have h0' : (lookF refT x.1).2 = false := by simpa using h0
    have eV : ofV x.1 = formV 0 noFrm := by unfold ofV; rw [if_neg h0]
    rw [h0', eV] at hOf
    unfold formV noFrm at hOf
    clear hE hE2 hE3 h0 h0' eV hf
    obtain ⟨xo, xt, xr, xl⟩ := x
    unfold instV
    simp only at *
    go_enter Try.func17, Try.ntmps17
    go_wp2_with fail
    have hB0 : Below w.heap.size w ((w.alloc (.cells #[.int .u16 xo, .int .u32 xt, .int .u32 xr, .slice ax n cx] 43)).alloc (.cells #[.int .u16 0, .slice none 0 0] 46)) := ((Below.refl _ w).alloc (Nat.le_refl _) _).alloc (by simp) _
    have kI : ((w.alloc (.cells #[.int .u16 xo, .int .u32 xt, .int .u32 xr, .slice ax n cx] 43)).alloc (.cells #[.int .u16 0, .slice none 0 0] 46)).heap[w.heap.size]? = some (.cells #[.int .u16 xo, .int .u32 xt, .int .u32 xr, .slice ax n cx] 43 (0, 0)) := (Below.heap_alloc _ _ _ (by simp)).trans (alloc_new w _ _)
    have kR : ((w.alloc (.cells #[.int .u16 xo, .int .u32 xt, .int .u32 xr, .slice ax n cx] 43)).alloc (.cells #[.int .u16 0, .slice none 0 0] 46)).heap[w.heap.size + 1]? = some (.cells #[.int .u16 0, .slice none 0 0] 46 (0, 0)) := by simpa using alloc_new (w.alloc (.cells #[.int .u16 xo, .int .u32 xt, .int .u32 xr, .slice ax n cx] 43)) #[.int .u16 0, .slice none 0 0] 46
    generalize (w.alloc (.cells #[.int .u16 xo, .int .u32 xt, .int .u32 xr, .slice ax n cx] 43)).alloc (.cells #[.int .u16 0, .slice none 0 0] 46) = W0 at *
    have l0 := (Array.getElem?_eq_some_iff.1 kR).1
    refine (hOf _).mono ?_
    rintro e w1 ⟨rfl, hb1⟩
    have s1 := hb1.size
    have kI1 := (hb1.block _ (by omega)).trans kI
    have kR1 := (hb1.block _ l0).trans kR
    have hb01 := hB0.trans (hb1.mono (by omega))
    clear hb1 kI kR hB0 hOf
    have hb2 : Below w1.heap.size w1 (w1.alloc (.cells #[.int .u16 0, .string ⟨#[]⟩, .bool false, .bool false, .string ⟨#[]⟩, .string ⟨#[]⟩, .int .i64 0, .int .u8 0] 81)) := (Below.refl _ _).alloc (Nat.le_refl _) _
    have kR2 := (hb2.block _ (by omega)).trans kR1
    obtain ⟨hcR, hfR⟩ := one_block kR2
    have r0 := hcR 0
    have r1 := hcR 1
    have hb02 := hb01.trans (hb2.mono (by omega))
    clear hb2 kI1 kR1 hcR hb01
    go_wp2
    have hB3 := two_put2 kR2 (.int .u16 0) (.slice none 0 0)
    have hBel := hb02.trans ((two_below _ (w.heap.size + 1) (.int .u16 0) (.slice none 0 0)).mono (by omega))
    clear hb02 kR2 r0 r1 hfR
    generalize ((w1.alloc _).setCell _ _).setCell _ _ = W at hB3 hBel ⊢
    obtain ⟨hd, _⟩ := one_block hB3
    have d0 := hd 0
    have d1 := hd 1
    refine bodyPost_ret (v := .tuple #[.agg #[.int .u16 0, .slice none 0 0], .int .i64 30]) ?_ rfl ⟨hBel, none, 0, 0, rfl, rfl, World.ownsRow_nil _ _ _ _⟩
    simp [results, Try.results17, go_sem, d0, d1]

end Go.Proofs.Ytpggcpnjcalfaab

/-
  Plain facts: a text's words, with whatever words behind them, are read as the text.
-/
namespace Go.Proofs.Ytpggcpnjcalfaab
open Go.RowKit

theorem joinL_append (xs ys : List Int) : joinL (xs ++ ys) = joinL xs ++ joinL ys := by simp [joinL]
theorem joinL_textW (s : ByteArray) : joinL (textW s) = padI s := join_split (padI s) (by rw [padI_len]; omega) (padI_within s)
theorem joinL_text_lo (s : ByteArray) (ys : List Int) (i : Nat) (h : i < 4 * (s.size / 4 + 1)) : nth (joinL (textW s ++ ys)) i = nth (padI s) i := by
  rw [joinL_append, joinL_textW, getD_left _ _ _ (by rw [padI_len]; exact h)]
theorem text_take (s : ByteArray) (ys : List Int) : (joinL (textW s ++ ys)).take s.size = strI s := by
  rw [joinL_append, joinL_textW, List.take_append_of_le_length (by rw [padI_len]; omega), padI, filled]
  have e : (strI s).take s.size = strI s := List.take_of_length_le (by rw [strI_len]; omega)
  rw [e, List.take_append_of_le_length (by rw [strI_len]; omega), e]
theorem textW_within (s : ByteArray) : Within 4294967296 (textW s) := splitL_within (padI s) (padI_within s)
theorem within_append {m : Int} {xs ys : List Int} (hx : Within m xs) (hy : Within m ys) : Within m (xs ++ ys) := by
  intro z hz
  rcases List.mem_append.1 hz with h | h
  · exact hx z h
  · exact hy z h
/-- Behind the text's end its word holds nothing. -/
theorem text_rest (s : ByteArray) (ys : List Int) : nth (textW s ++ ys) (s.size / 4) / 256 ^ (s.size % 4) = 0 := by
  have hL : s.size / 4 < (textW s).length := by rw [textW_len]; omega
  have hw := (textW_within s).at hL
  rw [getD_left _ _ _ hL]
  rw [rest_zero _ _ (by omega) hw.1 hw.2]
  intro q hq1 hq2
  have := joinL_getD (textW s) (4 * (s.size / 4) + q) (by rw [textW_len]; omega)
  rw [joinL_textW, show (4 * (s.size / 4) + q) / 4 = s.size / 4 by omega, show (4 * (s.size / 4) + q) % 4 = q by omega] at this
  rw [← this, padI_hi s _ (by omega)]

/-- Is there a byte 0 among the first k? -/
def nulB (s : ByteArray) (k : Nat) : Bool := (List.range k).any fun i => nth (strI s) i == 0
theorem nulB_succ (s : ByteArray) (k : Nat) (h : k < s.size) : nulB s (k + 1) = (nulB s k || ((s[k].toNat : Int) == 0)) := by
  rw [← nth_strI s k h]
  simp [nulB, List.range_succ]
theorem nulB_none (s : ByteArray) (h : NoNul s) : nulB s s.size = false := by
  rw [nulB, List.any_eq_false]
  intro k hk
  have := h k (List.mem_range.1 hk)
  simpa using this
theorem nulB_some (s : ByteArray) (k : Nat) (hk : k < s.size) (h : nth (strI s) k = 0) : nulB s s.size = true := by
  rw [nulB, List.any_eq_true]
  exact ⟨k, List.mem_range.2 hk, by simpa using h⟩

end Go.Proofs.Ytpggcpnjcalfaab

/-
  Plain facts on modules as words: the first instruction that is wrong, and all instructions' words.
-/
namespace Go.Proofs.Ytpggcpnjcalfaab
open Go.RowKit
set_option linter.unusedVariables false

/-- The first instruction that is wrong, or that has too many words. -/
def shapeF (b : Int) : Nat → Nat → List InstT → Int × Nat
  | _, _, [] => (0, 0)
  | k, c, x :: l => if rawE x b ≠ 0 then (rawE x b, k) else if 1048576 < c + 1 + (rawWs x b).length then (4, k) else shapeF b (k + 1) (c + 1 + (rawWs x b).length) l
def shapeE (b : Int) (l : List InstT) : Int × Nat := if b = 0 ∨ 65536 < b then (24, 0) else shapeF b 0 5 l
/-- A module's instructions as words. -/
def rawsL (b : Int) (l : List InstT) : List (Int × List Int) := l.map fun x => (x.1, rawWs x b)
/-- What raws answers. -/
def rawsR (b : Int) (l : List InstT) : List (Int × List Int) := if (shapeE b l).1 = 0 then rawsL b l else []

theorem rawsL_len (b : Int) (l : List InstT) : (rawsL b l).length = l.length := by simp [rawsL]
theorem nthR_raws (b : Int) (l : List InstT) (k : Nat) (h : k < l.length) : nthR (rawsL b l) k = ((nthI l k).1, rawWs (nthI l k) b) := by
  rw [nthI_lt _ _ h]; simp [nthR, rawsL, List.getD, h]
theorem rawsL_take (b : Int) (l : List InstT) (k : Nat) (h : k < l.length) : rawsL b (l.take (k + 1)) = rawsL b (l.take k) ++ [((nthI l k).1, rawWs (nthI l k) b)] := by
  unfold rawsL
  rw [List.take_add_one, List.getElem?_eq_getElem h, nthI_lt _ _ h, List.map_append]; rfl
theorem dropI (l : List InstT) (k : Nat) (h : k < l.length) : l.drop k = nthI l k :: l.drop (k + 1) := by
  rw [nthI_lt _ _ h]; exact List.drop_eq_getElem_cons h

theorem shape_end (b : Int) (l : List InstT) (k c : Nat) (h : l.length ≤ k) : shapeF b k c (l.drop k) = (0, 0) := by
  rw [List.drop_eq_nil_of_le h]; rfl
theorem shape_step (b : Int) (l : List InstT) (k : Nat) (h : k < l.length) : shapeF b k (sizeTo (rawsL b l) k) (l.drop k) = if rawE (nthI l k) b ≠ 0 then (rawE (nthI l k) b, k) else if 1048576 < sizeTo (rawsL b l) (k + 1) then (4, k) else shapeF b (k + 1) (sizeTo (rawsL b l) (k + 1)) (l.drop (k + 1)) := by
  rw [dropI l k h, shapeF, sizeTo_succ (rawsL b l) k (by rw [rawsL_len]; exact h), nthR_raws b l k h]
theorem shape_any (b : Int) : ∀ (l : List InstT) (k c : Nat), shapeF b k c l = (0, 0) ∨ (shapeF b k c l).1 ≠ 0
  | [], _, _ => .inl rfl
  | x :: l, k, c => by
    rw [shapeF]
    by_cases h1 : rawE x b ≠ 0
    · rw [if_pos h1]; exact .inr h1
    · rw [if_neg h1]
      split
      · exact .inr (by simp)
      · exact shape_any b l _ _
theorem shapeE_any (b : Int) (l : List InstT) : shapeE b l = (0, 0) ∨ (shapeE b l).1 ≠ 0 := by
  unfold shapeE
  split
  · exact .inr (by decide)
  · exact shape_any b l 0 5

theorem rawWs_ok {x : InstT} {b : Int} (h : rawE x b = 0) : (lookF refT x.1).2 = true ∧ faultI (lookF refT x.1).1 x b = 0 ∧ rawWs x b = rawL (lookF refT x.1).1 x := by
  have h1 := h
  unfold rawE at h1
  by_cases h2 : (lookF refT x.1).2 = true
  · rw [if_pos h2] at h1
    exact ⟨h2, h1, by unfold rawWs; rw [if_pos h]⟩
  · rw [if_neg h2] at h1; cases h1
theorem faultI_zero {f : Frm} {x : InstT} {b : Int} (h : faultI f x b = 0) : idE f.2.1 x.2.1 b 40 = 0 ∧ idE f.2.2.1 x.2.2.1 b 41 = 0 ∧ wrongL f b 0 x.2.2.2 = 0 ∧ wholeN f x.2.2.2.length = true ∧ 1 + (rawL f x).length ≤ 65535 := by
  unfold faultI at h
  by_cases h1 : idE f.2.1 x.2.1 b 40 = 0
  · rw [if_neg (by simp [h1])] at h
    by_cases h2 : idE f.2.2.1 x.2.2.1 b 41 = 0
    · rw [if_neg (by simp [h2])] at h
      by_cases h3 : wrongL f b 0 x.2.2.2 = 0
      · rw [if_neg (by simp [h3])] at h
        by_cases h4 : wholeN f x.2.2.2.length = true
        · rw [if_neg (by simp [h4])] at h
          by_cases h5 : 65535 < 1 + (rawL f x).length
          · rw [if_pos h5] at h; cases h
          · exact ⟨h1, h2, h3, h4, by omega⟩
        · rw [if_pos (by simpa using h4)] at h; cases h
      · rw [if_pos h3] at h; exact absurd h h3
    · rw [if_pos h2] at h; exact absurd h h2
  · rw [if_pos h1] at h; exact absurd h h1
theorem rawWs_len (x : InstT) (b : Int) : (rawWs x b).length < 65535 := by
  by_cases h : rawE x b = 0
  · obtain ⟨_, h2, h3⟩ := rawWs_ok h
    have := (faultI_zero h2).2.2.2.2
    rw [h3]; omega
  · rw [rawWs, if_neg h]; simp

theorem wordsL_within {l : List ArgT} (h : ArgsOk l) : Within 4294967296 (wordsL l) := by
  intro z hz
  obtain ⟨x, hx, hzx⟩ := List.mem_flatMap.1 hz
  obtain ⟨k, hk, rfl⟩ := List.mem_iff_getElem.1 hx
  have ho := h k hk
  rw [nthA_lt _ _ hk] at ho
  unfold wordsA at hzx
  split at hzx
  · exact textW_within _ z hzx
  · rw [List.mem_singleton] at hzx; subst hzx
    exact ⟨ho.2.2.1, ho.2.2.2.1⟩
theorem rawWs_within {x : InstT} (b : Int) (h : InstOk x) : Within 4294967296 (rawWs x b) := by
  unfold rawWs
  split
  · refine within_append ?_ (wordsL_within h.2.2.2.2.2.2.1)
    unfold headW
    refine within_append ?_ ?_
    · split
      · exact within_one h.2.2.1 h.2.2.2.1
      · exact within_nil
    · split
      · exact within_one h.2.2.2.2.1 h.2.2.2.2.2.1
      · exact within_nil
  · exact within_nil
theorem rawsL_ok (b : Int) {l : List InstT} (h : InstsOk l) : RawsOk (rawsL b l) := by
  intro j hj
  rw [rawsL_len] at hj
  rw [nthR_raws b l j hj]
  have ho := h j hj
  refine ⟨ho.1, ho.2.1, rawWs_within b ho, ?_⟩
  have := rawWs_len (nthI l j) b
  simp only
  omega
theorem rawsR_ok (b : Int) {l : List InstT} (h : InstsOk l) : RawsOk (rawsR b l) := by
  unfold rawsR
  split
  · exact rawsL_ok b h
  · intro j hj; simp at hj

theorem fault_shapeF (b : Int) (l : List InstT) : ∀ d k, l.length - k = d → (shapeF b k (sizeTo (rawsL b l) k) (l.drop k)).1 = 0 → fault (rawsL b l) k = (0, 0)
  | 0, k, hd, _ => fault_end _ _ (by rw [rawsL_len]; omega)
  | d + 1, k, hd, h => by
    have hk : k < l.length := by omega
    rw [shape_step b l k hk] at h
    rw [fault_step _ _ (by rw [rawsL_len]; exact hk), nthR_raws b l k hk]
    have hs := rawWs_len (nthI l k) b
    rw [if_neg (by simp only; omega)]
    by_cases h1 : rawE (nthI l k) b ≠ 0
    · rw [if_pos h1] at h; exact absurd h h1
    · rw [if_neg h1] at h
      by_cases h2 : 1048576 < sizeTo (rawsL b l) (k + 1)
      · rw [if_pos h2] at h; cases h
      · rw [if_neg h2] at h ⊢
        exact fault_shapeF b l d (k + 1) (by omega) h
theorem fault_shape {b : Int} {l : List InstT} (h : (shapeE b l).1 = 0) : fault (rawsL b l) 0 = (0, 0) := by
  unfold shapeE at h
  by_cases h1 : b = 0 ∨ 65536 < b
  · rw [if_pos h1] at h; cases h
  · rw [if_neg h1] at h
    exact fault_shapeF b l _ 0 rfl h
theorem shape_bound {b : Int} {l : List InstT} (h : (shapeE b l).1 = 0) : ¬ b = 0 ∧ ¬ 65536 < b := by
  unfold shapeE at h
  by_cases h1 : b = 0 ∨ 65536 < b
  · rw [if_pos h1] at h; cases h
  · exact ⟨fun h => h1 (.inl h), fun h => h1 (.inr h)⟩
theorem shape_each {b : Int} {l : List InstT} (h : (shapeE b l).1 = 0) (k : Nat) (hk : k < l.length) : rawE (nthI l k) b = 0 := by
  have key : ∀ (l : List InstT) (i c k : Nat), (shapeF b i c l).1 = 0 → k < l.length → rawE (nthI l k) b = 0 := by
    intro l
    induction l with
    | nil => intro i c k _ hk; simp at hk
    | cons x l ih =>
      intro i c k h hk
      rw [shapeF] at h
      by_cases h1 : rawE x b ≠ 0
      · rw [if_pos h1] at h; exact absurd h h1
      · rw [if_neg h1] at h
        cases k with
        | zero => exact Classical.not_not.1 h1
        | succ k =>
          split at h
          · cases h
          · exact ih _ _ k h (by simpa using hk)
  unfold shapeE at h
  by_cases h1 : b = 0 ∨ 65536 < b
  · rw [if_pos h1] at h; cases h
  · rw [if_neg h1] at h
    exact key l 0 5 k h hk
theorem sizeTo_ge (rs : List (Int × List Int)) : ∀ k, k ≤ rs.length → 5 + k ≤ sizeTo rs k
  | 0, _ => by rw [sizeTo_zero]; omega
  | k + 1, h => by rw [sizeTo_succ rs k (by omega)]; have := sizeTo_ge rs k (by omega); omega
/-- A module of good shape has few instructions. -/
theorem shape_few {b : Int} {l : List InstT} (h : (shapeE b l).1 = 0) : l.length ≤ 1048576 ∧ sizeTo (rawsL b l) l.length ≤ 1048576 := by
  have h1 := fault_none (rawsL b l) (by rw [fault_shape h]) l.length (by rw [rawsL_len]; exact Nat.le_refl _)
  have := sizeTo_ge (rawsL b l) l.length (by rw [rawsL_len]; exact Nat.le_refl _)
  omega

end Go.Proofs.Ytpggcpnjcalfaab

/-
  What Read answers lies within its bounds.
-/
namespace Go.Proofs.Ytpggcpnjcalfaab
open Go.RowKit

theorem nthR_map (l : List Nat) (f : Nat → Int × List Int) (j : Nat) (h : j < l.length) : nthR (l.map f) j = f (l.getD j 0) := by
  simp [nthR, List.getD, h]

theorem readL_small (zs : List Int) (h : readL zs ≠ []) : zs.length ≤ 1048576 := by
  by_cases h1 : 1048576 < zs.length
  · exfalso; apply h; unfold readL readE; rw [if_pos h1]; simp
  · omega

theorem readR_each (zs : List Int) (hw : Within 4294967296 zs) (j : Nat) (hj : j < (readR zs).length) : 0 ≤ (nthR (readR zs) j).1 ∧ (nthR (readR zs) j).1 < 65536 ∧ Within 4294967296 (nthR (readR zs) j).2 ∧ (nthR (readR zs) j).2.length ≤ zs.length := by
  have hj' : j < (rest zs 5).length := by simpa [readR] using hj
  unfold readR
  rw [nthR_map _ _ _ hj']
  obtain ⟨_, h2, h3⟩ := rest_mem zs 5 ((rest zs 5).getD j 0) (by simp [List.getD, hj'])
  refine ⟨opI_lo _ _, opI_hi _ _, fun z hz => hw z ?_, ?_⟩
  · exact List.mem_of_mem_drop (List.mem_of_mem_take hz)
  · show (midL _ _ _).length ≤ _
    unfold midL
    rw [List.length_take, List.length_drop]; omega

theorem readL_each (zs : List Int) (hw : Within 4294967296 zs) (j : Nat) (hj : j < (readL zs).length) : 0 ≤ (nthR (readL zs) j).1 ∧ (nthR (readL zs) j).1 < 65536 ∧ Within 4294967296 (nthR (readL zs) j).2 ∧ (nthR (readL zs) j).2.length ≤ zs.length := by
  unfold readL at hj ⊢
  by_cases h : (readE zs).1 = 0
  · rw [if_pos h] at hj ⊢; exact readR_each zs hw j hj
  · rw [if_neg h] at hj; simp at hj

theorem readL_ok (zs : List Int) (hw : Within 4294967296 zs) (hn : 4 * zs.length ≤ 140737488351232) : RawsOk (readL zs) := fun j hj => by
  obtain ⟨h1, h2, h3, h4⟩ := readL_each zs hw j hj
  exact ⟨h1, h2, h3, by omega⟩
theorem readL_sm (zs : List Int) (hw : Within 4294967296 zs) (j : Nat) (hj : j < (readL zs).length) : (nthR (readL zs) j).2.length ≤ 1048576 := by
  have h := readL_small zs (fun e => by rw [e] at hj; simp at hj)
  have := (readL_each zs hw j hj).2.2.2
  omega
theorem readL_len (zs : List Int) : (readL zs).length ≤ zs.length := by
  unfold readL
  split
  · have := rest_len zs 5; simp [readR]; omega
  · simp

end Go.Proofs.Ytpggcpnjcalfaab
