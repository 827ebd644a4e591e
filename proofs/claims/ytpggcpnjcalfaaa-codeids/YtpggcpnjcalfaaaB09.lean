/-
  Texts laid together in one: MathRead, Ref02Read, Ref02Write, Ref02Find, Law02Raws, Law02Apart, Frame, RowO, MathT, MathN, WordsByteAt, WordsTextEnd, WordsJoin, WordsText.
-/
import Derived.Test.YtpggcpnjcalfaaaB02
import Derived.Test.YtpggcpnjcalfaaaB08
import Derived.WalkSpells
import Derived.BigRegion
import Derived.Deep.AppendLies
import Derived.Deep.QuietTactic
import Derived.BigQuiet
import Derived.Deep.RegionLaw
import Derived.Deep.DrawnRows
import Derived.Test.YtpggcpnjcalfaaaB06
import Derived.Test.YtpggcpnjcalfaaaB01
import Derived.Test.YtpggcpnjcalfaaaB05
import Derived.Test.YtpggcpnjcalfaaaB04
import Derived.Test.YtpggcpnjcalfaaaB07
import Derived.Test.YtpggcpnjcalfaaaProg
import Derived.WalkMore
/-
  What Read answers, as a function on lists: its error with its place, or the instructions; and the row of instructions in memory while it is built.
-/
namespace Go.Proofs.Ytpggcpnjcalfaaa
open Go.RowKit

/-- The first word of the head that lacks or is wrong, from place k on. -/
def headF (zs : List Int) : Nat → Nat → Int × Nat
  | 0, _ => (0, 0)
  | f + 1, k => if k < 5 then (if zs.length ≤ k then (14, k) else if wrongE k (nth zs k) ≠ 0 then (wrongE k (nth zs k), k) else headF zs f (k + 1)) else (0, 0)
def headE (zs : List Int) (k : Nat) : Int × Nat := headF zs (5 - k) k
theorem headE_end (zs : List Int) : headE zs 5 = (0, 0) := rfl
theorem headE_step (zs : List Int) (k : Nat) (h : k < 5) : headE zs k = if zs.length ≤ k then (14, k) else if wrongE k (nth zs k) ≠ 0 then (wrongE k (nth zs k), k) else headE zs (k + 1) := by
  rw [headE, show 5 - k = (5 - (k + 1)) + 1 by omega, headF, if_pos h]; rfl

/-- The error of Read, and its place. -/
def readE (zs : List Int) : Int × Nat :=
  if 1048576 < zs.length then (4, 1048576) else if (headE zs 0).1 ≠ 0 then headE zs 0 else if stop zs 5 < zs.length then (25, stop zs 5) else (0, 0)
/-- The instruction at a place. -/
def rawAt (zs : List Int) (p : Nat) : Int × List Int := (opI zs p, midL zs (p + 1) (cntN zs p - 1))
/-- The instructions. -/
def readR (zs : List Int) : List (Int × List Int) := (rest zs 5).map (rawAt zs)

/-- The cells of a row of instructions: each operation, and each list of words, which lies in another block than the row. -/
structure RowR (w : World) (lo : Nat) (ob : Option Nat) (rs : List (Int × List Int)) (cs : List Value) : Prop where
  len : cs.length = rs.length * 2
  each : ∀ j, j < rs.length → ∃ aj cj nj, cs[j * 2]? = some (.int .u16 (nthR rs j).1) ∧ cs[j * 2 + 1]? = some (.slice aj nj cj) ∧ (nthR rs j).2.length = nj ∧ View .u32 w aj (nthR rs j).2 ∧ nj ≤ cj ∧ ∀ b off s, aj = some ⟨b, off, s⟩ → ob ≠ some b ∧ b < w.heap.size ∧ lo ≤ b

theorem rowR_nil {w : World} {lo : Nat} {ob : Option Nat} : RowR w lo ob [] [] := ⟨rfl, fun j hj => by simp at hj⟩

theorem RowR.view {w : World} {B T g n cap lo : Nat} {rs : List (Int × List Int)} {cs : List Value} {ob : Option Nat} (h : RowR w lo ob rs cs) (hown : w.ownsRow B T 2 (.slice (some ⟨g, 0, none⟩) n cap) n cs) (hl : rs.length = n) : RawsV w (some ⟨g, 0, none⟩) rs := by
  intro j hj
  obtain ⟨aj, cj, nj, h1, h2, h3, h4, h5, _⟩ := h.each j hj
  have c1 := hown.cellAt (j * 2) (by omega)
  have c2 := hown.cellAt (j * 2 + 1) (by omega)
  rw [h1] at c1
  rw [h2] at c2
  exact ⟨g, 0, aj, cj, nj, rfl, World.block_lt_of_cell? _ _ c1, by rw [Nat.zero_add]; exact c1, by rw [Nat.zero_add]; exact c2, h3, h4, h5⟩

theorem RowR.viewAny {w : World} {B T n cap lo : Nat} {a : Option Addr} {rs : List (Int × List Int)} {cs : List Value} {ob : Option Nat} (h : RowR w lo ob rs cs) (hown : w.ownsRow B T 2 (.slice a n cap) n cs) (hl : rs.length = n) : RawsV w a rs := by
  rcases hown.2 with ⟨_, hn⟩ | ⟨g, cap', cur, hv, _⟩
  · have : rs = [] := List.eq_nil_of_length_eq_zero (by omega)
    subst this; exact fun j hj => by simp at hj
  · cases hv; exact h.view hown hl

/-- What is written in the row alone leaves the words as they were. -/
theorem view_grown {k : IntKind} {w w' : World} {a : Option Addr} {zs : List Int} {ob : Option Nat} (h : View k w a zs) (hg : w.grownBy w' ob) (hne : ∀ b off s, a = some ⟨b, off, s⟩ → ob ≠ some b) : View k w' a zs := by
  intro j hj
  obtain ⟨b, off, e, hlt, hc⟩ := h j hj
  refine ⟨b, off, e, Nat.lt_of_lt_of_le hlt hg.size, ?_⟩
  rw [← hc]
  exact World.cell?_of_block (w := w) (hg.block b hlt (fun e' => hne b off none e e'.symm))

theorem RowR.below {w w' : World} {lo : Nat} {ob : Option Nat} {rs : List (Int × List Int)} {cs : List Value} (h : RowR w lo ob rs cs) (hb : Below w.heap.size w w') : RowR w' lo ob rs cs := by
  refine ⟨h.len, fun j hj => ?_⟩
  obtain ⟨aj, cj, nj, h1, h2, h3, h4, h5, h6⟩ := h.each j hj
  exact ⟨aj, cj, nj, h1, h2, h3, h4.below hb, h5, fun b off s e => ⟨(h6 b off s e).1, Nat.lt_of_lt_of_le (h6 b off s e).2.1 hb.size, (h6 b off s e).2.2⟩⟩

theorem RowR.setCell {w : World} {lo : Nat} {ob : Option Nat} {rs : List (Int × List Int)} {cs : List Value} (h : RowR w lo ob rs cs) {g j : Nat} (hg : g < lo) (u : Value) : RowR (w.setCell ⟨g, j, none⟩ u) lo ob rs cs := by
  refine ⟨h.len, fun i hi => ?_⟩
  obtain ⟨aj, cj, nj, h1, h2, h3, h4, h5, h6⟩ := h.each i hi
  exact ⟨aj, cj, nj, h1, h2, h3, h4.setCell (fun b off s e => (h6 b off s e).2.2) hg u, h5, fun b off s e => ⟨(h6 b off s e).1, by have := (h6 b off s e).2.1; simpa [World.setCell] using this, (h6 b off s e).2.2⟩⟩

theorem nthR_lo (rs : List (Int × List Int)) (r : Int × List Int) (j : Nat) (h : j < rs.length) : nthR (rs ++ [r]) j = nthR rs j := by
  simp [nthR, List.getD, List.getElem?_append_left h]
theorem nthR_hi (rs : List (Int × List Int)) (r : Int × List Int) : nthR (rs ++ [r]) rs.length = r := by
  simp [nthR, List.getD]

/-- An instruction more. -/
theorem RowR.push {w w' : World} {v : Value} {g' H lo : Nat} {rs : List (Int × List Int)} {cs : List Value} {r : Int × List Int} {a : Option Addr} {n c : Nat}
    (h : RowR w lo v.ownBlock rs cs) (hv : View .u32 w a r.2) (hl : r.2.length = n) (hc : n ≤ c) (ha : ∀ b off s, a = some ⟨b, off, s⟩ → v.ownBlock ≠ some b ∧ b < H ∧ lo ≤ b) (hH : w.heap.size = H)
    (hg : w.grownBy w' v.ownBlock) (hat : v.ownBlock = some g' ∨ g' = H) : RowR w' lo (some g') (rs ++ [r]) (cs ++ [.int .u16 r.1, .slice a n c]) := by
  have key : ∀ b, v.ownBlock ≠ some b → b < H → lo ≤ b → (some g' ≠ some b ∧ b < w'.heap.size ∧ lo ≤ b) := fun b h1 h2 h0 => by
    refine ⟨fun e => ?_, by have := hg.size; omega, h0⟩
    cases e
    rcases hat with h3 | h3
    · exact h1 h3
    · omega
  refine ⟨by simp [h.len]; omega, fun j hj => ?_⟩
  rw [List.length_append, List.length_singleton] at hj
  by_cases hjl : j < rs.length
  · obtain ⟨aj, cj, nj, h1, h2, h3, h4, h5, h6⟩ := h.each j hjl
    rw [nthR_lo _ _ _ hjl]
    have hcl := h.len
    exact ⟨aj, cj, nj, by rw [List.getElem?_append_left (by omega)]; exact h1, by rw [List.getElem?_append_left (by omega)]; exact h2, h3, view_grown h4 hg (fun b off s e => (h6 b off s e).1), h5,
      fun b off s e => key b (h6 b off s e).1 (by have := (h6 b off s e).2.1; omega) (h6 b off s e).2.2⟩
  · obtain rfl : j = rs.length := by omega
    rw [nthR_hi]
    have hcl := h.len
    refine ⟨a, c, n, ?_, ?_, hl, view_grown hv hg (fun b off s e => (ha b off s e).1), hc, fun b off s e => key b (ha b off s e).1 (ha b off s e).2.1 (ha b off s e).2.2⟩
    · rw [List.getElem?_append_right (by omega), show rs.length * 2 - cs.length = 0 by omega]; rfl
    · rw [List.getElem?_append_right (by omega), show rs.length * 2 + 1 - cs.length = 1 by omega]; rfl

end Go.Proofs.Ytpggcpnjcalfaaa

/-
  What Read of the document's answer returns, for every list of words: its error and its place, or the head and the instructions, in new memory.
-/
namespace Go.Proofs.Ytpggcpnjcalfaaa
open Go.RowKit

theorem RefRead.info : (Try.prog.info? 25).map (fun i => (i.zero, i.size, i.bytes)) = some (some (.agg #[.int .u16 0, .slice none 0 0]), 2, 32) := by kernel_rfl

theorem head_ok (zs : List Int) (h : (headE zs 0).1 = 0) : 5 ≤ zs.length ∧ ∀ k, k < 5 → wrongE k (nth zs k) = 0 := by
  have key : ∀ d k, 5 - k = d → k ≤ 5 → (headE zs k).1 = 0 → (k < 5 → 5 ≤ zs.length) ∧ ∀ j, k ≤ j → j < 5 → wrongE j (nth zs j) = 0 := by
    intro d
    induction d with
    | zero => intro k hd hk _; exact ⟨fun h => by omega, fun j h1 h2 => by omega⟩
    | succ d ih =>
      intro k hd hk hz
      rw [headE_step zs k (by omega)] at hz
      by_cases h1 : zs.length ≤ k
      · rw [if_pos h1] at hz; simp at hz
      · rw [if_neg h1] at hz
        by_cases h2 : wrongE k (nth zs k) ≠ 0
        · rw [if_pos h2] at hz; exact absurd hz h2
        · rw [if_neg h2] at hz
          obtain ⟨g1, g2⟩ := ih (k + 1) (by omega) (by omega) hz
          refine ⟨fun _ => ?_, fun j hj1 hj2 => ?_⟩
          · by_cases e : k + 1 < 5
            · exact g1 e
            · omega
          · by_cases e : j = k
            · subst e; exact Classical.byContradiction h2
            · exact g2 j (by omega) hj2
  have := key 5 0 rfl (by omega) h
  exact ⟨this.1 (by omega), fun k hk => this.2 k (by omega) hk⟩

theorem set_two_boxes {w : World} {g0 g1 T0 T1 : Nat} {a b c d : Value} (h0 : w.heap[g0]? = some (.cells #[a, b] T0 (0, 0))) (h1 : w.heap[g1]? = some (.cells #[c, d] T1 (0, 0))) (hne : g0 ≠ g1) (u0 u1 v0 v1 : Value) :
    ((((w.setCell ⟨g0, 0, none⟩ u0).setCell ⟨g0, 1, none⟩ u1).setCell ⟨g1, 0, none⟩ v0).setCell ⟨g1, 1, none⟩ v1).cell? ⟨g0, 0, none⟩ = some u0 ∧
    ((((w.setCell ⟨g0, 0, none⟩ u0).setCell ⟨g0, 1, none⟩ u1).setCell ⟨g1, 0, none⟩ v0).setCell ⟨g1, 1, none⟩ v1).cell? ⟨g0, 1, none⟩ = some u1 ∧
    ((((w.setCell ⟨g0, 0, none⟩ u0).setCell ⟨g0, 1, none⟩ u1).setCell ⟨g1, 0, none⟩ v0).setCell ⟨g1, 1, none⟩ v1).cell? ⟨g1, 0, none⟩ = some v0 ∧
    ((((w.setCell ⟨g0, 0, none⟩ u0).setCell ⟨g0, 1, none⟩ u1).setCell ⟨g1, 0, none⟩ v0).setCell ⟨g1, 1, none⟩ v1).cell? ⟨g1, 1, none⟩ = some v1 := by
  have hne' : ¬ g1 = g0 := fun e => hne e.symm
  refine ⟨?_, ?_, ?_, ?_⟩ <;> simp [World.setCell, World.cell?, Array.getElem?_modify, h0, h1, hne, hne']

theorem own_shape2 {w : World} {B e n : Nat} {v : Value} {xs : List Value} (h : w.ownsRow B e 2 v n xs) : ∃ a c, v = .slice a n c := by
  rcases h.2 with ⟨rfl, rfl⟩ | ⟨g, c, cur, rfl, _⟩
  · exact ⟨none, 0, rfl⟩
  · exact ⟨_, c, rfl⟩

end Go.Proofs.Ytpggcpnjcalfaaa

/-
  What Write of the document's answer returns, for every head and every list of instructions: its error and its place, or the words, in new memory.
-/
namespace Go.Proofs.Ytpggcpnjcalfaaa
open Go.RowKit

theorem RefWrite.info : (Try.prog.info? 26).map (fun i => (i.zero, i.size, i.bytes)) = some (some (.int .u32 0), 1, 4) := by kernel_rfl

/-- An instruction's words. -/
def rawW (r : Int × List Int) : List Int := (((r.2.length : Int) + 1) * 65536 + r.1) :: r.2
/-- The words of the head and of the first k instructions. -/
def writeTo (gen bound : Int) (rs : List (Int × List Int)) (k : Nat) : List Int := [119734787, 65536, gen, bound, 0] ++ (rs.take k).flatMap rawW

theorem writeTo_succ (gen bound : Int) (rs : List (Int × List Int)) (k : Nat) (h : k < rs.length) : writeTo gen bound rs (k + 1) = writeTo gen bound rs k ++ rawW (nthR rs k) := by
  have e : rs.take (k + 1) = rs.take k ++ [nthR rs k] := by
    rw [List.take_succ_eq_append_getElem h]; simp [nthR, List.getD, h]
  rw [writeTo, e, List.flatMap_append, ← List.append_assoc]; simp [writeTo]
theorem writeTo_len (gen bound : Int) (rs : List (Int × List Int)) : ∀ k, k ≤ rs.length → (writeTo gen bound rs k).length = sizeTo rs k
  | 0, _ => rfl
  | k + 1, h => by
    rw [writeTo_succ gen bound rs k (by omega), List.length_append, writeTo_len gen bound rs k (by omega), sizeTo_succ rs k (by omega)]
    simp [rawW]; omega

end Go.Proofs.Ytpggcpnjcalfaaa

/-
  What Find of the document's answer returns, of at most 1048576 words.
-/
namespace Go.Proofs.Ytpggcpnjcalfaaa
open Go.RowKit
set_option maxRecDepth 10000

theorem find_at (P : Nat → Bool) : ∀ (l : List Nat) (k : Nat), k < l.length → (∀ j, j < k → P (l.getD j 0) = false) → P (l.getD k 0) = true → l.find? P = some (l.getD k 0)
  | [], k, h, _, _ => by simp at h
  | x :: l, 0, _, _, h => by
    have h' : P x = true := h
    simp [h']
  | x :: l, k + 1, h, hb, hk => by
    have h0 : P x = false := hb 0 (by omega)
    have ih := find_at P l k (by simpa using h) (fun j hj => hb (j + 1) (by omega)) hk
    rw [List.find?_cons, h0]
    exact ih
theorem find_none (P : Nat → Bool) (l : List Nat) (h : ∀ j, j < l.length → P (l.getD j 0) = false) : l.find? P = none := by
  rw [List.find?_eq_none]
  intro x hx
  obtain ⟨j, hj, rfl⟩ := List.getElem_of_mem hx
  have := h j hj
  simp [List.getD, hj] at this
  simp [this]

/-- Is it an instruction of this operation, not ahead of that place? -/
def isAt (zs : List Int) (op from_ : Int) (q : Nat) : Bool := decide (from_ ≤ (q : Int)) && (opI zs q == op)
/-- The first one. -/
def findP (zs : List Int) (op from_ : Int) : Option Nat := (rest zs 5).find? (isAt zs op from_)
def findAt (zs : List Int) (op from_ : Int) : Int := match findP zs op from_ with | some q => (q : Int) | none => 0
def findIs (zs : List Int) (op from_ : Int) : Bool := (findP zs op from_).isSome

theorem findAt_some {zs : List Int} {op f : Int} {q : Nat} (h : findP zs op f = some q) : findAt zs op f = q := by unfold findAt; rw [h]
theorem findAt_none {zs : List Int} {op f : Int} (h : findP zs op f = none) : findAt zs op f = 0 := by unfold findAt; rw [h]
theorem findIs_some {zs : List Int} {op f : Int} {q : Nat} (h : findP zs op f = some q) : findIs zs op f = true := by unfold findIs; rw [h]; rfl
theorem findIs_none {zs : List Int} {op f : Int} (h : findP zs op f = none) : findIs zs op f = false := by unfold findIs; rw [h]; rfl

theorem ret_pair {k : IntKind} {a b : Int} {x y : Bool} (h : a = b) (h2 : x = y) : Ending.returned (.tuple #[.int k a, .bool x]) = .returned (.tuple #[.int k b, .bool y]) := by rw [h, h2]

end Go.Proofs.Ytpggcpnjcalfaaa

/-
  raws of the laws of layer 2 answers true of two lists of instructions that are the same; head answers the words of a head.
-/
namespace Go.Proofs.Ytpggcpnjcalfaaa
open Go.RowKit
set_option maxRecDepth 10000

theorem quiet_words {a b : Option Addr} {n ca cb : Nat} {zs : List Int} {w : World} (ha : View .u32 w a zs) (hb : View .u32 w b zs) (hl : zs.length = n) (hn : n ≤ 140737488351232) (q : Nat) :
    Calls Try.prog 10 #[.slice a n ca, .slice b n cb] (w.drewN q) fun e w' => e = .returned (.bool true) ∧ ∃ m, w' = w.drewN m := by
  refine (words_true a b n ca cb zs (w.drewN q) (ha.drew q) (hb.drew q) hl hn).mono ?_
  rintro e w' ⟨he, m, hm⟩
  exact ⟨he, q + m, by rw [hm, World.drewN_drewN]⟩

end Go.Proofs.Ytpggcpnjcalfaaa

/-
  apart of the laws of layer 2 answers true of instructions each of which lies in memory of its own, and are the wanted ones; what was there ahead of them stays.
-/
namespace Go.Proofs.Ytpggcpnjcalfaaa
open Go.RowKit

theorem Apart.info : (Try.prog.info? 26).map (fun i => (i.zero, i.size, i.bytes)) = some (some (.int .u32 0), 1, 4) := by kernel_rfl

/-- The instructions from the k-th on lie each in memory of its own, from block lo on; the row lies elsewhere. -/
def OwnR (w : World) (lo : Nat) (a : Option Addr) (k : Nat) (rs : List (Int × List Int)) : Prop :=
  ∀ j, k ≤ j → j < rs.length → ∃ b off aj cj nj, a = some ⟨b, off, none⟩ ∧ lo ≤ b ∧ b < w.heap.size ∧ w.cell? ⟨b, off + j * 2, none⟩ = some (.int .u16 (nthR rs j).1) ∧ w.cell? ⟨b, off + j * 2 + 1, none⟩ = some (.slice aj nj cj) ∧ (nthR rs j).2.length = nj ∧
    w.ownsRow lo 26 1 (.slice aj nj cj) nj ((nthR rs j).2.map (Value.int .u32)) ∧ Value.ownBlock (.slice aj nj cj) ≠ some b ∧
    ∀ i, k ≤ i → i < rs.length → i ≠ j → ∀ ai ci ni g, w.cell? ⟨b, off + i * 2 + 1, none⟩ = some (.slice ai ni ci) → Value.ownBlock (.slice ai ni ci) = some g → Value.ownBlock (.slice aj nj cj) ≠ some g

theorem own_grown {w w' : World} {B e size n : Nat} {v : Value} {xs : List Value} {ob : Option Nat} (h : w.ownsRow B e size v n xs) (hg : w.grownBy w' ob) (hne : ∀ g, ob = some g → v.ownBlock ≠ some g) : w'.ownsRow B e size v n xs := by
  refine ⟨h.1, ?_⟩
  rcases h.2 with hn | ⟨g, cap, cur, rfl, hb, hgg, rest⟩
  · exact .inl hn
  · exact .inr ⟨g, cap, cur, rfl, hb, by rw [hg.block g (Array.getElem?_eq_some_iff.1 hgg).1 (fun e => hne g e.symm rfl)]; exact hgg, rest⟩

/-- What is written in one instruction's words leaves the later ones. -/
theorem OwnR.next {w w' : World} {lo k b off : Nat} {a : Option Addr} {rs : List (Int × List Int)} {ak : Option Addr} {nk ck : Nat} (h : OwnR w lo a k rs) (ha : a = some ⟨b, off, none⟩) (hk : k < rs.length) (hc : w.cell? ⟨b, off + k * 2 + 1, none⟩ = some (.slice ak nk ck)) (hg : w.grownBy w' (Value.ownBlock (.slice ak nk ck))) : OwnR w' lo a (k + 1) rs := by
  obtain ⟨b0, off0, ak0, ck0, nk0, e0, _, _, _, hc0, _, _, hnb, _⟩ := h k (Nat.le_refl _) hk
  rw [ha] at e0
  simp at e0
  obtain ⟨rfl, rfl⟩ := e0
  rw [hc] at hc0
  simp at hc0
  obtain ⟨rfl, rfl, rfl⟩ := hc0
  have cell : ∀ o, w'.cell? ⟨b, o, none⟩ = w.cell? ⟨b, o, none⟩ := fun o => World.cell?_of_block (hg.block b (World.block_lt_of_cell? _ _ hc) (fun e => hnb e.symm))
  intro j hj hjl
  obtain ⟨b1, off1, aj, cj, nj, e1, hlo1, hb1, c1, c2, c3, c4, c5, c6⟩ := h j (by omega) hjl
  rw [ha] at e1
  simp at e1
  obtain ⟨rfl, rfl⟩ := e1
  refine ⟨b, off, aj, cj, nj, ha, hlo1, Nat.lt_of_lt_of_le hb1 hg.size, (cell _).trans c1, (cell _).trans c2, c3, own_grown c4 hg (fun g e => c6 k (Nat.le_refl _) hk (by omega) ak ck nk g hc e), c5, ?_⟩
  intro i hi hil hij ai ci ni g hci
  rw [cell] at hci
  exact c6 i (by omega) hil hij ai ci ni g hci

theorem grown_drew (w : World) (q : Nat) (ob : Option Nat) : w.grownBy (w.drewN q) ob := by
  have h := bel_drewN (Below.refl w.heap.size w) q
  exact ⟨h.os, h.tape, h.output, h.size, fun k hk _ => h.block k hk⟩

/-- An append and what is written in its row: nothing but the old row and new blocks. -/
theorem grown_new {w w1 w2 : World} {ob : Option Nat} {g H : Nat} (h1 : w.grownBy w1 ob) (hat : ob = some g ∨ g = H) (hH : w.heap.size = H) (h2 : w1.grownBy w2 (some g)) : w.grownBy w2 ob :=
  ⟨h2.os.trans h1.os, h2.tape.trans h1.tape, h2.output.trans h1.output, Nat.le_trans h1.size h2.size, fun k hk hne =>
    (h2.block k (Nat.lt_of_lt_of_le hk h1.size) (fun e => by
      cases e
      rcases hat with h | h
      · exact hne h.symm
      · omega)).trans (h1.block k hk hne)⟩

/-- What is written elsewhere leaves them all. -/
theorem OwnR.kept {w w' : World} {lo lo' k : Nat} {a : Option Addr} {rs : List (Int × List Int)} {ob : Option Nat} (h : OwnR w lo a k rs) (hg : w.grownBy w' ob) (hob : ∀ g, ob = some g → g < lo) (hlo : lo' ≤ lo) : OwnR w' lo' a k rs := by
  intro j hj hjl
  obtain ⟨b, off, aj, cj, nj, e1, hlo1, hb1, c1, c2, c3, c4, c5, c6⟩ := h j hj hjl
  have hne : some b ≠ ob := fun e => by have := hob b e.symm; omega
  have cell : ∀ o, w'.cell? ⟨b, o, none⟩ = w.cell? ⟨b, o, none⟩ := fun o => World.cell?_of_block (hg.block b hb1 hne)
  have c4' := own_grown c4 hg (fun g e e2 => by have := (c4.lt g e2).1; have := hob g e; omega)
  refine ⟨b, off, aj, cj, nj, e1, Nat.le_trans hlo hlo1, Nat.lt_of_lt_of_le hb1 hg.size, (cell _).trans c1, (cell _).trans c2, c3, ⟨c4'.1, ?_⟩, c5, fun i hi hil hij ai ci ni g hci => by rw [cell] at hci; exact c6 i hi hil hij ai ci ni g hci⟩
  rcases c4'.2 with h0 | ⟨g, cap, cur, e, hb, rest⟩
  · exact .inl h0
  · exact .inr ⟨g, cap, cur, e, Nat.le_trans hlo hb, rest⟩
theorem OwnR.below {w w' : World} {lo k : Nat} {a : Option Addr} {rs : List (Int × List Int)} (h : OwnR w lo a k rs) (hb : Below w.heap.size w w') : OwnR w' lo a k rs :=
  h.kept (ob := none) ⟨hb.os, hb.tape, hb.output, hb.size, fun k hk _ => hb.block k hk⟩ (fun g e => by cases e) (Nat.le_refl _)

theorem OwnR.view {w : World} {lo : Nat} {a : Option Addr} {rs : List (Int × List Int)} (h : OwnR w lo a 0 rs) : RawsV w a rs := by
  intro j hj
  obtain ⟨b, off, aj, cj, nj, e, _, hb, c1, c2, c3, c4, _⟩ := h j (Nat.zero_le _) hj
  refine ⟨b, off, aj, cj, nj, e, hb, c1, c2, c3, View.ofOwn c4 c3, ?_⟩
  rcases c4.2 with ⟨e1, e2⟩ | ⟨g, c', cur, e1, _, _, e4, _⟩
  · omega
  · cases e1; exact e4

end Go.Proofs.Ytpggcpnjcalfaaa

/-
  What the calls of layer 2 answer, as functions on lists; what the document's answer returns; and what is asked of the program's calls (as conditions, each proved where the program's text is walked).
-/
namespace Go.Proofs.Ytpggcpnjcalfaaa
open Go.RowKit

def readL (zs : List Int) : List (Int × List Int) := if (readE zs).1 = 0 then readR zs else []
def readAt (zs : List Int) (i : Nat) : Int := if (readE zs).1 = 0 then nth zs i else 0
def writeE (bound : Int) (rs : List (Int × List Int)) : Int × Nat := if bound = 0 ∨ 65536 < bound then (24, 0) else fault rs 0
def writeL (gen bound : Int) (rs : List (Int × List Int)) : List Int := if (writeE bound rs).1 = 0 then writeTo gen bound rs rs.length else []

/-- What is asked of Read. -/
def ReadC (f : Nat) : Prop := ∀ (a : Option Addr) (n cap : Nat) (zs : List Int) (w : World), View .u32 w a zs → zs.length = n → Within 4294967296 zs → 4 * n ≤ 140737488351232 → n ≤ cap →
  Calls Try.prog f #[.slice a n cap] w fun e w' => Below w.heap.size w w' ∧ ∃ ax cx m, e = .returned (.tuple #[.agg #[.int .u32 (readAt zs 2), .int .u32 (readAt zs 3)], .slice ax m cx, .agg #[.int .i64 (readE zs).1, .int .i64 (readE zs).2]]) ∧ (readL zs).length = m ∧ OwnR w' w.heap.size ax 0 (readL zs)
/-- What is asked of Write. -/
def WriteC (f : Nat) : Prop := ∀ (gen bound : Int) (a : Option Addr) (n cap : Nat) (rs : List (Int × List Int)) (w : World), 0 ≤ gen → gen < 4294967296 → 0 ≤ bound → bound < 4294967296 → RawsV w a rs → RawsOk rs → rs.length = n → 32 * n ≤ 140737488351232 → n ≤ cap →
  Calls Try.prog f #[.agg #[.int .u32 gen, .int .u32 bound], .slice a n cap] w fun e w' => Below w.heap.size w w' ∧ ∃ ax cx m, e = .returned (.tuple #[.slice ax m cx, .agg #[.int .i64 (writeE bound rs).1, .int .i64 (writeE bound rs).2]]) ∧ (writeL gen bound rs).length = m ∧
    w'.ownsRow w.heap.size 26 1 (.slice ax m cx) m ((writeL gen bound rs).map (Value.int .u32))
/-- What is asked of Size. -/
def SizeC (f : Nat) : Prop := ∀ (a : Option Addr) (n cap : Nat) (rs : List (Int × List Int)) (w : World), RawsV w a rs → RawsOk rs → rs.length = n → 32 * n ≤ 140737488351232 → n ≤ cap →
  Calls Try.prog f #[.slice a n cap] w fun e w' => e = .returned (.tuple #[.int .i64 (sizeOut rs), .int .i64 (fault rs 0).1]) ∧ Below w.heap.size w w'
/-- What is asked of Find. -/
def FindC (f : Nat) : Prop := ∀ (a : Option Addr) (n cap : Nat) (zs : List Int) (op from_ : Int) (w : World), View .u32 w a zs → zs.length = n → Within 4294967296 zs → 4 * n ≤ 140737488351232 → n ≤ cap → 0 ≤ op → op < 65536 → -9223372036854775808 ≤ from_ → from_ ≤ 9223372036854775807 →
  Calls Try.prog f #[.slice a n cap, .int .u16 op, .int .i64 from_] w fun e w' => e = .returned (.tuple #[.int .i64 (findAt zs op from_), .bool (findIs zs op from_)]) ∧ Below w.heap.size w w'

end Go.Proofs.Ytpggcpnjcalfaaa

/-
  A row of instructions while it is built, each with words in memory of its own.
-/
namespace Go.Proofs.Ytpggcpnjcalfaaa
open Go.RowKit
set_option linter.unusedVariables false

/-- What a step may turn that leaves what lies from block lo on in cells: a block below lo, or one that is no cells. -/
def Apartly (w : World) (lo : Nat) (row : Option Nat) : Prop := ∀ g, row = some g → g < lo ∨ ∃ o : Obj, w.heap[g]? = some o ∧ o.isCells = false

theorem own_apartly {w w' : World} {lo e size n : Nat} {v : Value} {xs : List Value} {row : Option Nat} (h : w.ownsRow lo e size v n xs) (hg : w.grownBy w' row) (hr : Apartly w lo row) : w'.ownsRow lo e size v n xs := by
  refine ⟨h.1, ?_⟩
  rcases h.2 with hn | ⟨g, cap, cur, rfl, hb, hgg, rest⟩
  · exact .inl hn
  · refine .inr ⟨g, cap, cur, rfl, hb, ?_, rest⟩
    rw [hg.block g (Array.getElem?_eq_some_iff.1 hgg).1 (fun e => ?_)]
    · exact hgg
    · rcases hr g e.symm with h1 | ⟨o, h1, h2⟩
      · omega
      · rw [hgg] at h1; cases h1; cases h2

structure RowO (w : World) (lo : Nat) (ob : Option Nat) (rs : List (Int × List Int)) (cs : List Value) : Prop where
  len : cs.length = rs.length * 2
  each : ∀ j, j < rs.length → ∃ aj cj nj, cs[j * 2]? = some (.int .u16 (nthR rs j).1) ∧ cs[j * 2 + 1]? = some (.slice aj nj cj) ∧ (nthR rs j).2.length = nj ∧
    w.ownsRow lo 26 1 (.slice aj nj cj) nj ((nthR rs j).2.map (Value.int .u32)) ∧ (∀ g, Value.ownBlock (.slice aj nj cj) = some g → ob ≠ some g) ∧
    ∀ i, i < rs.length → i ≠ j → ∀ ai ci ni g, cs[i * 2 + 1]? = some (.slice ai ni ci) → Value.ownBlock (.slice ai ni ci) = some g → Value.ownBlock (.slice aj nj cj) ≠ some g

theorem rowO_nil {w : World} {lo : Nat} {ob : Option Nat} : RowO w lo ob [] [] := ⟨rfl, fun j hj => by simp at hj⟩

theorem RowO.grown {w w' : World} {lo : Nat} {ob : Option Nat} {rs : List (Int × List Int)} {cs : List Value} {row : Option Nat} (h : RowO w lo ob rs cs) (hg : w.grownBy w' row) (hr : Apartly w lo row) : RowO w' lo ob rs cs := by
  refine ⟨h.len, fun j hj => ?_⟩
  obtain ⟨aj, cj, nj, h1, h2, h3, h4, h5, h6⟩ := h.each j hj
  exact ⟨aj, cj, nj, h1, h2, h3, own_apartly h4 hg hr, h5, h6⟩
theorem RowO.below {w w' : World} {lo : Nat} {ob : Option Nat} {rs : List (Int × List Int)} {cs : List Value} (h : RowO w lo ob rs cs) (hb : Below w.heap.size w w') : RowO w' lo ob rs cs :=
  h.grown (grown_of_below hb none) (fun g e => by cases e)

/-- An instruction more, whose words have been laid since w0. -/
theorem RowO.push {w0 w w' : World} {v : Value} {g' lo : Nat} {rs : List (Int × List Int)} {cs : List Value} {op : Int} {ms : List Int} {a : Option Addr} {n c : Nat}
    (h : RowO w0 lo v.ownBlock rs cs) (hb : Below w0.heap.size w0 w) (hs : w.ownsRow w0.heap.size 26 1 (.slice a n c) n (ms.map (Value.int .u32))) (hl : ms.length = n) (hv : ∀ b, v.ownBlock = some b → b < w0.heap.size) (hlo : lo ≤ w0.heap.size)
    (hg : w.grownBy w' v.ownBlock) (hat : v.ownBlock = some g' ∨ g' = w.heap.size) : RowO w' lo (some g') (rs ++ [(op, ms)]) (cs ++ [.int .u16 op, .slice a n c]) := by
  have hcl := h.len
  -- the new words' block
  have hnew : ∀ g, Value.ownBlock (.slice a n c) = some g → w0.heap.size ≤ g ∧ g < w.heap.size := fun g e => hs.lt g e
  have hold : ∀ i, i < rs.length → ∀ ai ci ni g, cs[i * 2 + 1]? = some (.slice ai ni ci) → Value.ownBlock (.slice ai ni ci) = some g → g < w0.heap.size := fun i hi ai ci ni g hc e => by
    obtain ⟨aj, cj, nj, _, h2, _, h4, _⟩ := h.each i hi
    rw [hc] at h2
    cases h2
    exact (h4.lt g e).2
  have hown : ∀ {sv : Value} {m : Nat} {xs : List Value} {B : Nat}, w.ownsRow B 26 1 sv m xs → (∀ g, sv.ownBlock = some g → v.ownBlock ≠ some g) → w'.ownsRow B 26 1 sv m xs := fun h1 h2 => own_grown h1 hg (fun g e e2 => h2 g e2 e)
  have hne : ∀ g, g < w.heap.size → v.ownBlock ≠ some g → some g' ≠ some g := fun g h1 h2 e => by
    cases e
    rcases hat with h3 | h3
    · exact h2 h3
    · omega
  refine ⟨by simp [hcl]; omega, fun j hj => ?_⟩
  rw [List.length_append, List.length_singleton] at hj
  by_cases hjl : j < rs.length
  · obtain ⟨aj, cj, nj, h1, h2, h3, h4, h5, h6⟩ := h.each j hjl
    rw [nthR_lo _ _ _ hjl]
    refine ⟨aj, cj, nj, by rw [List.getElem?_append_left (by omega)]; exact h1, by rw [List.getElem?_append_left (by omega)]; exact h2, h3, hown (own_below h4 hb) h5, fun g e => hne g (by have := (h4.lt g e).2; have := hb.size; omega) (h5 g e), ?_⟩
    intro i hi hij ai ci ni g hci e
    rw [List.length_append, List.length_singleton] at hi
    by_cases hil : i < rs.length
    · rw [List.getElem?_append_left (by omega)] at hci
      exact h6 i hil hij ai ci ni g hci e
    · obtain rfl : i = rs.length := by omega
      rw [List.getElem?_append_right (by omega), show rs.length * 2 + 1 - cs.length = 1 by omega] at hci
      simp at hci
      obtain ⟨rfl, rfl, rfl⟩ := hci
      intro e2
      have h7 := (hnew g e).1
      have h8 := hold j hjl aj cj nj g h2 e2
      omega
  · obtain rfl : j = rs.length := by omega
    rw [nthR_hi]
    refine ⟨a, c, n, ?_, ?_, hl, ?_, fun g e => hne g (hnew g e).2 (fun e2 => by have := hv g e2; have := (hnew g e).1; omega), ?_⟩
    · rw [List.getElem?_append_right (by omega), show rs.length * 2 - cs.length = 0 by omega]; rfl
    · rw [List.getElem?_append_right (by omega), show rs.length * 2 + 1 - cs.length = 1 by omega]; rfl
    · refine hown ⟨hs.1, ?_⟩ (fun g e e2 => by have := hv g e2; have := (hnew g e).1; omega)
      rcases hs.2 with h0 | ⟨g, cap, cur, e, hb', rest⟩
      · exact .inl h0
      · exact .inr ⟨g, cap, cur, e, Nat.le_trans hlo hb', rest⟩
    · intro i hi hij ai ci ni g hci e e2
      rw [List.length_append, List.length_singleton] at hi
      have hil : i < rs.length := by omega
      rw [List.getElem?_append_left (by omega)] at hci
      have := hold i hil ai ci ni g hci e
      have := (hnew g e2).1
      omega

/-- The whole row is as 'OwnR' says. -/
theorem RowO.own {w : World} {T n cap lo : Nat} {a : Option Addr} {rs : List (Int × List Int)} {cs : List Value} (h : RowO w lo (Value.ownBlock (.slice a n cap)) rs cs) (hown : w.ownsRow lo T 2 (.slice a n cap) n cs) (hl : rs.length = n) : OwnR w lo a 0 rs := by
  intro j _ hj
  rcases hown.2 with ⟨_, hn⟩ | ⟨g, cap', cur, hv, hb, hgg, _⟩
  · omega
  · cases hv
    obtain ⟨aj, cj, nj, h1, h2, h3, h4, h5, h6⟩ := h.each j hj
    have hcl := h.len
    have c1 := hown.cellAt (j * 2) (by omega)
    have c2 := hown.cellAt (j * 2 + 1) (by omega)
    rw [h1] at c1
    rw [h2] at c2
    refine ⟨g, 0, aj, cj, nj, rfl, hb, (Array.getElem?_eq_some_iff.1 hgg).1, by rw [Nat.zero_add]; exact c1, by rw [Nat.zero_add]; exact c2, h3, h4, fun e => h5 g e rfl, ?_⟩
    intro i _ hi hij ai ci ni g2 hci e
    have c3 := hown.cellAt (i * 2 + 1) (by omega)
    rw [Nat.zero_add, c3] at hci
    exact h6 i hi hij ai ci ni g2 hci e

end Go.Proofs.Ytpggcpnjcalfaaa

/-
  The text at the front of words, as a function of the words.
-/
namespace Go.Proofs.Ytpggcpnjcalfaaa
open Go.RowKit

/-- The place of the first zero; the length where there is none. -/
def zeroAt (js : List Int) : Nat := js.findIdx (· == 0)

theorem nth_lt (js : List Int) (k : Nat) (h : k < js.length) : nth js k = js[k] := by simp [nth, List.getD, h]

theorem zeroAt_before (js : List Int) (i : Nat) (h : i < zeroAt js) (hi : i < js.length) : nth js i ≠ 0 := by
  rw [nth_lt _ _ hi]
  have := List.not_of_lt_findIdx (p := (· == 0)) (xs := js) h
  simpa using this

theorem zeroAt_at (js : List Int) (h : zeroAt js < js.length) : nth js (zeroAt js) = 0 := by
  rw [nth_lt _ _ h]
  have := List.findIdx_getElem (p := (· == 0)) (xs := js) (w := h)
  exact eq_of_beq this

/-- Is a byte behind the zero, in its word, not zero? -/
def padBad (js : List Int) : Bool := ((js.drop (zeroAt js + 1)).take (3 - zeroAt js % 4)).any (· != 0)

/-- The text at the front of words, how many words it takes, and its error. -/
def textI (zs : List Int) : ByteArray × Int × Int :=
  if (joinL zs).length ≤ zeroAt (joinL zs) then (⟨#[]⟩, 0, 11)
  else if padBad (joinL zs) then (⟨#[]⟩, 0, 12)
  else (strOfNums ((joinL zs).take (zeroAt (joinL zs))), ((zeroAt (joinL zs) / 4 : Nat) : Int) + 1, 0)

theorem padBad_iff {js : List Int} {L P : Nat} (hz : zeroAt js = 4 * L + P) (hP : P < 4) (hl : 4 * L + 4 ≤ js.length) : padBad js = true ↔ ∃ q, P < q ∧ q < 4 ∧ nth js (4 * L + q) ≠ 0 := by
  unfold padBad
  rw [List.any_eq_true, hz, show (4 * L + P) % 4 = P by omega]
  constructor
  · rintro ⟨x, hx, hne⟩
    obtain ⟨k, hk, rfl⟩ := List.mem_iff_getElem.1 hx
    rw [List.length_take, List.length_drop] at hk
    rw [List.getElem_take, List.getElem_drop] at hne
    refine ⟨P + 1 + k, by omega, by omega, ?_⟩
    rw [nth_lt _ _ (by omega)]
    have e : 4 * L + (P + 1 + k) = 4 * L + P + 1 + k := by omega
    simp only [e]
    simpa using hne
  · rintro ⟨q, h1, h2, h3⟩
    refine ⟨nth js (4 * L + q), ?_, by simpa using h3⟩
    rw [nth_lt _ _ (by omega)]
    refine List.mem_iff_getElem.2 ⟨q - P - 1, ?_, ?_⟩
    · rw [List.length_take, List.length_drop]; omega
    · rw [List.getElem_take, List.getElem_drop]
      congr 1; omega

theorem textI_some {zs : List Int} (h : (textI zs).2.2 = 0) : zeroAt (joinL zs) < (joinL zs).length ∧ padBad (joinL zs) = false ∧ textI zs = (strOfNums ((joinL zs).take (zeroAt (joinL zs))), ((zeroAt (joinL zs) / 4 : Nat) : Int) + 1, 0) := by
  unfold textI at h ⊢
  by_cases h1 : (joinL zs).length ≤ zeroAt (joinL zs)
  · rw [if_pos h1] at h; cases h
  · rw [if_neg h1] at h ⊢
    by_cases h2 : padBad (joinL zs) = true
    · rw [if_pos h2] at h; cases h
    · rw [if_neg h2]
      exact ⟨by omega, by simpa using h2, rfl⟩
theorem textI_range (zs : List Int) : 0 ≤ (textI zs).2.1 ∧ (textI zs).2.1 ≤ zs.length ∧ ((textI zs).2.2 = 0 → 1 ≤ (textI zs).2.1) ∧ ((textI zs).2.2 ≠ 0 → (textI zs).1 = ⟨#[]⟩ ∧ (textI zs).2.1 = 0) ∧ (textI zs).1.size ≤ 4 * zs.length := by
  have hl := joinL_len zs
  by_cases h : (textI zs).2.2 = 0
  · obtain ⟨h1, h2, h3⟩ := textI_some h
    rw [h3]
    refine ⟨by simp; omega, by simp; omega, fun _ => by simp; omega, fun h => absurd rfl h, ?_⟩
    simp only
    rw [strOfNums_size, List.length_take]; omega
  · have : textI zs = (⟨#[]⟩, 0, 11) ∨ textI zs = (⟨#[]⟩, 0, 12) := by
      unfold textI at h ⊢
      by_cases h1 : (joinL zs).length ≤ zeroAt (joinL zs)
      · rw [if_pos h1]; exact .inl rfl
      · rw [if_neg h1] at h ⊢
        by_cases h2 : padBad (joinL zs) = true
        · rw [if_pos h2]; exact .inr rfl
        · rw [if_neg h2] at h; exact absurd rfl h
    rcases this with e | e <;> (rw [e]; exact ⟨by simp, by simp, fun h => by simp at h, fun _ => ⟨rfl, rfl⟩, by simp [ByteArray.size]⟩)

end Go.Proofs.Ytpggcpnjcalfaaa

/-
  The instruction that words say, as a function of the words.
-/
namespace Go.Proofs.Ytpggcpnjcalfaaa
open Go.RowKit
set_option linter.unusedVariables false
set_option linter.unusedSimpArgs false

/-- The argument at the front of words, how many these are, and its error. -/
def argI (c : Int) (zs : List Int) (b : Int) : ArgT × Int × Int :=
  if c = 0 ∨ zs.length = 0 then (noArg, 0, 42)
  else if kindI c = 3 then ((3, 0, (textI zs).1), (textI zs).2.1, (textI zs).2.2)
  else if kindI c = 1 ∧ noneB (nth zs 0) b = true then (noArg, 0, 43)
  else if kindI c = 4 ∧ enumB c (nth zs 0) = false then (noArg, 0, 31)
  else ((kindI c, nth zs 0, ⟨#[]⟩), 1, 0)

/-- The arguments that words say, behind those that there are; the error. -/
def argsI (f : Frm) (b : Int) : Nat → List Int → List ArgT → List ArgT × Int
  | 0, _, _ => ([], 42)
  | k + 1, zs, acc =>
    if zs.length = 0 then (if wholeN f acc.length = true then (acc, 0) else ([], 42))
    else if (argI (letterI f acc.length) zs b).2.2 ≠ 0 then ([], (argI (letterI f acc.length) zs b).2.2)
    else argsI f b k (zs.drop (argI (letterI f acc.length) zs b).2.1.toNat) (acc ++ [(argI (letterI f acc.length) zs b).1])

/-- The result's id. -/
def headRes (re : Bool) (zs : List Int) (b : Int) (p : Nat) : Int × Int := if re then (if zs.length ≤ p then (0, 41) else (nth zs p, if noneB (nth zs p) b then 43 else 0)) else (0, 0)
/-- The type's id. -/
def headTy (ty : Bool) (zs : List Int) (b : Int) : Int × Int := if ty then (if zs.length ≤ 0 then (0, 40) else (nth zs 0, if noneB (nth zs 0) b then 43 else 0)) else (0, 0)

/-- The instruction that words say, its form being f; the error. -/
def instF (f : Frm) (op : Int) (zs : List Int) (b : Int) : InstT × Int :=
  if (headTy f.2.1 zs b).2 ≠ 0 then (noInst, (headTy f.2.1 zs b).2)
  else if (headRes f.2.2.1 zs b f.2.1.toNat).2 ≠ 0 then (noInst, (headRes f.2.2.1 zs b f.2.1.toNat).2)
  else if (argsI f b (zs.length + 1) (zs.drop (f.2.1.toNat + f.2.2.1.toNat)) []).2 ≠ 0 then (noInst, (argsI f b (zs.length + 1) (zs.drop (f.2.1.toNat + f.2.2.1.toNat)) []).2)
  else ((op, (headTy f.2.1 zs b).1, (headRes f.2.2.1 zs b f.2.1.toNat).1, (argsI f b (zs.length + 1) (zs.drop (f.2.1.toNat + f.2.2.1.toNat)) []).1), 0)
/-- What Inst answers. -/
def instI (op : Int) (zs : List Int) (b : Int) : InstT × Int :=
  if 65535 ≤ zs.length then (noInst, 25) else if (lookF refT op).2 = false then (noInst, 30) else instF (lookF refT op).1 op zs b

theorem kindI_range (c : Int) : kindI c = 0 ∨ kindI c = 1 ∨ kindI c = 2 ∨ kindI c = 3 ∨ kindI c = 4 := by
  unfold kindI
  split
  · exact .inr (.inl rfl)
  · split
    · exact .inr (.inr (.inl rfl))
    · split
      · exact .inr (.inr (.inr (.inl rfl)))
      · split
        · exact .inr (.inr (.inr (.inr rfl)))
        · exact .inl rfl

/-- Each letter of a form has a kind. -/
def goodL (s : ByteArray) : Bool := s.data.toList.all fun x => kindI (x.toNat : Int) != 0
theorem refT_goodL : refT.all (fun p => goodL p.2.2.2.2.1 && goodL p.2.2.2.2.2.1) = true := by decide +kernel
theorem sgn_good {s : ByteArray} (h : goodL s = true) {k : Nat} (hk : k < s.size) : kindI (sgn s k) ≠ 0 := by
  have hl : k < s.data.toList.length := by rw [size_list]; exact hk
  have h1 := (List.all_eq_true.1 h) (s.data.toList[k]) (List.getElem_mem hl)
  unfold sgn
  rw [List.getD, List.getElem?_eq_getElem hl]
  simpa using h1
theorem letter_kind (n : Int) (k : Nat) (h : letterI (lookF refT n).1 (k : Int) ≠ 0) : kindI (letterI (lookF refT n).1 (k : Int)) ≠ 0 := by
  have hg : goodL (lookF refT n).1.2.2.2.1 = true ∧ goodL (lookF refT n).1.2.2.2.2.1 = true := by
    by_cases h : (lookF refT n).2 = true
    · have := (List.all_eq_true.1 refT_goodL) _ (lookF_true h)
      simpa using this
    · rw [(lookF_false (by simpa using h)).1]; exact ⟨rfl, rfl⟩
  generalize (lookF refT n).1 = f at *
  unfold letterI at h ⊢
  rw [if_neg (by omega)] at h ⊢
  by_cases h1 : (k : Int) < f.2.2.2.1.size
  · rw [if_pos h1] at h ⊢
    exact sgn_good hg.1 (by omega)
  · rw [if_neg h1] at h ⊢
    split at h
    · rename_i hm
      rw [if_pos hm]
      refine sgn_good hg.2 ?_
      unfold mayB at hm
      by_cases h0 : f.2.2.2.2.1.size = 0
      · rw [if_pos h0] at hm; cases hm
      · have := Int.emod_lt_of_pos ((k : Int) - f.2.2.2.1.size) (show (0 : Int) < f.2.2.2.2.1.size by omega)
        have := Int.emod_nonneg ((k : Int) - f.2.2.2.1.size) (show (f.2.2.2.2.1.size : Int) ≠ 0 by omega)
        omega
    · exact absurd rfl h

end Go.Proofs.Ytpggcpnjcalfaaa

/-
  What byteAt of the words package returns, for every word and every place from 0 to 3.
-/
namespace Go.Proofs.Ytpggcpnjcalfaaa
open Go.RowKit
set_option maxRecDepth 10000

theorem byteAt_any (x p : Int) (w : World) (hx : 0 ≤ x) (hx2 : x < 4294967296) (h0 : 0 ≤ p) (h3 : p < 4) :
    Calls Try.prog 61 #[.int .u32 x, .int .i64 p] w fun e w' => e = .returned (.int .u8 (byt x p.toNat)) ∧ w = w' := by
  rcases (show p = 0 ∨ p = 1 ∨ p = 2 ∨ p = 3 by omega) with rfl | rfl | rfl | rfl
  · go_enter Try.func61, Try.ntmps61
    go_wp2
    go_ret
    exact ⟨ret_int (by simp [byt]), rfl⟩
  · go_enter Try.func61, Try.ntmps61
    go_wp2
    go_ret
    exact ⟨ret_int (by simp [byt]), rfl⟩
  · go_enter Try.func61, Try.ntmps61
    go_wp2
    go_ret
    exact ⟨ret_int (by simp [byt]), rfl⟩
  · go_enter Try.func61, Try.ntmps61
    go_wp2
    go_ret
    exact ⟨ret_int (by simp [byt]; omega), rfl⟩

end Go.Proofs.Ytpggcpnjcalfaaa

/-
  What textEnd of the words package returns: where the first byte 0 lies, or that there is none.
-/
namespace Go.Proofs.Ytpggcpnjcalfaaa
open Go.RowKit
set_option maxRecDepth 10000

set_option maxHeartbeats 1000000 in
theorem textEnd_none (a : Option Addr) (n cap : Nat) (zs : List Int) (w : World) (ha : View .u32 w a zs) (hl : zs.length = n) (hw : Within 4294967296 zs) (hn : 4 * n ≤ 281474976710656) (h : ∀ i, i < 4 * n → nth (joinL zs) i ≠ 0) :
    Calls Try.prog 97 #[.slice a n cap] w fun e w' => e = .returned (.tuple #[.int .i64 0, .int .i64 0, .bool false]) ∧ w = w' := by
  have HL : Hid (zs.length = n) := hl
  clear hl
  have HB : Hid (∀ k p : Nat, k < n → p < 4 → byt (nth zs k) p ≠ 0) := fun k p hk hp => by
    have := h (4 * k + p) (by omega)
    rw [joinL_getD _ _ (by rw [HL.out]; omega), show (4 * k + p) / 4 = k by omega, show (4 * k + p) % 4 = p by omega] at this
    exact this
  clear h
  go_enter Try.func97, Try.ntmps97
  go_wp2
  go_step3
  go_wp2
  go_step3
  go_wp2
  go_loop [2, 3, 4, 10] (fun r s f i => ∃ k : Nat, k ≤ n ∧ i = .int .i64 k ∧ r = .int .i64 0 ∧ s = .int .i64 0 ∧ f = .bool false) (fun _ _ _ i => n - (intOf i).toNat)
  case atStart => exact ⟨0, Nat.zero_le _, rfl, rfl, rfl, rfl⟩
  case round =>
    obtain ⟨k, hk, rfl, rfl, rfl, rfl⟩ := hrel
    by_cases hlt : k < n
    · obtain ⟨b, off, rfl, _, hc⟩ := ha k (by rw [HL.out]; exact hlt)
      have hx := hw.at (k := k) (by rw [HL.out]; exact hlt)
      have HX : Hid (∀ p : Nat, p < 4 → byt (nth zs k) p ≠ 0) := fun p hp => HB.out k p hlt hp
      generalize nth zs k = x at hc hx HX
      have hx0 := hx.1
      have hx1 := hx.2
      clear hx ha
      go_wp2
      go_loop [2, 3, 4, 15] (fun r s f i => ∃ p : Nat, p ≤ 4 ∧ i = .int .i64 p ∧ r = .int .i64 0 ∧ s = .int .i64 0 ∧ f = .bool false) (fun _ _ _ i => 4 - (intOf i).toNat)
      case atStart => exact ⟨0, Nat.zero_le _, rfl, rfl, rfl, rfl⟩
      case round =>
        obtain ⟨p, hp, rfl, rfl, rfl, rfl⟩ := hrel
        by_cases hplt : p < 4
        · have hne : (byt x p == 0) = false := by simp; exact HX.out p hplt
          have hA := fun wx => byteAt_any x (p : Int) wx hx0 hx1 (by omega) (by omega)
          rw [Int.toNat_natCast] at hA
          generalize byt x p = y at hne hA
          go_wp2_with (go_at_call 61; refine (hA _).mono ?_; rintro e w' ⟨rfl, rfl⟩)
          go_round
          case rel => exact ⟨p + 1, by omega, by go_num, rfl, rfl, rfl⟩
          case measure => simp [intOf]; omega
        · go_wp2
          go_round
          case rel => exact ⟨k + 1, by omega, by go_num, rfl, rfl, rfl⟩
          case measure => simp [intOf]; omega
    · go_wp2
      try rw [Exit.noGoto_ret]
      go_ret3
      exact ⟨rfl, rfl⟩

set_option maxHeartbeats 1000000 in
theorem textEnd_at (a : Option Addr) (n cap : Nat) (zs : List Int) (w : World) (L P : Nat) (ha : View .u32 w a zs) (hl : zs.length = n) (hw : Within 4294967296 zs) (hn : 4 * n ≤ 281474976710656)
    (hL : L < n) (hP : P < 4) (h : ∀ i, i < 4 * L + P → nth (joinL zs) i ≠ 0) (h0 : nth (joinL zs) (4 * L + P) = 0) :
    Calls Try.prog 97 #[.slice a n cap] w fun e w' => e = .returned (.tuple #[.int .i64 L, .int .i64 P, .bool true]) ∧ w = w' := by
  have HL : Hid (zs.length = n) := hl
  clear hl
  have HB : Hid (∀ k p : Nat, 4 * k + p < 4 * L + P → p < 4 → byt (nth zs k) p ≠ 0) := fun k p hk hp => by
    have := h (4 * k + p) hk
    rw [joinL_getD _ _ (by rw [HL.out]; omega), show (4 * k + p) / 4 = k by omega, show (4 * k + p) % 4 = p by omega] at this
    exact this
  have H0 : Hid (byt (nth zs L) P = 0) := by
    rw [joinL_getD _ _ (by rw [HL.out]; omega), show (4 * L + P) / 4 = L by omega, show (4 * L + P) % 4 = P by omega] at h0
    exact h0
  clear h h0
  go_enter Try.func97, Try.ntmps97
  go_wp2
  go_step3
  go_wp2
  go_step3
  go_wp2
  go_loop [2, 3, 4, 10] (fun r s f i => ∃ k : Nat, k ≤ L ∧ i = .int .i64 k ∧ r = .int .i64 0 ∧ s = .int .i64 0 ∧ f = .bool false) (fun _ _ _ i => n - (intOf i).toNat)
  case atStart => exact ⟨0, Nat.zero_le _, rfl, rfl, rfl, rfl⟩
  case round =>
    obtain ⟨k, hk, rfl, rfl, rfl, rfl⟩ := hrel
    have hlt : k < n := by omega
    obtain ⟨b, off, rfl, _, hc⟩ := ha k (by rw [HL.out]; exact hlt)
    have hx := hw.at (k := k) (by rw [HL.out]; exact hlt)
    have HX : Hid (∀ p : Nat, 4 * k + p < 4 * L + P → p < 4 → byt (nth zs k) p ≠ 0) := fun p hp h4 => HB.out k p hp h4
    have HX0 : Hid (k = L → byt (nth zs k) P = 0) := fun e => by rw [e]; exact H0.out
    generalize nth zs k = x at hc hx HX HX0
    have hx0 := hx.1
    have hx1 := hx.2
    clear hx ha
    go_wp2
    go_loop [2, 3, 4, 15] (fun r s f i => ∃ p : Nat, p ≤ 4 ∧ 4 * k + p ≤ 4 * L + P ∧ i = .int .i64 p ∧ r = .int .i64 0 ∧ s = .int .i64 0 ∧ f = .bool false) (fun _ _ _ i => 4 - (intOf i).toNat)
    case atStart => exact ⟨0, Nat.zero_le _, by omega, rfl, rfl, rfl, rfl⟩
    case round =>
      obtain ⟨p, hp, hpN, rfl, rfl, rfl, rfl⟩ := hrel
      by_cases hplt : p < 4
      · by_cases hlast : 4 * k + p < 4 * L + P
        · have hne : (byt x p == 0) = false := by simp; exact HX.out p hlast hplt
          have hA := fun wx => byteAt_any x (p : Int) wx hx0 hx1 (by omega) (by omega)
          rw [Int.toNat_natCast] at hA
          generalize byt x p = y at hne hA
          go_wp2_with (go_at_call 61; refine (hA _).mono ?_; rintro e w' ⟨rfl, rfl⟩)
          go_round
          case rel => exact ⟨p + 1, by omega, by omega, by go_num, rfl, rfl, rfl⟩
          case measure => simp [intOf]; omega
        · obtain rfl : k = L := by omega
          obtain rfl : p = P := by omega
          have hA := fun wx => byteAt_any x (p : Int) wx hx0 hx1 (by omega) (by omega)
          rw [Int.toNat_natCast, HX0.out rfl] at hA
          go_wp2_with (go_at_call 61; refine (hA _).mono ?_; rintro e w' ⟨rfl, rfl⟩)
          try rw [Exit.noGoto_ret]
          go_ret3
          exact ⟨rfl, rfl⟩
      · go_wp2
        go_round
        case rel => exact ⟨k + 1, by omega, by go_num, rfl, rfl, rfl⟩
        case measure => simp [intOf]; omega

end Go.Proofs.Ytpggcpnjcalfaaa

/-
  What Join of the words package returns, for every list of words whose bytes take at most 2^47 - 4096: their bytes, in new memory.
-/
namespace Go.Proofs.Ytpggcpnjcalfaaa
open Go.RowKit
set_option maxRecDepth 10000

theorem Join.info_u8 : (Try.prog.info? 5).map (fun i => (i.zero, i.size, i.bytes)) = some (some (.int .u8 0), 1, 1) := by kernel_rfl

set_option maxHeartbeats 400000 in
theorem join_any (a : Option Addr) (n cap : Nat) (zs : List Int) (w : World) (hv : View .u32 w a zs) (hl : zs.length = n) (hn : 4 * n ≤ 140737488351232) (hw : Within 4294967296 zs) :
    Calls Try.prog 39 #[.slice a n cap] w fun e w' => e = .returned (.slice (some ⟨w.heap.size, 0, none⟩) (4 * n) (4 * n)) ∧
      w'.ownsRow w.heap.size 5 1 (.slice (some ⟨w.heap.size, 0, none⟩) (4 * n) (4 * n)) (4 * n) ((joinL zs).map (Value.int .u8)) ∧ Below w.heap.size w w' := by
  obtain ⟨i0, hi, hz0, hz1, hz2⟩ := info_parts Join.info_u8
  have HL : Hid (zs.length = n) := hl
  clear hl
  go_enter Try.func39, Try.ntmps39
  go_wp2_with (at_make; refine wpList_make_own _ rfl _ _ 42 rfl w.heap.size 5 i0 (.int .u8 0) 1 Try.underlying42 hi hz0 hz1 _ _ _ (4 * n) rfl rfl (by omega) (by rw [hz2]; omega) (by unfold maxLen; omega) (Nat.le_refl _) ?_)
  intro w1 hown1 hgrow1
  have hb1 : Below w.heap.size w w1 := (Below.refl _ w).grown hgrow1 (Nat.le_refl _) (by simp)
  go_wp2
  go_loopw [3, 13] (fun v i wr => ∃ k : Nat, k ≤ n ∧ i = .int .i64 k ∧ v = .slice (some ⟨w.heap.size, 0, none⟩) (4 * k) (4 * n) ∧
      wr.ownsRow w.heap.size 5 1 (.slice (some ⟨w.heap.size, 0, none⟩) (4 * k) (4 * n)) (4 * k) ((joinL (zs.take k)).map (Value.int .u8)) ∧ Below w.heap.size w wr)
    (fun _ i _ => n - (intOf i).toNat)
  case atStart => exact ⟨0, Nat.zero_le _, rfl, rfl, hown1, hb1⟩
  case round =>
    obtain ⟨k, hk, rfl, rfl, hown, hnx⟩ := hrel
    by_cases hlt : k < n
    · obtain ⟨b, off, rfl, hbs, hc⟩ := hv k (by rw [HL.out]; exact hlt)
      have hx := hw.at (k := k) (by rw [HL.out]; exact hlt)
      have hJ := joinL_snoc zs k (by rw [HL.out]; exact hlt)
      obtain ⟨x, hxe⟩ : ∃ x, x = nth zs k := ⟨_, rfl⟩
      rw [← hxe] at hc hx hJ
      have HJ : Hid (joinL (zs.take (k + 1)) = joinL (zs.take k) ++ four x) := hJ
      have hcr : wr.cell? ⟨b, off + k, none⟩ = some (.int .u32 x) := (hnx.cell (p := ⟨b, off + k, none⟩) hbs).trans hc
      have hx0 := hx.1
      have hx1 := hx.2
      clear hx hxe hJ hc hw hv hown1 hgrow1 hb1
      go_wp2
      go_loopw [3, 17] (fun v i wq => ∃ p : Nat, p ≤ 4 ∧ i = .int .i64 p ∧ v = .slice (some ⟨w.heap.size, 0, none⟩) (4 * k + p) (4 * n) ∧
          wq.ownsRow w.heap.size 5 1 (.slice (some ⟨w.heap.size, 0, none⟩) (4 * k + p) (4 * n)) (4 * k + p) ((joinL (zs.take k) ++ (four x).take p).map (Value.int .u8)) ∧ Below w.heap.size w wq)
        (fun _ i _ => 4 - (intOf i).toNat)
      case atStart => exact ⟨0, by omega, rfl, rfl, by simpa using hown, hnx⟩
      case round =>
        obtain ⟨p, hp, rfl, rfl, hownp, hnp⟩ := hrel
        clear hcr hown hnx
        by_cases hplt : p < 4
        · go_wp2_with (first | (go_at_call 61; refine (byteAt_any _ _ _ hx0 hx1 (by omega) (by omega)).mono ?_; rintro e w' ⟨rfl, rfl⟩) | (at_builtin; refine wpList_append_fits _ rfl (.tmp 20) (.tmp 24) 42 rfl w.heap.size 5 i0 1 Try.underlying42 hi hz1 w.heap.size (4 * k + p) (4 * n) _ rfl (hownp.alloc _) ⟨wr.heap.size, 0, none⟩ 1 1 [.int .u8 (byt x p)] rfl rfl (cell_one_new _ _ _) (ints_oneCell .u8 [byt x p]) (by omega) ?_; intro w4 hown4 hgrow4))
          go_roundw
          case rel =>
            refine ⟨p + 1, by omega, by go_num, rfl, ?_, ?_⟩
            · rw [four_snoc x p hplt, ← List.append_assoc, List.map_append]; exact hown4
            · exact (hnp.alloc hnp.size _).grown hgrow4 (by have := hnp.size; simp; omega) (fun j hj => by cases hj; exact Nat.le_refl _)
          case measure => simp [intOf]; omega
        · go_wp2
          go_roundw
          case rel =>
            obtain rfl : p = 4 := by omega
            refine ⟨k + 1, by omega, by go_num, rfl, ?_, hnp⟩
            rw [HJ.out]; exact hownp
          case measure => simp [intOf]; omega
    · go_wp2
      go_ret
      obtain rfl : k = n := by omega
      rw [List.take_of_length_le (by rw [HL.out]; exact Nat.le_refl _)] at hown
      exact ⟨rfl, hown, hnx⟩

end Go.Proofs.Ytpggcpnjcalfaaa

/-
  What Text of the words package returns, for every list of words: its error, or the text at their front and how many words it takes.
-/
namespace Go.Proofs.Ytpggcpnjcalfaaa
open Go.RowKit
set_option maxRecDepth 10000

theorem text_none (a : Option Addr) (n cap : Nat) (zs : List Int) (w : World) (ha : View .u32 w a zs) (hl : zs.length = n) (hw : Within 4294967296 zs) (hn : 4 * n ≤ 281474976710656) (h : ∀ i, i < 4 * n → nth (joinL zs) i ≠ 0) :
    Calls Try.prog 90 #[.slice a n cap] w fun e w' => e = .returned (.tuple #[.string ⟨#[]⟩, .int .i64 0, .int .i64 11]) ∧ w = w' := by
  have hT := textEnd_none a n cap zs w ha hl hw hn h
  clear ha hl hw h
  go_enter Try.func90, Try.ntmps90
  go_wp2_with fail
  refine hT.mono ?_
  rintro e w' ⟨rfl, rfl⟩
  go_wp2
  go_ret3
  exact ⟨rfl, rfl⟩

set_option maxHeartbeats 1000000 in
theorem text_pad (a : Option Addr) (n cap : Nat) (zs : List Int) (w : World) (L P : Nat) (ha : View .u32 w a zs) (hl : zs.length = n) (hw : Within 4294967296 zs) (hn : 4 * n ≤ 281474976710656)
    (hL : L < n) (hP : P < 4) (h : ∀ i, i < 4 * L + P → nth (joinL zs) i ≠ 0) (h0 : nth (joinL zs) (4 * L + P) = 0) (hpad : nth zs L / 256 ^ P ≠ 0) :
    Calls Try.prog 90 #[.slice a n cap] w fun e w' => e = .returned (.tuple #[.string ⟨#[]⟩, .int .i64 0, .int .i64 12]) ∧ w = w' := by
  have hT := textEnd_at a n cap zs w L P ha hl hw hn hL hP h h0
  obtain ⟨b, off, rfl, _, hc⟩ := ha L (by omega)
  have hx := hw.at (k := L) (by omega)
  clear ha hl hw h h0
  generalize nth zs L = x at hc hx hpad
  have hx0 := hx.1
  have hx1 := hx.2
  have hLi : (L : Int) < (n : Int) := by omega
  rcases (show P = 0 ∨ P = 1 ∨ P = 2 ∨ P = 3 by omega) with rfl | rfl | rfl | rfl
  · have hne : (x == 0) = false := by simpa using hpad
    clear hx hpad
    go_enter Try.func90, Try.ntmps90
    go_wp2_with fail
    refine hT.mono ?_
    rintro e w' ⟨rfl, rfl⟩
    go_wp2
    go_ret3
    exact ⟨rfl, rfl⟩
  · have hne : (x / 256 == 0) = false := by simpa using hpad
    clear hx hpad
    go_enter Try.func90, Try.ntmps90
    go_wp2_with fail
    refine hT.mono ?_
    rintro e w' ⟨rfl, rfl⟩
    go_wp2
    go_ret3
    exact ⟨rfl, rfl⟩
  · have hne : (x / 65536 == 0) = false := by simpa using hpad
    clear hx hpad
    go_enter Try.func90, Try.ntmps90
    go_wp2_with fail
    refine hT.mono ?_
    rintro e w' ⟨rfl, rfl⟩
    go_wp2
    go_ret3
    exact ⟨rfl, rfl⟩
  · have hne : (x / 16777216 == 0) = false := by simpa using hpad
    clear hx hpad
    go_enter Try.func90, Try.ntmps90
    go_wp2_with fail
    refine hT.mono ?_
    rintro e w' ⟨rfl, rfl⟩
    go_wp2
    go_ret3
    exact ⟨rfl, rfl⟩

set_option maxHeartbeats 1000000 in
theorem text_ok (a : Option Addr) (n cap : Nat) (zs : List Int) (w : World) (L P : Nat) (ha : View .u32 w a zs) (hl : zs.length = n) (hw : Within 4294967296 zs) (hn : 4 * n ≤ 281474976710656) (hLb : 4 * (L + 1) ≤ 140737488351232) (hcap : n ≤ cap)
    (hL : L < n) (hP : P < 4) (h : ∀ i, i < 4 * L + P → nth (joinL zs) i ≠ 0) (h0 : nth (joinL zs) (4 * L + P) = 0) (hpad : nth zs L / 256 ^ P = 0) :
    Calls Try.prog 90 #[.slice a n cap] w fun e w' => e = .returned (.tuple #[.string (strOfNums ((joinL zs).take (4 * L + P))), .int .i64 ((L : Int) + 1), .int .i64 0]) ∧ Below w.heap.size w w' := by
  have hT := textEnd_at a n cap zs w L P ha hl hw hn hL hP h h0
  have hJ := join_any a (L + 1) cap (zs.take (L + 1)) w (ha.take _) (by rw [List.length_take]; omega) hLb (within_of_take hw)
  obtain ⟨b, off, rfl, _, hc⟩ := ha L (by omega)
  have hx := hw.at (k := L) (by omega)
  have e1 : joinL (zs.take (L + 1)) = (joinL zs).take (4 * (L + 1)) := joinL_take zs (L + 1)
  have hlen : (joinL zs).length = 4 * n := by rw [joinL_len, hl]
  rw [e1] at hJ
  clear ha hl hw h h0 e1
  generalize nth zs L = x at hc hx hpad
  generalize joinL zs = js at *
  have hx0 := hx.1
  have hx1 := hx.2
  have hLi : (L : Int) < (n : Int) := by omega
  have HJL : Hid (js.length = 4 * n) := hlen
  have HC : Hid (∀ (w' : World), w'.ownsRow w.heap.size 5 1 (.slice (some ⟨w.heap.size, 0, none⟩) (4 * (L + 1)) (4 * (L + 1))) (4 * (L + 1)) ((js.take (4 * (L + 1))).map (Value.int .u8)) →
      (convert 42 9 (.slice (some ⟨w.heap.size, 0, none⟩) (4 * L + P) (4 * (L + 1)))).run Try.prog w' = .ok (.string (strOfNums (js.take (4 * L + P)))) w') := fun w' hown => by
    refine run_convert_bytes_arg w' _ _ Try.underlying42 Try.underlying5 w.heap.size 0 (4 * L + P) (4 * (L + 1)) (js.take (4 * L + P)) (by rw [List.length_take, HJL.out]; omega) (fun i hi => ?_) _ Try.underlying9
    obtain ⟨b', off', e, _, hcell⟩ := View.ofRow hown (by rw [List.length_take, HJL.out]; omega) i (by rw [List.length_take, HJL.out]; omega)
    simp at e
    obtain ⟨rfl, rfl⟩ := e
    rw [hcell, nth_take _ _ _ (by omega)]
    have := nth_take js i (4 * L + P) hi
    rw [← this]; rfl
  clear hlen
  rcases (show P = 0 ∨ P = 1 ∨ P = 2 ∨ P = 3 by omega) with rfl | rfl | rfl | rfl
  · have hne : x = 0 := by simpa using hpad
    have hne' : (x == 0) = true := by simpa using hne
    clear hx hpad hne
    go_enter Try.func90, Try.ntmps90
    go_wp2_with fail
    refine hT.mono ?_
    rintro e w' ⟨rfl, rfl⟩
    go_wp2_with fail
    refine hJ.mono ?_
    rintro e w1 ⟨rfl, hown, hb⟩
    have hcv := HC.out w1 hown
    rw [Nat.add_zero] at hcv
    rw [Nat.add_zero]
    clear hown HC hT hJ
    go_wp2
    go_ret3
    exact ⟨rfl, hb⟩
  · have hne : x / 256 = 0 := by simpa using hpad
    have hne' : (x / 256 == 0) = true := by simpa using hne
    clear hx hpad hne
    go_enter Try.func90, Try.ntmps90
    go_wp2_with fail
    refine hT.mono ?_
    rintro e w' ⟨rfl, rfl⟩
    go_wp2_with fail
    refine hJ.mono ?_
    rintro e w1 ⟨rfl, hown, hb⟩
    have hcv := HC.out w1 hown
    clear hown HC hT hJ
    go_wp2
    go_ret3
    exact ⟨rfl, hb⟩
  · have hne : x / 65536 = 0 := by simpa using hpad
    have hne' : (x / 65536 == 0) = true := by simpa using hne
    clear hx hpad hne
    go_enter Try.func90, Try.ntmps90
    go_wp2_with fail
    refine hT.mono ?_
    rintro e w' ⟨rfl, rfl⟩
    go_wp2_with fail
    refine hJ.mono ?_
    rintro e w1 ⟨rfl, hown, hb⟩
    have hcv := HC.out w1 hown
    clear hown HC hT hJ
    go_wp2
    go_ret3
    exact ⟨rfl, hb⟩
  · have hne : x / 16777216 = 0 := by simpa using hpad
    have hne' : (x / 16777216 == 0) = true := by simpa using hne
    clear hx hpad hne
    go_enter Try.func90, Try.ntmps90
    go_wp2_with fail
    refine hT.mono ?_
    rintro e w' ⟨rfl, rfl⟩
    go_wp2_with fail
    refine hJ.mono ?_
    rintro e w1 ⟨rfl, hown, hb⟩
    have hcv := HC.out w1 hown
    clear hown HC hT hJ
    go_wp2
    go_ret3
    exact ⟨rfl, hb⟩

end Go.Proofs.Ytpggcpnjcalfaaa
