/-
  Texts laid together in one: LexStep, LexQuoted, StringsClone.
-/
import Derived.WalkSpells
import Derived.BigRegion
import Derived.Test.YtddkapkkjhomkabGreatDoorProg
import Derived.Test.YtddkapkkjhomkabGreatDoorB10
import Derived.Test.YtddkapkkjhomkabGreatDoorB14
import Derived.WalkMore
import Derived.Test.YtddkapkkjhomkabGreatDoorB17
import Derived.Shelf.LaysM
import Derived.Shelf.Strconv.Clone
/-
  What look and step of the scanner of the layer lex do: its block holds the line, the place, the byte that is next and its kind; no other block turns.
-/
namespace Go.Proofs.YtddkapkkjhomkabGreatDoor
open Go.RowKit
set_option maxRecDepth 10000
set_option linter.unusedVariables false
set_option linter.unusedSimpArgs false

/-- The kind of what is next: 0 at the end. -/
def kAt (l : List Int) (p : Nat) : Int := if p < l.length then kindL (nth l p) else 0
def scnC (s : ByteArray) (p : Nat) (x y : Value) : Obj := .cells #[.string s, .int .i64 p, x, y] 80 (0, 0)
/-- A scanner of a line that stands at a place. -/
def Scn (b : Nat) (s : ByteArray) (p : Nat) (w : World) : Prop := w.heap[b]? = some (scnC s p (.int .u8 (nth (strI s) p)) (.int .u8 (kAt (strI s) p)))

theorem grown_trans {w w1 w2 : World} {r : Option Nat} (h : w.grownBy w1 r) (k : w1.grownBy w2 r) : w.grownBy w2 r :=
  ⟨k.os.trans h.os, k.tape.trans h.tape, k.output.trans h.output, Nat.le_trans h.size k.size, fun i hi hr => (k.block i (Nat.lt_of_lt_of_le hi h.size) hr).trans (h.block i hi hr)⟩
theorem grown_refl (w : World) (r : Option Nat) : w.grownBy w r := ⟨rfl, rfl, rfl, Nat.le_refl _, fun _ _ _ => rfl⟩
theorem grown_belowX {w w1 w2 : World} {r : Option Nat} {B : Nat} (h : w.grownBy w1 r) (k : Below B w1 w2) (hB : w.heap.size ≤ B) : w.grownBy w2 r :=
  ⟨k.os.trans h.os, k.tape.trans h.tape, k.output.trans h.output, Nat.le_trans h.size k.size, fun i hi hr => (k.block i (Nat.lt_of_lt_of_le hi hB)).trans (h.block i hi hr)⟩
theorem grown_setCellX {w w1 : World} {b : Nat} (h : w.grownBy w1 (some b)) (i : Nat) (u : Value) : w.grownBy (w1.setCell ⟨b, i, none⟩ u) (some b) :=
  ⟨h.os, h.tape, h.output, by simpa [World.setCell] using h.size, fun k hk hr => (Below.heap_setCell _ _ _ _ (fun e => hr (by rw [e]))).trans (h.block k hk hr)⟩
theorem grown_drew1 {w w1 : World} {r : Option Nat} (h : w.grownBy w1 r) : w.grownBy w1.drew r := ⟨h.os, h.tape, h.output, h.size, h.block⟩

theorem scn_cells {w : World} {b p : Nat} {s : ByteArray} {x y : Value} (h : w.heap[b]? = some (scnC s p x y)) : w.cell? ⟨b, 0, none⟩ = some (.string s) ∧ w.cell? ⟨b, 1, none⟩ = some (.int .i64 p) ∧ w.cell? ⟨b, 2, none⟩ = some x ∧ w.cell? ⟨b, 3, none⟩ = some y ∧ ∀ i, w.frozen? ⟨b, i, none⟩ = false := by
  refine ⟨?_, ?_, ?_, ?_, fun i => ?_⟩ <;> simp [World.cell?, World.frozen?, h, scnC]

theorem scn_set2 {w : World} {b p : Nat} {s : ByteArray} {x y : Value} (h : w.heap[b]? = some (scnC s p x y)) (u : Value) : (w.setCell ⟨b, 2, none⟩ u).heap[b]? = some (scnC s p u y) := by
  simp [World.setCell, Array.getElem?_modify, h, scnC]
theorem scn_set3 {w : World} {b p : Nat} {s : ByteArray} {x y : Value} (h : w.heap[b]? = some (scnC s p x y)) (u : Value) : (w.setCell ⟨b, 3, none⟩ u).heap[b]? = some (scnC s p x u) := by
  simp [World.setCell, Array.getElem?_modify, h, scnC]
theorem scn_set1 {w : World} {b p : Nat} {s : ByteArray} {x y : Value} (h : w.heap[b]? = some (scnC s p x y)) (q : Nat) : (w.setCell ⟨b, 1, none⟩ (.int .i64 q)).heap[b]? = some (scnC s q x y) := by
  simp [World.setCell, Array.getElem?_modify, h, scnC]
theorem scn_drew {w : World} {b : Nat} {o : Option Obj} (h : w.heap[b]? = o) : w.drew.heap[b]? = o := h

set_option maxHeartbeats 2000000 in
theorem look_any (b p : Nat) (s : ByteArray) (x y : Value) (w : World) (h : w.heap[b]? = some (scnC s p x y)) (hp : p ≤ 140737488351300) (hs : s.size ≤ 140737488351232) :
    Calls Tryz.prog 33 #[.pointer (some ⟨b, 0, none⟩)] w fun e w' => e = .returned (.tuple #[]) ∧ Scn b s p w' ∧ w.grownBy w' (some b) := by
  obtain ⟨c0, c1, c2, c3, cf⟩ := scn_cells h
  by_cases hlt : p < s.size
  · have hc0 : (0 : Int) ≤ (s[p].toNat : Int) := by omega
    have hc1 : (s[p].toNat : Int) < 256 := by have := s[p].toNat_lt; omega
    have hK := fun wx => lexKindOf_any (s[p].toNat : Int) wx hc0 hc1
    have hn := nth_strI s p hlt
    have hk : kAt (strI s) p = kindL (s[p].toNat : Int) := by rw [kAt, if_pos (by rw [strI_len]; exact hlt), hn]
    have HF : Hid (∀ w' : World, w.grownBy w' (some b) → w'.heap[b]? = some (scnC s p (.int .u8 (s[p].toNat : Int)) (.int .u8 (kindL (s[p].toNat : Int)))) → Scn b s p w' ∧ w.grownBy w' (some b)) := fun w' hg hh => ⟨by unfold Scn; rw [hn, hk]; exact hh, hg⟩
    have HS : Hid (w.heap[b]? = some (scnC s p x y)) := h
    have hpi : (p : Int) < (s.size : Int) := by omega
    have f2 := cf 2
    have f3 := cf 3
    clear h hn hk cf
    generalize kindL (s[p].toNat : Int) = kd at *
    go_enter Tryz.func33, Tryz.ntmps33
    go_wp2
    go_region
    go_wp2
    go_region
    all_goals
      go_wp2_with fail
      refine (hK _).mono ?_
      rintro e w' ⟨rfl, rfl⟩
      go_wp2_with fail
      go_end0
      refine ⟨rfl, HF.out _ ?_ ?_⟩
      · exact grown_setCellX (grown_drew1 (grown_setCellX (grown_drew1 (grown_setCellX (grown_setCellX (grown_refl w _) 2 _) 3 _)) 2 _)) 3 _
      · exact scn_set3 (scn_drew (scn_set2 (scn_drew (scn_set3 (scn_set2 HS.out _) _)) _)) _
  · have hn : nth (strI s) p = 0 := nth_over _ _ (by rw [strI_len]; omega)
    have hk : kAt (strI s) p = 0 := by rw [kAt, if_neg (by rw [strI_len]; exact hlt)]
    have HF : Hid (∀ w' : World, w.grownBy w' (some b) → w'.heap[b]? = some (scnC s p (.int .u8 0) (.int .u8 0)) → Scn b s p w' ∧ w.grownBy w' (some b)) := fun w' hg hh => ⟨by unfold Scn; rw [hn, hk]; exact hh, hg⟩
    have HS : Hid (w.heap[b]? = some (scnC s p x y)) := h
    have hpi : ¬ (p : Int) < (s.size : Int) := by omega
    have f2 := cf 2
    have f3 := cf 3
    clear h hn hk cf
    go_enter Tryz.func33, Tryz.ntmps33
    go_wp2
    go_region
    go_wp2
    go_end0
    refine ⟨rfl, HF.out _ ?_ ?_⟩
    · exact grown_drew1 (grown_setCellX (grown_setCellX (grown_refl w _) 2 _) 3 _)
    · exact scn_drew (scn_set3 (scn_set2 HS.out _) _)

theorem step_any (b p : Nat) (s : ByteArray) (w : World) (h : Scn b s p w) (hp : p ≤ 140737488351240) (hs : s.size ≤ 140737488351232) :
    Calls Tryz.prog 58 #[.pointer (some ⟨b, 0, none⟩)] w fun e w' => e = .returned (.tuple #[]) ∧ Scn b s (p + 1) w' ∧ w.grownBy w' (some b) := by
  obtain ⟨c0, c1, c2, c3, cf⟩ := scn_cells h
  have hL := look_any b (p + 1) s _ _ _ (scn_set1 h (p + 1)) (by omega) hs
  have hg := grown_setCellX (grown_refl w (some b)) 1 (.int .i64 ((p + 1 : Nat) : Int))
  have f1 := cf 1
  rw [show ((p + 1 : Nat) : Int) = (p : Int) + 1 by omega] at hL hg
  clear h cf
  go_enter Tryz.func58, Tryz.ntmps58
  go_wp2_with fail
  refine hL.mono ?_
  rintro e w' ⟨rfl, h1, h2⟩
  go_wp2_with fail
  go_end0
  exact ⟨rfl, h1, grown_trans hg h2⟩

end Go.Proofs.YtddkapkkjhomkabGreatDoor

/-
  What quoted of the scanner of the layer lex returns, for every line and place: the text that the quotes stand for, and the scanner behind them; or that there is none. No other block that was there turns.
-/
namespace Go.Proofs.YtddkapkkjhomkabGreatDoor
open Go.RowKit
set_option maxRecDepth 10000
set_option linter.unusedVariables false
set_option linter.unusedSimpArgs false
attribute [local go_sem] jumps_normal jumps_exit jumps_ret jumps_panic jumps_goto

theorem kind_quote (c : Int) : (kindL c == 7) = decide (c = 34) := by
  by_cases h : c = 34
  · subst h; rfl
  · rw [decide_eq_false h]
    unfold kindL
    repeat' split
    all_goals first | rfl | contradiction
theorem kind_slash (c : Int) : (kindL c == 8) = decide (c = 92) := by
  by_cases h : c = 92
  · subst h; rfl
  · rw [decide_eq_false h]
    unfold kindL
    repeat' split
    all_goals first | rfl | contradiction
theorem kAt_quote (l : List Int) (p : Nat) : (kAt l p == 7) = decide (nth l p = 34) := by
  unfold kAt; split
  · exact kind_quote _
  · rw [nth_over l p (by omega)]; rfl
theorem kAt_slash (l : List Int) (p : Nat) : (kAt l p == 8) = decide (nth l p = 92) := by
  unfold kAt; split
  · exact kind_slash _
  · rw [nth_over l p (by omega)]; rfl
theorem nth_lo {l : List Int} (h : Within 256 l) (p : Nat) : 0 ≤ nth l p ∧ nth l p < 256 := by
  rcases Nat.lt_or_ge p l.length with h' | h'
  · exact h.at h'
  · rw [nth_over l p h']; omega

/-- More bytes ahead. -/
def preQ (zs : List Int) (o : Option (List Int × Nat)) : Option (List Int × Nat) := o.map fun r => (zs ++ r.1, r.2)
theorem preQ_nil (o : Option (List Int × Nat)) : preQ [] o = o := by cases o <;> rfl
theorem preQ_cons (zs : List Int) (c : Int) (o : Option (List Int × Nat)) : preQ zs (o.map fun r => (c :: r.1, r.2)) = preQ (zs ++ [c]) o := by cases o <;> simp [preQ]
/-- What quoted answers. -/
def quotS (o : Option (List Int × Nat)) : ByteArray := match o with
  | some r => strOfNums r.1
  | none => ⟨#[]⟩
def posOf (b : Nat) (w : World) : Nat := match w.cell? ⟨b, 1, none⟩ with
  | some (.int _ n) => n.toNat
  | _ => 0
theorem pos_scn {b p : Nat} {s : ByteArray} {w : World} (h : Scn b s p w) : posOf b w = p := by
  have := (scn_cells h).2.1
  unfold posOf; rw [this]; simp
theorem part_plain {l : List Int} {p : Nat} (h1 : nth l p ≠ 92) (h2 : printB (nth l p) = true) : partP l p = some (nth l p, 1) := by unfold partP; rw [if_neg h1, if_pos h2]
theorem part_none {l : List Int} {p : Nat} (h1 : nth l p ≠ 92) (h2 : printB (nth l p) = false) : partP l p = none := by unfold partP; rw [if_neg h1, if_neg (by simp [h2])]
theorem part_esc {l : List Int} {p : Nat} (h0 : nth l p = 92) (h1 : nth l (p + 1) = 34 ∨ nth l (p + 1) = 92) : partP l p = some (nth l (p + 1), 2) := by unfold partP; rw [if_pos h0, if_pos h1]
theorem part_bad {l : List Int} {p : Nat} (h0 : nth l p = 92) (h1 : ¬ (nth l (p + 1) = 34 ∨ nth l (p + 1) = 92)) (h2 : ¬ (nth l (p + 1) = 120 ∧ hexB (nth l (p + 2)) = true ∧ hexB (nth l (p + 3)) = true)) : partP l p = none := by unfold partP; rw [if_pos h0, if_neg h1, if_neg h2]
theorem part_hex {l : List Int} {p : Nat} (h0 : nth l p = 92) (h1 : nth l (p + 1) = 120) (h2 : hexB (nth l (p + 2)) = true) (h3 : hexB (nth l (p + 3)) = true) : partP l p = some (16 * dvI (nth l (p + 2)) + dvI (nth l (p + 3)), 4) := by
  unfold partP; rw [if_pos h0, if_neg (by rw [h1]; omega), if_pos ⟨h1, h2, h3⟩]
theorem or_u8 {a d : Int} (h0 : 0 ≤ a) (h1 : a < 16) (h2 : 0 ≤ d) (h3 : d < 16) : bits .or .u8 (a * 16) d = a * 16 + d := by
  obtain ⟨n, rfl⟩ := Int.eq_ofNat_of_zero_le h0
  obtain ⟨m, rfl⟩ := Int.eq_ofNat_of_zero_le h2
  have key : ∀ n m : Fin 16, bits .or .u8 (((n.val : Nat) : Int) * 16) ((m.val : Nat) : Int) = ((n.val : Nat) : Int) * 16 + ((m.val : Nat) : Int) := by decide +kernel
  exact key ⟨n, by omega⟩ ⟨m, by omega⟩

/-- What holds between. -/
def QuoI (b : Nat) (s : ByteArray) (w : World) (p : Nat) (zs : List Int) (w' : World) : Prop :=
  p < s.size ∧ Scn b s p w' ∧ Bld w.heap.size w.heap.size zs w' ∧ w.grownBy w' (some b) ∧ Within 256 zs ∧ zs.length ≤ p
def QuoJ (b : Nat) (s : ByteArray) (w : World) (R : Option (List Int × Nat)) : Nat → Act → World → Prop
  | 0, a', w' => ∃ (p : Nat) (zs : List Int) (u1 u2 u3 u5 u6 u7 u8 u9 u10 u11 u12 u13 u14 u15 u16 u17 u18 u19 u20 u21 u22 u23 u24 u25 u26 u27 u28 u29 u30 u31 u32 u33 u34 u35 u36 u37 u38 u39 u40 u41 u42 u43 u44 u45 u46 u47 u48 u49 u50 u51 u52 u53 u54 u55 u56 u57 u58 u59 u60 u61 u62 u63 u64 u65 u66 u67 u68 u69 u70 u71 u72 : Value), a' = { tmps := #[.pointer (some ⟨b, 0, none⟩), u1, u2, u3, .pointer (some ⟨w.heap.size, 0, none⟩), u5, u6, u7, u8, u9, u10, u11, u12, u13, u14, u15, u16, u17, u18, u19, u20, u21, u22, u23, u24, u25, u26, u27, u28, u29, u30, u31, u32, u33, u34, u35, u36, u37, u38, u39, u40, u41, u42, u43, u44, u45, u46, u47, u48, u49, u50, u51, u52, u53, u54, u55, u56, u57, u58, u59, u60, u61, u62, u63, u64, u65, u66, u67, u68, u69, u70, u71, u72], defers := [] } ∧ QuoI b s w p zs w' ∧ R = preQ zs (quotP (strI s) (p + 1))
  | 1, a', w' => ∃ (p : Nat) (zs : List Int) (u1 u2 u3 u5 u6 u7 u8 u9 u10 u11 u12 u13 u14 u15 u16 u17 u18 u19 u20 u21 u22 u23 u24 u25 u26 u27 u28 u29 u30 u31 u32 u33 u34 u35 u36 u37 u38 u39 u40 u41 u42 u43 u44 u45 u46 u47 u48 u49 u50 u51 u52 u53 u54 u55 u56 u57 u58 u59 u60 u61 u62 u63 u64 u65 u66 u67 u68 u69 u70 u71 u72 : Value), a' = { tmps := #[.pointer (some ⟨b, 0, none⟩), u1, u2, u3, .pointer (some ⟨w.heap.size, 0, none⟩), u5, u6, u7, u8, u9, u10, u11, u12, u13, u14, u15, u16, u17, u18, u19, u20, u21, u22, u23, u24, u25, u26, u27, u28, u29, u30, u31, u32, u33, u34, u35, u36, u37, u38, u39, u40, u41, u42, u43, u44, u45, u46, u47, u48, u49, u50, u51, u52, u53, u54, u55, u56, u57, u58, u59, u60, u61, u62, u63, u64, u65, u66, u67, u68, u69, u70, u71, u72], defers := [] } ∧ QuoI b s w p zs w' ∧ R = preQ zs (quotP (strI s) p) ∧ nth (strI s) p = 92
  | 2, a', w' => ∃ (p : Nat) (zs : List Int) (c : Int) (u1 u2 u3 u6 u7 u8 u9 u10 u11 u12 u13 u14 u15 u16 u17 u18 u19 u20 u21 u22 u23 u24 u25 u26 u27 u28 u29 u30 u31 u32 u33 u34 u35 u36 u37 u38 u39 u40 u41 u42 u43 u44 u45 u46 u47 u48 u49 u50 u51 u52 u53 u54 u55 u56 u57 u58 u59 u60 u61 u62 u63 u64 u65 u66 u67 u68 u69 u70 u71 u72 : Value), a' = { tmps := #[.pointer (some ⟨b, 0, none⟩), u1, u2, u3, .pointer (some ⟨w.heap.size, 0, none⟩), .int .u8 c, u6, u7, u8, u9, u10, u11, u12, u13, u14, u15, u16, u17, u18, u19, u20, u21, u22, u23, u24, u25, u26, u27, u28, u29, u30, u31, u32, u33, u34, u35, u36, u37, u38, u39, u40, u41, u42, u43, u44, u45, u46, u47, u48, u49, u50, u51, u52, u53, u54, u55, u56, u57, u58, u59, u60, u61, u62, u63, u64, u65, u66, u67, u68, u69, u70, u71, u72], defers := [] } ∧ QuoI b s w p zs w' ∧ R = preQ (zs ++ [c]) (quotP (strI s) (p + 1)) ∧ 0 ≤ c ∧ c < 256 ∧ zs.length + 1 ≤ p
  | _, _, _ => False
def QuoM (b : Nat) (s : ByteArray) (l : Nat) (_ : Act) (w' : World) : Nat := 3 * (s.size - posOf b w') + (if l = 2 then 1 else 0)

/-- A step of the scanner. -/
theorem quo_step {b p : Nat} {s : ByteArray} {w w1 w2 : World} {zs : List Int} (hb : b < w.heap.size) (h : QuoI b s w p zs w1) (h1 : Scn b s (p + 1) w2) (hg : w1.grownBy w2 (some b)) : Bld w.heap.size w.heap.size zs w2 ∧ w.grownBy w2 (some b) := by
  obtain ⟨_, hS, hB, hG, _, _⟩ := h
  refine ⟨bld_kept hB hg (by simp; omega) (fun r e c fz => ?_), grown_trans hG hg⟩
  cases e
  rw [hS]; simp [scnC]

theorem nth_ltX {l : List Int} {p : Nat} (h : nth l p ≠ 0) : p < l.length := by
  rcases Nat.lt_or_ge p l.length with h' | h'
  · exact h'
  · exact absurd (nth_over l p h') h
def hexTo (l : List Int) (q : Nat) : Nat → Int
  | 0 => 0
  | k + 1 => hexTo l q k * 16 + dvI (nth l (q + k))
theorem quo_next {b p : Nat} {s : ByteArray} {w w2 : World} {zs : List Int} (h1 : Scn b s (p + 1) w2) (hB : Bld w.heap.size w.heap.size zs w2) (hG : w.grownBy w2 (some b)) (hW : Within 256 zs) (hl : zs.length ≤ p) (hne : nth (strI s) (p + 1) ≠ 0) : QuoI b s w (p + 1) zs w2 :=
  ⟨by have := nth_ltX hne; rw [strI_len] at this; exact this, h1, hB, hG, hW, by omega⟩
theorem quoM_lt {b p q : Nat} {s : ByteArray} {a a' : Act} {w1 w2 : World} {l l' N : Nat} (h : QuoM b s l a w1 ≤ N) (h1 : Scn b s p w1) (h2 : Scn b s q w2) (hq : q ≤ s.size) (hlt : 3 * (s.size - q) + (if l' = 2 then 1 else 0) < 3 * (s.size - p) + (if l = 2 then 1 else 0)) : QuoM b s l' a' w2 < N := by
  unfold QuoM at *
  rw [pos_scn h1] at h
  rw [pos_scn h2]; omega

set_option maxHeartbeats 4000000 in
theorem quoted_any (b p0 : Nat) (s : ByteArray) (w : World) (h : Scn b s p0 w) (hp : p0 < s.size) (hs : s.size ≤ 140737488351232) :
    Calls Tryz.prog 59 #[.pointer (some ⟨b, 0, none⟩)] w fun e w' => e = .returned (.tuple #[.string (quotS (quotP (strI s) (p0 + 1))), .bool (quotP (strI s) (p0 + 1)).isSome]) ∧ w.grownBy w' (some b) ∧ ∀ bs q, quotP (strI s) (p0 + 1) = some (bs, q) → Scn b s q w' := by
  have hblt : b < w.heap.size := (Array.getElem?_eq_some_iff.1 h).1
  obtain ⟨R, hR⟩ : ∃ R, R = quotP (strI s) (p0 + 1) := ⟨_, rfl⟩
  rw [← hR]
  have HR : Hid (R = quotP (strI s) (p0 + 1)) := hR
  have HW : Hid (Within 256 (strI s)) := strI_within s
  have HI : Hid (QuoI b s w p0 [] (w.alloc (.cells #[.pointer none, .slice none 0 0] 120))) := by
    refine ⟨hp, ?_, bld_new w _ (Nat.le_refl _), World.grownBy_alloc _ _ _, fun z hz => by simp at hz, Nat.zero_le _⟩
    show (w.alloc _).heap[b]? = _
    rw [Below.heap_alloc _ _ _ hblt]; exact h
  have HLen : Hid ((strI s).length = s.size) := strI_len s
  clear h hR hp
  go_enter Tryz.func59, Tryz.ntmps59
  go_wp2_with fail
  refine wp_scope_ranked (QuoJ b s w R) (QuoM b s) (fun l => if l = 2 then 0 else 1) ?hf ?pass ?first
  case hf =>
    intro l a w1 hJ
    match l, hJ with
    | 0, _ => rfl
    | 1, _ => rfl
    | 2, _ => rfl
  case first =>
    intro hP
    go_wp2_with fail
    refine wp_label ?_
    rename_i K hK
    refine hK _ _ (hP 0 _ _ ⟨p0, [], _, _, _, _, _, _, _, _, _, _, _, _, _, _, _, _, _, _, _, _, _, _, _, _, _, _, _, _, _, _, _, _, _, _, _, _, _, _, _, _, _, _, _, _, _, _, _, _, _, _, _, _, _, _, _, _, _, _, _, _, _, _, _, _, _, _, _, _, _, _, _, rfl, HI.out, ?_⟩)
    rw [preQ_nil]; exact HR.out
  case pass =>
    intro l hprev N a w1 hJ hN
    match l, hJ with
    | 2, ⟨p, zs, c, u1, u2, u3, u6, u7, u8, u9, u10, u11, u12, u13, u14, u15, u16, u17, u18, u19, u20, u21, u22, u23, u24, u25, u26, u27, u28, u29, u30, u31, u32, u33, u34, u35, u36, u37, u38, u39, u40, u41, u42, u43, u44, u45, u46, u47, u48, u49, u50, u51, u52, u53, u54, u55, u56, u57, u58, u59, u60, u61, u62, u63, u64, u65, u66, u67, u68, u69, u70, u71, u72, ha, hI, hR, hc0, hc1, hzp⟩ =>
      subst ha
      conv => arg 2; whnf
      obtain ⟨hp, hS, hB, hG, hW, hl⟩ := hI
      have hW1 := writeByte_any w.heap.size w.heap.size zs c w1 hB (by omega) hG.size
      go_wp2_with fail
      refine hW1.mono ?_
      rintro e w2 ⟨rfl, hB2, hb2, _⟩
      have hS2 : Scn b s p w2 := (hb2.block _ hblt).trans hS
      clear hW1 hB
      go_wp2_with fail
      go_step3
      refine ⟨⟨p, zs ++ [c], _, _, _, _, _, _, _, _, _, _, _, _, _, _, _, _, _, _, _, _, _, _, _, _, _, _, _, _, _, _, _, _, _, _, _, _, _, _, _, _, _, _, _, _, _, _, _, _, _, _, _, _, _, _, _, _, _, _, _, _, _, _, _, _, _, _, _, _, _, _, _, rfl, ⟨hp, hS2, hB2, grown_belowX hG hb2 (Nat.le_refl _), within_appX hW (within_one hc0 hc1), by simp; omega⟩, hR⟩, ?_⟩
      exact quoM_lt hN hS hS2 (by omega) (by simp)
    | 0, ⟨p, zs, u1, u2, u3, u5, u6, u7, u8, u9, u10, u11, u12, u13, u14, u15, u16, u17, u18, u19, u20, u21, u22, u23, u24, u25, u26, u27, u28, u29, u30, u31, u32, u33, u34, u35, u36, u37, u38, u39, u40, u41, u42, u43, u44, u45, u46, u47, u48, u49, u50, u51, u52, u53, u54, u55, u56, u57, u58, u59, u60, u61, u62, u63, u64, u65, u66, u67, u68, u69, u70, u71, u72, ha, hI, hR⟩ =>
      subst ha
      conv => arg 2; whnf
      have hS := hI.2.1
      have hpl := hI.1
      have hW := hI.2.2.2.2.1
      have hl := hI.2.2.2.2.2
      have hST := step_any b p s w1 hS (by omega) hs
      go_wp2_with fail
      refine hST.mono ?_
      rintro e w2 ⟨rfl, hS2, hg2⟩
      obtain ⟨hB2, hG2⟩ := quo_step hblt hI hS2 hg2
      obtain ⟨_, _, x2, x3, _⟩ := scn_cells hS2
      have k7 := kAt_quote (strI s) (p + 1)
      have k8 := kAt_slash (strI s) (p + 1)
      have HNX : Hid (nth (strI s) (p + 1) ≠ 0 → QuoI b s w (p + 1) zs w2) := quo_next hS2 hB2 hG2 hW hl
      have HM : Hid (∀ (l' : Nat) (a' : Act), QuoM b s l' a' w2 < N ∨ p + 1 > s.size) := fun l' a' => by
        by_cases h : p + 1 ≤ s.size
        · exact .inl (quoM_lt hN hS hS2 h (by split <;> simp <;> omega))
        · exact .inr (by omega)
      have HR : Hid (R = preQ zs (quotP (strI s) (p + 1))) := hR
      have HCL : Hid (∀ w' : World, w2.grownBy w' (some b) → w.grownBy w' (some b)) := fun w' h => grown_trans hG2 h
      have hcb := nth_lo HW.out (p + 1)
      have HLT : Hid (nth (strI s) (p + 1) ≠ 0 → p + 1 < s.size) := fun h => by have := nth_ltX h; rw [strI_len] at this; exact this
      have HQ1 : Hid (nth (strI s) (p + 1) = 34 → R = some (zs, p + 1 + 1)) := fun h => by rw [HR.out, quotP_close h]; simp [preQ]
      have HQ2 : Hid (nth (strI s) (p + 1) ≠ 34 → nth (strI s) (p + 1) ≠ 92 → printB (nth (strI s) (p + 1)) = false → R = none) := fun h h1 h2 => by rw [HR.out, quotP_none h (part_none h1 h2)]; rfl
      have HQ3 : Hid (nth (strI s) (p + 1) ≠ 34 → nth (strI s) (p + 1) ≠ 92 → printB (nth (strI s) (p + 1)) = true → R = preQ (zs ++ [nth (strI s) (p + 1)]) (quotP (strI s) (p + 1 + 1))) := fun h h1 h2 => by rw [HR.out, quotP_some h (part_plain h1 h2), preQ_cons]
      have HP2 := hprev 2 (by decide) N
      have HR1 : Hid (nth (strI s) (p + 1) = 92 → R = preQ zs (quotP (strI s) (p + 1)) ∧ nth (strI s) (p + 1) = 92) := fun h => ⟨HR.out, h⟩
      clear hST hR hN hg2 hI
      by_cases c34 : nth (strI s) (p + 1) = 34
      · have HRv : Hid (R = some (zs, p + 1 + 1)) := HQ1.out c34
        rw [decide_eq_true c34] at k7
        have hlt := HLT.out (by omega)
        have hI2 := HNX.out (by omega)
        have hST := step_any b (p + 1) s w2 hS2 (by omega) hs
        clear HP2 hprev
        generalize nth (strI s) (p + 1) = c at *
        generalize kAt (strI s) (p + 1) = kd at *
        go_wp2_with fail
        refine hST.mono ?_
        rintro e w3 ⟨rfl, hS3, hg3⟩
        obtain ⟨hB3, hG3⟩ := quo_step hblt hI2 hS3 hg3
        have hW3 := buildString_any w.heap.size w.heap.size zs w3 hB3 hW hG3.size
        clear hB3 hST x2 x3 hI2
        go_wp2_with fail
        refine hW3.mono ?_
        rintro e w4 ⟨rfl, _, hb4, _⟩
        have hS4 : Scn b s (p + 1 + 1) w4 := (hb4.block _ hblt).trans hS3
        clear hW3
        go_wp2_with fail
        rw [jumps_ret]
        go_ret2
        refine ⟨by rw [HRv.out]; rfl, grown_belowX hG3 hb4 (Nat.le_refl _), fun bs q h => ?_⟩
        rw [HRv.out] at h
        simp at h
        obtain ⟨_, rfl⟩ := h
        exact hS4
      · rw [decide_eq_false c34] at k7
        by_cases c92 : nth (strI s) (p + 1) = 92
        · rw [decide_eq_true c92] at k8
          obtain ⟨hR1, hx1⟩ := HR1.out c92
          have hI2 := HNX.out (by omega)
          have hm := HM.out 1
          have hlt := HLT.out (by omega)
          have H3 : Hid (QuoI b s w (p + 1) zs w2 ∧ R = preQ zs (quotP (strI s) (p + 1)) ∧ nth (strI s) (p + 1) = 92) := ⟨hI2, hR1, hx1⟩
          clear HP2 hprev hI2 hR1 hx1 c34 c92 HQ1 HQ2 HQ3 HR1
          generalize nth (strI s) (p + 1) = c at x2
          generalize kAt (strI s) (p + 1) = kd at *
          go_wp2_with fail
          go_step3
          refine ⟨⟨p + 1, zs, _, _, _, _, _, _, _, _, _, _, _, _, _, _, _, _, _, _, _, _, _, _, _, _, _, _, _, _, _, _, _, _, _, _, _, _, _, _, _, _, _, _, _, _, _, _, _, _, _, _, _, _, _, _, _, _, _, _, _, _, _, _, _, _, _, _, _, _, _, _, _, rfl, H3.out.1, H3.out.2.1, H3.out.2.2⟩, ?_⟩
          rcases hm _ with h | h
          · exact h
          · omega
        · rw [decide_eq_false c92] at k8
          have hPR := fun wx => printable_any (nth (strI s) (p + 1)) wx hcb.1 hcb.2
          cases hpb : printB (nth (strI s) (p + 1))
          · have HRv : Hid (R = none) := HQ2.out c34 c92 hpb
            rw [hpb] at hPR
            clear HP2 hprev
            generalize nth (strI s) (p + 1) = c at *
            generalize kAt (strI s) (p + 1) = kd at *
            go_wp2_with fail
            refine (hPR _).mono ?_
            rintro e w' ⟨rfl, rfl⟩
            go_wp2_with fail
            rw [jumps_ret]
            go_ret2
            exact ⟨by rw [HRv.out]; rfl, hG2, fun bs q h => by rw [HRv.out] at h; cases h⟩
          · have HRv : Hid (R = preQ (zs ++ [nth (strI s) (p + 1)]) (quotP (strI s) (p + 1 + 1))) := HQ3.out c34 c92 hpb
            have hne : nth (strI s) (p + 1) ≠ 0 := fun e => by rw [e] at hpb; exact absurd hpb (by decide)
            have hI2 := HNX.out hne
            have hm := HM.out 2
            have hlt := HLT.out hne
            rw [hpb] at hPR
            clear hpb c34 c92 HQ1 HQ2 HQ3 HR1 HNX HLT hne HR hprev
            generalize hcc : nth (strI s) (p + 1) = c at *
            clear hcc
            generalize kAt (strI s) (p + 1) = kd at *
            have hI2 : Hid (QuoI b s w (p + 1) zs w2) := hI2
            go_wp2_with fail
            refine (hPR _).mono ?_
            rintro e w' ⟨rfl, rfl⟩
            go_wp2_with fail
            refine wp_label ?_
            rename_i K hK
            refine hK _ _ (HP2 _ _ ⟨p + 1, zs, c, _, _, _, _, _, _, _, _, _, _, _, _, _, _, _, _, _, _, _, _, _, _, _, _, _, _, _, _, _, _, _, _, _, _, _, _, _, _, _, _, _, _, _, _, _, _, _, _, _, _, _, _, _, _, _, _, _, _, _, _, _, _, _, _, _, _, _, _, _, _, rfl, hI2.out, HRv.out, hcb.1, hcb.2, by omega⟩ ?_)
            rcases hm _ with h | h
            · exact Nat.le_of_lt h
            · omega
    | 1, ⟨p, zs, u1, u2, u3, u5, u6, u7, u8, u9, u10, u11, u12, u13, u14, u15, u16, u17, u18, u19, u20, u21, u22, u23, u24, u25, u26, u27, u28, u29, u30, u31, u32, u33, u34, u35, u36, u37, u38, u39, u40, u41, u42, u43, u44, u45, u46, u47, u48, u49, u50, u51, u52, u53, u54, u55, u56, u57, u58, u59, u60, u61, u62, u63, u64, u65, u66, u67, u68, u69, u70, u71, u72, ha, hI, hR, hx⟩ =>
      subst ha
      conv => arg 2; whnf
      have hS := hI.2.1
      have hpl := hI.1
      have hW := hI.2.2.2.2.1
      have hl := hI.2.2.2.2.2
      have hST := step_any b p s w1 hS (by omega) hs
      go_wp2_with fail
      refine hST.mono ?_
      rintro e w2 ⟨rfl, hS2, hg2⟩
      obtain ⟨hB2, hG2⟩ := quo_step hblt hI hS2 hg2
      obtain ⟨_, _, x2, x3, _⟩ := scn_cells hS2
      have k7 := kAt_quote (strI s) (p + 1)
      have k8 := kAt_slash (strI s) (p + 1)
      have HNX : Hid (nth (strI s) (p + 1) ≠ 0 → QuoI b s w (p + 1) zs w2) := quo_next hS2 hB2 hG2 hW hl
      have hcb := nth_lo HW.out (p + 1)
      have HLT : Hid (∀ q, nth (strI s) q ≠ 0 → q < s.size) := fun q h => by have := nth_ltX h; rw [strI_len] at this; exact this
      have HM : Hid (∀ q w' (a' : Act), p + 1 ≤ q → q < s.size → Scn b s q w' → QuoM b s 2 a' w' < N) := fun q w' a' h1 h2 h3 => quoM_lt hN hS h3 (by omega) (by simp; omega)
      have HQ1 : Hid ((nth (strI s) (p + 1) = 34 ∨ nth (strI s) (p + 1) = 92) → R = preQ (zs ++ [nth (strI s) (p + 1)]) (quotP (strI s) (p + 1 + 1))) := fun h => by rw [hR, quotP_some (by rw [hx]; omega) (part_esc hx h), preQ_cons]
      have HQ2 : Hid (¬ (nth (strI s) (p + 1) = 34 ∨ nth (strI s) (p + 1) = 92) → ¬ (nth (strI s) (p + 1) = 120 ∧ hexB (nth (strI s) (p + 2)) = true ∧ hexB (nth (strI s) (p + 3)) = true) → R = none) := fun h h1 => by rw [hR, quotP_none (by rw [hx]; omega) (part_bad hx h h1)]; rfl
      have HQ3 : Hid (nth (strI s) (p + 1) = 120 → hexB (nth (strI s) (p + 2)) = true → hexB (nth (strI s) (p + 3)) = true → R = preQ (zs ++ [16 * dvI (nth (strI s) (p + 2)) + dvI (nth (strI s) (p + 3))]) (quotP (strI s) (p + 1 + 2 + 1))) := fun h h1 h2 => by rw [hR, quotP_some (by rw [hx]; omega) (part_hex hx h h1 h2), preQ_cons]
      clear hST hR hN hg2 hI hprev hx
      by_cases c2 : nth (strI s) (p + 1) = 34 ∨ nth (strI s) (p + 1) = 92
      · have hne : nth (strI s) (p + 1) ≠ 0 := by omega
        have HI2 : Hid (QuoI b s w (p + 1) zs w2) := HNX.out hne
        have HRv : Hid (R = preQ (zs ++ [nth (strI s) (p + 1)]) (quotP (strI s) (p + 1 + 1))) := HQ1.out c2
        have hlt := HLT.out _ hne
        have hm := fun a' => HM.out (p + 1) w2 a' (Nat.le_refl _) hlt hS2
        rcases c2 with c34 | c92
        · rw [decide_eq_true c34] at k7
          clear hne HQ1 HQ2 HQ3 HNX k8 c34
          generalize nth (strI s) (p + 1) = c at *
          generalize kAt (strI s) (p + 1) = kd at *
          go_wp2_with fail
          go_step3
          exact ⟨⟨p + 1, zs, c, _, _, _, _, _, _, _, _, _, _, _, _, _, _, _, _, _, _, _, _, _, _, _, _, _, _, _, _, _, _, _, _, _, _, _, _, _, _, _, _, _, _, _, _, _, _, _, _, _, _, _, _, _, _, _, _, _, _, _, _, _, _, _, _, _, _, _, _, _, _, rfl, HI2.out, HRv.out, hcb.1, hcb.2, by omega⟩, hm _⟩
        · rw [decide_eq_false (by omega)] at k7
          rw [decide_eq_true c92] at k8
          clear hne HQ1 HQ2 HQ3 HNX c92
          generalize nth (strI s) (p + 1) = c at *
          generalize kAt (strI s) (p + 1) = kd at *
          go_wp2_with fail
          go_step3
          exact ⟨⟨p + 1, zs, c, _, _, _, _, _, _, _, _, _, _, _, _, _, _, _, _, _, _, _, _, _, _, _, _, _, _, _, _, _, _, _, _, _, _, _, _, _, _, _, _, _, _, _, _, _, _, _, _, _, _, _, _, _, _, _, _, _, _, _, _, _, _, _, _, _, _, _, _, _, _, rfl, HI2.out, HRv.out, hcb.1, hcb.2, by omega⟩, hm _⟩
      · rw [decide_eq_false (fun h => c2 (.inl h))] at k7
        rw [decide_eq_false (fun h => c2 (.inr h))] at k8
        by_cases cx : nth (strI s) (p + 1) = 120
        · have HI2 : Hid (QuoI b s w (p + 1) zs w2) := HNX.out (by omega)
          have HN : Hid (∀ k, k < 2 → hexB (nth (strI s) (p + 2 + k)) = false → R = none) := fun k hk h => HQ2.out c2 (fun h' => by
            rcases (show k = 0 ∨ k = 1 by omega) with rfl | rfl
            · rw [show p + 2 + 0 = p + 2 by omega, h'.2.1] at h; cases h
            · rw [show p + 2 + 1 = p + 3 by omega, h'.2.2] at h; cases h)
          have HY : Hid ((∀ j, j < 2 → hexB (nth (strI s) (p + 2 + j)) = true) → R = preQ (zs ++ [hexTo (strI s) (p + 2) 2]) (quotP (strI s) (p + 1 + 2 + 1))) := fun h => by
            have e : hexTo (strI s) (p + 2) 2 = 16 * dvI (nth (strI s) (p + 2)) + dvI (nth (strI s) (p + 3)) := by
              simp only [hexTo]; rw [show p + 2 + 0 = p + 2 by omega, show p + 2 + 1 = p + 3 by omega]; omega
            rw [e]; exact HQ3.out cx (h 0 (by omega)) (h 1 (by omega))
          have cx' : (nth (strI s) (p + 1) != 120) = false := by simp [cx]
          clear HQ1 HQ2 HQ3 HNX cx c2 hcb
          have HH : Hid (∀ k, k < 2 → (∀ j, j < k → hexB (nth (strI s) (p + 2 + j)) = true) → 0 ≤ hexTo (strI s) (p + 2) k ∧ hexTo (strI s) (p + 2) k < 16) := fun k hk h => by
            rcases (show k = 0 ∨ k = 1 by omega) with rfl | rfl
            · simp [hexTo]
            · have h0 := h 0 (by omega)
              have a := dv_lo (nth (strI s) (p + 2 + 0))
              have b := (dv_hex (nth (strI s) (p + 2 + 0))).2 h0
              simp only [hexTo]; omega
          generalize nth (strI s) (p + 1) = c at *
          generalize kAt (strI s) (p + 1) = kd at *
          go_wp2_with fail
          go_loopw [5, 56] (fun c i wr => ∃ k : Nat, k ≤ 2 ∧ i = .int .i64 k ∧ c = .int .u8 (hexTo (strI s) (p + 2) k) ∧ QuoI b s w (p + 1 + k) zs wr ∧ ∀ j, j < k → hexB (nth (strI s) (p + 2 + j)) = true) (fun _ i _ => 2 - (intOf i).toNat)
          case atStart => exact ⟨0, by omega, rfl, rfl, HI2.out, fun j hj => by omega⟩
          case round =>
            obtain ⟨k, hk, rfl, rfl, hI, hall⟩ := hrel
            clear hS2 hB2 hG2 x2 x3 k7 k8 HI2
            by_cases hlt : k < 2
            · have hST := step_any b (p + 1 + k) s wr hI.2.1 (by omega) hs
              have hh := HH.out k hlt hall
              have hd0 := nth_lo HW.out (p + 2 + k)
              have hDV := fun wx => digitValue_any (nth (strI s) (p + 2 + k)) wx hd0.1 hd0.2
              have d0 := dv_lo (nth (strI s) (p + 2 + k))
              have d1 := dv_hi (nth (strI s) (p + 2 + k))
              have EN : Hid (hexB (nth (strI s) (p + 2 + k)) = false → R = none) := HN.out k hlt
              have ED : Hid (dvI (nth (strI s) (p + 2 + k)) < 16 ↔ hexB (nth (strI s) (p + 2 + k)) = true) := dv_hex _
              have EH : Hid (hexTo (strI s) (p + 2) (k + 1) = hexTo (strI s) (p + 2) k * 16 + dvI (nth (strI s) (p + 2 + k))) := rfl
              have EA : Hid (hexB (nth (strI s) (p + 2 + k)) = true → ∀ j, j < k + 1 → hexB (nth (strI s) (p + 2 + j)) = true) := fun h j hj => by
                by_cases e : j = k
                · subst e; exact h
                · exact hall j (by omega)
              have HI : Hid (QuoI b s w (p + 1 + k) zs wr) := hI
              have EL : Hid (hexB (nth (strI s) (p + 2 + k)) = true → p + 2 + k < s.size) := fun h => HLT.out _ (fun e => by rw [e] at h; exact absurd h (by decide))
              clear hall hI
              go_wp2_with fail
              refine hST.mono ?_
              rintro e w3 ⟨rfl, hS3, hg3⟩
              obtain ⟨hB3, hG3⟩ := quo_step hblt HI.out hS3 hg3
              rw [show p + 1 + k + 1 = p + 2 + k by omega] at hS3
              obtain ⟨_, _, x2, x3, _⟩ := scn_cells hS3
              have HE3 : Hid (hexB (nth (strI s) (p + 2 + k)) = true → QuoI b s w (p + 1 + (k + 1)) zs w3) := fun h =>
                ⟨by have := EL.out h; omega, by rw [show p + 1 + (k + 1) = p + 2 + k by omega]; exact hS3, hB3, hG3, hW, by omega⟩
              clear hST HI hB3 hg3 hS3
              generalize nth (strI s) (p + 2 + k) = cc at *
              generalize dvI cc = d at *
              generalize hexTo (strI s) (p + 2) k = hx at *
              by_cases hge : 16 ≤ d
              · have hdec : decide ((16 : Int) ≤ d) = true := decide_eq_true hge
                have HRv : Hid (R = none) := EN.out (by
                  cases e : hexB cc
                  · rfl
                  · have := ED.out.2 e; omega)
                go_wp2_with fail
                refine (hDV _).mono ?_
                rintro e w' ⟨rfl, rfl⟩
                go_wp2_with fail
                rw [jumps_ret]
                go_ret2
                exact ⟨by rw [HRv.out]; rfl, hG3, fun bs q h => by rw [HRv.out] at h; cases h⟩
              · have hdec : decide ((16 : Int) ≤ d) = false := decide_eq_false hge
                have hlt16 : d < 16 := by omega
                have hy := ED.out.1 hlt16
                have hor := or_u8 hh.1 hh.2 d0 hlt16
                have hA : Hid (∀ j, j < k + 1 → hexB (nth (strI s) (p + 2 + j)) = true) := EA.out hy
                have HE4 : Hid (QuoI b s w (p + 1 + (k + 1)) zs w3) := HE3.out hy
                have hh0 := hh.1
                have hh1 := hh.2
                clear hy EA HE3 EL ED EN hh
                go_wp2_with fail
                refine (hDV _).mono ?_
                rintro e w' ⟨rfl, rfl⟩
                go_wp2_with fail
                go_roundw
                case rel => exact ⟨k + 1, by omega, by go_num, by rw [EH.out], HE4.out, hA.out⟩
                case measure => simp [intOf]; omega
            · obtain rfl : k = 2 := by omega
              have HRv : Hid (R = preQ (zs ++ [hexTo (strI s) (p + 2) 2]) (quotP (strI s) (p + 1 + 2 + 1))) := HY.out hall
              have hb1 : 0 ≤ hexTo (strI s) (p + 2) 2 ∧ hexTo (strI s) (p + 2) 2 < 256 := by
                have a := HH.out 1 (by omega) (fun j hj => hall j (by omega))
                have b := dv_lo (nth (strI s) (p + 2 + 1))
                have c := (dv_hex (nth (strI s) (p + 2 + 1))).2 (hall 1 (by omega))
                have e : hexTo (strI s) (p + 2) 2 = hexTo (strI s) (p + 2) 1 * 16 + dvI (nth (strI s) (p + 2 + 1)) := rfl
                omega
              have HI : Hid (QuoI b s w (p + 1 + 2) zs wr) := hI
              have hm := fun a' => HM.out (p + 1 + 2) wr a' (by omega) hI.1 hI.2.1
              clear hall hI
              generalize hexTo (strI s) (p + 2) 2 = hx at *
              go_wp2_with fail
              go_step3
              exact ⟨⟨p + 1 + 2, zs, hx, _, _, _, _, _, _, _, _, _, _, _, _, _, _, _, _, _, _, _, _, _, _, _, _, _, _, _, _, _, _, _, _, _, _, _, _, _, _, _, _, _, _, _, _, _, _, _, _, _, _, _, _, _, _, _, _, _, _, _, _, _, _, _, _, _, _, _, _, _, _, rfl, HI.out, HRv.out, hb1.1, hb1.2, by omega⟩, hm _⟩
        · have HRv : Hid (R = none) := HQ2.out c2 (fun h => cx h.1)
          have cx' : (nth (strI s) (p + 1) != 120) = true := by simpa using cx
          clear HQ1 HQ2 HQ3 HNX cx c2
          generalize nth (strI s) (p + 1) = c at *
          generalize kAt (strI s) (p + 1) = kd at *
          go_wp2_with fail
          rw [jumps_ret]
          go_ret2
          exact ⟨by rw [HRv.out]; rfl, hG2, fun bs q h => by rw [HRv.out] at h; cases h⟩

end Go.Proofs.YtddkapkkjhomkabGreatDoor

/-
  What strings.Clone returns: the text as it is; nothing that was there turns (the library's contract, laid at this program).
-/
namespace Go.Proofs.YtddkapkkjhomkabGreatDoor
open Go.RowKit Go.Shelf
set_option maxRecDepth 10000

def Cln.ren : Go.Shelf.Ren := ⟨fun | 316 => 56 | n => n, fun | 9 => 9 | 3 => 3 | 4 => 4 | 37 => 58 | 0 => 0 | 127 => 180 | 5 => 5 | n => n, fun | n => n⟩
theorem Cln.lays : Go.Proofs.LaysM.n316 Tryz.prog Cln.ren := {
  mixed := by kernel_rfl
  f316 := Tryz.func56.trans (congrArg some (by kernel_rfl))
  t0 := Tryz.underlying0
  a0 := Tryz.isAgg0
  z0 := Tryz.sizeOf0
  v0 := Tryz.zeroValue0
  t3 := Tryz.underlying3
  a3 := Tryz.isAgg3
  z3 := Tryz.sizeOf3
  v3 := Tryz.zeroValue3
  t4 := Tryz.underlying4
  a4 := Tryz.isAgg4
  z4 := Tryz.sizeOf4
  v4 := Tryz.zeroValue4
  t9 := Tryz.underlying9
  a9 := Tryz.isAgg9
  z9 := Tryz.sizeOf9
  v9 := Tryz.zeroValue9
  t37 := Tryz.underlying58
  a37 := Tryz.isAgg58
  z37 := Tryz.sizeOf58
  v37 := Tryz.zeroValue58
  t127 := Tryz.underlying180
  a127 := Tryz.isAgg180
  z127 := Tryz.sizeOf180
  v127 := Tryz.zeroValue180
  t5 := Tryz.underlying5
  a5 := Tryz.isAgg5
  z5 := Tryz.sizeOf5
  v5 := Tryz.zeroValue5
  i0 := by kernel_rfl
  i3 := by kernel_rfl
  i4 := by kernel_rfl
  i5 := by kernel_rfl
  i9 := by kernel_rfl
  i37 := by kernel_rfl
  i127 := by kernel_rfl }
theorem liteClone_any (s : ByteArray) (w : World) (hlim : s.size ≤ 281474976710656) :
    Calls Tryz.prog 56 #[.string s] w fun e w' => e = .returned (.string s) ∧ Below w.heap.size w w' := Any.stringslite_Clone Cln.lays s w hlim

theorem stringsClone_any (s : ByteArray) (w : World) (hlim : s.size ≤ 281474976710656) :
    Calls Tryz.prog 32 #[.string s] w fun e w' => e = .returned (.string s) ∧ Below w.heap.size w w' := by
  have hC := fun wx => liteClone_any s wx hlim
  go_enter Tryz.func32, Tryz.ntmps32
  go_wp2_with fail
  refine (hC _).mono ?_
  rintro e w' ⟨rfl, hb⟩
  go_wp2_with fail
  go_ret
  exact ⟨rfl, hb⟩

end Go.Proofs.YtddkapkkjhomkabGreatDoor
