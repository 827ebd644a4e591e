/-
  Texts laid together in one: LexQuoted, StringsClone, LexTok0.
-/
import Derived.WalkSpells
import Derived.WalkMore
import Derived.BigRegion
import Derived.Test.YtgjedfmipllocaaGreatDoorProg
import Derived.Test.YtgjedfmipllocaaGreatDoorB10
import Derived.Test.YtgjedfmipllocaaGreatDoorB13
import Derived.Test.YtgjedfmipllocaaGreatDoorB14
import Derived.Shelf.LaysM
import Derived.Shelf.Strconv.Clone
import Derived.Deep.RegionWith
import Derived.Test.YtgjedfmipllocaaGreatDoorB11
/-
  What quoted of the scanner of the layer lex returns, for every line and place: the text that the quotes stand for, and the scanner behind them; or that there is none. No other block that was there turns.
-/
namespace Go.Proofs.YtgjedfmipllocaaGreatDoor
open Go.RowKit
set_option maxRecDepth 10000
set_option linter.unusedVariables false
set_option linter.unusedSimpArgs false
attribute [local go_sem] jumps_normal jumps_exit jumps_ret jumps_panic jumps_goto

theorem kind_quote (c : Int) : (kindL c == 7) = decide (c = 34) := by
  by_cases h : c = 34
  · subst h; rfl
  · rw [decide_eq_false h]
    unfold kindL
    repeat' split
    all_goals first | rfl | contradiction
theorem kind_slash (c : Int) : (kindL c == 8) = decide (c = 92) := by
  by_cases h : c = 92
  · subst h; rfl
  · rw [decide_eq_false h]
    unfold kindL
    repeat' split
    all_goals first | rfl | contradiction
theorem kAt_quote (l : List Int) (p : Nat) : (kAt l p == 7) = decide (nth l p = 34) := by
  unfold kAt; split
  · exact kind_quote _
  · rw [nth_over l p (by omega)]; rfl
theorem kAt_slash (l : List Int) (p : Nat) : (kAt l p == 8) = decide (nth l p = 92) := by
  unfold kAt; split
  · exact kind_slash _
  · rw [nth_over l p (by omega)]; rfl
theorem nth_lo {l : List Int} (h : Within 256 l) (p : Nat) : 0 ≤ nth l p ∧ nth l p < 256 := by
  rcases Nat.lt_or_ge p l.length with h' | h'
  · exact h.at h'
  · rw [nth_over l p h']; omega

/-- More bytes ahead. -/
def preQ (zs : List Int) (o : Option (List Int × Nat)) : Option (List Int × Nat) := o.map fun r => (zs ++ r.1, r.2)
theorem preQ_nil (o : Option (List Int × Nat)) : preQ [] o = o := by cases o <;> rfl
theorem preQ_cons (zs : List Int) (c : Int) (o : Option (List Int × Nat)) : preQ zs (o.map fun r => (c :: r.1, r.2)) = preQ (zs ++ [c]) o := by cases o <;> simp [preQ]
/-- What quoted answers. -/
def quotS (o : Option (List Int × Nat)) : ByteArray := match o with
  | some r => strOfNums r.1
  | none => ⟨#[]⟩
def posOf (b : Nat) (w : World) : Nat := match w.cell? ⟨b, 1, none⟩ with
  | some (.int _ n) => n.toNat
  | _ => 0
theorem pos_scn {b p : Nat} {s : ByteArray} {w : World} (h : Scn b s p w) : posOf b w = p := by
  have := (scn_cells h).2.1
  unfold posOf; rw [this]; simp
theorem part_plain {l : List Int} {p : Nat} (h1 : nth l p ≠ 92) (h2 : printB (nth l p) = true) : partP l p = some (nth l p, 1) := by unfold partP; rw [if_neg h1, if_pos h2]
theorem part_none {l : List Int} {p : Nat} (h1 : nth l p ≠ 92) (h2 : printB (nth l p) = false) : partP l p = none := by unfold partP; rw [if_neg h1, if_neg (by simp [h2])]
theorem part_esc {l : List Int} {p : Nat} (h0 : nth l p = 92) (h1 : nth l (p + 1) = 34 ∨ nth l (p + 1) = 92) : partP l p = some (nth l (p + 1), 2) := by unfold partP; rw [if_pos h0, if_pos h1]
theorem part_bad {l : List Int} {p : Nat} (h0 : nth l p = 92) (h1 : ¬ (nth l (p + 1) = 34 ∨ nth l (p + 1) = 92)) (h2 : ¬ (nth l (p + 1) = 120 ∧ hexB (nth l (p + 2)) = true ∧ hexB (nth l (p + 3)) = true)) : partP l p = none := by unfold partP; rw [if_pos h0, if_neg h1, if_neg h2]
theorem part_hex {l : List Int} {p : Nat} (h0 : nth l p = 92) (h1 : nth l (p + 1) = 120) (h2 : hexB (nth l (p + 2)) = true) (h3 : hexB (nth l (p + 3)) = true) : partP l p = some (16 * dvI (nth l (p + 2)) + dvI (nth l (p + 3)), 4) := by
  unfold partP; rw [if_pos h0, if_neg (by rw [h1]; omega), if_pos ⟨h1, h2, h3⟩]
theorem or_u8 {a d : Int} (h0 : 0 ≤ a) (h1 : a < 16) (h2 : 0 ≤ d) (h3 : d < 16) : bits .or .u8 (a * 16) d = a * 16 + d := by
  obtain ⟨n, rfl⟩ := Int.eq_ofNat_of_zero_le h0
  obtain ⟨m, rfl⟩ := Int.eq_ofNat_of_zero_le h2
  have key : ∀ n m : Fin 16, bits .or .u8 (((n.val : Nat) : Int) * 16) ((m.val : Nat) : Int) = ((n.val : Nat) : Int) * 16 + ((m.val : Nat) : Int) := by decide +kernel
  exact key ⟨n, by omega⟩ ⟨m, by omega⟩

/-- What holds between. -/
def QuoI (b : Nat) (s : ByteArray) (w : World) (p : Nat) (zs : List Int) (w' : World) : Prop :=
  p < s.size ∧ Scn b s p w' ∧ Bld w.heap.size w.heap.size zs w' ∧ w.grownBy w' (some b) ∧ Within 256 zs ∧ zs.length ≤ p
def QuoJ (b : Nat) (s : ByteArray) (w : World) (R : Option (List Int × Nat)) : Nat → Act → World → Prop
  | 0, a', w' => ∃ (p : Nat) (zs : List Int) (u1 u2 u3 u5 u6 u7 u8 u9 u10 u11 u12 u13 u14 u15 u16 u17 u18 u19 u20 u21 u22 u23 u24 u25 u26 u27 u28 u29 u30 u31 u32 u33 u34 u35 u36 u37 u38 u39 u40 u41 u42 u43 u44 u45 u46 u47 u48 u49 u50 u51 u52 u53 u54 u55 u56 u57 u58 u59 u60 u61 u62 u63 u64 u65 u66 u67 u68 u69 u70 u71 u72 : Value), a' = { tmps := #[.pointer (some ⟨b, 0, none⟩), u1, u2, u3, .pointer (some ⟨w.heap.size, 0, none⟩), u5, u6, u7, u8, u9, u10, u11, u12, u13, u14, u15, u16, u17, u18, u19, u20, u21, u22, u23, u24, u25, u26, u27, u28, u29, u30, u31, u32, u33, u34, u35, u36, u37, u38, u39, u40, u41, u42, u43, u44, u45, u46, u47, u48, u49, u50, u51, u52, u53, u54, u55, u56, u57, u58, u59, u60, u61, u62, u63, u64, u65, u66, u67, u68, u69, u70, u71, u72], defers := [] } ∧ QuoI b s w p zs w' ∧ R = preQ zs (quotP (strI s) (p + 1))
  | 1, a', w' => ∃ (p : Nat) (zs : List Int) (u1 u2 u3 u5 u6 u7 u8 u9 u10 u11 u12 u13 u14 u15 u16 u17 u18 u19 u20 u21 u22 u23 u24 u25 u26 u27 u28 u29 u30 u31 u32 u33 u34 u35 u36 u37 u38 u39 u40 u41 u42 u43 u44 u45 u46 u47 u48 u49 u50 u51 u52 u53 u54 u55 u56 u57 u58 u59 u60 u61 u62 u63 u64 u65 u66 u67 u68 u69 u70 u71 u72 : Value), a' = { tmps := #[.pointer (some ⟨b, 0, none⟩), u1, u2, u3, .pointer (some ⟨w.heap.size, 0, none⟩), u5, u6, u7, u8, u9, u10, u11, u12, u13, u14, u15, u16, u17, u18, u19, u20, u21, u22, u23, u24, u25, u26, u27, u28, u29, u30, u31, u32, u33, u34, u35, u36, u37, u38, u39, u40, u41, u42, u43, u44, u45, u46, u47, u48, u49, u50, u51, u52, u53, u54, u55, u56, u57, u58, u59, u60, u61, u62, u63, u64, u65, u66, u67, u68, u69, u70, u71, u72], defers := [] } ∧ QuoI b s w p zs w' ∧ R = preQ zs (quotP (strI s) p) ∧ nth (strI s) p = 92
  | 2, a', w' => ∃ (p : Nat) (zs : List Int) (c : Int) (u1 u2 u3 u6 u7 u8 u9 u10 u11 u12 u13 u14 u15 u16 u17 u18 u19 u20 u21 u22 u23 u24 u25 u26 u27 u28 u29 u30 u31 u32 u33 u34 u35 u36 u37 u38 u39 u40 u41 u42 u43 u44 u45 u46 u47 u48 u49 u50 u51 u52 u53 u54 u55 u56 u57 u58 u59 u60 u61 u62 u63 u64 u65 u66 u67 u68 u69 u70 u71 u72 : Value), a' = { tmps := #[.pointer (some ⟨b, 0, none⟩), u1, u2, u3, .pointer (some ⟨w.heap.size, 0, none⟩), .int .u8 c, u6, u7, u8, u9, u10, u11, u12, u13, u14, u15, u16, u17, u18, u19, u20, u21, u22, u23, u24, u25, u26, u27, u28, u29, u30, u31, u32, u33, u34, u35, u36, u37, u38, u39, u40, u41, u42, u43, u44, u45, u46, u47, u48, u49, u50, u51, u52, u53, u54, u55, u56, u57, u58, u59, u60, u61, u62, u63, u64, u65, u66, u67, u68, u69, u70, u71, u72], defers := [] } ∧ QuoI b s w p zs w' ∧ R = preQ (zs ++ [c]) (quotP (strI s) (p + 1)) ∧ 0 ≤ c ∧ c < 256 ∧ zs.length + 1 ≤ p
  | _, _, _ => False
def QuoM (b : Nat) (s : ByteArray) (l : Nat) (_ : Act) (w' : World) : Nat := 3 * (s.size - posOf b w') + (if l = 2 then 1 else 0)

/-- A step of the scanner. -/
theorem quo_step {b p : Nat} {s : ByteArray} {w w1 w2 : World} {zs : List Int} (hb : b < w.heap.size) (h : QuoI b s w p zs w1) (h1 : Scn b s (p + 1) w2) (hg : w1.grownBy w2 (some b)) : Bld w.heap.size w.heap.size zs w2 ∧ w.grownBy w2 (some b) := by
  obtain ⟨_, hS, hB, hG, _, _⟩ := h
  refine ⟨bld_kept hB hg (by simp; omega) (fun r e c fz => ?_), grown_trans hG hg⟩
  cases e
  rw [hS]; simp [scnC]

theorem nth_ltX {l : List Int} {p : Nat} (h : nth l p ≠ 0) : p < l.length := by
  rcases Nat.lt_or_ge p l.length with h' | h'
  · exact h'
  · exact absurd (nth_over l p h') h
def hexTo (l : List Int) (q : Nat) : Nat → Int
  | 0 => 0
  | k + 1 => hexTo l q k * 16 + dvI (nth l (q + k))
theorem quo_next {b p : Nat} {s : ByteArray} {w w2 : World} {zs : List Int} (h1 : Scn b s (p + 1) w2) (hB : Bld w.heap.size w.heap.size zs w2) (hG : w.grownBy w2 (some b)) (hW : Within 256 zs) (hl : zs.length ≤ p) (hne : nth (strI s) (p + 1) ≠ 0) : QuoI b s w (p + 1) zs w2 :=
  ⟨by have := nth_ltX hne; rw [strI_len] at this; exact this, h1, hB, hG, hW, by omega⟩
theorem quoM_lt {b p q : Nat} {s : ByteArray} {a a' : Act} {w1 w2 : World} {l l' N : Nat} (h : QuoM b s l a w1 ≤ N) (h1 : Scn b s p w1) (h2 : Scn b s q w2) (hq : q ≤ s.size) (hlt : 3 * (s.size - q) + (if l' = 2 then 1 else 0) < 3 * (s.size - p) + (if l = 2 then 1 else 0)) : QuoM b s l' a' w2 < N := by
  unfold QuoM at *
  rw [pos_scn h1] at h
  rw [pos_scn h2]; omega

set_option maxHeartbeats 4000000 in
theorem quoted_any (b p0 : Nat) (s : ByteArray) (w : World) (h : Scn b s p0 w) (hp : p0 < s.size) (hs : s.size ≤ 140737488351232) :
    Calls Tryz.prog 98 #[.pointer (some ⟨b, 0, none⟩)] w fun e w' => e = .returned (.tuple #[.string (quotS (quotP (strI s) (p0 + 1))), .bool (quotP (strI s) (p0 + 1)).isSome]) ∧ w.grownBy w' (some b) ∧ ∀ bs q, quotP (strI s) (p0 + 1) = some (bs, q) → Scn b s q w' := by
  have hblt : b < w.heap.size := (Array.getElem?_eq_some_iff.1 h).1
  obtain ⟨R, hR⟩ : ∃ R, R = quotP (strI s) (p0 + 1) := ⟨_, rfl⟩
  rw [← hR]
  have HR : Hid (R = quotP (strI s) (p0 + 1)) := hR
  have HW : Hid (Within 256 (strI s)) := strI_within s
  have HI : Hid (QuoI b s w p0 [] (w.alloc (.cells #[.pointer none, .slice none 0 0] 159))) := by
    refine ⟨hp, ?_, bld_new w _ (Nat.le_refl _), World.grownBy_alloc _ _ _, fun z hz => by simp at hz, Nat.zero_le _⟩
    show (w.alloc _).heap[b]? = _
    rw [Below.heap_alloc _ _ _ hblt]; exact h
  have HLen : Hid ((strI s).length = s.size) := strI_len s
  clear h hR hp
  go_enter Tryz.func98, Tryz.ntmps98
  go_wp2_with fail
  refine wp_scope_ranked (QuoJ b s w R) (QuoM b s) (fun l => if l = 2 then 0 else 1) ?hf ?pass ?first
  case hf =>
    intro l a w1 hJ
    match l, hJ with
    | 0, _ => rfl
    | 1, _ => rfl
    | 2, _ => rfl
  case first =>
    intro hP
    go_wp2_with fail
    refine wp_label ?_
    rename_i K hK
    refine hK _ _ (hP 0 _ _ ⟨p0, [], _, _, _, _, _, _, _, _, _, _, _, _, _, _, _, _, _, _, _, _, _, _, _, _, _, _, _, _, _, _, _, _, _, _, _, _, _, _, _, _, _, _, _, _, _, _, _, _, _, _, _, _, _, _, _, _, _, _, _, _, _, _, _, _, _, _, _, _, _, _, _, rfl, HI.out, ?_⟩)
    rw [preQ_nil]; exact HR.out
  case pass =>
    intro l hprev N a w1 hJ hN
    match l, hJ with
    | 2, ⟨p, zs, c, u1, u2, u3, u6, u7, u8, u9, u10, u11, u12, u13, u14, u15, u16, u17, u18, u19, u20, u21, u22, u23, u24, u25, u26, u27, u28, u29, u30, u31, u32, u33, u34, u35, u36, u37, u38, u39, u40, u41, u42, u43, u44, u45, u46, u47, u48, u49, u50, u51, u52, u53, u54, u55, u56, u57, u58, u59, u60, u61, u62, u63, u64, u65, u66, u67, u68, u69, u70, u71, u72, ha, hI, hR, hc0, hc1, hzp⟩ =>
      subst ha
      conv => arg 2; whnf
      obtain ⟨hp, hS, hB, hG, hW, hl⟩ := hI
      have hW1 := writeByte_any w.heap.size w.heap.size zs c w1 hB (by omega) hG.size
      go_wp2_with fail
      refine hW1.mono ?_
      rintro e w2 ⟨rfl, hB2, hb2, _⟩
      have hS2 : Scn b s p w2 := (hb2.block _ hblt).trans hS
      clear hW1 hB
      go_wp2_with fail
      go_step3
      refine ⟨⟨p, zs ++ [c], _, _, _, _, _, _, _, _, _, _, _, _, _, _, _, _, _, _, _, _, _, _, _, _, _, _, _, _, _, _, _, _, _, _, _, _, _, _, _, _, _, _, _, _, _, _, _, _, _, _, _, _, _, _, _, _, _, _, _, _, _, _, _, _, _, _, _, _, _, _, _, rfl, ⟨hp, hS2, hB2, grown_belowX hG hb2 (Nat.le_refl _), within_appX hW (within_one hc0 hc1), by simp; omega⟩, hR⟩, ?_⟩
      exact quoM_lt hN hS hS2 (by omega) (by simp)
    | 0, ⟨p, zs, u1, u2, u3, u5, u6, u7, u8, u9, u10, u11, u12, u13, u14, u15, u16, u17, u18, u19, u20, u21, u22, u23, u24, u25, u26, u27, u28, u29, u30, u31, u32, u33, u34, u35, u36, u37, u38, u39, u40, u41, u42, u43, u44, u45, u46, u47, u48, u49, u50, u51, u52, u53, u54, u55, u56, u57, u58, u59, u60, u61, u62, u63, u64, u65, u66, u67, u68, u69, u70, u71, u72, ha, hI, hR⟩ =>
      subst ha
      conv => arg 2; whnf
      have hS := hI.2.1
      have hpl := hI.1
      have hW := hI.2.2.2.2.1
      have hl := hI.2.2.2.2.2
      have hST := step_any b p s w1 hS (by omega) hs
      go_wp2_with fail
      refine hST.mono ?_
      rintro e w2 ⟨rfl, hS2, hg2⟩
      obtain ⟨hB2, hG2⟩ := quo_step hblt hI hS2 hg2
      obtain ⟨_, _, x2, x3, _⟩ := scn_cells hS2
      have k7 := kAt_quote (strI s) (p + 1)
      have k8 := kAt_slash (strI s) (p + 1)
      have HNX : Hid (nth (strI s) (p + 1) ≠ 0 → QuoI b s w (p + 1) zs w2) := quo_next hS2 hB2 hG2 hW hl
      have HM : Hid (∀ (l' : Nat) (a' : Act), QuoM b s l' a' w2 < N ∨ p + 1 > s.size) := fun l' a' => by
        by_cases h : p + 1 ≤ s.size
        · exact .inl (quoM_lt hN hS hS2 h (by split <;> simp <;> omega))
        · exact .inr (by omega)
      have HR : Hid (R = preQ zs (quotP (strI s) (p + 1))) := hR
      have HCL : Hid (∀ w' : World, w2.grownBy w' (some b) → w.grownBy w' (some b)) := fun w' h => grown_trans hG2 h
      have hcb := nth_lo HW.out (p + 1)
      have HLT : Hid (nth (strI s) (p + 1) ≠ 0 → p + 1 < s.size) := fun h => by have := nth_ltX h; rw [strI_len] at this; exact this
      have HQ1 : Hid (nth (strI s) (p + 1) = 34 → R = some (zs, p + 1 + 1)) := fun h => by rw [HR.out, quotP_close h]; simp [preQ]
      have HQ2 : Hid (nth (strI s) (p + 1) ≠ 34 → nth (strI s) (p + 1) ≠ 92 → printB (nth (strI s) (p + 1)) = false → R = none) := fun h h1 h2 => by rw [HR.out, quotP_none h (part_none h1 h2)]; rfl
      have HQ3 : Hid (nth (strI s) (p + 1) ≠ 34 → nth (strI s) (p + 1) ≠ 92 → printB (nth (strI s) (p + 1)) = true → R = preQ (zs ++ [nth (strI s) (p + 1)]) (quotP (strI s) (p + 1 + 1))) := fun h h1 h2 => by rw [HR.out, quotP_some h (part_plain h1 h2), preQ_cons]
      have HP2 := hprev 2 (by decide) N
      have HR1 : Hid (nth (strI s) (p + 1) = 92 → R = preQ zs (quotP (strI s) (p + 1)) ∧ nth (strI s) (p + 1) = 92) := fun h => ⟨HR.out, h⟩
      clear hST hR hN hg2 hI
      by_cases c34 : nth (strI s) (p + 1) = 34
      · have HRv : Hid (R = some (zs, p + 1 + 1)) := HQ1.out c34
        rw [decide_eq_true c34] at k7
        have hlt := HLT.out (by omega)
        have hI2 := HNX.out (by omega)
        have hST := step_any b (p + 1) s w2 hS2 (by omega) hs
        clear HP2 hprev
        generalize nth (strI s) (p + 1) = c at *
        generalize kAt (strI s) (p + 1) = kd at *
        go_wp2_with fail
        refine hST.mono ?_
        rintro e w3 ⟨rfl, hS3, hg3⟩
        obtain ⟨hB3, hG3⟩ := quo_step hblt hI2 hS3 hg3
        have hW3 := buildString_any w.heap.size w.heap.size zs w3 hB3 hW hG3.size
        clear hB3 hST x2 x3 hI2
        go_wp2_with fail
        refine hW3.mono ?_
        rintro e w4 ⟨rfl, _, hb4, _⟩
        have hS4 : Scn b s (p + 1 + 1) w4 := (hb4.block _ hblt).trans hS3
        clear hW3
        go_wp2_with fail
        rw [jumps_ret]
        go_ret2
        refine ⟨by rw [HRv.out]; rfl, grown_belowX hG3 hb4 (Nat.le_refl _), fun bs q h => ?_⟩
        rw [HRv.out] at h
        simp at h
        obtain ⟨_, rfl⟩ := h
        exact hS4
      · rw [decide_eq_false c34] at k7
        by_cases c92 : nth (strI s) (p + 1) = 92
        · rw [decide_eq_true c92] at k8
          obtain ⟨hR1, hx1⟩ := HR1.out c92
          have hI2 := HNX.out (by omega)
          have hm := HM.out 1
          have hlt := HLT.out (by omega)
          have H3 : Hid (QuoI b s w (p + 1) zs w2 ∧ R = preQ zs (quotP (strI s) (p + 1)) ∧ nth (strI s) (p + 1) = 92) := ⟨hI2, hR1, hx1⟩
          clear HP2 hprev hI2 hR1 hx1 c34 c92 HQ1 HQ2 HQ3 HR1
          generalize nth (strI s) (p + 1) = c at x2
          generalize kAt (strI s) (p + 1) = kd at *
          go_wp2_with fail
          go_step3
          refine ⟨⟨p + 1, zs, _, _, _, _, _, _, _, _, _, _, _, _, _, _, _, _, _, _, _, _, _, _, _, _, _, _, _, _, _, _, _, _, _, _, _, _, _, _, _, _, _, _, _, _, _, _, _, _, _, _, _, _, _, _, _, _, _, _, _, _, _, _, _, _, _, _, _, _, _, _, _, rfl, H3.out.1, H3.out.2.1, H3.out.2.2⟩, ?_⟩
          rcases hm _ with h | h
          · exact h
          · omega
        · rw [decide_eq_false c92] at k8
          have hPR := fun wx => printable_any (nth (strI s) (p + 1)) wx hcb.1 hcb.2
          cases hpb : printB (nth (strI s) (p + 1))
          · have HRv : Hid (R = none) := HQ2.out c34 c92 hpb
            rw [hpb] at hPR
            clear HP2 hprev
            generalize nth (strI s) (p + 1) = c at *
            generalize kAt (strI s) (p + 1) = kd at *
            go_wp2_with fail
            refine (hPR _).mono ?_
            rintro e w' ⟨rfl, rfl⟩
            go_wp2_with fail
            rw [jumps_ret]
            go_ret2
            exact ⟨by rw [HRv.out]; rfl, hG2, fun bs q h => by rw [HRv.out] at h; cases h⟩
          · have HRv : Hid (R = preQ (zs ++ [nth (strI s) (p + 1)]) (quotP (strI s) (p + 1 + 1))) := HQ3.out c34 c92 hpb
            have hne : nth (strI s) (p + 1) ≠ 0 := fun e => by rw [e] at hpb; exact absurd hpb (by decide)
            have hI2 := HNX.out hne
            have hm := HM.out 2
            have hlt := HLT.out hne
            rw [hpb] at hPR
            clear hpb c34 c92 HQ1 HQ2 HQ3 HR1 HNX HLT hne HR hprev
            generalize hcc : nth (strI s) (p + 1) = c at *
            clear hcc
            generalize kAt (strI s) (p + 1) = kd at *
            have hI2 : Hid (QuoI b s w (p + 1) zs w2) := hI2
            go_wp2_with fail
            refine (hPR _).mono ?_
            rintro e w' ⟨rfl, rfl⟩
            go_wp2_with fail
            refine wp_label ?_
            rename_i K hK
            refine hK _ _ (HP2 _ _ ⟨p + 1, zs, c, _, _, _, _, _, _, _, _, _, _, _, _, _, _, _, _, _, _, _, _, _, _, _, _, _, _, _, _, _, _, _, _, _, _, _, _, _, _, _, _, _, _, _, _, _, _, _, _, _, _, _, _, _, _, _, _, _, _, _, _, _, _, _, _, _, _, _, _, _, _, rfl, hI2.out, HRv.out, hcb.1, hcb.2, by omega⟩ ?_)
            rcases hm _ with h | h
            · exact Nat.le_of_lt h
            · omega
    | 1, ⟨p, zs, u1, u2, u3, u5, u6, u7, u8, u9, u10, u11, u12, u13, u14, u15, u16, u17, u18, u19, u20, u21, u22, u23, u24, u25, u26, u27, u28, u29, u30, u31, u32, u33, u34, u35, u36, u37, u38, u39, u40, u41, u42, u43, u44, u45, u46, u47, u48, u49, u50, u51, u52, u53, u54, u55, u56, u57, u58, u59, u60, u61, u62, u63, u64, u65, u66, u67, u68, u69, u70, u71, u72, ha, hI, hR, hx⟩ =>
      subst ha
      conv => arg 2; whnf
      have hS := hI.2.1
      have hpl := hI.1
      have hW := hI.2.2.2.2.1
      have hl := hI.2.2.2.2.2
      have hST := step_any b p s w1 hS (by omega) hs
      go_wp2_with fail
      refine hST.mono ?_
      rintro e w2 ⟨rfl, hS2, hg2⟩
      obtain ⟨hB2, hG2⟩ := quo_step hblt hI hS2 hg2
      obtain ⟨_, _, x2, x3, _⟩ := scn_cells hS2
      have k7 := kAt_quote (strI s) (p + 1)
      have k8 := kAt_slash (strI s) (p + 1)
      have HNX : Hid (nth (strI s) (p + 1) ≠ 0 → QuoI b s w (p + 1) zs w2) := quo_next hS2 hB2 hG2 hW hl
      have hcb := nth_lo HW.out (p + 1)
      have HLT : Hid (∀ q, nth (strI s) q ≠ 0 → q < s.size) := fun q h => by have := nth_ltX h; rw [strI_len] at this; exact this
      have HM : Hid (∀ q w' (a' : Act), p + 1 ≤ q → q < s.size → Scn b s q w' → QuoM b s 2 a' w' < N) := fun q w' a' h1 h2 h3 => quoM_lt hN hS h3 (by omega) (by simp; omega)
      have HQ1 : Hid ((nth (strI s) (p + 1) = 34 ∨ nth (strI s) (p + 1) = 92) → R = preQ (zs ++ [nth (strI s) (p + 1)]) (quotP (strI s) (p + 1 + 1))) := fun h => by rw [hR, quotP_some (by rw [hx]; omega) (part_esc hx h), preQ_cons]
      have HQ2 : Hid (¬ (nth (strI s) (p + 1) = 34 ∨ nth (strI s) (p + 1) = 92) → ¬ (nth (strI s) (p + 1) = 120 ∧ hexB (nth (strI s) (p + 2)) = true ∧ hexB (nth (strI s) (p + 3)) = true) → R = none) := fun h h1 => by rw [hR, quotP_none (by rw [hx]; omega) (part_bad hx h h1)]; rfl
      have HQ3 : Hid (nth (strI s) (p + 1) = 120 → hexB (nth (strI s) (p + 2)) = true → hexB (nth (strI s) (p + 3)) = true → R = preQ (zs ++ [16 * dvI (nth (strI s) (p + 2)) + dvI (nth (strI s) (p + 3))]) (quotP (strI s) (p + 1 + 2 + 1))) := fun h h1 h2 => by rw [hR, quotP_some (by rw [hx]; omega) (part_hex hx h h1 h2), preQ_cons]
      clear hST hR hN hg2 hI hprev hx
      by_cases c2 : nth (strI s) (p + 1) = 34 ∨ nth (strI s) (p + 1) = 92
      · have hne : nth (strI s) (p + 1) ≠ 0 := by omega
        have HI2 : Hid (QuoI b s w (p + 1) zs w2) := HNX.out hne
        have HRv : Hid (R = preQ (zs ++ [nth (strI s) (p + 1)]) (quotP (strI s) (p + 1 + 1))) := HQ1.out c2
        have hlt := HLT.out _ hne
        have hm := fun a' => HM.out (p + 1) w2 a' (Nat.le_refl _) hlt hS2
        rcases c2 with c34 | c92
        · rw [decide_eq_true c34] at k7
          clear hne HQ1 HQ2 HQ3 HNX k8 c34
          generalize nth (strI s) (p + 1) = c at *
          generalize kAt (strI s) (p + 1) = kd at *
          go_wp2_with fail
          go_step3
          exact ⟨⟨p + 1, zs, c, _, _, _, _, _, _, _, _, _, _, _, _, _, _, _, _, _, _, _, _, _, _, _, _, _, _, _, _, _, _, _, _, _, _, _, _, _, _, _, _, _, _, _, _, _, _, _, _, _, _, _, _, _, _, _, _, _, _, _, _, _, _, _, _, _, _, _, _, _, _, rfl, HI2.out, HRv.out, hcb.1, hcb.2, by omega⟩, hm _⟩
        · rw [decide_eq_false (by omega)] at k7
          rw [decide_eq_true c92] at k8
          clear hne HQ1 HQ2 HQ3 HNX c92
          generalize nth (strI s) (p + 1) = c at *
          generalize kAt (strI s) (p + 1) = kd at *
          go_wp2_with fail
          go_step3
          exact ⟨⟨p + 1, zs, c, _, _, _, _, _, _, _, _, _, _, _, _, _, _, _, _, _, _, _, _, _, _, _, _, _, _, _, _, _, _, _, _, _, _, _, _, _, _, _, _, _, _, _, _, _, _, _, _, _, _, _, _, _, _, _, _, _, _, _, _, _, _, _, _, _, _, _, _, _, _, rfl, HI2.out, HRv.out, hcb.1, hcb.2, by omega⟩, hm _⟩
      · rw [decide_eq_false (fun h => c2 (.inl h))] at k7
        rw [decide_eq_false (fun h => c2 (.inr h))] at k8
        by_cases cx : nth (strI s) (p + 1) = 120
        · have HI2 : Hid (QuoI b s w (p + 1) zs w2) := HNX.out (by omega)
          have HN : Hid (∀ k, k < 2 → hexB (nth (strI s) (p + 2 + k)) = false → R = none) := fun k hk h => HQ2.out c2 (fun h' => by
            rcases (show k = 0 ∨ k = 1 by omega) with rfl | rfl
            · rw [show p + 2 + 0 = p + 2 by omega, h'.2.1] at h; cases h
            · rw [show p + 2 + 1 = p + 3 by omega, h'.2.2] at h; cases h)
          have HY : Hid ((∀ j, j < 2 → hexB (nth (strI s) (p + 2 + j)) = true) → R = preQ (zs ++ [hexTo (strI s) (p + 2) 2]) (quotP (strI s) (p + 1 + 2 + 1))) := fun h => by
            have e : hexTo (strI s) (p + 2) 2 = 16 * dvI (nth (strI s) (p + 2)) + dvI (nth (strI s) (p + 3)) := by
              simp only [hexTo]; rw [show p + 2 + 0 = p + 2 by omega, show p + 2 + 1 = p + 3 by omega]; omega
            rw [e]; exact HQ3.out cx (h 0 (by omega)) (h 1 (by omega))
          have cx' : (nth (strI s) (p + 1) != 120) = false := by simp [cx]
          clear HQ1 HQ2 HQ3 HNX cx c2 hcb
          have HH : Hid (∀ k, k < 2 → (∀ j, j < k → hexB (nth (strI s) (p + 2 + j)) = true) → 0 ≤ hexTo (strI s) (p + 2) k ∧ hexTo (strI s) (p + 2) k < 16) := fun k hk h => by
            rcases (show k = 0 ∨ k = 1 by omega) with rfl | rfl
            · simp [hexTo]
            · have h0 := h 0 (by omega)
              have a := dv_lo (nth (strI s) (p + 2 + 0))
              have b := (dv_hex (nth (strI s) (p + 2 + 0))).2 h0
              simp only [hexTo]; omega
          generalize nth (strI s) (p + 1) = c at *
          generalize kAt (strI s) (p + 1) = kd at *
          go_wp2_with fail
          go_loopw [5, 56] (fun c i wr => ∃ k : Nat, k ≤ 2 ∧ i = .int .i64 k ∧ c = .int .u8 (hexTo (strI s) (p + 2) k) ∧ QuoI b s w (p + 1 + k) zs wr ∧ ∀ j, j < k → hexB (nth (strI s) (p + 2 + j)) = true) (fun _ i _ => 2 - (intOf i).toNat)
          case atStart => exact ⟨0, by omega, rfl, rfl, HI2.out, fun j hj => by omega⟩
          case round =>
            obtain ⟨k, hk, rfl, rfl, hI, hall⟩ := hrel
            clear hS2 hB2 hG2 x2 x3 k7 k8 HI2
            by_cases hlt : k < 2
            · have hST := step_any b (p + 1 + k) s wr hI.2.1 (by omega) hs
              have hh := HH.out k hlt hall
              have hd0 := nth_lo HW.out (p + 2 + k)
              have hDV := fun wx => digitValue_any (nth (strI s) (p + 2 + k)) wx hd0.1 hd0.2
              have d0 := dv_lo (nth (strI s) (p + 2 + k))
              have d1 := dv_hi (nth (strI s) (p + 2 + k))
              have EN : Hid (hexB (nth (strI s) (p + 2 + k)) = false → R = none) := HN.out k hlt
              have ED : Hid (dvI (nth (strI s) (p + 2 + k)) < 16 ↔ hexB (nth (strI s) (p + 2 + k)) = true) := dv_hex _
              have EH : Hid (hexTo (strI s) (p + 2) (k + 1) = hexTo (strI s) (p + 2) k * 16 + dvI (nth (strI s) (p + 2 + k))) := rfl
              have EA : Hid (hexB (nth (strI s) (p + 2 + k)) = true → ∀ j, j < k + 1 → hexB (nth (strI s) (p + 2 + j)) = true) := fun h j hj => by
                by_cases e : j = k
                · subst e; exact h
                · exact hall j (by omega)
              have HI : Hid (QuoI b s w (p + 1 + k) zs wr) := hI
              have EL : Hid (hexB (nth (strI s) (p + 2 + k)) = true → p + 2 + k < s.size) := fun h => HLT.out _ (fun e => by rw [e] at h; exact absurd h (by decide))
              clear hall hI
              go_wp2_with fail
              refine hST.mono ?_
              rintro e w3 ⟨rfl, hS3, hg3⟩
              obtain ⟨hB3, hG3⟩ := quo_step hblt HI.out hS3 hg3
              rw [show p + 1 + k + 1 = p + 2 + k by omega] at hS3
              obtain ⟨_, _, x2, x3, _⟩ := scn_cells hS3
              have HE3 : Hid (hexB (nth (strI s) (p + 2 + k)) = true → QuoI b s w (p + 1 + (k + 1)) zs w3) := fun h =>
                ⟨by have := EL.out h; omega, by rw [show p + 1 + (k + 1) = p + 2 + k by omega]; exact hS3, hB3, hG3, hW, by omega⟩
              clear hST HI hB3 hg3 hS3
              generalize nth (strI s) (p + 2 + k) = cc at *
              generalize dvI cc = d at *
              generalize hexTo (strI s) (p + 2) k = hx at *
              by_cases hge : 16 ≤ d
              · have hdec : decide ((16 : Int) ≤ d) = true := decide_eq_true hge
                have HRv : Hid (R = none) := EN.out (by
                  cases e : hexB cc
                  · rfl
                  · have := ED.out.2 e; omega)
                go_wp2_with fail
                refine (hDV _).mono ?_
                rintro e w' ⟨rfl, rfl⟩
                go_wp2_with fail
                rw [jumps_ret]
                go_ret2
                exact ⟨by rw [HRv.out]; rfl, hG3, fun bs q h => by rw [HRv.out] at h; cases h⟩
              · have hdec : decide ((16 : Int) ≤ d) = false := decide_eq_false hge
                have hlt16 : d < 16 := by omega
                have hy := ED.out.1 hlt16
                have hor := or_u8 hh.1 hh.2 d0 hlt16
                have hA : Hid (∀ j, j < k + 1 → hexB (nth (strI s) (p + 2 + j)) = true) := EA.out hy
                have HE4 : Hid (QuoI b s w (p + 1 + (k + 1)) zs w3) := HE3.out hy
                have hh0 := hh.1
                have hh1 := hh.2
                clear hy EA HE3 EL ED EN hh
                go_wp2_with fail
                refine (hDV _).mono ?_
                rintro e w' ⟨rfl, rfl⟩
                go_wp2_with fail
                go_roundw
                case rel => exact ⟨k + 1, by omega, by go_num, by rw [EH.out], HE4.out, hA.out⟩
                case measure => simp [intOf]; omega
            · obtain rfl : k = 2 := by omega
              have HRv : Hid (R = preQ (zs ++ [hexTo (strI s) (p + 2) 2]) (quotP (strI s) (p + 1 + 2 + 1))) := HY.out hall
              have hb1 : 0 ≤ hexTo (strI s) (p + 2) 2 ∧ hexTo (strI s) (p + 2) 2 < 256 := by
                have a := HH.out 1 (by omega) (fun j hj => hall j (by omega))
                have b := dv_lo (nth (strI s) (p + 2 + 1))
                have c := (dv_hex (nth (strI s) (p + 2 + 1))).2 (hall 1 (by omega))
                have e : hexTo (strI s) (p + 2) 2 = hexTo (strI s) (p + 2) 1 * 16 + dvI (nth (strI s) (p + 2 + 1)) := rfl
                omega
              have HI : Hid (QuoI b s w (p + 1 + 2) zs wr) := hI
              have hm := fun a' => HM.out (p + 1 + 2) wr a' (by omega) hI.1 hI.2.1
              clear hall hI
              generalize hexTo (strI s) (p + 2) 2 = hx at *
              go_wp2_with fail
              go_step3
              exact ⟨⟨p + 1 + 2, zs, hx, _, _, _, _, _, _, _, _, _, _, _, _, _, _, _, _, _, _, _, _, _, _, _, _, _, _, _, _, _, _, _, _, _, _, _, _, _, _, _, _, _, _, _, _, _, _, _, _, _, _, _, _, _, _, _, _, _, _, _, _, _, _, _, _, _, _, _, _, _, _, rfl, HI.out, HRv.out, hb1.1, hb1.2, by omega⟩, hm _⟩
        · have HRv : Hid (R = none) := HQ2.out c2 (fun h => cx h.1)
          have cx' : (nth (strI s) (p + 1) != 120) = true := by simpa using cx
          clear HQ1 HQ2 HQ3 HNX cx c2
          generalize nth (strI s) (p + 1) = c at *
          generalize kAt (strI s) (p + 1) = kd at *
          go_wp2_with fail
          rw [jumps_ret]
          go_ret2
          exact ⟨by rw [HRv.out]; rfl, hG2, fun bs q h => by rw [HRv.out] at h; cases h⟩

end Go.Proofs.YtgjedfmipllocaaGreatDoor

/-
  What strings.Clone returns: the text as it is; nothing that was there turns (the library's contract, laid at this program).
-/
namespace Go.Proofs.YtgjedfmipllocaaGreatDoor
open Go.RowKit Go.Shelf
set_option maxRecDepth 10000

def Cln.ren : Go.Shelf.Ren := ⟨fun | 316 => 95 | n => n, fun | 9 => 9 | 3 => 3 | 4 => 4 | 37 => 157 | 0 => 0 | 127 => 242 | 5 => 5 | n => n, fun | n => n⟩
theorem Cln.lays : Go.Proofs.LaysM.n316 Tryz.prog Cln.ren := {
  mixed := by kernel_rfl
  f316 := Tryz.func95.trans (congrArg some (by kernel_rfl))
  t0 := Tryz.underlying0
  a0 := Tryz.isAgg0
  z0 := Tryz.sizeOf0
  v0 := Tryz.zeroValue0
  t3 := Tryz.underlying3
  a3 := Tryz.isAgg3
  z3 := Tryz.sizeOf3
  v3 := Tryz.zeroValue3
  t4 := Tryz.underlying4
  a4 := Tryz.isAgg4
  z4 := Tryz.sizeOf4
  v4 := Tryz.zeroValue4
  t9 := Tryz.underlying9
  a9 := Tryz.isAgg9
  z9 := Tryz.sizeOf9
  v9 := Tryz.zeroValue9
  t37 := Tryz.underlying157
  a37 := Tryz.isAgg157
  z37 := Tryz.sizeOf157
  v37 := Tryz.zeroValue157
  t127 := Tryz.underlying242
  a127 := Tryz.isAgg242
  z127 := Tryz.sizeOf242
  v127 := Tryz.zeroValue242
  t5 := Tryz.underlying5
  a5 := Tryz.isAgg5
  z5 := Tryz.sizeOf5
  v5 := Tryz.zeroValue5
  i0 := by kernel_rfl
  i3 := by kernel_rfl
  i4 := by kernel_rfl
  i5 := by kernel_rfl
  i9 := by kernel_rfl
  i37 := by kernel_rfl
  i127 := by kernel_rfl }
theorem liteClone_any (s : ByteArray) (w : World) (hlim : s.size ≤ 281474976710656) :
    Calls Tryz.prog 95 #[.string s] w fun e w' => e = .returned (.string s) ∧ Below w.heap.size w w' := Any.stringslite_Clone Cln.lays s w hlim

theorem stringsClone_any (s : ByteArray) (w : World) (hlim : s.size ≤ 281474976710656) :
    Calls Tryz.prog 49 #[.string s] w fun e w' => e = .returned (.string s) ∧ Below w.heap.size w w' := by
  have hC := fun wx => liteClone_any s wx hlim
  go_enter Tryz.func49, Tryz.ntmps49
  go_wp2_with fail
  refine (hC _).mono ?_
  rintro e w' ⟨rfl, hb⟩
  go_wp2_with fail
  go_ret
  exact ⟨rfl, hb⟩

end Go.Proofs.YtgjedfmipllocaaGreatDoor

/-
  The scanner's tokens of the layer lex: what holds at each of its labels, and the passes from a token that is taken, from a whole piece and from a run. No condition but what each names.
-/
namespace Go.Proofs.YtgjedfmipllocaaGreatDoor
open Go.RowKit
set_option maxRecDepth 100000
set_option linter.unusedVariables false
set_option linter.unusedSimpArgs false
attribute [local go_sem] jumps_normal jumps_exit jumps_ret jumps_panic jumps_goto onNormal_normal

/-- The code within the first scope. -/
def inScope : Code → Code
  | .seq _ x => inScope x
  | .scope c => c
  | _ => .skip

/-- What holds of memory: the scanner, the spot, the tokens so far; no other block that was there has turned. -/
structure TokS (b : Nat) (s : ByteArray) (w : World) (p : Nat) (acc : List TokT) (v : Value) (w' : World) : Prop where
  scn : Scn b s p w'
  spot : w'.heap[w.heap.size]? = some (.cells #[.int .i64 0, .int .i64 0] 28 (0, 0))
  row : w'.ownsRow (w.heap.size + 2) 40 3 v acc.length (acc.flatMap tokC)
  grown : w.grownBy w' (some b)
  size : w.heap.size + 2 ≤ w'.heap.size
  at_le : p ≤ s.size
def BoxT (w w' : World) (x y z : Value) : Prop := w'.heap[w.heap.size + 1]? = some (.cells #[x, y, z] 40 (0, 0))

/-- What the tokens come to when a piece from fr to e is to be a token of kind K at p0. -/
def tokRes (l : List Int) (acc : List TokT) (K : Int) (fr p0 e : Nat) : TokR := joinR acc (if tokOk K (cutL l fr e) = true then consR (K, strOfNums (cutL l fr e), (p0 : Int)) (toksP l e) else ([], 62, (p0 : Int)))

/-- The frame: what its slots hold. -/
def FrmT (b : Nat) (w : World) (v : Value) (a' : Act) : Prop := ∃ t : Array Value, a' = { tmps := t, defers := [] } ∧ t.size = 99 ∧ slot t 0 = .pointer (some ⟨b, 0, none⟩) ∧ slot t 3 = .pointer (some ⟨w.heap.size, 0, none⟩) ∧ slot t 4 = v ∧ slot t 5 = .pointer (some ⟨w.heap.size + 1, 0, none⟩)
def FrmF (b : Nat) (w : World) (v : Value) (fr : Nat) (a' : Act) : Prop := ∃ t : Array Value, a' = { tmps := t, defers := [] } ∧ t.size = 99 ∧ slot t 0 = .pointer (some ⟨b, 0, none⟩) ∧ slot t 3 = .pointer (some ⟨w.heap.size, 0, none⟩) ∧ slot t 4 = v ∧ slot t 5 = .pointer (some ⟨w.heap.size + 1, 0, none⟩) ∧ slot t 6 = .int .i64 fr

def TokJ (b : Nat) (s : ByteArray) (w : World) (R : TokR) : Nat → Act → World → Prop
  | 0, a', w' => ∃ (p : Nat) (acc : List TokT) (v x y z : Value), FrmT b w v a' ∧ TokS b s w p acc v w' ∧ BoxT w w' x y z ∧ R = joinR acc (toksP (strI s) p) ∧ acc.length ≤ p
  | 1, a', w' => ∃ (p p0 fr rs : Nat) (K : Int) (acc : List TokT) (v y : Value), FrmF b w v fr a' ∧ TokS b s w p acc v w' ∧ BoxT w w' (.int .u8 K) y (.int .i64 p0) ∧ R = tokRes (strI s) acc K fr p0 (runE (strI s) rs) ∧ (∀ i, rs ≤ i → i < p → runB (nth (strI s) i) = true) ∧ fr ≤ rs ∧ rs ≤ p ∧ p0 + 1 ≤ runE (strI s) rs ∧ 0 ≤ K ∧ K < 256 ∧ acc.length ≤ p0
  | 2, a', w' => ∃ (p p0 : Nat) (K : Int) (t : ByteArray) (acc : List TokT) (v : Value), FrmT b w v a' ∧ TokS b s w p acc v w' ∧ BoxT w w' (.int .u8 K) (.string t) (.int .i64 p0) ∧ R = joinR (acc ++ [(K, t, (p0 : Int))]) (toksP (strI s) p) ∧ p0 + 1 ≤ p ∧ acc.length ≤ p0
  | 3, a', w' => ∃ (p p0 fr : Nat) (K : Int) (acc : List TokT) (v y : Value), FrmF b w v fr a' ∧ TokS b s w p acc v w' ∧ BoxT w w' (.int .u8 K) y (.int .i64 p0) ∧ R = tokRes (strI s) acc K fr p0 p ∧ fr ≤ p ∧ p0 + 1 ≤ p ∧ 0 ≤ K ∧ K < 256 ∧ acc.length ≤ p0
  | _, _, _ => False
/-- Where the token in hand begins. -/
def boxAt (w w' : World) : Nat := match w'.cell? ⟨w.heap.size + 1, 2, none⟩ with
  | some (.int _ n) => n.toNat
  | _ => 0
def TokM (b : Nat) (s : ByteArray) (w : World) (l : Nat) (_ : Act) (w' : World) : Nat :=
  if l = 0 then (s.size - posOf b w') * (s.size + 3) + (s.size + 2) else (s.size - boxAt w w') * (s.size + 3) + (if l = 1 then s.size - posOf b w' + 1 else 0)
theorem box_at {w w' : World} {x y : Value} {p0 : Nat} (h : BoxT w w' x y (.int .i64 p0)) : boxAt w w' = p0 := by
  have : w'.cell? ⟨w.heap.size + 1, 2, none⟩ = some (.int .i64 p0) := by rw [Lib.cell_of_heap h]; rfl
  unfold boxAt; rw [this]; simp
theorem mul_step {L a c : Nat} (h : a + 1 ≤ c) (hc : c ≤ L) : (L - c) * (L + 3) + (L + 2) < (L - a) * (L + 3) := by
  have h1 : L - c + 1 ≤ L - a := by omega
  have := Nat.mul_le_mul_right (L + 3) h1
  rw [Nat.add_mul] at this; omega

theorem setCell_high {w w1 : World} {r : Option Nat} (h : w.grownBy w1 r) {g : Nat} (hg : w.heap.size ≤ g) (i : Nat) (u : Value) : w.grownBy (w1.setCell ⟨g, i, none⟩ u) r :=
  ⟨h.os, h.tape, h.output, by simpa [World.setCell] using h.size, fun k hk hr => (Below.heap_setCell _ _ _ _ (by simp only; omega)).trans (h.block k hk hr)⟩
theorem row_block {w' : World} {B n : Nat} {v : Value} {xs : List Value} (h : w'.ownsRow B 40 3 v n xs) {k : Nat} (hk : k < B) : v.ownBlock = none ∨ v.ownBlock ≠ some k := by
  cases e : v.ownBlock with
  | none => exact .inl rfl
  | some g => exact .inr fun e' => by have := (h.lt g e).1; simp at e'; omega

/-- The scanner goes on. -/
theorem TokS.next {b : Nat} {s : ByteArray} {w w1 w2 : World} {p q : Nat} {acc : List TokT} {v : Value} (hb : b < w.heap.size) (h : TokS b s w p acc v w1) (hg : w1.grownBy w2 (some b)) (hS : Scn b s q w2) (hq : q ≤ s.size) : TokS b s w q acc v w2 :=
  ⟨hS, (hg.block _ (by have := h.size; omega) (by simp; omega)).trans h.spot, h.row.kept hg (row_block h.row (by omega)), grown_trans h.grown hg, Nat.le_trans h.size hg.size, hq⟩
theorem BoxT.next {b : Nat} {w w1 w2 : World} {x y z : Value} (hb : b < w.heap.size) (h : BoxT w w1 x y z) (hg : w1.grownBy w2 (some b)) : BoxT w w2 x y z :=
  (hg.block _ (Array.getElem?_eq_some_iff.1 h).1 (by simp; omega)).trans h
theorem TokS.below {b : Nat} {s : ByteArray} {w w1 w2 : World} {p : Nat} {acc : List TokT} {v : Value} (hb : b < w.heap.size) (h : TokS b s w p acc v w1) (hg : Below w1.heap.size w1 w2) : TokS b s w p acc v w2 := by
  have hs := h.size
  exact ⟨(hg.block _ (by omega)).trans h.scn, (hg.block _ (by omega)).trans h.spot, own_below h.row hg, grown_belowX h.grown hg (by omega), Nat.le_trans hs hg.size, h.at_le⟩
theorem BoxT.below {w w1 w2 : World} {x y z : Value} (h : BoxT w w1 x y z) (hg : Below w1.heap.size w1 w2) : BoxT w w2 x y z := (hg.block _ (Array.getElem?_eq_some_iff.1 h).1).trans h
theorem TokS.box {b : Nat} {s : ByteArray} {w w1 : World} {p : Nat} {acc : List TokT} {v : Value} (hb : b < w.heap.size) (h : TokS b s w p acc v w1) (i : Nat) (u : Value) : TokS b s w p acc v (w1.setCell ⟨w.heap.size + 1, i, none⟩ u) :=
  ⟨(Below.heap_setCell _ _ _ _ (by simp; omega)).trans h.scn, (Below.heap_setCell _ _ _ _ (by simp)).trans h.spot, ownsRow_setCell_below h.row (by simp) _, setCell_high h.grown (by omega) _ _, by simpa [World.setCell] using h.size, h.at_le⟩
theorem TokS.drew {b : Nat} {s : ByteArray} {w w1 : World} {p : Nat} {acc : List TokT} {v : Value} (h : TokS b s w p acc v w1) : TokS b s w p acc v w1.drew :=
  ⟨h.scn, h.spot, own_below h.row (Below.drew (Below.refl _ _)), grown_drew1 h.grown, h.size, h.at_le⟩
theorem BoxT.drew {w w1 : World} {x y z : Value} (h : BoxT w w1 x y z) : BoxT w w1.drew x y z := h
theorem BoxT.set0 {w w1 : World} {x y z : Value} (h : BoxT w w1 x y z) (u : Value) : BoxT w (w1.setCell ⟨w.heap.size + 1, 0, none⟩ u) u y z := by
  unfold BoxT at *; simp [World.setCell, Array.getElem?_modify, h]
theorem BoxT.set1 {w w1 : World} {x y z : Value} (h : BoxT w w1 x y z) (u : Value) : BoxT w (w1.setCell ⟨w.heap.size + 1, 1, none⟩ u) x u z := by
  unfold BoxT at *; simp [World.setCell, Array.getElem?_modify, h]
theorem BoxT.set2 {w w1 : World} {x y z : Value} (h : BoxT w w1 x y z) (u : Value) : BoxT w (w1.setCell ⟨w.heap.size + 1, 2, none⟩ u) x y u := by
  unfold BoxT at *; simp [World.setCell, Array.getElem?_modify, h]
theorem BoxT.cells {w w1 : World} {x y z : Value} (h : BoxT w w1 x y z) : w1.cell? ⟨w.heap.size + 1, 0, none⟩ = some x ∧ w1.cell? ⟨w.heap.size + 1, 1, none⟩ = some y ∧ w1.cell? ⟨w.heap.size + 1, 2, none⟩ = some z ∧ ∀ i, w1.frozen? ⟨w.heap.size + 1, i, none⟩ = false := by
  unfold BoxT at h
  refine ⟨?_, ?_, ?_, fun i => ?_⟩ <;> simp [World.cell?, World.frozen?, h]
theorem TokS.cells {b : Nat} {s : ByteArray} {w w1 : World} {p : Nat} {acc : List TokT} {v : Value} (h : TokS b s w p acc v w1) : w1.cell? ⟨w.heap.size, 0, none⟩ = some (.int .i64 0) ∧ w1.cell? ⟨w.heap.size, 1, none⟩ = some (.int .i64 0) ∧ ∀ i, w1.frozen? ⟨w.heap.size, i, none⟩ = false := by
  have := h.spot
  refine ⟨?_, ?_, fun i => ?_⟩ <;> simp [World.cell?, World.frozen?, this]

theorem TokL.info : (Tryz.prog.info? 40).map (fun i => (i.zero, i.size, i.bytes)) = some (some (.agg #[.int .u8 0, .string ⟨#[]⟩, .int .i64 0]), 3, 32) := by kernel_rfl
theorem flatT_push (l : List TokT) (x : TokT) : (l ++ [x]).flatMap tokC = l.flatMap tokC ++ tokC x := by simp

/-- The answers. -/
def TokQ (b : Nat) (s : ByteArray) (w : World) (R : TokR) (Q : Exit → Act → World → Prop) : Prop :=
  ∀ (a' : Act) (w' : World) (v : Value), a'.tmps.getD 2 undef = v → a'.tmps.getD 3 undef = .pointer (some ⟨w.heap.size, 0, none⟩) → a'.defers = [] → w'.heap[w.heap.size]? = some (.cells #[.int .i64 R.2.1, .int .i64 R.2.2] 28 (0, 0)) → w'.ownsRow (w.heap.size + 2) 40 3 v R.1.length (R.1.flatMap tokC) → w.grownBy w' (some b) → Q .ret a' w'
theorem spot_put {w w1 : World} {x y : Value} (h : w1.heap[w.heap.size]? = some (.cells #[x, y] 28 (0, 0))) (u t : Value) : ((w1.setCell ⟨w.heap.size, 0, none⟩ u).setCell ⟨w.heap.size, 1, none⟩ t).heap[w.heap.size]? = some (.cells #[u, t] 28 (0, 0)) := by
  simp [World.setCell, Array.getElem?_modify, h]

set_option maxHeartbeats 4000000 in
theorem tok_taken (b : Nat) (s : ByteArray) (w : World) (R : TokR) (Q : Exit → Act → World → Prop) (hb : b < w.heap.size) (hs : 32 * s.size + 64 ≤ 140737488351232) (n : Nat) (a : Act) (w1 : World) (hJ : TokJ b s w R 2 a w1) (hN : TokM b s w 2 a w1 ≤ n) :
    (behind (findLabel (inScope (Tryz.f51.body.getD .skip)) 2)).wp Tryz.prog (jumps (fun l' a' w' => TokJ b s w R l' a' w' ∧ TokM b s w l' a' w' < n) Q) a w1 := by
  obtain ⟨p, p0, K, t, acc, v, ⟨f, rfl, hsz, h0, h3, h4, h5⟩, hS, hB, hR, hp, hacc⟩ := hJ
  conv => arg 2; whnf
  rw [frame99 f hsz, h0, h3, h4, h5]
  clear h0 h3 h4 h5 hsz
  obtain ⟨i0, hi, hz0, hz1, hz2⟩ := info_parts TokL.info
  obtain ⟨x0, x1, x2, _⟩ := hB.cells
  have hle := hS.at_le
  have HM : Hid ((s.size - p0) * (s.size + 3) ≤ n) := by
    unfold TokM at hN
    rw [box_at hB] at hN
    show _ ≤ _
    simpa using hN
  have hrow := hS.row.alloc (.cells #[.int .u8 K, .string t, .int .i64 p0] 40)
  go_wp2_with (at_builtin; refine wpList_append_own _ rfl (.tmp 95) (.tmp 97) 36 rfl (w.heap.size + 2) 40 i0 (.agg #[.int .u8 0, .string ⟨#[]⟩, .int .i64 0]) 3 32 Tryz.underlying36 hi hz0 hz1 hz2 rfl (by decide) _ acc.length (acc.flatMap tokC) rfl hrow ⟨w1.heap.size, 0, none⟩ 1 1 [.int .u8 K, .string t, .int .i64 p0] rfl rfl ?c1 ?c2 ?c3 ?c4 ?c5 ?_)
  case c1 =>
    intro j u hj
    match j, hj with
    | 0, hj => simp at hj; subst hj; simp [Addr.add]
    | 1, hj => simp at hj; subst hj; simp [Addr.add]
    | 2, hj => simp at hj; subst hj; simp [Addr.add]
  case c2 => intro u hu; simp at hu; rcases hu with rfl | rfl | rfl <;> rfl
  case c3 => unfold maxLen; omega
  case c4 => omega
  case c5 => have := hS.size; simp; omega
  intro v' w2 hown hgr _
  have hszw := hS.size
  have hwa : ∀ k, k < w.heap.size + 2 → w2.heap[k]? = w1.heap[k]? := fun k hk => by
    rw [hgr.block k (by simp; omega) (fun e => by have := (hS.row.lt k e.symm).1; omega)]
    exact Below.heap_alloc _ _ _ (by omega)
  have hS2 : TokS b s w p (acc ++ [(K, t, (p0 : Int))]) v' w2 := by
    refine ⟨(hwa b (by omega)).trans hS.scn, (hwa _ (by omega)).trans hS.spot, ?_, ?_, ?_, hle⟩
    · rw [flatT_push, List.length_append]; exact hown
    · have hg1 := grown_trans hS.grown (World.grownBy_alloc w1 (.cells #[.int .u8 K, .string t, .int .i64 p0] 40) (some b))
      exact ⟨hgr.os.trans hg1.os, hgr.tape.trans hg1.tape, hgr.output.trans hg1.output, Nat.le_trans hg1.size hgr.size, fun k hk hr => (hwa k (by omega)).trans (hS.grown.block k hk hr)⟩
    · have := hgr.size; simp at this; omega
  have hB2 : BoxT w w2 (.int .u8 K) (.string t) (.int .i64 p0) := (hwa _ (by omega)).trans hB
  have HS2 : Hid (TokS b s w p (acc ++ [(K, t, (p0 : Int))]) v' w2) := hS2
  have HB2 : Hid (BoxT w w2 (.int .u8 K) (.string t) (.int .i64 p0)) := hB2
  have HR : Hid (R = joinR (acc ++ [(K, t, (p0 : Int))]) (toksP (strI s) p)) := hR
  clear hown hgr hwa hrow x0 x1 x2 hS hB hS2 hB2 hR hN
  go_wp2_with fail
  go_step3
  refine ⟨⟨p, acc ++ [(K, t, (p0 : Int))], v', _, _, _, ⟨_, rfl, rfl, rfl, rfl, rfl, rfl⟩, HS2.out, HB2.out, HR.out, by simp; omega⟩, ?_⟩
  unfold TokM
  rw [if_pos rfl, pos_scn HS2.out.scn]
  exact Nat.lt_of_lt_of_le (mul_step hp hle) HM.out

set_option maxHeartbeats 4000000 in
theorem tok_whole (b : Nat) (s : ByteArray) (w : World) (R : TokR) (Q : Exit → Act → World → Prop) (hb : b < w.heap.size) (hs : 32 * s.size + 64 ≤ 140737488351232) (hQ : TokQ b s w R Q)
    (hP : ∀ n a w1, TokJ b s w R 2 a w1 → TokM b s w 2 a w1 ≤ n → (behind (findLabel (inScope (Tryz.f51.body.getD .skip)) 2)).wp Tryz.prog (jumps (fun l' a' w' => TokJ b s w R l' a' w' ∧ TokM b s w l' a' w' < n) Q) a w1)
    (n : Nat) (a : Act) (w1 : World) (hJ : TokJ b s w R 3 a w1) (hN : TokM b s w 3 a w1 ≤ n) :
    (behind (findLabel (inScope (Tryz.f51.body.getD .skip)) 3)).wp Tryz.prog (jumps (fun l' a' w' => TokJ b s w R l' a' w' ∧ TokM b s w l' a' w' < n) Q) a w1 := by
  obtain ⟨p, p0, fr, K, acc, v, y, ⟨f, rfl, hsz, h0, h3, h4, h5, h6⟩, hS, hB, hR, hfr, hp, hK0, hK1, hacc⟩ := hJ
  conv => arg 2; whnf
  rw [frame99 f hsz, h0, h3, h4, h5, h6]
  clear h0 h3 h4 h5 h6 hsz
  obtain ⟨x0, x1, x2, xf⟩ := hB.cells
  obtain ⟨s0, s1, s2, s3, sf⟩ := scn_cells hS.scn
  have hle := hS.at_le
  have HM : Hid ((s.size - p0) * (s.size + 3) ≤ n) := by
    unfold TokM at hN
    rw [box_at hB] at hN
    show _ ≤ _
    simpa using hN
  have HE : Hid (strOfNums (cutL (strI s) fr p) = s.extract fr p) := by
    show _ = _
    rw [← str_of_strI (s.extract fr p), strI_extract]; rfl
  have HE2 : Hid (strI (s.extract fr p) = cutL (strI s) fr p) := strI_extract s fr p
  have hes : (s.extract fr p).size ≤ s.size := by rw [ByteArray.size_extract]; omega
  have hC := fun wx => stringsClone_any (s.extract fr p) wx (by omega)
  have hMB := fun wx => mayBe_any K (s.extract fr p) (p0 : Int) wx hK0 hK1 (by omega)
  rw [HE2.out] at hMB
  have HS : Hid (TokS b s w p acc v w1) := hS
  have HB : Hid (BoxT w w1 (.int .u8 K) y (.int .i64 p0)) := hB
  have HR : Hid (R = tokRes (strI s) acc K fr p0 p) := hR
  have f1 := xf 1
  have hfi : (fr : Int) ≤ (p : Int) := by omega
  have hpi : (p : Int) ≤ (s.size : Int) := by omega
  have HC1 : Hid (∀ w2, Below w1.drew.heap.size w1.drew w2 → w2.cell? ⟨w.heap.size + 1, 1, none⟩ = some y) := fun w2 h => (h.cell (p := ⟨w.heap.size + 1, 1, none⟩) (Array.getElem?_eq_some_iff.1 hB).1).trans x1
  have HC2 : Hid (∀ w2, Below w1.drew.heap.size w1.drew w2 → w2.frozen? ⟨w.heap.size + 1, 1, none⟩ = false) := fun w2 h => (h.frozen (p := ⟨w.heap.size + 1, 1, none⟩) (Array.getElem?_eq_some_iff.1 hB).1).trans f1
  clear hS hB hR hN xf sf s2 s3 x0 x1 x2 f1
  go_wp2_with fail
  refine wp_norm ?_
  go_region_with (go_at_call 49; refine (hC _).mono ?_; rintro e w2 ⟨rfl, hb2⟩; have q1 := HC1.out w2 hb2; have q2 := HC2.out w2 hb2)
  all_goals
    have hS2 := (TokS.below hb HS.out.drew hb2).box hb 1 (.string (s.extract fr p))
    have hB2 := (BoxT.below HB.out.drew hb2).set1 (.string (s.extract fr p))
    obtain ⟨y0, y1, y2, _⟩ := hB2.cells
    have HS2 : Hid (TokS b s w p acc v (w2.setCell ⟨w.heap.size + 1, 1, none⟩ (.string (s.extract fr p)))) := hS2
    have HB2 : Hid (BoxT w (w2.setCell ⟨w.heap.size + 1, 1, none⟩ (.string (s.extract fr p))) (.int .u8 K) (.string (s.extract fr p)) (.int .i64 p0)) := hB2
    clear hS2 hB2 q1 q2 hb2
    generalize w2.setCell ⟨w.heap.size + 1, 1, none⟩ (.string (s.extract fr p)) = w3 at *
    rw [onNormal_normal]
    go_wp2_with fail
    refine (hMB _).mono ?_
    rintro e w4 ⟨rfl, hb4⟩
    have hS4 := TokS.below hb HS2.out hb4
    have hB4 := BoxT.below HB2.out hb4
    clear HS2 HB2 hb4 y0 y1 y2
    cases hok : tokOk K (cutL (strI s) fr p)
    · have HRv : Hid (R = ([], 62, (p0 : Int))) := by
        show _ = _
        rw [HR.out, tokRes, if_neg (by simp [hok])]; rfl
      obtain ⟨y0, y1, y2, _⟩ := hB4.cells
      obtain ⟨z0, z1, zf⟩ := hS4.cells
      have f0 := zf 0
      have f1 := zf 1
      have HX : Hid (((w4.drew.setCell ⟨w.heap.size, 0, none⟩ (.int .i64 62)).setCell ⟨w.heap.size, 1, none⟩ (.int .i64 p0)).heap[w.heap.size]? = some (.cells #[.int .i64 62, .int .i64 p0] 28 (0, 0))) := spot_put hS4.spot _ _
      have HG : Hid (w.grownBy ((w4.drew.setCell ⟨w.heap.size, 0, none⟩ (.int .i64 62)).setCell ⟨w.heap.size, 1, none⟩ (.int .i64 p0)) (some b)) := setCell_high (setCell_high (grown_drew1 hS4.grown) (Nat.le_refl _) _ _) (Nat.le_refl _) _ _
      clear hS4 hB4 zf
      go_wp2_with fail
      refine wp_norm ?_
      go_region
      rw [onNormal_normal]
      go_wp2_with fail
      rw [jumps_ret]
      refine hQ _ _ (.slice none 0 0) rfl rfl rfl ?_ ?_ HG.out
      · rw [HRv.out]; exact HX.out
      · rw [HRv.out]; exact World.ownsRow_nil _ _ _ _
    · have HRv : Hid (R = joinR (acc ++ [(K, s.extract fr p, (p0 : Int))]) (toksP (strI s) p)) := by
        show _ = _
        rw [HR.out, tokRes, if_pos hok, join_cons, HE.out]
      have HS4 : Hid (TokS b s w p acc v w4) := hS4
      have HB4 : Hid (BoxT w w4 (.int .u8 K) (.string (s.extract fr p)) (.int .i64 p0)) := hB4
      clear hS4 hB4
      go_wp2_with fail
      refine wp_label ?_
      rename_i Kx hKx
      refine hKx _ _ (hP n _ _ ⟨p, p0, K, s.extract fr p, acc, v, ⟨_, rfl, rfl, rfl, rfl, rfl, rfl⟩, HS4.out, HB4.out, HRv.out, hp, hacc⟩ ?_)
      unfold TokM
      rw [box_at HB4.out]
      simpa using HM.out

set_option maxHeartbeats 4000000 in
theorem tok_run (b : Nat) (s : ByteArray) (w : World) (R : TokR) (Q : Exit → Act → World → Prop) (hb : b < w.heap.size) (hs : 32 * s.size + 64 ≤ 140737488351232)
    (hP : ∀ n a w1, TokJ b s w R 3 a w1 → TokM b s w 3 a w1 ≤ n → (behind (findLabel (inScope (Tryz.f51.body.getD .skip)) 3)).wp Tryz.prog (jumps (fun l' a' w' => TokJ b s w R l' a' w' ∧ TokM b s w l' a' w' < n) Q) a w1)
    (n : Nat) (a : Act) (w1 : World) (hJ : TokJ b s w R 1 a w1) (hN : TokM b s w 1 a w1 ≤ n) :
    (behind (findLabel (inScope (Tryz.f51.body.getD .skip)) 1)).wp Tryz.prog (jumps (fun l' a' w' => TokJ b s w R l' a' w' ∧ TokM b s w l' a' w' < n) Q) a w1 := by
  obtain ⟨p, p0, fr, rs, K, acc, v, y, ⟨f, rfl, hsz, h0, h3, h4, h5, h6⟩, hS, hB, hR, hrun, hfr, hrs, hp, hK0, hK1, hacc⟩ := hJ
  conv => arg 2; whnf
  rw [frame99 f hsz, h0, h3, h4, h5, h6]
  clear h0 h3 h4 h5 h6 hsz
  obtain ⟨s0, s1, s2, s3, sf⟩ := scn_cells hS.scn
  have hle := hS.at_le
  have HM : Hid ((s.size - p0) * (s.size + 3) + (s.size - p + 1) ≤ n) := by
    unfold TokM at hN
    rw [box_at hB, pos_scn hS.scn] at hN
    show _ ≤ _
    simpa using hN
  have hkb : 0 ≤ kAt (strI s) p ∧ kAt (strI s) p < 256 := by
    unfold kAt; split
    · have := kind_lo (nth (strI s) p); have := kind_hi (nth (strI s) p); omega
    · omega
  have hIR := fun wx => inRun_any (kAt (strI s) p) wx hkb.1 hkb.2
  have HS : Hid (TokS b s w p acc v w1) := hS
  have HB : Hid (BoxT w w1 (.int .u8 K) y (.int .i64 p0)) := hB
  have HR : Hid (R = tokRes (strI s) acc K fr p0 (runE (strI s) rs)) := hR
  have HRUN : Hid (∀ i, rs ≤ i → i < p → runB (nth (strI s) i) = true) := hrun
  have hrl : (strI s).length = s.size := strI_len s
  by_cases hin : p < s.size ∧ runB (nth (strI s) p) = true
  · have hkr : (kAt (strI s) p == 3 || kAt (strI s) p == 4) = true := by
      unfold kAt; rw [if_pos (by omega), kind_run]; exact hin.2
    have hST := step_any b p s w1 hS.scn (by omega) (by omega)
    have HIN : Hid (runB (nth (strI s) p) = true) := hin.2
    have hlt := hin.1
    rw [hkr] at hIR
    clear hS hB hR hN hrun sf hin hrl hkr hkb
    generalize kAt (strI s) p = kd at *
    generalize nth (strI s) p = c at s2
    go_wp2_with fail
    refine (hIR _).mono ?_
    rintro e w' ⟨rfl, rfl⟩
    go_wp2_with fail
    refine hST.mono ?_
    rintro e w2 ⟨rfl, hS2, hg2⟩
    have HS2 : Hid (TokS b s w (p + 1) acc v w2) := TokS.next hb HS.out hg2 hS2 (by omega)
    have HB2 : Hid (BoxT w w2 (.int .u8 K) y (.int .i64 p0)) := BoxT.next hb HB.out hg2
    clear hST hS2 hg2 s0 s1 s2 s3
    go_wp2_with fail
    go_step3
    refine ⟨⟨p + 1, p0, fr, rs, K, acc, v, y, ⟨_, rfl, rfl, rfl, rfl, rfl, rfl, rfl⟩, HS2.out, HB2.out, HR.out, fun i h1 h2 => ?_, hfr, by omega, hp, hK0, hK1, hacc⟩, ?_⟩
    · by_cases e : i = p
      · subst e; exact HIN.out
      · exact HRUN.out i h1 (by omega)
    · unfold TokM
      rw [box_at HB2.out, pos_scn HS2.out.scn]
      have := HM.out
      simp only [Nat.one_ne_zero, if_false, if_true]
      omega
  · have hkr : (kAt (strI s) p == 3 || kAt (strI s) p == 4) = false := by
      unfold kAt; split
      · rw [kind_run]
        cases e : runB (nth (strI s) p)
        · rfl
        · exact absurd ⟨by omega, e⟩ hin
      · rfl
    have hE : runE (strI s) rs = p := runE_spec hrs (by omega) hrun (by
      by_cases h : p < s.size
      · right
        cases e : runB (nth (strI s) p)
        · rfl
        · exact absurd ⟨h, e⟩ hin
      · left; omega)
    have HR2 : Hid (R = tokRes (strI s) acc K fr p0 p) := by rw [hE] at hR; exact hR
    have hp2 : p0 + 1 ≤ p := by omega
    rw [hkr] at hIR
    clear hS hB hR hN hrun sf hin hrl hkr hkb hE
    generalize kAt (strI s) p = kd at *
    generalize nth (strI s) p = c at s2
    go_wp2_with fail
    refine (hIR _).mono ?_
    rintro e w' ⟨rfl, rfl⟩
    go_wp2_with fail
    refine wp_label ?_
    rename_i Kx hKx
    refine hKx _ _ (hP n _ _ ⟨p, p0, fr, K, acc, v, y, ⟨_, rfl, rfl, rfl, rfl, rfl, rfl, rfl⟩, HS.out, HB.out, HR2.out, by omega, hp2, hK0, hK1, hacc⟩ ?_)
    unfold TokM
    rw [box_at HB.out]
    have := HM.out
    simp only [show (3 : Nat) ≠ 0 by decide, show (3 : Nat) ≠ 1 by decide, if_false]
    omega

end Go.Proofs.YtgjedfmipllocaaGreatDoor
