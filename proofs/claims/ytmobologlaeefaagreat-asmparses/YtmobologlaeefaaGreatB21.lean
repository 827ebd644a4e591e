/-
  Texts laid together in one: Ref07ParseF.
-/
import Derived.WalkSpells
import Derived.WalkMore
import Derived.BigRegion
import Derived.Deep.RegionWith
import Derived.Deep.AppendLies
import Derived.RangeFuncNested
import Derived.OwnWalkIn
import Derived.TacticsInMore
import Derived.Test.YtmobologlaeefaaGreatProg
import Derived.Test.YtmobologlaeefaaGreatB20
/-
  What Parse of the document's answer for layer 7 returns.
-/
namespace Go.Proofs.YtmobologlaeefaaGreat
open Go.RowKit
set_option linter.unusedVariables false
set_option linter.unusedSimpArgs false
set_option maxRecDepth 20000

theorem StrsV.row {W W' : World} {a : Option Addr} {l : List ByteArray} {row : Option Nat} (h : StrsV W a l) (hg : W.grownBy W' row) (hne : ∀ b off, a = some ⟨b, off, none⟩ → row ≠ some b) : StrsV W' a l := by
  intro j hj
  obtain ⟨b, off, e, h1, h2⟩ := h j hj
  refine ⟨b, off, e, Nat.lt_of_lt_of_le h1 hg.size, ?_⟩
  simp only [World.cell?] at h2 ⊢
  rw [hg.block b h1 (fun e2 => hne b off e e2.symm)]
  exact h2
theorem frame129 (t : Array Value) (h : t.size = 129) : t = #[slot t 0, slot t 1, slot t 2, slot t 3, slot t 4, slot t 5, slot t 6, slot t 7, slot t 8, slot t 9, slot t 10, slot t 11, slot t 12, slot t 13, slot t 14, slot t 15, slot t 16, slot t 17, slot t 18, slot t 19, slot t 20, slot t 21, slot t 22, slot t 23, slot t 24, slot t 25, slot t 26, slot t 27, slot t 28, slot t 29, slot t 30, slot t 31, slot t 32, slot t 33, slot t 34, slot t 35, slot t 36, slot t 37, slot t 38, slot t 39, slot t 40, slot t 41, slot t 42, slot t 43, slot t 44, slot t 45, slot t 46, slot t 47, slot t 48, slot t 49, slot t 50, slot t 51, slot t 52, slot t 53, slot t 54, slot t 55, slot t 56, slot t 57, slot t 58, slot t 59, slot t 60, slot t 61, slot t 62, slot t 63, slot t 64, slot t 65, slot t 66, slot t 67, slot t 68, slot t 69, slot t 70, slot t 71, slot t 72, slot t 73, slot t 74, slot t 75, slot t 76, slot t 77, slot t 78, slot t 79, slot t 80, slot t 81, slot t 82, slot t 83, slot t 84, slot t 85, slot t 86, slot t 87, slot t 88, slot t 89, slot t 90, slot t 91, slot t 92, slot t 93, slot t 94, slot t 95, slot t 96, slot t 97, slot t 98, slot t 99, slot t 100, slot t 101, slot t 102, slot t 103, slot t 104, slot t 105, slot t 106, slot t 107, slot t 108, slot t 109, slot t 110, slot t 111, slot t 112, slot t 113, slot t 114, slot t 115, slot t 116, slot t 117, slot t 118, slot t 119, slot t 120, slot t 121, slot t 122, slot t 123, slot t 124, slot t 125, slot t 126, slot t 127, slot t 128] := (frame_eq t 129 h).trans rfl
theorem four_putP {W : World} {b T : Nat} {x0 x1 x2 x3 : Value} (h : W.heap[b]? = some (.cells #[x0, x1, x2, x3] T (0, 0))) (u0 u1 u2 u3 : Value) : ((((W.setCell ⟨b, 0, none⟩ u0).setCell ⟨b, 1, none⟩ u1).setCell ⟨b, 2, none⟩ u2).setCell ⟨b, 3, none⟩ u3).heap[b]? = some (.cells #[u0, u1, u2, u3] T (0, 0)) ∧ ∀ j, j ≠ b → ((((W.setCell ⟨b, 0, none⟩ u0).setCell ⟨b, 1, none⟩ u1).setCell ⟨b, 2, none⟩ u2).setCell ⟨b, 3, none⟩ u3).heap[j]? = W.heap[j]? :=
  ⟨by simp [World.setCell, Array.getElem?_modify, h], fun j hj => by rw [Below.heap_setCell _ _ _ _ (by simpa using hj), Below.heap_setCell _ _ _ _ (by simpa using hj), Below.heap_setCell _ _ _ _ (by simpa using hj), Below.heap_setCell _ _ _ _ (by simpa using hj)]⟩
theorem line_says (s : ByteArray) (b : Int) (hs : s.size ≤ 16777216) : (lineS s b).2.1 = true → InstOk (lineS s b).1 ∧ rawE (lineS s b).1 b = 0 := by
  unfold lineS
  split
  · intro h; simp [noLine] at h
  · intro h
    obtain ⟨_, _, g3, g4, _⟩ := toks_good (strI_within s) 0
    have hin := toksIn_of (l := (toksP (strI s) 0).1) (n := (strI s).length) (by rw [strI_len]; omega) g4
    rw [strI_len] at g3
    obtain ⟨p1, p2, _⟩ := lineP_says (l := (toksP (strI s) 0).1) (len := (s.size : Int)) (b := b) hin (by omega) h
    exact ⟨p1, p2⟩

set_option maxHeartbeats 8000000 in
theorem refParse7_large (s : ByteArray) (w : World) (hs : 16777216 < s.size) :
    Calls Tryz.prog 8 #[.string s] w fun e w' => ParQ w w' (parseS s) e := by
  have hsi : decide ((16777216 : Int) < (s.size : Int)) = true := by simpa using (by omega : (16777216 : Int) < (s.size : Int))
  have HR : Hid (parseS s = ((0, 0, []), 4, 0)) := by show _ = _; unfold parseS; rw [if_pos hs]
  clear hs
  go_enter Tryz.func8, Tryz.ntmps8
  go_wp2_with fail
  refine wp_norm ?_
  go_region_with ((go_at_call 22; refine (refSpot_exact _ _ _).mono ?_; rintro x w5 ⟨rfl, rfl⟩))
  all_goals
    rw [onNormal_normal]
    go_wp2_with fail
    refine bodyPost_ret (v := .tuple #[.agg #[.int .u32 0, .int .u32 0, .slice none 0 0], .agg #[.int .i64 4, .int .i64 0]]) ?_ rfl ?_
    · simp [results, Tryz.results8, go_sem, World.setCell, Array.getElem?_modify]
    · unfold ParQ
      rw [HR.out]
      refine ⟨none, 0, 0, rfl, instsV_nil, rfl, fun j hj => by simp at hj, ?_⟩
      exact (((((Below.refl _ w).alloc (Nat.le_refl _) _).alloc (by simp) _).alloc (by simp; omega) _).alloc (by simp; omega) _).drew

set_option maxHeartbeats 16000000 in
theorem refParse7_main (s : ByteArray) (w : World) (hs : s.size ≤ 16777216) :
    Calls Tryz.prog 8 #[.string s] w fun e w' => ParQ w w' (parseS s) e := by
  have hsi : decide ((16777216 : Int) < (s.size : Int)) = false := by simpa using (by omega : ¬ (16777216 : Int) < (s.size : Int))
  have hL := fun wx => refLines_any s wx hs
  go_enter Tryz.func8, Tryz.ntmps8
  go_wp2_with fail
  refine (hL _).mono ?_
  rintro e w1 ⟨v, rfl, hown, hb1⟩
  have hbox0 : PrB w 0 0 (.slice none 0 0) ((((w.alloc (.cells #[.int .u32 0, .int .u32 0, .slice none 0 0] 25)).alloc (.cells #[.int .i64 0, .int .i64 0] 28)).alloc (.cells #[.int .u32 0, .int .u32 0, .slice none 0 0] 25)).alloc (.cells #[.int .u32 0, .int .u32 0, .slice none 0 0] 25)) := by
    refine ⟨?_, ?_, ?_, ?_, ((((Below.refl _ w).alloc (Nat.le_refl _) _).alloc (by simp) _).alloc (by simp; omega) _).alloc (by simp; omega) _⟩
    · rw [Below.heap_alloc _ _ _ (by simp; omega), Below.heap_alloc _ _ _ (by simp; omega), Below.heap_alloc _ _ _ (by simp)]; exact heap_alloc_new _ _
    · rw [Below.heap_alloc _ _ _ (by simp), Below.heap_alloc _ _ _ (by simp)]; have := heap_alloc_new (w.alloc (.cells #[.int .u32 0, .int .u32 0, .slice none 0 0] 25)) (.cells #[.int .i64 0, .int .i64 0] 28); simpa using this
    · rw [Below.heap_alloc _ _ _ (by simp)]; have := heap_alloc_new ((w.alloc (.cells #[.int .u32 0, .int .u32 0, .slice none 0 0] 25)).alloc (.cells #[.int .i64 0, .int .i64 0] 28)) (.cells #[.int .u32 0, .int .u32 0, .slice none 0 0] 25); simpa using this
    · have := heap_alloc_new (((w.alloc (.cells #[.int .u32 0, .int .u32 0, .slice none 0 0] 25)).alloc (.cells #[.int .i64 0, .int .i64 0] 28)).alloc (.cells #[.int .u32 0, .int .u32 0, .slice none 0 0] 25)) (.cells #[.int .u32 0, .int .u32 0, .slice none 0 0] 25); simpa using this
  have hszW : ((((w.alloc (.cells #[.int .u32 0, .int .u32 0, .slice none 0 0] 25)).alloc (.cells #[.int .i64 0, .int .i64 0] 28)).alloc (.cells #[.int .u32 0, .int .u32 0, .slice none 0 0] 25)).alloc (.cells #[.int .u32 0, .int .u32 0, .slice none 0 0] 25)).heap.size = w.heap.size + 4 := by simp
  generalize (((w.alloc (.cells #[.int .u32 0, .int .u32 0, .slice none 0 0] 25)).alloc (.cells #[.int .i64 0, .int .i64 0] 28)).alloc (.cells #[.int .u32 0, .int .u32 0, .slice none 0 0] 25)).alloc (.cells #[.int .u32 0, .int .u32 0, .slice none 0 0] 25) = W at *
  have hbox1 := hbox0.below hb1
  have hlt := hown.lt
  obtain ⟨a, c, rfl, hst⟩ := strs_own hown
  have hnL : (lineL s).length ≤ 16777216 := by have := lines_len s.size 1 s; simp only [lineL, List.length_map]; exact Nat.le_trans this hs
  have HP0 : Hid (PrL w s a w1.heap.size st0 0 (.slice none 0 0) w1) := ⟨hbox1, ⟨⟨[], World.ownsRow_nil _ _ _ _, rowI_nil⟩, hbox1.size, Nat.le_refl _⟩, by simp [st0], fun j hj => by simp [st0] at hj, by simp [st0], fun r => by simp, hst, fun b off e => by subst e; have := hlt b rfl; omega⟩
  clear hbox0 hbox1 hown hb1 hlt hst hszW hL
  obtain ⟨lo, hlo⟩ : ∃ lo, lo = w1.heap.size := ⟨_, rfl⟩
  rw [← hlo] at HP0
  clear hlo
  go_wp2_with fail
  go_loopw [6, 7, 9] (fun hd wd i wr => ∃ (k : Nat) (st : ModT) (v : Value), k ≤ (lineL s).length ∧ i = .int .i64 k ∧ hd = .bool (decide (st.2.2.1 ≠ 0)) ∧ wd = .int .i64 (if st.2.2.1 = 0 then 5 else st.2.2.1) ∧ PrL w s a lo st k v wr) (fun _ _ i _ => (lineL s).length - (intOf i).toNat)
  case atStart => exact ⟨0, st0, .slice none 0 0, Nat.zero_le _, rfl, by simp [st0], by simp [st0], HP0.out⟩
  case round =>
    obtain ⟨k, st, v, hk, rfl, rfl, rfl, hP⟩ := hrel
    clear HP0
    by_cases hlt : k < (lineL s).length
    · have hki : (k : Int) < ((lineL s).length : Int) := by omega
      have hk0 : (0 : Int) ≤ (k : Int) := by omega
      have hkw : IntKind.i64.wrap ((k : Int) + 1) = (k : Int) + 1 := by rw [IntKind.wrap_i64]; omega
      obtain ⟨b0, off, rfl, hb0, hcell⟩ := hP.strs k hlt
      obtain ⟨e1, e2, e3⟩ := line_at hlt
      have hls : (nthS (lineL s) k).size ≤ 16777216 := by omega
      generalize nthS (lineL s) k = ln at *
      have HG : Hid (goL st0 (linesT s) = goL st ((k + 1, ln) :: (linesT s).drop (k + 1))) := by show _ = _; conv => lhs; rw [e3]
                                                                                                 exact hP.go _
      have HE1 := hide e1
      have HP := hide hP
      have hsz := hP.box.size
      clear hP e1 e3 e2
      have HERR : Hid (∀ E : Int, E ≠ 0 → (addS st ln).1 = E → parseS s = ((0, 0, []), E, (k : Int) + 1)) := fun E hE h => by
        unfold parseS; rw [if_neg (by omega), HG.out]; simp only [goL, h]; simp [hE]
      have HNXT : Hid ((addS st ln).1 = 0 → ∀ r, goL st0 ((linesT s).take (k + 1) ++ r) = goL (addS st ln).2 r) := fun h r => by
        rw [HE1.out, List.append_assoc, HP.out.go]; simp [goL, h]
      clear HG HE1
      by_cases hz : st.2.2.1 = 0
      · have hd0 : decide (st.2.2.1 ≠ 0) = false := by simpa using hz
        rw [hd0, if_pos hz]
        have hT := fun wx => refTokens_any ln wx hls
        have hH := fun wx => refHead7_any ln wx hls
        have HAD : Hid (addS st ln = if (toksP (strI ln) 0).2.1 ≠ 0 ∨ (toksP (strI ln) 0).1 = [] then ((toksP (strI ln) 0).2.1, st) else if (headS ln).2.2.1 ≠ 0 then ((headS ln).2.2.1, st) else (0, ((headS ln).1, (headS ln).2.1, 5, []))) := by
          show _ = _
          unfold addS headS
          by_cases h1 : (toksP (strI ln) 0).2.1 ≠ 0 ∨ (toksP (strI ln) 0).1 = []
          · rw [if_pos h1, if_pos h1]
          · rw [if_neg h1, if_neg h1, if_pos hz]
            have h2 : (toksP (strI ln) 0).2.1 = 0 := by simpa using (not_or.1 h1).1
            simp [h2]
        go_wp2_with fail
        refine (hT _).mono ?_
        rintro e w2 ⟨v2, rfl, hown2, hb2⟩
        have HP2 := hide (HP.out.below (w' := w2.alloc (.cells #[.int .i64 (toksP (strI ln) 0).2.1, .int .i64 (toksP (strI ln) 0).2.2] 28)) (hb2.alloc hb2.size _))
        have cS := (blk_cells (heap_alloc_new w2 (.cells #[.int .i64 (toksP (strI ln) 0).2.1, .int .i64 (toksP (strI ln) 0).2.2] 28))).1 0
        have HSL : Hid (w2.heap.size < (w2.alloc (.cells #[.int .i64 (toksP (strI ln) 0).2.1, .int .i64 (toksP (strI ln) 0).2.2] 28)).heap.size ∧ w.heap.size + 4 ≤ w2.heap.size) := ⟨by simp, by have := hb2.size; omega⟩
        have HSV : Hid (∃ a2 c2, v2 = .slice a2 (toksP (strI ln) 0).1.length c2) := by
          rcases hown2.2 with ⟨rfl, h0⟩ | ⟨g, cap, cur, rfl, _⟩
          · exact ⟨none, 0, by rw [h0]⟩
          · exact ⟨_, _, rfl⟩
        obtain ⟨a2, c2, rfl⟩ := HSV.out
        have hcell2 : (w2.alloc (.cells #[.int .i64 (toksP (strI ln) 0).2.1, .int .i64 (toksP (strI ln) 0).2.2] 28)).cell? ⟨b0, off + k, none⟩ = some (.string ln) := ((hb2.alloc hb2.size _).cell (p := ⟨b0, off + k, none⟩) hb0).trans hcell
        clear hown2 hb2 HSV hT
        generalize (toksP (strI ln) 0).2.1 = E at *
        generalize (toksP (strI ln) 0).2.2 = P at *
        by_cases hE : E = 0
        · subst hE
          by_cases hnil : (toksP (strI ln) 0).1 = []
          · have hlen0 : (toksP (strI ln) 0).1.length = 0 := by rw [hnil]; rfl
            rw [hlen0]
            have hnx := HNXT.out (by rw [HAD.out, if_pos (.inr hnil)])
            rw [HAD.out, if_pos (.inr hnil)] at hnx
            have HN := hide hnx
            clear hnx HERR HNXT HAD hH
            go_wp2_with fail
            go_roundw
            case rel => exact ⟨k + 1, st, v, by omega, by go_num, by rw [hd0], by rw [if_pos hz], ⟨HP2.out.box, HP2.out.insts, HP2.out.words, HP2.out.ok, HP2.out.bnd, HN.out, HP2.out.strs, HP2.out.far⟩⟩
            case measure => simp [intOf]; omega
          · have hlen0 : (0 : Int) < ((toksP (strI ln) 0).1.length : Int) := by have := List.length_pos_iff.2 hnil; omega
            go_wp2_with fail
            refine (hH _).mono ?_
            rintro e w3 ⟨rfl, hb3⟩
            have hlw3 := hb3.size
            obtain ⟨H1, H2, H3, H4, hHq⟩ : ∃ H1 H2 H3 H4, headS ln = (H1, H2, H3, H4) := ⟨_, _, _, _, rfl⟩
            rw [hHq] at HAD
            simp only [hHq]
            have hbb : Below w3.heap.size w3 ((w3.alloc (.cells #[.int .u32 H1, .int .u32 H2] 58)).alloc (.cells #[.int .i64 H3, .int .i64 H4] 28)) := ((Below.refl _ w3).alloc (Nat.le_refl _) _).alloc (by simp) _
            have HP3 := hide (HP2.out.below (hb3.trans (hbb.mono hb3.size)))
            have k3 : ((w3.alloc (.cells #[.int .u32 H1, .int .u32 H2] 58)).alloc (.cells #[.int .i64 H3, .int .i64 H4] 28)).heap[w3.heap.size]? = some (.cells #[.int .u32 H1, .int .u32 H2] 58 (0, 0)) := by rw [Below.heap_alloc _ _ _ (by simp)]; exact heap_alloc_new _ _
            have k4 : ((w3.alloc (.cells #[.int .u32 H1, .int .u32 H2] 58)).alloc (.cells #[.int .i64 H3, .int .i64 H4] 28)).heap[w3.heap.size + 1]? = some (.cells #[.int .i64 H3, .int .i64 H4] 28 (0, 0)) := by have := heap_alloc_new (w3.alloc (.cells #[.int .u32 H1, .int .u32 H2] 58)) (.cells #[.int .i64 H3, .int .i64 H4] 28); simpa using this
            have h0 := (blk_cells k3).1 0
            have h1 := (blk_cells k3).1 1
            have cS3 := (blk_cells k4).1 0
            have hw4 : w.heap.size + 4 ≤ w3.heap.size := by have := HSL.out; simp at hlw3; omega
            have HSL3 : Hid (w3.heap.size + 1 < ((w3.alloc (.cells #[.int .u32 H1, .int .u32 H2] 58)).alloc (.cells #[.int .i64 H3, .int .i64 H4] 28)).heap.size ∧ w.heap.size + 4 ≤ w3.heap.size + 1) := ⟨by simp, by omega⟩
            by_cases hH3 : H3 = 0
            · subst hH3
              have had : addS st ln = (0, (H1, H2, 5, [])) := by rw [HAD.out, if_neg (by simp [hnil]), if_neg (by simp)]
              have hnx := HNXT.out (by rw [had])
              rw [had] at hnx
              have HN := hide hnx
              have hnilI : st.2.2.2 = [] := by have := HP3.out.words; exact List.length_eq_zero_iff.1 (by omega)
              have hw3 := HP3.out.words
              obtain ⟨cm, fm⟩ := blk_cells HP3.out.box.mod
              have m0 := cm 0
              have m1 := cm 1
              have nB : w3.heap.size ≠ w.heap.size + 3 := by omega
              have hsz3 := HP3.out.box.size
              have HPX := hide HP3.out
              have hHb := headS_bnd ln
              rw [hHq] at hHb
              clear had hnx HERR HNXT HAD hH k3 k4 HP3 HP2 hb3 hbb cm hcell hcell2 cS
              go_wp2_with fail
              go_roundw
              case rel => exact ⟨k + 1, (H1, H2, 5, []), v, by omega, by go_num, by simp, by simp, HPX.out.head hnilI H1 H2 hHb HN.out⟩
              case measure => simp [intOf]; omega
            · have hE' : (H3 != 0) = true := by simpa using hH3
              have HR := hide (HERR.out H3 hH3 (by rw [HAD.out, if_neg (by simp [hnil]), if_pos hH3]))
              have HBX := hide HP3.out.box
              obtain ⟨W3, hW3⟩ : ∃ W3, W3 = (w3.alloc (.cells #[.int .u32 H1, .int .u32 H2] 58)).alloc (.cells #[.int .i64 H3, .int .i64 H4] 28) := ⟨_, rfl⟩
              rw [← hW3] at HBX HSL3
              have cS4 := cS3
              rw [← hW3] at cS4
              have CS := hide cS4
              clear HERR HNXT HAD hH HP hcell hcell2 HP2 cS4 hb3 hbb k3 k4 cS h0 h1 HP3
              have hsw := HBX.out.size
              have LN : Hid (∀ w', LeafP w W3 w' → w'.cell? ⟨w.heap.size + 2, 0, none⟩ = some (.int .u32 0) ∧ w'.cell? ⟨w.heap.size + 2, 1, none⟩ = some (.int .u32 0) ∧ w'.cell? ⟨w.heap.size + 2, 2, none⟩ = some (.slice none 0 0) ∧ w'.cell? ⟨w3.heap.size + 1, 0, none⟩ = some (.int .i64 (H3))) := fun w' h => by
                obtain ⟨cz, _⟩ := blk_cells HBX.out.non
                exact ⟨h.aside.cell (by omega) (by omega) (by omega) (cz 0), h.aside.cell (by omega) (by omega) (by omega) (cz 1), h.aside.cell (by omega) (by omega) (by omega) (cz 2), h.aside.cell HSL3.out.1 (by have := HSL3.out.2; omega) (by have := HSL3.out.2; omega) CS.out⟩
              have hC0 := LeafP.start HBX.out
              clear hsw
              go_wp2_with fail
              rename_i Kr hKr
              rw [← hW3]
              clear hW3 cS3
              have HKR := hide hKr
              clear hKr
              have key : ∀ (u : Array Value) (Xr : World), u.getD 2 undef = .pointer (some ⟨w.heap.size, 0, none⟩) → u.getD 3 undef = .pointer (some ⟨w.heap.size + 1, 0, none⟩) → LeafP w W3 Xr → Xr.heap[w.heap.size + 1]? = some (.cells #[.int .i64 (H3), .int .i64 ((k : Int) + 1)] 28 (0, 0)) → Kr { tmps := u, defers := [] } Xr := by
                intro u Xr h2 h3 hX hx
                refine HKR.out _ _ ?_
                obtain ⟨cm, _⟩ := blk_cells hX.res
                obtain ⟨cp, _⟩ := blk_cells hx
                have r0 := cm 0
                have r1 := cm 1
                have r2 := cm 2
                have r3 := cp 0
                have r4 := cp 1
                have HBE := hide hX.bel
                clear hX hx hC0 cm cp
                go_wp2_with fail
                have h2' : u[2]?.getD undef = .pointer (some ⟨w.heap.size, 0, none⟩) := by rw [← Array.getD_eq_getD_getElem?]; exact h2
                have h3' : u[3]?.getD undef = .pointer (some ⟨w.heap.size + 1, 0, none⟩) := by rw [← Array.getD_eq_getD_getElem?]; exact h3
                refine bodyPost_ret (v := .tuple #[.agg #[.int .u32 0, .int .u32 0, .slice none 0 0], .agg #[.int .i64 (H3), .int .i64 ((k : Int) + 1)]]) (by simp [results, Tryz.results8, go_sem, h2', h3', r0, r1, r2, r3, r4]) rfl ?_
                unfold ParQ
                rw [HR.out]
                exact ⟨none, 0, 0, rfl, instsV_nil, rfl, fun j hj => by simp at hj, HBE.out⟩
              have KEY := hide key
              clear key HKR
              have hmix : Tryz.prog.follows .mixedOrders = true := by kernel_rfl
              refine (wpIn_wide (n := 0)).1 ?_
              refine wpIn_normal (wpIn_region_any hmix (wpAnyC_sound (C := LeafP w W3) _ _ _ _ ?_))
              change wpAnyC _ _ _ _ _ _ _ _ _ _ (World.drew _)
              refine wpAnyC_takeD (i := 0) (some 65) (v := .agg #[.int .u32 0, .int .u32 0, .slice none 0 0]) (fun _ => trivial) (by kernel_rfl) rfl rfl (by kernel_rfl) (by kernel_rfl) (by kernel_rfl) (fun _ _ _ h => by cases h.1) hC0 (Or.inl ⟨by kernel_rfl, fun w' hC => by obtain ⟨b0, b1, b2, _⟩ := LN.out w' hC; clear hC; go_simp⟩) ?_
              simp only [Act.put, List.setIfInBounds_toArray, List.set_cons_succ, List.set_cons_zero]
              refine wpAnyC_takeD (i := 1) (some 66) (v := .pointer (some ⟨w3.heap.size + 1, 0, none⟩)) (fun _ => trivial) (by kernel_rfl) rfl rfl (by kernel_rfl) (by kernel_rfl) (by kernel_rfl) (fun _ _ _ h => by cases h.1) hC0 (Or.inl ⟨by kernel_rfl, fun w' hC => by clear hC; go_simp⟩) ?_
              simp only [Act.put, List.setIfInBounds_toArray, List.set_cons_succ, List.set_cons_zero]
              refine wpAnyC_takeD (i := 2) (some 67) (v := .int .i64 (H3)) (fun _ => trivial) (by kernel_rfl) rfl rfl (by kernel_rfl) (by kernel_rfl) (by kernel_rfl) (fun _ _ _ h => by cases h.1) hC0 (Or.inl ⟨by kernel_rfl, fun w' hC => by obtain ⟨_, _, _, b3⟩ := LN.out w' hC; clear hC; go_simp⟩) ?_
              simp only [Act.put, List.setIfInBounds_toArray, List.set_cons_succ, List.set_cons_zero]
              refine wpAnyC_takeD (i := 3) (some 68) (v := .int .i64 (k : Int)) (fun _ => trivial) (by kernel_rfl) rfl rfl (by kernel_rfl) (by kernel_rfl) (by kernel_rfl) (fun _ _ _ h => by cases h.1) hC0 (Or.inl ⟨by kernel_rfl, fun w' hC => by clear hC; go_simp⟩) ?_
              simp only [Act.put, List.setIfInBounds_toArray, List.set_cons_succ, List.set_cons_zero]
              refine wpAnyC_takeD (i := 4) (some 69) (v := .int .i64 ((k : Int) + 1)) (fun _ => trivial) (by kernel_rfl) rfl rfl (by kernel_rfl) (by kernel_rfl) (by kernel_rfl) (fun _ _ _ h => by cases h.1) hC0 (Or.inl ⟨by kernel_rfl, fun w' hC => by clear hC; go_simp⟩) ?_
              simp only [Act.put, List.setIfInBounds_toArray, List.set_cons_succ, List.set_cons_zero]
              refine wpAnyC_ready (rs := [5]) (by kernel_rfl) (by simp) ?_
              refine AllC.cons rfl (fun K hK => ?_) AllC.nil
              go_simp
              refine ⟨trivial, rfl, (callsIn_wide.2 (refSpot_exact _ _ _)).mono ?_⟩
              rintro x w5 ⟨rfl, hw5⟩
              dsimp only
              have hC5 : LeafP w W3 w5 := by rw [hw5]; exact hC0.alloc _
              clear hw5
              refine hK _ _ hC5 ?_
              clear hK K
              refine wpAnyC_ready (rs := [6]) (by kernel_rfl) (by simp) ?_
              refine AllC.cons rfl (fun K hK => ?_) AllC.nil
              obtain ⟨⟨c0, c1, c2, cf⟩, _⟩ := hC5.cells
              go_simp
              refine hK _ _ hC5.zero ?_
              clear hK K c0 c1 c2 cf
              refine wpAnyC_ready (rs := [7]) (by kernel_rfl) (by simp) ?_
              refine AllC.cons rfl (fun K hK => ?_) AllC.nil
              obtain ⟨_, y0, y1, s0, s1, sf⟩ := hC5.zero.cells
              go_simp
              refine hK _ _ (hC5.zero.put (.int .i64 (H3)) (.int .i64 ((k : Int) + 1))).1 ?_
              clear hK K s0 s1 sf
              have hF1 := hide (hC5.zero.put (.int .i64 (H3)) (.int .i64 ((k : Int) + 1))).1
              have hF2 := hide (hC5.zero.put (.int .i64 (H3)) (.int .i64 ((k : Int) + 1))).2
              clear hC0 hC5 LN
              refine wpAnyC_done (by kernel_rfl) ⟨rfl, ?_⟩ _
              rw [then_normal]
              generalize ((((w5.setCell ⟨w.heap.size, 0, none⟩ (.int .u32 0)).setCell ⟨w.heap.size, 1, none⟩ (.int .u32 0)).setCell ⟨w.heap.size, 2, none⟩ (.slice none 0 0)).setCell ⟨w.heap.size + 1, 0, none⟩ (.int .i64 (H3))).setCell ⟨w.heap.size + 1, 1, none⟩ (.int .i64 ((k : Int) + 1)) = XX at *
              exact KEY.out _ XX rfl rfl hF1.out hF2.out

        · have hE' : (E != 0) = true := by simpa using hE
          have HR := hide (HERR.out E hE (by rw [HAD.out, if_pos (.inl hE)]))
          have HBX := hide HP2.out.box
          obtain ⟨W2, hW2⟩ : ∃ W2, W2 = w2.alloc (.cells #[.int .i64 E, .int .i64 P] 28) := ⟨_, rfl⟩
          rw [← hW2] at HBX HSL
          have cS2 := cS
          rw [← hW2] at cS2
          have CS := hide cS2
          clear HERR HNXT HAD hH HP hcell hcell2 HP2 cS2
          have hsw := HBX.out.size
          have LN : Hid (∀ w', LeafP w W2 w' → w'.cell? ⟨w.heap.size + 2, 0, none⟩ = some (.int .u32 0) ∧ w'.cell? ⟨w.heap.size + 2, 1, none⟩ = some (.int .u32 0) ∧ w'.cell? ⟨w.heap.size + 2, 2, none⟩ = some (.slice none 0 0) ∧ w'.cell? ⟨w2.heap.size, 0, none⟩ = some (.int .i64 (E))) := fun w' h => by
            obtain ⟨cz, _⟩ := blk_cells HBX.out.non
            exact ⟨h.aside.cell (by omega) (by omega) (by omega) (cz 0), h.aside.cell (by omega) (by omega) (by omega) (cz 1), h.aside.cell (by omega) (by omega) (by omega) (cz 2), h.aside.cell HSL.out.1 (by have := HSL.out.2; omega) (by have := HSL.out.2; omega) CS.out⟩
          have hC0 := LeafP.start HBX.out
          clear hsw
          go_wp2_with fail
          rename_i Kr hKr
          rw [← hW2]
          clear hW2 cS
          have HKR := hide hKr
          clear hKr
          have key : ∀ (u : Array Value) (Xr : World), u.getD 2 undef = .pointer (some ⟨w.heap.size, 0, none⟩) → u.getD 3 undef = .pointer (some ⟨w.heap.size + 1, 0, none⟩) → LeafP w W2 Xr → Xr.heap[w.heap.size + 1]? = some (.cells #[.int .i64 (E), .int .i64 ((k : Int) + 1)] 28 (0, 0)) → Kr { tmps := u, defers := [] } Xr := by
            intro u Xr h2 h3 hX hx
            refine HKR.out _ _ ?_
            obtain ⟨cm, _⟩ := blk_cells hX.res
            obtain ⟨cp, _⟩ := blk_cells hx
            have r0 := cm 0
            have r1 := cm 1
            have r2 := cm 2
            have r3 := cp 0
            have r4 := cp 1
            have HBE := hide hX.bel
            clear hX hx hC0 cm cp
            go_wp2_with fail
            have h2' : u[2]?.getD undef = .pointer (some ⟨w.heap.size, 0, none⟩) := by rw [← Array.getD_eq_getD_getElem?]; exact h2
            have h3' : u[3]?.getD undef = .pointer (some ⟨w.heap.size + 1, 0, none⟩) := by rw [← Array.getD_eq_getD_getElem?]; exact h3
            refine bodyPost_ret (v := .tuple #[.agg #[.int .u32 0, .int .u32 0, .slice none 0 0], .agg #[.int .i64 (E), .int .i64 ((k : Int) + 1)]]) (by simp [results, Tryz.results8, go_sem, h2', h3', r0, r1, r2, r3, r4]) rfl ?_
            unfold ParQ
            rw [HR.out]
            exact ⟨none, 0, 0, rfl, instsV_nil, rfl, fun j hj => by simp at hj, HBE.out⟩
          have KEY := hide key
          clear key HKR
          have hmix : Tryz.prog.follows .mixedOrders = true := by kernel_rfl
          refine (wpIn_wide (n := 0)).1 ?_
          refine wpIn_normal (wpIn_region_any hmix (wpAnyC_sound (C := LeafP w W2) _ _ _ _ ?_))
          change wpAnyC _ _ _ _ _ _ _ _ _ _ (World.drew _)
          refine wpAnyC_takeD (i := 0) (some 45) (v := .agg #[.int .u32 0, .int .u32 0, .slice none 0 0]) (fun _ => trivial) (by kernel_rfl) rfl rfl (by kernel_rfl) (by kernel_rfl) (by kernel_rfl) (fun _ _ _ h => by cases h.1) hC0 (Or.inl ⟨by kernel_rfl, fun w' hC => by obtain ⟨b0, b1, b2, _⟩ := LN.out w' hC; clear hC; go_simp⟩) ?_
          simp only [Act.put, List.setIfInBounds_toArray, List.set_cons_succ, List.set_cons_zero]
          refine wpAnyC_takeD (i := 1) (some 46) (v := .pointer (some ⟨w2.heap.size, 0, none⟩)) (fun _ => trivial) (by kernel_rfl) rfl rfl (by kernel_rfl) (by kernel_rfl) (by kernel_rfl) (fun _ _ _ h => by cases h.1) hC0 (Or.inl ⟨by kernel_rfl, fun w' hC => by clear hC; go_simp⟩) ?_
          simp only [Act.put, List.setIfInBounds_toArray, List.set_cons_succ, List.set_cons_zero]
          refine wpAnyC_takeD (i := 2) (some 47) (v := .int .i64 (E)) (fun _ => trivial) (by kernel_rfl) rfl rfl (by kernel_rfl) (by kernel_rfl) (by kernel_rfl) (fun _ _ _ h => by cases h.1) hC0 (Or.inl ⟨by kernel_rfl, fun w' hC => by obtain ⟨_, _, _, b3⟩ := LN.out w' hC; clear hC; go_simp⟩) ?_
          simp only [Act.put, List.setIfInBounds_toArray, List.set_cons_succ, List.set_cons_zero]
          refine wpAnyC_takeD (i := 3) (some 48) (v := .int .i64 (k : Int)) (fun _ => trivial) (by kernel_rfl) rfl rfl (by kernel_rfl) (by kernel_rfl) (by kernel_rfl) (fun _ _ _ h => by cases h.1) hC0 (Or.inl ⟨by kernel_rfl, fun w' hC => by clear hC; go_simp⟩) ?_
          simp only [Act.put, List.setIfInBounds_toArray, List.set_cons_succ, List.set_cons_zero]
          refine wpAnyC_takeD (i := 4) (some 49) (v := .int .i64 ((k : Int) + 1)) (fun _ => trivial) (by kernel_rfl) rfl rfl (by kernel_rfl) (by kernel_rfl) (by kernel_rfl) (fun _ _ _ h => by cases h.1) hC0 (Or.inl ⟨by kernel_rfl, fun w' hC => by clear hC; go_simp⟩) ?_
          simp only [Act.put, List.setIfInBounds_toArray, List.set_cons_succ, List.set_cons_zero]
          refine wpAnyC_ready (rs := [5]) (by kernel_rfl) (by simp) ?_
          refine AllC.cons rfl (fun K hK => ?_) AllC.nil
          go_simp
          refine ⟨trivial, rfl, (callsIn_wide.2 (refSpot_exact _ _ _)).mono ?_⟩
          rintro x w5 ⟨rfl, hw5⟩
          dsimp only
          have hC5 : LeafP w W2 w5 := by rw [hw5]; exact hC0.alloc _
          clear hw5
          refine hK _ _ hC5 ?_
          clear hK K
          refine wpAnyC_ready (rs := [6]) (by kernel_rfl) (by simp) ?_
          refine AllC.cons rfl (fun K hK => ?_) AllC.nil
          obtain ⟨⟨c0, c1, c2, cf⟩, _⟩ := hC5.cells
          go_simp
          refine hK _ _ hC5.zero ?_
          clear hK K c0 c1 c2 cf
          refine wpAnyC_ready (rs := [7]) (by kernel_rfl) (by simp) ?_
          refine AllC.cons rfl (fun K hK => ?_) AllC.nil
          obtain ⟨_, y0, y1, s0, s1, sf⟩ := hC5.zero.cells
          go_simp
          refine hK _ _ (hC5.zero.put (.int .i64 (E)) (.int .i64 ((k : Int) + 1))).1 ?_
          clear hK K s0 s1 sf
          have hF1 := hide (hC5.zero.put (.int .i64 (E)) (.int .i64 ((k : Int) + 1))).1
          have hF2 := hide (hC5.zero.put (.int .i64 (E)) (.int .i64 ((k : Int) + 1))).2
          clear hC0 hC5 LN
          refine wpAnyC_done (by kernel_rfl) ⟨rfl, ?_⟩ _
          rw [then_normal]
          generalize ((((w5.setCell ⟨w.heap.size, 0, none⟩ (.int .u32 0)).setCell ⟨w.heap.size, 1, none⟩ (.int .u32 0)).setCell ⟨w.heap.size, 2, none⟩ (.slice none 0 0)).setCell ⟨w.heap.size + 1, 0, none⟩ (.int .i64 (E))).setCell ⟨w.heap.size + 1, 1, none⟩ (.int .i64 ((k : Int) + 1)) = XX at *
          exact KEY.out _ XX rfl rfl hF1.out hF2.out
      · have hd0 : decide (st.2.2.1 ≠ 0) = true := by simpa using hz
        rw [hd0, if_neg hz]
        have hLn := fun wx => refLine7_any ln st.2.1 wx hls HP.out.bnd.1 HP.out.bnd.2
        have HAD := hide (addS_headed (st := st) (s := ln) hz hls)
        have HSAY := hide (line_says ln st.2.1 hls)
        unfold instV at hLn
        generalize lineS ln st.2.1 = R at *
        obtain ⟨⟨o, t, r, xs⟩, is, E, P⟩ := R
        simp only at hLn HAD HSAY
        obtain ⟨cm, _⟩ := blk_cells HP.out.box.mod
        have LC : Hid (∀ w', Below wr.heap.size wr w' → w'.cell? ⟨w.heap.size + 3, 1, none⟩ = some (.int .u32 st.2.1) ∧ w'.cell? ⟨b0, off + k, none⟩ = some (.string ln)) := fun w' h => ⟨(h.cell (p := ⟨w.heap.size + 3, 1, none⟩) hsz).trans (cm 1), (h.cell (p := ⟨b0, off + k, none⟩) hb0).trans hcell⟩
        clear cm
        go_wp2_with fail
        rename_i Kr hKr
        have HKR := hide hKr
        clear hKr
        have key : ∀ (u : Array Value) (X : World) (ax : Option Addr) (m cx BI BS : Nat), u.size = 129 → slot u 0 = .string s → slot u 1 = undef → slot u 2 = .pointer (some ⟨w.heap.size, 0, none⟩) → slot u 3 = .pointer (some ⟨w.heap.size + 1, 0, none⟩) → slot u 4 = .pointer (some ⟨w.heap.size + 1 + 1, 0, none⟩) → slot u 5 = .pointer (some ⟨w.heap.size + 1 + 1 + 1, 0, none⟩) → slot u 6 = .bool true → slot u 7 = .int .i64 st.2.2.1 → slot u 8 = .slice (some ⟨b0, off, none⟩) (lineL s).length c → slot u 9 = .int .i64 (k : Int) → slot u 14 = .pointer (some ⟨BI, 0, none⟩) → slot u 15 = .bool is → slot u 16 = .pointer (some ⟨BS, 0, none⟩) → slot u 19 = .string s → slot u 20 = .int .i64 (s.size : Int) → slot u 21 = .bool false → slot u 22 = undef → slot u 23 = undef → slot u 24 = .string s → slot u 25 = .slice (some ⟨b0, off, none⟩) (lineL s).length c → slot u 121 = undef → slot u 122 = undef → slot u 123 = undef → slot u 124 = undef → slot u 125 = undef → slot u 126 = undef → slot u 127 = undef → slot u 128 = undef → X.heap[BI]? = some (.cells #[.int .u16 o, .int .u32 t, .int .u32 r, .slice ax m cx] 41 (0, 0)) → X.heap[BS]? = some (.cells #[.int .i64 E, .int .i64 P] 28 (0, 0)) → Below wr.heap.size wr X → X.ownsRow wr.heap.size 81 3 (.slice ax m cx) m (xs.flatMap argC) → xs.length = m → wr.heap.size ≤ BI → wr.heap.size ≤ BS → Kr { tmps := u, defers := [] } X := by
          intro u X ax m cx BI BS hus g0 g1 g2 g3 g4 g5 g6 g7 g8 g9 g14 g15 g16 g19 g20 g21 g22 g23 g24 g25 g121 g122 g123 g124 g125 g126 g127 g128 kI kS hbX hO hm sI sS
          refine HKR.out _ _ ?_
          rw [frame129 u hus, g0, g1, g2, g3, g4, g5, g6, g7, g8, g9, g14, g15, g16, g19, g20, g21, g22, g23, g24, g25, g121, g122, g123, g124, g125, g126, g127, g128]
          clear g0 g1 g2 g3 g4 g5 g6 g7 g8 g9 g14 g15 g16 g19 g20 g21 g22 g23 g24 g25 g121 g122 g123 g124 g125 g126 g127 g128 hus
          have HPX := hide (HP.out.below hbX)
          have cE := (blk_cells kS).1 0
          have hlS := (Array.getElem?_eq_some_iff.1 kS).1
          have hlI := (Array.getElem?_eq_some_iff.1 kI).1
          by_cases hE : E = 0
          · subst hE
            cases is with
            | false =>
              have had : addS st ln = (0, st) := by rw [HAD.out]; simp
              have hnx := HNXT.out (by rw [had])
              rw [had] at hnx
              have HN := hide hnx
              clear hnx had HERR HNXT HAD HSAY hLn LC kI hO HKR hbX HP hcell
              go_wp2_with fail
              go_roundw
              case rel => exact ⟨k + 1, st, v, by omega, by go_num, by rw [hd0], by rw [if_neg hz], ⟨HPX.out.box, HPX.out.insts, HPX.out.words, HPX.out.ok, HPX.out.bnd, HN.out, HPX.out.strs, HPX.out.far⟩⟩
              case measure => simp [intOf]; omega
            | true =>
              obtain ⟨hok, hraw⟩ := HSAY.out rfl
              obtain ⟨hw1, _, hw3⟩ := rawWs_ok hraw
              have hwl := rawWs_len (o, t, r, xs) st.2.1
              have had := HAD.out
              rw [if_neg (by simp), if_neg (by simp)] at had
              rw [hw3] at hwl had
              simp only at hw1 hwl had
              have hV := argsV_own7 hO hm
              have hRm := fun wx (hx : ArgsV wx ax xs) => refRoom4_any (o, t, r, xs) o (lookF refT o).1 ax m cx wx hx hok hm (by unfold rawL at hwl; simp at hwl ⊢; omega)
              have hOf := fun wx => refOf_any o wx
              have eV : ofV o = formV o (lookF refT o).1 := by unfold ofV; rw [if_pos hw1]
              rw [eV, hw1] at hOf
              unfold instV formV at hRm
              unfold formV at hOf
              simp only at hRm hOf
              generalize hrl : 1 + (rawL (lookF refT o).1 (o, t, r, xs)).length = rl at *
              have had2 : addS st ln = if 1048576 < st.2.2.1 + (rl : Int) then (4, st) else (0, (st.1, st.2.1, st.2.2.1 + (rl : Int), st.2.2.2 ++ [(o, t, r, xs)])) := by rw [had, ← hrl]; push_cast; rfl
              have hrl2 : rl ≤ 65536 := by omega
              have hrl1 : 1 ≤ rl := by omega
              clear had hrl hwl hw3 eV hw1 hraw
              generalize (lookF refT o).1 = f at *
              obtain ⟨nm, ty, re, fx, rs, mo, pa⟩ := f
              simp only at hRm hOf
              obtain ⟨ci, _⟩ := blk_cells kI
              have i0 := ci 0
              have HAD2 := hide had2
              have HOK := hide hok
              have HKI := hide kI
              have HOX := hide hO
              have HV := hide hV
              have HBX := hide hbX
              have hwd := HP.out.words
              have HI0 := hide HP.out.insts
              have HRM := hide hRm
              clear ci had2 hok kI hO hV hbX HAD HSAY hLn LC HKR HP hcell hRm
              go_wp2_with fail
              refine (hOf _).mono ?_
              rintro e w6 ⟨rfl, hb6⟩
              have hb6a : Below X.heap.size X (w6.alloc (.cells #[.int .u16 o, .string nm, .bool ty, .bool re, .string fx, .string rs, .int .i64 mo, .int .u8 pa] 64)) := hb6.alloc hb6.size _
              have hlX := hb6.size
              have HPY := hide (HPX.out.below hb6a)
              have HKI6 := hide ((hb6a.block _ hlI).trans HKI.out)
              have HOY := hide (own_below HOX.out hb6a)
              have kF := heap_alloc_new w6 (.cells #[.int .u16 o, .string nm, .bool ty, .bool re, .string fx, .string rs, .int .i64 mo, .int .u8 pa] 64)
              obtain ⟨ci, _⟩ := blk_cells HKI6.out
              obtain ⟨cf, _⟩ := blk_cells kF
              have x0 := ci 0
              have x1 := ci 1
              have x2 := ci 2
              have x3 := ci 3
              have f0 := cf 0
              have f1 := cf 1
              have f2 := cf 2
              have f3 := cf 3
              have f4 := cf 4
              have f5 := cf 5
              have f6 := cf 6
              have f7 := cf 7
              have hRm := HRM.out _ (HV.out.below hb6a)
              have HSF : Hid (w6.heap.size < (w6.alloc (.cells #[.int .u16 o, .string nm, .bool ty, .bool re, .string fx, .string rs, .int .i64 mo, .int .u8 pa] 64)).heap.size) := by show _ < _; simp
              have HB6A := hide hb6a
              clear ci cf kF hOf hb6 hb6a HRM i0
              go_wp2_with fail
              refine hRm.mono ?_
              rintro e w7 ⟨rfl, hb7⟩
              have hsum : IntKind.i64.wrap (st.2.2.1 + (rl : Int)) = st.2.2.1 + (rl : Int) := by rw [IntKind.wrap_i64]; omega
              have hBF : Below X.heap.size X w7 := HB6A.out.trans (hb7.mono HB6A.out.size)
              have hBW : Below wr.heap.size wr w7 := HBX.out.trans (hBF.mono HBX.out.size)
              have HP7 := hide (HPX.out.below hBF)
              have HKI7 := hide ((hBF.block _ hlI).trans HKI.out)
              have HO7 := hide (own_below HOX.out hBF)
              have HBW := hide hBW
              clear x0 x1 x2 x3 f0 f1 f2 f3 f4 f5 f6 f7 hb7 hBF hBW HPY HKI6 HOY HSF hlX hRm HV HPX HKI HOX HBX HB6A cE kS hlS hlI
              by_cases hbig : 1048576 < st.2.2.1 + (rl : Int)
              · have hbig' : decide ((1048576 : Int) < st.2.2.1 + (rl : Int)) = true := by simpa using hbig
                have HR := hide (HERR.out 4 (by decide) (by rw [HAD2.out, if_pos hbig]))
                have HBX := hide HP7.out.box
                clear HERR HNXT HAD2 HI0 HP7 HKI7 HO7 HBW HOK hbig
                have hsw := HBX.out.size
                have LN : Hid (∀ w', LeafP w w7 w' → w'.cell? ⟨w.heap.size + 2, 0, none⟩ = some (.int .u32 0) ∧ w'.cell? ⟨w.heap.size + 2, 1, none⟩ = some (.int .u32 0) ∧ w'.cell? ⟨w.heap.size + 2, 2, none⟩ = some (.slice none 0 0) ∧ True) := fun w' h => by
                  obtain ⟨cz, _⟩ := blk_cells HBX.out.non
                  exact ⟨h.aside.cell (by omega) (by omega) (by omega) (cz 0), h.aside.cell (by omega) (by omega) (by omega) (cz 1), h.aside.cell (by omega) (by omega) (by omega) (cz 2), trivial⟩
                have hC0 := LeafP.start HBX.out
                clear hsw
                go_wp2_with fail
                rename_i Kr hKr
                have HKR := hide hKr
                clear hKr
                have key : ∀ (u : Array Value) (Xr : World), u.getD 2 undef = .pointer (some ⟨w.heap.size, 0, none⟩) → u.getD 3 undef = .pointer (some ⟨w.heap.size + 1, 0, none⟩) → LeafP w w7 Xr → Xr.heap[w.heap.size + 1]? = some (.cells #[.int .i64 (4), .int .i64 ((k : Int) + 1)] 28 (0, 0)) → Kr { tmps := u, defers := [] } Xr := by
                  intro u Xr h2 h3 hX hx
                  refine HKR.out _ _ ?_
                  obtain ⟨cm, _⟩ := blk_cells hX.res
                  obtain ⟨cp, _⟩ := blk_cells hx
                  have r0 := cm 0
                  have r1 := cm 1
                  have r2 := cm 2
                  have r3 := cp 0
                  have r4 := cp 1
                  have HBE := hide hX.bel
                  clear hX hx hC0 cm cp
                  go_wp2_with fail
                  have h2' : u[2]?.getD undef = .pointer (some ⟨w.heap.size, 0, none⟩) := by rw [← Array.getD_eq_getD_getElem?]; exact h2
                  have h3' : u[3]?.getD undef = .pointer (some ⟨w.heap.size + 1, 0, none⟩) := by rw [← Array.getD_eq_getD_getElem?]; exact h3
                  refine bodyPost_ret (v := .tuple #[.agg #[.int .u32 0, .int .u32 0, .slice none 0 0], .agg #[.int .i64 (4), .int .i64 ((k : Int) + 1)]]) (by simp [results, Tryz.results8, go_sem, h2', h3', r0, r1, r2, r3, r4]) rfl ?_
                  unfold ParQ
                  rw [HR.out]
                  exact ⟨none, 0, 0, rfl, instsV_nil, rfl, fun j hj => by simp at hj, HBE.out⟩
                have KEY := hide key
                clear key HKR
                have hmix : Tryz.prog.follows .mixedOrders = true := by kernel_rfl
                refine (wpIn_wide (n := 0)).1 ?_
                refine wpIn_normal (wpIn_region_any hmix (wpAnyC_sound (C := LeafP w w7) _ _ _ _ ?_))
                change wpAnyC _ _ _ _ _ _ _ _ _ _ (World.drew _)
                refine wpAnyC_takeD (i := 0) (some 111) (v := .agg #[.int .u32 0, .int .u32 0, .slice none 0 0]) (fun _ => trivial) (by kernel_rfl) rfl rfl (by kernel_rfl) (by kernel_rfl) (by kernel_rfl) (fun _ _ _ h => by cases h.1) hC0 (Or.inl ⟨by kernel_rfl, fun w' hC => by obtain ⟨b0, b1, b2, _⟩ := LN.out w' hC; clear hC; go_simp⟩) ?_
                simp only [Act.put, List.setIfInBounds_toArray, List.set_cons_succ, List.set_cons_zero]
                refine wpAnyC_takeD (i := 1) (some 112) (v := .int .i64 (k : Int)) (fun _ => trivial) (by kernel_rfl) rfl rfl (by kernel_rfl) (by kernel_rfl) (by kernel_rfl) (fun _ _ _ h => by cases h.1) hC0 (Or.inl ⟨by kernel_rfl, fun w' hC => by clear hC; go_simp⟩) ?_
                simp only [Act.put, List.setIfInBounds_toArray, List.set_cons_succ, List.set_cons_zero]
                refine wpAnyC_takeD (i := 2) (some 113) (v := .int .i64 ((k : Int) + 1)) (fun _ => trivial) (by kernel_rfl) rfl rfl (by kernel_rfl) (by kernel_rfl) (by kernel_rfl) (fun _ _ _ h => by cases h.1) hC0 (Or.inl ⟨by kernel_rfl, fun w' hC => by clear hC; go_simp⟩) ?_
                simp only [Act.put, List.setIfInBounds_toArray, List.set_cons_succ, List.set_cons_zero]
                refine wpAnyC_ready (rs := [3]) (by kernel_rfl) (by simp) ?_
                refine AllC.cons rfl (fun K hK => ?_) AllC.nil
                go_simp
                refine ⟨trivial, rfl, (callsIn_wide.2 (refSpot_exact _ _ _)).mono ?_⟩
                rintro x w5 ⟨rfl, hw5⟩
                dsimp only
                have hC5 : LeafP w w7 w5 := by rw [hw5]; exact hC0.alloc _
                clear hw5
                refine hK _ _ hC5 ?_
                clear hK K
                refine wpAnyC_ready (rs := [4]) (by kernel_rfl) (by simp) ?_
                refine AllC.cons rfl (fun K hK => ?_) AllC.nil
                obtain ⟨⟨c0, c1, c2, cf⟩, _⟩ := hC5.cells
                go_simp
                refine hK _ _ hC5.zero ?_
                clear hK K c0 c1 c2 cf
                refine wpAnyC_ready (rs := [5]) (by kernel_rfl) (by simp) ?_
                refine AllC.cons rfl (fun K hK => ?_) AllC.nil
                obtain ⟨_, y0, y1, s0, s1, sf⟩ := hC5.zero.cells
                go_simp
                refine hK _ _ (hC5.zero.put (.int .i64 (4)) (.int .i64 ((k : Int) + 1))).1 ?_
                clear hK K s0 s1 sf
                have hF1 := hide (hC5.zero.put (.int .i64 (4)) (.int .i64 ((k : Int) + 1))).1
                have hF2 := hide (hC5.zero.put (.int .i64 (4)) (.int .i64 ((k : Int) + 1))).2
                clear hC0 hC5 LN
                refine wpAnyC_done (by kernel_rfl) ⟨rfl, ?_⟩ _
                rw [then_normal]
                generalize ((((w5.setCell ⟨w.heap.size, 0, none⟩ (.int .u32 0)).setCell ⟨w.heap.size, 1, none⟩ (.int .u32 0)).setCell ⟨w.heap.size, 2, none⟩ (.slice none 0 0)).setCell ⟨w.heap.size + 1, 0, none⟩ (.int .i64 (4))).setCell ⟨w.heap.size + 1, 1, none⟩ (.int .i64 ((k : Int) + 1)) = XX at *
                exact KEY.out _ XX rfl rfl hF1.out hF2.out
              · have hbig' : decide ((1048576 : Int) < st.2.2.1 + (rl : Int)) = false := by simpa using hbig
                have had : addS st ln = (0, (st.1, st.2.1, st.2.2.1 + (rl : Int), st.2.2.2 ++ [(o, t, r, xs)])) := by rw [HAD2.out, if_neg hbig]
                have hnx := HNXT.out (by rw [had])
                rw [had] at hnx
                have HN := hide hnx
                have HBIG := hide hbig
                obtain ⟨cs, hown, hrow⟩ := HI0.out.row
                have hloB := HI0.out.lt
                have hlow := HI0.out.le
                have hob : ∀ g, v.ownBlock = some g → lo ≤ g ∧ g < wr.heap.size := fun g e => hown.lt g e
                have hown7 := own_below hown HBW.out
                obtain ⟨i0, hi, hz0, hz1, hz2⟩ := info_parts Inst7.info
                have hba : Below w7.heap.size w7 (w7.alloc (.cells #[.int .u16 o, .int .u32 t, .int .u32 r, .slice ax m cx] 41)) := (Below.refl _ w7).alloc (Nat.le_refl _) _
                have hszw : wr.heap.size ≤ w7.heap.size := HBW.out.size
                have HBA5 := hide hba
                have HRWA := hide hrow
                have HOWN7 := hide hown7
                have HOB := hide hob
                have HSYZ : Hid ((w7.alloc (.cells #[.int .u16 o, .int .u32 t, .int .u32 r, .slice ax m cx] 41)).heap.size = w7.heap.size + 1) := by show (w7.alloc _).heap.size = _; simp
                have lB5 : w.heap.size + 3 < w7.heap.size := HP7.out.box.size
                have lI5 : BI < w7.heap.size := (Array.getElem?_eq_some_iff.1 HKI7.out).1
                have N1 : Hid ((w7.alloc (.cells #[.int .u16 o, .int .u32 t, .int .u32 r, .slice ax m cx] 41)).ownsRow lo 41 4 v st.2.2.2.length cs) := own_below hown7 hba
                have N2 : Hid (∀ (j : Nat) (u : Value), [Value.int .u16 o, .int .u32 t, .int .u32 r, .slice ax m cx][j]? = some u → (w7.alloc (.cells #[.int .u16 o, .int .u32 t, .int .u32 r, .slice ax m cx] 41)).cell? ((⟨w7.heap.size, 0, none⟩ : Addr).add j) = some u) := World.news_of_block (cs := #[.int .u16 o, .int .u32 t, .int .u32 r, .slice ax m cx]) (t := 41) (fr := (0, 0)) (heap_alloc_new w7 _)
                have N3 : Hid (∀ u : Value, u ∈ [Value.int .u16 o, .int .u32 t, .int .u32 r, .slice ax m cx] → u.oneCell' = true) := by intro u hu; simp at hu; rcases hu with rfl | rfl | rfl | rfl <;> rfl
                have N4 : Hid (st.2.2.2.length + 1 ≤ maxLen) := by show _ ≤ _; unfold maxLen; omega
                have N5 : Hid ((st.2.2.2.length + 1) * 40 ≤ 140737488355328) := by show _ ≤ _; omega
                have N6 : Hid (lo ≤ (w7.alloc (.cells #[.int .u16 o, .int .u32 t, .int .u32 r, .slice ax m cx] 41)).heap.size) := by show _ ≤ _; rw [HSYZ.out]; omega
                obtain ⟨ci, _⟩ := blk_cells HKI7.out
                obtain ⟨cm, fm⟩ := blk_cells HP7.out.box.mod
                have x0 := ci 0
                have x1 := ci 1
                have x2 := ci 2
                have x3 := ci 3
                have m2 : w7.cell? ⟨w.heap.size + 3, 2, none⟩ = some v := cm 2
                have HIN := hide (And.intro hi (And.intro hz0 (And.intro hz1 hz2)))
                clear hbig had hnx hown hrow hown7 hba hob HI0 HERR HNXT HAD2 ci cm fm hi hz0 hz1 hz2
                go_wp2_with (at_builtin; refine wpList_append_lies _ rfl (.tmp 116) (.tmp 118) 23 rfl lo 41 i0 (.agg #[.int .u16 0, .int .u32 0, .int .u32 0, .slice none 0 0]) 4 40 Tryz.underlying23 HIN.out.1 HIN.out.2.1 HIN.out.2.2.1 HIN.out.2.2.2 rfl (by decide) v st.2.2.2.length cs rfl N1.out ⟨w7.heap.size, 0, none⟩ 1 1 [.int .u16 o, .int .u32 t, .int .u32 r, .slice ax m cx] rfl rfl N2.out N3.out (by decide) N4.out N5.out N6.out _ rfl ?_)
                · intro g6 cap6 w8 hown6 hgrow6 hat6 hlt6
                  have HB8 : Hid (PrB w st.1 st.2.1 v w8) := (HP7.out.box.below HBA5.out).row hgrow6 (fun g e => by have := HOB.out g e; omega)
                  have d2 : w8.cell? ⟨w.heap.size + 3, 2, none⟩ = some v := (blk_cells HB8.out.mod).1 2
                  have e2 : w8.frozen? ⟨w.heap.size + 3, 2, none⟩ = false := (blk_cells HB8.out.mod).2 2
                  have HO8 := hide hown6
                  have HG8 := hide hgrow6
                  have HA8 := hide hat6
                  clear hown6 hgrow6 hat6
                  have hpush := RowI.push (w0 := wr) (x := (o, t, r, xs)) HRWA.out (HBW.out.trans (HBA5.out.mono HBW.out.size)) (own_below HO7.out HBA5.out) hm (fun b e => (HOB.out b e).2) hlow HG8.out (by rw [HSYZ.out]; exact HA8.out)
                  have HO9 := hide (ownsRow_setCell_below HO8.out (a := ⟨w.heap.size + 3, 2, none⟩) (by simpa using hloB) (.slice (some ⟨g6, 0, none⟩) (st.2.2.2.length + 1) cap6))
                  have HR9 := hide (hpush.grown (grown_set (World.grownBy.refl w8 (some (w.heap.size + 3))) 2 (.slice (some ⟨g6, 0, none⟩) (st.2.2.2.length + 1) cap6)) (fun g e => by simp only [Option.some.injEq] at e; subst e; exact .inl hloB))
                  have HLE9 : Hid (lo ≤ (w8.setCell ⟨w.heap.size + 3, 2, none⟩ (.slice (some ⟨g6, 0, none⟩) (st.2.2.2.length + 1) cap6)).heap.size) := by
                    show _ ≤ _
                    rw [World.size_setCell]
                    have := HG8.out.size
                    rw [HSYZ.out] at this
                    omega
                  have HS9 := hide (((HP7.out.strs.below HBA5.out).row HG8.out (fun b off e e2 => by have := HOB.out b e2; have := (HP7.out.far b off e).2; omega)).setB (w.heap.size + 3) 2 (.slice (some ⟨g6, 0, none⟩) (st.2.2.2.length + 1) cap6) (fun b off e => by have := (HP7.out.far b off e).1; omega))
                  have HB9 := hide (HB8.out.setInsts (.slice (some ⟨g6, 0, none⟩) (st.2.2.2.length + 1) cap6))
                  have HF9 := hide (And.intro HP7.out.bnd (And.intro HP7.out.far HP7.out.ok))
                  have HDE := hide (And.intro d2 e2)
                  clear hpush HB8 HO8 HG8 HA8 m2 x0 x1 x2 x3 HO7 HP7 HKI7 HBW HBA5 HRWA HOWN7 N1 N2 N3 N4 N5 N6 HDE
                  go_wp2_with fail
                  clear d2 e2
                  generalize w8.setCell ⟨w.heap.size + 3, 2, none⟩ (.slice (some ⟨g6, 0, none⟩) (st.2.2.2.length + 1) cap6) = Z at *
                  go_roundw
                  case rel => exact ⟨k + 1, (st.1, st.2.1, st.2.2.1 + (rl : Int), st.2.2.2 ++ [(o, t, r, xs)]), .slice (some ⟨g6, 0, none⟩) (st.2.2.2.length + 1) cap6, by omega, by go_num, by simp; omega, by simp; omega, ⟨HB9.out, ⟨⟨_, by rw [List.length_append]; exact HO9.out, HR9.out⟩, hloB, HLE9.out⟩, ⟨by simp; omega, by have := HBIG.out; simp; omega, by simp; omega⟩, instsOk_push HF9.out.2.2 HOK.out, HF9.out.1, HN.out, HS9.out, HF9.out.2.1⟩⟩
                  case measure => simp [intOf]; omega
          · have hE' : (E != 0) = true := by simpa using hE
            have HR := hide (HERR.out E hE (by rw [HAD.out, if_pos hE]))
            have HBX := hide HPX.out.box
            have HSL : Hid (BS < X.heap.size ∧ w.heap.size + 4 ≤ BS) := ⟨hlS, by omega⟩
            have CS := hide cE
            clear HERR HNXT HAD HSAY hLn LC kI hO HKR hbX HP hcell HPX hlS hlI kS
            have hsw := HBX.out.size
            have LN : Hid (∀ w', LeafP w X w' → w'.cell? ⟨w.heap.size + 2, 0, none⟩ = some (.int .u32 0) ∧ w'.cell? ⟨w.heap.size + 2, 1, none⟩ = some (.int .u32 0) ∧ w'.cell? ⟨w.heap.size + 2, 2, none⟩ = some (.slice none 0 0) ∧ w'.cell? ⟨BS, 0, none⟩ = some (.int .i64 (E))) := fun w' h => by
              obtain ⟨cz, _⟩ := blk_cells HBX.out.non
              exact ⟨h.aside.cell (by omega) (by omega) (by omega) (cz 0), h.aside.cell (by omega) (by omega) (by omega) (cz 1), h.aside.cell (by omega) (by omega) (by omega) (cz 2), h.aside.cell HSL.out.1 (by have := HSL.out.2; omega) (by have := HSL.out.2; omega) CS.out⟩
            have hC0 := LeafP.start HBX.out
            clear hsw
            go_wp2_with fail
            rename_i Kr hKr
            have HKR := hide hKr
            clear hKr
            have key : ∀ (u : Array Value) (Xr : World), u.getD 2 undef = .pointer (some ⟨w.heap.size, 0, none⟩) → u.getD 3 undef = .pointer (some ⟨w.heap.size + 1, 0, none⟩) → LeafP w X Xr → Xr.heap[w.heap.size + 1]? = some (.cells #[.int .i64 (E), .int .i64 ((k : Int) + 1)] 28 (0, 0)) → Kr { tmps := u, defers := [] } Xr := by
              intro u Xr h2 h3 hX hx
              refine HKR.out _ _ ?_
              obtain ⟨cm, _⟩ := blk_cells hX.res
              obtain ⟨cp, _⟩ := blk_cells hx
              have r0 := cm 0
              have r1 := cm 1
              have r2 := cm 2
              have r3 := cp 0
              have r4 := cp 1
              have HBE := hide hX.bel
              clear hX hx hC0 cm cp
              go_wp2_with fail
              have h2' : u[2]?.getD undef = .pointer (some ⟨w.heap.size, 0, none⟩) := by rw [← Array.getD_eq_getD_getElem?]; exact h2
              have h3' : u[3]?.getD undef = .pointer (some ⟨w.heap.size + 1, 0, none⟩) := by rw [← Array.getD_eq_getD_getElem?]; exact h3
              refine bodyPost_ret (v := .tuple #[.agg #[.int .u32 0, .int .u32 0, .slice none 0 0], .agg #[.int .i64 (E), .int .i64 ((k : Int) + 1)]]) (by simp [results, Tryz.results8, go_sem, h2', h3', r0, r1, r2, r3, r4]) rfl ?_
              unfold ParQ
              rw [HR.out]
              exact ⟨none, 0, 0, rfl, instsV_nil, rfl, fun j hj => by simp at hj, HBE.out⟩
            have KEY := hide key
            clear key HKR
            have hmix : Tryz.prog.follows .mixedOrders = true := by kernel_rfl
            refine (wpIn_wide (n := 0)).1 ?_
            refine wpIn_normal (wpIn_region_any hmix (wpAnyC_sound (C := LeafP w X) _ _ _ _ ?_))
            change wpAnyC _ _ _ _ _ _ _ _ _ _ (World.drew _)
            refine wpAnyC_takeD (i := 0) (some 91) (v := .agg #[.int .u32 0, .int .u32 0, .slice none 0 0]) (fun _ => trivial) (by kernel_rfl) rfl rfl (by kernel_rfl) (by kernel_rfl) (by kernel_rfl) (fun _ _ _ h => by cases h.1) hC0 (Or.inl ⟨by kernel_rfl, fun w' hC => by obtain ⟨b0, b1, b2, _⟩ := LN.out w' hC; clear hC; go_simp⟩) ?_
            simp only [Act.put, List.setIfInBounds_toArray, List.set_cons_succ, List.set_cons_zero]
            refine wpAnyC_takeD (i := 1) (some 92) (v := .pointer (some ⟨BS, 0, none⟩)) (fun _ => trivial) (by kernel_rfl) rfl rfl (by kernel_rfl) (by kernel_rfl) (by kernel_rfl) (fun _ _ _ h => by cases h.1) hC0 (Or.inl ⟨by kernel_rfl, fun w' hC => by clear hC; go_simp⟩) ?_
            simp only [Act.put, List.setIfInBounds_toArray, List.set_cons_succ, List.set_cons_zero]
            refine wpAnyC_takeD (i := 2) (some 93) (v := .int .i64 (E)) (fun _ => trivial) (by kernel_rfl) rfl rfl (by kernel_rfl) (by kernel_rfl) (by kernel_rfl) (fun _ _ _ h => by cases h.1) hC0 (Or.inl ⟨by kernel_rfl, fun w' hC => by obtain ⟨_, _, _, b3⟩ := LN.out w' hC; clear hC; go_simp⟩) ?_
            simp only [Act.put, List.setIfInBounds_toArray, List.set_cons_succ, List.set_cons_zero]
            refine wpAnyC_takeD (i := 3) (some 94) (v := .int .i64 (k : Int)) (fun _ => trivial) (by kernel_rfl) rfl rfl (by kernel_rfl) (by kernel_rfl) (by kernel_rfl) (fun _ _ _ h => by cases h.1) hC0 (Or.inl ⟨by kernel_rfl, fun w' hC => by clear hC; go_simp⟩) ?_
            simp only [Act.put, List.setIfInBounds_toArray, List.set_cons_succ, List.set_cons_zero]
            refine wpAnyC_takeD (i := 4) (some 95) (v := .int .i64 ((k : Int) + 1)) (fun _ => trivial) (by kernel_rfl) rfl rfl (by kernel_rfl) (by kernel_rfl) (by kernel_rfl) (fun _ _ _ h => by cases h.1) hC0 (Or.inl ⟨by kernel_rfl, fun w' hC => by clear hC; go_simp⟩) ?_
            simp only [Act.put, List.setIfInBounds_toArray, List.set_cons_succ, List.set_cons_zero]
            refine wpAnyC_ready (rs := [5]) (by kernel_rfl) (by simp) ?_
            refine AllC.cons rfl (fun K hK => ?_) AllC.nil
            go_simp
            refine ⟨trivial, rfl, (callsIn_wide.2 (refSpot_exact _ _ _)).mono ?_⟩
            rintro x w5 ⟨rfl, hw5⟩
            dsimp only
            have hC5 : LeafP w X w5 := by rw [hw5]; exact hC0.alloc _
            clear hw5
            refine hK _ _ hC5 ?_
            clear hK K
            refine wpAnyC_ready (rs := [6]) (by kernel_rfl) (by simp) ?_
            refine AllC.cons rfl (fun K hK => ?_) AllC.nil
            obtain ⟨⟨c0, c1, c2, cf⟩, _⟩ := hC5.cells
            go_simp
            refine hK _ _ hC5.zero ?_
            clear hK K c0 c1 c2 cf
            refine wpAnyC_ready (rs := [7]) (by kernel_rfl) (by simp) ?_
            refine AllC.cons rfl (fun K hK => ?_) AllC.nil
            obtain ⟨_, y0, y1, s0, s1, sf⟩ := hC5.zero.cells
            go_simp
            refine hK _ _ (hC5.zero.put (.int .i64 (E)) (.int .i64 ((k : Int) + 1))).1 ?_
            clear hK K s0 s1 sf
            have hF1 := hide (hC5.zero.put (.int .i64 (E)) (.int .i64 ((k : Int) + 1))).1
            have hF2 := hide (hC5.zero.put (.int .i64 (E)) (.int .i64 ((k : Int) + 1))).2
            clear hC0 hC5 LN
            refine wpAnyC_done (by kernel_rfl) ⟨rfl, ?_⟩ _
            rw [then_normal]
            generalize ((((w5.setCell ⟨w.heap.size, 0, none⟩ (.int .u32 0)).setCell ⟨w.heap.size, 1, none⟩ (.int .u32 0)).setCell ⟨w.heap.size, 2, none⟩ (.slice none 0 0)).setCell ⟨w.heap.size + 1, 0, none⟩ (.int .i64 (E))).setCell ⟨w.heap.size + 1, 1, none⟩ (.int .i64 ((k : Int) + 1)) = XX at *
            exact KEY.out _ XX rfl rfl hF1.out hF2.out
        have KEY := hide key
        clear key HKR
        have hC : Below wr.heap.size wr wr.drew := below_drew wr
        have hmix : Tryz.prog.follows .mixedOrders = true := by kernel_rfl
        clear hd0 HERR HNXT HAD HSAY
        refine (wpIn_wide (n := 0)).1 ?_
        refine wpIn_normal (wpIn_region_any hmix (wpAnyC_sound (C := Below wr.heap.size wr) _ _ _ _ ?_))
        change wpAnyC _ _ _ _ _ _ _ _ _ _ (World.drew _)
        refine wpAnyC_takeD (i := 0) (some 78) (v := .slice (some ⟨b0, off, none⟩) (lineL s).length c) (fun _ => trivial) (by kernel_rfl) rfl rfl (by kernel_rfl) (by kernel_rfl) (by kernel_rfl) (fun _ _ _ h => by cases h.1) hC (Or.inl ⟨by kernel_rfl, fun w' hC => by clear hC; go_simp⟩) ?_
        simp only [Act.put, List.setIfInBounds_toArray, List.set_cons_succ, List.set_cons_zero]
        refine wpAnyC_takeD (i := 1) (some 79) (v := .int .i64 (k : Int)) (fun _ => trivial) (by kernel_rfl) rfl rfl (by kernel_rfl) (by kernel_rfl) (by kernel_rfl) (fun _ _ _ h => by cases h.1) hC (Or.inl ⟨by kernel_rfl, fun w' hC => by clear hC; go_simp⟩) ?_
        simp only [Act.put, List.setIfInBounds_toArray, List.set_cons_succ, List.set_cons_zero]
        refine wpAnyC_takeD (i := 2) (some 80) (v := .pointer (some ⟨b0, off + k, none⟩)) (fun _ => trivial) (by kernel_rfl) rfl rfl (by kernel_rfl) (by kernel_rfl) (by kernel_rfl) (fun _ _ _ h => by cases h.1) hC (Or.inl ⟨by kernel_rfl, fun w' hC => by clear hC; go_simp⟩) ?_
        simp only [Act.put, List.setIfInBounds_toArray, List.set_cons_succ, List.set_cons_zero]
        refine wpAnyC_takeD (i := 3) (some 81) (v := .string ln) (fun _ => trivial) (by kernel_rfl) rfl rfl (by kernel_rfl) (by kernel_rfl) (by kernel_rfl) (fun _ _ _ h => by cases h.1) hC (Or.inl ⟨by kernel_rfl, fun w' hC => by obtain ⟨_, e2⟩ := LC.out w' hC; clear hC; go_simp⟩) ?_
        simp only [Act.put, List.setIfInBounds_toArray, List.set_cons_succ, List.set_cons_zero]
        refine wpAnyC_takeD (i := 4) (some 82) (v := .pointer (some ⟨w.heap.size + 1 + 1 + 1, 1, none⟩)) (fun _ => trivial) (by kernel_rfl) rfl rfl (by kernel_rfl) (by kernel_rfl) (by kernel_rfl) (fun _ _ _ h => by cases h.1) hC (Or.inl ⟨by kernel_rfl, fun w' hC => by clear hC; go_simp⟩) ?_
        simp only [Act.put, List.setIfInBounds_toArray, List.set_cons_succ, List.set_cons_zero]
        refine wpAnyC_takeD (i := 5) (some 83) (v := .int .u32 st.2.1) (fun _ => trivial) (by kernel_rfl) rfl rfl (by kernel_rfl) (by kernel_rfl) (by kernel_rfl) (fun _ _ _ h => by cases h.1) hC (Or.inl ⟨by kernel_rfl, fun w' hC => by obtain ⟨e1, _⟩ := LC.out w' hC; clear hC; go_simp⟩) ?_
        simp only [Act.put, List.setIfInBounds_toArray, List.set_cons_succ, List.set_cons_zero]
        generalize wr.drew = wd0 at hC ⊢
        refine wpAnyC_ready (rs := [6, 11, 12]) (by kernel_rfl) (by simp) ?_
        refine AllC.cons rfl (fun K hK => ?_) (AllC.cons rfl (fun K hK => ?_) (AllC.cons rfl (fun K hK => ?_) (AllC.nil)))
        · go_simp
          refine ⟨trivial, rfl, (callsIn_wide.2 (hLn _)).mono ?_⟩
          rintro x wc0 ⟨ax, m, cx, rfl, hOw, hm, hbN⟩
          dsimp only
          have hC' : Below wr.heap.size wr wc0 := growB7 hC hbN
          have hO : wc0.ownsRow wr.heap.size 81 3 (.slice ax m cx) m (xs.flatMap argC) := own_mono7 hOw (B' := wr.heap.size) (by have := hC.size; first | exact this | exact hC.size)
          clear hOw
          refine hK _ _ hC' ?_
          clear hK K hC hbN
          have hC := hC'
          clear hC'
          refine wpAnyC_takeD (i := 7) (some 77) (v := .tuple #[.agg #[.int .u16 o, .int .u32 t, .int .u32 r, .slice ax m cx], .bool is, .agg #[.int .i64 E, .int .i64 P]]) (fun _ => trivial) (by kernel_rfl) rfl rfl (by kernel_rfl) (by kernel_rfl) (by kernel_rfl) (fun _ _ _ h => by cases h.1) hC (Or.inl ⟨by kernel_rfl, fun w' hC => by clear hC; go_simp⟩) ?_
          simp only [Act.put, List.setIfInBounds_toArray, List.set_cons_succ, List.set_cons_zero]
          refine wpAnyC_takeD (i := 8) (some 85) (v := .agg #[.int .u16 o, .int .u32 t, .int .u32 r, .slice ax m cx]) (fun _ => trivial) (by kernel_rfl) rfl rfl (by kernel_rfl) (by kernel_rfl) (by kernel_rfl) (fun _ _ _ h => by cases h.1) hC (Or.inl ⟨by kernel_rfl, fun w' hC => by clear hC; go_simp⟩) ?_
          simp only [Act.put, List.setIfInBounds_toArray, List.set_cons_succ, List.set_cons_zero]
          refine wpAnyC_takeD (i := 9) (some 86) (v := .bool is) (fun _ => trivial) (by kernel_rfl) rfl rfl (by kernel_rfl) (by kernel_rfl) (by kernel_rfl) (fun _ _ _ h => by cases h.1) hC (Or.inl ⟨by kernel_rfl, fun w' hC => by clear hC; go_simp⟩) ?_
          simp only [Act.put, List.setIfInBounds_toArray, List.set_cons_succ, List.set_cons_zero]
          refine wpAnyC_takeD (i := 10) (some 87) (v := .agg #[.int .i64 E, .int .i64 P]) (fun _ => trivial) (by kernel_rfl) rfl rfl (by kernel_rfl) (by kernel_rfl) (by kernel_rfl) (fun _ _ _ h => by cases h.1) hC (Or.inl ⟨by kernel_rfl, fun w' hC => by clear hC; go_simp⟩) ?_
          simp only [Act.put, List.setIfInBounds_toArray, List.set_cons_succ, List.set_cons_zero]
          refine wpAnyC_ready (rs := [11, 12]) (by kernel_rfl) (by simp) ?_
          refine AllC.cons rfl (fun K hK => ?_) (AllC.cons rfl (fun K hK => ?_) (AllC.nil))
          · go_simp
            have hC' : Below wr.heap.size wr (wc0.alloc (.cells #[.int .u16 0, .int .u32 0, .int .u32 0, .slice none 0 0] 41)) := hC.alloc hC.size _
            have kI' := heap_alloc_new wc0 (.cells #[.int .u16 0, .int .u32 0, .int .u32 0, .slice none 0 0] 41)
            have sI : wr.heap.size ≤ wc0.heap.size := hC.size
            have nI : (Value.slice ax m cx).ownBlock ≠ some wc0.heap.size := fun e => by have := (hO.lt _ e).2; omega
            have hO' := own_below hO ((Below.refl _ wc0).alloc (Nat.le_refl _) (.cells #[.int .u16 0, .int .u32 0, .int .u32 0, .slice none 0 0] 41))
            clear hO
            have hO := hO'
            clear hO'
            have kI := kI'
            clear kI'
            refine hK _ _ hC' ?_
            clear hK K hC
            have hC := hC'
            clear hC'
            generalize wc0.alloc (.cells #[.int .u16 0, .int .u32 0, .int .u32 0, .slice none 0 0] 41) = wI1 at *
            generalize wc0.heap.size = BI at *
            refine wpAnyC_ready (rs := [12]) (by kernel_rfl) (by simp) ?_
            refine AllC.cons rfl (fun K hK => ?_) (AllC.nil)
            go_simp
            have hC' : Below wr.heap.size wr (wI1.alloc (.cells #[.int .i64 0, .int .i64 0] 28)) := hC.alloc hC.size _
            have kS' := heap_alloc_new wI1 (.cells #[.int .i64 0, .int .i64 0] 28)
            have sS : wr.heap.size ≤ wI1.heap.size := hC.size
            have nS : (Value.slice ax m cx).ownBlock ≠ some wI1.heap.size := fun e => by have := (hO.lt _ e).2; omega
            have hO' := own_below hO ((Below.refl _ wI1).alloc (Nat.le_refl _) (.cells #[.int .i64 0, .int .i64 0] 28))
            clear hO
            have hO := hO'
            clear hO'
            have hlI := (Array.getElem?_eq_some_iff.1 kI).1
            have kI' := (Below.heap_alloc _ (.cells #[.int .i64 0, .int .i64 0] 28) _ hlI).trans kI
            clear kI
            have kI := kI'
            clear kI'
            have nIS : wI1.heap.size ≠ BI := by omega
            clear hlI
            have kS := kS'
            clear kS'
            refine hK _ _ hC' ?_
            clear hK K hC
            have hC := hC'
            clear hC'
            generalize wI1.alloc (.cells #[.int .i64 0, .int .i64 0] 28) = wS2 at *
            generalize wI1.heap.size = BS at *
            refine wpAnyC_ready (rs := [13]) (by kernel_rfl) (by simp) ?_
            refine AllC.cons rfl (fun K hK => ?_) AllC.nil
            obtain ⟨yi, yf⟩ := blk_cells kI
            have y0 := yi 0
            have y1 := yi 1
            have y2 := yi 2
            have y3 := yi 3
            obtain ⟨q1, q2⟩ := four_putP kI (.int .u16 o) (.int .u32 t) (.int .u32 r) (.slice ax m cx)
            have hCq : Below wr.heap.size wr (((((wS2.setCell ⟨BI, 0, none⟩ (.int .u16 o)).setCell ⟨BI, 1, none⟩ (.int .u32 t)).setCell ⟨BI, 2, none⟩ (.int .u32 r)).setCell ⟨BI, 3, none⟩ (.slice ax m cx))) := (((hC.setCell sI _).setCell sI _).setCell sI _).setCell sI _
            have hOq := hO.kept (grown_set (grown_set (grown_set (grown_set (World.grownBy.refl wS2 (some BI)) 0 (.int .u16 o)) 1 (.int .u32 t)) 2 (.int .u32 r)) 3 (.slice ax m cx)) (.inr nI)
            have kSq := (q2 BS nIS).trans kS
            clear yi hO kS kI
            go_simp
            refine hK _ _ hCq ?_
            clear hK K y0 y1 y2 y3 yf hC
            generalize ((((wS2.setCell ⟨BI, 0, none⟩ (.int .u16 o)).setCell ⟨BI, 1, none⟩ (.int .u32 t)).setCell ⟨BI, 2, none⟩ (.int .u32 r)).setCell ⟨BI, 3, none⟩ (.slice ax m cx)) = XQ at *
            refine wpAnyC_takeD (i := 14) (some 15) (v := .bool is) (fun _ => trivial) (by kernel_rfl) rfl rfl (by kernel_rfl) (by kernel_rfl) (by kernel_rfl) (fun _ _ _ h => by cases h.1) hCq (Or.inl ⟨by kernel_rfl, fun w' hC => by clear hC; go_simp⟩) ?_
            simp only [Act.put, List.setIfInBounds_toArray, List.set_cons_succ, List.set_cons_zero]
            refine wpAnyC_ready (rs := [15]) (by kernel_rfl) (by simp) ?_
            refine AllC.cons rfl (fun K hK => ?_) AllC.nil
            obtain ⟨yi, yf⟩ := blk_cells kSq
            have y0 := yi 0
            have y1 := yi 1
            obtain ⟨p1, _⟩ := two_putB kSq (.int .i64 E) (.int .i64 P)
            have hCp : Below wr.heap.size wr ((XQ.setCell ⟨BS, 0, none⟩ (.int .i64 E)).setCell ⟨BS, 1, none⟩ (.int .i64 P)) := (hCq.setCell sS _).setCell sS _
            have hOp := hOq.kept (grown_set (grown_set (World.grownBy.refl XQ (some BS)) 0 (.int .i64 E)) 1 (.int .i64 P)) (.inr nS)
            have kIp : ((XQ.setCell ⟨BS, 0, none⟩ (.int .i64 E)).setCell ⟨BS, 1, none⟩ (.int .i64 P)).heap[BI]? = some (.cells #[.int .u16 o, .int .u32 t, .int .u32 r, .slice ax m cx] 41 (0, 0)) := by rw [Below.heap_setCell _ _ _ _ (by simpa using nIS.symm), Below.heap_setCell _ _ _ _ (by simpa using nIS.symm)]; exact q1
            clear yi q1 q2 hOq kSq
            go_simp
            refine hK _ _ hCp ?_
            clear hK K y0 y1 yf hCq
            generalize (XQ.setCell ⟨BS, 0, none⟩ (.int .i64 E)).setCell ⟨BS, 1, none⟩ (.int .i64 P) = XF at *
            refine wpAnyC_done (by kernel_rfl) ⟨rfl, ?_⟩ _
            rw [then_normal]
            exact KEY.out _ XF ax m cx BI BS rfl rfl rfl rfl rfl rfl rfl rfl rfl rfl rfl rfl rfl rfl rfl rfl rfl rfl rfl rfl rfl rfl rfl rfl rfl rfl rfl rfl rfl kIp p1 hCp hOp hm sI sS
          · go_simp
            have hC' : Below wr.heap.size wr (wc0.alloc (.cells #[.int .i64 0, .int .i64 0] 28)) := hC.alloc hC.size _
            have kS' := heap_alloc_new wc0 (.cells #[.int .i64 0, .int .i64 0] 28)
            have sS : wr.heap.size ≤ wc0.heap.size := hC.size
            have nS : (Value.slice ax m cx).ownBlock ≠ some wc0.heap.size := fun e => by have := (hO.lt _ e).2; omega
            have hO' := own_below hO ((Below.refl _ wc0).alloc (Nat.le_refl _) (.cells #[.int .i64 0, .int .i64 0] 28))
            clear hO
            have hO := hO'
            clear hO'
            have kS := kS'
            clear kS'
            refine hK _ _ hC' ?_
            clear hK K hC
            have hC := hC'
            clear hC'
            generalize wc0.alloc (.cells #[.int .i64 0, .int .i64 0] 28) = wS1 at *
            generalize wc0.heap.size = BS at *
            refine wpAnyC_ready (rs := [11]) (by kernel_rfl) (by simp) ?_
            refine AllC.cons rfl (fun K hK => ?_) (AllC.nil)
            go_simp
            have hC' : Below wr.heap.size wr (wS1.alloc (.cells #[.int .u16 0, .int .u32 0, .int .u32 0, .slice none 0 0] 41)) := hC.alloc hC.size _
            have kI' := heap_alloc_new wS1 (.cells #[.int .u16 0, .int .u32 0, .int .u32 0, .slice none 0 0] 41)
            have sI : wr.heap.size ≤ wS1.heap.size := hC.size
            have nI : (Value.slice ax m cx).ownBlock ≠ some wS1.heap.size := fun e => by have := (hO.lt _ e).2; omega
            have hO' := own_below hO ((Below.refl _ wS1).alloc (Nat.le_refl _) (.cells #[.int .u16 0, .int .u32 0, .int .u32 0, .slice none 0 0] 41))
            clear hO
            have hO := hO'
            clear hO'
            have hlS := (Array.getElem?_eq_some_iff.1 kS).1
            have kS' := (Below.heap_alloc _ (.cells #[.int .u16 0, .int .u32 0, .int .u32 0, .slice none 0 0] 41) _ hlS).trans kS
            clear kS
            have kS := kS'
            clear kS'
            have nIS : BS ≠ wS1.heap.size := by omega
            clear hlS
            have kI := kI'
            clear kI'
            refine hK _ _ hC' ?_
            clear hK K hC
            have hC := hC'
            clear hC'
            generalize wS1.alloc (.cells #[.int .u16 0, .int .u32 0, .int .u32 0, .slice none 0 0] 41) = wI2 at *
            generalize wS1.heap.size = BI at *
            refine wpAnyC_ready (rs := [13]) (by kernel_rfl) (by simp) ?_
            refine AllC.cons rfl (fun K hK => ?_) AllC.nil
            obtain ⟨yi, yf⟩ := blk_cells kI
            have y0 := yi 0
            have y1 := yi 1
            have y2 := yi 2
            have y3 := yi 3
            obtain ⟨q1, q2⟩ := four_putP kI (.int .u16 o) (.int .u32 t) (.int .u32 r) (.slice ax m cx)
            have hCq : Below wr.heap.size wr (((((wI2.setCell ⟨BI, 0, none⟩ (.int .u16 o)).setCell ⟨BI, 1, none⟩ (.int .u32 t)).setCell ⟨BI, 2, none⟩ (.int .u32 r)).setCell ⟨BI, 3, none⟩ (.slice ax m cx))) := (((hC.setCell sI _).setCell sI _).setCell sI _).setCell sI _
            have hOq := hO.kept (grown_set (grown_set (grown_set (grown_set (World.grownBy.refl wI2 (some BI)) 0 (.int .u16 o)) 1 (.int .u32 t)) 2 (.int .u32 r)) 3 (.slice ax m cx)) (.inr nI)
            have kSq := (q2 BS nIS).trans kS
            clear yi hO kS kI
            go_simp
            refine hK _ _ hCq ?_
            clear hK K y0 y1 y2 y3 yf hC
            generalize ((((wI2.setCell ⟨BI, 0, none⟩ (.int .u16 o)).setCell ⟨BI, 1, none⟩ (.int .u32 t)).setCell ⟨BI, 2, none⟩ (.int .u32 r)).setCell ⟨BI, 3, none⟩ (.slice ax m cx)) = XQ at *
            refine wpAnyC_takeD (i := 14) (some 15) (v := .bool is) (fun _ => trivial) (by kernel_rfl) rfl rfl (by kernel_rfl) (by kernel_rfl) (by kernel_rfl) (fun _ _ _ h => by cases h.1) hCq (Or.inl ⟨by kernel_rfl, fun w' hC => by clear hC; go_simp⟩) ?_
            simp only [Act.put, List.setIfInBounds_toArray, List.set_cons_succ, List.set_cons_zero]
            refine wpAnyC_ready (rs := [15]) (by kernel_rfl) (by simp) ?_
            refine AllC.cons rfl (fun K hK => ?_) AllC.nil
            obtain ⟨yi, yf⟩ := blk_cells kSq
            have y0 := yi 0
            have y1 := yi 1
            obtain ⟨p1, _⟩ := two_putB kSq (.int .i64 E) (.int .i64 P)
            have hCp : Below wr.heap.size wr ((XQ.setCell ⟨BS, 0, none⟩ (.int .i64 E)).setCell ⟨BS, 1, none⟩ (.int .i64 P)) := (hCq.setCell sS _).setCell sS _
            have hOp := hOq.kept (grown_set (grown_set (World.grownBy.refl XQ (some BS)) 0 (.int .i64 E)) 1 (.int .i64 P)) (.inr nS)
            have kIp : ((XQ.setCell ⟨BS, 0, none⟩ (.int .i64 E)).setCell ⟨BS, 1, none⟩ (.int .i64 P)).heap[BI]? = some (.cells #[.int .u16 o, .int .u32 t, .int .u32 r, .slice ax m cx] 41 (0, 0)) := by rw [Below.heap_setCell _ _ _ _ (by simpa using nIS.symm), Below.heap_setCell _ _ _ _ (by simpa using nIS.symm)]; exact q1
            clear yi q1 q2 hOq kSq
            go_simp
            refine hK _ _ hCp ?_
            clear hK K y0 y1 yf hCq
            generalize (XQ.setCell ⟨BS, 0, none⟩ (.int .i64 E)).setCell ⟨BS, 1, none⟩ (.int .i64 P) = XF at *
            refine wpAnyC_done (by kernel_rfl) ⟨rfl, ?_⟩ _
            rw [then_normal]
            exact KEY.out _ XF ax m cx BI BS rfl rfl rfl rfl rfl rfl rfl rfl rfl rfl rfl rfl rfl rfl rfl rfl rfl rfl rfl rfl rfl rfl rfl rfl rfl rfl rfl rfl rfl kIp p1 hCp hOp hm sI sS
        · go_simp
          have hC' : Below wr.heap.size wr (wd0.alloc (.cells #[.int .u16 0, .int .u32 0, .int .u32 0, .slice none 0 0] 41)) := hC.alloc hC.size _
          have kI' := heap_alloc_new wd0 (.cells #[.int .u16 0, .int .u32 0, .int .u32 0, .slice none 0 0] 41)
          have sI : wr.heap.size ≤ wd0.heap.size := hC.size
          have kI := kI'
          clear kI'
          refine hK _ _ hC' ?_
          clear hK K hC
          have hC := hC'
          clear hC'
          generalize wd0.alloc (.cells #[.int .u16 0, .int .u32 0, .int .u32 0, .slice none 0 0] 41) = wI0 at *
          generalize wd0.heap.size = BI at *
          refine wpAnyC_ready (rs := [6, 12]) (by kernel_rfl) (by simp) ?_
          refine AllC.cons rfl (fun K hK => ?_) (AllC.cons rfl (fun K hK => ?_) (AllC.nil))
          · go_simp
            refine ⟨trivial, rfl, (callsIn_wide.2 (hLn _)).mono ?_⟩
            rintro x wc1 ⟨ax, m, cx, rfl, hOw, hm, hbN⟩
            dsimp only
            have hC' : Below wr.heap.size wr wc1 := growB7 hC hbN
            have hIl := (Array.getElem?_eq_some_iff.1 kI).1
            have kI' := (hbN.block _ hIl).trans kI
            clear kI
            have kI := kI'
            clear kI'
            have nI : (Value.slice ax m cx).ownBlock ≠ some BI := fun e => by have := (hOw.lt _ e).1; revert this; first | omega | (simp; omega)
            have hO : wc1.ownsRow wr.heap.size 81 3 (.slice ax m cx) m (xs.flatMap argC) := own_mono7 hOw (B' := wr.heap.size) (by have := hC.size; first | exact this | exact hC.size)
            clear hOw
            refine hK _ _ hC' ?_
            clear hK K hC hbN
            have hC := hC'
            clear hC'
            refine wpAnyC_takeD (i := 7) (some 77) (v := .tuple #[.agg #[.int .u16 o, .int .u32 t, .int .u32 r, .slice ax m cx], .bool is, .agg #[.int .i64 E, .int .i64 P]]) (fun _ => trivial) (by kernel_rfl) rfl rfl (by kernel_rfl) (by kernel_rfl) (by kernel_rfl) (fun _ _ _ h => by cases h.1) hC (Or.inl ⟨by kernel_rfl, fun w' hC => by clear hC; go_simp⟩) ?_
            simp only [Act.put, List.setIfInBounds_toArray, List.set_cons_succ, List.set_cons_zero]
            refine wpAnyC_takeD (i := 8) (some 85) (v := .agg #[.int .u16 o, .int .u32 t, .int .u32 r, .slice ax m cx]) (fun _ => trivial) (by kernel_rfl) rfl rfl (by kernel_rfl) (by kernel_rfl) (by kernel_rfl) (fun _ _ _ h => by cases h.1) hC (Or.inl ⟨by kernel_rfl, fun w' hC => by clear hC; go_simp⟩) ?_
            simp only [Act.put, List.setIfInBounds_toArray, List.set_cons_succ, List.set_cons_zero]
            refine wpAnyC_takeD (i := 9) (some 86) (v := .bool is) (fun _ => trivial) (by kernel_rfl) rfl rfl (by kernel_rfl) (by kernel_rfl) (by kernel_rfl) (fun _ _ _ h => by cases h.1) hC (Or.inl ⟨by kernel_rfl, fun w' hC => by clear hC; go_simp⟩) ?_
            simp only [Act.put, List.setIfInBounds_toArray, List.set_cons_succ, List.set_cons_zero]
            refine wpAnyC_takeD (i := 10) (some 87) (v := .agg #[.int .i64 E, .int .i64 P]) (fun _ => trivial) (by kernel_rfl) rfl rfl (by kernel_rfl) (by kernel_rfl) (by kernel_rfl) (fun _ _ _ h => by cases h.1) hC (Or.inl ⟨by kernel_rfl, fun w' hC => by clear hC; go_simp⟩) ?_
            simp only [Act.put, List.setIfInBounds_toArray, List.set_cons_succ, List.set_cons_zero]
            refine wpAnyC_ready (rs := [12]) (by kernel_rfl) (by simp) ?_
            refine AllC.cons rfl (fun K hK => ?_) (AllC.nil)
            go_simp
            have hC' : Below wr.heap.size wr (wc1.alloc (.cells #[.int .i64 0, .int .i64 0] 28)) := hC.alloc hC.size _
            have kS' := heap_alloc_new wc1 (.cells #[.int .i64 0, .int .i64 0] 28)
            have sS : wr.heap.size ≤ wc1.heap.size := hC.size
            have hlI := (Array.getElem?_eq_some_iff.1 kI).1
            have kI' := (Below.heap_alloc _ (.cells #[.int .i64 0, .int .i64 0] 28) _ hlI).trans kI
            clear kI
            have kI := kI'
            clear kI'
            have nIS : wc1.heap.size ≠ BI := by omega
            clear hlI
            have nS : (Value.slice ax m cx).ownBlock ≠ some wc1.heap.size := fun e => by have := (hO.lt _ e).2; omega
            have hO' := own_below hO ((Below.refl _ wc1).alloc (Nat.le_refl _) (.cells #[.int .i64 0, .int .i64 0] 28))
            clear hO
            have hO := hO'
            clear hO'
            have kS := kS'
            clear kS'
            refine hK _ _ hC' ?_
            clear hK K hC
            have hC := hC'
            clear hC'
            generalize wc1.alloc (.cells #[.int .i64 0, .int .i64 0] 28) = wS2 at *
            generalize wc1.heap.size = BS at *
            refine wpAnyC_ready (rs := [13]) (by kernel_rfl) (by simp) ?_
            refine AllC.cons rfl (fun K hK => ?_) AllC.nil
            obtain ⟨yi, yf⟩ := blk_cells kI
            have y0 := yi 0
            have y1 := yi 1
            have y2 := yi 2
            have y3 := yi 3
            obtain ⟨q1, q2⟩ := four_putP kI (.int .u16 o) (.int .u32 t) (.int .u32 r) (.slice ax m cx)
            have hCq : Below wr.heap.size wr (((((wS2.setCell ⟨BI, 0, none⟩ (.int .u16 o)).setCell ⟨BI, 1, none⟩ (.int .u32 t)).setCell ⟨BI, 2, none⟩ (.int .u32 r)).setCell ⟨BI, 3, none⟩ (.slice ax m cx))) := (((hC.setCell sI _).setCell sI _).setCell sI _).setCell sI _
            have hOq := hO.kept (grown_set (grown_set (grown_set (grown_set (World.grownBy.refl wS2 (some BI)) 0 (.int .u16 o)) 1 (.int .u32 t)) 2 (.int .u32 r)) 3 (.slice ax m cx)) (.inr nI)
            have kSq := (q2 BS nIS).trans kS
            clear yi hO kS kI
            go_simp
            refine hK _ _ hCq ?_
            clear hK K y0 y1 y2 y3 yf hC
            generalize ((((wS2.setCell ⟨BI, 0, none⟩ (.int .u16 o)).setCell ⟨BI, 1, none⟩ (.int .u32 t)).setCell ⟨BI, 2, none⟩ (.int .u32 r)).setCell ⟨BI, 3, none⟩ (.slice ax m cx)) = XQ at *
            refine wpAnyC_takeD (i := 14) (some 15) (v := .bool is) (fun _ => trivial) (by kernel_rfl) rfl rfl (by kernel_rfl) (by kernel_rfl) (by kernel_rfl) (fun _ _ _ h => by cases h.1) hCq (Or.inl ⟨by kernel_rfl, fun w' hC => by clear hC; go_simp⟩) ?_
            simp only [Act.put, List.setIfInBounds_toArray, List.set_cons_succ, List.set_cons_zero]
            refine wpAnyC_ready (rs := [15]) (by kernel_rfl) (by simp) ?_
            refine AllC.cons rfl (fun K hK => ?_) AllC.nil
            obtain ⟨yi, yf⟩ := blk_cells kSq
            have y0 := yi 0
            have y1 := yi 1
            obtain ⟨p1, _⟩ := two_putB kSq (.int .i64 E) (.int .i64 P)
            have hCp : Below wr.heap.size wr ((XQ.setCell ⟨BS, 0, none⟩ (.int .i64 E)).setCell ⟨BS, 1, none⟩ (.int .i64 P)) := (hCq.setCell sS _).setCell sS _
            have hOp := hOq.kept (grown_set (grown_set (World.grownBy.refl XQ (some BS)) 0 (.int .i64 E)) 1 (.int .i64 P)) (.inr nS)
            have kIp : ((XQ.setCell ⟨BS, 0, none⟩ (.int .i64 E)).setCell ⟨BS, 1, none⟩ (.int .i64 P)).heap[BI]? = some (.cells #[.int .u16 o, .int .u32 t, .int .u32 r, .slice ax m cx] 41 (0, 0)) := by rw [Below.heap_setCell _ _ _ _ (by simpa using nIS.symm), Below.heap_setCell _ _ _ _ (by simpa using nIS.symm)]; exact q1
            clear yi q1 q2 hOq kSq
            go_simp
            refine hK _ _ hCp ?_
            clear hK K y0 y1 yf hCq
            generalize (XQ.setCell ⟨BS, 0, none⟩ (.int .i64 E)).setCell ⟨BS, 1, none⟩ (.int .i64 P) = XF at *
            refine wpAnyC_done (by kernel_rfl) ⟨rfl, ?_⟩ _
            rw [then_normal]
            exact KEY.out _ XF ax m cx BI BS rfl rfl rfl rfl rfl rfl rfl rfl rfl rfl rfl rfl rfl rfl rfl rfl rfl rfl rfl rfl rfl rfl rfl rfl rfl rfl rfl rfl rfl kIp p1 hCp hOp hm sI sS
          · go_simp
            have hC' : Below wr.heap.size wr (wI0.alloc (.cells #[.int .i64 0, .int .i64 0] 28)) := hC.alloc hC.size _
            have kS' := heap_alloc_new wI0 (.cells #[.int .i64 0, .int .i64 0] 28)
            have sS : wr.heap.size ≤ wI0.heap.size := hC.size
            have hlI := (Array.getElem?_eq_some_iff.1 kI).1
            have kI' := (Below.heap_alloc _ (.cells #[.int .i64 0, .int .i64 0] 28) _ hlI).trans kI
            clear kI
            have kI := kI'
            clear kI'
            have nIS : wI0.heap.size ≠ BI := by omega
            clear hlI
            have kS := kS'
            clear kS'
            refine hK _ _ hC' ?_
            clear hK K hC
            have hC := hC'
            clear hC'
            generalize wI0.alloc (.cells #[.int .i64 0, .int .i64 0] 28) = wS1 at *
            generalize wI0.heap.size = BS at *
            refine wpAnyC_ready (rs := [6]) (by kernel_rfl) (by simp) ?_
            refine AllC.cons rfl (fun K hK => ?_) (AllC.nil)
            go_simp
            refine ⟨trivial, rfl, (callsIn_wide.2 (hLn _)).mono ?_⟩
            rintro x wc2 ⟨ax, m, cx, rfl, hOw, hm, hbN⟩
            dsimp only
            have hC' : Below wr.heap.size wr wc2 := growB7 hC hbN
            have hIl := (Array.getElem?_eq_some_iff.1 kI).1
            have kI' := (hbN.block _ hIl).trans kI
            clear kI
            have kI := kI'
            clear kI'
            have nI : (Value.slice ax m cx).ownBlock ≠ some BI := fun e => by have := (hOw.lt _ e).1; revert this; first | omega | (simp; omega)
            have hSl := (Array.getElem?_eq_some_iff.1 kS).1
            have kS' := (hbN.block _ hSl).trans kS
            clear kS
            have kS := kS'
            clear kS'
            have nS : (Value.slice ax m cx).ownBlock ≠ some BS := fun e => by have := (hOw.lt _ e).1; revert this; first | omega | (simp; omega)
            have hO : wc2.ownsRow wr.heap.size 81 3 (.slice ax m cx) m (xs.flatMap argC) := own_mono7 hOw (B' := wr.heap.size) (by have := hC.size; first | exact this | exact hC.size)
            clear hOw
            refine hK _ _ hC' ?_
            clear hK K hC hbN
            have hC := hC'
            clear hC'
            refine wpAnyC_takeD (i := 7) (some 77) (v := .tuple #[.agg #[.int .u16 o, .int .u32 t, .int .u32 r, .slice ax m cx], .bool is, .agg #[.int .i64 E, .int .i64 P]]) (fun _ => trivial) (by kernel_rfl) rfl rfl (by kernel_rfl) (by kernel_rfl) (by kernel_rfl) (fun _ _ _ h => by cases h.1) hC (Or.inl ⟨by kernel_rfl, fun w' hC => by clear hC; go_simp⟩) ?_
            simp only [Act.put, List.setIfInBounds_toArray, List.set_cons_succ, List.set_cons_zero]
            refine wpAnyC_takeD (i := 8) (some 85) (v := .agg #[.int .u16 o, .int .u32 t, .int .u32 r, .slice ax m cx]) (fun _ => trivial) (by kernel_rfl) rfl rfl (by kernel_rfl) (by kernel_rfl) (by kernel_rfl) (fun _ _ _ h => by cases h.1) hC (Or.inl ⟨by kernel_rfl, fun w' hC => by clear hC; go_simp⟩) ?_
            simp only [Act.put, List.setIfInBounds_toArray, List.set_cons_succ, List.set_cons_zero]
            refine wpAnyC_takeD (i := 9) (some 86) (v := .bool is) (fun _ => trivial) (by kernel_rfl) rfl rfl (by kernel_rfl) (by kernel_rfl) (by kernel_rfl) (fun _ _ _ h => by cases h.1) hC (Or.inl ⟨by kernel_rfl, fun w' hC => by clear hC; go_simp⟩) ?_
            simp only [Act.put, List.setIfInBounds_toArray, List.set_cons_succ, List.set_cons_zero]
            refine wpAnyC_takeD (i := 10) (some 87) (v := .agg #[.int .i64 E, .int .i64 P]) (fun _ => trivial) (by kernel_rfl) rfl rfl (by kernel_rfl) (by kernel_rfl) (by kernel_rfl) (fun _ _ _ h => by cases h.1) hC (Or.inl ⟨by kernel_rfl, fun w' hC => by clear hC; go_simp⟩) ?_
            simp only [Act.put, List.setIfInBounds_toArray, List.set_cons_succ, List.set_cons_zero]
            refine wpAnyC_ready (rs := [13]) (by kernel_rfl) (by simp) ?_
            refine AllC.cons rfl (fun K hK => ?_) AllC.nil
            obtain ⟨yi, yf⟩ := blk_cells kI
            have y0 := yi 0
            have y1 := yi 1
            have y2 := yi 2
            have y3 := yi 3
            obtain ⟨q1, q2⟩ := four_putP kI (.int .u16 o) (.int .u32 t) (.int .u32 r) (.slice ax m cx)
            have hCq : Below wr.heap.size wr (((((wc2.setCell ⟨BI, 0, none⟩ (.int .u16 o)).setCell ⟨BI, 1, none⟩ (.int .u32 t)).setCell ⟨BI, 2, none⟩ (.int .u32 r)).setCell ⟨BI, 3, none⟩ (.slice ax m cx))) := (((hC.setCell sI _).setCell sI _).setCell sI _).setCell sI _
            have hOq := hO.kept (grown_set (grown_set (grown_set (grown_set (World.grownBy.refl wc2 (some BI)) 0 (.int .u16 o)) 1 (.int .u32 t)) 2 (.int .u32 r)) 3 (.slice ax m cx)) (.inr nI)
            have kSq := (q2 BS nIS).trans kS
            clear yi hO kS kI
            go_simp
            refine hK _ _ hCq ?_
            clear hK K y0 y1 y2 y3 yf hC
            generalize ((((wc2.setCell ⟨BI, 0, none⟩ (.int .u16 o)).setCell ⟨BI, 1, none⟩ (.int .u32 t)).setCell ⟨BI, 2, none⟩ (.int .u32 r)).setCell ⟨BI, 3, none⟩ (.slice ax m cx)) = XQ at *
            refine wpAnyC_takeD (i := 14) (some 15) (v := .bool is) (fun _ => trivial) (by kernel_rfl) rfl rfl (by kernel_rfl) (by kernel_rfl) (by kernel_rfl) (fun _ _ _ h => by cases h.1) hCq (Or.inl ⟨by kernel_rfl, fun w' hC => by clear hC; go_simp⟩) ?_
            simp only [Act.put, List.setIfInBounds_toArray, List.set_cons_succ, List.set_cons_zero]
            refine wpAnyC_ready (rs := [15]) (by kernel_rfl) (by simp) ?_
            refine AllC.cons rfl (fun K hK => ?_) AllC.nil
            obtain ⟨yi, yf⟩ := blk_cells kSq
            have y0 := yi 0
            have y1 := yi 1
            obtain ⟨p1, _⟩ := two_putB kSq (.int .i64 E) (.int .i64 P)
            have hCp : Below wr.heap.size wr ((XQ.setCell ⟨BS, 0, none⟩ (.int .i64 E)).setCell ⟨BS, 1, none⟩ (.int .i64 P)) := (hCq.setCell sS _).setCell sS _
            have hOp := hOq.kept (grown_set (grown_set (World.grownBy.refl XQ (some BS)) 0 (.int .i64 E)) 1 (.int .i64 P)) (.inr nS)
            have kIp : ((XQ.setCell ⟨BS, 0, none⟩ (.int .i64 E)).setCell ⟨BS, 1, none⟩ (.int .i64 P)).heap[BI]? = some (.cells #[.int .u16 o, .int .u32 t, .int .u32 r, .slice ax m cx] 41 (0, 0)) := by rw [Below.heap_setCell _ _ _ _ (by simpa using nIS.symm), Below.heap_setCell _ _ _ _ (by simpa using nIS.symm)]; exact q1
            clear yi q1 q2 hOq kSq
            go_simp
            refine hK _ _ hCp ?_
            clear hK K y0 y1 yf hCq
            generalize (XQ.setCell ⟨BS, 0, none⟩ (.int .i64 E)).setCell ⟨BS, 1, none⟩ (.int .i64 P) = XF at *
            refine wpAnyC_done (by kernel_rfl) ⟨rfl, ?_⟩ _
            rw [then_normal]
            exact KEY.out _ XF ax m cx BI BS rfl rfl rfl rfl rfl rfl rfl rfl rfl rfl rfl rfl rfl rfl rfl rfl rfl rfl rfl rfl rfl rfl rfl rfl rfl rfl rfl rfl rfl kIp p1 hCp hOp hm sI sS
        · go_simp
          have hC' : Below wr.heap.size wr (wd0.alloc (.cells #[.int .i64 0, .int .i64 0] 28)) := hC.alloc hC.size _
          have kS' := heap_alloc_new wd0 (.cells #[.int .i64 0, .int .i64 0] 28)
          have sS : wr.heap.size ≤ wd0.heap.size := hC.size
          have kS := kS'
          clear kS'
          refine hK _ _ hC' ?_
          clear hK K hC
          have hC := hC'
          clear hC'
          generalize wd0.alloc (.cells #[.int .i64 0, .int .i64 0] 28) = wS0 at *
          generalize wd0.heap.size = BS at *
          refine wpAnyC_ready (rs := [6, 11]) (by kernel_rfl) (by simp) ?_
          refine AllC.cons rfl (fun K hK => ?_) (AllC.cons rfl (fun K hK => ?_) (AllC.nil))
          · go_simp
            refine ⟨trivial, rfl, (callsIn_wide.2 (hLn _)).mono ?_⟩
            rintro x wc1 ⟨ax, m, cx, rfl, hOw, hm, hbN⟩
            dsimp only
            have hC' : Below wr.heap.size wr wc1 := growB7 hC hbN
            have hSl := (Array.getElem?_eq_some_iff.1 kS).1
            have kS' := (hbN.block _ hSl).trans kS
            clear kS
            have kS := kS'
            clear kS'
            have nS : (Value.slice ax m cx).ownBlock ≠ some BS := fun e => by have := (hOw.lt _ e).1; revert this; first | omega | (simp; omega)
            have hO : wc1.ownsRow wr.heap.size 81 3 (.slice ax m cx) m (xs.flatMap argC) := own_mono7 hOw (B' := wr.heap.size) (by have := hC.size; first | exact this | exact hC.size)
            clear hOw
            refine hK _ _ hC' ?_
            clear hK K hC hbN
            have hC := hC'
            clear hC'
            refine wpAnyC_takeD (i := 7) (some 77) (v := .tuple #[.agg #[.int .u16 o, .int .u32 t, .int .u32 r, .slice ax m cx], .bool is, .agg #[.int .i64 E, .int .i64 P]]) (fun _ => trivial) (by kernel_rfl) rfl rfl (by kernel_rfl) (by kernel_rfl) (by kernel_rfl) (fun _ _ _ h => by cases h.1) hC (Or.inl ⟨by kernel_rfl, fun w' hC => by clear hC; go_simp⟩) ?_
            simp only [Act.put, List.setIfInBounds_toArray, List.set_cons_succ, List.set_cons_zero]
            refine wpAnyC_takeD (i := 8) (some 85) (v := .agg #[.int .u16 o, .int .u32 t, .int .u32 r, .slice ax m cx]) (fun _ => trivial) (by kernel_rfl) rfl rfl (by kernel_rfl) (by kernel_rfl) (by kernel_rfl) (fun _ _ _ h => by cases h.1) hC (Or.inl ⟨by kernel_rfl, fun w' hC => by clear hC; go_simp⟩) ?_
            simp only [Act.put, List.setIfInBounds_toArray, List.set_cons_succ, List.set_cons_zero]
            refine wpAnyC_takeD (i := 9) (some 86) (v := .bool is) (fun _ => trivial) (by kernel_rfl) rfl rfl (by kernel_rfl) (by kernel_rfl) (by kernel_rfl) (fun _ _ _ h => by cases h.1) hC (Or.inl ⟨by kernel_rfl, fun w' hC => by clear hC; go_simp⟩) ?_
            simp only [Act.put, List.setIfInBounds_toArray, List.set_cons_succ, List.set_cons_zero]
            refine wpAnyC_takeD (i := 10) (some 87) (v := .agg #[.int .i64 E, .int .i64 P]) (fun _ => trivial) (by kernel_rfl) rfl rfl (by kernel_rfl) (by kernel_rfl) (by kernel_rfl) (fun _ _ _ h => by cases h.1) hC (Or.inl ⟨by kernel_rfl, fun w' hC => by clear hC; go_simp⟩) ?_
            simp only [Act.put, List.setIfInBounds_toArray, List.set_cons_succ, List.set_cons_zero]
            refine wpAnyC_ready (rs := [11]) (by kernel_rfl) (by simp) ?_
            refine AllC.cons rfl (fun K hK => ?_) (AllC.nil)
            go_simp
            have hC' : Below wr.heap.size wr (wc1.alloc (.cells #[.int .u16 0, .int .u32 0, .int .u32 0, .slice none 0 0] 41)) := hC.alloc hC.size _
            have kI' := heap_alloc_new wc1 (.cells #[.int .u16 0, .int .u32 0, .int .u32 0, .slice none 0 0] 41)
            have sI : wr.heap.size ≤ wc1.heap.size := hC.size
            have hlS := (Array.getElem?_eq_some_iff.1 kS).1
            have kS' := (Below.heap_alloc _ (.cells #[.int .u16 0, .int .u32 0, .int .u32 0, .slice none 0 0] 41) _ hlS).trans kS
            clear kS
            have kS := kS'
            clear kS'
            have nIS : BS ≠ wc1.heap.size := by omega
            clear hlS
            have nI : (Value.slice ax m cx).ownBlock ≠ some wc1.heap.size := fun e => by have := (hO.lt _ e).2; omega
            have hO' := own_below hO ((Below.refl _ wc1).alloc (Nat.le_refl _) (.cells #[.int .u16 0, .int .u32 0, .int .u32 0, .slice none 0 0] 41))
            clear hO
            have hO := hO'
            clear hO'
            have kI := kI'
            clear kI'
            refine hK _ _ hC' ?_
            clear hK K hC
            have hC := hC'
            clear hC'
            generalize wc1.alloc (.cells #[.int .u16 0, .int .u32 0, .int .u32 0, .slice none 0 0] 41) = wI2 at *
            generalize wc1.heap.size = BI at *
            refine wpAnyC_ready (rs := [13]) (by kernel_rfl) (by simp) ?_
            refine AllC.cons rfl (fun K hK => ?_) AllC.nil
            obtain ⟨yi, yf⟩ := blk_cells kI
            have y0 := yi 0
            have y1 := yi 1
            have y2 := yi 2
            have y3 := yi 3
            obtain ⟨q1, q2⟩ := four_putP kI (.int .u16 o) (.int .u32 t) (.int .u32 r) (.slice ax m cx)
            have hCq : Below wr.heap.size wr (((((wI2.setCell ⟨BI, 0, none⟩ (.int .u16 o)).setCell ⟨BI, 1, none⟩ (.int .u32 t)).setCell ⟨BI, 2, none⟩ (.int .u32 r)).setCell ⟨BI, 3, none⟩ (.slice ax m cx))) := (((hC.setCell sI _).setCell sI _).setCell sI _).setCell sI _
            have hOq := hO.kept (grown_set (grown_set (grown_set (grown_set (World.grownBy.refl wI2 (some BI)) 0 (.int .u16 o)) 1 (.int .u32 t)) 2 (.int .u32 r)) 3 (.slice ax m cx)) (.inr nI)
            have kSq := (q2 BS nIS).trans kS
            clear yi hO kS kI
            go_simp
            refine hK _ _ hCq ?_
            clear hK K y0 y1 y2 y3 yf hC
            generalize ((((wI2.setCell ⟨BI, 0, none⟩ (.int .u16 o)).setCell ⟨BI, 1, none⟩ (.int .u32 t)).setCell ⟨BI, 2, none⟩ (.int .u32 r)).setCell ⟨BI, 3, none⟩ (.slice ax m cx)) = XQ at *
            refine wpAnyC_takeD (i := 14) (some 15) (v := .bool is) (fun _ => trivial) (by kernel_rfl) rfl rfl (by kernel_rfl) (by kernel_rfl) (by kernel_rfl) (fun _ _ _ h => by cases h.1) hCq (Or.inl ⟨by kernel_rfl, fun w' hC => by clear hC; go_simp⟩) ?_
            simp only [Act.put, List.setIfInBounds_toArray, List.set_cons_succ, List.set_cons_zero]
            refine wpAnyC_ready (rs := [15]) (by kernel_rfl) (by simp) ?_
            refine AllC.cons rfl (fun K hK => ?_) AllC.nil
            obtain ⟨yi, yf⟩ := blk_cells kSq
            have y0 := yi 0
            have y1 := yi 1
            obtain ⟨p1, _⟩ := two_putB kSq (.int .i64 E) (.int .i64 P)
            have hCp : Below wr.heap.size wr ((XQ.setCell ⟨BS, 0, none⟩ (.int .i64 E)).setCell ⟨BS, 1, none⟩ (.int .i64 P)) := (hCq.setCell sS _).setCell sS _
            have hOp := hOq.kept (grown_set (grown_set (World.grownBy.refl XQ (some BS)) 0 (.int .i64 E)) 1 (.int .i64 P)) (.inr nS)
            have kIp : ((XQ.setCell ⟨BS, 0, none⟩ (.int .i64 E)).setCell ⟨BS, 1, none⟩ (.int .i64 P)).heap[BI]? = some (.cells #[.int .u16 o, .int .u32 t, .int .u32 r, .slice ax m cx] 41 (0, 0)) := by rw [Below.heap_setCell _ _ _ _ (by simpa using nIS.symm), Below.heap_setCell _ _ _ _ (by simpa using nIS.symm)]; exact q1
            clear yi q1 q2 hOq kSq
            go_simp
            refine hK _ _ hCp ?_
            clear hK K y0 y1 yf hCq
            generalize (XQ.setCell ⟨BS, 0, none⟩ (.int .i64 E)).setCell ⟨BS, 1, none⟩ (.int .i64 P) = XF at *
            refine wpAnyC_done (by kernel_rfl) ⟨rfl, ?_⟩ _
            rw [then_normal]
            exact KEY.out _ XF ax m cx BI BS rfl rfl rfl rfl rfl rfl rfl rfl rfl rfl rfl rfl rfl rfl rfl rfl rfl rfl rfl rfl rfl rfl rfl rfl rfl rfl rfl rfl rfl kIp p1 hCp hOp hm sI sS
          · go_simp
            have hC' : Below wr.heap.size wr (wS0.alloc (.cells #[.int .u16 0, .int .u32 0, .int .u32 0, .slice none 0 0] 41)) := hC.alloc hC.size _
            have kI' := heap_alloc_new wS0 (.cells #[.int .u16 0, .int .u32 0, .int .u32 0, .slice none 0 0] 41)
            have sI : wr.heap.size ≤ wS0.heap.size := hC.size
            have hlS := (Array.getElem?_eq_some_iff.1 kS).1
            have kS' := (Below.heap_alloc _ (.cells #[.int .u16 0, .int .u32 0, .int .u32 0, .slice none 0 0] 41) _ hlS).trans kS
            clear kS
            have kS := kS'
            clear kS'
            have nIS : BS ≠ wS0.heap.size := by omega
            clear hlS
            have kI := kI'
            clear kI'
            refine hK _ _ hC' ?_
            clear hK K hC
            have hC := hC'
            clear hC'
            generalize wS0.alloc (.cells #[.int .u16 0, .int .u32 0, .int .u32 0, .slice none 0 0] 41) = wI1 at *
            generalize wS0.heap.size = BI at *
            refine wpAnyC_ready (rs := [6]) (by kernel_rfl) (by simp) ?_
            refine AllC.cons rfl (fun K hK => ?_) (AllC.nil)
            go_simp
            refine ⟨trivial, rfl, (callsIn_wide.2 (hLn _)).mono ?_⟩
            rintro x wc2 ⟨ax, m, cx, rfl, hOw, hm, hbN⟩
            dsimp only
            have hC' : Below wr.heap.size wr wc2 := growB7 hC hbN
            have hIl := (Array.getElem?_eq_some_iff.1 kI).1
            have kI' := (hbN.block _ hIl).trans kI
            clear kI
            have kI := kI'
            clear kI'
            have nI : (Value.slice ax m cx).ownBlock ≠ some BI := fun e => by have := (hOw.lt _ e).1; revert this; first | omega | (simp; omega)
            have hSl := (Array.getElem?_eq_some_iff.1 kS).1
            have kS' := (hbN.block _ hSl).trans kS
            clear kS
            have kS := kS'
            clear kS'
            have nS : (Value.slice ax m cx).ownBlock ≠ some BS := fun e => by have := (hOw.lt _ e).1; revert this; first | omega | (simp; omega)
            have hO : wc2.ownsRow wr.heap.size 81 3 (.slice ax m cx) m (xs.flatMap argC) := own_mono7 hOw (B' := wr.heap.size) (by have := hC.size; first | exact this | exact hC.size)
            clear hOw
            refine hK _ _ hC' ?_
            clear hK K hC hbN
            have hC := hC'
            clear hC'
            refine wpAnyC_takeD (i := 7) (some 77) (v := .tuple #[.agg #[.int .u16 o, .int .u32 t, .int .u32 r, .slice ax m cx], .bool is, .agg #[.int .i64 E, .int .i64 P]]) (fun _ => trivial) (by kernel_rfl) rfl rfl (by kernel_rfl) (by kernel_rfl) (by kernel_rfl) (fun _ _ _ h => by cases h.1) hC (Or.inl ⟨by kernel_rfl, fun w' hC => by clear hC; go_simp⟩) ?_
            simp only [Act.put, List.setIfInBounds_toArray, List.set_cons_succ, List.set_cons_zero]
            refine wpAnyC_takeD (i := 8) (some 85) (v := .agg #[.int .u16 o, .int .u32 t, .int .u32 r, .slice ax m cx]) (fun _ => trivial) (by kernel_rfl) rfl rfl (by kernel_rfl) (by kernel_rfl) (by kernel_rfl) (fun _ _ _ h => by cases h.1) hC (Or.inl ⟨by kernel_rfl, fun w' hC => by clear hC; go_simp⟩) ?_
            simp only [Act.put, List.setIfInBounds_toArray, List.set_cons_succ, List.set_cons_zero]
            refine wpAnyC_takeD (i := 9) (some 86) (v := .bool is) (fun _ => trivial) (by kernel_rfl) rfl rfl (by kernel_rfl) (by kernel_rfl) (by kernel_rfl) (fun _ _ _ h => by cases h.1) hC (Or.inl ⟨by kernel_rfl, fun w' hC => by clear hC; go_simp⟩) ?_
            simp only [Act.put, List.setIfInBounds_toArray, List.set_cons_succ, List.set_cons_zero]
            refine wpAnyC_takeD (i := 10) (some 87) (v := .agg #[.int .i64 E, .int .i64 P]) (fun _ => trivial) (by kernel_rfl) rfl rfl (by kernel_rfl) (by kernel_rfl) (by kernel_rfl) (fun _ _ _ h => by cases h.1) hC (Or.inl ⟨by kernel_rfl, fun w' hC => by clear hC; go_simp⟩) ?_
            simp only [Act.put, List.setIfInBounds_toArray, List.set_cons_succ, List.set_cons_zero]
            refine wpAnyC_ready (rs := [13]) (by kernel_rfl) (by simp) ?_
            refine AllC.cons rfl (fun K hK => ?_) AllC.nil
            obtain ⟨yi, yf⟩ := blk_cells kI
            have y0 := yi 0
            have y1 := yi 1
            have y2 := yi 2
            have y3 := yi 3
            obtain ⟨q1, q2⟩ := four_putP kI (.int .u16 o) (.int .u32 t) (.int .u32 r) (.slice ax m cx)
            have hCq : Below wr.heap.size wr (((((wc2.setCell ⟨BI, 0, none⟩ (.int .u16 o)).setCell ⟨BI, 1, none⟩ (.int .u32 t)).setCell ⟨BI, 2, none⟩ (.int .u32 r)).setCell ⟨BI, 3, none⟩ (.slice ax m cx))) := (((hC.setCell sI _).setCell sI _).setCell sI _).setCell sI _
            have hOq := hO.kept (grown_set (grown_set (grown_set (grown_set (World.grownBy.refl wc2 (some BI)) 0 (.int .u16 o)) 1 (.int .u32 t)) 2 (.int .u32 r)) 3 (.slice ax m cx)) (.inr nI)
            have kSq := (q2 BS nIS).trans kS
            clear yi hO kS kI
            go_simp
            refine hK _ _ hCq ?_
            clear hK K y0 y1 y2 y3 yf hC
            generalize ((((wc2.setCell ⟨BI, 0, none⟩ (.int .u16 o)).setCell ⟨BI, 1, none⟩ (.int .u32 t)).setCell ⟨BI, 2, none⟩ (.int .u32 r)).setCell ⟨BI, 3, none⟩ (.slice ax m cx)) = XQ at *
            refine wpAnyC_takeD (i := 14) (some 15) (v := .bool is) (fun _ => trivial) (by kernel_rfl) rfl rfl (by kernel_rfl) (by kernel_rfl) (by kernel_rfl) (fun _ _ _ h => by cases h.1) hCq (Or.inl ⟨by kernel_rfl, fun w' hC => by clear hC; go_simp⟩) ?_
            simp only [Act.put, List.setIfInBounds_toArray, List.set_cons_succ, List.set_cons_zero]
            refine wpAnyC_ready (rs := [15]) (by kernel_rfl) (by simp) ?_
            refine AllC.cons rfl (fun K hK => ?_) AllC.nil
            obtain ⟨yi, yf⟩ := blk_cells kSq
            have y0 := yi 0
            have y1 := yi 1
            obtain ⟨p1, _⟩ := two_putB kSq (.int .i64 E) (.int .i64 P)
            have hCp : Below wr.heap.size wr ((XQ.setCell ⟨BS, 0, none⟩ (.int .i64 E)).setCell ⟨BS, 1, none⟩ (.int .i64 P)) := (hCq.setCell sS _).setCell sS _
            have hOp := hOq.kept (grown_set (grown_set (World.grownBy.refl XQ (some BS)) 0 (.int .i64 E)) 1 (.int .i64 P)) (.inr nS)
            have kIp : ((XQ.setCell ⟨BS, 0, none⟩ (.int .i64 E)).setCell ⟨BS, 1, none⟩ (.int .i64 P)).heap[BI]? = some (.cells #[.int .u16 o, .int .u32 t, .int .u32 r, .slice ax m cx] 41 (0, 0)) := by rw [Below.heap_setCell _ _ _ _ (by simpa using nIS.symm), Below.heap_setCell _ _ _ _ (by simpa using nIS.symm)]; exact q1
            clear yi q1 q2 hOq kSq
            go_simp
            refine hK _ _ hCp ?_
            clear hK K y0 y1 yf hCq
            generalize (XQ.setCell ⟨BS, 0, none⟩ (.int .i64 E)).setCell ⟨BS, 1, none⟩ (.int .i64 P) = XF at *
            refine wpAnyC_done (by kernel_rfl) ⟨rfl, ?_⟩ _
            rw [then_normal]
            exact KEY.out _ XF ax m cx BI BS rfl rfl rfl rfl rfl rfl rfl rfl rfl rfl rfl rfl rfl rfl rfl rfl rfl rfl rfl rfl rfl rfl rfl rfl rfl rfl rfl rfl rfl kIp p1 hCp hOp hm sI sS
    · obtain rfl : k = (lineL s).length := by omega
      have hTL : (linesT s).length = (lineL s).length := by simp [lineL]
      have HG : Hid (goL st0 (linesT s) = (0, 0, st)) := by
        show _ = _
        have h := hP.go []
        rw [List.append_nil, ← hTL, List.take_length] at h
        exact h
      by_cases hz : st.2.2.1 = 0
      · have hd0 : decide (st.2.2.1 ≠ 0) = false := by simpa using hz
        rw [hd0, if_pos hz]
        have HR : Hid (parseS s = ((0, 0, []), 72, ((lineL s).length : Int))) := by show _ = _; unfold parseS; rw [if_neg (by omega), HG.out, ← hTL]; simp [hz]
        have HBX := hide hP.box
        clear hP HG hTL
        have hsw := HBX.out.size
        have LN : Hid (∀ w', LeafP w wr w' → w'.cell? ⟨w.heap.size + 2, 0, none⟩ = some (.int .u32 0) ∧ w'.cell? ⟨w.heap.size + 2, 1, none⟩ = some (.int .u32 0) ∧ w'.cell? ⟨w.heap.size + 2, 2, none⟩ = some (.slice none 0 0) ∧ True) := fun w' h => by
          obtain ⟨cz, _⟩ := blk_cells HBX.out.non
          exact ⟨h.aside.cell (by omega) (by omega) (by omega) (cz 0), h.aside.cell (by omega) (by omega) (by omega) (cz 1), h.aside.cell (by omega) (by omega) (by omega) (cz 2), trivial⟩
        have hC0 := LeafP.start HBX.out
        clear hsw
        go_wp2_with fail
        rename_i Kr hKr
        have HKR := hide hKr
        clear hKr
        have key : ∀ (u : Array Value) (Xr : World), u.getD 2 undef = .pointer (some ⟨w.heap.size, 0, none⟩) → u.getD 3 undef = .pointer (some ⟨w.heap.size + 1, 0, none⟩) → LeafP w wr Xr → Xr.heap[w.heap.size + 1]? = some (.cells #[.int .i64 (72), .int .i64 (((lineL s).length : Int))] 28 (0, 0)) → Kr { tmps := u, defers := [] } Xr := by
          intro u Xr h2 h3 hX hx
          refine HKR.out _ _ ?_
          obtain ⟨cm, _⟩ := blk_cells hX.res
          obtain ⟨cp, _⟩ := blk_cells hx
          have r0 := cm 0
          have r1 := cm 1
          have r2 := cm 2
          have r3 := cp 0
          have r4 := cp 1
          have HBE := hide hX.bel
          clear hX hx hC0 cm cp
          go_wp2_with fail
          have h2' : u[2]?.getD undef = .pointer (some ⟨w.heap.size, 0, none⟩) := by rw [← Array.getD_eq_getD_getElem?]; exact h2
          have h3' : u[3]?.getD undef = .pointer (some ⟨w.heap.size + 1, 0, none⟩) := by rw [← Array.getD_eq_getD_getElem?]; exact h3
          refine bodyPost_ret (v := .tuple #[.agg #[.int .u32 0, .int .u32 0, .slice none 0 0], .agg #[.int .i64 (72), .int .i64 (((lineL s).length : Int))]]) (by simp [results, Tryz.results8, go_sem, h2', h3', r0, r1, r2, r3, r4]) rfl ?_
          unfold ParQ
          rw [HR.out]
          exact ⟨none, 0, 0, rfl, instsV_nil, rfl, fun j hj => by simp at hj, HBE.out⟩
        have KEY := hide key
        clear key HKR
        have hmix : Tryz.prog.follows .mixedOrders = true := by kernel_rfl
        refine (wpIn_wide (n := 0)).1 ?_
        refine wpIn_normal (wpIn_region_any hmix (wpAnyC_sound (C := LeafP w wr) _ _ _ _ ?_))
        change wpAnyC _ _ _ _ _ _ _ _ _ _ (World.drew _)
        refine wpAnyC_takeD (i := 0) (some 123) (v := .agg #[.int .u32 0, .int .u32 0, .slice none 0 0]) (fun _ => trivial) (by kernel_rfl) rfl rfl (by kernel_rfl) (by kernel_rfl) (by kernel_rfl) (fun _ _ _ h => by cases h.1) hC0 (Or.inl ⟨by kernel_rfl, fun w' hC => by obtain ⟨b0, b1, b2, _⟩ := LN.out w' hC; clear hC; go_simp⟩) ?_
        simp only [Act.put, List.setIfInBounds_toArray, List.set_cons_succ, List.set_cons_zero]
        refine wpAnyC_takeD (i := 1) (some 124) (v := .slice a (lineL s).length c) (fun _ => trivial) (by kernel_rfl) rfl rfl (by kernel_rfl) (by kernel_rfl) (by kernel_rfl) (fun _ _ _ h => by cases h.1) hC0 (Or.inl ⟨by kernel_rfl, fun w' hC => by clear hC; go_simp⟩) ?_
        simp only [Act.put, List.setIfInBounds_toArray, List.set_cons_succ, List.set_cons_zero]
        refine wpAnyC_takeD (i := 2) (some 125) (v := .int .i64 (((lineL s).length : Int))) (fun _ => trivial) (by kernel_rfl) rfl rfl (by kernel_rfl) (by kernel_rfl) (by kernel_rfl) (fun _ _ _ h => by cases h.1) hC0 (Or.inl ⟨by kernel_rfl, fun w' hC => by clear hC; go_simp⟩) ?_
        simp only [Act.put, List.setIfInBounds_toArray, List.set_cons_succ, List.set_cons_zero]
        refine wpAnyC_ready (rs := [3]) (by kernel_rfl) (by simp) ?_
        refine AllC.cons rfl (fun K hK => ?_) AllC.nil
        go_simp
        refine ⟨trivial, rfl, (callsIn_wide.2 (refSpot_exact _ _ _)).mono ?_⟩
        rintro x w5 ⟨rfl, hw5⟩
        dsimp only
        have hC5 : LeafP w wr w5 := by rw [hw5]; exact hC0.alloc _
        clear hw5
        refine hK _ _ hC5 ?_
        clear hK K
        refine wpAnyC_ready (rs := [4]) (by kernel_rfl) (by simp) ?_
        refine AllC.cons rfl (fun K hK => ?_) AllC.nil
        obtain ⟨⟨c0, c1, c2, cf⟩, _⟩ := hC5.cells
        go_simp
        refine hK _ _ hC5.zero ?_
        clear hK K c0 c1 c2 cf
        refine wpAnyC_ready (rs := [5]) (by kernel_rfl) (by simp) ?_
        refine AllC.cons rfl (fun K hK => ?_) AllC.nil
        obtain ⟨_, y0, y1, s0, s1, sf⟩ := hC5.zero.cells
        go_simp
        refine hK _ _ (hC5.zero.put (.int .i64 (72)) (.int .i64 (((lineL s).length : Int)))).1 ?_
        clear hK K s0 s1 sf
        have hF1 := hide (hC5.zero.put (.int .i64 (72)) (.int .i64 (((lineL s).length : Int)))).1
        have hF2 := hide (hC5.zero.put (.int .i64 (72)) (.int .i64 (((lineL s).length : Int)))).2
        clear hC0 hC5 LN
        refine wpAnyC_done (by kernel_rfl) ⟨rfl, ?_⟩ _
        rw [then_normal]
        generalize ((((w5.setCell ⟨w.heap.size, 0, none⟩ (.int .u32 0)).setCell ⟨w.heap.size, 1, none⟩ (.int .u32 0)).setCell ⟨w.heap.size, 2, none⟩ (.slice none 0 0)).setCell ⟨w.heap.size + 1, 0, none⟩ (.int .i64 (72))).setCell ⟨w.heap.size + 1, 1, none⟩ (.int .i64 (((lineL s).length : Int))) = XX at *
        exact KEY.out _ XX rfl rfl hF1.out hF2.out

      · have hd0 : decide (st.2.2.1 ≠ 0) = true := by simpa using hz
        rw [hd0, if_neg hz]
        have HR : Hid (parseS s = ((st.1, st.2.1, st.2.2.2), 0, 0)) := by show _ = _; unfold parseS; rw [if_neg (by omega), HG.out]; simp [hz]
        obtain ⟨cm, fm⟩ := blk_cells hP.box.mod
        obtain ⟨cr, fr⟩ := blk_cells hP.box.res
        obtain ⟨cp, fp⟩ := blk_cells hP.box.spot
        have m0 := cm 0
        have m1 := cm 1
        have m2 := cm 2
        have r0 := cr 0
        have r1 := cr 1
        have r2 := cr 2
        have s0 := cp 0
        have s1 := cp 1
        have HP := hide hP
        obtain ⟨cs, hr1, hr2⟩ := hP.insts.row
        obtain ⟨av, cv, rfl⟩ := own_shape7 hr1
        obtain ⟨f1, f2, f3⟩ := five_put hP.box.res hP.box.spot (.int .u32 st.1) (.int .u32 st.2.1) (.slice av st.2.2.2.length cv) (.int .i64 0) (.int .i64 0)
        have hlol := hP.insts.lt
        have hoY := ownsRow_setCell_below (ownsRow_setCell_below (ownsRow_setCell_below (ownsRow_setCell_below (ownsRow_setCell_below hr1 (a := ⟨w.heap.size, 0, none⟩) (by simp; omega) (.int .u32 st.1)) (a := ⟨w.heap.size, 1, none⟩) (by simp; omega) (.int .u32 st.2.1)) (a := ⟨w.heap.size, 2, none⟩) (by simp; omega) (.slice av st.2.2.2.length cv)) (a := ⟨w.heap.size + 1, 0, none⟩) (by simp; omega) (.int .i64 0)) (a := ⟨w.heap.size + 1, 1, none⟩) (by simp; omega) (.int .i64 0)
        have hrY := (hr2.grown (grown_set (grown_set (grown_set (World.grownBy.refl wr (some w.heap.size)) 0 (.int .u32 st.1)) 1 (.int .u32 st.2.1)) 2 (.slice av st.2.2.2.length cv)) (fun g e => by simp only [Option.some.injEq] at e; subst e; exact .inl (by omega))).grown (grown_set (grown_set (World.grownBy.refl _ (some (w.heap.size + 1))) 0 (.int .i64 0)) 1 (.int .i64 0)) (fun g e => by simp only [Option.some.injEq] at e; subst e; exact .inl (by omega))
        have hbY := hP.box.bel.trans f3
        have HY := hide (And.intro f1 (And.intro f2 (And.intro hbY (And.intro hoY hrY))))
        have HOK := hide hP.ok
        clear hP HG cm cr cp hTL HP hr1 hr2 f1 f2 f3 hoY hrY hbY
        go_wp2_with fail
        clear m0 m1 m2 r0 r1 r2 s0 s1 fm fr fp
        generalize ((((wr.setCell ⟨w.heap.size, 0, none⟩ (.int .u32 st.1)).setCell ⟨w.heap.size, 1, none⟩ (.int .u32 st.2.1)).setCell ⟨w.heap.size, 2, none⟩ (.slice av st.2.2.2.length cv)).setCell ⟨w.heap.size + 1, 0, none⟩ (.int .i64 0)).setCell ⟨w.heap.size + 1, 1, none⟩ (.int .i64 0) = Y at *
        obtain ⟨f1, f2, hbY, hoY, hrY⟩ := HY.out
        obtain ⟨cm, _⟩ := blk_cells f1
        obtain ⟨cp, _⟩ := blk_cells f2
        have r0 := cm 0
        have r1 := cm 1
        have r2 := cm 2
        have r3 := cp 0
        have r4 := cp 1
        have hV := (hrY.own hoY rfl).view
        refine bodyPost_ret (v := .tuple #[.agg #[.int .u32 st.1, .int .u32 st.2.1, .slice av st.2.2.2.length cv], .agg #[.int .i64 0, .int .i64 0]]) (by simp [results, Tryz.results8, go_sem, r0, r1, r2, r3, r4]) rfl ?_
        unfold ParQ
        rw [HR.out]
        exact ⟨av, st.2.2.2.length, cv, rfl, hV, rfl, HOK.out, hbY⟩

theorem refParse7_any (s : ByteArray) (w : World) : Calls Tryz.prog 8 #[.string s] w fun e w' => ParQ w w' (parseS s) e := by
  by_cases hs : s.size ≤ 16777216
  · exact refParse7_main s w hs
  · exact refParse7_large s w (by omega)

end Go.Proofs.YtmobologlaeefaaGreat
