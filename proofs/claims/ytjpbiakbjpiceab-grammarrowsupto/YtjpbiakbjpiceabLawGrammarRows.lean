/-
  The law GrammarRows answers true, for every operation and all lists of kinds of at most 1048576 kinds each.
-/
import Derived.WalkSpells
import Derived.WalkMore
import Derived.Test.YtjpbiakbjpiceabBoxes
import Derived.Test.YtjpbiakbjpiceabMathFit
import Derived.Test.YtjpbiakbjpiceabAppendView
import Derived.Test.YtjpbiakbjpiceabRef03Letter
namespace Go.Proofs.Ytjpbiakbjpiceab
open Go.RowKit
set_option linter.unusedVariables false
set_option linter.unusedSimpArgs false
set_option maxRecDepth 10000

theorem iadd_fits : fitsI (lookF refT 128).2 (lookF refT 128).1 [1, 1] = (0, true) := by decide +kernel
theorem newTwo (w : World) : View .u8 (w.alloc (.cells #[.int .u8 1, .int .u8 1] 5)) (some ⟨w.heap.size, 0, none⟩) [1, 1] := by
  intro j hj
  have c0 := (one_block (alloc_new w #[.int .u8 1, .int .u8 1] 5)).1 0
  have c1 := (one_block (alloc_new w #[.int .u8 1, .int .u8 1] 5)).1 1
  refine ⟨w.heap.size, 0, rfl, by simp, ?_⟩
  simp only [List.length_cons, List.length_nil] at hj
  rcases (show j = 0 ∨ j = 1 by omega) with rfl | rfl
  · exact c0
  · exact c1
theorem fits_is {is : Bool} {f : Frm} {zs : List Int} (h : (fitsI is f zs).2 = true) : is = true := by
  cases is
  · cases h
  · rfl
theorem u8Infos : ∃ i0, Try.prog.info? 5 = some i0 ∧ i0.zero = some (.int .u8 0) ∧ i0.size = 1 ∧ i0.bytes = 1 ∧ (Value.int .u8 0).cells.size = 1 := ⟨_, rfl, rfl, rfl, rfl, rfl⟩

set_option maxHeartbeats 8000000 in
theorem grammarRows_true (w : World) (n : Int) (hn : (Lit.int .u16 n).wf = true) (a : Option Addr) (m cap : Nat) (zs : List Int) (hl : zs.length = m) (hv : View .u8 w a zs) (hw : Within 256 zs) (hm : 1 * m ≤ 140737488351232)
    (a2 : Option Addr) (m2 cap2 : Nat) (ys : List Int) (hl2 : ys.length = m2) (hv2 : View .u8 w a2 ys) (hw2 : Within 256 ys) (hm2 : 1 * m2 ≤ 140737488351232) (hu : m ≤ 1048576) (hu2 : m2 ≤ 1048576) :
    Calls Try.prog 5 #[.int .u16 n, .slice a m cap, .slice a2 m2 cap2] w fun e w' => e = .returned (.bool true) ∧ Below w.heap.size w w' := by
  obtain ⟨i0, hi, hz0, hz1, hz2, hz3⟩ := u8Infos
  have HI : Hid (Try.prog.info? 5 = some i0 ∧ i0.zero = some (.int .u8 0) ∧ i0.size = 1 ∧ i0.bytes = 1 ∧ (Value.int .u8 0).cells.size = 1) := ⟨hi, hz0, hz1, hz2, hz3⟩
  have hmk : ∀ w, (Instr.makeSlice 43 (.int .i64 0) (.int .i64 0)).run Try.prog w = .ok (.slice (some ⟨w.heap.size, 0, none⟩) 0 0) (w.alloc (.cells #[] 5)) := fun _ => by kernel_rfl
  have HF : Hid (∀ (b : Option Addr) (k c : Nat) (us : List Int) w, View .u8 w b us → us.length = k → k ≤ 140737488351232 → _) := fun b k c us w (h1 : View .u8 w b us) (h2 : us.length = k) (h3 : k ≤ 140737488351232) => fits_any n b k c us w h1 h2 h3
  have HIADD : Hid (∀ w, View .u8 w (some ⟨w.heap.size - 1, 0, none⟩) [1, 1] → True) := fun _ _ => trivial
  have hO := fun w => of_any n w
  obtain ⟨mm, hmm⟩ := ofV_look n
  rw [hmm] at hO
  have HKD : Hid (∀ c w, _) := fun c w => kind_any c w
  have HST : Hid ((fitsI (lookF refT n).2 (lookF refT n).1 zs).2 = false → (fitsI (lookF refT n).2 (lookF refT n).1 zs).1 < zs.length → fitsI (lookF refT n).2 (lookF refT n).1 (zs ++ ys) = ((fitsI (lookF refT n).2 (lookF refT n).1 zs).1, false)) := fits_stays _ _ zs ys
  have HMO : Hid ((fitsI (lookF refT n).2 (lookF refT n).1 zs).2 = true → (lookF refT n).1.2.2.2.2.2.1 = 0 → (fitsI (lookF refT n).2 (lookF refT n).1 (zs ++ restK (lookF refT n).1)).2 = true) := fun h h0 => fits_more _ _ zs h h0 (look_rest n)
  have HIS : Hid ((fitsI (lookF refT n).2 (lookF refT n).1 zs).2 = true → (lookF refT n).2 = true) := fits_is
  have hsh := look_short n
  generalize (lookF refT n).1 = f at *
  generalize (lookF refT n).2 = is at *
  simp only [shortF, Bool.and_eq_true, decide_eq_true_eq] at hsh
  obtain ⟨⟨⟨_, s2⟩, _⟩, _⟩ := hsh
  have HL : Hid (zs.length = m ∧ ys.length = m2) := ⟨hl, hl2⟩
  have HV : Hid (View .u8 w a zs ∧ View .u8 w a2 ys) := ⟨hv, hv2⟩
  have h1 := HF.out a m cap zs w hv hl (by omega)
  clear HIADD
  have HIADD : Hid (∀ w, View .u8 w (some ⟨w.heap.size, 0, none⟩) [1, 1] → True) := fun _ _ => trivial
  clear HIADD hn hl hv hw hm hl2 hv2 hw2 hm2 hmm hi hz0 hz1 hz2 hz3
  have HIADD : Hid (∀ (w : World) (B : Nat), w.heap.size = B → Calls Try.prog 14 #[.int .u16 128, .slice (some ⟨B, 0, none⟩) 2 2] (w.alloc (.cells #[.int .u8 1, .int .u8 1] 5)) fun e w' => e = .returned (.tuple #[.int .i64 0, .bool true]) ∧ Below (w.alloc (.cells #[.int .u8 1, .int .u8 1] 5)).heap.size (w.alloc (.cells #[.int .u8 1, .int .u8 1] 5)) w') := fun w B e => by
    subst e
    have := fits_any 128 (some ⟨w.heap.size, 0, none⟩) 2 2 [1, 1] _ (newTwo w) rfl (by omega)
    rw [iadd_fits] at this
    exact this
  generalize hx : (fitsI is f zs).1 = x at *
  generalize hb : (fitsI is f zs).2 = b at *
  clear hx hb
  go_enter Try.func5, Try.ntmps5
  go_wp2_with fail
  refine h1.mono ?_
  rintro e w1 ⟨rfl, b1⟩
  clear h1
  go_wp2_with fail
  refine (hO _).mono ?_
  rintro e w2 ⟨rfl, b2⟩
  clear hO
  have hs1 := b1.size
  have hs2 := b2.size
  have hbz : Below w.heap.size w (w2.alloc (.cells #[.int .u16 mm, .string f.1, .bool f.2.1, .bool f.2.2.1, .string f.2.2.2.1, .string f.2.2.2.2.1, .int .i64 f.2.2.2.2.2.1, .int .u8 f.2.2.2.2.2.2] 33)) := (b1.trans (b2.mono hs1)).alloc (by omega) _
  have hblk := alloc_new w2 (frmCells mm f) 33
  have hlW : w2.heap.size < (w2.alloc (.cells #[.int .u16 mm, .string f.1, .bool f.2.1, .bool f.2.2.1, .string f.2.2.2.1, .string f.2.2.2.2.1, .int .i64 f.2.2.2.2.2.1, .int .u8 f.2.2.2.2.2.2] 33)).heap.size := by simp
  clear b1 b2
  cases b
  · -- it does not fit
    by_cases hlt : x < m
    · have hst := HST.out rfl (by rw [HL.out.1]; exact hlt)
      have hlt' : decide (x < (m : Int)) = true := decide_eq_true hlt
      have HS : Hid (fitsI is f (zs ++ ys) = (x, false)) := hst
      clear hst HST HMO HIS
      unfold formV
      have hbx : Below w.heap.size w ((w2.alloc (.cells #[.int .u16 mm, .string f.1, .bool f.2.1, .bool f.2.2.1, .string f.2.2.2.1, .string f.2.2.2.2.1, .int .i64 f.2.2.2.2.2.1, .int .u8 f.2.2.2.2.2.2] 33)).alloc (.cells #[] 5)) := hbz.alloc (by have := hbz.size; omega) _
      have HVX : Hid (View .u8 ((w2.alloc (.cells #[.int .u16 mm, .string f.1, .bool f.2.1, .bool f.2.2.1, .string f.2.2.2.1, .string f.2.2.2.2.1, .int .i64 f.2.2.2.2.2.1, .int .u8 f.2.2.2.2.2.2] 33)).alloc (.cells #[] 5)) a zs ∧ View .u8 ((w2.alloc (.cells #[.int .u16 mm, .string f.1, .bool f.2.1, .bool f.2.2.1, .string f.2.2.2.1, .string f.2.2.2.2.1, .int .i64 f.2.2.2.2.2.1, .int .u8 f.2.2.2.2.2.2] 33)).alloc (.cells #[] 5)) a2 ys) := ⟨HV.out.1.below hbx, HV.out.2.below hbx⟩
      have HBX : Hid (Below w.heap.size w ((w2.alloc (.cells #[.int .u16 mm, .string f.1, .bool f.2.1, .bool f.2.2.1, .string f.2.2.2.1, .string f.2.2.2.2.1, .int .i64 f.2.2.2.2.2.1, .int .u8 f.2.2.2.2.2.2] 33)).alloc (.cells #[] 5))) := hbx
      clear hbx hbz hblk
      go_wp2_with (at_builtin; refine wpList_append_view _ rfl (.tmp 78) (.tmp 79) 43 rfl (w2.heap.size + 1) 5 i0 (.int .u8 0) 1 .u8 Try.underlying43 HI.out.1 HI.out.2.1 HI.out.2.2.1 HI.out.2.2.2.1 HI.out.2.2.2.2 _ 0 [] rfl (own_empty (allocNew _ _ (by simp)) (Nat.le_refl _) .u8) a m cap zs rfl HVX.out.1 HL.out.1 (by unfold maxLen; omega) (by omega) (by simp) ?_)
      intro v3 w3 hown3 hgr3
      have hb3 : Below (w2.heap.size + 1) ((w2.alloc (.cells #[.int .u16 mm, .string f.1, .bool f.2.1, .bool f.2.2.1, .string f.2.2.2.1, .string f.2.2.2.2.1, .int .i64 f.2.2.2.2.2.1, .int .u8 f.2.2.2.2.2.2] 33)).alloc (.cells #[] 5)) w3 := (Below.refl _ _).grown hgr3 (by simp) (fun k hk => by simp [Value.ownBlock] at hk; omega)
      have hs3 := hb3.size
      simp only [World.size_alloc] at hs3
      have hbw3 : Below w.heap.size w w3 := HBX.out.trans (hb3.mono (by omega))
      have HV3 : Hid (View .u8 w3 a2 ys) := HV.out.2.below hbw3
      have HB3 : Hid (Below w.heap.size w w3) := hbw3
      have HO3 : Hid (w3.ownsRow (w2.heap.size + 1) 5 1 v3 m (zs.map (Value.int .u8))) := hown3
      clear hgr3 hb3 HVX HBX hbw3 hown3
      go_wp2_with (at_builtin; refine wpList_append_view _ rfl (.tmp 81) (.tmp 82) 43 rfl (w2.heap.size + 1) 5 i0 (.int .u8 0) 1 .u8 Try.underlying43 HI.out.1 HI.out.2.1 HI.out.2.2.1 HI.out.2.2.2.1 HI.out.2.2.2.2 v3 m zs rfl HO3.out a2 m2 cap2 ys rfl HV3.out HL.out.2 (by unfold maxLen; omega) (by omega) (by omega) ?_)
      intro v4 w4 hown4 hgr4
      have hb4 : Below w.heap.size w w4 := HB3.out.grown hgr4 HB3.out.size (fun k hk => by have := (HO3.out.lt k hk).1; omega)
      rw [← List.map_append] at hown4
      obtain ⟨a4, c4, rfl, hv4, hl4⟩ := View.ofOwned hown4
      have h4 := HF.out a4 (m + m2) c4 (zs ++ ys) w4 hv4 hl4 (by omega)
      rw [HS.out] at h4
      have HB4 : Hid (Below w.heap.size w w4) := hb4
      clear hgr4 hb4 hown4 hv4 hl4 HO3 HB3 HV3 HF HS
      go_wp2_with fail
      refine h4.mono ?_
      rintro e w5 ⟨rfl, b5⟩
      have HBZ : Hid (Below w.heap.size w w5) := HB4.out.trans (b5.mono HB4.out.size)
      clear h4 b5 HB4
      go_wp2_with fail
      refine (HIADD.out _ _ (by simp)).mono ?_
      rintro e w9 ⟨rfl, b9⟩
      have HB9 : Hid (Below w.heap.size w w9) := (HBZ.out.alloc HBZ.out.size _).trans (b9.mono (by have := HBZ.out.size; simp; omega))
      clear b9 HBZ
      go_wp2
      go_ret
      exact ⟨rfl, HB9.out⟩
    · have hlt' : decide (x < (m : Int)) = false := decide_eq_false hlt
      have HBZ : Hid (Below w.heap.size w (w2.alloc (.cells #[.int .u16 mm, .string f.1, .bool f.2.1, .bool f.2.2.1, .string f.2.2.2.1, .string f.2.2.2.2.1, .int .i64 f.2.2.2.2.2.1, .int .u8 f.2.2.2.2.2.2] 33))) := hbz
      clear HST HMO HIS hbz hblk
      unfold formV
      go_wp2_with fail
      refine (HIADD.out _ _ (by simp)).mono ?_
      rintro e w9 ⟨rfl, b9⟩
      have HB9 : Hid (Below w.heap.size w w9) := (HBZ.out.alloc HBZ.out.size _).trans (b9.mono (by have := HBZ.out.size; simp; omega))
      clear b9 HBZ
      go_wp2
      go_ret
      exact ⟨rfl, HB9.out⟩
  · -- it fits
    have his := HIS.out rfl
    subst his
    have hbx : Below w.heap.size w ((w2.alloc (.cells #[.int .u16 mm, .string f.1, .bool f.2.1, .bool f.2.2.1, .string f.2.2.2.1, .string f.2.2.2.2.1, .int .i64 f.2.2.2.2.2.1, .int .u8 f.2.2.2.2.2.2] 33)).alloc (.cells #[] 5)) := hbz.alloc (by have := hbz.size; omega) _
    have HVX : Hid (View .u8 ((w2.alloc (.cells #[.int .u16 mm, .string f.1, .bool f.2.1, .bool f.2.2.1, .string f.2.2.2.1, .string f.2.2.2.2.1, .int .i64 f.2.2.2.2.2.1, .int .u8 f.2.2.2.2.2.2] 33)).alloc (.cells #[] 5)) a zs) := HV.out.1.below hbx
    have HBX : Hid (Below w.heap.size w ((w2.alloc (.cells #[.int .u16 mm, .string f.1, .bool f.2.1, .bool f.2.2.1, .string f.2.2.2.1, .string f.2.2.2.2.1, .int .i64 f.2.2.2.2.2.1, .int .u8 f.2.2.2.2.2.2] 33)).alloc (.cells #[] 5))) := hbx
    have HBK : Hid (((w2.alloc (.cells #[.int .u16 mm, .string f.1, .bool f.2.1, .bool f.2.2.1, .string f.2.2.2.1, .string f.2.2.2.2.1, .int .i64 f.2.2.2.2.2.1, .int .u8 f.2.2.2.2.2.2] 33)).alloc (.cells #[] 5)).heap[w2.heap.size]? = some (.cells (frmCells mm f) 33 (0, 0))) := allocOld hblk _
    clear hbx hbz hblk HIS HST
    unfold formV
    go_wp2_with (at_builtin; refine wpList_append_view _ rfl (.tmp 38) (.tmp 39) 43 rfl (w2.heap.size + 1) 5 i0 (.int .u8 0) 1 .u8 Try.underlying43 HI.out.1 HI.out.2.1 HI.out.2.2.1 HI.out.2.2.2.1 HI.out.2.2.2.2 _ 0 [] rfl (own_empty (allocNew _ _ (by simp)) (Nat.le_refl _) .u8) a m cap zs rfl HVX.out HL.out.1 (by unfold maxLen; omega) (by omega) (by simp) ?_)
    intro v3 w3 hown3 hgr3
    have hb3 : Below (w2.heap.size + 1) ((w2.alloc (.cells #[.int .u16 mm, .string f.1, .bool f.2.1, .bool f.2.2.1, .string f.2.2.2.1, .string f.2.2.2.2.1, .int .i64 f.2.2.2.2.2.1, .int .u8 f.2.2.2.2.2.2] 33)).alloc (.cells #[] 5)) w3 := (Below.refl _ _).grown hgr3 (by simp) (fun k hk => by simp [Value.ownBlock] at hk; omega)
    have hs3 := hb3.size
    simp only [World.size_alloc] at hs3
    have HB3 : Hid (Below w.heap.size w w3) := HBX.out.trans (hb3.mono (by omega))
    have HO3 : Hid (w3.ownsRow (w2.heap.size + 1) 5 1 v3 m (zs.map (Value.int .u8))) := hown3
    have HK3 : Hid (w3.heap[w2.heap.size]? = some (.cells (frmCells mm f) 33 (0, 0))) := (hb3.block _ (by omega)).trans HBK.out
    have HRL : Hid ((restK f).length = f.2.2.2.2.1.size) := restK_len f
    have HRN : Hid (∀ j, j < f.2.2.2.2.1.size → nth (restK f) j = kindI (sgn f.2.2.2.2.1 j)) := restK_nth f
    clear hgr3 hb3 HVX HBX HBK hown3
    go_wp2
    go_loopw [11, 12] (fun v i wr => ∃ k : Nat, k ≤ f.2.2.2.2.1.size ∧ i = .int .i64 k ∧ wr.ownsRow (w2.heap.size + 1) 5 1 v (m + k) ((zs ++ (restK f).take k).map (Value.int .u8)) ∧ Below (w2.heap.size + 1) w3 wr) (fun _ i _ => f.2.2.2.2.1.size - (intOf i).toNat)
    case atStart => exact ⟨0, Nat.zero_le _, rfl, by rw [List.take_zero, List.append_nil]; exact HO3.out, Below.refl _ _⟩
    case round =>
      obtain ⟨k, hk, rfl, hown, hbr⟩ := hrel
      have hblk := (hbr.block w2.heap.size (by omega)).trans HK3.out
      obtain ⟨d0, d1, d2, d3, d4, d5, d6, d7, df⟩ := frm_cells hblk
      have hszr := hbr.size
      have HO : Hid (wr.ownsRow (w2.heap.size + 1) 5 1 u11 (m + k) ((zs ++ (restK f).take k).map (Value.int .u8))) := hown
      have HBR : Hid (Below (w2.heap.size + 1) w3 wr) := hbr
      clear hblk d0 d1 d2 d3 d4 d7 df hown hbr
      by_cases hlt : k < f.2.2.2.2.1.size
      · have hsg := sgn_at f.2.2.2.2.1 k hlt
        have hKd := HKD.out (sgn f.2.2.2.2.1 k)
        have HT : Hid ((restK f).take (k + 1) = (restK f).take k ++ [kindI (sgn f.2.2.2.2.1 k)]) := by
          show _ = _
          rw [take_snoc _ _ (by rw [HRL.out]; exact hlt), HRN.out k hlt]
        generalize kindI (sgn f.2.2.2.2.1 k) = y at *
        clear d6
        go_wp2_with fail
        refine (hKd _).mono ?_
        rintro e w5 ⟨rfl, rfl⟩
        go_wp2_with (at_builtin; refine wpList_append_own _ rfl (.tmp 48) (.tmp 54) 43 rfl (w2.heap.size + 1) 5 i0 (.int .u8 0) 1 1 Try.underlying43 HI.out.1 HI.out.2.1 HI.out.2.2.1 HI.out.2.2.2.1 HI.out.2.2.2.2 (by omega) u11 (m + k) _ rfl (HO.out.alloc _) ⟨wr.heap.size, 0, none⟩ 1 1 [.int .u8 y] rfl rfl (World.news_of_block (cs := #[.int .u8 y]) (t := 5) (fr := (0, 0)) (allocNew _ _ rfl)) (by simp [Value.oneCell']) (by unfold maxLen; omega) (by omega) (by simp; omega) ?_)
        intro v6 w6 hown6 hgr6 _
        have HO6 : Hid (w6.ownsRow (w2.heap.size + 1) 5 1 v6 (m + (k + 1)) ((zs ++ (restK f).take (k + 1)).map (Value.int .u8))) := by
          show World.ownsRow _ _ _ _ _ _ _
          rw [HT.out, List.map_append, List.map_append, List.map_take, ← Nat.add_assoc]
          exact hown6
        have HB6 : Hid (Below (w2.heap.size + 1) w3 w6) := (HBR.out.alloc (by omega) _).grown hgr6 (by simp; omega) (fun j hj => (HO.out.lt j hj).1)
        clear hown6 hgr6 HO HBR HT
        go_wp2
        go_roundw
        case rel => exact ⟨k + 1, by omega, by go_num, HO6.out, HB6.out⟩
        case measure => simp [intOf]; omega
      · obtain rfl : k = f.2.2.2.2.1.size := by omega
        have hown := HO.out
        rw [List.take_of_length_le (by rw [HRL.out]; exact Nat.le_refl _)] at hown
        obtain ⟨a4, c4, e4, hv4, hl4⟩ := View.ofOwned hown
        subst e4
        have h4 := HF.out a4 (m + f.2.2.2.2.1.size) c4 (zs ++ restK f) wr hv4 hl4 (by omega)
        have HM2 : Hid (f.2.2.2.2.2.1 = 0 → (fitsI true f (zs ++ restK f)).2 = true) := HMO.out trivial
        generalize (fitsI true f (zs ++ restK f)).1 = y1 at *
        generalize (fitsI true f (zs ++ restK f)).2 = y2 at *
        have HBW : Hid (Below w.heap.size w wr) := HB3.out.trans (HBR.out.mono (by omega))
        clear hv4 hl4 hown HO HB3 HMO HF
        go_wp2_with fail
        refine h4.mono ?_
        rintro e w5 ⟨rfl, b5⟩
        have HBZ : Hid (Below w.heap.size w w5) := HBW.out.trans (b5.mono HBW.out.size)
        have g6 : w5.cell? ⟨w2.heap.size, 6, none⟩ = some (.int .i64 f.2.2.2.2.2.1) := (b5.cell (p := ⟨w2.heap.size, 6, none⟩) (by show w2.heap.size < wr.heap.size; omega)).trans d6
        clear h4 b5 HBW d6 d5
        by_cases h0 : f.2.2.2.2.2.1 = 0
        · have hy := HM2.out h0
          subst hy
          have h0' : (f.2.2.2.2.2.1 == 0) = true := by simpa using h0
          generalize f.2.2.2.2.2.1 = mo at *
          clear HM2 h0
          go_wp2_with fail
          refine (HIADD.out _ _ (by simp)).mono ?_
          rintro e w9 ⟨rfl, b9⟩
          have HB9 : Hid (Below w.heap.size w w9) := (HBZ.out.alloc HBZ.out.size _).trans (b9.mono (by have := HBZ.out.size; simp; omega))
          clear b9 HBZ
          go_wp2
          go_ret
          exact ⟨rfl, HB9.out⟩
        · have h0' : (f.2.2.2.2.2.1 == 0) = false := by simpa using h0
          generalize f.2.2.2.2.2.1 = mo at *
          clear HM2 h0
          go_wp2_with fail
          refine (HIADD.out _ _ (by simp)).mono ?_
          rintro e w9 ⟨rfl, b9⟩
          have HB9 : Hid (Below w.heap.size w w9) := (HBZ.out.alloc HBZ.out.size _).trans (b9.mono (by have := HBZ.out.size; simp; omega))
          clear b9 HBZ
          go_wp2
          go_ret
          exact ⟨rfl, HB9.out⟩

end Go.Proofs.Ytjpbiakbjpiceab
