/-
  The law LexForth, for tokens whose line keeps to the memory's reach: a walk of its body with the contracts of what it calls.
-/
import Derived.WalkSpells
import Derived.WalkMore
import Derived.BigRegion
import Derived.Test.YtccllonkhklldabProg
import Derived.Test.YtccllonkhklldabToksMake
import Derived.Test.YtccllonkhklldabLawLexBack
namespace Go.Proofs.Ytccllonkhklldab
open Go.RowKit
set_option maxRecDepth 10000
set_option linter.unusedVariables false
set_option linter.unusedSimpArgs false

theorem hid2 {p : Prop} (h : p) : Hid p := h
theorem place_step (l : List TokT) (k : Nat) (h : k < l.length) : placeAt l (k + 1) = placeAt l k + (tokS (nthT l k).1 (strI (nthT l k).2.1)).length + 1 := by
  unfold placeAt; rw [wAll_snoc l k h]; simp; omega
theorem wAll_split (l : List TokT) (k : Nat) (h : k < l.length) : ∃ rest, wAll l = wAll (l.take k) ++ 32 :: (tokS (nthT l k).1 (strI (nthT l k).2.1) ++ rest) := by
  refine ⟨wAll (l.drop (k + 1)), ?_⟩
  have e : l = l.take (k + 1) ++ l.drop (k + 1) := (List.take_append_drop (k + 1) l).symm
  have e2 : wAll l = wAll (l.take (k + 1)) ++ wAll (l.drop (k + 1)) := by
    unfold wAll
    rw [← List.flatMap_append, List.take_append_drop]
  rw [e2, wAll_snoc l k h]; simp
theorem place_cut (l : List TokT) (k : Nat) (h : k < l.length) : cutL ((wAll l).drop 1) (placeAt l k) (placeAt l k + (tokS (nthT l k).1 (strI (nthT l k).2.1)).length) = tokS (nthT l k).1 (strI (nthT l k).2.1) ∧ placeAt l k + (tokS (nthT l k).1 (strI (nthT l k).2.1)).length ≤ ((wAll l).drop 1).length := by
  obtain ⟨rest, e⟩ := wAll_split l k h
  have hd : (wAll l).drop 1 = (wAll (l.take k) ++ [32]).drop 1 ++ (tokS (nthT l k).1 (strI (nthT l k).2.1) ++ rest) := by
    rw [e, show wAll (l.take k) ++ 32 :: (tokS (nthT l k).1 (strI (nthT l k).2.1) ++ rest) = (wAll (l.take k) ++ [32]) ++ (tokS (nthT l k).1 (strI (nthT l k).2.1) ++ rest) by simp, List.drop_append_of_le_length (by simp)]
  have hl : ((wAll (l.take k) ++ [32]).drop 1).length = placeAt l k := by unfold placeAt; simp
  rw [hd, ← hl]
  have := cut_shift ((wAll (l.take k) ++ [32]).drop 1) (tokS (nthT l k).1 (strI (nthT l k).2.1) ++ rest) 0 (tokS (nthT l k).1 (strI (nthT l k).2.1)).length
  rw [cut_front, Nat.add_zero] at this
  exact ⟨this, by simp only [List.length_append]; omega⟩
theorem wOut_one (t : TokT) (h : tokOk t.1 (strI t.2.1) = true) : wOut [t] = tokS t.1 (strI t.2.1) ∧ wErr [t] = 0 := by
  have : wOk [t] = true := by simp [wOk, h]
  unfold wOut wErr; rw [this]; simp [wAll]
theorem nthT_one (t : TokT) : nthT [t] 0 = t := rfl

set_option maxHeartbeats 4000000 in
theorem lexForth_law (w : World) (a : Option Addr) (n cap : Nat) (l : List TokT) (hl : l.length = n) (hv : ToksV w a l) (hin : ToksIn l) (hr : 32 * n ≤ 140737488351232) (hu : bulkT l + n ≤ 1048576) :
    Calls Try.prog 7 #[.slice a n cap] w fun e w' => e = .returned (.bool true) ∧ Below w.heap.size w w' := by
  have hW0 := write_any a n cap l w hv hl hin (by omega)
  have hA := fun wx => awake6_true wx
  cases hok : wOk l
  · have ho : wOut l = [] := by simp [wOut, hok]
    rw [ho, show wErr l = 2 by simp [wErr, hok], show strOfNums [] = ⟨#[]⟩ from rfl] at hW0
    have he : (ByteArray.toList ⟨#[]⟩).isEmpty = true := by rw [ByteArray.toList_eq]; rfl
    have he2 : ByteArray.toList { data := #[] } = [] := by rw [ByteArray.toList_eq]
    clear hok ho hv
    go_enter Try.func7, Try.ntmps7
    go_wp2_with fail
    refine hW0.mono ?_
    rintro e w1 ⟨rfl, hb1⟩
    clear hW0
    go_wp2_with (go_at_call 12; refine (hA _).mono ?_; rintro e w2 ⟨rfl, hb2⟩)
    go_ret
    exact ⟨rfl, hb1.trans (hb2.mono hb1.size)⟩
  · obtain ⟨i0, hi, hz0, hz1, hz2⟩ := info_parts TokMake.info
    have hwl := wAll_len l
    have hoo := wOut_ok hok
    have hol := wOut_len l
    have hos : (strOfNums (wOut l)).size = (wOut l).length := strOfNums_size _
    rw [show wErr l = 0 by simp [wErr, hok]] at hW0
    have hT2 := fun wx => tokens_any (strOfNums (wOut l)) wx (by rw [hos]; omega)
    rw [toks_wOut hok] at hT2
    have hpl := placed_len l 0
    have hAL := fun a a' n c c' wx (hl : (placed 0 l).length = n) (hm : l.length = n) (hv : ToksV wx a (placed 0 l)) (hv' : ToksV wx a' l) => alikeTokens_any (placed 0 l) l n a a' c c' wx hl hm (by omega) hv hv' (fun k hk => alike_placed (by omega))
    have HONE : Hid (∀ k, k < n → ∀ g wx, ToksV wx (some ⟨g, 0, none⟩) [nthT l k] → Calls Try.prog 14 #[.slice (some ⟨g, 0, none⟩) 1 1] wx fun e w' => e = .returned (.tuple #[.string (strOfNums (tokS (nthT l k).1 (strI (nthT l k).2.1))), .int .i64 0]) ∧ Below wx.heap.size wx w') := fun k hk g wx hvx => by
      have hb := bulkT_at l k (by omega)
      have := write_any (some ⟨g, 0, none⟩) 1 1 [nthT l k] wx hvx rfl (fun j hj => by
        obtain rfl : j = 0 := by simp at hj; exact hj
        exact hin k (by omega)) (by simp only [bulkT, List.map_cons, List.map_nil, List.sum_cons, List.sum_nil]; omega)
      obtain ⟨o1, o2⟩ := wOut_one (nthT l k) (wOk_at hok (by omega))
      rw [o1, o2] at this
      exact this
    have HCUT : Hid (∀ k, k < n → (strOfNums (wOut l)).extract (placeAt l k) (placeAt l k + (strOfNums (tokS (nthT l k).1 (strI (nthT l k).2.1))).size) = strOfNums (tokS (nthT l k).1 (strI (nthT l k).2.1)) ∧ placeAt l k + (strOfNums (tokS (nthT l k).1 (strI (nthT l k).2.1))).size ≤ (strOfNums (wOut l)).size ∧ placeAt l (k + 1) = placeAt l k + (strOfNums (tokS (nthT l k).1 (strI (nthT l k).2.1))).size + 1) := fun k hk => by
      obtain ⟨p1, p2⟩ := place_cut l k (by omega)
      rw [strOfNums_size, hos, hoo]
      refine ⟨strI_inj ?_, p2, place_step l k (by omega)⟩
      rw [strI_extract, strI_of (by rw [← hoo]; exact wOut_within l), strI_of (tokS_within (strI_within _))]
      exact p1
    have HAT : Hid (∀ k, k < n → (nthT (placed 0 l) k).2.2 = (placeAt l k : Int)) := fun k hk => by rw [placed_nth l 0 k (by omega)]; simp
    have HLEN : Hid (l.length = n) := hl
    have HPL : Hid ((placed 0 l).length = n) := hpl.trans hl
    have HFIN0 : Hid (n = 0 → strOfNums (wOut l) = ⟨#[]⟩) := fun h => by
      have : l = [] := List.length_eq_zero_iff.1 (by omega)
      subst this; rfl
    have HFIN : Hid (0 < n → placeAt l n = (strOfNums (wOut l)).size + 1) := fun h => by
      rw [hos, hoo, List.length_drop]
      unfold placeAt
      rw [List.take_of_length_le (by omega)]
      have : 0 < (wAll l).length := by
        cases l with
        | nil => simp at hl; omega
        | cons x r => simp [wAll]
      omega
    have hqs : (strOfNums (wOut l)).size ≤ 7340032 := by omega
    have hn : n ≤ 1048576 := by omega
    have HIN : Hid (ToksIn l) := hin
    clear hwl hoo hol hos hok hin hu
    generalize strOfNums (wOut l) = q at *
    go_enter Try.func7, Try.ntmps7
    go_wp2_with fail
    refine hW0.mono ?_
    rintro e w1 ⟨rfl, hb1⟩
    have hv1 := hv.below hb1
    clear hW0
    go_wp2_with fail
    refine (hT2 _).mono ?_
    rintro e w2 ⟨v2, rfl, hrow2, hb2⟩
    obtain ⟨a2, c2, rfl, hv2⟩ := toks_own hrow2
    have hba2 := (Below.refl w2.heap.size w2).alloc (Nat.le_refl _) (.cells #[.int .i64 0, .int .i64 0] 25)
    have hw2 := (hb1.trans (hb2.mono hb1.size)).trans (hba2.mono (Nat.le_trans hb1.size hb2.size))
    have hvx := hv2.below hba2
    have hvl := (hv1.below hb2).below hba2
    rw [HPL.out]
    have HAL := hAL a2 a _ c2 cap _ HPL.out hl hvx hvl
    clear hrow2 hv2 hv1 hb2 hba2 hb1 hT2 hAL hv hpl hl
    go_wp2_with fail
    generalize w2.alloc (.cells #[.int .i64 0, .int .i64 0] 25) = W2 at *
    refine HAL.mono ?_
    rintro e w3 ⟨rfl, qd, rfl⟩
    have hw3 := bel_drewN hw2 qd
    have hvx3 := hvx.drew qd
    have hvl3 := hvl.drew qd
    clear HAL hvx hvl hw2
    generalize W2.drewN qd = W at *
    go_wp2_with fail
    go_loopw [7, 8] (fun at_ i wr => ∃ k : Nat, k ≤ n ∧ i = .int .i64 k ∧ at_ = .int .i64 (placeAt l k) ∧ placeAt l k ≤ 8388608 ∧ Below W.heap.size W wr) (fun _ i _ => n - (intOf i).toNat)
    case atStart => exact ⟨0, Nat.zero_le _, rfl, rfl, by simp [placeAt, wAll], Below.refl _ _⟩
    case round =>
      obtain ⟨k, hk, rfl, rfl, hpk, hbel⟩ := hrel
      by_cases hlt : k < n
      · obtain ⟨b, off, rfl, hblt, d0, d1, d2⟩ := hvl3 k (by rw [HLEN.out]; exact hlt)
        obtain ⟨b', off', rfl, hblt', e0, e1, e2⟩ := hvx3 k (by rw [HPL.out]; exact hlt)
        rw [HAT.out k hlt] at e2
        have d0 := (hbel.cell (p := ⟨b, off + k * 3, none⟩) hblt).trans d0
        have d1 := (hbel.cell (p := ⟨b, off + k * 3 + 1, none⟩) hblt).trans d1
        have d2 := (hbel.cell (p := ⟨b, off + k * 3 + 2, none⟩) hblt).trans d2
        have hsz := hbel.size
        obtain ⟨x1, x2, x3⟩ := HCUT.out k hlt
        have X1 := hid2 x1
        have X3 := hid2 x3
        clear x1 x3 e0 e1
        have hki : (k : Int) < (n : Int) := by omega
        have hk0 : (0 : Int) ≤ (k : Int) := by omega
        have hlb : b < wr.heap.size := by omega
        have hlb' : b' < W.heap.size := hblt'
        have HON := HONE.out k hlt
        have HON2 := hid2 HON
        have X2 := hid2 x2
        clear HON HONE HCUT HAT HFIN0 HFIN hvx3 hvl3 hblt hblt' x2
        obtain ⟨tk, htk⟩ : ∃ x : TokT, x = nthT l k := ⟨_, rfl⟩
        rw [← htk] at d0 d1 d2 HON2 X1 X2 X3
        obtain ⟨t1, t2, t3⟩ := tk
        simp only at d0 d1 d2 HON2 X1 X2 X3
        clear htk
        go_wp2_with (at_make; refine wpList_make_full _ rfl _ _ 22 rfl W.heap.size 30 i0 (.agg #[.int .u8 0, .string ⟨#[]⟩, .int .i64 0]) 3 Try.underlying22 hi hz0 hz1 _ _ _ _ 1 rfl rfl (by omega) (by omega) (by rw [hz2]; omega) (by unfold maxLen; omega) hsz ?_)
        intro w4 hown4 hgr4
        have hP := PartT.made (l := [(t1, t2, t3)]) hown4
        obtain ⟨⟨y0, c0⟩, f0⟩ := hP.can 0 (by omega)
        obtain ⟨⟨y1, c1⟩, f1⟩ := hP.can 1 (by omega)
        obtain ⟨⟨y2, c2⟩, f2⟩ := hP.can 2 (by omega)
        have g0 : w4.cell? ⟨b, off + k * 3, none⟩ = some (.int .u8 t1) := (World.cell?_of_block (hgr4.block b hlb (by simp))).trans d0
        have g1 : w4.cell? ⟨b, off + k * 3 + 1, none⟩ = some (.string t2) := (World.cell?_of_block (hgr4.block b hlb (by simp))).trans d1
        have g2 : w4.cell? ⟨b, off + k * 3 + 2, none⟩ = some (.int .i64 t3) := (World.cell?_of_block (hgr4.block b hlb (by simp))).trans d2
        have hP2 := (hP.store (by omega)).view rfl
        simp only [nthT_one, Nat.zero_mul, Nat.zero_add] at hP2
        have hb4 : Below W.heap.size W w4 := hbel.grown hgr4 hsz (fun kk e => by cases e)
        have hb5 := three_below hb4 hsz 0 1 2 (.int .u8 t1) (.string t2) (.int .i64 t3)
        have hWR := HON2.out wr.heap.size _ hP2
        clear hP hP2 hown4 hgr4 hb4 d0 d1 d2 HON2
        go_wp2_with fail
        refine hWR.mono ?_
        rintro e w5 ⟨rfl, hb6⟩
        have hbW := hb5.trans (hb6.mono hb5.size)
        have e2 := (hbW.cell (p := ⟨b', off' + k * 3 + 2, none⟩) hlb').trans e2
        clear hWR hb5 hb6 g0 g1 g2 c0 c1 c2 f0 f1 f2
        generalize strOfNums (tokS t1 (strI t2)) = u at *
        have x1 := X1.out
        have x2 := X2.out
        have x2i : (placeAt l k : Int) + (u.size : Int) ≤ (q.size : Int) := by omega
        have hnn : ¬ (q.size : Int) < (placeAt l k : Int) + (u.size : Int) := by omega
        have hpp : (placeAt l k : Int) ≤ (placeAt l k : Int) + (u.size : Int) := by omega
        go_wp2_with fail
        go_roundw
        case rel => exact ⟨k + 1, by omega, by go_num, by rw [X3.out]; exact congrArg (Value.int .i64) (by omega), by rw [X3.out]; omega, hbW⟩
        case measure => simp [intOf]; omega
      · obtain rfl : k = n := by omega
        have HF0 := HFIN0.out
        by_cases hz : k = 0
        · subst hz
          have hq := HF0 rfl
          subst hq
          have he2 : ByteArray.toList { data := #[] } = [] := by rw [ByteArray.toList_eq]
          clear HONE HCUT HAT HFIN0 HFIN HF0 hvx3 hvl3
          go_wp2_with (go_at_call 12; refine (hA _).mono ?_; rintro e w4 ⟨rfl, hb4⟩)
          go_ret
          have hb5 := hw3.trans (hbel.mono hw3.size)
          exact ⟨rfl, hb5.trans (hb4.mono hb5.size)⟩
        · have hF := HFIN.out (by omega)
          have hki : ((k : Int) == 0) = false := beq_eq_false_iff_ne.2 (by omega)
          have hF2 : (placeAt l k : Int) = (q.size : Int) + 1 := by omega
          clear HONE HCUT HAT HFIN0 HFIN HF0 hvx3 hvl3 hF
          go_wp2_with (go_at_call 12; refine (hA _).mono ?_; rintro e w4 ⟨rfl, hb4⟩)
          go_ret
          have hb5 := hw3.trans (hbel.mono hw3.size)
          exact ⟨rfl, hb5.trans (hb4.mono hb5.size)⟩

end Go.Proofs.Ytccllonkhklldab
