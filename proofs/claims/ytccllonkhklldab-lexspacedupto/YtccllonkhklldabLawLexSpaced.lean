/-
  The law LexSpaced, for a line and a note whose tokens keep to the memory's reach: a walk of its body with the contracts of what it calls.
-/
import Derived.WalkSpells
import Derived.Deep.QuietTactic
import Derived.BigQuiet
import Derived.WalkMore
import Derived.Test.YtccllonkhklldabProg
import Derived.Test.YtccllonkhklldabMathY
import Derived.Test.YtccllonkhklldabLaw06Texts
import Derived.Test.YtccllonkhklldabLawLexBack
namespace Go.Proofs.Ytccllonkhklldab
open Go.RowKit
set_option maxRecDepth 10000
set_option linter.unusedVariables false
set_option linter.unusedSimpArgs false

theorem moved_len (m : Nat) (l : List TokT) : (l.map (moveT m)).length = l.length := by simp
theorem moved_nth (m : Nat) (l : List TokT) (k : Nat) (h : k < l.length) : nthT (l.map (moveT m)) k = moveT m (nthT l k) := by simp [nthT, List.getD, h]
theorem moved_txt (m : Nat) (l : List TokT) : txtL (l.map (moveT m)) = txtL l := by simp [txtL, moveT]
def blkS (k : Nat) : ByteArray := strOfNums (List.replicate k 32)
theorem blk_strI (k : Nat) : strI (blkS k) = List.replicate k 32 := strI_of (fun z hz => by have := List.eq_of_mem_replicate hz; omega)
theorem blk_size (k : Nat) : (blkS k).size = k := by rw [blkS, strOfNums_size, List.length_replicate]
theorem blk_snoc (k : Nat) : blkS k ++ { data := #[32] } = blkS (k + 1) := by
  apply strI_inj
  rw [strI_append, blk_strI, blk_strI, List.replicate_succ']; rfl
theorem hid3 {p : Prop} (h : p) : Hid p := h

set_option maxHeartbeats 4000000 in
/-- The walk from the number of blanks on. -/
theorem lexSpaced_law (w : World) (s : ByteArray) (hs0 : s.size ≤ 140737488351232) (nt : ByteArray) (hn0 : nt.size ≤ 140737488351232) (bl : Int) (hbl : (Lit.int .i64 bl).wf = true) (hs : s.size ≤ 1048576) (hn : nt.size ≤ 1048576) :
    Calls Try.prog 5 #[.string s, .string nt, .int .i64 bl] w fun e w' => e = .returned (.bool true) ∧ Below w.heap.size w w' := by
  have hT := fun wx => tokens_any s wx (by omega)
  obtain ⟨g1, g2, g3, g4, g5⟩ := toks_good (strI_within s) 0
  have gs := toksP_shape (strI s) 0
  rw [strI_len] at g2 g3 g4 g5
  have hnote := toks_note (strI s) (strI nt)
  have hT3 := fun wx => tokens_any (s ++ { data := #[32, 59] } ++ nt) wx (by rw [ByteArray.size_append, ByteArray.size_append]; show 32 * (_ + 2 + _) + 64 ≤ _; omega)
  have e3 : strI (s ++ { data := #[32, 59] } ++ nt) = strI s ++ 32 :: 59 :: strI nt := by
    rw [strI_append, strI_append]
    show strI s ++ [32, 59] ++ strI nt = _
    simp
  rw [e3] at hT3
  have HT2 : Hid (∀ m : Nat, m ≤ 40 → ∀ wx, Calls Try.prog 10 #[.string (blkS m ++ s)] wx fun e w' => ∃ v, e = .returned (.tuple #[v, .agg #[.int .i64 (shiftR m (toksP (strI s) 0)).2.1, .int .i64 (shiftR m (toksP (strI s) 0)).2.2]]) ∧ w'.ownsRow wx.heap.size 30 3 v (shiftR m (toksP (strI s) 0)).1.length ((shiftR m (toksP (strI s) 0)).1.flatMap tokC) ∧ Below wx.heap.size wx w') := fun m hm wx => by
    have := tokens_any (blkS m ++ s) wx (by rw [ByteArray.size_append, blk_size]; omega)
    rw [strI_append, blk_strI, toks_blanks] at this
    exact this
  obtain ⟨R, hR⟩ : ∃ R, R = toksP (strI s) 0 := ⟨_, rfl⟩
  rw [← hR] at hT g1 g2 g3 g4 g5 gs hnote HT2
  have HNOTE : Hid (R.2.1 = 0 → toksP (strI s ++ 32 :: 59 :: strI nt) 0 = R) := hnote
  clear hR e3 hnote
  obtain ⟨l, er, at_⟩ := R
  simp only [shiftR] at hT g1 g2 g3 g4 g5 gs HT2 HNOTE
  have hA := fun wx => awake6_true wx
  have hz3 : (ByteArray.size { data := #[32, 59] }) = 2 := rfl
  have hz4 : (ByteArray.size { data := #[32] }) = 1 := rfl
  have HB0 : Hid (blkS 0 = ⟨#[]⟩) := rfl
  have HBS : Hid (∀ k, blkS k ++ { data := #[32] } = blkS (k + 1)) := blk_snoc
  have HBZ : Hid (∀ k, (blkS k).size = k) := blk_size
  have hbb := bounds_i64 hbl
  clear hbl
  have key : ∀ (m : Nat), m ≤ 40 → True := fun _ _ => trivial
  clear key
  by_cases hc1 : bl < 0
  · obtain ⟨m, hm3⟩ : ∃ m : Nat, m = 3 := ⟨3, rfl⟩
    have hm : m ≤ 40 := by omega
    go_enter Try.func5, Try.ntmps5
    go_wp2_with fail
    rw [show (3 : Int) = (m : Int) by omega]
    clear hm3
    go_loop [7, 8] (fun v i => ∃ k : Nat, k ≤ m ∧ i = .int .i64 k ∧ v = .string (blkS k)) (fun _ i => m - (intOf i).toNat)
    case atStart => exact ⟨0, Nat.zero_le _, rfl, rfl⟩
    case round =>
      obtain ⟨k, hk, rfl, rfl⟩ := hrel
      have hbz := HBZ.out k
      by_cases hlt : k < m
      · have HBK := hid3 (HBS.out k)
        have hki : (k : Int) < (m : Int) := by omega
        clear hT HT2 hT3 gs g4
        generalize blkS k = bk at *
        go_wp2_with fail
        go_round
        case rel => exact ⟨k + 1, by omega, by go_num, by rw [← HBK.out]⟩
        case measure => simp [intOf]; omega
      · obtain rfl : k = m := by omega
        have HTm := HT2.out k hm
        clear HT2
        generalize blkS k = bk at *
        go_wp2_with fail
        refine (hT _).mono ?_
        rintro e w1 ⟨v1, rfl, hrow1, hb1⟩
        obtain ⟨a1, c1, rfl, hv1⟩ := toks_own hrow1
        have hba1 := (Below.refl w1.heap.size w1).alloc (Nat.le_refl _) (.cells #[.int .i64 er, .int .i64 at_] 25)
        have hw1 := hb1.trans (hba1.mono hb1.size)
        have hvv1 := hv1.below hba1
        have hbox1 := heap_alloc_new w1 (.cells #[.int .i64 er, .int .i64 at_] 25)
        have hlx1 : w1.heap.size < (w1.alloc (.cells #[.int .i64 er, .int .i64 at_] 25)).heap.size := by simp
        clear hrow1 hv1 hb1 hba1 hT
        go_wp2_with fail
        generalize w1.alloc (.cells #[.int .i64 er, .int .i64 at_] 25) = W1 at *
        refine (HTm _).mono ?_
        rintro e w2 ⟨v2, rfl, hrow2, hb2⟩
        obtain ⟨a2, c2, rfl, hv2⟩ := toks_own hrow2
        clear HTm
        by_cases h0 : er = 0
        · subst h0
          have hat := gs.1 rfl
          subst hat
          have hba2 := (Below.refl w2.heap.size w2).alloc (Nat.le_refl _) (.cells #[.int .i64 0, .int .i64 0] 25)
          have hw2 := (hw1.trans (hb2.mono hw1.size)).trans (hba2.mono (Nat.le_trans hw1.size hb2.size))
          have hvx := hv2.below hba2
          have hvl := (hvv1.below hb2).below hba2
          have hbx1 := (hba2.block _ (Nat.lt_of_lt_of_le hlx1 hb2.size)).trans ((hb2.block _ hlx1).trans hbox1)
          have hbx2 := heap_alloc_new w2 (.cells #[.int .i64 0, .int .i64 0] 25)
          have hlen := moved_len k l
          have HAL := alikeTokens_any (l.map (moveT k)) l l.length a2 a1 c2 c1 _ hlen rfl (by omega) hvx hvl (fun j hj => by rw [moved_nth k l j hj]; exact ⟨rfl, rfl⟩)
          simp only [if_true]
          rw [hlen]
          have q1 : (w2.alloc (.cells #[.int .i64 0, .int .i64 0] 25)).cell? ⟨w1.heap.size, 0, none⟩ = some (.int .i64 0) := by rw [Lib.cell_of_heap hbx1]; rfl
          have q2 : (w2.alloc (.cells #[.int .i64 0, .int .i64 0] 25)).cell? ⟨w2.heap.size, 0, none⟩ = some (.int .i64 0) := by rw [Lib.cell_of_heap hbx2]; rfl
          clear hrow2 hv2 hvv1 hb2 hba2 hw1 hbx1 hbx2 hbox1 hlx1
          go_wp2_with fail
          generalize w2.alloc (.cells #[.int .i64 0, .int .i64 0] 25) = W2 at *
          refine HAL.mono ?_
          rintro e w3 ⟨rfl, qd, rfl⟩
          have hw3 := bel_drewN hw2 qd
          have hvx3 := hvx.drew qd
          have hvl3 := hvl.drew qd
          have HTX := texts_any a2 l.length c2 (l.map (moveT k)) (W2.drewN qd) hlen (by omega) hvx3
          rw [moved_txt] at HTX
          clear HAL hvx hvl q1 q2 hw2
          generalize W2.drewN qd = W3 at *
          go_wp2_with fail
          refine HTX.mono ?_
          rintro e w4 ⟨v4, rfl, hrow4, hb4⟩
          obtain ⟨a4, c4, rfl, hv4⟩ := strs_own hrow4
          have hw4 := hw3.trans (hb4.mono hw3.size)
          have HTX2 := texts_any a1 l.length c1 l w4 rfl (by omega) (hvl3.below hb4)
          have hvx4 := hvx3.below hb4
          have hvl4 := hvl3.below hb4
          clear HTX hrow4 hvx3 hvl3 hw3 hb4
          go_wp2_with fail
          refine HTX2.mono ?_
          rintro e w5 ⟨v5, rfl, hrow5, hb5⟩
          obtain ⟨a5, c5, rfl, hv5⟩ := strs_own hrow5
          have hw5 := hw4.trans (hb5.mono hw4.size)
          have hvx5 := hvx4.below hb5
          have hvl5 := hvl4.below hb5
          have HKT := kitTexts_any (txtL l) _ a4 a5 c4 c5 w5 rfl (by simp [txtL]; omega) (hv4.below hb5) hv5
          clear HTX2 hrow5 hvx4 hvl4 hw4 hb5 hv4 hv5
          go_wp2_with fail
          refine HKT.mono ?_
          rintro e w6 ⟨rfl, qd6, rfl⟩
          have hw6 := bel_drewN hw5 qd6
          have hvx6 := hvx5.drew qd6
          have hvl6 := hvl5.drew qd6
          clear HKT hvx5 hvl5 hw5
          generalize w5.drewN qd6 = W6 at *
          go_wp2_with fail
          go_loopw [13] (fun i wr => ∃ j q : Nat, j ≤ l.length ∧ i = .int .i64 j ∧ wr = W6.drewN q) (fun i _ => l.length - (intOf i).toNat)
          case atStart => exact ⟨0, 0, Nat.zero_le _, rfl, rfl⟩
          case round =>
            obtain ⟨j, qj, hj, rfl, rfl⟩ := hrel
            by_cases hjl : j < l.length
            · obtain ⟨b, off, rfl, _, x0, x1, x2⟩ := hvx6 j (by rw [hlen]; exact hjl)
              obtain ⟨b', off', rfl, _, y0, y1, y2⟩ := hvl6 j hjl
              rw [moved_nth k l j hjl] at x2
              simp only [moveT] at x2
              have hz := g4 (nthT l j) (by rw [nthT_lt l j hjl]; exact List.getElem_mem hjl)
              have z1 := hz.2.2.2.1
              have z2 := hz.2.2.2.2
              have hji : (j : Int) < (l.length : Int) := by omega
              have hj0 : (0 : Int) ≤ (j : Int) := by omega
              generalize (nthT l j).2.2 = zz at *
              clear hvx6 hvl6 x0 x1 y0 y1 g4 gs hz hT3
              go_wp2_with fail
              go_quiet (fail)
              go_wp2_with fail
              go_roundw
              case rel => exact ⟨j + 1, _, by omega, by go_num, rfl⟩
              case measure => simp [intOf]; omega
            · obtain rfl : j = l.length := by omega
              have HN := HNOTE.out trivial
              rw [HN] at hT3
              have hw7 := bel_drewN hw6 qj
              have hvl7 := hvl6.drew qj
              clear hvx6 hvl6 hw6 HNOTE HN g4 gs
              generalize W6.drewN qj = W7 at *
              go_wp2_with fail
              refine (hT3 _).mono ?_
              rintro e w8 ⟨v8, rfl, hrow8, hb8⟩
              obtain ⟨a8, c8, rfl, hv8⟩ := toks_own hrow8
              have hba8 := (Below.refl w8.heap.size w8).alloc (Nat.le_refl _) (.cells #[.int .i64 0, .int .i64 0] 25)
              have hw8 := (hw7.trans (hb8.mono hw7.size)).trans (hba8.mono (Nat.le_trans hw7.size hb8.size))
              have hvy := hv8.below hba8
              have hvl8 := (hvl7.below hb8).below hba8
              have hbx8 := heap_alloc_new w8 (.cells #[.int .i64 0, .int .i64 0] 25)
              have q8 : (w8.alloc (.cells #[.int .i64 0, .int .i64 0] 25)).cell? ⟨w8.heap.size, 0, none⟩ = some (.int .i64 0) := by rw [Lib.cell_of_heap hbx8]; rfl
              have HSM := sameTokens_any l l.length a8 a1 c8 c1 _ rfl (by omega) hvy hvl8
              clear hT3 hrow8 hv8 hb8 hba8 hvl7 hw7 hbx8
              go_wp2_with fail
              generalize w8.alloc (.cells #[.int .i64 0, .int .i64 0] 25) = W8 at *
              refine HSM.mono ?_
              rintro e w9 ⟨rfl, q9, rfl⟩
              have hw9 := bel_drewN hw8 q9
              clear HSM hvy hvl8 hw8 q8
              go_wp2_with fail
              refine (hA _).mono ?_
              rintro e w10 ⟨rfl, hb10⟩
              go_wp2_with fail
              go_ret
              exact ⟨rfl, hw9.trans (hb10.mono hw9.size)⟩
        · have hl : l = [] := gs.2 h0
          subst hl
          obtain ⟨e1, e2, e3⟩ := g5.resolve_left h0
          have hne : (er == 0) = false := by simpa using h0
          rw [if_neg h0]
          have hba2 := (Below.refl w2.heap.size w2).alloc (Nat.le_refl _) (.cells #[.int .i64 er, .int .i64 (at_ + (k : Int))] 25)
          have hw2 := (hw1.trans (hb2.mono hw1.size)).trans (hba2.mono (Nat.le_trans hw1.size hb2.size))
          have hbx1 := (hba2.block _ (Nat.lt_of_lt_of_le hlx1 hb2.size)).trans ((hb2.block _ hlx1).trans hbox1)
          have hbx2 := heap_alloc_new w2 (.cells #[.int .i64 er, .int .i64 (at_ + (k : Int))] 25)
          have q1 : (w2.alloc (.cells #[.int .i64 er, .int .i64 (at_ + (k : Int))] 25)).cell? ⟨w1.heap.size, 0, none⟩ = some (.int .i64 er) := by rw [Lib.cell_of_heap hbx1]; rfl
          have q2 : (w2.alloc (.cells #[.int .i64 er, .int .i64 (at_ + (k : Int))] 25)).cell? ⟨w1.heap.size, 1, none⟩ = some (.int .i64 at_) := by rw [Lib.cell_of_heap hbx1]; rfl
          have q3 : (w2.alloc (.cells #[.int .i64 er, .int .i64 (at_ + (k : Int))] 25)).cell? ⟨w2.heap.size, 0, none⟩ = some (.int .i64 er) := by rw [Lib.cell_of_heap hbx2]; rfl
          have q4 : (w2.alloc (.cells #[.int .i64 er, .int .i64 (at_ + (k : Int))] 25)).cell? ⟨w2.heap.size, 1, none⟩ = some (.int .i64 (at_ + (k : Int))) := by rw [Lib.cell_of_heap hbx2]; rfl
          simp only [List.length_nil, List.map_nil]
          clear hrow2 hv2 hvv1 hb2 hba2 hw1 hbx1 hbx2 hbox1 hlx1 hT3 g1 g2 g3 g4 g5 gs h0 HNOTE e1
          go_wp2_with fail
          generalize w2.alloc (.cells #[.int .i64 er, .int .i64 (at_ + (k : Int))] 25) = W2 at *
          refine (hA _).mono ?_
          rintro e w3 ⟨rfl, hb3⟩
          go_wp2_with fail
          go_ret
          exact ⟨rfl, hw2.trans (hb3.mono hw2.size)⟩
  · by_cases hc2 : 40 < bl
    · obtain ⟨m, hm3⟩ : ∃ m : Nat, m = 3 := ⟨3, rfl⟩
      have hm : m ≤ 40 := by omega
      go_enter Try.func5, Try.ntmps5
      go_wp2_with fail
      rw [show (3 : Int) = (m : Int) by omega]
      clear hm3
      go_loop [7, 8] (fun v i => ∃ k : Nat, k ≤ m ∧ i = .int .i64 k ∧ v = .string (blkS k)) (fun _ i => m - (intOf i).toNat)
      case atStart => exact ⟨0, Nat.zero_le _, rfl, rfl⟩
      case round =>
        obtain ⟨k, hk, rfl, rfl⟩ := hrel
        have hbz := HBZ.out k
        by_cases hlt : k < m
        · have HBK := hid3 (HBS.out k)
          have hki : (k : Int) < (m : Int) := by omega
          clear hT HT2 hT3 gs g4
          generalize blkS k = bk at *
          go_wp2_with fail
          go_round
          case rel => exact ⟨k + 1, by omega, by go_num, by rw [← HBK.out]⟩
          case measure => simp [intOf]; omega
        · obtain rfl : k = m := by omega
          have HTm := HT2.out k hm
          clear HT2
          generalize blkS k = bk at *
          go_wp2_with fail
          refine (hT _).mono ?_
          rintro e w1 ⟨v1, rfl, hrow1, hb1⟩
          obtain ⟨a1, c1, rfl, hv1⟩ := toks_own hrow1
          have hba1 := (Below.refl w1.heap.size w1).alloc (Nat.le_refl _) (.cells #[.int .i64 er, .int .i64 at_] 25)
          have hw1 := hb1.trans (hba1.mono hb1.size)
          have hvv1 := hv1.below hba1
          have hbox1 := heap_alloc_new w1 (.cells #[.int .i64 er, .int .i64 at_] 25)
          have hlx1 : w1.heap.size < (w1.alloc (.cells #[.int .i64 er, .int .i64 at_] 25)).heap.size := by simp
          clear hrow1 hv1 hb1 hba1 hT
          go_wp2_with fail
          generalize w1.alloc (.cells #[.int .i64 er, .int .i64 at_] 25) = W1 at *
          refine (HTm _).mono ?_
          rintro e w2 ⟨v2, rfl, hrow2, hb2⟩
          obtain ⟨a2, c2, rfl, hv2⟩ := toks_own hrow2
          clear HTm
          by_cases h0 : er = 0
          · subst h0
            have hat := gs.1 rfl
            subst hat
            have hba2 := (Below.refl w2.heap.size w2).alloc (Nat.le_refl _) (.cells #[.int .i64 0, .int .i64 0] 25)
            have hw2 := (hw1.trans (hb2.mono hw1.size)).trans (hba2.mono (Nat.le_trans hw1.size hb2.size))
            have hvx := hv2.below hba2
            have hvl := (hvv1.below hb2).below hba2
            have hbx1 := (hba2.block _ (Nat.lt_of_lt_of_le hlx1 hb2.size)).trans ((hb2.block _ hlx1).trans hbox1)
            have hbx2 := heap_alloc_new w2 (.cells #[.int .i64 0, .int .i64 0] 25)
            have hlen := moved_len k l
            have HAL := alikeTokens_any (l.map (moveT k)) l l.length a2 a1 c2 c1 _ hlen rfl (by omega) hvx hvl (fun j hj => by rw [moved_nth k l j hj]; exact ⟨rfl, rfl⟩)
            simp only [if_true]
            rw [hlen]
            have q1 : (w2.alloc (.cells #[.int .i64 0, .int .i64 0] 25)).cell? ⟨w1.heap.size, 0, none⟩ = some (.int .i64 0) := by rw [Lib.cell_of_heap hbx1]; rfl
            have q2 : (w2.alloc (.cells #[.int .i64 0, .int .i64 0] 25)).cell? ⟨w2.heap.size, 0, none⟩ = some (.int .i64 0) := by rw [Lib.cell_of_heap hbx2]; rfl
            clear hrow2 hv2 hvv1 hb2 hba2 hw1 hbx1 hbx2 hbox1 hlx1
            go_wp2_with fail
            generalize w2.alloc (.cells #[.int .i64 0, .int .i64 0] 25) = W2 at *
            refine HAL.mono ?_
            rintro e w3 ⟨rfl, qd, rfl⟩
            have hw3 := bel_drewN hw2 qd
            have hvx3 := hvx.drew qd
            have hvl3 := hvl.drew qd
            have HTX := texts_any a2 l.length c2 (l.map (moveT k)) (W2.drewN qd) hlen (by omega) hvx3
            rw [moved_txt] at HTX
            clear HAL hvx hvl q1 q2 hw2
            generalize W2.drewN qd = W3 at *
            go_wp2_with fail
            refine HTX.mono ?_
            rintro e w4 ⟨v4, rfl, hrow4, hb4⟩
            obtain ⟨a4, c4, rfl, hv4⟩ := strs_own hrow4
            have hw4 := hw3.trans (hb4.mono hw3.size)
            have HTX2 := texts_any a1 l.length c1 l w4 rfl (by omega) (hvl3.below hb4)
            have hvx4 := hvx3.below hb4
            have hvl4 := hvl3.below hb4
            clear HTX hrow4 hvx3 hvl3 hw3 hb4
            go_wp2_with fail
            refine HTX2.mono ?_
            rintro e w5 ⟨v5, rfl, hrow5, hb5⟩
            obtain ⟨a5, c5, rfl, hv5⟩ := strs_own hrow5
            have hw5 := hw4.trans (hb5.mono hw4.size)
            have hvx5 := hvx4.below hb5
            have hvl5 := hvl4.below hb5
            have HKT := kitTexts_any (txtL l) _ a4 a5 c4 c5 w5 rfl (by simp [txtL]; omega) (hv4.below hb5) hv5
            clear HTX2 hrow5 hvx4 hvl4 hw4 hb5 hv4 hv5
            go_wp2_with fail
            refine HKT.mono ?_
            rintro e w6 ⟨rfl, qd6, rfl⟩
            have hw6 := bel_drewN hw5 qd6
            have hvx6 := hvx5.drew qd6
            have hvl6 := hvl5.drew qd6
            clear HKT hvx5 hvl5 hw5
            generalize w5.drewN qd6 = W6 at *
            go_wp2_with fail
            go_loopw [13] (fun i wr => ∃ j q : Nat, j ≤ l.length ∧ i = .int .i64 j ∧ wr = W6.drewN q) (fun i _ => l.length - (intOf i).toNat)
            case atStart => exact ⟨0, 0, Nat.zero_le _, rfl, rfl⟩
            case round =>
              obtain ⟨j, qj, hj, rfl, rfl⟩ := hrel
              by_cases hjl : j < l.length
              · obtain ⟨b, off, rfl, _, x0, x1, x2⟩ := hvx6 j (by rw [hlen]; exact hjl)
                obtain ⟨b', off', rfl, _, y0, y1, y2⟩ := hvl6 j hjl
                rw [moved_nth k l j hjl] at x2
                simp only [moveT] at x2
                have hz := g4 (nthT l j) (by rw [nthT_lt l j hjl]; exact List.getElem_mem hjl)
                have z1 := hz.2.2.2.1
                have z2 := hz.2.2.2.2
                have hji : (j : Int) < (l.length : Int) := by omega
                have hj0 : (0 : Int) ≤ (j : Int) := by omega
                generalize (nthT l j).2.2 = zz at *
                clear hvx6 hvl6 x0 x1 y0 y1 g4 gs hz hT3
                go_wp2_with fail
                go_quiet (fail)
                go_wp2_with fail
                go_roundw
                case rel => exact ⟨j + 1, _, by omega, by go_num, rfl⟩
                case measure => simp [intOf]; omega
              · obtain rfl : j = l.length := by omega
                have HN := HNOTE.out trivial
                rw [HN] at hT3
                have hw7 := bel_drewN hw6 qj
                have hvl7 := hvl6.drew qj
                clear hvx6 hvl6 hw6 HNOTE HN g4 gs
                generalize W6.drewN qj = W7 at *
                go_wp2_with fail
                refine (hT3 _).mono ?_
                rintro e w8 ⟨v8, rfl, hrow8, hb8⟩
                obtain ⟨a8, c8, rfl, hv8⟩ := toks_own hrow8
                have hba8 := (Below.refl w8.heap.size w8).alloc (Nat.le_refl _) (.cells #[.int .i64 0, .int .i64 0] 25)
                have hw8 := (hw7.trans (hb8.mono hw7.size)).trans (hba8.mono (Nat.le_trans hw7.size hb8.size))
                have hvy := hv8.below hba8
                have hvl8 := (hvl7.below hb8).below hba8
                have hbx8 := heap_alloc_new w8 (.cells #[.int .i64 0, .int .i64 0] 25)
                have q8 : (w8.alloc (.cells #[.int .i64 0, .int .i64 0] 25)).cell? ⟨w8.heap.size, 0, none⟩ = some (.int .i64 0) := by rw [Lib.cell_of_heap hbx8]; rfl
                have HSM := sameTokens_any l l.length a8 a1 c8 c1 _ rfl (by omega) hvy hvl8
                clear hT3 hrow8 hv8 hb8 hba8 hvl7 hw7 hbx8
                go_wp2_with fail
                generalize w8.alloc (.cells #[.int .i64 0, .int .i64 0] 25) = W8 at *
                refine HSM.mono ?_
                rintro e w9 ⟨rfl, q9, rfl⟩
                have hw9 := bel_drewN hw8 q9
                clear HSM hvy hvl8 hw8 q8
                go_wp2_with fail
                refine (hA _).mono ?_
                rintro e w10 ⟨rfl, hb10⟩
                go_wp2_with fail
                go_ret
                exact ⟨rfl, hw9.trans (hb10.mono hw9.size)⟩
          · have hl : l = [] := gs.2 h0
            subst hl
            obtain ⟨e1, e2, e3⟩ := g5.resolve_left h0
            have hne : (er == 0) = false := by simpa using h0
            rw [if_neg h0]
            have hba2 := (Below.refl w2.heap.size w2).alloc (Nat.le_refl _) (.cells #[.int .i64 er, .int .i64 (at_ + (k : Int))] 25)
            have hw2 := (hw1.trans (hb2.mono hw1.size)).trans (hba2.mono (Nat.le_trans hw1.size hb2.size))
            have hbx1 := (hba2.block _ (Nat.lt_of_lt_of_le hlx1 hb2.size)).trans ((hb2.block _ hlx1).trans hbox1)
            have hbx2 := heap_alloc_new w2 (.cells #[.int .i64 er, .int .i64 (at_ + (k : Int))] 25)
            have q1 : (w2.alloc (.cells #[.int .i64 er, .int .i64 (at_ + (k : Int))] 25)).cell? ⟨w1.heap.size, 0, none⟩ = some (.int .i64 er) := by rw [Lib.cell_of_heap hbx1]; rfl
            have q2 : (w2.alloc (.cells #[.int .i64 er, .int .i64 (at_ + (k : Int))] 25)).cell? ⟨w1.heap.size, 1, none⟩ = some (.int .i64 at_) := by rw [Lib.cell_of_heap hbx1]; rfl
            have q3 : (w2.alloc (.cells #[.int .i64 er, .int .i64 (at_ + (k : Int))] 25)).cell? ⟨w2.heap.size, 0, none⟩ = some (.int .i64 er) := by rw [Lib.cell_of_heap hbx2]; rfl
            have q4 : (w2.alloc (.cells #[.int .i64 er, .int .i64 (at_ + (k : Int))] 25)).cell? ⟨w2.heap.size, 1, none⟩ = some (.int .i64 (at_ + (k : Int))) := by rw [Lib.cell_of_heap hbx2]; rfl
            simp only [List.length_nil, List.map_nil]
            clear hrow2 hv2 hvv1 hb2 hba2 hw1 hbx1 hbx2 hbox1 hlx1 hT3 g1 g2 g3 g4 g5 gs h0 HNOTE e1
            go_wp2_with fail
            generalize w2.alloc (.cells #[.int .i64 er, .int .i64 (at_ + (k : Int))] 25) = W2 at *
            refine (hA _).mono ?_
            rintro e w3 ⟨rfl, hb3⟩
            go_wp2_with fail
            go_ret
            exact ⟨rfl, hw2.trans (hb3.mono hw2.size)⟩
    · obtain ⟨m, rfl⟩ := Int.eq_ofNat_of_zero_le (show 0 ≤ bl by omega)
      have hm : m ≤ 40 := by omega
      have d1 : ¬ (m : Int) < 0 := by omega
      have d2 : ¬ (40 : Int) < (m : Int) := by omega
      clear hc1 hc2
      go_enter Try.func5, Try.ntmps5
      go_wp2_with fail
      go_loop [7, 8] (fun v i => ∃ k : Nat, k ≤ m ∧ i = .int .i64 k ∧ v = .string (blkS k)) (fun _ i => m - (intOf i).toNat)
      case atStart => exact ⟨0, Nat.zero_le _, rfl, rfl⟩
      case round =>
        obtain ⟨k, hk, rfl, rfl⟩ := hrel
        have hbz := HBZ.out k
        by_cases hlt : k < m
        · have HBK := hid3 (HBS.out k)
          have hki : (k : Int) < (m : Int) := by omega
          clear hT HT2 hT3 gs g4
          generalize blkS k = bk at *
          go_wp2_with fail
          go_round
          case rel => exact ⟨k + 1, by omega, by go_num, by rw [← HBK.out]⟩
          case measure => simp [intOf]; omega
        · obtain rfl : k = m := by omega
          have HTm := HT2.out k hm
          clear HT2
          generalize blkS k = bk at *
          go_wp2_with fail
          refine (hT _).mono ?_
          rintro e w1 ⟨v1, rfl, hrow1, hb1⟩
          obtain ⟨a1, c1, rfl, hv1⟩ := toks_own hrow1
          have hba1 := (Below.refl w1.heap.size w1).alloc (Nat.le_refl _) (.cells #[.int .i64 er, .int .i64 at_] 25)
          have hw1 := hb1.trans (hba1.mono hb1.size)
          have hvv1 := hv1.below hba1
          have hbox1 := heap_alloc_new w1 (.cells #[.int .i64 er, .int .i64 at_] 25)
          have hlx1 : w1.heap.size < (w1.alloc (.cells #[.int .i64 er, .int .i64 at_] 25)).heap.size := by simp
          clear hrow1 hv1 hb1 hba1 hT
          go_wp2_with fail
          generalize w1.alloc (.cells #[.int .i64 er, .int .i64 at_] 25) = W1 at *
          refine (HTm _).mono ?_
          rintro e w2 ⟨v2, rfl, hrow2, hb2⟩
          obtain ⟨a2, c2, rfl, hv2⟩ := toks_own hrow2
          clear HTm
          by_cases h0 : er = 0
          · subst h0
            have hat := gs.1 rfl
            subst hat
            have hba2 := (Below.refl w2.heap.size w2).alloc (Nat.le_refl _) (.cells #[.int .i64 0, .int .i64 0] 25)
            have hw2 := (hw1.trans (hb2.mono hw1.size)).trans (hba2.mono (Nat.le_trans hw1.size hb2.size))
            have hvx := hv2.below hba2
            have hvl := (hvv1.below hb2).below hba2
            have hbx1 := (hba2.block _ (Nat.lt_of_lt_of_le hlx1 hb2.size)).trans ((hb2.block _ hlx1).trans hbox1)
            have hbx2 := heap_alloc_new w2 (.cells #[.int .i64 0, .int .i64 0] 25)
            have hlen := moved_len k l
            have HAL := alikeTokens_any (l.map (moveT k)) l l.length a2 a1 c2 c1 _ hlen rfl (by omega) hvx hvl (fun j hj => by rw [moved_nth k l j hj]; exact ⟨rfl, rfl⟩)
            simp only [if_true]
            rw [hlen]
            have q1 : (w2.alloc (.cells #[.int .i64 0, .int .i64 0] 25)).cell? ⟨w1.heap.size, 0, none⟩ = some (.int .i64 0) := by rw [Lib.cell_of_heap hbx1]; rfl
            have q2 : (w2.alloc (.cells #[.int .i64 0, .int .i64 0] 25)).cell? ⟨w2.heap.size, 0, none⟩ = some (.int .i64 0) := by rw [Lib.cell_of_heap hbx2]; rfl
            clear hrow2 hv2 hvv1 hb2 hba2 hw1 hbx1 hbx2 hbox1 hlx1
            go_wp2_with fail
            generalize w2.alloc (.cells #[.int .i64 0, .int .i64 0] 25) = W2 at *
            refine HAL.mono ?_
            rintro e w3 ⟨rfl, qd, rfl⟩
            have hw3 := bel_drewN hw2 qd
            have hvx3 := hvx.drew qd
            have hvl3 := hvl.drew qd
            have HTX := texts_any a2 l.length c2 (l.map (moveT k)) (W2.drewN qd) hlen (by omega) hvx3
            rw [moved_txt] at HTX
            clear HAL hvx hvl q1 q2 hw2
            generalize W2.drewN qd = W3 at *
            go_wp2_with fail
            refine HTX.mono ?_
            rintro e w4 ⟨v4, rfl, hrow4, hb4⟩
            obtain ⟨a4, c4, rfl, hv4⟩ := strs_own hrow4
            have hw4 := hw3.trans (hb4.mono hw3.size)
            have HTX2 := texts_any a1 l.length c1 l w4 rfl (by omega) (hvl3.below hb4)
            have hvx4 := hvx3.below hb4
            have hvl4 := hvl3.below hb4
            clear HTX hrow4 hvx3 hvl3 hw3 hb4
            go_wp2_with fail
            refine HTX2.mono ?_
            rintro e w5 ⟨v5, rfl, hrow5, hb5⟩
            obtain ⟨a5, c5, rfl, hv5⟩ := strs_own hrow5
            have hw5 := hw4.trans (hb5.mono hw4.size)
            have hvx5 := hvx4.below hb5
            have hvl5 := hvl4.below hb5
            have HKT := kitTexts_any (txtL l) _ a4 a5 c4 c5 w5 rfl (by simp [txtL]; omega) (hv4.below hb5) hv5
            clear HTX2 hrow5 hvx4 hvl4 hw4 hb5 hv4 hv5
            go_wp2_with fail
            refine HKT.mono ?_
            rintro e w6 ⟨rfl, qd6, rfl⟩
            have hw6 := bel_drewN hw5 qd6
            have hvx6 := hvx5.drew qd6
            have hvl6 := hvl5.drew qd6
            clear HKT hvx5 hvl5 hw5
            generalize w5.drewN qd6 = W6 at *
            go_wp2_with fail
            go_loopw [13] (fun i wr => ∃ j q : Nat, j ≤ l.length ∧ i = .int .i64 j ∧ wr = W6.drewN q) (fun i _ => l.length - (intOf i).toNat)
            case atStart => exact ⟨0, 0, Nat.zero_le _, rfl, rfl⟩
            case round =>
              obtain ⟨j, qj, hj, rfl, rfl⟩ := hrel
              by_cases hjl : j < l.length
              · obtain ⟨b, off, rfl, _, x0, x1, x2⟩ := hvx6 j (by rw [hlen]; exact hjl)
                obtain ⟨b', off', rfl, _, y0, y1, y2⟩ := hvl6 j hjl
                rw [moved_nth k l j hjl] at x2
                simp only [moveT] at x2
                have hz := g4 (nthT l j) (by rw [nthT_lt l j hjl]; exact List.getElem_mem hjl)
                have z1 := hz.2.2.2.1
                have z2 := hz.2.2.2.2
                have hji : (j : Int) < (l.length : Int) := by omega
                have hj0 : (0 : Int) ≤ (j : Int) := by omega
                generalize (nthT l j).2.2 = zz at *
                clear hvx6 hvl6 x0 x1 y0 y1 g4 gs hz hT3
                go_wp2_with fail
                go_quiet (fail)
                go_wp2_with fail
                go_roundw
                case rel => exact ⟨j + 1, _, by omega, by go_num, rfl⟩
                case measure => simp [intOf]; omega
              · obtain rfl : j = l.length := by omega
                have HN := HNOTE.out trivial
                rw [HN] at hT3
                have hw7 := bel_drewN hw6 qj
                have hvl7 := hvl6.drew qj
                clear hvx6 hvl6 hw6 HNOTE HN g4 gs
                generalize W6.drewN qj = W7 at *
                go_wp2_with fail
                refine (hT3 _).mono ?_
                rintro e w8 ⟨v8, rfl, hrow8, hb8⟩
                obtain ⟨a8, c8, rfl, hv8⟩ := toks_own hrow8
                have hba8 := (Below.refl w8.heap.size w8).alloc (Nat.le_refl _) (.cells #[.int .i64 0, .int .i64 0] 25)
                have hw8 := (hw7.trans (hb8.mono hw7.size)).trans (hba8.mono (Nat.le_trans hw7.size hb8.size))
                have hvy := hv8.below hba8
                have hvl8 := (hvl7.below hb8).below hba8
                have hbx8 := heap_alloc_new w8 (.cells #[.int .i64 0, .int .i64 0] 25)
                have q8 : (w8.alloc (.cells #[.int .i64 0, .int .i64 0] 25)).cell? ⟨w8.heap.size, 0, none⟩ = some (.int .i64 0) := by rw [Lib.cell_of_heap hbx8]; rfl
                have HSM := sameTokens_any l l.length a8 a1 c8 c1 _ rfl (by omega) hvy hvl8
                clear hT3 hrow8 hv8 hb8 hba8 hvl7 hw7 hbx8
                go_wp2_with fail
                generalize w8.alloc (.cells #[.int .i64 0, .int .i64 0] 25) = W8 at *
                refine HSM.mono ?_
                rintro e w9 ⟨rfl, q9, rfl⟩
                have hw9 := bel_drewN hw8 q9
                clear HSM hvy hvl8 hw8 q8
                go_wp2_with fail
                refine (hA _).mono ?_
                rintro e w10 ⟨rfl, hb10⟩
                go_wp2_with fail
                go_ret
                exact ⟨rfl, hw9.trans (hb10.mono hw9.size)⟩
          · have hl : l = [] := gs.2 h0
            subst hl
            obtain ⟨e1, e2, e3⟩ := g5.resolve_left h0
            have hne : (er == 0) = false := by simpa using h0
            rw [if_neg h0]
            have hba2 := (Below.refl w2.heap.size w2).alloc (Nat.le_refl _) (.cells #[.int .i64 er, .int .i64 (at_ + (k : Int))] 25)
            have hw2 := (hw1.trans (hb2.mono hw1.size)).trans (hba2.mono (Nat.le_trans hw1.size hb2.size))
            have hbx1 := (hba2.block _ (Nat.lt_of_lt_of_le hlx1 hb2.size)).trans ((hb2.block _ hlx1).trans hbox1)
            have hbx2 := heap_alloc_new w2 (.cells #[.int .i64 er, .int .i64 (at_ + (k : Int))] 25)
            have q1 : (w2.alloc (.cells #[.int .i64 er, .int .i64 (at_ + (k : Int))] 25)).cell? ⟨w1.heap.size, 0, none⟩ = some (.int .i64 er) := by rw [Lib.cell_of_heap hbx1]; rfl
            have q2 : (w2.alloc (.cells #[.int .i64 er, .int .i64 (at_ + (k : Int))] 25)).cell? ⟨w1.heap.size, 1, none⟩ = some (.int .i64 at_) := by rw [Lib.cell_of_heap hbx1]; rfl
            have q3 : (w2.alloc (.cells #[.int .i64 er, .int .i64 (at_ + (k : Int))] 25)).cell? ⟨w2.heap.size, 0, none⟩ = some (.int .i64 er) := by rw [Lib.cell_of_heap hbx2]; rfl
            have q4 : (w2.alloc (.cells #[.int .i64 er, .int .i64 (at_ + (k : Int))] 25)).cell? ⟨w2.heap.size, 1, none⟩ = some (.int .i64 (at_ + (k : Int))) := by rw [Lib.cell_of_heap hbx2]; rfl
            simp only [List.length_nil, List.map_nil]
            clear hrow2 hv2 hvv1 hb2 hba2 hw1 hbx1 hbx2 hbox1 hlx1 hT3 g1 g2 g3 g4 g5 gs h0 HNOTE e1
            go_wp2_with fail
            generalize w2.alloc (.cells #[.int .i64 er, .int .i64 (at_ + (k : Int))] 25) = W2 at *
            refine (hA _).mono ?_
            rintro e w3 ⟨rfl, hb3⟩
            go_wp2_with fail
            go_ret
            exact ⟨rfl, hw2.trans (hb3.mono hw2.size)⟩

end Go.Proofs.Ytccllonkhklldab
