/-
  Texts laid together in one: Ref05Check, LayoutCut, LayoutReads, LayoutParts.
-/
import Derived.WalkSpells
import Derived.WalkMore
import Derived.BigRegion
import Derived.Test.YtcckepjpehjijaaProg
import Derived.Test.YtcckepjpehjijaaB16
import Derived.Test.YtcckepjpehjijaaB18
import Derived.Test.YtcckepjpehjijaaB19
import Derived.Deep.RegionWith
import Derived.Deep.MidRow
import Derived.Test.YtcckepjpehjijaaB17
import Derived.Test.YtcckepjpehjijaaB08
/-
  The document's Check of a module's order.
-/
namespace Go.Proofs.Ytcckepjpehjijaa
open Go.RowKit
set_option linter.unusedVariables false
set_option linter.unusedSimpArgs false
set_option maxRecDepth 10000

/-- Where a variable or a phi stands, a label stands ahead. -/
theorem block_ahead {l : List InstT} : ∀ {m : Nat}, okTo l m → aheadO l m = 248 ∨ aheadO l m = 245 ∨ aheadO l m = 59 → (nthI l (blockAt l (m - 1))).1 = 248 ∧ 1 ≤ blockAt l (m - 1)
  | 0, _, ha => by unfold aheadO at ha; simp at ha
  | m + 1, hok, ha => by
    have hne : aheadO l (m + 1) ≠ 0 := by omega
    obtain ⟨_, hop⟩ := ahead_at hne
    rw [Nat.add_sub_cancel] at hop ⊢
    have h8 : partI (nthI l m) = 8 := by
      unfold aheadO at hne
      split at hne
      · next h => have := h.2; rw [Nat.add_sub_cancel] at this; exact this
      · exact absurd rfl hne
    have hmay := hok m (by omega)
    have hparts : ∀ i, i < m → partI (nthI l i) ≤ 8 := fun i _ => (partI_eight _).2
    have hmo : modelsN l m ≠ 0 := fun e => by rw [mayL_noModel (by omega) e] at hmay; cases hmay
    have hm1 : 1 ≤ m := by
      rcases Nat.eq_zero_or_pos m with e | e
      · subst e; exact absurd rfl hmo
      · exact e
    rw [mayL_eight h8 hparts hmo] at hmay
    by_cases h248 : (nthI l m).1 = 248
    · rw [(firstB_label hm1 h248).2]; exact ⟨h248, hm1⟩
    · have hb := (firstB_other hm1 h248).2
      rw [hb]
      refine block_ahead (m := m) (fun i hi => hok i (by omega)) ?_
      rw [hop] at h248
      rcases ha with ha | ha | ha
      · exact absurd ha h248
      · rw [hop, ha] at hmay
        unfold mayF at hmay
        simp at hmay
        rcases hmay.2.1 with h | h
        · exact .inl h
        · exact .inr (.inl h)
      · rw [hop, ha] at hmay
        unfold mayF at hmay
        simp at hmay
        rcases hmay.2.1 with h | h
        · exact .inl h
        · exact .inr (.inr h)

theorem refMay_any (l : List InstT) (a : Option Addr) (n c m : Nat) (w : World) (hv : InstsV w a l) (hl : l.length = n) (hn : n ≤ 140737488351232) (hvar : VarsOk l) (hm : m < n) (hok : okTo l m) :
    Calls Try.prog 29 #[.slice a n c, .int .i64 m] w fun e w' => e = .returned (.bool (mayL l m)) ∧ Below w.heap.size w w' := by
  by_cases h8 : partI (nthI l m) < 8
  · refine refMay_low l a n c m w hv hl hn hvar hm _ rfl h8 _ ?_
    unfold mayL
    rw [show decide (partI (nthI l m) < 8) = true by simpa using h8, Bool.true_or, Bool.and_true]
  · refine refMay_high l a n c m w hv hl hn hvar hm _ rfl (by omega) (block_ahead hok) _ ?_
    unfold mayL
    rw [show decide (partI (nthI l m) < 8) = false by simpa using h8, Bool.false_or, if_neg (by omega), show decide (1 < partI (nthI l m)) = true by simp; omega, Bool.true_and, Bool.and_assoc]

set_option maxHeartbeats 8000000 in
theorem refCheck5_any (gen bnd : Int) (a : Option Addr) (n c : Nat) (l : List InstT) (w : World) (hv : InstsV w a l) (hok : InstsOk l) (hl : l.length = n) (hn : 40 * n ≤ 140737488351232) (b0 : 0 ≤ bnd) (b1 : bnd < 4294967296) :
    Calls Try.prog 18 #[modV gen bnd a n c] w fun e w' => e = .returned (.agg #[.int .i64 (layE bnd l).1, .int .i64 ((layE bnd l).2 : Int)]) ∧ Below w.heap.size w w' := by
  have hb0 : Below w.heap.size w ((w.alloc (.cells #[.int .u32 gen, .int .u32 bnd, .slice a n c] 25)).alloc (.cells #[.int .i64 0, .int .i64 0] 29)) := ((Below.refl _ w).alloc (Nat.le_refl _) _).alloc (by simp) _
  have hSh := refShape4_any gen bnd a n c l _ (hv.below hb0) hok hl hn b0 b1
  have HSF : Hid (∀ E P, shapeE bnd l = (E, P) → (E ≠ 0 → layE bnd l = (E, P)) ∧ (E = 0 → layE bnd l = layF l l.length 0 ∧ l.length ≤ 1048576 ∧ VarsOk l)) := fun E P he => by
    refine ⟨fun h => ?_, fun h => ⟨?_, ?_, ?_⟩⟩
    · unfold layE; rw [he, if_pos h]
    · unfold layE; rw [he, if_neg (by simpa using h)]
    · exact (shape_few (b := bnd) (l := l) (by rw [he]; exact h)).1
    · intro k hk h59
      exact var_args (b := bnd) (shape_each (by rw [he]; exact h) k hk) h59
  generalize hE : shapeE bnd l = E at *
  obtain ⟨E, P⟩ := E
  have HSFE := hide (HSF.out E P rfl)
  obtain ⟨L, hLL⟩ : ∃ L, L = layE bnd l := ⟨_, rfl⟩
  have HLL := hide hLL
  rw [← hLL]
  have HMB : Hid (((w.alloc (.cells #[.int .u32 gen, .int .u32 bnd, .slice a n c] 25)).alloc (.cells #[.int .i64 0, .int .i64 0] 29)).heap[w.heap.size]? = some (.cells #[.int .u32 gen, .int .u32 bnd, .slice a n c] 25 (0, 0))) := by
    show _ = _
    rw [Below.heap_alloc _ _ _ (by simp)]; exact heap_alloc_new w _
  have HSB : Hid (((w.alloc (.cells #[.int .u32 gen, .int .u32 bnd, .slice a n c] 25)).alloc (.cells #[.int .i64 0, .int .i64 0] 29)).heap[w.heap.size + 1]? = some (.cells #[.int .i64 0, .int .i64 0] 29 (0, 0))) := by
    have := heap_alloc_new (w.alloc (.cells #[.int .u32 gen, .int .u32 bnd, .slice a n c] 25)) (.cells #[.int .i64 0, .int .i64 0] 29)
    rw [World.size_alloc] at this
    exact this
  have HLT : Hid (w.heap.size + 1 < ((w.alloc (.cells #[.int .u32 gen, .int .u32 bnd, .slice a n c] 25)).alloc (.cells #[.int .i64 0, .int .i64 0] 29)).heap.size) := by show _ < _; simp
  have HB0 := hide hb0
  have HV := hide (hv.below hb0)
  have HL := hide hl
  have HRET : Hid (∀ (a' : Act) (Z : World), slot a'.tmps 2 = .pointer (some ⟨w.heap.size + 1, 0, none⟩) → a'.defers = [] → Z.heap[w.heap.size + 1]? = some (.cells #[.int .i64 L.1, .int .i64 (L.2 : Int)] 29 (0, 0)) → Below w.heap.size w Z → bodyPost Try.prog Try.f18 (fun e w' => e = .returned (.agg #[.int .i64 L.1, .int .i64 (L.2 : Int)]) ∧ Below w.heap.size w w') .ret a' Z) := by
    intro a' Z q2 q3 q4 q5
    have r6 := run_loadVar_mid (P := Try.prog) Z (w.heap.size + 1) 0 29 [.int .i64 L.1, .int .i64 (L.2 : Int)] _ (range_of_block q4) Try.underlying29 rfl (by kernel_rfl)
    refine bodyPost_ret (v := .agg #[.int .i64 L.1, .int .i64 (L.2 : Int)]) ?_ q3 ⟨rfl, q5⟩
    have hG2 : a'.tmps.getD 2 undef = .pointer (some ⟨w.heap.size + 1, 0, none⟩) := q2
    simp only [results, Try.results18, List.mapM_toArray, List.mapM_cons, List.mapM_nil, hG2, asAddr, Sem.run_bind, Sem.run_pure, Result.andThen_ok, bind_assoc, pure_bind, Sem.run_map, map_pure, r6]
    rfl
  unfold modV at *
  clear hb0 HSF hv hok hl hLL hE
  go_enter Try.func18, Try.ntmps18
  go_wp2_with fail
  generalize (w.alloc (.cells #[.int .u32 gen, .int .u32 bnd, .slice a n c] 25)).alloc (.cells #[.int .i64 0, .int .i64 0] 29) = W0 at *
  refine hSh.mono ?_
  rintro e w1 ⟨rfl, hb1⟩
  have kl := HLT.out
  have kw : W0.heap.size ≤ w1.heap.size := hb1.size
  have m2 := (hb1.cell (p := ⟨w.heap.size, 2, none⟩) (show w.heap.size < W0.heap.size by omega)).trans ((one_block HMB.out).1 2)
  have kr := (hb1.block (w.heap.size + 1) HLT.out).trans HSB.out
  obtain ⟨cr, fr⟩ := one_block kr
  have r0 := cr 0
  have r1 := cr 1
  have HB1 := hide hb1
  have hHl : w.heap.size < w1.heap.size := by omega
  have hHl1 : w.heap.size + 1 < w1.heap.size := by omega
  have FINE : Hid (∀ (X : World) (x y : Int), Below W0.heap.size W0 X → X.heap[w.heap.size + 1]? = some (.cells #[.int .i64 0, .int .i64 0] 29 (0, 0)) → ((X.setCell ⟨w.heap.size + 1, 0, none⟩ (.int .i64 x)).setCell ⟨w.heap.size + 1, 1, none⟩ (.int .i64 y)).heap[w.heap.size + 1]? = some (.cells #[.int .i64 x, .int .i64 y] 29 (0, 0)) ∧ Below w.heap.size w ((X.setCell ⟨w.heap.size + 1, 0, none⟩ (.int .i64 x)).setCell ⟨w.heap.size + 1, 1, none⟩ (.int .i64 y))) := fun X x y hX hk =>
    ⟨setCells_all (w := X) [.int .i64 x, .int .i64 y] hk rfl, below_grown (HB0.out.trans (hX.mono HB0.out.size)) (setCells_grown (w.heap.size + 1) [.int .i64 x, .int .i64 y] 0 X) (fun g e => by simp at e; omega)⟩
  clear hSh hb1 cr
  by_cases hE0 : E = 0
  · subst hE0
    obtain ⟨hLay, hlen, hvar⟩ := HSFE.out.2 rfl
    have HLAY := hide (HLL.out.trans hLay)
    have HVAR := hide hvar
    have hn1 : n ≤ 1048576 := by rw [← HL.out]; exact hlen
    have hb2 : Below W0.heap.size W0 (w1.alloc (.cells #[.int .i64 0, .int .i64 P] 29)) := HB1.out.alloc HB1.out.size _
    have HV1 := hide (HV.out.below hb2)
    have HB2 := hide hb2
    have HK2 : Hid ((w1.alloc (.cells #[.int .i64 0, .int .i64 P] 29)).heap[w.heap.size + 1]? = some (.cells #[.int .i64 0, .int .i64 0] 29 (0, 0))) := (Below.heap_alloc _ _ _ hHl1).trans kr
    have HS2 : Hid (w.heap.size + 1 < (w1.alloc (.cells #[.int .i64 0, .int .i64 P] 29)).heap.size) := by show _ < _; rw [World.size_alloc]; omega
    clear hLay hlen hvar HSFE HLL kr r0 r1 fr hb2 HB1 HV
    go_wp2_with fail
    clear m2
    generalize w1.alloc (.cells #[.int .i64 0, .int .i64 P] 29) = W1 at *
    have hls := HS2.out
    go_loopw [5, 6] (fun d i wr => ∃ k : Nat, k ≤ n ∧ i = .int .i64 k ∧ d = .int .i64 (modelsN l k) ∧ okTo l k ∧ Below W1.heap.size W1 wr) (fun _ i _ => n - (intOf i).toNat)
    case atStart => exact ⟨0, Nat.zero_le _, rfl, rfl, okTo_zero l, Below.refl _ _⟩
    case round =>
      obtain ⟨k, hk, rfl, rfl, hok, hbr⟩ := hrel
      have HOK := hide hok
      have HB := hide hbr
      have hml := modelsN_le l k
      have kr := (hbr.block (w.heap.size + 1) hls).trans HK2.out
      obtain ⟨cr, fr⟩ := one_block kr
      have r0 := cr 0
      have r1 := cr 1
      have HKR := hide kr
      have hlr : w.heap.size + 1 < wr.heap.size := Nat.lt_of_lt_of_le hls hbr.size
      clear cr kr hok
      by_cases hlt : k < n
      · have hk0 : (0 : Int) ≤ (k : Int) := by omega
        have hki : (k : Int) < (n : Int) := by omega
        have hM := refMay_any l a n c k wr (HV1.out.below hbr) HL.out (by omega) HVAR.out hlt HOK.out
        cases hmay : mayL l k with
        | false =>
          rw [hmay] at hM
          have HLE : Hid (L = (50, k)) := by
            refine HLAY.out.trans ?_
            rw [layF_wrong ⟨HOK.out, .inl ⟨by rw [HL.out]; exact hlt, hmay⟩⟩, if_neg (fun e => by have := partAt_nine e; rw [HL.out] at this; omega)]
          clear hmay hbr
          go_wp2_with fail
          refine hM.mono ?_
          rintro e w2 ⟨rfl, hb2⟩
          have kr2 := (hb2.block (w.heap.size + 1) hlr).trans HKR.out
          obtain ⟨cr2, fr2⟩ := one_block kr2
          have t0 := cr2 0
          have t1 := cr2 1
          have HKR2 := hide kr2
          have HBX := hide (HB2.out.trans ((HB.out.trans (hb2.mono HB.out.size)).mono HB2.out.size))
          clear hM hb2 cr2 kr2 r0 r1 fr
          go_wp2_with fail
          obtain ⟨f1, f2⟩ := FINE.out w2 50 k HBX.out HKR2.out
          exact HRET.out _ _ rfl rfl (by rw [HLE.out]; exact f1) f2
        | true =>
          rw [hmay] at hM
          have HOK2 := hide (HOK.out.snoc hmay)
          obtain ⟨g1, o1, aj, cj, nj, ha, hg1, p1, p2, p3, p4, p5, p6, p7⟩ := HV1.out.below hbr k (by rw [HL.out]; exact hlt)
          have hP := fun wy (hy : Below wr.heap.size wr wy) => refPart_any (nthI l k) aj nj cj wy (p6.below hy) p5 (fun e => by rw [← p5]; exact HVAR.out k (by rw [HL.out]; exact hlt) e)
          unfold instV at hP
          have HP := hide hP
          have hMn : Hid (modelsN l (k + 1) = modelsN l k + (if partI (nthI l k) = 1 then 1 else 0)) := rfl
          subst ha
          clear hmay hbr p5 p6 p7 hP
          generalize modelsN l k = d at *
          generalize partI (nthI l k) = q at *
          go_wp2_with fail
          refine hM.mono ?_
          rintro e w2 ⟨rfl, hb2⟩
          replace p1 := (hb2.cell (p := ⟨g1, o1 + k * 4, none⟩) hg1).trans p1
          replace p2 := (hb2.cell (p := ⟨g1, o1 + k * 4 + 1, none⟩) hg1).trans p2
          replace p3 := (hb2.cell (p := ⟨g1, o1 + k * 4 + 2, none⟩) hg1).trans p3
          replace p4 := (hb2.cell (p := ⟨g1, o1 + k * 4 + 3, none⟩) hg1).trans p4
          have hg2 : g1 < w2.heap.size := Nat.lt_of_lt_of_le hg1 hb2.size
          have hP2 := HP.out w2 hb2
          have HBX := hide (HB.out.trans (hb2.mono HB.out.size))
          clear hM hb2 r0 r1 fr HP hg1
          by_cases hq : q = 1
          · have hM2 := hide (show modelsN l (k + 1) = d + 1 by rw [hMn.out, if_pos hq])
            have hqq : (q == 1) = true := by simpa using hq
            clear hMn
            go_wp2_with fail
            refine hP2.mono ?_
            rintro e w3 ⟨rfl, hb3⟩
            have HB3 := hide (HBX.out.trans (hb3.mono HBX.out.size))
            clear hP2 p1 p2 p3 p4 hb3
            go_wp2_with fail
            go_roundw
            case rel => exact ⟨k + 1, by omega, by go_num, by rw [hM2.out]; go_num, HOK2.out, HB3.out⟩
            case measure => simp [intOf]; omega
          · have hM2 := hide (show modelsN l (k + 1) = d by rw [hMn.out, if_neg hq]; rfl)
            have hqq : (q == 1) = false := by simpa using hq
            clear hMn
            go_wp2_with fail
            refine hP2.mono ?_
            rintro e w3 ⟨rfl, hb3⟩
            have HB3 := hide (HBX.out.trans (hb3.mono HBX.out.size))
            clear hP2 p1 p2 p3 p4 hb3
            go_wp2_with fail
            go_roundw
            case rel => exact ⟨k + 1, by omega, by go_num, by rw [hM2.out], HOK2.out, HB3.out⟩
            case measure => simp [intOf]; omega
      · obtain rfl : k = n := by omega
        have hknl : l.length = k := HL.out
        have HEND : Hid (layF l l.length 0 = if openE l then (51, k) else (0, 0)) := by
          have e := layF_ok k 0 0 (by rw [Nat.zero_add]; exact HOK.out)
          rw [Nat.add_zero, Nat.zero_add] at e
          show _ = _
          rw [hknl, e]; rfl
        have HOE : Hid (openE l = (decide (modelsN l k = 0) || decide (aheadO l k ≠ 0 ∧ aheadO l k ≠ 56))) := by show _ = _; unfold openE; rw [hknl]
        have HBX := hide (HB2.out.trans (hbr.mono HB2.out.size))
        by_cases hd : modelsN l k = 0
        · have HLE : Hid (L = (51, k)) := by
            refine HLAY.out.trans (HEND.out.trans ?_)
            rw [HOE.out, hd]; rfl
          rw [hd]
          clear hbr hknl hd
          go_wp2_with fail
          obtain ⟨f1, f2⟩ := FINE.out wr 51 k HBX.out HKR.out
          exact HRET.out _ _ rfl rfl (by rw [HLE.out]; exact f1) f2
        · have hkp : 0 < k := by
            rcases Nat.eq_zero_or_pos k with e | e
            · subst e; exact absurd rfl hd
            · exact e
          have hdd : (((modelsN l k : Nat) : Int) == 0) = false := by simpa using hd
          have hk1 : (k : Int) - 1 = ((k - 1 : Nat) : Int) := by omega
          have hk2 : (0 : Int) ≤ ((k - 1 : Nat) : Int) := by omega
          have hk3 : ((k - 1 : Nat) : Int) < (k : Int) := by omega
          obtain ⟨g1, o1, aj, cj, nj, ha, hg1, p1, p2, p3, p4, p5, p6, p7⟩ := HV1.out.below hbr (k - 1) (by rw [HL.out]; omega)
          have hP := refPart_any (nthI l (k - 1)) aj nj cj wr p6 p5 (fun e => by rw [← p5]; exact HVAR.out (k - 1) (by rw [HL.out]; omega) e)
          unfold instV at hP
          have hAE : Hid (aheadO l k = if partI (nthI l (k - 1)) = 8 then (nthI l (k - 1)).1 else 0) := hide (by unfold aheadO; simp [hkp])
          have HOP : Hid (partI (nthI l (k - 1)) = 8 → (nthI l (k - 1)).1 ≠ 0) := fun h => op_ne_zero h
          have HD := hide hd
          subst ha
          clear hbr hknl hd p5 p6 p7
          generalize modelsN l k = d at *
          generalize partI (nthI l (k - 1)) = q at *
          generalize (nthI l (k - 1)) = z at *
          generalize aheadO l k = ah at *
          by_cases hq : q = 8
          · have hqq : (q == 8) = true := by simpa using hq
            obtain rfl : ah = z.1 := by rw [hAE.out, if_pos hq]
            have hz0 := HOP.out hq
            by_cases h56 : z.1 = 56
            · have HLE : Hid (L = (0, 0)) := by
                refine HLAY.out.trans (HEND.out.trans ?_)
                rw [HOE.out]; simp [HD.out, h56]
              rw [h56] at p1 hP
              go_wp2_with fail
              refine hP.mono ?_
              rintro e w2 ⟨rfl, hb2⟩
              replace p1 := (hb2.cell (p := ⟨g1, o1 + (k - 1) * 4, none⟩) hg1).trans p1
              have hg2 : g1 < w2.heap.size := Nat.lt_of_lt_of_le hg1 hb2.size
              have kr2 := (hb2.block (w.heap.size + 1) hlr).trans HKR.out
              obtain ⟨cr2, fr2⟩ := one_block kr2
              have t0 := cr2 0
              have t1 := cr2 1
              have HKR2 := hide kr2
              have HBY := hide (HBX.out.trans (hb2.mono HBX.out.size))
              clear hP hb2 cr2 kr2 r0 r1 fr p2 p3 p4
              go_wp2_with fail
              obtain ⟨f1, f2⟩ := FINE.out w2 0 0 HBY.out HKR2.out
              exact HRET.out _ _ rfl rfl (by rw [HLE.out]; exact f1) f2
            · have HLE : Hid (L = (51, k)) := by
                refine HLAY.out.trans (HEND.out.trans ?_)
                rw [HOE.out]; simp [hz0, h56]
              have h56' : (z.1 != 56) = true := by simpa using h56
              clear h56 hz0
              generalize z.1 = zo at *
              go_wp2_with fail
              refine hP.mono ?_
              rintro e w2 ⟨rfl, hb2⟩
              replace p1 := (hb2.cell (p := ⟨g1, o1 + (k - 1) * 4, none⟩) hg1).trans p1
              have hg2 : g1 < w2.heap.size := Nat.lt_of_lt_of_le hg1 hb2.size
              have kr2 := (hb2.block (w.heap.size + 1) hlr).trans HKR.out
              obtain ⟨cr2, fr2⟩ := one_block kr2
              have t0 := cr2 0
              have t1 := cr2 1
              have HKR2 := hide kr2
              have HBY := hide (HBX.out.trans (hb2.mono HBX.out.size))
              clear hP hb2 cr2 kr2 r0 r1 fr p2 p3 p4
              go_wp2_with fail
              obtain ⟨f1, f2⟩ := FINE.out w2 51 k HBY.out HKR2.out
              exact HRET.out _ _ rfl rfl (by rw [HLE.out]; exact f1) f2
          · have hqq : (q == 8) = false := by simpa using hq
            obtain rfl : ah = 0 := by rw [hAE.out, if_neg hq]
            have HLE : Hid (L = (0, 0)) := by
              refine HLAY.out.trans (HEND.out.trans ?_)
              rw [HOE.out]; simp [HD.out]
            go_wp2_with fail
            refine hP.mono ?_
            rintro e w2 ⟨rfl, hb2⟩
            have kr2 := (hb2.block (w.heap.size + 1) hlr).trans HKR.out
            obtain ⟨cr2, fr2⟩ := one_block kr2
            have t0 := cr2 0
            have t1 := cr2 1
            have HKR2 := hide kr2
            have HBY := hide (HBX.out.trans (hb2.mono HBX.out.size))
            clear hP hb2 cr2 kr2 r0 r1 fr p1 p2 p3 p4
            go_wp2_with fail
            obtain ⟨f1, f2⟩ := FINE.out w2 0 0 HBY.out HKR2.out
            exact HRET.out _ _ rfl rfl (by rw [HLE.out]; exact f1) f2
  · have hE1 : (E != 0) = true := by simpa using hE0
    have HLE : Hid (L = (E, P)) := HLL.out.trans (HSFE.out.1 hE0)
    have HKR := hide kr
    clear hE0
    go_wp2_with fail
    obtain ⟨f1, f2⟩ := FINE.out w1 E P HB1.out HKR.out
    refine HRET.out _ _ rfl rfl ?_ (f2.alloc f2.size _)
    rw [HLE.out]
    refine (Below.heap_alloc _ _ _ ?_).trans f1
    rw [World.size_setCell, World.size_setCell]; exact hHl1
end Go.Proofs.Ytcckepjpehjijaa

/-
  Cut of the package layout.
-/
namespace Go.Proofs.Ytcckepjpehjijaa
open Go.RowKit
set_option linter.unusedVariables false
set_option linter.unusedSimpArgs false
set_option maxRecDepth 10000

/-- What Cut answers. -/
def CutQ (w w' : World) (b : Int) (l : List InstT) (e : Ending) : Prop :=
  ∃ fv : Value, e = .returned (.tuple #[fv, .agg #[.int .i64 (layE b l).1, .int .i64 ((layE b l).2 : Int)]]) ∧ Below w.heap.size w w' ∧ ((layE b l).1 ≠ 0 ∧ fv = .slice none 0 0 ∨ (layE b l).1 = 0 ∧ FuncsAt w' w.heap.size fv (cutTo l l.length))

set_option maxHeartbeats 8000000 in
theorem layCut_any (gen bnd : Int) (a : Option Addr) (n c : Nat) (l : List InstT) (w : World) (hv : InstsV w a l) (hok : InstsOk l) (hl : l.length = n) (hn : 40 * n ≤ 140737488351232) (g0 : 0 ≤ gen) (g1 : gen < 4294967296) (b0 : 0 ≤ bnd) (b1 : bnd < 4294967296) :
    Calls Try.prog 8 #[modV gen bnd a n c] w fun e w' => CutQ w w' bnd l e := by
  have hb0 : Below w.heap.size w ((w.alloc (.cells #[.int .u32 gen, .int .u32 bnd, .slice a n c] 25)).alloc (.cells #[.int .i64 0, .int .i64 0] 29)) := ((Below.refl _ w).alloc (Nat.le_refl _) _).alloc (by simp) _
  have hC := walkOver_any gen bnd a n c l _ (hv.below hb0) hok hl hn g0 g1 b0 b1
  have HSB : Hid (((w.alloc (.cells #[.int .u32 gen, .int .u32 bnd, .slice a n c] 25)).alloc (.cells #[.int .i64 0, .int .i64 0] 29)).heap[w.heap.size + 1]? = some (.cells #[.int .i64 0, .int .i64 0] 29 (0, 0))) := by
    have := heap_alloc_new (w.alloc (.cells #[.int .u32 gen, .int .u32 bnd, .slice a n c] 25)) (.cells #[.int .i64 0, .int .i64 0] 29)
    rw [World.size_alloc] at this
    exact this
  have HLT : Hid (w.heap.size + 1 < ((w.alloc (.cells #[.int .u32 gen, .int .u32 bnd, .slice a n c] 25)).alloc (.cells #[.int .i64 0, .int .i64 0] 29)).heap.size) := by show _ < _; simp
  have HB0 := hide hb0
  unfold WalkQ at hC
  unfold CutQ
  generalize layE bnd l = L at *
  obtain ⟨e1, e2⟩ := L
  unfold modV at *
  clear hb0 hv hok hl
  go_enter Try.func8, Try.ntmps8
  go_wp2_with fail
  generalize (w.alloc (.cells #[.int .u32 gen, .int .u32 bnd, .slice a n c] 25)).alloc (.cells #[.int .i64 0, .int .i64 0] 29) = W0 at *
  refine hC.mono ?_
  rintro e w1 ⟨ins, fv, ps, k, pt, kd, rfl, hb1, hone, hfs⟩
  have HFS := hide hfs
  have HB1 := hide hb1
  clear hC hfs
  unfold walkV
  obtain ⟨k1, k2, k3, k4, k5, k6⟩ := kept_walk w W0 w1 HB0.out hb1 ins fv ps k pt kd 0 0
  have HK1 := hide k1
  have HK2 := hide k2
  have HK3 := hide k3
  have HK4 := hide k4
  have HK5 := hide k5
  have HK6 := hide k6
  have hw1 : W0.heap.size ≤ w1.heap.size := hb1.size
  clear k1 k2 k3 k4 k5 k6 hb1
  simp only
  go_wp2_with (with_reducible refine stopS 63 ?_)
  refine wpList_store_mid rfl 63 (.tmp 4) (.tmp 9) rfl w1.heap.size 0 #[ins, .int .i64 (ps 0), .int .i64 (ps 1), .int .i64 (ps 2), .int .i64 (ps 3), .int .i64 (ps 4), .int .i64 (ps 5), .int .i64 (ps 6), .int .i64 (ps 7), .int .i64 (ps 8), .int .i64 (ps 9), .int .i64 (ps 10), .int .i64 (ps 11), .int .i64 (ps 12), .int .i64 (ps 13), .int .i64 (ps 14), .int .i64 (ps 15), .int .i64 (ps 16), .int .i64 (ps 17), .int .i64 (ps 18), .int .i64 (ps 19), fv, .int .i64 k, .int .u8 pt, .int .u16 kd] rfl rfl HK1.out (by kernel_rfl) (by simp [hone.1, hone.2]; simp [Value.oneCell']) ?_
  simp only [Act.put]
  generalize ((w1.alloc (.cells #[.slice none 0 0, .int .i64 0, .int .i64 0, .int .i64 0, .int .i64 0, .int .i64 0, .int .i64 0, .int .i64 0, .int .i64 0, .int .i64 0, .int .i64 0, .int .i64 0, .int .i64 0, .int .i64 0, .int .i64 0, .int .i64 0, .int .i64 0, .int .i64 0, .int .i64 0, .int .i64 0, .int .i64 0, .slice none 0 0, .int .i64 0, .int .u8 0, .int .u16 0] 63)).alloc (.cells #[.int .i64 0, .int .i64 0] 29)).setCells w1.heap.size 0 [ins, .int .i64 (ps 0), .int .i64 (ps 1), .int .i64 (ps 2), .int .i64 (ps 3), .int .i64 (ps 4), .int .i64 (ps 5), .int .i64 (ps 6), .int .i64 (ps 7), .int .i64 (ps 8), .int .i64 (ps 9), .int .i64 (ps 10), .int .i64 (ps 11), .int .i64 (ps 12), .int .i64 (ps 13), .int .i64 (ps 14), .int .i64 (ps 15), .int .i64 (ps 16), .int .i64 (ps 17), .int .i64 (ps 18), .int .i64 (ps 19), fv, .int .i64 k, .int .u8 pt, .int .u16 kd] = X at *
  have hl0 := HLT.out
  have hlx := HK5.out
  have ht3 := there_of_block HK3.out 2 rfl
  refine wpList_store_mid rfl 29 (.tmp 5) (.tmp 10) rfl (w1.heap.size + 1) 0 #[.int .i64 e1, .int .i64 (e2 : Nat)] rfl rfl ht3 (by kernel_rfl) (by simp [Value.oneCell']) ?_
  simp only [Act.put]
  have hgx := setCells_grown (w1.heap.size + 1) [.int .i64 e1, .int .i64 (e2 : Nat)] 0 X
  have y21 := (one_block ((hgx.block _ (by omega) (by simp)).trans HK2.out)).1 21
  obtain ⟨cs, _⟩ := one_block (setCells_all [.int .i64 e1, .int .i64 (e2 : Nat)] HK3.out rfl)
  have s0 := cs 0
  have s1 := cs 1
  have HY3 := hide (below_grown HK4.out hgx (fun g e => by simp at e; omega))
  have HY4 : Hid (w1.heap.size + 1 < (X.setCells (w1.heap.size + 1) 0 [.int .i64 e1, .int .i64 (e2 : Nat)]).heap.size) := Nat.lt_of_lt_of_le hlx hgx.size
  have HG : Hid (w1.grownBy (X.setCells (w1.heap.size + 1) 0 [.int .i64 e1, .int .i64 (e2 : Nat)]) none) := ⟨hgx.os.trans HK6.out.os, hgx.tape.trans HK6.out.tape, hgx.output.trans HK6.out.output, Nat.le_trans HK6.out.size hgx.size, fun i hi hn => (hgx.block i (by omega) (by simp; omega)).trans (HK6.out.block i hi hn)⟩
  clear hgx ht3 HK1 HK2 HK3 HK4 HK5 HK6 hlx hone cs
  generalize X.setCells (w1.heap.size + 1) 0 [.int .i64 e1, .int .i64 (e2 : Nat)] = Y at *
  go_wp2_with fail
  have kr := (HY3.out.block (w.heap.size + 1) hl0).trans HSB.out
  obtain ⟨cr, fr⟩ := one_block kr
  have r0 := cr 0
  have r1 := cr 1
  have hly := HY4.out
  have ne1 : w1.heap.size + 1 ≠ w.heap.size + 1 := by omega
  have ne2 : w1.heap.size ≠ w.heap.size + 1 := by omega
  have hg2 := setCells_grown (w.heap.size + 1) [.int .i64 e1, .int .i64 (e2 : Nat)] 0 Y
  have HP2 := hide (setCells_all (w := Y) [.int .i64 e1, .int .i64 (e2 : Nat)] kr rfl)
  have HBF := hide (below_grown (HB0.out.trans (HY3.out.mono HB0.out.size)) hg2 (fun g e => by simp at e; omega))
  have HFN : Hid (e1 ≠ 0 ∧ fv = .slice none 0 0 ∨ e1 = 0 ∧ FuncsAt (Y.setCells (w.heap.size + 1) 0 [.int .i64 e1, .int .i64 (e2 : Nat)]).drew w.heap.size fv (cutTo l l.length)) := by
    rcases HFS.out with ⟨h1, h2, _⟩ | ⟨h1, _, h3⟩
    · exact .inl ⟨h1, h2⟩
    · refine .inr ⟨h1, ?_⟩
      have h4 := h3.kept HG.out (fun g e => by cases e)
      exact ((h4.kept hg2 (fun g e => by simp at e; omega)).below ((Below.refl _ _).drew)).lower HB0.out.size
  clear kr cr hg2
  go_region
  show Exit.then _ _ _ _ (Y.setCells (w.heap.size + 1) 0 [.int .i64 e1, .int .i64 (e2 : Nat)]).drew
  have HP3 : Hid ((Y.setCells (w.heap.size + 1) 0 [.int .i64 e1, .int .i64 (e2 : Nat)]).drew.heap[w.heap.size + 1]? = some (.cells #[.int .i64 e1, .int .i64 (e2 : Nat)] 29 (0, 0))) := HP2.out
  have HB3 : Hid (Below w.heap.size w (Y.setCells (w.heap.size + 1) 0 [.int .i64 e1, .int .i64 (e2 : Nat)]).drew) := HBF.out.drew
  clear y21 s0 s1 r0 r1 fr HP2 HBF HY3 HY4 HG
  generalize (Y.setCells (w.heap.size + 1) 0 [.int .i64 e1, .int .i64 (e2 : Nat)]).drew = Z at *
  rw [then_normalW]
  go_wp2_with fail
  have r6 := run_loadVar_mid (P := Try.prog) Z (w.heap.size + 1) 0 29 [.int .i64 e1, .int .i64 (e2 : Nat)] _ (range_of_block HP3.out) Try.underlying29 rfl (by kernel_rfl)
  refine bodyPost_ret (v := .tuple #[fv, .agg #[.int .i64 e1, .int .i64 (e2 : Nat)]]) ?_ rfl ⟨fv, rfl, HB3.out, HFN.out⟩
  simp only [results, Try.results8, List.mapM_toArray, List.mapM_cons, List.mapM_nil, asAddr, Sem.run_bind, Sem.run_pure, Result.andThen_ok, bind_assoc, pure_bind, Sem.run_map, map_pure, Array.getD_eq_getD_getElem?, List.getElem?_toArray, List.getElem?_cons_succ, List.getElem?_cons_zero, Option.getD_some, r6]
  rfl
end Go.Proofs.Ytcckepjpehjijaa

/-
  Functions read cell by cell.
-/
namespace Go.Proofs.Ytcckepjpehjijaa
open Go.RowKit
set_option linter.unusedVariables false
set_option linter.unusedSimpArgs false

def nthB (bs : List (Int × Int × Int)) (k : Nat) : Int × Int × Int := bs.getD k (0, 0, 0)
theorem own_len {w : World} {lo e size n : Nat} {v : Value} {xs : List Value} (h : w.ownsRow lo e size v n xs) : ∃ x c, v = .slice x n c := by
  obtain ⟨_, ⟨rfl, rfl⟩ | ⟨g, cap, cur, rfl, _⟩⟩ := h
  · exact ⟨none, 0, rfl⟩
  · exact ⟨_, _, rfl⟩
theorem cellsF_get (fs : List FuncT) (V : Bool → Nat → Value) : ∀ m j i, j < m → i < 5 → (cellsF fs V m)[j * 5 + i]? = (fC (nthF fs j) (V false j) (V true j))[i]?
  | 0, j, i, h, _ => absurd h (Nat.not_lt_zero j)
  | m + 1, j, i, h, hi => by
    by_cases e : j = m
    · subst e; exact cellsF_at fs V j i
    · rw [cellsF, List.getElem?_append_left (by rw [cellsF_len]; omega)]
      exact cellsF_get fs V m j i (by omega) hi
theorem bC_get : ∀ (bs : List (Int × Int × Int)) (k i : Nat), k < bs.length → i < 3 → (bs.flatMap bC)[k * 3 + i]? = (bC (nthB bs k))[i]?
  | [], k, i, h, _ => absurd h (Nat.not_lt_zero k)
  | b :: bs, 0, i, h, hi => by rw [List.flatMap_cons, List.getElem?_append_left (by show _ < 3; omega)]; simp [nthB]
  | b :: bs, k + 1, i, h, hi => by
    rw [List.flatMap_cons, List.getElem?_append_right (by show 3 ≤ _; omega)]
    have := bC_get bs k i (by simpa using h) hi
    rw [show (k + 1) * 3 + i - (bC b).length = k * 3 + i by show _ - 3 = _; omega, this]
    simp [nthB]
theorem FuncsAt.read {w : World} {lo : Nat} {fv : Value} {fs : List FuncT} (h : FuncsAt w lo fv fs) :
    ∃ x c, fv = .slice x fs.length c ∧ ∀ j, j < fs.length → ∃ F xp cp xq cq, x = some ⟨F, 0, none⟩ ∧ F < w.heap.size ∧
      w.cell? ⟨F, j * 5, none⟩ = some (.int .u32 (nthF fs j).1) ∧ w.cell? ⟨F, j * 5 + 1, none⟩ = some (.int .i64 (nthF fs j).2.1) ∧ w.cell? ⟨F, j * 5 + 2, none⟩ = some (.slice xp (nthF fs j).2.2.1.length cp) ∧ w.cell? ⟨F, j * 5 + 3, none⟩ = some (.slice xq (nthF fs j).2.2.2.1.length cq) ∧ w.cell? ⟨F, j * 5 + 4, none⟩ = some (.int .i64 (nthF fs j).2.2.2.2) ∧
      ∀ k, k < (nthF fs j).2.2.2.1.length → ∃ G, xq = some ⟨G, 0, none⟩ ∧ G < w.heap.size ∧ w.cell? ⟨G, k * 3, none⟩ = some (.int .u32 (nthB (nthF fs j).2.2.2.1 k).1) ∧ w.cell? ⟨G, k * 3 + 1, none⟩ = some (.int .i64 (nthB (nthF fs j).2.2.2.1 k).2.1) ∧ w.cell? ⟨G, k * 3 + 2, none⟩ = some (.int .i64 (nthB (nthF fs j).2.2.2.1 k).2.2) := by
  obtain ⟨V, hV⟩ := h
  have htop := hV.own none trivial
  obtain ⟨x, c, hx⟩ := own_len htop
  simp only [rowF] at hx
  refine ⟨x, c, hx, fun j hj => ?_⟩
  obtain ⟨F, c1, e, h1, h2, h3, h4, h5⟩ := own_form htop (show 0 < fs.length by omega)
  simp only [rowF] at e h5
  have hp := hV.own (some (false, j)) hj
  have hq := hV.own (some (true, j)) hj
  obtain ⟨xp, cp, hxp⟩ := own_len hp
  obtain ⟨xq, cq, hxq⟩ := own_len hq
  simp only [rowF] at hxp hxq
  have hc : ∀ i, i < 5 → w.cell? ⟨F, j * 5 + i, none⟩ = (fC (nthF fs j) (V false j) (V true j))[i]? := fun i hi => by
    rw [h5 _ (by have := hj; omega), cellsF_get fs V _ j i hj hi]
  rw [hxp, hxq] at hc
  rw [hx] at e
  injection e with e _ _
  refine ⟨F, xp, cp, xq, cq, e, h2, hc 0 (by omega), hc 1 (by omega), hc 2 (by omega), hc 3 (by omega), hc 4 (by omega), fun k hk => ?_⟩
  obtain ⟨G, c2, e2, k1, k2, k3, k4, k5⟩ := own_form hq (show 0 < _ by exact Nat.lt_of_le_of_lt (Nat.zero_le k) hk)
  simp only [rowF] at e2 k5
  rw [hxq] at e2
  injection e2 with e2 _ _
  have hc2 : ∀ i, i < 3 → w.cell? ⟨G, k * 3 + i, none⟩ = (bC (nthB (nthF fs j).2.2.2.1 k))[i]? := fun i hi => by
    rw [k5 _ (by have := hk; omega), bC_get _ k i hk hi]
  exact ⟨G, e2, k2, hc2 0 (by omega), hc2 1 (by omega), hc2 2 (by omega)⟩
end Go.Proofs.Ytcckepjpehjijaa

/-
  Parts of the package layout.
-/
namespace Go.Proofs.Ytcckepjpehjijaa
open Go.RowKit
set_option linter.unusedVariables false
set_option linter.unusedSimpArgs false
set_option maxRecDepth 10000

/-- The places of the parts, one behind the other. -/
def partsF (b : Int) (l : List InstT) (i : Nat) : Int := if (layE b l).1 ≠ 0 then 0 else cntP l ((i + 1) / 2) l.length
def partsV (f : Nat → Int) : Value := .agg #[.int .i64 (f 0), .int .i64 (f 1), .int .i64 (f 2), .int .i64 (f 3), .int .i64 (f 4), .int .i64 (f 5), .int .i64 (f 6), .int .i64 (f 7), .int .i64 (f 8), .int .i64 (f 9), .int .i64 (f 10), .int .i64 (f 11), .int .i64 (f 12), .int .i64 (f 13), .int .i64 (f 14), .int .i64 (f 15), .int .i64 (f 16), .int .i64 (f 17), .int .i64 (f 18), .int .i64 (f 19)]
theorem partsV_congr {f g : Nat → Int} (h : ∀ i, i < 20 → f i = g i) : partsV f = partsV g := by
  unfold partsV
  rw [h 0 (by omega), h 1 (by omega), h 2 (by omega), h 3 (by omega), h 4 (by omega), h 5 (by omega), h 6 (by omega), h 7 (by omega), h 8 (by omega), h 9 (by omega), h 10 (by omega), h 11 (by omega), h 12 (by omega), h 13 (by omega), h 14 (by omega), h 15 (by omega), h 16 (by omega), h 17 (by omega), h 18 (by omega), h 19 (by omega)]
theorem range_mid {w : World} {b t : Nat} {cs : List Value} {fr : Nat × Nat} (h : w.heap[b]? = some (.cells cs.toArray t fr)) (o n : Nat) : w.rangeAt b o ((cs.drop o).take n) := fun j v hv => by
  rw [List.getElem?_take] at hv
  split at hv
  · rw [List.getElem?_drop] at hv
    simp [World.cell?, h, hv]
  · cases hv
theorem yieldsC_load {P : Program} {ops : Array Oper} {C : World → Prop} {o : Oper} {a : Act} (hw : Region.wanted o (yielded ops a.tmps) = true) (ty : TypeId) (x : Operand) (ho : o.op = .load ty x)
    (b off : Nat) (hx : a.eval x = .pointer (some ⟨b, off, none⟩)) (cs : List Value) (d : TypeDesc) (hS : ∀ w, C w → w.rangeAt b off cs)
    (hu : P.underlying ty = some d) (hd : d.isRow = true) (hi : (P.info? ty).map (·.size) = some cs.length) : YieldsC P ops C o (.agg cs.toArray) a :=
  .inl ⟨hw, fun w hw' => by
    unfold execOp
    simp only [ho, hx, Instr.loadAt, Instr.sureAddr, Sem.run_bind, Sem.run_pure, Result.andThen_ok, run_loadVar_mid w b off ty cs d (hS w hw') hu hd hi]⟩

set_option maxHeartbeats 8000000 in
theorem layParts_any (gen bnd : Int) (a : Option Addr) (n c : Nat) (l : List InstT) (w : World) (hv : InstsV w a l) (hok : InstsOk l) (hl : l.length = n) (hn : 40 * n ≤ 140737488351232) (g0 : 0 ≤ gen) (g1 : gen < 4294967296) (b0 : 0 ≤ bnd) (b1 : bnd < 4294967296) :
    Calls Try.prog 14 #[modV gen bnd a n c] w fun e w' => e = .returned (.tuple #[partsV (partsF bnd l), .agg #[.int .i64 (layE bnd l).1, .int .i64 (layE bnd l).2]]) ∧ Below w.heap.size w w' := by
  have hb0 : Below w.heap.size w (((w.alloc (.cells #[.int .u32 gen, .int .u32 bnd, .slice a n c] 25)).alloc (.cells #[.int .i64 0, .int .i64 0, .int .i64 0, .int .i64 0, .int .i64 0, .int .i64 0, .int .i64 0, .int .i64 0, .int .i64 0, .int .i64 0, .int .i64 0, .int .i64 0, .int .i64 0, .int .i64 0, .int .i64 0, .int .i64 0, .int .i64 0, .int .i64 0, .int .i64 0, .int .i64 0] 48)).alloc (.cells #[.int .i64 0, .int .i64 0] 29)) := (((Below.refl _ w).alloc (Nat.le_refl _) _).alloc (by simp) _).alloc (by simp; omega) _
  have hC := walkOver_any gen bnd a n c l _ (hv.below hb0) hok hl hn g0 g1 b0 b1
  have HZB : Hid ((((w.alloc (.cells #[.int .u32 gen, .int .u32 bnd, .slice a n c] 25)).alloc (.cells #[.int .i64 0, .int .i64 0, .int .i64 0, .int .i64 0, .int .i64 0, .int .i64 0, .int .i64 0, .int .i64 0, .int .i64 0, .int .i64 0, .int .i64 0, .int .i64 0, .int .i64 0, .int .i64 0, .int .i64 0, .int .i64 0, .int .i64 0, .int .i64 0, .int .i64 0, .int .i64 0] 48)).alloc (.cells #[.int .i64 0, .int .i64 0] 29)).heap[w.heap.size + 1]? = some (.cells #[.int .i64 0, .int .i64 0, .int .i64 0, .int .i64 0, .int .i64 0, .int .i64 0, .int .i64 0, .int .i64 0, .int .i64 0, .int .i64 0, .int .i64 0, .int .i64 0, .int .i64 0, .int .i64 0, .int .i64 0, .int .i64 0, .int .i64 0, .int .i64 0, .int .i64 0, .int .i64 0] 48 (0, 0))) := by
    have := heap_alloc_new (w.alloc (.cells #[.int .u32 gen, .int .u32 bnd, .slice a n c] 25)) (.cells #[.int .i64 0, .int .i64 0, .int .i64 0, .int .i64 0, .int .i64 0, .int .i64 0, .int .i64 0, .int .i64 0, .int .i64 0, .int .i64 0, .int .i64 0, .int .i64 0, .int .i64 0, .int .i64 0, .int .i64 0, .int .i64 0, .int .i64 0, .int .i64 0, .int .i64 0, .int .i64 0] 48)
    rw [World.size_alloc] at this
    exact (Below.heap_alloc _ _ _ (by simp)).trans this
  have HSB : Hid ((((w.alloc (.cells #[.int .u32 gen, .int .u32 bnd, .slice a n c] 25)).alloc (.cells #[.int .i64 0, .int .i64 0, .int .i64 0, .int .i64 0, .int .i64 0, .int .i64 0, .int .i64 0, .int .i64 0, .int .i64 0, .int .i64 0, .int .i64 0, .int .i64 0, .int .i64 0, .int .i64 0, .int .i64 0, .int .i64 0, .int .i64 0, .int .i64 0, .int .i64 0, .int .i64 0] 48)).alloc (.cells #[.int .i64 0, .int .i64 0] 29)).heap[w.heap.size + 2]? = some (.cells #[.int .i64 0, .int .i64 0] 29 (0, 0))) := by
    have := heap_alloc_new ((w.alloc (.cells #[.int .u32 gen, .int .u32 bnd, .slice a n c] 25)).alloc (.cells #[.int .i64 0, .int .i64 0, .int .i64 0, .int .i64 0, .int .i64 0, .int .i64 0, .int .i64 0, .int .i64 0, .int .i64 0, .int .i64 0, .int .i64 0, .int .i64 0, .int .i64 0, .int .i64 0, .int .i64 0, .int .i64 0, .int .i64 0, .int .i64 0, .int .i64 0, .int .i64 0] 48)) (.cells #[.int .i64 0, .int .i64 0] 29)
    rw [World.size_alloc, World.size_alloc] at this
    exact this
  have HLT : Hid (w.heap.size + 2 < (((w.alloc (.cells #[.int .u32 gen, .int .u32 bnd, .slice a n c] 25)).alloc (.cells #[.int .i64 0, .int .i64 0, .int .i64 0, .int .i64 0, .int .i64 0, .int .i64 0, .int .i64 0, .int .i64 0, .int .i64 0, .int .i64 0, .int .i64 0, .int .i64 0, .int .i64 0, .int .i64 0, .int .i64 0, .int .i64 0, .int .i64 0, .int .i64 0, .int .i64 0, .int .i64 0] 48)).alloc (.cells #[.int .i64 0, .int .i64 0] 29)).heap.size) := by show _ < _; simp
  have HB0 := hide hb0
  unfold WalkQ at hC
  have HPF : Hid (∀ ps : Nat → Int, ((layE bnd l).1 ≠ 0 ∧ (∀ i, ps i = 0) ∨ (layE bnd l).1 = 0 ∧ SpansE l ps) → partsV ps = partsV (partsF bnd l)) := fun ps h => partsV_congr fun i hi => by
    unfold partsF
    rcases h with ⟨h1, h2⟩ | ⟨h1, h2⟩
    · rw [if_pos h1]; exact h2 i
    · rw [if_neg (by simpa using h1)]; exact h2 i hi
  have HQ : Hid (∀ e w', (∃ ps : Nat → Int, ((layE bnd l).1 ≠ 0 ∧ (∀ i, ps i = 0) ∨ (layE bnd l).1 = 0 ∧ SpansE l ps) ∧ e = .returned (.tuple #[partsV ps, .agg #[.int .i64 (layE bnd l).1, .int .i64 (layE bnd l).2]]) ∧ Below w.heap.size w w') → e = Ending.returned (.tuple #[partsV (partsF bnd l), .agg #[.int .i64 (layE bnd l).1, .int .i64 (layE bnd l).2]]) ∧ Below w.heap.size w w') := fun e w' ⟨ps, h1, h2, h3⟩ => ⟨by rw [h2, HPF.out ps h1], h3⟩
  have HRET : Hid (∀ (a' : Act) (Z : World) (ps : Nat → Int), slot a'.tmps 2 = .pointer (some ⟨w.heap.size + 1, 0, none⟩) → slot a'.tmps 3 = .pointer (some ⟨w.heap.size + 2, 0, none⟩) → a'.defers = [] → Z.heap[w.heap.size + 1]? = some (.cells #[.int .i64 (ps 0), .int .i64 (ps 1), .int .i64 (ps 2), .int .i64 (ps 3), .int .i64 (ps 4), .int .i64 (ps 5), .int .i64 (ps 6), .int .i64 (ps 7), .int .i64 (ps 8), .int .i64 (ps 9), .int .i64 (ps 10), .int .i64 (ps 11), .int .i64 (ps 12), .int .i64 (ps 13), .int .i64 (ps 14), .int .i64 (ps 15), .int .i64 (ps 16), .int .i64 (ps 17), .int .i64 (ps 18), .int .i64 (ps 19)] 48 (0, 0)) → Z.heap[w.heap.size + 2]? = some (.cells #[.int .i64 (layE bnd l).1, .int .i64 (layE bnd l).2] 29 (0, 0)) → Below w.heap.size w Z → ((layE bnd l).1 ≠ 0 ∧ (∀ i, ps i = 0) ∨ (layE bnd l).1 = 0 ∧ SpansE l ps) →
      bodyPost Try.prog Try.f14 (fun e w' => e = .returned (.tuple #[partsV (partsF bnd l), .agg #[.int .i64 (layE bnd l).1, .int .i64 (layE bnd l).2]]) ∧ Below w.heap.size w w') .ret a' Z) := by
    intro a' Z ps q2 q3 q4 q5 q6 q7 q8
    refine bodyPost_ret (v := .tuple #[partsV ps, .agg #[.int .i64 (layE bnd l).1, .int .i64 (layE bnd l).2]]) ?_ q4 (HQ.out _ _ ⟨ps, q8, rfl, q7⟩)
    have r5 := run_loadVar_mid (P := Try.prog) Z (w.heap.size + 1) 0 48 [.int .i64 (ps 0), .int .i64 (ps 1), .int .i64 (ps 2), .int .i64 (ps 3), .int .i64 (ps 4), .int .i64 (ps 5), .int .i64 (ps 6), .int .i64 (ps 7), .int .i64 (ps 8), .int .i64 (ps 9), .int .i64 (ps 10), .int .i64 (ps 11), .int .i64 (ps 12), .int .i64 (ps 13), .int .i64 (ps 14), .int .i64 (ps 15), .int .i64 (ps 16), .int .i64 (ps 17), .int .i64 (ps 18), .int .i64 (ps 19)] _ (range_of_block q5) Try.underlying48 rfl (by kernel_rfl)
    have r6 := run_loadVar_mid (P := Try.prog) Z (w.heap.size + 2) 0 29 [.int .i64 (layE bnd l).1, .int .i64 (layE bnd l).2] _ (range_of_block q6) Try.underlying29 rfl (by kernel_rfl)
    have hG2 : a'.tmps.getD 2 undef = .pointer (some ⟨w.heap.size + 1, 0, none⟩) := q2
    have hG3 : a'.tmps.getD 3 undef = .pointer (some ⟨w.heap.size + 2, 0, none⟩) := q3
    simp only [results, Try.results14, List.mapM_toArray, List.mapM_cons, List.mapM_nil, hG2, hG3, asAddr, Sem.run_bind, Sem.run_pure, Result.andThen_ok, bind_assoc, pure_bind, Sem.run_map, map_pure, r5, r6]
    rfl
  generalize partsF bnd l = PFF at *
  generalize layE bnd l = L at *
  obtain ⟨e1, e2⟩ := L
  unfold modV at *
  clear hb0 hv hok hl HPF HQ
  go_enter Try.func14, Try.ntmps14
  go_wp2_with fail
  generalize ((w.alloc (.cells #[.int .u32 gen, .int .u32 bnd, .slice a n c] 25)).alloc (.cells #[.int .i64 0, .int .i64 0, .int .i64 0, .int .i64 0, .int .i64 0, .int .i64 0, .int .i64 0, .int .i64 0, .int .i64 0, .int .i64 0, .int .i64 0, .int .i64 0, .int .i64 0, .int .i64 0, .int .i64 0, .int .i64 0, .int .i64 0, .int .i64 0, .int .i64 0, .int .i64 0] 48)).alloc (.cells #[.int .i64 0, .int .i64 0] 29) = W0 at *
  refine hC.mono ?_
  rintro e w1 ⟨ins, fv, ps, k, pt, kd, rfl, hb1, hone, hfs⟩
  have HFS : Hid (e1 ≠ 0 ∧ (∀ i, ps i = 0) ∨ e1 = 0 ∧ SpansE l ps) := by
    rcases hfs with ⟨h1, _, h2⟩ | ⟨h1, h2, _⟩
    · exact .inl ⟨h1, h2⟩
    · exact .inr ⟨h1, h2⟩
  clear hC hfs
  unfold walkV
  obtain ⟨k1, k2, k3, k4, k5, _⟩ := kept_walk w W0 w1 HB0.out hb1 ins fv ps k pt kd 0 0
  have HK1 := hide k1
  have HK2 := hide k2
  have HK3 := hide k3
  have HK4 := hide k4
  have HK5 := hide k5
  have hw1 : W0.heap.size ≤ w1.heap.size := hb1.size
  clear k1 k2 k3 k4 k5 hb1
  simp only
  go_wp2_with (with_reducible refine stopS 63 ?_)
  refine wpList_store_mid rfl 63 (.tmp 4) (.tmp 9) rfl w1.heap.size 0 #[ins, .int .i64 (ps 0), .int .i64 (ps 1), .int .i64 (ps 2), .int .i64 (ps 3), .int .i64 (ps 4), .int .i64 (ps 5), .int .i64 (ps 6), .int .i64 (ps 7), .int .i64 (ps 8), .int .i64 (ps 9), .int .i64 (ps 10), .int .i64 (ps 11), .int .i64 (ps 12), .int .i64 (ps 13), .int .i64 (ps 14), .int .i64 (ps 15), .int .i64 (ps 16), .int .i64 (ps 17), .int .i64 (ps 18), .int .i64 (ps 19), fv, .int .i64 k, .int .u8 pt, .int .u16 kd] rfl rfl HK1.out (by kernel_rfl) (by simp [hone.1, hone.2]; simp [Value.oneCell']) ?_
  simp only [Act.put]
  generalize ((w1.alloc (.cells #[.slice none 0 0, .int .i64 0, .int .i64 0, .int .i64 0, .int .i64 0, .int .i64 0, .int .i64 0, .int .i64 0, .int .i64 0, .int .i64 0, .int .i64 0, .int .i64 0, .int .i64 0, .int .i64 0, .int .i64 0, .int .i64 0, .int .i64 0, .int .i64 0, .int .i64 0, .int .i64 0, .int .i64 0, .slice none 0 0, .int .i64 0, .int .u8 0, .int .u16 0] 63)).alloc (.cells #[.int .i64 0, .int .i64 0] 29)).setCells w1.heap.size 0 [ins, .int .i64 (ps 0), .int .i64 (ps 1), .int .i64 (ps 2), .int .i64 (ps 3), .int .i64 (ps 4), .int .i64 (ps 5), .int .i64 (ps 6), .int .i64 (ps 7), .int .i64 (ps 8), .int .i64 (ps 9), .int .i64 (ps 10), .int .i64 (ps 11), .int .i64 (ps 12), .int .i64 (ps 13), .int .i64 (ps 14), .int .i64 (ps 15), .int .i64 (ps 16), .int .i64 (ps 17), .int .i64 (ps 18), .int .i64 (ps 19), fv, .int .i64 k, .int .u8 pt, .int .u16 kd] = X at *
  have hl0 := HLT.out
  have hlx := HK5.out
  have ht3 := there_of_block HK3.out 2 rfl
  refine wpList_store_mid rfl 29 (.tmp 5) (.tmp 10) rfl (w1.heap.size + 1) 0 #[.int .i64 e1, .int .i64 e2] rfl rfl ht3 (by kernel_rfl) (by simp [Value.oneCell']) ?_
  simp only [Act.put]
  have hgx := setCells_grown (w1.heap.size + 1) [.int .i64 e1, .int .i64 e2] 0 X
  have HY1 : Hid ((X.setCells (w1.heap.size + 1) 0 [.int .i64 e1, .int .i64 e2]).heap[w1.heap.size]? = some (.cells #[ins, .int .i64 (ps 0), .int .i64 (ps 1), .int .i64 (ps 2), .int .i64 (ps 3), .int .i64 (ps 4), .int .i64 (ps 5), .int .i64 (ps 6), .int .i64 (ps 7), .int .i64 (ps 8), .int .i64 (ps 9), .int .i64 (ps 10), .int .i64 (ps 11), .int .i64 (ps 12), .int .i64 (ps 13), .int .i64 (ps 14), .int .i64 (ps 15), .int .i64 (ps 16), .int .i64 (ps 17), .int .i64 (ps 18), .int .i64 (ps 19), fv, .int .i64 k, .int .u8 pt, .int .u16 kd] 63 (0, 0))) := (hgx.block _ (by omega) (by simp)).trans HK2.out
  have HY2 := hide (setCells_all [.int .i64 e1, .int .i64 e2] HK3.out rfl)
  have HY3 := hide (below_grown HK4.out hgx (fun g e => by simp at e; omega))
  have HY4 : Hid (w1.heap.size + 1 < (X.setCells (w1.heap.size + 1) 0 [.int .i64 e1, .int .i64 e2]).heap.size) := Nat.lt_of_lt_of_le hlx hgx.size
  clear hgx ht3 HK1 HK2 HK3 HK4 HK5 hlx hone
  generalize X.setCells (w1.heap.size + 1) 0 [.int .i64 e1, .int .i64 e2] = Y at *
  go_wp2_with fail
  have kz := (HY3.out.block (w.heap.size + 1) (by omega)).trans HZB.out
  have ks := (HY3.out.block (w.heap.size + 2) (by omega)).trans HSB.out
  have hsz : w.heap.size + 2 < Y.heap.size := by have := HY3.out.size; omega
  have hly := HY4.out
  have hgy1 := setCells_grown (w.heap.size + 1) [.int .i64 (ps 0), .int .i64 (ps 1), .int .i64 (ps 2), .int .i64 (ps 3), .int .i64 (ps 4), .int .i64 (ps 5), .int .i64 (ps 6), .int .i64 (ps 7), .int .i64 (ps 8), .int .i64 (ps 9), .int .i64 (ps 10), .int .i64 (ps 11), .int .i64 (ps 12), .int .i64 (ps 13), .int .i64 (ps 14), .int .i64 (ps 15), .int .i64 (ps 16), .int .i64 (ps 17), .int .i64 (ps 18), .int .i64 (ps 19)] 0 Y.drew
  have hp1 := setCells_all (w := Y.drew) [.int .i64 (ps 0), .int .i64 (ps 1), .int .i64 (ps 2), .int .i64 (ps 3), .int .i64 (ps 4), .int .i64 (ps 5), .int .i64 (ps 6), .int .i64 (ps 7), .int .i64 (ps 8), .int .i64 (ps 9), .int .i64 (ps 10), .int .i64 (ps 11), .int .i64 (ps 12), .int .i64 (ps 13), .int .i64 (ps 14), .int .i64 (ps 15), .int .i64 (ps 16), .int .i64 (ps 17), .int .i64 (ps 18), .int .i64 (ps 19)] kz rfl
  have hgy2 := setCells_grown (w.heap.size + 2) [.int .i64 e1, .int .i64 e2] 0 (Y.drew.setCells (w.heap.size + 1) 0 [.int .i64 (ps 0), .int .i64 (ps 1), .int .i64 (ps 2), .int .i64 (ps 3), .int .i64 (ps 4), .int .i64 (ps 5), .int .i64 (ps 6), .int .i64 (ps 7), .int .i64 (ps 8), .int .i64 (ps 9), .int .i64 (ps 10), .int .i64 (ps 11), .int .i64 (ps 12), .int .i64 (ps 13), .int .i64 (ps 14), .int .i64 (ps 15), .int .i64 (ps 16), .int .i64 (ps 17), .int .i64 (ps 18), .int .i64 (ps 19)])
  have ks2 := (hgy1.block (w.heap.size + 2) hsz (by simp)).trans ks
  have hp2 := setCells_all (w := Y.drew.setCells (w.heap.size + 1) 0 [.int .i64 (ps 0), .int .i64 (ps 1), .int .i64 (ps 2), .int .i64 (ps 3), .int .i64 (ps 4), .int .i64 (ps 5), .int .i64 (ps 6), .int .i64 (ps 7), .int .i64 (ps 8), .int .i64 (ps 9), .int .i64 (ps 10), .int .i64 (ps 11), .int .i64 (ps 12), .int .i64 (ps 13), .int .i64 (ps 14), .int .i64 (ps 15), .int .i64 (ps 16), .int .i64 (ps 17), .int .i64 (ps 18), .int .i64 (ps 19)]) [.int .i64 e1, .int .i64 e2] ks2 rfl
  have HP1 : Hid (((Y.drew.setCells (w.heap.size + 1) 0 [.int .i64 (ps 0), .int .i64 (ps 1), .int .i64 (ps 2), .int .i64 (ps 3), .int .i64 (ps 4), .int .i64 (ps 5), .int .i64 (ps 6), .int .i64 (ps 7), .int .i64 (ps 8), .int .i64 (ps 9), .int .i64 (ps 10), .int .i64 (ps 11), .int .i64 (ps 12), .int .i64 (ps 13), .int .i64 (ps 14), .int .i64 (ps 15), .int .i64 (ps 16), .int .i64 (ps 17), .int .i64 (ps 18), .int .i64 (ps 19)]).setCells (w.heap.size + 2) 0 [.int .i64 e1, .int .i64 e2]).heap[w.heap.size + 1]? = some (.cells #[.int .i64 (ps 0), .int .i64 (ps 1), .int .i64 (ps 2), .int .i64 (ps 3), .int .i64 (ps 4), .int .i64 (ps 5), .int .i64 (ps 6), .int .i64 (ps 7), .int .i64 (ps 8), .int .i64 (ps 9), .int .i64 (ps 10), .int .i64 (ps 11), .int .i64 (ps 12), .int .i64 (ps 13), .int .i64 (ps 14), .int .i64 (ps 15), .int .i64 (ps 16), .int .i64 (ps 17), .int .i64 (ps 18), .int .i64 (ps 19)] 48 (0, 0))) := (hgy2.block (w.heap.size + 1) (by have h2 := hgy1.size; have h3 : Y.drew.heap.size = Y.heap.size := rfl; omega) (by simp)).trans hp1
  have HP2 := hide hp2
  have HBF := hide (below_grown (below_grown ((HB0.out.trans (HY3.out.mono HB0.out.size)).drew) hgy1 (fun g e => by simp at e; omega)) hgy2 (fun g e => by simp at e; omega))
  have ht1 := there_of_block (w := Y.drew) kz 20 rfl
  have ht2 := there_of_block ks2 2 rfl
  have hC0 : Y.drew.heap[w1.heap.size]? = Y.heap[w1.heap.size]? ∧ Y.drew.heap[w1.heap.size + 1]? = Y.heap[w1.heap.size + 1]? := ⟨rfl, rfl⟩
  have hC1 : (Y.drew.setCells (w.heap.size + 1) 0 [.int .i64 (ps 0), .int .i64 (ps 1), .int .i64 (ps 2), .int .i64 (ps 3), .int .i64 (ps 4), .int .i64 (ps 5), .int .i64 (ps 6), .int .i64 (ps 7), .int .i64 (ps 8), .int .i64 (ps 9), .int .i64 (ps 10), .int .i64 (ps 11), .int .i64 (ps 12), .int .i64 (ps 13), .int .i64 (ps 14), .int .i64 (ps 15), .int .i64 (ps 16), .int .i64 (ps 17), .int .i64 (ps 18), .int .i64 (ps 19)]).heap[w1.heap.size]? = Y.heap[w1.heap.size]? ∧ (Y.drew.setCells (w.heap.size + 1) 0 [.int .i64 (ps 0), .int .i64 (ps 1), .int .i64 (ps 2), .int .i64 (ps 3), .int .i64 (ps 4), .int .i64 (ps 5), .int .i64 (ps 6), .int .i64 (ps 7), .int .i64 (ps 8), .int .i64 (ps 9), .int .i64 (ps 10), .int .i64 (ps 11), .int .i64 (ps 12), .int .i64 (ps 13), .int .i64 (ps 14), .int .i64 (ps 15), .int .i64 (ps 16), .int .i64 (ps 17), .int .i64 (ps 18), .int .i64 (ps 19)]).heap[w1.heap.size + 1]? = Y.heap[w1.heap.size + 1]? := ⟨hgy1.block _ (by show _ < Y.heap.size; omega) (by simp; omega), hgy1.block _ (by show _ < Y.heap.size; omega) (by simp; omega)⟩
  have hC2 : ((Y.drew.setCells (w.heap.size + 1) 0 [.int .i64 (ps 0), .int .i64 (ps 1), .int .i64 (ps 2), .int .i64 (ps 3), .int .i64 (ps 4), .int .i64 (ps 5), .int .i64 (ps 6), .int .i64 (ps 7), .int .i64 (ps 8), .int .i64 (ps 9), .int .i64 (ps 10), .int .i64 (ps 11), .int .i64 (ps 12), .int .i64 (ps 13), .int .i64 (ps 14), .int .i64 (ps 15), .int .i64 (ps 16), .int .i64 (ps 17), .int .i64 (ps 18), .int .i64 (ps 19)]).setCells (w.heap.size + 2) 0 [.int .i64 e1, .int .i64 e2]).heap[w1.heap.size]? = Y.heap[w1.heap.size]? ∧ ((Y.drew.setCells (w.heap.size + 1) 0 [.int .i64 (ps 0), .int .i64 (ps 1), .int .i64 (ps 2), .int .i64 (ps 3), .int .i64 (ps 4), .int .i64 (ps 5), .int .i64 (ps 6), .int .i64 (ps 7), .int .i64 (ps 8), .int .i64 (ps 9), .int .i64 (ps 10), .int .i64 (ps 11), .int .i64 (ps 12), .int .i64 (ps 13), .int .i64 (ps 14), .int .i64 (ps 15), .int .i64 (ps 16), .int .i64 (ps 17), .int .i64 (ps 18), .int .i64 (ps 19)]).setCells (w.heap.size + 2) 0 [.int .i64 e1, .int .i64 e2]).heap[w1.heap.size + 1]? = Y.heap[w1.heap.size + 1]? :=
    ⟨(hgy2.block _ (by have h2 := hgy1.size; have h3 : Y.drew.heap.size = Y.heap.size := rfl; omega) (by simp; omega)).trans hC1.1, (hgy2.block _ (by have h2 := hgy1.size; have h3 : Y.drew.heap.size = Y.heap.size := rfl; omega) (by simp; omega)).trans hC1.2⟩
  have LC1 : ∀ w' : World, (w'.heap[w1.heap.size]? = Y.heap[w1.heap.size]? ∧ w'.heap[w1.heap.size + 1]? = Y.heap[w1.heap.size + 1]?) → w'.rangeAt w1.heap.size 1 [.int .i64 (ps 0), .int .i64 (ps 1), .int .i64 (ps 2), .int .i64 (ps 3), .int .i64 (ps 4), .int .i64 (ps 5), .int .i64 (ps 6), .int .i64 (ps 7), .int .i64 (ps 8), .int .i64 (ps 9), .int .i64 (ps 10), .int .i64 (ps 11), .int .i64 (ps 12), .int .i64 (ps 13), .int .i64 (ps 14), .int .i64 (ps 15), .int .i64 (ps 16), .int .i64 (ps 17), .int .i64 (ps 18), .int .i64 (ps 19)] := fun w' h => range_mid (cs := [ins, .int .i64 (ps 0), .int .i64 (ps 1), .int .i64 (ps 2), .int .i64 (ps 3), .int .i64 (ps 4), .int .i64 (ps 5), .int .i64 (ps 6), .int .i64 (ps 7), .int .i64 (ps 8), .int .i64 (ps 9), .int .i64 (ps 10), .int .i64 (ps 11), .int .i64 (ps 12), .int .i64 (ps 13), .int .i64 (ps 14), .int .i64 (ps 15), .int .i64 (ps 16), .int .i64 (ps 17), .int .i64 (ps 18), .int .i64 (ps 19), fv, .int .i64 k, .int .u8 pt, .int .u16 kd]) (h.1.trans HY1.out) 1 20
  have LC2 : ∀ w' : World, (w'.heap[w1.heap.size]? = Y.heap[w1.heap.size]? ∧ w'.heap[w1.heap.size + 1]? = Y.heap[w1.heap.size + 1]?) → w'.rangeAt (w1.heap.size + 1) 0 [.int .i64 e1, .int .i64 e2] := fun w' h => range_of_block (h.2.trans HY2.out)
  clear hgy1 hp1 hgy2 hp2 kz ks ks2
  have hmix : Try.prog.follows .mixedOrders = true := by kernel_rfl
  refine (wpIn_wide (n := 0)).1 ?_
  refine wpIn_normal (wpIn_region_any hmix (wpAnyE_sound (C := fun w' => w'.heap[w1.heap.size]? = Y.heap[w1.heap.size]? ∧ w'.heap[w1.heap.size + 1]? = Y.heap[w1.heap.size + 1]?) (E := fun i => false) _ _ _ _ ?_))
  change wpAnyE _ _ _ _ _ _ _ _ _ _ _ (World.drew _)
  refine wpAnyE_takeD (i := 0) (some 11) (v := .pointer (some ⟨w1.heap.size, 1, none⟩)) (fun _ => trivial) (by kernel_rfl) rfl rfl (by kernel_rfl) (by kernel_rfl) (by kernel_rfl) (by kernel_rfl) (fun _ _ _ h => by cases h.1) hC0 (Or.inl ⟨by rfl, fun w' hC => by clear hC; go_simp⟩) ?_
  simp only [Act.put, List.setIfInBounds_toArray, List.set_cons_succ, List.set_cons_zero]
  refine wpAnyE_takeD (i := 1) (some 12) (v := .agg #[.int .i64 (ps 0), .int .i64 (ps 1), .int .i64 (ps 2), .int .i64 (ps 3), .int .i64 (ps 4), .int .i64 (ps 5), .int .i64 (ps 6), .int .i64 (ps 7), .int .i64 (ps 8), .int .i64 (ps 9), .int .i64 (ps 10), .int .i64 (ps 11), .int .i64 (ps 12), .int .i64 (ps 13), .int .i64 (ps 14), .int .i64 (ps 15), .int .i64 (ps 16), .int .i64 (ps 17), .int .i64 (ps 18), .int .i64 (ps 19)]) (fun _ => trivial) (by kernel_rfl) rfl rfl (by kernel_rfl) (by kernel_rfl) (by kernel_rfl) (by kernel_rfl) (fun _ _ _ h => by cases h.1) hC0 (yieldsC_load rfl 48 (.tmp 11) rfl w1.heap.size 1 rfl [.int .i64 (ps 0), .int .i64 (ps 1), .int .i64 (ps 2), .int .i64 (ps 3), .int .i64 (ps 4), .int .i64 (ps 5), .int .i64 (ps 6), .int .i64 (ps 7), .int .i64 (ps 8), .int .i64 (ps 9), .int .i64 (ps 10), .int .i64 (ps 11), .int .i64 (ps 12), .int .i64 (ps 13), .int .i64 (ps 14), .int .i64 (ps 15), .int .i64 (ps 16), .int .i64 (ps 17), .int .i64 (ps 18), .int .i64 (ps 19)] _ LC1 Try.underlying48 rfl (by kernel_rfl)) ?_
  simp only [Act.put, List.setIfInBounds_toArray, List.set_cons_succ, List.set_cons_zero]
  refine wpAnyE_takeD (i := 2) (some 13) (v := .agg #[.int .i64 e1, .int .i64 e2]) (fun _ => trivial) (by kernel_rfl) rfl rfl (by kernel_rfl) (by kernel_rfl) (by kernel_rfl) (by kernel_rfl) (fun _ _ _ h => by cases h.1) hC0 (yieldsC_load rfl 29 (.tmp 5) rfl (w1.heap.size + 1) 0 rfl [.int .i64 e1, .int .i64 e2] _ LC2 Try.underlying29 rfl (by kernel_rfl)) ?_
  simp only [Act.put, List.setIfInBounds_toArray, List.set_cons_succ, List.set_cons_zero]
  refine wpAnyE_ready (rs := [3]) (by kernel_rfl) (by simp) ?_
  refine AllE.cons rfl (fun K hK => ?_) AllE.nil
  refine stepAny_store _ (fun _ => trivial) rfl 48 (.tmp 2) (.tmp 12) rfl (w.heap.size + 1) 0 #[.int .i64 (ps 0), .int .i64 (ps 1), .int .i64 (ps 2), .int .i64 (ps 3), .int .i64 (ps 4), .int .i64 (ps 5), .int .i64 (ps 6), .int .i64 (ps 7), .int .i64 (ps 8), .int .i64 (ps 9), .int .i64 (ps 10), .int .i64 (ps 11), .int .i64 (ps 12), .int .i64 (ps 13), .int .i64 (ps 14), .int .i64 (ps 15), .int .i64 (ps 16), .int .i64 (ps 17), .int .i64 (ps 18), .int .i64 (ps 19)] rfl rfl ht1 (by kernel_rfl) (by simp [Value.oneCell']) ?_
  refine hK _ _ (.inr hC1) ?_
  clear hK K
  refine wpAnyE_ready (rs := [4]) (by kernel_rfl) (by simp) ?_
  refine AllE.cons rfl (fun K hK => ?_) AllE.nil
  refine stepAny_store _ (fun _ => trivial) rfl 29 (.tmp 3) (.tmp 13) rfl (w.heap.size + 2) 0 #[.int .i64 e1, .int .i64 e2] rfl rfl ht2 (by kernel_rfl) (by simp [Value.oneCell']) ?_
  refine hK _ _ (.inr hC2) ?_
  clear hK K
  refine wpAnyE_done (by kernel_rfl) ⟨rfl, ?_⟩ _
  clear ht1 ht2 hC1 hC2 hC0 LC1 LC2
  dsimp only
  generalize (Y.drew.setCells (w.heap.size + 1) 0 [.int .i64 (ps 0), .int .i64 (ps 1), .int .i64 (ps 2), .int .i64 (ps 3), .int .i64 (ps 4), .int .i64 (ps 5), .int .i64 (ps 6), .int .i64 (ps 7), .int .i64 (ps 8), .int .i64 (ps 9), .int .i64 (ps 10), .int .i64 (ps 11), .int .i64 (ps 12), .int .i64 (ps 13), .int .i64 (ps 14), .int .i64 (ps 15), .int .i64 (ps 16), .int .i64 (ps 17), .int .i64 (ps 18), .int .i64 (ps 19)]).setCells (w.heap.size + 2) 0 [.int .i64 e1, .int .i64 e2] = Z at *
  rw [then_normalW]
  go_wp2_with fail
  exact HRET.out _ Z ps rfl rfl rfl HP1.out HP2.out HBF.out HFS.out
end Go.Proofs.Ytcckepjpehjijaa
