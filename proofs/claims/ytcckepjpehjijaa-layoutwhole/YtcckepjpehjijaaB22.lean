/-
  Texts laid together in one: Ref05Check, Ref05Parts, MathWh.
-/
import Derived.WalkSpells
import Derived.WalkMore
import Derived.BigRegion
import Derived.Test.YtcckepjpehjijaaProg
import Derived.Test.YtcckepjpehjijaaB16
import Derived.Test.YtcckepjpehjijaaB20
import Derived.Test.YtcckepjpehjijaaB21
import Derived.Deep.MidRow
import Derived.Test.YtcckepjpehjijaaB18
import Derived.Test.YtcckepjpehjijaaB11
/-
  The document's Check of a module's order.
-/
namespace Go.Proofs.Ytcckepjpehjijaa
open Go.RowKit
set_option linter.unusedVariables false
set_option linter.unusedSimpArgs false
set_option maxRecDepth 10000

/-- Where a variable or a phi stands, a label stands ahead. -/
theorem block_ahead {l : List InstT} : ∀ {m : Nat}, okTo l m → aheadO l m = 248 ∨ aheadO l m = 245 ∨ aheadO l m = 59 → (nthI l (blockAt l (m - 1))).1 = 248 ∧ 1 ≤ blockAt l (m - 1)
  | 0, _, ha => by unfold aheadO at ha; simp at ha
  | m + 1, hok, ha => by
    have hne : aheadO l (m + 1) ≠ 0 := by omega
    obtain ⟨_, hop⟩ := ahead_at hne
    rw [Nat.add_sub_cancel] at hop ⊢
    have h8 : partI (nthI l m) = 8 := by
      unfold aheadO at hne
      split at hne
      · next h => have := h.2; rw [Nat.add_sub_cancel] at this; exact this
      · exact absurd rfl hne
    have hmay := hok m (by omega)
    have hparts : ∀ i, i < m → partI (nthI l i) ≤ 8 := fun i _ => (partI_eight _).2
    have hmo : modelsN l m ≠ 0 := fun e => by rw [mayL_noModel (by omega) e] at hmay; cases hmay
    have hm1 : 1 ≤ m := by
      rcases Nat.eq_zero_or_pos m with e | e
      · subst e; exact absurd rfl hmo
      · exact e
    rw [mayL_eight h8 hparts hmo] at hmay
    by_cases h248 : (nthI l m).1 = 248
    · rw [(firstB_label hm1 h248).2]; exact ⟨h248, hm1⟩
    · have hb := (firstB_other hm1 h248).2
      rw [hb]
      refine block_ahead (m := m) (fun i hi => hok i (by omega)) ?_
      rw [hop] at h248
      rcases ha with ha | ha | ha
      · exact absurd ha h248
      · rw [hop, ha] at hmay
        unfold mayF at hmay
        simp at hmay
        rcases hmay.2.1 with h | h
        · exact .inl h
        · exact .inr (.inl h)
      · rw [hop, ha] at hmay
        unfold mayF at hmay
        simp at hmay
        rcases hmay.2.1 with h | h
        · exact .inl h
        · exact .inr (.inr h)

theorem refMay_any (l : List InstT) (a : Option Addr) (n c m : Nat) (w : World) (hv : InstsV w a l) (hl : l.length = n) (hn : n ≤ 140737488351232) (hvar : VarsOk l) (hm : m < n) (hok : okTo l m) :
    Calls Try.prog 29 #[.slice a n c, .int .i64 m] w fun e w' => e = .returned (.bool (mayL l m)) ∧ Below w.heap.size w w' := by
  by_cases h8 : partI (nthI l m) < 8
  · refine refMay_low l a n c m w hv hl hn hvar hm _ rfl h8 _ ?_
    unfold mayL
    rw [show decide (partI (nthI l m) < 8) = true by simpa using h8, Bool.true_or, Bool.and_true]
  · refine refMay_high l a n c m w hv hl hn hvar hm _ rfl (by omega) (block_ahead hok) _ ?_
    unfold mayL
    rw [show decide (partI (nthI l m) < 8) = false by simpa using h8, Bool.false_or, if_neg (by omega), show decide (1 < partI (nthI l m)) = true by simp; omega, Bool.true_and, Bool.and_assoc]

set_option maxHeartbeats 8000000 in
theorem refCheck5_any (gen bnd : Int) (a : Option Addr) (n c : Nat) (l : List InstT) (w : World) (hv : InstsV w a l) (hok : InstsOk l) (hl : l.length = n) (hn : 40 * n ≤ 140737488351232) (b0 : 0 ≤ bnd) (b1 : bnd < 4294967296) :
    Calls Try.prog 18 #[modV gen bnd a n c] w fun e w' => e = .returned (.agg #[.int .i64 (layE bnd l).1, .int .i64 ((layE bnd l).2 : Int)]) ∧ Below w.heap.size w w' := by
  have hb0 : Below w.heap.size w ((w.alloc (.cells #[.int .u32 gen, .int .u32 bnd, .slice a n c] 25)).alloc (.cells #[.int .i64 0, .int .i64 0] 29)) := ((Below.refl _ w).alloc (Nat.le_refl _) _).alloc (by simp) _
  have hSh := refShape4_any gen bnd a n c l _ (hv.below hb0) hok hl hn b0 b1
  have HSF : Hid (∀ E P, shapeE bnd l = (E, P) → (E ≠ 0 → layE bnd l = (E, P)) ∧ (E = 0 → layE bnd l = layF l l.length 0 ∧ l.length ≤ 1048576 ∧ VarsOk l)) := fun E P he => by
    refine ⟨fun h => ?_, fun h => ⟨?_, ?_, ?_⟩⟩
    · unfold layE; rw [he, if_pos h]
    · unfold layE; rw [he, if_neg (by simpa using h)]
    · exact (shape_few (b := bnd) (l := l) (by rw [he]; exact h)).1
    · intro k hk h59
      exact var_args (b := bnd) (shape_each (by rw [he]; exact h) k hk) h59
  generalize hE : shapeE bnd l = E at *
  obtain ⟨E, P⟩ := E
  have HSFE := hide (HSF.out E P rfl)
  obtain ⟨L, hLL⟩ : ∃ L, L = layE bnd l := ⟨_, rfl⟩
  have HLL := hide hLL
  rw [← hLL]
  have HMB : Hid (((w.alloc (.cells #[.int .u32 gen, .int .u32 bnd, .slice a n c] 25)).alloc (.cells #[.int .i64 0, .int .i64 0] 29)).heap[w.heap.size]? = some (.cells #[.int .u32 gen, .int .u32 bnd, .slice a n c] 25 (0, 0))) := by
    show _ = _
    rw [Below.heap_alloc _ _ _ (by simp)]; exact heap_alloc_new w _
  have HSB : Hid (((w.alloc (.cells #[.int .u32 gen, .int .u32 bnd, .slice a n c] 25)).alloc (.cells #[.int .i64 0, .int .i64 0] 29)).heap[w.heap.size + 1]? = some (.cells #[.int .i64 0, .int .i64 0] 29 (0, 0))) := by
    have := heap_alloc_new (w.alloc (.cells #[.int .u32 gen, .int .u32 bnd, .slice a n c] 25)) (.cells #[.int .i64 0, .int .i64 0] 29)
    rw [World.size_alloc] at this
    exact this
  have HLT : Hid (w.heap.size + 1 < ((w.alloc (.cells #[.int .u32 gen, .int .u32 bnd, .slice a n c] 25)).alloc (.cells #[.int .i64 0, .int .i64 0] 29)).heap.size) := by show _ < _; simp
  have HB0 := hide hb0
  have HV := hide (hv.below hb0)
  have HL := hide hl
  have HRET : Hid (∀ (a' : Act) (Z : World), slot a'.tmps 2 = .pointer (some ⟨w.heap.size + 1, 0, none⟩) → a'.defers = [] → Z.heap[w.heap.size + 1]? = some (.cells #[.int .i64 L.1, .int .i64 (L.2 : Int)] 29 (0, 0)) → Below w.heap.size w Z → bodyPost Try.prog Try.f18 (fun e w' => e = .returned (.agg #[.int .i64 L.1, .int .i64 (L.2 : Int)]) ∧ Below w.heap.size w w') .ret a' Z) := by
    intro a' Z q2 q3 q4 q5
    have r6 := run_loadVar_mid (P := Try.prog) Z (w.heap.size + 1) 0 29 [.int .i64 L.1, .int .i64 (L.2 : Int)] _ (range_of_block q4) Try.underlying29 rfl (by kernel_rfl)
    refine bodyPost_ret (v := .agg #[.int .i64 L.1, .int .i64 (L.2 : Int)]) ?_ q3 ⟨rfl, q5⟩
    have hG2 : a'.tmps.getD 2 undef = .pointer (some ⟨w.heap.size + 1, 0, none⟩) := q2
    simp only [results, Try.results18, List.mapM_toArray, List.mapM_cons, List.mapM_nil, hG2, asAddr, Sem.run_bind, Sem.run_pure, Result.andThen_ok, bind_assoc, pure_bind, Sem.run_map, map_pure, r6]
    rfl
  unfold modV at *
  clear hb0 HSF hv hok hl hLL hE
  go_enter Try.func18, Try.ntmps18
  go_wp2_with fail
  generalize (w.alloc (.cells #[.int .u32 gen, .int .u32 bnd, .slice a n c] 25)).alloc (.cells #[.int .i64 0, .int .i64 0] 29) = W0 at *
  refine hSh.mono ?_
  rintro e w1 ⟨rfl, hb1⟩
  have kl := HLT.out
  have kw : W0.heap.size ≤ w1.heap.size := hb1.size
  have m2 := (hb1.cell (p := ⟨w.heap.size, 2, none⟩) (show w.heap.size < W0.heap.size by omega)).trans ((one_block HMB.out).1 2)
  have kr := (hb1.block (w.heap.size + 1) HLT.out).trans HSB.out
  obtain ⟨cr, fr⟩ := one_block kr
  have r0 := cr 0
  have r1 := cr 1
  have HB1 := hide hb1
  have hHl : w.heap.size < w1.heap.size := by omega
  have hHl1 : w.heap.size + 1 < w1.heap.size := by omega
  have FINE : Hid (∀ (X : World) (x y : Int), Below W0.heap.size W0 X → X.heap[w.heap.size + 1]? = some (.cells #[.int .i64 0, .int .i64 0] 29 (0, 0)) → ((X.setCell ⟨w.heap.size + 1, 0, none⟩ (.int .i64 x)).setCell ⟨w.heap.size + 1, 1, none⟩ (.int .i64 y)).heap[w.heap.size + 1]? = some (.cells #[.int .i64 x, .int .i64 y] 29 (0, 0)) ∧ Below w.heap.size w ((X.setCell ⟨w.heap.size + 1, 0, none⟩ (.int .i64 x)).setCell ⟨w.heap.size + 1, 1, none⟩ (.int .i64 y))) := fun X x y hX hk =>
    ⟨setCells_all (w := X) [.int .i64 x, .int .i64 y] hk rfl, below_grown (HB0.out.trans (hX.mono HB0.out.size)) (setCells_grown (w.heap.size + 1) [.int .i64 x, .int .i64 y] 0 X) (fun g e => by simp at e; omega)⟩
  clear hSh hb1 cr
  by_cases hE0 : E = 0
  · subst hE0
    obtain ⟨hLay, hlen, hvar⟩ := HSFE.out.2 rfl
    have HLAY := hide (HLL.out.trans hLay)
    have HVAR := hide hvar
    have hn1 : n ≤ 1048576 := by rw [← HL.out]; exact hlen
    have hb2 : Below W0.heap.size W0 (w1.alloc (.cells #[.int .i64 0, .int .i64 P] 29)) := HB1.out.alloc HB1.out.size _
    have HV1 := hide (HV.out.below hb2)
    have HB2 := hide hb2
    have HK2 : Hid ((w1.alloc (.cells #[.int .i64 0, .int .i64 P] 29)).heap[w.heap.size + 1]? = some (.cells #[.int .i64 0, .int .i64 0] 29 (0, 0))) := (Below.heap_alloc _ _ _ hHl1).trans kr
    have HS2 : Hid (w.heap.size + 1 < (w1.alloc (.cells #[.int .i64 0, .int .i64 P] 29)).heap.size) := by show _ < _; rw [World.size_alloc]; omega
    clear hLay hlen hvar HSFE HLL kr r0 r1 fr hb2 HB1 HV
    go_wp2_with fail
    clear m2
    generalize w1.alloc (.cells #[.int .i64 0, .int .i64 P] 29) = W1 at *
    have hls := HS2.out
    go_loopw [5, 6] (fun d i wr => ∃ k : Nat, k ≤ n ∧ i = .int .i64 k ∧ d = .int .i64 (modelsN l k) ∧ okTo l k ∧ Below W1.heap.size W1 wr) (fun _ i _ => n - (intOf i).toNat)
    case atStart => exact ⟨0, Nat.zero_le _, rfl, rfl, okTo_zero l, Below.refl _ _⟩
    case round =>
      obtain ⟨k, hk, rfl, rfl, hok, hbr⟩ := hrel
      have HOK := hide hok
      have HB := hide hbr
      have hml := modelsN_le l k
      have kr := (hbr.block (w.heap.size + 1) hls).trans HK2.out
      obtain ⟨cr, fr⟩ := one_block kr
      have r0 := cr 0
      have r1 := cr 1
      have HKR := hide kr
      have hlr : w.heap.size + 1 < wr.heap.size := Nat.lt_of_lt_of_le hls hbr.size
      clear cr kr hok
      by_cases hlt : k < n
      · have hk0 : (0 : Int) ≤ (k : Int) := by omega
        have hki : (k : Int) < (n : Int) := by omega
        have hM := refMay_any l a n c k wr (HV1.out.below hbr) HL.out (by omega) HVAR.out hlt HOK.out
        cases hmay : mayL l k with
        | false =>
          rw [hmay] at hM
          have HLE : Hid (L = (50, k)) := by
            refine HLAY.out.trans ?_
            rw [layF_wrong ⟨HOK.out, .inl ⟨by rw [HL.out]; exact hlt, hmay⟩⟩, if_neg (fun e => by have := partAt_nine e; rw [HL.out] at this; omega)]
          clear hmay hbr
          go_wp2_with fail
          refine hM.mono ?_
          rintro e w2 ⟨rfl, hb2⟩
          have kr2 := (hb2.block (w.heap.size + 1) hlr).trans HKR.out
          obtain ⟨cr2, fr2⟩ := one_block kr2
          have t0 := cr2 0
          have t1 := cr2 1
          have HKR2 := hide kr2
          have HBX := hide (HB2.out.trans ((HB.out.trans (hb2.mono HB.out.size)).mono HB2.out.size))
          clear hM hb2 cr2 kr2 r0 r1 fr
          go_wp2_with fail
          obtain ⟨f1, f2⟩ := FINE.out w2 50 k HBX.out HKR2.out
          exact HRET.out _ _ rfl rfl (by rw [HLE.out]; exact f1) f2
        | true =>
          rw [hmay] at hM
          have HOK2 := hide (HOK.out.snoc hmay)
          obtain ⟨g1, o1, aj, cj, nj, ha, hg1, p1, p2, p3, p4, p5, p6, p7⟩ := HV1.out.below hbr k (by rw [HL.out]; exact hlt)
          have hP := fun wy (hy : Below wr.heap.size wr wy) => refPart_any (nthI l k) aj nj cj wy (p6.below hy) p5 (fun e => by rw [← p5]; exact HVAR.out k (by rw [HL.out]; exact hlt) e)
          unfold instV at hP
          have HP := hide hP
          have hMn : Hid (modelsN l (k + 1) = modelsN l k + (if partI (nthI l k) = 1 then 1 else 0)) := rfl
          subst ha
          clear hmay hbr p5 p6 p7 hP
          generalize modelsN l k = d at *
          generalize partI (nthI l k) = q at *
          go_wp2_with fail
          refine hM.mono ?_
          rintro e w2 ⟨rfl, hb2⟩
          replace p1 := (hb2.cell (p := ⟨g1, o1 + k * 4, none⟩) hg1).trans p1
          replace p2 := (hb2.cell (p := ⟨g1, o1 + k * 4 + 1, none⟩) hg1).trans p2
          replace p3 := (hb2.cell (p := ⟨g1, o1 + k * 4 + 2, none⟩) hg1).trans p3
          replace p4 := (hb2.cell (p := ⟨g1, o1 + k * 4 + 3, none⟩) hg1).trans p4
          have hg2 : g1 < w2.heap.size := Nat.lt_of_lt_of_le hg1 hb2.size
          have hP2 := HP.out w2 hb2
          have HBX := hide (HB.out.trans (hb2.mono HB.out.size))
          clear hM hb2 r0 r1 fr HP hg1
          by_cases hq : q = 1
          · have hM2 := hide (show modelsN l (k + 1) = d + 1 by rw [hMn.out, if_pos hq])
            have hqq : (q == 1) = true := by simpa using hq
            clear hMn
            go_wp2_with fail
            refine hP2.mono ?_
            rintro e w3 ⟨rfl, hb3⟩
            have HB3 := hide (HBX.out.trans (hb3.mono HBX.out.size))
            clear hP2 p1 p2 p3 p4 hb3
            go_wp2_with fail
            go_roundw
            case rel => exact ⟨k + 1, by omega, by go_num, by rw [hM2.out]; go_num, HOK2.out, HB3.out⟩
            case measure => simp [intOf]; omega
          · have hM2 := hide (show modelsN l (k + 1) = d by rw [hMn.out, if_neg hq]; rfl)
            have hqq : (q == 1) = false := by simpa using hq
            clear hMn
            go_wp2_with fail
            refine hP2.mono ?_
            rintro e w3 ⟨rfl, hb3⟩
            have HB3 := hide (HBX.out.trans (hb3.mono HBX.out.size))
            clear hP2 p1 p2 p3 p4 hb3
            go_wp2_with fail
            go_roundw
            case rel => exact ⟨k + 1, by omega, by go_num, by rw [hM2.out], HOK2.out, HB3.out⟩
            case measure => simp [intOf]; omega
      · obtain rfl : k = n := by omega
        have hknl : l.length = k := HL.out
        have HEND : Hid (layF l l.length 0 = if openE l then (51, k) else (0, 0)) := by
          have e := layF_ok k 0 0 (by rw [Nat.zero_add]; exact HOK.out)
          rw [Nat.add_zero, Nat.zero_add] at e
          show _ = _
          rw [hknl, e]; rfl
        have HOE : Hid (openE l = (decide (modelsN l k = 0) || decide (aheadO l k ≠ 0 ∧ aheadO l k ≠ 56))) := by show _ = _; unfold openE; rw [hknl]
        have HBX := hide (HB2.out.trans (hbr.mono HB2.out.size))
        by_cases hd : modelsN l k = 0
        · have HLE : Hid (L = (51, k)) := by
            refine HLAY.out.trans (HEND.out.trans ?_)
            rw [HOE.out, hd]; rfl
          rw [hd]
          clear hbr hknl hd
          go_wp2_with fail
          obtain ⟨f1, f2⟩ := FINE.out wr 51 k HBX.out HKR.out
          exact HRET.out _ _ rfl rfl (by rw [HLE.out]; exact f1) f2
        · have hkp : 0 < k := by
            rcases Nat.eq_zero_or_pos k with e | e
            · subst e; exact absurd rfl hd
            · exact e
          have hdd : (((modelsN l k : Nat) : Int) == 0) = false := by simpa using hd
          have hk1 : (k : Int) - 1 = ((k - 1 : Nat) : Int) := by omega
          have hk2 : (0 : Int) ≤ ((k - 1 : Nat) : Int) := by omega
          have hk3 : ((k - 1 : Nat) : Int) < (k : Int) := by omega
          obtain ⟨g1, o1, aj, cj, nj, ha, hg1, p1, p2, p3, p4, p5, p6, p7⟩ := HV1.out.below hbr (k - 1) (by rw [HL.out]; omega)
          have hP := refPart_any (nthI l (k - 1)) aj nj cj wr p6 p5 (fun e => by rw [← p5]; exact HVAR.out (k - 1) (by rw [HL.out]; omega) e)
          unfold instV at hP
          have hAE : Hid (aheadO l k = if partI (nthI l (k - 1)) = 8 then (nthI l (k - 1)).1 else 0) := hide (by unfold aheadO; simp [hkp])
          have HOP : Hid (partI (nthI l (k - 1)) = 8 → (nthI l (k - 1)).1 ≠ 0) := fun h => op_ne_zero h
          have HD := hide hd
          subst ha
          clear hbr hknl hd p5 p6 p7
          generalize modelsN l k = d at *
          generalize partI (nthI l (k - 1)) = q at *
          generalize (nthI l (k - 1)) = z at *
          generalize aheadO l k = ah at *
          by_cases hq : q = 8
          · have hqq : (q == 8) = true := by simpa using hq
            obtain rfl : ah = z.1 := by rw [hAE.out, if_pos hq]
            have hz0 := HOP.out hq
            by_cases h56 : z.1 = 56
            · have HLE : Hid (L = (0, 0)) := by
                refine HLAY.out.trans (HEND.out.trans ?_)
                rw [HOE.out]; simp [HD.out, h56]
              rw [h56] at p1 hP
              go_wp2_with fail
              refine hP.mono ?_
              rintro e w2 ⟨rfl, hb2⟩
              replace p1 := (hb2.cell (p := ⟨g1, o1 + (k - 1) * 4, none⟩) hg1).trans p1
              have hg2 : g1 < w2.heap.size := Nat.lt_of_lt_of_le hg1 hb2.size
              have kr2 := (hb2.block (w.heap.size + 1) hlr).trans HKR.out
              obtain ⟨cr2, fr2⟩ := one_block kr2
              have t0 := cr2 0
              have t1 := cr2 1
              have HKR2 := hide kr2
              have HBY := hide (HBX.out.trans (hb2.mono HBX.out.size))
              clear hP hb2 cr2 kr2 r0 r1 fr p2 p3 p4
              go_wp2_with fail
              obtain ⟨f1, f2⟩ := FINE.out w2 0 0 HBY.out HKR2.out
              exact HRET.out _ _ rfl rfl (by rw [HLE.out]; exact f1) f2
            · have HLE : Hid (L = (51, k)) := by
                refine HLAY.out.trans (HEND.out.trans ?_)
                rw [HOE.out]; simp [hz0, h56]
              have h56' : (z.1 != 56) = true := by simpa using h56
              clear h56 hz0
              generalize z.1 = zo at *
              go_wp2_with fail
              refine hP.mono ?_
              rintro e w2 ⟨rfl, hb2⟩
              replace p1 := (hb2.cell (p := ⟨g1, o1 + (k - 1) * 4, none⟩) hg1).trans p1
              have hg2 : g1 < w2.heap.size := Nat.lt_of_lt_of_le hg1 hb2.size
              have kr2 := (hb2.block (w.heap.size + 1) hlr).trans HKR.out
              obtain ⟨cr2, fr2⟩ := one_block kr2
              have t0 := cr2 0
              have t1 := cr2 1
              have HKR2 := hide kr2
              have HBY := hide (HBX.out.trans (hb2.mono HBX.out.size))
              clear hP hb2 cr2 kr2 r0 r1 fr p2 p3 p4
              go_wp2_with fail
              obtain ⟨f1, f2⟩ := FINE.out w2 51 k HBY.out HKR2.out
              exact HRET.out _ _ rfl rfl (by rw [HLE.out]; exact f1) f2
          · have hqq : (q == 8) = false := by simpa using hq
            obtain rfl : ah = 0 := by rw [hAE.out, if_neg hq]
            have HLE : Hid (L = (0, 0)) := by
              refine HLAY.out.trans (HEND.out.trans ?_)
              rw [HOE.out]; simp [HD.out]
            go_wp2_with fail
            refine hP.mono ?_
            rintro e w2 ⟨rfl, hb2⟩
            have kr2 := (hb2.block (w.heap.size + 1) hlr).trans HKR.out
            obtain ⟨cr2, fr2⟩ := one_block kr2
            have t0 := cr2 0
            have t1 := cr2 1
            have HKR2 := hide kr2
            have HBY := hide (HBX.out.trans (hb2.mono HBX.out.size))
            clear hP hb2 cr2 kr2 r0 r1 fr p1 p2 p3 p4
            go_wp2_with fail
            obtain ⟨f1, f2⟩ := FINE.out w2 0 0 HBY.out HKR2.out
            exact HRET.out _ _ rfl rfl (by rw [HLE.out]; exact f1) f2
  · have hE1 : (E != 0) = true := by simpa using hE0
    have HLE : Hid (L = (E, P)) := HLL.out.trans (HSFE.out.1 hE0)
    have HKR := hide kr
    clear hE0
    go_wp2_with fail
    obtain ⟨f1, f2⟩ := FINE.out w1 E P HB1.out HKR.out
    refine HRET.out _ _ rfl rfl ?_ (f2.alloc f2.size _)
    rw [HLE.out]
    refine (Below.heap_alloc _ _ _ ?_).trans f1
    rw [World.size_setCell, World.size_setCell]; exact hHl1
end Go.Proofs.Ytcckepjpehjijaa

/-
  The document's Parts.
-/
namespace Go.Proofs.Ytcckepjpehjijaa
open Go.RowKit
set_option linter.unusedVariables false
set_option linter.unusedSimpArgs false
set_option maxRecDepth 10000

/-- How many of the first k have the part p. -/
def ownP (l : List InstT) (p : Nat) : Nat → Nat
  | 0 => 0
  | k + 1 => ownP l p k + (if partI (nthI l k) = p then 1 else 0)
theorem cnt_own (l : List InstT) (p : Nat) : ∀ k, cntP l (p + 1) k = cntP l p k + ownP l p k
  | 0 => rfl
  | k + 1 => by
    rw [cntP, cntP, ownP, cnt_own l p k]
    by_cases h1 : partI (nthI l k) < p
    · rw [if_pos (by omega), if_pos h1, if_neg (by omega)]; omega
    · by_cases h2 : partI (nthI l k) = p
      · rw [if_pos (by omega), if_neg h1, if_pos h2]; omega
      · rw [if_neg (by omega), if_neg h1, if_neg h2]; omega
theorem ownP_le (l : List InstT) (p : Nat) : ∀ k, ownP l p k ≤ k
  | 0 => Nat.le_refl _
  | k + 1 => by have := ownP_le l p k; rw [ownP]; split <;> omega
/-- The places of the first parts. -/
def spanTo (l : List InstT) (n k i : Nat) : Int := if i < 2 * k then cntP l ((i + 1) / 2) n else 0
/-- The box of the places. -/
def SpanB (W : World) (B : Nat) (f : Nat → Int) : Prop := ∃ cs : Array Value, W.heap[B]? = some (.cells cs 48 (0, 0)) ∧ cs.size = 20 ∧ ∀ i, i < 20 → cs[i]? = some (.int .i64 (f i))
theorem SpanB.lt {W : World} {B : Nat} {f : Nat → Int} (h : SpanB W B f) : B < W.heap.size := by obtain ⟨cs, h1, _⟩ := h; exact (Array.getElem?_eq_some_iff.1 h1).1
theorem SpanB.cell {W : World} {B : Nat} {f : Nat → Int} (h : SpanB W B f) (i : Nat) (hi : i < 20) : W.cell? ⟨B, i, none⟩ = some (.int .i64 (f i)) ∧ W.frozen? ⟨B, i, none⟩ = false := by
  obtain ⟨cs, h1, _, h3⟩ := h
  exact ⟨by simp only [World.cell?, h1]; exact h3 i hi, by simp [World.frozen?, h1]⟩
theorem SpanB.set {W : World} {B : Nat} {f : Nat → Int} (h : SpanB W B f) (i : Nat) (x : Int) : SpanB (W.setCell ⟨B, i, none⟩ (.int .i64 x)) B (fun j => if j = i then x else f j) := by
  obtain ⟨cs, h1, h2, h3⟩ := h
  refine ⟨cs.setIfInBounds i (.int .i64 x), by simp [World.setCell, Array.getElem?_modify, h1], by simp [h2], fun j hj => ?_⟩
  by_cases e : j = i
  · subst e; rw [Array.getElem?_setIfInBounds_self_of_lt (by omega)]; simp
  · rw [Array.getElem?_setIfInBounds_ne (fun e2 => e e2.symm), h3 j hj]; simp [e]
theorem SpanB.block {W W' : World} {B : Nat} {f : Nat → Int} (h : SpanB W B f) (hb : W'.heap[B]? = W.heap[B]?) : SpanB W' B f := by
  obtain ⟨cs, h1, h2⟩ := h; exact ⟨cs, hb.trans h1, h2⟩
theorem SpanB.congr {W : World} {B : Nat} {f g : Nat → Int} (h : SpanB W B f) (hfg : ∀ i, i < 20 → g i = f i) : SpanB W B g := by
  obtain ⟨cs, h1, h2, h3⟩ := h; exact ⟨cs, h1, h2, fun i hi => by rw [hfg i hi]; exact h3 i hi⟩
theorem SpanB.row {W : World} {B : Nat} {f : Nat → Int} (h : SpanB W B f) : W.heap[B]? = some (.cells #[.int .i64 (f 0), .int .i64 (f 1), .int .i64 (f 2), .int .i64 (f 3), .int .i64 (f 4), .int .i64 (f 5), .int .i64 (f 6), .int .i64 (f 7), .int .i64 (f 8), .int .i64 (f 9), .int .i64 (f 10), .int .i64 (f 11), .int .i64 (f 12), .int .i64 (f 13), .int .i64 (f 14), .int .i64 (f 15), .int .i64 (f 16), .int .i64 (f 17), .int .i64 (f 18), .int .i64 (f 19)] 48 (0, 0)) := by
  obtain ⟨cs, h1, h2, h3⟩ := h
  have e : cs = #[.int .i64 (f 0), .int .i64 (f 1), .int .i64 (f 2), .int .i64 (f 3), .int .i64 (f 4), .int .i64 (f 5), .int .i64 (f 6), .int .i64 (f 7), .int .i64 (f 8), .int .i64 (f 9), .int .i64 (f 10), .int .i64 (f 11), .int .i64 (f 12), .int .i64 (f 13), .int .i64 (f 14), .int .i64 (f 15), .int .i64 (f 16), .int .i64 (f 17), .int .i64 (f 18), .int .i64 (f 19)] := by
    apply Array.ext_getElem?
    intro i
    match i with
    | 0 => exact h3 0 (by omega)
    | 1 => exact h3 1 (by omega)
    | 2 => exact h3 2 (by omega)
    | 3 => exact h3 3 (by omega)
    | 4 => exact h3 4 (by omega)
    | 5 => exact h3 5 (by omega)
    | 6 => exact h3 6 (by omega)
    | 7 => exact h3 7 (by omega)
    | 8 => exact h3 8 (by omega)
    | 9 => exact h3 9 (by omega)
    | 10 => exact h3 10 (by omega)
    | 11 => exact h3 11 (by omega)
    | 12 => exact h3 12 (by omega)
    | 13 => exact h3 13 (by omega)
    | 14 => exact h3 14 (by omega)
    | 15 => exact h3 15 (by omega)
    | 16 => exact h3 16 (by omega)
    | 17 => exact h3 17 (by omega)
    | 18 => exact h3 18 (by omega)
    | 19 => exact h3 19 (by omega)
    | m + 20 => rw [Array.getElem?_eq_none (by omega), Array.getElem?_eq_none (by simp)]
  rw [h1, e]
theorem span_next (l : List InstT) (n k i : Nat) : spanTo l n (k + 1) i = if i = k * 2 + 1 then ((cntP l k n + ownP l k n : Nat) : Int) else if i = k * 2 then ((cntP l k n : Nat) : Int) else spanTo l n k i := by
  unfold spanTo
  by_cases e1 : i = k * 2 + 1
  · subst e1; rw [if_pos (by omega), if_pos rfl, show (k * 2 + 1 + 1) / 2 = k + 1 by omega, cnt_own]
  · by_cases e2 : i = k * 2
    · subst e2; rw [if_pos (by omega), if_neg e1, if_pos rfl, show (k * 2 + 1) / 2 = k by omega]
    · rw [if_neg e1, if_neg e2]
      by_cases h : i < 2 * k
      · rw [if_pos (by omega), if_pos h]
      · rw [if_neg (by omega), if_neg h]

end Go.Proofs.Ytcckepjpehjijaa

/-
  A module in order is its parts, its functions and their blocks, one behind the other: in plain mathematics.
-/
namespace Go.Proofs.Ytcckepjpehjijaa
open Go.RowKit
set_option linter.unusedVariables false
set_option linter.unusedSimpArgs false

/-- Blocks, one behind the other. -/
def blkC (l : List InstT) : Nat → List (Int × Int × Int) → Nat → Prop
  | s, [], e => s = e
  | s, b :: bs, e => b.2.1 = (s : Int) ∧ (nthI l s).2.2.1 = b.1 ∧ ∃ t : Nat, b.2.2 = (t : Int) ∧ s + 1 < t ∧ endsB (nthI l (t - 1)).1 = true ∧ blkC l t bs e
/-- Functions, one behind the other. -/
def fnC (l : List InstT) : Nat → List FuncT → Nat → Prop
  | s, [], e => s = e
  | s, f :: fs, e => f.2.1 = (s : Int) ∧ (nthI l s).2.2.1 = f.1 ∧ f.2.2.2.1 ≠ [] ∧ ∃ t : Nat, f.2.2.2.2 = (t : Int) ∧ blkC l (s + 1 + f.2.2.1.length) f.2.2.2.1 t ∧ fnC l (t + 1) fs e
theorem blkC_le {l : List InstT} : ∀ {bs : List (Int × Int × Int)} {s e : Nat}, blkC l s bs e → s ≤ e
  | [], s, e, h => Nat.le_of_eq h
  | b :: bs, s, e, h => by obtain ⟨_, _, t, _, h1, _, h2⟩ := h; have := blkC_le h2; omega
theorem fnC_le {l : List InstT} : ∀ {fs : List FuncT} {s e : Nat}, fnC l s fs e → s ≤ e
  | [], s, e, h => Nat.le_of_eq h
  | f :: fs, s, e, h => by obtain ⟨_, _, _, t, _, h1, h2⟩ := h; have := fnC_le h2; have := blkC_le h1; omega
theorem blkC_snoc {l : List InstT} {b : Int × Int × Int} {q t : Nat} (h1 : b.2.1 = (q : Int)) (h2 : (nthI l q).2.2.1 = b.1) (h3 : b.2.2 = (t : Int)) (h4 : q + 1 < t) (h5 : endsB (nthI l (t - 1)).1 = true) : ∀ {bs : List (Int × Int × Int)} {s : Nat}, blkC l s bs q → blkC l s (bs ++ [b]) t
  | [], s, h => by cases h; exact ⟨h1, h2, t, h3, h4, h5, rfl⟩
  | c :: bs, s, h => by obtain ⟨a1, a2, u, a3, a4, a5, a6⟩ := h; exact ⟨a1, a2, u, a3, a4, a5, blkC_snoc h1 h2 h3 h4 h5 a6⟩
theorem fnC_snoc {l : List InstT} {f : FuncT} {q t : Nat} (h1 : f.2.1 = (q : Int)) (h2 : (nthI l q).2.2.1 = f.1) (h3 : f.2.2.2.1 ≠ []) (h4 : f.2.2.2.2 = (t : Int)) (h5 : blkC l (q + 1 + f.2.2.1.length) f.2.2.2.1 t) : ∀ {fs : List FuncT} {s : Nat}, fnC l s fs q → fnC l s (fs ++ [f]) (t + 1)
  | [], s, h => by cases h; exact ⟨h1, h2, h3, t, h4, h5, rfl⟩
  | c :: fs, s, h => by obtain ⟨a1, a2, a3, u, a4, a5, a6⟩ := h; exact ⟨a1, a2, a3, u, a4, a5, fnC_snoc h1 h2 h3 h4 h5 a6⟩
/-- What has been cut at a place among the functions that begin at K. -/
def Whole (l : List InstT) (K k : Nat) : Prop :=
  (aheadO l k = 0 ∧ k = K ∧ cutTo l k = []) ∨ (aheadO l k = 56 ∧ fnC l K (cutTo l k) k) ∨
  (∃ (fs : List FuncT) (f : FuncT) (s : Nat), cutTo l k = fs ++ [f] ∧ fnC l K fs s ∧ f.2.1 = (s : Int) ∧ (nthI l s).2.2.1 = f.1 ∧
    (((aheadO l k = 54 ∨ aheadO l k = 55) ∧ f.2.2.2.1 = [] ∧ k = s + 1 + f.2.2.1.length) ∨
     (endsB (aheadO l k) = true ∧ f.2.2.2.1 ≠ [] ∧ blkC l (s + 1 + f.2.2.1.length) f.2.2.2.1 k) ∨
     ((aheadO l k ≠ 0 ∧ aheadO l k ≠ 54 ∧ aheadO l k ≠ 55 ∧ aheadO l k ≠ 56 ∧ endsB (aheadO l k) = false) ∧ ∃ (bs : List (Int × Int × Int)) (b : Int × Int × Int) (q : Nat), f.2.2.2.1 = bs ++ [b] ∧ blkC l (s + 1 + f.2.2.1.length) bs q ∧ b.2.1 = (q : Int) ∧ (nthI l q).2.2.1 = b.1 ∧ q < k)))
theorem Whole.step {l : List InstT} {K k : Nat} (h : Whole l K k) (h8 : partI (nthI l k) = 8) (hm : mayF (nthI l k).1 (aheadO l k) (firstB l (k - 1)) = true) : Whole l K (k + 1) := by
  have ha : aheadO l (k + 1) = (nthI l k).1 := by unfold aheadO; rw [if_pos ⟨by omega, by rw [Nat.add_sub_cancel]; exact h8⟩, Nat.add_sub_cancel]
  have hne := op_ne_zero h8
  by_cases h54 : (nthI l k).1 = 54
  · have hc : cutTo l (k + 1) = cutTo l k ++ [((nthI l k).2.2.1, (k : Int), [], [], 0)] := by rw [cutTo]; unfold stepC; rw [if_pos h54]
    have h056 : aheadO l k = 0 ∨ aheadO l k = 56 := by rw [h54] at hm; unfold mayF at hm; simpa using hm
    have hf : fnC l K (cutTo l k) k := by
      rcases h with ⟨_, h1, h2⟩ | ⟨_, h1⟩ | ⟨fs, f, s, _, _, _, _, h1⟩
      · rw [h2]; exact h1.symm
      · exact h1
      · rcases h1 with ⟨h2, _⟩ | ⟨h2, _⟩ | ⟨h2, _⟩
        · omega
        · have := endsB_iff.1 h2; omega
        · omega
    exact .inr (.inr ⟨_, _, k, hc, hf, rfl, rfl, .inl ⟨.inl (ha.trans h54), rfl, rfl⟩⟩)
  · by_cases h55 : (nthI l k).1 = 55
    · have hah : aheadO l k = 54 ∨ aheadO l k = 55 := by rw [h55] at hm; unfold mayF at hm; simpa using hm
      rcases h with ⟨h1, _⟩ | ⟨h1, _⟩ | ⟨fs, f, s, c1, c2, c3, c4, h1⟩
      · omega
      · omega
      · have hc : cutTo l (k + 1) = fs ++ [withParam k f] := by rw [cutTo]; unfold stepC; rw [if_neg h54, if_pos h55, c1, onLast_snoc]
        rcases h1 with ⟨_, h2, h3⟩ | ⟨h2, _⟩ | ⟨h2, _⟩
        · refine .inr (.inr ⟨fs, _, s, hc, c2, c3, c4, .inl ⟨.inr (ha.trans h55), h2, ?_⟩⟩)
          simp [withParam]; omega
        · have := endsB_iff.1 h2; omega
        · omega
    · by_cases h56 : (nthI l k).1 = 56
      · have hah : endsB (aheadO l k) = true := by rw [h56] at hm; unfold mayF at hm; simpa using hm
        have hr := endsB_iff.1 hah
        rcases h with ⟨h1, _⟩ | ⟨h1, _⟩ | ⟨fs, f, s, c1, c2, c3, c4, h1⟩
        · omega
        · omega
        · have hc : cutTo l (k + 1) = fs ++ [withEnd k f] := by rw [cutTo]; unfold stepC; rw [if_neg h54, if_neg h55, if_pos h56, c1, onLast_snoc]
          rcases h1 with ⟨h2, _⟩ | ⟨_, h2, h3⟩ | ⟨h2, _⟩
          · omega
          · refine .inr (.inl ⟨ha.trans h56, ?_⟩)
            rw [hc]
            exact fnC_snoc (f := withEnd k f) c3 c4 h2 rfl h3 c2
          · rw [h2.2.2.2.2] at hah; cases hah
      · by_cases h248 : (nthI l k).1 = 248
        · have hah : aheadO l k = 54 ∨ aheadO l k = 55 ∨ endsB (aheadO l k) = true := by
            rw [h248] at hm; unfold mayF at hm; simpa [or_assoc] using hm
          rcases h with ⟨h1, _⟩ | ⟨h1, _⟩ | ⟨fs, f, s, c1, c2, c3, c4, h1⟩
          · rw [h1] at hah; simp [endsB] at hah
          · rw [h1] at hah; simp [endsB] at hah
          · have hc : cutTo l (k + 1) = fs ++ [withBlock (nthI l k).2.2.1 k f] := by rw [cutTo]; unfold stepC; rw [if_neg h54, if_neg h55, if_neg h56, if_pos h248, c1, onLast_snoc]
            have hin : aheadO l (k + 1) ≠ 0 ∧ aheadO l (k + 1) ≠ 54 ∧ aheadO l (k + 1) ≠ 55 ∧ aheadO l (k + 1) ≠ 56 ∧ endsB (aheadO l (k + 1)) = false := by
              rw [ha, h248]; decide
            have hb : blkC l (s + 1 + f.2.2.1.length) f.2.2.2.1 k := by
              rcases h1 with ⟨_, h2, h3⟩ | ⟨_, _, h3⟩ | ⟨h2, _⟩
              · rw [h2]; exact h3.symm
              · exact h3
              · rcases hah with e | e | e
                · exact absurd e h2.2.1
                · exact absurd e h2.2.2.1
                · rw [h2.2.2.2.2] at e; cases e
            exact .inr (.inr ⟨fs, _, s, hc, c2, c3, c4, .inr (.inr ⟨hin, f.2.2.2.1, ((nthI l k).2.2.1, (k : Int), 0), k, rfl, hb, rfl, rfl, by omega⟩)⟩)
        · have hno : ¬ (aheadO l k == 0 || aheadO l k == 54 || aheadO l k == 55 || aheadO l k == 56 || endsB (aheadO l k)) = true := by
            intro e
            unfold mayF at hm
            rw [if_neg h54, if_neg h55, if_neg h248, if_neg h56, if_pos e] at hm
            cases hm
          simp only [Bool.or_eq_true, beq_iff_eq, not_or] at hno
          rcases h with ⟨h1, _⟩ | ⟨h1, _⟩ | ⟨fs, f, s, c1, c2, c3, c4, h1⟩
          · exact absurd h1 hno.1.1.1.1
          · exact absurd h1 hno.1.2
          · rcases h1 with ⟨h2, _⟩ | ⟨h2, _⟩ | ⟨_, bs, b, q, d1, d2, d3, d4, d5⟩
            · rcases h2 with h2 | h2
              · exact absurd h2 hno.1.1.1.2
              · exact absurd h2 hno.1.1.2
            · exact absurd h2 hno.2
            · cases he : endsB (nthI l k).1 with
              | true =>
                have hc : cutTo l (k + 1) = fs ++ [withTo ((k + 1 : Nat) : Int) f] := by rw [cutTo]; unfold stepC; rw [if_neg h54, if_neg h55, if_neg h56, if_neg h248, he, if_pos rfl, c1, onLast_snoc]
                refine .inr (.inr ⟨fs, _, s, hc, c2, c3, c4, .inr (.inl ⟨by rw [ha]; exact he, ?_, ?_⟩)⟩)
                · simp only [withTo]; rw [d1, endLast_snoc]; simp
                · simp only [withTo]; rw [d1, endLast_snoc]
                  exact blkC_snoc (b := (b.1, b.2.1, ((k + 1 : Nat) : Int))) d3 d4 rfl (by omega) (by rw [Nat.add_sub_cancel]; exact he) d2
              | false =>
                have hc : cutTo l (k + 1) = fs ++ [f] := by rw [cutTo, stepC_other h54 h55 h56 h248 he, c1]
                exact .inr (.inr ⟨fs, f, s, hc, c2, c3, c4, .inr (.inr ⟨by rw [ha]; exact ⟨hne, h54, h55, h56, he⟩, bs, b, q, d1, d2, d3, d4, by omega⟩)⟩)
theorem layE_closed {b : Int} {l : List InstT} (h : (layE b l).1 = 0) : okTo l l.length ∧ modelsN l l.length ≠ 0 ∧ (aheadO l l.length = 0 ∨ aheadO l l.length = 56) := by
  unfold layE at h
  by_cases h1 : (shapeE b l).1 = 0
  · rw [if_neg (by simpa using h1)] at h
    have key : ∀ m k, k + m = l.length → okTo l k → (layF l m k).1 = 0 → okTo l l.length ∧ openE l = false := by
      intro m
      induction m with
      | zero =>
        intro k hk hok h0
        rw [layF] at h0
        cases hO : openE l with
        | true => rw [hO] at h0; simp at h0
        | false => rw [show l.length = k by omega]; exact ⟨hok, rfl⟩
      | succ m ih =>
        intro k hk hok h0
        rw [layF] at h0
        cases hm : mayL l k with
        | false => rw [hm] at h0; simp at h0
        | true => rw [hm, if_pos rfl] at h0; exact ih (k + 1) (by omega) (hok.snoc hm) h0
    obtain ⟨q1, q2⟩ := key l.length 0 (by omega) (okTo_zero l) h
    unfold openE at q2
    simp only [Bool.or_eq_false_iff, decide_eq_false_iff_not] at q2
    refine ⟨q1, q2.1, ?_⟩
    by_cases e : aheadO l l.length = 0
    · exact .inl e
    · by_cases e2 : aheadO l l.length = 56
      · exact .inr e2
      · exact absurd ⟨e, e2⟩ q2.2
  · rw [if_pos h1] at h; exact absurd h h1
theorem sorted9 {l : List InstT} {n i j : Nat} (h : okTo l n) (hij : i ≤ j) (hj : j < n) : partI (nthI l i) ≤ partI (nthI l j) := by
  by_cases e : i = j
  · rw [e]; exact Int.le_refl _
  · have hm := h j hj
    rcases Int.lt_or_le (partI (nthI l j)) (partI (nthI l i)) with h1 | h1
    · rw [mayL_over (by omega) h1] at hm; cases hm
    · exact h1
theorem cnt_low {l : List InstT} {p : Nat} : ∀ {n k : Nat}, okTo l n → k < cntP l p n → k < n ∧ partI (nthI l k) < p
  | 0, k, _, h => by rw [cntP] at h; omega
  | n + 1, k, hok, h => by
    have hle := cntP_le l p n
    rw [cntP] at h
    split at h
    · next hp =>
      by_cases e : k = n
      · subst e; exact ⟨by omega, hp⟩
      · by_cases e2 : k < n
        · exact ⟨by omega, by have := sorted9 hok (show k ≤ n by omega) (by omega); omega⟩
        · omega
    · rw [Nat.add_zero] at h
      have := cnt_low (n := n) (fun i hi => hok i (by omega)) h; omega
theorem cnt_high {l : List InstT} {p : Nat} : ∀ {n k : Nat}, okTo l n → cntP l p n ≤ k → k < n → (p : Int) ≤ partI (nthI l k)
  | 0, k, _, _, h => by omega
  | n + 1, k, hok, h, hk => by
    rcases Int.lt_or_le (partI (nthI l k)) p with h1 | h1
    · have all : ∀ i, i < k + 1 → partI (nthI l i) < p := fun i hi => by have := sorted9 hok (show i ≤ k by omega) hk; omega
      have h2 := cntP_all all
      have mono : ∀ m, k + 1 ≤ m → cntP l p (k + 1) ≤ cntP l p m := by
        intro m
        induction m with
        | zero => intro h; omega
        | succ m ih => intro hm; by_cases e : k = m
                       · subst e; exact Nat.le_refl _
                       · exact Nat.le_trans (ih (by omega)) (Nat.le_add_right _ _)
      have := mono (n + 1) (by omega)
      omega
    · exact h1
/-- The functions of a module in order. -/
theorem whole_cut {b : Int} {l : List InstT} (h : (layE b l).1 = 0) : fnC l (cntP l 8 l.length) (cutTo l l.length) l.length := by
  obtain ⟨hok, hmo, hah⟩ := layE_closed h
  have hK := cntP_le l 8 l.length
  have hlow : ∀ i, i < cntP l 8 l.length → partI (nthI l i) < 8 := fun i hi => (cnt_low hok hi).2
  have start : Whole l (cntP l 8 l.length) (cntP l 8 l.length) := by
    refine .inl ⟨?_, rfl, cutTo_front hlow⟩
    unfold aheadO
    rw [if_neg (fun e => by have := hlow (cntP l 8 l.length - 1) (by omega); omega)]
  have all : ∀ d, cntP l 8 l.length + d ≤ l.length → Whole l (cntP l 8 l.length) (cntP l 8 l.length + d) := by
    intro d
    induction d with
    | zero => intro _; exact start
    | succ d ih =>
      intro hd
      have h1 := ih (by omega)
      have h8 : partI (nthI l (cntP l 8 l.length + d)) = 8 := by
        have := cnt_high (p := 8) hok (show cntP l 8 l.length ≤ cntP l 8 l.length + d by omega) (by omega)
        have := partI_eight (nthI l (cntP l 8 l.length + d))
        omega
      have hmay := hok (cntP l 8 l.length + d) (by omega)
      have hmo2 : modelsN l (cntP l 8 l.length + d) ≠ 0 := fun e => by rw [mayL_noModel (by omega) e] at hmay; cases hmay
      rw [mayL_eight h8 (fun i _ => (partI_eight _).2) hmo2] at hmay
      exact h1.step h8 hmay
  have hend := all (l.length - cntP l 8 l.length) (by omega)
  rw [show cntP l 8 l.length + (l.length - cntP l 8 l.length) = l.length by omega] at hend
  rcases hend with ⟨_, h1, h2⟩ | ⟨_, h1⟩ | ⟨fs, f, s, _, _, _, _, h1⟩
  · rw [h2]; exact h1.symm
  · exact h1
  · rcases h1 with ⟨h2, _⟩ | ⟨h2, _⟩ | ⟨h2, _⟩
    · omega
    · have := endsB_iff.1 h2; omega
    · omega
/-- The parts of a module in order. -/
theorem one_model {l : List InstT} : ∀ {n : Nat}, okTo l n → modelsN l n ≤ 1
  | 0, _ => by simp [modelsN]
  | n + 1, h => by
    have ih := one_model (n := n) (fun i hi => h i (by omega))
    rw [modelsN]
    split
    · next h1 =>
      have hm := h n (by omega)
      by_cases e : modelsN l n = 0
      · omega
      · rw [mayL_twoModels h1 e] at hm; cases hm
    · omega
theorem own_models (l : List InstT) : ∀ n, ownP l 1 n = modelsN l n
  | 0 => rfl
  | n + 1 => by rw [ownP, modelsN, own_models l n]; rfl
theorem whole_model {b : Int} {l : List InstT} (h : (layE b l).1 = 0) : cntP l 2 l.length = cntP l 1 l.length + 1 := by
  obtain ⟨hok, hmo, _⟩ := layE_closed h
  have := one_model hok
  rw [cnt_own l 1, own_models]
  omega
theorem cntP_zero (l : List InstT) : ∀ n, cntP l 0 n = 0
  | 0 => rfl
  | n + 1 => by rw [cntP, cntP_zero l n, if_neg (by have := partI_eight (nthI l n); omega)]
theorem cntP_mono (l : List InstT) (p n : Nat) : cntP l p n ≤ cntP l (p + 1) n := by rw [cnt_own]; omega
theorem cntP_top (l : List InstT) (p : Nat) (hp : 9 ≤ p) (n : Nat) : cntP l p n = n := cntP_all fun i _ => by have := partI_eight (nthI l i); omega
end Go.Proofs.Ytcckepjpehjijaa
