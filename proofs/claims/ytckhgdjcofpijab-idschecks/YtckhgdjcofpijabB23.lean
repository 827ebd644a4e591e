/-
  Texts laid together in one: Ref09Check, KitCopyInst, KitCopyModule, LawIdsChecks.
-/
import Derived.WalkSpells
import Derived.WalkMore
import Derived.BigRegion
import Derived.Deep.MidRow
import Derived.Test.YtckhgdjcofpijabProg
import Derived.Test.YtckhgdjcofpijabB19
import Derived.Test.YtckhgdjcofpijabB17
import Derived.Test.YtckhgdjcofpijabB20
import Derived.Test.YtckhgdjcofpijabB22
import Derived.Deep.RegionWith
import Derived.Deep.DrawnRows
import Derived.Deep.QuietTactic
import Derived.BigQuiet
import Derived.Test.YtckhgdjcofpijabB12
import Derived.Test.YtckhgdjcofpijabB01
import Derived.Test.YtckhgdjcofpijabB08
import Derived.Test.YtckhgdjcofpijabB04
/-
  The document's Fault and Check of a module's ids.
-/
namespace Go.Proofs.Ytckhgdjcofpijab
open Go.RowKit
set_option linter.unusedVariables false
set_option linter.unusedSimpArgs false
set_option maxRecDepth 10000

theorem makV_some {l : List InstT} {k : Nat} {id : Int} (h : (makT l k id).isSome = true) : decide (0 ≤ makV l k id) = true ∧ decide (makV l k id < 0) = false := by
  obtain ⟨p, hp⟩ := Option.isSome_iff_exists.1 h
  have := makT_some l id k p hp
  unfold makV
  rw [hp]
  simp
  omega
theorem makV_none {l : List InstT} {k : Nat} {id : Int} (h : (makT l k id).isSome = false) : decide (0 ≤ makV l k id) = false ∧ decide (makV l k id < 0) = true := by
  have hn : makT l k id = none := by cases h2 : makT l k id with
    | none => rfl
    | some p => rw [h2] at h; cases h
  unfold makV
  rw [hn]
  simp

set_option maxHeartbeats 8000000 in
theorem refFault9_any (a : Option Addr) (n c : Nat) (l : List InstT) (k : Nat) (w : World) (hv : InstsV w a l) (hok : InstsOk l) (hl : l.length = n) (hn : n ≤ 1048576) (hvar : VarsOk l) (hk : k < n) :
    Calls Try.prog 19 #[.slice a n c, .int .i64 k] w fun e w' => e = .returned (.int .i64 (faultAt l k)) ∧ Below w.heap.size w w' := by
  obtain ⟨F, hF⟩ : ∃ F, F = faultAt l k := ⟨_, rfl⟩
  rw [← hF]
  have HF := hide hF
  have HMk := hide fun wx id (to : Nat) (hb : Below w.heap.size w wx) (ht : to ≤ n) => refMaker_any a n c l id to wx (hv.below hb) hl (by omega) ht
  have HV := hide hv
  have HOK := hide hok
  have HL := hide hl
  have hk0 : (0 : Int) ≤ (k : Int) := by omega
  have hki : (k : Int) < (n : Int) := by omega
  have hkl : k < l.length := by rw [hl]; exact hk
  obtain ⟨g1, o1, ai, ci, na, ha, hg1, p1, p2, p3, p4, p5, p6, p7⟩ := hv k hkl
  have hIx := (hok k hkl).2.2.2.2.2.2.2
  rw [p5] at hIx
  have HId := hide fun wx (hb : Below w.heap.size w wx) => refIds_any (nthI l k) ai na ci wx (p6.below hb) p5 hIx
  have HPt := hide fun wx (hb : Below w.heap.size w wx) => refPart_any (nthI l k) ai na ci wx (p6.below hb) p5 (fun e => by rw [← p5]; exact hvar k hkl e)
  have HRNG0 := hide (idsA_range (hok k hkl))
  unfold instV at HId HPt
  have HCELLS : Hid (∀ wx, Below w.heap.size w wx → g1 < wx.heap.size ∧ wx.cell? ⟨g1, o1 + k * 4, none⟩ = some (.int .u16 (nthI l k).1) ∧ wx.cell? ⟨g1, o1 + k * 4 + 1, none⟩ = some (.int .u32 (nthI l k).2.1) ∧ wx.cell? ⟨g1, o1 + k * 4 + 2, none⟩ = some (.int .u32 (nthI l k).2.2.1) ∧ wx.cell? ⟨g1, o1 + k * 4 + 3, none⟩ = some (.slice ai na ci)) := fun wx hb =>
    ⟨Nat.lt_of_lt_of_le hg1 hb.size, (hb.cell (p := ⟨g1, o1 + k * 4, none⟩) hg1).trans p1, (hb.cell (p := ⟨g1, o1 + k * 4 + 1, none⟩) hg1).trans p2, (hb.cell (p := ⟨g1, o1 + k * 4 + 2, none⟩) hg1).trans p3, (hb.cell (p := ⟨g1, o1 + k * 4 + 3, none⟩) hg1).trans p4⟩
  subst ha
  have hmk := HMk.out w (nthI l k).2.2.1 k (Below.refl _ _) (by omega)
  have HF90 : Hid ((makT l k (nthI l k).2.2.1).isSome = true → faultAt l k = 90) := fun h => fault_first h
  have HF91 : Hid ((makT l k (nthI l k).2.2.1).isSome = false → ∀ j, j < (idsI (nthI l k)).length → (makT l l.length (nth (idsI (nthI l k)) j)).isSome = false → faultAt l k = 91) := fun h j hj hn2 => fault_unknown h hj hn2
  have HFEND : Hid ((makT l k (nthI l k).2.2.1).isSome = false → allMade l l.length ((idsI (nthI l k)).take (idsI (nthI l k)).length) = true → faultAt l k = if aheadJ l k (idsI (nthI l k)).length = true then 92 else 0) := fun h h2 => faultAt_end h h2
  have HIL : Hid ((idsI (nthI l k)).length ≤ 1 + na) := by
    have h1 : (idsI (nthI l k)).length ≤ 1 + (nthI l k).2.2.2.length := by have := idsTo_len (nthI l k).2.1 (nthI l k).2.2.2 (nthI l k).2.2.2.length; unfold idsI; omega
    show _ ≤ _
    rw [p5] at h1; exact h1
  have HAH : Hid (aheadJ l k (idsI (nthI l k)).length = (decide (partI (nthI l k) = 7) && !allMade l k ((idsI (nthI l k)).take (idsI (nthI l k)).length))) := rfl
  clear hv hok hl hvar hF p1 p2 p4 p5 p6 p7 hkl
  generalize idsI (nthI l k) = zs at *
  generalize partI (nthI l k) = pt at *
  by_cases h90 : (makT l k (nthI l k).2.2.1).isSome = true
  · obtain ⟨d1, _⟩ := makV_some h90
    obtain rfl : F = 90 := HF.out.trans (HF90.out h90)
    clear h90 HF90 HF91 HFEND
    generalize makV l k (nthI l k).2.2.1 = mv at *
    go_enter Try.func19, Try.ntmps19
    go_wp2_with fail
    refine hmk.mono ?_
    rintro e w1 ⟨rfl, rfl⟩
    clear hmk
    go_wp2_with fail
    go_ret
    exact ⟨rfl, Below.refl _ _⟩
  · have h90' : (makT l k (nthI l k).2.2.1).isSome = false := by simpa using h90
    obtain ⟨d1, _⟩ := makV_none h90'
    have HG91 := hide (HF91.out h90')
    have HGEND := hide (HFEND.out h90')
    have hId := HId.out w (Below.refl _ _)
    obtain ⟨_, c0, c1, c2, c3⟩ := HCELLS.out w (Below.refl _ _)
    clear h90 h90' HF90 HF91 HFEND
    generalize makV l k (nthI l k).2.2.1 = mv at *
    go_enter Try.func19, Try.ntmps19
    go_wp2_with fail
    refine hmk.mono ?_
    rintro e w1 ⟨rfl, rfl⟩
    clear hmk
    go_wp2_with fail
    refine hId.mono ?_
    rintro e w1 ⟨hb1, az, m, cz, rfl, hm1, hown1⟩
    have HVZ := hide (View.ofOwn hown1 hm1)
    have HM1 := hide hm1
    have HB1 := hide hb1
    have hmn : m ≤ 1 + na := by rw [← hm1]; exact HIL.out
    have HRNG : Hid (∀ j, j < m → 0 ≤ nth zs j ∧ nth zs j < 4294967296) := fun j hj => by
      have hjl : j < zs.length := by rw [HM1.out]; exact hj
      refine HRNG0.out (nth zs j) ?_
      simp only [nth, List.getD, List.getElem?_eq_getElem hjl]
      exact List.getElem_mem hjl
    clear hId hown1 hm1 hb1 c0 c1 c2 c3 p3 d1
    go_wp2_with fail
    go_loopw [6] (fun i wr => ∃ j : Nat, j ≤ m ∧ i = .int .i64 j ∧ allMade l n (zs.take j) = true ∧ Below w1.heap.size w1 wr) (fun i _ => m - (intOf i).toNat)
    case atStart => exact ⟨0, Nat.zero_le _, rfl, by simp [allMade], Below.refl _ _⟩
    case round =>
      obtain ⟨j, hj, rfl, hall, hbr⟩ := hrel
      have HALL := hide hall
      have HBR := hide hbr
      clear hall
      by_cases hjm : j < m
      · have hj0 : (0 : Int) ≤ (j : Int) := by omega
        have hji : (j : Int) < (m : Int) := by omega
        obtain ⟨gz, oz, rfl, hgz, hcz⟩ := (HVZ.out.below hbr) j (by rw [HM1.out]; exact hjm)
        have hmj := HMk.out wr (nth zs j) n (HB1.out.trans (hbr.mono HB1.out.size)) (Nat.le_refl _)
        have HALLN : Hid (allMade l n (zs.take (j + 1)) = (allMade l n (zs.take j) && (makT l n (nth zs j)).isSome)) := allMade_snoc l n zs j (by rw [HM1.out]; exact hjm)
        clear hbr
        cases hmt : (makT l n (nth zs j)).isSome with
        | false =>
          obtain ⟨_, d2⟩ := makV_none hmt
          obtain rfl : F = 91 := HF.out.trans (HG91.out j (by rw [HM1.out]; exact hjm) (by rw [HL.out]; exact hmt))
          have HBF := hide (HB1.out.trans (HBR.out.mono HB1.out.size))
          clear hmt
          generalize makV l n (nth zs j) = mv2 at *
          go_wp2_with fail
          refine hmj.mono ?_
          rintro e w2 ⟨rfl, rfl⟩
          clear hmj
          go_wp2_with fail
          go_ret
          exact ⟨rfl, HBF.out⟩
        | true =>
          obtain ⟨_, d2⟩ := makV_some hmt
          have HA2 : Hid (allMade l n (zs.take (j + 1)) = true) := by show _ = _; rw [HALLN.out, HALL.out, hmt]; rfl
          clear hmt
          generalize makV l n (nth zs j) = mv2 at *
          go_wp2_with fail
          refine hmj.mono ?_
          rintro e w2 ⟨rfl, rfl⟩
          clear hmj
          go_wp2_with fail
          go_roundw
          case rel => exact ⟨j + 1, by omega, by go_num, HA2.out, HBR.out⟩
          case measure => simp [intOf]; omega
      · obtain rfl : j = m := by omega
        rename World => wo
        have HGE := hide (HGEND.out (by rw [HM1.out, HL.out]; exact HALL.out))
        have HBO := hide (HB1.out.trans (hbr.mono HB1.out.size))
        have HVO := hide (HVZ.out.below hbr)
        clear hbr
        go_wp2_with fail
        go_loopw [7] (fun i wr => ∃ q : Nat, q ≤ j ∧ i = .int .i64 q ∧ (pt = 7 → allMade l k (zs.take q) = true) ∧ Below wo.heap.size wo wr) (fun i _ => j - (intOf i).toNat)
        case atStart => exact ⟨0, Nat.zero_le _, rfl, fun _ => by simp [allMade], Below.refl _ _⟩
        case round =>
          obtain ⟨q, hq, rfl, hal, hbq⟩ := hrel
          have HAL := hide hal
          have HBQ := hide hbq
          have HBF := hide (HBO.out.trans (hbq.mono HBO.out.size))
          clear hal
          by_cases hqm : q < j
          · have hq0 : (0 : Int) ≤ (q : Int) := by omega
            have hqi : (q : Int) < (j : Int) := by omega
            obtain ⟨gz, oz, rfl, hgz, hcz⟩ := (HVO.out.below hbq) q (by rw [HM1.out]; exact hqm)
            have hPt := HPt.out wr HBF.out
            obtain ⟨hgw, c0, c1, c2, c3⟩ := HCELLS.out wr HBF.out
            have HALLN : Hid (allMade l k (zs.take (q + 1)) = (allMade l k (zs.take q) && (makT l k (nth zs q)).isSome)) := allMade_snoc l k zs q (by rw [HM1.out]; exact hqm)
            clear hbq
            by_cases h7 : pt = 7
            · have h7' : (pt == 7) = true := by simpa using h7
              cases hmt : (makT l k (nth zs q)).isSome with
              | false =>
                obtain ⟨_, d2⟩ := makV_none hmt
                obtain rfl : F = 92 := by
                  rw [HF.out, HGE.out, HAH.out]
                  have hz : allMade l k (zs.take zs.length) = false := by rw [List.take_length]; exact allMade_false (by rw [HM1.out]; exact hqm) hmt
                  rw [hz]
                  simp [h7]
                clear hmt h7
                go_wp2_with fail
                refine hPt.mono ?_
                rintro e w2 ⟨rfl, hb2⟩
                have hmj := HMk.out w2 (nth zs q) k (HBF.out.trans (hb2.mono HBF.out.size)) (by omega)
                have hcz2 := (hb2.cell (p := ⟨gz, oz + q, none⟩) hgz).trans hcz
                have hgz2 : gz < w2.heap.size := Nat.lt_of_lt_of_le hgz hb2.size
                have HBF2 := hide (HBF.out.trans (hb2.mono HBF.out.size))
                clear hPt hb2 c0 c1 c2 c3 hcz
                generalize makV l k (nth zs q) = mv2 at *
                go_wp2_with fail
                refine hmj.mono ?_
                rintro e w3 ⟨rfl, rfl⟩
                clear hmj
                go_wp2_with fail
                go_ret
                exact ⟨rfl, HBF2.out⟩
              | true =>
                obtain ⟨_, d2⟩ := makV_some hmt
                have HA2 : Hid (pt = 7 → allMade l k (zs.take (q + 1)) = true) := fun h => by rw [HALLN.out, HAL.out h, hmt]; rfl
                clear hmt h7
                go_wp2_with fail
                refine hPt.mono ?_
                rintro e w2 ⟨rfl, hb2⟩
                have hmj := HMk.out w2 (nth zs q) k (HBF.out.trans (hb2.mono HBF.out.size)) (by omega)
                have hcz2 := (hb2.cell (p := ⟨gz, oz + q, none⟩) hgz).trans hcz
                have hgz2 : gz < w2.heap.size := Nat.lt_of_lt_of_le hgz hb2.size
                have HBQ2 := hide (HBQ.out.trans (hb2.mono HBQ.out.size))
                clear hPt hb2 c0 c1 c2 c3 hcz
                generalize makV l k (nth zs q) = mv2 at *
                go_wp2_with fail
                refine hmj.mono ?_
                rintro e w3 ⟨rfl, rfl⟩
                clear hmj
                go_wp2_with fail
                go_roundw
                case rel => exact ⟨q + 1, by omega, by go_num, HA2.out, HBQ2.out⟩
                case measure => simp [intOf]; omega
            · have h7' : (pt == 7) = false := by simpa using h7
              have HA2 : Hid (pt = 7 → allMade l k (zs.take (q + 1)) = true) := fun h => absurd h h7
              clear h7
              go_wp2_with fail
              refine hPt.mono ?_
              rintro e w2 ⟨rfl, hb2⟩
              have HBQ2 := hide (HBQ.out.trans (hb2.mono HBQ.out.size))
              clear hPt hb2 c0 c1 c2 c3 hcz
              go_wp2_with fail
              go_roundw
              case rel => exact ⟨q + 1, by omega, by go_num, HA2.out, HBQ2.out⟩
              case measure => simp [intOf]; omega
          · obtain rfl : q = j := by omega
            obtain rfl : F = 0 := by
              rw [HF.out, HGE.out, HAH.out, HM1.out]
              by_cases h7 : pt = 7
              · rw [HAL.out h7]; simp
              · simp [h7]
            clear hbq
            go_wp2_with fail
            go_ret
            exact ⟨rfl, HBF.out⟩

set_option maxHeartbeats 8000000 in
theorem refCheck9_any (gen bnd : Int) (a : Option Addr) (n c : Nat) (l : List InstT) (w : World) (hv : InstsV w a l) (hok : InstsOk l) (hl : l.length = n) (hn : 40 * n ≤ 140737488351232) (b0 : 0 ≤ bnd) (b1 : bnd < 4294967296) :
    Calls Try.prog 10 #[modV gen bnd a n c] w fun e w' => e = .returned (.agg #[.int .i64 (idsE bnd l).1, .int .i64 ((idsE bnd l).2 : Int)]) ∧ Below w.heap.size w w' := by
  obtain ⟨L, hL⟩ : ∃ L, L = idsE bnd l := ⟨_, rfl⟩
  rw [← hL]
  have hb0 : Below w.heap.size w ((w.alloc (.cells #[.int .u32 gen, .int .u32 bnd, .slice a n c] 25)).alloc (.cells #[.int .i64 0, .int .i64 0] 28)) := ((Below.refl _ w).alloc (Nat.le_refl _) _).alloc (by simp) _
  have hCk := refCheck5_any gen bnd a n c l _ (hv.below hb0) hok hl hn b0 b1
  have HE1 : Hid ((layE bnd l).1 ≠ 0 → L = layE bnd l) := fun h => by rw [hL]; unfold idsE; rw [if_pos h]
  have HE0 : Hid ((layE bnd l).1 = 0 → L = idsF l l.length 0 ∧ n ≤ 1048576 ∧ VarsOk l) := fun h => by
    obtain ⟨q1, q2, q3⟩ := layE_ok h
    exact ⟨by rw [hL]; unfold idsE; rw [if_neg (by simpa using h)], by rw [← hl]; exact (shape_few q2).1, fun k hk h59 => var_args (b := bnd) (shape_each q2 k hk) h59⟩
  have HMB : Hid (((w.alloc (.cells #[.int .u32 gen, .int .u32 bnd, .slice a n c] 25)).alloc (.cells #[.int .i64 0, .int .i64 0] 28)).heap[w.heap.size]? = some (.cells #[.int .u32 gen, .int .u32 bnd, .slice a n c] 25 (0, 0))) := by
    show _ = _
    rw [Below.heap_alloc _ _ _ (by simp)]; exact heap_alloc_new w _
  have HRB : Hid (SpotB ((w.alloc (.cells #[.int .u32 gen, .int .u32 bnd, .slice a n c] 25)).alloc (.cells #[.int .i64 0, .int .i64 0] 28)) (w.heap.size + 1) 0 0) := by
    have := heap_alloc_new (w.alloc (.cells #[.int .u32 gen, .int .u32 bnd, .slice a n c] 25)) (.cells #[.int .i64 0, .int .i64 0] 28)
    rw [World.size_alloc] at this
    exact this
  have HLT : Hid (w.heap.size + 1 < ((w.alloc (.cells #[.int .u32 gen, .int .u32 bnd, .slice a n c] 25)).alloc (.cells #[.int .i64 0, .int .i64 0] 28)).heap.size) := by show _ < _; simp
  have HB0 := hide hb0
  have HV := hide hv
  have HOK := hide hok
  have HL := hide hl
  have HRET : Hid (∀ (a' : Act) (Z : World), slot a'.tmps 2 = .pointer (some ⟨w.heap.size + 1, 0, none⟩) → a'.defers = [] → SpotB Z (w.heap.size + 1) L.1 (L.2 : Int) → Below w.heap.size w Z → bodyPost Try.prog Try.f10 (fun e w' => e = .returned (.agg #[.int .i64 L.1, .int .i64 (L.2 : Int)]) ∧ Below w.heap.size w w') .ret a' Z) := by
    intro a' Z q2 q3 q4 q5
    have r6 := run_loadVar_mid (P := Try.prog) Z (w.heap.size + 1) 0 28 [.int .i64 L.1, .int .i64 (L.2 : Int)] _ (range_of_block q4) Try.underlying28 rfl (by kernel_rfl)
    refine bodyPost_ret (v := .agg #[.int .i64 L.1, .int .i64 (L.2 : Int)]) ?_ q3 ⟨rfl, q5⟩
    have hG2 : a'.tmps.getD 2 undef = .pointer (some ⟨w.heap.size + 1, 0, none⟩) := q2
    simp only [results, Try.results10, List.mapM_toArray, List.mapM_cons, List.mapM_nil, hG2, asAddr, Sem.run_bind, Sem.run_pure, Result.andThen_ok, bind_assoc, pure_bind, Sem.run_map, map_pure, r6]
    rfl
  generalize layE bnd l = E at *
  obtain ⟨e1, e2⟩ := E
  unfold modV at *
  simp only at *
  clear hb0 hv hok hl hL
  go_enter Try.func10, Try.ntmps10
  go_wp2_with fail
  generalize (w.alloc (.cells #[.int .u32 gen, .int .u32 bnd, .slice a n c] 25)).alloc (.cells #[.int .i64 0, .int .i64 0] 28) = W0 at *
  refine hCk.mono ?_
  rintro e w1 ⟨rfl, hb1⟩
  have kl := HLT.out
  have kw : W0.heap.size ≤ w1.heap.size := hb1.size
  have m2 := (hb1.cell (p := ⟨w.heap.size, 2, none⟩) (show w.heap.size < W0.heap.size by omega)).trans ((one_block HMB.out).1 2)
  have kr : SpotB w1 (w.heap.size + 1) 0 0 := (hb1.block (w.heap.size + 1) HLT.out).trans HRB.out
  obtain ⟨cr, fr⟩ := one_block kr
  have r0 := cr 0
  have r1 := cr 1
  have HB1 := hide hb1
  have hHl : w.heap.size < w1.heap.size := by omega
  have hHl1 : w.heap.size + 1 < w1.heap.size := by omega
  have FINE : Hid (∀ (X : World) (x y : Int), Below W0.heap.size W0 X → SpotB ((X.setCell ⟨w.heap.size + 1, 0, none⟩ (.int .i64 x)).setCell ⟨w.heap.size + 1, 1, none⟩ (.int .i64 y)) (w.heap.size + 1) x y ∧ Below w.heap.size w ((X.setCell ⟨w.heap.size + 1, 0, none⟩ (.int .i64 x)).setCell ⟨w.heap.size + 1, 1, none⟩ (.int .i64 y))) := fun X x y hX =>
    ⟨SpotB.put (e := 0) (p := 0) ((hX.block _ kl).trans HRB.out) x y, below_grown (HB0.out.trans (hX.mono HB0.out.size)) (setCells_grown (w.heap.size + 1) [.int .i64 x, .int .i64 y] 0 X) (fun g e => by simp at e; omega)⟩
  clear hCk hb1 cr
  by_cases hE0 : e1 = 0
  · subst hE0
    obtain ⟨hLf, hnn, hvar⟩ := HE0.out rfl
    have HLF := hide hLf
    have HVAR := hide hvar
    have hb2 : Below W0.heap.size W0 (w1.alloc (.cells #[.int .i64 0, .int .i64 e2] 28)) := HB1.out.alloc HB1.out.size _
    have HB2 := hide hb2
    have HM2 : Hid ((w1.alloc (.cells #[.int .i64 0, .int .i64 e2] 28)).cell? ⟨w.heap.size, 2, none⟩ = some (.slice a n c)) := (World.cell?_of_block (a := ⟨w.heap.size, 2, none⟩) (Below.heap_alloc _ _ _ hHl)).trans m2
    have HS2 : Hid (w.heap.size + 1 < (w1.alloc (.cells #[.int .i64 0, .int .i64 e2] 28)).heap.size) := by show _ < _; rw [World.size_alloc]; omega
    clear hLf hvar HE0 HE1 kr r0 r1 fr hb2
    go_wp2_with fail
    clear m2
    generalize w1.alloc (.cells #[.int .i64 0, .int .i64 e2] 28) = W1 at *
    have hls := HS2.out
    go_loopw [4] (fun i wr => ∃ k : Nat, k ≤ n ∧ i = .int .i64 k ∧ (∀ i, i < k → faultAt l i = 0) ∧ Below W1.heap.size W1 wr) (fun i _ => n - (intOf i).toNat)
    case atStart => exact ⟨0, Nat.zero_le _, rfl, fun i hi => by omega, Below.refl _ _⟩
    case round =>
      obtain ⟨k, hk, rfl, hgood, hbr⟩ := hrel
      have HGOOD := hide hgood
      have HB := hide hbr
      have HBX := hide (HB2.out.trans (hbr.mono HB2.out.size))
      have m2 := (hbr.cell (p := ⟨w.heap.size, 2, none⟩) (show w.heap.size < W1.heap.size by omega)).trans HM2.out
      have hlr : w.heap.size + 1 < wr.heap.size := Nat.lt_of_lt_of_le hls hbr.size
      have hrb : SpotB wr (w.heap.size + 1) 0 0 := (HBX.out.block _ kl).trans HRB.out
      obtain ⟨cr, fr⟩ := one_block hrb
      have r0 := cr 0
      have r1 := cr 1
      clear hgood cr hrb
      by_cases hlt : k < n
      · have hki : (k : Int) < (n : Int) := by omega
        have hFt := refFault9_any a n c l k wr (HV.out.below (HB0.out.trans (HBX.out.mono HB0.out.size))) HOK.out HL.out hnn HVAR.out hlt
        by_cases hf : faultAt l k = 0
        · have HG2 : Hid (∀ i, i < k + 1 → faultAt l i = 0) := fun i hi => by
            by_cases e : i = k
            · rw [e]; exact hf
            · exact HGOOD.out i (by omega)
          rw [hf] at hFt
          clear hbr hf
          go_wp2_with fail
          refine hFt.mono ?_
          rintro e w2 ⟨rfl, hb2⟩
          have HB3 := hide (HB.out.trans (hb2.mono HB.out.size))
          clear hFt hb2 m2 r0 r1 fr
          go_wp2_with fail
          go_roundw
          case rel => exact ⟨k + 1, by omega, by go_num, HG2.out, HB3.out⟩
          case measure => simp [intOf]; omega
        · have hf' : (faultAt l k != 0) = true := by simpa using hf
          have HLE : Hid (L = (faultAt l k, k)) := by
            show _ = _
            rw [HLF.out, idsF_at (by rw [HL.out]; exact hlt) HGOOD.out hf]
          clear hbr hf
          generalize faultAt l k = ff at *
          go_wp2_with fail
          refine hFt.mono ?_
          rintro e w2 ⟨rfl, hb2⟩
          obtain ⟨f1, f2⟩ := FINE.out w2 ff k (HBX.out.trans (hb2.mono HBX.out.size))
          have F1 := hide f1
          have F2 := hide f2
          obtain ⟨cr2, fr2⟩ := one_block (show SpotB w2 (w.heap.size + 1) 0 0 from (hb2.block _ hlr).trans ((HBX.out.block _ kl).trans HRB.out))
          have t0 := cr2 0
          have t1 := cr2 1
          have hl2 : w.heap.size + 1 < w2.heap.size := Nat.lt_of_lt_of_le hlr hb2.size
          clear hFt hb2 m2 r0 r1 fr f1 f2 cr2
          go_wp2_with fail
          exact HRET.out _ _ rfl rfl (by rw [HLE.out]; exact F1.out) F2.out
      · obtain rfl : k = n := by omega
        have HLE : Hid (L = (0, 0)) := by
          show _ = _
          rw [HLF.out]
          exact idsF_done (fun i hi => HGOOD.out i (by rw [← HL.out]; exact hi))
        obtain ⟨f1, f2⟩ := FINE.out wr 0 0 HBX.out
        have F1 := hide f1
        have F2 := hide f2
        clear hbr f1 f2
        go_wp2_with fail
        exact HRET.out _ _ rfl rfl (by rw [HLE.out]; exact F1.out) F2.out
  · have hE1 : (e1 != 0) = true := by simpa using hE0
    have HLE := hide (HE1.out hE0)
    obtain ⟨f1, f2⟩ := FINE.out w1 e1 e2 HB1.out
    have F1 := hide f1
    have F2 := hide f2
    clear hE0 HE0 HE1 f1 f2
    go_wp2_with fail
    refine HRET.out _ _ rfl rfl ?_ (F2.out.alloc F2.out.size _)
    rw [HLE.out]
    refine (Below.heap_alloc _ _ _ ?_).trans F1.out
    rw [World.size_setCell, World.size_setCell]; exact hHl1
end Go.Proofs.Ytckhgdjcofpijab

/-
  CopyInst of the kit answers the instruction in new memory.
-/
namespace Go.Proofs.Ytckhgdjcofpijab
open Go.RowKit

theorem CopyInst.info : (Try.prog.info? 33).map (fun i => (i.zero, i.size, i.bytes)) = some (some (.agg #[.int .u8 0, .int .u32 0, .string ⟨#[]⟩]), 3, 24) := by kernel_rfl

/-- The first k arguments lie in the row at g. -/
structure PartA (w : World) (g n k : Nat) (l : List ArgT) : Prop where
  row : ∃ cs : Array Value, w.heap[g]? = some (.cells cs 33 (0, 0)) ∧ cs.size = n * 3
  each : ∀ j, j < k → w.cell? ⟨g, j * 3, none⟩ = some (.int .u8 (nthA l j).1) ∧ w.cell? ⟨g, j * 3 + 1, none⟩ = some (.int .u32 (nthA l j).2.1) ∧ w.cell? ⟨g, j * 3 + 2, none⟩ = some (.string (nthA l j).2.2)

theorem cells_can {w : World} {g T : Nat} {cs : Array Value} (h : w.heap[g]? = some (.cells cs T (0, 0))) (j : Nat) (hj : j < cs.size) : (∃ v, w.cell? ⟨g, j, none⟩ = some v) ∧ w.frozen? ⟨g, j, none⟩ = false := by
  refine ⟨⟨cs[j], by simp [World.cell?, h, hj]⟩, by simp [World.frozen?, h]⟩

theorem PartA.store {w : World} {g n k : Nat} {l : List ArgT} (h : PartA w g n k l) (hk : k < n) :
    PartA (((w.setCell ⟨g, k * 3, none⟩ (.int .u8 (nthA l k).1)).setCell ⟨g, k * 3 + 1, none⟩ (.int .u32 (nthA l k).2.1)).setCell ⟨g, k * 3 + 2, none⟩ (.string (nthA l k).2.2)) g n (k + 1) l := by
  obtain ⟨⟨cs, h1, h2⟩, h3⟩ := h
  obtain ⟨W, hW⟩ : ∃ W, W = ((w.setCell ⟨g, k * 3, none⟩ (.int .u8 (nthA l k).1)).setCell ⟨g, k * 3 + 1, none⟩ (.int .u32 (nthA l k).2.1)).setCell ⟨g, k * 3 + 2, none⟩ (.string (nthA l k).2.2) := ⟨_, rfl⟩
  have hb : W.heap[g]? = some (.cells (((cs.setIfInBounds (k * 3) (.int .u8 (nthA l k).1)).setIfInBounds (k * 3 + 1) (.int .u32 (nthA l k).2.1)).setIfInBounds (k * 3 + 2) (.string (nthA l k).2.2)) 33 (0, 0)) := by
    rw [hW]; simp [World.setCell, Array.getElem?_modify, h1]
  have cell : ∀ j, W.cell? ⟨g, j, none⟩ = (((cs.setIfInBounds (k * 3) (.int .u8 (nthA l k).1)).setIfInBounds (k * 3 + 1) (.int .u32 (nthA l k).2.1)).setIfInBounds (k * 3 + 2) (.string (nthA l k).2.2))[j]? := fun j => by
    simp [World.cell?, hb]
  have old : ∀ j, w.cell? ⟨g, j, none⟩ = cs[j]? := fun j => by simp [World.cell?, h1]
  rw [← hW]
  refine ⟨⟨_, hb, by simp [h2]⟩, fun j hj => ?_⟩
  by_cases hjk : j < k
  · obtain ⟨c1, c2, c3⟩ := h3 j hjk
    rw [old] at c1 c2 c3
    refine ⟨?_, ?_, ?_⟩
    all_goals rw [cell, Array.getElem?_setIfInBounds_ne (by omega), Array.getElem?_setIfInBounds_ne (by omega), Array.getElem?_setIfInBounds_ne (by omega)]
    · exact c1
    · exact c2
    · exact c3
  · obtain rfl : j = k := by omega
    refine ⟨?_, ?_, ?_⟩
    · rw [cell, Array.getElem?_setIfInBounds_ne (by omega), Array.getElem?_setIfInBounds_ne (by omega), Array.getElem?_setIfInBounds_self_of_lt (by omega)]
    · rw [cell, Array.getElem?_setIfInBounds_ne (by omega), Array.getElem?_setIfInBounds_self_of_lt (by simp; omega)]
    · rw [cell, Array.getElem?_setIfInBounds_self_of_lt (by simp; omega)]

theorem PartA.view {w : World} {g n : Nat} {l : List ArgT} (h : PartA w g n n l) (hl : l.length = n) : ArgsV w (some ⟨g, 0, none⟩) l := by
  intro j hj
  obtain ⟨c1, c2, c3⟩ := h.each j (by omega)
  exact ⟨g, 0, rfl, World.block_lt_of_cell? _ _ c1, by rw [Nat.zero_add]; exact c1, by rw [Nat.zero_add]; exact c2, by rw [Nat.zero_add]; exact c3⟩

theorem PartA.drew {w : World} {g n k : Nat} {l : List ArgT} (h : PartA w g n k l) (q : Nat) : PartA (w.drewN q) g n k l := ⟨h.row, h.each⟩

theorem setFar1 {w : World} {g k : Nat} {o : Obj} (h : w.heap[k]? = some o) (hne : k ≠ g) (i : Nat) (u : Value) : (w.setCell ⟨g, i, none⟩ u).heap[k]? = some o := (Below.heap_setCell _ _ _ _ (by simpa using hne)).trans h
theorem setFar3 {w : World} {g k : Nat} {o : Obj} (h : w.heap[k]? = some o) (hne : k ≠ g) (i j m : Nat) (u v x : Value) : (((w.setCell ⟨g, i, none⟩ u).setCell ⟨g, j, none⟩ v).setCell ⟨g, m, none⟩ x).heap[k]? = some o := setFar1 (setFar1 (setFar1 h hne i u) hne j v) hne m x
theorem block_cells {w : World} {B T : Nat} {cs : Array Value} (h : w.heap[B]? = some (.cells cs T (0, 0))) : (∀ i, w.cell? ⟨B, i, none⟩ = cs[i]?) ∧ (∀ i, w.frozen? ⟨B, i, none⟩ = false) := by
  refine ⟨fun i => ?_, fun i => ?_⟩
  · simp [World.cell?, h]
  · simp [World.frozen?, h]

theorem four_set {w : World} {B T : Nat} {z0 z1 z2 z3 : Value} (h : w.heap[B]? = some (.cells #[z0, z1, z2, z3] T (0, 0))) (u0 u1 u2 u3 : Value) :
    ((((w.setCell ⟨B, 0, none⟩ u0).setCell ⟨B, 1, none⟩ u1).setCell ⟨B, 2, none⟩ u2).setCell ⟨B, 3, none⟩ u3).heap[B]? = some (.cells #[u0, u1, u2, u3] T (0, 0)) := by
  simp only [World.setCell, Array.getElem?_modify, h]; simp
theorem four_below (w : World) (B : Nat) (u0 u1 u2 u3 : Value) : Below B w ((((w.setCell ⟨B, 0, none⟩ u0).setCell ⟨B, 1, none⟩ u1).setCell ⟨B, 2, none⟩ u2).setCell ⟨B, 3, none⟩ u3) :=
  ((((Below.refl B w).setCell (Nat.le_refl _) _).setCell (Nat.le_refl _) _).setCell (Nat.le_refl _) _).setCell (Nat.le_refl _) _
theorem args_far {w : World} {b off g : Nat} {l : List ArgT} (h : ArgsV w (some ⟨b, off, none⟩) l) (hg : g ≠ b) (i : Nat) (v : Value) : ArgsV (w.setCell ⟨g, i, none⟩ v) (some ⟨b, off, none⟩) l :=
  h.setCell (fun b' off' e => by cases e; exact fun h => hg h.symm) v

set_option maxRecDepth 100000 in
set_option maxHeartbeats 2000000 in
theorem copyInst_any (x : InstT) (ax : Option Addr) (n cx : Nat) (w : World) (hx : ArgsV w ax x.2.2.2) (hl : x.2.2.2.length = n) (hn : 24 * n ≤ 140737488351232) :
    Calls Try.prog 15 #[instV x ax n cx] w fun e w' => ∃ g, e = .returned (instV x (some ⟨g, 0, none⟩) n n) ∧ w.heap.size ≤ g ∧ ArgsV w' (some ⟨g, 0, none⟩) x.2.2.2 ∧ Below w.heap.size w w' := by
  obtain ⟨i0, hi, hz0, hz1, hz2⟩ := info_parts CopyInst.info
  obtain ⟨xo, xt, xr, xl⟩ := x
  unfold instV
  simp only at *
  have HL : Hid (xl.length = n) := hl
  clear hl
  go_enter Try.func15, Try.ntmps15
  go_wp2_with (at_make; refine wpList_make_full _ rfl _ _ 35 rfl (w.heap.size + 1) 33 i0 (.agg #[.int .u8 0, .int .u32 0, .string ⟨#[]⟩]) 3 Try.underlying35 hi hz0 hz1 _ _ _ _ n rfl rfl (by omega) (by omega) (by rw [hz2]; omega) (by unfold maxLen; omega) (by simp) ?_)
  intro w1 hown1 hgrow1
  have hb0 : Below w.heap.size w ((w.alloc (.cells #[.int .u16 xo, .int .u32 xt, .int .u32 xr, .slice ax n cx] 37)).alloc (.cells #[.int .u16 0, .int .u32 0, .int .u32 0, .slice none 0 0] 37)) := ((Below.refl _ w).alloc (Nat.le_refl _) _).alloc (by simp) _
  have hb1 : Below (w.heap.size + 2) ((w.alloc (.cells #[.int .u16 xo, .int .u32 xt, .int .u32 xr, .slice ax n cx] 37)).alloc (.cells #[.int .u16 0, .int .u32 0, .int .u32 0, .slice none 0 0] 37)) w1 := (Below.refl _ _).grown hgrow1 (by simp) (by simp)
  have hbox : w1.heap[w.heap.size]? = some (.cells #[.int .u16 xo, .int .u32 xt, .int .u32 xr, .slice ax n cx] 37 (0, 0)) := (hb1.block w.heap.size (by omega)).trans ((Below.heap_alloc _ _ _ (by simp)).trans (heap_alloc_new w _))
  have hres : w1.heap[w.heap.size + 1]? = some (.cells #[.int .u16 0, .int .u32 0, .int .u32 0, .slice none 0 0] 37 (0, 0)) := (hb1.block (w.heap.size + 1) (by omega)).trans (by simpa using heap_alloc_new (w.alloc (.cells #[.int .u16 xo, .int .u32 xt, .int .u32 xr, .slice ax n cx] 37)) (.cells #[.int .u16 0, .int .u32 0, .int .u32 0, .slice none 0 0] 37))
  have hP1 : PartA w1 (w.heap.size + 2) n 0 xl := by
    refine ⟨?_, fun j hj => by omega⟩
    rcases hown1.2 with ⟨h, _⟩ | ⟨g, cap', cur, h1, h2, h3, h4, h5, h6, _⟩
    · simp at h
    · simp at h1; obtain ⟨rfl, rfl⟩ := h1; exact ⟨cur, h3, h6⟩
  have hbw1 : Below w.heap.size w w1 := hb0.trans (hb1.mono (by omega))
  clear hown1 hgrow1 hb0 hb1
  go_wp2
  go_loopw [4] (fun i wr => ∃ k : Nat, k ≤ n ∧ i = .int .i64 k ∧ PartA wr (w.heap.size + 2) n k xl ∧ wr.heap[w.heap.size]? = some (.cells #[.int .u16 xo, .int .u32 xt, .int .u32 xr, .slice ax n cx] 37 (0, 0)) ∧ wr.heap[w.heap.size + 1]? = some (.cells #[.int .u16 0, .int .u32 0, .int .u32 0, .slice none 0 0] 37 (0, 0)) ∧ Below w.heap.size w wr) (fun i _ => n - (intOf i).toNat)
  case atStart => exact ⟨0, Nat.zero_le _, rfl, hP1, hbox, hres, hbw1⟩
  case round =>
    obtain ⟨k, hk, rfl, hP, hbx, hrs, hnx⟩ := hrel
    clear hP1 hbw1 hbox hres
    have hbc : wr.cell? ⟨w.heap.size, 3, none⟩ = some (.slice ax n cx) := by simp [World.cell?, hbx]
    have hsz := hnx.size
    by_cases hlt : k < n
    · obtain ⟨b, off, rfl, hbs, p1, p2, p3⟩ := hx k (by rw [HL.out]; exact hlt)
      have q1 := (hnx.cell (p := ⟨b, off + k * 3, none⟩) hbs).trans p1
      have q2 := (hnx.cell (p := ⟨b, off + k * 3 + 1, none⟩) hbs).trans p2
      have q3 := (hnx.cell (p := ⟨b, off + k * 3 + 2, none⟩) hbs).trans p3
      obtain ⟨cs, hr1, hr2⟩ := hP.row
      obtain ⟨⟨u0, d0⟩, f0⟩ := cells_can hr1 (k * 3) (by omega)
      obtain ⟨⟨u1, d1⟩, f1⟩ := cells_can hr1 (k * 3 + 1) (by omega)
      obtain ⟨⟨u2, d2⟩, f2⟩ := cells_can hr1 (k * 3 + 2) (by omega)
      have hki : (k : Int) < (n : Int) := by omega
      have hk0 : (0 : Int) ≤ (k : Int) := by omega
      have hP2 := hP.store hlt
      have HX : Hid (wr.heap[w.heap.size]? = some (.cells #[.int .u16 xo, .int .u32 xt, .int .u32 xr, .slice (some ⟨b, off, none⟩) n cx] 37 (0, 0))) := hbx
      have HP2 : Hid _ := hP2
      have HR : Hid _ := hrs
      clear hP2 hP hr1 hr2 p1 p2 p3 hx hbx hrs
      go_wp2
      go_roundw
      case rel => exact ⟨k + 1, by omega, by go_num, HP2.out, setFar3 HX.out (by omega) _ _ _ _ _ _, setFar3 HR.out (by omega) _ _ _ _ _ _, ((hnx.setCell (by show w.heap.size ≤ w.heap.size + 1 + 1; omega) _).setCell (by show w.heap.size ≤ w.heap.size + 1 + 1; omega) _).setCell (by show w.heap.size ≤ w.heap.size + 1 + 1; omega) _⟩
      case measure => simp [intOf]; omega
    · obtain rfl : k = n := by omega
      obtain ⟨hc, hf⟩ := block_cells hbx
      obtain ⟨hc', hf'⟩ := block_cells hrs
      have c0 := hc 0
      have c1 := hc 1
      have c2 := hc 2
      have r0 := hc' 0
      have r1 := hc' 1
      have r2 := hc' 2
      have r3 := hc' 3
      have hV := hP.view HL.out
      have HV : Hid _ := hV
      have HB : Hid _ := hnx
      have HX : Hid _ := hbx
      have HR : Hid _ := hrs
      clear hP hbx hrs hc hc' hx hV hnx
      go_wp2
      have hB4 := four_set (setFar1 HR.out (show w.heap.size + 1 ≠ w.heap.size by omega) 3 (.slice (some ⟨w.heap.size + 1 + 1, 0, none⟩) k k)) (.int .u16 xo) (.int .u32 xt) (.int .u32 xr) (.slice (some ⟨w.heap.size + 1 + 1, 0, none⟩) k k)
      have hBel := (HB.out.setCell (p := ⟨w.heap.size, 3, none⟩) (Nat.le_refl _) (.slice (some ⟨w.heap.size + 1 + 1, 0, none⟩) k k)).trans ((four_below (wr.setCell ⟨w.heap.size, 3, none⟩ (.slice (some ⟨w.heap.size + 1 + 1, 0, none⟩) k k)) (w.heap.size + 1) (.int .u16 xo) (.int .u32 xt) (.int .u32 xr) (.slice (some ⟨w.heap.size + 1 + 1, 0, none⟩) k k)).mono (show w.heap.size ≤ w.heap.size + 1 by omega))
      have hV2 := args_far HV.out (show w.heap.size ≠ w.heap.size + 2 by omega) 3 (.slice (some ⟨w.heap.size + 1 + 1, 0, none⟩) k k)
      have hV3 := args_far (args_far (args_far (args_far hV2 (show w.heap.size + 1 ≠ w.heap.size + 2 by omega) 0 (.int .u16 xo)) (show w.heap.size + 1 ≠ w.heap.size + 2 by omega) 1 (.int .u32 xt)) (show w.heap.size + 1 ≠ w.heap.size + 2 by omega) 2 (.int .u32 xr)) (show w.heap.size + 1 ≠ w.heap.size + 2 by omega) 3 (.slice (some ⟨w.heap.size + 1 + 1, 0, none⟩) k k)
      clear hV2 HV HB HR HX c0 c1 c2 r0 r1 r2 r3 hf hf'
      generalize ((((wr.setCell _ _).setCell _ _).setCell _ _).setCell _ _).setCell _ _ = W at hB4 hBel hV3 ⊢
      obtain ⟨hd, _⟩ := block_cells hB4
      have d0 := hd 0
      have d1 := hd 1
      have d2 := hd 2
      have d3 := hd 3
      refine bodyPost_ret (v := .agg #[.int .u16 xo, .int .u32 xt, .int .u32 xr, .slice (some ⟨w.heap.size + 1 + 1, 0, none⟩) k k]) ?_ rfl ⟨w.heap.size + 1 + 1, rfl, by omega, hV3, hBel⟩
      simp [results, Try.results15, go_sem, d0, d1, d2, d3]

end Go.Proofs.Ytckhgdjcofpijab

/-
  CopyModule of the kit answers the module in new memory.
-/
namespace Go.Proofs.Ytckhgdjcofpijab
open Go.RowKit

theorem CopyModule.info : (Try.prog.info? 37).map (fun i => (i.zero, i.size, i.bytes)) = some (some (.agg #[.int .u16 0, .int .u32 0, .int .u32 0, .slice none 0 0]), 4, 40) := by kernel_rfl

/-- The first k instructions lie in the row at g, their arguments in later blocks. -/
structure PartI (w : World) (g n k : Nat) (l : List InstT) : Prop where
  row : ∃ cs : Array Value, w.heap[g]? = some (.cells cs 37 (0, 0)) ∧ cs.size = n * 4
  each : ∀ j, j < k → ∃ gj nj, w.cell? ⟨g, j * 4, none⟩ = some (.int .u16 (nthI l j).1) ∧ w.cell? ⟨g, j * 4 + 1, none⟩ = some (.int .u32 (nthI l j).2.1) ∧ w.cell? ⟨g, j * 4 + 2, none⟩ = some (.int .u32 (nthI l j).2.2.1) ∧ w.cell? ⟨g, j * 4 + 3, none⟩ = some (.slice (some ⟨gj, 0, none⟩) nj nj) ∧
    (nthI l j).2.2.2.length = nj ∧ ArgsV w (some ⟨gj, 0, none⟩) (nthI l j).2.2.2 ∧ g < gj

theorem PartI.below {w w' : World} {g n k : Nat} {l : List InstT} (h : PartI w g n k l) (hb : Below w.heap.size w w') : PartI w' g n k l := by
  obtain ⟨⟨cs, h1, h2⟩, h3⟩ := h
  have hg : g < w.heap.size := (Array.getElem?_eq_some_iff.1 h1).1
  refine ⟨⟨cs, by rw [hb.block g hg]; exact h1, h2⟩, fun j hj => ?_⟩
  obtain ⟨gj, nj, c1, c2, c3, c4, c5, c6, c7⟩ := h3 j hj
  exact ⟨gj, nj, (hb.cell (p := ⟨g, j * 4, none⟩) hg).trans c1, (hb.cell (p := ⟨g, j * 4 + 1, none⟩) hg).trans c2, (hb.cell (p := ⟨g, j * 4 + 2, none⟩) hg).trans c3, (hb.cell (p := ⟨g, j * 4 + 3, none⟩) hg).trans c4, c5, c6.below hb, c7⟩

/-- An instruction is stored. -/
theorem PartI.store {w : World} {g n k : Nat} {l : List InstT} (h : PartI w g n k l) (hk : k < n) (gk nk : Nat) (hl : (nthI l k).2.2.2.length = nk) (hv : ArgsV w (some ⟨gk, 0, none⟩) (nthI l k).2.2.2) (hg : g < gk) :
    PartI ((((w.setCell ⟨g, k * 4, none⟩ (.int .u16 (nthI l k).1)).setCell ⟨g, k * 4 + 1, none⟩ (.int .u32 (nthI l k).2.1)).setCell ⟨g, k * 4 + 2, none⟩ (.int .u32 (nthI l k).2.2.1)).setCell ⟨g, k * 4 + 3, none⟩ (.slice (some ⟨gk, 0, none⟩) nk nk)) g n (k + 1) l := by
  obtain ⟨⟨cs, h1, h2⟩, h3⟩ := h
  obtain ⟨W, hW⟩ : ∃ W, W = (((w.setCell ⟨g, k * 4, none⟩ (.int .u16 (nthI l k).1)).setCell ⟨g, k * 4 + 1, none⟩ (.int .u32 (nthI l k).2.1)).setCell ⟨g, k * 4 + 2, none⟩ (.int .u32 (nthI l k).2.2.1)).setCell ⟨g, k * 4 + 3, none⟩ (.slice (some ⟨gk, 0, none⟩) nk nk) := ⟨_, rfl⟩
  have hb : W.heap[g]? = some (.cells ((((cs.setIfInBounds (k * 4) (.int .u16 (nthI l k).1)).setIfInBounds (k * 4 + 1) (.int .u32 (nthI l k).2.1)).setIfInBounds (k * 4 + 2) (.int .u32 (nthI l k).2.2.1)).setIfInBounds (k * 4 + 3) (.slice (some ⟨gk, 0, none⟩) nk nk)) 37 (0, 0)) := by
    rw [hW]; simp [World.setCell, Array.getElem?_modify, h1]
  have cell : ∀ j, W.cell? ⟨g, j, none⟩ = ((((cs.setIfInBounds (k * 4) (.int .u16 (nthI l k).1)).setIfInBounds (k * 4 + 1) (.int .u32 (nthI l k).2.1)).setIfInBounds (k * 4 + 2) (.int .u32 (nthI l k).2.2.1)).setIfInBounds (k * 4 + 3) (.slice (some ⟨gk, 0, none⟩) nk nk))[j]? := fun j => by
    simp [World.cell?, hb]
  have old : ∀ j, w.cell? ⟨g, j, none⟩ = cs[j]? := fun j => by simp [World.cell?, h1]
  have far : ∀ gj m, g < gj → ArgsV w (some ⟨gj, 0, none⟩) m → ArgsV W (some ⟨gj, 0, none⟩) m := fun gj m hlt hm => by
    rw [hW]
    exact args_far (args_far (args_far (args_far hm (by omega) _ _) (by omega) _ _) (by omega) _ _) (by omega) _ _
  rw [← hW]
  refine ⟨⟨_, hb, by simp [h2]⟩, fun j hj => ?_⟩
  by_cases hjk : j < k
  · obtain ⟨gj, nj, c1, c2, c3, c4, c5, c6, c7⟩ := h3 j hjk
    rw [old] at c1 c2 c3 c4
    refine ⟨gj, nj, ?_, ?_, ?_, ?_, c5, far _ _ c7 c6, c7⟩
    all_goals rw [cell, Array.getElem?_setIfInBounds_ne (by omega), Array.getElem?_setIfInBounds_ne (by omega), Array.getElem?_setIfInBounds_ne (by omega), Array.getElem?_setIfInBounds_ne (by omega)]
    · exact c1
    · exact c2
    · exact c3
    · exact c4
  · obtain rfl : j = k := by omega
    refine ⟨gk, nk, ?_, ?_, ?_, ?_, hl, far _ _ hg hv, hg⟩
    · rw [cell, Array.getElem?_setIfInBounds_ne (by omega), Array.getElem?_setIfInBounds_ne (by omega), Array.getElem?_setIfInBounds_ne (by omega), Array.getElem?_setIfInBounds_self_of_lt (by omega)]
    · rw [cell, Array.getElem?_setIfInBounds_ne (by omega), Array.getElem?_setIfInBounds_ne (by omega), Array.getElem?_setIfInBounds_self_of_lt (by simp; omega)]
    · rw [cell, Array.getElem?_setIfInBounds_ne (by omega), Array.getElem?_setIfInBounds_self_of_lt (by simp; omega)]
    · rw [cell, Array.getElem?_setIfInBounds_self_of_lt (by simp; omega)]

theorem PartI.view {w : World} {g n : Nat} {l : List InstT} (h : PartI w g n n l) (hl : l.length = n) : InstsV w (some ⟨g, 0, none⟩) l := by
  intro j hj
  obtain ⟨gj, nj, c1, c2, c3, c4, c5, c6, c7⟩ := h.each j (by omega)
  exact ⟨g, 0, some ⟨gj, 0, none⟩, nj, nj, rfl, World.block_lt_of_cell? _ _ c1, by rw [Nat.zero_add]; exact c1, by rw [Nat.zero_add]; exact c2, by rw [Nat.zero_add]; exact c3, by rw [Nat.zero_add]; exact c4, c5, c6, Nat.le_refl _⟩

theorem PartI.far {w : World} {g n k : Nat} {l : List InstT} (h : PartI w g n k l) {b : Nat} (hb : b < g) (i : Nat) (v : Value) : PartI (w.setCell ⟨b, i, none⟩ v) g n k l := by
  obtain ⟨⟨cs, h1, h2⟩, h3⟩ := h
  have hx : (w.setCell ⟨b, i, none⟩ v).heap[g]? = w.heap[g]? := Below.heap_setCell _ _ _ _ (by simp; omega)
  have hc : ∀ j, (w.setCell ⟨b, i, none⟩ v).cell? ⟨g, j, none⟩ = w.cell? ⟨g, j, none⟩ := fun j => by simp only [World.cell?, hx]
  refine ⟨⟨cs, by rw [hx]; exact h1, h2⟩, fun j hj => ?_⟩
  obtain ⟨gj, nj, c1, c2, c3, c4, c5, c6, c7⟩ := h3 j hj
  exact ⟨gj, nj, by rw [hc]; exact c1, by rw [hc]; exact c2, by rw [hc]; exact c3, by rw [hc]; exact c4, c5, args_far c6 (by omega) _ _, c7⟩

theorem three_set3 {w : World} {B T : Nat} {z0 z1 z2 : Value} (h : w.heap[B]? = some (.cells #[z0, z1, z2] T (0, 0))) (u0 u1 u2 : Value) :
    (((w.setCell ⟨B, 0, none⟩ u0).setCell ⟨B, 1, none⟩ u1).setCell ⟨B, 2, none⟩ u2).heap[B]? = some (.cells #[u0, u1, u2] T (0, 0)) := by
  simp only [World.setCell, Array.getElem?_modify, h]; simp
theorem three_below3 (w : World) (B : Nat) (u0 u1 u2 : Value) : Below B w (((w.setCell ⟨B, 0, none⟩ u0).setCell ⟨B, 1, none⟩ u1).setCell ⟨B, 2, none⟩ u2) :=
  (((Below.refl B w).setCell (Nat.le_refl _) _).setCell (Nat.le_refl _) _).setCell (Nat.le_refl _) _

set_option maxRecDepth 100000 in
set_option maxHeartbeats 4000000 in
theorem copyModule_any (gen bound : Int) (ax : Option Addr) (n cx : Nat) (l : List InstT) (w : World) (hx : InstsV w ax l) (hok : InstsOk l) (hl : l.length = n) (hn : 40 * n ≤ 140737488351232) :
    Calls Try.prog 7 #[modV gen bound ax n cx] w fun e w' => ∃ g, e = .returned (modV gen bound (some ⟨g, 0, none⟩) n n) ∧ w.heap.size ≤ g ∧ InstsV w' (some ⟨g, 0, none⟩) l ∧ Below w.heap.size w w' := by
  obtain ⟨i0, hi, hz0, hz1, hz2⟩ := info_parts CopyModule.info
  unfold modV
  have HL : Hid (l.length = n) := hl
  clear hl
  go_enter Try.func7, Try.ntmps7
  go_wp2_with (at_make; refine wpList_make_full _ rfl _ _ 23 rfl (w.heap.size + 2) 37 i0 (.agg #[.int .u16 0, .int .u32 0, .int .u32 0, .slice none 0 0]) 4 Try.underlying23 hi hz0 hz1 _ _ _ _ n rfl rfl (by omega) (by omega) (by rw [hz2]; omega) (by unfold maxLen; omega) (by simp) ?_)
  intro w1 hown1 hgrow1
  have hb0 : Below w.heap.size w ((w.alloc (.cells #[.int .u32 gen, .int .u32 bound, .slice ax n cx] 25)).alloc (.cells #[.int .u32 0, .int .u32 0, .slice none 0 0] 25)) := ((Below.refl _ w).alloc (Nat.le_refl _) _).alloc (by simp) _
  have hb1 : Below (w.heap.size + 2) ((w.alloc (.cells #[.int .u32 gen, .int .u32 bound, .slice ax n cx] 25)).alloc (.cells #[.int .u32 0, .int .u32 0, .slice none 0 0] 25)) w1 := (Below.refl _ _).grown hgrow1 (by simp) (by simp)
  have hbox : w1.heap[w.heap.size]? = some (.cells #[.int .u32 gen, .int .u32 bound, .slice ax n cx] 25 (0, 0)) := (hb1.block w.heap.size (by omega)).trans ((Below.heap_alloc _ _ _ (by simp)).trans (heap_alloc_new w _))
  have hres : w1.heap[w.heap.size + 1]? = some (.cells #[.int .u32 0, .int .u32 0, .slice none 0 0] 25 (0, 0)) := (hb1.block (w.heap.size + 1) (by omega)).trans (by simpa using heap_alloc_new (w.alloc (.cells #[.int .u32 gen, .int .u32 bound, .slice ax n cx] 25)) (.cells #[.int .u32 0, .int .u32 0, .slice none 0 0] 25))
  have hP1 : PartI w1 (w.heap.size + 2) n 0 l := by
    refine ⟨?_, fun j hj => by omega⟩
    rcases hown1.2 with ⟨h, _⟩ | ⟨g, cap', cur, h1, h2, h3, h4, h5, h6, _⟩
    · simp at h
    · simp at h1; obtain ⟨rfl, rfl⟩ := h1; exact ⟨cur, h3, h6⟩
  have hbw1 : Below w.heap.size w w1 := hb0.trans (hb1.mono (by omega))
  clear hown1 hgrow1 hb0 hb1
  go_wp2
  go_loopw [4] (fun i wr => ∃ k : Nat, k ≤ n ∧ i = .int .i64 k ∧ PartI wr (w.heap.size + 2) n k l ∧ wr.heap[w.heap.size]? = some (.cells #[.int .u32 gen, .int .u32 bound, .slice ax n cx] 25 (0, 0)) ∧ wr.heap[w.heap.size + 1]? = some (.cells #[.int .u32 0, .int .u32 0, .slice none 0 0] 25 (0, 0)) ∧ Below w.heap.size w wr) (fun i _ => n - (intOf i).toNat)
  case atStart => exact ⟨0, Nat.zero_le _, rfl, hP1, hbox, hres, hbw1⟩
  case round =>
    obtain ⟨k, hk, rfl, hP, hbx, hrs, hnx⟩ := hrel
    clear hP1 hbw1 hbox hres
    have hbc : wr.cell? ⟨w.heap.size, 2, none⟩ = some (.slice ax n cx) := by simp [World.cell?, hbx]
    have hsz := hnx.size
    by_cases hlt : k < n
    · obtain ⟨b, off, aj, cj, nj, rfl, hbs, p1, p2, p3, p4, p5, p6, _⟩ := hx k (by rw [HL.out]; exact hlt)
      have q1 := (hnx.cell (p := ⟨b, off + k * 4, none⟩) hbs).trans p1
      have q2 := (hnx.cell (p := ⟨b, off + k * 4 + 1, none⟩) hbs).trans p2
      have q3 := (hnx.cell (p := ⟨b, off + k * 4 + 2, none⟩) hbs).trans p3
      have q4 := (hnx.cell (p := ⟨b, off + k * 4 + 3, none⟩) hbs).trans p4
      obtain ⟨cs, hr1, hr2⟩ := hP.row
      have hgl : w.heap.size + 1 + 1 < wr.heap.size := (Array.getElem?_eq_some_iff.1 hr1).1
      obtain ⟨⟨u0, d0⟩, f0⟩ := cells_can hr1 (k * 4) (by omega)
      obtain ⟨⟨u1, d1⟩, f1⟩ := cells_can hr1 (k * 4 + 1) (by omega)
      obtain ⟨⟨u2, d2⟩, f2⟩ := cells_can hr1 (k * 4 + 2) (by omega)
      obtain ⟨⟨u3, d3⟩, f3⟩ := cells_can hr1 (k * 4 + 3) (by omega)
      have hki : (k : Int) < (n : Int) := by omega
      have hk0 : (0 : Int) ≤ (k : Int) := by omega
      have s1 := (hok k (by rw [HL.out]; exact hlt)).2.2.2.2.2.2.2
      rw [p5] at s1
      have hC := fun wx (hb : Below wr.heap.size wr wx) => copyInst_any (nthI l k) aj nj cj wx ((p6.below hnx).below hb) p5 s1
      unfold instV at hC
      have hbs' : b < wr.heap.size := by omega
      have HX : Hid (wr.heap[w.heap.size]? = some (.cells #[.int .u32 gen, .int .u32 bound, .slice (some ⟨b, off, none⟩) n cx] 25 (0, 0))) := hbx
      have HR : Hid _ := hrs
      have HP : Hid (PartI wr (w.heap.size + 2) n k l) := hP
      have HV3 : Hid ((nthI l k).2.2.2.length = nj) := p5
      clear p1 p2 p3 p4 p5 p6 hr1 hr2 hP hx hok hbx hrs s1
      go_wp2_with fail
      refine (hC _ (Below.refl _ _)).mono ?_
      rintro e w' ⟨g', rfl, hg', hvC, hbC⟩
      have e1 := (hbC.cell (p := ⟨w.heap.size + 1 + 1, k * 4, none⟩) (by exact hgl)).trans d0
      have e2 := (hbC.cell (p := ⟨w.heap.size + 1 + 1, k * 4 + 1, none⟩) (by exact hgl)).trans d1
      have e3 := (hbC.cell (p := ⟨w.heap.size + 1 + 1, k * 4 + 2, none⟩) (by exact hgl)).trans d2
      have e4 := (hbC.cell (p := ⟨w.heap.size + 1 + 1, k * 4 + 3, none⟩) (by exact hgl)).trans d3
      have e5 := (hbC.frozen (p := ⟨w.heap.size + 1 + 1, k * 4, none⟩) (by exact hgl)).trans f0
      have e6 := (hbC.frozen (p := ⟨w.heap.size + 1 + 1, k * 4 + 1, none⟩) (by exact hgl)).trans f1
      have e7 := (hbC.frozen (p := ⟨w.heap.size + 1 + 1, k * 4 + 2, none⟩) (by exact hgl)).trans f2
      have e8 := (hbC.frozen (p := ⟨w.heap.size + 1 + 1, k * 4 + 3, none⟩) (by exact hgl)).trans f3
      have hP2 := (HP.out.below hbC).store hlt g' nj HV3.out hvC (by omega)
      have hX2 := (hbC.block w.heap.size (by omega)).trans HX.out
      have hR2 := (hbC.block (w.heap.size + 1) (by omega)).trans HR.out
      have hB2 := hnx.trans (hbC.mono hsz)
      have HP2 : Hid _ := hP2
      have HX2 : Hid _ := hX2
      have HR2 : Hid _ := hR2
      have HB2 : Hid _ := hB2
      clear hP2 hX2 hR2 hB2 hvC hbC HP HX HR d0 d1 d2 d3 f0 f1 f2 f3 hC
      go_wp2
      go_roundw
      case rel => exact ⟨k + 1, by omega, by go_num, HP2.out, setFar1 (setFar3 HX2.out (by omega) _ _ _ _ _ _) (by omega) _ _, setFar1 (setFar3 HR2.out (by omega) _ _ _ _ _ _) (by omega) _ _, (((HB2.out.setCell (by show w.heap.size ≤ w.heap.size + 1 + 1; omega) _).setCell (by show w.heap.size ≤ w.heap.size + 1 + 1; omega) _).setCell (by show w.heap.size ≤ w.heap.size + 1 + 1; omega) _).setCell (by show w.heap.size ≤ w.heap.size + 1 + 1; omega) _⟩
      case measure => simp [intOf]; omega
    · obtain rfl : k = n := by omega
      obtain ⟨hc, hf⟩ := block_cells hbx
      obtain ⟨hc', hf'⟩ := block_cells hrs
      have c0 := hc 0
      have c1 := hc 1
      have r0 := hc' 0
      have r1 := hc' 1
      have r2 := hc' 2
      have HP : Hid _ := hP
      have HB : Hid _ := hnx
      have HX : Hid _ := hbx
      have HR : Hid _ := hrs
      clear hP hbx hrs hc hc' hx hnx
      go_wp2
      have hB3 := three_set3 (setFar1 HR.out (show w.heap.size + 1 ≠ w.heap.size by omega) 2 (.slice (some ⟨w.heap.size + 1 + 1, 0, none⟩) k k)) (.int .u32 gen) (.int .u32 bound) (.slice (some ⟨w.heap.size + 1 + 1, 0, none⟩) k k)
      have hBel := (HB.out.setCell (p := ⟨w.heap.size, 2, none⟩) (Nat.le_refl _) (.slice (some ⟨w.heap.size + 1 + 1, 0, none⟩) k k)).trans ((three_below3 (wr.setCell ⟨w.heap.size, 2, none⟩ (.slice (some ⟨w.heap.size + 1 + 1, 0, none⟩) k k)) (w.heap.size + 1) (.int .u32 gen) (.int .u32 bound) (.slice (some ⟨w.heap.size + 1 + 1, 0, none⟩) k k)).mono (show w.heap.size ≤ w.heap.size + 1 by omega))
      have hV3 := (((((HP.out.far (b := w.heap.size) (by omega) 2 (.slice (some ⟨w.heap.size + 1 + 1, 0, none⟩) k k)).far (b := w.heap.size + 1) (by omega) 0 (.int .u32 gen)).far (b := w.heap.size + 1) (by omega) 1 (.int .u32 bound)).far (b := w.heap.size + 1) (by omega) 2 (.slice (some ⟨w.heap.size + 1 + 1, 0, none⟩) k k))).view HL.out
      clear HP HB HR HX c0 c1 r0 r1 r2 hf hf'
      generalize (((wr.setCell _ _).setCell _ _).setCell _ _).setCell _ _ = W at hB3 hBel hV3 ⊢
      obtain ⟨hd, _⟩ := block_cells hB3
      have d0 := hd 0
      have d1 := hd 1
      have d2 := hd 2
      refine bodyPost_ret (v := .agg #[.int .u32 gen, .int .u32 bound, .slice (some ⟨w.heap.size + 1 + 1, 0, none⟩) k k]) ?_ rfl ⟨w.heap.size + 1 + 1, rfl, by omega, hV3, hBel⟩
      simp [results, Try.results7, go_sem, d0, d1, d2]

end Go.Proofs.Ytckhgdjcofpijab

/-
  The law IdsChecks: every Check; what is handed in stays.
-/
namespace Go.Proofs.Ytckhgdjcofpijab
open Go.RowKit
set_option linter.unusedVariables false
set_option linter.unusedSimpArgs false
set_option maxRecDepth 10000

set_option maxHeartbeats 4000000 in
theorem idsChecks_true (w : World) (gen bnd : Int) (a : Option Addr) (n c : Nat) (l : List InstT) (hl : l.length = n) (hv : InstsV w a l) (hok : InstsOk l) (hn : 40 * n ≤ 140737488351232) (hc : n ≤ c) (hgb : 0 ≤ gen ∧ gen < 4294967296 ∧ 0 ≤ bnd ∧ bnd < 4294967296) :
    Calls Try.prog 4 #[.agg #[.int .u32 gen, .int .u32 bnd, .slice a n c]] w fun e w' => e = .returned (.bool true) ∧ Below w.heap.size w w' := by
  obtain ⟨g0, g1, b0, b1⟩ := hgb
  have hba : Below w.heap.size w (w.alloc (.cells #[.int .u32 gen, .int .u32 bnd, .slice a n c] 25)) := (Below.refl _ w).alloc (Nat.le_refl _) _
  have hCp := copyModule_any gen bnd a n c l _ (hv.below hba) hok hl hn
  have HCk := hide fun wx ax m cx (h : InstsV wx ax l) (hm : l.length = m) (hm2 : 40 * m ≤ 140737488351232) => idsCheck_any gen bnd ax m cx l wx h hok hm hm2 g0 g1 b0 b1
  have HRk := hide fun wx (h : InstsV wx a l) => refCheck9_any gen bnd a n c l wx h hok hl hn b0 b1
  have HMo := hide fun wx ax cx (h1 : InstsV wx ax l) (h2 : InstsV wx a l) => kitModule_any gen bnd gen bnd l l ax a n n cx c wx h1 h2 hl hl hok hok (by omega) (by omega) true (by simp)
  have HM0 := hide (heap_alloc_new w (.cells #[.int .u32 gen, .int .u32 bnd, .slice a n c] 25))
  have HBA := hide hba
  have HV := hide hv
  have HL := hide hl
  have HN := hide hn
  have HLW : Hid (w.heap.size < (w.alloc (.cells #[.int .u32 gen, .int .u32 bnd, .slice a n c] 25)).heap.size) := by show _ < _; simp
  unfold modV at *
  clear hba hv hok hl hn
  go_enter Try.func4, Try.ntmps4
  go_wp2_with fail
  generalize w.alloc (.cells #[.int .u32 gen, .int .u32 bnd, .slice a n c] 25) = W0 at *
  refine hCp.mono ?_
  rintro e w1 ⟨g, rfl, hg, hV1, hb1⟩
  have hba1 : Below w1.heap.size w1 (w1.alloc (.cells #[.int .u32 gen, .int .u32 bnd, .slice (some ⟨g, 0, none⟩) n n] 25)) := (Below.refl _ w1).alloc (Nat.le_refl _) _
  have HM1 := hide (heap_alloc_new w1 (.cells #[.int .u32 gen, .int .u32 bnd, .slice (some ⟨g, 0, none⟩) n n] 25))
  have HB1 := hide (hb1.trans (hba1.mono hb1.size))
  have HV1 := hide (hV1.below hba1)
  have HS1 : Hid (W0.heap.size ≤ w1.heap.size) := hb1.size
  have HLW1 : Hid (w1.heap.size < (w1.alloc (.cells #[.int .u32 gen, .int .u32 bnd, .slice (some ⟨g, 0, none⟩) n n] 25)).heap.size) := by show _ < _; simp
  clear hCp hb1 hV1 hba1
  go_wp2_with fail
  generalize w1.alloc (.cells #[.int .u32 gen, .int .u32 bnd, .slice (some ⟨g, 0, none⟩) n n] 25) = W at *
  have hl0 := HLW.out
  have hl1 := HLW1.out
  have hs1 := HS1.out
  have hlW : w.heap.size < W.heap.size := by omega
  have hBW : Below w.heap.size w W := HBA.out.trans (HB1.out.mono HBA.out.size)
  obtain ⟨cm, _⟩ := one_block ((HB1.out.block w.heap.size hl0).trans HM0.out)
  obtain ⟨cc, _⟩ := one_block HM1.out
  have a0 := fun s : InC (Below W.heap.size W) => s.cell (p := ⟨w.heap.size, 0, none⟩) hlW (cm 0)
  have a1 := fun s : InC (Below W.heap.size W) => s.cell (p := ⟨w.heap.size, 1, none⟩) hlW (cm 1)
  have a2 := fun s : InC (Below W.heap.size W) => s.cell (p := ⟨w.heap.size, 2, none⟩) hlW (cm 2)
  have c0 := fun s : InC (Below W.heap.size W) => s.cell (p := ⟨w1.heap.size, 0, none⟩) hl1 (cc 0)
  have c1 := fun s : InC (Below W.heap.size W) => s.cell (p := ⟨w1.heap.size, 1, none⟩) hl1 (cc 1)
  have c2 := fun s : InC (Below W.heap.size W) => s.cell (p := ⟨w1.heap.size, 2, none⟩) hl1 (cc 2)
  have hCk := fun s : InC (Below W.heap.size W) => Calls.inC s (HCk.out s.w (some ⟨g, 0, none⟩) n n (HV1.out.below s.ok) HL.out HN.out)
  have hRk := fun s : InC (Below W.heap.size W) => Calls.inC s (HRk.out s.w (HV.out.below (hBW.trans (s.ok.mono hBW.size))))
  have hMo := fun s : InC (Below W.heap.size W) => Calls.inC s (HMo.out s.w (some ⟨g, 0, none⟩) n (HV1.out.below s.ok) (HV.out.below (hBW.trans (s.ok.mono hBW.size))))
  have hne : Nonempty (InC (Below W.heap.size W)) := ⟨⟨W, Below.refl _ _⟩⟩
  have HBW := hide hBW
  generalize (idsE bnd l).1 = e1 at *
  generalize ((idsE bnd l).2 : Int) = e2 at *
  clear cm cc HM0 HM1 HB1 hBW HCk HRk HMo
  refine wp_region_class (C := Below W.heap.size W) (by kernel_rfl) (by kernel_rfl) (below_drew W) ?_
  repeat (go_big_quiet_step ((first | (go_at_call 9; exact hCk _) | (go_at_call 10; exact hRk _) | (go_at_call 11; exact hMo _))))
  refine wpQuiet_nil ?_
  rintro _ ⟨s, rfl⟩
  have hfin := HBW.out.trans (s.ok.mono HBW.out.size)
  clear hne hCk hRk hMo a0 a1 a2 c0 c1 c2
  go_wp2
  go_ret
  exact ⟨by simp, hfin⟩
end Go.Proofs.Ytckhgdjcofpijab
