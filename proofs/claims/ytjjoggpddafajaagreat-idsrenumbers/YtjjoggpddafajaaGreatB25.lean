/-
  Texts laid together in one: Ref09Check, Ref09Turned, RowW.
-/
import Derived.WalkSpells
import Derived.WalkMore
import Derived.BigRegion
import Derived.Deep.MidRow
import Derived.Test.YtjjoggpddafajaaGreatProg
import Derived.Test.YtjjoggpddafajaaGreatB19
import Derived.Test.YtjjoggpddafajaaGreatB18
import Derived.Test.YtjjoggpddafajaaGreatB21
import Derived.Test.YtjjoggpddafajaaGreatB24
import Derived.Deep.RegionWith
import Derived.Laws.AppendOwn
import Derived.Test.YtjjoggpddafajaaGreatB07
import Derived.Test.YtjjoggpddafajaaGreatB23
import Derived.Test.YtjjoggpddafajaaGreatB08
import Derived.Test.YtjjoggpddafajaaGreatB01
/-
  The document's Fault and Check of a module's ids.
-/
namespace Go.Proofs.YtjjoggpddafajaaGreat
open Go.RowKit
set_option linter.unusedVariables false
set_option linter.unusedSimpArgs false
set_option maxRecDepth 10000

theorem makV_some {l : List InstT} {k : Nat} {id : Int} (h : (makT l k id).isSome = true) : decide (0 ≤ makV l k id) = true ∧ decide (makV l k id < 0) = false := by
  obtain ⟨p, hp⟩ := Option.isSome_iff_exists.1 h
  have := makT_some l id k p hp
  unfold makV
  rw [hp]
  simp
  omega
theorem makV_none {l : List InstT} {k : Nat} {id : Int} (h : (makT l k id).isSome = false) : decide (0 ≤ makV l k id) = false ∧ decide (makV l k id < 0) = true := by
  have hn : makT l k id = none := by cases h2 : makT l k id with
    | none => rfl
    | some p => rw [h2] at h; cases h
  unfold makV
  rw [hn]
  simp

set_option maxHeartbeats 8000000 in
theorem refFault9_any (a : Option Addr) (n c : Nat) (l : List InstT) (k : Nat) (w : World) (hv : InstsV w a l) (hok : InstsOk l) (hl : l.length = n) (hn : n ≤ 1048576) (hvar : VarsOk l) (hk : k < n) :
    Calls Tryz.prog 17 #[.slice a n c, .int .i64 k] w fun e w' => e = .returned (.int .i64 (faultAt l k)) ∧ Below w.heap.size w w' := by
  obtain ⟨F, hF⟩ : ∃ F, F = faultAt l k := ⟨_, rfl⟩
  rw [← hF]
  have HF := hide hF
  have HMk := hide fun wx id (to : Nat) (hb : Below w.heap.size w wx) (ht : to ≤ n) => refMaker_any a n c l id to wx (hv.below hb) hl (by omega) ht
  have HV := hide hv
  have HOK := hide hok
  have HL := hide hl
  have hk0 : (0 : Int) ≤ (k : Int) := by omega
  have hki : (k : Int) < (n : Int) := by omega
  have hkl : k < l.length := by rw [hl]; exact hk
  obtain ⟨g1, o1, ai, ci, na, ha, hg1, p1, p2, p3, p4, p5, p6, p7⟩ := hv k hkl
  have hIx := (hok k hkl).2.2.2.2.2.2.2
  rw [p5] at hIx
  have HId := hide fun wx (hb : Below w.heap.size w wx) => refIds_any (nthI l k) ai na ci wx (p6.below hb) p5 hIx
  have HPt := hide fun wx (hb : Below w.heap.size w wx) => refPart_any (nthI l k) ai na ci wx (p6.below hb) p5 (fun e => by rw [← p5]; exact hvar k hkl e)
  have HRNG0 := hide (idsA_range (hok k hkl))
  unfold instV at HId HPt
  have HCELLS : Hid (∀ wx, Below w.heap.size w wx → g1 < wx.heap.size ∧ wx.cell? ⟨g1, o1 + k * 4, none⟩ = some (.int .u16 (nthI l k).1) ∧ wx.cell? ⟨g1, o1 + k * 4 + 1, none⟩ = some (.int .u32 (nthI l k).2.1) ∧ wx.cell? ⟨g1, o1 + k * 4 + 2, none⟩ = some (.int .u32 (nthI l k).2.2.1) ∧ wx.cell? ⟨g1, o1 + k * 4 + 3, none⟩ = some (.slice ai na ci)) := fun wx hb =>
    ⟨Nat.lt_of_lt_of_le hg1 hb.size, (hb.cell (p := ⟨g1, o1 + k * 4, none⟩) hg1).trans p1, (hb.cell (p := ⟨g1, o1 + k * 4 + 1, none⟩) hg1).trans p2, (hb.cell (p := ⟨g1, o1 + k * 4 + 2, none⟩) hg1).trans p3, (hb.cell (p := ⟨g1, o1 + k * 4 + 3, none⟩) hg1).trans p4⟩
  subst ha
  have hmk := HMk.out w (nthI l k).2.2.1 k (Below.refl _ _) (by omega)
  have HF90 : Hid ((makT l k (nthI l k).2.2.1).isSome = true → faultAt l k = 90) := fun h => fault_first h
  have HF91 : Hid ((makT l k (nthI l k).2.2.1).isSome = false → ∀ j, j < (idsI (nthI l k)).length → (makT l l.length (nth (idsI (nthI l k)) j)).isSome = false → faultAt l k = 91) := fun h j hj hn2 => fault_unknown h hj hn2
  have HFEND : Hid ((makT l k (nthI l k).2.2.1).isSome = false → allMade l l.length ((idsI (nthI l k)).take (idsI (nthI l k)).length) = true → faultAt l k = if aheadJ l k (idsI (nthI l k)).length = true then 92 else 0) := fun h h2 => faultAt_end h h2
  have HIL : Hid ((idsI (nthI l k)).length ≤ 1 + na) := by
    have h1 : (idsI (nthI l k)).length ≤ 1 + (nthI l k).2.2.2.length := by have := idsTo_len (nthI l k).2.1 (nthI l k).2.2.2 (nthI l k).2.2.2.length; unfold idsI; omega
    show _ ≤ _
    rw [p5] at h1; exact h1
  have HAH : Hid (aheadJ l k (idsI (nthI l k)).length = (decide (partI (nthI l k) = 7) && !allMade l k ((idsI (nthI l k)).take (idsI (nthI l k)).length))) := rfl
  clear hv hok hl hvar hF p1 p2 p4 p5 p6 p7 hkl
  generalize idsI (nthI l k) = zs at *
  generalize partI (nthI l k) = pt at *
  by_cases h90 : (makT l k (nthI l k).2.2.1).isSome = true
  · obtain ⟨d1, _⟩ := makV_some h90
    obtain rfl : F = 90 := HF.out.trans (HF90.out h90)
    clear h90 HF90 HF91 HFEND
    generalize makV l k (nthI l k).2.2.1 = mv at *
    go_enter Tryz.func17, Tryz.ntmps17
    go_wp2_with fail
    refine hmk.mono ?_
    rintro e w1 ⟨rfl, rfl⟩
    clear hmk
    go_wp2_with fail
    go_ret
    exact ⟨rfl, Below.refl _ _⟩
  · have h90' : (makT l k (nthI l k).2.2.1).isSome = false := by simpa using h90
    obtain ⟨d1, _⟩ := makV_none h90'
    have HG91 := hide (HF91.out h90')
    have HGEND := hide (HFEND.out h90')
    have hId := HId.out w (Below.refl _ _)
    obtain ⟨_, c0, c1, c2, c3⟩ := HCELLS.out w (Below.refl _ _)
    clear h90 h90' HF90 HF91 HFEND
    generalize makV l k (nthI l k).2.2.1 = mv at *
    go_enter Tryz.func17, Tryz.ntmps17
    go_wp2_with fail
    refine hmk.mono ?_
    rintro e w1 ⟨rfl, rfl⟩
    clear hmk
    go_wp2_with fail
    refine hId.mono ?_
    rintro e w1 ⟨hb1, az, m, cz, rfl, hm1, hown1⟩
    have HVZ := hide (View.ofOwn hown1 hm1)
    have HM1 := hide hm1
    have HB1 := hide hb1
    have hmn : m ≤ 1 + na := by rw [← hm1]; exact HIL.out
    have HRNG : Hid (∀ j, j < m → 0 ≤ nth zs j ∧ nth zs j < 4294967296) := fun j hj => by
      have hjl : j < zs.length := by rw [HM1.out]; exact hj
      refine HRNG0.out (nth zs j) ?_
      simp only [nth, List.getD, List.getElem?_eq_getElem hjl]
      exact List.getElem_mem hjl
    clear hId hown1 hm1 hb1 c0 c1 c2 c3 p3 d1
    go_wp2_with fail
    go_loopw [6] (fun i wr => ∃ j : Nat, j ≤ m ∧ i = .int .i64 j ∧ allMade l n (zs.take j) = true ∧ Below w1.heap.size w1 wr) (fun i _ => m - (intOf i).toNat)
    case atStart => exact ⟨0, Nat.zero_le _, rfl, by simp [allMade], Below.refl _ _⟩
    case round =>
      obtain ⟨j, hj, rfl, hall, hbr⟩ := hrel
      have HALL := hide hall
      have HBR := hide hbr
      clear hall
      by_cases hjm : j < m
      · have hj0 : (0 : Int) ≤ (j : Int) := by omega
        have hji : (j : Int) < (m : Int) := by omega
        obtain ⟨gz, oz, rfl, hgz, hcz⟩ := (HVZ.out.below hbr) j (by rw [HM1.out]; exact hjm)
        have hmj := HMk.out wr (nth zs j) n (HB1.out.trans (hbr.mono HB1.out.size)) (Nat.le_refl _)
        have HALLN : Hid (allMade l n (zs.take (j + 1)) = (allMade l n (zs.take j) && (makT l n (nth zs j)).isSome)) := allMade_snoc l n zs j (by rw [HM1.out]; exact hjm)
        clear hbr
        cases hmt : (makT l n (nth zs j)).isSome with
        | false =>
          obtain ⟨_, d2⟩ := makV_none hmt
          obtain rfl : F = 91 := HF.out.trans (HG91.out j (by rw [HM1.out]; exact hjm) (by rw [HL.out]; exact hmt))
          have HBF := hide (HB1.out.trans (HBR.out.mono HB1.out.size))
          clear hmt
          generalize makV l n (nth zs j) = mv2 at *
          go_wp2_with fail
          refine hmj.mono ?_
          rintro e w2 ⟨rfl, rfl⟩
          clear hmj
          go_wp2_with fail
          go_ret
          exact ⟨rfl, HBF.out⟩
        | true =>
          obtain ⟨_, d2⟩ := makV_some hmt
          have HA2 : Hid (allMade l n (zs.take (j + 1)) = true) := by show _ = _; rw [HALLN.out, HALL.out, hmt]; rfl
          clear hmt
          generalize makV l n (nth zs j) = mv2 at *
          go_wp2_with fail
          refine hmj.mono ?_
          rintro e w2 ⟨rfl, rfl⟩
          clear hmj
          go_wp2_with fail
          go_roundw
          case rel => exact ⟨j + 1, by omega, by go_num, HA2.out, HBR.out⟩
          case measure => simp [intOf]; omega
      · obtain rfl : j = m := by omega
        rename World => wo
        have HGE := hide (HGEND.out (by rw [HM1.out, HL.out]; exact HALL.out))
        have HBO := hide (HB1.out.trans (hbr.mono HB1.out.size))
        have HVO := hide (HVZ.out.below hbr)
        clear hbr
        go_wp2_with fail
        go_loopw [7] (fun i wr => ∃ q : Nat, q ≤ j ∧ i = .int .i64 q ∧ (pt = 7 → allMade l k (zs.take q) = true) ∧ Below wo.heap.size wo wr) (fun i _ => j - (intOf i).toNat)
        case atStart => exact ⟨0, Nat.zero_le _, rfl, fun _ => by simp [allMade], Below.refl _ _⟩
        case round =>
          obtain ⟨q, hq, rfl, hal, hbq⟩ := hrel
          have HAL := hide hal
          have HBQ := hide hbq
          have HBF := hide (HBO.out.trans (hbq.mono HBO.out.size))
          clear hal
          by_cases hqm : q < j
          · have hq0 : (0 : Int) ≤ (q : Int) := by omega
            have hqi : (q : Int) < (j : Int) := by omega
            obtain ⟨gz, oz, rfl, hgz, hcz⟩ := (HVO.out.below hbq) q (by rw [HM1.out]; exact hqm)
            have hPt := HPt.out wr HBF.out
            obtain ⟨hgw, c0, c1, c2, c3⟩ := HCELLS.out wr HBF.out
            have HALLN : Hid (allMade l k (zs.take (q + 1)) = (allMade l k (zs.take q) && (makT l k (nth zs q)).isSome)) := allMade_snoc l k zs q (by rw [HM1.out]; exact hqm)
            clear hbq
            by_cases h7 : pt = 7
            · have h7' : (pt == 7) = true := by simpa using h7
              cases hmt : (makT l k (nth zs q)).isSome with
              | false =>
                obtain ⟨_, d2⟩ := makV_none hmt
                obtain rfl : F = 92 := by
                  rw [HF.out, HGE.out, HAH.out]
                  have hz : allMade l k (zs.take zs.length) = false := by rw [List.take_length]; exact allMade_false (by rw [HM1.out]; exact hqm) hmt
                  rw [hz]
                  simp [h7]
                clear hmt h7
                go_wp2_with fail
                refine hPt.mono ?_
                rintro e w2 ⟨rfl, hb2⟩
                have hmj := HMk.out w2 (nth zs q) k (HBF.out.trans (hb2.mono HBF.out.size)) (by omega)
                have hcz2 := (hb2.cell (p := ⟨gz, oz + q, none⟩) hgz).trans hcz
                have hgz2 : gz < w2.heap.size := Nat.lt_of_lt_of_le hgz hb2.size
                have HBF2 := hide (HBF.out.trans (hb2.mono HBF.out.size))
                clear hPt hb2 c0 c1 c2 c3 hcz
                generalize makV l k (nth zs q) = mv2 at *
                go_wp2_with fail
                refine hmj.mono ?_
                rintro e w3 ⟨rfl, rfl⟩
                clear hmj
                go_wp2_with fail
                go_ret
                exact ⟨rfl, HBF2.out⟩
              | true =>
                obtain ⟨_, d2⟩ := makV_some hmt
                have HA2 : Hid (pt = 7 → allMade l k (zs.take (q + 1)) = true) := fun h => by rw [HALLN.out, HAL.out h, hmt]; rfl
                clear hmt h7
                go_wp2_with fail
                refine hPt.mono ?_
                rintro e w2 ⟨rfl, hb2⟩
                have hmj := HMk.out w2 (nth zs q) k (HBF.out.trans (hb2.mono HBF.out.size)) (by omega)
                have hcz2 := (hb2.cell (p := ⟨gz, oz + q, none⟩) hgz).trans hcz
                have hgz2 : gz < w2.heap.size := Nat.lt_of_lt_of_le hgz hb2.size
                have HBQ2 := hide (HBQ.out.trans (hb2.mono HBQ.out.size))
                clear hPt hb2 c0 c1 c2 c3 hcz
                generalize makV l k (nth zs q) = mv2 at *
                go_wp2_with fail
                refine hmj.mono ?_
                rintro e w3 ⟨rfl, rfl⟩
                clear hmj
                go_wp2_with fail
                go_roundw
                case rel => exact ⟨q + 1, by omega, by go_num, HA2.out, HBQ2.out⟩
                case measure => simp [intOf]; omega
            · have h7' : (pt == 7) = false := by simpa using h7
              have HA2 : Hid (pt = 7 → allMade l k (zs.take (q + 1)) = true) := fun h => absurd h h7
              clear h7
              go_wp2_with fail
              refine hPt.mono ?_
              rintro e w2 ⟨rfl, hb2⟩
              have HBQ2 := hide (HBQ.out.trans (hb2.mono HBQ.out.size))
              clear hPt hb2 c0 c1 c2 c3 hcz
              go_wp2_with fail
              go_roundw
              case rel => exact ⟨q + 1, by omega, by go_num, HA2.out, HBQ2.out⟩
              case measure => simp [intOf]; omega
          · obtain rfl : q = j := by omega
            obtain rfl : F = 0 := by
              rw [HF.out, HGE.out, HAH.out, HM1.out]
              by_cases h7 : pt = 7
              · rw [HAL.out h7]; simp
              · simp [h7]
            clear hbq
            go_wp2_with fail
            go_ret
            exact ⟨rfl, HBF.out⟩

set_option maxHeartbeats 8000000 in
theorem refCheck9_any (gen bnd : Int) (a : Option Addr) (n c : Nat) (l : List InstT) (w : World) (hv : InstsV w a l) (hok : InstsOk l) (hl : l.length = n) (hn : 40 * n ≤ 140737488351232) (b0 : 0 ≤ bnd) (b1 : bnd < 4294967296) :
    Calls Tryz.prog 9 #[modV gen bnd a n c] w fun e w' => e = .returned (.agg #[.int .i64 (idsE bnd l).1, .int .i64 ((idsE bnd l).2 : Int)]) ∧ Below w.heap.size w w' := by
  obtain ⟨L, hL⟩ : ∃ L, L = idsE bnd l := ⟨_, rfl⟩
  rw [← hL]
  have hb0 : Below w.heap.size w ((w.alloc (.cells #[.int .u32 gen, .int .u32 bnd, .slice a n c] 25)).alloc (.cells #[.int .i64 0, .int .i64 0] 28)) := ((Below.refl _ w).alloc (Nat.le_refl _) _).alloc (by simp) _
  have hCk := refCheck5_any gen bnd a n c l _ (hv.below hb0) hok hl hn b0 b1
  have HE1 : Hid ((layE bnd l).1 ≠ 0 → L = layE bnd l) := fun h => by rw [hL]; unfold idsE; rw [if_pos h]
  have HE0 : Hid ((layE bnd l).1 = 0 → L = idsF l l.length 0 ∧ n ≤ 1048576 ∧ VarsOk l) := fun h => by
    obtain ⟨q1, q2, q3⟩ := layE_ok h
    exact ⟨by rw [hL]; unfold idsE; rw [if_neg (by simpa using h)], by rw [← hl]; exact (shape_few q2).1, fun k hk h59 => var_args (b := bnd) (shape_each q2 k hk) h59⟩
  have HMB : Hid (((w.alloc (.cells #[.int .u32 gen, .int .u32 bnd, .slice a n c] 25)).alloc (.cells #[.int .i64 0, .int .i64 0] 28)).heap[w.heap.size]? = some (.cells #[.int .u32 gen, .int .u32 bnd, .slice a n c] 25 (0, 0))) := by
    show _ = _
    rw [Below.heap_alloc _ _ _ (by simp)]; exact heap_alloc_new w _
  have HRB : Hid (SpotB ((w.alloc (.cells #[.int .u32 gen, .int .u32 bnd, .slice a n c] 25)).alloc (.cells #[.int .i64 0, .int .i64 0] 28)) (w.heap.size + 1) 0 0) := by
    have := heap_alloc_new (w.alloc (.cells #[.int .u32 gen, .int .u32 bnd, .slice a n c] 25)) (.cells #[.int .i64 0, .int .i64 0] 28)
    rw [World.size_alloc] at this
    exact this
  have HLT : Hid (w.heap.size + 1 < ((w.alloc (.cells #[.int .u32 gen, .int .u32 bnd, .slice a n c] 25)).alloc (.cells #[.int .i64 0, .int .i64 0] 28)).heap.size) := by show _ < _; simp
  have HB0 := hide hb0
  have HV := hide hv
  have HOK := hide hok
  have HL := hide hl
  have HRET : Hid (∀ (a' : Act) (Z : World), slot a'.tmps 2 = .pointer (some ⟨w.heap.size + 1, 0, none⟩) → a'.defers = [] → SpotB Z (w.heap.size + 1) L.1 (L.2 : Int) → Below w.heap.size w Z → bodyPost Tryz.prog Tryz.f9 (fun e w' => e = .returned (.agg #[.int .i64 L.1, .int .i64 (L.2 : Int)]) ∧ Below w.heap.size w w') .ret a' Z) := by
    intro a' Z q2 q3 q4 q5
    have r6 := run_loadVar_mid (P := Tryz.prog) Z (w.heap.size + 1) 0 28 [.int .i64 L.1, .int .i64 (L.2 : Int)] _ (range_of_block q4) Tryz.underlying28 rfl (by kernel_rfl)
    refine bodyPost_ret (v := .agg #[.int .i64 L.1, .int .i64 (L.2 : Int)]) ?_ q3 ⟨rfl, q5⟩
    have hG2 : a'.tmps.getD 2 undef = .pointer (some ⟨w.heap.size + 1, 0, none⟩) := q2
    simp only [results, Tryz.results9, List.mapM_toArray, List.mapM_cons, List.mapM_nil, hG2, asAddr, Sem.run_bind, Sem.run_pure, Result.andThen_ok, bind_assoc, pure_bind, Sem.run_map, map_pure, r6]
    rfl
  generalize layE bnd l = E at *
  obtain ⟨e1, e2⟩ := E
  unfold modV at *
  simp only at *
  clear hb0 hv hok hl hL
  go_enter Tryz.func9, Tryz.ntmps9
  go_wp2_with fail
  generalize (w.alloc (.cells #[.int .u32 gen, .int .u32 bnd, .slice a n c] 25)).alloc (.cells #[.int .i64 0, .int .i64 0] 28) = W0 at *
  refine hCk.mono ?_
  rintro e w1 ⟨rfl, hb1⟩
  have kl := HLT.out
  have kw : W0.heap.size ≤ w1.heap.size := hb1.size
  have m2 := (hb1.cell (p := ⟨w.heap.size, 2, none⟩) (show w.heap.size < W0.heap.size by omega)).trans ((one_block HMB.out).1 2)
  have kr : SpotB w1 (w.heap.size + 1) 0 0 := (hb1.block (w.heap.size + 1) HLT.out).trans HRB.out
  obtain ⟨cr, fr⟩ := one_block kr
  have r0 := cr 0
  have r1 := cr 1
  have HB1 := hide hb1
  have hHl : w.heap.size < w1.heap.size := by omega
  have hHl1 : w.heap.size + 1 < w1.heap.size := by omega
  have FINE : Hid (∀ (X : World) (x y : Int), Below W0.heap.size W0 X → SpotB ((X.setCell ⟨w.heap.size + 1, 0, none⟩ (.int .i64 x)).setCell ⟨w.heap.size + 1, 1, none⟩ (.int .i64 y)) (w.heap.size + 1) x y ∧ Below w.heap.size w ((X.setCell ⟨w.heap.size + 1, 0, none⟩ (.int .i64 x)).setCell ⟨w.heap.size + 1, 1, none⟩ (.int .i64 y))) := fun X x y hX =>
    ⟨SpotB.put (e := 0) (p := 0) ((hX.block _ kl).trans HRB.out) x y, below_grown (HB0.out.trans (hX.mono HB0.out.size)) (setCells_grown (w.heap.size + 1) [.int .i64 x, .int .i64 y] 0 X) (fun g e => by simp at e; omega)⟩
  clear hCk hb1 cr
  by_cases hE0 : e1 = 0
  · subst hE0
    obtain ⟨hLf, hnn, hvar⟩ := HE0.out rfl
    have HLF := hide hLf
    have HVAR := hide hvar
    have hb2 : Below W0.heap.size W0 (w1.alloc (.cells #[.int .i64 0, .int .i64 e2] 28)) := HB1.out.alloc HB1.out.size _
    have HB2 := hide hb2
    have HM2 : Hid ((w1.alloc (.cells #[.int .i64 0, .int .i64 e2] 28)).cell? ⟨w.heap.size, 2, none⟩ = some (.slice a n c)) := (World.cell?_of_block (a := ⟨w.heap.size, 2, none⟩) (Below.heap_alloc _ _ _ hHl)).trans m2
    have HS2 : Hid (w.heap.size + 1 < (w1.alloc (.cells #[.int .i64 0, .int .i64 e2] 28)).heap.size) := by show _ < _; rw [World.size_alloc]; omega
    clear hLf hvar HE0 HE1 kr r0 r1 fr hb2
    go_wp2_with fail
    clear m2
    generalize w1.alloc (.cells #[.int .i64 0, .int .i64 e2] 28) = W1 at *
    have hls := HS2.out
    go_loopw [4] (fun i wr => ∃ k : Nat, k ≤ n ∧ i = .int .i64 k ∧ (∀ i, i < k → faultAt l i = 0) ∧ Below W1.heap.size W1 wr) (fun i _ => n - (intOf i).toNat)
    case atStart => exact ⟨0, Nat.zero_le _, rfl, fun i hi => by omega, Below.refl _ _⟩
    case round =>
      obtain ⟨k, hk, rfl, hgood, hbr⟩ := hrel
      have HGOOD := hide hgood
      have HB := hide hbr
      have HBX := hide (HB2.out.trans (hbr.mono HB2.out.size))
      have m2 := (hbr.cell (p := ⟨w.heap.size, 2, none⟩) (show w.heap.size < W1.heap.size by omega)).trans HM2.out
      have hlr : w.heap.size + 1 < wr.heap.size := Nat.lt_of_lt_of_le hls hbr.size
      have hrb : SpotB wr (w.heap.size + 1) 0 0 := (HBX.out.block _ kl).trans HRB.out
      obtain ⟨cr, fr⟩ := one_block hrb
      have r0 := cr 0
      have r1 := cr 1
      clear hgood cr hrb
      by_cases hlt : k < n
      · have hki : (k : Int) < (n : Int) := by omega
        have hFt := refFault9_any a n c l k wr (HV.out.below (HB0.out.trans (HBX.out.mono HB0.out.size))) HOK.out HL.out hnn HVAR.out hlt
        by_cases hf : faultAt l k = 0
        · have HG2 : Hid (∀ i, i < k + 1 → faultAt l i = 0) := fun i hi => by
            by_cases e : i = k
            · rw [e]; exact hf
            · exact HGOOD.out i (by omega)
          rw [hf] at hFt
          clear hbr hf
          go_wp2_with fail
          refine hFt.mono ?_
          rintro e w2 ⟨rfl, hb2⟩
          have HB3 := hide (HB.out.trans (hb2.mono HB.out.size))
          clear hFt hb2 m2 r0 r1 fr
          go_wp2_with fail
          go_roundw
          case rel => exact ⟨k + 1, by omega, by go_num, HG2.out, HB3.out⟩
          case measure => simp [intOf]; omega
        · have hf' : (faultAt l k != 0) = true := by simpa using hf
          have HLE : Hid (L = (faultAt l k, k)) := by
            show _ = _
            rw [HLF.out, idsF_at (by rw [HL.out]; exact hlt) HGOOD.out hf]
          clear hbr hf
          generalize faultAt l k = ff at *
          go_wp2_with fail
          refine hFt.mono ?_
          rintro e w2 ⟨rfl, hb2⟩
          obtain ⟨f1, f2⟩ := FINE.out w2 ff k (HBX.out.trans (hb2.mono HBX.out.size))
          have F1 := hide f1
          have F2 := hide f2
          obtain ⟨cr2, fr2⟩ := one_block (show SpotB w2 (w.heap.size + 1) 0 0 from (hb2.block _ hlr).trans ((HBX.out.block _ kl).trans HRB.out))
          have t0 := cr2 0
          have t1 := cr2 1
          have hl2 : w.heap.size + 1 < w2.heap.size := Nat.lt_of_lt_of_le hlr hb2.size
          clear hFt hb2 m2 r0 r1 fr f1 f2 cr2
          go_wp2_with fail
          exact HRET.out _ _ rfl rfl (by rw [HLE.out]; exact F1.out) F2.out
      · obtain rfl : k = n := by omega
        have HLE : Hid (L = (0, 0)) := by
          show _ = _
          rw [HLF.out]
          exact idsF_done (fun i hi => HGOOD.out i (by rw [← HL.out]; exact hi))
        obtain ⟨f1, f2⟩ := FINE.out wr 0 0 HBX.out
        have F1 := hide f1
        have F2 := hide f2
        clear hbr f1 f2
        go_wp2_with fail
        exact HRET.out _ _ rfl rfl (by rw [HLE.out]; exact F1.out) F2.out
  · have hE1 : (e1 != 0) = true := by simpa using hE0
    have HLE := hide (HE1.out hE0)
    obtain ⟨f1, f2⟩ := FINE.out w1 e1 e2 HB1.out
    have F1 := hide f1
    have F2 := hide f2
    clear hE0 HE0 HE1 f1 f2
    go_wp2_with fail
    refine HRET.out _ _ rfl rfl ?_ (F2.out.alloc F2.out.size _)
    rw [HLE.out]
    refine (Below.heap_alloc _ _ _ ?_).trans F1.out
    rw [World.size_setCell, World.size_setCell]; exact hHl1
end Go.Proofs.YtjjoggpddafajaaGreat

/-
  The document's Turned: an instruction with other ids, by a list of numbers, its arguments in new memory.
-/
namespace Go.Proofs.YtjjoggpddafajaaGreat
open Go.RowKit
set_option linter.unusedVariables false
set_option linter.unusedSimpArgs false
set_option maxRecDepth 10000

theorem turn_push (f : Int → Int) (l : List ArgT) (k : Nat) (hk : k < l.length) : ((l.take (k + 1)).map (tA f)).flatMap argC = ((l.take k).map (tA f)).flatMap argC ++ argC (tA f (nthA l k)) := by
  have : nthA l k = l[k] := by simp [nthA, List.getD, hk]
  rw [List.take_add_one, List.getElem?_eq_getElem hk, this, List.map_append, List.flatMap_append]
  simp

theorem three_set1 {W : World} {b T : Nat} {x0 x1 x2 : Value} (h : W.heap[b]? = some (.cells #[x0, x1, x2] T (0, 0))) (u : Value) : (W.setCell ⟨b, 1, none⟩ u).heap[b]? = some (.cells #[x0, u, x2] T (0, 0)) := by simp [World.setCell, Array.getElem?_modify, h]

/-- While an instruction is turned: its box, the answer's, the new one's, and the arguments so far. -/
structure TurB (w : World) (xo xt xr : Int) (ax : Option Addr) (nx cx : Nat) (yt yr : Int) (v : Value) (k : Nat) (cs : List Value) (W : World) : Prop where
  ibox : W.heap[w.heap.size]? = some (.cells #[.int .u16 xo, .int .u32 xt, .int .u32 xr, .slice ax nx cx] 40 (0, 0))
  rbox : W.heap[w.heap.size + 1]? = some (.cells #[.int .u16 0, .int .u32 0, .int .u32 0, .slice none 0 0] 40 (0, 0))
  xbox : W.heap[w.heap.size + 2]? = some (.cells #[.int .u16 xo, .int .u32 yt, .int .u32 yr, v] 40 (0, 0))
  own : W.ownsRow (w.heap.size + 3) 48 3 v k cs
  bel : Below w.heap.size w W
theorem TurB.size {w W : World} {xo xt xr : Int} {ax : Option Addr} {nx cx : Nat} {yt yr : Int} {v : Value} {k : Nat} {cs : List Value} (h : TurB w xo xt xr ax nx cx yt yr v k cs W) : w.heap.size + 2 < W.heap.size := (Array.getElem?_eq_some_iff.1 h.xbox).1
theorem TurB.below {w W W' : World} {xo xt xr : Int} {ax : Option Addr} {nx cx : Nat} {yt yr : Int} {v : Value} {k : Nat} {cs : List Value} (h : TurB w xo xt xr ax nx cx yt yr v k cs W) (hb : Below W.heap.size W W') : TurB w xo xt xr ax nx cx yt yr v k cs W' := by
  have s := h.size
  exact ⟨(hb.block _ (by omega)).trans h.ibox, (hb.block _ (by omega)).trans h.rbox, (hb.block _ s).trans h.xbox, own_below h.own hb, h.bel.trans (hb.mono h.bel.size)⟩
theorem TurB.push {w W W' : World} {xo xt xr : Int} {ax : Option Addr} {nx cx : Nat} {yt yr : Int} {v v' : Value} {k : Nat} {cs cs' : List Value} (h : TurB w xo xt xr ax nx cx yt yr v k cs W) (hg : W.grownBy W' v.ownBlock) (ho : W'.ownsRow (w.heap.size + 3) 48 3 v' (k + 1) cs') :
    TurB w xo xt xr ax nx cx yt yr v' (k + 1) cs' (W'.setCell ⟨w.heap.size + 2, 3, none⟩ v') ∧ W'.cell? ⟨w.heap.size + 2, 3, none⟩ = some v ∧ W'.frozen? ⟨w.heap.size + 2, 3, none⟩ = false := by
  have s := h.size
  have hlo : ∀ g, v.ownBlock = some g → w.heap.size + 3 ≤ g := fun g e => (h.own.lt g e).1
  have kk : ∀ i, i < w.heap.size + 3 → W'.heap[i]? = W.heap[i]? := fun i hi => hg.block i (by omega) (fun e => by have := hlo _ e.symm; omega)
  have hx := (kk (w.heap.size + 2) (by omega)).trans h.xbox
  refine ⟨⟨setFarT ((kk _ (by omega)).trans h.ibox) (by omega) _ _, setFarT ((kk _ (by omega)).trans h.rbox) (by omega) _ _, by simp [World.setCell, Array.getElem?_modify, hx], ownsRow_setCell_below ho (by simp) _, ?_⟩, (one_block hx).1 3, (one_block hx).2 3⟩
  exact (h.bel.grown hg h.bel.size (fun g e => by have := hlo g e; omega)).setCell (by simp) _

set_option maxHeartbeats 8000000 in
theorem refTurned9_any (zs : List Int) (ta : Option Addr) (tn tc : Nat) (xo xt xr : Int) (xl : List ArgT) (ax : Option Addr) (nx cx : Nat) (w : World) (hv : ArgsV w ax xl) (hl : xl.length = nx) (hn : 24 * nx ≤ 140737488351232) (tv : View .u32 w ta zs) (tl : zs.length = tn)
    (t0 : 0 ≤ xt) (t1 : xt < tn) (r0 : 0 ≤ xr) (r1 : xr < tn) (pa : ∀ k, k < nx → (nthA xl k).1 = 1 → 0 ≤ (nthA xl k).2.1 ∧ (nthA xl k).2.1 < tn) :
    Calls Tryz.prog 18 #[.agg #[.int .u16 xo, .int .u32 xt, .int .u32 xr, .slice ax nx cx], .slice ta tn tc] w fun e w' => ∃ a c, e = .returned (.agg #[.int .u16 xo, .int .u32 (fW zs xt), .int .u32 (fW zs xr), .slice a nx c]) ∧ w'.ownsRow (w.heap.size + 3) 48 3 (.slice a nx c) nx ((xl.map (tA (fW zs))).flatMap argC) ∧ Below w.heap.size w w' := by
  obtain ⟨i0, hi, hz0, hz1, hz2⟩ := info_parts CloneA.info
  have HI : Hid (Tryz.prog.info? 48 = some i0 ∧ i0.zero = some (.agg #[.int .u8 0, .int .u32 0, .string ⟨#[]⟩]) ∧ i0.size = 3 ∧ i0.bytes = 24) := ⟨hi, hz0, hz1, hz2⟩
  obtain ⟨p, rfl⟩ : ∃ p : Nat, xt = (p : Int) := ⟨xt.toNat, by omega⟩
  obtain ⟨q, rfl⟩ : ∃ q : Nat, xr = (q : Int) := ⟨xr.toNat, by omega⟩
  rw [fW_nat, fW_nat]
  have hb0 : Below w.heap.size w ((w.alloc (.cells #[.int .u16 xo, .int .u32 (p : Int), .int .u32 (q : Int), .slice ax nx cx] 40)).alloc (.cells #[.int .u16 0, .int .u32 0, .int .u32 0, .slice none 0 0] 40)) := ((Below.refl _ w).alloc (Nat.le_refl _) _).alloc (by simp) _
  have k0 : ((w.alloc (.cells #[.int .u16 xo, .int .u32 (p : Int), .int .u32 (q : Int), .slice ax nx cx] 40)).alloc (.cells #[.int .u16 0, .int .u32 0, .int .u32 0, .slice none 0 0] 40)).heap[w.heap.size]? = some (.cells #[.int .u16 xo, .int .u32 (p : Int), .int .u32 (q : Int), .slice ax nx cx] 40 (0, 0)) := by rw [Below.heap_alloc _ _ _ (by simp)]; exact heap_alloc_new _ _
  have k1 : ((w.alloc (.cells #[.int .u16 xo, .int .u32 (p : Int), .int .u32 (q : Int), .slice ax nx cx] 40)).alloc (.cells #[.int .u16 0, .int .u32 0, .int .u32 0, .slice none 0 0] 40)).heap[w.heap.size + 1]? = some (.cells #[.int .u16 0, .int .u32 0, .int .u32 0, .slice none 0 0] 40 (0, 0)) := by have := heap_alloc_new (w.alloc (.cells #[.int .u16 xo, .int .u32 (p : Int), .int .u32 (q : Int), .slice ax nx cx] 40)) (.cells #[.int .u16 0, .int .u32 0, .int .u32 0, .slice none 0 0] 40); simpa using this
  have HZ : Hid (((w.alloc (.cells #[.int .u16 xo, .int .u32 (p : Int), .int .u32 (q : Int), .slice ax nx cx] 40)).alloc (.cells #[.int .u16 0, .int .u32 0, .int .u32 0, .slice none 0 0] 40)).heap.size = w.heap.size + 2) := by show _ = _; simp
  have HK := hide (And.intro k0 k1)
  have HB0 := hide hb0
  have HV := hide hv
  have HTV := hide tv
  have HTL := hide tl
  have HL := hide hl
  have HN : Hid (24 * nx ≤ 140737488351232) := hn
  have HPA := hide pa
  have hp : p < tn := by omega
  have hq : q < tn := by omega
  have HTP : Hid (∀ k, k < nx → ((xl.take (k + 1)).map (tA (fW zs))).flatMap argC = ((xl.take k).map (tA (fW zs))).flatMap argC ++ argC (tA (fW zs) (nthA xl k))) := fun k hk => turn_push _ xl k (by omega)
  have HAL : Hid (xl.take nx = xl) := List.take_of_length_le (by omega)
  clear hi hz0 hz1 hz2 hb0 k0 k1 hv tv hl hn pa tl t0 r0
  go_enter Tryz.func18, Tryz.ntmps18
  go_wp2_with fail
  generalize (w.alloc (.cells #[.int .u16 xo, .int .u32 (p : Int), .int .u32 (q : Int), .slice ax nx cx] 40)).alloc (.cells #[.int .u16 0, .int .u32 0, .int .u32 0, .slice none 0 0] 40) = W0 at *
  obtain ⟨bt, ot, rfl, hbt, cp⟩ := HTV.out.below HB0.out p (by rw [HTL.out]; exact hp)
  obtain ⟨bt', ot', e', _, cq⟩ := HTV.out.below HB0.out q (by rw [HTL.out]; exact hq)
  simp only [Option.some.injEq, Addr.mk.injEq, and_true] at e'
  obtain ⟨rfl, rfl⟩ := e'
  obtain ⟨ii, _⟩ := one_block HK.out.1
  have j0 := ii 0
  have j1 := ii 1
  have j2 := ii 2
  have hpi : (p : Int) < (tn : Int) := by omega
  have hqi : (q : Int) < (tn : Int) := by omega
  have hp0 : (0 : Int) ≤ (p : Int) := by omega
  have hq0 : (0 : Int) ≤ (q : Int) := by omega
  generalize hvp : nth zs p = vp at *
  generalize hvq : nth zs q = vq at *
  have HVP := hide hvp
  have HVQ := hide hvq
  clear hvp hvq
  have lw : w.heap.size < W0.heap.size := by rw [HZ.out]; omega
  clear ii
  refine wp_norm ?_
  go_region
  all_goals
    rw [onNormal_normal]
    have HT0 : Hid (TurB w xo (p : Int) (q : Int) ax nx cx vp vq (.slice none 0 0) 0 (((xl.take 0).map (tA (fW zs))).flatMap argC) (W0.alloc (.cells #[.int .u16 xo, .int .u32 vp, .int .u32 vq, .slice none 0 0] 40)).drew) := by
      have hba : Below W0.heap.size W0 (W0.alloc (.cells #[.int .u16 xo, .int .u32 vp, .int .u32 vq, .slice none 0 0] 40)).drew := ((Below.refl _ W0).alloc (Nat.le_refl _) _).drew
      refine ⟨(hba.block _ (by rw [HZ.out]; omega)).trans HK.out.1, (hba.block _ (by rw [HZ.out]; omega)).trans HK.out.2, ?_, by simpa using World.ownsRow_nil _ _ _ _, HB0.out.trans (hba.mono HB0.out.size)⟩
      have := heap_alloc_new W0 (.cells #[.int .u16 xo, .int .u32 vp, .int .u32 vq, .slice none 0 0] 40)
      rw [HZ.out] at this
      exact this
    rw [HZ.out]
    clear cp cq j0 j1 j2
    go_wp2_with fail
    generalize (W0.alloc (.cells #[.int .u16 xo, .int .u32 vp, .int .u32 vq, .slice none 0 0] 40)).drew = W1 at *
    go_loopw [6] (fun i wr => ∃ (k : Nat) (v : Value), k ≤ nx ∧ i = .int .i64 k ∧ TurB w xo (p : Int) (q : Int) ax nx cx vp vq v k (((xl.take k).map (tA (fW zs))).flatMap argC) wr) (fun i _ => nx - (intOf i).toNat)
    case atStart => exact ⟨0, .slice none 0 0, Nat.zero_le _, rfl, HT0.out⟩
    case round =>
      obtain ⟨k, v, hk, rfl, hT⟩ := hrel
      clear HT0
      obtain ⟨a', c', rfl⟩ := own_shapeU hT.own
      have hkb : (k : Int) < 140737488351232 := by have := HN.out; omega
      have b3 := (one_block hT.ibox).1 3
      by_cases hlt : k < nx
      · have hki : (k : Int) < (nx : Int) := by omega
        have hk0 : (0 : Int) ≤ (k : Int) := by omega
        obtain ⟨ba, oa, rfl, hba0, z0, z1', z2'⟩ := HV.out.below hT.bel k (by rw [HL.out]; exact hlt)
        have hpk := HPA.out k hlt
        have htp := HTP.out k hlt
        have HN4 : Hid (k + 1 ≤ maxLen) := by show _ ≤ _; have := HN.out; unfold maxLen; omega
        have HN5 : Hid ((k + 1) * 24 ≤ 140737488355328) := by show _ ≤ _; have := HN.out; omega
        generalize nthA xl k = z at *
        obtain ⟨y1, y2, z3⟩ := z
        simp only at *
        have hba : Below wr.heap.size wr (wr.alloc (.cells #[.int .u8 y1, .int .u32 y2, .string z3] 48)) := (Below.refl _ wr).alloc (Nat.le_refl _) _
        have HTA := hide (hT.below hba)
        have lwr := hT.size
        have x3 := (one_block hT.xbox).1 3
        have lw0 : w.heap.size < wr.heap.size := by omega
        by_cases h1 : y1 = 1
        · subst h1
          obtain ⟨h2a, h2b⟩ := hpk rfl
          obtain ⟨d, rfl⟩ : ∃ d : Nat, y2 = (d : Int) := ⟨y2.toNat, by omega⟩
          obtain ⟨bt', ot', e', hbd, cd⟩ := HTV.out.below (hT.bel.trans (hba.mono hT.bel.size)) d (by rw [HTL.out]; omega)
          simp only [Option.some.injEq, Addr.mk.injEq, and_true] at e'
          obtain ⟨rfl, rfl⟩ := e'
          have hdi : (d : Int) < (tn : Int) := h2b
          have hd0 : (0 : Int) ≤ (d : Int) := by omega
          have htA : tA (fW zs) (1, (d : Int), z3) = (1, nth zs d, z3) := by simp [tA, fW_nat]
          rw [htA] at htp
          have HTQ := hide htp
          clear htp htA
          generalize nth zs d = vd at *
          have kA := heap_alloc_new wr (.cells #[.int .u8 1, .int .u32 (d : Int), .string z3] 48)
          obtain ⟨aa, af⟩ := one_block kA
          have a1 := aa 1
          have f1 := af 1
          have HTW : Hid (TurB w xo (p : Int) (q : Int) (some ⟨ba, oa, none⟩) nx cx vp vq (.slice a' k c') k (((xl.take k).map (tA (fW zs))).flatMap argC) (wr.alloc (.cells #[.int .u8 1, .int .u32 vd, .string z3] 48))) := hT.below ((Below.refl _ wr).alloc (Nat.le_refl _) _)
          clear hpk hba kA aa af h2a h2b hT HTA
          have hTw : TurB w xo (p : Int) (q : Int) (some ⟨ba, oa, none⟩) nx cx vp vq (.slice a' k c') k (((xl.take k).map (tA (fW zs))).flatMap argC) ((wr.alloc (.cells #[.int .u8 1, .int .u32 vd, .string z3] 48)).alloc (.cells #[.int .u8 1, .int .u32 vd, .string z3] 48)) := HTW.out.below ((Below.refl _ _).alloc (Nat.le_refl _) _)
          have N1 := hide hTw.own
          have N2 : Hid (∀ (j : Nat) (u : Value), [Value.int .u8 1, .int .u32 vd, .string z3][j]? = some u → ((wr.alloc (.cells #[.int .u8 1, .int .u32 vd, .string z3] 48)).alloc (.cells #[.int .u8 1, .int .u32 vd, .string z3] 48)).cell? ((⟨wr.heap.size + 1, 0, none⟩ : Addr).add j) = some u) := World.news_of_block (cs := #[.int .u8 1, .int .u32 vd, .string z3]) (t := 48) (fr := (0, 0)) (by have := heap_alloc_new (wr.alloc (.cells #[.int .u8 1, .int .u32 vd, .string z3] 48)) (.cells #[.int .u8 1, .int .u32 vd, .string z3] 48); simpa using this)
          have N3 : Hid (∀ u : Value, u ∈ [Value.int .u8 1, .int .u32 vd, .string z3] → u.oneCell' = true) := by intro u hu; simp at hu; rcases hu with rfl | rfl | rfl <;> rfl
          have N6 : Hid (w.heap.size + 3 ≤ ((wr.alloc (.cells #[.int .u8 1, .int .u32 vd, .string z3] 48)).alloc (.cells #[.int .u8 1, .int .u32 vd, .string z3] 48)).heap.size) := by show _ ≤ _; have := hTw.size; omega
          have HTw := hide hTw
          clear hTw
          go_wp2_with (at_builtin; refine wpList_append_own _ rfl (.tmp 43) (.tmp 45) 38 rfl (w.heap.size + 3) 48 i0 (.agg #[.int .u8 0, .int .u32 0, .string ⟨#[]⟩]) 3 24 Tryz.underlying38 HI.out.1 HI.out.2.1 HI.out.2.2.1 HI.out.2.2.2 rfl (by decide) (.slice a' k c') k _ rfl N1.out ⟨wr.heap.size + 1, 0, none⟩ 1 1 [.int .u8 1, .int .u32 vd, .string z3] rfl rfl N2.out N3.out HN4.out HN5.out N6.out ?_)
          intro v5 w5 hown5 hgr5 _
          obtain ⟨hT5, g5, gf5⟩ := HTw.out.push hgr5 hown5
          have HT5 := hide hT5
          obtain ⟨a5, c5, rfl⟩ := own_shapeU hown5
          clear hT5 hown5 hgr5 N1 N2 N3 N6 HTw HTW
          go_wp2_with fail
          go_roundw
          case rel => exact ⟨k + 1, _, by omega, by go_num, by rw [HTQ.out]; first | exact HT5.out | (rw [List.map_take]; exact HT5.out)⟩
          case measure => simp [intOf]; omega
        · have h1' : (y1 == 1) = false := by simpa using h1
          have htA : tA (fW zs) (y1, y2, z3) = (y1, y2, z3) := by simp [tA, h1]
          rw [htA] at htp
          have HTQ := hide htp
          clear htp htA
          have kB := heap_alloc_new wr (.cells #[.int .u8 y1, .int .u32 y2, .string z3] 48)
          have HKB := hide kB
          have HLY : Hid (wr.heap.size < (wr.alloc (.cells #[.int .u8 y1, .int .u32 y2, .string z3] 48)).heap.size) := by show _ < _; simp
          have HTW := HTA
          clear hpk hba kB hT HTA h1
          have lBA := HLY.out
          have hTw : TurB w xo (p : Int) (q : Int) (some ⟨ba, oa, none⟩) nx cx vp vq (.slice a' k c') k (((xl.take k).map (tA (fW zs))).flatMap argC) ((wr.alloc (.cells #[.int .u8 y1, .int .u32 y2, .string z3] 48)).alloc (.cells #[.int .u8 y1, .int .u32 y2, .string z3] 48)) := HTW.out.below ((Below.refl _ _).alloc (Nat.le_refl _) _)
          have N1 := hide hTw.own
          have N2 : Hid (∀ (j : Nat) (u : Value), [Value.int .u8 y1, .int .u32 y2, .string z3][j]? = some u → ((wr.alloc (.cells #[.int .u8 y1, .int .u32 y2, .string z3] 48)).alloc (.cells #[.int .u8 y1, .int .u32 y2, .string z3] 48)).cell? ((⟨wr.heap.size + 1, 0, none⟩ : Addr).add j) = some u) := World.news_of_block (cs := #[.int .u8 y1, .int .u32 y2, .string z3]) (t := 48) (fr := (0, 0)) (by have := heap_alloc_new (wr.alloc (.cells #[.int .u8 y1, .int .u32 y2, .string z3] 48)) (.cells #[.int .u8 y1, .int .u32 y2, .string z3] 48); simpa using this)
          have N3 : Hid (∀ u : Value, u ∈ [Value.int .u8 y1, .int .u32 y2, .string z3] → u.oneCell' = true) := by intro u hu; simp at hu; rcases hu with rfl | rfl | rfl <;> rfl
          have N6 : Hid (w.heap.size + 3 ≤ ((wr.alloc (.cells #[.int .u8 y1, .int .u32 y2, .string z3] 48)).alloc (.cells #[.int .u8 y1, .int .u32 y2, .string z3] 48)).heap.size) := by show _ ≤ _; have := hTw.size; omega
          have HTw := hide hTw
          clear hTw
          go_wp2_with (at_builtin; refine wpList_append_own _ rfl (.tmp 43) (.tmp 45) 38 rfl (w.heap.size + 3) 48 i0 (.agg #[.int .u8 0, .int .u32 0, .string ⟨#[]⟩]) 3 24 Tryz.underlying38 HI.out.1 HI.out.2.1 HI.out.2.2.1 HI.out.2.2.2 rfl (by decide) (.slice a' k c') k _ rfl N1.out ⟨wr.heap.size + 1, 0, none⟩ 1 1 [.int .u8 y1, .int .u32 y2, .string z3] rfl rfl N2.out N3.out HN4.out HN5.out N6.out ?_)
          intro v5 w5 hown5 hgr5 _
          obtain ⟨hT5, g5, gf5⟩ := HTw.out.push hgr5 hown5
          have HT5 := hide hT5
          obtain ⟨a5, c5, rfl⟩ := own_shapeU hown5
          clear hT5 hown5 hgr5 N1 N2 N3 N6 HTw HTW
          go_wp2_with fail
          go_roundw
          case rel => exact ⟨k + 1, _, by omega, by go_num, by rw [HTQ.out]; first | exact HT5.out | (rw [List.map_take]; exact HT5.out)⟩
          case measure => simp [intOf]; omega
      · obtain rfl : k = nx := by omega
        obtain ⟨xx, _⟩ := one_block hT.xbox
        obtain ⟨rr, rf⟩ := one_block hT.rbox
        have x0 := xx 0
        have x1 := xx 1
        have x2 := xx 2
        have x3 := xx 3
        have r0 := rr 0
        have r1 := rr 1
        have r2 := rr 2
        have r3 := rr 3
        have hO := hT.own
        rw [HAL.out] at hO
        have HOF := hide (ownsRow_setCell_below (ownsRow_setCell_below (ownsRow_setCell_below (ownsRow_setCell_below hO (a := ⟨w.heap.size + 1, 0, none⟩) (by simp) (.int .u16 xo)) (a := ⟨w.heap.size + 1, 1, none⟩) (by simp) (.int .u32 vp)) (a := ⟨w.heap.size + 1, 2, none⟩) (by simp) (.int .u32 vq)) (a := ⟨w.heap.size + 1, 3, none⟩) (by simp) (.slice a' k c'))
        have HXF : Hid (((((wr.setCell ⟨w.heap.size + 1, 0, none⟩ (.int .u16 xo)).setCell ⟨w.heap.size + 1, 1, none⟩ (.int .u32 vp)).setCell ⟨w.heap.size + 1, 2, none⟩ (.int .u32 vq)).setCell ⟨w.heap.size + 1, 3, none⟩ (.slice a' k c')).heap[w.heap.size + 1]? = some (.cells #[.int .u16 xo, .int .u32 vp, .int .u32 vq, .slice a' k c'] 40 (0, 0))) := by have h := hT.rbox; show _ = _; simp [World.setCell, Array.getElem?_modify, h]
        have HBF := hide ((((hT.bel.setCell (p := ⟨w.heap.size + 1, 0, none⟩) (by simp) (.int .u16 xo)).setCell (p := ⟨w.heap.size + 1, 1, none⟩) (by simp) (.int .u32 vp)).setCell (p := ⟨w.heap.size + 1, 2, none⟩) (by simp) (.int .u32 vq)).setCell (p := ⟨w.heap.size + 1, 3, none⟩) (by simp) (.slice a' k c'))
        clear xx rr hT hO
        go_wp2_with fail
        generalize (((wr.setCell ⟨w.heap.size + 1, 0, none⟩ (.int .u16 xo)).setCell ⟨w.heap.size + 1, 1, none⟩ (.int .u32 vp)).setCell ⟨w.heap.size + 1, 2, none⟩ (.int .u32 vq)).setCell ⟨w.heap.size + 1, 3, none⟩ (.slice a' k c') = Z at *
        obtain ⟨dd, _⟩ := one_block HXF.out
        have d0 := dd 0
        have d1 := dd 1
        have d2 := dd 2
        have d3 := dd 3
        exact bodyPost_ret (v := .agg #[.int .u16 xo, .int .u32 vp, .int .u32 vq, .slice a' k c']) (by simp [results, Tryz.results18, go_sem, d0, d1, d2, d3]) rfl ⟨a', c', by rw [HVP.out, HVQ.out], HOF.out, HBF.out⟩

end Go.Proofs.YtjjoggpddafajaaGreat

/-
  A row of instructions that grows, each with arguments elsewhere.
-/
namespace Go.Proofs.YtjjoggpddafajaaGreat
open Go.RowKit
set_option linter.unusedVariables false
set_option linter.unusedSimpArgs false

theorem ArgsV.grownW {w w' : World} {a : Option Addr} {l : List ArgT} {row : Option Nat} (h : ArgsV w a l) (hg : w.grownBy w' row) (hne : ∀ b off, a = some ⟨b, off, none⟩ → row ≠ some b) : ArgsV w' a l := by
  intro j hj
  obtain ⟨b, off, e, h1, h2, h3, h4⟩ := h j hj
  have hb : w'.heap[b]? = w.heap[b]? := hg.block b h1 (fun e2 => hne b off e e2.symm)
  have hc : ∀ i, w'.cell? ⟨b, i, none⟩ = w.cell? ⟨b, i, none⟩ := fun i => by simp only [World.cell?, hb]
  exact ⟨b, off, e, Nat.lt_of_lt_of_le h1 hg.size, by rw [hc]; exact h2, by rw [hc]; exact h3, by rw [hc]; exact h4⟩
def cellsI (x : InstT) (a : Option Addr) (n c : Nat) : List Value := [.int .u16 x.1, .int .u32 x.2.1, .int .u32 x.2.2.1, .slice a n c]
/-- The instructions so far, in the row v from block lo on. -/
def EachW (w : World) (lo : Nat) (ob : Option Nat) (l : List InstT) (cs : List Value) : Prop :=
  cs.length = l.length * 4 ∧ ∀ j, j < l.length → ∃ aj cj nj, cs[j * 4]? = some (.int .u16 (nthI l j).1) ∧ cs[j * 4 + 1]? = some (.int .u32 (nthI l j).2.1) ∧ cs[j * 4 + 2]? = some (.int .u32 (nthI l j).2.2.1) ∧ cs[j * 4 + 3]? = some (.slice aj nj cj) ∧ (nthI l j).2.2.2.length = nj ∧ ArgsV w aj (nthI l j).2.2.2 ∧ nj ≤ cj ∧ ∀ b off, aj = some ⟨b, off, none⟩ → lo ≤ b ∧ b < w.heap.size ∧ ob ≠ some b
theorem eachW_nil (w : World) (lo : Nat) (ob : Option Nat) : EachW w lo ob [] [] := ⟨rfl, fun j hj => by simp at hj⟩
theorem EachW.below {w w' : World} {lo : Nat} {ob : Option Nat} {l : List InstT} {cs : List Value} (h : EachW w lo ob l cs) (hb : Below w.heap.size w w') : EachW w' lo ob l cs := by
  refine ⟨h.1, fun j hj => ?_⟩
  obtain ⟨aj, cj, nj, c0, c1, c2, c3, c4, c5, c6, c7⟩ := h.2 j hj
  exact ⟨aj, cj, nj, c0, c1, c2, c3, c4, c5.below hb, c6, fun b off e => ⟨(c7 b off e).1, Nat.lt_of_lt_of_le (c7 b off e).2.1 hb.size, (c7 b off e).2.2⟩⟩
theorem EachW.set {w : World} {lo : Nat} {ob : Option Nat} {l : List InstT} {cs : List Value} (h : EachW w lo ob l cs) {b : Nat} (hb : b < lo) (i : Nat) (u : Value) : EachW (w.setCell ⟨b, i, none⟩ u) lo ob l cs := by
  refine ⟨h.1, fun j hj => ?_⟩
  obtain ⟨aj, cj, nj, c0, c1, c2, c3, c4, c5, c6, c7⟩ := h.2 j hj
  exact ⟨aj, cj, nj, c0, c1, c2, c3, c4, c5.setCell (fun b' off' e h2 => by have := (c7 b' off' e).1; omega) u, c6, fun b' off' e => ⟨(c7 b' off' e).1, by rw [World.size_setCell]; exact (c7 b' off' e).2.1, (c7 b' off' e).2.2⟩⟩
theorem nthI_snocW (l : List InstT) (x : InstT) (j : Nat) (hj : j < l.length) : nthI (l ++ [x]) j = nthI l j := by simp [nthI, List.getD, List.getElem?_append_left hj]
theorem nthI_lastW (l : List InstT) (x : InstT) : nthI (l ++ [x]) l.length = x := by simp [nthI, List.getD]
theorem EachW.push {w w' : World} {lo : Nat} {ob : Option Nat} {g' : Nat} {l : List InstT} {cs : List Value} {x : InstT} {a : Option Addr} {n c : Nat} (h : EachW w lo ob l cs) (hv : ∀ b, ob = some b → b < w.heap.size) (ha : ArgsV w a x.2.2.2) (hl : x.2.2.2.length = n) (hc : n ≤ c) (hb : ∀ b off, a = some ⟨b, off, none⟩ → lo ≤ b ∧ b < w.heap.size ∧ ob ≠ some b)
    (hg : w.grownBy w' ob) (hat : ob = some g' ∨ g' = w.heap.size) : EachW w' lo (some g') (l ++ [x]) (cs ++ cellsI x a n c) := by
  obtain ⟨h1, h2⟩ := h
  have far : ∀ b, b < w.heap.size → ob ≠ some b → some g' ≠ some b := fun b hb1 hb2 e => by
    cases e
    rcases hat with h | h
    · exact hb2 h
    · omega
  refine ⟨by simp [cellsI, h1]; omega, fun j hj => ?_⟩
  rw [List.length_append, List.length_singleton] at hj
  by_cases hjl : j < l.length
  · rw [nthI_snocW l x j hjl]
    obtain ⟨aj, cj, nj, c0, c1, c2, c3, c4, c5, c6, c7⟩ := h2 j hjl
    have e : ∀ i, i < cs.length → (cs ++ cellsI x a n c)[i]? = cs[i]? := fun i hi => List.getElem?_append_left hi
    refine ⟨aj, cj, nj, by rw [e _ (by omega)]; exact c0, by rw [e _ (by omega)]; exact c1, by rw [e _ (by omega)]; exact c2, by rw [e _ (by omega)]; exact c3, c4, c5.grownW hg (fun b off e => (c7 b off e).2.2), c6, fun b off e => ⟨(c7 b off e).1, Nat.lt_of_lt_of_le (c7 b off e).2.1 hg.size, far b (c7 b off e).2.1 (c7 b off e).2.2⟩⟩
  · obtain rfl : j = l.length := by omega
    rw [nthI_lastW]
    have e : ∀ i, (cs ++ cellsI x a n c)[l.length * 4 + i]? = (cellsI x a n c)[i]? := fun i => by
      rw [List.getElem?_append_right (by omega)]; congr 1; omega
    refine ⟨a, c, n, by have h0 := e 0; rw [Nat.add_zero] at h0; rw [h0]; rfl, by rw [e 1]; rfl, by rw [e 2]; rfl, by rw [e 3]; rfl, hl, ha.grownW hg (fun b off e => (hb b off e).2.2), hc, fun b off e => ⟨(hb b off e).1, Nat.lt_of_lt_of_le (hb b off e).2.1 hg.size, far b (hb b off e).2.1 (hb b off e).2.2⟩⟩
theorem EachW.view {w : World} {lo lo' T n c : Nat} {a : Option Addr} {l : List InstT} {cs : List Value} (h : EachW w lo' (Value.ownBlock (.slice a n c)) l cs) (ho : w.ownsRow lo T 4 (.slice a n c) n cs) (hl : l.length = n) : InstsV w a l := by
  intro j hj
  obtain ⟨aj, cj, nj, c0, c1, c2, c3, c4, c5, c6, c7⟩ := h.2 j hj
  rcases ho.2 with ⟨_, h0⟩ | ⟨g, cap', cur, hv, _, hg, _⟩
  · omega
  · cases hv
    have hl4 := h.1
    have e := fun i (hi : i < n * 4) => ho.cellAt i hi
    refine ⟨g, 0, aj, cj, nj, rfl, (Array.getElem?_eq_some_iff.1 hg).1, ?_, ?_, ?_, ?_, c4, c5, c6⟩
    · rw [Nat.zero_add, e _ (by omega)]; exact c0
    · rw [Nat.zero_add, e _ (by omega)]; exact c1
    · rw [Nat.zero_add, e _ (by omega)]; exact c2
    · rw [Nat.zero_add, e _ (by omega)]; exact c3
end Go.Proofs.YtjjoggpddafajaaGreat
