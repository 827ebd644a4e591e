/-
  Texts laid together in one: IdsCheck, LayoutKept, IdsCheckF.
-/
import Derived.WalkSpells
import Derived.WalkMore
import Derived.BigRegion
import Derived.Deep.MidRow
import Derived.Maps.OwnOps
import Derived.Test.YtjckgnpbjekhbaaProg
import Derived.Test.YtjckgnpbjekhbaaB16
import Derived.Test.YtjckgnpbjekhbaaB10
import Derived.Test.YtjckgnpbjekhbaaB25
/-
  firstFault and Check of the package ids.
-/
namespace Go.Proofs.Ytjckgnpbjekhbaa
open Go.RowKit
set_option linter.unusedVariables false
set_option linter.unusedSimpArgs false
set_option maxRecDepth 10000

theorem lookU_run {w : World} (t : TypeId) (E : TypeId) (q : IntKind) (ht : Try.prog.underlying t = some (.map 22 E)) (he : Try.prog.underlying E = some (.int q)) (hz : (zeroValue E).run Try.prog w = .ok (.int q 0) w) (b n : Nat) (f : Int → Option Int) (h : MapU w E q b n f) (key : Int) (k0 : 0 ≤ key) (k1 : key < 4294967296) :
    (Instr.lookup t (.map (some b)) (.int .u32 key) false).run Try.prog w = .ok (.int q ((f key).getD 0)) w := by
  obtain ⟨D, h1, h2, h3⟩ := h
  obtain ⟨c, hrun, hat, hwc⟩ := h1.lookup_int keyU ht he hz (keyU_of k0 k1)
  rw [h3] at hat
  simp only [DataW.lit.injEq, Lit.int.injEq, true_and] at hat
  rw [hrun, hat]
/-- A spot's box. -/
def SpotB (W : World) (B : Nat) (e p : Int) : Prop := W.heap[B]? = some (.cells #[.int .i64 e, .int .i64 p] 31 (0, 0))
theorem SpotB.put {W : World} {B : Nat} {e p : Int} (h : SpotB W B e p) (e' p' : Int) : SpotB ((W.setCell ⟨B, 0, none⟩ (.int .i64 e')).setCell ⟨B, 1, none⟩ (.int .i64 p')) B e' p' := setCells_all (w := W) [.int .i64 e', .int .i64 p'] h rfl
theorem KeepB.two {B : Nat} (w : World) (u v : Value) : KeepB B w ((w.setCell ⟨B, 0, none⟩ u).setCell ⟨B, 1, none⟩ v) := (KeepB.set w 0 u).trans (KeepB.set _ 1 v)

set_option maxHeartbeats 8000000 in
theorem firstFault_any (a : Option Addr) (n c : Nat) (l : List InstT) (w : World) (hv : InstsV w a l) (hok : InstsOk l) (hl : l.length = n) (hn : n ≤ 1048576) (hto : okTo l n) :
    Calls Try.prog 28 #[.slice a n c, .agg #[.int .i64 ((cntP l 7 n : Nat) : Int), .int .i64 ((cntP l 8 n : Nat) : Int)]] w fun e w' => e = .returned (.agg #[.int .i64 (idsF l n 0).1, .int .i64 ((idsF l n 0).2 : Int)]) ∧ Below w.heap.size w w' := by
  obtain ⟨L, hL⟩ : ∃ L, L = idsF l n 0 := ⟨_, rfl⟩
  rw [← hL]
  have HLL := hide hL
  have hb0 : Below w.heap.size w ((w.alloc (.cells #[.int .i64 ((cntP l 7 n : Nat) : Int), .int .i64 ((cntP l 8 n : Nat) : Int)] 60)).alloc (.cells #[.int .i64 0, .int .i64 0] 31)) := ((Below.refl _ w).alloc (Nat.le_refl _) _).alloc (by simp) _
  have hMk := makersOf_any a n c l _ (hv.below hb0) hok hl (by omega)
  have HSB : Hid (((w.alloc (.cells #[.int .i64 ((cntP l 7 n : Nat) : Int), .int .i64 ((cntP l 8 n : Nat) : Int)] 60)).alloc (.cells #[.int .i64 0, .int .i64 0] 31)).heap[w.heap.size]? = some (.cells #[.int .i64 ((cntP l 7 n : Nat) : Int), .int .i64 ((cntP l 8 n : Nat) : Int)] 60 (0, 0))) := by
    show _ = _
    rw [Below.heap_alloc _ _ _ (by simp)]; exact heap_alloc_new w _
  have HRB : Hid (((w.alloc (.cells #[.int .i64 ((cntP l 7 n : Nat) : Int), .int .i64 ((cntP l 8 n : Nat) : Int)] 60)).alloc (.cells #[.int .i64 0, .int .i64 0] 31)).heap[w.heap.size + 1]? = some (.cells #[.int .i64 0, .int .i64 0] 31 (0, 0))) := by
    have := heap_alloc_new (w.alloc (.cells #[.int .i64 ((cntP l 7 n : Nat) : Int), .int .i64 ((cntP l 8 n : Nat) : Int)] 60)) (.cells #[.int .i64 0, .int .i64 0] 31)
    rw [World.size_alloc] at this
    exact this
  have HLT : Hid (w.heap.size + 1 < ((w.alloc (.cells #[.int .i64 ((cntP l 7 n : Nat) : Int), .int .i64 ((cntP l 8 n : Nat) : Int)] 60)).alloc (.cells #[.int .i64 0, .int .i64 0] 31)).heap.size) := by show _ < _; simp
  have HB0 := hide hb0
  have HV := hide hv
  have HOK := hide hok
  have HL := hide hl
  have HTO := hide hto
  have HTT := hide Try.underlying66
  have HTE := hide Try.underlying3
  have HC78 : Hid (∀ k, k < n → ((decide (((cntP l 7 n : Nat) : Int) ≤ (k : Int)) && decide ((k : Int) < ((cntP l 8 n : Nat) : Int))) = decide (partI (nthI l k) = 7))) := fun k hk => by
    have h7 := span_part (p := 7) hto hk
    have h8 := span_part (p := 8) hto hk
    rw [Bool.eq_iff_iff]
    simp only [Bool.and_eq_true, decide_eq_true_eq]
    constructor
    · rintro ⟨q1, q2⟩
      have := h7.1 (by omega)
      rcases Int.lt_or_le (partI (nthI l k)) 8 with q | q
      · omega
      · have := h8.2 (by omega); omega
    · intro q
      refine ⟨by have := h7.2 (by omega); omega, ?_⟩
      rcases Nat.lt_or_ge k (cntP l 8 n) with q2 | q2
      · omega
      · have := h8.1 q2; omega
  have HRET : Hid (∀ (a' : Act) (Z : World), slot a'.tmps 4 = .pointer (some ⟨w.heap.size + 1, 0, none⟩) → a'.defers = [] → SpotB Z (w.heap.size + 1) L.1 (L.2 : Int) → Below w.heap.size w Z → bodyPost Try.prog Try.f28 (fun e w' => e = .returned (.agg #[.int .i64 L.1, .int .i64 (L.2 : Int)]) ∧ Below w.heap.size w w') .ret a' Z) := by
    intro a' Z q2 q3 q4 q5
    have r6 := run_loadVar_mid (P := Try.prog) Z (w.heap.size + 1) 0 31 [.int .i64 L.1, .int .i64 (L.2 : Int)] _ (range_of_block q4) Try.underlying31 rfl (by kernel_rfl)
    refine bodyPost_ret (v := .agg #[.int .i64 L.1, .int .i64 (L.2 : Int)]) ?_ q3 ⟨rfl, q5⟩
    have hG2 : a'.tmps.getD 4 undef = .pointer (some ⟨w.heap.size + 1, 0, none⟩) := q2
    simp only [results, Try.results28, List.mapM_toArray, List.mapM_cons, List.mapM_nil, hG2, asAddr, Sem.run_bind, Sem.run_pure, Result.andThen_ok, bind_assoc, pure_bind, Sem.run_map, map_pure, r6]
    rfl
  generalize ((cntP l 7 n : Nat) : Int) = c7 at *
  generalize ((cntP l 8 n : Nat) : Int) = c8 at *
  clear hb0 hv hok hl hto hL
  go_enter Try.func28, Try.ntmps28
  go_wp2_with fail
  go_step3
  go_wp2_with fail
  generalize (w.alloc (.cells #[.int .i64 c7, .int .i64 c8] 60)).alloc (.cells #[.int .i64 0, .int .i64 0] 31) = W0 at *
  refine hMk.mono ?_
  rintro e w1 ⟨mb, rfl, hmb, hMU, hb1⟩
  have hba1 : Below w1.heap.size w1 (w1.alloc (.cells #[.int .i64 0, .int .i64 0] 31)) := (Below.refl _ w1).alloc (Nat.le_refl _) _
  have HM1 := hide (hMU.below hba1)
  have HB1 := hide (hb1.trans (hba1.mono hb1.size))
  have HWB : Hid (SpotB (w1.alloc (.cells #[.int .i64 0, .int .i64 0] 31)) w1.heap.size 0 0) := heap_alloc_new w1 _
  have HS1 : Hid (W0.heap.size ≤ w1.heap.size) := hb1.size
  have HSX : Hid (w1.heap.size < (w1.alloc (.cells #[.int .i64 0, .int .i64 0] 31)).heap.size) := by show _ < _; simp
  have HMBS : Hid (mb < w1.heap.size) := hMU.lt
  clear hMk hMU hb1 hba1
  go_wp2_with fail
  go_step3
  go_wp2_with fail
  generalize w1.alloc (.cells #[.int .i64 0, .int .i64 0] 31) = W1 at *
  generalize w1.heap.size = S at *
  have hlt0 := HLT.out
  have hs1 := HS1.out
  have hsx := HSX.out
  have HBW1 := hide (HB0.out.trans (HB1.out.mono HB0.out.size))
  -- the end, with what the box says
  have HEND : Hid (∀ (Z : World) (x y : Int), KeepB S W1 Z → L = (x, y.toNat) → 0 ≤ y → SpotB ((Z.setCell ⟨w.heap.size + 1, 0, none⟩ (.int .i64 x)).setCell ⟨w.heap.size + 1, 1, none⟩ (.int .i64 y)) (w.heap.size + 1) L.1 (L.2 : Int) ∧ Below w.heap.size w ((Z.setCell ⟨w.heap.size + 1, 0, none⟩ (.int .i64 x)).setCell ⟨w.heap.size + 1, 1, none⟩ (.int .i64 y))) := fun Z x y hZ hLx hy => by
    have k1 : SpotB Z (w.heap.size + 1) 0 0 := (hZ.block _ (by have := HB1.out.size; omega) (by omega)).trans ((HB1.out.block _ hlt0).trans HRB.out)
    refine ⟨?_, below_grown (KeepB.low HBW1.out (show w.heap.size ≤ S by omega) hZ) (setCells_grown (w.heap.size + 1) [.int .i64 x, .int .i64 y] 0 Z) (fun g e => by simp at e; omega)⟩
    have := k1.put x y
    rw [hLx]
    simp only [Int.toNat_of_nonneg hy]
    exact this
  go_loopw [17] (fun i wr => ∃ k : Nat, k ≤ n ∧ i = .int .i64 k ∧ (∀ i, i < k → faultAt l i = 0) ∧ Below W1.heap.size W1 wr) (fun i _ => n - (intOf i).toNat)
  case atStart => exact ⟨0, Nat.zero_le _, rfl, fun i hi => by omega, Below.refl _ _⟩
  case round =>
    obtain ⟨k, hk, rfl, hgood, hbr⟩ := hrel
    rename World => wo
    have HGOOD := hide hgood
    have HBO := hide hbr
    have hwS : SpotB wo S 0 0 := (hbr.block S hsx).trans HWB.out
    have hSo : S < wo.heap.size := Nat.lt_of_lt_of_le hsx hbr.size
    have hwo : w.heap.size + 1 < wo.heap.size := by have := HB1.out.size; have := hbr.size; omega
    obtain ⟨cs0, fs0⟩ := one_block hwS
    have t0 := cs0 0
    have t1 := cs0 1
    have r1k : SpotB wo (w.heap.size + 1) 0 0 := (hbr.block _ (by have := HB1.out.size; omega)).trans ((HB1.out.block _ hlt0).trans HRB.out)
    obtain ⟨cr0, fr0⟩ := one_block r1k
    have u0 := cr0 0
    have u1 := cr0 1
    clear cs0 cr0 hgood
    by_cases hlt : k < n
    · have hk0 : (0 : Int) ≤ (k : Int) := by omega
      have hki : (k : Int) < (n : Int) := by omega
      have hbw : Below w.heap.size w wo := HBW1.out.trans (hbr.mono HBW1.out.size)
      obtain ⟨g1, o1, ai, ci, na, ha, hg1, p1, p2, p3, p4, p5, p6, p7⟩ := HV.out.below hbw k (by rw [HL.out]; exact hlt)
      have hbd : Below wo.heap.size wo (wo.alloc (.cells #[.int .u16 (nthI l k).1, .int .u32 (nthI l k).2.1, .int .u32 (nthI l k).2.2.1, .slice ai na ci] 38)) := (Below.refl _ wo).alloc (Nat.le_refl _) _
      have hIds := codeIds_any (nthI l k) ai na ci _ (p6.below hbd) p5 (by have := (HOK.out k (by rw [HL.out]; exact hlt)).2.2.2.2.2.2.2; rw [p5] at this; exact this)
      unfold instV at hIds
      have HBD := hide hbd
      have HNA : Hid ((nthI l k).2.2.2.length = na) := p5
      have hna : 24 * na ≤ 140737488351232 := by have := (HOK.out k (by rw [HL.out]; exact hlt)).2.2.2.2.2.2.2; rw [p5] at this; exact this
      have HSW2 : Hid ((wo.alloc (.cells #[.int .u16 (nthI l k).1, .int .u32 (nthI l k).2.1, .int .u32 (nthI l k).2.2.1, .slice ai na ci] 38)).heap.size = wo.heap.size + 1) := by show _ = _; simp
      have hrr : 0 ≤ (nthI l k).2.2.1 ∧ (nthI l k).2.2.1 < 4294967296 := by have := (HOK.out k (by rw [HL.out]; exact hlt)); exact ⟨this.2.2.2.2.1, this.2.2.2.2.2.1⟩
      have hLk := lookU_run 66 3 .i64 HTT.out HTE.out (zeroI64 _) mb n (makT l n) ((HM1.out.below HBO.out).below hbd) (nthI l k).2.2.1 hrr.1 hrr.2
      have HMS : Hid (mb < S) := HMBS.out
      have hmS := HMS.out
      subst ha
      clear hbr hbd hbw p5 p6 p7 hrr
      by_cases hz : (nthI l k).2.2.1 = 0
      · have hzb : ((nthI l k).2.2.1 != 0) = false := by simp [hz]
        have HNF : Hid ((makT l k (nthI l k).2.2.1).isSome = false) := by show _ = _; rw [hz, makT_zero]; rfl
        clear hLk hz
        go_wp2_with fail
        refine hIds.mono ?_
        rintro e w3 ⟨hb3, az, m, cz, rfl, hm3, hown3⟩
        have hVz := View.ofOwn hown3 hm3
        have HZ1 : Hid (∀ g off, az = some ⟨g, off, none⟩ → S < g) := fun g off e => by
          subst e
          have := (hown3.lt g rfl).1
          rw [HSW2.out] at this
          omega
        have HVZ := hide hVz
        have HM3 := hide hm3
        have HB3 := hide (HBD.out.trans (hb3.mono HBD.out.size))
        have hmn : m ≤ 1 + na := by
          have h1 : (idsI (nthI l k)).length ≤ 1 + (nthI l k).2.2.2.length := by have := idsTo_len (nthI l k).2.1 (nthI l k).2.2.2 (nthI l k).2.2.2.length; unfold idsI; omega
          have h2 := HNA.out
          omega
        have HS3 : Hid (SpotB w3 S 0 0) := (HB3.out.block S hSo).trans hwS
        have hs3 : wo.heap.size ≤ w3.heap.size := HB3.out.size
        have HBOX : Hid (w3.heap[w.heap.size]? = some (.cells #[.int .i64 c7, .int .i64 c8] 60 (0, 0))) := (HB3.out.block _ (by omega)).trans ((HBO.out.block _ (by have := HB1.out.size; omega)).trans ((HB1.out.block _ (by omega)).trans HSB.out))
        have HRES3 : Hid (SpotB w3 (w.heap.size + 1) 0 0) := (HB3.out.block _ (by omega)).trans r1k
        have HMU3 := hide ((HM1.out.below HBO.out).below HB3.out)
        clear hIds hb3 hown3 hVz hm3 p1 p2 p3 p4 hzb
        generalize hzs : idsI (nthI l k) = zs at *
        have HZS := hide hzs
        have HRNG : Hid (∀ j, j < m → 0 ≤ nth zs j ∧ nth zs j < 4294967296) := fun j hj => by
          have hjl : j < zs.length := by rw [HM3.out]; exact hj
          refine idsA_range (HOK.out k (by rw [HL.out]; exact hlt)) (nth zs j) ?_
          rw [HZS.out]
          simp only [nth, List.getD, List.getElem?_eq_getElem hjl]
          exact List.getElem_mem hjl
        clear hzs
        go_wp2_with fail
        go_loopw [38] (fun i wz => ∃ j : Nat, j ≤ m ∧ i = .int .i64 j ∧ allMade l n (zs.take j) = true ∧ KeepB S w3 wz ∧ SpotB wz S (if aheadJ l k j = true then 92 else 0) (if aheadJ l k j = true then (k : Int) else 0)) (fun i _ => m - (intOf i).toNat)
        case atStart => exact ⟨0, Nat.zero_le _, rfl, by simp [allMade], KeepB.refl _ _, by rw [show aheadJ l k 0 = false by unfold aheadJ allMade; simp]; exact HS3.out⟩
        case round =>
          obtain ⟨j, hj, rfl, hall, hkp, hsp⟩ := hrel
          have HALL := hide hall
          have HKP := hide hkp
          have HSPT := hide hsp
          have hSr : S < wr.heap.size := Nat.lt_of_lt_of_le (by omega) hkp.size
          have hwr1 : w.heap.size + 1 < wr.heap.size := by have := hkp.size; omega
          have hne1 : w.heap.size + 1 ≠ S := by omega
          have HKW : Hid (KeepB S W1 wr) := ((KeepB.of_below HBO.out).trans (.of_below HB3.out)).trans hkp
          have hres : SpotB wr (w.heap.size + 1) 0 0 := (hkp.block _ (by omega) (by omega)).trans HRES3.out
          obtain ⟨cr0, fr0⟩ := one_block hres
          have u0 := cr0 0
          have u1 := cr0 1
          obtain ⟨cq0, fq0⟩ := one_block hsp
          have q0 := cq0 0
          have q1 := cq0 1
          clear cr0 cq0 hres hall
          by_cases hjm : j < m
          · have hj0 : (0 : Int) ≤ (j : Int) := by omega
            have hji : (j : Int) < (m : Int) := by omega
            obtain ⟨gz, oz, rfl, hgz, hcz⟩ := HVZ.out j (by rw [HM3.out]; exact hjm)
            have hgS := HZ1.out gz oz rfl
            have hcz' : wr.cell? ⟨gz, oz + j, none⟩ = some (.int .u32 (nth zs j)) := (World.cell?_of_block (a := ⟨gz, oz + j, none⟩) (hkp.block gz hgz (by omega))).trans hcz
            have hgr : gz < wr.heap.size := Nat.lt_of_lt_of_le hgz hkp.size
            have hMr : Hid (MapU wr 3 .i64 mb n (makT l n)) := HMU3.out.block (hkp.block mb (by omega) (by omega))
            obtain ⟨hr0, hr1⟩ := HRNG.out j hjm
            obtain ⟨cb, _⟩ := one_block ((hkp.block w.heap.size (by omega) (by omega)).trans HBOX.out)
            have b0 := cb 0
            have b1 := cb 1
            have HAN : Hid (aheadJ l k (j + 1) = (decide (partI (nthI l k) = 7) && !(allMade l k (zs.take j) && (makT l k (nth zs j)).isSome))) := by
              show _ = _
              unfold aheadJ
              rw [HZS.out, allMade_snoc l k zs j (by rw [HM3.out]; exact hjm)]
            have HAJ : Hid (aheadJ l k j = (decide (partI (nthI l k) = 7) && !allMade l k (zs.take j))) := by show _ = _; unfold aheadJ; rw [HZS.out]
            have HALLN : Hid (allMade l n (zs.take (j + 1)) = (allMade l n (zs.take j) && (makT l n (nth zs j)).isSome)) := allMade_snoc l n zs j (by rw [HM3.out]; exact hjm)
            clear hkp hsp cb hcz hgz
            cases hmt : makT l n (nth zs j) with
            | none =>
              have HLE : Hid (L = (91, ((k : Int)).toNat)) := by
                have hf : faultAt l k = 91 := fault_unknown HNF.out (j := j) (by rw [HZS.out, HM3.out]; exact hjm) (by rw [HZS.out, HL.out, hmt]; rfl)
                show _ = _
                rw [HLL.out, ← HL.out, idsF_at (by rw [HL.out]; exact hlt) HGOOD.out (by rw [hf]; decide), hf, Int.toNat_natCast]
              have HK5 := hide (HKW.out.trans (KeepB.two wr (.int .i64 91) (.int .i64 k)))
              go_wp2_with (at_lookup; refine wpList_lookU_ok rfl _ _ 66 rfl 3 .i64 HTT.out HTE.out (zeroI64 _) mb n (makT l n) rfl hMr.out (nth zs j) rfl hr0 hr1 ?_; rw [hmt, Option.getD_none, Option.isSome_none])
              obtain ⟨f1, f2⟩ := HEND.out ((wr.setCell ⟨S, 0, none⟩ (.int .i64 91)).setCell ⟨S, 1, none⟩ (.int .i64 k)) 91 k HK5.out HLE.out hk0
              exact HRET.out _ _ rfl rfl f1 f2
            | some p =>
              have hisk := makT_ahead (l := l) (k := k) (show k ≤ n by omega) hmt
              have HALL2 : Hid (allMade l n (zs.take (j + 1)) = true) := by show _ = _; rw [HALLN.out, HALL.out, hmt]; rfl
              have hC78 := HC78.out k hlt
              by_cases hkp2 : (k : Int) ≤ p
              · have hd1 : decide ((k : Int) ≤ p) = true := by simpa using hkp2
                have hno : (makT l k (nth zs j)).isSome = false := by rw [hisk]; simp; omega
                by_cases h7 : partI (nthI l k) = 7
                · rw [show decide (partI (nthI l k) = 7) = true by simpa using h7, Bool.and_eq_true] at hC78
                  obtain ⟨hc7, hc8⟩ := hC78
                  have HA1 : Hid (aheadJ l k (j + 1) = true) := by show _ = _; rw [HAN.out, hno]; simp [h7]
                  have HSP2 := hide (HSPT.out.put 92 k)
                  have HK2 := hide (HKP.out.trans (KeepB.two wr (.int .i64 92) (.int .i64 k)))
                  generalize (if aheadJ l k j = true then (92 : Int) else 0) = x0 at *
                  generalize (if aheadJ l k j = true then (k : Int) else 0) = x1 at *
                  clear hkp2 hno h7 hisk
                  go_wp2_with (at_lookup; refine wpList_lookU_ok rfl _ _ 66 rfl 3 .i64 HTT.out HTE.out (zeroI64 _) mb n (makT l n) rfl hMr.out (nth zs j) rfl hr0 hr1 ?_; rw [hmt, Option.getD_some, Option.isSome_some])
                  go_roundw
                  case rel => exact ⟨j + 1, by omega, by go_num, HALL2.out, HK2.out, by rw [HA1.out]; exact HSP2.out⟩
                  case measure => simp [intOf]; omega
                · rw [show decide (partI (nthI l k) = 7) = false by simpa using h7] at hC78
                  have HA1 : Hid (aheadJ l k (j + 1) = aheadJ l k j) := by show _ = _; rw [HAN.out, HAJ.out]; simp [h7]
                  have HSP2 : Hid (SpotB wr S (if aheadJ l k (j + 1) = true then 92 else 0) (if aheadJ l k (j + 1) = true then (k : Int) else 0)) := by show SpotB _ _ _ _; rw [HA1.out]; exact HSPT.out
                  generalize (if aheadJ l k j = true then (92 : Int) else 0) = x0 at *
                  generalize (if aheadJ l k j = true then (k : Int) else 0) = x1 at *
                  clear hkp2 hno h7 hisk
                  cases hc7 : decide (c7 ≤ (k : Int)) with
                  | true =>
                    rw [hc7, Bool.true_and] at hC78
                    go_wp2_with (at_lookup; refine wpList_lookU_ok rfl _ _ 66 rfl 3 .i64 HTT.out HTE.out (zeroI64 _) mb n (makT l n) rfl hMr.out (nth zs j) rfl hr0 hr1 ?_; rw [hmt, Option.getD_some, Option.isSome_some])
                    go_roundw
                    case rel => exact ⟨j + 1, by omega, by go_num, HALL2.out, HKP.out, HSP2.out⟩
                    case measure => simp [intOf]; omega
                  | false =>
                    clear hC78
                    go_wp2_with (at_lookup; refine wpList_lookU_ok rfl _ _ 66 rfl 3 .i64 HTT.out HTE.out (zeroI64 _) mb n (makT l n) rfl hMr.out (nth zs j) rfl hr0 hr1 ?_; rw [hmt, Option.getD_some, Option.isSome_some])
                    go_roundw
                    case rel => exact ⟨j + 1, by omega, by go_num, HALL2.out, HKP.out, HSP2.out⟩
                    case measure => simp [intOf]; omega
              · have hd1 : decide ((k : Int) ≤ p) = false := by simpa using hkp2
                have hyes : (makT l k (nth zs j)).isSome = true := by rw [hisk]; simp; omega
                have HA1 : Hid (aheadJ l k (j + 1) = aheadJ l k j) := by show _ = _; rw [HAN.out, HAJ.out, hyes, Bool.and_true]
                have HSP2 : Hid (SpotB wr S (if aheadJ l k (j + 1) = true then 92 else 0) (if aheadJ l k (j + 1) = true then (k : Int) else 0)) := by show SpotB _ _ _ _; rw [HA1.out]; exact HSPT.out
                generalize (if aheadJ l k j = true then (92 : Int) else 0) = x0 at *
                generalize (if aheadJ l k j = true then (k : Int) else 0) = x1 at *
                clear hkp2 hyes hisk hC78
                go_wp2_with (at_lookup; refine wpList_lookU_ok rfl _ _ 66 rfl 3 .i64 HTT.out HTE.out (zeroI64 _) mb n (makT l n) rfl hMr.out (nth zs j) rfl hr0 hr1 ?_; rw [hmt, Option.getD_some, Option.isSome_some])
                go_roundw
                case rel => exact ⟨j + 1, by omega, by go_num, HALL2.out, HKP.out, HSP2.out⟩
                case measure => simp [intOf]; omega
          · obtain rfl : j = m := by omega
            have hfe : faultAt l k = if aheadJ l k j = true then 92 else 0 := by
              have := faultAt_end (l := l) (k := k) HNF.out (by rw [HZS.out, HM3.out, HL.out]; exact HALL.out)
              rw [HZS.out, HM3.out] at this
              exact this
            cases haj : aheadJ l k j with
            | true =>
              rw [haj, if_pos rfl] at hfe
              have hsp2 : SpotB wr S 92 (k : Int) := by have h := hsp; rw [haj] at h; exact h
              clear q0 q1 fq0
              obtain ⟨cq0, fq0⟩ := one_block hsp2
              have q0 := cq0 0
              have q1 := cq0 1
              clear cq0 hsp2
              have HLE : Hid (L = (92, ((k : Int)).toNat)) := by
                show _ = _
                rw [HLL.out, ← HL.out, idsF_at (by rw [HL.out]; exact hlt) HGOOD.out (by rw [hfe]; decide), hfe, Int.toNat_natCast]
              obtain ⟨f1, f2⟩ := HEND.out wr 92 k HKW.out HLE.out hk0
              have F1 := hide f1
              have F2 := hide f2
              clear f1 f2 hkp hsp haj hfe
              go_wp2_with fail
              exact HRET.out _ _ rfl rfl F1.out F2.out
            | false =>
              rw [haj] at hfe hsp
              have hsp0 : SpotB wr S 0 0 := hsp
              clear q0 q1 fq0
              obtain ⟨cq0, fq0⟩ := one_block hsp0
              have q0 := cq0 0
              have q1 := cq0 1
              clear cq0
              have HG2 : Hid (∀ i, i < k + 1 → faultAt l i = 0) := fun i hi => by
                by_cases e : i = k
                · rw [e]; exact hfe
                · exact HGOOD.out i (by omega)
              have HBW : Hid (Below W1.heap.size W1 wr) := by
                have h := HKW.out
                refine ⟨h.os, h.tape, h.output, h.size, fun i hi => ?_⟩
                by_cases e : i = S
                · subst e; exact hsp0.trans HWB.out.symm
                · exact h.block i hi e
              clear hkp hsp haj hfe hsp0
              go_wp2_with fail
              go_roundw
              case rel => exact ⟨k + 1, by omega, by go_num, HG2.out, HBW.out⟩
              case measure => simp [intOf]; omega
      · have hzb : ((nthI l k).2.2.1 != 0) = true := by simpa using hz
        obtain ⟨p, hp⟩ := makT_own (l := l) (by rw [HL.out]; exact hlt) hz
        rw [HL.out] at hp
        have his := makT_ahead (l := l) (k := k) (show k ≤ n by omega) hp
        rw [hp, Option.getD_some] at hLk
        by_cases hpk : p < (k : Int)
        · have hd : decide (p < (k : Int)) = true := by simpa using hpk
          have HLE : Hid (L = (90, ((k : Int)).toNat)) := by
            have hf : faultAt l k = 90 := fault_first (by rw [his]; exact hd)
            show _ = _
            rw [HLL.out, ← HL.out, idsF_at (by rw [HL.out]; exact hlt) HGOOD.out (by rw [hf]; decide), hf, Int.toNat_natCast]
          have hwS2 : SpotB (wo.alloc (.cells #[.int .u16 (nthI l k).1, .int .u32 (nthI l k).2.1, .int .u32 (nthI l k).2.2.1, .slice ai na ci] 38)) S 0 0 := (HBD.out.block S hSo).trans hwS
          clear hp his hpk hz hIds
          go_wp2_with fail
          obtain ⟨f1, f2⟩ := HEND.out ((wo.setCell ⟨S, 0, none⟩ (.int .i64 90)).setCell ⟨S, 1, none⟩ (.int .i64 k)) 90 k ((KeepB.of_below HBO.out).trans (KeepB.two wo (.int .i64 90) (.int .i64 k))) HLE.out hk0
          refine HRET.out _ _ rfl rfl ((Below.heap_alloc _ _ _ ?_).trans f1) (f2.alloc f2.size _)
          simp only [World.size_setCell]
          omega
        · have hd : decide (p < (k : Int)) = false := by simpa using hpk
          have HNF : Hid ((makT l k (nthI l k).2.2.1).isSome = false) := by show _ = _; rw [his]; exact hd
          clear hp his hpk hz
          go_wp2_with fail
          refine hIds.mono ?_
          rintro e w3 ⟨hb3, az, m, cz, rfl, hm3, hown3⟩
          have hVz := View.ofOwn hown3 hm3
          have HZ1 : Hid (∀ g off, az = some ⟨g, off, none⟩ → S < g) := fun g off e => by
            subst e
            have := (hown3.lt g rfl).1
            rw [HSW2.out] at this
            omega
          have HVZ := hide hVz
          have HM3 := hide hm3
          have HB3 := hide (HBD.out.trans (hb3.mono HBD.out.size))
          have hmn : m ≤ 1 + na := by
            have h1 : (idsI (nthI l k)).length ≤ 1 + (nthI l k).2.2.2.length := by have := idsTo_len (nthI l k).2.1 (nthI l k).2.2.2 (nthI l k).2.2.2.length; unfold idsI; omega
            have h2 := HNA.out
            omega
          have HS3 : Hid (SpotB w3 S 0 0) := (HB3.out.block S hSo).trans hwS
          have hs3 : wo.heap.size ≤ w3.heap.size := HB3.out.size
          have HBOX : Hid (w3.heap[w.heap.size]? = some (.cells #[.int .i64 c7, .int .i64 c8] 60 (0, 0))) := (HB3.out.block _ (by omega)).trans ((HBO.out.block _ (by have := HB1.out.size; omega)).trans ((HB1.out.block _ (by omega)).trans HSB.out))
          have HRES3 : Hid (SpotB w3 (w.heap.size + 1) 0 0) := (HB3.out.block _ (by omega)).trans r1k
          have HMU3 := hide ((HM1.out.below HBO.out).below HB3.out)
          clear hIds hb3 hown3 hVz hm3 p1 p2 p3 p4 hzb hLk hd
          generalize hzs : idsI (nthI l k) = zs at *
          have HZS := hide hzs
          have HRNG : Hid (∀ j, j < m → 0 ≤ nth zs j ∧ nth zs j < 4294967296) := fun j hj => by
            have hjl : j < zs.length := by rw [HM3.out]; exact hj
            refine idsA_range (HOK.out k (by rw [HL.out]; exact hlt)) (nth zs j) ?_
            rw [HZS.out]
            simp only [nth, List.getD, List.getElem?_eq_getElem hjl]
            exact List.getElem_mem hjl
          clear hzs
          go_wp2_with fail
          go_loopw [38] (fun i wz => ∃ j : Nat, j ≤ m ∧ i = .int .i64 j ∧ allMade l n (zs.take j) = true ∧ KeepB S w3 wz ∧ SpotB wz S (if aheadJ l k j = true then 92 else 0) (if aheadJ l k j = true then (k : Int) else 0)) (fun i _ => m - (intOf i).toNat)
          case atStart => exact ⟨0, Nat.zero_le _, rfl, by simp [allMade], KeepB.refl _ _, by rw [show aheadJ l k 0 = false by unfold aheadJ allMade; simp]; exact HS3.out⟩
          case round =>
            obtain ⟨j, hj, rfl, hall, hkp, hsp⟩ := hrel
            have HALL := hide hall
            have HKP := hide hkp
            have HSPT := hide hsp
            have hSr : S < wr.heap.size := Nat.lt_of_lt_of_le (by omega) hkp.size
            have hwr1 : w.heap.size + 1 < wr.heap.size := by have := hkp.size; omega
            have hne1 : w.heap.size + 1 ≠ S := by omega
            have HKW : Hid (KeepB S W1 wr) := ((KeepB.of_below HBO.out).trans (.of_below HB3.out)).trans hkp
            have hres : SpotB wr (w.heap.size + 1) 0 0 := (hkp.block _ (by omega) (by omega)).trans HRES3.out
            obtain ⟨cr0, fr0⟩ := one_block hres
            have u0 := cr0 0
            have u1 := cr0 1
            obtain ⟨cq0, fq0⟩ := one_block hsp
            have q0 := cq0 0
            have q1 := cq0 1
            clear cr0 cq0 hres hall
            by_cases hjm : j < m
            · have hj0 : (0 : Int) ≤ (j : Int) := by omega
              have hji : (j : Int) < (m : Int) := by omega
              obtain ⟨gz, oz, rfl, hgz, hcz⟩ := HVZ.out j (by rw [HM3.out]; exact hjm)
              have hgS := HZ1.out gz oz rfl
              have hcz' : wr.cell? ⟨gz, oz + j, none⟩ = some (.int .u32 (nth zs j)) := (World.cell?_of_block (a := ⟨gz, oz + j, none⟩) (hkp.block gz hgz (by omega))).trans hcz
              have hgr : gz < wr.heap.size := Nat.lt_of_lt_of_le hgz hkp.size
              have hMr : Hid (MapU wr 3 .i64 mb n (makT l n)) := HMU3.out.block (hkp.block mb (by omega) (by omega))
              obtain ⟨hr0, hr1⟩ := HRNG.out j hjm
              obtain ⟨cb, _⟩ := one_block ((hkp.block w.heap.size (by omega) (by omega)).trans HBOX.out)
              have b0 := cb 0
              have b1 := cb 1
              have HAN : Hid (aheadJ l k (j + 1) = (decide (partI (nthI l k) = 7) && !(allMade l k (zs.take j) && (makT l k (nth zs j)).isSome))) := by
                show _ = _
                unfold aheadJ
                rw [HZS.out, allMade_snoc l k zs j (by rw [HM3.out]; exact hjm)]
              have HAJ : Hid (aheadJ l k j = (decide (partI (nthI l k) = 7) && !allMade l k (zs.take j))) := by show _ = _; unfold aheadJ; rw [HZS.out]
              have HALLN : Hid (allMade l n (zs.take (j + 1)) = (allMade l n (zs.take j) && (makT l n (nth zs j)).isSome)) := allMade_snoc l n zs j (by rw [HM3.out]; exact hjm)
              clear hkp hsp cb hcz hgz
              cases hmt : makT l n (nth zs j) with
              | none =>
                have HLE : Hid (L = (91, ((k : Int)).toNat)) := by
                  have hf : faultAt l k = 91 := fault_unknown HNF.out (j := j) (by rw [HZS.out, HM3.out]; exact hjm) (by rw [HZS.out, HL.out, hmt]; rfl)
                  show _ = _
                  rw [HLL.out, ← HL.out, idsF_at (by rw [HL.out]; exact hlt) HGOOD.out (by rw [hf]; decide), hf, Int.toNat_natCast]
                have HK5 := hide (HKW.out.trans (KeepB.two wr (.int .i64 91) (.int .i64 k)))
                go_wp2_with (at_lookup; refine wpList_lookU_ok rfl _ _ 66 rfl 3 .i64 HTT.out HTE.out (zeroI64 _) mb n (makT l n) rfl hMr.out (nth zs j) rfl hr0 hr1 ?_; rw [hmt, Option.getD_none, Option.isSome_none])
                obtain ⟨f1, f2⟩ := HEND.out ((wr.setCell ⟨S, 0, none⟩ (.int .i64 91)).setCell ⟨S, 1, none⟩ (.int .i64 k)) 91 k HK5.out HLE.out hk0
                exact HRET.out _ _ rfl rfl f1 f2
              | some p =>
                have hisk := makT_ahead (l := l) (k := k) (show k ≤ n by omega) hmt
                have HALL2 : Hid (allMade l n (zs.take (j + 1)) = true) := by show _ = _; rw [HALLN.out, HALL.out, hmt]; rfl
                have hC78 := HC78.out k hlt
                by_cases hkp2 : (k : Int) ≤ p
                · have hd1 : decide ((k : Int) ≤ p) = true := by simpa using hkp2
                  have hno : (makT l k (nth zs j)).isSome = false := by rw [hisk]; simp; omega
                  by_cases h7 : partI (nthI l k) = 7
                  · rw [show decide (partI (nthI l k) = 7) = true by simpa using h7, Bool.and_eq_true] at hC78
                    obtain ⟨hc7, hc8⟩ := hC78
                    have HA1 : Hid (aheadJ l k (j + 1) = true) := by show _ = _; rw [HAN.out, hno]; simp [h7]
                    have HSP2 := hide (HSPT.out.put 92 k)
                    have HK2 := hide (HKP.out.trans (KeepB.two wr (.int .i64 92) (.int .i64 k)))
                    generalize (if aheadJ l k j = true then (92 : Int) else 0) = x0 at *
                    generalize (if aheadJ l k j = true then (k : Int) else 0) = x1 at *
                    clear hkp2 hno h7 hisk
                    go_wp2_with (at_lookup; refine wpList_lookU_ok rfl _ _ 66 rfl 3 .i64 HTT.out HTE.out (zeroI64 _) mb n (makT l n) rfl hMr.out (nth zs j) rfl hr0 hr1 ?_; rw [hmt, Option.getD_some, Option.isSome_some])
                    go_roundw
                    case rel => exact ⟨j + 1, by omega, by go_num, HALL2.out, HK2.out, by rw [HA1.out]; exact HSP2.out⟩
                    case measure => simp [intOf]; omega
                  · rw [show decide (partI (nthI l k) = 7) = false by simpa using h7] at hC78
                    have HA1 : Hid (aheadJ l k (j + 1) = aheadJ l k j) := by show _ = _; rw [HAN.out, HAJ.out]; simp [h7]
                    have HSP2 : Hid (SpotB wr S (if aheadJ l k (j + 1) = true then 92 else 0) (if aheadJ l k (j + 1) = true then (k : Int) else 0)) := by show SpotB _ _ _ _; rw [HA1.out]; exact HSPT.out
                    generalize (if aheadJ l k j = true then (92 : Int) else 0) = x0 at *
                    generalize (if aheadJ l k j = true then (k : Int) else 0) = x1 at *
                    clear hkp2 hno h7 hisk
                    cases hc7 : decide (c7 ≤ (k : Int)) with
                    | true =>
                      rw [hc7, Bool.true_and] at hC78
                      go_wp2_with (at_lookup; refine wpList_lookU_ok rfl _ _ 66 rfl 3 .i64 HTT.out HTE.out (zeroI64 _) mb n (makT l n) rfl hMr.out (nth zs j) rfl hr0 hr1 ?_; rw [hmt, Option.getD_some, Option.isSome_some])
                      go_roundw
                      case rel => exact ⟨j + 1, by omega, by go_num, HALL2.out, HKP.out, HSP2.out⟩
                      case measure => simp [intOf]; omega
                    | false =>
                      clear hC78
                      go_wp2_with (at_lookup; refine wpList_lookU_ok rfl _ _ 66 rfl 3 .i64 HTT.out HTE.out (zeroI64 _) mb n (makT l n) rfl hMr.out (nth zs j) rfl hr0 hr1 ?_; rw [hmt, Option.getD_some, Option.isSome_some])
                      go_roundw
                      case rel => exact ⟨j + 1, by omega, by go_num, HALL2.out, HKP.out, HSP2.out⟩
                      case measure => simp [intOf]; omega
                · have hd1 : decide ((k : Int) ≤ p) = false := by simpa using hkp2
                  have hyes : (makT l k (nth zs j)).isSome = true := by rw [hisk]; simp; omega
                  have HA1 : Hid (aheadJ l k (j + 1) = aheadJ l k j) := by show _ = _; rw [HAN.out, HAJ.out, hyes, Bool.and_true]
                  have HSP2 : Hid (SpotB wr S (if aheadJ l k (j + 1) = true then 92 else 0) (if aheadJ l k (j + 1) = true then (k : Int) else 0)) := by show SpotB _ _ _ _; rw [HA1.out]; exact HSPT.out
                  generalize (if aheadJ l k j = true then (92 : Int) else 0) = x0 at *
                  generalize (if aheadJ l k j = true then (k : Int) else 0) = x1 at *
                  clear hkp2 hyes hisk hC78
                  go_wp2_with (at_lookup; refine wpList_lookU_ok rfl _ _ 66 rfl 3 .i64 HTT.out HTE.out (zeroI64 _) mb n (makT l n) rfl hMr.out (nth zs j) rfl hr0 hr1 ?_; rw [hmt, Option.getD_some, Option.isSome_some])
                  go_roundw
                  case rel => exact ⟨j + 1, by omega, by go_num, HALL2.out, HKP.out, HSP2.out⟩
                  case measure => simp [intOf]; omega
            · obtain rfl : j = m := by omega
              have hfe : faultAt l k = if aheadJ l k j = true then 92 else 0 := by
                have := faultAt_end (l := l) (k := k) HNF.out (by rw [HZS.out, HM3.out, HL.out]; exact HALL.out)
                rw [HZS.out, HM3.out] at this
                exact this
              cases haj : aheadJ l k j with
              | true =>
                rw [haj, if_pos rfl] at hfe
                have hsp2 : SpotB wr S 92 (k : Int) := by have h := hsp; rw [haj] at h; exact h
                clear q0 q1 fq0
                obtain ⟨cq0, fq0⟩ := one_block hsp2
                have q0 := cq0 0
                have q1 := cq0 1
                clear cq0 hsp2
                have HLE : Hid (L = (92, ((k : Int)).toNat)) := by
                  show _ = _
                  rw [HLL.out, ← HL.out, idsF_at (by rw [HL.out]; exact hlt) HGOOD.out (by rw [hfe]; decide), hfe, Int.toNat_natCast]
                obtain ⟨f1, f2⟩ := HEND.out wr 92 k HKW.out HLE.out hk0
                have F1 := hide f1
                have F2 := hide f2
                clear f1 f2 hkp hsp haj hfe
                go_wp2_with fail
                exact HRET.out _ _ rfl rfl F1.out F2.out
              | false =>
                rw [haj] at hfe hsp
                have hsp0 : SpotB wr S 0 0 := hsp
                clear q0 q1 fq0
                obtain ⟨cq0, fq0⟩ := one_block hsp0
                have q0 := cq0 0
                have q1 := cq0 1
                clear cq0
                have HG2 : Hid (∀ i, i < k + 1 → faultAt l i = 0) := fun i hi => by
                  by_cases e : i = k
                  · rw [e]; exact hfe
                  · exact HGOOD.out i (by omega)
                have HBW : Hid (Below W1.heap.size W1 wr) := by
                  have h := HKW.out
                  refine ⟨h.os, h.tape, h.output, h.size, fun i hi => ?_⟩
                  by_cases e : i = S
                  · subst e; exact hsp0.trans HWB.out.symm
                  · exact h.block i hi e
                clear hkp hsp haj hfe hsp0
                go_wp2_with fail
                go_roundw
                case rel => exact ⟨k + 1, by omega, by go_num, HG2.out, HBW.out⟩
                case measure => simp [intOf]; omega
    · obtain rfl : k = n := by omega
      have hLZ : L = (0, (0 : Int).toNat) := by
        rw [HLL.out, ← HL.out]
        exact idsF_done (fun i hi => HGOOD.out i (by rw [← HL.out]; exact hi))
      obtain ⟨f1, f2⟩ := HEND.out wo 0 0 (.of_below hbr) hLZ (Int.le_refl _)
      have F1 := hide f1
      have F2 := hide f2
      clear f1 f2 hbr hwS r1k hLZ
      go_wp2_with fail
      exact HRET.out _ _ rfl rfl F1.out F2.out
end Go.Proofs.Ytjckgnpbjekhbaa

/-
  Places and a spot, laid into two new boxes.
-/
namespace Go.Proofs.Ytjckgnpbjekhbaa
open Go.RowKit
set_option linter.unusedVariables false
set_option linter.unusedSimpArgs false
set_option maxRecDepth 10000

/-- Places and a spot, laid into two new boxes. -/
theorem kept_parts (w1 : World) (f : Nat → Int) (e1 e2 : Int) :
    let W2 := (w1.alloc (.cells #[.int .i64 0, .int .i64 0, .int .i64 0, .int .i64 0, .int .i64 0, .int .i64 0, .int .i64 0, .int .i64 0, .int .i64 0, .int .i64 0, .int .i64 0, .int .i64 0, .int .i64 0, .int .i64 0, .int .i64 0, .int .i64 0, .int .i64 0, .int .i64 0, .int .i64 0, .int .i64 0] 61)).alloc (.cells #[.int .i64 0, .int .i64 0] 31)
    let X := (W2.setCells w1.heap.size 0 [.int .i64 (f 0), .int .i64 (f 1), .int .i64 (f 2), .int .i64 (f 3), .int .i64 (f 4), .int .i64 (f 5), .int .i64 (f 6), .int .i64 (f 7), .int .i64 (f 8), .int .i64 (f 9), .int .i64 (f 10), .int .i64 (f 11), .int .i64 (f 12), .int .i64 (f 13), .int .i64 (f 14), .int .i64 (f 15), .int .i64 (f 16), .int .i64 (f 17), .int .i64 (f 18), .int .i64 (f 19)]).setCells (w1.heap.size + 1) 0 [.int .i64 e1, .int .i64 e2]
    W2.there w1.heap.size 0 20 ∧ (W2.setCells w1.heap.size 0 [.int .i64 (f 0), .int .i64 (f 1), .int .i64 (f 2), .int .i64 (f 3), .int .i64 (f 4), .int .i64 (f 5), .int .i64 (f 6), .int .i64 (f 7), .int .i64 (f 8), .int .i64 (f 9), .int .i64 (f 10), .int .i64 (f 11), .int .i64 (f 12), .int .i64 (f 13), .int .i64 (f 14), .int .i64 (f 15), .int .i64 (f 16), .int .i64 (f 17), .int .i64 (f 18), .int .i64 (f 19)]).there (w1.heap.size + 1) 0 2 ∧ X.heap[w1.heap.size]? = some (.cells #[.int .i64 (f 0), .int .i64 (f 1), .int .i64 (f 2), .int .i64 (f 3), .int .i64 (f 4), .int .i64 (f 5), .int .i64 (f 6), .int .i64 (f 7), .int .i64 (f 8), .int .i64 (f 9), .int .i64 (f 10), .int .i64 (f 11), .int .i64 (f 12), .int .i64 (f 13), .int .i64 (f 14), .int .i64 (f 15), .int .i64 (f 16), .int .i64 (f 17), .int .i64 (f 18), .int .i64 (f 19)] 61 (0, 0)) ∧ X.heap[w1.heap.size + 1]? = some (.cells #[.int .i64 e1, .int .i64 e2] 31 (0, 0)) ∧ Below w1.heap.size w1 X ∧ w1.heap.size + 1 < X.heap.size := by
  intro W2 X
  have h1 : W2.heap[w1.heap.size]? = some (.cells #[.int .i64 0, .int .i64 0, .int .i64 0, .int .i64 0, .int .i64 0, .int .i64 0, .int .i64 0, .int .i64 0, .int .i64 0, .int .i64 0, .int .i64 0, .int .i64 0, .int .i64 0, .int .i64 0, .int .i64 0, .int .i64 0, .int .i64 0, .int .i64 0, .int .i64 0, .int .i64 0] 61 (0, 0)) := by
    show (World.alloc _ _).heap[_]? = _
    rw [Below.heap_alloc _ _ _ (by simp)]; exact heap_alloc_new w1 _
  have h2 : W2.heap[w1.heap.size + 1]? = some (.cells #[.int .i64 0, .int .i64 0] 31 (0, 0)) := by
    have := heap_alloc_new (w1.alloc (.cells #[.int .i64 0, .int .i64 0, .int .i64 0, .int .i64 0, .int .i64 0, .int .i64 0, .int .i64 0, .int .i64 0, .int .i64 0, .int .i64 0, .int .i64 0, .int .i64 0, .int .i64 0, .int .i64 0, .int .i64 0, .int .i64 0, .int .i64 0, .int .i64 0, .int .i64 0, .int .i64 0] 61)) (.cells #[.int .i64 0, .int .i64 0] 31)
    rw [World.size_alloc] at this
    exact this
  have hg := setCells_grown w1.heap.size [.int .i64 (f 0), .int .i64 (f 1), .int .i64 (f 2), .int .i64 (f 3), .int .i64 (f 4), .int .i64 (f 5), .int .i64 (f 6), .int .i64 (f 7), .int .i64 (f 8), .int .i64 (f 9), .int .i64 (f 10), .int .i64 (f 11), .int .i64 (f 12), .int .i64 (f 13), .int .i64 (f 14), .int .i64 (f 15), .int .i64 (f 16), .int .i64 (f 17), .int .i64 (f 18), .int .i64 (f 19)] 0 W2
  have hs : W2.heap.size = w1.heap.size + 2 := by show (World.alloc _ _).heap.size = _; simp
  have hb2 : Below w1.heap.size w1 W2 := ((Below.refl _ w1).alloc (Nat.le_refl _) _).alloc (by simp) _
  have k2 := (hg.block (w1.heap.size + 1) (by omega) (by simp)).trans h2
  have hg2 := setCells_grown (w1.heap.size + 1) [.int .i64 e1, .int .i64 e2] 0 (W2.setCells w1.heap.size 0 [.int .i64 (f 0), .int .i64 (f 1), .int .i64 (f 2), .int .i64 (f 3), .int .i64 (f 4), .int .i64 (f 5), .int .i64 (f 6), .int .i64 (f 7), .int .i64 (f 8), .int .i64 (f 9), .int .i64 (f 10), .int .i64 (f 11), .int .i64 (f 12), .int .i64 (f 13), .int .i64 (f 14), .int .i64 (f 15), .int .i64 (f 16), .int .i64 (f 17), .int .i64 (f 18), .int .i64 (f 19)])
  have hs2 : w1.heap.size + 1 < (W2.setCells w1.heap.size 0 [.int .i64 (f 0), .int .i64 (f 1), .int .i64 (f 2), .int .i64 (f 3), .int .i64 (f 4), .int .i64 (f 5), .int .i64 (f 6), .int .i64 (f 7), .int .i64 (f 8), .int .i64 (f 9), .int .i64 (f 10), .int .i64 (f 11), .int .i64 (f 12), .int .i64 (f 13), .int .i64 (f 14), .int .i64 (f 15), .int .i64 (f 16), .int .i64 (f 17), .int .i64 (f 18), .int .i64 (f 19)]).heap.size := Nat.lt_of_lt_of_le (show w1.heap.size + 1 < W2.heap.size by omega) hg.size
  refine ⟨there_of_block h1 20 rfl, there_of_block k2 2 rfl, (hg2.block _ (by omega) (by simp)).trans (setCells_all [.int .i64 (f 0), .int .i64 (f 1), .int .i64 (f 2), .int .i64 (f 3), .int .i64 (f 4), .int .i64 (f 5), .int .i64 (f 6), .int .i64 (f 7), .int .i64 (f 8), .int .i64 (f 9), .int .i64 (f 10), .int .i64 (f 11), .int .i64 (f 12), .int .i64 (f 13), .int .i64 (f 14), .int .i64 (f 15), .int .i64 (f 16), .int .i64 (f 17), .int .i64 (f 18), .int .i64 (f 19)] h1 rfl), setCells_all [.int .i64 e1, .int .i64 e2] k2 rfl, below_grown (below_grown hb2 hg (fun g e => by simp at e; omega)) hg2 (fun g e => by simp at e; omega), Nat.lt_of_lt_of_le hs2 hg2.size⟩

end Go.Proofs.Ytjckgnpbjekhbaa

/-
  Check of the package ids.
-/
namespace Go.Proofs.Ytjckgnpbjekhbaa
open Go.RowKit
set_option linter.unusedVariables false
set_option linter.unusedSimpArgs false
set_option maxRecDepth 10000

set_option maxHeartbeats 8000000 in
theorem idsCheck_any (gen bnd : Int) (a : Option Addr) (n c : Nat) (l : List InstT) (w : World) (hv : InstsV w a l) (hok : InstsOk l) (hl : l.length = n) (hn : 40 * n ≤ 140737488351232) (g0 : 0 ≤ gen) (g1 : gen < 4294967296) (b0 : 0 ≤ bnd) (b1 : bnd < 4294967296) :
    Calls Try.prog 13 #[modV gen bnd a n c] w fun e w' => e = .returned (.agg #[.int .i64 (idsE bnd l).1, .int .i64 ((idsE bnd l).2 : Int)]) ∧ Below w.heap.size w w' := by
  obtain ⟨L, hL⟩ : ∃ L, L = idsE bnd l := ⟨_, rfl⟩
  rw [← hL]
  have hb0 : Below w.heap.size w ((w.alloc (.cells #[.int .u32 gen, .int .u32 bnd, .slice a n c] 25)).alloc (.cells #[.int .i64 0, .int .i64 0] 31)) := ((Below.refl _ w).alloc (Nat.le_refl _) _).alloc (by simp) _
  have hPp := layParts_any gen bnd a n c l _ (hv.below hb0) hok hl hn g0 g1 b0 b1
  have HFF := hide fun wx (h : InstsV wx a l) (h2 : n ≤ 1048576) (h3 : okTo l n) => firstFault_any a n c l wx h hok hl h2 h3
  have HE1 : Hid ((layE bnd l).1 ≠ 0 → L = layE bnd l) := fun h => by rw [hL]; unfold idsE; rw [if_pos h]
  have HE0 : Hid ((layE bnd l).1 = 0 → L = idsF l n 0 ∧ n ≤ 1048576 ∧ okTo l n ∧ partsF bnd l 14 = ((cntP l 7 n : Nat) : Int) ∧ partsF bnd l 15 = ((cntP l 8 n : Nat) : Int)) := fun h => by
    obtain ⟨q1, q2, q3⟩ := layE_ok h
    rw [hl] at q1
    refine ⟨by rw [hL]; unfold idsE; rw [if_neg (by simpa using h), hl], by rw [← hl]; exact (shape_few q2).1, q1, ?_, ?_⟩
    · unfold partsF; rw [if_neg (by simpa using h), hl]
    · unfold partsF; rw [if_neg (by simpa using h), hl]
  have HMB : Hid (((w.alloc (.cells #[.int .u32 gen, .int .u32 bnd, .slice a n c] 25)).alloc (.cells #[.int .i64 0, .int .i64 0] 31)).heap[w.heap.size]? = some (.cells #[.int .u32 gen, .int .u32 bnd, .slice a n c] 25 (0, 0))) := by
    show _ = _
    rw [Below.heap_alloc _ _ _ (by simp)]; exact heap_alloc_new w _
  have HRB : Hid (SpotB ((w.alloc (.cells #[.int .u32 gen, .int .u32 bnd, .slice a n c] 25)).alloc (.cells #[.int .i64 0, .int .i64 0] 31)) (w.heap.size + 1) 0 0) := by
    have := heap_alloc_new (w.alloc (.cells #[.int .u32 gen, .int .u32 bnd, .slice a n c] 25)) (.cells #[.int .i64 0, .int .i64 0] 31)
    rw [World.size_alloc] at this
    exact this
  have HLT : Hid (w.heap.size + 1 < ((w.alloc (.cells #[.int .u32 gen, .int .u32 bnd, .slice a n c] 25)).alloc (.cells #[.int .i64 0, .int .i64 0] 31)).heap.size) := by show _ < _; simp
  have HB0 := hide hb0
  have HV := hide hv
  have HRET : Hid (∀ (a' : Act) (Z : World), slot a'.tmps 2 = .pointer (some ⟨w.heap.size + 1, 0, none⟩) → a'.defers = [] → SpotB Z (w.heap.size + 1) L.1 (L.2 : Int) → Below w.heap.size w Z → bodyPost Try.prog Try.f13 (fun e w' => e = .returned (.agg #[.int .i64 L.1, .int .i64 (L.2 : Int)]) ∧ Below w.heap.size w w') .ret a' Z) := by
    intro a' Z q2 q3 q4 q5
    have r6 := run_loadVar_mid (P := Try.prog) Z (w.heap.size + 1) 0 31 [.int .i64 L.1, .int .i64 (L.2 : Int)] _ (range_of_block q4) Try.underlying31 rfl (by kernel_rfl)
    refine bodyPost_ret (v := .agg #[.int .i64 L.1, .int .i64 (L.2 : Int)]) ?_ q3 ⟨rfl, q5⟩
    have hG2 : a'.tmps.getD 2 undef = .pointer (some ⟨w.heap.size + 1, 0, none⟩) := q2
    simp only [results, Try.results13, List.mapM_toArray, List.mapM_cons, List.mapM_nil, hG2, asAddr, Sem.run_bind, Sem.run_pure, Result.andThen_ok, bind_assoc, pure_bind, Sem.run_map, map_pure, r6]
    rfl
  generalize partsF bnd l = f at *
  generalize layE bnd l = E at *
  obtain ⟨e1, e2⟩ := E
  unfold modV partsV at *
  simp only at *
  clear hb0 hv hok hl hL
  go_enter Try.func13, Try.ntmps13
  go_wp2_with fail
  generalize (w.alloc (.cells #[.int .u32 gen, .int .u32 bnd, .slice a n c] 25)).alloc (.cells #[.int .i64 0, .int .i64 0] 31) = W0 at *
  refine hPp.mono ?_
  rintro e w1 ⟨rfl, hb1⟩
  obtain ⟨k1, k2, k3, k4, k5, k6⟩ := kept_parts w1 f e1 e2
  have HK1 := hide k1
  have HK2 := hide k2
  have HK3 := hide k3
  have HK4 := hide k4
  have HK5 := hide (hb1.trans (k5.mono hb1.size))
  have HK6 := hide k6
  have HS1 : Hid (W0.heap.size ≤ w1.heap.size) := hb1.size
  clear k1 k2 k3 k4 k5 k6 hPp hb1
  go_wp2_with (with_reducible refine stopS 61 ?_)
  refine wpList_store_mid rfl 61 (.tmp 3) (.tmp 8) rfl w1.heap.size 0 #[.int .i64 (f 0), .int .i64 (f 1), .int .i64 (f 2), .int .i64 (f 3), .int .i64 (f 4), .int .i64 (f 5), .int .i64 (f 6), .int .i64 (f 7), .int .i64 (f 8), .int .i64 (f 9), .int .i64 (f 10), .int .i64 (f 11), .int .i64 (f 12), .int .i64 (f 13), .int .i64 (f 14), .int .i64 (f 15), .int .i64 (f 16), .int .i64 (f 17), .int .i64 (f 18), .int .i64 (f 19)] rfl rfl HK1.out (by kernel_rfl) (by simp [Value.oneCell']) ?_
  simp only [Act.put]
  refine wpList_store_mid rfl 31 (.tmp 4) (.tmp 9) rfl (w1.heap.size + 1) 0 #[.int .i64 e1, .int .i64 (e2 : Nat)] rfl rfl HK2.out (by kernel_rfl) (by simp [Value.oneCell']) ?_
  simp only [Act.put]
  generalize (((w1.alloc (.cells #[.int .i64 0, .int .i64 0, .int .i64 0, .int .i64 0, .int .i64 0, .int .i64 0, .int .i64 0, .int .i64 0, .int .i64 0, .int .i64 0, .int .i64 0, .int .i64 0, .int .i64 0, .int .i64 0, .int .i64 0, .int .i64 0, .int .i64 0, .int .i64 0, .int .i64 0, .int .i64 0] 61)).alloc (.cells #[.int .i64 0, .int .i64 0] 31)).setCells w1.heap.size 0 [.int .i64 (f 0), .int .i64 (f 1), .int .i64 (f 2), .int .i64 (f 3), .int .i64 (f 4), .int .i64 (f 5), .int .i64 (f 6), .int .i64 (f 7), .int .i64 (f 8), .int .i64 (f 9), .int .i64 (f 10), .int .i64 (f 11), .int .i64 (f 12), .int .i64 (f 13), .int .i64 (f 14), .int .i64 (f 15), .int .i64 (f 16), .int .i64 (f 17), .int .i64 (f 18), .int .i64 (f 19)]).setCells (w1.heap.size + 1) 0 [.int .i64 e1, .int .i64 (e2 : Nat)] = X at *
  clear HK1 HK2
  have hl0 := HLT.out
  have hs1 := HS1.out
  have hlx := HK6.out
  have HBX := hide (HB0.out.trans (HK5.out.mono HB0.out.size))
  have hwX : w.heap.size + 1 < X.heap.size := by omega
  obtain ⟨cm, _⟩ := one_block ((HK5.out.block w.heap.size (by omega)).trans HMB.out)
  have m2 := cm 2
  have hr : SpotB X (w.heap.size + 1) 0 0 := (HK5.out.block _ hl0).trans HRB.out
  obtain ⟨cr, fr⟩ := one_block hr
  have u0 := cr 0
  have u1 := cr 1
  obtain ⟨c4, _⟩ := one_block HK4.out
  have x0 := c4 0
  have x1 := c4 1
  obtain ⟨c3, _⟩ := one_block HK3.out
  have y14 := c3 14
  have y15 := c3 15
  have HR := hide hr
  have FINE : Hid (∀ (Z : World) (x y : Int), Below X.heap.size X Z → SpotB ((Z.setCell ⟨w.heap.size + 1, 0, none⟩ (.int .i64 x)).setCell ⟨w.heap.size + 1, 1, none⟩ (.int .i64 y)) (w.heap.size + 1) x y ∧ Below w.heap.size w ((Z.setCell ⟨w.heap.size + 1, 0, none⟩ (.int .i64 x)).setCell ⟨w.heap.size + 1, 1, none⟩ (.int .i64 y))) := fun Z x y hZ =>
    ⟨SpotB.put (e := 0) (p := 0) ((hZ.block _ hwX).trans HR.out) x y, below_grown (HBX.out.trans (hZ.mono HBX.out.size)) (setCells_grown (w.heap.size + 1) [.int .i64 x, .int .i64 y] 0 Z) (fun g e => by simp at e; omega)⟩
  clear cm cr c4 c3 hr
  by_cases he : e1 = 0
  · subst he
    obtain ⟨hLf, hnn, hto, hp7, hp8⟩ := HE0.out rfl
    have hF := HFF.out X (HV.out.below HBX.out) hnn hto
    rw [← hp7, ← hp8] at hF
    rw [← hLf] at hF
    clear HE1 HE0 HFF hLf hnn hto hp7 hp8
    go_wp2_with fail
    refine hF.mono ?_
    rintro e w3 ⟨rfl, hb3⟩
    obtain ⟨f1, f2⟩ := FINE.out w3 L.1 (L.2 : Int) hb3
    have F1 := hide f1
    have F2 := hide f2
    obtain ⟨cr3, fr3⟩ := one_block ((hb3.block (w.heap.size + 1) hwX).trans HR.out)
    have v0 := cr3 0
    have v1 := cr3 1
    have hw3 : w.heap.size + 1 < w3.heap.size := Nat.lt_of_lt_of_le hwX hb3.size
    clear hF f1 f2 hb3 cr3 u0 u1 fr
    go_wp2_with fail
    exact HRET.out _ _ rfl rfl F1.out F2.out
  · have he1 : (e1 != 0) = true := by simpa using he
    have HLE := hide (HE1.out he)
    obtain ⟨f1, f2⟩ := FINE.out X e1 e2 (Below.refl _ _)
    have F1 := hide f1
    have F2 := hide f2
    clear he HE0 HE1 f1 f2
    go_wp2_with fail
    refine HRET.out _ _ rfl rfl ?_ F2.out
    rw [HLE.out]
    exact F1.out
end Go.Proofs.Ytjckgnpbjekhbaa
