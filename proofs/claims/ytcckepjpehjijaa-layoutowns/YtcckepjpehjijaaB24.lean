/-
  Texts laid together in one: Ref05Owner, KitCopyInst, KitCopyInstO, KitCopyModule.
-/
import Derived.WalkSpells
import Derived.WalkMore
import Derived.BigRegion
import Derived.Deep.RegionWith
import Derived.Deep.MidRow
import Derived.Test.YtcckepjpehjijaaProg
import Derived.Test.YtcckepjpehjijaaB22
import Derived.Test.YtcckepjpehjijaaB23
import Derived.Deep.DrawnRows
import Derived.Deep.QuietTactic
import Derived.BigQuiet
import Derived.Test.YtcckepjpehjijaaB12
import Derived.Test.YtcckepjpehjijaaB01
import Derived.Test.YtcckepjpehjijaaB07
/-
  The document's Owner.
-/
namespace Go.Proofs.Ytcckepjpehjijaa
open Go.RowKit
set_option linter.unusedVariables false
set_option linter.unusedSimpArgs false
set_option maxRecDepth 10000
set_option maxHeartbeats 16000000 in
theorem refOwner5_any (gen bnd at_ : Int) (a : Option Addr) (n c : Nat) (l : List InstT) (w : World) (hv : InstsV w a l) (hok : InstsOk l) (hl : l.length = n) (hn : 40 * n ≤ 140737488351232) (b0 : 0 ≤ bnd) (b1 : bnd < 4294967296) :
    Calls Try.prog 12 #[modV gen bnd a n c, .int .i64 at_] w fun e w' => OwnQ w w' bnd l at_ e := by
  have hb0 : Below w.heap.size w ((w.alloc (.cells #[.int .u32 gen, .int .u32 bnd, .slice a n c] 25)).alloc (.cells #[.int .i64 0, .int .i64 0] 29)) := ((Below.refl _ w).alloc (Nat.le_refl _) _).alloc (by simp) _
  have hC := refCut5_any gen bnd a n c l _ (hv.below hb0) hok hl hn b0 b1
  have HMB : Hid (((w.alloc (.cells #[.int .u32 gen, .int .u32 bnd, .slice a n c] 25)).alloc (.cells #[.int .i64 0, .int .i64 0] 29)).heap[w.heap.size]? = some (.cells #[.int .u32 gen, .int .u32 bnd, .slice a n c] 25 (0, 0))) := by
    show _ = _
    rw [Below.heap_alloc _ _ _ (by simp)]; exact heap_alloc_new w _
  have HSB : Hid (((w.alloc (.cells #[.int .u32 gen, .int .u32 bnd, .slice a n c] 25)).alloc (.cells #[.int .i64 0, .int .i64 0] 29)).heap[w.heap.size + 1]? = some (.cells #[.int .i64 0, .int .i64 0] 29 (0, 0))) := by
    have := heap_alloc_new (w.alloc (.cells #[.int .u32 gen, .int .u32 bnd, .slice a n c] 25)) (.cells #[.int .i64 0, .int .i64 0] 29)
    rw [World.size_alloc] at this
    exact this
  have HLT : Hid (w.heap.size + 1 < ((w.alloc (.cells #[.int .u32 gen, .int .u32 bnd, .slice a n c] 25)).alloc (.cells #[.int .i64 0, .int .i64 0] 29)).heap.size) := by show _ < _; simp
  have HB0 := hide hb0
  have HL := hide hl
  have HRET : Hid (∀ (a' : Act) (Z : World) (f d e1 e2 : Int), slot a'.tmps 4 = .int .i64 f → slot a'.tmps 5 = .int .i64 d → slot a'.tmps 6 = .pointer (some ⟨w.heap.size + 1, 0, none⟩) → a'.defers = [] → Z.heap[w.heap.size + 1]? = some (.cells #[.int .i64 e1, .int .i64 e2] 29 (0, 0)) → Below w.heap.size w Z → OwnerR bnd l at_ f d e1 e2 →
      bodyPost Try.prog Try.f12 (fun e w' => OwnQ w w' bnd l at_ e) .ret a' Z) := by
    intro a' Z f d e1 e2 q4 q5 q6 qd q7 q8 q9
    refine bodyPost_ret (v := .tuple #[.int .i64 f, .int .i64 d, .agg #[.int .i64 e1, .int .i64 e2]]) ?_ qd ⟨f, d, e1, e2, rfl, q8, q9⟩
    have r6 := run_loadVar_mid (P := Try.prog) Z (w.heap.size + 1) 0 29 [.int .i64 e1, .int .i64 e2] _ (range_of_block q7) Try.underlying29 rfl (by kernel_rfl)
    have hG4 : a'.tmps.getD 4 undef = .int .i64 f := q4
    have hG5 : a'.tmps.getD 5 undef = .int .i64 d := q5
    have hG6 : a'.tmps.getD 6 undef = .pointer (some ⟨w.heap.size + 1, 0, none⟩) := q6
    simp only [results, Try.results12, List.mapM_toArray, List.mapM_cons, List.mapM_nil, hG4, hG5, hG6, asAddr, Sem.run_bind, Sem.run_pure, Result.andThen_ok, bind_assoc, pure_bind, Sem.run_map, map_pure, r6]
    rfl
  have HOW : Hid (((layE bnd l).1 ≠ 0 → OwnerR bnd l at_ 0 0 (layE bnd l).1 ((layE bnd l).2 : Int)) ∧ ((layE bnd l).1 = 0 → (layE bnd l).2 = 0 ∧ ((at_ < 0 ∨ (l.length : Int) ≤ at_) → OwnerR bnd l at_ 0 0 3 0) ∧ (0 ≤ at_ → at_ < (l.length : Int) → FirstI (inFn (cutTo l l.length) at_) (cutTo l l.length).length (-1) → OwnerR bnd l at_ (-1) (-1) 0 0) ∧ (0 ≤ at_ → at_ < (l.length : Int) → ∀ (j : Nat) (d : Int), FirstI (inFn (cutTo l l.length) at_) (cutTo l l.length).length (j : Int) → FirstI (inBl (nthF (cutTo l l.length) j).2.2.2.1 at_) (nthF (cutTo l l.length) j).2.2.2.1.length d → OwnerR bnd l at_ (j : Int) d 0 0) ∧ FewF (cutTo l l.length))) :=
    ⟨fun h => .inl ⟨h, rfl, rfl, rfl, rfl⟩, fun h => ⟨by rw [(layE_ok h).2.2], fun h1 => .inr (.inl ⟨h, h1, rfl, rfl, rfl, rfl⟩), fun h1 h2 h3 => .inr (.inr ⟨h, h1, h2, rfl, rfl, h3, .inl ⟨rfl, rfl⟩⟩), fun h1 h2 j d h3 h4 => .inr (.inr ⟨h, h1, h2, rfl, rfl, h3, .inr ⟨j, rfl, h4⟩⟩), few_cut h⟩⟩
  generalize hQQ : (fun (e : Ending) (w' : World) => OwnQ w w' bnd l at_ e) = QQ at *
  clear hQQ
  unfold CutQ at hC
  generalize layE bnd l = L at *
  obtain ⟨e1, e2⟩ := L
  unfold modV at *
  clear hb0 hv hok hl
  go_enter Try.func12, Try.ntmps12
  go_wp2_with fail
  generalize ((w.alloc (.cells #[.int .u32 gen, .int .u32 bnd, .slice a n c] 25)).alloc (.cells #[.int .i64 0, .int .i64 0] 29)) = W0 at *
  refine hC.mono ?_
  rintro e w1 ⟨fv, rfl, hb1, hfs⟩
  have HFS := hide hfs
  have hl0 := HLT.out
  have hw1 : W0.heap.size ≤ w1.heap.size := hb1.size
  have hba1 : Below w1.heap.size w1 (w1.alloc (.cells #[.int .i64 e1, .int .i64 (e2 : Nat)] 29)) := (Below.refl _ w1).alloc (Nat.le_refl _) _
  have HBA1 := hide hba1
  have HY3 := hide (hb1.trans (hba1.mono hb1.size))
  have HS1 := hide (heap_alloc_new w1 (.cells #[.int .i64 e1, .int .i64 (e2 : Nat)] 29))
  have HY4 : Hid ((w1.alloc (.cells #[.int .i64 e1, .int .i64 (e2 : Nat)] 29)).heap.size = w1.heap.size + 1) := by show _ = _; simp
  clear hC hfs hb1 hba1
  by_cases hE0 : e1 = 0
  · subst hE0
    obtain ⟨hz2, hw2, hw3, hw4, hfew⟩ := HOW.out.2 rfl
    have HW2 := hide hw2
    have HW3 : Hid (0 ≤ at_ → at_ < (l.length : Int) → FirstI (inFn (cutTo l l.length) at_) (cutTo l l.length).length (-1) → OwnerR bnd l at_ (-1) (-1) 0 ((e2 : Nat) : Int)) := by rw [hz2]; exact hw3
    have HW4 : Hid (0 ≤ at_ → at_ < (l.length : Int) → ∀ (j : Nat) (d : Int), FirstI (inFn (cutTo l l.length) at_) (cutTo l l.length).length (j : Int) → FirstI (inBl (nthF (cutTo l l.length) j).2.2.2.1 at_) (nthF (cutTo l l.length) j).2.2.2.1.length d → OwnerR bnd l at_ (j : Int) d 0 ((e2 : Nat) : Int)) := by rw [hz2]; exact hw4
    have HFEW := hide hfew
    have hFF : FuncsAt w1 W0.heap.size fv (cutTo l l.length) := by
      rcases HFS.out with ⟨h1, _⟩ | ⟨_, h3⟩
      · exact absurd rfl h1
      · exact h3
    have HFY := hide (hFF.below HBA1.out).readV
    clear hw2 hw3 hw4 hfew hFF HOW HFS hz2
    rw [HL.out] at HW2 HW3 HW4 HFEW HFY
    have kr := (HY3.out.block (w.heap.size + 1) hl0).trans HSB.out
    have km := (HY3.out.block w.heap.size (by omega)).trans HMB.out
    have HKR := hide kr
    obtain ⟨cr, fr⟩ := one_block kr
    have r0 := cr 0
    have r1 := cr 1
    have m2 := (one_block km).1 2
    have HBY := hide (HB0.out.trans (HY3.out.mono HB0.out.size))
    clear kr km cr
    by_cases hat0 : at_ < 0
    · have HOR := hide (HW2.out (.inl hat0))
      have hd0 : decide (at_ < 0) = true := by simpa using hat0
      have HP2 := hide (two_put2 HKR.out (.int .i64 3) (.int .i64 0))
      have HBF := hide (HBY.out.trans ((two_below _ (w.heap.size + 1) (.int .i64 3) (.int .i64 0)).mono (by omega)))
      clear HW3 HW4 HFY
      go_wp2_with fail
      refine HRET.out _ _ 0 0 3 0 ?_ ?_ ?_ ?_ (by first | exact HP2.out | (simp only [World.setCell_alloc_past _ _ _ _ (show w.heap.size + 1 < w1.heap.size by omega)] at HP2; exact HP2.out)) (by first | exact HBF.out | (simp only [World.setCell_alloc_past _ _ _ _ (show w.heap.size + 1 < w1.heap.size by omega)] at HBF; exact HBF.out)) HOR.out
      · rfl
      · rfl
      · rfl
      · rfl
    · by_cases hatn : (n : Int) ≤ at_
      · have HOR := hide (HW2.out (.inr hatn))
        have hd0 : decide (at_ < 0) = false := by simpa using hat0
        have hd1 : decide ((n : Int) ≤ at_) = true := by simpa using hatn
        have HP2 := hide (two_put2 HKR.out (.int .i64 3) (.int .i64 0))
        have HBF := hide (HBY.out.trans ((two_below _ (w.heap.size + 1) (.int .i64 3) (.int .i64 0)).mono (by omega)))
        clear HW3 HW4 HFY
        go_wp2_with fail
        refine HRET.out _ _ 0 0 3 0 ?_ ?_ ?_ ?_ (by first | exact HP2.out | (simp only [World.setCell_alloc_past _ _ _ _ (show w.heap.size + 1 < w1.heap.size by omega)] at HP2; exact HP2.out)) (by first | exact HBF.out | (simp only [World.setCell_alloc_past _ _ _ _ (show w.heap.size + 1 < w1.heap.size by omega)] at HBF; exact HBF.out)) HOR.out
        · rfl
        · rfl
        · rfl
        · rfl
      · have hg0 : 0 ≤ at_ := by omega
        have hg1 : at_ < (n : Int) := by omega
        have HW5 := hide (HW3.out hg0 hg1)
        have HW6 := hide (HW4.out hg0 hg1)
        obtain ⟨xf, cf, hfv, _⟩ := HFY.out
        subst hfv
        have hd0 : decide (at_ < 0) = false := by simpa using hat0
        have hd1 : decide ((n : Int) ≤ at_) = false := by simpa using hatn
        have hfl := HFEW.out.1
        clear HW2 HW3 HW4
        go_wp2_with fail
        have hs1 := HY4.out
        have S1 := HS1.out
        generalize w1.alloc (.cells #[.int .i64 0, .int .i64 ((e2 : Nat) : Int)] 29) = Y at *
        generalize w1.heap.size = S at *
        generalize hm : (cutTo l n).length = m at *
        have HM := hide hm
        have HS := hide S1
        clear hd0 hd1 r0 r1 fr m2 hm S1 HS1
        -- a return of a function, a block and no fault
        have FIN : Hid (∀ (Z : World), Below Y.heap.size Y Z → Z.heap[w.heap.size + 1]? = some (.cells #[.int .i64 0, .int .i64 0] 29 (0, 0)) ∧ Z.heap[S]? = some (.cells #[.int .i64 0, .int .i64 ((e2 : Nat) : Int)] 29 (0, 0)) ∧ Below w.heap.size w (Z.setCells (w.heap.size + 1) 0 [.int .i64 0, .int .i64 ((e2 : Nat) : Int)]).drew ∧ (Z.setCells (w.heap.size + 1) 0 [.int .i64 0, .int .i64 ((e2 : Nat) : Int)]).drew.heap[w.heap.size + 1]? = some (.cells #[.int .i64 0, .int .i64 ((e2 : Nat) : Int)] 29 (0, 0)) ∧ S ≠ w.heap.size + 1 ∧ w.heap.size + 1 < Z.heap.size ∧ S < Z.heap.size) := by
          intro Z hZ
          have k1 := (hZ.block (w.heap.size + 1) (by omega)).trans HKR.out
          have k2 := (hZ.block S (by omega)).trans HS.out
          have hg2 := setCells_grown (w.heap.size + 1) [.int .i64 0, .int .i64 ((e2 : Nat) : Int)] 0 Z
          have hzs := hZ.size
          exact ⟨k1, k2, (below_grown (HBY.out.trans (hZ.mono HBY.out.size)) hg2 (fun g e => by simp at e; omega)).drew, setCells_all (w := Z) [.int .i64 0, .int .i64 ((e2 : Nat) : Int)] k1 rfl, by omega, by omega, by omega⟩
        go_loopw [9] (fun i wr => ∃ j : Nat, j ≤ m ∧ i = .int .i64 j ∧ (∀ i, i < j → ¬ inFn (cutTo l n) at_ i) ∧ Below Y.heap.size Y wr) (fun i _ => m - (intOf i).toNat)
        case atStart => exact ⟨0, Nat.zero_le _, rfl, fun i h => absurd h (Nat.not_lt_zero i), Below.refl _ _⟩
        case round =>
          obtain ⟨j, hj, rfl, hno, hbr⟩ := hrel
          rename World => wo
          have HNO := hide hno
          have HBR := hide hbr
          clear hno
          by_cases hlt : j < m
          · have HLT2 := hide hlt
            obtain ⟨_, _, e3, hrd⟩ := HFY.out.below hbr
            injection e3 with e3 e4 e5
            obtain ⟨F, xp, cp, xq, cq, hx, hF, q0, q1, q2, q3, q4, _, hbk⟩ := hrd j (by rw [HM.out]; exact hlt)
            have hx2 := e3.trans hx
            have HIN : Hid (inFn (cutTo l n) at_ j ↔ (nthF (cutTo l n) j).2.1 ≤ at_ ∧ at_ ≤ (nthF (cutTo l n) j).2.2.2.2) := Iff.rfl
            have hj0 : (0 : Int) ≤ (j : Int) := by omega
            have hji : (j : Int) < (m : Int) := by omega
            have hfb := (HFEW.out.2 j).2
            have HW7 := hide (HW6.out j)
            subst hx2
            clear e3 e4 e5 hx hrd
            generalize nthF (cutTo l n) j = fn at *
            obtain ⟨fid, fat, fps, fbs, fen⟩ := fn
            simp only at *
            have HBK := hide hbk
            have HQ3 := hide q3
            generalize hbl : fbs.length = bl at *
            have HBL := hide hbl
            clear hbk hbl q0 q2
            by_cases hin : fat ≤ at_ ∧ at_ ≤ fen
            · have hin1 := hin.1
              have hin2 := hin.2
              have hd3 : decide (fat ≤ at_) = true := by simpa using hin.1
              have hd4 : decide (at_ ≤ fen) = true := by simpa using hin.2
              have HFST : Hid (FirstI (inFn (cutTo l n) at_) m (j : Int)) := .inl ⟨j, HLT2.out, rfl, HIN.out.2 hin, HNO.out⟩
              have HW8 := hide (fun d h => HW7.out d HFST.out h)
              clear hin hbr HW7
              go_wp2_with fail
              clear hd3 hd4 q1 q4 q3
              go_loopw [10] (fun i wr => ∃ k : Nat, k ≤ bl ∧ i = .int .i64 k ∧ (∀ i, i < k → ¬ inBl fbs at_ i) ∧ Below wo.heap.size wo wr) (fun i _ => bl - (intOf i).toNat)
              case atStart => exact ⟨0, Nat.zero_le _, rfl, fun i h => absurd h (Nat.not_lt_zero i), Below.refl _ _⟩
              case round =>
                obtain ⟨k, hk, rfl, hno, hbq⟩ := hrel
                have HNB := hide hno
                have HBQ := hide (HBR.out.trans (hbq.mono HBR.out.size))
                have hYw := HBR.out.size
                have c3 := (hbq.cell (p := ⟨F, j * 5 + 3, none⟩) hF).trans HQ3.out
                have hFr : F < wr.heap.size := Nat.lt_of_lt_of_le hF hbq.size
                obtain ⟨kr, kS, HBF, HP3, ne1, hsw, hSw⟩ := FIN.out wr HBQ.out
                obtain ⟨cr, fr⟩ := one_block kr
                have r0 := cr 0
                have r1 := cr 1
                obtain ⟨cs, _⟩ := one_block kS
                have s0 := cs 0
                have s1 := cs 1
                have HBF := hide HBF
                have HP3 := hide HP3
                clear hno kr kS cr cs
                by_cases hlt2 : k < bl
                · have HLT3 := hide hlt2
                  obtain ⟨G, hx, hG, t0, t1, t2⟩ := HBK.out k hlt2
                  have hk0 : (0 : Int) ≤ (k : Int) := by omega
                  have hki : (k : Int) < (bl : Int) := by omega
                  replace t1 := (hbq.cell (p := ⟨G, k * 3 + 1, none⟩) hG).trans t1
                  replace t2 := (hbq.cell (p := ⟨G, k * 3 + 2, none⟩) hG).trans t2
                  have HIB : Hid (inBl fbs at_ k ↔ (nthB fbs k).2.1 ≤ at_ ∧ at_ < (nthB fbs k).2.2) := Iff.rfl
                  have HQB := hide hbq
                  subst hx
                  clear hbq t0
                  generalize nthB fbs k = bn at *
                  obtain ⟨bid, bfr, bto⟩ := bn
                  simp only at *
                  by_cases hib : bfr ≤ at_ ∧ at_ < bto
                  · have hib1 := hib.1
                    have hib2 := hib.2
                    have hd3 : decide (bfr ≤ at_) = true := by simpa using hib.1
                    have hd4 : decide (at_ < bto) = true := by simpa using hib.2
                    have HOR := hide (HW8.out (k : Int) (.inl ⟨k, HLT3.out, rfl, HIB.out.2 hib, HNB.out⟩))
                    clear hib HW8
                    go_wp2_with fail
                    clear t1 t2 c3 hd3 hd4
                    go_region
                    all_goals
                      show Exit.then _ _ _ _ (wr.setCells (w.heap.size + 1) 0 [.int .i64 0, .int .i64 ((e2 : Nat) : Int)]).drew
                      clear s0 s1 r0 r1 fr
                      generalize (wr.setCells (w.heap.size + 1) 0 [.int .i64 0, .int .i64 ((e2 : Nat) : Int)]).drew = Z at *
                      rw [then_normalW]
                      go_wp2_with fail
                      refine HRET.out _ Z (j : Int) (k : Int) 0 ((e2 : Nat) : Int) ?_ ?_ ?_ ?_ HP3.out HBF.out HOR.out
                      · rfl
                      · rfl
                      · rfl
                      · rfl
                  · have HNB2 : Hid (∀ i, i < k + 1 → ¬ inBl fbs at_ i) := fun i hi => by
                      by_cases e : i = k
                      · rw [e]; exact fun h => hib (HIB.out.1 h)
                      · exact HNB.out i (by omega)
                    by_cases hb1' : bfr ≤ at_
                    · have hb2' : ¬ at_ < bto := fun h => hib ⟨hb1', h⟩
                      have hd3 : decide (bfr ≤ at_) = true := by simpa using hb1'
                      have hd4 : decide (at_ < bto) = false := by simpa using hb2'
                      clear hib s0 s1 r0 r1 fr
                      go_wp2_with fail
                      go_roundw
                      case rel => exact ⟨k + 1, by omega, by go_num, HNB2.out, HQB.out⟩
                      case measure => simp [intOf]; omega
                    · have hd3 : decide (bfr ≤ at_) = false := by simpa using hb1'
                      clear hib s0 s1 r0 r1 fr
                      go_wp2_with fail
                      go_roundw
                      case rel => exact ⟨k + 1, by omega, by go_num, HNB2.out, HQB.out⟩
                      case measure => simp [intOf]; omega
                · obtain rfl : k = bl := by omega
                  have HOR := hide (HW8.out (-1) (.inr ⟨rfl, HNB.out⟩))
                  clear HW8 hbq
                  go_wp2_with fail
                  clear c3
                  go_region
                  all_goals
                    show Exit.then _ _ _ _ (wr.setCells (w.heap.size + 1) 0 [.int .i64 0, .int .i64 ((e2 : Nat) : Int)]).drew
                    clear s0 s1 r0 r1 fr
                    generalize (wr.setCells (w.heap.size + 1) 0 [.int .i64 0, .int .i64 ((e2 : Nat) : Int)]).drew = Z at *
                    rw [then_normalW]
                    go_wp2_with fail
                    refine HRET.out _ Z (j : Int) (-1) 0 ((e2 : Nat) : Int) ?_ ?_ ?_ ?_ HP3.out HBF.out HOR.out
                    · rfl
                    · rfl
                    · rfl
                    · rfl
            · have HNO2 : Hid (∀ i, i < j + 1 → ¬ inFn (cutTo l n) at_ i) := fun i hi => by
                by_cases e : i = j
                · rw [e]; exact fun h => hin (HIN.out.1 h)
                · exact HNO.out i (by omega)
              by_cases hf1 : fat ≤ at_
              · have hf2 : ¬ at_ ≤ fen := fun h => hin ⟨hf1, h⟩
                have hd3 : decide (fat ≤ at_) = true := by simpa using hf1
                have hd4 : decide (at_ ≤ fen) = false := by simpa using hf2
                clear hin hbr
                go_wp2_with fail
                go_roundw
                case rel => exact ⟨j + 1, by omega, by go_num, HNO2.out, HBR.out⟩
                case measure => simp [intOf]; omega
              · have hd3 : decide (fat ≤ at_) = false := by simpa using hf1
                clear hin hbr
                go_wp2_with fail
                go_roundw
                case rel => exact ⟨j + 1, by omega, by go_num, HNO2.out, HBR.out⟩
                case measure => simp [intOf]; omega
          · obtain rfl : j = m := by omega
            have HOR := hide (HW5.out (.inr ⟨rfl, HNO.out⟩))
            obtain ⟨kr, kS, HBF, HP3, ne1, hsw, hSw⟩ := FIN.out wo hbr
            obtain ⟨cr, fr⟩ := one_block kr
            have r0 := cr 0
            have r1 := cr 1
            obtain ⟨cs, _⟩ := one_block kS
            have s0 := cs 0
            have s1 := cs 1
            have HBF := hide HBF
            have HP3 := hide HP3
            clear hbr kr kS cr cs HW5 HW6
            go_wp2_with fail
            go_region
            all_goals
              show Exit.then _ _ _ _ (wo.setCells (w.heap.size + 1) 0 [.int .i64 0, .int .i64 ((e2 : Nat) : Int)]).drew
              clear s0 s1 r0 r1 fr
              generalize (wo.setCells (w.heap.size + 1) 0 [.int .i64 0, .int .i64 ((e2 : Nat) : Int)]).drew = Z at *
              rw [then_normalW]
              go_wp2_with fail
              refine HRET.out _ Z (-1) (-1) 0 ((e2 : Nat) : Int) ?_ ?_ ?_ ?_ HP3.out HBF.out HOR.out
              · rfl
              · rfl
              · rfl
              · rfl
  · have hE1 : (e1 != 0) = true := by simpa using hE0
    have HOR := hide (HOW.out.1 hE0)
    clear HOW
    go_wp2_with fail
    have hs1 := HY4.out
    generalize w1.alloc (.cells #[.int .i64 e1, .int .i64 (e2 : Nat)] 29) = Y at *
    have kr := (HY3.out.block (w.heap.size + 1) hl0).trans HSB.out
    obtain ⟨cr, fr⟩ := one_block kr
    have r0 := cr 0
    have r1 := cr 1
    obtain ⟨cs, _⟩ := one_block HS1.out
    have s0 := cs 0
    have s1 := cs 1
    have hg2 := setCells_grown (w.heap.size + 1) [.int .i64 e1, .int .i64 (e2 : Nat)] 0 Y
    have HP2 := hide (setCells_all (w := Y) [.int .i64 e1, .int .i64 (e2 : Nat)] kr rfl)
    have HBF := hide (below_grown (HB0.out.trans (HY3.out.mono HB0.out.size)) hg2 (fun g e => by simp at e; omega))
    have ne1 : w1.heap.size ≠ w.heap.size + 1 := by omega
    have hsw : w.heap.size + 1 < Y.heap.size := by omega
    have hSw : w1.heap.size < Y.heap.size := by omega
    clear hg2 kr cr cs hs1
    go_region
    show Exit.then _ _ _ _ (Y.setCells (w.heap.size + 1) 0 [.int .i64 e1, .int .i64 (e2 : Nat)]).drew
    have HP3 : Hid ((Y.setCells (w.heap.size + 1) 0 [.int .i64 e1, .int .i64 (e2 : Nat)]).drew.heap[w.heap.size + 1]? = some (.cells #[.int .i64 e1, .int .i64 (e2 : Nat)] 29 (0, 0))) := HP2.out
    have HB3 : Hid (Below w.heap.size w (Y.setCells (w.heap.size + 1) 0 [.int .i64 e1, .int .i64 (e2 : Nat)]).drew) := HBF.out.drew
    clear s0 s1 r0 r1 fr HP2 HBF
    generalize (Y.setCells (w.heap.size + 1) 0 [.int .i64 e1, .int .i64 (e2 : Nat)]).drew = Z at *
    rw [then_normalW]
    go_wp2_with fail
    refine HRET.out _ Z 0 0 e1 (e2 : Nat) ?_ ?_ ?_ ?_ HP3.out HB3.out HOR.out
    · rfl
    · rfl
    · rfl
    · rfl
end Go.Proofs.Ytcckepjpehjijaa

/-
  CopyInst of the kit answers the instruction in new memory.
-/
namespace Go.Proofs.Ytcckepjpehjijaa
open Go.RowKit

theorem CopyInst.info : (Try.prog.info? 54).map (fun i => (i.zero, i.size, i.bytes)) = some (some (.agg #[.int .u8 0, .int .u32 0, .string ⟨#[]⟩]), 3, 24) := by kernel_rfl

/-- The first k arguments lie in the row at g. -/
structure PartA (w : World) (g n k : Nat) (l : List ArgT) : Prop where
  row : ∃ cs : Array Value, w.heap[g]? = some (.cells cs 54 (0, 0)) ∧ cs.size = n * 3
  each : ∀ j, j < k → w.cell? ⟨g, j * 3, none⟩ = some (.int .u8 (nthA l j).1) ∧ w.cell? ⟨g, j * 3 + 1, none⟩ = some (.int .u32 (nthA l j).2.1) ∧ w.cell? ⟨g, j * 3 + 2, none⟩ = some (.string (nthA l j).2.2)

theorem cells_can {w : World} {g T : Nat} {cs : Array Value} (h : w.heap[g]? = some (.cells cs T (0, 0))) (j : Nat) (hj : j < cs.size) : (∃ v, w.cell? ⟨g, j, none⟩ = some v) ∧ w.frozen? ⟨g, j, none⟩ = false := by
  refine ⟨⟨cs[j], by simp [World.cell?, h, hj]⟩, by simp [World.frozen?, h]⟩

theorem PartA.store {w : World} {g n k : Nat} {l : List ArgT} (h : PartA w g n k l) (hk : k < n) :
    PartA (((w.setCell ⟨g, k * 3, none⟩ (.int .u8 (nthA l k).1)).setCell ⟨g, k * 3 + 1, none⟩ (.int .u32 (nthA l k).2.1)).setCell ⟨g, k * 3 + 2, none⟩ (.string (nthA l k).2.2)) g n (k + 1) l := by
  obtain ⟨⟨cs, h1, h2⟩, h3⟩ := h
  obtain ⟨W, hW⟩ : ∃ W, W = ((w.setCell ⟨g, k * 3, none⟩ (.int .u8 (nthA l k).1)).setCell ⟨g, k * 3 + 1, none⟩ (.int .u32 (nthA l k).2.1)).setCell ⟨g, k * 3 + 2, none⟩ (.string (nthA l k).2.2) := ⟨_, rfl⟩
  have hb : W.heap[g]? = some (.cells (((cs.setIfInBounds (k * 3) (.int .u8 (nthA l k).1)).setIfInBounds (k * 3 + 1) (.int .u32 (nthA l k).2.1)).setIfInBounds (k * 3 + 2) (.string (nthA l k).2.2)) 54 (0, 0)) := by
    rw [hW]; simp [World.setCell, Array.getElem?_modify, h1]
  have cell : ∀ j, W.cell? ⟨g, j, none⟩ = (((cs.setIfInBounds (k * 3) (.int .u8 (nthA l k).1)).setIfInBounds (k * 3 + 1) (.int .u32 (nthA l k).2.1)).setIfInBounds (k * 3 + 2) (.string (nthA l k).2.2))[j]? := fun j => by
    simp [World.cell?, hb]
  have old : ∀ j, w.cell? ⟨g, j, none⟩ = cs[j]? := fun j => by simp [World.cell?, h1]
  rw [← hW]
  refine ⟨⟨_, hb, by simp [h2]⟩, fun j hj => ?_⟩
  by_cases hjk : j < k
  · obtain ⟨c1, c2, c3⟩ := h3 j hjk
    rw [old] at c1 c2 c3
    refine ⟨?_, ?_, ?_⟩
    all_goals rw [cell, Array.getElem?_setIfInBounds_ne (by omega), Array.getElem?_setIfInBounds_ne (by omega), Array.getElem?_setIfInBounds_ne (by omega)]
    · exact c1
    · exact c2
    · exact c3
  · obtain rfl : j = k := by omega
    refine ⟨?_, ?_, ?_⟩
    · rw [cell, Array.getElem?_setIfInBounds_ne (by omega), Array.getElem?_setIfInBounds_ne (by omega), Array.getElem?_setIfInBounds_self_of_lt (by omega)]
    · rw [cell, Array.getElem?_setIfInBounds_ne (by omega), Array.getElem?_setIfInBounds_self_of_lt (by simp; omega)]
    · rw [cell, Array.getElem?_setIfInBounds_self_of_lt (by simp; omega)]

theorem PartA.view {w : World} {g n : Nat} {l : List ArgT} (h : PartA w g n n l) (hl : l.length = n) : ArgsV w (some ⟨g, 0, none⟩) l := by
  intro j hj
  obtain ⟨c1, c2, c3⟩ := h.each j (by omega)
  exact ⟨g, 0, rfl, World.block_lt_of_cell? _ _ c1, by rw [Nat.zero_add]; exact c1, by rw [Nat.zero_add]; exact c2, by rw [Nat.zero_add]; exact c3⟩

theorem PartA.drew {w : World} {g n k : Nat} {l : List ArgT} (h : PartA w g n k l) (q : Nat) : PartA (w.drewN q) g n k l := ⟨h.row, h.each⟩

theorem setFar1 {w : World} {g k : Nat} {o : Obj} (h : w.heap[k]? = some o) (hne : k ≠ g) (i : Nat) (u : Value) : (w.setCell ⟨g, i, none⟩ u).heap[k]? = some o := (Below.heap_setCell _ _ _ _ (by simpa using hne)).trans h
theorem setFar3 {w : World} {g k : Nat} {o : Obj} (h : w.heap[k]? = some o) (hne : k ≠ g) (i j m : Nat) (u v x : Value) : (((w.setCell ⟨g, i, none⟩ u).setCell ⟨g, j, none⟩ v).setCell ⟨g, m, none⟩ x).heap[k]? = some o := setFar1 (setFar1 (setFar1 h hne i u) hne j v) hne m x
theorem block_cells {w : World} {B T : Nat} {cs : Array Value} (h : w.heap[B]? = some (.cells cs T (0, 0))) : (∀ i, w.cell? ⟨B, i, none⟩ = cs[i]?) ∧ (∀ i, w.frozen? ⟨B, i, none⟩ = false) := by
  refine ⟨fun i => ?_, fun i => ?_⟩
  · simp [World.cell?, h]
  · simp [World.frozen?, h]

theorem four_set {w : World} {B T : Nat} {z0 z1 z2 z3 : Value} (h : w.heap[B]? = some (.cells #[z0, z1, z2, z3] T (0, 0))) (u0 u1 u2 u3 : Value) :
    ((((w.setCell ⟨B, 0, none⟩ u0).setCell ⟨B, 1, none⟩ u1).setCell ⟨B, 2, none⟩ u2).setCell ⟨B, 3, none⟩ u3).heap[B]? = some (.cells #[u0, u1, u2, u3] T (0, 0)) := by
  simp only [World.setCell, Array.getElem?_modify, h]; simp
theorem four_below (w : World) (B : Nat) (u0 u1 u2 u3 : Value) : Below B w ((((w.setCell ⟨B, 0, none⟩ u0).setCell ⟨B, 1, none⟩ u1).setCell ⟨B, 2, none⟩ u2).setCell ⟨B, 3, none⟩ u3) :=
  ((((Below.refl B w).setCell (Nat.le_refl _) _).setCell (Nat.le_refl _) _).setCell (Nat.le_refl _) _).setCell (Nat.le_refl _) _
theorem args_far {w : World} {b off g : Nat} {l : List ArgT} (h : ArgsV w (some ⟨b, off, none⟩) l) (hg : g ≠ b) (i : Nat) (v : Value) : ArgsV (w.setCell ⟨g, i, none⟩ v) (some ⟨b, off, none⟩) l :=
  h.setCell (fun b' off' e => by cases e; exact fun h => hg h.symm) v

set_option maxRecDepth 100000 in
set_option maxHeartbeats 2000000 in
theorem copyInst_any (x : InstT) (ax : Option Addr) (n cx : Nat) (w : World) (hx : ArgsV w ax x.2.2.2) (hl : x.2.2.2.length = n) (hn : 24 * n ≤ 140737488351232) :
    Calls Try.prog 20 #[instV x ax n cx] w fun e w' => ∃ g, e = .returned (instV x (some ⟨g, 0, none⟩) n n) ∧ w.heap.size ≤ g ∧ ArgsV w' (some ⟨g, 0, none⟩) x.2.2.2 ∧ Below w.heap.size w w' := by
  obtain ⟨i0, hi, hz0, hz1, hz2⟩ := info_parts CopyInst.info
  obtain ⟨xo, xt, xr, xl⟩ := x
  unfold instV
  simp only at *
  have HL : Hid (xl.length = n) := hl
  clear hl
  go_enter Try.func20, Try.ntmps20
  go_wp2_with (at_make; refine wpList_make_full _ rfl _ _ 56 rfl (w.heap.size + 1) 54 i0 (.agg #[.int .u8 0, .int .u32 0, .string ⟨#[]⟩]) 3 Try.underlying56 hi hz0 hz1 _ _ _ _ n rfl rfl (by omega) (by omega) (by rw [hz2]; omega) (by unfold maxLen; omega) (by simp) ?_)
  intro w1 hown1 hgrow1
  have hb0 : Below w.heap.size w ((w.alloc (.cells #[.int .u16 xo, .int .u32 xt, .int .u32 xr, .slice ax n cx] 58)).alloc (.cells #[.int .u16 0, .int .u32 0, .int .u32 0, .slice none 0 0] 58)) := ((Below.refl _ w).alloc (Nat.le_refl _) _).alloc (by simp) _
  have hb1 : Below (w.heap.size + 2) ((w.alloc (.cells #[.int .u16 xo, .int .u32 xt, .int .u32 xr, .slice ax n cx] 58)).alloc (.cells #[.int .u16 0, .int .u32 0, .int .u32 0, .slice none 0 0] 58)) w1 := (Below.refl _ _).grown hgrow1 (by simp) (by simp)
  have hbox : w1.heap[w.heap.size]? = some (.cells #[.int .u16 xo, .int .u32 xt, .int .u32 xr, .slice ax n cx] 58 (0, 0)) := (hb1.block w.heap.size (by omega)).trans ((Below.heap_alloc _ _ _ (by simp)).trans (heap_alloc_new w _))
  have hres : w1.heap[w.heap.size + 1]? = some (.cells #[.int .u16 0, .int .u32 0, .int .u32 0, .slice none 0 0] 58 (0, 0)) := (hb1.block (w.heap.size + 1) (by omega)).trans (by simpa using heap_alloc_new (w.alloc (.cells #[.int .u16 xo, .int .u32 xt, .int .u32 xr, .slice ax n cx] 58)) (.cells #[.int .u16 0, .int .u32 0, .int .u32 0, .slice none 0 0] 58))
  have hP1 : PartA w1 (w.heap.size + 2) n 0 xl := by
    refine ⟨?_, fun j hj => by omega⟩
    rcases hown1.2 with ⟨h, _⟩ | ⟨g, cap', cur, h1, h2, h3, h4, h5, h6, _⟩
    · simp at h
    · simp at h1; obtain ⟨rfl, rfl⟩ := h1; exact ⟨cur, h3, h6⟩
  have hbw1 : Below w.heap.size w w1 := hb0.trans (hb1.mono (by omega))
  clear hown1 hgrow1 hb0 hb1
  go_wp2
  go_loopw [4] (fun i wr => ∃ k : Nat, k ≤ n ∧ i = .int .i64 k ∧ PartA wr (w.heap.size + 2) n k xl ∧ wr.heap[w.heap.size]? = some (.cells #[.int .u16 xo, .int .u32 xt, .int .u32 xr, .slice ax n cx] 58 (0, 0)) ∧ wr.heap[w.heap.size + 1]? = some (.cells #[.int .u16 0, .int .u32 0, .int .u32 0, .slice none 0 0] 58 (0, 0)) ∧ Below w.heap.size w wr) (fun i _ => n - (intOf i).toNat)
  case atStart => exact ⟨0, Nat.zero_le _, rfl, hP1, hbox, hres, hbw1⟩
  case round =>
    obtain ⟨k, hk, rfl, hP, hbx, hrs, hnx⟩ := hrel
    clear hP1 hbw1 hbox hres
    have hbc : wr.cell? ⟨w.heap.size, 3, none⟩ = some (.slice ax n cx) := by simp [World.cell?, hbx]
    have hsz := hnx.size
    by_cases hlt : k < n
    · obtain ⟨b, off, rfl, hbs, p1, p2, p3⟩ := hx k (by rw [HL.out]; exact hlt)
      have q1 := (hnx.cell (p := ⟨b, off + k * 3, none⟩) hbs).trans p1
      have q2 := (hnx.cell (p := ⟨b, off + k * 3 + 1, none⟩) hbs).trans p2
      have q3 := (hnx.cell (p := ⟨b, off + k * 3 + 2, none⟩) hbs).trans p3
      obtain ⟨cs, hr1, hr2⟩ := hP.row
      obtain ⟨⟨u0, d0⟩, f0⟩ := cells_can hr1 (k * 3) (by omega)
      obtain ⟨⟨u1, d1⟩, f1⟩ := cells_can hr1 (k * 3 + 1) (by omega)
      obtain ⟨⟨u2, d2⟩, f2⟩ := cells_can hr1 (k * 3 + 2) (by omega)
      have hki : (k : Int) < (n : Int) := by omega
      have hk0 : (0 : Int) ≤ (k : Int) := by omega
      have hP2 := hP.store hlt
      have HX : Hid (wr.heap[w.heap.size]? = some (.cells #[.int .u16 xo, .int .u32 xt, .int .u32 xr, .slice (some ⟨b, off, none⟩) n cx] 58 (0, 0))) := hbx
      have HP2 : Hid _ := hP2
      have HR : Hid _ := hrs
      clear hP2 hP hr1 hr2 p1 p2 p3 hx hbx hrs
      go_wp2
      go_roundw
      case rel => exact ⟨k + 1, by omega, by go_num, HP2.out, setFar3 HX.out (by omega) _ _ _ _ _ _, setFar3 HR.out (by omega) _ _ _ _ _ _, ((hnx.setCell (by show w.heap.size ≤ w.heap.size + 1 + 1; omega) _).setCell (by show w.heap.size ≤ w.heap.size + 1 + 1; omega) _).setCell (by show w.heap.size ≤ w.heap.size + 1 + 1; omega) _⟩
      case measure => simp [intOf]; omega
    · obtain rfl : k = n := by omega
      obtain ⟨hc, hf⟩ := block_cells hbx
      obtain ⟨hc', hf'⟩ := block_cells hrs
      have c0 := hc 0
      have c1 := hc 1
      have c2 := hc 2
      have r0 := hc' 0
      have r1 := hc' 1
      have r2 := hc' 2
      have r3 := hc' 3
      have hV := hP.view HL.out
      have HV : Hid _ := hV
      have HB : Hid _ := hnx
      have HX : Hid _ := hbx
      have HR : Hid _ := hrs
      clear hP hbx hrs hc hc' hx hV hnx
      go_wp2
      have hB4 := four_set (setFar1 HR.out (show w.heap.size + 1 ≠ w.heap.size by omega) 3 (.slice (some ⟨w.heap.size + 1 + 1, 0, none⟩) k k)) (.int .u16 xo) (.int .u32 xt) (.int .u32 xr) (.slice (some ⟨w.heap.size + 1 + 1, 0, none⟩) k k)
      have hBel := (HB.out.setCell (p := ⟨w.heap.size, 3, none⟩) (Nat.le_refl _) (.slice (some ⟨w.heap.size + 1 + 1, 0, none⟩) k k)).trans ((four_below (wr.setCell ⟨w.heap.size, 3, none⟩ (.slice (some ⟨w.heap.size + 1 + 1, 0, none⟩) k k)) (w.heap.size + 1) (.int .u16 xo) (.int .u32 xt) (.int .u32 xr) (.slice (some ⟨w.heap.size + 1 + 1, 0, none⟩) k k)).mono (show w.heap.size ≤ w.heap.size + 1 by omega))
      have hV2 := args_far HV.out (show w.heap.size ≠ w.heap.size + 2 by omega) 3 (.slice (some ⟨w.heap.size + 1 + 1, 0, none⟩) k k)
      have hV3 := args_far (args_far (args_far (args_far hV2 (show w.heap.size + 1 ≠ w.heap.size + 2 by omega) 0 (.int .u16 xo)) (show w.heap.size + 1 ≠ w.heap.size + 2 by omega) 1 (.int .u32 xt)) (show w.heap.size + 1 ≠ w.heap.size + 2 by omega) 2 (.int .u32 xr)) (show w.heap.size + 1 ≠ w.heap.size + 2 by omega) 3 (.slice (some ⟨w.heap.size + 1 + 1, 0, none⟩) k k)
      clear hV2 HV HB HR HX c0 c1 c2 r0 r1 r2 r3 hf hf'
      generalize ((((wr.setCell _ _).setCell _ _).setCell _ _).setCell _ _).setCell _ _ = W at hB4 hBel hV3 ⊢
      obtain ⟨hd, _⟩ := block_cells hB4
      have d0 := hd 0
      have d1 := hd 1
      have d2 := hd 2
      have d3 := hd 3
      refine bodyPost_ret (v := .agg #[.int .u16 xo, .int .u32 xt, .int .u32 xr, .slice (some ⟨w.heap.size + 1 + 1, 0, none⟩) k k]) ?_ rfl ⟨w.heap.size + 1 + 1, rfl, by omega, hV3, hBel⟩
      simp [results, Try.results20, go_sem, d0, d1, d2, d3]

end Go.Proofs.Ytcckepjpehjijaa

/-
  CopyInst of the kit answers the instruction in new memory: a row of its own.
-/
namespace Go.Proofs.Ytcckepjpehjijaa
open Go.RowKit

set_option maxRecDepth 100000 in
set_option maxHeartbeats 2000000 in
theorem copyInst_own (x : InstT) (ax : Option Addr) (n cx : Nat) (w : World) (hx : ArgsV w ax x.2.2.2) (hl : x.2.2.2.length = n) (hn : 24 * n ≤ 140737488351232) :
    Calls Try.prog 20 #[instV x ax n cx] w fun e w' => ∃ g, e = .returned (instV x (some ⟨g, 0, none⟩) n n) ∧ w.heap.size ≤ g ∧ ArgsV w' (some ⟨g, 0, none⟩) x.2.2.2 ∧ (∃ cs : Array Value, w'.heap[g]? = some (.cells cs 54 (0, 0)) ∧ cs.size = n * 3) ∧ Below w.heap.size w w' := by
  obtain ⟨i0, hi, hz0, hz1, hz2⟩ := info_parts CopyInst.info
  obtain ⟨xo, xt, xr, xl⟩ := x
  unfold instV
  simp only at *
  have HL : Hid (xl.length = n) := hl
  clear hl
  go_enter Try.func20, Try.ntmps20
  go_wp2_with (at_make; refine wpList_make_full _ rfl _ _ 56 rfl (w.heap.size + 1) 54 i0 (.agg #[.int .u8 0, .int .u32 0, .string ⟨#[]⟩]) 3 Try.underlying56 hi hz0 hz1 _ _ _ _ n rfl rfl (by omega) (by omega) (by rw [hz2]; omega) (by unfold maxLen; omega) (by simp) ?_)
  intro w1 hown1 hgrow1
  have hb0 : Below w.heap.size w ((w.alloc (.cells #[.int .u16 xo, .int .u32 xt, .int .u32 xr, .slice ax n cx] 58)).alloc (.cells #[.int .u16 0, .int .u32 0, .int .u32 0, .slice none 0 0] 58)) := ((Below.refl _ w).alloc (Nat.le_refl _) _).alloc (by simp) _
  have hb1 : Below (w.heap.size + 2) ((w.alloc (.cells #[.int .u16 xo, .int .u32 xt, .int .u32 xr, .slice ax n cx] 58)).alloc (.cells #[.int .u16 0, .int .u32 0, .int .u32 0, .slice none 0 0] 58)) w1 := (Below.refl _ _).grown hgrow1 (by simp) (by simp)
  have hbox : w1.heap[w.heap.size]? = some (.cells #[.int .u16 xo, .int .u32 xt, .int .u32 xr, .slice ax n cx] 58 (0, 0)) := (hb1.block w.heap.size (by omega)).trans ((Below.heap_alloc _ _ _ (by simp)).trans (heap_alloc_new w _))
  have hres : w1.heap[w.heap.size + 1]? = some (.cells #[.int .u16 0, .int .u32 0, .int .u32 0, .slice none 0 0] 58 (0, 0)) := (hb1.block (w.heap.size + 1) (by omega)).trans (by simpa using heap_alloc_new (w.alloc (.cells #[.int .u16 xo, .int .u32 xt, .int .u32 xr, .slice ax n cx] 58)) (.cells #[.int .u16 0, .int .u32 0, .int .u32 0, .slice none 0 0] 58))
  have hP1 : PartA w1 (w.heap.size + 2) n 0 xl := by
    refine ⟨?_, fun j hj => by omega⟩
    rcases hown1.2 with ⟨h, _⟩ | ⟨g, cap', cur, h1, h2, h3, h4, h5, h6, _⟩
    · simp at h
    · simp at h1; obtain ⟨rfl, rfl⟩ := h1; exact ⟨cur, h3, h6⟩
  have hbw1 : Below w.heap.size w w1 := hb0.trans (hb1.mono (by omega))
  clear hown1 hgrow1 hb0 hb1
  go_wp2
  go_loopw [4] (fun i wr => ∃ k : Nat, k ≤ n ∧ i = .int .i64 k ∧ PartA wr (w.heap.size + 2) n k xl ∧ wr.heap[w.heap.size]? = some (.cells #[.int .u16 xo, .int .u32 xt, .int .u32 xr, .slice ax n cx] 58 (0, 0)) ∧ wr.heap[w.heap.size + 1]? = some (.cells #[.int .u16 0, .int .u32 0, .int .u32 0, .slice none 0 0] 58 (0, 0)) ∧ Below w.heap.size w wr) (fun i _ => n - (intOf i).toNat)
  case atStart => exact ⟨0, Nat.zero_le _, rfl, hP1, hbox, hres, hbw1⟩
  case round =>
    obtain ⟨k, hk, rfl, hP, hbx, hrs, hnx⟩ := hrel
    clear hP1 hbw1 hbox hres
    have hbc : wr.cell? ⟨w.heap.size, 3, none⟩ = some (.slice ax n cx) := by simp [World.cell?, hbx]
    have hsz := hnx.size
    by_cases hlt : k < n
    · obtain ⟨b, off, rfl, hbs, p1, p2, p3⟩ := hx k (by rw [HL.out]; exact hlt)
      have q1 := (hnx.cell (p := ⟨b, off + k * 3, none⟩) hbs).trans p1
      have q2 := (hnx.cell (p := ⟨b, off + k * 3 + 1, none⟩) hbs).trans p2
      have q3 := (hnx.cell (p := ⟨b, off + k * 3 + 2, none⟩) hbs).trans p3
      obtain ⟨cs, hr1, hr2⟩ := hP.row
      obtain ⟨⟨u0, d0⟩, f0⟩ := cells_can hr1 (k * 3) (by omega)
      obtain ⟨⟨u1, d1⟩, f1⟩ := cells_can hr1 (k * 3 + 1) (by omega)
      obtain ⟨⟨u2, d2⟩, f2⟩ := cells_can hr1 (k * 3 + 2) (by omega)
      have hki : (k : Int) < (n : Int) := by omega
      have hk0 : (0 : Int) ≤ (k : Int) := by omega
      have hP2 := hP.store hlt
      have HX : Hid (wr.heap[w.heap.size]? = some (.cells #[.int .u16 xo, .int .u32 xt, .int .u32 xr, .slice (some ⟨b, off, none⟩) n cx] 58 (0, 0))) := hbx
      have HP2 : Hid _ := hP2
      have HR : Hid _ := hrs
      clear hP2 hP hr1 hr2 p1 p2 p3 hx hbx hrs
      go_wp2
      go_roundw
      case rel => exact ⟨k + 1, by omega, by go_num, HP2.out, setFar3 HX.out (by omega) _ _ _ _ _ _, setFar3 HR.out (by omega) _ _ _ _ _ _, ((hnx.setCell (by show w.heap.size ≤ w.heap.size + 1 + 1; omega) _).setCell (by show w.heap.size ≤ w.heap.size + 1 + 1; omega) _).setCell (by show w.heap.size ≤ w.heap.size + 1 + 1; omega) _⟩
      case measure => simp [intOf]; omega
    · obtain rfl : k = n := by omega
      obtain ⟨hc, hf⟩ := block_cells hbx
      obtain ⟨hc', hf'⟩ := block_cells hrs
      have c0 := hc 0
      have c1 := hc 1
      have c2 := hc 2
      have r0 := hc' 0
      have r1 := hc' 1
      have r2 := hc' 2
      have r3 := hc' 3
      have hV := hP.view HL.out
      obtain ⟨csr, hrw1, hrw2⟩ := hP.row
      have HRW : Hid (wr.heap[w.heap.size + 2]? = some (.cells csr 54 (0, 0))) := hrw1
      have HRZ : Hid (csr.size = k * 3) := hrw2
      clear hrw1 hrw2
      have HV : Hid _ := hV
      have HB : Hid _ := hnx
      have HX : Hid _ := hbx
      have HR : Hid _ := hrs
      clear hP hbx hrs hc hc' hx hV hnx
      go_wp2
      have hB4 := four_set (setFar1 HR.out (show w.heap.size + 1 ≠ w.heap.size by omega) 3 (.slice (some ⟨w.heap.size + 1 + 1, 0, none⟩) k k)) (.int .u16 xo) (.int .u32 xt) (.int .u32 xr) (.slice (some ⟨w.heap.size + 1 + 1, 0, none⟩) k k)
      have hBel := (HB.out.setCell (p := ⟨w.heap.size, 3, none⟩) (Nat.le_refl _) (.slice (some ⟨w.heap.size + 1 + 1, 0, none⟩) k k)).trans ((four_below (wr.setCell ⟨w.heap.size, 3, none⟩ (.slice (some ⟨w.heap.size + 1 + 1, 0, none⟩) k k)) (w.heap.size + 1) (.int .u16 xo) (.int .u32 xt) (.int .u32 xr) (.slice (some ⟨w.heap.size + 1 + 1, 0, none⟩) k k)).mono (show w.heap.size ≤ w.heap.size + 1 by omega))
      have hV2 := args_far HV.out (show w.heap.size ≠ w.heap.size + 2 by omega) 3 (.slice (some ⟨w.heap.size + 1 + 1, 0, none⟩) k k)
      have hV3 := args_far (args_far (args_far (args_far hV2 (show w.heap.size + 1 ≠ w.heap.size + 2 by omega) 0 (.int .u16 xo)) (show w.heap.size + 1 ≠ w.heap.size + 2 by omega) 1 (.int .u32 xt)) (show w.heap.size + 1 ≠ w.heap.size + 2 by omega) 2 (.int .u32 xr)) (show w.heap.size + 1 ≠ w.heap.size + 2 by omega) 3 (.slice (some ⟨w.heap.size + 1 + 1, 0, none⟩) k k)
      have hRW3 := setFar1 (setFar1 (setFar1 (setFar1 (setFar1 HRW.out (show w.heap.size + 2 ≠ w.heap.size by omega) 3 (.slice (some ⟨w.heap.size + 1 + 1, 0, none⟩) k k)) (show w.heap.size + 2 ≠ w.heap.size + 1 by omega) 0 (.int .u16 xo)) (show w.heap.size + 2 ≠ w.heap.size + 1 by omega) 1 (.int .u32 xt)) (show w.heap.size + 2 ≠ w.heap.size + 1 by omega) 2 (.int .u32 xr)) (show w.heap.size + 2 ≠ w.heap.size + 1 by omega) 3 (.slice (some ⟨w.heap.size + 1 + 1, 0, none⟩) k k)
      clear hV2 HV HB HR HX HRW c0 c1 c2 r0 r1 r2 r3 hf hf'
      generalize ((((wr.setCell _ _).setCell _ _).setCell _ _).setCell _ _).setCell _ _ = W at hB4 hBel hV3 hRW3 ⊢
      obtain ⟨hd, _⟩ := block_cells hB4
      have d0 := hd 0
      have d1 := hd 1
      have d2 := hd 2
      have d3 := hd 3
      refine bodyPost_ret (v := .agg #[.int .u16 xo, .int .u32 xt, .int .u32 xr, .slice (some ⟨w.heap.size + 1 + 1, 0, none⟩) k k]) ?_ rfl ⟨w.heap.size + 1 + 1, rfl, by omega, hV3, ⟨csr, hRW3, HRZ.out⟩, hBel⟩
      simp [results, Try.results20, go_sem, d0, d1, d2, d3]

end Go.Proofs.Ytcckepjpehjijaa

/-
  CopyModule of the kit answers the module in new memory.
-/
namespace Go.Proofs.Ytcckepjpehjijaa
open Go.RowKit

theorem CopyModule.info : (Try.prog.info? 58).map (fun i => (i.zero, i.size, i.bytes)) = some (some (.agg #[.int .u16 0, .int .u32 0, .int .u32 0, .slice none 0 0]), 4, 40) := by kernel_rfl

/-- The first k instructions lie in the row at g, their arguments in later blocks. -/
structure PartI (w : World) (g n k : Nat) (l : List InstT) : Prop where
  row : ∃ cs : Array Value, w.heap[g]? = some (.cells cs 58 (0, 0)) ∧ cs.size = n * 4
  each : ∀ j, j < k → ∃ gj nj, w.cell? ⟨g, j * 4, none⟩ = some (.int .u16 (nthI l j).1) ∧ w.cell? ⟨g, j * 4 + 1, none⟩ = some (.int .u32 (nthI l j).2.1) ∧ w.cell? ⟨g, j * 4 + 2, none⟩ = some (.int .u32 (nthI l j).2.2.1) ∧ w.cell? ⟨g, j * 4 + 3, none⟩ = some (.slice (some ⟨gj, 0, none⟩) nj nj) ∧
    (nthI l j).2.2.2.length = nj ∧ ArgsV w (some ⟨gj, 0, none⟩) (nthI l j).2.2.2 ∧ g < gj

theorem PartI.below {w w' : World} {g n k : Nat} {l : List InstT} (h : PartI w g n k l) (hb : Below w.heap.size w w') : PartI w' g n k l := by
  obtain ⟨⟨cs, h1, h2⟩, h3⟩ := h
  have hg : g < w.heap.size := (Array.getElem?_eq_some_iff.1 h1).1
  refine ⟨⟨cs, by rw [hb.block g hg]; exact h1, h2⟩, fun j hj => ?_⟩
  obtain ⟨gj, nj, c1, c2, c3, c4, c5, c6, c7⟩ := h3 j hj
  exact ⟨gj, nj, (hb.cell (p := ⟨g, j * 4, none⟩) hg).trans c1, (hb.cell (p := ⟨g, j * 4 + 1, none⟩) hg).trans c2, (hb.cell (p := ⟨g, j * 4 + 2, none⟩) hg).trans c3, (hb.cell (p := ⟨g, j * 4 + 3, none⟩) hg).trans c4, c5, c6.below hb, c7⟩

/-- An instruction is stored. -/
theorem PartI.store {w : World} {g n k : Nat} {l : List InstT} (h : PartI w g n k l) (hk : k < n) (gk nk : Nat) (hl : (nthI l k).2.2.2.length = nk) (hv : ArgsV w (some ⟨gk, 0, none⟩) (nthI l k).2.2.2) (hg : g < gk) :
    PartI ((((w.setCell ⟨g, k * 4, none⟩ (.int .u16 (nthI l k).1)).setCell ⟨g, k * 4 + 1, none⟩ (.int .u32 (nthI l k).2.1)).setCell ⟨g, k * 4 + 2, none⟩ (.int .u32 (nthI l k).2.2.1)).setCell ⟨g, k * 4 + 3, none⟩ (.slice (some ⟨gk, 0, none⟩) nk nk)) g n (k + 1) l := by
  obtain ⟨⟨cs, h1, h2⟩, h3⟩ := h
  obtain ⟨W, hW⟩ : ∃ W, W = (((w.setCell ⟨g, k * 4, none⟩ (.int .u16 (nthI l k).1)).setCell ⟨g, k * 4 + 1, none⟩ (.int .u32 (nthI l k).2.1)).setCell ⟨g, k * 4 + 2, none⟩ (.int .u32 (nthI l k).2.2.1)).setCell ⟨g, k * 4 + 3, none⟩ (.slice (some ⟨gk, 0, none⟩) nk nk) := ⟨_, rfl⟩
  have hb : W.heap[g]? = some (.cells ((((cs.setIfInBounds (k * 4) (.int .u16 (nthI l k).1)).setIfInBounds (k * 4 + 1) (.int .u32 (nthI l k).2.1)).setIfInBounds (k * 4 + 2) (.int .u32 (nthI l k).2.2.1)).setIfInBounds (k * 4 + 3) (.slice (some ⟨gk, 0, none⟩) nk nk)) 58 (0, 0)) := by
    rw [hW]; simp [World.setCell, Array.getElem?_modify, h1]
  have cell : ∀ j, W.cell? ⟨g, j, none⟩ = ((((cs.setIfInBounds (k * 4) (.int .u16 (nthI l k).1)).setIfInBounds (k * 4 + 1) (.int .u32 (nthI l k).2.1)).setIfInBounds (k * 4 + 2) (.int .u32 (nthI l k).2.2.1)).setIfInBounds (k * 4 + 3) (.slice (some ⟨gk, 0, none⟩) nk nk))[j]? := fun j => by
    simp [World.cell?, hb]
  have old : ∀ j, w.cell? ⟨g, j, none⟩ = cs[j]? := fun j => by simp [World.cell?, h1]
  have far : ∀ gj m, g < gj → ArgsV w (some ⟨gj, 0, none⟩) m → ArgsV W (some ⟨gj, 0, none⟩) m := fun gj m hlt hm => by
    rw [hW]
    exact args_far (args_far (args_far (args_far hm (by omega) _ _) (by omega) _ _) (by omega) _ _) (by omega) _ _
  rw [← hW]
  refine ⟨⟨_, hb, by simp [h2]⟩, fun j hj => ?_⟩
  by_cases hjk : j < k
  · obtain ⟨gj, nj, c1, c2, c3, c4, c5, c6, c7⟩ := h3 j hjk
    rw [old] at c1 c2 c3 c4
    refine ⟨gj, nj, ?_, ?_, ?_, ?_, c5, far _ _ c7 c6, c7⟩
    all_goals rw [cell, Array.getElem?_setIfInBounds_ne (by omega), Array.getElem?_setIfInBounds_ne (by omega), Array.getElem?_setIfInBounds_ne (by omega), Array.getElem?_setIfInBounds_ne (by omega)]
    · exact c1
    · exact c2
    · exact c3
    · exact c4
  · obtain rfl : j = k := by omega
    refine ⟨gk, nk, ?_, ?_, ?_, ?_, hl, far _ _ hg hv, hg⟩
    · rw [cell, Array.getElem?_setIfInBounds_ne (by omega), Array.getElem?_setIfInBounds_ne (by omega), Array.getElem?_setIfInBounds_ne (by omega), Array.getElem?_setIfInBounds_self_of_lt (by omega)]
    · rw [cell, Array.getElem?_setIfInBounds_ne (by omega), Array.getElem?_setIfInBounds_ne (by omega), Array.getElem?_setIfInBounds_self_of_lt (by simp; omega)]
    · rw [cell, Array.getElem?_setIfInBounds_ne (by omega), Array.getElem?_setIfInBounds_self_of_lt (by simp; omega)]
    · rw [cell, Array.getElem?_setIfInBounds_self_of_lt (by simp; omega)]

theorem PartI.view {w : World} {g n : Nat} {l : List InstT} (h : PartI w g n n l) (hl : l.length = n) : InstsV w (some ⟨g, 0, none⟩) l := by
  intro j hj
  obtain ⟨gj, nj, c1, c2, c3, c4, c5, c6, c7⟩ := h.each j (by omega)
  exact ⟨g, 0, some ⟨gj, 0, none⟩, nj, nj, rfl, World.block_lt_of_cell? _ _ c1, by rw [Nat.zero_add]; exact c1, by rw [Nat.zero_add]; exact c2, by rw [Nat.zero_add]; exact c3, by rw [Nat.zero_add]; exact c4, c5, c6, Nat.le_refl _⟩

theorem PartI.far {w : World} {g n k : Nat} {l : List InstT} (h : PartI w g n k l) {b : Nat} (hb : b < g) (i : Nat) (v : Value) : PartI (w.setCell ⟨b, i, none⟩ v) g n k l := by
  obtain ⟨⟨cs, h1, h2⟩, h3⟩ := h
  have hx : (w.setCell ⟨b, i, none⟩ v).heap[g]? = w.heap[g]? := Below.heap_setCell _ _ _ _ (by simp; omega)
  have hc : ∀ j, (w.setCell ⟨b, i, none⟩ v).cell? ⟨g, j, none⟩ = w.cell? ⟨g, j, none⟩ := fun j => by simp only [World.cell?, hx]
  refine ⟨⟨cs, by rw [hx]; exact h1, h2⟩, fun j hj => ?_⟩
  obtain ⟨gj, nj, c1, c2, c3, c4, c5, c6, c7⟩ := h3 j hj
  exact ⟨gj, nj, by rw [hc]; exact c1, by rw [hc]; exact c2, by rw [hc]; exact c3, by rw [hc]; exact c4, c5, args_far c6 (by omega) _ _, c7⟩

theorem three_set3 {w : World} {B T : Nat} {z0 z1 z2 : Value} (h : w.heap[B]? = some (.cells #[z0, z1, z2] T (0, 0))) (u0 u1 u2 : Value) :
    (((w.setCell ⟨B, 0, none⟩ u0).setCell ⟨B, 1, none⟩ u1).setCell ⟨B, 2, none⟩ u2).heap[B]? = some (.cells #[u0, u1, u2] T (0, 0)) := by
  simp only [World.setCell, Array.getElem?_modify, h]; simp
theorem three_below3 (w : World) (B : Nat) (u0 u1 u2 : Value) : Below B w (((w.setCell ⟨B, 0, none⟩ u0).setCell ⟨B, 1, none⟩ u1).setCell ⟨B, 2, none⟩ u2) :=
  (((Below.refl B w).setCell (Nat.le_refl _) _).setCell (Nat.le_refl _) _).setCell (Nat.le_refl _) _

set_option maxRecDepth 100000 in
set_option maxHeartbeats 4000000 in
theorem copyModule_any (gen bound : Int) (ax : Option Addr) (n cx : Nat) (l : List InstT) (w : World) (hx : InstsV w ax l) (hok : InstsOk l) (hl : l.length = n) (hn : 40 * n ≤ 140737488351232) :
    Calls Try.prog 7 #[modV gen bound ax n cx] w fun e w' => ∃ g, e = .returned (modV gen bound (some ⟨g, 0, none⟩) n n) ∧ w.heap.size ≤ g ∧ InstsV w' (some ⟨g, 0, none⟩) l ∧ Below w.heap.size w w' := by
  obtain ⟨i0, hi, hz0, hz1, hz2⟩ := info_parts CopyModule.info
  unfold modV
  have HL : Hid (l.length = n) := hl
  clear hl
  go_enter Try.func7, Try.ntmps7
  go_wp2_with (at_make; refine wpList_make_full _ rfl _ _ 23 rfl (w.heap.size + 2) 58 i0 (.agg #[.int .u16 0, .int .u32 0, .int .u32 0, .slice none 0 0]) 4 Try.underlying23 hi hz0 hz1 _ _ _ _ n rfl rfl (by omega) (by omega) (by rw [hz2]; omega) (by unfold maxLen; omega) (by simp) ?_)
  intro w1 hown1 hgrow1
  have hb0 : Below w.heap.size w ((w.alloc (.cells #[.int .u32 gen, .int .u32 bound, .slice ax n cx] 25)).alloc (.cells #[.int .u32 0, .int .u32 0, .slice none 0 0] 25)) := ((Below.refl _ w).alloc (Nat.le_refl _) _).alloc (by simp) _
  have hb1 : Below (w.heap.size + 2) ((w.alloc (.cells #[.int .u32 gen, .int .u32 bound, .slice ax n cx] 25)).alloc (.cells #[.int .u32 0, .int .u32 0, .slice none 0 0] 25)) w1 := (Below.refl _ _).grown hgrow1 (by simp) (by simp)
  have hbox : w1.heap[w.heap.size]? = some (.cells #[.int .u32 gen, .int .u32 bound, .slice ax n cx] 25 (0, 0)) := (hb1.block w.heap.size (by omega)).trans ((Below.heap_alloc _ _ _ (by simp)).trans (heap_alloc_new w _))
  have hres : w1.heap[w.heap.size + 1]? = some (.cells #[.int .u32 0, .int .u32 0, .slice none 0 0] 25 (0, 0)) := (hb1.block (w.heap.size + 1) (by omega)).trans (by simpa using heap_alloc_new (w.alloc (.cells #[.int .u32 gen, .int .u32 bound, .slice ax n cx] 25)) (.cells #[.int .u32 0, .int .u32 0, .slice none 0 0] 25))
  have hP1 : PartI w1 (w.heap.size + 2) n 0 l := by
    refine ⟨?_, fun j hj => by omega⟩
    rcases hown1.2 with ⟨h, _⟩ | ⟨g, cap', cur, h1, h2, h3, h4, h5, h6, _⟩
    · simp at h
    · simp at h1; obtain ⟨rfl, rfl⟩ := h1; exact ⟨cur, h3, h6⟩
  have hbw1 : Below w.heap.size w w1 := hb0.trans (hb1.mono (by omega))
  clear hown1 hgrow1 hb0 hb1
  go_wp2
  go_loopw [4] (fun i wr => ∃ k : Nat, k ≤ n ∧ i = .int .i64 k ∧ PartI wr (w.heap.size + 2) n k l ∧ wr.heap[w.heap.size]? = some (.cells #[.int .u32 gen, .int .u32 bound, .slice ax n cx] 25 (0, 0)) ∧ wr.heap[w.heap.size + 1]? = some (.cells #[.int .u32 0, .int .u32 0, .slice none 0 0] 25 (0, 0)) ∧ Below w.heap.size w wr) (fun i _ => n - (intOf i).toNat)
  case atStart => exact ⟨0, Nat.zero_le _, rfl, hP1, hbox, hres, hbw1⟩
  case round =>
    obtain ⟨k, hk, rfl, hP, hbx, hrs, hnx⟩ := hrel
    clear hP1 hbw1 hbox hres
    have hbc : wr.cell? ⟨w.heap.size, 2, none⟩ = some (.slice ax n cx) := by simp [World.cell?, hbx]
    have hsz := hnx.size
    by_cases hlt : k < n
    · obtain ⟨b, off, aj, cj, nj, rfl, hbs, p1, p2, p3, p4, p5, p6, _⟩ := hx k (by rw [HL.out]; exact hlt)
      have q1 := (hnx.cell (p := ⟨b, off + k * 4, none⟩) hbs).trans p1
      have q2 := (hnx.cell (p := ⟨b, off + k * 4 + 1, none⟩) hbs).trans p2
      have q3 := (hnx.cell (p := ⟨b, off + k * 4 + 2, none⟩) hbs).trans p3
      have q4 := (hnx.cell (p := ⟨b, off + k * 4 + 3, none⟩) hbs).trans p4
      obtain ⟨cs, hr1, hr2⟩ := hP.row
      have hgl : w.heap.size + 1 + 1 < wr.heap.size := (Array.getElem?_eq_some_iff.1 hr1).1
      obtain ⟨⟨u0, d0⟩, f0⟩ := cells_can hr1 (k * 4) (by omega)
      obtain ⟨⟨u1, d1⟩, f1⟩ := cells_can hr1 (k * 4 + 1) (by omega)
      obtain ⟨⟨u2, d2⟩, f2⟩ := cells_can hr1 (k * 4 + 2) (by omega)
      obtain ⟨⟨u3, d3⟩, f3⟩ := cells_can hr1 (k * 4 + 3) (by omega)
      have hki : (k : Int) < (n : Int) := by omega
      have hk0 : (0 : Int) ≤ (k : Int) := by omega
      have s1 := (hok k (by rw [HL.out]; exact hlt)).2.2.2.2.2.2.2
      rw [p5] at s1
      have hC := fun wx (hb : Below wr.heap.size wr wx) => copyInst_any (nthI l k) aj nj cj wx ((p6.below hnx).below hb) p5 s1
      unfold instV at hC
      have hbs' : b < wr.heap.size := by omega
      have HX : Hid (wr.heap[w.heap.size]? = some (.cells #[.int .u32 gen, .int .u32 bound, .slice (some ⟨b, off, none⟩) n cx] 25 (0, 0))) := hbx
      have HR : Hid _ := hrs
      have HP : Hid (PartI wr (w.heap.size + 2) n k l) := hP
      have HV3 : Hid ((nthI l k).2.2.2.length = nj) := p5
      clear p1 p2 p3 p4 p5 p6 hr1 hr2 hP hx hok hbx hrs s1
      go_wp2_with fail
      refine (hC _ (Below.refl _ _)).mono ?_
      rintro e w' ⟨g', rfl, hg', hvC, hbC⟩
      have e1 := (hbC.cell (p := ⟨w.heap.size + 1 + 1, k * 4, none⟩) (by exact hgl)).trans d0
      have e2 := (hbC.cell (p := ⟨w.heap.size + 1 + 1, k * 4 + 1, none⟩) (by exact hgl)).trans d1
      have e3 := (hbC.cell (p := ⟨w.heap.size + 1 + 1, k * 4 + 2, none⟩) (by exact hgl)).trans d2
      have e4 := (hbC.cell (p := ⟨w.heap.size + 1 + 1, k * 4 + 3, none⟩) (by exact hgl)).trans d3
      have e5 := (hbC.frozen (p := ⟨w.heap.size + 1 + 1, k * 4, none⟩) (by exact hgl)).trans f0
      have e6 := (hbC.frozen (p := ⟨w.heap.size + 1 + 1, k * 4 + 1, none⟩) (by exact hgl)).trans f1
      have e7 := (hbC.frozen (p := ⟨w.heap.size + 1 + 1, k * 4 + 2, none⟩) (by exact hgl)).trans f2
      have e8 := (hbC.frozen (p := ⟨w.heap.size + 1 + 1, k * 4 + 3, none⟩) (by exact hgl)).trans f3
      have hP2 := (HP.out.below hbC).store hlt g' nj HV3.out hvC (by omega)
      have hX2 := (hbC.block w.heap.size (by omega)).trans HX.out
      have hR2 := (hbC.block (w.heap.size + 1) (by omega)).trans HR.out
      have hB2 := hnx.trans (hbC.mono hsz)
      have HP2 : Hid _ := hP2
      have HX2 : Hid _ := hX2
      have HR2 : Hid _ := hR2
      have HB2 : Hid _ := hB2
      clear hP2 hX2 hR2 hB2 hvC hbC HP HX HR d0 d1 d2 d3 f0 f1 f2 f3 hC
      go_wp2
      go_roundw
      case rel => exact ⟨k + 1, by omega, by go_num, HP2.out, setFar1 (setFar3 HX2.out (by omega) _ _ _ _ _ _) (by omega) _ _, setFar1 (setFar3 HR2.out (by omega) _ _ _ _ _ _) (by omega) _ _, (((HB2.out.setCell (by show w.heap.size ≤ w.heap.size + 1 + 1; omega) _).setCell (by show w.heap.size ≤ w.heap.size + 1 + 1; omega) _).setCell (by show w.heap.size ≤ w.heap.size + 1 + 1; omega) _).setCell (by show w.heap.size ≤ w.heap.size + 1 + 1; omega) _⟩
      case measure => simp [intOf]; omega
    · obtain rfl : k = n := by omega
      obtain ⟨hc, hf⟩ := block_cells hbx
      obtain ⟨hc', hf'⟩ := block_cells hrs
      have c0 := hc 0
      have c1 := hc 1
      have r0 := hc' 0
      have r1 := hc' 1
      have r2 := hc' 2
      have HP : Hid _ := hP
      have HB : Hid _ := hnx
      have HX : Hid _ := hbx
      have HR : Hid _ := hrs
      clear hP hbx hrs hc hc' hx hnx
      go_wp2
      have hB3 := three_set3 (setFar1 HR.out (show w.heap.size + 1 ≠ w.heap.size by omega) 2 (.slice (some ⟨w.heap.size + 1 + 1, 0, none⟩) k k)) (.int .u32 gen) (.int .u32 bound) (.slice (some ⟨w.heap.size + 1 + 1, 0, none⟩) k k)
      have hBel := (HB.out.setCell (p := ⟨w.heap.size, 2, none⟩) (Nat.le_refl _) (.slice (some ⟨w.heap.size + 1 + 1, 0, none⟩) k k)).trans ((three_below3 (wr.setCell ⟨w.heap.size, 2, none⟩ (.slice (some ⟨w.heap.size + 1 + 1, 0, none⟩) k k)) (w.heap.size + 1) (.int .u32 gen) (.int .u32 bound) (.slice (some ⟨w.heap.size + 1 + 1, 0, none⟩) k k)).mono (show w.heap.size ≤ w.heap.size + 1 by omega))
      have hV3 := (((((HP.out.far (b := w.heap.size) (by omega) 2 (.slice (some ⟨w.heap.size + 1 + 1, 0, none⟩) k k)).far (b := w.heap.size + 1) (by omega) 0 (.int .u32 gen)).far (b := w.heap.size + 1) (by omega) 1 (.int .u32 bound)).far (b := w.heap.size + 1) (by omega) 2 (.slice (some ⟨w.heap.size + 1 + 1, 0, none⟩) k k))).view HL.out
      clear HP HB HR HX c0 c1 r0 r1 r2 hf hf'
      generalize (((wr.setCell _ _).setCell _ _).setCell _ _).setCell _ _ = W at hB3 hBel hV3 ⊢
      obtain ⟨hd, _⟩ := block_cells hB3
      have d0 := hd 0
      have d1 := hd 1
      have d2 := hd 2
      refine bodyPost_ret (v := .agg #[.int .u32 gen, .int .u32 bound, .slice (some ⟨w.heap.size + 1 + 1, 0, none⟩) k k]) ?_ rfl ⟨w.heap.size + 1 + 1, rfl, by omega, hV3, hBel⟩
      simp [results, Try.results7, go_sem, d0, d1, d2]

end Go.Proofs.Ytcckepjpehjijaa
