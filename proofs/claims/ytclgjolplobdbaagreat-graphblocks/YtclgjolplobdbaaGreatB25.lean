/-
  Texts laid together in one: LawGraphBlocks.
-/
import Derived.WalkSpells
import Derived.WalkMore
import Derived.OwnWalk
import Derived.Deep.MidRow
import Derived.BigFrame
import Derived.Test.YtclgjolplobdbaaGreatProg
import Derived.Test.YtclgjolplobdbaaGreatB01
import Derived.Test.YtclgjolplobdbaaGreatB06
import Derived.Test.YtclgjolplobdbaaGreatB23
import Derived.Test.YtclgjolplobdbaaGreatB24
import Derived.Test.YtclgjolplobdbaaGreatB05
import Derived.Test.YtclgjolplobdbaaGreatB04
import Derived.Test.YtclgjolplobdbaaGreatB12
/-
  The law GraphBlocks: a function's nodes are its blocks, their edges its targets.
-/
namespace Go.Proofs.YtclgjolplobdbaaGreat
open Go.RowKit
set_option linter.unusedVariables false
set_option linter.unusedSimpArgs false
set_option maxRecDepth 10000

/-- A graph and its merges, or none. -/
def NqV (E1 E2 : Int) (N : List (List Int)) (M : List (Int × Int × Int)) (X : World) (lo : Nat) (gv mv : Value) : Prop :=
  (E1 ≠ 0 ∧ gv = .pointer none ∧ mv = .slice none 0 0) ∨ (E1 = 0 ∧ E2 = 0 ∧ ∃ p, gv = .pointer (some ⟨p, 0, none⟩) ∧ GrV X lo p N ∧ X.ownsRow lo 56 3 mv M.length (M.flatMap mgC))
theorem NqV.below {E1 E2 : Int} {N : List (List Int)} {M : List (Int × Int × Int)} {X Y : World} {lo lo' : Nat} {gv mv : Value} (h : NqV E1 E2 N M X lo gv mv) (hb : Below X.heap.size X Y) (hl : lo' ≤ lo) : NqV E1 E2 N M Y lo' gv mv := by
  rcases h with h | ⟨h1, h2, p, h3, h4, h5⟩
  · exact .inl h
  · exact .inr ⟨h1, h2, p, h3, (h4.below hb).mono hl, own_mono (own_below h5 hb) hl⟩
theorem NqV.kept2 {E1 E2 : Int} {N : List (List Int)} {M : List (Int × Int × Int)} {X Y : World} {lo lo' b : Nat} {gv mv : Value} (h : NqV E1 E2 N M X lo gv mv) (hg : X.grownBy Y (some b)) (hb : b < lo) (hl : lo' ≤ lo) : NqV E1 E2 N M Y lo' gv mv := by
  rcases h with h | ⟨h1, h2, p, h3, h4, h5⟩
  · exact .inl h
  · exact .inr ⟨h1, h2, p, h3, (h4.kept hg (fun g e => by cases e; exact hb)).mono hl, own_mono (own_kept h5 hg (fun g e => by cases e; exact hb)) hl⟩
theorem NqV.kept {E1 E2 : Int} {N : List (List Int)} {M : List (Int × Int × Int)} {X Y : World} {lo b : Nat} {gv mv : Value} (h : NqV E1 E2 N M X lo gv mv) (hg : X.grownBy Y (some b)) (hb : b < lo) : NqV E1 E2 N M Y lo gv mv := h.kept2 hg hb (Nat.le_refl _)
theorem newE_ids {b : Int} {l : List InstT} {f : FuncT} (h : (newE b l f).1 = 0) : (idsE b l).1 = 0 := by
  by_cases h0 : (idsE b l).1 = 0
  · exact h0
  · unfold newE at h; rw [if_pos h0] at h; exact absurd h h0
theorem mgC_get : ∀ (ms : List (Int × Int × Int)) (k i : Nat), k < ms.length → i < 3 → (ms.flatMap mgC)[k * 3 + i]? = (mgC (ms.getD k (0, 0, 0)))[i]?
  | [], k, i, h, _ => absurd h (Nat.not_lt_zero k)
  | b :: ms, 0, i, h, hi => by rw [List.flatMap_cons, List.getElem?_append_left (by show _ < 3; omega)]; simp
  | b :: ms, k + 1, i, h, hi => by
    rw [List.flatMap_cons, List.getElem?_append_right (by show 3 ≤ _; omega)]
    have := mgC_get ms k i (by simpa using h) hi
    rw [show (k + 1) * 3 + i - (mgC b).length = k * 3 + i by show _ - 3 = _; omega, this]
    simp
theorem mgRead {w : World} {lo : Nat} {mv : Value} {ms : List (Int × Int × Int)} (h : w.ownsRow lo 56 3 mv ms.length (ms.flatMap mgC)) (hp : 0 < ms.length) : ∃ gm cm, mv = .slice (some ⟨gm, 0, none⟩) ms.length cm ∧ gm < w.heap.size ∧ ∀ k, k < ms.length → w.cell? ⟨gm, k * 3, none⟩ = some (.int .u8 (ms.getD k (0, 0, 0)).1) ∧ w.cell? ⟨gm, k * 3 + 1, none⟩ = some (.int .i64 (ms.getD k (0, 0, 0)).2.1) ∧ w.cell? ⟨gm, k * 3 + 2, none⟩ = some (.int .i64 (ms.getD k (0, 0, 0)).2.2) := by
  obtain ⟨G, c2, e2, k1, k2, k3, k4, k5⟩ := own_form h hp
  refine ⟨G, c2, e2, k2, fun k hk => ?_⟩
  have hc2 : ∀ i, i < 3 → w.cell? ⟨G, k * 3 + i, none⟩ = (mgC (ms.getD k (0, 0, 0)))[i]? := fun i hi => by
    rw [k5 _ (by omega), mgC_get _ k i hk hi]
  exact ⟨hc2 0 (by omega), hc2 1 (by omega), hc2 2 (by omega)⟩
theorem w64a {m n : Nat} (h : m < n) (hn : 40 * n ≤ 140737488351232) : wrap64 (m : Int) = (m : Int) := by unfold wrap64; omega
theorem w64b {m n : Nat} (h : m < n) (hn : 40 * n ≤ 140737488351232) : wrap64 ((m : Int) + 1 - 1) = (m : Int) := by unfold wrap64; omega
theorem w64c {m n : Nat} (h : m < n) (hn : 40 * n ≤ 140737488351232) : m < 1000000000000000 := by omega
theorem toN1 (m : Nat) : ((m : Int) + 1).toNat - 1 = m := by omega
theorem eightLL {a b : Nat} (h : a ≤ b) (h2 : 8 * b ≤ 140737488351232) : 8 * a ≤ 140737488351232 := by omega
theorem wrapQ {j k : Nat} (h : j < k) (hk : k ≤ 17592186044416) : wrap64 ((j : Int) + 1) = (j : Int) + 1 := by unfold wrap64; omega
theorem notLt {a b : Nat} (h : a ≤ b) : ¬ (b : Int) < (a : Int) := by omega
theorem boolA {q t : Int} (h : q = 0 ↔ t < 0) : ∃ b : Bool, (q == 0) = b ∧ decide (t < 0) = b := ⟨decide (t < 0), by rw [Bool.eq_iff_iff]; simpa using h, rfl⟩
theorem boolB {q t : Int} (h : q = 2 ↔ 0 ≤ t) : ∃ b : Bool, (q == 2) = b ∧ decide (0 ≤ t) = b := ⟨decide (0 ≤ t), by rw [Bool.eq_iff_iff]; simpa using h, rfl⟩
theorem keyed5 {P : World → Nat → Nat → Value → Value → Prop} {R : Prop} (H : World → Nat → Nat → Value → Value → Prop) (h1 : (∀ X b g u v, H X b g u v → P X b g u v) → R) (h2 : ∀ X b g u v, H X b g u v → P X b g u v) : R := h1 h2
theorem funcsR_nil (w : World) : FuncsR w (.slice none 0 0) [] := ⟨none, 0, rfl, fun j hj => absurd hj (Nat.not_lt_zero j)⟩

set_option maxHeartbeats 16000000 in
theorem graphBlocks_true (w : World) (gen bnd : Int) (a : Option Addr) (n c : Nat) (l : List InstT) (hl : l.length = n) (hv : InstsV w a l) (hok : InstsOk l) (hn : 40 * n ≤ 140737488351232) (hc : n ≤ c) (hgb : 0 ≤ gen ∧ gen < 4294967296 ∧ 0 ≤ bnd ∧ bnd < 4294967296) :
    Calls Tryz.prog 4 #[.agg #[.int .u32 gen, .int .u32 bnd, .slice a n c]] w fun e w' => e = .returned (.bool true) ∧ Below w.heap.size w w' := by
  obtain ⟨g0, g1, b0, b1⟩ := hgb
  have hba : Below w.heap.size w (w.alloc (.cells #[.int .u32 gen, .int .u32 bnd, .slice a n c] 25)) := (Below.refl _ w).alloc (Nat.le_refl _) _
  have HCP := hide fun wx (h : Below w.heap.size w wx) => copyModule_any gen bnd a n c l wx (hv.below h) hok hl hn
  have HCU := hide fun wx ax (h : InstsV wx ax l) => layCut_any gen bnd ax n n l wx h hok hl hn g0 g1 b0 b1
  have HNW := hide fun wx ax (h : InstsV wx ax l) (fv : Value) (f : FuncT) (hf : FnR wx fv f) => graphNew_any gen bnd ax n n l fv f wx h hok hl hn g0 g1 b0 b1 hf
  have HV := hide hv
  have HOK := hide hok
  have HL := hide hl
  have HN := hide hn
  have HKM := hide (allocNew w (.cells #[.int .u32 gen, .int .u32 bnd, .slice a n c] 25) rfl)
  have HBA := hide hba
  have m0 := (one_block HKM.out).1 0
  have m1 := (one_block HKM.out).1 1
  have m2 := (one_block HKM.out).1 2
  have hcp := HCP.out _ hba
  unfold modV CutQ at *
  clear hba hv hok hl hn
  go_enter Tryz.func4, Tryz.ntmps4
  go_wp2_with fail
  generalize World.alloc w _ = W0 at *
  refine hcp.mono ?_
  rintro e w1 ⟨g, rfl, _, hV1, hb1⟩
  have hcu := HCU.out w1 _ hV1
  have hbw1 := HBA.out.trans (hb1.mono HBA.out.size)
  have HB1 := hide hbw1
  have HKM1 := hide ((hb1.block _ (Array.getElem?_eq_some_iff.1 HKM.out).1).trans HKM.out)
  clear hcp hV1 hb1 hbw1 m0 m1 m2 HKM HBA HCU
  go_wp2_with fail
  refine hcu.mono ?_
  rintro e w2 ⟨fv, rfl, hb2, hfv⟩
  obtain ⟨E1, hE1⟩ : ∃ E1, E1 = (layE bnd l).1 := ⟨_, rfl⟩
  obtain ⟨E2, hE2⟩ : ∃ E2 : Int, E2 = ((layE bnd l).2 : Int) := ⟨_, rfl⟩
  obtain ⟨fs, hfs⟩ : ∃ fs, fs = if E1 = 0 then cutTo l l.length else [] := ⟨_, rfl⟩
  have HLY : Hid (E1 = 0 → (layE bnd l).1 = 0 ∧ fs = cutTo l l.length) := fun h => ⟨hE1 ▸ h, by rw [hfs, if_pos h]⟩
  have HFS : Hid (0 < fs.length → E1 = 0) := fun h => by
    by_cases h1 : E1 = 0
    · exact h1
    · rw [hfs, if_neg h1] at h; exact absurd h (Nat.lt_irrefl _)
  have hFR : FuncsR w2 fv fs := by
    rw [← hE1] at hfv
    rcases hfv with ⟨h1, rfl⟩ | ⟨h1, h2⟩
    · rw [hfs, if_neg h1]; exact funcsR_nil _
    · rw [hfs, if_pos h1]; exact h2.readV
  have HFW : Hid (FewF fs) := by
    show FewF fs
    by_cases h1 : E1 = 0
    · rw [hfs, if_pos h1]; exact few_cut (hE1 ▸ h1)
    · rw [hfs, if_neg h1]; exact ⟨Nat.zero_le _, fun j => by simp [nthF, noFunc]⟩
  rw [← hE1, ← hE2]
  have hba2 := (Below.refl _ w2).alloc (Nat.le_refl _) (.cells #[.int .i64 E1, .int .i64 E2] 33)
  have HFR := hide (hFR.below hba2)
  have hbw2 := HB1.out.trans (hb2.mono HB1.out.size)
  have HB2 := hide (hbw2.trans (hba2.mono hbw2.size))
  have HKM2 := hide (allocOld ((hb2.block _ (Array.getElem?_eq_some_iff.1 HKM1.out).1).trans HKM1.out) (.cells #[.int .i64 E1, .int .i64 E2] 33))
  have HKS2 := hide (allocNew w2 (.cells #[.int .i64 E1, .int .i64 E2] 33) rfl)
  have HFF := hide (hFR.below hba2)
  obtain ⟨fx, fc, rfl, _⟩ := hFR
  clear hfv hE1 hE2 hfs hba2 hbw2 hb2 hcu HKM1 HB1
  generalize hm : fs.length = mf at *
  have HM := hide hm
  clear hm
  go_wp2_with fail
  generalize World.alloc w2 _ = Y at *
  have HMF : Hid ((mf : Int) ≤ 1048576) := by have := HFW.out.1; rw [HM.out] at this; show (mf : Int) ≤ _; omega
  go_loopw [5] (fun i wr => ∃ j : Nat, j ≤ mf ∧ i = .int .i64 j ∧ Below Y.heap.size Y wr) (fun i _ => mf - (intOf i).toNat)
  case atStart => exact ⟨0, Nat.zero_le _, rfl, Below.refl _ _⟩
  case round =>
    obtain ⟨j, hj, rfl, hbr⟩ := hrel
    have hs4 := (hbr.block _ (Array.getElem?_eq_some_iff.1 HKS2.out).1).trans HKS2.out
    have s0 := (one_block hs4).1 0
    have HBR := hide hbr
    by_cases hlt : j < mf
    · have hE := HFS.out (by omega)
      subst hE
--@@A
      generalize hwo : wr = wo at *
      clear hwo
      obtain ⟨_, _, e1, hA⟩ := HFR.out.below hbr
      injection e1 with e1 e2 e3
      obtain ⟨FB, xp, cp, xq, cq, hx, hF, q0, q1, q2, q3, q4, hvp, hvq⟩ := hA j (by rw [HM.out]; exact hlt)
      have hx2 := e1.trans hx
      have hfr : FnR wo (.agg #[.int .u32 (nthF fs j).1, .int .i64 (nthF fs j).2.1, .slice xp (nthF fs j).2.2.1.length cp, .slice xq (nthF fs j).2.2.2.1.length cq, .int .i64 (nthF fs j).2.2.2.2]) (nthF fs j) := ⟨⟨xp, cp, xq, cq, rfl, hvp, fun k hk => by
        obtain ⟨G, e4, g1, g2, g3, g4⟩ := hvq k hk
        exact ⟨G, 0, e4, g1, by simpa using g2, by simpa using g3, by simpa using g4⟩⟩, HFW.out.2 j⟩
      have hmem : nthF fs j ∈ cutTo l l.length := by
        rw [← (HLY.out rfl).2]
        exact nthF_mem (by rw [HM.out]; exact hlt)
      have hbl : BlkV wo xq (nthF fs j).2.2.2.1 := by
        obtain ⟨_, _, _, _, e, _, h⟩ := hfr.form
        injection e with e; injection e with e
        injection e with _ e; injection e with _ e; injection e with _ e; injection e with e _
        injection e with e _ _
        subst e; exact h
      subst hx2
      have HLAY := hide (HLY.out rfl).1
      have hj0 : (0 : Int) ≤ (j : Int) := by omega
      have hji : (j : Int) < (mf : Int) := by omega
      have HLT := hide hlt
      have HMEM := hide hmem
      have HFN := hide hfr
      have HBQ := hide hbl
      clear e1 e2 e3 hx hA hbr hvp hvq hfr hmem hbl hs4 hlt hj HFR HFF
      generalize nthF fs j = fn at *
      obtain ⟨fid, fat, fps, fbs, fen⟩ := fn
      simp only at *
      have hba6 := (Below.refl _ wo).alloc (Nat.le_refl _) (.cells #[.int .u32 fid, .int .i64 fat, .slice xp fps.length cp, .slice xq fbs.length cq, .int .i64 fen] 29)
      have HW6 := hide (HBR.out.trans (hba6.mono HBR.out.size))
      have hbw6 := HB2.out.trans (HW6.out.mono HB2.out.size)
      have HWT := hide hbw6
      have hkm6 := (HW6.out.block _ (Array.getElem?_eq_some_iff.1 HKM2.out).1).trans HKM2.out
      have HKM6 := hide hkm6
      have HFN6 := hide (HFN.out.below hba6)
      have HBQ6 := hide (HBQ.out.below hba6)
      have HKF6 := hide (allocNew wo (.cells #[.int .u32 fid, .int .i64 fat, .slice xp fps.length cp, .slice xq fbs.length cq, .int .i64 fen] 29) rfl)
      have HSW := hide (Nat.lt_of_lt_of_le (Array.getElem?_eq_some_iff.1 HKM2.out).1 HBR.out.size)
      clear hba6 hbw6 hkm6 HFN HBQ
      go_wp2_with fail
      generalize World.alloc wo _ = W6 at *
      have LC : Hid (∀ w' : World, Below W6.heap.size W6 w' → w'.cell? ⟨w.heap.size, 0, none⟩ = some (.int .u32 gen) ∧ w'.cell? ⟨w.heap.size, 1, none⟩ = some (.int .u32 bnd) ∧ w'.cell? ⟨w.heap.size, 2, none⟩ = some (.slice a n c) ∧ w'.cell? ⟨wo.heap.size, 0, none⟩ = some (.int .u32 fid) ∧ w'.cell? ⟨wo.heap.size, 1, none⟩ = some (.int .i64 fat) ∧ w'.cell? ⟨wo.heap.size, 2, none⟩ = some (.slice xp fps.length cp) ∧ w'.cell? ⟨wo.heap.size, 3, none⟩ = some (.slice xq fbs.length cq) ∧ w'.cell? ⟨wo.heap.size, 4, none⟩ = some (.int .i64 fen)) := fun w' h => by
        have hm := (h.block _ (Array.getElem?_eq_some_iff.1 HKM6.out).1).trans HKM6.out
        have hf := (h.block _ (Array.getElem?_eq_some_iff.1 HKF6.out).1).trans HKF6.out
        obtain ⟨f0, f1, f2, f3, f4⟩ := fiveCells hf
        exact ⟨(one_block hm).1 0, (one_block hm).1 1, (one_block hm).1 2, f0, f1, f2, f3, f4⟩
      have hC0 : Below W6.heap.size W6 W6.drew := below_drew W6
      have hmix : Tryz.prog.follows .mixedOrders = true := by kernel_rfl
      refine (wpIn_wide (n := 0)).1 ?_
      refine wpIn_normal (wpIn_region_any hmix (wpAnyE_sound (C := Below W6.heap.size W6) (E := fun _ => false) _ _ _ _ ?_))
      change wpAnyE _ _ _ _ _ _ _ _ _ _ _ (World.drew _)
      refine wpAnyE_takeD (i := 0) (some 35) (v := (.agg #[.int .u32 gen, .int .u32 bnd, .slice a n c])) (fun _ => trivial) (by kernel_rfl) rfl rfl (by kernel_rfl) (by kernel_rfl) (by kernel_rfl) (by kernel_rfl) (fun _ _ _ h => by cases h.1) hC0 (Or.inl ⟨by kernel_rfl, fun w' hC => by obtain ⟨e1, e2, e3, e4, e5, e6, e7, e8⟩ := LC.out w' hC; clear hC; go_simp⟩) ?_
      simp only [Act.put, List.setIfInBounds_toArray, List.set_cons_succ, List.set_cons_zero]
      refine wpAnyE_takeD (i := 2) (some 37) (v := (.agg #[.int .u32 fid, .int .i64 fat, .slice xp fps.length cp, .slice xq fbs.length cq, .int .i64 fen])) (fun _ => trivial) (by kernel_rfl) rfl rfl (by kernel_rfl) (by kernel_rfl) (by kernel_rfl) (by kernel_rfl) (fun _ _ _ h => by cases h.1) hC0 (Or.inl ⟨by kernel_rfl, fun w' hC => by obtain ⟨e1, e2, e3, e4, e5, e6, e7, e8⟩ := LC.out w' hC; clear hC; go_simp⟩) ?_
      simp only [Act.put, List.setIfInBounds_toArray, List.set_cons_succ, List.set_cons_zero]
      clear LC
      obtain ⟨H, hH⟩ : ∃ H : World → Nat → Nat → Value → Value → Prop, H = fun X b9 _ gv mv => Below W6.heap.size W6 X ∧ X.heap[b9]? = some (.cells #[.int .i64 (newE bnd l (fid, fat, fps, fbs, fen)).1, .int .i64 (newE bnd l (fid, fat, fps, fbs, fen)).2] 33 (0, 0)) ∧ NqV (newE bnd l (fid, fat, fps, fbs, fen)).1 (newE bnd l (fid, fat, fps, fbs, fen)).2 ((newN l (fid, fat, fps, fbs, fen)).map onceF) (newM l (fid, fat, fps, fbs, fen)) X W6.heap.size gv mv := ⟨_, rfl⟩
      apply keyed5 H ?h1 ?h2
      case h1 =>
        intro key
        refine wpAnyE_ready (rs := [1, 8]) (by kernel_rfl) (by simp) ?_
        refine AllE.cons rfl (fun Kk hK => ?_) (AllE.cons rfl (fun Kk hK => ?_) AllE.nil)
        · skip
          go_simp
          refine ⟨trivial, rfl, (callsIn_wide.2 (HCP.out _ (HWT.out.trans (hC0.mono HWT.out.size)))).mono ?_⟩
          rintro e x1 ⟨g2, rfl, hg2, hV2, hb2⟩
          dsimp only
          have hC1 := hC0.trans (hb2.mono hC0.size)
          refine hK _ _ (.inr hC1) ?_
          clear hK Kk
          refine wpAnyE_ready (rs := [3, 8]) (by kernel_rfl) (by simp) ?_
          refine AllE.cons rfl (fun Kk hK => ?_) (AllE.cons rfl (fun Kk hK => ?_) AllE.nil)
          · skip
            go_simp
            refine ⟨trivial, rfl, (callsIn_wide.2 (HNW.out _ _ hV2 _ _ (HFN6.out.below hC1))).mono ?_⟩
            rintro e x2 ⟨hb3, gv, mv, rfl, hnq⟩
            have hnq : NqV (newE bnd l (fid, fat, fps, fbs, fen)).1 (newE bnd l (fid, fat, fps, fbs, fen)).2 ((newN l (fid, fat, fps, fbs, fen)).map onceF) (newM l (fid, fat, fps, fbs, fen)) x2 _ gv mv := hnq
            dsimp only
            have hC3 := hC1.trans (hb3.mono hC1.size)
            refine hK _ _ (.inr hC3) ?_
            clear hK Kk
            refine wpAnyE_takeD (i := 4) (some 34) (v := (.tuple #[gv, mv, .agg #[.int .i64 (newE bnd l (fid, fat, fps, fbs, fen)).1, .int .i64 (newE bnd l (fid, fat, fps, fbs, fen)).2]])) (fun _ => trivial) (by kernel_rfl) rfl rfl (by kernel_rfl) (by kernel_rfl) (by kernel_rfl) (by kernel_rfl) (fun _ _ _ h => by cases h.1) hC3 (Or.inl ⟨by kernel_rfl, fun w' hC => by clear hC; go_simp⟩) ?_
            simp only [Act.put, List.setIfInBounds_toArray, List.set_cons_succ, List.set_cons_zero]
            refine wpAnyE_takeD (i := 5) (some 39) (v := gv) (fun _ => trivial) (by kernel_rfl) rfl rfl (by kernel_rfl) (by kernel_rfl) (by kernel_rfl) (by kernel_rfl) (fun _ _ _ h => by cases h.1) hC3 (Or.inl ⟨by kernel_rfl, fun w' hC => by clear hC; go_simp⟩) ?_
            simp only [Act.put, List.setIfInBounds_toArray, List.set_cons_succ, List.set_cons_zero]
            refine wpAnyE_takeD (i := 6) (some 40) (v := mv) (fun _ => trivial) (by kernel_rfl) rfl rfl (by kernel_rfl) (by kernel_rfl) (by kernel_rfl) (by kernel_rfl) (fun _ _ _ h => by cases h.1) hC3 (Or.inl ⟨by kernel_rfl, fun w' hC => by clear hC; go_simp⟩) ?_
            simp only [Act.put, List.setIfInBounds_toArray, List.set_cons_succ, List.set_cons_zero]
            refine wpAnyE_takeD (i := 7) (some 41) (v := (.agg #[.int .i64 (newE bnd l (fid, fat, fps, fbs, fen)).1, .int .i64 (newE bnd l (fid, fat, fps, fbs, fen)).2])) (fun _ => trivial) (by kernel_rfl) rfl rfl (by kernel_rfl) (by kernel_rfl) (by kernel_rfl) (by kernel_rfl) (fun _ _ _ h => by cases h.1) hC3 (Or.inl ⟨by kernel_rfl, fun w' hC => by clear hC; go_simp⟩) ?_
            simp only [Act.put, List.setIfInBounds_toArray, List.set_cons_succ, List.set_cons_zero]
            refine wpAnyE_ready (rs := [8]) (by kernel_rfl) (by simp) ?_
            refine AllE.cons rfl (fun Kk hK => ?_) AllE.nil
            go_simp
            have hC4 := hC3.alloc hC3.size (.cells #[.int .i64 0, .int .i64 0] 33)
            refine hK _ _ (.inr hC4) ?_
            clear hK Kk
            refine wpAnyE_ready (rs := [9]) (by kernel_rfl) (by simp) ?_
            refine AllE.cons rfl (fun Kk hK => ?_) AllE.nil
            go_simp
            refine hK _ _ (.inr (hC4)) ?_
            clear hK Kk
            refine wpAnyE_ready (rs := [10]) (by kernel_rfl) (by simp) ?_
            refine AllE.cons rfl (fun Kk hK => ?_) AllE.nil
            go_simp
            refine hK _ _ (.inr (hC4)) ?_
            clear hK Kk
            refine wpAnyE_ready (rs := [11]) (by kernel_rfl) (by simp) ?_
            refine AllE.cons rfl (fun Kk hK => ?_) AllE.nil
            go_simp
            refine hK _ _ (.inr (hC3.alloc hC3.size (.cells #[.int .i64 (newE bnd l (fid, fat, fps, fbs, fen)).1, .int .i64 (newE bnd l (fid, fat, fps, fbs, fen)).2] 33))) ?_
            clear hK Kk
            refine wpAnyE_done (by kernel_rfl) ⟨rfl, ?_⟩ _
            have hf : H (x2.alloc (.cells #[.int .i64 (newE bnd l (fid, fat, fps, fbs, fen)).1, .int .i64 (newE bnd l (fid, fat, fps, fbs, fen)).2] 33)) (x2.heap.size) g2 gv mv := by
              rw [hH]
              exact ⟨hC3.alloc hC3.size _, allocNew _ _ rfl, hnq.below ((Below.refl _ x2).alloc (Nat.le_refl _) _) hC1.size⟩
            generalize World.alloc x2 _ = X at hf ⊢
            generalize x2.heap.size = b9 at hf ⊢
            exact key _ _ _ _ _ hf
          · skip
            go_simp
            have hC2 := hC1.alloc hC1.size (.cells #[.int .i64 0, .int .i64 0] 33)
            refine hK _ _ (.inr hC2) ?_
            clear hK Kk
            have hk9 := allocNew x1 (.cells #[.int .i64 0, .int .i64 0] 33) rfl
            have hV3 := hV2.below ((Below.refl _ x1).alloc (Nat.le_refl _) (.cells #[.int .i64 0, .int .i64 0] 33))
            refine wpAnyE_ready (rs := [3]) (by kernel_rfl) (by simp) ?_
            refine AllE.cons rfl (fun Kk hK => ?_) AllE.nil
            go_simp
            refine ⟨trivial, rfl, (callsIn_wide.2 (HNW.out _ _ hV3 _ _ (HFN6.out.below hC2))).mono ?_⟩
            rintro e x2 ⟨hb3, gv, mv, rfl, hnq⟩
            have hnq : NqV (newE bnd l (fid, fat, fps, fbs, fen)).1 (newE bnd l (fid, fat, fps, fbs, fen)).2 ((newN l (fid, fat, fps, fbs, fen)).map onceF) (newM l (fid, fat, fps, fbs, fen)) x2 _ gv mv := hnq
            dsimp only
            have hC3 := hC2.trans (hb3.mono hC2.size)
            refine hK _ _ (.inr hC3) ?_
            clear hK Kk
            have hs9 := (hb3.block _ (Array.getElem?_eq_some_iff.1 hk9).1).trans hk9
            have hz9 := twoF hs9
            have v0 := hz9.1; have v1 := hz9.2.1; have y0 := (one_block hs9).1 0; have y1 := (one_block hs9).1 1
            refine wpAnyE_takeD (i := 4) (some 34) (v := (.tuple #[gv, mv, .agg #[.int .i64 (newE bnd l (fid, fat, fps, fbs, fen)).1, .int .i64 (newE bnd l (fid, fat, fps, fbs, fen)).2]])) (fun _ => trivial) (by kernel_rfl) rfl rfl (by kernel_rfl) (by kernel_rfl) (by kernel_rfl) (by kernel_rfl) (fun _ _ _ h => by cases h.1) hC3 (Or.inl ⟨by kernel_rfl, fun w' hC => by clear hC; go_simp⟩) ?_
            simp only [Act.put, List.setIfInBounds_toArray, List.set_cons_succ, List.set_cons_zero]
            refine wpAnyE_takeD (i := 5) (some 39) (v := gv) (fun _ => trivial) (by kernel_rfl) rfl rfl (by kernel_rfl) (by kernel_rfl) (by kernel_rfl) (by kernel_rfl) (fun _ _ _ h => by cases h.1) hC3 (Or.inl ⟨by kernel_rfl, fun w' hC => by clear hC; go_simp⟩) ?_
            simp only [Act.put, List.setIfInBounds_toArray, List.set_cons_succ, List.set_cons_zero]
            refine wpAnyE_takeD (i := 6) (some 40) (v := mv) (fun _ => trivial) (by kernel_rfl) rfl rfl (by kernel_rfl) (by kernel_rfl) (by kernel_rfl) (by kernel_rfl) (fun _ _ _ h => by cases h.1) hC3 (Or.inl ⟨by kernel_rfl, fun w' hC => by clear hC; go_simp⟩) ?_
            simp only [Act.put, List.setIfInBounds_toArray, List.set_cons_succ, List.set_cons_zero]
            refine wpAnyE_takeD (i := 7) (some 41) (v := (.agg #[.int .i64 (newE bnd l (fid, fat, fps, fbs, fen)).1, .int .i64 (newE bnd l (fid, fat, fps, fbs, fen)).2])) (fun _ => trivial) (by kernel_rfl) rfl rfl (by kernel_rfl) (by kernel_rfl) (by kernel_rfl) (by kernel_rfl) (fun _ _ _ h => by cases h.1) hC3 (Or.inl ⟨by kernel_rfl, fun w' hC => by clear hC; go_simp⟩) ?_
            simp only [Act.put, List.setIfInBounds_toArray, List.set_cons_succ, List.set_cons_zero]
            refine wpAnyE_ready (rs := [9]) (by kernel_rfl) (by simp) ?_
            refine AllE.cons rfl (fun Kk hK => ?_) AllE.nil
            go_simp
            refine hK _ _ (.inr (hC3)) ?_
            clear hK Kk
            refine wpAnyE_ready (rs := [10]) (by kernel_rfl) (by simp) ?_
            refine AllE.cons rfl (fun Kk hK => ?_) AllE.nil
            go_simp
            refine hK _ _ (.inr (hC3)) ?_
            clear hK Kk
            refine wpAnyE_ready (rs := [11]) (by kernel_rfl) (by simp) ?_
            refine AllE.cons rfl (fun Kk hK => ?_) AllE.nil
            go_simp
            refine hK _ _ (.inr ((hC3.setCell hC1.size _).setCell hC1.size _)) ?_
            clear hK Kk
            refine wpAnyE_done (by kernel_rfl) ⟨rfl, ?_⟩ _
            have hf : H ((x2.setCell ⟨x1.heap.size, 0, none⟩ (.int .i64 (newE bnd l (fid, fat, fps, fbs, fen)).1)).setCell ⟨x1.heap.size, 1, none⟩ (.int .i64 (newE bnd l (fid, fat, fps, fbs, fen)).2)) (x1.heap.size) g2 gv mv := by
              rw [hH]
              exact ⟨(hC3.setCell hC1.size _).setCell hC1.size _, spotLd hs9 _ _, (hnq.kept (grown_setCell x2 x1.heap.size 0 _) (by simp)).kept2 (grown_setCell _ x1.heap.size 1 _) (by simp) hC2.size⟩
            generalize World.setCell _ _ _ = X at hf ⊢
            generalize x1.heap.size = b9 at hf ⊢
            exact key _ _ _ _ _ hf
        · skip
          go_simp
          have hC2 := hC0.alloc hC0.size (.cells #[.int .i64 0, .int .i64 0] 33)
          refine hK _ _ (.inr hC2) ?_
          clear hK Kk
          have hk9 : (W6.drew.alloc (.cells #[.int .i64 0, .int .i64 0] 33)).heap[W6.heap.size]? = some (.cells #[.int .i64 0, .int .i64 0] 33 (0, 0)) := allocNew W6.drew (.cells #[.int .i64 0, .int .i64 0] 33) rfl
          refine wpAnyE_ready (rs := [1]) (by kernel_rfl) (by simp) ?_
          refine AllE.cons rfl (fun Kk hK => ?_) AllE.nil
          go_simp
          refine ⟨trivial, rfl, (callsIn_wide.2 (HCP.out _ (HWT.out.trans (hC2.mono HWT.out.size)))).mono ?_⟩
          rintro e x1 ⟨g2, rfl, hg2, hV2, hb2⟩
          dsimp only
          have hC1 := hC2.trans (hb2.mono hC2.size)
          refine hK _ _ (.inr hC1) ?_
          clear hK Kk
          have hk8 := (hb2.block _ (Array.getElem?_eq_some_iff.1 hk9).1).trans hk9
          refine wpAnyE_ready (rs := [3]) (by kernel_rfl) (by simp) ?_
          refine AllE.cons rfl (fun Kk hK => ?_) AllE.nil
          go_simp
          refine ⟨trivial, rfl, (callsIn_wide.2 (HNW.out _ _ hV2 _ _ (HFN6.out.below hC1))).mono ?_⟩
          rintro e x2 ⟨hb3, gv, mv, rfl, hnq⟩
          have hnq : NqV (newE bnd l (fid, fat, fps, fbs, fen)).1 (newE bnd l (fid, fat, fps, fbs, fen)).2 ((newN l (fid, fat, fps, fbs, fen)).map onceF) (newM l (fid, fat, fps, fbs, fen)) x2 _ gv mv := hnq
          dsimp only
          have hC3 := hC1.trans (hb3.mono hC1.size)
          refine hK _ _ (.inr hC3) ?_
          clear hK Kk
          have hs9 := (hb3.block _ (Array.getElem?_eq_some_iff.1 hk8).1).trans hk8
          have hz9 := twoF hs9
          have v0 := hz9.1; have v1 := hz9.2.1; have y0 := (one_block hs9).1 0; have y1 := (one_block hs9).1 1
          have hw1 : W6.heap.size < x1.heap.size := Nat.lt_of_lt_of_le (Array.getElem?_eq_some_iff.1 hk9).1 hb2.size
          refine wpAnyE_takeD (i := 4) (some 34) (v := (.tuple #[gv, mv, .agg #[.int .i64 (newE bnd l (fid, fat, fps, fbs, fen)).1, .int .i64 (newE bnd l (fid, fat, fps, fbs, fen)).2]])) (fun _ => trivial) (by kernel_rfl) rfl rfl (by kernel_rfl) (by kernel_rfl) (by kernel_rfl) (by kernel_rfl) (fun _ _ _ h => by cases h.1) hC3 (Or.inl ⟨by kernel_rfl, fun w' hC => by clear hC; go_simp⟩) ?_
          simp only [Act.put, List.setIfInBounds_toArray, List.set_cons_succ, List.set_cons_zero]
          refine wpAnyE_takeD (i := 5) (some 39) (v := gv) (fun _ => trivial) (by kernel_rfl) rfl rfl (by kernel_rfl) (by kernel_rfl) (by kernel_rfl) (by kernel_rfl) (fun _ _ _ h => by cases h.1) hC3 (Or.inl ⟨by kernel_rfl, fun w' hC => by clear hC; go_simp⟩) ?_
          simp only [Act.put, List.setIfInBounds_toArray, List.set_cons_succ, List.set_cons_zero]
          refine wpAnyE_takeD (i := 6) (some 40) (v := mv) (fun _ => trivial) (by kernel_rfl) rfl rfl (by kernel_rfl) (by kernel_rfl) (by kernel_rfl) (by kernel_rfl) (fun _ _ _ h => by cases h.1) hC3 (Or.inl ⟨by kernel_rfl, fun w' hC => by clear hC; go_simp⟩) ?_
          simp only [Act.put, List.setIfInBounds_toArray, List.set_cons_succ, List.set_cons_zero]
          refine wpAnyE_takeD (i := 7) (some 41) (v := (.agg #[.int .i64 (newE bnd l (fid, fat, fps, fbs, fen)).1, .int .i64 (newE bnd l (fid, fat, fps, fbs, fen)).2])) (fun _ => trivial) (by kernel_rfl) rfl rfl (by kernel_rfl) (by kernel_rfl) (by kernel_rfl) (by kernel_rfl) (fun _ _ _ h => by cases h.1) hC3 (Or.inl ⟨by kernel_rfl, fun w' hC => by clear hC; go_simp⟩) ?_
          simp only [Act.put, List.setIfInBounds_toArray, List.set_cons_succ, List.set_cons_zero]
          refine wpAnyE_ready (rs := [9]) (by kernel_rfl) (by simp) ?_
          refine AllE.cons rfl (fun Kk hK => ?_) AllE.nil
          go_simp
          refine hK _ _ (.inr (hC3)) ?_
          clear hK Kk
          refine wpAnyE_ready (rs := [10]) (by kernel_rfl) (by simp) ?_
          refine AllE.cons rfl (fun Kk hK => ?_) AllE.nil
          go_simp
          refine hK _ _ (.inr (hC3)) ?_
          clear hK Kk
          refine wpAnyE_ready (rs := [11]) (by kernel_rfl) (by simp) ?_
          refine AllE.cons rfl (fun Kk hK => ?_) AllE.nil
          go_simp
          refine hK _ _ (.inr ((hC3.setCell (p := ⟨W6.heap.size, 0, none⟩) (Nat.le_refl _) _).setCell (p := ⟨W6.heap.size, 1, none⟩) (Nat.le_refl _) _)) ?_
          clear hK Kk
          refine wpAnyE_done (by kernel_rfl) ⟨rfl, ?_⟩ _
          have hf : H ((x2.setCell ⟨W6.heap.size, 0, none⟩ (.int .i64 (newE bnd l (fid, fat, fps, fbs, fen)).1)).setCell ⟨W6.heap.size, 1, none⟩ (.int .i64 (newE bnd l (fid, fat, fps, fbs, fen)).2)) (W6.heap.size) g2 gv mv := by
            rw [hH]
            exact ⟨(hC3.setCell (p := ⟨W6.heap.size, 0, none⟩) (Nat.le_refl _) _).setCell (p := ⟨W6.heap.size, 1, none⟩) (Nat.le_refl _) _, spotLd hs9 _ _, (hnq.kept (grown_setCell x2 W6.heap.size 0 _) hw1).kept2 (grown_setCell _ W6.heap.size 1 _) hw1 hC1.size⟩
          generalize World.setCell _ _ _ = X at hf ⊢
          generalize W6.heap.size = b9 at hf ⊢
          exact key _ _ _ _ _ hf
      case h2 =>
        rintro X b9 g2 gv mv hf
        rw [hH] at hf
        obtain ⟨hXB, hX9, hNQ⟩ := hf
        clear hH
        rw [then_normalLd]
        have HE := hide (newE_ids (b := bnd) (l := l) (f := (fid, fat, fps, fbs, fen)))
        have HBO := hide (fun h0 h1 => blk_ok (b := bnd) h0 HMEM.out h1)
        generalize (newE bnd l (fid, fat, fps, fbs, fen)).1 = N1 at *
        generalize (newE bnd l (fid, fat, fps, fbs, fen)).2 = N2 at *
        have z0 := (one_block hX9).1 0
        have HXB := hide hXB
        have HX9 := hide hX9
        have HMF2 : Hid (mf ≤ 1048576) := by have := HMF.out; show mf ≤ _; omega
        clear hXB hX9 hC0 hmix
        rcases hNQ with ⟨hne, rfl, rfl⟩ | ⟨h1, h2, p, rfl, hG, hM⟩
        · have hb0 : (N1 == 0) = false := by simpa using hne
          have hbn : (N1 != 0) = true := by simpa using hne
          have hwj := wrapJ HLT.out HMF2.out
          clear hne
          go_wp2_with fail
          exact ⟨⟨j + 1, HLT.out, by rw [hwj]; simp, HW6.out.trans (HXB.out.mono HW6.out.size)⟩, by rw [hwj]; exact measZ2 HLT.out⟩
        · have hBO := HBO.out (HE.out h1) h1
          subst h1; subst h2
          obtain ⟨B1, B2, B3, B4, B5, B6⟩ := hBO
          simp only at B1 B2 B3 B4 B5 B6
          generalize (newN l (fid, fat, fps, fbs, fen)).map onceF = NN at *
          generalize newM l (fid, fat, fps, fbs, fen) = MM at *
          have hpos : 0 < MM.length := by rw [B2, ← B1]; exact hG.some_
          obtain ⟨gm, cm, rfl, hgm, hmr⟩ := mgRead hM hpos
          rw [B2] at hmr ⊢
          have HB1 := hide B1
          have HB3 := hide B3
          have HB4 := hide B4
          have HB5 := hide B5
          have HB6 := hide B6
          have HGV := hide hG
          have HGM := hide hgm
          have HMR := hide hmr
          have HKF9 := hide ((HXB.out.block _ (Array.getElem?_eq_some_iff.1 HKF6.out).1).trans HKF6.out)
          have HKM9 := hide ((HXB.out.block _ (Array.getElem?_eq_some_iff.1 HKM6.out).1).trans HKM6.out)
          have HBQ9 := hide (HBQ6.out.below HXB.out)
          have HFN9 := hide (HFN6.out.below HXB.out)
          have HFW9 := hide HFN9.out.few.2
          have HWX := hide (HWT.out.trans (HXB.out.mono HWT.out.size))
          clear hG hM hgm hmr hpos B1 B2 B3 B4 B5 B6 HBO HE HX9 HBQ6 HFN6 HKF6 HKM6
          generalize hnb : fbs.length = nb at *
          have HNB := hide hnb
          clear hnb
          go_wp2_with fail
          have LC : Hid (∀ w' : World, Below X.heap.size X w' → w'.cell? ⟨wo.heap.size, 3, none⟩ = some (.slice xq nb cq)) := fun w' h => (fiveCells ((h.block _ (Array.getElem?_eq_some_iff.1 HKF9.out).1).trans HKF9.out)).2.2.2.1
          have hC0 : Below X.heap.size X X.drew := below_drew X
          have HLE := hide (fun (wx : World) (h : Below X.heap.size X wx) => graphLen_any wx _ p NN (HGV.out.below h))
          rw [HB1.out] at HLE
          have HAH := hide (fun (wx : World) (h : Below X.heap.size X wx) => graphAhead_any 0 wx _ p NN (HGV.out.below h))
          rw [HB3.out] at HAH
          have hmix : Tryz.prog.follows .mixedOrders = true := by kernel_rfl
          refine (wpIn_wide (n := 0)).1 ?_
          refine wpIn_normal (wpIn_region_any hmix (wpAnyE_sound (C := Below X.heap.size X) (E := fun _ => false) _ _ _ _ ?_))
          change wpAnyE _ _ _ _ _ _ _ _ _ _ _ (World.drew _)
          refine wpAnyE_takeD (i := 0) (some 52) (v := (.pointer (some ⟨p, 0, none⟩))) (fun _ => trivial) (by kernel_rfl) rfl rfl (by kernel_rfl) (by kernel_rfl) (by kernel_rfl) (by kernel_rfl) (fun _ _ _ h => by cases h.1) hC0 (Or.inl ⟨by kernel_rfl, fun w' hC => by have e1 := LC.out w' hC; clear hC; go_simp⟩) ?_
          simp only [Act.put, List.setIfInBounds_toArray, List.set_cons_succ, List.set_cons_zero]
          refine wpAnyE_takeD (i := 2) (some 54) (v := (.pointer (some ⟨wo.heap.size, 3, none⟩))) (fun _ => trivial) (by kernel_rfl) rfl rfl (by kernel_rfl) (by kernel_rfl) (by kernel_rfl) (by kernel_rfl) (fun _ _ _ h => by cases h.1) hC0 (Or.inl ⟨by kernel_rfl, fun w' hC => by have e1 := LC.out w' hC; clear hC; go_simp⟩) ?_
          simp only [Act.put, List.setIfInBounds_toArray, List.set_cons_succ, List.set_cons_zero]
          refine wpAnyE_takeD (i := 3) (some 55) (v := (.slice xq nb cq)) (fun _ => trivial) (by kernel_rfl) rfl rfl (by kernel_rfl) (by kernel_rfl) (by kernel_rfl) (by kernel_rfl) (fun _ _ _ h => by cases h.1) hC0 (Or.inl ⟨by kernel_rfl, fun w' hC => by have e1 := LC.out w' hC; clear hC; go_simp⟩) ?_
          simp only [Act.put, List.setIfInBounds_toArray, List.set_cons_succ, List.set_cons_zero]
          refine wpAnyE_takeD (i := 4) (some 56) (v := (.int .i64 (nb : Int))) (fun _ => trivial) (by kernel_rfl) rfl rfl (by kernel_rfl) (by kernel_rfl) (by kernel_rfl) (by kernel_rfl) (fun _ _ _ h => by cases h.1) hC0 (Or.inl ⟨by kernel_rfl, fun w' hC => by have e1 := LC.out w' hC; clear hC; go_simp⟩) ?_
          simp only [Act.put, List.setIfInBounds_toArray, List.set_cons_succ, List.set_cons_zero]
          refine wpAnyE_ready (rs := [1]) (by kernel_rfl) (by simp) ?_
          refine AllE.cons rfl (fun Kk hK => ?_) AllE.nil
          go_simp
          refine ⟨trivial, rfl, (callsIn_wide.2 (HLE.out _ hC0)).mono ?_⟩
          rintro e x1 ⟨rfl, rfl⟩
          dsimp only
          refine hK _ _ (.inr hC0) ?_
          clear hK Kk HLE
          try simp only [Act.put, List.setIfInBounds_toArray, List.set_cons_succ, List.set_cons_zero]
          refine wpAnyE_takeD (i := 5) (some 57) (v := (.bool false)) (fun _ => trivial) (by kernel_rfl) rfl rfl (by kernel_rfl) (by kernel_rfl) (by kernel_rfl) (by kernel_rfl) (fun _ _ _ h => by cases h.1) hC0 (Or.inl ⟨by kernel_rfl, fun w' hC => by have e1 := LC.out w' hC; clear hC; go_simp⟩) ?_
          simp only [Act.put, List.setIfInBounds_toArray, List.set_cons_succ, List.set_cons_zero]
          refine wpAnyE_takeD (i := 6) (some 58) (v := (.bool false)) (fun _ => trivial) (by kernel_rfl) rfl rfl (by kernel_rfl) (by kernel_rfl) (by kernel_rfl) (by kernel_rfl) (fun _ _ _ h => by cases h.1) hC0 (Or.inl ⟨by kernel_rfl, fun w' hC => by have e1 := LC.out w' hC; clear hC; go_simp⟩) ?_
          simp only [Act.put, List.setIfInBounds_toArray, List.set_cons_succ, List.set_cons_zero]
          refine wpAnyE_takeD (i := 7) (some 59) (v := (.slice (some ⟨gm, 0, none⟩) nb cm)) (fun _ => trivial) (by kernel_rfl) rfl rfl (by kernel_rfl) (by kernel_rfl) (by kernel_rfl) (by kernel_rfl) (fun _ _ _ h => by cases h.1) hC0 (Or.inl ⟨by kernel_rfl, fun w' hC => by have e1 := LC.out w' hC; clear hC; go_simp⟩) ?_
          simp only [Act.put, List.setIfInBounds_toArray, List.set_cons_succ, List.set_cons_zero]
          refine wpAnyE_takeD (i := 8) (some 60) (v := (.int .i64 (nb : Int))) (fun _ => trivial) (by kernel_rfl) rfl rfl (by kernel_rfl) (by kernel_rfl) (by kernel_rfl) (by kernel_rfl) (fun _ _ _ h => by cases h.1) hC0 (Or.inl ⟨by kernel_rfl, fun w' hC => by have e1 := LC.out w' hC; clear hC; go_simp⟩) ?_
          simp only [Act.put, List.setIfInBounds_toArray, List.set_cons_succ, List.set_cons_zero]
          refine wpAnyE_takeD (i := 9) (some 61) (v := (.pointer (some ⟨wo.heap.size, 3, none⟩))) (fun _ => trivial) (by kernel_rfl) rfl rfl (by kernel_rfl) (by kernel_rfl) (by kernel_rfl) (by kernel_rfl) (fun _ _ _ h => by cases h.1) hC0 (Or.inl ⟨by kernel_rfl, fun w' hC => by have e1 := LC.out w' hC; clear hC; go_simp⟩) ?_
          simp only [Act.put, List.setIfInBounds_toArray, List.set_cons_succ, List.set_cons_zero]
          refine wpAnyE_takeD (i := 10) (some 62) (v := (.slice xq nb cq)) (fun _ => trivial) (by kernel_rfl) rfl rfl (by kernel_rfl) (by kernel_rfl) (by kernel_rfl) (by kernel_rfl) (fun _ _ _ h => by cases h.1) hC0 (Or.inl ⟨by kernel_rfl, fun w' hC => by have e1 := LC.out w' hC; clear hC; go_simp⟩) ?_
          simp only [Act.put, List.setIfInBounds_toArray, List.set_cons_succ, List.set_cons_zero]
          refine wpAnyE_takeD (i := 11) (some 63) (v := (.int .i64 (nb : Int))) (fun _ => trivial) (by kernel_rfl) rfl rfl (by kernel_rfl) (by kernel_rfl) (by kernel_rfl) (by kernel_rfl) (fun _ _ _ h => by cases h.1) hC0 (Or.inl ⟨by kernel_rfl, fun w' hC => by have e1 := LC.out w' hC; clear hC; go_simp⟩) ?_
          simp only [Act.put, List.setIfInBounds_toArray, List.set_cons_succ, List.set_cons_zero]
          refine wpAnyE_takeD (i := 12) (some 64) (v := (.bool false)) (fun _ => trivial) (by kernel_rfl) rfl rfl (by kernel_rfl) (by kernel_rfl) (by kernel_rfl) (by kernel_rfl) (fun _ _ _ h => by cases h.1) hC0 (Or.inl ⟨by kernel_rfl, fun w' hC => by have e1 := LC.out w' hC; clear hC; go_simp⟩) ?_
          simp only [Act.put, List.setIfInBounds_toArray, List.set_cons_succ, List.set_cons_zero]
          refine wpAnyE_takeD (i := 13) (some 65) (v := (.bool false)) (fun _ => trivial) (by kernel_rfl) rfl rfl (by kernel_rfl) (by kernel_rfl) (by kernel_rfl) (by kernel_rfl) (fun _ _ _ h => by cases h.1) hC0 (Or.inl ⟨by kernel_rfl, fun w' hC => by have e1 := LC.out w' hC; clear hC; go_simp⟩) ?_
          simp only [Act.put, List.setIfInBounds_toArray, List.set_cons_succ, List.set_cons_zero]
          refine wpAnyE_takeD (i := 14) (some 66) (v := (.bool false)) (fun _ => trivial) (by kernel_rfl) rfl rfl (by kernel_rfl) (by kernel_rfl) (by kernel_rfl) (by kernel_rfl) (fun _ _ _ h => by cases h.1) hC0 (Or.inl ⟨by kernel_rfl, fun w' hC => by have e1 := LC.out w' hC; clear hC; go_simp⟩) ?_
          simp only [Act.put, List.setIfInBounds_toArray, List.set_cons_succ, List.set_cons_zero]
          refine wpAnyE_takeD (i := 15) (some 67) (v := (.pointer (some ⟨p, 0, none⟩))) (fun _ => trivial) (by kernel_rfl) rfl rfl (by kernel_rfl) (by kernel_rfl) (by kernel_rfl) (by kernel_rfl) (fun _ _ _ h => by cases h.1) hC0 (Or.inl ⟨by kernel_rfl, fun w' hC => by have e1 := LC.out w' hC; clear hC; go_simp⟩) ?_
          simp only [Act.put, List.setIfInBounds_toArray, List.set_cons_succ, List.set_cons_zero]
          refine wpAnyE_ready (rs := [16]) (by kernel_rfl) (by simp) ?_
          refine AllE.cons rfl (fun Kk hK => ?_) AllE.nil
          go_simp
          refine ⟨trivial, rfl, (callsIn_wide.2 (HAH.out _ hC0)).mono ?_⟩
          rintro e x2 ⟨av, rfl, hav, hba⟩
          dsimp only
          have hC2 := hC0.trans (hba.mono hC0.size)
          obtain ⟨aa, ca, rfl⟩ : ∃ aa ca, av = .slice aa 0 ca := own_shapeG hav
          refine hK _ _ (.inr hC2) ?_
          clear hK Kk hav hba
          try simp only [Act.put, List.setIfInBounds_toArray, List.set_cons_succ, List.set_cons_zero]
          refine wpAnyE_takeD (i := 17) (some 69) (v := (.int .i64 0)) (fun _ => trivial) (by kernel_rfl) rfl rfl (by kernel_rfl) (by kernel_rfl) (by kernel_rfl) (by kernel_rfl) (fun _ _ _ h => by cases h.1) hC2 (Or.inl ⟨by kernel_rfl, fun w' hC => by have e1 := LC.out w' hC; clear hC; go_simp⟩) ?_
          simp only [Act.put, List.setIfInBounds_toArray, List.set_cons_succ, List.set_cons_zero]
          refine wpAnyE_takeD (i := 18) (some 70) (v := (.bool false)) (fun _ => trivial) (by kernel_rfl) rfl rfl (by kernel_rfl) (by kernel_rfl) (by kernel_rfl) (by kernel_rfl) (fun _ _ _ h => by cases h.1) hC2 (Or.inl ⟨by kernel_rfl, fun w' hC => by have e1 := LC.out w' hC; clear hC; go_simp⟩) ?_
          simp only [Act.put, List.setIfInBounds_toArray, List.set_cons_succ, List.set_cons_zero]
          refine wpAnyE_takeD (i := 19) (some 71) (v := (.bool false)) (fun _ => trivial) (by kernel_rfl) rfl rfl (by kernel_rfl) (by kernel_rfl) (by kernel_rfl) (by kernel_rfl) (fun _ _ _ h => by cases h.1) hC2 (Or.inl ⟨by kernel_rfl, fun w' hC => by have e1 := LC.out w' hC; clear hC; go_simp⟩) ?_
          simp only [Act.put, List.setIfInBounds_toArray, List.set_cons_succ, List.set_cons_zero]
          refine wpAnyE_done (by kernel_rfl) ⟨rfl, ?_⟩ _
          rw [then_normalLd]
          have HC2 := hide hC2
          clear hC0 hC2 LC HAH hmix
          go_wp2_with fail
          have HQ0 := hide (Nat.zero_le nb)
          go_loopw [10] (fun i wz => ∃ k : Nat, k ≤ nb ∧ i = .int .i64 k ∧ Below x2.heap.size x2 wz) (fun i _ => nb - (intOf i).toNat)
          case atStart => exact ⟨0, Nat.zero_le _, rfl, Below.refl _ _⟩
          case round =>
            obtain ⟨k, hk, rfl, hbz⟩ := hrel
            generalize hwz : wr = wz at *
            clear hwz
            have hXz := HC2.out.trans (hbz.mono HC2.out.size)
            have HXZ := hide hXz
            have HBZ := hide hbz
            have c3 := (fiveCells ((hXz.block _ (Array.getElem?_eq_some_iff.1 HKF9.out).1).trans HKF9.out)).2.2.2.1
            clear hbz
            by_cases hlk : k < nb
            · have HLK := hide hlk
              have hki : (k : Int) < (nb : Int) := by omega
              have hk0 : (0 : Int) ≤ (k : Int) := by omega
              obtain ⟨G, o, rfl, hG, p1, p2, p3⟩ := (HBQ9.out.below hXz) k (by rw [HNB.out]; exact hlk)
              have hto := (lead_prem HLAY.out HOK.out HMEM.out).2.2.2 k (by show k < fbs.length; rw [HNB.out]; exact hlk)
              simp only at hto
              have hB4 := HB4.out k hlk
              have hB5 := HB5.out k hlk
              have hB6 := HB6.out k hlk
              clear hk hXz c3 p1 p2
              generalize (nthB fbs k).2.2 = To at *
              obtain ⟨m, rfl⟩ : ∃ m : Nat, To = (m : Int) + 1 := ⟨(To - 1).toNat, by have := hto.2.2.1; omega⟩
              have hmn : m < n := by have := hto.2.2.2; rw [HL.out] at this; omega
              have hm1 := toN1 m
              rw [hm1] at hB4 hB5
              obtain ⟨gi, oi, ai, ci, ni, rfl, hgi, r1, r2, r3, r4, r5, r6, r7⟩ := (HV.out.below (HWX.out.trans (HXZ.out.mono HWX.out.size))) m (by rw [HL.out]; exact hmn)
              have hio := HOK.out m (by rw [HL.out]; exact hmn)
              have htf := tgL_facts (nthI l m) hio.2.2.2.2.2.2.1
              have h8 := eightLe htf.1 r5 hio.2.2.2.2.2.2.2
              have HT8 := hide h8.1
              have HTR := hide htf.2
              have HTG := hide (fun (wx : World) (h : Below wz.heap.size wz wx) => graphTargets_any (nthI l m) ai ni ci wx (r6.below h) r5 h8.2)
              have HWM := hide (wrapL0 (m := m) (w64c hmn HN.out))
              have hkm := (HXZ.out.block _ (Array.getElem?_eq_some_iff.1 HKM9.out).1).trans HKM9.out
              have hkf := (HXZ.out.block _ (Array.getElem?_eq_some_iff.1 HKF9.out).1).trans HKF9.out
              have LC : Hid (∀ w' : World, Below wz.heap.size wz w' → w'.cell? ⟨w.heap.size, 2, none⟩ = some (.slice (some ⟨gi, oi, none⟩) n c) ∧ w'.cell? ⟨wo.heap.size, 3, none⟩ = some (.slice (some ⟨G, o, none⟩) nb cq) ∧ w'.cell? ⟨G, o + k * 3 + 2, none⟩ = some (.int .i64 ((m : Int) + 1)) ∧ w'.cell? ⟨gi, oi + m * 4, none⟩ = some (.int .u16 (nthI l m).1) ∧ w'.cell? ⟨gi, oi + m * 4 + 1, none⟩ = some (.int .u32 (nthI l m).2.1) ∧ w'.cell? ⟨gi, oi + m * 4 + 2, none⟩ = some (.int .u32 (nthI l m).2.2.1) ∧ w'.cell? ⟨gi, oi + m * 4 + 3, none⟩ = some (.slice ai ni ci)) := fun w' h =>
                ⟨(one_block ((h.block _ (Array.getElem?_eq_some_iff.1 hkm).1).trans hkm)).1 2, (fiveCells ((h.block _ (Array.getElem?_eq_some_iff.1 hkf).1).trans hkf)).2.2.2.1, (h.cell (p := ⟨G, o + k * 3 + 2, none⟩) hG).trans p3, (h.cell (p := ⟨gi, oi + m * 4, none⟩) hgi).trans r1, (h.cell (p := ⟨gi, oi + m * 4 + 1, none⟩) hgi).trans r2, (h.cell (p := ⟨gi, oi + m * 4 + 2, none⟩) hgi).trans r3, (h.cell (p := ⟨gi, oi + m * 4 + 3, none⟩) hgi).trans r4⟩
              have hmi : (m : Int) < (n : Int) := by omega
              have hm0 : (0 : Int) ≤ (m : Int) := by omega
              have hfk := (fiveCells hkf).2.2.2.1
              have w4 := w64a hmn HN.out
              have w5 := w64b hmn HN.out
              clear r1 r2 r3 r4 r5 r6 r7 p3 htf h8 hio hm1 hto hkm hkf hmn
              generalize hTL : tgL (nthI l m) = T at *
              clear hTL
              go_wp2_with fail
              have hC0 : Below wz.heap.size wz wz.drew := below_drew wz
              have hmix : Tryz.prog.follows .mixedOrders = true := by kernel_rfl
              refine (wpIn_wide (n := 0)).1 ?_
              refine wpIn_normal (wpIn_region_any hmix (wpAnyE_sound (C := Below wz.heap.size wz) (E := fun _ => false) _ _ _ _ ?_))
              change wpAnyE _ _ _ _ _ _ _ _ _ _ _ (World.drew _)
              refine wpAnyE_takeD (i := 0) (some 79) (v := (.pointer (some ⟨w.heap.size, 2, none⟩))) (fun _ => trivial) (by kernel_rfl) rfl rfl (by kernel_rfl) (by kernel_rfl) (by kernel_rfl) (by kernel_rfl) (fun _ _ _ h => by cases h.1) hC0 (Or.inl ⟨by kernel_rfl, fun w' hC => by obtain ⟨e1, e2, e3, e4, e5, e6, e7⟩ := LC.out w' hC; clear hC; go_simp⟩) ?_
              simp only [Act.put, List.setIfInBounds_toArray, List.set_cons_succ, List.set_cons_zero]
              refine wpAnyE_takeD (i := 1) (some 80) (v := (.slice (some ⟨gi, oi, none⟩) n c)) (fun _ => trivial) (by kernel_rfl) rfl rfl (by kernel_rfl) (by kernel_rfl) (by kernel_rfl) (by kernel_rfl) (fun _ _ _ h => by cases h.1) hC0 (Or.inl ⟨by kernel_rfl, fun w' hC => by obtain ⟨e1, e2, e3, e4, e5, e6, e7⟩ := LC.out w' hC; clear hC; go_simp⟩) ?_
              simp only [Act.put, List.setIfInBounds_toArray, List.set_cons_succ, List.set_cons_zero]
              refine wpAnyE_takeD (i := 2) (some 81) (v := (.pointer (some ⟨wo.heap.size, 3, none⟩))) (fun _ => trivial) (by kernel_rfl) rfl rfl (by kernel_rfl) (by kernel_rfl) (by kernel_rfl) (by kernel_rfl) (fun _ _ _ h => by cases h.1) hC0 (Or.inl ⟨by kernel_rfl, fun w' hC => by obtain ⟨e1, e2, e3, e4, e5, e6, e7⟩ := LC.out w' hC; clear hC; go_simp⟩) ?_
              simp only [Act.put, List.setIfInBounds_toArray, List.set_cons_succ, List.set_cons_zero]
              refine wpAnyE_takeD (i := 3) (some 82) (v := (.slice (some ⟨G, o, none⟩) nb cq)) (fun _ => trivial) (by kernel_rfl) rfl rfl (by kernel_rfl) (by kernel_rfl) (by kernel_rfl) (by kernel_rfl) (fun _ _ _ h => by cases h.1) hC0 (Or.inl ⟨by kernel_rfl, fun w' hC => by obtain ⟨e1, e2, e3, e4, e5, e6, e7⟩ := LC.out w' hC; clear hC; go_simp⟩) ?_
              simp only [Act.put, List.setIfInBounds_toArray, List.set_cons_succ, List.set_cons_zero]
              refine wpAnyE_takeD (i := 4) (some 83) (v := (.int .i64 (k : Int))) (fun _ => trivial) (by kernel_rfl) rfl rfl (by kernel_rfl) (by kernel_rfl) (by kernel_rfl) (by kernel_rfl) (fun _ _ _ h => by cases h.1) hC0 (Or.inl ⟨by kernel_rfl, fun w' hC => by obtain ⟨e1, e2, e3, e4, e5, e6, e7⟩ := LC.out w' hC; clear hC; go_simp⟩) ?_
              simp only [Act.put, List.setIfInBounds_toArray, List.set_cons_succ, List.set_cons_zero]
              refine wpAnyE_takeD (i := 5) (some 84) (v := (.pointer (some ⟨G, o + k * 3, none⟩))) (fun _ => trivial) (by kernel_rfl) rfl rfl (by kernel_rfl) (by kernel_rfl) (by kernel_rfl) (by kernel_rfl) (fun _ _ _ h => by cases h.1) hC0 (Or.inl ⟨by kernel_rfl, fun w' hC => by obtain ⟨e1, e2, e3, e4, e5, e6, e7⟩ := LC.out w' hC; clear hC; go_simp⟩) ?_
              simp only [Act.put, List.setIfInBounds_toArray, List.set_cons_succ, List.set_cons_zero]
              refine wpAnyE_takeD (i := 6) (some 85) (v := (.pointer (some ⟨G, o + k * 3 + 2, none⟩))) (fun _ => trivial) (by kernel_rfl) rfl rfl (by kernel_rfl) (by kernel_rfl) (by kernel_rfl) (by kernel_rfl) (fun _ _ _ h => by cases h.1) hC0 (Or.inl ⟨by kernel_rfl, fun w' hC => by obtain ⟨e1, e2, e3, e4, e5, e6, e7⟩ := LC.out w' hC; clear hC; go_simp⟩) ?_
              simp only [Act.put, List.setIfInBounds_toArray, List.set_cons_succ, List.set_cons_zero]
              refine wpAnyE_takeD (i := 7) (some 86) (v := (.int .i64 ((m : Int) + 1))) (fun _ => trivial) (by kernel_rfl) rfl rfl (by kernel_rfl) (by kernel_rfl) (by kernel_rfl) (by kernel_rfl) (fun _ _ _ h => by cases h.1) hC0 (Or.inl ⟨by kernel_rfl, fun w' hC => by obtain ⟨e1, e2, e3, e4, e5, e6, e7⟩ := LC.out w' hC; clear hC; go_simp⟩) ?_
              simp only [Act.put, List.setIfInBounds_toArray, List.set_cons_succ, List.set_cons_zero]
              refine wpAnyE_takeD (i := 8) (some 87) (v := (.int .i64 (m : Int))) (fun _ => trivial) (by kernel_rfl) rfl rfl (by kernel_rfl) (by kernel_rfl) (by kernel_rfl) (by kernel_rfl) (fun _ _ _ h => by cases h.1) hC0 (Or.inl ⟨by kernel_rfl, fun w' hC => by obtain ⟨e1, e2, e3, e4, e5, e6, e7⟩ := LC.out w' hC; clear hC; go_simp; exact HWM.out⟩) ?_
              simp only [Act.put, List.setIfInBounds_toArray, List.set_cons_succ, List.set_cons_zero]
              refine wpAnyE_takeD (i := 9) (some 88) (v := (.pointer (some ⟨gi, oi + m * 4, none⟩))) (fun _ => trivial) (by kernel_rfl) rfl rfl (by kernel_rfl) (by kernel_rfl) (by kernel_rfl) (by kernel_rfl) (fun _ _ _ h => by cases h.1) hC0 (Or.inl ⟨by kernel_rfl, fun w' hC => by obtain ⟨e1, e2, e3, e4, e5, e6, e7⟩ := LC.out w' hC; clear hC; go_simp⟩) ?_
              simp only [Act.put, List.setIfInBounds_toArray, List.set_cons_succ, List.set_cons_zero]
              refine wpAnyE_takeD (i := 10) (some 89) (v := (.agg #[.int .u16 (nthI l m).1, .int .u32 (nthI l m).2.1, .int .u32 (nthI l m).2.2.1, .slice ai ni ci])) (fun _ => trivial) (by kernel_rfl) rfl rfl (by kernel_rfl) (by kernel_rfl) (by kernel_rfl) (by kernel_rfl) (fun _ _ _ h => by cases h.1) hC0 (Or.inl ⟨by kernel_rfl, fun w' hC => by obtain ⟨e1, e2, e3, e4, e5, e6, e7⟩ := LC.out w' hC; clear hC; go_simp⟩) ?_
              simp only [Act.put, List.setIfInBounds_toArray, List.set_cons_succ, List.set_cons_zero]
              refine wpAnyE_ready (rs := [11]) (by kernel_rfl) (by simp) ?_
              refine AllE.cons rfl (fun Kk hK => ?_) AllE.nil
              go_simp
              refine ⟨trivial, rfl, (callsIn_wide.2 (HTG.out _ hC0)).mono ?_⟩
              rintro e wt ⟨tv, rfl, htv, hbt⟩
              dsimp only
              have hC2 := hC0.trans (hbt.mono hC0.size)
              obtain ⟨a3, c5, rfl⟩ := own_shapeG htv
              have HTV := hide htv
              refine hK _ _ (.inr hC2) ?_
              clear hK Kk htv hbt HTG LC
              try simp only [Act.put, List.setIfInBounds_toArray, List.set_cons_succ, List.set_cons_zero]
              refine wpAnyE_ready (rs := [12]) (by kernel_rfl) (by simp) ?_
              refine AllE.cons rfl (fun Kk hK => ?_) AllE.nil
              go_simp
              refine hK _ _ (.inr hC2) ?_
              clear hK Kk
              refine wpAnyE_done (by kernel_rfl) ⟨rfl, ?_⟩ _
              rw [then_normalLd]
              have HCT := hide hC2
              have HTN : Hid (T.length ≤ 17592186044416) := by have := HT8.out; show _ ≤ _; omega
              clear hC0 hC2 hmix hmi hm0 w4 w5 hfk hG hgi
              go_wp2_with fail
              have hTN := HTN.out
              go_loopw [12] (fun i wu => ∃ q : Nat, q ≤ T.length ∧ i = .int .i64 q ∧ Below wt.heap.size wt wu) (fun i _ => T.length - (intOf i).toNat)
              case atStart => exact ⟨0, Nat.zero_le _, rfl, Below.refl _ _⟩
              case round =>
                obtain ⟨q, hq, rfl, hbu⟩ := hrel
                generalize hwu : wr = wu at *
                clear hwu
                have hZu := HCT.out.trans (hbu.mono HCT.out.size)
                have hXu := HXZ.out.trans (hZu.mono HXZ.out.size)
                have HXU := hide hXu
                have HBU := hide hbu
                have HX2U := hide (HBZ.out.trans (hZu.mono HBZ.out.size))
                have HNX := hide (fun (wx : World) (h : Below wu.heap.size wu wx) => graphNext_any (k : Int) wx _ p NN (HGV.out.below (HXU.out.trans (h.mono HXU.out.size))))
                generalize hLL : nextL NN (k : Int) = LL at *
                clear hLL
                have HL8 := hide (eightLL hB5 HT8.out)
                have HL5 := hide hB5
                clear hbu hZu hXu
                by_cases hlq : q < T.length
                · have HLQ := hide hlq
                  have hqi : (q : Int) < (T.length : Int) := by omega
                  have hq0 : (0 : Int) ≤ (q : Int) := by omega
                  obtain ⟨b3, o3, rfl, hb3, hy3⟩ := View.ofOwn HTV.out rfl q hlq
                  have hym := nth_memG T q hlq
                  have HY := hide (HTR.out _ hym)
                  have hmy := hB4 _ hym
                  generalize nth T q = y at *
                  have HNM := hide (fun (wx : World) (h : Below wu.heap.size wu wx) => number_any _ (fid, fat, fps, fbs, fen) y wx (HFN9.out.below (HXU.out.trans (h.mono HXU.out.size))))
                  have HMY := hide hmy
                  have hkf := (HXU.out.block _ (Array.getElem?_eq_some_iff.1 HKF9.out).1).trans HKF9.out
                  have hty := (HBU.out.cell (p := ⟨b3, o3 + q, none⟩) hb3).trans hy3
                  have hbb := Nat.lt_of_lt_of_le hb3 HBU.out.size
                  have LC : Hid (∀ w' : World, Below wu.heap.size wu w' → w'.cell? ⟨wo.heap.size, 0, none⟩ = some (.int .u32 fid) ∧ w'.cell? ⟨wo.heap.size, 1, none⟩ = some (.int .i64 fat) ∧ w'.cell? ⟨wo.heap.size, 2, none⟩ = some (.slice xp fps.length cp) ∧ w'.cell? ⟨wo.heap.size, 3, none⟩ = some (.slice (some ⟨G, o, none⟩) nb cq) ∧ w'.cell? ⟨wo.heap.size, 4, none⟩ = some (.int .i64 fen) ∧ w'.cell? ⟨b3, o3 + q, none⟩ = some (.int .u32 y)) := fun w' h => by
                    obtain ⟨f0, f1, f2, f3, f4⟩ := fiveCells ((h.block _ (Array.getElem?_eq_some_iff.1 hkf).1).trans hkf)
                    exact ⟨f0, f1, f2, f3, f4, (h.cell (p := ⟨b3, o3 + q, none⟩) hbb).trans hty⟩
                  clear hq hlq hb3 hy3 hym hmy hkf hty hbb hB4 hB5 hB6
                  go_wp2_with fail
                  have hC0 : Below wu.heap.size wu wu.drew := below_drew wu
                  have hmix : Tryz.prog.follows .mixedOrders = true := by kernel_rfl
                  refine (wpIn_wide (n := 0)).1 ?_
                  refine wpIn_normal (wpIn_region_any hmix (wpAnyE_sound (C := Below wu.heap.size wu) (E := fun _ => false) _ _ _ _ ?_))
                  change wpAnyE _ _ _ _ _ _ _ _ _ _ _ (World.drew _)
                  refine wpAnyE_takeD (i := 0) (some 97) (v := (.pointer (some ⟨p, 0, none⟩))) (fun _ => trivial) (by kernel_rfl) rfl rfl (by kernel_rfl) (by kernel_rfl) (by kernel_rfl) (by kernel_rfl) (fun _ _ _ h => by cases h.1) hC0 (Or.inl ⟨by kernel_rfl, fun w' hC => by obtain ⟨e1, e2, e3, e4, e5, e6⟩ := LC.out w' hC; clear hC; go_simp⟩) ?_
                  simp only [Act.put, List.setIfInBounds_toArray, List.set_cons_succ, List.set_cons_zero]
                  refine wpAnyE_takeD (i := 1) (some 98) (v := (.int .i64 (k : Int))) (fun _ => trivial) (by kernel_rfl) rfl rfl (by kernel_rfl) (by kernel_rfl) (by kernel_rfl) (by kernel_rfl) (fun _ _ _ h => by cases h.1) hC0 (Or.inl ⟨by kernel_rfl, fun w' hC => by obtain ⟨e1, e2, e3, e4, e5, e6⟩ := LC.out w' hC; clear hC; go_simp⟩) ?_
                  simp only [Act.put, List.setIfInBounds_toArray, List.set_cons_succ, List.set_cons_zero]
                  refine wpAnyE_takeD (i := 3) (some 100) (v := (.agg #[.int .u32 fid, .int .i64 fat, .slice xp fps.length cp, .slice (some ⟨G, o, none⟩) nb cq, .int .i64 fen])) (fun _ => trivial) (by kernel_rfl) rfl rfl (by kernel_rfl) (by kernel_rfl) (by kernel_rfl) (by kernel_rfl) (fun _ _ _ h => by cases h.1) hC0 (Or.inl ⟨by kernel_rfl, fun w' hC => by obtain ⟨e1, e2, e3, e4, e5, e6⟩ := LC.out w' hC; clear hC; go_simp⟩) ?_
                  simp only [Act.put, List.setIfInBounds_toArray, List.set_cons_succ, List.set_cons_zero]
                  refine wpAnyE_takeD (i := 4) (some 101) (v := (.slice (some ⟨b3, o3, none⟩) T.length c5)) (fun _ => trivial) (by kernel_rfl) rfl rfl (by kernel_rfl) (by kernel_rfl) (by kernel_rfl) (by kernel_rfl) (fun _ _ _ h => by cases h.1) hC0 (Or.inl ⟨by kernel_rfl, fun w' hC => by obtain ⟨e1, e2, e3, e4, e5, e6⟩ := LC.out w' hC; clear hC; go_simp⟩) ?_
                  simp only [Act.put, List.setIfInBounds_toArray, List.set_cons_succ, List.set_cons_zero]
                  refine wpAnyE_takeD (i := 5) (some 102) (v := (.int .i64 (q : Int))) (fun _ => trivial) (by kernel_rfl) rfl rfl (by kernel_rfl) (by kernel_rfl) (by kernel_rfl) (by kernel_rfl) (fun _ _ _ h => by cases h.1) hC0 (Or.inl ⟨by kernel_rfl, fun w' hC => by obtain ⟨e1, e2, e3, e4, e5, e6⟩ := LC.out w' hC; clear hC; go_simp⟩) ?_
                  simp only [Act.put, List.setIfInBounds_toArray, List.set_cons_succ, List.set_cons_zero]
                  refine wpAnyE_takeD (i := 6) (some 103) (v := (.pointer (some ⟨b3, o3 + q, none⟩))) (fun _ => trivial) (by kernel_rfl) rfl rfl (by kernel_rfl) (by kernel_rfl) (by kernel_rfl) (by kernel_rfl) (fun _ _ _ h => by cases h.1) hC0 (Or.inl ⟨by kernel_rfl, fun w' hC => by obtain ⟨e1, e2, e3, e4, e5, e6⟩ := LC.out w' hC; clear hC; go_simp⟩) ?_
                  simp only [Act.put, List.setIfInBounds_toArray, List.set_cons_succ, List.set_cons_zero]
                  refine wpAnyE_takeD (i := 7) (some 104) (v := (.int .u32 y)) (fun _ => trivial) (by kernel_rfl) rfl rfl (by kernel_rfl) (by kernel_rfl) (by kernel_rfl) (by kernel_rfl) (fun _ _ _ h => by cases h.1) hC0 (Or.inl ⟨by kernel_rfl, fun w' hC => by obtain ⟨e1, e2, e3, e4, e5, e6⟩ := LC.out w' hC; clear hC; go_simp⟩) ?_
                  simp only [Act.put, List.setIfInBounds_toArray, List.set_cons_succ, List.set_cons_zero]
                  refine wpAnyE_ready (rs := [2]) (by kernel_rfl) (by simp) ?_
                  refine AllE.cons rfl (fun Kk hK => ?_) AllE.nil
                  go_simp
                  refine ⟨trivial, rfl, (callsIn_wide.2 (HNX.out _ hC0)).mono ?_⟩
                  rintro e y1 ⟨lv, rfl, hlv, hby⟩
                  dsimp only
                  have hC1 := hC0.trans (hby.mono hC0.size)
                  obtain ⟨a6, c6, rfl⟩ := own_shapeG hlv
                  refine hK _ _ (.inr hC1) ?_
                  clear hK Kk hby
                  try simp only [Act.put, List.setIfInBounds_toArray, List.set_cons_succ, List.set_cons_zero]
                  refine wpAnyE_ready (rs := [8]) (by kernel_rfl) (by simp) ?_
                  refine AllE.cons rfl (fun Kk hK => ?_) AllE.nil
                  go_simp
                  refine ⟨trivial, rfl, (callsIn_wide.2 (HNM.out _ hC1)).mono ?_⟩
                  rintro e y2 ⟨⟨r, rfl, hr⟩, hby⟩
                  dsimp only
                  have hC2 := hC1.trans (hby.mono hC1.size)
                  have hlv2 := own_below hlv hby
                  refine hK _ _ (.inr hC2) ?_
                  clear hK Kk hby
                  try simp only [Act.put, List.setIfInBounds_toArray, List.set_cons_succ, List.set_cons_zero]
                  refine wpAnyE_ready (rs := [9]) (by kernel_rfl) (by simp) ?_
                  refine AllE.cons rfl (fun Kk hK => ?_) AllE.nil
                  go_simp
                  refine ⟨trivial, rfl, (callsIn_wide.2 (among_yes a6 _ c6 LL r y2 (View.ofOwn hlv2 rfl) rfl HL8.out (HMY.out r hr))).mono ?_⟩
                  rintro e y3 ⟨rfl, rfl⟩
                  dsimp only
                  refine hK _ _ (.inr hC2) ?_
                  clear hK Kk
                  try simp only [Act.put, List.setIfInBounds_toArray, List.set_cons_succ, List.set_cons_zero]
                  refine wpAnyE_takeD (i := 10) (some 107) (v := (.bool false)) (fun _ => trivial) (by kernel_rfl) rfl rfl (by kernel_rfl) (by kernel_rfl) (by kernel_rfl) (by kernel_rfl) (fun _ _ _ h => by cases h.1) hC2 (Or.inl ⟨by kernel_rfl, fun w' hC => by obtain ⟨e1, e2, e3, e4, e5, e6⟩ := LC.out w' hC; clear hC; go_simp⟩) ?_
                  simp only [Act.put, List.setIfInBounds_toArray, List.set_cons_succ, List.set_cons_zero]
                  refine wpAnyE_done (by kernel_rfl) ⟨rfl, ?_⟩ _
                  rw [then_normalLd]
                  have HFQ := hide (HBU.out.trans (hC2.mono HBU.out.size))
                  have hwq := wrapQ HLQ.out HTN.out
                  clear hC0 hC1 hC2 hlv hlv2 hr LC hmix
                  go_wp2_with fail
                  exact ⟨⟨q + 1, HLQ.out, by rw [hwq]; simp, HFQ.out⟩, by rw [hwq]; exact measZ2 HLQ.out⟩
                · have e : q = T.length := by omega
                  subst e
                  obtain ⟨mq, mt, mc, hgk, ht0, hc0, hi1, hi2⟩ := hB6
                  obtain ⟨h10, h11, h12⟩ := HMR.out k (by first | exact HLK.out | omega)
                  rw [hgk] at h10 h11 h12
                  simp only at h10 h11 h12
                  have hgu := HGM.out
                  have hgu2 := Nat.lt_of_lt_of_le hgu HXU.out.size
                  have t10 := (HXU.out.cell (p := ⟨gm, k * 3, none⟩) hgu).trans h10
                  have t11 := (HXU.out.cell (p := ⟨gm, k * 3 + 1, none⟩) hgu).trans h11
                  have t12 := (HXU.out.cell (p := ⟨gm, k * 3 + 2, none⟩) hgu).trans h12
                  obtain ⟨bA, hA1, hA2⟩ := boolA hi1
                  obtain ⟨bB, hB1, hB2⟩ := boolB hi2
                  have ht0' : (mt == 0) = false := by simpa using ht0
                  have hc0' : (mc == 0) = false := by simpa using hc0
                  have LC : Hid (∀ w' : World, Below wu.heap.size wu w' → w'.cell? ⟨gm, k * 3, none⟩ = some (.int .u8 mq) ∧ w'.cell? ⟨gm, k * 3 + 1, none⟩ = some (.int .i64 mt) ∧ w'.cell? ⟨gm, k * 3 + 2, none⟩ = some (.int .i64 mc)) := fun w' h =>
                    ⟨(h.cell (p := ⟨gm, k * 3, none⟩) hgu2).trans t10, (h.cell (p := ⟨gm, k * 3 + 1, none⟩) hgu2).trans t11, (h.cell (p := ⟨gm, k * 3 + 2, none⟩) hgu2).trans t12⟩
                  clear hq hlq hgk ht0 hc0 hi1 hi2 h10 h11 h12 hgu hgu2 t10 t11 t12 hB4 hB5
                  go_wp2_with fail
                  have hC0 : Below wu.heap.size wu wu.drew := below_drew wu
                  have hmix : Tryz.prog.follows .mixedOrders = true := by kernel_rfl
                  refine (wpIn_wide (n := 0)).1 ?_
                  refine wpIn_normal (wpIn_region_any hmix (wpAnyE_sound (C := Below wu.heap.size wu) (E := fun _ => false) _ _ _ _ ?_))
                  change wpAnyE _ _ _ _ _ _ _ _ _ _ _ (World.drew _)
                  refine wpAnyE_takeD (i := 0) (some 108) (v := (.pointer (some ⟨p, 0, none⟩))) (fun _ => trivial) (by kernel_rfl) rfl rfl (by kernel_rfl) (by kernel_rfl) (by kernel_rfl) (by kernel_rfl) (fun _ _ _ h => by cases h.1) hC0 (Or.inl ⟨by kernel_rfl, fun w' hC => by obtain ⟨e1, e2, e3⟩ := LC.out w' hC; clear hC; go_simp⟩) ?_
                  simp only [Act.put, List.setIfInBounds_toArray, List.set_cons_succ, List.set_cons_zero]
                  refine wpAnyE_takeD (i := 1) (some 109) (v := (.int .i64 (k : Int))) (fun _ => trivial) (by kernel_rfl) rfl rfl (by kernel_rfl) (by kernel_rfl) (by kernel_rfl) (by kernel_rfl) (fun _ _ _ h => by cases h.1) hC0 (Or.inl ⟨by kernel_rfl, fun w' hC => by obtain ⟨e1, e2, e3⟩ := LC.out w' hC; clear hC; go_simp⟩) ?_
                  simp only [Act.put, List.setIfInBounds_toArray, List.set_cons_succ, List.set_cons_zero]
                  refine wpAnyE_takeD (i := 4) (some 112) (v := (.slice a3 T.length c5)) (fun _ => trivial) (by kernel_rfl) rfl rfl (by kernel_rfl) (by kernel_rfl) (by kernel_rfl) (by kernel_rfl) (fun _ _ _ h => by cases h.1) hC0 (Or.inl ⟨by kernel_rfl, fun w' hC => by obtain ⟨e1, e2, e3⟩ := LC.out w' hC; clear hC; go_simp⟩) ?_
                  simp only [Act.put, List.setIfInBounds_toArray, List.set_cons_succ, List.set_cons_zero]
                  refine wpAnyE_takeD (i := 5) (some 113) (v := (.int .i64 (T.length : Int))) (fun _ => trivial) (by kernel_rfl) rfl rfl (by kernel_rfl) (by kernel_rfl) (by kernel_rfl) (by kernel_rfl) (fun _ _ _ h => by cases h.1) hC0 (Or.inl ⟨by kernel_rfl, fun w' hC => by obtain ⟨e1, e2, e3⟩ := LC.out w' hC; clear hC; go_simp⟩) ?_
                  simp only [Act.put, List.setIfInBounds_toArray, List.set_cons_succ, List.set_cons_zero]
                  refine wpAnyE_ready (rs := [2]) (by kernel_rfl) (by simp) ?_
                  refine AllE.cons rfl (fun Kk hK => ?_) AllE.nil
                  go_simp
                  refine ⟨trivial, rfl, (callsIn_wide.2 (HNX.out _ hC0)).mono ?_⟩
                  rintro e y1 ⟨lv, rfl, hlv, hby⟩
                  dsimp only
                  have hC1 := hC0.trans (hby.mono hC0.size)
                  obtain ⟨a6, c6, rfl⟩ := own_shapeG hlv
                  refine hK _ _ (.inr hC1) ?_
                  clear hK Kk hby hlv
                  have hng : ¬ (T.length : Int) < (LL.length : Int) := notLt HL5.out
                  try simp only [Act.put, List.setIfInBounds_toArray, List.set_cons_succ, List.set_cons_zero]
                  refine wpAnyE_takeD (i := 3) (some 111) (v := (.int .i64 (LL.length : Int))) (fun _ => trivial) (by kernel_rfl) rfl rfl (by kernel_rfl) (by kernel_rfl) (by kernel_rfl) (by kernel_rfl) (fun _ _ _ h => by cases h.1) hC1 (Or.inl ⟨by kernel_rfl, fun w' hC => by obtain ⟨e1, e2, e3⟩ := LC.out w' hC; clear hC; go_simp⟩) ?_
                  simp only [Act.put, List.setIfInBounds_toArray, List.set_cons_succ, List.set_cons_zero]
                  refine wpAnyE_takeD (i := 6) (some 114) (v := (.bool false)) (fun _ => trivial) (by kernel_rfl) rfl rfl (by kernel_rfl) (by kernel_rfl) (by kernel_rfl) (by kernel_rfl) (fun _ _ _ h => by cases h.1) hC1 (Or.inl ⟨by kernel_rfl, fun w' hC => by obtain ⟨e1, e2, e3⟩ := LC.out w' hC; clear hC; go_simp⟩) ?_
                  simp only [Act.put, List.setIfInBounds_toArray, List.set_cons_succ, List.set_cons_zero]
                  refine wpAnyE_takeD (i := 7) (some 115) (v := (.bool false)) (fun _ => trivial) (by kernel_rfl) rfl rfl (by kernel_rfl) (by kernel_rfl) (by kernel_rfl) (by kernel_rfl) (fun _ _ _ h => by cases h.1) hC1 (Or.inl ⟨by kernel_rfl, fun w' hC => by obtain ⟨e1, e2, e3⟩ := LC.out w' hC; clear hC; go_simp⟩) ?_
                  simp only [Act.put, List.setIfInBounds_toArray, List.set_cons_succ, List.set_cons_zero]
                  refine wpAnyE_takeD (i := 8) (some 116) (v := (.slice (some ⟨gm, 0, none⟩) nb cm)) (fun _ => trivial) (by kernel_rfl) rfl rfl (by kernel_rfl) (by kernel_rfl) (by kernel_rfl) (by kernel_rfl) (fun _ _ _ h => by cases h.1) hC1 (Or.inl ⟨by kernel_rfl, fun w' hC => by obtain ⟨e1, e2, e3⟩ := LC.out w' hC; clear hC; go_simp⟩) ?_
                  simp only [Act.put, List.setIfInBounds_toArray, List.set_cons_succ, List.set_cons_zero]
                  refine wpAnyE_takeD (i := 9) (some 117) (v := (.int .i64 (k : Int))) (fun _ => trivial) (by kernel_rfl) rfl rfl (by kernel_rfl) (by kernel_rfl) (by kernel_rfl) (by kernel_rfl) (fun _ _ _ h => by cases h.1) hC1 (Or.inl ⟨by kernel_rfl, fun w' hC => by obtain ⟨e1, e2, e3⟩ := LC.out w' hC; clear hC; go_simp⟩) ?_
                  simp only [Act.put, List.setIfInBounds_toArray, List.set_cons_succ, List.set_cons_zero]
                  refine wpAnyE_takeD (i := 10) (some 118) (v := (.pointer (some ⟨gm, k * 3, none⟩))) (fun _ => trivial) (by kernel_rfl) rfl rfl (by kernel_rfl) (by kernel_rfl) (by kernel_rfl) (by kernel_rfl) (fun _ _ _ h => by cases h.1) hC1 (Or.inl ⟨by kernel_rfl, fun w' hC => by obtain ⟨e1, e2, e3⟩ := LC.out w' hC; clear hC; go_simp⟩) ?_
                  simp only [Act.put, List.setIfInBounds_toArray, List.set_cons_succ, List.set_cons_zero]
                  refine wpAnyE_takeD (i := 11) (some 119) (v := (.pointer (some ⟨gm, k * 3 + 1, none⟩))) (fun _ => trivial) (by kernel_rfl) rfl rfl (by kernel_rfl) (by kernel_rfl) (by kernel_rfl) (by kernel_rfl) (fun _ _ _ h => by cases h.1) hC1 (Or.inl ⟨by kernel_rfl, fun w' hC => by obtain ⟨e1, e2, e3⟩ := LC.out w' hC; clear hC; go_simp⟩) ?_
                  simp only [Act.put, List.setIfInBounds_toArray, List.set_cons_succ, List.set_cons_zero]
                  refine wpAnyE_takeD (i := 12) (some 120) (v := (.int .i64 mt)) (fun _ => trivial) (by kernel_rfl) rfl rfl (by kernel_rfl) (by kernel_rfl) (by kernel_rfl) (by kernel_rfl) (fun _ _ _ h => by cases h.1) hC1 (Or.inl ⟨by kernel_rfl, fun w' hC => by obtain ⟨e1, e2, e3⟩ := LC.out w' hC; clear hC; go_simp⟩) ?_
                  simp only [Act.put, List.setIfInBounds_toArray, List.set_cons_succ, List.set_cons_zero]
                  refine wpAnyE_takeD (i := 13) (some 121) (v := (.bool false)) (fun _ => trivial) (by kernel_rfl) rfl rfl (by kernel_rfl) (by kernel_rfl) (by kernel_rfl) (by kernel_rfl) (fun _ _ _ h => by cases h.1) hC1 (Or.inl ⟨by kernel_rfl, fun w' hC => by obtain ⟨e1, e2, e3⟩ := LC.out w' hC; clear hC; go_simp⟩) ?_
                  simp only [Act.put, List.setIfInBounds_toArray, List.set_cons_succ, List.set_cons_zero]
                  refine wpAnyE_takeD (i := 14) (some 122) (v := (.bool false)) (fun _ => trivial) (by kernel_rfl) rfl rfl (by kernel_rfl) (by kernel_rfl) (by kernel_rfl) (by kernel_rfl) (fun _ _ _ h => by cases h.1) hC1 (Or.inl ⟨by kernel_rfl, fun w' hC => by obtain ⟨e1, e2, e3⟩ := LC.out w' hC; clear hC; go_simp⟩) ?_
                  simp only [Act.put, List.setIfInBounds_toArray, List.set_cons_succ, List.set_cons_zero]
                  refine wpAnyE_takeD (i := 15) (some 123) (v := (.bool false)) (fun _ => trivial) (by kernel_rfl) rfl rfl (by kernel_rfl) (by kernel_rfl) (by kernel_rfl) (by kernel_rfl) (fun _ _ _ h => by cases h.1) hC1 (Or.inl ⟨by kernel_rfl, fun w' hC => by obtain ⟨e1, e2, e3⟩ := LC.out w' hC; clear hC; go_simp⟩) ?_
                  simp only [Act.put, List.setIfInBounds_toArray, List.set_cons_succ, List.set_cons_zero]
                  refine wpAnyE_takeD (i := 16) (some 124) (v := (.slice (some ⟨gm, 0, none⟩) nb cm)) (fun _ => trivial) (by kernel_rfl) rfl rfl (by kernel_rfl) (by kernel_rfl) (by kernel_rfl) (by kernel_rfl) (fun _ _ _ h => by cases h.1) hC1 (Or.inl ⟨by kernel_rfl, fun w' hC => by obtain ⟨e1, e2, e3⟩ := LC.out w' hC; clear hC; go_simp⟩) ?_
                  simp only [Act.put, List.setIfInBounds_toArray, List.set_cons_succ, List.set_cons_zero]
                  refine wpAnyE_takeD (i := 17) (some 125) (v := (.int .i64 (k : Int))) (fun _ => trivial) (by kernel_rfl) rfl rfl (by kernel_rfl) (by kernel_rfl) (by kernel_rfl) (by kernel_rfl) (fun _ _ _ h => by cases h.1) hC1 (Or.inl ⟨by kernel_rfl, fun w' hC => by obtain ⟨e1, e2, e3⟩ := LC.out w' hC; clear hC; go_simp⟩) ?_
                  simp only [Act.put, List.setIfInBounds_toArray, List.set_cons_succ, List.set_cons_zero]
                  refine wpAnyE_takeD (i := 18) (some 126) (v := (.pointer (some ⟨gm, k * 3, none⟩))) (fun _ => trivial) (by kernel_rfl) rfl rfl (by kernel_rfl) (by kernel_rfl) (by kernel_rfl) (by kernel_rfl) (fun _ _ _ h => by cases h.1) hC1 (Or.inl ⟨by kernel_rfl, fun w' hC => by obtain ⟨e1, e2, e3⟩ := LC.out w' hC; clear hC; go_simp⟩) ?_
                  simp only [Act.put, List.setIfInBounds_toArray, List.set_cons_succ, List.set_cons_zero]
                  refine wpAnyE_takeD (i := 19) (some 127) (v := (.pointer (some ⟨gm, k * 3 + 2, none⟩))) (fun _ => trivial) (by kernel_rfl) rfl rfl (by kernel_rfl) (by kernel_rfl) (by kernel_rfl) (by kernel_rfl) (fun _ _ _ h => by cases h.1) hC1 (Or.inl ⟨by kernel_rfl, fun w' hC => by obtain ⟨e1, e2, e3⟩ := LC.out w' hC; clear hC; go_simp⟩) ?_
                  simp only [Act.put, List.setIfInBounds_toArray, List.set_cons_succ, List.set_cons_zero]
                  refine wpAnyE_takeD (i := 20) (some 128) (v := (.int .i64 mc)) (fun _ => trivial) (by kernel_rfl) rfl rfl (by kernel_rfl) (by kernel_rfl) (by kernel_rfl) (by kernel_rfl) (fun _ _ _ h => by cases h.1) hC1 (Or.inl ⟨by kernel_rfl, fun w' hC => by obtain ⟨e1, e2, e3⟩ := LC.out w' hC; clear hC; go_simp⟩) ?_
                  simp only [Act.put, List.setIfInBounds_toArray, List.set_cons_succ, List.set_cons_zero]
                  refine wpAnyE_takeD (i := 21) (some 129) (v := (.bool false)) (fun _ => trivial) (by kernel_rfl) rfl rfl (by kernel_rfl) (by kernel_rfl) (by kernel_rfl) (by kernel_rfl) (fun _ _ _ h => by cases h.1) hC1 (Or.inl ⟨by kernel_rfl, fun w' hC => by obtain ⟨e1, e2, e3⟩ := LC.out w' hC; clear hC; go_simp⟩) ?_
                  simp only [Act.put, List.setIfInBounds_toArray, List.set_cons_succ, List.set_cons_zero]
                  refine wpAnyE_takeD (i := 22) (some 130) (v := (.bool false)) (fun _ => trivial) (by kernel_rfl) rfl rfl (by kernel_rfl) (by kernel_rfl) (by kernel_rfl) (by kernel_rfl) (fun _ _ _ h => by cases h.1) hC1 (Or.inl ⟨by kernel_rfl, fun w' hC => by obtain ⟨e1, e2, e3⟩ := LC.out w' hC; clear hC; go_simp⟩) ?_
                  simp only [Act.put, List.setIfInBounds_toArray, List.set_cons_succ, List.set_cons_zero]
                  refine wpAnyE_takeD (i := 23) (some 131) (v := (.bool false)) (fun _ => trivial) (by kernel_rfl) rfl rfl (by kernel_rfl) (by kernel_rfl) (by kernel_rfl) (by kernel_rfl) (fun _ _ _ h => by cases h.1) hC1 (Or.inl ⟨by kernel_rfl, fun w' hC => by obtain ⟨e1, e2, e3⟩ := LC.out w' hC; clear hC; go_simp⟩) ?_
                  simp only [Act.put, List.setIfInBounds_toArray, List.set_cons_succ, List.set_cons_zero]
                  refine wpAnyE_takeD (i := 24) (some 132) (v := (.slice (some ⟨gm, 0, none⟩) nb cm)) (fun _ => trivial) (by kernel_rfl) rfl rfl (by kernel_rfl) (by kernel_rfl) (by kernel_rfl) (by kernel_rfl) (fun _ _ _ h => by cases h.1) hC1 (Or.inl ⟨by kernel_rfl, fun w' hC => by obtain ⟨e1, e2, e3⟩ := LC.out w' hC; clear hC; go_simp⟩) ?_
                  simp only [Act.put, List.setIfInBounds_toArray, List.set_cons_succ, List.set_cons_zero]
                  refine wpAnyE_takeD (i := 25) (some 133) (v := (.int .i64 (k : Int))) (fun _ => trivial) (by kernel_rfl) rfl rfl (by kernel_rfl) (by kernel_rfl) (by kernel_rfl) (by kernel_rfl) (fun _ _ _ h => by cases h.1) hC1 (Or.inl ⟨by kernel_rfl, fun w' hC => by obtain ⟨e1, e2, e3⟩ := LC.out w' hC; clear hC; go_simp⟩) ?_
                  simp only [Act.put, List.setIfInBounds_toArray, List.set_cons_succ, List.set_cons_zero]
                  refine wpAnyE_takeD (i := 26) (some 134) (v := (.pointer (some ⟨gm, k * 3, none⟩))) (fun _ => trivial) (by kernel_rfl) rfl rfl (by kernel_rfl) (by kernel_rfl) (by kernel_rfl) (by kernel_rfl) (fun _ _ _ h => by cases h.1) hC1 (Or.inl ⟨by kernel_rfl, fun w' hC => by obtain ⟨e1, e2, e3⟩ := LC.out w' hC; clear hC; go_simp⟩) ?_
                  simp only [Act.put, List.setIfInBounds_toArray, List.set_cons_succ, List.set_cons_zero]
                  refine wpAnyE_takeD (i := 27) (some 135) (v := (.pointer (some ⟨gm, k * 3, none⟩))) (fun _ => trivial) (by kernel_rfl) rfl rfl (by kernel_rfl) (by kernel_rfl) (by kernel_rfl) (by kernel_rfl) (fun _ _ _ h => by cases h.1) hC1 (Or.inl ⟨by kernel_rfl, fun w' hC => by obtain ⟨e1, e2, e3⟩ := LC.out w' hC; clear hC; go_simp⟩) ?_
                  simp only [Act.put, List.setIfInBounds_toArray, List.set_cons_succ, List.set_cons_zero]
                  refine wpAnyE_takeD (i := 28) (some 136) (v := (.int .u8 mq)) (fun _ => trivial) (by kernel_rfl) rfl rfl (by kernel_rfl) (by kernel_rfl) (by kernel_rfl) (by kernel_rfl) (fun _ _ _ h => by cases h.1) hC1 (Or.inl ⟨by kernel_rfl, fun w' hC => by obtain ⟨e1, e2, e3⟩ := LC.out w' hC; clear hC; go_simp⟩) ?_
                  simp only [Act.put, List.setIfInBounds_toArray, List.set_cons_succ, List.set_cons_zero]
                  refine wpAnyE_takeD (i := 29) (some 137) (v := (.bool bA)) (fun _ => trivial) (by kernel_rfl) rfl rfl (by kernel_rfl) (by kernel_rfl) (by kernel_rfl) (by kernel_rfl) (fun _ _ _ h => by cases h.1) hC1 (Or.inl ⟨by kernel_rfl, fun w' hC => by obtain ⟨e1, e2, e3⟩ := LC.out w' hC; clear hC; go_simp⟩) ?_
                  simp only [Act.put, List.setIfInBounds_toArray, List.set_cons_succ, List.set_cons_zero]
                  refine wpAnyE_takeD (i := 30) (some 138) (v := (.slice (some ⟨gm, 0, none⟩) nb cm)) (fun _ => trivial) (by kernel_rfl) rfl rfl (by kernel_rfl) (by kernel_rfl) (by kernel_rfl) (by kernel_rfl) (fun _ _ _ h => by cases h.1) hC1 (Or.inl ⟨by kernel_rfl, fun w' hC => by obtain ⟨e1, e2, e3⟩ := LC.out w' hC; clear hC; go_simp⟩) ?_
                  simp only [Act.put, List.setIfInBounds_toArray, List.set_cons_succ, List.set_cons_zero]
                  refine wpAnyE_takeD (i := 31) (some 139) (v := (.int .i64 (k : Int))) (fun _ => trivial) (by kernel_rfl) rfl rfl (by kernel_rfl) (by kernel_rfl) (by kernel_rfl) (by kernel_rfl) (fun _ _ _ h => by cases h.1) hC1 (Or.inl ⟨by kernel_rfl, fun w' hC => by obtain ⟨e1, e2, e3⟩ := LC.out w' hC; clear hC; go_simp⟩) ?_
                  simp only [Act.put, List.setIfInBounds_toArray, List.set_cons_succ, List.set_cons_zero]
                  refine wpAnyE_takeD (i := 32) (some 140) (v := (.pointer (some ⟨gm, k * 3, none⟩))) (fun _ => trivial) (by kernel_rfl) rfl rfl (by kernel_rfl) (by kernel_rfl) (by kernel_rfl) (by kernel_rfl) (fun _ _ _ h => by cases h.1) hC1 (Or.inl ⟨by kernel_rfl, fun w' hC => by obtain ⟨e1, e2, e3⟩ := LC.out w' hC; clear hC; go_simp⟩) ?_
                  simp only [Act.put, List.setIfInBounds_toArray, List.set_cons_succ, List.set_cons_zero]
                  refine wpAnyE_takeD (i := 33) (some 141) (v := (.pointer (some ⟨gm, k * 3 + 1, none⟩))) (fun _ => trivial) (by kernel_rfl) rfl rfl (by kernel_rfl) (by kernel_rfl) (by kernel_rfl) (by kernel_rfl) (fun _ _ _ h => by cases h.1) hC1 (Or.inl ⟨by kernel_rfl, fun w' hC => by obtain ⟨e1, e2, e3⟩ := LC.out w' hC; clear hC; go_simp⟩) ?_
                  simp only [Act.put, List.setIfInBounds_toArray, List.set_cons_succ, List.set_cons_zero]
                  refine wpAnyE_takeD (i := 34) (some 142) (v := (.int .i64 mt)) (fun _ => trivial) (by kernel_rfl) rfl rfl (by kernel_rfl) (by kernel_rfl) (by kernel_rfl) (by kernel_rfl) (fun _ _ _ h => by cases h.1) hC1 (Or.inl ⟨by kernel_rfl, fun w' hC => by obtain ⟨e1, e2, e3⟩ := LC.out w' hC; clear hC; go_simp⟩) ?_
                  simp only [Act.put, List.setIfInBounds_toArray, List.set_cons_succ, List.set_cons_zero]
                  refine wpAnyE_takeD (i := 35) (some 143) (v := (.bool bA)) (fun _ => trivial) (by kernel_rfl) rfl rfl (by kernel_rfl) (by kernel_rfl) (by kernel_rfl) (by kernel_rfl) (fun _ _ _ h => by cases h.1) hC1 (Or.inl ⟨by kernel_rfl, fun w' hC => by obtain ⟨e1, e2, e3⟩ := LC.out w' hC; clear hC; go_simp⟩) ?_
                  simp only [Act.put, List.setIfInBounds_toArray, List.set_cons_succ, List.set_cons_zero]
                  refine wpAnyE_takeD (i := 36) (some 144) (v := (.bool false)) (fun _ => trivial) (by kernel_rfl) rfl rfl (by kernel_rfl) (by kernel_rfl) (by kernel_rfl) (by kernel_rfl) (fun _ _ _ h => by cases h.1) hC1 (Or.inl ⟨by kernel_rfl, fun w' hC => by obtain ⟨e1, e2, e3⟩ := LC.out w' hC; clear hC; go_simp⟩) ?_
                  simp only [Act.put, List.setIfInBounds_toArray, List.set_cons_succ, List.set_cons_zero]
                  refine wpAnyE_takeD (i := 37) (some 145) (v := (.bool false)) (fun _ => trivial) (by kernel_rfl) rfl rfl (by kernel_rfl) (by kernel_rfl) (by kernel_rfl) (by kernel_rfl) (fun _ _ _ h => by cases h.1) hC1 (Or.inl ⟨by kernel_rfl, fun w' hC => by obtain ⟨e1, e2, e3⟩ := LC.out w' hC; clear hC; go_simp⟩) ?_
                  simp only [Act.put, List.setIfInBounds_toArray, List.set_cons_succ, List.set_cons_zero]
                  refine wpAnyE_takeD (i := 38) (some 146) (v := (.bool false)) (fun _ => trivial) (by kernel_rfl) rfl rfl (by kernel_rfl) (by kernel_rfl) (by kernel_rfl) (by kernel_rfl) (fun _ _ _ h => by cases h.1) hC1 (Or.inl ⟨by kernel_rfl, fun w' hC => by obtain ⟨e1, e2, e3⟩ := LC.out w' hC; clear hC; go_simp⟩) ?_
                  simp only [Act.put, List.setIfInBounds_toArray, List.set_cons_succ, List.set_cons_zero]
                  refine wpAnyE_takeD (i := 39) (some 147) (v := (.slice (some ⟨gm, 0, none⟩) nb cm)) (fun _ => trivial) (by kernel_rfl) rfl rfl (by kernel_rfl) (by kernel_rfl) (by kernel_rfl) (by kernel_rfl) (fun _ _ _ h => by cases h.1) hC1 (Or.inl ⟨by kernel_rfl, fun w' hC => by obtain ⟨e1, e2, e3⟩ := LC.out w' hC; clear hC; go_simp⟩) ?_
                  simp only [Act.put, List.setIfInBounds_toArray, List.set_cons_succ, List.set_cons_zero]
                  refine wpAnyE_takeD (i := 40) (some 148) (v := (.int .i64 (k : Int))) (fun _ => trivial) (by kernel_rfl) rfl rfl (by kernel_rfl) (by kernel_rfl) (by kernel_rfl) (by kernel_rfl) (fun _ _ _ h => by cases h.1) hC1 (Or.inl ⟨by kernel_rfl, fun w' hC => by obtain ⟨e1, e2, e3⟩ := LC.out w' hC; clear hC; go_simp⟩) ?_
                  simp only [Act.put, List.setIfInBounds_toArray, List.set_cons_succ, List.set_cons_zero]
                  refine wpAnyE_takeD (i := 41) (some 149) (v := (.pointer (some ⟨gm, k * 3, none⟩))) (fun _ => trivial) (by kernel_rfl) rfl rfl (by kernel_rfl) (by kernel_rfl) (by kernel_rfl) (by kernel_rfl) (fun _ _ _ h => by cases h.1) hC1 (Or.inl ⟨by kernel_rfl, fun w' hC => by obtain ⟨e1, e2, e3⟩ := LC.out w' hC; clear hC; go_simp⟩) ?_
                  simp only [Act.put, List.setIfInBounds_toArray, List.set_cons_succ, List.set_cons_zero]
                  refine wpAnyE_takeD (i := 42) (some 150) (v := (.pointer (some ⟨gm, k * 3, none⟩))) (fun _ => trivial) (by kernel_rfl) rfl rfl (by kernel_rfl) (by kernel_rfl) (by kernel_rfl) (by kernel_rfl) (fun _ _ _ h => by cases h.1) hC1 (Or.inl ⟨by kernel_rfl, fun w' hC => by obtain ⟨e1, e2, e3⟩ := LC.out w' hC; clear hC; go_simp⟩) ?_
                  simp only [Act.put, List.setIfInBounds_toArray, List.set_cons_succ, List.set_cons_zero]
                  refine wpAnyE_takeD (i := 43) (some 151) (v := (.int .u8 mq)) (fun _ => trivial) (by kernel_rfl) rfl rfl (by kernel_rfl) (by kernel_rfl) (by kernel_rfl) (by kernel_rfl) (fun _ _ _ h => by cases h.1) hC1 (Or.inl ⟨by kernel_rfl, fun w' hC => by obtain ⟨e1, e2, e3⟩ := LC.out w' hC; clear hC; go_simp⟩) ?_
                  simp only [Act.put, List.setIfInBounds_toArray, List.set_cons_succ, List.set_cons_zero]
                  refine wpAnyE_takeD (i := 44) (some 152) (v := (.bool bB)) (fun _ => trivial) (by kernel_rfl) rfl rfl (by kernel_rfl) (by kernel_rfl) (by kernel_rfl) (by kernel_rfl) (fun _ _ _ h => by cases h.1) hC1 (Or.inl ⟨by kernel_rfl, fun w' hC => by obtain ⟨e1, e2, e3⟩ := LC.out w' hC; clear hC; go_simp⟩) ?_
                  simp only [Act.put, List.setIfInBounds_toArray, List.set_cons_succ, List.set_cons_zero]
                  refine wpAnyE_takeD (i := 45) (some 153) (v := (.slice (some ⟨gm, 0, none⟩) nb cm)) (fun _ => trivial) (by kernel_rfl) rfl rfl (by kernel_rfl) (by kernel_rfl) (by kernel_rfl) (by kernel_rfl) (fun _ _ _ h => by cases h.1) hC1 (Or.inl ⟨by kernel_rfl, fun w' hC => by obtain ⟨e1, e2, e3⟩ := LC.out w' hC; clear hC; go_simp⟩) ?_
                  simp only [Act.put, List.setIfInBounds_toArray, List.set_cons_succ, List.set_cons_zero]
                  refine wpAnyE_takeD (i := 46) (some 154) (v := (.int .i64 (k : Int))) (fun _ => trivial) (by kernel_rfl) rfl rfl (by kernel_rfl) (by kernel_rfl) (by kernel_rfl) (by kernel_rfl) (fun _ _ _ h => by cases h.1) hC1 (Or.inl ⟨by kernel_rfl, fun w' hC => by obtain ⟨e1, e2, e3⟩ := LC.out w' hC; clear hC; go_simp⟩) ?_
                  simp only [Act.put, List.setIfInBounds_toArray, List.set_cons_succ, List.set_cons_zero]
                  refine wpAnyE_takeD (i := 47) (some 155) (v := (.pointer (some ⟨gm, k * 3, none⟩))) (fun _ => trivial) (by kernel_rfl) rfl rfl (by kernel_rfl) (by kernel_rfl) (by kernel_rfl) (by kernel_rfl) (fun _ _ _ h => by cases h.1) hC1 (Or.inl ⟨by kernel_rfl, fun w' hC => by obtain ⟨e1, e2, e3⟩ := LC.out w' hC; clear hC; go_simp⟩) ?_
                  simp only [Act.put, List.setIfInBounds_toArray, List.set_cons_succ, List.set_cons_zero]
                  refine wpAnyE_takeD (i := 48) (some 156) (v := (.pointer (some ⟨gm, k * 3 + 2, none⟩))) (fun _ => trivial) (by kernel_rfl) rfl rfl (by kernel_rfl) (by kernel_rfl) (by kernel_rfl) (by kernel_rfl) (fun _ _ _ h => by cases h.1) hC1 (Or.inl ⟨by kernel_rfl, fun w' hC => by obtain ⟨e1, e2, e3⟩ := LC.out w' hC; clear hC; go_simp⟩) ?_
                  simp only [Act.put, List.setIfInBounds_toArray, List.set_cons_succ, List.set_cons_zero]
                  refine wpAnyE_takeD (i := 49) (some 157) (v := (.int .i64 mc)) (fun _ => trivial) (by kernel_rfl) rfl rfl (by kernel_rfl) (by kernel_rfl) (by kernel_rfl) (by kernel_rfl) (fun _ _ _ h => by cases h.1) hC1 (Or.inl ⟨by kernel_rfl, fun w' hC => by obtain ⟨e1, e2, e3⟩ := LC.out w' hC; clear hC; go_simp⟩) ?_
                  simp only [Act.put, List.setIfInBounds_toArray, List.set_cons_succ, List.set_cons_zero]
                  refine wpAnyE_takeD (i := 50) (some 158) (v := (.bool bB)) (fun _ => trivial) (by kernel_rfl) rfl rfl (by kernel_rfl) (by kernel_rfl) (by kernel_rfl) (by kernel_rfl) (fun _ _ _ h => by cases h.1) hC1 (Or.inl ⟨by kernel_rfl, fun w' hC => by obtain ⟨e1, e2, e3⟩ := LC.out w' hC; clear hC; go_simp⟩) ?_
                  simp only [Act.put, List.setIfInBounds_toArray, List.set_cons_succ, List.set_cons_zero]
                  refine wpAnyE_takeD (i := 51) (some 159) (v := (.bool false)) (fun _ => trivial) (by kernel_rfl) rfl rfl (by kernel_rfl) (by kernel_rfl) (by kernel_rfl) (by kernel_rfl) (fun _ _ _ h => by cases h.1) hC1 (Or.inl ⟨by kernel_rfl, fun w' hC => by obtain ⟨e1, e2, e3⟩ := LC.out w' hC; clear hC; go_simp⟩) ?_
                  simp only [Act.put, List.setIfInBounds_toArray, List.set_cons_succ, List.set_cons_zero]
                  refine wpAnyE_takeD (i := 52) (some 160) (v := (.bool false)) (fun _ => trivial) (by kernel_rfl) rfl rfl (by kernel_rfl) (by kernel_rfl) (by kernel_rfl) (by kernel_rfl) (fun _ _ _ h => by cases h.1) hC1 (Or.inl ⟨by kernel_rfl, fun w' hC => by obtain ⟨e1, e2, e3⟩ := LC.out w' hC; clear hC; go_simp⟩) ?_
                  simp only [Act.put, List.setIfInBounds_toArray, List.set_cons_succ, List.set_cons_zero]
                  refine wpAnyE_done (by kernel_rfl) ⟨rfl, ?_⟩ _
                  rw [then_normalLd]
                  have HFK := hide (HX2U.out.trans (hC1.mono HX2U.out.size))
                  have hwk := wrapJ HLK.out (Nat.le_trans HFW9.out (Nat.le_refl _))
                  clear hC0 hC1 LC hmix hng
                  go_wp2_with fail
                  first
                    | exact ⟨⟨k + 1, HLK.out, by rw [hwk]; simp, HFK.out⟩, by rw [hwk]; exact measZ2 HLK.out⟩
                    | (go_big_round; exact ⟨⟨k + 1, HLK.out, by first | (rw [hwk]; simp) | go_num, HFK.out⟩, by first | (rw [hwk]; exact measZ2 HLK.out) | exact measZ2 HLK.out⟩)
                    | (trace_state; sorry)
            · have e : k = nb := by omega
              subst e
              have hwj := wrapJ HLT.out HMF2.out
              have HFIN := hide (HW6.out.trans ((HXB.out.trans (HXZ.out.mono HXB.out.size)).mono HW6.out.size))
              clear hk hlk hXz
              go_wp2_with fail
              exact ⟨⟨j + 1, HLT.out, by rw [hwj]; simp, HFIN.out⟩, by rw [hwj]; exact measZ2 HLT.out⟩
--@@B
    · obtain rfl : j = mf := by omega
      have hmi : ¬ (j : Int) < (j : Int) := by omega
      have HAW := hide (awake14_true wr)
      have HBW := hide (HB2.out.trans (hbr.mono HB2.out.size))
      clear hj hlt hs4 hbr
      go_wp2_with fail
      refine HAW.out.mono ?_
      rintro e w9 ⟨rfl, hb9⟩
      have HB9 := hide (HBW.out.trans (hb9.mono HBW.out.size))
      clear hb9
      go_wp2_with fail
      go_ret
      exact ⟨rfl, HB9.out⟩

end Go.Proofs.YtclgjolplobdbaaGreat
