/-
  copied of the laws of layer 14: lists in new memory.
-/
import Derived.WalkSpells
import Derived.WalkMore
import Derived.OwnWalk
import Derived.BigRegion
import Derived.Deep.RegionWith
import Derived.Test.YtpdjmapmpicgjaaProg
import Derived.Test.YtpdjmapmpicgjaaGrRows
import Derived.Test.YtpdjmapmpicgjaaGraphOnce
namespace Go.Proofs.Ytpdjmapmpicgjaa
open Go.RowKit
set_option linter.unusedVariables false
set_option linter.unusedSimpArgs false
set_option maxRecDepth 10000

/-- A number of a row of the list, and another one in its place. -/
theorem OwnL.cellAt {w : World} {lo h c : Nat} {N : List (List Int)} (hN : OwnL w lo (.slice (some ⟨h, 0, none⟩) N.length c) N) {j q : Nat} (hj : j < N.length) (hq : q < (rowN N j).length) : ∃ g cj, w.cell? ⟨h, j, none⟩ = some (.slice (some ⟨g, 0, none⟩) (rowN N j).length cj) ∧ w.cell? ⟨g, q, none⟩ = some (.int .i64 (nth (rowN N j) q)) ∧ w.frozen? ⟨g, q, none⟩ = false ∧ lo ≤ g ∧ g < w.heap.size ∧ h < w.heap.size ∧
    ∀ x : Int, OwnL (w.setCell ⟨g, q, none⟩ (.int .i64 x)) lo (.slice (some ⟨h, 0, none⟩) N.length c) (N.set j ((rowN N j).set q x)) := by
  obtain ⟨V, hV⟩ := hN
  have hh : w.ownsRow lo 32 1 (.slice (some ⟨h, 0, none⟩) N.length c) N.length (cellsL V N.length) := hV.own none trivial
  have hr : w.ownsRow lo 3 1 (V j) (rowN N j).length ((rowN N j).map (Value.int .i64)) := hV.own (some j) hj
  have hcell : w.cell? ⟨h, j, none⟩ = some (V j) := by rw [hh.cellAt j (by omega), cellsL_at V _ j hj]
  rcases hr.2 with ⟨_, h0⟩ | ⟨g, cap, cur, e, hg, hgg, _⟩
  · omega
  · refine ⟨g, cap, by rw [hcell, e], ?_, by rw [e] at hr; exact hr.frozenAt _, hg, (Array.getElem?_eq_some_iff.1 hgg).1, (World.ownsRow.lt hh h rfl).2, fun x => ?_⟩
    · rw [e] at hr
      rw [hr.cellAt q (by omega)]
      simp [nth, List.getD, hq]
    · have hs := own_setAt (by rw [e] at hr; exact hr) q (.int .i64 x)
      refine ⟨V, ?_⟩
      have h1 := hV.put (w' := w.setCell ⟨g, q, none⟩ (.int .i64 x)) (R' := rowL (.slice (some ⟨h, 0, none⟩) N.length c) V (N.set j ((rowN N j).set q x))) (some j) hj (by
        have : (rowL (.slice (some ⟨h, 0, none⟩) N.length c) V N (some j)).v.ownBlock = some g := by simp [rowL, e, Value.ownBlock]
        rw [this]; exact grown_setCell w g q _) (by
        simp only [RowX.own, rowL, rowN_set N _ j j hj, if_true, List.length_set, e, List.map_set]
        exact hs) (.inl rfl) (fun p hp hne => by
        cases p with
        | none => simp [rowL]
        | some k =>
          have hk : ¬ k = j := fun e => hne (by rw [e])
          simp [rowL, rowN_set N _ j k hj, hk])
      refine ⟨fun p hp => h1.own p (by cases p with | none => trivial | some k => have : k < (N.set j ((rowN N j).set q x)).length := hp; rwa [List.length_set] at this), fun p p' hp hp' => h1.apart p p' (by cases p with | none => trivial | some k => have : k < (N.set j ((rowN N j).set q x)).length := hp; rwa [List.length_set] at this) (by cases p' with | none => trivial | some k => have : k < (N.set j ((rowN N j).set q x)).length := hp'; rwa [List.length_set] at this)⟩

/-- The rows so far. -/
def copQ (N : List (List Int)) (k : Nat) : List (List Int) := (List.range N.length).map fun j => if j < k then rowN N j else []
theorem copQ_len (N : List (List Int)) (k : Nat) : (copQ N k).length = N.length := by simp [copQ]
theorem copQ_row (N : List (List Int)) (k j : Nat) (h : j < N.length) : rowN (copQ N k) j = if j < k then rowN N j else [] := by
  show (copQ N k).getD j [] = _
  unfold copQ
  rw [List.getD_eq_getElem?_getD, List.getElem?_map, List.getElem?_range h]
  rfl
theorem copQ_zero (N : List (List Int)) : copQ N 0 = List.replicate N.length [] := by
  apply rows_ext (by simp [copQ])
  intro j hj
  rw [copQ_len] at hj
  rw [copQ_row N 0 j hj]
  simp [rowN, List.getD, List.getElem?_replicate, hj]
theorem copQ_set (N : List (List Int)) (k : Nat) (h : k < N.length) : (copQ N k).set k (rowN N k) = copQ N (k + 1) := by
  apply rows_ext (by simp [copQ])
  intro j hj
  rw [List.length_set, copQ_len] at hj
  rw [rowN_set _ _ _ _ (by rw [copQ_len]; exact h), copQ_row N k j hj, copQ_row N (k + 1) j hj]
  by_cases e : j = k
  · subst e; simp
  · rw [if_neg e]
    by_cases e2 : j < k
    · rw [if_pos e2, if_pos (by omega)]
    · rw [if_neg e2, if_neg (by omega)]
theorem copQ_whole (N : List (List Int)) : copQ N N.length = N := by
  apply rows_ext (by simp [copQ])
  intro j hj
  rw [copQ_len] at hj
  rw [copQ_row _ _ _ hj, if_pos hj]

set_option maxHeartbeats 8000000 in
theorem copied14_any (a : Option Addr) (n c : Nat) (N : List (List Int)) (w : World) (hv : LV w a N) (hl : N.length = n) (hn : 24 * n ≤ 140737488351232) (hr : ∀ j, 8 * (rowN N j).length ≤ 140737488351232) :
    Calls Try.prog 9 #[.slice a n c] w fun e w' => ∃ h, e = .returned (.slice (some ⟨h, 0, none⟩) n n) ∧ OwnL w' w.heap.size (.slice (some ⟨h, 0, none⟩) n n) N ∧ Below w.heap.size w w' := by
  obtain ⟨i0, hi, hz0, hz1, hz2⟩ := info_parts GrInts.info
  obtain ⟨j0, hj, hy0, hy1, hy2⟩ := info_parts GrLists.info
  have HL := hide hl
  have HV := hide hv
  have HR := hide hr
  have HN := hide hn
  have hni : (24 : Int) * n ≤ 140737488351232 := by omega
  clear hl hv hr
  go_enter Try.func9, Try.ntmps9
  go_wp2_with (at_make; refine wpList_make_full _ rfl _ _ 22 rfl w.heap.size 32 j0 (.slice none 0 0) 1 Try.underlying22 hj hy0 hy1 _ _ _ _ n rfl rfl (by rfl) (by rfl) (by rw [hy2]; omega) (by unfold maxLen; omega) (Nat.le_refl _) ?_)
  intro w1 hown1 hgr1
  have hb1 : Below w.heap.size w w1 := (Below.refl _ w).grown hgr1 (Nat.le_refl _) (by simp)
  have HO1 : Hid (OwnL w1 w.heap.size (.slice (some ⟨w.heap.size, 0, none⟩) n n) (copQ N 0)) := by show OwnL _ _ _ _; rw [copQ_zero, HL.out]; exact OwnL.made (by simpa using hown1)
  have HB1 := hide hb1
  clear hown1 hgr1 hb1 hn
  go_wp2_with fail
  go_loopw [4] (fun i wr => ∃ k : Nat, k ≤ n ∧ i = .int .i64 k ∧ OwnL wr w.heap.size (.slice (some ⟨w.heap.size, 0, none⟩) n n) (copQ N k) ∧ Below w.heap.size w wr) (fun i _ => n - (intOf i).toNat)
  case atStart => exact ⟨0, Nat.zero_le _, rfl, HO1.out, HB1.out⟩
  case round =>
    obtain ⟨k, hk, rfl, hO, hB⟩ := hrel
    by_cases hlt : k < n
    · obtain ⟨b, off, aj, nj, cj, rfl, hb, hc, hcl, hcc, hvj⟩ := HV.out k (by rw [HL.out]; exact hlt)
      have hc' := (hB.cell (p := ⟨b, off + k, none⟩) hb).trans hc
      have hki : (k : Int) < (n : Int) := by omega
      have hql : (copQ N k).length = n := by rw [copQ_len]; exact HL.out
      have hOk : OwnL wr w.heap.size (.slice (some ⟨w.heap.size, 0, none⟩) (copQ N k).length n) (copQ N k) := by rw [hql]; exact hO
      have HCL := hide hcl
      have HVJ := hide hvj
      have HLT := hide hlt
      have HOK := hide hOk
      have HBK := hide hB
      have HQL := hide hql
      have HBB := hide hb
      have HCC := hide hc
      have HNJ : Hid (8 * nj ≤ 140737488351232) := by show _ ≤ _; rw [← hcl]; exact HR.out k
      have hnj : (8 : Int) * nj ≤ 140737488351232 := by have := HNJ.out; omega
      rename World => wo
      clear hO hB hOk hql hcl hvj hlt hk hb hc hcc HO1 HB1
      go_wp2_with (at_make; refine wpList_make_full _ rfl _ _ 32 rfl wo.heap.size 3 i0 (.int .i64 0) 1 Try.underlying32 hi hz0 hz1 _ _ _ _ nj rfl rfl (by rfl) (by rfl) (by rw [hz2]; have := HNJ.out; omega) (by unfold maxLen; have := HNJ.out; omega) (Nat.le_refl _) ?_)
      intro w2 hown2 hgr2
      have hb2 : Below wo.heap.size wo w2 := (Below.refl _ wo).grown hgr2 (Nat.le_refl _) (by simp)
      have hr2 : w2.ownsRow wo.heap.size 3 1 (.slice (some ⟨wo.heap.size, 0, none⟩) nj nj) (filled (rowN N k) 0 nj).length ((filled (rowN N k) 0 nj).map (Value.int .i64)) := by
        have h1 := made_row (rowN N k) (by simpa using hown2)
        rw [filled_len _ _ _ (Nat.zero_le _) (Nat.zero_le _)]; exact h1
      obtain ⟨hO2, ⟨u2, hu2⟩, hf2, _⟩ := OwnL.put HOK.out hb2 (j := k) (by rw [HQL.out]; exact HLT.out) HBK.out.size hr2
      rw [HQL.out] at hO2
      have HO2 := hide hO2
      have HB2 : Hid (Below w.heap.size w (w2.setCell ⟨w.heap.size, k, none⟩ (.slice (some ⟨wo.heap.size, 0, none⟩) nj nj))) := by
        have h1 := HBK.out.trans (hb2.mono HBK.out.size)
        exact h1.grown (grown_setCell w2 w.heap.size k _) h1.size (fun q e => by cases e; exact Nat.le_refl _)
      have hfl : ∀ q, q ≤ nj → (filled (rowN N k) q nj).length = nj := fun q hq => filled_len _ _ _ hq (by rw [HCL.out]; exact hq)
      have HFL := hide hfl
      clear hO2 hown2 hgr2 hb2 hr2 hfl HOK HBK
      go_wp2_with fail
      go_loopw [5] (fun i wr => ∃ q : Nat, q ≤ nj ∧ i = .int .i64 q ∧ OwnL wr w.heap.size (.slice (some ⟨w.heap.size, 0, none⟩) n n) ((copQ N k).set k (filled (rowN N k) q nj)) ∧ Below w.heap.size w wr) (fun i _ => nj - (intOf i).toNat)
      case atStart => exact ⟨0, Nat.zero_le _, rfl, HO2.out, HB2.out⟩
      case round =>
        obtain ⟨q, hq, rfl, hO, hB⟩ := hrel
        have hcN := (hB.cell (p := ⟨b, off + k, none⟩) HBB.out).trans HCC.out
        by_cases hlt : q < nj
        · have hsl : ((copQ N k).set k (filled (rowN N k) q nj)).length = n := by rw [List.length_set]; exact HQL.out
          have hkk : k < (copQ N k).length := by rw [HQL.out]; exact HLT.out
          have hrow : rowN ((copQ N k).set k (filled (rowN N k) q nj)) k = filled (rowN N k) q nj := by rw [rowN_set _ _ _ _ hkk, if_pos rfl]
          obtain ⟨g, cg, k1, k2, k3, k4, k5, k6, k7⟩ := OwnL.cellAt (h := w.heap.size) (c := n) (by rw [hsl]; exact hO) (j := k) (q := q) (by rw [hsl]; exact HLT.out) (by rw [hrow, HFL.out q hq]; exact hlt)
          have k7' := k7 (nth (rowN N k) q)
          rw [hrow, hsl, List.set_set, filled_set _ _ _ hlt (by rw [HCL.out]; exact hlt)] at k7'
          rw [hrow, HFL.out q hq] at k1
          obtain ⟨b2, o2, rfl, hb2, hc2⟩ := HVJ.out q (by rw [HCL.out]; exact hlt)
          have hcq := (hB.cell (p := ⟨b2, o2 + q, none⟩) hb2).trans hc2
          have hqi : (q : Int) < (nj : Int) := by omega
          have HQ := hide hlt
          have HO3 := hide k7'
          have HB3 : Hid (Below w.heap.size w (wr.setCell ⟨g, q, none⟩ (.int .i64 (nth (rowN N k) q)))) := hB.grown (grown_setCell wr g q _) hB.size (fun i e => by cases e; exact k4)
          generalize nth (rowN N k) q = y at *
          generalize nth (rowN ((copQ N k).set k (filled (rowN N k) q nj)) k) q = y0 at *
          clear hO hB hsl hkk hrow k7 k7' k4 hlt hq hb2 hc2 HO2 HB2 hc'
          go_wp2_with fail
          go_region_with (fail)
          all_goals
            go_wp2_with fail
            exact ⟨⟨q + 1, HQ.out, by simp, HO3.out.below ((Below.refl _ _).drew), HB3.out.drew⟩, measZ2 HQ.out⟩
        · have e : nj = q := by omega
          subst e
          have HE : Hid ((copQ N k).set k (filled (rowN N k) nj nj) = copQ N (k + 1)) := by show _ = _; rw [filled_whole _ _ HCL.out, copQ_set N k (by rw [HL.out]; exact HLT.out)]
          rw [HE.out] at hO
          have HO4 := hide hO
          have HB4 := hide hB
          clear hO hB hq HO2 HB2 hc' HE
          go_wp2_with fail
          exact ⟨⟨k + 1, HLT.out, by simp, HO4.out, HB4.out⟩, measZ2 HLT.out⟩
    · have e : n = k := by omega
      subst e
      have HE : Hid (copQ N n = N) := by show _ = _; rw [← HL.out, copQ_whole]
      rw [HE.out] at hO
      have HO4 := hide hO
      have HB4 := hide hB
      clear hO hB hk HO1 HB1 HE
      go_wp2_with fail
      go_ret
      exact ⟨_, rfl, HO4.out, HB4.out⟩

end Go.Proofs.Ytpdjmapmpicgjaa
