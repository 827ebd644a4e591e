/-
  GraphOf is true for every list of edges.
-/
import Derived.WalkSpells
import Derived.WalkMore
import Derived.BigGuard
import Derived.Test.YtpdjmapmpicgjaaProg
import Derived.Test.YtpdjmapmpicgjaaArgLists
import Derived.Test.YtpdjmapmpicgjaaDrawAppend
import Derived.Test.YtpdjmapmpicgjaaLaw14Awake
import Derived.Test.YtpdjmapmpicgjaaLaw14Copied
import Derived.Test.YtpdjmapmpicgjaaLaw14Told
namespace Go.Proofs.Ytpdjmapmpicgjaa
open Go.RowKit
set_option linter.unusedVariables false
set_option linter.unusedSimpArgs false
set_option maxRecDepth 10000

/-- A row of the list is written over in its own memory. -/
theorem rowsL_spoil {w w' : World} {lo : Nat} {hv : Value} {V : Nat → Value} {N : List (List Int)} (hV : RowsX w lo (inL N) (rowL hv V N)) {j : Nat} (hj : j < N.length) {l : List Int} (hg : w.grownBy w' (V j).ownBlock) (ho : w'.ownsRow lo 3 1 (V j) l.length (l.map (Value.int .i64))) : RowsX w' lo (inL (N.set j l)) (rowL hv V (N.set j l)) := by
  have h1 := hV.put (w' := w') (R' := rowL hv V (N.set j l)) (some j) hj hg (by
      unfold RowX.own rowL
      simp only [rowN_set N l j j hj, if_true]
      exact ho) (.inl rfl) (fun p hp hne => by
        cases p with
        | none => simp [rowL]
        | some k =>
          have hk : ¬ k = j := fun e => hne (by rw [e])
          simp [rowL, rowN_set N _ j k hj, hk])
  exact ⟨fun p hp => h1.own p (by cases p with | none => trivial | some k => have : k < (N.set j l).length := hp; rwa [List.length_set] at this), fun p p' hp hp' => h1.apart p p' (by cases p with | none => trivial | some k => have : k < (N.set j l).length := hp; rwa [List.length_set] at this) (by cases p' with | none => trivial | some k => have : k < (N.set j l).length := hp'; rwa [List.length_set] at this)⟩

set_option maxHeartbeats 16000000 in
theorem graphOf_true (w : World) (a : Option Addr) (n c : Nat) (N : List (List Int)) (hl : N.length = n) (hv : LV w a N) (hn : 24 * n ≤ 140737488351232) (hr : ∀ q, 8 * (rowN N q).length ≤ 140737488351232) (hc : n ≤ c) :
    Calls Try.prog 3 #[.slice a n c] w fun e w' => e = .returned (.bool true) ∧ Below w.heap.size w w' := by
  have HA := hide (fun wx => awake14_true wx)
  have HL := hide hl
  have HV := hide hv
  have HR := hide hr
  have HCP := hide (fun wx (h : Below w.heap.size w wx) => copied14_any a n c N wx (hv.below h) hl hn hr)
  have HOF := hide (fun ax wx (h : LV wx ax N) => graphOf_any ax n n N wx h hl hn hr)
  have hrf := refOf14_any a n c N w hv hl hn hr
  have hni : (24 : Int) * n ≤ 140737488351232 := by omega
  clear hl hv hr hn
  go_enter Try.func3, Try.ntmps3
  go_wp2_with fail
  refine hrf.mono ?_
  rintro e w1 hq1
  obtain ⟨wp, er, rfl, hE, hb1, hR1, hR0⟩ := rfQ_open hq1
  have HB1 := hide hb1
  have HE := hide hE
  have HRR := hide (And.intro hR1 hR0)
  clear hq1 hb1 hR1 hR0 hE hrf
  go_wp2_with fail
  refine (HCP.out w1 HB1.out).mono ?_
  rintro e w2 ⟨h, rfl, hO2, hb2⟩
  obtain ⟨a', c', e', _, hLV, _⟩ := hO2.head
  rw [HL.out] at e'
  cases e'
  have HOFF := hide (HOF.out _ w2 hLV)
  have HB2 := hide hb2
  have HO2 := hide hO2
  clear hO2 hb2 hLV
  go_wp2_with fail
  refine HOFF.out.mono ?_
  rintro e w3 hq3
  obtain ⟨gp, er2, rfl, hE2, hb3, hG1, hG0⟩ := ofQ_open hq3
  have hee := ofE_uniq hE2 HE.out
  subst hee
  have HB3 := hide (HB2.out.trans (hb3.mono HB2.out.size))
  have HG0 := hide hG0
  obtain ⟨V, hV2⟩ := HO2.out
  have HVB : Hid (∀ j, j < n → ∀ g, (V j).ownBlock = some g → g < w2.heap.size) := fun j hj g e => (World.ownsRow.lt (hV2.own (some j) (by show j < N.length; rw [HL.out]; exact hj)) g e).2
  have HV3 : Hid (RowsX w3 w1.heap.size (inL N) (rowL (.slice (some ⟨h, 0, none⟩) n n) V N)) := hV2.kept (ob := none) ⟨hb3.os, hb3.tape, hb3.output, hb3.size, fun k hk _ => hb3.block k hk⟩ (fun g e => by cases e)
  have HG3 := hide hG1
  have HS23 := hide hb3.size
  clear hq3 hE2 hb3 hG1 hG0 HOFF HO2 hV2
  go_wp2_with fail
  go_loopw [8] (fun i wr => ∃ (k : Nat) (M : List (List Int)), k ≤ n ∧ i = .int .i64 k ∧ M.length = n ∧ (∀ j, k ≤ j → rowN M j = rowN N j) ∧ RowsX wr w1.heap.size (inL M) (rowL (.slice (some ⟨h, 0, none⟩) n n) V M) ∧ Below w1.heap.size w1 wr ∧ w2.heap.size ≤ wr.heap.size ∧ (er2 = 0 → ∃ p, gp = some ⟨p, 0, none⟩ ∧ GrV wr w2.heap.size p (N.map onceF))) (fun i _ => n - (intOf i).toNat)
  case atStart => exact ⟨0, N, Nat.zero_le _, rfl, HL.out, fun _ _ => rfl, HV3.out, HB3.out, HS23.out, HG3.out⟩
  case round =>
    obtain ⟨k, M, hk, rfl, hML, hMr, hX, hB, hsz, hG⟩ := hrel
    by_cases hlt : k < n
    · obtain ⟨h', ch', aj, cj, e1, e2, e3, e4, e5⟩ := rowsL_read hX (j := k) (by rw [hML]; exact hlt)
      rw [hML] at e1
      cases e1
      have hrow := hMr k (Nat.le_refl _)
      rw [hrow] at e2 e4
      rw [e2] at e3
      have hbw := HB1.out.trans (hB.mono HB1.out.size)
      obtain ⟨b, off, ai, nj, ci, rfl, hb, hci, hcl, hcc, hvi⟩ := (HV.out.below hbw) k (by rw [HL.out]; exact hlt)
      rw [hcl] at e2 e3
      have hrj := HR.out k
      rw [hcl] at hrj
      have hki : (k : Int) < (n : Int) := by omega
      have HCE := hide (fun wx (hx : Below wr.heap.size wr wx) => (show wx.cell? ⟨h, k, none⟩ = some (.slice aj nj cj) ∧ wx.cell? ⟨b, off + k, none⟩ = some (.slice ai nj ci) from ⟨(hx.cell (p := ⟨h, k, none⟩) e5).trans e3, (hx.cell (p := ⟨b, off + k, none⟩) hb).trans hci⟩))
      have HIN := hide (fun wx (hx : Below wr.heap.size wr wx) => ints_true aj ai nj cj ci (rowN N k) wx (e4.below hx) (hvi.below hx) hcl (by omega))
      have HLT := hide hlt
      have HX := hide hX
      have HM := hide (And.intro hML hMr)
      have HBB := hide hB
      have HSZ := hide hsz
      have HG := hide hG
      have HE2 := hide e2
      have HVK := hide (fun g hg => HVB.out k hlt g hg)
      have HROW := hide hrow
      have HCL := hide hcl
      have hnjb : (8 : Int) * nj ≤ 140737488351232 := by omega
      have hC1 := (Below.refl wr.heap.size wr).drew
      clear hk hlt hML hMr hX hB hsz hG e2 e3 e4 e5 hrow hbw hb hci hcl hcc hvi hrj
      go_wp2_with fail
      have hmix : Try.prog.follows .mixedOrders = true := by kernel_rfl
      refine (wpIn_wide (n := 0)).1 ?_
      refine wpIn_normal (wpIn_region_any hmix (wpAnyC_sound (C := Below wr.heap.size wr) _ _ _ _ ?_))
      change wpAnyC _ _ _ _ _ _ _ _ _ _ (World.drew _)
      refine wpAnyC_takeD (i := 0) (some 37) (v := .slice (some ⟨h, 0, none⟩) n n) (fun _ => trivial) (by kernel_rfl) rfl rfl (by kernel_rfl) (by kernel_rfl) (by kernel_rfl) (fun _ _ _ h => by cases h.1) hC1 (Or.inl ⟨by kernel_rfl, fun w' hC => by clear hC; go_simp⟩) ?_
      simp only [Act.put, List.setIfInBounds_toArray, List.set_cons_succ, List.set_cons_zero]
      refine wpAnyC_takeD (i := 1) (some 38) (v := .int .i64 (k : Int)) (fun _ => trivial) (by kernel_rfl) rfl rfl (by kernel_rfl) (by kernel_rfl) (by kernel_rfl) (fun _ _ _ h => by cases h.1) hC1 (Or.inl ⟨by kernel_rfl, fun w' hC => by clear hC; go_simp⟩) ?_
      simp only [Act.put, List.setIfInBounds_toArray, List.set_cons_succ, List.set_cons_zero]
      refine wpAnyC_takeD (i := 2) (some 39) (v := .pointer (some ⟨h, k, none⟩)) (fun _ => trivial) (by kernel_rfl) rfl rfl (by kernel_rfl) (by kernel_rfl) (by kernel_rfl) (fun _ _ _ h => by cases h.1) hC1 (Or.inl ⟨by kernel_rfl, fun w' hC => by clear hC; go_simp⟩) ?_
      simp only [Act.put, List.setIfInBounds_toArray, List.set_cons_succ, List.set_cons_zero]
      refine wpAnyC_takeD (i := 3) (some 40) (v := .slice aj nj cj) (fun _ => trivial) (by kernel_rfl) rfl rfl (by kernel_rfl) (by kernel_rfl) (by kernel_rfl) (fun _ _ _ h => by cases h.1) hC1 (Or.inl ⟨by kernel_rfl, fun w' hC => by have e1 := (HCE.out w' hC).1; clear hC; go_simp⟩) ?_
      simp only [Act.put, List.setIfInBounds_toArray, List.set_cons_succ, List.set_cons_zero]
      refine wpAnyC_takeD (i := 4) (some 41) (v := .slice (some ⟨b, off, none⟩) n c) (fun _ => trivial) (by kernel_rfl) rfl rfl (by kernel_rfl) (by kernel_rfl) (by kernel_rfl) (fun _ _ _ h => by cases h.1) hC1 (Or.inl ⟨by kernel_rfl, fun w' hC => by clear hC; go_simp⟩) ?_
      simp only [Act.put, List.setIfInBounds_toArray, List.set_cons_succ, List.set_cons_zero]
      refine wpAnyC_takeD (i := 5) (some 42) (v := .int .i64 (k : Int)) (fun _ => trivial) (by kernel_rfl) rfl rfl (by kernel_rfl) (by kernel_rfl) (by kernel_rfl) (fun _ _ _ h => by cases h.1) hC1 (Or.inl ⟨by kernel_rfl, fun w' hC => by clear hC; go_simp⟩) ?_
      simp only [Act.put, List.setIfInBounds_toArray, List.set_cons_succ, List.set_cons_zero]
      refine wpAnyC_takeD (i := 6) (some 43) (v := .pointer (some ⟨b, off + k, none⟩)) (fun _ => trivial) (by kernel_rfl) rfl rfl (by kernel_rfl) (by kernel_rfl) (by kernel_rfl) (fun _ _ _ h => by cases h.1) hC1 (Or.inl ⟨by kernel_rfl, fun w' hC => by clear hC; go_simp⟩) ?_
      simp only [Act.put, List.setIfInBounds_toArray, List.set_cons_succ, List.set_cons_zero]
      refine wpAnyC_takeD (i := 7) (some 44) (v := .slice ai nj ci) (fun _ => trivial) (by kernel_rfl) rfl rfl (by kernel_rfl) (by kernel_rfl) (by kernel_rfl) (fun _ _ _ h => by cases h.1) hC1 (Or.inl ⟨by kernel_rfl, fun w' hC => by have e1 := (HCE.out w' hC).2; clear hC; go_simp⟩) ?_
      simp only [Act.put, List.setIfInBounds_toArray, List.set_cons_succ, List.set_cons_zero]
      refine wpAnyC_ready (rs := [8]) (by kernel_rfl) (by simp) ?_
      refine AllC.cons rfl (fun K hK => ?_) AllC.nil
      go_simp
      refine ⟨trivial, rfl, (callsIn_wide.2 (HIN.out _ hC1)).mono ?_⟩
      rintro e w5 ⟨rfl, q5, rfl⟩
      dsimp only
      have hC5 : Below wr.heap.size wr (World.drewN _ q5) := drewT hC1 q5
      refine hK _ _ hC5 ?_
      clear hK K
      try simp only [Act.put, List.setIfInBounds_toArray, List.set_cons_succ, List.set_cons_zero]
      refine wpAnyC_takeD (i := 9) (some 46) (v := .bool false) (fun _ => trivial) (by kernel_rfl) rfl rfl (by kernel_rfl) (by kernel_rfl) (by kernel_rfl) (fun _ _ _ h => by cases h.1) hC5 (Or.inl ⟨by kernel_rfl, fun w' hC => by clear hC; go_simp⟩) ?_
      simp only [Act.put, List.setIfInBounds_toArray, List.set_cons_succ, List.set_cons_zero]
      refine wpAnyC_done (by kernel_rfl) ?_ _
      refine ⟨rfl, ?_⟩
      obtain ⟨x1, x2⟩ := HCE.out _ hC5
      generalize World.drewN _ q5 = w5 at *
      have HC5 := hide hC5
      have hX5 : RowsX w5 w1.heap.size (inL M) (rowL (.slice (some ⟨h, 0, none⟩) n n) V M) := HX.out.kept (ob := none) ⟨hC5.os, hC5.tape, hC5.output, hC5.size, fun k hk _ => hC5.block k hk⟩ (fun g e => by cases e)
      have hown : w5.ownsRow w1.heap.size 3 1 (V k) (rowN M k).length ((rowN M k).map (Value.int .i64)) := hX5.own (some k) (by show k < M.length; rw [HM.out.1]; exact HLT.out)
      rw [HM.out.2 k (Nat.le_refl _), HE2.out] at hown
      rw [HCL.out] at hown
      have hsp := spoilI_own (.slice aj nj cj) nj w1.heap.size (rowN N k) w5 hown HCL.out (by omega)
      have HX5 := hide hX5
      have HSP := hide hsp
      clear hX5 hown hsp hC1 hC5
      go_wp2_with fail
      refine HSP.out.mono ?_
      rintro e w6 ⟨rfl, hg6, cs, hcs, ho6⟩
      have hVk : V k = .slice aj nj cj := HE2.out
      have hX6 := rowsL_spoil HX5.out (j := k) (by rw [HM.out.1]; exact HLT.out) (l := cs) (by rw [hVk]; exact hg6) (by rw [hVk, hcs]; exact ho6)
      have hb5 := HBB.out.trans (HC5.out.mono HBB.out.size)
      have hlow : ∀ j, (Value.slice aj nj cj).ownBlock = some j → w1.heap.size ≤ j := fun j e => (World.ownsRow.lt ho6 j e).1
      have HB6 := hide (hb5.grown hg6 hb5.size hlow)
      have HX6 := hide hX6
      have HG6 : Hid (er2 = 0 → ∃ p, gp = some ⟨p, 0, none⟩ ∧ GrV w6 w2.heap.size p (N.map onceF)) := fun e => by
        obtain ⟨p, hp, hg⟩ := HG.out e
        exact ⟨p, hp, (hg.below HC5.out).kept hg6 (fun g e => HVK.out g (by rw [hVk]; exact e))⟩
      have HS6 := hide (Nat.le_trans HSZ.out (Nat.le_trans HC5.out.size hg6.size))
      clear hg6 ho6 hX6 hb5 hlow hcs HSP
      go_wp2_with fail
      refine ⟨⟨k + 1, M.set k cs, HLT.out, by simp, by rw [List.length_set]; exact HM.out.1, fun j hj => ?_, HX6.out, HB6.out, HS6.out, HG6.out⟩, measZ2 HLT.out⟩
      rw [rowN_set _ _ _ _ (by rw [HM.out.1]; exact HLT.out), if_neg (by omega)]
      exact HM.out.2 j (by omega)
    · have e : n = k := by omega
      subst e
      obtain ⟨L, nx, ah, re, od, hBo⟩ := both_of wr _ _ N gp wp er2 HE.out hG HG0.out (fun e => by obtain ⟨p, hp, hR⟩ := HRR.out.1 e; exact ⟨p, hp, hR.below hB⟩) HRR.out.2
      have hT := told14_any wr gp wp L nx ah re od hBo
      have HB := hide (HB1.out.trans (hB.mono HB1.out.size))
      clear hk hML hMr hX hB hsz hG hBo
      go_wp2_with fail
      refine hT.mono ?_
      rintro e w7 ⟨rfl, hb7⟩
      have HB7 := hide (HB.out.trans (hb7.mono HB.out.size))
      clear hb7 hT
      go_wp2_with fail
      refine (HA.out _).mono ?_
      rintro e w8 ⟨rfl, hb8⟩
      have HB8 := hide (HB7.out.trans (hb8.mono HB7.out.size))
      clear hb8
      go_wp2_with fail
      go_ret
      exact ⟨rfl, HB8.out⟩

end Go.Proofs.Ytpdjmapmpicgjaa
