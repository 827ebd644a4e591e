/-
  Texts laid together in one: GraphTurned, Cut, GraphWalk0, GraphCome, GraphView, SlicesReverseI, GraphWalk.
-/
import Derived.WalkSpells
import Derived.WalkMore
import Derived.OwnWalk
import Derived.Test.YtclgjolplobdbaaProg
import Derived.Test.YtclgjolplobdbaaB01
import Derived.Test.YtclgjolplobdbaaB03
import Derived.WalkKit
import Derived.BigRegion
import Derived.Deep.RegionWith
import Derived.Deep.DrawnRows
import Derived.Deep.RegionLaw
import Derived.Deep.AppendLies
import Derived.Laws.EntriesVeiled
import Derived.Shelf.Slices.Reverse
/-
  turned of graph: the nodes from which edges lead to each node, in new memory.
-/
namespace Go.Proofs.Ytclgjolplobdbaa
open Go.RowKit
set_option linter.unusedVariables false
set_option linter.unusedSimpArgs false
set_option maxRecDepth 10000

/-- A row of counts, each at most M. -/
def CntB (w wr : World) (n M : Nat) : Prop := Below w.heap.size w wr ∧ ∃ cs : List Int, cs.length = n ∧ (∀ x ∈ cs, 0 ≤ x ∧ x ≤ M) ∧ wr.ownsRow w.heap.size 3 1 (.slice (some ⟨w.heap.size, 0, none⟩) n n) n (cs.map (Value.int .i64))
theorem CntB.at {w wr : World} {n M : Nat} (h : CntB w wr n M) {t : Nat} (ht : t < n) : ∃ x : Int, wr.cell? ⟨w.heap.size, t, none⟩ = some (.int .i64 x) ∧ wr.frozen? ⟨w.heap.size, t, none⟩ = false ∧ 0 ≤ x ∧ x ≤ M ∧ CntB w (wr.setCell ⟨w.heap.size, t, none⟩ (.int .i64 (x + 1))) n (M + 1) := by
  obtain ⟨hb, cs, hl, hc, ho⟩ := h
  have hm := hc (nth cs t) (by have : nth cs t = cs[t] := by simp [nth, List.getD, hl, ht]
                               rw [this]; exact List.getElem_mem _)
  refine ⟨nth cs t, ?_, ho.frozenAt _, hm.1, hm.2, hb.grown (grown_setCell wr w.heap.size t _) hb.size (fun k e => by cases e; exact Nat.le_refl _), cs.set t (nth cs t + 1), by rw [List.length_set]; exact hl, fun x hx => ?_, ?_⟩
  · rw [ho.cellAt t (by omega)]; simp [nth, List.getD, hl, ht]
  · rcases List.mem_or_eq_of_mem_set hx with h | h
    · have := hc x h; omega
    · omega
  · have := own_setAt ho t (.int .i64 (nth cs t + 1))
    rw [List.map_set]; exact this
theorem CntB.mono {w wr : World} {n M M' : Nat} (h : CntB w wr n M) (hm : M ≤ M') : CntB w wr n M' := by
  obtain ⟨hb, cs, hl, hc, ho⟩ := h
  exact ⟨hb, cs, hl, fun x hx => ⟨(hc x hx).1, by have := (hc x hx).2; omega⟩, ho⟩
theorem CntB.below {w wr w' : World} {n M : Nat} (h : CntB w wr n M) (hb : Below wr.heap.size wr w') : CntB w w' n M := by
  obtain ⟨hb0, cs, hl, hc, ho⟩ := h
  exact ⟨hb0.trans (hb.mono hb0.size), cs, hl, hc, own_below ho hb⟩
theorem rep_set (n k : Nat) : (List.replicate n ([] : List Int)).set k [] = List.replicate n [] := by
  apply List.ext_getElem (by simp)
  intro i h1 h2
  simp [List.getElem_set]

set_option maxHeartbeats 8000000 in
theorem turned_any (a : Option Addr) (n c : Nat) (N : List (List Int)) (w : World) (hv : LV w a N) (hl : N.length = n) (hn : n ≤ 4096) (hE : Edges n N) (hD : ∀ j, (rowN N j).Nodup) :
    Calls Try.prog 38 #[.slice a n c] w fun e w' => ∃ v, e = .returned v ∧ OwnL w' w.heap.size v (aheadR N) ∧ Below w.heap.size w w' := by
  obtain ⟨i0, hi, hz0, hz1, hz2⟩ := info_parts GrInts.info
  obtain ⟨j0, hj, hy0, hy1, hy2⟩ := info_parts GrLists.info
  have HRL : Hid (∀ j, (rowN N j).length ≤ 4096) := fun j => Nat.le_trans (nodup_lenG n _ (hD j) (fun x hx => hE j x hx)) hn
  have HL := hide hl
  have HV := hide hv
  have HE := hide hE
  have HD := hide hD
  have HN := hide hn
  have hni : (n : Int) ≤ 4096 := by omega
  clear hl hv hE hD
  go_enter Try.func38, Try.ntmps38
  go_wp2_with (at_make; refine wpList_make_full _ rfl _ _ 41 rfl w.heap.size 3 i0 (.int .i64 0) 1 Try.underlying41 hi hz0 hz1 _ _ _ _ n rfl rfl (by rfl) (by rfl) (by rw [hz2]; omega) (by unfold maxLen; omega) (Nat.le_refl _) ?_)
  intro w1 hown1 hgr1
  have HC : Hid (CntB w w1 n 0) := ⟨(Below.refl _ w).grown hgr1 (Nat.le_refl _) (by simp), List.replicate n 0, by simp, fun x hx => by simp at hx; omega, by
    have := made_row (List.replicate n 0) (by simpa using hown1)
    rw [filled_zero] at this; exact this⟩
  clear hown1 hgr1
  go_wp2_with fail
  go_loopw [19] (fun i wr => ∃ k : Nat, k ≤ n ∧ i = .int .i64 k ∧ CntB w wr n (4096 * k)) (fun i _ => n - (intOf i).toNat)
  case atStart => exact ⟨0, Nat.zero_le _, rfl, HC.out⟩
  case round =>
    obtain ⟨k, hk, rfl, hS⟩ := hrel
    by_cases hlt : k < n
    · obtain ⟨b, off, aj, nj, cj, rfl, hb, hc, hcl, hcc, hvj⟩ := HV.out k (by rw [HL.out]; exact hlt)
      have hc' := (hS.1.cell (p := ⟨b, off + k, none⟩) hb).trans hc
      have hki : (k : Int) < (n : Int) := by omega
      have HCL := hide hcl
      have HVJ := hide hvj
      have HLT := hide hlt
      have HSS := hide hS
      have HNJ : Hid (nj ≤ 4096) := by show _ ≤ _; rw [← hcl]; exact HRL.out k
      have hnj : (nj : Int) ≤ 4096 := by have := HNJ.out; omega
      rename World => wo
      clear hS hcl hvj hlt hk hb hc hcc HC
      go_wp2_with fail
      go_loopw [25] (fun i wr => ∃ q : Nat, q ≤ nj ∧ i = .int .i64 q ∧ CntB w wr n (4096 * k + q)) (fun i _ => nj - (intOf i).toNat)
      case atStart => exact ⟨0, Nat.zero_le _, rfl, HSS.out⟩
      case round =>
        obtain ⟨q, hq, rfl, hS⟩ := hrel
        by_cases hlt : q < nj
        · obtain ⟨b2, off2, rfl, hb2, hc2⟩ := HVJ.out q (by rw [HCL.out]; exact hlt)
          have hcq := (hS.1.cell (p := ⟨b2, off2 + q, none⟩) hb2).trans hc2
          have hx := HE.out k (nth (rowN N k) q) (by have : nth (rowN N k) q = (rowN N k)[q]'(by rw [HCL.out]; exact hlt) := by simp [nth, List.getD, HCL.out, hlt]
                                                     rw [this]; exact List.getElem_mem _)
          obtain ⟨t, hte⟩ := Int.eq_ofNat_of_zero_le hx.1
          rw [hte] at hcq hx
          obtain ⟨x, hcx, hfx, hx0, hx1, hS'⟩ := hS.at (t := t) (by omega)
          have hti : (t : Int) < (n : Int) := hx.2
          have hqi : (q : Int) < (nj : Int) := by omega
          have hxb : x < 100000000 := by have := HLT.out; have := HN.out; have := HNJ.out; omega
          have HQ := hide hlt
          have HS' := hide (hS'.mono (M' := 4096 * k + (q + 1)) (by omega))
          clear hS hlt hq hb2 hc2 hx hte hS' hx1 hc'
          go_wp2_with fail
          exact ⟨⟨q + 1, HQ.out, by simp, HS'.out⟩, measZ2 HQ.out⟩
        · have HSE := hide (hS.mono (M' := 4096 * (k + 1)) (by have := HNJ.out; omega))
          obtain rfl : q = nj := by omega
          clear hS hq hc'
          go_wp2_with fail
          exact ⟨⟨k + 1, HLT.out, by simp, HSE.out⟩, measZ2 HLT.out⟩
    · have e : n = k := by omega
      subst e
      have HSS := hide hS
      clear hS HC hk
      rename World => wo
      have HBO : Hid (w.heap.size < wo.heap.size) := by
        obtain ⟨_, cs, _, _, ho⟩ := HSS.out
        exact (World.ownsRow.lt ho w.heap.size rfl).2
      go_wp2_with (at_make; refine wpList_make_full _ rfl _ _ 40 rfl wo.heap.size 41 j0 (.slice none 0 0) 1 Try.underlying40 hj hy0 hy1 _ _ _ _ n rfl rfl (by rfl) (by rfl) (by rw [hy2]; omega) (by unfold maxLen; omega) (Nat.le_refl _) ?_)
      intro w2 hown2 hgr2
      have hb2 : Below wo.heap.size wo w2 := (Below.refl _ wo).grown hgr2 (Nat.le_refl _) (by simp)
      have HC2 := hide (HSS.out.below hb2)
      have HO2 : Hid (OwnL w2 wo.heap.size (.slice (some ⟨wo.heap.size, 0, none⟩) n n) (List.replicate n [])) := OwnL.made (by simpa using hown2)
      have HP : Hid (w.heap.size ≤ wo.heap.size ∧ wo.heap.size ≤ w2.heap.size) := ⟨by have := HBO.out; omega, hb2.size⟩
      clear hown2 hgr2 HSS hb2
      generalize wo.heap.size = H at *
      go_wp2_with fail
      go_loopw [42] (fun i wr => ∃ k : Nat, k ≤ n ∧ i = .int .i64 k ∧ CntB w wr n (4096 * n) ∧ OwnL wr H (.slice (some ⟨H, 0, none⟩) n n) (List.replicate n []) ∧ H ≤ wr.heap.size) (fun i _ => n - (intOf i).toNat)
      case atStart => exact ⟨0, Nat.zero_le _, rfl, HC2.out, HO2.out, HP.out.2⟩
      case round =>
        obtain ⟨k, hk, rfl, hS, hO, hH⟩ := hrel
        by_cases hlt : k < n
        · obtain ⟨x, hcx, hfx, hx0, hx1, _⟩ := hS.at (t := k) hlt
          have hki : (k : Int) < (n : Int) := by omega
          obtain ⟨xn, rfl⟩ := Int.eq_ofNat_of_zero_le hx0
          have hxb : xn < 100000000 := by have := HN.out; omega
          have HS := hide hS
          have HO := hide hO
          have HLT := hide hlt
          have HHH := hide hH
          rename World => wq
          have hcH := OwnL.row (w := wq) (lo := H) (h := H) (c := n) (N := List.replicate n []) (by simpa using hO) (j := k) (by simpa using hlt)
          obtain ⟨uH, hcH, hfH, hltH, _⟩ := hcH
          clear hS hO hk hlt hH hx1 hx0 HC2 HO2
          go_wp2_with (at_make; refine wpList_make_own _ rfl _ _ 41 rfl wq.heap.size 3 i0 (.int .i64 0) 1 Try.underlying41 hi hz0 hz1 _ _ _ xn rfl rfl (by rfl) (by rw [hz2]; omega) (by unfold maxLen; omega) (Nat.le_refl _) ?_)
          intro w3 hown3 hgr3
          have hb3 : Below wq.heap.size wq w3 := (Below.refl _ wq).grown hgr3 (Nat.le_refl _) (by simp)
          obtain ⟨hO3, ⟨u3, hu3⟩, hf3, _⟩ := OwnL.put (W := wq) (w := w3) (lo := H) (h := H) (c := n) (N := List.replicate n []) (by simpa using HO.out) hb3 (j := k) (by simpa using HLT.out) (v := .slice (some ⟨wq.heap.size, 0, none⟩) 0 xn) (l := []) HHH.out hown3
          rw [rep_set] at hO3
          have hO3' : OwnL (w3.setCell ⟨H, k, none⟩ (.slice (some ⟨wq.heap.size, 0, none⟩) 0 xn)) H (.slice (some ⟨H, 0, none⟩) n n) (List.replicate n []) := by simpa using hO3
          have HO3 := hide hO3'
          have hC3 := HS.out.below hb3
          have HC3 : Hid (CntB w (w3.setCell ⟨H, k, none⟩ (.slice (some ⟨wq.heap.size, 0, none⟩) 0 xn)) n (4096 * n)) := by
            obtain ⟨hb0, cs, hl, hc, ho⟩ := hC3
            have hg := grown_setCell w3 H k (.slice (some ⟨wq.heap.size, 0, none⟩) 0 xn)
            exact ⟨hb0.grown hg hb0.size (fun q e => by cases e; exact HP.out.1), cs, hl, hc, own_grown ho hg (fun g e e2 => by cases e; have : Value.ownBlock (.slice (some ⟨w.heap.size, 0, none⟩) n n) = some w.heap.size := rfl; rw [this] at e2; cases e2; have := HBO.out; omega)⟩
          have HH3 : Hid (H ≤ (w3.setCell ⟨H, k, none⟩ (.slice (some ⟨wq.heap.size, 0, none⟩) 0 xn)).heap.size) := by show _ ≤ _; rw [World.size_setCell]; exact Nat.le_trans HHH.out hb3.size
          clear hO3 hO3' hC3 hown3 hgr3 hb3
          go_wp2_with fail
          exact ⟨⟨k + 1, HLT.out, by simp, HC3.out, HO3.out, HH3.out⟩, measZ2 HLT.out⟩
        · have e : n = k := by omega
          subst e
          have HLM : Hid (List.replicate n [] = aheadQ N 0 0) := by show _ = _; rw [aheadQ_start, HL.out]
          rw [HLM.out] at hO
          have HO4 := hide hO
          have HB4 := hide hS.1
          have HH4 := hide hH
          clear hS hO hH hk HC2 HO2 HLM
          rename World => ws
          go_wp2_with fail
          go_loopw [56] (fun i wr => ∃ k : Nat, k ≤ n ∧ i = .int .i64 k ∧ Below w.heap.size w wr ∧ OwnL wr H (.slice (some ⟨H, 0, none⟩) n n) (aheadQ N k 0) ∧ H ≤ wr.heap.size) (fun i _ => n - (intOf i).toNat)
          case atStart => exact ⟨0, Nat.zero_le _, rfl, HB4.out, HO4.out, HH4.out⟩
          case round =>
            obtain ⟨k, hk, rfl, hB, hO, hH⟩ := hrel
            by_cases hlt : k < n
            · obtain ⟨b, off, aj, nj, cj, rfl, hb, hc, hcl, hcc, hvj⟩ := HV.out k (by rw [HL.out]; exact hlt)
              have hc' := (hB.cell (p := ⟨b, off + k, none⟩) hb).trans hc
              have hki : (k : Int) < (n : Int) := by omega
              have HCL := hide hcl
              have HVJ := hide hvj
              have HLT := hide hlt
              have HB5 := hide hB
              have HO5 := hide hO
              have HH5 := hide hH
              have HNJ : Hid (nj ≤ 4096) := by show _ ≤ _; rw [← hcl]; exact HRL.out k
              have hnj : (nj : Int) ≤ 4096 := by have := HNJ.out; omega
              rename World => wt
              clear hB hO hH hcl hvj hlt hk hb hc hcc HO4 HB4 HH4
              go_wp2_with fail
              go_loopw [63] (fun i wr => ∃ q : Nat, q ≤ nj ∧ i = .int .i64 q ∧ Below w.heap.size w wr ∧ OwnL wr H (.slice (some ⟨H, 0, none⟩) n n) (aheadQ N k q) ∧ H ≤ wr.heap.size) (fun i _ => nj - (intOf i).toNat)
              case atStart => exact ⟨0, Nat.zero_le _, rfl, HB5.out, HO5.out, HH5.out⟩
              case round =>
                obtain ⟨q, hq, rfl, hB, hO, hH⟩ := hrel
                by_cases hlt : q < nj
                · obtain ⟨b2, off2, rfl, hb2, hc2⟩ := HVJ.out q (by rw [HCL.out]; exact hlt)
                  have hcq := (hB.cell (p := ⟨b2, off2 + q, none⟩) hb2).trans hc2
                  have hx := HE.out k (nth (rowN N k) q) (by have : nth (rowN N k) q = (rowN N k)[q]'(by rw [HCL.out]; exact hlt) := by simp [nth, List.getD, HCL.out, hlt]
                                                             rw [this]; exact List.getElem_mem _)
                  obtain ⟨t, hte⟩ := Int.eq_ofNat_of_zero_le hx.1
                  have HSTEP := hide (aheadQ_step N k q t (HD.out k) (by rw [HCL.out]; exact hlt) hte (by rw [HL.out]; have := hx.2; omega))
                  rw [hte] at hcq hx
                  have hti : (t : Int) < (n : Int) := hx.2
                  have htn : t < n := by omega
                  have hqi : (q : Int) < (nj : Int) := by omega
                  rename World => wz
                  have hbA : Below wz.heap.size wz (wz.alloc (.cells #[.int .i64 (k : Int)] 3)) := (Below.refl _ _).alloc (Nat.le_refl _) _
                  have hql : (aheadQ N k q).length = n := by rw [aheadQ_len]; exact HL.out
                  have hOA : OwnL (wz.alloc (.cells #[.int .i64 (k : Int)] 3)) H (.slice (some ⟨H, 0, none⟩) (aheadQ N k q).length n) (aheadQ N k q) := by rw [hql]; exact hO.below hbA
                  have hOz : OwnL wz H (.slice (some ⟨H, 0, none⟩) (aheadQ N k q).length n) (aheadQ N k q) := by rw [hql]; exact hO
                  have hHz : H < wz.heap.size := by
                    obtain ⟨_, _, _, h3, _⟩ := OwnL.row hOz (j := t) (by rw [hql]; exact htn)
                    exact h3
                  obtain ⟨v, hcv, hfv, _, _, hrow, hput⟩ := OwnL.row hOA (j := t) (by rw [hql]; exact htn)
                  have hcz : wz.cell? ⟨H, t, none⟩ = some v := (hbA.cell (p := ⟨H, t, none⟩) hHz).symm.trans hcv
                  have hrl : (rowN (aheadQ N k q) t).length ≤ 4097 := by
                    rw [aheadQ_row N k q t (by rw [HL.out]; exact htn), List.length_append]
                    have h1 := aheadT_len N k (t : Int)
                    have h2 : (if (t : Int) ∈ (rowN N k).take q then [(k : Int)] else []).length ≤ 1 := by split <;> simp
                    have := HLT.out
                    omega
                  obtain ⟨a4, c4, rfl⟩ := own_shapeG hrow
                  rw [hql] at hput
                  generalize rowN (aheadQ N k q) t = row at *
                  have HROW := hide hrow
                  have HPUT := hide hput
                  have HRL2 := hide hrl
                  have HQ := hide hlt
                  have HBZ := hide (hB.trans (hbA.mono hB.size))
                  have HHZ := hide hHz
                  have HWZ := hide (hB.size)
                  clear hB hO hH hlt hq hb2 hc2 hx hte hOA hOz hbA hcv hfv hrow hput hrl htn hql hc' HO5 HB5 HH5
                  go_wp2_with (at_builtin; refine wpList_app1 rfl (.tmp 72) (.tmp 74) rfl H _ row (k : Int) rfl wz.heap.size rfl (allocNew _ _ rfl) HROW.out (by have := HRL2.out; omega) (by simp; have := HHZ.out; omega) ?_)
                  intro g cap w5 ho5 hg5 hat
                  have hp := HPUT.out w5 (.slice (some ⟨g, 0, none⟩) (row.length + 1) cap) (row ++ [(k : Int)]) hg5 (by
                    rcases hat with h | h
                    · exact .inl h.symm
                    · exact .inr fun g' e => by cases e; rw [h]; simp) (by simpa using ho5)
                  obtain ⟨hO6, ⟨u6, hu6⟩, hf6⟩ := hp
                  rw [HSTEP.out] at hO6
                  have HO6 := hide hO6
                  have hB6 : Below w.heap.size w w5 := HBZ.out.grown hg5 HBZ.out.size (fun i e => by have := (World.ownsRow.lt HROW.out i e).1; have := HP.out.1; omega)
                  have HB6 : Hid (Below w.heap.size w (w5.setCell ⟨H, t, none⟩ (.slice (some ⟨g, 0, none⟩) (row.length + 1) cap))) := hB6.grown (grown_setCell w5 H t _) hB6.size (fun i e => by cases e; exact HP.out.1)
                  have HH6 : Hid (H ≤ (w5.setCell ⟨H, t, none⟩ (.slice (some ⟨g, 0, none⟩) (row.length + 1) cap)).heap.size) := by
                    show _ ≤ _
                    rw [World.size_setCell]
                    have := hg5.size
                    rw [World.size_alloc] at this
                    have := HHZ.out
                    omega
                  clear hO6 hB6 ho5 hg5 hat HPUT HROW
                  go_wp2_with fail
                  exact ⟨⟨q + 1, HQ.out, by simp, HB6.out, HO6.out, HH6.out⟩, measZ2 HQ.out⟩
                · have e : nj = q := by omega
                  subst e
                  have HE7 : Hid (aheadQ N k nj = aheadQ N (k + 1) 0) := by show _ = _; rw [← HCL.out, aheadQ_end]
                  rw [HE7.out] at hO
                  have HO7 := hide hO
                  have HB7 := hide hB
                  have HH7 := hide hH
                  clear hO hB hH hq hc' HO5 HB5 HH5 HE7
                  go_wp2_with fail
                  exact ⟨⟨k + 1, HLT.out, by simp, HB7.out, HO7.out, HH7.out⟩, measZ2 HLT.out⟩
            · have e : n = k := by omega
              subst e
              have HW : Hid (aheadQ N n 0 = aheadR N) := by show _ = _; rw [← HL.out, aheadQ_whole]
              rw [HW.out] at hO
              have HO7 := hide (hO.mono HP.out.1)
              have HB7 := hide hB
              clear hO hB hH hk HO4 HB4 HH4
              go_wp2_with fail
              go_ret
              exact ⟨_, rfl, HO7.out, HB7.out⟩

end Go.Proofs.Ytclgjolplobdbaa

/-
  A long function cut at one of its regions: what holds there, and the rest by itself.
-/
namespace Go.Proofs.Ytclgjolplobdbaa
open Go

/-- The first region of a piece of code. -/
def headR : Code → Nat
  | .region k _ _ => k
  | .seq a _ => headR a
  | _ => 99999
/-- The code from a region on. -/
def dropR (n : Nat) : Code → Code
  | .seq a b => match headR a == n with
    | true => .seq a b
    | false => dropR n b
  | c => c
/-- The code ahead of a region, which ends in J. -/
def cutWp (P : Program) (n : Nat) (J : Act → World → Prop) (Q : Exit → Act → World → Prop) : Code → Act → World → Prop
  | .seq a b, x, w => match headR a == n with
    | true => J x w
    | false => a.wp P (Exit.then (cutWp P n J Q b) Q) x w
  | c, x, w => c.wp P Q x w

theorem wp_cut {P : Program} (n : Nat) {J : Act → World → Prop} {Q : Exit → Act → World → Prop} : ∀ (c : Code) (x : Act) (w : World), cutWp P n J Q c x w → (∀ x w, J x w → (dropR n c).wp P Q x w) → c.wp P Q x w
  | .seq a b, x, w, h, hJ => by
    unfold cutWp at h
    unfold dropR at hJ
    cases e : headR a == n with
    | true => rw [e] at h hJ; exact hJ _ _ h
    | false =>
      rw [e] at h hJ
      refine wp_seq (wp_mono h fun e a' w' hq => ?_)
      cases e with
      | normal => exact wp_cut n b a' w' hq hJ
      | _ => exact hq
  | .skip, _, _, h, _ => h
  | .region .., _, _, h, _ => h
  | .cond .., _, _, h, _ => h
  | .block .., _, _, h, _ => h
  | .loop .., _, _, h, _ => h
  | .rangeFunc .., _, _, h, _ => h
  | .exit .., _, _, h, _ => h
  | .scope .., _, _, h, _ => h
  | .label .., _, _, h, _ => h
  | .goto .., _, _, h, _ => h
  | .ret, _, _, h, _ => h
  | .refuse .., _, _, h, _ => h
theorem cut_step {P : Program} {n : Nat} {J : Act → World → Prop} {Q : Exit → Act → World → Prop} {a b : Code} {x : Act} {w : World} (hn : (headR a == n) = false) (h : ∀ K : Act → World → Prop, (∀ x w, cutWp P n J Q b x w → K x w) → a.wp P (Exit.then K Q) x w) : cutWp P n J Q (.seq a b) x w := by
  unfold cutWp
  rw [hn]
  exact h _ fun _ _ h => h
theorem cut_done {P : Program} {n : Nat} {J : Act → World → Prop} {Q : Exit → Act → World → Prop} {a b : Code} {x : Act} {w : World} (hn : (headR a == n) = true) (h : J x w) : cutWp P n J Q (.seq a b) x w := by
  unfold cutWp
  rw [hn]
  exact h
theorem then_normal {K : Act → World → Prop} {Q : Exit → Act → World → Prop} {x : Act} {w : World} : Exit.then K Q .normal x w = K x w := rfl
theorem then_ret {K : Act → World → Prop} {Q : Exit → Act → World → Prop} {x : Act} {w : World} : Exit.then K Q .ret x w = Q .ret x w := rfl

end Go.Proofs.Ytclgjolplobdbaa

/-
  A graph in memory while it is walked: its block, the row of nodes that the walk came to, and the row of those that it left.
-/
namespace Go.Proofs.Ytclgjolplobdbaa
open Go.RowKit
set_option linter.unusedVariables false
set_option linter.unusedSimpArgs false
set_option maxRecDepth 10000

/-- A graph's cells. -/
def gC (nv av : Value) (m : Nat → Nat) (cv ov : Value) : List Value := nv :: av :: (arr64 m ++ [cv, ov])
theorem gC_len (nv av : Value) (m : Nat → Nat) (cv ov : Value) : (gC nv av m cv ov).length = 68 := by simp [gC, arr64_len]
theorem gC_m (nv av : Value) (m : Nat → Nat) (cv ov : Value) (k : Nat) (h : k < 64) : (gC nv av m cv ov)[2 + k]? = some (.int .u64 (m k : Int)) := by
  have e : (gC nv av m cv ov)[2 + k]? = (arr64 m ++ [cv, ov])[k]? := by rw [Nat.add_comm]; rfl
  rw [e, List.getElem?_append_left (by rw [arr64_len]; exact h), arr64_get m k h]
theorem gC_c (nv av : Value) (m : Nat → Nat) (cv ov : Value) : (gC nv av m cv ov)[66]? = some cv := by
  have e : (gC nv av m cv ov)[66]? = (arr64 m ++ [cv, ov])[64]? := rfl
  rw [e, List.getElem?_append_right (by rw [arr64_len]; omega), arr64_len]; rfl
theorem gC_o (nv av : Value) (m : Nat → Nat) (cv ov : Value) : (gC nv av m cv ov)[67]? = some ov := by
  have e : (gC nv av m cv ov)[67]? = (arr64 m ++ [cv, ov])[65]? := rfl
  rw [e, List.getElem?_append_right (by rw [arr64_len]; omega), arr64_len]; rfl
theorem gC_setM (nv av : Value) (m : Nat → Nat) (cv ov : Value) (i : Nat) (h : i < 4096) : (gC nv av m cv ov).set (2 + i / 64) (.int .u64 (setM m i (i / 64) : Int)) = gC nv av (setM m i) cv ov := by
  have e : (gC nv av m cv ov).set (2 + i / 64) (.int .u64 (setM m i (i / 64) : Int)) = nv :: av :: ((arr64 m ++ [cv, ov]).set (i / 64) (.int .u64 (setM m i (i / 64) : Int))) := by rw [Nat.add_comm]; rfl
  rw [e, List.set_append_left _ _ (by rw [arr64_len]; omega), arr64_set m i h]; rfl
theorem gC_setC (nv av : Value) (m : Nat → Nat) (cv ov v : Value) : (gC nv av m cv ov).set 66 v = gC nv av m v ov := by
  have e : (gC nv av m cv ov).set 66 v = nv :: av :: ((arr64 m ++ [cv, ov]).set 64 v) := rfl
  rw [e, List.set_append_right _ _ (by rw [arr64_len]; omega), arr64_len]; rfl
theorem gC_setO (nv av : Value) (m : Nat → Nat) (cv ov v : Value) : (gC nv av m cv ov).set 67 v = gC nv av m cv v := by
  have e : (gC nv av m cv ov).set 67 v = nv :: av :: ((arr64 m ++ [cv, ov]).set 65 v) := rfl
  rw [e, List.set_append_right _ _ (by rw [arr64_len]; omega), arr64_len]; rfl
theorem gC_setA (nv av : Value) (m : Nat → Nat) (cv ov v : Value) : (gC nv av m cv ov).set 1 v = gC nv v m cv ov := rfl

/-- Block p is a graph. -/
def GrB (w : World) (p : Nat) (nv av : Value) (m : Nat → Nat) (cv ov : Value) : Prop := w.heap[p]? = some (.cells (gC nv av m cv ov).toArray 66 (0, 0)) ∧ ∀ k, m k < 18446744073709551616
theorem GrB.cell {w : World} {p : Nat} {nv av : Value} {m : Nat → Nat} {cv ov : Value} (h : GrB w p nv av m cv ov) (k : Nat) : w.cell? ⟨p, k, none⟩ = (gC nv av m cv ov)[k]? := by simp [World.cell?, h.1]
theorem GrB.frozen {w : World} {p : Nat} {nv av : Value} {m : Nat → Nat} {cv ov : Value} (h : GrB w p nv av m cv ov) (k : Nat) : w.frozen? ⟨p, k, none⟩ = false := by simp [World.frozen?, h.1]
theorem GrB.lt {w : World} {p : Nat} {nv av : Value} {m : Nat → Nat} {cv ov : Value} (h : GrB w p nv av m cv ov) : p < w.heap.size := (Array.getElem?_eq_some_iff.1 h.1).1
theorem GrB.mkAt {w : World} {p : Nat} {nv av : Value} {m : Nat → Nat} {cv ov : Value} (h : GrB w p nv av m cv ov) : MkAt w p 2 m := fun k hk => ⟨by rw [h.cell, gC_m _ _ _ _ _ k hk], h.frozen _, h.2 k⟩
theorem GrB.other {w w' : World} {p : Nat} {nv av : Value} {m : Nat → Nat} {cv ov : Value} (h : GrB w p nv av m cv ov) (he : w'.heap[p]? = w.heap[p]?) : GrB w' p nv av m cv ov := ⟨he.trans h.1, h.2⟩
theorem GrB.below {w w' : World} {p : Nat} {nv av : Value} {m : Nat → Nat} {cv ov : Value} (h : GrB w p nv av m cv ov) (hb : Below w.heap.size w w') : GrB w' p nv av m cv ov := h.other (hb.block p h.lt)
theorem GrB.set {w : World} {p : Nat} {nv av : Value} {m : Nat → Nat} {cv ov : Value} (h : GrB w p nv av m cv ov) (k : Nat) (v : Value) : (w.setCell ⟨p, k, none⟩ v).heap[p]? = some (.cells ((gC nv av m cv ov).set k v).toArray 66 (0, 0)) := by
  simp only [World.setCell, Array.getElem?_modify]
  rw [if_pos trivial, h.1]
  simp
theorem GrB.setM {w : World} {p : Nat} {nv av : Value} {m : Nat → Nat} {cv ov : Value} (h : GrB w p nv av m cv ov) {i : Nat} (hi : i < 4096) (d : Nat) : GrB ((w.setCell ⟨p, 2 + i / 64, none⟩ (.int .u64 (setM m i (i / 64) : Int))).drewN d) p nv av (Go.Proofs.Ytclgjolplobdbaa.setM m i) cv ov := by
  refine ⟨?_, fun k => setM_lt m i k (h.2 k)⟩
  have := h.set (2 + i / 64) (.int .u64 (Go.Proofs.Ytclgjolplobdbaa.setM m i (i / 64) : Int))
  rw [gC_setM _ _ _ _ _ i hi] at this
  exact this

/-- The walk's memory, since the world W0. -/
structure WkS (W0 : World) (p : Nat) (nv av : Value) (w : World) (m : Nat → Nat) (cv ov : Value) (mc c l : List Int) : Prop where
  blk : GrB w p nv av m cv ov
  marked : Marked m mc
  came : w.ownsRow W0.heap.size 3 1 cv c.length (c.map (Value.int .i64))
  left : w.ownsRow W0.heap.size 3 1 ov l.length (l.map (Value.int .i64))
  apart : ∀ g, cv.ownBlock = some g → ov.ownBlock ≠ some g
  grown : W0.grownBy w (some p)
  plt : p < W0.heap.size

theorem WkS.mark {W0 : World} {p : Nat} {nv av : Value} {w : World} {m : Nat → Nat} {cv ov : Value} {mc c l : List Int} (h : WkS W0 p nv av w m cv ov mc c l) {i : Nat} (hi : i < 4096) (d : Nat) {w3 : World} (hd : w3 = (w.setCell ⟨p, 2 + i / 64, none⟩ (.int .u64 (setM m i (i / 64) : Int))).drewN d) : WkS W0 p nv av w3 (setM m i) cv ov (mc ++ [(i : Int)]) c l := by
  have hg : w.grownBy w3 (some p) := by
    rw [hd]
    have := grown_setCell w p (2 + i / 64) (.int .u64 (setM m i (i / 64) : Int))
    exact ⟨this.os, this.tape, this.output, this.size, this.block⟩
  have hp := h.plt
  refine ⟨by rw [hd]; exact h.blk.setM hi d, h.marked.add i, own_grown h.came hg (fun g e e2 => by have := (World.ownsRow.lt h.came g e2).1; cases e; omega), own_grown h.left hg (fun g e e2 => by have := (World.ownsRow.lt h.left g e2).1; cases e; omega), h.apart, h.grown.trans hg, hp⟩
theorem WkS.below {W0 : World} {p : Nat} {nv av : Value} {w w' : World} {m : Nat → Nat} {cv ov : Value} {mc c l : List Int} (h : WkS W0 p nv av w m cv ov mc c l) (hb : Below w.heap.size w w') : WkS W0 p nv av w' m cv ov mc c l :=
  ⟨h.blk.below hb, h.marked, own_below h.came hb, own_below h.left hb, h.apart, h.grown.trans ⟨hb.os, hb.tape, hb.output, hb.size, fun k hk _ => hb.block k hk⟩, h.plt⟩
theorem WkS.pushC {W0 : World} {p : Nat} {nv av : Value} {w w5 : World} {m : Nat → Nat} {cv ov : Value} {mc c l : List Int} (h : WkS W0 p nv av w m cv ov mc c l) (i : Int) {g cap k : Nat} (hg : w.grownBy w5 cv.ownBlock) (hat : cv.ownBlock = some g ∨ g = w.heap.size) (ho : w5.ownsRow W0.heap.size 3 1 (.slice (some ⟨g, 0, none⟩) k cap) (c ++ [i]).length ((c ++ [i]).map (Value.int .i64))) : WkS W0 p nv av (w5.setCell ⟨p, 66, none⟩ (.slice (some ⟨g, 0, none⟩) k cap)) m (.slice (some ⟨g, 0, none⟩) k cap) ov mc (c ++ [i]) l := by
  have hp := h.plt
  have hne : ∀ j, cv.ownBlock = some j → W0.heap.size ≤ j := fun j e => (World.ownsRow.lt h.came j e).1
  have hb5 : GrB w5 p nv av m cv ov := h.blk.other (hg.block p h.blk.lt (fun e => by have := hne p e.symm; omega))
  have hs := hb5.set 66 (.slice (some ⟨g, 0, none⟩) k cap)
  rw [gC_setC] at hs
  have hl5 := own_grown h.left hg (fun j e => h.apart j e)
  refine ⟨⟨hs, h.blk.2⟩, h.marked, ownsRow_setCell_below ho (by simp; exact hp) _, ownsRow_setCell_below hl5 (by simp; exact hp) _, fun j e e2 => ?_, ?_, hp⟩
  · cases e
    rcases hat with h1 | h1
    · exact h.apart g h1 e2
    · have := (World.ownsRow.lt h.left g e2).2; omega
  · exact (h.grown.andThen hg (fun j e => .inl (hne j e))).trans (grown_setCell w5 p 66 _)
theorem WkS.pushL {W0 : World} {p : Nat} {nv av : Value} {w w5 : World} {m : Nat → Nat} {cv ov : Value} {mc c l : List Int} (h : WkS W0 p nv av w m cv ov mc c l) (i : Int) {g cap k : Nat} (hg : w.grownBy w5 ov.ownBlock) (hat : ov.ownBlock = some g ∨ g = w.heap.size) (ho : w5.ownsRow W0.heap.size 3 1 (.slice (some ⟨g, 0, none⟩) k cap) (l ++ [i]).length ((l ++ [i]).map (Value.int .i64))) : WkS W0 p nv av (w5.setCell ⟨p, 67, none⟩ (.slice (some ⟨g, 0, none⟩) k cap)) m cv (.slice (some ⟨g, 0, none⟩) k cap) mc c (l ++ [i]) := by
  have hp := h.plt
  have hne : ∀ j, ov.ownBlock = some j → W0.heap.size ≤ j := fun j e => (World.ownsRow.lt h.left j e).1
  have hb5 : GrB w5 p nv av m cv ov := h.blk.other (hg.block p h.blk.lt (fun e => by have := hne p e.symm; omega))
  have hs := hb5.set 67 (.slice (some ⟨g, 0, none⟩) k cap)
  rw [gC_setO] at hs
  have hl5 := own_grown h.came hg (fun j e e2 => h.apart j e2 e)
  refine ⟨⟨hs, h.blk.2⟩, h.marked, ownsRow_setCell_below hl5 (by simp; exact hp) _, ownsRow_setCell_below ho (by simp; exact hp) _, fun j e e2 => ?_, ?_, hp⟩
  · cases e2
    rcases hat with h1 | h1
    · exact h.apart g e h1
    · have := (World.ownsRow.lt h.came g e).2; omega
  · exact (h.grown.andThen hg (fun j e => .inl (hne j e))).trans (grown_setCell w5 p 67 _)
/-- The edges stay. -/
theorem WkS.next {W0 : World} {p lo : Nat} {nv av : Value} {w : World} {m : Nat → Nat} {cv ov : Value} {mc c l : List Int} {N : List (List Int)} {v : Value} (h : WkS W0 p nv av w m cv ov mc c l) (hN : OwnL W0 lo v N) (hT : ∃ cs fr, W0.heap[p]? = some (.cells cs 66 fr)) : OwnL w lo v N :=
  hN.same fun g cs T fr _ hTT hg => by
    refine (h.grown.block g (Array.getElem?_eq_some_iff.1 hg).1 (fun e => ?_)).trans hg
    cases e
    obtain ⟨cs', fr', h'⟩ := hT
    rw [h'] at hg
    cases hg
    rcases hTT with e | e <;> exact absurd e (by decide)
/-- What lay there but the graph stays. -/
theorem WkS.old {W0 : World} {p k : Nat} {nv av : Value} {w : World} {m : Nat → Nat} {cv ov : Value} {mc c l : List Int} {o : Obj} (h : WkS W0 p nv av w m cv ov mc c l) (hk : W0.heap[k]? = some o) (hne : k ≠ p) : w.heap[k]? = some o :=
  (h.grown.block k (Array.getElem?_eq_some_iff.1 hk).1 (fun e => hne (Option.some.inj e))).trans hk

/-- What the walk came to behind the first k edges of a node. -/
theorem dfsK_seg (N : List (List Int)) (n : Nat) (hE : Edges n N) (f : Nat) (i : Int) (s : WalkS) (hg : GoodC n s.1) (hi : i ∉ s.1) (h0 : 0 ≤ i) (h1 : i < n) (hl : n - s.1.length ≤ f + 1) (hls : s.2.length ≤ s.1.length) (k : Nat) : GoodC n (dfsK N f i s k).1 ∧ n - (dfsK N f i s k).1.length ≤ f ∧ (dfsK N f i s k).2.length ≤ (dfsK N f i s k).1.length := by
  obtain ⟨e, d, hs, _, _⟩ := (walk_all N n hE f).1 ((rowN N i.toNat).take k) (s.1 ++ [i], s.2) (hg.snoc hi h0 h1) (fun x hx => hE _ x (List.mem_of_mem_take hx)) (by simp; omega)
  have hc : (dfsK N f i s k).1 = (s.1 ++ [i]) ++ e := hs.came
  have hd : (dfsK N f i s k).2 = s.2 ++ d := hs.left
  have hp := hs.perm.length_eq
  refine ⟨hs.good, ?_, ?_⟩
  · rw [hc]; simp; omega
  · rw [hc, hd]; simp; omega

end Go.Proofs.Ytclgjolplobdbaa

/-
  The walk in the depth: the closure that calls itself.
-/
namespace Go.Proofs.Ytclgjolplobdbaa
open Go.RowKit
set_option linter.unusedVariables false
set_option linter.unusedSimpArgs false
set_option maxRecDepth 10000

theorem frame53 (t : Array Value) (h : t.size = 53) : t = #[slot t 0, slot t 1, slot t 2, slot t 3, slot t 4, slot t 5, slot t 6, slot t 7, slot t 8, slot t 9, slot t 10, slot t 11, slot t 12, slot t 13, slot t 14, slot t 15, slot t 16, slot t 17, slot t 18, slot t 19, slot t 20, slot t 21, slot t 22, slot t 23, slot t 24, slot t 25, slot t 26, slot t 27, slot t 28, slot t 29, slot t 30, slot t 31, slot t 32, slot t 33, slot t 34, slot t 35, slot t 36, slot t 37, slot t 38, slot t 39, slot t 40, slot t 41, slot t 42, slot t 43, slot t 44, slot t 45, slot t 46, slot t 47, slot t 48, slot t 49, slot t 50, slot t 51, slot t 52] := (frame_eq t 53 h).trans rfl
/-- What stands round the walk. -/
structure WkC (W0 : World) (p GB CB lo n : Nat) (nv : Value) (N : List (List Int)) : Prop where
  typ : ∃ cs fr, W0.heap[p]? = some (.cells cs 66 fr)
  gb : W0.heap[GB]? = some (.cells #[.pointer (some ⟨p, 0, none⟩)] 43 (0, 0))
  cb : W0.heap[CB]? = some (.cells #[.func (.func 47) #[] #[.pointer (some ⟨GB, 0, none⟩), .pointer (some ⟨CB, 0, none⟩)]] 82 (0, 0))
  ngb : GB ≠ p
  ncb : CB ≠ p
  next : OwnL W0 lo nv N
  len : N.length = n
  few : n ≤ 4096
  edges : Edges n N
  rows : ∀ j, (rowN N j).length ≤ 4096

/-- The edges of a node, wherever the walk is. -/
theorem WkC.row {W0 : World} {p GB CB lo n : Nat} {nv av : Value} {N : List (List Int)} (hC : WkC W0 p GB CB lo n nv N) {x : Nat} (hx : x < N.length) : ∃ h c aj cj, nv = .slice (some ⟨h, 0, none⟩) N.length c ∧ ∀ (w : World) (m : Nat → Nat) (cv ov : Value) (mc c l : List Int), WkS W0 p nv av w m cv ov mc c l → w.cell? ⟨h, x, none⟩ = some (.slice aj (rowN N x).length cj) ∧ View .i64 w aj (rowN N x) ∧ w.cell? ⟨p, 0, none⟩ = some nv := by
  obtain ⟨V, hV⟩ := hC.next
  obtain ⟨h, c, aj, cj, e1, e2, _, _, _⟩ := rowsL_read hV hx
  refine ⟨h, c, aj, cj, e1, fun w m cv ov mc c' l hS => ?_⟩
  have hV' := rowsL_same (w' := w) hV (fun g cs T fr _ hTT hg => by
    refine (hS.grown.block g (Array.getElem?_eq_some_iff.1 hg).1 (fun e => ?_)).trans hg
    cases e
    obtain ⟨cs', fr', h'⟩ := hC.typ
    rw [h'] at hg
    cases hg
    rcases hTT with e | e <;> exact absurd e (by decide))
  obtain ⟨h', c2, aj', cj', e1', e2', e3', e4', _⟩ := rowsL_read hV' hx
  rw [e1] at e1'
  rw [e2] at e2'
  cases e1'
  cases e2'
  rw [e2] at e3'
  exact ⟨e3', e4', by rw [hS.blk.cell]; rfl⟩

set_option maxHeartbeats 8000000 in
theorem come_tail (W0 : World) (p GB CB lo n : Nat) (nv av : Value) (N : List (List Int)) (hC : WkC W0 p GB CB lo n nv N) (f : Nat) (ih : ∀ (i : Int) (s : WalkS) (w : World) (m : Nat → Nat) (cv ov : Value), GoodC n s.1 → i ∉ s.1 → 0 ≤ i → i < n → n - s.1.length ≤ f → s.2.length ≤ s.1.length → WkS W0 p nv av w m cv ov s.1 s.1 s.2 →
    Calls Try.prog 47 #[.int .i64 i, .pointer (some ⟨GB, 0, none⟩), .pointer (some ⟨CB, 0, none⟩)] w fun e w' => e = .returned (.tuple #[]) ∧ ∃ m' cv' ov', WkS W0 p nv av w' m' cv' ov' (dfs N f i s).1 (dfs N f i s).1 (dfs N f i s).2)
    (x : Nat) (s : WalkS) (hg : GoodC n s.1) (hi : (x : Int) ∉ s.1) (hxn : x < n) (hl : n - s.1.length ≤ f + 1) (hls : s.2.length ≤ s.1.length) (m : Nat → Nat) (ov : Value)
    (t : Array Value) (W : World) (cv' : Value) (ht : t.size = 53) (t0 : slot t 0 = .int .i64 (x : Int)) (t1 : slot t 1 = .pointer (some ⟨GB, 0, none⟩)) (t2 : slot t 2 = .pointer (some ⟨CB, 0, none⟩)) (hS : WkS W0 p nv av W (setM m x) cv' ov (s.1 ++ [(x : Int)]) (s.1 ++ [(x : Int)]) s.2) :
    (dropR 2 (Try.f47.body.getD .skip)).wp Try.prog (bodyPost Try.prog Try.f47 fun e w' => e = .returned (.tuple #[]) ∧ ∃ m' cv' ov', WkS W0 p nv av w' m' cv' ov' (dfs N (f + 1) (x : Int) s).1 (dfs N (f + 1) (x : Int) s).1 (dfs N (f + 1) (x : Int) s).2) { tmps := t, defers := [] } W := by
  obtain ⟨i0, hi0, hz0, hz1, hz2⟩ := info_parts GrInts.info
  have HK := hide (fun k => dfsK_seg N n hC.edges f (x : Int) s hg hi (by omega) (by omega) hl hls k)
  have HD := hide (dfs_succ N f (x : Int) s)
  have HKS := hide (dfsK_succ N f (x : Int) s)
  have HK0 := hide (dfsK_zero N f (x : Int) s)
  generalize dfs N (f + 1) (x : Int) s = RES at *
  have HC := hide hC
  have HIH := hide ih
  clear hC ih hg hi hl hls
  rw [frame53 t ht, t0, t1, t2]
  clear ht t0 t1 t2
  generalize slot t = sl
  have hxN : x < N.length := by rw [HC.out.len]; exact hxn
  obtain ⟨h, cn, aj, cj, hnv, hrd⟩ := HC.out.row (av := av) hxN
  obtain ⟨hcr, hvj, c0⟩ := hrd _ _ _ _ _ _ _ hS
  have HRD := hide hrd
  rw [hnv] at c0
  have gbc := (oneCell (hS.old HC.out.gb HC.out.ngb)).1
  have hxi : (x : Int) < (N.length : Int) := by omega
  have hrow : rowN N (x : Int).toNat = rowN N x := by simp
  have HNJ := hide (HC.out.rows x)
  rw [hrow] at HD HKS
  generalize hnj : (rowN N x).length = nj at *
  have HNL := hide hnj
  have HS0 : Hid (WkS W0 p nv av W (setM m x) cv' ov (dfsK N f (x : Int) s 0).1 (dfsK N f (x : Int) s 0).1 (dfsK N f (x : Int) s 0).2) := by show WkS _ _ _ _ _ _ _ _ _ _ _; rw [HK0.out]; exact hS
  have HNV := hide hnv
  clear hS hvj hrd hnv hnj
  have HED : Hid (∀ q, q < nj → 0 ≤ nth (rowN N x) q ∧ nth (rowN N x) q < n) := fun q hq => HC.out.edges x _ (by
    have hq' : q < (rowN N x).length := by rw [HNL.out]; exact hq
    have : nth (rowN N x) q = (rowN N x)[q] := by simp [nth, List.getD, hq']
    rw [this]; exact List.getElem_mem hq')
  have HHS := hide (fun m' (yn : Nat) wx (hb : MkAt wx p 2 m') (hy : yn < 4096) => marksHas_any p 2 m' yn wx hb hy)
  have hnji : (nj : Int) ≤ 4096 := by have := HNJ.out; omega
  conv => arg 2; whnf
  go_wp2_with fail
  go_loopw [29] (fun i wr => ∃ (q : Nat) (m' : Nat → Nat) (cv' ov' : Value), q ≤ nj ∧ i = .int .i64 q ∧ WkS W0 p nv av wr m' cv' ov' (dfsK N f (x : Int) s q).1 (dfsK N f (x : Int) s q).1 (dfsK N f (x : Int) s q).2) (fun i _ => nj - (intOf i).toNat)
  case atStart => exact ⟨0, _, _, _, Nat.zero_le _, rfl, HS0.out⟩
  case round =>
    obtain ⟨q, m1, cv1, ov1, hq, rfl, hS⟩ := hrel
    by_cases hlt : q < nj
    · obtain ⟨_, hv1, _⟩ := HRD.out _ _ _ _ _ _ _ hS
      obtain ⟨b2, o2, rfl, hb2, hcq⟩ := hv1 q (by rw [HNL.out]; exact hlt)
      have hy := HED.out q hlt
      obtain ⟨yn, hye⟩ := Int.eq_ofNat_of_zero_le hy.1
      have HST := hide (HKS.out q hlt)
      rw [hye] at hcq hy HST
      have hyn : yn < n := by omega
      have hy4 : yn < 4096 := by have := HC.out.few; omega
      have gb1 := (oneCell (hS.old HC.out.gb HC.out.ngb)).1
      have cb1 := (oneCell (hS.old HC.out.cb HC.out.ncb)).1
      have hhas := HHS.out m1 yn _ hS.blk.mkAt hy4
      have hmk := hS.marked yn hy4
      have hqi : (q : Int) < (nj : Int) := by omega
      have HLT := hide hlt
      have HSS := hide hS
      have hG := HK.out q
      clear HS0 hS hv1 hb2 hye hlt hq c0 gbc hcr
      generalize dfsK N f (x : Int) s q = tq at *
      generalize hqq : hasM m1 yn = r at *
      cases r with
      | true =>
        have HIN : Hid (dfsK N f (x : Int) s (q + 1) = tq) := by
          show _ = _
          rw [HST.out]; unfold stepD
          exact if_pos (of_decide_eq_true hmk.symm)
        clear hmk hqq HST hG
        go_wp2_with fail
        refine hhas.mono ?_
        rintro e w5 ⟨rfl, rfl⟩
        clear hhas
        go_wp2_with fail
        exact ⟨⟨q + 1, m1, cv1, ov1, HLT.out, by simp, by rw [HIN.out]; exact HSS.out⟩, measZ2 HLT.out⟩
      | false =>
        have hnot : ¬ (yn : Int) ∈ tq.1 := of_decide_eq_false hmk.symm
        have HIN : Hid (dfsK N f (x : Int) s (q + 1) = dfs N f (yn : Int) tq) := by
          show _ = _
          rw [HST.out]; unfold stepD
          exact if_neg hnot
        have hrec := HIH.out (yn : Int) tq _ m1 cv1 ov1 hG.1 hnot (by omega) (by omega) hG.2.1 hG.2.2 HSS.out
        have HREC := hide hrec
        clear hmk hqq HST hG hnot hrec
        go_wp2_with fail
        refine hhas.mono ?_
        rintro e w5 ⟨rfl, rfl⟩
        clear hhas
        go_wp2_with fail
        refine HREC.out.mono ?_
        rintro e w6 ⟨rfl, m6, cv6, ov6, hS6⟩
        have HS6 := hide hS6
        clear HREC HSS hS6
        go_wp2_with fail
        exact ⟨⟨q + 1, m6, cv6, ov6, HLT.out, by simp, by rw [HIN.out]; exact HS6.out⟩, measZ2 HLT.out⟩
    · have e : nj = q := by omega
      subst e
      have hG := HK.out nj
      have HDD : Hid (RES = ((dfsK N f (x : Int) s nj).1, (dfsK N f (x : Int) s nj).2 ++ [(x : Int)])) := HD.out
      generalize dfsK N f (x : Int) s nj = tq at *
      rename World => wl
      have hbA : Below wl.heap.size wl (wl.alloc (.cells #[.int .i64 (x : Int)] 3)).drew := ((Below.refl _ _).alloc (Nat.le_refl _) _).drew
      have hSA := hS.below hbA
      have gbc := (oneCell (hS.old HC.out.gb HC.out.ngb)).1
      have gbl : GB < wl.heap.size := (Array.getElem?_eq_some_iff.1 (hS.old HC.out.gb HC.out.ngb)).1
      have pl := hS.blk.lt
      have c67 : wl.cell? ⟨p, 67, none⟩ = some ov1 := by rw [hS.blk.cell, gC_o]
      obtain ⟨a7, c7, rfl⟩ := own_shapeG hS.left
      have f67 : wl.frozen? ⟨p, 67, none⟩ = false := hS.blk.frozen _
      have hob : ∀ j, Value.ownBlock (.slice a7 tq.2.length c7) = some j → W0.heap.size ≤ j := fun j e => (World.ownsRow.lt hS.left j e).1
      have pW := hS.plt
      have wW : W0.heap.size ≤ wl.heap.size := hS.grown.size
      have sln : tq.2.length ≤ 4096 := by have := hG.1.len; have := hG.2.2; have := HC.out.few; omega
      have gW : GB < W0.heap.size := (Array.getElem?_eq_some_iff.1 HC.out.gb).1
      have HSA := hide hSA
      clear hS hSA hbA HS0 hG hq c0 hcr HRD HHS HED HIH HKS HK HD
      go_wp2_with fail
      go_region_law ((refine step_append_lies _ (by rfl) _ _ _ (by rfl) W0.heap.size 3 i0 (.int .i64 0) 1 8 Try.underlying41 hi0 hz0 hz1 hz2 rfl (by omega) (.slice a7 tq.2.length c7) tq.2.length _ (by rfl) HSA.out.left ⟨wl.heap.size, 0, none⟩ 1 1 [.int .i64 (x : Int)] (by rfl) (by rfl) (World.news_of_block (cs := #[.int .i64 (x : Int)]) (t := 3) (fr := (0, 0)) (heap_alloc_new wl _)) (by simp [Value.oneCell']) (by omega) (by unfold maxLen; omega) (by omega) (by simp; omega) (wl.heap.size + 1) (by simp) ?_; intro g2 cap2 w1 hown1 hgrow1 hat1 hlt1'; have hb1 := HSA.out.blk.other (hgrow1.block p HSA.out.blk.lt (fun e => by have := hob p e.symm; omega)); have d67 : w1.cell? ⟨p, 67, none⟩ = some (.slice a7 tq.2.length c7) := (by rw [hb1.cell, gC_o]); have e67 : w1.frozen? ⟨p, 67, none⟩ = false := hb1.frozen _; have gb1 := (oneCell ((hgrow1.block GB (Array.getElem?_eq_some_iff.1 (HSA.out.old HC.out.gb HC.out.ngb)).1 (fun e => by have := hob GB e.symm; omega)).trans (HSA.out.old HC.out.gb HC.out.ngb))).1))
      all_goals
        go_end0
        rw [HDD.out]
        exact ⟨rfl, _, _, _, HSA.out.pushL (x : Int) hgrow1 (by simpa using hat1) (by simpa using hown1)⟩

set_option maxHeartbeats 8000000 in
theorem come_any (W0 : World) (p GB CB lo n : Nat) (nv av : Value) (N : List (List Int)) (hC : WkC W0 p GB CB lo n nv N) : ∀ (f : Nat) (i : Int) (s : WalkS) (w : World) (m : Nat → Nat) (cv ov : Value), GoodC n s.1 → i ∉ s.1 → 0 ≤ i → i < n → n - s.1.length ≤ f → s.2.length ≤ s.1.length → WkS W0 p nv av w m cv ov s.1 s.1 s.2 →
    Calls Try.prog 47 #[.int .i64 i, .pointer (some ⟨GB, 0, none⟩), .pointer (some ⟨CB, 0, none⟩)] w fun e w' => e = .returned (.tuple #[]) ∧ ∃ m' cv' ov', WkS W0 p nv av w' m' cv' ov' (dfs N f i s).1 (dfs N f i s).1 (dfs N f i s).2 := by
  intro f
  induction f with
  | zero =>
    intro i s w m cv ov hg hi h0 h1 hl _ _
    have := (hg.snoc hi h0 h1).len
    simp at this; omega
  | succ f ih =>
    intro i s w m cv ov hg hi h0 h1 hl hls hS
    obtain ⟨i0, hi0, hz0, hz1, hz2⟩ := info_parts GrInts.info
    have hgl := hg.len
    obtain ⟨x, rfl⟩ := Int.eq_ofNat_of_zero_le h0
    have hxn : x < n := by omega
    have hx4 : x < 4096 := by have := hC.few; omega
    have hset := marksSet_any p 2 m x w hS.blk.mkAt hx4
    have gbc := (oneCell (hS.old hC.gb hC.ngb)).1
    have HC := hide hC
    have HS := hide hS
    have HLEN : Hid (s.1.length ≤ 4096 ∧ s.2.length ≤ 4096) := by show _ ∧ _; have := hC.few; omega
    have HT := hide (come_tail W0 p GB CB lo n nv av N hC f ih x s hg hi hxn hl hls m ov)
    generalize dfs N (f + 1) (x : Int) s = RES at *
    clear hC hS ih hg hi h0 h1 hl hls hgl
    go_enter Try.func47, Try.ntmps47
    go_wp2_with fail
    refine hset.mono ?_
    rintro e w3 ⟨rfl, d, hd⟩
    have hS3 := HS.out.mark hx4 d hd
    clear hset hd gbc HS
    have hbA : Below w3.heap.size w3 (w3.alloc (.cells #[.int .i64 (x : Int)] 3)).drew := ((Below.refl _ _).alloc (Nat.le_refl _) _).drew
    have hSA := hS3.below hbA
    have gbc := (oneCell (hS3.old HC.out.gb HC.out.ngb)).1
    have gbl : GB < w3.heap.size := (Array.getElem?_eq_some_iff.1 (hS3.old HC.out.gb HC.out.ngb)).1
    have pl := hS3.blk.lt
    have c66 : w3.cell? ⟨p, 66, none⟩ = some cv := by rw [hS3.blk.cell, gC_c]
    obtain ⟨a4, c4, rfl⟩ := own_shapeG hS3.came
    have f66 : w3.frozen? ⟨p, 66, none⟩ = false := hS3.blk.frozen _
    have HSA := hide hSA
    have HS3 := hide hS3
    have HBA := hide hbA
    clear hSA hS3 hbA
    have hob : ∀ j, Value.ownBlock (.slice a4 s.1.length c4) = some j → W0.heap.size ≤ j := fun j e => (World.ownsRow.lt HS3.out.came j e).1
    have pW := HS3.out.plt
    have wW : W0.heap.size ≤ w3.heap.size := HS3.out.grown.size
    have sln := HLEN.out.1
    have gW : GB < W0.heap.size := (Array.getElem?_eq_some_iff.1 HC.out.gb).1
    go_wp2_with fail
    rename_i K hK
    go_region_law ((refine step_append_lies _ (by rfl) _ _ _ (by rfl) W0.heap.size 3 i0 (.int .i64 0) 1 8 Try.underlying41 hi0 hz0 hz1 hz2 rfl (by omega) (.slice a4 s.1.length c4) s.1.length _ (by rfl) HSA.out.came ⟨w3.heap.size, 0, none⟩ 1 1 [.int .i64 (x : Int)] (by rfl) (by rfl) (World.news_of_block (cs := #[.int .i64 (x : Int)]) (t := 3) (fr := (0, 0)) (heap_alloc_new w3 _)) (by simp [Value.oneCell']) (by omega) (by unfold maxLen; omega) (by omega) (by simp; omega) (w3.heap.size + 1) (by simp) ?_; intro g2 cap2 w1 hown1 hgrow1 hat1 hlt1'; have hb1 := HSA.out.blk.other (hgrow1.block p HSA.out.blk.lt (fun e => by have := hob p e.symm; omega)); have d66 : w1.cell? ⟨p, 66, none⟩ = some (.slice a4 s.1.length c4) := (by rw [hb1.cell, gC_c]); have e66 : w1.frozen? ⟨p, 66, none⟩ = false := hb1.frozen _; have gb1 := (oneCell ((hgrow1.block GB (Array.getElem?_eq_some_iff.1 (HSA.out.old HC.out.gb HC.out.ngb)).1 (fun e => by have := hob GB e.symm; omega)).trans (HSA.out.old HC.out.gb HC.out.ngb))).1))
    all_goals
      refine hK _ _ (HT.out _ _ (.slice (some ⟨g2, 0, none⟩) (s.1.length + 1) cap2) rfl rfl rfl rfl ?_)
      exact HSA.out.pushC (x : Int) hgrow1 (by simpa using hat1) (by simpa using hown1)

end Go.Proofs.Ytclgjolplobdbaa

/-
  A graph in memory, as it stays.
-/
namespace Go.Proofs.Ytclgjolplobdbaa
open Go.RowKit
set_option linter.unusedVariables false
set_option linter.unusedSimpArgs false
set_option maxRecDepth 10000

/-- A graph in memory, from block lo on. -/
structure GrV (w : World) (lo p : Nat) (N : List (List Int)) : Prop where
  mem : ∃ nv av m cv ov, GrB w p nv av m cv ov ∧ OwnL w lo nv N ∧ OwnL w lo av (aheadR N) ∧ Marked m (walkF N).1 ∧ w.ownsRow lo 3 1 cv (walkF N).1.length ((walkF N).1.map (Value.int .i64)) ∧ w.ownsRow lo 3 1 ov (walkF N).2.length ((walkF N).2.reverse.map (Value.int .i64))
  low : lo ≤ p
  edges : Edges N.length N
  few : N.length ≤ 4096
  some_ : 0 < N.length
  once : ∀ j, (rowN N j).Nodup
theorem GrV.below {w w' : World} {lo p : Nat} {N : List (List Int)} (h : GrV w lo p N) (hb : Below w.heap.size w w') : GrV w' lo p N := by
  obtain ⟨nv, av, m, cv, ov, h1, h2, h3, h4, h5, h6⟩ := h.mem
  exact ⟨⟨nv, av, m, cv, ov, h1.below hb, h2.below hb, h3.below hb, h4, own_below h5 hb, own_below h6 hb⟩, h.low, h.edges, h.few, h.some_, h.once⟩
theorem own_kept {w w' : World} {lo e size n : Nat} {v : Value} {xs : List Value} {ob : Option Nat} (h : w.ownsRow lo e size v n xs) (hg : w.grownBy w' ob) (hob : ∀ g, ob = some g → g < lo) : w'.ownsRow lo e size v n xs :=
  own_grown h hg (fun g e e2 => by have := (World.ownsRow.lt h g e2).1; have := hob g e; omega)
/-- Where what lies below turns. -/
theorem GrV.kept {w w' : World} {lo p : Nat} {N : List (List Int)} {ob : Option Nat} (h : GrV w lo p N) (hg : w.grownBy w' ob) (hob : ∀ g, ob = some g → g < lo) : GrV w' lo p N := by
  obtain ⟨nv, av, m, cv, ov, h1, h2, h3, h4, h5, h6⟩ := h.mem
  have hlo := h.low
  exact ⟨⟨nv, av, m, cv, ov, h1.other (hg.block p h1.lt (fun e => by have := hob p e.symm; omega)), h2.kept hg hob, h3.kept hg hob, h4, own_kept h5 hg hob, own_kept h6 hg hob⟩, h.low, h.edges, h.few, h.some_, h.once⟩

end Go.Proofs.Ytclgjolplobdbaa

/-
  Reverse of the package slices, at numbers: of a row of one's own.
-/
namespace Go.Proofs.Ytclgjolplobdbaa
open Go.RowKit
open Go.Sort (Holds putRow putCells mapBlock)
set_option linter.unusedVariables false
set_option linter.unusedSimpArgs false
set_option maxRecDepth 10000

def RevI.ren : Go.Shelf.Ren := ⟨fun | 112 => 48 | n => n, fun | 0 => 0 | 3 => 3 | 4 => 4 | 28 => 41 | n => n, fun  | n => n⟩
theorem RevI.lays : Go.Proofs.Lays.n112 Try.prog RevI.ren := {
  mixed := by kernel_rfl
  f112 := Try.func48.trans (congrArg some (by kernel_rfl))
  t0 := Try.underlying0
  a0 := Try.isAgg0
  z0 := Try.sizeOf0
  v0 := Try.zeroValue0
  t3 := Try.underlying3
  a3 := Try.isAgg3
  z3 := Try.sizeOf3
  v3 := Try.zeroValue3
  t4 := Try.underlying4
  a4 := Try.isAgg4
  z4 := Try.sizeOf4
  v4 := Try.zeroValue4
  t28 := Try.underlying41
  a28 := Try.isAgg41
  z28 := Try.sizeOf41
  v28 := Try.zeroValue41 }

theorem reverse_own (v : Value) (lo : Nat) (zs : List Int) (w : World) (ho : w.ownsRow lo 3 1 v zs.length (zs.map (Value.int .i64))) (hn : zs.length ≤ 140737488351232) :
    Calls Try.prog 48 #[v] w fun e w' => e = .returned (.tuple #[]) ∧ w.grownBy w' v.ownBlock ∧ w'.ownsRow lo 3 1 v zs.length (zs.reverse.map (Value.int .i64)) := by
  rcases ho.2 with ⟨rfl, h0⟩ | ⟨g, cap, cur, rfl, h2, h3, h4, h5, h6, h7⟩
  · have hz : zs = [] := List.eq_nil_of_length_eq_zero h0
    subst hz
    refine (Any.slices_Reverse_int_empty RevI.lays none 0 w).mono ?_
    rintro e w' ⟨rfl, rfl⟩
    exact ⟨rfl, World.grownBy.refl _ _, ho⟩
  · have hH : Holds (Value.int .i64) w g 0 zs.toArray := fun j hj => by
      have hj' : j < zs.length := by simpa using hj
      refine ⟨?_, ho.frozenAt _⟩
      rw [Nat.zero_add, ho.cellAt j (by omega)]
      simp [hj']
    refine (Any.slices_Reverse_int RevI.lays g 0 cap zs w hH (by omega)).mono ?_
    rintro e w' ⟨rfl, n, rfl⟩
    have hb : (putRow (Value.int .i64) (Go.Sort.ahead w n) g 0 zs.reverse.toArray).heap[g]? = some (.cells (putCells (Value.int .i64) 0 zs.reverse.toArray cur) 3 (0, 0)) := by
      simp [putRow, mapBlock, Go.Sort.ahead, Array.getElem?_modify, h3, Go.Sort.onCells]
    have hg : w.grownBy (putRow (Value.int .i64) (Go.Sort.ahead w n) g 0 zs.reverse.toArray) (some g) := by
      refine ⟨rfl, rfl, rfl, by simp [putRow, mapBlock, Go.Sort.ahead], fun k hk hne => ?_⟩
      have : ¬ g = k := fun e => hne (by rw [e])
      simp [putRow, mapBlock, Go.Sort.ahead, Array.getElem?_modify, this]
    refine ⟨rfl, hg, ⟨by simp, .inr ⟨g, cap, _, rfl, h2, hb, h4, by simpa [putCells] using h5, by simpa [putCells] using h6, ?_⟩⟩⟩
    apply List.ext_getElem?
    intro j
    have hcur : ∀ i, i < zs.length → i < cur.size := fun i hi => by
      have h7' := congrArg List.length h7
      simp at h7'
      omega
    by_cases hj : j < zs.length
    · rw [List.getElem?_take, if_pos (by omega)]
      have hjc := hcur j hj
      simp [putCells, hj, hjc]
    · rw [List.getElem?_eq_none (by simp; omega), List.getElem?_eq_none (by simp; omega)]

end Go.Proofs.Ytclgjolplobdbaa

/-
  walk of a graph: what is reached, and in which order.
-/
namespace Go.Proofs.Ytclgjolplobdbaa
open Go.RowKit
set_option linter.unusedVariables false
set_option linter.unusedSimpArgs false
set_option maxRecDepth 10000

set_option maxHeartbeats 4000000 in
theorem graphWalk_any (w : World) (p lo : Nat) (nv av : Value) (N : List (List Int)) (hb : GrB w p nv av (fun _ => 0) (.slice none 0 0) (.slice none 0 0)) (hN : OwnL w lo nv N) (hE : Edges N.length N) (hn : N.length ≤ 4096) (h0 : 0 < N.length) (hD : ∀ j, (rowN N j).Nodup) :
    Calls Try.prog 39 #[.pointer (some ⟨p, 0, none⟩)] w fun e w' => e = .returned (.tuple #[]) ∧ w.grownBy w' (some p) ∧ ∃ m cv ov, GrB w' p nv av m cv ov ∧ Marked m (walkF N).1 ∧ w'.ownsRow w.heap.size 3 1 cv (walkF N).1.length ((walkF N).1.map (Value.int .i64)) ∧ w'.ownsRow w.heap.size 3 1 ov (walkF N).2.length ((walkF N).2.reverse.map (Value.int .i64)) := by
  have hQ := walkF_all N hE h0
  have hlen : (walkF N).2.length ≤ 4096 := by rw [hQ.perm.length_eq]; exact Nat.le_trans hQ.good.len hn
  have hpl := hb.lt
  have hba : Below w.heap.size w ((w.alloc (.cells #[.pointer (some ⟨p, 0, none⟩)] 43)).alloc (.cells #[.func (.func 47) #[] #[.pointer (some ⟨w.heap.size, 0, none⟩), .pointer (some ⟨w.heap.size + 1, 0, none⟩)]] 82)) := ((Below.refl _ _).alloc (Nat.le_refl _) _).alloc (by simp) _
  have hg0 : ((w.alloc (.cells #[.pointer (some ⟨p, 0, none⟩)] 43)).alloc (.cells #[.func (.func 47) #[] #[.pointer (some ⟨w.heap.size, 0, none⟩), .pointer (some ⟨w.heap.size + 1, 0, none⟩)]] 82)).heap[w.heap.size]? = some (.cells #[.pointer (some ⟨p, 0, none⟩)] 43 (0, 0)) := allocOld (allocNew _ _ rfl) _
  have hc0 : ((w.alloc (.cells #[.pointer (some ⟨p, 0, none⟩)] 43)).alloc (.cells #[.func (.func 47) #[] #[.pointer (some ⟨w.heap.size, 0, none⟩), .pointer (some ⟨w.heap.size + 1, 0, none⟩)]] 82)).heap[w.heap.size + 1]? = some (.cells #[.func (.func 47) #[] #[.pointer (some ⟨w.heap.size, 0, none⟩), .pointer (some ⟨w.heap.size + 1, 0, none⟩)]] 82 (0, 0)) := allocNew _ _ (by simp)
  have hC : WkC _ p w.heap.size (w.heap.size + 1) lo N.length nv N := ⟨⟨_, _, (hb.below hba).1⟩, hg0, hc0, by omega, by omega, hN.below hba, rfl, hn, hE, fun j => Nat.le_trans (nodup_lenG N.length _ (hD j) (fun x hx => hE j x hx)) hn⟩
  have hS0 : WkS ((w.alloc (.cells #[.pointer (some ⟨p, 0, none⟩)] 43)).alloc (.cells #[.func (.func 47) #[] #[.pointer (some ⟨w.heap.size, 0, none⟩), .pointer (some ⟨w.heap.size + 1, 0, none⟩)]] 82)) p nv av ((w.alloc (.cells #[.pointer (some ⟨p, 0, none⟩)] 43)).alloc (.cells #[.func (.func 47) #[] #[.pointer (some ⟨w.heap.size, 0, none⟩), .pointer (some ⟨w.heap.size + 1, 0, none⟩)]] 82)) (fun _ => 0) (.slice none 0 0) (.slice none 0 0) [] [] [] := ⟨hb.below hba, marked_nil, World.ownsRow_nil _ _ _ _, World.ownsRow_nil _ _ _ _, fun g e => (by cases e), World.grownBy.refl _ _, by simp; omega⟩
  have hcall := come_any _ p w.heap.size (w.heap.size + 1) lo N.length nv av N hC N.length 0 ([], []) _ _ _ _ ⟨by simp, fun x hx => by simp at hx⟩ (by simp) (by omega) (by omega) (by simp) (by simp) hS0
  have hwf : dfs N N.length 0 ([], []) = walkF N := rfl
  rw [hwf] at hcall
  have HL := hide hlen
  have HBA := hide hba
  have HC := hide hC
  clear hQ hlen hS0 hC hb hN hE hn h0 hD hwf hba
  generalize hWF : walkF N = wf at *
  clear hWF
  go_enter Try.func39, Try.ntmps39
  go_wp2_with fail
  refine hcall.mono ?_
  rintro e w2 ⟨rfl, m, cv, ov, hS⟩
  generalize hWW : ((w.alloc (.cells #[.pointer (some ⟨p, 0, none⟩)] 43)).alloc (.cells #[.func (.func 47) #[] #[.pointer (some ⟨w.heap.size, 0, none⟩), .pointer (some ⟨w.heap.size + 1, 0, none⟩)]] 82)) = WW at *
  have gbc := (oneCell (hS.old HC.out.gb HC.out.ngb)).1
  have c67 : w2.cell? ⟨p, 67, none⟩ = some ov := by rw [hS.blk.cell, gC_o]
  obtain ⟨a7, c7, rfl⟩ := own_shapeG hS.left
  have hrev := reverse_own _ _ wf.2 w2 hS.left (by have := HL.out; omega)
  have HS := hide hS
  clear hcall hS hg0 hc0 hWW
  go_wp2_with fail
  refine hrev.mono ?_
  rintro e w3 ⟨rfl, hg3, ho3⟩
  have hlw : w.heap.size ≤ WW.heap.size := HBA.out.size
  have hap := HS.out.apart
  have hob : ∀ g, Value.ownBlock (.slice a7 wf.2.length c7) = some g → WW.heap.size ≤ g := fun g e => (World.ownsRow.lt HS.out.left g e).1
  have hgw : w.grownBy w3 (some p) := by
    have h1 : w.grownBy WW (some p) := ⟨HBA.out.os, HBA.out.tape, HBA.out.output, HBA.out.size, fun k hk _ => HBA.out.block k hk⟩
    have h2 := h1.trans HS.out.grown
    exact h2.andThen hg3 (fun j e => .inl (by have := hob j e; omega))
  have hfin : GrB w3 p nv av m cv (.slice a7 wf.2.length c7) := HS.out.blk.other (hg3.block p HS.out.blk.lt (fun e => by have := hob p e.symm; have := HS.out.plt; omega))
  have hcv := own_grown HS.out.came hg3 (fun g e e2 => hap g e2 e)
  have HFIN := hide (And.intro hgw (And.intro hfin (And.intro HS.out.marked (And.intro (own_mono hcv hlw) (own_mono ho3 hlw)))))
  clear hrev hg3 ho3 hgw hfin hcv hap hob
  go_wp2_with fail
  go_end0
  exact ⟨rfl, HFIN.out.1, m, cv, _, HFIN.out.2.1, HFIN.out.2.2.1, HFIN.out.2.2.2.1, HFIN.out.2.2.2.2⟩

end Go.Proofs.Ytclgjolplobdbaa
