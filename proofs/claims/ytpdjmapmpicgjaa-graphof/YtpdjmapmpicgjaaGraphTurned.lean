/-
  turned of graph: the nodes from which edges lead to each node, in new memory.
-/
import Derived.WalkSpells
import Derived.WalkMore
import Derived.OwnWalk
import Derived.Test.YtpdjmapmpicgjaaProg
import Derived.Test.YtpdjmapmpicgjaaBoxes
import Derived.Test.YtpdjmapmpicgjaaGrRows
import Derived.Test.YtpdjmapmpicgjaaGraphOnce
namespace Go.Proofs.Ytpdjmapmpicgjaa
open Go.RowKit
set_option linter.unusedVariables false
set_option linter.unusedSimpArgs false
set_option maxRecDepth 10000

/-- A row of counts, each at most M. -/
def CntB (w wr : World) (n M : Nat) : Prop := Below w.heap.size w wr ∧ ∃ cs : List Int, cs.length = n ∧ (∀ x ∈ cs, 0 ≤ x ∧ x ≤ M) ∧ wr.ownsRow w.heap.size 3 1 (.slice (some ⟨w.heap.size, 0, none⟩) n n) n (cs.map (Value.int .i64))
theorem CntB.at {w wr : World} {n M : Nat} (h : CntB w wr n M) {t : Nat} (ht : t < n) : ∃ x : Int, wr.cell? ⟨w.heap.size, t, none⟩ = some (.int .i64 x) ∧ wr.frozen? ⟨w.heap.size, t, none⟩ = false ∧ 0 ≤ x ∧ x ≤ M ∧ CntB w (wr.setCell ⟨w.heap.size, t, none⟩ (.int .i64 (x + 1))) n (M + 1) := by
  obtain ⟨hb, cs, hl, hc, ho⟩ := h
  have hm := hc (nth cs t) (by have : nth cs t = cs[t] := by simp [nth, List.getD, hl, ht]
                               rw [this]; exact List.getElem_mem _)
  refine ⟨nth cs t, ?_, ho.frozenAt _, hm.1, hm.2, hb.grown (grown_setCell wr w.heap.size t _) hb.size (fun k e => by cases e; exact Nat.le_refl _), cs.set t (nth cs t + 1), by rw [List.length_set]; exact hl, fun x hx => ?_, ?_⟩
  · rw [ho.cellAt t (by omega)]; simp [nth, List.getD, hl, ht]
  · rcases List.mem_or_eq_of_mem_set hx with h | h
    · have := hc x h; omega
    · omega
  · have := own_setAt ho t (.int .i64 (nth cs t + 1))
    rw [List.map_set]; exact this
theorem CntB.mono {w wr : World} {n M M' : Nat} (h : CntB w wr n M) (hm : M ≤ M') : CntB w wr n M' := by
  obtain ⟨hb, cs, hl, hc, ho⟩ := h
  exact ⟨hb, cs, hl, fun x hx => ⟨(hc x hx).1, by have := (hc x hx).2; omega⟩, ho⟩
theorem CntB.below {w wr w' : World} {n M : Nat} (h : CntB w wr n M) (hb : Below wr.heap.size wr w') : CntB w w' n M := by
  obtain ⟨hb0, cs, hl, hc, ho⟩ := h
  exact ⟨hb0.trans (hb.mono hb0.size), cs, hl, hc, own_below ho hb⟩
theorem rep_set (n k : Nat) : (List.replicate n ([] : List Int)).set k [] = List.replicate n [] := by
  apply List.ext_getElem (by simp)
  intro i h1 h2
  simp [List.getElem_set]

set_option maxHeartbeats 8000000 in
theorem turned_any (a : Option Addr) (n c : Nat) (N : List (List Int)) (w : World) (hv : LV w a N) (hl : N.length = n) (hn : n ≤ 4096) (hE : Edges n N) (hD : ∀ j, (rowN N j).Nodup) :
    Calls Try.prog 51 #[.slice a n c] w fun e w' => ∃ v, e = .returned v ∧ OwnL w' w.heap.size v (aheadR N) ∧ Below w.heap.size w w' := by
  obtain ⟨i0, hi, hz0, hz1, hz2⟩ := info_parts GrInts.info
  obtain ⟨j0, hj, hy0, hy1, hy2⟩ := info_parts GrLists.info
  have HRL : Hid (∀ j, (rowN N j).length ≤ 4096) := fun j => Nat.le_trans (nodup_len n _ (hD j) (fun x hx => hE j x hx)) hn
  have HL := hide hl
  have HV := hide hv
  have HE := hide hE
  have HD := hide hD
  have HN := hide hn
  have hni : (n : Int) ≤ 4096 := by omega
  clear hl hv hE hD
  go_enter Try.func51, Try.ntmps51
  go_wp2_with (at_make; refine wpList_make_full _ rfl _ _ 32 rfl w.heap.size 3 i0 (.int .i64 0) 1 Try.underlying32 hi hz0 hz1 _ _ _ _ n rfl rfl (by rfl) (by rfl) (by rw [hz2]; omega) (by unfold maxLen; omega) (Nat.le_refl _) ?_)
  intro w1 hown1 hgr1
  have HC : Hid (CntB w w1 n 0) := ⟨(Below.refl _ w).grown hgr1 (Nat.le_refl _) (by simp), List.replicate n 0, by simp, fun x hx => by simp at hx; omega, by
    have := made_row (List.replicate n 0) (by simpa using hown1)
    rw [filled_zero] at this; exact this⟩
  clear hown1 hgr1
  go_wp2_with fail
  go_loopw [19] (fun i wr => ∃ k : Nat, k ≤ n ∧ i = .int .i64 k ∧ CntB w wr n (4096 * k)) (fun i _ => n - (intOf i).toNat)
  case atStart => exact ⟨0, Nat.zero_le _, rfl, HC.out⟩
  case round =>
    obtain ⟨k, hk, rfl, hS⟩ := hrel
    by_cases hlt : k < n
    · obtain ⟨b, off, aj, nj, cj, rfl, hb, hc, hcl, hcc, hvj⟩ := HV.out k (by rw [HL.out]; exact hlt)
      have hc' := (hS.1.cell (p := ⟨b, off + k, none⟩) hb).trans hc
      have hki : (k : Int) < (n : Int) := by omega
      have HCL := hide hcl
      have HVJ := hide hvj
      have HLT := hide hlt
      have HSS := hide hS
      have HNJ : Hid (nj ≤ 4096) := by show _ ≤ _; rw [← hcl]; exact HRL.out k
      have hnj : (nj : Int) ≤ 4096 := by have := HNJ.out; omega
      rename World => wo
      clear hS hcl hvj hlt hk hb hc hcc HC
      go_wp2_with fail
      go_loopw [25] (fun i wr => ∃ q : Nat, q ≤ nj ∧ i = .int .i64 q ∧ CntB w wr n (4096 * k + q)) (fun i _ => nj - (intOf i).toNat)
      case atStart => exact ⟨0, Nat.zero_le _, rfl, HSS.out⟩
      case round =>
        obtain ⟨q, hq, rfl, hS⟩ := hrel
        by_cases hlt : q < nj
        · obtain ⟨b2, off2, rfl, hb2, hc2⟩ := HVJ.out q (by rw [HCL.out]; exact hlt)
          have hcq := (hS.1.cell (p := ⟨b2, off2 + q, none⟩) hb2).trans hc2
          have hx := HE.out k (nth (rowN N k) q) (by have : nth (rowN N k) q = (rowN N k)[q]'(by rw [HCL.out]; exact hlt) := by simp [nth, List.getD, HCL.out, hlt]
                                                     rw [this]; exact List.getElem_mem _)
          obtain ⟨t, hte⟩ := Int.eq_ofNat_of_zero_le hx.1
          rw [hte] at hcq hx
          obtain ⟨x, hcx, hfx, hx0, hx1, hS'⟩ := hS.at (t := t) (by omega)
          have hti : (t : Int) < (n : Int) := hx.2
          have hqi : (q : Int) < (nj : Int) := by omega
          have hxb : x < 100000000 := by have := HLT.out; have := HN.out; have := HNJ.out; omega
          have HQ := hide hlt
          have HS' := hide (hS'.mono (M' := 4096 * k + (q + 1)) (by omega))
          clear hS hlt hq hb2 hc2 hx hte hS' hx1 hc'
          go_wp2_with fail
          exact ⟨⟨q + 1, HQ.out, by simp, HS'.out⟩, measZ2 HQ.out⟩
        · have HSE := hide (hS.mono (M' := 4096 * (k + 1)) (by have := HNJ.out; omega))
          obtain rfl : q = nj := by omega
          clear hS hq hc'
          go_wp2_with fail
          exact ⟨⟨k + 1, HLT.out, by simp, HSE.out⟩, measZ2 HLT.out⟩
    · have e : n = k := by omega
      subst e
      have HSS := hide hS
      clear hS HC hk
      rename World => wo
      have HBO : Hid (w.heap.size < wo.heap.size) := by
        obtain ⟨_, cs, _, _, ho⟩ := HSS.out
        exact (World.ownsRow.lt ho w.heap.size rfl).2
      go_wp2_with (at_make; refine wpList_make_full _ rfl _ _ 22 rfl wo.heap.size 32 j0 (.slice none 0 0) 1 Try.underlying22 hj hy0 hy1 _ _ _ _ n rfl rfl (by rfl) (by rfl) (by rw [hy2]; omega) (by unfold maxLen; omega) (Nat.le_refl _) ?_)
      intro w2 hown2 hgr2
      have hb2 : Below wo.heap.size wo w2 := (Below.refl _ wo).grown hgr2 (Nat.le_refl _) (by simp)
      have HC2 := hide (HSS.out.below hb2)
      have HO2 : Hid (OwnL w2 wo.heap.size (.slice (some ⟨wo.heap.size, 0, none⟩) n n) (List.replicate n [])) := OwnL.made (by simpa using hown2)
      have HP : Hid (w.heap.size ≤ wo.heap.size ∧ wo.heap.size ≤ w2.heap.size) := ⟨by have := HBO.out; omega, hb2.size⟩
      clear hown2 hgr2 HSS hb2
      generalize wo.heap.size = H at *
      go_wp2_with fail
      go_loopw [42] (fun i wr => ∃ k : Nat, k ≤ n ∧ i = .int .i64 k ∧ CntB w wr n (4096 * n) ∧ OwnL wr H (.slice (some ⟨H, 0, none⟩) n n) (List.replicate n []) ∧ H ≤ wr.heap.size) (fun i _ => n - (intOf i).toNat)
      case atStart => exact ⟨0, Nat.zero_le _, rfl, HC2.out, HO2.out, HP.out.2⟩
      case round =>
        obtain ⟨k, hk, rfl, hS, hO, hH⟩ := hrel
        by_cases hlt : k < n
        · obtain ⟨x, hcx, hfx, hx0, hx1, _⟩ := hS.at (t := k) hlt
          have hki : (k : Int) < (n : Int) := by omega
          obtain ⟨xn, rfl⟩ := Int.eq_ofNat_of_zero_le hx0
          have hxb : xn < 100000000 := by have := HN.out; omega
          have HS := hide hS
          have HO := hide hO
          have HLT := hide hlt
          have HHH := hide hH
          rename World => wq
          have hcH := OwnL.row (w := wq) (lo := H) (h := H) (c := n) (N := List.replicate n []) (by simpa using hO) (j := k) (by simpa using hlt)
          obtain ⟨uH, hcH, hfH, hltH, _⟩ := hcH
          clear hS hO hk hlt hH hx1 hx0 HC2 HO2
          go_wp2_with (at_make; refine wpList_make_own _ rfl _ _ 32 rfl wq.heap.size 3 i0 (.int .i64 0) 1 Try.underlying32 hi hz0 hz1 _ _ _ xn rfl rfl (by rfl) (by rw [hz2]; omega) (by unfold maxLen; omega) (Nat.le_refl _) ?_)
          intro w3 hown3 hgr3
          have hb3 : Below wq.heap.size wq w3 := (Below.refl _ wq).grown hgr3 (Nat.le_refl _) (by simp)
          obtain ⟨hO3, ⟨u3, hu3⟩, hf3, _⟩ := OwnL.put (W := wq) (w := w3) (lo := H) (h := H) (c := n) (N := List.replicate n []) (by simpa using HO.out) hb3 (j := k) (by simpa using HLT.out) (v := .slice (some ⟨wq.heap.size, 0, none⟩) 0 xn) (l := []) HHH.out hown3
          rw [rep_set] at hO3
          have hO3' : OwnL (w3.setCell ⟨H, k, none⟩ (.slice (some ⟨wq.heap.size, 0, none⟩) 0 xn)) H (.slice (some ⟨H, 0, none⟩) n n) (List.replicate n []) := by simpa using hO3
          have HO3 := hide hO3'
          have hC3 := HS.out.below hb3
          have HC3 : Hid (CntB w (w3.setCell ⟨H, k, none⟩ (.slice (some ⟨wq.heap.size, 0, none⟩) 0 xn)) n (4096 * n)) := by
            obtain ⟨hb0, cs, hl, hc, ho⟩ := hC3
            have hg := grown_setCell w3 H k (.slice (some ⟨wq.heap.size, 0, none⟩) 0 xn)
            exact ⟨hb0.grown hg hb0.size (fun q e => by cases e; exact HP.out.1), cs, hl, hc, own_grown ho hg (fun g e e2 => by cases e; have : Value.ownBlock (.slice (some ⟨w.heap.size, 0, none⟩) n n) = some w.heap.size := rfl; rw [this] at e2; cases e2; have := HBO.out; omega)⟩
          have HH3 : Hid (H ≤ (w3.setCell ⟨H, k, none⟩ (.slice (some ⟨wq.heap.size, 0, none⟩) 0 xn)).heap.size) := by show _ ≤ _; rw [World.size_setCell]; exact Nat.le_trans HHH.out hb3.size
          clear hO3 hO3' hC3 hown3 hgr3 hb3
          go_wp2_with fail
          exact ⟨⟨k + 1, HLT.out, by simp, HC3.out, HO3.out, HH3.out⟩, measZ2 HLT.out⟩
        · have e : n = k := by omega
          subst e
          have HLM : Hid (List.replicate n [] = aheadQ N 0 0) := by show _ = _; rw [aheadQ_start, HL.out]
          rw [HLM.out] at hO
          have HO4 := hide hO
          have HB4 := hide hS.1
          have HH4 := hide hH
          clear hS hO hH hk HC2 HO2 HLM
          rename World => ws
          go_wp2_with fail
          go_loopw [56] (fun i wr => ∃ k : Nat, k ≤ n ∧ i = .int .i64 k ∧ Below w.heap.size w wr ∧ OwnL wr H (.slice (some ⟨H, 0, none⟩) n n) (aheadQ N k 0) ∧ H ≤ wr.heap.size) (fun i _ => n - (intOf i).toNat)
          case atStart => exact ⟨0, Nat.zero_le _, rfl, HB4.out, HO4.out, HH4.out⟩
          case round =>
            obtain ⟨k, hk, rfl, hB, hO, hH⟩ := hrel
            by_cases hlt : k < n
            · obtain ⟨b, off, aj, nj, cj, rfl, hb, hc, hcl, hcc, hvj⟩ := HV.out k (by rw [HL.out]; exact hlt)
              have hc' := (hB.cell (p := ⟨b, off + k, none⟩) hb).trans hc
              have hki : (k : Int) < (n : Int) := by omega
              have HCL := hide hcl
              have HVJ := hide hvj
              have HLT := hide hlt
              have HB5 := hide hB
              have HO5 := hide hO
              have HH5 := hide hH
              have HNJ : Hid (nj ≤ 4096) := by show _ ≤ _; rw [← hcl]; exact HRL.out k
              have hnj : (nj : Int) ≤ 4096 := by have := HNJ.out; omega
              rename World => wt
              clear hB hO hH hcl hvj hlt hk hb hc hcc HO4 HB4 HH4
              go_wp2_with fail
              go_loopw [63] (fun i wr => ∃ q : Nat, q ≤ nj ∧ i = .int .i64 q ∧ Below w.heap.size w wr ∧ OwnL wr H (.slice (some ⟨H, 0, none⟩) n n) (aheadQ N k q) ∧ H ≤ wr.heap.size) (fun i _ => nj - (intOf i).toNat)
              case atStart => exact ⟨0, Nat.zero_le _, rfl, HB5.out, HO5.out, HH5.out⟩
              case round =>
                obtain ⟨q, hq, rfl, hB, hO, hH⟩ := hrel
                by_cases hlt : q < nj
                · obtain ⟨b2, off2, rfl, hb2, hc2⟩ := HVJ.out q (by rw [HCL.out]; exact hlt)
                  have hcq := (hB.cell (p := ⟨b2, off2 + q, none⟩) hb2).trans hc2
                  have hx := HE.out k (nth (rowN N k) q) (by have : nth (rowN N k) q = (rowN N k)[q]'(by rw [HCL.out]; exact hlt) := by simp [nth, List.getD, HCL.out, hlt]
                                                             rw [this]; exact List.getElem_mem _)
                  obtain ⟨t, hte⟩ := Int.eq_ofNat_of_zero_le hx.1
                  have HSTEP := hide (aheadQ_step N k q t (HD.out k) (by rw [HCL.out]; exact hlt) hte (by rw [HL.out]; have := hx.2; omega))
                  rw [hte] at hcq hx
                  have hti : (t : Int) < (n : Int) := hx.2
                  have htn : t < n := by omega
                  have hqi : (q : Int) < (nj : Int) := by omega
                  rename World => wz
                  have hbA : Below wz.heap.size wz (wz.alloc (.cells #[.int .i64 (k : Int)] 3)) := (Below.refl _ _).alloc (Nat.le_refl _) _
                  have hql : (aheadQ N k q).length = n := by rw [aheadQ_len]; exact HL.out
                  have hOA : OwnL (wz.alloc (.cells #[.int .i64 (k : Int)] 3)) H (.slice (some ⟨H, 0, none⟩) (aheadQ N k q).length n) (aheadQ N k q) := by rw [hql]; exact hO.below hbA
                  have hOz : OwnL wz H (.slice (some ⟨H, 0, none⟩) (aheadQ N k q).length n) (aheadQ N k q) := by rw [hql]; exact hO
                  have hHz : H < wz.heap.size := by
                    obtain ⟨_, _, _, h3, _⟩ := OwnL.row hOz (j := t) (by rw [hql]; exact htn)
                    exact h3
                  obtain ⟨v, hcv, hfv, _, _, hrow, hput⟩ := OwnL.row hOA (j := t) (by rw [hql]; exact htn)
                  have hcz : wz.cell? ⟨H, t, none⟩ = some v := (hbA.cell (p := ⟨H, t, none⟩) hHz).symm.trans hcv
                  have hrl : (rowN (aheadQ N k q) t).length ≤ 4097 := by
                    rw [aheadQ_row N k q t (by rw [HL.out]; exact htn), List.length_append]
                    have h1 := aheadT_len N k (t : Int)
                    have h2 : (if (t : Int) ∈ (rowN N k).take q then [(k : Int)] else []).length ≤ 1 := by split <;> simp
                    have := HLT.out
                    omega
                  obtain ⟨a4, c4, rfl⟩ := own_shapeG hrow
                  rw [hql] at hput
                  generalize rowN (aheadQ N k q) t = row at *
                  have HROW := hide hrow
                  have HPUT := hide hput
                  have HRL2 := hide hrl
                  have HQ := hide hlt
                  have HBZ := hide (hB.trans (hbA.mono hB.size))
                  have HHZ := hide hHz
                  have HWZ := hide (hB.size)
                  clear hB hO hH hlt hq hb2 hc2 hx hte hOA hOz hbA hcv hfv hrow hput hrl htn hql hc' HO5 HB5 HH5
                  go_wp2_with (at_builtin; refine wpList_app1 rfl (.tmp 72) (.tmp 74) rfl H _ row (k : Int) rfl wz.heap.size rfl (allocNew _ _ rfl) HROW.out (by have := HRL2.out; omega) (by simp; have := HHZ.out; omega) ?_)
                  intro g cap w5 ho5 hg5 hat
                  have hp := HPUT.out w5 (.slice (some ⟨g, 0, none⟩) (row.length + 1) cap) (row ++ [(k : Int)]) hg5 (by
                    rcases hat with h | h
                    · exact .inl h.symm
                    · exact .inr fun g' e => by cases e; rw [h]; simp) (by simpa using ho5)
                  obtain ⟨hO6, ⟨u6, hu6⟩, hf6⟩ := hp
                  rw [HSTEP.out] at hO6
                  have HO6 := hide hO6
                  have hB6 : Below w.heap.size w w5 := HBZ.out.grown hg5 HBZ.out.size (fun i e => by have := (World.ownsRow.lt HROW.out i e).1; have := HP.out.1; omega)
                  have HB6 : Hid (Below w.heap.size w (w5.setCell ⟨H, t, none⟩ (.slice (some ⟨g, 0, none⟩) (row.length + 1) cap))) := hB6.grown (grown_setCell w5 H t _) hB6.size (fun i e => by cases e; exact HP.out.1)
                  have HH6 : Hid (H ≤ (w5.setCell ⟨H, t, none⟩ (.slice (some ⟨g, 0, none⟩) (row.length + 1) cap)).heap.size) := by
                    show _ ≤ _
                    rw [World.size_setCell]
                    have := hg5.size
                    rw [World.size_alloc] at this
                    have := HHZ.out
                    omega
                  clear hO6 hB6 ho5 hg5 hat HPUT HROW
                  go_wp2_with fail
                  exact ⟨⟨q + 1, HQ.out, by simp, HB6.out, HO6.out, HH6.out⟩, measZ2 HQ.out⟩
                · have e : nj = q := by omega
                  subst e
                  have HE7 : Hid (aheadQ N k nj = aheadQ N (k + 1) 0) := by show _ = _; rw [← HCL.out, aheadQ_end]
                  rw [HE7.out] at hO
                  have HO7 := hide hO
                  have HB7 := hide hB
                  have HH7 := hide hH
                  clear hO hB hH hq hc' HO5 HB5 HH5 HE7
                  go_wp2_with fail
                  exact ⟨⟨k + 1, HLT.out, by simp, HB7.out, HO7.out, HH7.out⟩, measZ2 HLT.out⟩
            · have e : n = k := by omega
              subst e
              have HW : Hid (aheadQ N n 0 = aheadR N) := by show _ = _; rw [← HL.out, aheadQ_whole]
              rw [HW.out] at hO
              have HO7 := hide (hO.mono HP.out.1)
              have HB7 := hide hB
              clear hO hB hH hk HO4 HB4 HH4
              go_wp2_with fail
              go_ret
              exact ⟨_, rfl, HO7.out, HB7.out⟩

end Go.Proofs.Ytpdjmapmpicgjaa
