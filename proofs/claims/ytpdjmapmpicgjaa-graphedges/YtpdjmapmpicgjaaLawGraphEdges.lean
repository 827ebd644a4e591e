/-
  GraphEdges is true for every list of edges.
-/
import Derived.WalkSpells
import Derived.WalkMore
import Derived.BigGuard
import Derived.BigRegion
import Derived.Deep.RegionHeld2
import Derived.Test.YtpdjmapmpicgjaaProg
import Derived.Test.YtpdjmapmpicgjaaArgLists
import Derived.Test.YtpdjmapmpicgjaaLaw14Awake
import Derived.Test.YtpdjmapmpicgjaaLaw14Copied
import Derived.Test.YtpdjmapmpicgjaaLaw14Among
import Derived.Test.YtpdjmapmpicgjaaDrawAppend
namespace Go.Proofs.Ytpdjmapmpicgjaa
open Go.RowKit
set_option linter.unusedVariables false
set_option linter.unusedSimpArgs false
set_option maxRecDepth 10000

set_option maxHeartbeats 16000000 in
theorem graphEdges_true (w : World) (a : Option Addr) (n c : Nat) (N : List (List Int)) (hl : N.length = n) (hv : LV w a N) (hn : 24 * n ≤ 140737488351232) (hr : ∀ q, 8 * (rowN N q).length ≤ 140737488351232) (hc : n ≤ c) :
    Calls Try.prog 7 #[.slice a n c] w fun e w' => e = .returned (.bool true) ∧ Below w.heap.size w w' := by
  have hcp := copied14_any a n c N w hv hl hn hr
  have HA := hide (fun wx => awake14_true wx)
  have HL := hide hl
  have HR := hide hr
  have HV := hide hv
  have hni : (24 : Int) * n ≤ 140737488351232 := by omega
  have HOF := hide (fun ax wx (h : LV wx ax N) => graphOf_any ax n n N wx h hl hn hr)
  clear hl hv hr hn
  go_enter Try.func7, Try.ntmps7
  go_wp2_with fail
  refine hcp.mono ?_
  rintro e w1 ⟨h, rfl, hO1, hb1⟩
  obtain ⟨a', c', e', _, hLV, _⟩ := hO1.head
  rw [HL.out] at e'
  cases e'
  have HOFF := hide (HOF.out _ w1 hLV)
  have HB1 := hide hb1
  clear hcp hO1 hb1 hLV
  go_wp2_with fail
  refine HOFF.out.mono ?_
  rintro e w2 hq
  unfold OfQ at hq
  rw [HL.out] at hq
  rcases hq with ⟨_, rfl, hb2⟩ | ⟨_, rfl, hb2⟩ | ⟨_, _, _, rfl, hb2⟩ | ⟨h0, h4, hE, p, rfl, hG, hb2⟩
  · have HB3 := hide (HB1.out.trans (hb2.mono HB1.out.size))
    clear HOFF hb2
    go_wp2_with fail
    refine (HA.out _).mono ?_
    rintro e w3 ⟨rfl, hb3⟩
    have HB4 := hide (HB3.out.trans (hb3.mono HB3.out.size))
    clear hb3
    go_wp2_with fail
    go_ret
    exact ⟨rfl, HB4.out⟩
  · have HB3 := hide (HB1.out.trans (hb2.mono HB1.out.size))
    clear HOFF hb2
    go_wp2_with fail
    refine (HA.out _).mono ?_
    rintro e w3 ⟨rfl, hb3⟩
    have HB4 := hide (HB3.out.trans (hb3.mono HB3.out.size))
    clear hb3
    go_wp2_with fail
    go_ret
    exact ⟨rfl, HB4.out⟩
  · have HB3 := hide (HB1.out.trans (hb2.mono HB1.out.size))
    clear HOFF hb2
    go_wp2_with fail
    refine (HA.out _).mono ?_
    rintro e w3 ⟨rfl, hb3⟩
    have HB4 := hide (HB3.out.trans (hb3.mono HB3.out.size))
    clear hb3
    go_wp2_with fail
    go_ret
    exact ⟨rfl, HB4.out⟩
  · have HB3 := hide (HB1.out.trans (hb2.mono HB1.out.size))
    have hml : (N.map onceF).length = n := by rw [List.length_map]; exact HL.out
    have HRM : Hid (∀ j, rowN (N.map onceF) j = onceF (rowN N j)) := fun j => by
      by_cases hj : j < N.length
      · exact rowN_map N onceF j hj
      · rw [rowN_out _ _ (by rw [List.length_map]; omega), rowN_out _ _ (by omega)]; rfl
    generalize N.map onceF = M at *
    have HML := hide hml
    have hlen := graphLen_any w2 _ p M hG
    rw [hml] at hlen
    have HG2 := hide hG
    clear HOFF hb2 hE hml hG h0
    go_wp2_with fail
    refine hlen.mono ?_
    rintro e w4 ⟨rfl, rfl⟩
    clear hlen
    go_wp2_with fail
    go_loopw [5] (fun i wr => ∃ k : Nat, k ≤ n ∧ i = .int .i64 k ∧ Below w2.heap.size w2 wr) (fun i _ => n - (intOf i).toNat)
    case atStart => exact ⟨0, Nat.zero_le _, rfl, Below.refl _ _⟩
    case round =>
      obtain ⟨k, hk, rfl, hB⟩ := hrel
      have hGr := HG2.out.below hB
      have hlen := graphLen_any _ _ p M hGr
      rw [HML.out] at hlen
      by_cases hlt : k < n
      · have hki : (k : Int) < (n : Int) := by omega
        have hnb : nodeB M.length (k : Int) = true := by unfold nodeB; rw [HML.out]; exact decide_eq_true ⟨by omega, by omega⟩
        have hnx := graphNext_any (k : Int) _ _ p M hGr
        have hne : nextL M (k : Int) = rowN M k := by unfold nextL; rw [hnb]; simp
        rw [hne] at hnx
        have hae : aheadL M (k : Int) = aheadF M (k : Int) := by unfold aheadL; rw [hnb]; rfl
        have HAE := hide hae
        have HNX := hide hnx
        have HLEN := hide hlen
        have hrl := hGr.rows k
        have HLT := hide hlt
        have HBB := hide hB
        rename World => wo
        clear hnx hB hk hlt hne hGr hnb hae hlen
        go_wp2_with fail
        refine HLEN.out.mono ?_
        rintro e w4 ⟨rfl, rfl⟩
        clear HLEN
        go_wp2_with fail
        refine HNX.out.mono ?_
        rintro e w5 ⟨v5, rfl, ho5, hb5⟩
        obtain ⟨al, cl, rfl, hvl, _⟩ := View.ofOwned ho5
        have hlc : (rowN M k).length ≤ cl := by
          rcases ho5.2 with ⟨e1, e2⟩ | ⟨g', cap', cur', e1, _, _, hle', _⟩
          · simp at e1; omega
          · simp at e1; omega
        have HB5 := hide (HBB.out.trans (hb5.mono HBB.out.size))
        have HVL := hide hvl
        have HND := hide (HG2.out.once k)
        generalize hnj : (rowN M k).length = nj at *
        have HNJ := hide hnj
        have hnji : (nj : Int) ≤ 4096 := by omega
        have hcli : (nj : Int) ≤ (cl : Int) := by omega
        clear HNX ho5 hb5 hvl HBB hnj
        go_wp2_with fail
        go_loopw [7] (fun i wr => ∃ q : Nat, q ≤ nj ∧ i = .int .i64 q ∧ Below w5.heap.size w5 wr) (fun i _ => nj - (intOf i).toNat)
        case atStart => exact ⟨0, Nat.zero_le _, rfl, Below.refl _ _⟩
        case round =>
          obtain ⟨q, hq, rfl, hBr⟩ := hrel
          rename World => wq
          by_cases hlt : q < nj
          · have hqM : q < (rowN M k).length := by rw [HNJ.out]; exact hlt
            have hW : Below w.heap.size w wq := HB3.out.trans ((HB5.out.trans (hBr.mono HB5.out.size)).mono HB3.out.size)
            have hG5 := HG2.out.below (HB5.out.trans (hBr.mono HB5.out.size))
            have hVq := HVL.out.below hBr
            obtain ⟨b2, o2, e2, hb2, hcq⟩ := hVq q hqM
            obtain ⟨b, off, aj, mj, cj, e1, hb, hcc, hcl, _, hvj⟩ := (HV.out.below hW) k (by rw [HL.out]; exact HLT.out)
            have hmem := nth_memG (rowN M k) q hqM
            have hndt := nodup_take (rowN M k) q hqM HND.out
            have hmemN : nth (rowN M k) q ∈ rowN N k := by rw [HRM.out, once_mem] at hmem; rw [HRM.out]; exact hmem
            have hyE := hG5.edges k _ hmem
            have hahm : (k : Int) ∈ aheadL M (nth (rowN M k) q) := by
              unfold aheadL
              have : nodeB M.length (nth (rowN M k) q) = true := by unfold nodeB; exact decide_eq_true hyE
              rw [this]
              exact (aheadT_mem M M.length _ _).2 ⟨k, by rw [HML.out]; exact HLT.out, hmem, rfl⟩
            have hall : (aheadL M (nth (rowN M k) q)).length ≤ 4096 := by
              unfold aheadL
              split
              · exact Nat.le_trans (aheadT_len _ _ _) hG5.few
              · simp
            have hqi : (q : Int) < (nj : Int) := by omega
            have hqc1 : (q : Int) ≤ (cl : Int) := by omega
            have hqc2 : q ≤ cl := by omega
            have HQ := hide hlt
            generalize nth (rowN M k) q = y at *
            have mT : ∀ wx, Below wq.heap.size wq wx → View .i64 wx al ((rowN M k).take q) := fun wx hx j hj => by
              rw [List.length_take] at hj
              obtain ⟨b', o', e', h1, h2⟩ := (hVq.below hx) j (by omega)
              exact ⟨b', o', e', h1, by rw [h2]; simp [nth, List.getD, List.getElem?_take, show j < q by omega]⟩
            have cA := fun wx (hx : Below wq.heap.size wq wx) => among_yes aj mj cj (rowN N k) y wx (hvj.below hx) hcl (by have := HR.out k; omega) hmemN
            have cB := fun wx (hx : Below wq.heap.size wq wx) => among_no al q cl ((rowN M k).take q) y wx (mT wx hx) (by rw [List.length_take]; omega) (by omega) hndt
            have cC : ∀ wx, Below wq.heap.size wq wx → Calls Try.prog 25 #[.pointer (some ⟨p, 0, none⟩), .int .i64 y] wx fun e w' => ∃ a' c', e = .returned (.slice a' (aheadL M y).length c') ∧ View .i64 w' a' (aheadL M y) ∧ Below wx.heap.size wx w' := fun wx hx => (graphAhead_any y wx _ p M (hG5.below hx)).mono fun e w' h => by
              obtain ⟨v', rfl, ho', hbx⟩ := h
              obtain ⟨a', c', rfl, hv', _⟩ := View.ofOwned ho'
              exact ⟨a', c', rfl, hv', hbx⟩
            have cD := fun ax cx wx (hx : View .i64 wx ax (aheadL M y)) => among_yes ax (aheadL M y).length cx (aheadL M y) (k : Int) wx hx rfl (by omega) hahm
            generalize aheadL M y = AY at *
            subst e1 e2
            have hK : ∀ wx, Below wq.heap.size wq wx → wx.cell? ⟨b, off + k, none⟩ = some (.slice aj mj cj) ∧ wx.cell? ⟨b2, o2 + q, none⟩ = some (.int .i64 y) := fun wx hx => ⟨(hx.cell (p := ⟨b, off + k, none⟩) hb).trans hcc, (hx.cell (p := ⟨b2, o2 + q, none⟩) hb2).trans hcq⟩
            have HBR := hide hBr
            have hd := (Below.refl wq.heap.size wq).drew
            have h0 := Below.refl wq.heap.size wq
            clear hW hG5 hVq hvj hmem hndt hmemN hyE hahm mT hlt hq hb hb2 hBr hcl
            go_wp2_with fail
            go_region_held2 (fun wx => Below wq.heap.size wq wx ∧ wx.cell? ⟨b, off + k, none⟩ = some (.slice aj mj cj) ∧ wx.cell? ⟨b2, o2 + q, none⟩ = some (.int .i64 y))
              (exact ⟨by assumption, hK _ (by assumption)⟩)
              (first
                | (go_at_call 25; with_reducible refine (cC _ (by assumption)).mono ?_; rintro e w' ⟨a', c', rfl, hv', hbx⟩; have hby := growG (by assumption) hbx; clear hbx)
                | (go_at_call 28; with_reducible refine (cA _ (by assumption)).mono ?_; rintro e w' ⟨rfl, rfl⟩)
                | (go_at_call 28; with_reducible refine (cB _ (by assumption)).mono ?_; rintro e w' ⟨rfl, rfl⟩)
                | (go_at_call 28; with_reducible refine (cD _ _ _ (by first | assumption | exact View.below (by assumption) (by assumption))).mono ?_; rintro e w' ⟨rfl, rfl⟩))
            all_goals
              go_wp2_with fail
              exact ⟨⟨q + 1, HQ.out, by simp, growG HBR.out (by assumption)⟩, measZ2 HQ.out⟩
          · have e : nj = q := by omega
            subst e
            have HB6 := hide (HB5.out.trans (hBr.mono HB5.out.size))
            have HVL6 := hide (HVL.out.below hBr)
            have hW : Below w.heap.size w wq := HB3.out.trans (HB6.out.mono HB3.out.size)
            obtain ⟨b, off, aj, mj, cj, e1, hb, hcc, hcl, _, hvj⟩ := (HV.out.below hW) k (by rw [HL.out]; exact HLT.out)
            subst e1
            have HCL := hide hcl
            have HVJ := hide hvj
            have HCC := hide hcc
            have HBL := hide hb
            have hrN := HR.out k
            rw [hcl] at hrN
            have hmji : (8 : Int) * mj ≤ 140737488351232 := by omega
            clear hBr hq HB5 HVL hW hb hcl hvj hrN
            go_wp2_with fail
            go_loopw [8] (fun i wr => ∃ q : Nat, q ≤ mj ∧ i = .int .i64 q ∧ wr = wq) (fun i _ => mj - (intOf i).toNat)
            case atStart => exact ⟨0, Nat.zero_le _, rfl, rfl⟩
            case round =>
              obtain ⟨q, hq, rfl, rfl⟩ := hrel
              by_cases hlt : q < mj
              · have hqN : q < (rowN N k).length := by rw [HCL.out]; exact hlt
                obtain ⟨b2, o2, rfl, _, hcq⟩ := HVJ.out q hqN
                have hmem := nth_memG (rowN N k) q hqN
                have hmemM : nth (rowN N k) q ∈ rowN M k := by rw [HRM.out, once_mem]; exact hmem
                have cA := among_yes al nj cl (rowN M k) (nth (rowN N k) q) wr HVL6.out HNJ.out (by omega) hmemM
                have hqi : (q : Int) < (mj : Int) := by omega
                have HQ := hide hlt
                generalize nth (rowN N k) q = y at *
                clear hmem hmemM hlt hq hqN
                go_wp2_with fail
                refine cA.mono ?_
                rintro e w7 ⟨rfl, rfl⟩
                clear cA
                go_wp2_with fail
                exact ⟨⟨q + 1, HQ.out, by simp, by first | rfl | trivial⟩, measZ2 HQ.out⟩
              · have e : mj = q := by omega
                subst e
                have hah := graphAhead_any (k : Int) wr _ p M (HG2.out.below HB6.out)
                rw [HAE.out] at hah
                have HAH := hide hah
                clear hah hq
                rename World => wy
                go_wp2_with fail
                refine HAH.out.mono ?_
                rintro e w8 ⟨v8, rfl, ho8, hb8⟩
                obtain ⟨aa, ca, rfl, hva, _⟩ := View.ofOwned ho8
                have HB8 := hide (HB6.out.trans (hb8.mono HB6.out.size))
                have HVA := hide hva
                have hall : (aheadF M (k : Int)).length ≤ 4096 := Nat.le_trans (aheadT_len _ _ _) HG2.out.few
                have HRI := hide (ahead_rise M M.length (k : Int))
                have HAM := hide (aheadT_mem M M.length (k : Int))
                have hafe : aheadT M M.length (k : Int) = aheadF M (k : Int) := rfl
                rw [hafe] at HRI HAM
                generalize aheadF M (k : Int) = AK at *
                generalize hnk : AK.length = nk at *
                have HNK := hide hnk
                have hnki : (nk : Int) ≤ 4096 := by omega
                clear HAH ho8 hb8 hva hnk hafe HB6
                go_wp2_with fail
                go_loopw [10] (fun i wr => ∃ q : Nat, q ≤ nk ∧ i = .int .i64 q ∧ Below w8.heap.size w8 wr) (fun i _ => nk - (intOf i).toNat)
                case atStart => exact ⟨0, Nat.zero_le _, rfl, Below.refl _ _⟩
                case round =>
                  obtain ⟨q, hq, rfl, hBr⟩ := hrel
                  rename World => wz
                  by_cases hlt : q < nk
                  · have hqK : q < AK.length := by rw [HNK.out]; exact hlt
                    have hVz := HVA.out.below hBr
                    obtain ⟨b2, o2, rfl, hb2, hcq⟩ := hVz q hqK
                    have hG8 := HG2.out.below (HB8.out.trans (hBr.mono HB8.out.size))
                    obtain ⟨j, hjn, hjr, hje⟩ := (HAM.out _).1 (nth_memG AK q hqK)
                    have hnj : nextL M (nth AK q) = rowN M j := by
                      rw [hje]; unfold nextL
                      have : nodeB M.length (j : Int) = true := by unfold nodeB; exact decide_eq_true ⟨by omega, by omega⟩
                      rw [this]; simp
                    have hrj := hG8.rows j
                    have cC : ∀ wx, Below wz.heap.size wz wx → Calls Try.prog 24 #[.pointer (some ⟨p, 0, none⟩), .int .i64 (nth AK q)] wx fun e w' => ∃ a' c', e = .returned (.slice a' (rowN M j).length c') ∧ View .i64 w' a' (rowN M j) ∧ Below wx.heap.size wx w' := fun wx hx => (graphNext_any (nth AK q) wx _ p M (hG8.below hx)).mono fun e w' h => by
                      obtain ⟨v', rfl, ho', hbx⟩ := h
                      rw [hnj] at ho'
                      obtain ⟨a', c', rfl, hv', _⟩ := View.ofOwned ho'
                      exact ⟨a', c', rfl, hv', hbx⟩
                    have cD := fun ax cx wx (hx : View .i64 wx ax (rowN M j)) => among_yes ax (rowN M j).length cx (rowN M j) (k : Int) wx hx rfl (by omega) hjr
                    have hqi : (q : Int) < (nk : Int) := by omega
                    have HQ := hide hlt
                    have HBR := hide hBr
                    have hd := (Below.refl wz.heap.size wz).drew
                    have h0 := Below.refl wz.heap.size wz
                    rcases Nat.eq_zero_or_pos q with hq0 | hq0
                    · generalize nth AK q = y at *
                      have hK : ∀ wx, Below wz.heap.size wz wx → wx.cell? ⟨b2, o2 + q, none⟩ = some (.int .i64 y) := fun wx hx => (hx.cell (p := ⟨b2, o2 + q, none⟩) hb2).trans hcq
                      generalize rowN M j = RJ at *
                      have hz : decide ((0 : Int) < (q : Int)) = false := by
                        have : ¬ (0 : Int) < (q : Int) := by omega
                        simpa using this
                      have hz2 : decide (0 < q) = false := decide_eq_false (by omega)
                      clear hVz hG8 hjr hje hnj hlt hq hqK hBr hb2 hrj hq0
                      go_wp2_with fail
                      have HKK := hide hK
                      clear hK
                      have hmix : Try.prog.follows .mixedOrders = true := by kernel_rfl
                      refine (wpIn_wide (n := 0)).1 ?_
                      refine wpIn_normal (wpIn_region_any hmix (wpAnyC_sound (C := Below wz.heap.size wz) _ _ _ _ ?_))
                      change wpAnyC _ _ _ _ _ _ _ _ _ _ (World.drew _)
                      refine wpAnyC_takeD (i := 0) (some 103) (v := .pointer (some ⟨p, 0, none⟩)) (fun _ => trivial) (by kernel_rfl) rfl rfl (by kernel_rfl) (by kernel_rfl) (by kernel_rfl) (fun _ _ _ h => by cases h.1) hd (Or.inl ⟨by kernel_rfl, fun w' hC => by clear hC; go_simp⟩) ?_
                      simp only [Act.put, List.setIfInBounds_toArray, List.set_cons_succ, List.set_cons_zero]
                      refine wpAnyC_takeD (i := 1) (some 104) (v := .slice (some ⟨b2, o2, none⟩) nk ca) (fun _ => trivial) (by kernel_rfl) rfl rfl (by kernel_rfl) (by kernel_rfl) (by kernel_rfl) (fun _ _ _ h => by cases h.1) hd (Or.inl ⟨by kernel_rfl, fun w' hC => by clear hC; go_simp⟩) ?_
                      simp only [Act.put, List.setIfInBounds_toArray, List.set_cons_succ, List.set_cons_zero]
                      refine wpAnyC_takeD (i := 2) (some 105) (v := .int .i64 (q : Int)) (fun _ => trivial) (by kernel_rfl) rfl rfl (by kernel_rfl) (by kernel_rfl) (by kernel_rfl) (fun _ _ _ h => by cases h.1) hd (Or.inl ⟨by kernel_rfl, fun w' hC => by clear hC; go_simp⟩) ?_
                      simp only [Act.put, List.setIfInBounds_toArray, List.set_cons_succ, List.set_cons_zero]
                      refine wpAnyC_takeD (i := 3) (some 106) (v := .pointer (some ⟨b2, o2 + q, none⟩)) (fun _ => trivial) (by kernel_rfl) rfl rfl (by kernel_rfl) (by kernel_rfl) (by kernel_rfl) (fun _ _ _ h => by cases h.1) hd (Or.inl ⟨by kernel_rfl, fun w' hC => by clear hC; go_simp⟩) ?_
                      simp only [Act.put, List.setIfInBounds_toArray, List.set_cons_succ, List.set_cons_zero]
                      refine wpAnyC_takeD (i := 4) (some 107) (v := .int .i64 y) (fun _ => trivial) (by kernel_rfl) rfl rfl (by kernel_rfl) (by kernel_rfl) (by kernel_rfl) (fun _ _ _ h => by cases h.1) hd (Or.inl ⟨by kernel_rfl, fun w' hC => by have e1 := HKK.out w' hC; clear hC; go_simp⟩) ?_
                      simp only [Act.put, List.setIfInBounds_toArray, List.set_cons_succ, List.set_cons_zero]
                      refine wpAnyC_takeD (i := 6) (some 109) (v := .int .i64 (k : Int)) (fun _ => trivial) (by kernel_rfl) rfl rfl (by kernel_rfl) (by kernel_rfl) (by kernel_rfl) (fun _ _ _ h => by cases h.1) hd (Or.inl ⟨by kernel_rfl, fun w' hC => by clear hC; go_simp⟩) ?_
                      simp only [Act.put, List.setIfInBounds_toArray, List.set_cons_succ, List.set_cons_zero]
                      refine wpAnyC_ready (rs := [5]) (by kernel_rfl) (by simp) ?_
                      refine AllC.cons rfl (fun K hK => ?_) AllC.nil
                      go_simp
                      refine ⟨trivial, rfl, (callsIn_wide.2 (cC _ hd)).mono ?_⟩
                      rintro x w3 ⟨a', c', rfl, hv', hb3⟩
                      dsimp only
                      have hC3 : Below wz.heap.size wz w3 := growG hd hb3
                      refine hK _ _ hC3 ?_
                      clear hK K
                      try simp only [Act.put, List.setIfInBounds_toArray, List.set_cons_succ, List.set_cons_zero]
                      refine wpAnyC_ready (rs := [7]) (by kernel_rfl) (by simp) ?_
                      refine AllC.cons rfl (fun K hK => ?_) AllC.nil
                      go_simp
                      refine ⟨trivial, rfl, (callsIn_wide.2 (cD _ _ _ hv')).mono ?_⟩
                      rintro x w4 ⟨rfl, rfl⟩
                      dsimp only
                      refine hK _ _ hC3 ?_
                      clear hK K
                      try simp only [Act.put, List.setIfInBounds_toArray, List.set_cons_succ, List.set_cons_zero]
                      refine wpAnyC_takeD (i := 8) (some 111) (v := .bool false) (fun _ => trivial) (by kernel_rfl) rfl rfl (by kernel_rfl) (by kernel_rfl) (by kernel_rfl) (fun _ _ _ h => by cases h.1) hC3 (Or.inl ⟨by kernel_rfl, fun w' hC => by clear hC; go_simp⟩) ?_
                      simp only [Act.put, List.setIfInBounds_toArray, List.set_cons_succ, List.set_cons_zero]
                      refine wpAnyC_takeD (i := 9) (some 112) (v := .bool false) (fun _ => trivial) (by kernel_rfl) rfl rfl (by kernel_rfl) (by kernel_rfl) (by kernel_rfl) (fun _ _ _ h => by cases h.1) hC3 (Or.inl ⟨by kernel_rfl, fun w' hC => by clear hC; go_simp⟩) ?_
                      simp only [Act.put, List.setIfInBounds_toArray, List.set_cons_succ, List.set_cons_zero]
                      refine wpAnyC_takeD (i := 10) (some 113) (v := .int .i64 (q : Int)) (fun _ => trivial) (by kernel_rfl) rfl rfl (by kernel_rfl) (by kernel_rfl) (by kernel_rfl) (fun _ _ _ h => by cases h.1) hC3 (Or.inl ⟨by kernel_rfl, fun w' hC => by clear hC; go_simp⟩) ?_
                      simp only [Act.put, List.setIfInBounds_toArray, List.set_cons_succ, List.set_cons_zero]
                      refine wpAnyC_takeD (i := 11) (some 114) (v := .bool false) (fun _ => trivial) (by kernel_rfl) rfl rfl (by kernel_rfl) (by kernel_rfl) (by kernel_rfl) (fun _ _ _ h => by cases h.1) hC3 (Or.inl ⟨by kernel_rfl, fun w' hC => by clear hC; go_simp⟩) ?_
                      simp only [Act.put, List.setIfInBounds_toArray, List.set_cons_succ, List.set_cons_zero]
                      refine wpAnyC_takeD (i := 12) (some 115) (v := .bool false) (fun _ => trivial) (by kernel_rfl) rfl rfl (by kernel_rfl) (by kernel_rfl) (by kernel_rfl) (fun _ _ _ h => by cases h.1) hC3 (Or.inl ⟨by kernel_rfl, fun w' hC => by clear hC; go_simp⟩) ?_
                      simp only [Act.put, List.setIfInBounds_toArray, List.set_cons_succ, List.set_cons_zero]
                      refine wpAnyC_takeD (i := 13) (some 116) (v := undef) (fun _ => trivial) (by kernel_rfl) rfl rfl (by kernel_rfl) (by kernel_rfl) (by kernel_rfl) (fun _ _ _ h => by cases h.1) hC3 (Or.inr ⟨by kernel_rfl, rfl⟩) ?_
                      simp only [Act.put, List.setIfInBounds_toArray, List.set_cons_succ, List.set_cons_zero]
                      refine wpAnyC_takeD (i := 14) (some 117) (v := undef) (fun _ => trivial) (by kernel_rfl) rfl rfl (by kernel_rfl) (by kernel_rfl) (by kernel_rfl) (fun _ _ _ h => by cases h.1) hC3 (Or.inr ⟨by kernel_rfl, rfl⟩) ?_
                      simp only [Act.put, List.setIfInBounds_toArray, List.set_cons_succ, List.set_cons_zero]
                      refine wpAnyC_takeD (i := 15) (some 118) (v := undef) (fun _ => trivial) (by kernel_rfl) rfl rfl (by kernel_rfl) (by kernel_rfl) (by kernel_rfl) (fun _ _ _ h => by cases h.1) hC3 (Or.inr ⟨by kernel_rfl, rfl⟩) ?_
                      simp only [Act.put, List.setIfInBounds_toArray, List.set_cons_succ, List.set_cons_zero]
                      refine wpAnyC_takeD (i := 16) (some 119) (v := undef) (fun _ => trivial) (by kernel_rfl) rfl rfl (by kernel_rfl) (by kernel_rfl) (by kernel_rfl) (fun _ _ _ h => by cases h.1) hC3 (Or.inr ⟨by kernel_rfl, rfl⟩) ?_
                      simp only [Act.put, List.setIfInBounds_toArray, List.set_cons_succ, List.set_cons_zero]
                      refine wpAnyC_takeD (i := 17) (some 120) (v := undef) (fun _ => trivial) (by kernel_rfl) rfl rfl (by kernel_rfl) (by kernel_rfl) (by kernel_rfl) (fun _ _ _ h => by cases h.1) hC3 (Or.inr ⟨by kernel_rfl, rfl⟩) ?_
                      simp only [Act.put, List.setIfInBounds_toArray, List.set_cons_succ, List.set_cons_zero]
                      refine wpAnyC_takeD (i := 18) (some 121) (v := undef) (fun _ => trivial) (by kernel_rfl) rfl rfl (by kernel_rfl) (by kernel_rfl) (by kernel_rfl) (fun _ _ _ h => by cases h.1) hC3 (Or.inr ⟨by kernel_rfl, rfl⟩) ?_
                      simp only [Act.put, List.setIfInBounds_toArray, List.set_cons_succ, List.set_cons_zero]
                      refine wpAnyC_takeD (i := 19) (some 122) (v := undef) (fun _ => trivial) (by kernel_rfl) rfl rfl (by kernel_rfl) (by kernel_rfl) (by kernel_rfl) (fun _ _ _ h => by cases h.1) hC3 (Or.inr ⟨by kernel_rfl, rfl⟩) ?_
                      simp only [Act.put, List.setIfInBounds_toArray, List.set_cons_succ, List.set_cons_zero]
                      refine wpAnyC_takeD (i := 20) (some 123) (v := undef) (fun _ => trivial) (by kernel_rfl) rfl rfl (by kernel_rfl) (by kernel_rfl) (by kernel_rfl) (fun _ _ _ h => by cases h.1) hC3 (Or.inr ⟨by kernel_rfl, rfl⟩) ?_
                      simp only [Act.put, List.setIfInBounds_toArray, List.set_cons_succ, List.set_cons_zero]
                      refine wpAnyC_takeD (i := 21) (some 124) (v := undef) (fun _ => trivial) (by kernel_rfl) rfl rfl (by kernel_rfl) (by kernel_rfl) (by kernel_rfl) (fun _ _ _ h => by cases h.1) hC3 (Or.inr ⟨by kernel_rfl, rfl⟩) ?_
                      simp only [Act.put, List.setIfInBounds_toArray, List.set_cons_succ, List.set_cons_zero]
                      refine wpAnyC_takeD (i := 22) (some 125) (v := undef) (fun _ => trivial) (by kernel_rfl) rfl rfl (by kernel_rfl) (by kernel_rfl) (by kernel_rfl) (fun _ _ _ h => by cases h.1) hC3 (Or.inr ⟨by kernel_rfl, rfl⟩) ?_
                      simp only [Act.put, List.setIfInBounds_toArray, List.set_cons_succ, List.set_cons_zero]
                      refine wpAnyC_takeD (i := 23) (some 126) (v := .bool false) (fun _ => trivial) (by kernel_rfl) rfl rfl (by kernel_rfl) (by kernel_rfl) (by kernel_rfl) (fun _ _ _ h => by cases h.1) hC3 (Or.inl ⟨by kernel_rfl, fun w' hC => by clear hC; go_simp⟩) ?_
                      simp only [Act.put, List.setIfInBounds_toArray, List.set_cons_succ, List.set_cons_zero]
                      refine wpAnyC_takeD (i := 24) (some 127) (v := .bool false) (fun _ => trivial) (by kernel_rfl) rfl rfl (by kernel_rfl) (by kernel_rfl) (by kernel_rfl) (fun _ _ _ h => by cases h.1) hC3 (Or.inl ⟨by kernel_rfl, fun w' hC => by clear hC; go_simp⟩) ?_
                      simp only [Act.put, List.setIfInBounds_toArray, List.set_cons_succ, List.set_cons_zero]
                      refine wpAnyC_done (by kernel_rfl) ?_ _
                      go_wp2_with fail
                      exact ⟨⟨q + 1, HQ.out, by simp, growG HBR.out hC3⟩, measZ2 HQ.out⟩
                    · obtain ⟨r, hr⟩ : ∃ r, r + 1 = q := ⟨q - 1, by omega⟩
                      have hrK : r < AK.length := by omega
                      obtain ⟨b3, o3, e3, _, hcr⟩ := hVz r hrK
                      cases e3
                      have hlt2 : nth AK r < nth AK q := by
                        have h := HRI.out r (by rw [hr]; exact hlt)
                        rw [hr] at h
                        exact h
                      generalize nth AK q = y at *
                      generalize nth AK r = y2 at *
                      have hK : ∀ wx, Below wz.heap.size wz wx → wx.cell? ⟨b2, o2 + q, none⟩ = some (.int .i64 y) ∧ wx.cell? ⟨b2, o2 + r, none⟩ = some (.int .i64 y2) := fun wx hx => ⟨(hx.cell (p := ⟨b2, o2 + q, none⟩) hb2).trans hcq, (hx.cell (p := ⟨b2, o2 + r, none⟩) hb2).trans hcr⟩
                      generalize rowN M j = RJ at *
                      have hz : decide ((0 : Int) < (q : Int)) = true := decide_eq_true (by omega)
                      have hz2 : decide (0 < q) = true := decide_eq_true hq0
                      have hy2 : decide (y ≤ y2) = false := decide_eq_false (by omega)
                      have hri : (r : Int) < (nk : Int) := by omega
                      have hwr : IntKind.i64.wrap ((q : Int) - 1) = (r : Int) := by rw [IntKind.wrap_i64] <;> omega
                      clear hVz hG8 hjr hje hnj hlt hq hqK hBr hb2 hrj hq0 hrK hlt2 hr
                      go_wp2_with fail
                      have HKK := hide hK
                      clear hK
                      have hmix : Try.prog.follows .mixedOrders = true := by kernel_rfl
                      refine (wpIn_wide (n := 0)).1 ?_
                      refine wpIn_normal (wpIn_region_any hmix (wpAnyC_sound (C := Below wz.heap.size wz) _ _ _ _ ?_))
                      change wpAnyC _ _ _ _ _ _ _ _ _ _ (World.drew _)
                      refine wpAnyC_takeD (i := 0) (some 103) (v := .pointer (some ⟨p, 0, none⟩)) (fun _ => trivial) (by kernel_rfl) rfl rfl (by kernel_rfl) (by kernel_rfl) (by kernel_rfl) (fun _ _ _ h => by cases h.1) hd (Or.inl ⟨by kernel_rfl, fun w' hC => by clear hC; go_simp⟩) ?_
                      simp only [Act.put, List.setIfInBounds_toArray, List.set_cons_succ, List.set_cons_zero]
                      refine wpAnyC_takeD (i := 1) (some 104) (v := .slice (some ⟨b2, o2, none⟩) nk ca) (fun _ => trivial) (by kernel_rfl) rfl rfl (by kernel_rfl) (by kernel_rfl) (by kernel_rfl) (fun _ _ _ h => by cases h.1) hd (Or.inl ⟨by kernel_rfl, fun w' hC => by clear hC; go_simp⟩) ?_
                      simp only [Act.put, List.setIfInBounds_toArray, List.set_cons_succ, List.set_cons_zero]
                      refine wpAnyC_takeD (i := 2) (some 105) (v := .int .i64 (q : Int)) (fun _ => trivial) (by kernel_rfl) rfl rfl (by kernel_rfl) (by kernel_rfl) (by kernel_rfl) (fun _ _ _ h => by cases h.1) hd (Or.inl ⟨by kernel_rfl, fun w' hC => by clear hC; go_simp⟩) ?_
                      simp only [Act.put, List.setIfInBounds_toArray, List.set_cons_succ, List.set_cons_zero]
                      refine wpAnyC_takeD (i := 3) (some 106) (v := .pointer (some ⟨b2, o2 + q, none⟩)) (fun _ => trivial) (by kernel_rfl) rfl rfl (by kernel_rfl) (by kernel_rfl) (by kernel_rfl) (fun _ _ _ h => by cases h.1) hd (Or.inl ⟨by kernel_rfl, fun w' hC => by clear hC; go_simp⟩) ?_
                      simp only [Act.put, List.setIfInBounds_toArray, List.set_cons_succ, List.set_cons_zero]
                      refine wpAnyC_takeD (i := 4) (some 107) (v := .int .i64 y) (fun _ => trivial) (by kernel_rfl) rfl rfl (by kernel_rfl) (by kernel_rfl) (by kernel_rfl) (fun _ _ _ h => by cases h.1) hd (Or.inl ⟨by kernel_rfl, fun w' hC => by have e1 := HKK.out w' hC; clear hC; go_simp⟩) ?_
                      simp only [Act.put, List.setIfInBounds_toArray, List.set_cons_succ, List.set_cons_zero]
                      refine wpAnyC_takeD (i := 6) (some 109) (v := .int .i64 (k : Int)) (fun _ => trivial) (by kernel_rfl) rfl rfl (by kernel_rfl) (by kernel_rfl) (by kernel_rfl) (fun _ _ _ h => by cases h.1) hd (Or.inl ⟨by kernel_rfl, fun w' hC => by clear hC; go_simp⟩) ?_
                      simp only [Act.put, List.setIfInBounds_toArray, List.set_cons_succ, List.set_cons_zero]
                      refine wpAnyC_ready (rs := [5]) (by kernel_rfl) (by simp) ?_
                      refine AllC.cons rfl (fun K hK => ?_) AllC.nil
                      go_simp
                      refine ⟨trivial, rfl, (callsIn_wide.2 (cC _ hd)).mono ?_⟩
                      rintro x w3 ⟨a', c', rfl, hv', hb3⟩
                      dsimp only
                      have hC3 : Below wz.heap.size wz w3 := growG hd hb3
                      refine hK _ _ hC3 ?_
                      clear hK K
                      try simp only [Act.put, List.setIfInBounds_toArray, List.set_cons_succ, List.set_cons_zero]
                      refine wpAnyC_ready (rs := [7]) (by kernel_rfl) (by simp) ?_
                      refine AllC.cons rfl (fun K hK => ?_) AllC.nil
                      go_simp
                      refine ⟨trivial, rfl, (callsIn_wide.2 (cD _ _ _ hv')).mono ?_⟩
                      rintro x w4 ⟨rfl, rfl⟩
                      dsimp only
                      refine hK _ _ hC3 ?_
                      clear hK K
                      try simp only [Act.put, List.setIfInBounds_toArray, List.set_cons_succ, List.set_cons_zero]
                      refine wpAnyC_takeD (i := 8) (some 111) (v := .bool false) (fun _ => trivial) (by kernel_rfl) rfl rfl (by kernel_rfl) (by kernel_rfl) (by kernel_rfl) (fun _ _ _ h => by cases h.1) hC3 (Or.inl ⟨by kernel_rfl, fun w' hC => by clear hC; go_simp⟩) ?_
                      simp only [Act.put, List.setIfInBounds_toArray, List.set_cons_succ, List.set_cons_zero]
                      refine wpAnyC_takeD (i := 9) (some 112) (v := .bool false) (fun _ => trivial) (by kernel_rfl) rfl rfl (by kernel_rfl) (by kernel_rfl) (by kernel_rfl) (fun _ _ _ h => by cases h.1) hC3 (Or.inl ⟨by kernel_rfl, fun w' hC => by clear hC; go_simp⟩) ?_
                      simp only [Act.put, List.setIfInBounds_toArray, List.set_cons_succ, List.set_cons_zero]
                      refine wpAnyC_takeD (i := 10) (some 113) (v := .int .i64 (q : Int)) (fun _ => trivial) (by kernel_rfl) rfl rfl (by kernel_rfl) (by kernel_rfl) (by kernel_rfl) (fun _ _ _ h => by cases h.1) hC3 (Or.inl ⟨by kernel_rfl, fun w' hC => by clear hC; go_simp⟩) ?_
                      simp only [Act.put, List.setIfInBounds_toArray, List.set_cons_succ, List.set_cons_zero]
                      refine wpAnyC_takeD (i := 11) (some 114) (v := .bool true) (fun _ => trivial) (by kernel_rfl) rfl rfl (by kernel_rfl) (by kernel_rfl) (by kernel_rfl) (fun _ _ _ h => by cases h.1) hC3 (Or.inl ⟨by kernel_rfl, fun w' hC => by clear hC; go_simp⟩) ?_
                      simp only [Act.put, List.setIfInBounds_toArray, List.set_cons_succ, List.set_cons_zero]
                      refine wpAnyC_takeD (i := 12) (some 115) (v := .bool true) (fun _ => trivial) (by kernel_rfl) rfl rfl (by kernel_rfl) (by kernel_rfl) (by kernel_rfl) (fun _ _ _ h => by cases h.1) hC3 (Or.inl ⟨by kernel_rfl, fun w' hC => by clear hC; go_simp⟩) ?_
                      simp only [Act.put, List.setIfInBounds_toArray, List.set_cons_succ, List.set_cons_zero]
                      refine wpAnyC_takeD (i := 13) (some 116) (v := .slice (some ⟨b2, o2, none⟩) nk ca) (fun _ => trivial) (by kernel_rfl) rfl rfl (by kernel_rfl) (by kernel_rfl) (by kernel_rfl) (fun _ _ _ h => by cases h.1) hC3 (Or.inl ⟨by kernel_rfl, fun w' hC => by clear hC; go_simp⟩) ?_
                      simp only [Act.put, List.setIfInBounds_toArray, List.set_cons_succ, List.set_cons_zero]
                      refine wpAnyC_takeD (i := 14) (some 117) (v := .int .i64 (q : Int)) (fun _ => trivial) (by kernel_rfl) rfl rfl (by kernel_rfl) (by kernel_rfl) (by kernel_rfl) (fun _ _ _ h => by cases h.1) hC3 (Or.inl ⟨by kernel_rfl, fun w' hC => by clear hC; go_simp⟩) ?_
                      simp only [Act.put, List.setIfInBounds_toArray, List.set_cons_succ, List.set_cons_zero]
                      refine wpAnyC_takeD (i := 15) (some 118) (v := .int .i64 (r : Int)) (fun _ => trivial) (by kernel_rfl) rfl rfl (by kernel_rfl) (by kernel_rfl) (by kernel_rfl) (fun _ _ _ h => by cases h.1) hC3 (Or.inl ⟨by kernel_rfl, fun w' hC => by clear hC; go_simp⟩) ?_
                      simp only [Act.put, List.setIfInBounds_toArray, List.set_cons_succ, List.set_cons_zero]
                      refine wpAnyC_takeD (i := 16) (some 119) (v := .pointer (some ⟨b2, o2 + r, none⟩)) (fun _ => trivial) (by kernel_rfl) rfl rfl (by kernel_rfl) (by kernel_rfl) (by kernel_rfl) (fun _ _ _ h => by cases h.1) hC3 (Or.inl ⟨by kernel_rfl, fun w' hC => by clear hC; go_simp⟩) ?_
                      simp only [Act.put, List.setIfInBounds_toArray, List.set_cons_succ, List.set_cons_zero]
                      refine wpAnyC_takeD (i := 17) (some 120) (v := .int .i64 y2) (fun _ => trivial) (by kernel_rfl) rfl rfl (by kernel_rfl) (by kernel_rfl) (by kernel_rfl) (fun _ _ _ h => by cases h.1) hC3 (Or.inl ⟨by kernel_rfl, fun w' hC => by have e1 := HKK.out w' hC; clear hC; go_simp⟩) ?_
                      simp only [Act.put, List.setIfInBounds_toArray, List.set_cons_succ, List.set_cons_zero]
                      refine wpAnyC_takeD (i := 18) (some 121) (v := .slice (some ⟨b2, o2, none⟩) nk ca) (fun _ => trivial) (by kernel_rfl) rfl rfl (by kernel_rfl) (by kernel_rfl) (by kernel_rfl) (fun _ _ _ h => by cases h.1) hC3 (Or.inl ⟨by kernel_rfl, fun w' hC => by clear hC; go_simp⟩) ?_
                      simp only [Act.put, List.setIfInBounds_toArray, List.set_cons_succ, List.set_cons_zero]
                      refine wpAnyC_takeD (i := 19) (some 122) (v := .int .i64 (q : Int)) (fun _ => trivial) (by kernel_rfl) rfl rfl (by kernel_rfl) (by kernel_rfl) (by kernel_rfl) (fun _ _ _ h => by cases h.1) hC3 (Or.inl ⟨by kernel_rfl, fun w' hC => by clear hC; go_simp⟩) ?_
                      simp only [Act.put, List.setIfInBounds_toArray, List.set_cons_succ, List.set_cons_zero]
                      refine wpAnyC_takeD (i := 20) (some 123) (v := .pointer (some ⟨b2, o2 + q, none⟩)) (fun _ => trivial) (by kernel_rfl) rfl rfl (by kernel_rfl) (by kernel_rfl) (by kernel_rfl) (fun _ _ _ h => by cases h.1) hC3 (Or.inl ⟨by kernel_rfl, fun w' hC => by clear hC; go_simp⟩) ?_
                      simp only [Act.put, List.setIfInBounds_toArray, List.set_cons_succ, List.set_cons_zero]
                      refine wpAnyC_takeD (i := 21) (some 124) (v := .int .i64 y) (fun _ => trivial) (by kernel_rfl) rfl rfl (by kernel_rfl) (by kernel_rfl) (by kernel_rfl) (fun _ _ _ h => by cases h.1) hC3 (Or.inl ⟨by kernel_rfl, fun w' hC => by have e1 := HKK.out w' hC; clear hC; go_simp⟩) ?_
                      simp only [Act.put, List.setIfInBounds_toArray, List.set_cons_succ, List.set_cons_zero]
                      refine wpAnyC_takeD (i := 22) (some 125) (v := .bool false) (fun _ => trivial) (by kernel_rfl) rfl rfl (by kernel_rfl) (by kernel_rfl) (by kernel_rfl) (fun _ _ _ h => by cases h.1) hC3 (Or.inl ⟨by kernel_rfl, fun w' hC => by clear hC; go_simp⟩) ?_
                      simp only [Act.put, List.setIfInBounds_toArray, List.set_cons_succ, List.set_cons_zero]
                      refine wpAnyC_takeD (i := 23) (some 126) (v := .bool false) (fun _ => trivial) (by kernel_rfl) rfl rfl (by kernel_rfl) (by kernel_rfl) (by kernel_rfl) (fun _ _ _ h => by cases h.1) hC3 (Or.inl ⟨by kernel_rfl, fun w' hC => by clear hC; go_simp⟩) ?_
                      simp only [Act.put, List.setIfInBounds_toArray, List.set_cons_succ, List.set_cons_zero]
                      refine wpAnyC_takeD (i := 24) (some 127) (v := .bool false) (fun _ => trivial) (by kernel_rfl) rfl rfl (by kernel_rfl) (by kernel_rfl) (by kernel_rfl) (fun _ _ _ h => by cases h.1) hC3 (Or.inl ⟨by kernel_rfl, fun w' hC => by clear hC; go_simp⟩) ?_
                      simp only [Act.put, List.setIfInBounds_toArray, List.set_cons_succ, List.set_cons_zero]
                      refine wpAnyC_done (by kernel_rfl) ?_ _
                      go_wp2_with fail
                      exact ⟨⟨q + 1, HQ.out, by simp, growG HBR.out hC3⟩, measZ2 HQ.out⟩
                  · have e : nk = q := by omega
                    subst e
                    have HB9 := hide (HB8.out.trans (hBr.mono HB8.out.size))
                    clear hBr hq
                    go_wp2_with fail
                    exact ⟨⟨k + 1, HLT.out, by simp, HB9.out⟩, measZ2 HLT.out⟩
      · have e : n = k := by omega
        subst e
        have HB6 := hide (HB3.out.trans (hB.mono HB3.out.size))
        clear hB hk hGr
        go_wp2_with fail
        refine hlen.mono ?_
        rintro e w4 ⟨rfl, rfl⟩
        clear hlen
        go_wp2_with fail
        refine (HA.out _).mono ?_
        rintro e w7 ⟨rfl, hb7⟩
        have HB7 := hide (HB6.out.trans (hb7.mono HB6.out.size))
        clear hb7
        go_wp2_with fail
        go_ret
        exact ⟨rfl, HB7.out⟩

end Go.Proofs.Ytpdjmapmpicgjaa
