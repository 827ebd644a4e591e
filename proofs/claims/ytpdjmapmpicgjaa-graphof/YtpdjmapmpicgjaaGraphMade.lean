/-
  made of graph: the graph of edges that all lead to nodes.
-/
import Derived.WalkSpells
import Derived.WalkMore
import Derived.OwnWalk
import Derived.BigRegion
import Derived.Deep.RegionWith
import Derived.Test.YtpdjmapmpicgjaaProg
import Derived.Test.YtpdjmapmpicgjaaGraphTurned
import Derived.Test.YtpdjmapmpicgjaaGraphWalk
namespace Go.Proofs.Ytpdjmapmpicgjaa
open Go.RowKit
set_option linter.unusedVariables false
set_option linter.unusedSimpArgs false
set_option maxRecDepth 10000

theorem gC_zero (hv : Value) : Try.zeroCells71.setIfInBounds 0 hv = (gC hv (.slice none 0 0) (fun _ => 0) (.slice none 0 0) (.slice none 0 0)).toArray := rfl
theorem GrB.new (w : World) (hv : Value) : GrB (w.alloc (.cells (Try.zeroCells71.setIfInBounds 0 hv) 71)) w.heap.size hv (.slice none 0 0) (fun _ => 0) (.slice none 0 0) (.slice none 0 0) := by
  refine ⟨?_, fun k => by show (0 : Nat) < _; omega⟩
  rw [gC_zero]
  show (w.heap.push _)[w.heap.size]? = _
  rw [Array.getElem?_push_size]
/-- A graph while its edges are made: what stands since w. -/
structure MdS (w wr : World) (p n k : Nat) (N : List (List Int)) : Prop where
  own : OwnL wr w.heap.size (.slice (some ⟨w.heap.size, 0, none⟩) n n) (madeQ N k)
  blk : GrB wr p (.slice (some ⟨w.heap.size, 0, none⟩) n n) (.slice none 0 0) (fun _ => 0) (.slice none 0 0) (.slice none 0 0)
  bel : Below w.heap.size w wr
  low : w.heap.size < p
theorem MdS.below {w wr wr' : World} {p n k : Nat} {N : List (List Int)} (h : MdS w wr p n k N) (hb : Below wr.heap.size wr wr') : MdS w wr' p n k N := ⟨h.own.below hb, h.blk.below hb, h.bel.trans (hb.mono h.bel.size), h.low⟩
theorem MdS.put {w W w' : World} {p n k : Nat} {N : List (List Int)} {v : Value} (h : MdS w W p n k N) (hl : N.length = n) (hk : k < n) (hb : Below W.heap.size W w') (hv : w'.ownsRow W.heap.size 3 1 v (onceF (rowN N k)).length ((onceF (rowN N k)).map (Value.int .i64))) :
    MdS w (w'.setCell ⟨w.heap.size, k, none⟩ v) p n (k + 1) N ∧ (∃ u, w'.cell? ⟨w.heap.size, k, none⟩ = some u) ∧ w'.frozen? ⟨w.heap.size, k, none⟩ = false := by
  have hml : (madeQ N k).length = n := by rw [madeQ_len]; exact hl
  have ho : OwnL W w.heap.size (.slice (some ⟨w.heap.size, 0, none⟩) (madeQ N k).length n) (madeQ N k) := by rw [hml]; exact h.own
  obtain ⟨h1, h2, h3, h4⟩ := OwnL.put ho hb (j := k) (by rw [hml]; exact hk) h.bel.size hv
  rw [hml, madeQ_set N k (by omega)] at h1
  have hM := h.below hb
  refine ⟨⟨h1, hM.blk.other (Below.heap_setCell _ _ _ _ (fun e => by have := h.low; simp at e; omega)), hM.bel.grown (grown_setCell w' w.heap.size k v) hM.bel.size (fun q e => by cases e; exact Nat.le_refl _), h.low⟩, h2, h3⟩

set_option maxHeartbeats 8000000 in
theorem made_any (a : Option Addr) (n c : Nat) (N : List (List Int)) (w : World) (hv : LV w a N) (hl : N.length = n) (h0 : 0 < n) (hn : n ≤ 4096) (hE : Edges n N) (hr : ∀ j, 8 * (rowN N j).length ≤ 140737488351232) :
    Calls Try.prog 31 #[.slice a n c] w fun e w' => ∃ p, e = .returned (.pointer (some ⟨p, 0, none⟩)) ∧ GrV w' w.heap.size p (N.map onceF) ∧ Below w.heap.size w w' := by
  obtain ⟨j0, hj, hy0, hy1, hy2⟩ := info_parts GrLists.info
  have HL := hide hl
  have HV := hide hv
  have HE := hide hE
  have HN := hide hn
  have HR := hide hr
  have H0 := hide h0
  have hni : (n : Int) ≤ 4096 := by omega
  clear hl hv hE hr
  go_enter Try.func31, Try.ntmps31
  go_wp2_with (at_make; refine wpList_make_full _ rfl _ _ 22 rfl w.heap.size 32 j0 (.slice none 0 0) 1 Try.underlying22 hj hy0 hy1 _ _ _ _ n rfl rfl (by rfl) (by rfl) (by rw [hy2]; omega) (by unfold maxLen; omega) (Nat.le_refl _) ?_)
  intro w1 hown1 hgr1
  have hb1 : Below w.heap.size w w1 := (Below.refl _ w).grown hgr1 (Nat.le_refl _) (by simp)
  have hO1 : OwnL w1 w.heap.size (.slice (some ⟨w.heap.size, 0, none⟩) n n) (madeQ N 0) := by rw [madeQ_zero, HL.out]; exact OwnL.made (by simpa using hown1)
  have hlw : w.heap.size < w1.heap.size := by
    obtain ⟨_, _, _, _, _, hab⟩ := hO1.head
    have hx := hgr1.size
    obtain ⟨a', c', e', _, _, hab⟩ := hO1.head
    cases e'
    exact (hab w.heap.size 0 rfl).2
  have hbA : Below w1.heap.size w1 (w1.alloc (.cells (Try.zeroCells71.setIfInBounds 0 (.slice (some ⟨w.heap.size, 0, none⟩) n n)) 71)) := (Below.refl _ _).alloc (Nat.le_refl _) _
  have HS0 : Hid (MdS w (w1.alloc (.cells (Try.zeroCells71.setIfInBounds 0 (.slice (some ⟨w.heap.size, 0, none⟩) n n)) 71)) w1.heap.size n 0 N) := ⟨hO1.below hbA, GrB.new _ _, hb1.trans (hbA.mono hb1.size), hlw⟩
  clear hown1 hgr1 hb1 hO1 hlw hbA hn h0
  go_wp2_with fail
  generalize w1.alloc (.cells (Try.zeroCells71.setIfInBounds 0 (.slice (some ⟨w.heap.size, 0, none⟩) n n)) 71) = W1 at *
  generalize Value.agg (Try.zeroCells71.setIfInBounds 0 (.slice (some ⟨w.heap.size, 0, none⟩) n n)) = AG at *
  generalize w1.heap.size = p at *
  go_loopw [13] (fun i wr => ∃ k : Nat, k ≤ n ∧ i = .int .i64 k ∧ MdS w wr p n k N) (fun i _ => n - (intOf i).toNat)
  case atStart => exact ⟨0, Nat.zero_le _, rfl, HS0.out⟩
  case round =>
    obtain ⟨k, hk, rfl, hS⟩ := hrel
    by_cases hlt : k < n
    · obtain ⟨b, off, aj, nj, cj, rfl, hb, hc, hcl, hcc, hvj⟩ := HV.out k (by rw [HL.out]; exact hlt)
      have hc' := (hS.bel.cell (p := ⟨b, off + k, none⟩) hb).trans hc
      have hki : (k : Int) < (n : Int) := by omega
      have HLT := hide hlt
      have HS := hide hS
      have hvr := hvj.below hS.bel
      have hrk := HR.out k
      have hek : ∀ x ∈ rowN N k, 0 ≤ x ∧ x < 4096 := fun x hx => by have := HE.out k x hx; have := HN.out; omega
      have c0 : wr.cell? ⟨p, 0, none⟩ = some (.slice (some ⟨w.heap.size, 0, none⟩) n n) := by rw [hS.blk.cell]; rfl
      have hpl := hS.blk.lt
      have hON := fun wx (hx : Below wr.heap.size wr wx) => once_any aj nj cj (rowN N k) wx (hvr.below hx) hcl (by omega) hek
      have HPUT := hide (fun wx w' v (hx : Below wr.heap.size wr wx) hb' hv' => (HS.out.below hx).put (w' := w') (v := v) HL.out HLT.out hb' hv')
      clear hS HS0 hk hlt hb hc hcc hvj hvr hrk hek
      have hdw : Below wr.heap.size wr wr.drew := (Below.refl _ _).drew
      have HDW := hide hdw
      clear hdw
      go_wp2_with fail
      go_region_with (go_at_call 50; refine (hON _ HDW.out).mono ?_; rintro e w5 ⟨v5, rfl, ho5, hb5⟩; obtain ⟨a5, c5, rfl⟩ := own_shapeG ho5; obtain ⟨hM5, ⟨u5, hu5⟩, hf5⟩ := HPUT.out _ w5 _ HDW.out hb5 ho5; have c05 : w5.cell? ⟨p, 0, none⟩ = some (.slice (some ⟨w.heap.size, 0, none⟩) n n) := ((hb5.cell (p := ⟨p, 0, none⟩) (by simpa using hpl)).trans (by simpa using c0)))
      all_goals
        have HM5 := hide hM5
        clear hM5 ho5 hb5 hu5 hf5 c05 c0
        go_wp2_with fail
        exact ⟨⟨k + 1, HLT.out, by simp, HM5.out⟩, measZ2 HLT.out⟩
    · have e : n = k := by omega
      subst e
      have HW : Hid (madeQ N n = N.map onceF) := by show _ = _; rw [← HL.out, madeQ_whole]
      have hML : (N.map onceF).length = n := by rw [List.length_map]; exact HL.out
      have hrow : ∀ j, rowN (N.map onceF) j = onceF (rowN N j) := fun j => by
        by_cases hj : j < N.length
        · exact rowN_map N onceF j hj
        · rw [rowN_out _ _ (by rw [List.length_map]; omega), rowN_out _ _ (by omega)]; rfl
      have hE2 : Edges n (N.map onceF) := fun j x hx => by rw [hrow, once_mem] at hx; exact HE.out j x hx
      have hD2 : ∀ j, (rowN (N.map onceF) j).Nodup := fun j => by rw [hrow]; exact once_nodup _
      have hO := hS.own
      rw [HW.out] at hO
      have c0 : wr.cell? ⟨p, 0, none⟩ = some (.slice (some ⟨w.heap.size, 0, none⟩) n n) := by rw [hS.blk.cell]; rfl
      obtain ⟨a', c', e', _, hLV, _⟩ := hO.head
      rw [hML] at e'
      cases e'
      have hT := turned_any (some ⟨w.heap.size, 0, none⟩) n n (N.map onceF) wr hLV hML HN.out hE2 hD2
      have HS := hide hS
      have HO := hide hO
      have HM := hide hML
      have HE2 := hide hE2
      have HD2 := hide hD2
      have hpl := hS.blk.lt
      clear hS HS0 hk hO hLV hML hE2 hD2 hrow HV HE HR HL HW
      generalize hMM : N.map onceF = M at *
      have HMM := hide hMM
      clear hMM
      go_wp2_with fail
      refine hT.mono ?_
      rintro e w5 ⟨v5, rfl, hO5, hb5⟩
      have hB5 := HS.out.blk.below hb5
      have c15 : w5.cell? ⟨p, 1, none⟩ = some (.slice none 0 0) := by rw [hB5.cell]; rfl
      have f15 : w5.frozen? ⟨p, 1, none⟩ = false := hB5.frozen _
      have hB6 : GrB (w5.setCell ⟨p, 1, none⟩ v5) p (.slice (some ⟨w.heap.size, 0, none⟩) n n) v5 (fun _ => 0) (.slice none 0 0) (.slice none 0 0) := ⟨by have := hB5.set 1 v5; rw [gC_setA] at this; exact this, hB5.2⟩
      have hpt : ∀ (o : Obj), True := fun _ => trivial
      have hset : ∀ g cs T fr, w.heap.size ≤ g → (T = 3 ∨ T = 32) → w5.heap[g]? = some (.cells cs T fr) → (w5.setCell ⟨p, 1, none⟩ v5).heap[g]? = some (.cells cs T fr) := fun g cs T fr _ hTT hg => by
        refine (Below.heap_setCell _ _ _ _ (fun e => ?_)).trans hg
        simp at e
        subst e
        rw [hB5.1] at hg
        cases hg
        rcases hTT with e | e <;> exact absurd e (by decide)
      have hO6 : OwnL (w5.setCell ⟨p, 1, none⟩ v5) w.heap.size (.slice (some ⟨w.heap.size, 0, none⟩) n n) M := (HO.out.below hb5).same hset
      have hA6 : OwnL (w5.setCell ⟨p, 1, none⟩ v5) w.heap.size v5 (aheadR M) := (hO5.mono (HS.out.bel.size)).same hset
      have hb6 : Below w.heap.size w (w5.setCell ⟨p, 1, none⟩ v5) := by
        have h1 := HS.out.bel.trans (hb5.mono HS.out.bel.size)
        exact h1.grown (grown_setCell w5 p 1 v5) h1.size (fun q e => by cases e; have := HS.out.low; omega)
      obtain ⟨av, ac, rfl⟩ : ∃ av ac, v5 = .slice av n ac := by
        obtain ⟨av, ac, e1, _⟩ := hO5.head
        rw [aheadR_len, HM.out] at e1
        exact ⟨av, ac, e1⟩
      have hWk := graphWalk_any _ p w.heap.size _ _ M hB6 hO6 (by rw [HM.out]; exact HE2.out) (by rw [HM.out]; exact HN.out) (by rw [HM.out]; exact H0.out) HD2.out
      have HO6 := hide hO6
      have HA6 := hide hA6
      have HB6 := hide hb6
      have HG6 := hide hB6
      clear hT hb5 hO5 hB5 hO6 hA6 hb6 hB6 hset hpt
      go_wp2_with fail
      generalize (w5.setCell ⟨p, 1, none⟩ (.slice av n ac)) = W6 at *
      refine hWk.mono ?_
      rintro e w7 ⟨rfl, hg7, m7, cv7, ov7, hB7, hM7, hc7, ho7⟩
      have hkeep : ∀ g cs T fr, w.heap.size ≤ g → (T = 3 ∨ T = 32) → W6.heap[g]? = some (.cells cs T fr) → w7.heap[g]? = some (.cells cs T fr) := fun g cs T fr _ hTT hg => by
        refine (hg7.block g (Array.getElem?_eq_some_iff.1 hg).1 (fun e => ?_)).trans hg
        cases e
        rw [HG6.out.1] at hg
        cases hg
        rcases hTT with e | e <;> exact absurd e (by decide)
      have HV7 : Hid (GrV w7 w.heap.size p M) := ⟨⟨_, _, m7, cv7, ov7, hB7, HO6.out.same hkeep, HA6.out.same hkeep, hM7, own_mono hc7 HB6.out.size, own_mono ho7 HB6.out.size⟩, Nat.le_of_lt HS.out.low, by rw [HM.out]; exact HE2.out, by rw [HM.out]; exact HN.out, by rw [HM.out]; exact H0.out, HD2.out⟩
      have HB7 : Hid (Below w.heap.size w w7) := HB6.out.grown hg7 HB6.out.size (fun q e => by cases e; have := HS.out.low; omega)
      clear hWk hg7 hB7 hM7 hc7 ho7 hkeep
      go_wp2_with fail
      go_ret
      exact ⟨p, rfl, by rw [HMM.out]; exact HV7.out, HB7.out⟩

end Go.Proofs.Ytpdjmapmpicgjaa
