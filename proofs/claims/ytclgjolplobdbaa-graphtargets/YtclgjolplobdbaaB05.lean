/-
  Texts laid together in one: GraphMade, GraphCalls, GraphAsks, GraphOf, KitInts, Law14Awake.
-/
import Derived.WalkSpells
import Derived.WalkMore
import Derived.OwnWalk
import Derived.BigRegion
import Derived.Deep.RegionWith
import Derived.Test.YtclgjolplobdbaaProg
import Derived.Test.YtclgjolplobdbaaB04
import Derived.BigGuard
import Derived.Laws.CopyOwn
import Derived.Test.YtclgjolplobdbaaB01
import Derived.Laws.EntriesVeiled
import Derived.Deep.QuietTactic
import Derived.BigQuiet
/-
  made of graph: the graph of edges that all lead to nodes.
-/
namespace Go.Proofs.Ytclgjolplobdbaa
open Go.RowKit
set_option linter.unusedVariables false
set_option linter.unusedSimpArgs false
set_option maxRecDepth 10000

def zeroG : Array Value := (gC (.slice none 0 0) (.slice none 0 0) (fun _ => 0) (.slice none 0 0) (.slice none 0 0)).toArray
theorem zeroG_run (w : World) : (zeroValue 66).run Try.prog w = .ok (.agg zeroG) w := by kernel_rfl
theorem zeroG_ne : (zeroG = #[]) = False := by
  apply eq_false
  intro h
  have := congrArg Array.size h
  simp [zeroG, gC_len] at this
theorem gC_zero (hv : Value) : zeroG.setIfInBounds 0 hv = (gC hv (.slice none 0 0) (fun _ => 0) (.slice none 0 0) (.slice none 0 0)).toArray := rfl
theorem GrB.new (w : World) (hv : Value) : GrB (w.alloc (.cells (zeroG.setIfInBounds 0 hv) 66)) w.heap.size hv (.slice none 0 0) (fun _ => 0) (.slice none 0 0) (.slice none 0 0) := by
  refine ⟨?_, fun k => by show (0 : Nat) < _; omega⟩
  rw [gC_zero]
  show (w.heap.push _)[w.heap.size]? = _
  rw [Array.getElem?_push_size]
/-- A graph while its edges are made: what stands since w. -/
structure MdS (w wr : World) (p n k : Nat) (N : List (List Int)) : Prop where
  own : OwnL wr w.heap.size (.slice (some ⟨w.heap.size, 0, none⟩) n n) (madeQ N k)
  blk : GrB wr p (.slice (some ⟨w.heap.size, 0, none⟩) n n) (.slice none 0 0) (fun _ => 0) (.slice none 0 0) (.slice none 0 0)
  bel : Below w.heap.size w wr
  low : w.heap.size < p
theorem MdS.below {w wr wr' : World} {p n k : Nat} {N : List (List Int)} (h : MdS w wr p n k N) (hb : Below wr.heap.size wr wr') : MdS w wr' p n k N := ⟨h.own.below hb, h.blk.below hb, h.bel.trans (hb.mono h.bel.size), h.low⟩
theorem MdS.put {w W w' : World} {p n k : Nat} {N : List (List Int)} {v : Value} (h : MdS w W p n k N) (hl : N.length = n) (hk : k < n) (hb : Below W.heap.size W w') (hv : w'.ownsRow W.heap.size 3 1 v (onceF (rowN N k)).length ((onceF (rowN N k)).map (Value.int .i64))) :
    MdS w (w'.setCell ⟨w.heap.size, k, none⟩ v) p n (k + 1) N ∧ (∃ u, w'.cell? ⟨w.heap.size, k, none⟩ = some u) ∧ w'.frozen? ⟨w.heap.size, k, none⟩ = false := by
  have hml : (madeQ N k).length = n := by rw [madeQ_len]; exact hl
  have ho : OwnL W w.heap.size (.slice (some ⟨w.heap.size, 0, none⟩) (madeQ N k).length n) (madeQ N k) := by rw [hml]; exact h.own
  obtain ⟨h1, h2, h3, h4⟩ := OwnL.put ho hb (j := k) (by rw [hml]; exact hk) h.bel.size hv
  rw [hml, madeQ_set N k (by omega)] at h1
  have hM := h.below hb
  refine ⟨⟨h1, hM.blk.other (Below.heap_setCell _ _ _ _ (fun e => by have := h.low; simp at e; omega)), hM.bel.grown (grown_setCell w' w.heap.size k v) hM.bel.size (fun q e => by cases e; exact Nat.le_refl _), h.low⟩, h2, h3⟩

set_option maxHeartbeats 8000000 in
theorem made_any (a : Option Addr) (n c : Nat) (N : List (List Int)) (w : World) (hv : LV w a N) (hl : N.length = n) (h0 : 0 < n) (hn : n ≤ 4096) (hE : Edges n N) (hr : ∀ j, 8 * (rowN N j).length ≤ 140737488351232) :
    Calls Try.prog 27 #[.slice a n c] w fun e w' => ∃ p, e = .returned (.pointer (some ⟨p, 0, none⟩)) ∧ GrV w' w.heap.size p (N.map onceF) ∧ Below w.heap.size w w' := by
  obtain ⟨j0, hj, hy0, hy1, hy2⟩ := info_parts GrLists.info
  have HL := hide hl
  have HV := hide hv
  have HE := hide hE
  have HN := hide hn
  have HR := hide hr
  have H0 := hide h0
  have hni : (n : Int) ≤ 4096 := by omega
  clear hl hv hE hr
  have hzr := zeroG_run
  have hzn := zeroG_ne
  go_enter Try.func27, Try.ntmps27
  go_wp2_with (at_make; refine wpList_make_full _ rfl _ _ 40 rfl w.heap.size 41 j0 (.slice none 0 0) 1 Try.underlying40 hj hy0 hy1 _ _ _ _ n rfl rfl (by rfl) (by rfl) (by rw [hy2]; omega) (by unfold maxLen; omega) (Nat.le_refl _) ?_)
  intro w1 hown1 hgr1
  have hb1 : Below w.heap.size w w1 := (Below.refl _ w).grown hgr1 (Nat.le_refl _) (by simp)
  have hO1 : OwnL w1 w.heap.size (.slice (some ⟨w.heap.size, 0, none⟩) n n) (madeQ N 0) := by rw [madeQ_zero, HL.out]; exact OwnL.made (by simpa using hown1)
  have hlw : w.heap.size < w1.heap.size := by
    obtain ⟨_, _, _, _, _, hab⟩ := hO1.head
    have hx := hgr1.size
    obtain ⟨a', c', e', _, _, hab⟩ := hO1.head
    cases e'
    exact (hab w.heap.size 0 rfl).2
  have hbA : Below w1.heap.size w1 (w1.alloc (.cells (zeroG.setIfInBounds 0 (.slice (some ⟨w.heap.size, 0, none⟩) n n)) 66)) := (Below.refl _ _).alloc (Nat.le_refl _) _
  have HS0 : Hid (MdS w (w1.alloc (.cells (zeroG.setIfInBounds 0 (.slice (some ⟨w.heap.size, 0, none⟩) n n)) 66)) w1.heap.size n 0 N) := ⟨hO1.below hbA, GrB.new _ _, hb1.trans (hbA.mono hb1.size), hlw⟩
  clear hown1 hgr1 hb1 hO1 hlw hbA hn h0
  go_wp2_with fail
  generalize w1.alloc (.cells (zeroG.setIfInBounds 0 (.slice (some ⟨w.heap.size, 0, none⟩) n n)) 66) = W1 at *
  generalize Value.agg (zeroG.setIfInBounds 0 (.slice (some ⟨w.heap.size, 0, none⟩) n n)) = AG at *
  generalize w1.heap.size = p at *
  go_loopw [13] (fun i wr => ∃ k : Nat, k ≤ n ∧ i = .int .i64 k ∧ MdS w wr p n k N) (fun i _ => n - (intOf i).toNat)
  case atStart => exact ⟨0, Nat.zero_le _, rfl, HS0.out⟩
  case round =>
    obtain ⟨k, hk, rfl, hS⟩ := hrel
    by_cases hlt : k < n
    · obtain ⟨b, off, aj, nj, cj, rfl, hb, hc, hcl, hcc, hvj⟩ := HV.out k (by rw [HL.out]; exact hlt)
      have hc' := (hS.bel.cell (p := ⟨b, off + k, none⟩) hb).trans hc
      have hki : (k : Int) < (n : Int) := by omega
      have HLT := hide hlt
      have HS := hide hS
      have hvr := hvj.below hS.bel
      have hrk := HR.out k
      have hek : ∀ x ∈ rowN N k, 0 ≤ x ∧ x < 4096 := fun x hx => by have := HE.out k x hx; have := HN.out; omega
      have c0 : wr.cell? ⟨p, 0, none⟩ = some (.slice (some ⟨w.heap.size, 0, none⟩) n n) := by rw [hS.blk.cell]; rfl
      have hpl := hS.blk.lt
      have hON := fun wx (hx : Below wr.heap.size wr wx) => once_any aj nj cj (rowN N k) wx (hvr.below hx) hcl (by omega) hek
      have HPUT := hide (fun wx w' v (hx : Below wr.heap.size wr wx) hb' hv' => (HS.out.below hx).put (w' := w') (v := v) HL.out HLT.out hb' hv')
      clear hS HS0 hk hlt hb hc hcc hvj hvr hrk hek
      have hdw : Below wr.heap.size wr wr.drew := (Below.refl _ _).drew
      have HDW := hide hdw
      clear hdw
      go_wp2_with fail
      go_region_with (go_at_call 37; refine (hON _ HDW.out).mono ?_; rintro e w5 ⟨v5, rfl, ho5, hb5⟩; obtain ⟨a5, c5, rfl⟩ := own_shapeG ho5; obtain ⟨hM5, ⟨u5, hu5⟩, hf5⟩ := HPUT.out _ w5 _ HDW.out hb5 ho5; have c05 : w5.cell? ⟨p, 0, none⟩ = some (.slice (some ⟨w.heap.size, 0, none⟩) n n) := ((hb5.cell (p := ⟨p, 0, none⟩) (by simpa using hpl)).trans (by simpa using c0)))
      all_goals
        have HM5 := hide hM5
        clear hM5 ho5 hb5 hu5 hf5 c05 c0
        go_wp2_with fail
        exact ⟨⟨k + 1, HLT.out, by simp, HM5.out⟩, measZ2 HLT.out⟩
    · have e : n = k := by omega
      subst e
      have HW : Hid (madeQ N n = N.map onceF) := by show _ = _; rw [← HL.out, madeQ_whole]
      have hML : (N.map onceF).length = n := by rw [List.length_map]; exact HL.out
      have hrow : ∀ j, rowN (N.map onceF) j = onceF (rowN N j) := fun j => by
        by_cases hj : j < N.length
        · exact rowN_map N onceF j hj
        · rw [rowN_out _ _ (by rw [List.length_map]; omega), rowN_out _ _ (by omega)]; rfl
      have hE2 : Edges n (N.map onceF) := fun j x hx => by rw [hrow, once_mem] at hx; exact HE.out j x hx
      have hD2 : ∀ j, (rowN (N.map onceF) j).Nodup := fun j => by rw [hrow]; exact once_nodup _
      have hO := hS.own
      rw [HW.out] at hO
      have c0 : wr.cell? ⟨p, 0, none⟩ = some (.slice (some ⟨w.heap.size, 0, none⟩) n n) := by rw [hS.blk.cell]; rfl
      obtain ⟨a', c', e', _, hLV, _⟩ := hO.head
      rw [hML] at e'
      cases e'
      have hT := turned_any (some ⟨w.heap.size, 0, none⟩) n n (N.map onceF) wr hLV hML HN.out hE2 hD2
      have HS := hide hS
      have HO := hide hO
      have HM := hide hML
      have HE2 := hide hE2
      have HD2 := hide hD2
      have hpl := hS.blk.lt
      clear hS HS0 hk hO hLV hML hE2 hD2 hrow HV HE HR HL HW
      generalize hMM : N.map onceF = M at *
      have HMM := hide hMM
      clear hMM
      go_wp2_with fail
      refine hT.mono ?_
      rintro e w5 ⟨v5, rfl, hO5, hb5⟩
      have hB5 := HS.out.blk.below hb5
      have c15 : w5.cell? ⟨p, 1, none⟩ = some (.slice none 0 0) := by rw [hB5.cell]; rfl
      have f15 : w5.frozen? ⟨p, 1, none⟩ = false := hB5.frozen _
      have hB6 : GrB (w5.setCell ⟨p, 1, none⟩ v5) p (.slice (some ⟨w.heap.size, 0, none⟩) n n) v5 (fun _ => 0) (.slice none 0 0) (.slice none 0 0) := ⟨by have := hB5.set 1 v5; rw [gC_setA] at this; exact this, hB5.2⟩
      have hpt : ∀ (o : Obj), True := fun _ => trivial
      have hset : ∀ g cs T fr, w.heap.size ≤ g → (T = 3 ∨ T = 41) → w5.heap[g]? = some (.cells cs T fr) → (w5.setCell ⟨p, 1, none⟩ v5).heap[g]? = some (.cells cs T fr) := fun g cs T fr _ hTT hg => by
        refine (Below.heap_setCell _ _ _ _ (fun e => ?_)).trans hg
        simp at e
        subst e
        rw [hB5.1] at hg
        cases hg
        rcases hTT with e | e <;> exact absurd e (by decide)
      have hO6 : OwnL (w5.setCell ⟨p, 1, none⟩ v5) w.heap.size (.slice (some ⟨w.heap.size, 0, none⟩) n n) M := (HO.out.below hb5).same hset
      have hA6 : OwnL (w5.setCell ⟨p, 1, none⟩ v5) w.heap.size v5 (aheadR M) := (hO5.mono (HS.out.bel.size)).same hset
      have hb6 : Below w.heap.size w (w5.setCell ⟨p, 1, none⟩ v5) := by
        have h1 := HS.out.bel.trans (hb5.mono HS.out.bel.size)
        exact h1.grown (grown_setCell w5 p 1 v5) h1.size (fun q e => by cases e; have := HS.out.low; omega)
      obtain ⟨av, ac, rfl⟩ : ∃ av ac, v5 = .slice av n ac := by
        obtain ⟨av, ac, e1, _⟩ := hO5.head
        rw [aheadR_len, HM.out] at e1
        exact ⟨av, ac, e1⟩
      have hWk := graphWalk_any _ p w.heap.size _ _ M hB6 hO6 (by rw [HM.out]; exact HE2.out) (by rw [HM.out]; exact HN.out) (by rw [HM.out]; exact H0.out) HD2.out
      have HO6 := hide hO6
      have HA6 := hide hA6
      have HB6 := hide hb6
      have HG6 := hide hB6
      clear hT hb5 hO5 hB5 hO6 hA6 hb6 hB6 hset hpt
      go_wp2_with fail
      generalize (w5.setCell ⟨p, 1, none⟩ (.slice av n ac)) = W6 at *
      refine hWk.mono ?_
      rintro e w7 ⟨rfl, hg7, m7, cv7, ov7, hB7, hM7, hc7, ho7⟩
      have hkeep : ∀ g cs T fr, w.heap.size ≤ g → (T = 3 ∨ T = 41) → W6.heap[g]? = some (.cells cs T fr) → w7.heap[g]? = some (.cells cs T fr) := fun g cs T fr _ hTT hg => by
        refine (hg7.block g (Array.getElem?_eq_some_iff.1 hg).1 (fun e => ?_)).trans hg
        cases e
        rw [HG6.out.1] at hg
        cases hg
        rcases hTT with e | e <;> exact absurd e (by decide)
      have HV7 : Hid (GrV w7 w.heap.size p M) := ⟨⟨_, _, m7, cv7, ov7, hB7, HO6.out.same hkeep, HA6.out.same hkeep, hM7, own_mono hc7 HB6.out.size, own_mono ho7 HB6.out.size⟩, Nat.le_of_lt HS.out.low, by rw [HM.out]; exact HE2.out, by rw [HM.out]; exact HN.out, by rw [HM.out]; exact H0.out, HD2.out⟩
      have HB7 : Hid (Below w.heap.size w w7) := HB6.out.grown hg7 HB6.out.size (fun q e => by cases e; have := HS.out.low; omega)
      clear hWk hg7 hB7 hM7 hc7 ho7 hkeep
      go_wp2_with fail
      go_ret
      exact ⟨p, rfl, by rw [HMM.out]; exact HV7.out, HB7.out⟩

end Go.Proofs.Ytclgjolplobdbaa

/-
  What a graph answers: Len, Next, Ahead, Reached, Order.
-/
namespace Go.Proofs.Ytclgjolplobdbaa
open Go.RowKit
set_option linter.unusedVariables false
set_option linter.unusedSimpArgs false
set_option maxRecDepth 10000

theorem graphLen_nil (w : World) : Calls Try.prog 15 #[.pointer none] w fun e w' => e = .returned (.int .i64 0) ∧ w = w' := by
  go_enter Try.func15, Try.ntmps15
  go_wp2
  go_ret
  exact ⟨rfl, rfl⟩
theorem graphLen_any (w : World) (lo p : Nat) (N : List (List Int)) (h : GrV w lo p N) : Calls Try.prog 15 #[.pointer (some ⟨p, 0, none⟩)] w fun e w' => e = .returned (.int .i64 (N.length : Int)) ∧ w = w' := by
  obtain ⟨nv, av, m, cv, ov, h1, h2, _⟩ := h.mem
  obtain ⟨a, c, rfl, _, _, _⟩ := h2.head
  have c0 : w.cell? ⟨p, 0, none⟩ = some (.slice a N.length c) := by rw [h1.cell]; rfl
  clear h h1 h2
  go_enter Try.func15, Try.ntmps15
  go_wp2
  go_ret
  exact ⟨rfl, rfl⟩
/-- Whether a number is a node's. -/
def nodeB (n : Nat) (i : Int) : Bool := decide (0 ≤ i ∧ i < (n : Int))
set_option maxHeartbeats 1000000 in
theorem isNode_any (a : Option Addr) (n c : Nat) (i : Int) (w : World) : Calls Try.prog 36 #[.int .i64 i, .slice a n c] w fun e w' => e = .returned (.bool (nodeB n i)) ∧ w = w' := by
  by_cases h0 : (0 : Int) ≤ i
  · have h0' : decide ((0 : Int) ≤ i) = true := by simpa using h0
    have HR : Hid (nodeB n i = decide (i < (n : Int))) := by show _ = _; simp [nodeB, h0]
    go_enter Try.func36, Try.ntmps36
    go_wp2
    go_ret
    exact ⟨by rw [HR.out]; rfl, rfl⟩
  · have h0' : decide ((0 : Int) ≤ i) = false := by simpa using h0
    have HR : Hid (nodeB n i = false) := by show _ = _; simp [nodeB, h0]
    clear h0
    go_enter Try.func36, Try.ntmps36
    go_wp2
    go_ret
    exact ⟨by rw [HR.out]; rfl, rfl⟩
theorem graphHas_nil (i : Int) (w : World) : Calls Try.prog 28 #[.pointer none, .int .i64 i] w fun e w' => e = .returned (.bool false) ∧ w = w' := by
  go_enter Try.func28, Try.ntmps28
  go_wp2
  go_ret
  exact ⟨rfl, rfl⟩
theorem graphHas_any (i : Int) (w : World) (lo p : Nat) (N : List (List Int)) (h : GrV w lo p N) : Calls Try.prog 28 #[.pointer (some ⟨p, 0, none⟩), .int .i64 i] w fun e w' => e = .returned (.bool (nodeB N.length i)) ∧ w = w' := by
  obtain ⟨nv, av, m, cv, ov, h1, h2, _⟩ := h.mem
  obtain ⟨a, c, rfl, _, _, _⟩ := h2.head
  have c0 : w.cell? ⟨p, 0, none⟩ = some (.slice a N.length c) := by rw [h1.cell]; rfl
  have hI := isNode_any a N.length c i w
  clear h h1 h2
  go_enter Try.func28, Try.ntmps28
  go_wp2_with fail
  refine hI.mono ?_
  rintro e w' ⟨rfl, rfl⟩
  go_wp2
  go_ret
  exact ⟨rfl, rfl⟩

/-- The walk stops ahead of a copy. -/
def StopC (p : Prop) : Prop := p
theorem stopC {P : Program} {ops : Array Oper} {Q : Exit → Act → World → Prop} {a : Act} {w : World} {xs : Array Operand} {ts : Array TypeId} {d : Option Tmp} {ty : TypeId} {ps : String} {af : Array Edge} {g : Option (Nat × Bool)} {rest : List Oper} (h : StopC (wpList P ops Q ({ dst := d, op := .call { callee := .builtin .copy, args := xs, argTypes := ts }, type := ty, pos := ps, after := af, guard := g } :: rest) a w)) : wpList P ops Q ({ dst := d, op := .call { callee := .builtin .copy, args := xs, argTypes := ts }, type := ty, pos := ps, after := af, guard := g } :: rest) a w := h
theorem news_view {w : World} {b off : Nat} {zs : List Int} (hv : View .i64 w (some ⟨b, off, none⟩) zs) : ∀ j v, (zs.map (Value.int .i64))[j]? = some v → w.cell? ((⟨b, off, none⟩ : Addr).add j) = some v := by
  intro j v hj
  rw [List.getElem?_map] at hj
  have hjl : j < zs.length := by
    rcases Nat.lt_or_ge j zs.length with h | h
    · exact h
    · rw [List.getElem?_eq_none h] at hj; simp at hj
  obtain ⟨b2, o2, e2, _, hc⟩ := hv j hjl
  simp at e2
  obtain ⟨rfl, rfl⟩ := e2
  rw [Addr.add_lit, hc, ← hj, List.getElem?_eq_getElem hjl]
  simp [nth, List.getD, hjl]

set_option maxHeartbeats 2000000 in
theorem graphCopied_any (a : Option Addr) (n c : Nat) (zs : List Int) (w : World) (hv : View .i64 w a zs) (hl : zs.length = n) (hn : 8 * n ≤ 140737488351232) :
    Calls Try.prog 29 #[.slice a n c] w fun e w' => ∃ g, e = .returned (.slice (some ⟨g, 0, none⟩) n n) ∧ w'.ownsRow w.heap.size 3 1 (.slice (some ⟨g, 0, none⟩) n n) n (zs.map (Value.int .i64)) ∧ Below w.heap.size w w' := by
  obtain ⟨i0, hi, hz0, hz1, hz2⟩ := info_parts GrInts.info
  have HV := hide hv
  have HL := hide hl
  have HN := hide hn
  have hsz : (Try.prog.info? 3).map (·.size) = some 1 := by kernel_rfl
  clear hv hl hn
  go_enter Try.func29, Try.ntmps29
  go_wp2_with (at_make; refine wpList_make_full _ rfl _ _ 41 rfl w.heap.size 3 i0 (.int .i64 0) 1 Try.underlying41 hi hz0 hz1 _ _ _ _ n rfl rfl (by rfl) (by rfl) (by rw [hz2]; have := HN.out; omega) (by unfold maxLen; have := HN.out; omega) (Nat.le_refl _) ?_)
  intro w1 hown1 hgr1
  have hb1 : Below w.heap.size w w1 := (Below.refl _ w).grown hgr1 (Nat.le_refl _) (by simp)
  have hr1 : w1.ownsRow w.heap.size 3 1 (.slice (some ⟨w.heap.size, 0, none⟩) n n) n ((List.replicate n 0).map (Value.int .i64)) := by
    have := made_row (List.replicate n 0) (by simpa using hown1)
    rw [filled_zero] at this; exact this
  have hV1 := HV.out.below hb1
  have HO := hide hr1
  rcases hr1.2 with ⟨he, _⟩ | ⟨g, cap, cur, he, h2, h3, h4, h5, h6, h7⟩
  · cases he
  · cases he
    have hcur : cur.size = n := by omega
    have hct : (cur.toList.toArray : Array Value) = cur := by simp
    have HB1 := hide hb1
    have HV1 := hide hV1
    have H3 : Hid (w1.heap[w.heap.size]? = some (.cells cur.toList.toArray 3 (0, 0))) := by show _ = _; rw [hct]; exact h3
    have HCS := hide hcur
    clear hown1 hgr1 hb1 hr1 hV1 h2 h3 h4 h5 h6 h7 hct hcur
    go_wp2_with (with_reducible refine stopC ?_)
    unfold StopC
    refine wpList_copy_splice rfl (.tmp 7) (.tmp 8) 41 41 rfl 3 Try.underlying41 hsz (some ⟨w.heap.size, 0, none⟩) a n n n c rfl rfl w.heap.size 0 cur.toList 3 H3.out (zs.map (Value.int .i64)) (by rw [List.length_map, HL.out]; simp) (fun hp => ⟨rfl, by
      have hp' : 0 < zs.length := by simpa using hp
      obtain ⟨b, off, rfl, _, _⟩ := HV1.out 0 hp'
      exact ⟨_, rfl, news_view HV1.out⟩⟩) (by rw [List.length_map, HL.out, Array.length_toList, HCS.out]; omega) (fun v hv => by obtain ⟨y, _, rfl⟩ := List.mem_map.1 hv; rfl) w.heap.size w HB1.out (Nat.le_refl _) ?_
    intro w2 h2 hb2
    have HB2 := hide hb2
    clear hb2
    go_wp2_with fail
    go_ret
    refine ⟨_, rfl, ⟨by simp [HL.out], .inr ⟨w.heap.size, n, _, rfl, Nat.le_refl _, h2.out, Nat.le_refl _, by unfold maxLen; have := HN.out; omega, ?_, ?_⟩⟩, HB2.out⟩
    · simp [splice, HL.out, HCS.out]
    · simp [splice, HL.out, HCS.out]

end Go.Proofs.Ytclgjolplobdbaa

/-
  What a graph answers: Next, Ahead, Reached, Order.
-/
namespace Go.Proofs.Ytclgjolplobdbaa
open Go.RowKit
set_option linter.unusedVariables false
set_option linter.unusedSimpArgs false
set_option maxRecDepth 10000

def nextL (N : List (List Int)) (i : Int) : List Int := if nodeB N.length i then rowN N i.toNat else []
def aheadL (N : List (List Int)) (i : Int) : List Int := if nodeB N.length i then aheadF N i else []
def reachB (N : List (List Int)) (i : Int) : Bool := nodeB N.length i && decide (i ∈ (walkF N).1)
/-- A row of numbers that is answered in new memory. -/
def AnsI (w w' : World) (e : Ending) (l : List Int) : Prop := ∃ v, e = .returned v ∧ w'.ownsRow w.heap.size 3 1 v l.length (l.map (Value.int .i64)) ∧ Below w.heap.size w w'
theorem ansI_nil (w : World) : AnsI w w (.returned (.slice none 0 0)) [] := ⟨_, rfl, World.ownsRow_nil _ _ _ _, Below.refl _ _⟩
theorem nodeB_true {n : Nat} {i : Int} (h : nodeB n i = true) : ∃ k : Nat, k < n ∧ i = (k : Int) := by
  unfold nodeB at h
  have h' := of_decide_eq_true h
  obtain ⟨k, rfl⟩ := Int.eq_ofNat_of_zero_le h'.1
  exact ⟨k, by omega, rfl⟩
theorem GrV.rows {w : World} {lo p : Nat} {N : List (List Int)} (h : GrV w lo p N) (j : Nat) : (rowN N j).length ≤ 4096 := Nat.le_trans (nodup_lenG N.length _ (h.once j) (fun x hx => h.edges j x hx)) h.few

theorem graphNext_nil (i : Int) (w : World) : Calls Try.prog 17 #[.pointer none, .int .i64 i] w fun e w' => e = .returned (.slice none 0 0) ∧ w = w' := by
  have hH := graphHas_nil i w
  go_enter Try.func17, Try.ntmps17
  go_wp2_with fail
  refine hH.mono ?_
  rintro e w' ⟨rfl, rfl⟩
  go_wp2
  go_ret
  exact ⟨rfl, rfl⟩
theorem graphAhead_nil (i : Int) (w : World) : Calls Try.prog 18 #[.pointer none, .int .i64 i] w fun e w' => e = .returned (.slice none 0 0) ∧ w = w' := by
  have hH := graphHas_nil i w
  go_enter Try.func18, Try.ntmps18
  go_wp2_with fail
  refine hH.mono ?_
  rintro e w' ⟨rfl, rfl⟩
  go_wp2
  go_ret
  exact ⟨rfl, rfl⟩
theorem graphOrder_nil (w : World) : Calls Try.prog 20 #[.pointer none] w fun e w' => e = .returned (.slice none 0 0) ∧ w = w' := by
  go_enter Try.func20, Try.ntmps20
  go_wp2
  go_ret
  exact ⟨rfl, rfl⟩
theorem graphReached_nil (i : Int) (w : World) : Calls Try.prog 19 #[.pointer none, .int .i64 i] w fun e w' => e = .returned (.bool false) ∧ w = w' := by
  have hH := graphHas_nil i w
  go_enter Try.func19, Try.ntmps19
  go_wp2_with fail
  refine hH.mono ?_
  rintro e w' ⟨rfl, rfl⟩
  go_wp2
  go_ret
  exact ⟨rfl, rfl⟩

set_option maxHeartbeats 2000000 in
theorem graphNext_any (i : Int) (w : World) (lo p : Nat) (N : List (List Int)) (h : GrV w lo p N) : Calls Try.prog 17 #[.pointer (some ⟨p, 0, none⟩), .int .i64 i] w fun e w' => AnsI w w' e (nextL N i) := by
  have hH := graphHas_any i w lo p N h
  cases hn : nodeB N.length i with
  | false =>
    rw [hn] at hH
    have HE : Hid (nextL N i = []) := by show _ = _; unfold nextL; rw [hn]; rfl
    go_enter Try.func17, Try.ntmps17
    go_wp2_with fail
    refine hH.mono ?_
    rintro e w' ⟨rfl, rfl⟩
    go_wp2_with fail
    go_ret
    rw [HE.out]
    exact ansI_nil w
  | true =>
    rw [hn] at hH
    have hrl := h.rows
    obtain ⟨k, hk, rfl⟩ := nodeB_true hn
    have HE : Hid (nextL N (k : Int) = rowN N k) := by show _ = _; unfold nextL; rw [hn]; simp
    obtain ⟨nv, av, m, cv, ov, h1, h2, _⟩ := h.mem
    obtain ⟨a, c, rfl, _, hLV, _⟩ := h2.head
    have c0 : w.cell? ⟨p, 0, none⟩ = some (.slice a N.length c) := by rw [h1.cell]; rfl
    obtain ⟨b, off, aj, nj, cj, rfl, hb, hc, hcl, hcc, hvj⟩ := hLV k hk
    have hki : (k : Int) < (N.length : Int) := by omega
    have hC := graphCopied_any aj nj cj (rowN N k) w hvj hcl (by have := hrl k; omega)
    have HCL := hide hcl
    clear h h1 h2 hLV hb hcc hvj hn hrl hcl
    go_enter Try.func17, Try.ntmps17
    go_wp2_with fail
    refine hH.mono ?_
    rintro e w' ⟨rfl, rfl⟩
    clear hH
    go_wp2_with fail
    refine hC.mono ?_
    rintro e w' ⟨g, rfl, ho, hb⟩
    have HO := hide (And.intro ho hb)
    clear ho hb hC
    go_wp2_with fail
    go_ret
    rw [HE.out]
    exact ⟨_, rfl, by rw [HCL.out]; exact HO.out.1, HO.out.2⟩

set_option maxHeartbeats 2000000 in
theorem graphAhead_any (i : Int) (w : World) (lo p : Nat) (N : List (List Int)) (h : GrV w lo p N) : Calls Try.prog 18 #[.pointer (some ⟨p, 0, none⟩), .int .i64 i] w fun e w' => AnsI w w' e (aheadL N i) := by
  have hH := graphHas_any i w lo p N h
  cases hn : nodeB N.length i with
  | false =>
    rw [hn] at hH
    have HE : Hid (aheadL N i = []) := by show _ = _; unfold aheadL; rw [hn]; rfl
    go_enter Try.func18, Try.ntmps18
    go_wp2_with fail
    refine hH.mono ?_
    rintro e w' ⟨rfl, rfl⟩
    go_wp2_with fail
    go_ret
    rw [HE.out]
    exact ansI_nil w
  | true =>
    rw [hn] at hH
    have hfew := h.few
    obtain ⟨k, hk, rfl⟩ := nodeB_true hn
    have HE : Hid (aheadL N (k : Int) = rowN (aheadR N) k) := by show _ = _; unfold aheadL; rw [hn, aheadR_row N k hk]; rfl
    obtain ⟨nv, av, m, cv, ov, h1, _, h2, _⟩ := h.mem
    obtain ⟨a, c, rfl, _, hLV, _⟩ := h2.head
    have hal := aheadR_len N
    have c0 : w.cell? ⟨p, 1, none⟩ = some (.slice a N.length c) := by rw [h1.cell, hal]; rfl
    obtain ⟨b, off, aj, nj, cj, rfl, hb, hc, hcl, hcc, hvj⟩ := hLV k (by rw [hal]; exact hk)
    have hki : (k : Int) < (N.length : Int) := by omega
    have hrl : nj ≤ 4096 := by rw [← hcl, aheadR_row N k hk]; exact Nat.le_trans (aheadT_len _ _ _) hfew
    have hC := graphCopied_any aj nj cj (rowN (aheadR N) k) w hvj hcl (by omega)
    have HCL := hide hcl
    clear h h1 h2 hLV hb hcc hvj hn hrl hcl hal
    go_enter Try.func18, Try.ntmps18
    go_wp2_with fail
    refine hH.mono ?_
    rintro e w' ⟨rfl, rfl⟩
    clear hH
    go_wp2_with fail
    refine hC.mono ?_
    rintro e w' ⟨g, rfl, ho, hb⟩
    have HO := hide (And.intro ho hb)
    clear ho hb hC
    go_wp2_with fail
    go_ret
    rw [HE.out]
    exact ⟨_, rfl, by rw [HCL.out]; exact HO.out.1, HO.out.2⟩

set_option maxHeartbeats 2000000 in
theorem graphReached_any (i : Int) (w : World) (lo p : Nat) (N : List (List Int)) (h : GrV w lo p N) : Calls Try.prog 19 #[.pointer (some ⟨p, 0, none⟩), .int .i64 i] w fun e w' => e = .returned (.bool (reachB N i)) ∧ w = w' := by
  have hH := graphHas_any i w lo p N h
  cases hn : nodeB N.length i with
  | false =>
    rw [hn] at hH
    have HE : Hid (reachB N i = false) := by show _ = _; unfold reachB; rw [hn]; rfl
    go_enter Try.func19, Try.ntmps19
    go_wp2_with fail
    refine hH.mono ?_
    rintro e w' ⟨rfl, rfl⟩
    go_wp2
    go_ret
    exact ⟨by rw [HE.out]; rfl, rfl⟩
  | true =>
    rw [hn] at hH
    have hfew := h.few
    obtain ⟨k, hk, rfl⟩ := nodeB_true hn
    obtain ⟨nv, av, m, cv, ov, h1, _, _, hM, _⟩ := h.mem
    have hk4 : k < 4096 := by omega
    have HE : Hid (reachB N (k : Int) = hasM m k) := by show _ = _; unfold reachB; rw [hn, hM k hk4]; rfl
    have hA := marksHas_any p 2 m k w h1.mkAt hk4
    generalize hasM m k = r at *
    clear h h1 hM hn
    go_enter Try.func19, Try.ntmps19
    go_wp2_with fail
    refine hH.mono ?_
    rintro e w' ⟨rfl, rfl⟩
    clear hH
    go_wp2_with fail
    refine hA.mono ?_
    rintro e w' ⟨rfl, rfl⟩
    clear hA
    go_wp2
    go_ret
    exact ⟨by rw [HE.out]; rfl, rfl⟩

set_option maxHeartbeats 2000000 in
theorem graphOrder_any (w : World) (lo p : Nat) (N : List (List Int)) (h : GrV w lo p N) : Calls Try.prog 20 #[.pointer (some ⟨p, 0, none⟩)] w fun e w' => AnsI w w' e (walkF N).2.reverse := by
  have hQ := walkF_all N h.edges h.some_
  have hlen : (walkF N).2.length ≤ 4096 := by rw [hQ.perm.length_eq]; exact Nat.le_trans hQ.good.len h.few
  obtain ⟨nv, av, m, cv, ov, h1, _, _, _, _, ho⟩ := h.mem
  have hol : (walkF N).2.length = (walkF N).2.reverse.length := by simp
  rw [hol] at ho hlen
  generalize (walkF N).2.reverse = zs at *
  obtain ⟨a, c, rfl, hv, _⟩ := View.ofOwned ho
  have c0 : w.cell? ⟨p, 67, none⟩ = some (.slice a zs.length c) := by rw [h1.cell, gC_o]
  have hC := graphCopied_any a zs.length c zs w hv rfl (by omega)
  clear h h1 hv ho hQ hol
  go_enter Try.func20, Try.ntmps20
  go_wp2_with fail
  refine hC.mono ?_
  rintro e w' ⟨g, rfl, ho, hb⟩
  have HO := hide (And.intro ho hb)
  clear ho hb hC
  go_wp2_with fail
  go_ret
  exact ⟨_, rfl, HO.out.1, HO.out.2⟩

end Go.Proofs.Ytclgjolplobdbaa

/-
  Of of graph.
-/
namespace Go.Proofs.Ytclgjolplobdbaa
open Go.RowKit
set_option linter.unusedVariables false
set_option linter.unusedSimpArgs false
set_option maxRecDepth 10000

theorem lead1_any (i : Int) (L n c : Nat) (a : Option Addr) (w : World) (h : w.heap[L]? = some (.cells #[.slice a n c] 40 (0, 0))) : Calls Try.prog 35 #[.int .i64 i, .pointer (some ⟨L, 0, none⟩)] w fun e w' => e = .returned (.bool (!nodeB n i)) ∧ w = w' := by
  have c0 := (oneCell h).1
  have hI := isNode_any a n c i w
  generalize nodeB n i = r at *
  clear h
  go_enter Try.func35, Try.ntmps35
  go_wp2_with fail
  refine hI.mono ?_
  rintro e w' ⟨rfl, rfl⟩
  go_wp2
  go_ret
  exact ⟨rfl, rfl⟩

theorem mem_takeG {zs : List Int} {P : Int → Prop} {k : Nat} (hk : k < zs.length) : (∃ x ∈ zs.take (k + 1), P x) ↔ (∃ x ∈ zs.take k, P x) ∨ P (nth zs k) := by
  rw [take_snoc zs k hk]
  constructor
  · rintro ⟨x, hx, hp⟩
    rcases List.mem_append.1 hx with hx | hx
    · exact .inl ⟨x, hx, hp⟩
    · simp at hx; subst hx; exact .inr hp
  · rintro (⟨x, hx, hp⟩ | hp)
    · exact ⟨x, List.mem_append.2 (.inl hx), hp⟩
    · exact ⟨_, List.mem_append.2 (.inr (by simp)), hp⟩

set_option maxHeartbeats 2000000 in
theorem indexLead_any (a : Option Addr) (m cap : Nat) (zs : List Int) (L n c : Nat) (b : Option Addr) (w : World) (hb : w.heap[L]? = some (.cells #[.slice b n c] 40 (0, 0))) (ha : View .i64 w a zs) (hl : zs.length = m) (hn : 8 * m ≤ 140737488351232) :
    Calls Try.prog 45 #[.slice a m cap, .func (.func 35) #[] #[.pointer (some ⟨L, 0, none⟩)]] w fun e w' => (∃ i : Int, e = .returned (.int .i64 i) ∧ (0 ≤ i ↔ ∃ x ∈ zs, nodeB n x = false)) ∧ w = w' := by
  have HC := hide (fun i => lead1_any i L n c b w hb)
  have HL := hide hl
  have HA := hide ha
  have HT : Hid (zs.take m = zs) := List.take_of_length_le (by rw [HL.out]; exact Nat.le_refl _)
  have hmi : (8 : Int) * m ≤ 140737488351232 := by omega
  clear hl ha hb hn
  go_enter Try.func45, Try.ntmps45
  go_wp2_with fail
  go_loopw [8] (fun i wr => ∃ k : Nat, k ≤ m ∧ i = .int .i64 k ∧ (¬ ∃ x ∈ zs.take k, nodeB n x = false) ∧ wr = w) (fun i _ => m - (intOf i).toNat)
  case atStart => exact ⟨0, Nat.zero_le _, rfl, by simp, rfl⟩
  case round =>
    obtain ⟨k, hk, rfl, hnot, rfl⟩ := hrel
    by_cases hlt : k < m
    · obtain ⟨b1, o1, rfl, _, c1⟩ := HA.out k (by rw [HL.out]; exact hlt)
      have hki : (k : Int) < (m : Int) := by omega
      have HM := hide (mem_takeG (P := fun x => nodeB n x = false) (zs := zs) (k := k) (by rw [HL.out]; exact hlt))
      have hcall := HC.out (nth zs k)
      have HNT := hide hnot
      have HLT := hide hlt
      have HMEM : Hid (nth zs k ∈ zs) := by
        have hk' : k < zs.length := by rw [HL.out]; exact hlt
        have : nth zs k = zs[k] := by simp [nth, List.getD, hk']
        show nth zs k ∈ zs
        rw [this]; exact List.getElem_mem _
      clear hnot hk hlt
      generalize nth zs k = y at *
      cases hy : nodeB n y with
      | false =>
        rw [hy] at hcall
        have HY := hide hy
        clear hy
        go_wp2_with fail
        refine hcall.mono ?_
        rintro e w5 ⟨rfl, rfl⟩
        clear hcall
        go_wp2_with fail
        go_ret
        exact ⟨⟨k, rfl, fun _ => ⟨y, HMEM.out, HY.out⟩, fun _ => by omega⟩, rfl⟩
      | true =>
        rw [hy] at hcall
        have HY := hide hy
        clear hy
        go_wp2_with fail
        refine hcall.mono ?_
        rintro e w5 ⟨rfl, rfl⟩
        clear hcall
        go_wp2_with fail
        refine ⟨⟨k + 1, HLT.out, by simp, ?_, by first | rfl | trivial⟩, measZ2 HLT.out⟩
        rw [HM.out]
        rintro (h | h)
        · exact HNT.out h
        · rw [HY.out] at h; cases h
    · have e : m = k := by omega
      subst e
      rw [HT.out] at hnot
      have HNT := hide hnot
      clear hnot
      go_wp2_with fail
      go_ret
      exact ⟨⟨-1, rfl, fun h => by omega, fun h => absurd h HNT.out⟩, rfl⟩

set_option maxHeartbeats 2000000 in
theorem containsLead_any (a : Option Addr) (m cap : Nat) (zs : List Int) (L n c : Nat) (b : Option Addr) (w : World) (hb : w.heap[L]? = some (.cells #[.slice b n c] 40 (0, 0))) (ha : View .i64 w a zs) (hl : zs.length = m) (hn : 8 * m ≤ 140737488351232) :
    Calls Try.prog 34 #[.slice a m cap, .func (.func 35) #[] #[.pointer (some ⟨L, 0, none⟩)]] w fun e w' => (∃ r : Bool, e = .returned (.bool r) ∧ (r = true ↔ ∃ x ∈ zs, nodeB n x = false)) ∧ w = w' := by
  have hI := indexLead_any a m cap zs L n c b w hb ha hl hn
  clear hb ha hl hn
  go_enter Try.func34, Try.ntmps34
  go_wp2_with fail
  refine hI.mono ?_
  rintro e w1 ⟨⟨i, rfl, hi⟩, rfl⟩
  have HI := hide hi
  clear hI hi
  go_wp2_with fail
  go_ret
  exact ⟨⟨decide (0 ≤ i), rfl, by rw [← HI.out]; simp⟩, rfl⟩

set_option maxHeartbeats 4000000 in
theorem lead_any (a : Option Addr) (n c : Nat) (N : List (List Int)) (w : World) (hv : LV w a N) (hl : N.length = n) (hn : 24 * n ≤ 140737488351232) (hr : ∀ j, 8 * (rowN N j).length ≤ 140737488351232) :
    Calls Try.prog 26 #[.slice a n c] w fun e w' => (∃ r : Bool, e = .returned (.bool r) ∧ (r = true ↔ Edges n N)) ∧ Below w.heap.size w w' := by
  have hba : Below w.heap.size w (w.alloc (.cells #[.slice a n c] 40)) := (Below.refl _ _).alloc (Nat.le_refl _) _
  have hbx : (w.alloc (.cells #[.slice a n c] 40)).heap[w.heap.size]? = some (.cells #[.slice a n c] 40 (0, 0)) := allocNew _ _ rfl
  have hV1 := hv.below hba
  have HBA := hide hba
  have HV := hide hV1
  have HL := hide hl
  have HR := hide hr
  have HC := hide (fun aj nj cj zs (h : View .i64 _ aj zs) hlj hnj => containsLead_any aj nj cj zs w.heap.size n c a _ hbx h hlj hnj)
  have hni : (24 : Int) * n ≤ 140737488351232 := by omega
  clear hv hV1 hba hl hn hr
  go_enter Try.func26, Try.ntmps26
  go_wp2_with fail
  generalize (w.alloc (.cells #[.slice a n c] 40)) = W at *
  go_loopw [7] (fun i wr => ∃ k : Nat, k ≤ n ∧ i = .int .i64 k ∧ (∀ j, j < k → ∀ x ∈ rowN N j, 0 ≤ x ∧ x < (n : Int)) ∧ wr = W) (fun i _ => n - (intOf i).toNat)
  case atStart => exact ⟨0, Nat.zero_le _, rfl, fun j hj => by omega, rfl⟩
  case round =>
    obtain ⟨k, hk, rfl, hall, rfl⟩ := hrel
    by_cases hlt : k < n
    · obtain ⟨b, off, aj, nj, cj, rfl, hb, hc, hcl, hcc, hvj⟩ := HV.out k (by rw [HL.out]; exact hlt)
      have hki : (k : Int) < (n : Int) := by omega
      have hcall := HC.out aj nj cj (rowN N k) hvj hcl (by have := HR.out k; omega)
      have HALL := hide hall
      have HLT := hide hlt
      clear hall hk hlt hb hcl hcc hvj
      go_wp2_with fail
      refine hcall.mono ?_
      rintro e w5 ⟨⟨r, rfl, hr⟩, rfl⟩
      have HRR := hide hr
      clear hcall hr
      cases r with
      | true =>
        go_wp2_with fail
        go_ret
        refine ⟨⟨false, rfl, fun h => Bool.noConfusion h, fun h => ?_⟩, HBA.out⟩
        obtain ⟨x, hx, hf⟩ := HRR.out.1 (by first | rfl | trivial)
        have := h k x hx
        unfold nodeB at hf
        exact absurd this (of_decide_eq_false hf)
      | false =>
        go_wp2_with fail
        refine ⟨⟨k + 1, HLT.out, by simp, fun j hj x hx => ?_, by first | rfl | trivial⟩, measZ2 HLT.out⟩
        by_cases e : j = k
        · subst e
          cases hq : nodeB n x with
          | true => unfold nodeB at hq; exact of_decide_eq_true hq
          | false => have := HRR.out.2 ⟨x, hx, hq⟩; cases this
        · exact HALL.out j (by omega) x hx
    · have e : n = k := by omega
      subst e
      have HALL := hide hall
      clear hall hk
      go_wp2_with fail
      go_ret
      refine ⟨⟨true, rfl, fun _ j x hx => ?_, fun _ => rfl⟩, HBA.out⟩
      by_cases hj : j < n
      · exact HALL.out j hj x hx
      · rw [rowN_out _ _ (by rw [HL.out]; omega)] at hx; simp at hx

/-- What Of answers. -/
def ofErr (N : List (List Int)) (ed : Bool) : Int := if N.length = 0 then 2 else if 4096 < N.length then 4 else if ed then 0 else 141
def OfQ (w w' : World) (e : Ending) (N : List (List Int)) : Prop :=
  (N.length = 0 ∧ e = .returned (.tuple #[.pointer none, .int .i64 2]) ∧ Below w.heap.size w w') ∨
  (4096 < N.length ∧ e = .returned (.tuple #[.pointer none, .int .i64 4]) ∧ Below w.heap.size w w') ∨
  (0 < N.length ∧ N.length ≤ 4096 ∧ ¬ Edges N.length N ∧ e = .returned (.tuple #[.pointer none, .int .i64 141]) ∧ Below w.heap.size w w') ∨
  (0 < N.length ∧ N.length ≤ 4096 ∧ Edges N.length N ∧ ∃ p, e = .returned (.tuple #[.pointer (some ⟨p, 0, none⟩), .int .i64 0]) ∧ GrV w' w.heap.size p (N.map onceF) ∧ Below w.heap.size w w')

theorem GrV.mono {w : World} {lo lo' p : Nat} {N : List (List Int)} (h : GrV w lo p N) (hl : lo' ≤ lo) : GrV w lo' p N := by
  obtain ⟨nv, av, m, cv, ov, h1, h2, h3, h4, h5, h6⟩ := h.mem
  exact ⟨⟨nv, av, m, cv, ov, h1, h2.mono hl, h3.mono hl, h4, own_mono h5 hl, own_mono h6 hl⟩, Nat.le_trans hl h.low, h.edges, h.few, h.some_, h.once⟩

set_option maxHeartbeats 4000000 in
theorem graphOf_any (a : Option Addr) (n c : Nat) (N : List (List Int)) (w : World) (hv : LV w a N) (hl : N.length = n) (hn : 24 * n ≤ 140737488351232) (hr : ∀ j, 8 * (rowN N j).length ≤ 140737488351232) :
    Calls Try.prog 14 #[.slice a n c] w fun e w' => OfQ w w' e N := by
  subst hl
  by_cases h0 : N.length = 0
  · have h0i : ((N.length : Int) == 0) = true := by simp [h0]
    go_enter Try.func14, Try.ntmps14
    go_wp2_with fail
    go_ret2
    exact .inl ⟨h0, rfl, Below.refl _ _⟩
  · have h0i : ((N.length : Int) == 0) = false := by
      have : ¬ (N.length : Int) = 0 := by omega
      simpa using this
    by_cases h4 : 4096 < N.length
    · have h4i : (4096 : Int) < (N.length : Int) := by omega
      have H4 := hide h4
      clear h4 h0
      go_enter Try.func14, Try.ntmps14
      go_wp2_with fail
      go_ret2
      exact .inr (.inl ⟨H4.out, rfl, Below.refl _ _⟩)
    · have h4i : decide ((4096 : Int) < (N.length : Int)) = false := by simp; omega
      have hL := lead_any a N.length c N w hv rfl hn hr
      have hM := fun hE wx (hb : Below w.heap.size w wx) => made_any a N.length c N wx (hv.below hb) rfl (by omega) (by omega) hE hr
      have HM := hide hM
      have H4 : Hid (0 < N.length ∧ N.length ≤ 4096) := ⟨by omega, by omega⟩
      clear hv hr hM h4 h0 hn
      go_enter Try.func14, Try.ntmps14
      go_wp2_with fail
      refine hL.mono ?_
      rintro e w1 ⟨⟨r, rfl, hr⟩, hb1⟩
      have HR := hide hr
      have HB := hide hb1
      clear hL hr hb1
      cases r with
      | false =>
        go_wp2_with fail
        go_ret2
        exact .inr (.inr (.inl ⟨H4.out.1, H4.out.2, fun h => Bool.noConfusion (HR.out.2 h), rfl, HB.out⟩))
      | true =>
        have HED := hide (HR.out.1 rfl)
        have hm := HM.out HED.out w1 HB.out
        go_wp2_with fail
        refine hm.mono ?_
        rintro e w2 ⟨p, rfl, hG, hb2⟩
        have HG := hide (hG.mono HB.out.size)
        have HB2 := hide (HB.out.trans (hb2.mono HB.out.size))
        clear hm hG hb2
        go_wp2_with fail
        go_ret2
        exact .inr (.inr (.inr ⟨H4.out.1, H4.out.2, HED.out, p, rfl, HG.out, HB2.out⟩))

end Go.Proofs.Ytclgjolplobdbaa

/-
  Ints of the kit answers true of two lists that are the same.
-/
namespace Go.Proofs.Ytclgjolplobdbaa
open Go.RowKit
set_option maxRecDepth 10000

set_option maxHeartbeats 400000 in
theorem ints_true (a b : Option Addr) (n ca cb : Nat) (zs : List Int) (w : World) (ha : View .i64 w a zs) (hb : View .i64 w b zs) (hl : zs.length = n) (hn : n ≤ 140737488351232) :
    Calls Try.prog 16 #[.slice a n ca, .slice b n cb] w fun e w' => e = .returned (.bool true) ∧ ∃ q, w' = w.drewN q := by
  have HL : Hid (zs.length = n) := hl
  clear hl
  go_enter Try.func16, Try.ntmps16
  go_wp2
  go_loopw [5] (fun i wr => ∃ k q : Nat, k ≤ n ∧ i = .int .i64 k ∧ wr = w.drewN q) (fun i _ => n - (intOf i).toNat)
  case atStart => exact ⟨0, 0, Nat.zero_le _, rfl, rfl⟩
  case round =>
    obtain ⟨k, q, hk, rfl, rfl⟩ := hrel
    by_cases hlt : k < n
    · obtain ⟨b1, o1, rfl, _, c1⟩ := ha k (by rw [HL.out]; exact hlt)
      obtain ⟨b2, o2, rfl, _, c2⟩ := hb k (by rw [HL.out]; exact hlt)
      have hk0 : (0 : Int) ≤ (k : Int) := by omega
      have hki : (k : Int) < (n : Int) := by omega
      clear ha hb
      go_wp2
      go_quiet (fail)
      go_wp2
      go_roundw
      case rel => exact ⟨k + 1, _, by omega, by go_num, rfl⟩
      case measure => simp [intOf]; omega
    · go_wp2
      go_ret
      exact ⟨rfl, q, rfl⟩

end Go.Proofs.Ytclgjolplobdbaa

/-
  A small graph is told: awake of the laws of layer 14.
-/
namespace Go.Proofs.Ytclgjolplobdbaa
open Go.RowKit
set_option linter.unusedVariables false
set_option linter.unusedSimpArgs false
set_option maxRecDepth 10000

set_option maxHeartbeats 2000000 in
theorem pair_any (a b : Int) (w : World) : Calls Try.prog 13 #[.int .i64 a, .int .i64 b] w fun e w' => ∃ g, e = .returned (.slice (some ⟨g, 0, none⟩) 2 2) ∧ w'.ownsRow w.heap.size 3 1 (.slice (some ⟨g, 0, none⟩) 2 2) 2 ([a, b].map (Value.int .i64)) ∧ Below w.heap.size w w' := by
  obtain ⟨i0, hi, hz0, hz1, hz2⟩ := info_parts GrInts.info
  go_enter Try.func13, Try.ntmps13
  go_wp2_with (at_make; refine wpList_make_full _ rfl _ _ 41 rfl w.heap.size 3 i0 (.int .i64 0) 1 Try.underlying41 hi hz0 hz1 _ _ _ _ 2 rfl rfl (by rfl) (by rfl) (by rw [hz2]; omega) (by unfold maxLen; omega) (Nat.le_refl _) ?_)
  intro w1 hown1 hgr1
  have hb1 : Below w.heap.size w w1 := (Below.refl _ w).grown hgr1 (Nat.le_refl _) (by simp)
  have hr1 : w1.ownsRow w.heap.size 3 1 (.slice (some ⟨w.heap.size, 0, none⟩) 2 2) 2 [.int .i64 0, .int .i64 0] := by
    have := made_row (List.replicate 2 0) (by simpa using hown1)
    rw [filled_zero] at this; exact this
  have c0 : w1.cell? ⟨w.heap.size, 0, none⟩ = some (.int .i64 0) := hr1.cellAt 0 (by omega)
  have f0 : w1.frozen? ⟨w.heap.size, 0, none⟩ = false := hr1.frozenAt _
  have hr2 := own_setAt hr1 0 (.int .i64 a)
  have hr3 := own_setAt hr2 1 (.int .i64 b)
  have c1 : (w1.setCell ⟨w.heap.size, 0, none⟩ (.int .i64 a)).cell? ⟨w.heap.size, 1, none⟩ = some (.int .i64 0) := hr2.cellAt 1 (by omega)
  have f1 : (w1.setCell ⟨w.heap.size, 0, none⟩ (.int .i64 a)).frozen? ⟨w.heap.size, 1, none⟩ = false := hr2.frozenAt _
  have hb2 : Below w.heap.size w (w1.setCell ⟨w.heap.size, 0, none⟩ (.int .i64 a)) := hb1.grown (grown_setCell w1 w.heap.size 0 _) hb1.size (fun k e => by cases e; exact Nat.le_refl _)
  have hb3 : Below w.heap.size w ((w1.setCell ⟨w.heap.size, 0, none⟩ (.int .i64 a)).setCell ⟨w.heap.size, 1, none⟩ (.int .i64 b)) := hb2.grown (grown_setCell _ w.heap.size 1 _) hb2.size (fun k e => by cases e; exact Nat.le_refl _)
  have HF := hide (And.intro hr3 hb3)
  have c1' : w1.cell? ⟨w.heap.size, 1, none⟩ = some (.int .i64 0) := hr1.cellAt 1 (by omega)
  have f1' : w1.frozen? ⟨w.heap.size, 1, none⟩ = false := hr1.frozenAt _
  clear hown1 hgr1 hb1 hr1 hr2 hr3 hb2 hb3 c1 f1
  go_wp2_with fail
  go_ret
  exact ⟨_, rfl, HF.out.1, HF.out.2⟩

/-- The small graph. -/
def smallN : List (List Int) := [[2, 1], [], [0, 2]]
theorem small_once : smallN.map onceF = smallN := by decide
theorem small_edges : Edges 3 smallN := by
  intro j x hx
  match j with
  | 0 => simp [smallN, rowN] at hx; omega
  | 1 => simp [smallN, rowN] at hx
  | 2 => simp [smallN, rowN] at hx; omega
  | j + 3 => simp [smallN, rowN] at hx
theorem small_next : nextL smallN 0 = [2, 1] := by decide
theorem small_ahead : aheadL smallN 2 = [0, 2] := by decide
theorem small_reached : reachB smallN 1 = true := by decide
theorem small_order : (walkF smallN).2.reverse.length = 3 := by decide

set_option maxHeartbeats 8000000 in
theorem awake14_true (w : World) : Calls Try.prog 10 #[] w fun e w' => e = .returned (.bool true) ∧ Below w.heap.size w w' := by
  obtain ⟨j0, hj, hy0, hy1, hy2⟩ := info_parts GrLists.info
  go_enter Try.func10, Try.ntmps10
  go_wp2_with (at_make; refine wpList_make_full _ rfl _ _ 40 rfl w.heap.size 41 j0 (.slice none 0 0) 1 Try.underlying40 hj hy0 hy1 _ _ _ _ 3 rfl rfl (by rfl) (by rfl) (by rw [hy2]; omega) (by unfold maxLen; omega) (Nat.le_refl _) ?_)
  intro w1 hown1 hgr1
  have hb1 : Below w.heap.size w w1 := (Below.refl _ w).grown hgr1 (Nat.le_refl _) (by simp)
  have hO1 : OwnL w1 w.heap.size (.slice (some ⟨w.heap.size, 0, none⟩) 3 3) [[], [], []] := OwnL.made (by simpa using hown1)
  have HP1 := hide (pair_any 2 1 w1)
  clear hown1 hgr1
  go_wp2_with fail
  refine HP1.out.mono ?_
  rintro e w2 ⟨g2, rfl, hr2, hb2⟩
  obtain ⟨hO2, ⟨u2, hu2⟩, hf2, _⟩ := OwnL.put (N := [[], [], []]) hO1 hb2 (j := 0) (by decide) hb1.size hr2
  have hB2 : Below w.heap.size w (w2.setCell ⟨w.heap.size, 0, none⟩ (.slice (some ⟨g2, 0, none⟩) 2 2)) := by
    have h1 := hb1.trans (hb2.mono hb1.size)
    exact h1.grown (grown_setCell _ _ _ _) h1.size (fun k e => by cases e; exact Nat.le_refl _)
  have HP2 := hide (pair_any 0 2 (w2.setCell ⟨w.heap.size, 0, none⟩ (.slice (some ⟨g2, 0, none⟩) 2 2)))
  have HO2 := hide hO2
  have HB2 := hide hB2
  clear HP1 hr2 hb2 hO1 hb1 hO2 hB2
  go_wp2_with fail
  generalize w2.setCell ⟨w.heap.size, 0, none⟩ (.slice (some ⟨g2, 0, none⟩) 2 2) = W2 at *
  refine HP2.out.mono ?_
  rintro e w3 ⟨g3, rfl, hr3, hb3⟩
  obtain ⟨hO3, ⟨u3, hu3⟩, hf3, _⟩ := OwnL.put (N := [[2, 1], [], []]) HO2.out hb3 (j := 2) (by decide) HB2.out.size hr3
  have hB3 : Below w.heap.size w (w3.setCell ⟨w.heap.size, 2, none⟩ (.slice (some ⟨g3, 0, none⟩) 2 2)) := by
    have h1 := HB2.out.trans (hb3.mono HB2.out.size)
    exact h1.grown (grown_setCell _ _ _ _) h1.size (fun k e => by cases e; exact Nat.le_refl _)
  have hO3' : OwnL (w3.setCell ⟨w.heap.size, 2, none⟩ (.slice (some ⟨g3, 0, none⟩) 2 2)) w.heap.size (.slice (some ⟨w.heap.size, 0, none⟩) 3 3) smallN := hO3
  obtain ⟨a3, c3, e3, _, hLV, _⟩ := hO3'.head
  cases e3
  have hOf := graphOf_any _ 3 3 smallN _ hLV rfl (by omega) (fun j => by
    match j with
    | 0 => decide
    | 1 => decide
    | 2 => decide
    | j + 3 => simp [smallN, rowN])
  have HOf := hide hOf
  have HB3 := hide hB3
  clear HP2 hr3 hb3 hO3 hO3' hLV hB3 hOf HO2 HB2 hu2 hf2
  go_wp2_with fail
  generalize w3.setCell ⟨w.heap.size, 2, none⟩ (.slice (some ⟨g3, 0, none⟩) 2 2) = W3 at *
  refine HOf.out.mono ?_
  rintro e w4 (⟨h, _⟩ | ⟨h, _⟩ | ⟨_, _, h, _⟩ | ⟨_, _, _, p, rfl, hG, hb4⟩)
  · exact absurd h (by decide)
  · exact absurd h (by decide)
  · exact absurd small_edges h
  rw [small_once] at hG
  have HB4 := hide (HB3.out.trans (hb4.mono HB3.out.size))
  have HG4 := hide hG
  have hLen := graphLen_any w4 _ p smallN hG
  have hNx := graphNext_any 0 w4 _ p smallN hG
  rw [small_next] at hNx
  have HNx := hide hNx
  clear HOf hG hb4 HB3 hNx hu3 hf3
  go_wp2_with fail
  refine hLen.mono ?_
  rintro e w5 ⟨rfl, rfl⟩
  have hsl : (smallN.length : Int) = 3 := by decide
  rw [hsl]
  clear hLen hsl
  go_wp2_with fail
  refine HNx.out.mono ?_
  rintro e w5 ⟨v5, rfl, hr5, hb5⟩
  obtain ⟨a5, c5, rfl, hv5, _⟩ := View.ofOwned hr5
  have HB5 := hide (HB4.out.trans (hb5.mono HB4.out.size))
  have HG5 := hide (HG4.out.below hb5)
  have HV5 := hide hv5
  have HP := hide (pair_any 2 1 w5)
  clear HNx hr5 hb5 hv5 HB4 HG4
  go_wp2_with fail
  refine HP.out.mono ?_
  rintro e w6 ⟨g6, rfl, hr6, hb6⟩
  have hK := ints_true a5 _ 2 c5 2 [2, 1] w6 (HV5.out.below hb6) (View.ofOwn hr6 rfl) rfl (by omega)
  have HK := hide hK
  have HB6 := hide (HB5.out.trans (hb6.mono HB5.out.size))
  have HG6 := hide (HG5.out.below hb6)
  clear HP hr6 hb6 HV5 HB5 HG5 hK
  go_wp2_with fail
  refine HK.out.mono ?_
  rintro e w7 ⟨rfl, q7, rfl⟩
  have hd7 : Below w6.heap.size w6 (w6.drewN q7) := bel_drewN (Below.refl _ _) q7
  have HB7 := hide (HB6.out.trans (hd7.mono HB6.out.size))
  have hG7 := HG6.out.below hd7
  generalize w6.drewN q7 = w7 at *
  have hAh := graphAhead_any 2 w7 _ p smallN hG7
  rw [small_ahead] at hAh
  have HAh := hide hAh
  have HG7 := hide hG7
  clear HK HB6 HG6 hd7 hG7 hAh
  go_wp2_with fail
  refine HAh.out.mono ?_
  rintro e w8 ⟨v8, rfl, hr8, hb8⟩
  obtain ⟨a8, c8, rfl, hv8, _⟩ := View.ofOwned hr8
  have HB8 := hide (HB7.out.trans (hb8.mono HB7.out.size))
  have HG8 := hide (HG7.out.below hb8)
  have HV8 := hide hv8
  have HP := hide (pair_any 0 2 w8)
  clear HAh hr8 hb8 hv8 HB7 HG7
  go_wp2_with fail
  refine HP.out.mono ?_
  rintro e w9 ⟨g9, rfl, hr9, hb9⟩
  have hK := ints_true a8 _ 2 c8 2 [0, 2] w9 (HV8.out.below hb9) (View.ofOwn hr9 rfl) rfl (by omega)
  have HK := hide hK
  have HB9 := hide (HB8.out.trans (hb9.mono HB8.out.size))
  have HG9 := hide (HG8.out.below hb9)
  clear HP hr9 hb9 HV8 HB8 HG8 hK
  go_wp2_with fail
  refine HK.out.mono ?_
  rintro e w10 ⟨rfl, q10, rfl⟩
  have hd10 : Below w9.heap.size w9 (w9.drewN q10) := bel_drewN (Below.refl _ _) q10
  have HB10 := hide (HB9.out.trans (hd10.mono HB9.out.size))
  have hG10 := HG9.out.below hd10
  generalize w9.drewN q10 = w10 at *
  have hRe := graphReached_any 1 w10 _ p smallN hG10
  rw [small_reached] at hRe
  have hOr := graphOrder_any w10 _ p smallN hG10
  have HOr := hide hOr
  have HRe := hide hRe
  clear HK HB9 HG9 hd10 hG10 hRe hOr
  go_wp2_with fail
  refine HRe.out.mono ?_
  rintro e w11 ⟨rfl, rfl⟩
  clear HRe
  go_wp2_with fail
  refine HOr.out.mono ?_
  rintro e w12 ⟨v12, rfl, hr12, hb12⟩
  obtain ⟨a12, c12, rfl, _, _⟩ := View.ofOwned hr12
  have hol : ((walkF smallN).2.reverse.length : Int) = 3 := by rw [small_order]; rfl
  have HB12 := hide (HB10.out.trans (hb12.mono HB10.out.size))
  generalize (walkF smallN).2.reverse.length = ol at *
  have hol' : ((ol : Int) == 3) = true := by rw [hol]; rfl
  clear HOr hr12 hb12 HB10 hol
  go_wp2_with fail
  go_ret
  exact ⟨by simp [hol'], HB12.out⟩

end Go.Proofs.Ytclgjolplobdbaa
