/-
  The document's graph: Of.
-/
import Derived.WalkSpells
import Derived.WalkMore
import Derived.OwnWalk
import Derived.Test.YtpdjmapmpicgjaaProg
import Derived.Test.YtpdjmapmpicgjaaGrRows
import Derived.Test.YtpdjmapmpicgjaaGraphOnce
import Derived.Test.YtpdjmapmpicgjaaGraphOf
import Derived.Test.YtpdjmapmpicgjaaBoxes
import Derived.Test.YtpdjmapmpicgjaaLaw14Among
namespace Go.Proofs.Ytpdjmapmpicgjaa
open Go.RowKit
set_option linter.unusedVariables false
set_option linter.unusedSimpArgs false
set_option maxRecDepth 10000

theorem OwnL.pushA {W w : World} {lo : Nat} {hv : Value} {N : List (List Int)} (hN : OwnL W lo hv N) (hb : Below W.heap.size W w) {v : Value} {l : List Int} (hlo : lo ≤ W.heap.size) (hvr : w.ownsRow W.heap.size 3 1 v l.length (l.map (Value.int .i64))) :
    ∃ cs, w.ownsRow lo 32 1 hv N.length cs ∧ ∀ (w' : World) (hv' : Value), (w.grownBy w' hv.ownBlock → (hv'.ownBlock = hv.ownBlock ∨ ∀ g, hv'.ownBlock = some g → w.heap.size ≤ g) → w'.ownsRow lo 32 1 hv' (N.length + 1) (cs ++ [v]) → OwnL w' lo hv' (N ++ [l])) := by
  obtain ⟨V, hV⟩ := hN
  have hV1 : RowsX w lo (inL N) (rowL hv V N) := hV.kept (ob := none) ⟨hb.os, hb.tape, hb.output, hb.size, fun k hk _ => hb.block k hk⟩ (fun g e => by cases e)
  refine ⟨cellsL V N.length, hV1.own none trivial, fun w' hv' hg hvb hh => ⟨fun k => if k = N.length then v else V k, fun q hq => ?_, fun q q' hq hq' hne g e1 e2 => ?_⟩⟩
  · cases q with
    | none =>
      unfold RowX.own rowL
      simp only [List.length_append, List.length_singleton]
      rw [← cellsL_succ]; exact hh
    | some j =>
      have hj : j < (N ++ [l]).length := hq
      simp at hj
      by_cases e : j = N.length
      · subst e
        simp only [RowX.own, rowL, if_pos rfl, rowN_last]
        have := own_grown hvr hg (fun g e1 e2 => by
          have h1 := (World.ownsRow.lt hvr g e2).1
          have h2 := (World.ownsRow.lt (hV.own none trivial) g e1).2
          omega)
        exact own_mono this hlo
      · have hjl : j < N.length := by omega
        simp only [RowX.own, rowL, if_neg e, rowN_app N l j hjl]
        exact own_grown (hV1.own (some j) hjl) hg (fun g e1 => hV1.apart none (some j) trivial hjl (by simp) g e1)
  · have fresh : ∀ g, v.ownBlock = some g → W.heap.size ≤ g ∧ g < w.heap.size := fun g e => World.ownsRow.lt hvr g e
    have old : ∀ q, inL N q → ∀ g, (rowL hv V N q).v.ownBlock = some g → g < W.heap.size := fun q hq g e => (World.ownsRow.lt (hV.own q hq) g e).2
    have headNew : ∀ g, hv'.ownBlock = some g → (hv.ownBlock = some g ∨ w.heap.size ≤ g) := fun g e => by
      rcases hvb with h | h
      · exact .inl (by rw [← h]; exact e)
      · exact .inr (h g e)
    have rowV : ∀ j, j < (N ++ [l]).length → ∀ g, (rowL hv' (fun k => if k = N.length then v else V k) (N ++ [l]) (some j)).v.ownBlock = some g → (j = N.length ∧ v.ownBlock = some g) ∨ (j < N.length ∧ (V j).ownBlock = some g) := fun j hj g e => by
      simp at hj
      by_cases ej : j = N.length
      · simp [rowL, ej] at e; exact .inl ⟨ej, e⟩
      · simp [rowL, ej] at e; exact .inr ⟨by omega, e⟩
    have hsz := hb.size
    have headRow : ∀ j, j < (N ++ [l]).length → hv'.ownBlock = some g → (rowL hv' (fun k => if k = N.length then v else V k) (N ++ [l]) (some j)).v.ownBlock = some g → False := fun j hj k1 k2 => by
      rcases rowV j hj g k2 with ⟨_, k3⟩ | ⟨hjl, k3⟩
      · have := fresh g k3
        rcases headNew g k1 with k4 | k4
        · have := old none trivial g k4; omega
        · omega
      · rcases headNew g k1 with k4 | k4
        · exact hV.apart none (some j) trivial hjl (by simp) g k4 k3
        · have := old (some j) hjl g k3; omega
    cases q with
    | none =>
      cases q' with
      | none => exact hne rfl
      | some j => exact headRow j hq' e1 e2
    | some i =>
      cases q' with
      | none => exact headRow i hq e2 e1
      | some j =>
        rcases rowV i hq g e1 with ⟨ei, k1⟩ | ⟨hi, k1⟩ <;> rcases rowV j hq' g e2 with ⟨ej, k2⟩ | ⟨hj, k2⟩
        · exact hne (by rw [ei, ej])
        · have := fresh g k1; have := old (some j) hj g k2; omega
        · have := fresh g k2; have := old (some i) hi g k1; omega
        · exact hV.apart (some i) (some j) hi hj hne g k1 k2

/-- The document's graph in memory. -/
structure RfB (w : World) (B lo : Nat) (N : List (List Int)) : Prop where
  mem : ∃ nv, w.heap[B]? = some (.cells #[nv] 59 (0, 0)) ∧ OwnL w lo nv N
theorem RfB.below {w w' : World} {B lo : Nat} {N : List (List Int)} (h : RfB w B lo N) (hb : Below w.heap.size w w') : RfB w' B lo N := by
  obtain ⟨nv, h1, h2⟩ := h.mem
  exact ⟨nv, (hb.block _ (Array.getElem?_eq_some_iff.1 h1).1).trans h1, h2.below hb⟩

set_option maxHeartbeats 2000000 in
theorem refIn14_any (a : Option Addr) (n c : Nat) (l : List Int) (x : Int) (w : World) (hv : View .i64 w a l) (hl : l.length = n) (hn : 8 * n ≤ 140737488351232) : Calls Try.prog 29 #[.slice a n c, .int .i64 x] w fun e w' => e = .returned (.bool (decide (x ∈ l))) ∧ w = w' := by
  have HL := hide hl
  have HV := hide hv
  have hni : (8 : Int) * n ≤ 140737488351232 := by omega
  have HT : Hid (l.take n = l) := List.take_of_length_le (by rw [HL.out]; exact Nat.le_refl _)
  have HM : Hid (∀ k, k < n → (x ∈ l.take (k + 1) ↔ x ∈ l.take k ∨ nth l k = x)) := fun k hk => by
    rw [take_snoc l k (by rw [HL.out]; exact hk)]; simp [eq_comm]
  have HMM : Hid (∀ k, x ∈ l.take k → x ∈ l) := fun k h => List.mem_of_mem_take h
  generalize hr : decide (x ∈ l) = r
  have HR : Hid (r = true ↔ x ∈ l) := by show _ ↔ _; rw [← hr]; simp
  clear hl hv hn hr
  go_enter Try.func29, Try.ntmps29
  go_wp2_with fail
  go_loopw [5] (fun i wr => ∃ k : Nat, k ≤ n ∧ i = .int .i64 k ∧ ¬ x ∈ l.take k ∧ wr = w) (fun i _ => n - (intOf i).toNat)
  case atStart => exact ⟨0, Nat.zero_le _, rfl, by simp, rfl⟩
  case round =>
    obtain ⟨k, hk, rfl, hnot, rfl⟩ := hrel
    by_cases hlt : k < n
    · obtain ⟨b1, o1, rfl, _, c1⟩ := HV.out k (by rw [HL.out]; exact hlt)
      have hki : (k : Int) < (n : Int) := by omega
      have hmk := HM.out k hlt
      have HLT := hide hlt
      have HNT := hide hnot
      clear hk hlt hnot
      generalize nth l k = y at *
      rcases Decidable.em (y = x) with hy | hy
      · have HPK := hide (HR.out.2 (HMM.out (k + 1) (hmk.2 (.inr hy))))
        have hyy : (y == x) = true := by simp [hy]
        clear hmk hy
        go_wp2_with fail
        go_ret
        exact ⟨by rw [HPK.out]; rfl, rfl⟩
      · have HX : Hid (¬ x ∈ l.take (k + 1)) := fun h => by rcases hmk.1 h with h | h; exact HNT.out h; exact hy h
        have hyy : (y == x) = false := by simpa using hy
        clear hmk hy
        go_wp2_with fail
        exact ⟨⟨k + 1, HLT.out, by simp, HX.out, by first | rfl | trivial⟩, measZ2 HLT.out⟩
    · have e : n = k := by omega
      subst e
      rw [HT.out] at hnot
      have HPN : Hid (r = false) := by
        show r = false
        cases r
        · rfl
        · exact absurd (HR.out.1 rfl) hnot
      clear hnot hk
      go_wp2_with fail
      go_ret
      exact ⟨by rw [HPN.out]; rfl, rfl⟩

/-- What the document's Of answers. -/
def RfQ (w w' : World) (e : Ending) (N : List (List Int)) : Prop :=
  (N.length = 0 ∧ e = .returned (.tuple #[.pointer none, .int .i64 2]) ∧ Below w.heap.size w w') ∨
  (4096 < N.length ∧ e = .returned (.tuple #[.pointer none, .int .i64 4]) ∧ Below w.heap.size w w') ∨
  (0 < N.length ∧ N.length ≤ 4096 ∧ ¬ Edges N.length N ∧ e = .returned (.tuple #[.pointer none, .int .i64 141]) ∧ Below w.heap.size w w') ∨
  (0 < N.length ∧ N.length ≤ 4096 ∧ Edges N.length N ∧ ∃ p, e = .returned (.tuple #[.pointer (some ⟨p, 0, none⟩), .int .i64 0]) ∧ RfB w' p w.heap.size (N.map onceF) ∧ w.heap.size ≤ p ∧ Below w.heap.size w w')

/-- The document's graph while it is made. -/
structure RfS (w wr : World) (k : Nat) (N : List (List Int)) : Prop where
  mem : RfB wr w.heap.size (w.heap.size + 1) ((N.take k).map onceF)
  bel : Below w.heap.size w wr
  ok : ∀ j, j < k → ∀ x ∈ rowN N j, 0 ≤ x ∧ x < (N.length : Int)

theorem RfS.push {w wr w1 : World} {k : Nat} {N : List (List Int)} (h : RfS w wr k N) (hk : k < N.length) (hb : Below wr.heap.size wr w1) {v : Value} (hv : w1.ownsRow wr.heap.size 3 1 v (onceF (rowN N k)).length ((onceF (rowN N k)).map (Value.int .i64))) (hok : ∀ x ∈ rowN N k, 0 ≤ x ∧ x < (N.length : Int)) :
    ∃ ah ch cs, w1.heap[w.heap.size]? = some (.cells #[.slice ah k ch] 59 (0, 0)) ∧ w1.ownsRow (w.heap.size + 1) 32 1 (.slice ah k ch) k cs ∧ w.heap.size + 1 ≤ w1.heap.size ∧
    ∀ (w2 : World) (hv' : Value), w1.grownBy w2 (Value.slice ah k ch).ownBlock → (hv'.ownBlock = (Value.slice ah k ch).ownBlock ∨ ∀ g, hv'.ownBlock = some g → w1.heap.size ≤ g) → w2.ownsRow (w.heap.size + 1) 32 1 hv' (k + 1) (cs ++ [v]) → w2.heap[w.heap.size]? = some (.cells #[.slice ah k ch] 59 (0, 0)) ∧ RfS w (w2.setCell ⟨w.heap.size, 0, none⟩ hv') (k + 1) N := by
  obtain ⟨nv, h1, h2⟩ := h.mem.mem
  have hlen : ((N.take k).map onceF).length = k := by rw [List.length_map, List.length_take]; omega
  have hB := (Array.getElem?_eq_some_iff.1 h1).1
  obtain ⟨ah, ch, rfl, _⟩ := h2.head
  rw [hlen] at h1 h2
  obtain ⟨cs, o1, hp⟩ := h2.pushA hb (by omega) hv
  rw [hlen] at o1 hp
  have k1 := (hb.block _ hB).trans h1
  refine ⟨ah, ch, cs, k1, o1, by have := hb.size; omega, fun w2 hv' hg hob ho => ?_⟩
  have hlt : ∀ j, (Value.slice ah k ch).ownBlock = some j → w.heap.size + 1 ≤ j := fun j e => (World.ownsRow.lt o1 j e).1
  have k2 := (hg.block w.heap.size (Array.getElem?_eq_some_iff.1 k1).1 (fun e => by have := hlt _ e.symm; omega)).trans k1
  have hO := hp w2 hv' hg hob ho
  have hrow : (N.take k).map onceF ++ [onceF (rowN N k)] = (N.take (k + 1)).map onceF := by
    rw [List.take_add_one, List.map_append]
    congr 1
    simp [rowN, List.getD, hk]
  rw [hrow] at hO
  have hb1 := h.bel.trans (hb.mono h.bel.size)
  have hb2 := hb1.grown hg hb1.size (fun j e => by have := hlt j e; omega)
  refine ⟨k2, ⟨⟨hv', oneSet k2 hv', hO.kept (grown_setCell w2 w.heap.size 0 hv') (fun g e => by cases e; omega)⟩, hb2.setCell (by simp) _, fun j hj x hx => ?_⟩⟩
  by_cases e : j = k
  · subst e; exact hok x hx
  · exact h.ok j (by omega) x hx

set_option maxHeartbeats 8000000 in
theorem refOf14_any (a : Option Addr) (n c : Nat) (N : List (List Int)) (w : World) (hv : LV w a N) (hl : N.length = n) (hn : 24 * n ≤ 140737488351232) (hr : ∀ j, 8 * (rowN N j).length ≤ 140737488351232) :
    Calls Try.prog 8 #[.slice a n c] w fun e w' => RfQ w w' e N := by
  subst hl
  by_cases h0 : N.length = 0
  · have h0i : ((N.length : Int) == 0) = true := by simp [h0]
    go_enter Try.func8, Try.ntmps8
    go_wp2_with fail
    go_ret2
    exact .inl ⟨h0, rfl, Below.refl _ _⟩
  · have h0i : ((N.length : Int) == 0) = false := by
      have : ¬ (N.length : Int) = 0 := by omega
      simpa using this
    by_cases h4 : 4096 < N.length
    · have h4i : (4096 : Int) < (N.length : Int) := by omega
      have H4 := hide h4
      clear h4 h0
      go_enter Try.func8, Try.ntmps8
      go_wp2_with fail
      go_ret2
      exact .inr (.inl ⟨H4.out, rfl, Below.refl _ _⟩)
    · have h4i : ¬ (4096 : Int) < (N.length : Int) := by omega
      have hf4 : decide ((4096 : Int) < (N.length : Int)) = false := decide_eq_false h4i
      have HH := hide (And.intro h0 h4)
      have HV := hide hv
      have HR := hide hr
      have hni : (N.length : Int) ≤ 4096 := by omega
      obtain ⟨j0, hj, hy0, hy1, hy2⟩ := info_parts GrLists.info
      have HJ := hide (And.intro hj (And.intro hy0 (And.intro hy1 hy2)))
      generalize hnn : N.length = n at *
      have HN := hide hnn
      clear hv hr hn hnn h0 h4 h4i hj hy0 hy1 hy2
      go_enter Try.func8, Try.ntmps8
      go_wp2_with fail
      have HS0 : Hid (RfS w (w.alloc (.cells #[.slice none 0 0] 59)) 0 N) := ⟨⟨_, allocNew w _ rfl, by rw [List.take_zero]; exact OwnL.nil _ _⟩, (Below.refl _ _).alloc (Nat.le_refl _) _, fun j hj => by omega⟩
      go_loopw [5] (fun i wr => ∃ k : Nat, k ≤ n ∧ i = .int .i64 k ∧ RfS w wr k N) (fun i _ => n - (intOf i).toNat)
      case atStart => exact ⟨0, Nat.zero_le _, rfl, HS0.out⟩
      case round =>
        obtain ⟨k, hk, rfl, hS⟩ := hrel
        clear HS0
        by_cases hlt : k < n
        · obtain ⟨b, off, aj, nj, cj, rfl, hb, hc, hcl, hcc, hvj⟩ := (HV.out.below hS.bel) k (by rw [HN.out]; exact hlt)
          have hki : (k : Int) < (n : Int) := by omega
          have hrj := HR.out k
          rw [hcl] at hrj
          have hnji : (8 : Int) * nj ≤ 140737488351232 := by omega
          have HLT := hide hlt
          have HS := hide hS
          have HCL := hide hcl
          have HVJ := hide hvj
          have HC := hide (fun wx (h : Below wr.heap.size wr wx) => (h.cell (p := ⟨b, off + k, none⟩) hb).trans hc)
          clear hS hk hlt hb hcl hcc hvj hrj
          rename World => wo
          go_wp2_with fail
          go_loopw [6, 7] (fun v i wq => ∃ q : Nat, q ≤ nj ∧ i = .int .i64 q ∧ Below wo.heap.size wo wq ∧ wq.ownsRow wo.heap.size 3 1 v (onceF ((rowN N k).take q)).length ((onceF ((rowN N k).take q)).map (Value.int .i64)) ∧ ∀ x ∈ (rowN N k).take q, 0 ≤ x ∧ x < (n : Int)) (fun _ i _ => nj - (intOf i).toNat)
          case atStart => exact ⟨0, Nat.zero_le _, rfl, Below.refl _ _, World.ownsRow_nil _ _ _ _, fun x hx => by simp at hx⟩
          case round =>
            obtain ⟨q, hq, rfl, hbq, hown, hok⟩ := hrel
            rename World => wq
            obtain ⟨a4, c4, rfl⟩ := own_shapeG hown
            have c1 := HC.out wq hbq
            by_cases hlt : q < nj
            · have hqR : q < (rowN N k).length := by rw [HCL.out]; exact hlt
              obtain ⟨b3, o3, rfl, _, hcq⟩ := (HVJ.out.below hbq) q hqR
              have hqi : (q : Int) < (nj : Int) := by omega
              have HMEM := hide (nth_memG (rowN N k) q hqR)
              have HSN := hide (once_snoc (rowN N k) q hqR)
              have HOKN : Hid (0 ≤ nth (rowN N k) q ∧ nth (rowN N k) q < (n : Int) → ∀ x ∈ (rowN N k).take (q + 1), 0 ≤ x ∧ x < (n : Int)) := fun h x hx => by
                rw [take_snoc _ _ hqR] at hx
                rcases List.mem_append.1 hx with hx | hx
                · exact hok x hx
                · simp at hx; subst hx; exact h
              have hzl := once_len ((rowN N k).take q)
              rw [List.length_take] at hzl
              have HZL : Hid ((onceF ((rowN N k).take q)).length ≤ q) := by show _ ≤ _; omega
              have HOWN := hide hown
              have HBQ := hide hbq
              have HLQ := hide hlt
              obtain ⟨za, zc, hze, hvz, _⟩ := View.ofOwned hown
              cases hze
              have hIN := refIn14_any a4 _ c4 _ (nth (rowN N k) q) wq hvz rfl (by omega)
              generalize onceF ((rowN N k).take q) = z1 at *
              generalize nth (rowN N k) q = y at *
              clear hqR hown hbq hok hzl hvz hlt hq
              by_cases hy : 0 ≤ y ∧ y < (n : Int)
              · have d1 : decide (y < 0) = false := decide_eq_false (by omega)
                have d2 : decide ((n : Int) ≤ y) = false := decide_eq_false (by omega)
                have HY := hide hy
                have HIN2 : Hid (∀ b : Bool, decide (y ∈ z1) = b → onceF ((rowN N k).take (q + 1)) = if b then z1 else z1 ++ [y]) := fun b hb => by
                  rw [HSN.out]; unfold addN
                  cases b with
                  | true => rw [if_pos (of_decide_eq_true hb)]; rfl
                  | false => rw [if_neg (of_decide_eq_false hb)]; rfl
                generalize hbb : decide (y ∈ z1) = bb at *
                have HE := hide (HIN2.out bb rfl)
                clear hy hbb HIN2 HSN
                go_wp2_with fail
                refine hIN.mono ?_
                rintro e w5 ⟨rfl, rfl⟩
                clear hIN
                cases bb with
                | true =>
                  go_wp2_with fail
                  exact ⟨⟨q + 1, HLQ.out, by simp, HBQ.out, by rw [HE.out]; exact HOWN.out, HOKN.out HY.out⟩, measZ2 HLQ.out⟩
                | false =>
                  have HOA := hide (own_below HOWN.out ((Below.refl wq.heap.size wq).alloc (Nat.le_refl _) (.cells #[.int .i64 y] 3)))
                  go_wp2_with (at_builtin; refine wpList_app1 rfl (.tmp 51) (.tmp 53) rfl wo.heap.size _ z1 y rfl wq.heap.size rfl (allocNew _ _ rfl) HOA.out (by have := HZL.out; have := HLQ.out; omega) (by rw [World.size_alloc]; have := HBQ.out.size; omega) ?_)
                  intro g cap w6 ho6 hg6 _
                  have hb6 : Below wo.heap.size wo w6 := (HBQ.out.alloc HBQ.out.size _).grown hg6 (by rw [World.size_alloc]; have := HBQ.out.size; omega) (fun j e => (World.ownsRow.lt HOA.out j e).1)
                  have HB6 := hide hb6
                  have HO6 := hide ho6
                  clear hb6 ho6 hg6 HOA
                  go_wp2_with fail
                  exact ⟨⟨q + 1, HLQ.out, by simp, HB6.out, by rw [HE.out]; simpa using HO6.out, HOKN.out HY.out⟩, measZ2 HLQ.out⟩
              · have HNE : Hid (¬ Edges N.length N) := fun hE => by
                  have := hE k y HMEM.out
                  rw [HN.out] at this
                  exact hy this
                have HB9 := hide (HS.out.bel.trans (HBQ.out.mono HS.out.bel.size))
                have hcase : decide (y < 0) = true ∨ (decide (y < 0) = false ∧ decide ((n : Int) ≤ y) = true) := by
                  by_cases h : y < 0
                  · exact .inl (decide_eq_true h)
                  · exact .inr ⟨decide_eq_false h, decide_eq_true (by omega)⟩
                clear hy hIN HSN HOKN
                rcases hcase with hc1 | ⟨hc1, hc2⟩
                all_goals
                  go_wp2_with fail
                  go_ret2
                  exact .inr (.inr (.inl ⟨by have := HH.out.1; have := HN.out; omega, by have := HH.out.2; have := HN.out; omega, HNE.out, rfl, HB9.out⟩))
            · have e : nj = q := by omega
              subst e
              have hrow : (rowN N k).take nj = rowN N k := List.take_of_length_le (by rw [HCL.out]; exact Nat.le_refl _)
              rw [hrow] at hown hok ⊢
              have hba : Below wo.heap.size wo (wq.alloc (.cells #[.slice a4 (onceF (rowN N k)).length c4] 32)) := hbq.alloc hbq.size _
              obtain ⟨ah, ch, cs, k1, o1, s1, hp⟩ := HS.out.push (by rw [HN.out]; exact HLT.out) hba (own_below hown ((Below.refl wq.heap.size wq).alloc (Nat.le_refl _) _)) (by rw [HN.out]; exact hok)
              have HP := hide hp
              have HO1 := hide o1
              have HS1 := hide s1
              obtain ⟨e1, f1⟩ := oneCell k1
              have hBq : w.heap.size < wq.heap.size := by
                have := (Array.getElem?_eq_some_iff.1 k1).1
                rw [World.size_alloc] at this
                have h9 := HS.out.bel.size
                obtain ⟨nv9, h91, _⟩ := HS.out.mem.mem
                have := (Array.getElem?_eq_some_iff.1 h91).1
                have := hbq.size
                omega
              have e0 : wq.cell? ⟨w.heap.size, 0, none⟩ = some (.slice ah k ch) := by
                obtain ⟨nv9, h91, _⟩ := HS.out.mem.mem
                have h92 := (hbq.block _ (Array.getElem?_eq_some_iff.1 h91).1).trans h91
                have h93 := allocOld h92 (.cells #[.slice a4 (onceF (rowN N k)).length c4] 32)
                rw [h93] at k1
                cases k1
                exact (oneCell h92).1
              have HK4 : Hid (k < 4096) := by show _ < _; have := HLT.out; omega
              clear hbq hown hok hrow hba hp o1 s1 k1 hq
              generalize hZZ : (onceF (rowN N k)).length = zz at *
              clear hZZ
              go_wp2_with (at_builtin; refine wpList_append_lies _ rfl (.tmp 59) (.tmp 61) 22 rfl (w.heap.size + 1) 32 j0 (.slice none 0 0) 1 24 Try.underlying22 HJ.out.1 HJ.out.2.1 HJ.out.2.2.1 HJ.out.2.2.2 rfl (by decide) (.slice ah k ch) k cs rfl HO1.out ⟨wq.heap.size, 0, none⟩ 1 1 [.slice a4 zz c4] rfl rfl (World.news_of_block (cs := #[.slice a4 zz c4]) (t := 32) (fr := (0, 0)) (allocNew _ _ rfl)) (by simp [Value.oneCell']) (by decide) (by unfold maxLen; have := HK4.out; omega) (by have := HK4.out; omega) HS1.out (wq.heap.size + 1) (by simp) ?_)
              intro g cap w6 ho6 hg6 hgb _
              obtain ⟨k6, hS6⟩ := HP.out w6 _ hg6 (by rcases hgb with h | h; exact .inl (by simpa [Value.ownBlock] using h.symm); exact .inr fun g' e' => by simp [Value.ownBlock] at e'; subst e'; simp; omega) ho6
              have HS6 := hide hS6
              obtain ⟨e6, f6⟩ := oneCell k6
              clear hg6 hgb ho6 hS6 k6 HP HO1 e1 f1 e0
              go_wp2_with fail
              exact ⟨⟨k + 1, HLT.out, by simp, HS6.out⟩, measZ2 HLT.out⟩
        · have e : n = k := by omega
          subst e
          have HS := hide hS
          clear hS hk
          go_wp2_with fail
          go_ret2
          have hm := HS.out.mem
          rw [List.take_of_length_le (by rw [HN.out]; exact Nat.le_refl _)] at hm
          refine .inr (.inr (.inr ⟨by have := HH.out.1; have := HN.out; omega, by have := HH.out.2; have := HN.out; omega, fun j x hx => ?_, _, rfl, ⟨hm.mem.choose, hm.mem.choose_spec.1, hm.mem.choose_spec.2.mono (by omega)⟩, Nat.le_refl _, HS.out.bel⟩))
          by_cases hj : j < n
          · exact HS.out.ok j hj x hx
          · rw [rowN_out _ _ (by rw [HN.out]; omega)] at hx; simp at hx

end Go.Proofs.Ytpdjmapmpicgjaa
