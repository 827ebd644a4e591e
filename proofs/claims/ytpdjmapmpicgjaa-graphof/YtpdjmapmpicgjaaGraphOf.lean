/-
  Of of graph.
-/
import Derived.WalkSpells
import Derived.WalkMore
import Derived.Laws.EntriesVeiled
import Derived.Test.YtpdjmapmpicgjaaProg
import Derived.Test.YtpdjmapmpicgjaaBoxes
import Derived.Test.YtpdjmapmpicgjaaGraphMade
import Derived.Test.YtpdjmapmpicgjaaGraphAsks
namespace Go.Proofs.Ytpdjmapmpicgjaa
open Go.RowKit
set_option linter.unusedVariables false
set_option linter.unusedSimpArgs false
set_option maxRecDepth 10000

theorem lead1_any (i : Int) (L n c : Nat) (a : Option Addr) (w : World) (h : w.heap[L]? = some (.cells #[.slice a n c] 22 (0, 0))) : Calls Try.prog 48 #[.int .i64 i, .pointer (some ⟨L, 0, none⟩)] w fun e w' => e = .returned (.bool (!nodeB n i)) ∧ w = w' := by
  have c0 := (oneCell h).1
  have hI := isNode_any a n c i w
  generalize nodeB n i = r at *
  clear h
  go_enter Try.func48, Try.ntmps48
  go_wp2_with fail
  refine hI.mono ?_
  rintro e w' ⟨rfl, rfl⟩
  go_wp2
  go_ret
  exact ⟨rfl, rfl⟩

theorem mem_takeG {zs : List Int} {P : Int → Prop} {k : Nat} (hk : k < zs.length) : (∃ x ∈ zs.take (k + 1), P x) ↔ (∃ x ∈ zs.take k, P x) ∨ P (nth zs k) := by
  rw [take_snoc zs k hk]
  constructor
  · rintro ⟨x, hx, hp⟩
    rcases List.mem_append.1 hx with hx | hx
    · exact .inl ⟨x, hx, hp⟩
    · simp at hx; subst hx; exact .inr hp
  · rintro (⟨x, hx, hp⟩ | hp)
    · exact ⟨x, List.mem_append.2 (.inl hx), hp⟩
    · exact ⟨_, List.mem_append.2 (.inr (by simp)), hp⟩

set_option maxHeartbeats 2000000 in
theorem indexLead_any (a : Option Addr) (m cap : Nat) (zs : List Int) (L n c : Nat) (b : Option Addr) (w : World) (hb : w.heap[L]? = some (.cells #[.slice b n c] 22 (0, 0))) (ha : View .i64 w a zs) (hl : zs.length = m) (hn : 8 * m ≤ 140737488351232) :
    Calls Try.prog 59 #[.slice a m cap, .func (.func 48) #[] #[.pointer (some ⟨L, 0, none⟩)]] w fun e w' => (∃ i : Int, e = .returned (.int .i64 i) ∧ (0 ≤ i ↔ ∃ x ∈ zs, nodeB n x = false)) ∧ w = w' := by
  have HC := hide (fun i => lead1_any i L n c b w hb)
  have HL := hide hl
  have HA := hide ha
  have HT : Hid (zs.take m = zs) := List.take_of_length_le (by rw [HL.out]; exact Nat.le_refl _)
  have hmi : (8 : Int) * m ≤ 140737488351232 := by omega
  clear hl ha hb hn
  go_enter Try.func59, Try.ntmps59
  go_wp2_with fail
  go_loopw [8] (fun i wr => ∃ k : Nat, k ≤ m ∧ i = .int .i64 k ∧ (¬ ∃ x ∈ zs.take k, nodeB n x = false) ∧ wr = w) (fun i _ => m - (intOf i).toNat)
  case atStart => exact ⟨0, Nat.zero_le _, rfl, by simp, rfl⟩
  case round =>
    obtain ⟨k, hk, rfl, hnot, rfl⟩ := hrel
    by_cases hlt : k < m
    · obtain ⟨b1, o1, rfl, _, c1⟩ := HA.out k (by rw [HL.out]; exact hlt)
      have hki : (k : Int) < (m : Int) := by omega
      have HM := hide (mem_takeG (P := fun x => nodeB n x = false) (zs := zs) (k := k) (by rw [HL.out]; exact hlt))
      have hcall := HC.out (nth zs k)
      have HNT := hide hnot
      have HLT := hide hlt
      have HMEM : Hid (nth zs k ∈ zs) := by
        have hk' : k < zs.length := by rw [HL.out]; exact hlt
        have : nth zs k = zs[k] := by simp [nth, List.getD, hk']
        show nth zs k ∈ zs
        rw [this]; exact List.getElem_mem _
      clear hnot hk hlt
      generalize nth zs k = y at *
      cases hy : nodeB n y with
      | false =>
        rw [hy] at hcall
        have HY := hide hy
        clear hy
        go_wp2_with fail
        refine hcall.mono ?_
        rintro e w5 ⟨rfl, rfl⟩
        clear hcall
        go_wp2_with fail
        go_ret
        exact ⟨⟨k, rfl, fun _ => ⟨y, HMEM.out, HY.out⟩, fun _ => by omega⟩, rfl⟩
      | true =>
        rw [hy] at hcall
        have HY := hide hy
        clear hy
        go_wp2_with fail
        refine hcall.mono ?_
        rintro e w5 ⟨rfl, rfl⟩
        clear hcall
        go_wp2_with fail
        refine ⟨⟨k + 1, HLT.out, by simp, ?_, by first | rfl | trivial⟩, measZ2 HLT.out⟩
        rw [HM.out]
        rintro (h | h)
        · exact HNT.out h
        · rw [HY.out] at h; cases h
    · have e : m = k := by omega
      subst e
      rw [HT.out] at hnot
      have HNT := hide hnot
      clear hnot
      go_wp2_with fail
      go_ret
      exact ⟨⟨-1, rfl, fun h => by omega, fun h => absurd h HNT.out⟩, rfl⟩

set_option maxHeartbeats 2000000 in
theorem containsLead_any (a : Option Addr) (m cap : Nat) (zs : List Int) (L n c : Nat) (b : Option Addr) (w : World) (hb : w.heap[L]? = some (.cells #[.slice b n c] 22 (0, 0))) (ha : View .i64 w a zs) (hl : zs.length = m) (hn : 8 * m ≤ 140737488351232) :
    Calls Try.prog 47 #[.slice a m cap, .func (.func 48) #[] #[.pointer (some ⟨L, 0, none⟩)]] w fun e w' => (∃ r : Bool, e = .returned (.bool r) ∧ (r = true ↔ ∃ x ∈ zs, nodeB n x = false)) ∧ w = w' := by
  have hI := indexLead_any a m cap zs L n c b w hb ha hl hn
  clear hb ha hl hn
  go_enter Try.func47, Try.ntmps47
  go_wp2_with fail
  refine hI.mono ?_
  rintro e w1 ⟨⟨i, rfl, hi⟩, rfl⟩
  have HI := hide hi
  clear hI hi
  go_wp2_with fail
  go_ret
  exact ⟨⟨decide (0 ≤ i), rfl, by rw [← HI.out]; simp⟩, rfl⟩

set_option maxHeartbeats 4000000 in
theorem lead_any (a : Option Addr) (n c : Nat) (N : List (List Int)) (w : World) (hv : LV w a N) (hl : N.length = n) (hn : 24 * n ≤ 140737488351232) (hr : ∀ j, 8 * (rowN N j).length ≤ 140737488351232) :
    Calls Try.prog 30 #[.slice a n c] w fun e w' => (∃ r : Bool, e = .returned (.bool r) ∧ (r = true ↔ Edges n N)) ∧ Below w.heap.size w w' := by
  have hba : Below w.heap.size w (w.alloc (.cells #[.slice a n c] 22)) := (Below.refl _ _).alloc (Nat.le_refl _) _
  have hbx : (w.alloc (.cells #[.slice a n c] 22)).heap[w.heap.size]? = some (.cells #[.slice a n c] 22 (0, 0)) := allocNew _ _ rfl
  have hV1 := hv.below hba
  have HBA := hide hba
  have HV := hide hV1
  have HL := hide hl
  have HR := hide hr
  have HC := hide (fun aj nj cj zs (h : View .i64 _ aj zs) hlj hnj => containsLead_any aj nj cj zs w.heap.size n c a _ hbx h hlj hnj)
  have hni : (24 : Int) * n ≤ 140737488351232 := by omega
  clear hv hV1 hba hl hn hr
  go_enter Try.func30, Try.ntmps30
  go_wp2_with fail
  generalize (w.alloc (.cells #[.slice a n c] 22)) = W at *
  go_loopw [7] (fun i wr => ∃ k : Nat, k ≤ n ∧ i = .int .i64 k ∧ (∀ j, j < k → ∀ x ∈ rowN N j, 0 ≤ x ∧ x < (n : Int)) ∧ wr = W) (fun i _ => n - (intOf i).toNat)
  case atStart => exact ⟨0, Nat.zero_le _, rfl, fun j hj => by omega, rfl⟩
  case round =>
    obtain ⟨k, hk, rfl, hall, rfl⟩ := hrel
    by_cases hlt : k < n
    · obtain ⟨b, off, aj, nj, cj, rfl, hb, hc, hcl, hcc, hvj⟩ := HV.out k (by rw [HL.out]; exact hlt)
      have hki : (k : Int) < (n : Int) := by omega
      have hcall := HC.out aj nj cj (rowN N k) hvj hcl (by have := HR.out k; omega)
      have HALL := hide hall
      have HLT := hide hlt
      clear hall hk hlt hb hcl hcc hvj
      go_wp2_with fail
      refine hcall.mono ?_
      rintro e w5 ⟨⟨r, rfl, hr⟩, rfl⟩
      have HRR := hide hr
      clear hcall hr
      cases r with
      | true =>
        go_wp2_with fail
        go_ret
        refine ⟨⟨false, rfl, fun h => Bool.noConfusion h, fun h => ?_⟩, HBA.out⟩
        obtain ⟨x, hx, hf⟩ := HRR.out.1 (by first | rfl | trivial)
        have := h k x hx
        unfold nodeB at hf
        exact absurd this (of_decide_eq_false hf)
      | false =>
        go_wp2_with fail
        refine ⟨⟨k + 1, HLT.out, by simp, fun j hj x hx => ?_, by first | rfl | trivial⟩, measZ2 HLT.out⟩
        by_cases e : j = k
        · subst e
          cases hq : nodeB n x with
          | true => unfold nodeB at hq; exact of_decide_eq_true hq
          | false => have := HRR.out.2 ⟨x, hx, hq⟩; cases this
        · exact HALL.out j (by omega) x hx
    · have e : n = k := by omega
      subst e
      have HALL := hide hall
      clear hall hk
      go_wp2_with fail
      go_ret
      refine ⟨⟨true, rfl, fun _ j x hx => ?_, fun _ => rfl⟩, HBA.out⟩
      by_cases hj : j < n
      · exact HALL.out j hj x hx
      · rw [rowN_out _ _ (by rw [HL.out]; omega)] at hx; simp at hx

/-- What Of answers. -/
def ofErr (N : List (List Int)) (ed : Bool) : Int := if N.length = 0 then 2 else if 4096 < N.length then 4 else if ed then 0 else 141
def OfQ (w w' : World) (e : Ending) (N : List (List Int)) : Prop :=
  (N.length = 0 ∧ e = .returned (.tuple #[.pointer none, .int .i64 2]) ∧ Below w.heap.size w w') ∨
  (4096 < N.length ∧ e = .returned (.tuple #[.pointer none, .int .i64 4]) ∧ Below w.heap.size w w') ∨
  (0 < N.length ∧ N.length ≤ 4096 ∧ ¬ Edges N.length N ∧ e = .returned (.tuple #[.pointer none, .int .i64 141]) ∧ Below w.heap.size w w') ∨
  (0 < N.length ∧ N.length ≤ 4096 ∧ Edges N.length N ∧ ∃ p, e = .returned (.tuple #[.pointer (some ⟨p, 0, none⟩), .int .i64 0]) ∧ GrV w' w.heap.size p (N.map onceF) ∧ Below w.heap.size w w')

theorem GrV.mono {w : World} {lo lo' p : Nat} {N : List (List Int)} (h : GrV w lo p N) (hl : lo' ≤ lo) : GrV w lo' p N := by
  obtain ⟨nv, av, m, cv, ov, h1, h2, h3, h4, h5, h6⟩ := h.mem
  exact ⟨⟨nv, av, m, cv, ov, h1, h2.mono hl, h3.mono hl, h4, own_mono h5 hl, own_mono h6 hl⟩, Nat.le_trans hl h.low, h.edges, h.few, h.some_, h.once⟩

set_option maxHeartbeats 4000000 in
theorem graphOf_any (a : Option Addr) (n c : Nat) (N : List (List Int)) (w : World) (hv : LV w a N) (hl : N.length = n) (hn : 24 * n ≤ 140737488351232) (hr : ∀ j, 8 * (rowN N j).length ≤ 140737488351232) :
    Calls Try.prog 10 #[.slice a n c] w fun e w' => OfQ w w' e N := by
  subst hl
  by_cases h0 : N.length = 0
  · have h0i : ((N.length : Int) == 0) = true := by simp [h0]
    go_enter Try.func10, Try.ntmps10
    go_wp2_with fail
    go_ret2
    exact .inl ⟨h0, rfl, Below.refl _ _⟩
  · have h0i : ((N.length : Int) == 0) = false := by
      have : ¬ (N.length : Int) = 0 := by omega
      simpa using this
    by_cases h4 : 4096 < N.length
    · have h4i : (4096 : Int) < (N.length : Int) := by omega
      have H4 := hide h4
      clear h4 h0
      go_enter Try.func10, Try.ntmps10
      go_wp2_with fail
      go_ret2
      exact .inr (.inl ⟨H4.out, rfl, Below.refl _ _⟩)
    · have h4i : decide ((4096 : Int) < (N.length : Int)) = false := by simp; omega
      have hL := lead_any a N.length c N w hv rfl hn hr
      have hM := fun hE wx (hb : Below w.heap.size w wx) => made_any a N.length c N wx (hv.below hb) rfl (by omega) (by omega) hE hr
      have HM := hide hM
      have H4 : Hid (0 < N.length ∧ N.length ≤ 4096) := ⟨by omega, by omega⟩
      clear hv hr hM h4 h0 hn
      go_enter Try.func10, Try.ntmps10
      go_wp2_with fail
      refine hL.mono ?_
      rintro e w1 ⟨⟨r, rfl, hr⟩, hb1⟩
      have HR := hide hr
      have HB := hide hb1
      clear hL hr hb1
      cases r with
      | false =>
        go_wp2_with fail
        go_ret2
        exact .inr (.inr (.inl ⟨H4.out.1, H4.out.2, fun h => Bool.noConfusion (HR.out.2 h), rfl, HB.out⟩))
      | true =>
        have HED := hide (HR.out.1 rfl)
        have hm := HM.out HED.out w1 HB.out
        go_wp2_with fail
        refine hm.mono ?_
        rintro e w2 ⟨p, rfl, hG, hb2⟩
        have HG := hide (hG.mono HB.out.size)
        have HB2 := hide (HB.out.trans (hb2.mono HB.out.size))
        clear hm hG hb2
        go_wp2_with fail
        go_ret2
        exact .inr (.inr (.inr ⟨H4.out.1, H4.out.2, HED.out, p, rfl, HG.out, HB2.out⟩))

end Go.Proofs.Ytpdjmapmpicgjaa
