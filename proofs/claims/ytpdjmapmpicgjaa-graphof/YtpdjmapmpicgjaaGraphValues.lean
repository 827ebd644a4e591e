/-
  slices.Values over numbers, and what its iterator tells; Walk of a graph.
-/
import Derived.RangeFuncNested
import Derived.RangeFuncBound
import Derived.RangeFuncCalls
import Derived.RangeFuncLeaves
import Derived.Shelf.Abstract
import Derived.Shelf.RegionOpen
import Derived.WalkKit
import Derived.OwnWalkIn
import Derived.TacticsInMore
import Derived.LoopNIn
import Derived.LoopIn
import Derived.Test.YtpdjmapmpicgjaaIter
import Derived.Test.YtpdjmapmpicgjaaBoxes
import Derived.Test.YtpdjmapmpicgjaaGraphView
namespace Go.Proofs.Ytpdjmapmpicgjaa
open Go.RowKit Go.Shelf
attribute [local go_sem] Oper.semAt_some
set_option linter.unusedVariables false
set_option linter.unusedSimpArgs false
set_option maxRecDepth 10000

def intV1 (x : Int) : Array Value := #[.int .i64 x]

theorem values_any (a : Option Addr) (n c : Nat) (w : World) : Calls Try.prog 40 #[.slice a n c] w fun e w' => e = .returned (.func (.func 54) #[] #[.pointer (some ⟨w.heap.size, 0, none⟩)]) ∧ w.alloc (.cells #[.slice a n c] 32) = w' := by
  go_enter Try.func40, Try.ntmps40
  go_wp2
  go_ret
  exact ⟨rfl, rfl⟩

set_option maxRecDepth 100000 in
set_option maxHeartbeats 2000000 in
theorem values_tells (a : Option Addr) (n c : Nat) (zs : List Int) (n₀ : Nat) (τ : TypeId → Prop) (w : World) (B : Nat) (hB : w.heap[B]? = some (.cells #[.slice a n c] 32 (0, 0))) (hl : zs.length = n) (hn : 8 * n ≤ 140737488351232) (hn0 : n₀ ≤ w.heap.size) (ha : ∀ X, Below n₀ w X → View .i64 X a zs) :
    Tells Try.prog 54 #[.pointer (some ⟨B, 0, none⟩)] intV1 (fun pre x _ => pre ++ [x] <+: zs) n₀ τ (fun xs => xs = zs) (fun pre => pre <+: zs) w := by
  intro l J Jx W hW hJ hJx hY h0
  have hBW := (hW.block B (Array.getElem?_eq_some_iff.1 hB).1).trans hB
  have hbW : Below n₀ w W := hW.mono hn0
  have HL := hide hl
  have HT : Hid (zs.take n = zs) := List.take_of_length_le (by rw [HL.out]; exact Nat.le_refl _)
  have hbx : W.cell? ⟨B, 0, none⟩ = some (.slice a n c) := by simp [World.cell?, hBW]
  have hni : (8 : Int) * n ≤ 140737488351232 := by omega
  have HN : Hid (∀ k, k < n → zs.take k ++ [nth zs k] = zs.take (k + 1)) := fun k hk => (take_snoc zs k (by rw [HL.out]; exact hk)).symm
  clear hl hB hW hn hBW
  refine callsIn_of_wp Try.func54 rfl trivial ?_ rfl
  simp only [Try.ntmps54, List.size_toArray, List.length_cons, List.length_nil, Nat.reduceAdd, Nat.reduceSub, Array.replicate_succ, Array.replicate_zero, List.push_toArray, List.append_toArray, List.nil_append, List.cons_append]
  gi_wp2_with fail
  gi_loopw [7] (fun i wr => ∃ k : Nat, k ≤ n ∧ i = .int .i64 k ∧ J (zs.take k) wr ∧ Below n₀ w wr) (fun i _ => n - (intOf i).toNat)
  case atStart => exact ⟨0, Nat.zero_le _, rfl, h0, hbW⟩
  case round =>
    obtain ⟨k, hk, rfl, hJs, hbr⟩ := hrel
    clear hbW h0 hbx
    by_cases hlt : k < n
    · have hav := ha _ hbr
      obtain ⟨b, off, rfl, _, hc1⟩ := hav k (by rw [HL.out]; exact hlt)
      have hki : (k : Int) < (n : Int) := by omega
      have HE := hide (HN.out k hlt)
      have HP : Hid (zs.take k ++ [nth zs k] <+: zs) := by
        show _ <+: _
        rw [HE.out]; exact List.take_prefix _ _
      obtain ⟨fn, tmps, assign, body, hy, hR⟩ := hY (zs.take k) (nth zs k) wr hJs HP.out
      simp only [intV1] at hy
      have HBR := hide hbr
      have HLT := hide hlt
      generalize nth zs k = x at *
      clear hav hY hbr hlt hk hJs
      gi_wp2_with fail
      refine ⟨rfl, hR.mono ?_⟩
      rintro e W3 ⟨_, ⟨rfl, hJ3, hk3⟩ | ⟨rfl, hJx3⟩⟩
      · have HB3 := hide (HBR.out.trans hk3.1)
        have HJ3 := hide hJ3
        clear hy hR hk3 hJ3
        gi_wp2
        go_roundw
        case rel => exact ⟨k + 1, HLT.out, by simp, by have := HJ3.out; rw [HE.out] at this; exact this, HB3.out⟩
        case measure => have := HLT.out; simp [intOf]; omega
      · have HX := hide hJx3
        clear hy hR hJx3
        gi_wp2
        refine bodyPost_ret (results_none rfl _ _ _) rfl ?_
        exact ⟨⟨_, rfl⟩, .inr ⟨_, HP.out, HX.out⟩⟩
    · have e : n = k := by omega
      subst e
      have HJ3 := hide hJs
      clear hk hJs hY
      gi_wp2
      go_end0
      exact ⟨⟨_, rfl⟩, .inl ⟨zs, rfl, by have := HJ3.out; rw [HT.out] at this; exact this⟩⟩

theorem graphIter_any (wv w : World) (lo p : Nat) (N : List (List Int)) (h : GrV wv lo p N) (hb : Below wv.heap.size wv w) : Calls Try.prog 16 #[.pointer (some ⟨p, 0, none⟩)] w fun e w' => ∃ a c, e = .returned (.func (.func 54) #[] #[.pointer (some ⟨w.heap.size, 0, none⟩)]) ∧ w'.heap[w.heap.size]? = some (.cells #[.slice a (walkF N).1.length c] 32 (0, 0)) ∧ View .i64 wv a (walkF N).1 ∧ w'.heap.size = w.heap.size + 1 ∧ Below w.heap.size w w' := by
  obtain ⟨nv, av, m, cv, ov, h1, _, _, _, hc, _⟩ := h.mem
  generalize (walkF N).1 = zs at *
  obtain ⟨a, c, rfl, hv, _⟩ := View.ofOwned hc
  have c0 : w.cell? ⟨p, 66, none⟩ = some (.slice a zs.length c) := by rw [(h1.below hb).cell, gC_c]
  have hC := values_any a zs.length c w
  clear h h1 hc
  go_enter Try.func16, Try.ntmps16
  go_wp2_with fail
  refine hC.mono ?_
  rintro e w' ⟨rfl, rfl⟩
  clear hC
  go_wp2_with fail
  go_ret
  exact ⟨a, c, rfl, allocNew _ _ rfl, hv, by simp, (Below.refl _ _).alloc (Nat.le_refl _) _⟩

end Go.Proofs.Ytpdjmapmpicgjaa
