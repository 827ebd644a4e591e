/-
  among of the laws of layer 14.
-/
import Derived.WalkSpells
import Derived.WalkMore
import Derived.Test.YtpdjmapmpicgjaaProg
import Derived.Test.YtpdjmapmpicgjaaGraphAsks
namespace Go.Proofs.Ytpdjmapmpicgjaa
open Go.RowKit
set_option linter.unusedVariables false
set_option linter.unusedSimpArgs false
set_option maxRecDepth 10000

set_option maxHeartbeats 2000000 in
theorem among_any (a : Option Addr) (n c : Nat) (l : List Int) (x : Int) (w : World) (hv : View .i64 w a l) (hl : l.length = n) (hn : 8 * n ≤ 140737488351232) : Calls Try.prog 28 #[.slice a n c, .int .i64 x] w fun e w' => e = .returned (.bool (decide (x ∈ l))) ∧ w = w' := by
  have HL := hide hl
  have HV := hide hv
  have hni : (8 : Int) * n ≤ 140737488351232 := by omega
  have HT : Hid (l.take n = l) := List.take_of_length_le (by rw [HL.out]; exact Nat.le_refl _)
  have HM : Hid (∀ k, k < n → (x ∈ l.take (k + 1) ↔ x ∈ l.take k ∨ nth l k = x)) := fun k hk => by
    rw [take_snoc l k (by rw [HL.out]; exact hk)]; simp [eq_comm]
  have HMM : Hid (∀ k, x ∈ l.take k → x ∈ l) := fun k h => List.mem_of_mem_take h
  generalize hr : decide (x ∈ l) = r
  have HR : Hid (r = true ↔ x ∈ l) := by show _ ↔ _; rw [← hr]; simp
  clear hl hv hn hr
  go_enter Try.func28, Try.ntmps28
  go_wp2_with fail
  go_loopw [5] (fun i wr => ∃ k : Nat, k ≤ n ∧ i = .int .i64 k ∧ ¬ x ∈ l.take k ∧ wr = w) (fun i _ => n - (intOf i).toNat)
  case atStart => exact ⟨0, Nat.zero_le _, rfl, by simp, rfl⟩
  case round =>
    obtain ⟨k, hk, rfl, hnot, rfl⟩ := hrel
    by_cases hlt : k < n
    · obtain ⟨b1, o1, rfl, _, c1⟩ := HV.out k (by rw [HL.out]; exact hlt)
      have hki : (k : Int) < (n : Int) := by omega
      have hmk := HM.out k hlt
      have HLT := hide hlt
      have HNT := hide hnot
      clear hk hlt hnot
      generalize nth l k = y at *
      rcases Decidable.em (y = x) with hy | hy
      · have HPK := hide (HR.out.2 (HMM.out (k + 1) (hmk.2 (.inr hy))))
        have hyy : (y == x) = true := by simp [hy]
        clear hmk hy
        go_wp2_with fail
        go_ret
        exact ⟨by rw [HPK.out]; rfl, rfl⟩
      · have HX : Hid (¬ x ∈ l.take (k + 1)) := fun h => by rcases hmk.1 h with h | h; exact HNT.out h; exact hy h
        have hyy : (y == x) = false := by simpa using hy
        clear hmk hy
        go_wp2_with fail
        exact ⟨⟨k + 1, HLT.out, by simp, HX.out, by first | rfl | trivial⟩, measZ2 HLT.out⟩
    · have e : n = k := by omega
      subst e
      rw [HT.out] at hnot
      have HPN : Hid (r = false) := by
        show r = false
        cases r
        · rfl
        · exact absurd (HR.out.1 rfl) hnot
      clear hnot hk
      go_wp2_with fail
      go_ret
      exact ⟨by rw [HPN.out]; rfl, rfl⟩

theorem among_yes (a : Option Addr) (n c : Nat) (l : List Int) (x : Int) (w : World) (hv : View .i64 w a l) (hl : l.length = n) (hn : 8 * n ≤ 140737488351232) (hx : x ∈ l) : Calls Try.prog 28 #[.slice a n c, .int .i64 x] w fun e w' => e = .returned (.bool true) ∧ w = w' := by
  have := among_any a n c l x w hv hl hn
  rw [decide_eq_true hx] at this; exact this
theorem among_no (a : Option Addr) (n c : Nat) (l : List Int) (x : Int) (w : World) (hv : View .i64 w a l) (hl : l.length = n) (hn : 8 * n ≤ 140737488351232) (hx : x ∉ l) : Calls Try.prog 28 #[.slice a n c, .int .i64 x] w fun e w' => e = .returned (.bool false) ∧ w = w' := by
  have := among_any a n c l x w hv hl hn
  rw [decide_eq_false hx] at this; exact this
/-- The nodes ahead rise. -/
theorem ahead_rise (N : List (List Int)) (k : Nat) (j : Int) (q : Nat) (h : q + 1 < (aheadT N k j).length) : nth (aheadT N k j) q < nth (aheadT N k j) (q + 1) := by
  have hp : (aheadT N k j).Pairwise (· < ·) := by
    unfold aheadT
    rw [List.pairwise_map]
    exact (List.pairwise_lt_range.filter _).imp fun h => Int.ofNat_lt.2 h
  have := List.pairwise_iff_getElem.1 hp q (q + 1) (by omega) h (by omega)
  have e1 : nth (aheadT N k j) q = (aheadT N k j)[q] := by simp only [nth, List.getD, List.getElem?_eq_getElem (show q < (aheadT N k j).length by omega)]; rfl
  have e2 : nth (aheadT N k j) (q + 1) = (aheadT N k j)[q + 1] := by simp only [nth, List.getD, List.getElem?_eq_getElem h]; rfl
  rw [e1, e2]; exact this
theorem nth_memG (l : List Int) (k : Nat) (h : k < l.length) : nth l k ∈ l := by
  have : nth l k = l[k] := by simp [nth, List.getD, h]
  rw [this]; exact List.getElem_mem _
theorem nodup_take (l : List Int) (k : Nat) (h : k < l.length) (hd : l.Nodup) : nth l k ∉ l.take k := by
  have h2 : (l.take (k + 1)).Nodup := hd.sublist (List.take_sublist _ _)
  rw [take_snoc l k h, List.nodup_append] at h2
  exact fun h3 => h2.2.2 _ h3 _ (by simp) rfl
theorem growG {W wx w' : World} (h : Below W.heap.size W wx) (hb : Below wx.heap.size wx w') : Below W.heap.size W w' := h.trans (hb.mono h.size)

end Go.Proofs.Ytpdjmapmpicgjaa
