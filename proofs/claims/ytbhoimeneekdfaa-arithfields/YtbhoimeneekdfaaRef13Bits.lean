/-
  The document's Bits and Of: a word's bits, the lowest one first, and the word of bits.
-/
import Derived.WalkSpells
import Derived.WalkMore
import Derived.Deep.MidRow
import Derived.Test.YtbhoimeneekdfaaMathBt
import Derived.Test.YtbhoimeneekdfaaArr32
import Derived.Test.YtbhoimeneekdfaaSlots
namespace Go.Proofs.Ytbhoimeneekdfaa
open Go.RowKit
set_option linter.unusedVariables false
set_option linter.unusedSimpArgs false
set_option maxRecDepth 10000

set_option maxHeartbeats 4000000 in
theorem refBits_any (a : Int) (w : World) (a0 : 0 ≤ a) (a1 : a < 4294967296) : Calls Try.prog 14 #[.int .u32 a] w fun e w' => e = .returned (.agg (arr32 (bt a)).toArray) ∧ Below w.heap.size w w' := by
  have hA := ArrB.two w
  have hB := below_two w (.cells (arr32 fun _ => 0).toArray 37) (.cells (arr32 fun _ => 0).toArray 37)
  rw [arr32_zero] at hA hB
  have HA := hide hA
  have HB := hide hB
  clear hA hB
  go_enter Try.func14, Try.ntmps14
  go_wp2_with fail
  generalize (w.alloc (.cells #[.int .u32 0, .int .u32 0, .int .u32 0, .int .u32 0, .int .u32 0, .int .u32 0, .int .u32 0, .int .u32 0, .int .u32 0, .int .u32 0, .int .u32 0, .int .u32 0, .int .u32 0, .int .u32 0, .int .u32 0, .int .u32 0, .int .u32 0, .int .u32 0, .int .u32 0, .int .u32 0, .int .u32 0, .int .u32 0, .int .u32 0, .int .u32 0, .int .u32 0, .int .u32 0, .int .u32 0, .int .u32 0, .int .u32 0, .int .u32 0, .int .u32 0, .int .u32 0] 37)).alloc (.cells #[.int .u32 0, .int .u32 0, .int .u32 0, .int .u32 0, .int .u32 0, .int .u32 0, .int .u32 0, .int .u32 0, .int .u32 0, .int .u32 0, .int .u32 0, .int .u32 0, .int .u32 0, .int .u32 0, .int .u32 0, .int .u32 0, .int .u32 0, .int .u32 0, .int .u32 0, .int .u32 0, .int .u32 0, .int .u32 0, .int .u32 0, .int .u32 0, .int .u32 0, .int .u32 0, .int .u32 0, .int .u32 0, .int .u32 0, .int .u32 0, .int .u32 0, .int .u32 0] 37) = W0 at *
  go_loopw [0, 4] (fun x i wr => ∃ k : Nat, k ≤ 32 ∧ i = .int .i64 k ∧ x = .int .u32 (a / 2 ^ k) ∧ ArrB wr w.heap.size (fun _ => 0) ∧ ArrB wr (w.heap.size + 1) (fun j => if j < k then bt a j else 0) ∧ Below w.heap.size w wr) (fun _ i _ => 32 - (intOf i).toNat)
  case atStart => exact ⟨0, by omega, rfl, by simp, HA.out.1, HA.out.2.congr (fun k _ => by simp), HB.out⟩
  case round =>
    obtain ⟨k, hk, rfl, rfl, hz, hr, hb⟩ := hrel
    clear HA HB
    have hx0 : 0 ≤ a / 2 ^ k := Int.ediv_nonneg a0 (Int.le_of_lt (two_pos k))
    have hx1 : a / 2 ^ k < 4294967296 := Int.lt_of_le_of_lt (Int.ediv_le_self _ a0) a1
    by_cases hlt : k < 32
    · have hki : (k : Int) < 32 := by omega
      have hc := hr.cell k hlt
      have hf := hr.frozen k
      have HS := hide (hr.set k hlt (bt a k))
      have HS2 := hide (fun v => hz.other (Below.heap_setCell wr ⟨w.heap.size + 1, k, none⟩ v w.heap.size (by simp)))
      have HBn := hide (fun v => hb.setCell (p := ⟨w.heap.size + 1, k, none⟩) (by simp) v)
      have HX : Hid (a / 2 ^ k % 2 = bt a k ∧ a / 2 ^ k / 2 = a / 2 ^ (k + 1)) := ⟨rfl, by rw [two_succ, ← Int.ediv_ediv_of_nonneg (Int.le_of_lt (two_pos k))]⟩
      generalize a / 2 ^ k = x at *
      go_wp2
      rw [HX.out.1, HX.out.2]
      exact ⟨⟨k + 1, by omega, by simp, rfl, HS2.out _, HS.out.congr (fun j hj => by
        by_cases e1 : j = k
        · subst e1; simp
        · by_cases e2 : j < k
          · simp [e1, e2, show j < k + 1 by omega]
          · simp [e1, e2, show ¬ j < k + 1 by omega]), HBn.out _⟩, by simp [intOf]; omega⟩
    · have e32 : k = 32 := by omega
      have HR := hide (hr.congr (g := bt a) (fun j hj => by simp [show j < k by omega]))
      have HZ := hide (hz.stored (bt a)).loadVar
      have HBb := hide (below_stored hb (Nat.le_refl _) (Nat.le_refl _) (arr32 (bt a)))
      have HZ0 := hide hz
      have hki : ¬ (k : Int) < 32 := by omega
      clear hr hz hb e32
      go_wp2_with (first | (refine wpList_load32 rfl _ rfl _ _ rfl HR.out ?_) | (refine wpList_store32 rfl _ _ rfl _ _ (bt a) rfl rfl HZ0.out ?_))
      refine bodyPost_ret (v := .agg (arr32 (bt a)).toArray) ?_ rfl ⟨rfl, HBb.out⟩
      have hz := HZ.out
      simp only [results, Try.results14, List.mapM_toArray, List.mapM_cons, List.mapM_nil, asAddr, Sem.run_bind, Sem.run_pure, Result.andThen_ok, bind_assoc, pure_bind, Sem.run_map, map_pure, hz, Array.getD_eq_getD_getElem?, List.getElem?_toArray, List.getElem?_cons_succ, List.getElem?_cons_zero, Option.getD_some]
      rfl

theorem ArrB.box (w : World) (f : Nat → Int) : ArrB (w.alloc (.cells (arr32 f).toArray 37)) w.heap.size f := ArrB.new w f

set_option maxHeartbeats 4000000 in
theorem refOf_any13 (f : Nat → Int) (hf : Is01 f) (w : World) : Calls Try.prog 17 #[.agg (arr32 f).toArray] w fun e w' => e = .returned (.int .u32 (hB f 32 0)) ∧ Below w.heap.size w w' := by
  have HA := hide (ArrB.new w f)
  have HB := hide ((Below.refl _ w).alloc (Nat.le_refl _) (.cells (arr32 f).toArray 37))
  have HF := hide hf
  have HI := hide (fun n m => hB_in f hf n m)
  clear hf
  generalize hAR : (arr32 f).toArray = AR at *
  go_enter Try.func17, Try.ntmps17
  go_wp2_with fail
  generalize w.alloc (.cells AR 37) = W0 at *
  go_loopw [3, 4] (fun x i wr => ∃ m : Nat, m ≤ 32 ∧ i = .int .i64 (31 - m) ∧ x = .int .u32 (hB f m (32 - m)) ∧ ArrB wr w.heap.size f ∧ Below w.heap.size w wr) (fun _ i _ => (intOf i + 1).toNat)
  case atStart => exact ⟨0, by omega, rfl, rfl, HA.out, HB.out⟩
  case round =>
    obtain ⟨m, hm, rfl, rfl, hr, hb⟩ := hrel
    clear HA HB
    by_cases hlt : m < 32
    · have hc := hr.cell (31 - m) (by omega)
      have hin := HI.out m (32 - m)
      have hfk := HF.out (31 - m)
      have hp : (2 : Int) ^ m ≤ 2147483648 := by
        have h1 : 2 ^ m ≤ 2 ^ 31 := Nat.pow_le_pow_right (by omega) (by omega)
        have h2 : ((2 ^ m : Nat) : Int) = (2 : Int) ^ m := by simp
        omega
      have HX : Hid (f (31 - m) + 2 * hB f m (32 - m) = hB f (m + 1) (32 - (m + 1))) := by
        show _ = f (32 - (m + 1)) + 2 * hB f m (32 - (m + 1) + 1)
        rw [show 32 - (m + 1) = 31 - m by omega, show 31 - m + 1 = 32 - m by omega]
      have hN : (((31 - m : Nat) : Nat) : Int) = 31 - (m : Int) := by omega
      have hT : (31 - (m : Int)).toNat = 31 - m := by omega
      have h0 : (0 : Int) ≤ 31 - (m : Int) := by omega
      have h1 : (31 : Int) - (m : Int) < 32 := by omega
      generalize hB f m (32 - m) = x at *
      generalize f (31 - m) = y at *
      go_wp2
      exact ⟨⟨m + 1, by omega, by rw [show (31 : Int) - (m : Int) - 1 = 31 - ((m + 1 : Nat) : Int) by omega], by rw [← HX.out, Int.add_comm], hr, hb⟩, by simp [intOf]; omega⟩
    · have e32 : m = 32 := by omega
      subst e32
      clear hr
      go_wp2
      go_ret
      exact ⟨rfl, hb⟩

end Go.Proofs.Ytbhoimeneekdfaa
