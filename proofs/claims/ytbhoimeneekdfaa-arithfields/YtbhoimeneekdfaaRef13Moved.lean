/-
  The document's moved: bits moved.
-/
import Derived.WalkSpells
import Derived.WalkMore
import Derived.Deep.MidRow
import Derived.BigRegion
import Derived.Test.YtbhoimeneekdfaaRef13Bits
namespace Go.Proofs.Ytbhoimeneekdfaa
open Go.RowKit
set_option linter.unusedVariables false
set_option linter.unusedSimpArgs false
set_option maxRecDepth 10000

/-- The bits, moved by n. -/
def mvB (op : Int) (f : Nat → Int) (n j : Nat) : Int := if op = 196 then (if n ≤ j then f (j - n) else 0) else if j + n < 32 then f (j + n) else if op = 195 then f 31 else 0
theorem mvB_01 (op : Int) (f : Nat → Int) (hf : Is01 f) (n : Nat) : Is01 (mvB op f n) := by
  intro j
  unfold mvB
  repeat' split
  all_goals first | exact hf _ | exact .inl rfl
theorem ArrB.newB (w : World) (f : Nat → Int) : ArrB ((w.alloc (.cells (arr32 fun _ => 0).toArray 37)).setCells w.heap.size 0 (arr32 f)) w.heap.size f := (ArrB.new w _).stored f
theorem below_newB (W w : World) (hb : Below W.heap.size W w) (f : Nat → Int) : Below W.heap.size W ((w.alloc (.cells (arr32 fun _ => 0).toArray 37)).setCells w.heap.size 0 (arr32 f)) :=
  below_stored (hb.alloc hb.size _) (Nat.le_refl _) hb.size _
theorem size_setCells13 (b : Nat) (vs : List Value) (w : World) : w.heap.size ≤ (w.setCells b 0 vs).heap.size := (setCells_grown b vs 0 w).size

theorem meas32 {k : Nat} (h : k < 32) : 32 - (intOf (.int .i64 ((k : Int) + 1))).toNat < 32 - (intOf (.int .i64 (k : Int))).toNat := by simp [intOf]; omega
/-- What the loop of moved keeps. -/
def MvK (w wr : World) (L X : Nat) (f g : Nat → Int) : Prop := w.heap.size ≤ L ∧ L < X ∧ ArrB wr L f ∧ ArrB wr X g ∧ Below w.heap.size w wr
theorem MvK.set {w wr : World} {L X : Nat} {f g : Nat → Int} (h : MvK w wr L X f g) (k : Nat) (hk : k < 32) (v : Int) : MvK w (wr.setCell ⟨X, k, none⟩ (.int .u32 v)) L X f (fun j => if j = k then v else g j) :=
  ⟨h.1, h.2.1, h.2.2.1.other (Below.heap_setCell _ _ _ _ (by have := h.2.1; simp; omega)), h.2.2.2.1.set k hk v, h.2.2.2.2.setCell (by have := h.1; have := h.2.1; simp; omega) _⟩
theorem MvK.congr {w wr : World} {L X : Nat} {f g g' : Nat → Int} (h : MvK w wr L X f g) (e : ∀ k, k < 32 → g k = g' k) : MvK w wr L X f g' := ⟨h.1, h.2.1, h.2.2.1, h.2.2.2.1.congr e, h.2.2.2.2⟩
theorem upto_next (h : Nat → Int) (k : Nat) (v : Int) (e : v = h k) : ∀ j, j < 32 → (if j = k then v else if j < k then h j else 0) = if j < k + 1 then h j else 0 := by
  intro j _
  by_cases e1 : j = k
  · subst e1; simp [e]
  · by_cases e2 : j < k
    · simp [e1, e2, show j < k + 1 by omega]
    · simp [e1, e2, show ¬ j < k + 1 by omega]
theorem upto_skip (h : Nat → Int) (k : Nat) (e : h k = 0) : ∀ j, j < 32 → (if j < k then h j else 0) = if j < k + 1 then h j else 0 := by
  intro j _
  by_cases e1 : j = k
  · subst e1; simp [e]
  · by_cases e2 : j < k
    · simp [e2, show j < k + 1 by omega]
    · simp [e2, show ¬ j < k + 1 by omega]

theorem MvK.start {w w1 w2 : World} {f : Nat → Int} {o : Obj} (hb1 : Below w.heap.size w w1) (hA : ArrB w2 w1.heap.size f) (hg : (w1.alloc o).grownBy w2 (some w1.heap.size)) : MvK w (w2.alloc (.cells (arr32 fun _ => 0).toArray 37)) w1.heap.size w2.heap.size f (fun _ => 0) := by
  have hb2 : Below w.heap.size w w2 := (hb1.alloc hb1.size o).grown hg (by simp; have := hb1.size; omega) (fun k e => by cases e; exact hb1.size)
  exact ⟨hb1.size, hA.lt, hA.below ((Below.refl _ _).alloc (Nat.le_refl _) _), ArrB.new w2 _, hb2.alloc hb2.size _⟩

set_option maxHeartbeats 4000000 in
theorem refMoved194_any (a b : Int) (n : Nat) (w : World) (a0 : 0 ≤ a) (a1 : a < 4294967296) (b0 : 0 ≤ b) (b1 : b < 4294967296) (hn : b % 32 = (n : Int)) : Calls Try.prog 38 #[.int .u16 194, .int .u32 a, .int .u32 b] w fun e w' => e = .returned (.int .u32 (hB (mvB 194 (bt a) n) 32 0)) ∧ Below w.heap.size w w' := by
  have hn32 : n < 32 := by omega
  have HN := hide hn
  clear hn
  have hO := fun w => refOf_any13 (mvB 194 (bt a) n) (mvB_01 194 _ (is01_bt a) n) w
  go_enter Try.func38, Try.ntmps38
  go_wp2_with fail
  refine (refBits_any a w a0 a1).mono ?_
  rintro e w1 ⟨rfl, hb1⟩
  generalize hAR : (arr32 (bt a)).toArray = AR
  have HA := hide (ArrB.new w1 (fun _ => 0))
  rw [arr32_zero] at HA
  go_wp2_with (refine wpList_store32A rfl _ _ rfl _ _ (bt a) _ rfl rfl hAR HA.out ?_; intro w2 hA2 hg2)
  rw [HN.out]
  clear HN
  have HM := hide (MvK.start hb1 hA2 hg2)
  rw [arr32_zero] at HM
  clear HA hA2 hg2 hb1
  generalize hX : w2.heap.size = X at *
  generalize w1.heap.size = L at *
  generalize w2.alloc (.cells #[.int .u32 0, .int .u32 0, .int .u32 0, .int .u32 0, .int .u32 0, .int .u32 0, .int .u32 0, .int .u32 0, .int .u32 0, .int .u32 0, .int .u32 0, .int .u32 0, .int .u32 0, .int .u32 0, .int .u32 0, .int .u32 0, .int .u32 0, .int .u32 0, .int .u32 0, .int .u32 0, .int .u32 0, .int .u32 0, .int .u32 0, .int .u32 0, .int .u32 0, .int .u32 0, .int .u32 0, .int .u32 0, .int .u32 0, .int .u32 0, .int .u32 0, .int .u32 0] 37) = W3 at *
  clear hX hAR
  go_loopw [10] (fun i wr => ∃ k : Nat, k ≤ 32 ∧ i = .int .i64 k ∧ MvK w wr L X (bt a) (fun j => if j < k then mvB 194 (bt a) n j else 0)) (fun i _ => 32 - (intOf i).toNat)
  case atStart => exact ⟨0, by omega, rfl, HM.out.congr (fun k _ => by simp)⟩
  case round =>
    obtain ⟨k, hk, rfl, hM⟩ := hrel
    clear HM
    by_cases hlt : k < 32
    · have hki : (k : Int) < 32 := by omega
      have hcX := hM.2.2.2.1.cell k hlt
      have hfX := hM.2.2.2.1.frozen k
      have HL := hide (fun j (hj : j < 32) => hM.2.2.1.cell j hj)
      have HS := hide (fun v => hM.set k hlt v)
      have HM := hide hM
      clear hM
      have hn0 : (0 : Int) ≤ (n : Int) := by omega
      have hni : (n : Int) < 32 := by omega
      by_cases hh : k + n < 32
      · have hcL := HL.out (k + n) hh
        have ei : ((k : Int) + (n : Int)).toNat = k + n := by omega
        have hi1 : (k : Int) + (n : Int) < 32 := by omega
        have HV : Hid (bt a (k + n) = mvB 194 (bt a) n k) := by show _ = mvB _ _ _ _; simp [mvB, hh]
        have HLT := hide hlt
        clear hh hn0 hni HL HM hlt hk
        go_wp2
        go_roundw
        case rel =>
          have hs := (HS.out (mvB 194 (bt a) n k)).congr (upto_next (mvB 194 (bt a) n) k (mvB 194 (bt a) n k) rfl)
          rw [HV.out]
          exact ⟨k + 1, HLT.out, rfl, hs⟩
        case measure => exact meas32 HLT.out
      · have hi1 : 32 ≤ (k : Int) + (n : Int) := by omega
        have HV : Hid (mvB 194 (bt a) n k = 0) := by show mvB _ _ _ _ = 0; simp [mvB, hh]
        have HLT := hide hlt
        clear hh hn0 hni hcX hfX HL HS hlt hk
        go_wp2
        exact ⟨⟨k + 1, HLT.out, rfl, HM.out.congr (upto_skip (mvB 194 (bt a) n) k HV.out)⟩, meas32 HLT.out⟩
    · have e32 : k = 32 := by omega
      have HX := hide (hM.2.2.2.1.congr (g := mvB 194 (bt a) n) (fun j hj => by simp [show j < k by omega]))
      have hb := hM.2.2.2.2
      have hki : ¬ (k : Int) < 32 := by omega
      clear hM e32
      go_wp2_with (first | (refine wpList_load32A rfl _ rfl _ _ rfl HX.out ?_; intro AR2 hAR2))
      rw [hAR2] at hO
      refine (hO _).mono ?_
      rintro e w5 ⟨rfl, hb5⟩
      go_wp2
      go_ret
      exact ⟨rfl, hb.trans (hb5.mono hb.size)⟩

set_option maxHeartbeats 4000000 in
theorem refMoved195_any (a b : Int) (n : Nat) (w : World) (a0 : 0 ≤ a) (a1 : a < 4294967296) (b0 : 0 ≤ b) (b1 : b < 4294967296) (hn : b % 32 = (n : Int)) : Calls Try.prog 38 #[.int .u16 195, .int .u32 a, .int .u32 b] w fun e w' => e = .returned (.int .u32 (hB (mvB 195 (bt a) n) 32 0)) ∧ Below w.heap.size w w' := by
  have hn32 : n < 32 := by omega
  have HN := hide hn
  clear hn
  have hO := fun w => refOf_any13 (mvB 195 (bt a) n) (mvB_01 195 _ (is01_bt a) n) w
  go_enter Try.func38, Try.ntmps38
  go_wp2_with fail
  refine (refBits_any a w a0 a1).mono ?_
  rintro e w1 ⟨rfl, hb1⟩
  generalize hAR : (arr32 (bt a)).toArray = AR
  have HA := hide (ArrB.new w1 (fun _ => 0))
  rw [arr32_zero] at HA
  go_wp2_with (refine wpList_store32A rfl _ _ rfl _ _ (bt a) _ rfl rfl hAR HA.out ?_; intro w2 hA2 hg2)
  rw [HN.out]
  clear HN
  have HM := hide (MvK.start hb1 hA2 hg2)
  rw [arr32_zero] at HM
  clear HA hA2 hg2 hb1
  generalize hX : w2.heap.size = X at *
  generalize w1.heap.size = L at *
  generalize w2.alloc (.cells #[.int .u32 0, .int .u32 0, .int .u32 0, .int .u32 0, .int .u32 0, .int .u32 0, .int .u32 0, .int .u32 0, .int .u32 0, .int .u32 0, .int .u32 0, .int .u32 0, .int .u32 0, .int .u32 0, .int .u32 0, .int .u32 0, .int .u32 0, .int .u32 0, .int .u32 0, .int .u32 0, .int .u32 0, .int .u32 0, .int .u32 0, .int .u32 0, .int .u32 0, .int .u32 0, .int .u32 0, .int .u32 0, .int .u32 0, .int .u32 0, .int .u32 0, .int .u32 0] 37) = W3 at *
  clear hX hAR
  go_loopw [10] (fun i wr => ∃ k : Nat, k ≤ 32 ∧ i = .int .i64 k ∧ MvK w wr L X (bt a) (fun j => if j < k then mvB 195 (bt a) n j else 0)) (fun i _ => 32 - (intOf i).toNat)
  case atStart => exact ⟨0, by omega, rfl, HM.out.congr (fun k _ => by simp)⟩
  case round =>
    obtain ⟨k, hk, rfl, hM⟩ := hrel
    clear HM
    by_cases hlt : k < 32
    · have hki : (k : Int) < 32 := by omega
      have hcX := hM.2.2.2.1.cell k hlt
      have hfX := hM.2.2.2.1.frozen k
      have HL := hide (fun j (hj : j < 32) => hM.2.2.1.cell j hj)
      have HS := hide (fun v => hM.set k hlt v)
      have HM := hide hM
      clear hM
      have hn0 : (0 : Int) ≤ (n : Int) := by omega
      have hni : (n : Int) < 32 := by omega
      by_cases hh : k + n < 32
      · have hcL := HL.out (k + n) hh
        have ei : ((k : Int) + (n : Int)).toNat = k + n := by omega
        have hi1 : (k : Int) + (n : Int) < 32 := by omega
        have HV : Hid (bt a (k + n) = mvB 195 (bt a) n k) := by show _ = mvB _ _ _ _; simp [mvB, hh]
        have HLT := hide hlt
        clear hh hn0 hni HL HM hlt hk
        go_wp2
        go_roundw
        case rel =>
          have hs := (HS.out (mvB 195 (bt a) n k)).congr (upto_next (mvB 195 (bt a) n) k (mvB 195 (bt a) n k) rfl)
          rw [HV.out]
          exact ⟨k + 1, HLT.out, rfl, hs⟩
        case measure => exact meas32 HLT.out
      · have hi1 : 32 ≤ (k : Int) + (n : Int) := by omega
        have hcL := HL.out 31 (by omega)
        have HV : Hid (bt a 31 = mvB 195 (bt a) n k) := by show _ = mvB _ _ _ _; simp [mvB, hh]
        have HLT := hide hlt
        clear hh hn0 hni HL HM hlt hk
        go_wp2
        go_roundw
        case rel =>
          have hs := (HS.out (mvB 195 (bt a) n k)).congr (upto_next (mvB 195 (bt a) n) k (mvB 195 (bt a) n k) rfl)
          rw [HV.out]
          exact ⟨k + 1, HLT.out, rfl, hs⟩
        case measure => exact meas32 HLT.out
    · have e32 : k = 32 := by omega
      have HX := hide (hM.2.2.2.1.congr (g := mvB 195 (bt a) n) (fun j hj => by simp [show j < k by omega]))
      have hb := hM.2.2.2.2
      have hki : ¬ (k : Int) < 32 := by omega
      clear hM e32
      go_wp2_with (first | (refine wpList_load32A rfl _ rfl _ _ rfl HX.out ?_; intro AR2 hAR2))
      rw [hAR2] at hO
      refine (hO _).mono ?_
      rintro e w5 ⟨rfl, hb5⟩
      go_wp2
      go_ret
      exact ⟨rfl, hb.trans (hb5.mono hb.size)⟩

set_option maxHeartbeats 4000000 in
theorem refMoved196_any (a b : Int) (n : Nat) (w : World) (a0 : 0 ≤ a) (a1 : a < 4294967296) (b0 : 0 ≤ b) (b1 : b < 4294967296) (hn : b % 32 = (n : Int)) : Calls Try.prog 38 #[.int .u16 196, .int .u32 a, .int .u32 b] w fun e w' => e = .returned (.int .u32 (hB (mvB 196 (bt a) n) 32 0)) ∧ Below w.heap.size w w' := by
  have hn32 : n < 32 := by omega
  have HN := hide hn
  clear hn
  have hO := fun w => refOf_any13 (mvB 196 (bt a) n) (mvB_01 196 _ (is01_bt a) n) w
  go_enter Try.func38, Try.ntmps38
  go_wp2_with fail
  refine (refBits_any a w a0 a1).mono ?_
  rintro e w1 ⟨rfl, hb1⟩
  generalize hAR : (arr32 (bt a)).toArray = AR
  have HA := hide (ArrB.new w1 (fun _ => 0))
  rw [arr32_zero] at HA
  go_wp2_with (refine wpList_store32A rfl _ _ rfl _ _ (bt a) _ rfl rfl hAR HA.out ?_; intro w2 hA2 hg2)
  rw [HN.out]
  clear HN
  have HM := hide (MvK.start hb1 hA2 hg2)
  rw [arr32_zero] at HM
  clear HA hA2 hg2 hb1
  generalize hX : w2.heap.size = X at *
  generalize w1.heap.size = L at *
  generalize w2.alloc (.cells #[.int .u32 0, .int .u32 0, .int .u32 0, .int .u32 0, .int .u32 0, .int .u32 0, .int .u32 0, .int .u32 0, .int .u32 0, .int .u32 0, .int .u32 0, .int .u32 0, .int .u32 0, .int .u32 0, .int .u32 0, .int .u32 0, .int .u32 0, .int .u32 0, .int .u32 0, .int .u32 0, .int .u32 0, .int .u32 0, .int .u32 0, .int .u32 0, .int .u32 0, .int .u32 0, .int .u32 0, .int .u32 0, .int .u32 0, .int .u32 0, .int .u32 0, .int .u32 0] 37) = W3 at *
  clear hX hAR
  go_loopw [10] (fun i wr => ∃ k : Nat, k ≤ 32 ∧ i = .int .i64 k ∧ MvK w wr L X (bt a) (fun j => if j < k then mvB 196 (bt a) n j else 0)) (fun i _ => 32 - (intOf i).toNat)
  case atStart => exact ⟨0, by omega, rfl, HM.out.congr (fun k _ => by simp)⟩
  case round =>
    obtain ⟨k, hk, rfl, hM⟩ := hrel
    clear HM
    by_cases hlt : k < 32
    · have hki : (k : Int) < 32 := by omega
      have hcX := hM.2.2.2.1.cell k hlt
      have hfX := hM.2.2.2.1.frozen k
      have HL := hide (fun j (hj : j < 32) => hM.2.2.1.cell j hj)
      have HS := hide (fun v => hM.set k hlt v)
      have HM := hide hM
      clear hM
      have hn0 : (0 : Int) ≤ (n : Int) := by omega
      have hni : (n : Int) < 32 := by omega
      by_cases hh : n ≤ k
      · have hcL := HL.out (k - n) (by omega)
        have ei : ((k : Int) - (n : Int)).toNat = k - n := by omega
        have hi1 : (k : Int) - (n : Int) < 32 := by omega
        have hi0 : 0 ≤ (k : Int) - (n : Int) := by omega
        have HV : Hid (bt a (k - n) = mvB 196 (bt a) n k) := by show _ = mvB _ _ _ _; simp [mvB, hh]
        have HLT := hide hlt
        clear hh hn0 hni HL HM hlt hk
        go_wp2
        go_roundw
        case rel =>
          have hs := (HS.out (mvB 196 (bt a) n k)).congr (upto_next (mvB 196 (bt a) n) k (mvB 196 (bt a) n k) rfl)
          rw [HV.out]
          exact ⟨k + 1, HLT.out, rfl, hs⟩
        case measure => exact meas32 HLT.out
      · have hi0 : (k : Int) - (n : Int) < 0 := by omega
        have HV : Hid (mvB 196 (bt a) n k = 0) := by show mvB _ _ _ _ = 0; simp [mvB, hh]
        have HLT := hide hlt
        clear hh hn0 hni hcX hfX HL HS hlt hk
        go_wp2
        exact ⟨⟨k + 1, HLT.out, rfl, HM.out.congr (upto_skip (mvB 196 (bt a) n) k HV.out)⟩, meas32 HLT.out⟩
    · have e32 : k = 32 := by omega
      have HX := hide (hM.2.2.2.1.congr (g := mvB 196 (bt a) n) (fun j hj => by simp [show j < k by omega]))
      have hb := hM.2.2.2.2
      have hki : ¬ (k : Int) < 32 := by omega
      clear hM e32
      go_wp2_with (first | (refine wpList_load32A rfl _ rfl _ _ rfl HX.out ?_; intro AR2 hAR2))
      rw [hAR2] at hO
      refine (hO _).mono ?_
      rintro e w5 ⟨rfl, hb5⟩
      go_wp2
      go_ret
      exact ⟨rfl, hb.trans (hb5.mono hb.size)⟩

end Go.Proofs.Ytbhoimeneekdfaa
