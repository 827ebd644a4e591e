/-
  The document's bitwise: bit by bit.
-/
import Derived.WalkSpells
import Derived.WalkMore
import Derived.Deep.MidRow
import Derived.BigRegion
import Derived.BigQuiet
import Derived.Test.YtbhoimeneekdfaaRef13Moved
import Derived.Test.YtbhoimeneekdfaaRef13Small
namespace Go.Proofs.Ytbhoimeneekdfaa
open Go.RowKit
set_option linter.unusedVariables false
set_option linter.unusedSimpArgs false
set_option maxRecDepth 10000

/-- The bits of two words, put together. -/
def bwP (op x y : Int) : Bool := if op = 197 then decide (0 < x + y) else if op = 198 then x + y == 1 else x + y == 2
def bwB (op : Int) (f g : Nat → Int) (j : Nat) : Int := b2i (bwP op (f j) (g j))
theorem bwB_01 (op : Int) (f g : Nat → Int) : Is01 (bwB op f g) := by
  intro j
  unfold bwB b2i
  split
  · exact .inr rfl
  · exact .inl rfl
def BwK (w wr : World) (L M X : Nat) (f g h : Nat → Int) : Prop := w.heap.size ≤ L ∧ L < M ∧ M < X ∧ ArrB wr L f ∧ ArrB wr M g ∧ ArrB wr X h ∧ Below w.heap.size w wr
theorem BwK.set {w wr : World} {L M X : Nat} {f g h : Nat → Int} (q : BwK w wr L M X f g h) (k : Nat) (hk : k < 32) (v : Int) : BwK w (wr.setCell ⟨X, k, none⟩ (.int .u32 v)) L M X f g (fun j => if j = k then v else h j) := by
  obtain ⟨h1, h2, h3, h4, h5, h6, h7⟩ := q
  exact ⟨h1, h2, h3, h4.other (Below.heap_setCell _ _ _ _ (by simp; omega)), h5.other (Below.heap_setCell _ _ _ _ (by simp; omega)), h6.set k hk v, h7.setCell (by simp; omega) _⟩
theorem BwK.congr {w wr : World} {L M X : Nat} {f g h h' : Nat → Int} (q : BwK w wr L M X f g h) (e : ∀ k, k < 32 → h k = h' k) : BwK w wr L M X f g h' := ⟨q.1, q.2.1, q.2.2.1, q.2.2.2.1, q.2.2.2.2.1, q.2.2.2.2.2.1.congr e, q.2.2.2.2.2.2⟩
theorem drewN_heap13 (w : World) : ∀ q, (w.drewN q).heap = w.heap
  | 0 => rfl
  | q + 1 => by show (w.drew.drewN q).heap = _; rw [drewN_heap13 w.drew q]; rfl
theorem BwK.drewN {w wr : World} {L M X : Nat} {f g h : Nat → Int} (p : BwK w wr L M X f g h) (q : Nat) : BwK w (wr.drewN q) L M X f g h := by
  obtain ⟨h1, h2, h3, h4, h5, h6, h7⟩ := p
  have e : ∀ b : Nat, (wr.drewN q).heap[b]? = wr.heap[b]? := fun b => by rw [drewN_heap13]
  exact ⟨h1, h2, h3, h4.other (e L), h5.other (e M), h6.other (e X), bel_drewN h7 q⟩
/-- A new row behind a call. -/
theorem arr_next {w w1 w2 : World} {f : Nat → Int} {o : Obj} (hb1 : Below w.heap.size w w1) (hA : ArrB w2 w1.heap.size f) (hg : (w1.alloc o).grownBy w2 (some w1.heap.size)) : Below w.heap.size w w2 ∧ Below w1.heap.size w1 w2 := by
  constructor
  · exact (hb1.alloc hb1.size o).grown hg (by simp; have := hb1.size; omega) (fun k e => by cases e; exact hb1.size)
  · exact ((Below.refl _ w1).alloc (Nat.le_refl _) o).grown hg (by simp) (fun k e => by cases e; exact Nat.le_refl _)

set_option maxHeartbeats 4000000 in
theorem refBitwise197_any (a b : Int) (w : World) (a0 : 0 ≤ a) (a1 : a < 4294967296) (b0 : 0 ≤ b) (b1 : b < 4294967296) : Calls Try.prog 39 #[.int .u16 197, .int .u32 a, .int .u32 b] w fun e w' => e = .returned (.int .u32 (hB (bwB 197 (bt a) (bt b)) 32 0)) ∧ Below w.heap.size w w' := by
  have hO := fun w => refOf_any13 (bwB 197 (bt a) (bt b)) (bwB_01 197 _ _) w
  have hT := refTruth_any
  go_enter Try.func39, Try.ntmps39
  go_wp2_with fail
  refine (refBits_any a w a0 a1).mono ?_
  rintro e w1 ⟨rfl, hb1⟩
  generalize hAR : (arr32 (bt a)).toArray = AR
  have HA := hide (ArrB.new w1 (fun _ => 0))
  rw [arr32_zero] at HA
  go_wp2_with (first | fail | (refine wpList_store32A rfl _ _ rfl _ _ (bt a) _ rfl rfl hAR HA.out ?_; intro w2 hA2 hg2))
  refine (refBits_any b w2 b0 b1).mono ?_
  rintro e w3 ⟨rfl, hb3⟩
  generalize hBR : (arr32 (bt b)).toArray = BR
  obtain ⟨hb2, hb12⟩ := arr_next hb1 hA2 hg2
  clear hg2 HA
  have HA := hide (ArrB.new w3 (fun _ => 0))
  rw [arr32_zero] at HA
  go_wp2_with (first | fail | (refine wpList_store32A rfl _ _ rfl _ _ (bt b) _ rfl rfl hBR HA.out ?_; intro w4 hA4 hg4))
  have hb03 : Below w.heap.size w w3 := hb2.trans (hb3.mono hb2.size)
  obtain ⟨hb4, hb34⟩ := arr_next hb03 hA4 hg4
  have HM : Hid (BwK w (w4.alloc (.cells (arr32 fun _ => 0).toArray 37)) w1.heap.size w3.heap.size w4.heap.size (bt a) (bt b) (fun _ => 0)) := by
    have e1 := hA2.lt
    have e2 := hb3.size
    exact ⟨hb1.size, by omega, hA4.lt, ((hA2.below hb3).below hb34).below ((Below.refl _ _).alloc (Nat.le_refl _) _), hA4.below ((Below.refl _ _).alloc (Nat.le_refl _) _), ArrB.new w4 _, hb4.alloc hb4.size _⟩
  rw [arr32_zero] at HM
  clear HA hA2 hA4 hg4 hb1 hb2 hb12 hb3 hb03 hb4 hb34
  generalize w4.heap.size = X at *
  generalize w3.heap.size = M at *
  generalize w1.heap.size = L at *
  generalize w4.alloc (.cells #[.int .u32 0, .int .u32 0, .int .u32 0, .int .u32 0, .int .u32 0, .int .u32 0, .int .u32 0, .int .u32 0, .int .u32 0, .int .u32 0, .int .u32 0, .int .u32 0, .int .u32 0, .int .u32 0, .int .u32 0, .int .u32 0, .int .u32 0, .int .u32 0, .int .u32 0, .int .u32 0, .int .u32 0, .int .u32 0, .int .u32 0, .int .u32 0, .int .u32 0, .int .u32 0, .int .u32 0, .int .u32 0, .int .u32 0, .int .u32 0, .int .u32 0, .int .u32 0] 37) = W5 at *
  clear hBR hAR
  go_loopw [10] (fun i wr => ∃ k : Nat, k ≤ 32 ∧ i = .int .i64 k ∧ BwK w wr L M X (bt a) (bt b) (fun j => if j < k then bwB 197 (bt a) (bt b) j else 0)) (fun i _ => 32 - (intOf i).toNat)
  case atStart => exact ⟨0, by omega, rfl, HM.out.congr (fun k _ => by simp)⟩
  case round =>
    obtain ⟨k, hk, rfl, hM⟩ := hrel
    clear HM
    by_cases hlt : k < 32
    · have hki : (k : Int) < 32 := by omega
      have hcX := hM.2.2.2.2.2.1.cell k hlt
      have hfX := hM.2.2.2.2.2.1.frozen k
      have hcL := hM.2.2.2.1.cell k hlt
      have hcM := hM.2.2.2.2.1.cell k hlt
      have HSv : Hid (∀ (q : Nat) (v : Int), v = bwB 197 (bt a) (bt b) k → BwK w ((wr.drewN q).setCell ⟨X, k, none⟩ (.int .u32 v)) L M X (bt a) (bt b) (fun j => if j < k + 1 then bwB 197 (bt a) (bt b) j else 0)) := fun q v hv => ((hM.drewN q).set k hlt v).congr (upto_next (bwB 197 (bt a) (bt b)) k v hv)
      have HV : Hid (b2i (bwP 197 (bt a k) (bt b k)) = bwB 197 (bt a) (bt b) k) := rfl
      have hx := bt_lo a k
      have hx2 := bt_hi a k
      have hy := bt_lo b k
      have hy2 := bt_hi b k
      have hs : bt a k + bt b k < 4294967296 := by omega
      have HLT := hide hlt
      clear hM hlt hk
      generalize bt a k = x at *
      generalize bt b k = y at *
      go_wp2_with fail
      go_quiet (fail)
      go_wp2_with (go_at_call 16; refine (hT _ _).mono ?_; rintro e w' ⟨rfl, rfl⟩)
      all_goals refine ⟨⟨k + 1, HLT.out, rfl, HSv.out _ _ ?_⟩, meas32 HLT.out⟩
      all_goals first | exact HV.out | (refine Eq.trans ?_ HV.out; congr 1; simp [bwP]; omega)
    · have e32 : k = 32 := by omega
      have HX := hide (hM.2.2.2.2.2.1.congr (g := bwB 197 (bt a) (bt b)) (fun j hj => by simp [show j < k by omega]))
      have hb := hM.2.2.2.2.2.2
      have hki : ¬ (k : Int) < 32 := by omega
      clear hM e32 hT
      go_wp2_with (first | (refine wpList_load32A rfl _ rfl _ _ rfl HX.out ?_; intro AR2 hAR2))
      rw [hAR2] at hO
      refine (hO _).mono ?_
      rintro e w5 ⟨rfl, hb5⟩
      go_wp2
      go_ret
      exact ⟨rfl, hb.trans (hb5.mono hb.size)⟩

set_option maxHeartbeats 4000000 in
theorem refBitwise198_any (a b : Int) (w : World) (a0 : 0 ≤ a) (a1 : a < 4294967296) (b0 : 0 ≤ b) (b1 : b < 4294967296) : Calls Try.prog 39 #[.int .u16 198, .int .u32 a, .int .u32 b] w fun e w' => e = .returned (.int .u32 (hB (bwB 198 (bt a) (bt b)) 32 0)) ∧ Below w.heap.size w w' := by
  have hO := fun w => refOf_any13 (bwB 198 (bt a) (bt b)) (bwB_01 198 _ _) w
  have hT := refTruth_any
  go_enter Try.func39, Try.ntmps39
  go_wp2_with fail
  refine (refBits_any a w a0 a1).mono ?_
  rintro e w1 ⟨rfl, hb1⟩
  generalize hAR : (arr32 (bt a)).toArray = AR
  have HA := hide (ArrB.new w1 (fun _ => 0))
  rw [arr32_zero] at HA
  go_wp2_with (first | fail | (refine wpList_store32A rfl _ _ rfl _ _ (bt a) _ rfl rfl hAR HA.out ?_; intro w2 hA2 hg2))
  refine (refBits_any b w2 b0 b1).mono ?_
  rintro e w3 ⟨rfl, hb3⟩
  generalize hBR : (arr32 (bt b)).toArray = BR
  obtain ⟨hb2, hb12⟩ := arr_next hb1 hA2 hg2
  clear hg2 HA
  have HA := hide (ArrB.new w3 (fun _ => 0))
  rw [arr32_zero] at HA
  go_wp2_with (first | fail | (refine wpList_store32A rfl _ _ rfl _ _ (bt b) _ rfl rfl hBR HA.out ?_; intro w4 hA4 hg4))
  have hb03 : Below w.heap.size w w3 := hb2.trans (hb3.mono hb2.size)
  obtain ⟨hb4, hb34⟩ := arr_next hb03 hA4 hg4
  have HM : Hid (BwK w (w4.alloc (.cells (arr32 fun _ => 0).toArray 37)) w1.heap.size w3.heap.size w4.heap.size (bt a) (bt b) (fun _ => 0)) := by
    have e1 := hA2.lt
    have e2 := hb3.size
    exact ⟨hb1.size, by omega, hA4.lt, ((hA2.below hb3).below hb34).below ((Below.refl _ _).alloc (Nat.le_refl _) _), hA4.below ((Below.refl _ _).alloc (Nat.le_refl _) _), ArrB.new w4 _, hb4.alloc hb4.size _⟩
  rw [arr32_zero] at HM
  clear HA hA2 hA4 hg4 hb1 hb2 hb12 hb3 hb03 hb4 hb34
  generalize w4.heap.size = X at *
  generalize w3.heap.size = M at *
  generalize w1.heap.size = L at *
  generalize w4.alloc (.cells #[.int .u32 0, .int .u32 0, .int .u32 0, .int .u32 0, .int .u32 0, .int .u32 0, .int .u32 0, .int .u32 0, .int .u32 0, .int .u32 0, .int .u32 0, .int .u32 0, .int .u32 0, .int .u32 0, .int .u32 0, .int .u32 0, .int .u32 0, .int .u32 0, .int .u32 0, .int .u32 0, .int .u32 0, .int .u32 0, .int .u32 0, .int .u32 0, .int .u32 0, .int .u32 0, .int .u32 0, .int .u32 0, .int .u32 0, .int .u32 0, .int .u32 0, .int .u32 0] 37) = W5 at *
  clear hBR hAR
  go_loopw [10] (fun i wr => ∃ k : Nat, k ≤ 32 ∧ i = .int .i64 k ∧ BwK w wr L M X (bt a) (bt b) (fun j => if j < k then bwB 198 (bt a) (bt b) j else 0)) (fun i _ => 32 - (intOf i).toNat)
  case atStart => exact ⟨0, by omega, rfl, HM.out.congr (fun k _ => by simp)⟩
  case round =>
    obtain ⟨k, hk, rfl, hM⟩ := hrel
    clear HM
    by_cases hlt : k < 32
    · have hki : (k : Int) < 32 := by omega
      have hcX := hM.2.2.2.2.2.1.cell k hlt
      have hfX := hM.2.2.2.2.2.1.frozen k
      have hcL := hM.2.2.2.1.cell k hlt
      have hcM := hM.2.2.2.2.1.cell k hlt
      have HSv : Hid (∀ (q : Nat) (v : Int), v = bwB 198 (bt a) (bt b) k → BwK w ((wr.drewN q).setCell ⟨X, k, none⟩ (.int .u32 v)) L M X (bt a) (bt b) (fun j => if j < k + 1 then bwB 198 (bt a) (bt b) j else 0)) := fun q v hv => ((hM.drewN q).set k hlt v).congr (upto_next (bwB 198 (bt a) (bt b)) k v hv)
      have HV : Hid (b2i (bwP 198 (bt a k) (bt b k)) = bwB 198 (bt a) (bt b) k) := rfl
      have hx := bt_lo a k
      have hx2 := bt_hi a k
      have hy := bt_lo b k
      have hy2 := bt_hi b k
      have hs : bt a k + bt b k < 4294967296 := by omega
      have HLT := hide hlt
      clear hM hlt hk
      generalize bt a k = x at *
      generalize bt b k = y at *
      go_wp2_with fail
      go_quiet (fail)
      go_wp2_with (go_at_call 16; refine (hT _ _).mono ?_; rintro e w' ⟨rfl, rfl⟩)
      all_goals refine ⟨⟨k + 1, HLT.out, rfl, HSv.out _ _ ?_⟩, meas32 HLT.out⟩
      all_goals first | exact HV.out | (refine Eq.trans ?_ HV.out; congr 1; simp [bwP]; omega)
    · have e32 : k = 32 := by omega
      have HX := hide (hM.2.2.2.2.2.1.congr (g := bwB 198 (bt a) (bt b)) (fun j hj => by simp [show j < k by omega]))
      have hb := hM.2.2.2.2.2.2
      have hki : ¬ (k : Int) < 32 := by omega
      clear hM e32 hT
      go_wp2_with (first | (refine wpList_load32A rfl _ rfl _ _ rfl HX.out ?_; intro AR2 hAR2))
      rw [hAR2] at hO
      refine (hO _).mono ?_
      rintro e w5 ⟨rfl, hb5⟩
      go_wp2
      go_ret
      exact ⟨rfl, hb.trans (hb5.mono hb.size)⟩

set_option maxHeartbeats 4000000 in
theorem refBitwise199_any (a b : Int) (w : World) (a0 : 0 ≤ a) (a1 : a < 4294967296) (b0 : 0 ≤ b) (b1 : b < 4294967296) : Calls Try.prog 39 #[.int .u16 199, .int .u32 a, .int .u32 b] w fun e w' => e = .returned (.int .u32 (hB (bwB 199 (bt a) (bt b)) 32 0)) ∧ Below w.heap.size w w' := by
  have hO := fun w => refOf_any13 (bwB 199 (bt a) (bt b)) (bwB_01 199 _ _) w
  have hT := refTruth_any
  go_enter Try.func39, Try.ntmps39
  go_wp2_with fail
  refine (refBits_any a w a0 a1).mono ?_
  rintro e w1 ⟨rfl, hb1⟩
  generalize hAR : (arr32 (bt a)).toArray = AR
  have HA := hide (ArrB.new w1 (fun _ => 0))
  rw [arr32_zero] at HA
  go_wp2_with (first | fail | (refine wpList_store32A rfl _ _ rfl _ _ (bt a) _ rfl rfl hAR HA.out ?_; intro w2 hA2 hg2))
  refine (refBits_any b w2 b0 b1).mono ?_
  rintro e w3 ⟨rfl, hb3⟩
  generalize hBR : (arr32 (bt b)).toArray = BR
  obtain ⟨hb2, hb12⟩ := arr_next hb1 hA2 hg2
  clear hg2 HA
  have HA := hide (ArrB.new w3 (fun _ => 0))
  rw [arr32_zero] at HA
  go_wp2_with (first | fail | (refine wpList_store32A rfl _ _ rfl _ _ (bt b) _ rfl rfl hBR HA.out ?_; intro w4 hA4 hg4))
  have hb03 : Below w.heap.size w w3 := hb2.trans (hb3.mono hb2.size)
  obtain ⟨hb4, hb34⟩ := arr_next hb03 hA4 hg4
  have HM : Hid (BwK w (w4.alloc (.cells (arr32 fun _ => 0).toArray 37)) w1.heap.size w3.heap.size w4.heap.size (bt a) (bt b) (fun _ => 0)) := by
    have e1 := hA2.lt
    have e2 := hb3.size
    exact ⟨hb1.size, by omega, hA4.lt, ((hA2.below hb3).below hb34).below ((Below.refl _ _).alloc (Nat.le_refl _) _), hA4.below ((Below.refl _ _).alloc (Nat.le_refl _) _), ArrB.new w4 _, hb4.alloc hb4.size _⟩
  rw [arr32_zero] at HM
  clear HA hA2 hA4 hg4 hb1 hb2 hb12 hb3 hb03 hb4 hb34
  generalize w4.heap.size = X at *
  generalize w3.heap.size = M at *
  generalize w1.heap.size = L at *
  generalize w4.alloc (.cells #[.int .u32 0, .int .u32 0, .int .u32 0, .int .u32 0, .int .u32 0, .int .u32 0, .int .u32 0, .int .u32 0, .int .u32 0, .int .u32 0, .int .u32 0, .int .u32 0, .int .u32 0, .int .u32 0, .int .u32 0, .int .u32 0, .int .u32 0, .int .u32 0, .int .u32 0, .int .u32 0, .int .u32 0, .int .u32 0, .int .u32 0, .int .u32 0, .int .u32 0, .int .u32 0, .int .u32 0, .int .u32 0, .int .u32 0, .int .u32 0, .int .u32 0, .int .u32 0] 37) = W5 at *
  clear hBR hAR
  go_loopw [10] (fun i wr => ∃ k : Nat, k ≤ 32 ∧ i = .int .i64 k ∧ BwK w wr L M X (bt a) (bt b) (fun j => if j < k then bwB 199 (bt a) (bt b) j else 0)) (fun i _ => 32 - (intOf i).toNat)
  case atStart => exact ⟨0, by omega, rfl, HM.out.congr (fun k _ => by simp)⟩
  case round =>
    obtain ⟨k, hk, rfl, hM⟩ := hrel
    clear HM
    by_cases hlt : k < 32
    · have hki : (k : Int) < 32 := by omega
      have hcX := hM.2.2.2.2.2.1.cell k hlt
      have hfX := hM.2.2.2.2.2.1.frozen k
      have hcL := hM.2.2.2.1.cell k hlt
      have hcM := hM.2.2.2.2.1.cell k hlt
      have HSv : Hid (∀ (q : Nat) (v : Int), v = bwB 199 (bt a) (bt b) k → BwK w ((wr.drewN q).setCell ⟨X, k, none⟩ (.int .u32 v)) L M X (bt a) (bt b) (fun j => if j < k + 1 then bwB 199 (bt a) (bt b) j else 0)) := fun q v hv => ((hM.drewN q).set k hlt v).congr (upto_next (bwB 199 (bt a) (bt b)) k v hv)
      have HV : Hid (b2i (bwP 199 (bt a k) (bt b k)) = bwB 199 (bt a) (bt b) k) := rfl
      have hx := bt_lo a k
      have hx2 := bt_hi a k
      have hy := bt_lo b k
      have hy2 := bt_hi b k
      have hs : bt a k + bt b k < 4294967296 := by omega
      have HLT := hide hlt
      clear hM hlt hk
      generalize bt a k = x at *
      generalize bt b k = y at *
      go_wp2_with fail
      go_quiet (fail)
      go_wp2_with (go_at_call 16; refine (hT _ _).mono ?_; rintro e w' ⟨rfl, rfl⟩)
      all_goals refine ⟨⟨k + 1, HLT.out, rfl, HSv.out _ _ ?_⟩, meas32 HLT.out⟩
      all_goals first | exact HV.out | (refine Eq.trans ?_ HV.out; congr 1; simp [bwP]; omega)
    · have e32 : k = 32 := by omega
      have HX := hide (hM.2.2.2.2.2.1.congr (g := bwB 199 (bt a) (bt b)) (fun j hj => by simp [show j < k by omega]))
      have hb := hM.2.2.2.2.2.2
      have hki : ¬ (k : Int) < 32 := by omega
      clear hM e32 hT
      go_wp2_with (first | (refine wpList_load32A rfl _ rfl _ _ rfl HX.out ?_; intro AR2 hAR2))
      rw [hAR2] at hO
      refine (hO _).mono ?_
      rintro e w5 ⟨rfl, hb5⟩
      go_wp2
      go_ret
      exact ⟨rfl, hb.trans (hb5.mono hb.size)⟩

end Go.Proofs.Ytbhoimeneekdfaa
