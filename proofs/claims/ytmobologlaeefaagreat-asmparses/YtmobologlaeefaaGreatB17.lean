/-
  Texts laid together in one: Ref04Wrong, Ref07Arg, Ref07Argument, Ref07Argument2, Cut, Ref01Split, Ref01OfText, Ref04Room, Ref04Fault, Ref03Fits, Ref07Line0.
-/
import Derived.WalkSpells
import Derived.WalkMore
import Derived.Deep.QuietTactic
import Derived.BigQuiet
import Derived.Test.YtmobologlaeefaaGreatProg
import Derived.Test.YtmobologlaeefaaGreatB01
import Derived.Test.YtmobologlaeefaaGreatB05
import Derived.Test.YtmobologlaeefaaGreatB04
import Derived.BigRegion
import Derived.Test.YtmobologlaeefaaGreatB15
import Derived.Test.YtmobologlaeefaaGreatB06
import Derived.Test.YtmobologlaeefaaGreatB07
import Derived.WalkKit
import Derived.Deep.RegionHeld3
import Derived.Deep.DrawnRows
import Derived.Test.YtmobologlaeefaaGreatB02
import Derived.Test.YtmobologlaeefaaGreatB03
import Derived.Deep.RegionWith
import Derived.Deep.RegionHeld2
import Derived.RangeFuncNested
import Derived.OwnWalkIn
import Derived.TacticsInMore
import Derived.Test.YtmobologlaeefaaGreatB13
import Derived.Test.YtmobologlaeefaaGreatB16
/-
  What Wrong of the document's answer returns: what is wrong with an argument that stands where a letter is.
-/
namespace Go.Proofs.YtmobologlaeefaaGreat
open Go.RowKit
set_option linter.unusedVariables false
set_option linter.unusedSimpArgs false
set_option maxRecDepth 10000

theorem nul_first {s : ByteArray} {k : Nat} (hk : k < s.size) (h : (s[k].toNat : Int) = 0) : nulS s = true := by
  cases e : nulS s with
  | true => rfl
  | false => exact absurd (by rw [nth_strI s k hk]; exact h) ((nulS_false.1 e) k hk)
theorem nul_not {s : ByteArray} (h : ∀ j, (hj : j < s.size) → (s[j].toNat : Int) ≠ 0) : nulS s = false := nulS_false.2 fun k hk => by rw [nth_strI s k hk]; exact h k hk

end Go.Proofs.YtmobologlaeefaaGreat

/-
  The document's answer for an id and an argument of a line, of layer 7.
-/
namespace Go.Proofs.YtmobologlaeefaaGreat
open Go.RowKit
set_option linter.unusedVariables false
set_option linter.unusedSimpArgs false
set_option maxRecDepth 10000

set_option maxHeartbeats 2000000 in
/-- Of plain digits: what is wrong with them as an id, and the id. -/
theorem refId7_any (s : ByteArray) (b : Int) (w : World) (hp : plainB (strI s) = true) (hs : s.size ≤ 140737488351232) (hb0 : 0 ≤ b) (hb1 : b < 4294967296) :
    Calls Tryz.prog 51 #[.string s, .int .u32 b] w fun e w' => e = .returned (.tuple #[.int .u32 (numV (strI s)), .bool (decide (idP s b = 0))]) ∧ w = w' := by
  obtain ⟨q1, q2⟩ := plain_num hp
  have hB := num_bounds q1
  have hP := refPlain_any s w hs
  have hid : decide (idP s b = 0) = (decide (1 ≤ numV (strI s)) && decide (numV (strI s) < b)) := by
    unfold idP
    rw [if_neg (by rw [q1]; simp)]
    by_cases h : numV (strI s) = 0 ∨ b ≤ numV (strI s)
    · rw [if_pos h]
      rcases h with h | h
      · simp [h]
      · simp; omega
    · rw [if_neg h]
      simp; omega
  rw [hid]
  rw [hp, ← q2] at hP
  clear hid hp q1 q2
  generalize numV (strI s) = z at *
  have hw1 : IntKind.u32.wrap z = z := by rw [IntKind.wrap_u32]; omega
  have hw2 : IntKind.u64.wrap b = b := by rw [IntKind.wrap_u64]; omega
  by_cases h1 : 1 ≤ z
  · have h1' : decide (1 ≤ z) = true := by simpa using h1
    rw [h1', Bool.true_and]
    clear hB h1
    generalize hd : decide (z < b) = d
    go_enter Tryz.func51, Tryz.ntmps51
    go_wp2_with fail
    refine hP.mono ?_
    rintro e w1 ⟨⟨x, rfl, hx0, hx1⟩, rfl⟩
    have hx := hx1 trivial
    obtain ⟨hx3, hx2⟩ := hx
    subst hx3
    clear hP hx0 hx1 hx2
    go_wp2
    refine bodyPost_ret (v := .tuple #[.int .u32 x, .bool d]) ?_ rfl ⟨rfl, rfl⟩
    simp [results, Tryz.results51, go_sem, hd]
  · have h1' : decide (1 ≤ z) = false := by simpa using h1
    rw [h1', Bool.false_and]
    clear hB h1
    go_enter Tryz.func51, Tryz.ntmps51
    go_wp2_with fail
    refine hP.mono ?_
    rintro e w1 ⟨⟨x, rfl, hx0, hx1⟩, rfl⟩
    have hx := hx1 trivial
    obtain ⟨hx3, hx2⟩ := hx
    subst hx3
    clear hP hx0 hx1 hx2
    go_wp2
    refine bodyPost_ret (v := .tuple #[.int .u32 x, .bool false]) ?_ rfl ⟨rfl, rfl⟩
    simp [results, Tryz.results51, go_sem]

def kindW (c : Int) : Int := if c = 105 then 2 else if c = 110 then 3 else if c = 115 then 4 else 1
theorem kindW_take {c : Int} (h : kindI c ≠ 0) : kindW c = takeK c := by
  have := kindI_most c
  unfold kindW takeK
  unfold kindI at *
  by_cases h1 : c = 105
  · simp [h1]
  · by_cases h2 : c = 110
    · simp [h2]
    · by_cases h3 : c = 115
      · simp [h3]
      · rw [if_neg h1, if_neg h2, if_neg h3] at h ⊢
        have h4 : (namesT.find? (isLet c)).isSome = true := by
          cases e : (namesT.find? (isLet c)).isSome with
          | true => rfl
          | false => rw [e] at h; simp at h
        simp [h1, h2, h3, h4]
set_option maxHeartbeats 1000000 in
theorem refKind7_any (c : Int) (w : World) : Calls Tryz.prog 93 #[.int .u8 c] w fun e w' => e = .returned (.int .u8 (kindW c)) ∧ w = w' := by
  by_cases h1 : c = 105
  · subst h1
    go_enter Tryz.func93, Tryz.ntmps93
    go_wp2
    go_ret
    exact ⟨rfl, rfl⟩
  · by_cases h2 : c = 110
    · subst h2
      go_enter Tryz.func93, Tryz.ntmps93
      go_wp2
      go_ret
      exact ⟨rfl, rfl⟩
    · by_cases h3 : c = 115
      · subst h3
        go_enter Tryz.func93, Tryz.ntmps93
        go_wp2
        go_ret
        exact ⟨rfl, rfl⟩
      · have e : kindW c = 1 := by unfold kindW; simp [h1, h2, h3]
        rw [e]
        have h1' : (c == 105) = false := by simpa using h1
        have h2' : (c == 110) = false := by simpa using h2
        have h3' : (c == 115) = false := by simpa using h3
        clear h1 h2 h3 e
        go_enter Tryz.func93, Tryz.ntmps93
        go_wp2
        go_ret
        exact ⟨rfl, rfl⟩

end Go.Proofs.YtmobologlaeefaaGreat

/-
  The document's answer for an argument of a line, of layer 7.
-/
namespace Go.Proofs.YtmobologlaeefaaGreat
open Go.RowKit
set_option linter.unusedVariables false
set_option linter.unusedSimpArgs false
set_option maxRecDepth 10000

/-- The boxes of the token and of the argument. -/
theorem tok_arg_boxes (w : World) (t1 t3 : Int) (t2 : ByteArray) : ((w.alloc (.cells #[.int .u8 t1, .string t2, .int .i64 t3] 102)).alloc (.cells #[.int .u8 0, .int .u32 0, .string ⟨#[]⟩] 81)).heap[w.heap.size]? = some (.cells #[.int .u8 t1, .string t2, .int .i64 t3] 102 (0, 0)) ∧ ((w.alloc (.cells #[.int .u8 t1, .string t2, .int .i64 t3] 102)).alloc (.cells #[.int .u8 0, .int .u32 0, .string ⟨#[]⟩] 81)).heap[w.heap.size + 1]? = some (.cells #[.int .u8 0, .int .u32 0, .string ⟨#[]⟩] 81 (0, 0)) ∧ Below w.heap.size w ((w.alloc (.cells #[.int .u8 t1, .string t2, .int .i64 t3] 102)).alloc (.cells #[.int .u8 0, .int .u32 0, .string ⟨#[]⟩] 81)) :=
  ⟨(Below.heap_alloc _ _ _ (by simp)).trans (heap_alloc_new w _), by simpa using heap_alloc_new (w.alloc (.cells #[.int .u8 t1, .string t2, .int .i64 t3] 102)) (.cells #[.int .u8 0, .int .u32 0, .string ⟨#[]⟩] 81), ((Below.refl _ w).alloc (Nat.le_refl _) _).alloc (by simp) _⟩

/-- What lies in both boxes. -/
structure ArgB (w : World) (t1 t3 : Int) (t2 : ByteArray) (W : World) : Prop where
  tok : W.heap[w.heap.size]? = some (.cells #[.int .u8 t1, .string t2, .int .i64 t3] 102 (0, 0))
  arg : W.heap[w.heap.size + 1]? = some (.cells #[.int .u8 0, .int .u32 0, .string ⟨#[]⟩] 81 (0, 0))
  bel : Below w.heap.size w W
theorem ArgB.below {w W W' : World} {t1 t3 : Int} {t2 : ByteArray} (h : ArgB w t1 t3 t2 W) (hb : Below W.heap.size W W') : ArgB w t1 t3 t2 W' := by
  have s := (Array.getElem?_eq_some_iff.1 h.arg).1
  exact ⟨(hb.block _ (by omega)).trans h.tok, (hb.block _ s).trans h.arg, h.bel.trans (hb.mono h.bel.size)⟩
theorem ArgB.cells {w W : World} {t1 t3 : Int} {t2 : ByteArray} (h : ArgB w t1 t3 t2 W) : W.cell? ⟨w.heap.size, 0, none⟩ = some (.int .u8 t1) ∧ W.cell? ⟨w.heap.size, 1, none⟩ = some (.string t2) ∧ W.cell? ⟨w.heap.size + 1, 0, none⟩ = some (.int .u8 0) ∧ W.cell? ⟨w.heap.size + 1, 1, none⟩ = some (.int .u32 0) ∧ W.cell? ⟨w.heap.size + 1, 2, none⟩ = some (.string ⟨#[]⟩) ∧ ∀ i, W.frozen? ⟨w.heap.size + 1, i, none⟩ = false :=
  ⟨(blk_cells h.tok).1 0, (blk_cells h.tok).1 1, (blk_cells h.arg).1 0, (blk_cells h.arg).1 1, (blk_cells h.arg).1 2, (blk_cells h.arg).2⟩
/-- The argument's box is written: what is answered. -/
theorem ArgB.put {w W : World} {t1 t3 : Int} {t2 : ByteArray} (h : ArgB w t1 t3 t2 W) (u0 u1 u2 : Value) : (((W.setCell ⟨w.heap.size + 1, 0, none⟩ u0).setCell ⟨w.heap.size + 1, 1, none⟩ u1).setCell ⟨w.heap.size + 1, 2, none⟩ u2).heap[w.heap.size + 1]? = some (.cells #[u0, u1, u2] 81 (0, 0)) ∧ Below w.heap.size w (((W.setCell ⟨w.heap.size + 1, 0, none⟩ u0).setCell ⟨w.heap.size + 1, 1, none⟩ u1).setCell ⟨w.heap.size + 1, 2, none⟩ u2) := by
  obtain ⟨x1, x2⟩ := arg_put h.arg u0 u1 u2
  exact ⟨x1, h.bel.trans (x2.mono (by omega))⟩

set_option maxHeartbeats 4000000 in
theorem refArg7_zero (t : TokT) (b : Int) (w : World) :
    Calls Tryz.prog 52 #[.int .u8 0, tokV t, .int .u32 b] w fun e w' => e = .returned (.tuple #[argV noArg, .int .i64 70]) ∧ Below w.heap.size w w' := by
  obtain ⟨t1, t2, t3⟩ := t
  unfold tokV argV noArg
  simp only
  obtain ⟨k1, k2, k3⟩ := tok_arg_boxes w t1 t3 t2
  have HA := hide (ArgB.mk k1 k2 k3)
  clear k1 k2 k3
  go_enter Tryz.func52, Tryz.ntmps52
  go_wp2_with fail
  generalize (w.alloc (.cells #[.int .u8 t1, .string t2, .int .i64 t3] 102)).alloc (.cells #[.int .u8 0, .int .u32 0, .string ⟨#[]⟩] 81) = W at *
  obtain ⟨c0, c1, d0, d1, d2, df⟩ := HA.out.cells
  go_quiet (fail)
  have HB := hide (HA.out.below (bel_drewN (Below.refl W.heap.size W) nq))
  generalize W.drewN nq = X at *
  clear c0 c1 d0 d1 d2 df HA
  obtain ⟨c0, c1, d0, d1, d2, df⟩ := HB.out.cells
  obtain ⟨x1, x2⟩ := HB.out.put (.int .u8 0) (.int .u32 0) (.string ⟨#[]⟩)
  have HX1 := hide x1
  have HX2 := hide x2
  clear x1 x2
  go_wp2_with fail
  generalize ((X.setCell ⟨w.heap.size + 1, 0, none⟩ (.int .u8 0)).setCell ⟨w.heap.size + 1, 1, none⟩ (.int .u32 0)).setCell ⟨w.heap.size + 1, 2, none⟩ (.string ⟨#[]⟩) = Z at *
  obtain ⟨e1, _⟩ := blk_cells HX1.out
  have a0 := e1 0
  have a1 := e1 1
  have a2 := e1 2
  refine bodyPost_ret (v := .tuple #[.agg #[.int .u8 0, .int .u32 0, .string ⟨#[]⟩], .int .i64 70]) ?_ rfl ⟨rfl, HX2.out⟩
  simp [results, Tryz.results52, go_sem, a0, a1, a2]

set_option maxHeartbeats 4000000 in
theorem refArg7_kind (c : Int) (t : TokT) (b : Int) (w : World) (hc : c ≠ 0) (ht : t.1 ≠ kindW c) :
    Calls Tryz.prog 52 #[.int .u8 c, tokV t, .int .u32 b] w fun e w' => e = .returned (.tuple #[argV noArg, .int .i64 70]) ∧ Below w.heap.size w w' := by
  obtain ⟨t1, t2, t3⟩ := t
  unfold tokV argV noArg
  simp only at ht ⊢
  have hK := fun wx => refKind7_any c wx
  have hc' : (c == 0) = false := by simpa using hc
  have ht' : (t1 != kindW c) = true := by simpa using ht
  generalize kindW c = kc at *
  obtain ⟨k1, k2, k3⟩ := tok_arg_boxes w t1 t3 t2
  have HA := hide (ArgB.mk k1 k2 k3)
  clear k1 k2 k3 hc ht
  go_enter Tryz.func52, Tryz.ntmps52
  go_wp2_with fail
  generalize (w.alloc (.cells #[.int .u8 t1, .string t2, .int .i64 t3] 102)).alloc (.cells #[.int .u8 0, .int .u32 0, .string ⟨#[]⟩] 81) = W at *
  obtain ⟨c0, c1, d0, d1, d2, df⟩ := HA.out.cells
  go_quiet ((go_at_call 93; exact Calls.quiet_of_same ((hK _).mono fun _ _ h => ⟨h.1, h.2.symm⟩)))
  have HB := hide (HA.out.below (bel_drewN (Below.refl W.heap.size W) nq))
  generalize W.drewN nq = X at *
  clear c0 c1 d0 d1 d2 df HA
  obtain ⟨c0, c1, d0, d1, d2, df⟩ := HB.out.cells
  obtain ⟨x1, x2⟩ := HB.out.put (.int .u8 0) (.int .u32 0) (.string ⟨#[]⟩)
  have HX1 := hide x1
  have HX2 := hide x2
  clear x1 x2
  go_wp2_with fail
  generalize ((X.setCell ⟨w.heap.size + 1, 0, none⟩ (.int .u8 0)).setCell ⟨w.heap.size + 1, 1, none⟩ (.int .u32 0)).setCell ⟨w.heap.size + 1, 2, none⟩ (.string ⟨#[]⟩) = Z at *
  obtain ⟨e1, _⟩ := blk_cells HX1.out
  have a0 := e1 0
  have a1 := e1 1
  have a2 := e1 2
  refine bodyPost_ret (v := .tuple #[.agg #[.int .u8 0, .int .u32 0, .string ⟨#[]⟩], .int .i64 70]) ?_ rfl ⟨rfl, HX2.out⟩
  simp [results, Tryz.results52, go_sem, a0, a1, a2]

end Go.Proofs.YtmobologlaeefaaGreat

/-
  The document's answer for an argument of a line, of layer 7: each letter; in one form.
-/
namespace Go.Proofs.YtmobologlaeefaaGreat
open Go.RowKit
set_option linter.unusedVariables false
set_option linter.unusedSimpArgs false
set_option maxRecDepth 10000

set_option maxHeartbeats 4000000 in
theorem refArg7_i (t2 : ByteArray) (t3 b : Int) (w : World) (hp : plainB (strI t2) = true) (hs : t2.size ≤ 140737488351232) (hb0 : 0 ≤ b) (hb1 : b < 4294967296) :
    Calls Tryz.prog 52 #[.int .u8 105, tokV (2, t2, t3), .int .u32 b] w fun e w' => e = .returned (.tuple #[argV (if idP t2 b = 0 then (1, numV (strI t2), ⟨#[]⟩) else noArg), .int .i64 (if idP t2 b = 0 then 0 else 43)]) ∧ Below w.heap.size w w' := by
  have HKW : kindW 105 = 2 := rfl
  have hI := fun wx => refId7_any t2 b wx hp hs hb0 hb1
  unfold tokV argV noArg
  generalize numV (strI t2) = z at *
  clear hp
  by_cases hz : idP t2 b = 0
  · rw [show decide (idP t2 b = 0) = true by simpa using hz] at hI
    simp only [if_pos hz]
    clear hz
    obtain ⟨k1, k2, k3⟩ := tok_arg_boxes w 2 t3 t2
    have HA := hide (ArgB.mk k1 k2 k3)
    have hK := fun wx => refKind7_any 105 wx
    rw [HKW] at hK
    clear k1 k2 k3
    go_enter Tryz.func52, Tryz.ntmps52
    go_wp2_with fail
    generalize (w.alloc (.cells #[.int .u8 2, .string t2, .int .i64 t3] 102)).alloc (.cells #[.int .u8 0, .int .u32 0, .string ⟨#[]⟩] 81) = W at *
    obtain ⟨c0, c1, d0, d1, d2, df⟩ := HA.out.cells
    go_quiet ((go_at_call 93; exact Calls.quiet_of_same ((hK _).mono fun _ _ h => ⟨h.1, h.2.symm⟩)))
    have HB := hide (HA.out.below (bel_drewN (Below.refl W.heap.size W) nq))
    generalize W.drewN nq = X at *
    clear c0 c1 d0 d1 d2 df HA hK
    obtain ⟨c0, c1, d0, d1, d2, df⟩ := HB.out.cells
    go_wp2_with fail
    refine (hI _).mono ?_
    rintro e w5 ⟨rfl, rfl⟩
    clear hI
    obtain ⟨x1, x2⟩ := HB.out.put (.int .u8 1) (.int .u32 z) (.string ⟨#[]⟩)
    have HX1 := hide x1
    have HX2 := hide x2
    clear x1 x2
    go_wp2_with fail
    generalize ((X.setCell ⟨w.heap.size + 1, 0, none⟩ (.int .u8 1)).setCell ⟨w.heap.size + 1, 1, none⟩ (.int .u32 z)).setCell ⟨w.heap.size + 1, 2, none⟩ (.string ⟨#[]⟩) = Z at *
    obtain ⟨e1, _⟩ := blk_cells HX1.out
    have a0 := e1 0
    have a1 := e1 1
    have a2 := e1 2
    refine bodyPost_ret (v := .tuple #[.agg #[(.int .u8 1), (.int .u32 z), (.string ⟨#[]⟩)], .int .i64 0]) ?_ rfl ⟨rfl, HX2.out⟩
    simp [results, Tryz.results52, go_sem, a0, a1, a2]
  · rw [show decide (idP t2 b = 0) = false by simpa using hz] at hI
    simp only [if_neg hz]
    clear hz
    obtain ⟨k1, k2, k3⟩ := tok_arg_boxes w 2 t3 t2
    have HA := hide (ArgB.mk k1 k2 k3)
    have hK := fun wx => refKind7_any 105 wx
    rw [HKW] at hK
    clear k1 k2 k3
    go_enter Tryz.func52, Tryz.ntmps52
    go_wp2_with fail
    generalize (w.alloc (.cells #[.int .u8 2, .string t2, .int .i64 t3] 102)).alloc (.cells #[.int .u8 0, .int .u32 0, .string ⟨#[]⟩] 81) = W at *
    obtain ⟨c0, c1, d0, d1, d2, df⟩ := HA.out.cells
    go_quiet ((go_at_call 93; exact Calls.quiet_of_same ((hK _).mono fun _ _ h => ⟨h.1, h.2.symm⟩)))
    have HB := hide (HA.out.below (bel_drewN (Below.refl W.heap.size W) nq))
    generalize W.drewN nq = X at *
    clear c0 c1 d0 d1 d2 df HA hK
    obtain ⟨c0, c1, d0, d1, d2, df⟩ := HB.out.cells
    go_wp2_with fail
    refine (hI _).mono ?_
    rintro e w5 ⟨rfl, rfl⟩
    clear hI
    obtain ⟨x1, x2⟩ := HB.out.put (.int .u8 0) (.int .u32 0) (.string ⟨#[]⟩)
    have HX1 := hide x1
    have HX2 := hide x2
    clear x1 x2
    go_wp2_with fail
    generalize ((X.setCell ⟨w.heap.size + 1, 0, none⟩ (.int .u8 0)).setCell ⟨w.heap.size + 1, 1, none⟩ (.int .u32 0)).setCell ⟨w.heap.size + 1, 2, none⟩ (.string ⟨#[]⟩) = Z at *
    obtain ⟨e1, _⟩ := blk_cells HX1.out
    have a0 := e1 0
    have a1 := e1 1
    have a2 := e1 2
    refine bodyPost_ret (v := .tuple #[.agg #[(.int .u8 0), (.int .u32 0), (.string ⟨#[]⟩)], .int .i64 43]) ?_ rfl ⟨rfl, HX2.out⟩
    simp [results, Tryz.results52, go_sem, a0, a1, a2]

set_option maxHeartbeats 4000000 in
theorem refArg7_n (t2 : ByteArray) (t3 b : Int) (w : World) (hp : numB (strI t2) = true) (hs : t2.size ≤ 140737488351232) :
    Calls Tryz.prog 52 #[.int .u8 110, tokV (3, t2, t3), .int .u32 b] w fun e w' => e = .returned (.tuple #[argV (2, numV (strI t2), ⟨#[]⟩), .int .i64 0]) ∧ Below w.heap.size w w' := by
  have HKW : kindW 110 = 3 := rfl
  have hI := fun wx => refNumber_any t2 wx hs
  rw [show numOut (strI t2) = numV (strI t2) by simp [numOut, hp], show numErr (strI t2) = 0 by simp [numErr, hp]] at hI
  unfold tokV argV
  generalize numV (strI t2) = z at *
  clear hp
  simp only
  obtain ⟨k1, k2, k3⟩ := tok_arg_boxes w 3 t3 t2
  have HA := hide (ArgB.mk k1 k2 k3)
  have hK := fun wx => refKind7_any 110 wx
  rw [HKW] at hK
  clear k1 k2 k3
  go_enter Tryz.func52, Tryz.ntmps52
  go_wp2_with fail
  generalize (w.alloc (.cells #[.int .u8 3, .string t2, .int .i64 t3] 102)).alloc (.cells #[.int .u8 0, .int .u32 0, .string ⟨#[]⟩] 81) = W at *
  obtain ⟨c0, c1, d0, d1, d2, df⟩ := HA.out.cells
  go_quiet ((go_at_call 93; exact Calls.quiet_of_same ((hK _).mono fun _ _ h => ⟨h.1, h.2.symm⟩)))
  have HB := hide (HA.out.below (bel_drewN (Below.refl W.heap.size W) nq))
  generalize W.drewN nq = X at *
  clear c0 c1 d0 d1 d2 df HA hK
  obtain ⟨c0, c1, d0, d1, d2, df⟩ := HB.out.cells
  go_wp2_with fail
  refine (hI _).mono ?_
  rintro e w5 ⟨rfl, rfl⟩
  clear hI
  obtain ⟨x1, x2⟩ := HB.out.put (.int .u8 2) (.int .u32 z) (.string ⟨#[]⟩)
  have HX1 := hide x1
  have HX2 := hide x2
  clear x1 x2
  go_wp2_with fail
  generalize ((X.setCell ⟨w.heap.size + 1, 0, none⟩ (.int .u8 2)).setCell ⟨w.heap.size + 1, 1, none⟩ (.int .u32 z)).setCell ⟨w.heap.size + 1, 2, none⟩ (.string ⟨#[]⟩) = Z at *
  obtain ⟨e1, _⟩ := blk_cells HX1.out
  have a0 := e1 0
  have a1 := e1 1
  have a2 := e1 2
  refine bodyPost_ret (v := .tuple #[.agg #[(.int .u8 2), (.int .u32 z), (.string ⟨#[]⟩)], .int .i64 0]) ?_ rfl ⟨rfl, HX2.out⟩
  simp [results, Tryz.results52, go_sem, a0, a1, a2]

set_option maxHeartbeats 4000000 in
theorem refArg7_e (c : Int) (t2 : ByteArray) (t3 b : Int) (w : World) (h0 : c ≠ 0) (h1 : c ≠ 105) (h2 : c ≠ 110) (h3 : c ≠ 115) :
    Calls Tryz.prog 52 #[.int .u8 c, tokV (1, t2, t3), .int .u32 b] w fun e w' => e = .returned (.tuple #[argV (if enumNB c t2 = true then (4, enumN c t2, ⟨#[]⟩) else noArg), .int .i64 (if enumNB c t2 = true then 0 else 71)]) ∧ Below w.heap.size w w' := by
  have HKW : kindW c = 1 := by unfold kindW; simp [h1, h2, h3]
  have hI := fun wx => refEnumNamed_any c t2 wx
  have h0' : (c == 0) = false := by simpa using h0
  have h1' : (c == 105) = false := by simpa using h1
  have h2' : (c == 110) = false := by simpa using h2
  have h3' : (c == 115) = false := by simpa using h3
  clear h0 h1 h2 h3
  unfold tokV argV noArg
  generalize enumN c t2 = z at *
  by_cases hz : enumNB c t2 = true
  · rw [hz] at hI
    simp only [if_pos hz]
    clear hz
    obtain ⟨k1, k2, k3⟩ := tok_arg_boxes w 1 t3 t2
    have HA := hide (ArgB.mk k1 k2 k3)
    have hK := fun wx => refKind7_any c wx
    rw [HKW] at hK
    clear k1 k2 k3
    go_enter Tryz.func52, Tryz.ntmps52
    go_wp2_with fail
    generalize (w.alloc (.cells #[.int .u8 1, .string t2, .int .i64 t3] 102)).alloc (.cells #[.int .u8 0, .int .u32 0, .string ⟨#[]⟩] 81) = W at *
    obtain ⟨c0, c1, d0, d1, d2, df⟩ := HA.out.cells
    go_quiet ((go_at_call 93; exact Calls.quiet_of_same ((hK _).mono fun _ _ h => ⟨h.1, h.2.symm⟩)))
    have HB := hide (HA.out.below (bel_drewN (Below.refl W.heap.size W) nq))
    generalize W.drewN nq = X at *
    clear c0 c1 d0 d1 d2 df HA hK
    obtain ⟨c0, c1, d0, d1, d2, df⟩ := HB.out.cells
    go_wp2_with fail
    refine (hI _).mono ?_
    rintro e w5 ⟨rfl, hb5⟩
    have HB5 := hide (HB.out.below hb5)
    clear hI hb5 HB c0 c1 d0 d1 d2 df
    have HB := HB5
    clear HB5
    obtain ⟨c0, c1, d0, d1, d2, df⟩ := HB.out.cells
    obtain ⟨x1, x2⟩ := HB.out.put (.int .u8 4) (.int .u32 z) (.string ⟨#[]⟩)
    have HX1 := hide x1
    have HX2 := hide x2
    clear x1 x2
    go_wp2_with fail
    generalize ((w5.setCell ⟨w.heap.size + 1, 0, none⟩ (.int .u8 4)).setCell ⟨w.heap.size + 1, 1, none⟩ (.int .u32 z)).setCell ⟨w.heap.size + 1, 2, none⟩ (.string ⟨#[]⟩) = Z at *
    obtain ⟨e1, _⟩ := blk_cells HX1.out
    have a0 := e1 0
    have a1 := e1 1
    have a2 := e1 2
    refine bodyPost_ret (v := .tuple #[.agg #[(.int .u8 4), (.int .u32 z), (.string ⟨#[]⟩)], .int .i64 0]) ?_ rfl ⟨rfl, HX2.out⟩
    simp [results, Tryz.results52, go_sem, a0, a1, a2]
  · have hz' : enumNB c t2 = false := by simpa using hz
    rw [hz'] at hI
    simp only [if_neg hz]
    clear hz hz'
    obtain ⟨k1, k2, k3⟩ := tok_arg_boxes w 1 t3 t2
    have HA := hide (ArgB.mk k1 k2 k3)
    have hK := fun wx => refKind7_any c wx
    rw [HKW] at hK
    clear k1 k2 k3
    go_enter Tryz.func52, Tryz.ntmps52
    go_wp2_with fail
    generalize (w.alloc (.cells #[.int .u8 1, .string t2, .int .i64 t3] 102)).alloc (.cells #[.int .u8 0, .int .u32 0, .string ⟨#[]⟩] 81) = W at *
    obtain ⟨c0, c1, d0, d1, d2, df⟩ := HA.out.cells
    go_quiet ((go_at_call 93; exact Calls.quiet_of_same ((hK _).mono fun _ _ h => ⟨h.1, h.2.symm⟩)))
    have HB := hide (HA.out.below (bel_drewN (Below.refl W.heap.size W) nq))
    generalize W.drewN nq = X at *
    clear c0 c1 d0 d1 d2 df HA hK
    obtain ⟨c0, c1, d0, d1, d2, df⟩ := HB.out.cells
    go_wp2_with fail
    refine (hI _).mono ?_
    rintro e w5 ⟨rfl, hb5⟩
    have HB5 := hide (HB.out.below hb5)
    clear hI hb5 HB c0 c1 d0 d1 d2 df
    have HB := HB5
    clear HB5
    obtain ⟨c0, c1, d0, d1, d2, df⟩ := HB.out.cells
    obtain ⟨x1, x2⟩ := HB.out.put (.int .u8 0) (.int .u32 0) (.string ⟨#[]⟩)
    have HX1 := hide x1
    have HX2 := hide x2
    clear x1 x2
    go_wp2_with fail
    generalize ((w5.setCell ⟨w.heap.size + 1, 0, none⟩ (.int .u8 0)).setCell ⟨w.heap.size + 1, 1, none⟩ (.int .u32 0)).setCell ⟨w.heap.size + 1, 2, none⟩ (.string ⟨#[]⟩) = Z at *
    obtain ⟨e1, _⟩ := blk_cells HX1.out
    have a0 := e1 0
    have a1 := e1 1
    have a2 := e1 2
    refine bodyPost_ret (v := .tuple #[.agg #[(.int .u8 0), (.int .u32 0), (.string ⟨#[]⟩)], .int .i64 71]) ?_ rfl ⟨rfl, HX2.out⟩
    simp [results, Tryz.results52, go_sem, a0, a1, a2]

set_option maxHeartbeats 4000000 in
theorem refArg7_s (t2 : ByteArray) (t3 b : Int) (w : World) (hs : t2.size ≤ 140737488351232) :
    Calls Tryz.prog 52 #[.int .u8 115, tokV (4, t2, t3), .int .u32 b] w fun e w' => e = .returned (.tuple #[argV (if nulS t2 = true then noArg else (3, 0, t2)), .int .i64 (if nulS t2 = true then 13 else 0)]) ∧ Below w.heap.size w w' := by
  have HKW : kindW 115 = 4 := rfl
  unfold tokV argV noArg
  simp only
  obtain ⟨A, hA⟩ : ∃ A : ArgT, A = if nulS t2 = true then ((0, 0, ⟨#[]⟩) : ArgT) else (3, 0, t2) := ⟨_, rfl⟩
  obtain ⟨E, hE⟩ : ∃ E : Int, E = if nulS t2 = true then 13 else 0 := ⟨_, rfl⟩
  rw [← hA, ← hE]
  have HAE := hide (And.intro hA hE)
  clear hA hE
  obtain ⟨k1, k2, k3⟩ := tok_arg_boxes w 4 t3 t2
  have HA := hide (ArgB.mk k1 k2 k3)
  have hK := fun wx => refKind7_any 115 wx
  rw [HKW] at hK
  clear k1 k2 k3
  go_enter Tryz.func52, Tryz.ntmps52
  go_wp2_with fail
  generalize (w.alloc (.cells #[.int .u8 4, .string t2, .int .i64 t3] 102)).alloc (.cells #[.int .u8 0, .int .u32 0, .string ⟨#[]⟩] 81) = W at *
  obtain ⟨c0, c1, d0, d1, d2, df⟩ := HA.out.cells
  go_quiet ((go_at_call 93; exact Calls.quiet_of_same ((hK _).mono fun _ _ h => ⟨h.1, h.2.symm⟩)))
  have HB := hide (HA.out.below (bel_drewN (Below.refl W.heap.size W) nq))
  generalize W.drewN nq = X at *
  clear c0 c1 d0 d1 d2 df HA hK
  obtain ⟨c0, c1, d0, d1, d2, df⟩ := HB.out.cells
  go_wp2_with fail
  go_loop [12] (fun i => ∃ k : Nat, k ≤ t2.size ∧ i = .int .i64 k ∧ Hid (∀ j, (hj : j < t2.size) → j < k → (t2[j].toNat : Int) ≠ 0)) (fun i => t2.size - (intOf i).toNat)
  case atStart => exact ⟨0, Nat.zero_le _, rfl, fun j _ hj => by omega⟩
  case round =>
    obtain ⟨k, hk, rfl, HZ⟩ := hrel
    by_cases hlt : k < t2.size
    · have hki : (k : Int) < (t2.size : Int) := by omega
      have hk0 : (0 : Int) ≤ (k : Int) := by omega
      by_cases hz : (t2[k].toNat : Int) = 0
      · have hn := nul_first hlt hz
        have HAE2 : Hid (A = (0, 0, ⟨#[]⟩) ∧ E = 13) := by
          have := HAE.out
          rw [if_pos hn, if_pos hn] at this
          exact this
        have hz' : ((t2[k].toNat : Int) == 0) = true := by simpa using hz
        clear hn hz HZ
        obtain ⟨x1, x2⟩ := HB.out.put (.int .u8 0) (.int .u32 0) (.string ⟨#[]⟩)
        have HX1 := hide x1
        have HX2 := hide x2
        clear x1 x2
        go_wp2_with fail
        generalize ((X.setCell ⟨w.heap.size + 1, 0, none⟩ (.int .u8 0)).setCell ⟨w.heap.size + 1, 1, none⟩ (.int .u32 0)).setCell ⟨w.heap.size + 1, 2, none⟩ (.string ⟨#[]⟩) = Z at *
        obtain ⟨e1, _⟩ := blk_cells HX1.out
        have a0 := e1 0
        have a1 := e1 1
        have a2 := e1 2
        refine bodyPost_ret (v := .tuple #[.agg #[(.int .u8 0), (.int .u32 0), (.string ⟨#[]⟩)], .int .i64 13]) ?_ rfl ⟨by rw [HAE2.out.1, HAE2.out.2], HX2.out⟩
        simp [results, Tryz.results52, go_sem, a0, a1, a2]
      · have hz' : ((t2[k].toNat : Int) == 0) = false := by simpa using hz
        go_wp2
        go_round
        case rel => exact ⟨k + 1, by omega, by go_num, fun j hj h => if e : j = k then (by subst e; exact hz) else HZ.out j hj (by omega)⟩
        case measure => simp [intOf]; omega
    · obtain rfl : k = t2.size := by omega
      have hn : ¬ nulS t2 = true := by rw [nul_not fun j hj => HZ.out j hj hj]; simp
      have HAE2 : Hid (A = (3, 0, t2) ∧ E = 0) := by
        have := HAE.out
        rw [if_neg hn, if_neg hn] at this
        exact this
      clear hn HZ
      obtain ⟨x1, x2⟩ := HB.out.put (.int .u8 3) (.int .u32 0) (.string t2)
      have HX1 := hide x1
      have HX2 := hide x2
      clear x1 x2
      go_wp2_with fail
      generalize ((X.setCell ⟨w.heap.size + 1, 0, none⟩ (.int .u8 3)).setCell ⟨w.heap.size + 1, 1, none⟩ (.int .u32 0)).setCell ⟨w.heap.size + 1, 2, none⟩ (.string t2) = Z at *
      obtain ⟨e1, _⟩ := blk_cells HX1.out
      have a0 := e1 0
      have a1 := e1 1
      have a2 := e1 2
      refine bodyPost_ret (v := .tuple #[.agg #[(.int .u8 3), (.int .u32 0), (.string t2)], .int .i64 0]) ?_ rfl ⟨by rw [HAE2.out.1, HAE2.out.2], HX2.out⟩
      simp [results, Tryz.results52, go_sem, a0, a1, a2]

theorem refArgument7_any (c : Int) (t : TokT) (b : Int) (w : World) (hc : c = 0 ∨ kindI c ≠ 0) (ht : tokOk t.1 (strI t.2.1) = true) (hs : t.2.1.size ≤ 140737488351232) (hb0 : 0 ≤ b) (hb1 : b < 4294967296) :
    Calls Tryz.prog 52 #[.int .u8 c, tokV t, .int .u32 b] w fun e w' => e = .returned (.tuple #[argV (argA c t b), .int .i64 (argE c t b)]) ∧ Below w.heap.size w w' := by
  by_cases h0 : c = 0
  · subst h0
    have e : argE 0 t b = 70 := by unfold argE; rw [if_pos (.inl take_zero)]
    have e2 : argA 0 t b = noArg := by unfold argA; rw [if_pos (by omega)]
    rw [e, e2]
    exact refArg7_zero t b w
  · have hk : kindI c ≠ 0 := hc.resolve_left h0
    have hkw := kindW_take hk
    by_cases hkd : t.1 = kindW c
    · have hE : argE c t b = txtE c t.2.1 b := by unfold argE; rw [if_neg (fun h => h.elim (fun h => hk (take_none.1 h)) (fun h => h (hkd.trans hkw)))]
      have hA : argA c t b = txtA c t.2.1 b := by
        unfold argA; rw [hE]
        by_cases hz : txtE c t.2.1 b = 0
        · rw [if_neg (by simpa using hz)]
        · rw [if_pos hz]; unfold txtA; rw [if_pos hz]
      rw [hE, hA]
      obtain ⟨t1, t2, t3⟩ := t
      simp only at hkd hs ht ⊢
      subst hkd
      by_cases h1 : c = 105
      · subst h1
        have hp : plainB (strI t2) = true := ht
        obtain ⟨q1, q2⟩ := plain_num hp
        refine (refArg7_i t2 t3 b w hp hs hb0 hb1).mono ?_
        rintro e w' ⟨rfl, hb⟩
        have e1 : txtE 105 t2 b = if idP t2 b = 0 then 0 else 43 := by
          unfold txtE; rw [if_pos kind_i]
          unfold idP; rw [if_neg (by rw [q1]; simp)]
          split <;> simp
        have e2 : txtA 105 t2 b = if idP t2 b = 0 then (1, numV (strI t2), ⟨#[]⟩) else noArg := by
          unfold txtA; rw [e1]
          by_cases hz : idP t2 b = 0
          · simp [hz, kind_i]
          · simp [hz]
        rw [e1, e2]
        exact ⟨rfl, hb⟩
      · by_cases h2 : c = 110
        · subst h2
          have hp : numB (strI t2) = true := ht
          refine (refArg7_n t2 t3 b w hp hs).mono ?_
          rintro e w' ⟨rfl, hb⟩
          have k2 : kindI 110 = 2 := by decide +kernel
          have e1 : txtE 110 t2 b = 0 := by unfold txtE; simp [k2, numErr, hp]
          have e2 : txtA 110 t2 b = (2, numV (strI t2), ⟨#[]⟩) := by unfold txtA; simp [e1, k2]
          rw [e1, e2]
          exact ⟨rfl, hb⟩
        · by_cases h3 : c = 115
          · subst h3
            refine (refArg7_s t2 t3 b w hs).mono ?_
            rintro e w' ⟨rfl, hb⟩
            have k3 : kindI 115 = 3 := by decide +kernel
            have e1 : txtE 115 t2 b = if nulS t2 = true then 13 else 0 := by unfold txtE; simp [k3]
            have e2 : txtA 115 t2 b = if nulS t2 = true then noArg else (3, 0, t2) := by
              unfold txtA; rw [e1]
              by_cases hz : nulS t2 = true
              · simp [hz]
              · simp [hz, k3]
            rw [e1, e2]
            exact ⟨rfl, hb⟩
          · have hw : kindW c = 1 := by unfold kindW; simp [h1, h2, h3]
            rw [hw]
            have k4 : kindI c = 4 := by
              have : takeK c = 1 := by rw [← hkw, hw]
              unfold takeK at this
              have := kindI_most c
              by_cases q1 : kindI c = 1
              · simp [q1] at *
              · by_cases q2 : kindI c = 2
                · simp [q2] at *
                · by_cases q3 : kindI c = 3
                  · simp [q3] at *
                  · omega
            refine (refArg7_e c t2 t3 b w h0 h1 h2 h3).mono ?_
            rintro e w' ⟨rfl, hb⟩
            have e1 : txtE c t2 b = if enumNB c t2 = true then 0 else 71 := by unfold txtE; simp [k4]
            have e2 : txtA c t2 b = if enumNB c t2 = true then (4, enumN c t2, ⟨#[]⟩) else noArg := by
              unfold txtA; rw [e1]
              by_cases hz : enumNB c t2 = true
              · simp [hz, k4]
              · simp [hz]
            rw [e1, e2]
            exact ⟨rfl, hb⟩
    · have e : argE c t b = 70 := by unfold argE; rw [if_pos (.inr (by rw [← hkw]; exact hkd))]
      have e2 : argA c t b = noArg := by unfold argA; rw [if_pos (by omega)]
      rw [e, e2]
      exact refArg7_kind c t b w h0 hkd

end Go.Proofs.YtmobologlaeefaaGreat

/-
  A long function cut at one of its regions: what holds there, and the rest by itself.
-/
namespace Go.Proofs.YtmobologlaeefaaGreat
open Go

/-- The first region of a piece of code. -/
def headR : Code → Nat
  | .region k _ _ => k
  | .seq a _ => headR a
  | _ => 99999
/-- The code from a region on. -/
def dropR (n : Nat) : Code → Code
  | .seq a b => match headR a == n with
    | true => .seq a b
    | false => dropR n b
  | c => c
/-- The code ahead of a region, which ends in J. -/
def cutWp (P : Program) (n : Nat) (J : Act → World → Prop) (Q : Exit → Act → World → Prop) : Code → Act → World → Prop
  | .seq a b, x, w => match headR a == n with
    | true => J x w
    | false => a.wp P (Exit.then (cutWp P n J Q b) Q) x w
  | c, x, w => c.wp P Q x w

theorem wp_cut {P : Program} (n : Nat) {J : Act → World → Prop} {Q : Exit → Act → World → Prop} : ∀ (c : Code) (x : Act) (w : World), cutWp P n J Q c x w → (∀ x w, J x w → (dropR n c).wp P Q x w) → c.wp P Q x w
  | .seq a b, x, w, h, hJ => by
    unfold cutWp at h
    unfold dropR at hJ
    cases e : headR a == n with
    | true => rw [e] at h hJ; exact hJ _ _ h
    | false =>
      rw [e] at h hJ
      refine wp_seq (wp_mono h fun e a' w' hq => ?_)
      cases e with
      | normal => exact wp_cut n b a' w' hq hJ
      | _ => exact hq
  | .skip, _, _, h, _ => h
  | .region .., _, _, h, _ => h
  | .cond .., _, _, h, _ => h
  | .block .., _, _, h, _ => h
  | .loop .., _, _, h, _ => h
  | .rangeFunc .., _, _, h, _ => h
  | .exit .., _, _, h, _ => h
  | .scope .., _, _, h, _ => h
  | .label .., _, _, h, _ => h
  | .goto .., _, _, h, _ => h
  | .ret, _, _, h, _ => h
  | .refuse .., _, _, h, _ => h
theorem cut_step {P : Program} {n : Nat} {J : Act → World → Prop} {Q : Exit → Act → World → Prop} {a b : Code} {x : Act} {w : World} (hn : (headR a == n) = false) (h : ∀ K : Act → World → Prop, (∀ x w, cutWp P n J Q b x w → K x w) → a.wp P (Exit.then K Q) x w) : cutWp P n J Q (.seq a b) x w := by
  unfold cutWp
  rw [hn]
  exact h _ fun _ _ h => h
theorem cut_done {P : Program} {n : Nat} {J : Act → World → Prop} {Q : Exit → Act → World → Prop} {a b : Code} {x : Act} {w : World} (hn : (headR a == n) = true) (h : J x w) : cutWp P n J Q (.seq a b) x w := by
  unfold cutWp
  rw [hn]
  exact h
theorem then_normal {K : Act → World → Prop} {Q : Exit → Act → World → Prop} {x : Act} {w : World} : Exit.then K Q .normal x w = K x w := rfl
end Go.Proofs.YtmobologlaeefaaGreat

/-
  What Split of the document's answer returns, for every list of bytes: its error, and its words in new memory; nothing that was there has turned.
-/
namespace Go.Proofs.YtmobologlaeefaaGreat
open Go.RowKit
set_option maxRecDepth 10000

theorem RefSplit.info : (Tryz.prog.info? 22).map (fun i => (i.zero, i.size, i.bytes)) = some (some (.int .u32 0), 1, 4) := by kernel_rfl

end Go.Proofs.YtmobologlaeefaaGreat

/-
  What OfText of the document's answer returns, for every string: its error, or its words in new memory; nothing that was there has turned.
-/
namespace Go.Proofs.YtmobologlaeefaaGreat
open Go.RowKit
set_option maxRecDepth 10000

theorem RefOfText.info : (Tryz.prog.info? 5).map (fun i => (i.zero, i.size, i.bytes)) = some (some (.int .u8 0), 1, 1) := by kernel_rfl

theorem refRoom_any (s : ByteArray) (w : World) (hs : s.size ≤ 140737488351232) :
    Calls Tryz.prog 55 #[.string s] w fun e w' => e = .returned (.int .i64 ((s.size / 4 + 1 : Nat) : Int)) ∧ w = w' := by
  go_enter Tryz.func55, Tryz.ntmps55
  go_wp2
  go_ret
  exact ⟨ret_int (by omega), rfl⟩

end Go.Proofs.YtmobologlaeefaaGreat

/-
  What Room of the document's answer returns: how many words an instruction has, its first one among them.
-/
namespace Go.Proofs.YtmobologlaeefaaGreat
open Go.RowKit
set_option linter.unusedVariables false
set_option linter.unusedSimpArgs false
set_option maxRecDepth 10000

theorem words_le (l : List ArgT) (k : Nat) : (wordsL (l.take k)).length ≤ (wordsL l).length := by
  have h : wordsL l = wordsL (l.take k) ++ wordsL (l.drop k) := by
    unfold wordsL; rw [← List.flatMap_append, List.take_append_drop]
  rw [h]; simp

set_option maxHeartbeats 2000000 in
theorem refRoom4_any (x : InstT) (o : Int) (f : Frm) (ax : Option Addr) (n cx : Nat) (w : World) (hv : ArgsV w ax x.2.2.2) (hok : InstOk x) (hl : x.2.2.2.length = n) (hB : (wordsL x.2.2.2).length ≤ 4611686018427387904) :
    Calls Tryz.prog 28 #[instV x ax n cx, formV o f] w fun e w' => e = .returned (.int .i64 ((1 + (rawL f x).length : Nat) : Int)) ∧ Below w.heap.size w w' := by
  obtain ⟨xo, xt, xr, xl⟩ := x
  obtain ⟨nm, t, r, fx, rs, mo, pa⟩ := f
  obtain ⟨_, _, _, _, _, _, hok, hn24⟩ := hok
  simp only at hv hl hB hok hn24
  rw [hl] at hn24
  unfold instV formV
  simp only
  have HLE : Hid (∀ k, (wordsL (xl.take k)).length ≤ (wordsL xl).length) := words_le xl
  have HB : Hid (((wordsL xl).length : Int) ≤ 4611686018427387904) := by show _ ≤ _; omega
  have HL : Hid (xl.length = n) := hl
  have HOK : Hid (ArgsOk xl) := hok
  have HT : Hid (∀ k, k < n → (wordsL (xl.take (k + 1))).length = (wordsL (xl.take k)).length + (if (nthA xl k).1 = 3 then (nthA xl k).2.2.size / 4 + 1 else 1)) := fun k hk => by
    rw [wordsL_take xl k (by omega), List.length_append, wordsA_len]
  have HR : Hid (((1 + (rawL (nm, t, r, fx, rs, mo, pa) (xo, xt, xr, xl)).length : Nat) : Int) = ((1 + (headW (nm, t, r, fx, rs, mo, pa) xt xr).length : Nat) : Int) + ((wordsL (xl.take n)).length : Int)) := by
    show _ = _
    unfold rawL; rw [List.take_of_length_le (by omega)]; simp; omega
  have hbel : Below w.heap.size w ((w.alloc (.cells #[.int .u16 xo, .int .u32 xt, .int .u32 xr, .slice ax n cx] 41)).alloc (.cells #[.int .u16 o, .string nm, .bool t, .bool r, .string fx, .string rs, .int .i64 mo, .int .u8 pa] 64)) := ((Below.refl _ w).alloc (Nat.le_refl _) _).alloc (by simp) _
  have hv1 := hv.below hbel
  have kI : ((w.alloc (.cells #[.int .u16 xo, .int .u32 xt, .int .u32 xr, .slice ax n cx] 41)).alloc (.cells #[.int .u16 o, .string nm, .bool t, .bool r, .string fx, .string rs, .int .i64 mo, .int .u8 pa] 64)).heap[w.heap.size]? = some (.cells #[.int .u16 xo, .int .u32 xt, .int .u32 xr, .slice ax n cx] 41 (0, 0)) := (Below.heap_alloc _ _ _ (by simp)).trans (alloc_new w _ _)
  have kF : ((w.alloc (.cells #[.int .u16 xo, .int .u32 xt, .int .u32 xr, .slice ax n cx] 41)).alloc (.cells #[.int .u16 o, .string nm, .bool t, .bool r, .string fx, .string rs, .int .i64 mo, .int .u8 pa] 64)).heap[w.heap.size + 1]? = some (.cells #[.int .u16 o, .string nm, .bool t, .bool r, .string fx, .string rs, .int .i64 mo, .int .u8 pa] 64 (0, 0)) := by simpa using alloc_new (w.alloc (.cells #[.int .u16 xo, .int .u32 xt, .int .u32 xr, .slice ax n cx] 41)) #[.int .u16 o, .string nm, .bool t, .bool r, .string fx, .string rs, .int .i64 mo, .int .u8 pa] 64
  have c3 := (one_block kI).1 3
  have d2 := (one_block kF).1 2
  have d3 := (one_block kF).1 3
  have HBEL := hide hbel
  have HV := hide hv1
  clear hv hl hB hok hbel kI kF hv1
  obtain ⟨h0, hh0⟩ : ∃ h0 : Int, Hid (h0 = ((1 + (headW (nm, t, r, fx, rs, mo, pa) xt xr).length : Nat) : Int)) := ⟨_, rfl⟩
  have hlo : 0 ≤ h0 := by rw [hh0.out]; omega
  have hhi : h0 ≤ 3 := by rw [hh0.out]; unfold headW; cases t <;> cases r <;> simp
  rcases t with _ | _ <;> rcases r with _ | _ <;> (
    go_enter Tryz.func28, Tryz.ntmps28
    go_wp2
    generalize (w.alloc (.cells #[.int .u16 xo, .int .u32 xt, .int .u32 xr, .slice ax n cx] 41)).alloc (.cells #[.int .u16 o, .string nm, .bool _, .bool _, .string fx, .string rs, .int .i64 mo, .int .u8 pa] 64) = W at *
    go_loop [5, 6] (fun u i => ∃ k : Nat, k ≤ n ∧ i = .int .i64 k ∧ u = .int .i64 (h0 + ((wordsL (xl.take k)).length : Int))) (fun _ i => n - (intOf i).toNat)
    case atStart => exact ⟨0, Nat.zero_le _, rfl, by rw [hh0.out]; simp [headW, wordsL]⟩
    case round =>
      obtain ⟨k, hk, rfl, rfl⟩ := hrel
      by_cases hlt : k < n
      · obtain ⟨b1, o1, rfl, hb1, p1, p2, p3⟩ := HV.out k (by rw [HL.out]; exact hlt)
        have hki : (k : Int) < (n : Int) := by omega
        have hk0 : (0 : Int) ≤ (k : Int) := by omega
        have hT := HT.out k hlt
        have hle := HLE.out (k + 1)
        have hbb := HB.out
        obtain ⟨_, _, _, _, hsz⟩ := HOK.out k (by rw [HL.out]; exact hlt)
        have HS : Hid _ := hT
        clear hT
        generalize nthA xl k = z at *
        obtain ⟨z1, z2, z3⟩ := z
        simp only at *
        by_cases h3 : z1 = 3
        · subst h3
          have hRm := fun wx => refRoom_any z3 wx hsz
          go_wp2_with (go_at_call 55; refine (hRm _).mono ?_; rintro e w' ⟨rfl, rfl⟩)
          go_round
          case rel => exact ⟨k + 1, by omega, by go_num, by have hS := HS.out; simp only [if_true] at hS; refine congrArg (Value.int .i64) ?_; first | omega | (unfold wrap64; omega)⟩
          case measure => simp [intOf]; omega
        · have h3' : (z1 == 3) = false := by simpa using h3
          go_wp2
          go_round
          case rel => exact ⟨k + 1, by omega, by go_num, by have hS := HS.out; rw [if_neg h3] at hS; refine congrArg (Value.int .i64) ?_; first | omega | (unfold wrap64; omega)⟩
          case measure => simp [intOf]; omega
      · obtain rfl : k = n := by omega
        go_wp2
        go_ret
        exact ⟨by have hR := HR.out; have h9 := hh0.out; refine congrArg (fun z => Ending.returned (.int .i64 z)) ?_; omega, HBEL.out⟩)

end Go.Proofs.YtmobologlaeefaaGreat

/-
  What Fault of the document's answer returns: what is wrong with an instruction.
-/
namespace Go.Proofs.YtmobologlaeefaaGreat
open Go.RowKit
set_option linter.unusedVariables false
set_option linter.unusedSimpArgs false
set_option maxRecDepth 10000

theorem words_bound {f : Frm} {b : Int} {l : List ArgT} (hf : noText f = true ∧ shortF f = true) (hok : ArgsOk l) (h : ∀ i, i < l.length → wrongA (letterI f (i : Int)) (nthA l i) b = 0) : ∀ k, k ≤ l.length → (wordsL (l.take k)).length ≤ k + min k 1000 * 35184372087809
  | 0, _ => by simp [wordsL]
  | k + 1, hk => by
    have ih := words_bound hf hok h k (by omega)
    rw [wordsL_take l k (by omega), List.length_append, wordsA_len]
    split
    · rename_i h3
      have h1 := (wrongA_kind (h k (by omega))).2
      have h2 := text_fixed hf.1 (k := k) (by rw [← h1]; exact h3)
      have h4 := (hok k (by omega)).2.2.2.2
      have h5 : f.2.2.2.1.size ≤ 1000 := by
        have := hf.2
        simp [shortF] at this
        exact this.1.1.1
      have e1 : min k 1000 = k := by omega
      have e2 : min (k + 1) 1000 = k + 1 := by omega
      rw [e1] at ih; rw [e2, Nat.add_mul]
      omega
    · have : min k 1000 * 35184372087809 ≤ min (k + 1) 1000 * 35184372087809 := Nat.mul_le_mul_right _ (by omega)
      omega
theorem words_few {f : Frm} {b : Int} {l : List ArgT} (hf : noText f = true ∧ shortF f = true) (hok : ArgsOk l) (hl : 24 * l.length ≤ 140737488351232) (h : ∀ i, i < l.length → wrongA (letterI f (i : Int)) (nthA l i) b = 0) : (wordsL l).length ≤ 4611686018427387904 := by
  have := words_bound hf hok h l.length (Nat.le_refl _)
  rw [List.take_of_length_le (Nat.le_refl _)] at this
  have : min l.length 1000 * 35184372087809 ≤ 1000 * 35184372087809 := Nat.mul_le_mul_right _ (by omega)
  omega

end Go.Proofs.YtmobologlaeefaaGreat

/-
  What Fits of the document's answer returns, for every operation and every list of kinds.
-/
namespace Go.Proofs.YtmobologlaeefaaGreat
open Go.RowKit
set_option maxRecDepth 10000
set_option linter.unusedVariables false
set_option linter.unusedSimpArgs false

theorem rows_whole (fx rs m d : Nat) (hd : rs ∣ d) (hge : m ≤ fx + d) (h : d = 0 ∨ (fx + d < m + rs)) : (decide ((m : Int) - fx = 0) || (decide (0 < (m : Int) - fx) && decide (((m : Int) - fx) % rs = 0))) = decide (fx + d = m) := by
  rw [Bool.eq_iff_iff]
  simp only [Bool.or_eq_true, Bool.and_eq_true, decide_eq_true_eq]
  constructor
  · rintro (h1 | ⟨h1, h2⟩)
    · rcases h with rfl | h
      · omega
      · have hdz : d = 0 := Nat.eq_zero_of_dvd_of_lt hd (by omega)
        omega
    · have hlt : fx < m := by omega
      have e : ((m : Int) - fx) = ((m - fx : Nat) : Int) := by omega
      rw [e] at h2
      have h3 : rs ∣ (m - fx) := by exact_mod_cast Int.dvd_of_emod_eq_zero h2
      rcases h with rfl | h
      · omega
      · have h4 : rs ∣ d - (m - fx) := Nat.dvd_sub hd h3
        have := Nat.eq_zero_of_dvd_of_lt h4 (by omega)
        omega
  · intro h1
    by_cases hz : (m : Int) - fx = 0
    · exact .inl hz
    · refine .inr ⟨by omega, ?_⟩
      have e : ((m : Int) - fx) = (d : Int) := by omega
      rw [e]
      exact Int.emod_eq_zero_of_dvd (by exact_mod_cast hd)

set_option maxRecDepth 10000 in
set_option maxHeartbeats 4000000 in
theorem refFits_any (n : Int) (a : Option Addr) (m cap : Nat) (zs : List Int) (w : World) (hv : View .u8 w a zs) (hl : zs.length = m) (hm : m ≤ 140737488351232) :
    Calls Tryz.prog 53 #[.int .u16 n, .slice a m cap] w fun e w' => e = .returned (.tuple #[.int .i64 (fitsI (lookF refT n).2 (lookF refT n).1 zs).1, .bool (fitsI (lookF refT n).2 (lookF refT n).1 zs).2]) ∧ Below w.heap.size w w' := by
  have hR := fun w => refOf_any n w
  obtain ⟨mm, hmm⟩ := ofV_look n
  rw [hmm] at hR
  clear hmm
  have HL : Hid (zs.length = m) := hl
  have HLT : Hid (∀ (i : Int) w, i < 9223372036854775808 → _) := fun i w (h : i < 9223372036854775808) => refLetter_any n i w h
  have hs := look_short n
  clear hl
  generalize (lookF refT n).1 = f at *
  generalize (lookF refT n).2 = is at *
  have hs2 := hs
  simp only [shortF, Bool.and_eq_true, decide_eq_true_eq] at hs2
  obtain ⟨⟨⟨s1, s2⟩, s3⟩, s4⟩ := hs2
  clear hs s3 s4
  cases is
  · unfold formV at hR
    clear HLT hv HL hm
    go_enter Tryz.func53, Tryz.ntmps53
    go_wp2_with fail
    refine (hR _).mono ?_
    rintro e w1 ⟨rfl, hb⟩
    clear hR
    go_wp2
    go_ret2
    exact ⟨rfl, hb.alloc hb.size _⟩
  · go_enter Tryz.func53, Tryz.ntmps53
    go_wp2_with fail
    refine (hR _).mono ?_
    rintro e w1 ⟨rfl, hb⟩
    clear hR
    have hbel : Below w.heap.size w (w1.alloc (.cells (frmCells mm f) 64)) := hb.alloc hb.size _
    have hblk := alloc_new w1 (frmCells mm f) 64
    unfold formV
    go_wp2_with fail
    rw [show (w1.alloc (.cells #[.int .u16 mm, .string f.1, .bool f.2.1, .bool f.2.2.1, .string f.2.2.2.1, .string f.2.2.2.2.1, .int .i64 f.2.2.2.2.2.1, .int .u8 f.2.2.2.2.2.2] 64)) = w1.alloc (.cells (frmCells mm f) 64) from rfl]
    have HV : Hid (∀ k, k < m → _) := fun k (hk : k < m) => (hv.below hbel) k (by rw [HL.out]; exact hk)
    have HB : Hid (Below w.heap.size w (w1.alloc (.cells (frmCells mm f) 64))) := hbel
    have HK : Hid ((w1.alloc (.cells (frmCells mm f) 64)).heap[w1.heap.size]? = some (.cells (frmCells mm f) 64 (0, 0))) := hblk
    have HZ : Hid (w1.heap.size < (w1.alloc (.cells (frmCells mm f) 64)).heap.size) := by show _ < _; simp
    generalize w1.alloc (.cells (frmCells mm f) 64) = W at *
    clear hbel hblk hb hv
    go_loopw [4, 5, 8] (fun r b i wr => r = .int .i64 0 ∧ b = .bool false ∧ ∃ k : Nat, k ≤ m ∧ i = .int .i64 k ∧ Below W.heap.size W wr ∧ ∀ j, j < k → badK f zs j = false) (fun _ _ i _ => m - (intOf i).toNat)
    case atStart => exact ⟨rfl, rfl, 0, Nat.zero_le _, rfl, Below.refl _ _, fun j hj => by omega⟩
    case round =>
      obtain ⟨rfl, rfl, k, hk, rfl, hbw, hno⟩ := hrel
      have HO : Hid (∀ j, j < k → badK f zs j = false) := hno
      clear hno
      by_cases hlt : k < m
      · obtain ⟨b, off, rfl, hbs, hcell⟩ := HV.out k hlt
        have HBK : Hid (badK f zs k = ((letterI f k == 0) || !(kindI (letterI f k) == nth zs k))) := rfl
        have HHIT : Hid (badK f zs k = true → fitsI true f zs = ((k : Int), false)) := fun hb => by
          have e := range_find zs.length k (by rw [HL.out]; exact hlt) HO.out hb
          show (match (List.range zs.length).find? (badK f zs) with | some k => ((k : Int), false) | none => _) = _
          rw [e]
        have HS : Hid (badK f zs k = false → ∀ j, j < k + 1 → badK f zs j = false) := fun hb j hj => by
          by_cases e : j = k
          · subst e; exact hb
          · exact HO.out j (by omega)
        have hLt := HLT.out k wr (by omega)
        have hKd := fun w => refKind_any (letterI f k) w
        generalize letterI f k = x at *
        generalize kindI x = y at *
        generalize nth zs k = z at *
        clear HO HV HLT
        go_wp2_with fail
        refine hLt.mono ?_
        rintro e w2 ⟨rfl, hb2⟩
        clear hLt
        have hbW : Below W.heap.size W w2 := hbw.trans (hb2.mono hbw.size)
        have hcw : w2.cell? ⟨b, off + k, none⟩ = some (.int .u8 z) := (hbW.cell (p := ⟨b, off + k, none⟩) hbs).trans hcell
        have hb2s : b < w2.heap.size := Nat.lt_of_lt_of_le hbs hbW.size
        have HW2 : Hid (Below W.heap.size W w2) := hbW
        clear hb2 hbw hcell hbW
        have hki : (k : Int) < (m : Int) := by omega
        have hk0 : (0 : Int) ≤ (k : Int) := by omega
        by_cases hx : x = 0
        · subst hx
          have HE : Hid (fitsI true f zs = ((k : Int), false)) := HHIT.out (by rw [HBK.out]; rfl)
          clear HHIT HS HBK
          go_wp2
          go_quiet (fail)
          go_wp2
          try rw [Exit.noGoto_ret]
          go_ret2
          exact ⟨by rw [HE.out]; rfl, HB.out.trans ((bel_drewN HW2.out _).mono HB.out.size)⟩
        · have hx' : (x == 0) = false := by simpa using hx
          clear hx
          have HY : Hid ((y = z → ∀ j, j < k + 1 → badK f zs j = false) ∧ (y ≠ z → fitsI true f zs = ((k : Int), false))) := ⟨fun h => HS.out (by rw [HBK.out, hx', h]; simp), fun h => HHIT.out (by rw [HBK.out, hx']; simpa using h)⟩
          clear HHIT HS HBK
          go_wp2
          go_region_with ((go_at_call 95; refine (hKd _).mono ?_; rintro e w3 ⟨rfl, hb3⟩; have hcx : w3.cell? ⟨b, off + k, none⟩ = some (.int .u8 z) := (hb3.cell (p := ⟨b, off + k, none⟩) hb2s).trans hcw))
          all_goals
            have HW3 : Hid (Below W.heap.size W w3) := HW2.out.drew.trans (hb3.mono HW2.out.size)
            clear hb3 hcx hKd
            by_cases hy : y = z
            · subst hy
              have HE : Hid (∀ j, j < k + 1 → badK f zs j = false) := HY.out.1 rfl
              clear HY
              go_wp2
              go_roundw
              case rel => exact ⟨rfl, rfl, k + 1, by omega, by go_num, HW3.out, HE.out⟩
              case measure => simp [intOf]; omega
            · have HE : Hid (fitsI true f zs = ((k : Int), false)) := HY.out.2 hy
              have hy' : (y != z) = true := by simpa using hy
              clear HY hy
              go_wp2
              try rw [Exit.noGoto_ret]
              go_ret2
              exact ⟨by rw [HE.out]; rfl, HB.out.trans (HW3.out.mono HB.out.size)⟩
      · obtain rfl : k = m := by omega
        have hno : ∀ j, j < zs.length → badK f zs j = false := fun j hj => HO.out j (by rw [HL.out] at hj; exact hj)
        have HF2 : Hid (fitsI true f zs = if wholeB f k then (0, true) else ((k : Int), false)) := by
          show (match (List.range zs.length).find? (badK f zs) with | some k => ((k : Int), false) | none => if wholeB f zs.length then (0, true) else ((zs.length : Int), false)) = _
          rw [range_not zs.length hno, HL.out]
        have HRS : Hid (f.2.2.2.1.size < k → f.2.2.2.2.1.size ≠ 0) := fun h => rest_of_letters hno (by rw [HL.out]; exact h)
        have HWH : Hid (wholeB f k = (decide ((k : Int) - f.2.2.2.1.size = 0) || (decide (0 < (k : Int) - f.2.2.2.1.size) && decide (((k : Int) - f.2.2.2.1.size) % f.2.2.2.2.1.size = 0)))) := rfl
        have hblk := (hbw.block _ HZ.out).trans HK.out
        obtain ⟨d0, d1, d2, d3, d4, d5, d6, d7, df⟩ := frm_cells hblk
        have HBW : Hid (Below W.heap.size W wr) := hbw
        generalize wholeB f k = y at *
        generalize f.2.2.2.1 = fx at *
        generalize f.2.2.2.2.1 = rs at *
        clear hno HO HV HLT hblk d0 d1 d2 d3 d6 d7 df hbw
        go_wp2
        go_loop [10] (fun i => ∃ d : Nat, i = .int .i64 ((fx.size : Int) + d) ∧ rs.size ∣ d ∧ (d = 0 ∨ fx.size + d < k + rs.size)) (fun i => (k + 1 - (intOf i).toNat))
        case atStart => exact ⟨0, by simp, Nat.dvd_zero _, .inl rfl⟩
        case round =>
          obtain ⟨d, rfl, hd, hd2⟩ := hrel
          have HD : Hid (rs.size ∣ d) := hd
          clear hd
          by_cases hl2 : fx.size + d < k
          · have hr0 : rs.size ≠ 0 := HRS.out (by omega)
            have ht : (fx.size : Int) + (d : Int) < (k : Int) := by omega
            have hdb : (d : Int) ≤ 140737488351232 := by omega
            go_wp2
            go_round
            case rel => exact ⟨d + rs.size, by go_num, Nat.dvd_add HD.out (Nat.dvd_refl _), .inr (by omega)⟩
            case measure => simp [intOf]; omega
          · have ht : ¬ (fx.size : Int) + (d : Int) < (k : Int) := by omega
            have e := rows_whole fx.size rs.size k d HD.out (by omega) hd2
            rw [← HWH.out] at e
            have HD2 : Hid (d = 0 ∨ fx.size + d < k + rs.size) := hd2
            clear HWH hd2
            by_cases hq : fx.size + d = k
            · have ey : y = true := by rw [e]; exact decide_eq_true hq
              subst ey
              have hq' : ((fx.size : Int) + (d : Int) != (k : Int)) = false := by simp; omega
              clear e hq
              go_wp2
              go_ret2
              exact ⟨by rw [HF2.out]; rfl, HB.out.trans (HBW.out.mono HB.out.size)⟩
            · have ey : y = false := by rw [e]; exact decide_eq_false hq
              subst ey
              have hq' : ((fx.size : Int) + (d : Int) != (k : Int)) = true := by simp; omega
              clear e hq
              go_wp2
              go_ret2
              exact ⟨by rw [HF2.out]; rfl, HB.out.trans (HBW.out.mono HB.out.size)⟩

end Go.Proofs.YtmobologlaeefaaGreat

/-
  What Line of the document's answer for layer 7 returns: what holds at its cuts.
-/
namespace Go.Proofs.YtmobologlaeefaaGreat
open Go.RowKit
set_option linter.unusedVariables false
set_option linter.unusedSimpArgs false
set_option maxRecDepth 20000

theorem frame231 (t : Array Value) (h : t.size = 231) : t = #[slot t 0, slot t 1, slot t 2, slot t 3, slot t 4, slot t 5, slot t 6, slot t 7, slot t 8, slot t 9, slot t 10, slot t 11, slot t 12, slot t 13, slot t 14, slot t 15, slot t 16, slot t 17, slot t 18, slot t 19, slot t 20, slot t 21, slot t 22, slot t 23, slot t 24, slot t 25, slot t 26, slot t 27, slot t 28, slot t 29, slot t 30, slot t 31, slot t 32, slot t 33, slot t 34, slot t 35, slot t 36, slot t 37, slot t 38, slot t 39, slot t 40, slot t 41, slot t 42, slot t 43, slot t 44, slot t 45, slot t 46, slot t 47, slot t 48, slot t 49, slot t 50, slot t 51, slot t 52, slot t 53, slot t 54, slot t 55, slot t 56, slot t 57, slot t 58, slot t 59, slot t 60, slot t 61, slot t 62, slot t 63, slot t 64, slot t 65, slot t 66, slot t 67, slot t 68, slot t 69, slot t 70, slot t 71, slot t 72, slot t 73, slot t 74, slot t 75, slot t 76, slot t 77, slot t 78, slot t 79, slot t 80, slot t 81, slot t 82, slot t 83, slot t 84, slot t 85, slot t 86, slot t 87, slot t 88, slot t 89, slot t 90, slot t 91, slot t 92, slot t 93, slot t 94, slot t 95, slot t 96, slot t 97, slot t 98, slot t 99, slot t 100, slot t 101, slot t 102, slot t 103, slot t 104, slot t 105, slot t 106, slot t 107, slot t 108, slot t 109, slot t 110, slot t 111, slot t 112, slot t 113, slot t 114, slot t 115, slot t 116, slot t 117, slot t 118, slot t 119, slot t 120, slot t 121, slot t 122, slot t 123, slot t 124, slot t 125, slot t 126, slot t 127, slot t 128, slot t 129, slot t 130, slot t 131, slot t 132, slot t 133, slot t 134, slot t 135, slot t 136, slot t 137, slot t 138, slot t 139, slot t 140, slot t 141, slot t 142, slot t 143, slot t 144, slot t 145, slot t 146, slot t 147, slot t 148, slot t 149, slot t 150, slot t 151, slot t 152, slot t 153, slot t 154, slot t 155, slot t 156, slot t 157, slot t 158, slot t 159, slot t 160, slot t 161, slot t 162, slot t 163, slot t 164, slot t 165, slot t 166, slot t 167, slot t 168, slot t 169, slot t 170, slot t 171, slot t 172, slot t 173, slot t 174, slot t 175, slot t 176, slot t 177, slot t 178, slot t 179, slot t 180, slot t 181, slot t 182, slot t 183, slot t 184, slot t 185, slot t 186, slot t 187, slot t 188, slot t 189, slot t 190, slot t 191, slot t 192, slot t 193, slot t 194, slot t 195, slot t 196, slot t 197, slot t 198, slot t 199, slot t 200, slot t 201, slot t 202, slot t 203, slot t 204, slot t 205, slot t 206, slot t 207, slot t 208, slot t 209, slot t 210, slot t 211, slot t 212, slot t 213, slot t 214, slot t 215, slot t 216, slot t 217, slot t 218, slot t 219, slot t 220, slot t 221, slot t 222, slot t 223, slot t 224, slot t 225, slot t 226, slot t 227, slot t 228, slot t 229, slot t 230] := (frame_eq t 231 h).trans rfl

theorem refSpot_exact (e p : Int) (w : World) : Calls Tryz.prog 22 #[.int .i64 e, .int .i64 p] w fun x w' => x = .returned (.agg #[.int .i64 e, .int .i64 p]) ∧ w' = w.alloc (.cells #[.int .i64 e, .int .i64 p] 28) := by
  go_enter Tryz.func22, Tryz.ntmps22
  go_wp2
  refine bodyPost_ret (v := .agg #[.int .i64 e, .int .i64 p]) ?_ rfl ⟨rfl, rfl⟩
  simp [results, Tryz.results22, go_sem]

theorem toks_ok {l : List TokT} (h : wOk l = true) {q : Nat} (hq : q < l.length) : tokOk (nthT l q).1 (strI (nthT l q).2.1) = true := by
  have hm : nthT l q ∈ l := by rw [nthT_lt l q hq]; exact List.getElem_mem _
  exact List.all_eq_true.1 h _ hm

/-- The results' boxes, that of no instruction, that of the line's end, the tokens. -/
structure LnS (w : World) (BE : Nat) (len : Int) (a : Option Addr) (l : List TokT) (W : World) : Prop where
  res : W.heap[w.heap.size]? = some (.cells #[.int .u16 0, .int .u32 0, .int .u32 0, .slice none 0 0] 41 (0, 0))
  spot : W.heap[w.heap.size + 1]? = some (.cells #[.int .i64 0, .int .i64 0] 28 (0, 0))
  non : W.heap[w.heap.size + 2]? = some (.cells #[.int .u16 0, .int .u32 0, .int .u32 0, .slice none 0 0] 41 (0, 0))
  fin : W.heap[BE]? = some (.cells #[.int .i64 72, .int .i64 len] 28 (0, 0))
  bel : Below w.heap.size w W
  toks : ToksV W a l
  lt : w.heap.size + 2 < BE
  off : ∀ b off, a = some ⟨b, off, none⟩ → w.heap.size + 2 < b
theorem LnS.size {w W : World} {BE : Nat} {len : Int} {a : Option Addr} {l : List TokT} (h : LnS w BE len a l W) : BE < W.heap.size := (Array.getElem?_eq_some_iff.1 h.fin).1
theorem LnS.below {w W W' : World} {BE : Nat} {len : Int} {a : Option Addr} {l : List TokT} (h : LnS w BE len a l W) (hb : Below W.heap.size W W') : LnS w BE len a l W' := by
  have s := h.size
  have t := h.lt
  exact ⟨(hb.block _ (by omega)).trans h.res, (hb.block _ (by omega)).trans h.spot, (hb.block _ (by omega)).trans h.non, (hb.block _ s).trans h.fin, h.bel.trans (hb.mono h.bel.size), h.toks.below hb, t, h.off⟩
/-- A store above all of it. -/
theorem LnS.far {w W : World} {BE : Nat} {len : Int} {a : Option Addr} {l : List TokT} (h : LnS w BE len a l W) {g : Nat} (hg : BE < g) (ha : ∀ b off, a = some ⟨b, off, none⟩ → b ≠ g) (i : Nat) (v : Value) : LnS w BE len a l (W.setCell ⟨g, i, none⟩ v) := by
  have t := h.lt
  refine ⟨(Below.heap_setCell _ _ _ _ (by simp; omega)).trans h.res, (Below.heap_setCell _ _ _ _ (by simp; omega)).trans h.spot, (Below.heap_setCell _ _ _ _ (by simp; omega)).trans h.non, (Below.heap_setCell _ _ _ _ (by simp; omega)).trans h.fin, h.bel.setCell (by simp; omega) _, ?_, t, h.off⟩
  intro j hj
  obtain ⟨b, off, e, hb, h1, h2, h3⟩ := h.toks j hj
  have hx : (W.setCell ⟨g, i, none⟩ v).heap[b]? = W.heap[b]? := Below.heap_setCell _ _ _ _ (by simpa using ha b off e)
  refine ⟨b, off, e, by simpa using hb, ?_, ?_, ?_⟩
  · simp only [World.cell?, hx] at h1 ⊢; exact h1
  · simp only [World.cell?, hx] at h2 ⊢; exact h2
  · simp only [World.cell?, hx] at h3 ⊢; exact h3
/-- All but a row of one's own is as it was. -/
theorem LnS.row {w W W' : World} {BE : Nat} {len : Int} {a : Option Addr} {l : List TokT} {row : Option Nat} (h : LnS w BE len a l W) (hg : W.grownBy W' row) (hr : ∀ g, row = some g → BE < g ∧ ∀ b off, a = some ⟨b, off, none⟩ → b ≠ g) : LnS w BE len a l W' := by
  have s := h.size
  have t := h.lt
  have key : ∀ i, i ≤ BE → W'.heap[i]? = W.heap[i]? := fun i hi => hg.block i (by omega) (fun e => by have := (hr i e.symm).1; omega)
  have hs := h.bel.size
  refine ⟨(key _ (by omega)).trans h.res, (key _ (by omega)).trans h.spot, (key _ (by omega)).trans h.non, (key _ (by omega)).trans h.fin, ⟨hg.os.trans h.bel.os, hg.tape.trans h.bel.tape, hg.output.trans h.bel.output, Nat.le_trans h.bel.size hg.size, fun i hi => (key i (by omega)).trans (h.bel.block i hi)⟩, ?_, t, h.off⟩
  intro j hj
  obtain ⟨b, off, e, hb, h1, h2, h3⟩ := h.toks j hj
  have hx : W'.heap[b]? = W.heap[b]? := hg.block b hb (fun e' => (hr b e'.symm).2 b off e rfl)
  refine ⟨b, off, e, Nat.lt_of_lt_of_le hb hg.size, ?_, ?_, ?_⟩
  · simp only [World.cell?, hx] at h1 ⊢; exact h1
  · simp only [World.cell?, hx] at h2 ⊢; exact h2
  · simp only [World.cell?, hx] at h3 ⊢; exact h3

/-- The frame: what its slots hold. -/
def FrmL (s : ByteArray) (b : Int) (w : World) (a : Option Addr) (n c BE : Nat) (more : Array Value → Prop) (a' : Act) : Prop := ∃ t : Array Value, a' = { tmps := t, defers := [] } ∧ t.size = 231 ∧ slot t 0 = .string s ∧ slot t 1 = .int .u32 b ∧ slot t 4 = .pointer (some ⟨w.heap.size, 0, none⟩) ∧ slot t 6 = .pointer (some ⟨w.heap.size + 1, 0, none⟩) ∧ slot t 7 = .pointer (some ⟨w.heap.size + 2, 0, none⟩) ∧ slot t 8 = .slice a n c ∧ slot t 10 = .pointer (some ⟨BE, 0, none⟩) ∧ more t

/-- Where a line says no instruction. -/
def LnBad (w : World) (R : LineR) (Q : Exit → Act → World → Prop) : Prop :=
  ∀ (a' : Act) (w' : World) (E P : Int), a'.tmps.getD 4 undef = .pointer (some ⟨w.heap.size, 0, none⟩) → a'.tmps.getD 5 undef = .bool false → a'.tmps.getD 6 undef = .pointer (some ⟨w.heap.size + 1, 0, none⟩) → a'.defers = [] →
    w'.heap[w.heap.size]? = some (.cells #[.int .u16 0, .int .u32 0, .int .u32 0, .slice none 0 0] 41 (0, 0)) → w'.heap[w.heap.size + 1]? = some (.cells #[.int .i64 E, .int .i64 P] 28 (0, 0)) → Below w.heap.size w w' → R = noLine E P → Q .ret a' w'
/-- Where it says one. -/
def LnOk (w : World) (R : LineR) (Q : Exit → Act → World → Prop) : Prop :=
  ∀ (a' : Act) (w' : World) (x : InstT) (ax : Option Addr) (m cx : Nat), a'.tmps.getD 4 undef = .pointer (some ⟨w.heap.size, 0, none⟩) → a'.tmps.getD 5 undef = .bool true → a'.tmps.getD 6 undef = .pointer (some ⟨w.heap.size + 1, 0, none⟩) → a'.defers = [] →
    w'.heap[w.heap.size]? = some (.cells #[.int .u16 x.1, .int .u32 x.2.1, .int .u32 x.2.2.1, .slice ax m cx] 41 (0, 0)) → w'.heap[w.heap.size + 1]? = some (.cells #[.int .i64 0, .int .i64 0] 28 (0, 0)) → Below w.heap.size w w' →
    w'.ownsRow (w.heap.size + 2) 81 3 (.slice ax m cx) m (x.2.2.2.flatMap argC) → x.2.2.2.length = m → R = (x, true, 0, 0) → Q .ret a' w'

def formC (o : Int) (f : Frm) : Array Value := #[.int .u16 o, .string f.1, .bool f.2.1, .bool f.2.2.1, .string f.2.2.2.1, .string f.2.2.2.2.1, .int .i64 f.2.2.2.2.2.1, .int .u8 f.2.2.2.2.2.2]
/-- The form's box and the instruction's. -/
structure LnX (BE FB XB : Nat) (a : Option Addr) (o : Int) (f : Frm) (t r : Int) (v : Value) (W : World) : Prop where
  form : W.heap[FB]? = some (.cells (formC o f) 64 (0, 0))
  inst : W.heap[XB]? = some (.cells #[.int .u16 o, .int .u32 t, .int .u32 r, v] 41 (0, 0))
  lt1 : BE < FB
  lt2 : FB < XB
  far : ∀ b off, a = some ⟨b, off, none⟩ → b < FB
theorem LnX.size {BE FB XB : Nat} {a : Option Addr} {o : Int} {f : Frm} {t r : Int} {v : Value} {W : World} (h : LnX BE FB XB a o f t r v W) : XB < W.heap.size := (Array.getElem?_eq_some_iff.1 h.inst).1
theorem LnX.below {BE FB XB : Nat} {a : Option Addr} {o : Int} {f : Frm} {t r : Int} {v : Value} {W W' : World} (h : LnX BE FB XB a o f t r v W) (hb : Below W.heap.size W W') : LnX BE FB XB a o f t r v W' := by
  have s := h.size
  have t := h.lt2
  exact ⟨(hb.block _ (by omega)).trans h.form, (hb.block _ s).trans h.inst, h.lt1, t, h.far⟩
theorem LnX.row {BE FB XB : Nat} {a : Option Addr} {o : Int} {f : Frm} {t r : Int} {v : Value} {W W' : World} {row : Option Nat} (h : LnX BE FB XB a o f t r v W) (hg : W.grownBy W' row) (hr : ∀ g, row = some g → XB < g) : LnX BE FB XB a o f t r v W' := by
  have s := h.size
  have t := h.lt2
  have key : ∀ i, i ≤ XB → W'.heap[i]? = W.heap[i]? := fun i hi => hg.block i (by omega) (fun e => by have := hr i e.symm; omega)
  exact ⟨(key _ (by omega)).trans h.form, (key _ (by omega)).trans h.inst, h.lt1, t, h.far⟩
theorem LnX.put {BE FB XB : Nat} {a : Option Addr} {o : Int} {f : Frm} {t r : Int} {v : Value} {W : World} (h : LnX BE FB XB a o f t r v W) (i : Nat) (u : Value) (t' r' : Int) (v' : Value) (ho : (W.setCell ⟨XB, i, none⟩ u).heap[XB]? = some (.cells #[.int .u16 o, .int .u32 t', .int .u32 r', v'] 41 (0, 0))) : LnX BE FB XB a o f t' r' v' (W.setCell ⟨XB, i, none⟩ u) := by
  have t := h.lt2
  exact ⟨(Below.heap_setCell _ _ _ _ (by simp; omega)).trans h.form, ho, h.lt1, t, h.far⟩
theorem LnX.setType {BE FB XB : Nat} {a : Option Addr} {o : Int} {f : Frm} {t r : Int} {v : Value} {W : World} (h : LnX BE FB XB a o f t r v W) (x : Int) : LnX BE FB XB a o f x r v (W.setCell ⟨XB, 1, none⟩ (.int .u32 x)) := h.put 1 _ x r v (by have := h.inst; simp [World.setCell, Array.getElem?_modify, this])
theorem LnX.setResult {BE FB XB : Nat} {a : Option Addr} {o : Int} {f : Frm} {t r : Int} {v : Value} {W : World} (h : LnX BE FB XB a o f t r v W) (x : Int) : LnX BE FB XB a o f t x v (W.setCell ⟨XB, 2, none⟩ (.int .u32 x)) := h.put 2 _ t x v (by have := h.inst; simp [World.setCell, Array.getElem?_modify, this])
theorem LnX.setArgs {BE FB XB : Nat} {a : Option Addr} {o : Int} {f : Frm} {t r : Int} {v : Value} {W : World} (h : LnX BE FB XB a o f t r v W) (x : Value) : LnX BE FB XB a o f t r x (W.setCell ⟨XB, 3, none⟩ x) := h.put 3 _ t r x (by have := h.inst; simp [World.setCell, Array.getElem?_modify, this])

/-- At region 16, 29, 38, 47. -/
def LnJ1 (s : ByteArray) (b : Int) (w : World) (l : List TokT) (R : LineR) (a' : Act) (w' : World) : Prop := ∃ (a : Option Addr) (c BE at_ : Nat) (said : Bool), FrmL s b w a l.length c BE (fun t => slot t 11 = .bool said ∧ slot t 12 = .int .i64 (at_ : Int)) a' ∧ LnS w BE (s.size : Int) a l w' ∧ at_ < l.length ∧ said = ((nthT l 0).1 == 2) ∧ R = lineO said l at_ (s.size : Int) b
def LnJ2 (s : ByteArray) (b : Int) (w : World) (l : List TokT) (R : LineR) (a' : Act) (w' : World) : Prop := ∃ (a : Option Addr) (c BE FB XB at_ o : Nat) (r : Int), FrmL s b w a l.length c BE (fun t => slot t 12 = .int .i64 (at_ : Int) ∧ slot t 13 = .pointer (some ⟨FB, 0, none⟩) ∧ slot t 15 = .pointer (some ⟨XB, 0, none⟩)) a' ∧ LnS w BE (s.size : Int) a l w' ∧ LnX BE FB XB a o (opF o) 0 r (.slice none 0 0) w' ∧ at_ < l.length ∧ ResOk o r b ∧ R = lineT o (opF o) r l (at_ + 1) (s.size : Int) b
def LnJ3 (s : ByteArray) (b : Int) (w : World) (l : List TokT) (R : LineR) (a' : Act) (w' : World) : Prop := ∃ (a : Option Addr) (c BE FB XB at_ o : Nat) (t r : Int), FrmL s b w a l.length c BE (fun u => slot u 12 = .int .i64 (at_ : Int) ∧ slot u 13 = .pointer (some ⟨FB, 0, none⟩) ∧ slot u 15 = .pointer (some ⟨XB, 0, none⟩)) a' ∧ LnS w BE (s.size : Int) a l w' ∧ LnX BE FB XB a o (opF o) t r (.slice none 0 0) w' ∧ at_ ≤ l.length ∧ HeadOk o t r b ∧ R = lineA o (opF o) t r l at_ (s.size : Int) b
def LnJ4 (s : ByteArray) (b : Int) (w : World) (l : List TokT) (R : LineR) (a' : Act) (w' : World) : Prop := ∃ (a : Option Addr) (c BE FB XB at_ o : Nat) (t r : Int) (ax ak : Option Addr) (m cx ck : Nat), FrmL s b w a l.length c BE (fun u => slot u 13 = .pointer (some ⟨FB, 0, none⟩) ∧ slot u 15 = .pointer (some ⟨XB, 0, none⟩) ∧ slot u 20 = .slice ak m ck) a' ∧ LnS w BE (s.size : Int) a l w' ∧ LnX BE FB XB a o (opF o) t r (.slice ax m cx) w' ∧ at_ + m = l.length ∧ HeadOk o t r b ∧ R = lineA o (opF o) t r l at_ (s.size : Int) b ∧
  w'.ownsRow (XB + 1) 81 3 (.slice ax m cx) m ((argsN (opF o) b l at_ m).flatMap argC) ∧ View .u8 w' ak (kindsL (argsN (opF o) b l at_ m)) ∧ ∀ i, i < m → argE (letterI (opF o) i) (nthT l (at_ + i)) b = 0

/-- All blocks that were there, two aside, are as they were. -/
def Aside (W : World) (b : Nat) (wx : World) : Prop := W.heap.size ≤ wx.heap.size ∧ ∀ k, k < W.heap.size → k ≠ b → k ≠ b + 1 → wx.heap[k]? = W.heap[k]?
theorem Aside.refl (W : World) (b : Nat) : Aside W b W := ⟨Nat.le_refl _, fun _ _ _ _ => rfl⟩
theorem Aside.drew {W wx : World} {b : Nat} (h : Aside W b wx) : Aside W b wx.drew := h
theorem Aside.set0 {W wx : World} {b : Nat} (h : Aside W b wx) (i : Nat) (v : Value) : Aside W b (wx.setCell ⟨b, i, none⟩ v) := ⟨by simpa using h.1, fun k h1 h2 h3 => (Below.heap_setCell _ _ _ _ (by simpa using h2)).trans (h.2 k h1 h2 h3)⟩
theorem Aside.set1 {W wx : World} {b : Nat} (h : Aside W b wx) (i : Nat) (v : Value) : Aside W b (wx.setCell ⟨b + 1, i, none⟩ v) := ⟨by simpa using h.1, fun k h1 h2 h3 => (Below.heap_setCell _ _ _ _ (by simpa using h3)).trans (h.2 k h1 h2 h3)⟩
theorem Aside.alloc {W wx : World} {b : Nat} (h : Aside W b wx) (o : Obj) : Aside W b (wx.alloc o) := ⟨Nat.le_trans h.1 (by simp), fun k h1 h2 h3 => (Below.heap_alloc _ _ _ (Nat.lt_of_lt_of_le h1 h.1)).trans (h.2 k h1 h2 h3)⟩
theorem Aside.cell {W wx : World} {b : Nat} (h : Aside W b wx) {k i : Nat} {v : Value} (h1 : k < W.heap.size) (h2 : k ≠ b) (h3 : k ≠ b + 1) (hc : W.cell? ⟨k, i, none⟩ = some v) : wx.cell? ⟨k, i, none⟩ = some v := by
  simp only [World.cell?] at hc ⊢
  rw [h.2 k h1 h2 h3]
  exact hc

/-- While a line that says nothing is returned. -/
structure LeafC (w W wx : World) : Prop where
  aside : Aside W w.heap.size wx
  res : wx.heap[w.heap.size]? = some (.cells #[.int .u16 0, .int .u32 0, .int .u32 0, .slice none 0 0] 41 (0, 0))
  spot : ∃ y0 y1, wx.heap[w.heap.size + 1]? = some (.cells #[y0, y1] 28 (0, 0))
  bel : Below w.heap.size w wx
theorem LeafC.start {w W : World} {BE : Nat} {len : Int} {a : Option Addr} {l : List TokT} (h : LnS w BE len a l W) : LeafC w W W.drew := ⟨Aside.refl _ _, h.res, ⟨_, _, h.spot⟩, h.bel.drew⟩
theorem LeafC.alloc {w W wx : World} (h : LeafC w W wx) (o : Obj) : LeafC w W (wx.alloc o) := by
  obtain ⟨y0, y1, hy⟩ := h.spot
  exact ⟨h.aside.alloc o, (Below.heap_alloc _ _ _ (Array.getElem?_eq_some_iff.1 h.res).1).trans h.res, ⟨y0, y1, (Below.heap_alloc _ _ _ (Array.getElem?_eq_some_iff.1 hy).1).trans hy⟩, h.bel.alloc h.bel.size _⟩
theorem LeafC.zero {w W wx : World} (h : LeafC w W wx) : LeafC w W ((((wx.setCell ⟨w.heap.size, 0, none⟩ (.int .u16 0)).setCell ⟨w.heap.size, 1, none⟩ (.int .u32 0)).setCell ⟨w.heap.size, 2, none⟩ (.int .u32 0)).setCell ⟨w.heap.size, 3, none⟩ (.slice none 0 0)) ∧ ((((wx.setCell ⟨w.heap.size, 0, none⟩ (.int .u16 0)).setCell ⟨w.heap.size, 1, none⟩ (.int .u32 0)).setCell ⟨w.heap.size, 2, none⟩ (.int .u32 0)).setCell ⟨w.heap.size, 3, none⟩ (.slice none 0 0)).heap[w.heap.size + 1]? = wx.heap[w.heap.size + 1]? := by
  have k : ((((wx.setCell ⟨w.heap.size, 0, none⟩ (.int .u16 0)).setCell ⟨w.heap.size, 1, none⟩ (.int .u32 0)).setCell ⟨w.heap.size, 2, none⟩ (.int .u32 0)).setCell ⟨w.heap.size, 3, none⟩ (.slice none 0 0)).heap[w.heap.size + 1]? = wx.heap[w.heap.size + 1]? := by
    rw [Below.heap_setCell _ _ _ _ (by simp), Below.heap_setCell _ _ _ _ (by simp), Below.heap_setCell _ _ _ _ (by simp), Below.heap_setCell _ _ _ _ (by simp)]
  obtain ⟨y0, y1, hy⟩ := h.spot
  refine ⟨⟨(((h.aside.set0 _ _).set0 _ _).set0 _ _).set0 _ _, ?_, ⟨y0, y1, k.trans hy⟩, (((h.bel.setCell (Nat.le_refl _) _).setCell (Nat.le_refl _) _).setCell (Nat.le_refl _) _).setCell (Nat.le_refl _) _⟩, k⟩
  have := h.res
  simp [World.setCell, Array.getElem?_modify, this]
theorem LeafC.put {w W wx : World} (h : LeafC w W wx) (v0 v1 : Value) : LeafC w W ((wx.setCell ⟨w.heap.size + 1, 0, none⟩ v0).setCell ⟨w.heap.size + 1, 1, none⟩ v1) ∧ ((wx.setCell ⟨w.heap.size + 1, 0, none⟩ v0).setCell ⟨w.heap.size + 1, 1, none⟩ v1).heap[w.heap.size + 1]? = some (.cells #[v0, v1] 28 (0, 0)) := by
  obtain ⟨y0, y1, hy⟩ := h.spot
  obtain ⟨g1, g2⟩ := two_putB hy v0 v1
  exact ⟨⟨(h.aside.set1 _ _).set1 _ _, (g2.block _ (by omega)).trans h.res, ⟨v0, v1, g1⟩, h.bel.trans (g2.mono (by omega))⟩, g1⟩
theorem LeafC.cells {w W wx : World} (h : LeafC w W wx) : (wx.cell? ⟨w.heap.size, 0, none⟩ = some (.int .u16 0) ∧ wx.cell? ⟨w.heap.size, 1, none⟩ = some (.int .u32 0) ∧ wx.cell? ⟨w.heap.size, 2, none⟩ = some (.int .u32 0) ∧ wx.cell? ⟨w.heap.size, 3, none⟩ = some (.slice none 0 0) ∧ ∀ i, wx.frozen? ⟨w.heap.size, i, none⟩ = false) ∧ ∃ y0 y1, wx.cell? ⟨w.heap.size + 1, 0, none⟩ = some y0 ∧ wx.cell? ⟨w.heap.size + 1, 1, none⟩ = some y1 ∧ ∀ i, wx.frozen? ⟨w.heap.size + 1, i, none⟩ = false := by
  obtain ⟨c1, f1⟩ := blk_cells h.res
  obtain ⟨y0, y1, hy⟩ := h.spot
  obtain ⟨c2, f2⟩ := blk_cells hy
  exact ⟨⟨c1 0, c1 1, c1 2, c1 3, f1⟩, y0, y1, c2 0, c2 1, f2⟩

/-- The results' boxes are written. -/
theorem LnS.put {w W : World} {BE : Nat} {len : Int} {a : Option Addr} {l : List TokT} (h : LnS w BE len a l W) (u0 u1 u2 u3 v0 v1 : Value) (o : Obj) : let X := ((((((W.setCell ⟨w.heap.size, 0, none⟩ u0).setCell ⟨w.heap.size, 1, none⟩ u1).setCell ⟨w.heap.size, 2, none⟩ u2).setCell ⟨w.heap.size, 3, none⟩ u3).setCell ⟨w.heap.size + 1, 0, none⟩ v0).setCell ⟨w.heap.size + 1, 1, none⟩ v1)
    (X.heap[w.heap.size]? = some (.cells #[u0, u1, u2, u3] 41 (0, 0)) ∧ X.heap[w.heap.size + 1]? = some (.cells #[v0, v1] 28 (0, 0)) ∧ Below w.heap.size w X) ∧ ((X.alloc o).heap[w.heap.size]? = some (.cells #[u0, u1, u2, u3] 41 (0, 0)) ∧ (X.alloc o).heap[w.heap.size + 1]? = some (.cells #[v0, v1] 28 (0, 0)) ∧ Below w.heap.size w (X.alloc o)) := by
  intro X
  obtain ⟨r1, r2, r3⟩ := six_put h.res h.spot u0 u1 u2 u3 v0 v1
  have s := h.size
  have t := h.lt
  have hx : X.heap.size = W.heap.size := by simp [X]
  have hb := h.bel.trans r3
  exact ⟨⟨r1, r2, hb⟩, (Below.heap_alloc _ _ _ (by omega)).trans r1, (Below.heap_alloc _ _ _ (by omega)).trans r2, hb.alloc hb.size _⟩
theorem LnS.cells {w W : World} {BE : Nat} {len : Int} {a : Option Addr} {l : List TokT} (h : LnS w BE len a l W) : (W.cell? ⟨w.heap.size, 0, none⟩ = some (.int .u16 0) ∧ W.cell? ⟨w.heap.size, 1, none⟩ = some (.int .u32 0) ∧ W.cell? ⟨w.heap.size, 2, none⟩ = some (.int .u32 0) ∧ W.cell? ⟨w.heap.size, 3, none⟩ = some (.slice none 0 0) ∧ ∀ i, W.frozen? ⟨w.heap.size, i, none⟩ = false) ∧ (W.cell? ⟨w.heap.size + 1, 0, none⟩ = some (.int .i64 0) ∧ W.cell? ⟨w.heap.size + 1, 1, none⟩ = some (.int .i64 0) ∧ ∀ i, W.frozen? ⟨w.heap.size + 1, i, none⟩ = false) ∧
    (W.cell? ⟨w.heap.size + 2, 0, none⟩ = some (.int .u16 0) ∧ W.cell? ⟨w.heap.size + 2, 1, none⟩ = some (.int .u32 0) ∧ W.cell? ⟨w.heap.size + 2, 2, none⟩ = some (.int .u32 0) ∧ W.cell? ⟨w.heap.size + 2, 3, none⟩ = some (.slice none 0 0)) ∧ (W.cell? ⟨BE, 0, none⟩ = some (.int .i64 72) ∧ W.cell? ⟨BE, 1, none⟩ = some (.int .i64 len)) := by
  obtain ⟨c1, f1⟩ := blk_cells h.res
  obtain ⟨c2, f2⟩ := blk_cells h.spot
  obtain ⟨c3, f3⟩ := blk_cells h.non
  obtain ⟨c4, f4⟩ := blk_cells h.fin
  exact ⟨⟨c1 0, c1 1, c1 2, c1 3, f1⟩, ⟨c2 0, c2 1, f2⟩, ⟨c3 0, c3 1, c3 2, c3 3⟩, ⟨c4 0, c4 1⟩⟩

end Go.Proofs.YtmobologlaeefaaGreat
