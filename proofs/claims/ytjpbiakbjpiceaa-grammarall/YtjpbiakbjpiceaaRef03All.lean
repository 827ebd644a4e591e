/-
  What All of the document's answer returns: a list of its own with all forms, rising by their operations.
-/
import Derived.WalkSpells
import Derived.WalkMore
import Derived.Laws.AppendOwn
import Derived.Deep.AppendLies
import Derived.Test.YtjpbiakbjpiceaaRef03Of
import Derived.Test.YtjpbiakbjpiceaaGrammarFormTexts
import Derived.Test.YtjpbiakbjpiceaaRef03Letter
namespace Go.Proofs.Ytjpbiakbjpiceaa
open Go.RowKit
set_option linter.unusedVariables false
set_option linter.unusedSimpArgs false

/-- The cells of an operation's form. -/
def opCells (k : Nat) : List Value := (frmCells k (lookF refT k).1).toList

theorem ops_len (k : Nat) : (opsTo k).length ≤ k := by
  induction k with
  | zero => exact Nat.le_refl _
  | succ k ih =>
    rw [opsTo]
    split
    · omega
    · rw [List.length_append, List.length_singleton]; omega

theorem is_text (k : Nat) : (lookF refT k).2 = true ↔ ¬ (ftxt k).size = 0 := by
  obtain ⟨_, _, _, h4, h5⟩ := ftxt_ok k
  constructor
  · exact h4
  · intro h
    cases e : (lookF refT k).2
    · rw [h5 e] at h; exact absurd rfl h
    · rfl

theorem formInfo : ∃ i0, Try.prog.info? 24 = some i0 ∧ i0.zero = some (formV 0 noFrm) ∧ i0.size = 8 ∧ i0.bytes = 80 ∧ (formV 0 noFrm).cells.size = 8 := ⟨_, rfl, rfl, rfl, rfl, rfl⟩

set_option maxRecDepth 10000 in
set_option maxHeartbeats 2000000 in
theorem refAll_any (w : World) : Calls Try.prog 23 #[] w fun e w' => ∃ v, e = .returned v ∧ w'.ownsRow w.heap.size 24 8 v opsL.length (opsL.flatMap opCells) ∧ Below w.heap.size w w' := by
  obtain ⟨i0, hi, hz0, hz1, hz2, hz3⟩ := formInfo
  have HI : Hid (Try.prog.info? 24 = some i0 ∧ i0.zero = some (formV 0 noFrm) ∧ i0.size = 8 ∧ i0.bytes = 80 ∧ (formV 0 noFrm).cells.size = 8) := ⟨hi, hz0, hz1, hz2, hz3⟩
  clear hi hz0 hz1 hz2 hz3
  go_enter Try.func23, Try.ntmps23
  go_wp2
  go_loopw [1, 2] (fun v i wr => ∃ k : Nat, k ≤ 256 ∧ i = .int .i64 k ∧ wr.ownsRow w.heap.size 24 8 v (opsTo k).length ((opsTo k).flatMap opCells) ∧ Below w.heap.size w wr) (fun _ i _ => 256 - (intOf i).toNat)
  case atStart => exact ⟨0, by omega, rfl, World.ownsRow_nil _ _ _ _, Below.refl _ _⟩
  case round =>
    obtain ⟨k, hk, rfl, hown, hb⟩ := hrel
    by_cases hlt : k < 256
    · have hlt' : (k : Int) < 256 := by omega
      have hR := fun w => refOf_any k w
      obtain ⟨m, hm⟩ := ofV_look k
      cases his : (lookF refT k).2
      · rw [hm, his] at hR
        have HN : Hid (opsTo (k + 1) = opsTo k) := by
          show _ = _
          rw [opsTo, if_pos]
          have := mt (is_text k).2
          rw [his] at this
          simpa using this
        generalize (lookF refT k).1 = f at *
        clear hm his
        unfold formV at hR
        have hbs := hb.size
        go_wp2_with fail
        refine (hR _).mono ?_
        rintro e w1 ⟨rfl, hb1⟩
        clear hR
        have HB : Hid (Below w.heap.size w (w1.alloc (.cells #[.int .u16 m, .string f.1, .bool f.2.1, .bool f.2.2.1, .string f.2.2.2.1, .string f.2.2.2.2.1, .int .i64 f.2.2.2.2.2.1, .int .u8 f.2.2.2.2.2.2] 24))) := (hb.trans (hb1.mono hbs)).alloc (by have := hb1.size; omega) _
        have HO : Hid ((w1.alloc (.cells #[.int .u16 m, .string f.1, .bool f.2.1, .bool f.2.2.1, .string f.2.2.2.1, .string f.2.2.2.2.1, .int .i64 f.2.2.2.2.2.1, .int .u8 f.2.2.2.2.2.2] 24)).ownsRow w.heap.size 24 8 u1 (opsTo k).length ((opsTo k).flatMap opCells)) := (own_below hown hb1).alloc _
        clear hb hb1 hown hbs
        go_wp2
        go_roundw
        case rel => exact ⟨k + 1, by omega, by go_num, by rw [HN.out]; exact HO.out, HB.out⟩
        case measure => simp [intOf]; omega
      · rw [show ofV k = formV k (lookF refT k).1 by unfold ofV; rw [his]; rfl, his] at hR
        have HN : Hid (opsTo (k + 1) = opsTo k ++ [k]) := by
          show _ = _
          rw [opsTo, if_neg ((is_text k).1 his)]
        have HC : Hid ([(.int .u16 k : Value), .string (lookF refT k).1.1, .bool (lookF refT k).1.2.1, .bool (lookF refT k).1.2.2.1, .string (lookF refT k).1.2.2.2.1, .string (lookF refT k).1.2.2.2.2.1, .int .i64 (lookF refT k).1.2.2.2.2.2.1, .int .u8 (lookF refT k).1.2.2.2.2.2.2] = opCells k) := rfl
        have hol := ops_len k
        generalize (lookF refT k).1 = f at *
        clear hm his
        unfold formV at hR
        have hbs := hb.size
        go_wp2_with fail
        refine (hR _).mono ?_
        rintro e w1 ⟨rfl, hb1⟩
        clear hR
        have s1 := hb1.size
        have hb2 : Below w.heap.size w (w1.alloc (.cells #[.int .u16 k, .string f.1, .bool f.2.1, .bool f.2.2.1, .string f.2.2.2.1, .string f.2.2.2.2.1, .int .i64 f.2.2.2.2.2.1, .int .u8 f.2.2.2.2.2.2] 24)) := (hb.trans (hb1.mono hbs)).alloc (by omega) _
        have HO : Hid ((w1.alloc (.cells #[.int .u16 k, .string f.1, .bool f.2.1, .bool f.2.2.1, .string f.2.2.2.1, .string f.2.2.2.2.1, .int .i64 f.2.2.2.2.2.1, .int .u8 f.2.2.2.2.2.2] 24)).ownsRow w.heap.size 24 8 u1 (opsTo k).length ((opsTo k).flatMap opCells)) := (own_below hown hb1).alloc _
        have HB : Hid (Below w.heap.size w (w1.alloc (.cells #[.int .u16 k, .string f.1, .bool f.2.1, .bool f.2.2.1, .string f.2.2.2.1, .string f.2.2.2.2.1, .int .i64 f.2.2.2.2.2.1, .int .u8 f.2.2.2.2.2.2] 24))) := hb2
        clear hb hb1 hown hb2
        go_wp2_with (at_builtin; refine wpList_append_own _ rfl (.tmp 16) (.tmp 18) 43 rfl w.heap.size 24 i0 (formV 0 noFrm) 8 80 Try.underlying43 HI.out.1 HI.out.2.1 HI.out.2.2.1 HI.out.2.2.2.1 HI.out.2.2.2.2 (by omega) u1 (opsTo k).length ((opsTo k).flatMap opCells) rfl (HO.out.alloc _) ⟨w1.heap.size + 1, 0, none⟩ 1 1 [.int .u16 k, .string f.1, .bool f.2.1, .bool f.2.2.1, .string f.2.2.2.1, .string f.2.2.2.2.1, .int .i64 f.2.2.2.2.2.1, .int .u8 f.2.2.2.2.2.2] rfl rfl (World.news_of_block (cs := #[.int .u16 k, .string f.1, .bool f.2.1, .bool f.2.2.1, .string f.2.2.2.1, .string f.2.2.2.2.1, .int .i64 f.2.2.2.2.2.1, .int .u8 f.2.2.2.2.2.2]) (t := 24) (fr := (0, 0)) (allocNew _ _ (by simp))) (by simp [Value.oneCell']) (by unfold maxLen; omega) (by omega) (by simp; omega) ?_)
        intro v' w' hown' hgr _
        have HO2 : Hid (w'.ownsRow w.heap.size 24 8 v' (opsTo (k + 1)).length ((opsTo (k + 1)).flatMap opCells)) := by
          show World.ownsRow _ _ _ _ _ _ _
          rw [HN.out, List.length_append, List.length_singleton, List.flatMap_append, List.flatMap_singleton, ← HC.out]
          exact hown'
        have HB2 : Hid (Below w.heap.size w w') := (HB.out.alloc (by simp; omega) _).grown hgr (by simp; omega) (fun j hj => (HO.out.lt j hj).1)
        clear hown' hgr HO HB
        go_wp2
        go_roundw
        case rel => exact ⟨k + 1, by omega, by go_num, HO2.out, HB2.out⟩
        case measure => simp [intOf]; omega
    · obtain rfl : k = 256 := by omega
      have HO : Hid (wr.ownsRow w.heap.size 24 8 u1 opsL.length (opsL.flatMap opCells)) := hown
      clear hown
      go_wp2
      go_ret
      exact ⟨u1, rfl, HO.out, hb⟩

end Go.Proofs.Ytjpbiakbjpiceaa
