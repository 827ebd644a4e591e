/-
  Lines of the layer lex, and what its iterator tells: the lines of the text, each with its number.
-/
import Derived.RangeFuncNested
import Derived.RangeFuncBound
import Derived.RangeFuncCalls
import Derived.RangeFuncLeaves
import Derived.Shelf.Abstract
import Derived.Shelf.RegionOpen
import Derived.WalkKit
import Derived.OwnWalkIn
import Derived.TacticsInMore
import Derived.LoopNIn
import Derived.LoopIn
import Derived.Test.YtccllonkhklldaaIter
import Derived.Test.YtccllonkhklldaaBoxes
import Derived.Test.YtccllonkhklldaaStringsCut
import Derived.Test.YtccllonkhklldaaStringsClone
namespace Go.Proofs.Ytccllonkhklldaa
open Go.RowKit Go.Shelf Go.Lib
set_option maxRecDepth 10000
attribute [local go_sem] Oper.semAt_some
set_option linter.unusedVariables false
set_option linter.unusedSimpArgs false

/-- What is told of a line. -/
def lineV (x : Nat × ByteArray) : Array Value := #[.int .i64 x.1, .string x.2]
def sizeV : Value → Nat
  | .string s => s.size
  | _ => 0

theorem lines_any (s : ByteArray) (w : World) : Calls Try.prog 17 #[.string s] w fun e w' => e = .returned (.func (.func 31) #[] #[.pointer (some ⟨w.heap.size, 0, none⟩)]) ∧ w' = w.alloc (.cells #[.string s] 9) := by
  go_enter Try.func17, Try.ntmps17
  go_wp2
  go_ret
  exact ⟨rfl, rfl⟩

theorem size_not (s : ByteArray) (h : s.size = 0) : s.toList.isEmpty = true := by
  rw [ByteArray.toList_eq]
  have : s.data.toList = [] := by rw [← List.length_eq_zero_iff, Array.length_toList]; exact h
  rw [this]; rfl
theorem size_some (s : ByteArray) (h : s.size ≠ 0) : s.toList.isEmpty = false := by
  rw [ByteArray.toList_eq]
  cases e : s.data.toList with
  | nil => exact absurd (by rw [← show s.data.size = s.size from rfl, ← Array.length_toList, e]; rfl) h
  | cons x l => rfl

set_option maxRecDepth 100000 in
set_option maxHeartbeats 2000000 in
theorem lines_tells (s : ByteArray) (hs : s.size ≤ 140737488351232) (b : Nat) (n0 : Nat) (τ : TypeId → Prop) (w : World) (hb : w.heap[b]? = some (.cells #[.string s] 9 (0, 0))) :
    Tells Try.prog 31 #[.pointer (some ⟨b, 0, none⟩)] lineV (fun pre x _ => pre ++ [x] <+: linesT s) n0 τ (fun xs => xs = linesT s) (fun pre => pre <+: linesT s) w := by
  intro l J Jx W hW hJ hJx hY h0
  have HY : Hid (∀ pre x W1, J pre W1 → pre ++ [x] <+: linesT s → _) := hY
  have hbl : b < w.heap.size := (Array.getElem?_eq_some_iff.1 hb).1
  obtain ⟨c0, _⟩ := oneCell ((hW.block b hbl).trans hb)
  clear hY hW hb
  refine callsIn_of_wp Try.func31 rfl trivial ?_ rfl
  simp only [Try.ntmps31, List.size_toArray, List.length_cons, List.length_nil, Nat.reduceAdd, Nat.reduceSub, Array.replicate_succ, Array.replicate_zero, List.push_toArray, List.append_toArray, List.nil_append, List.cons_append]
  gi_wp2
  gi_loopw [3, 4] (fun t i wr => ∃ (z : ByteArray) (pre : List (Nat × ByteArray)) (f : Nat), t = .string z ∧ i = .int .i64 ((pre.length : Int) + 1) ∧ z.size ≤ f ∧ pre.length + z.size ≤ s.size ∧ pre ++ linesF f (pre.length + 1) z = linesT s ∧ J pre wr) (fun t _ _ => sizeV t)
  case atStart => exact ⟨s, [], s.size, rfl, rfl, Nat.le_refl _, by simp, rfl, h0⟩
  case round =>
    obtain ⟨z, pre, f, rfl, rfl, hf, hsz, hpre, hJs⟩ := hrel
    clear h0
    by_cases hz : z.size = 0
    · have HJ : Hid (pre = linesT s ∧ J pre wr) := ⟨by rw [← hpre, linesF_empty _ _ _ hz, List.append_nil], hJs⟩
      have hz' := size_not z hz
      clear hJs HY hpre
      gi_wp2
      go_end0
      exact ⟨⟨_, rfl⟩, .inl ⟨_, HJ.out.1, HJ.out.2⟩⟩
    · obtain ⟨f', e1, hf'⟩ := linesF_step f (pre.length + 1) z hz hf
      have hZ := cutZ_size z hz
      have hA := cutA_size z
      have hz' := size_some z hz
      have HPX : Hid (pre ++ [(pre.length + 1, cutA z)] <+: linesT s) := ⟨linesF f' (pre.length + 1 + 1) (cutZ z), by rw [← hpre, e1]; simp⟩
      have HN : Hid ((pre ++ [(pre.length + 1, cutA z)]) ++ linesF f' ((pre ++ [(pre.length + 1, cutA z)]).length + 1) (cutZ z) = linesT s) := by show _ = _; rw [← hpre, e1]; simp
      have hC := fun wx => cut_any z wx (by omega)
      have hD := fun wx => stringsClone_any (cutA z) wx (by omega)
      have HJ : Hid (J pre wr) := hJs
      have HZ : Hid ((cutZ z).size < z.size ∧ (cutZ z).size ≤ f') := ⟨hZ, hf'⟩
      clear hJs hpre e1 hZ hA hf hf'
      generalize cutA z = la at *
      generalize cutZ z = lz at *
      gi_wp2_with fail
      refine ⟨trivial, rfl, (callsIn_wide.2 (hC _)).mono ?_⟩
      rintro e w' ⟨⟨bb, rfl⟩, hB1⟩
      gi_wp2_with fail
      refine ⟨trivial, rfl, (callsIn_wide.2 (hD _)).mono ?_⟩
      rintro e W2 ⟨rfl, hB2⟩
      obtain ⟨fn, tmps, assign, body, hy, hR⟩ := HY.out pre (pre.length + 1, la) W2 (OwnFrom.below hJ HJ.out (hB1.trans (hB2.mono hB1.size))) HPX.out
      simp only [lineV, Int.natCast_add, Int.natCast_one] at hy
      clear HY hC hD
      gi_wp2_with fail
      refine ⟨rfl, hR.mono ?_⟩
      rintro e W3 ⟨hkf, ⟨rfl, hJ3, hk3⟩ | ⟨rfl, hJx3⟩⟩
      · have HJ3 : Hid (J (pre ++ [(pre.length + 1, la)]) W3) := hJ3
        clear hy hR hkf hk3 hJ3
        gi_wp2
        go_roundw
        case rel => exact ⟨lz, pre ++ [(pre.length + 1, la)], f', rfl, by simp, HZ.out.2, by have := HZ.out.1; simp; omega, HN.out, HJ3.out⟩
        case measure => have := HZ.out.1; simp only [sizeV]; omega
      · clear hy hR hkf
        gi_wp2
        refine bodyPost_ret (results_none rfl _ _ _) rfl ?_
        exact ⟨⟨_, rfl⟩, .inr ⟨_, HPX.out, hJx3⟩⟩

end Go.Proofs.Ytccllonkhklldaa
