/-
  Lines of the document's answer: the lines of the text, in new memory. Nothing that was there turns.
-/
import Derived.WalkSpells
import Derived.Deep.QuietTactic
import Derived.BigQuiet
import Derived.WalkMore
import Derived.Test.YtccllonkhklldaaProg
import Derived.Test.YtccllonkhklldaaMathN
import Derived.Test.YtccllonkhklldaaLaw06Texts
namespace Go.Proofs.Ytccllonkhklldaa
open Go.RowKit
set_option maxRecDepth 10000
set_option linter.unusedVariables false
set_option linter.unusedSimpArgs false

theorem strI_rest (s : ByteArray) (a : Nat) : strI (s.extract a s.size) = (strI s).drop a := by
  rw [strI_extract, List.take_of_length_le (by rw [strI_len]; omega)]
theorem rest_at (s : ByteArray) (a j : Nat) : (s.extract a s.size).data.toList[j]? = some 10 ↔ s.data.toList[a + j]? = some 10 := by
  rw [← strI_ten, strI_rest, List.getElem?_drop, strI_ten]
theorem line_cut (s : ByteArray) (a k : Nat) (ha : a ≤ k) (hk : k < s.size) (h10 : s.data.toList[k]? = some 10) (hno : ∀ j : Nat, a ≤ j → j < k → s.data.toList[j]? ≠ some 10) :
    cutA (s.extract a s.size) = s.extract a k ∧ cutZ (s.extract a s.size) = s.extract (k + 1) s.size := by
  have e : nlAt (s.extract a s.size) = ((k - a : Nat) : Int) := nl_some ((rest_at s a (k - a)).2 (by rw [show a + (k - a) = k by omega]; exact h10)) (fun j hj h => hno (a + j) (by omega) (by omega) ((rest_at s a j).1 h))
  obtain ⟨e1, e2⟩ := cut_some e
  rw [e1, e2]
  constructor
  · apply strI_inj
    rw [strI_extract, strI_rest, strI_extract, List.drop_zero, List.drop_take]
  · apply strI_inj
    rw [strI_rest, strI_rest, strI_rest, List.drop_drop, show a + (k - a + 1) = k + 1 by omega]
theorem line_last (s : ByteArray) (a : Nat) (hno : ∀ j : Nat, a ≤ j → j < s.size → s.data.toList[j]? ≠ some 10) :
    cutA (s.extract a s.size) = s.extract a s.size ∧ cutZ (s.extract a s.size) = ⟨#[]⟩ := by
  refine cut_none (nl_none fun j h => ?_)
  have h := (rest_at s a j).1 h
  have hl := (List.getElem?_eq_some_iff.1 h).1
  rw [Array.length_toList] at hl
  exact hno (a + j) (by omega) hl h
theorem byte_ten (s : ByteArray) (k : Nat) (hk : k < s.size) : s.data.toList[k]? = some 10 ↔ (s[k].toNat : Int) = 10 := by
  have : s.data.toList[k]? = some s[k] := by rw [Array.getElem?_toList]; exact Array.getElem?_eq_getElem hk
  rw [this, ten_iff]; simp
/-- The lines alone. -/
def lineL (s : ByteArray) : List ByteArray := (linesT s).map fun x => x.2
def restL (f n : Nat) (s : ByteArray) : List ByteArray := (linesF f n s).map fun x => x.2
theorem extract_rest_size (s : ByteArray) (a : Nat) : (s.extract a s.size).size = s.size - a := by rw [ByteArray.size_extract]; omega

theorem rest_step (s : ByteArray) (acc : List ByteArray) (f n a k : Nat) (hf : s.size - a ≤ f) (ha : a ≤ k) (hk : k < s.size) (h10 : s.data.toList[k]? = some 10) (hno : ∀ j : Nat, a ≤ j → j < k → s.data.toList[j]? ≠ some 10) (he : acc ++ restL f n (s.extract a s.size) = lineL s) :
    ∃ f', (acc ++ [s.extract a k]) ++ restL f' (n + 1) (s.extract (k + 1) s.size) = lineL s ∧ s.size - (k + 1) ≤ f' := by
  have hz := extract_rest_size s a
  have hz2 := extract_rest_size s (k + 1)
  obtain ⟨f', e1, e2⟩ := linesF_step f n (s.extract a s.size) (by omega) (by omega)
  obtain ⟨c1, c2⟩ := line_cut s a k ha hk h10 hno
  rw [c1, c2] at e1
  rw [c2, hz2] at e2
  refine ⟨f', ?_, e2⟩
  rw [← he]; unfold restL; rw [e1]; simp
theorem rest_last (s : ByteArray) (acc : List ByteArray) (f n a : Nat) (hf : s.size - a ≤ f) (hno : ∀ j : Nat, a ≤ j → j < s.size → s.data.toList[j]? ≠ some 10) (he : acc ++ restL f n (s.extract a s.size) = lineL s) :
    (a < s.size → lineL s = acc ++ [s.extract a s.size]) ∧ (¬ a < s.size → lineL s = acc) := by
  have hz := extract_rest_size s a
  constructor
  · intro h
    obtain ⟨f', e1, e2⟩ := linesF_step f n (s.extract a s.size) (by omega) (by omega)
    obtain ⟨c1, c2⟩ := line_last s a hno
    rw [c1, c2, linesF_empty f' (n + 1) ⟨#[]⟩ rfl] at e1
    rw [← he]; unfold restL; rw [e1]; rfl
  · intro h
    rw [← he]; unfold restL; rw [linesF_empty _ _ _ (by omega)]; simp

set_option maxHeartbeats 2000000 in
theorem refLines_any (s : ByteArray) (w : World) (hs : s.size ≤ 1048576) :
    Calls Try.prog 16 #[.string s] w fun e w' => ∃ v, e = .returned v ∧ w'.ownsRow w.heap.size 9 1 v (lineL s).length ((lineL s).map Value.string) ∧ Below w.heap.size w w' := by
  obtain ⟨i0, hi, hz0, hz1, hz2⟩ := info_parts Strs.info
  have HST : Hid (∀ acc f n a k, _) := rest_step s
  have HLA : Hid (∀ acc f n a, _) := rest_last s
  have HB : Hid (∀ k hk, _) := byte_ten s
  have H0 : Hid ([] ++ restL s.size 1 (s.extract 0 s.size) = lineL s) := by
    show _ = _
    rw [show s.extract 0 s.size = s from strI_inj (by rw [strI_rest]; rfl)]; rfl
  go_enter Try.func16, Try.ntmps16
  go_wp2_with fail
  go_loopw [3, 4, 5] (fun v fr i wr => ∃ (k a f n : Nat) (acc : List ByteArray), k ≤ s.size ∧ a ≤ k ∧ i = .int .i64 k ∧ fr = .int .i64 a ∧ acc.length ≤ a ∧ Hid (s.size - a ≤ f ∧ (∀ j : Nat, a ≤ j → j < k → s.data.toList[j]? ≠ some 10) ∧ acc ++ restL f n (s.extract a s.size) = lineL s) ∧ wr.ownsRow w.heap.size 9 1 v acc.length (acc.map Value.string) ∧ Below w.heap.size w wr) (fun _ _ i _ => s.size - (intOf i).toNat)
  case atStart => exact ⟨0, 0, s.size, 1, [], Nat.zero_le _, Nat.le_refl _, rfl, rfl, Nat.le_refl _, ⟨by omega, fun j _ h => by omega, H0.out⟩, World.ownsRow_nil _ _ _ _, Below.refl _ _⟩
  case round =>
    obtain ⟨k, a, f, n, acc, hk, ha, rfl, rfl, hal, HI, hrow, hbel⟩ := hrel
    have hsz := hbel.size
    by_cases hlt : k < s.size
    · have hki : (k : Int) < (s.size : Int) := by omega
      have hk0 : (0 : Int) ≤ (k : Int) := by omega
      have hai : (a : Int) ≤ (k : Int) := by omega
      have hBk := HB.out k hlt
      by_cases h10 : (s[k].toNat : Int) = 10
      · obtain ⟨f', e1, e2⟩ := HST.out acc f n a k HI.out.1 ha hlt (hBk.2 h10) HI.out.2.1 HI.out.2.2
        have HN : Hid (s.size - (k + 1) ≤ f' ∧ (∀ j : Nat, k + 1 ≤ j → j < k + 1 → s.data.toList[j]? ≠ some 10) ∧ (acc ++ [s.extract a k]) ++ restL f' (n + 1) (s.extract (k + 1) s.size) = lineL s) := ⟨e2, fun j h1 h2 => by omega, e1⟩
        have hb : ((s[k].toNat : Int) == 10) = true := by simpa using h10
        clear HI hBk e1 e2 H0 HST HLA HB h10
        have HM : Hid ((acc ++ [s.extract a k]).map Value.string = acc.map Value.string ++ [.string (s.extract a k)]) := by show _ = _; simp
        have hra := hrow.alloc (.cells #[.string (s.extract a k)] 9)
        have ew := hbel.alloc hsz (.cells #[.string (s.extract a k)] 9)
        have hnone : ∀ kk, u3.ownBlock = some kk → w.heap.size ≤ kk := fun kk e => (hrow.lt kk e).1
        generalize hm : acc.length = m at *
        generalize acc.map Value.string = xs at *
        clear hrow
        go_wp2_with (at_builtin; refine wpList_append_own _ rfl (.tmp 16) (.tmp 21) 38 rfl w.heap.size 9 i0 (.string ⟨#[]⟩) 1 16 Try.underlying38 hi hz0 hz1 hz2 rfl (by decide) u3 m xs rfl hra ⟨wr.heap.size, 0, none⟩ 1 1 [.string (s.extract a k)] rfl rfl ?c1 ?c2 ?c3 ?c4 ?c5 ?_)
        case c1 =>
          intro j u hj
          match j, hj with
          | 0, hj => simp at hj; subst hj; simp [Addr.add]
        case c2 => intro u hu; simp at hu; subst hu; rfl
        case c3 => unfold maxLen; omega
        case c4 => omega
        case c5 => simp; omega
        intro v2 w2 hown2 hgr2 _
        have hb2 : Below w.heap.size w w2 := ew.grown hgr2 (by simp; omega) (fun kk e => hnone kk e)
        clear hgr2 hra ew
        go_wp2_with fail
        go_roundw
        case rel => exact ⟨k + 1, k + 1, f', n + 1, acc ++ [s.extract a k], by omega, Nat.le_refl _, by go_num, by go_num, by simp; omega, HN, by rw [HM.out, List.length_append, hm]; exact hown2, hb2⟩
        case measure => simp [intOf]; omega
      · have hb : ((s[k].toNat : Int) == 10) = false := by simpa using h10
        have HN : Hid (s.size - a ≤ f ∧ (∀ j : Nat, a ≤ j → j < k + 1 → s.data.toList[j]? ≠ some 10) ∧ acc ++ restL f n (s.extract a s.size) = lineL s) := ⟨HI.out.1, fun j h1 h2 => by
          by_cases e : j = k
          · subst e; intro h; exact h10 (hBk.1 h)
          · exact HI.out.2.1 j h1 (by omega), HI.out.2.2⟩
        clear HI hBk H0 HST HLA HB h10
        go_wp2_with fail
        go_roundw
        case rel => exact ⟨k + 1, a, f, n, acc, by omega, by omega, by go_num, rfl, hal, HN, hrow, hbel⟩
        case measure => simp [intOf]; omega
    · obtain rfl : k = s.size := by omega
      obtain ⟨q1, q2⟩ := HLA.out acc f n a HI.out.1 HI.out.2.1 HI.out.2.2
      clear HI H0 HST HLA HB
      by_cases hq : a < s.size
      · have HM : Hid ((lineL s).map Value.string = acc.map Value.string ++ [.string (s.extract a s.size)] ∧ (lineL s).length = acc.length + 1) := by show _ ∧ _; rw [q1 hq]; simp
        clear q1 q2
        have hqi : (a : Int) < (s.size : Int) := by omega
        have hra := hrow.alloc (.cells #[.string (s.extract a s.size)] 9)
        have ew := hbel.alloc hsz (.cells #[.string (s.extract a s.size)] 9)
        have hnone : ∀ kk, u3.ownBlock = some kk → w.heap.size ≤ kk := fun kk e => (hrow.lt kk e).1
        generalize acc.length = m at *
        generalize acc.map Value.string = xs at *
        clear hrow
        go_wp2_with (at_builtin; refine wpList_append_own _ rfl (.tmp 29) (.tmp 33) 38 rfl w.heap.size 9 i0 (.string ⟨#[]⟩) 1 16 Try.underlying38 hi hz0 hz1 hz2 rfl (by decide) u3 m xs rfl hra ⟨wr.heap.size, 0, none⟩ 1 1 [.string (s.extract a s.size)] rfl rfl ?c1 ?c2 ?c3 ?c4 ?c5 ?_)
        case c1 =>
          intro j u hj
          match j, hj with
          | 0, hj => simp at hj; subst hj; simp [Addr.add]
        case c2 => intro u hu; simp at hu; subst hu; rfl
        case c3 => unfold maxLen; omega
        case c4 => omega
        case c5 => simp; omega
        intro v2 w2 hown2 hgr2 _
        have hb2 : Below w.heap.size w w2 := ew.grown hgr2 (by simp; omega) (fun kk e => hnone kk e)
        clear hgr2 hra ew
        go_wp2_with fail
        go_ret
        exact ⟨_, rfl, by rw [HM.out.1, HM.out.2]; exact hown2, hb2⟩
      · have HM : Hid (lineL s = acc) := q2 hq
        clear q1 q2
        go_wp2_with fail
        go_ret
        exact ⟨_, rfl, by rw [HM.out]; exact hrow, hbel⟩

end Go.Proofs.Ytccllonkhklldaa
