/-
  Lines of a text: the cut at the first byte 10, the lines with their numbers, and what they come to joined.
-/
import Derived.Lib.Bytealg
import Derived.Lib.IndexLaws
import Derived.Test.YtccllonkhklldaaMathL
namespace Go.Proofs.Ytccllonkhklldaa
open Go.RowKit
set_option linter.unusedSimpArgs false
set_option linter.unusedVariables false

def nlAt (s : ByteArray) : Int := Lib.indexByte s.data.toList 10
def cutA (s : ByteArray) : ByteArray := if nlAt s < 0 then s else s.extract 0 (nlAt s).toNat
def cutZ (s : ByteArray) : ByteArray := if nlAt s < 0 then ⟨#[]⟩ else s.extract ((nlAt s).toNat + 1) s.size
def linesF : Nat → Nat → ByteArray → List (Nat × ByteArray)
  | 0, _, _ => []
  | f + 1, n, s => if s.size = 0 then [] else (n, cutA s) :: linesF f (n + 1) (cutZ s)
def linesT (s : ByteArray) : List (Nat × ByteArray) := linesF s.size 1 s
def joinN (l : List (Nat × ByteArray)) : List Int := l.flatMap fun x => strI x.2 ++ [10]
def tailN (l : List Int) : List Int := if l.getLast? = none ∨ l.getLast? = some 10 then l else l ++ [10]

theorem nl_cases (s : ByteArray) : (nlAt s = -1 ∧ ∀ k : Nat, s.data.toList[k]? ≠ some 10) ∨ (∃ m : Nat, nlAt s = m ∧ m < s.size ∧ s.data.toList[m]? = some 10 ∧ ∀ k : Nat, k < m → s.data.toList[k]? ≠ some 10) := by
  have h := Lib.indexByte_ge s.data.toList 10
  by_cases h0 : nlAt s < 0
  · have e : nlAt s = -1 := by unfold nlAt at *; omega
    exact Or.inl ⟨e, fun k => Lib.indexByte_none e k⟩
  · obtain ⟨m, e⟩ : ∃ m : Nat, nlAt s = m := ⟨(nlAt s).toNat, by omega⟩
    obtain ⟨h1, h2⟩ := Lib.indexByte_some (show Lib.indexByte s.data.toList 10 = m from e)
    refine Or.inr ⟨m, e, ?_, h1, h2⟩
    have := (List.getElem?_eq_some_iff.1 h1).1
    rw [Array.length_toList] at this
    exact this
theorem nl_none {s : ByteArray} (h : ∀ k : Nat, s.data.toList[k]? ≠ some 10) : nlAt s = -1 := by
  rcases nl_cases s with ⟨e, _⟩ | ⟨m, _, _, h1, _⟩
  · exact e
  · exact absurd h1 (h m)
theorem nl_some {s : ByteArray} {o : Nat} (h1 : s.data.toList[o]? = some 10) (h2 : ∀ k : Nat, k < o → s.data.toList[k]? ≠ some 10) : nlAt s = o := by
  rcases nl_cases s with ⟨_, h⟩ | ⟨m, e, _, h3, h4⟩
  · exact absurd h1 (h o)
  · rcases Nat.lt_trichotomy m o with h | h | h
    · exact absurd h3 (h2 m h)
    · rw [e, h]
    · exact absurd h1 (h4 o h)
theorem cutA_size (s : ByteArray) : (cutA s).size ≤ s.size := by
  unfold cutA; split
  · exact Nat.le_refl _
  · rw [ByteArray.size_extract]; omega
theorem cutZ_size (s : ByteArray) (h : s.size ≠ 0) : (cutZ s).size < s.size := by
  unfold cutZ; split
  · show 0 < s.size; omega
  · rw [ByteArray.size_extract]; omega
theorem strI_at (s : ByteArray) (k : Nat) : (strI s)[k]? = (s.data.toList[k]?).map fun b => (b.toNat : Int) := by
  simp [strI]
theorem ten_iff (b : UInt8) : (b.toNat : Int) = 10 ↔ b = 10 := by
  constructor
  · intro h
    have : b.toNat = (10 : UInt8).toNat := by show b.toNat = 10; omega
    exact UInt8.toNat_inj.1 this
  · rintro rfl; rfl
theorem strI_ten (s : ByteArray) (k : Nat) : (strI s)[k]? = some 10 ↔ s.data.toList[k]? = some 10 := by
  rw [strI_at]
  cases s.data.toList[k]? with
  | none => simp
  | some b => simp [ten_iff]

theorem cut_none {s : ByteArray} (h : nlAt s = -1) : cutA s = s ∧ cutZ s = ⟨#[]⟩ := by unfold cutA cutZ; rw [h]; simp
theorem cut_some {s : ByteArray} {m : Nat} (h : nlAt s = m) : cutA s = s.extract 0 m ∧ cutZ s = s.extract (m + 1) s.size := by
  unfold cutA cutZ; rw [h]; simp only [show ¬ ((m : Int) < 0) by omega, if_false, Int.toNat_natCast]; exact ⟨trivial, trivial⟩
theorem cut_ten (s : ByteArray) : ∀ k : Nat, (cutA s).data.toList[k]? ≠ some 10 := by
  intro k hk
  rw [← strI_ten] at hk
  rcases nl_cases s with ⟨e, h⟩ | ⟨m, e, hm, h1, h2⟩
  · rw [(cut_none e).1, strI_ten] at hk; exact h k hk
  · rw [(cut_some e).1, strI_extract] at hk
    have hlt := (List.getElem?_eq_some_iff.1 hk).1
    simp only [List.drop_zero, List.length_take] at hlt hk
    rw [List.getElem?_take_of_lt (by omega), strI_ten] at hk
    exact h2 k (by omega) hk
theorem cut_join (s : ByteArray) (m : Nat) (e : nlAt s = m) (hm : m < s.size) (h1 : s.data.toList[m]? = some 10) : strI s = strI (cutA s) ++ 10 :: strI (cutZ s) := by
  rw [(cut_some e).1, (cut_some e).2, strI_extract, strI_extract, List.take_of_length_le (i := s.size) (by rw [strI_len]; omega), List.drop_zero]
  have h2 := (strI_ten s m).2 h1
  have hlt := (List.getElem?_eq_some_iff.1 h2)
  obtain ⟨hl, he⟩ := hlt
  rw [← he]
  rw [show (strI s)[m] :: List.drop (m + 1) (strI s) = List.drop m (strI s) from (List.drop_eq_getElem_cons hl).symm, List.take_append_drop]

theorem linesF_empty (f n : Nat) (s : ByteArray) (h : s.size = 0) : linesF f n s = [] := by
  cases f with
  | zero => rfl
  | succ f => rw [linesF, if_pos h]
theorem linesF_step (f n : Nat) (s : ByteArray) (h : s.size ≠ 0) (hf : s.size ≤ f) : ∃ f', linesF f n s = (n, cutA s) :: linesF f' (n + 1) (cutZ s) ∧ (cutZ s).size ≤ f' := by
  cases f with
  | zero => omega
  | succ f =>
    have := cutZ_size s h
    exact ⟨f, by rw [linesF, if_neg h], by omega⟩
theorem tailN_app (a b : List Int) : tailN (a ++ 10 :: b) = a ++ 10 :: tailN b := by
  unfold tailN
  cases b with
  | nil => simp
  | cons x b =>
    rw [show (a ++ 10 :: x :: b).getLast? = (x :: b).getLast? by rw [List.getLast?_append, List.getLast?_cons_cons, List.getLast?_cons]; rfl]
    split
    · rfl
    · simp
theorem join_lines (f : Nat) : ∀ (n : Nat) (s : ByteArray), s.size ≤ f → joinN (linesF f n s) = tailN (strI s) := by
  induction f with
  | zero =>
    intro n s h
    have : strI s = [] := List.length_eq_zero_iff.1 (by rw [strI_len]; omega)
    rw [this]; rfl
  | succ f ih =>
    intro n s h
    by_cases h0 : s.size = 0
    · have : strI s = [] := List.length_eq_zero_iff.1 (by rw [strI_len]; omega)
      rw [this, linesF_empty _ _ _ h0]; rfl
    · have hz := cutZ_size s h0
      rw [linesF, if_neg h0]
      simp only [joinN, List.flatMap_cons]
      have hj : joinN (linesF f (n + 1) (cutZ s)) = _ := ih (n + 1) (cutZ s) (by omega)
      rcases nl_cases s with ⟨e, hn⟩ | ⟨m, e, hm, h1, h2⟩
      · rw [(cut_none e).2] at hj ⊢
        have hj : List.flatMap (fun x => strI x.2 ++ [10]) (linesF f (n + 1) ⟨#[]⟩) = [] := by rw [linesF_empty _ _ _ rfl]; rfl
        rw [hj, (cut_none e).1]
        unfold tailN
        rw [if_neg ?_]
        · simp
        · rintro (hx | hx)
          · rw [List.getLast?_eq_none_iff] at hx
            have := strI_len s
            rw [hx] at this; simp at this; omega
          · rw [List.getLast?_eq_getElem?] at hx
            rw [strI_ten] at hx
            exact hn _ hx
      · rw [cut_join s m e hm h1, tailN_app]
        rw [show List.flatMap (fun x => strI x.2 ++ [10]) (linesF f (n + 1) (cutZ s)) = tailN (strI (cutZ s)) from hj]
        simp
theorem join_text (s : ByteArray) : joinN (linesT s) = tailN (strI s) := join_lines _ _ _ (Nat.le_refl _)
theorem lines_at (f : Nat) : ∀ (n : Nat) (s : ByteArray) (k : Nat) (x : Nat × ByteArray), (linesF f n s)[k]? = some x → x.1 = n + k ∧ x.2.size ≤ s.size ∧ ∀ j : Nat, x.2.data.toList[j]? ≠ some 10 := by
  induction f with
  | zero => intro n s k x h; simp [linesF] at h
  | succ f ih =>
    intro n s k x h
    rw [linesF] at h
    split at h
    · simp at h
    · rename_i h0
      cases k with
      | zero =>
        simp at h; subst h
        exact ⟨rfl, cutA_size s, cut_ten s⟩
      | succ k =>
        simp at h
        obtain ⟨h1, h2, h3⟩ := ih _ _ _ _ h
        have := cutZ_size s h0
        exact ⟨by omega, by omega, h3⟩
theorem lines_len (f : Nat) : ∀ (n : Nat) (s : ByteArray), (linesF f n s).length ≤ s.size := by
  induction f with
  | zero => intro n s; simp [linesF]
  | succ f ih =>
    intro n s
    rw [linesF]
    split
    · simp
    · rename_i h0
      have := cutZ_size s h0
      have := ih (n + 1) (cutZ s)
      simp only [List.length_cons]; omega
theorem pre_at {s : ByteArray} {pre : List (Nat × ByteArray)} {x : Nat × ByteArray} (h : pre ++ [x] <+: linesT s) : x.1 = pre.length + 1 ∧ x.2.size ≤ s.size ∧ (∀ j : Nat, x.2.data.toList[j]? ≠ some 10) ∧ pre.length < (linesT s).length ∧ (linesT s)[pre.length]? = some x := by
  obtain ⟨r, e⟩ := h
  have e2 : (linesT s)[pre.length]? = some x := by rw [← e]; simp
  obtain ⟨h1, h2, h3⟩ := lines_at _ _ _ _ _ e2
  exact ⟨by omega, h2, h3, (List.getElem?_eq_some_iff.1 e2).1, e2⟩
theorem join_le {a b : List (Nat × ByteArray)} (h : a <+: b) : (joinN a).length ≤ (joinN b).length := by
  obtain ⟨r, rfl⟩ := h
  simp [joinN]
theorem tail_le (l : List Int) : (tailN l).length ≤ l.length + 1 := by unfold tailN; split <;> simp
theorem join_snoc (pre : List (Nat × ByteArray)) (x : Nat × ByteArray) : joinN (pre ++ [x]) = joinN pre ++ strI x.2 ++ [10] := by simp [joinN]

end Go.Proofs.Ytccllonkhklldaa
