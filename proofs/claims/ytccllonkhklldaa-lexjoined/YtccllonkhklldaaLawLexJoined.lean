/-
  The law LexJoined holds: a walk of its body with what the iterator of Lines tells.
-/
import Derived.RangeFuncNested
import Derived.RangeFuncBound
import Derived.RangeFuncCalls
import Derived.RangeFuncLeaves
import Derived.Shelf.Abstract
import Derived.Shelf.RegionOpen
import Derived.WalkKit
import Derived.OwnWalkIn
import Derived.TacticsInMore
import Derived.LoopNIn
import Derived.LoopIn
import Derived.Test.YtccllonkhklldaaBoxes
import Derived.Test.YtccllonkhklldaaLexLines
import Derived.Test.YtccllonkhklldaaLaw06Awake
namespace Go.Proofs.Ytccllonkhklldaa
open Go.RowKit Go.Shelf
attribute [local go_sem] Oper.semAt_some
set_option linter.unusedVariables false
set_option linter.unusedSimpArgs false

/-- Between two rounds: what was joined, and the count. -/
def JoinI (w : World) (pre : List (Nat × ByteArray)) (W : World) : Prop :=
  (Below w.heap.size w W ∧ w.heap.size + 4 ≤ W.heap.size) ∧ W.heap[w.heap.size]? = some (.cells #[.bool false] 4 (0, 0)) ∧ W.heap[w.heap.size + 1]? = some (.cells #[.string (strOfNums (joinN pre))] 9 (0, 0)) ∧ W.heap[w.heap.size + 2]? = some (.cells #[.int .i64 pre.length] 3 (0, 0))
theorem joinI_own (w : World) : OwnFrom (w.heap.size + 4) (JoinI w) := by
  rintro pre W W' row ⟨h1, h2, h3, h4⟩ hg hr
  exact ⟨⟨belowStay h1.1 (Nat.le_refl _) (by omega) hg hr, Nat.le_trans h1.2 hg.size⟩, cellsStay h2 hg hr, cellsStay h3 hg hr, cellsStay h4 hg hr⟩
theorem strOfNums_size (l : List Int) : (strOfNums l).size = l.length := by
  show (strOfNums l).data.size = _
  simp [strOfNums]
theorem strOf_ten : strOfNums [10] = ⟨#[10]⟩ := by decide
theorem strOf_snoc (pre : List (Nat × ByteArray)) (x : Nat × ByteArray) : strOfNums (joinN (pre ++ [x])) = strOfNums (joinN pre) ++ x.2 ++ ⟨#[10]⟩ := by
  rw [join_snoc, strOfNums_append, strOfNums_append, str_of_strI, strOf_ten]
theorem join_final (s : ByteArray) : (s.size = 0 ∧ strOfNums (joinN (linesT s)) = s) ∨ (∃ h : s.size - 1 < s.size, ((s[s.size - 1].toNat : Int) == 10) = true ∧ strOfNums (joinN (linesT s)) = s) ∨ (∃ h : s.size - 1 < s.size, ((s[s.size - 1].toNat : Int) == 10) = false ∧ strOfNums (joinN (linesT s)) = s ++ ⟨#[10]⟩) := by
  rw [join_text]
  by_cases h0 : s.size = 0
  · refine Or.inl ⟨h0, ?_⟩
    have : strI s = [] := List.length_eq_zero_iff.1 (by rw [strI_len]; exact h0)
    have e : tailN (strI s) = strI s := by rw [this]; rfl
    rw [e, str_of_strI]
  · have hl : s.size - 1 < s.size := by omega
    have hg : (strI s).getLast? = some (s[s.size - 1].toNat : Int) := by
      rw [List.getLast?_eq_getElem?, strI_len, strI_at]
      have : s.data.toList[s.size - 1]? = some s[s.size - 1] := by
        rw [Array.getElem?_toList]; exact Array.getElem?_eq_getElem hl
      rw [this]; rfl
    by_cases h1 : (s[s.size - 1].toNat : Int) = 10
    · refine Or.inr (Or.inl ⟨hl, by simp [h1], ?_⟩)
      unfold tailN
      rw [if_pos (Or.inr (by rw [hg, h1])), str_of_strI]
    · refine Or.inr (Or.inr ⟨hl, by simpa using h1, ?_⟩)
      unfold tailN
      rw [if_neg (by rw [hg]; simp [h1]), strOfNums_append, str_of_strI, strOf_ten]
theorem line_not {t : ByteArray} (h : ∀ j : Nat, t.data.toList[j]? ≠ some 10) (k : Nat) (hk : k < t.size) : ((t[k].toNat : Int) == 10) = false := by
  have h1 := h k
  have : t.data.toList[k]? = some t[k] := by rw [Array.getElem?_toList]; exact Array.getElem?_eq_getElem hk
  rw [this] at h1
  simp only [beq_eq_false_iff_ne, ne_eq, ten_iff]
  intro e; exact h1 (by rw [e])

set_option maxRecDepth 100000 in
set_option maxHeartbeats 8000000 in
theorem lexJoined_law (w : World) (s : ByteArray) (hs : s.size ≤ 140737488351232) :
    Calls Try.prog 8 #[.string s] w fun e w' => e = .returned (.bool true) ∧ Below w.heap.size w w' := by
  have hnf : ∀ (p : Value) (w : World), (binOp .eql 41 (.func (.func 31) #[] #[p]) .nilFunc).run Try.prog w = .ok (.bool false) w := fun p w => by kernel_rfl
  have HA : Hid (∀ wx, _) := fun wx => awake6_true wx
  refine (callsIn_wide (n := 0)).1 ?_
  refine callsIn_of_wp_marks Try.func8 rfl trivial ?_ rfl
  simp only [Try.ntmps8, List.size_toArray, List.length_cons, List.length_nil, Nat.reduceAdd, Nat.reduceSub, Array.replicate_succ, Array.replicate_zero, List.push_toArray, List.append_toArray, List.nil_append, List.cons_append]
  gi_wp2_with fail
  refine ⟨trivial, rfl, (callsIn_wide.2 (lines_any s _)).mono ?_⟩
  rintro e w2 ⟨rfl, rfl⟩
  obtain ⟨wL, hwL⟩ : ∃ X, X = (((w.alloc (.cells #[.bool false] 4)).alloc (.cells #[.string ⟨#[]⟩] 9)).alloc (.cells #[.int .i64 0] 3)).alloc (.cells #[.string s] 9) := ⟨_, rfl⟩
  have hsL : wL.heap.size = w.heap.size + 4 := by rw [hwL]; simp
  have hbL : Below w.heap.size w wL := by rw [hwL]; exact ((((Below.refl _ w).alloc (Nat.le_refl _) _).alloc (by simp) _).alloc (by simp; omega) _).alloc (by simp; omega) _
  have k0 : wL.heap[w.heap.size]? = some (.cells #[.bool false] 4 (0, 0)) := by rw [hwL]; exact allocOld (allocOld (allocOld (allocNew w _ rfl) _) _) _
  have k1 : wL.heap[w.heap.size + 1]? = some (.cells #[.string ⟨#[]⟩] 9 (0, 0)) := by rw [hwL]; exact allocOld (allocOld (allocNew _ _ (by simp)) _) _
  have k2 : wL.heap[w.heap.size + 2]? = some (.cells #[.int .i64 0] 3 (0, 0)) := by rw [hwL]; exact allocOld (allocNew _ _ (by simp)) _
  have k3 : wL.heap[w.heap.size + 3]? = some (.cells #[.string s] 9 (0, 0)) := by rw [hwL]; exact allocNew _ _ (by simp)
  gi_wp2_with fail
  rw [← hwL]
  clear hwL
  simp only [Nat.add_assoc, Nat.reduceAdd]
  refine wp_tells rfl (enters_of Try.func31 (by kernel_rfl) rfl) (lines_tells s hs (w.heap.size + 3) w.heap.size (fun _ => False) wL k3) (by omega) (fun _ => rfl)
    (JoinI w) (fun _ _ _ => False) (by rw [hsL]; exact joinI_own w) (fun c => by rintro pre W W' row h; exact h.elim)
    ⟨⟨hbL, by omega⟩, k0, k1, k2⟩
    (fun pre x a' W => pre ++ [x] <+: linesT s ∧ a' = { tmps := #[.string s, undef, .pointer (some ⟨w.heap.size, 0, none⟩), .pointer (some ⟨w.heap.size + 1, 0, none⟩), .pointer (some ⟨w.heap.size + 2, 0, none⟩), .func (.func 31) #[] #[.pointer (some ⟨w.heap.size + 3, 0, none⟩)], .int .i64 x.1, .string x.2, undef, .string s, .func (.func 31) #[] #[.pointer (some ⟨w.heap.size + 3, 0, none⟩)], .func (.func 31) #[] #[.pointer (some ⟨w.heap.size + 3, 0, none⟩)], .bool false, .func (.func 31) #[] #[.pointer (some ⟨w.heap.size + 3, 0, none⟩)], .int .i64 x.1, .string x.2, undef, undef, undef, undef, undef, undef, undef, undef, undef, undef, undef, undef, undef, undef, undef, undef, undef, undef, undef, undef, undef, undef, undef, undef, undef, undef, undef, undef, undef, undef, undef, undef, undef, undef, undef, undef, undef], defers := [] })
    ?hAx ?assign ?body ?done ?stop
  case hAx =>
    rintro pre x a' s W W' row h hg hr
    exact h
  case assign =>
    rintro l pre x W K hI hV hK
    simp only [lineV]
    gi_wp2
    exact hK _ _ (KeepsFrom.refl _ _) (Kept.refl _ _ _) hI ⟨hV, rfl⟩
  case body =>
    rintro l pre x a' W hl' ⟨rr, hrr⟩ ⟨⟨h1, hlt⟩, h2, h3, h4⟩ ⟨hV, rfl⟩
    obtain ⟨p1, p2, p3, p4, p5⟩ := pre_at hV
    have hpl : pre.length < s.size := Nat.lt_of_lt_of_le p4 (lines_len _ _ _)
    have hjl : (strOfNums (joinN pre)).size + x.2.size + 1 ≤ s.size + 1 := by
      have a := join_le hV
      rw [join_text, join_snoc] at a
      have b := tail_le (strI s)
      rw [strI_len] at b
      rw [strOfNums_size]
      simp only [List.length_append, strI_len, List.length_singleton] at a
      omega
    obtain ⟨n, t⟩ := x
    simp only at p1 p2 p3 hjl
    subst p1
    have HGO : Hid (∀ W', W' = (W.setCell ⟨w.heap.size + 2, 0, none⟩ (.int .i64 ((pre.length : Int) + 1))).setCell ⟨w.heap.size + 1, 0, none⟩ (.string (strOfNums (joinN pre) ++ t ++ ⟨#[10]⟩)) → KeepsFrom wL.heap.size W W' ∧ Kept w.heap.size (fun _ => False) W W' ∧ JoinI w (pre ++ [(pre.length + 1, t)]) W') := by
      rintro W' rfl
      refine ⟨((KeepsOthers.setCell _ _ _).trans (KeepsOthers.setCell _ _ _)).from _, ⟨((Below.refl _ W).setCell (by simp) _).setCell (by simp) _, fun _ _ _ _ h _ => h.elim⟩, ⟨(h1.setCell (by simp) _).setCell (by simp) _, by simpa [World.setCell] using hlt⟩, setFar (setFar h2 (by omega) _ _) (by omega) _ _, ?_, ?_⟩
      · rw [strOf_snoc]; exact oneSet (setFar h3 (by omega) _ _) _
      · rw [List.length_append, List.length_singleton]; exact setFar (oneSet h4 _) (by omega) _ _
    have HL := line_not p3
    obtain ⟨c3, f3⟩ := oneCell h3
    obtain ⟨c4, f4⟩ := oneCell h4
    have hz : (⟨#[10]⟩ : ByteArray).size = 1 := rfl
    have l1 : w.heap.size + 1 < W.heap.size := by omega
    have l2 : w.heap.size + 2 < W.heap.size := by omega
    clear h1 h2 h3 h4 hV p3 p4 p5 hrr
    generalize strOfNums (joinN pre) = js at *
    simp only [Int.natCast_add, Int.natCast_one]
    gi_wp2_with fail
    gi_loopw [8] (fun i wr => ∃ k : Nat, k ≤ t.size ∧ i = .int .i64 k ∧ wr = W.setCell ⟨w.heap.size + 2, 0, none⟩ (.int .i64 ((pre.length : Int) + 1))) (fun i _ => t.size - (intOf i).toNat)
    case atStart => exact ⟨0, by omega, rfl, rfl⟩
    case round =>
      obtain ⟨k, hk, rfl, rfl⟩ := hrel
      by_cases hlk : k < t.size
      · have hb := HL k hlk
        have hlk' : (k : Int) < (t.size : Int) := by omega
        clear HGO
        gi_wp2
        go_roundw
        case rel => exact ⟨k + 1, by omega, by go_num, trivial⟩
        case measure => simp [intOf]; omega
      · obtain rfl : k = t.size := by omega
        gi_wp2
        exact HGO.out _ rfl
  case done =>
    rintro D xs W hD rfl ⟨⟨h1, hlt⟩, h2, h3, h4⟩ hK
    have hKl : D < W.heap.size := (Array.getElem?_eq_some_iff.1 hK).1
    have HFIN : Hid (∀ w3 : World, Below W.heap.size W w3 → Below w.heap.size w ((w3.setCell ⟨w.heap.size, 0, none⟩ (.bool true)).putObj D (.deferred none)) ∧ (w3.setCell ⟨w.heap.size, 0, none⟩ (.bool true)).heap[D]? = some (.deferred (some [])) ∧ ((w3.setCell ⟨w.heap.size, 0, none⟩ (.bool true)).putObj D (.deferred none)).cell? ⟨w.heap.size, 0, none⟩ = some (.bool true) ∧ w3.cell? ⟨w.heap.size, 0, none⟩ = some (.bool false) ∧ w3.frozen? ⟨w.heap.size, 0, none⟩ = false ∧ w.heap.size < w3.heap.size) := by
      intro w3 hb3
      have e0 := (hb3.block w.heap.size (by omega)).trans h2
      have eD := (hb3.block D hKl).trans hK
      have hne : D ≠ w.heap.size := fun e => by rw [e, h2] at hK; cases hK
      have eK : (w3.setCell ⟨w.heap.size, 0, none⟩ (.bool true)).heap[D]? = some (.deferred (some [])) := setFar eD hne _ _
      have y0 : (w3.setCell ⟨w.heap.size, 0, none⟩ (.bool true)).heap[w.heap.size]? = some (.cells #[.bool true] 4 (0, 0)) := oneSet e0 _
      have hbY : Below w.heap.size w (w3.setCell ⟨w.heap.size, 0, none⟩ (.bool true)) := (h1.trans (hb3.mono h1.size)).setCell (by simp) _
      have hput := grownBy_putObj' (w3.setCell ⟨w.heap.size, 0, none⟩ (.bool true)) D (.deferred none)
      have hpr : ∀ r, some D = some r → (0 ≤ r ∧ ∃ o : Obj, (w3.setCell ⟨w.heap.size, 0, none⟩ (.bool true)).heap[r]? = some o ∧ o.isCells = false) := fun r e => by cases e; exact ⟨Nat.zero_le _, _, eK, rfl⟩
      exact ⟨hbY.trans (belowK_b (w := w) (Nat.le_refl _) _ D _ _ (by omega) eK rfl rfl), eK, (oneCell (cellsStay y0 hput hpr)).1, (oneCell e0).1, (oneCell e0).2, Nat.lt_of_lt_of_le (by omega) hb3.size⟩
    obtain ⟨c3, _⟩ := oneCell h3
    have hz : (⟨#[10]⟩ : ByteArray).size = 1 := rfl
    have HJ := join_final s
    clear h1 h2 h3 h4 k0 k1 k2 k3 hbL
    rcases HJ with ⟨h0, he⟩ | ⟨h0, h1, he⟩ | ⟨h0, h1, he⟩
    · rw [he] at c3
      have hz' := size_not s h0
      clear he
      gi_wp2_with fail
      refine ⟨trivial, rfl, (callsIn_wide.2 (HA.out _)).mono ?_⟩
      rintro e w3 ⟨rfl, hb3⟩
      obtain ⟨g1, g2, g3, g4, g5, g6⟩ := HFIN.out w3 hb3
      have HG1 : Hid (Below w.heap.size w ((w3.setCell ⟨w.heap.size, 0, none⟩ (.bool true)).putObj D (.deferred none))) := g1
      clear g1 HFIN hb3
      gi_wp2_with fail
      refine ⟨by simp, .inl ⟨_, _, rfl, run_takeDeferred g2, ?_⟩⟩
      exact ⟨.bool true, by simp [results, Try.results8, go_sem, g3], rfl, HG1.out⟩
    · rw [he] at c3
      have hz' := size_some s (by omega)
      have e1 : (s.size : Int) - 1 = ((s.size - 1 : Nat) : Int) := by omega
      have e2 : ((s.size - 1 : Nat) : Int) < (s.size : Int) := by omega
      clear he
      gi_wp2_with fail
      refine ⟨trivial, rfl, (callsIn_wide.2 (HA.out _)).mono ?_⟩
      rintro e w3 ⟨rfl, hb3⟩
      obtain ⟨g1, g2, g3, g4, g5, g6⟩ := HFIN.out w3 hb3
      have HG1 : Hid (Below w.heap.size w ((w3.setCell ⟨w.heap.size, 0, none⟩ (.bool true)).putObj D (.deferred none))) := g1
      clear g1 HFIN hb3
      gi_wp2_with fail
      refine ⟨by simp, .inl ⟨_, _, rfl, run_takeDeferred g2, ?_⟩⟩
      exact ⟨.bool true, by simp [results, Try.results8, go_sem, g3], rfl, HG1.out⟩
    · rw [he] at c3
      have hz' := size_some s (by omega)
      have e1 : (s.size : Int) - 1 = ((s.size - 1 : Nat) : Int) := by omega
      have e2 : ((s.size - 1 : Nat) : Int) < (s.size : Int) := by omega
      clear he
      gi_wp2_with fail
      refine ⟨trivial, rfl, (callsIn_wide.2 (HA.out _)).mono ?_⟩
      rintro e w3 ⟨rfl, hb3⟩
      obtain ⟨g1, g2, g3, g4, g5, g6⟩ := HFIN.out w3 hb3
      have HG1 : Hid (Below w.heap.size w ((w3.setCell ⟨w.heap.size, 0, none⟩ (.bool true)).putObj D (.deferred none))) := g1
      clear g1 HFIN hb3
      gi_wp2_with fail
      refine ⟨by simp, .inl ⟨_, _, rfl, run_takeDeferred g2, ?_⟩⟩
      exact ⟨.bool true, by simp [results, Try.results8, go_sem, g3], rfl, HG1.out⟩
  case stop =>
    rintro D c pre W hD hpre h hK
    exact h.elim

end Go.Proofs.Ytccllonkhklldaa
