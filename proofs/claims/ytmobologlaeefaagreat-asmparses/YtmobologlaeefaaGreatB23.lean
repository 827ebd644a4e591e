/-
  Texts laid together in one: MathLn, StringsCut, LexLines, Draw, DrawAppend.
-/
import Derived.Lib.Bytealg
import Derived.Lib.IndexLaws
import Derived.Test.YtmobologlaeefaaGreatB01
import Derived.WalkSpells
import Derived.WalkMore
import Derived.BigRegion
import Derived.Shelf.RegionOpen
import Derived.OwnWalk
import Derived.Test.YtmobologlaeefaaGreatProg
import Derived.RangeFuncNested
import Derived.RangeFuncBound
import Derived.RangeFuncCalls
import Derived.RangeFuncLeaves
import Derived.Shelf.Abstract
import Derived.WalkKit
import Derived.OwnWalkIn
import Derived.TacticsInMore
import Derived.LoopNIn
import Derived.LoopIn
import Derived.Test.YtmobologlaeefaaGreatB07
import Derived.Test.YtmobologlaeefaaGreatB17
import Derived.OrdersIn
import Derived.Deep.AppendLies
/-
  Lines of a text: the cut at the first byte 10, the lines with their numbers, and what they come to joined.
-/
namespace Go.Proofs.YtmobologlaeefaaGreat
open Go.RowKit
set_option linter.unusedSimpArgs false
set_option linter.unusedVariables false

def nlAt (s : ByteArray) : Int := Lib.indexByte s.data.toList 10
def cutAX (s : ByteArray) : ByteArray := if nlAt s < 0 then s else s.extract 0 (nlAt s).toNat
def cutZ (s : ByteArray) : ByteArray := if nlAt s < 0 then ⟨#[]⟩ else s.extract ((nlAt s).toNat + 1) s.size
def linesF : Nat → Nat → ByteArray → List (Nat × ByteArray)
  | 0, _, _ => []
  | f + 1, n, s => if s.size = 0 then [] else (n, cutAX s) :: linesF f (n + 1) (cutZ s)
def linesT (s : ByteArray) : List (Nat × ByteArray) := linesF s.size 1 s
def joinN (l : List (Nat × ByteArray)) : List Int := l.flatMap fun x => strI x.2 ++ [10]
def tailN (l : List Int) : List Int := if l.getLast? = none ∨ l.getLast? = some 10 then l else l ++ [10]

theorem nl_cases (s : ByteArray) : (nlAt s = -1 ∧ ∀ k : Nat, s.data.toList[k]? ≠ some 10) ∨ (∃ m : Nat, nlAt s = m ∧ m < s.size ∧ s.data.toList[m]? = some 10 ∧ ∀ k : Nat, k < m → s.data.toList[k]? ≠ some 10) := by
  have h := Lib.indexByte_ge s.data.toList 10
  by_cases h0 : nlAt s < 0
  · have e : nlAt s = -1 := by unfold nlAt at *; omega
    exact Or.inl ⟨e, fun k => Lib.indexByte_none e k⟩
  · obtain ⟨m, e⟩ : ∃ m : Nat, nlAt s = m := ⟨(nlAt s).toNat, by omega⟩
    obtain ⟨h1, h2⟩ := Lib.indexByte_some (show Lib.indexByte s.data.toList 10 = m from e)
    refine Or.inr ⟨m, e, ?_, h1, h2⟩
    have := (List.getElem?_eq_some_iff.1 h1).1
    rw [Array.length_toList] at this
    exact this
theorem nl_none {s : ByteArray} (h : ∀ k : Nat, s.data.toList[k]? ≠ some 10) : nlAt s = -1 := by
  rcases nl_cases s with ⟨e, _⟩ | ⟨m, _, _, h1, _⟩
  · exact e
  · exact absurd h1 (h m)
theorem nl_some {s : ByteArray} {o : Nat} (h1 : s.data.toList[o]? = some 10) (h2 : ∀ k : Nat, k < o → s.data.toList[k]? ≠ some 10) : nlAt s = o := by
  rcases nl_cases s with ⟨_, h⟩ | ⟨m, e, _, h3, h4⟩
  · exact absurd h1 (h o)
  · rcases Nat.lt_trichotomy m o with h | h | h
    · exact absurd h3 (h2 m h)
    · rw [e, h]
    · exact absurd h1 (h4 o h)
theorem cutA_size (s : ByteArray) : (cutAX s).size ≤ s.size := by
  unfold cutAX; split
  · exact Nat.le_refl _
  · rw [ByteArray.size_extract]; omega
theorem cutZ_size (s : ByteArray) (h : s.size ≠ 0) : (cutZ s).size < s.size := by
  unfold cutZ; split
  · show 0 < s.size; omega
  · rw [ByteArray.size_extract]; omega
theorem strI_at (s : ByteArray) (k : Nat) : (strI s)[k]? = (s.data.toList[k]?).map fun b => (b.toNat : Int) := by
  simp [strI]
theorem ten_iff (b : UInt8) : (b.toNat : Int) = 10 ↔ b = 10 := by
  constructor
  · intro h
    have : b.toNat = (10 : UInt8).toNat := by show b.toNat = 10; omega
    exact UInt8.toNat_inj.1 this
  · rintro rfl; rfl
theorem strI_ten (s : ByteArray) (k : Nat) : (strI s)[k]? = some 10 ↔ s.data.toList[k]? = some 10 := by
  rw [strI_at]
  cases s.data.toList[k]? with
  | none => simp
  | some b => simp [ten_iff]

theorem cut_none {s : ByteArray} (h : nlAt s = -1) : cutAX s = s ∧ cutZ s = ⟨#[]⟩ := by unfold cutAX cutZ; rw [h]; simp
theorem cut_some {s : ByteArray} {m : Nat} (h : nlAt s = m) : cutAX s = s.extract 0 m ∧ cutZ s = s.extract (m + 1) s.size := by
  unfold cutAX cutZ; rw [h]; simp only [show ¬ ((m : Int) < 0) by omega, if_false, Int.toNat_natCast]; exact ⟨trivial, trivial⟩
theorem cut_ten (s : ByteArray) : ∀ k : Nat, (cutAX s).data.toList[k]? ≠ some 10 := by
  intro k hk
  rw [← strI_ten] at hk
  rcases nl_cases s with ⟨e, h⟩ | ⟨m, e, hm, h1, h2⟩
  · rw [(cut_none e).1, strI_ten] at hk; exact h k hk
  · rw [(cut_some e).1, strI_extract] at hk
    have hlt := (List.getElem?_eq_some_iff.1 hk).1
    simp only [List.drop_zero, List.length_take] at hlt hk
    rw [List.getElem?_take_of_lt (by omega), strI_ten] at hk
    exact h2 k (by omega) hk
theorem cut_join (s : ByteArray) (m : Nat) (e : nlAt s = m) (hm : m < s.size) (h1 : s.data.toList[m]? = some 10) : strI s = strI (cutAX s) ++ 10 :: strI (cutZ s) := by
  rw [(cut_some e).1, (cut_some e).2, strI_extract, strI_extract, List.take_of_length_le (i := s.size) (by rw [strI_len]; omega), List.drop_zero]
  have h2 := (strI_ten s m).2 h1
  have hlt := (List.getElem?_eq_some_iff.1 h2)
  obtain ⟨hl, he⟩ := hlt
  rw [← he]
  rw [show (strI s)[m] :: List.drop (m + 1) (strI s) = List.drop m (strI s) from (List.drop_eq_getElem_cons hl).symm, List.take_append_drop]

theorem linesF_empty (f n : Nat) (s : ByteArray) (h : s.size = 0) : linesF f n s = [] := by
  cases f with
  | zero => rfl
  | succ f => rw [linesF, if_pos h]
theorem linesF_step (f n : Nat) (s : ByteArray) (h : s.size ≠ 0) (hf : s.size ≤ f) : ∃ f', linesF f n s = (n, cutAX s) :: linesF f' (n + 1) (cutZ s) ∧ (cutZ s).size ≤ f' := by
  cases f with
  | zero => omega
  | succ f =>
    have := cutZ_size s h
    exact ⟨f, by rw [linesF, if_neg h], by omega⟩
theorem tailN_app (a b : List Int) : tailN (a ++ 10 :: b) = a ++ 10 :: tailN b := by
  unfold tailN
  cases b with
  | nil => simp
  | cons x b =>
    rw [show (a ++ 10 :: x :: b).getLast? = (x :: b).getLast? by rw [List.getLast?_append, List.getLast?_cons_cons, List.getLast?_cons]; rfl]
    split
    · rfl
    · simp
theorem join_lines (f : Nat) : ∀ (n : Nat) (s : ByteArray), s.size ≤ f → joinN (linesF f n s) = tailN (strI s) := by
  induction f with
  | zero =>
    intro n s h
    have : strI s = [] := List.length_eq_zero_iff.1 (by rw [strI_len]; omega)
    rw [this]; rfl
  | succ f ih =>
    intro n s h
    by_cases h0 : s.size = 0
    · have : strI s = [] := List.length_eq_zero_iff.1 (by rw [strI_len]; omega)
      rw [this, linesF_empty _ _ _ h0]; rfl
    · have hz := cutZ_size s h0
      rw [linesF, if_neg h0]
      simp only [joinN, List.flatMap_cons]
      have hj : joinN (linesF f (n + 1) (cutZ s)) = _ := ih (n + 1) (cutZ s) (by omega)
      rcases nl_cases s with ⟨e, hn⟩ | ⟨m, e, hm, h1, h2⟩
      · rw [(cut_none e).2] at hj ⊢
        have hj : List.flatMap (fun x => strI x.2 ++ [10]) (linesF f (n + 1) ⟨#[]⟩) = [] := by rw [linesF_empty _ _ _ rfl]; rfl
        rw [hj, (cut_none e).1]
        unfold tailN
        rw [if_neg ?_]
        · simp
        · rintro (hx | hx)
          · rw [List.getLast?_eq_none_iff] at hx
            have := strI_len s
            rw [hx] at this; simp at this; omega
          · rw [List.getLast?_eq_getElem?] at hx
            rw [strI_ten] at hx
            exact hn _ hx
      · rw [cut_join s m e hm h1, tailN_app]
        rw [show List.flatMap (fun x => strI x.2 ++ [10]) (linesF f (n + 1) (cutZ s)) = tailN (strI (cutZ s)) from hj]
        simp
theorem join_text (s : ByteArray) : joinN (linesT s) = tailN (strI s) := join_lines _ _ _ (Nat.le_refl _)
theorem lines_at (f : Nat) : ∀ (n : Nat) (s : ByteArray) (k : Nat) (x : Nat × ByteArray), (linesF f n s)[k]? = some x → x.1 = n + k ∧ x.2.size ≤ s.size ∧ ∀ j : Nat, x.2.data.toList[j]? ≠ some 10 := by
  induction f with
  | zero => intro n s k x h; simp [linesF] at h
  | succ f ih =>
    intro n s k x h
    rw [linesF] at h
    split at h
    · simp at h
    · rename_i h0
      cases k with
      | zero =>
        simp at h; subst h
        exact ⟨rfl, cutA_size s, cut_ten s⟩
      | succ k =>
        simp at h
        obtain ⟨h1, h2, h3⟩ := ih _ _ _ _ h
        have := cutZ_size s h0
        exact ⟨by omega, by omega, h3⟩
theorem lines_len (f : Nat) : ∀ (n : Nat) (s : ByteArray), (linesF f n s).length ≤ s.size := by
  induction f with
  | zero => intro n s; simp [linesF]
  | succ f ih =>
    intro n s
    rw [linesF]
    split
    · simp
    · rename_i h0
      have := cutZ_size s h0
      have := ih (n + 1) (cutZ s)
      simp only [List.length_cons]; omega
theorem pre_at {s : ByteArray} {pre : List (Nat × ByteArray)} {x : Nat × ByteArray} (h : pre ++ [x] <+: linesT s) : x.1 = pre.length + 1 ∧ x.2.size ≤ s.size ∧ (∀ j : Nat, x.2.data.toList[j]? ≠ some 10) ∧ pre.length < (linesT s).length ∧ (linesT s)[pre.length]? = some x := by
  obtain ⟨r, e⟩ := h
  have e2 : (linesT s)[pre.length]? = some x := by rw [← e]; simp
  obtain ⟨h1, h2, h3⟩ := lines_at _ _ _ _ _ e2
  exact ⟨by omega, h2, h3, (List.getElem?_eq_some_iff.1 e2).1, e2⟩
theorem join_le {a b : List (Nat × ByteArray)} (h : a <+: b) : (joinN a).length ≤ (joinN b).length := by
  obtain ⟨r, rfl⟩ := h
  simp [joinN]
theorem tail_le (l : List Int) : (tailN l).length ≤ l.length + 1 := by unfold tailN; split <;> simp
theorem join_snoc (pre : List (Nat × ByteArray)) (x : Nat × ByteArray) : joinN (pre ++ [x]) = joinN pre ++ strI x.2 ++ [10] := by simp [joinN]

end Go.Proofs.YtmobologlaeefaaGreat

/-
  What strings.Cut returns at a line's end.
-/
namespace Go.Proofs.YtmobologlaeefaaGreat
open Go.RowKit
set_option maxRecDepth 10000
set_option linter.unusedVariables false
set_option linter.unusedSimpArgs false

theorem liteIndexByte_any (s : ByteArray) (w : World) :
    Calls Tryz.prog 144 #[.string s, .int .u8 10] w fun e w' => e = .returned (.int .i64 (nlAt s)) ∧ w = w' := by
  have hx := fun (w : World) => run_callFunc_extern (P := Tryz.prog) (f := 165) Tryz.func165 (by kernel_rfl) (by kernel_rfl) (by kernel_rfl) (e := Extern.BytealgIndexByte.indexByte) (by kernel_rfl) #[.string s, .int .u8 10] w
  simp only [Lib.run_indexByteString, Result.andThen] at hx
  have e : Lib.indexByte s.data.toList (10 : Int).toNat.toUInt8 = nlAt s := rfl
  rw [e] at hx
  generalize nlAt s = r at hx
  go_enter Tryz.func144, Tryz.ntmps144
  go_wp2
  go_ret
  exact ⟨rfl, rfl⟩

set_option maxRecDepth 100000 in
set_option maxHeartbeats 2000000 in
theorem liteIndex_any (s : ByteArray) (w : World) :
    Calls Tryz.prog 117 #[.string s, .string ⟨#[10]⟩] w fun e w' => e = .returned (.int .i64 (nlAt s)) ∧ w = w' := by
  have hI := fun wx => liteIndexByte_any s wx
  have hz : (⟨#[10]⟩ : ByteArray).size = 1 := rfl
  by_cases hc : ([10] == s.toList) = true
  · have e0 : nlAt s = 0 := by
      have h := eq_of_beq hc
      rw [ByteArray.toList_eq] at h
      unfold nlAt; rw [← h]; rfl
    rw [e0]
    clear hI
    go_enter Tryz.func117, Tryz.ntmps117
    go_wp2_with fail
    go_ret
    exact ⟨rfl, rfl⟩
  · generalize nlAt s = r at *
    have hc : ([10] == s.toList) = false := by simpa using hc
    go_enter Tryz.func117, Tryz.ntmps117
    go_wp2_with fail
    refine (hI _).mono ?_
    rintro e w1 ⟨rfl, rfl⟩
    go_wp2
    go_ret
    exact ⟨rfl, rfl⟩

set_option maxHeartbeats 2000000 in
theorem liteCut_any (s : ByteArray) (w : World) (hs : s.size ≤ 140737488351232) :
    Calls Tryz.prog 96 #[.string s, .string ⟨#[10]⟩] w fun e w' => (∃ b, e = .returned (.tuple #[.string (cutAX s), .string (cutZ s), .bool b])) ∧ Below w.heap.size w w' := by
  have hI := fun wx => liteIndex_any s wx
  have hz : (⟨#[10]⟩ : ByteArray).size = 1 := rfl
  rcases nl_cases s with ⟨e, _⟩ | ⟨m, e, hm, _, _⟩
  · rw [(cut_none e).1, (cut_none e).2]
    rw [e] at hI
    go_enter Tryz.func96, Tryz.ntmps96
    go_wp2_with fail
    refine (hI _).mono ?_
    rintro e w1 ⟨rfl, rfl⟩
    go_wp2
    go_ret3
    exact ⟨⟨_, rfl⟩, Below.refl _ _⟩
  · rw [(cut_some e).1, (cut_some e).2]
    rw [e] at hI
    have h0 : ¬ ((m : Int) < 0) := by omega
    have h1 : (m : Int) + 1 ≤ (s.size : Int) := by omega
    have h2 : (m : Int) ≤ (s.size : Int) := by omega
    go_enter Tryz.func96, Tryz.ntmps96
    go_wp2_with fail
    refine (hI _).mono ?_
    rintro e w1 ⟨rfl, rfl⟩
    go_wp2_with fail
    go_quiet (fail)
    go_wp2
    go_ret3
    exact ⟨⟨_, rfl⟩, bel_drewN (Below.refl _ _) _⟩

theorem cut_any (s : ByteArray) (w : World) (hs : s.size ≤ 140737488351232) :
    Calls Tryz.prog 57 #[.string s, .string ⟨#[10]⟩] w fun e w' => (∃ b, e = .returned (.tuple #[.string (cutAX s), .string (cutZ s), .bool b])) ∧ Below w.heap.size w w' := by
  have hI := fun wx => liteCut_any s wx hs
  go_enter Tryz.func57, Tryz.ntmps57
  go_wp2_with fail
  refine (hI _).mono ?_
  rintro e w1 ⟨⟨b, rfl⟩, hb⟩
  have HB : Hid (Below w.heap.size w w1) := hb
  clear hb
  go_wp2
  go_ret3
  exact ⟨⟨_, rfl⟩, HB.out⟩

end Go.Proofs.YtmobologlaeefaaGreat

/-
  Lines of the layer lex, and what its iterator tells: the lines of the text, each with its number.
-/
namespace Go.Proofs.YtmobologlaeefaaGreat
open Go.RowKit Go.Shelf Go.Lib
set_option maxRecDepth 10000
attribute [local go_sem] Oper.semAt_some
set_option linter.unusedVariables false
set_option linter.unusedSimpArgs false

/-- What is told of a line. -/
def lineV (x : Nat × ByteArray) : Array Value := #[.int .i64 x.1, .string x.2]
def sizeV : Value → Nat
  | .string s => s.size
  | _ => 0

theorem lines_any (s : ByteArray) (w : World) : Calls Tryz.prog 29 #[.string s] w fun e w' => e = .returned (.func (.func 56) #[] #[.pointer (some ⟨w.heap.size, 0, none⟩)]) ∧ w' = w.alloc (.cells #[.string s] 9) := by
  go_enter Tryz.func29, Tryz.ntmps29
  go_wp2
  go_ret
  exact ⟨rfl, rfl⟩

theorem size_not (s : ByteArray) (h : s.size = 0) : s.toList.isEmpty = true := by
  rw [ByteArray.toList_eq]
  have : s.data.toList = [] := by rw [← List.length_eq_zero_iff, Array.length_toList]; exact h
  rw [this]; rfl
theorem size_some (s : ByteArray) (h : s.size ≠ 0) : s.toList.isEmpty = false := by
  rw [ByteArray.toList_eq]
  cases e : s.data.toList with
  | nil => exact absurd (by rw [← show s.data.size = s.size from rfl, ← Array.length_toList, e]; rfl) h
  | cons x l => rfl

set_option maxRecDepth 100000 in
set_option maxHeartbeats 2000000 in
theorem lines_tells (s : ByteArray) (hs : s.size ≤ 140737488351232) (b : Nat) (n0 : Nat) (τ : TypeId → Prop) (w : World) (hb : w.heap[b]? = some (.cells #[.string s] 9 (0, 0))) :
    Tells Tryz.prog 56 #[.pointer (some ⟨b, 0, none⟩)] lineV (fun pre x _ => pre ++ [x] <+: linesT s) n0 τ (fun xs => xs = linesT s) (fun pre => pre <+: linesT s) w := by
  intro l J Jx W hW hJ hJx hY h0
  have HY : Hid (∀ pre x W1, J pre W1 → pre ++ [x] <+: linesT s → _) := hY
  have hbl : b < w.heap.size := (Array.getElem?_eq_some_iff.1 hb).1
  obtain ⟨c0, _⟩ := oneCell ((hW.block b hbl).trans hb)
  clear hY hW hb
  refine callsIn_of_wp Tryz.func56 rfl trivial ?_ rfl
  simp only [Tryz.ntmps56, List.size_toArray, List.length_cons, List.length_nil, Nat.reduceAdd, Nat.reduceSub, Array.replicate_succ, Array.replicate_zero, List.push_toArray, List.append_toArray, List.nil_append, List.cons_append]
  gi_wp2
  gi_loopw [3, 4] (fun t i wr => ∃ (z : ByteArray) (pre : List (Nat × ByteArray)) (f : Nat), t = .string z ∧ i = .int .i64 ((pre.length : Int) + 1) ∧ z.size ≤ f ∧ pre.length + z.size ≤ s.size ∧ pre ++ linesF f (pre.length + 1) z = linesT s ∧ J pre wr) (fun t _ _ => sizeV t)
  case atStart => exact ⟨s, [], s.size, rfl, rfl, Nat.le_refl _, by simp, rfl, h0⟩
  case round =>
    obtain ⟨z, pre, f, rfl, rfl, hf, hsz, hpre, hJs⟩ := hrel
    clear h0
    by_cases hz : z.size = 0
    · have HJ : Hid (pre = linesT s ∧ J pre wr) := ⟨by rw [← hpre, linesF_empty _ _ _ hz, List.append_nil], hJs⟩
      have hz' := size_not z hz
      clear hJs HY hpre
      gi_wp2
      go_end0
      exact ⟨⟨_, rfl⟩, .inl ⟨_, HJ.out.1, HJ.out.2⟩⟩
    · obtain ⟨f', e1, hf'⟩ := linesF_step f (pre.length + 1) z hz hf
      have hZ := cutZ_size z hz
      have hA := cutA_size z
      have hz' := size_some z hz
      have HPX : Hid (pre ++ [(pre.length + 1, cutAX z)] <+: linesT s) := ⟨linesF f' (pre.length + 1 + 1) (cutZ z), by rw [← hpre, e1]; simp⟩
      have HN : Hid ((pre ++ [(pre.length + 1, cutAX z)]) ++ linesF f' ((pre ++ [(pre.length + 1, cutAX z)]).length + 1) (cutZ z) = linesT s) := by show _ = _; rw [← hpre, e1]; simp
      have hC := fun wx => cut_any z wx (by omega)
      have hD := fun wx => stringsClone_any (cutAX z) wx (by omega)
      have HJ : Hid (J pre wr) := hJs
      have HZ : Hid ((cutZ z).size < z.size ∧ (cutZ z).size ≤ f') := ⟨hZ, hf'⟩
      clear hJs hpre e1 hZ hA hf hf'
      generalize cutAX z = la at *
      generalize cutZ z = lz at *
      gi_wp2_with fail
      refine ⟨trivial, rfl, (callsIn_wide.2 (hC _)).mono ?_⟩
      rintro e w' ⟨⟨bb, rfl⟩, hB1⟩
      gi_wp2_with fail
      refine ⟨trivial, rfl, (callsIn_wide.2 (hD _)).mono ?_⟩
      rintro e W2 ⟨rfl, hB2⟩
      obtain ⟨fn, tmps, assign, body, hy, hR⟩ := HY.out pre (pre.length + 1, la) W2 (OwnFrom.below hJ HJ.out (hB1.trans (hB2.mono hB1.size))) HPX.out
      simp only [lineV, Int.natCast_add, Int.natCast_one] at hy
      clear HY hC hD
      gi_wp2_with fail
      refine ⟨rfl, hR.mono ?_⟩
      rintro e W3 ⟨hkf, ⟨rfl, hJ3, hk3⟩ | ⟨rfl, hJx3⟩⟩
      · have HJ3 : Hid (J (pre ++ [(pre.length + 1, la)]) W3) := hJ3
        clear hy hR hkf hk3 hJ3
        gi_wp2
        go_roundw
        case rel => exact ⟨lz, pre ++ [(pre.length + 1, la)], f', rfl, by simp, HZ.out.2, by have := HZ.out.1; simp; omega, HN.out, HJ3.out⟩
        case measure => have := HZ.out.1; simp only [sizeV]; omega
      · clear hy hR hkf
        gi_wp2
        refine bodyPost_ret (results_none rfl _ _ _) rfl ?_
        exact ⟨⟨_, rfl⟩, .inr ⟨_, HPX.out, hJx3⟩⟩

end Go.Proofs.YtmobologlaeefaaGreat

/-
  A region that draws its order, in a round or out of one: an operation that yields the same in every world of a class that no operation of the region leaves may be taken first.
-/
namespace Go.Proofs.YtmobologlaeefaaGreat
open Go.RowKit
set_option linter.unusedVariables false

section
variable {F : Fence} {n : Nat} {P : Program} {md : Region.Mode} {ops : Array Oper} {C : World → Prop} {Q : Exit → Act → World → Prop}

/-- As wpAnyIn, and each operation leaves a world of the class. -/
def wpAnyC (F : Fence) (n : Nat) (P : Program) (md : Region.Mode) (ops : Array Oper) (C : World → Prop) (Q : Exit → Act → World → Prop) : Nat → Array Bool → Act → World → Prop
  | 0, listed, a, w => Region.ready md ops listed = [] ∧ Q .normal a w
  | fuel + 1, listed, a, w => (Region.ready md ops listed = [] → Q .normal a w) ∧ ∀ i ∈ Region.ready md ops listed, wpOpIn F n P ops Q i (fun a' w' => C w' ∧ wpAnyC F n P md ops C Q fuel (listed.setIfInBounds i true) a' w') a w

theorem wpAnyC_sound : ∀ (fuel : Nat) (listed : Array Bool) (a : Act) (w : World), wpAnyC F n P md ops C Q fuel listed a w → wpAnyIn F n P md ops Q fuel listed a w
  | 0, _, _, _, h => h
  | fuel + 1, listed, a, w, h => ⟨h.1, fun i hi => wpOpIn_mono (fun a' w' h' => wpAnyC_sound fuel _ a' w' h'.2) (h.2 i hi)⟩

theorem wpAnyC_done {listed : Array Bool} {a : Act} {w : World} (hr : Region.ready md ops listed = []) (h : Q .normal a w) : ∀ fuel, wpAnyC F n P md ops C Q fuel listed a w
  | 0 => ⟨hr, h⟩
  | _ + 1 => ⟨fun _ => h, by rw [hr]; simp⟩

/-- In every world of the class it yields v. -/
def YieldsC (P : Program) (ops : Array Oper) (C : World → Prop) (o : Oper) (v : Value) (a : Act) : Prop :=
  (Region.wanted o (yielded ops a.tmps) = true ∧ ∀ w, C w → (execOp a.eval o).run P w = .ok (.value v) w) ∨ (Region.wanted o (yielded ops a.tmps) = false ∧ v = undef)

theorem YieldsC.op {i : Nat} {o : Oper} {v : Value} {a : Act} (hF : ∀ f, F.fn f) (hnd : ∀ c, o.op ≠ .defer c) (hi : ops[i]? = some o) (hy : YieldsC P ops C o v a) {K : Act → World → Prop} {w : World} (hC : C w) (h : K (a.put o.dst v) w) : wpOpIn F n P ops Q i K a w := by
  unfold wpOpIn
  simp only [hi]
  rcases hy with ⟨hw, hv⟩ | ⟨hw, rfl⟩
  · rw [if_pos hw]
    exact ⟨fun f _ => hF f, by rw [Oper.semAt_eq _ _ _ hnd, hv w hC]; exact h⟩
  · rw [if_neg (by rw [hw]; simp)]
    exact ⟨fun f _ => hF f, h⟩

/-- What another operation does hangs not on what the one has yielded. -/
theorem opIn_put {j : Nat} {oi oj : Oper} {v : Value} (hF : ∀ f, F.fn f) (hnd : ∀ c, oj.op ≠ .defer c) (hj : ops[j]? = some oj) (hap : oi.apart ops oj = true) (hsj : ∀ cs b, oj.op ≠ .select cs b)
    (hQ : ∀ c a w, Q (.panic c) (a.put oi.dst v) w → Q (.panic c) a w) {K : Act → World → Prop} {a : Act} {w : World} (h : wpOpIn F n P ops Q j K (a.put oi.dst v) w) :
    wpOpIn F n P ops Q j (fun a' w' => (∃ ds u, a' = ({ a with defers := ds } : Act).put oj.dst u) ∧ K (a'.put oi.dst v) w') a w := by
  obtain ⟨h1, h2, _⟩ := Oper.apart_spec hap
  unfold wpOpIn at *
  simp only [hj] at *
  rw [wanted_put oj a oi.dst v h1] at h
  have here : ∀ u w', K ((a.put oi.dst v).put oj.dst u) w' → (∃ ds u', a.put oj.dst u = ({ a with defers := ds } : Act).put oj.dst u') ∧ K ((a.put oj.dst u).put oi.dst v) w' := fun u w' hk => ⟨⟨a.defers, u, rfl⟩, by rw [← Act.put_comm a v u h2]; exact hk⟩
  by_cases hw : Region.wanted oj (yielded ops a.tmps) = true
  · rw [if_pos hw] at h ⊢
    obtain ⟨_, h⟩ := h
    refine ⟨fun f _ => hF f, ?_⟩
    rw [Oper.semAt_eq _ _ _ hnd, execOp_put oj hsj a oi.dst v h1] at h
    rw [Oper.semAt_eq _ _ _ hnd]
    generalize (execOp a.eval oj).run P w = r at *
    cases r with
    | ok x w' =>
      cases x <;> simp only [Oper.uponIn] at h ⊢
      case value u => exact here u _ h
      case skip => exact here _ _ h
      case defer d =>
        refine ⟨⟨d :: a.defers, undef, rfl⟩, ?_⟩
        rw [← Act.put_comm _ v undef h2, ← Act.put_defers]
        exact h
      case enter f args =>
        refine ⟨h.1, CallsIn.mono h.2 fun e w'' he => ?_⟩
        cases e with
        | returned u => exact here u _ he
        | panicked c => exact hQ _ _ _ he
        | outgrown => exact he
      case row row args => exact ⟨h.1, RowsIn.mono h.2 fun u w'' he => here u _ he⟩
      case round l f tmps assign body =>
        refine ⟨h.1, RoundIn.mono h.2 fun e w'' he => ?_⟩
        cases e with
        | returned u => exact here u _ he
        | panicked c => exact hQ _ _ _ he
        | outgrown => exact he
    | halt x w' =>
      cases x <;> simp only [Oper.uponIn] at h ⊢
      case panic u => exact hQ _ _ _ h
  · rw [if_neg hw] at h ⊢
    exact ⟨fun f _ => hF f, here _ _ h.2⟩

theorem YieldsC.put {oi oj : Oper} {v u : Value} {a : Act} {ds : List Deferred} (hy : YieldsC P ops C oi v a) (hap : oi.apart ops oj = true) (hsi : ∀ cs b, oi.op ≠ .select cs b) : YieldsC P ops C oi v (({ a with defers := ds } : Act).put oj.dst u) := by
  obtain ⟨_, _, h3⟩ := Oper.apart_spec hap
  have e1 : execOp (({ a with defers := ds } : Act).put oj.dst u).eval oi = execOp a.eval oi := (execOp_put oi hsi { a with defers := ds } oj.dst u h3).trans rfl
  have e2 : Region.wanted oi (yielded ops (({ a with defers := ds } : Act).put oj.dst u).tmps) = Region.wanted oi (yielded ops a.tmps) := (wanted_put oi { a with defers := ds } oj.dst u h3).trans rfl
  unfold YieldsC
  rw [e1, e2]
  exact hy

theorem wpAnyC_first {i : Nat} {oi : Oper} {v : Value} (hF : ∀ f, F.fn f) (hnd : ∀ (j : Nat) (o : Oper), ops[j]? = some o → ∀ c, o.op ≠ .defer c) (hi : ops[i]? = some oi) (hsel : ∀ (j : Nat) (o : Oper) cs b, ops[j]? = some o → o.op ≠ .select cs b)
    (hQ : ∀ c a w, Q (.panic c) (a.put oi.dst v) w → Q (.panic c) a w) : ∀ (fuel : Nat) (listed : Array Bool) (a : Act) (w : World),
      (∀ j oj, ops[j]? = some oj → j ≠ i → listed.getD j true = false → (∀ e ∈ oj.after, Region.binds md e = true → e.on ≠ i) → oi.apart ops oj = true) →
      i ∈ Region.ready md ops listed → YieldsC P ops C oi v a → C w → wpAnyC F n P md ops C Q fuel (listed.setIfInBounds i true) (a.put oi.dst v) w → wpAnyC F n P md ops C Q (fuel + 1) listed a w := by
  intro fuel
  induction fuel with
  | zero =>
    intro listed a w _ hr hy hC H
    refine ⟨fun h => (by rw [h] at hr; cases hr), fun j hj => ?_⟩
    by_cases hji : j = i
    · subst hji; exact hy.op hF (hnd j oi hi) hi hC ⟨hC, H⟩
    · have := ready_mono hj hji
      rw [H.1] at this
      cases this
  | succ fuel ih =>
    intro listed a w hfree hr hy hC H
    refine ⟨fun h => (by rw [h] at hr; cases hr), fun j hj => ?_⟩
    by_cases hji : j = i
    · subst hji; exact hy.op hF (hnd j oi hi) hi hC ⟨hC, H⟩
    · obtain ⟨hjun, oj, hoj, hall⟩ := mem_ready.1 hj
      have hnot : ∀ e ∈ oj.after, Region.binds md e = true → e.on ≠ i := fun e he hb heq => by
        have h1 := hall e he hb
        have h0 := (mem_ready.1 hr).1
        rw [heq] at h1
        rcases Nat.lt_or_ge i listed.size with h' | h'
        · simp [h'] at h0 h1; rw [h0] at h1; cases h1
        · simp [Array.getElem?_eq_none h'] at h1
      have hap := hfree j oj hoj hji hjun hnot
      have h2 := opIn_put hF (hnd j oj hoj) hoj hap (fun cs b => hsel j oj cs b hoj) hQ (H.2 j (ready_mono hj hji))
      refine wpOpIn_mono (fun a' w' h3 => ?_) h2
      obtain ⟨⟨ds, u, rfl⟩, hC', h4⟩ := h3
      refine ⟨hC', ih (listed.setIfInBounds j true) _ w' (fun k ok hk hki hun hno => hfree k ok hk hki ?_ hno) (ready_mono hr (Ne.symm hji)) (hy.put hap (fun cs b => hsel i oi cs b hi)) hC' ?_⟩
      · by_cases hjk : j = k
        · subst hjk; exact hjun
        · rw [getD_set_ne true hjk] at hun; exact hun
      · rw [Array.setIfInBounds_comm _ _ hji]
        exact h4

/-- No operation of it is a defer. -/
def noDefer (ops : Array Oper) : Bool := ops.all fun o => match o.op with | .defer _ => false | _ => true
theorem noDefer_spec (h : noDefer ops = true) (j : Nat) (o : Oper) (hj : ops[j]? = some o) (c : Call) : o.op ≠ .defer c := fun e => by
  obtain ⟨hlt, hk⟩ := Array.getElem?_eq_some_iff.1 hj
  have := (Array.all_eq_true.1 h) j hlt
  rw [hk, e] at this
  cases this

theorem wpAnyC_take {i : Nat} {oi : Oper} {v : Value} {fuel : Nat} {listed : Array Bool} {a : Act} {w : World} (hF : ∀ f, F.fn f) (hnd : noDefer ops = true) (hi : ops[i]? = some oi) (hs : Region.noSelect ops = true) (hf : Region.free md ops listed i = true) (hr : (Region.ready md ops listed).contains i = true)
    (hQ : ∀ c a w, Q (.panic c) (a.put oi.dst v) w → Q (.panic c) a w) (hC : C w) (hy : YieldsC P ops C oi v a) (h : wpAnyC F n P md ops C Q fuel (listed.setIfInBounds i true) (a.put oi.dst v) w) : wpAnyC F n P md ops C Q (fuel + 1) listed a w :=
  wpAnyC_first hF (noDefer_spec hnd) hi (Region.noSelect_spec hs) hQ fuel listed a w (Region.free_spec hi hf) (by simpa using hr) hy hC h

/-- The same, with the temporary named. -/
theorem wpAnyC_takeD {i : Nat} {oi : Oper} (d : Option Tmp) {v : Value} {fuel : Nat} {listed : Array Bool} {a : Act} {w : World} (hF : ∀ f, F.fn f) (hnd : noDefer ops = true) (hi : ops[i]? = some oi) (hd : oi.dst = d) (hs : Region.noSelect ops = true) (hf : Region.free md ops listed i = true) (hr : (Region.ready md ops listed).contains i = true)
    (hQ : ∀ c a w, Q (.panic c) (a.put d v) w → Q (.panic c) a w) (hC : C w) (hy : YieldsC P ops C oi v a) (h : wpAnyC F n P md ops C Q fuel (listed.setIfInBounds i true) (a.put d v) w) : wpAnyC F n P md ops C Q (fuel + 1) listed a w := by
  subst hd
  exact wpAnyC_take hF hnd hi hs hf hr hQ hC hy h

/-- The operations that may come up, one by one. -/
def AllC (F : Fence) (n : Nat) (P : Program) (md : Region.Mode) (ops : Array Oper) (C : World → Prop) (Q : Exit → Act → World → Prop) (fuel : Nat) (listed : Array Bool) (a : Act) (w : World) (rs : List Nat) : Prop :=
  ∀ i ∈ rs, wpOpIn F n P ops Q i (fun a' w' => C w' ∧ wpAnyC F n P md ops C Q fuel (listed.setIfInBounds i true) a' w') a w
theorem AllC.nil {fuel : Nat} {listed : Array Bool} {a : Act} {w : World} : AllC F n P md ops C Q fuel listed a w [] := fun _ h => by cases h
theorem AllC.cons {fuel : Nat} {listed : Array Bool} {a : Act} {w : World} {i : Nat} {o : Oper} {rs : List Nat} (ho : ops[i]? = some o)
    (h : ∀ K' : Act → World → Prop, (∀ a w, C w → wpAnyC F n P md ops C Q fuel (listed.setIfInBounds i true) a w → K' a w) → if Region.wanted o (yielded ops a.tmps) = true then Oper.wpIn F n P o a w K' Q else (∀ f, o.about P w a.eval = some f → F.fn f) ∧ K' (a.put o.dst undef) w)
    (hs : AllC F n P md ops C Q fuel listed a w rs) : AllC F n P md ops C Q fuel listed a w (i :: rs) := fun j hj => by
  rcases List.mem_cons.1 hj with rfl | hj
  · exact wpOpIn_step ho (fun K' hK => h K' (fun a w hC hw => hK a w ⟨hC, hw⟩))
  · exact hs j hj
theorem wpAnyC_ready {rs : List Nat} {fuel : Nat} {listed : Array Bool} {a : Act} {w : World} (hr : Region.ready md ops listed = rs) (hne : rs ≠ []) (h : AllC F n P md ops C Q fuel listed a w rs) : wpAnyC F n P md ops C Q (fuel + 1) listed a w :=
  ⟨fun h0 => absurd (hr ▸ h0) hne, hr ▸ h⟩

end

end Go.Proofs.YtmobologlaeefaaGreat

/-
  An append within a region that draws its order, in or out of a round.
-/
namespace Go.Proofs.YtmobologlaeefaaGreat
open Go.RowKit
set_option linter.unusedVariables false

/-- A piece of code that goes on. -/
theorem wpIn_normal {F : Fence} {n : Nat} {P : Program} {c : Code} {Q : Exit → Act → World → Prop} {a : Act} {w : World} (h : c.wpIn F n P (fun e a w => e = .normal ∧ Q .normal a w) a w) : c.wpIn F n P Q a w :=
  Code.wpIn_mono (fun e a w h => by obtain ⟨rfl, h⟩ := h; exact h) h

theorem stepAny_append {P : Program} (w : World) {F : Fence} (hF : ∀ f, F.fn f) {o : Oper} {ops : Array Oper} {a : Act} {K : Act → World → Prop} {Q : Exit → Act → World → Prop} (hgd : o.guard = none) (s x : Operand) (t : TypeId)
    (ho : o.op = .call { callee := .builtin .append, args := #[s, x], argTypes := #[t, t] }) (base : Nat) (e : TypeId) (i : TypeInfo) (z : Value) (size bytes : Nat) (ht : P.underlying t = some (.slice e)) (hi : P.info? e = some i) (hz : i.zero = some z)
    (hsize : i.size = size) (hby : i.bytes = bytes) (hzs : z.cells.size = size) (hsz : 0 < size) (v : Value) (n : Nat) (xs : List Value) (hs : a.eval s = v) (hown : w.ownsRow base e size v n xs)
    (ad : Addr) (m c : Nat) (news : List Value) (hx : a.eval x = .slice (some ad) m c) (hl : news.length = m * size) (hnews : ∀ j u, news[j]? = some u → w.cell? (ad.add j) = some u) (h1 : ∀ u ∈ news, u.oneCell' = true)
    (hm : 0 < m) (h63 : n + m ≤ maxLen) (hbytes : (n + m) * bytes ≤ 140737488355328) (hbase : base ≤ w.heap.size)
    (h : ∀ g cap w', w'.ownsRow base e size (.slice (some ⟨g, 0, none⟩) (n + m) cap) (n + m) (xs ++ news) → w.grownBy w' v.ownBlock → K (a.put o.dst (.slice (some ⟨g, 0, none⟩) (n + m) cap)) w') :
    if Region.wanted o (yielded ops a.tmps) = true then Oper.wpIn F 0 P o a w K Q else (∀ f, o.about P w a.eval = some f → F.fn f) ∧ K (a.put o.dst undef) w := by
  obtain ⟨v', w', hr, h2, h3, _⟩ := run_append_own (P := P) w base t o.type e i z size bytes ht hi hz hsize hby hzs hsz v n xs hown ad m c news hl hnews h1 h63 hbytes hbase
  obtain ⟨g, cap', rfl⟩ : ∃ g cap', v' = .slice (some ⟨g, 0, none⟩) (n + m) cap' := by
    rcases h2.2 with ⟨_, h0⟩ | ⟨g, cap', cur, e', _⟩
    · omega
    · exact ⟨g, cap', e'⟩
  rw [if_pos (by simp [Region.wanted, hgd])]
  refine ⟨fun f _ => hF f, ?_⟩
  rw [Oper.semAt_eq _ _ _ (fun c hc => by rw [ho] at hc; cases hc)]
  unfold execOp
  simp only [ho, resolve, invoke, builtin, Sem.run_bind, Sem.run_pure, Result.andThen_ok, List.map_toArray, List.map_cons, List.map_nil, hs, hx, hr]
  exact h g cap' w' h2 h3

end Go.Proofs.YtmobologlaeefaaGreat
