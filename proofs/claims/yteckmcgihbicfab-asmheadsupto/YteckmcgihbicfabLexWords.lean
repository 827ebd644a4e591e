/-
  What isWord and mayBe of the layer lex return, for every text and token.
-/
import Derived.WalkSpells
import Derived.WalkMore
import Derived.Test.YteckmcgihbicfabProg
import Derived.Test.YteckmcgihbicfabMathX
import Derived.Test.YteckmcgihbicfabLexKinds
import Derived.Test.YteckmcgihbicfabLexNumber
namespace Go.Proofs.Yteckmcgihbicfab
open Go.RowKit
set_option maxRecDepth 10000
set_option linter.unusedVariables false
set_option linter.unusedSimpArgs false

set_option maxHeartbeats 1000000 in
theorem isWord_any (s : ByteArray) (w : World) (hs : s.size ≤ 140737488351232) :
    Calls Try.prog 99 #[.string s] w fun e w' => e = .returned (.bool (wordB (strI s))) ∧ w = w' := by
  have HN : Hid (∀ k, k < s.size → runB (nth (strI s) k) = false → wordB (strI s) = false) := fun k hk h => word_not (by rw [strI_len]; exact hk) h
  have HA : Hid ((∀ k, k < s.size → runB (nth (strI s) k) = true) → wordB (strI s) = (!s.toList.isEmpty && letterB (nth (strI s) 0))) := fun h => by
    rw [← str_empty_strI]
    cases hl : strI s with
    | nil => rfl
    | cons c r =>
      rw [← hl, word_all (by rw [hl]; simp) (fun k hk => h k (by rw [← strI_len]; exact hk)), hl]; rfl
  have HZ : Hid (s.size = 0 → s.toList.isEmpty = true) := fun h => by rw [← str_empty_strI, List.isEmpty_iff, ← List.length_eq_zero_iff, strI_len]; exact h
  have HZ2 : Hid (0 < s.size → s.toList.isEmpty = false) := fun h => by
    rw [← str_empty_strI]
    have := strI_len s
    cases hl : strI s with
    | nil => rw [hl] at this; simp at this; omega
    | cons c r => rfl
  go_enter Try.func99, Try.ntmps99
  go_wp2
  go_loop [6] (fun i => ∃ k : Nat, k ≤ s.size ∧ i = .int .i64 k ∧ ∀ j, j < k → runB (nth (strI s) j) = true) (fun i => s.size - (intOf i).toNat)
  case atStart => exact ⟨0, Nat.zero_le _, rfl, fun j hj => by omega⟩
  case round =>
    obtain ⟨k, hk, rfl, hall⟩ := hrel
    by_cases hlt : k < s.size
    · have hc0 : (0 : Int) ≤ (s[k].toNat : Int) := by omega
      have hc1 : (s[k].toNat : Int) < 256 := by have := s[k].toNat_lt; omega
      have hK := fun wx => kindOf_any (s[k].toNat : Int) wx hc0 hc1
      have hR := fun wx => inRun_any (kindL (s[k].toNat : Int)) wx (by have := kind_lo (s[k].toNat : Int); omega) (by have := kind_hi (s[k].toNat : Int); omega)
      have EN := HN.out k hlt
      rw [nth_strI s k hlt] at EN
      have EA : Hid (runB (s[k].toNat : Int) = true → ∀ j, j < k + 1 → runB (nth (strI s) j) = true) := fun h j hj => by
        by_cases e : j = k
        · subst e; rw [nth_strI s j hlt]; exact h
        · exact hall j (by omega)
      have EN' : Hid (runB (s[k].toNat : Int) = false → wordB (strI s) = false) := EN
      clear EN hall
      rw [kind_run] at hR
      generalize kindL (s[k].toNat : Int) = kd at *
      generalize runB (s[k].toNat : Int) = rb at *
      cases rb
      · have HB : Hid (wordB (strI s) = false) := EN'.out rfl
        go_wp2_with (first | (go_at_call 75; refine (hK _).mono ?_; rintro e w' ⟨rfl, rfl⟩) | (go_at_call 78; refine (hR _).mono ?_; rintro e w' ⟨rfl, rfl⟩))
        go_ret
        exact ⟨by rw [HB.out]; rfl, rfl⟩
      · go_wp2_with (first | (go_at_call 75; refine (hK _).mono ?_; rintro e w' ⟨rfl, rfl⟩) | (go_at_call 78; refine (hR _).mono ?_; rintro e w' ⟨rfl, rfl⟩))
        go_round
        case rel => exact ⟨k + 1, by omega, by go_num, EA.out trivial⟩
        case measure => simp [intOf]; omega
    · obtain rfl : k = s.size := by omega
      have HB : Hid (wordB (strI s) = (!s.toList.isEmpty && letterB (nth (strI s) 0))) := HA.out hall
      clear hall
      by_cases hz : 0 < s.size
      · have he := HZ2.out hz
        have hc0 : (0 : Int) ≤ (s[0].toNat : Int) := by omega
        have hc1 : (s[0].toNat : Int) < 256 := by have := s[0].toNat_lt; omega
        have hK := fun wx => kindOf_any (s[0].toNat : Int) wx hc0 hc1
        rw [nth_strI s 0 hz] at HB
        have HK : Hid ((kindL (s[0].toNat : Int) == 3) = letterB (s[0].toNat : Int)) := kind_letter _
        have HB2 : Hid (wordB (strI s) = (kindL (s[0].toNat : Int) == 3)) := by show _ = _; rw [HB.out, he, HK.out]; rfl
        clear HB HK
        generalize kindL (s[0].toNat : Int) = kd at *
        go_wp2_with (go_at_call 75; refine (hK _).mono ?_; rintro e w' ⟨rfl, rfl⟩)
        go_ret
        exact ⟨by rw [HB2.out]; rfl, rfl⟩
      · have he := HZ.out (by omega)
        have HB2 : Hid (wordB (strI s) = false) := by show _ = _; rw [HB.out, he]; rfl
        clear HB
        go_wp2_with fail
        go_ret
        exact ⟨by rw [HB2.out]; rfl, rfl⟩

theorem eq_strI (s t : ByteArray) : (s.toList == t.toList) = decide (strI s = strI t) := by
  rw [ByteArray.toList_eq, ByteArray.toList_eq]
  by_cases h : s.data.toList = t.data.toList
  · have : strI s = strI t := by unfold strI; rw [h]
    rw [h, decide_eq_true this]; simp
  · have : ¬ strI s = strI t := fun h' => h (by rw [strI_inj h'])
    rw [decide_eq_false this]; simpa using h

theorem mayBe_any (k : Int) (s : ByteArray) (a : Int) (w : World) (hk0 : 0 ≤ k) (hk1 : k < 256) (hs : s.size ≤ 140737488351232) :
    Calls Try.prog 80 #[.agg #[.int .u8 k, .string s, .int .i64 a]] w fun e w' => e = .returned (.bool (tokOk k (strI s))) ∧ Below w.heap.size w w' := by
  have HB : Hid (Below w.heap.size w (w.alloc (.cells #[.int .u8 k, .string s, .int .i64 a] 77))) := (Below.refl _ w).alloc (Nat.le_refl _) _
  by_cases k1 : k = 1
  · subst k1
    have HT : Hid (tokOk 1 (strI s) = wordB (strI s)) := rfl
    have hW := fun wx => isWord_any s wx hs
    generalize wordB (strI s) = B at hW HT
    go_enter Try.func80, Try.ntmps80
    go_wp2_with fail
    refine (hW _).mono ?_
    rintro e w' ⟨rfl, rfl⟩
    go_wp2_with fail
    go_ret
    exact ⟨by rw [HT.out]; rfl, HB.out⟩
  by_cases k2 : k = 2
  · subst k2
    have HT : Hid (tokOk 2 (strI s) = plainB (strI s)) := rfl
    have hW := fun wx => plainNumber_any s wx hs
    generalize plainB (strI s) = B at hW HT
    go_enter Try.func80, Try.ntmps80
    go_wp2_with fail
    refine (hW _).mono ?_
    rintro e w' ⟨⟨x, rfl, _, _, _⟩, rfl⟩
    go_wp2_with fail
    go_ret
    exact ⟨by rw [HT.out]; rfl, HB.out⟩
  by_cases k3 : k = 3
  · subst k3
    have HT : Hid (tokOk 3 (strI s) = numB (strI s)) := rfl
    have hW := fun wx => number_any s wx hs
    generalize numB (strI s) = B at hW HT
    go_enter Try.func80, Try.ntmps80
    go_wp2_with fail
    refine (hW _).mono ?_
    rintro e w' ⟨⟨x, rfl, _, _, _⟩, rfl⟩
    go_wp2_with fail
    go_ret
    exact ⟨by rw [HT.out]; rfl, HB.out⟩
  by_cases k4 : k = 4
  · subst k4
    have HT : Hid (tokOk 4 (strI s) = true) := rfl
    go_enter Try.func80, Try.ntmps80
    go_wp2_with fail
    go_ret
    exact ⟨by rw [HT.out]; rfl, HB.out⟩
  by_cases k5 : k = 5
  · subst k5
    have HT : Hid (tokOk 5 (strI s) = (s.toList == [61])) := by
      have e := eq_strI s { data := #[61] }
      rw [show ByteArray.toList { data := #[61] } = [61] by rw [ByteArray.toList_eq]] at e
      show _ = _
      rw [e]; rfl
    go_enter Try.func80, Try.ntmps80
    go_wp2_with fail
    go_ret
    exact ⟨by rw [HT.out]; rfl, HB.out⟩
  have HT : Hid (tokOk k (strI s) = false) := by show _ = _; simp [tokOk, k1, k2, k3, k4, k5]
  have b1 : (k == 1) = false := by simpa using k1
  have b2 : (k == 2) = false := by simpa using k2
  have b3 : (k == 3) = false := by simpa using k3
  have b4 : (k == 4) = false := by simpa using k4
  have b5 : (k == 5) = false := by simpa using k5
  clear k1 k2 k3 k4 k5
  go_enter Try.func80, Try.ntmps80
  go_wp2_with fail
  go_ret
  exact ⟨by rw [HT.out]; rfl, HB.out⟩

end Go.Proofs.Yteckmcgihbicfab
