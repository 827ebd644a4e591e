/-
  What kindOf, inRun, printable, digitValue and hexDigit of the layer lex return, for every byte; nothing turns.
-/
import Derived.WalkSpells
import Derived.Test.YteckmcgihbicfabProg
import Derived.Test.YteckmcgihbicfabMathL
namespace Go.Proofs.Yteckmcgihbicfab
open Go.RowKit
set_option maxRecDepth 10000
set_option linter.unusedVariables false
set_option linter.unusedSimpArgs false

theorem printable_any (c : Int) (w : World) (h0 : 0 ≤ c) (h1 : c < 256) :
    Calls Try.prog 95 #[.int .u8 c] w fun e w' => e = .returned (.bool (printB c)) ∧ w = w' := by
  by_cases a : 32 ≤ c
  · by_cases b : c ≤ 126
    · have H : Hid (printB c = true) := by show _ = _; simp [printB]; omega
      go_enter Try.func95, Try.ntmps95
      go_wp2
      go_ret
      exact ⟨by rw [H.out]; first | rfl | (simp; done) | (simp; omega), rfl⟩
    · have H : Hid (printB c = false) := by show _ = _; simp [printB]; omega
      go_enter Try.func95, Try.ntmps95
      go_wp2
      go_ret
      exact ⟨by rw [H.out]; first | rfl | (simp; done) | (simp; omega), rfl⟩
  · have H : Hid (printB c = false) := by show _ = _; simp [printB]; omega
    go_enter Try.func95, Try.ntmps95
    go_wp2
    go_ret
    exact ⟨by rw [H.out]; first | rfl | (simp; done) | (simp; omega), rfl⟩

theorem inRun_any (k : Int) (w : World) (h0 : 0 ≤ k) (h1 : k < 256) :
    Calls Try.prog 78 #[.int .u8 k] w fun e w' => e = .returned (.bool (k == 3 || k == 4)) ∧ w = w' := by
  by_cases a : k = 3
  · subst a
    go_enter Try.func78, Try.ntmps78
    go_wp2
    go_ret
    exact ⟨rfl, rfl⟩
  · have a' : (k == 3) = false := by simpa using a
    go_enter Try.func78, Try.ntmps78
    go_wp2
    go_ret
    exact ⟨by rw [a']; rfl, rfl⟩

theorem kindL_letter {c : Int} (h : letterB c = true) : kindL c = 3 := by simp [kindL, h]
theorem kindL_digit {c : Int} (h : digitB c = true) : kindL c = 4 := by
  have : letterB c = false := by
    simp only [digitB, decide_eq_true_eq] at h
    simp [letterB]; omega
  simp [kindL, h, this]

set_option maxHeartbeats 1000000 in
theorem kindOf_any (c : Int) (w : World) (h0 : 0 ≤ c) (h1 : c < 256) :
    Calls Try.prog 75 #[.int .u8 c] w fun e w' => e = .returned (.int .u8 (kindL c)) ∧ w = w' := by
  by_cases a0 : c = 95
  · subst a0
    go_enter Try.func75, Try.ntmps75
    go_wp2
    go_ret
    exact ⟨rfl, rfl⟩
  by_cases a1 : 65 ≤ c ∧ c ≤ 90
  · have H : Hid (kindL c = 3) := kindL_letter (by simp [letterB]; omega)
    have b0 : (c == 95) = false := by simpa using a0
    obtain ⟨a2, a3⟩ := a1
    clear a0
    go_enter Try.func75, Try.ntmps75
    go_wp2
    go_ret
    exact ⟨by rw [H.out]; rfl, rfl⟩
  by_cases a2 : 97 ≤ c ∧ c ≤ 122
  · have H : Hid (kindL c = 3) := kindL_letter (by simp [letterB]; omega)
    have b0 : (c == 95) = false := by simpa using a0
    have b1 : 65 ≤ c := by omega
    have b2 : ¬ c ≤ 90 := by omega
    obtain ⟨a4, a3⟩ := a2
    clear a0 a1
    go_enter Try.func75, Try.ntmps75
    go_wp2
    go_ret
    exact ⟨by rw [H.out]; rfl, rfl⟩
  have d1 : (decide (65 ≤ c) && decide (c ≤ 90)) = false := by simpa using a1
  have d2 : (decide (97 ≤ c) && decide (c ≤ 122)) = false := by simpa using a2
  have hL : letterB c = false := by simp [letterB, a0]; omega
  have b0 : (c == 95) = false := by simpa using a0
  by_cases a3 : 48 ≤ c ∧ c ≤ 57
  · have H : Hid (kindL c = 4) := kindL_digit (by simp [digitB]; omega)
    obtain ⟨a4, a5⟩ := a3
    have b1 : ¬ 65 ≤ c := by omega
    have b2 : ¬ 97 ≤ c := by omega
    clear a0 a1 a2 d1 d2 hL
    go_enter Try.func75, Try.ntmps75
    go_wp2
    go_ret
    exact ⟨by rw [H.out]; rfl, rfl⟩
  have hD : digitB c = false := by simp [digitB]; omega
  have HK : Hid (kindL c = if blankB c then 2 else if c = 37 then 5 else if c = 45 then 6 else if c = 34 then 7 else if c = 92 then 8 else if c = 61 then 9 else if c = 59 then 10 else 1) := by
    show _ = _
    simp only [kindL, hL, hD]; rfl
  by_cases e0 : c = 9 ∨ c = 13 ∨ c = 32 ∨ c = 37 ∨ c = 45 ∨ c = 34 ∨ c = 61 ∨ c = 59
  · rcases e0 with rfl | rfl | rfl | rfl | rfl | rfl | rfl | rfl <;>
    · go_enter Try.func75, Try.ntmps75
      go_wp2
      go_ret
      exact ⟨rfl, rfl⟩
  by_cases e1 : c = 92
  · subst e1
    go_enter Try.func75, Try.ntmps75
    go_wp2
    go_ret
    exact ⟨rfl, rfl⟩
  simp only [not_or] at e0
  obtain ⟨f0, f1, f2, f3, f4, f5, f6, f7⟩ := e0
  have H : Hid (kindL c = 1) := by
    show _ = _
    rw [HK.out, if_neg (by simp [blankB]; omega), if_neg f3, if_neg f4, if_neg f5, if_neg e1, if_neg f6, if_neg f7]
  have g0 : (c == 9) = false := by simpa using f0
  have g1 : (c == 13) = false := by simpa using f1
  have g2 : (c == 32) = false := by simpa using f2
  have g3 : (c == 37) = false := by simpa using f3
  have g4 : (c == 45) = false := by simpa using f4
  have g5 : (c == 34) = false := by simpa using f5
  have g6 : (c == 61) = false := by simpa using f6
  have g7 : (c == 59) = false := by simpa using f7
  have g8 : (c == 92) = false := by simpa using e1
  clear f0 f1 f2 f3 f4 f5 f6 f7 e1 HK hD hL a0
  by_cases m0 : 65 ≤ c
  · have m1 : ¬ c ≤ 90 := by omega
    by_cases m2 : 97 ≤ c
    · have m3 : ¬ c ≤ 122 := by omega
      have m4 : 48 ≤ c := by omega
      have m5 : ¬ c ≤ 57 := by omega
      clear a1 a2 a3 d1 d2
      go_enter Try.func75, Try.ntmps75
      go_wp2
      go_ret
      exact ⟨by rw [H.out]; rfl, rfl⟩
    · have m4 : 48 ≤ c := by omega
      have m5 : ¬ c ≤ 57 := by omega
      clear a1 a2 a3 d1 d2
      go_enter Try.func75, Try.ntmps75
      go_wp2
      go_ret
      exact ⟨by rw [H.out]; rfl, rfl⟩
  · have m2 : ¬ 97 ≤ c := by omega
    by_cases m4 : 48 ≤ c
    · have m5 : ¬ c ≤ 57 := by omega
      clear a1 a2 a3 d1 d2
      go_enter Try.func75, Try.ntmps75
      go_wp2
      go_ret
      exact ⟨by rw [H.out]; rfl, rfl⟩
    · clear a1 a2 a3 d1 d2
      go_enter Try.func75, Try.ntmps75
      go_wp2
      go_ret
      exact ⟨by rw [H.out]; rfl, rfl⟩

theorem digitValue_any (c : Int) (w : World) (h0 : 0 ≤ c) (h1 : c < 256) :
    Calls Try.prog 97 #[.int .u8 c] w fun e w' => e = .returned (.int .u64 (dvI c)) ∧ w = w' := by
  have hE : ∀ c, 48 ≤ c → c ≤ 57 → dvI c = c - 48 := fun c a b => by
    unfold dvI worthI; rw [if_pos (by simp [hexB, digitB]; omega), if_pos b]
  have hF : ∀ c, 97 ≤ c → c ≤ 102 → dvI c = c - 87 := fun c a b => by
    unfold dvI worthI; rw [if_pos (by simp [hexB, digitB]; omega), if_neg (by omega), if_pos a]
  have hG : ∀ c, 65 ≤ c → c ≤ 70 → dvI c = c - 55 := fun c a b => by
    unfold dvI worthI; rw [if_pos (by simp [hexB, digitB]; omega), if_neg (by omega), if_neg (by omega)]
  by_cases a0 : 48 ≤ c
  · by_cases a1 : c ≤ 57
    · have H : Hid (dvI c = c - 48) := hE c a0 a1
      clear hE hF hG
      go_enter Try.func97, Try.ntmps97
      go_wp2
      go_ret
      exact ⟨by rw [H.out]; rfl, rfl⟩
    · by_cases a2 : 97 ≤ c
      · by_cases a3 : c ≤ 102
        · have H : Hid (dvI c = c - 87) := hF c a2 a3
          clear hE hF hG
          go_enter Try.func97, Try.ntmps97
          go_wp2
          go_ret
          exact ⟨by rw [H.out]; exact ret_int (by omega), rfl⟩
        · have H : Hid (dvI c = 18446744073709551615) := by show _ = _; unfold dvI; rw [if_neg (by simp [hexB, digitB]; omega)]
          have a4 : 65 ≤ c := by omega
          have a5 : ¬ c ≤ 70 := by omega
          clear hE hF hG
          go_enter Try.func97, Try.ntmps97
          go_wp2
          go_ret
          exact ⟨by rw [H.out]; rfl, rfl⟩
      · by_cases a3 : 65 ≤ c
        · by_cases a5 : c ≤ 70
          · have H : Hid (dvI c = c - 55) := hG c a3 a5
            clear hE hF hG
            go_enter Try.func97, Try.ntmps97
            go_wp2
            go_ret
            exact ⟨by rw [H.out]; exact ret_int (by omega), rfl⟩
          · have H : Hid (dvI c = 18446744073709551615) := by show _ = _; unfold dvI; rw [if_neg (by simp [hexB, digitB]; omega)]
            clear hE hF hG
            go_enter Try.func97, Try.ntmps97
            go_wp2
            go_ret
            exact ⟨by rw [H.out]; rfl, rfl⟩
        · have H : Hid (dvI c = 18446744073709551615) := by show _ = _; unfold dvI; rw [if_neg (by simp [hexB, digitB]; omega)]
          clear hE hF hG
          go_enter Try.func97, Try.ntmps97
          go_wp2
          go_ret
          exact ⟨by rw [H.out]; rfl, rfl⟩
  · have H : Hid (dvI c = 18446744073709551615) := by show _ = _; unfold dvI; rw [if_neg (by simp [hexB, digitB]; omega)]
    have a2 : ¬ 97 ≤ c := by omega
    have a3 : ¬ 65 ≤ c := by omega
    clear hE hF hG
    go_enter Try.func97, Try.ntmps97
    go_wp2
    go_ret
    exact ⟨by rw [H.out]; rfl, rfl⟩

end Go.Proofs.Yteckmcgihbicfab
