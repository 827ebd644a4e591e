/-
  Letter, Blank and Run of the document's answer. Nothing that was there turns.
-/
import Derived.WalkSpells
import Derived.WalkMore
import Derived.Test.YteckmcgihbicfabProg
import Derived.Test.YteckmcgihbicfabMathZ
import Derived.Test.YteckmcgihbicfabLexWords
import Derived.Test.YteckmcgihbicfabRef06Number
namespace Go.Proofs.Yteckmcgihbicfab
open Go.RowKit
set_option maxRecDepth 10000
set_option linter.unusedVariables false
set_option linter.unusedSimpArgs false

theorem refLetter_any (c : Int) (w : World) (h0 : 0 ≤ c) (h1 : c < 256) :
    Calls Try.prog 58 #[.int .u8 c] w fun e w' => e = .returned (.bool (letterB c)) ∧ w = w' := by
  by_cases a : 65 ≤ c
  · by_cases b : c ≤ 90
    · have H : Hid (letterB c = true) := by show _ = _; simp [letterB]; omega
      go_enter Try.func58, Try.ntmps58
      go_wp2
      go_ret
      exact ⟨by first | rfl | (rw [H.out]; first | rfl | (simp; done) | (simp; omega)), rfl⟩
    · by_cases d : 97 ≤ c
      · by_cases e : c ≤ 122
        · have H : Hid (letterB c = true) := by show _ = _; simp [letterB]; omega
          go_enter Try.func58, Try.ntmps58
          go_wp2
          go_ret
          exact ⟨by first | rfl | (rw [H.out]; first | rfl | (simp; done) | (simp; omega)), rfl⟩
        · have H : Hid (letterB c = false) := by show _ = _; simp [letterB]; omega
          go_enter Try.func58, Try.ntmps58
          go_wp2
          go_ret
          exact ⟨by first | rfl | (rw [H.out]; first | rfl | (simp; done) | (simp; omega)), rfl⟩
      · by_cases f : c = 95
        · have f' : (c == 95) = true := by simpa using f
          have H : Hid (letterB c = true) := by show _ = _; simp [letterB]; omega
          go_enter Try.func58, Try.ntmps58
          go_wp2
          go_ret
          exact ⟨by first | rfl | (rw [H.out]; first | rfl | (simp; done) | (simp; omega)), rfl⟩
        · have f' : (c == 95) = false := by simpa using f
          have H : Hid (letterB c = false) := by show _ = _; simp [letterB]; omega
          go_enter Try.func58, Try.ntmps58
          go_wp2
          go_ret
          exact ⟨by first | rfl | (rw [H.out]; first | rfl | (simp; done) | (simp; omega)), rfl⟩
  · have H : Hid (letterB c = false) := by show _ = _; simp [letterB]; omega
    go_enter Try.func58, Try.ntmps58
    go_wp2
    go_ret
    exact ⟨by first | rfl | (rw [H.out]; first | rfl | (simp; done) | (simp; omega)), rfl⟩

theorem refBlank_any (c : Int) (w : World) (h0 : 0 ≤ c) (h1 : c < 256) :
    Calls Try.prog 37 #[.int .u8 c] w fun e w' => e = .returned (.bool (blankB c)) ∧ w = w' := by
  by_cases a : c = 9
  · have a' : (c == 9) = true := by simpa using a
    have H : Hid (blankB c = true) := by show _ = _; simp [blankB]; omega
    go_enter Try.func37, Try.ntmps37
    go_wp2
    go_ret
    exact ⟨by first | rfl | (rw [H.out]; first | rfl | (simp; done) | (simp; omega)), rfl⟩
  · have a' : (c == 9) = false := by simpa using a
    by_cases b : c = 13
    · have b' : (c == 13) = true := by simpa using b
      have H : Hid (blankB c = true) := by show _ = _; simp [blankB]; omega
      go_enter Try.func37, Try.ntmps37
      go_wp2
      go_ret
      exact ⟨by first | rfl | (rw [H.out]; first | rfl | (simp; done) | (simp; omega)), rfl⟩
    · have b' : (c == 13) = false := by simpa using b
      by_cases d : c = 32
      · have d' : (c == 32) = true := by simpa using d
        have H : Hid (blankB c = true) := by show _ = _; simp [blankB]; omega
        go_enter Try.func37, Try.ntmps37
        go_wp2
        go_ret
        exact ⟨by first | rfl | (rw [H.out]; first | rfl | (simp; done) | (simp; omega)), rfl⟩
      · have d' : (c == 32) = false := by simpa using d
        have H : Hid (blankB c = false) := by show _ = _; simp [blankB]; omega
        go_enter Try.func37, Try.ntmps37
        go_wp2
        go_ret
        exact ⟨by first | rfl | (rw [H.out]; first | rfl | (simp; done) | (simp; omega)), rfl⟩

set_option maxHeartbeats 1000000 in
theorem refRun_any (s : ByteArray) (p : Nat) (w : World) (hs : s.size ≤ 140737488351232) (hp : p ≤ s.size) :
    Calls Try.prog 59 #[.string s, .int .i64 p] w fun e w' => e = .returned (.string (s.extract p (runE (strI s) p))) ∧ w = w' := by
  have HE : Hid (∀ k, p ≤ k → k ≤ s.size → (∀ i, p ≤ i → i < k → runB (nth (strI s) i) = true) → (k = s.size ∨ runB (nth (strI s) k) = false) → runE (strI s) p = k) := fun k h1 h2 h3 h4 => runE_spec h1 (by rw [strI_len]; exact h2) h3 (by rw [strI_len]; exact h4)
  have hp' : (p : Int) ≤ (s.size : Int) := by omega
  go_enter Try.func59, Try.ntmps59
  go_wp2
  go_loop [5] (fun i => ∃ k : Nat, p ≤ k ∧ k ≤ s.size ∧ i = .int .i64 k ∧ ∀ j, p ≤ j → j < k → runB (nth (strI s) j) = true) (fun i => s.size - (intOf i).toNat)
  case atStart => exact ⟨p, Nat.le_refl _, hp, rfl, fun j h1 h2 => by omega⟩
  case round =>
    obtain ⟨k, hpk, hk, rfl, hall⟩ := hrel
    have hpk' : (p : Int) ≤ (k : Int) := by omega
    have hk' : (k : Int) ≤ (s.size : Int) := by omega
    by_cases hlt : k < s.size
    · have hc0 : (0 : Int) ≤ (s[k].toNat : Int) := by omega
      have hc1 : (s[k].toNat : Int) < 256 := by have := s[k].toNat_lt; omega
      have hL := fun wx => refLetter_any (s[k].toNat : Int) wx hc0 hc1
      have hD := fun wx => refDigit_any (s[k].toNat : Int) wx hc0 hc1
      have hlt' : (k : Int) < (s.size : Int) := by omega
      have EE := HE.out k hpk hk hall
      rw [nth_strI s k hlt] at EE
      have EA : Hid (runB (s[k].toNat : Int) = true → ∀ j, p ≤ j → j < k + 1 → runB (nth (strI s) j) = true) := fun h j hpj hj => by
        by_cases e : j = k
        · subst e; rw [nth_strI s j hlt]; exact h
        · exact hall j hpj (by omega)
      have ER : Hid (runB (s[k].toNat : Int) = (letterB (s[k].toNat : Int) || digitB (s[k].toNat : Int))) := rfl
      have EE' : Hid (runB (s[k].toNat : Int) = false → runE (strI s) p = k) := fun h => EE (Or.inr h)
      clear EE hall
      generalize runB (s[k].toNat : Int) = rb at *
      cases hl : letterB (s[k].toNat : Int)
      · cases hd : digitB (s[k].toNat : Int)
        · have HB : Hid (runE (strI s) p = k) := EE'.out (by rw [ER.out, hl, hd]; rfl)
          rw [hl] at hL
          rw [hd] at hD
          clear hl hd ER EA EE' HE
          go_wp2_with (first | (go_at_call 58; refine (hL _).mono ?_; rintro e w' ⟨rfl, rfl⟩) | (go_at_call 60; refine (hD _).mono ?_; rintro e w' ⟨rfl, rfl⟩))
          go_ret
          exact ⟨by rw [HB.out]; rfl, rfl⟩
        · have HA : Hid (∀ j, p ≤ j → j < k + 1 → runB (nth (strI s) j) = true) := EA.out (by rw [ER.out, hl, hd]; rfl)
          rw [hl] at hL
          rw [hd] at hD
          clear hl hd ER EA EE' HE
          go_wp2_with (first | (go_at_call 58; refine (hL _).mono ?_; rintro e w' ⟨rfl, rfl⟩) | (go_at_call 60; refine (hD _).mono ?_; rintro e w' ⟨rfl, rfl⟩))
          go_round
          case rel => exact ⟨k + 1, by omega, by omega, by go_num, HA.out⟩
          case measure => simp [intOf]; omega
      · have HA : Hid (∀ j, p ≤ j → j < k + 1 → runB (nth (strI s) j) = true) := EA.out (by rw [ER.out, hl]; rfl)
        rw [hl] at hL
        clear hl ER EA EE' HE hD
        go_wp2_with (go_at_call 58; refine (hL _).mono ?_; rintro e w' ⟨rfl, rfl⟩)
        go_round
        case rel => exact ⟨k + 1, by omega, by omega, by go_num, HA.out⟩
        case measure => simp [intOf]; omega
    · obtain rfl : k = s.size := by omega
      have HB : Hid (runE (strI s) p = s.size) := HE.out s.size hpk hk hall (Or.inl rfl)
      clear hall HE
      go_wp2
      go_ret
      exact ⟨by rw [HB.out]; rfl, rfl⟩

end Go.Proofs.Yteckmcgihbicfab
