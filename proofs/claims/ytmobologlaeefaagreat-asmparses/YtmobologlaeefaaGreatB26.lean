/-
  Texts laid together in one: Ref06Run, Ref06Part, Ref06Quote, Ref06Quoted, Ref06Token.
-/
import Derived.WalkSpells
import Derived.WalkMore
import Derived.Test.YtmobologlaeefaaGreatProg
import Derived.Test.YtmobologlaeefaaGreatB02
import Derived.Test.YtmobologlaeefaaGreatB16
import Derived.Test.YtmobologlaeefaaGreatB25
import Derived.Deep.QuietTactic
import Derived.BigQuiet
import Derived.Laws.BytesArg
/-
  Letter, Blank and Run of the document's answer. Nothing that was there turns.
-/
namespace Go.Proofs.YtmobologlaeefaaGreat
open Go.RowKit
set_option maxRecDepth 10000
set_option linter.unusedVariables false
set_option linter.unusedSimpArgs false

theorem ref6Letter_any (c : Int) (w : World) (h0 : 0 ≤ c) (h1 : c < 256) :
    Calls Tryz.prog 85 #[.int .u8 c] w fun e w' => e = .returned (.bool (letterB c)) ∧ w = w' := by
  by_cases a : 65 ≤ c
  · by_cases b : c ≤ 90
    · have H : Hid (letterB c = true) := by show _ = _; simp [letterB]; omega
      go_enter Tryz.func85, Tryz.ntmps85
      go_wp2
      go_ret
      exact ⟨by first | rfl | (rw [H.out]; first | rfl | (simp; done) | (simp; omega)), rfl⟩
    · by_cases d : 97 ≤ c
      · by_cases e : c ≤ 122
        · have H : Hid (letterB c = true) := by show _ = _; simp [letterB]; omega
          go_enter Tryz.func85, Tryz.ntmps85
          go_wp2
          go_ret
          exact ⟨by first | rfl | (rw [H.out]; first | rfl | (simp; done) | (simp; omega)), rfl⟩
        · have H : Hid (letterB c = false) := by show _ = _; simp [letterB]; omega
          go_enter Tryz.func85, Tryz.ntmps85
          go_wp2
          go_ret
          exact ⟨by first | rfl | (rw [H.out]; first | rfl | (simp; done) | (simp; omega)), rfl⟩
      · by_cases f : c = 95
        · have f' : (c == 95) = true := by simpa using f
          have H : Hid (letterB c = true) := by show _ = _; simp [letterB]; omega
          go_enter Tryz.func85, Tryz.ntmps85
          go_wp2
          go_ret
          exact ⟨by first | rfl | (rw [H.out]; first | rfl | (simp; done) | (simp; omega)), rfl⟩
        · have f' : (c == 95) = false := by simpa using f
          have H : Hid (letterB c = false) := by show _ = _; simp [letterB]; omega
          go_enter Tryz.func85, Tryz.ntmps85
          go_wp2
          go_ret
          exact ⟨by first | rfl | (rw [H.out]; first | rfl | (simp; done) | (simp; omega)), rfl⟩
  · have H : Hid (letterB c = false) := by show _ = _; simp [letterB]; omega
    go_enter Tryz.func85, Tryz.ntmps85
    go_wp2
    go_ret
    exact ⟨by first | rfl | (rw [H.out]; first | rfl | (simp; done) | (simp; omega)), rfl⟩

theorem refBlank_any (c : Int) (w : World) (h0 : 0 ≤ c) (h1 : c < 256) :
    Calls Tryz.prog 47 #[.int .u8 c] w fun e w' => e = .returned (.bool (blankB c)) ∧ w = w' := by
  by_cases a : c = 9
  · have a' : (c == 9) = true := by simpa using a
    have H : Hid (blankB c = true) := by show _ = _; simp [blankB]; omega
    go_enter Tryz.func47, Tryz.ntmps47
    go_wp2
    go_ret
    exact ⟨by first | rfl | (rw [H.out]; first | rfl | (simp; done) | (simp; omega)), rfl⟩
  · have a' : (c == 9) = false := by simpa using a
    by_cases b : c = 13
    · have b' : (c == 13) = true := by simpa using b
      have H : Hid (blankB c = true) := by show _ = _; simp [blankB]; omega
      go_enter Tryz.func47, Tryz.ntmps47
      go_wp2
      go_ret
      exact ⟨by first | rfl | (rw [H.out]; first | rfl | (simp; done) | (simp; omega)), rfl⟩
    · have b' : (c == 13) = false := by simpa using b
      by_cases d : c = 32
      · have d' : (c == 32) = true := by simpa using d
        have H : Hid (blankB c = true) := by show _ = _; simp [blankB]; omega
        go_enter Tryz.func47, Tryz.ntmps47
        go_wp2
        go_ret
        exact ⟨by first | rfl | (rw [H.out]; first | rfl | (simp; done) | (simp; omega)), rfl⟩
      · have d' : (c == 32) = false := by simpa using d
        have H : Hid (blankB c = false) := by show _ = _; simp [blankB]; omega
        go_enter Tryz.func47, Tryz.ntmps47
        go_wp2
        go_ret
        exact ⟨by first | rfl | (rw [H.out]; first | rfl | (simp; done) | (simp; omega)), rfl⟩

set_option maxHeartbeats 1000000 in
theorem refRun_any (s : ByteArray) (p : Nat) (w : World) (hs : s.size ≤ 140737488351232) (hp : p ≤ s.size) :
    Calls Tryz.prog 86 #[.string s, .int .i64 p] w fun e w' => e = .returned (.string (s.extract p (runE (strI s) p))) ∧ w = w' := by
  have HE : Hid (∀ k, p ≤ k → k ≤ s.size → (∀ i, p ≤ i → i < k → runB (nth (strI s) i) = true) → (k = s.size ∨ runB (nth (strI s) k) = false) → runE (strI s) p = k) := fun k h1 h2 h3 h4 => runE_spec h1 (by rw [strI_len]; exact h2) h3 (by rw [strI_len]; exact h4)
  have hp' : (p : Int) ≤ (s.size : Int) := by omega
  go_enter Tryz.func86, Tryz.ntmps86
  go_wp2
  go_loop [5] (fun i => ∃ k : Nat, p ≤ k ∧ k ≤ s.size ∧ i = .int .i64 k ∧ ∀ j, p ≤ j → j < k → runB (nth (strI s) j) = true) (fun i => s.size - (intOf i).toNat)
  case atStart => exact ⟨p, Nat.le_refl _, hp, rfl, fun j h1 h2 => by omega⟩
  case round =>
    obtain ⟨k, hpk, hk, rfl, hall⟩ := hrel
    have hpk' : (p : Int) ≤ (k : Int) := by omega
    have hk' : (k : Int) ≤ (s.size : Int) := by omega
    by_cases hlt : k < s.size
    · have hc0 : (0 : Int) ≤ (s[k].toNat : Int) := by omega
      have hc1 : (s[k].toNat : Int) < 256 := by have := s[k].toNat_lt; omega
      have hL := fun wx => ref6Letter_any (s[k].toNat : Int) wx hc0 hc1
      have hD := fun wx => refDigit_any (s[k].toNat : Int) wx hc0 hc1
      have hlt' : (k : Int) < (s.size : Int) := by omega
      have EE := HE.out k hpk hk hall
      rw [nth_strI s k hlt] at EE
      have EA : Hid (runB (s[k].toNat : Int) = true → ∀ j, p ≤ j → j < k + 1 → runB (nth (strI s) j) = true) := fun h j hpj hj => by
        by_cases e : j = k
        · subst e; rw [nth_strI s j hlt]; exact h
        · exact hall j hpj (by omega)
      have ER : Hid (runB (s[k].toNat : Int) = (letterB (s[k].toNat : Int) || digitB (s[k].toNat : Int))) := rfl
      have EE' : Hid (runB (s[k].toNat : Int) = false → runE (strI s) p = k) := fun h => EE (Or.inr h)
      clear EE hall
      generalize runB (s[k].toNat : Int) = rb at *
      cases hl : letterB (s[k].toNat : Int)
      · cases hd : digitB (s[k].toNat : Int)
        · have HB : Hid (runE (strI s) p = k) := EE'.out (by rw [ER.out, hl, hd]; rfl)
          rw [hl] at hL
          rw [hd] at hD
          clear hl hd ER EA EE' HE
          go_wp2_with (first | (go_at_call 85; refine (hL _).mono ?_; rintro e w' ⟨rfl, rfl⟩) | (go_at_call 88; refine (hD _).mono ?_; rintro e w' ⟨rfl, rfl⟩))
          go_ret
          exact ⟨by rw [HB.out]; rfl, rfl⟩
        · have HA : Hid (∀ j, p ≤ j → j < k + 1 → runB (nth (strI s) j) = true) := EA.out (by rw [ER.out, hl, hd]; rfl)
          rw [hl] at hL
          rw [hd] at hD
          clear hl hd ER EA EE' HE
          go_wp2_with (first | (go_at_call 85; refine (hL _).mono ?_; rintro e w' ⟨rfl, rfl⟩) | (go_at_call 88; refine (hD _).mono ?_; rintro e w' ⟨rfl, rfl⟩))
          go_round
          case rel => exact ⟨k + 1, by omega, by omega, by go_num, HA.out⟩
          case measure => simp [intOf]; omega
      · have HA : Hid (∀ j, p ≤ j → j < k + 1 → runB (nth (strI s) j) = true) := EA.out (by rw [ER.out, hl]; rfl)
        rw [hl] at hL
        clear hl ER EA EE' HE hD
        go_wp2_with (go_at_call 85; refine (hL _).mono ?_; rintro e w' ⟨rfl, rfl⟩)
        go_round
        case rel => exact ⟨k + 1, by omega, by omega, by go_num, HA.out⟩
        case measure => simp [intOf]; omega
    · obtain rfl : k = s.size := by omega
      have HB : Hid (runE (strI s) p = s.size) := HE.out s.size hpk hk hall (Or.inl rfl)
      clear hall HE
      go_wp2
      go_ret
      exact ⟨by rw [HB.out]; rfl, rfl⟩

end Go.Proofs.YtmobologlaeefaaGreat

/-
  Part of the document's answer. Nothing that was there turns.
-/
namespace Go.Proofs.YtmobologlaeefaaGreat
open Go.RowKit
set_option maxRecDepth 10000
set_option linter.unusedVariables false
set_option linter.unusedSimpArgs false

def part6V (l : List Int) (p : Nat) : Int × Nat := match partP l p with
  | some x => x
  | none => (0, 0)
theorem pv_low {l : List Int} {p : Nat} (h : nth l p < 32 ∨ 126 < nth l p) : part6V l p = (0, 0) := by
  have : partP l p = none := by
    unfold partP
    rw [if_neg (by omega), if_neg (by simp [printB]; omega)]
  unfold part6V; rw [this]
theorem pv_plain {l : List Int} {p : Nat} (h0 : 32 ≤ nth l p) (h1 : nth l p ≤ 126) (h2 : nth l p ≠ 92) : part6V l p = (nth l p, 1) := by
  have : partP l p = some (nth l p, 1) := by
    unfold partP
    rw [if_neg h2, if_pos (by simp [printB]; omega)]
  unfold part6V; rw [this]
theorem pv_two {l : List Int} {p : Nat} (h0 : nth l p = 92) (h1 : nth l (p + 1) = 34 ∨ nth l (p + 1) = 92) : part6V l p = (nth l (p + 1), 2) := by
  have : partP l p = some (nth l (p + 1), 2) := by
    unfold partP
    rw [if_pos h0, if_pos h1]
  unfold part6V; rw [this]
theorem pv_four {l : List Int} {p : Nat} (h0 : nth l p = 92) (h1 : ¬ (nth l (p + 1) = 34 ∨ nth l (p + 1) = 92)) (h2 : nth l (p + 1) = 120 ∧ hexB (nth l (p + 2)) = true ∧ hexB (nth l (p + 3)) = true) : part6V l p = (16 * dvI (nth l (p + 2)) + dvI (nth l (p + 3)), 4) := by
  have : partP l p = some (16 * dvI (nth l (p + 2)) + dvI (nth l (p + 3)), 4) := by
    unfold partP
    rw [if_pos h0, if_neg h1, if_pos h2]
  unfold part6V; rw [this]
theorem pv_bad {l : List Int} {p : Nat} (h0 : nth l p = 92) (h1 : ¬ (nth l (p + 1) = 34 ∨ nth l (p + 1) = 92)) (h2 : ¬ (nth l (p + 1) = 120 ∧ hexB (nth l (p + 2)) = true ∧ hexB (nth l (p + 3)) = true)) : part6V l p = (0, 0) := by
  have : partP l p = none := by
    unfold partP
    rw [if_pos h0, if_neg h1, if_neg h2]
  unfold part6V; rw [this]
theorem byte_lo (s : ByteArray) (k : Nat) (h : k < s.size) : (0 : Int) ≤ (s[k].toNat : Int) ∧ (s[k].toNat : Int) < 256 := ⟨by omega, by have := s[k].toNat_lt; omega⟩

set_option maxHeartbeats 2000000 in
theorem refPart_any (s : ByteArray) (p : Nat) (w : World) (hs : s.size ≤ 140737488351232) (hp : p < s.size) (hq : nth (strI s) p ≠ 34) :
    Calls Tryz.prog 116 #[.string s, .int .i64 p] w fun e w' => e = .returned (.tuple #[.int .u8 (part6V (strI s) p).1, .int .i64 (part6V (strI s) p).2]) ∧ ∃ q, w' = w.drewN q := by
  have hpi : (p : Int) < (s.size : Int) := by omega
  have n0 := nth_strI s p hp
  obtain ⟨c0, c1⟩ := byte_lo s p hp
  have HLEN := hid1 (strI_len s)
  by_cases a0 : (s[p].toNat : Int) < 32
  · have HO := hid1 (pv_low (l := strI s) (p := p) (by omega))
    clear n0 hq
    go_enter Tryz.func116, Tryz.ntmps116
    go_wp2_with (fail)
    go_ret2
    exact ⟨by rw [HO.out]; rfl, ⟨0, rfl⟩⟩
  by_cases a1 : 126 < (s[p].toNat : Int)
  · have HO := hid1 (pv_low (l := strI s) (p := p) (by omega))
    clear n0 hq
    go_enter Tryz.func116, Tryz.ntmps116
    go_wp2_with (fail)
    go_ret2
    exact ⟨by rw [HO.out]; rfl, ⟨0, rfl⟩⟩
  have a2 : ((s[p].toNat : Int) == 34) = false := by rw [← n0]; simpa using hq
  by_cases a3 : (s[p].toNat : Int) = 92
  · have N0 := hid1 (n0.trans a3)
    have a3' : ((s[p].toNat : Int) != 92) = false := by simpa using a3
    clear n0 hq a3
    by_cases p1 : p + 1 < s.size
    · have p1' : (p : Int) + 1 < (s.size : Int) := by omega
      have n1 := nth_strI s (p + 1) p1
      obtain ⟨d0, d1⟩ := byte_lo s (p + 1) p1
      by_cases b0 : (s[p + 1].toNat : Int) = 34
      · have HO := hid1 (pv_two N0.out (Or.inl (n1.trans b0)))
        rw [n1] at HO
        have b0' : ((s[p + 1].toNat : Int) == 34) = true := by simpa using b0
        clear n1 b0
        go_enter Tryz.func116, Tryz.ntmps116
        go_wp2_with (fail)
        go_ret2
        exact ⟨by rw [HO.out]; rfl, ⟨0, rfl⟩⟩
      by_cases b1 : (s[p + 1].toNat : Int) = 92
      · have HO := hid1 (pv_two N0.out (Or.inr (n1.trans b1)))
        rw [n1] at HO
        have b0' : ((s[p + 1].toNat : Int) == 34) = false := by simpa using b0
        have b1' : ((s[p + 1].toNat : Int) == 92) = true := by simpa using b1
        clear n1 b1 b0
        go_enter Tryz.func116, Tryz.ntmps116
        go_wp2_with (fail)
        go_ret2
        exact ⟨by rw [HO.out]; rfl, ⟨0, rfl⟩⟩
      have NB := hid1 (show ¬ (nth (strI s) (p + 1) = 34 ∨ nth (strI s) (p + 1) = 92) by rw [n1]; intro h; rcases h with h | h; exact b0 h; exact b1 h)
      have b0' : ((s[p + 1].toNat : Int) == 34) = false := by simpa using b0
      have b1' : ((s[p + 1].toNat : Int) == 92) = false := by simpa using b1
      clear b0 b1
      by_cases p3 : p + 3 < s.size
      · have p3' : (p : Int) + 3 < (s.size : Int) := by omega
        have p2' : (p : Int) + 2 < (s.size : Int) := by omega
        have n2 := nth_strI s (p + 2) (by omega)
        have n3 := nth_strI s (p + 3) p3
        by_cases b2 : (s[p + 1].toNat : Int) = 120
        · have N1 := hid1 (n1.trans b2)
          have b2' : ((s[p + 1].toNat : Int) == 120) = true := by simpa using b2
          obtain ⟨x0, x1⟩ := byte_lo s (p + 2) (by omega)
          obtain ⟨y0, y1⟩ := byte_lo s (p + 3) p3
          have hX := fun wx => refHex_any (s[p + 2].toNat : Int) wx x0 x1
          have hY := fun wx => refHex_any (s[p + 3].toNat : Int) wx y0 y1
          clear b2 n1 d0 d1
          cases e2 : hexB (s[p + 2].toNat : Int)
          · have HO := hid1 (pv_bad N0.out NB.out (fun h => by have := h.2.1; rw [n2, e2] at this; cases this))
            rw [e2] at hX
            clear e2 n2 n3 hY
            go_enter Tryz.func116, Tryz.ntmps116
            go_wp2_with (go_at_call 90; refine (hX _).mono ?_; rintro e w' ⟨rfl, rfl⟩)
            go_ret2
            exact ⟨by rw [HO.out]; rfl, ⟨0, rfl⟩⟩
          cases e3 : hexB (s[p + 3].toNat : Int)
          · have HO := hid1 (pv_bad N0.out NB.out (fun h => by have := h.2.2; rw [n3, e3] at this; cases this))
            rw [e2] at hX
            rw [e3] at hY
            clear e2 e3 n2 n3
            go_enter Tryz.func116, Tryz.ntmps116
            go_wp2_with fail
            refine (hX _).mono ?_
            rintro e w' ⟨rfl, rfl⟩
            go_wp2_with fail
            refine (hY _).mono ?_
            rintro e w' ⟨rfl, rfl⟩
            go_wp2_with fail
            go_ret2
            exact ⟨by rw [HO.out]; rfl, ⟨0, rfl⟩⟩
          · have HO := hid1 (pv_four N0.out NB.out ⟨N1.out, by rw [n2]; exact e2, by rw [n3]; exact e3⟩)
            rw [n2, n3] at HO
            have hX2 := fun wx => refWorth_any (s[p + 2].toNat : Int) wx x0 x1 e2
            have hY2 := fun wx => refWorth_any (s[p + 3].toNat : Int) wx y0 y1 e3
            have v0 := dv_lo (s[p + 2].toNat : Int)
            have v1 := (dv_hex (s[p + 2].toNat : Int)).2 e2
            have u0 := dv_lo (s[p + 3].toNat : Int)
            have u1 := (dv_hex (s[p + 3].toNat : Int)).2 e3
            rw [e2] at hX
            rw [e3] at hY
            clear n2 n3 hX2 hY2
            have wv : (16 * dvI (s[p + 2].toNat : Int) + dvI (s[p + 3].toNat : Int)) % 256 = 16 * dvI (s[p + 2].toNat : Int) + dvI (s[p + 3].toNat : Int) := by omega
            go_enter Tryz.func116, Tryz.ntmps116
            go_wp2_with fail
            refine (hX _).mono ?_
            rintro e w' ⟨rfl, rfl⟩
            go_wp2_with fail
            refine (hY _).mono ?_
            rintro e w' ⟨rfl, rfl⟩
            go_wp2_with fail
            go_quiet ((go_at_call 91; exact Calls.quiet_of_same ((refWorth_any _ _ (by omega) (by omega) (by assumption)).mono fun _ _ h => ⟨h.1, h.2.symm⟩)))
            go_wp2_with fail
            go_ret2
            exact ⟨by rw [HO.out]; first | rfl | (simp [wv]; done) | (simp; omega), ⟨_, rfl⟩⟩
        · have HO := hid1 (pv_bad N0.out NB.out (fun h => b2 (n1.symm.trans h.1)))
          have b2' : ((s[p + 1].toNat : Int) == 120) = false := by simpa using b2
          clear n1 n2 n3 b2
          go_enter Tryz.func116, Tryz.ntmps116
          go_wp2_with (fail)
          go_ret2
          exact ⟨by rw [HO.out]; rfl, ⟨0, rfl⟩⟩
      · have HO := hid1 (pv_bad N0.out NB.out (fun h => by
          have h3 := h.2.2
          rw [nth_over _ _ (by rw [HLEN.out]; omega)] at h3
          exact absurd h3 (by decide)))
        have p3' : ¬ ((p : Int) + 3 < (s.size : Int)) := by omega
        clear n1
        go_enter Tryz.func116, Tryz.ntmps116
        go_wp2_with (fail)
        go_ret2
        exact ⟨by rw [HO.out]; rfl, ⟨0, rfl⟩⟩
    · have z1 : nth (strI s) (p + 1) = 0 := nth_over _ _ (by rw [HLEN.out]; omega)
      have HO := hid1 (pv_bad N0.out (by rw [z1]; decide) (fun h => by rw [z1] at h; exact absurd h.1 (by decide)))
      have p1' : ¬ ((p : Int) + 1 < (s.size : Int)) := by omega
      have p3' : ¬ ((p : Int) + 3 < (s.size : Int)) := by omega
      clear z1
      go_enter Tryz.func116, Tryz.ntmps116
      go_wp2_with (fail)
      go_ret2
      exact ⟨by rw [HO.out]; rfl, ⟨0, rfl⟩⟩
  · have HO := hid1 (pv_plain (l := strI s) (p := p) (by omega) (by omega) (by omega))
    rw [n0] at HO
    have a3' : ((s[p].toNat : Int) != 92) = true := by simpa using a3
    clear n0 hq a3
    go_enter Tryz.func116, Tryz.ntmps116
    go_wp2_with (fail)
    go_ret2
    exact ⟨by rw [HO.out]; rfl, ⟨0, rfl⟩⟩

end Go.Proofs.YtmobologlaeefaaGreat

/-
  What digit and Quote of the document's answer for layer 6 return, for every text whose quoted form keeps to the memory's reach; nothing that was there turns.
-/
namespace Go.Proofs.YtmobologlaeefaaGreat
open Go.RowKit
set_option maxRecDepth 10000
set_option linter.unusedVariables false
set_option linter.unusedSimpArgs false

/-- A row of bytes of the call's own. -/
def RowB (B : Nat) (v : Value) (zs : List Int) (w : World) : Prop := w.ownsRow B 5 1 v zs.length (zs.map (Value.int .u8))
theorem rowB_push {B : Nat} {v : Value} {zs ys : List Int} {w : World} (h : w.ownsRow B 5 1 v (zs.length + ys.length) (zs.map (Value.int .u8) ++ ys.map (Value.int .u8))) : RowB B v (zs ++ ys) w := by
  unfold RowB; rw [List.length_append, List.map_append]; exact h
theorem one_cells {w : World} (ys : List Int) : ∀ j u, (ys.map (Value.int .u8))[j]? = some u → (w.alloc (.cells (ys.map (Value.int .u8)).toArray 5)).cell? ((⟨w.heap.size, 0, none⟩ : Addr).add j) = some u := by
  intro j u hj
  have := heap_alloc_new w (.cells (ys.map (Value.int .u8)).toArray 5)
  rw [Addr.add_lit, Nat.zero_add, Lib.cell_of_heap this]
  simpa using hj
theorem oneC_all (ys : List Int) : ∀ u ∈ ys.map (Value.int .u8), u.oneCell' = true := by
  intro u hu
  obtain ⟨z, _, rfl⟩ := List.mem_map.1 hu
  rfl

end Go.Proofs.YtmobologlaeefaaGreat

/-
  Quoted of the document's answer. Nothing that was there turns.
-/
namespace Go.Proofs.YtmobologlaeefaaGreat
open Go.RowKit
set_option maxRecDepth 10000
set_option linter.unusedVariables false
set_option linter.unusedSimpArgs false

theorem rowB_convert {B : Nat} {v : Value} {zs : List Int} {wx : World} (hr : RowB B v zs wx) : (convert 43 9 v).run Tryz.prog wx = .ok (.string (strOfNums zs)) wx := by
  unfold RowB at hr
  rcases hr.2 with ⟨hv, h0⟩ | ⟨g, cap, cur, hv, _⟩
  · have : zs = [] := List.length_eq_zero_iff.1 h0
    subst this
    subst hv
    exact run_convert_bytes_nil wx _ _ Tryz.underlying43 Tryz.underlying5 _ _ _ Tryz.underlying9
  · subst hv
    refine run_convert_bytes_arg wx _ _ Tryz.underlying43 Tryz.underlying5 g 0 _ cap zs rfl (fun i hi => ?_) _ Tryz.underlying9
    obtain ⟨b', off', e, _, hcell⟩ := View.ofRow hr rfl i hi
    simp at e
    obtain ⟨rfl, rfl⟩ := e
    exact hcell
/-- What Quoted answers. -/
def quotR6 (l : List Int) (p : Nat) : List Int := match quotP l (p + 1) with
  | some x => x.1
  | none => []
def quotN6 (l : List Int) (p : Nat) : Nat := match quotP l (p + 1) with
  | some x => x.2 - p
  | none => 0
theorem quotP_over {l : List Int} {p : Nat} (h : l.length ≤ p) : quotP l p = none :=
  quotP_none (by rw [nth_over l p h]; decide) (partP_over h)

set_option maxHeartbeats 2000000 in
theorem refQuoted_any (s : ByteArray) (p : Nat) (w : World) (hs : s.size ≤ 16777216) (hp : p < s.size) :
    Calls Tryz.prog 89 #[.string s, .int .i64 p] w fun e w' => e = .returned (.tuple #[.string (strOfNums (quotR6 (strI s) p)), .int .i64 (quotN6 (strI s) p)]) ∧ Below w.heap.size w w' := by
  obtain ⟨i0, hi, hz0, hz1, hz2⟩ := info_parts Bld.info
  have HLEN := hid1 (strI_len s)
  have HOV : Hid (∀ k, s.size ≤ k → quotP (strI s) k = none) := fun k hk => quotP_over (by rw [strI_len]; exact hk)
  have HCL : Hid (∀ k, nth (strI s) k = 34 → quotP (strI s) k = some ([], k + 1)) := fun k h => quotP_close h
  have HNO : Hid (∀ k, nth (strI s) k ≠ 34 → (part6V (strI s) k).2 = 0 → quotP (strI s) k = none) := fun k h h1 => by
    refine quotP_none h ?_
    unfold part6V at h1
    cases e : partP (strI s) k with
    | none => rfl
    | some x =>
      obtain ⟨b, n⟩ := x
      have := (partP_some e).1
      rw [e] at h1; simp at h1; omega
  have HSO : Hid (∀ k, nth (strI s) k ≠ 34 → (part6V (strI s) k).2 ≠ 0 → quotP (strI s) k = (quotP (strI s) (k + (part6V (strI s) k).2)).map (fun r => ((part6V (strI s) k).1 :: r.1, r.2)) ∧ 1 ≤ (part6V (strI s) k).2 ∧ k + (part6V (strI s) k).2 ≤ s.size) := fun k h h1 => by
    cases e : partP (strI s) k with
    | none => unfold part6V at h1; rw [e] at h1; exact absurd rfl h1
    | some x =>
      obtain ⟨b, n⟩ := x
      have h2 := partP_some e
      have h3 : part6V (strI s) k = (b, n) := by unfold part6V; rw [e]
      rw [h3, ← strI_len]
      exact ⟨quotP_some h e, h2.1, h2.2⟩
  have HOUTN : Hid (quotP (strI s) (p + 1) = none → strOfNums (quotR6 (strI s) p) = ⟨#[]⟩ ∧ quotN6 (strI s) p = 0) := fun h => by
    unfold quotR6 quotN6; rw [h]; exact ⟨rfl, rfl⟩
  have HOUTS : Hid (∀ acc k, quotP (strI s) (p + 1) = some (acc, k) → quotR6 (strI s) p = acc ∧ quotN6 (strI s) p = k - p) := fun acc k h => by
    unfold quotR6 quotN6; rw [h]; exact ⟨rfl, rfl⟩
  have hpi : (p : Int) < (s.size : Int) := by omega
  go_enter Tryz.func89, Tryz.ntmps89
  go_wp2_with fail
  go_loopw [6, 7] (fun v i wr => ∃ (k : Nat) (acc : List Int), p + 1 ≤ k ∧ k ≤ s.size ∧ i = .int .i64 k ∧ acc.length ≤ k ∧ Hid (quotP (strI s) (p + 1) = (quotP (strI s) k).map (fun r => (acc ++ r.1, r.2))) ∧ RowB w.heap.size v acc wr ∧ Below w.heap.size w wr) (fun _ i _ => s.size - (intOf i).toNat)
  case atStart => exact ⟨p + 1, [], Nat.le_refl _, by omega, by go_num, by simp, by show _ = _; cases quotP (strI s) (p + 1) <;> rfl, World.ownsRow_nil _ _ _ _, Below.refl _ _⟩
  case round =>
    obtain ⟨k, acc, hpk, hk, rfl, hal, HI, hrow, hbel⟩ := hrel
    have hsz := hbel.size
    by_cases hlt : k < s.size
    · have hki : (k : Int) < (s.size : Int) := by omega
      have hpki : (p : Int) + 1 ≤ (k : Int) := by omega
      have nk := nth_strI s k hlt
      by_cases h34 : (s[k].toNat : Int) = 34
      · have HO : Hid (quotR6 (strI s) p = acc ∧ quotN6 (strI s) p = k + 1 - p) := HOUTS.out acc (k + 1) (by rw [HI.out, HCL.out k (nk.trans h34)]; simp)
        have hcv := rowB_convert hrow
        have h34' : ((s[k].toNat : Int) == 34) = true := by simpa using h34
        have HB := hid1 hbel
        clear nk h34 HI HCL HNO HSO HOV HOUTN HOUTS hrow hbel
        go_wp2_with fail
        go_ret2
        exact ⟨by rw [HO.out.1, HO.out.2]; exact congrArg (fun z => Ending.returned (.tuple #[.string (strOfNums acc), .int .i64 z])) (by omega), HB.out⟩
      · have h34' : ((s[k].toNat : Int) == 34) = false := by simpa using h34
        have hP := fun wx => refPart_any s k wx (by omega) hlt (by rw [nk]; exact h34)
        by_cases hz : (part6V (strI s) k).2 = 0
        · have HO : Hid (strOfNums (quotR6 (strI s) p) = ⟨#[]⟩ ∧ quotN6 (strI s) p = 0) := HOUTN.out (by rw [HI.out, HNO.out k (by rw [nk]; exact h34) hz]; rfl)
          rw [hz] at hP
          generalize (part6V (strI s) k).1 = pc at *
          have HB := hid1 hbel
          clear nk h34 HI HCL HNO HSO HOV HOUTN HOUTS hrow hbel hz
          go_wp2_with fail
          refine (hP _).mono ?_
          rintro e w2 ⟨rfl, qd, rfl⟩
          go_wp2_with fail
          go_ret2
          exact ⟨by rw [HO.out.1, HO.out.2]; rfl, bel_drewN HB.out _⟩
        · obtain ⟨q1, q2, q3⟩ := HSO.out k (by rw [nk]; exact h34) hz
          have HN : Hid (quotP (strI s) (p + 1) = (quotP (strI s) (k + (part6V (strI s) k).2)).map (fun r => ((acc ++ [(part6V (strI s) k).1]) ++ r.1, r.2))) := by
            show _ = _
            rw [HI.out, q1]
            cases quotP (strI s) (k + (part6V (strI s) k).2) <;> simp
          clear nk h34 HI HCL HNO HSO HOV HOUTN HOUTS q1
          generalize (part6V (strI s) k).1 = pc at *
          generalize (part6V (strI s) k).2 = pn at *
          have hzi : (pn : Int) ≠ 0 := by omega
          have hzb : ((pn : Int) == 0) = false := by simpa using hz
          go_wp2_with fail
          refine (hP _).mono ?_
          rintro e w2 ⟨rfl, qd, rfl⟩
          have hbd := bel_drewN (Below.refl wr.heap.size wr) qd
          have hrow2 : RowB w.heap.size u6 acc (wr.drewN qd) := hrow
          have hbel2 : Below w.heap.size w (wr.drewN qd) := bel_drewN hbel qd
          clear hrow hbel hbd hP
          have hsz2 := hbel2.size
          generalize wr.drewN qd = W at *
          have hra := World.ownsRow.alloc hrow2 (.cells #[.int .u8 pc] 5)
          have ew := hbel2.alloc hsz2 (.cells #[.int .u8 pc] 5)
          have hnone : ∀ kk, u6.ownBlock = some kk → w.heap.size ≤ kk := fun kk e => (World.ownsRow.lt hrow2 kk e).1
          clear hrow2
          go_wp2_with (at_builtin; refine wpList_append_own _ rfl _ _ 43 rfl w.heap.size 5 i0 (.int .u8 0) 1 1 Tryz.underlying43 hi hz0 hz1 hz2 rfl (by decide) _ acc.length (acc.map (Value.int .u8)) rfl hra ⟨W.heap.size, 0, none⟩ 1 1 ([pc].map (Value.int .u8)) rfl rfl (one_cells [pc]) (oneC_all _) (by unfold maxLen; omega) (by omega) (by simp; omega) ?_)
          intro v2 w2 hown2 hgr2 _
          have hr2 : RowB w.heap.size v2 (acc ++ [pc]) w2 := rowB_push hown2
          have hb2 : Below w.heap.size w w2 := ew.grown hgr2 (by simp; omega) (fun kk e => hnone kk e)
          clear hown2 hgr2 hra ew
          go_wp2_with fail
          go_roundw
          case rel => exact ⟨k + pn, acc ++ [pc], by omega, by omega, by go_num, by simp; omega, HN, hr2, hb2⟩
          case measure => simp [intOf]; omega
    · obtain rfl : k = s.size := by omega
      have HO : Hid (strOfNums (quotR6 (strI s) p) = ⟨#[]⟩ ∧ quotN6 (strI s) p = 0) := HOUTN.out (by rw [HI.out, HOV.out s.size (Nat.le_refl _)]; rfl)
      have HB := hid1 hbel
      clear HI HCL HNO HSO HOV HOUTN HOUTS hrow hbel
      go_wp2_with fail
      go_ret2
      exact ⟨by rw [HO.out.1, HO.out.2]; rfl, HB.out⟩

end Go.Proofs.YtmobologlaeefaaGreat

/-
  Token of the document's answer. Nothing that was there turns.
-/
namespace Go.Proofs.YtmobologlaeefaaGreat
open Go.RowKit
set_option maxRecDepth 10000
set_option linter.unusedVariables false
set_option linter.unusedSimpArgs false

/-- What Token answers: the token, how many bytes it is, what is wrong. -/
def tkT (l : List Int) (p : Nat) : TokT := match tokP l p with
  | .inr x => (x.1, strOfNums x.2.1, (p : Int))
  | .inl _ => (0, ⟨#[]⟩, 0)
def tkN (l : List Int) (p : Nat) : Nat := match tokP l p with
  | .inr x => x.2.2 - p
  | .inl _ => 0
def tkE (l : List Int) (p : Nat) : Int := match tokP l p with
  | .inr _ => 0
  | .inl e => e
theorem tk_ok {l : List Int} {p q : Nat} {k : Int} {t : List Int} (h : tokP l p = .inr (k, t, q)) : tkT l p = (k, strOfNums t, (p : Int)) ∧ tkN l p = q - p ∧ tkE l p = 0 := by
  unfold tkT tkN tkE; rw [h]; exact ⟨rfl, rfl, rfl⟩
theorem tk_bad {l : List Int} {p : Nat} {e : Int} (h : tokP l p = .inl e) : tkT l p = (0, ⟨#[]⟩, 0) ∧ tkN l p = 0 ∧ tkE l p = e := by
  unfold tkT tkN tkE; rw [h]; exact ⟨rfl, rfl, rfl⟩
theorem cut_str (s : ByteArray) (a b : Nat) : strOfNums (cutL (strI s) a b) = s.extract a b := by
  have : cutL (strI s) a b = strI (s.extract a b) := by rw [strI_extract]; rfl
  rw [this, str_of_strI]
theorem three_set6 {W : World} {g T : Nat} {a b c : Value} (h : W.heap[g]? = some (.cells #[a, b, c] T (0, 0))) (u v x : Value) :
    (((W.setCell ⟨g, 0, none⟩ u).setCell ⟨g, 1, none⟩ v).setCell ⟨g, 2, none⟩ x).heap[g]? = some (.cells #[u, v, x] T (0, 0)) := by
  simp only [World.setCell, Array.getElem?_modify, h]; simp

set_option maxHeartbeats 4000000 in
theorem refToken_any (s : ByteArray) (p : Nat) (w : World) (hs : s.size ≤ 16777216) (hp : p < s.size) :
    Calls Tryz.prog 48 #[.string s, .int .i64 p] w fun e w' => e = .returned (.tuple #[tokV (tkT (strI s) p), .int .i64 (tkN (strI s) p), .int .i64 (tkE (strI s) p)]) ∧ Below w.heap.size w w' := by
  have hs' : s.size ≤ 140737488351232 := by omega
  have hpi : (p : Int) < (s.size : Int) := by omega
  have n0 := nth_strI s p hp
  have HLEN := strI_len s
  obtain ⟨c0, c1⟩ := byte_lo s p hp
  have hL := fun wx => ref6Letter_any (s[p].toNat : Int) wx c0 c1
  have hD := fun wx => refDigit_any (s[p].toNat : Int) wx c0 c1
  have b1 : Below w.heap.size w (w.alloc (.cells #[.int .u8 0, .string ⟨#[]⟩, .int .i64 0] 102)) := (Below.refl _ w).alloc (Nat.le_refl _) _
  have k1 : (w.alloc (.cells #[.int .u8 0, .string ⟨#[]⟩, .int .i64 0] 102)).heap[w.heap.size]? = some (.cells #[.int .u8 0, .string ⟨#[]⟩, .int .i64 0] 102 (0, 0)) := heap_alloc_new w _
  have l1 : w.heap.size < (w.alloc (.cells #[.int .u8 0, .string ⟨#[]⟩, .int .i64 0] 102)).heap.size := by simp
  have HSET : Hid (∀ W, Below (w.alloc (.cells #[.int .u8 0, .string ⟨#[]⟩, .int .i64 0] 102)).heap.size (w.alloc (.cells #[.int .u8 0, .string ⟨#[]⟩, .int .i64 0] 102)) W → ∀ u v x, (((W.setCell ⟨w.heap.size, 0, none⟩ u).setCell ⟨w.heap.size, 1, none⟩ v).setCell ⟨w.heap.size, 2, none⟩ x).cell? ⟨w.heap.size, 0, none⟩ = some u ∧ (((W.setCell ⟨w.heap.size, 0, none⟩ u).setCell ⟨w.heap.size, 1, none⟩ v).setCell ⟨w.heap.size, 2, none⟩ x).cell? ⟨w.heap.size, 1, none⟩ = some v ∧ (((W.setCell ⟨w.heap.size, 0, none⟩ u).setCell ⟨w.heap.size, 1, none⟩ v).setCell ⟨w.heap.size, 2, none⟩ x).cell? ⟨w.heap.size, 2, none⟩ = some x ∧ Below w.heap.size w (((W.setCell ⟨w.heap.size, 0, none⟩ u).setCell ⟨w.heap.size, 1, none⟩ v).setCell ⟨w.heap.size, 2, none⟩ x)) := by
    intro W hb u v x
    have h := three_set6 ((hb.block _ l1).trans k1) u v x
    refine ⟨by rw [Lib.cell_of_heap h]; rfl, by rw [Lib.cell_of_heap h]; rfl, by rw [Lib.cell_of_heap h]; rfl, ?_⟩
    exact (((b1.trans (hb.mono b1.size)).setCell (by simp) _).setCell (by simp) _).setCell (by simp) _
  have HCELL : Hid (∀ W, Below (w.alloc (.cells #[.int .u8 0, .string ⟨#[]⟩, .int .i64 0] 102)).heap.size (w.alloc (.cells #[.int .u8 0, .string ⟨#[]⟩, .int .i64 0] 102)) W → W.cell? ⟨w.heap.size, 0, none⟩ = some (.int .u8 0) ∧ W.cell? ⟨w.heap.size, 1, none⟩ = some (.string ⟨#[]⟩) ∧ W.cell? ⟨w.heap.size, 2, none⟩ = some (.int .i64 0) ∧ W.frozen? ⟨w.heap.size, 0, none⟩ = false ∧ W.frozen? ⟨w.heap.size, 1, none⟩ = false ∧ W.frozen? ⟨w.heap.size, 2, none⟩ = false ∧ w.heap.size < W.heap.size) := by
    intro W hb
    have h := (hb.block _ l1).trans k1
    refine ⟨by rw [Lib.cell_of_heap h]; rfl, by rw [Lib.cell_of_heap h]; rfl, by rw [Lib.cell_of_heap h]; rfl, by simp [World.frozen?, h], by simp [World.frozen?, h], by simp [World.frozen?, h], Nat.lt_of_lt_of_le l1 hb.size⟩
  obtain ⟨d0, d1, d2, f0, f1, f2, l2⟩ := HCELL.out _ (Below.refl _ _)
  clear b1 k1 l1
  cases hl : letterB (s[p].toNat : Int)
  rotate_left
  · have ht : tokP (strI s) p = .inr (1, cutL (strI s) p (runE (strI s) p), runE (strI s) p) := by
      unfold tokP; rw [n0, if_pos hl]
    have HO := hid1 (tk_ok ht)
    rw [cut_str] at HO
    have r0 := runE_ge (strI s) p
    have r1 := runE_le (strI s) p (by omega)
    have hR := fun wx => refRun_any s p wx hs' (by omega)
    have hsz : (s.extract p (runE (strI s) p)).size = runE (strI s) p - p := by rw [ByteArray.size_extract]; omega
    rw [hl] at hL
    clear hl n0 ht hD HCELL
    generalize runE (strI s) p = r at *
    generalize s.extract p r = x at *
    go_enter Tryz.func48, Tryz.ntmps48
    go_wp2_with fail
    generalize w.alloc (.cells #[.int .u8 0, .string ⟨#[]⟩, .int .i64 0] 102) = w1 at *
    refine (hL _).mono ?_
    rintro e w2 ⟨rfl, rfl⟩
    go_wp2_with fail
    refine (hR _).mono ?_
    rintro e w2 ⟨rfl, rfl⟩
    go_wp2_with fail
    obtain ⟨e0, e1, e2, hbE⟩ := HSET.out _ (Below.refl _ _) (.int .u8 1) (.string x) (.int .i64 p)
    refine bodyPost_ret (v := .tuple #[.agg #[.int .u8 1, .string x, .int .i64 p], .int .i64 x.size, .int .i64 0]) ?_ rfl ⟨by rw [HO.out.1, HO.out.2.1, HO.out.2.2]; rw [← hsz]; rfl, hbE⟩
    simp only [results, Tryz.results48]
    first | (simp [go_sem, e0, e1, e2]; done) | (simp [go_sem, e0, e1, e2]; omega)
  rw [hl] at hL
  have e0 : ¬ (letterB (nth (strI s) p) = true) := by rw [n0, hl]; simp
  clear hl
  by_cases h37 : (s[p].toNat : Int) = 37
  · have hR := fun wx => refRun_any s (p + 1) wx hs' (by omega)
    have r0 := runE_ge (strI s) (p + 1)
    have r1 := runE_le (strI s) (p + 1) (by omega)
    have hsz : (s.extract (p + 1) (runE (strI s) (p + 1))).size = runE (strI s) (p + 1) - (p + 1) := by rw [ByteArray.size_extract]; omega
    have hP := fun wx => refPlain_any (s.extract (p + 1) (runE (strI s) (p + 1))) wx (by omega)
    have ec : strI (s.extract (p + 1) (runE (strI s) (p + 1))) = cutL (strI s) (p + 1) (runE (strI s) (p + 1)) := by rw [strI_extract]; rfl
    rw [ec] at hP
    have h37' : ((s[p].toNat : Int) == 37) = true := by simpa using h37
    have hpc : ((p : Int) + 1) = ((p + 1 : Nat) : Int) := by omega
    cases hpl : plainB (cutL (strI s) (p + 1) (runE (strI s) (p + 1)))
    · have HO := hid1 (tk_bad (show tokP (strI s) p = .inl 62 by unfold tokP; rw [if_neg e0, if_pos (n0.trans h37), if_neg (by rw [hpl]; simp)]))
      rw [hpl] at hP
      clear hpl n0 e0 hD HCELL h37 ec
      generalize runE (strI s) (p + 1) = r at *
      generalize s.extract (p + 1) r = x at *
      generalize cutL (strI s) (p + 1) r = y at *
      rw [← hpc] at hR
      clear hpc
      go_enter Tryz.func48, Tryz.ntmps48
      go_wp2_with fail
      generalize w.alloc (.cells #[.int .u8 0, .string ⟨#[]⟩, .int .i64 0] 102) = w1 at *
      refine (hL _).mono ?_
      rintro e w2 ⟨rfl, rfl⟩
      go_wp2_with fail
      refine (hR _).mono ?_
      rintro e w2 ⟨rfl, rfl⟩
      go_wp2_with fail
      refine (hP _).mono ?_
      rintro e w2 ⟨⟨z, rfl, _, _⟩, rfl⟩
      go_wp2_with fail
      obtain ⟨e0, e1, e2, hbE⟩ := HSET.out _ (Below.refl _ _) (.int .u8 0) (.string ⟨#[]⟩) (.int .i64 0)
      refine bodyPost_ret (v := .tuple #[.agg #[.int .u8 0, .string ⟨#[]⟩, .int .i64 0], .int .i64 0, .int .i64 62]) ?_ rfl ⟨by rw [HO.out.1, HO.out.2.1, HO.out.2.2]; rfl, hbE⟩
      simp only [results, Tryz.results48]
      first | (simp [go_sem, e0, e1, e2]; done) | (simp [go_sem, e0, e1, e2]; omega)
    · have HO := hid1 (tk_ok (show tokP (strI s) p = .inr (2, cutL (strI s) (p + 1) (runE (strI s) (p + 1)), runE (strI s) (p + 1)) by unfold tokP; rw [if_neg e0, if_pos (n0.trans h37), if_pos hpl]))
      rw [cut_str] at HO
      rw [hpl] at hP
      clear hpl n0 e0 hD HCELL h37 ec
      generalize runE (strI s) (p + 1) = r at *
      generalize s.extract (p + 1) r = x at *
      generalize cutL (strI s) (p + 1) r = y at *
      rw [← hpc] at hR
      clear hpc
      go_enter Tryz.func48, Tryz.ntmps48
      go_wp2_with fail
      generalize w.alloc (.cells #[.int .u8 0, .string ⟨#[]⟩, .int .i64 0] 102) = w1 at *
      refine (hL _).mono ?_
      rintro e w2 ⟨rfl, rfl⟩
      go_wp2_with fail
      refine (hR _).mono ?_
      rintro e w2 ⟨rfl, rfl⟩
      go_wp2_with fail
      refine (hP _).mono ?_
      rintro e w2 ⟨⟨z, rfl, _, _⟩, rfl⟩
      go_wp2_with fail
      obtain ⟨e0, e1, e2, hbE⟩ := HSET.out _ (Below.refl _ _) (.int .u8 2) (.string x) (.int .i64 p)
      refine bodyPost_ret (v := .tuple #[.agg #[.int .u8 2, .string x, .int .i64 p], .int .i64 ((x.size : Int) + 1), .int .i64 0]) ?_ rfl ⟨by rw [HO.out.1, HO.out.2.1, HO.out.2.2]; rw [show r - p = x.size + 1 by omega]; rfl, hbE⟩
      simp only [results, Tryz.results48]
      first | (simp [go_sem, e0, e1, e2]; done) | (simp [go_sem, e0, e1, e2]; omega)
  have e1 : ¬ (nth (strI s) p = 37) := by rw [n0]; exact h37
  have h37' : ((s[p].toNat : Int) == 37) = false := by simpa using h37
  clear h37
  by_cases hdm : (digitB (s[p].toNat : Int) || decide ((s[p].toNat : Int) = 45)) = true
  · have hR := fun wx => refRun_any s (p + 1) wx hs' (by omega)
    have r0 := runE_ge (strI s) (p + 1)
    have r1 := runE_le (strI s) (p + 1) (by omega)
    have hsz : (s.extract (p + 1) (runE (strI s) (p + 1))).size = runE (strI s) (p + 1) - (p + 1) := by rw [ByteArray.size_extract]; omega
    have hsy : (s.extract p (runE (strI s) (p + 1))).size = runE (strI s) (p + 1) - p := by rw [ByteArray.size_extract]; omega
    have hN := fun wx => refNumber_any (s.extract p (runE (strI s) (p + 1))) wx (by omega)
    have ec : strI (s.extract p (runE (strI s) (p + 1))) = cutL (strI s) p (runE (strI s) (p + 1)) := by rw [strI_extract]; rfl
    have hpc : ((p : Int) + 1) = ((p + 1 : Nat) : Int) := by omega
    have e2 : (digitB (nth (strI s) p) || decide (nth (strI s) p = 45)) = true := by rw [n0]; exact hdm
    rw [ec] at hN
    have HOK : Hid (numB (cutL (strI s) p (runE (strI s) (p + 1))) = true → numErr (cutL (strI s) p (runE (strI s) (p + 1))) = 0 ∧ (tkT (strI s) p = (3, s.extract p (runE (strI s) (p + 1)), (p : Int)) ∧ tkN (strI s) p = runE (strI s) (p + 1) - p ∧ tkE (strI s) p = 0)) := fun h => by
      refine ⟨by unfold numErr; rw [h]; rfl, ?_⟩
      have := tk_ok (show tokP (strI s) p = .inr (3, cutL (strI s) p (runE (strI s) (p + 1)), runE (strI s) (p + 1)) by unfold tokP; rw [if_neg e0, if_neg e1, if_pos e2, if_pos h])
      rw [cut_str] at this
      exact this
    have HBAD : Hid (numB (cutL (strI s) p (runE (strI s) (p + 1))) = false → numErr (cutL (strI s) p (runE (strI s) (p + 1))) ≠ 0 ∧ (tkT (strI s) p = (0, ⟨#[]⟩, 0) ∧ tkN (strI s) p = 0 ∧ tkE (strI s) p = 62)) := fun h =>
      ⟨by unfold numErr; rw [h]; decide, tk_bad (by unfold tokP; rw [if_neg e0, if_neg e1, if_pos e2, if_neg (by rw [h]; simp)])⟩
    clear n0 e0 e1 e2 HCELL ec
    have hpr : (p : Int) ≤ (p : Int) + 1 + ((s.extract (p + 1) (runE (strI s) (p + 1))).size : Int) := by omega
    have hqr : (p : Int) + 1 + ((s.extract (p + 1) (runE (strI s) (p + 1))).size : Int) ≤ (s.size : Int) := by omega
    have hrr : ((p : Int) + 1 + ((s.extract (p + 1) (runE (strI s) (p + 1))).size : Int)) = (runE (strI s) (p + 1) : Int) := by omega
    generalize runE (strI s) (p + 1) = r at *
    generalize numOut (cutL (strI s) p r) = no at *
    generalize numErr (cutL (strI s) p r) = ne at *
    rw [← hpc] at hR
    clear hpc
    cases hnb : numB (cutL (strI s) p r)
    · obtain ⟨hne, ho⟩ := HBAD.out hnb
      have HO := hid1 ho
      have hne' : (ne != 0) = true := by simpa using hne
      clear ho HOK HBAD hnb hne
      generalize s.extract (p + 1) r = x at *
      cases hd : digitB (s[p].toNat : Int)
      · have h45 : ((s[p].toNat : Int) == 45) = true := by rw [hd] at hdm; simpa using hdm
        rw [hd] at hD
        clear hd hdm
        go_enter Tryz.func48, Tryz.ntmps48
        go_wp2_with fail
        generalize w.alloc (.cells #[.int .u8 0, .string ⟨#[]⟩, .int .i64 0] 102) = w1 at *
        refine (hL _).mono ?_
        rintro e w2 ⟨rfl, rfl⟩
        go_wp2_with fail
        refine (hD _).mono ?_
        rintro e w2 ⟨rfl, rfl⟩
        go_wp2_with fail
        refine (hR _).mono ?_
        rintro e w2 ⟨rfl, rfl⟩
        go_wp2_with fail
        simp only [show p + 1 + (r - (p + 1)) = r by omega]
        refine (hN _).mono ?_
        rintro e w2 ⟨rfl, rfl⟩
        go_wp2_with fail
        obtain ⟨e0, e1, e2, hbE⟩ := HSET.out _ (Below.refl _ _) (.int .u8 0) (.string ⟨#[]⟩) (.int .i64 0)
        refine bodyPost_ret (v := .tuple #[.agg #[.int .u8 0, .string ⟨#[]⟩, .int .i64 0], .int .i64 0, .int .i64 62]) ?_ rfl ⟨by rw [HO.out.1, HO.out.2.1, HO.out.2.2]; rfl, hbE⟩
        simp only [results, Tryz.results48]
        first | (simp [go_sem, e0, e1, e2]; done) | (simp [go_sem, e0, e1, e2]; omega)
      · rw [hd] at hD
        clear hd hdm
        go_enter Tryz.func48, Tryz.ntmps48
        go_wp2_with fail
        generalize w.alloc (.cells #[.int .u8 0, .string ⟨#[]⟩, .int .i64 0] 102) = w1 at *
        refine (hL _).mono ?_
        rintro e w2 ⟨rfl, rfl⟩
        go_wp2_with fail
        refine (hD _).mono ?_
        rintro e w2 ⟨rfl, rfl⟩
        go_wp2_with fail
        refine (hR _).mono ?_
        rintro e w2 ⟨rfl, rfl⟩
        go_wp2_with fail
        simp only [show p + 1 + (r - (p + 1)) = r by omega]
        refine (hN _).mono ?_
        rintro e w2 ⟨rfl, rfl⟩
        go_wp2_with fail
        obtain ⟨e0, e1, e2, hbE⟩ := HSET.out _ (Below.refl _ _) (.int .u8 0) (.string ⟨#[]⟩) (.int .i64 0)
        refine bodyPost_ret (v := .tuple #[.agg #[.int .u8 0, .string ⟨#[]⟩, .int .i64 0], .int .i64 0, .int .i64 62]) ?_ rfl ⟨by rw [HO.out.1, HO.out.2.1, HO.out.2.2]; rfl, hbE⟩
        simp only [results, Tryz.results48]
        first | (simp [go_sem, e0, e1, e2]; done) | (simp [go_sem, e0, e1, e2]; omega)
    · obtain ⟨hne, ho⟩ := HOK.out hnb
      have HO := hid1 ho
      subst hne
      clear ho HOK HBAD hnb
      generalize s.extract (p + 1) r = x at *
      cases hd : digitB (s[p].toNat : Int)
      · have h45 : ((s[p].toNat : Int) == 45) = true := by rw [hd] at hdm; simpa using hdm
        rw [hd] at hD
        clear hd hdm
        go_enter Tryz.func48, Tryz.ntmps48
        go_wp2_with fail
        generalize w.alloc (.cells #[.int .u8 0, .string ⟨#[]⟩, .int .i64 0] 102) = w1 at *
        refine (hL _).mono ?_
        rintro e w2 ⟨rfl, rfl⟩
        go_wp2_with fail
        refine (hD _).mono ?_
        rintro e w2 ⟨rfl, rfl⟩
        go_wp2_with fail
        refine (hR _).mono ?_
        rintro e w2 ⟨rfl, rfl⟩
        go_wp2_with fail
        simp only [show p + 1 + (r - (p + 1)) = r by omega]
        refine (hN _).mono ?_
        rintro e w2 ⟨rfl, rfl⟩
        go_wp2_with fail
        obtain ⟨e0, e1, e2, hbE⟩ := HSET.out _ (Below.refl _ _) (.int .u8 3) (.string (s.extract p r)) (.int .i64 p)
        refine bodyPost_ret (v := .tuple #[.agg #[.int .u8 3, .string (s.extract p r), .int .i64 p], .int .i64 ((s.extract p r).size : Int), .int .i64 0]) ?_ rfl ⟨by rw [HO.out.1, HO.out.2.1, HO.out.2.2]; rw [← hsy]; rfl, hbE⟩
        simp only [results, Tryz.results48]
        first | (simp [go_sem, e0, e1, e2]; done) | (simp [go_sem, e0, e1, e2]; omega)
      · rw [hd] at hD
        clear hd hdm
        go_enter Tryz.func48, Tryz.ntmps48
        go_wp2_with fail
        generalize w.alloc (.cells #[.int .u8 0, .string ⟨#[]⟩, .int .i64 0] 102) = w1 at *
        refine (hL _).mono ?_
        rintro e w2 ⟨rfl, rfl⟩
        go_wp2_with fail
        refine (hD _).mono ?_
        rintro e w2 ⟨rfl, rfl⟩
        go_wp2_with fail
        refine (hR _).mono ?_
        rintro e w2 ⟨rfl, rfl⟩
        go_wp2_with fail
        simp only [show p + 1 + (r - (p + 1)) = r by omega]
        refine (hN _).mono ?_
        rintro e w2 ⟨rfl, rfl⟩
        go_wp2_with fail
        obtain ⟨e0, e1, e2, hbE⟩ := HSET.out _ (Below.refl _ _) (.int .u8 3) (.string (s.extract p r)) (.int .i64 p)
        refine bodyPost_ret (v := .tuple #[.agg #[.int .u8 3, .string (s.extract p r), .int .i64 p], .int .i64 ((s.extract p r).size : Int), .int .i64 0]) ?_ rfl ⟨by rw [HO.out.1, HO.out.2.1, HO.out.2.2]; rw [← hsy]; rfl, hbE⟩
        simp only [results, Tryz.results48]
        first | (simp [go_sem, e0, e1, e2]; done) | (simp [go_sem, e0, e1, e2]; omega)
  have e2 : ¬ ((digitB (nth (strI s) p) || decide (nth (strI s) p = 45)) = true) := by rw [n0]; exact hdm
  have hd : digitB (s[p].toNat : Int) = false := by cases h : digitB (s[p].toNat : Int) <;> simp [h] at hdm ⊢
  have h45 : ((s[p].toNat : Int) == 45) = false := by rw [hd] at hdm; simpa using hdm
  rw [hd] at hD
  clear hdm hd
  by_cases h34 : (s[p].toNat : Int) = 34
  · have hQ := fun wx => refQuoted_any s p wx hs hp
    have h34' : ((s[p].toNat : Int) == 34) = true := by simpa using h34
    cases hq : quotP (strI s) (p + 1) with
    | none =>
      have HO := hid1 (tk_bad (show tokP (strI s) p = .inl 61 by unfold tokP; rw [if_neg e0, if_neg e1, if_neg e2, if_pos (n0.trans h34), hq]))
      have q1 : quotN6 (strI s) p = 0 := by unfold quotN6; rw [hq]
      rw [q1] at hQ
      generalize strOfNums (quotR6 (strI s) p) = x at *
      clear hq n0 e0 e1 e2 q1 h34
      go_enter Tryz.func48, Tryz.ntmps48
      go_wp2_with fail
      generalize w.alloc (.cells #[.int .u8 0, .string ⟨#[]⟩, .int .i64 0] 102) = w1 at *
      refine (hL _).mono ?_
      rintro e w2 ⟨rfl, rfl⟩
      go_wp2_with fail
      refine (hD _).mono ?_
      rintro e w2 ⟨rfl, rfl⟩
      go_wp2_with fail
      refine (hQ _).mono ?_
      rintro e w2 ⟨rfl, hb2⟩
      obtain ⟨d0, d1, d2, f0, f1, f2, l2⟩ := HCELL.out _ hb2
      clear HCELL
      go_wp2_with fail
      obtain ⟨e0, e1, e2, hbE⟩ := HSET.out _ (hb2) (.int .u8 0) (.string ⟨#[]⟩) (.int .i64 0)
      refine bodyPost_ret (v := .tuple #[.agg #[.int .u8 0, .string ⟨#[]⟩, .int .i64 0], .int .i64 0, .int .i64 61]) ?_ rfl ⟨by rw [HO.out.1, HO.out.2.1, HO.out.2.2]; rfl, hbE⟩
      simp only [results, Tryz.results48]
      first | (simp [go_sem, e0, e1, e2]; done) | (simp [go_sem, e0, e1, e2]; omega)
    | some x =>
      obtain ⟨b, q⟩ := x
      have HO := hid1 (tk_ok (show tokP (strI s) p = .inr (4, b, q) by unfold tokP; rw [if_neg e0, if_neg e1, if_neg e2, if_pos (n0.trans h34), hq]))
      have hend := quotP_end hq
      have q1 : quotN6 (strI s) p = q - p := by unfold quotN6; rw [hq]
      have q2 : quotR6 (strI s) p = b := by unfold quotR6; rw [hq]
      rw [q1, q2] at hQ
      have hnz : (((q - p : Nat) : Int) == 0) = false := by simp; omega
      generalize strOfNums b = x at *
      generalize q - p = m at *
      clear hq n0 e0 e1 e2 q1 q2 h34 hend
      go_enter Tryz.func48, Tryz.ntmps48
      go_wp2_with fail
      generalize w.alloc (.cells #[.int .u8 0, .string ⟨#[]⟩, .int .i64 0] 102) = w1 at *
      refine (hL _).mono ?_
      rintro e w2 ⟨rfl, rfl⟩
      go_wp2_with fail
      refine (hD _).mono ?_
      rintro e w2 ⟨rfl, rfl⟩
      go_wp2_with fail
      refine (hQ _).mono ?_
      rintro e w2 ⟨rfl, hb2⟩
      obtain ⟨d0, d1, d2, f0, f1, f2, l2⟩ := HCELL.out _ hb2
      clear HCELL
      go_wp2_with fail
      obtain ⟨e0, e1, e2, hbE⟩ := HSET.out _ (hb2) (.int .u8 4) (.string x) (.int .i64 p)
      refine bodyPost_ret (v := .tuple #[.agg #[.int .u8 4, .string x, .int .i64 p], .int .i64 m, .int .i64 0]) ?_ rfl ⟨by rw [HO.out.1, HO.out.2.1, HO.out.2.2]; rfl, hbE⟩
      simp only [results, Tryz.results48]
      first | (simp [go_sem, e0, e1, e2]; done) | (simp [go_sem, e0, e1, e2]; omega)
  have e3 : ¬ (nth (strI s) p = 34) := by rw [n0]; exact h34
  have h34' : ((s[p].toNat : Int) == 34) = false := by simpa using h34
  clear h34
  by_cases h61 : (s[p].toNat : Int) = 61
  · have HO := hid1 (tk_ok (show tokP (strI s) p = .inr (5, [61], p + 1) by unfold tokP; rw [if_neg e0, if_neg e1, if_neg e2, if_neg e3, if_pos (n0.trans h61)]))
    have h61' : ((s[p].toNat : Int) == 61) = true := by simpa using h61
    clear n0 e0 e1 e2 e3 h61 HCELL
    go_enter Tryz.func48, Tryz.ntmps48
    go_wp2_with fail
    generalize w.alloc (.cells #[.int .u8 0, .string ⟨#[]⟩, .int .i64 0] 102) = w1 at *
    refine (hL _).mono ?_
    rintro e w2 ⟨rfl, rfl⟩
    go_wp2_with fail
    refine (hD _).mono ?_
    rintro e w2 ⟨rfl, rfl⟩
    go_wp2_with fail
    obtain ⟨e0, e1, e2, hbE⟩ := HSET.out _ (Below.refl _ _) (.int .u8 5) (.string ⟨#[61]⟩) (.int .i64 p)
    refine bodyPost_ret (v := .tuple #[.agg #[.int .u8 5, .string ⟨#[61]⟩, .int .i64 p], .int .i64 1, .int .i64 0]) ?_ rfl ⟨by rw [HO.out.1, HO.out.2.1, HO.out.2.2]; rw [show p + 1 - p = 1 by omega]; rfl, hbE⟩
    simp only [results, Tryz.results48]
    first | (simp [go_sem, e0, e1, e2]; done) | (simp [go_sem, e0, e1, e2]; omega)
  · have HO := hid1 (tk_bad (show tokP (strI s) p = .inl 60 by unfold tokP; rw [if_neg e0, if_neg e1, if_neg e2, if_neg e3, if_neg (by rw [n0]; exact h61)]))
    have h61' : ((s[p].toNat : Int) == 61) = false := by simpa using h61
    clear n0 e0 e1 e2 e3 h61 HCELL
    go_enter Tryz.func48, Tryz.ntmps48
    go_wp2_with fail
    generalize w.alloc (.cells #[.int .u8 0, .string ⟨#[]⟩, .int .i64 0] 102) = w1 at *
    refine (hL _).mono ?_
    rintro e w2 ⟨rfl, rfl⟩
    go_wp2_with fail
    refine (hD _).mono ?_
    rintro e w2 ⟨rfl, rfl⟩
    go_wp2_with fail
    obtain ⟨e0, e1, e2, hbE⟩ := HSET.out _ (Below.refl _ _) (.int .u8 0) (.string ⟨#[]⟩) (.int .i64 0)
    refine bodyPost_ret (v := .tuple #[.agg #[.int .u8 0, .string ⟨#[]⟩, .int .i64 0], .int .i64 0, .int .i64 60]) ?_ rfl ⟨by rw [HO.out.1, HO.out.2.1, HO.out.2.2]; rfl, hbE⟩
    simp only [results, Tryz.results48]
    first | (simp [go_sem, e0, e1, e2]; done) | (simp [go_sem, e0, e1, e2]; omega)

end Go.Proofs.YtmobologlaeefaaGreat
