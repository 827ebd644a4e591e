/-
  Part of the document's answer. Nothing that was there turns.
-/
import Derived.WalkSpells
import Derived.WalkMore
import Derived.Deep.QuietTactic
import Derived.BigQuiet
import Derived.Test.YteckmcgihbicfabProg
import Derived.Test.YteckmcgihbicfabRef06Run
namespace Go.Proofs.Yteckmcgihbicfab
open Go.RowKit
set_option maxRecDepth 10000
set_option linter.unusedVariables false
set_option linter.unusedSimpArgs false

def partV (l : List Int) (p : Nat) : Int × Nat := match partP l p with
  | some x => x
  | none => (0, 0)
theorem pv_low {l : List Int} {p : Nat} (h : nth l p < 32 ∨ 126 < nth l p) : partV l p = (0, 0) := by
  have : partP l p = none := by
    unfold partP
    rw [if_neg (by omega), if_neg (by simp [printB]; omega)]
  unfold partV; rw [this]
theorem pv_plain {l : List Int} {p : Nat} (h0 : 32 ≤ nth l p) (h1 : nth l p ≤ 126) (h2 : nth l p ≠ 92) : partV l p = (nth l p, 1) := by
  have : partP l p = some (nth l p, 1) := by
    unfold partP
    rw [if_neg h2, if_pos (by simp [printB]; omega)]
  unfold partV; rw [this]
theorem pv_two {l : List Int} {p : Nat} (h0 : nth l p = 92) (h1 : nth l (p + 1) = 34 ∨ nth l (p + 1) = 92) : partV l p = (nth l (p + 1), 2) := by
  have : partP l p = some (nth l (p + 1), 2) := by
    unfold partP
    rw [if_pos h0, if_pos h1]
  unfold partV; rw [this]
theorem pv_four {l : List Int} {p : Nat} (h0 : nth l p = 92) (h1 : ¬ (nth l (p + 1) = 34 ∨ nth l (p + 1) = 92)) (h2 : nth l (p + 1) = 120 ∧ hexB (nth l (p + 2)) = true ∧ hexB (nth l (p + 3)) = true) : partV l p = (16 * dvI (nth l (p + 2)) + dvI (nth l (p + 3)), 4) := by
  have : partP l p = some (16 * dvI (nth l (p + 2)) + dvI (nth l (p + 3)), 4) := by
    unfold partP
    rw [if_pos h0, if_neg h1, if_pos h2]
  unfold partV; rw [this]
theorem pv_bad {l : List Int} {p : Nat} (h0 : nth l p = 92) (h1 : ¬ (nth l (p + 1) = 34 ∨ nth l (p + 1) = 92)) (h2 : ¬ (nth l (p + 1) = 120 ∧ hexB (nth l (p + 2)) = true ∧ hexB (nth l (p + 3)) = true)) : partV l p = (0, 0) := by
  have : partP l p = none := by
    unfold partP
    rw [if_pos h0, if_neg h1, if_neg h2]
  unfold partV; rw [this]
theorem byte_lo (s : ByteArray) (k : Nat) (h : k < s.size) : (0 : Int) ≤ (s[k].toNat : Int) ∧ (s[k].toNat : Int) < 256 := ⟨by omega, by have := s[k].toNat_lt; omega⟩

set_option maxHeartbeats 2000000 in
theorem refPart_any (s : ByteArray) (p : Nat) (w : World) (hs : s.size ≤ 140737488351232) (hp : p < s.size) (hq : nth (strI s) p ≠ 34) :
    Calls Try.prog 74 #[.string s, .int .i64 p] w fun e w' => e = .returned (.tuple #[.int .u8 (partV (strI s) p).1, .int .i64 (partV (strI s) p).2]) ∧ ∃ q, w' = w.drewN q := by
  have hpi : (p : Int) < (s.size : Int) := by omega
  have n0 := nth_strI s p hp
  obtain ⟨c0, c1⟩ := byte_lo s p hp
  have HLEN := hid1 (strI_len s)
  by_cases a0 : (s[p].toNat : Int) < 32
  · have HO := hid1 (pv_low (l := strI s) (p := p) (by omega))
    clear n0 hq
    go_enter Try.func74, Try.ntmps74
    go_wp2_with (fail)
    go_ret2
    exact ⟨by rw [HO.out]; rfl, ⟨0, rfl⟩⟩
  by_cases a1 : 126 < (s[p].toNat : Int)
  · have HO := hid1 (pv_low (l := strI s) (p := p) (by omega))
    clear n0 hq
    go_enter Try.func74, Try.ntmps74
    go_wp2_with (fail)
    go_ret2
    exact ⟨by rw [HO.out]; rfl, ⟨0, rfl⟩⟩
  have a2 : ((s[p].toNat : Int) == 34) = false := by rw [← n0]; simpa using hq
  by_cases a3 : (s[p].toNat : Int) = 92
  · have N0 := hid1 (n0.trans a3)
    have a3' : ((s[p].toNat : Int) != 92) = false := by simpa using a3
    clear n0 hq a3
    by_cases p1 : p + 1 < s.size
    · have p1' : (p : Int) + 1 < (s.size : Int) := by omega
      have n1 := nth_strI s (p + 1) p1
      obtain ⟨d0, d1⟩ := byte_lo s (p + 1) p1
      by_cases b0 : (s[p + 1].toNat : Int) = 34
      · have HO := hid1 (pv_two N0.out (Or.inl (n1.trans b0)))
        rw [n1] at HO
        have b0' : ((s[p + 1].toNat : Int) == 34) = true := by simpa using b0
        clear n1 b0
        go_enter Try.func74, Try.ntmps74
        go_wp2_with (fail)
        go_ret2
        exact ⟨by rw [HO.out]; rfl, ⟨0, rfl⟩⟩
      by_cases b1 : (s[p + 1].toNat : Int) = 92
      · have HO := hid1 (pv_two N0.out (Or.inr (n1.trans b1)))
        rw [n1] at HO
        have b0' : ((s[p + 1].toNat : Int) == 34) = false := by simpa using b0
        have b1' : ((s[p + 1].toNat : Int) == 92) = true := by simpa using b1
        clear n1 b1 b0
        go_enter Try.func74, Try.ntmps74
        go_wp2_with (fail)
        go_ret2
        exact ⟨by rw [HO.out]; rfl, ⟨0, rfl⟩⟩
      have NB := hid1 (show ¬ (nth (strI s) (p + 1) = 34 ∨ nth (strI s) (p + 1) = 92) by rw [n1]; intro h; rcases h with h | h; exact b0 h; exact b1 h)
      have b0' : ((s[p + 1].toNat : Int) == 34) = false := by simpa using b0
      have b1' : ((s[p + 1].toNat : Int) == 92) = false := by simpa using b1
      clear b0 b1
      by_cases p3 : p + 3 < s.size
      · have p3' : (p : Int) + 3 < (s.size : Int) := by omega
        have p2' : (p : Int) + 2 < (s.size : Int) := by omega
        have n2 := nth_strI s (p + 2) (by omega)
        have n3 := nth_strI s (p + 3) p3
        by_cases b2 : (s[p + 1].toNat : Int) = 120
        · have N1 := hid1 (n1.trans b2)
          have b2' : ((s[p + 1].toNat : Int) == 120) = true := by simpa using b2
          obtain ⟨x0, x1⟩ := byte_lo s (p + 2) (by omega)
          obtain ⟨y0, y1⟩ := byte_lo s (p + 3) p3
          have hX := fun wx => refHex_any (s[p + 2].toNat : Int) wx x0 x1
          have hY := fun wx => refHex_any (s[p + 3].toNat : Int) wx y0 y1
          clear b2 n1 d0 d1
          cases e2 : hexB (s[p + 2].toNat : Int)
          · have HO := hid1 (pv_bad N0.out NB.out (fun h => by have := h.2.1; rw [n2, e2] at this; cases this))
            rw [e2] at hX
            clear e2 n2 n3 hY
            go_enter Try.func74, Try.ntmps74
            go_wp2_with (go_at_call 40; refine (hX _).mono ?_; rintro e w' ⟨rfl, rfl⟩)
            go_ret2
            exact ⟨by rw [HO.out]; rfl, ⟨0, rfl⟩⟩
          cases e3 : hexB (s[p + 3].toNat : Int)
          · have HO := hid1 (pv_bad N0.out NB.out (fun h => by have := h.2.2; rw [n3, e3] at this; cases this))
            rw [e2] at hX
            rw [e3] at hY
            clear e2 e3 n2 n3
            go_enter Try.func74, Try.ntmps74
            go_wp2_with fail
            refine (hX _).mono ?_
            rintro e w' ⟨rfl, rfl⟩
            go_wp2_with fail
            refine (hY _).mono ?_
            rintro e w' ⟨rfl, rfl⟩
            go_wp2_with fail
            go_ret2
            exact ⟨by rw [HO.out]; rfl, ⟨0, rfl⟩⟩
          · have HO := hid1 (pv_four N0.out NB.out ⟨N1.out, by rw [n2]; exact e2, by rw [n3]; exact e3⟩)
            rw [n2, n3] at HO
            have hX2 := fun wx => refWorth_any (s[p + 2].toNat : Int) wx x0 x1 e2
            have hY2 := fun wx => refWorth_any (s[p + 3].toNat : Int) wx y0 y1 e3
            have v0 := dv_lo (s[p + 2].toNat : Int)
            have v1 := (dv_hex (s[p + 2].toNat : Int)).2 e2
            have u0 := dv_lo (s[p + 3].toNat : Int)
            have u1 := (dv_hex (s[p + 3].toNat : Int)).2 e3
            rw [e2] at hX
            rw [e3] at hY
            clear n2 n3 hX2 hY2
            have wv : (16 * dvI (s[p + 2].toNat : Int) + dvI (s[p + 3].toNat : Int)) % 256 = 16 * dvI (s[p + 2].toNat : Int) + dvI (s[p + 3].toNat : Int) := by omega
            go_enter Try.func74, Try.ntmps74
            go_wp2_with fail
            refine (hX _).mono ?_
            rintro e w' ⟨rfl, rfl⟩
            go_wp2_with fail
            refine (hY _).mono ?_
            rintro e w' ⟨rfl, rfl⟩
            go_wp2_with fail
            go_quiet ((go_at_call 41; exact Calls.quiet_of_same ((refWorth_any _ _ (by omega) (by omega) (by assumption)).mono fun _ _ h => ⟨h.1, h.2.symm⟩)))
            go_wp2_with fail
            go_ret2
            exact ⟨by rw [HO.out]; first | rfl | (simp [wv]; done) | (simp; omega), ⟨_, rfl⟩⟩
        · have HO := hid1 (pv_bad N0.out NB.out (fun h => b2 (n1.symm.trans h.1)))
          have b2' : ((s[p + 1].toNat : Int) == 120) = false := by simpa using b2
          clear n1 n2 n3 b2
          go_enter Try.func74, Try.ntmps74
          go_wp2_with (fail)
          go_ret2
          exact ⟨by rw [HO.out]; rfl, ⟨0, rfl⟩⟩
      · have HO := hid1 (pv_bad N0.out NB.out (fun h => by
          have h3 := h.2.2
          rw [nth_over _ _ (by rw [HLEN.out]; omega)] at h3
          exact absurd h3 (by decide)))
        have p3' : ¬ ((p : Int) + 3 < (s.size : Int)) := by omega
        clear n1
        go_enter Try.func74, Try.ntmps74
        go_wp2_with (fail)
        go_ret2
        exact ⟨by rw [HO.out]; rfl, ⟨0, rfl⟩⟩
    · have z1 : nth (strI s) (p + 1) = 0 := nth_over _ _ (by rw [HLEN.out]; omega)
      have HO := hid1 (pv_bad N0.out (by rw [z1]; decide) (fun h => by rw [z1] at h; exact absurd h.1 (by decide)))
      have p1' : ¬ ((p : Int) + 1 < (s.size : Int)) := by omega
      have p3' : ¬ ((p : Int) + 3 < (s.size : Int)) := by omega
      clear z1
      go_enter Try.func74, Try.ntmps74
      go_wp2_with (fail)
      go_ret2
      exact ⟨by rw [HO.out]; rfl, ⟨0, rfl⟩⟩
  · have HO := hid1 (pv_plain (l := strI s) (p := p) (by omega) (by omega) (by omega))
    rw [n0] at HO
    have a3' : ((s[p].toNat : Int) != 92) = true := by simpa using a3
    clear n0 hq a3
    go_enter Try.func74, Try.ntmps74
    go_wp2_with (fail)
    go_ret2
    exact ⟨by rw [HO.out]; rfl, ⟨0, rfl⟩⟩

end Go.Proofs.Yteckmcgihbicfab
