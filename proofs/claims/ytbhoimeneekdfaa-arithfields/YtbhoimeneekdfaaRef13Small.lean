/-
  The document's small functions of layer 13: signed, word, truth, cut, divided, Pair.
-/
import Derived.WalkSpells
import Derived.WalkMore
import Derived.Test.YtbhoimeneekdfaaMathAr
import Derived.Test.YtbhoimeneekdfaaMathDv
import Derived.Test.YtbhoimeneekdfaaArithPair
namespace Go.Proofs.Ytbhoimeneekdfaa
open Go.RowKit Go.Maps
set_option linter.unusedVariables false
set_option linter.unusedSimpArgs false
set_option maxRecDepth 10000

theorem refSigned_any (a : Int) (w : World) (a0 : 0 ≤ a) (a1 : a < 4294967296) : Calls Try.prog 36 #[.int .u32 a] w fun e w' => e = .returned (.int .i64 (wrap32 a)) ∧ w = w' := by
  by_cases h : a < 2147483648
  · have e : wrap32 a = a := by unfold wrap32; omega
    rw [e]
    go_enter Try.func36, Try.ntmps36
    go_wp2
    go_ret
    exact ⟨rfl, rfl⟩
  · have e : wrap32 a = a - 4294967296 := by unfold wrap32; omega
    rw [e]
    go_enter Try.func36, Try.ntmps36
    go_wp2
    go_ret
    exact ⟨rfl, rfl⟩

theorem refWord_any (n : Int) (w : World) (n0 : -9223372036854775808 ≤ n) (n1 : n < 9223372036854775808) : Calls Try.prog 15 #[.int .i64 n] w fun e w' => e = .returned (.int .u32 (n % 4294967296)) ∧ w = w' := by
  have hr := @Int.tmod_eq_emod n 4294967296
  have hr2 : n.tmod 4294967296 = n % 4294967296 ∨ (n.tmod 4294967296 < 0 ∧ n.tmod 4294967296 + 4294967296 = n % 4294967296) := by
    rw [hr]; split <;> omega
  have hin : -4294967296 ≤ n.tmod 4294967296 ∧ n.tmod 4294967296 < 4294967296 := by omega
  clear hr
  by_cases h : n.tmod 4294967296 < 0
  · have e : n % 4294967296 = n.tmod 4294967296 + 4294967296 := by omega
    rw [e]
    generalize hx : n.tmod 4294967296 = x at *
    go_enter Try.func15, Try.ntmps15
    go_wp2
    go_ret
    exact ⟨rfl, rfl⟩
  · have e : n % 4294967296 = n.tmod 4294967296 := by omega
    rw [e]
    generalize hx : n.tmod 4294967296 = x at *
    go_enter Try.func15, Try.ntmps15
    go_wp2
    go_ret
    exact ⟨rfl, rfl⟩

theorem refTruth_any (x : Bool) (w : World) : Calls Try.prog 16 #[.bool x] w fun e w' => e = .returned (.int .u32 (b2i x)) ∧ w = w' := by
  cases x
  · go_enter Try.func16, Try.ntmps16
    go_wp2
    go_ret
    exact ⟨rfl, rfl⟩
  · go_enter Try.func16, Try.ntmps16
    go_wp2
    go_ret
    exact ⟨rfl, rfl⟩

theorem wrap64_at (x y : Int) (h : x = y) (hy : -9223372036854775808 ≤ y ∧ y ≤ 9223372036854775807) : wrap64 x = y := by subst h; unfold wrap64; omega
theorem wrap64_neg (x y : Int) (h : x = -y) (hy : -9223372036854775808 ≤ y ∧ y ≤ 9223372036854775807) (hx : -9223372036854775808 ≤ x ∧ x ≤ 9223372036854775807) : wrap64 (-wrap64 x) = y := by
  rw [wrap64_at x x rfl hx]; exact wrap64_at _ _ (by omega) hy

theorem refCut_any13 (s t : Int) (w : World) (s0 : -2147483648 ≤ s) (s1 : s < 2147483648) (t0 : -2147483648 ≤ t) (t1 : t < 2147483648) (ht : t ≠ 0) : Calls Try.prog 56 #[.int .i64 s, .int .i64 t] w fun e w' => e = .returned (.int .i64 (s.tdiv t)) ∧ w = w' := by
  by_cases hs : s < 0
  · by_cases hh : t < 0
    · have e : s.tdiv t = -((-s) / t) := by rw [← Int.ediv_neg, ← Int.tdiv_eq_ediv_of_nonneg (by omega), Int.neg_tdiv, Int.tdiv_neg, Int.neg_neg]
      have hd := div_le (-s) (-t) (by omega) (by omega)
      rw [Int.ediv_neg] at hd
      rw [e]
      go_enter Try.func56, Try.ntmps56
      go_wp2
      go_ret
      first | exact ⟨rfl, rfl⟩ | exact ⟨ret_int (wrap64_at _ _ rfl (by omega)), rfl⟩
    · have e : s.tdiv t = -((-s) / t) := by rw [← Int.tdiv_eq_ediv_of_nonneg (by omega), Int.neg_tdiv, Int.neg_neg]
      have hd := div_le (-s) t (by omega) (by omega)
      rw [e]
      go_enter Try.func56, Try.ntmps56
      go_wp2
      go_ret
      first | exact ⟨rfl, rfl⟩ | exact ⟨ret_int (wrap64_at _ _ rfl (by omega)), rfl⟩ | exact ⟨ret_int (wrap64_neg _ _ (by omega) (by omega) (by omega)), rfl⟩
  · by_cases hh : t < 0
    · have e : s.tdiv t = s / t := by rw [← Int.neg_neg t, Int.tdiv_neg, Int.ediv_neg, Int.tdiv_eq_ediv_of_nonneg (by omega)]
      have hd := div_le s (-t) (by omega) (by omega)
      rw [Int.ediv_neg] at hd
      rw [e]
      go_enter Try.func56, Try.ntmps56
      go_wp2
      go_ret
      first | exact ⟨rfl, rfl⟩ | exact ⟨ret_int (wrap64_neg _ _ rfl (by omega) (by omega)), rfl⟩
    · have e : s.tdiv t = s / t := Int.tdiv_eq_ediv_of_nonneg (by omega)
      have hd := div_le s t (by omega) (by omega)
      rw [e]
      go_enter Try.func56, Try.ntmps56
      go_wp2
      go_ret
      first | exact ⟨rfl, rfl⟩ | exact ⟨ret_int (wrap64_at _ _ rfl (by omega)), rfl⟩

theorem tdiv_in (s t : Int) (hs : -2147483648 ≤ s ∧ s < 2147483648) (ht : t ≠ 0) : -2147483648 ≤ s.tdiv t ∧ s.tdiv t ≤ 2147483648 := by
  have h1 := Int.natAbs_tdiv s t
  have h2 : s.natAbs / t.natAbs ≤ s.natAbs := Nat.div_le_self _ _
  have h3 : s.natAbs.div t.natAbs = s.natAbs / t.natAbs := rfl
  omega
theorem tmod_sub (s t : Int) : s - t * s.tdiv t = s.tmod t := by have := Int.tmod_add_mul_tdiv s t; omega

set_option maxHeartbeats 2000000 in
theorem refDivided_at (op a b S T D R Q P : Int) (w : World) (a0 : 0 ≤ a) (a1 : a < 4294967296) (b0 : 0 ≤ b) (b1 : b < 4294967296) (hb : b ≠ 0) (hop : op = 134 ∨ op = 135 ∨ op = 137 ∨ op = 138 ∨ op = 139) (hS : wrap32 a = S) (hT : wrap32 b = T) (iS : -2147483648 ≤ S ∧ S < 2147483648) (iT : -2147483648 ≤ T ∧ T < 2147483648) (nT : T ≠ 0)
    (hD : S.tdiv T = D) (iD : -2147483648 ≤ D ∧ D ≤ 2147483648) (hR : S - T * D = R) (hTD : -9223372036854775808 ≤ T * D ∧ T * D ≤ 9223372036854775807) (iR : -2147483648 ≤ R ∧ R < 2147483648) (hQ : a / b = Q) (hP : b * Q = P) (iP : 0 ≤ P ∧ P ≤ a) (iQ : 0 ≤ Q ∧ Q ≤ a) :
    Calls Try.prog 37 #[.int .u16 op, .int .u32 a, .int .u32 b] w fun e w' => e = .returned (.int .u32 (if op = 134 then Q % 4294967296 else if op = 137 then (a - P) % 4294967296 else if op = 135 then D % 4294967296 else if op = 138 then R % 4294967296 else if R ≠ 0 ∧ (R < 0 ↔ ¬ T < 0) then (R + T) % 4294967296 else R % 4294967296)) ∧ w = w' := by
  have hC := fun w => refCut_any13 S T w iS.1 iS.2 iT.1 iT.2 nT
  rw [hD] at hC
  have h1 := fun w => refSigned_any a w a0 a1
  have h2 := fun w => refSigned_any b w b0 b1
  rw [hS] at h1
  rw [hT] at h2
  clear hD
  rcases hop with rfl | rfl | rfl | rfl | rfl
  · skip
    go_enter Try.func37, Try.ntmps37
    go_wp2_with fail
    refine (h1 _).mono ?_
    rintro e w' ⟨rfl, rfl⟩
    go_wp2_with fail
    refine (h2 _).mono ?_
    rintro e w' ⟨rfl, rfl⟩
    go_wp2_with fail
    refine (hC _).mono ?_
    rintro e w' ⟨rfl, rfl⟩
    go_wp2_with fail
    refine (refWord_any _ _ (by omega) (by omega)).mono ?_
    rintro e w' ⟨rfl, rfl⟩
    go_wp2
    go_ret
    exact ⟨by simp, rfl⟩
  · skip
    go_enter Try.func37, Try.ntmps37
    go_wp2_with fail
    refine (h1 _).mono ?_
    rintro e w' ⟨rfl, rfl⟩
    go_wp2_with fail
    refine (h2 _).mono ?_
    rintro e w' ⟨rfl, rfl⟩
    go_wp2_with fail
    refine (hC _).mono ?_
    rintro e w' ⟨rfl, rfl⟩
    go_wp2_with fail
    refine (hC _).mono ?_
    rintro e w' ⟨rfl, rfl⟩
    go_wp2_with fail
    refine (refWord_any _ _ (by omega) (by omega)).mono ?_
    rintro e w' ⟨rfl, rfl⟩
    go_wp2
    go_ret
    exact ⟨by simp, rfl⟩
  · skip
    go_enter Try.func37, Try.ntmps37
    go_wp2_with fail
    refine (h1 _).mono ?_
    rintro e w' ⟨rfl, rfl⟩
    go_wp2_with fail
    refine (h2 _).mono ?_
    rintro e w' ⟨rfl, rfl⟩
    go_wp2_with fail
    refine (hC _).mono ?_
    rintro e w' ⟨rfl, rfl⟩
    go_wp2_with fail
    refine (refWord_any _ _ (by omega) (by omega)).mono ?_
    rintro e w' ⟨rfl, rfl⟩
    go_wp2
    go_ret
    exact ⟨by simp, rfl⟩
  · skip
    go_enter Try.func37, Try.ntmps37
    go_wp2_with fail
    refine (h1 _).mono ?_
    rintro e w' ⟨rfl, rfl⟩
    go_wp2_with fail
    refine (h2 _).mono ?_
    rintro e w' ⟨rfl, rfl⟩
    go_wp2_with fail
    refine (hC _).mono ?_
    rintro e w' ⟨rfl, rfl⟩
    go_wp2_with fail
    refine (refWord_any _ _ (by omega) (by omega)).mono ?_
    rintro e w' ⟨rfl, rfl⟩
    go_wp2
    go_ret
    exact ⟨by simp, rfl⟩
  · skip
    have key : ∀ V : Int, (if R ≠ 0 ∧ (R < 0 ↔ ¬ T < 0) then R + T else R) = V → Calls Try.prog 37 #[.int .u16 139, .int .u32 a, .int .u32 b] w fun e w' => e = .returned (.int .u32 (V % 4294967296)) ∧ w = w' := by
      intro V hV
      by_cases c1 : R = 0
      · have eV : V = 0 := by rw [← hV, c1]; simp
        rw [eV]
        go_enter Try.func37, Try.ntmps37
        go_wp2_with fail
        refine (h1 _).mono ?_
        rintro e w' ⟨rfl, rfl⟩
        go_wp2_with fail
        refine (h2 _).mono ?_
        rintro e w' ⟨rfl, rfl⟩
        go_wp2_with fail
        refine (hC _).mono ?_
        rintro e w' ⟨rfl, rfl⟩
        go_wp2_with fail
        refine (refWord_any _ _ (by omega) (by omega)).mono ?_
        rintro e w' ⟨rfl, rfl⟩
        go_wp2
        go_ret
        exact ⟨rfl, rfl⟩
      · by_cases d1 : T < 0
        · by_cases d2 : R < 0
          · have eV : V = R := by rw [← hV]; simp [c1, d1, d2]
            rw [eV]
            clear hV eV
            go_enter Try.func37, Try.ntmps37
            go_wp2_with fail
            refine (h1 _).mono ?_
            rintro e w' ⟨rfl, rfl⟩
            go_wp2_with fail
            refine (h2 _).mono ?_
            rintro e w' ⟨rfl, rfl⟩
            go_wp2_with fail
            refine (hC _).mono ?_
            rintro e w' ⟨rfl, rfl⟩
            go_wp2_with fail
            refine (refWord_any _ _ (by omega) (by omega)).mono ?_
            rintro e w' ⟨rfl, rfl⟩
            go_wp2
            go_ret
            exact ⟨rfl, rfl⟩
          · have eV : V = R + T := by rw [← hV]; simp [c1, d1, d2]
            rw [eV]
            clear hV eV
            go_enter Try.func37, Try.ntmps37
            go_wp2_with fail
            refine (h1 _).mono ?_
            rintro e w' ⟨rfl, rfl⟩
            go_wp2_with fail
            refine (h2 _).mono ?_
            rintro e w' ⟨rfl, rfl⟩
            go_wp2_with fail
            refine (hC _).mono ?_
            rintro e w' ⟨rfl, rfl⟩
            go_wp2_with fail
            rotate_left
            · exfalso
              rename _ ∨ _ => hx
              rcases hx with hx | hx <;> simp at hx <;> omega
            refine (refWord_any _ _ (by omega) (by omega)).mono ?_
            rintro e w' ⟨rfl, rfl⟩
            go_wp2
            go_ret
            exact ⟨rfl, rfl⟩
        · by_cases d2 : R < 0
          · have eV : V = R + T := by rw [← hV]; simp [c1, d1, d2]
            rw [eV]
            clear hV eV
            go_enter Try.func37, Try.ntmps37
            go_wp2_with fail
            refine (h1 _).mono ?_
            rintro e w' ⟨rfl, rfl⟩
            go_wp2_with fail
            refine (h2 _).mono ?_
            rintro e w' ⟨rfl, rfl⟩
            go_wp2_with fail
            refine (hC _).mono ?_
            rintro e w' ⟨rfl, rfl⟩
            go_wp2_with fail
            rotate_left
            · exfalso
              rename _ ∨ _ => hx
              rcases hx with hx | hx <;> simp at hx <;> omega
            refine (refWord_any _ _ (by omega) (by omega)).mono ?_
            rintro e w' ⟨rfl, rfl⟩
            go_wp2
            go_ret
            exact ⟨rfl, rfl⟩
          · have eV : V = R := by rw [← hV]; simp [c1, d1, d2]
            rw [eV]
            clear hV eV
            go_enter Try.func37, Try.ntmps37
            go_wp2_with fail
            refine (h1 _).mono ?_
            rintro e w' ⟨rfl, rfl⟩
            go_wp2_with fail
            refine (h2 _).mono ?_
            rintro e w' ⟨rfl, rfl⟩
            go_wp2_with fail
            refine (hC _).mono ?_
            rintro e w' ⟨rfl, rfl⟩
            go_wp2_with fail
            · exfalso
              rename _ ∧ _ => hx
              have hx2 := hx.2
              simp at hx2
              omega
            refine (refWord_any _ _ (by omega) (by omega)).mono ?_
            rintro e w' ⟨rfl, rfl⟩
            go_wp2
            go_ret
            exact ⟨rfl, rfl⟩
    have hk := key _ rfl
    by_cases c : R ≠ 0 ∧ (R < 0 ↔ ¬ T < 0)
    · rw [if_pos c] at hk
      rw [if_neg (by decide), if_neg (by decide), if_neg (by decide), if_neg (by decide), if_pos c]
      exact hk
    · rw [if_neg c] at hk
      rw [if_neg (by decide), if_neg (by decide), if_neg (by decide), if_neg (by decide), if_neg c]
      exact hk

end Go.Proofs.Ytbhoimeneekdfaa
