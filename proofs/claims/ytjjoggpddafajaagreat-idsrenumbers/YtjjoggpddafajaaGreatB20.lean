/-
  Texts laid together in one: Ref03Letter, Ref04Wrong, Ref01Split, Ref01OfText, Ref04Room, Ref04Fault.
-/
import Derived.WalkSpells
import Derived.WalkMore
import Derived.Deep.QuietTactic
import Derived.BigQuiet
import Derived.Test.YtjjoggpddafajaaGreatB03
import Derived.Test.YtjjoggpddafajaaGreatProg
import Derived.Test.YtjjoggpddafajaaGreatB04
import Derived.Test.YtjjoggpddafajaaGreatB07
import Derived.Test.YtjjoggpddafajaaGreatB06
import Derived.Deep.RegionHeld3
import Derived.Deep.DrawnRows
import Derived.Test.YtjjoggpddafajaaGreatB01
import Derived.Test.YtjjoggpddafajaaGreatB02
/-
  What Letter of the document's answer returns, for every operation and number.
-/
namespace Go.Proofs.YtjjoggpddafajaaGreat
open Go.RowKit
set_option maxRecDepth 10000
set_option linter.unusedVariables false
set_option linter.unusedSimpArgs false

theorem ofV_look (n : Int) : ∃ m, ofV n = formV m (lookF refT n).1 := by
  unfold ofV
  cases h : (lookF refT n).2
  · rw [(lookF_false h).1]; exact ⟨0, rfl⟩
  · exact ⟨n, rfl⟩

theorem letterI_none (i : Int) : letterI noFrm i = 0 := by
  unfold letterI
  split
  · rfl
  · split
    · rename_i h1 h2
      have : (noFrm.2.2.2.1.size : Int) = 0 := rfl
      omega
    · have : mayB noFrm (i - noFrm.2.2.2.1.size) = false := rfl
      rw [this]; rfl

set_option maxRecDepth 10000 in
set_option maxHeartbeats 2000000 in
theorem refLetter_any (n i : Int) (w : World) (h1 : i < 9223372036854775808) :
    Calls Tryz.prog 43 #[.int .u16 n, .int .i64 i] w fun e w' => e = .returned (.int .u8 (letterI (lookF refT n).1 i)) ∧ Below w.heap.size w w' := by
  have hR := fun w => refOf_any n w
  obtain ⟨m, hm⟩ := ofV_look n
  rw [hm] at hR
  clear hm
  have hs := look_short n
  have HN : Hid ((lookF refT n).2 = false → (lookF refT n).1 = noFrm) := fun h => by rw [(lookF_false h).1]
  generalize (lookF refT n).1 = f at *
  generalize (lookF refT n).2 = is at *
  have HL : Hid (∃ x, x = letterI f i) := ⟨_, rfl⟩
  have hs2 := hs
  simp only [shortF, Bool.and_eq_true, decide_eq_true_eq] at hs
  obtain ⟨⟨⟨s1, s2⟩, s3⟩, s4⟩ := hs
  obtain ⟨nm, t, r, fx, rs, mo, pa⟩ := f
  simp only at s1 s2 s3 s4
  clear hs2 HL
  cases is
  · have HE : Hid (letterI (nm, t, r, fx, rs, mo, pa) i = 0) := by show _ = _; rw [HN.out rfl]; exact letterI_none i
    clear HN
    unfold formV at hR
    go_enter Tryz.func43, Tryz.ntmps43
    go_wp2_with fail
    refine (hR _).mono ?_
    rintro e w1 ⟨rfl, hb⟩
    clear hR
    go_wp2
    go_ret
    exact ⟨by rw [HE.out]; rfl, hb.alloc hb.size _⟩
  · clear HN
    by_cases hi : i < 0
    · have HE : Hid (letterI (nm, t, r, fx, rs, mo, pa) i = 0) := by show _ = _; unfold letterI; rw [if_pos hi]
      unfold formV at hR
      go_enter Tryz.func43, Tryz.ntmps43
      go_wp2_with fail
      refine (hR _).mono ?_
      rintro e w1 ⟨rfl, hb⟩
      clear hR
      go_wp2
      go_ret
      exact ⟨by rw [HE.out]; rfl, hb.alloc hb.size _⟩
    · have hid : decide (i < 0) = false := by simpa using hi
      obtain ⟨k, rfl⟩ := Int.eq_ofNat_of_zero_le (show 0 ≤ i by omega)
      by_cases hx : (k : Int) < fx.size
      · have HE : Hid (letterI (nm, t, r, fx, rs, mo, pa) k = sgn fx k) := by show _ = _; unfold letterI; rw [if_neg hi, if_pos hx, Int.toNat_natCast]
        have hk : k < fx.size := by omega
        have hsg := sgn_at fx k hk
        unfold formV at hR
        go_enter Tryz.func43, Tryz.ntmps43
        go_wp2_with fail
        refine (hR _).mono ?_
        rintro e w1 ⟨rfl, hb⟩
        clear hR
        go_wp2
        go_ret
        exact ⟨by rw [HE.out]; rfl, hb.alloc hb.size _⟩
      · by_cases hr : rs.size = 0
        · have HE : Hid (letterI (nm, t, r, fx, rs, mo, pa) k = 0) := by show _ = _; unfold letterI; rw [if_neg hi, if_neg hx]; simp [mayB, hr]
          have hrz : (((rs.size : Nat) : Int) == 0) = true := by simp [hr]
          have hxd : ¬ k < fx.size := by omega
          clear hr hx hi h1 s3 s4 s1 s2
          unfold formV at hR
          go_enter Tryz.func43, Tryz.ntmps43
          go_wp2_with fail
          refine (hR _).mono ?_
          rintro e w1 ⟨rfl, hb⟩
          clear hR
          go_wp2
          go_ret
          exact ⟨by rw [HE.out]; rfl, hb.alloc hb.size _⟩
        · have hrz : (((rs.size : Nat) : Int) == 0) = false := by simp [hr]
          have hr0 : (0 : Int) < (rs.size : Int) := by omega
          have hz : ¬ (rs.size : Int) = 0 := by omega
          obtain ⟨b, hb⟩ : ∃ b : Nat, (k : Int) - (fx.size : Int) = b := ⟨k - fx.size, by omega⟩
          have hw1 : IntKind.i64.wrap ((k : Int) - (fx.size : Int)) = b := by rw [hb]; exact wrapI _ (by omega) (by omega)
          have hbl : (b : Int) < 9223372036854775808 := by omega
          have ht : Int.tdiv (b : Int) (rs.size : Int) = (b : Int) / (rs.size : Int) := Int.tdiv_eq_ediv_of_nonneg (by omega)
          have hq0 : 0 ≤ (b : Int) / (rs.size : Int) := Int.ediv_nonneg (by omega) (by omega)
          have hq1 : (b : Int) / (rs.size : Int) ≤ b := Int.ediv_le_self _ (by omega)
          have hw : IntKind.i64.wrap ((b : Int) / (rs.size : Int)) = (b : Int) / (rs.size : Int) := wrapI _ (by omega) (by omega)
          have HM : Hid (mayB (nm, t, r, fx, rs, mo, pa) b = if mo = 0 then true else decide ((b : Int) / (rs.size : Int) < mo)) := by show _ = _; simp [mayB, hr]
          have tm : Int.tmod (b : Int) (rs.size : Int) = (b : Int) % (rs.size : Int) := Int.tmod_eq_emod_of_nonneg (by omega)
          have m0 : 0 ≤ (b : Int) % (rs.size : Int) := Int.emod_nonneg _ hz
          have m1 : (b : Int) % (rs.size : Int) < (rs.size : Int) := Int.emod_lt_of_pos _ hr0
          have hw2 : IntKind.i64.wrap ((b : Int) % (rs.size : Int)) = (b : Int) % (rs.size : Int) := wrapI _ (by omega) (by omega)
          have HE : Hid (letterI (nm, t, r, fx, rs, mo, pa) k = if mayB (nm, t, r, fx, rs, mo, pa) b then sgn rs ((b : Int) % (rs.size : Int)).toNat else 0) := by show _ = _; unfold letterI; rw [if_neg hi, if_neg hx]; simp only [hb]
          by_cases hc : mo > 0 ∧ (b : Int) / (rs.size : Int) ≥ mo
          · have HF : Hid (letterI (nm, t, r, fx, rs, mo, pa) k = 0) := by show _ = _; rw [HE.out, HM.out, if_neg (show ¬ mo = 0 by omega), decide_eq_false (by omega)]; rfl
            clear HE HM tm m0 m1 hw2 hb
            have hxd : ¬ k < fx.size := by omega
            obtain ⟨hc1, hc2⟩ := hc
            clear hx hi hr h1 hbl s1 s2 hq1
            have g1 : decide (mo > 0) = true := by simpa using hc1
            have g2 : decide (mo ≤ (b : Int) / (rs.size : Int)) = true := by simpa using hc2
            unfold formV at hR
            go_enter Tryz.func43, Tryz.ntmps43
            go_wp2_with fail
            refine (hR _).mono ?_
            rintro e w1 ⟨rfl, hb⟩
            clear hR
            go_wp2
            go_quiet (fail)
            go_wp2
            go_ret
            exact ⟨by rw [HF.out]; rfl, bel_drewN (hb.alloc hb.size _) _⟩
          · have hmb : mayB (nm, t, r, fx, rs, mo, pa) b = true := by
              rw [HM.out]
              split
              · rfl
              · exact decide_eq_true (by omega)
            obtain ⟨j, hj⟩ := Int.eq_ofNat_of_zero_le m0
            have HF : Hid (letterI (nm, t, r, fx, rs, mo, pa) k = sgn rs j) := by show _ = _; rw [HE.out, hmb, if_pos rfl, hj]; rfl
            rw [hj] at tm hw2
            have hjl : j < rs.size := by omega
            have hsg := sgn_at rs j hjl
            have hxd : ¬ k < fx.size := by omega
            clear HE HM hmb hb hj m0 m1
            by_cases g1 : mo > 0
            · have g2 : decide (mo ≤ (b : Int) / (rs.size : Int)) = false := decide_eq_false (by omega)
              have g1' : decide (mo > 0) = true := decide_eq_true g1
              clear hx hi hr h1 hbl s1 s2 hq1 hc g1
              unfold formV at hR
              go_enter Tryz.func43, Tryz.ntmps43
              go_wp2_with fail
              refine (hR _).mono ?_
              rintro e w1 ⟨rfl, hb⟩
              clear hR
              go_wp2
              go_quiet (fail)
              go_wp2
              go_quiet (fail)
              go_wp2
              go_ret
              exact ⟨by rw [HF.out]; rfl, bel_drewN (bel_drewN (hb.alloc hb.size _) _) _⟩
            · have g1' : decide (mo > 0) = false := decide_eq_false g1
              clear hx hi hr h1 hbl s1 s2 hq1 hc g1 s3 s4
              unfold formV at hR
              go_enter Tryz.func43, Tryz.ntmps43
              go_wp2_with fail
              refine (hR _).mono ?_
              rintro e w1 ⟨rfl, hb⟩
              clear hR
              go_wp2
              go_quiet (fail)
              go_wp2
              go_quiet (fail)
              go_wp2
              go_ret
              exact ⟨by rw [HF.out]; rfl, bel_drewN (bel_drewN (hb.alloc hb.size _) _) _⟩

end Go.Proofs.YtjjoggpddafajaaGreat

/-
  What Wrong of the document's answer returns: what is wrong with an argument that stands where a letter is.
-/
namespace Go.Proofs.YtjjoggpddafajaaGreat
open Go.RowKit
set_option linter.unusedVariables false
set_option linter.unusedSimpArgs false
set_option maxRecDepth 10000

theorem wrongA_eq (c : Int) (x : ArgT) (b : Int) : wrongA c x b = if mayStandB c x = false then 42 else if x.1 = 1 ∧ noneB x.2.1 b = true then 43 else if x.1 = 4 ∧ enumB c x.2.1 = false then 31 else if nulS x.2.2 then 13 else 0 := by
  unfold wrongA
  by_cases hm : mayStandB c x = false
  · simp [hm]
  · have hk : kindI c = x.1 := by simp [mayStandB] at hm; exact hm.2.1.symm
    unfold faultW
    rw [hk, if_neg hm, if_neg hm]
    by_cases h3 : x.1 = 3
    · simp [h3]
    · have hs : x.2.2 = ByteArray.empty := by simp [mayStandB, h3] at hm; exact hm.2.2
      have hn : nulS x.2.2 = false := by rw [hs]; rfl
      by_cases h1 : x.1 = 1
      · cases hb : noneB x.2.1 b <;> simp [h1, hn]
      · by_cases h4 : x.1 = 4
        · cases hb : enumB c x.2.1 <;> simp [h4, hn]
        · simp [h1, h3, h4, hn]

theorem nul_first {s : ByteArray} {k : Nat} (hk : k < s.size) (h : (s[k].toNat : Int) = 0) : nulS s = true := by
  cases e : nulS s with
  | true => rfl
  | false => exact absurd (by rw [nth_strI s k hk]; exact h) ((nulS_false.1 e) k hk)
theorem nul_not {s : ByteArray} (h : ∀ j, (hj : j < s.size) → (s[j].toNat : Int) ≠ 0) : nulS s = false := nulS_false.2 fun k hk => by rw [nth_strI s k hk]; exact h k hk

set_option maxHeartbeats 4000000 in
theorem refWrong4_any (c : Int) (x : ArgT) (b : Int) (w : World) (hok : ArgOk x) (b0 : 0 ≤ b) (b1 : b < 4294967296) :
    Calls Tryz.prog 42 #[.int .u8 c, argV x, .int .u32 b] w fun e w' => e = .returned (.int .i64 (wrongA c x b)) ∧ Below w.heap.size w w' := by
  obtain ⟨R, hR⟩ : ∃ R, R = wrongA c x b := ⟨_, rfl⟩
  rw [← hR]
  rw [wrongA_eq] at hR
  obtain ⟨x1, x2, x3⟩ := x
  simp only at hR
  have HR := hide hR
  clear hR
  obtain ⟨g0, g1, g2, g3, g4⟩ := hok
  simp only at g0 g1 g2 g3 g4
  have hNo := fun wx => none_any x2 b wx g2 g3 b0 b1
  have hEn := fun wx => refEnum_any c x2 wx
  unfold argV
  simp only
  have hba : Below w.heap.size w (w.alloc (.cells #[.int .u8 x1, .int .u32 x2, .string x3] 48)) := (Below.refl _ w).alloc (Nat.le_refl _) _
  have kB : (w.alloc (.cells #[.int .u8 x1, .int .u32 x2, .string x3] 48)).heap[w.heap.size]? = some (.cells #[.int .u8 x1, .int .u32 x2, .string x3] 48 (0, 0)) := alloc_new w _ _
  have hsz : w.heap.size < (w.alloc (.cells #[.int .u8 x1, .int .u32 x2, .string x3] 48)).heap.size := by simp
  have hKd := fun wx => refKind_any c wx
  go_enter Tryz.func42, Tryz.ntmps42
  go_wp2_with fail
  generalize w.alloc (.cells #[.int .u8 x1, .int .u32 x2, .string x3] 48) = W at *
  have a0 := fun s : InC (Below W.heap.size W) => s.cell (p := ⟨w.heap.size, 0, none⟩) hsz ((one_block kB).1 0)
  have hK := fun s : InC (Below W.heap.size W) => Calls.inC s (hKd s.w)
  have hne : Nonempty (InC (Below W.heap.size W)) := ⟨⟨W, Below.refl _ _⟩⟩
  have hbl := below_drew W
  clear hKd g0 g1 g2 g3 b0 b1
  by_cases h0 : c = 0
  · subst h0
    refine wp_region_class (C := Below W.heap.size W) (by kernel_rfl) (by kernel_rfl) hbl ?_
    repeat (go_big_quiet_step (fail))
    refine wpQuiet_nil ?_
    rintro _ ⟨s, rfl⟩
    have hfin := hba.trans (s.ok.mono (by omega))
    clear hne hK a0 hNo hEn
    go_wp2
    go_ret
    exact ⟨by rw [HR.out, if_pos (by simp [mayStandB])]; rfl, hfin⟩
  · have h0' : (c == 0) = false := by simpa using h0
    by_cases hk : x1 = kindI c
    · have hk' : (x1 != kindI c) = false := by simp [hk]
      refine wp_region_class (C := Below W.heap.size W) (by kernel_rfl) (by kernel_rfl) hbl ?_
      repeat (go_big_quiet_step ((go_at_call 56; exact hK _)))
      refine wpQuiet_nil ?_
      rintro _ ⟨s, rfl⟩
      have hb1 := hba.trans (s.ok.mono (by omega))
      have kB1 := (s.ok.block _ hsz).trans kB
      have hs1 : w.heap.size < s.w.heap.size := Nat.lt_of_lt_of_le hsz s.ok.size
      clear hne hK a0 hba kB hsz hbl
      generalize s.w = W1 at *
      have c0 := (one_block kB1).1 0
      have c1 := (one_block kB1).1 1
      have c2 := (one_block kB1).1 2
      have HM := hide (show mayStandB c (x1, x2, x3) = (if x1 = 3 then x2 == 0 else x3.size == 0) by simp [mayStandB, h0, hk])
      have hemp := empty_size x3
      clear hk hk' h0 h0' kB1
      by_cases h3 : x1 = 3
      · subst h3
        by_cases h2 : x2 = 0
        · subst h2
          go_wp2_with fail
          refine (hEn _).mono ?_
          rintro e w2 ⟨rfl, hb2⟩
          have k0 := hb2.cell (p := ⟨w.heap.size, 0, none⟩) hs1
          rw [c0] at k0
          have k2 := hb2.cell (p := ⟨w.heap.size, 2, none⟩) hs1
          rw [c2] at k2
          have hb := hb1.trans (hb2.mono (by omega))
          clear c0 c1 c2 hb2 hb1 hNo hEn
          go_wp2
          go_loop [9] (fun i => ∃ k : Nat, k ≤ x3.size ∧ i = .int .i64 k ∧ Hid (∀ j, (hj : j < x3.size) → j < k → (x3[j].toNat : Int) ≠ 0)) (fun i => x3.size - (intOf i).toNat)
          case atStart => exact ⟨0, Nat.zero_le _, rfl, fun j hj h => by omega⟩
          case round =>
            obtain ⟨k, hkk, rfl, HJ⟩ := hrel
            by_cases hlt : k < x3.size
            · have hki : (k : Int) < (x3.size : Int) := by omega
              have hk0 : (0 : Int) ≤ (k : Int) := by omega
              by_cases hn : (x3[k].toNat : Int) = 0
              · have hn' : ((x3[k].toNat : Int) == 0) = true := by simpa using hn
                go_wp2
                go_ret
                exact ⟨by rw [HR.out, HM.out]; simp [nul_first hlt hn], hb⟩
              · have hn' : ((x3[k].toNat : Int) == 0) = false := by simpa using hn
                go_wp2
                go_round
                case rel => exact ⟨k + 1, by omega, by go_num, fun j hj h => if e : j = k then (by subst e; exact hn) else HJ.out j hj (by omega)⟩
                case measure => simp [intOf]; omega
            · obtain rfl : k = x3.size := by omega
              go_wp2
              go_ret
              exact ⟨by rw [HR.out, HM.out]; simp [nul_not fun j hj => HJ.out j hj hj], hb⟩
        · have h2' : (x2 != 0) = true := by simp [h2]
          go_wp2
          go_ret
          exact ⟨by rw [HR.out, HM.out]; simp [h2], hb1⟩
      · have h3' : (x1 == 3) = false := by simpa using h3
        have h3n : (x1 != 3) = true := by simp [h3]
        by_cases hz : x3.size = 0
        · obtain rfl := size_zero hz
          have hm : mayStandB c (x1, x2, ⟨#[]⟩) = true := by rw [HM.out, if_neg h3]; rfl
          by_cases h1 : x1 = 1
          · subst h1
            cases hnb : noneB x2 b
            · rw [hnb] at hNo
              go_wp2_with (go_at_call 57; refine (hNo _).mono ?_; rintro e w' ⟨rfl, rfl⟩)
              refine (hEn _).mono ?_
              rintro e w2 ⟨rfl, hb2⟩
              have k0 := hb2.cell (p := ⟨w.heap.size, 0, none⟩) hs1
              rw [c0] at k0
              have k2 := hb2.cell (p := ⟨w.heap.size, 2, none⟩) hs1
              rw [c2] at k2
              have hb := hb1.trans (hb2.mono (by omega))
              clear c0 c1 c2 hb2 hb1 hNo hEn
              go_wp2
              go_loop [9] (fun i => i = .int .i64 0) (fun i => 0)
              case atStart => rfl
              case round =>
                subst hrel
                go_wp2
                go_ret
                exact ⟨by rw [HR.out]; simp [hm, hnb, nulS_empty], hb⟩
            · rw [hnb] at hNo
              go_wp2_with (go_at_call 57; refine (hNo _).mono ?_; rintro e w' ⟨rfl, rfl⟩)
              go_ret
              exact ⟨by rw [HR.out]; simp [hm, hnb], hb1⟩
          · have h1' : (x1 == 1) = false := by simpa using h1
            by_cases h4 : x1 = 4
            · subst h4
              cases heb : enumB c x2
              · rw [heb] at hEn
                go_wp2_with fail
                refine (hEn _).mono ?_
                rintro e w2 ⟨rfl, hb2⟩
                have kk := hb2.cell (p := ⟨w.heap.size, 0, none⟩) hs1
                rw [c0] at kk
                have hb := hb1.trans (hb2.mono (by omega))
                clear c0 c1 c2 hb2
                go_wp2
                go_ret
                exact ⟨by rw [HR.out]; simp [hm, heb], hb⟩
              · rw [heb] at hEn
                go_wp2_with fail
                refine (hEn _).mono ?_
                rintro e w2 ⟨rfl, hb2⟩
                have k0 := hb2.cell (p := ⟨w.heap.size, 0, none⟩) hs1
                rw [c0] at k0
                have k2 := hb2.cell (p := ⟨w.heap.size, 2, none⟩) hs1
                rw [c2] at k2
                have hb := hb1.trans (hb2.mono (by omega))
                clear c0 c1 c2 hb2 hb1 hNo hEn
                go_wp2
                go_loop [9] (fun i => i = .int .i64 0) (fun i => 0)
                case atStart => rfl
                case round =>
                  subst hrel
                  go_wp2
                  go_ret
                  exact ⟨by rw [HR.out]; simp [hm, heb, nulS_empty], hb⟩
            · have h4' : (x1 == 4) = false := by simpa using h4
              go_wp2_with fail
              refine (hEn _).mono ?_
              rintro e w2 ⟨rfl, hb2⟩
              have k0 := hb2.cell (p := ⟨w.heap.size, 0, none⟩) hs1
              rw [c0] at k0
              have k2 := hb2.cell (p := ⟨w.heap.size, 2, none⟩) hs1
              rw [c2] at k2
              have hb := hb1.trans (hb2.mono (by omega))
              clear c0 c1 c2 hb2 hb1 hNo hEn
              go_wp2
              go_loop [9] (fun i => i = .int .i64 0) (fun i => 0)
              case atStart => rfl
              case round =>
                subst hrel
                go_wp2
                go_ret
                exact ⟨by rw [HR.out]; simp [hm, h1, h4, nulS_empty], hb⟩
        · have hz' : (x3.size == 0) = false := by simpa using hz
          go_wp2
          go_ret
          exact ⟨by rw [HR.out, HM.out]; simp [h3, hz], hb1⟩
    · have hk' : (x1 != kindI c) = true := by simp [hk]
      refine wp_region_class (C := Below W.heap.size W) (by kernel_rfl) (by kernel_rfl) hbl ?_
      repeat (go_big_quiet_step ((go_at_call 56; exact hK _)))
      refine wpQuiet_nil ?_
      rintro _ ⟨s, rfl⟩
      have hfin := hba.trans (s.ok.mono (by omega))
      clear hne hK a0 hNo hEn
      go_wp2
      go_ret
      exact ⟨by rw [HR.out, if_pos (by simp [mayStandB, hk])]; rfl, hfin⟩

end Go.Proofs.YtjjoggpddafajaaGreat

/-
  What Split of the document's answer returns, for every list of bytes: its error, and its words in new memory; nothing that was there has turned.
-/
namespace Go.Proofs.YtjjoggpddafajaaGreat
open Go.RowKit
set_option maxRecDepth 10000

theorem RefSplit.info : (Tryz.prog.info? 22).map (fun i => (i.zero, i.size, i.bytes)) = some (some (.int .u32 0), 1, 4) := by kernel_rfl

end Go.Proofs.YtjjoggpddafajaaGreat

/-
  What OfText of the document's answer returns, for every string: its error, or its words in new memory; nothing that was there has turned.
-/
namespace Go.Proofs.YtjjoggpddafajaaGreat
open Go.RowKit
set_option maxRecDepth 10000

theorem RefOfText.info : (Tryz.prog.info? 5).map (fun i => (i.zero, i.size, i.bytes)) = some (some (.int .u8 0), 1, 1) := by kernel_rfl

theorem refRoom_any (s : ByteArray) (w : World) (hs : s.size ≤ 140737488351232) :
    Calls Tryz.prog 46 #[.string s] w fun e w' => e = .returned (.int .i64 ((s.size / 4 + 1 : Nat) : Int)) ∧ w = w' := by
  go_enter Tryz.func46, Tryz.ntmps46
  go_wp2
  go_ret
  exact ⟨ret_int (by omega), rfl⟩

end Go.Proofs.YtjjoggpddafajaaGreat

/-
  What Room of the document's answer returns: how many words an instruction has, its first one among them.
-/
namespace Go.Proofs.YtjjoggpddafajaaGreat
open Go.RowKit
set_option linter.unusedVariables false
set_option linter.unusedSimpArgs false
set_option maxRecDepth 10000

theorem words_le (l : List ArgT) (k : Nat) : (wordsL (l.take k)).length ≤ (wordsL l).length := by
  have h : wordsL l = wordsL (l.take k) ++ wordsL (l.drop k) := by
    unfold wordsL; rw [← List.flatMap_append, List.take_append_drop]
  rw [h]; simp

set_option maxHeartbeats 2000000 in
theorem refRoom4_any (x : InstT) (o : Int) (f : Frm) (ax : Option Addr) (n cx : Nat) (w : World) (hv : ArgsV w ax x.2.2.2) (hok : InstOk x) (hl : x.2.2.2.length = n) (hB : (wordsL x.2.2.2).length ≤ 4611686018427387904) :
    Calls Tryz.prog 33 #[instV x ax n cx, formV o f] w fun e w' => e = .returned (.int .i64 ((1 + (rawL f x).length : Nat) : Int)) ∧ Below w.heap.size w w' := by
  obtain ⟨xo, xt, xr, xl⟩ := x
  obtain ⟨nm, t, r, fx, rs, mo, pa⟩ := f
  obtain ⟨_, _, _, _, _, _, hok, hn24⟩ := hok
  simp only at hv hl hB hok hn24
  rw [hl] at hn24
  unfold instV formV
  simp only
  have HLE : Hid (∀ k, (wordsL (xl.take k)).length ≤ (wordsL xl).length) := words_le xl
  have HB : Hid (((wordsL xl).length : Int) ≤ 4611686018427387904) := by show _ ≤ _; omega
  have HL : Hid (xl.length = n) := hl
  have HOK : Hid (ArgsOk xl) := hok
  have HT : Hid (∀ k, k < n → (wordsL (xl.take (k + 1))).length = (wordsL (xl.take k)).length + (if (nthA xl k).1 = 3 then (nthA xl k).2.2.size / 4 + 1 else 1)) := fun k hk => by
    rw [wordsL_take xl k (by omega), List.length_append, wordsA_len]
  have HR : Hid (((1 + (rawL (nm, t, r, fx, rs, mo, pa) (xo, xt, xr, xl)).length : Nat) : Int) = ((1 + (headW (nm, t, r, fx, rs, mo, pa) xt xr).length : Nat) : Int) + ((wordsL (xl.take n)).length : Int)) := by
    show _ = _
    unfold rawL; rw [List.take_of_length_le (by omega)]; simp; omega
  have hbel : Below w.heap.size w ((w.alloc (.cells #[.int .u16 xo, .int .u32 xt, .int .u32 xr, .slice ax n cx] 40)).alloc (.cells #[.int .u16 o, .string nm, .bool t, .bool r, .string fx, .string rs, .int .i64 mo, .int .u8 pa] 75)) := ((Below.refl _ w).alloc (Nat.le_refl _) _).alloc (by simp) _
  have hv1 := hv.below hbel
  have kI : ((w.alloc (.cells #[.int .u16 xo, .int .u32 xt, .int .u32 xr, .slice ax n cx] 40)).alloc (.cells #[.int .u16 o, .string nm, .bool t, .bool r, .string fx, .string rs, .int .i64 mo, .int .u8 pa] 75)).heap[w.heap.size]? = some (.cells #[.int .u16 xo, .int .u32 xt, .int .u32 xr, .slice ax n cx] 40 (0, 0)) := (Below.heap_alloc _ _ _ (by simp)).trans (alloc_new w _ _)
  have kF : ((w.alloc (.cells #[.int .u16 xo, .int .u32 xt, .int .u32 xr, .slice ax n cx] 40)).alloc (.cells #[.int .u16 o, .string nm, .bool t, .bool r, .string fx, .string rs, .int .i64 mo, .int .u8 pa] 75)).heap[w.heap.size + 1]? = some (.cells #[.int .u16 o, .string nm, .bool t, .bool r, .string fx, .string rs, .int .i64 mo, .int .u8 pa] 75 (0, 0)) := by simpa using alloc_new (w.alloc (.cells #[.int .u16 xo, .int .u32 xt, .int .u32 xr, .slice ax n cx] 40)) #[.int .u16 o, .string nm, .bool t, .bool r, .string fx, .string rs, .int .i64 mo, .int .u8 pa] 75
  have c3 := (one_block kI).1 3
  have d2 := (one_block kF).1 2
  have d3 := (one_block kF).1 3
  have HBEL := hide hbel
  have HV := hide hv1
  clear hv hl hB hok hbel kI kF hv1
  obtain ⟨h0, hh0⟩ : ∃ h0 : Int, Hid (h0 = ((1 + (headW (nm, t, r, fx, rs, mo, pa) xt xr).length : Nat) : Int)) := ⟨_, rfl⟩
  have hlo : 0 ≤ h0 := by rw [hh0.out]; omega
  have hhi : h0 ≤ 3 := by rw [hh0.out]; unfold headW; cases t <;> cases r <;> simp
  rcases t with _ | _ <;> rcases r with _ | _ <;> (
    go_enter Tryz.func33, Tryz.ntmps33
    go_wp2
    generalize (w.alloc (.cells #[.int .u16 xo, .int .u32 xt, .int .u32 xr, .slice ax n cx] 40)).alloc (.cells #[.int .u16 o, .string nm, .bool _, .bool _, .string fx, .string rs, .int .i64 mo, .int .u8 pa] 75) = W at *
    go_loop [5, 6] (fun u i => ∃ k : Nat, k ≤ n ∧ i = .int .i64 k ∧ u = .int .i64 (h0 + ((wordsL (xl.take k)).length : Int))) (fun _ i => n - (intOf i).toNat)
    case atStart => exact ⟨0, Nat.zero_le _, rfl, by rw [hh0.out]; simp [headW, wordsL]⟩
    case round =>
      obtain ⟨k, hk, rfl, rfl⟩ := hrel
      by_cases hlt : k < n
      · obtain ⟨b1, o1, rfl, hb1, p1, p2, p3⟩ := HV.out k (by rw [HL.out]; exact hlt)
        have hki : (k : Int) < (n : Int) := by omega
        have hk0 : (0 : Int) ≤ (k : Int) := by omega
        have hT := HT.out k hlt
        have hle := HLE.out (k + 1)
        have hbb := HB.out
        obtain ⟨_, _, _, _, hsz⟩ := HOK.out k (by rw [HL.out]; exact hlt)
        have HS : Hid _ := hT
        clear hT
        generalize nthA xl k = z at *
        obtain ⟨z1, z2, z3⟩ := z
        simp only at *
        by_cases h3 : z1 = 3
        · subst h3
          have hRm := fun wx => refRoom_any z3 wx hsz
          go_wp2_with (go_at_call 46; refine (hRm _).mono ?_; rintro e w' ⟨rfl, rfl⟩)
          go_round
          case rel => exact ⟨k + 1, by omega, by go_num, by have hS := HS.out; simp only [if_true] at hS; refine congrArg (Value.int .i64) ?_; first | omega | (unfold wrap64; omega)⟩
          case measure => simp [intOf]; omega
        · have h3' : (z1 == 3) = false := by simpa using h3
          go_wp2
          go_round
          case rel => exact ⟨k + 1, by omega, by go_num, by have hS := HS.out; rw [if_neg h3] at hS; refine congrArg (Value.int .i64) ?_; first | omega | (unfold wrap64; omega)⟩
          case measure => simp [intOf]; omega
      · obtain rfl : k = n := by omega
        go_wp2
        go_ret
        exact ⟨by have hR := HR.out; have h9 := hh0.out; refine congrArg (fun z => Ending.returned (.int .i64 z)) ?_; omega, HBEL.out⟩)

end Go.Proofs.YtjjoggpddafajaaGreat

/-
  What Fault of the document's answer returns: what is wrong with an instruction.
-/
namespace Go.Proofs.YtjjoggpddafajaaGreat
open Go.RowKit
set_option linter.unusedVariables false
set_option linter.unusedSimpArgs false
set_option maxRecDepth 10000

theorem words_bound {f : Frm} {b : Int} {l : List ArgT} (hf : noText f = true ∧ shortF f = true) (hok : ArgsOk l) (h : ∀ i, i < l.length → wrongA (letterI f (i : Int)) (nthA l i) b = 0) : ∀ k, k ≤ l.length → (wordsL (l.take k)).length ≤ k + min k 1000 * 35184372087809
  | 0, _ => by simp [wordsL]
  | k + 1, hk => by
    have ih := words_bound hf hok h k (by omega)
    rw [wordsL_take l k (by omega), List.length_append, wordsA_len]
    split
    · rename_i h3
      have h1 := (wrongA_kind (h k (by omega))).2
      have h2 := text_fixed hf.1 (k := k) (by rw [← h1]; exact h3)
      have h4 := (hok k (by omega)).2.2.2.2
      have h5 : f.2.2.2.1.size ≤ 1000 := by
        have := hf.2
        simp [shortF] at this
        exact this.1.1.1
      have e1 : min k 1000 = k := by omega
      have e2 : min (k + 1) 1000 = k + 1 := by omega
      rw [e1] at ih; rw [e2, Nat.add_mul]
      omega
    · have : min k 1000 * 35184372087809 ≤ min (k + 1) 1000 * 35184372087809 := Nat.mul_le_mul_right _ (by omega)
      omega
theorem words_few {f : Frm} {b : Int} {l : List ArgT} (hf : noText f = true ∧ shortF f = true) (hok : ArgsOk l) (hl : 24 * l.length ≤ 140737488351232) (h : ∀ i, i < l.length → wrongA (letterI f (i : Int)) (nthA l i) b = 0) : (wordsL l).length ≤ 4611686018427387904 := by
  have := words_bound hf hok h l.length (Nat.le_refl _)
  rw [List.take_of_length_le (Nat.le_refl _)] at this
  have : min l.length 1000 * 35184372087809 ≤ 1000 * 35184372087809 := Nat.mul_le_mul_right _ (by omega)
  omega

theorem refT_sizes4 : refT.all (fun p => decide (p.2.2.2.2.1.size < 100) && decide (p.2.2.2.2.2.1.size < 100)) = true := by decide +kernel
theorem frm_small (n : Int) : (lookF refT n).1.2.2.2.1.size < 100 ∧ (lookF refT n).1.2.2.2.2.1.size < 100 := by
  by_cases h : (lookF refT n).2 = true
  · have := (List.all_eq_true.1 refT_sizes4) _ (lookF_true h)
    simpa using this
  · rw [(lookF_false (by simpa using h)).1]; exact ⟨by decide, by decide⟩

set_option maxHeartbeats 4000000 in
theorem refFault4_any (x : InstT) (b : Int) (ax : Option Addr) (n cx : Nat) (w : World) (hv : ArgsV w ax x.2.2.2) (hok : InstOk x) (hl : x.2.2.2.length = n) (b0 : 0 ≤ b) (b1 : b < 4294967296) :
    Calls Tryz.prog 31 #[instV x ax n cx, .int .u32 b] w fun e w' => e = .returned (.int .i64 (rawE x b)) ∧ Below w.heap.size w w' := by
  have hOf := fun wx => refOf_any x.1 wx
  obtain ⟨R, hR⟩ : ∃ R, R = rawE x b := ⟨_, rfl⟩
  rw [← hR]
  have hX := hok
  obtain ⟨xo, xt, xr, xl⟩ := x
  obtain ⟨q0, q1, q2, q3, q4, q5, q6, q7⟩ := hok
  simp only at q0 q1 q2 q3 q4 q5 q6 q7 hv hl hOf
  unfold instV
  simp only
  have hba : Below w.heap.size w (w.alloc (.cells #[.int .u16 xo, .int .u32 xt, .int .u32 xr, .slice ax n cx] 40)) := (Below.refl _ w).alloc (Nat.le_refl _) _
  have kB : (w.alloc (.cells #[.int .u16 xo, .int .u32 xt, .int .u32 xr, .slice ax n cx] 40)).heap[w.heap.size]? = some (.cells #[.int .u16 xo, .int .u32 xt, .int .u32 xr, .slice ax n cx] 40 (0, 0)) := alloc_new w _ _
  have hsz : w.heap.size < (w.alloc (.cells #[.int .u16 xo, .int .u32 xt, .int .u32 xr, .slice ax n cx] 40)).heap.size := by simp
  have hv0 := hv.below hba
  go_enter Tryz.func31, Tryz.ntmps31
  go_wp2_with fail
  generalize w.alloc (.cells #[.int .u16 xo, .int .u32 xt, .int .u32 xr, .slice ax n cx] 40) = W at *
  refine (hOf _).mono ?_
  rintro e w1 ⟨rfl, hb1⟩
  clear hOf
  by_cases h0 : (lookF refT xo).2 = true
  · have eV : ofV xo = formV xo (lookF refT xo).1 := by unfold ofV; rw [if_pos h0]
    rw [eV, h0]
    unfold rawE at hR
    rw [if_pos h0] at hR
    have hNT := look_noText xo
    have hSm := frm_small xo
    obtain ⟨f, hf⟩ : ∃ f, f = (lookF refT xo).1 := ⟨_, rfl⟩
    have hLt := fun i (wx : World) (h1 : i < 9223372036854775808) => refLetter_any xo i wx h1
    simp only [← hf] at hR hNT hSm hLt ⊢
    have HR := hide hR
    have HNT := hide hNT
    clear hR eV hf h0 hNT
    obtain ⟨nm, t, r, fx, rs, mo, pa⟩ := f
    unfold formV
    simp only
    have hb2 : Below w1.heap.size w1 (w1.alloc (.cells #[.int .u16 xo, .string nm, .bool t, .bool r, .string fx, .string rs, .int .i64 mo, .int .u8 pa] 75)) := (Below.refl _ _).alloc (Nat.le_refl _) _
    have kF : (w1.alloc (.cells #[.int .u16 xo, .string nm, .bool t, .bool r, .string fx, .string rs, .int .i64 mo, .int .u8 pa] 75)).heap[w1.heap.size]? = some (.cells #[.int .u16 xo, .string nm, .bool t, .bool r, .string fx, .string rs, .int .i64 mo, .int .u8 pa] 75 (0, 0)) := alloc_new w1 _ _
    have hb02 := hb1.trans (hb2.mono hb1.size)
    have kI := (hb02.block _ hsz).trans kB
    have hv2 := hv0.below hb02
    have hbel := hba.trans (hb02.mono (by omega))
    have hs1 : w.heap.size < w1.heap.size := Nat.lt_of_lt_of_le hsz hb1.size
    have hs2 : w1.heap.size < (w1.alloc (.cells #[.int .u16 xo, .string nm, .bool t, .bool r, .string fx, .string rs, .int .i64 mo, .int .u8 pa] 75)).heap.size := by simp
    have hI1 := fun wx => refId_any t xt b 40 wx q2 q3 b0 b1
    have hI2 := fun wx => refId_any r xr b 41 wx q4 q5 b0 b1
    have kI1 := (hb1.block _ hsz).trans kB
    have i1 := (one_block kI1).1 1
    have i2 := (one_block kI1).1 2
    have HKF := hide kF
    have HKI := hide kI
    have HV2 := hide hv2
    have HBEL := hide hbel
    have hWh := fun (wx : World) => refWhole_any xo (nm, t, r, fx, rs, mo, pa) (n : Int) wx (by omega) (by omega) hSm.1 hSm.2
    have hRm := fun (wx : World) (hvx : ArgsV wx ax xl) (hB : (wordsL xl).length ≤ 4611686018427387904) => refRoom4_any (xo, xt, xr, xl) xo (nm, t, r, fx, rs, mo, pa) ax n cx wx hvx hX hl hB
    have hWr := fun (k : Nat) (wx : World) (hk : k < xl.length) (c : Int) => refWrong4_any c (nthA xl k) b wx (q6 k hk) b0 b1
    have HFEW := hide (words_few HNT.out q6 q7 (b := b))
    have HL := hide hl
    have HN : Hid (24 * n ≤ 140737488351232) := by show _ ≤ _; omega
    unfold instV formV at hRm
    unfold formV at hWh
    simp only at hRm hWh
    have HRM := hide hRm
    have HWR := hide hWr
    have HWH := hide hWh
    have HLT := hide hLt
    clear hb1 hb2 hb02 hba kB hsz hv0 hv kF kI hv2 hbel kI1 hWh hRm hWr hl hX q0 q1 q2 q3 q4 q5 q6 q7 hSm hLt b0 b1
    have hR1 : idE t xt b 40 ≠ 0 → R = idE t xt b 40 := fun h => by rw [HR.out]; unfold faultI; simp only; rw [if_pos h]
    have hR2 : idE t xt b 40 = 0 → idE r xr b 41 ≠ 0 → R = idE r xr b 41 := fun h1 h => by rw [HR.out]; unfold faultI; simp only; rw [if_neg (by omega), if_pos h]
    have hR3 : idE t xt b 40 = 0 → idE r xr b 41 = 0 → R = (if wrongL (nm, t, r, fx, rs, mo, pa) b 0 xl ≠ 0 then wrongL (nm, t, r, fx, rs, mo, pa) b 0 xl else if wholeN (nm, t, r, fx, rs, mo, pa) xl.length = false then 42 else if 65535 < 1 + (rawL (nm, t, r, fx, rs, mo, pa) (xo, xt, xr, xl)).length then 25 else 0) := fun h1 h2 => by
      rw [HR.out]; unfold faultI; simp only; rw [if_neg (by omega), if_neg (by omega)]
    have HR1 := hide hR1
    have HR2 := hide hR2
    have HR3 := hide hR3
    clear hR1 hR2 hR3
    go_wp2_with fail
    generalize w1.alloc (.cells #[.int .u16 xo, .string nm, .bool t, .bool r, .string fx, .string rs, .int .i64 mo, .int .u8 pa] 75) = W2 at *
    clear i1 i2
    have i2 := (one_block HKI.out).1 2
    have f3 := (one_block HKF.out).1 3
    refine (hI1 _).mono ?_
    rintro e w' ⟨rfl, rfl⟩
    clear hI1
    generalize idE t xt b 40 = e1 at *
    by_cases he1 : e1 = 0
    · subst he1
      go_wp2_with fail
      refine (hI2 _).mono ?_
      rintro e w' ⟨rfl, rfl⟩
      clear hI2
      generalize idE r xr b 41 = e2 at *
      by_cases he2 : e2 = 0
      · subst he2
        have H3 := hide (HR3.out (by trivial) (by trivial))
        clear HR1 HR2 HR3 i2 f3
        go_wp2_with fail
        go_loopw [7, 8] (fun _ i wr => ∃ k : Nat, k ≤ n ∧ i = .int .i64 k ∧ Below W2.heap.size W2 wr ∧ Hid (∀ j, j < k → wrongA (letterI (nm, t, r, fx, rs, mo, pa) (j : Int)) (nthA xl j) b = 0)) (fun _ i _ => n - (intOf i).toNat)
        case atStart => exact ⟨0, Nat.zero_le _, rfl, Below.refl _ _, fun j hj => by omega⟩
        case round =>
          obtain ⟨k, hk, rfl, hbr, HJ⟩ := hrel
          have kIr := (hbr.block _ (by omega)).trans HKI.out
          have kFr := (hbr.block _ hs2).trans HKF.out
          have hvr := HV2.out.below hbr
          have hsr : w.heap.size < wr.heap.size := by have := hbr.size; omega
          have hsf : w1.heap.size < wr.heap.size := by have := hbr.size; omega
          have i3 := (one_block kIr).1 3
          by_cases hlt : k < n
          · have hkl : k < xl.length := by rw [HL.out]; exact hlt
            obtain ⟨g1, o1, rfl, hg1, p1, p2, p3⟩ := hvr k hkl
            have hki : (k : Int) < (n : Int) := by omega
            have hk0 : (0 : Int) ≤ (k : Int) := by omega
            have hkb : (k : Int) < 140737488351232 := by have := HN.out; omega
            have a0 := fun s : InC (Below wr.heap.size wr) => s.cell (p := ⟨w.heap.size, 0, none⟩) hsr ((one_block kIr).1 0)
            have a3 := fun s : InC (Below wr.heap.size wr) => s.cell (p := ⟨w.heap.size, 3, none⟩) hsr ((one_block kIr).1 3)
            have b1 := fun s : InC (Below wr.heap.size wr) => s.cell (p := ⟨g1, o1 + k * 3, none⟩) hg1 p1
            have b2 := fun s : InC (Below wr.heap.size wr) => s.cell (p := ⟨g1, o1 + k * 3 + 1, none⟩) hg1 p2
            have b3 := fun s : InC (Below wr.heap.size wr) => s.cell (p := ⟨g1, o1 + k * 3 + 2, none⟩) hg1 p3
            have hne : Nonempty (InC (Below wr.heap.size wr)) := ⟨⟨wr, Below.refl _ _⟩⟩
            have hbl := below_drew wr
            have hK := fun s : InC (Below wr.heap.size wr) => Calls.inC s (HLT.out (k : Int) s.w (by have := HN.out; omega))
            have hW := fun (c : Int) (s : InC (Below wr.heap.size wr)) => Calls.inC s (HWR.out k s.w hkl c)
            unfold argV at hW
            have HW1 := hide (wrongL_first (f := (nm, t, r, fx, rs, mo, pa)) (b := b) (l := xl) (k := 0) (j := k) hkl (fun i hi => by rw [Nat.zero_add]; exact HJ.out i hi))
            have HH : Hid (wrongA (letterI (nm, t, r, fx, rs, mo, pa) (k : Int)) (nthA xl k) b ≠ 0 → R = wrongA (letterI (nm, t, r, fx, rs, mo, pa) (k : Int)) (nthA xl k) b) := fun h => by
              have e := HW1.out (by rw [Nat.zero_add]; exact h)
              rw [Nat.zero_add] at e
              rw [H3.out, e, if_pos h]
            obtain ⟨E, hE⟩ : ∃ E, E = wrongA (letterI (nm, t, r, fx, rs, mo, pa) (k : Int)) (nthA xl k) b := ⟨_, rfl⟩
            have hW' := hW (letterI (nm, t, r, fx, rs, mo, pa) (k : Int))
            rw [← hE] at hW' HH
            have HE : Hid (E = 0 → wrongA (letterI (nm, t, r, fx, rs, mo, pa) (k : Int)) (nthA xl k) b = 0) := fun h => by rw [← hE]; exact h
            clear hW hE HW1 H3 HWR HWH HRM HLT HFEW kFr kIr hvr p1 p2 p3 HV2 HKI HKF
            generalize letterI (nm, t, r, fx, rs, mo, pa) (k : Int) = c at hK hW'
            generalize nthA xl k = z at b1 b2 b3 hW'
            obtain ⟨z1, z2, z3⟩ := z
            simp only at b1 b2 b3 hW'
            go_wp2_with fail
            refine wp_region_class (C := Below wr.heap.size wr) (by kernel_rfl) (by kernel_rfl) hbl ?_
            repeat (go_big_quiet_step ((first | (go_at_call 43; exact hK _) | (go_at_call 42; exact hW' _))))
            refine wpQuiet_nil ?_
            rintro _ ⟨s, rfl⟩
            have hbs := hbr.trans (s.ok.mono hbr.size)
            have hfin := HBEL.out.trans (hbs.mono HBEL.out.size)
            clear hne hK hW' a0 a3 b1 b2 b3 hbr
            generalize s.w = W3 at *
            by_cases hE0 : E = 0
            · subst hE0
              go_wp2_with fail
              go_roundw
              case rel => exact ⟨k + 1, by omega, by have := HN.out; go_num, hbs, fun j hj => if e : j = k then (by subst e; exact HE.out rfl) else HJ.out j (by omega)⟩
              case measure => have := HN.out; simp [intOf]; omega
            · have hE' : (E != 0) = true := by simp [hE0]
              have e9 := HH.out hE0
              go_wp2_with fail
              go_ret
              exact ⟨by rw [e9]; rfl, hfin⟩
          · obtain rfl : k = n := by omega
            have hWL : wrongL (nm, t, r, fx, rs, mo, pa) b 0 xl = 0 := wrongL_none fun i hi => by rw [Nat.zero_add]; exact HJ.out i (by rw [← HL.out]; exact hi)
            have hfew := HFEW.out (fun i hi => HJ.out i (by rw [← HL.out]; exact hi))
            have H4 := H3.out
            rw [if_neg (by omega), HL.out] at H4
            have HFW := hide hfew
            have H5 := hide H4
            have hfr := HBEL.out.trans (hbr.mono HBEL.out.size)
            obtain ⟨d0, d1, d2, d3, d4, d5, d6, d7, df⟩ := frm_cells (n := xo) (f := (nm, t, r, fx, rs, mo, pa)) kFr
            simp only at d0 d1 d2 d3 d4 d5 d6 d7
            have hWh := HWH.out
            have HVR := hide hvr
            have HKF2 := hide kFr
            have HKI2 := hide kIr
            clear hWL hfew H4 H3 HLT HWR HFEW hvr hbr kFr kIr HV2 HKI HKF HJ df HWH
            go_wp2_with fail
            refine (hWh _).mono ?_
            rintro e w4 ⟨rfl, hb4⟩
            have kI4 := (hb4.block _ hsr).trans HKI2.out
            have kF4 := (hb4.block _ hsf).trans HKF2.out
            have hv4 := HVR.out.below hb4
            have hf4 := hfr.trans (hb4.mono hfr.size)
            clear hWh HKF2 HKI2 HVR hfr hb4 d0 d1 d2 d3 d4 d5 d6 d7 i3
            cases hwh : wholeN (nm, t, r, fx, rs, mo, pa) (k : Int)
            · have e9 := H5.out
              rw [hwh, if_pos rfl] at e9
              go_wp2_with fail
              go_ret
              exact ⟨by rw [e9]; rfl, hf4⟩
            · have e9 := H5.out
              rw [hwh, if_neg (by simp)] at e9
              have hRm := HRM.out w4 hv4 HFW.out
              obtain ⟨d0, d1, d2, d3, d4, d5, d6, d7, df⟩ := frm_cells (n := xo) (f := (nm, t, r, fx, rs, mo, pa)) kF4
              simp only at d0 d1 d2 d3 d4 d5 d6 d7
              have i0 := (one_block kI4).1 0
              have i1 := (one_block kI4).1 1
              have i2 := (one_block kI4).1 2
              have i3 := (one_block kI4).1 3
              have H9 := hide e9
              generalize hln : (rawL (nm, t, r, fx, rs, mo, pa) (xo, xt, xr, xl)).length = ln at *
              clear hln e9 kF4 kI4 hv4 HRM HFW H5 df
              go_wp2_with fail
              refine hRm.mono ?_
              rintro e w5 ⟨rfl, hb5⟩
              have hf5 := hf4.trans (hb5.mono hf4.size)
              clear hRm hb5 hf4 d0 d1 d2 d3 d4 d5 d6 d7 i0 i1 i2 i3
              by_cases hgt : 65535 < 1 + ln
              · have e9 := H9.out
                rw [if_pos hgt] at e9
                have hd : decide ((65535 : Int) < 1 + (ln : Int)) = true := decide_eq_true (by omega)
                clear hgt
                go_wp2_with fail
                go_ret
                exact ⟨by rw [e9]; rfl, hf5⟩
              · have e9 := H9.out
                rw [if_neg hgt] at e9
                have hd : decide ((65535 : Int) < 1 + (ln : Int)) = false := decide_eq_false (by omega)
                clear hgt
                go_wp2_with fail
                go_ret
                exact ⟨by rw [e9]; rfl, hf5⟩
      · have he2' : (e2 != 0) = true := by simp [he2]
        have e9 := HR2.out (by trivial) he2
        clear HR1 HR2 HR3
        go_wp2_with fail
        go_ret
        exact ⟨by rw [e9]; rfl, HBEL.out⟩
    · have he1' : (e1 != 0) = true := by simp [he1]
      have e9 := HR1.out he1
      clear HR1 HR2 HR3
      go_wp2_with fail
      go_ret
      exact ⟨by rw [e9]; rfl, HBEL.out⟩
  · have h0' : (lookF refT xo).2 = false := by simpa using h0
    have eV : ofV xo = formV 0 noFrm := by unfold ofV; rw [if_neg h0]
    rw [eV, h0']
    unfold rawE at hR
    rw [if_neg h0] at hR
    subst hR
    have hbel := hba.trans (hb1.mono (by omega))
    unfold formV noFrm
    simp only
    clear hb1 hba kB hv0 hv
    go_wp2_with fail
    go_ret
    exact ⟨rfl, hbel.alloc hbel.size _⟩

end Go.Proofs.YtjjoggpddafajaaGreat
