/-
  Texts laid together in one: Ref03Letter, Ref03All, Ref03Named, MathA, MathR, MathT, Raws, Ref02Fault, Ref02Size, MathN, MathC.
-/
import Derived.WalkSpells
import Derived.WalkMore
import Derived.Deep.QuietTactic
import Derived.BigQuiet
import Derived.Test.YtmobologlaeefaaGreatB05
import Derived.Laws.AppendOwn
import Derived.Deep.AppendLies
import Derived.Test.YtmobologlaeefaaGreatB08
import Derived.Test.YtmobologlaeefaaGreatB03
import Derived.Test.YtmobologlaeefaaGreatB06
import Derived.Test.YtmobologlaeefaaGreatB01
import Derived.Test.YtmobologlaeefaaGreatProg
/-
  What Letter of the document's answer returns, for every operation and number.
-/
namespace Go.Proofs.YtmobologlaeefaaGreat
open Go.RowKit
set_option maxRecDepth 10000
set_option linter.unusedVariables false
set_option linter.unusedSimpArgs false

theorem ofV_look (n : Int) : ∃ m, ofV n = formV m (lookF refT n).1 := by
  unfold ofV
  cases h : (lookF refT n).2
  · rw [(lookF_false h).1]; exact ⟨0, rfl⟩
  · exact ⟨n, rfl⟩

theorem letterI_none (i : Int) : letterI noFrm i = 0 := by
  unfold letterI
  split
  · rfl
  · split
    · rename_i h1 h2
      have : (noFrm.2.2.2.1.size : Int) = 0 := rfl
      omega
    · have : mayB noFrm (i - noFrm.2.2.2.1.size) = false := rfl
      rw [this]; rfl

set_option maxRecDepth 10000 in
set_option maxHeartbeats 2000000 in
theorem refLetter_any (n i : Int) (w : World) (h1 : i < 9223372036854775808) :
    Calls Tryz.prog 37 #[.int .u16 n, .int .i64 i] w fun e w' => e = .returned (.int .u8 (letterI (lookF refT n).1 i)) ∧ Below w.heap.size w w' := by
  have hR := fun w => refOf_any n w
  obtain ⟨m, hm⟩ := ofV_look n
  rw [hm] at hR
  clear hm
  have hs := look_short n
  have HN : Hid ((lookF refT n).2 = false → (lookF refT n).1 = noFrm) := fun h => by rw [(lookF_false h).1]
  generalize (lookF refT n).1 = f at *
  generalize (lookF refT n).2 = is at *
  have HL : Hid (∃ x, x = letterI f i) := ⟨_, rfl⟩
  have hs2 := hs
  simp only [shortF, Bool.and_eq_true, decide_eq_true_eq] at hs
  obtain ⟨⟨⟨s1, s2⟩, s3⟩, s4⟩ := hs
  obtain ⟨nm, t, r, fx, rs, mo, pa⟩ := f
  simp only at s1 s2 s3 s4
  clear hs2 HL
  cases is
  · have HE : Hid (letterI (nm, t, r, fx, rs, mo, pa) i = 0) := by show _ = _; rw [HN.out rfl]; exact letterI_none i
    clear HN
    unfold formV at hR
    go_enter Tryz.func37, Tryz.ntmps37
    go_wp2_with fail
    refine (hR _).mono ?_
    rintro e w1 ⟨rfl, hb⟩
    clear hR
    go_wp2
    go_ret
    exact ⟨by rw [HE.out]; rfl, hb.alloc hb.size _⟩
  · clear HN
    by_cases hi : i < 0
    · have HE : Hid (letterI (nm, t, r, fx, rs, mo, pa) i = 0) := by show _ = _; unfold letterI; rw [if_pos hi]
      unfold formV at hR
      go_enter Tryz.func37, Tryz.ntmps37
      go_wp2_with fail
      refine (hR _).mono ?_
      rintro e w1 ⟨rfl, hb⟩
      clear hR
      go_wp2
      go_ret
      exact ⟨by rw [HE.out]; rfl, hb.alloc hb.size _⟩
    · have hid : decide (i < 0) = false := by simpa using hi
      obtain ⟨k, rfl⟩ := Int.eq_ofNat_of_zero_le (show 0 ≤ i by omega)
      by_cases hx : (k : Int) < fx.size
      · have HE : Hid (letterI (nm, t, r, fx, rs, mo, pa) k = sgn fx k) := by show _ = _; unfold letterI; rw [if_neg hi, if_pos hx, Int.toNat_natCast]
        have hk : k < fx.size := by omega
        have hsg := sgn_at fx k hk
        unfold formV at hR
        go_enter Tryz.func37, Tryz.ntmps37
        go_wp2_with fail
        refine (hR _).mono ?_
        rintro e w1 ⟨rfl, hb⟩
        clear hR
        go_wp2
        go_ret
        exact ⟨by rw [HE.out]; rfl, hb.alloc hb.size _⟩
      · by_cases hr : rs.size = 0
        · have HE : Hid (letterI (nm, t, r, fx, rs, mo, pa) k = 0) := by show _ = _; unfold letterI; rw [if_neg hi, if_neg hx]; simp [mayB, hr]
          have hrz : (((rs.size : Nat) : Int) == 0) = true := by simp [hr]
          have hxd : ¬ k < fx.size := by omega
          clear hr hx hi h1 s3 s4 s1 s2
          unfold formV at hR
          go_enter Tryz.func37, Tryz.ntmps37
          go_wp2_with fail
          refine (hR _).mono ?_
          rintro e w1 ⟨rfl, hb⟩
          clear hR
          go_wp2
          go_ret
          exact ⟨by rw [HE.out]; rfl, hb.alloc hb.size _⟩
        · have hrz : (((rs.size : Nat) : Int) == 0) = false := by simp [hr]
          have hr0 : (0 : Int) < (rs.size : Int) := by omega
          have hz : ¬ (rs.size : Int) = 0 := by omega
          obtain ⟨b, hb⟩ : ∃ b : Nat, (k : Int) - (fx.size : Int) = b := ⟨k - fx.size, by omega⟩
          have hw1 : IntKind.i64.wrap ((k : Int) - (fx.size : Int)) = b := by rw [hb]; exact wrapI _ (by omega) (by omega)
          have hbl : (b : Int) < 9223372036854775808 := by omega
          have ht : Int.tdiv (b : Int) (rs.size : Int) = (b : Int) / (rs.size : Int) := Int.tdiv_eq_ediv_of_nonneg (by omega)
          have hq0 : 0 ≤ (b : Int) / (rs.size : Int) := Int.ediv_nonneg (by omega) (by omega)
          have hq1 : (b : Int) / (rs.size : Int) ≤ b := Int.ediv_le_self _ (by omega)
          have hw : IntKind.i64.wrap ((b : Int) / (rs.size : Int)) = (b : Int) / (rs.size : Int) := wrapI _ (by omega) (by omega)
          have HM : Hid (mayB (nm, t, r, fx, rs, mo, pa) b = if mo = 0 then true else decide ((b : Int) / (rs.size : Int) < mo)) := by show _ = _; simp [mayB, hr]
          have tm : Int.tmod (b : Int) (rs.size : Int) = (b : Int) % (rs.size : Int) := Int.tmod_eq_emod_of_nonneg (by omega)
          have m0 : 0 ≤ (b : Int) % (rs.size : Int) := Int.emod_nonneg _ hz
          have m1 : (b : Int) % (rs.size : Int) < (rs.size : Int) := Int.emod_lt_of_pos _ hr0
          have hw2 : IntKind.i64.wrap ((b : Int) % (rs.size : Int)) = (b : Int) % (rs.size : Int) := wrapI _ (by omega) (by omega)
          have HE : Hid (letterI (nm, t, r, fx, rs, mo, pa) k = if mayB (nm, t, r, fx, rs, mo, pa) b then sgn rs ((b : Int) % (rs.size : Int)).toNat else 0) := by show _ = _; unfold letterI; rw [if_neg hi, if_neg hx]; simp only [hb]
          by_cases hc : mo > 0 ∧ (b : Int) / (rs.size : Int) ≥ mo
          · have HF : Hid (letterI (nm, t, r, fx, rs, mo, pa) k = 0) := by show _ = _; rw [HE.out, HM.out, if_neg (show ¬ mo = 0 by omega), decide_eq_false (by omega)]; rfl
            clear HE HM tm m0 m1 hw2 hb
            have hxd : ¬ k < fx.size := by omega
            obtain ⟨hc1, hc2⟩ := hc
            clear hx hi hr h1 hbl s1 s2 hq1
            have g1 : decide (mo > 0) = true := by simpa using hc1
            have g2 : decide (mo ≤ (b : Int) / (rs.size : Int)) = true := by simpa using hc2
            unfold formV at hR
            go_enter Tryz.func37, Tryz.ntmps37
            go_wp2_with fail
            refine (hR _).mono ?_
            rintro e w1 ⟨rfl, hb⟩
            clear hR
            go_wp2
            go_quiet (fail)
            go_wp2
            go_ret
            exact ⟨by rw [HF.out]; rfl, bel_drewN (hb.alloc hb.size _) _⟩
          · have hmb : mayB (nm, t, r, fx, rs, mo, pa) b = true := by
              rw [HM.out]
              split
              · rfl
              · exact decide_eq_true (by omega)
            obtain ⟨j, hj⟩ := Int.eq_ofNat_of_zero_le m0
            have HF : Hid (letterI (nm, t, r, fx, rs, mo, pa) k = sgn rs j) := by show _ = _; rw [HE.out, hmb, if_pos rfl, hj]; rfl
            rw [hj] at tm hw2
            have hjl : j < rs.size := by omega
            have hsg := sgn_at rs j hjl
            have hxd : ¬ k < fx.size := by omega
            clear HE HM hmb hb hj m0 m1
            by_cases g1 : mo > 0
            · have g2 : decide (mo ≤ (b : Int) / (rs.size : Int)) = false := decide_eq_false (by omega)
              have g1' : decide (mo > 0) = true := decide_eq_true g1
              clear hx hi hr h1 hbl s1 s2 hq1 hc g1
              unfold formV at hR
              go_enter Tryz.func37, Tryz.ntmps37
              go_wp2_with fail
              refine (hR _).mono ?_
              rintro e w1 ⟨rfl, hb⟩
              clear hR
              go_wp2
              go_quiet (fail)
              go_wp2
              go_quiet (fail)
              go_wp2
              go_ret
              exact ⟨by rw [HF.out]; rfl, bel_drewN (bel_drewN (hb.alloc hb.size _) _) _⟩
            · have g1' : decide (mo > 0) = false := decide_eq_false g1
              clear hx hi hr h1 hbl s1 s2 hq1 hc g1 s3 s4
              unfold formV at hR
              go_enter Tryz.func37, Tryz.ntmps37
              go_wp2_with fail
              refine (hR _).mono ?_
              rintro e w1 ⟨rfl, hb⟩
              clear hR
              go_wp2
              go_quiet (fail)
              go_wp2
              go_quiet (fail)
              go_wp2
              go_ret
              exact ⟨by rw [HF.out]; rfl, bel_drewN (bel_drewN (hb.alloc hb.size _) _) _⟩

end Go.Proofs.YtmobologlaeefaaGreat

/-
  What All of the document's answer returns: a list of its own with all forms, rising by their operations.
-/
namespace Go.Proofs.YtmobologlaeefaaGreat
open Go.RowKit
set_option maxRecDepth 10000
set_option linter.unusedVariables false
set_option linter.unusedSimpArgs false

/-- The cells of an operation's form. -/
def opCells (k : Nat) : List Value := (frmCells k (lookF refT k).1).toList

theorem ops_len (k : Nat) : (opsTo k).length ≤ k := by
  induction k with
  | zero => exact Nat.le_refl _
  | succ k ih =>
    rw [opsTo]
    split
    · omega
    · rw [List.length_append, List.length_singleton]; omega

theorem is_text (k : Nat) : (lookF refT k).2 = true ↔ ¬ (ftxt k).size = 0 := by
  obtain ⟨_, _, _, h4, h5⟩ := ftxt_ok k
  constructor
  · exact h4
  · intro h
    cases e : (lookF refT k).2
    · rw [h5 e] at h; exact absurd rfl h
    · rfl

theorem formInfo : ∃ i0, Tryz.prog.info? 64 = some i0 ∧ i0.zero = some (formV 0 noFrm) ∧ i0.size = 8 ∧ i0.bytes = 80 ∧ (formV 0 noFrm).cells.size = 8 := ⟨_, rfl, rfl, rfl, rfl, rfl⟩

set_option maxRecDepth 10000 in
set_option maxHeartbeats 2000000 in
theorem refAll_any (w : World) : Calls Tryz.prog 92 #[] w fun e w' => ∃ v, e = .returned v ∧ w'.ownsRow w.heap.size 64 8 v opsL.length (opsL.flatMap opCells) ∧ Below w.heap.size w w' := by
  obtain ⟨i0, hi, hz0, hz1, hz2, hz3⟩ := formInfo
  have HI : Hid (Tryz.prog.info? 64 = some i0 ∧ i0.zero = some (formV 0 noFrm) ∧ i0.size = 8 ∧ i0.bytes = 80 ∧ (formV 0 noFrm).cells.size = 8) := ⟨hi, hz0, hz1, hz2, hz3⟩
  clear hi hz0 hz1 hz2 hz3
  go_enter Tryz.func92, Tryz.ntmps92
  go_wp2
  go_loopw [1, 2] (fun v i wr => ∃ k : Nat, k ≤ 256 ∧ i = .int .i64 k ∧ wr.ownsRow w.heap.size 64 8 v (opsTo k).length ((opsTo k).flatMap opCells) ∧ Below w.heap.size w wr) (fun _ i _ => 256 - (intOf i).toNat)
  case atStart => exact ⟨0, by omega, rfl, World.ownsRow_nil _ _ _ _, Below.refl _ _⟩
  case round =>
    obtain ⟨k, hk, rfl, hown, hb⟩ := hrel
    by_cases hlt : k < 256
    · have hlt' : (k : Int) < 256 := by omega
      have hR := fun w => refOf_any k w
      obtain ⟨m, hm⟩ := ofV_look k
      cases his : (lookF refT k).2
      · rw [hm, his] at hR
        have HN : Hid (opsTo (k + 1) = opsTo k) := by
          show _ = _
          rw [opsTo, if_pos]
          have := mt (is_text k).2
          rw [his] at this
          simpa using this
        generalize (lookF refT k).1 = f at *
        clear hm his
        unfold formV at hR
        have hbs := hb.size
        go_wp2_with fail
        refine (hR _).mono ?_
        rintro e w1 ⟨rfl, hb1⟩
        clear hR
        have HB : Hid (Below w.heap.size w (w1.alloc (.cells #[.int .u16 m, .string f.1, .bool f.2.1, .bool f.2.2.1, .string f.2.2.2.1, .string f.2.2.2.2.1, .int .i64 f.2.2.2.2.2.1, .int .u8 f.2.2.2.2.2.2] 64))) := (hb.trans (hb1.mono hbs)).alloc (by have := hb1.size; omega) _
        have HO : Hid ((w1.alloc (.cells #[.int .u16 m, .string f.1, .bool f.2.1, .bool f.2.2.1, .string f.2.2.2.1, .string f.2.2.2.2.1, .int .i64 f.2.2.2.2.2.1, .int .u8 f.2.2.2.2.2.2] 64)).ownsRow w.heap.size 64 8 u1 (opsTo k).length ((opsTo k).flatMap opCells)) := (own_below hown hb1).alloc _
        clear hb hb1 hown hbs
        go_wp2
        go_roundw
        case rel => exact ⟨k + 1, by omega, by go_num, by rw [HN.out]; exact HO.out, HB.out⟩
        case measure => simp [intOf]; omega
      · rw [show ofV k = formV k (lookF refT k).1 by unfold ofV; rw [his]; rfl, his] at hR
        have HN : Hid (opsTo (k + 1) = opsTo k ++ [k]) := by
          show _ = _
          rw [opsTo, if_neg ((is_text k).1 his)]
        have HC : Hid ([(.int .u16 k : Value), .string (lookF refT k).1.1, .bool (lookF refT k).1.2.1, .bool (lookF refT k).1.2.2.1, .string (lookF refT k).1.2.2.2.1, .string (lookF refT k).1.2.2.2.2.1, .int .i64 (lookF refT k).1.2.2.2.2.2.1, .int .u8 (lookF refT k).1.2.2.2.2.2.2] = opCells k) := rfl
        have hol := ops_len k
        generalize (lookF refT k).1 = f at *
        clear hm his
        unfold formV at hR
        have hbs := hb.size
        go_wp2_with fail
        refine (hR _).mono ?_
        rintro e w1 ⟨rfl, hb1⟩
        clear hR
        have s1 := hb1.size
        have hb2 : Below w.heap.size w (w1.alloc (.cells #[.int .u16 k, .string f.1, .bool f.2.1, .bool f.2.2.1, .string f.2.2.2.1, .string f.2.2.2.2.1, .int .i64 f.2.2.2.2.2.1, .int .u8 f.2.2.2.2.2.2] 64)) := (hb.trans (hb1.mono hbs)).alloc (by omega) _
        have HO : Hid ((w1.alloc (.cells #[.int .u16 k, .string f.1, .bool f.2.1, .bool f.2.2.1, .string f.2.2.2.1, .string f.2.2.2.2.1, .int .i64 f.2.2.2.2.2.1, .int .u8 f.2.2.2.2.2.2] 64)).ownsRow w.heap.size 64 8 u1 (opsTo k).length ((opsTo k).flatMap opCells)) := (own_below hown hb1).alloc _
        have HB : Hid (Below w.heap.size w (w1.alloc (.cells #[.int .u16 k, .string f.1, .bool f.2.1, .bool f.2.2.1, .string f.2.2.2.1, .string f.2.2.2.2.1, .int .i64 f.2.2.2.2.2.1, .int .u8 f.2.2.2.2.2.2] 64))) := hb2
        clear hb hb1 hown hb2
        go_wp2_with (at_builtin; refine wpList_append_own _ rfl (.tmp 16) (.tmp 18) 165 rfl w.heap.size 64 i0 (formV 0 noFrm) 8 80 Tryz.underlying165 HI.out.1 HI.out.2.1 HI.out.2.2.1 HI.out.2.2.2.1 HI.out.2.2.2.2 (by omega) u1 (opsTo k).length ((opsTo k).flatMap opCells) rfl (HO.out.alloc _) ⟨w1.heap.size + 1, 0, none⟩ 1 1 [.int .u16 k, .string f.1, .bool f.2.1, .bool f.2.2.1, .string f.2.2.2.1, .string f.2.2.2.2.1, .int .i64 f.2.2.2.2.2.1, .int .u8 f.2.2.2.2.2.2] rfl rfl (World.news_of_block (cs := #[.int .u16 k, .string f.1, .bool f.2.1, .bool f.2.2.1, .string f.2.2.2.1, .string f.2.2.2.2.1, .int .i64 f.2.2.2.2.2.1, .int .u8 f.2.2.2.2.2.2]) (t := 64) (fr := (0, 0)) (allocNew _ _ (by simp))) (by simp [Value.oneCell']) (by unfold maxLen; omega) (by omega) (by simp; omega) ?_)
        intro v' w' hown' hgr _
        have HO2 : Hid (w'.ownsRow w.heap.size 64 8 v' (opsTo (k + 1)).length ((opsTo (k + 1)).flatMap opCells)) := by
          show World.ownsRow _ _ _ _ _ _ _
          rw [HN.out, List.length_append, List.length_singleton, List.flatMap_append, List.flatMap_singleton, ← HC.out]
          exact hown'
        have HB2 : Hid (Below w.heap.size w w') := (HB.out.alloc (by simp; omega) _).grown hgr (by simp; omega) (fun j hj => (HO.out.lt j hj).1)
        clear hown' hgr HO HB
        go_wp2
        go_roundw
        case rel => exact ⟨k + 1, by omega, by go_num, HO2.out, HB2.out⟩
        case measure => simp [intOf]; omega
    · obtain rfl : k = 256 := by omega
      have HO : Hid (wr.ownsRow w.heap.size 64 8 u1 opsL.length (opsL.flatMap opCells)) := hown
      clear hown
      go_wp2
      go_ret
      exact ⟨u1, rfl, HO.out, hb⟩

end Go.Proofs.YtmobologlaeefaaGreat

/-
  What Named of the document's answer returns, for every name; the list of forms, as it can be read.
-/
namespace Go.Proofs.YtmobologlaeefaaGreat
open Go.RowKit
set_option maxRecDepth 10000
set_option linter.unusedVariables false
set_option linter.unusedSimpArgs false

theorem flat8 : ∀ (l : List Nat) (k j : Nat), k < l.length → j < 8 → (l.flatMap opCells)[k * 8 + j]? = (opCells (l.getD k 0))[j]?
  | [], k, j, h, _ => by simp at h
  | x :: l, 0, j, h, hj => by
    rw [List.flatMap_cons, List.getElem?_append_left (by simp [opCells, frmCells]; omega)]; simp
  | x :: l, k + 1, j, h, hj => by
    rw [List.flatMap_cons, List.getElem?_append_right (by simp [opCells, frmCells]; omega)]
    have e : (k + 1) * 8 + j - (opCells x).length = k * 8 + j := by simp [opCells, frmCells]; omega
    rw [e, flat8 l k j (by simpa using h) hj]
    simp

/-- The operation at a place of the list, and its form. -/
def opN (i : Nat) : Nat := opsL.getD i 0
def opF (k : Nat) : Frm := (lookF refT k).1

/-- The list of forms, as it can be read. -/
def FormsV (W : World) (v : Value) : Prop := ∃ g cap, v = .slice (some ⟨g, 0, none⟩) 93 cap ∧ g < W.heap.size ∧ ∀ i, i < 93 → (W.cell? ⟨g, i * 8, none⟩ = some (.int .u16 (opN i)) ∧ W.cell? ⟨g, i * 8 + 1, none⟩ = some (.string (opF (opN i)).1) ∧ W.cell? ⟨g, i * 8 + 2, none⟩ = some (.bool (opF (opN i)).2.1) ∧ W.cell? ⟨g, i * 8 + 3, none⟩ = some (.bool (opF (opN i)).2.2.1) ∧
  W.cell? ⟨g, i * 8 + 4, none⟩ = some (.string (opF (opN i)).2.2.2.1) ∧ W.cell? ⟨g, i * 8 + 5, none⟩ = some (.string (opF (opN i)).2.2.2.2.1) ∧ W.cell? ⟨g, i * 8 + 6, none⟩ = some (.int .i64 (opF (opN i)).2.2.2.2.2.1) ∧ W.cell? ⟨g, i * 8 + 7, none⟩ = some (.int .u8 (opF (opN i)).2.2.2.2.2.2))

theorem ops93 : opsL.length = 93 := by decide +kernel

theorem cells_at (n : Int) (f : Frm) : (frmCells n f).toList[0]? = some (.int .u16 n) ∧ (frmCells n f).toList[1]? = some (.string f.1) ∧ (frmCells n f).toList[2]? = some (.bool f.2.1) ∧ (frmCells n f).toList[3]? = some (.bool f.2.2.1) ∧ (frmCells n f).toList[4]? = some (.string f.2.2.2.1) ∧ (frmCells n f).toList[5]? = some (.string f.2.2.2.2.1) ∧ (frmCells n f).toList[6]? = some (.int .i64 f.2.2.2.2.2.1) ∧ (frmCells n f).toList[7]? = some (.int .u8 f.2.2.2.2.2.2) :=
  ⟨rfl, rfl, rfl, rfl, rfl, rfl, rfl, rfl⟩

theorem formsV_of {W : World} {B : Nat} {v : Value} (h : W.ownsRow B 64 8 v opsL.length (opsL.flatMap opCells)) : FormsV W v := by
  have hc := fun g hg => h.cells (g := g) hg
  rcases h.2 with ⟨_, h0⟩ | ⟨g, cap, cur, rfl, _, hgg, _, _, _, _⟩
  · exact absurd (ops93.symm.trans h0) (by decide)
  · refine ⟨g, cap, congrArg (fun n => Value.slice (some ⟨g, 0, none⟩) n cap) ops93, (Array.getElem?_eq_some_iff.1 hgg).1, fun i hi => ?_⟩
    have hi' : i < opsL.length := Nat.lt_of_lt_of_eq hi ops93.symm
    have q : ∀ j, j < 8 → ∀ u, (opCells (opN i))[j]? = some u → W.cell? ⟨g, i * 8 + j, none⟩ = some u := fun j hj u hu => by
      have := hc g rfl (i * 8 + j) u (by rw [flat8 _ _ _ hi' hj]; exact hu)
      rw [Addr.add_lit, Nat.zero_add] at this
      exact this
    obtain ⟨e0, e1, e2, e3, e4, e5, e6, e7⟩ := cells_at (opN i) (opF (opN i))
    exact ⟨q 0 (by omega) _ e0, q 1 (by omega) _ e1, q 2 (by omega) _ e2, q 3 (by omega) _ e3, q 4 (by omega) _ e4, q 5 (by omega) _ e5, q 6 (by omega) _ e6, q 7 (by omega) _ e7⟩

theorem FormsV.below {W W' : World} {v : Value} (h : FormsV W v) (hb : Below W.heap.size W W') : FormsV W' v := by
  obtain ⟨g, cap, e, hg, hc⟩ := h
  refine ⟨g, cap, e, Nat.lt_of_lt_of_le hg hb.size, fun i hi => ?_⟩
  have q : ∀ o, W'.cell? ⟨g, o, none⟩ = W.cell? ⟨g, o, none⟩ := fun o => hb.cell (p := ⟨g, o, none⟩) hg
  simp only [q]
  exact hc i hi

/-- A form of a name. -/
def namP (s : ByteArray) (k : Nat) : Bool := (opF k).1.toList == s.toList
def namedB (s : ByteArray) : Bool := (opsL.find? (namP s)).isSome
def namedV (s : ByteArray) : Value := match opsL.find? (namP s) with | some k => formV k (opF k) | none => formV 0 noFrm

theorem findN_at {p : Nat → Bool} : ∀ (l : List Nat) (k : Nat), k < l.length → (∀ j, j < k → p (l.getD j 0) = false) → p (l.getD k 0) = true → l.find? p = some (l.getD k 0)
  | [], k, h, _, _ => by simp at h
  | x :: l, 0, _, _, h => by
    have h' : p x = true := by simpa using h
    simp [List.find?_cons, h']
  | x :: l, k + 1, hk, h0, h => by
    have h' : p x = false := by simpa using h0 0 (by omega)
    rw [List.find?_cons, h']
    have := findN_at l k (by simpa using hk) (fun j hj => by simpa using h0 (j + 1) (by omega)) (by simpa using h)
    simpa using this
theorem findN_not {p : Nat → Bool} : ∀ (l : List Nat), (∀ j, j < l.length → p (l.getD j 0) = false) → l.find? p = none
  | [], _ => rfl
  | x :: l, h0 => by
    have h' : p x = false := by simpa using h0 0 (by simp)
    rw [List.find?_cons, h']
    exact findN_not l (fun j hj => by simpa using h0 (j + 1) (by simpa using hj))

set_option maxRecDepth 10000 in
set_option maxHeartbeats 2000000 in
theorem refNamed_any (s : ByteArray) (w : World) : Calls Tryz.prog 50 #[.string s] w fun e w' => e = .returned (.tuple #[namedV s, .bool (namedB s)]) ∧ Below w.heap.size w w' := by
  go_enter Tryz.func50, Tryz.ntmps50
  go_wp2_with fail
  refine (refAll_any _).mono ?_
  rintro e w1 ⟨v, rfl, hown, hb⟩
  have hB := (hb.block w.heap.size (by simp)).trans (alloc_new w _ _)
  have HBW : Hid (Below w.heap.size w w1) := ((Below.refl _ w).alloc (Nat.le_refl _) _).trans (hb.mono (by simp))
  have HB : Hid (w1.heap[w.heap.size]? = some (.cells (frmCells 0 noFrm) 64 (0, 0))) := hB
  obtain ⟨g, cap, rfl, hg, hc⟩ := formsV_of hown
  have HC : Hid (∀ i, i < 93 → _) := fun i (hi : i < 93) => hc i hi
  clear hc hown hb hB
  go_wp2
  go_loop [3, 5] (fun b i => b = .bool false ∧ ∃ k : Nat, k ≤ 93 ∧ i = .int .i64 k ∧ ∀ j, j < k → namP s (opN j) = false) (fun _ i => 93 - (intOf i).toNat)
  case atStart => exact ⟨rfl, 0, by omega, rfl, fun j hj => by omega⟩
  case round =>
    obtain ⟨rfl, k, hk, rfl, hno⟩ := hrel
    have HO : Hid (∀ j, j < k → namP s (opN j) = false) := hno
    clear hno
    by_cases hlt : k < 93
    · obtain ⟨c0, c1, c2, c3, c4, c5, c6, c7⟩ := HC.out k hlt
      have HP : Hid (namP s (opN k) = ((opF (opN k)).1.toList == s.toList)) := rfl
      have HF : Hid (namP s (opN k) = true → opsL.find? (namP s) = some (opN k)) := fun h => findN_at opsL k (Nat.lt_of_lt_of_eq hlt ops93.symm) HO.out h
      have HS : Hid (namP s (opN k) = false → ∀ j, j < k + 1 → namP s (opN j) = false) := fun h j hj => by
        by_cases e : j = k
        · subst e; exact h
        · exact HO.out j (by omega)
      generalize hx : opN k = x at *
      have HV : Hid (opsL.find? (namP s) = some x → namedV s = formV x (opF x) ∧ namedB s = true) := fun h => by unfold namedV namedB; rw [h]; exact ⟨rfl, rfl⟩
      generalize hf : opF x = f at *
      obtain ⟨nm, t, r, fx, rs, mo, pa⟩ := f
      simp only at c0 c1 c2 c3 c4 c5 c6 c7
      have hk0 : (0 : Int) ≤ (k : Int) := by omega
      have hki : (k : Int) < (93 : Int) := by omega
      cases hit : (nm.toList == s.toList)
      · have HE : Hid (∀ j, j < k + 1 → namP s (opN j) = false) := HS.out (by rw [HP.out]; exact hit)
        clear HF HS HO HV HP c0 c2 c3 c4 c5 c6 c7 hx hf
        go_wp2
        go_round
        case rel => exact ⟨rfl, k + 1, by omega, by go_num, HE.out⟩
        case measure => simp [intOf]; omega
      · obtain ⟨e1, e2⟩ := HV.out (HF.out (by rw [HP.out]; exact hit))
        have HE : Hid (namedV s = formV x (nm, t, r, fx, rs, mo, pa) ∧ namedB s = true) := ⟨e1, e2⟩
        obtain ⟨d0, d1, d2, d3, d4, d5, d6, d7, df⟩ := frm_cells (n := 0) (f := noFrm) HB.out
        unfold noFrm at d1 d2 d3 d4 d5 d6 d7
        clear HF HS HO HV HP e1 e2 hx hf
        go_wp2
        have hx := eight_set HB.out (.int .u16 x) (.string nm) (.bool t) (.bool r) (.string fx) (.string rs) (.int .i64 mo) (.int .u8 pa)
        have hy := eight_below w1 w.heap.size (.int .u16 x) (.string nm) (.bool t) (.bool r) (.string fx) (.string rs) (.int .i64 mo) (.int .u8 pa)
        obtain ⟨x0, x1, x2, x3, x4, x5, x6, x7, xf⟩ := frm_cells (n := x) (f := (nm, t, r, fx, rs, mo, pa)) hx
        clear hx d0 d1 d2 d3 d4 d5 d6 d7 df xf c0 c1 c2 c3 c4 c5 c6 c7
        generalize ((((((((w1.setCell ⟨w.heap.size, 0, none⟩ (.int .u16 x)).setCell ⟨w.heap.size, 1, none⟩ (.string nm)).setCell ⟨w.heap.size, 2, none⟩ (.bool t)).setCell ⟨w.heap.size, 3, none⟩ (.bool r)).setCell ⟨w.heap.size, 4, none⟩ (.string fx)).setCell ⟨w.heap.size, 5, none⟩ (.string rs)).setCell ⟨w.heap.size, 6, none⟩ (.int .i64 mo)).setCell ⟨w.heap.size, 7, none⟩ (.int .u8 pa)) = Z at *
        try rw [Exit.noGoto_ret]
        exact bodyPost_ret (v := .tuple #[formV x (nm, t, r, fx, rs, mo, pa), .bool true]) (by simp [results, Tryz.results50, go_sem, formV, x0, x1, x2, x3, x4, x5, x6, x7]) rfl ⟨by rw [HE.out.1, HE.out.2], HBW.out.trans hy⟩
    · obtain rfl : k = 93 := by omega
      have hn : opsL.find? (namP s) = none := findN_not opsL (fun j hj => HO.out j (Nat.lt_of_lt_of_eq hj ops93))
      have HE : Hid (namedV s = formV 0 noFrm ∧ namedB s = false) := by show _ ∧ _; unfold namedV namedB; rw [hn]; exact ⟨rfl, rfl⟩
      obtain ⟨d0, d1, d2, d3, d4, d5, d6, d7, df⟩ := frm_cells (n := 0) (f := noFrm) HB.out
      unfold noFrm at d1 d2 d3 d4 d5 d6 d7
      clear hn HO
      go_wp2
      have hx := eight_set HB.out (.int .u16 0) (.string ⟨#[]⟩) (.bool false) (.bool false) (.string ⟨#[]⟩) (.string ⟨#[]⟩) (.int .i64 0) (.int .u8 0)
      have hy := eight_below w1 w.heap.size (.int .u16 0) (.string ⟨#[]⟩) (.bool false) (.bool false) (.string ⟨#[]⟩) (.string ⟨#[]⟩) (.int .i64 0) (.int .u8 0)
      obtain ⟨x0, x1, x2, x3, x4, x5, x6, x7, xf⟩ := frm_cells (n := 0) (f := noFrm) hx
      unfold noFrm at x1 x2 x3 x4 x5 x6 x7
      clear hx d0 d1 d2 d3 d4 d5 d6 d7 df xf
      generalize ((((((((w1.setCell ⟨w.heap.size, 0, none⟩ (.int .u16 0)).setCell ⟨w.heap.size, 1, none⟩ (.string ⟨#[]⟩)).setCell ⟨w.heap.size, 2, none⟩ (.bool false)).setCell ⟨w.heap.size, 3, none⟩ (.bool false)).setCell ⟨w.heap.size, 4, none⟩ (.string ⟨#[]⟩)).setCell ⟨w.heap.size, 5, none⟩ (.string ⟨#[]⟩)).setCell ⟨w.heap.size, 6, none⟩ (.int .i64 0)).setCell ⟨w.heap.size, 7, none⟩ (.int .u8 0)) = Z at *
      exact bodyPost_ret (v := .tuple #[formV 0 noFrm, .bool false]) (by simp [results, Tryz.results50, go_sem, formV, noFrm, x0, x1, x2, x3, x4, x5, x6, x7]) rfl ⟨by rw [HE.out.1, HE.out.2], HBW.out.trans hy⟩

end Go.Proofs.YtmobologlaeefaaGreat

/-
  What a line's tokens say, as plain functions: a head, an argument, an instruction.
-/
namespace Go.Proofs.YtmobologlaeefaaGreat
open Go.RowKit
set_option linter.unusedVariables false
set_option linter.unusedSimpArgs false

/-- The kind of token that a letter asks for; 0: none may stand. -/
def takeK (c : Int) : Int := if kindI c = 1 then 2 else if kindI c = 2 then 3 else if kindI c = 3 then 4 else if kindI c = 4 then 1 else 0

/-- What is wrong with digits as an id. -/
def idP (s : ByteArray) (b : Int) : Int := if numB (strI s) = false then 62 else if numV (strI s) = 0 ∨ b ≤ numV (strI s) then 43 else 0

/-- What is wrong with a text as an argument of a letter. -/
def txtE (c : Int) (s : ByteArray) (b : Int) : Int :=
  if kindI c = 1 then idP s b else if kindI c = 2 then numErr (strI s) else if kindI c = 3 then (if nulS s then 13 else 0)
  else if kindI c = 4 then (if enumNB c s then 0 else 71) else 70
/-- The argument that it says. -/
def txtA (c : Int) (s : ByteArray) (b : Int) : ArgT :=
  if txtE c s b ≠ 0 then noArg
  else if kindI c = 1 then (1, numV (strI s), ⟨#[]⟩) else if kindI c = 2 then (2, numV (strI s), ⟨#[]⟩) else if kindI c = 3 then (3, 0, s)
  else (4, enumN c s, ⟨#[]⟩)
/-- The same of a token. -/
def argE (c : Int) (t : TokT) (b : Int) : Int := if takeK c = 0 ∨ t.1 ≠ takeK c then 70 else txtE c t.2.1 b
def argA (c : Int) (t : TokT) (b : Int) : ArgT := if argE c t b ≠ 0 then noArg else txtA c t.2.1 b

/-- The arguments of so many tokens, from a place on. -/
def argsN (f : Frm) (b : Int) (l : List TokT) (at_ n : Nat) : List ArgT := (List.range n).map fun (k : Nat) => argA (letterI f k) (nthT l (at_ + k)) b
/-- The first token that is wrong as an argument. -/
def badArg (f : Frm) (b : Int) (l : List TokT) (at_ : Nat) : Option Nat := (List.range (l.length - at_)).find? fun (k : Nat) => decide (argE (letterI f k) (nthT l (at_ + k)) b ≠ 0)

/-- An instruction, whether there is one, what is wrong, where. -/
abbrev LineR := InstT × Bool × Int × Int
def noLine (e p : Int) : LineR := (noInst, false, e, p)
/-- From the arguments on. -/
def lineA (o : Int) (f : Frm) (t r : Int) (l : List TokT) (at_ : Nat) (len b : Int) : LineR :=
  match badArg f b l at_ with
  | some k => noLine (argE (letterI f k) (nthT l (at_ + k)) b) (nthT l (at_ + k)).2.2
  | none =>
    if wholeN f ((l.length - at_ : Nat) : Int) = false then noLine 72 len
    else if 65535 < 1 + (rawL f (o, t, r, argsN f b l at_ (l.length - at_))).length then noLine 25 0
    else ((o, t, r, argsN f b l at_ (l.length - at_)), true, 0, 0)
/-- From the type on. -/
def lineT (o : Int) (f : Frm) (r : Int) (l : List TokT) (at_ : Nat) (len b : Int) : LineR :=
  if f.2.1 = false then lineA o f 0 r l at_ len b
  else if l.length ≤ at_ then noLine 72 len
  else if argE 105 (nthT l at_) b ≠ 0 then noLine (argE 105 (nthT l at_) b) (nthT l at_).2.2
  else lineA o f (argA 105 (nthT l at_) b).2.1 r l (at_ + 1) len b
/-- From the operation on. -/
def lineO (said : Bool) (l : List TokT) (at_ : Nat) (len b : Int) : LineR :=
  if l.length ≤ at_ then noLine 72 len
  else if (nthT l at_).1 ≠ 1 then noLine 70 (nthT l at_).2.2
  else match opsL.find? (namP (nthT l at_).2.1) with
    | none => noLine 71 (nthT l at_).2.2
    | some o => if (opF o).2.2.1 ≠ said then noLine 41 (nthT l 0).2.2
      else if said = true ∧ idP (nthT l 0).2.1 b ≠ 0 then noLine (idP (nthT l 0).2.1 b) (nthT l 0).2.2
      else lineT o (opF o) (if said then numV (strI (nthT l 0).2.1) else 0) l (at_ + 1) len b
/-- What a line's tokens say; there is one at least. -/
def lineP (l : List TokT) (len b : Int) : LineR :=
  if (nthT l 0).1 ≠ 2 then lineO false l 0 len b
  else if l.length < 2 then noLine 72 len
  else if (nthT l 1).1 ≠ 5 then noLine 70 (nthT l 1).2.2
  else lineO true l 2 len b
/-- What a line says. -/
def lineS (s : ByteArray) (b : Int) : LineR :=
  if (toksP (strI s) 0).2.1 ≠ 0 ∨ (toksP (strI s) 0).1 = [] then noLine (toksP (strI s) 0).2.1 (toksP (strI s) 0).2.2 else lineP (toksP (strI s) 0).1 s.size b

end Go.Proofs.YtmobologlaeefaaGreat

/-
  Plain facts: a text's words, with whatever words behind them, are read as the text.
-/
namespace Go.Proofs.YtmobologlaeefaaGreat
open Go.RowKit

theorem joinL_append (xs ys : List Int) : joinL (xs ++ ys) = joinL xs ++ joinL ys := by simp [joinL]
theorem joinL_textW (s : ByteArray) : joinL (textW s) = padI s := join_split (padI s) (by rw [padI_len]; omega) (padI_within s)
theorem joinL_text_lo (s : ByteArray) (ys : List Int) (i : Nat) (h : i < 4 * (s.size / 4 + 1)) : nth (joinL (textW s ++ ys)) i = nth (padI s) i := by
  rw [joinL_append, joinL_textW, getD_left _ _ _ (by rw [padI_len]; exact h)]
theorem text_take (s : ByteArray) (ys : List Int) : (joinL (textW s ++ ys)).take s.size = strI s := by
  rw [joinL_append, joinL_textW, List.take_append_of_le_length (by rw [padI_len]; omega), padI, filled]
  have e : (strI s).take s.size = strI s := List.take_of_length_le (by rw [strI_len]; omega)
  rw [e, List.take_append_of_le_length (by rw [strI_len]; omega), e]
theorem textW_within (s : ByteArray) : Within 4294967296 (textW s) := splitL_within (padI s) (padI_within s)
theorem within_append {m : Int} {xs ys : List Int} (hx : Within m xs) (hy : Within m ys) : Within m (xs ++ ys) := by
  intro z hz
  rcases List.mem_append.1 hz with h | h
  · exact hx z h
  · exact hy z h
/-- Behind the text's end its word holds nothing. -/
theorem text_rest (s : ByteArray) (ys : List Int) : nth (textW s ++ ys) (s.size / 4) / 256 ^ (s.size % 4) = 0 := by
  have hL : s.size / 4 < (textW s).length := by rw [textW_len]; omega
  have hw := (textW_within s).at hL
  rw [getD_left _ _ _ hL]
  rw [rest_zero _ _ (by omega) hw.1 hw.2]
  intro q hq1 hq2
  have := joinL_getD (textW s) (4 * (s.size / 4) + q) (by rw [textW_len]; omega)
  rw [joinL_textW, show (4 * (s.size / 4) + q) / 4 = s.size / 4 by omega, show (4 * (s.size / 4) + q) % 4 = q by omega] at this
  rw [← this, padI_hi s _ (by omega)]

/-- Is there a byte 0 among the first k? -/
def nulB (s : ByteArray) (k : Nat) : Bool := (List.range k).any fun i => nth (strI s) i == 0
theorem nulB_succ (s : ByteArray) (k : Nat) (h : k < s.size) : nulB s (k + 1) = (nulB s k || ((s[k].toNat : Int) == 0)) := by
  rw [← nth_strI s k h]
  simp [nulB, List.range_succ]
theorem nulB_none (s : ByteArray) (h : NoNul s) : nulB s s.size = false := by
  rw [nulB, List.any_eq_false]
  intro k hk
  have := h k (List.mem_range.1 hk)
  simpa using this
theorem nulB_some (s : ByteArray) (k : Nat) (hk : k < s.size) (h : nth (strI s) k = 0) : nulB s s.size = true := by
  rw [nulB, List.any_eq_true]
  exact ⟨k, List.mem_range.2 hk, by simpa using h⟩

end Go.Proofs.YtmobologlaeefaaGreat

/-
  The text at the front of words, as a function of the words.
-/
namespace Go.Proofs.YtmobologlaeefaaGreat
open Go.RowKit

/-- The place of the first zero; the length where there is none. -/
def zeroAt (js : List Int) : Nat := js.findIdx (· == 0)

theorem nth_lt (js : List Int) (k : Nat) (h : k < js.length) : nth js k = js[k] := by simp [nth, List.getD, h]

theorem zeroAt_before (js : List Int) (i : Nat) (h : i < zeroAt js) (hi : i < js.length) : nth js i ≠ 0 := by
  rw [nth_lt _ _ hi]
  have := List.not_of_lt_findIdx (p := (· == 0)) (xs := js) h
  simpa using this

theorem zeroAt_at (js : List Int) (h : zeroAt js < js.length) : nth js (zeroAt js) = 0 := by
  rw [nth_lt _ _ h]
  have := List.findIdx_getElem (p := (· == 0)) (xs := js) (w := h)
  exact eq_of_beq this

/-- Is a byte behind the zero, in its word, not zero? -/
def padBad (js : List Int) : Bool := ((js.drop (zeroAt js + 1)).take (3 - zeroAt js % 4)).any (· != 0)

/-- The text at the front of words, how many words it takes, and its error. -/
def textI (zs : List Int) : ByteArray × Int × Int :=
  if (joinL zs).length ≤ zeroAt (joinL zs) then (⟨#[]⟩, 0, 11)
  else if padBad (joinL zs) then (⟨#[]⟩, 0, 12)
  else (strOfNums ((joinL zs).take (zeroAt (joinL zs))), ((zeroAt (joinL zs) / 4 : Nat) : Int) + 1, 0)

theorem padBad_iff {js : List Int} {L P : Nat} (hz : zeroAt js = 4 * L + P) (hP : P < 4) (hl : 4 * L + 4 ≤ js.length) : padBad js = true ↔ ∃ q, P < q ∧ q < 4 ∧ nth js (4 * L + q) ≠ 0 := by
  unfold padBad
  rw [List.any_eq_true, hz, show (4 * L + P) % 4 = P by omega]
  constructor
  · rintro ⟨x, hx, hne⟩
    obtain ⟨k, hk, rfl⟩ := List.mem_iff_getElem.1 hx
    rw [List.length_take, List.length_drop] at hk
    rw [List.getElem_take, List.getElem_drop] at hne
    refine ⟨P + 1 + k, by omega, by omega, ?_⟩
    rw [nth_lt _ _ (by omega)]
    have e : 4 * L + (P + 1 + k) = 4 * L + P + 1 + k := by omega
    simp only [e]
    simpa using hne
  · rintro ⟨q, h1, h2, h3⟩
    refine ⟨nth js (4 * L + q), ?_, by simpa using h3⟩
    rw [nth_lt _ _ (by omega)]
    refine List.mem_iff_getElem.2 ⟨q - P - 1, ?_, ?_⟩
    · rw [List.length_take, List.length_drop]; omega
    · rw [List.getElem_take, List.getElem_drop]
      congr 1; omega

theorem textI_some {zs : List Int} (h : (textI zs).2.2 = 0) : zeroAt (joinL zs) < (joinL zs).length ∧ padBad (joinL zs) = false ∧ textI zs = (strOfNums ((joinL zs).take (zeroAt (joinL zs))), ((zeroAt (joinL zs) / 4 : Nat) : Int) + 1, 0) := by
  unfold textI at h ⊢
  by_cases h1 : (joinL zs).length ≤ zeroAt (joinL zs)
  · rw [if_pos h1] at h; cases h
  · rw [if_neg h1] at h ⊢
    by_cases h2 : padBad (joinL zs) = true
    · rw [if_pos h2] at h; cases h
    · rw [if_neg h2]
      exact ⟨by omega, by simpa using h2, rfl⟩
theorem textI_range (zs : List Int) : 0 ≤ (textI zs).2.1 ∧ (textI zs).2.1 ≤ zs.length ∧ ((textI zs).2.2 = 0 → 1 ≤ (textI zs).2.1) ∧ ((textI zs).2.2 ≠ 0 → (textI zs).1 = ⟨#[]⟩ ∧ (textI zs).2.1 = 0) ∧ (textI zs).1.size ≤ 4 * zs.length := by
  have hl := joinL_len zs
  by_cases h : (textI zs).2.2 = 0
  · obtain ⟨h1, h2, h3⟩ := textI_some h
    rw [h3]
    refine ⟨by simp; omega, by simp; omega, fun _ => by simp; omega, fun h => absurd rfl h, ?_⟩
    simp only
    rw [strOfNums_size, List.length_take]; omega
  · have : textI zs = (⟨#[]⟩, 0, 11) ∨ textI zs = (⟨#[]⟩, 0, 12) := by
      unfold textI at h ⊢
      by_cases h1 : (joinL zs).length ≤ zeroAt (joinL zs)
      · rw [if_pos h1]; exact .inl rfl
      · rw [if_neg h1] at h ⊢
        by_cases h2 : padBad (joinL zs) = true
        · rw [if_pos h2]; exact .inr rfl
        · rw [if_neg h2] at h; exact absurd rfl h
    rcases this with e | e <;> (rw [e]; exact ⟨by simp, by simp, fun h => by simp at h, fun _ => ⟨rfl, rfl⟩, by simp [ByteArray.size]⟩)

end Go.Proofs.YtmobologlaeefaaGreat

/-
  Lists of instructions in memory: an operation and a list of words each.
-/
namespace Go.Proofs.YtmobologlaeefaaGreat
open Go.RowKit

/-- The instruction at a place of a list. -/
def nthR (rs : List (Int × List Int)) (j : Nat) : Int × List Int := rs.getD j (0, [])

/-- What can be read of a slice of instructions. -/
def RawsV (w : World) (a : Option Addr) (rs : List (Int × List Int)) : Prop :=
  ∀ j, j < rs.length → ∃ b off aj cj nj, a = some ⟨b, off, none⟩ ∧ b < w.heap.size ∧ w.cell? ⟨b, off + j * 2, none⟩ = some (.int .u16 (nthR rs j).1) ∧ w.cell? ⟨b, off + j * 2 + 1, none⟩ = some (.slice aj nj cj) ∧ (nthR rs j).2.length = nj ∧ View .u32 w aj (nthR rs j).2 ∧ nj ≤ cj

/-- Each operation, each word and each length lies within its bounds. -/
def RawsOk (rs : List (Int × List Int)) : Prop := ∀ j, j < rs.length → 0 ≤ (nthR rs j).1 ∧ (nthR rs j).1 < 65536 ∧ Within 4294967296 (nthR rs j).2 ∧ 4 * (nthR rs j).2.length ≤ 140737488351232

theorem RawsV.below {w w' : World} {a : Option Addr} {rs : List (Int × List Int)} (h : RawsV w a rs) (hb : Below w.heap.size w w') : RawsV w' a rs := by
  intro j hj
  obtain ⟨b, off, aj, cj, nj, e, hlt, h1, h2, h3, h4, h5⟩ := h j hj
  exact ⟨b, off, aj, cj, nj, e, Nat.lt_of_lt_of_le hlt hb.size, (hb.cell (p := ⟨b, off + j * 2, none⟩) hlt).trans h1, (hb.cell (p := ⟨b, off + j * 2 + 1, none⟩) hlt).trans h2, h3, h4.below hb, h5⟩

theorem rawsV_nil {w : World} {a : Option Addr} : RawsV w a [] := fun j hj => by simp at hj

theorem RawsV.drew {w : World} {a : Option Addr} {rs : List (Int × List Int)} (h : RawsV w a rs) (q : Nat) : RawsV (w.drewN q) a rs := h.below (bel_drewN (Below.refl _ _) q)
theorem View.drew {k : IntKind} {w : World} {a : Option Addr} {zs : List Int} (h : View k w a zs) (q : Nat) : View k (w.drewN q) a zs := h.below (bel_drewN (Below.refl _ _) q)

end Go.Proofs.YtmobologlaeefaaGreat

/-
  What Fault and Size of the document's answer return: the first instruction that is too long, or with which there are too many words; and how many words there are.
-/
namespace Go.Proofs.YtmobologlaeefaaGreat
open Go.RowKit
set_option maxRecDepth 10000

/-- How many words the head and the first k instructions have. -/
def sizeTo (rs : List (Int × List Int)) (k : Nat) : Nat := (rs.take k).foldl (fun s r => s + 1 + r.2.length) 5
/-- The first instruction that may not be, and why. -/
def faultF (rs : List (Int × List Int)) : Nat → Nat → Int × Nat
  | 0, _ => (0, 0)
  | f + 1, k => if k < rs.length then (if 65535 ≤ (nthR rs k).2.length then (25, k) else if 1048576 < sizeTo rs (k + 1) then (4, k) else faultF rs f (k + 1)) else (0, 0)
def fault (rs : List (Int × List Int)) (k : Nat) : Int × Nat := faultF rs (rs.length - k) k

theorem sizeTo_zero (rs : List (Int × List Int)) : sizeTo rs 0 = 5 := rfl
theorem sizeTo_succ (rs : List (Int × List Int)) (k : Nat) (h : k < rs.length) : sizeTo rs (k + 1) = sizeTo rs k + 1 + (nthR rs k).2.length := by
  have e : rs.take (k + 1) = rs.take k ++ [nthR rs k] := by
    rw [List.take_succ_eq_append_getElem h]; simp [nthR, List.getD, h]
  rw [sizeTo, e, List.foldl_append]; rfl
theorem fault_end (rs : List (Int × List Int)) (k : Nat) (h : rs.length ≤ k) : fault rs k = (0, 0) := by
  rw [fault, show rs.length - k = 0 by omega]; rfl
theorem fault_step (rs : List (Int × List Int)) (k : Nat) (h : k < rs.length) : fault rs k = if 65535 ≤ (nthR rs k).2.length then (25, k) else if 1048576 < sizeTo rs (k + 1) then (4, k) else fault rs (k + 1) := by
  rw [fault, show rs.length - k = (rs.length - (k + 1)) + 1 by omega, faultF, if_pos h]; rfl

theorem ret_agg2 {k : IntKind} {a b c d : Int} (h : a = b) (h2 : c = d) : (Value.agg #[.int k a, .int k c]) = .agg #[.int k b, .int k d] := by rw [h, h2]

end Go.Proofs.YtmobologlaeefaaGreat

/-
  What Size of the document's answer returns: how many words there are, or the error.
-/
namespace Go.Proofs.YtmobologlaeefaaGreat
open Go.RowKit
set_option maxRecDepth 10000

/-- How many words there are; 0 beside an error. -/
def sizeOut (rs : List (Int × List Int)) : Int := if (fault rs 0).1 = 0 then (sizeTo rs rs.length : Int) else 0

/-- Without a fault all is small. -/
theorem fault_none (rs : List (Int × List Int)) (h : (fault rs 0).1 = 0) : ∀ k, k ≤ rs.length → sizeTo rs k ≤ 1048576 ∧ ∀ j, j < k → (nthR rs j).2.length < 65535 := by
  have key : ∀ k, k ≤ rs.length → fault rs 0 = fault rs k ∧ sizeTo rs k ≤ 1048576 ∧ ∀ j, j < k → (nthR rs j).2.length < 65535 := by
    intro k
    induction k with
    | zero => intro _; exact ⟨rfl, by rw [sizeTo_zero]; omega, fun j hj => by omega⟩
    | succ k ih =>
      intro hk
      obtain ⟨h1, h2, h3⟩ := ih (by omega)
      have hs := fault_step rs k (by omega)
      by_cases c1 : 65535 ≤ (nthR rs k).2.length
      · rw [if_pos c1] at hs; rw [h1, hs] at h; simp at h
      · rw [if_neg c1] at hs
        by_cases c2 : 1048576 < sizeTo rs (k + 1)
        · rw [if_pos c2] at hs; rw [h1, hs] at h; simp at h
        · rw [if_neg c2] at hs
          refine ⟨h1.trans hs, by omega, fun j hj => ?_⟩
          by_cases e : j = k
          · subst e; omega
          · exact h3 j (by omega)
  exact fun k hk => (key k hk).2

end Go.Proofs.YtmobologlaeefaaGreat

/-
  The instruction that words say, as a function of the words.
-/
namespace Go.Proofs.YtmobologlaeefaaGreat
open Go.RowKit
set_option linter.unusedVariables false
set_option linter.unusedSimpArgs false

/-- The argument at the front of words, how many these are, and its error. -/
def argI (c : Int) (zs : List Int) (b : Int) : ArgT × Int × Int :=
  if c = 0 ∨ zs.length = 0 then (noArg, 0, 42)
  else if kindI c = 3 then ((3, 0, (textI zs).1), (textI zs).2.1, (textI zs).2.2)
  else if kindI c = 1 ∧ noneB (nth zs 0) b = true then (noArg, 0, 43)
  else if kindI c = 4 ∧ enumB c (nth zs 0) = false then (noArg, 0, 31)
  else ((kindI c, nth zs 0, ⟨#[]⟩), 1, 0)

/-- The arguments that words say, behind those that there are; the error. -/
def argsI (f : Frm) (b : Int) : Nat → List Int → List ArgT → List ArgT × Int
  | 0, _, _ => ([], 42)
  | k + 1, zs, acc =>
    if zs.length = 0 then (if wholeN f acc.length = true then (acc, 0) else ([], 42))
    else if (argI (letterI f acc.length) zs b).2.2 ≠ 0 then ([], (argI (letterI f acc.length) zs b).2.2)
    else argsI f b k (zs.drop (argI (letterI f acc.length) zs b).2.1.toNat) (acc ++ [(argI (letterI f acc.length) zs b).1])

/-- The result's id. -/
def headRes (re : Bool) (zs : List Int) (b : Int) (p : Nat) : Int × Int := if re then (if zs.length ≤ p then (0, 41) else (nth zs p, if noneB (nth zs p) b then 43 else 0)) else (0, 0)
/-- The type's id. -/
def headTy (ty : Bool) (zs : List Int) (b : Int) : Int × Int := if ty then (if zs.length ≤ 0 then (0, 40) else (nth zs 0, if noneB (nth zs 0) b then 43 else 0)) else (0, 0)

/-- The instruction that words say, its form being f; the error. -/
def instF (f : Frm) (op : Int) (zs : List Int) (b : Int) : InstT × Int :=
  if (headTy f.2.1 zs b).2 ≠ 0 then (noInst, (headTy f.2.1 zs b).2)
  else if (headRes f.2.2.1 zs b f.2.1.toNat).2 ≠ 0 then (noInst, (headRes f.2.2.1 zs b f.2.1.toNat).2)
  else if (argsI f b (zs.length + 1) (zs.drop (f.2.1.toNat + f.2.2.1.toNat)) []).2 ≠ 0 then (noInst, (argsI f b (zs.length + 1) (zs.drop (f.2.1.toNat + f.2.2.1.toNat)) []).2)
  else ((op, (headTy f.2.1 zs b).1, (headRes f.2.2.1 zs b f.2.1.toNat).1, (argsI f b (zs.length + 1) (zs.drop (f.2.1.toNat + f.2.2.1.toNat)) []).1), 0)
/-- What Inst answers. -/
def instI (op : Int) (zs : List Int) (b : Int) : InstT × Int :=
  if 65535 ≤ zs.length then (noInst, 25) else if (lookF refT op).2 = false then (noInst, 30) else instF (lookF refT op).1 op zs b

theorem kindI_range (c : Int) : kindI c = 0 ∨ kindI c = 1 ∨ kindI c = 2 ∨ kindI c = 3 ∨ kindI c = 4 := by
  unfold kindI
  split
  · exact .inr (.inl rfl)
  · split
    · exact .inr (.inr (.inl rfl))
    · split
      · exact .inr (.inr (.inr (.inl rfl)))
      · split
        · exact .inr (.inr (.inr (.inr rfl)))
        · exact .inl rfl

/-- Each letter of a form has a kind. -/
def goodL (s : ByteArray) : Bool := s.data.toList.all fun x => kindI (x.toNat : Int) != 0
theorem refT_goodL : refT.all (fun p => goodL p.2.2.2.2.1 && goodL p.2.2.2.2.2.1) = true := by decide +kernel
theorem sgn_good {s : ByteArray} (h : goodL s = true) {k : Nat} (hk : k < s.size) : kindI (sgn s k) ≠ 0 := by
  have hl : k < s.data.toList.length := by rw [size_list]; exact hk
  have h1 := (List.all_eq_true.1 h) (s.data.toList[k]) (List.getElem_mem hl)
  unfold sgn
  rw [List.getD, List.getElem?_eq_getElem hl]
  simpa using h1
theorem letter_kind (n : Int) (k : Nat) (h : letterI (lookF refT n).1 (k : Int) ≠ 0) : kindI (letterI (lookF refT n).1 (k : Int)) ≠ 0 := by
  have hg : goodL (lookF refT n).1.2.2.2.1 = true ∧ goodL (lookF refT n).1.2.2.2.2.1 = true := by
    by_cases h : (lookF refT n).2 = true
    · have := (List.all_eq_true.1 refT_goodL) _ (lookF_true h)
      simpa using this
    · rw [(lookF_false (by simpa using h)).1]; exact ⟨rfl, rfl⟩
  generalize (lookF refT n).1 = f at *
  unfold letterI at h ⊢
  rw [if_neg (by omega)] at h ⊢
  by_cases h1 : (k : Int) < f.2.2.2.1.size
  · rw [if_pos h1] at h ⊢
    exact sgn_good hg.1 (by omega)
  · rw [if_neg h1] at h ⊢
    split at h
    · rename_i hm
      rw [if_pos hm]
      refine sgn_good hg.2 ?_
      unfold mayB at hm
      by_cases h0 : f.2.2.2.2.1.size = 0
      · rw [if_pos h0] at hm; cases hm
      · have := Int.emod_lt_of_pos ((k : Int) - f.2.2.2.1.size) (show (0 : Int) < f.2.2.2.2.1.size by omega)
        have := Int.emod_nonneg ((k : Int) - f.2.2.2.1.size) (show (f.2.2.2.2.1.size : Int) ≠ 0 by omega)
        omega
    · exact absurd rfl h

end Go.Proofs.YtmobologlaeefaaGreat

/-
  Plain facts on modules as words: the first instruction that is wrong, and all instructions' words.
-/
namespace Go.Proofs.YtmobologlaeefaaGreat
open Go.RowKit
set_option linter.unusedVariables false

/-- The first instruction that is wrong, or that has too many words. -/
def shapeF (b : Int) : Nat → Nat → List InstT → Int × Nat
  | _, _, [] => (0, 0)
  | k, c, x :: l => if rawE x b ≠ 0 then (rawE x b, k) else if 1048576 < c + 1 + (rawWs x b).length then (4, k) else shapeF b (k + 1) (c + 1 + (rawWs x b).length) l
def shapeE (b : Int) (l : List InstT) : Int × Nat := if b = 0 ∨ 65536 < b then (24, 0) else shapeF b 0 5 l
/-- A module's instructions as words. -/
def rawsL (b : Int) (l : List InstT) : List (Int × List Int) := l.map fun x => (x.1, rawWs x b)
/-- What raws answers. -/
def rawsR (b : Int) (l : List InstT) : List (Int × List Int) := if (shapeE b l).1 = 0 then rawsL b l else []

theorem rawsL_len (b : Int) (l : List InstT) : (rawsL b l).length = l.length := by simp [rawsL]
theorem nthR_raws (b : Int) (l : List InstT) (k : Nat) (h : k < l.length) : nthR (rawsL b l) k = ((nthI l k).1, rawWs (nthI l k) b) := by
  rw [nthI_lt _ _ h]; simp [nthR, rawsL, List.getD, h]
theorem rawsL_take (b : Int) (l : List InstT) (k : Nat) (h : k < l.length) : rawsL b (l.take (k + 1)) = rawsL b (l.take k) ++ [((nthI l k).1, rawWs (nthI l k) b)] := by
  unfold rawsL
  rw [List.take_add_one, List.getElem?_eq_getElem h, nthI_lt _ _ h, List.map_append]; rfl
theorem dropI (l : List InstT) (k : Nat) (h : k < l.length) : l.drop k = nthI l k :: l.drop (k + 1) := by
  rw [nthI_lt _ _ h]; exact List.drop_eq_getElem_cons h

theorem shape_end (b : Int) (l : List InstT) (k c : Nat) (h : l.length ≤ k) : shapeF b k c (l.drop k) = (0, 0) := by
  rw [List.drop_eq_nil_of_le h]; rfl
theorem shape_step (b : Int) (l : List InstT) (k : Nat) (h : k < l.length) : shapeF b k (sizeTo (rawsL b l) k) (l.drop k) = if rawE (nthI l k) b ≠ 0 then (rawE (nthI l k) b, k) else if 1048576 < sizeTo (rawsL b l) (k + 1) then (4, k) else shapeF b (k + 1) (sizeTo (rawsL b l) (k + 1)) (l.drop (k + 1)) := by
  rw [dropI l k h, shapeF, sizeTo_succ (rawsL b l) k (by rw [rawsL_len]; exact h), nthR_raws b l k h]
theorem shape_any (b : Int) : ∀ (l : List InstT) (k c : Nat), shapeF b k c l = (0, 0) ∨ (shapeF b k c l).1 ≠ 0
  | [], _, _ => .inl rfl
  | x :: l, k, c => by
    rw [shapeF]
    by_cases h1 : rawE x b ≠ 0
    · rw [if_pos h1]; exact .inr h1
    · rw [if_neg h1]
      split
      · exact .inr (by simp)
      · exact shape_any b l _ _
theorem shapeE_any (b : Int) (l : List InstT) : shapeE b l = (0, 0) ∨ (shapeE b l).1 ≠ 0 := by
  unfold shapeE
  split
  · exact .inr (by decide)
  · exact shape_any b l 0 5

theorem rawWs_ok {x : InstT} {b : Int} (h : rawE x b = 0) : (lookF refT x.1).2 = true ∧ faultI (lookF refT x.1).1 x b = 0 ∧ rawWs x b = rawL (lookF refT x.1).1 x := by
  have h1 := h
  unfold rawE at h1
  by_cases h2 : (lookF refT x.1).2 = true
  · rw [if_pos h2] at h1
    exact ⟨h2, h1, by unfold rawWs; rw [if_pos h]⟩
  · rw [if_neg h2] at h1; cases h1
theorem faultI_zero {f : Frm} {x : InstT} {b : Int} (h : faultI f x b = 0) : idE f.2.1 x.2.1 b 40 = 0 ∧ idE f.2.2.1 x.2.2.1 b 41 = 0 ∧ wrongL f b 0 x.2.2.2 = 0 ∧ wholeN f x.2.2.2.length = true ∧ 1 + (rawL f x).length ≤ 65535 := by
  unfold faultI at h
  by_cases h1 : idE f.2.1 x.2.1 b 40 = 0
  · rw [if_neg (by simp [h1])] at h
    by_cases h2 : idE f.2.2.1 x.2.2.1 b 41 = 0
    · rw [if_neg (by simp [h2])] at h
      by_cases h3 : wrongL f b 0 x.2.2.2 = 0
      · rw [if_neg (by simp [h3])] at h
        by_cases h4 : wholeN f x.2.2.2.length = true
        · rw [if_neg (by simp [h4])] at h
          by_cases h5 : 65535 < 1 + (rawL f x).length
          · rw [if_pos h5] at h; cases h
          · exact ⟨h1, h2, h3, h4, by omega⟩
        · rw [if_pos (by simpa using h4)] at h; cases h
      · rw [if_pos h3] at h; exact absurd h h3
    · rw [if_pos h2] at h; exact absurd h h2
  · rw [if_pos h1] at h; exact absurd h h1
theorem rawWs_len (x : InstT) (b : Int) : (rawWs x b).length < 65535 := by
  by_cases h : rawE x b = 0
  · obtain ⟨_, h2, h3⟩ := rawWs_ok h
    have := (faultI_zero h2).2.2.2.2
    rw [h3]; omega
  · rw [rawWs, if_neg h]; simp

theorem wordsL_within {l : List ArgT} (h : ArgsOk l) : Within 4294967296 (wordsL l) := by
  intro z hz
  obtain ⟨x, hx, hzx⟩ := List.mem_flatMap.1 hz
  obtain ⟨k, hk, rfl⟩ := List.mem_iff_getElem.1 hx
  have ho := h k hk
  rw [nthA_lt _ _ hk] at ho
  unfold wordsA at hzx
  split at hzx
  · exact textW_within _ z hzx
  · rw [List.mem_singleton] at hzx; subst hzx
    exact ⟨ho.2.2.1, ho.2.2.2.1⟩
theorem rawWs_within {x : InstT} (b : Int) (h : InstOk x) : Within 4294967296 (rawWs x b) := by
  unfold rawWs
  split
  · refine within_append ?_ (wordsL_within h.2.2.2.2.2.2.1)
    unfold headW
    refine within_append ?_ ?_
    · split
      · exact within_one h.2.2.1 h.2.2.2.1
      · exact within_nil
    · split
      · exact within_one h.2.2.2.2.1 h.2.2.2.2.2.1
      · exact within_nil
  · exact within_nil
theorem rawsL_ok (b : Int) {l : List InstT} (h : InstsOk l) : RawsOk (rawsL b l) := by
  intro j hj
  rw [rawsL_len] at hj
  rw [nthR_raws b l j hj]
  have ho := h j hj
  refine ⟨ho.1, ho.2.1, rawWs_within b ho, ?_⟩
  have := rawWs_len (nthI l j) b
  simp only
  omega
theorem rawsR_ok (b : Int) {l : List InstT} (h : InstsOk l) : RawsOk (rawsR b l) := by
  unfold rawsR
  split
  · exact rawsL_ok b h
  · intro j hj; simp at hj

theorem fault_shapeF (b : Int) (l : List InstT) : ∀ d k, l.length - k = d → (shapeF b k (sizeTo (rawsL b l) k) (l.drop k)).1 = 0 → fault (rawsL b l) k = (0, 0)
  | 0, k, hd, _ => fault_end _ _ (by rw [rawsL_len]; omega)
  | d + 1, k, hd, h => by
    have hk : k < l.length := by omega
    rw [shape_step b l k hk] at h
    rw [fault_step _ _ (by rw [rawsL_len]; exact hk), nthR_raws b l k hk]
    have hs := rawWs_len (nthI l k) b
    rw [if_neg (by simp only; omega)]
    by_cases h1 : rawE (nthI l k) b ≠ 0
    · rw [if_pos h1] at h; exact absurd h h1
    · rw [if_neg h1] at h
      by_cases h2 : 1048576 < sizeTo (rawsL b l) (k + 1)
      · rw [if_pos h2] at h; cases h
      · rw [if_neg h2] at h ⊢
        exact fault_shapeF b l d (k + 1) (by omega) h
theorem fault_shape {b : Int} {l : List InstT} (h : (shapeE b l).1 = 0) : fault (rawsL b l) 0 = (0, 0) := by
  unfold shapeE at h
  by_cases h1 : b = 0 ∨ 65536 < b
  · rw [if_pos h1] at h; cases h
  · rw [if_neg h1] at h
    exact fault_shapeF b l _ 0 rfl h
theorem shape_bound {b : Int} {l : List InstT} (h : (shapeE b l).1 = 0) : ¬ b = 0 ∧ ¬ 65536 < b := by
  unfold shapeE at h
  by_cases h1 : b = 0 ∨ 65536 < b
  · rw [if_pos h1] at h; cases h
  · exact ⟨fun h => h1 (.inl h), fun h => h1 (.inr h)⟩
theorem shape_each {b : Int} {l : List InstT} (h : (shapeE b l).1 = 0) (k : Nat) (hk : k < l.length) : rawE (nthI l k) b = 0 := by
  have key : ∀ (l : List InstT) (i c k : Nat), (shapeF b i c l).1 = 0 → k < l.length → rawE (nthI l k) b = 0 := by
    intro l
    induction l with
    | nil => intro i c k _ hk; simp at hk
    | cons x l ih =>
      intro i c k h hk
      rw [shapeF] at h
      by_cases h1 : rawE x b ≠ 0
      · rw [if_pos h1] at h; exact absurd h h1
      · rw [if_neg h1] at h
        cases k with
        | zero => exact Classical.not_not.1 h1
        | succ k =>
          split at h
          · cases h
          · exact ih _ _ k h (by simpa using hk)
  unfold shapeE at h
  by_cases h1 : b = 0 ∨ 65536 < b
  · rw [if_pos h1] at h; cases h
  · rw [if_neg h1] at h
    exact key l 0 5 k h hk
theorem sizeTo_ge (rs : List (Int × List Int)) : ∀ k, k ≤ rs.length → 5 + k ≤ sizeTo rs k
  | 0, _ => by rw [sizeTo_zero]; omega
  | k + 1, h => by rw [sizeTo_succ rs k (by omega)]; have := sizeTo_ge rs k (by omega); omega
/-- A module of good shape has few instructions. -/
theorem shape_few {b : Int} {l : List InstT} (h : (shapeE b l).1 = 0) : l.length ≤ 1048576 ∧ sizeTo (rawsL b l) l.length ≤ 1048576 := by
  have h1 := fault_none (rawsL b l) (by rw [fault_shape h]) l.length (by rw [rawsL_len]; exact Nat.le_refl _)
  have := sizeTo_ge (rawsL b l) l.length (by rw [rawsL_len]; exact Nat.le_refl _)
  omega

end Go.Proofs.YtmobologlaeefaaGreat
