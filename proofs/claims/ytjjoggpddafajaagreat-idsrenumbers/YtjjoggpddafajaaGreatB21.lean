/-
  Texts laid together in one: Ref04Shape, Ref04Ids, IdsUses.
-/
import Derived.WalkSpells
import Derived.WalkMore
import Derived.Deep.QuietTactic
import Derived.BigQuiet
import Derived.Test.YtjjoggpddafajaaGreatProg
import Derived.Test.YtjjoggpddafajaaGreatB04
import Derived.Test.YtjjoggpddafajaaGreatB07
import Derived.Test.YtjjoggpddafajaaGreatB08
import Derived.Test.YtjjoggpddafajaaGreatB03
import Derived.Test.YtjjoggpddafajaaGreatB20
import Derived.Test.YtjjoggpddafajaaGreatB14
import Derived.Laws.AppendOwn
import Derived.BigRegion
import Derived.Test.YtjjoggpddafajaaGreatB15
import Derived.Test.YtjjoggpddafajaaGreatB19
/-
  What Shape of the document's answer returns: what is wrong with a module, and where.
-/
namespace Go.Proofs.YtjjoggpddafajaaGreat
open Go.RowKit
set_option linter.unusedVariables false
set_option linter.unusedSimpArgs false
set_option maxRecDepth 10000

set_option maxHeartbeats 4000000 in
theorem refShape4_any (gn b : Int) (ax : Option Addr) (n cx : Nat) (l : List InstT) (w : World) (hv : InstsV w ax l) (hok : InstsOk l) (hl : l.length = n) (hn : 40 * n ≤ 140737488351232) (b0 : 0 ≤ b) (b1 : b < 4294967296) :
    Calls Tryz.prog 22 #[modV gn b ax n cx] w fun e w' => e = .returned (.agg #[.int .i64 (shapeE b l).1, .int .i64 ((shapeE b l).2 : Int)]) ∧ Below w.heap.size w w' := by
  unfold modV
  have hbel : Below w.heap.size w ((w.alloc (.cells #[.int .u32 gn, .int .u32 b, .slice ax n cx] 25)).alloc (.cells #[.int .i64 0, .int .i64 0] 28)) := ((Below.refl _ w).alloc (Nat.le_refl _) _).alloc (by simp) _
  have kM : ((w.alloc (.cells #[.int .u32 gn, .int .u32 b, .slice ax n cx] 25)).alloc (.cells #[.int .i64 0, .int .i64 0] 28)).heap[w.heap.size]? = some (.cells #[.int .u32 gn, .int .u32 b, .slice ax n cx] 25 (0, 0)) := (Below.heap_alloc _ _ _ (by simp)).trans (alloc_new w _ _)
  have kS : ((w.alloc (.cells #[.int .u32 gn, .int .u32 b, .slice ax n cx] 25)).alloc (.cells #[.int .i64 0, .int .i64 0] 28)).heap[w.heap.size + 1]? = some (.cells #[.int .i64 0, .int .i64 0] 28 (0, 0)) := by simpa using alloc_new (w.alloc (.cells #[.int .u32 gn, .int .u32 b, .slice ax n cx] 25)) #[.int .i64 0, .int .i64 0] 28
  by_cases hb : b = 0 ∨ 65536 < b
  · have e1 : shapeE b l = (24, 0) := by unfold shapeE; rw [if_pos hb]
    rw [e1]
    clear hv hok hl e1 kM kS
    by_cases hb0 : b = 0
    · subst hb0
      go_enter Tryz.func22, Tryz.ntmps22
      go_wp2
      refine bodyPost_ret (v := .agg #[.int .i64 24, .int .i64 0]) ?_ rfl ⟨rfl, ?_⟩
      · simp [results, Tryz.results22, go_sem]
      · exact ((Below.refl _ w).alloc (Nat.le_refl _) _).alloc (by simp) _
    · have hb0' : (b == 0) = false := by simpa using hb0
      have hb1' : decide ((65536 : Int) < b) = true := decide_eq_true (by omega)
      clear hb hb0
      go_enter Tryz.func22, Tryz.ntmps22
      go_wp2
      refine bodyPost_ret (v := .agg #[.int .i64 24, .int .i64 0]) ?_ rfl ⟨rfl, ?_⟩
      · simp [results, Tryz.results22, go_sem]
      · exact ((Below.refl _ w).alloc (Nat.le_refl _) _).alloc (by simp) _
  · have hb0' : (b == 0) = false := by simp; omega
    have hb1' : decide ((65536 : Int) < b) = false := decide_eq_false (by omega)
    obtain ⟨R, hR⟩ : ∃ R, R = shapeE b l := ⟨_, rfl⟩
    rw [← hR]
    have hR0 : R = shapeF b 0 (sizeTo (rawsL b l) 0) (l.drop 0) := by rw [hR]; unfold shapeE; rw [if_neg hb]; rfl
    have HR0 := hide hR0
    have HST : Hid (∀ k, k < n → shapeF b k (sizeTo (rawsL b l) k) (l.drop k) = if rawE (nthI l k) b ≠ 0 then (rawE (nthI l k) b, k) else if 1048576 < sizeTo (rawsL b l) (k + 1) then (4, k) else shapeF b (k + 1) (sizeTo (rawsL b l) (k + 1)) (l.drop (k + 1))) := fun k hk => shape_step b l k (by omega)
    have HSZ : Hid (∀ k, k < n → sizeTo (rawsL b l) (k + 1) = sizeTo (rawsL b l) k + 1 + (rawWs (nthI l k) b).length) := fun k hk => by
      rw [sizeTo_succ _ _ (by rw [rawsL_len]; omega), nthR_raws b l k (by omega)]
    have HEN : Hid (∀ k, n ≤ k → shapeF b k (sizeTo (rawsL b l) k) (l.drop k) = (0, 0)) := fun k hk => shape_end b l k _ (by omega)
    have HV := hide (hv.below hbel)
    have HBEL := hide hbel
    have HM := hide kM
    have HS := hide kS
    have HL := hide hl
    have HOK := hide hok
    have HN : Hid (40 * n ≤ 140737488351232) := hn
    have HBB : Hid (0 ≤ b ∧ b < 4294967296) := ⟨b0, b1⟩
    clear hv hok hl hn hb hR hR0 hbel kM kS b0 b1
    go_enter Tryz.func22, Tryz.ntmps22
    go_wp2
    generalize hW : (w.alloc (.cells #[.int .u32 gn, .int .u32 b, .slice ax n cx] 25)).alloc (.cells #[.int .i64 0, .int .i64 0] 28) = W at *
    have sS := (Array.getElem?_eq_some_iff.1 HS.out).1
    clear hW
    go_loopw [3, 4] (fun u i wr => ∃ k : Nat, k ≤ n ∧ i = .int .i64 k ∧ u = .int .i64 (sizeTo (rawsL b l) k : Int) ∧ Below W.heap.size W wr ∧ Hid (sizeTo (rawsL b l) k ≤ 1048576) ∧ Hid (R = shapeF b k (sizeTo (rawsL b l) k) (l.drop k))) (fun _ i _ => n - (intOf i).toNat)
    case atStart => exact ⟨0, Nat.zero_le _, rfl, rfl, Below.refl _ _, by show (5 : Nat) ≤ _; omega, HR0⟩
    case round =>
      obtain ⟨k, hk, rfl, rfl, hbr, HLE, HRK⟩ := hrel
      clear HR0
      have kMr := (hbr.block _ (by omega)).trans HM.out
      have kSr := (hbr.block _ sS).trans HS.out
      have hvr := HV.out.below hbr
      have sr : w.heap.size + 1 < wr.heap.size := Nat.lt_of_lt_of_le sS hbr.size
      have m2 := (one_block kMr).1 2
      have hfr := HBEL.out.trans (hbr.mono HBEL.out.size)
      have hkb : (k : Int) < 140737488351232 := by have := HN.out; omega
      by_cases hlt : k < n
      · have hkl : k < l.length := by rw [HL.out]; exact hlt
        obtain ⟨g1, o1, aj, cj, nj, rfl, hg1, p1, p2, p3, p4, p5, p6, p7⟩ := hvr k hkl
        have hki : (k : Int) < (n : Int) := by omega
        have hk0 : (0 : Int) ≤ (k : Int) := by omega
        have hS1 := HST.out k hlt
        have hS2 := HSZ.out k hlt
        rw [← HRK.out] at hS1
        have HS1 := hide hS1
        have HS2 := hide hS2
        have a1 := fun s : InC (Below wr.heap.size wr) => s.cell (p := ⟨w.heap.size, 1, none⟩) (by show w.heap.size < _; omega) ((one_block kMr).1 1)
        have a2 := fun s : InC (Below wr.heap.size wr) => s.cell (p := ⟨w.heap.size, 2, none⟩) (by show w.heap.size < _; omega) ((one_block kMr).1 2)
        have q1 := fun s : InC (Below wr.heap.size wr) => s.cell (p := ⟨g1, o1 + k * 4, none⟩) hg1 p1
        have q2 := fun s : InC (Below wr.heap.size wr) => s.cell (p := ⟨g1, o1 + k * 4 + 1, none⟩) hg1 p2
        have q3 := fun s : InC (Below wr.heap.size wr) => s.cell (p := ⟨g1, o1 + k * 4 + 2, none⟩) hg1 p3
        have q4 := fun s : InC (Below wr.heap.size wr) => s.cell (p := ⟨g1, o1 + k * 4 + 3, none⟩) hg1 p4
        have hne : Nonempty (InC (Below wr.heap.size wr)) := ⟨⟨wr, Below.refl _ _⟩⟩
        have hbl := below_drew wr
        have hF := fun s : InC (Below wr.heap.size wr) => Calls.inC s (refFault4_any (nthI l k) b aj nj cj s.w (p6.below s.ok) (HOK.out k hkl) p5 HBB.out.1 HBB.out.2)
        have HIK := hide (HOK.out k hkl)
        have HP := hide (show wr.cell? ⟨g1, o1 + k * 4, none⟩ = some (.int .u16 (nthI l k).1) ∧ wr.cell? ⟨g1, o1 + k * 4 + 1, none⟩ = some (.int .u32 (nthI l k).2.1) ∧ wr.cell? ⟨g1, o1 + k * 4 + 2, none⟩ = some (.int .u32 (nthI l k).2.2.1) ∧ wr.cell? ⟨g1, o1 + k * 4 + 3, none⟩ = some (.slice aj nj cj) ∧ (nthI l k).2.2.2.length = nj ∧ ArgsV wr aj (nthI l k).2.2.2 from ⟨p1, p2, p3, p4, p5, p6⟩)
        have HMr := hide kMr
        have HSr := hide kSr
        clear hS1 hS2 p1 p2 p3 p4 p5 p6 p7 hvr kMr kSr HST HSZ HEN HV HM HS HOK HRK
        generalize hz : nthI l k = z at *
        clear hz
        have hRL : rawE z b = 0 → (lookF refT z.1).2 = true ∧ rawWs z b = rawL (lookF refT z.1).1 z ∧ (rawL (lookF refT z.1).1 z).length ≤ 65535 := fun h => by
          obtain ⟨h1, h2, h3⟩ := rawWs_ok h
          have := faultI_zero h2
          exact ⟨h1, h3, by omega⟩
        have HRL := hide hRL
        clear hRL
        generalize hE : rawE z b = E at *
        clear hE
        obtain ⟨zo, zt, zr, zl⟩ := z
        unfold instV at hF
        simp only at *
        go_wp2_with fail
        refine wp_region_class (C := Below wr.heap.size wr) (by kernel_rfl) (by kernel_rfl) hbl ?_
        repeat (go_big_quiet_step ((go_at_call 31; exact hF _)))
        refine wpQuiet_nil ?_
        rintro _ ⟨s, rfl⟩
        have hbs := hbr.trans (s.ok.mono hbr.size)
        have hfs := hfr.trans (s.ok.mono hfr.size)
        have kM3 := (s.ok.block _ (by omega)).trans HMr.out
        have kS3 := (s.ok.block _ sr).trans HSr.out
        have s3 : w.heap.size + 1 < s.w.heap.size := Nat.lt_of_lt_of_le sr s.ok.size
        have r1 := q1 s
        have r2 := q2 s
        have r3 := q3 s
        have r4 := q4 s
        have r6 := HP.out.2.2.2.2.2.below s.ok
        have sg : g1 < s.w.heap.size := Nat.lt_of_lt_of_le hg1 s.ok.size
        clear hne hF a1 a2 q1 q2 q3 q4 hbr hfr hbl HMr HSr
        generalize s.w = W3 at *
        have m2 := (one_block kM3).1 2
        by_cases hE0 : E = 0
        · subst hE0
          obtain ⟨t1, t2, t3⟩ := HRL.out (by trivial)
          have hOf := fun wx => refOf_any zo wx
          have eV : ofV zo = formV zo (lookF refT zo).1 := by unfold ofV; rw [if_pos t1]
          rw [eV, t1] at hOf
          have H2 := HS2.out
          rw [t2] at H2
          have hRm := fun (wx : World) (f : Frm) (h : (lookF refT zo).1 = f) (hvx : ArgsV wx aj zl) => refRoom4_any (zo, zt, zr, zl) zo f aj nj cj wx hvx HIK.out HP.out.2.2.2.2.1 (by
            have : (wordsL zl).length ≤ (rawL (lookF refT zo).1 (zo, zt, zr, zl)).length := by unfold rawL; simp
            simp only; omega)
          generalize hf : (lookF refT zo).1 = f at *
          have hRm' := fun wx => hRm wx f rfl
          clear hRm hf eV t1 t2
          generalize hLn : (rawL f (zo, zt, zr, zl)).length = ln at *
          clear hLn
          have HT3 := hide t3
          have HH2 := hide H2
          have HRM := hide hRm'
          clear t3 H2 hRm' HS2
          obtain ⟨nm, t, r, fx, rs, mo, pa⟩ := f
          unfold formV at hOf HRM
          unfold instV at HRM
          simp only at hOf HRM
          go_wp2_with fail
          refine (hOf _).mono ?_
          rintro e w4 ⟨rfl, hb4⟩
          have hba : Below w4.heap.size w4 (w4.alloc (.cells #[.int .u16 zo, .string nm, .bool t, .bool r, .string fx, .string rs, .int .i64 mo, .int .u8 pa] 75)) := (Below.refl _ _).alloc (Nat.le_refl _) _
          have hb4a := hb4.trans (hba.mono hb4.size)
          have kM4 := (hb4a.block _ (by omega)).trans kM3
          have kS4 := (hb4a.block _ s3).trans kS3
          have kF4 := alloc_new w4 #[.int .u16 zo, .string nm, .bool t, .bool r, .string fx, .string rs, .int .i64 mo, .int .u8 pa] 75
          have u1 := (hb4a.cell (p := ⟨g1, o1 + k * 4, none⟩) sg).trans r1
          have u2 := (hb4a.cell (p := ⟨g1, o1 + k * 4 + 1, none⟩) sg).trans r2
          have u3 := (hb4a.cell (p := ⟨g1, o1 + k * 4 + 2, none⟩) sg).trans r3
          have u4 := (hb4a.cell (p := ⟨g1, o1 + k * 4 + 3, none⟩) sg).trans r4
          have u6 := r6.below hb4a
          have hbs4 := hbs.trans (hb4a.mono hbs.size)
          have hfs4 := hfs.trans (hb4a.mono hfs.size)
          have sg4 : g1 < (w4.alloc (.cells #[.int .u16 zo, .string nm, .bool t, .bool r, .string fx, .string rs, .int .i64 mo, .int .u8 pa] 75)).heap.size := Nat.lt_of_lt_of_le sg hb4a.size
          have sF4 : w4.heap.size < (w4.alloc (.cells #[.int .u16 zo, .string nm, .bool t, .bool r, .string fx, .string rs, .int .i64 mo, .int .u8 pa] 75)).heap.size := by simp
          have s4 : w.heap.size + 1 < (w4.alloc (.cells #[.int .u16 zo, .string nm, .bool t, .bool r, .string fx, .string rs, .int .i64 mo, .int .u8 pa] 75)).heap.size := Nat.lt_of_lt_of_le s3 hb4a.size
          clear hOf hb4 hba hb4a r1 r2 r3 r4 r6 kM3 kS3 m2 hbs hfs
          go_wp2_with fail
          generalize hW4 : w4.alloc (.cells #[.int .u16 zo, .string nm, .bool t, .bool r, .string fx, .string rs, .int .i64 mo, .int .u8 pa] 75) = W4 at *
          clear hW4
          have a2 := fun s : InC (Below W4.heap.size W4) => s.cell (p := ⟨w.heap.size, 2, none⟩) (by show w.heap.size < _; omega) ((one_block kM4).1 2)
          have q1 := fun s : InC (Below W4.heap.size W4) => s.cell (p := ⟨g1, o1 + k * 4, none⟩) sg4 u1
          have q2 := fun s : InC (Below W4.heap.size W4) => s.cell (p := ⟨g1, o1 + k * 4 + 1, none⟩) sg4 u2
          have q3 := fun s : InC (Below W4.heap.size W4) => s.cell (p := ⟨g1, o1 + k * 4 + 2, none⟩) sg4 u3
          have q4 := fun s : InC (Below W4.heap.size W4) => s.cell (p := ⟨g1, o1 + k * 4 + 3, none⟩) sg4 u4
          obtain ⟨d0, d1, d2, d3, d4, d5, d6, d7, df⟩ := frm_cells (n := zo) (f := (nm, t, r, fx, rs, mo, pa)) kF4
          simp only at d0 d1 d2 d3 d4 d5 d6 d7
          have v0 := fun s : InC (Below W4.heap.size W4) => s.cell (p := ⟨w4.heap.size, 0, none⟩) sF4 d0
          have v1 := fun s : InC (Below W4.heap.size W4) => s.cell (p := ⟨w4.heap.size, 1, none⟩) sF4 d1
          have v2 := fun s : InC (Below W4.heap.size W4) => s.cell (p := ⟨w4.heap.size, 2, none⟩) sF4 d2
          have v3 := fun s : InC (Below W4.heap.size W4) => s.cell (p := ⟨w4.heap.size, 3, none⟩) sF4 d3
          have v4 := fun s : InC (Below W4.heap.size W4) => s.cell (p := ⟨w4.heap.size, 4, none⟩) sF4 d4
          have v5 := fun s : InC (Below W4.heap.size W4) => s.cell (p := ⟨w4.heap.size, 5, none⟩) sF4 d5
          have v6 := fun s : InC (Below W4.heap.size W4) => s.cell (p := ⟨w4.heap.size, 6, none⟩) sF4 d6
          have v7 := fun s : InC (Below W4.heap.size W4) => s.cell (p := ⟨w4.heap.size, 7, none⟩) sF4 d7
          have hne : Nonempty (InC (Below W4.heap.size W4)) := ⟨⟨W4, Below.refl _ _⟩⟩
          have hbl := below_drew W4
          have hM := fun s : InC (Below W4.heap.size W4) => Calls.inC s (HRM.out s.w (u6.below s.ok))
          have hsz := HLE.out
          generalize hszk : sizeTo (rawsL b l) k = szk at *
          have hln := HT3.out
          have hwr : IntKind.i64.wrap ((szk : Int) + (1 + (ln : Int))) = (szk : Int) + (1 + (ln : Int)) := by rw [IntKind.wrap_i64]; omega
          have hwr2 : IntKind.i64.wrap ((szk : Int) + ((1 + ln : Nat) : Int)) = (szk : Int) + (1 + (ln : Int)) := by rw [IntKind.wrap_i64]; omega
          have HSK := hide hsz
          clear d0 d1 d2 d3 d4 d5 d6 d7 df u1 u2 u3 u4 u6 kF4 hszk hln hsz
          refine wp_region_class (C := Below W4.heap.size W4) (by kernel_rfl) (by kernel_rfl) hbl ?_
          repeat (go_big_quiet_step ((go_at_call 33; exact hM _)))
          refine wpQuiet_nil ?_
          rintro _ ⟨s, rfl⟩
          have hbs5 := hbs4.trans (s.ok.mono hbs4.size)
          have hfs5 := hfs4.trans (s.ok.mono hfs4.size)
          have kS5 := (s.ok.block _ s4).trans kS4
          have s5 : w.heap.size + 1 < s.w.heap.size := Nat.lt_of_lt_of_le s4 s.ok.size
          clear hne hM a2 q1 q2 q3 q4 v0 v1 v2 v3 v4 v5 v6 v7 hbs4 hfs4 hbl kM4 kS4
          generalize s.w = W5 at *
          by_cases hgt : 1048576 < szk + 1 + ln
          · have e9 := HS1.out
            rw [if_neg (by simp), HH2.out, if_pos hgt] at e9
            subst e9
            have hd : decide ((1048576 : Int) < (szk : Int) + (1 + (ln : Int))) = true := decide_eq_true (by omega)
            obtain ⟨mm, mf⟩ := one_block kS5
            have x0 := mm 0
            have x1 := mm 1
            have HB3 := hide (two_put2 kS5 (.int .i64 4) (.int .i64 (k : Int)))
            have HBel := hide ((hfs5.setCell (p := ⟨w.heap.size + 1, 0, none⟩) (by simp) (.int .i64 4)).setCell (p := ⟨w.heap.size + 1, 1, none⟩) (by simp) (.int .i64 (k : Int)))
            clear kS5 mm hfs5 hgt
            go_wp2_with fail
            generalize (W5.setCell _ _).setCell _ _ = W9 at *
            obtain ⟨hd, _⟩ := one_block HB3.out
            have d0 := hd 0
            have d1 := hd 1
            refine bodyPost_ret (v := .agg #[.int .i64 4, .int .i64 (k : Int)]) ?_ rfl ⟨rfl, HBel.out⟩
            simp [results, Tryz.results22, go_sem, d0, d1]
          · have e9 := HS1.out
            rw [if_neg (by simp), HH2.out, if_neg hgt] at e9
            have HE9 := hide e9
            have hd : decide ((1048576 : Int) < (szk : Int) + (1 + (ln : Int))) = false := decide_eq_false (by omega)
            have HGT : Hid (szk + 1 + ln ≤ 1048576) := by show _ ≤ _; omega
            clear e9 hgt
            go_wp2_with fail
            go_roundw
            case rel => exact ⟨k + 1, by omega, by go_num, by rw [HH2.out]; refine congrArg (Value.int .i64) ?_; omega, hbs5, by show _ ≤ _; rw [HH2.out]; exact HGT.out, by show _ = _; rw [HH2.out]; exact HE9.out⟩
            case measure => simp [intOf]; omega
        · have hE' : (E != 0) = true := by simp [hE0]
          have e9 := HS1.out
          rw [if_pos hE0] at e9
          subst e9
          obtain ⟨mm, mf⟩ := one_block kS3
          have x0 := mm 0
          have x1 := mm 1
          have HB3 := hide (two_put2 kS3 (.int .i64 E) (.int .i64 (k : Int)))
          have HBel := hide ((hfs.setCell (p := ⟨w.heap.size + 1, 0, none⟩) (by simp) (.int .i64 E)).setCell (p := ⟨w.heap.size + 1, 1, none⟩) (by simp) (.int .i64 (k : Int)))
          clear kS3 mm hfs
          go_wp2_with fail
          generalize (W3.setCell _ _).setCell _ _ = W9 at *
          obtain ⟨hd, _⟩ := one_block HB3.out
          have d0 := hd 0
          have d1 := hd 1
          refine bodyPost_ret (v := .agg #[.int .i64 E, .int .i64 (k : Int)]) ?_ rfl ⟨rfl, HBel.out⟩
          simp [results, Tryz.results22, go_sem, d0, d1]
      · obtain rfl : k = n := by omega
        have e9 := HRK.out
        rw [HEN.out k (Nat.le_refl _)] at e9
        subst e9
        obtain ⟨mm, mf⟩ := one_block kSr
        have x0 := mm 0
        have x1 := mm 1
        have HB3 := hide (two_put2 kSr (.int .i64 0) (.int .i64 0))
        have HBel := hide ((hfr.setCell (p := ⟨w.heap.size + 1, 0, none⟩) (by simp) (.int .i64 0)).setCell (p := ⟨w.heap.size + 1, 1, none⟩) (by simp) (.int .i64 0))
        clear kSr mm hfr hvr
        go_wp2_with fail
        generalize (wr.setCell _ _).setCell _ _ = W9 at *
        obtain ⟨hd, _⟩ := one_block HB3.out
        have d0 := hd 0
        have d1 := hd 1
        refine bodyPost_ret (v := .agg #[.int .i64 0, .int .i64 0]) ?_ rfl ⟨rfl, HBel.out⟩
        simp [results, Tryz.results22, go_sem, d0, d1]

end Go.Proofs.YtjjoggpddafajaaGreat

/-
  What Ids of the document's answer returns, for every instruction.
-/
namespace Go.Proofs.YtjjoggpddafajaaGreat
open Go.RowKit
set_option linter.unusedVariables false
set_option linter.unusedSimpArgs false
set_option maxRecDepth 10000

set_option maxHeartbeats 2000000 in
theorem refIds_any (x : InstT) (ax : Option Addr) (n cx : Nat) (w : World) (hv : ArgsV w ax x.2.2.2) (hl : x.2.2.2.length = n) (hn : 24 * n ≤ 140737488351232) :
    Calls Tryz.prog 26 #[instV x ax n cx] w fun e w' => Below w.heap.size w w' ∧ ∃ a m c, e = .returned (.slice a m c) ∧ (idsI x).length = m ∧ w'.ownsRow w.heap.size 22 1 (.slice a m c) m ((idsI x).map (Value.int .u32)) := by
  obtain ⟨i0, hi, hz0, hz1, hz2⟩ := info_parts Ids.info
  have HI : Hid (Tryz.prog.info? 22 = some i0 ∧ i0.zero = some (.int .u32 0) ∧ i0.size = 1 ∧ i0.bytes = 4) := ⟨hi, hz0, hz1, hz2⟩
  clear hi hz0 hz1 hz2
  obtain ⟨xo, xt, xr, xl⟩ := x
  unfold instV
  simp only at *
  have HL : Hid (xl.length = n) := hl
  have eI : idsI (xo, xt, xr, xl) = idsTo xt xl n := by unfold idsI; simp only; rw [hl]
  rw [eI]
  clear eI hl
  have hS0 : IdsS w (w.alloc (.cells #[.int .u16 xo, .int .u32 xt, .int .u32 xr, .slice ax n cx] 40)) xo xt xr ax n cx (.slice none 0 0) [] := ⟨World.ownsRow_nil _ _ _ _, alloc_new w _ _, (Below.refl _ w).alloc (Nat.le_refl _) _⟩
  by_cases ht : xt = 0
  · subst ht
    have HS0 : Hid (IdsS w (w.alloc (.cells #[.int .u16 xo, .int .u32 0, .int .u32 xr, .slice ax n cx] 40)) xo 0 xr ax n cx (.slice none 0 0) []) := hS0
    clear hS0
    go_enter Tryz.func26, Tryz.ntmps26
    go_wp2
    go_loopw [3, 4] (fun v i wr => ∃ k : Nat, k ≤ n ∧ i = .int .i64 k ∧ IdsS w wr xo 0 xr ax n cx v (idsTo 0 xl k)) (fun _ i _ => n - (intOf i).toNat)
    case atStart => exact ⟨0, Nat.zero_le _, rfl, by rw [idsTo_zero, if_pos rfl]; exact HS0.out⟩
    case round =>
      obtain ⟨k, hk, rfl, hS⟩ := hrel
      clear HS0
      have hA := hv.below hS.bel
      obtain ⟨a', cap', rfl⟩ : ∃ a cap, u3 = .slice a (idsTo 0 xl k).length cap := by
        rcases hS.own.2 with ⟨rfl, h0⟩ | ⟨g, cap, cur, rfl, _⟩
        · exact ⟨none, 0, by rw [h0]⟩
        · exact ⟨_, _, rfl⟩
      by_cases hlt : k < n
      · have hkl : k < xl.length := by rw [HL.out]; exact hlt
        obtain ⟨b1, o1, rfl, hb1, p1, p2, p3⟩ := hA k hkl
        have hsu := idsTo_succ 0 xl k hkl
        have hln := idsTo_len 0 xl k
        have HSU : Hid _ := hsu
        generalize idsTo 0 xl k = zs at *
        have HS2 : Hid (idsTo 0 xl (k + 1) = zs ++ idsA (nthA xl k)) := HSU.out
        clear hsu HSU
        generalize nthA xl k = z at *
        obtain ⟨z1, z2, z3⟩ := z
        simp only at *
        have hki : (k : Int) < (n : Int) := by omega
        have hk0 : (0 : Int) ≤ (k : Int) := by omega
        have hS4 := hS
        have c3 := (one_block hS.box).1 3
        clear hA
        by_cases h1 : z1 = 1
        · subst h1
          have hA1 : idsA (1, z2, z3) = [z2] := by simp [idsA]
          have N1 : Hid ((wr.alloc (.cells #[.int .u32 z2] 22)).ownsRow (w.heap.size + 1) 22 1 (.slice a' zs.length cap') zs.length ((zs).map (Value.int .u32))) := own_below hS4.own ((Below.refl _ _).alloc (Nat.le_refl _) _)
          have N2 : Hid (∀ (j : Nat) (u : Value), [Value.int .u32 z2][j]? = some u → (wr.alloc (.cells #[.int .u32 z2] 22)).cell? ((⟨wr.heap.size, 0, none⟩ : Addr).add j) = some u) := World.news_of_block (cs := #[.int .u32 z2]) (t := 22) (fr := (0, 0)) (by first | exact alloc_new _ _ _ | simpa using alloc_new (wr) #[.int .u32 z2] 22)
          have N3 : Hid (∀ u : Value, u ∈ [Value.int .u32 z2] → u.oneCell' = true) := by intro u hu; simp at hu; subst hu; rfl
          have N4 : zs.length + 1 ≤ maxLen := by unfold maxLen; omega
          have N5 : (zs.length + 1) * 4 ≤ 140737488355328 := by omega
          have N6 : Hid (w.heap.size + 1 ≤ (wr.alloc (.cells #[.int .u32 z2] 22)).heap.size) := by show _ ≤ _; rw [World.size_alloc]; have := (Array.getElem?_eq_some_iff.1 hS4.box).1; omega
          have HS : Hid (IdsS w (wr.alloc (.cells #[.int .u32 z2] 22)) xo 0 xr (some ⟨b1, o1, none⟩) n cx (.slice a' zs.length cap') zs) := hS4.below ((Below.refl _ _).alloc (Nat.le_refl _) _)
          go_wp2_with (at_builtin; refine wpList_append_own _ rfl (.tmp 27) (.tmp 34) 36 rfl (w.heap.size + 1) 22 i0 (.int .u32 0) 1 4 Tryz.underlying36 HI.out.1 HI.out.2.1 HI.out.2.2.1 HI.out.2.2.2 rfl (by decide) _ zs.length (zs.map (Value.int .u32)) rfl N1.out ⟨wr.heap.size, 0, none⟩ 1 1 [.int .u32 z2] rfl rfl N2.out N3.out N4 N5 N6.out ?_)
          intro v5 w5 hown5 hgr5 _
          have hS5 := HS.out.push hgr5 hown5
          obtain ⟨a6, cap6, rfl⟩ : ∃ a cap, v5 = .slice a (zs.length + 1) cap := by
            rcases hown5.2 with ⟨_, h0⟩ | ⟨g, cap, cur, rfl, _⟩
            · omega
            · exact ⟨_, _, rfl⟩
          clear hown5 hgr5 N1 N2 N3 N6 HS hS4 hS
          go_wp2
          go_roundw
          case rel => exact ⟨k + 1, by omega, by go_num, by rw [HS2.out, hA1]; exact hS5⟩
          case measure => simp [intOf]; omega
        · have hA1 : idsA (z1, z2, z3) = [] := by simp [idsA, h1]
          have HS4 : Hid (IdsS w wr xo 0 xr (some ⟨b1, o1, none⟩) n cx (.slice a' zs.length cap') zs) := hS4
          clear hS4
          go_wp2
          go_roundw
          case rel => exact ⟨k + 1, by omega, by go_num, by rw [HS2.out, hA1, List.append_nil]; exact HS4.out⟩
          case measure => simp [intOf]; omega
      · obtain rfl : k = n := by omega
        have hfin := hS.bel
        have hown := hS.own
        have c3 := (one_block hS.box).1 3
        clear hS hA
        go_wp2
        go_ret
        refine ⟨hfin, a', _, cap', rfl, rfl, ?_⟩
        refine ⟨hown.1, ?_⟩
        rcases hown.2 with hn0 | ⟨g, cap, cur, e1, hb, rest⟩
        · exact .inl hn0
        · exact .inr ⟨g, cap, cur, e1, by omega, rest⟩
  · have ht' := ht
    have N1 : Hid (((w.alloc (.cells #[.int .u16 xo, .int .u32 xt, .int .u32 xr, .slice ax n cx] 40)).alloc (.cells #[.int .u32 xt] 22)).ownsRow (w.heap.size + 1) 22 1 (.slice none 0 0) ([] : List Int).length ((([] : List Int)).map (Value.int .u32))) := own_below hS0.own ((Below.refl _ _).alloc (Nat.le_refl _) _)
    have N2 : Hid (∀ (j : Nat) (u : Value), [Value.int .u32 xt][j]? = some u → ((w.alloc (.cells #[.int .u16 xo, .int .u32 xt, .int .u32 xr, .slice ax n cx] 40)).alloc (.cells #[.int .u32 xt] 22)).cell? ((⟨w.heap.size + 1, 0, none⟩ : Addr).add j) = some u) := World.news_of_block (cs := #[.int .u32 xt]) (t := 22) (fr := (0, 0)) (by first | exact alloc_new _ _ _ | simpa using alloc_new ((w.alloc (.cells #[.int .u16 xo, .int .u32 xt, .int .u32 xr, .slice ax n cx] 40))) #[.int .u32 xt] 22)
    have N3 : Hid (∀ u : Value, u ∈ [Value.int .u32 xt] → u.oneCell' = true) := by intro u hu; simp at hu; subst hu; rfl
    have N4 : ([] : List Int).length + 1 ≤ maxLen := by unfold maxLen; simp
    have N5 : (([] : List Int).length + 1) * 4 ≤ 140737488355328 := by simp
    have N6 : Hid (w.heap.size + 1 ≤ ((w.alloc (.cells #[.int .u16 xo, .int .u32 xt, .int .u32 xr, .slice ax n cx] 40)).alloc (.cells #[.int .u32 xt] 22)).heap.size) := by show _ ≤ _; rw [World.size_alloc]; have := (Array.getElem?_eq_some_iff.1 hS0.box).1; omega
    have HS : Hid (IdsS w ((w.alloc (.cells #[.int .u16 xo, .int .u32 xt, .int .u32 xr, .slice ax n cx] 40)).alloc (.cells #[.int .u32 xt] 22)) xo xt xr ax n cx (.slice none 0 0) ([] : List Int)) := hS0.below ((Below.refl _ _).alloc (Nat.le_refl _) _)
    clear hS0
    go_enter Tryz.func26, Tryz.ntmps26
    go_wp2_with (at_builtin; refine wpList_append_own _ rfl (.tmp 8) (.tmp 11) 36 rfl (w.heap.size + 1) 22 i0 (.int .u32 0) 1 4 Tryz.underlying36 HI.out.1 HI.out.2.1 HI.out.2.2.1 HI.out.2.2.2 rfl (by decide) _ 0 [] rfl N1.out ⟨w.heap.size + 1, 0, none⟩ 1 1 [.int .u32 xt] rfl rfl N2.out N3.out N4 N5 N6.out ?_)
    intro v5 w5 hown5 hgr5 _
    have hS5 := HS.out.push hgr5 hown5
    obtain ⟨a5, cap5, rfl⟩ : ∃ a cap, v5 = .slice a 1 cap := by
      rcases hown5.2 with ⟨_, h0⟩ | ⟨g, cap, cur, rfl, _⟩
      · cases h0
      · exact ⟨_, _, rfl⟩
    have b3 := (one_block hS5.box).1 3
    have HS5 : Hid (IdsS w w5 xo xt xr ax n cx (.slice a5 1 cap5) [xt]) := hS5
    clear hown5 hgr5 N1 N2 N3 N6 HS N4 N5 hS5
    go_wp2
    go_loopw [3, 4] (fun v i wr => ∃ k : Nat, k ≤ n ∧ i = .int .i64 k ∧ IdsS w wr xo xt xr ax n cx v (idsTo xt xl k)) (fun _ i _ => n - (intOf i).toNat)
    case atStart => exact ⟨0, Nat.zero_le _, rfl, by rw [idsTo_zero, if_neg ht']; exact HS5.out⟩
    case round =>
      obtain ⟨k, hk, rfl, hS⟩ := hrel
      clear HS5
      have hA := hv.below hS.bel
      obtain ⟨a', cap', rfl⟩ : ∃ a cap, u3 = .slice a (idsTo xt xl k).length cap := by
        rcases hS.own.2 with ⟨rfl, h0⟩ | ⟨g, cap, cur, rfl, _⟩
        · exact ⟨none, 0, by rw [h0]⟩
        · exact ⟨_, _, rfl⟩
      by_cases hlt : k < n
      · have hkl : k < xl.length := by rw [HL.out]; exact hlt
        obtain ⟨b1, o1, rfl, hb1, p1, p2, p3⟩ := hA k hkl
        have hsu := idsTo_succ xt xl k hkl
        have hln := idsTo_len xt xl k
        have HSU : Hid _ := hsu
        generalize idsTo xt xl k = zs at *
        have HS2 : Hid (idsTo xt xl (k + 1) = zs ++ idsA (nthA xl k)) := HSU.out
        clear hsu HSU
        generalize nthA xl k = z at *
        obtain ⟨z1, z2, z3⟩ := z
        simp only at *
        have hki : (k : Int) < (n : Int) := by omega
        have hk0 : (0 : Int) ≤ (k : Int) := by omega
        have hS4 := hS
        have c3 := (one_block hS.box).1 3
        clear hA
        by_cases h1 : z1 = 1
        · subst h1
          have hA1 : idsA (1, z2, z3) = [z2] := by simp [idsA]
          have N1 : Hid ((wr.alloc (.cells #[.int .u32 z2] 22)).ownsRow (w.heap.size + 1) 22 1 (.slice a' zs.length cap') zs.length ((zs).map (Value.int .u32))) := own_below hS4.own ((Below.refl _ _).alloc (Nat.le_refl _) _)
          have N2 : Hid (∀ (j : Nat) (u : Value), [Value.int .u32 z2][j]? = some u → (wr.alloc (.cells #[.int .u32 z2] 22)).cell? ((⟨wr.heap.size, 0, none⟩ : Addr).add j) = some u) := World.news_of_block (cs := #[.int .u32 z2]) (t := 22) (fr := (0, 0)) (by first | exact alloc_new _ _ _ | simpa using alloc_new (wr) #[.int .u32 z2] 22)
          have N3 : Hid (∀ u : Value, u ∈ [Value.int .u32 z2] → u.oneCell' = true) := by intro u hu; simp at hu; subst hu; rfl
          have N4 : zs.length + 1 ≤ maxLen := by unfold maxLen; omega
          have N5 : (zs.length + 1) * 4 ≤ 140737488355328 := by omega
          have N6 : Hid (w.heap.size + 1 ≤ (wr.alloc (.cells #[.int .u32 z2] 22)).heap.size) := by show _ ≤ _; rw [World.size_alloc]; have := (Array.getElem?_eq_some_iff.1 hS4.box).1; omega
          have HS : Hid (IdsS w (wr.alloc (.cells #[.int .u32 z2] 22)) xo xt xr (some ⟨b1, o1, none⟩) n cx (.slice a' zs.length cap') zs) := hS4.below ((Below.refl _ _).alloc (Nat.le_refl _) _)
          go_wp2_with (at_builtin; refine wpList_append_own _ rfl (.tmp 27) (.tmp 34) 36 rfl (w.heap.size + 1) 22 i0 (.int .u32 0) 1 4 Tryz.underlying36 HI.out.1 HI.out.2.1 HI.out.2.2.1 HI.out.2.2.2 rfl (by decide) _ zs.length (zs.map (Value.int .u32)) rfl N1.out ⟨wr.heap.size, 0, none⟩ 1 1 [.int .u32 z2] rfl rfl N2.out N3.out N4 N5 N6.out ?_)
          intro v5 w5 hown5 hgr5 _
          have hS5 := HS.out.push hgr5 hown5
          obtain ⟨a6, cap6, rfl⟩ : ∃ a cap, v5 = .slice a (zs.length + 1) cap := by
            rcases hown5.2 with ⟨_, h0⟩ | ⟨g, cap, cur, rfl, _⟩
            · omega
            · exact ⟨_, _, rfl⟩
          clear hown5 hgr5 N1 N2 N3 N6 HS hS4 hS
          go_wp2
          go_roundw
          case rel => exact ⟨k + 1, by omega, by go_num, by rw [HS2.out, hA1]; exact hS5⟩
          case measure => simp [intOf]; omega
        · have hA1 : idsA (z1, z2, z3) = [] := by simp [idsA, h1]
          have HS4 : Hid (IdsS w wr xo xt xr (some ⟨b1, o1, none⟩) n cx (.slice a' zs.length cap') zs) := hS4
          clear hS4
          go_wp2
          go_roundw
          case rel => exact ⟨k + 1, by omega, by go_num, by rw [HS2.out, hA1, List.append_nil]; exact HS4.out⟩
          case measure => simp [intOf]; omega
      · obtain rfl : k = n := by omega
        have hfin := hS.bel
        have hown := hS.own
        have c3 := (one_block hS.box).1 3
        clear hS hA
        go_wp2
        go_ret
        refine ⟨hfin, a', _, cap', rfl, rfl, ?_⟩
        refine ⟨hown.1, ?_⟩
        rcases hown.2 with hn0 | ⟨g, cap, cur, e1, hb, rest⟩
        · exact .inl hn0
        · exact .inr ⟨g, cap, cur, e1, by omega, rest⟩

end Go.Proofs.YtjjoggpddafajaaGreat

/-
  Uses of the package ids, and the document's Uses: the places of the instructions that name an id.
-/
namespace Go.Proofs.YtjjoggpddafajaaGreat
open Go.RowKit
set_option linter.unusedVariables false
set_option linter.unusedSimpArgs false
set_option maxRecDepth 10000

theorem IntsU.info : (Tryz.prog.info? 3).map (fun i => (i.zero, i.size, i.bytes)) = some (some (.int .i64 0), 1, 8) := by kernel_rfl

/-- A row of places while it is built, behind three boxes, the third at B. -/
structure UseS (w wr : World) (B : Nat) (gen bnd : Int) (a : Option Addr) (n c : Nat) (v : Value) (zs : List Int) : Prop where
  own : wr.ownsRow (B + 1) 3 1 v zs.length (zs.map (Value.int .i64))
  mbox : wr.heap[w.heap.size]? = some (.cells #[.int .u32 gen, .int .u32 bnd, .slice a n c] 25 (0, 0))
  sbox : wr.heap[w.heap.size + 1]? = some (.cells #[.int .i64 0, .int .i64 0] 28 (0, 0))
  tbox : wr.heap[B]? = some (.cells #[.int .i64 0, .int .i64 0] 28 (0, 0))
  bel : Below w.heap.size w wr
  lt : w.heap.size + 1 < B
theorem UseS.below {w wr wr' : World} {B : Nat} {gen bnd : Int} {a : Option Addr} {n c : Nat} {v : Value} {zs : List Int} (h : UseS w wr B gen bnd a n c v zs) (hb : Below wr.heap.size wr wr') : UseS w wr' B gen bnd a n c v zs :=
  ⟨own_below h.own hb, (hb.block _ (Array.getElem?_eq_some_iff.1 h.mbox).1).trans h.mbox, (hb.block _ (Array.getElem?_eq_some_iff.1 h.sbox).1).trans h.sbox, (hb.block _ (Array.getElem?_eq_some_iff.1 h.tbox).1).trans h.tbox, h.bel.trans (hb.mono h.bel.size), h.lt⟩
theorem UseS.push {w wr w5 : World} {B : Nat} {gen bnd : Int} {a : Option Addr} {n c : Nat} {v v' : Value} {zs : List Int} {y : Int} (h : UseS w wr B gen bnd a n c v zs) (hg : wr.grownBy w5 v.ownBlock) (hown : w5.ownsRow (B + 1) 3 1 v' (zs.length + 1) (zs.map (Value.int .i64) ++ [.int .i64 y])) : UseS w w5 B gen bnd a n c v' (zs ++ [y]) := by
  have hlo : ∀ g, v.ownBlock = some g → B + 1 ≤ g := fun g e => (h.own.lt g e).1
  have hlt := h.lt
  have kk : ∀ i, i < B + 1 → i < wr.heap.size → w5.heap[i]? = wr.heap[i]? := fun i h1 h2 => hg.block i h2 (fun e => by have := hlo _ e.symm; omega)
  refine ⟨?_, ?_, ?_, ?_, ?_, hlt⟩
  · rw [List.length_append, List.map_append]; exact hown
  · exact (kk _ (by omega) (Array.getElem?_eq_some_iff.1 h.mbox).1).trans h.mbox
  · exact (kk _ (by omega) (Array.getElem?_eq_some_iff.1 h.sbox).1).trans h.sbox
  · exact (kk _ (by omega) (Array.getElem?_eq_some_iff.1 h.tbox).1).trans h.tbox
  · exact h.bel.grown hg h.bel.size (fun k e => by have := hlo k e; omega)
theorem own_shapeU {w : World} {lo e size n : Nat} {v : Value} {xs : List Value} (h : w.ownsRow lo e size v n xs) : ∃ a c, v = .slice a n c := by
  rcases h.2 with ⟨rfl, h0⟩ | ⟨g, cap, cur, rfl, _⟩
  · exact ⟨none, 0, by rw [h0]⟩
  · exact ⟨_, _, rfl⟩
theorem own_lowU {w : World} {lo lo' e size n : Nat} {v : Value} {xs : List Value} (h : w.ownsRow lo e size v n xs) (hl : lo' ≤ lo) : w.ownsRow lo' e size v n xs := by
  refine ⟨h.1, ?_⟩
  rcases h.2 with hn0 | ⟨g, cap, cur, e1, hb, rest⟩
  · exact .inl hn0
  · exact .inr ⟨g, cap, cur, e1, by omega, rest⟩

/-- What Uses answers. -/
def UsesQ (w w' : World) (zs : List Int) (s : Int × Nat) (e : Ending) : Prop :=
  ∃ a m c, e = .returned (.tuple #[.slice a m c, .agg #[.int .i64 s.1, .int .i64 s.2]]) ∧ zs.length = m ∧ View .i64 w' a zs ∧ Below w.heap.size w w'

end Go.Proofs.YtjjoggpddafajaaGreat
