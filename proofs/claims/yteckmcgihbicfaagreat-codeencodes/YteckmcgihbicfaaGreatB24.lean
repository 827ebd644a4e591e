/-
  Texts laid together in one: Ref04Raw2, Ref04Shape, Ref01Join, Ref04Encode, LawCodeEncodes0, Ref04Words.
-/
import Derived.WalkSpells
import Derived.WalkMore
import Derived.Test.YteckmcgihbicfaaGreatProg
import Derived.Test.YteckmcgihbicfaaGreatB22
import Derived.Test.YteckmcgihbicfaaGreatB23
import Derived.Deep.QuietTactic
import Derived.BigQuiet
import Derived.Test.YteckmcgihbicfaaGreatB05
import Derived.Test.YteckmcgihbicfaaGreatB21
import Derived.Test.YteckmcgihbicfaaGreatB15
import Derived.Test.YteckmcgihbicfaaGreatB01
import Derived.Test.YteckmcgihbicfaaGreatB06
import Derived.Test.YteckmcgihbicfaaGreatB18
import Derived.Test.YteckmcgihbicfaaGreatB10
import Derived.BigRegion
import Derived.Test.YteckmcgihbicfaaGreatB20
import Derived.Test.YteckmcgihbicfaaGreatB02
import Derived.Deep.RegionWith
import Derived.Deep.AppendLies
import Derived.Test.YteckmcgihbicfaaGreatB04
/-
  What Raw of the document's answer returns, for every instruction: its words in new memory, or its error.
-/
namespace Go.Proofs.YteckmcgihbicfaaGreat
open Go.RowKit
set_option linter.unusedVariables false
set_option linter.unusedSimpArgs false
set_option maxRecDepth 10000

set_option maxHeartbeats 4000000 in
theorem refRaw4_err (x : InstT) (b : Int) (ax : Option Addr) (n cx : Nat) (w : World) (hv : ArgsV w ax x.2.2.2) (hok : InstOk x) (hl : x.2.2.2.length = n) (b0 : 0 ≤ b) (b1 : b < 4294967296) (hE : rawE x b ≠ 0) :
    Calls Tryz.prog 17 #[instV x ax n cx, .int .u32 b] w fun e w' => Below w.heap.size w w' ∧ e = .returned (.tuple #[.agg #[.int .u16 0, .slice none 0 0], .int .i64 (rawE x b)]) := by
  have hF := fun (wx : World) (hb : Below w.heap.size w wx) => refFault4_any x b ax n cx wx (hv.below hb) hok hl b0 b1
  generalize rawE x b = E at *
  have hE' : (E != 0) = true := by simp [hE]
  obtain ⟨xo, xt, xr, xl⟩ := x
  unfold instV at hF ⊢
  simp only at hF ⊢
  have hbel0 : Below w.heap.size w ((w.alloc (.cells #[.int .u16 xo, .int .u32 xt, .int .u32 xr, .slice ax n cx] 45)).alloc (.cells #[.int .u16 0, .slice none 0 0] 48)) := ((Below.refl _ w).alloc (Nat.le_refl _) _).alloc (by simp) _
  have kR : ((w.alloc (.cells #[.int .u16 xo, .int .u32 xt, .int .u32 xr, .slice ax n cx] 45)).alloc (.cells #[.int .u16 0, .slice none 0 0] 48)).heap[w.heap.size + 1]? = some (.cells #[.int .u16 0, .slice none 0 0] 48 (0, 0)) := by simpa using alloc_new (w.alloc (.cells #[.int .u16 xo, .int .u32 xt, .int .u32 xr, .slice ax n cx] 45)) #[.int .u16 0, .slice none 0 0] 48
  clear hv hok hl
  go_enter Tryz.func17, Tryz.ntmps17
  go_wp2_with fail
  generalize (w.alloc (.cells #[.int .u16 xo, .int .u32 xt, .int .u32 xr, .slice ax n cx] 45)).alloc (.cells #[.int .u16 0, .slice none 0 0] 48) = W0 at *
  refine (hF _ hbel0).mono ?_
  rintro e w1 ⟨rfl, hb1⟩
  have sR := (Array.getElem?_eq_some_iff.1 kR).1
  have kR1 := (hb1.block _ sR).trans kR
  have hbel1 := hbel0.trans (hb1.mono (by omega))
  obtain ⟨m0, mf⟩ := one_block kR1
  have m1 := m0 0
  have m2 := m0 1
  have HB3 := hide (two_put2 kR1 (.int .u16 0) (.slice none 0 0))
  have HBel := hide ((hbel1.setCell (p := ⟨w.heap.size + 1, 0, none⟩) (by simp) (.int .u16 0)).setCell (p := ⟨w.heap.size + 1, 1, none⟩) (by simp) (.slice none 0 0))
  clear hF hb1 kR hbel0 kR1 hbel1 m0
  go_wp2_with fail
  generalize (w1.setCell _ _).setCell _ _ = W9 at *
  obtain ⟨hd, _⟩ := one_block HB3.out
  have d0 := hd 0
  have d1 := hd 1
  refine bodyPost_ret (v := .tuple #[.agg #[.int .u16 0, .slice none 0 0], .int .i64 E]) ?_ rfl ⟨HBel.out, rfl⟩
  simp [results, Tryz.results17, go_sem, d0, d1]

theorem refRaw4_any (x : InstT) (b : Int) (ax : Option Addr) (n cx : Nat) (w : World) (hv : ArgsV w ax x.2.2.2) (hok : InstOk x) (hl : x.2.2.2.length = n) (b0 : 0 ≤ b) (b1 : b < 4294967296) :
    Calls Tryz.prog 17 #[instV x ax n cx, .int .u32 b] w fun e w' => Below w.heap.size w w' ∧ ∃ a m c, e = .returned (.tuple #[.agg #[.int .u16 (rawO x b), .slice a m c], .int .i64 (rawE x b)]) ∧ (rawWs x b).length = m ∧
      w'.ownsRow w.heap.size 23 1 (.slice a m c) m ((rawWs x b).map (Value.int .u32)) := by
  by_cases hE : rawE x b = 0
  · obtain ⟨h1, h2, h3⟩ := rawWs_ok hE
    have hf := faultI_zero h2
    obtain ⟨xo, xt, xr, xl⟩ := x
    simp only at h1 h2 h3 hf hv hl
    have e1 : rawO (xo, xt, xr, xl) b = xo := by unfold rawO; rw [if_pos hE]
    rw [e1, h3, hE]
    have hlk : lookF refT xo = ((lookF refT xo).1, true) := by rw [← h1]
    have hnul : ∀ k, k < n → (nthA xl k).1 = 3 → NoNul (nthA xl k).2.2 := fun k hk h3 => by
      have := wrongL_zero hf.2.2.1 k (by omega)
      unfold wrongA at this
      split at this
      · omega
      · try rw [if_pos h3] at this
        rw [← nulS_false]
        cases e : nulS (nthA xl k).2.2 with
        | false => rfl
        | true => rw [e] at this; simp at this
    have hln : (rawL (lookF refT xo).1 (xo, xt, xr, xl)).length ≤ 65535 := by omega
    clear h1 h2 h3 hf e1
    generalize (lookF refT xo).1 = f at *
    obtain ⟨nm, t, r, fx, rs, mo, pa⟩ := f
    cases t <;> cases r
    · exact refRaw4_ff xo xt xr xl b ax n cx w hv hok hl b0 b1 nm fx rs mo pa hlk hE hln hnul
    · exact refRaw4_ft xo xt xr xl b ax n cx w hv hok hl b0 b1 nm fx rs mo pa hlk hE hln hnul
    · exact refRaw4_tf xo xt xr xl b ax n cx w hv hok hl b0 b1 nm fx rs mo pa hlk hE hln hnul
    · exact refRaw4_tt xo xt xr xl b ax n cx w hv hok hl b0 b1 nm fx rs mo pa hlk hE hln hnul
  · have e1 : rawO x b = 0 := by unfold rawO; rw [if_neg hE]
    have e2 : rawWs x b = [] := by unfold rawWs; rw [if_neg hE]
    rw [e1, e2]
    refine (refRaw4_err x b ax n cx w hv hok hl b0 b1 hE).mono ?_
    rintro e w' ⟨hb, rfl⟩
    exact ⟨hb, none, 0, 0, rfl, rfl, World.ownsRow_nil _ _ _ _⟩

end Go.Proofs.YteckmcgihbicfaaGreat

/-
  What Shape of the document's answer returns: what is wrong with a module, and where.
-/
namespace Go.Proofs.YteckmcgihbicfaaGreat
open Go.RowKit
set_option linter.unusedVariables false
set_option linter.unusedSimpArgs false
set_option maxRecDepth 10000

set_option maxHeartbeats 4000000 in
theorem refShape4_any (gn b : Int) (ax : Option Addr) (n cx : Nat) (l : List InstT) (w : World) (hv : InstsV w ax l) (hok : InstsOk l) (hl : l.length = n) (hn : 40 * n ≤ 140737488351232) (b0 : 0 ≤ b) (b1 : b < 4294967296) :
    Calls Tryz.prog 31 #[modV gn b ax n cx] w fun e w' => e = .returned (.agg #[.int .i64 (shapeE b l).1, .int .i64 ((shapeE b l).2 : Int)]) ∧ Below w.heap.size w w' := by
  unfold modV
  have hbel : Below w.heap.size w ((w.alloc (.cells #[.int .u32 gn, .int .u32 b, .slice ax n cx] 26)).alloc (.cells #[.int .i64 0, .int .i64 0] 29)) := ((Below.refl _ w).alloc (Nat.le_refl _) _).alloc (by simp) _
  have kM : ((w.alloc (.cells #[.int .u32 gn, .int .u32 b, .slice ax n cx] 26)).alloc (.cells #[.int .i64 0, .int .i64 0] 29)).heap[w.heap.size]? = some (.cells #[.int .u32 gn, .int .u32 b, .slice ax n cx] 26 (0, 0)) := (Below.heap_alloc _ _ _ (by simp)).trans (alloc_new w _ _)
  have kS : ((w.alloc (.cells #[.int .u32 gn, .int .u32 b, .slice ax n cx] 26)).alloc (.cells #[.int .i64 0, .int .i64 0] 29)).heap[w.heap.size + 1]? = some (.cells #[.int .i64 0, .int .i64 0] 29 (0, 0)) := by simpa using alloc_new (w.alloc (.cells #[.int .u32 gn, .int .u32 b, .slice ax n cx] 26)) #[.int .i64 0, .int .i64 0] 29
  by_cases hb : b = 0 ∨ 65536 < b
  · have e1 : shapeE b l = (24, 0) := by unfold shapeE; rw [if_pos hb]
    rw [e1]
    clear hv hok hl e1 kM kS
    by_cases hb0 : b = 0
    · subst hb0
      go_enter Tryz.func31, Tryz.ntmps31
      go_wp2
      refine bodyPost_ret (v := .agg #[.int .i64 24, .int .i64 0]) ?_ rfl ⟨rfl, ?_⟩
      · simp [results, Tryz.results31, go_sem]
      · exact ((Below.refl _ w).alloc (Nat.le_refl _) _).alloc (by simp) _
    · have hb0' : (b == 0) = false := by simpa using hb0
      have hb1' : decide ((65536 : Int) < b) = true := decide_eq_true (by omega)
      clear hb hb0
      go_enter Tryz.func31, Tryz.ntmps31
      go_wp2
      refine bodyPost_ret (v := .agg #[.int .i64 24, .int .i64 0]) ?_ rfl ⟨rfl, ?_⟩
      · simp [results, Tryz.results31, go_sem]
      · exact ((Below.refl _ w).alloc (Nat.le_refl _) _).alloc (by simp) _
  · have hb0' : (b == 0) = false := by simp; omega
    have hb1' : decide ((65536 : Int) < b) = false := decide_eq_false (by omega)
    obtain ⟨R, hR⟩ : ∃ R, R = shapeE b l := ⟨_, rfl⟩
    rw [← hR]
    have hR0 : R = shapeF b 0 (sizeTo (rawsL b l) 0) (l.drop 0) := by rw [hR]; unfold shapeE; rw [if_neg hb]; rfl
    have HR0 := hide hR0
    have HST : Hid (∀ k, k < n → shapeF b k (sizeTo (rawsL b l) k) (l.drop k) = if rawE (nthI l k) b ≠ 0 then (rawE (nthI l k) b, k) else if 1048576 < sizeTo (rawsL b l) (k + 1) then (4, k) else shapeF b (k + 1) (sizeTo (rawsL b l) (k + 1)) (l.drop (k + 1))) := fun k hk => shape_step b l k (by omega)
    have HSZ : Hid (∀ k, k < n → sizeTo (rawsL b l) (k + 1) = sizeTo (rawsL b l) k + 1 + (rawWs (nthI l k) b).length) := fun k hk => by
      rw [sizeTo_succ _ _ (by rw [rawsL_len]; omega), nthR_raws b l k (by omega)]
    have HEN : Hid (∀ k, n ≤ k → shapeF b k (sizeTo (rawsL b l) k) (l.drop k) = (0, 0)) := fun k hk => shape_end b l k _ (by omega)
    have HV := hide (hv.below hbel)
    have HBEL := hide hbel
    have HM := hide kM
    have HS := hide kS
    have HL := hide hl
    have HOK := hide hok
    have HN : Hid (40 * n ≤ 140737488351232) := hn
    have HBB : Hid (0 ≤ b ∧ b < 4294967296) := ⟨b0, b1⟩
    clear hv hok hl hn hb hR hR0 hbel kM kS b0 b1
    go_enter Tryz.func31, Tryz.ntmps31
    go_wp2
    generalize hW : (w.alloc (.cells #[.int .u32 gn, .int .u32 b, .slice ax n cx] 26)).alloc (.cells #[.int .i64 0, .int .i64 0] 29) = W at *
    have sS := (Array.getElem?_eq_some_iff.1 HS.out).1
    clear hW
    go_loopw [3, 4] (fun u i wr => ∃ k : Nat, k ≤ n ∧ i = .int .i64 k ∧ u = .int .i64 (sizeTo (rawsL b l) k : Int) ∧ Below W.heap.size W wr ∧ Hid (sizeTo (rawsL b l) k ≤ 1048576) ∧ Hid (R = shapeF b k (sizeTo (rawsL b l) k) (l.drop k))) (fun _ i _ => n - (intOf i).toNat)
    case atStart => exact ⟨0, Nat.zero_le _, rfl, rfl, Below.refl _ _, by show (5 : Nat) ≤ _; omega, HR0⟩
    case round =>
      obtain ⟨k, hk, rfl, rfl, hbr, HLE, HRK⟩ := hrel
      clear HR0
      have kMr := (hbr.block _ (by omega)).trans HM.out
      have kSr := (hbr.block _ sS).trans HS.out
      have hvr := HV.out.below hbr
      have sr : w.heap.size + 1 < wr.heap.size := Nat.lt_of_lt_of_le sS hbr.size
      have m2 := (one_block kMr).1 2
      have hfr := HBEL.out.trans (hbr.mono HBEL.out.size)
      have hkb : (k : Int) < 140737488351232 := by have := HN.out; omega
      by_cases hlt : k < n
      · have hkl : k < l.length := by rw [HL.out]; exact hlt
        obtain ⟨g1, o1, aj, cj, nj, rfl, hg1, p1, p2, p3, p4, p5, p6, p7⟩ := hvr k hkl
        have hki : (k : Int) < (n : Int) := by omega
        have hk0 : (0 : Int) ≤ (k : Int) := by omega
        have hS1 := HST.out k hlt
        have hS2 := HSZ.out k hlt
        rw [← HRK.out] at hS1
        have HS1 := hide hS1
        have HS2 := hide hS2
        have a1 := fun s : InC (Below wr.heap.size wr) => s.cell (p := ⟨w.heap.size, 1, none⟩) (by show w.heap.size < _; omega) ((one_block kMr).1 1)
        have a2 := fun s : InC (Below wr.heap.size wr) => s.cell (p := ⟨w.heap.size, 2, none⟩) (by show w.heap.size < _; omega) ((one_block kMr).1 2)
        have q1 := fun s : InC (Below wr.heap.size wr) => s.cell (p := ⟨g1, o1 + k * 4, none⟩) hg1 p1
        have q2 := fun s : InC (Below wr.heap.size wr) => s.cell (p := ⟨g1, o1 + k * 4 + 1, none⟩) hg1 p2
        have q3 := fun s : InC (Below wr.heap.size wr) => s.cell (p := ⟨g1, o1 + k * 4 + 2, none⟩) hg1 p3
        have q4 := fun s : InC (Below wr.heap.size wr) => s.cell (p := ⟨g1, o1 + k * 4 + 3, none⟩) hg1 p4
        have hne : Nonempty (InC (Below wr.heap.size wr)) := ⟨⟨wr, Below.refl _ _⟩⟩
        have hbl := below_drew wr
        have hF := fun s : InC (Below wr.heap.size wr) => Calls.inC s (refFault4_any (nthI l k) b aj nj cj s.w (p6.below s.ok) (HOK.out k hkl) p5 HBB.out.1 HBB.out.2)
        have HIK := hide (HOK.out k hkl)
        have HP := hide (show wr.cell? ⟨g1, o1 + k * 4, none⟩ = some (.int .u16 (nthI l k).1) ∧ wr.cell? ⟨g1, o1 + k * 4 + 1, none⟩ = some (.int .u32 (nthI l k).2.1) ∧ wr.cell? ⟨g1, o1 + k * 4 + 2, none⟩ = some (.int .u32 (nthI l k).2.2.1) ∧ wr.cell? ⟨g1, o1 + k * 4 + 3, none⟩ = some (.slice aj nj cj) ∧ (nthI l k).2.2.2.length = nj ∧ ArgsV wr aj (nthI l k).2.2.2 from ⟨p1, p2, p3, p4, p5, p6⟩)
        have HMr := hide kMr
        have HSr := hide kSr
        clear hS1 hS2 p1 p2 p3 p4 p5 p6 p7 hvr kMr kSr HST HSZ HEN HV HM HS HOK HRK
        generalize hz : nthI l k = z at *
        clear hz
        have hRL : rawE z b = 0 → (lookF refT z.1).2 = true ∧ rawWs z b = rawL (lookF refT z.1).1 z ∧ (rawL (lookF refT z.1).1 z).length ≤ 65535 := fun h => by
          obtain ⟨h1, h2, h3⟩ := rawWs_ok h
          have := faultI_zero h2
          exact ⟨h1, h3, by omega⟩
        have HRL := hide hRL
        clear hRL
        generalize hE : rawE z b = E at *
        clear hE
        obtain ⟨zo, zt, zr, zl⟩ := z
        unfold instV at hF
        simp only at *
        go_wp2_with fail
        refine wp_region_class (C := Below wr.heap.size wr) (by kernel_rfl) (by kernel_rfl) hbl ?_
        repeat (go_big_quiet_step ((go_at_call 38; exact hF _)))
        refine wpQuiet_nil ?_
        rintro _ ⟨s, rfl⟩
        have hbs := hbr.trans (s.ok.mono hbr.size)
        have hfs := hfr.trans (s.ok.mono hfr.size)
        have kM3 := (s.ok.block _ (by omega)).trans HMr.out
        have kS3 := (s.ok.block _ sr).trans HSr.out
        have s3 : w.heap.size + 1 < s.w.heap.size := Nat.lt_of_lt_of_le sr s.ok.size
        have r1 := q1 s
        have r2 := q2 s
        have r3 := q3 s
        have r4 := q4 s
        have r6 := HP.out.2.2.2.2.2.below s.ok
        have sg : g1 < s.w.heap.size := Nat.lt_of_lt_of_le hg1 s.ok.size
        clear hne hF a1 a2 q1 q2 q3 q4 hbr hfr hbl HMr HSr
        generalize s.w = W3 at *
        have m2 := (one_block kM3).1 2
        by_cases hE0 : E = 0
        · subst hE0
          obtain ⟨t1, t2, t3⟩ := HRL.out (by trivial)
          have hOf := fun wx => refOf_any zo wx
          have eV : ofV zo = formV zo (lookF refT zo).1 := by unfold ofV; rw [if_pos t1]
          rw [eV, t1] at hOf
          have H2 := HS2.out
          rw [t2] at H2
          have hRm := fun (wx : World) (f : Frm) (h : (lookF refT zo).1 = f) (hvx : ArgsV wx aj zl) => refRoom4_any (zo, zt, zr, zl) zo f aj nj cj wx hvx HIK.out HP.out.2.2.2.2.1 (by
            have : (wordsL zl).length ≤ (rawL (lookF refT zo).1 (zo, zt, zr, zl)).length := by unfold rawL; simp
            simp only; omega)
          generalize hf : (lookF refT zo).1 = f at *
          have hRm' := fun wx => hRm wx f rfl
          clear hRm hf eV t1 t2
          generalize hLn : (rawL f (zo, zt, zr, zl)).length = ln at *
          clear hLn
          have HT3 := hide t3
          have HH2 := hide H2
          have HRM := hide hRm'
          clear t3 H2 hRm' HS2
          obtain ⟨nm, t, r, fx, rs, mo, pa⟩ := f
          unfold formV at hOf HRM
          unfold instV at HRM
          simp only at hOf HRM
          go_wp2_with fail
          refine (hOf _).mono ?_
          rintro e w4 ⟨rfl, hb4⟩
          have hba : Below w4.heap.size w4 (w4.alloc (.cells #[.int .u16 zo, .string nm, .bool t, .bool r, .string fx, .string rs, .int .i64 mo, .int .u8 pa] 80)) := (Below.refl _ _).alloc (Nat.le_refl _) _
          have hb4a := hb4.trans (hba.mono hb4.size)
          have kM4 := (hb4a.block _ (by omega)).trans kM3
          have kS4 := (hb4a.block _ s3).trans kS3
          have kF4 := alloc_new w4 #[.int .u16 zo, .string nm, .bool t, .bool r, .string fx, .string rs, .int .i64 mo, .int .u8 pa] 80
          have u1 := (hb4a.cell (p := ⟨g1, o1 + k * 4, none⟩) sg).trans r1
          have u2 := (hb4a.cell (p := ⟨g1, o1 + k * 4 + 1, none⟩) sg).trans r2
          have u3 := (hb4a.cell (p := ⟨g1, o1 + k * 4 + 2, none⟩) sg).trans r3
          have u4 := (hb4a.cell (p := ⟨g1, o1 + k * 4 + 3, none⟩) sg).trans r4
          have u6 := r6.below hb4a
          have hbs4 := hbs.trans (hb4a.mono hbs.size)
          have hfs4 := hfs.trans (hb4a.mono hfs.size)
          have sg4 : g1 < (w4.alloc (.cells #[.int .u16 zo, .string nm, .bool t, .bool r, .string fx, .string rs, .int .i64 mo, .int .u8 pa] 80)).heap.size := Nat.lt_of_lt_of_le sg hb4a.size
          have sF4 : w4.heap.size < (w4.alloc (.cells #[.int .u16 zo, .string nm, .bool t, .bool r, .string fx, .string rs, .int .i64 mo, .int .u8 pa] 80)).heap.size := by simp
          have s4 : w.heap.size + 1 < (w4.alloc (.cells #[.int .u16 zo, .string nm, .bool t, .bool r, .string fx, .string rs, .int .i64 mo, .int .u8 pa] 80)).heap.size := Nat.lt_of_lt_of_le s3 hb4a.size
          clear hOf hb4 hba hb4a r1 r2 r3 r4 r6 kM3 kS3 m2 hbs hfs
          go_wp2_with fail
          generalize hW4 : w4.alloc (.cells #[.int .u16 zo, .string nm, .bool t, .bool r, .string fx, .string rs, .int .i64 mo, .int .u8 pa] 80) = W4 at *
          clear hW4
          have a2 := fun s : InC (Below W4.heap.size W4) => s.cell (p := ⟨w.heap.size, 2, none⟩) (by show w.heap.size < _; omega) ((one_block kM4).1 2)
          have q1 := fun s : InC (Below W4.heap.size W4) => s.cell (p := ⟨g1, o1 + k * 4, none⟩) sg4 u1
          have q2 := fun s : InC (Below W4.heap.size W4) => s.cell (p := ⟨g1, o1 + k * 4 + 1, none⟩) sg4 u2
          have q3 := fun s : InC (Below W4.heap.size W4) => s.cell (p := ⟨g1, o1 + k * 4 + 2, none⟩) sg4 u3
          have q4 := fun s : InC (Below W4.heap.size W4) => s.cell (p := ⟨g1, o1 + k * 4 + 3, none⟩) sg4 u4
          obtain ⟨d0, d1, d2, d3, d4, d5, d6, d7, df⟩ := frm_cells (n := zo) (f := (nm, t, r, fx, rs, mo, pa)) kF4
          simp only at d0 d1 d2 d3 d4 d5 d6 d7
          have v0 := fun s : InC (Below W4.heap.size W4) => s.cell (p := ⟨w4.heap.size, 0, none⟩) sF4 d0
          have v1 := fun s : InC (Below W4.heap.size W4) => s.cell (p := ⟨w4.heap.size, 1, none⟩) sF4 d1
          have v2 := fun s : InC (Below W4.heap.size W4) => s.cell (p := ⟨w4.heap.size, 2, none⟩) sF4 d2
          have v3 := fun s : InC (Below W4.heap.size W4) => s.cell (p := ⟨w4.heap.size, 3, none⟩) sF4 d3
          have v4 := fun s : InC (Below W4.heap.size W4) => s.cell (p := ⟨w4.heap.size, 4, none⟩) sF4 d4
          have v5 := fun s : InC (Below W4.heap.size W4) => s.cell (p := ⟨w4.heap.size, 5, none⟩) sF4 d5
          have v6 := fun s : InC (Below W4.heap.size W4) => s.cell (p := ⟨w4.heap.size, 6, none⟩) sF4 d6
          have v7 := fun s : InC (Below W4.heap.size W4) => s.cell (p := ⟨w4.heap.size, 7, none⟩) sF4 d7
          have hne : Nonempty (InC (Below W4.heap.size W4)) := ⟨⟨W4, Below.refl _ _⟩⟩
          have hbl := below_drew W4
          have hM := fun s : InC (Below W4.heap.size W4) => Calls.inC s (HRM.out s.w (u6.below s.ok))
          have hsz := HLE.out
          generalize hszk : sizeTo (rawsL b l) k = szk at *
          have hln := HT3.out
          have hwr : IntKind.i64.wrap ((szk : Int) + (1 + (ln : Int))) = (szk : Int) + (1 + (ln : Int)) := by rw [IntKind.wrap_i64]; omega
          have hwr2 : IntKind.i64.wrap ((szk : Int) + ((1 + ln : Nat) : Int)) = (szk : Int) + (1 + (ln : Int)) := by rw [IntKind.wrap_i64]; omega
          have HSK := hide hsz
          clear d0 d1 d2 d3 d4 d5 d6 d7 df u1 u2 u3 u4 u6 kF4 hszk hln hsz
          refine wp_region_class (C := Below W4.heap.size W4) (by kernel_rfl) (by kernel_rfl) hbl ?_
          repeat (go_big_quiet_step ((go_at_call 60; exact hM _)))
          refine wpQuiet_nil ?_
          rintro _ ⟨s, rfl⟩
          have hbs5 := hbs4.trans (s.ok.mono hbs4.size)
          have hfs5 := hfs4.trans (s.ok.mono hfs4.size)
          have kS5 := (s.ok.block _ s4).trans kS4
          have s5 : w.heap.size + 1 < s.w.heap.size := Nat.lt_of_lt_of_le s4 s.ok.size
          clear hne hM a2 q1 q2 q3 q4 v0 v1 v2 v3 v4 v5 v6 v7 hbs4 hfs4 hbl kM4 kS4
          generalize s.w = W5 at *
          by_cases hgt : 1048576 < szk + 1 + ln
          · have e9 := HS1.out
            rw [if_neg (by simp), HH2.out, if_pos hgt] at e9
            subst e9
            have hd : decide ((1048576 : Int) < (szk : Int) + (1 + (ln : Int))) = true := decide_eq_true (by omega)
            obtain ⟨mm, mf⟩ := one_block kS5
            have x0 := mm 0
            have x1 := mm 1
            have HB3 := hide (two_put2 kS5 (.int .i64 4) (.int .i64 (k : Int)))
            have HBel := hide ((hfs5.setCell (p := ⟨w.heap.size + 1, 0, none⟩) (by simp) (.int .i64 4)).setCell (p := ⟨w.heap.size + 1, 1, none⟩) (by simp) (.int .i64 (k : Int)))
            clear kS5 mm hfs5 hgt
            go_wp2_with fail
            generalize (W5.setCell _ _).setCell _ _ = W9 at *
            obtain ⟨hd, _⟩ := one_block HB3.out
            have d0 := hd 0
            have d1 := hd 1
            refine bodyPost_ret (v := .agg #[.int .i64 4, .int .i64 (k : Int)]) ?_ rfl ⟨rfl, HBel.out⟩
            simp [results, Tryz.results31, go_sem, d0, d1]
          · have e9 := HS1.out
            rw [if_neg (by simp), HH2.out, if_neg hgt] at e9
            have HE9 := hide e9
            have hd : decide ((1048576 : Int) < (szk : Int) + (1 + (ln : Int))) = false := decide_eq_false (by omega)
            have HGT : Hid (szk + 1 + ln ≤ 1048576) := by show _ ≤ _; omega
            clear e9 hgt
            go_wp2_with fail
            go_roundw
            case rel => exact ⟨k + 1, by omega, by go_num, by rw [HH2.out]; refine congrArg (Value.int .i64) ?_; omega, hbs5, by show _ ≤ _; rw [HH2.out]; exact HGT.out, by show _ = _; rw [HH2.out]; exact HE9.out⟩
            case measure => simp [intOf]; omega
        · have hE' : (E != 0) = true := by simp [hE0]
          have e9 := HS1.out
          rw [if_pos hE0] at e9
          subst e9
          obtain ⟨mm, mf⟩ := one_block kS3
          have x0 := mm 0
          have x1 := mm 1
          have HB3 := hide (two_put2 kS3 (.int .i64 E) (.int .i64 (k : Int)))
          have HBel := hide ((hfs.setCell (p := ⟨w.heap.size + 1, 0, none⟩) (by simp) (.int .i64 E)).setCell (p := ⟨w.heap.size + 1, 1, none⟩) (by simp) (.int .i64 (k : Int)))
          clear kS3 mm hfs
          go_wp2_with fail
          generalize (W3.setCell _ _).setCell _ _ = W9 at *
          obtain ⟨hd, _⟩ := one_block HB3.out
          have d0 := hd 0
          have d1 := hd 1
          refine bodyPost_ret (v := .agg #[.int .i64 E, .int .i64 (k : Int)]) ?_ rfl ⟨rfl, HBel.out⟩
          simp [results, Tryz.results31, go_sem, d0, d1]
      · obtain rfl : k = n := by omega
        have e9 := HRK.out
        rw [HEN.out k (Nat.le_refl _)] at e9
        subst e9
        obtain ⟨mm, mf⟩ := one_block kSr
        have x0 := mm 0
        have x1 := mm 1
        have HB3 := hide (two_put2 kSr (.int .i64 0) (.int .i64 0))
        have HBel := hide ((hfr.setCell (p := ⟨w.heap.size + 1, 0, none⟩) (by simp) (.int .i64 0)).setCell (p := ⟨w.heap.size + 1, 1, none⟩) (by simp) (.int .i64 0))
        clear kSr mm hfr hvr
        go_wp2_with fail
        generalize (wr.setCell _ _).setCell _ _ = W9 at *
        obtain ⟨hd, _⟩ := one_block HB3.out
        have d0 := hd 0
        have d1 := hd 1
        refine bodyPost_ret (v := .agg #[.int .i64 0, .int .i64 0]) ?_ rfl ⟨rfl, HBel.out⟩
        simp [results, Tryz.results31, go_sem, d0, d1]

end Go.Proofs.YteckmcgihbicfaaGreat

/-
  What Join of the document's answer returns: the bytes of words, in new memory; for every list of words whose bytes take at most 2^47 - 4096.
-/
namespace Go.Proofs.YteckmcgihbicfaaGreat
open Go.RowKit
set_option maxRecDepth 10000

theorem RefJoin.info : (Tryz.prog.info? 5).map (fun i => (i.zero, i.size, i.bytes)) = some (some (.int .u8 0), 1, 1) := by kernel_rfl

set_option maxHeartbeats 400000 in
theorem refJoin_any (a : Option Addr) (n cap : Nat) (zs : List Int) (w : World) (ha : View .u32 w a zs) (hl : zs.length = n) (hn : 4 * n ≤ 140737488351232) (hw : Within 4294967296 zs) :
    Calls Tryz.prog 32 #[.slice a n cap] w fun e w' => e = .returned (.slice (some ⟨w.heap.size, 0, none⟩) (4 * n) (4 * n)) ∧
      w'.ownsRow w.heap.size 5 1 (.slice (some ⟨w.heap.size, 0, none⟩) (4 * n) (4 * n)) (4 * n) ((joinL zs).map (Value.int .u8)) ∧ Below w.heap.size w w' := by
  obtain ⟨i0, hi, hz0, hz1, hz2⟩ := info_parts RefJoin.info
  have hJ := joinL_len zs
  have HL : Hid ((joinL zs).length = 4 * n) := by rw [hJ, hl]; rfl
  clear hJ
  have HB : ∀ wx, Below w.heap.size w wx → ∀ k : Nat, k < 4 * n → Calls Tryz.prog 61 #[.slice a n cap, .int .i64 k] wx fun e w' => e = .returned (.int .u8 (nth (joinL zs) k)) ∧ wx = w' :=
    fun wx hx k hk => refByte_nat a n cap zs wx k (ha.below hx) hl hw hn hk
  generalize joinL zs = js at HL HB ⊢
  clear ha hl hw
  go_enter Tryz.func32, Tryz.ntmps32
  go_wp2_with (at_make; refine wpList_make_full _ rfl _ _ 22 rfl w.heap.size 5 i0 (.int .u8 0) 1 Tryz.underlying22 hi hz0 hz1 _ _ _ _ (4 * n) rfl rfl (by omega) (by omega) (by rw [hz2]; omega) (by unfold maxLen; omega) (Nat.le_refl _) ?_)
  intro w1 hown1 hgrow1
  have hb1 : Below w.heap.size w w1 := (Below.refl _ w).grown hgrow1 (Nat.le_refl _) (by simp)
  have hr1 := made_row js hown1
  clear hown1 hgrow1
  go_wp2
  go_loopw [4] (fun i wr => ∃ k : Nat, k ≤ 4 * n ∧ i = .int .i64 k ∧ wr.ownsRow w.heap.size 5 1 (.slice (some ⟨w.heap.size, 0, none⟩) (4 * n) (4 * n)) (4 * n) ((filled js k (4 * n)).map (Value.int .u8)) ∧ Below w.heap.size w wr)
    (fun i _ => 4 * n - (intOf i).toNat)
  case atStart => exact ⟨0, Nat.zero_le _, rfl, hr1, hb1⟩
  case round =>
    obtain ⟨k, hk, rfl, hown, hnx⟩ := hrel
    clear hr1 hb1
    by_cases hlt : k < 4 * n
    · obtain ⟨d1, d2, d3⟩ := fill_step hown hlt (by rw [HL.out]; exact hlt)
      have hcall := HB wr hnx k hlt
      generalize nth js k = x at hcall d3
      have HC := hcall
      clear hown hcall
      go_wp2_with (go_at_call 61; refine HC.mono ?_; rintro e w' ⟨rfl, rfl⟩)
      go_roundw
      case rel => exact ⟨k + 1, by omega, by go_num, d3, hnx.setCell (Nat.le_refl _) _⟩
      case measure => simp [intOf]; omega
    · go_wp2
      go_ret
      obtain rfl : k = 4 * n := by omega
      rw [filled_whole js _ HL.out] at hown
      exact ⟨rfl, hown, hnx⟩

end Go.Proofs.YteckmcgihbicfaaGreat

/-
  What Encode of the document's answer returns: a module's bytes, or what is wrong with it, and where.
-/
namespace Go.Proofs.YteckmcgihbicfaaGreat
open Go.RowKit
set_option linter.unusedVariables false
set_option linter.unusedSimpArgs false
set_option maxRecDepth 10000

set_option maxHeartbeats 4000000 in
theorem refEncode4_of (gen b : Int) (ax : Option Addr) (n cx : Nat) (l : List InstT) (w : World) (hv : InstsV w ax l) (hok : InstsOk l) (hl : l.length = n) (hn : 40 * n ≤ 140737488351232) (g0 : 0 ≤ gen) (g1 : gen < 4294967296) (b0 : 0 ≤ b) (b1 : b < 4294967296)
    (hWd : (shapeE b l).1 = 0 → ∀ (wx : World), Below w.heap.size w wx → Calls Tryz.prog 33 #[modV gen b ax n cx] wx fun e w' => Below wx.heap.size wx w' ∧ ∃ a m c, e = .returned (.slice a m c) ∧ (encW gen b l).length = m ∧ w'.ownsRow wx.heap.size 23 1 (.slice a m c) m ((encW gen b l).map (Value.int .u32))) :
    Calls Tryz.prog 13 #[modV gen b ax n cx] w fun e w' => Below w.heap.size w w' ∧ ∃ a m c, e = .returned (.tuple #[.slice a m c, .agg #[.int .i64 (shapeE b l).1, .int .i64 ((shapeE b l).2 : Int)]]) ∧ (encL gen b l).length = m ∧ View .u8 w' a (encL gen b l) := by
  have hSh := fun (wx : World) (hb : Below w.heap.size w wx) => refShape4_any gen b ax n cx l wx (hv.below hb) hok hl hn b0 b1
  have hcase := shapeE_any b l
  have hwi := encW_within (l := l) g0 g1 b0 b1 hok
  have hlen : (shapeE b l).1 = 0 → (encW gen b l).length ≤ 1048576 := fun h => by
    have h1 := (shape_few h).2
    unfold encW
    rw [writeTo_len gen b _ _ (by rw [rawsL_len]; exact Nat.le_refl _)]
    exact h1
  obtain ⟨eL, hEL⟩ : ∃ eL, eL = encL gen b l := ⟨_, rfl⟩
  rw [← hEL]
  unfold encL at hEL
  unfold modV at hSh hWd ⊢
  generalize shapeE b l = E at *
  generalize encW gen b l = ws at *
  have kM : ((w.alloc (.cells #[.int .u32 gen, .int .u32 b, .slice ax n cx] 26)).alloc (.cells #[.int .i64 0, .int .i64 0] 29)).heap[w.heap.size]? = some (.cells #[.int .u32 gen, .int .u32 b, .slice ax n cx] 26 (0, 0)) := (Below.heap_alloc _ _ _ (by simp)).trans (alloc_new w _ _)
  have kS : ((w.alloc (.cells #[.int .u32 gen, .int .u32 b, .slice ax n cx] 26)).alloc (.cells #[.int .i64 0, .int .i64 0] 29)).heap[w.heap.size + 1]? = some (.cells #[.int .i64 0, .int .i64 0] 29 (0, 0)) := by simpa using alloc_new (w.alloc (.cells #[.int .u32 gen, .int .u32 b, .slice ax n cx] 26)) #[.int .i64 0, .int .i64 0] 29
  have hb0' : Below w.heap.size w ((w.alloc (.cells #[.int .u32 gen, .int .u32 b, .slice ax n cx] 26)).alloc (.cells #[.int .i64 0, .int .i64 0] 29)) := ((Below.refl _ w).alloc (Nat.le_refl _) _).alloc (by simp) _
  have hC := hSh _ hb0'
  have HB0 := hide hb0'
  have HKM := hide kM
  have HKS := hide kS
  have HWI := hide hwi
  have HWD := hide hWd
  have HLEN := hide hlen
  clear hv hok hl hn g0 g1 b0 b1 hSh hb0' kM kS hwi hWd hlen
  go_enter Tryz.func13, Tryz.ntmps13
  go_wp2_with fail
  generalize (w.alloc (.cells #[.int .u32 gen, .int .u32 b, .slice ax n cx] 26)).alloc (.cells #[.int .i64 0, .int .i64 0] 29) = W at *
  refine hC.mono ?_
  rintro x w1 ⟨rfl, hb1⟩
  obtain ⟨E1, E2⟩ := E
  simp only at hcase HWD HLEN hEL ⊢
  have sS := (Array.getElem?_eq_some_iff.1 HKS.out).1
  have hba : Below w1.heap.size w1 (w1.alloc (.cells #[.int .i64 E1, .int .i64 (E2 : Int)] 29)) := (Below.refl _ w1).alloc (Nat.le_refl _) _
  have hb1a := hb1.trans (hba.mono hb1.size)
  have kMw := (hb1.block _ (by omega)).trans HKM.out
  have i0 := (one_block kMw).1 0
  have i1 := (one_block kMw).1 1
  have i2 := (one_block kMw).1 2
  have s0 : w.heap.size < w1.heap.size := by have := hb1.size; omega
  have kM1 := (hb1a.block _ (by omega)).trans HKM.out
  have kS1 := (hb1a.block _ sS).trans HKS.out
  have hB1 := HB0.out.trans (hb1a.mono HB0.out.size)
  have s1 : w.heap.size + 1 < w1.heap.size := Nat.lt_of_lt_of_le sS hb1.size
  have kP := alloc_new w1 #[.int .i64 E1, .int .i64 (E2 : Int)] 29
  have HKM1 := hide kM1
  have HKS1 := hide kS1
  have HKP := hide kP
  have HB1 := hide hB1
  clear hC hb1 hba hb1a kM1 kS1 hB1 kP HKM HKS HB0 kMw
  by_cases hE : E1 = 0
  · subst hE
    obtain rfl : E2 = 0 := by
      rcases hcase with h | h
      · simpa using h
      · exact absurd rfl h
    rw [if_pos rfl] at hEL
    subst hEL
    have hlw := HLEN.out rfl
    have hC2 := HWD.out rfl _ HB1.out
    clear hcase HLEN HWD
    go_wp2_with fail
    generalize w1.alloc (.cells #[.int .i64 0, .int .i64 ((0 : Nat) : Int)] 29) = W2 at *
    refine hC2.mono ?_
    rintro x w3 ⟨hb3, a3, m3, c3, rfl, hm3, hown3⟩
    have hB3 := HB1.out.trans (hb3.mono HB1.out.size)
    have sW := (Array.getElem?_eq_some_iff.1 HKS1.out).1
    have kS3 := (hb3.block _ sW).trans HKS1.out
    have hJ := refJoin_any a3 m3 c3 ws w3 (View.ofOwn hown3 hm3) hm3 (by omega) HWI.out
    have s3 := hb3.size
    have HB3 := hide hB3
    have HKS3 := hide kS3
    have hm3i : (m3 : Int) ≤ 1048576 := by omega
    clear hC2 hb3 hown3 hB3 kS3 i0 i1 i2 HKM1 HKS1 HKP HB1
    go_wp2_with fail
    refine hJ.mono ?_
    rintro x w4 ⟨rfl, hown4, hb4⟩
    have hB4 := HB3.out.trans (hb4.mono HB3.out.size)
    have kS4 := (hb4.block _ (by omega)).trans HKS3.out
    obtain ⟨cc, cf⟩ := one_block kS4
    have x0 := cc 0
    have x1 := cc 1
    have HB9 := hide ((hB4.setCell (p := ⟨w.heap.size + 1, 0, none⟩) (by simp) (.int .i64 0)).setCell (p := ⟨w.heap.size + 1, 1, none⟩) (by simp) (.int .i64 0))
    have HK9 := hide (two_put2 kS4 (.int .i64 0) (.int .i64 0))
    have HO9 := hide (ownsRow_setCell_below (ownsRow_setCell_below hown4 (a := ⟨w.heap.size + 1, 0, none⟩) (by simp; omega) (.int .i64 0)) (a := ⟨w.heap.size + 1, 1, none⟩) (by simp; omega) (.int .i64 0))
    have HLJ : Hid ((joinL ws).length = 4 * m3) := by show _ = _; rw [joinL_len, hm3]
    have HV9 : Hid (View .u8 ((w4.setCell ⟨w.heap.size + 1, 0, none⟩ (.int .i64 0)).setCell ⟨w.heap.size + 1, 1, none⟩ (.int .i64 0)) (some ⟨w3.heap.size, 0, none⟩) (joinL ws)) := View.ofOwn HO9.out HLJ.out
    clear hJ hown4 hb4 hB4 kS4 cc HO9 HB3 HKS3
    go_wp2_with fail
    generalize (w4.setCell ⟨w.heap.size + 1, 0, none⟩ (.int .i64 0)).setCell ⟨w.heap.size + 1, 1, none⟩ (.int .i64 0) = X at *
    obtain ⟨hd, _⟩ := one_block HK9.out
    have d0 := hd 0
    have d1 := hd 1
    refine bodyPost_ret (v := .tuple #[.slice (some ⟨w3.heap.size, 0, none⟩) (4 * m3) (4 * m3), .agg #[.int .i64 0, .int .i64 0]]) ?_ rfl ⟨HB9.out, ?_⟩
    · simp [results, Tryz.results13, go_sem, d0, d1]
    · first
        | exact ⟨_, _, _, rfl, HLJ.out, HV9.out⟩
        | exact ⟨_, _, ⟨_, rfl⟩, HLJ.out, HV9.out⟩
  · have hE' : (E1 != 0) = true := by simp [hE]
    rw [if_neg hE] at hEL
    subst hEL
    clear HWD HLEN hcase
    obtain ⟨cc, cf⟩ := one_block HKS1.out
    obtain ⟨ck, _⟩ := one_block HKP.out
    have HU := hide (And.intro (cc 0) (And.intro (cc 1) (And.intro (ck 0) (ck 1))))
    have HFF := hide cf
    have HB9 := hide ((HB1.out.setCell (p := ⟨w.heap.size + 1, 0, none⟩) (by simp) (.int .i64 E1)).setCell (p := ⟨w.heap.size + 1, 1, none⟩) (by simp) (.int .i64 (E2 : Int))).drew
    have hK9 := two_put2 HKS1.out (.int .i64 E1) (.int .i64 (E2 : Int))
    have HK9 : Hid ((((w1.alloc (.cells #[.int .i64 E1, .int .i64 (E2 : Int)] 29)).setCell ⟨w.heap.size + 1, 0, none⟩ (.int .i64 E1)).setCell ⟨w.heap.size + 1, 1, none⟩ (.int .i64 (E2 : Int))).drew.heap[w.heap.size + 1]? = some (.cells #[.int .i64 E1, .int .i64 (E2 : Int)] 29 (0, 0))) := by
      generalize ((w1.alloc (.cells #[.int .i64 E1, .int .i64 (E2 : Int)] 29)).setCell ⟨w.heap.size + 1, 0, none⟩ (.int .i64 E1)).setCell ⟨w.heap.size + 1, 1, none⟩ (.int .i64 (E2 : Int)) = Y at *
      exact hK9
    clear cc ck cf HKS1 HKP HKM1 HB1 hK9
    go_wp2_with fail
    generalize w1.alloc (.cells #[.int .i64 E1, .int .i64 (E2 : Int)] 29) = W2 at *
    obtain ⟨u0, u1, v0, v1⟩ := HU.out
    have cf := HFF.out
    have n2 : w1.heap.size ≠ w.heap.size + 1 := by omega
    clear HU HFF
    go_region
    generalize ((W2.setCell ⟨w.heap.size + 1, 0, none⟩ (.int .i64 E1)).setCell ⟨w.heap.size + 1, 1, none⟩ (.int .i64 (E2 : Int))).drew = X at *
    clear u0 u1 v0 v1 cf
    go_wp2
    obtain ⟨hd, _⟩ := one_block HK9.out
    have d0 := hd 0
    have d1 := hd 1
    refine bodyPost_ret (v := .tuple #[.slice none 0 0, .agg #[.int .i64 E1, .int .i64 (E2 : Int)]]) ?_ rfl ⟨HB9.out, ?_⟩
    · simp [results, Tryz.results13, go_sem, d0, d1]
    · first
        | exact ⟨none, 0, 0, rfl, rfl, fun j hj => by simp at hj⟩
        | exact ⟨none, 0, ⟨0, rfl⟩, rfl, fun j hj => by simp at hj⟩

end Go.Proofs.YteckmcgihbicfaaGreat

/-
  The law CodeEncodes answers true, for every module, by what Words of the document's answer returns.
-/
namespace Go.Proofs.YteckmcgihbicfaaGreat
open Go.RowKit
set_option linter.unusedVariables false
set_option linter.unusedSimpArgs false
set_option maxRecDepth 10000

set_option maxHeartbeats 4000000 in
theorem codeEncodes_of (w : World) (gen b : Int) (ax : Option Addr) (n cx : Nat) (l : List InstT) (hl : l.length = n) (hv : InstsV w ax l) (hok : InstsOk l) (hr : 40 * n ≤ 140737488351232) (hc : n ≤ cx) (hbd : 0 ≤ gen ∧ gen < 4294967296 ∧ 0 ≤ b ∧ b < 4294967296)
    (hWd : ∀ (wy : World), InstsV wy ax l → (shapeE b l).1 = 0 → Calls Tryz.prog 33 #[modV gen b ax n cx] wy fun e w' => Below wy.heap.size wy w' ∧ ∃ a m c, e = .returned (.slice a m c) ∧ (encW gen b l).length = m ∧ w'.ownsRow wy.heap.size 23 1 (.slice a m c) m ((encW gen b l).map (Value.int .u32))) :
    Calls Tryz.prog 4 #[modV gen b ax n cx] w fun e w' => e = .returned (.bool true) ∧ Below w.heap.size w w' := by
  obtain ⟨g0, g1, b0, b1⟩ := hbd
  have hRf := fun (wx : World) (hb : Below w.heap.size w wx) => refEncode4_of gen b ax n cx l wx (hv.below hb) hok hl hr g0 g1 b0 b1 (fun hsh wy hy => hWd wy ((hv.below hb).below hy) hsh)
  have hCp := fun (wx : World) (hb : Below w.heap.size w wx) => copyModule_any gen b ax n cx l wx (hv.below hb) hok hl hr
  have hEn := fun (wx : World) (g : Option Addr) (h : InstsV wx g l) => encode_any gen b g n n l wx g0 g1 b0 b1 h hok hl hr
  have hSp := fun (wx : World) (g : Option Addr) (h : InstsV wx g l) => codeShape_any gen b g n n l wx g0 g1 b0 b1 h hok hl hr
  have hMo := fun (wx : World) (g : Option Addr) (h : InstsV wx g l) (hb : Below w.heap.size w wx) => kitModule_any gen b gen b l l g ax n n n cx wx h (hv.below hb) hl hl hok hok (by omega) (by omega) true (by simp)
  have hAw := fun w => awake4_true w
  clear hWd
  have hlen : (encL gen b l).length ≤ 4194304 := by
    unfold encL
    split
    · rename_i h
      have h1 := (shape_few h).2
      rw [joinL_len]
      unfold encW
      rw [writeTo_len gen b _ _ (by rw [rawsL_len]; exact Nat.le_refl _)]
      omega
    · simp
  generalize encL gen b l = bs at *
  generalize shapeE b l = E at *
  obtain ⟨E1, E2⟩ := E
  unfold modV at *
  simp only at *
  have hbi : (bs.length : Int) ≤ 4194304 := by omega
  have HLEN := hide hlen
  have hB0 : Below w.heap.size w (w.alloc (.cells #[.int .u32 gen, .int .u32 b, .slice ax n cx] 26)) := (Below.refl _ w).alloc (Nat.le_refl _) _
  have k0 := alloc_new w #[.int .u32 gen, .int .u32 b, .slice ax n cx] 26
  have l0 := (Array.getElem?_eq_some_iff.1 k0).1
  have HC := hide (hRf _ hB0)
  have HB0 := hide hB0
  have HK0 := hide k0
  have HL0 := hide l0
  have HHV := hide hv
  clear hRf hB0 k0 l0 hv hok hl hr hc g0 g1 b0 b1 hlen
  go_enter Tryz.func4, Tryz.ntmps4
  go_wp2_with fail
  generalize w.alloc (.cells #[.int .u32 gen, .int .u32 b, .slice ax n cx] 26) = W0 at *
  refine HC.out.mono ?_
  rintro x w1 ⟨hb1, a1, m1, c1, rfl, hm1, hv1⟩
  have hba : Below w1.heap.size w1 (w1.alloc (.cells #[.int .i64 E1, .int .i64 (E2 : Int)] 29)) := (Below.refl _ w1).alloc (Nat.le_refl _) _
  have hbW := hb1.trans (hba.mono hb1.size)
  have s1 : w.heap.size < w1.heap.size := Nat.lt_of_lt_of_le HL0.out hb1.size
  have kM1 := (hb1.block _ HL0.out).trans HK0.out
  have HKM := hide ((hbW.block _ HL0.out).trans HK0.out)
  have HKP := hide (alloc_new w1 #[.int .i64 E1, .int .i64 (E2 : Int)] 29)
  have hB1 := HB0.out.trans (hbW.mono HB0.out.size)
  have HC2 := hide (hCp _ hB1)
  have HB1 := hide hB1
  have HV1 := hide (hv1.below hba)
  obtain ⟨mm, _⟩ := one_block kM1
  have i0 := mm 0
  have i1 := mm 1
  have i2 := mm 2
  clear HC hCp hb1 hba hbW kM1 hB1 hv1 mm HB0 HK0 HL0
  go_wp2_with fail
  generalize w1.alloc (.cells #[.int .i64 E1, .int .i64 (E2 : Int)] 29) = W1 at *
  clear i0 i1 i2
  refine HC2.out.mono ?_
  rintro x w2 ⟨g, rfl, hg, hA2, hb2⟩
  have sP := (Array.getElem?_eq_some_iff.1 HKP.out).1
  have hb2a : Below w2.heap.size w2 (w2.alloc (.cells #[.int .u32 gen, .int .u32 b, .slice (some ⟨g, 0, none⟩) n n] 26)) := (Below.refl _ w2).alloc (Nat.le_refl _) _
  have hbW2 := hb2.trans (hb2a.mono hb2.size)
  have HB2 := hide (HB1.out.trans (hbW2.mono HB1.out.size))
  have HKM2 := hide ((hbW2.block _ (by omega)).trans HKM.out)
  have HKP2 := hide ((hbW2.block _ sP).trans HKP.out)
  have HKC2 := hide (alloc_new w2 #[.int .u32 gen, .int .u32 b, .slice (some ⟨g, 0, none⟩) n n] 26)
  have hA2' := hA2.below hb2a
  have HA2 := hide hA2'
  have HV2 := hide (HV1.out.below hbW2)
  have HC3 := hide (hEn _ _ hA2')
  have s2 : w1.heap.size < w2.heap.size := Nat.lt_of_lt_of_le sP hb2.size
  clear HC2 hEn hA2 hb2 hb2a hbW2 HB1 HKM HKP HV1 hA2'
  go_wp2_with fail
  generalize w2.alloc (.cells #[.int .u32 gen, .int .u32 b, .slice (some ⟨g, 0, none⟩) n n] 26) = W2 at *
  have sc := (Array.getElem?_eq_some_iff.1 HKC2.out).1
  refine HC3.out.mono ?_
  rintro x w3 ⟨hb3, a3, m3, rfl, hm3, hown3⟩
  obtain rfl : m1 = m3 := by omega
  have hb3a : Below w3.heap.size w3 (w3.alloc (.cells #[.int .i64 E1, .int .i64 (E2 : Int)] 29)) := (Below.refl _ w3).alloc (Nat.le_refl _) _
  have hbW3 := hb3.trans (hb3a.mono hb3.size)
  have s3 : w2.heap.size < w3.heap.size := Nat.lt_of_lt_of_le sc hb3.size
  have kM3 := (hbW3.block w.heap.size (by omega)).trans HKM2.out
  have kP3 := (hbW3.block w1.heap.size (by omega)).trans HKP2.out
  have kC3 := (hbW3.block w2.heap.size sc).trans HKC2.out
  have kX3 := alloc_new w3 #[.int .i64 E1, .int .i64 (E2 : Int)] 29
  have hV3 := HV2.out.below hbW3
  have hX3 := (View.ofOwn hown3 hm3).below hb3a
  have hA3 := HA2.out.below hbW3
  have hB3 := HB2.out.trans (hbW3.mono HB2.out.size)
  have HK := hide (And.intro kM3 (And.intro kP3 (And.intro kC3 kX3)))
  have HVV := hide (And.intro hV3 (And.intro hX3 hA3))
  have HB3 := hide hB3
  have hszx : (w3.alloc (.cells #[.int .i64 E1, .int .i64 (E2 : Int)] 29)).heap.size = w3.heap.size + 1 := by simp
  have HSZ := hide hszx
  clear HC3 hb3 hb3a hbW3 kM3 kP3 kC3 kX3 hV3 hX3 hA3 hB3 hown3 HV2 HA2 HKM2 HKP2 HKC2 HB2 hszx
  go_wp2_with fail
  generalize w3.alloc (.cells #[.int .i64 E1, .int .i64 (E2 : Int)] 29) = W at *
  obtain ⟨kM, kP, kC, kX⟩ := HK.out
  obtain ⟨hVb, hVx, hA⟩ := HVV.out
  have hsz := HSZ.out
  have hBW := HB3.out
  have a0 := fun s : InC (Below W.heap.size W) => s.cell (p := ⟨w.heap.size, 0, none⟩) (by show w.heap.size < _; omega) ((one_block kM).1 0)
  have a1' := fun s : InC (Below W.heap.size W) => s.cell (p := ⟨w.heap.size, 1, none⟩) (by show w.heap.size < _; omega) ((one_block kM).1 1)
  have a2 := fun s : InC (Below W.heap.size W) => s.cell (p := ⟨w.heap.size, 2, none⟩) (by show w.heap.size < _; omega) ((one_block kM).1 2)
  have p0 := fun s : InC (Below W.heap.size W) => s.cell (p := ⟨w1.heap.size, 0, none⟩) (by show w1.heap.size < _; omega) ((one_block kP).1 0)
  have p1 := fun s : InC (Below W.heap.size W) => s.cell (p := ⟨w1.heap.size, 1, none⟩) (by show w1.heap.size < _; omega) ((one_block kP).1 1)
  have c0 := fun s : InC (Below W.heap.size W) => s.cell (p := ⟨w2.heap.size, 0, none⟩) (by show w2.heap.size < _; omega) ((one_block kC).1 0)
  have c1' := fun s : InC (Below W.heap.size W) => s.cell (p := ⟨w2.heap.size, 1, none⟩) (by show w2.heap.size < _; omega) ((one_block kC).1 1)
  have c2 := fun s : InC (Below W.heap.size W) => s.cell (p := ⟨w2.heap.size, 2, none⟩) (by show w2.heap.size < _; omega) ((one_block kC).1 2)
  have x0 := fun s : InC (Below W.heap.size W) => s.cell (p := ⟨w3.heap.size, 0, none⟩) (by show w3.heap.size < _; omega) ((one_block kX).1 0)
  have x1 := fun s : InC (Below W.heap.size W) => s.cell (p := ⟨w3.heap.size, 1, none⟩) (by show w3.heap.size < _; omega) ((one_block kX).1 1)
  have hBy := fun s : InC (Below W.heap.size W) => Calls.inC_drew s (bytes_any a3 a1 m1 m1 m1 c1 bs bs s.w (hVx.below s.ok) (hVb.below s.ok) hm3 hm1 (by have := HLEN.out; omega) (by have := HLEN.out; omega) true (by simp))
  have hSs := fun s : InC (Below W.heap.size W) => Calls.inC s (hSp s.w (some ⟨g, 0, none⟩) (hA.below s.ok))
  have hMm := fun s : InC (Below W.heap.size W) => Calls.inC s (hMo s.w (some ⟨g, 0, none⟩) (hA.below s.ok) (hBW.trans (s.ok.mono hBW.size)))
  have hAa := fun s : InC (Below W.heap.size W) => Calls.inC s (hAw s.w)
  have hne : Nonempty (InC (Below W.heap.size W)) := ⟨⟨W, Below.refl _ _⟩⟩
  have hbl := below_drew W
  have HBW := hide hBW
  clear HK HVV HSZ HB3 kM kP kC kX hVb hVx hA hBW hSp hMo hAw hsz HHV
  refine wp_region_class (C := Below W.heap.size W) (by kernel_rfl) (by kernel_rfl) hbl ?_
  repeat (go_big_quiet_step ((first | (go_at_call 10; exact hBy _) | (go_at_call 16; exact hSs _) | (go_at_call 9; exact hMm _) | (go_at_call 12; exact hAa _))))
  refine wpQuiet_nil ?_
  rintro _ ⟨s, rfl⟩
  have hfin := HBW.out.trans (s.ok.mono HBW.out.size)
  clear hne hBy hSs hMm hAa a0 a1' a2 p0 p1 c0 c1' c2 x0 x1
  go_wp2
  go_ret
  exact ⟨by simp, hfin⟩

end Go.Proofs.YteckmcgihbicfaaGreat

/-
  What Words of the document's answer returns, of a module of good shape: its words, in new memory.
-/
namespace Go.Proofs.YteckmcgihbicfaaGreat
open Go.RowKit
set_option linter.unusedVariables false
set_option linter.unusedSimpArgs false
set_option maxRecDepth 10000

/-- A module's words while they are gathered. -/
structure RawsR4 (w wr : World) (gen bound : Int) (a : Option Addr) (n cap : Nat) (v : Value) (rs : List (Int × List Int)) : Prop where
  row : ∃ cs, wr.ownsRow (w.heap.size + 1) 48 2 v rs.length cs ∧ RowO wr (w.heap.size + 1) v.ownBlock rs cs
  mbox : wr.heap[w.heap.size]? = some (.cells #[.int .u32 gen, .int .u32 bound, .slice a n cap] 26 (0, 0))
  bel : Below w.heap.size w wr

theorem RawsR4.below {w wr wr' : World} {gen bound : Int} {a : Option Addr} {n cap : Nat} {v : Value} {rs : List (Int × List Int)} (h : RawsR4 w wr gen bound a n cap v rs) (hb : Below wr.heap.size wr wr') : RawsR4 w wr' gen bound a n cap v rs := by
  obtain ⟨cs, h1, h2⟩ := h.row
  exact ⟨⟨cs, own_below h1 hb, h2.below hb⟩, (hb.block _ (Array.getElem?_eq_some_iff.1 h.mbox).1).trans h.mbox, h.bel.trans (hb.mono h.bel.size)⟩
theorem RawsR4.push {w wr W w6 : World} {gen bound : Int} {a : Option Addr} {n cap : Nat} {v v' : Value} {rs : List (Int × List Int)} {cs : List Value} {op : Int} {ms : List Int} {aj : Option Addr} {nj cj g' : Nat} (h : RawsR4 w wr gen bound a n cap v rs) (h1 : wr.ownsRow (w.heap.size + 1) 48 2 v rs.length cs) (h2 : RowO wr (w.heap.size + 1) v.ownBlock rs cs)
    (hb : Below wr.heap.size wr W) (hs : W.ownsRow wr.heap.size 23 1 (.slice aj nj cj) nj (ms.map (Value.int .u32))) (hl : ms.length = nj) (hg : W.grownBy w6 v.ownBlock) (hat : v.ownBlock = some g' ∨ g' = W.heap.size) (hv' : v'.ownBlock = some g')
    (hown : w6.ownsRow (w.heap.size + 1) 48 2 v' (rs.length + 1) (cs ++ [.int .u16 op, .slice aj nj cj])) : RawsR4 w w6 gen bound a n cap v' (rs ++ [(op, ms)]) := by
  have hlo : ∀ g, v.ownBlock = some g → w.heap.size + 1 ≤ g ∧ g < wr.heap.size := fun g e => h1.lt g e
  have hl1 := (Array.getElem?_eq_some_iff.1 h.mbox).1
  have hS := h.below hb
  have hl2 := (Array.getElem?_eq_some_iff.1 hS.mbox).1
  refine ⟨⟨_, by rw [List.length_append]; exact hown, by rw [hv']; exact h2.push hb hs hl (fun b e => (hlo b e).2) (by omega) hg hat⟩, ?_, ?_⟩
  · exact (hg.block _ (by omega) (fun e => by have := (hlo _ e.symm).1; omega)).trans hS.mbox
  · exact hS.bel.grown hg hS.bel.size (fun k e => by have := (hlo k e).1; omega)

/-- The box was laid ahead of the call. -/
theorem rawbox_b {wr w5 : World} {zo : Int} {a5 : Option Addr} {m5 c5 : Nat} {ws : List Int} (hb : Below (wr.alloc (.cells #[.int .u16 0, .slice none 0 0] 48)).drew.heap.size (wr.alloc (.cells #[.int .u16 0, .slice none 0 0] 48)).drew w5) (ho : w5.ownsRow (wr.alloc (.cells #[.int .u16 0, .slice none 0 0] 48)).drew.heap.size 23 1 (.slice a5 m5 c5) m5 (ws.map (Value.int .u32))) :
    Below wr.heap.size wr ((w5.setCell ⟨wr.heap.size, 0, none⟩ (.int .u16 zo)).setCell ⟨wr.heap.size, 1, none⟩ (.slice a5 m5 c5)) ∧ ((w5.setCell ⟨wr.heap.size, 0, none⟩ (.int .u16 zo)).setCell ⟨wr.heap.size, 1, none⟩ (.slice a5 m5 c5)).heap[wr.heap.size]? = some (.cells #[.int .u16 zo, .slice a5 m5 c5] 48 (0, 0)) ∧ ((w5.setCell ⟨wr.heap.size, 0, none⟩ (.int .u16 zo)).setCell ⟨wr.heap.size, 1, none⟩ (.slice a5 m5 c5)).ownsRow wr.heap.size 23 1 (.slice a5 m5 c5) m5 (ws.map (Value.int .u32)) := by
  have hsz : (wr.alloc (.cells #[.int .u16 0, .slice none 0 0] 48)).drew.heap.size = wr.heap.size + 1 := by show (wr.alloc _).heap.size = _; simp
  have h0 : Below wr.heap.size wr (wr.alloc (.cells #[.int .u16 0, .slice none 0 0] 48)).drew := ((Below.refl _ wr).alloc (Nat.le_refl _) _).drew
  have k0 : (wr.alloc (.cells #[.int .u16 0, .slice none 0 0] 48)).drew.heap[wr.heap.size]? = some (.cells #[.int .u16 0, .slice none 0 0] 48 (0, 0)) := alloc_new wr _ _
  have hb1 := h0.trans (hb.mono (by omega))
  have k1 := (hb.block wr.heap.size (by omega)).trans k0
  refine ⟨(hb1.setCell (Nat.le_refl _) _).setCell (Nat.le_refl _) _, two_put2 k1 _ _, ?_⟩
  exact own_low4 (ownsRow_setCell_below (ownsRow_setCell_below ho (a := ⟨wr.heap.size, 0, none⟩) (by simp <;> omega) _) (a := ⟨wr.heap.size, 1, none⟩) (by simp <;> omega) _) (by omega)
theorem lt_ad (wr : World) : wr.heap.size < (wr.alloc (.cells #[.int .u16 0, .slice none 0 0] 48)).drew.heap.size := by show _ < (wr.alloc _).heap.size; simp
theorem own_shapeR {w : World} {lo e size n : Nat} {v : Value} {xs : List Value} (h : w.ownsRow lo e size v n xs) : ∃ a c, v = .slice a n c := by
  rcases h.2 with ⟨rfl, h0⟩ | ⟨g, cap, cur, rfl, _⟩
  · exact ⟨none, 0, by rw [h0]⟩
  · exact ⟨_, _, rfl⟩

set_option maxHeartbeats 8000000 in
theorem refWords4_any (gen b : Int) (ax : Option Addr) (n cx : Nat) (l : List InstT) (w : World) (hv : InstsV w ax l) (hok : InstsOk l) (hl : l.length = n) (hn : 40 * n ≤ 140737488351232) (g0 : 0 ≤ gen) (g1 : gen < 4294967296) (b0 : 0 ≤ b) (b1 : b < 4294967296) (hsh : (shapeE b l).1 = 0) :
    Calls Tryz.prog 33 #[modV gen b ax n cx] w fun e w' => Below w.heap.size w w' ∧ ∃ a m c, e = .returned (.slice a m c) ∧ (encW gen b l).length = m ∧ w'.ownsRow w.heap.size 23 1 (.slice a m c) m ((encW gen b l).map (Value.int .u32)) := by
  obtain ⟨i0, hi, hz0, hz1, hz2⟩ := info_parts Raws.info
  have HI : Hid (Tryz.prog.info? 48 = some i0 ∧ i0.zero = some (.agg #[.int .u16 0, .slice none 0 0]) ∧ i0.size = 2 ∧ i0.bytes = 32) := ⟨hi, hz0, hz1, hz2⟩
  clear hi hz0 hz1 hz2
  have hW := fun (a : Option Addr) (c : Nat) (wx : World) (hx : RawsV wx a (rawsL b l)) => refWrite_any gen b a n c (rawsL b l) wx b0 hx (rawsL_ok b hok) (by rw [rawsL_len]; exact hl) (by omega)
  have hbnd := shape_bound hsh
  have e1 : writeE b (rawsL b l) = (0, 0) := by
    unfold writeE; rw [if_neg (by omega)]; exact fault_shape hsh
  have e2 : writeL gen b (rawsL b l) = encW gen b l := by unfold writeL encW; rw [e1, if_pos rfl, rawsL_len]
  rw [e1, e2] at hW
  have HV := hide hv
  have HOK := hide hok
  have HL := hide hl
  have HN : Hid (40 * n ≤ 140737488351232) := hn
  have HBB : Hid (0 ≤ b ∧ b < 4294967296) := ⟨b0, b1⟩
  have HSE : Hid (∀ k, k < n → rawE (nthI l k) b = 0) := fun k hk => shape_each hsh k (by omega)
  have HW := hide hW
  unfold modV
  have hS0 : RawsR4 w (w.alloc (.cells #[.int .u32 gen, .int .u32 b, .slice ax n cx] 26)) gen b ax n cx (.slice none 0 0) [] :=
    ⟨⟨[], World.ownsRow_nil _ _ _ _, rowO_nil⟩, alloc_new w _ _, (Below.refl _ w).alloc (Nat.le_refl _) _⟩
  have HS0 := hide hS0
  clear hv hok hl hn hW e1 e2 hsh hbnd hS0 g0 g1 b0 b1
  go_enter Tryz.func33, Tryz.ntmps33
  go_wp2
  generalize w.alloc (.cells #[.int .u32 gen, .int .u32 b, .slice ax n cx] 26) = W at *
  go_loopw [3, 4] (fun v i wr => ∃ k : Nat, k ≤ n ∧ i = .int .i64 k ∧ RawsR4 w wr gen b ax n cx v (rawsL b (l.take k))) (fun _ i _ => n - (intOf i).toNat)
  case atStart => exact ⟨0, Nat.zero_le _, rfl, by simpa [rawsL] using HS0.out⟩
  case round =>
    obtain ⟨k, hk, rfl, hS⟩ := hrel
    clear HS0
    have hlk : (rawsL b (l.take k)).length = k := by rw [rawsL_len, List.length_take, HL.out]; omega
    obtain ⟨cs, hc1, hc2⟩ := hS.row
    obtain ⟨a', cap', rfl⟩ := own_shapeR hc1
    rw [hlk] at hS hc1 hc2 ⊢
    have hA := HV.out.below hS.bel
    have m2 := (one_block hS.mbox).1 2
    have hsw := (Array.getElem?_eq_some_iff.1 hS.mbox).1
    have hkb : (k : Int) < 140737488351232 := by have := HN.out; omega
    by_cases hlt : k < n
    · have hkl : k < l.length := by rw [HL.out]; exact hlt
      obtain ⟨g1, o1, aj, cj, nj, rfl, hg1, p1, p2, p3, p4, p5, p6, p7⟩ := hA k hkl
      have hki : (k : Int) < (n : Int) := by omega
      have hk0 : (0 : Int) ≤ (k : Int) := by omega
      have hRw := fun (wx : World) (hx : Below wr.heap.size wr wx) => refRaw4_any (nthI l k) b aj nj cj wx (p6.below hx) (HOK.out k hkl) p5 HBB.out.1 HBB.out.2
      have hE := HSE.out k hlt
      have hro : rawO (nthI l k) b = (nthI l k).1 := by unfold rawO; rw [if_pos hE]
      rw [hE, hro] at hRw
      have HTK := hide (rawsL_take b l k hkl)
      have m1 := (one_block hS.mbox).1 1
      have HM2 := hide m2
      clear hE hro hA p5 p6 p7
      generalize nthI l k = z at *
      generalize hws : rawWs z b = ws at *
      obtain ⟨zo, zt, zr, zl⟩ := z
      unfold instV at hRw
      simp only at p1 p2 p3 p4 hRw HTK
      have hq1 : w.heap.size < wr.heap.size := hsw
      clear hws
      go_wp2_with fail
      go_region_with ((go_at_call 17; first | (refine (hRw _ (Below.refl _ _).drew).mono ?_; rintro x w5 ⟨hb5, a5, m5, c5, rfl, hm5, hown5⟩; have HB5 := hide hb5; have HO5 := hide hown5; have HM5 := hide hm5; clear hm5) | (refine (hRw _ ((Below.refl _ _).alloc (Nat.le_refl _) _).drew).mono ?_; rintro x w5 ⟨hb5, a5, m5, c5, rfl, hm5, hown5⟩; have y0 := hb5.cell (p := ⟨wr.heap.size, 0, none⟩) (lt_ad wr); have y1 := hb5.cell (p := ⟨wr.heap.size, 1, none⟩) (lt_ad wr); have y2 := hb5.frozen (p := ⟨wr.heap.size, 0, none⟩) (lt_ad wr); have y3 := hb5.frozen (p := ⟨wr.heap.size, 1, none⟩) (lt_ad wr); have HB5 := hide hb5; have HO5 := hide hown5; have HM5 := hide hm5; clear hm5)))
      all_goals
        first
          | (obtain ⟨hbX, kX, hoX⟩ := rawbox_b (zo := zo) HB5.out HO5.out; clear HB5 HO5 y0 y1 y2 y3; generalize (w5.setCell ⟨wr.heap.size, 0, none⟩ (.int .u16 zo)).setCell ⟨wr.heap.size, 1, none⟩ (.slice a5 m5 c5) = X at *; obtain ⟨MB, hMB⟩ : ∃ MB, MB = wr.heap.size := ⟨_, rfl⟩; rw [← hMB] at kX ⊢; clear hMB)
          | (have hb5 : Below wr.drew.heap.size wr.drew w5 := HB5.out; have hbX := ((below_drew wr).trans hb5).alloc hb5.size (.cells #[.int .u16 zo, .slice a5 m5 c5] 48); have kX := alloc_new w5 #[.int .u16 zo, .slice a5 m5 c5] 48; have hoX : (w5.alloc (.cells #[.int .u16 zo, .slice a5 m5 c5] 48)).ownsRow wr.heap.size 23 1 (.slice a5 m5 c5) m5 (ws.map (Value.int .u32)) := own_below HO5.out ((Below.refl _ w5).alloc (Nat.le_refl _) _); clear hb5 HB5 HO5; generalize w5.alloc (.cells #[.int .u16 zo, .slice a5 m5 c5] 48) = X at *; generalize w5.heap.size = MB at *)
        obtain ⟨q0, q1, _⟩ := cell_of_two kX
        have sX := (Array.getElem?_eq_some_iff.1 kX).1
        have N0 : Below wr.heap.size wr (X.alloc (.cells #[.int .u16 zo, .slice a5 m5 c5] 48)) := hbX.alloc hbX.size _
        have N1 : Hid ((X.alloc (.cells #[.int .u16 zo, .slice a5 m5 c5] 48)).ownsRow (w.heap.size + 1) 48 2 (.slice a' k cap') k cs) := own_below hc1 N0
        have N2 : Hid (∀ (j : Nat) (u : Value), [Value.int .u16 zo, .slice a5 m5 c5][j]? = some u → (X.alloc (.cells #[.int .u16 zo, .slice a5 m5 c5] 48)).cell? ((⟨X.heap.size, 0, none⟩ : Addr).add j) = some u) := World.news_of_block (cs := #[.int .u16 zo, .slice a5 m5 c5]) (t := 48) (fr := (0, 0)) (alloc_new X _ _)
        have N3 : Hid (∀ u : Value, u ∈ [Value.int .u16 zo, .slice a5 m5 c5] → u.oneCell' = true) := by intro u hu; simp at hu; rcases hu with rfl | rfl <;> rfl
        have N4 : k + 1 ≤ maxLen := by have := HN.out; unfold maxLen; omega
        have N5 : (k + 1) * 32 ≤ 140737488355328 := by have := HN.out; omega
        have N6 : Hid (w.heap.size + 1 ≤ (X.alloc (.cells #[.int .u16 zo, .slice a5 m5 c5] 48)).heap.size) := by show _ ≤ _; have := N0.size; omega
        have N7 : Hid ((X.alloc (.cells #[.int .u16 zo, .slice a5 m5 c5] 48)).ownsRow wr.heap.size 23 1 (.slice a5 m5 c5) m5 (ws.map (Value.int .u32))) := own_below hoX ((Below.refl _ _).alloc (Nat.le_refl _) _)
        have HN0 := hide N0
        have HS := hide hS
        have HC1 := hide hc1
        have HC2 := hide hc2
        have HLK := hide hlk
        have HN4 := hide N4
        have HN5 := hide N5
        clear hS hbX kX hoX N0 hc1 hc2 hlk N4 N5 HM2 m1 m2 p1 p2 p3 p4 hRw
        go_wp2_with (at_builtin; refine wpList_append_lies _ rfl (.tmp 27) (.tmp 29) 60 rfl (w.heap.size + 1) 48 i0 (.agg #[.int .u16 0, .slice none 0 0]) 2 32 Tryz.underlying60 HI.out.1 HI.out.2.1 HI.out.2.2.1 HI.out.2.2.2 rfl (by decide) (.slice a' k cap') k cs rfl N1.out ⟨X.heap.size, 0, none⟩ 1 1 [.int .u16 zo, .slice a5 m5 c5] rfl rfl N2.out N3.out (by decide) HN4.out HN5.out N6.out _ rfl ?_)
        intro g6 cap6 w6 hown6 hgr6 hat6 hlt6
        have hS6 := HS.out.push (v' := .slice (some ⟨g6, 0, none⟩) (k + 1) cap6) (by rw [HLK.out]; exact HC1.out) HC2.out HN0.out N7.out HM5.out hgr6 (by simpa using hat6) rfl (by rw [HLK.out]; exact hown6)
        have HS6 := hide hS6
        rw [← HTK.out] at HS6
        clear hS6 hown6 hgr6 hat6 hlt6 N1 N2 N3 N6 N7 HN0 HS HC1 HC2 q0 q1 HN4 HN5
        go_wp2
        go_roundw
        case rel => exact ⟨k + 1, by omega, by go_num, HS6.out⟩
        case measure => simp [intOf]; omega
    · obtain rfl : k = n := by omega
      have htk : l.take k = l := List.take_of_length_le (by rw [HL.out]; exact Nat.le_refl _)
      rw [htk] at hc2 hlk
      have hV := (hc2.own hc1 hlk).view
      have hC := HW.out a' cap' wr hV
      have m0 := (one_block hS.mbox).1 0
      have m1 := (one_block hS.mbox).1 1
      have hbel := hS.bel
      clear hS hc1 hc2 hA hV HW
      go_wp2_with fail
      refine hC.mono ?_
      rintro x w5 ⟨hb5, a5, c5, m5, rfl, hm5, hown5⟩
      have HB := hide (hbel.trans (hb5.mono hbel.size))
      have HO := hide (own_low4 hown5 hbel.size)
      clear hC hb5 hown5 hbel m0 m1 m2
      go_wp2
      go_ret
      exact ⟨HB.out.alloc HB.out.size _, a5, m5, c5, rfl, hm5, own_below HO.out ((Below.refl _ w5).alloc (Nat.le_refl _) _)⟩

end Go.Proofs.YteckmcgihbicfaaGreat
