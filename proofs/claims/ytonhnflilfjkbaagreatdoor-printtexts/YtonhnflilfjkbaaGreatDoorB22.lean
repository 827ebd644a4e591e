/-
  Texts laid together in one: Ref04Raw2, PrintLineF, Ref08Line, Ref04Shape, Ref06Part, Ref06Quoted, Ref08Text.
-/
import Derived.WalkSpells
import Derived.WalkMore
import Derived.Test.YtonhnflilfjkbaaGreatDoorProg
import Derived.Test.YtonhnflilfjkbaaGreatDoorB20
import Derived.Test.YtonhnflilfjkbaaGreatDoorB21
import Derived.BigRegion
import Derived.Test.YtonhnflilfjkbaaGreatDoorB13
import Derived.Test.YtonhnflilfjkbaaGreatDoorB14
import Derived.Test.YtonhnflilfjkbaaGreatDoorB16
import Derived.Test.YtonhnflilfjkbaaGreatDoorB09
import Derived.Test.YtonhnflilfjkbaaGreatDoorB17
import Derived.Test.YtonhnflilfjkbaaGreatDoorB19
import Derived.Deep.QuietTactic
import Derived.BigQuiet
import Derived.Test.YtonhnflilfjkbaaGreatDoorB03
import Derived.Test.YtonhnflilfjkbaaGreatDoorB12
import Derived.Test.YtonhnflilfjkbaaGreatDoorB08
import Derived.Test.YtonhnflilfjkbaaGreatDoorB01
import Derived.Test.YtonhnflilfjkbaaGreatDoorB04
import Derived.Test.YtonhnflilfjkbaaGreatDoorB18
import Derived.Laws.BytesArg
import Derived.OwnWalk
import Derived.BigFrame
import Derived.Lib.AppendStr
import Derived.Test.YtonhnflilfjkbaaGreatDoorB02
import Derived.Test.YtonhnflilfjkbaaGreatDoorB06
/-
  What Raw of the document's answer returns, for every instruction: its words in new memory, or its error.
-/
namespace Go.Proofs.YtonhnflilfjkbaaGreatDoor
open Go.RowKit
set_option linter.unusedVariables false
set_option linter.unusedSimpArgs false
set_option maxRecDepth 10000

set_option maxHeartbeats 4000000 in
theorem refRaw4_err (x : InstT) (b : Int) (ax : Option Addr) (n cx : Nat) (w : World) (hv : ArgsV w ax x.2.2.2) (hok : InstOk x) (hl : x.2.2.2.length = n) (b0 : 0 ≤ b) (b1 : b < 4294967296) (hE : rawE x b ≠ 0) :
    Calls Tryz.prog 24 #[instV x ax n cx, .int .u32 b] w fun e w' => Below w.heap.size w w' ∧ e = .returned (.tuple #[.agg #[.int .u16 0, .slice none 0 0], .int .i64 (rawE x b)]) := by
  have hF := fun (wx : World) (hb : Below w.heap.size w wx) => refFault4_any x b ax n cx wx (hv.below hb) hok hl b0 b1
  generalize rawE x b = E at *
  have hE' : (E != 0) = true := by simp [hE]
  obtain ⟨xo, xt, xr, xl⟩ := x
  unfold instV at hF ⊢
  simp only at hF ⊢
  have hbel0 : Below w.heap.size w ((w.alloc (.cells #[.int .u16 xo, .int .u32 xt, .int .u32 xr, .slice ax n cx] 38)).alloc (.cells #[.int .u16 0, .slice none 0 0] 54)) := ((Below.refl _ w).alloc (Nat.le_refl _) _).alloc (by simp) _
  have kR : ((w.alloc (.cells #[.int .u16 xo, .int .u32 xt, .int .u32 xr, .slice ax n cx] 38)).alloc (.cells #[.int .u16 0, .slice none 0 0] 54)).heap[w.heap.size + 1]? = some (.cells #[.int .u16 0, .slice none 0 0] 54 (0, 0)) := by simpa using alloc_new (w.alloc (.cells #[.int .u16 xo, .int .u32 xt, .int .u32 xr, .slice ax n cx] 38)) #[.int .u16 0, .slice none 0 0] 54
  clear hv hok hl
  go_enter Tryz.func24, Tryz.ntmps24
  go_wp2_with fail
  generalize (w.alloc (.cells #[.int .u16 xo, .int .u32 xt, .int .u32 xr, .slice ax n cx] 38)).alloc (.cells #[.int .u16 0, .slice none 0 0] 54) = W0 at *
  refine (hF _ hbel0).mono ?_
  rintro e w1 ⟨rfl, hb1⟩
  have sR := (Array.getElem?_eq_some_iff.1 kR).1
  have kR1 := (hb1.block _ sR).trans kR
  have hbel1 := hbel0.trans (hb1.mono (by omega))
  obtain ⟨m0, mf⟩ := one_block kR1
  have m1 := m0 0
  have m2 := m0 1
  have HB3 := hide (two_put2 kR1 (.int .u16 0) (.slice none 0 0))
  have HBel := hide ((hbel1.setCell (p := ⟨w.heap.size + 1, 0, none⟩) (by simp) (.int .u16 0)).setCell (p := ⟨w.heap.size + 1, 1, none⟩) (by simp) (.slice none 0 0))
  clear hF hb1 kR hbel0 kR1 hbel1 m0
  go_wp2_with fail
  generalize (w1.setCell _ _).setCell _ _ = W9 at *
  obtain ⟨hd, _⟩ := one_block HB3.out
  have d0 := hd 0
  have d1 := hd 1
  refine bodyPost_ret (v := .tuple #[.agg #[.int .u16 0, .slice none 0 0], .int .i64 E]) ?_ rfl ⟨HBel.out, rfl⟩
  simp [results, Tryz.results24, go_sem, d0, d1]

theorem refRaw4_any (x : InstT) (b : Int) (ax : Option Addr) (n cx : Nat) (w : World) (hv : ArgsV w ax x.2.2.2) (hok : InstOk x) (hl : x.2.2.2.length = n) (b0 : 0 ≤ b) (b1 : b < 4294967296) :
    Calls Tryz.prog 24 #[instV x ax n cx, .int .u32 b] w fun e w' => Below w.heap.size w w' ∧ ∃ a m c, e = .returned (.tuple #[.agg #[.int .u16 (rawO x b), .slice a m c], .int .i64 (rawE x b)]) ∧ (rawWs x b).length = m ∧
      w'.ownsRow w.heap.size 22 1 (.slice a m c) m ((rawWs x b).map (Value.int .u32)) := by
  by_cases hE : rawE x b = 0
  · obtain ⟨h1, h2, h3⟩ := rawWs_ok hE
    have hf := faultI_zero h2
    obtain ⟨xo, xt, xr, xl⟩ := x
    simp only at h1 h2 h3 hf hv hl
    have e1 : rawO (xo, xt, xr, xl) b = xo := by unfold rawO; rw [if_pos hE]
    rw [e1, h3, hE]
    have hlk : lookF refT xo = ((lookF refT xo).1, true) := by rw [← h1]
    have hnul : ∀ k, k < n → (nthA xl k).1 = 3 → NoNul (nthA xl k).2.2 := fun k hk h3 => by
      have := wrongL_zero hf.2.2.1 k (by omega)
      unfold wrongA at this
      split at this
      · omega
      · try rw [if_pos h3] at this
        rw [← nulS_false]
        cases e : nulS (nthA xl k).2.2 with
        | false => rfl
        | true => rw [e] at this; simp at this
    have hln : (rawL (lookF refT xo).1 (xo, xt, xr, xl)).length ≤ 65535 := by omega
    clear h1 h2 h3 hf e1
    generalize (lookF refT xo).1 = f at *
    obtain ⟨nm, t, r, fx, rs, mo, pa⟩ := f
    cases t <;> cases r
    · exact refRaw4_ff xo xt xr xl b ax n cx w hv hok hl b0 b1 nm fx rs mo pa hlk hE hln hnul
    · exact refRaw4_ft xo xt xr xl b ax n cx w hv hok hl b0 b1 nm fx rs mo pa hlk hE hln hnul
    · exact refRaw4_tf xo xt xr xl b ax n cx w hv hok hl b0 b1 nm fx rs mo pa hlk hE hln hnul
    · exact refRaw4_tt xo xt xr xl b ax n cx w hv hok hl b0 b1 nm fx rs mo pa hlk hE hln hnul
  · have e1 : rawO x b = 0 := by unfold rawO; rw [if_neg hE]
    have e2 : rawWs x b = [] := by unfold rawWs; rw [if_neg hE]
    rw [e1, e2]
    refine (refRaw4_err x b ax n cx w hv hok hl b0 b1 hE).mono ?_
    rintro e w' ⟨hb, rfl⟩
    exact ⟨hb, none, 0, 0, rfl, rfl, World.ownsRow_nil _ _ _ _⟩

end Go.Proofs.YtonhnflilfjkbaaGreatDoor

/-
  Line of the package print: an instruction's line, or what it lacks.
-/
namespace Go.Proofs.YtonhnflilfjkbaaGreatDoor
open Go.RowKit
set_option maxRecDepth 10000
set_option linter.unusedVariables false
set_option linter.unusedSimpArgs false

/-- An instruction's line. -/
def linP (x : InstT) (b : Int) : ByteArray := if rawE x b = 0 then strOfNums (prI x) else ⟨#[]⟩

end Go.Proofs.YtonhnflilfjkbaaGreatDoor

/-
  The document's Line: an instruction's line, or what it lacks.
-/
namespace Go.Proofs.YtonhnflilfjkbaaGreatDoor
open Go.RowKit
set_option maxRecDepth 10000
set_option linter.unusedVariables false
set_option linter.unusedSimpArgs false

theorem tks_small {x : InstT} {b : Int} (hx : InstOk x) (hr : rawE x b = 0) (k : Nat) (hk : k < (tksI x).length) : (nthT (tksI x) k).2.1.size ≤ 1048576 := by
  have := tksI_size hx hr (nthT (tksI x) k) (by simp [nthT, List.getD, hk])
  omega

set_option maxHeartbeats 2000000 in
theorem refLine8_any (x : InstT) (b : Int) (ax : Option Addr) (n cx : Nat) (w : World) (hv : ArgsV w ax x.2.2.2) (hok : InstOk x) (hl : x.2.2.2.length = n) (b0 : 0 ≤ b) (b1 : b < 4294967296) (ht : Pow10 w) :
    Calls Tryz.prog 11 #[instV x ax n cx, .int .u32 b] w fun e w' => e = .returned (.tuple #[.string (linP x b), .int .i64 (rawE x b)]) ∧ Below w.heap.size w w' := by
  have hR := fun W (hb : Below w.heap.size w W) => refRaw4_any x b ax n cx W (hv.below hb) hok hl b0 b1
  have HB0 := hide ((Below.refl w.heap.size w).alloc (Nat.le_refl _) (.cells #[.int .u16 x.1, .int .u32 x.2.1, .int .u32 x.2.2.1, .slice ax n cx] 38))
  have HM := hide (heap_alloc_new w (.cells #[.int .u16 x.1, .int .u32 x.2.1, .int .u32 x.2.2.1, .slice ax n cx] 38))
  by_cases hz : rawE x b = 0
  · have hT := fun W (hb : Below w.heap.size w W) => refTokens8_any x ax n cx W (hv.below hb) hl (by have := (inst_few hok hz).1; omega) hok (inst_few hok hz).2.2.2 (ht.below hb)
    have hW := fun W a m c (h : ToksV W a (tksI x)) (hm : (tksI x).length = m) => ref6WriteB_any a m c (tksI x) W h hm (tksI_in hok hz) (by have := (inst_few hok hz).2.2.1; omega) (fun k hk => tks_small hok hz k (by rw [hm]; exact hk))
    have eW : wErr (tksI x) = 0 := if_pos (tksI_ok hok hz)
    rw [inst_out hok hz, eW] at hW
    have ez : linP x b = strOfNums (prI x) := if_pos hz
    rw [ez, hz]
    rw [hz] at hR
    unfold instV at hR hT ⊢
    generalize strOfNums (prI x) = S at *
    generalize rawO x b = o at *
    generalize tksI x = T at *
    generalize rawWs x b = R at *
    clear hv hok hl ht hz eW ez
    generalize x.1 = x1 at *
    generalize x.2.1 = x2 at *
    generalize x.2.2.1 = x3 at *
    go_enter Tryz.func11, Tryz.ntmps11
    go_wp2_with fail
    generalize w.alloc (.cells #[.int .u16 x1, .int .u32 x2, .int .u32 x3, .slice ax n cx] 38) = W0 at *
    refine (hR _ HB0.out).mono ?_
    rintro e w1 ⟨hb1, a, m, c, rfl, hm, hown⟩
    clear hown hm
    have lm := (Array.getElem?_eq_some_iff.1 HM.out).1
    have hb2 : Below W0.heap.size W0 (w1.alloc (.cells #[.int .u16 o, .slice a m c] 54)) := hb1.alloc hb1.size _
    have kM2 := (hb2.block _ lm).trans HM.out
    obtain ⟨hcM, _⟩ := one_block kM2
    have m0 := hcM 0
    have m1 := hcM 1
    have m2 := hcM 2
    have m3 := hcM 3
    have HB2 := hide (HB0.out.trans (hb2.mono HB0.out.size))
    clear hb1 hb2 kM2 hcM hR lm
    go_wp2_with fail
    refine (hT _ HB2.out).mono ?_
    rintro e w3 ⟨a3, m3', c3, rfl, hv3, hm3, hb3⟩
    have HB3 := hide (HB2.out.trans (hb3.mono HB2.out.size))
    have hW' := hW w3 a3 m3' c3 hv3 hm3
    clear hb3 hW hv3 hm3 m0 m1 m2 m3 hT
    go_wp2_with fail
    refine hW'.mono ?_
    rintro e w4 ⟨rfl, hb4⟩
    have HB4 := hide (HB3.out.trans (hb4.mono HB3.out.size))
    clear hb4 hW'
    go_wp2_with fail
    refine bodyPost_ret (v := .tuple #[.string S, .int .i64 0]) ?_ rfl ⟨rfl, HB4.out⟩
    simp [results, Tryz.results11, go_sem]
  · have ez : linP x b = ⟨#[]⟩ := if_neg hz
    have heb : (rawE x b == 0) = false := by simpa using hz
    rw [ez]
    unfold instV at hR ⊢
    generalize rawE x b = E at *
    generalize rawO x b = o at *
    generalize rawWs x b = R at *
    clear hv hok hl ht hz ez
    generalize x.1 = x1 at *
    generalize x.2.1 = x2 at *
    generalize x.2.2.1 = x3 at *
    go_enter Tryz.func11, Tryz.ntmps11
    go_wp2_with fail
    generalize w.alloc (.cells #[.int .u16 x1, .int .u32 x2, .int .u32 x3, .slice ax n cx] 38) = W0 at *
    refine (hR _ HB0.out).mono ?_
    rintro e w1 ⟨hb1, a, m, c, rfl, hm, hown⟩
    clear hown hm
    have hb2 : Below W0.heap.size W0 (w1.alloc (.cells #[.int .u16 o, .slice a m c] 54)) := hb1.alloc hb1.size _
    have HB2 := hide (HB0.out.trans (hb2.mono HB0.out.size))
    clear hb1 hb2 hR HM HB0
    go_wp2_with fail
    refine bodyPost_ret (v := .tuple #[.string ⟨#[]⟩, .int .i64 E]) ?_ rfl ⟨rfl, HB2.out⟩
    simp [results, Tryz.results11, go_sem]

end Go.Proofs.YtonhnflilfjkbaaGreatDoor

/-
  What Shape of the document's answer returns: what is wrong with a module, and where.
-/
namespace Go.Proofs.YtonhnflilfjkbaaGreatDoor
open Go.RowKit
set_option linter.unusedVariables false
set_option linter.unusedSimpArgs false
set_option maxRecDepth 10000

set_option maxHeartbeats 4000000 in
theorem refShape4_any (gn b : Int) (ax : Option Addr) (n cx : Nat) (l : List InstT) (w : World) (hv : InstsV w ax l) (hok : InstsOk l) (hl : l.length = n) (hn : 40 * n ≤ 140737488351232) (b0 : 0 ≤ b) (b1 : b < 4294967296) :
    Calls Tryz.prog 19 #[modV gn b ax n cx] w fun e w' => e = .returned (.agg #[.int .i64 (shapeE b l).1, .int .i64 ((shapeE b l).2 : Int)]) ∧ Below w.heap.size w w' := by
  unfold modV
  have hbel : Below w.heap.size w ((w.alloc (.cells #[.int .u32 gn, .int .u32 b, .slice ax n cx] 25)).alloc (.cells #[.int .i64 0, .int .i64 0] 28)) := ((Below.refl _ w).alloc (Nat.le_refl _) _).alloc (by simp) _
  have kM : ((w.alloc (.cells #[.int .u32 gn, .int .u32 b, .slice ax n cx] 25)).alloc (.cells #[.int .i64 0, .int .i64 0] 28)).heap[w.heap.size]? = some (.cells #[.int .u32 gn, .int .u32 b, .slice ax n cx] 25 (0, 0)) := (Below.heap_alloc _ _ _ (by simp)).trans (alloc_new w _ _)
  have kS : ((w.alloc (.cells #[.int .u32 gn, .int .u32 b, .slice ax n cx] 25)).alloc (.cells #[.int .i64 0, .int .i64 0] 28)).heap[w.heap.size + 1]? = some (.cells #[.int .i64 0, .int .i64 0] 28 (0, 0)) := by simpa using alloc_new (w.alloc (.cells #[.int .u32 gn, .int .u32 b, .slice ax n cx] 25)) #[.int .i64 0, .int .i64 0] 28
  by_cases hb : b = 0 ∨ 65536 < b
  · have e1 : shapeE b l = (24, 0) := by unfold shapeE; rw [if_pos hb]
    rw [e1]
    clear hv hok hl e1 kM kS
    by_cases hb0 : b = 0
    · subst hb0
      go_enter Tryz.func19, Tryz.ntmps19
      go_wp2
      refine bodyPost_ret (v := .agg #[.int .i64 24, .int .i64 0]) ?_ rfl ⟨rfl, ?_⟩
      · simp [results, Tryz.results19, go_sem]
      · exact ((Below.refl _ w).alloc (Nat.le_refl _) _).alloc (by simp) _
    · have hb0' : (b == 0) = false := by simpa using hb0
      have hb1' : decide ((65536 : Int) < b) = true := decide_eq_true (by omega)
      clear hb hb0
      go_enter Tryz.func19, Tryz.ntmps19
      go_wp2
      refine bodyPost_ret (v := .agg #[.int .i64 24, .int .i64 0]) ?_ rfl ⟨rfl, ?_⟩
      · simp [results, Tryz.results19, go_sem]
      · exact ((Below.refl _ w).alloc (Nat.le_refl _) _).alloc (by simp) _
  · have hb0' : (b == 0) = false := by simp; omega
    have hb1' : decide ((65536 : Int) < b) = false := decide_eq_false (by omega)
    obtain ⟨R, hR⟩ : ∃ R, R = shapeE b l := ⟨_, rfl⟩
    rw [← hR]
    have hR0 : R = shapeF b 0 (sizeTo (rawsL b l) 0) (l.drop 0) := by rw [hR]; unfold shapeE; rw [if_neg hb]; rfl
    have HR0 := hide hR0
    have HST : Hid (∀ k, k < n → shapeF b k (sizeTo (rawsL b l) k) (l.drop k) = if rawE (nthI l k) b ≠ 0 then (rawE (nthI l k) b, k) else if 1048576 < sizeTo (rawsL b l) (k + 1) then (4, k) else shapeF b (k + 1) (sizeTo (rawsL b l) (k + 1)) (l.drop (k + 1))) := fun k hk => shape_step b l k (by omega)
    have HSZ : Hid (∀ k, k < n → sizeTo (rawsL b l) (k + 1) = sizeTo (rawsL b l) k + 1 + (rawWs (nthI l k) b).length) := fun k hk => by
      rw [sizeTo_succ _ _ (by rw [rawsL_len]; omega), nthR_raws b l k (by omega)]
    have HEN : Hid (∀ k, n ≤ k → shapeF b k (sizeTo (rawsL b l) k) (l.drop k) = (0, 0)) := fun k hk => shape_end b l k _ (by omega)
    have HV := hide (hv.below hbel)
    have HBEL := hide hbel
    have HM := hide kM
    have HS := hide kS
    have HL := hide hl
    have HOK := hide hok
    have HN : Hid (40 * n ≤ 140737488351232) := hn
    have HBB : Hid (0 ≤ b ∧ b < 4294967296) := ⟨b0, b1⟩
    clear hv hok hl hn hb hR hR0 hbel kM kS b0 b1
    go_enter Tryz.func19, Tryz.ntmps19
    go_wp2
    generalize hW : (w.alloc (.cells #[.int .u32 gn, .int .u32 b, .slice ax n cx] 25)).alloc (.cells #[.int .i64 0, .int .i64 0] 28) = W at *
    have sS := (Array.getElem?_eq_some_iff.1 HS.out).1
    clear hW
    go_loopw [3, 4] (fun u i wr => ∃ k : Nat, k ≤ n ∧ i = .int .i64 k ∧ u = .int .i64 (sizeTo (rawsL b l) k : Int) ∧ Below W.heap.size W wr ∧ Hid (sizeTo (rawsL b l) k ≤ 1048576) ∧ Hid (R = shapeF b k (sizeTo (rawsL b l) k) (l.drop k))) (fun _ i _ => n - (intOf i).toNat)
    case atStart => exact ⟨0, Nat.zero_le _, rfl, rfl, Below.refl _ _, by show (5 : Nat) ≤ _; omega, HR0⟩
    case round =>
      obtain ⟨k, hk, rfl, rfl, hbr, HLE, HRK⟩ := hrel
      clear HR0
      have kMr := (hbr.block _ (by omega)).trans HM.out
      have kSr := (hbr.block _ sS).trans HS.out
      have hvr := HV.out.below hbr
      have sr : w.heap.size + 1 < wr.heap.size := Nat.lt_of_lt_of_le sS hbr.size
      have m2 := (one_block kMr).1 2
      have hfr := HBEL.out.trans (hbr.mono HBEL.out.size)
      have hkb : (k : Int) < 140737488351232 := by have := HN.out; omega
      by_cases hlt : k < n
      · have hkl : k < l.length := by rw [HL.out]; exact hlt
        obtain ⟨g1, o1, aj, cj, nj, rfl, hg1, p1, p2, p3, p4, p5, p6, p7⟩ := hvr k hkl
        have hki : (k : Int) < (n : Int) := by omega
        have hk0 : (0 : Int) ≤ (k : Int) := by omega
        have hS1 := HST.out k hlt
        have hS2 := HSZ.out k hlt
        rw [← HRK.out] at hS1
        have HS1 := hide hS1
        have HS2 := hide hS2
        have a1 := fun s : InC (Below wr.heap.size wr) => s.cell (p := ⟨w.heap.size, 1, none⟩) (by show w.heap.size < _; omega) ((one_block kMr).1 1)
        have a2 := fun s : InC (Below wr.heap.size wr) => s.cell (p := ⟨w.heap.size, 2, none⟩) (by show w.heap.size < _; omega) ((one_block kMr).1 2)
        have q1 := fun s : InC (Below wr.heap.size wr) => s.cell (p := ⟨g1, o1 + k * 4, none⟩) hg1 p1
        have q2 := fun s : InC (Below wr.heap.size wr) => s.cell (p := ⟨g1, o1 + k * 4 + 1, none⟩) hg1 p2
        have q3 := fun s : InC (Below wr.heap.size wr) => s.cell (p := ⟨g1, o1 + k * 4 + 2, none⟩) hg1 p3
        have q4 := fun s : InC (Below wr.heap.size wr) => s.cell (p := ⟨g1, o1 + k * 4 + 3, none⟩) hg1 p4
        have hne : Nonempty (InC (Below wr.heap.size wr)) := ⟨⟨wr, Below.refl _ _⟩⟩
        have hbl := below_drew wr
        have hF := fun s : InC (Below wr.heap.size wr) => Calls.inC s (refFault4_any (nthI l k) b aj nj cj s.w (p6.below s.ok) (HOK.out k hkl) p5 HBB.out.1 HBB.out.2)
        have HIK := hide (HOK.out k hkl)
        have HP := hide (show wr.cell? ⟨g1, o1 + k * 4, none⟩ = some (.int .u16 (nthI l k).1) ∧ wr.cell? ⟨g1, o1 + k * 4 + 1, none⟩ = some (.int .u32 (nthI l k).2.1) ∧ wr.cell? ⟨g1, o1 + k * 4 + 2, none⟩ = some (.int .u32 (nthI l k).2.2.1) ∧ wr.cell? ⟨g1, o1 + k * 4 + 3, none⟩ = some (.slice aj nj cj) ∧ (nthI l k).2.2.2.length = nj ∧ ArgsV wr aj (nthI l k).2.2.2 from ⟨p1, p2, p3, p4, p5, p6⟩)
        have HMr := hide kMr
        have HSr := hide kSr
        clear hS1 hS2 p1 p2 p3 p4 p5 p6 p7 hvr kMr kSr HST HSZ HEN HV HM HS HOK HRK
        generalize hz : nthI l k = z at *
        clear hz
        have hRL : rawE z b = 0 → (lookF refT z.1).2 = true ∧ rawWs z b = rawL (lookF refT z.1).1 z ∧ (rawL (lookF refT z.1).1 z).length ≤ 65535 := fun h => by
          obtain ⟨h1, h2, h3⟩ := rawWs_ok h
          have := faultI_zero h2
          exact ⟨h1, h3, by omega⟩
        have HRL := hide hRL
        clear hRL
        generalize hE : rawE z b = E at *
        clear hE
        obtain ⟨zo, zt, zr, zl⟩ := z
        unfold instV at hF
        simp only at *
        go_wp2_with fail
        refine wp_region_class (C := Below wr.heap.size wr) (by kernel_rfl) (by kernel_rfl) hbl ?_
        repeat (go_big_quiet_step ((go_at_call 32; exact hF _)))
        refine wpQuiet_nil ?_
        rintro _ ⟨s, rfl⟩
        have hbs := hbr.trans (s.ok.mono hbr.size)
        have hfs := hfr.trans (s.ok.mono hfr.size)
        have kM3 := (s.ok.block _ (by omega)).trans HMr.out
        have kS3 := (s.ok.block _ sr).trans HSr.out
        have s3 : w.heap.size + 1 < s.w.heap.size := Nat.lt_of_lt_of_le sr s.ok.size
        have r1 := q1 s
        have r2 := q2 s
        have r3 := q3 s
        have r4 := q4 s
        have r6 := HP.out.2.2.2.2.2.below s.ok
        have sg : g1 < s.w.heap.size := Nat.lt_of_lt_of_le hg1 s.ok.size
        clear hne hF a1 a2 q1 q2 q3 q4 hbr hfr hbl HMr HSr
        generalize s.w = W3 at *
        have m2 := (one_block kM3).1 2
        by_cases hE0 : E = 0
        · subst hE0
          obtain ⟨t1, t2, t3⟩ := HRL.out (by trivial)
          have hOf := fun wx => refOf_any zo wx
          have eV : ofV zo = formV zo (lookF refT zo).1 := by unfold ofV; rw [if_pos t1]
          rw [eV, t1] at hOf
          have H2 := HS2.out
          rw [t2] at H2
          have hRm := fun (wx : World) (f : Frm) (h : (lookF refT zo).1 = f) (hvx : ArgsV wx aj zl) => refRoom4_any (zo, zt, zr, zl) zo f aj nj cj wx hvx HIK.out HP.out.2.2.2.2.1 (by
            have : (wordsL zl).length ≤ (rawL (lookF refT zo).1 (zo, zt, zr, zl)).length := by unfold rawL; simp
            simp only; omega)
          generalize hf : (lookF refT zo).1 = f at *
          have hRm' := fun wx => hRm wx f rfl
          clear hRm hf eV t1 t2
          generalize hLn : (rawL f (zo, zt, zr, zl)).length = ln at *
          clear hLn
          have HT3 := hide t3
          have HH2 := hide H2
          have HRM := hide hRm'
          clear t3 H2 hRm' HS2
          obtain ⟨nm, t, r, fx, rs, mo, pa⟩ := f
          unfold formV at hOf HRM
          unfold instV at HRM
          simp only at hOf HRM
          go_wp2_with fail
          refine (hOf _).mono ?_
          rintro e w4 ⟨rfl, hb4⟩
          have hba : Below w4.heap.size w4 (w4.alloc (.cells #[.int .u16 zo, .string nm, .bool t, .bool r, .string fx, .string rs, .int .i64 mo, .int .u8 pa] 66)) := (Below.refl _ _).alloc (Nat.le_refl _) _
          have hb4a := hb4.trans (hba.mono hb4.size)
          have kM4 := (hb4a.block _ (by omega)).trans kM3
          have kS4 := (hb4a.block _ s3).trans kS3
          have kF4 := alloc_new w4 #[.int .u16 zo, .string nm, .bool t, .bool r, .string fx, .string rs, .int .i64 mo, .int .u8 pa] 66
          have u1 := (hb4a.cell (p := ⟨g1, o1 + k * 4, none⟩) sg).trans r1
          have u2 := (hb4a.cell (p := ⟨g1, o1 + k * 4 + 1, none⟩) sg).trans r2
          have u3 := (hb4a.cell (p := ⟨g1, o1 + k * 4 + 2, none⟩) sg).trans r3
          have u4 := (hb4a.cell (p := ⟨g1, o1 + k * 4 + 3, none⟩) sg).trans r4
          have u6 := r6.below hb4a
          have hbs4 := hbs.trans (hb4a.mono hbs.size)
          have hfs4 := hfs.trans (hb4a.mono hfs.size)
          have sg4 : g1 < (w4.alloc (.cells #[.int .u16 zo, .string nm, .bool t, .bool r, .string fx, .string rs, .int .i64 mo, .int .u8 pa] 66)).heap.size := Nat.lt_of_lt_of_le sg hb4a.size
          have sF4 : w4.heap.size < (w4.alloc (.cells #[.int .u16 zo, .string nm, .bool t, .bool r, .string fx, .string rs, .int .i64 mo, .int .u8 pa] 66)).heap.size := by simp
          have s4 : w.heap.size + 1 < (w4.alloc (.cells #[.int .u16 zo, .string nm, .bool t, .bool r, .string fx, .string rs, .int .i64 mo, .int .u8 pa] 66)).heap.size := Nat.lt_of_lt_of_le s3 hb4a.size
          clear hOf hb4 hba hb4a r1 r2 r3 r4 r6 kM3 kS3 m2 hbs hfs
          go_wp2_with fail
          generalize hW4 : w4.alloc (.cells #[.int .u16 zo, .string nm, .bool t, .bool r, .string fx, .string rs, .int .i64 mo, .int .u8 pa] 66) = W4 at *
          clear hW4
          have a2 := fun s : InC (Below W4.heap.size W4) => s.cell (p := ⟨w.heap.size, 2, none⟩) (by show w.heap.size < _; omega) ((one_block kM4).1 2)
          have q1 := fun s : InC (Below W4.heap.size W4) => s.cell (p := ⟨g1, o1 + k * 4, none⟩) sg4 u1
          have q2 := fun s : InC (Below W4.heap.size W4) => s.cell (p := ⟨g1, o1 + k * 4 + 1, none⟩) sg4 u2
          have q3 := fun s : InC (Below W4.heap.size W4) => s.cell (p := ⟨g1, o1 + k * 4 + 2, none⟩) sg4 u3
          have q4 := fun s : InC (Below W4.heap.size W4) => s.cell (p := ⟨g1, o1 + k * 4 + 3, none⟩) sg4 u4
          obtain ⟨d0, d1, d2, d3, d4, d5, d6, d7, df⟩ := frm_cells (n := zo) (f := (nm, t, r, fx, rs, mo, pa)) kF4
          simp only at d0 d1 d2 d3 d4 d5 d6 d7
          have v0 := fun s : InC (Below W4.heap.size W4) => s.cell (p := ⟨w4.heap.size, 0, none⟩) sF4 d0
          have v1 := fun s : InC (Below W4.heap.size W4) => s.cell (p := ⟨w4.heap.size, 1, none⟩) sF4 d1
          have v2 := fun s : InC (Below W4.heap.size W4) => s.cell (p := ⟨w4.heap.size, 2, none⟩) sF4 d2
          have v3 := fun s : InC (Below W4.heap.size W4) => s.cell (p := ⟨w4.heap.size, 3, none⟩) sF4 d3
          have v4 := fun s : InC (Below W4.heap.size W4) => s.cell (p := ⟨w4.heap.size, 4, none⟩) sF4 d4
          have v5 := fun s : InC (Below W4.heap.size W4) => s.cell (p := ⟨w4.heap.size, 5, none⟩) sF4 d5
          have v6 := fun s : InC (Below W4.heap.size W4) => s.cell (p := ⟨w4.heap.size, 6, none⟩) sF4 d6
          have v7 := fun s : InC (Below W4.heap.size W4) => s.cell (p := ⟨w4.heap.size, 7, none⟩) sF4 d7
          have hne : Nonempty (InC (Below W4.heap.size W4)) := ⟨⟨W4, Below.refl _ _⟩⟩
          have hbl := below_drew W4
          have hM := fun s : InC (Below W4.heap.size W4) => Calls.inC s (HRM.out s.w (u6.below s.ok))
          have hsz := HLE.out
          generalize hszk : sizeTo (rawsL b l) k = szk at *
          have hln := HT3.out
          have hwr : IntKind.i64.wrap ((szk : Int) + (1 + (ln : Int))) = (szk : Int) + (1 + (ln : Int)) := by rw [IntKind.wrap_i64]; omega
          have hwr2 : IntKind.i64.wrap ((szk : Int) + ((1 + ln : Nat) : Int)) = (szk : Int) + (1 + (ln : Int)) := by rw [IntKind.wrap_i64]; omega
          have HSK := hide hsz
          clear d0 d1 d2 d3 d4 d5 d6 d7 df u1 u2 u3 u4 u6 kF4 hszk hln hsz
          refine wp_region_class (C := Below W4.heap.size W4) (by kernel_rfl) (by kernel_rfl) hbl ?_
          repeat (go_big_quiet_step ((go_at_call 34; exact hM _)))
          refine wpQuiet_nil ?_
          rintro _ ⟨s, rfl⟩
          have hbs5 := hbs4.trans (s.ok.mono hbs4.size)
          have hfs5 := hfs4.trans (s.ok.mono hfs4.size)
          have kS5 := (s.ok.block _ s4).trans kS4
          have s5 : w.heap.size + 1 < s.w.heap.size := Nat.lt_of_lt_of_le s4 s.ok.size
          clear hne hM a2 q1 q2 q3 q4 v0 v1 v2 v3 v4 v5 v6 v7 hbs4 hfs4 hbl kM4 kS4
          generalize s.w = W5 at *
          by_cases hgt : 1048576 < szk + 1 + ln
          · have e9 := HS1.out
            rw [if_neg (by simp), HH2.out, if_pos hgt] at e9
            subst e9
            have hd : decide ((1048576 : Int) < (szk : Int) + (1 + (ln : Int))) = true := decide_eq_true (by omega)
            obtain ⟨mm, mf⟩ := one_block kS5
            have x0 := mm 0
            have x1 := mm 1
            have HB3 := hide (two_put2 kS5 (.int .i64 4) (.int .i64 (k : Int)))
            have HBel := hide ((hfs5.setCell (p := ⟨w.heap.size + 1, 0, none⟩) (by simp) (.int .i64 4)).setCell (p := ⟨w.heap.size + 1, 1, none⟩) (by simp) (.int .i64 (k : Int)))
            clear kS5 mm hfs5 hgt
            go_wp2_with fail
            generalize (W5.setCell _ _).setCell _ _ = W9 at *
            obtain ⟨hd, _⟩ := one_block HB3.out
            have d0 := hd 0
            have d1 := hd 1
            refine bodyPost_ret (v := .agg #[.int .i64 4, .int .i64 (k : Int)]) ?_ rfl ⟨rfl, HBel.out⟩
            simp [results, Tryz.results19, go_sem, d0, d1]
          · have e9 := HS1.out
            rw [if_neg (by simp), HH2.out, if_neg hgt] at e9
            have HE9 := hide e9
            have hd : decide ((1048576 : Int) < (szk : Int) + (1 + (ln : Int))) = false := decide_eq_false (by omega)
            have HGT : Hid (szk + 1 + ln ≤ 1048576) := by show _ ≤ _; omega
            clear e9 hgt
            go_wp2_with fail
            go_roundw
            case rel => exact ⟨k + 1, by omega, by go_num, by rw [HH2.out]; refine congrArg (Value.int .i64) ?_; omega, hbs5, by show _ ≤ _; rw [HH2.out]; exact HGT.out, by show _ = _; rw [HH2.out]; exact HE9.out⟩
            case measure => simp [intOf]; omega
        · have hE' : (E != 0) = true := by simp [hE0]
          have e9 := HS1.out
          rw [if_pos hE0] at e9
          subst e9
          obtain ⟨mm, mf⟩ := one_block kS3
          have x0 := mm 0
          have x1 := mm 1
          have HB3 := hide (two_put2 kS3 (.int .i64 E) (.int .i64 (k : Int)))
          have HBel := hide ((hfs.setCell (p := ⟨w.heap.size + 1, 0, none⟩) (by simp) (.int .i64 E)).setCell (p := ⟨w.heap.size + 1, 1, none⟩) (by simp) (.int .i64 (k : Int)))
          clear kS3 mm hfs
          go_wp2_with fail
          generalize (W3.setCell _ _).setCell _ _ = W9 at *
          obtain ⟨hd, _⟩ := one_block HB3.out
          have d0 := hd 0
          have d1 := hd 1
          refine bodyPost_ret (v := .agg #[.int .i64 E, .int .i64 (k : Int)]) ?_ rfl ⟨rfl, HBel.out⟩
          simp [results, Tryz.results19, go_sem, d0, d1]
      · obtain rfl : k = n := by omega
        have e9 := HRK.out
        rw [HEN.out k (Nat.le_refl _)] at e9
        subst e9
        obtain ⟨mm, mf⟩ := one_block kSr
        have x0 := mm 0
        have x1 := mm 1
        have HB3 := hide (two_put2 kSr (.int .i64 0) (.int .i64 0))
        have HBel := hide ((hfr.setCell (p := ⟨w.heap.size + 1, 0, none⟩) (by simp) (.int .i64 0)).setCell (p := ⟨w.heap.size + 1, 1, none⟩) (by simp) (.int .i64 0))
        clear kSr mm hfr hvr
        go_wp2_with fail
        generalize (wr.setCell _ _).setCell _ _ = W9 at *
        obtain ⟨hd, _⟩ := one_block HB3.out
        have d0 := hd 0
        have d1 := hd 1
        refine bodyPost_ret (v := .agg #[.int .i64 0, .int .i64 0]) ?_ rfl ⟨rfl, HBel.out⟩
        simp [results, Tryz.results19, go_sem, d0, d1]

end Go.Proofs.YtonhnflilfjkbaaGreatDoor

/-
  Part of the document's answer. Nothing that was there turns.
-/
namespace Go.Proofs.YtonhnflilfjkbaaGreatDoor
open Go.RowKit
set_option maxRecDepth 10000
set_option linter.unusedVariables false
set_option linter.unusedSimpArgs false

end Go.Proofs.YtonhnflilfjkbaaGreatDoor

/-
  Quoted of the document's answer. Nothing that was there turns.
-/
namespace Go.Proofs.YtonhnflilfjkbaaGreatDoor
open Go.RowKit
set_option maxRecDepth 10000
set_option linter.unusedVariables false
set_option linter.unusedSimpArgs false

theorem rowB_convert {B : Nat} {v : Value} {zs : List Int} {wx : World} (hr : RowB B v zs wx) : (convert 44 9 v).run Tryz.prog wx = .ok (.string (strOfNums zs)) wx := by
  unfold RowB at hr
  rcases hr.2 with ⟨hv, h0⟩ | ⟨g, cap, cur, hv, _⟩
  · have : zs = [] := List.length_eq_zero_iff.1 h0
    subst this
    subst hv
    exact run_convert_bytes_nil wx _ _ Tryz.underlying44 Tryz.underlying5 _ _ _ Tryz.underlying9
  · subst hv
    refine run_convert_bytes_arg wx _ _ Tryz.underlying44 Tryz.underlying5 g 0 _ cap zs rfl (fun i hi => ?_) _ Tryz.underlying9
    obtain ⟨b', off', e, _, hcell⟩ := View.ofRow hr rfl i hi
    simp at e
    obtain ⟨rfl, rfl⟩ := e
    exact hcell
end Go.Proofs.YtonhnflilfjkbaaGreatDoor

/-
  The document's Text: a module's text.
-/
namespace Go.Proofs.YtonhnflilfjkbaaGreatDoor
open Go.RowKit
set_option maxRecDepth 10000
set_option linter.unusedVariables false
set_option linter.unusedSimpArgs false

/-- Bytes of one's own, from a world on. -/
structure T9 (W1 wr : World) (v : Value) (zs : List Int) : Prop where
  bel : Below W1.heap.size W1 wr
  own : RowB W1.heap.size v zs wr
theorem T9.below {W1 wr w' : World} {v : Value} {zs : List Int} (h : T9 W1 wr v zs) (hb : Below wr.heap.size wr w') : T9 W1 w' v zs := ⟨h.bel.trans (hb.mono h.bel.size), own_below h.own hb⟩
theorem t9_str {W1 wr : World} {v : Value} {zs : List Int} (h : T9 W1 wr v zs) {ops : Array Oper} {rest : List Oper} {o : Oper} {a : Act} {Q : Exit → Act → World → Prop} (hgd : o.guard = none) (s x : Operand) (ho : o.op = .call { callee := .builtin .append, args := #[s, x], argTypes := #[44, 9] })
    (hs : a.eval s = v) (t : ByteArray) (hx : a.eval x = .string t) (hn : zs.length + t.size ≤ 140737488355328)
    (hK : ∀ v' w', T9 W1 w' v' (zs ++ strI t) → wpList Tryz.prog ops Q rest (a.put o.dst v') w') : wpList Tryz.prog ops Q (o :: rest) a wr := by
  obtain ⟨i0, hi, hz0, hz1, hz2⟩ := info_parts Bld.info
  refine Lib.wpList_append_own_string wr hgd s x 44 9 ho W1.heap.size 5 i0 Tryz.underlying44 Tryz.underlying9 hi hz0 hz1 hz2 v zs.length (zs.map (Value.int .u8)) hs h.own t hx (by unfold maxLen; omega) hn h.bel.size ?_
  intro v' w' h1 h2 _
  refine hK v' w' ⟨h.bel.grown h2 h.bel.size (fun j e => (World.ownsRow.lt h.own j e).1), ?_⟩
  have e : Lib.strCells t = (strI t).map (Value.int .u8) := by simp [Lib.strCells, strI]
  rw [e, ← strI_len t] at h1
  exact rowB_push h1
theorem t9_byte {W1 wr : World} {v : Value} {zs : List Int} (h : T9 W1 wr v zs) {ops : Array Oper} {rest : List Oper} {o : Oper} {a : Act} {Q : Exit → Act → World → Prop} (hgd : o.guard = none) (s x : Operand) (ho : o.op = .call { callee := .builtin .append, args := #[s, x], argTypes := #[44, 44] })
    (hs : a.eval s = v) (c : Int) (hx : a.eval x = .slice (some ⟨wr.heap.size, 0, none⟩) 1 1) (hn : zs.length + 1 ≤ 140737488355328)
    (hK : ∀ v' w', T9 W1 w' v' (zs ++ [c]) → wpList Tryz.prog ops Q rest (a.put o.dst v') w') : wpList Tryz.prog ops Q (o :: rest) a (wr.alloc (.cells #[.int .u8 c] 5)) := by
  obtain ⟨i0, hi, hz0, hz1, hz2⟩ := info_parts Bld.info
  have hb := (Below.refl _ wr).alloc (Nat.le_refl _) (.cells #[.int .u8 c] 5)
  have h' := h.below hb
  refine wpList_append_own _ hgd s x 44 ho W1.heap.size 5 i0 (.int .u8 0) 1 1 Tryz.underlying44 hi hz0 hz1 hz2 rfl (by decide) v zs.length (zs.map (Value.int .u8)) hs h'.own ⟨wr.heap.size, 0, none⟩ 1 1 ([c].map (Value.int .u8)) hx rfl (one_cells [c]) (oneC_all _) (by unfold maxLen; omega) (by omega) h'.bel.size ?_
  intro v' w' h1 h2 _
  exact hK v' w' ⟨h'.bel.grown h2 h'.bel.size (fun j e => (World.ownsRow.lt h'.own j e).1), rowB_push h1⟩
theorem range8 {w : World} {b t : Nat} {cs : List Value} {fr : Nat × Nat} (h : w.heap[b]? = some (.cells cs.toArray t fr)) : w.rangeAt b 0 cs := fun j v hv => by
  rw [Nat.zero_add]
  simp [World.cell?, h, hv]
theorem tx8Ret {Q : Ending → World → Prop} {a' : Act} {Z : World} {B : Nat} {S : ByteArray} {e k : Int} (h2 : slot a'.tmps 2 = .string S) (h3 : slot a'.tmps 3 = .pointer (some ⟨B, 0, none⟩)) (hd : a'.defers = []) (hZ : Z.heap[B]? = some (.cells #[.int .i64 e, .int .i64 k] 28 (0, 0)))
    (hq : Q (.returned (.tuple #[.string S, .agg #[.int .i64 e, .int .i64 k]])) Z) : bodyPost Tryz.prog Tryz.f6 Q .ret a' Z := by
  have r6 := run_loadVar_mid (P := Tryz.prog) Z B 0 28 [.int .i64 e, .int .i64 k] _ (range8 hZ) Tryz.underlying28 rfl (by kernel_rfl)
  refine bodyPost_ret (v := .tuple #[.string S, .agg #[.int .i64 e, .int .i64 k]]) ?_ hd hq
  have g2 : a'.tmps.getD 2 undef = .string S := h2
  have g3 : a'.tmps.getD 3 undef = .pointer (some ⟨B, 0, none⟩) := h3
  simp only [results, Tryz.results6, List.mapM_toArray, List.mapM_cons, List.mapM_nil, g2, g3, asAddr, Sem.run_bind, Sem.run_pure, Result.andThen_ok, bind_assoc, pure_bind, Sem.run_map, map_pure, r6]
  rfl
theorem spotLd8 {W : World} {b T : Nat} {x0 x1 : Value} (h : W.heap[b]? = some (.cells #[x0, x1] T (0, 0))) (u0 u1 : Value) :
    ((W.setCell ⟨b, 0, none⟩ u0).setCell ⟨b, 1, none⟩ u1).heap[b]? = some (.cells #[u0, u1] T (0, 0)) := by
  simp [World.setCell, Array.getElem?_modify, h]
theorem oth8 {W : World} {b k : Nat} {o : Obj} (h : W.heap[k]? = some o) (hne : k ≠ b) (u v : Value) : ((W.setCell ⟨b, 0, none⟩ u).setCell ⟨b, 1, none⟩ v).heap[k]? = some o := by
  simp [World.setCell, Array.getElem?_modify, h, Ne.symm hne]
theorem twoF8 {w : World} {p T : Nat} {a b : Value} (h : w.heap[p]? = some (.cells #[a, b] T (0, 0))) : w.frozen? ⟨p, 0, none⟩ = false ∧ w.frozen? ⟨p, 1, none⟩ = false := by
  refine ⟨?_, ?_⟩ <;> simp [World.frozen?, h]
theorem then_normal8 {K : Act → World → Prop} {Q : Exit → Act → World → Prop} {a : Act} {w : World} : Exit.then K Q .normal a w = K a w := rfl
theorem wrap8 {k n : Nat} (h : k < n) (hn : 40 * n ≤ 140737488351232) : wrap64 ((k : Int) + 1) = (k : Int) + 1 := by unfold wrap64; omega

set_option maxHeartbeats 8000000 in
theorem refText8_any (g : Int) (N : Nat) (a : Option Addr) (n c : Nat) (l : List InstT) (w : World) (hv : InstsV w a l) (hok : InstsOk l) (hl : l.length = n) (hn : 40 * n ≤ 140737488351232) (g0 : 0 ≤ g) (g1 : g < 4294967296) (hN : (N : Int) < 4294967296) (ht : Pow10 w) :
    Calls Tryz.prog 6 #[.agg #[.int .u32 g, .int .u32 (N : Int), .slice a n c]] w fun e w' => e = .returned (.tuple #[.string (txtP g (N : Int) l), .agg #[.int .i64 (shapeE (N : Int) l).1, .int .i64 ((shapeE (N : Int) l).2 : Int)]]) ∧ Below w.heap.size w w' := by
  obtain ⟨X, hX⟩ : ∃ X, (w.alloc (.cells #[.int .u32 g, .int .u32 (N : Int), .slice a n c] 25)).alloc (.cells #[.int .i64 0, .int .i64 0] 28) = X := ⟨_, rfl⟩
  have hbX : Below w.heap.size w X := by rw [← hX]; exact ((Below.refl _ w).alloc (Nat.le_refl _) _).alloc (by simp) _
  have k0 : X.heap[w.heap.size]? = some (.cells #[.int .u32 g, .int .u32 (N : Int), .slice a n c] 25 (0, 0)) := by rw [← hX]; exact allocOld (allocNew w _ rfl) _
  have k1 : X.heap[w.heap.size + 1]? = some (.cells #[.int .i64 0, .int .i64 0] 28 (0, 0)) := by rw [← hX]; exact allocNew _ _ (by simp)
  have hsh := refShape4_any g (N : Int) a n c l X (hv.below hbX) hok hl hn (by omega) hN
  have HBX := hide hbX
  have K0 := hide k0
  have K1 := hide k1
  have HV := hide hv
  have HOK := hide hok
  have HL := hide hl
  have HN := hide hn
  have HT := hide ht
  have HHD := hide fun wx (h : Pow10 wx) => refHead8_any g (N : Int) a n c wx g0 g1 (by omega) hN h
  obtain ⟨S, hS⟩ : ∃ S, S = txtP g (N : Int) l := ⟨_, rfl⟩
  have HS : Hid ((shapeE (N : Int) l).1 = 0 → S = strOfNums (textP g (N : Int) l)) := fun h => by rw [hS]; exact if_pos h
  have HS0 : Hid ((shapeE (N : Int) l).1 ≠ 0 → S = ⟨#[]⟩) := fun h => by rw [hS]; exact if_neg h
  rw [← hS]
  have HZ : Hid ((shapeE (N : Int) l).1 = 0 → (shapeE (N : Int) l).2 = 0) := shape_none
  have HEA : Hid ((shapeE (N : Int) l).1 = 0 → ∀ i, i < l.length → rawE (nthI l i) (N : Int) = 0) := fun h => shape_each h
  have HN3 := hide hN
  have HWT0 : Hid ((shapeE (N : Int) l).1 = 0 → ∀ k, k ≤ n → Within 256 (textTo g (N : Int) l k)) := fun h k hk => by
    have h1 := textP_ok g1 hok h
    refine joinLs_within fun q hq => h1 q ?_
    rcases List.mem_cons.1 hq with rfl | hq
    · exact List.mem_cons_self ..
    · obtain ⟨y, hy, rfl⟩ := List.mem_map.1 hq
      exact List.mem_cons_of_mem _ (List.mem_map.2 ⟨y, List.mem_of_mem_take hy, rfl⟩)
  have HFEW : Hid ((shapeE (N : Int) l).1 = 0 → ∀ k, k ≤ n → (textTo g (N : Int) l k).length ≤ 16777216) := fun h k hk => Nat.le_trans (textTo_len g (N : Int) l k (by omega)) (textP_few g1 hok h)
  obtain ⟨m0, m1, m2⟩ : X.cell? ⟨w.heap.size, 0, none⟩ = some (.int .u32 g) ∧ X.cell? ⟨w.heap.size, 1, none⟩ = some (.int .u32 (N : Int)) ∧ X.cell? ⟨w.heap.size, 2, none⟩ = some (.slice a n c) := ⟨(one_block k0).1 0, (one_block k0).1 1, (one_block k0).1 2⟩
  generalize hE1 : (shapeE (N : Int) l).1 = E1 at *
  generalize hE2 : (shapeE (N : Int) l).2 = E2 at *
  generalize hE3 : ((E2 : Nat) : Int) = E3 at *
  have HE3 : Hid (E2 = 0 → E3 = 0) := fun h => by rw [← hE3, h]; rfl
  subst hX
  unfold modV at hsh
  clear hv hok hl hn ht k0 k1 hbX hS hE1 hE2 hE3
  go_enter Tryz.func6, Tryz.ntmps6
  go_wp2_with fail
  generalize World.alloc (World.alloc w _) _ = X at *
  have HB12 : Hid (w.heap.size < w.heap.size + 1) := Nat.lt_succ_self _
  generalize w.heap.size + 1 = B1 at *
  refine hsh.mono ?_
  rintro e w1 ⟨rfl, hb1⟩
  have ha1 : Below w1.heap.size w1 (w1.alloc (.cells #[.int .i64 E1, .int .i64 E3] 28)) := (Below.refl _ w1).alloc (Nat.le_refl _) _
  have hb11 := hb1.trans (ha1.mono hb1.size)
  have HB1 := hide (HBX.out.trans (hb11.mono HBX.out.size))
  have k0 := (hb11.block _ (Array.getElem?_eq_some_iff.1 K0.out).1).trans K0.out
  have k1 := (hb11.block _ (Array.getElem?_eq_some_iff.1 K1.out).1).trans K1.out
  have k4 := allocNew w1 (.cells #[.int .i64 E1, .int .i64 E3] 28) rfl
  have L0 := hide k0
  have L1 := hide k1
  have L4 := hide k4
  have HB1L : Hid (B1 < w1.heap.size) := Nat.lt_of_lt_of_le (Array.getElem?_eq_some_iff.1 K1.out).1 hb1.size
  clear hsh hb1 ha1 hb11 m0 m1 m2 K0 K1
  have s0 := (one_block k4).1 0
  have s1 := (one_block k4).1 1
  by_cases hz : E1 = 0
  · have e2 := HZ.out hz
    have e3 := HE3.out e2
    subst hz
    subst e3
    have HSS := hide (HS.out rfl)
    have HEC := hide (HEA.out rfl)
    have HFE := hide (HFEW.out rfl)
    have HWT := hide (HWT0.out rfl)
    have m0 := (one_block k0).1 0
    have m1 := (one_block k0).1 1
    have m2 := (one_block k0).1 2
    have hhd := HHD.out _ (HT.out.below HB1.out)
    clear HS HS0 HZ HEA HFEW HWT0 HE3 HHD k0 k1 k4 e2
    go_wp2_with fail
    generalize hW1 : World.alloc w1 _ = W1 at *
    clear hW1 s0 s1 m0 m1 m2
    refine hhd.mono ?_
    rintro e w2 ⟨rfl, hb2⟩
    have T1 : Hid (T9 W1 w2 (.slice none 0 0) []) := ⟨hb2, World.ownsRow_nil _ _ _ _⟩
    have hhl := HFE.out 0 (Nat.zero_le _)
    rw [textTo_zero] at hhl
    have hin : strI (strOfNums (headL g (N : Int) ++ [10])) = textTo g (N : Int) l 0 := by
      rw [← textTo_zero (l := l)]
      exact strI_of (HWT.out 0 (Nat.zero_le _))
    have HIN := hide hin
    generalize headL g (N : Int) ++ [10] = hl0 at *
    have hsz : (strOfNums hl0).size ≤ 16777216 := by rw [strOfNums_size]; exact hhl
    clear hhd hb2 hhl hin
    generalize strOfNums hl0 = H0 at *
    go_wp2_with (at_builtin; refine t9_str T1.out rfl (.tmp 15) (.tmp 17) rfl rfl H0 rfl (by simp; omega) ?_)
    intro v3 w3 h3
    have T3 : Hid (T9 W1 w3 v3 (textTo g (N : Int) l 0)) := by
      show T9 _ _ _ _
      first | rw [List.nil_append, HIN.out] at h3 | rw [HIN.out] at h3
      exact h3
    clear h3 T1 hsz HIN
    go_wp2_with fail
    go_loopw [5, 6] (fun v i wr => ∃ k : Nat, k ≤ n ∧ i = .int .i64 k ∧ T9 W1 wr v (textTo g (N : Int) l k)) (fun _ i _ => n - (intOf i).toNat)
    case atStart => exact ⟨0, Nat.zero_le _, rfl, T3.out⟩
    case round =>
      obtain ⟨k, hk, rfl, hT⟩ := hrel
      clear T3
      have hbw := HB1.out.trans (hT.bel.mono HB1.out.size)
      have HBW := hide hbw
      have HTT := hide hT
      have k0 := (hT.bel.block _ (Array.getElem?_eq_some_iff.1 L0.out).1).trans L0.out
      have k1 := (hT.bel.block _ (Array.getElem?_eq_some_iff.1 L1.out).1).trans L1.out
      have M0 := hide k0
      have M1 := hide k1
      have m2 := (one_block k0).1 2
      by_cases hlt : k < n
      · obtain ⟨b, off, aj, cj, nj, rfl, hbi, r1, r2, r3, r4, r5, r6, r7⟩ := (HV.out.below hbw) k (by rw [HL.out]; exact hlt)
        have hki : (k : Int) < (n : Int) := by omega
        have hk0 : (0 : Int) ≤ (k : Int) := by omega
        have HLT := hide hlt
        have hw := wrap8 hlt HN.out
        have HW := hide hw
        have LC : Hid (∀ w' : World, Below wr.heap.size wr w' → w'.cell? ⟨w.heap.size, 1, none⟩ = some (.int .u32 (N : Int)) ∧ w'.cell? ⟨w.heap.size, 2, none⟩ = some (.slice (some ⟨b, off, none⟩) n c) ∧ w'.cell? ⟨b, off + k * 4, none⟩ = some (.int .u16 (nthI l k).1) ∧ w'.cell? ⟨b, off + k * 4 + 1, none⟩ = some (.int .u32 (nthI l k).2.1) ∧ w'.cell? ⟨b, off + k * 4 + 2, none⟩ = some (.int .u32 (nthI l k).2.2.1) ∧ w'.cell? ⟨b, off + k * 4 + 3, none⟩ = some (.slice aj nj cj)) := fun w' h => by
          have q := (one_block ((h.block _ (Array.getElem?_eq_some_iff.1 M0.out).1).trans M0.out)).1
          exact ⟨q 1, q 2, (h.cell (p := ⟨b, off + k * 4, none⟩) hbi).trans r1, (h.cell (p := ⟨b, off + k * 4 + 1, none⟩) hbi).trans r2, (h.cell (p := ⟨b, off + k * 4 + 2, none⟩) hbi).trans r3, (h.cell (p := ⟨b, off + k * 4 + 3, none⟩) hbi).trans r4⟩
        have hln := fun wx (h : Below wr.heap.size wr wx) => refLine8_any (nthI l k) (N : Int) aj nj cj wx (r6.below h) (HOK.out k (by rw [HL.out]; exact hlt)) r5 (by omega) HN3.out (HT.out.below (hbw.trans (h.mono hbw.size)))
        have hre := HEC.out k (by rw [HL.out]; exact hlt)
        have hli : linP (nthI l k) (N : Int) = strOfNums (prI (nthI l k)) := if_pos hre
        rw [hre, hli] at hln
        unfold instV at hln
        have HLN := hide hln
        have HNX : Hid (textTo g (N : Int) l (k + 1) = textTo g (N : Int) l k ++ prI (nthI l k) ++ [10]) := textTo_next g (N : Int) l k (by rw [HL.out]; exact hlt)
        have HPI : Hid (strI (strOfNums (prI (nthI l k))) = prI (nthI l k)) := strI_of (prI_within _)
        have hfk := HFE.out (k + 1) hlt
        rw [HNX.out] at hfk
        simp only [List.length_append, List.length_singleton] at hfk
        have hps : (strOfNums (prI (nthI l k))).size = (prI (nthI l k)).length := strOfNums_size _
        have HFK := hide (And.intro hfk hps)
        generalize prI (nthI l k) = P at *
        generalize strOfNums P = PS at *
        generalize nthI l k = x at *
        obtain ⟨x0, x1, x2, x3⟩ := x
        simp only at LC HLN r1 r2 r3
        clear hT hbw k0 k1 hlt hk hbi r1 r2 r3 r4 r5 r6 r7 hln hre hli hfk hps
        go_wp2_with fail
        have hC0 : Below wr.heap.size wr wr.drew := (Below.refl _ wr).drew
        have hmix : Tryz.prog.follows .mixedOrders = true := by kernel_rfl
        refine (wpIn_wide (n := 0)).1 ?_
        refine wpIn_normal (wpIn_region_any hmix (wpAnyE_sound (C := Below wr.heap.size wr) (E := fun _ => false) _ _ _ _ ?_))
        change wpAnyE _ _ _ _ _ _ _ _ _ _ _ (World.drew _)
        refine wpAnyE_takeD (i := 0) (some 27) (v := (.pointer (some ⟨w.heap.size, 2, none⟩))) (fun _ => trivial) (by kernel_rfl) rfl rfl (by kernel_rfl) (by kernel_rfl) (by kernel_rfl) (by kernel_rfl) (fun _ _ _ h => by cases h.1) hC0 (Or.inl ⟨by kernel_rfl, fun w' hC => by obtain ⟨e1, e2, e3, e4, e5, e6⟩ := LC.out w' hC; clear hC; go_simp⟩) ?_
        simp only [Act.put, List.setIfInBounds_toArray, List.set_cons_succ, List.set_cons_zero]
        refine wpAnyE_takeD (i := 1) (some 28) (v := (.slice (some ⟨b, off, none⟩) n c)) (fun _ => trivial) (by kernel_rfl) rfl rfl (by kernel_rfl) (by kernel_rfl) (by kernel_rfl) (by kernel_rfl) (fun _ _ _ h => by cases h.1) hC0 (Or.inl ⟨by kernel_rfl, fun w' hC => by obtain ⟨e1, e2, e3, e4, e5, e6⟩ := LC.out w' hC; clear hC; go_simp⟩) ?_
        simp only [Act.put, List.setIfInBounds_toArray, List.set_cons_succ, List.set_cons_zero]
        refine wpAnyE_takeD (i := 2) (some 29) (v := (.int .i64 (k : Int))) (fun _ => trivial) (by kernel_rfl) rfl rfl (by kernel_rfl) (by kernel_rfl) (by kernel_rfl) (by kernel_rfl) (fun _ _ _ h => by cases h.1) hC0 (Or.inl ⟨by kernel_rfl, fun w' hC => by obtain ⟨e1, e2, e3, e4, e5, e6⟩ := LC.out w' hC; clear hC; go_simp⟩) ?_
        simp only [Act.put, List.setIfInBounds_toArray, List.set_cons_succ, List.set_cons_zero]
        refine wpAnyE_takeD (i := 3) (some 30) (v := (.pointer (some ⟨b, off + k * 4, none⟩))) (fun _ => trivial) (by kernel_rfl) rfl rfl (by kernel_rfl) (by kernel_rfl) (by kernel_rfl) (by kernel_rfl) (fun _ _ _ h => by cases h.1) hC0 (Or.inl ⟨by kernel_rfl, fun w' hC => by obtain ⟨e1, e2, e3, e4, e5, e6⟩ := LC.out w' hC; clear hC; go_simp⟩) ?_
        simp only [Act.put, List.setIfInBounds_toArray, List.set_cons_succ, List.set_cons_zero]
        refine wpAnyE_takeD (i := 4) (some 31) (v := (.agg #[.int .u16 x0, .int .u32 x1, .int .u32 x2, .slice aj nj cj])) (fun _ => trivial) (by kernel_rfl) rfl rfl (by kernel_rfl) (by kernel_rfl) (by kernel_rfl) (by kernel_rfl) (fun _ _ _ h => by cases h.1) hC0 (Or.inl ⟨by kernel_rfl, fun w' hC => by obtain ⟨e1, e2, e3, e4, e5, e6⟩ := LC.out w' hC; clear hC; go_simp⟩) ?_
        simp only [Act.put, List.setIfInBounds_toArray, List.set_cons_succ, List.set_cons_zero]
        refine wpAnyE_takeD (i := 5) (some 32) (v := (.pointer (some ⟨w.heap.size, 1, none⟩))) (fun _ => trivial) (by kernel_rfl) rfl rfl (by kernel_rfl) (by kernel_rfl) (by kernel_rfl) (by kernel_rfl) (fun _ _ _ h => by cases h.1) hC0 (Or.inl ⟨by kernel_rfl, fun w' hC => by obtain ⟨e1, e2, e3, e4, e5, e6⟩ := LC.out w' hC; clear hC; go_simp⟩) ?_
        simp only [Act.put, List.setIfInBounds_toArray, List.set_cons_succ, List.set_cons_zero]
        refine wpAnyE_takeD (i := 6) (some 33) (v := (.int .u32 (N : Int))) (fun _ => trivial) (by kernel_rfl) rfl rfl (by kernel_rfl) (by kernel_rfl) (by kernel_rfl) (by kernel_rfl) (fun _ _ _ h => by cases h.1) hC0 (Or.inl ⟨by kernel_rfl, fun w' hC => by obtain ⟨e1, e2, e3, e4, e5, e6⟩ := LC.out w' hC; clear hC; go_simp⟩) ?_
        simp only [Act.put, List.setIfInBounds_toArray, List.set_cons_succ, List.set_cons_zero]
        clear LC
        refine wpAnyE_ready (rs := [7]) (by kernel_rfl) (by simp) ?_
        refine AllE.cons rfl (fun Kk hK => ?_) AllE.nil
        go_simp
        refine ⟨trivial, rfl, (callsIn_wide.2 (HLN.out _ hC0)).mono ?_⟩
        rintro e w5 ⟨rfl, hb5⟩
        dsimp only
        have hC5 := hC0.trans (show Below wr.heap.size wr.drew w5 from hb5)
        refine hK _ _ (.inr hC5) ?_
        clear hK Kk hb5
        refine wpAnyE_takeD (i := 8) (some 26) (v := (.tuple #[.string PS, .int .i64 0])) (fun _ => trivial) (by kernel_rfl) rfl rfl (by kernel_rfl) (by kernel_rfl) (by kernel_rfl) (by kernel_rfl) (fun _ _ _ h => by cases h.1) hC5 (Or.inl ⟨by kernel_rfl, fun w' hC => by clear hC; go_simp⟩) ?_
        simp only [Act.put, List.setIfInBounds_toArray, List.set_cons_succ, List.set_cons_zero]
        refine wpAnyE_takeD (i := 9) (some 35) (v := (.string PS)) (fun _ => trivial) (by kernel_rfl) rfl rfl (by kernel_rfl) (by kernel_rfl) (by kernel_rfl) (by kernel_rfl) (fun _ _ _ h => by cases h.1) hC5 (Or.inl ⟨by kernel_rfl, fun w' hC => by clear hC; go_simp⟩) ?_
        simp only [Act.put, List.setIfInBounds_toArray, List.set_cons_succ, List.set_cons_zero]
        refine wpAnyE_takeD (i := 10) (some 36) (v := (.int .i64 0)) (fun _ => trivial) (by kernel_rfl) rfl rfl (by kernel_rfl) (by kernel_rfl) (by kernel_rfl) (by kernel_rfl) (fun _ _ _ h => by cases h.1) hC5 (Or.inl ⟨by kernel_rfl, fun w' hC => by clear hC; go_simp⟩) ?_
        simp only [Act.put, List.setIfInBounds_toArray, List.set_cons_succ, List.set_cons_zero]
        refine wpAnyE_takeD (i := 11) (some 7) (v := (.string PS)) (fun _ => trivial) (by kernel_rfl) rfl rfl (by kernel_rfl) (by kernel_rfl) (by kernel_rfl) (by kernel_rfl) (fun _ _ _ h => by cases h.1) hC5 (Or.inl ⟨by kernel_rfl, fun w' hC => by clear hC; go_simp⟩) ?_
        simp only [Act.put, List.setIfInBounds_toArray, List.set_cons_succ, List.set_cons_zero]
        refine wpAnyE_takeD (i := 12) (some 8) (v := (.int .i64 0)) (fun _ => trivial) (by kernel_rfl) rfl rfl (by kernel_rfl) (by kernel_rfl) (by kernel_rfl) (by kernel_rfl) (fun _ _ _ h => by cases h.1) hC5 (Or.inl ⟨by kernel_rfl, fun w' hC => by clear hC; go_simp⟩) ?_
        simp only [Act.put, List.setIfInBounds_toArray, List.set_cons_succ, List.set_cons_zero]
        refine wpAnyE_done (by kernel_rfl) ⟨rfl, ?_⟩ _
        first | rw [then_normal8] | skip
        have T5 := hide (HTT.out.below hC5)
        clear hC0 hC5 hmix HLN
        go_wp2_with (at_builtin; refine t9_str T5.out rfl (.tmp 37) (.tmp 38) rfl rfl PS rfl (by have := HFK.out; omega) ?_)
        intro v6 w6 h6
        have T6 := hide h6
        clear h6
        go_wp2_with (at_builtin; refine t9_byte T6.out rfl (.tmp 40) (.tmp 41) rfl rfl 10 rfl (by have := HFK.out; rw [HPI.out, List.length_append]; omega) ?_)
        intro v7 w7 h7
        have T7 : Hid (T9 W1 w7 v7 (textTo g (N : Int) l (k + 1))) := by
          show T9 _ _ _ _
          rw [HNX.out]
          rw [HPI.out] at h7
          simpa only [List.append_assoc] using h7
        clear h7 T6 T5
        go_wp2_with fail
        exact ⟨⟨k + 1, HLT.out, by first | (rw [hw]; simp) | simp, T7.out⟩, by first | (rw [hw]; exact measY HLT.out) | exact measY HLT.out⟩
      · have e : k = n := by omega
        subst e
        have hcv := rowB_convert hT.own
        have HSE : Hid (S = strOfNums (textTo g (N : Int) l k)) := by
          show _ = _
          rw [HSS.out, ← textTo_all, HL.out]
        generalize strOfNums (textTo g (N : Int) l k) = TX at *
        obtain ⟨z0, z1⟩ := twoF8 k1
        have x0 := (one_block k1).1 0
        have x1 := (one_block k1).1 1
        clear hT hbw k0 k1 hlt hk
        go_wp2_with fail
        refine tx8Ret (B := B1) rfl rfl rfl (spotLd8 M1.out _ _) ⟨by rw [HSE.out], ?_⟩
        first | exact ((HBW.out.setCell (Nat.le_of_lt HB12.out) _).setCell (Nat.le_of_lt HB12.out) _) | exact ((HBW.out.setCell (Nat.le_of_lt HB12.out) _).setCell (Nat.le_of_lt HB12.out) _).drew
  · have HS9 := hide (HS0.out hz)
    have hb0 : (E1 == 0) = false := by simpa using hz
    have hbn : (E1 != 0) = true := by simpa using hz
    obtain ⟨z0, z1⟩ := twoF8 k1
    have x0 := (one_block k1).1 0
    have x1 := (one_block k1).1 1
    clear HS HS0 HZ HEA HFEW HWT0 HE3 HHD k0 k1 k4 hz
    go_wp2_with fail
    generalize World.alloc w1 _ = W1 at *
    have hC0 : W1.drew.heap[w1.heap.size]? = some (.cells #[.int .i64 E1, .int .i64 E3] 28 (0, 0)) := L4.out
    have hmix : Tryz.prog.follows .mixedOrders = true := by kernel_rfl
    have hkb : w1.heap.size ≠ B1 := by have := HB1L.out; omega
    have LC : Hid (∀ w' : World, w'.heap[w1.heap.size]? = some (.cells #[.int .i64 E1, .int .i64 E3] 28 (0, 0)) → w'.cell? ⟨w1.heap.size, 0, none⟩ = some (.int .i64 E1) ∧ w'.cell? ⟨w1.heap.size, 1, none⟩ = some (.int .i64 E3)) := fun w' h => ⟨(one_block h).1 0, (one_block h).1 1⟩
    refine (wpIn_wide (n := 0)).1 ?_
    refine wpIn_normal (wpIn_region_any hmix (wpAnyE_sound (C := fun w' => w'.heap[w1.heap.size]? = some (.cells #[.int .i64 E1, .int .i64 E3] 28 (0, 0))) (E := fun _ => false) _ _ _ _ ?_))
    change wpAnyE _ _ _ _ _ _ _ _ _ _ _ (World.drew _)
    refine wpAnyE_takeD (i := 0) (some 14) (v := (.agg #[.int .i64 E1, .int .i64 E3])) (fun _ => trivial) (by kernel_rfl) rfl rfl (by kernel_rfl) (by kernel_rfl) (by kernel_rfl) (by kernel_rfl) (fun _ _ _ h => by cases h.1) hC0 (Or.inl ⟨by kernel_rfl, fun w' hC => by obtain ⟨e1, e2⟩ := LC.out w' hC; clear hC; go_simp⟩) ?_
    simp only [Act.put, List.setIfInBounds_toArray, List.set_cons_succ, List.set_cons_zero]
    refine wpAnyE_takeD (i := 1) (some 2) (v := (.string ⟨#[]⟩)) (fun _ => trivial) (by kernel_rfl) rfl rfl (by kernel_rfl) (by kernel_rfl) (by kernel_rfl) (by kernel_rfl) (fun _ _ _ h => by cases h.1) hC0 (Or.inl ⟨by kernel_rfl, fun w' hC => by obtain ⟨e1, e2⟩ := LC.out w' hC; clear hC; go_simp⟩) ?_
    simp only [Act.put, List.setIfInBounds_toArray, List.set_cons_succ, List.set_cons_zero]
    clear LC
    refine wpAnyE_ready (rs := [2]) (by kernel_rfl) (by simp) ?_
    refine AllE.cons rfl (fun Kk hK => ?_) AllE.nil
    go_simp
    refine hK _ _ (.inr (oth8 L4.out hkb _ _)) ?_
    clear hK Kk
    refine wpAnyE_done (by kernel_rfl) ⟨rfl, ?_⟩ _
    first | rw [then_normal8] | skip
    go_wp2_with fail
    refine tx8Ret (B := B1) rfl rfl rfl (spotLd8 L1.out _ _) ⟨by rw [HS9.out], ?_⟩
    first | exact ((HB1.out.setCell (Nat.le_of_lt HB12.out) _).setCell (Nat.le_of_lt HB12.out) _).drew | exact ((HB1.out.drew.setCell (Nat.le_of_lt HB12.out) _).setCell (Nat.le_of_lt HB12.out) _)

end Go.Proofs.YtonhnflilfjkbaaGreatDoor
