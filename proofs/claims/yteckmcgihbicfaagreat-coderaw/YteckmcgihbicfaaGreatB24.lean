/-
  Texts laid together in one: Ref04Raw2, LawCodeRaw.
-/
import Derived.WalkSpells
import Derived.WalkMore
import Derived.Test.YteckmcgihbicfaaGreatProg
import Derived.Test.YteckmcgihbicfaaGreatB22
import Derived.Test.YteckmcgihbicfaaGreatB23
import Derived.OpenShut
import Derived.Test.YteckmcgihbicfaaGreatB21
import Derived.Test.YteckmcgihbicfaaGreatB02
import Derived.Test.YteckmcgihbicfaaGreatB04
import Derived.Test.YteckmcgihbicfaaGreatB18
import Derived.Test.YteckmcgihbicfaaGreatB20
/-
  What Raw of the document's answer returns, for every instruction: its words in new memory, or its error.
-/
namespace Go.Proofs.YteckmcgihbicfaaGreat
open Go.RowKit
set_option linter.unusedVariables false
set_option linter.unusedSimpArgs false
set_option maxRecDepth 10000

set_option maxHeartbeats 4000000 in
theorem refRaw4_err (x : InstT) (b : Int) (ax : Option Addr) (n cx : Nat) (w : World) (hv : ArgsV w ax x.2.2.2) (hok : InstOk x) (hl : x.2.2.2.length = n) (b0 : 0 ≤ b) (b1 : b < 4294967296) (hE : rawE x b ≠ 0) :
    Calls Tryz.prog 17 #[instV x ax n cx, .int .u32 b] w fun e w' => Below w.heap.size w w' ∧ e = .returned (.tuple #[.agg #[.int .u16 0, .slice none 0 0], .int .i64 (rawE x b)]) := by
  have hF := fun (wx : World) (hb : Below w.heap.size w wx) => refFault4_any x b ax n cx wx (hv.below hb) hok hl b0 b1
  generalize rawE x b = E at *
  have hE' : (E != 0) = true := by simp [hE]
  obtain ⟨xo, xt, xr, xl⟩ := x
  unfold instV at hF ⊢
  simp only at hF ⊢
  have hbel0 : Below w.heap.size w ((w.alloc (.cells #[.int .u16 xo, .int .u32 xt, .int .u32 xr, .slice ax n cx] 45)).alloc (.cells #[.int .u16 0, .slice none 0 0] 48)) := ((Below.refl _ w).alloc (Nat.le_refl _) _).alloc (by simp) _
  have kR : ((w.alloc (.cells #[.int .u16 xo, .int .u32 xt, .int .u32 xr, .slice ax n cx] 45)).alloc (.cells #[.int .u16 0, .slice none 0 0] 48)).heap[w.heap.size + 1]? = some (.cells #[.int .u16 0, .slice none 0 0] 48 (0, 0)) := by simpa using alloc_new (w.alloc (.cells #[.int .u16 xo, .int .u32 xt, .int .u32 xr, .slice ax n cx] 45)) #[.int .u16 0, .slice none 0 0] 48
  clear hv hok hl
  go_enter Tryz.func17, Tryz.ntmps17
  go_wp2_with fail
  generalize (w.alloc (.cells #[.int .u16 xo, .int .u32 xt, .int .u32 xr, .slice ax n cx] 45)).alloc (.cells #[.int .u16 0, .slice none 0 0] 48) = W0 at *
  refine (hF _ hbel0).mono ?_
  rintro e w1 ⟨rfl, hb1⟩
  have sR := (Array.getElem?_eq_some_iff.1 kR).1
  have kR1 := (hb1.block _ sR).trans kR
  have hbel1 := hbel0.trans (hb1.mono (by omega))
  obtain ⟨m0, mf⟩ := one_block kR1
  have m1 := m0 0
  have m2 := m0 1
  have HB3 := hide (two_put2 kR1 (.int .u16 0) (.slice none 0 0))
  have HBel := hide ((hbel1.setCell (p := ⟨w.heap.size + 1, 0, none⟩) (by simp) (.int .u16 0)).setCell (p := ⟨w.heap.size + 1, 1, none⟩) (by simp) (.slice none 0 0))
  clear hF hb1 kR hbel0 kR1 hbel1 m0
  go_wp2_with fail
  generalize (w1.setCell _ _).setCell _ _ = W9 at *
  obtain ⟨hd, _⟩ := one_block HB3.out
  have d0 := hd 0
  have d1 := hd 1
  refine bodyPost_ret (v := .tuple #[.agg #[.int .u16 0, .slice none 0 0], .int .i64 E]) ?_ rfl ⟨HBel.out, rfl⟩
  simp [results, Tryz.results17, go_sem, d0, d1]

theorem refRaw4_any (x : InstT) (b : Int) (ax : Option Addr) (n cx : Nat) (w : World) (hv : ArgsV w ax x.2.2.2) (hok : InstOk x) (hl : x.2.2.2.length = n) (b0 : 0 ≤ b) (b1 : b < 4294967296) :
    Calls Tryz.prog 17 #[instV x ax n cx, .int .u32 b] w fun e w' => Below w.heap.size w w' ∧ ∃ a m c, e = .returned (.tuple #[.agg #[.int .u16 (rawO x b), .slice a m c], .int .i64 (rawE x b)]) ∧ (rawWs x b).length = m ∧
      w'.ownsRow w.heap.size 23 1 (.slice a m c) m ((rawWs x b).map (Value.int .u32)) := by
  by_cases hE : rawE x b = 0
  · obtain ⟨h1, h2, h3⟩ := rawWs_ok hE
    have hf := faultI_zero h2
    obtain ⟨xo, xt, xr, xl⟩ := x
    simp only at h1 h2 h3 hf hv hl
    have e1 : rawO (xo, xt, xr, xl) b = xo := by unfold rawO; rw [if_pos hE]
    rw [e1, h3, hE]
    have hlk : lookF refT xo = ((lookF refT xo).1, true) := by rw [← h1]
    have hnul : ∀ k, k < n → (nthA xl k).1 = 3 → NoNul (nthA xl k).2.2 := fun k hk h3 => by
      have := wrongL_zero hf.2.2.1 k (by omega)
      unfold wrongA at this
      split at this
      · omega
      · try rw [if_pos h3] at this
        rw [← nulS_false]
        cases e : nulS (nthA xl k).2.2 with
        | false => rfl
        | true => rw [e] at this; simp at this
    have hln : (rawL (lookF refT xo).1 (xo, xt, xr, xl)).length ≤ 65535 := by omega
    clear h1 h2 h3 hf e1
    generalize (lookF refT xo).1 = f at *
    obtain ⟨nm, t, r, fx, rs, mo, pa⟩ := f
    cases t <;> cases r
    · exact refRaw4_ff xo xt xr xl b ax n cx w hv hok hl b0 b1 nm fx rs mo pa hlk hE hln hnul
    · exact refRaw4_ft xo xt xr xl b ax n cx w hv hok hl b0 b1 nm fx rs mo pa hlk hE hln hnul
    · exact refRaw4_tf xo xt xr xl b ax n cx w hv hok hl b0 b1 nm fx rs mo pa hlk hE hln hnul
    · exact refRaw4_tt xo xt xr xl b ax n cx w hv hok hl b0 b1 nm fx rs mo pa hlk hE hln hnul
  · have e1 : rawO x b = 0 := by unfold rawO; rw [if_neg hE]
    have e2 : rawWs x b = [] := by unfold rawWs; rw [if_neg hE]
    rw [e1, e2]
    refine (refRaw4_err x b ax n cx w hv hok hl b0 b1 hE).mono ?_
    rintro e w' ⟨hb, rfl⟩
    exact ⟨hb, none, 0, 0, rfl, rfl, World.ownsRow_nil _ _ _ _⟩

end Go.Proofs.YteckmcgihbicfaaGreat

/-
  The law CodeRaw answers true, for every instruction and every bound.
-/
namespace Go.Proofs.YteckmcgihbicfaaGreat
open Go.RowKit
set_option linter.unusedVariables false
set_option linter.unusedSimpArgs false
set_option maxRecDepth 10000

set_option maxHeartbeats 4000000 in
theorem codeRaw_true (w : World) (x : InstT) (ax : Option Addr) (n cx : Nat) (hl : x.2.2.2.length = n) (hv : ArgsV w ax x.2.2.2) (hok : InstOk x) (hc : n ≤ cx) (b : Int) (hb : (Lit.int .u32 b).wf = true) :
    Calls Tryz.prog 5 #[instV x ax n cx, .int .u32 b] w fun e w' => e = .returned (.bool true) ∧ Below w.heap.size w w' := by
  have hbb := Go.bounds_u32 hb
  have hn : 24 * n ≤ 140737488351232 := by rw [← hl]; exact hok.2.2.2.2.2.2.2
  have hCp := fun wx (hb : Below w.heap.size w wx) => copyInst_any x ax n cx wx (hv.below hb) hl hn
  have hId := fun wx g (h : ArgsV wx (some ⟨g, 0, none⟩) x.2.2.2) => raw_any x b (some ⟨g, 0, none⟩) n n wx h hok hl
  have hRf := fun wx (hb : Below w.heap.size w wx) => refRaw4_any x b ax n cx wx (hv.below hb) hok hl (by omega) (by omega)
  have hIn := fun wx g (h : ArgsV wx (some ⟨g, 0, none⟩) x.2.2.2) (hb : Below w.heap.size w wx) => kitInst_any x x (some ⟨g, 0, none⟩) ax n n n cx wx h (hv.below hb) hl hl (by omega) (by omega)
  have hAw := fun w => awake4_true w
  have hil2 : (rawWs x b).length < 65535 := rawWs_len x b
  rw [show decide (x = x) = true by simp] at hIn
  generalize rawWs x b = zs at *
  generalize rawO x b = ro at *
  generalize rawE x b = re at *
  have hzi : (zs.length : Int) < 65535 := by omega
  have HIL : Hid (zs.length < 65535) := hil2
  have HL : Hid (x.2.2.2.length = n) := hl
  clear hl hv hok hil2 hb hbb
  obtain ⟨xo, xt, xr, xl⟩ := x
  unfold instV at *
  simp only at *
  have hB0 : Below w.heap.size w (w.alloc (.cells #[.int .u16 xo, .int .u32 xt, .int .u32 xr, .slice ax n cx] 45)) := (Below.refl _ w).alloc (Nat.le_refl _) _
  have k0 := alloc_new w #[.int .u16 xo, .int .u32 xt, .int .u32 xr, .slice ax n cx] 45
  have l0 := (Array.getElem?_eq_some_iff.1 k0).1
  have hC := hRf _ hB0
  have HB0 := hide hB0
  have HK0 := hide k0
  have HL0 := hide l0
  clear hRf hB0 k0 l0
  go_enter Tryz.func5, Tryz.ntmps5
  go_wp2_with fail
  have hB0 := HB0.out
  have k0 := HK0.out
  have l0 := HL0.out
  clear HB0 HK0 HL0
  generalize w.alloc (.cells #[.int .u16 xo, .int .u32 xt, .int .u32 xr, .slice ax n cx] 45) = W0 at *
  refine hC.mono ?_
  rintro e w1 ⟨hb1, a1, m1, c1, rfl, hm1, hown1⟩
  have hba : Below w1.heap.size w1 (w1.alloc (.cells #[.int .u16 ro, .slice a1 m1 c1] 48)) := (Below.refl _ w1).alloc (Nat.le_refl _) _
  have hbW := hb1.trans (hba.mono hb1.size)
  have s1 : w.heap.size < w1.heap.size := Nat.lt_of_lt_of_le l0 hb1.size
  obtain ⟨i0, i1, i2, i3⟩ := four_cells ((hb1.block _ l0).trans k0)
  have hB1 := hB0.trans (hbW.mono hB0.size)
  have HC2 := hide (hCp _ hB1)
  have HKI := hide ((hbW.block _ l0).trans k0)
  have HKR := hide (alloc_new w1 #[.int .u16 ro, .slice a1 m1 c1] 48)
  have HOR := hide (own_below hown1 hba)
  have HB1 := hide hB1
  clear hC hCp hb1 hba hbW hB0 k0 hown1 hB1
  go_wp2_with fail
  generalize hW1 : w1.alloc (.cells #[.int .u16 ro, .slice a1 m1 c1] 48) = W1 at *
  have sr := (Array.getElem?_eq_some_iff.1 HKR.out).1
  clear hW1 i0 i1 i2 i3
  refine HC2.out.mono ?_
  rintro e w2 ⟨g, rfl, hg, hA2, hb2⟩
  have hb2a : Below w2.heap.size w2 (w2.alloc (.cells #[.int .u16 xo, .int .u32 xt, .int .u32 xr, .slice (some ⟨g, 0, none⟩) n n] 45)) := (Below.refl _ w2).alloc (Nat.le_refl _) _
  have hbW2 := hb2.trans (hb2a.mono hb2.size)
  have hB2 := HB1.out.trans (hbW2.mono HB1.out.size)
  have HKI2 := hide ((hbW2.block _ (by omega)).trans HKI.out)
  have HKR2 := hide ((hbW2.block _ sr).trans HKR.out)
  have HKC2 := hide (alloc_new w2 #[.int .u16 xo, .int .u32 xt, .int .u32 xr, .slice (some ⟨g, 0, none⟩) n n] 45)
  have HOR2 := hide (own_below HOR.out hbW2)
  have hA2' := hA2.below hb2a
  have HC3 := hide (hId _ g hA2')
  have HA2 := hide hA2'
  have HB2 := hide hB2
  have s2 : w1.heap.size < w2.heap.size := Nat.lt_of_lt_of_le sr hb2.size
  clear HC2 hId hA2 hb2 hb2a hbW2 hB2 HB1 HKI HKR HOR hA2'
  go_wp2_with fail
  generalize hW2 : w2.alloc (.cells #[.int .u16 xo, .int .u32 xt, .int .u32 xr, .slice (some ⟨g, 0, none⟩) n n] 45) = W2 at *
  have sc := (Array.getElem?_eq_some_iff.1 HKC2.out).1
  clear hW2
  refine HC3.out.mono ?_
  rintro e w3 ⟨hb3, a3, m3, c3, rfl, hm3, hown3⟩
  obtain rfl : m1 = m3 := by omega
  have hb3a : Below w3.heap.size w3 (w3.alloc (.cells #[.int .u16 ro, .slice a3 m1 c3] 48)) := (Below.refl _ w3).alloc (Nat.le_refl _) _
  have hbW3 := hb3.trans (hb3a.mono hb3.size)
  have s3 : w2.heap.size < w3.heap.size := Nat.lt_of_lt_of_le sc hb3.size
  have kR3 := (hb3.block w1.heap.size (by omega)).trans HKR2.out
  obtain ⟨mm, _⟩ := one_block kR3
  have r0 := mm 0
  have r1 := mm 1
  have hbx := hbW3
  have HV1 := hide (View.ofOwn (own_below HOR2.out hbW3) hm1)
  have HV3 := hide (View.ofOwn (own_below hown3 hb3a) hm3)
  have HO3 := hide (own_below hown3 hb3a)
  have HBX := hide hbx
  have hwt := fun wx (h1 : View .u32 wx a3 zs) (h2 : View .u32 wx a1 zs) => words_true a3 a1 m1 c3 c1 zs wx h1 h2 hm3 (by have := HIL.out; omega)
  have hC4 := hwt _ HV3.out HV1.out
  have s13 : w1.heap.size < w3.heap.size := by omega
  clear HC3 hb3 hb3a hbW3 hbx kR3 mm hown3 HOR2 hwt
  go_wp2_with fail
  refine hC4.mono ?_
  rintro e w4 ⟨rfl, q, hq⟩
  have hb34 : Below (w3.alloc (.cells #[.int .u16 ro, .slice a3 m1 c3] 48)).heap.size (w3.alloc (.cells #[.int .u16 ro, .slice a3 m1 c3] 48)) w4 := by rw [hq]; exact bel_drewN (Below.refl _ _) q
  have kX4 := (hb34.block w3.heap.size (by simp)).trans (alloc_new w3 #[.int .u16 ro, .slice a3 m1 c3] 48)
  obtain ⟨mm, _⟩ := one_block kX4
  have x1 := mm 1
  have hown4 := own_below HO3.out hb34
  have hb4 := HBX.out.trans (hb34.mono HBX.out.size)
  have hC5 := spoil_own (.slice a3 m1 c3) m1 W2.heap.size zs w4 hown4 hm3 (by have := HIL.out; omega)
  have hlo := hown4.lt
  clear hC4 hq hb34 hown4 HO3 HBX HV1 HV3 kX4 mm r0 r1
  go_wp2_with fail
  refine hC5.mono ?_
  rintro e w5 ⟨rfl, hg5, _⟩
  have hb5 : Below W2.heap.size W2 w5 := hb4.grown hg5 hb4.size (fun k e => (hlo k e).1)
  have hB5 := HB2.out.trans (hb5.mono HB2.out.size)
  obtain ⟨i0, i1, i2, i3⟩ := four_cells ((hb5.block _ (by omega)).trans HKI2.out)
  obtain ⟨j0, j1, j2, j3⟩ := four_cells ((hb5.block _ sc).trans HKC2.out)
  have hC6 := hIn w5 g (HA2.out.below hb5) hB5
  clear hC5 hg5 hb4 hlo x1
  go_wp2_with fail
  refine hC6.mono ?_
  rintro e w6 ⟨rfl, hb6⟩
  have hB6 := hB5.trans (hb6.mono hB5.size)
  clear hC6 hb6 hB5 hb5 i0 i1 i2 i3 j0 j1 j2 j3
  go_wp2_with fail
  refine (hAw _).mono ?_
  rintro e w7 ⟨rfl, hb7⟩
  have hB7 := hB6.trans (hb7.mono hB6.size)
  clear hb7 hB6
  go_wp2
  go_ret
  exact ⟨by simp, hB7⟩

end Go.Proofs.YteckmcgihbicfaaGreat
