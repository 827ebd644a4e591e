/-
  Texts laid together in one: LawCodeIds.
-/
import Derived.WalkSpells
import Derived.WalkMore
import Derived.Test.YtpggcpnjcalfaaaB01
import Derived.Test.YtpggcpnjcalfaaaB02
import Derived.Test.YtpggcpnjcalfaaaB07
import Derived.Test.YtpggcpnjcalfaaaB08
import Derived.Test.YtpggcpnjcalfaaaB21
/-
  The law CodeIds answers true, for every instruction.
-/
namespace Go.Proofs.Ytpggcpnjcalfaaa
open Go.RowKit
set_option linter.unusedVariables false
set_option linter.unusedSimpArgs false
set_option maxRecDepth 10000

set_option maxHeartbeats 2000000 in
theorem codeIds_true (w : World) (x : InstT) (ax : Option Addr) (n cx : Nat) (hl : x.2.2.2.length = n) (hv : ArgsV w ax x.2.2.2) (hok : InstOk x) (hc : n ≤ cx) :
    Calls Try.prog 4 #[instV x ax n cx] w fun e w' => e = .returned (.bool true) ∧ Below w.heap.size w w' := by
  have hn : 24 * n ≤ 140737488351232 := by rw [← hl]; exact hok.2.2.2.2.2.2.2
  have hCp := fun wx (hb : Below w.heap.size w wx) => copyInst_any x ax n cx wx (hv.below hb) hl hn
  have hId := fun wx g (h : ArgsV wx (some ⟨g, 0, none⟩) x.2.2.2) => codeIds_any x (some ⟨g, 0, none⟩) n n wx h hl hn
  have hRf := fun wx (hb : Below w.heap.size w wx) => refIds_any x ax n cx wx (hv.below hb) hl hn
  have hIn := fun wx g (h : ArgsV wx (some ⟨g, 0, none⟩) x.2.2.2) (hb : Below w.heap.size w wx) => kitInst_any x x (some ⟨g, 0, none⟩) ax n n n cx wx h (hv.below hb) hl hl (by omega) (by omega)
  have hAw := fun w => awake4_true w
  have hil := idsTo_len x.2.1 x.2.2.2 x.2.2.2.length
  have hil2 : (idsI x).length ≤ 1 + n := by rw [← hl]; exact hil
  rw [show decide (x = x) = true by simp] at hIn
  generalize idsI x = zs at *
  have HL : Hid (x.2.2.2.length = n) := hl
  clear hl hv hok hil
  obtain ⟨xo, xt, xr, xl⟩ := x
  unfold instV at *
  simp only at *
  have hB0 : Below w.heap.size w (w.alloc (.cells #[.int .u16 xo, .int .u32 xt, .int .u32 xr, .slice ax n cx] 29)) := (Below.refl _ w).alloc (Nat.le_refl _) _
  have k0 := alloc_new w #[.int .u16 xo, .int .u32 xt, .int .u32 xr, .slice ax n cx] 29
  have l0 := (Array.getElem?_eq_some_iff.1 k0).1
  have hC := hCp _ hB0
  have HB0 : Hid _ := hB0
  have HK0 : Hid _ := k0
  have HL0 : Hid _ := l0
  clear hCp hB0 k0 l0
  go_enter Try.func4, Try.ntmps4
  go_wp2_with fail
  have hB0 := HB0.out
  have k0 := HK0.out
  have l0 := HL0.out
  clear HB0 HK0 HL0
  generalize w.alloc (.cells #[.int .u16 xo, .int .u32 xt, .int .u32 xr, .slice ax n cx] 29) = W0 at *
  refine hC.mono ?_
  rintro e w1 ⟨g, rfl, hg, hA1, hb1⟩
  have hb1a : Below w1.heap.size w1 (w1.alloc (.cells #[.int .u16 xo, .int .u32 xt, .int .u32 xr, .slice (some ⟨g, 0, none⟩) n n] 29)) := (Below.refl _ w1).alloc (Nat.le_refl _) _
  have hbW1 := hb1.trans (hb1a.mono hb1.size)
  have HB1 : Hid _ := hB0.trans (hbW1.mono hB0.size)
  have HK1 : Hid _ := (hbW1.block _ l0).trans k0
  have HC1 : Hid _ := alloc_new w1 #[.int .u16 xo, .int .u32 xt, .int .u32 xr, .slice (some ⟨g, 0, none⟩) n n] 29
  have hA1' := hA1.below hb1a
  have hC2 := hId _ g hA1'
  have HA1 : Hid (ArgsV _ (some ⟨g, 0, none⟩) xl) := hA1'
  have HS1 : Hid _ := hbW1.size
  clear hC hId hA1 hb1 hb1a hbW1 hB0 k0 hA1'
  go_wp2_with fail
  have hB1 := HB1.out
  have k1 := HK1.out
  have kc1 := HC1.out
  have hA1 := HA1.out
  have hS1 := HS1.out
  clear HB1 HK1 HC1 HA1 HS1
  generalize w1.alloc (.cells #[.int .u16 xo, .int .u32 xt, .int .u32 xr, .slice (some ⟨g, 0, none⟩) n n] 29) = W1 at *
  have lc := (Array.getElem?_eq_some_iff.1 kc1).1
  refine hC2.mono ?_
  rintro e w2 ⟨hb2, a2, m2, c2, rfl, hm2, hown2⟩
  have hB2 := hB1.trans (hb2.mono hB1.size)
  obtain ⟨i0, i1, i2, i3⟩ := four_cells ((hb2.block _ (by omega)).trans k1)
  have hC3 := hRf _ hB2
  clear hC2 hRf
  go_wp2_with fail
  refine hC3.mono ?_
  rintro e w3 ⟨hb3, a3, m3, c3, rfl, hm3, hown3⟩
  obtain rfl : m2 = m3 := by omega
  have hV2 := (View.ofOwn hown2 hm2).below hb3
  have hV3 := View.ofOwn hown3 hm3
  have hC4 := words_true a2 a3 m2 c2 c3 zs w3 hV2 hV3 hm2 (by omega)
  have hb23 := hb2.trans (hb3.mono hb2.size)
  have hown3' := own_below hown2 hb3
  clear hC3 hb2 hb3 hown2 hown3 hV2 hV3 i0 i1 i2 i3 hB2
  go_wp2_with fail
  refine hC4.mono ?_
  rintro e w4 ⟨rfl, q, hq⟩
  have hb34 : Below w3.heap.size w3 w4 := by rw [hq]; exact bel_drewN (Below.refl _ _) q
  have hown4 := own_below hown3' hb34
  have hb4 := hb23.trans (hb34.mono hb23.size)
  have hC5 := spoil_own (.slice a2 m2 c2) m2 W1.heap.size zs w4 hown4 hm2 (by omega)
  have hlo := hown4.lt
  clear hC4 hq hb23 hb34 hown3' hown4
  go_wp2_with fail
  refine hC5.mono ?_
  rintro e w5 ⟨rfl, hg5, _⟩
  have hb5 : Below W1.heap.size W1 w5 := hb4.grown hg5 hb4.size (fun k e => (hlo k e).1)
  have hB5 := hB1.trans (hb5.mono hB1.size)
  obtain ⟨i0, i1, i2, i3⟩ := four_cells ((hb5.block _ (by omega)).trans k1)
  obtain ⟨j0, j1, j2, j3⟩ := four_cells ((hb5.block _ lc).trans kc1)
  have hC6 := hIn w5 g (hA1.below hb5) hB5
  clear hC5 hg5 hb4 hlo
  go_wp2_with fail
  refine hC6.mono ?_
  rintro e w6 ⟨rfl, hb6⟩
  have hB6 := hB5.trans (hb6.mono hB5.size)
  clear hC6 hb6 hB5 hb5 i0 i1 i2 i3 j0 j1 j2 j3
  go_wp2_with fail
  refine (hAw _).mono ?_
  rintro e w7 ⟨rfl, hb7⟩
  have hB7 := hB6.trans (hb7.mono hB6.size)
  clear hb7 hB6 k1 kc1 hA1
  go_wp2
  go_ret
  exact ⟨by simp, hB7⟩

end Go.Proofs.Ytpggcpnjcalfaaa
