/-
  Texts laid together in one: Ref04Raw2, PrintLineF, Ref08Line, ArgInsts, Law04Own, LawPrintLines, PrintLinesProof.
-/
import Derived.WalkSpells
import Derived.WalkMore
import Derived.Test.YtonhnflilfjkbaaGreatDoorProg
import Derived.Test.YtonhnflilfjkbaaGreatDoorB20
import Derived.Test.YtonhnflilfjkbaaGreatDoorB21
import Derived.BigRegion
import Derived.Test.YtonhnflilfjkbaaGreatDoorB13
import Derived.Test.YtonhnflilfjkbaaGreatDoorB14
import Derived.Test.YtonhnflilfjkbaaGreatDoorB15
import Derived.Test.YtonhnflilfjkbaaGreatDoorB09
import Derived.Test.YtonhnflilfjkbaaGreatDoorB17
import Derived.Test.YtonhnflilfjkbaaGreatDoorB19
import Derived.ProofKit
import Derived.OpenShut
import Derived.SizedLaws
import Derived.Deep.Slices
import Derived.Deep.SlicePairs
import Derived.Lib.SmallJoins
import Derived.Test.YtonhnflilfjkbaaGreatDoorB01
import Derived.Deep.AppendLies
import Derived.Deep.QuietTactic
import Derived.BigQuiet
import Derived.Test.YtonhnflilfjkbaaGreatDoorB07
import Derived.Test.YtonhnflilfjkbaaGreatDoorB03
import Derived.Test.YtonhnflilfjkbaaGreatDoorB11
import Derived.OwnWalk
import Derived.BigFrame
import Derived.Test.YtonhnflilfjkbaaGreatDoorB16
import Derived.Test.YtonhnflilfjkbaaGreatDoorB05
import Derived.Test.YtonhnflilfjkbaaGreatDoorRows
import Derived.LaidMore
import Derived.Stop.Joined
import Derived.Stop.LaidErr
import Derived.Lib.LaidTab
import Derived.ShutString
import Derived.ChangeOld
import Derived.Below
/-
  What Raw of the document's answer returns, for every instruction: its words in new memory, or its error.
-/
namespace Go.Proofs.YtonhnflilfjkbaaGreatDoor
open Go.RowKit
set_option linter.unusedVariables false
set_option linter.unusedSimpArgs false
set_option maxRecDepth 10000

set_option maxHeartbeats 4000000 in
theorem refRaw4_err (x : InstT) (b : Int) (ax : Option Addr) (n cx : Nat) (w : World) (hv : ArgsV w ax x.2.2.2) (hok : InstOk x) (hl : x.2.2.2.length = n) (b0 : 0 ≤ b) (b1 : b < 4294967296) (hE : rawE x b ≠ 0) :
    Calls Tryz.prog 24 #[instV x ax n cx, .int .u32 b] w fun e w' => Below w.heap.size w w' ∧ e = .returned (.tuple #[.agg #[.int .u16 0, .slice none 0 0], .int .i64 (rawE x b)]) := by
  have hF := fun (wx : World) (hb : Below w.heap.size w wx) => refFault4_any x b ax n cx wx (hv.below hb) hok hl b0 b1
  generalize rawE x b = E at *
  have hE' : (E != 0) = true := by simp [hE]
  obtain ⟨xo, xt, xr, xl⟩ := x
  unfold instV at hF ⊢
  simp only at hF ⊢
  have hbel0 : Below w.heap.size w ((w.alloc (.cells #[.int .u16 xo, .int .u32 xt, .int .u32 xr, .slice ax n cx] 38)).alloc (.cells #[.int .u16 0, .slice none 0 0] 54)) := ((Below.refl _ w).alloc (Nat.le_refl _) _).alloc (by simp) _
  have kR : ((w.alloc (.cells #[.int .u16 xo, .int .u32 xt, .int .u32 xr, .slice ax n cx] 38)).alloc (.cells #[.int .u16 0, .slice none 0 0] 54)).heap[w.heap.size + 1]? = some (.cells #[.int .u16 0, .slice none 0 0] 54 (0, 0)) := by simpa using alloc_new (w.alloc (.cells #[.int .u16 xo, .int .u32 xt, .int .u32 xr, .slice ax n cx] 38)) #[.int .u16 0, .slice none 0 0] 54
  clear hv hok hl
  go_enter Tryz.func24, Tryz.ntmps24
  go_wp2_with fail
  generalize (w.alloc (.cells #[.int .u16 xo, .int .u32 xt, .int .u32 xr, .slice ax n cx] 38)).alloc (.cells #[.int .u16 0, .slice none 0 0] 54) = W0 at *
  refine (hF _ hbel0).mono ?_
  rintro e w1 ⟨rfl, hb1⟩
  have sR := (Array.getElem?_eq_some_iff.1 kR).1
  have kR1 := (hb1.block _ sR).trans kR
  have hbel1 := hbel0.trans (hb1.mono (by omega))
  obtain ⟨m0, mf⟩ := one_block kR1
  have m1 := m0 0
  have m2 := m0 1
  have HB3 := hide (two_put2 kR1 (.int .u16 0) (.slice none 0 0))
  have HBel := hide ((hbel1.setCell (p := ⟨w.heap.size + 1, 0, none⟩) (by simp) (.int .u16 0)).setCell (p := ⟨w.heap.size + 1, 1, none⟩) (by simp) (.slice none 0 0))
  clear hF hb1 kR hbel0 kR1 hbel1 m0
  go_wp2_with fail
  generalize (w1.setCell _ _).setCell _ _ = W9 at *
  obtain ⟨hd, _⟩ := one_block HB3.out
  have d0 := hd 0
  have d1 := hd 1
  refine bodyPost_ret (v := .tuple #[.agg #[.int .u16 0, .slice none 0 0], .int .i64 E]) ?_ rfl ⟨HBel.out, rfl⟩
  simp [results, Tryz.results24, go_sem, d0, d1]

theorem refRaw4_any (x : InstT) (b : Int) (ax : Option Addr) (n cx : Nat) (w : World) (hv : ArgsV w ax x.2.2.2) (hok : InstOk x) (hl : x.2.2.2.length = n) (b0 : 0 ≤ b) (b1 : b < 4294967296) :
    Calls Tryz.prog 24 #[instV x ax n cx, .int .u32 b] w fun e w' => Below w.heap.size w w' ∧ ∃ a m c, e = .returned (.tuple #[.agg #[.int .u16 (rawO x b), .slice a m c], .int .i64 (rawE x b)]) ∧ (rawWs x b).length = m ∧
      w'.ownsRow w.heap.size 22 1 (.slice a m c) m ((rawWs x b).map (Value.int .u32)) := by
  by_cases hE : rawE x b = 0
  · obtain ⟨h1, h2, h3⟩ := rawWs_ok hE
    have hf := faultI_zero h2
    obtain ⟨xo, xt, xr, xl⟩ := x
    simp only at h1 h2 h3 hf hv hl
    have e1 : rawO (xo, xt, xr, xl) b = xo := by unfold rawO; rw [if_pos hE]
    rw [e1, h3, hE]
    have hlk : lookF refT xo = ((lookF refT xo).1, true) := by rw [← h1]
    have hnul : ∀ k, k < n → (nthA xl k).1 = 3 → NoNul (nthA xl k).2.2 := fun k hk h3 => by
      have := wrongL_zero hf.2.2.1 k (by omega)
      unfold wrongA at this
      split at this
      · omega
      · try rw [if_pos h3] at this
        rw [← nulS_false]
        cases e : nulS (nthA xl k).2.2 with
        | false => rfl
        | true => rw [e] at this; simp at this
    have hln : (rawL (lookF refT xo).1 (xo, xt, xr, xl)).length ≤ 65535 := by omega
    clear h1 h2 h3 hf e1
    generalize (lookF refT xo).1 = f at *
    obtain ⟨nm, t, r, fx, rs, mo, pa⟩ := f
    cases t <;> cases r
    · exact refRaw4_ff xo xt xr xl b ax n cx w hv hok hl b0 b1 nm fx rs mo pa hlk hE hln hnul
    · exact refRaw4_ft xo xt xr xl b ax n cx w hv hok hl b0 b1 nm fx rs mo pa hlk hE hln hnul
    · exact refRaw4_tf xo xt xr xl b ax n cx w hv hok hl b0 b1 nm fx rs mo pa hlk hE hln hnul
    · exact refRaw4_tt xo xt xr xl b ax n cx w hv hok hl b0 b1 nm fx rs mo pa hlk hE hln hnul
  · have e1 : rawO x b = 0 := by unfold rawO; rw [if_neg hE]
    have e2 : rawWs x b = [] := by unfold rawWs; rw [if_neg hE]
    rw [e1, e2]
    refine (refRaw4_err x b ax n cx w hv hok hl b0 b1 hE).mono ?_
    rintro e w' ⟨hb, rfl⟩
    exact ⟨hb, none, 0, 0, rfl, rfl, World.ownsRow_nil _ _ _ _⟩

end Go.Proofs.YtonhnflilfjkbaaGreatDoor

/-
  Line of the package print: an instruction's line, or what it lacks.
-/
namespace Go.Proofs.YtonhnflilfjkbaaGreatDoor
open Go.RowKit
set_option maxRecDepth 10000
set_option linter.unusedVariables false
set_option linter.unusedSimpArgs false

/-- An instruction's line. -/
def linP (x : InstT) (b : Int) : ByteArray := if rawE x b = 0 then strOfNums (prI x) else ⟨#[]⟩

set_option maxHeartbeats 2000000 in
theorem printLine_any (x : InstT) (b : Int) (ax : Option Addr) (n cx : Nat) (w : World) (hv : ArgsV w ax x.2.2.2) (hok : InstOk x) (hl : x.2.2.2.length = n) (ht : Pow10 w) :
    Calls Tryz.prog 13 #[instV x ax n cx, .int .u32 b] w fun e w' => e = .returned (.tuple #[.string (linP x b), .int .i64 (rawE x b)]) ∧ Below w.heap.size w w' := by
  have hR := fun W (hb : Below w.heap.size w W) => raw_any x b ax n cx W (hv.below hb) hok hl
  have HB0 := hide ((Below.refl w.heap.size w).alloc (Nat.le_refl _) (.cells #[.int .u16 x.1, .int .u32 x.2.1, .int .u32 x.2.2.1, .slice ax n cx] 38))
  have HM := hide (heap_alloc_new w (.cells #[.int .u16 x.1, .int .u32 x.2.1, .int .u32 x.2.2.1, .slice ax n cx] 38))
  by_cases hz : rawE x b = 0
  · have hT := fun W (hb : Below w.heap.size w W) => printTokens_any x ax n cx W (hv.below hb) hl (by have := (inst_few hok hz).1; omega) hok (inst_few hok hz).2.2.2 (ht.below hb)
    have hW := fun W a m c (h : ToksV W a (tksI x)) (hm : (tksI x).length = m) => write_any a m c (tksI x) W h hm (tksI_in hok hz) (by have := (inst_few hok hz).2.2.1; omega)
    have eW : wErr (tksI x) = 0 := if_pos (tksI_ok hok hz)
    rw [inst_out hok hz, eW] at hW
    have ez : linP x b = strOfNums (prI x) := if_pos hz
    rw [ez, hz]
    rw [hz] at hR
    unfold instV at hR ⊢
    generalize strOfNums (prI x) = S at *
    generalize rawO x b = o at *
    generalize tksI x = T at *
    generalize rawWs x b = R at *
    clear hv hok hl ht hz eW ez
    generalize x.1 = x1 at *
    generalize x.2.1 = x2 at *
    generalize x.2.2.1 = x3 at *
    go_enter Tryz.func13, Tryz.ntmps13
    go_wp2_with fail
    generalize w.alloc (.cells #[.int .u16 x1, .int .u32 x2, .int .u32 x3, .slice ax n cx] 38) = W0 at *
    refine (hR _ HB0.out).mono ?_
    rintro e w1 ⟨hb1, a, m, c, rfl, hm, hown⟩
    clear hown hm
    have lm := (Array.getElem?_eq_some_iff.1 HM.out).1
    have hb2 : Below W0.heap.size W0 (w1.alloc (.cells #[.int .u16 o, .slice a m c] 54)) := hb1.alloc hb1.size _
    have kM2 := (hb2.block _ lm).trans HM.out
    obtain ⟨hcM, _⟩ := one_block kM2
    have m0 := hcM 0
    have m1 := hcM 1
    have m2 := hcM 2
    have m3 := hcM 3
    have HB2 := hide (HB0.out.trans (hb2.mono HB0.out.size))
    clear hb1 hb2 kM2 hcM hR lm
    go_wp2_with fail
    refine (hT _ HB2.out).mono ?_
    rintro e w3 ⟨a3, m3', c3, rfl, hv3, hm3, hb3⟩
    have HB3 := hide (HB2.out.trans (hb3.mono HB2.out.size))
    have hW' := hW w3 a3 m3' c3 hv3 hm3
    clear hb3 hW hv3 hm3 m0 m1 m2 m3 hT
    go_wp2_with fail
    refine hW'.mono ?_
    rintro e w4 ⟨rfl, hb4⟩
    have HB4 := hide (HB3.out.trans (hb4.mono HB3.out.size))
    clear hb4 hW'
    go_wp2_with fail
    refine bodyPost_ret (v := .tuple #[.string S, .int .i64 0]) ?_ rfl ⟨rfl, HB4.out⟩
    simp [results, Tryz.results13, go_sem]
  · have ez : linP x b = ⟨#[]⟩ := if_neg hz
    have heb : (rawE x b == 0) = false := by simpa using hz
    rw [ez]
    unfold instV at hR ⊢
    generalize rawE x b = E at *
    generalize rawO x b = o at *
    generalize rawWs x b = R at *
    clear hv hok hl ht hz ez
    generalize x.1 = x1 at *
    generalize x.2.1 = x2 at *
    generalize x.2.2.1 = x3 at *
    go_enter Tryz.func13, Tryz.ntmps13
    go_wp2_with fail
    generalize w.alloc (.cells #[.int .u16 x1, .int .u32 x2, .int .u32 x3, .slice ax n cx] 38) = W0 at *
    refine (hR _ HB0.out).mono ?_
    rintro e w1 ⟨hb1, a, m, c, rfl, hm, hown⟩
    clear hown hm
    have hb2 : Below W0.heap.size W0 (w1.alloc (.cells #[.int .u16 o, .slice a m c] 54)) := hb1.alloc hb1.size _
    have HB2 := hide (HB0.out.trans (hb2.mono HB0.out.size))
    clear hb1 hb2 hR HM HB0
    go_wp2_with fail
    refine bodyPost_ret (v := .tuple #[.string ⟨#[]⟩, .int .i64 E]) ?_ rfl ⟨rfl, HB2.out⟩
    simp [results, Tryz.results13, go_sem]

end Go.Proofs.YtonhnflilfjkbaaGreatDoor

/-
  The document's Line: an instruction's line, or what it lacks.
-/
namespace Go.Proofs.YtonhnflilfjkbaaGreatDoor
open Go.RowKit
set_option maxRecDepth 10000
set_option linter.unusedVariables false
set_option linter.unusedSimpArgs false

theorem tks_small {x : InstT} {b : Int} (hx : InstOk x) (hr : rawE x b = 0) (k : Nat) (hk : k < (tksI x).length) : (nthT (tksI x) k).2.1.size ≤ 1048576 := by
  have := tksI_size hx hr (nthT (tksI x) k) (by simp [nthT, List.getD, hk])
  omega

set_option maxHeartbeats 2000000 in
theorem refLine8_any (x : InstT) (b : Int) (ax : Option Addr) (n cx : Nat) (w : World) (hv : ArgsV w ax x.2.2.2) (hok : InstOk x) (hl : x.2.2.2.length = n) (b0 : 0 ≤ b) (b1 : b < 4294967296) (ht : Pow10 w) :
    Calls Tryz.prog 11 #[instV x ax n cx, .int .u32 b] w fun e w' => e = .returned (.tuple #[.string (linP x b), .int .i64 (rawE x b)]) ∧ Below w.heap.size w w' := by
  have hR := fun W (hb : Below w.heap.size w W) => refRaw4_any x b ax n cx W (hv.below hb) hok hl b0 b1
  have HB0 := hide ((Below.refl w.heap.size w).alloc (Nat.le_refl _) (.cells #[.int .u16 x.1, .int .u32 x.2.1, .int .u32 x.2.2.1, .slice ax n cx] 38))
  have HM := hide (heap_alloc_new w (.cells #[.int .u16 x.1, .int .u32 x.2.1, .int .u32 x.2.2.1, .slice ax n cx] 38))
  by_cases hz : rawE x b = 0
  · have hT := fun W (hb : Below w.heap.size w W) => refTokens8_any x ax n cx W (hv.below hb) hl (by have := (inst_few hok hz).1; omega) hok (inst_few hok hz).2.2.2 (ht.below hb)
    have hW := fun W a m c (h : ToksV W a (tksI x)) (hm : (tksI x).length = m) => ref6WriteB_any a m c (tksI x) W h hm (tksI_in hok hz) (by have := (inst_few hok hz).2.2.1; omega) (fun k hk => tks_small hok hz k (by rw [hm]; exact hk))
    have eW : wErr (tksI x) = 0 := if_pos (tksI_ok hok hz)
    rw [inst_out hok hz, eW] at hW
    have ez : linP x b = strOfNums (prI x) := if_pos hz
    rw [ez, hz]
    rw [hz] at hR
    unfold instV at hR hT ⊢
    generalize strOfNums (prI x) = S at *
    generalize rawO x b = o at *
    generalize tksI x = T at *
    generalize rawWs x b = R at *
    clear hv hok hl ht hz eW ez
    generalize x.1 = x1 at *
    generalize x.2.1 = x2 at *
    generalize x.2.2.1 = x3 at *
    go_enter Tryz.func11, Tryz.ntmps11
    go_wp2_with fail
    generalize w.alloc (.cells #[.int .u16 x1, .int .u32 x2, .int .u32 x3, .slice ax n cx] 38) = W0 at *
    refine (hR _ HB0.out).mono ?_
    rintro e w1 ⟨hb1, a, m, c, rfl, hm, hown⟩
    clear hown hm
    have lm := (Array.getElem?_eq_some_iff.1 HM.out).1
    have hb2 : Below W0.heap.size W0 (w1.alloc (.cells #[.int .u16 o, .slice a m c] 54)) := hb1.alloc hb1.size _
    have kM2 := (hb2.block _ lm).trans HM.out
    obtain ⟨hcM, _⟩ := one_block kM2
    have m0 := hcM 0
    have m1 := hcM 1
    have m2 := hcM 2
    have m3 := hcM 3
    have HB2 := hide (HB0.out.trans (hb2.mono HB0.out.size))
    clear hb1 hb2 kM2 hcM hR lm
    go_wp2_with fail
    refine (hT _ HB2.out).mono ?_
    rintro e w3 ⟨a3, m3', c3, rfl, hv3, hm3, hb3⟩
    have HB3 := hide (HB2.out.trans (hb3.mono HB2.out.size))
    have hW' := hW w3 a3 m3' c3 hv3 hm3
    clear hb3 hW hv3 hm3 m0 m1 m2 m3 hT
    go_wp2_with fail
    refine hW'.mono ?_
    rintro e w4 ⟨rfl, hb4⟩
    have HB4 := hide (HB3.out.trans (hb4.mono HB3.out.size))
    clear hb4 hW'
    go_wp2_with fail
    refine bodyPost_ret (v := .tuple #[.string S, .int .i64 0]) ?_ rfl ⟨rfl, HB4.out⟩
    simp [results, Tryz.results11, go_sem]
  · have ez : linP x b = ⟨#[]⟩ := if_neg hz
    have heb : (rawE x b == 0) = false := by simpa using hz
    rw [ez]
    unfold instV at hR ⊢
    generalize rawE x b = E at *
    generalize rawO x b = o at *
    generalize rawWs x b = R at *
    clear hv hok hl ht hz ez
    generalize x.1 = x1 at *
    generalize x.2.1 = x2 at *
    generalize x.2.2.1 = x3 at *
    go_enter Tryz.func11, Tryz.ntmps11
    go_wp2_with fail
    generalize w.alloc (.cells #[.int .u16 x1, .int .u32 x2, .int .u32 x3, .slice ax n cx] 38) = W0 at *
    refine (hR _ HB0.out).mono ?_
    rintro e w1 ⟨hb1, a, m, c, rfl, hm, hown⟩
    clear hown hm
    have hb2 : Below W0.heap.size W0 (w1.alloc (.cells #[.int .u16 o, .slice a m c] 54)) := hb1.alloc hb1.size _
    have HB2 := hide (HB0.out.trans (hb2.mono HB0.out.size))
    clear hb1 hb2 hR HM HB0
    go_wp2_with fail
    refine bodyPost_ret (v := .tuple #[.string ⟨#[]⟩, .int .i64 E]) ?_ rfl ⟨rfl, HB2.out⟩
    simp [results, Tryz.results11, go_sem]

end Go.Proofs.YtonhnflilfjkbaaGreatDoor

/-
  What an argument that is an instruction, or a slice of instructions, holds: all within their bounds, each list within the reach of memory.
-/
namespace Go.Proofs.YtonhnflilfjkbaaGreatDoor
open Go.ChangeShapes Go.WideShapes Go.ChangeAt Go.RowKit
set_option maxRecDepth 100000

theorem ArgInsts.cellsA : Tryz.prog.cellsOf 61 = 3 := by kernel_rfl
theorem ArgInsts.cells8 : Tryz.prog.cellsOf 5 = 1 := by kernel_rfl
theorem ArgInsts.cells32 : Tryz.prog.cellsOf 22 = 1 := by kernel_rfl
theorem ArgInsts.cellsS : Tryz.prog.cellsOf 9 = 1 := by kernel_rfl
theorem ArgInsts.bytesA : Tryz.prog.bytesOf 61 = 24 := by kernel_rfl
theorem weightsIn {H : Type} {P : Program} {e : TypeId} : ∀ {l : List (DataW H)} {d : DataW H}, d ∈ l → ∀ n ∈ d.weights P e, n ∈ DataW.weightsAll P e l
  | d0 :: l, d, hd, n, hn => by
    simp only [DataW.weightsAll, List.mem_append]
    rcases List.mem_cons.1 hd with rfl | h
    · exact Or.inl hn
    · exact Or.inr (weightsIn h n hn)

theorem argsV_mk {w : World} {x : Addr} {n : Nat} {f : Nat → ArgT} (h : ∀ i, i < n → w.cell? (x.add (i * 3)) = some (.int .u8 (f i).1) ∧ w.cell? (x.add (i * 3 + 1)) = some (.int .u32 (f i).2.1) ∧ w.cell? (x.add (i * 3 + 2)) = some (.string (f i).2.2)) : ArgsV w (some x) ((List.range n).map f) := by
  intro j hj
  rw [List.length_map, List.length_range] at hj
  have h0 := (h 0 (by omega)).1
  obtain ⟨b, off, spot⟩ := x
  have hs : spot = none := by simpa [Addr.add] using World.cell?_spot h0
  subst hs
  obtain ⟨h1, h2, h3⟩ := h j hj
  rw [Addr.add_lit] at h1 h2 h3
  have e : nthA ((List.range n).map f) j = f j := by simp [nthA, List.getD, hj]
  rw [e]
  exact ⟨b, off, rfl, World.block_lt_of_cell? _ _ h1, h1, by rw [Nat.add_assoc]; exact h2, by rw [Nat.add_assoc]; exact h3⟩

set_option maxHeartbeats 1000000 in
theorem open_args {H : Type} {enc : TypeId × Value → H} {w : World} {base fuel : Nat} {held : Bool} {a : Option Addr} {len cap : Nat} {d : DataW H} {ps : List MemPlace}
    (hf : DataW.trod enc Tryz.prog w base (fun _ => true) held fuel 36 [.slice a len cap] = some (d, ps)) (hs : ∀ n ∈ d.weights Tryz.prog 36, n ≤ reachBytes) :
    ∃ l : List ArgT, l.length = len ∧ ArgsV w a l ∧ ArgsOk l ∧ 24 * len ≤ 140737488351232 ∧ len ≤ cap := by
  rcases Go.Deep.open_slice Tryz.underlying36 hf with ⟨hcs, _⟩ | ⟨x, l, c, mm, nn, D, Pl, hcs, _, hl, hm, hmm, hx, hall⟩
  · simp at hcs
    obtain ⟨rfl, rfl, rfl⟩ := hcs
    exact ⟨[], rfl, argsV_nil, argsOk_nil, by omega, by omega⟩
  · simp at hcs
    obtain ⟨rfl, rfl, rfl⟩ := hcs
    simp only [Prod.mk.injEq] at hx
    obtain ⟨rfl, rfl⟩ := hx
    simp only [if_true] at hmm
    subst hmm
    have hs0 := hs ((((List.range len).map D).length + ((List.range (mm - len)).map fun j => D (len + j)).length) * Tryz.prog.bytesOf 61) (by simp [DataW.weights, Tryz.underlying36])
    rw [ArgInsts.bytesA] at hs0
    simp only [List.length_map, List.length_range, reachBytes] at hs0
    have key : ∀ i, i < len → ∃ r : ArgT, w.cell? (x.add (i * 3)) = some (.int .u8 r.1) ∧ w.cell? (x.add (i * 3 + 1)) = some (.int .u32 r.2.1) ∧ w.cell? (x.add (i * 3 + 2)) = some (.string r.2.2) ∧ ArgOk r := by
      intro i hi
      obtain ⟨cs, hc, ht⟩ := hall i (by omega)
      rw [ArgInsts.cellsA] at hc
      obtain ⟨_, hlen, hcell⟩ := World.cells?_some hc
      obtain ⟨xs, k, _, hxy, _, hxl, hfl⟩ := DataW.trod_struct Tryz.underlying61 ht
      have g0 := hfl 0 _ rfl
      have g1 := hfl 1 _ rfl
      have g2 := hfl 2 _ rfl
      match xs, hxl, cs, hlen with
      | [y0, y1, y2], _, [v0, v1, v2], _ =>
        have e0 := hcell 0 (by omega)
        have e1 := hcell 1 (by omega)
        have e2 := hcell 2 (by omega)
        rw [Go.Deep.add_add] at e0 e1 e2
        simp [ArgInsts.cells8, ArgInsts.cells32, ArgInsts.cellsS] at g0 g1 g2 e0 e1 e2
        obtain ⟨n0, q0, _, w0⟩ := DataW.trod_int Tryz.underlying5 g0
        obtain ⟨n1, q1, _, w1⟩ := DataW.trod_int Tryz.underlying22 g1
        obtain ⟨s2, q2, q3⟩ := DataW.trod_string Tryz.underlying9 g2
        simp at q0 q1 q2
        subst q0; subst q1; subst q2
        have b0 := bounds_u8 w0
        have b1 := bounds_u32 w1
        refine ⟨(n0, n1, s2), by simpa using e0, e1, e2, ?_⟩
        have hs2 := hs s2.size (by
          have hmem : D i ∈ (List.range len).map D := List.mem_map.2 ⟨i, List.mem_range.2 hi, rfl⟩
          simp only [DataW.weights, Tryz.underlying36, List.mem_cons, List.mem_append]
          refine Or.inr (Or.inl (weightsIn hmem _ ?_))
          simp only [Prod.mk.injEq] at hxy
          rw [hxy.1]
          simp only [DataW.weights, Tryz.underlying61]
          refine DataW.weights_mem_each (j := 2) rfl rfl _ ?_
          simp_all [DataW.weights])
        simp only [reachBytes] at hs2
        exact ⟨by simp; omega, by simp; omega, by simp; omega, by simp; omega, hs2⟩
    let f : Nat → ArgT := fun i => if h : i < len then Classical.choose (key i h) else noArg
    have hf' : ∀ i (h : i < len), f i = Classical.choose (key i h) := fun i h => dif_pos h
    refine ⟨(List.range len).map f, by simp, argsV_mk (fun i hi => ?_), fun j hj => ?_, by omega, hl⟩
    · rw [hf' i hi]
      obtain ⟨h1, h2, h3, _⟩ := Classical.choose_spec (key i hi)
      exact ⟨h1, h2, h3⟩
    · rw [List.length_map, List.length_range] at hj
      have e : nthA ((List.range len).map f) j = f j := by simp [nthA, List.getD, hj]
      rw [e, hf' j hj]
      exact (Classical.choose_spec (key j hj)).2.2.2

theorem open_inst {H : Type} {enc : TypeId × Value → H} {w : World} {b0 base : Nat} {held : Bool} {v : Value} {d : DataW H} {ps : List MemPlace}
    (hv : Value.okWide Tryz.prog w .any b0 38 v) (h : DataW.Trod enc Tryz.prog w base (fun _ => true) held 38 v d ps) (hs : ∀ n ∈ d.weights Tryz.prog 38, n ≤ reachBytes) :
    ∃ (x : InstT) (a : Option Addr) (n c : Nat), v = instV x a n c ∧ x.2.2.2.length = n ∧ InstOk x ∧ ArgsV w a x.2.2.2 ∧ n ≤ c := by
  obtain ⟨v0, v1, v2, v3, y0, y1, y2, y3, m, rfl, rfl, _, t0, t1, t2, t3⟩ := Go.Joins.open_agg4 Tryz.underlying38 (by kernel_rfl) (by kernel_rfl) hv h
  obtain ⟨n0, e0, _, w0⟩ := DataW.trod_int Tryz.underlying35 t0
  obtain ⟨n1, e1, _, w1⟩ := DataW.trod_int Tryz.underlying22 t1
  obtain ⟨n2, e2, _, w2⟩ := DataW.trod_int Tryz.underlying22 t2
  simp at e0 e1 e2
  subst e0; subst e1; subst e2
  have b0 := bounds_u16 w0
  have b1 := bounds_u32 w1
  have b2 := bounds_u32 w2
  obtain ⟨a, n, c, rfl⟩ : ∃ a n c, v3 = .slice a n c := by
    rcases Go.Deep.open_slice Tryz.underlying36 t3 with ⟨hcs, _⟩ | ⟨x, l, c, mm, nn, D, Pl, hcs, _⟩
    · simp at hcs; exact ⟨_, _, _, hcs⟩
    · simp at hcs; exact ⟨_, _, _, hcs⟩
  obtain ⟨l, hl, hv3, hok, hr, hc⟩ := open_args t3 (fun k hk => hs k (by
    simp only [DataW.weights, Tryz.underlying38]
    exact DataW.weights_mem_each (j := 3) rfl rfl _ hk))
  exact ⟨(n0, n1, n2, l), a, n, c, rfl, hl, ⟨by simp; omega, by simp; omega, by simp; omega, by simp; omega, by simp; omega, by simp; omega, hok, by rw [hl]; exact hr⟩, hv3, hc⟩

end Go.Proofs.YtonhnflilfjkbaaGreatDoor

/-
  The law's own: writes over the arguments of each instruction, one by one, and behind them; each instruction is as it was when its turn comes.
-/
namespace Go.Proofs.YtonhnflilfjkbaaGreatDoor
open Go.RowKit
set_option linter.unusedVariables false
set_option linter.unusedSimpArgs false
set_option maxRecDepth 10000

theorem ArgI4.info : (Tryz.prog.info? 61).map (fun i => (i.zero, i.size, i.bytes)) = some (some (.agg #[.int .u8 0, .int .u32 0, .string ⟨#[]⟩]), 3, 24) := by kernel_rfl
end Go.Proofs.YtonhnflilfjkbaaGreatDoor

/-
  The law PrintLines: every Line as the document's.
-/
namespace Go.Proofs.YtonhnflilfjkbaaGreatDoor
open Go.RowKit
set_option linter.unusedVariables false
set_option linter.unusedSimpArgs false
set_option maxRecDepth 10000

set_option maxHeartbeats 8000000 in
theorem printLines_true (w : World) (x : InstT) (ax : Option Addr) (n cx : Nat) (hl : x.2.2.2.length = n) (hv : ArgsV w ax x.2.2.2) (hok : InstOk x) (hc : n ≤ cx) (b : Int) (hb : (Lit.int .u32 b).wf = true) (ht : Pow10 w) :
    Calls Tryz.prog 4 #[instV x ax n cx, .int .u32 b] w fun e w' => e = .returned (.bool true) ∧ Below w.heap.size w w' := by
  have hbb := Go.bounds_u32 hb
  have hn : 24 * n ≤ 140737488351232 := by rw [← hl]; exact hok.2.2.2.2.2.2.2
  have HRF := hide fun wx (h : Below w.heap.size w wx) => refLine8_any x b ax n cx wx (hv.below h) hok hl (by omega) (by omega) (ht.below h)
  have HCP := hide fun wx (h : Below w.heap.size w wx) => copyInst_any x ax n cx wx (hv.below h) hl hn
  have HPL := hide fun wx g (h : ArgsV wx (some ⟨g, 0, none⟩) x.2.2.2) (h2 : Below w.heap.size w wx) => printLine_any x b (some ⟨g, 0, none⟩) n n wx h hok hl (ht.below h2)
  have hin := fun wx g (h : ArgsV wx (some ⟨g, 0, none⟩) x.2.2.2) (h2 : Below w.heap.size w wx) => kitInst_any x x (some ⟨g, 0, none⟩) ax n n n cx wx h (hv.below h2) hl hl (by omega) (by omega)
  rw [show decide (x = x) = true by simp] at hin
  have HIN := hide hin
  have HAW := hide fun wx (h : Below w.heap.size w wx) => awake8_true wx (ht.below h)
  have HAV : Hid (∀ wx wy g, ArgsV wx (some ⟨g, 0, none⟩) x.2.2.2 → Below wx.heap.size wx wy → ArgsV wy (some ⟨g, 0, none⟩) x.2.2.2) := fun wx wy g h h2 => h.below h2
  generalize linP x b = S at *
  generalize rawE x b = E at *
  clear hl hv hok hc hb ht hbb hn hin
  obtain ⟨xo, xt, xr, xl⟩ := x
  unfold instV at *
  simp only at *
  have hba : Below w.heap.size w (w.alloc (.cells #[.int .u16 xo, .int .u32 xt, .int .u32 xr, .slice ax n cx] 38)) := (Below.refl _ w).alloc (Nat.le_refl _) _
  have k0 := heap_alloc_new w (.cells #[.int .u16 xo, .int .u32 xt, .int .u32 xr, .slice ax n cx] 38)
  have HB0 := hide hba
  have K0 := hide k0
  have hrf := HRF.out _ hba
  have i0 := (one_block k0).1 0
  have i1 := (one_block k0).1 1
  have i2 := (one_block k0).1 2
  have i3 := (one_block k0).1 3
  clear hba k0 HRF
  go_enter Tryz.func4, Tryz.ntmps4
  go_wp2_with fail
  generalize w.alloc (.cells #[.int .u16 xo, .int .u32 xt, .int .u32 xr, .slice ax n cx] 38) = W0 at *
  refine hrf.mono ?_
  rintro e w1 ⟨rfl, hb1⟩
  have HB1 := hide (HB0.out.trans (hb1.mono HB0.out.size))
  have K1 := hide ((hb1.block _ (Array.getElem?_eq_some_iff.1 K0.out).1).trans K0.out)
  have hcp := HCP.out w1 HB1.out
  clear i0 i1 i2 i3 hrf hb1 K0 HCP
  have i0 := (one_block K1.out).1 0
  have i1 := (one_block K1.out).1 1
  have i2 := (one_block K1.out).1 2
  have i3 := (one_block K1.out).1 3
  go_wp2_with fail
  refine hcp.mono ?_
  rintro e w2 ⟨g, rfl, hg, hv2, hb2⟩
  have hba : Below w2.heap.size w2 (w2.alloc (.cells #[.int .u16 xo, .int .u32 xt, .int .u32 xr, .slice (some ⟨g, 0, none⟩) n n] 38)) := (Below.refl _ w2).alloc (Nat.le_refl _) _
  have hb12 := hb2.trans (hba.mono hb2.size)
  have HB2 := hide (HB1.out.trans (hb12.mono HB1.out.size))
  have K2 := hide ((hb12.block _ (Array.getElem?_eq_some_iff.1 K1.out).1).trans K1.out)
  have k7 := heap_alloc_new w2 (.cells #[.int .u16 xo, .int .u32 xt, .int .u32 xr, .slice (some ⟨g, 0, none⟩) n n] 38)
  have K7 := hide k7
  have HV2 := hide (hv2.below hba)
  have hpl := HPL.out _ g (hv2.below hba) HB2.out
  clear i0 i1 i2 i3 hcp hb2 hba hb12 hv2 hg K1 HPL
  have i0 := (one_block k7).1 0
  have i1 := (one_block k7).1 1
  have i2 := (one_block k7).1 2
  have i3 := (one_block k7).1 3
  clear k7
  go_wp2_with fail
  generalize w2.alloc _ = W2 at *
  generalize w2.heap.size = A2 at *
  refine hpl.mono ?_
  rintro e w3 ⟨rfl, hb3⟩
  have HB3 := hide (HB2.out.trans (hb3.mono HB2.out.size))
  have hi := HIN.out w3 g (HV2.out.below hb3) HB3.out
  have k3 := (hb3.block _ (Array.getElem?_eq_some_iff.1 K2.out).1).trans K2.out
  have k8 := (hb3.block _ (Array.getElem?_eq_some_iff.1 K7.out).1).trans K7.out
  clear i0 i1 i2 i3 hpl hb3 HIN
  have i0 := (one_block k3).1 0
  have i1 := (one_block k3).1 1
  have i2 := (one_block k3).1 2
  have i3 := (one_block k3).1 3
  have j0 := (one_block k8).1 0
  have j1 := (one_block k8).1 1
  have j2 := (one_block k8).1 2
  have j3 := (one_block k8).1 3
  clear k3 k8
  go_wp2_with fail
  refine hi.mono ?_
  rintro e w4 ⟨rfl, hb4⟩
  have HB4 := hide (HB3.out.trans (hb4.mono HB3.out.size))
  have ha := HAW.out w4 HB4.out
  clear i0 i1 i2 i3 j0 j1 j2 j3 hi hb4 HAW
  go_wp2_with fail
  refine ha.mono ?_
  rintro e w5 ⟨rfl, hb5⟩
  have HB5 := hide (HB4.out.trans (hb5.mono HB4.out.size))
  clear ha hb5
  go_wp2_with fail
  go_ret
  exact ⟨rfl, HB5.out⟩

end Go.Proofs.YtonhnflilfjkbaaGreatDoor

/-
  The law PrintLines holds where the three listed tables hold what the program lays in them: called with any arguments it returns true, and each argument reads behind the call as it read before.
-/
namespace Go.Proofs.YtonhnflilfjkbaaGreatDoor.printLines
open Go.ChangeShapes Go.WideShapes Go.ChangeAt Go.RowKit
open Go.ChangeMaps (open_string shut_string)
set_option linter.unusedVariables false

theorem own : ownKnob Tryz.prog.godebug = none := by kernel_rfl
theorem laidOut : laidOutB Tryz.prog = true := by kernel_rfl

theorem gPow : Tryz.prog.globalNamed "internal/strconv.uint64pow10" = some 0 := by kernel_rfl
theorem tPow : (Tryz.prog.globals[0]?).map (·.type) = some 225 := by kernel_rfl
theorem cPow : Tryz.prog.cellsOf 225 = 20 := by kernel_rfl
theorem cElem : Tryz.prog.cellsOf 120 = 1 := by kernel_rfl
abbrev laid3 : List (String × DataW Unit) := [("math/bits.deBruijn32tab", Rows.laid_math_bits_deBruijn32tab), ("math/bits.deBruijn64tab", Rows.laid_math_bits_deBruijn64tab), ("internal/strconv.uint64pow10", Rows.laid_internal_strconv_uint64pow10)]
/-- The heap that the start-up leaves meets the condition. -/
theorem door_met (os : Os) (args : Array Value) : laidMetH Tryz.prog laid3 ((World.doorLaid Tryz.prog 400 os).forCall (fun _ _ => 0) ⟨#[], args, []⟩).memory :=
  laidMetH_of_parts3 (fuel := 8) (laidMet_of_run' 8 (by kernel_rfl) (by kernel_rfl)) (by kernel_rfl) (by kernel_rfl)
/-- What the condition gives: the table of powers of ten. -/
theorem of_laid {W : World} (h : laidMetH Tryz.prog laid3 W) : Pow10 W := by
  rw [MakeChecks.laidMetH_plain _ _ _ (by kernel_rfl)] at h
  have h3 := (laidMet.tail (laidMet.tail h))
  exact Lib.tabIs_of_head (k := .u64) (zs := Lib.pow10Tab) gPow tPow Tryz.underlying225 Tryz.underlying120 cElem cPow h3

set_option maxRecDepth 100000 in
theorem lifted (os : Os) (started : os.Started) (H : Type) (enc : TypeId × Value → H) :
    ReturnsInHanded {} Tryz.checked os 4 .any (fun w args => (Rows.printLinesSpec.pre enc Tryz.prog Tryz.f4 [] false w args ∧ laidMetH Tryz.prog laid3 w) ∧ sizedMet enc Tryz.prog Tryz.f4 (OpenSpec.ofChange Rows.printLinesSpec) false w args) (Rows.printLinesSpec.post enc Tryz.prog Tryz.f4 false true false false) := by
  refine returnsInHanded_of_change_and (C := Tryz.checked) (X := fun w _ => laidMetH Tryz.prog laid3 w) (fun _ _ _ hh h => h.of_heap hh) own started (by kernel_rfl) Tryz.func4
    (ChangeSpec.witness_shaped (enc := enc) (C := Tryz.checked) (os := os) (X := fun w _ => laidMetH Tryz.prog laid3 w) false (World.doorLaid Tryz.prog 400 os) #[.agg #[.int .u16 0, .int .u32 0, .int .u32 0, .slice none 0 0], .int .u32 0] 8 rfl (World.shaped_of_RefB (by kernel_rfl) (by kernel_rfl)) (by kernel_rfl) (by kernel_rfl) (by kernel_rfl) (door_met os _)) ?_
  intro W base args ds gs before hval0 hW _ hsz0 hL _
  have hsz : (DataW.weightsEach Tryz.prog (Tryz.f4.params.toList ++ Rows.printLinesSpec.plain.varTypes Tryz.prog) (ds ++ gs)).all (· ≤ reachBytes) = true := hsz0
  clear hsz0
  have hval : ∀ (j : Nat) t v, Tryz.f4.params[j]? = some t → args[j]? = some v → Value.okWide Tryz.prog W .any base t v := hval0
  have hW' := hW
  obtain ⟨p, q, hA0, hV, rfl, hfz, hnd⟩ := hW
  have hA : DataW.TrodAll enc Tryz.prog W 0 (fun _ => true) true Tryz.f4.params.toList args.toList ds p := hA0
  rw [Tryz.params4] at hA hval hsz
  obtain ⟨v0, vs0, d0, ds0, p0, q0, hargs, rfl, rfl, h0, r0⟩ := trodAll_cons hA
  obtain ⟨v1, vs1, d1, ds1, p1, q1, rfl, rfl, rfl, h1, r1⟩ := trodAll_cons r0
  obtain ⟨rfl, rfl, rfl⟩ := trodAll_nil r1
  obtain rfl : args = #[v0, v1] := by cases args; simp_all
  obtain ⟨rfl, rfl⟩ := trodVars_none hV
  have k0 := h0
  have lt0 : ∀ x ∈ p0, x.block < W.heap.size := by obtain ⟨m, hm⟩ := k0; exact DataW.trod_lt m _ _ _ hm
  obtain ⟨x0, a0, len0, cap0, rfl, hl0, hk0, hv0, hc0⟩ := open_inst (hval 0 38 v0 rfl rfl) h0 (fun n hn => by simpa using List.all_eq_true.1 hsz n (DataW.weights_mem_each (j := 0) rfl rfl n hn))
  obtain ⟨a1, rfl, rfl, rfl, w1⟩ := open_int Tryz.underlying22 (hval 1 22 v1 rfl rfl) h1
  clear hA0 hval0
  refine (printLines_true W x0 a0 len0 cap0 hl0 hv0 hk0 hc0 a1 w1 (of_laid hL)).mono fun e W' ⟨he, bel⟩ => ?_
  subst he
  exact ⟨_, rfl, _, _, _, [], _, [], hW', trodAll_mk1 (shut_bool Tryz.underlying4 _), (trodAll_cons_mk (Below.trod laidOut (by kernel_rfl) (of_decide_eq_true (by kernel_rfl)) k0 bel lt0) (trodAll_cons_mk (shut_int Tryz.underlying22 w1) trodAll_mk0)), rfl, bel.frame _, fun h => by cases h⟩

theorem over : Rows.printLinesRow.holds Tryz.pinned (OpenSpec.ofChange Rows.printLinesSpec) :=
  OpenClaim.holds_of_wide 4 Tryz.f4 rfl rfl rfl rfl rfl rfl rfl ⟨rfl, rfl, rfl, rfl, rfl⟩ rfl rfl rfl rfl rfl (by kernel_rfl) Tryz.func4 (by kernel_rfl)
    (of_decide_eq_true (by kernel_rfl)) (by unfold Func.isWrapper; first | (rw [if_pos (by decide +kernel)]; kernel_rfl) | (rw [if_neg (by decide +kernel)]; exact ⟨rfl, rfl⟩))
    (fun os started H enc _ => lifted os started H enc)

end Go.Proofs.YtonhnflilfjkbaaGreatDoor.printLines

namespace Go.Proofs.YtonhnflilfjkbaaGreatDoor
theorem printLines_holds : Rows.PrintLinesSaid := printLines.over
#print axioms printLines_holds
end Go.Proofs.YtonhnflilfjkbaaGreatDoor
