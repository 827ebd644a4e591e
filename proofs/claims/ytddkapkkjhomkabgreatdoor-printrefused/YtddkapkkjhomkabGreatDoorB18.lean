/-
  Texts laid together in one: ArgInsts, PrintLineF, LawPrintRefused, PrintRefusedProof.
-/
import Derived.ProofKit
import Derived.OpenShut
import Derived.SizedLaws
import Derived.Deep.Slices
import Derived.Deep.SlicePairs
import Derived.Lib.SmallJoins
import Derived.Test.YtddkapkkjhomkabGreatDoorProg
import Derived.Test.YtddkapkkjhomkabGreatDoorB01
import Derived.WalkSpells
import Derived.WalkMore
import Derived.BigRegion
import Derived.Test.YtddkapkkjhomkabGreatDoorB12
import Derived.Test.YtddkapkkjhomkabGreatDoorB13
import Derived.Test.YtddkapkkjhomkabGreatDoorB16
import Derived.Test.YtddkapkkjhomkabGreatDoorB08
import Derived.Test.YtddkapkkjhomkabGreatDoorB17
import Derived.Test.YtddkapkkjhomkabGreatDoorB15
import Derived.Test.YtddkapkkjhomkabGreatDoorRows
import Derived.LaidMore
import Derived.Stop.Joined
import Derived.Stop.LaidErr
import Derived.Lib.LaidTab
import Derived.ShutString
import Derived.ChangeOld
import Derived.Below
/-
  What an argument that is an instruction, or a slice of instructions, holds: all within their bounds, each list within the reach of memory.
-/
namespace Go.Proofs.YtddkapkkjhomkabGreatDoor
open Go.ChangeShapes Go.WideShapes Go.ChangeAt Go.RowKit
set_option maxRecDepth 100000

theorem ArgInsts.cellsA : Tryz.prog.cellsOf 87 = 3 := by kernel_rfl
theorem ArgInsts.cells8 : Tryz.prog.cellsOf 5 = 1 := by kernel_rfl
theorem ArgInsts.cells32 : Tryz.prog.cellsOf 22 = 1 := by kernel_rfl
theorem ArgInsts.cellsS : Tryz.prog.cellsOf 9 = 1 := by kernel_rfl
theorem ArgInsts.bytesA : Tryz.prog.bytesOf 87 = 24 := by kernel_rfl
theorem weightsIn {H : Type} {P : Program} {e : TypeId} : ∀ {l : List (DataW H)} {d : DataW H}, d ∈ l → ∀ n ∈ d.weights P e, n ∈ DataW.weightsAll P e l
  | d0 :: l, d, hd, n, hn => by
    simp only [DataW.weightsAll, List.mem_append]
    rcases List.mem_cons.1 hd with rfl | h
    · exact Or.inl hn
    · exact Or.inr (weightsIn h n hn)

theorem argsV_mk {w : World} {x : Addr} {n : Nat} {f : Nat → ArgT} (h : ∀ i, i < n → w.cell? (x.add (i * 3)) = some (.int .u8 (f i).1) ∧ w.cell? (x.add (i * 3 + 1)) = some (.int .u32 (f i).2.1) ∧ w.cell? (x.add (i * 3 + 2)) = some (.string (f i).2.2)) : ArgsV w (some x) ((List.range n).map f) := by
  intro j hj
  rw [List.length_map, List.length_range] at hj
  have h0 := (h 0 (by omega)).1
  obtain ⟨b, off, spot⟩ := x
  have hs : spot = none := by simpa [Addr.add] using World.cell?_spot h0
  subst hs
  obtain ⟨h1, h2, h3⟩ := h j hj
  rw [Addr.add_lit] at h1 h2 h3
  have e : nthA ((List.range n).map f) j = f j := by simp [nthA, List.getD, hj]
  rw [e]
  exact ⟨b, off, rfl, World.block_lt_of_cell? _ _ h1, h1, by rw [Nat.add_assoc]; exact h2, by rw [Nat.add_assoc]; exact h3⟩

set_option maxHeartbeats 1000000 in
theorem open_args {H : Type} {enc : TypeId × Value → H} {w : World} {base fuel : Nat} {held : Bool} {a : Option Addr} {len cap : Nat} {d : DataW H} {ps : List MemPlace}
    (hf : DataW.trod enc Tryz.prog w base (fun _ => true) held fuel 47 [.slice a len cap] = some (d, ps)) (hs : ∀ n ∈ d.weights Tryz.prog 47, n ≤ reachBytes) :
    ∃ l : List ArgT, l.length = len ∧ ArgsV w a l ∧ ArgsOk l ∧ 24 * len ≤ 140737488351232 ∧ len ≤ cap := by
  rcases Go.Deep.open_slice Tryz.underlying47 hf with ⟨hcs, _⟩ | ⟨x, l, c, mm, nn, D, Pl, hcs, _, hl, hm, hmm, hx, hall⟩
  · simp at hcs
    obtain ⟨rfl, rfl, rfl⟩ := hcs
    exact ⟨[], rfl, argsV_nil, argsOk_nil, by omega, by omega⟩
  · simp at hcs
    obtain ⟨rfl, rfl, rfl⟩ := hcs
    simp only [Prod.mk.injEq] at hx
    obtain ⟨rfl, rfl⟩ := hx
    simp only [if_true] at hmm
    subst hmm
    have hs0 := hs ((((List.range len).map D).length + ((List.range (mm - len)).map fun j => D (len + j)).length) * Tryz.prog.bytesOf 87) (by simp [DataW.weights, Tryz.underlying47])
    rw [ArgInsts.bytesA] at hs0
    simp only [List.length_map, List.length_range, reachBytes] at hs0
    have key : ∀ i, i < len → ∃ r : ArgT, w.cell? (x.add (i * 3)) = some (.int .u8 r.1) ∧ w.cell? (x.add (i * 3 + 1)) = some (.int .u32 r.2.1) ∧ w.cell? (x.add (i * 3 + 2)) = some (.string r.2.2) ∧ ArgOk r := by
      intro i hi
      obtain ⟨cs, hc, ht⟩ := hall i (by omega)
      rw [ArgInsts.cellsA] at hc
      obtain ⟨_, hlen, hcell⟩ := World.cells?_some hc
      obtain ⟨xs, k, _, hxy, _, hxl, hfl⟩ := DataW.trod_struct Tryz.underlying87 ht
      have g0 := hfl 0 _ rfl
      have g1 := hfl 1 _ rfl
      have g2 := hfl 2 _ rfl
      match xs, hxl, cs, hlen with
      | [y0, y1, y2], _, [v0, v1, v2], _ =>
        have e0 := hcell 0 (by omega)
        have e1 := hcell 1 (by omega)
        have e2 := hcell 2 (by omega)
        rw [Go.Deep.add_add] at e0 e1 e2
        simp [ArgInsts.cells8, ArgInsts.cells32, ArgInsts.cellsS] at g0 g1 g2 e0 e1 e2
        obtain ⟨n0, q0, _, w0⟩ := DataW.trod_int Tryz.underlying5 g0
        obtain ⟨n1, q1, _, w1⟩ := DataW.trod_int Tryz.underlying22 g1
        obtain ⟨s2, q2, q3⟩ := DataW.trod_string Tryz.underlying9 g2
        simp at q0 q1 q2
        subst q0; subst q1; subst q2
        have b0 := bounds_u8 w0
        have b1 := bounds_u32 w1
        refine ⟨(n0, n1, s2), by simpa using e0, e1, e2, ?_⟩
        have hs2 := hs s2.size (by
          have hmem : D i ∈ (List.range len).map D := List.mem_map.2 ⟨i, List.mem_range.2 hi, rfl⟩
          simp only [DataW.weights, Tryz.underlying47, List.mem_cons, List.mem_append]
          refine Or.inr (Or.inl (weightsIn hmem _ ?_))
          simp only [Prod.mk.injEq] at hxy
          rw [hxy.1]
          simp only [DataW.weights, Tryz.underlying87]
          refine DataW.weights_mem_each (j := 2) rfl rfl _ ?_
          simp_all [DataW.weights])
        simp only [reachBytes] at hs2
        exact ⟨by simp; omega, by simp; omega, by simp; omega, by simp; omega, hs2⟩
    let f : Nat → ArgT := fun i => if h : i < len then Classical.choose (key i h) else noArg
    have hf' : ∀ i (h : i < len), f i = Classical.choose (key i h) := fun i h => dif_pos h
    refine ⟨(List.range len).map f, by simp, argsV_mk (fun i hi => ?_), fun j hj => ?_, by omega, hl⟩
    · rw [hf' i hi]
      obtain ⟨h1, h2, h3, _⟩ := Classical.choose_spec (key i hi)
      exact ⟨h1, h2, h3⟩
    · rw [List.length_map, List.length_range] at hj
      have e : nthA ((List.range len).map f) j = f j := by simp [nthA, List.getD, hj]
      rw [e, hf' j hj]
      exact (Classical.choose_spec (key j hj)).2.2.2

theorem open_inst {H : Type} {enc : TypeId × Value → H} {w : World} {b0 base : Nat} {held : Bool} {v : Value} {d : DataW H} {ps : List MemPlace}
    (hv : Value.okWide Tryz.prog w .any b0 49 v) (h : DataW.Trod enc Tryz.prog w base (fun _ => true) held 49 v d ps) (hs : ∀ n ∈ d.weights Tryz.prog 49, n ≤ reachBytes) :
    ∃ (x : InstT) (a : Option Addr) (n c : Nat), v = instV x a n c ∧ x.2.2.2.length = n ∧ InstOk x ∧ ArgsV w a x.2.2.2 ∧ n ≤ c := by
  obtain ⟨v0, v1, v2, v3, y0, y1, y2, y3, m, rfl, rfl, _, t0, t1, t2, t3⟩ := Go.Joins.open_agg4 Tryz.underlying49 (by kernel_rfl) (by kernel_rfl) hv h
  obtain ⟨n0, e0, _, w0⟩ := DataW.trod_int Tryz.underlying46 t0
  obtain ⟨n1, e1, _, w1⟩ := DataW.trod_int Tryz.underlying22 t1
  obtain ⟨n2, e2, _, w2⟩ := DataW.trod_int Tryz.underlying22 t2
  simp at e0 e1 e2
  subst e0; subst e1; subst e2
  have b0 := bounds_u16 w0
  have b1 := bounds_u32 w1
  have b2 := bounds_u32 w2
  obtain ⟨a, n, c, rfl⟩ : ∃ a n c, v3 = .slice a n c := by
    rcases Go.Deep.open_slice Tryz.underlying47 t3 with ⟨hcs, _⟩ | ⟨x, l, c, mm, nn, D, Pl, hcs, _⟩
    · simp at hcs; exact ⟨_, _, _, hcs⟩
    · simp at hcs; exact ⟨_, _, _, hcs⟩
  obtain ⟨l, hl, hv3, hok, hr, hc⟩ := open_args t3 (fun k hk => hs k (by
    simp only [DataW.weights, Tryz.underlying49]
    exact DataW.weights_mem_each (j := 3) rfl rfl _ hk))
  exact ⟨(n0, n1, n2, l), a, n, c, rfl, hl, ⟨by simp; omega, by simp; omega, by simp; omega, by simp; omega, by simp; omega, by simp; omega, hok, by rw [hl]; exact hr⟩, hv3, hc⟩

end Go.Proofs.YtddkapkkjhomkabGreatDoor

/-
  Line of the package print: an instruction's line, or what it lacks.
-/
namespace Go.Proofs.YtddkapkkjhomkabGreatDoor
open Go.RowKit
set_option maxRecDepth 10000
set_option linter.unusedVariables false
set_option linter.unusedSimpArgs false

/-- An instruction's line. -/
def linP (x : InstT) (b : Int) : ByteArray := if rawE x b = 0 then strOfNums (prI x) else ⟨#[]⟩

set_option maxHeartbeats 2000000 in
theorem printLine_any (x : InstT) (b : Int) (ax : Option Addr) (n cx : Nat) (w : World) (hv : ArgsV w ax x.2.2.2) (hok : InstOk x) (hl : x.2.2.2.length = n) (ht : Pow10 w) :
    Calls Tryz.prog 15 #[instV x ax n cx, .int .u32 b] w fun e w' => e = .returned (.tuple #[.string (linP x b), .int .i64 (rawE x b)]) ∧ Below w.heap.size w w' := by
  have hR := fun W (hb : Below w.heap.size w W) => raw_any x b ax n cx W (hv.below hb) hok hl
  have HB0 := hide ((Below.refl w.heap.size w).alloc (Nat.le_refl _) (.cells #[.int .u16 x.1, .int .u32 x.2.1, .int .u32 x.2.2.1, .slice ax n cx] 49))
  have HM := hide (heap_alloc_new w (.cells #[.int .u16 x.1, .int .u32 x.2.1, .int .u32 x.2.2.1, .slice ax n cx] 49))
  by_cases hz : rawE x b = 0
  · have hT := fun W (hb : Below w.heap.size w W) => printTokens_any x ax n cx W (hv.below hb) hl (by have := (inst_few hok hz).1; omega) hok (inst_few hok hz).2.2.2 (ht.below hb)
    have hW := fun W a m c (h : ToksV W a (tksI x)) (hm : (tksI x).length = m) => write_any a m c (tksI x) W h hm (tksI_in hok hz) (by have := (inst_few hok hz).2.2.1; omega)
    have eW : wErr (tksI x) = 0 := if_pos (tksI_ok hok hz)
    rw [inst_out hok hz, eW] at hW
    have ez : linP x b = strOfNums (prI x) := if_pos hz
    rw [ez, hz]
    rw [hz] at hR
    unfold instV at hR ⊢
    generalize strOfNums (prI x) = S at *
    generalize rawO x b = o at *
    generalize tksI x = T at *
    generalize rawWs x b = R at *
    clear hv hok hl ht hz eW ez
    generalize x.1 = x1 at *
    generalize x.2.1 = x2 at *
    generalize x.2.2.1 = x3 at *
    go_enter Tryz.func15, Tryz.ntmps15
    go_wp2_with fail
    generalize w.alloc (.cells #[.int .u16 x1, .int .u32 x2, .int .u32 x3, .slice ax n cx] 49) = W0 at *
    refine (hR _ HB0.out).mono ?_
    rintro e w1 ⟨hb1, a, m, c, rfl, hm, hown⟩
    clear hown hm
    have lm := (Array.getElem?_eq_some_iff.1 HM.out).1
    have hb2 : Below W0.heap.size W0 (w1.alloc (.cells #[.int .u16 o, .slice a m c] 54)) := hb1.alloc hb1.size _
    have kM2 := (hb2.block _ lm).trans HM.out
    obtain ⟨hcM, _⟩ := one_block kM2
    have m0 := hcM 0
    have m1 := hcM 1
    have m2 := hcM 2
    have m3 := hcM 3
    have HB2 := hide (HB0.out.trans (hb2.mono HB0.out.size))
    clear hb1 hb2 kM2 hcM hR lm
    go_wp2_with fail
    refine (hT _ HB2.out).mono ?_
    rintro e w3 ⟨a3, m3', c3, rfl, hv3, hm3, hb3⟩
    have HB3 := hide (HB2.out.trans (hb3.mono HB2.out.size))
    have hW' := hW w3 a3 m3' c3 hv3 hm3
    clear hb3 hW hv3 hm3 m0 m1 m2 m3 hT
    go_wp2_with fail
    refine hW'.mono ?_
    rintro e w4 ⟨rfl, hb4⟩
    have HB4 := hide (HB3.out.trans (hb4.mono HB3.out.size))
    clear hb4 hW'
    go_wp2_with fail
    refine bodyPost_ret (v := .tuple #[.string S, .int .i64 0]) ?_ rfl ⟨rfl, HB4.out⟩
    simp [results, Tryz.results15, go_sem]
  · have ez : linP x b = ⟨#[]⟩ := if_neg hz
    have heb : (rawE x b == 0) = false := by simpa using hz
    rw [ez]
    unfold instV at hR ⊢
    generalize rawE x b = E at *
    generalize rawO x b = o at *
    generalize rawWs x b = R at *
    clear hv hok hl ht hz ez
    generalize x.1 = x1 at *
    generalize x.2.1 = x2 at *
    generalize x.2.2.1 = x3 at *
    go_enter Tryz.func15, Tryz.ntmps15
    go_wp2_with fail
    generalize w.alloc (.cells #[.int .u16 x1, .int .u32 x2, .int .u32 x3, .slice ax n cx] 49) = W0 at *
    refine (hR _ HB0.out).mono ?_
    rintro e w1 ⟨hb1, a, m, c, rfl, hm, hown⟩
    clear hown hm
    have hb2 : Below W0.heap.size W0 (w1.alloc (.cells #[.int .u16 o, .slice a m c] 54)) := hb1.alloc hb1.size _
    have HB2 := hide (HB0.out.trans (hb2.mono HB0.out.size))
    clear hb1 hb2 hR HM HB0
    go_wp2_with fail
    refine bodyPost_ret (v := .tuple #[.string ⟨#[]⟩, .int .i64 E]) ?_ rfl ⟨rfl, HB2.out⟩
    simp [results, Tryz.results15, go_sem]

end Go.Proofs.YtddkapkkjhomkabGreatDoor

/-
  The law PrintRefused answers true, for every instruction and every bound, where the table of powers of ten is laid.
-/
namespace Go.Proofs.YtddkapkkjhomkabGreatDoor
open Go.RowKit
set_option linter.unusedVariables false
set_option linter.unusedSimpArgs false
set_option maxRecDepth 10000

theorem idE_must {must : Bool} {n b e : Int} (he : e ≠ 0) (h : idE must n b e = 0) : must = decide (n ≠ 0) := by
  unfold idE at h
  split at h
  · exact absurd h he
  · rename_i hh; revert hh; cases must <;> by_cases h0 : n = 0 <;> simp [h0]
theorem tksI_number {x : InstT} {b : Int} (hr : rawE x b = 0) : (tksI x).length = 1 + x.2.2.2.length + (if x.2.1 = 0 then 0 else 1) + (if x.2.2.1 = 0 then 0 else 2) := by
  obtain ⟨h1, h2, h3⟩ := rawWs_ok hr
  obtain ⟨i1, i2, i3, i4, i5⟩ := faultI_zero h2
  have e1 := idE_must (by decide) i1
  have e2 := idE_must (by decide) i2
  unfold tksI preTk
  rw [e1, e2]
  by_cases h : x.2.1 = 0 <;> by_cases h' : x.2.2.1 = 0 <;> simp [h, h', argTks_len] <;> omega

set_option maxHeartbeats 4000000 in
theorem printRefused_bad (w : World) (x : InstT) (ax : Option Addr) (n cx : Nat) (hl : x.2.2.2.length = n) (hv : ArgsV w ax x.2.2.2) (hok : InstOk x) (b : Int) (ht : Pow10 w) (hz : rawE x b ≠ 0) :
    Calls Tryz.prog 5 #[instV x ax n cx, .int .u32 b] w fun e w' => e = .returned (.bool true) ∧ Below w.heap.size w w' := by
  have hn : 24 * n ≤ 140737488351232 := by rw [← hl]; exact hok.2.2.2.2.2.2.2
  have hCp := fun wx (hb : Below w.heap.size w wx) => copyInst_any x ax n cx wx (hv.below hb) hl hn
  have hRw := fun wx g (h : ArgsV wx (some ⟨g, 0, none⟩) x.2.2.2) => raw_any x b (some ⟨g, 0, none⟩) n n wx h hok hl
  have hLn := fun wx g (h : ArgsV wx (some ⟨g, 0, none⟩) x.2.2.2) (hb : Below w.heap.size w wx) => printLine_any x b (some ⟨g, 0, none⟩) n n wx h hok hl (ht.below hb)
  have hAw := fun wx (hb : Below w.heap.size w wx) => awake8_true wx (ht.below hb)
  have e1 : rawWs x b = [] := if_neg hz
  have e2 : linP x b = ⟨#[]⟩ := if_neg hz
  rw [e1] at hRw
  rw [e2] at hLn
  have heb : (rawE x b == 0) = false := by simpa using hz
  generalize rawE x b = E at *
  clear e1 e2 hz
  generalize rawO x b = ro at *
  clear hl hv hok ht hn
  obtain ⟨xo, xt, xr, xl⟩ := x
  unfold instV at *
  simp only at *
  have HB0 := hide ((Below.refl w.heap.size w).alloc (Nat.le_refl _) (.cells #[.int .u16 xo, .int .u32 xt, .int .u32 xr, .slice ax n cx] 49))
  have HK0 := hide (alloc_new w #[.int .u16 xo, .int .u32 xt, .int .u32 xr, .slice ax n cx] 49)
  go_enter Tryz.func5, Tryz.ntmps5
  go_wp2_with fail
  generalize w.alloc (.cells #[.int .u16 xo, .int .u32 xt, .int .u32 xr, .slice ax n cx] 49) = W0 at *
  refine (hCp _ HB0.out).mono ?_
  rintro e w1 ⟨g1, rfl, _, hV1, hb1⟩
  have hR1 := hRw w1 g1 hV1
  clear hV1 hRw
  go_wp2_with fail
  refine hR1.mono ?_
  rintro e w2 ⟨hb2, a2, m2, c2, rfl, hm2, _⟩
  have l0 := (Array.getElem?_eq_some_iff.1 HK0.out).1
  have hb02 := hb1.trans (hb2.mono hb1.size)
  have hb3 : Below W0.heap.size W0 (w2.alloc (.cells #[.int .u16 ro, .slice a2 m2 c2] 54)) := hb02.alloc hb02.size _
  have HK3 := hide ((hb3.block _ l0).trans HK0.out)
  have HKR := hide (alloc_new w2 #[.int .u16 ro, .slice a2 m2 c2] 54)
  have HB3 := hide (HB0.out.trans (hb3.mono HB0.out.size))
  obtain ⟨mc, _⟩ := one_block HK3.out
  have q0 := mc 0
  have q1 := mc 1
  have q2 := mc 2
  have q3 := mc 3
  clear hR1 hb1 hb2 hb02 hb3 l0 HK0 HB0 mc
  go_wp2_with fail
  generalize w2.alloc (.cells #[.int .u16 ro, .slice a2 m2 c2] 54) = W3 at *
  refine (hCp _ HB3.out).mono ?_
  rintro e w4 ⟨g4, rfl, _, hV4, hb4⟩
  have hL4 := hLn w4 g4 hV4 (HB3.out.trans (hb4.mono HB3.out.size))
  clear hV4 hLn hCp q0 q1 q2 q3
  go_wp2_with fail
  refine hL4.mono ?_
  rintro e w5 ⟨rfl, hb5⟩
  have lI := (Array.getElem?_eq_some_iff.1 HK3.out).1
  have lR := (Array.getElem?_eq_some_iff.1 HKR.out).1
  have hb35 := hb4.trans (hb5.mono hb4.size)
  have HB5 := hide (HB3.out.trans (hb35.mono HB3.out.size))
  obtain ⟨mr, _⟩ := one_block ((hb35.block _ lR).trans HKR.out)
  have r0 := mr 0
  have r1 := mr 1
  have hm0 : m2 = 0 := by simpa using hm2.symm
  subst hm0
  have hA5 := hAw _ HB5.out
  clear hL4 hb4 hb5 hb35 mr HK3 HKR lI lR HB3 hm2
  go_wp2_with fail
  refine hA5.mono ?_
  rintro e w7 ⟨rfl, hb7⟩
  go_wp2_with fail
  go_ret
  exact ⟨rfl, HB5.out.trans (hb7.mono HB5.out.size)⟩

set_option maxHeartbeats 4000000 in
theorem printRefused_tt (w : World) (x : InstT) (ax : Option Addr) (n cx : Nat) (hl : x.2.2.2.length = n) (hv : ArgsV w ax x.2.2.2) (hok : InstOk x) (b : Int) (ht : Pow10 w) (hz : rawE x b = 0) (ht1 : x.2.1 = 0) (ht2 : x.2.2.1 = 0) :
    Calls Tryz.prog 5 #[instV x ax n cx, .int .u32 b] w fun e w' => e = .returned (.bool true) ∧ Below w.heap.size w w' := by
  have hn : 24 * n ≤ 140737488351232 := by rw [← hl]; exact hok.2.2.2.2.2.2.2
  have hCp := fun wx (hb : Below w.heap.size w wx) => copyInst_any x ax n cx wx (hv.below hb) hl hn
  have hRw := fun wx g (h : ArgsV wx (some ⟨g, 0, none⟩) x.2.2.2) => raw_any x b (some ⟨g, 0, none⟩) n n wx h hok hl
  have hLn := fun wx g (h : ArgsV wx (some ⟨g, 0, none⟩) x.2.2.2) (hb : Below w.heap.size w wx) => printLine_any x b (some ⟨g, 0, none⟩) n n wx h hok hl (ht.below hb)
  have hAw := fun wx (hb : Below w.heap.size w wx) => awake8_true wx (ht.below hb)
  have e2 : linP x b = strOfNums (prI x) := if_pos hz
  have hpl : (prI x).length ≤ 1099511627776 := by
    have h1 := (inst_few hok hz).2.2.1
    have h2 := wAll_len (tksI x)
    have h3 : (prI x).length = (wAll (tksI x)).length - 1 := by unfold prI; rw [List.length_drop]
    omega
  have HNF := hide (show n ≤ 65538 by have := (inst_few hok hz).1; omega)
  have hTk := fun wx => tokens_any (strOfNums (prI x)) wx (by rw [strOfNums_size]; omega)
  obtain ⟨ps, hp1, _, hp3, _⟩ := prI_read hok hz
  rw [strI_of (prI_within x), hp1] at hTk
  rw [tksI_number hz, hl] at hp3
  rw [e2] at hLn
  rw [hz] at hRw hLn
  generalize strOfNums (prI x) = S at *
  generalize rawWs x b = R at *
  clear e2 hpl hp1 hz
  generalize rawO x b = ro at *
  clear hl hv hok ht hn
  obtain ⟨xo, xt, xr, xl⟩ := x
  unfold instV at *
  simp only at *
  subst ht1
  subst ht2
  simp only [if_true] at hp3
  have HB0 := hide ((Below.refl w.heap.size w).alloc (Nat.le_refl _) (.cells #[.int .u16 xo, .int .u32 0, .int .u32 0, .slice ax n cx] 49))
  have HK0 := hide (alloc_new w #[.int .u16 xo, .int .u32 0, .int .u32 0, .slice ax n cx] 49)
  have HP3 := hide hp3
  clear hp3
  go_enter Tryz.func5, Tryz.ntmps5
  go_wp2_with fail
  generalize w.alloc (.cells #[.int .u16 xo, .int .u32 0, .int .u32 0, .slice ax n cx] 49) = W0 at *
  refine (hCp _ HB0.out).mono ?_
  rintro e w1 ⟨g1, rfl, _, hV1, hb1⟩
  have hR1 := hRw w1 g1 hV1
  clear hV1 hRw
  go_wp2_with fail
  refine hR1.mono ?_
  rintro e w2 ⟨hb2, a2, m2, c2, rfl, hm2, _⟩
  have l0 := (Array.getElem?_eq_some_iff.1 HK0.out).1
  have hb02 := hb1.trans (hb2.mono hb1.size)
  have hb3 : Below W0.heap.size W0 (w2.alloc (.cells #[.int .u16 ro, .slice a2 m2 c2] 54)) := hb02.alloc hb02.size _
  have HK3 := hide ((hb3.block _ l0).trans HK0.out)
  have HKR := hide (alloc_new w2 #[.int .u16 ro, .slice a2 m2 c2] 54)
  have HB3 := hide (HB0.out.trans (hb3.mono HB0.out.size))
  obtain ⟨mc, _⟩ := one_block HK3.out
  have q0 := mc 0
  have q1 := mc 1
  have q2 := mc 2
  have q3 := mc 3
  clear hR1 hb1 hb2 hb02 hb3 l0 HK0 HB0 mc
  go_wp2_with fail
  generalize w2.alloc (.cells #[.int .u16 ro, .slice a2 m2 c2] 54) = W3 at *
  refine (hCp _ HB3.out).mono ?_
  rintro e w4 ⟨g4, rfl, _, hV4, hb4⟩
  have hL4 := hLn w4 g4 hV4 (HB3.out.trans (hb4.mono HB3.out.size))
  clear hV4 hLn hCp q0 q1 q2 q3
  go_wp2_with fail
  refine hL4.mono ?_
  rintro e w5 ⟨rfl, hb5⟩
  have lI := (Array.getElem?_eq_some_iff.1 HK3.out).1
  have lR := (Array.getElem?_eq_some_iff.1 HKR.out).1
  have hb35 := hb4.trans (hb5.mono hb4.size)
  have HB5 := hide (HB3.out.trans (hb35.mono HB3.out.size))
  have HK5 := hide ((hb35.block _ lI).trans HK3.out)
  have hT5 := hTk w5
  clear hL4 hb4 hb5 hb35 HK3 HKR lI lR HB3 hm2 hTk
  go_wp2_with fail
  refine hT5.mono ?_
  rintro e w6 ⟨v, rfl, hown, hb6⟩
  obtain ⟨a6, m6, c6, rfl, _, hm6⟩ := toksV_own hown
  have l5 := (Array.getElem?_eq_some_iff.1 HK5.out).1
  have hb7 : Below w5.heap.size w5 (w6.alloc (.cells #[.int .i64 0, .int .i64 0] 28)) := hb6.alloc hb6.size _
  obtain ⟨mi, _⟩ := one_block ((hb7.block _ l5).trans HK5.out)
  have r1 := mi 1
  have r2 := mi 2
  have r3 := mi 3
  obtain ⟨ms, _⟩ := one_block (alloc_new w6 #[.int .i64 0, .int .i64 0] 28)
  have s0 := ms 0
  have HB7 := hide (HB5.out.trans (hb7.mono HB5.out.size))
  have hA7 := hAw _ HB7.out
  have hmm : ((m6 : Int) == 1 + (n : Int)) = true := by have := HP3.out; simp only [beq_iff_eq]; omega
  have hw0 : IntKind.i64.wrap (1 + (n : Int)) = 1 + (n : Int) := by have := HNF.out; rw [IntKind.wrap_i64]; omega
  clear hT5 hown hb6 hb7 mi ms HK5 l5 HB5 hm6 HP3
  go_wp2_with fail
  refine hA7.mono ?_
  rintro e w8 ⟨rfl, hb8⟩
  go_wp2_with fail
  go_ret
  exact ⟨rfl, HB7.out.trans (hb8.mono HB7.out.size)⟩

set_option maxHeartbeats 4000000 in
theorem printRefused_tf (w : World) (x : InstT) (ax : Option Addr) (n cx : Nat) (hl : x.2.2.2.length = n) (hv : ArgsV w ax x.2.2.2) (hok : InstOk x) (b : Int) (ht : Pow10 w) (hz : rawE x b = 0) (ht1 : x.2.1 = 0) (ht2 : x.2.2.1 ≠ 0) :
    Calls Tryz.prog 5 #[instV x ax n cx, .int .u32 b] w fun e w' => e = .returned (.bool true) ∧ Below w.heap.size w w' := by
  have hn : 24 * n ≤ 140737488351232 := by rw [← hl]; exact hok.2.2.2.2.2.2.2
  have hCp := fun wx (hb : Below w.heap.size w wx) => copyInst_any x ax n cx wx (hv.below hb) hl hn
  have hRw := fun wx g (h : ArgsV wx (some ⟨g, 0, none⟩) x.2.2.2) => raw_any x b (some ⟨g, 0, none⟩) n n wx h hok hl
  have hLn := fun wx g (h : ArgsV wx (some ⟨g, 0, none⟩) x.2.2.2) (hb : Below w.heap.size w wx) => printLine_any x b (some ⟨g, 0, none⟩) n n wx h hok hl (ht.below hb)
  have hAw := fun wx (hb : Below w.heap.size w wx) => awake8_true wx (ht.below hb)
  have e2 : linP x b = strOfNums (prI x) := if_pos hz
  have hpl : (prI x).length ≤ 1099511627776 := by
    have h1 := (inst_few hok hz).2.2.1
    have h2 := wAll_len (tksI x)
    have h3 : (prI x).length = (wAll (tksI x)).length - 1 := by unfold prI; rw [List.length_drop]
    omega
  have HNF := hide (show n ≤ 65538 by have := (inst_few hok hz).1; omega)
  have hTk := fun wx => tokens_any (strOfNums (prI x)) wx (by rw [strOfNums_size]; omega)
  obtain ⟨ps, hp1, _, hp3, _⟩ := prI_read hok hz
  rw [strI_of (prI_within x), hp1] at hTk
  rw [tksI_number hz, hl] at hp3
  rw [e2] at hLn
  rw [hz] at hRw hLn
  generalize strOfNums (prI x) = S at *
  generalize rawWs x b = R at *
  clear e2 hpl hp1 hz
  generalize rawO x b = ro at *
  clear hl hv hok ht hn
  obtain ⟨xo, xt, xr, xl⟩ := x
  unfold instV at *
  simp only at *
  subst ht1
  have hb2 : (xr == 0) = false := by simpa using ht2
  rw [if_neg ht2] at hp3
  clear ht2
  simp only [if_true] at hp3
  have HB0 := hide ((Below.refl w.heap.size w).alloc (Nat.le_refl _) (.cells #[.int .u16 xo, .int .u32 0, .int .u32 xr, .slice ax n cx] 49))
  have HK0 := hide (alloc_new w #[.int .u16 xo, .int .u32 0, .int .u32 xr, .slice ax n cx] 49)
  have HP3 := hide hp3
  clear hp3
  go_enter Tryz.func5, Tryz.ntmps5
  go_wp2_with fail
  generalize w.alloc (.cells #[.int .u16 xo, .int .u32 0, .int .u32 xr, .slice ax n cx] 49) = W0 at *
  refine (hCp _ HB0.out).mono ?_
  rintro e w1 ⟨g1, rfl, _, hV1, hb1⟩
  have hR1 := hRw w1 g1 hV1
  clear hV1 hRw
  go_wp2_with fail
  refine hR1.mono ?_
  rintro e w2 ⟨hb2, a2, m2, c2, rfl, hm2, _⟩
  have l0 := (Array.getElem?_eq_some_iff.1 HK0.out).1
  have hb02 := hb1.trans (hb2.mono hb1.size)
  have hb3 : Below W0.heap.size W0 (w2.alloc (.cells #[.int .u16 ro, .slice a2 m2 c2] 54)) := hb02.alloc hb02.size _
  have HK3 := hide ((hb3.block _ l0).trans HK0.out)
  have HKR := hide (alloc_new w2 #[.int .u16 ro, .slice a2 m2 c2] 54)
  have HB3 := hide (HB0.out.trans (hb3.mono HB0.out.size))
  obtain ⟨mc, _⟩ := one_block HK3.out
  have q0 := mc 0
  have q1 := mc 1
  have q2 := mc 2
  have q3 := mc 3
  clear hR1 hb1 hb2 hb02 hb3 l0 HK0 HB0 mc
  go_wp2_with fail
  generalize w2.alloc (.cells #[.int .u16 ro, .slice a2 m2 c2] 54) = W3 at *
  refine (hCp _ HB3.out).mono ?_
  rintro e w4 ⟨g4, rfl, _, hV4, hb4⟩
  have hL4 := hLn w4 g4 hV4 (HB3.out.trans (hb4.mono HB3.out.size))
  clear hV4 hLn hCp q0 q1 q2 q3
  go_wp2_with fail
  refine hL4.mono ?_
  rintro e w5 ⟨rfl, hb5⟩
  have lI := (Array.getElem?_eq_some_iff.1 HK3.out).1
  have lR := (Array.getElem?_eq_some_iff.1 HKR.out).1
  have hb35 := hb4.trans (hb5.mono hb4.size)
  have HB5 := hide (HB3.out.trans (hb35.mono HB3.out.size))
  have HK5 := hide ((hb35.block _ lI).trans HK3.out)
  have hT5 := hTk w5
  clear hL4 hb4 hb5 hb35 HK3 HKR lI lR HB3 hm2 hTk
  go_wp2_with fail
  refine hT5.mono ?_
  rintro e w6 ⟨v, rfl, hown, hb6⟩
  obtain ⟨a6, m6, c6, rfl, _, hm6⟩ := toksV_own hown
  have l5 := (Array.getElem?_eq_some_iff.1 HK5.out).1
  have hb7 : Below w5.heap.size w5 (w6.alloc (.cells #[.int .i64 0, .int .i64 0] 28)) := hb6.alloc hb6.size _
  obtain ⟨mi, _⟩ := one_block ((hb7.block _ l5).trans HK5.out)
  have r1 := mi 1
  have r2 := mi 2
  have r3 := mi 3
  obtain ⟨ms, _⟩ := one_block (alloc_new w6 #[.int .i64 0, .int .i64 0] 28)
  have s0 := ms 0
  have HB7 := hide (HB5.out.trans (hb7.mono HB5.out.size))
  have hA7 := hAw _ HB7.out
  have hmm : ((m6 : Int) == 1 + (n : Int) + 2) = true := by have := HP3.out; simp only [beq_iff_eq]; omega
  have hw0 : IntKind.i64.wrap (1 + (n : Int)) = 1 + (n : Int) := by have := HNF.out; rw [IntKind.wrap_i64]; omega
  have hw1 : IntKind.i64.wrap (1 + (n : Int) + 2) = 1 + (n : Int) + 2 := by have := HNF.out; rw [IntKind.wrap_i64]; omega
  clear hT5 hown hb6 hb7 mi ms HK5 l5 HB5 hm6 HP3
  go_wp2_with fail
  refine hA7.mono ?_
  rintro e w8 ⟨rfl, hb8⟩
  go_wp2_with fail
  go_ret
  exact ⟨rfl, HB7.out.trans (hb8.mono HB7.out.size)⟩

set_option maxHeartbeats 4000000 in
theorem printRefused_ft (w : World) (x : InstT) (ax : Option Addr) (n cx : Nat) (hl : x.2.2.2.length = n) (hv : ArgsV w ax x.2.2.2) (hok : InstOk x) (b : Int) (ht : Pow10 w) (hz : rawE x b = 0) (ht1 : x.2.1 ≠ 0) (ht2 : x.2.2.1 = 0) :
    Calls Tryz.prog 5 #[instV x ax n cx, .int .u32 b] w fun e w' => e = .returned (.bool true) ∧ Below w.heap.size w w' := by
  have hn : 24 * n ≤ 140737488351232 := by rw [← hl]; exact hok.2.2.2.2.2.2.2
  have hCp := fun wx (hb : Below w.heap.size w wx) => copyInst_any x ax n cx wx (hv.below hb) hl hn
  have hRw := fun wx g (h : ArgsV wx (some ⟨g, 0, none⟩) x.2.2.2) => raw_any x b (some ⟨g, 0, none⟩) n n wx h hok hl
  have hLn := fun wx g (h : ArgsV wx (some ⟨g, 0, none⟩) x.2.2.2) (hb : Below w.heap.size w wx) => printLine_any x b (some ⟨g, 0, none⟩) n n wx h hok hl (ht.below hb)
  have hAw := fun wx (hb : Below w.heap.size w wx) => awake8_true wx (ht.below hb)
  have e2 : linP x b = strOfNums (prI x) := if_pos hz
  have hpl : (prI x).length ≤ 1099511627776 := by
    have h1 := (inst_few hok hz).2.2.1
    have h2 := wAll_len (tksI x)
    have h3 : (prI x).length = (wAll (tksI x)).length - 1 := by unfold prI; rw [List.length_drop]
    omega
  have HNF := hide (show n ≤ 65538 by have := (inst_few hok hz).1; omega)
  have hTk := fun wx => tokens_any (strOfNums (prI x)) wx (by rw [strOfNums_size]; omega)
  obtain ⟨ps, hp1, _, hp3, _⟩ := prI_read hok hz
  rw [strI_of (prI_within x), hp1] at hTk
  rw [tksI_number hz, hl] at hp3
  rw [e2] at hLn
  rw [hz] at hRw hLn
  generalize strOfNums (prI x) = S at *
  generalize rawWs x b = R at *
  clear e2 hpl hp1 hz
  generalize rawO x b = ro at *
  clear hl hv hok ht hn
  obtain ⟨xo, xt, xr, xl⟩ := x
  unfold instV at *
  simp only at *
  have hb1 : (xt == 0) = false := by simpa using ht1
  rw [if_neg ht1] at hp3
  clear ht1
  subst ht2
  simp only [if_true] at hp3
  have HB0 := hide ((Below.refl w.heap.size w).alloc (Nat.le_refl _) (.cells #[.int .u16 xo, .int .u32 xt, .int .u32 0, .slice ax n cx] 49))
  have HK0 := hide (alloc_new w #[.int .u16 xo, .int .u32 xt, .int .u32 0, .slice ax n cx] 49)
  have HP3 := hide hp3
  clear hp3
  go_enter Tryz.func5, Tryz.ntmps5
  go_wp2_with fail
  generalize w.alloc (.cells #[.int .u16 xo, .int .u32 xt, .int .u32 0, .slice ax n cx] 49) = W0 at *
  refine (hCp _ HB0.out).mono ?_
  rintro e w1 ⟨g1, rfl, _, hV1, hb1⟩
  have hR1 := hRw w1 g1 hV1
  clear hV1 hRw
  go_wp2_with fail
  refine hR1.mono ?_
  rintro e w2 ⟨hb2, a2, m2, c2, rfl, hm2, _⟩
  have l0 := (Array.getElem?_eq_some_iff.1 HK0.out).1
  have hb02 := hb1.trans (hb2.mono hb1.size)
  have hb3 : Below W0.heap.size W0 (w2.alloc (.cells #[.int .u16 ro, .slice a2 m2 c2] 54)) := hb02.alloc hb02.size _
  have HK3 := hide ((hb3.block _ l0).trans HK0.out)
  have HKR := hide (alloc_new w2 #[.int .u16 ro, .slice a2 m2 c2] 54)
  have HB3 := hide (HB0.out.trans (hb3.mono HB0.out.size))
  obtain ⟨mc, _⟩ := one_block HK3.out
  have q0 := mc 0
  have q1 := mc 1
  have q2 := mc 2
  have q3 := mc 3
  clear hR1 hb1 hb2 hb02 hb3 l0 HK0 HB0 mc
  go_wp2_with fail
  generalize w2.alloc (.cells #[.int .u16 ro, .slice a2 m2 c2] 54) = W3 at *
  refine (hCp _ HB3.out).mono ?_
  rintro e w4 ⟨g4, rfl, _, hV4, hb4⟩
  have hL4 := hLn w4 g4 hV4 (HB3.out.trans (hb4.mono HB3.out.size))
  clear hV4 hLn hCp q0 q1 q2 q3
  go_wp2_with fail
  refine hL4.mono ?_
  rintro e w5 ⟨rfl, hb5⟩
  have lI := (Array.getElem?_eq_some_iff.1 HK3.out).1
  have lR := (Array.getElem?_eq_some_iff.1 HKR.out).1
  have hb35 := hb4.trans (hb5.mono hb4.size)
  have HB5 := hide (HB3.out.trans (hb35.mono HB3.out.size))
  have HK5 := hide ((hb35.block _ lI).trans HK3.out)
  have hT5 := hTk w5
  clear hL4 hb4 hb5 hb35 HK3 HKR lI lR HB3 hm2 hTk
  go_wp2_with fail
  refine hT5.mono ?_
  rintro e w6 ⟨v, rfl, hown, hb6⟩
  obtain ⟨a6, m6, c6, rfl, _, hm6⟩ := toksV_own hown
  have l5 := (Array.getElem?_eq_some_iff.1 HK5.out).1
  have hb7 : Below w5.heap.size w5 (w6.alloc (.cells #[.int .i64 0, .int .i64 0] 28)) := hb6.alloc hb6.size _
  obtain ⟨mi, _⟩ := one_block ((hb7.block _ l5).trans HK5.out)
  have r1 := mi 1
  have r2 := mi 2
  have r3 := mi 3
  obtain ⟨ms, _⟩ := one_block (alloc_new w6 #[.int .i64 0, .int .i64 0] 28)
  have s0 := ms 0
  have HB7 := hide (HB5.out.trans (hb7.mono HB5.out.size))
  have hA7 := hAw _ HB7.out
  have hmm : ((m6 : Int) == 1 + (n : Int) + 1) = true := by have := HP3.out; simp only [beq_iff_eq]; omega
  have hw0 : IntKind.i64.wrap (1 + (n : Int)) = 1 + (n : Int) := by have := HNF.out; rw [IntKind.wrap_i64]; omega
  have hw1 : IntKind.i64.wrap (1 + (n : Int) + 1) = 1 + (n : Int) + 1 := by have := HNF.out; rw [IntKind.wrap_i64]; omega
  clear hT5 hown hb6 hb7 mi ms HK5 l5 HB5 hm6 HP3
  go_wp2_with fail
  refine hA7.mono ?_
  rintro e w8 ⟨rfl, hb8⟩
  go_wp2_with fail
  go_ret
  exact ⟨rfl, HB7.out.trans (hb8.mono HB7.out.size)⟩

set_option maxHeartbeats 4000000 in
theorem printRefused_ff (w : World) (x : InstT) (ax : Option Addr) (n cx : Nat) (hl : x.2.2.2.length = n) (hv : ArgsV w ax x.2.2.2) (hok : InstOk x) (b : Int) (ht : Pow10 w) (hz : rawE x b = 0) (ht1 : x.2.1 ≠ 0) (ht2 : x.2.2.1 ≠ 0) :
    Calls Tryz.prog 5 #[instV x ax n cx, .int .u32 b] w fun e w' => e = .returned (.bool true) ∧ Below w.heap.size w w' := by
  have hn : 24 * n ≤ 140737488351232 := by rw [← hl]; exact hok.2.2.2.2.2.2.2
  have hCp := fun wx (hb : Below w.heap.size w wx) => copyInst_any x ax n cx wx (hv.below hb) hl hn
  have hRw := fun wx g (h : ArgsV wx (some ⟨g, 0, none⟩) x.2.2.2) => raw_any x b (some ⟨g, 0, none⟩) n n wx h hok hl
  have hLn := fun wx g (h : ArgsV wx (some ⟨g, 0, none⟩) x.2.2.2) (hb : Below w.heap.size w wx) => printLine_any x b (some ⟨g, 0, none⟩) n n wx h hok hl (ht.below hb)
  have hAw := fun wx (hb : Below w.heap.size w wx) => awake8_true wx (ht.below hb)
  have e2 : linP x b = strOfNums (prI x) := if_pos hz
  have hpl : (prI x).length ≤ 1099511627776 := by
    have h1 := (inst_few hok hz).2.2.1
    have h2 := wAll_len (tksI x)
    have h3 : (prI x).length = (wAll (tksI x)).length - 1 := by unfold prI; rw [List.length_drop]
    omega
  have HNF := hide (show n ≤ 65538 by have := (inst_few hok hz).1; omega)
  have hTk := fun wx => tokens_any (strOfNums (prI x)) wx (by rw [strOfNums_size]; omega)
  obtain ⟨ps, hp1, _, hp3, _⟩ := prI_read hok hz
  rw [strI_of (prI_within x), hp1] at hTk
  rw [tksI_number hz, hl] at hp3
  rw [e2] at hLn
  rw [hz] at hRw hLn
  generalize strOfNums (prI x) = S at *
  generalize rawWs x b = R at *
  clear e2 hpl hp1 hz
  generalize rawO x b = ro at *
  clear hl hv hok ht hn
  obtain ⟨xo, xt, xr, xl⟩ := x
  unfold instV at *
  simp only at *
  have hb1 : (xt == 0) = false := by simpa using ht1
  rw [if_neg ht1] at hp3
  clear ht1
  have hb2 : (xr == 0) = false := by simpa using ht2
  rw [if_neg ht2] at hp3
  clear ht2
  have HB0 := hide ((Below.refl w.heap.size w).alloc (Nat.le_refl _) (.cells #[.int .u16 xo, .int .u32 xt, .int .u32 xr, .slice ax n cx] 49))
  have HK0 := hide (alloc_new w #[.int .u16 xo, .int .u32 xt, .int .u32 xr, .slice ax n cx] 49)
  have HP3 := hide hp3
  clear hp3
  go_enter Tryz.func5, Tryz.ntmps5
  go_wp2_with fail
  generalize w.alloc (.cells #[.int .u16 xo, .int .u32 xt, .int .u32 xr, .slice ax n cx] 49) = W0 at *
  refine (hCp _ HB0.out).mono ?_
  rintro e w1 ⟨g1, rfl, _, hV1, hb1⟩
  have hR1 := hRw w1 g1 hV1
  clear hV1 hRw
  go_wp2_with fail
  refine hR1.mono ?_
  rintro e w2 ⟨hb2, a2, m2, c2, rfl, hm2, _⟩
  have l0 := (Array.getElem?_eq_some_iff.1 HK0.out).1
  have hb02 := hb1.trans (hb2.mono hb1.size)
  have hb3 : Below W0.heap.size W0 (w2.alloc (.cells #[.int .u16 ro, .slice a2 m2 c2] 54)) := hb02.alloc hb02.size _
  have HK3 := hide ((hb3.block _ l0).trans HK0.out)
  have HKR := hide (alloc_new w2 #[.int .u16 ro, .slice a2 m2 c2] 54)
  have HB3 := hide (HB0.out.trans (hb3.mono HB0.out.size))
  obtain ⟨mc, _⟩ := one_block HK3.out
  have q0 := mc 0
  have q1 := mc 1
  have q2 := mc 2
  have q3 := mc 3
  clear hR1 hb1 hb2 hb02 hb3 l0 HK0 HB0 mc
  go_wp2_with fail
  generalize w2.alloc (.cells #[.int .u16 ro, .slice a2 m2 c2] 54) = W3 at *
  refine (hCp _ HB3.out).mono ?_
  rintro e w4 ⟨g4, rfl, _, hV4, hb4⟩
  have hL4 := hLn w4 g4 hV4 (HB3.out.trans (hb4.mono HB3.out.size))
  clear hV4 hLn hCp q0 q1 q2 q3
  go_wp2_with fail
  refine hL4.mono ?_
  rintro e w5 ⟨rfl, hb5⟩
  have lI := (Array.getElem?_eq_some_iff.1 HK3.out).1
  have lR := (Array.getElem?_eq_some_iff.1 HKR.out).1
  have hb35 := hb4.trans (hb5.mono hb4.size)
  have HB5 := hide (HB3.out.trans (hb35.mono HB3.out.size))
  have HK5 := hide ((hb35.block _ lI).trans HK3.out)
  have hT5 := hTk w5
  clear hL4 hb4 hb5 hb35 HK3 HKR lI lR HB3 hm2 hTk
  go_wp2_with fail
  refine hT5.mono ?_
  rintro e w6 ⟨v, rfl, hown, hb6⟩
  obtain ⟨a6, m6, c6, rfl, _, hm6⟩ := toksV_own hown
  have l5 := (Array.getElem?_eq_some_iff.1 HK5.out).1
  have hb7 : Below w5.heap.size w5 (w6.alloc (.cells #[.int .i64 0, .int .i64 0] 28)) := hb6.alloc hb6.size _
  obtain ⟨mi, _⟩ := one_block ((hb7.block _ l5).trans HK5.out)
  have r1 := mi 1
  have r2 := mi 2
  have r3 := mi 3
  obtain ⟨ms, _⟩ := one_block (alloc_new w6 #[.int .i64 0, .int .i64 0] 28)
  have s0 := ms 0
  have HB7 := hide (HB5.out.trans (hb7.mono HB5.out.size))
  have hA7 := hAw _ HB7.out
  have hmm : ((m6 : Int) == 1 + (n : Int) + 1 + 2) = true := by have := HP3.out; simp only [beq_iff_eq]; omega
  have hw0 : IntKind.i64.wrap (1 + (n : Int)) = 1 + (n : Int) := by have := HNF.out; rw [IntKind.wrap_i64]; omega
  have hw1 : IntKind.i64.wrap (1 + (n : Int) + 1) = 1 + (n : Int) + 1 := by have := HNF.out; rw [IntKind.wrap_i64]; omega
  have hw2 : IntKind.i64.wrap (1 + (n : Int) + 1 + 2) = 1 + (n : Int) + 1 + 2 := by have := HNF.out; rw [IntKind.wrap_i64]; omega
  clear hT5 hown hb6 hb7 mi ms HK5 l5 HB5 hm6 HP3
  go_wp2_with fail
  refine hA7.mono ?_
  rintro e w8 ⟨rfl, hb8⟩
  go_wp2_with fail
  go_ret
  exact ⟨rfl, HB7.out.trans (hb8.mono HB7.out.size)⟩

theorem printRefused_any (w : World) (x : InstT) (ax : Option Addr) (n cx : Nat) (hl : x.2.2.2.length = n) (hv : ArgsV w ax x.2.2.2) (hok : InstOk x) (hc : n ≤ cx) (b : Int) (hb : (Lit.int .u32 b).wf = true) (ht : Pow10 w) :
    Calls Tryz.prog 5 #[instV x ax n cx, .int .u32 b] w fun e w' => e = .returned (.bool true) ∧ Below w.heap.size w w' := by
  by_cases hz : rawE x b = 0
  · by_cases h1 : x.2.1 = 0
    · by_cases h2 : x.2.2.1 = 0
      · exact printRefused_tt w x ax n cx hl hv hok b ht hz h1 h2
      · exact printRefused_tf w x ax n cx hl hv hok b ht hz h1 h2
    · by_cases h2 : x.2.2.1 = 0
      · exact printRefused_ft w x ax n cx hl hv hok b ht hz h1 h2
      · exact printRefused_ff w x ax n cx hl hv hok b ht hz h1 h2
  · exact printRefused_bad w x ax n cx hl hv hok b ht hz

end Go.Proofs.YtddkapkkjhomkabGreatDoor

/-
  The law PrintRefused holds where the three listed tables hold what the program lays in them: called with any arguments it returns true, and each argument reads behind the call as it read before.
-/
namespace Go.Proofs.YtddkapkkjhomkabGreatDoor.printRefused
open Go.ChangeShapes Go.WideShapes Go.ChangeAt Go.RowKit
open Go.ChangeMaps (open_string shut_string)
set_option linter.unusedVariables false

theorem own : ownKnob Tryz.prog.godebug = none := by kernel_rfl
theorem laidOut : laidOutB Tryz.prog = true := by kernel_rfl

theorem gPow : Tryz.prog.globalNamed "internal/strconv.uint64pow10" = some 1 := by kernel_rfl
theorem tPow : (Tryz.prog.globals[1]?).map (·.type) = some 261 := by kernel_rfl
theorem cPow : Tryz.prog.cellsOf 261 = 20 := by kernel_rfl
theorem cElem : Tryz.prog.cellsOf 136 = 1 := by kernel_rfl
abbrev laid3 : List (String × DataW Unit) := [("math/bits.deBruijn32tab", Rows.laid_math_bits_deBruijn32tab), ("math/bits.deBruijn64tab", Rows.laid_math_bits_deBruijn64tab), ("internal/strconv.uint64pow10", Rows.laid_internal_strconv_uint64pow10)]
/-- The heap that the start-up leaves meets the condition. -/
theorem door_met (os : Os) (args : Array Value) : laidMetH Tryz.prog laid3 ((World.doorLaid Tryz.prog 400 os).forCall (fun _ _ => 0) ⟨#[], args, []⟩).memory :=
  laidMetH_of_parts3 (fuel := 8) (laidMet_of_run' 8 (by kernel_rfl) (by kernel_rfl)) (by kernel_rfl) (by kernel_rfl)
/-- What the condition gives: the table of powers of ten. -/
theorem of_laid {W : World} (h : laidMetH Tryz.prog laid3 W) : Pow10 W := by
  rw [MakeChecks.laidMetH_plain _ _ _ (by kernel_rfl)] at h
  have h3 := (laidMet.tail (laidMet.tail h))
  exact Lib.tabIs_of_head (k := .u64) (zs := Lib.pow10Tab) gPow tPow Tryz.underlying261 Tryz.underlying136 cElem cPow h3

set_option maxRecDepth 100000 in
theorem lifted (os : Os) (started : os.Started) (H : Type) (enc : TypeId × Value → H) :
    ReturnsInHanded {} Tryz.checked os 5 .any (fun w args => (Rows.printRefusedSpec.pre enc Tryz.prog Tryz.f5 [] false w args ∧ laidMetH Tryz.prog laid3 w) ∧ sizedMet enc Tryz.prog Tryz.f5 (OpenSpec.ofChange Rows.printRefusedSpec) false w args) (Rows.printRefusedSpec.post enc Tryz.prog Tryz.f5 false true false false) := by
  refine returnsInHanded_of_change_and (C := Tryz.checked) (X := fun w _ => laidMetH Tryz.prog laid3 w) (fun _ _ _ hh h => h.of_heap hh) own started (by kernel_rfl) Tryz.func5
    (ChangeSpec.witness_shaped (enc := enc) (C := Tryz.checked) (os := os) (X := fun w _ => laidMetH Tryz.prog laid3 w) false (World.doorLaid Tryz.prog 400 os) #[.agg #[.int .u16 0, .int .u32 0, .int .u32 0, .slice none 0 0], .int .u32 0] 8 rfl (World.shaped_of_RefB (by kernel_rfl) (by kernel_rfl)) (by kernel_rfl) (by kernel_rfl) (by kernel_rfl) (door_met os _)) ?_
  intro W base args ds gs before hval0 hW _ hsz0 hL _
  have hsz : (DataW.weightsEach Tryz.prog (Tryz.f5.params.toList ++ Rows.printRefusedSpec.plain.varTypes Tryz.prog) (ds ++ gs)).all (· ≤ reachBytes) = true := hsz0
  clear hsz0
  have hval : ∀ (j : Nat) t v, Tryz.f5.params[j]? = some t → args[j]? = some v → Value.okWide Tryz.prog W .any base t v := hval0
  have hW' := hW
  obtain ⟨p, q, hA0, hV, rfl, hfz, hnd⟩ := hW
  have hA : DataW.TrodAll enc Tryz.prog W 0 (fun _ => true) true Tryz.f5.params.toList args.toList ds p := hA0
  rw [Tryz.params5] at hA hval hsz
  obtain ⟨v0, vs0, d0, ds0, p0, q0, hargs, rfl, rfl, h0, r0⟩ := trodAll_cons hA
  obtain ⟨v1, vs1, d1, ds1, p1, q1, rfl, rfl, rfl, h1, r1⟩ := trodAll_cons r0
  obtain ⟨rfl, rfl, rfl⟩ := trodAll_nil r1
  obtain rfl : args = #[v0, v1] := by cases args; simp_all
  obtain ⟨rfl, rfl⟩ := trodVars_none hV
  have k0 := h0
  have lt0 : ∀ x ∈ p0, x.block < W.heap.size := by obtain ⟨m, hm⟩ := k0; exact DataW.trod_lt m _ _ _ hm
  obtain ⟨x0, a0, len0, cap0, rfl, hl0, hk0, hv0, hc0⟩ := open_inst (hval 0 49 v0 rfl rfl) h0 (fun n hn => by simpa using List.all_eq_true.1 hsz n (DataW.weights_mem_each (j := 0) rfl rfl n hn))
  obtain ⟨a1, rfl, rfl, rfl, w1⟩ := open_int Tryz.underlying22 (hval 1 22 v1 rfl rfl) h1
  clear hA0 hval0
  refine (printRefused_any W x0 a0 len0 cap0 hl0 hv0 hk0 hc0 a1 w1 (of_laid hL)).mono fun e W' ⟨he, bel⟩ => ?_
  subst he
  exact ⟨_, rfl, _, _, _, [], _, [], hW', trodAll_mk1 (shut_bool Tryz.underlying4 _), (trodAll_cons_mk (Below.trod laidOut (by kernel_rfl) (of_decide_eq_true (by kernel_rfl)) k0 bel lt0) (trodAll_cons_mk (shut_int Tryz.underlying22 w1) trodAll_mk0)), rfl, bel.frame _, fun h => by cases h⟩

theorem over : Rows.printRefusedRow.holds Tryz.pinned (OpenSpec.ofChange Rows.printRefusedSpec) :=
  OpenClaim.holds_of_wide 5 Tryz.f5 rfl rfl rfl rfl rfl rfl rfl ⟨rfl, rfl, rfl, rfl, rfl⟩ rfl rfl rfl rfl rfl (by kernel_rfl) Tryz.func5 (by kernel_rfl)
    (of_decide_eq_true (by kernel_rfl)) (by unfold Func.isWrapper; first | (rw [if_pos (by decide +kernel)]; kernel_rfl) | (rw [if_neg (by decide +kernel)]; exact ⟨rfl, rfl⟩))
    (fun os started H enc _ => lifted os started H enc)

end Go.Proofs.YtddkapkkjhomkabGreatDoor.printRefused

namespace Go.Proofs.YtddkapkkjhomkabGreatDoor
theorem printRefused_holds : Rows.PrintRefusedSaid := printRefused.over
#print axioms printRefused_holds
end Go.Proofs.YtddkapkkjhomkabGreatDoor
