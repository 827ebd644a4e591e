/-
  Texts laid together in one: Ref09Uses, IdsName, Ref09Name, KitCopyInst, KitCopyModule, KitInts.
-/
import Derived.WalkSpells
import Derived.WalkMore
import Derived.BigRegion
import Derived.Laws.AppendOwn
import Derived.Test.YtmobologlaeefacProg
import Derived.Test.YtmobologlaeefacB12
import Derived.Deep.RegionWith
import Derived.Deep.DrawnRows
import Derived.Deep.QuietTactic
import Derived.BigQuiet
import Derived.Test.YtmobologlaeefacB07
import Derived.Test.YtmobologlaeefacB01
/-
  The document's Uses: the places of the instructions that name an id.
-/
namespace Go.Proofs.Ytmobologlaeefac
open Go.RowKit
set_option linter.unusedVariables false
set_option linter.unusedSimpArgs false
set_option maxRecDepth 10000

set_option maxHeartbeats 8000000 in
theorem refUses9_any (gen bnd id : Int) (a : Option Addr) (n c : Nat) (l : List InstT) (w : World) (hv : InstsV w a l) (hok : InstsOk l) (hl : l.length = n) (hn : 40 * n ≤ 140737488351232) (g0 : 0 ≤ gen) (g1 : gen < 4294967296) (b0 : 0 ≤ bnd) (b1 : bnd < 4294967296) :
    Calls Try.prog 12 #[modV gen bnd a n c, .int .u32 id] w fun e w' => UsesQ w w' (usesL bnd l id) (shapeE bnd l) e := by
  obtain ⟨i0, hi, hz0, hz1, hz2⟩ := info_parts IntsU.info
  have HI : Hid (Try.prog.info? 3 = some i0 ∧ i0.zero = some (.int .i64 0) ∧ i0.size = 1 ∧ i0.bytes = 8) := ⟨hi, hz0, hz1, hz2⟩
  clear hi hz0 hz1 hz2
  have hb0 : Below w.heap.size w ((w.alloc (.cells #[.int .u32 gen, .int .u32 bnd, .slice a n c] 25)).alloc (.cells #[.int .i64 0, .int .i64 0] 29)) := ((Below.refl _ w).alloc (Nat.le_refl _) _).alloc (by simp) _
  have hSh := refShape4_any gen bnd a n c l _ (hv.below hb0) hok hl hn b0 b1
  have k0 : ((w.alloc (.cells #[.int .u32 gen, .int .u32 bnd, .slice a n c] 25)).alloc (.cells #[.int .i64 0, .int .i64 0] 29)).heap[w.heap.size]? = some (.cells #[.int .u32 gen, .int .u32 bnd, .slice a n c] 25 (0, 0)) := by rw [Below.heap_alloc _ _ _ (by simp)]; exact heap_alloc_new _ _
  have k1 : ((w.alloc (.cells #[.int .u32 gen, .int .u32 bnd, .slice a n c] 25)).alloc (.cells #[.int .i64 0, .int .i64 0] 29)).heap[w.heap.size + 1]? = some (.cells #[.int .i64 0, .int .i64 0] 29 (0, 0)) := by have := heap_alloc_new (w.alloc (.cells #[.int .u32 gen, .int .u32 bnd, .slice a n c] 25)) (.cells #[.int .i64 0, .int .i64 0] 29); simpa using this
  have HS1 := hide (And.intro k0 k1)
  have hs1 : ((w.alloc (.cells #[.int .u32 gen, .int .u32 bnd, .slice a n c] 25)).alloc (.cells #[.int .i64 0, .int .i64 0] 29)).heap.size = w.heap.size + 2 := by simp
  have HZ := hide hs1
  have HB0 := hide hb0
  have HV := hide hv
  have HOK := hide hok
  have HL := hide hl
  have HN : Hid (40 * n ≤ 140737488351232) := hn
  unfold usesL
  rcases shapeE_any bnd l with hE | hE
  · rw [if_pos (by rw [hE]), hE]
    rw [hE] at hSh
    unfold modV at *
    clear hE hb0 hv hok hl k0 k1 hs1 hn
    go_enter Try.func12, Try.ntmps12
    go_wp2_with fail
    generalize (w.alloc (.cells #[.int .u32 gen, .int .u32 bnd, .slice a n c] 25)).alloc (.cells #[.int .i64 0, .int .i64 0] 29) = W0 at *
    refine hSh.mono ?_
    rintro e w1 ⟨rfl, hb1⟩
    have hba : Below w1.heap.size w1 (w1.alloc (.cells #[.int .i64 0, .int .i64 0] 29)) := (Below.refl _ w1).alloc (Nat.le_refl _) _
    have hbx := hb1.trans (hba.mono hb1.size)
    have q0 := (hbx.block _ (by rw [HZ.out]; omega)).trans HS1.out.1
    have q1 := (hbx.block _ (by rw [HZ.out]; omega)).trans HS1.out.2
    have HQ := hide (And.intro q0 q1)
    have HBX := hide (HB0.out.trans (hbx.mono HB0.out.size))
    have HW1 : Hid (w.heap.size + 2 ≤ w1.heap.size) := by show _ ≤ _; rw [← HZ.out]; exact hb1.size
    have m2 := (one_block q0).1 2
    have HT := hide (heap_alloc_new w1 (.cells #[.int .i64 0, .int .i64 0] 29))
    clear hSh hb1 hba hbx q0 q1 HS1 HB0
    go_wp2_with fail
    generalize w1.alloc (.cells #[.int .i64 0, .int .i64 0] 29) = W1 at *
    have hU0 : UseS w W1 w1.heap.size gen bnd a n c (.slice none 0 0) (usesTo l id 0) := ⟨World.ownsRow_nil _ _ _ _, HQ.out.1, HQ.out.2, HT.out, HBX.out, by have := HW1.out; omega⟩
    have HU0 := hide hU0
    generalize w1.heap.size = B at *
    clear hU0 m2
    go_loopw [7, 8] (fun v i wr => ∃ k : Nat, k ≤ n ∧ i = .int .i64 k ∧ UseS w wr B gen bnd a n c v (usesTo l id k)) (fun _ i _ => n - (intOf i).toNat)
    case atStart => exact ⟨0, Nat.zero_le _, rfl, HU0.out⟩
    case round =>
      obtain ⟨k, hk, rfl, hS⟩ := hrel
      clear HU0
      obtain ⟨a', cap', rfl⟩ := own_shapeU hS.own
      have hlk := usesTo_len l id k
      have hA := HV.out.below hS.bel
      have hkb : (k : Int) < 140737488351232 := by have := HN.out; omega
      by_cases hlt : k < n
      · have hkl : k < l.length := by rw [HL.out]; exact hlt
        obtain ⟨g1, o1, aj, cj, nj, rfl, hg1, p1, p2, p3, p4, p5, p6, p7⟩ := hA k hkl
        have hki : (k : Int) < (n : Int) := by omega
        have hk0 : (0 : Int) ≤ (k : Int) := by omega
        have hz := HOK.out k hkl
        have hnj : 24 * nj ≤ 140737488351232 := by have := hz.2.2.2.2.2.2.2; omega
        have HSU : Hid (usesTo l id (k + 1) = usesTo l id k ++ (if id ∈ idsI (nthI l k) then [(k : Int)] else [])) := rfl
        generalize nthI l k = z at *
        have hcI := refNames9_any z id aj nj cj wr p6 p5 hnj
        have HS2 := hide hS
        have m2 := (one_block hS.mbox).1 2
        clear hA hS p5 p6 p7 hz
        generalize idsI z = is at *
        obtain ⟨zo, zt, zr, zl⟩ := z
        unfold instV at hcI
        simp only at *
        generalize usesTo l id k = zs at *
        go_wp2_with fail
        refine hcI.mono ?_
        rintro e w3 ⟨rfl, hb3⟩
        have HS3 := hide (HS2.out.below hb3)
        clear hcI hb3 m2
        by_cases hin : id ∈ is
        · have hd : decide (id ∈ is) = true := by simpa using hin
          rw [hd]
          rw [if_pos hin] at HSU
          have hba4 : Below w3.heap.size w3 (w3.alloc (.cells #[.int .i64 (k : Int)] 3)) := (Below.refl _ w3).alloc (Nat.le_refl _) _
          have HS4 := hide (HS3.out.below hba4)
          have N1 : Hid ((w3.alloc (.cells #[.int .i64 (k : Int)] 3)).ownsRow (B + 1) 3 1 (.slice a' zs.length cap') zs.length (zs.map (Value.int .i64))) := HS4.out.own
          have N6 : Hid (B + 1 ≤ (w3.alloc (.cells #[.int .i64 (k : Int)] 3)).heap.size) := by show _ ≤ _; have := (Array.getElem?_eq_some_iff.1 HS4.out.tbox).1; omega
          have N4 : zs.length + 1 ≤ maxLen := by have := HN.out; unfold maxLen; omega
          have N5 : (zs.length + 1) * 8 ≤ 140737488355328 := by have := HN.out; omega
          have HN4 := hide N4
          have HN5 := hide N5
          clear hba4 hin hd HS3 HS2 N4 N5 hnj hlk
          go_wp2_with (at_builtin; refine wpList_append_own _ rfl (.tmp 29) (.tmp 31) 26 rfl (B + 1) 3 i0 (.int .i64 0) 1 8 Try.underlying26 HI.out.1 HI.out.2.1 HI.out.2.2.1 HI.out.2.2.2 rfl (by decide) _ zs.length (zs.map (Value.int .i64)) rfl N1.out ⟨w3.heap.size, 0, none⟩ 1 1 [.int .i64 (k : Int)] rfl rfl (cell_one_new _ _ _) (ints_oneCell .i64 [(k : Int)]) HN4.out HN5.out N6.out ?_)
          intro v5 w5 hown5 hgr5 _
          have HS5 := hide (HS4.out.push hgr5 hown5)
          clear hown5 hgr5 N1 N6 HS4
          go_wp2_with fail
          go_roundw
          case rel => exact ⟨k + 1, by omega, by go_num, by rw [HSU.out]; exact HS5.out⟩
          case measure => simp [intOf]; omega
        · have hd : decide (id ∈ is) = false := by simpa using hin
          rw [hd]
          rw [if_neg hin, List.append_nil] at HSU
          clear hin hd HS2
          go_wp2_with fail
          go_roundw
          case rel => exact ⟨k + 1, by omega, by go_num, by rw [HSU.out]; exact HS3.out⟩
          case measure => simp [intOf]; omega
      · obtain rfl : k = n := by omega
        have hq := hS.sbox
        obtain ⟨d0, d1, dF⟩ := cell_of_two hq
        have f0 : wr.frozen? ⟨w.heap.size + 1, 0, none⟩ = false := by simp [World.frozen?, hq]
        have HV2 := hide (View.ofOwn hS.own rfl)
        have HB2 := hide hS.bel
        have HLN := hide HL.out
        have k2 := two_put2 hq (.int .i64 0) (.int .i64 0)
        have HVX := hide (View.ofOwn (ownsRow_setCell_below (ownsRow_setCell_below hS.own (a := ⟨w.heap.size + 1, 0, none⟩) (by simp; have := hS.lt; omega) (.int .i64 0)) (a := ⟨w.heap.size + 1, 1, none⟩) (by simp; have := hS.lt; omega) (.int .i64 0)) rfl)
        have HBX2 := hide ((hS.bel.setCell (p := ⟨w.heap.size + 1, 0, none⟩) (by simp) (.int .i64 0)).setCell (p := ⟨w.heap.size + 1, 1, none⟩) (by simp) (.int .i64 0))
        have HK2 := hide k2
        obtain ⟨t0, t1, _⟩ := cell_of_two hS.tbox
        have hne : B ≠ w.heap.size + 1 := by have := hS.lt; omega
        have m2 := (one_block hS.mbox).1 2
        clear hS hA hq k2
        go_wp2_with fail
        refine wp_norm ?_
        go_region
        all_goals
          rw [onNormal_normal]
          go_wp2_with fail
          obtain ⟨r0, r1, _⟩ := cell_of_two HK2.out
          refine bodyPost_ret (v := .tuple #[.slice a' (usesTo l id k).length cap', .agg #[.int .i64 0, .int .i64 0]]) (by first | (simp [results, Try.results12, go_sem, r0, r1]; done) | (simp [results, Try.results12, go_sem, World.drew] at *; simp [r0, r1])) rfl ?_
          exact ⟨a', (usesTo l id k).length, cap', by simp, by rw [HLN.out], by rw [HLN.out]; first | exact HVX.out | exact HVX.out.below (below_drew _), by first | exact HBX2.out | exact HBX2.out.drew⟩
  · rw [if_neg hE]
    generalize shapeE bnd l = E at *
    obtain ⟨E1, E2⟩ := E
    simp only at hE hSh
    have hE' : (E1 != 0) = true := by simpa using hE
    unfold modV at *
    clear hb0 hv hok hl k0 k1 hs1 hn hE
    go_enter Try.func12, Try.ntmps12
    go_wp2_with fail
    generalize (w.alloc (.cells #[.int .u32 gen, .int .u32 bnd, .slice a n c] 25)).alloc (.cells #[.int .i64 0, .int .i64 0] 29) = W0 at *
    refine hSh.mono ?_
    rintro e w1 ⟨rfl, hb1⟩
    have hba : Below w1.heap.size w1 (w1.alloc (.cells #[.int .i64 E1, .int .i64 E2] 29)) := (Below.refl _ w1).alloc (Nat.le_refl _) _
    have hbx := hb1.trans (hba.mono hb1.size)
    have q1 := (hbx.block _ (by rw [HZ.out]; omega)).trans HS1.out.2
    have HBX := hide (HB0.out.trans (hbx.mono HB0.out.size))
    have HW1 : Hid (w.heap.size + 2 ≤ w1.heap.size) := by show _ ≤ _; rw [← HZ.out]; exact hb1.size
    have HT := hide (heap_alloc_new w1 (.cells #[.int .i64 E1, .int .i64 E2] 29))
    have HQ := hide q1
    clear hSh hb1 hba hbx q1 HS1 HB0
    go_wp2_with fail
    generalize w1.alloc (.cells #[.int .i64 E1, .int .i64 E2] 29) = W1 at *
    generalize w1.heap.size = B at *
    obtain ⟨t0, t1, _⟩ := cell_of_two HT.out
    obtain ⟨d0, d1, dF⟩ := cell_of_two HQ.out
    have f0 : W1.frozen? ⟨w.heap.size + 1, 0, none⟩ = false := by simp [World.frozen?, HQ.out]
    have hne : B ≠ w.heap.size + 1 := by have := HW1.out; omega
    refine wp_norm ?_
    go_region
    all_goals
      rw [onNormal_normal]
      go_wp2_with fail
      have k2 := two_put2 HQ.out (.int .i64 E1) (.int .i64 E2)
      have hb2 := (HBX.out.setCell (p := ⟨w.heap.size + 1, 0, none⟩) (by simp) (.int .i64 E1)).setCell (p := ⟨w.heap.size + 1, 1, none⟩) (by simp) (.int .i64 E2)
      obtain ⟨r0, r1, _⟩ := cell_of_two k2
      refine bodyPost_ret (v := .tuple #[.slice none 0 0, .agg #[.int .i64 E1, .int .i64 E2]]) (by first | (simp [results, Try.results12, go_sem, r0, r1]; done) | (simp [results, Try.results12, go_sem, World.drew] at *; simp [r0, r1])) rfl ?_
      exact ⟨none, 0, 0, by simp, rfl, fun j hj => by simp at hj, by first | exact hb2 | exact hb2.drew⟩

end Go.Proofs.Ytmobologlaeefac

/-
  Name of the package ids.
-/
namespace Go.Proofs.Ytmobologlaeefac
open Go.RowKit
set_option linter.unusedVariables false
set_option linter.unusedSimpArgs false
set_option maxRecDepth 10000

theorem field_zeroU (x y : Value) (w : World) : (Instr.field 29 (.agg #[x, y]) 0).run Try.prog w = .ok x w := by
  have hu := Try.underlying29
  have hi := Try.underlying27
  simp [Instr.field, run_underlying hu, asAgg, part, isAgg, run_underlying hi, go_sem]

/-- What Name answers. -/
def NameQ (w w' : World) (r : ByteArray × Bool) (e : Ending) : Prop := e = .returned (.tuple #[.string r.1, .bool r.2]) ∧ Below w.heap.size w w'
theorem nameF_end (l : List InstT) (id : Int) (k : Nat) : nameF l id 0 k = (⟨#[]⟩, false) := rfl
theorem nameF_step (l : List InstT) (id : Int) (n k : Nat) (h : k < n) : nameF l id (n - k) k = if namesX (nthI l k) id = true then ((nthA (nthI l k).2.2.2 1).2.2, true) else nameF l id (n - (k + 1)) (k + 1) := by
  obtain ⟨d, hd⟩ : ∃ d, n - k = d + 1 := ⟨n - k - 1, by omega⟩
  rw [hd, nameF, show n - (k + 1) = d by omega]

set_option maxHeartbeats 8000000 in
theorem idsName_any (gen bnd id : Int) (a : Option Addr) (n c : Nat) (l : List InstT) (w : World) (hv : InstsV w a l) (hok : InstsOk l) (hl : l.length = n) (hn : 40 * n ≤ 140737488351232) (g0 : 0 ≤ gen) (g1 : gen < 4294967296) (b0 : 0 ≤ bnd) (b1 : bnd < 4294967296) :
    Calls Try.prog 15 #[modV gen bnd a n c, .int .u32 id] w fun e w' => NameQ w w' (nameL bnd l id) e := by
  have hb0 : Below w.heap.size w (w.alloc (.cells #[.int .u32 gen, .int .u32 bnd, .slice a n c] 25)) := (Below.refl _ w).alloc (Nat.le_refl _) _
  have hSh := codeShape_any gen bnd a n c l _ g0 g1 b0 b1 (hv.below hb0) hok hl hn
  have HK0 := hide (heap_alloc_new w (.cells #[.int .u32 gen, .int .u32 bnd, .slice a n c] 25))
  have HZ : Hid ((w.alloc (.cells #[.int .u32 gen, .int .u32 bnd, .slice a n c] 25)).heap.size = w.heap.size + 1) := by show _ = _; simp
  have HB0 := hide hb0
  have HV := hide hv
  have HL := hide hl
  have HN : Hid (40 * n ≤ 140737488351232) := hn
  unfold nameL
  rcases shapeE_any bnd l with hE | hE
  · rw [if_pos (by rw [hE])]
    have HSE : Hid (∀ k, k < n → rawE (nthI l k) bnd = 0) := fun k hk => shape_each (by rw [hE]) k (by omega)
    rw [hE] at hSh
    unfold modV at *
    have HST : Hid (∀ k, k < n → nameF l id (n - k) k = if namesX (nthI l k) id = true then ((nthA (nthI l k).2.2.2 1).2.2, true) else nameF l id (n - (k + 1)) (k + 1)) := fun k hk => nameF_step l id n k hk
    rw [hl]
    generalize hr : nameF l id n 0 = r at *
    have HR0 : Hid (nameF l id (n - 0) 0 = r) := hr
    clear hE hb0 hv hok hl hn hr
    go_enter Try.func15, Try.ntmps15
    go_wp2_with fail
    generalize w.alloc (.cells #[.int .u32 gen, .int .u32 bnd, .slice a n c] 25) = W0 at *
    refine hSh.mono ?_
    rintro e w1 ⟨rfl, hb1⟩
    have q0 := (hb1.block _ (by rw [HZ.out]; omega)).trans HK0.out
    have m2 := (one_block q0).1 2
    have HQ := hide q0
    have HBX := hide (HB0.out.trans (hb1.mono HB0.out.size))
    have hF := fun wx => field_zeroU (.int .i64 0) (.int .i64 0) wx
    clear hSh hb1 q0 HK0 HB0
    go_wp2_with fail
    clear hF
    go_loopw [15] (fun i wr => ∃ k : Nat, k ≤ n ∧ i = .int .i64 k ∧ nameF l id (n - k) k = r ∧ Below w1.heap.size w1 wr) (fun i _ => n - (intOf i).toNat)
    case atStart => exact ⟨0, Nat.zero_le _, rfl, HR0.out, Below.refl _ _⟩
    case round =>
      obtain ⟨k, hk, rfl, hF, hB⟩ := hrel
      have HF := hide hF
      have HBB := hide hB
      have hA := (HV.out.below HBX.out).below hB
      have x2 := (hB.cell (p := ⟨w.heap.size, 2, none⟩) (by have := (Array.getElem?_eq_some_iff.1 HQ.out).1; omega)).trans m2
      clear HR0 hF
      have hkb : (k : Int) < 140737488351232 := by have := HN.out; omega
      by_cases hlt : k < n
      · have hkl : k < l.length := by rw [HL.out]; exact hlt
        obtain ⟨g1, o1, aj, cj, nj, rfl, hg1, p1, p2, p3, p4, p5, p6, p7⟩ := hA k hkl
        have hki : (k : Int) < (n : Int) := by omega
        have hk0 : (0 : Int) ≤ (k : Int) := by omega
        have hst := HST.out k hlt
        have hraw := HSE.out k hlt
        have HNJ : Hid ((nthI l k).1 = 5 → nj = 2) := fun h5 => by rw [← p5]; exact name_args hraw h5
        generalize nthI l k = z at *
        obtain ⟨zo, zt, zr, zl⟩ := z
        simp only at *
        have hba : Below wr.heap.size wr (wr.alloc (.cells #[.int .u16 zo, .int .u32 zt, .int .u32 zr, .slice aj nj cj] 51)) := (Below.refl _ wr).alloc (Nat.le_refl _) _
        have HB2 := hide (HBB.out.trans (hba.mono HBB.out.size))
        by_cases h5 : zo = 5
        · subst h5
          obtain rfl : nj = 2 := HNJ.out rfl
          obtain ⟨ba, oa, rfl, hba0, z0, z1, z2⟩ := p6 0 (by omega)
          obtain ⟨ba', oa', e2, _, y0, y1, y2⟩ := p6 1 (by omega)
          simp only [Option.some.injEq, Addr.mk.injEq, and_true] at e2
          obtain ⟨rfl, rfl⟩ := e2
          unfold namesX at hst
          simp only at hst
          generalize (nthA zl 0) = q1 at *
          generalize (nthA zl 1) = q2 at *
          obtain ⟨q10, q11, q12⟩ := q1
          obtain ⟨q20, q21, q22⟩ := q2
          simp only at *
          have zz1 := (hba.cell (p := ⟨ba, oa + 0 * 3 + 1, none⟩) hba0).trans z1
          have yy2 := (hba.cell (p := ⟨ba, oa + 1 * 3 + 2, none⟩) hba0).trans y2
          clear z0 z1 z2 y0 y1 y2
          by_cases hq : q11 = id
          · subst hq
            have hqq : (q11 == q11) = true := by simp
            have HRE : Hid (r = (q22, true)) := by show _ = _; rw [← HF.out, hst]; simp
            clear hst hA hraw HNJ p5 p7
            go_wp2_with fail
            refine bodyPost_ret (v := .tuple #[.string q22, .bool true]) (by simp [results, Try.results15, go_sem]) rfl ?_
            unfold NameQ
            rw [HRE.out]
            exact ⟨rfl, HBX.out.trans (HB2.out.mono HBX.out.size)⟩
          · have hqq : (q11 == id) = false := by simpa using hq
            have HRE : Hid (nameF l id (n - (k + 1)) (k + 1) = r) := by show _ = _; rw [← HF.out, hst]; simp [hq]
            clear hst hA hraw HNJ p5 p7 hq
            go_wp2_with fail
            go_roundw
            case rel => exact ⟨k + 1, by omega, by go_num, HRE.out, HB2.out⟩
            case measure => simp [intOf]; omega
        · have h5' : (zo == 5) = false := by simpa using h5
          have HRE : Hid (nameF l id (n - (k + 1)) (k + 1) = r) := by show _ = _; rw [← HF.out, hst]; simp [namesX, h5]
          clear hst hA hraw HNJ p5 p6 p7 h5
          go_wp2_with fail
          go_roundw
          case rel => exact ⟨k + 1, by omega, by go_num, HRE.out, HB2.out⟩
          case measure => simp [intOf]; omega
      · obtain rfl : k = n := by omega
        have HRE : Hid (r = (⟨#[]⟩, false)) := by show _ = _; rw [← HF.out, Nat.sub_self]; rfl
        clear hA
        go_wp2_with fail
        refine bodyPost_ret (v := .tuple #[.string ⟨#[]⟩, .bool false]) (by simp [results, Try.results15, go_sem]) rfl ?_
        unfold NameQ
        rw [HRE.out]
        exact ⟨rfl, HBX.out.trans (HBB.out.mono HBX.out.size)⟩
  · rw [if_neg hE]
    generalize shapeE bnd l = E at *
    obtain ⟨E1, E2⟩ := E
    simp only at hE hSh
    have hE' : (E1 != 0) = true := by simpa using hE
    have hE2 : (E1 == 0) = false := by simpa using hE
    unfold modV at *
    clear hb0 hv hok hl hn hE
    go_enter Try.func15, Try.ntmps15
    go_wp2_with fail
    generalize w.alloc (.cells #[.int .u32 gen, .int .u32 bnd, .slice a n c] 25) = W0 at *
    refine hSh.mono ?_
    rintro e w1 ⟨rfl, hb1⟩
    have HBX := hide (HB0.out.trans (hb1.mono HB0.out.size))
    have q0 := (hb1.block _ (by rw [HZ.out]; omega)).trans HK0.out
    have m2 := (one_block q0).1 2
    have lw : w.heap.size < w1.heap.size := (Array.getElem?_eq_some_iff.1 q0).1
    have hF := fun wx => field_zeroU (.int .i64 E1) (.int .i64 E2) wx
    clear hSh HB0 hb1 q0 HK0
    go_wp2_with fail
    refine bodyPost_ret (v := .tuple #[.string ⟨#[]⟩, .bool false]) (by simp [results, Try.results15, go_sem]) rfl ⟨rfl, HBX.out⟩

end Go.Proofs.Ytmobologlaeefac

/-
  The document's Name.
-/
namespace Go.Proofs.Ytmobologlaeefac
open Go.RowKit
set_option linter.unusedVariables false
set_option linter.unusedSimpArgs false
set_option maxRecDepth 10000

set_option maxHeartbeats 8000000 in
theorem refName9_any (gen bnd id : Int) (a : Option Addr) (n c : Nat) (l : List InstT) (w : World) (hv : InstsV w a l) (hok : InstsOk l) (hl : l.length = n) (hn : 40 * n ≤ 140737488351232) (g0 : 0 ≤ gen) (g1 : gen < 4294967296) (b0 : 0 ≤ bnd) (b1 : bnd < 4294967296) :
    Calls Try.prog 14 #[modV gen bnd a n c, .int .u32 id] w fun e w' => NameQ w w' (nameL bnd l id) e := by
  have hb0 : Below w.heap.size w (w.alloc (.cells #[.int .u32 gen, .int .u32 bnd, .slice a n c] 25)) := (Below.refl _ w).alloc (Nat.le_refl _) _
  have hSh := refShape4_any gen bnd a n c l _ (hv.below hb0) hok hl hn b0 b1
  have HK0 := hide (heap_alloc_new w (.cells #[.int .u32 gen, .int .u32 bnd, .slice a n c] 25))
  have HZ : Hid ((w.alloc (.cells #[.int .u32 gen, .int .u32 bnd, .slice a n c] 25)).heap.size = w.heap.size + 1) := by show _ = _; simp
  have HB0 := hide hb0
  have HV := hide hv
  have HL := hide hl
  have HN : Hid (40 * n ≤ 140737488351232) := hn
  unfold nameL
  rcases shapeE_any bnd l with hE | hE
  · rw [if_pos (by rw [hE])]
    have HSE : Hid (∀ k, k < n → rawE (nthI l k) bnd = 0) := fun k hk => shape_each (by rw [hE]) k (by omega)
    rw [hE] at hSh
    unfold modV at *
    have HST : Hid (∀ k, k < n → nameF l id (n - k) k = if namesX (nthI l k) id = true then ((nthA (nthI l k).2.2.2 1).2.2, true) else nameF l id (n - (k + 1)) (k + 1)) := fun k hk => nameF_step l id n k hk
    rw [hl]
    generalize hr : nameF l id n 0 = r at *
    have HR0 : Hid (nameF l id (n - 0) 0 = r) := hr
    clear hE hb0 hv hok hl hn hr
    go_enter Try.func14, Try.ntmps14
    go_wp2_with fail
    generalize w.alloc (.cells #[.int .u32 gen, .int .u32 bnd, .slice a n c] 25) = W0 at *
    refine hSh.mono ?_
    rintro e w1 ⟨rfl, hb1⟩
    have q0 := (hb1.block _ (by rw [HZ.out]; omega)).trans HK0.out
    have m2 := (one_block q0).1 2
    have HQ := hide q0
    have HBX := hide (HB0.out.trans (hb1.mono HB0.out.size))
    have hba1 : Below w1.heap.size w1 (w1.alloc (.cells #[.int .i64 0, .int .i64 0] 29)) := (Below.refl _ w1).alloc (Nat.le_refl _) _
    have s0 : (w1.alloc (.cells #[.int .i64 0, .int .i64 0] 29)).cell? ⟨w1.heap.size, 0, none⟩ = some (.int .i64 0) := (cell_of_two (heap_alloc_new w1 (.cells #[.int .i64 0, .int .i64 0] 29))).1
    have HS0 := hide s0
    have HBA1 := hide hba1
    clear s0 hba1
    have hF := fun wx => field_zeroU (.int .i64 0) (.int .i64 0) wx
    clear hSh hb1 q0 HK0 HB0
    go_wp2_with fail
    clear hF
    go_loopw [7] (fun i wr => ∃ k : Nat, k ≤ n ∧ i = .int .i64 k ∧ nameF l id (n - k) k = r ∧ Below (w1.heap.size + 1) (w1.alloc (.cells #[.int .i64 0, .int .i64 0] 29)) wr) (fun i _ => n - (intOf i).toNat)
    case atStart => exact ⟨0, Nat.zero_le _, rfl, HR0.out, Below.refl _ _⟩
    case round =>
      obtain ⟨k, hk, rfl, hF, hB1⟩ := hrel
      have hB : Below w1.heap.size w1 wr := HBA1.out.trans (hB1.mono (Nat.le_succ _))
      have HF := hide hF
      have HBB := hide hB
      have hA := (HV.out.below HBX.out).below hB
      have x2 := (hB.cell (p := ⟨w.heap.size, 2, none⟩) (by have := (Array.getElem?_eq_some_iff.1 HQ.out).1; omega)).trans m2
      clear HR0 hF
      have HB1 := hide hB1
      have hsw : w.heap.size < wr.heap.size := by have := (Array.getElem?_eq_some_iff.1 HQ.out).1; have := hB.size; omega
      clear hB1
      have hkb : (k : Int) < 140737488351232 := by have := HN.out; omega
      have s0 : wr.cell? ⟨w1.heap.size, 0, none⟩ = some (.int .i64 0) := (HB1.out.cell (p := ⟨w1.heap.size, 0, none⟩) (Nat.lt_succ_self _)).trans HS0.out
      by_cases hlt : k < n
      · have hkl : k < l.length := by rw [HL.out]; exact hlt
        obtain ⟨g1, o1, aj, cj, nj, rfl, hg1, p1, p2, p3, p4, p5, p6, p7⟩ := hA k hkl
        have hki : (k : Int) < (n : Int) := by omega
        have hk0 : (0 : Int) ≤ (k : Int) := by omega
        have hst := HST.out k hlt
        have hraw := HSE.out k hlt
        have HNJ : Hid ((nthI l k).1 = 5 → nj = 2) := fun h5 => by rw [← p5]; exact name_args hraw h5
        generalize nthI l k = z at *
        obtain ⟨zo, zt, zr, zl⟩ := z
        simp only at *
        have hba : Below wr.heap.size wr (wr.alloc (.cells #[.int .u16 zo, .int .u32 zt, .int .u32 zr, .slice aj nj cj] 51)) := (Below.refl _ wr).alloc (Nat.le_refl _) _
        have HB2 := hide hB
        clear hba
        by_cases h5 : zo = 5
        · subst h5
          obtain rfl : nj = 2 := HNJ.out rfl
          obtain ⟨ba, oa, rfl, hba0, z0, z1, z2⟩ := p6 0 (by omega)
          obtain ⟨ba', oa', e2, _, y0, y1, y2⟩ := p6 1 (by omega)
          simp only [Option.some.injEq, Addr.mk.injEq, and_true] at e2
          obtain ⟨rfl, rfl⟩ := e2
          unfold namesX at hst
          simp only at hst
          generalize (nthA zl 0) = q1 at *
          generalize (nthA zl 1) = q2 at *
          obtain ⟨q10, q11, q12⟩ := q1
          obtain ⟨q20, q21, q22⟩ := q2
          simp only at *
          by_cases hq : q11 = id
          · subst hq
            have hqq : (q11 == q11) = true := by simp
            have HRE : Hid (r = (q22, true)) := by show _ = _; rw [← HF.out, hst]; simp
            clear hst hA hraw HNJ p5 p7
            go_wp2_with fail
            refine bodyPost_ret (v := .tuple #[.string q22, .bool true]) (by simp [results, Try.results14, go_sem]) rfl ?_
            unfold NameQ
            rw [HRE.out]
            exact ⟨rfl, HBX.out.trans (HB2.out.mono HBX.out.size)⟩
          · have hqq : (q11 == id) = false := by simpa using hq
            have HRE : Hid (nameF l id (n - (k + 1)) (k + 1) = r) := by show _ = _; rw [← HF.out, hst]; simp [hq]
            clear hst hA hraw HNJ p5 p7 hq
            go_wp2_with fail
            go_roundw
            case rel => exact ⟨k + 1, by omega, by go_num, HRE.out, HB1.out⟩
            case measure => simp [intOf]; omega
        · have h5' : (zo == 5) = false := by simpa using h5
          have HRE : Hid (nameF l id (n - (k + 1)) (k + 1) = r) := by show _ = _; rw [← HF.out, hst]; simp [namesX, h5]
          clear hst hA hraw HNJ p5 p6 p7 h5
          go_wp2_with fail
          go_roundw
          case rel => exact ⟨k + 1, by omega, by go_num, HRE.out, HB1.out⟩
          case measure => simp [intOf]; omega
      · obtain rfl : k = n := by omega
        have HRE : Hid (r = (⟨#[]⟩, false)) := by show _ = _; rw [← HF.out, Nat.sub_self]; rfl
        clear hA
        go_wp2_with fail
        refine bodyPost_ret (v := .tuple #[.string ⟨#[]⟩, .bool false]) (by simp [results, Try.results14, go_sem]) rfl ?_
        unfold NameQ
        rw [HRE.out]
        exact ⟨rfl, HBX.out.trans (HBB.out.mono HBX.out.size)⟩
  · rw [if_neg hE]
    generalize shapeE bnd l = E at *
    obtain ⟨E1, E2⟩ := E
    simp only at hE hSh
    have hE' : (E1 != 0) = true := by simpa using hE
    have hE2 : (E1 == 0) = false := by simpa using hE
    unfold modV at *
    clear hb0 hv hok hl hn hE
    go_enter Try.func14, Try.ntmps14
    go_wp2_with fail
    generalize w.alloc (.cells #[.int .u32 gen, .int .u32 bnd, .slice a n c] 25) = W0 at *
    refine hSh.mono ?_
    rintro e w1 ⟨rfl, hb1⟩
    have HBX := hide (HB0.out.trans (hb1.mono HB0.out.size))
    have q0 := (hb1.block _ (by rw [HZ.out]; omega)).trans HK0.out
    have m2 := (one_block q0).1 2
    have lw : w.heap.size < w1.heap.size := (Array.getElem?_eq_some_iff.1 q0).1
    have hF := fun wx => field_zeroU (.int .i64 E1) (.int .i64 E2) wx
    clear hSh HB0 hb1 q0 HK0
    have s0 : (w1.alloc (.cells #[.int .i64 E1, .int .i64 E2] 29)).cell? ⟨w1.heap.size, 0, none⟩ = some (.int .i64 E1) := (cell_of_two (heap_alloc_new w1 (.cells #[.int .i64 E1, .int .i64 E2] 29))).1
    have x2 : (w1.alloc (.cells #[.int .i64 E1, .int .i64 E2] 29)).cell? ⟨w.heap.size, 2, none⟩ = some (.slice a n c) := (((Below.refl _ w1).alloc (Nat.le_refl _) (.cells #[.int .i64 E1, .int .i64 E2] 29)).cell (p := ⟨w.heap.size, 2, none⟩) lw).trans m2
    have HBF := hide (HBX.out.trans (((Below.refl _ w1).alloc (Nat.le_refl _) (.cells #[.int .i64 E1, .int .i64 E2] 29)).mono HBX.out.size))
    clear m2 hF g0 g1 b0 b1 lw
    go_wp2_with fail
    generalize w1.alloc (.cells #[.int .i64 E1, .int .i64 E2] 29) = W1 at *
    go_loopw [7] (fun i wr => i = .int .i64 0 ∧ W1 = wr) (fun _ _ => 0)
    case atStart => exact ⟨rfl, rfl⟩
    case round =>
      obtain ⟨rfl, rfl⟩ := hrel
      by_cases h0 : (0 : Int) < (n : Int)
      · go_wp2_with fail
        all_goals exact bodyPost_ret (v := .tuple #[.string ⟨#[]⟩, .bool false]) (by simp [results, Try.results14, go_sem]) rfl ⟨rfl, HBF.out⟩
      · have h0' : decide ((0 : Int) < (n : Int)) = false := by simpa using h0
        clear h0
        go_wp2_with fail
        all_goals exact bodyPost_ret (v := .tuple #[.string ⟨#[]⟩, .bool false]) (by simp [results, Try.results14, go_sem]) rfl ⟨rfl, HBF.out⟩

end Go.Proofs.Ytmobologlaeefac

/-
  CopyInst of the kit answers the instruction in new memory.
-/
namespace Go.Proofs.Ytmobologlaeefac
open Go.RowKit

theorem CopyInst.info : (Try.prog.info? 63).map (fun i => (i.zero, i.size, i.bytes)) = some (some (.agg #[.int .u8 0, .int .u32 0, .string ⟨#[]⟩]), 3, 24) := by kernel_rfl

/-- The first k arguments lie in the row at g. -/
structure PartA (w : World) (g n k : Nat) (l : List ArgT) : Prop where
  row : ∃ cs : Array Value, w.heap[g]? = some (.cells cs 63 (0, 0)) ∧ cs.size = n * 3
  each : ∀ j, j < k → w.cell? ⟨g, j * 3, none⟩ = some (.int .u8 (nthA l j).1) ∧ w.cell? ⟨g, j * 3 + 1, none⟩ = some (.int .u32 (nthA l j).2.1) ∧ w.cell? ⟨g, j * 3 + 2, none⟩ = some (.string (nthA l j).2.2)

theorem cells_can {w : World} {g T : Nat} {cs : Array Value} (h : w.heap[g]? = some (.cells cs T (0, 0))) (j : Nat) (hj : j < cs.size) : (∃ v, w.cell? ⟨g, j, none⟩ = some v) ∧ w.frozen? ⟨g, j, none⟩ = false := by
  refine ⟨⟨cs[j], by simp [World.cell?, h, hj]⟩, by simp [World.frozen?, h]⟩

theorem PartA.store {w : World} {g n k : Nat} {l : List ArgT} (h : PartA w g n k l) (hk : k < n) :
    PartA (((w.setCell ⟨g, k * 3, none⟩ (.int .u8 (nthA l k).1)).setCell ⟨g, k * 3 + 1, none⟩ (.int .u32 (nthA l k).2.1)).setCell ⟨g, k * 3 + 2, none⟩ (.string (nthA l k).2.2)) g n (k + 1) l := by
  obtain ⟨⟨cs, h1, h2⟩, h3⟩ := h
  obtain ⟨W, hW⟩ : ∃ W, W = ((w.setCell ⟨g, k * 3, none⟩ (.int .u8 (nthA l k).1)).setCell ⟨g, k * 3 + 1, none⟩ (.int .u32 (nthA l k).2.1)).setCell ⟨g, k * 3 + 2, none⟩ (.string (nthA l k).2.2) := ⟨_, rfl⟩
  have hb : W.heap[g]? = some (.cells (((cs.setIfInBounds (k * 3) (.int .u8 (nthA l k).1)).setIfInBounds (k * 3 + 1) (.int .u32 (nthA l k).2.1)).setIfInBounds (k * 3 + 2) (.string (nthA l k).2.2)) 63 (0, 0)) := by
    rw [hW]; simp [World.setCell, Array.getElem?_modify, h1]
  have cell : ∀ j, W.cell? ⟨g, j, none⟩ = (((cs.setIfInBounds (k * 3) (.int .u8 (nthA l k).1)).setIfInBounds (k * 3 + 1) (.int .u32 (nthA l k).2.1)).setIfInBounds (k * 3 + 2) (.string (nthA l k).2.2))[j]? := fun j => by
    simp [World.cell?, hb]
  have old : ∀ j, w.cell? ⟨g, j, none⟩ = cs[j]? := fun j => by simp [World.cell?, h1]
  rw [← hW]
  refine ⟨⟨_, hb, by simp [h2]⟩, fun j hj => ?_⟩
  by_cases hjk : j < k
  · obtain ⟨c1, c2, c3⟩ := h3 j hjk
    rw [old] at c1 c2 c3
    refine ⟨?_, ?_, ?_⟩
    all_goals rw [cell, Array.getElem?_setIfInBounds_ne (by omega), Array.getElem?_setIfInBounds_ne (by omega), Array.getElem?_setIfInBounds_ne (by omega)]
    · exact c1
    · exact c2
    · exact c3
  · obtain rfl : j = k := by omega
    refine ⟨?_, ?_, ?_⟩
    · rw [cell, Array.getElem?_setIfInBounds_ne (by omega), Array.getElem?_setIfInBounds_ne (by omega), Array.getElem?_setIfInBounds_self_of_lt (by omega)]
    · rw [cell, Array.getElem?_setIfInBounds_ne (by omega), Array.getElem?_setIfInBounds_self_of_lt (by simp; omega)]
    · rw [cell, Array.getElem?_setIfInBounds_self_of_lt (by simp; omega)]

theorem PartA.view {w : World} {g n : Nat} {l : List ArgT} (h : PartA w g n n l) (hl : l.length = n) : ArgsV w (some ⟨g, 0, none⟩) l := by
  intro j hj
  obtain ⟨c1, c2, c3⟩ := h.each j (by omega)
  exact ⟨g, 0, rfl, World.block_lt_of_cell? _ _ c1, by rw [Nat.zero_add]; exact c1, by rw [Nat.zero_add]; exact c2, by rw [Nat.zero_add]; exact c3⟩

theorem PartA.drew {w : World} {g n k : Nat} {l : List ArgT} (h : PartA w g n k l) (q : Nat) : PartA (w.drewN q) g n k l := ⟨h.row, h.each⟩

theorem setFar1 {w : World} {g k : Nat} {o : Obj} (h : w.heap[k]? = some o) (hne : k ≠ g) (i : Nat) (u : Value) : (w.setCell ⟨g, i, none⟩ u).heap[k]? = some o := (Below.heap_setCell _ _ _ _ (by simpa using hne)).trans h
theorem setFar3 {w : World} {g k : Nat} {o : Obj} (h : w.heap[k]? = some o) (hne : k ≠ g) (i j m : Nat) (u v x : Value) : (((w.setCell ⟨g, i, none⟩ u).setCell ⟨g, j, none⟩ v).setCell ⟨g, m, none⟩ x).heap[k]? = some o := setFar1 (setFar1 (setFar1 h hne i u) hne j v) hne m x
theorem block_cells {w : World} {B T : Nat} {cs : Array Value} (h : w.heap[B]? = some (.cells cs T (0, 0))) : (∀ i, w.cell? ⟨B, i, none⟩ = cs[i]?) ∧ (∀ i, w.frozen? ⟨B, i, none⟩ = false) := by
  refine ⟨fun i => ?_, fun i => ?_⟩
  · simp [World.cell?, h]
  · simp [World.frozen?, h]

theorem four_set {w : World} {B T : Nat} {z0 z1 z2 z3 : Value} (h : w.heap[B]? = some (.cells #[z0, z1, z2, z3] T (0, 0))) (u0 u1 u2 u3 : Value) :
    ((((w.setCell ⟨B, 0, none⟩ u0).setCell ⟨B, 1, none⟩ u1).setCell ⟨B, 2, none⟩ u2).setCell ⟨B, 3, none⟩ u3).heap[B]? = some (.cells #[u0, u1, u2, u3] T (0, 0)) := by
  simp only [World.setCell, Array.getElem?_modify, h]; simp
theorem four_below (w : World) (B : Nat) (u0 u1 u2 u3 : Value) : Below B w ((((w.setCell ⟨B, 0, none⟩ u0).setCell ⟨B, 1, none⟩ u1).setCell ⟨B, 2, none⟩ u2).setCell ⟨B, 3, none⟩ u3) :=
  ((((Below.refl B w).setCell (Nat.le_refl _) _).setCell (Nat.le_refl _) _).setCell (Nat.le_refl _) _).setCell (Nat.le_refl _) _
theorem args_far {w : World} {b off g : Nat} {l : List ArgT} (h : ArgsV w (some ⟨b, off, none⟩) l) (hg : g ≠ b) (i : Nat) (v : Value) : ArgsV (w.setCell ⟨g, i, none⟩ v) (some ⟨b, off, none⟩) l :=
  h.setCell (fun b' off' e => by cases e; exact fun h => hg h.symm) v

set_option maxRecDepth 100000 in
set_option maxHeartbeats 2000000 in
theorem copyInst_any (x : InstT) (ax : Option Addr) (n cx : Nat) (w : World) (hx : ArgsV w ax x.2.2.2) (hl : x.2.2.2.length = n) (hn : 24 * n ≤ 140737488351232) :
    Calls Try.prog 31 #[instV x ax n cx] w fun e w' => ∃ g, e = .returned (instV x (some ⟨g, 0, none⟩) n n) ∧ w.heap.size ≤ g ∧ ArgsV w' (some ⟨g, 0, none⟩) x.2.2.2 ∧ Below w.heap.size w w' := by
  obtain ⟨i0, hi, hz0, hz1, hz2⟩ := info_parts CopyInst.info
  obtain ⟨xo, xt, xr, xl⟩ := x
  unfold instV
  simp only at *
  have HL : Hid (xl.length = n) := hl
  clear hl
  go_enter Try.func31, Try.ntmps31
  go_wp2_with (at_make; refine wpList_make_full _ rfl _ _ 49 rfl (w.heap.size + 1) 63 i0 (.agg #[.int .u8 0, .int .u32 0, .string ⟨#[]⟩]) 3 Try.underlying49 hi hz0 hz1 _ _ _ _ n rfl rfl (by omega) (by omega) (by rw [hz2]; omega) (by unfold maxLen; omega) (by simp) ?_)
  intro w1 hown1 hgrow1
  have hb0 : Below w.heap.size w ((w.alloc (.cells #[.int .u16 xo, .int .u32 xt, .int .u32 xr, .slice ax n cx] 51)).alloc (.cells #[.int .u16 0, .int .u32 0, .int .u32 0, .slice none 0 0] 51)) := ((Below.refl _ w).alloc (Nat.le_refl _) _).alloc (by simp) _
  have hb1 : Below (w.heap.size + 2) ((w.alloc (.cells #[.int .u16 xo, .int .u32 xt, .int .u32 xr, .slice ax n cx] 51)).alloc (.cells #[.int .u16 0, .int .u32 0, .int .u32 0, .slice none 0 0] 51)) w1 := (Below.refl _ _).grown hgrow1 (by simp) (by simp)
  have hbox : w1.heap[w.heap.size]? = some (.cells #[.int .u16 xo, .int .u32 xt, .int .u32 xr, .slice ax n cx] 51 (0, 0)) := (hb1.block w.heap.size (by omega)).trans ((Below.heap_alloc _ _ _ (by simp)).trans (heap_alloc_new w _))
  have hres : w1.heap[w.heap.size + 1]? = some (.cells #[.int .u16 0, .int .u32 0, .int .u32 0, .slice none 0 0] 51 (0, 0)) := (hb1.block (w.heap.size + 1) (by omega)).trans (by simpa using heap_alloc_new (w.alloc (.cells #[.int .u16 xo, .int .u32 xt, .int .u32 xr, .slice ax n cx] 51)) (.cells #[.int .u16 0, .int .u32 0, .int .u32 0, .slice none 0 0] 51))
  have hP1 : PartA w1 (w.heap.size + 2) n 0 xl := by
    refine ⟨?_, fun j hj => by omega⟩
    rcases hown1.2 with ⟨h, _⟩ | ⟨g, cap', cur, h1, h2, h3, h4, h5, h6, _⟩
    · simp at h
    · simp at h1; obtain ⟨rfl, rfl⟩ := h1; exact ⟨cur, h3, h6⟩
  have hbw1 : Below w.heap.size w w1 := hb0.trans (hb1.mono (by omega))
  clear hown1 hgrow1 hb0 hb1
  go_wp2
  go_loopw [4] (fun i wr => ∃ k : Nat, k ≤ n ∧ i = .int .i64 k ∧ PartA wr (w.heap.size + 2) n k xl ∧ wr.heap[w.heap.size]? = some (.cells #[.int .u16 xo, .int .u32 xt, .int .u32 xr, .slice ax n cx] 51 (0, 0)) ∧ wr.heap[w.heap.size + 1]? = some (.cells #[.int .u16 0, .int .u32 0, .int .u32 0, .slice none 0 0] 51 (0, 0)) ∧ Below w.heap.size w wr) (fun i _ => n - (intOf i).toNat)
  case atStart => exact ⟨0, Nat.zero_le _, rfl, hP1, hbox, hres, hbw1⟩
  case round =>
    obtain ⟨k, hk, rfl, hP, hbx, hrs, hnx⟩ := hrel
    clear hP1 hbw1 hbox hres
    have hbc : wr.cell? ⟨w.heap.size, 3, none⟩ = some (.slice ax n cx) := by simp [World.cell?, hbx]
    have hsz := hnx.size
    by_cases hlt : k < n
    · obtain ⟨b, off, rfl, hbs, p1, p2, p3⟩ := hx k (by rw [HL.out]; exact hlt)
      have q1 := (hnx.cell (p := ⟨b, off + k * 3, none⟩) hbs).trans p1
      have q2 := (hnx.cell (p := ⟨b, off + k * 3 + 1, none⟩) hbs).trans p2
      have q3 := (hnx.cell (p := ⟨b, off + k * 3 + 2, none⟩) hbs).trans p3
      obtain ⟨cs, hr1, hr2⟩ := hP.row
      obtain ⟨⟨u0, d0⟩, f0⟩ := cells_can hr1 (k * 3) (by omega)
      obtain ⟨⟨u1, d1⟩, f1⟩ := cells_can hr1 (k * 3 + 1) (by omega)
      obtain ⟨⟨u2, d2⟩, f2⟩ := cells_can hr1 (k * 3 + 2) (by omega)
      have hki : (k : Int) < (n : Int) := by omega
      have hk0 : (0 : Int) ≤ (k : Int) := by omega
      have hP2 := hP.store hlt
      have HX : Hid (wr.heap[w.heap.size]? = some (.cells #[.int .u16 xo, .int .u32 xt, .int .u32 xr, .slice (some ⟨b, off, none⟩) n cx] 51 (0, 0))) := hbx
      have HP2 : Hid _ := hP2
      have HR : Hid _ := hrs
      clear hP2 hP hr1 hr2 p1 p2 p3 hx hbx hrs
      go_wp2
      go_roundw
      case rel => exact ⟨k + 1, by omega, by go_num, HP2.out, setFar3 HX.out (by omega) _ _ _ _ _ _, setFar3 HR.out (by omega) _ _ _ _ _ _, ((hnx.setCell (by show w.heap.size ≤ w.heap.size + 1 + 1; omega) _).setCell (by show w.heap.size ≤ w.heap.size + 1 + 1; omega) _).setCell (by show w.heap.size ≤ w.heap.size + 1 + 1; omega) _⟩
      case measure => simp [intOf]; omega
    · obtain rfl : k = n := by omega
      obtain ⟨hc, hf⟩ := block_cells hbx
      obtain ⟨hc', hf'⟩ := block_cells hrs
      have c0 := hc 0
      have c1 := hc 1
      have c2 := hc 2
      have r0 := hc' 0
      have r1 := hc' 1
      have r2 := hc' 2
      have r3 := hc' 3
      have hV := hP.view HL.out
      have HV : Hid _ := hV
      have HB : Hid _ := hnx
      have HX : Hid _ := hbx
      have HR : Hid _ := hrs
      clear hP hbx hrs hc hc' hx hV hnx
      go_wp2
      have hB4 := four_set (setFar1 HR.out (show w.heap.size + 1 ≠ w.heap.size by omega) 3 (.slice (some ⟨w.heap.size + 1 + 1, 0, none⟩) k k)) (.int .u16 xo) (.int .u32 xt) (.int .u32 xr) (.slice (some ⟨w.heap.size + 1 + 1, 0, none⟩) k k)
      have hBel := (HB.out.setCell (p := ⟨w.heap.size, 3, none⟩) (Nat.le_refl _) (.slice (some ⟨w.heap.size + 1 + 1, 0, none⟩) k k)).trans ((four_below (wr.setCell ⟨w.heap.size, 3, none⟩ (.slice (some ⟨w.heap.size + 1 + 1, 0, none⟩) k k)) (w.heap.size + 1) (.int .u16 xo) (.int .u32 xt) (.int .u32 xr) (.slice (some ⟨w.heap.size + 1 + 1, 0, none⟩) k k)).mono (show w.heap.size ≤ w.heap.size + 1 by omega))
      have hV2 := args_far HV.out (show w.heap.size ≠ w.heap.size + 2 by omega) 3 (.slice (some ⟨w.heap.size + 1 + 1, 0, none⟩) k k)
      have hV3 := args_far (args_far (args_far (args_far hV2 (show w.heap.size + 1 ≠ w.heap.size + 2 by omega) 0 (.int .u16 xo)) (show w.heap.size + 1 ≠ w.heap.size + 2 by omega) 1 (.int .u32 xt)) (show w.heap.size + 1 ≠ w.heap.size + 2 by omega) 2 (.int .u32 xr)) (show w.heap.size + 1 ≠ w.heap.size + 2 by omega) 3 (.slice (some ⟨w.heap.size + 1 + 1, 0, none⟩) k k)
      clear hV2 HV HB HR HX c0 c1 c2 r0 r1 r2 r3 hf hf'
      generalize ((((wr.setCell _ _).setCell _ _).setCell _ _).setCell _ _).setCell _ _ = W at hB4 hBel hV3 ⊢
      obtain ⟨hd, _⟩ := block_cells hB4
      have d0 := hd 0
      have d1 := hd 1
      have d2 := hd 2
      have d3 := hd 3
      refine bodyPost_ret (v := .agg #[.int .u16 xo, .int .u32 xt, .int .u32 xr, .slice (some ⟨w.heap.size + 1 + 1, 0, none⟩) k k]) ?_ rfl ⟨w.heap.size + 1 + 1, rfl, by omega, hV3, hBel⟩
      simp [results, Try.results31, go_sem, d0, d1, d2, d3]

end Go.Proofs.Ytmobologlaeefac

/-
  CopyModule of the kit answers the module in new memory.
-/
namespace Go.Proofs.Ytmobologlaeefac
open Go.RowKit

theorem CopyModule.info : (Try.prog.info? 51).map (fun i => (i.zero, i.size, i.bytes)) = some (some (.agg #[.int .u16 0, .int .u32 0, .int .u32 0, .slice none 0 0]), 4, 40) := by kernel_rfl

/-- The first k instructions lie in the row at g, their arguments in later blocks. -/
structure PartI (w : World) (g n k : Nat) (l : List InstT) : Prop where
  row : ∃ cs : Array Value, w.heap[g]? = some (.cells cs 51 (0, 0)) ∧ cs.size = n * 4
  each : ∀ j, j < k → ∃ gj nj, w.cell? ⟨g, j * 4, none⟩ = some (.int .u16 (nthI l j).1) ∧ w.cell? ⟨g, j * 4 + 1, none⟩ = some (.int .u32 (nthI l j).2.1) ∧ w.cell? ⟨g, j * 4 + 2, none⟩ = some (.int .u32 (nthI l j).2.2.1) ∧ w.cell? ⟨g, j * 4 + 3, none⟩ = some (.slice (some ⟨gj, 0, none⟩) nj nj) ∧
    (nthI l j).2.2.2.length = nj ∧ ArgsV w (some ⟨gj, 0, none⟩) (nthI l j).2.2.2 ∧ g < gj

theorem PartI.below {w w' : World} {g n k : Nat} {l : List InstT} (h : PartI w g n k l) (hb : Below w.heap.size w w') : PartI w' g n k l := by
  obtain ⟨⟨cs, h1, h2⟩, h3⟩ := h
  have hg : g < w.heap.size := (Array.getElem?_eq_some_iff.1 h1).1
  refine ⟨⟨cs, by rw [hb.block g hg]; exact h1, h2⟩, fun j hj => ?_⟩
  obtain ⟨gj, nj, c1, c2, c3, c4, c5, c6, c7⟩ := h3 j hj
  exact ⟨gj, nj, (hb.cell (p := ⟨g, j * 4, none⟩) hg).trans c1, (hb.cell (p := ⟨g, j * 4 + 1, none⟩) hg).trans c2, (hb.cell (p := ⟨g, j * 4 + 2, none⟩) hg).trans c3, (hb.cell (p := ⟨g, j * 4 + 3, none⟩) hg).trans c4, c5, c6.below hb, c7⟩

/-- An instruction is stored. -/
theorem PartI.store {w : World} {g n k : Nat} {l : List InstT} (h : PartI w g n k l) (hk : k < n) (gk nk : Nat) (hl : (nthI l k).2.2.2.length = nk) (hv : ArgsV w (some ⟨gk, 0, none⟩) (nthI l k).2.2.2) (hg : g < gk) :
    PartI ((((w.setCell ⟨g, k * 4, none⟩ (.int .u16 (nthI l k).1)).setCell ⟨g, k * 4 + 1, none⟩ (.int .u32 (nthI l k).2.1)).setCell ⟨g, k * 4 + 2, none⟩ (.int .u32 (nthI l k).2.2.1)).setCell ⟨g, k * 4 + 3, none⟩ (.slice (some ⟨gk, 0, none⟩) nk nk)) g n (k + 1) l := by
  obtain ⟨⟨cs, h1, h2⟩, h3⟩ := h
  obtain ⟨W, hW⟩ : ∃ W, W = (((w.setCell ⟨g, k * 4, none⟩ (.int .u16 (nthI l k).1)).setCell ⟨g, k * 4 + 1, none⟩ (.int .u32 (nthI l k).2.1)).setCell ⟨g, k * 4 + 2, none⟩ (.int .u32 (nthI l k).2.2.1)).setCell ⟨g, k * 4 + 3, none⟩ (.slice (some ⟨gk, 0, none⟩) nk nk) := ⟨_, rfl⟩
  have hb : W.heap[g]? = some (.cells ((((cs.setIfInBounds (k * 4) (.int .u16 (nthI l k).1)).setIfInBounds (k * 4 + 1) (.int .u32 (nthI l k).2.1)).setIfInBounds (k * 4 + 2) (.int .u32 (nthI l k).2.2.1)).setIfInBounds (k * 4 + 3) (.slice (some ⟨gk, 0, none⟩) nk nk)) 51 (0, 0)) := by
    rw [hW]; simp [World.setCell, Array.getElem?_modify, h1]
  have cell : ∀ j, W.cell? ⟨g, j, none⟩ = ((((cs.setIfInBounds (k * 4) (.int .u16 (nthI l k).1)).setIfInBounds (k * 4 + 1) (.int .u32 (nthI l k).2.1)).setIfInBounds (k * 4 + 2) (.int .u32 (nthI l k).2.2.1)).setIfInBounds (k * 4 + 3) (.slice (some ⟨gk, 0, none⟩) nk nk))[j]? := fun j => by
    simp [World.cell?, hb]
  have old : ∀ j, w.cell? ⟨g, j, none⟩ = cs[j]? := fun j => by simp [World.cell?, h1]
  have far : ∀ gj m, g < gj → ArgsV w (some ⟨gj, 0, none⟩) m → ArgsV W (some ⟨gj, 0, none⟩) m := fun gj m hlt hm => by
    rw [hW]
    exact args_far (args_far (args_far (args_far hm (by omega) _ _) (by omega) _ _) (by omega) _ _) (by omega) _ _
  rw [← hW]
  refine ⟨⟨_, hb, by simp [h2]⟩, fun j hj => ?_⟩
  by_cases hjk : j < k
  · obtain ⟨gj, nj, c1, c2, c3, c4, c5, c6, c7⟩ := h3 j hjk
    rw [old] at c1 c2 c3 c4
    refine ⟨gj, nj, ?_, ?_, ?_, ?_, c5, far _ _ c7 c6, c7⟩
    all_goals rw [cell, Array.getElem?_setIfInBounds_ne (by omega), Array.getElem?_setIfInBounds_ne (by omega), Array.getElem?_setIfInBounds_ne (by omega), Array.getElem?_setIfInBounds_ne (by omega)]
    · exact c1
    · exact c2
    · exact c3
    · exact c4
  · obtain rfl : j = k := by omega
    refine ⟨gk, nk, ?_, ?_, ?_, ?_, hl, far _ _ hg hv, hg⟩
    · rw [cell, Array.getElem?_setIfInBounds_ne (by omega), Array.getElem?_setIfInBounds_ne (by omega), Array.getElem?_setIfInBounds_ne (by omega), Array.getElem?_setIfInBounds_self_of_lt (by omega)]
    · rw [cell, Array.getElem?_setIfInBounds_ne (by omega), Array.getElem?_setIfInBounds_ne (by omega), Array.getElem?_setIfInBounds_self_of_lt (by simp; omega)]
    · rw [cell, Array.getElem?_setIfInBounds_ne (by omega), Array.getElem?_setIfInBounds_self_of_lt (by simp; omega)]
    · rw [cell, Array.getElem?_setIfInBounds_self_of_lt (by simp; omega)]

theorem PartI.view {w : World} {g n : Nat} {l : List InstT} (h : PartI w g n n l) (hl : l.length = n) : InstsV w (some ⟨g, 0, none⟩) l := by
  intro j hj
  obtain ⟨gj, nj, c1, c2, c3, c4, c5, c6, c7⟩ := h.each j (by omega)
  exact ⟨g, 0, some ⟨gj, 0, none⟩, nj, nj, rfl, World.block_lt_of_cell? _ _ c1, by rw [Nat.zero_add]; exact c1, by rw [Nat.zero_add]; exact c2, by rw [Nat.zero_add]; exact c3, by rw [Nat.zero_add]; exact c4, c5, c6, Nat.le_refl _⟩

theorem PartI.far {w : World} {g n k : Nat} {l : List InstT} (h : PartI w g n k l) {b : Nat} (hb : b < g) (i : Nat) (v : Value) : PartI (w.setCell ⟨b, i, none⟩ v) g n k l := by
  obtain ⟨⟨cs, h1, h2⟩, h3⟩ := h
  have hx : (w.setCell ⟨b, i, none⟩ v).heap[g]? = w.heap[g]? := Below.heap_setCell _ _ _ _ (by simp; omega)
  have hc : ∀ j, (w.setCell ⟨b, i, none⟩ v).cell? ⟨g, j, none⟩ = w.cell? ⟨g, j, none⟩ := fun j => by simp only [World.cell?, hx]
  refine ⟨⟨cs, by rw [hx]; exact h1, h2⟩, fun j hj => ?_⟩
  obtain ⟨gj, nj, c1, c2, c3, c4, c5, c6, c7⟩ := h3 j hj
  exact ⟨gj, nj, by rw [hc]; exact c1, by rw [hc]; exact c2, by rw [hc]; exact c3, by rw [hc]; exact c4, c5, args_far c6 (by omega) _ _, c7⟩

theorem three_set3 {w : World} {B T : Nat} {z0 z1 z2 : Value} (h : w.heap[B]? = some (.cells #[z0, z1, z2] T (0, 0))) (u0 u1 u2 : Value) :
    (((w.setCell ⟨B, 0, none⟩ u0).setCell ⟨B, 1, none⟩ u1).setCell ⟨B, 2, none⟩ u2).heap[B]? = some (.cells #[u0, u1, u2] T (0, 0)) := by
  simp only [World.setCell, Array.getElem?_modify, h]; simp
theorem three_below3 (w : World) (B : Nat) (u0 u1 u2 : Value) : Below B w (((w.setCell ⟨B, 0, none⟩ u0).setCell ⟨B, 1, none⟩ u1).setCell ⟨B, 2, none⟩ u2) :=
  (((Below.refl B w).setCell (Nat.le_refl _) _).setCell (Nat.le_refl _) _).setCell (Nat.le_refl _) _

set_option maxRecDepth 100000 in
set_option maxHeartbeats 4000000 in
theorem copyModule_any (gen bound : Int) (ax : Option Addr) (n cx : Nat) (l : List InstT) (w : World) (hx : InstsV w ax l) (hok : InstsOk l) (hl : l.length = n) (hn : 40 * n ≤ 140737488351232) :
    Calls Try.prog 10 #[modV gen bound ax n cx] w fun e w' => ∃ g, e = .returned (modV gen bound (some ⟨g, 0, none⟩) n n) ∧ w.heap.size ≤ g ∧ InstsV w' (some ⟨g, 0, none⟩) l ∧ Below w.heap.size w w' := by
  obtain ⟨i0, hi, hz0, hz1, hz2⟩ := info_parts CopyModule.info
  unfold modV
  have HL : Hid (l.length = n) := hl
  clear hl
  go_enter Try.func10, Try.ntmps10
  go_wp2_with (at_make; refine wpList_make_full _ rfl _ _ 23 rfl (w.heap.size + 2) 51 i0 (.agg #[.int .u16 0, .int .u32 0, .int .u32 0, .slice none 0 0]) 4 Try.underlying23 hi hz0 hz1 _ _ _ _ n rfl rfl (by omega) (by omega) (by rw [hz2]; omega) (by unfold maxLen; omega) (by simp) ?_)
  intro w1 hown1 hgrow1
  have hb0 : Below w.heap.size w ((w.alloc (.cells #[.int .u32 gen, .int .u32 bound, .slice ax n cx] 25)).alloc (.cells #[.int .u32 0, .int .u32 0, .slice none 0 0] 25)) := ((Below.refl _ w).alloc (Nat.le_refl _) _).alloc (by simp) _
  have hb1 : Below (w.heap.size + 2) ((w.alloc (.cells #[.int .u32 gen, .int .u32 bound, .slice ax n cx] 25)).alloc (.cells #[.int .u32 0, .int .u32 0, .slice none 0 0] 25)) w1 := (Below.refl _ _).grown hgrow1 (by simp) (by simp)
  have hbox : w1.heap[w.heap.size]? = some (.cells #[.int .u32 gen, .int .u32 bound, .slice ax n cx] 25 (0, 0)) := (hb1.block w.heap.size (by omega)).trans ((Below.heap_alloc _ _ _ (by simp)).trans (heap_alloc_new w _))
  have hres : w1.heap[w.heap.size + 1]? = some (.cells #[.int .u32 0, .int .u32 0, .slice none 0 0] 25 (0, 0)) := (hb1.block (w.heap.size + 1) (by omega)).trans (by simpa using heap_alloc_new (w.alloc (.cells #[.int .u32 gen, .int .u32 bound, .slice ax n cx] 25)) (.cells #[.int .u32 0, .int .u32 0, .slice none 0 0] 25))
  have hP1 : PartI w1 (w.heap.size + 2) n 0 l := by
    refine ⟨?_, fun j hj => by omega⟩
    rcases hown1.2 with ⟨h, _⟩ | ⟨g, cap', cur, h1, h2, h3, h4, h5, h6, _⟩
    · simp at h
    · simp at h1; obtain ⟨rfl, rfl⟩ := h1; exact ⟨cur, h3, h6⟩
  have hbw1 : Below w.heap.size w w1 := hb0.trans (hb1.mono (by omega))
  clear hown1 hgrow1 hb0 hb1
  go_wp2
  go_loopw [4] (fun i wr => ∃ k : Nat, k ≤ n ∧ i = .int .i64 k ∧ PartI wr (w.heap.size + 2) n k l ∧ wr.heap[w.heap.size]? = some (.cells #[.int .u32 gen, .int .u32 bound, .slice ax n cx] 25 (0, 0)) ∧ wr.heap[w.heap.size + 1]? = some (.cells #[.int .u32 0, .int .u32 0, .slice none 0 0] 25 (0, 0)) ∧ Below w.heap.size w wr) (fun i _ => n - (intOf i).toNat)
  case atStart => exact ⟨0, Nat.zero_le _, rfl, hP1, hbox, hres, hbw1⟩
  case round =>
    obtain ⟨k, hk, rfl, hP, hbx, hrs, hnx⟩ := hrel
    clear hP1 hbw1 hbox hres
    have hbc : wr.cell? ⟨w.heap.size, 2, none⟩ = some (.slice ax n cx) := by simp [World.cell?, hbx]
    have hsz := hnx.size
    by_cases hlt : k < n
    · obtain ⟨b, off, aj, cj, nj, rfl, hbs, p1, p2, p3, p4, p5, p6, _⟩ := hx k (by rw [HL.out]; exact hlt)
      have q1 := (hnx.cell (p := ⟨b, off + k * 4, none⟩) hbs).trans p1
      have q2 := (hnx.cell (p := ⟨b, off + k * 4 + 1, none⟩) hbs).trans p2
      have q3 := (hnx.cell (p := ⟨b, off + k * 4 + 2, none⟩) hbs).trans p3
      have q4 := (hnx.cell (p := ⟨b, off + k * 4 + 3, none⟩) hbs).trans p4
      obtain ⟨cs, hr1, hr2⟩ := hP.row
      have hgl : w.heap.size + 1 + 1 < wr.heap.size := (Array.getElem?_eq_some_iff.1 hr1).1
      obtain ⟨⟨u0, d0⟩, f0⟩ := cells_can hr1 (k * 4) (by omega)
      obtain ⟨⟨u1, d1⟩, f1⟩ := cells_can hr1 (k * 4 + 1) (by omega)
      obtain ⟨⟨u2, d2⟩, f2⟩ := cells_can hr1 (k * 4 + 2) (by omega)
      obtain ⟨⟨u3, d3⟩, f3⟩ := cells_can hr1 (k * 4 + 3) (by omega)
      have hki : (k : Int) < (n : Int) := by omega
      have hk0 : (0 : Int) ≤ (k : Int) := by omega
      have s1 := (hok k (by rw [HL.out]; exact hlt)).2.2.2.2.2.2.2
      rw [p5] at s1
      have hC := fun wx (hb : Below wr.heap.size wr wx) => copyInst_any (nthI l k) aj nj cj wx ((p6.below hnx).below hb) p5 s1
      unfold instV at hC
      have hbs' : b < wr.heap.size := by omega
      have HX : Hid (wr.heap[w.heap.size]? = some (.cells #[.int .u32 gen, .int .u32 bound, .slice (some ⟨b, off, none⟩) n cx] 25 (0, 0))) := hbx
      have HR : Hid _ := hrs
      have HP : Hid (PartI wr (w.heap.size + 2) n k l) := hP
      have HV3 : Hid ((nthI l k).2.2.2.length = nj) := p5
      clear p1 p2 p3 p4 p5 p6 hr1 hr2 hP hx hok hbx hrs s1
      go_wp2_with fail
      refine (hC _ (Below.refl _ _)).mono ?_
      rintro e w' ⟨g', rfl, hg', hvC, hbC⟩
      have e1 := (hbC.cell (p := ⟨w.heap.size + 1 + 1, k * 4, none⟩) (by exact hgl)).trans d0
      have e2 := (hbC.cell (p := ⟨w.heap.size + 1 + 1, k * 4 + 1, none⟩) (by exact hgl)).trans d1
      have e3 := (hbC.cell (p := ⟨w.heap.size + 1 + 1, k * 4 + 2, none⟩) (by exact hgl)).trans d2
      have e4 := (hbC.cell (p := ⟨w.heap.size + 1 + 1, k * 4 + 3, none⟩) (by exact hgl)).trans d3
      have e5 := (hbC.frozen (p := ⟨w.heap.size + 1 + 1, k * 4, none⟩) (by exact hgl)).trans f0
      have e6 := (hbC.frozen (p := ⟨w.heap.size + 1 + 1, k * 4 + 1, none⟩) (by exact hgl)).trans f1
      have e7 := (hbC.frozen (p := ⟨w.heap.size + 1 + 1, k * 4 + 2, none⟩) (by exact hgl)).trans f2
      have e8 := (hbC.frozen (p := ⟨w.heap.size + 1 + 1, k * 4 + 3, none⟩) (by exact hgl)).trans f3
      have hP2 := (HP.out.below hbC).store hlt g' nj HV3.out hvC (by omega)
      have hX2 := (hbC.block w.heap.size (by omega)).trans HX.out
      have hR2 := (hbC.block (w.heap.size + 1) (by omega)).trans HR.out
      have hB2 := hnx.trans (hbC.mono hsz)
      have HP2 : Hid _ := hP2
      have HX2 : Hid _ := hX2
      have HR2 : Hid _ := hR2
      have HB2 : Hid _ := hB2
      clear hP2 hX2 hR2 hB2 hvC hbC HP HX HR d0 d1 d2 d3 f0 f1 f2 f3 hC
      go_wp2
      go_roundw
      case rel => exact ⟨k + 1, by omega, by go_num, HP2.out, setFar1 (setFar3 HX2.out (by omega) _ _ _ _ _ _) (by omega) _ _, setFar1 (setFar3 HR2.out (by omega) _ _ _ _ _ _) (by omega) _ _, (((HB2.out.setCell (by show w.heap.size ≤ w.heap.size + 1 + 1; omega) _).setCell (by show w.heap.size ≤ w.heap.size + 1 + 1; omega) _).setCell (by show w.heap.size ≤ w.heap.size + 1 + 1; omega) _).setCell (by show w.heap.size ≤ w.heap.size + 1 + 1; omega) _⟩
      case measure => simp [intOf]; omega
    · obtain rfl : k = n := by omega
      obtain ⟨hc, hf⟩ := block_cells hbx
      obtain ⟨hc', hf'⟩ := block_cells hrs
      have c0 := hc 0
      have c1 := hc 1
      have r0 := hc' 0
      have r1 := hc' 1
      have r2 := hc' 2
      have HP : Hid _ := hP
      have HB : Hid _ := hnx
      have HX : Hid _ := hbx
      have HR : Hid _ := hrs
      clear hP hbx hrs hc hc' hx hnx
      go_wp2
      have hB3 := three_set3 (setFar1 HR.out (show w.heap.size + 1 ≠ w.heap.size by omega) 2 (.slice (some ⟨w.heap.size + 1 + 1, 0, none⟩) k k)) (.int .u32 gen) (.int .u32 bound) (.slice (some ⟨w.heap.size + 1 + 1, 0, none⟩) k k)
      have hBel := (HB.out.setCell (p := ⟨w.heap.size, 2, none⟩) (Nat.le_refl _) (.slice (some ⟨w.heap.size + 1 + 1, 0, none⟩) k k)).trans ((three_below3 (wr.setCell ⟨w.heap.size, 2, none⟩ (.slice (some ⟨w.heap.size + 1 + 1, 0, none⟩) k k)) (w.heap.size + 1) (.int .u32 gen) (.int .u32 bound) (.slice (some ⟨w.heap.size + 1 + 1, 0, none⟩) k k)).mono (show w.heap.size ≤ w.heap.size + 1 by omega))
      have hV3 := (((((HP.out.far (b := w.heap.size) (by omega) 2 (.slice (some ⟨w.heap.size + 1 + 1, 0, none⟩) k k)).far (b := w.heap.size + 1) (by omega) 0 (.int .u32 gen)).far (b := w.heap.size + 1) (by omega) 1 (.int .u32 bound)).far (b := w.heap.size + 1) (by omega) 2 (.slice (some ⟨w.heap.size + 1 + 1, 0, none⟩) k k))).view HL.out
      clear HP HB HR HX c0 c1 r0 r1 r2 hf hf'
      generalize (((wr.setCell _ _).setCell _ _).setCell _ _).setCell _ _ = W at hB3 hBel hV3 ⊢
      obtain ⟨hd, _⟩ := block_cells hB3
      have d0 := hd 0
      have d1 := hd 1
      have d2 := hd 2
      refine bodyPost_ret (v := .agg #[.int .u32 gen, .int .u32 bound, .slice (some ⟨w.heap.size + 1 + 1, 0, none⟩) k k]) ?_ rfl ⟨w.heap.size + 1 + 1, rfl, by omega, hV3, hBel⟩
      simp [results, Try.results10, go_sem, d0, d1, d2]

end Go.Proofs.Ytmobologlaeefac

/-
  Ints of the kit answers true of two lists that are the same.
-/
namespace Go.Proofs.Ytmobologlaeefac
open Go.RowKit
set_option maxRecDepth 10000

set_option maxHeartbeats 400000 in
theorem ints_true (a b : Option Addr) (n ca cb : Nat) (zs : List Int) (w : World) (ha : View .i64 w a zs) (hb : View .i64 w b zs) (hl : zs.length = n) (hn : n ≤ 140737488351232) :
    Calls Try.prog 11 #[.slice a n ca, .slice b n cb] w fun e w' => e = .returned (.bool true) ∧ ∃ q, w' = w.drewN q := by
  have HL : Hid (zs.length = n) := hl
  clear hl
  go_enter Try.func11, Try.ntmps11
  go_wp2
  go_loopw [5] (fun i wr => ∃ k q : Nat, k ≤ n ∧ i = .int .i64 k ∧ wr = w.drewN q) (fun i _ => n - (intOf i).toNat)
  case atStart => exact ⟨0, 0, Nat.zero_le _, rfl, rfl⟩
  case round =>
    obtain ⟨k, q, hk, rfl, rfl⟩ := hrel
    by_cases hlt : k < n
    · obtain ⟨b1, o1, rfl, _, c1⟩ := ha k (by rw [HL.out]; exact hlt)
      obtain ⟨b2, o2, rfl, _, c2⟩ := hb k (by rw [HL.out]; exact hlt)
      have hk0 : (0 : Int) ≤ (k : Int) := by omega
      have hki : (k : Int) < (n : Int) := by omega
      clear ha hb
      go_wp2
      go_quiet (fail)
      go_wp2
      go_roundw
      case rel => exact ⟨k + 1, _, by omega, by go_num, rfl⟩
      case measure => simp [intOf]; omega
    · go_wp2
      go_ret
      exact ⟨rfl, q, rfl⟩

end Go.Proofs.Ytmobologlaeefac
