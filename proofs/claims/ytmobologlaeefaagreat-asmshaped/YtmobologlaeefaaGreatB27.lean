/-
  Texts laid together in one: CodeEncode, LawAsmShaped.
-/
import Derived.WalkSpells
import Derived.WalkMore
import Derived.BigRegion
import Derived.Deep.RegionWith
import Derived.Deep.DrawnRows
import Derived.Test.YtmobologlaeefaaGreatB26
import Derived.Test.YtmobologlaeefaaGreatB19
import Derived.Test.YtmobologlaeefaaGreatProg
import Derived.Test.YtmobologlaeefaaGreatB25
import Derived.Test.YtmobologlaeefaaGreatB24
/-
  What Shape and Encode of the package code answer, for every module.
-/
namespace Go.Proofs.YtmobologlaeefaaGreat
open Go.RowKit
set_option linter.unusedVariables false
set_option linter.unusedSimpArgs false
set_option maxRecDepth 10000

/-- A module's bytes. -/
def encW (gen b : Int) (l : List InstT) : List Int := writeTo gen b (rawsL b l) l.length
def encL (gen b : Int) (l : List InstT) : List Int := if (shapeE b l).1 = 0 then joinL (encW gen b l) else []

theorem encW_within {gen b : Int} {l : List InstT} (hg0 : 0 ≤ gen) (hg1 : gen < 4294967296) (hb0 : 0 ≤ b) (hb1 : b < 4294967296) (hok : InstsOk l) : Within 4294967296 (encW gen b l) := by
  have := writeTo_within gen b hg0 hg1 hb0 hb1 (rawsL b l) (rawsL_ok b hok) (fun j hj => by rw [rawsL_len] at hj; rw [nthR_raws b l j hj]; exact rawWs_len _ _)
  rw [rawsL_len] at this
  exact this
theorem encW_len {gen b : Int} {l : List InstT} (h : (shapeE b l).1 = 0) : (encW gen b l).length ≤ 1048576 ∧ 5 ≤ (encW gen b l).length := by
  have h1 := writeTo_len gen b (rawsL b l) l.length (by rw [rawsL_len]; exact Nat.le_refl _)
  have h2 := shape_few h
  have h3 := sizeTo_ge (rawsL b l) l.length (by rw [rawsL_len]; exact Nat.le_refl _)
  unfold encW
  omega

set_option maxHeartbeats 2000000 in
theorem codeShape_any (gen bound : Int) (a : Option Addr) (n cap : Nat) (l : List InstT) (w : World) (hg0 : 0 ≤ gen) (hg1 : gen < 4294967296) (hb0 : 0 ≤ bound) (hb1 : bound < 4294967296) (hv : InstsV w a l) (hok : InstsOk l) (hl : l.length = n) (hn : 40 * n ≤ 140737488351232) :
    Calls Tryz.prog 11 #[modV gen bound a n cap] w fun e w' => e = .returned (.agg #[.int .i64 (shapeE bound l).1, .int .i64 (shapeE bound l).2]) ∧ Below w.heap.size w w' := by
  have hR := fun wx (hb : Below w.heap.size w wx) => raws_any gen bound a n cap l wx hg0 hg1 hb0 hb1 (hv.below hb) hok hl hn
  generalize (shapeE bound l).1 = e1 at *
  generalize (shapeE bound l).2 = e2 at *
  have HL : Hid (l.length = n) := hl
  unfold modV at *
  clear hv hok hl
  have hB0 : Below w.heap.size w ((w.alloc (.cells #[.int .u32 gen, .int .u32 bound, .slice a n cap] 25)).alloc (.cells #[.int .i64 0, .int .i64 0] 28)) := ((Below.refl _ w).alloc (Nat.le_refl _) _).alloc (by simp) _
  have hC := hR _ hB0
  have kX : ((w.alloc (.cells #[.int .u32 gen, .int .u32 bound, .slice a n cap] 25)).alloc (.cells #[.int .i64 0, .int .i64 0] 28)).heap[w.heap.size + 1]? = some (.cells #[.int .i64 0, .int .i64 0] 28 (0, 0)) := by simpa using alloc_new (w.alloc (.cells #[.int .u32 gen, .int .u32 bound, .slice a n cap] 25)) #[.int .i64 0, .int .i64 0] 28
  have HB0 : Hid _ := hB0
  have HX : Hid _ := kX
  clear hR hB0 kX
  go_enter Tryz.func11, Tryz.ntmps11
  go_wp2_with fail
  have hB0 := HB0.out
  have kX := HX.out
  clear HB0 HX
  generalize (w.alloc (.cells #[.int .u32 gen, .int .u32 bound, .slice a n cap] 25)).alloc (.cells #[.int .i64 0, .int .i64 0] 28) = W0 at *
  refine hC.mono ?_
  rintro e w1 ⟨hb1', ax, cx, m, rfl, hm, _, hV1⟩
  have l0 := (Array.getElem?_eq_some_iff.1 kX).1
  have s1 := hb1'.size
  have hb2 : Below W0.heap.size W0 (w1.alloc (.cells #[.int .i64 e1, .int .i64 e2] 28)) := hb1'.alloc s1 _
  have kX2 := (hb2.block _ l0).trans kX
  obtain ⟨d0, d1, _⟩ := cell_of_two (alloc_new w1 #[.int .i64 e1, .int .i64 e2] 28)
  obtain ⟨hcX, hfX⟩ := one_block kX2
  have c0 := hcX 0
  have c1 := hcX 1
  have f0 := hfX 0
  have f1 := hfX 1
  have hBel := hB0.trans (hb2.mono hB0.size)
  have hB3 := two_put2 kX2 (.int .i64 e1) (.int .i64 e2)
  have hBel2 := hBel.trans ((two_below (w1.alloc (.cells #[.int .i64 e1, .int .i64 e2] 28)) (w.heap.size + 1) (.int .i64 e1) (.int .i64 e2)).mono (by omega))
  have HB3 : Hid _ := hB3
  have HBel2 : Hid _ := hBel2
  have hne : w1.heap.size ≠ w.heap.size + 1 := by omega
  clear hC hb1' hb2 kX kX2 hcX hfX hB0 hBel hB3 hBel2 hV1 hm
  go_wp2
  have hB3 := HB3.out
  have hBel := HBel2.out
  clear HB3 HBel2 c0 c1 f0 f1 d0 d1
  generalize ((w1.alloc _).setCell _ _).setCell _ _ = W at hB3 hBel ⊢
  obtain ⟨hd, _⟩ := one_block hB3
  have d0 := hd 0
  have d1 := hd 1
  refine bodyPost_ret (v := .agg #[.int .i64 e1, .int .i64 e2]) ?_ rfl ⟨rfl, hBel⟩
  simp [results, Tryz.results11, go_sem, d0, d1]

set_option maxHeartbeats 4000000 in
/-- Of a module that is not of good shape. -/
theorem encode_bad (gen bound : Int) (a : Option Addr) (n cap : Nat) (l : List InstT) (w : World) (hg0 : 0 ≤ gen) (hg1 : gen < 4294967296) (hb0 : 0 ≤ bound) (hb1 : bound < 4294967296) (hv : InstsV w a l) (hok : InstsOk l) (hl : l.length = n) (hn : 40 * n ≤ 140737488351232) (he : (shapeE bound l).1 ≠ 0) :
    Calls Tryz.prog 45 #[modV gen bound a n cap] w fun e w' => e = .returned (.tuple #[.slice none 0 0, .agg #[.int .i64 (shapeE bound l).1, .int .i64 (shapeE bound l).2]]) ∧ Below w.heap.size w w' := by
  have hR := fun wx (hb : Below w.heap.size w wx) => raws_any gen bound a n cap l wx hg0 hg1 hb0 hb1 (hv.below hb) hok hl hn
  have heb : ((shapeE bound l).1 == 0) = false := by simpa using he
  generalize (shapeE bound l).1 = e1 at *
  generalize (shapeE bound l).2 = e2 at *
  have HL : Hid (l.length = n) := hl
  unfold modV at *
  clear hv hok hl he
  have hB0 : Below w.heap.size w ((w.alloc (.cells #[.int .u32 gen, .int .u32 bound, .slice a n cap] 25)).alloc (.cells #[.int .i64 0, .int .i64 0] 28)) := ((Below.refl _ w).alloc (Nat.le_refl _) _).alloc (by simp) _
  have hC := hR _ hB0
  have kX : ((w.alloc (.cells #[.int .u32 gen, .int .u32 bound, .slice a n cap] 25)).alloc (.cells #[.int .i64 0, .int .i64 0] 28)).heap[w.heap.size + 1]? = some (.cells #[.int .i64 0, .int .i64 0] 28 (0, 0)) := by simpa using alloc_new (w.alloc (.cells #[.int .u32 gen, .int .u32 bound, .slice a n cap] 25)) #[.int .i64 0, .int .i64 0] 28
  have HB0 : Hid _ := hB0
  have HX : Hid _ := kX
  clear hR hB0 kX
  go_enter Tryz.func45, Tryz.ntmps45
  go_wp2_with fail
  have hB0 := HB0.out
  have kX := HX.out
  clear HB0 HX
  generalize (w.alloc (.cells #[.int .u32 gen, .int .u32 bound, .slice a n cap] 25)).alloc (.cells #[.int .i64 0, .int .i64 0] 28) = W0 at *
  refine hC.mono ?_
  rintro e w1 ⟨hb1', ax, cx, m, rfl, hm, _, hV1⟩
  have l0 := (Array.getElem?_eq_some_iff.1 kX).1
  have s1 := hb1'.size
  have hb2 : Below W0.heap.size W0 (w1.alloc (.cells #[.int .i64 e1, .int .i64 e2] 28)) := hb1'.alloc s1 _
  have kX2 := (hb2.block _ l0).trans kX
  obtain ⟨d0, d1, _⟩ := cell_of_two (alloc_new w1 #[.int .i64 e1, .int .i64 e2] 28)
  obtain ⟨hcX, hfX⟩ := one_block kX2
  have c0 := hcX 0
  have c1 := hcX 1
  have f0 := hfX 0
  have f1 := hfX 1
  have hBel := hB0.trans (hb2.mono hB0.size)
  have hB3 := two_put2 kX2 (.int .i64 e1) (.int .i64 e2)
  have hBel2 := (hBel.trans ((two_below (w1.alloc (.cells #[.int .i64 e1, .int .i64 e2] 28)) (w.heap.size + 1) (.int .i64 e1) (.int .i64 e2)).mono (by omega))).drew
  have HB3 : Hid _ := hB3
  have HBel2 : Hid _ := hBel2
  have hne : w1.heap.size ≠ w.heap.size + 1 := by omega
  clear hC hb1' hb2 kX kX2 hcX hfX hB0 hBel hB3 hBel2 hV1 hm
  go_wp2
  go_region
  go_wp2
  have hB3 : ((((w1.alloc (.cells #[.int .i64 e1, .int .i64 e2] 28)).setCell ⟨w.heap.size + 1, 0, none⟩ (.int .i64 e1)).setCell ⟨w.heap.size + 1, 1, none⟩ (.int .i64 e2)).drew).heap[w.heap.size + 1]? = some (.cells #[.int .i64 e1, .int .i64 e2] 28 (0, 0)) := HB3.out
  have hBel := HBel2.out
  clear HB3 HBel2 c0 c1 f0 f1 d0 d1
  generalize (((w1.alloc _).setCell _ _).setCell _ _).drew = W at hB3 hBel ⊢
  obtain ⟨hd, _⟩ := one_block hB3
  have d0 := hd 0
  have d1 := hd 1
  refine bodyPost_ret (v := .tuple #[.slice none 0 0, .agg #[.int .i64 e1, .int .i64 e2]]) ?_ rfl ⟨rfl, hBel⟩
  simp [results, Tryz.results45, go_sem, d0, d1]

set_option maxHeartbeats 4000000 in
/-- Of a module of good shape. -/
theorem encode_ok (gen bound : Int) (a : Option Addr) (n cap : Nat) (l : List InstT) (w : World) (hg0 : 0 ≤ gen) (hg1 : gen < 4294967296) (hb0 : 0 ≤ bound) (hb1 : bound < 4294967296) (hv : InstsV w a l) (hok : InstsOk l) (hl : l.length = n) (hn : 40 * n ≤ 140737488351232) (he : shapeE bound l = (0, 0)) :
    Calls Tryz.prog 45 #[modV gen bound a n cap] w fun e w' => Below w.heap.size w w' ∧ ∃ g m, e = .returned (.tuple #[.slice (some ⟨g, 0, none⟩) m m, .agg #[.int .i64 0, .int .i64 0]]) ∧ (joinL (encW gen bound l)).length = m ∧ w'.ownsRow w.heap.size 5 1 (.slice (some ⟨g, 0, none⟩) m m) m ((joinL (encW gen bound l)).map (Value.int .u8)) := by
  have hR := fun wx (hb : Below w.heap.size w wx) => raws_any gen bound a n cap l wx hg0 hg1 hb0 hb1 (hv.below hb) hok hl hn
  have eR : rawsR bound l = rawsL bound l := by unfold rawsR; rw [he, if_pos rfl]
  have h0 : (shapeE bound l).1 = 0 := by rw [he]
  have eW : writeE bound (rawsL bound l) = (0, 0) := by
    obtain ⟨h1, h2⟩ := shape_bound h0
    unfold writeE
    rw [if_neg (by rintro (h | h)
                   · exact h1 h
                   · exact h2 h), fault_shape h0]
  have eL : writeL gen bound (rawsL bound l) = encW gen bound l := by unfold writeL encW; rw [eW, if_pos rfl, rawsL_len]
  have hfew := shape_few h0
  have hwl := encW_len (gen := gen) h0
  have hww := encW_within (l := l) hg0 hg1 hb0 hb1 hok
  rw [he, eR] at hR
  have hH := fun w => headOf_any gen bound a n cap w
  have hWr := fun ax m cx wx (h1 : RawsV wx ax (rawsL bound l)) (h2 : l.length = m) (h3 : m ≤ cx) => writeC gen bound ax m cx (rawsL bound l) wx hg0 hg1 hb0 hb1 h1 (rawsL_ok bound hok) (by rw [rawsL_len]; exact h2) (by omega) h3
  rw [eW, eL] at hWr
  have hrl := rawsL_len bound l
  have hJ := fun ax m cx wx (h1 : View .u32 wx ax (encW gen bound l)) (h2 : (encW gen bound l).length = m) => join_any ax m cx (encW gen bound l) wx h1 h2 (by omega) hww
  have hjl := joinL_len (encW gen bound l)
  have HJL : Hid _ := hjl
  have HRL : Hid _ := hrl
  have HWL : Hid _ := hwl
  clear he eR h0 eW eL hww hfew hjl hrl hwl
  have HL : Hid (l.length = n) := hl
  clear hv hok hl
  generalize rawsL bound l = rs at *
  generalize encW gen bound l = ws at *
  unfold modV at *
  have hB0 : Below w.heap.size w ((w.alloc (.cells #[.int .u32 gen, .int .u32 bound, .slice a n cap] 25)).alloc (.cells #[.int .i64 0, .int .i64 0] 28)) := ((Below.refl _ w).alloc (Nat.le_refl _) _).alloc (by simp) _
  have hC := hR _ hB0
  have kX : ((w.alloc (.cells #[.int .u32 gen, .int .u32 bound, .slice a n cap] 25)).alloc (.cells #[.int .i64 0, .int .i64 0] 28)).heap[w.heap.size + 1]? = some (.cells #[.int .i64 0, .int .i64 0] 28 (0, 0)) := by simpa using alloc_new (w.alloc (.cells #[.int .u32 gen, .int .u32 bound, .slice a n cap] 25)) #[.int .i64 0, .int .i64 0] 28
  have kM : ((w.alloc (.cells #[.int .u32 gen, .int .u32 bound, .slice a n cap] 25)).alloc (.cells #[.int .i64 0, .int .i64 0] 28)).heap[w.heap.size]? = some (.cells #[.int .u32 gen, .int .u32 bound, .slice a n cap] 25 (0, 0)) := (Below.heap_alloc _ _ _ (by simp)).trans (alloc_new w _ _)
  have HB0 : Hid _ := hB0
  have HX : Hid _ := kX
  have HM : Hid _ := kM
  clear hR hB0 kX kM
  go_enter Tryz.func45, Tryz.ntmps45
  go_wp2_with fail
  have hB0 := HB0.out
  have kX := HX.out
  have kM := HM.out
  clear HB0 HX HM
  generalize (w.alloc (.cells #[.int .u32 gen, .int .u32 bound, .slice a n cap] 25)).alloc (.cells #[.int .i64 0, .int .i64 0] 28) = W0 at *
  refine hC.mono ?_
  rintro e w1 ⟨hb1', ax, cx, m, rfl, hm, hmc, hV1⟩
  have l0 := (Array.getElem?_eq_some_iff.1 kX).1
  have s1 := hb1'.size
  have hb2 : Below W0.heap.size W0 (w1.alloc (.cells #[.int .i64 0, .int .i64 0] 28)) := hb1'.alloc s1 _
  have kX2 := (hb2.block _ l0).trans kX
  have kM2 := (hb2.block _ (by omega)).trans kM
  have kS2 := alloc_new w1 #[.int .i64 0, .int .i64 0] 28
  have hV2 := hV1.below ((Below.refl _ w1).alloc (Nat.le_refl _) (.cells #[.int .i64 0, .int .i64 0] 28))
  obtain ⟨d0, d1, _⟩ := cell_of_two kS2
  obtain ⟨hcM, _⟩ := one_block kM2
  have m0 := hcM 0
  have m1 := hcM 1
  have m2 := hcM 2
  have hBel := hB0.trans (hb2.mono hB0.size)
  have sW : w1.heap.size < (w1.alloc (.cells #[.int .i64 0, .int .i64 0] 28)).heap.size := by simp
  have HV2 : Hid (RawsV _ ax rs) := hV2
  have HX2 : Hid _ := kX2
  have HS2 : Hid _ := kS2
  have HBel : Hid _ := hBel
  have HMM : Hid _ := hm
  have HMC : Hid _ := hmc
  clear hC hb1' hb2 kX kX2 kM kM2 hcM hB0 hV1 hV2 kS2 hBel hm hmc
  go_wp2_with fail
  have hV2 := HV2.out
  have kX2 := HX2.out
  have kS2 := HS2.out
  have hBel := HBel.out
  clear HV2 HX2 HS2 HBel d0 d1 m0 m1 m2
  generalize w1.alloc (.cells #[.int .i64 0, .int .i64 0] 28) = W2 at *
  refine (hH _).mono ?_
  rintro e w3 ⟨rfl, hb3⟩
  have s3 := hb3.size
  have hV3 := hV2.below hb3
  have kX3 := (hb3.block _ (by omega)).trans kX2
  have kS3 := (hb3.block _ sW).trans kS2
  have hBel3 := hBel.trans (hb3.mono hBel.size)
  have hC2 := hWr ax m cx w3 hV3 (by rw [← HRL.out, HMM.out]) HMC.out
  clear hH hWr hb3 hV2 kX2 kS2 hBel hV3
  go_wp2_with fail
  refine hC2.mono ?_
  rintro e w4 ⟨hb4, ay, cy, m4, rfl, hm4, hown4⟩
  have s4 := hb4.size
  have kX4 := (hb4.block _ (by omega)).trans kX3
  have kS4 := (hb4.block _ (by omega)).trans kS3
  have hBel4 := hBel3.trans (hb4.mono hBel3.size)
  obtain ⟨hcS, hfS⟩ := one_block kS4
  have c0 := hcS 0
  have c1 := hcS 1
  have f0 := hfS 0
  have f1 := hfS 1
  have kS5 := two_put2 kS4 (.int .i64 0) (.int .i64 0)
  have kX5 : ((w4.setCell ⟨w1.heap.size, 0, none⟩ (.int .i64 0)).setCell ⟨w1.heap.size, 1, none⟩ (.int .i64 0)).heap[w.heap.size + 1]? = some (.cells #[.int .i64 0, .int .i64 0] 28 (0, 0)) := (Below.heap_setCell _ _ _ _ (by simp; omega)).trans ((Below.heap_setCell _ _ _ _ (by simp; omega)).trans kX4)
  have hBel5 := hBel4.trans ((two_below w4 w1.heap.size (.int .i64 0) (.int .i64 0)).mono (by omega))
  have hown5 := ownFar (ownFar hown4 (show w1.heap.size < w3.heap.size by omega) 0 (.int .i64 0)) (show w1.heap.size < w3.heap.size by omega) 1 (.int .i64 0)
  have hV5 := View.ofOwn hown5 hm4
  have HS5 : Hid _ := kS5
  have HX5 : Hid _ := kX5
  have HBel5 : Hid _ := hBel5
  have HV5 : Hid (View .u32 _ ay ws) := hV5
  have HM4 : Hid _ := hm4
  clear hC2 hb4 hBel3 hBel4 kX3 kX4 kS3 kS4 hcS hfS hown4 hown5 hV5 kS5 kX5 hBel5 hm4
  have hz : ((0 : Nat) : Int) = 0 := rfl
  go_wp2_with fail
  have kS5 := HS5.out
  have kX5 := HX5.out
  have hBel5 := HBel5.out
  have hV5 := HV5.out
  clear HS5 HX5 HBel5 HV5 c0 c1 f0 f1
  generalize (w4.setCell ⟨w1.heap.size, 0, none⟩ (.int .i64 0)).setCell ⟨w1.heap.size, 1, none⟩ (.int .i64 0) = X at *
  have lX := (Array.getElem?_eq_some_iff.1 kX5).1
  have lS := (Array.getElem?_eq_some_iff.1 kS5).1
  have hJ2 := fun wx (hb : Below X.heap.size X wx) => hJ ay m4 cy wx (hV5.below hb) HM4.out
  obtain ⟨y0, y1, _⟩ := cell_of_two kS5
  have hBd : Below X.heap.size X X.drew := below_drew X
  have HX5 : Hid _ := kX5
  have HBel5 : Hid _ := hBel5
  clear hJ hV5 kX5 hBel5
  go_region_with (go_at_call 83; refine (hJ2 _ (by first | exact Below.refl _ _ | exact (Below.refl _ _).drew)).mono ?_; rintro e w5 ⟨rfl, hown5, hb5⟩; obtain ⟨z0, z1, _⟩ := cell_of_two ((hb5.block _ (by exact lS)).trans kS5); obtain ⟨hcX, hfX⟩ := one_block ((hb5.block _ (by exact lX)).trans HX5.out); have x0 := hcX 0; have x1 := hcX 1; have g0 := hfX 0; have g1 := hfX 1)
  all_goals
    have hB3 := two_put2 ((hb5.block _ (by exact lX)).trans HX5.out) (.int .i64 0) (.int .i64 0)
    have hBw := HBel5.out.trans ((hBd.trans hb5).mono HBel5.out.size)
    have hBel := hBw.trans ((two_below w5 (w.heap.size + 1) (.int .i64 0) (.int .i64 0)).mono (by omega))
    have hO3 := own_lo (ownFar (ownFar hown5 (show w.heap.size + 1 < X.drew.heap.size from lX) 0 (.int .i64 0)) (show w.heap.size + 1 < X.drew.heap.size from lX) 1 (.int .i64 0)) (show w.heap.size ≤ X.drew.heap.size from HBel5.out.size)
    have HB3 : Hid _ := hB3
    have HBE : Hid _ := hBel
    have HO3 : Hid _ := hO3
    clear hB3 hBw hBel hO3 hown5 hb5 y0 y1 z0 z1 x0 x1 g0 g1 hcX hfX kS5 HX5 HBel5 hJ2 hBd
    go_wp2
    have hB3 := HB3.out
    have hBel := HBE.out
    have hO3 := HO3.out
    generalize (w5.setCell ⟨w.heap.size + 1, 0, none⟩ (.int .i64 0)).setCell ⟨w.heap.size + 1, 1, none⟩ (.int .i64 0) = Y at hB3 hBel hO3 ⊢
    obtain ⟨hd, _⟩ := one_block hB3
    have d0 := hd 0
    have d1 := hd 1
    refine bodyPost_ret (v := .tuple #[.slice (some ⟨X.heap.size, 0, none⟩) (4 * m4) (4 * m4), .agg #[.int .i64 0, .int .i64 0]]) ?_ rfl ⟨hBel, X.heap.size, 4 * m4, rfl, by rw [HJL.out, HM4.out], hO3⟩
    simp [results, Tryz.results45, go_sem, d0, d1]

/-- Encode, of every module. -/
theorem encode_any (gen bound : Int) (a : Option Addr) (n cap : Nat) (l : List InstT) (w : World) (hg0 : 0 ≤ gen) (hg1 : gen < 4294967296) (hb0 : 0 ≤ bound) (hb1 : bound < 4294967296) (hv : InstsV w a l) (hok : InstsOk l) (hl : l.length = n) (hn : 40 * n ≤ 140737488351232) :
    Calls Tryz.prog 45 #[modV gen bound a n cap] w fun e w' => Below w.heap.size w w' ∧ ∃ ax m, e = .returned (.tuple #[.slice ax m m, .agg #[.int .i64 (shapeE bound l).1, .int .i64 (shapeE bound l).2]]) ∧ (encL gen bound l).length = m ∧ w'.ownsRow w.heap.size 5 1 (.slice ax m m) m ((encL gen bound l).map (Value.int .u8)) := by
  rcases shapeE_any bound l with h | h
  · refine (encode_ok gen bound a n cap l w hg0 hg1 hb0 hb1 hv hok hl hn h).mono ?_
    rintro e w' ⟨hb, g, m, rfl, hm, hown⟩
    have e1 : encL gen bound l = joinL (encW gen bound l) := by unfold encL; rw [h, if_pos rfl]
    rw [h, e1]
    exact ⟨hb, _, m, rfl, hm, hown⟩
  · refine (encode_bad gen bound a n cap l w hg0 hg1 hb0 hb1 hv hok hl hn h).mono ?_
    rintro e w' ⟨rfl, hb⟩
    have e1 : encL gen bound l = [] := by unfold encL; rw [if_neg h]
    rw [e1]
    exact ⟨hb, none, 0, rfl, rfl, World.ownsRow_nil _ _ _ _⟩

end Go.Proofs.YtmobologlaeefaaGreat

/-
  AsmShaped is true for all texts.
-/
namespace Go.Proofs.YtmobologlaeefaaGreat
open Go.RowKit
set_option linter.unusedVariables false
set_option linter.unusedSimpArgs false
set_option maxRecDepth 10000

/-- A text with a fault says no module. -/
theorem parse_none {s : ByteArray} (h : (parseS s).2.1 ≠ 0) : (parseS s).1 = (0, 0, []) := by
  unfold parseS at h ⊢
  repeat' split
  all_goals try rfl
  rename_i h1 h2 h3
  rw [if_neg h1, if_neg h2, if_neg h3] at h
  exact absurd rfl h
theorem parse_large {s : ByteArray} (h : 16777216 < s.size) : parseS s = ((0, 0, []), 4, 0) := by unfold parseS; rw [if_pos h]
theorem lines_nil {s : ByteArray} (h : (linesT s).length = 0) : s.size = 0 := by
  rcases Nat.eq_zero_or_pos s.size with h0 | h0
  · exact h0
  · exfalso
    obtain ⟨f', e, _⟩ := linesF_step s.size 1 s (by omega) (Nat.le_refl _)
    unfold linesT at h; rw [e] at h; simp at h
/-- Where a fault is told. -/
theorem parse_where {s : ByteArray} (hs : s.size ≤ 16777216) (h : (parseS s).2.1 ≠ 0) : ((parseS s).2.1 = 72 ∧ (parseS s).2.2 = 0 ∧ s.size = 0) ∨ (1 ≤ (parseS s).2.2 ∧ (parseS s).2.2 ≤ (tens (strI s) : Int) + 1) := by
  have hl := lines_tens s
  unfold parseS at h ⊢
  rw [if_neg (by omega)] at h ⊢
  by_cases h2 : (goL st0 (linesT s)).1 ≠ 0
  · rw [if_pos h2]
    obtain ⟨pre, x, p1, p2, _⟩ := goL_fault _ _ h2
    obtain ⟨q1, _, _, q4, _⟩ := pre_at p1
    right
    simp only
    rw [p2, q1]
    omega
  · rw [if_neg h2] at h ⊢
    by_cases h3 : (goL st0 (linesT s)).2.2.2.2.1 = 0
    · rw [if_pos h3]
      by_cases h4 : (linesT s).length = 0
      · left; exact ⟨rfl, by simp [h4], lines_nil h4⟩
      · right; simp only; omega
    · rw [if_neg h3] at h; exact absurd rfl h
/-- Cut behind the line of a fault, with another text behind it. -/
theorem parse_cut {s m : ByteArray} (hs : s.size + m.size ≤ 16777214) (h : (parseS s).2.1 ≠ 0) (h72 : (parseS s).2.1 ≠ 72) {e : Nat} (he : (e = s.size ∧ (tens (strI s) : Int) < (parseS s).2.2) ∨ (e < s.size ∧ (strI s)[e]? = some 10 ∧ (tens ((strI s).take e) : Int) + 1 = (parseS s).2.2)) :
    parseS (s.extract 0 e ++ ⟨#[10]⟩ ++ m) = parseS s := by
  have hne : (goL st0 (linesT s)).1 ≠ 0 := by
    intro h0
    apply h72
    unfold parseS at h ⊢
    rw [if_neg (by omega), if_neg (by simp [h0])] at h ⊢
    split
    · rfl
    · rename_i h3; rw [if_neg h3] at h; exact absurd rfl h
  have hps : parseS s = ((0, 0, []), (goL st0 (linesT s)).1, (goL st0 (linesT s)).2.1) := by unfold parseS; rw [if_neg (by omega), if_pos hne]
  obtain ⟨pre, x, p1, p2, p3⟩ := goL_fault _ _ hne
  obtain ⟨q1, _⟩ := pre_at p1
  have hat : (parseS s).2.2 = ((pre.length + 1 : Nat) : Int) := by rw [hps, ← q1]; exact p2
  rw [hat] at he
  have hle : e ≤ s.size := by rcases he with ⟨h1, _⟩ | ⟨h1, _⟩ <;> omega
  have hj := line_end p1 (e := e) (by
    rcases he with ⟨h1, h2⟩ | ⟨h1, h2, h3⟩
    · exact .inl ⟨h1, by omega⟩
    · exact .inr ⟨h2, by omega⟩)
  have hst : strI (s.extract 0 e ++ ⟨#[10]⟩ ++ m) = (strI s).take e ++ 10 :: strI m := by
    rw [strI_append, strI_append, strI_extract, List.drop_zero]; rw [show strI ⟨#[10]⟩ = [10] from rfl]; simp
  obtain ⟨r, hr⟩ := lines_begin (t := s.extract 0 e ++ ⟨#[10]⟩ ++ m) (R := tailN (strI m)) p1 (by rw [hst, tailN_app, hj]; simp)
  have hsz : (s.extract 0 e ++ ⟨#[10]⟩ ++ m).size ≤ 16777216 := by
    rw [← strI_len, hst]; simp only [List.length_append, List.length_take, List.length_cons, strI_len]; omega
  obtain ⟨g1, g2⟩ := p3 r
  rw [hps]
  unfold parseS
  rw [if_neg (by omega), hr, if_pos (by rw [g1]; exact hne), g1, g2]

set_option maxHeartbeats 4000000 in
/-- A text that is read. -/
theorem asmShaped_ok (w : World) (s m : ByteArray) (h : (parseS s).2.1 = 0) :
    Calls Tryz.prog 4 #[.string s, .string m] w fun e w' => e = .returned (.bool true) ∧ Below w.heap.size w w' := by
  have hA := fun wx => asmParse_any s wx
  obtain ⟨k1, k2, k3⟩ := parse_shape h
  have k4 := parse_gen s
  have k5 := parse_len s
  have hSh := fun a n cap wx => codeShape_any (parseS s).1.1 (parseS s).1.2.1 a n cap (parseS s).1.2.2 wx k4.1 k4.2.1 k4.2.2.1 k4.2.2.2
  generalize parseS s = R at *
  obtain ⟨⟨g, b, l⟩, E, P⟩ := R
  unfold ParQ at hA
  simp only at hA h k1 k2 hSh k5
  subst h
  subst k1
  rw [k2] at hSh
  have hlen : (0 : Int) < (s.size : Int) := by omega
  unfold modV at hSh
  have HK3 := hide k3
  clear k2 k3 k4
  go_enter Tryz.func4, Tryz.ntmps4
  go_wp2_with fail
  refine (hA _).mono ?_
  rintro e w1 ⟨a1, m1, c1, rfl, hv1, hm1, hok1, hb1⟩
  have hba1 : Below w1.heap.size w1 ((w1.alloc (.cells #[.int .u32 g, .int .u32 b, .slice a1 m1 c1] 25)).alloc (.cells #[.int .i64 0, .int .i64 0] 28)) := ((Below.refl _ w1).alloc (Nat.le_refl _) _).alloc (by simp) _
  have hC := hSh a1 m1 c1 _ (hv1.below hba1) hok1 hm1 (by omega)
  have HB1 := hide (hb1.trans (hba1.mono hb1.size))
  clear hA hv1 hb1 hba1 hok1 hSh hm1 k5
  go_wp2_with fail
  refine hC.mono ?_
  rintro e w2 ⟨rfl, hb2⟩
  have HB2 := hide (HB1.out.trans (hb2.mono HB1.out.size))
  clear hC hb2 HB1
  go_wp2_with fail
  go_ret
  have k3 := HK3.out
  exact ⟨by first | rfl | simp [k3], HB2.out⟩

set_option maxHeartbeats 4000000 in
/-- A text that is too long. -/
theorem asmShaped_large (w : World) (s m : ByteArray) (h : 16777216 < s.size) :
    Calls Tryz.prog 4 #[.string s, .string m] w fun e w' => e = .returned (.bool true) ∧ Below w.heap.size w w' := by
  have hA := fun wx => asmParse_any s wx
  rw [parse_large h] at hA
  unfold ParQ at hA
  simp only at hA
  have hN := fun ax c wx => kitNone_none ax c wx
  unfold modV at hN
  have hlen : decide ((16777216 : Int) < (s.size : Int)) = true := by simpa using (by omega : (16777216 : Int) < (s.size : Int))
  clear h
  go_enter Tryz.func4, Tryz.ntmps4
  go_wp2_with fail
  refine (hA _).mono ?_
  rintro e w1 ⟨a1, m1, c1, rfl, hv1, hm1, hok1, hb1⟩
  obtain rfl : 0 = m1 := hm1
  have hba1 : Below w1.heap.size w1 ((w1.alloc (.cells #[.int .u32 0, .int .u32 0, .slice a1 0 c1] 25)).alloc (.cells #[.int .i64 4, .int .i64 0] 28)) := ((Below.refl _ w1).alloc (Nat.le_refl _) _).alloc (by simp) _
  have HB1 := hide (hb1.trans (hba1.mono hb1.size))
  have kS1 : ((w1.alloc (.cells #[.int .u32 0, .int .u32 0, .slice a1 0 c1] 25)).alloc (.cells #[.int .i64 4, .int .i64 0] 28)).heap[w1.heap.size + 1]? = some (.cells #[.int .i64 4, .int .i64 0] 28 (0, 0)) := by have := heap_alloc_new (w1.alloc (.cells #[.int .u32 0, .int .u32 0, .slice a1 0 c1] 25)) (.cells #[.int .i64 4, .int .i64 0] 28); simpa using this
  have HS1 := hide kS1
  clear hA hv1 hb1 hba1 hok1 kS1
  go_wp2_with fail
  generalize (w1.alloc (.cells #[.int .u32 0, .int .u32 0, .slice a1 0 c1] 25)).alloc (.cells #[.int .i64 4, .int .i64 0] 28) = W1 at *
  refine (hN _ _ _).mono ?_
  rintro e w2 ⟨rfl, hb2⟩
  have HB2 := hide (HB1.out.trans (hb2.mono HB1.out.size))
  have l1 := (Array.getElem?_eq_some_iff.1 HS1.out).1
  obtain ⟨cs, _⟩ := blk_cells ((hb2.block _ l1).trans HS1.out)
  have s0 := cs 0
  have s1 := cs 1
  clear hb2 HB1 hN cs l1
  go_wp2_with fail
  go_ret
  exact ⟨rfl, HB2.out⟩

set_option maxHeartbeats 8000000 in
/-- A text with a fault. -/
theorem asmShaped_bad (w : World) (s m : ByteArray) (hs : s.size ≤ 16777216) (hm : m.size ≤ 140737488351232) (h : (parseS s).2.1 ≠ 0) :
    Calls Tryz.prog 4 #[.string s, .string m] w fun e w' => e = .returned (.bool true) ∧ Below w.heap.size w w' := by
  have hA := fun wx => asmParse_any s wx
  have hA2 := fun t (ht : parseS t = parseS s) wx => (show Calls Tryz.prog 9 #[.string t] wx (fun e w' => ParQ wx w' (parseS s) e) by rw [← ht]; exact asmParse_any t wx)
  have hq := parse_none h
  have hwh := parse_where hs h
  have HCUT : Hid (s.size + m.size ≤ 16777214 → (parseS s).2.1 ≠ 72 → ∀ e : Nat, (e = s.size ∧ (tens (strI s) : Int) < (parseS s).2.2) ∨ (e < s.size ∧ (strI s)[e]? = some 10 ∧ (tens ((strI s).take e) : Int) + 1 = (parseS s).2.2) → parseS (s.extract 0 e ++ ⟨#[10]⟩ ++ m) = parseS s) := fun h1 h2 e he => parse_cut h1 h h2 he
  have HTN : Hid ((tens (strI s)) ≤ s.size) := by
    show _ ≤ _
    have : tens (strI s) ≤ (strI s).length := List.count_le_length
    rw [strI_len] at this; exact this
  have HBY : Hid (∀ k, (hk : k < s.size) → ((strI s)[k]? = some 10 ↔ (s[k].toNat : Int) = 10)) := fun k hk => by
    have e : s.data.toList[k]? = some s[k] := by rw [Array.getElem?_toList]; exact Array.getElem?_eq_getElem hk
    rw [strI_ten, e, ten_iff]; simp
  have HDR : Hid (∀ k, (hk : k < s.size) → tens ((strI s).drop k) = (if (s[k].toNat : Int) = 10 then 1 else 0) + tens ((strI s).drop (k + 1))) := fun k hk => by
    have hk' : k < (strI s).length := by rw [strI_len]; exact hk
    rw [List.drop_eq_getElem_cons hk']
    have e : (strI s)[k] = (s[k].toNat : Int) := by
      have := strI_at s k
      rw [List.getElem?_eq_getElem hk', Array.getElem?_toList, Array.getElem?_eq_getElem hk] at this
      exact Option.some.inj this
    rw [e]
    unfold tens
    rw [List.count_cons]
    simp only [beq_iff_eq]
    omega
  have HTK : Hid (∀ k, (hk : k < s.size) → tens ((strI s).take (k + 1)) = tens ((strI s).take k) + (if (s[k].toNat : Int) = 10 then 1 else 0)) := fun k hk => by
    have hk' : k < (strI s).length := by rw [strI_len]; exact hk
    have e : (strI s)[k] = (s[k].toNat : Int) := by
      have := strI_at s k
      rw [List.getElem?_eq_getElem hk', Array.getElem?_toList, Array.getElem?_eq_getElem hk] at this
      exact Option.some.inj this
    rw [List.take_add_one, List.getElem?_eq_getElem hk', e, tens_app]
    congr 1
    unfold tens
    simp [List.count_cons]
  have HALL : Hid (tens ((strI s).take s.size) = tens (strI s)) := by show _ = _; rw [List.take_of_length_le (by rw [strI_len]; omega)]
  have HEND : Hid (tens ((strI s).drop s.size) = 0) := by show _ = _; rw [List.drop_eq_nil_of_le (by rw [strI_len]; omega)]; rfl
  have HDZ : Hid (tens ((strI s).drop 0) = tens (strI s)) := by show _ = _; rw [List.drop_zero]
  generalize parseS s = R at *
  obtain ⟨⟨g, b, l⟩, E, P⟩ := R
  unfold ParQ at hA hA2
  simp only [Prod.mk.injEq] at hA hA2 h hq hwh HCUT
  obtain ⟨rfl, rfl, rfl⟩ := hq
  have hN := fun ax c wx => kitNone_none ax c wx
  unfold modV at hN
  have hlen : decide ((16777216 : Int) < (s.size : Int)) = false := by simpa using (by omega : ¬ (16777216 : Int) < (s.size : Int))
  have hE0 : (E == 0) = false := by simpa using h
  have HWH := hide hwh
  have HA2 := hide hA2
  clear h hwh hA2
  go_enter Tryz.func4, Tryz.ntmps4
  go_wp2_with fail
  refine (hA _).mono ?_
  rintro e w1 ⟨a1, m1, c1, rfl, hv1, hm1, hok1, hb1⟩
  obtain rfl : 0 = m1 := hm1
  have hba1 : Below w1.heap.size w1 ((w1.alloc (.cells #[.int .u32 0, .int .u32 0, .slice a1 0 c1] 25)).alloc (.cells #[.int .i64 E, .int .i64 P] 28)) := ((Below.refl _ w1).alloc (Nat.le_refl _) _).alloc (by simp) _
  have HB1 := hide (hb1.trans (hba1.mono hb1.size))
  have kS1 : ((w1.alloc (.cells #[.int .u32 0, .int .u32 0, .slice a1 0 c1] 25)).alloc (.cells #[.int .i64 E, .int .i64 P] 28)).heap[w1.heap.size + 1]? = some (.cells #[.int .i64 E, .int .i64 P] 28 (0, 0)) := by have := heap_alloc_new (w1.alloc (.cells #[.int .u32 0, .int .u32 0, .slice a1 0 c1] 25)) (.cells #[.int .i64 E, .int .i64 P] 28); simpa using this
  have HS1 := hide kS1
  clear hA hv1 hb1 hba1 hok1 kS1
  go_wp2_with fail
  generalize (w1.alloc (.cells #[.int .u32 0, .int .u32 0, .slice a1 0 c1] 25)).alloc (.cells #[.int .i64 E, .int .i64 P] 28) = W1 at *
  refine (hN _ _ _).mono ?_
  rintro e w2 ⟨rfl, hb2⟩
  have HB2 := hide (HB1.out.trans (hb2.mono HB1.out.size))
  have l1 := (Array.getElem?_eq_some_iff.1 HS1.out).1
  have HS2 := hide ((hb2.block _ l1).trans HS1.out)
  obtain ⟨cs, _⟩ := blk_cells HS2.out
  have s0 : w2.cell? ⟨w1.heap.size + 1, 0, none⟩ = some (.int .i64 E) := cs 0
  have s1 : w2.cell? ⟨w1.heap.size + 1, 1, none⟩ = some (.int .i64 P) := cs 1
  have l2 : w1.heap.size + 1 < w2.heap.size := (Array.getElem?_eq_some_iff.1 HS2.out).1
  clear hb2 HB1 HS1 cs l1
  go_wp2_with fail
  go_loopw [7, 9] (fun ln i wr => ∃ k : Nat, k ≤ s.size ∧ i = .int .i64 ((k : Int) - 1) ∧ ln = .int .i64 ((tens ((strI s).drop k) : Int) + 1) ∧ tens ((strI s).drop k) ≤ s.size - k ∧ w2 = wr) (fun _ i _ => (intOf i + 1).toNat)
  case atStart => exact ⟨s.size, Nat.le_refl _, by go_num, by rw [HEND.out]; rfl, by rw [HEND.out]; omega, rfl⟩
  case round =>
    obtain ⟨k, hk, rfl, rfl, htk, rfl⟩ := hrel
    by_cases hk0 : 0 < k
    · have hki : (0 : Int) ≤ (k : Int) - 1 := by omega
      have hkl : (k : Int) - 1 < (s.size : Int) := by omega
      obtain ⟨j, rfl⟩ : ∃ j, k = j + 1 := ⟨k - 1, by omega⟩
      have e1 : ((j + 1 : Nat) : Int) - 1 = (j : Int) := by omega
      rw [e1] at hki hkl ⊢
      have hj : j < s.size := by omega
      have hd := HDR.out j hj
      by_cases h10 : (s[j].toNat : Int) = 10
      · have hb : ((s[j].toNat : Int) == 10) = true := by simpa using h10
        rw [if_pos h10] at hd
        have HD := hide hd
        generalize hT : tens ((strI s).drop (j + 1)) = T at *
        clear hd h10 e1 HBY HDR HTK HALL HEND HDZ HCUT
        go_wp2_with fail
        go_roundw
        case rel => exact ⟨j, by omega, by go_num, by rw [HD.out]; go_num, by rw [HD.out]; omega, by first | rfl | trivial⟩
        case measure => first | (simp [intOf]; done) | (simp [intOf]; omega)
      · have hb : ((s[j].toNat : Int) == 10) = false := by simpa using h10
        rw [if_neg h10] at hd
        have HD := hide hd
        generalize hT : tens ((strI s).drop (j + 1)) = T at *
        clear hd h10 e1 HBY HDR HTK HALL HEND HDZ HCUT
        go_wp2_with fail
        go_roundw
        case rel => exact ⟨j, by omega, by go_num, by rw [HD.out]; go_num, by rw [HD.out]; omega, by first | rfl | trivial⟩
        case measure => first | (simp [intOf]; done) | (simp [intOf]; omega)
    · obtain rfl : k = 0 := by omega
      rw [HDZ.out]
      clear htk
      generalize hT : tens (strI s) = T at *
      rcases HWH.out with ⟨q1, q2, q3⟩ | ⟨q1, q2⟩
      · subst q1
        subst q2
        have hsE : s = ⟨#[]⟩ := strI_inj (by rw [show strI (⟨#[]⟩ : ByteArray) = [] from rfl]; exact List.length_eq_zero_iff.1 (by rw [strI_len]; exact q3))
        have hse : (s == (⟨#[]⟩ : ByteArray)) = true := by rw [hsE]; rfl
        clear HBY HDR HTK HALL HEND HDZ HCUT HWH q3
        go_wp2_with fail
        go_ret
        exact ⟨by simp [hsE], HB2.out⟩
      · have q1' : decide (P < 1) = false := by simpa using (by omega : ¬ P < 1)
        have q2' : decide ((T : Int) + 1 < P) = false := by simpa using (by omega : ¬ (T : Int) + 1 < P)
        have hP0 : (P == 0) = false := by simpa using (by omega : P ≠ 0)
        by_cases h72 : E = 72
        · subst h72
          clear HBY HDR HTK HALL HEND HDZ HCUT HWH q1 q2
          go_wp2_with fail
          go_ret
          exact ⟨rfl, HB2.out⟩
        · have h72' : (E == 72) = false := by simpa using h72
          have hsum : IntKind.i64.wrap ((s.size : Int) + (m.size : Int)) = (s.size : Int) + (m.size : Int) := by rw [IntKind.wrap_i64]; omega
          by_cases hbig : 16777214 < s.size + m.size
          · have hbig' : decide ((16777214 : Int) < (s.size : Int) + (m.size : Int)) = true := by simpa using (by omega : (16777214 : Int) < (s.size : Int) + (m.size : Int))
            clear HBY HDR HTK HALL HEND HDZ HCUT HWH q1 q2 hbig h72
            go_wp2_with fail
            go_ret
            exact ⟨rfl, HB2.out⟩
          · have hbig' : decide ((16777214 : Int) < (s.size : Int) + (m.size : Int)) = false := by simpa using (by omega : ¬ (16777214 : Int) < (s.size : Int) + (m.size : Int))
            have HCU := hide (HCUT.out (by omega) h72)
            have HSM : Hid (s.size + m.size ≤ 16777214) := by show _ ≤ _; omega
            have hP1 : 1 ≤ P := q1
            clear HCUT HWH q1 q2 hbig h72 HDR HEND HDZ
            go_wp2_with fail
            go_loopw [7, 8, 10] (fun ln en i wr => ∃ k e : Nat, k ≤ s.size ∧ e ≤ s.size ∧ i = .int .i64 (k : Int) ∧ en = .int .i64 (e : Int) ∧ ln = .int .i64 ((tens ((strI s).take k) : Int) + 1) ∧ tens ((strI s).take k) ≤ k ∧ Hid ((e = s.size ∧ (tens ((strI s).take k) : Int) < P) ∨ (e < s.size ∧ (strI s)[e]? = some 10 ∧ (tens ((strI s).take e) : Int) + 1 = P ∧ P ≤ (tens ((strI s).take k) : Int))) ∧ w2 = wr) (fun _ _ i _ => s.size - (intOf i).toNat)
            case atStart => exact ⟨0, s.size, Nat.zero_le _, Nat.le_refl _, rfl, rfl, by simp [tens], by simp [tens], .inl ⟨rfl, by simp [tens]; omega⟩, rfl⟩
            case round =>
              obtain ⟨k, e, hk, he, rfl, rfl, rfl, htk, HI, rfl⟩ := hrel
              by_cases hlt : k < s.size
              · have hki : (k : Int) < (s.size : Int) := by omega
                have hk0 : (0 : Int) ≤ (k : Int) := by omega
                have hkk := HTK.out k hlt
                have hBk := HBY.out k hlt
                by_cases h10 : (s[k].toNat : Int) = 10
                · have hb : ((s[k].toNat : Int) == 10) = true := by simpa using h10
                  rw [if_pos h10] at hkk
                  by_cases hP : (tens ((strI s).take k) : Int) + 1 = P
                  · have hee : e = s.size := by rcases HI.out with ⟨h1, _⟩ | ⟨_, _, _, h1⟩ <;> omega
                    subst hee
                    have hP' : ((tens ((strI s).take k) : Int) + 1 == P) = true := by simpa using hP
                    have hes : ((s.size : Int) == (s.size : Int)) = true := by simp
                    have HN : Hid ((k = s.size ∧ (tens ((strI s).take (k + 1)) : Int) < P) ∨ (k < s.size ∧ (strI s)[k]? = some 10 ∧ (tens ((strI s).take k) : Int) + 1 = P ∧ P ≤ (tens ((strI s).take (k + 1)) : Int))) := .inr ⟨hlt, hBk.2 h10, hP, by rw [hkk]; omega⟩
                    have HD := hide hkk
                    clear HI hBk hkk h10 hP HBY HTK HALL HCU
                    generalize hT : tens ((strI s).take k) = T1 at *
                    go_wp2_with fail
                    go_roundw
                    case rel => exact ⟨k + 1, k, by omega, by omega, by go_num, rfl, by rw [HD.out]; go_num, by rw [HD.out]; omega, by rw [hT]; exact HN, by first | rfl | trivial⟩
                    case measure => simp [intOf]; omega
                  · have hP' : ((tens ((strI s).take k) : Int) + 1 == P) = false := by simpa using hP
                    have HN : Hid ((e = s.size ∧ (tens ((strI s).take (k + 1)) : Int) < P) ∨ (e < s.size ∧ (strI s)[e]? = some 10 ∧ (tens ((strI s).take e) : Int) + 1 = P ∧ P ≤ (tens ((strI s).take (k + 1)) : Int))) := by
                      show _ ∨ _
                      rw [hkk]
                      rcases HI.out with ⟨h1, h2⟩ | ⟨h1, h2, h3, h4⟩
                      · exact .inl ⟨h1, by omega⟩
                      · exact .inr ⟨h1, h2, h3, by omega⟩
                    have HD := hide hkk
                    clear HI hBk hkk h10 hP HBY HTK HALL HCU
                    generalize hT : tens ((strI s).take k) = T1 at *
                    go_wp2_with fail
                    go_roundw
                    case rel => exact ⟨k + 1, e, by omega, by omega, by go_num, rfl, by rw [HD.out]; go_num, by rw [HD.out]; omega, HN, by first | rfl | trivial⟩
                    case measure => simp [intOf]; omega
                · have hb : ((s[k].toNat : Int) == 10) = false := by simpa using h10
                  rw [if_neg h10] at hkk
                  have HN : Hid ((e = s.size ∧ (tens ((strI s).take (k + 1)) : Int) < P) ∨ (e < s.size ∧ (strI s)[e]? = some 10 ∧ (tens ((strI s).take e) : Int) + 1 = P ∧ P ≤ (tens ((strI s).take (k + 1)) : Int))) := by rw [hkk]; exact HI
                  have HD := hide hkk
                  clear HI hBk hkk h10 HBY HTK HALL HCU
                  generalize hT : tens ((strI s).take k) = T1 at *
                  go_wp2_with fail
                  go_roundw
                  case rel => exact ⟨k + 1, e, by omega, by omega, by go_num, rfl, by rw [HD.out]; go_num, by rw [HD.out]; omega, HN, by first | rfl | trivial⟩
                  case measure => simp [intOf]; omega
              · obtain rfl : k = s.size := by omega
                have hpe := HCU.out e (by
                  rcases HI.out with ⟨h1, h2⟩ | ⟨h1, h2, h3, _⟩
                  · rw [HALL.out] at h2; exact .inl ⟨h1, by omega⟩
                  · exact .inr ⟨h1, h2, h3⟩)
                have hC := HA2.out _ hpe
                have hei : (e : Int) ≤ (s.size : Int) := by omega
                have he0 : (0 : Int) ≤ (e : Int) := by omega
                clear HI HBY HTK HALL HCU hpe HA2 htk
                go_wp2_with fail
                refine (hC _).mono ?_
                rintro x w3 ⟨a3, m3, c3, rfl, hv3, hm3, hok3, hb3⟩
                obtain rfl : 0 = m3 := hm3
                have hba3 : Below w3.heap.size w3 ((w3.alloc (.cells #[.int .u32 0, .int .u32 0, .slice a3 0 c3] 25)).alloc (.cells #[.int .i64 E, .int .i64 P] 28)) := ((Below.refl _ w3).alloc (Nat.le_refl _) _).alloc (by simp) _
                have HB3 := hide (HB2.out.trans ((hb3.trans (hba3.mono hb3.size)).mono HB2.out.size))
                have kS3 : ((w3.alloc (.cells #[.int .u32 0, .int .u32 0, .slice a3 0 c3] 25)).alloc (.cells #[.int .i64 E, .int .i64 P] 28)).heap[w3.heap.size + 1]? = some (.cells #[.int .i64 E, .int .i64 P] 28 (0, 0)) := by have := heap_alloc_new (w3.alloc (.cells #[.int .u32 0, .int .u32 0, .slice a3 0 c3] 25)) (.cells #[.int .i64 E, .int .i64 P] 28); simpa using this
                have HS3 := hide kS3
                have HS4 := hide (((hb3.trans (hba3.mono hb3.size)).block _ l2).trans HS2.out)
                have HL3 : Hid (w1.heap.size + 1 < w3.heap.size) := Nat.lt_of_lt_of_le l2 hb3.size
                clear hC hv3 hb3 hba3 hok3 kS3 HB2 HS2 s0 s1
                go_wp2_with fail
                generalize (w3.alloc (.cells #[.int .u32 0, .int .u32 0, .slice a3 0 c3] 25)).alloc (.cells #[.int .i64 E, .int .i64 P] 28) = W3 at *
                refine (hN _ _ _).mono ?_
                rintro x w4 ⟨rfl, hb4⟩
                have HB4 := hide (HB3.out.trans (hb4.mono HB3.out.size))
                have l3 := (Array.getElem?_eq_some_iff.1 HS3.out).1
                have l4 := (Array.getElem?_eq_some_iff.1 HS4.out).1
                obtain ⟨c1, _⟩ := blk_cells ((hb4.block _ l3).trans HS3.out)
                obtain ⟨c2, _⟩ := blk_cells ((hb4.block _ l4).trans HS4.out)
                have t0 := c1 0
                have t1 := c1 1
                have u0 := c2 0
                have u1 := c2 1
                clear hb4 HB3 hN c1 c2 HS3 HS4
                go_wp2_with fail
                go_ret
                exact ⟨rfl, HB4.out⟩

theorem asmShaped_any (w : World) (s : ByteArray) (hs : s.size ≤ 140737488351232) (m : ByteArray) (hm : m.size ≤ 140737488351232) :
    Calls Tryz.prog 4 #[.string s, .string m] w fun e w' => e = .returned (.bool true) ∧ Below w.heap.size w w' := by
  by_cases h : (parseS s).2.1 = 0
  · exact asmShaped_ok w s m h
  · by_cases h1 : 16777216 < s.size
    · exact asmShaped_large w s m h1
    · exact asmShaped_bad w s m (by omega) hm h

end Go.Proofs.YtmobologlaeefaaGreat
