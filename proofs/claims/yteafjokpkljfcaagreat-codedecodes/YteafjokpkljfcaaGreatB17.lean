/-
  Texts laid together in one: CodeEncode, DrawE, Law04One, Law04Awake.
-/
import Derived.WalkSpells
import Derived.WalkMore
import Derived.BigRegion
import Derived.Deep.RegionWith
import Derived.Deep.DrawnRows
import Derived.Test.YteafjokpkljfcaaGreatB15
import Derived.Test.YteafjokpkljfcaaGreatB14
import Derived.Test.YteafjokpkljfcaaGreatB08
import Derived.OrdersIn
import Derived.RangeFuncNested
import Derived.Test.YteafjokpkljfcaaGreatB02
import Derived.WalkKit
import Derived.OwnWalkIn
import Derived.TacticsInMore
import Derived.Test.YteafjokpkljfcaaGreatB16
/-
  What Shape and Encode of the package code answer, for every module.
-/
namespace Go.Proofs.YteafjokpkljfcaaGreat
open Go.RowKit
set_option linter.unusedVariables false
set_option linter.unusedSimpArgs false
set_option maxRecDepth 10000

/-- A module's bytes. -/
def encW (gen b : Int) (l : List InstT) : List Int := writeTo gen b (rawsL b l) l.length
def encL (gen b : Int) (l : List InstT) : List Int := if (shapeE b l).1 = 0 then joinL (encW gen b l) else []

theorem encW_within {gen b : Int} {l : List InstT} (hg0 : 0 ≤ gen) (hg1 : gen < 4294967296) (hb0 : 0 ≤ b) (hb1 : b < 4294967296) (hok : InstsOk l) : Within 4294967296 (encW gen b l) := by
  have := writeTo_within gen b hg0 hg1 hb0 hb1 (rawsL b l) (rawsL_ok b hok) (fun j hj => by rw [rawsL_len] at hj; rw [nthR_raws b l j hj]; exact rawWs_len _ _)
  rw [rawsL_len] at this
  exact this
theorem encW_len {gen b : Int} {l : List InstT} (h : (shapeE b l).1 = 0) : (encW gen b l).length ≤ 1048576 ∧ 5 ≤ (encW gen b l).length := by
  have h1 := writeTo_len gen b (rawsL b l) l.length (by rw [rawsL_len]; exact Nat.le_refl _)
  have h2 := shape_few h
  have h3 := sizeTo_ge (rawsL b l) l.length (by rw [rawsL_len]; exact Nat.le_refl _)
  unfold encW
  omega

set_option maxHeartbeats 2000000 in
theorem codeShape_any (gen bound : Int) (a : Option Addr) (n cap : Nat) (l : List InstT) (w : World) (hg0 : 0 ≤ gen) (hg1 : gen < 4294967296) (hb0 : 0 ≤ bound) (hb1 : bound < 4294967296) (hv : InstsV w a l) (hok : InstsOk l) (hl : l.length = n) (hn : 40 * n ≤ 140737488351232) :
    Calls Tryz.prog 21 #[modV gen bound a n cap] w fun e w' => e = .returned (.agg #[.int .i64 (shapeE bound l).1, .int .i64 (shapeE bound l).2]) ∧ Below w.heap.size w w' := by
  have hR := fun wx (hb : Below w.heap.size w wx) => raws_any gen bound a n cap l wx hg0 hg1 hb0 hb1 (hv.below hb) hok hl hn
  generalize (shapeE bound l).1 = e1 at *
  generalize (shapeE bound l).2 = e2 at *
  have HL : Hid (l.length = n) := hl
  unfold modV at *
  clear hv hok hl
  have hB0 : Below w.heap.size w ((w.alloc (.cells #[.int .u32 gen, .int .u32 bound, .slice a n cap] 26)).alloc (.cells #[.int .i64 0, .int .i64 0] 29)) := ((Below.refl _ w).alloc (Nat.le_refl _) _).alloc (by simp) _
  have hC := hR _ hB0
  have kX : ((w.alloc (.cells #[.int .u32 gen, .int .u32 bound, .slice a n cap] 26)).alloc (.cells #[.int .i64 0, .int .i64 0] 29)).heap[w.heap.size + 1]? = some (.cells #[.int .i64 0, .int .i64 0] 29 (0, 0)) := by simpa using alloc_new (w.alloc (.cells #[.int .u32 gen, .int .u32 bound, .slice a n cap] 26)) #[.int .i64 0, .int .i64 0] 29
  have HB0 : Hid _ := hB0
  have HX : Hid _ := kX
  clear hR hB0 kX
  go_enter Tryz.func21, Tryz.ntmps21
  go_wp2_with fail
  have hB0 := HB0.out
  have kX := HX.out
  clear HB0 HX
  generalize (w.alloc (.cells #[.int .u32 gen, .int .u32 bound, .slice a n cap] 26)).alloc (.cells #[.int .i64 0, .int .i64 0] 29) = W0 at *
  refine hC.mono ?_
  rintro e w1 ⟨hb1', ax, cx, m, rfl, hm, _, hV1⟩
  have l0 := (Array.getElem?_eq_some_iff.1 kX).1
  have s1 := hb1'.size
  have hb2 : Below W0.heap.size W0 (w1.alloc (.cells #[.int .i64 e1, .int .i64 e2] 29)) := hb1'.alloc s1 _
  have kX2 := (hb2.block _ l0).trans kX
  obtain ⟨d0, d1, _⟩ := cell_of_two (alloc_new w1 #[.int .i64 e1, .int .i64 e2] 29)
  obtain ⟨hcX, hfX⟩ := one_block kX2
  have c0 := hcX 0
  have c1 := hcX 1
  have f0 := hfX 0
  have f1 := hfX 1
  have hBel := hB0.trans (hb2.mono hB0.size)
  have hB3 := two_put2 kX2 (.int .i64 e1) (.int .i64 e2)
  have hBel2 := hBel.trans ((two_below (w1.alloc (.cells #[.int .i64 e1, .int .i64 e2] 29)) (w.heap.size + 1) (.int .i64 e1) (.int .i64 e2)).mono (by omega))
  have HB3 : Hid _ := hB3
  have HBel2 : Hid _ := hBel2
  have hne : w1.heap.size ≠ w.heap.size + 1 := by omega
  clear hC hb1' hb2 kX kX2 hcX hfX hB0 hBel hB3 hBel2 hV1 hm
  go_wp2
  have hB3 := HB3.out
  have hBel := HBel2.out
  clear HB3 HBel2 c0 c1 f0 f1 d0 d1
  generalize ((w1.alloc _).setCell _ _).setCell _ _ = W at hB3 hBel ⊢
  obtain ⟨hd, _⟩ := one_block hB3
  have d0 := hd 0
  have d1 := hd 1
  refine bodyPost_ret (v := .agg #[.int .i64 e1, .int .i64 e2]) ?_ rfl ⟨rfl, hBel⟩
  simp [results, Tryz.results21, go_sem, d0, d1]

set_option maxHeartbeats 4000000 in
/-- Of a module that is not of good shape. -/
theorem encode_bad (gen bound : Int) (a : Option Addr) (n cap : Nat) (l : List InstT) (w : World) (hg0 : 0 ≤ gen) (hg1 : gen < 4294967296) (hb0 : 0 ≤ bound) (hb1 : bound < 4294967296) (hv : InstsV w a l) (hok : InstsOk l) (hl : l.length = n) (hn : 40 * n ≤ 140737488351232) (he : (shapeE bound l).1 ≠ 0) :
    Calls Tryz.prog 19 #[modV gen bound a n cap] w fun e w' => e = .returned (.tuple #[.slice none 0 0, .agg #[.int .i64 (shapeE bound l).1, .int .i64 (shapeE bound l).2]]) ∧ Below w.heap.size w w' := by
  have hR := fun wx (hb : Below w.heap.size w wx) => raws_any gen bound a n cap l wx hg0 hg1 hb0 hb1 (hv.below hb) hok hl hn
  have heb : ((shapeE bound l).1 == 0) = false := by simpa using he
  generalize (shapeE bound l).1 = e1 at *
  generalize (shapeE bound l).2 = e2 at *
  have HL : Hid (l.length = n) := hl
  unfold modV at *
  clear hv hok hl he
  have hB0 : Below w.heap.size w ((w.alloc (.cells #[.int .u32 gen, .int .u32 bound, .slice a n cap] 26)).alloc (.cells #[.int .i64 0, .int .i64 0] 29)) := ((Below.refl _ w).alloc (Nat.le_refl _) _).alloc (by simp) _
  have hC := hR _ hB0
  have kX : ((w.alloc (.cells #[.int .u32 gen, .int .u32 bound, .slice a n cap] 26)).alloc (.cells #[.int .i64 0, .int .i64 0] 29)).heap[w.heap.size + 1]? = some (.cells #[.int .i64 0, .int .i64 0] 29 (0, 0)) := by simpa using alloc_new (w.alloc (.cells #[.int .u32 gen, .int .u32 bound, .slice a n cap] 26)) #[.int .i64 0, .int .i64 0] 29
  have HB0 : Hid _ := hB0
  have HX : Hid _ := kX
  clear hR hB0 kX
  go_enter Tryz.func19, Tryz.ntmps19
  go_wp2_with fail
  have hB0 := HB0.out
  have kX := HX.out
  clear HB0 HX
  generalize (w.alloc (.cells #[.int .u32 gen, .int .u32 bound, .slice a n cap] 26)).alloc (.cells #[.int .i64 0, .int .i64 0] 29) = W0 at *
  refine hC.mono ?_
  rintro e w1 ⟨hb1', ax, cx, m, rfl, hm, _, hV1⟩
  have l0 := (Array.getElem?_eq_some_iff.1 kX).1
  have s1 := hb1'.size
  have hb2 : Below W0.heap.size W0 (w1.alloc (.cells #[.int .i64 e1, .int .i64 e2] 29)) := hb1'.alloc s1 _
  have kX2 := (hb2.block _ l0).trans kX
  obtain ⟨d0, d1, _⟩ := cell_of_two (alloc_new w1 #[.int .i64 e1, .int .i64 e2] 29)
  obtain ⟨hcX, hfX⟩ := one_block kX2
  have c0 := hcX 0
  have c1 := hcX 1
  have f0 := hfX 0
  have f1 := hfX 1
  have hBel := hB0.trans (hb2.mono hB0.size)
  have hB3 := two_put2 kX2 (.int .i64 e1) (.int .i64 e2)
  have hBel2 := (hBel.trans ((two_below (w1.alloc (.cells #[.int .i64 e1, .int .i64 e2] 29)) (w.heap.size + 1) (.int .i64 e1) (.int .i64 e2)).mono (by omega))).drew
  have HB3 : Hid _ := hB3
  have HBel2 : Hid _ := hBel2
  have hne : w1.heap.size ≠ w.heap.size + 1 := by omega
  clear hC hb1' hb2 kX kX2 hcX hfX hB0 hBel hB3 hBel2 hV1 hm
  go_wp2
  go_region
  go_wp2
  have hB3 : ((((w1.alloc (.cells #[.int .i64 e1, .int .i64 e2] 29)).setCell ⟨w.heap.size + 1, 0, none⟩ (.int .i64 e1)).setCell ⟨w.heap.size + 1, 1, none⟩ (.int .i64 e2)).drew).heap[w.heap.size + 1]? = some (.cells #[.int .i64 e1, .int .i64 e2] 29 (0, 0)) := HB3.out
  have hBel := HBel2.out
  clear HB3 HBel2 c0 c1 f0 f1 d0 d1
  generalize (((w1.alloc _).setCell _ _).setCell _ _).drew = W at hB3 hBel ⊢
  obtain ⟨hd, _⟩ := one_block hB3
  have d0 := hd 0
  have d1 := hd 1
  refine bodyPost_ret (v := .tuple #[.slice none 0 0, .agg #[.int .i64 e1, .int .i64 e2]]) ?_ rfl ⟨rfl, hBel⟩
  simp [results, Tryz.results19, go_sem, d0, d1]

set_option maxHeartbeats 4000000 in
/-- Of a module of good shape. -/
theorem encode_ok (gen bound : Int) (a : Option Addr) (n cap : Nat) (l : List InstT) (w : World) (hg0 : 0 ≤ gen) (hg1 : gen < 4294967296) (hb0 : 0 ≤ bound) (hb1 : bound < 4294967296) (hv : InstsV w a l) (hok : InstsOk l) (hl : l.length = n) (hn : 40 * n ≤ 140737488351232) (he : shapeE bound l = (0, 0)) :
    Calls Tryz.prog 19 #[modV gen bound a n cap] w fun e w' => Below w.heap.size w w' ∧ ∃ g m, e = .returned (.tuple #[.slice (some ⟨g, 0, none⟩) m m, .agg #[.int .i64 0, .int .i64 0]]) ∧ (joinL (encW gen bound l)).length = m ∧ w'.ownsRow w.heap.size 5 1 (.slice (some ⟨g, 0, none⟩) m m) m ((joinL (encW gen bound l)).map (Value.int .u8)) := by
  have hR := fun wx (hb : Below w.heap.size w wx) => raws_any gen bound a n cap l wx hg0 hg1 hb0 hb1 (hv.below hb) hok hl hn
  have eR : rawsR bound l = rawsL bound l := by unfold rawsR; rw [he, if_pos rfl]
  have h0 : (shapeE bound l).1 = 0 := by rw [he]
  have eW : writeE bound (rawsL bound l) = (0, 0) := by
    obtain ⟨h1, h2⟩ := shape_bound h0
    unfold writeE
    rw [if_neg (by rintro (h | h)
                   · exact h1 h
                   · exact h2 h), fault_shape h0]
  have eL : writeL gen bound (rawsL bound l) = encW gen bound l := by unfold writeL encW; rw [eW, if_pos rfl, rawsL_len]
  have hfew := shape_few h0
  have hwl := encW_len (gen := gen) h0
  have hww := encW_within (l := l) hg0 hg1 hb0 hb1 hok
  rw [he, eR] at hR
  have hH := fun w => headOf_any gen bound a n cap w
  have hWr := fun ax m cx wx (h1 : RawsV wx ax (rawsL bound l)) (h2 : l.length = m) (h3 : m ≤ cx) => writeC gen bound ax m cx (rawsL bound l) wx hg0 hg1 hb0 hb1 h1 (rawsL_ok bound hok) (by rw [rawsL_len]; exact h2) (by omega) h3
  rw [eW, eL] at hWr
  have hrl := rawsL_len bound l
  have hJ := fun ax m cx wx (h1 : View .u32 wx ax (encW gen bound l)) (h2 : (encW gen bound l).length = m) => join_any ax m cx (encW gen bound l) wx h1 h2 (by omega) hww
  have hjl := joinL_len (encW gen bound l)
  have HJL : Hid _ := hjl
  have HRL : Hid _ := hrl
  have HWL : Hid _ := hwl
  clear he eR h0 eW eL hww hfew hjl hrl hwl
  have HL : Hid (l.length = n) := hl
  clear hv hok hl
  generalize rawsL bound l = rs at *
  generalize encW gen bound l = ws at *
  unfold modV at *
  have hB0 : Below w.heap.size w ((w.alloc (.cells #[.int .u32 gen, .int .u32 bound, .slice a n cap] 26)).alloc (.cells #[.int .i64 0, .int .i64 0] 29)) := ((Below.refl _ w).alloc (Nat.le_refl _) _).alloc (by simp) _
  have hC := hR _ hB0
  have kX : ((w.alloc (.cells #[.int .u32 gen, .int .u32 bound, .slice a n cap] 26)).alloc (.cells #[.int .i64 0, .int .i64 0] 29)).heap[w.heap.size + 1]? = some (.cells #[.int .i64 0, .int .i64 0] 29 (0, 0)) := by simpa using alloc_new (w.alloc (.cells #[.int .u32 gen, .int .u32 bound, .slice a n cap] 26)) #[.int .i64 0, .int .i64 0] 29
  have kM : ((w.alloc (.cells #[.int .u32 gen, .int .u32 bound, .slice a n cap] 26)).alloc (.cells #[.int .i64 0, .int .i64 0] 29)).heap[w.heap.size]? = some (.cells #[.int .u32 gen, .int .u32 bound, .slice a n cap] 26 (0, 0)) := (Below.heap_alloc _ _ _ (by simp)).trans (alloc_new w _ _)
  have HB0 : Hid _ := hB0
  have HX : Hid _ := kX
  have HM : Hid _ := kM
  clear hR hB0 kX kM
  go_enter Tryz.func19, Tryz.ntmps19
  go_wp2_with fail
  have hB0 := HB0.out
  have kX := HX.out
  have kM := HM.out
  clear HB0 HX HM
  generalize (w.alloc (.cells #[.int .u32 gen, .int .u32 bound, .slice a n cap] 26)).alloc (.cells #[.int .i64 0, .int .i64 0] 29) = W0 at *
  refine hC.mono ?_
  rintro e w1 ⟨hb1', ax, cx, m, rfl, hm, hmc, hV1⟩
  have l0 := (Array.getElem?_eq_some_iff.1 kX).1
  have s1 := hb1'.size
  have hb2 : Below W0.heap.size W0 (w1.alloc (.cells #[.int .i64 0, .int .i64 0] 29)) := hb1'.alloc s1 _
  have kX2 := (hb2.block _ l0).trans kX
  have kM2 := (hb2.block _ (by omega)).trans kM
  have kS2 := alloc_new w1 #[.int .i64 0, .int .i64 0] 29
  have hV2 := hV1.below ((Below.refl _ w1).alloc (Nat.le_refl _) (.cells #[.int .i64 0, .int .i64 0] 29))
  obtain ⟨d0, d1, _⟩ := cell_of_two kS2
  obtain ⟨hcM, _⟩ := one_block kM2
  have m0 := hcM 0
  have m1 := hcM 1
  have m2 := hcM 2
  have hBel := hB0.trans (hb2.mono hB0.size)
  have sW : w1.heap.size < (w1.alloc (.cells #[.int .i64 0, .int .i64 0] 29)).heap.size := by simp
  have HV2 : Hid (RawsV _ ax rs) := hV2
  have HX2 : Hid _ := kX2
  have HS2 : Hid _ := kS2
  have HBel : Hid _ := hBel
  have HMM : Hid _ := hm
  have HMC : Hid _ := hmc
  clear hC hb1' hb2 kX kX2 kM kM2 hcM hB0 hV1 hV2 kS2 hBel hm hmc
  go_wp2_with fail
  have hV2 := HV2.out
  have kX2 := HX2.out
  have kS2 := HS2.out
  have hBel := HBel.out
  clear HV2 HX2 HS2 HBel d0 d1 m0 m1 m2
  generalize w1.alloc (.cells #[.int .i64 0, .int .i64 0] 29) = W2 at *
  refine (hH _).mono ?_
  rintro e w3 ⟨rfl, hb3⟩
  have s3 := hb3.size
  have hV3 := hV2.below hb3
  have kX3 := (hb3.block _ (by omega)).trans kX2
  have kS3 := (hb3.block _ sW).trans kS2
  have hBel3 := hBel.trans (hb3.mono hBel.size)
  have hC2 := hWr ax m cx w3 hV3 (by rw [← HRL.out, HMM.out]) HMC.out
  clear hH hWr hb3 hV2 kX2 kS2 hBel hV3
  go_wp2_with fail
  refine hC2.mono ?_
  rintro e w4 ⟨hb4, ay, cy, m4, rfl, hm4, hown4⟩
  have s4 := hb4.size
  have kX4 := (hb4.block _ (by omega)).trans kX3
  have kS4 := (hb4.block _ (by omega)).trans kS3
  have hBel4 := hBel3.trans (hb4.mono hBel3.size)
  obtain ⟨hcS, hfS⟩ := one_block kS4
  have c0 := hcS 0
  have c1 := hcS 1
  have f0 := hfS 0
  have f1 := hfS 1
  have kS5 := two_put2 kS4 (.int .i64 0) (.int .i64 0)
  have kX5 : ((w4.setCell ⟨w1.heap.size, 0, none⟩ (.int .i64 0)).setCell ⟨w1.heap.size, 1, none⟩ (.int .i64 0)).heap[w.heap.size + 1]? = some (.cells #[.int .i64 0, .int .i64 0] 29 (0, 0)) := (Below.heap_setCell _ _ _ _ (by simp; omega)).trans ((Below.heap_setCell _ _ _ _ (by simp; omega)).trans kX4)
  have hBel5 := hBel4.trans ((two_below w4 w1.heap.size (.int .i64 0) (.int .i64 0)).mono (by omega))
  have hown5 := ownFar (ownFar hown4 (show w1.heap.size < w3.heap.size by omega) 0 (.int .i64 0)) (show w1.heap.size < w3.heap.size by omega) 1 (.int .i64 0)
  have hV5 := View.ofOwn hown5 hm4
  have HS5 : Hid _ := kS5
  have HX5 : Hid _ := kX5
  have HBel5 : Hid _ := hBel5
  have HV5 : Hid (View .u32 _ ay ws) := hV5
  have HM4 : Hid _ := hm4
  clear hC2 hb4 hBel3 hBel4 kX3 kX4 kS3 kS4 hcS hfS hown4 hown5 hV5 kS5 kX5 hBel5 hm4
  have hz : ((0 : Nat) : Int) = 0 := rfl
  go_wp2_with fail
  have kS5 := HS5.out
  have kX5 := HX5.out
  have hBel5 := HBel5.out
  have hV5 := HV5.out
  clear HS5 HX5 HBel5 HV5 c0 c1 f0 f1
  generalize (w4.setCell ⟨w1.heap.size, 0, none⟩ (.int .i64 0)).setCell ⟨w1.heap.size, 1, none⟩ (.int .i64 0) = X at *
  have lX := (Array.getElem?_eq_some_iff.1 kX5).1
  have lS := (Array.getElem?_eq_some_iff.1 kS5).1
  have hJ2 := fun wx (hb : Below X.heap.size X wx) => hJ ay m4 cy wx (hV5.below hb) HM4.out
  obtain ⟨y0, y1, _⟩ := cell_of_two kS5
  have hBd : Below X.heap.size X X.drew := below_drew X
  have HX5 : Hid _ := kX5
  have HBel5 : Hid _ := hBel5
  clear hJ hV5 kX5 hBel5
  go_region_with (go_at_call 43; refine (hJ2 _ (by first | exact Below.refl _ _ | exact (Below.refl _ _).drew)).mono ?_; rintro e w5 ⟨rfl, hown5, hb5⟩; obtain ⟨z0, z1, _⟩ := cell_of_two ((hb5.block _ (by exact lS)).trans kS5); obtain ⟨hcX, hfX⟩ := one_block ((hb5.block _ (by exact lX)).trans HX5.out); have x0 := hcX 0; have x1 := hcX 1; have g0 := hfX 0; have g1 := hfX 1)
  all_goals
    have hB3 := two_put2 ((hb5.block _ (by exact lX)).trans HX5.out) (.int .i64 0) (.int .i64 0)
    have hBw := HBel5.out.trans ((hBd.trans hb5).mono HBel5.out.size)
    have hBel := hBw.trans ((two_below w5 (w.heap.size + 1) (.int .i64 0) (.int .i64 0)).mono (by omega))
    have hO3 := own_lo (ownFar (ownFar hown5 (show w.heap.size + 1 < X.drew.heap.size from lX) 0 (.int .i64 0)) (show w.heap.size + 1 < X.drew.heap.size from lX) 1 (.int .i64 0)) (show w.heap.size ≤ X.drew.heap.size from HBel5.out.size)
    have HB3 : Hid _ := hB3
    have HBE : Hid _ := hBel
    have HO3 : Hid _ := hO3
    clear hB3 hBw hBel hO3 hown5 hb5 y0 y1 z0 z1 x0 x1 g0 g1 hcX hfX kS5 HX5 HBel5 hJ2 hBd
    go_wp2
    have hB3 := HB3.out
    have hBel := HBE.out
    have hO3 := HO3.out
    generalize (w5.setCell ⟨w.heap.size + 1, 0, none⟩ (.int .i64 0)).setCell ⟨w.heap.size + 1, 1, none⟩ (.int .i64 0) = Y at hB3 hBel hO3 ⊢
    obtain ⟨hd, _⟩ := one_block hB3
    have d0 := hd 0
    have d1 := hd 1
    refine bodyPost_ret (v := .tuple #[.slice (some ⟨X.heap.size, 0, none⟩) (4 * m4) (4 * m4), .agg #[.int .i64 0, .int .i64 0]]) ?_ rfl ⟨hBel, X.heap.size, 4 * m4, rfl, by rw [HJL.out, HM4.out], hO3⟩
    simp [results, Tryz.results19, go_sem, d0, d1]

/-- Encode, of every module. -/
theorem encode_any (gen bound : Int) (a : Option Addr) (n cap : Nat) (l : List InstT) (w : World) (hg0 : 0 ≤ gen) (hg1 : gen < 4294967296) (hb0 : 0 ≤ bound) (hb1 : bound < 4294967296) (hv : InstsV w a l) (hok : InstsOk l) (hl : l.length = n) (hn : 40 * n ≤ 140737488351232) :
    Calls Tryz.prog 19 #[modV gen bound a n cap] w fun e w' => Below w.heap.size w w' ∧ ∃ ax m, e = .returned (.tuple #[.slice ax m m, .agg #[.int .i64 (shapeE bound l).1, .int .i64 (shapeE bound l).2]]) ∧ (encL gen bound l).length = m ∧ w'.ownsRow w.heap.size 5 1 (.slice ax m m) m ((encL gen bound l).map (Value.int .u8)) := by
  rcases shapeE_any bound l with h | h
  · refine (encode_ok gen bound a n cap l w hg0 hg1 hb0 hb1 hv hok hl hn h).mono ?_
    rintro e w' ⟨hb, g, m, rfl, hm, hown⟩
    have e1 : encL gen bound l = joinL (encW gen bound l) := by unfold encL; rw [h, if_pos rfl]
    rw [h, e1]
    exact ⟨hb, _, m, rfl, hm, hown⟩
  · refine (encode_bad gen bound a n cap l w hg0 hg1 hb0 hb1 hv hok hl hn h).mono ?_
    rintro e w' ⟨rfl, hb⟩
    have e1 : encL gen bound l = [] := by unfold encL; rw [if_neg h]
    rw [e1]
    exact ⟨hb, none, 0, rfl, rfl, World.ownsRow_nil _ _ _ _⟩

end Go.Proofs.YteafjokpkljfcaaGreat

/-
  As Draw, where some operations of the region (those of E) may leave the class: each of them waits for every operation that is taken first.
-/
namespace Go.Proofs.YteafjokpkljfcaaGreat
open Go.RowKit
set_option linter.unusedVariables false

section
variable {F : Fence} {n : Nat} {P : Program} {md : Region.Mode} {ops : Array Oper} {C : World → Prop} {E : Nat → Bool} {Q : Exit → Act → World → Prop}

/-- As wpAnyIn, and each operation leaves a world of the class. -/
def wpAnyE (F : Fence) (n : Nat) (P : Program) (md : Region.Mode) (ops : Array Oper) (C : World → Prop) (E : Nat → Bool) (Q : Exit → Act → World → Prop) : Nat → Array Bool → Act → World → Prop
  | 0, listed, a, w => Region.ready md ops listed = [] ∧ Q .normal a w
  | fuel + 1, listed, a, w => (Region.ready md ops listed = [] → Q .normal a w) ∧ ∀ i ∈ Region.ready md ops listed, wpOpIn F n P ops Q i (fun a' w' => (E i = true ∨ C w') ∧ wpAnyE F n P md ops C E Q fuel (listed.setIfInBounds i true) a' w') a w

theorem wpAnyE_sound : ∀ (fuel : Nat) (listed : Array Bool) (a : Act) (w : World), wpAnyE F n P md ops C E Q fuel listed a w → wpAnyIn F n P md ops Q fuel listed a w
  | 0, _, _, _, h => h
  | fuel + 1, listed, a, w, h => ⟨h.1, fun i hi => wpOpIn_mono (fun a' w' h' => wpAnyE_sound fuel _ a' w' h'.2) (h.2 i hi)⟩

theorem wpAnyE_done {listed : Array Bool} {a : Act} {w : World} (hr : Region.ready md ops listed = []) (h : Q .normal a w) : ∀ fuel, wpAnyE F n P md ops C E Q fuel listed a w
  | 0 => ⟨hr, h⟩
  | _ + 1 => ⟨fun _ => h, by rw [hr]; simp⟩

/-- An operation that may leave the class waits for i. -/
def waits (md : Region.Mode) (ops : Array Oper) (E : Nat → Bool) (i : Nat) : Bool := (List.range ops.size).all fun j => !E j || j == i || (match ops[j]? with | some o => o.after.any fun e => Region.binds md e && e.on == i | none => true)
theorem waits_spec {i : Nat} (h : waits md ops E i = true) {j : Nat} {oj : Oper} (hj : ops[j]? = some oj) (hE : E j = true) (hji : j ≠ i) : ∃ e ∈ oj.after, Region.binds md e = true ∧ e.on = i := by
  have hlt := (Array.getElem?_eq_some_iff.1 hj).1
  have := List.all_eq_true.1 h j (List.mem_range.2 hlt)
  simp only [hE, Bool.not_true, Bool.false_or, hj, Bool.or_eq_true, beq_iff_eq, hji, false_or] at this
  obtain ⟨e, he, h2⟩ := Array.any_eq_true'.1 this
  simp only [Bool.and_eq_true, beq_iff_eq] at h2
  exact ⟨e, he, h2.1, h2.2⟩

theorem wpAnyE_first {i : Nat} {oi : Oper} {v : Value} (hF : ∀ f, F.fn f) (hnd : ∀ (j : Nat) (o : Oper), ops[j]? = some o → ∀ c, o.op ≠ .defer c) (hi : ops[i]? = some oi) (hsel : ∀ (j : Nat) (o : Oper) cs b, ops[j]? = some o → o.op ≠ .select cs b)
    (hQ : ∀ c a w, Q (.panic c) (a.put oi.dst v) w → Q (.panic c) a w) (hE : waits md ops E i = true) : ∀ (fuel : Nat) (listed : Array Bool) (a : Act) (w : World),
      (∀ j oj, ops[j]? = some oj → j ≠ i → listed.getD j true = false → (∀ e ∈ oj.after, Region.binds md e = true → e.on ≠ i) → oi.apart ops oj = true) →
      i ∈ Region.ready md ops listed → YieldsC P ops C oi v a → C w → wpAnyE F n P md ops C E Q fuel (listed.setIfInBounds i true) (a.put oi.dst v) w → wpAnyE F n P md ops C E Q (fuel + 1) listed a w := by
  intro fuel
  induction fuel with
  | zero =>
    intro listed a w _ hr hy hC H
    refine ⟨fun h => (by rw [h] at hr; cases hr), fun j hj => ?_⟩
    by_cases hji : j = i
    · subst hji; exact hy.op hF (hnd j oi hi) hi hC ⟨.inr hC, H⟩
    · have := ready_mono hj hji
      rw [H.1] at this
      cases this
  | succ fuel ih =>
    intro listed a w hfree hr hy hC H
    refine ⟨fun h => (by rw [h] at hr; cases hr), fun j hj => ?_⟩
    by_cases hji : j = i
    · subst hji; exact hy.op hF (hnd j oi hi) hi hC ⟨.inr hC, H⟩
    · obtain ⟨hjun, oj, hoj, hall⟩ := mem_ready.1 hj
      have hnot : ∀ e ∈ oj.after, Region.binds md e = true → e.on ≠ i := fun e he hb heq => by
        have h1 := hall e he hb
        have h0 := (mem_ready.1 hr).1
        rw [heq] at h1
        rcases Nat.lt_or_ge i listed.size with h' | h'
        · simp [h'] at h0 h1; rw [h0] at h1; cases h1
        · simp [Array.getElem?_eq_none h'] at h1
      have hap := hfree j oj hoj hji hjun hnot
      have h2 := opIn_put hF (hnd j oj hoj) hoj hap (fun cs b => hsel j oj cs b hoj) hQ (H.2 j (ready_mono hj hji))
      refine wpOpIn_mono (fun a' w' h3 => ?_) h2
      obtain ⟨⟨ds, u, rfl⟩, hC0, h4⟩ := h3
      have hC' : C w' := by
        rcases hC0 with hEj | hC'
        · obtain ⟨e, he, hb, hon⟩ := waits_spec hE hoj hEj hji
          exact absurd hon (hnot e he hb)
        · exact hC'
      refine ⟨.inr hC', ih (listed.setIfInBounds j true) _ w' (fun k ok hk hki hun hno => hfree k ok hk hki ?_ hno) (ready_mono hr (Ne.symm hji)) (hy.put hap (fun cs b => hsel i oi cs b hi)) hC' ?_⟩
      · by_cases hjk : j = k
        · subst hjk; exact hjun
        · rw [getD_set_ne true hjk] at hun; exact hun
      · rw [Array.setIfInBounds_comm _ _ hji]
        exact h4

theorem wpAnyE_take {i : Nat} {oi : Oper} {v : Value} {fuel : Nat} {listed : Array Bool} {a : Act} {w : World} (hF : ∀ f, F.fn f) (hnd : noDefer ops = true) (hi : ops[i]? = some oi) (hs : Region.noSelect ops = true) (hf : Region.free md ops listed i = true) (hr : (Region.ready md ops listed).contains i = true)
    (hE : waits md ops E i = true) (hQ : ∀ c a w, Q (.panic c) (a.put oi.dst v) w → Q (.panic c) a w) (hC : C w) (hy : YieldsC P ops C oi v a) (h : wpAnyE F n P md ops C E Q fuel (listed.setIfInBounds i true) (a.put oi.dst v) w) : wpAnyE F n P md ops C E Q (fuel + 1) listed a w :=
  wpAnyE_first hF (noDefer_spec hnd) hi (Region.noSelect_spec hs) hQ hE fuel listed a w (Region.free_spec hi hf) (by simpa using hr) hy hC h

/-- The same, with the temporary named. -/
theorem wpAnyE_takeD {i : Nat} {oi : Oper} (d : Option Tmp) {v : Value} {fuel : Nat} {listed : Array Bool} {a : Act} {w : World} (hF : ∀ f, F.fn f) (hnd : noDefer ops = true) (hi : ops[i]? = some oi) (hd : oi.dst = d) (hs : Region.noSelect ops = true) (hf : Region.free md ops listed i = true) (hr : (Region.ready md ops listed).contains i = true)
    (hE : waits md ops E i = true) (hQ : ∀ c a w, Q (.panic c) (a.put d v) w → Q (.panic c) a w) (hC : C w) (hy : YieldsC P ops C oi v a) (h : wpAnyE F n P md ops C E Q fuel (listed.setIfInBounds i true) (a.put d v) w) : wpAnyE F n P md ops C E Q (fuel + 1) listed a w := by
  subst hd
  exact wpAnyE_take hF hnd hi hs hf hr hE hQ hC hy h

/-- The operations that may come up, one by one. -/
def AllE (F : Fence) (n : Nat) (P : Program) (md : Region.Mode) (ops : Array Oper) (C : World → Prop) (E : Nat → Bool) (Q : Exit → Act → World → Prop) (fuel : Nat) (listed : Array Bool) (a : Act) (w : World) (rs : List Nat) : Prop :=
  ∀ i ∈ rs, wpOpIn F n P ops Q i (fun a' w' => (E i = true ∨ C w') ∧ wpAnyE F n P md ops C E Q fuel (listed.setIfInBounds i true) a' w') a w
theorem AllE.nil {fuel : Nat} {listed : Array Bool} {a : Act} {w : World} : AllE F n P md ops C E Q fuel listed a w [] := fun _ h => by cases h
theorem AllE.cons {fuel : Nat} {listed : Array Bool} {a : Act} {w : World} {i : Nat} {o : Oper} {rs : List Nat} (ho : ops[i]? = some o)
    (h : ∀ K' : Act → World → Prop, (∀ a w, (E i = true ∨ C w) → wpAnyE F n P md ops C E Q fuel (listed.setIfInBounds i true) a w → K' a w) → if Region.wanted o (yielded ops a.tmps) = true then Oper.wpIn F n P o a w K' Q else (∀ f, o.about P w a.eval = some f → F.fn f) ∧ K' (a.put o.dst undef) w)
    (hs : AllE F n P md ops C E Q fuel listed a w rs) : AllE F n P md ops C E Q fuel listed a w (i :: rs) := fun j hj => by
  rcases List.mem_cons.1 hj with rfl | hj
  · exact wpOpIn_step ho (fun K' hK => h K' (fun a w hC hw => hK a w ⟨hC, hw⟩))
  · exact hs j hj
theorem wpAnyE_ready {rs : List Nat} {fuel : Nat} {listed : Array Bool} {a : Act} {w : World} (hr : Region.ready md ops listed = rs) (hne : rs ≠ []) (h : AllE F n P md ops C E Q fuel listed a w rs) : wpAnyE F n P md ops C E Q (fuel + 1) listed a w :=
  ⟨fun h0 => absurd (hr ▸ h0) hne, hr ▸ h⟩

end

end Go.Proofs.YteafjokpkljfcaaGreat

/-
  one of the laws of layer 4 answers a module of one instruction, in new memory.
-/
namespace Go.Proofs.YteafjokpkljfcaaGreat
open Go.RowKit Go.Shelf
attribute [local go_sem] Oper.semAt_some
set_option linter.unusedVariables false
set_option linter.unusedSimpArgs false

/-- That instruction. -/
def oneI : InstT := (128, 1, 2, [(1, 3, ⟨#[]⟩), (1, 4, ⟨#[]⟩)])

theorem kitId_any (n : Int) (w : World) : Calls Tryz.prog 44 #[.int .u32 n] w fun e w' => e = .returned (.agg #[.int .u8 1, .int .u32 n, .string ⟨#[]⟩]) ∧ Below w.heap.size w w' := by
  go_enter Tryz.func44, Tryz.ntmps44
  go_wp2
  refine bodyPost_ret (v := .agg #[.int .u8 1, .int .u32 n, .string ⟨#[]⟩]) ?_ rfl ⟨rfl, ?_⟩
  · simp [results, Tryz.results44, go_sem]
  · exact (Below.refl _ _).alloc (Nat.le_refl _) _

set_option maxRecDepth 100000 in
set_option maxHeartbeats 4000000 in
theorem one_any (w : World) : Calls Tryz.prog 20 #[] w fun e w' => ∃ g c, e = .returned (modV 3 9 (some ⟨g, 0, none⟩) 1 c) ∧ InstsV w' (some ⟨g, 0, none⟩) [oneI] ∧ Below w.heap.size w w' := by
  have h3 := fun w => kitId_any 3 w
  have h4 := fun w => kitId_any 4 w
  obtain ⟨i0, hi, hz0, hz1, hz2⟩ := info_parts CopyModule.info
  have hmix : Tryz.prog.follows .mixedOrders = true := by kernel_rfl
  unfold modV
  refine (callsIn_wide (n := 0)).1 ?_
  refine callsIn_of_wp_marks Tryz.func20 rfl trivial ?_ rfl
  simp only [Tryz.ntmps20, List.size_toArray, List.length_cons, List.length_nil, Nat.reduceAdd, Nat.reduceSub, Array.replicate_succ, Array.replicate_zero, List.push_toArray, List.append_toArray, List.nil_append, List.cons_append]
  gi_wp2_with fail
  have hB0 : Below w.heap.size w ((w.alloc (.cells #[.int .u32 0, .int .u32 0, .slice none 0 0] 26)).alloc (.cells #[.int .u32 3, .int .u32 9, .slice none 0 0] 26)) := ((Below.refl _ w).alloc (Nat.le_refl _) _).alloc (by simp) _
  have kR : ((w.alloc (.cells #[.int .u32 0, .int .u32 0, .slice none 0 0] 26)).alloc (.cells #[.int .u32 3, .int .u32 9, .slice none 0 0] 26)).heap[w.heap.size]? = some (.cells #[.int .u32 0, .int .u32 0, .slice none 0 0] 26 (0, 0)) := (Below.heap_alloc _ _ _ (by simp)).trans (alloc_new w _ _)
  have kM : ((w.alloc (.cells #[.int .u32 0, .int .u32 0, .slice none 0 0] 26)).alloc (.cells #[.int .u32 3, .int .u32 9, .slice none 0 0] 26)).heap[w.heap.size + 1]? = some (.cells #[.int .u32 3, .int .u32 9, .slice none 0 0] 26 (0, 0)) := by simpa using alloc_new (w.alloc (.cells #[.int .u32 0, .int .u32 0, .slice none 0 0] 26)) #[.int .u32 3, .int .u32 9, .slice none 0 0] 26
  generalize (w.alloc (.cells #[.int .u32 0, .int .u32 0, .slice none 0 0] 26)).alloc (.cells #[.int .u32 3, .int .u32 9, .slice none 0 0] 26) = W at *
  have lM := (Array.getElem?_eq_some_iff.1 kM).1
  have hC0 : Below W.heap.size W W.drew := below_drew W
  have L2 : Hid (∀ w', Below W.heap.size W w' → w'.cell? ⟨w.heap.size + 1, 2, none⟩ = some (.slice none 0 0)) := fun w' hC => (one_block ((hC.block _ lM).trans kM)).1 2
  refine wpIn_normal (wpIn_region_any hmix (wpAnyE_sound (C := Below W.heap.size W) (E := fun i => i == 9) _ _ _ _ ?_))
  change wpAnyE _ _ _ _ _ _ _ _ _ _ _ (World.drew _)
  refine wpAnyE_takeD (i := 0) (some 3) (v := .pointer (some ⟨w.heap.size + 1, 2, none⟩)) (fun _ => trivial) (by kernel_rfl) rfl rfl (by kernel_rfl) (by kernel_rfl) (by kernel_rfl) (by kernel_rfl) (fun _ _ _ h => by cases h.1) hC0 (Or.inl ⟨by kernel_rfl, fun w' hC => by clear hC; go_simp⟩) ?_
  simp only [Act.put, List.setIfInBounds_toArray, List.set_cons_succ, List.set_cons_zero]
  refine wpAnyE_takeD (i := 1) (some 4) (v := .slice none 0 0) (fun _ => trivial) (by kernel_rfl) rfl rfl (by kernel_rfl) (by kernel_rfl) (by kernel_rfl) (by kernel_rfl) (fun _ _ _ h => by cases h.1) hC0 (Or.inl ⟨by kernel_rfl, fun w' hC => by have e := L2.out w' hC; clear hC; go_simp⟩) ?_
  simp only [Act.put, List.setIfInBounds_toArray, List.set_cons_succ, List.set_cons_zero]
  refine wpAnyE_ready (rs := [2]) (by kernel_rfl) (by simp) ?_
  refine AllE.cons rfl (fun K hK => ?_) AllE.nil
  go_simp
  refine ⟨trivial, rfl, (callsIn_wide.2 (h3 _)).mono ?_⟩
  rintro e w3 ⟨rfl, hb3⟩
  dsimp only
  have hC3 : Below W.heap.size W w3 := hC0.trans hb3
  refine hK _ _ (.inr hC3) ?_
  clear hK K hb3
  refine wpAnyE_ready (rs := [3]) (by kernel_rfl) (by simp) ?_
  refine AllE.cons rfl (fun K hK => ?_) AllE.nil
  go_simp
  refine ⟨trivial, rfl, (callsIn_wide.2 (h4 _)).mono ?_⟩
  rintro e w4 ⟨rfl, hb4⟩
  dsimp only
  have hC4 : Below W.heap.size W w4 := hC3.trans (hb4.mono hC3.size)
  refine hK _ _ (.inr hC4) ?_
  clear hK K hb4
  refine wpAnyE_ready (rs := [4]) (by kernel_rfl) (by simp) ?_
  refine AllE.cons rfl (fun K hK => ?_) AllE.nil
  go_simp
  have hC5 : Below W.heap.size W (w4.alloc (.cells #[.int .u8 1, .int .u32 3, .string ⟨#[]⟩, .int .u8 1, .int .u32 4, .string ⟨#[]⟩] 58)) := hC4.alloc hC4.size _
  refine hK _ _ (.inr hC5) ?_
  clear hK K
  refine wpAnyE_ready (rs := [5]) (by kernel_rfl) (by simp) ?_
  refine AllE.cons rfl (fun K hK => ?_) AllE.nil
  go_simp
  refine hK _ _ (.inr hC5) ?_
  clear hK K
  refine wpAnyE_ready (rs := [6]) (by kernel_rfl) (by simp) ?_
  refine AllE.cons rfl (fun K hK => ?_) AllE.nil
  go_simp
  have hC6 : Below W.heap.size W ((w4.alloc (.cells #[.int .u8 1, .int .u32 3, .string ⟨#[]⟩, .int .u8 1, .int .u32 4, .string ⟨#[]⟩] 58)).alloc (.cells #[.int .u16 128, .int .u32 1, .int .u32 2, .slice (some ⟨w4.heap.size, 0, none⟩) 2 2] 48)) := hC5.alloc hC5.size _
  refine hK _ _ (.inr hC6) ?_
  clear hK K
  refine wpAnyE_ready (rs := [7]) (by kernel_rfl) (by simp) ?_
  refine AllE.cons rfl (fun K hK => ?_) AllE.nil
  have hA : ArgsV ((w4.alloc (.cells #[.int .u8 1, .int .u32 3, .string ⟨#[]⟩, .int .u8 1, .int .u32 4, .string ⟨#[]⟩] 58)).alloc (.cells #[.int .u16 128, .int .u32 1, .int .u32 2, .slice (some ⟨w4.heap.size, 0, none⟩) 2 2] 48)) (some ⟨w4.heap.size, 0, none⟩) [(1, 3, ⟨#[]⟩), (1, 4, ⟨#[]⟩)] := by
    have kA := (Below.heap_alloc (w4.alloc (.cells #[.int .u8 1, .int .u32 3, .string ⟨#[]⟩, .int .u8 1, .int .u32 4, .string ⟨#[]⟩] 58)) (.cells #[.int .u16 128, .int .u32 1, .int .u32 2, .slice (some ⟨w4.heap.size, 0, none⟩) 2 2] 48) w4.heap.size (by simp)).trans (alloc_new w4 #[.int .u8 1, .int .u32 3, .string ⟨#[]⟩, .int .u8 1, .int .u32 4, .string ⟨#[]⟩] 58)
    obtain ⟨hc, _⟩ := one_block kA
    intro j hj
    refine ⟨w4.heap.size, 0, rfl, by simp; omega, ?_⟩
    match j, hj with
    | 0, _ => exact ⟨hc 0, hc 1, hc 2⟩
    | 1, _ => exact ⟨hc 3, hc 4, hc 5⟩
  have sW : W.heap.size ≤ w4.heap.size := hC4.size
  refine stepAny_append _ (fun _ => trivial) rfl (.tmp 4) (.tmp 9) 24 rfl W.heap.size 48 i0 (.agg #[.int .u16 0, .int .u32 0, .int .u32 0, .slice none 0 0]) 4 40 Tryz.underlying24 hi hz0 hz1 hz2 rfl (by decide) (.slice none 0 0) 0 [] rfl (World.ownsRow_nil _ _ _ _) ⟨w4.heap.size + 1, 0, none⟩ 1 1 [.int .u16 128, .int .u32 1, .int .u32 2, .slice (some ⟨w4.heap.size, 0, none⟩) 2 2] rfl rfl (World.news_of_block (cs := #[.int .u16 128, .int .u32 1, .int .u32 2, .slice (some ⟨w4.heap.size, 0, none⟩) 2 2]) (t := 48) (fr := (0, 0)) (by simpa using alloc_new (w4.alloc (.cells #[.int .u8 1, .int .u32 3, .string ⟨#[]⟩, .int .u8 1, .int .u32 4, .string ⟨#[]⟩] 58)) #[.int .u16 128, .int .u32 1, .int .u32 2, .slice (some ⟨w4.heap.size, 0, none⟩) 2 2] 48)) (by intro u hu; simp at hu; rcases hu with rfl | rfl | rfl | rfl <;> rfl) (by decide) (by unfold maxLen; decide) (by decide) (by simp; omega) ?_
  intro g7 cap7 w7 hown7 hgr7
  have hb7 : Below ((w4.alloc (.cells #[.int .u8 1, .int .u32 3, .string ⟨#[]⟩, .int .u8 1, .int .u32 4, .string ⟨#[]⟩] 58)).alloc (.cells #[.int .u16 128, .int .u32 1, .int .u32 2, .slice (some ⟨w4.heap.size, 0, none⟩) 2 2] 48)).heap.size ((w4.alloc (.cells #[.int .u8 1, .int .u32 3, .string ⟨#[]⟩, .int .u8 1, .int .u32 4, .string ⟨#[]⟩] 58)).alloc (.cells #[.int .u16 128, .int .u32 1, .int .u32 2, .slice (some ⟨w4.heap.size, 0, none⟩) 2 2] 48)) w7 := (Below.refl _ _).grown hgr7 (Nat.le_refl _) (fun k e => by simp [Value.ownBlock] at e)
  have hC7 : Below W.heap.size W w7 := hC6.trans (hb7.mono hC6.size)
  have hA7 := hA.below hb7
  have hV7 : InstsV w7 (some ⟨g7, 0, none⟩) [oneI] := by
    intro j hj
    obtain rfl : j = 0 := by simp at hj; exact hj
    have c0 := hown7.cellAt 0 (by decide)
    have c1 := hown7.cellAt 1 (by decide)
    have c2 := hown7.cellAt 2 (by decide)
    have c3 := hown7.cellAt 3 (by decide)
    exact ⟨g7, 0, some ⟨w4.heap.size, 0, none⟩, 2, 2, rfl, World.block_lt_of_cell? _ _ c0, c0, c1, c2, c3, rfl, hA7, Nat.le_refl _⟩
  have hg7 : W.heap.size ≤ g7 := (hown7.lt g7 rfl).1
  have HVX : Hid (∀ X : World, (∀ k, W.heap.size ≤ k → X.heap[k]? = w7.heap[k]?) → w7.heap.size ≤ X.heap.size → InstsV X (some ⟨g7, 0, none⟩) [oneI]) := by
    intro X hX hs j hj
    obtain ⟨b, off, aj, cj, nj, e, hlt, c1, c2, c3, c4, c5, c6, c7⟩ := hV7 j hj
    obtain rfl : j = 0 := by simp at hj; exact hj
    have hc0 := hown7.cellAt 3 (by decide)
    cases e
    have e4 : aj = some ⟨w4.heap.size, 0, none⟩ := by
      rw [show w7.cell? ⟨g7, 0 + 0 * 4 + 3, none⟩ = w7.cell? ⟨g7, 3, none⟩ from rfl, hc0] at c4
      simp at c4
      exact c4.1.symm
    subst e4
    have cell : ∀ b o, W.heap.size ≤ b → X.cell? ⟨b, o, none⟩ = w7.cell? ⟨b, o, none⟩ := fun b o hb => World.cell?_of_block (hX b hb)
    refine ⟨g7, 0, some ⟨w4.heap.size, 0, none⟩, cj, nj, rfl, by omega, (cell _ _ hg7).trans c1, (cell _ _ hg7).trans c2, (cell _ _ hg7).trans c3, (cell _ _ hg7).trans c4, c5, ?_, c7⟩
    intro i hi
    obtain ⟨b, off, e, hlt, a1, a2, a3⟩ := c6 i hi
    cases e
    exact ⟨_, _, rfl, by omega, (cell _ _ sW).trans a1, (cell _ _ sW).trans a2, (cell _ _ sW).trans a3⟩
  simp only [Act.put, List.setIfInBounds_toArray, List.set_cons_succ, List.set_cons_zero]
  refine hK _ _ (.inr hC7) ?_
  clear hK K hgr7 hb7 hA hA7 hown7
  refine wpAnyE_ready (rs := [8]) (by kernel_rfl) (by simp) ?_
  refine AllE.cons rfl (fun K hK => ?_) AllE.nil
  go_simp
  refine hK _ _ (.inr hC7) ?_
  clear hK K
  refine wpAnyE_ready (rs := [9]) (by kernel_rfl) (by simp) ?_
  refine AllE.cons rfl (fun K hK => ?_) AllE.nil
  have kM7 := (hC7.block _ lM).trans kM
  have kR7 := (hC7.block _ (by omega)).trans kR
  obtain ⟨m7, mf7⟩ := one_block kM7
  have y2 := m7 2
  have yf := mf7 2
  go_simp
  refine hK _ _ (.inl rfl) ?_
  clear hK K y2 yf m7 mf7
  refine wpAnyE_done (by kernel_rfl) ⟨rfl, ?_⟩ _
  have kM8 : (w7.setCell ⟨w.heap.size + 1, 2, none⟩ (.slice (some ⟨g7, 0, none⟩) 1 cap7)).heap[w.heap.size + 1]? = some (.cells #[.int .u32 3, .int .u32 9, .slice (some ⟨g7, 0, none⟩) 1 cap7] 26 (0, 0)) := by simp [World.setCell, Array.getElem?_modify, kM7]
  have kR8 : (w7.setCell ⟨w.heap.size + 1, 2, none⟩ (.slice (some ⟨g7, 0, none⟩) 1 cap7)).heap[w.heap.size]? = some (.cells #[.int .u32 0, .int .u32 0, .slice none 0 0] 26 (0, 0)) := (Below.heap_setCell _ _ _ _ (by simp)).trans kR7
  have hBw : Below w.heap.size w (w7.setCell ⟨w.heap.size + 1, 2, none⟩ (.slice (some ⟨g7, 0, none⟩) 1 cap7)) := (hB0.trans (hC7.mono hB0.size)).setCell (by simp) _
  have HV8 : Hid (InstsV (((((w7.setCell ⟨w.heap.size + 1, 2, none⟩ (.slice (some ⟨g7, 0, none⟩) 1 cap7)).setCell ⟨w.heap.size, 0, none⟩ (.int .u32 3)).setCell ⟨w.heap.size, 1, none⟩ (.int .u32 9)).setCell ⟨w.heap.size, 2, none⟩ (.slice (some ⟨g7, 0, none⟩) 1 cap7))) (some ⟨g7, 0, none⟩) [oneI]) :=
    HVX.out _ (fun k hk => by
      rw [Below.heap_setCell _ _ _ _ (by simp; omega), Below.heap_setCell _ _ _ _ (by simp; omega), Below.heap_setCell _ _ _ _ (by simp; omega), Below.heap_setCell _ _ _ _ (by simp; omega)]) (by simp)
  have hB9 := three_set3 kR8 (.int .u32 3) (.int .u32 9) (.slice (some ⟨g7, 0, none⟩) 1 cap7)
  have hBel := hBw.trans (three_below3 (w7.setCell ⟨w.heap.size + 1, 2, none⟩ (.slice (some ⟨g7, 0, none⟩) 1 cap7)) w.heap.size (.int .u32 3) (.int .u32 9) (.slice (some ⟨g7, 0, none⟩) 1 cap7))
  obtain ⟨mc, _⟩ := one_block kM8
  have m0 := mc 0
  have m1 := mc 1
  have m2 := mc 2
  obtain ⟨rc, rf⟩ := one_block kR8
  have r0 := rc 0
  have r1 := rc 1
  have r2 := rc 2
  have e0 := rf 0
  have e1 := rf 1
  have e2 := rf 2
  have HB9 : Hid _ := hB9
  have HBel : Hid _ := hBel
  clear kM8 kR8 hBw hB9 hBel mc rc rf kM7 kR7 hC0 hC3 hC4 hC5 hC6 hC7 kM kR hB0 HVX
  generalize w7.setCell ⟨w.heap.size + 1, 2, none⟩ (.slice (some ⟨g7, 0, none⟩) 1 cap7) = X at *
  gi_wp2_with fail
  have hB9 := HB9.out
  have hBel := HBel.out
  have hV8 := HV8.out
  clear r0 r1 r2 e0 e1 e2 m0 m1 m2 HB9 HBel HV8
  generalize ((X.setCell _ _).setCell _ _).setCell _ _ = Y at *
  obtain ⟨d, _⟩ := one_block hB9
  have d0 := d 0
  have d1 := d 1
  have d2 := d 2
  refine ⟨.agg #[.int .u32 3, .int .u32 9, .slice (some ⟨g7, 0, none⟩) 1 cap7], by simp [results, Tryz.results20, go_sem, d0, d1, d2], g7, cap7, rfl, hV8, hBel⟩

end Go.Proofs.YteafjokpkljfcaaGreat

/-
  awake of the laws of layer 4 answers true.
-/
namespace Go.Proofs.YteafjokpkljfcaaGreat
open Go.RowKit Go.Shelf
attribute [local go_sem] Oper.semAt_some
set_option linter.unusedVariables false
set_option linter.unusedSimpArgs false

/-- Its bytes. -/
def oneB : List Int := [3, 2, 35, 7, 0, 0, 1, 0, 3, 0, 0, 0, 9, 0, 0, 0, 0, 0, 0, 0, 128, 0, 5, 0, 1, 0, 0, 0, 2, 0, 0, 0, 3, 0, 0, 0, 4, 0, 0, 0]
theorem oneB_shape : shapeE 9 [oneI] = (0, 0) := by decide +kernel
theorem oneB_enc : encL 3 9 [oneI] = oneB := by decide +kernel
theorem oneB_dec : decE oneB = (0, 0) := by decide +kernel
theorem oneB_head : decH oneB 2 = 3 ∧ decH oneB 3 = 9 := by decide +kernel
theorem oneB_insts : decL oneB = [oneI] := by
  unfold decL
  rw [oneB_dec, if_pos rfl]
  have e1 : rest (splitL oneB) 5 = [5] := by decide +kernel
  have e2 : rawAt (splitL oneB) 5 = (128, [1, 2, 3, 4]) := by decide +kernel
  have e3 : nth (splitL oneB) 3 = 9 := by decide +kernel
  have e4 : rawE oneI 9 = 0 := by decide +kernel
  have e5 : rawWs oneI 9 = [1, 2, 3, 4] := by decide +kernel
  have e6 := instI_words (x := oneI) (m := 9) e4 (by omega)
  rw [e5] at e6
  rw [e1, e3]
  simp only [instsAt, List.map_cons, List.map_nil, instAt, e2]
  rw [show (128 : Int) = oneI.1 from rfl, e6]
theorem oneB_within : Within 256 oneB := by
  intro z hz
  simp [oneB] at hz
  omega
theorem oneI_ok : InstsOk [oneI] := by
  intro j hj
  obtain rfl : j = 0 := by simp at hj; exact hj
  refine ⟨by decide, by decide, by decide, by decide, by decide, by decide, ?_, by decide⟩
  intro k hk
  have hk2 : k < 2 := hk
  match k, hk2 with
  | 0, _ => exact ⟨by decide, by decide, by decide, by decide, by decide⟩
  | 1, _ => exact ⟨by decide, by decide, by decide, by decide, by decide⟩

theorem field_zero (x y : Value) (w : World) : (Instr.field 29 (.agg #[x, y]) 0).run Tryz.prog w = .ok x w := by
  have hu := Tryz.underlying29
  have hi := Tryz.underlying27
  simp [Instr.field, run_underlying hu, asAgg, part, isAgg, run_underlying hi, go_sem]

set_option maxRecDepth 100000 in
set_option maxHeartbeats 8000000 in
theorem awake4_true (w : World) : Calls Tryz.prog 10 #[] w fun e w' => e = .returned (.bool true) ∧ Below w.heap.size w w' := by
  have hO := fun w => one_any w
  have hEn := fun wx g c (hv : InstsV wx (some ⟨g, 0, none⟩) [oneI]) => encode_any 3 9 (some ⟨g, 0, none⟩) 1 c [oneI] wx (by decide) (by decide) (by decide) (by decide) hv oneI_ok rfl (by decide)
  rw [oneB_shape, oneB_enc] at hEn
  have hSh := fun wx g c (hv : InstsV wx (some ⟨g, 0, none⟩) [oneI]) => codeShape_any 3 9 (some ⟨g, 0, none⟩) 1 c [oneI] wx (by decide) (by decide) (by decide) (by decide) hv oneI_ok rfl (by decide)
  rw [oneB_shape] at hSh
  have hDe := fun wx a c (hv : View .u8 wx a oneB) => decode_any a 40 c oneB wx hv rfl oneB_within
  rw [oneB_dec, oneB_insts, oneB_head.1, oneB_head.2] at hDe
  have hMo := fun wx ax ay cx cy (hx : InstsV wx ax [oneI]) (hy : InstsV wx ay [oneI]) => kitModule_any 3 9 3 9 [oneI] [oneI] ax ay 1 1 cx cy wx hx hy rfl rfl oneI_ok oneI_ok (by decide) (by decide) true (by simp)
  have hmix : Tryz.prog.follows .mixedOrders = true := by kernel_rfl
  have hbl : oneB.length = 40 := rfl
  unfold modV at *
  refine (callsIn_wide (n := 0)).1 ?_
  refine callsIn_of_wp_marks Tryz.func10 rfl trivial ?_ rfl
  simp only [Tryz.ntmps10, List.size_toArray, List.length_cons, List.length_nil, Nat.reduceAdd, Nat.reduceSub, Array.replicate_succ, Array.replicate_zero, List.push_toArray, List.append_toArray, List.nil_append, List.cons_append]
  gi_wp2_with fail
  refine ⟨trivial, rfl, (callsIn_wide.2 (hO _)).mono ?_⟩
  rintro e w1 ⟨g1, c1, rfl, hv1, hb1⟩
  have hC1 := hEn w1 g1 c1 hv1
  gi_wp2_with fail
  refine ⟨trivial, rfl, (callsIn_wide.2 hC1).mono ?_⟩
  rintro e w2 ⟨hb2, ax, m, rfl, hm, hown2⟩
  obtain rfl : 40 = m := by rw [← hm, hbl]
  have hv2 := View.ofOwn hown2 hbl
  have hb2a : Below w2.heap.size w2 (w2.alloc (.cells #[.int .i64 0, .int .i64 0] 29)) := (Below.refl _ w2).alloc (Nat.le_refl _) _
  have kS := alloc_new w2 #[.int .i64 0, .int .i64 0] 29
  have hC2 := hDe _ ax 40 (hv2.below hb2a)
  have hB2 := (hb1.trans (hb2.mono hb1.size)).trans (hb2a.mono (hb1.trans (hb2.mono hb1.size)).size)
  have HKS : Hid _ := kS
  have HB2 : Hid _ := hB2
  have hz : ((0 : Nat) : Int) = 0 := rfl
  have lS : w2.heap.size < (w2.alloc (.cells #[.int .i64 0, .int .i64 0] 29)).heap.size := by simp
  clear hC1 hEn hDe hv1 hb1 hb2 hown2 hv2 hb2a kS hB2 hm
  gi_wp2_with fail
  have kS := HKS.out
  have hB2 := HB2.out
  clear HKS HB2
  generalize w2.alloc (.cells #[.int .i64 0, .int .i64 0] 29) = W2 at *
  refine ⟨trivial, rfl, (callsIn_wide.2 hC2).mono ?_⟩
  rintro e w3 ⟨hb3, ay, m, cy, rfl, hm, hO3⟩
  obtain rfl : 1 = m := hm
  have hv3 := hO3.view
  have s3 := hb3.size
  have kS3 := (hb3.block _ lS).trans kS
  have hB3 := hB2.trans (hb3.mono hB2.size)
  have hb4 : Below w3.heap.size w3 ((w3.alloc (.cells #[.int .u32 3, .int .u32 9, .slice ay 1 cy] 26)).alloc (.cells #[.int .i64 0, .int .i64 0] 29)) := ((Below.refl _ w3).alloc (Nat.le_refl _) _).alloc (by simp) _
  have HKS4 : Hid _ := (hb4.block _ (by omega)).trans kS3
  have HKM4 : Hid (((w3.alloc (.cells #[.int .u32 3, .int .u32 9, .slice ay 1 cy] 26)).alloc (.cells #[.int .i64 0, .int .i64 0] 29)).heap[w3.heap.size]? = some (.cells #[.int .u32 3, .int .u32 9, .slice ay 1 cy] 26 (0, 0))) := (Below.heap_alloc _ _ _ (by simp)).trans (alloc_new w3 _ _)
  have HKT4 : Hid (((w3.alloc (.cells #[.int .u32 3, .int .u32 9, .slice ay 1 cy] 26)).alloc (.cells #[.int .i64 0, .int .i64 0] 29)).heap[w3.heap.size + 1]? = some (.cells #[.int .i64 0, .int .i64 0] 29 (0, 0))) := by show _ = _; simpa using alloc_new (w3.alloc (.cells #[.int .u32 3, .int .u32 9, .slice ay 1 cy] 26)) #[.int .i64 0, .int .i64 0] 29
  have HV4 : Hid (InstsV _ ay [oneI]) := hv3.below hb4
  have HB4 : Hid _ := hB3.trans (hb4.mono hB3.size)
  clear hC2 hb3 hO3 hv3 kS kS3 hB2 hB3 hb4
  gi_wp2_with fail
  have kS := HKS4.out
  have kM := HKM4.out
  have kT := HKT4.out
  have hV := HV4.out
  have hB := HB4.out
  clear HKS4 HKM4 HKT4 HV4 HB4
  generalize (w3.alloc (.cells #[.int .u32 3, .int .u32 9, .slice ay 1 cy] 26)).alloc (.cells #[.int .i64 0, .int .i64 0] 29) = W at *
  have l1 := (Array.getElem?_eq_some_iff.1 kS).1
  have l2 := (Array.getElem?_eq_some_iff.1 kM).1
  have l3 := (Array.getElem?_eq_some_iff.1 kT).1
  have hC0 : Below W.heap.size W W.drew := below_drew W
  have LS : Hid (∀ w', Below W.heap.size W w' → w'.cell? ⟨w2.heap.size, 0, none⟩ = some (.int .i64 0)) := fun w' hC => (one_block ((hC.block _ l1).trans kS)).1 0
  have LT : Hid (∀ w', Below W.heap.size W w' → w'.cell? ⟨w3.heap.size + 1, 0, none⟩ = some (.int .i64 0)) := fun w' hC => (one_block ((hC.block _ l3).trans kT)).1 0
  have LM : Hid (∀ w', Below W.heap.size W w' → w'.cell? ⟨w3.heap.size, 0, none⟩ = some (.int .u32 3) ∧ w'.cell? ⟨w3.heap.size, 1, none⟩ = some (.int .u32 9) ∧ w'.cell? ⟨w3.heap.size, 2, none⟩ = some (.slice ay 1 cy)) := fun w' hC => by
    obtain ⟨hc, _⟩ := one_block ((hC.block _ l2).trans kM)
    exact ⟨hc 0, hc 1, hc 2⟩
  refine wpIn_normal (wpIn_region_any hmix (wpAnyC_sound (C := Below W.heap.size W) _ _ _ _ ?_))
  change wpAnyC _ _ _ _ _ _ _ _ _ _ (World.drew _)
  refine wpAnyC_takeD (i := 0) (some 15) (v := .pointer (some ⟨w2.heap.size, 0, none⟩)) (fun _ => trivial) (by kernel_rfl) rfl rfl (by kernel_rfl) (by kernel_rfl) (by kernel_rfl) (fun _ _ _ h => by cases h.1) hC0 (Or.inl ⟨by kernel_rfl, fun w' hC => by clear hC; go_simp⟩) ?_
  simp only [Act.put, List.setIfInBounds_toArray, List.set_cons_succ, List.set_cons_zero]
  refine wpAnyC_takeD (i := 1) (some 16) (v := .int .i64 0) (fun _ => trivial) (by kernel_rfl) rfl rfl (by kernel_rfl) (by kernel_rfl) (by kernel_rfl) (fun _ _ _ h => by cases h.1) hC0 (Or.inl ⟨by kernel_rfl, fun w' hC => by have e := LS.out w' hC; clear hC; go_simp⟩) ?_
  simp only [Act.put, List.setIfInBounds_toArray, List.set_cons_succ, List.set_cons_zero]
  refine wpAnyC_takeD (i := 2) (some 17) (v := .bool true) (fun _ => trivial) (by kernel_rfl) rfl rfl (by kernel_rfl) (by kernel_rfl) (by kernel_rfl) (fun _ _ _ h => by cases h.1) hC0 (Or.inl ⟨by kernel_rfl, fun w' hC => by clear hC; go_simp⟩) ?_
  simp only [Act.put, List.setIfInBounds_toArray, List.set_cons_succ, List.set_cons_zero]
  refine wpAnyC_takeD (i := 3) (some 18) (v := .bool true) (fun _ => trivial) (by kernel_rfl) rfl rfl (by kernel_rfl) (by kernel_rfl) (by kernel_rfl) (fun _ _ _ h => by cases h.1) hC0 (Or.inl ⟨by kernel_rfl, fun w' hC => by clear hC; go_simp⟩) ?_
  simp only [Act.put, List.setIfInBounds_toArray, List.set_cons_succ, List.set_cons_zero]
  refine wpAnyC_takeD (i := 4) (some 19) (v := .pointer (some ⟨w3.heap.size + 1, 0, none⟩)) (fun _ => trivial) (by kernel_rfl) rfl rfl (by kernel_rfl) (by kernel_rfl) (by kernel_rfl) (fun _ _ _ h => by cases h.1) hC0 (Or.inl ⟨by kernel_rfl, fun w' hC => by clear hC; go_simp⟩) ?_
  simp only [Act.put, List.setIfInBounds_toArray, List.set_cons_succ, List.set_cons_zero]
  refine wpAnyC_takeD (i := 5) (some 20) (v := .int .i64 0) (fun _ => trivial) (by kernel_rfl) rfl rfl (by kernel_rfl) (by kernel_rfl) (by kernel_rfl) (fun _ _ _ h => by cases h.1) hC0 (Or.inl ⟨by kernel_rfl, fun w' hC => by have e := LT.out w' hC; clear hC; go_simp⟩) ?_
  simp only [Act.put, List.setIfInBounds_toArray, List.set_cons_succ, List.set_cons_zero]
  refine wpAnyC_takeD (i := 6) (some 21) (v := .bool true) (fun _ => trivial) (by kernel_rfl) rfl rfl (by kernel_rfl) (by kernel_rfl) (by kernel_rfl) (fun _ _ _ h => by cases h.1) hC0 (Or.inl ⟨by kernel_rfl, fun w' hC => by clear hC; go_simp⟩) ?_
  simp only [Act.put, List.setIfInBounds_toArray, List.set_cons_succ, List.set_cons_zero]
  refine wpAnyC_takeD (i := 7) (some 22) (v := .bool true) (fun _ => trivial) (by kernel_rfl) rfl rfl (by kernel_rfl) (by kernel_rfl) (by kernel_rfl) (fun _ _ _ h => by cases h.1) hC0 (Or.inl ⟨by kernel_rfl, fun w' hC => by clear hC; go_simp⟩) ?_
  simp only [Act.put, List.setIfInBounds_toArray, List.set_cons_succ, List.set_cons_zero]
  refine wpAnyC_takeD (i := 8) (some 23) (v := .bool true) (fun _ => trivial) (by kernel_rfl) rfl rfl (by kernel_rfl) (by kernel_rfl) (by kernel_rfl) (fun _ _ _ h => by cases h.1) hC0 (Or.inl ⟨by kernel_rfl, fun w' hC => by clear hC; go_simp⟩) ?_
  simp only [Act.put, List.setIfInBounds_toArray, List.set_cons_succ, List.set_cons_zero]
  refine wpAnyC_takeD (i := 9) (some 24) (v := .slice ax 40 40) (fun _ => trivial) (by kernel_rfl) rfl rfl (by kernel_rfl) (by kernel_rfl) (by kernel_rfl) (fun _ _ _ h => by cases h.1) hC0 (Or.inl ⟨by kernel_rfl, fun w' hC => by clear hC; go_simp⟩) ?_
  simp only [Act.put, List.setIfInBounds_toArray, List.set_cons_succ, List.set_cons_zero]
  refine wpAnyC_takeD (i := 10) (some 25) (v := .int .i64 40) (fun _ => trivial) (by kernel_rfl) rfl rfl (by kernel_rfl) (by kernel_rfl) (by kernel_rfl) (fun _ _ _ h => by cases h.1) hC0 (Or.inl ⟨by kernel_rfl, fun w' hC => by clear hC; go_simp⟩) ?_
  simp only [Act.put, List.setIfInBounds_toArray, List.set_cons_succ, List.set_cons_zero]
  refine wpAnyC_takeD (i := 11) (some 26) (v := .bool true) (fun _ => trivial) (by kernel_rfl) rfl rfl (by kernel_rfl) (by kernel_rfl) (by kernel_rfl) (fun _ _ _ h => by cases h.1) hC0 (Or.inl ⟨by kernel_rfl, fun w' hC => by clear hC; go_simp⟩) ?_
  simp only [Act.put, List.setIfInBounds_toArray, List.set_cons_succ, List.set_cons_zero]
  refine wpAnyC_takeD (i := 12) (some 27) (v := .bool true) (fun _ => trivial) (by kernel_rfl) rfl rfl (by kernel_rfl) (by kernel_rfl) (by kernel_rfl) (fun _ _ _ h => by cases h.1) hC0 (Or.inl ⟨by kernel_rfl, fun w' hC => by clear hC; go_simp⟩) ?_
  simp only [Act.put, List.setIfInBounds_toArray, List.set_cons_succ, List.set_cons_zero]
  refine wpAnyC_takeD (i := 13) (some 28) (v := .bool true) (fun _ => trivial) (by kernel_rfl) rfl rfl (by kernel_rfl) (by kernel_rfl) (by kernel_rfl) (fun _ _ _ h => by cases h.1) hC0 (Or.inl ⟨by kernel_rfl, fun w' hC => by clear hC; go_simp⟩) ?_
  simp only [Act.put, List.setIfInBounds_toArray, List.set_cons_succ, List.set_cons_zero]
  refine wpAnyC_takeD (i := 14) (some 29) (v := .agg #[.int .u32 3, .int .u32 9, .slice ay 1 cy]) (fun _ => trivial) (by kernel_rfl) rfl rfl (by kernel_rfl) (by kernel_rfl) (by kernel_rfl) (fun _ _ _ h => by cases h.1) hC0 (Or.inl ⟨by kernel_rfl, fun w' hC => by obtain ⟨e0, e1, e2⟩ := LM.out w' hC; clear hC; go_simp⟩) ?_
  simp only [Act.put, List.setIfInBounds_toArray, List.set_cons_succ, List.set_cons_zero]
  refine wpAnyC_ready (rs := [15]) (by kernel_rfl) (by simp) ?_
  refine AllC.cons rfl (fun K hK => ?_) AllC.nil
  go_simp
  refine ⟨trivial, rfl, (callsIn_wide.2 (hO _)).mono ?_⟩
  rintro e w5 ⟨g5, c5, rfl, hv5, hb5⟩
  dsimp only
  have hC5 : Below W.heap.size W w5 := hC0.trans hb5
  refine hK _ _ hC5 ?_
  clear hK K hb5
  refine wpAnyC_ready (rs := [16]) (by kernel_rfl) (by simp) ?_
  refine AllC.cons rfl (fun K hK => ?_) AllC.nil
  go_simp
  refine ⟨trivial, rfl, (callsIn_wide.2 (hMo _ _ _ _ _ (hV.below hC5) hv5)).mono ?_⟩
  rintro e w6 ⟨rfl, hb6⟩
  dsimp only
  have hC6 : Below W.heap.size W w6 := hC5.trans (hb6.mono hC5.size)
  refine hK _ _ hC6 ?_
  clear hK K hb6
  refine wpAnyC_takeD (i := 17) (some 32) (v := .bool true) (fun _ => trivial) (by kernel_rfl) rfl rfl (by kernel_rfl) (by kernel_rfl) (by kernel_rfl) (fun _ _ _ h => by cases h.1) hC6 (Or.inl ⟨by kernel_rfl, fun w' hC => by clear hC; go_simp⟩) ?_
  simp only [Act.put, List.setIfInBounds_toArray, List.set_cons_succ, List.set_cons_zero]
  refine wpAnyC_takeD (i := 18) (some 33) (v := .bool true) (fun _ => trivial) (by kernel_rfl) rfl rfl (by kernel_rfl) (by kernel_rfl) (by kernel_rfl) (fun _ _ _ h => by cases h.1) hC6 (Or.inl ⟨by kernel_rfl, fun w' hC => by clear hC; go_simp⟩) ?_
  simp only [Act.put, List.setIfInBounds_toArray, List.set_cons_succ, List.set_cons_zero]
  refine wpAnyC_ready (rs := [19]) (by kernel_rfl) (by simp) ?_
  refine AllC.cons rfl (fun K hK => ?_) AllC.nil
  go_simp
  refine ⟨trivial, rfl, (callsIn_wide.2 (hO _)).mono ?_⟩
  rintro e w7 ⟨g7, c7, rfl, hv7, hb7⟩
  dsimp only
  have hC7 : Below W.heap.size W w7 := hC6.trans (hb7.mono hC6.size)
  refine hK _ _ hC7 ?_
  clear hK K hb7
  refine wpAnyC_ready (rs := [20]) (by kernel_rfl) (by simp) ?_
  refine AllC.cons rfl (fun K hK => ?_) AllC.nil
  go_simp
  refine ⟨trivial, rfl, (callsIn_wide.2 (hSh _ _ _ hv7)).mono ?_⟩
  rintro e w8 ⟨rfl, hb8⟩
  dsimp only
  have hC8 : Below W.heap.size W w8 := hC7.trans (hb8.mono hC7.size)
  refine hK _ _ hC8 ?_
  clear hK K hb8
  refine wpAnyC_takeD (i := 21) (some 36) (v := .int .i64 0) (fun _ => trivial) (by kernel_rfl) rfl rfl (by kernel_rfl) (by kernel_rfl) (by kernel_rfl) (fun _ _ _ h => by cases h.1) hC8 (Or.inl ⟨by kernel_rfl, fun w' hC => by clear hC; simp only [execOp]; go_simp; simp [field_zero]⟩) ?_
  simp only [Act.put, List.setIfInBounds_toArray, List.set_cons_succ, List.set_cons_zero]
  refine wpAnyC_takeD (i := 22) (some 37) (v := .bool true) (fun _ => trivial) (by kernel_rfl) rfl rfl (by kernel_rfl) (by kernel_rfl) (by kernel_rfl) (fun _ _ _ h => by cases h.1) hC8 (Or.inl ⟨by kernel_rfl, fun w' hC => by clear hC; go_simp⟩) ?_
  simp only [Act.put, List.setIfInBounds_toArray, List.set_cons_succ, List.set_cons_zero]
  refine wpAnyC_takeD (i := 23) (some 38) (v := .bool true) (fun _ => trivial) (by kernel_rfl) rfl rfl (by kernel_rfl) (by kernel_rfl) (by kernel_rfl) (fun _ _ _ h => by cases h.1) hC8 (Or.inl ⟨by kernel_rfl, fun w' hC => by clear hC; go_simp⟩) ?_
  simp only [Act.put, List.setIfInBounds_toArray, List.set_cons_succ, List.set_cons_zero]
  refine wpAnyC_takeD (i := 24) (some 0) (v := .bool true) (fun _ => trivial) (by kernel_rfl) rfl rfl (by kernel_rfl) (by kernel_rfl) (by kernel_rfl) (fun _ _ _ h => by cases h.1) hC8 (Or.inl ⟨by kernel_rfl, fun w' hC => by clear hC; go_simp⟩) ?_
  simp only [Act.put, List.setIfInBounds_toArray, List.set_cons_succ, List.set_cons_zero]
  refine wpAnyC_done (by kernel_rfl) ⟨rfl, ?_⟩ _
  have HBF : Hid _ := hB.trans (hC8.mono hB.size)
  clear hC0 hC5 hC6 hC7 hC8 hB hV kS kM kT hv5 hv7
  gi_wp2_with fail
  exact ⟨.bool true, by simp [results, Tryz.results10, go_sem], rfl, HBF.out⟩

end Go.Proofs.YteafjokpkljfcaaGreat
