/-
  Texts laid together in one: CodeEncode, Law04Awake, MathL, LexBuilder, PrintPage.
-/
import Derived.WalkSpells
import Derived.WalkMore
import Derived.BigRegion
import Derived.Deep.RegionWith
import Derived.Deep.DrawnRows
import Derived.Test.YtddkapkkjhomkabGreatDoorM13
import Derived.Test.YtddkapkkjhomkabGreatDoorM11
import Derived.Test.YtddkapkkjhomkabGreatDoorM06
import Derived.WalkKit
import Derived.OwnWalkIn
import Derived.TacticsInMore
import Derived.Test.YtddkapkkjhomkabGreatDoorM02
import Derived.Test.YtddkapkkjhomkabGreatDoorM14
import Derived.Test.YtddkapkkjhomkabGreatDoorM01
import Derived.Test.YtddkapkkjhomkabGreatDoorM05
import Derived.Shelf.Strings.BuilderK
import Derived.Test.YtddkapkkjhomkabGreatDoorProg
set_option linter.unusedVariables false
set_option linter.unusedSimpArgs false
set_option maxRecDepth 10000
namespace Go.Proofs.YtddkapkkjhomkabGreatDoor
open Go.RowKit

def encW (gen b:Int) (l:List InstT):List Int:=writeTo gen b (rawsL b l) l.length
def encL (gen b:Int) (l:List InstT):List Int:=if (shapeE b l).1=0 then joinL (encW gen b l) else []
theorem encW_within {gen b:Int} {l:List InstT} (hg0:0≤gen) (hg1:gen < 4294967296) (hb0:0≤b) (hb1:b < 4294967296) (hok:InstsOk l):Within 4294967296 (encW gen b l):=by
 have:=writeTo_within gen b hg0 hg1 hb0 hb1 (rawsL b l) (rawsL_ok b hok) (fun j hj=>by rw [rawsL_len] at hj;rw [nthR_raws b l j hj];exact rawWs_len _ _)
 rw [rawsL_len] at this
 exact this
theorem encW_len {gen b:Int} {l:List InstT} (h:(shapeE b l).1=0):(encW gen b l).length≤1048576∧5≤(encW gen b l).length:=by
 have h1:=writeTo_len gen b (rawsL b l) l.length (by rw [rawsL_len];exact Nat.le_refl _)
 have h2:=shape_few h
 have h3:=sizeTo_ge (rawsL b l) l.length (by rw [rawsL_len];exact Nat.le_refl _)
 unfold encW
 omega
set_option maxHeartbeats 2000000 in
theorem codeShape_any (gen bound:Int) (a:Option Addr) (n cap:Nat) (l:List InstT) (w:World) (hg0:0≤gen) (hg1:gen < 4294967296) (hb0:0≤bound) (hb1:bound < 4294967296) (hv:InstsV w a l) (hok:InstsOk l) (hl:l.length=n) (hn:40 * n≤140737488351232) :
  Calls Tryz.prog 24 #[modV gen bound a n cap] w fun e w'=>e=.returned (.agg #[.int .i64 (shapeE bound l).1,.int .i64 (shapeE bound l).2])∧Below w.heap.size w w':=by
 have hR:=fun wx (hb:Below w.heap.size w wx)=>raws_any gen bound a n cap l wx hg0 hg1 hb0 hb1 (hv.below hb) hok hl hn
 generalize (shapeE bound l).1=e1 at *
 generalize (shapeE bound l).2=e2 at *
 have HL:Hid (l.length=n):=hl
 unfold modV at *
 clear hv hok hl
 have hB0:Below w.heap.size w ((w.alloc (.cells #[.int .u32 gen,.int .u32 bound,.slice a n cap] 25)).alloc (.cells #[.int .i64 0,.int .i64 0] 28)):=((Below.refl _ w).alloc (Nat.le_refl _) _).alloc (by simp) _
 have hC:=hR _ hB0
 have kX:((w.alloc (.cells #[.int .u32 gen,.int .u32 bound,.slice a n cap] 25)).alloc (.cells #[.int .i64 0,.int .i64 0] 28)).heap[w.heap.size+1]?=some (.cells #[.int .i64 0,.int .i64 0] 28 (0,0)):=by simpa using alloc_new (w.alloc (.cells #[.int .u32 gen,.int .u32 bound,.slice a n cap] 25)) #[.int .i64 0,.int .i64 0] 28
 have HB0:Hid _:=hB0
 have HX:Hid _:=kX
 clear hR hB0 kX
 go_enter Tryz.func24,Tryz.ntmps24
 go_wp2_with fail
 have hB0:=HB0.out
 have kX:=HX.out
 clear HB0 HX
 generalize (w.alloc (.cells #[.int .u32 gen,.int .u32 bound,.slice a n cap] 25)).alloc (.cells #[.int .i64 0,.int .i64 0] 28)=W0 at *
 refine hC.mono ?_
 rintro e w1 ⟨hb1',ax,cx,m,rfl,hm,_,hV1⟩
 have l0:=(Array.getElem?_eq_some_iff.1 kX).1
 have s1:=hb1'.size
 have hb2:Below W0.heap.size W0 (w1.alloc (.cells #[.int .i64 e1,.int .i64 e2] 28)):=hb1'.alloc s1 _
 have kX2:=(hb2.block _ l0).trans kX
 obtain ⟨d0,d1,_⟩:=cell_of_two (alloc_new w1 #[.int .i64 e1,.int .i64 e2] 28)
 obtain ⟨hcX,hfX⟩:=one_block kX2
 have c0:=hcX 0
 have c1:=hcX 1
 have f0:=hfX 0
 have f1:=hfX 1
 have hBel:=hB0.trans (hb2.mono hB0.size)
 have hB3:=two_put2 kX2 (.int .i64 e1) (.int .i64 e2)
 have hBel2:=hBel.trans ((two_below (w1.alloc (.cells #[.int .i64 e1,.int .i64 e2] 28)) (w.heap.size+1) (.int .i64 e1) (.int .i64 e2)).mono (by omega))
 have HB3:Hid _:=hB3
 have HBel2:Hid _:=hBel2
 have hne:w1.heap.size≠w.heap.size+1:=by omega
 clear hC hb1' hb2 kX kX2 hcX hfX hB0 hBel hB3 hBel2 hV1 hm
 go_wp2
 have hB3:=HB3.out
 have hBel:=HBel2.out
 clear HB3 HBel2 c0 c1 f0 f1 d0 d1
 generalize ((w1.alloc _).setCell _ _).setCell _ _=W at hB3 hBel ⊢
 obtain ⟨hd,_⟩:=one_block hB3
 have d0:=hd 0
 have d1:=hd 1
 refine bodyPost_ret (v:=.agg #[.int .i64 e1,.int .i64 e2]) ?_ rfl ⟨rfl,hBel⟩
 simp [results,Tryz.results24,go_sem,d0,d1]
set_option maxHeartbeats 4000000 in
/-- Of a module that is not of good shape. -/
theorem encode_bad (gen bound:Int) (a:Option Addr) (n cap:Nat) (l:List InstT) (w:World) (hg0:0≤gen) (hg1:gen < 4294967296) (hb0:0≤bound) (hb1:bound < 4294967296) (hv:InstsV w a l) (hok:InstsOk l) (hl:l.length=n) (hn:40 * n≤140737488351232) (he:(shapeE bound l).1≠0) :
  Calls Tryz.prog 22 #[modV gen bound a n cap] w fun e w'=>e=.returned (.tuple #[.slice none 0 0,.agg #[.int .i64 (shapeE bound l).1,.int .i64 (shapeE bound l).2]])∧Below w.heap.size w w':=by
 have hR:=fun wx (hb:Below w.heap.size w wx)=>raws_any gen bound a n cap l wx hg0 hg1 hb0 hb1 (hv.below hb) hok hl hn
 have heb:((shapeE bound l).1 == 0)=false:=by simpa using he
 generalize (shapeE bound l).1=e1 at *
 generalize (shapeE bound l).2=e2 at *
 have HL:Hid (l.length=n):=hl
 unfold modV at *
 clear hv hok hl he
 have hB0:Below w.heap.size w ((w.alloc (.cells #[.int .u32 gen,.int .u32 bound,.slice a n cap] 25)).alloc (.cells #[.int .i64 0,.int .i64 0] 28)):=((Below.refl _ w).alloc (Nat.le_refl _) _).alloc (by simp) _
 have hC:=hR _ hB0
 have kX:((w.alloc (.cells #[.int .u32 gen,.int .u32 bound,.slice a n cap] 25)).alloc (.cells #[.int .i64 0,.int .i64 0] 28)).heap[w.heap.size+1]?=some (.cells #[.int .i64 0,.int .i64 0] 28 (0,0)):=by simpa using alloc_new (w.alloc (.cells #[.int .u32 gen,.int .u32 bound,.slice a n cap] 25)) #[.int .i64 0,.int .i64 0] 28
 have HB0:Hid _:=hB0
 have HX:Hid _:=kX
 clear hR hB0 kX
 go_enter Tryz.func22,Tryz.ntmps22
 go_wp2_with fail
 have hB0:=HB0.out
 have kX:=HX.out
 clear HB0 HX
 generalize (w.alloc (.cells #[.int .u32 gen,.int .u32 bound,.slice a n cap] 25)).alloc (.cells #[.int .i64 0,.int .i64 0] 28)=W0 at *
 refine hC.mono ?_
 rintro e w1 ⟨hb1',ax,cx,m,rfl,hm,_,hV1⟩
 have l0:=(Array.getElem?_eq_some_iff.1 kX).1
 have s1:=hb1'.size
 have hb2:Below W0.heap.size W0 (w1.alloc (.cells #[.int .i64 e1,.int .i64 e2] 28)):=hb1'.alloc s1 _
 have kX2:=(hb2.block _ l0).trans kX
 obtain ⟨d0,d1,_⟩:=cell_of_two (alloc_new w1 #[.int .i64 e1,.int .i64 e2] 28)
 obtain ⟨hcX,hfX⟩:=one_block kX2
 have c0:=hcX 0
 have c1:=hcX 1
 have f0:=hfX 0
 have f1:=hfX 1
 have hBel:=hB0.trans (hb2.mono hB0.size)
 have hB3:=two_put2 kX2 (.int .i64 e1) (.int .i64 e2)
 have hBel2:=(hBel.trans ((two_below (w1.alloc (.cells #[.int .i64 e1,.int .i64 e2] 28)) (w.heap.size+1) (.int .i64 e1) (.int .i64 e2)).mono (by omega))).drew
 have HB3:Hid _:=hB3
 have HBel2:Hid _:=hBel2
 have hne:w1.heap.size≠w.heap.size+1:=by omega
 clear hC hb1' hb2 kX kX2 hcX hfX hB0 hBel hB3 hBel2 hV1 hm
 go_wp2
 go_region
 go_wp2
 have hB3:((((w1.alloc (.cells #[.int .i64 e1,.int .i64 e2] 28)).setCell ⟨w.heap.size+1,0,none⟩ (.int .i64 e1)).setCell ⟨w.heap.size+1,1,none⟩ (.int .i64 e2)).drew).heap[w.heap.size+1]?=some (.cells #[.int .i64 e1,.int .i64 e2] 28 (0,0)):=HB3.out
 have hBel:=HBel2.out
 clear HB3 HBel2 c0 c1 f0 f1 d0 d1
 generalize (((w1.alloc _).setCell _ _).setCell _ _).drew=W at hB3 hBel ⊢
 obtain ⟨hd,_⟩:=one_block hB3
 have d0:=hd 0
 have d1:=hd 1
 refine bodyPost_ret (v:=.tuple #[.slice none 0 0,.agg #[.int .i64 e1,.int .i64 e2]]) ?_ rfl ⟨rfl,hBel⟩
 simp [results,Tryz.results22,go_sem,d0,d1]
set_option maxHeartbeats 4000000 in
/-- Of a module of good shape. -/
theorem encode_ok (gen bound : Int) (a : Option Addr) (n cap : Nat) (l : List InstT) (w : World) (hg0 : 0 ≤ gen) (hg1 : gen < 4294967296) (hb0 : 0 ≤ bound) (hb1 : bound < 4294967296) (hv : InstsV w a l) (hok : InstsOk l) (hl : l.length = n) (hn : 40 * n ≤ 140737488351232) (he : shapeE bound l = (0, 0)) :
    Calls Tryz.prog 22 #[modV gen bound a n cap] w fun e w' => Below w.heap.size w w' ∧ ∃ g m, e = .returned (.tuple #[.slice (some ⟨g, 0, none⟩) m m, .agg #[.int .i64 0, .int .i64 0]]) ∧ (joinL (encW gen bound l)).length = m ∧ w'.ownsRow w.heap.size 5 1 (.slice (some ⟨g, 0, none⟩) m m) m ((joinL (encW gen bound l)).map (Value.int .u8)) := by
  have hR := fun wx (hb : Below w.heap.size w wx) => raws_any gen bound a n cap l wx hg0 hg1 hb0 hb1 (hv.below hb) hok hl hn
  have eR : rawsR bound l = rawsL bound l := by unfold rawsR; rw [he, if_pos rfl]
  have h0 : (shapeE bound l).1 = 0 := by rw [he]
  have eW : writeE bound (rawsL bound l) = (0, 0) := by
    obtain ⟨h1, h2⟩ := shape_bound h0
    unfold writeE
    rw [if_neg (by rintro (h | h)
                   · exact h1 h
                   · exact h2 h), fault_shape h0]
  have eL : writeL gen bound (rawsL bound l) = encW gen bound l := by unfold writeL encW; rw [eW, if_pos rfl, rawsL_len]
  have hfew := shape_few h0
  have hwl := encW_len (gen := gen) h0
  have hww := encW_within (l := l) hg0 hg1 hb0 hb1 hok
  rw [he, eR] at hR
  have hH := fun w => headOf_any gen bound a n cap w
  have hWr := fun ax m cx wx (h1 : RawsV wx ax (rawsL bound l)) (h2 : l.length = m) (h3 : m ≤ cx) => writeC gen bound ax m cx (rawsL bound l) wx hg0 hg1 hb0 hb1 h1 (rawsL_ok bound hok) (by rw [rawsL_len]; exact h2) (by omega) h3
  rw [eW, eL] at hWr
  have hrl := rawsL_len bound l
  have hJ := fun ax m cx wx (h1 : View .u32 wx ax (encW gen bound l)) (h2 : (encW gen bound l).length = m) => join_any ax m cx (encW gen bound l) wx h1 h2 (by omega) hww
  have hjl := joinL_len (encW gen bound l)
  have HJL : Hid _ := hjl
  have HRL : Hid _ := hrl
  have HWL : Hid _ := hwl
  clear he eR h0 eW eL hww hfew hjl hrl hwl
  have HL : Hid (l.length = n) := hl
  clear hv hok hl
  generalize rawsL bound l = rs at *
  generalize encW gen bound l = ws at *
  unfold modV at *
  have hB0 : Below w.heap.size w ((w.alloc (.cells #[.int .u32 gen, .int .u32 bound, .slice a n cap] 25)).alloc (.cells #[.int .i64 0, .int .i64 0] 28)) := ((Below.refl _ w).alloc (Nat.le_refl _) _).alloc (by simp) _
  have hC := hR _ hB0
  have kX : ((w.alloc (.cells #[.int .u32 gen, .int .u32 bound, .slice a n cap] 25)).alloc (.cells #[.int .i64 0, .int .i64 0] 28)).heap[w.heap.size + 1]? = some (.cells #[.int .i64 0, .int .i64 0] 28 (0, 0)) := by simpa using alloc_new (w.alloc (.cells #[.int .u32 gen, .int .u32 bound, .slice a n cap] 25)) #[.int .i64 0, .int .i64 0] 28
  have kM : ((w.alloc (.cells #[.int .u32 gen, .int .u32 bound, .slice a n cap] 25)).alloc (.cells #[.int .i64 0, .int .i64 0] 28)).heap[w.heap.size]? = some (.cells #[.int .u32 gen, .int .u32 bound, .slice a n cap] 25 (0, 0)) := (Below.heap_alloc _ _ _ (by simp)).trans (alloc_new w _ _)
  have HB0 : Hid _ := hB0
  have HX : Hid _ := kX
  have HM : Hid _ := kM
  clear hR hB0 kX kM
  go_enter Tryz.func22, Tryz.ntmps22
  go_wp2_with fail
  have hB0 := HB0.out
  have kX := HX.out
  have kM := HM.out
  clear HB0 HX HM
  generalize (w.alloc (.cells #[.int .u32 gen, .int .u32 bound, .slice a n cap] 25)).alloc (.cells #[.int .i64 0, .int .i64 0] 28) = W0 at *
  refine hC.mono ?_
  rintro e w1 ⟨hb1', ax, cx, m, rfl, hm, hmc, hV1⟩
  have l0 := (Array.getElem?_eq_some_iff.1 kX).1
  have s1 := hb1'.size
  have hb2 : Below W0.heap.size W0 (w1.alloc (.cells #[.int .i64 0, .int .i64 0] 28)) := hb1'.alloc s1 _
  have kX2 := (hb2.block _ l0).trans kX
  have kM2 := (hb2.block _ (by omega)).trans kM
  have kS2 := alloc_new w1 #[.int .i64 0, .int .i64 0] 28
  have hV2 := hV1.below ((Below.refl _ w1).alloc (Nat.le_refl _) (.cells #[.int .i64 0, .int .i64 0] 28))
  obtain ⟨d0, d1, _⟩ := cell_of_two kS2
  obtain ⟨hcM, _⟩ := one_block kM2
  have m0 := hcM 0
  have m1 := hcM 1
  have m2 := hcM 2
  have hBel := hB0.trans (hb2.mono hB0.size)
  have sW : w1.heap.size < (w1.alloc (.cells #[.int .i64 0, .int .i64 0] 28)).heap.size := by simp
  have HV2 : Hid (RawsV _ ax rs) := hV2
  have HX2 : Hid _ := kX2
  have HS2 : Hid _ := kS2
  have HBel : Hid _ := hBel
  have HMM : Hid _ := hm
  have HMC : Hid _ := hmc
  clear hC hb1' hb2 kX kX2 kM kM2 hcM hB0 hV1 hV2 kS2 hBel hm hmc
  go_wp2_with fail
  have hV2 := HV2.out
  have kX2 := HX2.out
  have kS2 := HS2.out
  have hBel := HBel.out
  clear HV2 HX2 HS2 HBel d0 d1 m0 m1 m2
  generalize w1.alloc (.cells #[.int .i64 0, .int .i64 0] 28) = W2 at *
  refine (hH _).mono ?_
  rintro e w3 ⟨rfl, hb3⟩
  have s3 := hb3.size
  have hV3 := hV2.below hb3
  have kX3 := (hb3.block _ (by omega)).trans kX2
  have kS3 := (hb3.block _ sW).trans kS2
  have hBel3 := hBel.trans (hb3.mono hBel.size)
  have hC2 := hWr ax m cx w3 hV3 (by rw [← HRL.out, HMM.out]) HMC.out
  clear hH hWr hb3 hV2 kX2 kS2 hBel hV3
  go_wp2_with fail
  refine hC2.mono ?_
  rintro e w4 ⟨hb4, ay, cy, m4, rfl, hm4, hown4⟩
  have s4 := hb4.size
  have kX4 := (hb4.block _ (by omega)).trans kX3
  have kS4 := (hb4.block _ (by omega)).trans kS3
  have hBel4 := hBel3.trans (hb4.mono hBel3.size)
  obtain ⟨hcS, hfS⟩ := one_block kS4
  have c0 := hcS 0
  have c1 := hcS 1
  have f0 := hfS 0
  have f1 := hfS 1
  have kS5 := two_put2 kS4 (.int .i64 0) (.int .i64 0)
  have kX5 : ((w4.setCell ⟨w1.heap.size, 0, none⟩ (.int .i64 0)).setCell ⟨w1.heap.size, 1, none⟩ (.int .i64 0)).heap[w.heap.size + 1]? = some (.cells #[.int .i64 0, .int .i64 0] 28 (0, 0)) := (Below.heap_setCell _ _ _ _ (by simp; omega)).trans ((Below.heap_setCell _ _ _ _ (by simp; omega)).trans kX4)
  have hBel5 := hBel4.trans ((two_below w4 w1.heap.size (.int .i64 0) (.int .i64 0)).mono (by omega))
  have hown5 := ownFar (ownFar hown4 (show w1.heap.size < w3.heap.size by omega) 0 (.int .i64 0)) (show w1.heap.size < w3.heap.size by omega) 1 (.int .i64 0)
  have hV5 := View.ofOwn hown5 hm4
  have HS5 : Hid _ := kS5
  have HX5 : Hid _ := kX5
  have HBel5 : Hid _ := hBel5
  have HV5 : Hid (View .u32 _ ay ws) := hV5
  have HM4 : Hid _ := hm4
  clear hC2 hb4 hBel3 hBel4 kX3 kX4 kS3 kS4 hcS hfS hown4 hown5 hV5 kS5 kX5 hBel5 hm4
  have hz : ((0 : Nat) : Int) = 0 := rfl
  go_wp2_with fail
  have kS5 := HS5.out
  have kX5 := HX5.out
  have hBel5 := HBel5.out
  have hV5 := HV5.out
  clear HS5 HX5 HBel5 HV5 c0 c1 f0 f1
  generalize (w4.setCell ⟨w1.heap.size, 0, none⟩ (.int .i64 0)).setCell ⟨w1.heap.size, 1, none⟩ (.int .i64 0) = X at *
  have lX := (Array.getElem?_eq_some_iff.1 kX5).1
  have lS := (Array.getElem?_eq_some_iff.1 kS5).1
  have hJ2 := fun wx (hb : Below X.heap.size X wx) => hJ ay m4 cy wx (hV5.below hb) HM4.out
  obtain ⟨y0, y1, _⟩ := cell_of_two kS5
  have hBd : Below X.heap.size X X.drew := below_drew X
  have HX5 : Hid _ := kX5
  have HBel5 : Hid _ := hBel5
  clear hJ hV5 kX5 hBel5
  go_region_with (go_at_call 47; refine (hJ2 _ (by first | exact Below.refl _ _ | exact (Below.refl _ _).drew)).mono ?_; rintro e w5 ⟨rfl, hown5, hb5⟩; obtain ⟨z0, z1, _⟩ := cell_of_two ((hb5.block _ (by exact lS)).trans kS5); obtain ⟨hcX, hfX⟩ := one_block ((hb5.block _ (by exact lX)).trans HX5.out); have x0 := hcX 0; have x1 := hcX 1; have g0 := hfX 0; have g1 := hfX 1)
  all_goals
    have hB3 := two_put2 ((hb5.block _ (by exact lX)).trans HX5.out) (.int .i64 0) (.int .i64 0)
    have hBw := HBel5.out.trans ((hBd.trans hb5).mono HBel5.out.size)
    have hBel := hBw.trans ((two_below w5 (w.heap.size + 1) (.int .i64 0) (.int .i64 0)).mono (by omega))
    have hO3 := own_lo (ownFar (ownFar hown5 (show w.heap.size + 1 < X.drew.heap.size from lX) 0 (.int .i64 0)) (show w.heap.size + 1 < X.drew.heap.size from lX) 1 (.int .i64 0)) (show w.heap.size ≤ X.drew.heap.size from HBel5.out.size)
    have HB3 : Hid _ := hB3
    have HBE : Hid _ := hBel
    have HO3 : Hid _ := hO3
    clear hB3 hBw hBel hO3 hown5 hb5 y0 y1 z0 z1 x0 x1 g0 g1 hcX hfX kS5 HX5 HBel5 hJ2 hBd
    go_wp2
    have hB3 := HB3.out
    have hBel := HBE.out
    have hO3 := HO3.out
    generalize (w5.setCell ⟨w.heap.size + 1, 0, none⟩ (.int .i64 0)).setCell ⟨w.heap.size + 1, 1, none⟩ (.int .i64 0) = Y at hB3 hBel hO3 ⊢
    obtain ⟨hd, _⟩ := one_block hB3
    have d0 := hd 0
    have d1 := hd 1
    refine bodyPost_ret (v := .tuple #[.slice (some ⟨X.heap.size, 0, none⟩) (4 * m4) (4 * m4), .agg #[.int .i64 0, .int .i64 0]]) ?_ rfl ⟨hBel, X.heap.size, 4 * m4, rfl, by rw [HJL.out, HM4.out], hO3⟩
    simp [results, Tryz.results22, go_sem, d0, d1]
theorem encode_any (gen bound:Int) (a:Option Addr) (n cap:Nat) (l:List InstT) (w:World) (hg0:0≤gen) (hg1:gen < 4294967296) (hb0:0≤bound) (hb1:bound < 4294967296) (hv:InstsV w a l) (hok:InstsOk l) (hl:l.length=n) (hn:40 * n≤140737488351232) :
  Calls Tryz.prog 22 #[modV gen bound a n cap] w fun e w'=>Below w.heap.size w w'∧∃ ax m,e=.returned (.tuple #[.slice ax m m,.agg #[.int .i64 (shapeE bound l).1,.int .i64 (shapeE bound l).2]])∧(encL gen bound l).length=m∧w'.ownsRow w.heap.size 5 1 (.slice ax m m) m ((encL gen bound l).map (Value.int .u8)):=by
 rcases shapeE_any bound l with h | h
 ·refine (encode_ok gen bound a n cap l w hg0 hg1 hb0 hb1 hv hok hl hn h).mono ?_
  rintro e w' ⟨hb,g,m,rfl,hm,hown⟩
  have e1:encL gen bound l=joinL (encW gen bound l):=by unfold encL;rw [h,if_pos rfl]
  rw [h,e1]
  exact ⟨hb,_,m,rfl,hm,hown⟩
 ·refine (encode_bad gen bound a n cap l w hg0 hg1 hb0 hb1 hv hok hl hn h).mono ?_
  rintro e w' ⟨rfl,hb⟩
  have e1:encL gen bound l=[]:=by unfold encL;rw [if_neg h]
  rw [e1]
  exact ⟨hb,none,0,rfl,rfl,World.ownsRow_nil _ _ _ _⟩
end Go.Proofs.YtddkapkkjhomkabGreatDoor
namespace Go.Proofs.YtddkapkkjhomkabGreatDoor
open Go.RowKit Go.Shelf
attribute [local go_sem] Oper.semAt_some

end Go.Proofs.YtddkapkkjhomkabGreatDoor
namespace Go.Proofs.YtddkapkkjhomkabGreatDoor
open Go.RowKit

def letterB (c:Int):Bool:=c == 95 || decide (65≤c∧c≤90) || decide (97≤c∧c≤122)
def digitB (c:Int):Bool:=decide (48≤c∧c≤57)
def blankB (c:Int):Bool:=c == 9 || c == 13 || c == 32
def runB (c:Int):Bool:=letterB c || digitB c
def hexB (c:Int):Bool:=digitB c || decide (97≤c∧c≤102) || decide (65≤c∧c≤70)
def printB (c:Int):Bool:=decide (32≤c∧c≤126)
def worthI (c:Int):Int:=if c≤57 then c - 48 else if 97≤c then c - 87 else c - 55
def dvI (c:Int):Int:=if hexB c then worthI c else 18446744073709551615
def kindL (c:Int):Int:=if letterB c then 3 else if digitB c then 4 else if blankB c then 2 else if c=37 then 5 else if c=45 then 6 else if c=34 then 7 else if c=92 then 8 else if c=61 then 9 else if c=59 then 10 else 1
theorem worth_lo {c:Int} (h:hexB c=true):0≤worthI c:=by
 simp only [hexB,digitB,Bool.or_eq_true,decide_eq_true_eq] at h
 unfold worthI;split
 ·omega
 ·split <;> omega
theorem worth_hi {c:Int} (h:hexB c=true):worthI c < 16:=by
 simp only [hexB,digitB,Bool.or_eq_true,decide_eq_true_eq] at h
 unfold worthI;split
 ·omega
 ·split <;> omega
theorem dv_lo (c:Int):0≤dvI c:=by
 unfold dvI;split
 ·exact worth_lo (by assumption)
 ·omega
theorem dv_hi (c:Int):dvI c < 18446744073709551616:=by
 unfold dvI;split
 ·have:=worth_hi (c:=c) (by assumption);omega
 ·omega
theorem dv_hex (c:Int):dvI c < 16↔hexB c=true:=by
 unfold dvI;split
 ·have:=worth_hi (c:=c) (by assumption)
  constructor
  ·intro _;assumption
  ·intro _;omega
 ·constructor
  ·intro h;omega
  ·intro h;contradiction
theorem digit_hex {c:Int} (h:digitB c=true):hexB c=true:=by simp [hexB,h]
theorem dv_digit (c:Int):dvI c < 10↔digitB c=true:=by
 unfold dvI;split
 ·rename_i h
  simp only [hexB,digitB,Bool.or_eq_true,decide_eq_true_eq] at h ⊢
  unfold worthI;split
  ·constructor <;> intro _ <;> omega
  ·split <;> constructor <;> intro _ <;> omega
 ·rename_i h
  constructor
  ·intro h;omega
  ·intro h';exact absurd (digit_hex h') h
/-! ### numbers in digits -/

def valF (b:Int):Int→List Int→Int
 | n,[]=>n
 | n,c :: r=>valF b (n * b+dvI c) r
def allD (b:Int) (l:List Int):Bool:=l.all fun c=>decide (dvI c < b)
theorem valF_snoc (b n:Int) (l:List Int) (c:Int):valF b n (l ++ [c])=valF b n l * b+dvI c:=by
 induction l generalizing n with
 | nil=>rfl
 | cons x l ih=>simp only [List.cons_append,valF];exact ih _
theorem valF_take (b:Int) (l:List Int) (k:Nat) (h:k < l.length):valF b 0 (l.take (k+1))=valF b 0 (l.take k) * b+dvI (nth l k):=by
 rw [take_snoc l k h,valF_snoc]
theorem valF_ge (b n:Int) (l:List Int) (hb:1≤b) (hn:0≤n):n≤valF b n l:=by
 induction l generalizing n with
 | nil=>exact Int.le_refl _
 | cons c l ih =>
  have h0:=dv_lo c
  have h1:n * 1≤n * b:=Int.mul_le_mul_of_nonneg_left hb hn
  have:=ih (n * b+dvI c) (by omega)
  simp only [valF];omega
theorem valF_lo (b:Int) (l:List Int) (hb:1≤b):0≤valF b 0 l:=valF_ge b 0 l hb (Int.le_refl _)
theorem valF_append (b n:Int) (l m:List Int):valF b n (l ++ m)=valF b (valF b n l) m:=by
 induction l generalizing n with
 | nil=>rfl
 | cons x l ih=>simp only [List.cons_append,valF];exact ih _
theorem valF_take_le (b:Int) (l:List Int) (k:Nat) (hb:1≤b):valF b 0 (l.take k)≤valF b 0 l:=by
 have e:l=l.take k ++ l.drop k:=(List.take_append_drop k l).symm
 have h:=valF_ge b (valF b 0 (l.take k)) (l.drop k) hb (valF_lo b _ hb)
 rw [← valF_append,← e] at h
 exact h
def digsB (b:Int) (l:List Int):Bool:=!l.isEmpty && allD b l && decide (valF b 0 l < 4294967296)
def plainB (l:List Int):Bool:=!(decide (1 < l.length) && nth l 0 == 48) && digsB 10 l
theorem allD_take {b:Int} {l:List Int} (h:allD b l=true) (k:Nat):allD b (l.take k)=true:=by
 simp only [allD,List.all_eq_true] at h ⊢
 exact fun x hx=>h x (List.mem_of_mem_take hx)
theorem allD_at {b:Int} {l:List Int} (h:allD b l=true) {k:Nat} (hk:k < l.length):dvI (nth l k) < b:=by
 simp only [allD,List.all_eq_true,decide_eq_true_eq] at h
 have e:nth l k=l[k]:=by simp [nth,List.getD,hk]
 rw [e];exact h _ (List.getElem_mem hk)
theorem allD_snoc {b:Int} {l:List Int} {k:Nat} (hk:k < l.length) (h:allD b (l.take k)=true) (h1:dvI (nth l k) < b):allD b (l.take (k+1))=true:=by
 rw [take_snoc l k hk]
 simp only [allD,List.all_append,Bool.and_eq_true] at h ⊢
 exact ⟨h,by simpa using h1⟩
theorem digs_not {b:Int} {l:List Int} {k:Nat} (hk:k < l.length) (h1:b≤dvI (nth l k)):digsB b l=false:=by
 cases e:digsB b l
 ·rfl
 ·simp only [digsB,Bool.and_eq_true] at e
  have:=allD_at e.1.2 hk
  omega
theorem digs_large {b:Int} {l:List Int} {k:Nat} (hb:1≤b) (h1:4294967296≤valF b 0 (l.take k)):digsB b l=false:=by
 cases e:digsB b l
 ·rfl
 ·simp only [digsB,Bool.and_eq_true,decide_eq_true_eq] at e
  have:=valF_take_le b l k hb
  omega
theorem digs_all {b:Int} {l:List Int} (h:allD b l=true) (h1:valF b 0 l < 4294967296):digsB b l=!l.isEmpty:=by
 simp [digsB,h,h1]
theorem plain_zero {l:List Int} (h:1 < l.length) (h0:nth l 0=48):plainB l=false:=by simp [plainB,h,h0]
theorem plain_digs {l:List Int} (h:¬ (1 < l.length∧nth l 0=48)):plainB l=digsB 10 l:=by
 have e:(decide (1 < l.length) && nth l 0 == 48)=false:=by
  cases e:(decide (1 < l.length) && nth l 0 == 48)
  ·rfl
  ·simp at e;exact absurd e h
 rw [plainB,e];rfl
def numB (l:List Int):Bool :=
 if l.take 1=[45] then plainB (l.drop 1) && decide (1≤valF 10 0 (l.drop 1)∧valF 10 0 (l.drop 1)≤2147483648)
 else if l.take 2=[48,120] then digsB 16 (l.drop 2) && decide (l.length≤10)
 else plainB l
def numV (l:List Int):Int :=
 if l.take 1=[45] then 4294967296 - valF 10 0 (l.drop 1)
 else if l.take 2=[48,120] then valF 16 0 (l.drop 2)
 else valF 10 0 l
def numOut (l:List Int):Int:=if numB l then numV l else 0
def numErr (l:List Int):Int:=if numB l then 0 else 62
theorem num_bounds {l:List Int} (h:numB l=true):0≤numV l∧numV l < 4294967296:=by
 unfold numB at h;unfold numV
 split at h
 ·rename_i e;rw [if_pos e]
  simp only [Bool.and_eq_true,decide_eq_true_eq] at h
  omega
 ·rename_i e;rw [if_neg e]
  split at h
  ·rename_i e2;rw [if_pos e2]
   simp only [digsB,Bool.and_eq_true,decide_eq_true_eq] at h
   have:=valF_lo 16 (l.drop 2) (by omega)
   omega
  ·rename_i e2;rw [if_neg e2]
   simp only [plainB,digsB,Bool.and_eq_true,decide_eq_true_eq] at h
   have:=valF_lo 10 l (by omega)
   omega
/-! ### strings and their numbers -/

theorem strI_inj {s t:ByteArray} (h:strI s=strI t):s=t:=by rw [← str_of_strI s,← str_of_strI t,h]
theorem strI_of {l:List Int} (h:Within 256 l):strI (strOfNums l)=l:=by
 unfold strI strOfNums
 simp only [List.map_map]
 apply List.ext_getElem (by simp)
 intro k h1 h2
 simp only [List.getElem_map,Function.comp_def]
 have:=h (l[k]) (List.getElem_mem h2)
 have hlt:l[k].toNat < 256:=by omega
 rw [UInt8.toNat_ofNat_of_lt' (by simpa using hlt)]
 omega
theorem strI_extract (s:ByteArray) (a b:Nat):strI (s.extract a b)=((strI s).take b).drop a:=by
 unfold strI
 rw [ByteArray.data_extract]
 simp [List.map_drop,List.map_take,List.extract_eq_take_drop,List.drop_take]
theorem strOfNums_append (a b:List Int):strOfNums (a ++ b)=strOfNums a ++ strOfNums b:=by
 unfold strOfNums
 apply ByteArray.ext
 rw [ByteArray.data_append];simp
end Go.Proofs.YtddkapkkjhomkabGreatDoor
namespace Go.Proofs.YtddkapkkjhomkabGreatDoor
open Go.RowKit Go.Shelf

def Bld (B b:Nat) (zs:List Int) (w:World):Prop:=Lib.IsBuilderF 120 5 B b (zs.map (Value.int .u8)) w
theorem bld_lt {B b:Nat} {zs:List Int} {w:World} (h:Bld B b zs w):b < w.heap.size:=by
 rcases h with h | h
 ·exact h.lt
 ·exact h.lt
theorem bld_new (w:World) (B:Nat) (hB:B≤w.heap.size):Bld B w.heap.size [] (w.alloc (.cells #[.pointer none,.slice none 0 0] 120)) :=
 .inl ⟨hB,.slice none 0 0,heap_alloc_new w _,World.ownsRowF_nil _ _ _ _,by simp [Value.ownBlock]⟩
theorem bld_kept {B b:Nat} {zs:List Int} {w w':World} {row:Option Nat} (h:Bld B b zs w) (hg:w.grownBy w' row) (hb:row≠some b) (hr:∀ r,row=some r→∀ c fz,w.heap[r]?≠some (.cells c 5 fz)):Bld B b zs w':=by
 have key:∀ p,Lib.BuilderAtF 120 5 B b p (zs.map (Value.int .u8)) w→Lib.BuilderAtF 120 5 B b p (zs.map (Value.int .u8)) w':=by
  intro p hp
  have hlt:=hp.lt
  obtain ⟨hB,v,hbk,hown,hne⟩:=hp
  refine ⟨hB,v,(hg.block b hlt (fun e=>hb e.symm)).trans hbk,hown.kept hg ?_,hne⟩
  cases hv:v.ownBlock with
  | none=>exact .inl rfl
  | some g =>
   refine .inr fun e=>?_
   obtain ⟨c,fz,hc⟩:=Lib.ownsRowF_kind hown g hv
   exact hr g e.symm c fz hc
 rcases h with h | h
 ·exact .inl (key _ h)
 ·exact .inr (key _ h)
theorem bld_below {B b:Nat} {zs:List Int} {w w':World} (h:Bld B b zs w) (hb:Below w.heap.size w w'):Bld B b zs w' :=
 bld_kept h (row:=none) ⟨hb.os,hb.tape,hb.output,hb.size,fun k hk _=>hb.block k hk⟩ (by simp) (fun r e=>by cases e)
theorem bld_alloc {B b:Nat} {zs:List Int} {w:World} (h:Bld B b zs w) (o:Obj):Bld B b zs (w.alloc o):=bld_below h ((Below.refl _ w).alloc (Nat.le_refl _) o)
theorem Bld.size:(Tryz.prog.info? 120).map (fun i=>i.size)=some 2:=by kernel_rfl
theorem Bld.lies:liesAt Tryz.prog Tryz.prog.depth 120 (2 / Tryz.prog.cellsOf 120) 0 120 1=true:=by kernel_rfl
theorem Bld.info:(Tryz.prog.info? 5).map (fun i=>(i.zero,i.size,i.bytes))=some (some (.int .u8 0),1,1):=by kernel_rfl
set_option maxHeartbeats 1000000 in
theorem copyCheck_used (b:Nat) (w:World) (h0:w.cell? ⟨b,0,none⟩=some (.pointer (some ⟨b,0,none⟩))) :
  Calls Tryz.prog 102 #[.pointer (some ⟨b,0,none⟩)] w fun e w'=>e=.returned (.tuple #[])∧w=w':=by
 obtain ⟨j,hj,_⟩:=Option.map_eq_some_iff.1 Bld.size
 go_enter Tryz.func102,Tryz.ntmps102
 go_wp2
 rw [Lib.run_neq_ptr_same w _ Tryz.underlying118 hj]
 go_wp2
 go_end0
 exact ⟨rfl,rfl⟩
set_option maxHeartbeats 1000000 in
theorem copyCheck_fresh (b:Nat) (w:World) (h0:w.cell? ⟨b,0,none⟩=some (.pointer none)) (hsh:w.shape? b=some (120,2)) (hfz:w.frozen? ⟨b,0,none⟩=false) :
  Calls Tryz.prog 102 #[.pointer (some ⟨b,0,none⟩)] w fun e w'=>e=.returned (.tuple #[])∧w'=w.setCell ⟨b,0,none⟩ (.pointer (some ⟨b,0,none⟩)):=by
 obtain ⟨j,hj,hjs⟩:=Option.map_eq_some_iff.1 Bld.size
 go_enter Tryz.func102,Tryz.ntmps102
 go_wp2
 rw [Lib.run_to_unsafe w ⟨b,0,none⟩ Tryz.underlying118 Tryz.underlying209 hj (by rw [hjs];decide) hsh (Nat.zero_lt_succ 1)]
 simp only [Result.andThen]
 rw [Oper.upon_value]
 go_wp2
 rw [run_callFunc_extern Tryz.func130 (by kernel_rfl) (by kernel_rfl) (by kernel_rfl) (e:=Extern.AbiNoEscape.same) (by kernel_rfl)]
 rw [Lib.run_noEscape]
 simp only [Result.andThen]
 rw [Oper.upon_value]
 go_wp2
 rw [Lib.run_from_unsafe w ⟨b,0,none⟩ Tryz.underlying209 Tryz.underlying118 hj hsh Bld.lies]
 simp only [Result.andThen]
 rw [Oper.upon_value]
 go_wp2
 go_end0
 exact ⟨rfl,rfl⟩
theorem copyCheck_any (B b:Nat) (bs:List Value) (w:World) (h:Lib.IsBuilderF 120 5 B b bs w) :
  Calls Tryz.prog 102 #[.pointer (some ⟨b,0,none⟩)] w fun e w'=>e=.returned (.tuple #[])∧(Lib.BuilderAtF 120 5 B b (.pointer (some ⟨b,0,none⟩)) bs w'∧Below B w w'∧Lib.OthersKept 5 (some b) w w'):=by
 rcases h with h | h
 ·refine (copyCheck_fresh b w h.cell0 h.shape h.frozen0).mono ?_
  rintro e w' ⟨rfl,rfl⟩
  exact ⟨rfl,h.used _,(Below.refl B w).setCell (p:=⟨b,0,none⟩) h.1 _,(Lib.OthersKept.refl _ _ w).setCell ⟨b,0,none⟩ rfl _⟩
 ·refine (copyCheck_used b w h.cell0).mono ?_
  rintro e w' ⟨rfl,rfl⟩
  exact ⟨rfl,h,Below.refl B _,Lib.OthersKept.refl _ _ _⟩
set_option maxHeartbeats 2000000 in
theorem writeByte_any (B b:Nat) (zs:List Int) (c:Int) (w:World) (h:Bld B b zs w) (hlen:zs.length+1≤140737488355328) (hBw:B≤w.heap.size) :
  Calls Tryz.prog 65 #[.pointer (some ⟨b,0,none⟩),.int .u8 c] w fun e w'=>e=.returned .nilIface∧Bld B b (zs ++ [c]) w'∧Below B w w'∧Lib.OthersKept 5 (some b) w w':=by
 obtain ⟨i0,hi,hz0,hz1,hz2⟩:=info_parts Bld.info
 have hC:=copyCheck_any B b _ w h
 have HL:Hid ((zs.map (Value.int .u8)).length=zs.length):=List.length_map _
 clear h
 go_enter Tryz.func65,Tryz.ntmps65
 go_wp2_with fail
 refine hC.mono ?_
 rintro e w1 ⟨rfl,h1,hb1,hk1⟩
 obtain ⟨hB,v,hbk,hown,hne⟩:=h1
 have c1:w1.cell? ⟨b,1,none⟩=some v:=by rw [Lib.cell_of_heap hbk];rfl
 rw [HL.out] at hown
 clear hC
 go_wp2_with (at_builtin;refine wpList_append_ownF _ rfl _ _ 58 rfl B 5 i0 (.int .u8 0) 1 1 Tryz.underlying58 hi hz0 hz1 hz2 rfl (by decide) _ _ _ rfl (hown.alloc _) ⟨w1.heap.size,0,none⟩ 1 1 [.int .u8 c] rfl rfl ?c1 ?c2 ?c3 ?c4 ?c5 ?_)
 case c1 =>
  intro j u hj
  match j,hj with
  | 0,hj=>simp at hj;subst hj;simp [Addr.add]
 case c2=>intro u hu;simp at hu;subst hu;rfl
 case c3=>unfold maxLen;omega
 case c4=>omega
 case c5=>have:=hb1.size;simp;omega
 intro v' w2 hown' hgrow _
 have hlt:b < w1.heap.size:=(Array.getElem?_eq_some_iff.1 hbk).1
 have hb2:w2.heap[b]?=some (.cells #[.pointer (some ⟨b,0,none⟩),v] 120 (0,0)):=by
  rw [hgrow.block b (by simp;omega) (fun e=>hne e.symm),Lib.alloc_old w1 _ b hlt]
  exact hbk
 have d1:w2.cell? ⟨b,1,none⟩=some v:=by rw [Lib.cell_of_heap hb2];rfl
 have f1:w2.frozen? ⟨b,1,none⟩=false:=Lib.frozen_of_heap hb2 1
 obtain ⟨g,cap,rfl⟩:∃ g cap,v'=.slice (some ⟨g,0,none⟩) (zs.length+1) cap:=by
  rcases hown'.2 with ⟨_,h0⟩ | ⟨g,cap,cur,fz,hv,_⟩
  ·omega
  ·exact ⟨g,cap,hv⟩
 have HP:=Lib.BuilderAtF.put (T:=120) (e:=5) hB hb2 (bs':=zs.map (Value.int .u8) ++ [.int .u8 c]) (by simpa using hown') (by decide)
 have HB:=((hb1.alloc (by have:=hb1.size;omega) _).grown hgrow (by have:=hb1.size;simp;omega) (fun k hk=>(hown.lt k hk).1)).setCell (p:=⟨b,1,none⟩) hB (.slice (some ⟨g,0,none⟩) (zs.length+1) cap)
 have HO:=((hk1.alloc _).grown hgrow (Lib.ownsRowF_kind (hown.alloc _))).setCell ⟨b,1,none⟩ rfl (.slice (some ⟨g,0,none⟩) (zs.length+1) cap)
 clear hown hown' hgrow hb1 hk1
 go_wp2
 go_ret
 exact ⟨rfl,by refine .inr ?_;rw [List.map_append];exact HP,HB,HO⟩
set_option maxHeartbeats 2000000 in
theorem writeString_any (B b:Nat) (zs:List Int) (s:ByteArray) (w:World) (h:Bld B b zs w) (hlen:zs.length+s.size≤140737488355328) (hBw:B≤w.heap.size) :
  Calls Tryz.prog 66 #[.pointer (some ⟨b,0,none⟩),.string s] w fun e w'=>e=.returned (.tuple #[.int .i64 s.size,.nilIface])∧Bld B b (zs ++ strI s) w'∧Below B w w'∧Lib.OthersKept 5 (some b) w w':=by
 obtain ⟨i0,hi,hz0,hz1,hz2⟩:=info_parts Bld.info
 have hC:=copyCheck_any B b _ w h
 have HL:Hid ((zs.map (Value.int .u8)).length=zs.length):=List.length_map _
 have HS:Hid (Lib.strCells s=(strI s).map (Value.int .u8)):=by show _=_;simp [Lib.strCells,strI]
 clear h
 go_enter Tryz.func66,Tryz.ntmps66
 go_wp2_with fail
 refine hC.mono ?_
 rintro e w1 ⟨rfl,h1,hb1,hk1⟩
 obtain ⟨hB,v,hbk,hown,hne⟩:=h1
 have c1:w1.cell? ⟨b,1,none⟩=some v:=by rw [Lib.cell_of_heap hbk];rfl
 rw [HL.out] at hown
 clear hC
 go_wp2_with (at_builtin;refine Lib.wpList_append_own_stringF _ rfl _ _ 58 9 rfl B 5 i0 Tryz.underlying58 Tryz.underlying9 hi hz0 hz1 hz2 _ _ _ rfl hown s rfl ?c3 ?c4 ?c5 ?_)
 case c3=>unfold maxLen;omega
 case c4=>omega
 case c5=>have:=hb1.size;omega
 intro v' w2 hown' hgrow _
 have hlt:b < w1.heap.size:=(Array.getElem?_eq_some_iff.1 hbk).1
 have hb2:w2.heap[b]?=some (.cells #[.pointer (some ⟨b,0,none⟩),v] 120 (0,0)):=by
  rw [hgrow.block b hlt (fun e=>hne e.symm)]
  exact hbk
 have d1:w2.cell? ⟨b,1,none⟩=some v:=by rw [Lib.cell_of_heap hb2];rfl
 have f1:w2.frozen? ⟨b,1,none⟩=false:=Lib.frozen_of_heap hb2 1
 obtain ⟨ao,n',cap,rfl⟩:∃ ao n' cap,v'=.slice ao n' cap:=by
  rcases hown'.2 with ⟨hv,_⟩ | ⟨g,cap,cur,fz,hv,_⟩
  ·exact ⟨_,_,_,hv⟩
  ·exact ⟨_,_,_,hv⟩
 have HP:=Lib.BuilderAtF.put (T:=120) (e:=5) hB hb2 (bs':=zs.map (Value.int .u8) ++ Lib.strCells s) (by simpa [Lib.strCells_length] using hown') (by decide)
 have HB:=(hb1.grown hgrow (by have:=hb1.size;omega) (fun k hk=>(hown.lt k hk).1)).setCell (p:=⟨b,1,none⟩) hB (.slice ao n' cap)
 have HO:=(hk1.grown hgrow (Lib.ownsRowF_kind hown)).setCell ⟨b,1,none⟩ rfl (.slice ao n' cap)
 rw [HS.out] at HP
 clear hown hown' hgrow hb1 hk1
 go_wp2
 go_ret2
 exact ⟨rfl,by refine .inr ?_;rw [List.map_append];exact HP,HB,HO⟩
def Bld.ren:Go.Shelf.Ren:=⟨fun | 169=>53 | n=>n,fun | 70=>118 | 9=>9 | 0=>0 | 72=>120 | 37=>58 | 127=>180 | 3=>3 | 5=>5 | n=>n,fun | n=>n⟩
theorem Bld.lays:Go.Proofs.Lays.n169 Tryz.prog Bld.ren:={
 mixed:=by kernel_rfl
 f169:=Tryz.func53.trans (congrArg some (by kernel_rfl))
 t0:=Tryz.underlying0
 a0:=Tryz.isAgg0
 z0:=Tryz.sizeOf0
 v0:=Tryz.zeroValue0
 t3:=Tryz.underlying3
 a3:=Tryz.isAgg3
 z3:=Tryz.sizeOf3
 v3:=Tryz.zeroValue3
 t9:=Tryz.underlying9
 a9:=Tryz.isAgg9
 z9:=Tryz.sizeOf9
 v9:=Tryz.zeroValue9
 t37:=Tryz.underlying58
 a37:=Tryz.isAgg58
 z37:=Tryz.sizeOf58
 v37:=Tryz.zeroValue58
 t70:=Tryz.underlying118
 a70:=Tryz.isAgg118
 z70:=Tryz.sizeOf118
 v70:=Tryz.zeroValue118
 t72:=Tryz.underlying120
 a72:=Tryz.isAgg120
 z72:=Tryz.sizeOf120
 v72:=Tryz.zeroValue120
 t127:=Tryz.underlying180
 a127:=Tryz.isAgg180
 z127:=Tryz.sizeOf180
 v127:=Tryz.zeroValue180 }
theorem Bld.extra:Builder.Extra Tryz.prog Bld.ren:={
 sizeBuilder:=by kernel_rfl
 liesBuilder:=by kernel_rfl
 t5:=Tryz.underlying5
 a5:=Tryz.isAgg5
 z5:=Tryz.sizeOf5
 v5:=Tryz.zeroValue5
 infoByte:=by kernel_rfl
 cellsByte:=by kernel_rfl
 sizeByte:=by kernel_rfl
 neB5:=by decide }
theorem within_bytes {zs:List Int} (h:Within 256 zs):zs.map (Value.int .u8)=Lib.byteCells (zs.map fun n=>UInt8.ofNat n.toNat):=by
 unfold Lib.byteCells
 rw [List.map_map]
 apply List.map_congr_left
 intro z hz
 have:=h z hz
 have hlt:z.toNat < 256:=by omega
 simp only [Function.comp_def]
 rw [UInt8.toNat_ofNat_of_lt' (by simpa using hlt)]
 congr 1;omega
theorem buildString_any (B b:Nat) (zs:List Int) (w:World) (h:Bld B b zs w) (hz:Within 256 zs) (hBw:B≤w.heap.size) :
  Calls Tryz.prog 53 #[.pointer (some ⟨b,0,none⟩)] w fun e w'=>e=.returned (.string (strOfNums zs))∧Bld B b zs w'∧Below B w w'∧Lib.OthersKept 5 (some b) w w':=by
 unfold Bld at h ⊢
 rw [within_bytes hz] at h ⊢
 exact Any.Builder_String_any_k Bld.lays Bld.extra B b _ w h hBw
end Go.Proofs.YtddkapkkjhomkabGreatDoor
namespace Go.Proofs.YtddkapkkjhomkabGreatDoor
open Go.RowKit Go.Shelf

def Pge (B b:Nat) (zs:List Int) (w:World):Prop:=Lib.IsBuilderF 122 5 B b (zs.map (Value.int .u8)) w
theorem pge_lt {B b:Nat} {zs:List Int} {w:World} (h:Pge B b zs w):b < w.heap.size:=by
 rcases h with h | h
 ·exact h.lt
 ·exact h.lt
theorem pge_new (w:World) (B:Nat) (hB:B≤w.heap.size):Pge B w.heap.size [] (w.alloc (.cells #[.pointer none,.slice none 0 0] 122)) :=
 .inl ⟨hB,.slice none 0 0,heap_alloc_new w _,World.ownsRowF_nil _ _ _ _,by simp [Value.ownBlock]⟩
theorem pge_kept {B b:Nat} {zs:List Int} {w w':World} {row:Option Nat} (h:Pge B b zs w) (hg:w.grownBy w' row) (hb:row≠some b) (hr:∀ r,row=some r→∀ c fz,w.heap[r]?≠some (.cells c 5 fz)):Pge B b zs w':=by
 have key:∀ p,Lib.BuilderAtF 122 5 B b p (zs.map (Value.int .u8)) w→Lib.BuilderAtF 122 5 B b p (zs.map (Value.int .u8)) w':=by
  intro p hp
  have hlt:=hp.lt
  obtain ⟨hB,v,hbk,hown,hne⟩:=hp
  refine ⟨hB,v,(hg.block b hlt (fun e=>hb e.symm)).trans hbk,hown.kept hg ?_,hne⟩
  cases hv:v.ownBlock with
  | none=>exact .inl rfl
  | some g =>
   refine .inr fun e=>?_
   obtain ⟨c,fz,hc⟩:=Lib.ownsRowF_kind hown g hv
   exact hr g e.symm c fz hc
 rcases h with h | h
 ·exact .inl (key _ h)
 ·exact .inr (key _ h)
theorem pge_below {B b:Nat} {zs:List Int} {w w':World} (h:Pge B b zs w) (hb:Below w.heap.size w w'):Pge B b zs w' :=
 pge_kept h (row:=none) ⟨hb.os,hb.tape,hb.output,hb.size,fun k hk _=>hb.block k hk⟩ (by simp) (fun r e=>by cases e)
theorem Pge.lies:liesAt Tryz.prog Tryz.prog.depth 122 (2 / Tryz.prog.cellsOf 122) 0 120 1=true:=by kernel_rfl
set_option maxHeartbeats 1000000 in
theorem pgeCheck_used (b:Nat) (w:World) (h0:w.cell? ⟨b,0,none⟩=some (.pointer (some ⟨b,0,none⟩))) :
  Calls Tryz.prog 102 #[.pointer (some ⟨b,0,none⟩)] w fun e w'=>e=.returned (.tuple #[])∧w=w':=by
 obtain ⟨j,hj,_⟩:=Option.map_eq_some_iff.1 Bld.size
 go_enter Tryz.func102,Tryz.ntmps102
 go_wp2
 rw [Lib.run_neq_ptr_same w _ Tryz.underlying118 hj]
 go_wp2
 go_end0
 exact ⟨rfl,rfl⟩
set_option maxHeartbeats 1000000 in
theorem pgeCheck_fresh (b:Nat) (w:World) (h0:w.cell? ⟨b,0,none⟩=some (.pointer none)) (hsh:w.shape? b=some (122,2)) (hfz:w.frozen? ⟨b,0,none⟩=false) :
  Calls Tryz.prog 102 #[.pointer (some ⟨b,0,none⟩)] w fun e w'=>e=.returned (.tuple #[])∧w'=w.setCell ⟨b,0,none⟩ (.pointer (some ⟨b,0,none⟩)):=by
 obtain ⟨j,hj,hjs⟩:=Option.map_eq_some_iff.1 Bld.size
 go_enter Tryz.func102,Tryz.ntmps102
 go_wp2
 rw [Lib.run_to_unsafe w ⟨b,0,none⟩ Tryz.underlying118 Tryz.underlying209 hj (by rw [hjs];decide) hsh (Nat.zero_lt_succ 1)]
 simp only [Result.andThen]
 rw [Oper.upon_value]
 go_wp2
 rw [run_callFunc_extern Tryz.func130 (by kernel_rfl) (by kernel_rfl) (by kernel_rfl) (e:=Extern.AbiNoEscape.same) (by kernel_rfl)]
 rw [Lib.run_noEscape]
 simp only [Result.andThen]
 rw [Oper.upon_value]
 go_wp2
 rw [Lib.run_from_unsafe w ⟨b,0,none⟩ Tryz.underlying209 Tryz.underlying118 hj hsh Pge.lies]
 simp only [Result.andThen]
 rw [Oper.upon_value]
 go_wp2
 go_end0
 exact ⟨rfl,rfl⟩
theorem pgeCheck_any (B b:Nat) (bs:List Value) (w:World) (h:Lib.IsBuilderF 122 5 B b bs w) :
  Calls Tryz.prog 102 #[.pointer (some ⟨b,0,none⟩)] w fun e w'=>e=.returned (.tuple #[])∧(Lib.BuilderAtF 122 5 B b (.pointer (some ⟨b,0,none⟩)) bs w'∧Below B w w'∧Lib.OthersKept 5 (some b) w w'):=by
 rcases h with h | h
 ·refine (pgeCheck_fresh b w h.cell0 h.shape h.frozen0).mono ?_
  rintro e w' ⟨rfl,rfl⟩
  exact ⟨rfl,h.used _,(Below.refl B w).setCell (p:=⟨b,0,none⟩) h.1 _,(Lib.OthersKept.refl _ _ w).setCell ⟨b,0,none⟩ rfl _⟩
 ·refine (pgeCheck_used b w h.cell0).mono ?_
  rintro e w' ⟨rfl,rfl⟩
  exact ⟨rfl,h,Below.refl B _,Lib.OthersKept.refl _ _ _⟩
set_option maxHeartbeats 2000000 in
theorem pgeWriteByte_any (B b:Nat) (zs:List Int) (c:Int) (w:World) (h:Pge B b zs w) (hlen:zs.length+1≤140737488355328) (hBw:B≤w.heap.size) :
  Calls Tryz.prog 65 #[.pointer (some ⟨b,0,none⟩),.int .u8 c] w fun e w'=>e=.returned .nilIface∧Pge B b (zs ++ [c]) w'∧Below B w w'∧Lib.OthersKept 5 (some b) w w':=by
 obtain ⟨i0,hi,hz0,hz1,hz2⟩:=info_parts Bld.info
 have hC:=pgeCheck_any B b _ w h
 have HL:Hid ((zs.map (Value.int .u8)).length=zs.length):=List.length_map _
 clear h
 go_enter Tryz.func65,Tryz.ntmps65
 go_wp2_with fail
 refine hC.mono ?_
 rintro e w1 ⟨rfl,h1,hb1,hk1⟩
 obtain ⟨hB,v,hbk,hown,hne⟩:=h1
 have c1:w1.cell? ⟨b,1,none⟩=some v:=by rw [Lib.cell_of_heap hbk];rfl
 rw [HL.out] at hown
 clear hC
 go_wp2_with (at_builtin;refine wpList_append_ownF _ rfl _ _ 58 rfl B 5 i0 (.int .u8 0) 1 1 Tryz.underlying58 hi hz0 hz1 hz2 rfl (by decide) _ _ _ rfl (hown.alloc _) ⟨w1.heap.size,0,none⟩ 1 1 [.int .u8 c] rfl rfl ?c1 ?c2 ?c3 ?c4 ?c5 ?_)
 case c1 =>
  intro j u hj
  match j,hj with
  | 0,hj=>simp at hj;subst hj;simp [Addr.add]
 case c2=>intro u hu;simp at hu;subst hu;rfl
 case c3=>unfold maxLen;omega
 case c4=>omega
 case c5=>have:=hb1.size;simp;omega
 intro v' w2 hown' hgrow _
 have hlt:b < w1.heap.size:=(Array.getElem?_eq_some_iff.1 hbk).1
 have hb2:w2.heap[b]?=some (.cells #[.pointer (some ⟨b,0,none⟩),v] 122 (0,0)):=by
  rw [hgrow.block b (by simp;omega) (fun e=>hne e.symm),Lib.alloc_old w1 _ b hlt]
  exact hbk
 have d1:w2.cell? ⟨b,1,none⟩=some v:=by rw [Lib.cell_of_heap hb2];rfl
 have f1:w2.frozen? ⟨b,1,none⟩=false:=Lib.frozen_of_heap hb2 1
 obtain ⟨g,cap,rfl⟩:∃ g cap,v'=.slice (some ⟨g,0,none⟩) (zs.length+1) cap:=by
  rcases hown'.2 with ⟨_,h0⟩ | ⟨g,cap,cur,fz,hv,_⟩
  ·omega
  ·exact ⟨g,cap,hv⟩
 have HP:=Lib.BuilderAtF.put (T:=122) (e:=5) hB hb2 (bs':=zs.map (Value.int .u8) ++ [.int .u8 c]) (by simpa using hown') (by decide)
 have HB:=((hb1.alloc (by have:=hb1.size;omega) _).grown hgrow (by have:=hb1.size;simp;omega) (fun k hk=>(hown.lt k hk).1)).setCell (p:=⟨b,1,none⟩) hB (.slice (some ⟨g,0,none⟩) (zs.length+1) cap)
 have HO:=((hk1.alloc _).grown hgrow (Lib.ownsRowF_kind (hown.alloc _))).setCell ⟨b,1,none⟩ rfl (.slice (some ⟨g,0,none⟩) (zs.length+1) cap)
 clear hown hown' hgrow hb1 hk1
 go_wp2
 go_ret
 exact ⟨rfl,by refine .inr ?_;rw [List.map_append];exact HP,HB,HO⟩
set_option maxHeartbeats 2000000 in
theorem pgeWriteString_any (B b:Nat) (zs:List Int) (s:ByteArray) (w:World) (h:Pge B b zs w) (hlen:zs.length+s.size≤140737488355328) (hBw:B≤w.heap.size) :
  Calls Tryz.prog 66 #[.pointer (some ⟨b,0,none⟩),.string s] w fun e w'=>e=.returned (.tuple #[.int .i64 s.size,.nilIface])∧Pge B b (zs ++ strI s) w'∧Below B w w'∧Lib.OthersKept 5 (some b) w w':=by
 obtain ⟨i0,hi,hz0,hz1,hz2⟩:=info_parts Bld.info
 have hC:=pgeCheck_any B b _ w h
 have HL:Hid ((zs.map (Value.int .u8)).length=zs.length):=List.length_map _
 have HS:Hid (Lib.strCells s=(strI s).map (Value.int .u8)):=by show _=_;simp [Lib.strCells,strI]
 clear h
 go_enter Tryz.func66,Tryz.ntmps66
 go_wp2_with fail
 refine hC.mono ?_
 rintro e w1 ⟨rfl,h1,hb1,hk1⟩
 obtain ⟨hB,v,hbk,hown,hne⟩:=h1
 have c1:w1.cell? ⟨b,1,none⟩=some v:=by rw [Lib.cell_of_heap hbk];rfl
 rw [HL.out] at hown
 clear hC
 go_wp2_with (at_builtin;refine Lib.wpList_append_own_stringF _ rfl _ _ 58 9 rfl B 5 i0 Tryz.underlying58 Tryz.underlying9 hi hz0 hz1 hz2 _ _ _ rfl hown s rfl ?c3 ?c4 ?c5 ?_)
 case c3=>unfold maxLen;omega
 case c4=>omega
 case c5=>have:=hb1.size;omega
 intro v' w2 hown' hgrow _
 have hlt:b < w1.heap.size:=(Array.getElem?_eq_some_iff.1 hbk).1
 have hb2:w2.heap[b]?=some (.cells #[.pointer (some ⟨b,0,none⟩),v] 122 (0,0)):=by
  rw [hgrow.block b hlt (fun e=>hne e.symm)]
  exact hbk
 have d1:w2.cell? ⟨b,1,none⟩=some v:=by rw [Lib.cell_of_heap hb2];rfl
 have f1:w2.frozen? ⟨b,1,none⟩=false:=Lib.frozen_of_heap hb2 1
 obtain ⟨ao,n',cap,rfl⟩:∃ ao n' cap,v'=.slice ao n' cap:=by
  rcases hown'.2 with ⟨hv,_⟩ | ⟨g,cap,cur,fz,hv,_⟩
  ·exact ⟨_,_,_,hv⟩
  ·exact ⟨_,_,_,hv⟩
 have HP:=Lib.BuilderAtF.put (T:=122) (e:=5) hB hb2 (bs':=zs.map (Value.int .u8) ++ Lib.strCells s) (by simpa [Lib.strCells_length] using hown') (by decide)
 have HB:=(hb1.grown hgrow (by have:=hb1.size;omega) (fun k hk=>(hown.lt k hk).1)).setCell (p:=⟨b,1,none⟩) hB (.slice ao n' cap)
 have HO:=(hk1.grown hgrow (Lib.ownsRowF_kind hown)).setCell ⟨b,1,none⟩ rfl (.slice ao n' cap)
 rw [HS.out] at HP
 clear hown hown' hgrow hb1 hk1
 go_wp2
 go_ret2
 exact ⟨rfl,by refine .inr ?_;rw [List.map_append];exact HP,HB,HO⟩
end Go.Proofs.YtddkapkkjhomkabGreatDoor
