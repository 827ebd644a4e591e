/-
  Texts in one: PrintText, Law08Awake.
-/
import Derived.Test.YtonhnflilfjkbaaGreatDoorB19
namespace Go.Proofs.YtonhnflilfjkbaaGreatDoor
open Go.RowKit
set_option linter.unusedSimpArgs false
set_option maxRecDepth 10000
set_option linter.unusedVariables false
def txtP (g b:Int) (l:List InstT):ByteArray:=if (shapeE b l).1=0 then strOfNums (textP g b l) else ⟨#[]⟩
theorem shapeF_none (b:Int):∀ (l:List InstT) (k c:Nat),(shapeF b k c l).1=0→(shapeF b k c l).2=0
 | [],_,_,_=>rfl
 | x :: l,k,c,h=>by
  unfold shapeF at h ⊢
  split at h
  ·rename_i hx;exact absurd h hx
  ·rename_i hx
   rw [if_neg hx]
   split at h
   ·cases h
   ·rename_i hy
    rw [if_neg hy]
    exact shapeF_none b l _ _ h
theorem shape_none {b:Int} {l:List InstT} (h:(shapeE b l).1=0):(shapeE b l).2=0:=by
 unfold shapeE at h ⊢
 split at h
 ·cases h
 ·rename_i hx
  rw [if_neg hx]
  exact shapeF_none b l 0 5 h
set_option maxHeartbeats 8000000 in
theorem printTextM_any (g:Int) (N:Nat) (a:Option Addr) (n c:Nat) (l:List InstT) (w:World) (hv:InstsV w a l) (hok:InstsOk l) (hl:l.length=n) (hn:40 * n≤140737488351232) (g0:0≤g) (g1:g<4294967296) (hN:(N:Int)<4294967296) (ht:Pow10 w) :
  Calls Tryz.prog 8 #[.agg #[.int .u32 g,.int .u32 N,.slice a n c]] w fun e w'=>e=.returned (.tuple #[.string (txtP g (N:Int) l),.agg #[.int .i64 (shapeE (N:Int) l).1,.int .i64 (shapeE (N:Int) l).2]])∧Below w.heap.size w w':=by
 have hS:=fun W (hb:Below w.heap.size w W)=>codeShape_any g (N:Int) a n c l W g0 g1 (by omega) hN (hv.below hb) hok hl hn
 have hT:=fun W (hb:Below w.heap.size w W) (hs:(shapeE (N:Int) l).1=0)=>textOf_any g N a n c l W (hv.below hb) hok hl hn g0 g1 hs hN (ht.below hb)
 have HB0:=hide (below_two8 w (.cells #[.int .u32 g,.int .u32 N,.slice a n c] 25) (.cells #[.int .i64 0,.int .i64 0] 28))
 unfold modV at hS
 have kX:((w.alloc (.cells #[.int .u32 g,.int .u32 N,.slice a n c] 25)).alloc (.cells #[.int .i64 0,.int .i64 0] 28)).heap[w.heap.size+1]?=some (.cells #[.int .i64 0,.int .i64 0] 28 (0,0)):=by simpa using alloc_new (w.alloc (.cells #[.int .u32 g,.int .u32 N,.slice a n c] 25)) #[.int .i64 0,.int .i64 0] 28
 have kM:((w.alloc (.cells #[.int .u32 g,.int .u32 N,.slice a n c] 25)).alloc (.cells #[.int .i64 0,.int .i64 0] 28)).heap[w.heap.size]?=some (.cells #[.int .u32 g,.int .u32 N,.slice a n c] 25 (0,0)):=(Below.heap_alloc _ _ _ (by simp)).trans (heap_alloc_new w _)
 have HX:=hide kX
 have HM:=hide kM
 clear kX kM
 by_cases hz:(shapeE (N:Int) l).1=0
 ·have ez:txtP g (N:Int) l=strOfNums (textP g (N:Int) l):=if_pos hz
  have hz2:(((shapeE (N:Int) l).2:Nat):Int)=0:=by rw [shape_none hz];rfl
  rw [ez,hz,hz2]
  rw [hz,hz2] at hS
  have hT':=fun W hb=>hT W hb hz
  generalize strOfNums (textP g (N:Int) l)=S at *
  clear hT hz hz2 ez hv hok hl hn ht
  go_enter Tryz.func8,Tryz.ntmps8
  go_wp2_with fail
  generalize (w.alloc (.cells #[.int .u32 g,.int .u32 N,.slice a n c] 25)).alloc (.cells #[.int .i64 0,.int .i64 0] 28)=W0 at *
  refine (hS _ HB0.out).mono ?_
  rintro e w1 ⟨rfl,hb1⟩
  have l0:=(Array.getElem?_eq_some_iff.1 HX.out).1
  have lm:=(Array.getElem?_eq_some_iff.1 HM.out).1
  have hb2:Below W0.heap.size W0 (w1.alloc (.cells #[.int .i64 0,.int .i64 0] 28)):=hb1.alloc hb1.size _
  have kX2:=(hb2.block _ l0).trans HX.out
  have kM2:=(hb2.block _ lm).trans HM.out
  obtain⟨hcM,_⟩:=one_block kM2
  have m0:=hcM 0
  have m1:=hcM 1
  have m2:=hcM 2
  obtain⟨d0,d1,_⟩:=cell_of_two (alloc_new w1 #[.int .i64 0,.int .i64 0] 28)
  have HB2:=hide (HB0.out.trans (hb2.mono HB0.out.size))
  have HX2:=hide kX2
  clear hb1 hb2 kX2 kM2 hcM hS
  go_wp2_with fail
  refine (hT' _ HB2.out).mono ?_
  rintro e w3 ⟨rfl,hb3⟩
  have lx:=(Array.getElem?_eq_some_iff.1 HX2.out).1
  have kX3:=(hb3.block _ lx).trans HX2.out
  obtain⟨hcX,hfX⟩:=one_block kX3
  have c0:=hcX 0
  have c1:=hcX 1
  have f0:=hfX 0
  have f1:=hfX 1
  have hBel:=HB2.out.trans (hb3.mono HB2.out.size)
  have HB3:=hide (two_put2 kX3 (.int .i64 0) (.int .i64 0))
  have HBel2:=hide (hBel.trans ((two_below w3 (w.heap.size+1) (.int .i64 0) (.int .i64 0)).mono (by omega)))
  clear hb3 kX3 hcX hfX hBel hT' d0 d1 m0 m1 m2
  go_wp2
  have hB3:=HB3.out
  have hBel:=HBel2.out
  clear HB3 HBel2 c0 c1 f0 f1
  generalize (w3.setCell _ _).setCell _ _=W at hB3 hBel ⊢
  obtain⟨hd,_⟩:=one_block hB3
  have d0:=hd 0
  have d1:=hd 1
  refine bodyPost_ret (v:=.tuple #[.string S,.agg #[.int .i64 0,.int .i64 0]]) ?_ rfl ⟨rfl,hBel⟩
  simp [results,Tryz.results8,go_sem,d0,d1]
 ·have ez:txtP g (N:Int) l=⟨#[]⟩:=if_neg hz
  have heb:((shapeE (N:Int) l).1==0)=false:=by simpa using hz
  rw [ez]
  generalize (shapeE (N:Int) l).1=e1 at *
  generalize (shapeE (N:Int) l).2=e2 at *
  clear hT ez hv hok hl hn ht hz
  go_enter Tryz.func8,Tryz.ntmps8
  go_wp2_with fail
  generalize (w.alloc (.cells #[.int .u32 g,.int .u32 N,.slice a n c] 25)).alloc (.cells #[.int .i64 0,.int .i64 0] 28)=W0 at *
  refine (hS _ HB0.out).mono ?_
  rintro e w1 ⟨rfl,hb1⟩
  have l0:=(Array.getElem?_eq_some_iff.1 HX.out).1
  have hb2:Below W0.heap.size W0 (w1.alloc (.cells #[.int .i64 e1,.int .i64 e2] 28)):=hb1.alloc hb1.size _
  have kX2:=(hb2.block _ l0).trans HX.out
  obtain⟨d0,d1,_⟩:=cell_of_two (alloc_new w1 #[.int .i64 e1,.int .i64 e2] 28)
  obtain⟨hcX,hfX⟩:=one_block kX2
  have c0:=hcX 0
  have c1:=hcX 1
  have f0:=hfX 0
  have f1:=hfX 1
  have hBel:=HB0.out.trans (hb2.mono HB0.out.size)
  have HB3:=hide (two_put2 kX2 (.int .i64 e1) (.int .i64 e2))
  have HBel2:=hide (hBel.trans ((two_below (w1.alloc (.cells #[.int .i64 e1,.int .i64 e2] 28)) (w.heap.size+1) (.int .i64 e1) (.int .i64 e2)).mono (by omega))).drew
  have hne:w1.heap.size≠w.heap.size+1:=by have:=hb1.size;omega
  have HC:=hide (And.intro c0 (And.intro c1 (And.intro f0 (And.intro f1 hne))))
  clear l0 c0 c1 f0 f1 hne g0 g1 hN HX HM HB0 hS
  clear hb1 hb2 kX2 hcX hfX hBel
  go_wp2_with fail
  obtain⟨c0,c1,f0,f1,hne⟩:=HC.out
  go_region
  go_wp2
  have hB3:((((w1.alloc (.cells #[.int .i64 e1,.int .i64 e2] 28)).setCell ⟨w.heap.size+1,0,none⟩ (.int .i64 e1)).setCell ⟨w.heap.size+1,1,none⟩ (.int .i64 e2)).drew).heap[w.heap.size+1]?=some (.cells #[.int .i64 e1,.int .i64 e2] 28 (0,0)):=HB3.out
  have hBel:=HBel2.out
  clear HB3 HBel2 c0 c1 f0 f1 d0 d1
  generalize (((w1.alloc _).setCell _ _).setCell _ _).drew=W at hB3 hBel ⊢
  obtain⟨hd,_⟩:=one_block hB3
  have d0:=hd 0
  have d1:=hd 1
  refine bodyPost_ret (v:=.tuple #[.string ⟨#[]⟩,.agg #[.int .i64 e1,.int .i64 e2]]) ?_ rfl ⟨rfl,hBel⟩
  simp [results,Tryz.results8,go_sem,d0,d1]
def oneT:ByteArray:=⟨#[109,111,100,117,108,101,32,55,32,57,10,37,50,32,61,32,79,112,73,65,100,100,32,37,49,32,37,51,32,37,52,10]⟩
theorem oneT_text:txtP 7 ((9:Nat):Int) [oneI]=oneT:=by decide +kernel
set_option maxHeartbeats 4000000 in
theorem awake8_true (w:World) (ht:Pow10 w):Calls Tryz.prog 10 #[] w fun e w'=>e=.returned (.bool true)∧Below w.heap.size w w':=by
 have hO:=one8_any w
 have hT:=fun wx g c (hv:InstsV wx (some ⟨g,0,none⟩) [oneI]) (hp:Pow10 wx)=>printTextM_any 7 9 (some ⟨g,0,none⟩) 1 c [oneI] wx hv oneI_ok rfl (by decide) (by decide) (by decide) (by decide) hp
 rw [oneT_text] at hT
 rw [show shapeE ((9:Nat):Int) [oneI]=(0,0) from oneB_shape] at hT
 unfold modV at hO
 go_enter Tryz.func10,Tryz.ntmps10
 go_wp2_with fail
 refine hO.mono ?_
 rintro e w1 ⟨g1,c1,rfl,hv1,hb1⟩
 have hC:=hT w1 g1 c1 hv1 (ht.below hb1)
 clear hT hO hv1 ht
 unfold oneT at hC
 go_wp2_with fail
 refine hC.mono ?_
 rintro e w2 ⟨rfl,hb2⟩
 obtain⟨d0,d1,_⟩:=cell_of_two (alloc_new w2 #[.int .i64 0,.int .i64 0] 28)
 have HB:=hide (hb1.trans (hb2.mono hb1.size))
 have HB2:=hide (HB.out.alloc HB.out.size (.cells #[.int .i64 0,.int .i64 0] 28))
 clear hC hb1 hb2
 go_wp2
 go_ret
 exact⟨by simp,HB2.out⟩
end Go.Proofs.YtonhnflilfjkbaaGreatDoor
