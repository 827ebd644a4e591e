/-
  Texts in one: CodeRaw, CodeRaws, CodeDecode.
-/
import Derived.Test.YtonhnflilfjkbaaGreatDoorB12
namespace Go.Proofs.YtonhnflilfjkbaaGreatDoor
open Go.RowKit
set_option linter.unusedVariables false
set_option linter.unusedSimpArgs false
set_option maxRecDepth 10000
def rawO (x:InstT) (b:Int):Int:=if rawE x b=0 then x.1 else 0
theorem two_put2 {w:World} {B T:Nat} {z0 z1:Value} (h:w.heap[B]?=some (.cells #[z0,z1] T (0,0))) (u0 u1:Value) :
  ((w.setCell ⟨B,0,none⟩ u0).setCell ⟨B,1,none⟩ u1).heap[B]?=some (.cells #[u0,u1] T (0,0)):=by
 simp only [World.setCell,Array.getElem?_modify,h];simp
theorem two_below (w:World) (B:Nat) (u0 u1:Value):Below B w ((w.setCell ⟨B,0,none⟩ u0).setCell ⟨B,1,none⟩ u1) :=
 ((Below.refl B w).setCell (Nat.le_refl _) _).setCell (Nat.le_refl _) _
theorem own_lo {w:World} {lo lo' e size n:Nat} {v:Value} {xs:List Value} (h:w.ownsRow lo e size v n xs) (hl:lo'≤lo):w.ownsRow lo' e size v n xs:=by
 refine⟨h.1,?_⟩
 rcases h.2 with hn | ⟨g,cap,cur,e1,hb,rest⟩
 ·exact .inl hn
 ·exact .inr ⟨g,cap,cur,e1,Nat.le_trans hl hb,rest⟩
set_option maxHeartbeats 2000000 in
theorem raw_any (x:InstT) (b:Int) (ax:Option Addr) (n cx:Nat) (w:World) (hv:ArgsV w ax x.2.2.2) (hok:InstOk x) (hl:x.2.2.2.length=n) :
  Calls Tryz.prog 27 #[instV x ax n cx,.int .u32 b] w fun e w'=>Below w.heap.size w w'∧∃ a m c,e=.returned (.tuple #[.agg #[.int .u16 (rawO x b),.slice a m c],.int .i64 (rawE x b)])∧(rawWs x b).length=m ∧
   w'.ownsRow w.heap.size 22 1 (.slice a m c) m ((rawWs x b).map (Value.int .u32)):=by
 have hOf:=fun w=>of_any x.1 w
 obtain⟨f,hf⟩:∃ f,f=(lookF refT x.1).1:=⟨_,rfl⟩
 by_cases h0:(lookF refT x.1).2=true
 ·have hff:lookF refT x.1=(f,true):=by rw [hf,← h0]
  have hE:rawE x b=faultI f x b:=by rw [rawE,if_pos h0,← hf]
  have eV:ofV x.1=formV x.1 f:=by unfold ofV;rw [if_pos h0,← hf]
  rw [hff,eV] at hOf
  have hI:=fun (B:Nat) wx (hW:Wrt wx B x.1 f b [] 1) (h:ArgsL wx B ax x.2.2.2)=>winst_any B f b x ax n cx wx hW hff hok h hl
  rw [← hE] at hI
  have hRW:rawE x b=0→rawWs x b=rawL f x∧rawO x b=x.1:=fun h=>⟨by rw [rawWs,if_pos h,← hf],by rw [rawO,if_pos h]⟩
  have hRN:rawE x b≠0→rawWs x b=[]∧rawO x b=0:=fun h=>⟨by rw [rawWs,if_neg h],by rw [rawO,if_neg h]⟩
  generalize rawE x b=r at *
  generalize rawWs x b=ws at *
  generalize rawO x b=ro at *
  clear hff hE eV h0 hf hok
  obtain⟨xo,xt,xr,xl⟩:=x
  unfold instV at hI ⊢
  unfold formV at hOf
  obtain⟨f1,f2,f3,f4,f5,f6,f7⟩:=f
  simp only at *
  go_enter Tryz.func27,Tryz.ntmps27
  go_wp2_with fail
  have hB0:Below w.heap.size w ((w.alloc (.cells #[.int .u16 xo,.int .u32 xt,.int .u32 xr,.slice ax n cx] 38)).alloc (.cells #[.int .u16 0,.slice none 0 0] 54)):=((Below.refl _ w).alloc (Nat.le_refl _) _).alloc (by simp) _
  have kI:((w.alloc (.cells #[.int .u16 xo,.int .u32 xt,.int .u32 xr,.slice ax n cx] 38)).alloc (.cells #[.int .u16 0,.slice none 0 0] 54)).heap[w.heap.size]?=some (.cells #[.int .u16 xo,.int .u32 xt,.int .u32 xr,.slice ax n cx] 38 (0,0)):=(Below.heap_alloc _ _ _ (by simp)).trans (alloc_new w _ _)
  have kR:((w.alloc (.cells #[.int .u16 xo,.int .u32 xt,.int .u32 xr,.slice ax n cx] 38)).alloc (.cells #[.int .u16 0,.slice none 0 0] 54)).heap[w.heap.size+1]?=some (.cells #[.int .u16 0,.slice none 0 0] 54 (0,0)):=by simpa using alloc_new (w.alloc (.cells #[.int .u16 xo,.int .u32 xt,.int .u32 xr,.slice ax n cx] 38)) #[.int .u16 0,.slice none 0 0] 54
  generalize (w.alloc (.cells #[.int .u16 xo,.int .u32 xt,.int .u32 xr,.slice ax n cx] 38)).alloc (.cells #[.int .u16 0,.slice none 0 0] 54)=W0 at *
  have l0:=(Array.getElem?_eq_some_iff.1 kR).1
  refine (hOf _).mono ?_
  rintro e w1 ⟨rfl,hb1⟩
  have s1:=hb1.size
  have kI1:=(hb1.block _ (by omega)).trans kI
  have kR1:=(hb1.block _ l0).trans kR
  have hb01:=hB0.trans (hb1.mono (by omega))
  clear hb1 kI kR hB0 hOf
  have hb2:Below w1.heap.size w1 (w1.alloc (.cells #[.int .u16 xo,.string f1,.bool f2,.bool f3,.string f4,.string f5,.int .i64 f6,.int .u8 f7] 66)):=(Below.refl _ _).alloc (Nat.le_refl _) _
  have kI2:=(hb2.block _ (by omega)).trans kI1
  have kR2:=(hb2.block _ (by omega)).trans kR1
  have hl2:w1.heap.size<(w1.alloc (.cells #[.int .u16 xo,.string f1,.bool f2,.bool f3,.string f4,.string f5,.int .i64 f6,.int .u8 f7] 66)).heap.size:=by simp
  have hb02:=hb01.trans (hb2.mono (by omega))
  have s02:=hb02.size
  have hW3b:Below (w1.heap.size+1) (w1.alloc (.cells #[.int .u16 xo,.string f1,.bool f2,.bool f3,.string f4,.string f5,.int .i64 f6,.int .u8 f7] 66)) ((w1.alloc (.cells #[.int .u16 xo,.string f1,.bool f2,.bool f3,.string f4,.string f5,.int .i64 f6,.int .u8 f7] 66)).alloc (.cells (wrtC xo (f1,f2,f3,f4,f5,f6,f7) b (.slice none 0 0) 1) 94)):=(Below.refl _ _).alloc (by simp) _
  obtain⟨i0,i1,i2,i3⟩:=four_cells ((hW3b.block _ (by omega)).trans kI2)
  have kW:=alloc_new (w1.alloc (.cells #[.int .u16 xo,.string f1,.bool f2,.bool f3,.string f4,.string f5,.int .i64 f6,.int .u8 f7] 66)) (wrtC xo (f1,f2,f3,f4,f5,f6,f7) b (.slice none 0 0) 1) 94
  rw [World.size_alloc] at kW
  have kI3:=(hW3b.block _ (by omega)).trans kI2
  have kR3:=(hW3b.block _ (by omega)).trans kR2
  have hb03:=hb02.trans (hW3b.mono (by omega))
  have hlW:w1.heap.size+1<((w1.alloc (.cells #[.int .u16 xo,.string f1,.bool f2,.bool f3,.string f4,.string f5,.int .i64 f6,.int .u8 f7] 66)).alloc (.cells (wrtC xo (f1,f2,f3,f4,f5,f6,f7) b (.slice none 0 0) 1) 94)).heap.size:=by simp
  have hWr:Wrt ((w1.alloc (.cells #[.int .u16 xo,.string f1,.bool f2,.bool f3,.string f4,.string f5,.int .i64 f6,.int .u8 f7] 66)).alloc (.cells (wrtC xo (f1,f2,f3,f4,f5,f6,f7) b (.slice none 0 0) 1) 94)) (w1.heap.size+1) xo (f1,f2,f3,f4,f5,f6,f7) b [] 1:=⟨⟨_,kW,World.ownsRow_nil _ _ _ _⟩,by simp,by simp⟩
  have hAr:=((ArgsL.of hv).below hb03).mono (show w.heap.size≤w1.heap.size+1 by omega)
  have hC:=hI (w1.heap.size+1) _ hWr hAr
  clear hWr hAr hI kW kI2 kR2 hb02 hW3b hb2 kI1 kR1 hb01 hv
  unfold wrtC at *
  simp only at *
  go_wp2_with fail
  generalize (w1.alloc (.cells #[.int .u16 xo,.string f1,.bool f2,.bool f3,.string f4,.string f5,.int .i64 f6,.int .u8 f7] 66)).alloc (.cells #[.int .u16 xo,.string f1,.bool f2,.bool f3,.string f4,.string f5,.int .i64 f6,.int .u8 f7,.int .u32 b,.slice none 0 0,.int .i64 1] 94)=W3 at *
  refine hC.mono ?_
  rintro e w4 ⟨rfl,hk4,hy4⟩
  have kI4:=hk4.keep _ _ _ _ kI3 (by omega) (by decide)
  have kR4:=hk4.keep _ _ _ _ kR3 (by omega) (by decide)
  have hb04:=hb03.trans (hk4.below.mono (by omega))
  obtain⟨hcR,hfR⟩:=one_block kR4
  have r0:=hcR 0
  have r1:=hcR 1
  obtain⟨j0,j1,j2,j3⟩:=four_cells kI4
  clear hC kI3 kR3 hb03 i0 i1 i2 i3 kI4 hcR
  by_cases hr:r=0
  ·subst hr
   obtain⟨c,hW4⟩:=hy4 rfl
   obtain⟨⟨v,hbx,hown⟩,_⟩:=hW4
   obtain⟨e1,e2⟩:=hRW rfl
   rw [← e1] at hown
   obtain⟨a',cap',rfl,_,hwl⟩:=View.ofOwned hown
   have hown':=own_lo hown (show w.heap.size+2≤w1.heap.size+1+1 by omega)
   obtain⟨hcW,_⟩:=one_block hbx
   have k9:=hcW 9
   change w4.cell? ⟨w1.heap.size+1,9,none⟩=some (.slice a' ws.length cap') at k9
   have HO:Hid _:=hown
   subst e2
   have HO2:Hid _:=hown'
   clear hRW hRN e1 hbx hcW hy4 hk4 hown hwl hown' HO
   generalize ws.length=m at *
   go_wp2
   have hB3:=two_put2 kR4 (.int .u16 ro) (.slice a' m cap')
   have hBel:=hb04.trans ((two_below w4 (w.heap.size+1) (.int .u16 ro) (.slice a' m cap')).mono (by omega))
   have hO3:=own_lo (ownFar (ownFar HO2.out (show w.heap.size+1<w.heap.size+2 by omega) 0 (.int .u16 ro)) (show w.heap.size+1<w.heap.size+2 by omega) 1 (.slice a' m cap')) (show w.heap.size≤w.heap.size+2 by omega)
   clear hb04 kR4 r0 r1 hfR k9 HO2 j0 j1 j2 j3
   generalize (w4.setCell _ _).setCell _ _=W at hB3 hBel hO3 ⊢
   obtain⟨hd,_⟩:=one_block hB3
   have d0:=hd 0
   have d1:=hd 1
   refine bodyPost_ret (v:=.tuple #[.agg #[.int .u16 ro,.slice a' m cap'],.int .i64 0]) ?_ rfl ⟨hBel,a',m,cap',rfl,?_,hO3⟩
   ·simp [results,Tryz.results27,go_sem,d0,d1]
   ·have:=hO3.1
    simpa using this
  ·obtain⟨e1,e2⟩:=hRN hr
   subst e1 e2
   clear hRW hRN hy4 hk4 j0 j1 j2 j3
   go_wp2
   have hB3:=two_put2 kR4 (.int .u16 0) (.slice none 0 0)
   have hBel:=hb04.trans ((two_below w4 (w.heap.size+1) (.int .u16 0) (.slice none 0 0)).mono (by omega))
   clear hb04 kR4 r0 r1 hfR
   generalize (w4.setCell _ _).setCell _ _=W at hB3 hBel ⊢
   obtain⟨hd,_⟩:=one_block hB3
   have d0:=hd 0
   have d1:=hd 1
   refine bodyPost_ret (v:=.tuple #[.agg #[.int .u16 0,.slice none 0 0],.int .i64 r]) ?_ rfl ⟨hBel,none,0,0,rfl,rfl,World.ownsRow_nil _ _ _ _⟩
   simp [results,Tryz.results27,go_sem,d0,d1]
 ·have hE:rawE x b=30:=by rw [rawE,if_neg h0]
  have hE2:rawWs x b=[]:=by rw [rawWs,hE];rfl
  have hE3:rawO x b=0:=by rw [rawO,hE];rfl
  rw [hE,hE2,hE3]
  have h0':(lookF refT x.1).2=false:=by simpa using h0
  have eV:ofV x.1=formV 0 noFrm:=by unfold ofV;rw [if_neg h0]
  rw [h0',eV] at hOf
  unfold formV noFrm at hOf
  clear hE hE2 hE3 h0 h0' eV hf
  obtain⟨xo,xt,xr,xl⟩:=x
  unfold instV
  simp only at *
  go_enter Tryz.func27,Tryz.ntmps27
  go_wp2_with fail
  have hB0:Below w.heap.size w ((w.alloc (.cells #[.int .u16 xo,.int .u32 xt,.int .u32 xr,.slice ax n cx] 38)).alloc (.cells #[.int .u16 0,.slice none 0 0] 54)):=((Below.refl _ w).alloc (Nat.le_refl _) _).alloc (by simp) _
  have kI:((w.alloc (.cells #[.int .u16 xo,.int .u32 xt,.int .u32 xr,.slice ax n cx] 38)).alloc (.cells #[.int .u16 0,.slice none 0 0] 54)).heap[w.heap.size]?=some (.cells #[.int .u16 xo,.int .u32 xt,.int .u32 xr,.slice ax n cx] 38 (0,0)):=(Below.heap_alloc _ _ _ (by simp)).trans (alloc_new w _ _)
  have kR:((w.alloc (.cells #[.int .u16 xo,.int .u32 xt,.int .u32 xr,.slice ax n cx] 38)).alloc (.cells #[.int .u16 0,.slice none 0 0] 54)).heap[w.heap.size+1]?=some (.cells #[.int .u16 0,.slice none 0 0] 54 (0,0)):=by simpa using alloc_new (w.alloc (.cells #[.int .u16 xo,.int .u32 xt,.int .u32 xr,.slice ax n cx] 38)) #[.int .u16 0,.slice none 0 0] 54
  generalize (w.alloc (.cells #[.int .u16 xo,.int .u32 xt,.int .u32 xr,.slice ax n cx] 38)).alloc (.cells #[.int .u16 0,.slice none 0 0] 54)=W0 at *
  have l0:=(Array.getElem?_eq_some_iff.1 kR).1
  refine (hOf _).mono ?_
  rintro e w1 ⟨rfl,hb1⟩
  have s1:=hb1.size
  have kI1:=(hb1.block _ (by omega)).trans kI
  have kR1:=(hb1.block _ l0).trans kR
  have hb01:=hB0.trans (hb1.mono (by omega))
  clear hb1 kI kR hB0 hOf
  have hb2:Below w1.heap.size w1 (w1.alloc (.cells #[.int .u16 0,.string ⟨#[]⟩,.bool false,.bool false,.string ⟨#[]⟩,.string ⟨#[]⟩,.int .i64 0,.int .u8 0] 66)):=(Below.refl _ _).alloc (Nat.le_refl _) _
  have kR2:=(hb2.block _ (by omega)).trans kR1
  obtain⟨hcR,hfR⟩:=one_block kR2
  have r0:=hcR 0
  have r1:=hcR 1
  have hb02:=hb01.trans (hb2.mono (by omega))
  clear hb2 kI1 kR1 hcR hb01
  go_wp2
  have hB3:=two_put2 kR2 (.int .u16 0) (.slice none 0 0)
  have hBel:=hb02.trans ((two_below _ (w.heap.size+1) (.int .u16 0) (.slice none 0 0)).mono (by omega))
  clear hb02 kR2 r0 r1 hfR
  generalize ((w1.alloc _).setCell _ _).setCell _ _=W at hB3 hBel ⊢
  obtain⟨hd,_⟩:=one_block hB3
  have d0:=hd 0
  have d1:=hd 1
  refine bodyPost_ret (v:=.tuple #[.agg #[.int .u16 0,.slice none 0 0],.int .i64 30]) ?_ rfl ⟨hBel,none,0,0,rfl,rfl,World.ownsRow_nil _ _ _ _⟩
  simp [results,Tryz.results27,go_sem,d0,d1]
set_option maxHeartbeats 2000000 in
/-- Of a bound that may not be. -/
theorem raws_bad (gen bound:Int) (a:Option Addr) (n cap:Nat) (l:List InstT) (w:World) (hg0:0≤gen) (hg1:gen<4294967296) (hb0:0≤bound) (hb1:bound<4294967296) (hv:InstsV w a l) (hok:InstsOk l) (hl:l.length=n) (hn:40 * n≤140737488351232) (h1:bound=0∨65536<bound) :
  Calls Tryz.prog 36 #[modV gen bound a n cap] w fun e w'=>Below w.heap.size w w'∧∃ ax cx m,e=.returned (.tuple #[.slice ax m cx,.agg #[.int .i64 (shapeE bound l).1,.int .i64 (shapeE bound l).2]])∧(rawsR bound l).length=m∧m≤cx∧RawsV w' ax (rawsR bound l):=by
 have hH:=fun w=>headOf_any gen bound a n cap w
 have hW:=fun w=>writeC gen bound none 0 0 [] w hg0 hg1 hb0 hb1 rawsV_nil (fun j hj=>by simp at hj) rfl (by omega) (by omega)
 unfold modV at hH ⊢
 have HL:Hid (l.length=n):=hl
 have e1:writeE bound []=(24,0):=by unfold writeE;rw [if_pos h1]
 have e2:shapeE bound l=(24,0):=by unfold shapeE;rw [if_pos h1]
 have e3:rawsR bound l=[]:=by unfold rawsR;rw [e2];rfl
 rw [e1] at hW
 rw [e2,e3]
 clear e1 e2 e3 h1 hv hok hl
 go_enter Tryz.func36,Tryz.ntmps36
 go_wp2_with fail
 have hB0:Below w.heap.size w ((w.alloc (.cells #[.int .u32 gen,.int .u32 bound,.slice a n cap] 25)).alloc (.cells #[.int .i64 0,.int .i64 0] 28)):=((Below.refl _ w).alloc (Nat.le_refl _) _).alloc (by simp) _
 have kX:((w.alloc (.cells #[.int .u32 gen,.int .u32 bound,.slice a n cap] 25)).alloc (.cells #[.int .i64 0,.int .i64 0] 28)).heap[w.heap.size+1]?=some (.cells #[.int .i64 0,.int .i64 0] 28 (0,0)):=by simpa using alloc_new (w.alloc (.cells #[.int .u32 gen,.int .u32 bound,.slice a n cap] 25)) #[.int .i64 0,.int .i64 0] 28
 generalize (w.alloc (.cells #[.int .u32 gen,.int .u32 bound,.slice a n cap] 25)).alloc (.cells #[.int .i64 0,.int .i64 0] 28)=W0 at *
 have l0:=(Array.getElem?_eq_some_iff.1 kX).1
 refine (hH _).mono ?_
 rintro e w1 ⟨rfl,hb1'⟩
 have s1:=hb1'.size
 go_wp2_with fail
 refine (hW _).mono ?_
 rintro e w2 ⟨hb2,ax,cx,m,rfl,hm,hown⟩
 have s2:=hb2.size
 have hb3:Below w2.heap.size w2 (w2.alloc (.cells #[.int .i64 24,.int .i64 0] 28)):=(Below.refl _ _).alloc (Nat.le_refl _) _
 have hbA:=hb1'.trans ((hb2.trans (hb3.mono s2)).mono s1)
 have kX3:=(hbA.block _ l0).trans kX
 have kS:=alloc_new w2 #[.int .i64 24,.int .i64 0] 28
 have hbW:=hB0.trans (hbA.mono hB0.size)
 obtain⟨c0,c1,_⟩:=cell_of_two kX3
 have f0:=(one_block kX3).2 0
 have f1:=(one_block kX3).2 1
 obtain⟨d0,d1,_⟩:=cell_of_two kS
 have hne:w2.heap.size≠w.heap.size+1:=by omega
 clear hb1' hb2 hb3 hbA hown hm hH hW
 have hz:((0:Nat):Int)=0:=rfl
 go_wp2
 go_region
 go_wp2
 have hB:=two_put2 kX3 (.int .i64 24) (.int .i64 0)
 have hBel:=(hbW.trans ((two_below (w2.alloc (.cells #[.int .i64 24,.int .i64 0] 28)) (w.heap.size+1) (.int .i64 24) (.int .i64 0)).mono (by omega))).drew
 have hB':((((w2.alloc (.cells #[.int .i64 24,.int .i64 0] 28)).setCell ⟨w.heap.size+1,0,none⟩ (.int .i64 24)).setCell ⟨w.heap.size+1,1,none⟩ (.int .i64 0)).drew).heap[w.heap.size+1]?=some (.cells #[.int .i64 24,.int .i64 0] 28 (0,0)):=hB
 clear c0 c1 f0 f1 d0 d1 kX3 kS hB
 generalize (((w2.alloc (.cells #[.int .i64 24,.int .i64 0] 28)).setCell ⟨w.heap.size+1,0,none⟩ (.int .i64 24)).setCell ⟨w.heap.size+1,1,none⟩ (.int .i64 0)).drew=WF at hB' hBel ⊢
 obtain⟨g0,g1,_⟩:=cell_of_two hB'
 refine bodyPost_ret (v:=.tuple #[.slice none 0 0,.agg #[.int .i64 24,.int .i64 0]]) ?_ rfl ⟨hBel,none,0,0,rfl,rfl,Nat.le_refl _,rawsV_nil⟩
 simp [results,Tryz.results36,go_sem,g0,g1]
theorem Raws.info:(Tryz.prog.info? 54).map (fun i=>(i.zero,i.size,i.bytes))=some (some (.agg #[.int .u16 0,.slice none 0 0]),2,32):=by kernel_rfl
structure RawsS (w wr : World) (gen bound : Int) (a : Option Addr) (n cap : Nat) (v : Value) (rs : List (Int × List Int)) : Prop where
  row : ∃ cs, wr.ownsRow (w.heap.size + 2) 54 2 v rs.length cs ∧ RowO wr (w.heap.size + 2) v.ownBlock rs cs
  mbox : wr.heap[w.heap.size]? = some (.cells #[.int .u32 gen, .int .u32 bound, .slice a n cap] 25 (0, 0))
  sbox : wr.heap[w.heap.size + 1]? = some (.cells #[.int .i64 0, .int .i64 0] 28 (0, 0))
  bel : Below w.heap.size w wr
theorem RawsS.below {w wr wr':World} {gen bound:Int} {a:Option Addr} {n cap:Nat} {v:Value} {rs:List (Int×List Int)} (h:RawsS w wr gen bound a n cap v rs) (hb:Below wr.heap.size wr wr'):RawsS w wr' gen bound a n cap v rs:=by
 obtain⟨cs,h1,h2⟩:=h.row
 exact⟨⟨cs,own_below h1 hb,h2.below hb⟩,(hb.block _ (Array.getElem?_eq_some_iff.1 h.mbox).1).trans h.mbox,(hb.block _ (Array.getElem?_eq_some_iff.1 h.sbox).1).trans h.sbox,h.bel.trans (hb.mono h.bel.size)⟩
theorem RawsS.push {w wr W w6:World} {gen bound:Int} {a:Option Addr} {n cap:Nat} {v v':Value} {rs:List (Int×List Int)} {cs:List Value} {op:Int} {ms:List Int} {aj:Option Addr} {nj cj g':Nat} (h:RawsS w wr gen bound a n cap v rs) (h1:wr.ownsRow (w.heap.size+2) 54 2 v rs.length cs) (h2:RowO wr (w.heap.size+2) v.ownBlock rs cs)
  (hb:Below wr.heap.size wr W) (hs:W.ownsRow wr.heap.size 22 1 (.slice aj nj cj) nj (ms.map (Value.int .u32))) (hl:ms.length=nj) (hg:W.grownBy w6 v.ownBlock) (hat:v.ownBlock=some g'∨g'=W.heap.size) (hv':v'.ownBlock=some g')
  (hown:w6.ownsRow (w.heap.size+2) 54 2 v' (rs.length+1) (cs++[.int .u16 op,.slice aj nj cj])):RawsS w w6 gen bound a n cap v' (rs++[(op,ms)]):=by
 have hlo:∀ g,v.ownBlock=some g→w.heap.size+2≤g∧g<wr.heap.size:=fun g e=>h1.lt g e
 have hl1:=(Array.getElem?_eq_some_iff.1 h.sbox).1
 have hS:=h.below hb
 have hl2:=(Array.getElem?_eq_some_iff.1 hS.sbox).1
 refine⟨⟨_,by rw [List.length_append];exact hown,by rw [hv'];exact h2.push hb hs hl (fun b e=>(hlo b e).2) (by omega) hg hat⟩,?_,?_,?_⟩
 ·exact (hg.block _ (by omega) (fun e=>by have:=(hlo _ e.symm).1;omega)).trans hS.mbox
 ·exact (hg.block _ hl2 (fun e=>by have:=(hlo _ e.symm).1;omega)).trans hS.sbox
 ·exact hS.bel.grown hg hS.bel.size (fun k e=>by have:=(hlo k e).1;omega)
theorem spot_store {w wr:World} {gen bound:Int} {a:Option Addr} {n cap:Nat} {v:Value} {rs:List (Int×List Int)} (h:RawsS w wr gen bound a n cap v rs):wr.cell? ⟨w.heap.size+1,0,none⟩=some (.int .i64 0)∧wr.cell? ⟨w.heap.size+1,1,none⟩=some (.int .i64 0)∧wr.frozen? ⟨w.heap.size+1,0,none⟩=false∧wr.frozen? ⟨w.heap.size+1,1,none⟩=false:=by
 obtain⟨hc,hf⟩:=one_block h.sbox
 exact⟨hc 0,hc 1,hf 0,hf 1⟩
set_option maxHeartbeats 4000000 in
/-- Of a bound that may be. -/
theorem raws_ok (gen bound:Int) (a:Option Addr) (n cap:Nat) (l:List InstT) (w:World) (hg0:0≤gen) (hg1:gen<4294967296) (hb0:0≤bound) (hb1:bound<4294967296) (hv:InstsV w a l) (hok:InstsOk l) (hl:l.length=n) (hn:40 * n≤140737488351232) (h1:¬ (bound=0∨65536<bound)) :
  Calls Tryz.prog 36 #[modV gen bound a n cap] w fun e w'=>Below w.heap.size w w'∧∃ ax cx m,e=.returned (.tuple #[.slice ax m cx,.agg #[.int .i64 (shapeE bound l).1,.int .i64 (shapeE bound l).2]])∧(rawsR bound l).length=m∧m≤cx∧RawsV w' ax (rawsR bound l):=by
 obtain⟨i0,hi,hz0,hz1,hz2⟩:=info_parts Raws.info
 have HI:Hid (Tryz.prog.info? 54=some i0∧i0.zero=some (.agg #[.int .u16 0,.slice none 0 0])∧i0.size=2∧i0.bytes=32):=⟨hi,hz0,hz1,hz2⟩
 clear hi hz0 hz1 hz2
 have hH:=fun w=>headOf_any gen bound a n cap w
 have hW:=fun w=>writeC gen bound none 0 0 [] w hg0 hg1 hb0 hb1 rawsV_nil (fun j hj=>by simp at hj) rfl (by omega) (by omega)
 unfold modV at hH ⊢
 have HL:Hid (l.length=n):=hl
 have e1:writeE bound []=(0,0):=by unfold writeE;rw [if_neg h1];rfl
 have e2:writeL gen bound []=[119734787,65536,gen,bound,0]:=by unfold writeL;rw [e1];rfl
 rw [e1,e2] at hW
 have HE:Hid (shapeE bound l=shapeF bound 0 5 l):=by show _=_;unfold shapeE;rw [if_neg h1]
 have HV:Hid (InstsV w a l):=hv
 have HOK:Hid (InstsOk l):=hok
 clear e1 e2 h1 hv hok hl
 obtain⟨E,hE⟩:∃ E,E=shapeE bound l:=⟨_,rfl⟩
 obtain⟨RR,hRR⟩:∃ RR,RR=rawsR bound l:=⟨_,rfl⟩
 rw [← hE,← hRR]
 have HEE:Hid (E=shapeE bound l):=hE
 have HRR:Hid (RR=rawsR bound l):=hRR
 clear hE hRR
 go_enter Tryz.func36,Tryz.ntmps36
 go_wp2_with fail
 have hB0:Below w.heap.size w ((w.alloc (.cells #[.int .u32 gen,.int .u32 bound,.slice a n cap] 25)).alloc (.cells #[.int .i64 0,.int .i64 0] 28)):=((Below.refl _ w).alloc (Nat.le_refl _) _).alloc (by simp) _
 have hS0:RawsS w ((w.alloc (.cells #[.int .u32 gen,.int .u32 bound,.slice a n cap] 25)).alloc (.cells #[.int .i64 0,.int .i64 0] 28)) gen bound a n cap (.slice none 0 0) [] :=
  ⟨⟨[],World.ownsRow_nil _ _ _ _,rowO_nil⟩,(Below.heap_alloc _ _ _ (by simp)).trans (alloc_new w _ _),by simpa using alloc_new (w.alloc (.cells #[.int .u32 gen,.int .u32 bound,.slice a n cap] 25)) #[.int .i64 0,.int .i64 0] 28,hB0⟩
 clear hB0
 generalize (w.alloc (.cells #[.int .u32 gen,.int .u32 bound,.slice a n cap] 25)).alloc (.cells #[.int .i64 0,.int .i64 0] 28)=W0 at *
 refine (hH _).mono ?_
 rintro e w1 ⟨rfl,hb1'⟩
 have hS1:=hS0.below hb1'
 clear hS0 hb1' hH
 go_wp2_with fail
 refine (hW _).mono ?_
 rintro e w2 ⟨hb2,ax,cx,m,rfl,hm,hown⟩
 obtain rfl:5=m:=hm
 have hS2:=hS1.below hb2
 have hS3:=hS2.below ((Below.refl _ w2).alloc (Nat.le_refl _) (.cells #[.int .i64 0,.int .i64 0] 28))
 obtain⟨d0,d1,_⟩:=cell_of_two (alloc_new w2 #[.int .i64 0,.int .i64 0] 28)
 have m2:=(one_block hS3.mbox).1 2
 have HS3:Hid _:=hS3
 clear hS1 hb2 hS2 hS3 hown hW
 go_wp2
 go_loopw [6,7,27] (fun c v i wr=>∃ k:Nat,k≤n∧i=.int .i64 k∧c=.int .i64 (sizeTo (rawsL bound l) k)∧sizeTo (rawsL bound l) k≤1048576∧E=shapeF bound k (sizeTo (rawsL bound l) k) (l.drop k)∧RawsS w wr gen bound a n cap v (rawsL bound (l.take k))) (fun _ _ i _=>n - (intOf i).toNat)
 case atStart=>exact⟨0,Nat.zero_le _,rfl,rfl,by rw [sizeTo_zero];decide,by rw [HEE.out,HE.out,sizeTo_zero];rfl,HS3.out⟩
 case round =>
  obtain⟨k,hk,rfl,rfl,hsz,hEk,hS⟩:=hrel
  clear HS3 d0 d1 m2 HE
  have HEK:Hid (E=shapeF bound k (sizeTo (rawsL bound l) k) (l.drop k)):=hEk
  clear hEk
  have hA:=HV.out.below hS.bel
  obtain⟨a',cap',rfl⟩:∃ a cap,u7=.slice a (rawsL bound (l.take k)).length cap:=by
   obtain⟨cs,h1,_⟩:=hS.row
   rcases h1.2 with ⟨rfl,h0⟩ | ⟨g,cap,cur,rfl,_⟩
   ·exact⟨none,0,by rw [h0]⟩
   ·exact⟨_,_,rfl⟩
  have hlk:(rawsL bound (l.take k)).length=k:=by rw [rawsL_len,List.length_take,HL.out];omega
  rw [hlk] at hS ⊢
  by_cases hlt:k<n
  ·have hkl:k<l.length:=by rw [HL.out];exact hlt
   obtain⟨b1,o1,aj,cj,nj,rfl,hbl,p1,p2,p3,p4,p5,p6,p7⟩:=hA k hkl
   have hEs:=shape_step bound l k hkl
   have hss:=sizeTo_succ (rawsL bound l) k (by rw [rawsL_len];exact hkl)
   rw [nthR_raws bound l k hkl] at hss
   have htk:=rawsL_take bound l k hkl
   have hRn:=HRR.out
   have hox:=HOK.out k hkl
   have hRaw:=fun wx (hx:Below wr.heap.size wr wx)=>raw_any (nthI l k) bound aj nj cj wx (p6.below hx) hox p5
   have hEk:=HEK.out
   rw [hEs] at hEk
   have HEK2:Hid _:=hEk
   have HSS:Hid _:=hss
   have HTK:Hid _:=htk
   have hro:rawE (nthI l k) bound=0→rawO (nthI l k) bound=(nthI l k).1:=fun h=>by unfold rawO;rw [if_pos h]
   clear hEs hss htk HEK hEk hRn hA p6 hox
   generalize hx:nthI l k=x at *
   have hki:(k:Int)<(n:Int):=by omega
   have hk0:(0:Int)≤(k:Int):=by omega
   obtain⟨xo,xt,xr,xl⟩:=x
   unfold instV at hRaw
   simp only at *
   have mb:=(one_block (hS.below ((Below.refl _ wr).alloc (Nat.le_refl _) (.cells #[.int .u16 xo,.int .u32 xt,.int .u32 xr,.slice aj nj cj] 38))).mbox).1 1
   have hbA:Below wr.heap.size wr (wr.alloc (.cells #[.int .u16 xo,.int .u32 xt,.int .u32 xr,.slice aj nj cj] 38)):=(Below.refl _ wr).alloc (Nat.le_refl _) _
   have hC:=hRaw _ hbA
   go_wp2_with fail
   generalize wr.alloc (.cells #[.int .u16 xo,.int .u32 xt,.int .u32 xr,.slice aj nj cj] 38)=WA at *
   refine hC.mono ?_
   rintro e w5 ⟨hb5,a5,m5,c5,rfl,hm5,hown5⟩
   have hbB:Below wr.heap.size wr w5:=hbA.trans (hb5.mono hbA.size)
   have hS5:=hS.below hbB
   have hown5':=own_lo hown5 hbA.size
   clear hC hRaw hb5 hbA mb p1 p2 p3 p4 hown5
   have HM5:Hid _:=hm5
   by_cases hr:rawE (xo,xt,xr,xl) bound=0
   ·have hro':=hro hr
    rw [hr,hro']
    have hEk:=HEK2.out
    rw [if_neg (by simp [hr])] at hEk
    have HEK3:Hid _:=hEk
    clear hro hro' hEk HEK2
    have hbC:Below wr.heap.size wr (w5.alloc (.cells #[.int .u16 xo,.slice a5 m5 c5] 54)):=hbB.alloc hbB.size _
    obtain⟨q0,q1,_⟩:=cell_of_two (alloc_new w5 #[.int .u16 xo,.slice a5 m5 c5] 54)
    have hss:(sizeTo (rawsL bound l) (k+1):Nat)=sizeTo (rawsL bound l) k+1+m5:=by rw [HSS.out,HM5.out]
    have hm5b:m5<65535:=by rw [← HM5.out];exact rawWs_len _ _
    by_cases hbig:1048576<sizeTo (rawsL bound l) (k+1)
    ·have hE4:E=(4,k):=by rw [HEK3.out,if_pos hbig]
     have hbig':(1048576:Int)<(sizeTo (rawsL bound l) k:Int)+(1+(m5:Int)):=by omega
     generalize sizeTo (rawsL bound l) k=sz at *
     clear hbC hbig hss HEK3 HSS HTK hr HM5 hm5
     have hR:RR=[]:=by rw [HRR.out,rawsR,← HEE.out,hE4,if_neg (by first | exact hr | simp)]
     subst hR hE4
     have hS6:=hS5.below ((Below.refl _ w5).alloc (Nat.le_refl _) (.cells #[.int .u16 xo,.slice a5 m5 c5] 54))
     obtain⟨s0,s1,f0,f1⟩:=spot_store hS6
     have hB3:=two_put2 hS6.sbox (.int .i64 4) (.int .i64 (k:Int))
     have hBel:=hS6.bel.trans ((two_below (w5.alloc (.cells #[.int .u16 xo,.slice a5 m5 c5] 54)) (w.heap.size+1) (.int .i64 4) (.int .i64 (k:Int))).mono (by omega))
     have HB3:Hid _:=hB3
     have HBel:Hid _:=hBel
     clear hS6 hS5 hS hbB hown5' hB3 hBel HRR HEE HV HOK
     go_wp2
     have hB3:=HB3.out
     have hBel:=HBel.out
     clear HB3 HBel s0 s1 f0 f1
     generalize ((w5.alloc _).setCell _ _).setCell _ _=W at hB3 hBel ⊢
     obtain⟨hd,_⟩:=one_block hB3
     have d0:=hd 0
     have d1:=hd 1
     refine bodyPost_ret (v:=.tuple #[.slice none 0 0,.agg #[.int .i64 4,.int .i64 (k:Int)]]) ?_ rfl ⟨hBel,none,0,0,rfl,rfl,Nat.le_refl _,rawsV_nil⟩
     simp [results,Tryz.results36,go_sem,d0,d1]
    ·have hE5:E=shapeF bound (k+1) (sizeTo (rawsL bound l) (k+1)) (l.drop (k+1)):=by rw [HEK3.out,if_neg hbig]
     have HE5:Hid _:=hE5
     have hbig':¬ (1048576:Int)<(sizeTo (rawsL bound l) k:Int)+(1+(m5:Int)):=by omega
     have HBG:Hid (sizeTo (rawsL bound l) (k+1)≤1048576):=by show _≤_;omega
     have HSK:Hid ((sizeTo (rawsL bound l) k:Int)+(1+(m5:Int))=(sizeTo (rawsL bound l) (k+1):Nat)):=by show _=_;omega
     obtain⟨cs,hc1,hc2⟩:=hS.row
     have N0:Below wr.heap.size wr ((w5.alloc (.cells #[.int .u16 xo,.slice a5 m5 c5] 54)).alloc (.cells #[.int .u16 xo,.slice a5 m5 c5] 54)):=hbC.alloc hbC.size _
     have N1:Hid (((w5.alloc (.cells #[.int .u16 xo,.slice a5 m5 c5] 54)).alloc (.cells #[.int .u16 xo,.slice a5 m5 c5] 54)).ownsRow (w.heap.size+2) 54 2 (.slice a' k cap') k cs):=own_below (by rw [hlk] at hc1;exact hc1) N0
     have N2:Hid (∀ (j:Nat) (u:Value),[Value.int .u16 xo,.slice a5 m5 c5][j]?=some u→((w5.alloc (.cells #[.int .u16 xo,.slice a5 m5 c5] 54)).alloc (.cells #[.int .u16 xo,.slice a5 m5 c5] 54)).cell? ((⟨w5.heap.size+1,0,none⟩:Addr).add j)=some u):=World.news_of_block (cs:=#[.int .u16 xo,.slice a5 m5 c5]) (t:=54) (fr:=(0,0)) (by first | exact alloc_new _ _ _ | simpa using alloc_new (w5.alloc (.cells #[.int .u16 xo,.slice a5 m5 c5] 54)) #[.int .u16 xo,.slice a5 m5 c5] 54)
     have N3:Hid (∀ u:Value,u∈[Value.int .u16 xo,.slice a5 m5 c5]→u.oneCell'=true):=by intro u hu;simp at hu;rcases hu with rfl | rfl <;> rfl
     have N4:k+1≤maxLen:=by unfold maxLen;omega
     have N5:(k+1) * 32≤140737488355328:=by omega
     have hl1:=(Array.getElem?_eq_some_iff.1 hS.sbox).1
     have N6:Hid (w.heap.size+2≤((w5.alloc (.cells #[.int .u16 xo,.slice a5 m5 c5] 54)).alloc (.cells #[.int .u16 xo,.slice a5 m5 c5] 54)).heap.size):=by show _≤_;have:=N0.size;omega
     have N7:Hid (((w5.alloc (.cells #[.int .u16 xo,.slice a5 m5 c5] 54)).alloc (.cells #[.int .u16 xo,.slice a5 m5 c5] 54)).ownsRow wr.heap.size 22 1 (.slice a5 m5 c5) m5 ((rawWs (xo,xt,xr,xl) bound).map (Value.int .u32))):=own_below (own_below hown5' ((Below.refl _ w5).alloc (Nat.le_refl _) _)) ((Below.refl _ _).alloc (Nat.le_refl _) _)
     have HN0:Hid _:=N0
     have HS:Hid _:=hS
     have HC1:Hid _:=hc1
     have HC2:Hid _:=hc2
     have HLK:Hid _:=hlk
     clear hS hS5 hbB hbC hown5' N0 hc1 hc2 hss hbig hr HEK3 hE5 hm5 hlk hl1
     generalize sizeTo (rawsL bound l) k=sz at *
     go_wp2_with (at_builtin;refine wpList_append_lies _ rfl (.tmp 54) (.tmp 56) 71 rfl (w.heap.size+2) 54 i0 (.agg #[.int .u16 0,.slice none 0 0]) 2 32 Tryz.underlying71 HI.out.1 HI.out.2.1 HI.out.2.2.1 HI.out.2.2.2 rfl (by decide) (.slice a' k cap') k cs rfl N1.out ⟨w5.heap.size+1,0,none⟩ 1 1 [.int .u16 xo,.slice a5 m5 c5] rfl rfl N2.out N3.out (by decide) N4 N5 N6.out _ rfl ?_)
     intro g6 cap6 w6 hown6 hgr6 hat6 hlt6
     have hS6:=HS.out.push (v':=.slice (some ⟨g6,0,none⟩) (k+1) cap6) HC1.out HC2.out HN0.out N7.out HM5.out hgr6 (by simpa using hat6) rfl (by rw [HLK.out];exact hown6)
     rw [← HTK.out] at hS6
     have HS6:Hid _:=hS6
     clear hS6 hown6 hgr6 hat6 N1 N2 N3 N6 N7 HN0 HS HC1 HC2 q0 q1
     go_wp2
     go_roundw
     case rel=>exact⟨k+1,by omega,by go_num,by first | exact congrArg (Value.int .i64) HSK.out | (rw [← HSK.out]),HBG.out,HE5.out,HS6.out⟩
     case measure=>simp [intOf];omega
   ·have hE4:E=(rawE (xo,xt,xr,xl) bound,k):=by rw [HEK2.out,if_pos hr]
    generalize rawE (xo,xt,xr,xl) bound=er at *
    generalize rawO (xo,xt,xr,xl) bound=ro at *
    generalize sizeTo (rawsL bound l) k=sz at *
    clear HEK2 HSS HTK HM5 hm5 hro
    have hR:RR=[]:=by rw [HRR.out,rawsR,← HEE.out,hE4,if_neg (by first | exact hr | simp)]
    subst hR hE4
    have hS6:=hS5.below ((Below.refl _ w5).alloc (Nat.le_refl _) (.cells #[.int .u16 ro,.slice a5 m5 c5] 54))
    obtain⟨s0,s1,f0,f1⟩:=spot_store hS6
    have hB3:=two_put2 hS6.sbox (.int .i64 er) (.int .i64 (k:Int))
    have hBel:=hS6.bel.trans ((two_below (w5.alloc (.cells #[.int .u16 ro,.slice a5 m5 c5] 54)) (w.heap.size+1) (.int .i64 er) (.int .i64 (k:Int))).mono (by omega))
    have HB3:Hid _:=hB3
    have HBel:Hid _:=hBel
    clear hS6 hS5 hS hbB hown5' hB3 hBel HRR HEE HV HOK
    go_wp2
    have hB3:=HB3.out
    have hBel:=HBel.out
    clear HB3 HBel s0 s1 f0 f1
    generalize ((w5.alloc _).setCell _ _).setCell _ _=W at hB3 hBel ⊢
    obtain⟨hd,_⟩:=one_block hB3
    have d0:=hd 0
    have d1:=hd 1
    refine bodyPost_ret (v:=.tuple #[.slice none 0 0,.agg #[.int .i64 er,.int .i64 (k:Int)]]) ?_ rfl ⟨hBel,none,0,0,rfl,rfl,Nat.le_refl _,rawsV_nil⟩
    simp [results,Tryz.results36,go_sem,d0,d1]
  ·obtain rfl:k=n:=by omega
   have hR:RR=rawsL bound (l.take k):=by
    rw [HRR.out,rawsR,← HEE.out,HEK.out,shape_end bound l k _ (by rw [HL.out];exact Nat.le_refl _),if_pos rfl,List.take_of_length_le (by rw [HL.out];exact Nat.le_refl _)]
   have hE0:E=(0,0):=by rw [HEK.out,shape_end bound l k _ (by rw [HL.out];exact Nat.le_refl _)]
   subst hR hE0
   obtain⟨s0,s1,f0,f1⟩:=spot_store hS
   obtain⟨cs,hown,hrow⟩:=hS.row
   rw [hlk] at hown
   have hcap:k≤cap':=by
    rcases hown.2 with ⟨h1,h2⟩ | ⟨g,c',cur,h1,_,_,h4,_⟩
    ·omega
    ·cases h1;exact h4
   have hB3:=two_put2 hS.sbox (.int .i64 0) (.int .i64 0)
   have hBel:=hS.bel.trans ((two_below wr (w.heap.size+1) (.int .i64 0) (.int .i64 0)).mono (by omega))
   have hV3:RawsV ((wr.setCell ⟨w.heap.size+1,0,none⟩ (.int .i64 0)).setCell ⟨w.heap.size+1,1,none⟩ (.int .i64 0)) a' (rawsL bound (l.take k)):=by
    refine ((hrow.grown ((grown_setCell wr (w.heap.size+1) 0 _).trans (grown_setCell _ (w.heap.size+1) 1 _)) (fun g e=>.inl (by cases e;omega))).own (own_apartly hown ((grown_setCell wr (w.heap.size+1) 0 _).trans (grown_setCell _ (w.heap.size+1) 1 _)) (fun g e=>.inl (by cases e;omega))) hlk).view
   have HV3:Hid _:=hV3
   clear hown hrow hV3 HOK HV HRR HEE HEK hA
   go_wp2
   generalize (wr.setCell ⟨w.heap.size+1,0,none⟩ (.int .i64 0)).setCell ⟨w.heap.size+1,1,none⟩ (.int .i64 0)=W at hB3 hBel HV3 ⊢
   obtain⟨hd,_⟩:=one_block hB3
   have d0:=hd 0
   have d1:=hd 1
   refine bodyPost_ret (v:=.tuple #[.slice a' k cap',.agg #[.int .i64 0,.int .i64 0]]) ?_ rfl ⟨hBel,a',cap',k,rfl,by first | exact hlk | rfl,hcap,HV3.out⟩
   simp [results,Tryz.results36,go_sem,d0,d1]
theorem raws_any (gen bound:Int) (a:Option Addr) (n cap:Nat) (l:List InstT) (w:World) (hg0:0≤gen) (hg1:gen<4294967296) (hb0:0≤bound) (hb1:bound<4294967296) (hv:InstsV w a l) (hok:InstsOk l) (hl:l.length=n) (hn:40 * n≤140737488351232) :
  Calls Tryz.prog 36 #[modV gen bound a n cap] w fun e w'=>Below w.heap.size w w'∧∃ ax cx m,e=.returned (.tuple #[.slice ax m cx,.agg #[.int .i64 (shapeE bound l).1,.int .i64 (shapeE bound l).2]])∧(rawsR bound l).length=m∧m≤cx∧RawsV w' ax (rawsR bound l):=by
 by_cases h1:bound=0∨65536<bound
 ·exact raws_bad gen bound a n cap l w hg0 hg1 hb0 hb1 hv hok hl hn h1
 ·exact raws_ok gen bound a n cap l w hg0 hg1 hb0 hb1 hv hok hl hn h1
structure DecB (w W : World) (v0 v1 v2 v3 v4 : Value) : Prop where
  mod : W.heap[w.heap.size]? = some (.cells #[v0, v1, v2] 25 (0, 0))
  spot : W.heap[w.heap.size + 1]? = some (.cells #[v3, v4] 28 (0, 0))
  bel : Below w.heap.size w W
theorem decB_new (w:World):DecB w ((w.alloc (.cells #[.int .u32 0,.int .u32 0,.slice none 0 0] 25)).alloc (.cells #[.int .i64 0,.int .i64 0] 28)) (.int .u32 0) (.int .u32 0) (.slice none 0 0) (.int .i64 0) (.int .i64 0) :=
 ⟨(Below.heap_alloc _ _ _ (by simp)).trans (alloc_new w _ _),by simpa using alloc_new (w.alloc (.cells #[.int .u32 0,.int .u32 0,.slice none 0 0] 25)) #[.int .i64 0,.int .i64 0] 28,((Below.refl _ w).alloc (Nat.le_refl _) _).alloc (by simp) _⟩
theorem DecB.below {w W W':World} {v0 v1 v2 v3 v4:Value} (h:DecB w W v0 v1 v2 v3 v4) (hb:Below W.heap.size W W'):DecB w W' v0 v1 v2 v3 v4 :=
 ⟨(hb.block _ (Array.getElem?_eq_some_iff.1 h.mod).1).trans h.mod,(hb.block _ (Array.getElem?_eq_some_iff.1 h.spot).1).trans h.spot,h.bel.trans (hb.mono h.bel.size)⟩
theorem DecB.cells {w W:World} {v0 v1 v2 v3 v4:Value} (h:DecB w W v0 v1 v2 v3 v4):W.cell? ⟨w.heap.size,0,none⟩=some v0∧W.cell? ⟨w.heap.size,1,none⟩=some v1∧W.cell? ⟨w.heap.size,2,none⟩=some v2∧W.cell? ⟨w.heap.size+1,0,none⟩=some v3∧W.cell? ⟨w.heap.size+1,1,none⟩=some v4:=by
 obtain⟨h1,_⟩:=one_block h.mod
 obtain⟨h2,_⟩:=one_block h.spot
 exact⟨h1 0,h1 1,h1 2,h2 0,h2 1⟩
theorem DecB.free {w W:World} {v0 v1 v2 v3 v4:Value} (h:DecB w W v0 v1 v2 v3 v4):W.frozen? ⟨w.heap.size,0,none⟩=false∧W.frozen? ⟨w.heap.size,1,none⟩=false∧W.frozen? ⟨w.heap.size,2,none⟩=false∧W.frozen? ⟨w.heap.size+1,0,none⟩=false∧W.frozen? ⟨w.heap.size+1,1,none⟩=false:=by
 obtain⟨_,h1⟩:=one_block h.mod
 obtain⟨_,h2⟩:=one_block h.spot
 exact⟨h1 0,h1 1,h1 2,h2 0,h2 1⟩
def fiveW (w W:World) (u0 u1 u2 u3 u4:Value):World:=((((W.setCell ⟨w.heap.size,0,none⟩ u0).setCell ⟨w.heap.size,1,none⟩ u1).setCell ⟨w.heap.size,2,none⟩ u2).setCell ⟨w.heap.size+1,0,none⟩ u3).setCell ⟨w.heap.size+1,1,none⟩ u4
theorem DecB.put {w W:World} {v0 v1 v2 v3 v4:Value} (h:DecB w W v0 v1 v2 v3 v4) (u0 u1 u2 u3 u4:Value):DecB w (fiveW w W u0 u1 u2 u3 u4) u0 u1 u2 u3 u4:=by
 have k1:=three_set3 h.mod u0 u1 u2
 have k2:(((W.setCell ⟨w.heap.size,0,none⟩ u0).setCell ⟨w.heap.size,1,none⟩ u1).setCell ⟨w.heap.size,2,none⟩ u2).heap[w.heap.size+1]?=some (.cells #[v3,v4] 28 (0,0)):=(Below.heap_setCell _ _ _ _ (by simp)).trans ((Below.heap_setCell _ _ _ _ (by simp)).trans ((Below.heap_setCell _ _ _ _ (by simp)).trans h.spot))
 refine⟨(Below.heap_setCell _ _ _ _ (by simp)).trans ((Below.heap_setCell _ _ _ _ (by simp)).trans k1),two_put2 k2 u3 u4,?_⟩
 exact ((((h.bel.setCell (by simp) _).setCell (by simp) _).setCell (by simp) _).setCell (by simp) _).setCell (by simp) _
theorem DecB.drew {w W:World} {v0 v1 v2 v3 v4:Value} (h:DecB w W v0 v1 v2 v3 v4):DecB w W.drew v0 v1 v2 v3 v4:=h.below (below_drew W)
theorem fiveW_grown (w W:World) (u0 u1 u2 u3 u4:Value):∀ k,k≠w.heap.size→k≠w.heap.size+1→(fiveW w W u0 u1 u2 u3 u4).heap[k]?=W.heap[k]?:=fun k h1 h2=>by
 unfold fiveW
 rw [Below.heap_setCell _ _ _ _ (by simpa using h2),Below.heap_setCell _ _ _ _ (by simpa using h2),Below.heap_setCell _ _ _ _ (by simpa using h1),Below.heap_setCell _ _ _ _ (by simpa using h1),Below.heap_setCell _ _ _ _ (by simpa using h1)]
set_option maxHeartbeats 2000000 in
/-- Bytes that are no words. -/
theorem decode_split (a:Option Addr) (n cap:Nat) (bs:List Int) (w:World) (ha:View .u8 w a bs) (hl:bs.length=n) (hw:Within 256 bs) (h:splitErr bs≠0) :
  Calls Tryz.prog 31 #[.slice a n cap] w fun e w'=>e=.returned (.tuple #[modV 0 0 none 0 0,.agg #[.int .i64 (splitErr bs),.int .i64 0]])∧Below w.heap.size w w':=by
 have hS:=fun wx (hb:Below w.heap.size w wx)=>split_any a n cap bs wx (ha.below hb) hl hw
 have heb:(splitErr bs==0)=false:=by simpa using h
 generalize splitErr bs=er at *
 generalize splitOut bs=so at *
 clear ha hl hw h
 have hD0:=decB_new w
 have hC:=hS _ hD0.bel
 have HD0:Hid (DecB _ _ _ _ _ _ _):=hD0
 clear hS hD0
 unfold modV
 go_enter Tryz.func31,Tryz.ntmps31
 go_wp2_with fail
 have hD0:=HD0.out
 clear HD0
 generalize (w.alloc (.cells #[.int .u32 0,.int .u32 0,.slice none 0 0] 25)).alloc (.cells #[.int .i64 0,.int .i64 0] 28)=W0 at *
 refine hC.mono ?_
 rintro e w1 ⟨ax,m,rfl,hm,_,_,hb1⟩
 have hD1:=hD0.below hb1
 obtain⟨c0,c1,c2,c3,c4⟩:=hD1.cells
 obtain⟨f0,f1,f2,f3,f4⟩:=hD1.free
 have hD2:=hD1.put (.int .u32 0) (.int .u32 0) (.slice none 0 0) (.int .i64 er) (.int .i64 0)
 have HD2:Hid (DecB _ _ _ _ _ _ _):=hD2
 clear hC hD0 hD1 hb1 hD2 hm
 go_wp2
 have hD2:=HD2.out
 unfold fiveW at hD2
 clear HD2 c0 c1 c2 c3 c4 f0 f1 f2 f3 f4
 generalize ((((w1.setCell _ _).setCell _ _).setCell _ _).setCell _ _).setCell _ _=W at hD2 ⊢
 obtain⟨d0,d1,d2,d3,d4⟩:=hD2.cells
 refine bodyPost_ret (v:=.tuple #[.agg #[.int .u32 0,.int .u32 0,.slice none 0 0],.agg #[.int .i64 er,.int .i64 0]]) ?_ rfl ⟨rfl,hD2.bel⟩
 simp [results,Tryz.results31,go_sem,d0,d1,d2,d3,d4]
set_option maxHeartbeats 2000000 in
/-- Words that no frame has. -/
theorem decode_read (a:Option Addr) (n cap:Nat) (bs:List Int) (w:World) (ha:View .u8 w a bs) (hl:bs.length=n) (hw:Within 256 bs) (h:splitErr bs=0) (h2:(readE (splitL bs)).1≠0) :
  Calls Tryz.prog 31 #[.slice a n cap] w fun e w'=>e=.returned (.tuple #[modV 0 0 none 0 0,.agg #[.int .i64 (readE (splitL bs)).1,.int .i64 (readE (splitL bs)).2]])∧Below w.heap.size w w':=by
 have hS:=fun wx (hb:Below w.heap.size w wx)=>split_any a n cap bs wx (ha.below hb) hl hw
 have hso:splitOut bs=splitL bs:=by unfold splitOut;rw [if_pos h]
 rw [hso,h] at hS
 have hsm:4 * (splitL bs).length≤140737488351232:=by
  rw [splitL_len]
  unfold splitErr at h
  by_cases h3:4194304<bs.length
  ·rw [if_pos h3] at h;cases h
  ·omega
 have hR:=fun ax m wx (hv:View .u32 wx ax (splitL bs)) (hm:(splitL bs).length=m)=>readC ax m m (splitL bs) wx hv hm (splitL_within bs hw) (by omega) (Nat.le_refl _)
 have heb:((readE (splitL bs)).1==0)=false:=by simpa using h2
 generalize hq1:(readE (splitL bs)).1=e1 at *
 generalize hq2:(readE (splitL bs)).2=e2 at *
 have hr2:readAt (splitL bs) 2=0:=by unfold readAt;rw [hq1,if_neg h2]
 have hr3:readAt (splitL bs) 3=0:=by unfold readAt;rw [hq1,if_neg h2]
 rw [hr2,hr3] at hR
 generalize splitL bs=zs at *
 clear ha hl hw h h2 hso hsm hr2 hr3 hq1 hq2
 have hD0:=decB_new w
 have hC:=hS _ hD0.bel
 have HD0:Hid (DecB _ _ _ _ _ _ _):=hD0
 clear hS hD0
 unfold modV
 go_enter Tryz.func31,Tryz.ntmps31
 go_wp2_with fail
 have hD0:=HD0.out
 clear HD0
 generalize (w.alloc (.cells #[.int .u32 0,.int .u32 0,.slice none 0 0] 25)).alloc (.cells #[.int .i64 0,.int .i64 0] 28)=W0 at *
 refine hC.mono ?_
 rintro e w1 ⟨ax,m,rfl,hm,hv1,_,hb1⟩
 have hD1:=hD0.below hb1
 have hC2:=hR ax m w1 hv1 hm
 have HM:Hid _:=hm
 clear hC hD0 hb1 hR hv1 hm
 go_wp2_with fail
 refine hC2.mono ?_
 rintro e w2 ⟨hb2,ay,cy,m2,rfl,hm2,_⟩
 have hD2:=(hD1.below hb2).below (((Below.refl _ w2).alloc (Nat.le_refl _) (.cells #[.int .u32 0,.int .u32 0] 106)).alloc (by simp) (.cells #[.int .i64 e1,.int .i64 (e2:Int)] 28))
 obtain⟨c0,c1,c2,c3,c4⟩:=hD2.cells
 obtain⟨f0,f1,f2,f3,f4⟩:=hD2.free
 have kS:((w2.alloc (.cells #[.int .u32 0,.int .u32 0] 106)).alloc (.cells #[.int .i64 e1,.int .i64 (e2:Int)] 28)).heap[w2.heap.size+1]?=some (.cells #[.int .i64 e1,.int .i64 (e2:Int)] 28 (0,0)):=by simpa using alloc_new (w2.alloc (.cells #[.int .u32 0,.int .u32 0] 106)) #[.int .i64 e1,.int .i64 (e2:Int)] 28
 obtain⟨k0,k1,_⟩:=cell_of_two kS
 have hD3:=(hD2.put (.int .u32 0) (.int .u32 0) (.slice none 0 0) (.int .i64 e1) (.int .i64 (e2:Int))).drew
 have hl2:=(Array.getElem?_eq_some_iff.1 (hD1.below hb2).spot).1
 have HD3:Hid (DecB _ _ _ _ _ _ _):=hD3
 have hne:w2.heap.size+1≠w.heap.size:=by omega
 have hne2:w2.heap.size+1≠w.heap.size+1:=by omega
 clear hC2 hD1 hb2 hD2 hD3 kS hm2
 go_wp2
 go_region
 all_goals
  go_wp2
  have hD2:=HD3.out
  unfold fiveW at hD2
  clear HD3 c0 c1 c2 c3 c4 f0 f1 f2 f3 f4 k0 k1
  generalize World.drew _=W at hD2 ⊢
  obtain⟨d0,d1,d2,d3,d4⟩:=hD2.cells
  refine bodyPost_ret (v:=.tuple #[.agg #[.int .u32 0,.int .u32 0,.slice none 0 0],.agg #[.int .i64 e1,.int .i64 (e2:Int)]]) ?_ rfl ⟨rfl,hD2.bel⟩
  simp [results,Tryz.results31,go_sem,d0,d1,d2,d3,d4]
end Go.Proofs.YtonhnflilfjkbaaGreatDoor
