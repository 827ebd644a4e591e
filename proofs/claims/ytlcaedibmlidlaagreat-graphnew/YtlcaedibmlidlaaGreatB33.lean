/-
  Texts in one: LawGraphNew.
-/
import Derived.Test.YtlcaedibmlidlaaGreatB32
namespace Go.Proofs.YtlcaedibmlidlaaGreat
open Go.RowKit
set_option linter.unusedVariables false
set_option linter.unusedSimpArgs false
set_option maxRecDepth 10000
theorem endFn {w:World} {a0 a1 a2 a3 a4:Value} {g:FuncT} (h:FnR w (.agg #[a0,a1,a2,a3,a4]) g):∃ (i0 i1 i4:Int) (x2:Option Addr) (n2 c2:Nat) (x3:Option Addr) (n3 c3:Nat),a0=.int .u32 i0∧a1=.int .i64 i1∧a2=.slice x2 n2 c2∧a3=.slice x3 n3 c3∧a4=.int .i64 i4∧∀ e:Int,FnR w (.agg #[a0,a1,a2,a3,.int .i64 e]) (g.1,g.2.1,g.2.2.1,g.2.2.2.1,e):=by
 obtain⟨xp,cp,xq,cq,e,h1,h2⟩:=h.form
 injection e with e
 simp only [Array.mk.injEq,List.cons.injEq,and_true] at e
 obtain⟨rfl,rfl,rfl,rfl,rfl⟩:=e
 exact⟨_,_,_,_,_,_,_,_,_,rfl,rfl,rfl,rfl,rfl,fun e=>⟨⟨xp,cp,xq,cq,rfl,h1,h2⟩,h.few⟩⟩
set_option maxHeartbeats 16000000 in
theorem graphNew_true (w:World) (gen bnd:Int) (a:Option Addr) (n c:Nat) (l:List InstT) (hl:l.length=n) (hv:InstsV w a l) (hok:InstsOk l) (hn:40 * n≤140737488351232) (hc:n≤c) (hgb:0≤gen∧gen<4294967296∧0≤bnd∧bnd<4294967296) (fv:Value) (f:FuncT) (hf:FnR w fv f) :
  Calls Tryz.prog 3 #[.agg #[.int .u32 gen,.int .u32 bnd,.slice a n c],fv] w fun e w'=>e=.returned (.bool true)∧Below w.heap.size w w':=by
 obtain⟨g0,g1,b0,b1⟩:=hgb
 have HON:=hide fun wx gv g (h:Below w.heap.size w wx) (hg:FnR wx gv g)=>one14_any gen bnd a n c l gv g wx (hv.below h) hok hl hn g0 g1 b0 b1 hg
 have HFF:=hide fun wx (h:Below w.heap.size w wx)=>hf.below h
 have HA:=hide (fun wx=>awake14_true wx)
 obtain⟨xp,cp,xq,cq,rfl,_,_⟩:=hf.form
 obtain⟨fi,fa,fp,fb,fe⟩:=f
 simp only at *
 obtain⟨X,hX⟩:∃ X,(w.alloc (.cells #[.int .u32 gen,.int .u32 bnd,.slice a n c] 25)).alloc (.cells #[.int .u32 fi,.int .i64 fa,.slice xp fp.length cp,.slice xq fb.length cq,.int .i64 fe] 29)=X:=⟨_,rfl⟩
 have hbX:Below w.heap.size w X:=by rw [← hX];exact ((Below.refl _ w).alloc (Nat.le_refl _) _).alloc (by simp) _
 have k0:X.heap[w.heap.size]?=some (.cells #[.int .u32 gen,.int .u32 bnd,.slice a n c] 25 (0,0)):=by rw [← hX];exact allocOld (allocNew w _ rfl) _
 have k1:X.heap[w.heap.size+1]?=some (.cells #[.int .u32 fi,.int .i64 fa,.slice xp fp.length cp,.slice xq fb.length cq,.int .i64 fe] 29 (0,0)):=by rw [← hX];exact allocNew _ _ (by simp)
 have HBX:=hide hbX
 have K0:=hide k0
 have K1:=hide k1
 have hcu:=refCut5_any gen bnd a n c l X (hv.below hbX) hok hl hn b0 b1
 obtain⟨m0,m1,m2⟩:=threeC k0
 unfold modV at *
 unfold CutQ at hcu
 subst hX
 clear hv hok hl hn hc hf k0 k1 hbX
 go_enter Tryz.func3,Tryz.ntmps3
 go_wp2_with fail
 generalize World.alloc (World.alloc w _) _=X at *
 generalize w.heap.size+1=B1 at *
 refine hcu.mono ?_
 rintro e w2 ⟨cv,rfl,hb2,hcut⟩
 generalize (layE bnd l).2=s2n at *
 generalize ((s2n:Nat):Int)=s2 at *
 have hrd:∃ fx fc fs,cv=.slice fx fs.length fc∧FuncsR w2 cv fs∧FewF fs:=by
  rcases hcut with ⟨_,rfl⟩ | ⟨h0,h⟩
  ·exact⟨none,0,[],rfl,FuncsR.nil _,⟨by simp,fun j=>by simp [nthF,noFunc]⟩⟩
  ·obtain⟨fx,fc,e,_⟩:=FuncsAt.readV h
   exact⟨fx,fc,_,e,FuncsAt.readV h,few_cut h0⟩
 clear hcut
 generalize (layE bnd l).1=s1 at *
 obtain⟨fx,fc,fs,rfl,hrd,hfe⟩:=hrd
 have hab:Below w2.heap.size w2 (w2.alloc (.cells #[.int .i64 s1,.int .i64 s2] 33)):=(Below.refl _ w2).alloc (Nat.le_refl _) _
 have HB2:=hide ((HBX.out.trans (hb2.mono HBX.out.size)).trans (hab.mono (HBX.out.trans (hb2.mono HBX.out.size)).size))
 have HRD:=hide (hrd.below hab)
 have HFE:=hide hfe
 have L0:=hide (allocOld ((hb2.block _ (Array.getElem?_eq_some_iff.1 K0.out).1).trans K0.out) (.cells #[.int .i64 s1,.int .i64 s2] 33))
 have L1:=hide (allocOld ((hb2.block _ (Array.getElem?_eq_some_iff.1 K1.out).1).trans K1.out) (.cells #[.int .i64 s1,.int .i64 s2] 33))
 generalize hmf:fs.length=mf at *
 have HM:=hide hmf
 clear hcu hrd hb2 hab hmf hfe m0 m1 m2 K0 K1
 go_wp2_with fail
 generalize World.alloc w2 _=W at *
 have HSP:∀ k:Nat,k≤mf→k≤8→∀ wr,Below W.heap.size W wr→True:=fun _ _ _ _ _=>trivial
 clear HSP
 go_loopw [7] (fun i wr=>∃ k:Nat,k≤mf∧k≤8∧i=.int .i64 k∧Below W.heap.size W wr) (fun i _=>mf - (intOf i).toNat)
 case atStart=>exact⟨0,Nat.zero_le _,Nat.zero_le _,rfl,Below.refl _ _⟩
 case round =>
  obtain⟨k,hk,hk8,rfl,hbr⟩:=hrel
  have HBR:=hide hbr
  have HBW:=hide (HB2.out.trans (hbr.mono HB2.out.size))
  have hk0:=(hbr.block _ (Array.getElem?_eq_some_iff.1 L0.out).1).trans L0.out
  have hk1:=(hbr.block _ (Array.getElem?_eq_some_iff.1 L1.out).1).trans L1.out
  have R0:=hide hk0
  have R1:=hide hk1
  by_cases hlt:k<mf∧k<8
  ·obtain⟨F,a0,a1,a2,a3,a4,rfl,hF,q0,q1,q2,q3,q4,hfn⟩:=funcsR_at (HRD.out.below hbr) HFE.out HM.out hlt.1
   have hki:(k:Int)<(mf:Int):=by omega
   have hk9:(k:Int)<8:=by omega
   have hkz:(0:Int)≤(k:Int):=by omega
   have HLT:=hide hlt
   have hw:=wrapJ hlt.2 (by decide)
   have LC:Hid (∀ w':World,Below wr.heap.size wr w'→w'.cell? ⟨w.heap.size,0,none⟩=some (.int .u32 gen)∧w'.cell? ⟨w.heap.size,1,none⟩=some (.int .u32 bnd)∧w'.cell? ⟨w.heap.size,2,none⟩=some (.slice a n c)∧w'.cell? ⟨F,k * 5,none⟩=some a0∧w'.cell? ⟨F,k * 5+1,none⟩=some a1∧w'.cell? ⟨F,k * 5+2,none⟩=some a2∧w'.cell? ⟨F,k * 5+3,none⟩=some a3∧w'.cell? ⟨F,k * 5+4,none⟩=some a4):=fun w' h=>by
    obtain⟨u0,u1,u2⟩:=threeC ((h.block _ (Array.getElem?_eq_some_iff.1 hk0).1).trans hk0)
    exact⟨u0,u1,u2,(h.cell (p:=⟨F,k * 5,none⟩) hF).trans q0,(h.cell (p:=⟨F,k * 5+1,none⟩) hF).trans q1,(h.cell (p:=⟨F,k * 5+2,none⟩) hF).trans q2,(h.cell (p:=⟨F,k * 5+3,none⟩) hF).trans q3,(h.cell (p:=⟨F,k * 5+4,none⟩) hF).trans q4⟩
   have HO1:=hide fun wx (hx:Below wr.heap.size wr wx)=>HON.out wx _ _ (HBW.out.trans (hx.mono HBW.out.size)) (hfn.below hx)
   clear hk hk8 hlt hF q0 q1 q2 q3 q4 hfn hk0 hk1 hbr
   go_wp2_with fail
   have hC0:Below wr.heap.size wr wr.drew:=below_drew wr
   have hmix:Tryz.prog.follows .mixedOrders=true:=by kernel_rfl
   refine (wpIn_wide (n:=0)).1 ?_
   refine wpIn_normal (wpIn_region_any hmix (wpAnyE_sound (C:=Below wr.heap.size wr) (E:=fun _=>false) _ _ _ _ ?_))
   change wpAnyE _ _ _ _ _ _ _ _ _ _ _ (World.drew _)
   refine wpAnyE_takeD (i:=0) (some 24) (v:=(.agg #[.int .u32 gen,.int .u32 bnd,.slice a n c])) (fun _=>trivial) (by kernel_rfl) rfl rfl (by kernel_rfl) (by kernel_rfl) (by kernel_rfl) (by kernel_rfl) (fun _ _ _ h=>by cases h.1) hC0 (Or.inl ⟨by kernel_rfl,fun w' hC=>by obtain⟨e1,e2,e3,e4,e5,e6,e7,e8⟩:=LC.out w' hC;clear hC;go_simp⟩) ?_
   simp only [Act.put,ap1,ap2,ap3]
   refine wpAnyE_takeD (i:=1) (some 25) (v:=(.slice (some ⟨F,0,none⟩) mf fc)) (fun _=>trivial) (by kernel_rfl) rfl rfl (by kernel_rfl) (by kernel_rfl) (by kernel_rfl) (by kernel_rfl) (fun _ _ _ h=>by cases h.1) hC0 (Or.inl ⟨by kernel_rfl,fun w' hC=>by obtain⟨e1,e2,e3,e4,e5,e6,e7,e8⟩:=LC.out w' hC;clear hC;go_simp⟩) ?_
   simp only [Act.put,ap1,ap2,ap3]
   refine wpAnyE_takeD (i:=2) (some 26) (v:=(.int .i64 (k:Int))) (fun _=>trivial) (by kernel_rfl) rfl rfl (by kernel_rfl) (by kernel_rfl) (by kernel_rfl) (by kernel_rfl) (fun _ _ _ h=>by cases h.1) hC0 (Or.inl ⟨by kernel_rfl,fun w' hC=>by obtain⟨e1,e2,e3,e4,e5,e6,e7,e8⟩:=LC.out w' hC;clear hC;go_simp⟩) ?_
   simp only [Act.put,ap1,ap2,ap3]
   refine wpAnyE_takeD (i:=3) (some 27) (v:=(.pointer (some ⟨F,k * 5,none⟩))) (fun _=>trivial) (by kernel_rfl) rfl rfl (by kernel_rfl) (by kernel_rfl) (by kernel_rfl) (by kernel_rfl) (fun _ _ _ h=>by cases h.1) hC0 (Or.inl ⟨by kernel_rfl,fun w' hC=>by obtain⟨e1,e2,e3,e4,e5,e6,e7,e8⟩:=LC.out w' hC;clear hC;go_simp⟩) ?_
   simp only [Act.put,ap1,ap2,ap3]
   refine wpAnyE_takeD (i:=4) (some 28) (v:=(.agg #[a0,a1,a2,a3,a4])) (fun _=>trivial) (by kernel_rfl) rfl rfl (by kernel_rfl) (by kernel_rfl) (by kernel_rfl) (by kernel_rfl) (fun _ _ _ h=>by cases h.1) hC0 (Or.inl ⟨by kernel_rfl,fun w' hC=>by obtain⟨e1,e2,e3,e4,e5,e6,e7,e8⟩:=LC.out w' hC;clear hC;go_simp⟩) ?_
   simp only [Act.put,ap1,ap2,ap3]
   clear LC
   refine wpAnyE_ready (rs:=[5]) (by kernel_rfl) (by simp) ?_
   refine AllE.cons rfl (fun Kk hK=>?_) AllE.nil
   go_simp
   refine⟨trivial,rfl,(callsIn_wide.2 (HO1.out _ hC0)).mono ?_⟩
   rintro e x1 ⟨rfl,hb1⟩
   dsimp only
   have hC1:=hC0.trans (hb1.mono hC0.size)
   refine hK _ _ (.inr hC1) ?_
   clear hK Kk
   refine wpAnyE_takeD (i:=6) (some 30) (v:=(.bool false)) (fun _=>trivial) (by kernel_rfl) rfl rfl (by kernel_rfl) (by kernel_rfl) (by kernel_rfl) (by kernel_rfl) (fun _ _ _ h=>by cases h.1) hC1 (Or.inl ⟨by kernel_rfl,fun w' hC=>by clear hC;go_simp⟩) ?_
   simp only [Act.put,ap1,ap2,ap3]
   refine wpAnyE_done (by kernel_rfl) ⟨rfl,?_⟩ _
   rw [then_normalLd]
   have HC1:=hide (HBR.out.trans (hC1.mono HBR.out.size))
   clear hC0 hC1 hb1 hmix HO1
   go_wp2_with fail
   exact⟨⟨k+1,HLT.out.1,HLT.out.2,by simp,HC1.out⟩,measZ2 HLT.out.1⟩
  ·have hcase:((mf:Int) > 0∧(k:Int)<(mf:Int)∧¬ (k:Int)<8)∨((mf:Int) > 0∧¬ (k:Int)<(mf:Int))∨(mf=0∧¬ (k:Int)<(mf:Int)):=by omega
   have fin:∀ wx,Below wr.heap.size wr wx→Calls Tryz.prog 7 #[.agg #[.int .u32 gen,.int .u32 bnd,.slice a n c],.agg #[.int .u32 fi,.int .i64 fa,.slice xp fp.length cp,.slice xq fb.length cq,.int .i64 fe]] wx fun e w'=>e=.returned (.bool true)∧Below wx.heap.size wx w':=fun wx hx=>HON.out wx _ _ (HBW.out.trans (hx.mono HBW.out.size)) (HFF.out wx (HBW.out.trans (hx.mono HBW.out.size)))
   have HFIN:=hide fin
   clear hk hk8 hlt fin 
   rcases hcase with ⟨hp,h1,h2⟩ | ⟨hp,h1⟩ | ⟨rfl,h1⟩
   rotate_left 2
   ·obtain⟨m0,m1,m2⟩:=threeC hk0
    obtain⟨n0,n1,n2,n3,n4⟩:=fiveCells hk1
    have hfi:=HFIN.out wr (Below.refl _ _)
    clear hk0 hk1 hbr
    go_wp2_with fail
    refine hfi.mono ?_
    rintro e w6 ⟨rfl,hb6⟩
    have HB6:=hide (HBW.out.trans (hb6.mono HBW.out.size))
    have ha:=HA.out w6
    clear hfi hb6 m0 m1 m2 n0 n1 n2 n3 n4
    go_wp2_with fail
    refine ha.mono ?_
    rintro e w7 ⟨rfl,hb7⟩
    have HB7:=hide (HB6.out.trans (hb7.mono HB6.out.size))
    clear ha hb7
    go_wp2_with fail
    go_ret
    exact⟨rfl,HB7.out⟩
   all_goals
    have hmp:0<mf:=by omega
    obtain⟨F,a0,a1,a2,a3,a4,rfl,hF,q0,q1,q2,q3,q4,hfn⟩:=funcsR_at (HRD.out.below hbr) HFE.out HM.out hmp
    obtain⟨i0,i1,i4,x2,n2,c2,x3,n3,c3,rfl,rfl,rfl,rfl,rfl,hend⟩:=endFn hfn
    rw [Nat.zero_mul] at q0 q1 q2 q3 q4
    rw [Nat.zero_add] at q1 q2 q3 q4
    have HEN:=hide hend
    have HOO:=hide fun wx gv g (hx:Below wr.heap.size wr wx) (hg:FnR wx gv g)=>HON.out wx gv g (HBW.out.trans (hx.mono HBW.out.size)) hg
    have hal:Below wr.heap.size wr (wr.alloc (.cells #[.int .u32 i0,.int .i64 i1,.slice x2 n2 c2,.slice x3 n3 c3,.int .i64 (wrap64 (i4+1))] 29)):=(Below.refl _ wr).alloc (Nat.le_refl _) _
    have j0:=allocOld hk0 (.cells #[.int .u32 i0,.int .i64 i1,.slice x2 n2 c2,.slice x3 n3 c3,.int .i64 (wrap64 (i4+1))] 29)
    have j1:=allocOld hk1 (.cells #[.int .u32 i0,.int .i64 i1,.slice x2 n2 c2,.slice x3 n3 c3,.int .i64 (wrap64 (i4+1))] 29)
    have j8:=allocNew wr (.cells #[.int .u32 i0,.int .i64 i1,.slice x2 n2 c2,.slice x3 n3 c3,.int .i64 (wrap64 (i4+1))] 29) rfl
    obtain⟨p0,p1,p2,p3,p4⟩:=fiveCells j8
    obtain⟨m0,m1,m2⟩:=threeC j0
    have hca:=HOO.out _ _ _ hal ((HEN.out (wrap64 (i4+1))).below hal)
    have HJ0:=hide j0
    have HJ1:=hide j1
    have HAL:=hide hal
    clear hend hfn hk0 hk1 hbr hF j0 j1 j8 hal
    go_wp2_with fail
    refine hca.mono ?_
    rintro e w5 ⟨rfl,hb5⟩
    have hb5w:=HAL.out.trans (hb5.mono HAL.out.size)
    have hfi:=HFIN.out w5 hb5w
    have HB5:=hide (HBW.out.trans (hb5w.mono HBW.out.size))
    clear m0 m1 m2 p0 p1 p2 p3 p4
    obtain⟨m0,m1,m2⟩:=threeC ((hb5.block _ (Array.getElem?_eq_some_iff.1 HJ0.out).1).trans HJ0.out)
    obtain⟨n0,n1,n22,n33,n4⟩:=fiveCells ((hb5.block _ (Array.getElem?_eq_some_iff.1 HJ1.out).1).trans HJ1.out)
    clear hca hb5 hb5w q0 q1 q2 q3 q4
    go_wp2_with fail
    refine hfi.mono ?_
    rintro e w6 ⟨rfl,hb6⟩
    have HB6:=hide (HB5.out.trans (hb6.mono HB5.out.size))
    have ha:=HA.out w6
    clear hfi hb6 m0 m1 m2 n0 n1 n22 n33 n4
    go_wp2_with fail
    refine ha.mono ?_
    rintro e w7 ⟨rfl,hb7⟩
    have HB7:=hide (HB6.out.trans (hb7.mono HB6.out.size))
    clear ha hb7
    go_wp2_with fail
    go_ret
    exact⟨rfl,HB7.out⟩
end Go.Proofs.YtlcaedibmlidlaaGreat
