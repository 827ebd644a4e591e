/-
  Texts in one: Ref04Inst2all.
-/
import Derived.Test.YtonhnflilfjkbaaGreatDoorB27
namespace Go.Proofs.YtonhnflilfjkbaaGreatDoor
open Go.RowKit Go.Shelf
attribute [local go_sem] Oper.semAt_some
set_option linter.unusedVariables false
set_option linter.unusedSimpArgs false
set_option maxRecDepth 100000

set_option maxHeartbeats 64000000 in
theorem refInst_all (op b:Int) (a:Option Addr) (n cap:Nat) (zs:List Int) (w:World) (f1 f4 f5:ByteArray) (f6 f7:Int) (ty re:Bool) (X0 X1:Int) (dd:Nat) (hsel:(ty=true∧re=true∧X0=nth zs 0∧X1=nth zs 1∧dd=2)∨(ty=true∧re=false∧X0=nth zs 0∧X1=0∧dd=1)∨(ty=false∧re=true∧X0=0∧X1=nth zs 0∧dd=1)∨(ty=false∧re=false∧X0=0∧X1=0∧dd=0)) (hff:lookF refT op=((f1,ty,re,f4,f5,f6,f7),true)) (ha:View .u32 w a zs) (hl:zs.length=n) (hw:Within 4294967296 zs) (hn:4 * n≤140737488351232) (b0:0≤b) (b1:b<4294967296) (hbig:¬ 65535≤n) (hcap:n≤cap) (hnil:a=none→cap=0) (hh:headsI ty re zs b=(((dd:Nat):Int),0)) (hKn:dd≤n) (Rr:List ArgT×Int) (hR:Rr=argsI (f1,ty,re,f4,f5,f6,f7) b (n+1) (zs.drop dd) []) :
  Calls Tryz.prog 60 #[.agg #[.int .u16 op,.slice a n cap],.int .u32 b] w fun e w'=>RefR w (if Rr.2=0 then ((op,X0,X1,Rr.1),0) else (noInst,Rr.2)) e w':=by
 have hOf:=fun w=>refOf_any op w
 have eV:ofV op=formV op (f1,ty,re,f4,f5,f6,f7):=by unfold ofV;rw [hff,if_pos rfl]
 rw [hff,eV] at hOf
 have hH:=fun wx (hb:Below w.heap.size w wx)=>refHeads_any op (f1,ty,re,f4,f5,f6,f7) a n cap zs b wx (ha.below hb) hl hw hn b0 b1
 simp only at hH
 rw [hh] at hH
 obtain⟨z1,z2⟩:=look_sizes hff
 simp only at z1 z2
 have hLt:=fun (i:Nat) wx (hi:i<100000)=>refLetter_any op (i:Int) wx (by omega)
 rw [hff] at hLt
 have hWh:=fun (i:Nat) wx (hi:i<100000)=>refWhole_any op (f1,ty,re,f4,f5,f6,f7) (i:Int) wx (by omega) (by omega) z1 z2
 have hAr:=fun c x q m cp wx (h:View .u32 wx x (zs.drop q)) (hm:(zs.drop q).length=m)=>refArgument_any c x m cp (zs.drop q) b wx h hm (fun z hz=>hw z (List.mem_of_mem_drop hz)) (by rw [List.length_drop] at hm;omega) b0 b1
 obtain⟨i0,hi,hz0,hz1,hz2⟩:=info_parts Rargs.info
 have HI:Hid (Tryz.prog.info? 61=some i0∧i0.zero=some (.agg #[.int .u8 0,.int .u32 0,.string ⟨#[]⟩])∧i0.size=3∧i0.bytes=24):=⟨hi,hz0,hz1,hz2⟩
 clear hi hz0 hz1 hz2
 have HL:Hid (zs.length=n):=hl
 have HA:Hid (View .u32 w a zs):=ha
 have HR:Hid (Rr=argsI (f1,ty,re,f4,f5,f6,f7) b (n+1) (zs.drop dd) []):=hR
 have HBG:Hid (n<65535):=by show n<65535;omega
 have HNIL:Hid (a=none→cap=0):=hnil
 unfold formV at *
 simp only at *
 have hbig':¬ (65535:Int)≤(n:Int):=by omega
 have hS0:=resB_new w op a n cap
 obtain⟨q0,q1,_⟩:=cell_of_two hS0.raw
 have HS0:Hid (ResB _ _ _ _ _ _):=hS0
 clear hbig eV hS0 hff ha hl hh hR hnil
 unfold RefR
 obtain⟨OUT,hOUT⟩:∃ OUT:InstT×Int,OUT=if Rr.2=0 then ((op,X0,X1,Rr.1),0) else (noInst,Rr.2):=⟨_,rfl⟩
 rw [← hOUT]
 have HOUT:Hid (OUT=if Rr.2=0 then ((op,X0,X1,Rr.1),0) else (noInst,Rr.2)):=hOUT
 clear hOUT
 have hmix:Tryz.prog.follows .mixedOrders=true:=by kernel_rfl
 refine (callsIn_wide (n:=0)).1 ?_
 refine callsIn_of_wp_marks Tryz.func60 rfl trivial ?_ rfl
 simp only [Tryz.ntmps60,List.size_toArray,List.length_cons,List.length_nil,Nat.reduceAdd,Nat.reduceSub,Array.replicate_succ,Array.replicate_zero,List.push_toArray,List.append_toArray,List.nil_append,List.cons_append]
 gi_wp2_with fail
 have hS0:=HS0.out
 clear HS0 q0 q1
 generalize (w.alloc (.cells #[.int .u16 op,.slice a n cap] 54)).alloc (.cells #[.int .u16 0,.int .u32 0,.int .u32 0,.slice none 0 0] 38)=W0 at *
 have l0:=(Array.getElem?_eq_some_iff.1 hS0.res).1
 refine⟨trivial,rfl,(callsIn_wide.2 (hOf _)).mono ?_⟩
 rintro e w1 ⟨rfl,hb1⟩
 have s1:=hb1.size
 have hS1:=(hS0.below hb1).below ((Below.refl _ w1).alloc (Nat.le_refl _) (.cells #[.int .u16 op,.string f1,.bool ty,.bool re,.string f4,.string f5,.int .i64 f6,.int .u8 f7] 66))
 have kF:=alloc_new w1 #[.int .u16 op,.string f1,.bool ty,.bool re,.string f4,.string f5,.int .i64 f6,.int .u8 f7] 66
 obtain⟨q0,q1,_⟩:=cell_of_two hS1.raw
 have hC2:=hH _ hS1.bel
 have HS1:Hid (ResB _ _ _ _ _ _):=hS1
 have HKF:Hid _:=kF
 clear hOf hb1 hS0 hS1 hH hbig' kF
 gi_wp2_with fail
 have hS1:=HS1.out
 have kF:=HKF.out
 clear HS1 HKF q0 q1
 generalize w1.alloc (.cells #[.int .u16 op,.string f1,.bool ty,.bool re,.string f4,.string f5,.int .i64 f6,.int .u8 f7] 66)=W1 at *
 have lF:=(Array.getElem?_eq_some_iff.1 kF).1
 have lwF:w.heap.size+1<w1.heap.size:=by omega
 generalize w1.heap.size=F at *
 refine⟨trivial,rfl,(callsIn_wide.2 hC2).mono ?_⟩
 rintro e w2 ⟨rfl,hb2⟩
 have hS2:=hS1.below hb2
 have kF2:=(hb2.block _ lF).trans kF
 have s2:=hb2.size
 obtain⟨p0,p1,_⟩:=cell_of_two hS2.raw
 obtain⟨fc,_⟩:=one_block kF2
 have y2:=fc 2
 have y3:=fc 3
 have ltw:w.heap.size<w2.heap.size:=(Array.getElem?_eq_some_iff.1 hS2.raw).1
 have ltF:F<w2.heap.size:=by omega
 rcases hsel with h | h | h | h
 case' inl =>
  obtain⟨hty,hre,hX0,hX1,hdd⟩:=h
  subst hdd
  rw [hty] at y2
  rw [hre] at y3
  have hvw:=HA.out.below hS2.bel
  obtain⟨yb,yo,ha2,ltY,c0⟩:=hvw 0 (by rw [HL.out];omega)
  rw [ha2] at p1
  obtain⟨yb',yo',e',_,c1⟩:=hvw 1 (by rw [HL.out];omega)
  rw [ha2] at e'
  cases e'
  rw [Nat.add_zero] at c0
  have hb3:Below w2.heap.size w2 (w2.alloc (.cells #[.int .u16 op,.int .u32 (nth zs 0),.int .u32 (nth zs 1),.slice none 0 0] 38)):=(Below.refl _ w2).alloc (Nat.le_refl _) _
  have hS3:RefI w (w2.alloc (.cells #[.int .u16 op,.int .u32 (nth zs 0),.int .u32 (nth zs 1),.slice none 0 0] 38)) op (f1,ty,re,f4,f5,f6,f7) a n cap F w2.heap.size X0 X1 (.slice none 0 0) []:=by
   rw [hX0,hX1]
   exact⟨(hS2.below hb3).raw,(hS2.below hb3).res,(hb3.block _ ltF).trans kF2,alloc_new w2 _ _,World.ownsRow_nil _ _ _ _,(hS2.below hb3).bel⟩
  have HS3:Hid (RefI _ _ _ _ _ _ _ _ _ _ _ _ _):=hS3
  clear hC2 hb2 hS1 hS2 kF kF2 hb3 hS3 fc
  gi_wp2
  have hS3:=HS3.out
  clear HS3 p0 p1 y2 y3 hty hre hX0 hX1 c0 hvw ha2 ltY c1
 case' inr.inl =>
  obtain⟨hty,hre,hX0,hX1,hdd⟩:=h
  subst hdd
  rw [hty] at y2
  rw [hre] at y3
  have hvw:=HA.out.below hS2.bel
  obtain⟨yb,yo,ha2,ltY,c0⟩:=hvw 0 (by rw [HL.out];omega)
  rw [ha2] at p1
  rw [Nat.add_zero] at c0
  have hb3:Below w2.heap.size w2 (w2.alloc (.cells #[.int .u16 op,.int .u32 (nth zs 0),.int .u32 0,.slice none 0 0] 38)):=(Below.refl _ w2).alloc (Nat.le_refl _) _
  have hS3:RefI w (w2.alloc (.cells #[.int .u16 op,.int .u32 (nth zs 0),.int .u32 0,.slice none 0 0] 38)) op (f1,ty,re,f4,f5,f6,f7) a n cap F w2.heap.size X0 X1 (.slice none 0 0) []:=by
   rw [hX0,hX1]
   exact⟨(hS2.below hb3).raw,(hS2.below hb3).res,(hb3.block _ ltF).trans kF2,alloc_new w2 _ _,World.ownsRow_nil _ _ _ _,(hS2.below hb3).bel⟩
  have HS3:Hid (RefI _ _ _ _ _ _ _ _ _ _ _ _ _):=hS3
  clear hC2 hb2 hS1 hS2 kF kF2 hb3 hS3 fc
  gi_wp2
  have hS3:=HS3.out
  clear HS3 p0 p1 y2 y3 hty hre hX0 hX1 c0 hvw ha2 ltY
 case' inr.inr.inl =>
  obtain⟨hty,hre,hX0,hX1,hdd⟩:=h
  subst hdd
  rw [hty] at y2
  rw [hre] at y3
  have hvw:=HA.out.below hS2.bel
  obtain⟨yb,yo,ha2,ltY,c0⟩:=hvw 0 (by rw [HL.out];omega)
  rw [ha2] at p1
  rw [Nat.add_zero] at c0
  have hb3:Below w2.heap.size w2 (w2.alloc (.cells #[.int .u16 op,.int .u32 0,.int .u32 (nth zs 0),.slice none 0 0] 38)):=(Below.refl _ w2).alloc (Nat.le_refl _) _
  have hS3:RefI w (w2.alloc (.cells #[.int .u16 op,.int .u32 0,.int .u32 (nth zs 0),.slice none 0 0] 38)) op (f1,ty,re,f4,f5,f6,f7) a n cap F w2.heap.size X0 X1 (.slice none 0 0) []:=by
   rw [hX0,hX1]
   exact⟨(hS2.below hb3).raw,(hS2.below hb3).res,(hb3.block _ ltF).trans kF2,alloc_new w2 _ _,World.ownsRow_nil _ _ _ _,(hS2.below hb3).bel⟩
  have HS3:Hid (RefI _ _ _ _ _ _ _ _ _ _ _ _ _):=hS3
  clear hC2 hb2 hS1 hS2 kF kF2 hb3 hS3 fc
  gi_wp2
  have hS3:=HS3.out
  clear HS3 p0 p1 y2 y3 hty hre hX0 hX1 c0 hvw ha2 ltY
 case' inr.inr.inr =>
  obtain⟨hty,hre,hX0,hX1,hdd⟩:=h
  subst hdd
  rw [hty] at y2
  rw [hre] at y3
  have hb3:Below w2.heap.size w2 (w2.alloc (.cells #[.int .u16 op,.int .u32 0,.int .u32 0,.slice none 0 0] 38)):=(Below.refl _ w2).alloc (Nat.le_refl _) _
  have hS3:RefI w (w2.alloc (.cells #[.int .u16 op,.int .u32 0,.int .u32 0,.slice none 0 0] 38)) op (f1,ty,re,f4,f5,f6,f7) a n cap F w2.heap.size X0 X1 (.slice none 0 0) []:=by
   rw [hX0,hX1]
   exact⟨(hS2.below hb3).raw,(hS2.below hb3).res,(hb3.block _ ltF).trans kF2,alloc_new w2 _ _,World.ownsRow_nil _ _ _ _,(hS2.below hb3).bel⟩
  have HS3:Hid (RefI _ _ _ _ _ _ _ _ _ _ _ _ _):=hS3
  clear hC2 hb2 hS1 hS2 kF kF2 hb3 hS3 fc
  gi_wp2
  have hS3:=HS3.out
  clear HS3 p0 p1 y2 y3 hty hre hX0 hX1
 all_goals
  have lFB:F<w2.heap.size:=ltF
  generalize w2.heap.size=B at *
  gi_loopw [8] (fun i wr=>∃ (acc:List ArgT) (q k:Nat) (v:Value),i=.int .i64 q∧q≤n∧RefI w wr op (f1,ty,re,f4,f5,f6,f7) a n cap F B X0 X1 v acc∧Rr=argsI (f1,ty,re,f4,f5,f6,f7) b k (zs.drop q) acc∧n - q<k∧acc.length≤q) (fun i _=>n - (intOf i).toNat)
  case atStart=>first | exact⟨[],2,n+1,_,rfl,hKn,hS3,HR.out,by omega,by simp⟩ | exact⟨[],1,n+1,_,rfl,hKn,hS3,HR.out,by omega,by simp⟩ | exact⟨[],0,n+1,_,rfl,hKn,hS3,HR.out,by omega,by simp⟩
  case round =>
   obtain⟨acc,q,k,v,rfl,hq,hS,hRk,hk,hacc⟩:=hrel
   clear hS3 HR
   have HRK:Hid (Rr=argsI (f1,ty,re,f4,f5,f6,f7) b k (zs.drop q) acc):=hRk
   clear hRk
   obtain⟨k,rfl⟩:∃ k',k=k'+1:=⟨k - 1,by omega⟩
   obtain⟨av,cv,rfl⟩:∃ a c,v=.slice a acc.length c:=by
    rcases hS.own.2 with ⟨rfl,h0⟩ | ⟨g,c,cur,rfl,_⟩
    ·exact⟨none,0,by rw [h0]⟩
    ·exact⟨_,_,rfl⟩
   have hbg:=HBG.out
   have hal:acc.length<100000:=by omega
   obtain⟨p0,p1,_⟩:=cell_of_two hS.raw
   obtain⟨o0,o1,o2,o3⟩:=four_cells hS.box
   have y4:wr.cell? ⟨F,4,none⟩=some (.string f4):=(one_block hS.frm).1 4
   have hAv:=HA.out.below hS.bel
   have hdl:(zs.drop q).length=n - q:=by rw [List.length_drop,HL.out]
   have hC1:=hLt acc.length wr hal
   have HN:Hid (n<65535):=hbg
   by_cases hqn:q<n
   ·have hqi:(q:Int)<(n:Int):=by omega
    have hRu:=HRK.out
    rw [argsI,if_neg (by rw [hdl];omega)] at hRu
    have HRU:Hid _:=hRu
    clear hRu
    obtain⟨yb,yo,eA,ltY,_⟩:=hAv q (by rw [HL.out];exact hqn)
    cases eA
    have hvd:=view_drop hAv q
    have hArg:=fun wx (hb:Below wr.heap.size wr wx)=>hAr (letterI (f1,ty,re,f4,f5,f6,f7) (acc.length:Int)) (some ⟨yb,yo+q,none⟩) q (n - q) (cap - q) wx (hvd.below hb) hdl
    have HKD:Hid _:=argI_kind (c:=letterI (f1,ty,re,f4,f5,f6,f7) (acc.length:Int)) (zs:=zs.drop q) (b:=b)
    generalize argI (letterI (f1,ty,re,f4,f5,f6,f7) (acc.length:Int)) (zs.drop q) b=A at *
    obtain⟨⟨x1,x2,x3⟩,xn,xe⟩:=A
    unfold argV at hArg
    simp only at *
    have hcq:(q:Int)≤(cap:Int):=by omega
    have hcq2:¬ cap=q:=by omega
    clear hC1 hvd hAv hAr
    gi_wp2_with fail
    have hC0:Below wr.heap.size wr wr.drew:=below_drew wr
    have lB:=(Array.getElem?_eq_some_iff.1 hS.box).1
    have lW:=(Array.getElem?_eq_some_iff.1 hS.raw).1
    have Lr:Hid (∀ w',Below wr.heap.size wr w'→w'.cell? ⟨w.heap.size,0,none⟩=some (.int .u16 op)∧w'.cell? ⟨w.heap.size,1,none⟩=some (.slice (some ⟨yb,yo,none⟩) n cap)):=fun w' hC=>by
     obtain⟨hc,_⟩:=one_block ((hC.block _ lW).trans hS.raw)
     exact⟨hc 0,hc 1⟩
    have Lb:Hid (∀ w',Below wr.heap.size wr w'→w'.cell? ⟨B,3,none⟩=some (.slice av acc.length cv)):=fun w' hC=>(one_block ((hC.block _ lB).trans hS.box)).1 3
    refine wpIn_normal (wpIn_region_any hmix (wpAnyC_sound (C:=Below wr.heap.size wr) _ _ _ _ ?_))
    change wpAnyC _ _ _ _ _ _ _ _ _ _ (World.drew _)
    refine wpAnyC_takeD (i:=0) (some 74) (v:=.pointer (some ⟨w.heap.size,0,none⟩)) (fun _=>trivial) (by kernel_rfl) rfl rfl (by kernel_rfl) (by kernel_rfl) (by kernel_rfl) (fun _ _ _ h=>by cases h.1) hC0 (Or.inl ⟨by kernel_rfl,fun w' hC=>by clear hC;go_simp⟩) ?_
    simp only [Act.put,ap1,ap2,ap3]
    refine wpAnyC_takeD (i:=1) (some 75) (v:=.int .u16 op) (fun _=>trivial) (by kernel_rfl) rfl rfl (by kernel_rfl) (by kernel_rfl) (by kernel_rfl) (fun _ _ _ h=>by cases h.1) hC0 (Or.inl ⟨by kernel_rfl,fun w' hC=>by obtain⟨u0,u1⟩:=Lr.out w' hC;clear hC;go_simp⟩) ?_
    simp only [Act.put,ap1,ap2,ap3]
    refine wpAnyC_takeD (i:=2) (some 76) (v:=.pointer (some ⟨B,3,none⟩)) (fun _=>trivial) (by kernel_rfl) rfl rfl (by kernel_rfl) (by kernel_rfl) (by kernel_rfl) (fun _ _ _ h=>by cases h.1) hC0 (Or.inl ⟨by kernel_rfl,fun w' hC=>by clear hC;go_simp⟩) ?_
    simp only [Act.put,ap1,ap2,ap3]
    refine wpAnyC_takeD (i:=3) (some 77) (v:=.slice av acc.length cv) (fun _=>trivial) (by kernel_rfl) rfl rfl (by kernel_rfl) (by kernel_rfl) (by kernel_rfl) (fun _ _ _ h=>by cases h.1) hC0 (Or.inl ⟨by kernel_rfl,fun w' hC=>by have u0:=Lb.out w' hC;clear hC;go_simp⟩) ?_
    simp only [Act.put,ap1,ap2,ap3]
    refine wpAnyC_takeD (i:=4) (some 78) (v:=.int .i64 acc.length) (fun _=>trivial) (by kernel_rfl) rfl rfl (by kernel_rfl) (by kernel_rfl) (by kernel_rfl) (fun _ _ _ h=>by cases h.1) hC0 (Or.inl ⟨by kernel_rfl,fun w' hC=>by clear hC;go_simp⟩) ?_
    simp only [Act.put,ap1,ap2,ap3]
    refine wpAnyC_takeD (i:=6) (some 80) (v:=.pointer (some ⟨w.heap.size,1,none⟩)) (fun _=>trivial) (by kernel_rfl) rfl rfl (by kernel_rfl) (by kernel_rfl) (by kernel_rfl) (fun _ _ _ h=>by cases h.1) hC0 (Or.inl ⟨by kernel_rfl,fun w' hC=>by clear hC;go_simp⟩) ?_
    simp only [Act.put,ap1,ap2,ap3]
    refine wpAnyC_takeD (i:=7) (some 81) (v:=.slice (some ⟨yb,yo,none⟩) n cap) (fun _=>trivial) (by kernel_rfl) rfl rfl (by kernel_rfl) (by kernel_rfl) (by kernel_rfl) (fun _ _ _ h=>by cases h.1) hC0 (Or.inl ⟨by kernel_rfl,fun w' hC=>by obtain⟨u0,u1⟩:=Lr.out w' hC;clear hC;go_simp⟩) ?_
    simp only [Act.put,ap1,ap2,ap3]
    refine wpAnyC_takeD (i:=8) (some 82) (v:=.int .i64 q) (fun _=>trivial) (by kernel_rfl) rfl rfl (by kernel_rfl) (by kernel_rfl) (by kernel_rfl) (fun _ _ _ h=>by cases h.1) hC0 (Or.inl ⟨by kernel_rfl,fun w' hC=>by clear hC;go_simp⟩) ?_
    simp only [Act.put,ap1,ap2,ap3]
    refine wpAnyC_takeD (i:=9) (some 83) (v:=.slice (some ⟨yb,yo+q,none⟩) (n - q) (cap - q)) (fun _=>trivial) (by kernel_rfl) rfl rfl (by kernel_rfl) (by kernel_rfl) (by kernel_rfl) (fun _ _ _ h=>by cases h.1) hC0 (Or.inl ⟨by kernel_rfl,fun w' hC=>by clear hC;go_simp⟩) ?_
    simp only [Act.put,ap1,ap2,ap3]
    refine wpAnyC_takeD (i:=10) (some 84) (v:=.int .u32 b) (fun _=>trivial) (by kernel_rfl) rfl rfl (by kernel_rfl) (by kernel_rfl) (by kernel_rfl) (fun _ _ _ h=>by cases h.1) hC0 (Or.inl ⟨by kernel_rfl,fun w' hC=>by clear hC;go_simp⟩) ?_
    simp only [Act.put,ap1,ap2,ap3]
    refine wpAnyC_ready (rs:=[5,16]) (by kernel_rfl) (by simp) ?_
    refine AllC.cons rfl (fun K hK=>?_) (AllC.cons rfl (fun K hK=>?_) AllC.nil)
    ·go_simp
     refine⟨trivial,rfl,(callsIn_wide.2 (hLt acc.length _ hal)).mono ?_⟩
     rintro e w3 ⟨rfl,hbw3⟩
     dsimp only
     have hCw3:Below wr.heap.size wr w3:=hC0.trans (hbw3.mono hC0.size)
     refine hK _ _ hCw3 ?_
     clear hK K
     refine wpAnyC_ready (rs:=[11,16]) (by kernel_rfl) (by simp) ?_
     refine AllC.cons rfl (fun K hK=>?_) (AllC.cons rfl (fun K hK=>?_) AllC.nil)
     ·go_simp
      refine⟨trivial,rfl,(callsIn_wide.2 (hArg _ hCw3)).mono ?_⟩
      rintro e w4 ⟨rfl,hbw4⟩
      dsimp only
      have hCw4:Below wr.heap.size wr w4:=hCw3.trans (hbw4.mono hCw3.size)
      refine hK _ _ hCw4 ?_
      clear hK K
      refine wpAnyC_takeD (i:=12) (some 73) (v:=.tuple #[.agg #[.int .u8 x1,.int .u32 x2,.string x3],.int .i64 xn,.int .i64 xe]) (fun _=>trivial) (by kernel_rfl) rfl rfl (by kernel_rfl) (by kernel_rfl) (by kernel_rfl) (fun _ _ _ h=>by cases h.1) hCw4 (Or.inl ⟨by kernel_rfl,fun w' hC=>by clear hC;go_simp⟩) ?_
      simp only [Act.put,ap1,ap2,ap3]
      refine wpAnyC_takeD (i:=13) (some 86) (v:=.agg #[.int .u8 x1,.int .u32 x2,.string x3]) (fun _=>trivial) (by kernel_rfl) rfl rfl (by kernel_rfl) (by kernel_rfl) (by kernel_rfl) (fun _ _ _ h=>by cases h.1) hCw4 (Or.inl ⟨by kernel_rfl,fun w' hC=>by clear hC;go_simp⟩) ?_
      simp only [Act.put,ap1,ap2,ap3]
      refine wpAnyC_takeD (i:=14) (some 87) (v:=.int .i64 xn) (fun _=>trivial) (by kernel_rfl) rfl rfl (by kernel_rfl) (by kernel_rfl) (by kernel_rfl) (fun _ _ _ h=>by cases h.1) hCw4 (Or.inl ⟨by kernel_rfl,fun w' hC=>by clear hC;go_simp⟩) ?_
      simp only [Act.put,ap1,ap2,ap3]
      refine wpAnyC_takeD (i:=15) (some 88) (v:=.int .i64 xe) (fun _=>trivial) (by kernel_rfl) rfl rfl (by kernel_rfl) (by kernel_rfl) (by kernel_rfl) (fun _ _ _ h=>by cases h.1) hCw4 (Or.inl ⟨by kernel_rfl,fun w' hC=>by clear hC;go_simp⟩) ?_
      simp only [Act.put,ap1,ap2,ap3]
      refine wpAnyC_ready (rs:=[16]) (by kernel_rfl) (by simp) ?_
      refine AllC.cons rfl (fun K hK=>?_) AllC.nil
      go_simp
      have hC5:Below wr.heap.size wr (w4.alloc (.cells #[.int .u8 0,.int .u32 0,.string ⟨#[]⟩] 61)):=hCw4.alloc hCw4.size _
      refine hK _ _ hC5 ?_
      clear hK K
      refine wpAnyC_ready (rs:=[17]) (by kernel_rfl) (by simp) ?_
      refine AllC.cons rfl (fun K hK=>?_) AllC.nil
      go_simp
      have hC6:Below wr.heap.size wr (w4.alloc (.cells #[.int .u8 x1,.int .u32 x2,.string x3] 61)):=hCw4.alloc hCw4.size _
      refine hK _ _ hC6 ?_
      clear hK K hC5
      refine wpAnyC_takeD (i:=18) (some 12) (v:=.int .i64 xn) (fun _=>trivial) (by kernel_rfl) rfl rfl (by kernel_rfl) (by kernel_rfl) (by kernel_rfl) (fun _ _ _ h=>by cases h.1) hC6 (Or.inl ⟨by kernel_rfl,fun w' hC=>by clear hC;go_simp⟩) ?_
      simp only [Act.put,ap1,ap2,ap3]
      refine wpAnyC_takeD (i:=19) (some 13) (v:=.int .i64 xe) (fun _=>trivial) (by kernel_rfl) rfl rfl (by kernel_rfl) (by kernel_rfl) (by kernel_rfl) (fun _ _ _ h=>by cases h.1) hC6 (Or.inl ⟨by kernel_rfl,fun w' hC=>by clear hC;go_simp⟩) ?_
      simp only [Act.put,ap1,ap2,ap3]
      refine wpAnyC_done (by kernel_rfl) ⟨rfl,?_⟩ _
      have hSX:=hS.below hC6
      have kx:=alloc_new w4 #[.int .u8 x1,.int .u32 x2,.string x3] 61
      have lx:=(Array.getElem?_eq_some_iff.1 kx).1
      have hbx:wr.heap.size≤w4.heap.size:=hCw4.size
      have sX:=Below.size hC6
      clear hC0 Lr Lb hArg hLt
      generalize w4.alloc (.cells #[.int .u8 x1,.int .u32 x2,.string x3] 61)=X at hSX kx lx sX ⊢
      generalize w4.heap.size=Bx at *
      by_cases hxe:xe=0
      ·subst hxe
       have n1:=(HKD.out rfl).2.2.1
       have n2:=(HKD.out rfl).2.2.2
       rw [hdl] at n2
       obtain⟨m,rfl⟩:∃ m:Nat,xn=m:=⟨xn.toNat,by omega⟩
       have hRu:=HRU.out
       rw [if_neg (by simp),List.drop_drop,show (m:Int).toNat=m from rfl] at hRu
       have HRN:Hid (Rr=_):=hRu
       have hqm:q+m≤n:=by omega
       have hm1:1≤m:=by omega
       have hbX:Below X.heap.size X (X.alloc (.cells #[.int .u8 x1,.int .u32 x2,.string x3] 61)):=(Below.refl _ X).alloc (Nat.le_refl _) _
       have hSY:=hSX.below hbX
       obtain⟨o0,o1,o2,o3⟩:=four_cells hSX.box
       obtain⟨xc,_⟩:=one_block kx
       have x0:=xc 0
       have x1':=xc 1
       have x2':=xc 2
       have lBY:=(Array.getElem?_eq_some_iff.1 hSY.box).1
       have N1:Hid ((X.alloc (.cells #[.int .u8 x1,.int .u32 x2,.string x3] 61)).ownsRow (B+1) 61 3 (.slice av acc.length cv) acc.length (acc.flatMap argC)):=hSY.own
       have N2:Hid (∀ (j:Nat) (u:Value),[Value.int .u8 x1,.int .u32 x2,.string x3][j]?=some u→(X.alloc (.cells #[.int .u8 x1,.int .u32 x2,.string x3] 61)).cell? ((⟨X.heap.size,0,none⟩:Addr).add j)=some u):=World.news_of_block (cs:=#[.int .u8 x1,.int .u32 x2,.string x3]) (t:=61) (fr:=(0,0)) (alloc_new X _ _)
       have N3:Hid (∀ u:Value,u∈[Value.int .u8 x1,.int .u32 x2,.string x3]→u.oneCell'=true):=by intro u hu;simp at hu;rcases hu with rfl | rfl | rfl <;> rfl
       have N4:acc.length+1≤maxLen:=by unfold maxLen;omega
       have N5:(acc.length+1) * 24≤140737488355328:=by omega
       have N6:Hid (B+1≤(X.alloc (.cells #[.int .u8 x1,.int .u32 x2,.string x3] 61)).heap.size):=by show _≤_;omega
       have FIN:Hid (∀ (g8 cap8:Nat) (w8:World),w8.ownsRow (B+1) 61 3 (.slice (some ⟨g8,0,none⟩) (acc.length+1) cap8) (acc.length+1) (acc.flatMap argC++[.int .u8 x1,.int .u32 x2,.string x3]) →
         (X.alloc (.cells #[.int .u8 x1,.int .u32 x2,.string x3] 61)).grownBy w8 (Value.ownBlock (.slice av acc.length cv)) →
         w8.cell? ⟨B,3,none⟩=some (.slice av acc.length cv)∧w8.frozen? ⟨B,3,none⟩=false ∧
         RefI w (w8.setCell ⟨B,3,none⟩ (.slice (some ⟨g8,0,none⟩) (acc.length+1) cap8)) op (f1,ty,re,f4,f5,f6,f7) (some ⟨yb,yo,none⟩) n cap F B X0 X1 (.slice (some ⟨g8,0,none⟩) (acc.length+1) cap8) (acc++[(x1,x2,x3)])):=by
        intro g8 cap8 w8 hown8 hgr8
        have kB8:=(hgr8.block B lBY (fun e=>by have:=(hSY.own.lt B e.symm).1;omega)).trans hSY.box
        obtain⟨m8,mf8⟩:=one_block kB8
        exact⟨m8 3,mf8 3,hSY.push (x:=(x1,x2,x3)) lwF lFB hgr8 hown8⟩
       clear hRu HRU hSY hSX hS xc kx HKD n2 lBY hbX hw HOUT hWh HN hdl HRK y4 p0 p1
       gi_wp2_with (gi_at_builtin;refine appendIn_lies _ rfl (.tmp 94) (.tmp 96) 36 rfl (B+1) 61 i0 (.agg #[.int .u8 0,.int .u32 0,.string ⟨#[]⟩]) 3 24 Tryz.underlying36 HI.out.1 HI.out.2.1 HI.out.2.2.1 HI.out.2.2.2 rfl (by decide) (.slice av acc.length cv) acc.length (acc.flatMap argC) rfl N1.out ⟨X.heap.size,0,none⟩ 1 1 [.int .u8 x1,.int .u32 x2,.string x3] rfl rfl N2.out N3.out (by decide) N4 N5 N6.out _ rfl ?_)
       intro g8 cap8 w8 hown8 hgr8 hat8 hlt8
       obtain⟨q0,q1,q2⟩:=FIN.out g8 cap8 w8 hown8 hgr8
       have HQ2:Hid (RefI _ _ _ _ _ _ _ _ _ _ _ _ _):=q2
       clear hown8 hgr8 hat8 hlt8 q2 FIN N1 N2 N3 N6 o0 o1 o2 o3 x0 x1' x2'
       gi_wp2
       go_roundw
       case rel=>exact⟨acc++[(x1,x2,x3)],q+m,k,_,by simp,hqm,HQ2.out,HRN.out,by omega,by rw [List.length_append,List.length_singleton];omega⟩
       case measure=>simp [intOf];omega
      ·have hxb:(xe==0)=false:=by simpa using hxe
       have hRu:=HRU.out
       rw [if_pos hxe] at hRu
       have hOE:OUT=(noInst,xe):=by rw [HOUT.out,hRu,if_neg hxe]
       clear hRu hxe HKD
       obtain⟨r0,r1,r2,r3⟩:=four_cells hSX.res
       obtain⟨_,rf⟩:=one_block hSX.res
       have j0:=rf 0
       have j1:=rf 1
       have j2:=rf 2
       have j3:=rf 3
       have hB4:=four_put hSX.res (.int .u16 0) (.int .u32 0) (.int .u32 0) (.slice none 0 0)
       have hBel:=hSX.bel.trans ((four_keep _ (w.heap.size+1) (.int .u16 0) (.int .u32 0) (.int .u32 0) (.slice none 0 0)).mono (by omega))
       have HB4:Hid _:=hB4
       have HBel:Hid _:=hBel
       have HOE:Hid (OUT=(noInst,xe)):=hOE
       clear hB4 hBel rf hOE HRU HOUT hSX hS
       gi_wp2
       have hB4:=HB4.out
       have hBel:=HBel.out
       clear HB4 HBel r0 r1 r2 r3 j0 j1 j2 j3
       generalize (((World.setCell _ _ _).setCell _ _).setCell _ _).setCell _ _=WF at hB4 hBel ⊢
       obtain⟨d0,d1,d2,d3⟩:=four_cells hB4
       rw [HOE.out]
       first
        | exact⟨.tuple #[.agg #[.int .u16 0,.int .u32 0,.int .u32 0,.slice none 0 0],.int .i64 xe],by simp [results,Tryz.results60,go_sem,d0,d1,d2,d3],hBel,none,0,0,rfl,rfl,argsN_nil⟩
        | exact⟨.tuple #[.agg #[.int .u16 0,.int .u32 0,.int .u32 0,.slice none 0 0],.int .i64 xe],by simp [results,Tryz.results60,go_sem,d0,d1,d2,d3],hBel,none,0,⟨0,rfl⟩,rfl,argsN_nil⟩
     ·go_simp
      have hC5:Below wr.heap.size wr (w3.alloc (.cells #[.int .u8 0,.int .u32 0,.string ⟨#[]⟩] 61)):=hCw3.alloc hCw3.size _
      refine hK _ _ hC5 ?_
      clear hK K
      have kZ:=alloc_new w3 #[.int .u8 0,.int .u32 0,.string ⟨#[]⟩] 61
      have hBB:wr.heap.size≤w3.heap.size:=hCw3.size
      have lZ:w3.heap.size<(w3.alloc (.cells #[.int .u8 0,.int .u32 0,.string ⟨#[]⟩] 61)).heap.size:=by simp
      generalize w3.alloc (.cells #[.int .u8 0,.int .u32 0,.string ⟨#[]⟩] 61)=W5 at *
      refine wpAnyC_ready (rs:=[11]) (by kernel_rfl) (by simp) ?_
      refine AllC.cons rfl (fun K hK=>?_) AllC.nil
      go_simp
      refine⟨trivial,rfl,(callsIn_wide.2 (hArg _ hC5)).mono ?_⟩
      rintro e w4 ⟨rfl,hbw4⟩
      dsimp only
      have hCw4:Below wr.heap.size wr w4:=hC5.trans (hbw4.mono hC5.size)
      refine hK _ _ hCw4 ?_
      clear hK K
      refine wpAnyC_takeD (i:=12) (some 73) (v:=.tuple #[.agg #[.int .u8 x1,.int .u32 x2,.string x3],.int .i64 xn,.int .i64 xe]) (fun _=>trivial) (by kernel_rfl) rfl rfl (by kernel_rfl) (by kernel_rfl) (by kernel_rfl) (fun _ _ _ h=>by cases h.1) hCw4 (Or.inl ⟨by kernel_rfl,fun w' hC=>by clear hC;go_simp⟩) ?_
      simp only [Act.put,ap1,ap2,ap3]
      refine wpAnyC_takeD (i:=13) (some 86) (v:=.agg #[.int .u8 x1,.int .u32 x2,.string x3]) (fun _=>trivial) (by kernel_rfl) rfl rfl (by kernel_rfl) (by kernel_rfl) (by kernel_rfl) (fun _ _ _ h=>by cases h.1) hCw4 (Or.inl ⟨by kernel_rfl,fun w' hC=>by clear hC;go_simp⟩) ?_
      simp only [Act.put,ap1,ap2,ap3]
      refine wpAnyC_takeD (i:=14) (some 87) (v:=.int .i64 xn) (fun _=>trivial) (by kernel_rfl) rfl rfl (by kernel_rfl) (by kernel_rfl) (by kernel_rfl) (fun _ _ _ h=>by cases h.1) hCw4 (Or.inl ⟨by kernel_rfl,fun w' hC=>by clear hC;go_simp⟩) ?_
      simp only [Act.put,ap1,ap2,ap3]
      refine wpAnyC_takeD (i:=15) (some 88) (v:=.int .i64 xe) (fun _=>trivial) (by kernel_rfl) rfl rfl (by kernel_rfl) (by kernel_rfl) (by kernel_rfl) (fun _ _ _ h=>by cases h.1) hCw4 (Or.inl ⟨by kernel_rfl,fun w' hC=>by clear hC;go_simp⟩) ?_
      simp only [Act.put,ap1,ap2,ap3]
      have kZ2:=(hbw4.block _ lZ).trans kZ
      refine wpAnyC_ready (rs:=[17]) (by kernel_rfl) (by simp) ?_
      refine AllC.cons rfl (fun K hK=>?_) AllC.nil
      obtain⟨zc,zf⟩:=one_block kZ2
      have v0:=zc 0
      have v1:=zc 1
      have v2:=zc 2
      have g0:=zf 0
      have g1:=zf 1
      have g2:=zf 2
      go_simp
      have hC6:Below wr.heap.size wr (((w4.setCell ⟨w3.heap.size,0,none⟩ (.int .u8 x1)).setCell ⟨w3.heap.size,1,none⟩ (.int .u32 x2)).setCell ⟨w3.heap.size,2,none⟩ (.string x3)):=((hCw4.setCell hBB _).setCell hBB _).setCell hBB _
      refine hK _ _ hC6 ?_
      clear hK K v0 v1 v2 g0 g1 g2 zc zf
      refine wpAnyC_takeD (i:=18) (some 12) (v:=.int .i64 xn) (fun _=>trivial) (by kernel_rfl) rfl rfl (by kernel_rfl) (by kernel_rfl) (by kernel_rfl) (fun _ _ _ h=>by cases h.1) hC6 (Or.inl ⟨by kernel_rfl,fun w' hC=>by clear hC;go_simp⟩) ?_
      simp only [Act.put,ap1,ap2,ap3]
      refine wpAnyC_takeD (i:=19) (some 13) (v:=.int .i64 xe) (fun _=>trivial) (by kernel_rfl) rfl rfl (by kernel_rfl) (by kernel_rfl) (by kernel_rfl) (fun _ _ _ h=>by cases h.1) hC6 (Or.inl ⟨by kernel_rfl,fun w' hC=>by clear hC;go_simp⟩) ?_
      simp only [Act.put,ap1,ap2,ap3]
      refine wpAnyC_done (by kernel_rfl) ⟨rfl,?_⟩ _
      have hSX:=hS.below hC6
      have kx:=three_set3 kZ2 (.int .u8 x1) (.int .u32 x2) (.string x3)
      have lx:=(Array.getElem?_eq_some_iff.1 kx).1
      have hbx:wr.heap.size≤w3.heap.size:=hBB
      have sX:=Below.size hC6
      clear hC0 Lr Lb hArg hLt
      generalize ((w4.setCell ⟨w3.heap.size,0,none⟩ (.int .u8 x1)).setCell ⟨w3.heap.size,1,none⟩ (.int .u32 x2)).setCell ⟨w3.heap.size,2,none⟩ (.string x3)=X at hSX kx lx sX ⊢
      generalize w3.heap.size=Bx at *
      by_cases hxe:xe=0
      ·subst hxe
       have n1:=(HKD.out rfl).2.2.1
       have n2:=(HKD.out rfl).2.2.2
       rw [hdl] at n2
       obtain⟨m,rfl⟩:∃ m:Nat,xn=m:=⟨xn.toNat,by omega⟩
       have hRu:=HRU.out
       rw [if_neg (by simp),List.drop_drop,show (m:Int).toNat=m from rfl] at hRu
       have HRN:Hid (Rr=_):=hRu
       have hqm:q+m≤n:=by omega
       have hm1:1≤m:=by omega
       have hbX:Below X.heap.size X (X.alloc (.cells #[.int .u8 x1,.int .u32 x2,.string x3] 61)):=(Below.refl _ X).alloc (Nat.le_refl _) _
       have hSY:=hSX.below hbX
       obtain⟨o0,o1,o2,o3⟩:=four_cells hSX.box
       obtain⟨xc,_⟩:=one_block kx
       have x0:=xc 0
       have x1':=xc 1
       have x2':=xc 2
       have lBY:=(Array.getElem?_eq_some_iff.1 hSY.box).1
       have N1:Hid ((X.alloc (.cells #[.int .u8 x1,.int .u32 x2,.string x3] 61)).ownsRow (B+1) 61 3 (.slice av acc.length cv) acc.length (acc.flatMap argC)):=hSY.own
       have N2:Hid (∀ (j:Nat) (u:Value),[Value.int .u8 x1,.int .u32 x2,.string x3][j]?=some u→(X.alloc (.cells #[.int .u8 x1,.int .u32 x2,.string x3] 61)).cell? ((⟨X.heap.size,0,none⟩:Addr).add j)=some u):=World.news_of_block (cs:=#[.int .u8 x1,.int .u32 x2,.string x3]) (t:=61) (fr:=(0,0)) (alloc_new X _ _)
       have N3:Hid (∀ u:Value,u∈[Value.int .u8 x1,.int .u32 x2,.string x3]→u.oneCell'=true):=by intro u hu;simp at hu;rcases hu with rfl | rfl | rfl <;> rfl
       have N4:acc.length+1≤maxLen:=by unfold maxLen;omega
       have N5:(acc.length+1) * 24≤140737488355328:=by omega
       have N6:Hid (B+1≤(X.alloc (.cells #[.int .u8 x1,.int .u32 x2,.string x3] 61)).heap.size):=by show _≤_;omega
       have FIN:Hid (∀ (g8 cap8:Nat) (w8:World),w8.ownsRow (B+1) 61 3 (.slice (some ⟨g8,0,none⟩) (acc.length+1) cap8) (acc.length+1) (acc.flatMap argC++[.int .u8 x1,.int .u32 x2,.string x3]) →
         (X.alloc (.cells #[.int .u8 x1,.int .u32 x2,.string x3] 61)).grownBy w8 (Value.ownBlock (.slice av acc.length cv)) →
         w8.cell? ⟨B,3,none⟩=some (.slice av acc.length cv)∧w8.frozen? ⟨B,3,none⟩=false ∧
         RefI w (w8.setCell ⟨B,3,none⟩ (.slice (some ⟨g8,0,none⟩) (acc.length+1) cap8)) op (f1,ty,re,f4,f5,f6,f7) (some ⟨yb,yo,none⟩) n cap F B X0 X1 (.slice (some ⟨g8,0,none⟩) (acc.length+1) cap8) (acc++[(x1,x2,x3)])):=by
        intro g8 cap8 w8 hown8 hgr8
        have kB8:=(hgr8.block B lBY (fun e=>by have:=(hSY.own.lt B e.symm).1;omega)).trans hSY.box
        obtain⟨m8,mf8⟩:=one_block kB8
        exact⟨m8 3,mf8 3,hSY.push (x:=(x1,x2,x3)) lwF lFB hgr8 hown8⟩
       clear hRu HRU hSY hSX hS xc kx HKD n2 lBY hbX hw HOUT hWh HN hdl HRK y4 p0 p1
       gi_wp2_with (gi_at_builtin;refine appendIn_lies _ rfl (.tmp 94) (.tmp 96) 36 rfl (B+1) 61 i0 (.agg #[.int .u8 0,.int .u32 0,.string ⟨#[]⟩]) 3 24 Tryz.underlying36 HI.out.1 HI.out.2.1 HI.out.2.2.1 HI.out.2.2.2 rfl (by decide) (.slice av acc.length cv) acc.length (acc.flatMap argC) rfl N1.out ⟨X.heap.size,0,none⟩ 1 1 [.int .u8 x1,.int .u32 x2,.string x3] rfl rfl N2.out N3.out (by decide) N4 N5 N6.out _ rfl ?_)
       intro g8 cap8 w8 hown8 hgr8 hat8 hlt8
       obtain⟨q0,q1,q2⟩:=FIN.out g8 cap8 w8 hown8 hgr8
       have HQ2:Hid (RefI _ _ _ _ _ _ _ _ _ _ _ _ _):=q2
       clear hown8 hgr8 hat8 hlt8 q2 FIN N1 N2 N3 N6 o0 o1 o2 o3 x0 x1' x2'
       gi_wp2
       go_roundw
       case rel=>exact⟨acc++[(x1,x2,x3)],q+m,k,_,by simp,hqm,HQ2.out,HRN.out,by omega,by rw [List.length_append,List.length_singleton];omega⟩
       case measure=>simp [intOf];omega
      ·have hxb:(xe==0)=false:=by simpa using hxe
       have hRu:=HRU.out
       rw [if_pos hxe] at hRu
       have hOE:OUT=(noInst,xe):=by rw [HOUT.out,hRu,if_neg hxe]
       clear hRu hxe HKD
       obtain⟨r0,r1,r2,r3⟩:=four_cells hSX.res
       obtain⟨_,rf⟩:=one_block hSX.res
       have j0:=rf 0
       have j1:=rf 1
       have j2:=rf 2
       have j3:=rf 3
       have hB4:=four_put hSX.res (.int .u16 0) (.int .u32 0) (.int .u32 0) (.slice none 0 0)
       have hBel:=hSX.bel.trans ((four_keep _ (w.heap.size+1) (.int .u16 0) (.int .u32 0) (.int .u32 0) (.slice none 0 0)).mono (by omega))
       have HB4:Hid _:=hB4
       have HBel:Hid _:=hBel
       have HOE:Hid (OUT=(noInst,xe)):=hOE
       clear hB4 hBel rf hOE HRU HOUT hSX hS
       gi_wp2
       have hB4:=HB4.out
       have hBel:=HBel.out
       clear HB4 HBel r0 r1 r2 r3 j0 j1 j2 j3
       generalize (((World.setCell _ _ _).setCell _ _).setCell _ _).setCell _ _=WF at hB4 hBel ⊢
       obtain⟨d0,d1,d2,d3⟩:=four_cells hB4
       rw [HOE.out]
       first
        | exact⟨.tuple #[.agg #[.int .u16 0,.int .u32 0,.int .u32 0,.slice none 0 0],.int .i64 xe],by simp [results,Tryz.results60,go_sem,d0,d1,d2,d3],hBel,none,0,0,rfl,rfl,argsN_nil⟩
        | exact⟨.tuple #[.agg #[.int .u16 0,.int .u32 0,.int .u32 0,.slice none 0 0],.int .i64 xe],by simp [results,Tryz.results60,go_sem,d0,d1,d2,d3],hBel,none,0,⟨0,rfl⟩,rfl,argsN_nil⟩
    ·go_simp
     have hC5:Below wr.heap.size wr (wr.alloc (.cells #[.int .u8 0,.int .u32 0,.string ⟨#[]⟩] 61)).drew:=((Below.refl _ wr).alloc (Nat.le_refl _) _).drew
     refine hK _ _ hC5 ?_
     clear hK K
     have kZ:(wr.alloc (.cells #[.int .u8 0,.int .u32 0,.string ⟨#[]⟩] 61)).drew.heap[wr.heap.size]?=some (.cells #[.int .u8 0,.int .u32 0,.string ⟨#[]⟩] 61 (0,0)):=alloc_new wr _ _
     have lZ:wr.heap.size<(wr.alloc (.cells #[.int .u8 0,.int .u32 0,.string ⟨#[]⟩] 61)).drew.heap.size:=by show _<(wr.alloc _).heap.size;simp
     have hBB:wr.heap.size≤wr.heap.size:=Nat.le_refl _
     generalize (wr.alloc (.cells #[.int .u8 0,.int .u32 0,.string ⟨#[]⟩] 61)).drew=W5 at *
     refine wpAnyC_ready (rs:=[5]) (by kernel_rfl) (by simp) ?_
     refine AllC.cons rfl (fun K hK=>?_) AllC.nil
     go_simp
     refine⟨trivial,rfl,(callsIn_wide.2 (hLt acc.length _ hal)).mono ?_⟩
     rintro e w3 ⟨rfl,hbw3⟩
     dsimp only
     have hCw3:Below wr.heap.size wr w3:=hC5.trans (hbw3.mono hC5.size)
     refine hK _ _ hCw3 ?_
     clear hK K
     refine wpAnyC_ready (rs:=[11]) (by kernel_rfl) (by simp) ?_
     refine AllC.cons rfl (fun K hK=>?_) AllC.nil
     go_simp
     refine⟨trivial,rfl,(callsIn_wide.2 (hArg _ hCw3)).mono ?_⟩
     rintro e w4 ⟨rfl,hbw4⟩
     dsimp only
     have hCw4:Below wr.heap.size wr w4:=hCw3.trans (hbw4.mono hCw3.size)
     refine hK _ _ hCw4 ?_
     clear hK K
     refine wpAnyC_takeD (i:=12) (some 73) (v:=.tuple #[.agg #[.int .u8 x1,.int .u32 x2,.string x3],.int .i64 xn,.int .i64 xe]) (fun _=>trivial) (by kernel_rfl) rfl rfl (by kernel_rfl) (by kernel_rfl) (by kernel_rfl) (fun _ _ _ h=>by cases h.1) hCw4 (Or.inl ⟨by kernel_rfl,fun w' hC=>by clear hC;go_simp⟩) ?_
     simp only [Act.put,ap1,ap2,ap3]
     refine wpAnyC_takeD (i:=13) (some 86) (v:=.agg #[.int .u8 x1,.int .u32 x2,.string x3]) (fun _=>trivial) (by kernel_rfl) rfl rfl (by kernel_rfl) (by kernel_rfl) (by kernel_rfl) (fun _ _ _ h=>by cases h.1) hCw4 (Or.inl ⟨by kernel_rfl,fun w' hC=>by clear hC;go_simp⟩) ?_
     simp only [Act.put,ap1,ap2,ap3]
     refine wpAnyC_takeD (i:=14) (some 87) (v:=.int .i64 xn) (fun _=>trivial) (by kernel_rfl) rfl rfl (by kernel_rfl) (by kernel_rfl) (by kernel_rfl) (fun _ _ _ h=>by cases h.1) hCw4 (Or.inl ⟨by kernel_rfl,fun w' hC=>by clear hC;go_simp⟩) ?_
     simp only [Act.put,ap1,ap2,ap3]
     refine wpAnyC_takeD (i:=15) (some 88) (v:=.int .i64 xe) (fun _=>trivial) (by kernel_rfl) rfl rfl (by kernel_rfl) (by kernel_rfl) (by kernel_rfl) (fun _ _ _ h=>by cases h.1) hCw4 (Or.inl ⟨by kernel_rfl,fun w' hC=>by clear hC;go_simp⟩) ?_
     simp only [Act.put,ap1,ap2,ap3]
     have kZ2:=(hbw4.block _ (Nat.lt_of_lt_of_le lZ hbw3.size)).trans ((hbw3.block _ lZ).trans kZ)
     refine wpAnyC_ready (rs:=[17]) (by kernel_rfl) (by simp) ?_
     refine AllC.cons rfl (fun K hK=>?_) AllC.nil
     obtain⟨zc,zf⟩:=one_block kZ2
     have v0:=zc 0
     have v1:=zc 1
     have v2:=zc 2
     have g0:=zf 0
     have g1:=zf 1
     have g2:=zf 2
     go_simp
     have hC6:Below wr.heap.size wr (((w4.setCell ⟨wr.heap.size,0,none⟩ (.int .u8 x1)).setCell ⟨wr.heap.size,1,none⟩ (.int .u32 x2)).setCell ⟨wr.heap.size,2,none⟩ (.string x3)):=((hCw4.setCell hBB _).setCell hBB _).setCell hBB _
     refine hK _ _ hC6 ?_
     clear hK K v0 v1 v2 g0 g1 g2 zc zf
     refine wpAnyC_takeD (i:=18) (some 12) (v:=.int .i64 xn) (fun _=>trivial) (by kernel_rfl) rfl rfl (by kernel_rfl) (by kernel_rfl) (by kernel_rfl) (fun _ _ _ h=>by cases h.1) hC6 (Or.inl ⟨by kernel_rfl,fun w' hC=>by clear hC;go_simp⟩) ?_
     simp only [Act.put,ap1,ap2,ap3]
     refine wpAnyC_takeD (i:=19) (some 13) (v:=.int .i64 xe) (fun _=>trivial) (by kernel_rfl) rfl rfl (by kernel_rfl) (by kernel_rfl) (by kernel_rfl) (fun _ _ _ h=>by cases h.1) hC6 (Or.inl ⟨by kernel_rfl,fun w' hC=>by clear hC;go_simp⟩) ?_
     simp only [Act.put,ap1,ap2,ap3]
     refine wpAnyC_done (by kernel_rfl) ⟨rfl,?_⟩ _
     have hSX:=hS.below hC6
     have kx:=three_set3 kZ2 (.int .u8 x1) (.int .u32 x2) (.string x3)
     have lx:=(Array.getElem?_eq_some_iff.1 kx).1
     have hbx:wr.heap.size≤wr.heap.size:=hBB
     have sX:=Below.size hC6
     clear hC0 Lr Lb hArg hLt
     generalize ((w4.setCell ⟨wr.heap.size,0,none⟩ (.int .u8 x1)).setCell ⟨wr.heap.size,1,none⟩ (.int .u32 x2)).setCell ⟨wr.heap.size,2,none⟩ (.string x3)=X at hSX kx lx sX ⊢
     generalize wr.heap.size=Bx at *
     by_cases hxe:xe=0
     ·subst hxe
      have n1:=(HKD.out rfl).2.2.1
      have n2:=(HKD.out rfl).2.2.2
      rw [hdl] at n2
      obtain⟨m,rfl⟩:∃ m:Nat,xn=m:=⟨xn.toNat,by omega⟩
      have hRu:=HRU.out
      rw [if_neg (by simp),List.drop_drop,show (m:Int).toNat=m from rfl] at hRu
      have HRN:Hid (Rr=_):=hRu
      have hqm:q+m≤n:=by omega
      have hm1:1≤m:=by omega
      have hbX:Below X.heap.size X (X.alloc (.cells #[.int .u8 x1,.int .u32 x2,.string x3] 61)):=(Below.refl _ X).alloc (Nat.le_refl _) _
      have hSY:=hSX.below hbX
      obtain⟨o0,o1,o2,o3⟩:=four_cells hSX.box
      obtain⟨xc,_⟩:=one_block kx
      have x0:=xc 0
      have x1':=xc 1
      have x2':=xc 2
      have lBY:=(Array.getElem?_eq_some_iff.1 hSY.box).1
      have N1:Hid ((X.alloc (.cells #[.int .u8 x1,.int .u32 x2,.string x3] 61)).ownsRow (B+1) 61 3 (.slice av acc.length cv) acc.length (acc.flatMap argC)):=hSY.own
      have N2:Hid (∀ (j:Nat) (u:Value),[Value.int .u8 x1,.int .u32 x2,.string x3][j]?=some u→(X.alloc (.cells #[.int .u8 x1,.int .u32 x2,.string x3] 61)).cell? ((⟨X.heap.size,0,none⟩:Addr).add j)=some u):=World.news_of_block (cs:=#[.int .u8 x1,.int .u32 x2,.string x3]) (t:=61) (fr:=(0,0)) (alloc_new X _ _)
      have N3:Hid (∀ u:Value,u∈[Value.int .u8 x1,.int .u32 x2,.string x3]→u.oneCell'=true):=by intro u hu;simp at hu;rcases hu with rfl | rfl | rfl <;> rfl
      have N4:acc.length+1≤maxLen:=by unfold maxLen;omega
      have N5:(acc.length+1) * 24≤140737488355328:=by omega
      have N6:Hid (B+1≤(X.alloc (.cells #[.int .u8 x1,.int .u32 x2,.string x3] 61)).heap.size):=by show _≤_;omega
      have FIN:Hid (∀ (g8 cap8:Nat) (w8:World),w8.ownsRow (B+1) 61 3 (.slice (some ⟨g8,0,none⟩) (acc.length+1) cap8) (acc.length+1) (acc.flatMap argC++[.int .u8 x1,.int .u32 x2,.string x3]) →
        (X.alloc (.cells #[.int .u8 x1,.int .u32 x2,.string x3] 61)).grownBy w8 (Value.ownBlock (.slice av acc.length cv)) →
        w8.cell? ⟨B,3,none⟩=some (.slice av acc.length cv)∧w8.frozen? ⟨B,3,none⟩=false ∧
        RefI w (w8.setCell ⟨B,3,none⟩ (.slice (some ⟨g8,0,none⟩) (acc.length+1) cap8)) op (f1,ty,re,f4,f5,f6,f7) (some ⟨yb,yo,none⟩) n cap F B X0 X1 (.slice (some ⟨g8,0,none⟩) (acc.length+1) cap8) (acc++[(x1,x2,x3)])):=by
       intro g8 cap8 w8 hown8 hgr8
       have kB8:=(hgr8.block B lBY (fun e=>by have:=(hSY.own.lt B e.symm).1;omega)).trans hSY.box
       obtain⟨m8,mf8⟩:=one_block kB8
       exact⟨m8 3,mf8 3,hSY.push (x:=(x1,x2,x3)) lwF lFB hgr8 hown8⟩
      clear hRu HRU hSY hSX hS xc kx HKD n2 lBY hbX hw HOUT hWh HN hdl HRK y4 p0 p1
      gi_wp2_with (gi_at_builtin;refine appendIn_lies _ rfl (.tmp 94) (.tmp 96) 36 rfl (B+1) 61 i0 (.agg #[.int .u8 0,.int .u32 0,.string ⟨#[]⟩]) 3 24 Tryz.underlying36 HI.out.1 HI.out.2.1 HI.out.2.2.1 HI.out.2.2.2 rfl (by decide) (.slice av acc.length cv) acc.length (acc.flatMap argC) rfl N1.out ⟨X.heap.size,0,none⟩ 1 1 [.int .u8 x1,.int .u32 x2,.string x3] rfl rfl N2.out N3.out (by decide) N4 N5 N6.out _ rfl ?_)
      intro g8 cap8 w8 hown8 hgr8 hat8 hlt8
      obtain⟨q0,q1,q2⟩:=FIN.out g8 cap8 w8 hown8 hgr8
      have HQ2:Hid (RefI _ _ _ _ _ _ _ _ _ _ _ _ _):=q2
      clear hown8 hgr8 hat8 hlt8 q2 FIN N1 N2 N3 N6 o0 o1 o2 o3 x0 x1' x2'
      gi_wp2
      go_roundw
      case rel=>exact⟨acc++[(x1,x2,x3)],q+m,k,_,by simp,hqm,HQ2.out,HRN.out,by omega,by rw [List.length_append,List.length_singleton];omega⟩
      case measure=>simp [intOf];omega
     ·have hxb:(xe==0)=false:=by simpa using hxe
      have hRu:=HRU.out
      rw [if_pos hxe] at hRu
      have hOE:OUT=(noInst,xe):=by rw [HOUT.out,hRu,if_neg hxe]
      clear hRu hxe HKD
      obtain⟨r0,r1,r2,r3⟩:=four_cells hSX.res
      obtain⟨_,rf⟩:=one_block hSX.res
      have j0:=rf 0
      have j1:=rf 1
      have j2:=rf 2
      have j3:=rf 3
      have hB4:=four_put hSX.res (.int .u16 0) (.int .u32 0) (.int .u32 0) (.slice none 0 0)
      have hBel:=hSX.bel.trans ((four_keep _ (w.heap.size+1) (.int .u16 0) (.int .u32 0) (.int .u32 0) (.slice none 0 0)).mono (by omega))
      have HB4:Hid _:=hB4
      have HBel:Hid _:=hBel
      have HOE:Hid (OUT=(noInst,xe)):=hOE
      clear hB4 hBel rf hOE HRU HOUT hSX hS
      gi_wp2
      have hB4:=HB4.out
      have hBel:=HBel.out
      clear HB4 HBel r0 r1 r2 r3 j0 j1 j2 j3
      generalize (((World.setCell _ _ _).setCell _ _).setCell _ _).setCell _ _=WF at hB4 hBel ⊢
      obtain⟨d0,d1,d2,d3⟩:=four_cells hB4
      rw [HOE.out]
      first
       | exact⟨.tuple #[.agg #[.int .u16 0,.int .u32 0,.int .u32 0,.slice none 0 0],.int .i64 xe],by simp [results,Tryz.results60,go_sem,d0,d1,d2,d3],hBel,none,0,0,rfl,rfl,argsN_nil⟩
       | exact⟨.tuple #[.agg #[.int .u16 0,.int .u32 0,.int .u32 0,.slice none 0 0],.int .i64 xe],by simp [results,Tryz.results60,go_sem,d0,d1,d2,d3],hBel,none,0,⟨0,rfl⟩,rfl,argsN_nil⟩
   ·obtain rfl:q=n:=by omega
    have hRu:=HRK.out
    rw [argsI,if_pos (by rw [hdl];omega)] at hRu
    have HRU:Hid _:=hRu
    clear hRu
    by_cases hfx:acc.length<f4.size
    ·clear HA
     have hfi:(acc.length:Int)<(f4.size:Int):=by omega
     have hwf:wholeN (f1,ty,re,f4,f5,f6,f7) (acc.length:Int)=false:=by unfold wholeN;rw [if_pos hfi]
     have hRz:=HRU.out
     rw [hwf,if_neg (by simp)] at hRz
     have HO42:Hid (OUT=(noInst,42)):=by show _=_;rw [HOUT.out,hRz];rfl
     have hcq:(q:Int)≤(cap:Int):=by omega
     clear hC1 hAv hAr hRz hwf
     gi_wp2_with fail
     have eA:argI (letterI (f1,ty,re,f4,f5,f6,f7) (acc.length:Int)) [] b=(noArg,0,42):=by unfold argI;rw [if_pos (.inr rfl)]
     by_cases hcq2:cap=q
     ·have hcq3:=hcq2.symm
      subst hcq3
      have hArg:=fun wx (_:Below wr.heap.size wr wx)=>refArgument_any (letterI (f1,ty,re,f4,f5,f6,f7) (acc.length:Int)) a 0 0 [] b wx (fun j hj=>absurd hj (by simp)) rfl (fun z hz=>by cases hz) (by omega) b0 b1
      generalize argI (letterI (f1,ty,re,f4,f5,f6,f7) (acc.length:Int)) [] b=A at eA hArg
      obtain⟨⟨x1,x2,x3⟩,xn,xe⟩:=A
      have HEX:Hid (xe=42):=by
       have h3:(((x1,x2,x3),xn,xe):ArgT×Int×Int).2.2=42:=by rw [eA]
       exact h3
      clear eA
      unfold argV at hArg
      simp only at hArg
      have hC0:Below wr.heap.size wr wr.drew:=below_drew wr
      have lB:=(Array.getElem?_eq_some_iff.1 hS.box).1
      have lW:=(Array.getElem?_eq_some_iff.1 hS.raw).1
      have Lr:Hid (∀ w',Below wr.heap.size wr w'→w'.cell? ⟨w.heap.size,0,none⟩=some (.int .u16 op)∧w'.cell? ⟨w.heap.size,1,none⟩=some (.slice a q q)):=fun w' hC=>by
       obtain⟨hc,_⟩:=one_block ((hC.block _ lW).trans hS.raw)
       exact⟨hc 0,hc 1⟩
      have Lb:Hid (∀ w',Below wr.heap.size wr w'→w'.cell? ⟨B,3,none⟩=some (.slice av acc.length cv)):=fun w' hC=>(one_block ((hC.block _ lB).trans hS.box)).1 3
      refine wpIn_normal (wpIn_region_any hmix (wpAnyC_sound (C:=Below wr.heap.size wr) _ _ _ _ ?_))
      change wpAnyC _ _ _ _ _ _ _ _ _ _ (World.drew _)
      refine wpAnyC_takeD (i:=0) (some 74) (v:=.pointer (some ⟨w.heap.size,0,none⟩)) (fun _=>trivial) (by kernel_rfl) rfl rfl (by kernel_rfl) (by kernel_rfl) (by kernel_rfl) (fun _ _ _ h=>by cases h.1) hC0 (Or.inl ⟨by kernel_rfl,fun w' hC=>by clear hC;go_simp⟩) ?_
      simp only [Act.put,ap1,ap2,ap3]
      refine wpAnyC_takeD (i:=1) (some 75) (v:=.int .u16 op) (fun _=>trivial) (by kernel_rfl) rfl rfl (by kernel_rfl) (by kernel_rfl) (by kernel_rfl) (fun _ _ _ h=>by cases h.1) hC0 (Or.inl ⟨by kernel_rfl,fun w' hC=>by obtain⟨u0,u1⟩:=Lr.out w' hC;clear hC;go_simp⟩) ?_
      simp only [Act.put,ap1,ap2,ap3]
      refine wpAnyC_takeD (i:=2) (some 76) (v:=.pointer (some ⟨B,3,none⟩)) (fun _=>trivial) (by kernel_rfl) rfl rfl (by kernel_rfl) (by kernel_rfl) (by kernel_rfl) (fun _ _ _ h=>by cases h.1) hC0 (Or.inl ⟨by kernel_rfl,fun w' hC=>by clear hC;go_simp⟩) ?_
      simp only [Act.put,ap1,ap2,ap3]
      refine wpAnyC_takeD (i:=3) (some 77) (v:=.slice av acc.length cv) (fun _=>trivial) (by kernel_rfl) rfl rfl (by kernel_rfl) (by kernel_rfl) (by kernel_rfl) (fun _ _ _ h=>by cases h.1) hC0 (Or.inl ⟨by kernel_rfl,fun w' hC=>by have u0:=Lb.out w' hC;clear hC;go_simp⟩) ?_
      simp only [Act.put,ap1,ap2,ap3]
      refine wpAnyC_takeD (i:=4) (some 78) (v:=.int .i64 acc.length) (fun _=>trivial) (by kernel_rfl) rfl rfl (by kernel_rfl) (by kernel_rfl) (by kernel_rfl) (fun _ _ _ h=>by cases h.1) hC0 (Or.inl ⟨by kernel_rfl,fun w' hC=>by clear hC;go_simp⟩) ?_
      simp only [Act.put,ap1,ap2,ap3]
      refine wpAnyC_takeD (i:=6) (some 80) (v:=.pointer (some ⟨w.heap.size,1,none⟩)) (fun _=>trivial) (by kernel_rfl) rfl rfl (by kernel_rfl) (by kernel_rfl) (by kernel_rfl) (fun _ _ _ h=>by cases h.1) hC0 (Or.inl ⟨by kernel_rfl,fun w' hC=>by clear hC;go_simp⟩) ?_
      simp only [Act.put,ap1,ap2,ap3]
      refine wpAnyC_takeD (i:=7) (some 81) (v:=.slice a q q) (fun _=>trivial) (by kernel_rfl) rfl rfl (by kernel_rfl) (by kernel_rfl) (by kernel_rfl) (fun _ _ _ h=>by cases h.1) hC0 (Or.inl ⟨by kernel_rfl,fun w' hC=>by obtain⟨u0,u1⟩:=Lr.out w' hC;clear hC;go_simp⟩) ?_
      simp only [Act.put,ap1,ap2,ap3]
      refine wpAnyC_takeD (i:=8) (some 82) (v:=.int .i64 q) (fun _=>trivial) (by kernel_rfl) rfl rfl (by kernel_rfl) (by kernel_rfl) (by kernel_rfl) (fun _ _ _ h=>by cases h.1) hC0 (Or.inl ⟨by kernel_rfl,fun w' hC=>by clear hC;go_simp⟩) ?_
      simp only [Act.put,ap1,ap2,ap3]
      refine wpAnyC_takeD (i:=9) (some 83) (v:=.slice a (0) (0)) (fun _=>trivial) (by kernel_rfl) rfl rfl (by kernel_rfl) (by kernel_rfl) (by kernel_rfl) (fun _ _ _ h=>by cases h.1) hC0 (Or.inl ⟨by kernel_rfl,fun w' hC=>by clear hC;go_simp⟩) ?_
      simp only [Act.put,ap1,ap2,ap3]
      refine wpAnyC_takeD (i:=10) (some 84) (v:=.int .u32 b) (fun _=>trivial) (by kernel_rfl) rfl rfl (by kernel_rfl) (by kernel_rfl) (by kernel_rfl) (fun _ _ _ h=>by cases h.1) hC0 (Or.inl ⟨by kernel_rfl,fun w' hC=>by clear hC;go_simp⟩) ?_
      simp only [Act.put,ap1,ap2,ap3]
      refine wpAnyC_ready (rs:=[5,16]) (by kernel_rfl) (by simp) ?_
      refine AllC.cons rfl (fun K hK=>?_) (AllC.cons rfl (fun K hK=>?_) AllC.nil)
      ·go_simp
       refine⟨trivial,rfl,(callsIn_wide.2 (hLt acc.length _ hal)).mono ?_⟩
       rintro e w3 ⟨rfl,hbw3⟩
       dsimp only
       have hCw3:Below wr.heap.size wr w3:=hC0.trans (hbw3.mono hC0.size)
       refine hK _ _ hCw3 ?_
       clear hK K
       refine wpAnyC_ready (rs:=[11,16]) (by kernel_rfl) (by simp) ?_
       refine AllC.cons rfl (fun K hK=>?_) (AllC.cons rfl (fun K hK=>?_) AllC.nil)
       ·go_simp
        refine⟨trivial,rfl,(callsIn_wide.2 (hArg _ hCw3)).mono ?_⟩
        rintro e w4 ⟨rfl,hbw4⟩
        dsimp only
        have hCw4:Below wr.heap.size wr w4:=hCw3.trans (hbw4.mono hCw3.size)
        refine hK _ _ hCw4 ?_
        clear hK K
        refine wpAnyC_takeD (i:=12) (some 73) (v:=.tuple #[.agg #[.int .u8 x1,.int .u32 x2,.string x3],.int .i64 xn,.int .i64 xe]) (fun _=>trivial) (by kernel_rfl) rfl rfl (by kernel_rfl) (by kernel_rfl) (by kernel_rfl) (fun _ _ _ h=>by cases h.1) hCw4 (Or.inl ⟨by kernel_rfl,fun w' hC=>by clear hC;go_simp⟩) ?_
        simp only [Act.put,ap1,ap2,ap3]
        refine wpAnyC_takeD (i:=13) (some 86) (v:=.agg #[.int .u8 x1,.int .u32 x2,.string x3]) (fun _=>trivial) (by kernel_rfl) rfl rfl (by kernel_rfl) (by kernel_rfl) (by kernel_rfl) (fun _ _ _ h=>by cases h.1) hCw4 (Or.inl ⟨by kernel_rfl,fun w' hC=>by clear hC;go_simp⟩) ?_
        simp only [Act.put,ap1,ap2,ap3]
        refine wpAnyC_takeD (i:=14) (some 87) (v:=.int .i64 xn) (fun _=>trivial) (by kernel_rfl) rfl rfl (by kernel_rfl) (by kernel_rfl) (by kernel_rfl) (fun _ _ _ h=>by cases h.1) hCw4 (Or.inl ⟨by kernel_rfl,fun w' hC=>by clear hC;go_simp⟩) ?_
        simp only [Act.put,ap1,ap2,ap3]
        refine wpAnyC_takeD (i:=15) (some 88) (v:=.int .i64 xe) (fun _=>trivial) (by kernel_rfl) rfl rfl (by kernel_rfl) (by kernel_rfl) (by kernel_rfl) (fun _ _ _ h=>by cases h.1) hCw4 (Or.inl ⟨by kernel_rfl,fun w' hC=>by clear hC;go_simp⟩) ?_
        simp only [Act.put,ap1,ap2,ap3]
        refine wpAnyC_ready (rs:=[16]) (by kernel_rfl) (by simp) ?_
        refine AllC.cons rfl (fun K hK=>?_) AllC.nil
        go_simp
        have hC5:Below wr.heap.size wr (w4.alloc (.cells #[.int .u8 0,.int .u32 0,.string ⟨#[]⟩] 61)):=hCw4.alloc hCw4.size _
        refine hK _ _ hC5 ?_
        clear hK K
        refine wpAnyC_ready (rs:=[17]) (by kernel_rfl) (by simp) ?_
        refine AllC.cons rfl (fun K hK=>?_) AllC.nil
        go_simp
        have hC6:Below wr.heap.size wr (w4.alloc (.cells #[.int .u8 x1,.int .u32 x2,.string x3] 61)):=hCw4.alloc hCw4.size _
        refine hK _ _ hC6 ?_
        clear hK K hC5
        refine wpAnyC_takeD (i:=18) (some 12) (v:=.int .i64 xn) (fun _=>trivial) (by kernel_rfl) rfl rfl (by kernel_rfl) (by kernel_rfl) (by kernel_rfl) (fun _ _ _ h=>by cases h.1) hC6 (Or.inl ⟨by kernel_rfl,fun w' hC=>by clear hC;go_simp⟩) ?_
        simp only [Act.put,ap1,ap2,ap3]
        refine wpAnyC_takeD (i:=19) (some 13) (v:=.int .i64 xe) (fun _=>trivial) (by kernel_rfl) rfl rfl (by kernel_rfl) (by kernel_rfl) (by kernel_rfl) (fun _ _ _ h=>by cases h.1) hC6 (Or.inl ⟨by kernel_rfl,fun w' hC=>by clear hC;go_simp⟩) ?_
        simp only [Act.put,ap1,ap2,ap3]
        refine wpAnyC_done (by kernel_rfl) ⟨rfl,?_⟩ _
        have hSX:=hS.below hC6
        have kx:=alloc_new w4 #[.int .u8 x1,.int .u32 x2,.string x3] 61
        have lx:=(Array.getElem?_eq_some_iff.1 kx).1
        have hbx:wr.heap.size≤w4.heap.size:=hCw4.size
        have sX:=Below.size hC6
        clear hC0 Lr Lb hArg hLt
        generalize w4.alloc (.cells #[.int .u8 x1,.int .u32 x2,.string x3] 61)=X at hSX kx lx sX ⊢
        generalize w4.heap.size=Bx at *
        have hxe:xe=42:=HEX.out
        have hxb:(xe==0)=false:=by rw [hxe];rfl
        have hOE:OUT=(noInst,xe):=by rw [hxe];exact HO42.out
        clear hxe HEX HO42
        obtain⟨r0,r1,r2,r3⟩:=four_cells hSX.res
        obtain⟨_,rf⟩:=one_block hSX.res
        have j0:=rf 0
        have j1:=rf 1
        have j2:=rf 2
        have j3:=rf 3
        have hB4:=four_put hSX.res (.int .u16 0) (.int .u32 0) (.int .u32 0) (.slice none 0 0)
        have hBel:=hSX.bel.trans ((four_keep _ (w.heap.size+1) (.int .u16 0) (.int .u32 0) (.int .u32 0) (.slice none 0 0)).mono (by omega))
        have HB4:Hid _:=hB4
        have HBel:Hid _:=hBel
        have HOE:Hid (OUT=(noInst,xe)):=hOE
        clear hB4 hBel rf hOE HRU HOUT hSX hS
        gi_wp2
        have hB4:=HB4.out
        have hBel:=HBel.out
        clear HB4 HBel r0 r1 r2 r3 j0 j1 j2 j3
        generalize (((World.setCell _ _ _).setCell _ _).setCell _ _).setCell _ _=WF at hB4 hBel ⊢
        obtain⟨d0,d1,d2,d3⟩:=four_cells hB4
        rw [HOE.out]
        first
         | exact⟨.tuple #[.agg #[.int .u16 0,.int .u32 0,.int .u32 0,.slice none 0 0],.int .i64 xe],by simp [results,Tryz.results60,go_sem,d0,d1,d2,d3],hBel,none,0,0,rfl,rfl,argsN_nil⟩
         | exact⟨.tuple #[.agg #[.int .u16 0,.int .u32 0,.int .u32 0,.slice none 0 0],.int .i64 xe],by simp [results,Tryz.results60,go_sem,d0,d1,d2,d3],hBel,none,0,⟨0,rfl⟩,rfl,argsN_nil⟩
       ·go_simp
        have hC5:Below wr.heap.size wr (w3.alloc (.cells #[.int .u8 0,.int .u32 0,.string ⟨#[]⟩] 61)):=hCw3.alloc hCw3.size _
        refine hK _ _ hC5 ?_
        clear hK K
        have kZ:=alloc_new w3 #[.int .u8 0,.int .u32 0,.string ⟨#[]⟩] 61
        have hBB:wr.heap.size≤w3.heap.size:=hCw3.size
        have lZ:w3.heap.size<(w3.alloc (.cells #[.int .u8 0,.int .u32 0,.string ⟨#[]⟩] 61)).heap.size:=by simp
        generalize w3.alloc (.cells #[.int .u8 0,.int .u32 0,.string ⟨#[]⟩] 61)=W5 at *
        refine wpAnyC_ready (rs:=[11]) (by kernel_rfl) (by simp) ?_
        refine AllC.cons rfl (fun K hK=>?_) AllC.nil
        go_simp
        refine⟨trivial,rfl,(callsIn_wide.2 (hArg _ hC5)).mono ?_⟩
        rintro e w4 ⟨rfl,hbw4⟩
        dsimp only
        have hCw4:Below wr.heap.size wr w4:=hC5.trans (hbw4.mono hC5.size)
        refine hK _ _ hCw4 ?_
        clear hK K
        refine wpAnyC_takeD (i:=12) (some 73) (v:=.tuple #[.agg #[.int .u8 x1,.int .u32 x2,.string x3],.int .i64 xn,.int .i64 xe]) (fun _=>trivial) (by kernel_rfl) rfl rfl (by kernel_rfl) (by kernel_rfl) (by kernel_rfl) (fun _ _ _ h=>by cases h.1) hCw4 (Or.inl ⟨by kernel_rfl,fun w' hC=>by clear hC;go_simp⟩) ?_
        simp only [Act.put,ap1,ap2,ap3]
        refine wpAnyC_takeD (i:=13) (some 86) (v:=.agg #[.int .u8 x1,.int .u32 x2,.string x3]) (fun _=>trivial) (by kernel_rfl) rfl rfl (by kernel_rfl) (by kernel_rfl) (by kernel_rfl) (fun _ _ _ h=>by cases h.1) hCw4 (Or.inl ⟨by kernel_rfl,fun w' hC=>by clear hC;go_simp⟩) ?_
        simp only [Act.put,ap1,ap2,ap3]
        refine wpAnyC_takeD (i:=14) (some 87) (v:=.int .i64 xn) (fun _=>trivial) (by kernel_rfl) rfl rfl (by kernel_rfl) (by kernel_rfl) (by kernel_rfl) (fun _ _ _ h=>by cases h.1) hCw4 (Or.inl ⟨by kernel_rfl,fun w' hC=>by clear hC;go_simp⟩) ?_
        simp only [Act.put,ap1,ap2,ap3]
        refine wpAnyC_takeD (i:=15) (some 88) (v:=.int .i64 xe) (fun _=>trivial) (by kernel_rfl) rfl rfl (by kernel_rfl) (by kernel_rfl) (by kernel_rfl) (fun _ _ _ h=>by cases h.1) hCw4 (Or.inl ⟨by kernel_rfl,fun w' hC=>by clear hC;go_simp⟩) ?_
        simp only [Act.put,ap1,ap2,ap3]
        have kZ2:=(hbw4.block _ lZ).trans kZ
        refine wpAnyC_ready (rs:=[17]) (by kernel_rfl) (by simp) ?_
        refine AllC.cons rfl (fun K hK=>?_) AllC.nil
        obtain⟨zc,zf⟩:=one_block kZ2
        have v0:=zc 0
        have v1:=zc 1
        have v2:=zc 2
        have g0:=zf 0
        have g1:=zf 1
        have g2:=zf 2
        go_simp
        have hC6:Below wr.heap.size wr (((w4.setCell ⟨w3.heap.size,0,none⟩ (.int .u8 x1)).setCell ⟨w3.heap.size,1,none⟩ (.int .u32 x2)).setCell ⟨w3.heap.size,2,none⟩ (.string x3)):=((hCw4.setCell hBB _).setCell hBB _).setCell hBB _
        refine hK _ _ hC6 ?_
        clear hK K v0 v1 v2 g0 g1 g2 zc zf
        refine wpAnyC_takeD (i:=18) (some 12) (v:=.int .i64 xn) (fun _=>trivial) (by kernel_rfl) rfl rfl (by kernel_rfl) (by kernel_rfl) (by kernel_rfl) (fun _ _ _ h=>by cases h.1) hC6 (Or.inl ⟨by kernel_rfl,fun w' hC=>by clear hC;go_simp⟩) ?_
        simp only [Act.put,ap1,ap2,ap3]
        refine wpAnyC_takeD (i:=19) (some 13) (v:=.int .i64 xe) (fun _=>trivial) (by kernel_rfl) rfl rfl (by kernel_rfl) (by kernel_rfl) (by kernel_rfl) (fun _ _ _ h=>by cases h.1) hC6 (Or.inl ⟨by kernel_rfl,fun w' hC=>by clear hC;go_simp⟩) ?_
        simp only [Act.put,ap1,ap2,ap3]
        refine wpAnyC_done (by kernel_rfl) ⟨rfl,?_⟩ _
        have hSX:=hS.below hC6
        have kx:=three_set3 kZ2 (.int .u8 x1) (.int .u32 x2) (.string x3)
        have lx:=(Array.getElem?_eq_some_iff.1 kx).1
        have hbx:wr.heap.size≤w3.heap.size:=hBB
        have sX:=Below.size hC6
        clear hC0 Lr Lb hArg hLt
        generalize ((w4.setCell ⟨w3.heap.size,0,none⟩ (.int .u8 x1)).setCell ⟨w3.heap.size,1,none⟩ (.int .u32 x2)).setCell ⟨w3.heap.size,2,none⟩ (.string x3)=X at hSX kx lx sX ⊢
        generalize w3.heap.size=Bx at *
        have hxe:xe=42:=HEX.out
        have hxb:(xe==0)=false:=by rw [hxe];rfl
        have hOE:OUT=(noInst,xe):=by rw [hxe];exact HO42.out
        clear hxe HEX HO42
        obtain⟨r0,r1,r2,r3⟩:=four_cells hSX.res
        obtain⟨_,rf⟩:=one_block hSX.res
        have j0:=rf 0
        have j1:=rf 1
        have j2:=rf 2
        have j3:=rf 3
        have hB4:=four_put hSX.res (.int .u16 0) (.int .u32 0) (.int .u32 0) (.slice none 0 0)
        have hBel:=hSX.bel.trans ((four_keep _ (w.heap.size+1) (.int .u16 0) (.int .u32 0) (.int .u32 0) (.slice none 0 0)).mono (by omega))
        have HB4:Hid _:=hB4
        have HBel:Hid _:=hBel
        have HOE:Hid (OUT=(noInst,xe)):=hOE
        clear hB4 hBel rf hOE HRU HOUT hSX hS
        gi_wp2
        have hB4:=HB4.out
        have hBel:=HBel.out
        clear HB4 HBel r0 r1 r2 r3 j0 j1 j2 j3
        generalize (((World.setCell _ _ _).setCell _ _).setCell _ _).setCell _ _=WF at hB4 hBel ⊢
        obtain⟨d0,d1,d2,d3⟩:=four_cells hB4
        rw [HOE.out]
        first
         | exact⟨.tuple #[.agg #[.int .u16 0,.int .u32 0,.int .u32 0,.slice none 0 0],.int .i64 xe],by simp [results,Tryz.results60,go_sem,d0,d1,d2,d3],hBel,none,0,0,rfl,rfl,argsN_nil⟩
         | exact⟨.tuple #[.agg #[.int .u16 0,.int .u32 0,.int .u32 0,.slice none 0 0],.int .i64 xe],by simp [results,Tryz.results60,go_sem,d0,d1,d2,d3],hBel,none,0,⟨0,rfl⟩,rfl,argsN_nil⟩
      ·go_simp
       have hC5:Below wr.heap.size wr (wr.alloc (.cells #[.int .u8 0,.int .u32 0,.string ⟨#[]⟩] 61)).drew:=((Below.refl _ wr).alloc (Nat.le_refl _) _).drew
       refine hK _ _ hC5 ?_
       clear hK K
       have kZ:(wr.alloc (.cells #[.int .u8 0,.int .u32 0,.string ⟨#[]⟩] 61)).drew.heap[wr.heap.size]?=some (.cells #[.int .u8 0,.int .u32 0,.string ⟨#[]⟩] 61 (0,0)):=alloc_new wr _ _
       have lZ:wr.heap.size<(wr.alloc (.cells #[.int .u8 0,.int .u32 0,.string ⟨#[]⟩] 61)).drew.heap.size:=by show _<(wr.alloc _).heap.size;simp
       have hBB:wr.heap.size≤wr.heap.size:=Nat.le_refl _
       generalize (wr.alloc (.cells #[.int .u8 0,.int .u32 0,.string ⟨#[]⟩] 61)).drew=W5 at *
       refine wpAnyC_ready (rs:=[5]) (by kernel_rfl) (by simp) ?_
       refine AllC.cons rfl (fun K hK=>?_) AllC.nil
       go_simp
       refine⟨trivial,rfl,(callsIn_wide.2 (hLt acc.length _ hal)).mono ?_⟩
       rintro e w3 ⟨rfl,hbw3⟩
       dsimp only
       have hCw3:Below wr.heap.size wr w3:=hC5.trans (hbw3.mono hC5.size)
       refine hK _ _ hCw3 ?_
       clear hK K
       refine wpAnyC_ready (rs:=[11]) (by kernel_rfl) (by simp) ?_
       refine AllC.cons rfl (fun K hK=>?_) AllC.nil
       go_simp
       refine⟨trivial,rfl,(callsIn_wide.2 (hArg _ hCw3)).mono ?_⟩
       rintro e w4 ⟨rfl,hbw4⟩
       dsimp only
       have hCw4:Below wr.heap.size wr w4:=hCw3.trans (hbw4.mono hCw3.size)
       refine hK _ _ hCw4 ?_
       clear hK K
       refine wpAnyC_takeD (i:=12) (some 73) (v:=.tuple #[.agg #[.int .u8 x1,.int .u32 x2,.string x3],.int .i64 xn,.int .i64 xe]) (fun _=>trivial) (by kernel_rfl) rfl rfl (by kernel_rfl) (by kernel_rfl) (by kernel_rfl) (fun _ _ _ h=>by cases h.1) hCw4 (Or.inl ⟨by kernel_rfl,fun w' hC=>by clear hC;go_simp⟩) ?_
       simp only [Act.put,ap1,ap2,ap3]
       refine wpAnyC_takeD (i:=13) (some 86) (v:=.agg #[.int .u8 x1,.int .u32 x2,.string x3]) (fun _=>trivial) (by kernel_rfl) rfl rfl (by kernel_rfl) (by kernel_rfl) (by kernel_rfl) (fun _ _ _ h=>by cases h.1) hCw4 (Or.inl ⟨by kernel_rfl,fun w' hC=>by clear hC;go_simp⟩) ?_
       simp only [Act.put,ap1,ap2,ap3]
       refine wpAnyC_takeD (i:=14) (some 87) (v:=.int .i64 xn) (fun _=>trivial) (by kernel_rfl) rfl rfl (by kernel_rfl) (by kernel_rfl) (by kernel_rfl) (fun _ _ _ h=>by cases h.1) hCw4 (Or.inl ⟨by kernel_rfl,fun w' hC=>by clear hC;go_simp⟩) ?_
       simp only [Act.put,ap1,ap2,ap3]
       refine wpAnyC_takeD (i:=15) (some 88) (v:=.int .i64 xe) (fun _=>trivial) (by kernel_rfl) rfl rfl (by kernel_rfl) (by kernel_rfl) (by kernel_rfl) (fun _ _ _ h=>by cases h.1) hCw4 (Or.inl ⟨by kernel_rfl,fun w' hC=>by clear hC;go_simp⟩) ?_
       simp only [Act.put,ap1,ap2,ap3]
       have kZ2:=(hbw4.block _ (Nat.lt_of_lt_of_le lZ hbw3.size)).trans ((hbw3.block _ lZ).trans kZ)
       refine wpAnyC_ready (rs:=[17]) (by kernel_rfl) (by simp) ?_
       refine AllC.cons rfl (fun K hK=>?_) AllC.nil
       obtain⟨zc,zf⟩:=one_block kZ2
       have v0:=zc 0
       have v1:=zc 1
       have v2:=zc 2
       have g0:=zf 0
       have g1:=zf 1
       have g2:=zf 2
       go_simp
       have hC6:Below wr.heap.size wr (((w4.setCell ⟨wr.heap.size,0,none⟩ (.int .u8 x1)).setCell ⟨wr.heap.size,1,none⟩ (.int .u32 x2)).setCell ⟨wr.heap.size,2,none⟩ (.string x3)):=((hCw4.setCell hBB _).setCell hBB _).setCell hBB _
       refine hK _ _ hC6 ?_
       clear hK K v0 v1 v2 g0 g1 g2 zc zf
       refine wpAnyC_takeD (i:=18) (some 12) (v:=.int .i64 xn) (fun _=>trivial) (by kernel_rfl) rfl rfl (by kernel_rfl) (by kernel_rfl) (by kernel_rfl) (fun _ _ _ h=>by cases h.1) hC6 (Or.inl ⟨by kernel_rfl,fun w' hC=>by clear hC;go_simp⟩) ?_
       simp only [Act.put,ap1,ap2,ap3]
       refine wpAnyC_takeD (i:=19) (some 13) (v:=.int .i64 xe) (fun _=>trivial) (by kernel_rfl) rfl rfl (by kernel_rfl) (by kernel_rfl) (by kernel_rfl) (fun _ _ _ h=>by cases h.1) hC6 (Or.inl ⟨by kernel_rfl,fun w' hC=>by clear hC;go_simp⟩) ?_
       simp only [Act.put,ap1,ap2,ap3]
       refine wpAnyC_done (by kernel_rfl) ⟨rfl,?_⟩ _
       have hSX:=hS.below hC6
       have kx:=three_set3 kZ2 (.int .u8 x1) (.int .u32 x2) (.string x3)
       have lx:=(Array.getElem?_eq_some_iff.1 kx).1
       have hbx:wr.heap.size≤wr.heap.size:=hBB
       have sX:=Below.size hC6
       clear hC0 Lr Lb hArg hLt
       generalize ((w4.setCell ⟨wr.heap.size,0,none⟩ (.int .u8 x1)).setCell ⟨wr.heap.size,1,none⟩ (.int .u32 x2)).setCell ⟨wr.heap.size,2,none⟩ (.string x3)=X at hSX kx lx sX ⊢
       generalize wr.heap.size=Bx at *
       have hxe:xe=42:=HEX.out
       have hxb:(xe==0)=false:=by rw [hxe];rfl
       have hOE:OUT=(noInst,xe):=by rw [hxe];exact HO42.out
       clear hxe HEX HO42
       obtain⟨r0,r1,r2,r3⟩:=four_cells hSX.res
       obtain⟨_,rf⟩:=one_block hSX.res
       have j0:=rf 0
       have j1:=rf 1
       have j2:=rf 2
       have j3:=rf 3
       have hB4:=four_put hSX.res (.int .u16 0) (.int .u32 0) (.int .u32 0) (.slice none 0 0)
       have hBel:=hSX.bel.trans ((four_keep _ (w.heap.size+1) (.int .u16 0) (.int .u32 0) (.int .u32 0) (.slice none 0 0)).mono (by omega))
       have HB4:Hid _:=hB4
       have HBel:Hid _:=hBel
       have HOE:Hid (OUT=(noInst,xe)):=hOE
       clear hB4 hBel rf hOE HRU HOUT hSX hS
       gi_wp2
       have hB4:=HB4.out
       have hBel:=HBel.out
       clear HB4 HBel r0 r1 r2 r3 j0 j1 j2 j3
       generalize (((World.setCell _ _ _).setCell _ _).setCell _ _).setCell _ _=WF at hB4 hBel ⊢
       obtain⟨d0,d1,d2,d3⟩:=four_cells hB4
       rw [HOE.out]
       first
        | exact⟨.tuple #[.agg #[.int .u16 0,.int .u32 0,.int .u32 0,.slice none 0 0],.int .i64 xe],by simp [results,Tryz.results60,go_sem,d0,d1,d2,d3],hBel,none,0,0,rfl,rfl,argsN_nil⟩
        | exact⟨.tuple #[.agg #[.int .u16 0,.int .u32 0,.int .u32 0,.slice none 0 0],.int .i64 xe],by simp [results,Tryz.results60,go_sem,d0,d1,d2,d3],hBel,none,0,⟨0,rfl⟩,rfl,argsN_nil⟩
     ·have hArg:=fun wx (_:Below wr.heap.size wr wx)=>refArgument_any (letterI (f1,ty,re,f4,f5,f6,f7) (acc.length:Int)) (Option.map (fun x=>x.add q) a) 0 (cap - q) [] b wx (fun j hj=>absurd hj (by simp)) rfl (fun z hz=>by cases hz) (by omega) b0 b1
      generalize argI (letterI (f1,ty,re,f4,f5,f6,f7) (acc.length:Int)) [] b=A at eA hArg
      obtain⟨⟨x1,x2,x3⟩,xn,xe⟩:=A
      have HEX:Hid (xe=42):=by
       have h3:(((x1,x2,x3),xn,xe):ArgT×Int×Int).2.2=42:=by rw [eA]
       exact h3
      clear eA
      unfold argV at hArg
      simp only at hArg
      have hC0:Below wr.heap.size wr wr.drew:=below_drew wr
      have lB:=(Array.getElem?_eq_some_iff.1 hS.box).1
      have lW:=(Array.getElem?_eq_some_iff.1 hS.raw).1
      have Lr:Hid (∀ w',Below wr.heap.size wr w'→w'.cell? ⟨w.heap.size,0,none⟩=some (.int .u16 op)∧w'.cell? ⟨w.heap.size,1,none⟩=some (.slice a q cap)):=fun w' hC=>by
       obtain⟨hc,_⟩:=one_block ((hC.block _ lW).trans hS.raw)
       exact⟨hc 0,hc 1⟩
      have Lb:Hid (∀ w',Below wr.heap.size wr w'→w'.cell? ⟨B,3,none⟩=some (.slice av acc.length cv)):=fun w' hC=>(one_block ((hC.block _ lB).trans hS.box)).1 3
      refine wpIn_normal (wpIn_region_any hmix (wpAnyC_sound (C:=Below wr.heap.size wr) _ _ _ _ ?_))
      change wpAnyC _ _ _ _ _ _ _ _ _ _ (World.drew _)
      refine wpAnyC_takeD (i:=0) (some 74) (v:=.pointer (some ⟨w.heap.size,0,none⟩)) (fun _=>trivial) (by kernel_rfl) rfl rfl (by kernel_rfl) (by kernel_rfl) (by kernel_rfl) (fun _ _ _ h=>by cases h.1) hC0 (Or.inl ⟨by kernel_rfl,fun w' hC=>by clear hC;go_simp⟩) ?_
      simp only [Act.put,ap1,ap2,ap3]
      refine wpAnyC_takeD (i:=1) (some 75) (v:=.int .u16 op) (fun _=>trivial) (by kernel_rfl) rfl rfl (by kernel_rfl) (by kernel_rfl) (by kernel_rfl) (fun _ _ _ h=>by cases h.1) hC0 (Or.inl ⟨by kernel_rfl,fun w' hC=>by obtain⟨u0,u1⟩:=Lr.out w' hC;clear hC;go_simp⟩) ?_
      simp only [Act.put,ap1,ap2,ap3]
      refine wpAnyC_takeD (i:=2) (some 76) (v:=.pointer (some ⟨B,3,none⟩)) (fun _=>trivial) (by kernel_rfl) rfl rfl (by kernel_rfl) (by kernel_rfl) (by kernel_rfl) (fun _ _ _ h=>by cases h.1) hC0 (Or.inl ⟨by kernel_rfl,fun w' hC=>by clear hC;go_simp⟩) ?_
      simp only [Act.put,ap1,ap2,ap3]
      refine wpAnyC_takeD (i:=3) (some 77) (v:=.slice av acc.length cv) (fun _=>trivial) (by kernel_rfl) rfl rfl (by kernel_rfl) (by kernel_rfl) (by kernel_rfl) (fun _ _ _ h=>by cases h.1) hC0 (Or.inl ⟨by kernel_rfl,fun w' hC=>by have u0:=Lb.out w' hC;clear hC;go_simp⟩) ?_
      simp only [Act.put,ap1,ap2,ap3]
      refine wpAnyC_takeD (i:=4) (some 78) (v:=.int .i64 acc.length) (fun _=>trivial) (by kernel_rfl) rfl rfl (by kernel_rfl) (by kernel_rfl) (by kernel_rfl) (fun _ _ _ h=>by cases h.1) hC0 (Or.inl ⟨by kernel_rfl,fun w' hC=>by clear hC;go_simp⟩) ?_
      simp only [Act.put,ap1,ap2,ap3]
      refine wpAnyC_takeD (i:=6) (some 80) (v:=.pointer (some ⟨w.heap.size,1,none⟩)) (fun _=>trivial) (by kernel_rfl) rfl rfl (by kernel_rfl) (by kernel_rfl) (by kernel_rfl) (fun _ _ _ h=>by cases h.1) hC0 (Or.inl ⟨by kernel_rfl,fun w' hC=>by clear hC;go_simp⟩) ?_
      simp only [Act.put,ap1,ap2,ap3]
      refine wpAnyC_takeD (i:=7) (some 81) (v:=.slice a q cap) (fun _=>trivial) (by kernel_rfl) rfl rfl (by kernel_rfl) (by kernel_rfl) (by kernel_rfl) (fun _ _ _ h=>by cases h.1) hC0 (Or.inl ⟨by kernel_rfl,fun w' hC=>by obtain⟨u0,u1⟩:=Lr.out w' hC;clear hC;go_simp⟩) ?_
      simp only [Act.put,ap1,ap2,ap3]
      refine wpAnyC_takeD (i:=8) (some 82) (v:=.int .i64 q) (fun _=>trivial) (by kernel_rfl) rfl rfl (by kernel_rfl) (by kernel_rfl) (by kernel_rfl) (fun _ _ _ h=>by cases h.1) hC0 (Or.inl ⟨by kernel_rfl,fun w' hC=>by clear hC;go_simp⟩) ?_
      simp only [Act.put,ap1,ap2,ap3]
      refine wpAnyC_takeD (i:=9) (some 83) (v:=.slice (Option.map (fun x=>x.add q) a) (0) (cap - q)) (fun _=>trivial) (by kernel_rfl) rfl rfl (by kernel_rfl) (by kernel_rfl) (by kernel_rfl) (fun _ _ _ h=>by cases h.1) hC0 (Or.inl ⟨by kernel_rfl,fun w' hC=>by clear hC;go_simp⟩) ?_
      simp only [Act.put,ap1,ap2,ap3]
      refine wpAnyC_takeD (i:=10) (some 84) (v:=.int .u32 b) (fun _=>trivial) (by kernel_rfl) rfl rfl (by kernel_rfl) (by kernel_rfl) (by kernel_rfl) (fun _ _ _ h=>by cases h.1) hC0 (Or.inl ⟨by kernel_rfl,fun w' hC=>by clear hC;go_simp⟩) ?_
      simp only [Act.put,ap1,ap2,ap3]
      refine wpAnyC_ready (rs:=[5,16]) (by kernel_rfl) (by simp) ?_
      refine AllC.cons rfl (fun K hK=>?_) (AllC.cons rfl (fun K hK=>?_) AllC.nil)
      ·go_simp
       refine⟨trivial,rfl,(callsIn_wide.2 (hLt acc.length _ hal)).mono ?_⟩
       rintro e w3 ⟨rfl,hbw3⟩
       dsimp only
       have hCw3:Below wr.heap.size wr w3:=hC0.trans (hbw3.mono hC0.size)
       refine hK _ _ hCw3 ?_
       clear hK K
       refine wpAnyC_ready (rs:=[11,16]) (by kernel_rfl) (by simp) ?_
       refine AllC.cons rfl (fun K hK=>?_) (AllC.cons rfl (fun K hK=>?_) AllC.nil)
       ·go_simp
        refine⟨trivial,rfl,(callsIn_wide.2 (hArg _ hCw3)).mono ?_⟩
        rintro e w4 ⟨rfl,hbw4⟩
        dsimp only
        have hCw4:Below wr.heap.size wr w4:=hCw3.trans (hbw4.mono hCw3.size)
        refine hK _ _ hCw4 ?_
        clear hK K
        refine wpAnyC_takeD (i:=12) (some 73) (v:=.tuple #[.agg #[.int .u8 x1,.int .u32 x2,.string x3],.int .i64 xn,.int .i64 xe]) (fun _=>trivial) (by kernel_rfl) rfl rfl (by kernel_rfl) (by kernel_rfl) (by kernel_rfl) (fun _ _ _ h=>by cases h.1) hCw4 (Or.inl ⟨by kernel_rfl,fun w' hC=>by clear hC;go_simp⟩) ?_
        simp only [Act.put,ap1,ap2,ap3]
        refine wpAnyC_takeD (i:=13) (some 86) (v:=.agg #[.int .u8 x1,.int .u32 x2,.string x3]) (fun _=>trivial) (by kernel_rfl) rfl rfl (by kernel_rfl) (by kernel_rfl) (by kernel_rfl) (fun _ _ _ h=>by cases h.1) hCw4 (Or.inl ⟨by kernel_rfl,fun w' hC=>by clear hC;go_simp⟩) ?_
        simp only [Act.put,ap1,ap2,ap3]
        refine wpAnyC_takeD (i:=14) (some 87) (v:=.int .i64 xn) (fun _=>trivial) (by kernel_rfl) rfl rfl (by kernel_rfl) (by kernel_rfl) (by kernel_rfl) (fun _ _ _ h=>by cases h.1) hCw4 (Or.inl ⟨by kernel_rfl,fun w' hC=>by clear hC;go_simp⟩) ?_
        simp only [Act.put,ap1,ap2,ap3]
        refine wpAnyC_takeD (i:=15) (some 88) (v:=.int .i64 xe) (fun _=>trivial) (by kernel_rfl) rfl rfl (by kernel_rfl) (by kernel_rfl) (by kernel_rfl) (fun _ _ _ h=>by cases h.1) hCw4 (Or.inl ⟨by kernel_rfl,fun w' hC=>by clear hC;go_simp⟩) ?_
        simp only [Act.put,ap1,ap2,ap3]
        refine wpAnyC_ready (rs:=[16]) (by kernel_rfl) (by simp) ?_
        refine AllC.cons rfl (fun K hK=>?_) AllC.nil
        go_simp
        have hC5:Below wr.heap.size wr (w4.alloc (.cells #[.int .u8 0,.int .u32 0,.string ⟨#[]⟩] 61)):=hCw4.alloc hCw4.size _
        refine hK _ _ hC5 ?_
        clear hK K
        refine wpAnyC_ready (rs:=[17]) (by kernel_rfl) (by simp) ?_
        refine AllC.cons rfl (fun K hK=>?_) AllC.nil
        go_simp
        have hC6:Below wr.heap.size wr (w4.alloc (.cells #[.int .u8 x1,.int .u32 x2,.string x3] 61)):=hCw4.alloc hCw4.size _
        refine hK _ _ hC6 ?_
        clear hK K hC5
        refine wpAnyC_takeD (i:=18) (some 12) (v:=.int .i64 xn) (fun _=>trivial) (by kernel_rfl) rfl rfl (by kernel_rfl) (by kernel_rfl) (by kernel_rfl) (fun _ _ _ h=>by cases h.1) hC6 (Or.inl ⟨by kernel_rfl,fun w' hC=>by clear hC;go_simp⟩) ?_
        simp only [Act.put,ap1,ap2,ap3]
        refine wpAnyC_takeD (i:=19) (some 13) (v:=.int .i64 xe) (fun _=>trivial) (by kernel_rfl) rfl rfl (by kernel_rfl) (by kernel_rfl) (by kernel_rfl) (fun _ _ _ h=>by cases h.1) hC6 (Or.inl ⟨by kernel_rfl,fun w' hC=>by clear hC;go_simp⟩) ?_
        simp only [Act.put,ap1,ap2,ap3]
        refine wpAnyC_done (by kernel_rfl) ⟨rfl,?_⟩ _
        have hSX:=hS.below hC6
        have kx:=alloc_new w4 #[.int .u8 x1,.int .u32 x2,.string x3] 61
        have lx:=(Array.getElem?_eq_some_iff.1 kx).1
        have hbx:wr.heap.size≤w4.heap.size:=hCw4.size
        have sX:=Below.size hC6
        clear hC0 Lr Lb hArg hLt
        generalize w4.alloc (.cells #[.int .u8 x1,.int .u32 x2,.string x3] 61)=X at hSX kx lx sX ⊢
        generalize w4.heap.size=Bx at *
        have hxe:xe=42:=HEX.out
        have hxb:(xe==0)=false:=by rw [hxe];rfl
        have hOE:OUT=(noInst,xe):=by rw [hxe];exact HO42.out
        clear hxe HEX HO42
        obtain⟨r0,r1,r2,r3⟩:=four_cells hSX.res
        obtain⟨_,rf⟩:=one_block hSX.res
        have j0:=rf 0
        have j1:=rf 1
        have j2:=rf 2
        have j3:=rf 3
        have hB4:=four_put hSX.res (.int .u16 0) (.int .u32 0) (.int .u32 0) (.slice none 0 0)
        have hBel:=hSX.bel.trans ((four_keep _ (w.heap.size+1) (.int .u16 0) (.int .u32 0) (.int .u32 0) (.slice none 0 0)).mono (by omega))
        have HB4:Hid _:=hB4
        have HBel:Hid _:=hBel
        have HOE:Hid (OUT=(noInst,xe)):=hOE
        clear hB4 hBel rf hOE HRU HOUT hSX hS
        gi_wp2
        have hB4:=HB4.out
        have hBel:=HBel.out
        clear HB4 HBel r0 r1 r2 r3 j0 j1 j2 j3
        generalize (((World.setCell _ _ _).setCell _ _).setCell _ _).setCell _ _=WF at hB4 hBel ⊢
        obtain⟨d0,d1,d2,d3⟩:=four_cells hB4
        rw [HOE.out]
        first
         | exact⟨.tuple #[.agg #[.int .u16 0,.int .u32 0,.int .u32 0,.slice none 0 0],.int .i64 xe],by simp [results,Tryz.results60,go_sem,d0,d1,d2,d3],hBel,none,0,0,rfl,rfl,argsN_nil⟩
         | exact⟨.tuple #[.agg #[.int .u16 0,.int .u32 0,.int .u32 0,.slice none 0 0],.int .i64 xe],by simp [results,Tryz.results60,go_sem,d0,d1,d2,d3],hBel,none,0,⟨0,rfl⟩,rfl,argsN_nil⟩
       ·go_simp
        have hC5:Below wr.heap.size wr (w3.alloc (.cells #[.int .u8 0,.int .u32 0,.string ⟨#[]⟩] 61)):=hCw3.alloc hCw3.size _
        refine hK _ _ hC5 ?_
        clear hK K
        have kZ:=alloc_new w3 #[.int .u8 0,.int .u32 0,.string ⟨#[]⟩] 61
        have hBB:wr.heap.size≤w3.heap.size:=hCw3.size
        have lZ:w3.heap.size<(w3.alloc (.cells #[.int .u8 0,.int .u32 0,.string ⟨#[]⟩] 61)).heap.size:=by simp
        generalize w3.alloc (.cells #[.int .u8 0,.int .u32 0,.string ⟨#[]⟩] 61)=W5 at *
        refine wpAnyC_ready (rs:=[11]) (by kernel_rfl) (by simp) ?_
        refine AllC.cons rfl (fun K hK=>?_) AllC.nil
        go_simp
        refine⟨trivial,rfl,(callsIn_wide.2 (hArg _ hC5)).mono ?_⟩
        rintro e w4 ⟨rfl,hbw4⟩
        dsimp only
        have hCw4:Below wr.heap.size wr w4:=hC5.trans (hbw4.mono hC5.size)
        refine hK _ _ hCw4 ?_
        clear hK K
        refine wpAnyC_takeD (i:=12) (some 73) (v:=.tuple #[.agg #[.int .u8 x1,.int .u32 x2,.string x3],.int .i64 xn,.int .i64 xe]) (fun _=>trivial) (by kernel_rfl) rfl rfl (by kernel_rfl) (by kernel_rfl) (by kernel_rfl) (fun _ _ _ h=>by cases h.1) hCw4 (Or.inl ⟨by kernel_rfl,fun w' hC=>by clear hC;go_simp⟩) ?_
        simp only [Act.put,ap1,ap2,ap3]
        refine wpAnyC_takeD (i:=13) (some 86) (v:=.agg #[.int .u8 x1,.int .u32 x2,.string x3]) (fun _=>trivial) (by kernel_rfl) rfl rfl (by kernel_rfl) (by kernel_rfl) (by kernel_rfl) (fun _ _ _ h=>by cases h.1) hCw4 (Or.inl ⟨by kernel_rfl,fun w' hC=>by clear hC;go_simp⟩) ?_
        simp only [Act.put,ap1,ap2,ap3]
        refine wpAnyC_takeD (i:=14) (some 87) (v:=.int .i64 xn) (fun _=>trivial) (by kernel_rfl) rfl rfl (by kernel_rfl) (by kernel_rfl) (by kernel_rfl) (fun _ _ _ h=>by cases h.1) hCw4 (Or.inl ⟨by kernel_rfl,fun w' hC=>by clear hC;go_simp⟩) ?_
        simp only [Act.put,ap1,ap2,ap3]
        refine wpAnyC_takeD (i:=15) (some 88) (v:=.int .i64 xe) (fun _=>trivial) (by kernel_rfl) rfl rfl (by kernel_rfl) (by kernel_rfl) (by kernel_rfl) (fun _ _ _ h=>by cases h.1) hCw4 (Or.inl ⟨by kernel_rfl,fun w' hC=>by clear hC;go_simp⟩) ?_
        simp only [Act.put,ap1,ap2,ap3]
        have kZ2:=(hbw4.block _ lZ).trans kZ
        refine wpAnyC_ready (rs:=[17]) (by kernel_rfl) (by simp) ?_
        refine AllC.cons rfl (fun K hK=>?_) AllC.nil
        obtain⟨zc,zf⟩:=one_block kZ2
        have v0:=zc 0
        have v1:=zc 1
        have v2:=zc 2
        have g0:=zf 0
        have g1:=zf 1
        have g2:=zf 2
        go_simp
        have hC6:Below wr.heap.size wr (((w4.setCell ⟨w3.heap.size,0,none⟩ (.int .u8 x1)).setCell ⟨w3.heap.size,1,none⟩ (.int .u32 x2)).setCell ⟨w3.heap.size,2,none⟩ (.string x3)):=((hCw4.setCell hBB _).setCell hBB _).setCell hBB _
        refine hK _ _ hC6 ?_
        clear hK K v0 v1 v2 g0 g1 g2 zc zf
        refine wpAnyC_takeD (i:=18) (some 12) (v:=.int .i64 xn) (fun _=>trivial) (by kernel_rfl) rfl rfl (by kernel_rfl) (by kernel_rfl) (by kernel_rfl) (fun _ _ _ h=>by cases h.1) hC6 (Or.inl ⟨by kernel_rfl,fun w' hC=>by clear hC;go_simp⟩) ?_
        simp only [Act.put,ap1,ap2,ap3]
        refine wpAnyC_takeD (i:=19) (some 13) (v:=.int .i64 xe) (fun _=>trivial) (by kernel_rfl) rfl rfl (by kernel_rfl) (by kernel_rfl) (by kernel_rfl) (fun _ _ _ h=>by cases h.1) hC6 (Or.inl ⟨by kernel_rfl,fun w' hC=>by clear hC;go_simp⟩) ?_
        simp only [Act.put,ap1,ap2,ap3]
        refine wpAnyC_done (by kernel_rfl) ⟨rfl,?_⟩ _
        have hSX:=hS.below hC6
        have kx:=three_set3 kZ2 (.int .u8 x1) (.int .u32 x2) (.string x3)
        have lx:=(Array.getElem?_eq_some_iff.1 kx).1
        have hbx:wr.heap.size≤w3.heap.size:=hBB
        have sX:=Below.size hC6
        clear hC0 Lr Lb hArg hLt
        generalize ((w4.setCell ⟨w3.heap.size,0,none⟩ (.int .u8 x1)).setCell ⟨w3.heap.size,1,none⟩ (.int .u32 x2)).setCell ⟨w3.heap.size,2,none⟩ (.string x3)=X at hSX kx lx sX ⊢
        generalize w3.heap.size=Bx at *
        have hxe:xe=42:=HEX.out
        have hxb:(xe==0)=false:=by rw [hxe];rfl
        have hOE:OUT=(noInst,xe):=by rw [hxe];exact HO42.out
        clear hxe HEX HO42
        obtain⟨r0,r1,r2,r3⟩:=four_cells hSX.res
        obtain⟨_,rf⟩:=one_block hSX.res
        have j0:=rf 0
        have j1:=rf 1
        have j2:=rf 2
        have j3:=rf 3
        have hB4:=four_put hSX.res (.int .u16 0) (.int .u32 0) (.int .u32 0) (.slice none 0 0)
        have hBel:=hSX.bel.trans ((four_keep _ (w.heap.size+1) (.int .u16 0) (.int .u32 0) (.int .u32 0) (.slice none 0 0)).mono (by omega))
        have HB4:Hid _:=hB4
        have HBel:Hid _:=hBel
        have HOE:Hid (OUT=(noInst,xe)):=hOE
        clear hB4 hBel rf hOE HRU HOUT hSX hS
        gi_wp2
        have hB4:=HB4.out
        have hBel:=HBel.out
        clear HB4 HBel r0 r1 r2 r3 j0 j1 j2 j3
        generalize (((World.setCell _ _ _).setCell _ _).setCell _ _).setCell _ _=WF at hB4 hBel ⊢
        obtain⟨d0,d1,d2,d3⟩:=four_cells hB4
        rw [HOE.out]
        first
         | exact⟨.tuple #[.agg #[.int .u16 0,.int .u32 0,.int .u32 0,.slice none 0 0],.int .i64 xe],by simp [results,Tryz.results60,go_sem,d0,d1,d2,d3],hBel,none,0,0,rfl,rfl,argsN_nil⟩
         | exact⟨.tuple #[.agg #[.int .u16 0,.int .u32 0,.int .u32 0,.slice none 0 0],.int .i64 xe],by simp [results,Tryz.results60,go_sem,d0,d1,d2,d3],hBel,none,0,⟨0,rfl⟩,rfl,argsN_nil⟩
      ·go_simp
       have hC5:Below wr.heap.size wr (wr.alloc (.cells #[.int .u8 0,.int .u32 0,.string ⟨#[]⟩] 61)).drew:=((Below.refl _ wr).alloc (Nat.le_refl _) _).drew
       refine hK _ _ hC5 ?_
       clear hK K
       have kZ:(wr.alloc (.cells #[.int .u8 0,.int .u32 0,.string ⟨#[]⟩] 61)).drew.heap[wr.heap.size]?=some (.cells #[.int .u8 0,.int .u32 0,.string ⟨#[]⟩] 61 (0,0)):=alloc_new wr _ _
       have lZ:wr.heap.size<(wr.alloc (.cells #[.int .u8 0,.int .u32 0,.string ⟨#[]⟩] 61)).drew.heap.size:=by show _<(wr.alloc _).heap.size;simp
       have hBB:wr.heap.size≤wr.heap.size:=Nat.le_refl _
       generalize (wr.alloc (.cells #[.int .u8 0,.int .u32 0,.string ⟨#[]⟩] 61)).drew=W5 at *
       refine wpAnyC_ready (rs:=[5]) (by kernel_rfl) (by simp) ?_
       refine AllC.cons rfl (fun K hK=>?_) AllC.nil
       go_simp
       refine⟨trivial,rfl,(callsIn_wide.2 (hLt acc.length _ hal)).mono ?_⟩
       rintro e w3 ⟨rfl,hbw3⟩
       dsimp only
       have hCw3:Below wr.heap.size wr w3:=hC5.trans (hbw3.mono hC5.size)
       refine hK _ _ hCw3 ?_
       clear hK K
       refine wpAnyC_ready (rs:=[11]) (by kernel_rfl) (by simp) ?_
       refine AllC.cons rfl (fun K hK=>?_) AllC.nil
       go_simp
       refine⟨trivial,rfl,(callsIn_wide.2 (hArg _ hCw3)).mono ?_⟩
       rintro e w4 ⟨rfl,hbw4⟩
       dsimp only
       have hCw4:Below wr.heap.size wr w4:=hCw3.trans (hbw4.mono hCw3.size)
       refine hK _ _ hCw4 ?_
       clear hK K
       refine wpAnyC_takeD (i:=12) (some 73) (v:=.tuple #[.agg #[.int .u8 x1,.int .u32 x2,.string x3],.int .i64 xn,.int .i64 xe]) (fun _=>trivial) (by kernel_rfl) rfl rfl (by kernel_rfl) (by kernel_rfl) (by kernel_rfl) (fun _ _ _ h=>by cases h.1) hCw4 (Or.inl ⟨by kernel_rfl,fun w' hC=>by clear hC;go_simp⟩) ?_
       simp only [Act.put,ap1,ap2,ap3]
       refine wpAnyC_takeD (i:=13) (some 86) (v:=.agg #[.int .u8 x1,.int .u32 x2,.string x3]) (fun _=>trivial) (by kernel_rfl) rfl rfl (by kernel_rfl) (by kernel_rfl) (by kernel_rfl) (fun _ _ _ h=>by cases h.1) hCw4 (Or.inl ⟨by kernel_rfl,fun w' hC=>by clear hC;go_simp⟩) ?_
       simp only [Act.put,ap1,ap2,ap3]
       refine wpAnyC_takeD (i:=14) (some 87) (v:=.int .i64 xn) (fun _=>trivial) (by kernel_rfl) rfl rfl (by kernel_rfl) (by kernel_rfl) (by kernel_rfl) (fun _ _ _ h=>by cases h.1) hCw4 (Or.inl ⟨by kernel_rfl,fun w' hC=>by clear hC;go_simp⟩) ?_
       simp only [Act.put,ap1,ap2,ap3]
       refine wpAnyC_takeD (i:=15) (some 88) (v:=.int .i64 xe) (fun _=>trivial) (by kernel_rfl) rfl rfl (by kernel_rfl) (by kernel_rfl) (by kernel_rfl) (fun _ _ _ h=>by cases h.1) hCw4 (Or.inl ⟨by kernel_rfl,fun w' hC=>by clear hC;go_simp⟩) ?_
       simp only [Act.put,ap1,ap2,ap3]
       have kZ2:=(hbw4.block _ (Nat.lt_of_lt_of_le lZ hbw3.size)).trans ((hbw3.block _ lZ).trans kZ)
       refine wpAnyC_ready (rs:=[17]) (by kernel_rfl) (by simp) ?_
       refine AllC.cons rfl (fun K hK=>?_) AllC.nil
       obtain⟨zc,zf⟩:=one_block kZ2
       have v0:=zc 0
       have v1:=zc 1
       have v2:=zc 2
       have g0:=zf 0
       have g1:=zf 1
       have g2:=zf 2
       go_simp
       have hC6:Below wr.heap.size wr (((w4.setCell ⟨wr.heap.size,0,none⟩ (.int .u8 x1)).setCell ⟨wr.heap.size,1,none⟩ (.int .u32 x2)).setCell ⟨wr.heap.size,2,none⟩ (.string x3)):=((hCw4.setCell hBB _).setCell hBB _).setCell hBB _
       refine hK _ _ hC6 ?_
       clear hK K v0 v1 v2 g0 g1 g2 zc zf
       refine wpAnyC_takeD (i:=18) (some 12) (v:=.int .i64 xn) (fun _=>trivial) (by kernel_rfl) rfl rfl (by kernel_rfl) (by kernel_rfl) (by kernel_rfl) (fun _ _ _ h=>by cases h.1) hC6 (Or.inl ⟨by kernel_rfl,fun w' hC=>by clear hC;go_simp⟩) ?_
       simp only [Act.put,ap1,ap2,ap3]
       refine wpAnyC_takeD (i:=19) (some 13) (v:=.int .i64 xe) (fun _=>trivial) (by kernel_rfl) rfl rfl (by kernel_rfl) (by kernel_rfl) (by kernel_rfl) (fun _ _ _ h=>by cases h.1) hC6 (Or.inl ⟨by kernel_rfl,fun w' hC=>by clear hC;go_simp⟩) ?_
       simp only [Act.put,ap1,ap2,ap3]
       refine wpAnyC_done (by kernel_rfl) ⟨rfl,?_⟩ _
       have hSX:=hS.below hC6
       have kx:=three_set3 kZ2 (.int .u8 x1) (.int .u32 x2) (.string x3)
       have lx:=(Array.getElem?_eq_some_iff.1 kx).1
       have hbx:wr.heap.size≤wr.heap.size:=hBB
       have sX:=Below.size hC6
       clear hC0 Lr Lb hArg hLt
       generalize ((w4.setCell ⟨wr.heap.size,0,none⟩ (.int .u8 x1)).setCell ⟨wr.heap.size,1,none⟩ (.int .u32 x2)).setCell ⟨wr.heap.size,2,none⟩ (.string x3)=X at hSX kx lx sX ⊢
       generalize wr.heap.size=Bx at *
       have hxe:xe=42:=HEX.out
       have hxb:(xe==0)=false:=by rw [hxe];rfl
       have hOE:OUT=(noInst,xe):=by rw [hxe];exact HO42.out
       clear hxe HEX HO42
       obtain⟨r0,r1,r2,r3⟩:=four_cells hSX.res
       obtain⟨_,rf⟩:=one_block hSX.res
       have j0:=rf 0
       have j1:=rf 1
       have j2:=rf 2
       have j3:=rf 3
       have hB4:=four_put hSX.res (.int .u16 0) (.int .u32 0) (.int .u32 0) (.slice none 0 0)
       have hBel:=hSX.bel.trans ((four_keep _ (w.heap.size+1) (.int .u16 0) (.int .u32 0) (.int .u32 0) (.slice none 0 0)).mono (by omega))
       have HB4:Hid _:=hB4
       have HBel:Hid _:=hBel
       have HOE:Hid (OUT=(noInst,xe)):=hOE
       clear hB4 hBel rf hOE HRU HOUT hSX hS
       gi_wp2
       have hB4:=HB4.out
       have hBel:=HBel.out
       clear HB4 HBel r0 r1 r2 r3 j0 j1 j2 j3
       generalize (((World.setCell _ _ _).setCell _ _).setCell _ _).setCell _ _=WF at hB4 hBel ⊢
       obtain⟨d0,d1,d2,d3⟩:=four_cells hB4
       rw [HOE.out]
       first
        | exact⟨.tuple #[.agg #[.int .u16 0,.int .u32 0,.int .u32 0,.slice none 0 0],.int .i64 xe],by simp [results,Tryz.results60,go_sem,d0,d1,d2,d3],hBel,none,0,0,rfl,rfl,argsN_nil⟩
        | exact⟨.tuple #[.agg #[.int .u16 0,.int .u32 0,.int .u32 0,.slice none 0 0],.int .i64 xe],by simp [results,Tryz.results60,go_sem,d0,d1,d2,d3],hBel,none,0,⟨0,rfl⟩,rfl,argsN_nil⟩
    ·have hfi:¬ (acc.length:Int)<(f4.size:Int):=by omega
     obtain⟨fc,_⟩:=one_block hS.frm
     have t0:=fc 0
     have t1:=fc 1
     have t2:=fc 2
     have t3:=fc 3
     have t5:=fc 5
     have t6:=fc 6
     have t7:=fc 7
     clear fc
     simp only [frmCells] at t0 t1 t2 t3 t5 t6 t7
     gi_wp2_with fail
     refine⟨trivial,rfl,(callsIn_wide.2 (hWh acc.length _ hal)).mono ?_⟩
     rintro e w5 ⟨rfl,hb5⟩
     have hSX:=hS.below hb5
     clear t0 t1 t2 t3 t5 t6 t7
     by_cases hwh:wholeN (f1,ty,re,f4,f5,f6,f7) (acc.length:Int)=true
     ·have hRz:=HRU.out
      rw [if_pos hwh] at hRz
      have hOE:OUT=((op,X0,X1,acc),0):=by rw [HOUT.out,hRz];rfl
      obtain⟨o0,o1,o2,o3⟩:=four_cells hSX.box
      obtain⟨r0,r1,r2,r3⟩:=four_cells hSX.res
      obtain⟨_,rf⟩:=one_block hSX.res
      have j0:=rf 0
      have j1:=rf 1
      have j2:=rf 2
      have j3:=rf 3
      have hB4:=four_put hSX.res (.int .u16 op) (.int .u32 X0) (.int .u32 X1) (.slice av acc.length cv)
      have hkp:=four_keep w5 (w.heap.size+1) (.int .u16 op) (.int .u32 X0) (.int .u32 X1) (.slice av acc.length cv)
      have hBel:=hSX.bel.trans (hkp.mono (by omega))
      have HB4:Hid _:=hB4
      have HBel:Hid _:=hBel
      have HOE:Hid (OUT=((op,X0,X1,acc),0)):=hOE
      have HOW:Hid (w5.ownsRow (B+1) 61 3 (.slice av acc.length cv) acc.length (acc.flatMap argC)):=hSX.own
      clear hB4 hBel rf hOE HRU HOUT hRz hSX hS hkp
      gi_wp2
      have hB4:=HB4.out
      have hBel:=HBel.out
      have hlow:w.heap.size+1<B+1:=by omega
      have hOW:=ownFar (ownFar (ownFar (ownFar HOW.out hlow 0 (.int .u16 op)) hlow 1 (.int .u32 X0)) hlow 2 (.int .u32 X1)) hlow 3 (.slice av acc.length cv)
      clear HB4 HBel r0 r1 r2 r3 j0 j1 j2 j3 o0 o1 o2 o3
      generalize (((World.setCell _ _ _).setCell _ _).setCell _ _).setCell _ _=WF at hB4 hBel hOW ⊢
      obtain⟨d0,d1,d2,d3⟩:=four_cells hB4
      rw [HOE.out]
      exact⟨.tuple #[.agg #[.int .u16 op,.int .u32 X0,.int .u32 X1,.slice av acc.length cv],.int .i64 0],by simp [results,Tryz.results60,go_sem,d0,d1,d2,d3],hBel,av,acc.length,cv,rfl,rfl,argsN_own hOW rfl (by omega)⟩
     ·have hwb:wholeN (f1,ty,re,f4,f5,f6,f7) (acc.length:Int)=false:=by simpa using hwh
      rw [hwb]
      have hRz:=HRU.out
      rw [if_neg hwh] at hRz
      have hOE:OUT=(noInst,42):=by rw [HOUT.out,hRz];rfl
      clear hRz hwh hwb
      obtain⟨r0,r1,r2,r3⟩:=four_cells hSX.res
      obtain⟨_,rf⟩:=one_block hSX.res
      have j0:=rf 0
      have j1:=rf 1
      have j2:=rf 2
      have j3:=rf 3
      have hB4:=four_put hSX.res (.int .u16 0) (.int .u32 0) (.int .u32 0) (.slice none 0 0)
      have hBel:=hSX.bel.trans ((four_keep _ (w.heap.size+1) (.int .u16 0) (.int .u32 0) (.int .u32 0) (.slice none 0 0)).mono (by omega))
      have HB4:Hid _:=hB4
      have HBel:Hid _:=hBel
      have HOE:Hid (OUT=(noInst,42)):=hOE
      clear hB4 hBel rf hOE HRU HOUT hSX hS
      gi_wp2
      have hB4:=HB4.out
      have hBel:=HBel.out
      clear HB4 HBel r0 r1 r2 r3 j0 j1 j2 j3
      generalize (((World.setCell _ _ _).setCell _ _).setCell _ _).setCell _ _=WF at hB4 hBel ⊢
      obtain⟨d0,d1,d2,d3⟩:=four_cells hB4
      rw [HOE.out]
      first
       | exact⟨.tuple #[.agg #[.int .u16 0,.int .u32 0,.int .u32 0,.slice none 0 0],.int .i64 42],by simp [results,Tryz.results60,go_sem,d0,d1,d2,d3],hBel,none,0,0,rfl,rfl,argsN_nil⟩
       | exact⟨.tuple #[.agg #[.int .u16 0,.int .u32 0,.int .u32 0,.slice none 0 0],.int .i64 42],by simp [results,Tryz.results60,go_sem,d0,d1,d2,d3],hBel,none,0,⟨0,rfl⟩,rfl,argsN_nil⟩
end Go.Proofs.YtonhnflilfjkbaaGreatDoor
