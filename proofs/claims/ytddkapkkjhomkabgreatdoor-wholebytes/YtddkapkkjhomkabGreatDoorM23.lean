/-
  Texts laid together in one: AsmRead, AsmNumber, AsmHead.
-/
import Derived.WalkSpells
import Derived.WalkMore
import Derived.BigRegion
import Derived.Test.YtddkapkkjhomkabGreatDoorProg
import Derived.Test.YtddkapkkjhomkabGreatDoorM22
import Derived.Deep.RegionWith
import Derived.Test.YtddkapkkjhomkabGreatDoorM20
import Derived.Test.YtddkapkkjhomkabGreatDoorM19
set_option linter.unusedVariables false
set_option linter.unusedSimpArgs false
set_option maxRecDepth 10000
namespace Go.Proofs.YtddkapkkjhomkabGreatDoor
open Go.RowKit
attribute [local go_sem] jumps_normal jumps_exit jumps_ret jumps_panic jumps_goto onNormal_normal

def takeQ (l:List TokT) (k:Nat) (kd len:Int):TokT × Int × Int :=
 if l.length≤k then (noTok,72,len) else if (nthT l k).1≠kd then (noTok,70,(nthT l k).2.2) else (nthT l k,0,0)
theorem take_any7 (B:Nat) (a:Option Addr) (n c k:Nat) (len:Int) (rest:Array Value) (T:Nat) (l:List TokT) (kd:Int) (w:World) (h:RowAt w B a n c k len rest T) (hv:ToksV w a l) (hl:l.length=n) (hn:32 * n≤140737488351232) (hk:k≤n) :
  Calls Tryz.prog 145 #[.pointer (some ⟨B,0,none⟩),.int .u8 kd] w fun e w'=>e=.returned (.tuple #[tokV (takeQ l k kd len).1,.agg #[.int .i64 (takeQ l k kd len).2.1,.int .i64 (takeQ l k kd len).2.2]])∧w.grownBy w' (some B)∧((takeQ l k kd len).2.1=0→RowAt w' B a n c (k+1) len rest T):=by
 unfold takeQ
 by_cases h1:l.length≤k
 ·obtain rfl:k=n:=by omega
  rw [if_pos h1]
  refine (take_early B a k c len rest T kd w h).mono ?_
  rintro e w' ⟨rfl,hb⟩
  exact ⟨rfl,grown_below2 hb _,fun h=>by simp at h⟩
 ·rw [if_neg h1]
  by_cases h2:(nthT l k).1=kd
  ·rw [if_neg (by simpa using h2)]
   refine (take_ok B a n c k len rest T l kd w h hv hl hn (by omega) h2).mono ?_
   rintro e w' ⟨rfl,hR,hg⟩
   exact ⟨rfl,hg,fun _=>hR⟩
  ·rw [if_pos h2]
   refine (take_wrong B a n c k len rest T l kd w h hv hl hn (by omega) h2).mono ?_
   rintro e w' ⟨rfl,hb⟩
   exact ⟨rfl,grown_below2 hb _,fun h=>by simp at h⟩
set_option maxHeartbeats 4000000 in
theorem read_any (B:Nat) (a:Option Addr) (n c:Nat) (len b:Int) (l:List TokT) (w:World) (hR:Rea w B a n c 0 len b 0 noFrm 0 0 0 (.slice none 0 0) 0) (hv:ToksV w a l) (hl:l.length=n) (hn:32 * n≤140737488351232) (hin:ToksIn l) (hkd:∀ t ∈ l,t.1≠0) (h1:0 < n) (hfar:∀ g off,a=some ⟨g,off,none⟩→g≠B) :
  Calls Tryz.prog 123 #[.pointer (some ⟨B,0,none⟩)] w fun e w'=>∃ E P:Int,e=.returned (.agg #[.int .i64 E,.int .i64 P])∧w.grownBy w' (some B)∧ReadQ w w' B a n c len b (lineP l len b) E P:=by
 have hB:=hR.lt
 obtain ⟨R,hRR⟩:∃ R,R=lineP l len b:=⟨_,rfl⟩
 rw [← hRR]
 have hret:ReadRet w B a n c len b R (bodyPost Tryz.prog Tryz.f123 fun e w'=>∃ E P:Int,e=.returned (.agg #[.int .i64 E,.int .i64 P])∧w.grownBy w' (some B)∧ReadQ w w' B a n c len b R E P):=by
  intro a' w' E P q2 q3 q4 q5 q6
  have c0:w'.cell? ⟨w.heap.size,0,none⟩=some (.int .i64 E):=by rw [Lib.cell_of_heap q4];rfl
  have c1:w'.cell? ⟨w.heap.size,1,none⟩=some (.int .i64 P):=by rw [Lib.cell_of_heap q4];rfl
  refine bodyPost_ret (v:=.agg #[.int .i64 E,.int .i64 P]) ?_ q3 ⟨E,P,rfl,q5,q6⟩
  simp only [results,Tryz.results123]
  have q2':a'.tmps[2]?.getD undef=.pointer (some ⟨w.heap.size,0,none⟩):=by rw [← Array.getD_eq_getD_getElem?];exact q2
  simp [go_sem,q2',c0,c1]
 have HRET:=hide hret
 have hb0:Below w.heap.size w (((w.alloc (.cells #[.int .i64 0,.int .i64 0] 28)).alloc (.cells #[.int .u8 0,.int .u32 0,.string ⟨#[]⟩] 87)).alloc (.cells #[.int .i64 0,.int .i64 0] 28)):=(((Below.refl _ w).alloc (Nat.le_refl _) _).alloc (by simp) _).alloc (by simp;omega) _
 have hS:ReaS w B (((w.alloc (.cells #[.int .i64 0,.int .i64 0] 28)).alloc (.cells #[.int .u8 0,.int .u32 0,.string ⟨#[]⟩] 87)).alloc (.cells #[.int .i64 0,.int .i64 0] 28)):=by
  refine ⟨?_,⟨.int .u8 0,.int .u32 0,.string ⟨#[]⟩,?_⟩,⟨.int .i64 0,.int .i64 0,?_⟩,grown_below2 hb0 _⟩
  ·rw [Below.heap_alloc _ _ _ (by simp;omega),Below.heap_alloc _ _ _ (by simp)];exact heap_alloc_new w _
  ·rw [Below.heap_alloc _ _ _ (by simp)];simpa using heap_alloc_new (w.alloc (.cells #[.int .i64 0,.int .i64 0] 28)) (.cells #[.int .u8 0,.int .u32 0,.string ⟨#[]⟩] 87)
  ·simpa using heap_alloc_new ((w.alloc (.cells #[.int .i64 0,.int .i64 0] 28)).alloc (.cells #[.int .u8 0,.int .u32 0,.string ⟨#[]⟩] 87)) (.cells #[.int .i64 0,.int .i64 0] 28)
 have hR0:=hR.below hb0
 have hv0:=hv.below hb0
 have HS:=hide hS
 have HR:=hide hR0
 have HV0:=hide hv0
 have HV:=hide hv
 have HIN:=hide hin
 have HKD:=hide hkd
 have HFAR:=hide hfar
 have HLL:=hide hl
 have HRR:=hide hRR
 clear hret hb0 hS hR hR0 hv0 hv hin hkd hfar hRR
 go_enter Tryz.func123,Tryz.ntmps123
 go_wp2_with fail
 refine wp_scope_ranked (ReadJ w B a n c len b l R) (ReadM B n) (fun l=>if l=2 then 0 else if l=3 then 1 else if l=1 then 2 else 3) ?hf ?pass ?first
 case hf =>
  intro l a w1 hJ
  match l,hJ with
  | 0,_=>rfl
  | 1,_=>rfl
  | 2,_=>rfl
  | 3,_=>rfl
 case pass =>
  intro l' hprev N a1 w1 hJ hN
  match l',hJ with
  | 0,hJ=>exact read_op w B a n c len b l R _ hB hl hn HIN.out HKD.out HV.out HFAR.out h1 HRET.out (hprev 1 (by decide)) N a1 w1 hJ hN
  | 1,hJ=>exact read_args w B a n c len b l R _ hB hn (hprev 3 (by decide)) N a1 w1 hJ hN
  | 2,hJ=>exact read_end w B a n c len b l R _ _ hB hl hn HIN.out HRET.out a1 w1 hJ
  | 3,hJ=>exact read_next w B a n c len b l R _ hB hl hn HIN.out HKD.out HV.out HFAR.out HRET.out N a1 w1 hJ hN
 case first =>
  intro hP
  have HP:=hide hP
  clear hP
  have hSy:=says_any B a n c 0 len _ _ l _ HR.out HV0.out hl h1
  by_cases h2:(nthT l 0).1=2
  ·rw [show ((nthT l 0).1 == 2)=true by simpa using h2] at hSy
   go_wp2_with fail
   generalize ((w.alloc (.cells #[.int .i64 0,.int .i64 0] 28)).alloc (.cells #[.int .u8 0,.int .u32 0,.string ⟨#[]⟩] 87)).alloc (.cells #[.int .i64 0,.int .i64 0] 28)=W at *
   have hc1:W.cell? ⟨B,1,none⟩=some (.int .i64 0):=(blk_cells HR.out.block).1 1
   have hf1:W.frozen? ⟨B,1,none⟩=false:=(blk_cells HR.out.block).2 1
   have HT:=hide (take_any7 B a n c 1 len _ _ l 5 (W.setCell ⟨B,1,none⟩ (.int .i64 1)) HR.out.setNext (toks_kept HV0.out (grown_set (World.grownBy.refl W (some B)) 1 _) HFAR.out) hl hn (by omega))
   have HS1:=hide (HS.out.setB hB 1 (.int .i64 1))
   refine hSy.mono ?_
   rintro e w' ⟨rfl,rfl⟩
   clear hSy
   go_wp2_with fail
   generalize W.setCell ⟨B,1,none⟩ (.int .i64 1)=W1 at *
   have HQ:=hide (show takeQ l 1 5 len=takeQ l 1 5 len from rfl)
   obtain ⟨A,hA⟩:∃ A,A=takeQ l 1 5 len:=⟨_,rfl⟩
   have hT:=HT.out
   rw [← hA] at hT
   have HA:=hide hA
   clear hA HT hc1 hf1 HQ
   obtain ⟨⟨A1,A2,A3⟩,E,P⟩:=A
   unfold tokV at hT
   simp only at hT
   refine hT.mono ?_
   rintro e w2 ⟨rfl,hg2,hr2⟩
   have S2:=HS1.out.next hB hg2
   obtain ⟨y0,y1,hy⟩:=S2.spot
   obtain ⟨cy,fy⟩:=blk_cells hy
   have by0:=cy 0
   have by1:=cy 1
   obtain ⟨S3,k3,b3⟩:=S2.spotted (.int .i64 E) (.int .i64 P)
   have HS3:=hide S3
   by_cases hE:E=0
   ·subst hE
    have HL:Hid (R=lineO ((nthT l 0).1 == 2) l 2 len b∧2≤n):=by
     show _∧_
     rw [HRR.out,show ((nthT l 0).1 == 2)=true by simpa using h2]
     have hh:=HA.out
     unfold takeQ at hh
     unfold lineP
     rw [if_neg (by simpa using h2)]
     by_cases hq:l.length≤1
     ·rw [if_pos hq] at hh
      simp only [Prod.mk.injEq] at hh
      omega
     ·rw [if_neg hq] at hh
      rw [if_neg (by omega)]
      by_cases hz:(nthT l 1).1=5
      ·rw [if_neg (by simpa using hz)]
       exact ⟨rfl,by omega⟩
      ·rw [if_pos hz] at hh
       simp only [Prod.mk.injEq] at hh
       omega
    have HRD:=hide ((show Rea w2 B a n c 2 len b 0 noFrm 0 0 0 (.slice none 0 0) 0 from hr2 rfl).belowAt b3 (by omega))
    clear hT S2 hy cy S3 k3 b3 hg2 hr2 HS HS1 HR HV0 HA
    go_wp2_with fail
    generalize (w2.setCell ⟨w.heap.size+2,0,none⟩ (.int .i64 0)).setCell ⟨w.heap.size+2,1,none⟩ (.int .i64 P)=Y at *
    refine wp_label ?_
    rename_i Kx hKx
    exact hKx _ _ (HP.out 0 _ Y ⟨2,⟨_,rfl,rfl,rfl,rfl,rfl,rfl⟩,HS3.out,HRD.out,HL.out.2,HL.out.1⟩)
   ·have hE1:(E != 0)=true:=by simpa using hE
    have HE0:=hide hE
    have HR0:Hid (R=noLine E P):=by
     show _=_
     rw [HRR.out]
     have hh:=HA.out
     unfold takeQ at hh
     unfold lineP
     rw [if_neg (by simpa using h2)]
     by_cases hq:l.length≤1
     ·rw [if_pos hq] at hh
      simp only [Prod.mk.injEq] at hh
      rw [if_pos (by omega),hh.2.1,hh.2.2]
     ·rw [if_neg hq] at hh
      rw [if_neg (by omega)]
      by_cases hz:(nthT l 1).1=5
      ·rw [if_neg (by simpa using hz)] at hh
       simp only [Prod.mk.injEq] at hh
       exact absurd hh.2.1 hE
      ·rw [if_pos hz] at hh ⊢
       simp only [Prod.mk.injEq] at hh
       rw [hh.2.1,hh.2.2]
    obtain ⟨cq,fq⟩:=blk_cells S2.res
    have r0:=cq 0
    have r1:=cq 1
    obtain ⟨x1,x2⟩:=two_putB S3.res (.int .i64 E) (.int .i64 P)
    have HG:=hide (grown_put S3.grown x2)
    have HX1:=hide x1
    clear hT S2 hy cy cq S3 k3 b3 hg2 hr2 HS HS1 HR HV0 HA x1 x2 hE HP
    go_wp2_with fail
    generalize (((w2.setCell ⟨w.heap.size+2,0,none⟩ (.int .i64 E)).setCell ⟨w.heap.size+2,1,none⟩ (.int .i64 P)).setCell ⟨w.heap.size,0,none⟩ (.int .i64 E)).setCell ⟨w.heap.size,1,none⟩ (.int .i64 P)=Z at *
    rw [jumps_ret]
    exact HRET.out _ Z E P rfl rfl HX1.out HG.out (.inl ⟨HE0.out,HR0.out⟩)
  ·rw [show ((nthT l 0).1 == 2)=false by simpa using h2] at hSy
   have HL:Hid (R=lineO ((nthT l 0).1 == 2) l 0 len b):=by
    show _=_
    rw [HRR.out,show ((nthT l 0).1 == 2)=false by simpa using h2]
    unfold lineP
    rw [if_pos h2]
   go_wp2_with fail
   generalize ((w.alloc (.cells #[.int .i64 0,.int .i64 0] 28)).alloc (.cells #[.int .u8 0,.int .u32 0,.string ⟨#[]⟩] 87)).alloc (.cells #[.int .i64 0,.int .i64 0] 28)=W at *
   refine hSy.mono ?_
   rintro e w' ⟨rfl,rfl⟩
   clear hSy
   go_wp2_with fail
   go_step3
   exact ⟨0,⟨_,rfl,rfl,rfl,rfl,rfl,rfl⟩,HS.out,HR.out,Nat.zero_le _,HL.out⟩
set_option maxHeartbeats 2000000 in
/-- Where the token is not taken. -/
theorem number_bad (B:Nat) (w:World) (e p:Int) (he:e≠0)
  (hT:∀ wx,Below w.heap.size w wx→Calls Tryz.prog 145 #[.pointer (some ⟨B,0,none⟩),.int .u8 3] wx fun x w'=>x=.returned (.tuple #[tokV noTok,.agg #[.int .i64 e,.int .i64 p]])∧Below wx.heap.size wx w') :
  Calls Tryz.prog 147 #[.pointer (some ⟨B,0,none⟩)] w fun x w'=>x=.returned (.tuple #[.int .u32 0,tokV noTok,.agg #[.int .i64 e,.int .i64 p]])∧Below w.heap.size w w':=by
 have he':(e != 0)=true:=by simp [he]
 obtain ⟨kT,kS,hb⟩:=tok_spot_boxes w
 have hC:=hT _ hb
 unfold tokV noTok at hC ⊢
 clear hT he
 go_enter Tryz.func147,Tryz.ntmps147
 go_wp2_with fail
 generalize (w.alloc (.cells #[.int .u8 0,.string ⟨#[]⟩,.int .i64 0] 41)).alloc (.cells #[.int .i64 0,.int .i64 0] 28)=W at *
 refine hC.mono ?_
 rintro x w1 ⟨rfl,hb1⟩
 have hba:Below w1.heap.size w1 ((w1.alloc (.cells #[.int .u8 0,.string ⟨#[]⟩,.int .i64 0] 41)).alloc (.cells #[.int .i64 e,.int .i64 p] 28)):=((Below.refl _ w1).alloc (Nat.le_refl _) _).alloc (by simp) _
 have hb1a:=hb1.trans (hba.mono hb1.size)
 have sS:=(Array.getElem?_eq_some_iff.1 kS).1
 have s1:w.heap.size+1 < w1.heap.size:=Nat.lt_of_lt_of_le sS hb1.size
 have HT:=hide ((hb1a.block _ (by omega)).trans kT)
 have HS:=hide ((hb1a.block _ sS).trans kS)
 have HB:=hide (hb.trans (hb1a.mono hb.size))
 have kA:((w1.alloc (.cells #[.int .u8 0,.string ⟨#[]⟩,.int .i64 0] 41)).alloc (.cells #[.int .i64 e,.int .i64 p] 28)).heap[w1.heap.size]?=some (.cells #[.int .u8 0,.string ⟨#[]⟩,.int .i64 0] 41 (0,0)):=(Below.heap_alloc _ _ _ (by simp)).trans (heap_alloc_new w1 _)
 have kC:((w1.alloc (.cells #[.int .u8 0,.string ⟨#[]⟩,.int .i64 0] 41)).alloc (.cells #[.int .i64 e,.int .i64 p] 28)).heap[w1.heap.size+1]?=some (.cells #[.int .i64 e,.int .i64 p] 28 (0,0)):=by simpa using heap_alloc_new (w1.alloc (.cells #[.int .u8 0,.string ⟨#[]⟩,.int .i64 0] 41)) (.cells #[.int .i64 e,.int .i64 p] 28)
 have HA:=hide kA
 have HC:=hide kC
 clear hC hb1 hba hb1a kT kS hb sS kA kC
 go_wp2_with fail
 generalize (w1.alloc (.cells #[.int .u8 0,.string ⟨#[]⟩,.int .i64 0] 41)).alloc (.cells #[.int .i64 e,.int .i64 p] 28)=W2 at *
 obtain ⟨cz,_⟩:=blk_cells HA.out
 obtain ⟨cy,_⟩:=blk_cells HC.out
 obtain ⟨ct,ft⟩:=blk_cells HT.out
 obtain ⟨cp,fp⟩:=blk_cells HS.out
 have y0:=cz 0
 have y1:=cz 1
 have y2:=cz 2
 have v0:=cy 0
 have v1:=cy 1
 have t0:=ct 0
 have t1:=ct 1
 have t2:=ct 2
 have p0:=cp 0
 have p1:=cp 1
 obtain ⟨x1,x2,x3⟩:=five_drew HT.out HS.out (.int .u8 0) (.string ⟨#[]⟩) (.int .i64 0) (.int .i64 e) (.int .i64 p)
 have HY:=hide (HB.out.trans x3)
 have HY1:=hide x1
 have HY2:=hide x2
 have n1:w1.heap.size≠w.heap.size:=by omega
 have n2:w1.heap.size+1≠w.heap.size:=by omega
 have n3:w1.heap.size≠w.heap.size+1:=by omega
 have n4:w1.heap.size+1≠w.heap.size+1:=by omega
 clear x1 x2 x3 cz cy ct cp HT HS HA HC HB
 go_region
 generalize (((((W2.setCell ⟨w.heap.size,0,none⟩ (.int .u8 0)).setCell ⟨w.heap.size,1,none⟩ (.string ⟨#[]⟩)).setCell ⟨w.heap.size,2,none⟩ (.int .i64 0)).setCell ⟨w.heap.size+1,0,none⟩ (.int .i64 e)).setCell ⟨w.heap.size+1,1,none⟩ (.int .i64 p)).drew=X at *
 clear y0 y1 y2 v0 v1 t0 t1 t2 p0 p1 ft fp
 go_wp2
 obtain ⟨e1,_⟩:=blk_cells HY1.out
 obtain ⟨e2,_⟩:=blk_cells HY2.out
 have a0:=e1 0
 have a1:=e1 1
 have a2:=e1 2
 have b0:=e2 0
 have b1:=e2 1
 refine bodyPost_ret (v:=.tuple #[.int .u32 0,.agg #[.int .u8 0,.string ⟨#[]⟩,.int .i64 0],.agg #[.int .i64 e,.int .i64 p]]) ?_ rfl ⟨rfl,HY.out⟩
 simp [results,Tryz.results147,go_sem,a0,a1,a2,b0,b1]
set_option maxHeartbeats 4000000 in
/-- Where it is. -/
theorem number_ok (B:Nat) (a:Option Addr) (n c k:Nat) (len:Int) (rest:Array Value) (T:Nat) (l:List TokT) (w:World) (h:RowAt w B a n c k len rest T) (hv:ToksV w a l) (hl:l.length=n) (hn:32 * n≤140737488351232) (hk:k < n) (hkd:(nthT l k).1=3) (hsz:(nthT l k).2.1.size≤140737488351232) :
  Calls Tryz.prog 147 #[.pointer (some ⟨B,0,none⟩)] w fun x w'=>x=.returned (.tuple #[.int .u32 (numOut (strI (nthT l k).2.1)),tokV (nthT l k),.agg #[.int .i64 (numErr (strI (nthT l k).2.1)),.int .i64 (fltA (numErr (strI (nthT l k).2.1)) (nthT l k).2.2)]])∧RowAt w' B a n c (k+1) len rest T∧w.grownBy w' (some B):=by
 obtain ⟨kT,kS,hb⟩:=tok_spot_boxes w
 have hC:=take_ok B a n c k len rest T l 3 _ (h.below hb) (hv.below hb) hl hn hk hkd
 have hlt:=h.lt
 have hN:=fun wx=>lexNumber_any (nthT l k).2.1 wx hsz
 have hFA:=fun wx=>faultAt_any (nthT l k) (numErr (strI (nthT l k).2.1)) wx
 generalize numErr (strI (nthT l k).2.1)=ne at *
 generalize numOut (strI (nthT l k).2.1)=no at *
 generalize nthT l k=z at *
 obtain ⟨z1,z2,z3⟩:=z
 unfold tokV at hC hFA ⊢
 simp only at hC hFA hN ⊢
 generalize fltA ne z3=fp0 at *
 clear h hv hl hn hk hkd hsz
 go_enter Tryz.func147,Tryz.ntmps147
 go_wp2_with fail
 generalize (w.alloc (.cells #[.int .u8 0,.string ⟨#[]⟩,.int .i64 0] 41)).alloc (.cells #[.int .i64 0,.int .i64 0] 28)=W at *
 refine hC.mono ?_
 rintro x w1 ⟨rfl,hR1,hg1⟩
 have hba:Below w1.heap.size w1 ((w1.alloc (.cells #[.int .u8 z1,.string z2,.int .i64 z3] 41)).alloc (.cells #[.int .i64 0,.int .i64 0] 28)):=((Below.refl _ w1).alloc (Nat.le_refl _) _).alloc (by simp) _
 have sS:=(Array.getElem?_eq_some_iff.1 kS).1
 have s1:w.heap.size+1 < w1.heap.size:=Nat.lt_of_lt_of_le sS hg1.size
 have HT:=hide ((hba.block _ (by omega)).trans ((hg1.block _ (by omega) (by simp;omega)).trans kT))
 have HS:=hide ((hba.block _ s1).trans ((hg1.block _ sS (by simp;omega)).trans kS))
 have hg:w.grownBy ((w1.alloc (.cells #[.int .u8 z1,.string z2,.int .i64 z3] 41)).alloc (.cells #[.int .i64 0,.int .i64 0] 28)) (some B) :=
  ⟨hba.os.trans (hg1.os.trans hb.os),hba.tape.trans (hg1.tape.trans hb.tape),hba.output.trans (hg1.output.trans hb.output),Nat.le_trans hb.size (Nat.le_trans hg1.size hba.size),fun j hj hr=>(hba.block j (by omega)).trans ((hg1.block j (Nat.lt_of_lt_of_le hj hb.size) hr).trans (hb.block j hj))⟩
 have HG:=hide hg
 have HR:=hide (hR1.below hba)
 have kA:((w1.alloc (.cells #[.int .u8 z1,.string z2,.int .i64 z3] 41)).alloc (.cells #[.int .i64 0,.int .i64 0] 28)).heap[w1.heap.size]?=some (.cells #[.int .u8 z1,.string z2,.int .i64 z3] 41 (0,0)):=(Below.heap_alloc _ _ _ (by simp)).trans (heap_alloc_new w1 _)
 have HA:=hide kA
 have sA:w1.heap.size+1 < ((w1.alloc (.cells #[.int .u8 z1,.string z2,.int .i64 z3] 41)).alloc (.cells #[.int .i64 0,.int .i64 0] 28)).heap.size:=by simp
 clear hC hg1 hR1 hba kT kS hb sS kA hg
 go_wp2_with fail
 generalize (w1.alloc (.cells #[.int .u8 z1,.string z2,.int .i64 z3] 41)).alloc (.cells #[.int .i64 0,.int .i64 0] 28)=W2 at *
 refine (hN _).mono ?_
 rintro x w' ⟨rfl,rfl⟩
 clear hN
 obtain ⟨cz,_⟩:=blk_cells HA.out
 obtain ⟨ct,ft⟩:=blk_cells HT.out
 obtain ⟨cp,fp⟩:=blk_cells HS.out
 have y0:=cz 0
 have y1:=cz 1
 have y2:=cz 2
 have t0:=ct 0
 have t1:=ct 1
 have t2:=ct 2
 have p0:=cp 0
 have p1:=cp 1
 have n1:w1.heap.size≠w.heap.size:=by omega
 have n3:w1.heap.size≠w.heap.size+1:=by omega
 have sw:w.heap.size+1 < W2.heap.size:=by omega
 have sw2:w.heap.size < W2.heap.size:=by omega
 clear cz ct cp
 go_wp2_with fail
 go_region_with ((go_at_call 146;refine (hFA _).mono ?_;rintro x w3 ⟨rfl,hbx⟩;have m0:=hbx.cell (p:=⟨w.heap.size,0,none⟩) (by simp;omega);have m1:=hbx.cell (p:=⟨w.heap.size,1,none⟩) (by simp;omega);have m2:=hbx.cell (p:=⟨w.heap.size,2,none⟩) (by simp;omega);have m3:=hbx.cell (p:=⟨w.heap.size+1,0,none⟩) (by simp;omega);have m4:=hbx.cell (p:=⟨w.heap.size+1,1,none⟩) (by simp;omega);have m5:=hbx.frozen (p:=⟨w.heap.size,0,none⟩) (by simp;omega);have m6:=hbx.frozen (p:=⟨w.heap.size,1,none⟩) (by simp;omega);have m7:=hbx.frozen (p:=⟨w.heap.size,2,none⟩) (by simp;omega);have m8:=hbx.frozen (p:=⟨w.heap.size+1,0,none⟩) (by simp;omega);have m9:=hbx.frozen (p:=⟨w.heap.size+1,1,none⟩) (by simp;omega);have l0:=hbx.cell (p:=⟨w1.heap.size,0,none⟩) (by simp;omega);have l1:=hbx.cell (p:=⟨w1.heap.size,1,none⟩) (by simp;omega);have l2:=hbx.cell (p:=⟨w1.heap.size,2,none⟩) (by simp;omega);have HBX:=hide hbx))
 all_goals
  have hbx:=HBX.out
  have sB:=HR.out.lt
  have kT3:=(hbx.block w.heap.size (by simp;omega)).trans HT.out
  have kS3:=(hbx.block (w.heap.size+1) (by simp;omega)).trans HS.out
  have hR3:=(hbx.block B (by simp;omega)).trans HR.out
  have hg3:w.grownBy w3 (some B):=⟨hbx.os.trans HG.out.os,hbx.tape.trans HG.out.tape,hbx.output.trans HG.out.output,Nat.le_trans HG.out.size hbx.size,fun j hj hr=>(hbx.block j (by simp;omega)).trans (HG.out.block j hj hr)⟩
  obtain ⟨x1,x2,x3⟩:=five_put kT3 kS3 (.int .u8 z1) (.string z2) (.int .i64 z3) (.int .i64 ne) (.int .i64 fp0)
  have hRX:=(x3.block B hlt).trans hR3
  have hgX:=grown_put hg3 x3
  have HRX:=hide hRX
  have HGX:=hide hgX
  have HY1:=hide x1
  have HY2:=hide x2
  clear hbx kT3 kS3 hR3 hg3 x1 x2 x3 hRX hgX m0 m1 m2 m3 m4 m5 m6 m7 m8 m9 l0 l1 l2 HBX y0 y1 y2 t0 t1 t2 p0 p1 ft fp HT HS HR HG HA hFA
  generalize ((((w3.setCell ⟨w.heap.size,0,none⟩ (.int .u8 z1)).setCell ⟨w.heap.size,1,none⟩ (.string z2)).setCell ⟨w.heap.size,2,none⟩ (.int .i64 z3)).setCell ⟨w.heap.size+1,0,none⟩ (.int .i64 ne)).setCell ⟨w.heap.size+1,1,none⟩ (.int .i64 fp0)=X at *
  go_wp2
  obtain ⟨e1,_⟩:=blk_cells HY1.out
  obtain ⟨e2,_⟩:=blk_cells HY2.out
  have a0:=e1 0
  have a1:=e1 1
  have a2:=e1 2
  have b0:=e2 0
  have b1:=e2 1
  refine bodyPost_ret (v:=.tuple #[.int .u32 no,.agg #[.int .u8 z1,.string z2,.int .i64 z3],.agg #[.int .i64 ne,.int .i64 fp0]]) ?_ rfl ⟨rfl,HRX.out,HGX.out⟩
  simp [results,Tryz.results147,go_sem,a0,a1,a2,b0,b1]
end Go.Proofs.YtddkapkkjhomkabGreatDoor
namespace Go.Proofs.YtddkapkkjhomkabGreatDoor
open Go.RowKit

theorem str_injA {a b:ByteArray} (h:a.toList=b.toList):a=b:=by
 rw [ByteArray.toList_eq,ByteArray.toList_eq] at h
 cases a;cases b;simp_all
theorem mod_list:moduleS.toList=[109,111,100,117,108,101]:=by rw [ByteArray.toList_eq];rfl
theorem four_putX {W:World} {b T S:Nat} {x0 x1 y0 y1:Value} (kT:W.heap[b]?=some (.cells #[x0,x1] T (0,0))) (kS:W.heap[b+1]?=some (.cells #[y0,y1] S (0,0))) (u0 u1 v0 v1:Value) :
  ((((W.setCell ⟨b,0,none⟩ u0).setCell ⟨b,1,none⟩ u1).setCell ⟨b+1,0,none⟩ v0).setCell ⟨b+1,1,none⟩ v1).heap[b]?=some (.cells #[u0,u1] T (0,0))∧((((W.setCell ⟨b,0,none⟩ u0).setCell ⟨b,1,none⟩ u1).setCell ⟨b+1,0,none⟩ v0).setCell ⟨b+1,1,none⟩ v1).heap[b+1]?=some (.cells #[v0,v1] S (0,0))∧Below b W ((((W.setCell ⟨b,0,none⟩ u0).setCell ⟨b,1,none⟩ u1).setCell ⟨b+1,0,none⟩ v0).setCell ⟨b+1,1,none⟩ v1):=by
 refine ⟨?_,?_,?_⟩
 ·simp only [World.setCell,Array.getElem?_modify,kT];simp
 ·simp only [World.setCell,Array.getElem?_modify,kS];simp
 ·exact ((((Below.refl b W).setCell (Nat.le_refl _) _).setCell (Nat.le_refl _) _).setCell (by simp) _).setCell (by simp) _
theorem four_drew {W:World} {b T S:Nat} {x0 x1 y0 y1:Value} (kT:W.heap[b]?=some (.cells #[x0,x1] T (0,0))) (kS:W.heap[b+1]?=some (.cells #[y0,y1] S (0,0))) (u0 u1 v0 v1:Value) :
  (((((W.setCell ⟨b,0,none⟩ u0).setCell ⟨b,1,none⟩ u1).setCell ⟨b+1,0,none⟩ v0).setCell ⟨b+1,1,none⟩ v1).drew).heap[b]?=some (.cells #[u0,u1] T (0,0))∧(((((W.setCell ⟨b,0,none⟩ u0).setCell ⟨b,1,none⟩ u1).setCell ⟨b+1,0,none⟩ v0).setCell ⟨b+1,1,none⟩ v1).drew).heap[b+1]?=some (.cells #[v0,v1] S (0,0))∧Below b W (((((W.setCell ⟨b,0,none⟩ u0).setCell ⟨b,1,none⟩ u1).setCell ⟨b+1,0,none⟩ v0).setCell ⟨b+1,1,none⟩ v1).drew):=by
 obtain ⟨h1,h2,h3⟩:=four_putX kT kS u0 u1 v0 v1
 generalize (((W.setCell ⟨b,0,none⟩ u0).setCell ⟨b,1,none⟩ u1).setCell ⟨b+1,0,none⟩ v0).setCell ⟨b+1,1,none⟩ v1=Y at *
 exact ⟨h1,h2,h3.drew⟩
structure HeadS (w : World) (B : Nat) (a : Option Addr) (n c : Nat) (len : Int) (rest : Array Value) (T : Nat) (l : List TokT) (k : Nat) (W : World) : Prop where
  row : RowAt W B a n c k len rest T
  toks : ToksV W a l
  grown : w.grownBy W (some B)
  head : W.heap[w.heap.size]? = some (.cells #[.int .u32 0, .int .u32 0] 100 (0, 0))
  spot : W.heap[w.heap.size + 1]? = some (.cells #[.int .i64 0, .int .i64 0] 28 (0, 0))
  lt : B < w.heap.size
  far : ∀ b off, a = some ⟨b, off, none⟩ → b ≠ B ∧ b < w.heap.size
section
variable {w : World} {B : Nat} {a : Option Addr} {n c k k' : Nat} {len : Int} {rest : Array Value} {T : Nat} {l : List TokT} {W W' : World}
theorem HeadS.size (h:HeadS w B a n c len rest T l k W):w.heap.size+1 < W.heap.size:=(Array.getElem?_eq_some_iff.1 h.spot).1
theorem HeadS.below (h:HeadS w B a n c len rest T l k W) (hb:Below W.heap.size W W'):HeadS w B a n c len rest T l k W' :=
 ⟨h.row.below hb,h.toks.below hb,⟨hb.os.trans h.grown.os,hb.tape.trans h.grown.tape,hb.output.trans h.grown.output,Nat.le_trans h.grown.size hb.size,fun j hj hr=>(hb.block j (Nat.lt_of_lt_of_le hj h.grown.size)).trans (h.grown.block j hj hr)⟩,(hb.block _ (Array.getElem?_eq_some_iff.1 h.head).1).trans h.head,(hb.block _ h.size).trans h.spot,h.lt,h.far⟩
theorem HeadS.next (h:HeadS w B a n c len rest T l k W) (hs:W.heap.size≤W'.heap.size) (hk:∀ j,j < w.heap.size+2→j≠B→W'.heap[j]?=W.heap[j]?) (hos:W'.os=W.os) (htp:W'.tape=W.tape) (hout:W'.output=W.output) (hR:RowAt W' B a n c k' len rest T):HeadS w B a n c len rest T l k' W':=by
 have hl:=h.lt
 refine ⟨hR,?_,⟨hos.trans h.grown.os,htp.trans h.grown.tape,hout.trans h.grown.output,Nat.le_trans h.grown.size hs,fun j hj hr=>(hk j (by omega) (by simpa using hr)).trans (h.grown.block j hj hr)⟩,(hk _ (by omega) (by omega)).trans h.head,(hk _ (by omega) (by omega)).trans h.spot,h.lt,h.far⟩
 intro j hj
 obtain ⟨b,off,e,hb,h1,h2,h3⟩:=h.toks j hj
 obtain ⟨f1,f2⟩:=h.far b off e
 have hx:=hk b (by omega) f1
 refine ⟨b,off,e,by omega,?_,?_,?_⟩
 ·simp only [World.cell?,hx] at h1 ⊢;exact h1
 ·simp only [World.cell?,hx] at h2 ⊢;exact h2
 ·simp only [World.cell?,hx] at h3 ⊢;exact h3
theorem HeadS.grow (h:HeadS w B a n c len rest T l k W) (hg:W.grownBy W' (some B)) (hR:RowAt W' B a n c k' len rest T):HeadS w B a n c len rest T l k' W' :=
 h.next hg.size (fun j hj hn=>hg.block j (by have:=h.size;omega) (by simpa using hn)) hg.os hg.tape hg.output hR
theorem HeadS.set (h:HeadS w B a n c len rest T l k W) {g:Nat} (hg:w.heap.size+2≤g) (i:Nat) (v:Value):HeadS w B a n c len rest T l k (W.setCell ⟨g,i,none⟩ v):=by
 have hl:=h.lt
 exact h.next (by simp) (fun j hj _=>Below.heap_setCell _ _ _ _ (by simp;omega)) rfl rfl rfl ((Below.heap_setCell _ _ _ _ (by simp;omega)).trans h.row)
end

theorem head_new (w:World) (B:Nat) (a:Option Addr) (n c:Nat) (len:Int) (rest:Array Value) (T:Nat) (l:List TokT) (k:Nat) (h:RowAt w B a n c k len rest T) (hv:ToksV w a l) (hfar:∀ b off,a=some ⟨b,off,none⟩→b≠B∧b < w.heap.size) :
  HeadS w B a n c len rest T l k ((w.alloc (.cells #[.int .u32 0,.int .u32 0] 100)).alloc (.cells #[.int .i64 0,.int .i64 0] 28)):=by
 have hb:Below w.heap.size w ((w.alloc (.cells #[.int .u32 0,.int .u32 0] 100)).alloc (.cells #[.int .i64 0,.int .i64 0] 28)):=((Below.refl _ w).alloc (Nat.le_refl _) _).alloc (by simp) _
 exact ⟨h.below hb,hv.below hb,grown_below2 hb _,(Below.heap_alloc _ _ _ (by simp)).trans (heap_alloc_new w _),by simpa using heap_alloc_new (w.alloc (.cells #[.int .u32 0,.int .u32 0] 100)) (.cells #[.int .i64 0,.int .i64 0] 28),h.lt,hfar⟩
def numQ (l:List TokT) (k:Nat) (len:Int):Int × TokT × Int × Int :=
 if l.length≤k then (0,noTok,72,len) else if (nthT l k).1≠3 then (0,noTok,70,(nthT l k).2.2)
 else (numOut (strI (nthT l k).2.1),nthT l k,numErr (strI (nthT l k).2.1),fltA (numErr (strI (nthT l k).2.1)) (nthT l k).2.2)
theorem number_any7 (B:Nat) (a:Option Addr) (n c k:Nat) (len:Int) (rest:Array Value) (T:Nat) (l:List TokT) (w:World) (h:RowAt w B a n c k len rest T) (hv:ToksV w a l) (hl:l.length=n) (hn:32 * n≤140737488351232) (hin:ToksIn l) (hk:k≤n) :
  Calls Tryz.prog 147 #[.pointer (some ⟨B,0,none⟩)] w fun x w'=>x=.returned (.tuple #[.int .u32 (numQ l k len).1,tokV (numQ l k len).2.1,.agg #[.int .i64 (numQ l k len).2.2.1,.int .i64 (numQ l k len).2.2.2]])∧w.grownBy w' (some B)∧∃ k',RowAt w' B a n c k' len rest T∧((numQ l k len).2.2.1=0→k'=k+1):=by
 unfold numQ
 by_cases h1:l.length≤k
 ·obtain rfl:k=n:=by omega
  rw [if_pos h1]
  refine (number_bad B w 72 len (by decide) fun wx hb=>take_early B a k c len rest T 3 wx (h.below hb)).mono ?_
  rintro x w' ⟨rfl,hb⟩
  exact ⟨rfl,grown_below2 hb _,k,h.below hb,fun h=>by simp at h⟩
 ·rw [if_neg h1]
  by_cases h2:(nthT l k).1=3
  ·rw [if_neg (by simp [h2])]
   refine (number_ok B a n c k len rest T l w h hv hl hn (by omega) h2 (hin k (by omega)).2.2.1).mono ?_
   rintro x w' ⟨rfl,hR,hg⟩
   exact ⟨rfl,hg,k+1,hR,fun _=>rfl⟩
  ·rw [if_pos h2]
   refine (number_bad B w 70 (nthT l k).2.2 (by decide) fun wx hb=>take_wrong B a n c k len rest T l 3 wx (h.below hb) (hv.below hb) hl hn (by omega) h2).mono ?_
   rintro x w' ⟨rfl,hb⟩
   exact ⟨rfl,grown_below2 hb _,k,h.below hb,fun h=>by simp at h⟩
theorem numQ_zero {l:List TokT} {k:Nat} {len:Int} (h:(numQ l k len).2.2.1=0):k < l.length∧numP (nthT l k)=0∧(numQ l k len).1=numV (strI (nthT l k).2.1)∧(numQ l k len).2.1=nthT l k∧0≤(numQ l k len).1∧(numQ l k len).1 < 4294967296∧(numQ l k len).2.2.2=0:=by
 unfold numQ at *
 by_cases h1:l.length≤k
 ·rw [if_pos h1] at h;simp at h
 ·rw [if_neg h1] at h ⊢
  by_cases h2:(nthT l k).1=3
  ·rw [if_neg (by simp [h2])] at h ⊢
   simp only at h ⊢
   have hb:=numErr_zero h
   obtain ⟨e1,e2,e3,e4⟩:=numV_ok hb
   refine ⟨by omega,?_,e2,by first | rfl | trivial,by rw [e2];exact e3,by rw [e2];exact e4,by rw [h];rfl⟩
   unfold numP;rw [if_neg (by simp [h2])];exact h
  ·rw [if_pos h2] at h;simp at h
theorem numQ_not {l:List TokT} {k:Nat} {len:Int} (h:(numQ l k len).2.2.1≠0):(l.length≤k∧(numQ l k len).2.2=(72,len)) ∨ (k < l.length∧numP (nthT l k)≠0∧(numQ l k len).2.2=(numP (nthT l k),(nthT l k).2.2)):=by
 unfold numQ at *
 by_cases h1:l.length≤k
 ·rw [if_pos h1];exact .inl ⟨by first | exact h1 | trivial,rfl⟩
 ·rw [if_neg h1] at h ⊢
  right
  by_cases h2:(nthT l k).1=3
  ·rw [if_neg (by simp [h2])] at h ⊢
   simp only at h ⊢
   have e:numP (nthT l k)=numErr (strI (nthT l k).2.1):=by unfold numP;rw [if_neg (by simp [h2])]
   rw [e]
   refine ⟨by omega,h,?_⟩
   unfold fltA;rw [if_neg h]
  ·rw [if_pos h2]
   have e:numP (nthT l k)=70:=by unfold numP;rw [if_pos h2]
   rw [e];exact ⟨by omega,by decide,rfl⟩
theorem headP_num {l:List TokT} {len:Int} (h1:¬ l.length < 1) (h2:(nthT l 0).1=1∧(nthT l 0).2.1=moduleS) :
  headP l len=if (numQ l 1 len).2.2.1≠0 then (0,0,(numQ l 1 len).2.2.1,(numQ l 1 len).2.2.2) else if (numQ l 2 len).2.2.1≠0 then (0,0,(numQ l 2 len).2.2.1,(numQ l 2 len).2.2.2)
   else if (numQ l 2 len).1=0 ∨ 65536 < (numQ l 2 len).1 then (0,0,24,(numQ l 2 len).2.1.2.2) else if 3 < l.length then (0,0,70,(nthT l 3).2.2) else ((numQ l 1 len).1,(numQ l 2 len).1,0,0):=by
 unfold headP
 rw [if_neg h1,if_neg (by simp [h2])]
 by_cases a1:(numQ l 1 len).2.2.1=0
 ·obtain ⟨b1,b2,b3,b4,b5,b6,b7⟩:=numQ_zero a1
  rw [if_neg (by omega),if_neg (by omega),if_neg (show ¬ (numQ l 1 len).2.2.1≠0 by omega)]
  by_cases a2:(numQ l 2 len).2.2.1=0
  ·obtain ⟨c1,c2,c3,c4,c5,c6,c7⟩:=numQ_zero a2
   rw [if_neg (by omega),if_neg (by omega),if_neg (show ¬ (numQ l 2 len).2.2.1≠0 by omega),← b3,← c3,c4]
   by_cases a3:(numQ l 2 len).1=0 ∨ 65536 < (numQ l 2 len).1
   ·rw [if_pos (by omega),if_pos a3]
   ·rw [if_neg (by omega),if_neg a3]
  ·rw [if_pos a2]
   rcases numQ_not a2 with ⟨d1,d2⟩ | ⟨d1,d2,d3⟩
   ·rw [if_pos (by omega),d2]
   ·rw [if_neg (by omega),if_pos d2,d3]
 ·rw [if_pos a1]
  rcases numQ_not a1 with ⟨d1,d2⟩ | ⟨d1,d2,d3⟩
  ·rw [if_pos (by omega),d2]
  ·rw [if_neg (by omega),if_pos d2,d3]
set_option maxHeartbeats 8000000 in
theorem rowHead_any (B:Nat) (a:Option Addr) (n c:Nat) (len:Int) (rest:Array Value) (T:Nat) (l:List TokT) (w:World) (h:RowAt w B a n c 0 len rest T) (hv:ToksV w a l) (hl:l.length=n) (hn:32 * n≤140737488351232) (hin:ToksIn l) (hfar:∀ b off,a=some ⟨b,off,none⟩→b≠B∧b < w.heap.size) :
  Calls Tryz.prog 122 #[.pointer (some ⟨B,0,none⟩)] w fun x w'=>x=.returned (.tuple #[.agg #[.int .u32 (headP l len).1,.int .u32 (headP l len).2.1],.agg #[.int .i64 (headP l len).2.2.1,.int .i64 (headP l len).2.2.2]])∧w.grownBy w' (some B):=by
 have hS0:=head_new w B a n c len rest T l 0 h hv hfar
 obtain ⟨R,hR⟩:∃ R,R=headP l len:=⟨_,rfl⟩
 rw [← hR]
 have hR0:=hR
 unfold headP at hR
 rw [hl] at hR
 have HR:=hide hR
 have HIN:=hide hin
 have HL:=hide hl
 have HN:=hide hn
 have HP:Hid (¬ n < 1→(nthT l 0).1=1→(nthT l 0).2.1=moduleS→R=if (numQ l 1 len).2.2.1≠0 then (0,0,(numQ l 1 len).2.2.1,(numQ l 1 len).2.2.2) else if (numQ l 2 len).2.2.1≠0 then (0,0,(numQ l 2 len).2.2.1,(numQ l 2 len).2.2.2) else if (numQ l 2 len).1=0 ∨ 65536 < (numQ l 2 len).1 then (0,0,24,(numQ l 2 len).2.1.2.2) else if 3 < n then (0,0,70,(nthT l 3).2.2) else ((numQ l 1 len).1,(numQ l 2 len).1,0,0)):=fun h1 h2 h3=>by
  rw [hR0,headP_num (by omega) ⟨h2,h3⟩,hl]
 clear h hv hfar hR hin hR0
 by_cases h0:n < 1
 ·obtain rfl:n=0:=by omega
  have e9:=HR.out
  rw [if_pos (by omega)] at e9
  have HE9:=hide e9
  have hC:=take_early B a 0 c len rest T 1 _ hS0.row
  have HS0:=hide hS0
  unfold tokV noTok at hC
  clear e9 HR hS0 h0
  go_enter Tryz.func122,Tryz.ntmps122
  go_wp2_with fail
  generalize (w.alloc (.cells #[.int .u32 0,.int .u32 0] 100)).alloc (.cells #[.int .i64 0,.int .i64 0] 28)=W at *
  refine hC.mono ?_
  rintro x w1 ⟨rfl,hb1⟩
  have hS1:=HS0.out.below hb1
  have s1:=hS1.size
  have HS:=hide (hS1.below (((Below.refl _ w1).alloc (Nat.le_refl _) (.cells #[.int .u8 0,.string ⟨#[]⟩,.int .i64 0] 41)).alloc (by simp) (.cells #[.int .i64 72,.int .i64 len] 28)))
  have n1:w1.heap.size+1≠w.heap.size:=by omega
  have n2:w1.heap.size+1≠w.heap.size+1:=by omega
  clear hC hb1 hS1 HS0
  obtain ⟨ch,fh⟩:=blk_cells HS.out.head
  obtain ⟨cp,fp⟩:=blk_cells HS.out.spot
  have u0:=ch 0
  have u1:=ch 1
  have p0:=cp 0
  have p1:=cp 1
  obtain ⟨x1,x2,x3⟩:=four_drew HS.out.head HS.out.spot (.int .u32 0) (.int .u32 0) (.int .i64 (72)) (.int .i64 (len))
  have HY:=hide (grown_put HS.out.grown x3)
  have HY1:=hide x1
  have HY2:=hide x2
  clear x1 x2 x3 ch cp
  go_wp2_with fail
  go_region
  generalize ((((((w1.alloc (.cells #[.int .u8 0,.string ⟨#[]⟩,.int .i64 0] 41)).alloc (.cells #[.int .i64 72,.int .i64 len] 28)).setCell ⟨w.heap.size,0,none⟩ (.int .u32 0)).setCell ⟨w.heap.size,1,none⟩ (.int .u32 0)).setCell ⟨w.heap.size+1,0,none⟩ (.int .i64 (72))).setCell ⟨w.heap.size+1,1,none⟩ (.int .i64 (len))).drew=X at *
  clear u0 u1 p0 p1 fh fp HS
  go_wp2
  obtain ⟨e1,_⟩:=blk_cells HY1.out
  obtain ⟨e2,_⟩:=blk_cells HY2.out
  have a0:=e1 0
  have a1:=e1 1
  have b0:=e2 0
  have b1:=e2 1
  refine bodyPost_ret (v:=.tuple #[.agg #[.int .u32 0,.int .u32 0],.agg #[.int .i64 (72),.int .i64 (len)]]) ?_ rfl ⟨by rw [HE9.out],HY.out⟩
  simp [results,Tryz.results122,go_sem,a0,a1,b0,b1]
 ·have hR1:=HR.out
  rw [if_neg h0] at hR1
  have t0ok:=HIN.out 0 (by rw [HL.out];omega)
  by_cases hk:(nthT l 0).1=1
  ·have hC:=take_ok B a n c 0 len rest T l 1 _ hS0.row hS0.toks HL.out HN.out (by omega) hk
   obtain ⟨z,hz⟩:∃ z,z=nthT l 0:=⟨_,rfl⟩
   have HP:=hide (HP.out h0 hk)
   rw [← hz] at hC hk hR1 t0ok HP
   clear hz
   obtain ⟨z1,z2,z3⟩:=z
   simp only at hk t0ok hR1 HP
   subst hk
   unfold tokV at hC
   simp only at hC
   have HS0:=hide hS0
   by_cases hm:z2=moduleS
   ·have hm':(z2.toList == [109,111,100,117,108,101])=true:=by rw [beq_iff_eq,hm];exact mod_list
    have HEQ:=hide (HP.out hm)
    have hN1:=fun (wx:World) (hx:RowAt wx B a n c 1 len rest T) (hvx:ToksV wx a l)=>number_any7 B a n c 1 len rest T l wx hx hvx HL.out HN.out HIN.out (by omega)
    obtain ⟨Q1,hQ1⟩:∃ Q,Q=numQ l 1 len:=⟨_,rfl⟩
    rw [← hQ1] at hN1 HEQ
    have HQ1:=hide hQ1
    obtain ⟨no,⟨y1,y2,y3⟩,ne,np⟩:=Q1
    unfold tokV at hN1
    simp only at hN1 HEQ
    clear hR1 hS0 h0 HR hm t0ok hQ1 HP
    go_enter Tryz.func122,Tryz.ntmps122
    go_wp2_with fail
    generalize (w.alloc (.cells #[.int .u32 0,.int .u32 0] 100)).alloc (.cells #[.int .i64 0,.int .i64 0] 28)=W at *
    refine hC.mono ?_
    rintro x w1 ⟨rfl,hR1,hg1⟩
    have hS1:=HS0.out.grow hg1 hR1
    have s1:=hS1.size
    have hb2:Below w1.heap.size w1 ((w1.alloc (.cells #[.int .u8 1,.string z2,.int .i64 z3] 41)).alloc (.cells #[.int .i64 0,.int .i64 0] 28)):=((Below.refl _ w1).alloc (Nat.le_refl _) _).alloc (by simp) _
    have hS2:=hS1.below hb2
    have kP:((w1.alloc (.cells #[.int .u8 1,.string z2,.int .i64 z3] 41)).alloc (.cells #[.int .i64 0,.int .i64 0] 28)).heap[w1.heap.size+1]?=some (.cells #[.int .i64 0,.int .i64 0] 28 (0,0)):=by simpa using heap_alloc_new (w1.alloc (.cells #[.int .u8 1,.string z2,.int .i64 z3] 41)) (.cells #[.int .i64 0,.int .i64 0] 28)
    have kA:((w1.alloc (.cells #[.int .u8 1,.string z2,.int .i64 z3] 41)).alloc (.cells #[.int .i64 0,.int .i64 0] 28)).heap[w1.heap.size]?=some (.cells #[.int .u8 1,.string z2,.int .i64 z3] 41 (0,0)):=(Below.heap_alloc _ _ _ (by simp)).trans (heap_alloc_new w1 _)
    have HKP:=hide kP
    have HKA:=hide kA
    have HS2:=hide hS2
    have hC2:=hN1 _ hS2.row hS2.toks
    clear hC hR1 hg1 HS0 hS1 hb2 kP kA hS2 hN1
    go_wp2_with fail
    generalize (w1.alloc (.cells #[.int .u8 1,.string z2,.int .i64 z3] 41)).alloc (.cells #[.int .i64 0,.int .i64 0] 28)=W2 at *
    refine hC2.mono ?_
    rintro x w3 ⟨rfl,hg3,k3,hR3,hk3⟩
    have hS3:=HS2.out.grow hg3 hR3
    have sB:=HS2.out.lt
    have kP3:=(hg3.block _ (Array.getElem?_eq_some_iff.1 HKP.out).1 (by simp;omega)).trans HKP.out
    have kA3:=(hg3.block _ (Array.getElem?_eq_some_iff.1 HKA.out).1 (by simp;omega)).trans HKA.out
    obtain ⟨c9,f9⟩:=blk_cells kP3
    have v0:=c9 0
    have v1:=c9 1
    have s3:=(Array.getElem?_eq_some_iff.1 kP3).1
    have hS4:=(hS3.set (g:=w1.heap.size+1) (by omega) 0 (.int .i64 ne)).set (g:=w1.heap.size+1) (by omega) 1 (.int .i64 np)
    have HS:=hide (hS4.below ((Below.refl _ _).alloc (Nat.le_refl _) (.cells #[.int .u8 y1,.string y2,.int .i64 y3] 41)))
    have HK3:=hide hk3
    have n1:w1.heap.size+1≠w.heap.size:=by omega
    have n2:w1.heap.size+1≠w.heap.size+1:=by omega
    have HA4:=hide (show (((w3.setCell ⟨w1.heap.size+1,0,none⟩ (.int .i64 ne)).setCell ⟨w1.heap.size+1,1,none⟩ (.int .i64 np)).alloc (.cells #[.int .u8 y1,.string y2,.int .i64 y3] 41)).heap[w1.heap.size]?=some (.cells #[.int .u8 1,.string z2,.int .i64 z3] 41 (0,0)) from (Below.heap_alloc _ _ _ (by simp;omega)).trans ((Below.heap_setCell _ _ _ _ (by simp)).trans ((Below.heap_setCell _ _ _ _ (by simp)).trans kA3)))
    have HP4:=hide (show (((w3.setCell ⟨w1.heap.size+1,0,none⟩ (.int .i64 ne)).setCell ⟨w1.heap.size+1,1,none⟩ (.int .i64 np)).alloc (.cells #[.int .u8 y1,.string y2,.int .i64 y3] 41)).heap[w1.heap.size+1]?=some (.cells #[.int .i64 ne,.int .i64 np] 28 (0,0)) from (Below.heap_alloc _ _ _ (by simp;omega)).trans (two_set kP3 _ _))
    clear hC2 hg3 hR3 hk3 hS3 HS2 HKP HKA kP3 kA3 c9 hS4
    by_cases hne:ne=0
    ·subst hne
     obtain ⟨q1,q2,q3,q4,q5,q6,q7⟩:=numQ_zero (l:=l) (k:=1) (len:=len) (by rw [← HQ1.out])
     obtain rfl:k3=2:=HK3.out rfl
     rw [← HQ1.out] at q5 q6
     simp only at q5 q6
     have e9:=HEQ.out
     rw [if_neg (by simp)] at e9
     have hn2:2≤n:=by have:=HL.out;omega
     have hN2:=fun (wx:World) (hx:RowAt wx B a n c 2 len rest T) (hvx:ToksV wx a l)=>number_any7 B a n c 2 len rest T l wx hx hvx HL.out HN.out HIN.out hn2
     obtain ⟨Q2,hQ2⟩:∃ Q,Q=numQ l 2 len:=⟨_,rfl⟩
     rw [← hQ2] at hN2 e9
     have HQ2:=hide hQ2
     obtain ⟨m_o,⟨x1,x2,x3⟩,me,mp⟩:=Q2
     unfold tokV at hN2
     simp only at hN2 e9
     have HEQ2:=hide e9
     have hC3:=hN2 _ HS.out.row HS.out.toks
     clear q1 q2 q3 q4 q7 HK3 e9 HEQ hQ2 hN2
     go_wp2_with fail
     generalize ((w3.setCell ⟨w1.heap.size+1,0,none⟩ (.int .i64 0)).setCell ⟨w1.heap.size+1,1,none⟩ (.int .i64 np)).alloc (.cells #[.int .u8 y1,.string y2,.int .i64 y3] 41)=W4 at *
     refine hC3.mono ?_
     rintro x w5 ⟨rfl,hg5,k5,hR5,hk5⟩
     have hS5:=HS.out.grow hg5 hR5
     have kP5:=(hg5.block _ (Array.getElem?_eq_some_iff.1 HP4.out).1 (by simp;omega)).trans HP4.out
     have kA5:=(hg5.block _ (Array.getElem?_eq_some_iff.1 HA4.out).1 (by simp;omega)).trans HA4.out
     obtain ⟨c9,f9'⟩:=blk_cells kP5
     obtain ⟨d9,g9⟩:=blk_cells kA5
     have v4:w5.cell? ⟨w1.heap.size+1,0,none⟩=some (.int .i64 0):=c9 0
     have v5:w5.cell? ⟨w1.heap.size+1,1,none⟩=some (.int .i64 np):=c9 1
     have v6:w5.cell? ⟨w1.heap.size,0,none⟩=some (.int .u8 1):=d9 0
     have v7:w5.cell? ⟨w1.heap.size,1,none⟩=some (.string z2):=d9 1
     have v8:w5.cell? ⟨w1.heap.size,2,none⟩=some (.int .i64 z3):=d9 2
     have fa:=f9' 0
     have fb:=f9' 1
     have fc:=g9 0
     have fd:=g9 1
     have fe:=g9 2
     have na:w1.heap.size≠w1.heap.size+1:=by omega
     have nb:w1.heap.size+1≠w1.heap.size:=by omega
     have s5:=(Array.getElem?_eq_some_iff.1 kP5).1
     obtain ⟨kA6,kP6,hb6⟩:=five_put kA5 kP5 (.int .u8 x1) (.string x2) (.int .i64 x3) (.int .i64 me) (.int .i64 mp)
     have hS6:=((((hS5.set (g:=w1.heap.size) (by omega) 0 (.int .u8 x1)).set (g:=w1.heap.size) (by omega) 1 (.string x2)).set (g:=w1.heap.size) (by omega) 2 (.int .i64 x3)).set (g:=w1.heap.size+1) (by omega) 0 (.int .i64 me)).set (g:=w1.heap.size+1) (by omega) 1 (.int .i64 mp)
     have HS6:=hide hS6
     have HA6:=hide kA6
     have HP6:=hide kP6
     have HK5:=hide hk5
     clear hC3 hg5 hR5 hk5 hS5 HS HP4 HA4 kP5 kA5 c9 d9 kA6 kP6 hb6 hS6 v0 v1 f9 f9' g9
     by_cases hme:me=0
     ·subst hme
      have hFA:=fun wx=>faultAt_any (x1,x2,x3) 24 wx
      rw [show fltA 24 ((x1,x2,x3):TokT).2.2=x3 by unfold fltA;simp] at hFA
      unfold tokV at hFA
      simp only at hFA
      have e9:=HEQ2.out
      rw [if_neg (by simp)] at e9
      by_cases hbd:m_o=0 ∨ 65536 < m_o
      ·rw [if_pos hbd] at e9
       have HE8:=hide e9
       clear e9 HEQ2
       by_cases hb0:m_o=0
       ·subst hb0
        clear hbd
        go_wp2_with fail
        generalize ((((w5.setCell ⟨w1.heap.size,0,none⟩ (.int .u8 x1)).setCell ⟨w1.heap.size,1,none⟩ (.string x2)).setCell ⟨w1.heap.size,2,none⟩ (.int .i64 x3)).setCell ⟨w1.heap.size+1,0,none⟩ (.int .i64 0)).setCell ⟨w1.heap.size+1,1,none⟩ (.int .i64 mp)=W6 at *
        refine (hFA _).mono ?_
        rintro x w7 ⟨rfl,hb7⟩
        have hS7:=HS6.out.below hb7
        obtain ⟨ch,fh⟩:=blk_cells hS7.head
        obtain ⟨cp,fp⟩:=blk_cells hS7.spot
        have u0:=ch 0
        have u1:=ch 1
        have p0:=cp 0
        have p1:=cp 1
        obtain ⟨r1,r2,r3⟩:=four_putX hS7.head hS7.spot (.int .u32 0) (.int .u32 0) (.int .i64 24) (.int .i64 x3)
        have HY:=hide (grown_put hS7.grown r3)
        have HY1:=hide r1
        have HY2:=hide r2
        clear r1 r2 r3 ch cp hS7 hb7 hFA v4 v5 v6 v7 v8 fa fb fc fd fe HS6 HA6 HP6
        go_wp2_with fail
        generalize (((w7.setCell ⟨w.heap.size,0,none⟩ (.int .u32 0)).setCell ⟨w.heap.size,1,none⟩ (.int .u32 0)).setCell ⟨w.heap.size+1,0,none⟩ (.int .i64 24)).setCell ⟨w.heap.size+1,1,none⟩ (.int .i64 x3)=X at *
        obtain ⟨e1,_⟩:=blk_cells HY1.out
        obtain ⟨e2,_⟩:=blk_cells HY2.out
        have a0:=e1 0
        have a1:=e1 1
        have b0:=e2 0
        have b1:=e2 1
        refine bodyPost_ret (v:=.tuple #[.agg #[.int .u32 0,.int .u32 0],.agg #[.int .i64 24,.int .i64 x3]]) ?_ rfl ⟨by rw [HE8.out],HY.out⟩
        simp [results,Tryz.results122,go_sem,a0,a1,b0,b1]
       ·have hb0':(m_o == 0)=false:=by simpa using hb0
        have hb1':decide ((65536:Int) < m_o)=true:=decide_eq_true (by omega)
        clear hbd hb0
        go_wp2_with fail
        generalize ((((w5.setCell ⟨w1.heap.size,0,none⟩ (.int .u8 x1)).setCell ⟨w1.heap.size,1,none⟩ (.string x2)).setCell ⟨w1.heap.size,2,none⟩ (.int .i64 x3)).setCell ⟨w1.heap.size+1,0,none⟩ (.int .i64 0)).setCell ⟨w1.heap.size+1,1,none⟩ (.int .i64 mp)=W6 at *
        refine (hFA _).mono ?_
        rintro x w7 ⟨rfl,hb7⟩
        have hS7:=HS6.out.below hb7
        obtain ⟨ch,fh⟩:=blk_cells hS7.head
        obtain ⟨cp,fp⟩:=blk_cells hS7.spot
        have u0:=ch 0
        have u1:=ch 1
        have p0:=cp 0
        have p1:=cp 1
        obtain ⟨r1,r2,r3⟩:=four_putX hS7.head hS7.spot (.int .u32 0) (.int .u32 0) (.int .i64 24) (.int .i64 x3)
        have HY:=hide (grown_put hS7.grown r3)
        have HY1:=hide r1
        have HY2:=hide r2
        clear r1 r2 r3 ch cp hS7 hb7 hFA v4 v5 v6 v7 v8 fa fb fc fd fe HS6 HA6 HP6
        go_wp2_with fail
        generalize (((w7.setCell ⟨w.heap.size,0,none⟩ (.int .u32 0)).setCell ⟨w.heap.size,1,none⟩ (.int .u32 0)).setCell ⟨w.heap.size+1,0,none⟩ (.int .i64 24)).setCell ⟨w.heap.size+1,1,none⟩ (.int .i64 x3)=X at *
        obtain ⟨e1,_⟩:=blk_cells HY1.out
        obtain ⟨e2,_⟩:=blk_cells HY2.out
        have a0:=e1 0
        have a1:=e1 1
        have b0:=e2 0
        have b1:=e2 1
        refine bodyPost_ret (v:=.tuple #[.agg #[.int .u32 0,.int .u32 0],.agg #[.int .i64 24,.int .i64 x3]]) ?_ rfl ⟨by rw [HE8.out],HY.out⟩
        simp [results,Tryz.results122,go_sem,a0,a1,b0,b1]
      ·rw [if_neg hbd] at e9
       have HE8:=hide e9
       have hb0':(m_o == 0)=false:=by simp;omega
       have hb1':decide ((65536:Int) < m_o)=false:=decide_eq_false (by omega)
       obtain ⟨q1,_,_,_,_,_,_⟩:=numQ_zero (l:=l) (k:=2) (len:=len) (by rw [← HQ2.out])
       have hn3:3≤n:=by have:=HL.out;omega
       obtain rfl:k5=3:=HK5.out rfl
       have hE:=fun (wx:World) (hx:RowAt wx B a n c 3 len rest T)=>ended_any B a n c 3 len rest T wx hx
       clear e9 HEQ2 hbd q1 HK5 hFA
       have HHE:=hide (hE _ HS6.out.row)
       clear hE
       go_wp2_with fail
       generalize ((((w5.setCell ⟨w1.heap.size,0,none⟩ (.int .u8 x1)).setCell ⟨w1.heap.size,1,none⟩ (.string x2)).setCell ⟨w1.heap.size,2,none⟩ (.int .i64 x3)).setCell ⟨w1.heap.size+1,0,none⟩ (.int .i64 0)).setCell ⟨w1.heap.size+1,1,none⟩ (.int .i64 mp)=W6 at *
       refine HHE.out.mono ?_
       rintro x w7 ⟨rfl,q,rfl⟩
       have hS7:=HS6.out.below (bel_drewN (Below.refl W6.heap.size W6) q)
       generalize W6.drewN q=W7 at *
       have HS:=hide hS7
       clear hS7 HHE v4 v5 v6 v7 v8 fa fb fc fd fe HS6 HA6 HP6
       by_cases h3:n=3
       ·subst h3
        have e8:=HE8.out
        rw [if_neg (by omega)] at e8
        have HE7:=hide e8
        clear HE8 e8
        obtain ⟨ch,fh⟩:=blk_cells HS.out.head
        obtain ⟨cp,fp⟩:=blk_cells HS.out.spot
        have u0:=ch 0
        have u1:=ch 1
        have p0:=cp 0
        have p1:=cp 1
        obtain ⟨r1,r2,r3⟩:=four_putX HS.out.head HS.out.spot (.int .u32 no) (.int .u32 m_o) (.int .i64 0) (.int .i64 0)
        have HY:=hide (grown_put HS.out.grown r3)
        have HY1:=hide r1
        have HY2:=hide r2
        clear r1 r2 r3 ch cp HS
        go_wp2_with fail
        generalize (((W7.setCell ⟨w.heap.size,0,none⟩ (.int .u32 no)).setCell ⟨w.heap.size,1,none⟩ (.int .u32 m_o)).setCell ⟨w.heap.size+1,0,none⟩ (.int .i64 0)).setCell ⟨w.heap.size+1,1,none⟩ (.int .i64 0)=X at *
        obtain ⟨e1,_⟩:=blk_cells HY1.out
        obtain ⟨e2,_⟩:=blk_cells HY2.out
        have a0:=e1 0
        have a1:=e1 1
        have b0:=e2 0
        have b1:=e2 1
        refine bodyPost_ret (v:=.tuple #[.agg #[.int .u32 no,.int .u32 m_o],.agg #[.int .i64 0,.int .i64 0]]) ?_ rfl ⟨by rw [HE7.out],HY.out⟩
        simp [results,Tryz.results122,go_sem,a0,a1,b0,b1]
       ·have h3':((3:Int) == (n:Int))=false:=by simp;omega
        have e8:=HE8.out
        rw [if_pos (by omega)] at e8
        have HE7:=hide e8
        clear HE8 e8
        obtain ⟨r0,r1,r2,rf⟩:=HS.out.row.cells
        obtain ⟨g1,o1,rfl,hg1,t1,t2,t3⟩:=HS.out.toks 3 (by have:=HL.out;omega)
        have hFA:=fun wx=>faultAt_any (nthT l 3) 70 wx
        rw [show fltA 70 (nthT l 3).2.2=(nthT l 3).2.2 by unfold fltA;simp] at hFA
        unfold tokV at hFA
        generalize nthT l 3=zz at *
        obtain ⟨f1,f2,f3⟩:=zz
        simp only at hFA t1 t2 t3 HE7
        obtain ⟨ch,fh⟩:=blk_cells HS.out.head
        obtain ⟨cp,fp⟩:=blk_cells HS.out.spot
        have u0:=ch 0
        have u1:=ch 1
        have p0:=cp 0
        have p1:=cp 1
        have s7:=HS.out.size
        have hki:(3:Int) < (n:Int):=by omega
        have hBw:=HS.out.lt
        clear ch cp
        go_wp2_with fail
        go_region_with ((go_at_call 146;refine (hFA _).mono ?_;rintro x w8 ⟨rfl,hbx⟩;have m0:=hbx.cell (p:=⟨w.heap.size,0,none⟩) (by simp;omega);have m1:=hbx.cell (p:=⟨w.heap.size,1,none⟩) (by simp;omega);have m3:=hbx.cell (p:=⟨w.heap.size+1,0,none⟩) (by simp;omega);have m4:=hbx.cell (p:=⟨w.heap.size+1,1,none⟩) (by simp;omega);have m5:=hbx.frozen (p:=⟨w.heap.size,0,none⟩) (by simp;omega);have m6:=hbx.frozen (p:=⟨w.heap.size,1,none⟩) (by simp;omega);have m8:=hbx.frozen (p:=⟨w.heap.size+1,0,none⟩) (by simp;omega);have m9:=hbx.frozen (p:=⟨w.heap.size+1,1,none⟩) (by simp;omega);have HBX:=hide hbx))
        all_goals
         have hbx:=HBX.out
         have kH:=(hbx.block w.heap.size (by simp;omega)).trans HS.out.head
         have kS:=(hbx.block (w.heap.size+1) (by simp;omega)).trans HS.out.spot
         have hg8:w.grownBy w8 (some B):=⟨hbx.os.trans HS.out.grown.os,hbx.tape.trans HS.out.grown.tape,hbx.output.trans HS.out.grown.output,Nat.le_trans HS.out.grown.size hbx.size,fun j hj hr=>(hbx.block j (by simp;omega)).trans (HS.out.grown.block j hj hr)⟩
         obtain ⟨y1',y2',y3'⟩:=four_putX kH kS (.int .u32 0) (.int .u32 0) (.int .i64 70) (.int .i64 f3)
         have HY:=hide (grown_put hg8 y3')
         have HY1:=hide y1'
         have HY2:=hide y2'
         clear hbx kH kS hg8 y1' y2' y3' HBX m0 m1 m3 m4 m5 m6 m8 m9 u0 u1 p0 p1 fh fp r0 r1 r2 rf t1 t2 t3 HS hFA
         generalize (((w8.setCell ⟨w.heap.size,0,none⟩ (.int .u32 0)).setCell ⟨w.heap.size,1,none⟩ (.int .u32 0)).setCell ⟨w.heap.size+1,0,none⟩ (.int .i64 70)).setCell ⟨w.heap.size+1,1,none⟩ (.int .i64 f3)=X at *
         go_wp2
         obtain ⟨e1,_⟩:=blk_cells HY1.out
         obtain ⟨e2,_⟩:=blk_cells HY2.out
         have a0:=e1 0
         have a1:=e1 1
         have b0:=e2 0
         have b1:=e2 1
         refine bodyPost_ret (v:=.tuple #[.agg #[.int .u32 0,.int .u32 0],.agg #[.int .i64 70,.int .i64 f3]]) ?_ rfl ⟨by rw [HE7.out],HY.out⟩
         simp [results,Tryz.results122,go_sem,a0,a1,b0,b1]
     ·have hme':(me != 0)=true:=by simp [hme]
      have e9:=HEQ2.out
      rw [if_pos hme] at e9
      have HE8:=hide e9
      clear HEQ2 e9
      go_wp2_with fail
      generalize ((((w5.setCell ⟨w1.heap.size,0,none⟩ (.int .u8 x1)).setCell ⟨w1.heap.size,1,none⟩ (.string x2)).setCell ⟨w1.heap.size,2,none⟩ (.int .i64 x3)).setCell ⟨w1.heap.size+1,0,none⟩ (.int .i64 me)).setCell ⟨w1.heap.size+1,1,none⟩ (.int .i64 mp)=W6 at *
      obtain ⟨c8,_⟩:=blk_cells HP6.out
      have v2:=c8 0
      have v3:=c8 1
      have HS:=HS6
      clear v4 v5 v6 v7 v8 fa fb fc fd fe c8 HS6
      obtain ⟨ch,fh⟩:=blk_cells HS.out.head
      obtain ⟨cp,fp⟩:=blk_cells HS.out.spot
      have u0:=ch 0
      have u1:=ch 1
      have p0:=cp 0
      have p1:=cp 1
      obtain ⟨x1,x2,x3⟩:=four_drew HS.out.head HS.out.spot (.int .u32 0) (.int .u32 0) (.int .i64 (me)) (.int .i64 (mp))
      have HY:=hide (grown_put HS.out.grown x3)
      have HY1:=hide x1
      have HY2:=hide x2
      clear x1 x2 x3 ch cp
      go_wp2_with fail
      go_region
      generalize (((((W6).setCell ⟨w.heap.size,0,none⟩ (.int .u32 0)).setCell ⟨w.heap.size,1,none⟩ (.int .u32 0)).setCell ⟨w.heap.size+1,0,none⟩ (.int .i64 (me))).setCell ⟨w.heap.size+1,1,none⟩ (.int .i64 (mp))).drew=X at *
      clear u0 u1 p0 p1 fh fp HS v2 v3
      go_wp2
      obtain ⟨e1,_⟩:=blk_cells HY1.out
      obtain ⟨e2,_⟩:=blk_cells HY2.out
      have a0:=e1 0
      have a1:=e1 1
      have b0:=e2 0
      have b1:=e2 1
      refine bodyPost_ret (v:=.tuple #[.agg #[.int .u32 0,.int .u32 0],.agg #[.int .i64 (me),.int .i64 (mp)]]) ?_ rfl ⟨by rw [HE8.out],HY.out⟩
      simp [results,Tryz.results122,go_sem,a0,a1,b0,b1]
    ·have hne':(ne != 0)=true:=by simp [hne]
     have HE9:=HEQ
     have e9:=HEQ.out
     rw [if_pos hne] at e9
     have HE8:=hide e9
     clear HEQ HE9 e9
     go_wp2_with fail
     generalize ((w3.setCell ⟨w1.heap.size+1,0,none⟩ (.int .i64 ne)).setCell ⟨w1.heap.size+1,1,none⟩ (.int .i64 np)).alloc (.cells #[.int .u8 y1,.string y2,.int .i64 y3] 41)=W4 at *
     obtain ⟨c8,_⟩:=blk_cells HP4.out
     have v2:=c8 0
     have v3:=c8 1
     clear v0 v1 f9 c8
     obtain ⟨ch,fh⟩:=blk_cells HS.out.head
     obtain ⟨cp,fp⟩:=blk_cells HS.out.spot
     have u0:=ch 0
     have u1:=ch 1
     have p0:=cp 0
     have p1:=cp 1
     obtain ⟨x1,x2,x3⟩:=four_drew HS.out.head HS.out.spot (.int .u32 0) (.int .u32 0) (.int .i64 (ne)) (.int .i64 (np))
     have HY:=hide (grown_put HS.out.grown x3)
     have HY1:=hide x1
     have HY2:=hide x2
     clear x1 x2 x3 ch cp
     go_wp2_with fail
     go_region
     generalize (((((W4).setCell ⟨w.heap.size,0,none⟩ (.int .u32 0)).setCell ⟨w.heap.size,1,none⟩ (.int .u32 0)).setCell ⟨w.heap.size+1,0,none⟩ (.int .i64 (ne))).setCell ⟨w.heap.size+1,1,none⟩ (.int .i64 (np))).drew=X at *
     clear u0 u1 p0 p1 fh fp HS v2 v3
     go_wp2
     obtain ⟨e1,_⟩:=blk_cells HY1.out
     obtain ⟨e2,_⟩:=blk_cells HY2.out
     have a0:=e1 0
     have a1:=e1 1
     have b0:=e2 0
     have b1:=e2 1
     refine bodyPost_ret (v:=.tuple #[.agg #[.int .u32 0,.int .u32 0],.agg #[.int .i64 (ne),.int .i64 (np)]]) ?_ rfl ⟨by rw [HE8.out],HY.out⟩
     simp [results,Tryz.results122,go_sem,a0,a1,b0,b1]
   ·rw [if_pos (by simp [hm])] at hR1
    have HE9:=hide hR1
    have hm':(z2.toList == [109,111,100,117,108,101])=false:=by
     rw [beq_eq_false_iff_ne]
     intro e
     exact hm (str_injA (e.trans mod_list.symm))
    have hFA:=fun wx=>faultAt_any (1,z2,z3) 70 wx
    rw [show fltA 70 ((1,z2,z3):TokT).2.2=z3 by unfold fltA;simp] at hFA
    unfold tokV at hFA
    simp only at hFA
    clear hR1 hS0 h0 HR hm t0ok
    go_enter Tryz.func122,Tryz.ntmps122
    go_wp2_with fail
    generalize (w.alloc (.cells #[.int .u32 0,.int .u32 0] 100)).alloc (.cells #[.int .i64 0,.int .i64 0] 28)=W at *
    refine hC.mono ?_
    rintro x w1 ⟨rfl,hR1,hg1⟩
    have hS1:=HS0.out.grow hg1 hR1
    have s1:=hS1.size
    have hb2:Below w1.heap.size w1 ((w1.alloc (.cells #[.int .u8 1,.string z2,.int .i64 z3] 41)).alloc (.cells #[.int .i64 0,.int .i64 0] 28)):=((Below.refl _ w1).alloc (Nat.le_refl _) _).alloc (by simp) _
    have HS2:=hide (hS1.below hb2)
    have kP:((w1.alloc (.cells #[.int .u8 1,.string z2,.int .i64 z3] 41)).alloc (.cells #[.int .i64 0,.int .i64 0] 28)).heap[w1.heap.size+1]?=some (.cells #[.int .i64 0,.int .i64 0] 28 (0,0)):=by simpa using heap_alloc_new (w1.alloc (.cells #[.int .u8 1,.string z2,.int .i64 z3] 41)) (.cells #[.int .i64 0,.int .i64 0] 28)
    have HKP:=hide kP
    clear hC hR1 hg1 HS0 hS1 hb2 kP
    go_wp2_with fail
    generalize (w1.alloc (.cells #[.int .u8 1,.string z2,.int .i64 z3] 41)).alloc (.cells #[.int .i64 0,.int .i64 0] 28)=W2 at *
    refine (hFA _).mono ?_
    rintro x w3 ⟨rfl,hb3⟩
    have hS3:=HS2.out.below hb3
    have kP3:=(hb3.block _ (Array.getElem?_eq_some_iff.1 HKP.out).1).trans HKP.out
    obtain ⟨c9,f9⟩:=blk_cells kP3
    have v0:=c9 0
    have v1:=c9 1
    have HS:=hide ((hS3.set (g:=w1.heap.size+1) (by omega) 0 (.int .i64 70)).set (g:=w1.heap.size+1) (by omega) 1 (.int .i64 z3))
    have n1:w1.heap.size+1≠w.heap.size:=by omega
    have n2:w1.heap.size+1≠w.heap.size+1:=by omega
    clear hFA hb3 hS3 HS2 HKP kP3 c9
    go_wp2_with fail
    generalize hW4:(w3.setCell ⟨w1.heap.size+1,0,none⟩ (.int .i64 70)).setCell ⟨w1.heap.size+1,1,none⟩ (.int .i64 z3)=W4 at *
    have v2:W4.cell? ⟨w1.heap.size+1,0,none⟩=some (.int .i64 70):=by rw [← hW4];simp [go_sem,v0,v1]
    have v3:W4.cell? ⟨w1.heap.size+1,1,none⟩=some (.int .i64 z3):=by rw [← hW4];simp [go_sem,v0,v1]
    clear hW4 v0 v1 f9
    obtain ⟨ch,fh⟩:=blk_cells HS.out.head
    obtain ⟨cp,fp⟩:=blk_cells HS.out.spot
    have u0:=ch 0
    have u1:=ch 1
    have p0:=cp 0
    have p1:=cp 1
    obtain ⟨x1,x2,x3⟩:=four_drew HS.out.head HS.out.spot (.int .u32 0) (.int .u32 0) (.int .i64 (70)) (.int .i64 (z3))
    have HY:=hide (grown_put HS.out.grown x3)
    have HY1:=hide x1
    have HY2:=hide x2
    clear x1 x2 x3 ch cp
    go_wp2_with fail
    go_region
    generalize (((((W4).setCell ⟨w.heap.size,0,none⟩ (.int .u32 0)).setCell ⟨w.heap.size,1,none⟩ (.int .u32 0)).setCell ⟨w.heap.size+1,0,none⟩ (.int .i64 (70))).setCell ⟨w.heap.size+1,1,none⟩ (.int .i64 (z3))).drew=X at *
    clear u0 u1 p0 p1 fh fp HS v2 v3
    go_wp2
    obtain ⟨e1,_⟩:=blk_cells HY1.out
    obtain ⟨e2,_⟩:=blk_cells HY2.out
    have a0:=e1 0
    have a1:=e1 1
    have b0:=e2 0
    have b1:=e2 1
    refine bodyPost_ret (v:=.tuple #[.agg #[.int .u32 0,.int .u32 0],.agg #[.int .i64 (70),.int .i64 (z3)]]) ?_ rfl ⟨by rw [HE9.out],HY.out⟩
    simp [results,Tryz.results122,go_sem,a0,a1,b0,b1]
  ·rw [if_pos (by simp [hk])] at hR1
   have hC:=take_wrong B a n c 0 len rest T l 1 _ hS0.row hS0.toks HL.out HN.out (by omega) hk
   have HE9:=hide hR1
   have HS0:=hide hS0
   unfold tokV noTok at hC
   clear hR1 HR hS0 h0 hk t0ok
   generalize (nthT l 0).2.2=p9 at *
   go_enter Tryz.func122,Tryz.ntmps122
   go_wp2_with fail
   generalize (w.alloc (.cells #[.int .u32 0,.int .u32 0] 100)).alloc (.cells #[.int .i64 0,.int .i64 0] 28)=W at *
   refine hC.mono ?_
   rintro x w1 ⟨rfl,hb1⟩
   have hS1:=HS0.out.below hb1
   have s1:=hS1.size
   have HS:=hide (hS1.below (((Below.refl _ w1).alloc (Nat.le_refl _) (.cells #[.int .u8 0,.string ⟨#[]⟩,.int .i64 0] 41)).alloc (by simp) (.cells #[.int .i64 70,.int .i64 p9] 28)))
   have n1:w1.heap.size+1≠w.heap.size:=by omega
   have n2:w1.heap.size+1≠w.heap.size+1:=by omega
   clear hC hb1 hS1 HS0
   obtain ⟨ch,fh⟩:=blk_cells HS.out.head
   obtain ⟨cp,fp⟩:=blk_cells HS.out.spot
   have u0:=ch 0
   have u1:=ch 1
   have p0:=cp 0
   have p1:=cp 1
   obtain ⟨x1,x2,x3⟩:=four_drew HS.out.head HS.out.spot (.int .u32 0) (.int .u32 0) (.int .i64 (70)) (.int .i64 (p9))
   have HY:=hide (grown_put HS.out.grown x3)
   have HY1:=hide x1
   have HY2:=hide x2
   clear x1 x2 x3 ch cp
   go_wp2_with fail
   go_region
   generalize ((((((w1.alloc (.cells #[.int .u8 0,.string ⟨#[]⟩,.int .i64 0] 41)).alloc (.cells #[.int .i64 70,.int .i64 p9] 28)).setCell ⟨w.heap.size,0,none⟩ (.int .u32 0)).setCell ⟨w.heap.size,1,none⟩ (.int .u32 0)).setCell ⟨w.heap.size+1,0,none⟩ (.int .i64 (70))).setCell ⟨w.heap.size+1,1,none⟩ (.int .i64 (p9))).drew=X at *
   clear u0 u1 p0 p1 fh fp HS
   go_wp2
   obtain ⟨e1,_⟩:=blk_cells HY1.out
   obtain ⟨e2,_⟩:=blk_cells HY2.out
   have a0:=e1 0
   have a1:=e1 1
   have b0:=e2 0
   have b1:=e2 1
   refine bodyPost_ret (v:=.tuple #[.agg #[.int .u32 0,.int .u32 0],.agg #[.int .i64 (70),.int .i64 (p9)]]) ?_ rfl ⟨by rw [HE9.out],HY.out⟩
   simp [results,Tryz.results122,go_sem,a0,a1,b0,b1]
end Go.Proofs.YtddkapkkjhomkabGreatDoor
