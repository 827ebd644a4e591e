/-
  Texts in one: LayoutFunctions, MathF, Ref02Wrong, Ref02At, MathRead, RowO, Ref02Ends, Ref02Places, Ref02Read, Ref02Write, Ref02Find, Frame, FrameSmall, FrameMeasure.
-/
import Derived.Test.YtlcaedibmlidlaaGreatB13
namespace Go.Proofs.YtlcaedibmlidlaaGreat
open Go.RowKit
set_option linter.unusedVariables false
set_option linter.unusedSimpArgs false
set_option maxRecDepth 10000
attribute [local go_sem] jumps_normal jumps_exit jumps_ret jumps_panic jumps_goto onNormal_normal

theorem frame103 (t:Array Value) (h:t.size=103):t=#[slot t 0,slot t 1,slot t 2,slot t 3,slot t 4,slot t 5,slot t 6,slot t 7,slot t 8,slot t 9,slot t 10,slot t 11,slot t 12,slot t 13,slot t 14,slot t 15,slot t 16,slot t 17,slot t 18,slot t 19,slot t 20,slot t 21,slot t 22,slot t 23,slot t 24,slot t 25,slot t 26,slot t 27,slot t 28,slot t 29,slot t 30,slot t 31,slot t 32,slot t 33,slot t 34,slot t 35,slot t 36,slot t 37,slot t 38,slot t 39,slot t 40,slot t 41,slot t 42,slot t 43,slot t 44,slot t 45,slot t 46,slot t 47,slot t 48,slot t 49,slot t 50,slot t 51,slot t 52,slot t 53,slot t 54,slot t 55,slot t 56,slot t 57,slot t 58,slot t 59,slot t 60,slot t 61,slot t 62,slot t 63,slot t 64,slot t 65,slot t 66,slot t 67,slot t 68,slot t 69,slot t 70,slot t 71,slot t 72,slot t 73,slot t 74,slot t 75,slot t 76,slot t 77,slot t 78,slot t 79,slot t 80,slot t 81,slot t 82,slot t 83,slot t 84,slot t 85,slot t 86,slot t 87,slot t 88,slot t 89,slot t 90,slot t 91,slot t 92,slot t 93,slot t 94,slot t 95,slot t 96,slot t 97,slot t 98,slot t 99,slot t 100,slot t 101,slot t 102]:=(frame_eq t 103 h).trans rfl
def FrmG (B:Nat) (a':Act):Prop:=∃ t:Array Value,a'={ tmps:=t,defers:=[] }∧t.size=103∧slot t 0=.pointer (some ⟨B,0,none⟩)
def FrmH (B:Nat) (head:Int) (a':Act):Prop:=∃ t:Array Value,a'={ tmps:=t,defers:=[] }∧t.size=103∧slot t 0=.pointer (some ⟨B,0,none⟩)∧slot t 3=.int .u16 head
def FnJ (w0:World) (B:Nat) (a:Option Addr) (n c:Nat) (l:List InstT):Nat→Act→World→Prop
 | 0,a',w'=>∃ (k:Nat) (ps:Nat→Int),FrmG B a'∧AtOut l k∧SpansF l ps k∧FW w0 B a n c ps (cutTo l k) l k w'
 | 1,a',w'=>∃ (k:Nat) (ps:Nat→Int),FrmG B a'∧AtPar l k∧SpansF l ps k∧FW w0 B a n c ps (cutTo l k) l k w'
 | 2,a',w'=>∃ (k:Nat) (ps:Nat→Int) (head:Int),FrmH B head a'∧AtBlk l k head∧SpansF l ps k∧FW w0 B a n c ps (cutTo l k) l k w'
 | 3,a',w'=>∃ (k:Nat) (ps:Nat→Int) (head:Int),FrmH B head a'∧AtHds l k head∧SpansF l ps k∧FW w0 B a n c ps (cutTo l k) l k w'
 | 4,a',w'=>∃ (k:Nat) (ps:Nat→Int),FrmG B a'∧AtBody l k∧SpansF l ps k∧FW w0 B a n c ps (cutTo l k) l k w'
 | _,_,_=>False
def FnU (B n:Nat) (_:Nat) (_:Act) (w':World):Nat:=n - posL B w'
theorem FW.pos {w0:World} {B:Nat} {a:Option Addr} {n c:Nat} {ps:Nat→Int} {fs:List FuncT} {l:List InstT} {k:Nat} {W:World} (h:FW w0 B a n c ps fs l k W):posL B W=k:=by
 obtain⟨⟨fv,hW,_⟩,_⟩:=h;exact hW.pos
theorem FW.kind {w0:World} {B:Nat} {a:Option Addr} {n c:Nat} {ps:Nat→Int} {fs:List FuncT} {l:List InstT} {k:Nat} {W:World} (h:FW w0 B a n c ps fs l k W):W.cell? ⟨B,24,none⟩=some (.int .u16 (kindAt l k))∧W.cell? ⟨B,23,none⟩=some (.int .u8 (partAt l k))∧W.cell? ⟨B,22,none⟩=some (.int .i64 (k:Int))∧B<W.heap.size:=by
 obtain⟨⟨fv,hW,_⟩,_⟩:=h
 exact⟨hW.cells.2.2.2.2.2.1,hW.cells.2.2.2.2.1,hW.cells.2.2.2.1,hW.lt⟩
theorem FW.step {w0:World} {B:Nat} {a:Option Addr} {n c:Nat} {ps:Nat→Int} {fs:List FuncT} {l:List InstT} {k:Nat} {W:World} (h:FW w0 B a n c ps fs l k W) (C:LyC w0 B a n l) (hk:k<n):Calls Tryz.prog 132 #[.pointer (some ⟨B,0,none⟩)] W fun e w'=>e=.returned (.tuple #[])∧FW w0 B a n c ps fs l (k+1) w':=by
 obtain⟨⟨fv,hW,hF⟩,hb⟩:=h
 exact (step_fw C hW hF hb hk).mono fun e w' h=>⟨h.1,h.2.1⟩
theorem FW.set {w0:World} {B:Nat} {a:Option Addr} {n c:Nat} {ps:Nat→Int} {fs:List FuncT} {l:List InstT} {k:Nat} {W:World} (h:FW w0 B a n c ps fs l k W) (hB:w0.heap.size≤B) (i:Nat) (hi:i<20) (x:Int):FW w0 B a n c (fun j=>if j=i then x else ps j) fs l k (W.setCell ⟨B,1+i,none⟩ (.int .i64 x)):=by
 obtain⟨⟨fv,hW,hF⟩,hb⟩:=h
 exact⟨⟨fv,hW.setSpan i hi x,hF.kept (grown_cell W B (1+i) _) (fun g e=>by simp at e;omega)⟩,below_grown hb (grown_cell W B (1+i) _) (fun g e=>by simp at e;omega)⟩
theorem FW.drew {w0:World} {B:Nat} {a:Option Addr} {n c:Nat} {ps:Nat→Int} {fs:List FuncT} {l:List InstT} {k:Nat} {W W':World} (h:FW w0 B a n c ps fs l k W) (hb:Below W.heap.size W W'):FW w0 B a n c ps fs l k W':=by
 obtain⟨⟨fv,hW,hF⟩,h2⟩:=h
 exact⟨⟨fv,hW.below hb,hF.below hb⟩,h2.trans (hb.mono h2.size)⟩
def SpansE (l:List InstT) (ps:Nat→Int):Prop:=∀ i,i<20→ps i=cntP l ((i+1) / 2) l.length
theorem SpansF.done {l:List InstT} {ps:Nat→Int} {k:Nat} (h:SpansF l ps k) (hk:k=l.length):SpansE l (fun j=>if j=19 then (k:Int) else if j=18 then (k:Int) else if j=17 then (k:Int) else ps j):=by
 subst hk
 have all:∀ p:Nat,9≤p→cntP l p l.length=l.length:=fun p hp=>cntP_all fun i _=>by have:=partI_eight (nthI l i);omega
 intro i hi
 simp only
 by_cases e:i=19
 ·subst e;rw [if_pos rfl,all _ (by omega)]
 ·rw [if_neg e]
  by_cases e:i=18
  ·subst e;rw [if_pos rfl,all _ (by omega)]
  ·rw [if_neg e]
   by_cases e:i=17
   ·subst e;rw [if_pos rfl,all _ (by omega)]
   ·rw [if_neg e];exact h i (by omega)
def FnRet (w0:World) (B:Nat) (a:Option Addr) (n c:Nat) (l:List InstT) (Q:Exit→Act→World→Prop):Prop :=
 ∀ (a':Act) (w':World) (b:Bool) (k:Nat) (ps:Nat→Int),slot a'.tmps 2=.bool b→a'.defers=[]→FW w0 B a n c ps (cutTo l k) l k w'→(b=true→SpansE l ps∧k=l.length∧okTo l k∧modelsN l k≠0∧(aheadO l k=0∨aheadO l k=56))→(b=false→wrongAt l k)→Q .ret a' w'
set_option maxHeartbeats 8000000 in
theorem fn_out (w0:World) (B:Nat) (a:Option Addr) (n c:Nat) (l:List InstT) (Q:Exit→Act→World→Prop) (C:LyC w0 B a n l) (hret:FnRet w0 B a n c l Q)
  (hprev:∀ N a1 w',FnJ w0 B a n c l 1 a1 w'→FnU B n 1 a1 w'≤N→(behind (findLabel (scopeL (Tryz.f86.body.getD .skip)) 1)).wp Tryz.prog (jumps (fun l' a' w'=>FnJ w0 B a n c l l' a' w'∧FnU B n l' a' w'<N) Q) a1 w')
  (N:Nat) (a1:Act) (w1:World) (hJ:FnJ w0 B a n c l 0 a1 w1) (hN:FnU B n 0 a1 w1≤N) :
  (behind (findLabel (scopeL (Tryz.f86.body.getD .skip)) 0)).wp Tryz.prog (jumps (fun l' a' w'=>FnJ w0 B a n c l l' a' w'∧FnU B n l' a' w'<N) Q) a1 w1:=by
 obtain⟨k,ps,⟨t,rfl,hsz,h0⟩,hA,hS,hW⟩:=hJ
 have HN:Hid (n - k≤N):=by
  unfold FnU at hN
  rw [hW.pos] at hN
  exact hN
 conv=>arg 2;whnf
 rw [frame103 t hsz,h0]
 clear h0 hsz hN
 have HC:=hide C
 have HRET:=hide hret
 have HW:=hide hW
 have HA:=hide hA
 have HS:=hide hS
 have hnl:=C.hl
 have HL:=hide hnl
 obtain⟨d24,d23,d22,hBl⟩:=hW.kind
 have HP:=hide hprev
 clear hprev
 clear C hret hA hS hnl
 have hBB:=HC.out.hB
 by_cases hp:partAt l k=9
 ·rw [hp] at d23
  have HW4:=hide (((HW.out.set hBB 17 (by omega) k).set hBB 18 (by omega) k).set hBB 19 (by omega) k)
  have HSE:=hide (HS.out.done (HA.out.end hp).1)
  have HE:=hide (HA.out.end hp)
  obtain⟨⟨fv,hWk,_⟩,_⟩:=HW.out
  obtain⟨_,dp,_,_,_,_,df⟩:=hWk.cells
  have z17:=dp 17 (by omega)
  have z18:=dp 18 (by omega)
  have z19:=dp 19 (by omega)
  have f17:=df (1+17)
  have f18:=df (1+18)
  have f19:=df (1+19)
  clear hW hWk dp df HP
  go_wp2_with fail
  refine wp_norm ?_
  go_region
  rw [onNormal_normal]
  have HD1:Hid (FW w0 B a n c _ (cutTo l k) l k (w1.setCell ⟨B,1+17,none⟩ (.int .i64 k)).drew):=(HW.out.set hBB 17 (by omega) k).drew ((Below.refl _ _).drew)
  obtain⟨⟨fv2,hWk2,_⟩,_⟩:=HD1.out
  obtain⟨_,dp,_,e22,_,_,df⟩:=hWk2.cells
  have z18':=dp 18 (by omega)
  have z19':=dp 19 (by omega)
  have f18':=df (1+18)
  have f19':=df (1+19)
  clear hWk2 dp df z17 z18 z19 f17 f18 f19 d22 d23 d24 HW4
  generalize (w1.setCell ⟨B,1+17,none⟩ (.int .i64 k)).drew=W2 at *
  have hBl2:B<W2.heap.size:=HD1.out.kind.2.2.2
  have HD3:=hide ((HD1.out.set hBB 18 (by omega) k).set hBB 19 (by omega) k)
  go_wp2_with fail
  refine wp_norm ?_
  go_region
  rw [onNormal_normal]
  have HD4:Hid (FW w0 B a n c _ (cutTo l k) l k ((W2.setCell ⟨B,1+18,none⟩ (.int .i64 k)).setCell ⟨B,1+19,none⟩ (.int .i64 k)).drew):=HD3.out.drew ((Below.refl _ _).drew)
  clear z18' z19' f18' f19' e22 HD3 HD1
  generalize ((W2.setCell ⟨B,1+18,none⟩ (.int .i64 k)).setCell ⟨B,1+19,none⟩ (.int .i64 k)).drew=W4 at *
  go_wp2_with fail
  refine HRET.out _ W4 true k _ rfl rfl HD4.out (fun _=>⟨HSE.out,HE.out⟩) (fun h=>by cases h)
 ·have hp':(partAt l k==9)=false:=by simpa using hp
  by_cases h1:kindAt l k=1
  ·rw [h1] at d24
   obtain⟨hk,h8,hA2,hc⟩:=HA.out.next h1
   have hkn:k<n:=by rw [← HL.out];exact hk
   have hOp:=openFunction_any w0 B a n c ps (cutTo l k) l k w1 HC.out hkn (by have:=(cutTo_small l k).1;omega) hW
   rw [← hc] at hOp
   have HA2:=hide hA2
   have HS2:=hide (HS.out.next h8)
   clear hW hA2 hc hp h1
   generalize partAt l k=pp at *
   go_wp2_with fail
   refine hOp.mono ?_
   rintro e w2 ⟨rfl,hq⟩
   have HQ:=hide hq
   clear hOp hq d24 d23 d22
   go_wp2_with fail
   refine wp_label ?_
   rename_i Kx hKx
   refine hKx _ _ (HP.out N _ w2 ⟨k+1,ps,⟨_,rfl,rfl,rfl⟩,HA2.out,HS2.out,HQ.out⟩ ?_)
   have:=HN.out
   unfold FnU
   rw [HQ.out.pos]
   omega
  ·have h1':(kindAt l k != 1)=true:=by simpa using h1
   have HWR:=hide (HA.out.wrong hp h1)
   clear hW hp h1 HP
   generalize partAt l k=pp at *
   generalize kindAt l k=kd at *
   go_wp2_with fail
   first | rw [jumps_ret] | skip
   exact HRET.out _ w1 false (k) ps rfl rfl HW.out (fun h=>by cases h) (fun _=>HWR.out)
set_option maxHeartbeats 8000000 in
theorem fn_par (w0:World) (B:Nat) (a:Option Addr) (n c:Nat) (l:List InstT) (Q:Exit→Act→World→Prop) (C:LyC w0 B a n l) (hret:FnRet w0 B a n c l Q)
  (hprev:∀ N a1 w',FnJ w0 B a n c l 2 a1 w'→FnU B n 2 a1 w'≤N→(behind (findLabel (scopeL (Tryz.f86.body.getD .skip)) 2)).wp Tryz.prog (jumps (fun l' a' w'=>FnJ w0 B a n c l l' a' w'∧FnU B n l' a' w'<N) Q) a1 w')
  (N:Nat) (a1:Act) (w1:World) (hJ:FnJ w0 B a n c l 1 a1 w1) (hN:FnU B n 1 a1 w1≤N) :
  (behind (findLabel (scopeL (Tryz.f86.body.getD .skip)) 1)).wp Tryz.prog (jumps (fun l' a' w'=>FnJ w0 B a n c l l' a' w'∧FnU B n l' a' w'<N) Q) a1 w1:=by
 obtain⟨k,ps,⟨t,rfl,hsz,h0⟩,hA,hS,hW⟩:=hJ
 have HN:Hid (n - k≤N):=by
  unfold FnU at hN
  rw [hW.pos] at hN
  exact hN
 conv=>arg 2;whnf
 rw [frame103 t hsz,h0]
 clear h0 hsz hN
 have HC:=hide C
 have HRET:=hide hret
 have HW:=hide hW
 have HA:=hide hA
 have HS:=hide hS
 have hnl:=C.hl
 have HL:=hide hnl
 obtain⟨d24,d23,d22,hBl⟩:=hW.kind
 have HP:=hide hprev
 clear hprev
 clear C hret hA hS hnl
 by_cases h2:kindAt l k=2
 ·rw [h2] at d24
  obtain⟨hk,h8,hA2,hc⟩:=HA.out.par h2
  obtain⟨_,_,fs,f,hcut⟩:=HA.out
  have hc':=hc fs f hcut
  obtain⟨m1,m2,m3⟩:=cutTo_last hcut
  have hkn:k<n:=by rw [← HL.out];exact hk
  rw [hcut] at hW
  have hAp:=addParameter_any w0 B a n c ps fs f l k w1 HC.out hkn (by omega) (by omega) hW
  rw [← hc'] at hAp
  have HA2:=hide hA2
  have HS2:=hide (HS.out.next h8)
  clear hW hA2 hc hc' h2 hcut
  go_wp2_with fail
  refine hAp.mono ?_
  rintro e w2 ⟨rfl,hq⟩
  have HQ:=hide hq
  clear hAp hq d24 d23 d22
  go_wp2_with fail
  go_step3
  refine (show FnJ w0 B a n c l 1 _ w2∧FnU B n 1 _ w2<N from ⟨⟨k+1,ps,⟨_,rfl,rfl,rfl⟩,HA2.out,HS2.out,HQ.out⟩,?_⟩)
  have:=HN.out
  unfold FnU
  rw [HQ.out.pos]
  omega
 ·have h2':(kindAt l k==2)=false:=by simpa using h2
  by_cases h8:kindAt l k=8
  ·rw [h8] at d24 h2'
   have HA2:=hide (HA.out.blk h8)
   clear hW h2 h8
   go_wp2_with fail
   refine wp_label ?_
   rename_i Kx hKx
   refine hKx _ _ (HP.out N _ w1 ⟨k,ps,16,⟨_,rfl,rfl,rfl,rfl⟩,HA2.out,HS.out,HW.out⟩ ?_)
   have:=HN.out
   unfold FnU
   rw [HW.out.pos]
   omega
  ·have h8':(kindAt l k==8)=false:=by simpa using h8
   have HWR:=hide (HA.out.wrong h2 h8)
   clear hW h2 h8 HP
   generalize kindAt l k=kd at *
   go_wp2_with fail
   first | rw [jumps_ret] | skip
   exact HRET.out _ w1 false (k) ps rfl rfl HW.out (fun h=>by cases h) (fun _=>HWR.out)
set_option maxHeartbeats 8000000 in
theorem fn_blk (w0:World) (B:Nat) (a:Option Addr) (n c:Nat) (l:List InstT) (Q:Exit→Act→World→Prop) (C:LyC w0 B a n l) (hret:FnRet w0 B a n c l Q)
  (hprev:∀ N a1 w',FnJ w0 B a n c l 3 a1 w'→FnU B n 3 a1 w'≤N→(behind (findLabel (scopeL (Tryz.f86.body.getD .skip)) 3)).wp Tryz.prog (jumps (fun l' a' w'=>FnJ w0 B a n c l l' a' w'∧FnU B n l' a' w'<N) Q) a1 w')
  (N:Nat) (a1:Act) (w1:World) (hJ:FnJ w0 B a n c l 2 a1 w1) (hN:FnU B n 2 a1 w1≤N) :
  (behind (findLabel (scopeL (Tryz.f86.body.getD .skip)) 2)).wp Tryz.prog (jumps (fun l' a' w'=>FnJ w0 B a n c l l' a' w'∧FnU B n l' a' w'<N) Q) a1 w1:=by
 obtain⟨k,ps,head,⟨t,rfl,hsz,h0,h3⟩,hA,hS,hW⟩:=hJ
 have HN:Hid (n - k≤N):=by
  unfold FnU at hN
  rw [hW.pos] at hN
  exact hN
 conv=>arg 2;whnf
 rw [frame103 t hsz,h0,h3]
 clear h0 h3 hsz hN
 have HC:=hide C
 have HRET:=hide hret
 have HW:=hide hW
 have HA:=hide hA
 have HS:=hide hS
 have hnl:=C.hl
 have HL:=hide hnl
 obtain⟨d24,d23,d22,hBl⟩:=hW.kind
 have HP:=hide hprev
 clear hprev
 clear C hret hA hS hnl
 obtain⟨hk,h8,hA2,hc⟩:=HA.out.next
 obtain⟨_,_,_,fs,f,hcut⟩:=HA.out
 have hc':=hc fs f hcut
 obtain⟨m1,m2,m3⟩:=cutTo_last hcut
 have hkn:k<n:=by rw [← HL.out];exact hk
 rw [hcut] at hW
 have hAp:=openBlock_any w0 B a n c ps fs f l k w1 HC.out hkn (by omega) (by omega) hW
 rw [← hc'] at hAp
 have HA2:=hide hA2
 have HS2:=hide (HS.out.next h8)
 clear hW hA2 hc hc' hcut
 go_wp2_with fail
 refine hAp.mono ?_
 rintro e w2 ⟨rfl,hq⟩
 have HQ:=hide hq
 clear hAp hq d24 d23 d22
 go_wp2_with fail
 refine wp_label ?_
 rename_i Kx hKx
 refine hKx _ _ (HP.out N _ w2 ⟨k+1,ps,head,⟨_,rfl,rfl,rfl,rfl⟩,HA2.out,HS2.out,HQ.out⟩ ?_)
 have:=HN.out
 unfold FnU
 rw [HQ.out.pos]
 omega
set_option maxHeartbeats 8000000 in
theorem fn_hds (w0:World) (B:Nat) (a:Option Addr) (n c:Nat) (l:List InstT) (Q:Exit→Act→World→Prop) (C:LyC w0 B a n l) (hret:FnRet w0 B a n c l Q)
  (hprev:∀ N a1 w',FnJ w0 B a n c l 4 a1 w'→FnU B n 4 a1 w'≤N→(behind (findLabel (scopeL (Tryz.f86.body.getD .skip)) 4)).wp Tryz.prog (jumps (fun l' a' w'=>FnJ w0 B a n c l l' a' w'∧FnU B n l' a' w'<N) Q) a1 w')
  (N:Nat) (a1:Act) (w1:World) (hJ:FnJ w0 B a n c l 3 a1 w1) (hN:FnU B n 3 a1 w1≤N) :
  (behind (findLabel (scopeL (Tryz.f86.body.getD .skip)) 3)).wp Tryz.prog (jumps (fun l' a' w'=>FnJ w0 B a n c l l' a' w'∧FnU B n l' a' w'<N) Q) a1 w1:=by
 obtain⟨k,ps,head,⟨t,rfl,hsz,h0,h3⟩,hA,hS,hW⟩:=hJ
 have HN:Hid (n - k≤N):=by
  unfold FnU at hN
  rw [hW.pos] at hN
  exact hN
 conv=>arg 2;whnf
 rw [frame103 t hsz,h0,h3]
 clear h0 h3 hsz hN
 have HC:=hide C
 have HRET:=hide hret
 have HW:=hide hW
 have HA:=hide hA
 have HS:=hide hS
 have hnl:=C.hl
 have HL:=hide hnl
 obtain⟨d24,d23,d22,hBl⟩:=hW.kind
 have HP:=hide hprev
 clear hprev
 clear C hret hA hS hnl
 by_cases h1:kindAt l k=head
 ·rw [h1] at d24
  obtain⟨hk,h8,hA2,hc⟩:=HA.out.next h1
  have hkn:k<n:=by rw [← HL.out];exact hk
  have hSt:=hW.step HC.out hkn
  rw [← hc] at hSt
  have HA2:=hide hA2
  have HS2:=hide (HS.out.next h8)
  clear hW hA2 hc h1
  go_wp2_with fail
  refine hSt.mono ?_
  rintro e w2 ⟨rfl,hq⟩
  have HQ:=hide hq
  clear hSt hq d24 d23 d22
  go_wp2_with fail
  go_step3
  refine (show FnJ w0 B a n c l 3 _ w2∧FnU B n 3 _ w2<N from ⟨⟨k+1,ps,head,⟨_,rfl,rfl,rfl,rfl⟩,HA2.out,HS2.out,HQ.out⟩,?_⟩)
  have:=HN.out
  unfold FnU
  rw [HQ.out.pos]
  omega
 ·have h1':(kindAt l k==head)=false:=by simpa using h1
  have HA2:=hide (HA.out.body h1)
  clear hW h1
  generalize kindAt l k=kd at *
  go_wp2_with fail
  refine wp_label ?_
  rename_i Kx hKx
  refine hKx _ _ (HP.out N _ w1 ⟨k,ps,⟨_,rfl,rfl,rfl⟩,HA2.out,HS.out,HW.out⟩ ?_)
  have:=HN.out
  unfold FnU
  rw [HW.out.pos]
  omega
set_option maxHeartbeats 8000000 in
theorem fn_body (w0:World) (B:Nat) (a:Option Addr) (n c:Nat) (l:List InstT) (Q:Exit→Act→World→Prop) (C:LyC w0 B a n l) (hret:FnRet w0 B a n c l Q)
  (N:Nat) (a1:Act) (w1:World) (hJ:FnJ w0 B a n c l 4 a1 w1) (hN:FnU B n 4 a1 w1≤N) :
  (behind (findLabel (scopeL (Tryz.f86.body.getD .skip)) 4)).wp Tryz.prog (jumps (fun l' a' w'=>FnJ w0 B a n c l l' a' w'∧FnU B n l' a' w'<N) Q) a1 w1:=by
 obtain⟨k,ps,⟨t,rfl,hsz,h0⟩,hA,hS,hW⟩:=hJ
 have HN:Hid (n - k≤N):=by
  unfold FnU at hN
  rw [hW.pos] at hN
  exact hN
 conv=>arg 2;whnf
 rw [frame103 t hsz,h0]
 clear h0 hsz hN
 have HC:=hide C
 have HRET:=hide hret
 have HW:=hide hW
 have HA:=hide hA
 have HS:=hide hS
 have hnl:=C.hl
 have HL:=hide hnl
 obtain⟨d24,d23,d22,hBl⟩:=hW.kind
 clear C hret hA hS hnl
 by_cases h1:kindAt l k=64
 ·rw [h1] at d24
  obtain⟨hk,h8,hA2,hc⟩:=HA.out.plain h1
  have hkn:k<n:=by rw [← HL.out];exact hk
  have hSt:=hW.step HC.out hkn
  rw [← hc] at hSt
  have HA2:=hide hA2
  have HS2:=hide (HS.out.next h8)
  clear hW hA2 hc h1
  go_wp2_with fail
  refine hSt.mono ?_
  rintro e w2 ⟨rfl,hq⟩
  have HQ:=hide hq
  clear hSt hq d24 d23 d22
  go_wp2_with fail
  go_step3
  refine (show FnJ w0 B a n c l 4 _ w2∧FnU B n 4 _ w2<N from ⟨⟨k+1,ps,⟨_,rfl,rfl,rfl⟩,HA2.out,HS2.out,HQ.out⟩,?_⟩)
  have:=HN.out
  unfold FnU
  rw [HQ.out.pos]
  omega
 have h64:=h1
 clear h1
 by_cases h1:kindAt l k=128
 ·rw [h1] at d24
  have hstep:=HA.out.sel h1
  obtain⟨hk,h8,hF2,ha2,hc⟩:=hstep
  have hkn:k<n:=by rw [← HL.out];exact hk
  have hSt:=hW.step HC.out hkn
  rw [← hc] at hSt
  have HS2:=hide (HS.out.next h8)
  have hend:=sel_end hF2 ha2
  have HF2:=hide hF2
  have HCUT:=hide HA.out.2.2.2
  rw [← hc] at HCUT
  clear hW hF2 ha2 hc h1 h8
  go_wp2_with fail
  refine hSt.mono ?_
  rintro e w2 ⟨rfl,hq⟩
  have HQ2:=hide hq
  obtain⟨d24e,_,_,hBl2⟩:=hq.kind
  clear hSt hq d24 d23 d22
  rcases hend with ⟨hz,hwr⟩ | ⟨hz,hl2,h82,hee2,hm2⟩
  ·have HWR:=hide hwr
   clear hwr
   generalize kindAt l (k+1)=kd2 at *
   go_wp2_with fail
   first | rw [jumps_ret] | skip
   exact HRET.out _ w2 false (k+1) ps rfl rfl HQ2.out (fun h=>by cases h) (fun _=>HWR.out)
  ·have HE:Hid (AtEnd l (k+1)):=⟨HF2.out,hm2,h82,hl2,hee2,HCUT.out⟩
   clear hl2 h82 hee2 hm2
   generalize hkd2:kindAt l (k+1)=kd2 at *
   have HKD2:=hide hkd2
   clear hkd2
   obtain⟨_,hm,h8e,hle,hee,fs,f,bs,b,hcut,hbs⟩:=HE.out
   obtain⟨hAft,hc⟩:=HE.out.next
   have hc':=hc fs f hcut
   obtain⟨m1,m2,m3⟩:=cutTo_last hcut
   have hkn:k+1<n:=by rw [← HL.out];exact hle
   have hFe:=HQ2.out
   rw [hcut] at hFe
   have hCb:=closeBlock_any w0 B a n c ps fs f bs b l (k+1) w2 HC.out hkn (by omega) (by omega) hbs hFe
   rw [← hc'] at hCb
   have HAFT:=hide hAft
   have HS5:=hide (HS2.out.next h8e)
   clear hm h8e hle hee hcut hbs hc hc' hFe hAft
   go_wp2_with fail
   refine hCb.mono ?_
   rintro e w5 ⟨rfl,hq⟩
   have HQ5:=hide hq
   obtain⟨e24,e23,e22,hBl5⟩:=hq.kind
   clear hCb hq d24e hz
   by_cases q8:kindAt l (k+1+1)=8
   ·rw [q8] at e24
    have HA6:=hide (HAFT.out.blk q8)
    clear q8
    go_wp2_with fail
    go_step3
    refine (show FnJ w0 B a n c l 2 _ w5∧FnU B n 2 _ w5<N from ⟨⟨k+1+1,ps,32,⟨_,rfl,rfl,rfl,rfl⟩,HA6.out,HS5.out,HQ5.out⟩,?_⟩)
    have:=HN.out
    unfold FnU
    rw [HQ5.out.pos]
    omega
   ·by_cases q4:kindAt l (k+1+1)=4
    ·rw [q4] at e24
     obtain⟨hk6,h86,hA6,hc6⟩:=HAFT.out.fin q4
     obtain⟨_,_,fs6,f6,hcut6⟩:=HAFT.out
     have hc6':=hc6 fs6 f6 hcut6
     obtain⟨m61,_,_⟩:=cutTo_last hcut6
     have hkn6:k+1+1<n:=by rw [← HL.out];exact hk6
     have hFe6:=HQ5.out
     rw [hcut6] at hFe6
     have hCf:=closeFunction_any w0 B a n c ps fs6 f6 l (k+1+1) w5 HC.out hkn6 (by omega) hFe6
     rw [← hc6'] at hCf
     have HA6:=hide hA6
     have HS6:=hide (HS5.out.next h86)
     clear hk6 h86 hA6 hc6 hc6' hcut6 hFe6 q4 q8
     go_wp2_with fail
     refine hCf.mono ?_
     rintro e w7 ⟨rfl,hq⟩
     have HQ7:=hide hq
     clear hCf hq e24 e23 e22
     go_wp2_with fail
     go_step3
     refine (show FnJ w0 B a n c l 0 _ w7∧FnU B n 0 _ w7<N from ⟨⟨k+1+1+1,ps,⟨_,rfl,rfl,rfl⟩,HA6.out,HS6.out,HQ7.out⟩,?_⟩)
     have:=HN.out
     unfold FnU
     rw [HQ7.out.pos]
     omega
    ·have q8':(kindAt l (k+1+1)==8)=false:=by simpa using q8
     have q4':(kindAt l (k+1+1)==4)=false:=by simpa using q4
     have HWR:=hide (HAFT.out.wrong q8 q4)
     clear q8 q4
     generalize kindAt l (k+1+1)=kd5 at *
     go_wp2_with fail
     first | rw [jumps_ret] | skip
     exact HRET.out _ w5 false (k+1+1) ps rfl rfl HQ5.out (fun h=>by cases h) (fun _=>HWR.out)
 have h128:=h1
 clear h1
 by_cases h1:kindAt l k=256
 ·rw [h1] at d24
  have hstep:=HA.out.loop h1
  obtain⟨hk,h8,hF2,ha2,hc⟩:=hstep
  have hkn:k<n:=by rw [← HL.out];exact hk
  have hSt:=hW.step HC.out hkn
  rw [← hc] at hSt
  have HS2:=hide (HS.out.next h8)
  have hend:=loop_end hF2 ha2
  have HF2:=hide hF2
  have HCUT:=hide HA.out.2.2.2
  rw [← hc] at HCUT
  clear hW hF2 ha2 hc h1 h8
  go_wp2_with fail
  refine hSt.mono ?_
  rintro e w2 ⟨rfl,hq⟩
  have HQ2:=hide hq
  obtain⟨d24e,_,_,hBl2⟩:=hq.kind
  clear hSt hq d24 d23 d22
  rcases hend with ⟨hz,hwr⟩ | ⟨hz,hl2,h82,hee2,hm2⟩
  ·have HWR:=hide hwr
   clear hwr
   generalize kindAt l (k+1)=kd2 at *
   go_wp2_with fail
   first | rw [jumps_ret] | skip
   exact HRET.out _ w2 false (k+1) ps rfl rfl HQ2.out (fun h=>by cases h) (fun _=>HWR.out)
  ·have HE:Hid (AtEnd l (k+1)):=⟨HF2.out,hm2,h82,hl2,hee2,HCUT.out⟩
   clear hl2 h82 hee2 hm2
   generalize hkd2:kindAt l (k+1)=kd2 at *
   have HKD2:=hide hkd2
   clear hkd2
   obtain⟨_,hm,h8e,hle,hee,fs,f,bs,b,hcut,hbs⟩:=HE.out
   obtain⟨hAft,hc⟩:=HE.out.next
   have hc':=hc fs f hcut
   obtain⟨m1,m2,m3⟩:=cutTo_last hcut
   have hkn:k+1<n:=by rw [← HL.out];exact hle
   have hFe:=HQ2.out
   rw [hcut] at hFe
   have hCb:=closeBlock_any w0 B a n c ps fs f bs b l (k+1) w2 HC.out hkn (by omega) (by omega) hbs hFe
   rw [← hc'] at hCb
   have HAFT:=hide hAft
   have HS5:=hide (HS2.out.next h8e)
   clear hm h8e hle hee hcut hbs hc hc' hFe hAft
   go_wp2_with fail
   refine hCb.mono ?_
   rintro e w5 ⟨rfl,hq⟩
   have HQ5:=hide hq
   obtain⟨e24,e23,e22,hBl5⟩:=hq.kind
   clear hCb hq d24e hz
   by_cases q8:kindAt l (k+1+1)=8
   ·rw [q8] at e24
    have HA6:=hide (HAFT.out.blk q8)
    clear q8
    go_wp2_with fail
    go_step3
    refine (show FnJ w0 B a n c l 2 _ w5∧FnU B n 2 _ w5<N from ⟨⟨k+1+1,ps,32,⟨_,rfl,rfl,rfl,rfl⟩,HA6.out,HS5.out,HQ5.out⟩,?_⟩)
    have:=HN.out
    unfold FnU
    rw [HQ5.out.pos]
    omega
   ·by_cases q4:kindAt l (k+1+1)=4
    ·rw [q4] at e24
     obtain⟨hk6,h86,hA6,hc6⟩:=HAFT.out.fin q4
     obtain⟨_,_,fs6,f6,hcut6⟩:=HAFT.out
     have hc6':=hc6 fs6 f6 hcut6
     obtain⟨m61,_,_⟩:=cutTo_last hcut6
     have hkn6:k+1+1<n:=by rw [← HL.out];exact hk6
     have hFe6:=HQ5.out
     rw [hcut6] at hFe6
     have hCf:=closeFunction_any w0 B a n c ps fs6 f6 l (k+1+1) w5 HC.out hkn6 (by omega) hFe6
     rw [← hc6'] at hCf
     have HA6:=hide hA6
     have HS6:=hide (HS5.out.next h86)
     clear hk6 h86 hA6 hc6 hc6' hcut6 hFe6 q4 q8
     go_wp2_with fail
     refine hCf.mono ?_
     rintro e w7 ⟨rfl,hq⟩
     have HQ7:=hide hq
     clear hCf hq e24 e23 e22
     go_wp2_with fail
     go_step3
     refine (show FnJ w0 B a n c l 0 _ w7∧FnU B n 0 _ w7<N from ⟨⟨k+1+1+1,ps,⟨_,rfl,rfl,rfl⟩,HA6.out,HS6.out,HQ7.out⟩,?_⟩)
     have:=HN.out
     unfold FnU
     rw [HQ7.out.pos]
     omega
    ·have q8':(kindAt l (k+1+1)==8)=false:=by simpa using q8
     have q4':(kindAt l (k+1+1)==4)=false:=by simpa using q4
     have HWR:=hide (HAFT.out.wrong q8 q4)
     clear q8 q4
     generalize kindAt l (k+1+1)=kd5 at *
     go_wp2_with fail
     first | rw [jumps_ret] | skip
     exact HRET.out _ w5 false (k+1+1) ps rfl rfl HQ5.out (fun h=>by cases h) (fun _=>HWR.out)
 have h256:=h1
 clear h1
 have hend:=body_end HA.out h64 h128 h256
 have h64':(kindAt l k==64)=false:=by simpa using h64
 have h128':(kindAt l k==128)=false:=by simpa using h128
 have h256':(kindAt l k==256)=false:=by simpa using h256
 have HCUT:=hide HA.out.2.2.2
 clear h64 h128 h256 hW
 rcases hend with ⟨hz,hwr⟩ | ⟨hz,hl2,h82,hee2,hm2⟩
 ·have HWR:=hide hwr
  clear hwr
  generalize kindAt l k=kd at *
  go_wp2_with fail
  first | rw [jumps_ret] | skip
  exact HRET.out _ w1 false (k) ps rfl rfl HW.out (fun h=>by cases h) (fun _=>HWR.out)
 ·have HE:Hid (AtEnd l k):=⟨HA.out.1,hm2,h82,hl2,hee2,HCUT.out⟩
  clear hl2 h82 hee2 hm2
  have d24e:=d24
  clear d24
  generalize hkd:kindAt l k=kd at *
  have HKD:=hide hkd
  clear hkd
  obtain⟨_,hm,h8e,hle,hee,fs,f,bs,b,hcut,hbs⟩:=HE.out
  obtain⟨hAft,hc⟩:=HE.out.next
  have hc':=hc fs f hcut
  obtain⟨m1,m2,m3⟩:=cutTo_last hcut
  have hkn:k<n:=by rw [← HL.out];exact hle
  have hFe:=HW.out
  rw [hcut] at hFe
  have hCb:=closeBlock_any w0 B a n c ps fs f bs b l (k) w1 HC.out hkn (by omega) (by omega) hbs hFe
  rw [← hc'] at hCb
  have HAFT:=hide hAft
  have HS5:=hide (HS.out.next h8e)
  clear hm h8e hle hee hcut hbs hc hc' hFe hAft
  go_wp2_with fail
  refine hCb.mono ?_
  rintro e w5 ⟨rfl,hq⟩
  have HQ5:=hide hq
  obtain⟨e24,e23,e22,hBl5⟩:=hq.kind
  clear hCb hq d24e hz
  by_cases q8:kindAt l (k+1)=8
  ·rw [q8] at e24
   have HA6:=hide (HAFT.out.blk q8)
   clear q8
   go_wp2_with fail
   go_step3
   refine (show FnJ w0 B a n c l 2 _ w5∧FnU B n 2 _ w5<N from ⟨⟨k+1,ps,32,⟨_,rfl,rfl,rfl,rfl⟩,HA6.out,HS5.out,HQ5.out⟩,?_⟩)
   have:=HN.out
   unfold FnU
   rw [HQ5.out.pos]
   omega
  ·by_cases q4:kindAt l (k+1)=4
   ·rw [q4] at e24
    obtain⟨hk6,h86,hA6,hc6⟩:=HAFT.out.fin q4
    obtain⟨_,_,fs6,f6,hcut6⟩:=HAFT.out
    have hc6':=hc6 fs6 f6 hcut6
    obtain⟨m61,_,_⟩:=cutTo_last hcut6
    have hkn6:k+1<n:=by rw [← HL.out];exact hk6
    have hFe6:=HQ5.out
    rw [hcut6] at hFe6
    have hCf:=closeFunction_any w0 B a n c ps fs6 f6 l (k+1) w5 HC.out hkn6 (by omega) hFe6
    rw [← hc6'] at hCf
    have HA6:=hide hA6
    have HS6:=hide (HS5.out.next h86)
    clear hk6 h86 hA6 hc6 hc6' hcut6 hFe6 q4 q8
    go_wp2_with fail
    refine hCf.mono ?_
    rintro e w7 ⟨rfl,hq⟩
    have HQ7:=hide hq
    clear hCf hq e24 e23 e22
    go_wp2_with fail
    go_step3
    refine (show FnJ w0 B a n c l 0 _ w7∧FnU B n 0 _ w7<N from ⟨⟨k+1+1,ps,⟨_,rfl,rfl,rfl⟩,HA6.out,HS6.out,HQ7.out⟩,?_⟩)
    have:=HN.out
    unfold FnU
    rw [HQ7.out.pos]
    omega
   ·have q8':(kindAt l (k+1)==8)=false:=by simpa using q8
    have q4':(kindAt l (k+1)==4)=false:=by simpa using q4
    have HWR:=hide (HAFT.out.wrong q8 q4)
    clear q8 q4
    generalize kindAt l (k+1)=kd5 at *
    go_wp2_with fail
    first | rw [jumps_ret] | skip
    exact HRET.out _ w5 false (k+1) ps rfl rfl HQ5.out (fun h=>by cases h) (fun _=>HWR.out)
def cntN (zs:List Int) (p:Nat):Nat:=(nth zs p).toNat / 65536
def badB (zs:List Int) (p:Nat):Bool:=cntN zs p==0 || decide (zs.length<p+cntN zs p)
def restF (zs:List Int):Nat→Nat→List Nat
 | 0,_=>[]
 | f+1,p=>if p<zs.length then (if badB zs p then [] else p :: restF zs f (p+cntN zs p)) else []
def stopF (zs:List Int):Nat→Nat→Nat
 | 0,p=>p
 | f+1,p=>if p<zs.length then (if badB zs p then p else stopF zs f (p+cntN zs p)) else p
def rest (zs:List Int) (p:Nat):List Nat:=restF zs (zs.length - p) p
def stop (zs:List Int) (p:Nat):Nat:=stopF zs (zs.length - p) p

theorem own_base {w:World} {B B' e size n:Nat} {v:Value} {xs:List Value} (h:w.ownsRow B e size v n xs) (hb:B'≤B):w.ownsRow B' e size v n xs:=by
 refine⟨h.1,?_⟩
 rcases h.2 with hn | ⟨g,cap,cur,rfl,hg,rest⟩
 ·exact .inl hn
 ·exact .inr ⟨g,cap,cur,rfl,Nat.le_trans hb hg,rest⟩
theorem nthR_lo (rs:List (Int×List Int)) (r:Int×List Int) (j:Nat) (h:j<rs.length):nthR (rs++[r]) j=nthR rs j:=by
 simp [nthR,List.getD,List.getElem?_append_left h]
theorem nthR_hi (rs:List (Int×List Int)) (r:Int×List Int):nthR (rs++[r]) rs.length=r:=by
 simp [nthR,List.getD]
def Apartly (w:World) (lo:Nat) (row:Option Nat):Prop:=∀ g,row=some g→g<lo∨∃ o:Obj,w.heap[g]?=some o∧o.isCells=false
theorem own_apartly {w w':World} {lo e size n:Nat} {v:Value} {xs:List Value} {row:Option Nat} (h:w.ownsRow lo e size v n xs) (hg:w.grownBy w' row) (hr:Apartly w lo row):w'.ownsRow lo e size v n xs:=by
 refine⟨h.1,?_⟩
 rcases h.2 with hn | ⟨g,cap,cur,rfl,hb,hgg,rest⟩
 ·exact .inl hn
 ·refine .inr ⟨g,cap,cur,rfl,hb,?_,rest⟩
  rw [hg.block g (Array.getElem?_eq_some_iff.1 hgg).1 (fun e=>?_)]
  ·exact hgg
  ·rcases hr g e.symm with h1 | ⟨o,h1,h2⟩
   ·omega
   ·rw [hgg] at h1;cases h1;cases h2
structure RowO (w : World) (lo : Nat) (ob : Option Nat) (rs : List (Int × List Int)) (cs : List Value) : Prop where
  len : cs.length = rs.length * 2
  each : ∀ j, j < rs.length → ∃ aj cj nj, cs[j * 2]? = some (.int .u16 (nthR rs j).1) ∧ cs[j * 2 + 1]? = some (.slice aj nj cj) ∧ (nthR rs j).2.length = nj ∧
    w.ownsRow lo 22 1 (.slice aj nj cj) nj ((nthR rs j).2.map (Value.int .u32)) ∧ (∀ g, Value.ownBlock (.slice aj nj cj) = some g → ob ≠ some g) ∧
    ∀ i, i < rs.length → i ≠ j → ∀ ai ci ni g, cs[i * 2 + 1]? = some (.slice ai ni ci) → Value.ownBlock (.slice ai ni ci) = some g → Value.ownBlock (.slice aj nj cj) ≠ some g
theorem rowO_nil {w:World} {lo:Nat} {ob:Option Nat}:RowO w lo ob [] []:=⟨rfl,fun j hj=>by simp at hj⟩
theorem RowO.grown {w w':World} {lo:Nat} {ob:Option Nat} {rs:List (Int×List Int)} {cs:List Value} {row:Option Nat} (h:RowO w lo ob rs cs) (hg:w.grownBy w' row) (hr:Apartly w lo row):RowO w' lo ob rs cs:=by
 refine⟨h.len,fun j hj=>?_⟩
 obtain⟨aj,cj,nj,h1,h2,h3,h4,h5,h6⟩:=h.each j hj
 exact⟨aj,cj,nj,h1,h2,h3,own_apartly h4 hg hr,h5,h6⟩
theorem RowO.below {w w':World} {lo:Nat} {ob:Option Nat} {rs:List (Int×List Int)} {cs:List Value} (h:RowO w lo ob rs cs) (hb:Below w.heap.size w w'):RowO w' lo ob rs cs :=
 h.grown (grown_of_below hb none) (fun g e=>by cases e)
theorem RowO.push {w0 w w':World} {v:Value} {g' lo:Nat} {rs:List (Int×List Int)} {cs:List Value} {op:Int} {ms:List Int} {a:Option Addr} {n c:Nat}
  (h:RowO w0 lo v.ownBlock rs cs) (hb:Below w0.heap.size w0 w) (hs:w.ownsRow w0.heap.size 22 1 (.slice a n c) n (ms.map (Value.int .u32))) (hl:ms.length=n) (hv:∀ b,v.ownBlock=some b→b<w0.heap.size) (hlo:lo≤w0.heap.size)
  (hg:w.grownBy w' v.ownBlock) (hat:v.ownBlock=some g'∨g'=w.heap.size):RowO w' lo (some g') (rs++[(op,ms)]) (cs++[.int .u16 op,.slice a n c]):=by
 have hcl:=h.len
 -- the new words' block
 have hnew:∀ g,Value.ownBlock (.slice a n c)=some g→w0.heap.size≤g∧g<w.heap.size:=fun g e=>hs.lt g e
 have hold:∀ i,i<rs.length→∀ ai ci ni g,cs[i * 2+1]?=some (.slice ai ni ci)→Value.ownBlock (.slice ai ni ci)=some g→g<w0.heap.size:=fun i hi ai ci ni g hc e=>by
  obtain⟨aj,cj,nj,_,h2,_,h4,_⟩:=h.each i hi
  rw [hc] at h2
  cases h2
  exact (h4.lt g e).2
 have hown:∀ {sv:Value} {m:Nat} {xs:List Value} {B:Nat},w.ownsRow B 22 1 sv m xs→(∀ g,sv.ownBlock=some g→v.ownBlock≠some g)→w'.ownsRow B 22 1 sv m xs:=fun h1 h2=>own_grown h1 hg (fun g e e2=>h2 g e2 e)
 have hne:∀ g,g<w.heap.size→v.ownBlock≠some g→some g'≠some g:=fun g h1 h2 e=>by
  cases e
  rcases hat with h3 | h3
  ·exact h2 h3
  ·omega
 refine⟨by simp [hcl];omega,fun j hj=>?_⟩
 rw [List.length_append,List.length_singleton] at hj
 by_cases hjl:j<rs.length
 ·obtain⟨aj,cj,nj,h1,h2,h3,h4,h5,h6⟩:=h.each j hjl
  rw [nthR_lo _ _ _ hjl]
  refine⟨aj,cj,nj,by rw [List.getElem?_append_left (by omega)];exact h1,by rw [List.getElem?_append_left (by omega)];exact h2,h3,hown (own_below h4 hb) h5,fun g e=>hne g (by have:=(h4.lt g e).2;have:=hb.size;omega) (h5 g e),?_⟩
  intro i hi hij ai ci ni g hci e
  rw [List.length_append,List.length_singleton] at hi
  by_cases hil:i<rs.length
  ·rw [List.getElem?_append_left (by omega)] at hci
   exact h6 i hil hij ai ci ni g hci e
  ·obtain rfl:i=rs.length:=by omega
   rw [List.getElem?_append_right (by omega),show rs.length * 2+1 - cs.length=1 by omega] at hci
   simp at hci
   obtain⟨rfl,rfl,rfl⟩:=hci
   intro e2
   have h7:=(hnew g e).1
   have h8:=hold j hjl aj cj nj g h2 e2
   omega
 ·obtain rfl:j=rs.length:=by omega
  rw [nthR_hi]
  refine⟨a,c,n,?_,?_,hl,?_,fun g e=>hne g (hnew g e).2 (fun e2=>by have:=hv g e2;have:=(hnew g e).1;omega),?_⟩
  ·rw [List.getElem?_append_right (by omega),show rs.length * 2 - cs.length=0 by omega];rfl
  ·rw [List.getElem?_append_right (by omega),show rs.length * 2+1 - cs.length=1 by omega];rfl
  ·refine hown ⟨hs.1,?_⟩ (fun g e e2=>by have:=hv g e2;have:=(hnew g e).1;omega)
   rcases hs.2 with h0 | ⟨g,cap,cur,e,hb',rest⟩
   ·exact .inl h0
   ·exact .inr ⟨g,cap,cur,e,Nat.le_trans hlo hb',rest⟩
  ·intro i hi hij ai ci ni g hci e e2
   rw [List.length_append,List.length_singleton] at hi
   have hil:i<rs.length:=by omega
   rw [List.getElem?_append_left (by omega)] at hci
   have:=hold i hil ai ci ni g hci e
   have:=(hnew g e2).1
   omega
theorem RowO.own {w:World} {T n cap lo:Nat} {a:Option Addr} {rs:List (Int×List Int)} {cs:List Value} (h:RowO w lo (Value.ownBlock (.slice a n cap)) rs cs) (hown:w.ownsRow lo T 2 (.slice a n cap) n cs) (hl:rs.length=n):OwnR w lo a 0 rs:=by
 intro j _ hj
 rcases hown.2 with ⟨_,hn⟩ | ⟨g,cap',cur,hv,hb,hgg,_⟩
 ·omega
 ·cases hv
  obtain⟨aj,cj,nj,h1,h2,h3,h4,h5,h6⟩:=h.each j hj
  have hcl:=h.len
  have c1:=hown.cellAt (j * 2) (by omega)
  have c2:=hown.cellAt (j * 2+1) (by omega)
  rw [h1] at c1
  rw [h2] at c2
  refine⟨g,0,aj,cj,nj,rfl,hb,(Array.getElem?_eq_some_iff.1 hgg).1,by rw [Nat.zero_add];exact c1,by rw [Nat.zero_add];exact c2,h3,h4,fun e=>h5 g e rfl,?_⟩
  intro i _ hi hij ai ci ni g2 hci e
  have c3:=hown.cellAt (i * 2+1) (by omega)
  rw [Nat.zero_add,c3] at hci
  exact h6 i hi hij ai ci ni g2 hci e

theorem own_shape {w:World} {B e n:Nat} {v:Value} {xs:List Value} (h:w.ownsRow B e 1 v n xs):∃ a c,v=.slice a n c:=by
 rcases h.2 with ⟨rfl,rfl⟩ | ⟨g,c,cur,rfl,_⟩
 ·exact⟨none,0,rfl⟩
 ·exact⟨_,c,rfl⟩

theorem RefWrite.info:(Tryz.prog.info? 22).map (fun i=>(i.zero,i.size,i.bytes))=some (some (.int .u32 0),1,4):=by kernel_rfl
def rawW (r:Int×List Int):List Int:=(((r.2.length:Int)+1) * 65536+r.1) :: r.2
def writeTo (gen bound:Int) (rs:List (Int×List Int)) (k:Nat):List Int:=[119734787,65536,gen,bound,0]++(rs.take k).flatMap rawW
theorem writeTo_succ (gen bound:Int) (rs:List (Int×List Int)) (k:Nat) (h:k<rs.length):writeTo gen bound rs (k+1)=writeTo gen bound rs k++rawW (nthR rs k):=by
 have e:rs.take (k+1)=rs.take k++[nthR rs k]:=by
  rw [List.take_succ_eq_append_getElem h];simp [nthR,List.getD,h]
 rw [writeTo,e,List.flatMap_append,← List.append_assoc];simp [writeTo]
theorem writeTo_len (gen bound:Int) (rs:List (Int×List Int)):∀ k,k≤rs.length→(writeTo gen bound rs k).length=sizeTo rs k
 | 0,_=>rfl
 | k+1,h=>by
  rw [writeTo_succ gen bound rs k (by omega),List.length_append,writeTo_len gen bound rs k (by omega),sizeTo_succ rs k (by omega)]
  simp [rawW];omega

def writeE (bound:Int) (rs:List (Int×List Int)):Int×Nat:=if bound=0∨65536<bound then (24,0) else fault rs 0
def writeL (gen bound:Int) (rs:List (Int×List Int)):List Int:=if (writeE bound rs).1=0 then writeTo gen bound rs rs.length else []
def WriteC (f:Nat):Prop:=∀ (gen bound:Int) (a:Option Addr) (n cap:Nat) (rs:List (Int×List Int)) (w:World),0≤gen→gen<4294967296→0≤bound→bound<4294967296→RawsV w a rs→RawsOk rs→rs.length=n→32 * n≤140737488351232→n≤cap →
 Calls Tryz.prog f #[.agg #[.int .u32 gen,.int .u32 bound],.slice a n cap] w fun e w'=>Below w.heap.size w w'∧∃ ax cx m,e=.returned (.tuple #[.slice ax m cx,.agg #[.int .i64 (writeE bound rs).1,.int .i64 (writeE bound rs).2]])∧(writeL gen bound rs).length=m ∧
  w'.ownsRow w.heap.size 22 1 (.slice ax m cx) m ((writeL gen bound rs).map (Value.int .u32))
theorem mayBeBound_any (x : Int) (w : World) (h0 : 0 ≤ x) (h1 : x < 4294967296) :
    Calls Tryz.prog 179 #[.int .u32 x] w fun e w' => e = .returned (.bool (!(decide (x = 0) || decide (65536 < x)))) ∧ w = w' := by
  go_enter Tryz.func179, Tryz.ntmps179
  go_wp2
  · go_ret
    refine ⟨?_, rfl⟩
    have hx : 1 ≤ x := by assumption
    show Ending.returned (.bool (decide (x ≤ 65536))) = _
    congr 2
    by_cases h : x ≤ 65536
    · simp [h, show ¬ x = 0 by omega]
    · simp [h]; omega
  · go_ret
    refine ⟨?_, rfl⟩
    have hx : ¬ 1 ≤ x := by first | assumption | (have : x < 1 := by assumption
                                                  omega)
    obtain rfl : x = 0 := by omega
    rfl
theorem wordsOf_any (op:Int) (a:Option Addr) (n cap:Nat) (w:World) (hn:n≤140737488351232) :
  Calls Tryz.prog 193 #[.agg #[.int .u16 op,.slice a n cap]] w fun e w'=>e=.returned (.int .i64 ((n:Int)+1))∧w.alloc (.cells #[.int .u16 op,.slice a n cap] 217)=w':=by
 go_enter Tryz.func193,Tryz.ntmps193
 go_wp2
 go_ret
 exact⟨ret_int (by omega),rfl⟩
theorem firstWord_any (op:Int) (a:Option Addr) (n cap:Nat) (w:World) (hn:n<65535) (ho:0≤op) (ho2:op<65536) :
  Calls Tryz.prog 181 #[.agg #[.int .u16 op,.slice a n cap]] w fun e w'=>e=.returned (.int .u32 (((n:Int)+1) * 65536+op))∧Below w.heap.size w w':=by
 have hW:=fun w=>wordsOf_any op a n cap w (by omega)
 go_enter Tryz.func181,Tryz.ntmps181
 go_wp2_with fail
 go_region_with (go_at_call 193;refine (hW _).mono ?_;rintro e w' ⟨rfl,rfl⟩)
 all_goals go_wp2
 all_goals go_ret
 all_goals refine⟨?_,(((Below.refl _ _).alloc (Nat.le_refl _) _).alloc (by simp) _).drew⟩
 all_goals
  show Ending.returned (.int .u32 (bits .or .u32 (IntKind.u32.wrap (IntKind.u32.wrap ((n:Int)+1) * 65536)) (IntKind.u32.wrap op)))=_
  apply ret_int
  rw [show IntKind.u32.wrap ((n:Int)+1)=(n:Int)+1 by rw [IntKind.wrap_u32'];omega,show IntKind.u32.wrap (((n:Int)+1) * 65536)=((n:Int)+1) * 65536 by rw [IntKind.wrap_u32'];omega,show IntKind.u32.wrap op=op by rw [IntKind.wrap_u32'];omega]
  exact or_high ((n:Int)+1) op 16 (by omega) ho (by omega) (by omega)
theorem fault_any (rs:List (Int×List Int)):fault rs 0=(0,0)∨(fault rs 0).1≠0:=by
 have key:∀ f k,faultF rs f k=(0,0)∨(faultF rs f k).1≠0:=by
  intro f
  induction f with
  | zero=>intro k;exact .inl rfl
  | succ f ih =>
   intro k
   rw [faultF]
   split
   ·split
    ·exact .inr (by simp)
    ·split
     ·exact .inr (by simp)
     ·exact ih (k+1)
   ·exact .inl rfl
 exact key _ _
theorem spot_set {w:World} {g T:Nat} {a b:Value} (h:w.heap[g]?=some (.cells #[a,b] T (0,0))) (u0 u1:Value) :
  ((w.setCell ⟨g,0,none⟩ u0).setCell ⟨g,1,none⟩ u1).cell? ⟨g,0,none⟩=some u0∧((w.setCell ⟨g,0,none⟩ u0).setCell ⟨g,1,none⟩ u1).cell? ⟨g,1,none⟩=some u1:=by
 have hfin:((w.setCell ⟨g,0,none⟩ u0).setCell ⟨g,1,none⟩ u1).heap[g]?=some (.cells #[u0,u1] T (0,0)):=by
  simp only [World.setCell,Array.getElem?_modify,h];simp
 obtain⟨z0,z1,_⟩:=cell_of_two hfin
 exact⟨z0,z1⟩
theorem cell_past {w:World} {g j:Nat} {o:Obj} {v:Value} (h:w.cell? ⟨g,j,none⟩=some v):(w.alloc o).cell? ⟨g,j,none⟩=some v:=by
 rw [World.cell?_alloc_past _ _ _ (World.block_lt_of_cell? _ _ h)];exact h
set_option maxRecDepth 100000 in
set_option maxHeartbeats 2000000 in
theorem measure_any (a:Option Addr) (n cap:Nat) (rs:List (Int×List Int)) (w:World) (ha:RawsV w a rs) (hok:RawsOk rs) (hl:rs.length=n) (hn:32 * n≤140737488351232) :
  Calls Tryz.prog 180 #[.slice a n cap] w fun e w'=>e=.returned (.tuple #[.int .i64 (sizeOut rs),.agg #[.int .i64 (fault rs 0).1,.int .i64 (fault rs 0).2]])∧Below w.heap.size w w':=by
 have HL:Hid (rs.length=n):=hl
 clear hl
 go_enter Tryz.func180,Tryz.ntmps180
 go_wp2
 go_loopw [4,9] (fun s i wr=>∃ k:Nat,k≤n∧i=.int .i64 k∧s=.int .i64 (sizeTo rs k)∧sizeTo rs k≤1048576∧fault rs 0=fault rs k∧wr.heap[w.heap.size]?=some (.cells #[.int .i64 0,.int .i64 0] 33 (0,0))∧Below w.heap.size w wr) (fun _ i _=>n - (intOf i).toNat)
 case atStart=>exact⟨0,Nat.zero_le _,rfl,rfl,by rw [sizeTo_zero];omega,rfl,heap_alloc_new w _,(Below.refl _ _).alloc (Nat.le_refl _) _⟩
 case round =>
  obtain⟨k,hk,rfl,rfl,hsz,hfe,hbox,hnx⟩:=hrel
  have HF:Hid (fault rs 0=fault rs k):=hfe
  clear hfe
  have hlt0:w.heap.size<wr.heap.size:=(Array.getElem?_eq_some_iff.1 hbox).1
  by_cases hlt:k<n
  ·obtain⟨b,off,aj,cj,nj,rfl,hbs,p1,p2,p3,_,_⟩:=ha k (by rw [HL.out];exact hlt)
   obtain⟨_,_,_,h4⟩:=hok k (by rw [HL.out];exact hlt)
   rw [p3] at h4
   have HS:Hid (sizeTo rs (k+1)=sizeTo rs k+1+(nthR rs k).2.length):=sizeTo_succ rs k (by rw [HL.out];exact hlt)
   have HT:=fault_step rs k (by rw [HL.out];exact hlt)
   rw [p3] at HT HS
   have HT':Hid (fault rs k=if 65535≤nj then (25,k) else if 1048576<sizeTo rs (k+1) then (4,k) else fault rs (k+1)):=HT
   have q1:=(hnx.cell (p:=⟨b,off+k * 2,none⟩) hbs).trans p1
   have q2:=(hnx.cell (p:=⟨b,off+k * 2+1,none⟩) hbs).trans p2
   generalize sizeTo rs k=s at hsz HS
   have hki:(k:Int)<(n:Int):=by omega
   have hk0:(0:Int)≤(k:Int):=by omega
   have hW:=fun op w=>wordsOf_any op aj nj cj w (by omega)
   generalize (nthR rs k).1=op at q1 p1
   clear HT ha p1 p2 p3 hok
   obtain⟨R1,hR1⟩:∃ o,o=Obj.cells #[.int .u16 op,.slice aj nj cj] 217 (0,0):=⟨_,rfl⟩
   have hbx1:((wr.alloc R1).alloc R1).heap[w.heap.size]?=some (.cells #[.int .i64 0,.int .i64 0] 33 (0,0)):=(Below.heap_alloc _ _ _ (by simp;omega)).trans ((Below.heap_alloc _ _ _ hlt0).trans hbox)
   obtain⟨c0,c1,f1⟩:=cell_of_two hbox
   have f0:wr.frozen? ⟨w.heap.size,0,none⟩=false:=by simp [World.frozen?,hbox]
   by_cases h1:65535≤nj
   ·have b1:decide ((65535:Int)<(nj:Int)+1)=true:=decide_eq_true (by omega)
    have HE:Hid (fault rs 0=(25,k)):=by show _=_;rw [HF.out,HT'.out,if_pos h1]
    have HO:Hid (sizeOut rs=0):=by show _=_;unfold sizeOut;rw [HE.out];rfl
    have hf0:=spot_set hbox (.int .i64 25) (.int .i64 k)
    have hf:=And.intro (cell_past (o:=R1) (cell_past (o:=R1) hf0.1)) (cell_past (o:=R1) (cell_past (o:=R1) hf0.2))
    have HZ:Hid (_∧_):=hf
    have HB:Hid (Below w.heap.size w ((((wr.setCell ⟨w.heap.size,0,none⟩ (.int .i64 25)).setCell ⟨w.heap.size,1,none⟩ (.int .i64 k)).alloc R1).alloc R1)):=(((hnx.setCell (by simp) _).setCell (by simp) _).alloc (by simp;omega) _).alloc (by simp;omega) _
    clear hf hf0 hbx1 hbox
    subst hR1
    go_wp2_with (go_at_call 193;refine (hW _ _).mono ?_;rintro e w' ⟨rfl,rfl⟩)
    exact bodyPost_ret (v:=.tuple #[.int .i64 0,.agg #[.int .i64 25,.int .i64 k]]) (by simp [results,Tryz.results180,go_sem,HZ.out.1,HZ.out.2]) rfl ⟨by rw [HE.out,HO.out],HB.out⟩
   ·have b1:decide ((65535:Int)<(nj:Int)+1)=false:=decide_eq_false (by omega)
    have hbx2:(((wr.alloc R1).alloc R1).alloc R1).heap[w.heap.size]?=some (.cells #[.int .i64 0,.int .i64 0] 33 (0,0)):=(Below.heap_alloc _ _ _ (by simp;omega)).trans hbx1
    have HB2:Hid (Below w.heap.size w (((wr.alloc R1).alloc R1).alloc R1)):=((hnx.alloc hnx.size _).alloc (by simp;omega) _).alloc (by simp;omega) _
    by_cases h2:1048576<s+1+nj
    ·have b2:decide ((1048576:Int)<(s:Int)+((nj:Int)+1))=true:=decide_eq_true (by omega)
     have HE:Hid (fault rs 0=(4,k)):=by show _=_;rw [HF.out,HT'.out,if_neg h1,if_pos (by rw [HS.out];exact h2)]
     have HO:Hid (sizeOut rs=0):=by show _=_;unfold sizeOut;rw [HE.out];rfl
     have hf:=spot_set hbx2 (.int .i64 4) (.int .i64 k)
     obtain⟨c0',c1',f1'⟩:=cell_of_two hbx2
     have f0':(((wr.alloc R1).alloc R1).alloc R1).frozen? ⟨w.heap.size,0,none⟩=false:=by simp only [World.frozen?,hbx2];rfl
     have HZ:Hid (_∧_):=hf
     have HB:Hid (Below w.heap.size w (((((wr.alloc R1).alloc R1).alloc R1).setCell ⟨w.heap.size,0,none⟩ (.int .i64 4)).setCell ⟨w.heap.size,1,none⟩ (.int .i64 k))):=(HB2.out.setCell (by simp) _).setCell (by simp) _
     clear hf hbx1 hbx2 hbox
     subst hR1
     go_wp2_with (go_at_call 193;refine (hW _ _).mono ?_;rintro e w' ⟨rfl,rfl⟩)
     exact bodyPost_ret (v:=.tuple #[.int .i64 0,.agg #[.int .i64 4,.int .i64 k]]) (by simp [results,Tryz.results180,go_sem,HZ.out.1,HZ.out.2]) rfl ⟨by rw [HE.out,HO.out],HB.out⟩
    ·have b2:decide ((1048576:Int)<(s:Int)+((nj:Int)+1))=false:=decide_eq_false (by omega)
     have HE:Hid (fault rs 0=fault rs (k+1)):=by show _=_;rw [HF.out,HT'.out,if_neg h1,if_neg (by rw [HS.out];exact h2)]
     have HX:Hid _:=hbx2
     clear hbx1 hbx2 hbox
     subst hR1
     go_wp2_with (go_at_call 193;refine (hW _ _).mono ?_;rintro e w' ⟨rfl,rfl⟩)
     go_roundw
     case rel=>exact⟨k+1,by omega,by go_num,by rw [HS.out];go_num,by rw [HS.out];omega,HE.out,HX.out,HB2.out⟩
     case measure=>simp [intOf];omega
  ·obtain rfl:k=n:=by omega
   have HE:Hid (fault rs 0=(0,0)):=by show _=_;rw [HF.out];exact fault_end rs k (by rw [HL.out];omega)
   have HO:Hid (sizeOut rs=sizeTo rs k):=by show _=_;unfold sizeOut;rw [HE.out,if_pos rfl,HL.out]
   have hf:=spot_set hbox (.int .i64 0) (.int .i64 0)
   obtain⟨c0,c1,f1⟩:=cell_of_two hbox
   have f0:wr.frozen? ⟨w.heap.size,0,none⟩=false:=by simp [World.frozen?,hbox]
   have HZ:Hid (_∧_):=hf
   have HB:Hid (Below w.heap.size w ((wr.setCell ⟨w.heap.size,0,none⟩ (.int .i64 0)).setCell ⟨w.heap.size,1,none⟩ (.int .i64 0))):=(hnx.setCell (by simp) _).setCell (by simp) _
   clear hf hbox ha hok
   go_wp2
   exact bodyPost_ret (v:=.tuple #[.int .i64 (sizeTo rs k),.agg #[.int .i64 0,.int .i64 0]]) (by simp [results,Tryz.results180,go_sem,HZ.out.1,HZ.out.2]) rfl ⟨by rw [HE.out,HO.out];rfl,HB.out⟩
end Go.Proofs.YtlcaedibmlidlaaGreat
