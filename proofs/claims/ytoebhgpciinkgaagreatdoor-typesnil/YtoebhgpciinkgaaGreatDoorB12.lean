/-
  Texts in one: LayoutFunctions, Puts.
-/
import Derived.Test.YtoebhgpciinkgaaGreatDoorB11
import Derived.Deep.MidRow
namespace Go.Proofs.YtoebhgpciinkgaaGreatDoor
open Go.RowKit
set_option linter.unusedVariables false
set_option linter.unusedSimpArgs false
set_option maxRecDepth 10000
attribute [local go_sem] jumps_normal jumps_exit jumps_ret jumps_panic jumps_goto onNormal_normal

theorem frame103 (t:Array Value) (h:t.size=103):t=#[slot t 0,slot t 1,slot t 2,slot t 3,slot t 4,slot t 5,slot t 6,slot t 7,slot t 8,slot t 9,slot t 10,slot t 11,slot t 12,slot t 13,slot t 14,slot t 15,slot t 16,slot t 17,slot t 18,slot t 19,slot t 20,slot t 21,slot t 22,slot t 23,slot t 24,slot t 25,slot t 26,slot t 27,slot t 28,slot t 29,slot t 30,slot t 31,slot t 32,slot t 33,slot t 34,slot t 35,slot t 36,slot t 37,slot t 38,slot t 39,slot t 40,slot t 41,slot t 42,slot t 43,slot t 44,slot t 45,slot t 46,slot t 47,slot t 48,slot t 49,slot t 50,slot t 51,slot t 52,slot t 53,slot t 54,slot t 55,slot t 56,slot t 57,slot t 58,slot t 59,slot t 60,slot t 61,slot t 62,slot t 63,slot t 64,slot t 65,slot t 66,slot t 67,slot t 68,slot t 69,slot t 70,slot t 71,slot t 72,slot t 73,slot t 74,slot t 75,slot t 76,slot t 77,slot t 78,slot t 79,slot t 80,slot t 81,slot t 82,slot t 83,slot t 84,slot t 85,slot t 86,slot t 87,slot t 88,slot t 89,slot t 90,slot t 91,slot t 92,slot t 93,slot t 94,slot t 95,slot t 96,slot t 97,slot t 98,slot t 99,slot t 100,slot t 101,slot t 102]:=(frame_eq t 103 h).trans rfl
def FrmG (B:Nat) (a':Act):Prop:=∃ t:Array Value,a'={ tmps:=t,defers:=[] }∧t.size=103∧slot t 0=.pointer (some ⟨B,0,none⟩)
def FrmH (B:Nat) (head:Int) (a':Act):Prop:=∃ t:Array Value,a'={ tmps:=t,defers:=[] }∧t.size=103∧slot t 0=.pointer (some ⟨B,0,none⟩)∧slot t 3=.int .u16 head
def FnJ (w0:World) (B:Nat) (a:Option Addr) (n c:Nat) (l:List InstT):Nat→Act→World→Prop
 | 0,a',w'=>∃ (k:Nat) (ps:Nat→Int),FrmG B a'∧AtOut l k∧SpansF l ps k∧FW w0 B a n c ps (cutTo l k) l k w'
 | 1,a',w'=>∃ (k:Nat) (ps:Nat→Int),FrmG B a'∧AtPar l k∧SpansF l ps k∧FW w0 B a n c ps (cutTo l k) l k w'
 | 2,a',w'=>∃ (k:Nat) (ps:Nat→Int) (head:Int),FrmH B head a'∧AtBlk l k head∧SpansF l ps k∧FW w0 B a n c ps (cutTo l k) l k w'
 | 3,a',w'=>∃ (k:Nat) (ps:Nat→Int) (head:Int),FrmH B head a'∧AtHds l k head∧SpansF l ps k∧FW w0 B a n c ps (cutTo l k) l k w'
 | 4,a',w'=>∃ (k:Nat) (ps:Nat→Int),FrmG B a'∧AtBody l k∧SpansF l ps k∧FW w0 B a n c ps (cutTo l k) l k w'
 | _,_,_=>False
def FnU (B n:Nat) (_:Nat) (_:Act) (w':World):Nat:=n - posL B w'
theorem FW.pos {w0:World} {B:Nat} {a:Option Addr} {n c:Nat} {ps:Nat→Int} {fs:List FuncT} {l:List InstT} {k:Nat} {W:World} (h:FW w0 B a n c ps fs l k W):posL B W=k:=by
 obtain⟨⟨fv,hW,_⟩,_⟩:=h;exact hW.pos
theorem FW.kind {w0:World} {B:Nat} {a:Option Addr} {n c:Nat} {ps:Nat→Int} {fs:List FuncT} {l:List InstT} {k:Nat} {W:World} (h:FW w0 B a n c ps fs l k W):W.cell? ⟨B,24,none⟩=some (.int .u16 (kindAt l k))∧W.cell? ⟨B,23,none⟩=some (.int .u8 (partAt l k))∧W.cell? ⟨B,22,none⟩=some (.int .i64 (k:Int))∧B<W.heap.size:=by
 obtain⟨⟨fv,hW,_⟩,_⟩:=h
 exact⟨hW.cells.2.2.2.2.2.1,hW.cells.2.2.2.2.1,hW.cells.2.2.2.1,hW.lt⟩
theorem FW.step {w0:World} {B:Nat} {a:Option Addr} {n c:Nat} {ps:Nat→Int} {fs:List FuncT} {l:List InstT} {k:Nat} {W:World} (h:FW w0 B a n c ps fs l k W) (C:LyC w0 B a n l) (hk:k<n):Calls Tryz.prog 138 #[.pointer (some ⟨B,0,none⟩)] W fun e w'=>e=.returned (.tuple #[])∧FW w0 B a n c ps fs l (k+1) w':=by
 obtain⟨⟨fv,hW,hF⟩,hb⟩:=h
 exact (step_fw C hW hF hb hk).mono fun e w' h=>⟨h.1,h.2.1⟩
theorem FW.set {w0:World} {B:Nat} {a:Option Addr} {n c:Nat} {ps:Nat→Int} {fs:List FuncT} {l:List InstT} {k:Nat} {W:World} (h:FW w0 B a n c ps fs l k W) (hB:w0.heap.size≤B) (i:Nat) (hi:i<20) (x:Int):FW w0 B a n c (fun j=>if j=i then x else ps j) fs l k (W.setCell ⟨B,1+i,none⟩ (.int .i64 x)):=by
 obtain⟨⟨fv,hW,hF⟩,hb⟩:=h
 exact⟨⟨fv,hW.setSpan i hi x,hF.kept (grown_cell W B (1+i) _) (fun g e=>by simp at e;omega)⟩,below_grown hb (grown_cell W B (1+i) _) (fun g e=>by simp at e;omega)⟩
theorem FW.drew {w0:World} {B:Nat} {a:Option Addr} {n c:Nat} {ps:Nat→Int} {fs:List FuncT} {l:List InstT} {k:Nat} {W W':World} (h:FW w0 B a n c ps fs l k W) (hb:Below W.heap.size W W'):FW w0 B a n c ps fs l k W':=by
 obtain⟨⟨fv,hW,hF⟩,h2⟩:=h
 exact⟨⟨fv,hW.below hb,hF.below hb⟩,h2.trans (hb.mono h2.size)⟩
def SpansE (l:List InstT) (ps:Nat→Int):Prop:=∀ i,i<20→ps i=cntP l ((i+1) / 2) l.length
theorem SpansF.done {l:List InstT} {ps:Nat→Int} {k:Nat} (h:SpansF l ps k) (hk:k=l.length):SpansE l (fun j=>if j=19 then (k:Int) else if j=18 then (k:Int) else if j=17 then (k:Int) else ps j):=by
 subst hk
 have all:∀ p:Nat,9≤p→cntP l p l.length=l.length:=fun p hp=>cntP_all fun i _=>by have:=partI_eight (nthI l i);omega
 intro i hi
 simp only
 by_cases e:i=19
 ·subst e;rw [if_pos rfl,all _ (by omega)]
 ·rw [if_neg e]
  by_cases e:i=18
  ·subst e;rw [if_pos rfl,all _ (by omega)]
  ·rw [if_neg e]
   by_cases e:i=17
   ·subst e;rw [if_pos rfl,all _ (by omega)]
   ·rw [if_neg e];exact h i (by omega)
def FnRet (w0:World) (B:Nat) (a:Option Addr) (n c:Nat) (l:List InstT) (Q:Exit→Act→World→Prop):Prop :=
 ∀ (a':Act) (w':World) (b:Bool) (k:Nat) (ps:Nat→Int),slot a'.tmps 2=.bool b→a'.defers=[]→FW w0 B a n c ps (cutTo l k) l k w'→(b=true→SpansE l ps∧k=l.length∧okTo l k∧modelsN l k≠0∧(aheadO l k=0∨aheadO l k=56))→(b=false→wrongAt l k)→Q .ret a' w'
set_option maxHeartbeats 8000000 in
theorem fn_out (w0:World) (B:Nat) (a:Option Addr) (n c:Nat) (l:List InstT) (Q:Exit→Act→World→Prop) (C:LyC w0 B a n l) (hret:FnRet w0 B a n c l Q)
  (hprev:∀ N a1 w',FnJ w0 B a n c l 1 a1 w'→FnU B n 1 a1 w'≤N→(behind (findLabel (scopeL (Tryz.f117.body.getD .skip)) 1)).wp Tryz.prog (jumps (fun l' a' w'=>FnJ w0 B a n c l l' a' w'∧FnU B n l' a' w'<N) Q) a1 w')
  (N:Nat) (a1:Act) (w1:World) (hJ:FnJ w0 B a n c l 0 a1 w1) (hN:FnU B n 0 a1 w1≤N) :
  (behind (findLabel (scopeL (Tryz.f117.body.getD .skip)) 0)).wp Tryz.prog (jumps (fun l' a' w'=>FnJ w0 B a n c l l' a' w'∧FnU B n l' a' w'<N) Q) a1 w1:=by
 obtain⟨k,ps,⟨t,rfl,hsz,h0⟩,hA,hS,hW⟩:=hJ
 have HN:Hid (n - k≤N):=by
  unfold FnU at hN
  rw [hW.pos] at hN
  exact hN
 conv=>arg 2;whnf
 rw [frame103 t hsz,h0]
 clear h0 hsz hN
 have HC:=hide C
 have HRET:=hide hret
 have HW:=hide hW
 have HA:=hide hA
 have HS:=hide hS
 have hnl:=C.hl
 have HL:=hide hnl
 obtain⟨d24,d23,d22,hBl⟩:=hW.kind
 have HP:=hide hprev
 clear hprev
 clear C hret hA hS hnl
 have hBB:=HC.out.hB
 by_cases hp:partAt l k=9
 ·rw [hp] at d23
  have HW4:=hide (((HW.out.set hBB 17 (by omega) k).set hBB 18 (by omega) k).set hBB 19 (by omega) k)
  have HSE:=hide (HS.out.done (HA.out.end hp).1)
  have HE:=hide (HA.out.end hp)
  obtain⟨⟨fv,hWk,_⟩,_⟩:=HW.out
  obtain⟨_,dp,_,_,_,_,df⟩:=hWk.cells
  have z17:=dp 17 (by omega)
  have z18:=dp 18 (by omega)
  have z19:=dp 19 (by omega)
  have f17:=df (1+17)
  have f18:=df (1+18)
  have f19:=df (1+19)
  clear hW hWk dp df HP
  go_wp2_with fail
  refine wp_norm ?_
  go_region
  rw [onNormal_normal]
  have HD1:Hid (FW w0 B a n c _ (cutTo l k) l k (w1.setCell ⟨B,1+17,none⟩ (.int .i64 k)).drew):=(HW.out.set hBB 17 (by omega) k).drew ((Below.refl _ _).drew)
  obtain⟨⟨fv2,hWk2,_⟩,_⟩:=HD1.out
  obtain⟨_,dp,_,e22,_,_,df⟩:=hWk2.cells
  have z18':=dp 18 (by omega)
  have z19':=dp 19 (by omega)
  have f18':=df (1+18)
  have f19':=df (1+19)
  clear hWk2 dp df z17 z18 z19 f17 f18 f19 d22 d23 d24 HW4
  generalize (w1.setCell ⟨B,1+17,none⟩ (.int .i64 k)).drew=W2 at *
  have hBl2:B<W2.heap.size:=HD1.out.kind.2.2.2
  have HD3:=hide ((HD1.out.set hBB 18 (by omega) k).set hBB 19 (by omega) k)
  go_wp2_with fail
  refine wp_norm ?_
  go_region
  rw [onNormal_normal]
  have HD4:Hid (FW w0 B a n c _ (cutTo l k) l k ((W2.setCell ⟨B,1+18,none⟩ (.int .i64 k)).setCell ⟨B,1+19,none⟩ (.int .i64 k)).drew):=HD3.out.drew ((Below.refl _ _).drew)
  clear z18' z19' f18' f19' e22 HD3 HD1
  generalize ((W2.setCell ⟨B,1+18,none⟩ (.int .i64 k)).setCell ⟨B,1+19,none⟩ (.int .i64 k)).drew=W4 at *
  go_wp2_with fail
  refine HRET.out _ W4 true k _ rfl rfl HD4.out (fun _=>⟨HSE.out,HE.out⟩) (fun h=>by cases h)
 ·have hp':(partAt l k==9)=false:=by simpa using hp
  by_cases h1:kindAt l k=1
  ·rw [h1] at d24
   obtain⟨hk,h8,hA2,hc⟩:=HA.out.next h1
   have hkn:k<n:=by rw [← HL.out];exact hk
   have hOp:=openFunction_any w0 B a n c ps (cutTo l k) l k w1 HC.out hkn (by have:=(cutTo_small l k).1;omega) hW
   rw [← hc] at hOp
   have HA2:=hide hA2
   have HS2:=hide (HS.out.next h8)
   clear hW hA2 hc hp h1
   generalize partAt l k=pp at *
   go_wp2_with fail
   refine hOp.mono ?_
   rintro e w2 ⟨rfl,hq⟩
   have HQ:=hide hq
   clear hOp hq d24 d23 d22
   go_wp2_with fail
   refine wp_label ?_
   rename_i Kx hKx
   refine hKx _ _ (HP.out N _ w2 ⟨k+1,ps,⟨_,rfl,rfl,rfl⟩,HA2.out,HS2.out,HQ.out⟩ ?_)
   have:=HN.out
   unfold FnU
   rw [HQ.out.pos]
   omega
  ·have h1':(kindAt l k != 1)=true:=by simpa using h1
   have HWR:=hide (HA.out.wrong hp h1)
   clear hW hp h1 HP
   generalize partAt l k=pp at *
   generalize kindAt l k=kd at *
   go_wp2_with fail
   first | rw [jumps_ret] | skip
   exact HRET.out _ w1 false (k) ps rfl rfl HW.out (fun h=>by cases h) (fun _=>HWR.out)
set_option maxHeartbeats 8000000 in
theorem fn_par (w0:World) (B:Nat) (a:Option Addr) (n c:Nat) (l:List InstT) (Q:Exit→Act→World→Prop) (C:LyC w0 B a n l) (hret:FnRet w0 B a n c l Q)
  (hprev:∀ N a1 w',FnJ w0 B a n c l 2 a1 w'→FnU B n 2 a1 w'≤N→(behind (findLabel (scopeL (Tryz.f117.body.getD .skip)) 2)).wp Tryz.prog (jumps (fun l' a' w'=>FnJ w0 B a n c l l' a' w'∧FnU B n l' a' w'<N) Q) a1 w')
  (N:Nat) (a1:Act) (w1:World) (hJ:FnJ w0 B a n c l 1 a1 w1) (hN:FnU B n 1 a1 w1≤N) :
  (behind (findLabel (scopeL (Tryz.f117.body.getD .skip)) 1)).wp Tryz.prog (jumps (fun l' a' w'=>FnJ w0 B a n c l l' a' w'∧FnU B n l' a' w'<N) Q) a1 w1:=by
 obtain⟨k,ps,⟨t,rfl,hsz,h0⟩,hA,hS,hW⟩:=hJ
 have HN:Hid (n - k≤N):=by
  unfold FnU at hN
  rw [hW.pos] at hN
  exact hN
 conv=>arg 2;whnf
 rw [frame103 t hsz,h0]
 clear h0 hsz hN
 have HC:=hide C
 have HRET:=hide hret
 have HW:=hide hW
 have HA:=hide hA
 have HS:=hide hS
 have hnl:=C.hl
 have HL:=hide hnl
 obtain⟨d24,d23,d22,hBl⟩:=hW.kind
 have HP:=hide hprev
 clear hprev
 clear C hret hA hS hnl
 by_cases h2:kindAt l k=2
 ·rw [h2] at d24
  obtain⟨hk,h8,hA2,hc⟩:=HA.out.par h2
  obtain⟨_,_,fs,f,hcut⟩:=HA.out
  have hc':=hc fs f hcut
  obtain⟨m1,m2,m3⟩:=cutTo_last hcut
  have hkn:k<n:=by rw [← HL.out];exact hk
  rw [hcut] at hW
  have hAp:=addParameter_any w0 B a n c ps fs f l k w1 HC.out hkn (by omega) (by omega) hW
  rw [← hc'] at hAp
  have HA2:=hide hA2
  have HS2:=hide (HS.out.next h8)
  clear hW hA2 hc hc' h2 hcut
  go_wp2_with fail
  refine hAp.mono ?_
  rintro e w2 ⟨rfl,hq⟩
  have HQ:=hide hq
  clear hAp hq d24 d23 d22
  go_wp2_with fail
  go_step3
  refine (show FnJ w0 B a n c l 1 _ w2∧FnU B n 1 _ w2<N from ⟨⟨k+1,ps,⟨_,rfl,rfl,rfl⟩,HA2.out,HS2.out,HQ.out⟩,?_⟩)
  have:=HN.out
  unfold FnU
  rw [HQ.out.pos]
  omega
 ·have h2':(kindAt l k==2)=false:=by simpa using h2
  by_cases h8:kindAt l k=8
  ·rw [h8] at d24 h2'
   have HA2:=hide (HA.out.blk h8)
   clear hW h2 h8
   go_wp2_with fail
   refine wp_label ?_
   rename_i Kx hKx
   refine hKx _ _ (HP.out N _ w1 ⟨k,ps,16,⟨_,rfl,rfl,rfl,rfl⟩,HA2.out,HS.out,HW.out⟩ ?_)
   have:=HN.out
   unfold FnU
   rw [HW.out.pos]
   omega
  ·have h8':(kindAt l k==8)=false:=by simpa using h8
   have HWR:=hide (HA.out.wrong h2 h8)
   clear hW h2 h8 HP
   generalize kindAt l k=kd at *
   go_wp2_with fail
   first | rw [jumps_ret] | skip
   exact HRET.out _ w1 false (k) ps rfl rfl HW.out (fun h=>by cases h) (fun _=>HWR.out)
set_option maxHeartbeats 8000000 in
theorem fn_blk (w0:World) (B:Nat) (a:Option Addr) (n c:Nat) (l:List InstT) (Q:Exit→Act→World→Prop) (C:LyC w0 B a n l) (hret:FnRet w0 B a n c l Q)
  (hprev:∀ N a1 w',FnJ w0 B a n c l 3 a1 w'→FnU B n 3 a1 w'≤N→(behind (findLabel (scopeL (Tryz.f117.body.getD .skip)) 3)).wp Tryz.prog (jumps (fun l' a' w'=>FnJ w0 B a n c l l' a' w'∧FnU B n l' a' w'<N) Q) a1 w')
  (N:Nat) (a1:Act) (w1:World) (hJ:FnJ w0 B a n c l 2 a1 w1) (hN:FnU B n 2 a1 w1≤N) :
  (behind (findLabel (scopeL (Tryz.f117.body.getD .skip)) 2)).wp Tryz.prog (jumps (fun l' a' w'=>FnJ w0 B a n c l l' a' w'∧FnU B n l' a' w'<N) Q) a1 w1:=by
 obtain⟨k,ps,head,⟨t,rfl,hsz,h0,h3⟩,hA,hS,hW⟩:=hJ
 have HN:Hid (n - k≤N):=by
  unfold FnU at hN
  rw [hW.pos] at hN
  exact hN
 conv=>arg 2;whnf
 rw [frame103 t hsz,h0,h3]
 clear h0 h3 hsz hN
 have HC:=hide C
 have HRET:=hide hret
 have HW:=hide hW
 have HA:=hide hA
 have HS:=hide hS
 have hnl:=C.hl
 have HL:=hide hnl
 obtain⟨d24,d23,d22,hBl⟩:=hW.kind
 have HP:=hide hprev
 clear hprev
 clear C hret hA hS hnl
 obtain⟨hk,h8,hA2,hc⟩:=HA.out.next
 obtain⟨_,_,_,fs,f,hcut⟩:=HA.out
 have hc':=hc fs f hcut
 obtain⟨m1,m2,m3⟩:=cutTo_last hcut
 have hkn:k<n:=by rw [← HL.out];exact hk
 rw [hcut] at hW
 have hAp:=openBlock_any w0 B a n c ps fs f l k w1 HC.out hkn (by omega) (by omega) hW
 rw [← hc'] at hAp
 have HA2:=hide hA2
 have HS2:=hide (HS.out.next h8)
 clear hW hA2 hc hc' hcut
 go_wp2_with fail
 refine hAp.mono ?_
 rintro e w2 ⟨rfl,hq⟩
 have HQ:=hide hq
 clear hAp hq d24 d23 d22
 go_wp2_with fail
 refine wp_label ?_
 rename_i Kx hKx
 refine hKx _ _ (HP.out N _ w2 ⟨k+1,ps,head,⟨_,rfl,rfl,rfl,rfl⟩,HA2.out,HS2.out,HQ.out⟩ ?_)
 have:=HN.out
 unfold FnU
 rw [HQ.out.pos]
 omega
set_option maxHeartbeats 8000000 in
theorem fn_hds (w0:World) (B:Nat) (a:Option Addr) (n c:Nat) (l:List InstT) (Q:Exit→Act→World→Prop) (C:LyC w0 B a n l) (hret:FnRet w0 B a n c l Q)
  (hprev:∀ N a1 w',FnJ w0 B a n c l 4 a1 w'→FnU B n 4 a1 w'≤N→(behind (findLabel (scopeL (Tryz.f117.body.getD .skip)) 4)).wp Tryz.prog (jumps (fun l' a' w'=>FnJ w0 B a n c l l' a' w'∧FnU B n l' a' w'<N) Q) a1 w')
  (N:Nat) (a1:Act) (w1:World) (hJ:FnJ w0 B a n c l 3 a1 w1) (hN:FnU B n 3 a1 w1≤N) :
  (behind (findLabel (scopeL (Tryz.f117.body.getD .skip)) 3)).wp Tryz.prog (jumps (fun l' a' w'=>FnJ w0 B a n c l l' a' w'∧FnU B n l' a' w'<N) Q) a1 w1:=by
 obtain⟨k,ps,head,⟨t,rfl,hsz,h0,h3⟩,hA,hS,hW⟩:=hJ
 have HN:Hid (n - k≤N):=by
  unfold FnU at hN
  rw [hW.pos] at hN
  exact hN
 conv=>arg 2;whnf
 rw [frame103 t hsz,h0,h3]
 clear h0 h3 hsz hN
 have HC:=hide C
 have HRET:=hide hret
 have HW:=hide hW
 have HA:=hide hA
 have HS:=hide hS
 have hnl:=C.hl
 have HL:=hide hnl
 obtain⟨d24,d23,d22,hBl⟩:=hW.kind
 have HP:=hide hprev
 clear hprev
 clear C hret hA hS hnl
 by_cases h1:kindAt l k=head
 ·rw [h1] at d24
  obtain⟨hk,h8,hA2,hc⟩:=HA.out.next h1
  have hkn:k<n:=by rw [← HL.out];exact hk
  have hSt:=hW.step HC.out hkn
  rw [← hc] at hSt
  have HA2:=hide hA2
  have HS2:=hide (HS.out.next h8)
  clear hW hA2 hc h1
  go_wp2_with fail
  refine hSt.mono ?_
  rintro e w2 ⟨rfl,hq⟩
  have HQ:=hide hq
  clear hSt hq d24 d23 d22
  go_wp2_with fail
  go_step3
  refine (show FnJ w0 B a n c l 3 _ w2∧FnU B n 3 _ w2<N from ⟨⟨k+1,ps,head,⟨_,rfl,rfl,rfl,rfl⟩,HA2.out,HS2.out,HQ.out⟩,?_⟩)
  have:=HN.out
  unfold FnU
  rw [HQ.out.pos]
  omega
 ·have h1':(kindAt l k==head)=false:=by simpa using h1
  have HA2:=hide (HA.out.body h1)
  clear hW h1
  generalize kindAt l k=kd at *
  go_wp2_with fail
  refine wp_label ?_
  rename_i Kx hKx
  refine hKx _ _ (HP.out N _ w1 ⟨k,ps,⟨_,rfl,rfl,rfl⟩,HA2.out,HS.out,HW.out⟩ ?_)
  have:=HN.out
  unfold FnU
  rw [HW.out.pos]
  omega
set_option maxHeartbeats 8000000 in
theorem fn_body (w0:World) (B:Nat) (a:Option Addr) (n c:Nat) (l:List InstT) (Q:Exit→Act→World→Prop) (C:LyC w0 B a n l) (hret:FnRet w0 B a n c l Q)
  (N:Nat) (a1:Act) (w1:World) (hJ:FnJ w0 B a n c l 4 a1 w1) (hN:FnU B n 4 a1 w1≤N) :
  (behind (findLabel (scopeL (Tryz.f117.body.getD .skip)) 4)).wp Tryz.prog (jumps (fun l' a' w'=>FnJ w0 B a n c l l' a' w'∧FnU B n l' a' w'<N) Q) a1 w1:=by
 obtain⟨k,ps,⟨t,rfl,hsz,h0⟩,hA,hS,hW⟩:=hJ
 have HN:Hid (n - k≤N):=by
  unfold FnU at hN
  rw [hW.pos] at hN
  exact hN
 conv=>arg 2;whnf
 rw [frame103 t hsz,h0]
 clear h0 hsz hN
 have HC:=hide C
 have HRET:=hide hret
 have HW:=hide hW
 have HA:=hide hA
 have HS:=hide hS
 have hnl:=C.hl
 have HL:=hide hnl
 obtain⟨d24,d23,d22,hBl⟩:=hW.kind
 clear C hret hA hS hnl
 by_cases h1:kindAt l k=64
 ·rw [h1] at d24
  obtain⟨hk,h8,hA2,hc⟩:=HA.out.plain h1
  have hkn:k<n:=by rw [← HL.out];exact hk
  have hSt:=hW.step HC.out hkn
  rw [← hc] at hSt
  have HA2:=hide hA2
  have HS2:=hide (HS.out.next h8)
  clear hW hA2 hc h1
  go_wp2_with fail
  refine hSt.mono ?_
  rintro e w2 ⟨rfl,hq⟩
  have HQ:=hide hq
  clear hSt hq d24 d23 d22
  go_wp2_with fail
  go_step3
  refine (show FnJ w0 B a n c l 4 _ w2∧FnU B n 4 _ w2<N from ⟨⟨k+1,ps,⟨_,rfl,rfl,rfl⟩,HA2.out,HS2.out,HQ.out⟩,?_⟩)
  have:=HN.out
  unfold FnU
  rw [HQ.out.pos]
  omega
 have h64:=h1
 clear h1
 by_cases h1:kindAt l k=128
 ·rw [h1] at d24
  have hstep:=HA.out.sel h1
  obtain⟨hk,h8,hF2,ha2,hc⟩:=hstep
  have hkn:k<n:=by rw [← HL.out];exact hk
  have hSt:=hW.step HC.out hkn
  rw [← hc] at hSt
  have HS2:=hide (HS.out.next h8)
  have hend:=sel_end hF2 ha2
  have HF2:=hide hF2
  have HCUT:=hide HA.out.2.2.2
  rw [← hc] at HCUT
  clear hW hF2 ha2 hc h1 h8
  go_wp2_with fail
  refine hSt.mono ?_
  rintro e w2 ⟨rfl,hq⟩
  have HQ2:=hide hq
  obtain⟨d24e,_,_,hBl2⟩:=hq.kind
  clear hSt hq d24 d23 d22
  rcases hend with ⟨hz,hwr⟩ | ⟨hz,hl2,h82,hee2,hm2⟩
  ·have HWR:=hide hwr
   clear hwr
   generalize kindAt l (k+1)=kd2 at *
   go_wp2_with fail
   first | rw [jumps_ret] | skip
   exact HRET.out _ w2 false (k+1) ps rfl rfl HQ2.out (fun h=>by cases h) (fun _=>HWR.out)
  ·have HE:Hid (AtEnd l (k+1)):=⟨HF2.out,hm2,h82,hl2,hee2,HCUT.out⟩
   clear hl2 h82 hee2 hm2
   generalize hkd2:kindAt l (k+1)=kd2 at *
   have HKD2:=hide hkd2
   clear hkd2
   obtain⟨_,hm,h8e,hle,hee,fs,f,bs,b,hcut,hbs⟩:=HE.out
   obtain⟨hAft,hc⟩:=HE.out.next
   have hc':=hc fs f hcut
   obtain⟨m1,m2,m3⟩:=cutTo_last hcut
   have hkn:k+1<n:=by rw [← HL.out];exact hle
   have hFe:=HQ2.out
   rw [hcut] at hFe
   have hCb:=closeBlock_any w0 B a n c ps fs f bs b l (k+1) w2 HC.out hkn (by omega) (by omega) hbs hFe
   rw [← hc'] at hCb
   have HAFT:=hide hAft
   have HS5:=hide (HS2.out.next h8e)
   clear hm h8e hle hee hcut hbs hc hc' hFe hAft
   go_wp2_with fail
   refine hCb.mono ?_
   rintro e w5 ⟨rfl,hq⟩
   have HQ5:=hide hq
   obtain⟨e24,e23,e22,hBl5⟩:=hq.kind
   clear hCb hq d24e hz
   by_cases q8:kindAt l (k+1+1)=8
   ·rw [q8] at e24
    have HA6:=hide (HAFT.out.blk q8)
    clear q8
    go_wp2_with fail
    go_step3
    refine (show FnJ w0 B a n c l 2 _ w5∧FnU B n 2 _ w5<N from ⟨⟨k+1+1,ps,32,⟨_,rfl,rfl,rfl,rfl⟩,HA6.out,HS5.out,HQ5.out⟩,?_⟩)
    have:=HN.out
    unfold FnU
    rw [HQ5.out.pos]
    omega
   ·by_cases q4:kindAt l (k+1+1)=4
    ·rw [q4] at e24
     obtain⟨hk6,h86,hA6,hc6⟩:=HAFT.out.fin q4
     obtain⟨_,_,fs6,f6,hcut6⟩:=HAFT.out
     have hc6':=hc6 fs6 f6 hcut6
     obtain⟨m61,_,_⟩:=cutTo_last hcut6
     have hkn6:k+1+1<n:=by rw [← HL.out];exact hk6
     have hFe6:=HQ5.out
     rw [hcut6] at hFe6
     have hCf:=closeFunction_any w0 B a n c ps fs6 f6 l (k+1+1) w5 HC.out hkn6 (by omega) hFe6
     rw [← hc6'] at hCf
     have HA6:=hide hA6
     have HS6:=hide (HS5.out.next h86)
     clear hk6 h86 hA6 hc6 hc6' hcut6 hFe6 q4 q8
     go_wp2_with fail
     refine hCf.mono ?_
     rintro e w7 ⟨rfl,hq⟩
     have HQ7:=hide hq
     clear hCf hq e24 e23 e22
     go_wp2_with fail
     go_step3
     refine (show FnJ w0 B a n c l 0 _ w7∧FnU B n 0 _ w7<N from ⟨⟨k+1+1+1,ps,⟨_,rfl,rfl,rfl⟩,HA6.out,HS6.out,HQ7.out⟩,?_⟩)
     have:=HN.out
     unfold FnU
     rw [HQ7.out.pos]
     omega
    ·have q8':(kindAt l (k+1+1)==8)=false:=by simpa using q8
     have q4':(kindAt l (k+1+1)==4)=false:=by simpa using q4
     have HWR:=hide (HAFT.out.wrong q8 q4)
     clear q8 q4
     generalize kindAt l (k+1+1)=kd5 at *
     go_wp2_with fail
     first | rw [jumps_ret] | skip
     exact HRET.out _ w5 false (k+1+1) ps rfl rfl HQ5.out (fun h=>by cases h) (fun _=>HWR.out)
 have h128:=h1
 clear h1
 by_cases h1:kindAt l k=256
 ·rw [h1] at d24
  have hstep:=HA.out.loop h1
  obtain⟨hk,h8,hF2,ha2,hc⟩:=hstep
  have hkn:k<n:=by rw [← HL.out];exact hk
  have hSt:=hW.step HC.out hkn
  rw [← hc] at hSt
  have HS2:=hide (HS.out.next h8)
  have hend:=loop_end hF2 ha2
  have HF2:=hide hF2
  have HCUT:=hide HA.out.2.2.2
  rw [← hc] at HCUT
  clear hW hF2 ha2 hc h1 h8
  go_wp2_with fail
  refine hSt.mono ?_
  rintro e w2 ⟨rfl,hq⟩
  have HQ2:=hide hq
  obtain⟨d24e,_,_,hBl2⟩:=hq.kind
  clear hSt hq d24 d23 d22
  rcases hend with ⟨hz,hwr⟩ | ⟨hz,hl2,h82,hee2,hm2⟩
  ·have HWR:=hide hwr
   clear hwr
   generalize kindAt l (k+1)=kd2 at *
   go_wp2_with fail
   first | rw [jumps_ret] | skip
   exact HRET.out _ w2 false (k+1) ps rfl rfl HQ2.out (fun h=>by cases h) (fun _=>HWR.out)
  ·have HE:Hid (AtEnd l (k+1)):=⟨HF2.out,hm2,h82,hl2,hee2,HCUT.out⟩
   clear hl2 h82 hee2 hm2
   generalize hkd2:kindAt l (k+1)=kd2 at *
   have HKD2:=hide hkd2
   clear hkd2
   obtain⟨_,hm,h8e,hle,hee,fs,f,bs,b,hcut,hbs⟩:=HE.out
   obtain⟨hAft,hc⟩:=HE.out.next
   have hc':=hc fs f hcut
   obtain⟨m1,m2,m3⟩:=cutTo_last hcut
   have hkn:k+1<n:=by rw [← HL.out];exact hle
   have hFe:=HQ2.out
   rw [hcut] at hFe
   have hCb:=closeBlock_any w0 B a n c ps fs f bs b l (k+1) w2 HC.out hkn (by omega) (by omega) hbs hFe
   rw [← hc'] at hCb
   have HAFT:=hide hAft
   have HS5:=hide (HS2.out.next h8e)
   clear hm h8e hle hee hcut hbs hc hc' hFe hAft
   go_wp2_with fail
   refine hCb.mono ?_
   rintro e w5 ⟨rfl,hq⟩
   have HQ5:=hide hq
   obtain⟨e24,e23,e22,hBl5⟩:=hq.kind
   clear hCb hq d24e hz
   by_cases q8:kindAt l (k+1+1)=8
   ·rw [q8] at e24
    have HA6:=hide (HAFT.out.blk q8)
    clear q8
    go_wp2_with fail
    go_step3
    refine (show FnJ w0 B a n c l 2 _ w5∧FnU B n 2 _ w5<N from ⟨⟨k+1+1,ps,32,⟨_,rfl,rfl,rfl,rfl⟩,HA6.out,HS5.out,HQ5.out⟩,?_⟩)
    have:=HN.out
    unfold FnU
    rw [HQ5.out.pos]
    omega
   ·by_cases q4:kindAt l (k+1+1)=4
    ·rw [q4] at e24
     obtain⟨hk6,h86,hA6,hc6⟩:=HAFT.out.fin q4
     obtain⟨_,_,fs6,f6,hcut6⟩:=HAFT.out
     have hc6':=hc6 fs6 f6 hcut6
     obtain⟨m61,_,_⟩:=cutTo_last hcut6
     have hkn6:k+1+1<n:=by rw [← HL.out];exact hk6
     have hFe6:=HQ5.out
     rw [hcut6] at hFe6
     have hCf:=closeFunction_any w0 B a n c ps fs6 f6 l (k+1+1) w5 HC.out hkn6 (by omega) hFe6
     rw [← hc6'] at hCf
     have HA6:=hide hA6
     have HS6:=hide (HS5.out.next h86)
     clear hk6 h86 hA6 hc6 hc6' hcut6 hFe6 q4 q8
     go_wp2_with fail
     refine hCf.mono ?_
     rintro e w7 ⟨rfl,hq⟩
     have HQ7:=hide hq
     clear hCf hq e24 e23 e22
     go_wp2_with fail
     go_step3
     refine (show FnJ w0 B a n c l 0 _ w7∧FnU B n 0 _ w7<N from ⟨⟨k+1+1+1,ps,⟨_,rfl,rfl,rfl⟩,HA6.out,HS6.out,HQ7.out⟩,?_⟩)
     have:=HN.out
     unfold FnU
     rw [HQ7.out.pos]
     omega
    ·have q8':(kindAt l (k+1+1)==8)=false:=by simpa using q8
     have q4':(kindAt l (k+1+1)==4)=false:=by simpa using q4
     have HWR:=hide (HAFT.out.wrong q8 q4)
     clear q8 q4
     generalize kindAt l (k+1+1)=kd5 at *
     go_wp2_with fail
     first | rw [jumps_ret] | skip
     exact HRET.out _ w5 false (k+1+1) ps rfl rfl HQ5.out (fun h=>by cases h) (fun _=>HWR.out)
 have h256:=h1
 clear h1
 have hend:=body_end HA.out h64 h128 h256
 have h64':(kindAt l k==64)=false:=by simpa using h64
 have h128':(kindAt l k==128)=false:=by simpa using h128
 have h256':(kindAt l k==256)=false:=by simpa using h256
 have HCUT:=hide HA.out.2.2.2
 clear h64 h128 h256 hW
 rcases hend with ⟨hz,hwr⟩ | ⟨hz,hl2,h82,hee2,hm2⟩
 ·have HWR:=hide hwr
  clear hwr
  generalize kindAt l k=kd at *
  go_wp2_with fail
  first | rw [jumps_ret] | skip
  exact HRET.out _ w1 false (k) ps rfl rfl HW.out (fun h=>by cases h) (fun _=>HWR.out)
 ·have HE:Hid (AtEnd l k):=⟨HA.out.1,hm2,h82,hl2,hee2,HCUT.out⟩
  clear hl2 h82 hee2 hm2
  have d24e:=d24
  clear d24
  generalize hkd:kindAt l k=kd at *
  have HKD:=hide hkd
  clear hkd
  obtain⟨_,hm,h8e,hle,hee,fs,f,bs,b,hcut,hbs⟩:=HE.out
  obtain⟨hAft,hc⟩:=HE.out.next
  have hc':=hc fs f hcut
  obtain⟨m1,m2,m3⟩:=cutTo_last hcut
  have hkn:k<n:=by rw [← HL.out];exact hle
  have hFe:=HW.out
  rw [hcut] at hFe
  have hCb:=closeBlock_any w0 B a n c ps fs f bs b l (k) w1 HC.out hkn (by omega) (by omega) hbs hFe
  rw [← hc'] at hCb
  have HAFT:=hide hAft
  have HS5:=hide (HS.out.next h8e)
  clear hm h8e hle hee hcut hbs hc hc' hFe hAft
  go_wp2_with fail
  refine hCb.mono ?_
  rintro e w5 ⟨rfl,hq⟩
  have HQ5:=hide hq
  obtain⟨e24,e23,e22,hBl5⟩:=hq.kind
  clear hCb hq d24e hz
  by_cases q8:kindAt l (k+1)=8
  ·rw [q8] at e24
   have HA6:=hide (HAFT.out.blk q8)
   clear q8
   go_wp2_with fail
   go_step3
   refine (show FnJ w0 B a n c l 2 _ w5∧FnU B n 2 _ w5<N from ⟨⟨k+1,ps,32,⟨_,rfl,rfl,rfl,rfl⟩,HA6.out,HS5.out,HQ5.out⟩,?_⟩)
   have:=HN.out
   unfold FnU
   rw [HQ5.out.pos]
   omega
  ·by_cases q4:kindAt l (k+1)=4
   ·rw [q4] at e24
    obtain⟨hk6,h86,hA6,hc6⟩:=HAFT.out.fin q4
    obtain⟨_,_,fs6,f6,hcut6⟩:=HAFT.out
    have hc6':=hc6 fs6 f6 hcut6
    obtain⟨m61,_,_⟩:=cutTo_last hcut6
    have hkn6:k+1<n:=by rw [← HL.out];exact hk6
    have hFe6:=HQ5.out
    rw [hcut6] at hFe6
    have hCf:=closeFunction_any w0 B a n c ps fs6 f6 l (k+1) w5 HC.out hkn6 (by omega) hFe6
    rw [← hc6'] at hCf
    have HA6:=hide hA6
    have HS6:=hide (HS5.out.next h86)
    clear hk6 h86 hA6 hc6 hc6' hcut6 hFe6 q4 q8
    go_wp2_with fail
    refine hCf.mono ?_
    rintro e w7 ⟨rfl,hq⟩
    have HQ7:=hide hq
    clear hCf hq e24 e23 e22
    go_wp2_with fail
    go_step3
    refine (show FnJ w0 B a n c l 0 _ w7∧FnU B n 0 _ w7<N from ⟨⟨k+1+1,ps,⟨_,rfl,rfl,rfl⟩,HA6.out,HS6.out,HQ7.out⟩,?_⟩)
    have:=HN.out
    unfold FnU
    rw [HQ7.out.pos]
    omega
   ·have q8':(kindAt l (k+1)==8)=false:=by simpa using q8
    have q4':(kindAt l (k+1)==4)=false:=by simpa using q4
    have HWR:=hide (HAFT.out.wrong q8 q4)
    clear q8 q4
    generalize kindAt l (k+1)=kd5 at *
    go_wp2_with fail
    first | rw [jumps_ret] | skip
    exact HRET.out _ w5 false (k+1) ps rfl rfl HQ5.out (fun h=>by cases h) (fun _=>HWR.out)
def setAll (cs:Array Value):Nat→List Value→Array Value
 | _,[]=>cs
 | i,v :: vs=>setAll (cs.setIfInBounds i v) (i+1) vs
theorem setCells_grown (b:Nat):∀ (vs:List Value) (i:Nat) (w:World),w.grownBy (w.setCells b i vs) (some b)
 | [],_,_=>⟨rfl,rfl,rfl,Nat.le_refl _,fun _ _ _=>rfl⟩
 | v :: vs,i,w=>by
  have h:=setCells_grown b vs (i+1) (w.setCell ⟨b,i,none⟩ v)
  refine⟨h.os,h.tape,h.output,?_,fun k hk hn=>?_⟩
  ·have:=h.size;rw [World.size_setCell] at this;exact this
  ·refine (h.block k (by rw [World.size_setCell];exact hk) hn).trans ?_
   exact Below.heap_setCell _ _ _ _ (by intro e;exact hn (by rw [e]))
theorem setCells_block {b t:Nat} {fr:Nat×Nat}:∀ (vs:List Value) (i:Nat) (w:World) (cs:Array Value),w.heap[b]?=some (.cells cs t fr)→(w.setCells b i vs).heap[b]?=some (.cells (setAll cs i vs) t fr)
 | [],_,_,_,h=>h
 | v :: vs,i,w,cs,h=>setCells_block vs (i+1) _ _ (by simp [World.setCell,Array.getElem?_modify,h])
theorem setAll_at:∀ (vs:List Value) (i j:Nat) (cs:Array Value),i+vs.length≤cs.size→(setAll cs i vs)[j]?=if i≤j∧j<i+vs.length then vs[j - i]? else cs[j]?
 | [],i,j,cs,_=>by rw [if_neg (by simp only [List.length_nil];omega)];rfl
 | v :: vs,i,j,cs,h=>by
  simp only [List.length_cons] at h ⊢
  rw [setAll,setAll_at vs (i+1) j _ (by simp;omega)]
  by_cases e:j=i
  ·subst e
   rw [if_neg (by omega),if_pos (by omega),Array.getElem?_setIfInBounds_self_of_lt (by omega)];simp
  ·by_cases h1:i+1≤j∧j<i+1+vs.length
   ·rw [if_pos h1,if_pos (by omega),show j - i=(j - (i+1))+1 by omega];simp
   ·rw [if_neg h1,if_neg (by omega),Array.getElem?_setIfInBounds_ne (fun e2=>e e2.symm)]
theorem setCells_all {b t:Nat} {fr:Nat×Nat} {w:World} {cs:Array Value} (vs:List Value) (h:w.heap[b]?=some (.cells cs t fr)) (hs:cs.size=vs.length):(w.setCells b 0 vs).heap[b]?=some (.cells vs.toArray t fr):=by
 rw [setCells_block vs 0 w cs h]
 have e:setAll cs 0 vs=vs.toArray:=by
  apply Array.ext'
  apply List.ext_getElem?
  intro j
  have:=setAll_at vs 0 j cs (by omega)
  rw [Array.getElem?_toList,this]
  by_cases hj:j<vs.length
  ·rw [if_pos (by omega)];simp
  ·rw [if_neg (by omega),Array.getElem?_eq_none (by omega)];simp;omega
 rw [e]
def StopP (p:Prop):Prop:=p
theorem stopS {P:Program} {ops:Array Oper} {Q:Exit→Act→World→Prop} {a:Act} {w:World} (T:TypeId) {x y:Operand} {d:Option Tmp} {ty:TypeId} {ps:String} {af:Array Edge} {g:Option (Nat×Bool)} {rest:List Oper} (h:StopP (wpList P ops Q ({ dst:=d,op:=.store T x y,type:=ty,pos:=ps,after:=af,guard:=g } :: rest) a w)):wpList P ops Q ({ dst:=d,op:=.store T x y,type:=ty,pos:=ps,after:=af,guard:=g } :: rest) a w:=h
theorem stopD {P:Program} {ops:Array Oper} {Q:Exit→Act→World→Prop} {a:Act} {w:World} (T:TypeId) {x:Operand} {d:Option Tmp} {ty:TypeId} {ps:String} {af:Array Edge} {g:Option (Nat×Bool)} {rest:List Oper} (h:StopP (wpList P ops Q ({ dst:=d,op:=.load T x,type:=ty,pos:=ps,after:=af,guard:=g } :: rest) a w)):wpList P ops Q ({ dst:=d,op:=.load T x,type:=ty,pos:=ps,after:=af,guard:=g } :: rest) a w:=h
end Go.Proofs.YtoebhgpciinkgaaGreatDoor
