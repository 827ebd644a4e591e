/-
  Texts laid together in one: AsmRow, AsmWanted, AsmTakeW, AsmTakeO, AsmArg, AsmArgO, AsmSays.
-/
import Derived.WalkSpells
import Derived.WalkMore
import Derived.BigRegion
import Derived.Deep.QuietTactic
import Derived.BigQuiet
import Derived.Test.YtddkapkkjhomkabGreatDoorProg
import Derived.Test.YtddkapkkjhomkabGreatDoorM17
import Derived.Test.YtddkapkkjhomkabGreatDoorM03
import Derived.Test.YtddkapkkjhomkabGreatDoorM16
import Derived.Test.YtddkapkkjhomkabGreatDoorM19
import Derived.Test.YtddkapkkjhomkabGreatDoorM05
import Derived.Test.YtddkapkkjhomkabGreatDoorM04
import Derived.Deep.RegionWith
set_option linter.unusedVariables false
set_option linter.unusedSimpArgs false
set_option maxRecDepth 10000
namespace Go.Proofs.YtddkapkkjhomkabGreatDoor
open Go.RowKit

def noTok:TokT:=(0,⟨#[]⟩,0)
def fltA (e p:Int):Int:=if e=0 then 0 else p
theorem blk_cells {w:World} {B T:Nat} {cs:Array Value} (h:w.heap[B]?=some (.cells cs T (0,0))):(∀ i,w.cell? ⟨B,i,none⟩=cs[i]?)∧(∀ i,w.frozen? ⟨B,i,none⟩=false) :=
 ⟨fun i=>by simp only [World.cell?,h];rfl,fun i=>by simp [World.frozen?,h]⟩
theorem two_set {w:World} {B T:Nat} {z0 z1:Value} (h:w.heap[B]?=some (.cells #[z0,z1] T (0,0))) (u0 u1:Value) :
  ((w.setCell ⟨B,0,none⟩ u0).setCell ⟨B,1,none⟩ u1).heap[B]?=some (.cells #[u0,u1] T (0,0)):=by
 simp only [World.setCell,Array.getElem?_modify,h];simp
theorem three_setA {w:World} {B T:Nat} {z0 z1 z2:Value} (h:w.heap[B]?=some (.cells #[z0,z1,z2] T (0,0))) (u0 u1 u2:Value) :
  (((w.setCell ⟨B,0,none⟩ u0).setCell ⟨B,1,none⟩ u1).setCell ⟨B,2,none⟩ u2).heap[B]?=some (.cells #[u0,u1,u2] T (0,0)):=by
 simp only [World.setCell,Array.getElem?_modify,h];simp
set_option maxHeartbeats 1000000 in
theorem faultAt_any (t:TokT) (e:Int) (w:World) :
  Calls Tryz.prog 146 #[tokV t,.int .i64 e] w fun x w'=>x=.returned (.agg #[.int .i64 e,.int .i64 (fltA e t.2.2)])∧Below w.heap.size w w':=by
 obtain ⟨t1,t2,t3⟩:=t
 unfold tokV
 simp only
 by_cases h:e=0
 ·subst h
  go_enter Tryz.func146,Tryz.ntmps146
  go_wp2
  refine bodyPost_ret (v:=.agg #[.int .i64 0,.int .i64 0]) ?_ rfl ⟨rfl,?_⟩
  ·simp [results,Tryz.results146,go_sem]
  ·exact ((Below.refl _ w).alloc (Nat.le_refl _) _).alloc (by simp) _
 ·have h':(e == 0)=false:=by simpa using h
  have e1:fltA e t3=t3:=by unfold fltA;rw [if_neg h]
  rw [e1]
  clear h e1
  go_enter Tryz.func146,Tryz.ntmps146
  go_wp2
  refine bodyPost_ret (v:=.agg #[.int .i64 e,.int .i64 t3]) ?_ rfl ⟨rfl,?_⟩
  ·simp [results,Tryz.results146,go_sem]
  ·exact ((Below.refl _ w).alloc (Nat.le_refl _) _).alloc (by simp) _
def RowAt (w:World) (B:Nat) (a:Option Addr) (n c k:Nat) (len:Int) (rest:Array Value) (T:Nat):Prop:=w.heap[B]?=some (.cells (#[.slice a n c,.int .i64 (k:Int),.int .i64 len] ++ rest) T (0,0))
theorem RowAt.lt {w:World} {B:Nat} {a:Option Addr} {n c k:Nat} {len:Int} {rest:Array Value} {T:Nat} (h:RowAt w B a n c k len rest T):B < w.heap.size:=(Array.getElem?_eq_some_iff.1 h).1
theorem RowAt.cells {w:World} {B:Nat} {a:Option Addr} {n c k:Nat} {len:Int} {rest:Array Value} {T:Nat} (h:RowAt w B a n c k len rest T) :
  w.cell? ⟨B,0,none⟩=some (.slice a n c)∧w.cell? ⟨B,1,none⟩=some (.int .i64 (k:Int))∧w.cell? ⟨B,2,none⟩=some (.int .i64 len)∧∀ i,w.frozen? ⟨B,i,none⟩=false:=by
 unfold RowAt at h
 refine ⟨?_,?_,?_,fun i=>?_⟩
 ·simp only [World.cell?,h];rw [Array.getElem?_append_left (by simp)];rfl
 ·simp only [World.cell?,h];rw [Array.getElem?_append_left (by simp)];rfl
 ·simp only [World.cell?,h];rw [Array.getElem?_append_left (by simp)];rfl
 ·simp [World.frozen?,h]
theorem RowAt.below {w w':World} {B:Nat} {a:Option Addr} {n c k:Nat} {len:Int} {rest:Array Value} {T:Nat} (h:RowAt w B a n c k len rest T) (hb:Below w.heap.size w w'):RowAt w' B a n c k len rest T:=(hb.block _ h.lt).trans h
theorem RowAt.step {w:World} {B:Nat} {a:Option Addr} {n c k:Nat} {len:Int} {rest:Array Value} {T:Nat} (h:RowAt w B a n c k len rest T):RowAt (w.setCell ⟨B,1,none⟩ (.int .i64 ((k+1:Nat):Int))) B a n c (k+1) len rest T:=by
 unfold RowAt at *
 simp only [World.setCell,Array.getElem?_modify,h]
 simp
theorem grown_put {w A X:World} {r:Option Nat} (h:w.grownBy A r) (k:Below w.heap.size A X):w.grownBy X r:=⟨k.os.trans h.os,k.tape.trans h.tape,k.output.trans h.output,Nat.le_trans h.size k.size,fun i hi hr=>(k.block i hi).trans (h.block i hi hr)⟩
theorem grown_below2 {A B:World} (h:Below A.heap.size A B) (row:Option Nat):A.grownBy B row:=⟨h.os,h.tape,h.output,h.size,fun k hk _=>h.block k hk⟩
set_option maxHeartbeats 1000000 in
theorem ended_any (B:Nat) (a:Option Addr) (n c k:Nat) (len:Int) (rest:Array Value) (T:Nat) (w:World) (h:RowAt w B a n c k len rest T) :
  Calls Tryz.prog 93 #[.pointer (some ⟨B,0,none⟩)] w fun e w'=>e=.returned (.bool ((k:Int) == (n:Int)))∧∃ q,w'=w.drewN q:=by
 obtain ⟨c0,c1,c2,cf⟩:=h.cells
 clear h
 go_enter Tryz.func93,Tryz.ntmps93
 go_wp2
 go_quiet (fail)
 go_wp2
 go_ret
 exact ⟨rfl,_,rfl⟩
theorem tok_spot_boxes (w:World):((w.alloc (.cells #[.int .u8 0,.string ⟨#[]⟩,.int .i64 0] 41)).alloc (.cells #[.int .i64 0,.int .i64 0] 28)).heap[w.heap.size]?=some (.cells #[.int .u8 0,.string ⟨#[]⟩,.int .i64 0] 41 (0,0))∧((w.alloc (.cells #[.int .u8 0,.string ⟨#[]⟩,.int .i64 0] 41)).alloc (.cells #[.int .i64 0,.int .i64 0] 28)).heap[w.heap.size+1]?=some (.cells #[.int .i64 0,.int .i64 0] 28 (0,0)) ∧
  Below w.heap.size w ((w.alloc (.cells #[.int .u8 0,.string ⟨#[]⟩,.int .i64 0] 41)).alloc (.cells #[.int .i64 0,.int .i64 0] 28)) :=
 ⟨(Below.heap_alloc _ _ _ (by simp)).trans (heap_alloc_new w _),by simpa using heap_alloc_new (w.alloc (.cells #[.int .u8 0,.string ⟨#[]⟩,.int .i64 0] 41)) (.cells #[.int .i64 0,.int .i64 0] 28),((Below.refl _ w).alloc (Nat.le_refl _) _).alloc (by simp) _⟩
theorem five_put {W:World} {b T S:Nat} {x0 x1 x2 y0 y1:Value} (kT:W.heap[b]?=some (.cells #[x0,x1,x2] T (0,0))) (kS:W.heap[b+1]?=some (.cells #[y0,y1] S (0,0))) (u0 u1 u2 v0 v1:Value) :
  ((((((W.setCell ⟨b,0,none⟩ u0).setCell ⟨b,1,none⟩ u1).setCell ⟨b,2,none⟩ u2).setCell ⟨b+1,0,none⟩ v0).setCell ⟨b+1,1,none⟩ v1)).heap[b]?=some (.cells #[u0,u1,u2] T (0,0))∧((((((W.setCell ⟨b,0,none⟩ u0).setCell ⟨b,1,none⟩ u1).setCell ⟨b,2,none⟩ u2).setCell ⟨b+1,0,none⟩ v0).setCell ⟨b+1,1,none⟩ v1)).heap[b+1]?=some (.cells #[v0,v1] S (0,0))∧Below b W ((((((W.setCell ⟨b,0,none⟩ u0).setCell ⟨b,1,none⟩ u1).setCell ⟨b,2,none⟩ u2).setCell ⟨b+1,0,none⟩ v0).setCell ⟨b+1,1,none⟩ v1)):=by
 refine ⟨?_,?_,?_⟩
 ·simp only [World.setCell,Array.getElem?_modify,kT];simp
 ·simp only [World.setCell,Array.getElem?_modify,kS];simp
 ·exact (((((Below.refl b W).setCell (Nat.le_refl _) _).setCell (Nat.le_refl _) _).setCell (Nat.le_refl _) _).setCell (by simp) _).setCell (by simp) _
theorem five_drew {W:World} {b T S:Nat} {x0 x1 x2 y0 y1:Value} (kT:W.heap[b]?=some (.cells #[x0,x1,x2] T (0,0))) (kS:W.heap[b+1]?=some (.cells #[y0,y1] S (0,0))) (u0 u1 u2 v0 v1:Value) :
  (((((((W.setCell ⟨b,0,none⟩ u0).setCell ⟨b,1,none⟩ u1).setCell ⟨b,2,none⟩ u2).setCell ⟨b+1,0,none⟩ v0).setCell ⟨b+1,1,none⟩ v1)).drew).heap[b]?=some (.cells #[u0,u1,u2] T (0,0))∧(((((((W.setCell ⟨b,0,none⟩ u0).setCell ⟨b,1,none⟩ u1).setCell ⟨b,2,none⟩ u2).setCell ⟨b+1,0,none⟩ v0).setCell ⟨b+1,1,none⟩ v1)).drew).heap[b+1]?=some (.cells #[v0,v1] S (0,0))∧Below b W (((((((W.setCell ⟨b,0,none⟩ u0).setCell ⟨b,1,none⟩ u1).setCell ⟨b,2,none⟩ u2).setCell ⟨b+1,0,none⟩ v0).setCell ⟨b+1,1,none⟩ v1)).drew):=by
 obtain ⟨h1,h2,h3⟩:=five_put kT kS u0 u1 u2 v0 v1
 generalize ((((((W.setCell ⟨b,0,none⟩ u0).setCell ⟨b,1,none⟩ u1).setCell ⟨b,2,none⟩ u2).setCell ⟨b+1,0,none⟩ v0).setCell ⟨b+1,1,none⟩ v1))=Y at *
 exact ⟨h1,h2,h3.drew⟩
set_option maxHeartbeats 2000000 in
theorem take_early (B:Nat) (a:Option Addr) (n c:Nat) (len:Int) (rest:Array Value) (T:Nat) (kd:Int) (w:World) (h:RowAt w B a n c n len rest T) :
  Calls Tryz.prog 145 #[.pointer (some ⟨B,0,none⟩),.int .u8 kd] w fun e w'=>e=.returned (.tuple #[tokV noTok,.agg #[.int .i64 72,.int .i64 len]])∧Below w.heap.size w w':=by
 obtain ⟨kT,kS,hb⟩:=tok_spot_boxes w
 have hR:=h.below hb
 have hE:=ended_any B a n c n len rest T _ hR
 rw [show ((n:Int) == (n:Int))=true by simp] at hE
 have hlt:=h.lt
 clear h
 go_enter Tryz.func145,Tryz.ntmps145
 go_wp2_with fail
 generalize (w.alloc (.cells #[.int .u8 0,.string ⟨#[]⟩,.int .i64 0] 41)).alloc (.cells #[.int .i64 0,.int .i64 0] 28)=W at *
 refine hE.mono ?_
 rintro e w1 ⟨rfl,q,rfl⟩
 have hbq:=bel_drewN (Below.refl W.heap.size W) q
 have sS:=(Array.getElem?_eq_some_iff.1 kS).1
 have kT1:=(hbq.block _ (by omega)).trans kT
 have kS1:=(hbq.block _ sS).trans kS
 have hR1:=hR.below hbq
 have hb1:=hb.trans (hbq.mono hb.size)
 have s1:w.heap.size+1 < (W.drewN q).heap.size:=Nat.lt_of_lt_of_le sS hbq.size
 clear hE hbq kT kS hR hb sS
 generalize W.drewN q=W1 at *
 obtain ⟨r0,r1,r2,rf⟩:=hR1.cells
 obtain ⟨ct,ft⟩:=blk_cells kT1
 obtain ⟨cp,fp⟩:=blk_cells kS1
 have t0:=ct 0
 have t1:=ct 1
 have t2:=ct 2
 have p0:=cp 0
 have p1:=cp 1
 have hne:B≠w.heap.size:=by omega
 have hne1:B≠w.heap.size+1:=by omega
 have HB:=hide hb1
 have HT:=hide kT1
 have HS:=hide kS1
 clear hR1 hb1 ct cp kT1 kS1
 go_wp2
 go_region
 obtain ⟨y1,y2,y3⟩:=five_drew HT.out HS.out (.int .u8 0) (.string ⟨#[]⟩) (.int .i64 0) (.int .i64 72) (.int .i64 len)
 have HY:=hide (HB.out.trans y3)
 have HY1:=hide y1
 have HY2:=hide y2
 clear t0 t1 t2 p0 p1 ft fp r0 r1 r2 rf y1 y2 y3 HT HS HB
 generalize (((((W1.setCell ⟨w.heap.size,0,none⟩ (.int .u8 0)).setCell ⟨w.heap.size,1,none⟩ (.string ⟨#[]⟩)).setCell ⟨w.heap.size,2,none⟩ (.int .i64 0)).setCell ⟨w.heap.size+1,0,none⟩ (.int .i64 72)).setCell ⟨w.heap.size+1,1,none⟩ (.int .i64 len)).drew=X at *
 go_wp2
 obtain ⟨z1,_⟩:=blk_cells HY1.out
 obtain ⟨z2,_⟩:=blk_cells HY2.out
 have a0:=z1 0
 have a1:=z1 1
 have a2:=z1 2
 have b0:=z2 0
 have b1:=z2 1
 refine bodyPost_ret (v:=.tuple #[tokV noTok,.agg #[.int .i64 72,.int .i64 len]]) ?_ rfl ⟨rfl,HY.out⟩
 simp [results,Tryz.results145,go_sem,a0,a1,a2,b0,b1,tokV,noTok]
theorem want_boxes (w:World) (c b:Int):((w.alloc (.cells #[.int .u8 c,.int .u32 b] 245)).alloc (.cells #[.int .u8 0,.int .u32 0,.string ⟨#[]⟩] 87)).heap[w.heap.size]?=some (.cells #[.int .u8 c,.int .u32 b] 245 (0,0))∧((w.alloc (.cells #[.int .u8 c,.int .u32 b] 245)).alloc (.cells #[.int .u8 0,.int .u32 0,.string ⟨#[]⟩] 87)).heap[w.heap.size+1]?=some (.cells #[.int .u8 0,.int .u32 0,.string ⟨#[]⟩] 87 (0,0))∧Below w.heap.size w ((w.alloc (.cells #[.int .u8 c,.int .u32 b] 245)).alloc (.cells #[.int .u8 0,.int .u32 0,.string ⟨#[]⟩] 87)) :=
 ⟨(Below.heap_alloc _ _ _ (by simp)).trans (heap_alloc_new w _),by simpa using heap_alloc_new (w.alloc (.cells #[.int .u8 c,.int .u32 b] 245)) (.cells #[.int .u8 0,.int .u32 0,.string ⟨#[]⟩] 87),((Below.refl _ w).alloc (Nat.le_refl _) _).alloc (by simp) _⟩
theorem arg_put {W:World} {g T:Nat} {x0 x1 x2:Value} (k:W.heap[g]?=some (.cells #[x0,x1,x2] T (0,0))) (u0 u1 u2:Value):(((W.setCell ⟨g,0,none⟩ u0).setCell ⟨g,1,none⟩ u1).setCell ⟨g,2,none⟩ u2).heap[g]?=some (.cells #[u0,u1,u2] T (0,0))∧Below g W (((W.setCell ⟨g,0,none⟩ u0).setCell ⟨g,1,none⟩ u1).setCell ⟨g,2,none⟩ u2) :=
 ⟨three_setA k u0 u1 u2,(((Below.refl g W).setCell (Nat.le_refl _) _).setCell (Nat.le_refl _) _).setCell (Nat.le_refl _) _⟩
set_option maxHeartbeats 2000000 in
theorem wantNone_any (c b:Int) (s:ByteArray) (w:World) :
  Calls Tryz.prog 176 #[.agg #[.int .u8 c,.int .u32 b],.string s] w fun e w'=>e=.returned (.tuple #[argV noArg,.int .i64 70])∧Below w.heap.size w w':=by
 obtain ⟨k0,k1,hb⟩:=want_boxes w c b
 go_enter Tryz.func176,Tryz.ntmps176
 go_wp2
 refine bodyPost_ret (v:=.tuple #[argV noArg,.int .i64 70]) ?_ rfl ⟨rfl,hb⟩
 simp [results,Tryz.results176,go_sem,argV,noArg]
set_option maxHeartbeats 2000000 in
theorem wantNumber_any (c b:Int) (s:ByteArray) (w:World) (hs:s.size≤140737488351232) :
  Calls Tryz.prog 173 #[.agg #[.int .u8 c,.int .u32 b],.string s] w fun e w'=>e=.returned (.tuple #[argV (if numErr (strI s)=0 then (2,numV (strI s),⟨#[]⟩) else noArg),.int .i64 (numErr (strI s))])∧Below w.heap.size w w':=by
 obtain ⟨k0,k1,hb⟩:=want_boxes w c b
 have hN:=fun wx=>lexNumber_any s wx hs
 have HV:=hide (fun h=>(numV_ok (numErr_zero (l:=strI s) h)).2.1)
 obtain ⟨A,hA⟩:∃ A,A=(if numErr (strI s)=0 then (2,numV (strI s),⟨#[]⟩) else noArg:ArgT):=⟨_,rfl⟩
 rw [← hA]
 generalize numErr (strI s)=ne at *
 generalize numOut (strI s)=no at *
 have HA:=hide hA
 have HK:=hide k1
 have HB:=hide hb
 clear hA k0 k1 hb
 go_enter Tryz.func173,Tryz.ntmps173
 go_wp2_with fail
 generalize (w.alloc (.cells #[.int .u8 c,.int .u32 b] 245)).alloc (.cells #[.int .u8 0,.int .u32 0,.string ⟨#[]⟩] 87)=W at *
 refine (hN _).mono ?_
 rintro x w' ⟨rfl,rfl⟩
 obtain ⟨cc,cf⟩:=blk_cells HK.out
 have c0:=cc 0
 have c1:=cc 1
 have c2:=cc 2
 by_cases h:ne=0
 ·subst h
  have e9:=HA.out
  rw [if_pos rfl,← HV.out (by trivial)] at e9
  subst e9
  obtain ⟨x1,x2⟩:=arg_put HK.out (.int .u8 2) (.int .u32 no) (.string ⟨#[]⟩)
  have HY:=hide (HB.out.trans (x2.mono (by omega)))
  have HY1:=hide x1
  clear x1 x2 hN HK HB HA HV cc
  go_wp2_with fail
  generalize ((W.setCell ⟨w.heap.size+1,0,none⟩ (.int .u8 2)).setCell ⟨w.heap.size+1,1,none⟩ (.int .u32 no)).setCell ⟨w.heap.size+1,2,none⟩ (.string ⟨#[]⟩)=X at *
  obtain ⟨e1,_⟩:=blk_cells HY1.out
  have a0:=e1 0
  have a1:=e1 1
  have a2:=e1 2
  refine bodyPost_ret (v:=.tuple #[argV (2,no,⟨#[]⟩),.int .i64 0]) ?_ rfl ⟨rfl,HY.out⟩
  simp [results,Tryz.results173,go_sem,argV,a0,a1,a2]
 ·have h':(ne != 0)=true:=by simp [h]
  have e9:=HA.out
  rw [if_neg h] at e9
  subst e9
  obtain ⟨x1,x2⟩:=arg_put HK.out (.int .u8 0) (.int .u32 0) (.string ⟨#[]⟩)
  have HY:=hide (HB.out.trans (x2.mono (by omega)))
  have HY1:=hide x1
  clear x1 x2 hN HK HB HA HV cc h
  go_wp2_with fail
  generalize ((W.setCell ⟨w.heap.size+1,0,none⟩ (.int .u8 0)).setCell ⟨w.heap.size+1,1,none⟩ (.int .u32 0)).setCell ⟨w.heap.size+1,2,none⟩ (.string ⟨#[]⟩)=X at *
  obtain ⟨e1,_⟩:=blk_cells HY1.out
  have a0:=e1 0
  have a1:=e1 1
  have a2:=e1 2
  refine bodyPost_ret (v:=.tuple #[argV noArg,.int .i64 ne]) ?_ rfl ⟨rfl,HY.out⟩
  simp [results,Tryz.results173,go_sem,argV,noArg,a0,a1,a2]
set_option maxHeartbeats 2000000 in
theorem wantId_any (c b:Int) (s:ByteArray) (w:World) (hs:s.size≤140737488351232) :
  Calls Tryz.prog 164 #[.agg #[.int .u8 c,.int .u32 b],.string s] w fun e w'=>e=.returned (.tuple #[argV (if idP s b=0 then (1,numV (strI s),⟨#[]⟩) else noArg),.int .i64 (idP s b)])∧Below w.heap.size w w':=by
 obtain ⟨k0,k1,hb⟩:=want_boxes w c b
 have hN:=fun wx=>lexNumber_any s wx hs
 have HV:=hide (fun h=>(numV_ok (numErr_zero (l:=strI s) h)))
 obtain ⟨A,hA⟩:∃ A,A=(if idP s b=0 then (1,numV (strI s),⟨#[]⟩) else noArg:ArgT):=⟨_,rfl⟩
 obtain ⟨I,hI⟩:∃ I,I=idP s b:=⟨_,rfl⟩
 rw [← hA,← hI]
 rw [← hI] at hA
 have hI2:(numErr (strI s)≠0→I=62∧numErr (strI s)=62)∧(numErr (strI s)=0→I=if numV (strI s)=0 ∨ b≤numV (strI s) then 43 else 0):=by
  rw [hI];unfold idP
  constructor
  ·intro h
   have hb:numB (strI s)=false:=by
    cases e:numB (strI s) with
    | false=>rfl
    | true=>exact absurd (numV_ok e).1 h
   rw [if_pos hb]
   refine ⟨rfl,?_⟩
   unfold numErr;rw [hb];rfl
  ·intro h
   rw [if_neg (by rw [numErr_zero h];simp)]
 have HI2:=hide hI2
 clear hI hI2
 generalize numErr (strI s)=ne at *
 generalize numOut (strI s)=no at *
 have HA:=hide hA
 have HK:=hide k1
 have HB:=hide hb
 have HK0:=hide k0
 clear hA k0 k1 hb
 go_enter Tryz.func164,Tryz.ntmps164
 go_wp2_with fail
 generalize (w.alloc (.cells #[.int .u8 c,.int .u32 b] 245)).alloc (.cells #[.int .u8 0,.int .u32 0,.string ⟨#[]⟩] 87)=W at *
 refine (hN _).mono ?_
 rintro x w' ⟨rfl,rfl⟩
 obtain ⟨cc,cf⟩:=blk_cells HK.out
 have c0:=cc 0
 have c1:=cc 1
 have c2:=cc 2
 have d1:=(blk_cells HK0.out).1 1
 clear hN HK0
 by_cases h:ne=0
 ·subst h
  obtain ⟨_,f2,f3,f4⟩:=HV.out (by trivial)
  have hi:=HI2.out.2 (by trivial)
  rw [← f2] at hi f3 f4
  have HF2:=hide f2
  clear HV HI2 f2
  by_cases hbad:no=0 ∨ b≤no
  ·rw [if_pos hbad] at hi
   subst hi
   have e9:=HA.out
   rw [if_neg (by decide)] at e9
   subst e9
   by_cases h0:no=0
   ·subst h0
    clear hbad
    obtain ⟨x1,x2⟩:=arg_put HK.out (.int .u8 0) (.int .u32 0) (.string ⟨#[]⟩)
    have HY:=hide (HB.out.trans (x2.mono (by omega)))
    have HY1:=hide x1
    clear x1 x2 HK HB HA cc
    go_wp2_with fail
    generalize ((W.setCell ⟨w.heap.size+1,0,none⟩ (.int .u8 0)).setCell ⟨w.heap.size+1,1,none⟩ (.int .u32 0)).setCell ⟨w.heap.size+1,2,none⟩ (.string ⟨#[]⟩)=X at *
    obtain ⟨e1,_⟩:=blk_cells HY1.out
    have a0:=e1 0
    have a1:=e1 1
    have a2:=e1 2
    refine bodyPost_ret (v:=.tuple #[argV noArg,.int .i64 43]) ?_ rfl ⟨rfl,HY.out⟩
    simp [results,Tryz.results164,go_sem,argV,noArg,a0,a1,a2]
   ·have h0':(no == 0)=false:=by simpa using h0
    have h1':decide (b≤no)=true:=decide_eq_true (by omega)
    clear hbad h0
    obtain ⟨x1,x2⟩:=arg_put HK.out (.int .u8 0) (.int .u32 0) (.string ⟨#[]⟩)
    have HY:=hide (HB.out.trans (x2.mono (by omega)))
    have HY1:=hide x1
    clear x1 x2 HK HB HA cc
    go_wp2_with fail
    generalize ((W.setCell ⟨w.heap.size+1,0,none⟩ (.int .u8 0)).setCell ⟨w.heap.size+1,1,none⟩ (.int .u32 0)).setCell ⟨w.heap.size+1,2,none⟩ (.string ⟨#[]⟩)=X at *
    obtain ⟨e1,_⟩:=blk_cells HY1.out
    have a0:=e1 0
    have a1:=e1 1
    have a2:=e1 2
    refine bodyPost_ret (v:=.tuple #[argV noArg,.int .i64 43]) ?_ rfl ⟨rfl,HY.out⟩
    simp [results,Tryz.results164,go_sem,argV,noArg,a0,a1,a2]
  ·rw [if_neg hbad] at hi
   subst hi
   have e9:=HA.out
   rw [if_pos rfl,← HF2.out] at e9
   subst e9
   have h0':(no == 0)=false:=by simp;omega
   have h1':decide (b≤no)=false:=decide_eq_false (by omega)
   clear hbad
   obtain ⟨x1,x2⟩:=arg_put HK.out (.int .u8 1) (.int .u32 no) (.string ⟨#[]⟩)
   have HY:=hide (HB.out.trans (x2.mono (by omega)))
   have HY1:=hide x1
   clear x1 x2 HK HB HA cc
   go_wp2_with fail
   generalize ((W.setCell ⟨w.heap.size+1,0,none⟩ (.int .u8 1)).setCell ⟨w.heap.size+1,1,none⟩ (.int .u32 no)).setCell ⟨w.heap.size+1,2,none⟩ (.string ⟨#[]⟩)=X at *
   obtain ⟨e1,_⟩:=blk_cells HY1.out
   have a0:=e1 0
   have a1:=e1 1
   have a2:=e1 2
   refine bodyPost_ret (v:=.tuple #[argV (1,no,⟨#[]⟩),.int .i64 0]) ?_ rfl ⟨rfl,HY.out⟩
   simp [results,Tryz.results164,go_sem,argV,noArg,a0,a1,a2]
 ·have h':(ne != 0)=true:=by simp [h]
  obtain ⟨hi,rfl⟩:=HI2.out.1 h
  subst hi
  have e9:=HA.out
  rw [if_neg (by decide)] at e9
  subst e9
  clear h HI2 HV
  obtain ⟨x1,x2⟩:=arg_put HK.out (.int .u8 0) (.int .u32 0) (.string ⟨#[]⟩)
  have HY:=hide (HB.out.trans (x2.mono (by omega)))
  have HY1:=hide x1
  clear x1 x2 HK HB HA cc
  go_wp2_with fail
  generalize ((W.setCell ⟨w.heap.size+1,0,none⟩ (.int .u8 0)).setCell ⟨w.heap.size+1,1,none⟩ (.int .u32 0)).setCell ⟨w.heap.size+1,2,none⟩ (.string ⟨#[]⟩)=X at *
  obtain ⟨e1,_⟩:=blk_cells HY1.out
  have a0:=e1 0
  have a1:=e1 1
  have a2:=e1 2
  refine bodyPost_ret (v:=.tuple #[argV noArg,.int .i64 62]) ?_ rfl ⟨rfl,HY.out⟩
  simp [results,Tryz.results164,go_sem,argV,noArg,a0,a1,a2]
set_option maxHeartbeats 2000000 in
theorem wantEnum_any (c b:Int) (s:ByteArray) (w:World) :
  Calls Tryz.prog 175 #[.agg #[.int .u8 c,.int .u32 b],.string s] w fun e w'=>e=.returned (.tuple #[argV (if enumNB c s=true then (4,enumN c s,⟨#[]⟩) else noArg),.int .i64 (if enumNB c s=true then 0 else 71)])∧Below w.heap.size w w':=by
 obtain ⟨k0,k1,hb⟩:=want_boxes w c b
 have hN:=fun wx=>enumNamed_any c s wx
 obtain ⟨A,hA⟩:∃ A,A=(if enumNB c s=true then (4,enumN c s,⟨#[]⟩) else noArg:ArgT):=⟨_,rfl⟩
 obtain ⟨I,hI⟩:∃ I,I=(if enumNB c s=true then 0 else 71:Int):=⟨_,rfl⟩
 rw [← hA,← hI]
 generalize enumNB c s=eb at *
 generalize enumN c s=en at *
 have HA0:=hide hA
 have HI:=hide hI
 have HK0:=hide k1
 have HB0:=hide hb
 clear hA hI k0 k1 hb
 go_enter Tryz.func175,Tryz.ntmps175
 go_wp2_with fail
 generalize (w.alloc (.cells #[.int .u8 c,.int .u32 b] 245)).alloc (.cells #[.int .u8 0,.int .u32 0,.string ⟨#[]⟩] 87)=W0 at *
 refine (hN _).mono ?_
 rintro x W ⟨rfl,hbw⟩
 have HK:=hide ((hbw.block _ (Array.getElem?_eq_some_iff.1 HK0.out).1).trans HK0.out)
 have HB:=hide (HB0.out.trans (hbw.mono HB0.out.size))
 obtain ⟨cc,cf⟩:=blk_cells HK.out
 have c0:=cc 0
 have c1:=cc 1
 have c2:=cc 2
 clear hN HK0 HB0 hbw
 have HA:=HA0
 cases eb
 ·have e9:=HA.out
  have e8:=HI.out
  rw [if_neg (by decide)] at e9 e8
  subst e9 e8
  clear HA0 HI
  obtain ⟨x1,x2⟩:=arg_put HK.out (.int .u8 0) (.int .u32 0) (.string ⟨#[]⟩)
  have HY:=hide (HB.out.trans (x2.mono (by omega)))
  have HY1:=hide x1
  clear x1 x2 HK HB HA cc
  go_wp2_with fail
  generalize ((W.setCell ⟨w.heap.size+1,0,none⟩ (.int .u8 0)).setCell ⟨w.heap.size+1,1,none⟩ (.int .u32 0)).setCell ⟨w.heap.size+1,2,none⟩ (.string ⟨#[]⟩)=X at *
  obtain ⟨e1,_⟩:=blk_cells HY1.out
  have a0:=e1 0
  have a1:=e1 1
  have a2:=e1 2
  refine bodyPost_ret (v:=.tuple #[argV noArg,.int .i64 71]) ?_ rfl ⟨rfl,HY.out⟩
  simp [results,Tryz.results175,go_sem,argV,noArg,a0,a1,a2]
 ·have e9:=HA.out
  have e8:=HI.out
  rw [if_pos rfl] at e9 e8
  subst e9 e8
  clear HA0 HI
  obtain ⟨x1,x2⟩:=arg_put HK.out (.int .u8 4) (.int .u32 en) (.string ⟨#[]⟩)
  have HY:=hide (HB.out.trans (x2.mono (by omega)))
  have HY1:=hide x1
  clear x1 x2 HK HB HA cc
  go_wp2_with fail
  generalize ((W.setCell ⟨w.heap.size+1,0,none⟩ (.int .u8 4)).setCell ⟨w.heap.size+1,1,none⟩ (.int .u32 en)).setCell ⟨w.heap.size+1,2,none⟩ (.string ⟨#[]⟩)=X at *
  obtain ⟨e1,_⟩:=blk_cells HY1.out
  have a0:=e1 0
  have a1:=e1 1
  have a2:=e1 2
  refine bodyPost_ret (v:=.tuple #[argV (4,en,⟨#[]⟩),.int .i64 0]) ?_ rfl ⟨rfl,HY.out⟩
  simp [results,Tryz.results175,go_sem,argV,noArg,a0,a1,a2]
theorem nul_index (s:ByteArray):decide ((0:Int)≤Lib.indexByte s.data.toList (0:Int).toNat.toUInt8)=nulS s:=by
 cases e:nulS s with
 | false =>
  rw [index_none s (nulS_false.1 e)];rfl
 | true =>
  obtain ⟨k,hk,h0⟩:=nulS_true e
  apply decide_eq_true
  apply Classical.byContradiction
  intro hn
  have h1:=Lib.indexByte_ge s.data.toList (0:Int).toNat.toUInt8
  have h2:Lib.indexByte s.data.toList (0:Int).toNat.toUInt8=-1:=by omega
  have h3:=Lib.indexByte_none h2 k
  apply h3
  rw [nth_strI s k hk] at h0
  have hl:k < s.data.toList.length:=by rw [size_list];exact hk
  rw [List.getElem?_eq_getElem hl]
  have e2:s.data.toList[k]=s[k]:=rfl
  rw [e2]
  congr 1
  apply UInt8.toNat_inj.1
  simp;omega
set_option maxHeartbeats 2000000 in
theorem wantText_any (c b:Int) (s:ByteArray) (w:World) :
  Calls Tryz.prog 174 #[.agg #[.int .u8 c,.int .u32 b],.string s] w fun e w'=>e=.returned (.tuple #[argV (if nulS s=true then noArg else (3,0,s)),.int .i64 (if nulS s=true then 13 else 0)])∧Below w.heap.size w w':=by
 obtain ⟨k0,k1,hb⟩:=want_boxes w c b
 have hN:=fun wx=>indexByte_any s wx
 have hd:=nul_index s
 obtain ⟨A,hA⟩:∃ A,A=(if nulS s=true then noArg else (3,0,s):ArgT):=⟨_,rfl⟩
 obtain ⟨I,hI⟩:∃ I,I=(if nulS s=true then 13 else 0:Int):=⟨_,rfl⟩
 rw [← hA,← hI]
 generalize Lib.indexByte s.data.toList (0:Int).toNat.toUInt8=ib at *
 generalize nulS s=eb at *
 have HA:=hide hA
 have HI:=hide hI
 have HK:=hide k1
 have HB:=hide hb
 clear hA hI k0 k1 hb
 go_enter Tryz.func174,Tryz.ntmps174
 go_wp2_with fail
 generalize (w.alloc (.cells #[.int .u8 c,.int .u32 b] 245)).alloc (.cells #[.int .u8 0,.int .u32 0,.string ⟨#[]⟩] 87)=W at *
 refine (hN _).mono ?_
 rintro x w' ⟨rfl,rfl⟩
 obtain ⟨cc,cf⟩:=blk_cells HK.out
 have c0:=cc 0
 have c1:=cc 1
 have c2:=cc 2
 clear hN
 cases eb
 ·have e9:=HA.out
  have e8:=HI.out
  rw [if_neg (by decide)] at e9 e8
  subst e9 e8
  clear HI
  obtain ⟨x1,x2⟩:=arg_put HK.out (.int .u8 3) (.int .u32 0) (.string s)
  have HY:=hide (HB.out.trans (x2.mono (by omega)))
  have HY1:=hide x1
  clear x1 x2 HK HB HA cc
  go_wp2_with fail
  generalize ((W.setCell ⟨w.heap.size+1,0,none⟩ (.int .u8 3)).setCell ⟨w.heap.size+1,1,none⟩ (.int .u32 0)).setCell ⟨w.heap.size+1,2,none⟩ (.string s)=X at *
  obtain ⟨e1,_⟩:=blk_cells HY1.out
  have a0:=e1 0
  have a1:=e1 1
  have a2:=e1 2
  refine bodyPost_ret (v:=.tuple #[argV (3,0,s),.int .i64 0]) ?_ rfl ⟨rfl,HY.out⟩
  simp [results,Tryz.results174,go_sem,argV,noArg,a0,a1,a2]
 ·have e9:=HA.out
  have e8:=HI.out
  rw [if_pos rfl] at e9 e8
  subst e9 e8
  clear HI
  obtain ⟨x1,x2⟩:=arg_put HK.out (.int .u8 0) (.int .u32 0) (.string ⟨#[]⟩)
  have HY:=hide (HB.out.trans (x2.mono (by omega)))
  have HY1:=hide x1
  clear x1 x2 HK HB HA cc
  go_wp2_with fail
  generalize ((W.setCell ⟨w.heap.size+1,0,none⟩ (.int .u8 0)).setCell ⟨w.heap.size+1,1,none⟩ (.int .u32 0)).setCell ⟨w.heap.size+1,2,none⟩ (.string ⟨#[]⟩)=X at *
  obtain ⟨e1,_⟩:=blk_cells HY1.out
  have a0:=e1 0
  have a1:=e1 1
  have a2:=e1 2
  refine bodyPost_ret (v:=.tuple #[argV noArg,.int .i64 13]) ?_ rfl ⟨rfl,HY.out⟩
  simp [results,Tryz.results174,go_sem,argV,noArg,a0,a1,a2]
def takerN (c:Int):Nat:=if kindI c=1 then 164 else if kindI c=2 then 173 else if kindI c=3 then 174 else if kindI c=4 then 175 else 176
theorem taken_any (c b:Int) (s:ByteArray) (w:World) (hs:s.size≤140737488351232) :
  Calls Tryz.prog (takerN c) #[.agg #[.int .u8 c,.int .u32 b],.string s] w fun e w'=>e=.returned (.tuple #[argV (txtA c s b),.int .i64 (txtE c s b)])∧Below w.heap.size w w':=by
 unfold takerN
 by_cases h1:kindI c=1
 ·have e1:txtE c s b=idP s b:=by unfold txtE;rw [if_pos h1]
  have e2:txtA c s b=if idP s b=0 then (1,numV (strI s),⟨#[]⟩) else noArg:=by
   unfold txtA;rw [e1,if_pos h1];by_cases h0:idP s b=0 <;> simp [h0]
  rw [if_pos h1,e1,e2];exact wantId_any c b s w hs
 ·rw [if_neg h1]
  by_cases h2:kindI c=2
  ·have e1:txtE c s b=numErr (strI s):=by unfold txtE;rw [if_neg h1,if_pos h2]
   have e2:txtA c s b=if numErr (strI s)=0 then (2,numV (strI s),⟨#[]⟩) else noArg:=by
    unfold txtA;rw [e1,if_neg h1,if_pos h2];by_cases h0:numErr (strI s)=0 <;> simp [h0]
   rw [if_pos h2,e1,e2];exact wantNumber_any c b s w hs
  ·rw [if_neg h2]
   by_cases h3:kindI c=3
   ·have e1:txtE c s b=if nulS s=true then 13 else 0:=by unfold txtE;rw [if_neg h1,if_neg h2,if_pos h3]
    have e2:txtA c s b=if nulS s=true then noArg else (3,0,s):=by
     unfold txtA;rw [e1,if_neg h1,if_neg h2,if_pos h3];cases nulS s <;> simp
    rw [if_pos h3,e1,e2];exact wantText_any c b s w
   ·rw [if_neg h3]
    by_cases h4:kindI c=4
    ·have e1:txtE c s b=if enumNB c s=true then 0 else 71:=by unfold txtE;rw [if_neg h1,if_neg h2,if_neg h3,if_pos h4]
     have e2:txtA c s b=if enumNB c s=true then (4,enumN c s,⟨#[]⟩) else noArg:=by
      unfold txtA;rw [e1,if_neg h1,if_neg h2,if_neg h3];cases enumNB c s <;> simp
     rw [if_pos h4,e1,e2];exact wantEnum_any c b s w
    ·have e1:txtE c s b=70:=by unfold txtE;rw [if_neg h1,if_neg h2,if_neg h3,if_neg h4]
     have e2:txtA c s b=noArg:=by unfold txtA;rw [e1,if_pos (by decide)]
     rw [if_neg h4,e1,e2];exact wantNone_any c b s w
set_option maxHeartbeats 4000000 in
theorem taker_any7 (c b:Int) (w:World) :
  Calls Tryz.prog 165 #[.agg #[.int .u8 c,.int .u32 b]] w fun e w'=>e=.returned (.tuple #[.int .u8 (takeK c),.func (.func (takerN c)) #[.agg #[.int .u8 c,.int .u32 b]] #[]])∧Below w.heap.size w w':=by
 have hK:=fun wx=>kind_any c wx
 have hT:=takerN
 unfold takeK takerN
 have hr:=kindI_most c
 generalize kindI c=kd at *
 have hb:Below w.heap.size w (w.alloc (.cells #[.int .u8 c,.int .u32 b] 245)):=(Below.refl _ w).alloc (Nat.le_refl _) _
 have hkd:kd=0 ∨ kd=1 ∨ kd=2 ∨ kd=3 ∨ kd=4:=by omega
 clear hr hT
 rcases hkd with rfl | rfl | rfl | rfl | rfl
 all_goals
  simp only [if_pos,if_neg,reduceIte,Int.reduceEq]
  go_enter Tryz.func165,Tryz.ntmps165
  go_wp2_with (go_at_call 114;refine (hK _).mono ?_;rintro x w' ⟨rfl,rfl⟩)
  go_region
  go_wp2
  go_ret2
  exact ⟨rfl,hb.drew⟩
set_option maxHeartbeats 2000000 in
theorem take_wrong (B:Nat) (a:Option Addr) (n c k:Nat) (len:Int) (rest:Array Value) (T:Nat) (l:List TokT) (kd:Int) (w:World) (h:RowAt w B a n c k len rest T) (hv:ToksV w a l) (hl:l.length=n) (hn:32 * n≤140737488351232) (hk:k < n) (hkd:(nthT l k).1≠kd) :
  Calls Tryz.prog 145 #[.pointer (some ⟨B,0,none⟩),.int .u8 kd] w fun e w'=>e=.returned (.tuple #[tokV noTok,.agg #[.int .i64 70,.int .i64 (nthT l k).2.2]])∧Below w.heap.size w w':=by
 obtain ⟨z,hz⟩:∃ z,z=nthT l k:=⟨_,rfl⟩
 rw [← hz] at hkd ⊢
 obtain ⟨z1,z2,z3⟩:=z
 simp only at hkd ⊢
 have HZN:=hide hz
 clear hz
 obtain ⟨kT,kS,hb⟩:=tok_spot_boxes w
 have hR:=h.below hb
 have hE:=ended_any B a n c k len rest T _ hR
 rw [show ((k:Int) == (n:Int))=false by simp;omega] at hE
 have hlt:=h.lt
 have hV:=hv.below hb
 clear h hv
 go_enter Tryz.func145,Tryz.ntmps145
 go_wp2_with fail
 generalize (w.alloc (.cells #[.int .u8 0,.string ⟨#[]⟩,.int .i64 0] 41)).alloc (.cells #[.int .i64 0,.int .i64 0] 28)=W at *
 refine hE.mono ?_
 rintro e w1 ⟨rfl,q,rfl⟩
 have hbq:=bel_drewN (Below.refl W.heap.size W) q
 have sS:=(Array.getElem?_eq_some_iff.1 kS).1
 have kT1:=(hbq.block _ (by omega)).trans kT
 have kS1:=(hbq.block _ sS).trans kS
 have hR1:=hR.below hbq
 have hV1:=hV.below hbq
 have hb1:=hb.trans (hbq.mono hb.size)
 have s1:w.heap.size+1 < (W.drewN q).heap.size:=Nat.lt_of_lt_of_le sS hbq.size
 clear hE hbq kT kS hR hb sS hV
 generalize W.drewN q=W1 at *
 obtain ⟨r0,r1,r2,rf⟩:=hR1.cells
 obtain ⟨g1,o1,rfl,hg1,q1,q2,q3⟩:=hV1 k (by omega)
 rw [← HZN.out] at q1 q2 q3
 simp only at q1 q2 q3
 clear HZN
 have hki:(k:Int) < (n:Int):=by omega
 have hk0:(0:Int)≤(k:Int):=by omega
 have hne:B≠w.heap.size:=by omega
 have hne1:B≠w.heap.size+1:=by omega
 have HB:=hide hb1
 have HT:=hide kT1
 have HS:=hide kS1
 have HR:=hide hR1
 have hB1:B < W1.heap.size:=hR1.lt
 have hkb:(k:Int) < 140737488351232:=by omega
 clear hR1 hb1 kT1 kS1 hV1 hl hn
 go_wp2
 go_region
 have hb2:Below W1.heap.size W1 (W1.alloc (.cells #[.int .u8 z1,.string z2,.int .i64 z3] 41)).drew:=((Below.refl _ _).alloc (Nat.le_refl _) _).drew
 have kZ:(W1.alloc (.cells #[.int .u8 z1,.string z2,.int .i64 z3] 41)).drew.heap[W1.heap.size]?=some (.cells #[.int .u8 z1,.string z2,.int .i64 z3] 41 (0,0)):=heap_alloc_new W1 _
 have HT2:=hide ((hb2.block _ (by omega)).trans HT.out)
 have HS2:=hide ((hb2.block _ s1).trans HS.out)
 have HR2:=hide (HR.out.below hb2)
 have HB2:=hide (HB.out.trans (hb2.mono (by omega)))
 have HZ:=hide kZ
 have sz:W1.heap.size < (W1.alloc (.cells #[.int .u8 z1,.string z2,.int .i64 z3] 41)).drew.heap.size:=(Array.getElem?_eq_some_iff.1 kZ).1
 have s2:w.heap.size+1 < W1.heap.size:=s1
 clear hb2 kZ HT HS HR HB r0 r1 r2 rf q1 q2 q3 s1 hki hk0 hg1
 generalize (W1.alloc (.cells #[.int .u8 z1,.string z2,.int .i64 z3] 41)).drew=W2 at *
 obtain ⟨cz,fz⟩:=blk_cells HZ.out
 have y0:=cz 0
 have y1:=cz 1
 have y2:=cz 2
 clear cz HZ
 have hkd':(z1 != kd)=true:=by simp [hkd]
 have hFA:=fun wx=>faultAt_any (z1,z2,z3) 70 wx
 rw [show fltA 70 ((z1,z2,z3):TokT).2.2=z3 by unfold fltA;simp] at hFA
 unfold tokV at hFA
 simp only at hFA
 go_wp2_with fail
 refine (hFA _).mono ?_
 rintro e w3 ⟨rfl,hb3⟩
 have kT3:=(hb3.block _ (by omega)).trans HT2.out
 have kS3:=(hb3.block _ (by omega)).trans HS2.out
 have hb03:=HB2.out.trans (hb3.mono HB2.out.size)
 have s3:w.heap.size+1 < w3.heap.size:=by have:=hb3.size;omega
 obtain ⟨ct,ft⟩:=blk_cells kT3
 obtain ⟨cp,fp⟩:=blk_cells kS3
 have t0:=ct 0
 have t1:=ct 1
 have t2:=ct 2
 have p0:=cp 0
 have p1:=cp 1
 obtain ⟨x1,x2,x3⟩:=five_put kT3 kS3 (.int .u8 0) (.string ⟨#[]⟩) (.int .i64 0) (.int .i64 70) (.int .i64 z3)
 have HY:=hide (hb03.trans x3)
 have HY1:=hide x1
 have HY2:=hide x2
 clear hFA hb3 hb03 kT3 kS3 ct cp x1 x2 x3 HT2 HS2 HB2 HR2 y0 y1 y2 fz
 go_wp2
 generalize ((((w3.setCell ⟨w.heap.size,0,none⟩ (.int .u8 0)).setCell ⟨w.heap.size,1,none⟩ (.string ⟨#[]⟩)).setCell ⟨w.heap.size,2,none⟩ (.int .i64 0)).setCell ⟨w.heap.size+1,0,none⟩ (.int .i64 70)).setCell ⟨w.heap.size+1,1,none⟩ (.int .i64 z3)=X at *
 obtain ⟨z1,_⟩:=blk_cells HY1.out
 obtain ⟨z2,_⟩:=blk_cells HY2.out
 have a0:=z1 0
 have a1:=z1 1
 have a2:=z1 2
 have b0:=z2 0
 have b1:=z2 1
 refine bodyPost_ret (v:=.tuple #[tokV noTok,.agg #[.int .i64 70,.int .i64 z3]]) ?_ rfl ⟨rfl,HY.out⟩
 simp [results,Tryz.results145,go_sem,a0,a1,a2,b0,b1,tokV,noTok]
set_option maxHeartbeats 2000000 in
theorem take_ok (B:Nat) (a:Option Addr) (n c k:Nat) (len:Int) (rest:Array Value) (T:Nat) (l:List TokT) (kd:Int) (w:World) (h:RowAt w B a n c k len rest T) (hv:ToksV w a l) (hl:l.length=n) (hn:32 * n≤140737488351232) (hk:k < n) (hkd:(nthT l k).1=kd) :
  Calls Tryz.prog 145 #[.pointer (some ⟨B,0,none⟩),.int .u8 kd] w fun e w'=>e=.returned (.tuple #[tokV (nthT l k),.agg #[.int .i64 0,.int .i64 0]])∧RowAt w' B a n c (k+1) len rest T∧w.grownBy w' (some B):=by
 obtain ⟨z,hz⟩:∃ z,z=nthT l k:=⟨_,rfl⟩
 rw [← hz] at hkd ⊢
 obtain ⟨z1,z2,z3⟩:=z
 simp only at hkd ⊢
 subst hkd
 have HZN:=hide hz
 clear hz
 obtain ⟨kT,kS,hb⟩:=tok_spot_boxes w
 have hR:=h.below hb
 have hE:=ended_any B a n c k len rest T _ hR
 rw [show ((k:Int) == (n:Int))=false by simp;omega] at hE
 have hlt:=h.lt
 have hV:=hv.below hb
 clear h hv
 go_enter Tryz.func145,Tryz.ntmps145
 go_wp2_with fail
 generalize (w.alloc (.cells #[.int .u8 0,.string ⟨#[]⟩,.int .i64 0] 41)).alloc (.cells #[.int .i64 0,.int .i64 0] 28)=W at *
 refine hE.mono ?_
 rintro e w1 ⟨rfl,q,rfl⟩
 have hbq:=bel_drewN (Below.refl W.heap.size W) q
 have sS:=(Array.getElem?_eq_some_iff.1 kS).1
 have kT1:=(hbq.block _ (by omega)).trans kT
 have kS1:=(hbq.block _ sS).trans kS
 have hR1:=hR.below hbq
 have hV1:=hV.below hbq
 have hb1:=hb.trans (hbq.mono hb.size)
 have s1:w.heap.size+1 < (W.drewN q).heap.size:=Nat.lt_of_lt_of_le sS hbq.size
 clear hE hbq kT kS hR hb sS hV
 generalize W.drewN q=W1 at *
 obtain ⟨r0,r1,r2,rf⟩:=hR1.cells
 obtain ⟨g1,o1,rfl,hg1,q1,q2,q3⟩:=hV1 k (by omega)
 rw [← HZN.out] at q1 q2 q3
 simp only at q1 q2 q3
 clear HZN
 have hki:(k:Int) < (n:Int):=by omega
 have hk0:(0:Int)≤(k:Int):=by omega
 have hne:B≠w.heap.size:=by omega
 have hne1:B≠w.heap.size+1:=by omega
 have HB:=hide hb1
 have HT:=hide kT1
 have HS:=hide kS1
 have HR:=hide hR1
 have hB1:B < W1.heap.size:=hR1.lt
 have hkb:(k:Int) < 140737488351232:=by omega
 have hnb:(n:Int)≤140737488351232:=by omega
 clear hR1 hb1 kT1 kS1 hV1 hl hn
 go_wp2
 go_region
 have hb2:Below W1.heap.size W1 (W1.alloc (.cells #[.int .u8 z1,.string z2,.int .i64 z3] 41)).drew:=((Below.refl _ _).alloc (Nat.le_refl _) _).drew
 have kZ:(W1.alloc (.cells #[.int .u8 z1,.string z2,.int .i64 z3] 41)).drew.heap[W1.heap.size]?=some (.cells #[.int .u8 z1,.string z2,.int .i64 z3] 41 (0,0)):=heap_alloc_new W1 _
 have HT2:=hide ((hb2.block _ (by omega)).trans HT.out)
 have HS2:=hide ((hb2.block _ s1).trans HS.out)
 have HR2:=hide (HR.out.below hb2)
 have HB2:=hide (HB.out.trans (hb2.mono (by omega)))
 have HZ:=hide kZ
 have sz:W1.heap.size < (W1.alloc (.cells #[.int .u8 z1,.string z2,.int .i64 z3] 41)).drew.heap.size:=(Array.getElem?_eq_some_iff.1 kZ).1
 have s2:w.heap.size+1 < W1.heap.size:=s1
 clear hb2 kZ HT HS HR HB r0 r1 r2 rf q1 q2 q3 s1 hg1
 generalize (W1.alloc (.cells #[.int .u8 z1,.string z2,.int .i64 z3] 41)).drew=W2 at *
 obtain ⟨cz,fz⟩:=blk_cells HZ.out
 have y0:=cz 0
 have y1:=cz 1
 have y2:=cz 2
 clear cz HZ
 obtain ⟨r0,r1,r2,rf⟩:=HR2.out.cells
 obtain ⟨ct,ft⟩:=blk_cells HT2.out
 obtain ⟨cp,fp⟩:=blk_cells HS2.out
 have t0:=ct 0
 have t1:=ct 1
 have t2:=ct 2
 have p0:=cp 0
 have p1:=cp 1
 have hR3:=HR2.out.step
 have kT3:(W2.setCell ⟨B,1,none⟩ (.int .i64 ((k+1:Nat):Int))).heap[w.heap.size]?=some (.cells #[.int .u8 0,.string ⟨#[]⟩,.int .i64 0] 41 (0,0)):=(Below.heap_setCell _ _ _ _ (by simp;omega)).trans HT2.out
 have kS3:(W2.setCell ⟨B,1,none⟩ (.int .i64 ((k+1:Nat):Int))).heap[w.heap.size+1]?=some (.cells #[.int .i64 0,.int .i64 0] 28 (0,0)):=(Below.heap_setCell _ _ _ _ (by simp;omega)).trans HS2.out
 have hg3:w.grownBy (W2.setCell ⟨B,1,none⟩ (.int .i64 ((k+1:Nat):Int))) (some B):=⟨HB2.out.os,HB2.out.tape,HB2.out.output,by have:=HB2.out.size;simpa using this,fun j hj hr=>(Below.heap_setCell _ _ _ _ (by simp at hr ⊢;omega)).trans (HB2.out.block j hj)⟩
 obtain ⟨x1,x2,x3⟩:=five_put kT3 kS3 (.int .u8 z1) (.string z2) (.int .i64 z3) (.int .i64 0) (.int .i64 0)
 have hgX:w.grownBy (((((((W2.setCell ⟨B,1,none⟩ (.int .i64 ((k+1:Nat):Int))).setCell ⟨w.heap.size,0,none⟩ (.int .u8 z1)).setCell ⟨w.heap.size,1,none⟩ (.string z2)).setCell ⟨w.heap.size,2,none⟩ (.int .i64 z3)).setCell ⟨w.heap.size+1,0,none⟩ (.int .i64 0)).setCell ⟨w.heap.size+1,1,none⟩ (.int .i64 0))) (some B) :=
  ⟨x3.os.trans hg3.os,x3.tape.trans hg3.tape,x3.output.trans hg3.output,Nat.le_trans hg3.size x3.size,fun j hj hr=>(x3.block j hj).trans (hg3.block j hj hr)⟩
 have hRX:RowAt (((((((W2.setCell ⟨B,1,none⟩ (.int .i64 ((k+1:Nat):Int))).setCell ⟨w.heap.size,0,none⟩ (.int .u8 z1)).setCell ⟨w.heap.size,1,none⟩ (.string z2)).setCell ⟨w.heap.size,2,none⟩ (.int .i64 z3)).setCell ⟨w.heap.size+1,0,none⟩ (.int .i64 0)).setCell ⟨w.heap.size+1,1,none⟩ (.int .i64 0))) B (some ⟨g1,o1,none⟩) n c (k+1) len rest T:=(x3.block B hlt).trans hR3
 have HG:=hide hgX
 have HRX:=hide hRX
 have HY1:=hide x1
 have HY2:=hide x2
 have hcast:((k:Int)+1)=((k+1:Nat):Int):=by omega
 have HC:=hide hcast
 clear hR3 kT3 kS3 hg3 x1 x2 x3 hgX hRX ct cp HT2 HS2 HB2 HR2 hcast
 have n1:B≠W1.heap.size:=by omega
 have n2:W1.heap.size≠B:=by omega
 have n3:w.heap.size≠B:=by omega
 have n4:w.heap.size+1≠B:=by omega
 have n5:w.heap.size≠W1.heap.size:=by omega
 have n6:w.heap.size+1≠W1.heap.size:=by omega
 have rf1:=rf 1
 have ft0:=ft 0
 have ft1:=ft 1
 have ft2:=ft 2
 have fp0:=fp 0
 have fp1:=fp 1
 clear rf ft fp fz hne hne1 hB1 hlt s2 sz
 have hk0:(0:Int)≤(k:Int):=by omega
 go_wp2
 rw [HC.out]
 generalize (((((W2.setCell ⟨B,1,none⟩ (.int .i64 ((k+1:Nat):Int))).setCell ⟨w.heap.size,0,none⟩ (.int .u8 z1)).setCell ⟨w.heap.size,1,none⟩ (.string z2)).setCell ⟨w.heap.size,2,none⟩ (.int .i64 z3)).setCell ⟨w.heap.size+1,0,none⟩ (.int .i64 0)).setCell ⟨w.heap.size+1,1,none⟩ (.int .i64 0)=X at *
 obtain ⟨e1,_⟩:=blk_cells HY1.out
 obtain ⟨e2,_⟩:=blk_cells HY2.out
 have a0:=e1 0
 have a1:=e1 1
 have a2:=e1 2
 have b0:=e2 0
 have b1:=e2 1
 refine bodyPost_ret (v:=.tuple #[tokV (z1,z2,z3),.agg #[.int .i64 0,.int .i64 0]]) ?_ rfl ⟨rfl,HRX.out,HG.out⟩
 simp [results,Tryz.results145,go_sem,a0,a1,a2,b0,b1,tokV]
def ReadAt (w:World) (B:Nat) (a:Option Addr) (n c k:Nat) (len b:Int) (rest:Array Value):Prop:=RowAt w B a n c k len (#[.int .u32 b] ++ rest) 203
theorem ReadAt.bound {w:World} {B:Nat} {a:Option Addr} {n c k:Nat} {len b:Int} {rest:Array Value} (h:ReadAt w B a n c k len b rest):w.cell? ⟨B,3,none⟩=some (.int .u32 b):=by
 unfold ReadAt RowAt at h
 simp only [World.cell?,h]
 rw [Array.getElem?_append_right (by simp)]
 rw [Array.getElem?_append_left (by simp)]
 rfl
theorem arg_spot_boxes (w:World):((w.alloc (.cells #[.int .u8 0,.int .u32 0,.string ⟨#[]⟩] 87)).alloc (.cells #[.int .i64 0,.int .i64 0] 28)).heap[w.heap.size]?=some (.cells #[.int .u8 0,.int .u32 0,.string ⟨#[]⟩] 87 (0,0))∧((w.alloc (.cells #[.int .u8 0,.int .u32 0,.string ⟨#[]⟩] 87)).alloc (.cells #[.int .i64 0,.int .i64 0] 28)).heap[w.heap.size+1]?=some (.cells #[.int .i64 0,.int .i64 0] 28 (0,0))∧Below w.heap.size w ((w.alloc (.cells #[.int .u8 0,.int .u32 0,.string ⟨#[]⟩] 87)).alloc (.cells #[.int .i64 0,.int .i64 0] 28)) :=
 ⟨(Below.heap_alloc _ _ _ (by simp)).trans (heap_alloc_new w _),by simpa using heap_alloc_new (w.alloc (.cells #[.int .u8 0,.int .u32 0,.string ⟨#[]⟩] 87)) (.cells #[.int .i64 0,.int .i64 0] 28),((Below.refl _ w).alloc (Nat.le_refl _) _).alloc (by simp) _⟩
set_option maxHeartbeats 4000000 in
/-- Where no token is taken. -/
theorem argument_bad (B:Nat) (a:Option Addr) (n c k:Nat) (len b:Int) (rest:Array Value) (ch:Int) (w:World) (e p:Int) (he:e≠0) (h:ReadAt w B a n c k len b rest)
  (hT:∀ wx,Below w.heap.size w wx→Calls Tryz.prog 145 #[.pointer (some ⟨B,0,none⟩),.int .u8 (takeK ch)] wx fun x w'=>x=.returned (.tuple #[tokV noTok,.agg #[.int .i64 e,.int .i64 p]])∧Below wx.heap.size wx w') :
  Calls Tryz.prog 150 #[.pointer (some ⟨B,0,none⟩),.int .u8 ch] w fun x w'=>x=.returned (.tuple #[argV noArg,.agg #[.int .i64 e,.int .i64 p]])∧Below w.heap.size w w':=by
 have he':(e != 0)=true:=by simp [he]
 obtain ⟨kT,kS,hb⟩:=arg_spot_boxes w
 have hTk:=fun wx=>taker_any7 ch b wx
 have hlt:=RowAt.lt h
 have hR:=RowAt.below h hb
 have c3:=ReadAt.bound (h:=hR)
 have HT:=hide kT
 have HS:=hide kS
 have HB:=hide hb
 unfold tokV noTok at hT
 have HTT:=hide hT
 generalize takeK ch=tk at *
 generalize takerN ch=tn at *
 clear h hR kT kS hb he hT
 go_enter Tryz.func150,Tryz.ntmps150
 go_wp2_with fail
 generalize (w.alloc (.cells #[.int .u8 0,.int .u32 0,.string ⟨#[]⟩] 87)).alloc (.cells #[.int .i64 0,.int .i64 0] 28)=W at *
 refine (hTk _).mono ?_
 rintro x w1 ⟨rfl,hb1⟩
 have sS:=(Array.getElem?_eq_some_iff.1 HS.out).1
 have hb01:=HB.out.trans (hb1.mono HB.out.size)
 have hC:=HTT.out _ hb01
 have HT1:=hide ((hb1.block _ (by omega)).trans HT.out)
 have HS1:=hide ((hb1.block _ sS).trans HS.out)
 have s1:w.heap.size+1 < w1.heap.size:=Nat.lt_of_lt_of_le sS hb1.size
 have HB1:=hide hb01
 clear hTk hb1 HT HS HB HTT hb01 c3 sS
 go_wp2_with fail
 refine hC.mono ?_
 rintro x w2 ⟨rfl,hb2⟩
 have hba:Below w2.heap.size w2 ((w2.alloc (.cells #[.int .u8 0,.string ⟨#[]⟩,.int .i64 0] 41)).alloc (.cells #[.int .i64 e,.int .i64 p] 28)):=((Below.refl _ w2).alloc (Nat.le_refl _) _).alloc (by simp) _
 have hb2a:=hb2.trans (hba.mono hb2.size)
 have HT2:=hide ((hb2a.block _ (by omega)).trans HT1.out)
 have HS2:=hide ((hb2a.block _ s1).trans HS1.out)
 have HB2:=hide (HB1.out.trans (hb2a.mono HB1.out.size))
 have kC:((w2.alloc (.cells #[.int .u8 0,.string ⟨#[]⟩,.int .i64 0] 41)).alloc (.cells #[.int .i64 e,.int .i64 p] 28)).heap[w2.heap.size+1]?=some (.cells #[.int .i64 e,.int .i64 p] 28 (0,0)):=by simpa using heap_alloc_new (w2.alloc (.cells #[.int .u8 0,.string ⟨#[]⟩,.int .i64 0] 41)) (.cells #[.int .i64 e,.int .i64 p] 28)
 have HC:=hide kC
 have s2:w.heap.size+1 < w2.heap.size:=Nat.lt_of_lt_of_le s1 hb2.size
 clear hC hb2 hba hb2a kC HT1 HS1 HB1
 go_wp2_with fail
 generalize (w2.alloc (.cells #[.int .u8 0,.string ⟨#[]⟩,.int .i64 0] 41)).alloc (.cells #[.int .i64 e,.int .i64 p] 28)=W2 at *
 obtain ⟨cy,_⟩:=blk_cells HC.out
 obtain ⟨ct,ft⟩:=blk_cells HT2.out
 obtain ⟨cp,fp⟩:=blk_cells HS2.out
 have v0:=cy 0
 have v1:=cy 1
 have t0:=ct 0
 have t1:=ct 1
 have t2:=ct 2
 have p0:=cp 0
 have p1:=cp 1
 obtain ⟨x1,x2,x3⟩:=five_drew HT2.out HS2.out (.int .u8 0) (.int .u32 0) (.string ⟨#[]⟩) (.int .i64 e) (.int .i64 p)
 have HY:=hide (HB2.out.trans x3)
 have HY1:=hide x1
 have HY2:=hide x2
 have n2:w2.heap.size+1≠w.heap.size:=by omega
 have n4:w2.heap.size+1≠w.heap.size+1:=by omega
 clear x1 x2 x3 cy ct cp HT2 HS2 HC HB2
 go_region
 generalize (((((W2.setCell ⟨w.heap.size,0,none⟩ (.int .u8 0)).setCell ⟨w.heap.size,1,none⟩ (.int .u32 0)).setCell ⟨w.heap.size,2,none⟩ (.string ⟨#[]⟩)).setCell ⟨w.heap.size+1,0,none⟩ (.int .i64 e)).setCell ⟨w.heap.size+1,1,none⟩ (.int .i64 p)).drew=X at *
 clear v0 v1 t0 t1 t2 p0 p1 ft fp
 go_wp2
 obtain ⟨e1,_⟩:=blk_cells HY1.out
 obtain ⟨e2,_⟩:=blk_cells HY2.out
 have a0:=e1 0
 have a1:=e1 1
 have a2:=e1 2
 have b0:=e2 0
 have b1:=e2 1
 refine bodyPost_ret (v:=.tuple #[argV noArg,.agg #[.int .i64 e,.int .i64 p]]) ?_ rfl ⟨rfl,HY.out⟩
 simp [results,Tryz.results150,go_sem,a0,a1,a2,b0,b1,argV,noArg]
set_option maxHeartbeats 8000000 in
theorem argument_ok (B:Nat) (a:Option Addr) (n c k:Nat) (len b:Int) (rest:Array Value) (ch:Int) (l:List TokT) (w:World) (h:ReadAt w B a n c k len b rest) (hv:ToksV w a l) (hl:l.length=n) (hn:32 * n≤140737488351232) (hk:k < n) (hkd:(nthT l k).1=takeK ch) (hsz:(nthT l k).2.1.size≤140737488351232) :
  Calls Tryz.prog 150 #[.pointer (some ⟨B,0,none⟩),.int .u8 ch] w fun x w'=>x=.returned (.tuple #[argV (txtA ch (nthT l k).2.1 b),.agg #[.int .i64 (txtE ch (nthT l k).2.1 b),.int .i64 (fltA (txtE ch (nthT l k).2.1 b) (nthT l k).2.2)]])∧ReadAt w' B a n c (k+1) len b rest∧w.grownBy w' (some B):=by
 obtain ⟨kT,kS,hb⟩:=arg_spot_boxes w
 have hTk:=fun wx=>taker_any7 ch b wx
 have hTo:=fun (wx:World) (hb:Below w.heap.size w wx)=>take_ok B a n c k len (#[Value.int .u32 b] ++ rest) 203 l (takeK ch) wx (RowAt.below (rest:=#[Value.int .u32 b] ++ rest) (T:=203) h hb) (hv.below hb) hl hn hk hkd
 have hFn:=fun wx=>taken_any ch b (nthT l k).2.1 wx hsz
 have hFA:=fun wx=>faultAt_any (nthT l k) (txtE ch (nthT l k).2.1 b) wx
 have hlt:=RowAt.lt h
 have hR:=RowAt.below h hb
 have c3:=ReadAt.bound (h:=hR)
 have hne:∀ args w,(callFunc (takerN ch) args).run Tryz.prog w=.ok (.enter (takerN ch) args) w:=by
  intro args w
  unfold takerN
  split
  ·kernel_rfl
  ·split
   ·kernel_rfl
   ·split
    ·kernel_rfl
    ·split
     ·kernel_rfl
     ·kernel_rfl
 generalize txtE ch (nthT l k).2.1 b=te at *
 generalize txtA ch (nthT l k).2.1 b=ta at *
 obtain ⟨f0,f1,f2⟩:=ta
 generalize nthT l k=z at *
 obtain ⟨z1,z2,z3⟩:=z
 simp only at hkd
 subst hkd
 unfold tokV at hTo hFA
 unfold argV at hFn ⊢
 simp only at hTo hFA hFn ⊢
 generalize fltA te z3=fp0 at *
 have HT:=hide kT
 have HS:=hide kS
 have HB:=hide hb
 have HTO:=hide hTo
 generalize hz1:takeK ch=z1 at *
 generalize takerN ch=tn at *
 clear h hR kT kS hb hTo hv hl hn hk hsz hz1
 go_enter Tryz.func150,Tryz.ntmps150
 go_wp2_with fail
 generalize (w.alloc (.cells #[.int .u8 0,.int .u32 0,.string ⟨#[]⟩] 87)).alloc (.cells #[.int .i64 0,.int .i64 0] 28)=W at *
 refine (hTk _).mono ?_
 rintro x w1 ⟨rfl,hb1⟩
 have sS:=(Array.getElem?_eq_some_iff.1 HS.out).1
 have hb01:=HB.out.trans (hb1.mono HB.out.size)
 have hC:=HTO.out _ hb01
 have HT1:=hide ((hb1.block _ (by omega)).trans HT.out)
 have HS1:=hide ((hb1.block _ sS).trans HS.out)
 have s1:w.heap.size+1 < w1.heap.size:=Nat.lt_of_lt_of_le sS hb1.size
 have HB1:=hide hb01
 clear hTk hb1 HT HS HB HTO hb01 c3 sS
 go_wp2_with fail
 refine hC.mono ?_
 rintro x w2 ⟨rfl,hR2,hg2⟩
 have hba:Below w2.heap.size w2 ((w2.alloc (.cells #[.int .u8 z1,.string z2,.int .i64 z3] 41)).alloc (.cells #[.int .i64 0,.int .i64 0] 28)):=((Below.refl _ w2).alloc (Nat.le_refl _) _).alloc (by simp) _
 have s2:w.heap.size+1 < w2.heap.size:=Nat.lt_of_lt_of_le s1 hg2.size
 have HT2:=hide ((hba.block _ (by omega)).trans ((hg2.block _ (by omega) (by simp;omega)).trans HT1.out))
 have HS2:=hide ((hba.block _ s2).trans ((hg2.block _ s1 (by simp;omega)).trans HS1.out))
 have HR2:=hide (RowAt.below hR2 hba)
 have hg:w.grownBy ((w2.alloc (.cells #[.int .u8 z1,.string z2,.int .i64 z3] 41)).alloc (.cells #[.int .i64 0,.int .i64 0] 28)) (some B) :=
  ⟨hba.os.trans (hg2.os.trans HB1.out.os),hba.tape.trans (hg2.tape.trans HB1.out.tape),hba.output.trans (hg2.output.trans HB1.out.output),Nat.le_trans HB1.out.size (Nat.le_trans hg2.size hba.size),fun j hj hr=>(hba.block j (by omega)).trans ((hg2.block j (Nat.lt_of_lt_of_le hj HB1.out.size) hr).trans (HB1.out.block j hj))⟩
 have HG2:=hide hg
 have kA:((w2.alloc (.cells #[.int .u8 z1,.string z2,.int .i64 z3] 41)).alloc (.cells #[.int .i64 0,.int .i64 0] 28)).heap[w2.heap.size]?=some (.cells #[.int .u8 z1,.string z2,.int .i64 z3] 41 (0,0)):=(Below.heap_alloc _ _ _ (by simp)).trans (heap_alloc_new w2 _)
 have HA2:=hide kA
 have sA:w2.heap.size+1 < ((w2.alloc (.cells #[.int .u8 z1,.string z2,.int .i64 z3] 41)).alloc (.cells #[.int .i64 0,.int .i64 0] 28)).heap.size:=by simp
 clear hC hR2 hg2 hba kA hg HT1 HS1 HB1
 go_wp2_with fail
 generalize (w2.alloc (.cells #[.int .u8 z1,.string z2,.int .i64 z3] 41)).alloc (.cells #[.int .i64 0,.int .i64 0] 28)=W2 at *
 refine (hFn _).mono ?_
 rintro x w3 ⟨rfl,hb3⟩
 have hba:Below w3.heap.size w3 (w3.alloc (.cells #[.int .u8 f0,.int .u32 f1,.string f2] 87)):=(Below.refl _ w3).alloc (Nat.le_refl _) _
 have hb3a:=hb3.trans (hba.mono hb3.size)
 have sR:=HR2.out.lt
 have HT3:=hide ((hb3a.block _ (by omega)).trans HT2.out)
 have HS3:=hide ((hb3a.block _ (by omega)).trans HS2.out)
 have HR3:=hide (RowAt.below HR2.out hb3a)
 have HA3:=hide ((hb3a.block _ (by omega)).trans HA2.out)
 have HF3:=hide (heap_alloc_new w3 (.cells #[.int .u8 f0,.int .u32 f1,.string f2] 87))
 have HG3:=hide (show w.grownBy (w3.alloc (.cells #[.int .u8 f0,.int .u32 f1,.string f2] 87)) (some B) from ⟨hb3a.os.trans HG2.out.os,hb3a.tape.trans HG2.out.tape,hb3a.output.trans HG2.out.output,Nat.le_trans HG2.out.size hb3a.size,fun j hj hr=>(hb3a.block j (Nat.lt_of_lt_of_le hj HG2.out.size)).trans (HG2.out.block j hj hr)⟩)
 have s3:w2.heap.size+1 < w3.heap.size:=Nat.lt_of_lt_of_le sA hb3.size
 clear hFn hne hb3 hba hb3a HT2 HS2 HR2 HA2 HG2
 go_wp2_with fail
 generalize w3.alloc (.cells #[.int .u8 f0,.int .u32 f1,.string f2] 87)=W3 at *
 obtain ⟨cz,_⟩:=blk_cells HA3.out
 obtain ⟨cf,_⟩:=blk_cells HF3.out
 obtain ⟨ct,ft⟩:=blk_cells HT3.out
 obtain ⟨cp,fp⟩:=blk_cells HS3.out
 have y0:=cz 0
 have y1:=cz 1
 have y2:=cz 2
 have g0:=cf 0
 have g1:=cf 1
 have g2:=cf 2
 have t0:=ct 0
 have t1:=ct 1
 have t2:=ct 2
 have p0:=cp 0
 have p1:=cp 1
 have n1:w2.heap.size≠w.heap.size:=by omega
 have n3:w2.heap.size≠w.heap.size+1:=by omega
 have n5:w3.heap.size≠w.heap.size:=by omega
 have n6:w3.heap.size≠w.heap.size+1:=by omega
 have sW3:w3.heap.size < W3.heap.size:=(Array.getElem?_eq_some_iff.1 HF3.out).1
 clear cz cf ct cp
 go_region_with ((go_at_call 146;refine (hFA _).mono ?_;rintro x w4 ⟨rfl,hbx⟩;have m0:=hbx.cell (p:=⟨w.heap.size,0,none⟩) (by simp;omega);have m1:=hbx.cell (p:=⟨w.heap.size,1,none⟩) (by simp;omega);have m2:=hbx.cell (p:=⟨w.heap.size,2,none⟩) (by simp;omega);have m3:=hbx.cell (p:=⟨w.heap.size+1,0,none⟩) (by simp;omega);have m4:=hbx.cell (p:=⟨w.heap.size+1,1,none⟩) (by simp;omega);have m5:=hbx.frozen (p:=⟨w.heap.size,0,none⟩) (by simp;omega);have m6:=hbx.frozen (p:=⟨w.heap.size,1,none⟩) (by simp;omega);have m7:=hbx.frozen (p:=⟨w.heap.size,2,none⟩) (by simp;omega);have m8:=hbx.frozen (p:=⟨w.heap.size+1,0,none⟩) (by simp;omega);have m9:=hbx.frozen (p:=⟨w.heap.size+1,1,none⟩) (by simp;omega);have l0:=hbx.cell (p:=⟨w3.heap.size,0,none⟩) (by simp;omega);have l1:=hbx.cell (p:=⟨w3.heap.size,1,none⟩) (by simp;omega);have l2:=hbx.cell (p:=⟨w3.heap.size,2,none⟩) (by simp;omega);have HBX:=hide hbx))
 all_goals
  have hbx:=HBX.out
  have kT4:=(hbx.block w.heap.size (by simp;omega)).trans HT3.out
  have kS4:=(hbx.block (w.heap.size+1) (by simp;omega)).trans HS3.out
  have hR4:=(hbx.block B (by simp;omega)).trans HR3.out
  have hg4:w.grownBy w4 (some B):=⟨hbx.os.trans HG3.out.os,hbx.tape.trans HG3.out.tape,hbx.output.trans HG3.out.output,Nat.le_trans HG3.out.size hbx.size,fun j hj hr=>(hbx.block j (by simp;omega)).trans (HG3.out.block j hj hr)⟩
  obtain ⟨x1,x2,x3⟩:=five_put kT4 kS4 (.int .u8 f0) (.int .u32 f1) (.string f2) (.int .i64 te) (.int .i64 fp0)
  have hRX:=(x3.block B hlt).trans hR4
  have hgX:=grown_put hg4 x3
  have HRX:=hide hRX
  have HGX:=hide hgX
  have HY1:=hide x1
  have HY2:=hide x2
  clear hbx kT4 kS4 hR4 hg4 x1 x2 x3 hRX hgX m0 m1 m2 m3 m4 m5 m6 m7 m8 m9 l0 l1 l2 HBX y0 y1 y2 g0 g1 g2 t0 t1 t2 p0 p1 ft fp HT3 HS3 HR3 HG3 HA3 HF3 hFA
  generalize ((((w4.setCell ⟨w.heap.size,0,none⟩ (.int .u8 f0)).setCell ⟨w.heap.size,1,none⟩ (.int .u32 f1)).setCell ⟨w.heap.size,2,none⟩ (.string f2)).setCell ⟨w.heap.size+1,0,none⟩ (.int .i64 te)).setCell ⟨w.heap.size+1,1,none⟩ (.int .i64 fp0)=X at *
  go_wp2
  obtain ⟨e1,_⟩:=blk_cells HY1.out
  obtain ⟨e2,_⟩:=blk_cells HY2.out
  have a0:=e1 0
  have a1:=e1 1
  have a2:=e1 2
  have b0:=e2 0
  have b1:=e2 1
  refine bodyPost_ret (v:=.tuple #[.agg #[.int .u8 f0,.int .u32 f1,.string f2],.agg #[.int .i64 te,.int .i64 fp0]]) ?_ rfl ⟨rfl,HRX.out,HGX.out⟩
  simp [results,Tryz.results150,go_sem,a0,a1,a2,b0,b1]
set_option maxHeartbeats 2000000 in
theorem says_any (B:Nat) (a:Option Addr) (n c k:Nat) (len:Int) (rest:Array Value) (T:Nat) (l:List TokT) (w:World) (h:RowAt w B a n c k len rest T) (hv:ToksV w a l) (hl:l.length=n) (hn:0 < n) :
  Calls Tryz.prog 148 #[.pointer (some ⟨B,0,none⟩)] w fun e w'=>e=.returned (.bool ((nthT l 0).1 == 2))∧w=w':=by
 obtain ⟨c0,c1,c2,cf⟩:=h.cells
 obtain ⟨g1,o1,rfl,hg1,t1,t2,t3⟩:=hv 0 (by omega)
 simp only [Nat.zero_mul,Nat.add_zero] at t1
 have hn0:(0:Int) < (n:Int):=by omega
 generalize (nthT l 0).1=z1 at *
 clear h hv hl hn t2 t3
 go_enter Tryz.func148,Tryz.ntmps148
 go_wp2
 go_ret
 exact ⟨rfl,rfl⟩
def argQ (ch:Int) (l:List TokT) (k:Nat) (len b:Int):ArgT × Int × Int :=
 if l.length≤k then (noArg,72,len) else if argE ch (nthT l k) b≠0 then (noArg,argE ch (nthT l k) b,(nthT l k).2.2) else (argA ch (nthT l k) b,0,0)
theorem argument_any (B:Nat) (a:Option Addr) (n c k:Nat) (len b:Int) (rest:Array Value) (ch:Int) (l:List TokT) (w:World) (h:ReadAt w B a n c k len b rest) (hv:ToksV w a l) (hl:l.length=n) (hn:32 * n≤140737488351232) (hin:ToksIn l) (hkd:∀ t ∈ l,t.1≠0) (hk:k≤n) :
  Calls Tryz.prog 150 #[.pointer (some ⟨B,0,none⟩),.int .u8 ch] w fun x w'=>x=.returned (.tuple #[argV (argQ ch l k len b).1,.agg #[.int .i64 (argQ ch l k len b).2.1,.int .i64 (argQ ch l k len b).2.2]])∧w.grownBy w' (some B)∧((argQ ch l k len b).2.1=0→ReadAt w' B a n c (k+1) len b rest):=by
 unfold argQ
 by_cases h1:l.length≤k
 ·obtain rfl:k=n:=by omega
  rw [if_pos h1]
  refine (argument_bad B a k c k len b rest ch w 72 len (by decide) h fun wx hb=>take_early B a k c len _ _ (takeK ch) wx (RowAt.below h hb)).mono ?_
  rintro x w' ⟨rfl,hb⟩
  exact ⟨rfl,grown_below2 hb _,fun h=>by simp at h⟩
 ·rw [if_neg h1]
  have hm:nthT l k ∈ l:=by rw [nthT_lt l k (by omega)];exact List.getElem_mem _
  by_cases h2:(nthT l k).1=takeK ch
  ·have h0:takeK ch≠0:=by rw [← h2];exact hkd _ hm
   have e1:argE ch (nthT l k) b=txtE ch (nthT l k).2.1 b:=by unfold argE;rw [if_neg (by omega)]
   refine (argument_ok B a n c k len b rest ch l w h hv hl hn (by omega) h2 (hin k (by omega)).2.2.1).mono ?_
   rintro x w' ⟨rfl,hR,hg⟩
   by_cases h3:txtE ch (nthT l k).2.1 b=0
   ·have e2:argA ch (nthT l k) b=txtA ch (nthT l k).2.1 b:=by unfold argA;rw [if_neg (by omega)]
    rw [if_neg (by omega),e2,h3]
    exact ⟨rfl,hg,fun _=>hR⟩
   ·have e2:txtA ch (nthT l k).2.1 b=noArg:=by unfold txtA;rw [if_pos h3]
    have e3:fltA (txtE ch (nthT l k).2.1 b) (nthT l k).2.2=(nthT l k).2.2:=by unfold fltA;rw [if_neg h3]
    rw [if_pos (by omega),e1,e2,e3]
    exact ⟨rfl,hg,fun h=>absurd h h3⟩
  ·have e1:argE ch (nthT l k) b=70:=by unfold argE;rw [if_pos (.inr h2)]
   rw [if_pos (by omega),e1]
   refine (argument_bad B a n c k len b rest ch w 70 (nthT l k).2.2 (by decide) h fun wx hb=>take_wrong B a n c k len _ _ l (takeK ch) wx (RowAt.below h hb) (hv.below hb) hl hn (by omega) h2).mono ?_
   rintro x w' ⟨rfl,hb⟩
   exact ⟨rfl,grown_below2 hb _,fun h=>by simp at h⟩
end Go.Proofs.YtddkapkkjhomkabGreatDoor
