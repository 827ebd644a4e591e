/-
  Texts in one: Ref02Wrong, Ref02Ends, Ref02At, Ref02Fault, Ref02Size, Ref02Places, MathRead, Ref02Read, Ref02Write, Ref02Find, KitWords, Law02Raws, KitSpoilWords, Law02Apart, Frame.
-/
import Derived.Test.YtonhnflilfjkbaaGreatDoorB01
import Derived.Deep.RegionLaw
namespace Go.Proofs.YtonhnflilfjkbaaGreatDoor
open Go.RowKit
set_option maxRecDepth 10000
def wrongE (k:Nat) (x:Int):Int :=
 if k=0 then (if x=50471687 then 21 else if x=119734787 then 0 else 20)
 else if k=1 then (if x=65536 then 0 else 22)
 else if k=3 then (if x=0 then 24 else if 65536<x then 24 else 0)
 else if k=4 then (if x=0 then 0 else 23)
 else 0
set_option maxHeartbeats 1000000 in
theorem refWrong_any (k:Nat) (x:Int) (w:World) (hk:k<5) :
  Calls Tryz.prog 94 #[.int .i64 k,.int .u32 x] w fun e w'=>e=.returned (.int .i64 (wrongE k x))∧w=w':=by
 rcases (show k=0∨k=1∨k=2∨k=3∨k=4 by omega) with rfl | rfl | rfl | rfl | rfl
 ·by_cases h1:x=50471687
  ·have HE:Hid (wrongE 0 x=21):=by show _=_;simp [wrongE,h1]
   have b1:(x==50471687)=true:=by simpa using h1
   clear h1
   go_enter Tryz.func94,Tryz.ntmps94
   go_wp2
   go_ret
   exact⟨ret_int HE.out.symm,rfl⟩
  ·have b1:(x==50471687)=false:=by simpa using h1
   by_cases h2:x=119734787
   ·have HE:Hid (wrongE 0 x=0):=by show _=_;simp [wrongE,h2]
    have b2:(x==119734787)=true:=by simpa using h2
    clear h1 h2
    go_enter Tryz.func94,Tryz.ntmps94
    go_wp2
    go_ret
    exact⟨ret_int HE.out.symm,rfl⟩
   ·have HE:Hid (wrongE 0 x=20):=by show _=_;simp [wrongE,h1,h2]
    have b2:(x==119734787)=false:=by simpa using h2
    clear h1 h2
    go_enter Tryz.func94,Tryz.ntmps94
    go_wp2
    go_ret
    exact⟨ret_int HE.out.symm,rfl⟩
 ·by_cases h1:x=65536
  ·have HE:Hid (wrongE 1 x=0):=by show _=_;simp [wrongE,h1]
   have b1:(x==65536)=true:=by simpa using h1
   clear h1
   go_enter Tryz.func94,Tryz.ntmps94
   go_wp2
   go_ret
   exact⟨ret_int HE.out.symm,rfl⟩
  ·have HE:Hid (wrongE 1 x=22):=by show _=_;simp [wrongE,h1]
   have b1:(x==65536)=false:=by simpa using h1
   clear h1
   go_enter Tryz.func94,Tryz.ntmps94
   go_wp2
   go_ret
   exact⟨ret_int HE.out.symm,rfl⟩
 ·go_enter Tryz.func94,Tryz.ntmps94
  go_wp2
  go_ret
  exact⟨rfl,rfl⟩
 ·by_cases h1:x=0
  ·have HE:Hid (wrongE 3 x=24):=by show _=_;simp [wrongE,h1]
   have b1:(x==0)=true:=by simpa using h1
   clear h1
   go_enter Tryz.func94,Tryz.ntmps94
   go_wp2
   go_ret
   exact⟨ret_int HE.out.symm,rfl⟩
  ·have b1:(x==0)=false:=by simpa using h1
   by_cases h2:65536<x
   ·have HE:Hid (wrongE 3 x=24):=by show _=_;simp [wrongE,h1,h2]
    have b2:decide (65536<x)=true:=decide_eq_true h2
    clear h1 h2
    go_enter Tryz.func94,Tryz.ntmps94
    go_wp2
    go_ret
    exact⟨ret_int HE.out.symm,rfl⟩
   ·have HE:Hid (wrongE 3 x=0):=by show _=_;simp [wrongE,h1,h2]
    have b2:decide (65536<x)=false:=decide_eq_false h2
    clear h1 h2
    go_enter Tryz.func94,Tryz.ntmps94
    go_wp2
    go_ret
    exact⟨ret_int HE.out.symm,rfl⟩
 ·by_cases h1:x=0
  ·have HE:Hid (wrongE 4 x=0):=by show _=_;simp [wrongE,h1]
   have b1:(x==0)=true:=by simpa using h1
   clear h1
   go_enter Tryz.func94,Tryz.ntmps94
   go_wp2
   go_ret
   exact⟨ret_int HE.out.symm,rfl⟩
  ·have HE:Hid (wrongE 4 x=23):=by show _=_;simp [wrongE,h1]
   have b1:(x==0)=false:=by simpa using h1
   clear h1
   go_enter Tryz.func94,Tryz.ntmps94
   go_wp2
   go_ret
   exact⟨ret_int HE.out.symm,rfl⟩
theorem refCount_any (a:Option Addr) (n cap:Nat) (zs:List Int) (w:World) (p:Nat) (ha:View .u32 w a zs) (hl:zs.length=n) (hw:Within 4294967296 zs) (hp:p<n) :
  Calls Tryz.prog 138 #[.slice a n cap,.int .i64 p] w fun e w'=>e=.returned (.int .i64 (cntN zs p))∧w=w':=by
 obtain⟨b,off,rfl,_,hc⟩:=ha p (by omega)
 have hx:=hw.at (k:=p) (by omega)
 have HC:Hid (nth zs p / 65536=(cntN zs p:Int)):=cntN_int zs p hx.1
 have hpi:(p:Int)<(n:Int):=by omega
 clear ha hl hw
 generalize nth zs p=x at hc hx HC
 have hx0:=hx.1
 have hx1:=hx.2
 go_enter Tryz.func138,Tryz.ntmps138
 go_wp2
 go_ret
 exact⟨ret_int HC.out,rfl⟩
theorem refEnds_yes (a:Option Addr) (n cap:Nat) (zs:List Int) (w:World) (p:Nat) (ha:View .u32 w a zs) (hl:zs.length=n) (hw:Within 4294967296 zs) (hn:4 * n≤140737488351232) (hp:p<n) (h:badB zs p=false) :
  Calls Tryz.prog 95 #[.slice a n cap,.int .i64 p] w fun e w'=>e=.returned (.tuple #[.int .i64 ((p+cntN zs p:Nat):Int),.bool true])∧w=w':=by
 have hC:=fun wx hv=>refCount_any a n cap zs wx p hv hl hw hp
 have h1:=cnt_pos h
 have h2:=cnt_fits h
 rw [hl] at h2
 have hCw:=hC w ha
 clear hC ha hl hw h
 generalize cntN zs p=c at *
 have hc0:((c:Int)==0)=false:=by simp;omega
 have hc1:decide ((n:Int) - (p:Int)<(c:Int))=false:=decide_eq_false (by omega)
 go_enter Tryz.func95,Tryz.ntmps95
 go_wp2_with fail
 refine hCw.mono ?_
 rintro e w' ⟨rfl,rfl⟩
 go_wp2
 go_ret2
 exact⟨rfl,rfl⟩
theorem refEnds_no (a:Option Addr) (n cap:Nat) (zs:List Int) (w:World) (p:Nat) (ha:View .u32 w a zs) (hl:zs.length=n) (hw:Within 4294967296 zs) (hn:4 * n≤140737488351232) (hp:p<n) (h:badB zs p=true) :
  Calls Tryz.prog 95 #[.slice a n cap,.int .i64 p] w fun e w'=>e=.returned (.tuple #[.int .i64 0,.bool false])∧w=w':=by
 have hCw:=refCount_any a n cap zs w p ha hl hw hp
 have h':cntN zs p=0∨n<p+cntN zs p:=by unfold badB at h;rw [hl] at h;simpa using h
 clear ha hl hw h
 generalize cntN zs p=c at *
 by_cases hz:c=0
 ·subst hz
  go_enter Tryz.func95,Tryz.ntmps95
  go_wp2_with fail
  refine hCw.mono ?_
  rintro e w' ⟨rfl,rfl⟩
  go_wp2
  go_ret2
  exact⟨rfl,rfl⟩
 ·have hc0:((c:Int)==0)=false:=by simp;omega
  have hc1:decide ((n:Int) - (p:Int)<(c:Int))=true:=decide_eq_true (by omega)
  clear h' hz
  go_enter Tryz.func95,Tryz.ntmps95
  go_wp2_with fail
  refine hCw.mono ?_
  rintro e w' ⟨rfl,rfl⟩
  go_wp2
  go_ret2
  exact⟨rfl,rfl⟩
theorem RefAt.info:(Tryz.prog.info? 22).map (fun i=>(i.zero,i.size,i.bytes))=some (some (.int .u32 0),1,4):=by kernel_rfl
theorem own_base {w:World} {B B' e size n:Nat} {v:Value} {xs:List Value} (h:w.ownsRow B e size v n xs) (hb:B'≤B):w.ownsRow B' e size v n xs:=by
 refine⟨h.1,?_⟩
 rcases h.2 with hn | ⟨g,cap,cur,rfl,hg,rest⟩
 ·exact .inl hn
 ·exact .inr ⟨g,cap,cur,rfl,Nat.le_trans hb hg,rest⟩
def midL (zs:List Int) (p k:Nat):List Int:=(zs.drop p).take k
theorem midL_snoc (zs:List Int) (p k:Nat) (h:p+k<zs.length):midL zs p (k+1)=midL zs p k++[nth zs (p+k)]:=by
 unfold midL
 rw [take_snoc _ _ (by rw [List.length_drop];omega),nth_drop]
theorem midL_len (zs:List Int) (p k:Nat) (h:p+k≤zs.length):(midL zs p k).length=k:=by
 unfold midL;rw [List.length_take,List.length_drop];omega
set_option maxRecDepth 100000 in
set_option maxHeartbeats 2000000 in
theorem refAt_any (a:Option Addr) (n cap:Nat) (zs:List Int) (w:World) (p q:Nat) (ha:View .u32 w a zs) (hl:zs.length=n) (hw:Within 4294967296 zs) (hn:4 * n≤140737488351232) (hp:p<q) (hq:q≤n) :
  Calls Tryz.prog 96 #[.slice a n cap,.int .i64 p,.int .i64 q] w fun e w'=>∃ ax cx,e=.returned (.agg #[.int .u16 (opI zs p),.slice ax (q - p - 1) cx]) ∧
   w'.ownsRow w.heap.size 22 1 (.slice ax (q - p - 1) cx) (q - p - 1) ((midL zs (p+1) (q - p - 1)).map (Value.int .u32))∧Below w.heap.size w w':=by
 obtain⟨i0,hi,hz0,hz1,hz2⟩:=info_parts RefAt.info
 have HL:Hid (zs.length=n):=hl
 obtain⟨b,off,rfl,hbs,hc⟩:=ha p (by omega)
 have hx:=hw.at (k:=p) (by omega)
 have HO:Hid (opI zs p=nth zs p % 65536):=rfl
 generalize nth zs p=x at hc hx HO
 have hx0:=hx.1
 have hx1:=hx.2
 have hpi:(p:Int)<(n:Int):=by omega
 clear hl hw hx
 go_enter Tryz.func96,Tryz.ntmps96
 go_wp2
 go_loopw [8] (fun i wr=>∃ (k:Nat) (v:Value),p+1+k≤q∧i=.int .i64 ((p+1+k:Nat):Int)∧wr.heap[w.heap.size+1]?=some (.cells #[.int .u16 (x % 65536),v] 54 (0,0))∧wr.heap[w.heap.size]?=some (.cells #[.int .u16 0,.slice none 0 0] 54 (0,0)) ∧
   wr.ownsRow (w.heap.size+2) 22 1 v k ((midL zs (p+1) k).map (Value.int .u32))∧Below w.heap.size w wr)
  (fun i _=>q - (intOf i).toNat)
 case atStart =>
  refine⟨0,.slice none 0 0,by omega,by go_num,?_,?_,World.ownsRow_nil _ _ _ _,((Below.refl _ _).alloc (Nat.le_refl _) _).alloc (by simp) _⟩
  ·have:=heap_alloc_new (w.alloc (.cells #[.int .u16 0,.slice none 0 0] 54)) (.cells #[.int .u16 (x % 65536),.slice none 0 0] 54)
   simpa using this
  ·rw [Below.heap_alloc _ _ _ (by simp)]
   exact heap_alloc_new w _
 case round =>
  obtain⟨k,v,hkq,rfl,hbox,hres,hown,hnx⟩:=hrel
  have hsz:=hnx.size
  have hlt1:w.heap.size+1<wr.heap.size:=(Array.getElem?_eq_some_iff.1 hbox).1
  by_cases hlt:p+1+k<q
  ·obtain⟨b2,off2,e2,hbs2,hc2⟩:=ha (p+1+k) (by rw [HL.out];omega)
   simp at e2
   obtain⟨rfl,rfl⟩:=e2
   have HM:Hid (midL zs (p+1) (k+1)=midL zs (p+1) k++[nth zs (p+1+k)]):=midL_snoc zs (p+1) k (by rw [HL.out];omega)
   have hcr:wr.cell? ⟨b,off+(p+1+k),none⟩=some (.int .u32 (nth zs (p+1+k))):=(hnx.cell (p:=⟨b,off+(p+1+k),none⟩) hbs).trans hc2
   generalize nth zs (p+1+k)=y at hcr HM hc2
   obtain⟨c0,c1,f1⟩:=cell_of_two hbox
   obtain⟨ax,cx,hv⟩:∃ a c,v=.slice a k c:=by
    rcases hown.2 with ⟨rfl,rfl⟩ | ⟨g,c,cur,rfl,_⟩
    ·exact⟨none,0,rfl⟩
    ·exact⟨_,c,rfl⟩
   subst hv
   have hpk:((p+1+k:Nat):Int)<(q:Int):=by omega
   have hpn:((p+1+k:Nat):Int)<(n:Int):=by omega
   have hp0:(0:Int)≤((p+1+k:Nat):Int):=by omega
   have hob:∀ j,Value.ownBlock (.slice ax k cx)=some j→w.heap.size+2≤j:=fun j hj=>by
    rcases hown.2 with ⟨h1,_⟩ | ⟨g,c,cur,h1,h2,_⟩
    ·rw [h1] at hj;simp [Value.ownBlock] at hj
    ·rw [h1] at hj;simp [Value.ownBlock] at hj;omega
   clear hc hc2 ha
   have hkn:k<n:=by omega
   generalize hj:p+1+k=j at hcr hpk hpn hp0 hlt hkq ⊢
   have HJ:Hid (p+1+k=j):=hj
   clear hj
   go_wp2
   go_region_law ((refine step_append_lies _ (by rfl) _ _ _ (by rfl) (w.heap.size+2) 22 i0 (.int .u32 0) 1 4 Tryz.underlying52 hi hz0 hz1 hz2 rfl (by omega) (.slice ax k cx) k _ (by rfl) ((hown.alloc _).drew) ⟨wr.heap.size,0,none⟩ 1 1 [.int .u32 y] (by rfl) (by rfl) (World.news_of_block (cs:=#[.int .u32 y]) (t:=22) (fr:=(0,0)) (heap_alloc_new wr _)) (by simp [Value.oneCell']) (by omega) (by unfold maxLen;omega) (by omega) (by simp;omega) (wr.heap.size+1) (by simp) ?_;intro g2 cap2 w1 hown1 hgrow1 hat1 hlt1';have hbox1:=(hgrow1.block (w.heap.size+1) (by simp;omega) (fun e=>by have:=hob _ e.symm;omega)).trans ((Below.heap_alloc wr _ _ hlt1).trans hbox);have hres1:=(hgrow1.block w.heap.size (by simp;omega) (fun e=>by have:=hob _ e.symm;omega)).trans ((Below.heap_alloc wr _ _ (by omega)).trans hres);obtain⟨d0,d1,e1⟩:=cell_of_two hbox1))
   all_goals
    go_wp2
    go_roundw
    case rel =>
     refine⟨k+1,.slice (some ⟨g2,0,none⟩) (k+1) cap2,by have:=HJ.out;omega,by have:=HJ.out;go_num,two_setCell hbox1 _,?_,?_,?_⟩
     ·rw [Below.heap_setCell _ _ _ _ (by simp)];exact hres1
     ·rw [HM.out,List.map_append]
      exact ownsRow_setCell_below hown1 (by simp) _
     ·exact (((hnx.alloc hsz _).drew).grown hgrow1 (by simp;omega) (fun k hk=>by have:=hob k hk;omega)).setCell (by simp) _
    case measure=>simp [intOf];omega
  ·have ek:k=q - p - 1:=by omega
   subst ek
   obtain⟨c0,c1,f1⟩:=cell_of_two hbox
   obtain⟨r0,r1,fr1⟩:=cell_of_two hres
   have fr0:wr.frozen? ⟨w.heap.size,0,none⟩=false:=by simp [World.frozen?,hres]
   obtain⟨ax,cx,hv⟩:∃ a c,v=.slice a (q - p - 1) c:=by
    rcases hown.2 with ⟨rfl,h0⟩ | ⟨g,c,cur,rfl,_⟩
    ·exact⟨none,0,by rw [h0]⟩
    ·exact⟨_,c,rfl⟩
   subst hv
   have hfin:((wr.setCell ⟨w.heap.size,0,none⟩ (.int .u16 (x % 65536))).setCell ⟨w.heap.size,1,none⟩ (.slice ax (q - p - 1) cx)).heap[w.heap.size]?=some (.cells #[.int .u16 (x % 65536),.slice ax (q - p - 1) cx] 54 (0,0)):=by
    simp [World.setCell,Array.getElem?_modify,hres]
   obtain⟨z0,z1,_⟩:=cell_of_two hfin
   have HZ0:Hid (_=_):=z0
   have HZ1:Hid (_=_):=z1
   clear z0 z1 hfin
   go_wp2
   refine bodyPost_ret (v:=.agg #[.int .u16 (x % 65536),.slice ax (q - p - 1) cx]) (by simp [results,Tryz.results96,go_sem,HZ0.out,HZ1.out]) rfl ⟨ax,cx,by rw [HO.out],?_,?_⟩
   ·exact own_base (ownsRow_setCell_below (ownsRow_setCell_below hown (by simp) _) (by simp) _) (by omega)
   ·exact (hnx.setCell (by simp) _).setCell (by simp) _
def sizeTo (rs:List (Int×List Int)) (k:Nat):Nat:=(rs.take k).foldl (fun s r=>s+1+r.2.length) 5
def faultF (rs:List (Int×List Int)):Nat→Nat→Int×Nat
 | 0,_=>(0,0)
 | f+1,k=>if k<rs.length then (if 65535≤(nthR rs k).2.length then (25,k) else if 1048576<sizeTo rs (k+1) then (4,k) else faultF rs f (k+1)) else (0,0)
def fault (rs:List (Int×List Int)) (k:Nat):Int×Nat:=faultF rs (rs.length - k) k
theorem sizeTo_zero (rs:List (Int×List Int)):sizeTo rs 0=5:=rfl
theorem sizeTo_succ (rs:List (Int×List Int)) (k:Nat) (h:k<rs.length):sizeTo rs (k+1)=sizeTo rs k+1+(nthR rs k).2.length:=by
 have e:rs.take (k+1)=rs.take k++[nthR rs k]:=by
  rw [List.take_succ_eq_append_getElem h];simp [nthR,List.getD,h]
 rw [sizeTo,e,List.foldl_append];rfl
theorem fault_end (rs:List (Int×List Int)) (k:Nat) (h:rs.length≤k):fault rs k=(0,0):=by
 rw [fault,show rs.length - k=0 by omega];rfl
theorem fault_step (rs:List (Int×List Int)) (k:Nat) (h:k<rs.length):fault rs k=if 65535≤(nthR rs k).2.length then (25,k) else if 1048576<sizeTo rs (k+1) then (4,k) else fault rs (k+1):=by
 rw [fault,show rs.length - k=(rs.length - (k+1))+1 by omega,faultF,if_pos h];rfl
def sizeOut (rs:List (Int×List Int)):Int:=if (fault rs 0).1=0 then (sizeTo rs rs.length:Int) else 0
theorem fault_none (rs:List (Int×List Int)) (h:(fault rs 0).1=0):∀ k,k≤rs.length→sizeTo rs k≤1048576∧∀ j,j<k→(nthR rs j).2.length<65535:=by
 have key:∀ k,k≤rs.length→fault rs 0=fault rs k∧sizeTo rs k≤1048576∧∀ j,j<k→(nthR rs j).2.length<65535:=by
  intro k
  induction k with
  | zero=>intro _;exact⟨rfl,by rw [sizeTo_zero];omega,fun j hj=>by omega⟩
  | succ k ih =>
   intro hk
   obtain⟨h1,h2,h3⟩:=ih (by omega)
   have hs:=fault_step rs k (by omega)
   by_cases c1:65535≤(nthR rs k).2.length
   ·rw [if_pos c1] at hs;rw [h1,hs] at h;simp at h
   ·rw [if_neg c1] at hs
    by_cases c2:1048576<sizeTo rs (k+1)
    ·rw [if_pos c2] at hs;rw [h1,hs] at h;simp at h
    ·rw [if_neg c2] at hs
     refine⟨h1.trans hs,by omega,fun j hj=>?_⟩
     by_cases e:j=k
     ·subst e;omega
     ·exact h3 j (by omega)
 exact fun k hk=>(key k hk).2
theorem own_shape {w:World} {B e n:Nat} {v:Value} {xs:List Value} (h:w.ownsRow B e 1 v n xs):∃ a c,v=.slice a n c:=by
 rcases h.2 with ⟨rfl,rfl⟩ | ⟨g,c,cur,rfl,_⟩
 ·exact⟨none,0,rfl⟩
 ·exact⟨_,c,rfl⟩
def headF (zs:List Int):Nat→Nat→Int×Nat
 | 0,_=>(0,0)
 | f+1,k=>if k<5 then (if zs.length≤k then (14,k) else if wrongE k (nth zs k)≠0 then (wrongE k (nth zs k),k) else headF zs f (k+1)) else (0,0)
def headE (zs:List Int) (k:Nat):Int×Nat:=headF zs (5 - k) k
theorem headE_end (zs:List Int):headE zs 5=(0,0):=rfl
theorem headE_step (zs:List Int) (k:Nat) (h:k<5):headE zs k=if zs.length≤k then (14,k) else if wrongE k (nth zs k)≠0 then (wrongE k (nth zs k),k) else headE zs (k+1):=by
 rw [headE,show 5 - k=(5 - (k+1))+1 by omega,headF,if_pos h];rfl
def readE (zs:List Int):Int×Nat :=
 if 1048576<zs.length then (4,1048576) else if (headE zs 0).1≠0 then headE zs 0 else if stop zs 5<zs.length then (25,stop zs 5) else (0,0)
def rawAt (zs:List Int) (p:Nat):Int×List Int:=(opI zs p,midL zs (p+1) (cntN zs p - 1))
def readR (zs:List Int):List (Int×List Int):=(rest zs 5).map (rawAt zs)
structure RowR (w : World) (lo : Nat) (ob : Option Nat) (rs : List (Int × List Int)) (cs : List Value) : Prop where
  len : cs.length = rs.length * 2
  each : ∀ j, j < rs.length → ∃ aj cj nj, cs[j * 2]? = some (.int .u16 (nthR rs j).1) ∧ cs[j * 2 + 1]? = some (.slice aj nj cj) ∧ (nthR rs j).2.length = nj ∧ View .u32 w aj (nthR rs j).2 ∧ nj ≤ cj ∧ ∀ b off s, aj = some ⟨b, off, s⟩ → ob ≠ some b ∧ b < w.heap.size ∧ lo ≤ b
theorem rowR_nil {w:World} {lo:Nat} {ob:Option Nat}:RowR w lo ob [] []:=⟨rfl,fun j hj=>by simp at hj⟩
theorem RowR.view {w:World} {B T g n cap lo:Nat} {rs:List (Int×List Int)} {cs:List Value} {ob:Option Nat} (h:RowR w lo ob rs cs) (hown:w.ownsRow B T 2 (.slice (some ⟨g,0,none⟩) n cap) n cs) (hl:rs.length=n):RawsV w (some ⟨g,0,none⟩) rs:=by
 intro j hj
 obtain⟨aj,cj,nj,h1,h2,h3,h4,h5,_⟩:=h.each j hj
 have c1:=hown.cellAt (j * 2) (by omega)
 have c2:=hown.cellAt (j * 2+1) (by omega)
 rw [h1] at c1
 rw [h2] at c2
 exact⟨g,0,aj,cj,nj,rfl,World.block_lt_of_cell? _ _ c1,by rw [Nat.zero_add];exact c1,by rw [Nat.zero_add];exact c2,h3,h4,h5⟩
theorem RowR.viewAny {w:World} {B T n cap lo:Nat} {a:Option Addr} {rs:List (Int×List Int)} {cs:List Value} {ob:Option Nat} (h:RowR w lo ob rs cs) (hown:w.ownsRow B T 2 (.slice a n cap) n cs) (hl:rs.length=n):RawsV w a rs:=by
 rcases hown.2 with ⟨_,hn⟩ | ⟨g,cap',cur,hv,_⟩
 ·have:rs=[]:=List.eq_nil_of_length_eq_zero (by omega)
  subst this;exact fun j hj=>by simp at hj
 ·cases hv;exact h.view hown hl
theorem view_grown {k:IntKind} {w w':World} {a:Option Addr} {zs:List Int} {ob:Option Nat} (h:View k w a zs) (hg:w.grownBy w' ob) (hne:∀ b off s,a=some ⟨b,off,s⟩→ob≠some b):View k w' a zs:=by
 intro j hj
 obtain⟨b,off,e,hlt,hc⟩:=h j hj
 refine⟨b,off,e,Nat.lt_of_lt_of_le hlt hg.size,?_⟩
 rw [← hc]
 exact World.cell?_of_block (w:=w) (hg.block b hlt (fun e'=>hne b off none e e'.symm))
theorem RowR.below {w w':World} {lo:Nat} {ob:Option Nat} {rs:List (Int×List Int)} {cs:List Value} (h:RowR w lo ob rs cs) (hb:Below w.heap.size w w'):RowR w' lo ob rs cs:=by
 refine⟨h.len,fun j hj=>?_⟩
 obtain⟨aj,cj,nj,h1,h2,h3,h4,h5,h6⟩:=h.each j hj
 exact⟨aj,cj,nj,h1,h2,h3,h4.below hb,h5,fun b off s e=>⟨(h6 b off s e).1,Nat.lt_of_lt_of_le (h6 b off s e).2.1 hb.size,(h6 b off s e).2.2⟩⟩
theorem RowR.setCell {w:World} {lo:Nat} {ob:Option Nat} {rs:List (Int×List Int)} {cs:List Value} (h:RowR w lo ob rs cs) {g j:Nat} (hg:g<lo) (u:Value):RowR (w.setCell ⟨g,j,none⟩ u) lo ob rs cs:=by
 refine⟨h.len,fun i hi=>?_⟩
 obtain⟨aj,cj,nj,h1,h2,h3,h4,h5,h6⟩:=h.each i hi
 exact⟨aj,cj,nj,h1,h2,h3,h4.setCell (fun b off s e=>(h6 b off s e).2.2) hg u,h5,fun b off s e=>⟨(h6 b off s e).1,by have:=(h6 b off s e).2.1;simpa [World.setCell] using this,(h6 b off s e).2.2⟩⟩
theorem nthR_lo (rs:List (Int×List Int)) (r:Int×List Int) (j:Nat) (h:j<rs.length):nthR (rs++[r]) j=nthR rs j:=by
 simp [nthR,List.getD,List.getElem?_append_left h]
theorem nthR_hi (rs:List (Int×List Int)) (r:Int×List Int):nthR (rs++[r]) rs.length=r:=by
 simp [nthR,List.getD]
theorem RowR.push {w w':World} {v:Value} {g' H lo:Nat} {rs:List (Int×List Int)} {cs:List Value} {r:Int×List Int} {a:Option Addr} {n c:Nat}
  (h:RowR w lo v.ownBlock rs cs) (hv:View .u32 w a r.2) (hl:r.2.length=n) (hc:n≤c) (ha:∀ b off s,a=some ⟨b,off,s⟩→v.ownBlock≠some b∧b<H∧lo≤b) (hH:w.heap.size=H)
  (hg:w.grownBy w' v.ownBlock) (hat:v.ownBlock=some g'∨g'=H):RowR w' lo (some g') (rs++[r]) (cs++[.int .u16 r.1,.slice a n c]):=by
 have key:∀ b,v.ownBlock≠some b→b<H→lo≤b→(some g'≠some b∧b<w'.heap.size∧lo≤b):=fun b h1 h2 h0=>by
  refine⟨fun e=>?_,by have:=hg.size;omega,h0⟩
  cases e
  rcases hat with h3 | h3
  ·exact h1 h3
  ·omega
 refine⟨by simp [h.len];omega,fun j hj=>?_⟩
 rw [List.length_append,List.length_singleton] at hj
 by_cases hjl:j<rs.length
 ·obtain⟨aj,cj,nj,h1,h2,h3,h4,h5,h6⟩:=h.each j hjl
  rw [nthR_lo _ _ _ hjl]
  have hcl:=h.len
  exact⟨aj,cj,nj,by rw [List.getElem?_append_left (by omega)];exact h1,by rw [List.getElem?_append_left (by omega)];exact h2,h3,view_grown h4 hg (fun b off s e=>(h6 b off s e).1),h5,
   fun b off s e=>key b (h6 b off s e).1 (by have:=(h6 b off s e).2.1;omega) (h6 b off s e).2.2⟩
 ·obtain rfl:j=rs.length:=by omega
  rw [nthR_hi]
  have hcl:=h.len
  refine⟨a,c,n,?_,?_,hl,view_grown hv hg (fun b off s e=>(ha b off s e).1),hc,fun b off s e=>key b (ha b off s e).1 (ha b off s e).2.1 (ha b off s e).2.2⟩
  ·rw [List.getElem?_append_right (by omega),show rs.length * 2 - cs.length=0 by omega];rfl
  ·rw [List.getElem?_append_right (by omega),show rs.length * 2+1 - cs.length=1 by omega];rfl
theorem RefRead.info:(Tryz.prog.info? 54).map (fun i=>(i.zero,i.size,i.bytes))=some (some (.agg #[.int .u16 0,.slice none 0 0]),2,32):=by kernel_rfl
theorem refRead_large (a:Option Addr) (n cap:Nat) (w:World) (h:1048576<n) :
  Calls Tryz.prog 59 #[.slice a n cap] w fun e w'=>e=.returned (.tuple #[.agg #[.int .u32 0,.int .u32 0],.slice none 0 0,.agg #[.int .i64 4,.int .i64 1048576]])∧Below w.heap.size w w':=by
 have b1:decide ((1048576:Int)<(n:Int))=true:=decide_eq_true (by omega)
 go_enter Tryz.func59,Tryz.ntmps59
 go_wp2
 exact bodyPost_ret (v:=.tuple #[.agg #[.int .u32 0,.int .u32 0],.slice none 0 0,.agg #[.int .i64 4,.int .i64 1048576]]) (by simp [results,Tryz.results59,go_sem]) rfl ⟨rfl,((Below.refl _ _).alloc (Nat.le_refl _) _).alloc (by simp) _⟩
set_option maxHeartbeats 1000000 in
theorem refRead_head (a:Option Addr) (n cap:Nat) (zs:List Int) (w:World) (ha:View .u32 w a zs) (hl:zs.length=n) (hn:n≤1048576) (he:(headE zs 0).1≠0) :
  Calls Tryz.prog 59 #[.slice a n cap] w fun e w'=>e=.returned (.tuple #[.agg #[.int .u32 0,.int .u32 0],.slice none 0 0,.agg #[.int .i64 (headE zs 0).1,.int .i64 (headE zs 0).2]])∧Below w.heap.size w w':=by
 have b1:decide ((1048576:Int)<(n:Int))=false:=decide_eq_false (by omega)
 have HL:Hid (zs.length=n):=hl
 have HE:Hid ((headE zs 0).1≠0):=he
 have hav:=ha.below (((Below.refl _ w).alloc (Nat.le_refl _) (.cells #[.int .u32 0,.int .u32 0] 106)).alloc (by simp) (.cells #[.int .i64 0,.int .i64 0] 28))
 clear hl he ha
 go_enter Tryz.func59,Tryz.ntmps59
 go_wp2
 go_loop [5] (fun i=>∃ k:Nat,k≤5∧i=.int .i64 k∧headE zs 0=headE zs k) (fun i=>5 - (intOf i).toNat)
 case atStart=>exact⟨0,by omega,rfl,rfl⟩
 case round =>
  obtain⟨k,hk,rfl,hke⟩:=hrel
  have HK:Hid (headE zs 0=headE zs k):=hke
  clear hke
  by_cases hk5:k<5
  ·have HS:Hid (headE zs k=if n≤k then (14,k) else if wrongE k (nth zs k)≠0 then (wrongE k (nth zs k),k) else headE zs (k+1)):=by
    have:=headE_step zs k hk5
    rw [HL.out] at this
    exact this
   by_cases hlt:k<n
   ·obtain⟨b,off,rfl,_,hc⟩:=hav k (by rw [HL.out];exact hlt)
    have hW:=fun wx=>refWrong_any k (nth zs k) wx hk5
    have hki:(k:Int)<(n:Int):=by omega
    clear hav
    generalize nth zs k=x at hc hW HS
    by_cases hx:wrongE k x=0
    ·have HE2:Hid (headE zs 0=headE zs (k+1)):=by show _=_;rw [HK.out,HS.out,if_neg (by omega),if_neg (by simp [hx])]
     rw [hx] at hW
     go_wp2_with (go_at_call 94;refine (hW _).mono ?_;rintro e w' ⟨rfl,rfl⟩)
     go_round
     case rel=>exact⟨k+1,by omega,by go_num,HE2.out⟩
     case measure=>simp [intOf];omega
    ·have HE2:Hid (headE zs 0=(wrongE k x,k)):=by show _=_;rw [HK.out,HS.out,if_neg (by omega),if_pos hx]
     have hxb:(wrongE k x==0)=false:=by simpa using hx
     clear hx
     generalize wrongE k x=er at hW hxb HE2
     go_wp2_with (go_at_call 94;refine (hW _).mono ?_;rintro e w' ⟨rfl,rfl⟩)
     exact bodyPost_ret (v:=.tuple #[.agg #[.int .u32 0,.int .u32 0],.slice none 0 0,.agg #[.int .i64 er,.int .i64 k]]) (by simp [results,Tryz.results59,go_sem]) rfl ⟨by rw [HE2.out],((Below.refl _ _).alloc (Nat.le_refl _) _).alloc (by simp) _⟩
   ·have HE2:Hid (headE zs 0=(14,k)):=by show _=_;rw [HK.out,HS.out,if_pos (by omega)]
    have hki:(n:Int)≤(k:Int):=by omega
    go_wp2
    exact bodyPost_ret (v:=.tuple #[.agg #[.int .u32 0,.int .u32 0],.slice none 0 0,.agg #[.int .i64 14,.int .i64 k]]) (by simp [results,Tryz.results59,go_sem]) rfl ⟨by rw [HE2.out],((Below.refl _ _).alloc (Nat.le_refl _) _).alloc (by simp) _⟩
  ·exfalso
   obtain rfl:k=5:=by omega
   apply HE.out
   rw [HK.out,headE_end]
theorem head_ok (zs:List Int) (h:(headE zs 0).1=0):5≤zs.length∧∀ k,k<5→wrongE k (nth zs k)=0:=by
 have key:∀ d k,5 - k=d→k≤5→(headE zs k).1=0→(k<5→5≤zs.length)∧∀ j,k≤j→j<5→wrongE j (nth zs j)=0:=by
  intro d
  induction d with
  | zero=>intro k hd hk _;exact⟨fun h=>by omega,fun j h1 h2=>by omega⟩
  | succ d ih =>
   intro k hd hk hz
   rw [headE_step zs k (by omega)] at hz
   by_cases h1:zs.length≤k
   ·rw [if_pos h1] at hz;simp at hz
   ·rw [if_neg h1] at hz
    by_cases h2:wrongE k (nth zs k)≠0
    ·rw [if_pos h2] at hz;exact absurd hz h2
    ·rw [if_neg h2] at hz
     obtain⟨g1,g2⟩:=ih (k+1) (by omega) (by omega) hz
     refine⟨fun _=>?_,fun j hj1 hj2=>?_⟩
     ·by_cases e:k+1<5
      ·exact g1 e
      ·omega
     ·by_cases e:j=k
      ·subst e;exact Classical.byContradiction h2
      ·exact g2 j (by omega) hj2
 have:=key 5 0 rfl (by omega) h
 exact⟨this.1 (by omega),fun k hk=>this.2 k (by omega) hk⟩
theorem set_two_boxes {w:World} {g0 g1 T0 T1:Nat} {a b c d:Value} (h0:w.heap[g0]?=some (.cells #[a,b] T0 (0,0))) (h1:w.heap[g1]?=some (.cells #[c,d] T1 (0,0))) (hne:g0≠g1) (u0 u1 v0 v1:Value) :
  ((((w.setCell ⟨g0,0,none⟩ u0).setCell ⟨g0,1,none⟩ u1).setCell ⟨g1,0,none⟩ v0).setCell ⟨g1,1,none⟩ v1).cell? ⟨g0,0,none⟩=some u0 ∧
  ((((w.setCell ⟨g0,0,none⟩ u0).setCell ⟨g0,1,none⟩ u1).setCell ⟨g1,0,none⟩ v0).setCell ⟨g1,1,none⟩ v1).cell? ⟨g0,1,none⟩=some u1 ∧
  ((((w.setCell ⟨g0,0,none⟩ u0).setCell ⟨g0,1,none⟩ u1).setCell ⟨g1,0,none⟩ v0).setCell ⟨g1,1,none⟩ v1).cell? ⟨g1,0,none⟩=some v0 ∧
  ((((w.setCell ⟨g0,0,none⟩ u0).setCell ⟨g0,1,none⟩ u1).setCell ⟨g1,0,none⟩ v0).setCell ⟨g1,1,none⟩ v1).cell? ⟨g1,1,none⟩=some v1:=by
 have hne':¬ g1=g0:=fun e=>hne e.symm
 refine⟨?_,?_,?_,?_⟩ <;> simp [World.setCell,World.cell?,Array.getElem?_modify,h0,h1,hne,hne']
theorem own_shape2 {w:World} {B e n:Nat} {v:Value} {xs:List Value} (h:w.ownsRow B e 2 v n xs):∃ a c,v=.slice a n c:=by
 rcases h.2 with ⟨rfl,rfl⟩ | ⟨g,c,cur,rfl,_⟩
 ·exact⟨none,0,rfl⟩
 ·exact⟨_,c,rfl⟩
set_option maxRecDepth 100000 in
set_option maxHeartbeats 4000000 in
theorem refRead_body (a : Option Addr) (n cap : Nat) (zs : List Int) (w : World) (ha : View .u32 w a zs) (hl : zs.length = n) (hw : Within 4294967296 zs) (hn : n ≤ 1048576) (he : (headE zs 0).1 = 0) :
    Calls Tryz.prog 59 #[.slice a n cap] w fun e w' => Below w.heap.size w w' ∧
      ((stop zs 5 < n ∧ e = .returned (.tuple #[.agg #[.int .u32 0, .int .u32 0], .slice none 0 0, .agg #[.int .i64 25, .int .i64 (stop zs 5)]])) ∨
       (¬ stop zs 5 < n ∧ ∃ ax cx m, e = .returned (.tuple #[.agg #[.int .u32 (nth zs 2), .int .u32 (nth zs 3)], .slice ax m cx, .agg #[.int .i64 0, .int .i64 0]]) ∧ (readR zs).length = m ∧ RawsV w' ax (readR zs))) := by
  have b1 : decide ((1048576 : Int) < (n : Int)) = false := decide_eq_false (by omega)
  obtain ⟨i0, hi, hz0, hz1, hz2⟩ := info_parts RefRead.info
  have HL : Hid (zs.length = n) := hl
  obtain ⟨h5, hwr⟩ := head_ok zs he
  rw [hl] at h5
  have HW : Hid (∀ k, k < 5 → wrongE k (nth zs k) = 0) := hwr
  have hav := ha.below (((Below.refl _ w).alloc (Nat.le_refl _) (.cells #[.int .u32 0, .int .u32 0] 106)).alloc (by simp) (.cells #[.int .i64 0, .int .i64 0] 28))
  clear hl he hwr
  go_enter Tryz.func59, Tryz.ntmps59
  go_wp2
  go_loop [5] (fun i => ∃ k : Nat, k ≤ 5 ∧ i = .int .i64 k) (fun i => 5 - (intOf i).toNat)
  case atStart => exact ⟨0, by omega, rfl⟩
  case round =>
    obtain ⟨k, hk, rfl⟩ := hrel
    by_cases hk5 : k < 5
    · obtain ⟨b, off, rfl, _, hc⟩ := hav k (by rw [HL.out]; omega)
      have hW := fun wx => refWrong_any k (nth zs k) wx hk5
      have hki : (k : Int) < (n : Int) := by omega
      rw [HW.out k hk5] at hW
      clear hav ha
      generalize nth zs k = x at hc hW
      go_wp2_with (go_at_call 94; refine (hW _).mono ?_; rintro e w' ⟨rfl, rfl⟩)
      go_round
      case rel => exact ⟨k + 1, by omega, by go_num⟩
      case measure => simp [intOf]; omega
    · obtain rfl : k = 5 := by omega
      clear hav
      go_wp2
      go_loopw [7, 8] (fun v i wr => ∃ (p : Nat) (out : List Nat) (cs : List Value), p ≤ n ∧ i = .int .i64 p ∧ out ++ rest zs p = rest zs 5 ∧ stop zs p = stop zs 5 ∧ wr.ownsRow (w.heap.size + 2) 54 2 v out.length cs ∧ RowR wr (w.heap.size + 2) v.ownBlock (out.map (rawAt zs)) cs ∧
          wr.heap[w.heap.size]? = some (.cells #[.int .u32 0, .int .u32 0] 106 (0, 0)) ∧ wr.heap[w.heap.size + 1]? = some (.cells #[.int .i64 0, .int .i64 0] 28 (0, 0)) ∧ Below w.heap.size w wr)
        (fun _ i _ => n - (intOf i).toNat)
      case atStart =>
        refine ⟨5, [], [], h5, rfl, rfl, rfl, World.ownsRow_nil _ _ _ _, rowR_nil, ?_, ?_, ((Below.refl _ _).alloc (Nat.le_refl _) _).alloc (by simp) _⟩
        · rw [Below.heap_alloc _ _ _ (by simp)]
          exact heap_alloc_new w _
        · have := heap_alloc_new (w.alloc (.cells #[.int .u32 0, .int .u32 0] 106)) (.cells #[.int .i64 0, .int .i64 0] 28)
          simpa using this
      case round =>
        obtain ⟨p, out, cs, hp, rfl, hout, hst, hown, hrow, hb0, hb1, hnx⟩ := hrel
        obtain ⟨ax, cx, rfl⟩ := own_shape2 hown
        have HO : Hid (out ++ rest zs p = rest zs 5) := hout
        have HST : Hid (stop zs p = stop zs 5) := hst
        have hol : out.length ≤ n := by
          have h1 := rest_len zs 5
          have h2 : out.length ≤ (rest zs 5).length := by rw [← hout]; simp
          rw [HL.out] at h1; omega
        have hsz := hnx.size
        have hs1 : w.heap.size + 1 < wr.heap.size := (Array.getElem?_eq_some_iff.1 hb1).1
        clear hout hst
        by_cases hlt : p < n
        · cases hb : badB zs p with
          | false =>
            have hE := refEnds_yes a n cap zs wr p (ha.below hnx) HL.out hw (by omega) hlt hb
            have HG : Hid (rest zs p = p :: rest zs (p + cntN zs p)) := rest_go zs p (by rw [HL.out]; exact hlt) hb
            have HG2 : Hid (stop zs p = stop zs (p + cntN zs p)) := stop_go zs p (by rw [HL.out]; exact hlt) hb
            have hcp := cnt_pos hb
            have hcf := cnt_fits hb
            rw [HL.out] at hcf
            have hA := fun wx hb' => refAt_any a n cap zs wx p (p + cntN zs p) (ha.below hb') HL.out hw (by omega) (by omega) (by omega)
            have e3 : p + cntN zs p - p - 1 = cntN zs p - 1 := by omega
            rw [e3] at hA
            have HRA : Hid (rawAt zs p = (opI zs p, midL zs (p + 1) (cntN zs p - 1))) := rfl
            have HML : Hid ((midL zs (p + 1) (cntN zs p - 1)).length = cntN zs p - 1) := midL_len zs (p + 1) _ (by rw [HL.out]; omega)
            have hAw := hA wr hnx
            clear hb hA e3 ha
            generalize cntN zs p = c at *
            generalize midL zs (p + 1) (c - 1) = ms at *
            generalize opI zs p = op at *
            go_wp2_with (go_at_call 95; refine hE.mono ?_; rintro e w' ⟨rfl, rfl⟩)
            refine hAw.mono ?_
            rintro e w1 ⟨a1, c1, rfl, hown1, hbA⟩
            have s1 := hbA.size
            have hown' := own_below hown hbA
            have hrow1 := hrow.below hbA
            have hb0' := (hbA.block _ (by omega)).trans hb0
            have hb1' := (hbA.block _ hs1).trans hb1
            have hvA := View.ofOwn hown1 HML.out
            have hc1 : c - 1 ≤ c1 := by
              rcases hown1.2 with ⟨h1, h2⟩ | ⟨g, c', cur, h1, _, _, h4, _⟩
              · omega
              · cases h1; exact h4
            have hvo : ∀ b, Value.ownBlock (.slice ax out.length cx) = some b → w.heap.size + 2 ≤ b ∧ b < wr.heap.size := fun b hb => by
              rcases hown.2 with ⟨h1, _⟩ | ⟨g, c', cur, h1, h2, h3, _⟩
              · rw [h1] at hb; simp [Value.ownBlock] at hb
              · rw [h1] at hb; simp [Value.ownBlock] at hb; subst hb; exact ⟨h2, (Array.getElem?_eq_some_iff.1 h3).1⟩
            have ha1 : ∀ b off s, a1 = some ⟨b, off, s⟩ → Value.ownBlock (.slice ax out.length cx) ≠ some b ∧ b < w1.heap.size + 1 ∧ w.heap.size + 2 ≤ b := fun b off s e => by
              rcases hown1.2 with ⟨h1, _⟩ | ⟨g, c', cur, h1, h2, h3, _⟩
              · cases e; simp at h1
              · cases e
                simp at h1
                obtain ⟨⟨rfl, _⟩, _⟩ := h1
                have := (Array.getElem?_eq_some_iff.1 h3).1
                exact ⟨fun e2 => by have := (hvo _ e2).2; omega, by omega, by omega⟩
            have hbw1 : Below w.heap.size w w1 := hnx.trans (hbA.mono hsz)
            clear hown hrow hb0 hb1 hown1 hAw hE
            go_wp2_with (at_builtin; refine wpList_append_lies _ rfl (.tmp 54) (.tmp 59) 71 rfl (w.heap.size + 2) 54 i0 (.agg #[.int .u16 0, .slice none 0 0]) 2 32 Tryz.underlying71 hi hz0 hz1 hz2 rfl (by omega) (.slice ax out.length cx) out.length cs rfl (hown'.alloc _) ⟨w1.heap.size, 0, none⟩ 1 1 [.int .u16 op, .slice a1 (c - 1) c1] rfl rfl (World.news_of_block (cs := #[.int .u16 op, .slice a1 (c - 1) c1]) (t := 54) (fr := (0, 0)) (heap_alloc_new w1 _)) (by simp [Value.oneCell']) (by omega) (by unfold maxLen; omega) (by omega) (by simp; omega) (w1.heap.size + 1) (by simp) ?_)
            intro g2 cap2 w2 hown2 hgrow2 hat2 hlt2
            have hrow2 := RowR.push (r := (op, ms)) (hrow1.below ((Below.refl _ w1).alloc (Nat.le_refl _) _)) (hvA.below ((Below.refl _ w1).alloc (Nat.le_refl _) _)) HML.out hc1 ha1 (by simp) hgrow2 hat2
            have hb02 := (hgrow2.block w.heap.size (by simp; omega) (fun e => by have := (hvo _ e.symm).1; omega)).trans ((Below.heap_alloc w1 _ _ (by omega)).trans hb0')
            have hb12 := (hgrow2.block (w.heap.size + 1) (by simp; omega) (fun e => by have := (hvo _ e.symm).1; omega)).trans ((Below.heap_alloc w1 _ _ (by omega)).trans hb1')
            have hbw2 : Below w.heap.size w w2 := (hbw1.alloc (by omega) _).grown hgrow2 (by simp; omega) (fun k hk => by have := (hvo k hk).1; omega)
            clear hown' hrow1 hvA hgrow2 hat2 ha1 hbw1 hb0' hb1' hvo
            go_wp2
            go_roundw
            case rel =>
              refine ⟨p + c, out ++ [p], cs ++ [.int .u16 op, .slice a1 (c - 1) c1], by omega, by go_num, ?_, ?_, ?_, ?_, hb02, hb12, hbw2⟩
              · rw [List.append_assoc, List.singleton_append, ← HG.out]; exact HO.out
              · rw [← HG2.out]; exact HST.out
              · rw [List.length_append, List.length_singleton]; exact hown2
              · rw [List.map_append, List.map_singleton, HRA.out]; exact hrow2
            case measure => simp [intOf]; omega
          | true =>
            have hE := refEnds_no a n cap zs wr p (ha.below hnx) HL.out hw (by omega) hlt hb
            have HS2 : Hid (stop zs 5 = p) := by show _ = _; rw [← HST.out]; exact stop_bad zs p (by rw [HL.out]; exact hlt) hb
            obtain ⟨c0, c1, f1⟩ := cell_of_two hb0
            obtain ⟨d0, d1, g1⟩ := cell_of_two hb1
            have f0 : wr.frozen? ⟨w.heap.size, 0, none⟩ = false := by simp [World.frozen?, hb0]
            have g0 : wr.frozen? ⟨w.heap.size + 1, 0, none⟩ = false := by simp [World.frozen?, hb1]
            clear hb ha
            have hz := set_two_boxes hb0 hb1 (by omega) (.int .u32 0) (.int .u32 0) (.int .i64 25) (.int .i64 (p : Int))
            have HZ : Hid _ := hz
            clear hz
            go_wp2_with (go_at_call 95; refine hE.mono ?_; rintro e w' ⟨rfl, rfl⟩)
            refine bodyPost_ret (v := .tuple #[.agg #[.int .u32 0, .int .u32 0], .slice none 0 0, .agg #[.int .i64 25, .int .i64 p]]) (by simp [results, Tryz.results59, go_sem, HZ.out.1, HZ.out.2.1, HZ.out.2.2.1, HZ.out.2.2.2]) rfl ⟨?_, .inl ⟨by rw [HS2.out]; exact hlt, by rw [HS2.out]⟩⟩
            exact (((hnx.setCell (by simp) _).setCell (by simp) _).setCell (by simp) _).setCell (by simp) _
        · have HS2 : Hid (stop zs 5 = p) := by show _ = _; rw [← HST.out]; exact stop_end zs p (by rw [HL.out]; omega)
          obtain rfl : p = n := by omega
          have HR : Hid (readR zs = out.map (rawAt zs)) := by
            have e1 := HO.out
            rw [rest_end zs p (by rw [HL.out]; omega), List.append_nil] at e1
            show _ = _
            rw [readR, ← e1]
          obtain ⟨c0, c1, f1⟩ := cell_of_two hb0
          obtain ⟨d0, d1, g1⟩ := cell_of_two hb1
          have f0 : wr.frozen? ⟨w.heap.size, 0, none⟩ = false := by simp [World.frozen?, hb0]
          have g0 : wr.frozen? ⟨w.heap.size + 1, 0, none⟩ = false := by simp [World.frozen?, hb1]
          obtain ⟨b, off, rfl, _, w2⟩ := ha.below hnx 2 (by rw [HL.out]; omega)
          obtain ⟨b', off', e2, _, w3⟩ := ha.below hnx 3 (by rw [HL.out]; omega)
          simp at e2
          obtain ⟨rfl, rfl⟩ := e2
          have hz := set_two_boxes hb0 hb1 (by omega) (.int .u32 (nth zs 2)) (.int .u32 (nth zs 3)) (.int .i64 0) (.int .i64 0)
          have HZ : Hid _ := hz
          have h2 : (2 : Int) < (p : Int) := by omega
          have h3 : (3 : Int) < (p : Int) := by omega
          clear hz ha
          go_wp2
          go_region
          go_wp2
          refine bodyPost_ret (v := .tuple #[.agg #[.int .u32 (nth zs 2), .int .u32 (nth zs 3)], .slice ax out.length cx, .agg #[.int .i64 0, .int .i64 0]]) (by simp [results, Tryz.results59, go_sem, HZ.out.1, HZ.out.2.1, HZ.out.2.2.1, HZ.out.2.2.2]) rfl ⟨?_, .inr ⟨by rw [HS2.out]; omega, ax, cx, out.length, rfl, by rw [HR.out, List.length_map], ?_⟩⟩
          · exact ((((hnx.setCell (by simp) _).setCell (by simp) _).setCell (by simp) _).setCell (by simp) _).drew
          · rw [HR.out]
            have o1 := ownsRow_setCell_below (ownsRow_setCell_below (ownsRow_setCell_below (ownsRow_setCell_below hown (a := ⟨w.heap.size, 0, none⟩) (by simp) (.int .u32 (nth zs 2))) (a := ⟨w.heap.size, 1, none⟩) (by simp) (.int .u32 (nth zs 3))) (a := ⟨w.heap.size + 1, 0, none⟩) (by simp) (.int .i64 0)) (a := ⟨w.heap.size + 1, 1, none⟩) (by simp) (.int .i64 0)
            have r1 := (((hrow.setCell (g := w.heap.size) (j := 0) (by omega) (.int .u32 (nth zs 2))).setCell (g := w.heap.size) (j := 1) (by omega) (.int .u32 (nth zs 3))).setCell (g := w.heap.size + 1) (j := 0) (by omega) (.int .i64 0)).setCell (g := w.heap.size + 1) (j := 1) (by omega) (.int .i64 0)
            exact (r1.below (bel_drewN (Below.refl _ _) 1)).viewAny (own_below o1 (bel_drewN (Below.refl _ _) 1)) (by simp)
theorem RefWrite.info:(Tryz.prog.info? 22).map (fun i=>(i.zero,i.size,i.bytes))=some (some (.int .u32 0),1,4):=by kernel_rfl
def rawW (r:Int×List Int):List Int:=(((r.2.length:Int)+1) * 65536+r.1) :: r.2
def writeTo (gen bound:Int) (rs:List (Int×List Int)) (k:Nat):List Int:=[119734787,65536,gen,bound,0]++(rs.take k).flatMap rawW
theorem writeTo_succ (gen bound:Int) (rs:List (Int×List Int)) (k:Nat) (h:k<rs.length):writeTo gen bound rs (k+1)=writeTo gen bound rs k++rawW (nthR rs k):=by
 have e:rs.take (k+1)=rs.take k++[nthR rs k]:=by
  rw [List.take_succ_eq_append_getElem h];simp [nthR,List.getD,h]
 rw [writeTo,e,List.flatMap_append,← List.append_assoc];simp [writeTo]
theorem writeTo_len (gen bound:Int) (rs:List (Int×List Int)):∀ k,k≤rs.length→(writeTo gen bound rs k).length=sizeTo rs k
 | 0,_=>rfl
 | k+1,h=>by
  rw [writeTo_succ gen bound rs k (by omega),List.length_append,writeTo_len gen bound rs k (by omega),sizeTo_succ rs k (by omega)]
  simp [rawW];omega




def OwnR (w:World) (lo:Nat) (a:Option Addr) (k:Nat) (rs:List (Int×List Int)):Prop :=
 ∀ j,k≤j→j<rs.length→∃ b off aj cj nj,a=some ⟨b,off,none⟩∧lo≤b∧b<w.heap.size∧w.cell? ⟨b,off+j * 2,none⟩=some (.int .u16 (nthR rs j).1)∧w.cell? ⟨b,off+j * 2+1,none⟩=some (.slice aj nj cj)∧(nthR rs j).2.length=nj ∧
  w.ownsRow lo 22 1 (.slice aj nj cj) nj ((nthR rs j).2.map (Value.int .u32))∧Value.ownBlock (.slice aj nj cj)≠some b ∧
  ∀ i,k≤i→i<rs.length→i≠j→∀ ai ci ni g,w.cell? ⟨b,off+i * 2+1,none⟩=some (.slice ai ni ci)→Value.ownBlock (.slice ai ni ci)=some g→Value.ownBlock (.slice aj nj cj)≠some g
theorem own_grown {w w':World} {B e size n:Nat} {v:Value} {xs:List Value} {ob:Option Nat} (h:w.ownsRow B e size v n xs) (hg:w.grownBy w' ob) (hne:∀ g,ob=some g→v.ownBlock≠some g):w'.ownsRow B e size v n xs:=by
 refine⟨h.1,?_⟩
 rcases h.2 with hn | ⟨g,cap,cur,rfl,hb,hgg,rest⟩
 ·exact .inl hn
 ·exact .inr ⟨g,cap,cur,rfl,hb,by rw [hg.block g (Array.getElem?_eq_some_iff.1 hgg).1 (fun e=>hne g e.symm rfl)];exact hgg,rest⟩
theorem grown_drew (w:World) (q:Nat) (ob:Option Nat):w.grownBy (w.drewN q) ob:=by
 have h:=bel_drewN (Below.refl w.heap.size w) q
 exact⟨h.os,h.tape,h.output,h.size,fun k hk _=>h.block k hk⟩
theorem OwnR.kept {w w':World} {lo lo' k:Nat} {a:Option Addr} {rs:List (Int×List Int)} {ob:Option Nat} (h:OwnR w lo a k rs) (hg:w.grownBy w' ob) (hob:∀ g,ob=some g→g<lo) (hlo:lo'≤lo):OwnR w' lo' a k rs:=by
 intro j hj hjl
 obtain⟨b,off,aj,cj,nj,e1,hlo1,hb1,c1,c2,c3,c4,c5,c6⟩:=h j hj hjl
 have hne:some b≠ob:=fun e=>by have:=hob b e.symm;omega
 have cell:∀ o,w'.cell? ⟨b,o,none⟩=w.cell? ⟨b,o,none⟩:=fun o=>World.cell?_of_block (hg.block b hb1 hne)
 have c4':=own_grown c4 hg (fun g e e2=>by have:=(c4.lt g e2).1;have:=hob g e;omega)
 refine⟨b,off,aj,cj,nj,e1,Nat.le_trans hlo hlo1,Nat.lt_of_lt_of_le hb1 hg.size,(cell _).trans c1,(cell _).trans c2,c3,⟨c4'.1,?_⟩,c5,fun i hi hil hij ai ci ni g hci=>by rw [cell] at hci;exact c6 i hi hil hij ai ci ni g hci⟩
 rcases c4'.2 with h0 | ⟨g,cap,cur,e,hb,rest⟩
 ·exact .inl h0
 ·exact .inr ⟨g,cap,cur,e,Nat.le_trans hlo hb,rest⟩
theorem OwnR.view {w:World} {lo:Nat} {a:Option Addr} {rs:List (Int×List Int)} (h:OwnR w lo a 0 rs):RawsV w a rs:=by
 intro j hj
 obtain⟨b,off,aj,cj,nj,e,_,hb,c1,c2,c3,c4,_⟩:=h j (Nat.zero_le _) hj
 refine⟨b,off,aj,cj,nj,e,hb,c1,c2,c3,View.ofOwn c4 c3,?_⟩
 rcases c4.2 with ⟨e1,e2⟩ | ⟨g,c',cur,e1,_,_,e4,_⟩
 ·omega
 ·cases e1;exact e4
def readL (zs:List Int):List (Int×List Int):=if (readE zs).1=0 then readR zs else []
def readAt (zs:List Int) (i:Nat):Int:=if (readE zs).1=0 then nth zs i else 0
def writeE (bound:Int) (rs:List (Int×List Int)):Int×Nat:=if bound=0∨65536<bound then (24,0) else fault rs 0
def writeL (gen bound:Int) (rs:List (Int×List Int)):List Int:=if (writeE bound rs).1=0 then writeTo gen bound rs rs.length else []
theorem refRead_any (a:Option Addr) (n cap:Nat) (zs:List Int) (w:World) (ha:View .u32 w a zs) (hl:zs.length=n) (hw:Within 4294967296 zs) :
  Calls Tryz.prog 59 #[.slice a n cap] w fun e w'=>Below w.heap.size w w'∧∃ ax cx m,e=.returned (.tuple #[.agg #[.int .u32 (readAt zs 2),.int .u32 (readAt zs 3)],.slice ax m cx,.agg #[.int .i64 (readE zs).1,.int .i64 (readE zs).2]])∧(readL zs).length=m∧RawsV w' ax (readL zs):=by
 by_cases h1:1048576<n
 ·have e1:readE zs=(4,1048576):=by unfold readE;rw [if_pos (by omega)]
  refine (refRead_large a n cap w h1).mono ?_
  rintro e w' ⟨rfl,hb⟩
  refine⟨hb,none,0,0,?_,?_,?_⟩
  ·simp [readAt,e1]
  ·simp [readL,e1]
  ·simp only [readL,e1];exact rawsV_nil
 ·by_cases h2:(headE zs 0).1=0
  ·refine (refRead_body a n cap zs w ha hl hw (by omega) h2).mono ?_
   rintro e w' ⟨hb,⟨h3,rfl⟩ | ⟨h3,ax,cx,m,rfl,h4,h5⟩⟩
   ·have e1:readE zs=(25,stop zs 5):=by unfold readE;rw [if_neg (by omega),if_neg (by simp [h2]),if_pos (by omega)]
    refine⟨hb,none,0,0,?_,?_,?_⟩
    ·simp [readAt,e1]
    ·simp [readL,e1]
    ·simp only [readL,e1];exact rawsV_nil
   ·have e1:readE zs=(0,0):=by unfold readE;rw [if_neg (by omega),if_neg (by simp [h2]),if_neg (by omega)]
    refine⟨hb,ax,cx,m,?_,?_,?_⟩
    ·simp [readAt,e1]
    ·simp [readL,e1,h4]
    ·simp only [readL,e1];exact h5
  ·have e1:readE zs=headE zs 0:=by unfold readE;rw [if_neg (by omega),if_pos h2]
   refine (refRead_head a n cap zs w ha hl (by omega) h2).mono ?_
   rintro e w' ⟨rfl,hb⟩
   refine⟨hb,none,0,0,?_,?_,?_⟩
   ·simp [readAt,e1,h2]
   ·simp [readL,e1,h2]
   ·simp only [readL,e1,h2,if_false];exact rawsV_nil
def ReadC (f:Nat):Prop:=∀ (a:Option Addr) (n cap:Nat) (zs:List Int) (w:World),View .u32 w a zs→zs.length=n→Within 4294967296 zs→4 * n≤140737488351232→n≤cap →
 Calls Tryz.prog f #[.slice a n cap] w fun e w'=>Below w.heap.size w w'∧∃ ax cx m,e=.returned (.tuple #[.agg #[.int .u32 (readAt zs 2),.int .u32 (readAt zs 3)],.slice ax m cx,.agg #[.int .i64 (readE zs).1,.int .i64 (readE zs).2]])∧(readL zs).length=m∧OwnR w' w.heap.size ax 0 (readL zs)
def WriteC (f:Nat):Prop:=∀ (gen bound:Int) (a:Option Addr) (n cap:Nat) (rs:List (Int×List Int)) (w:World),0≤gen→gen<4294967296→0≤bound→bound<4294967296→RawsV w a rs→RawsOk rs→rs.length=n→32 * n≤140737488351232→n≤cap →
 Calls Tryz.prog f #[.agg #[.int .u32 gen,.int .u32 bound],.slice a n cap] w fun e w'=>Below w.heap.size w w'∧∃ ax cx m,e=.returned (.tuple #[.slice ax m cx,.agg #[.int .i64 (writeE bound rs).1,.int .i64 (writeE bound rs).2]])∧(writeL gen bound rs).length=m ∧
  w'.ownsRow w.heap.size 22 1 (.slice ax m cx) m ((writeL gen bound rs).map (Value.int .u32))
end Go.Proofs.YtonhnflilfjkbaaGreatDoor
