/-
  Texts in one: IdsMakers, MathIc, MathTy, TypesRows, MathTz.
-/
import Derived.Test.YtoebhgpciinkgaaGreatDoorB13
import Derived.Handy
namespace Go.Proofs.YtoebhgpciinkgaaGreatDoor
open Go.RowKit Go.Maps
set_option linter.unusedVariables false
set_option linter.unusedSimpArgs false
set_option maxRecDepth 10000
def makT (l:List InstT):Nat→Int→Option Int
 | 0,_=>none
 | k+1,id=>if (makT l k id).isSome=true then makT l k id else if (nthI l k).2.2.1=id∧id≠0 then some (k:Int) else none
theorem makT_some (l:List InstT) (id:Int):∀ k p,makT l k id=some p→0≤p∧p<(k:Int)
 | 0,p,h=>by cases h
 | k+1,p,h=>by
  rw [makT] at h
  split at h
  ·have:=makT_some l id k p h;omega
  ·split at h
   ·cases h;omega
   ·cases h
theorem makT_stays (l:List InstT) (id:Int) (k:Nat) (h:(makT l k id).isSome=true):∀ d,makT l (k+d) id=makT l k id
 | 0=>rfl
 | d+1=>by
  have ih:=makT_stays l id k h d
  rw [show k+(d+1)=(k+d)+1 by omega,makT,ih,if_pos h]
theorem makT_zero (l:List InstT):∀ k,makT l k 0=none
 | 0=>rfl
 | k+1=>by rw [makT,makT_zero l k];simp
theorem zeroI64 (w:World):(zeroValue 3).run Tryz.prog w=.ok (.int .i64 0) w:=by kernel_rfl
set_option maxHeartbeats 8000000 in
theorem makersOf_any (a:Option Addr) (n c:Nat) (l:List InstT) (w:World) (hv:InstsV w a l) (hok:InstsOk l) (hl:l.length=n) (hn:40 * n≤140737488351232) :
  Calls Tryz.prog 91 #[.slice a n c] w fun e w'=>∃ b,e=.returned (.map (some b))∧w.heap.size≤b∧MapU w' 3 .i64 b n (makT l n)∧Below w.heap.size w w':=by
 have HV:=hide hv
 have HOK:=hide hok
 have HL:=hide hl
 have HN:Hid (40 * n≤140737488351232):=hn
 have hmm:=@run_makeMap Tryz.prog
 have HM0:=hide (MapU.made w 3 .i64)
 have HB0:=hide ((Below.refl _ w).alloc (Nat.le_refl _) (.map #[] 0))
 have HTT:=hide Tryz.underlying137
 have HTE:=hide Tryz.underlying3
 clear hv hok hl hn
 go_enter Tryz.func91,Tryz.ntmps91
 go_wp2_with fail
 generalize w.alloc (.map #[] 0)=W0 at *
 go_loopw [11] (fun i wr=>∃ k:Nat,k≤n∧i=.int .i64 k∧MapU wr 3 .i64 w.heap.size k (makT l k)∧Below w.heap.size w wr) (fun i _=>n - (intOf i).toNat)
 case atStart=>exact⟨0,Nat.zero_le _,rfl,HM0.out,HB0.out⟩
 case round =>
  obtain⟨k,hk,rfl,hM,hB⟩:=hrel
  clear HM0 HB0 hmm
  have hA:=HV.out.below hB
  have hkb:(k:Int)<140737488351232:=by have:=HN.out;omega
  by_cases hlt:k<n
  ·have hkl:k<l.length:=by rw [HL.out];exact hlt
   obtain⟨g1,o1,aj,cj,nj,rfl,hg1,p1,p2,p3,p4,p5,p6,p7⟩:=hA k hkl
   have hki:(k:Int)<(n:Int):=by omega
   have hk0:(0:Int)≤(k:Int):=by omega
   have hz:=HOK.out k hkl
   have hr0:=hz.2.2.2.2.1
   have hr1:=hz.2.2.2.2.2.1
   have HSU:Hid (∀ id,makT l (k+1) id=if (makT l k id).isSome=true then makT l k id else if (nthI l k).2.2.1=id∧id≠0 then some (k:Int) else none):=fun id=>rfl
   have HBD:Hid ((k:Int)<9223372036854775807∧k<maxLen):=by have:=HN.out;exact⟨by omega,by unfold maxLen;omega⟩
   generalize nthI l k=z at *
   obtain⟨zo,zt,zr,zl⟩:=z
   simp only at *
   have hba:Below wr.heap.size wr (wr.alloc (.cells #[.int .u16 zo,.int .u32 zt,.int .u32 zr,.slice aj nj cj] 71)):=(Below.refl _ wr).alloc (Nat.le_refl _) _
   have HM2:=hide (hM.below hba)
   have HB2:=hide (hB.trans (hba.mono hB.size))
   have HR:=hide (And.intro hr0 hr1)
   by_cases hz0:zr=0
   ·subst hz0
    have HE:Hid (∀ id,makT l k id=makT l (k+1) id):=fun id=>by
     rw [HSU.out id]
     by_cases h:(makT l k id).isSome=true
     ·rw [if_pos h]
     ·rw [if_neg h,if_neg (by rintro⟨rfl,h2⟩;exact h2 rfl)];simpa using h
    clear hA hM hB p5 p6 p7 hz HSU
    go_wp2_with fail
    go_roundw
    case rel=>exact⟨k+1,by omega,by go_num,(HM2.out.congr HE.out).mono (Nat.le_succ _),HB2.out⟩
    case measure=>simp [intOf];omega
   ·have hz0':(zr==0)=false:=by simpa using hz0
    have hlz:wr.heap.size<(wr.alloc (.cells #[.int .u16 zo,.int .u32 zt,.int .u32 zr,.slice aj nj cj] 71)).heap.size:=by simp
    have r2:(wr.alloc (.cells #[.int .u16 zo,.int .u32 zt,.int .u32 zr,.slice aj nj cj] 71)).cell? ⟨wr.heap.size,2,none⟩=some (.int .u32 zr):=(one_block (heap_alloc_new wr (.cells #[.int .u16 zo,.int .u32 zt,.int .u32 zr,.slice aj nj cj] 71))).1 2
    have HR2:=hide r2
    by_cases hs:(makT l k zr).isSome=true
    ·have HE:Hid (∀ id,makT l k id=makT l (k+1) id):=fun id=>by
      rw [HSU.out id]
      by_cases h:(makT l k id).isSome=true
      ·rw [if_pos h]
      ·rw [if_neg h,if_neg (by rintro⟨rfl,h2⟩;exact h hs)];simpa using h
     clear hA hM hB p5 p6 p7 hz HSU r2
     go_wp2_with (at_lookup;refine wpList_lookU_ok rfl _ _ 137 rfl 3 .i64 HTT.out HTE.out (zeroI64 _) w.heap.size k (makT l k) rfl HM2.out zr rfl HR.out.1 HR.out.2 ?_;rw [hs])
     go_roundw
     case rel=>exact⟨k+1,by omega,by go_num,(HM2.out.congr HE.out).mono (Nat.le_succ _),HB2.out⟩
     case measure=>simp [intOf];omega
    ·have hs':(makT l k zr).isSome=false:=by simpa using hs
     have HE:Hid (∀ id,(if id=zr then some (k:Int) else makT l k id)=makT l (k+1) id):=fun id=>by
      rw [HSU.out id]
      by_cases e:id=zr
      ·subst e;rw [if_pos rfl,if_neg hs,if_pos ⟨rfl,hz0⟩]
      ·rw [if_neg e]
       by_cases h:(makT l k id).isSome=true
       ·rw [if_pos h]
       ·rw [if_neg h,if_neg (by rintro⟨rfl,_⟩;exact e rfl)];simpa using h
     clear hA hM hB p5 p6 p7 hz HSU hs
     have hwf:(Lit.int .i64 (k:Int)).wf=true:=WalkArith.wf_i64 (by have:=HBD.out.1;omega)
     have HWF:=hide hwf
     clear hwf
     go_wp2_with (first | (at_lookup;refine wpList_lookU_ok rfl _ _ 137 rfl 3 .i64 HTT.out HTE.out (zeroI64 _) w.heap.size k (makT l k) rfl HM2.out zr rfl HR.out.1 HR.out.2 ?_;rw [hs']) | (at_mapUpdate;refine wpList_putU rfl _ _ _ 137 rfl 3 .i64 HTT.out HTE.out w.heap.size k (makT l k) rfl HM2.out HBD.out.2 zr (k:Int) rfl HR.out.1 HR.out.2 rfl HWF.out ?_;intro w5 hM5 hg5) | go_in)
     have HB5:=hide (HB2.out.grown hg5 HB2.out.size (fun j hj=>by cases hj;exact Nat.le_refl _))
     have HM5:=hide (hM5.congr HE.out)
     clear hM5 hg5
     go_wp2_with fail
     go_roundw
     case rel=>exact⟨k+1,by omega,by go_num,HM5.out,HB5.out⟩
     case measure=>simp [intOf];omega
  ·obtain rfl:k=n:=by omega
   have HM:=hide hM
   have HB:=hide hB
   clear hA hM hB
   go_wp2_with fail
   go_ret
   exact⟨w.heap.size,rfl,Nat.le_refl _,HM.out,HB.out⟩
end Go.Proofs.YtoebhgpciinkgaaGreatDoor
namespace Go.Proofs.YtoebhgpciinkgaaGreatDoor
open Go.RowKit
set_option linter.unusedVariables false
set_option linter.unusedSimpArgs false
def allMade (l:List InstT) (k:Nat) (zs:List Int):Bool:=zs.all fun id=>(makT l k id).isSome
def faultAt (l:List InstT) (k:Nat):Int :=
 if (makT l k (nthI l k).2.2.1).isSome=true then 90
 else if allMade l l.length (idsI (nthI l k))=false then 91
 else if partI (nthI l k)=7∧allMade l k (idsI (nthI l k))=false then 92 else 0
def idsF (l:List InstT):Nat→Nat→Int×Nat
 | 0,_=>(0,0)
 | m+1,k=>if faultAt l k≠0 then (faultAt l k,k) else idsF l m (k+1)
def idsE (b:Int) (l:List InstT):Int×Nat:=if (layE b l).1≠0 then layE b l else idsF l l.length 0
theorem idsF_ok {l:List InstT}:∀ (j m k:Nat),(∀ i,i<j→faultAt l (k+i)=0)→idsF l (j+m) k=idsF l m (k+j)
 | 0,m,k,_=>by rw [Nat.zero_add,Nat.add_zero]
 | j+1,m,k,h=>by
  have h0:=h 0 (by omega)
  rw [Nat.add_zero] at h0
  rw [show j+1+m=(j+m)+1 by omega,idsF,if_neg (by rw [h0];simp),idsF_ok j m (k+1) (fun i hi=>by have:=h (i+1) (by omega);rw [show k+1+i=k+(i+1) by omega];exact this)]
  congr 1;omega
theorem idsF_at {l:List InstT} {k:Nat} (hk:k<l.length) (hok:∀ i,i<k→faultAt l i=0) (hf:faultAt l k≠0):idsF l l.length 0=(faultAt l k,k):=by
 have e:=idsF_ok k (l.length - k) 0 (fun i hi=>by rw [Nat.zero_add];exact hok i hi)
 rw [show k+(l.length - k)=l.length by omega,Nat.zero_add] at e
 rw [e,show l.length - k=(l.length - k - 1)+1 by omega,idsF,if_pos hf]
theorem idsF_done {l:List InstT} (hok:∀ i,i<l.length→faultAt l i=0):idsF l l.length 0=(0,0):=by
 have e:=idsF_ok l.length 0 0 (fun i hi=>by rw [Nat.zero_add];exact hok i hi)
 rw [Nat.add_zero] at e
 rw [e];rfl
theorem makT_cut {l:List InstT} {id p:Int}:∀ {n k:Nat},k≤n→makT l n id=some p→p<k→makT l k id=some p
 | 0,k,hk,h,_=>by cases h
 | n+1,k,hk,h,hp=>by
  by_cases e:k=n+1
  ·rw [e];exact h
  ·rw [makT] at h
   split at h
   ·exact makT_cut (by omega) h hp
   ·split at h
    ·cases h;omega
    ·cases h
theorem makT_ahead {l:List InstT} {id p:Int} {n k:Nat} (hk:k≤n) (h:makT l n id=some p):(makT l k id).isSome=decide (p<(k:Int)):=by
 by_cases hp:p<(k:Int)
 ·rw [makT_cut hk h hp];simp [hp]
 ·cases hm:makT l k id with
  | none=>simp [hp]
  | some q =>
   have h1:=makT_stays l id k (by rw [hm];rfl) (n - k)
   rw [show k+(n - k)=n by omega,hm,h] at h1
   cases h1
   have:=(makT_some l id k p hm).2
   exact absurd this hp
theorem makT_own {l:List InstT} {k:Nat} (hk:k<l.length) (h0:(nthI l k).2.2.1≠0):∃ p,makT l l.length (nthI l k).2.2.1=some p:=by
 have h1:(makT l (k+1) (nthI l k).2.2.1).isSome=true:=by
  rw [makT]
  split
  ·assumption
  ·rw [if_pos ⟨rfl,h0⟩];rfl
 have h2:=makT_stays l _ (k+1) h1 (l.length - (k+1))
 rw [show k+1+(l.length - (k+1))=l.length by omega] at h2
 obtain⟨p,hp⟩:=Option.isSome_iff_exists.1 h1
 exact⟨p,by rw [h2,hp]⟩
theorem okTo_sorted {l:List InstT} {n i j:Nat} (h:okTo l n) (hij:i≤j) (hj:j<n):partI (nthI l i)≤partI (nthI l j):=by
 by_cases e:i=j
 ·rw [e];exact Int.le_refl _
 ·have hm:=h j hj
  rcases Int.lt_or_le (partI (nthI l j)) (partI (nthI l i)) with h1 | h1
  ·rw [mayL_over (by omega) h1] at hm;cases hm
  ·exact h1
theorem cntP_le_of {l:List InstT} {p:Nat}:∀ {n k:Nat},k≤n→(∀ j,k≤j→j<n→(p:Int)≤partI (nthI l j))→cntP l p n≤k
 | 0,k,hk,_=>by rw [cntP];omega
 | n+1,k,hk,h=>by
  by_cases e:k=n+1
  ·have:=cntP_le l p (n+1);omega
  ·have:=cntP_le_of (n:=n) (k:=k) (by omega) (fun j h1 h2=>h j h1 (by omega))
   rw [cntP_more (h n (by omega) (by omega))];exact this
theorem cntP_ge_of {l:List InstT} {p:Nat}:∀ {n k:Nat},k≤n→(∀ j,j<k→partI (nthI l j)<p)→k≤cntP l p n
 | 0,k,hk,_=>by omega
 | n+1,k,hk,h=>by
  by_cases e:k=n+1
  ·subst e;rw [cntP_all h];exact Nat.le_refl _
  ·have:=cntP_ge_of (n:=n) (k:=k) (by omega) h
   rw [cntP];omega
theorem span_part {l:List InstT} {n k p:Nat} (h:okTo l n) (hk:k<n):(cntP l p n≤k↔(p:Int)≤partI (nthI l k)):=by
 constructor
 ·intro h1
  rcases Int.lt_or_le (partI (nthI l k)) p with h2 | h2
  ·have:=cntP_ge_of (l:=l) (p:=p) (n:=n) (k:=k+1) (by omega) (fun j hj=>by have:=okTo_sorted h (show j≤k by omega) hk;omega)
   omega
  ·exact h2
 ·intro h1
  exact cntP_le_of (by omega) (fun j hj hj2=>by have:=okTo_sorted h hj hj2;omega)
theorem layE_ok {b:Int} {l:List InstT} (h:(layE b l).1=0):okTo l l.length∧(shapeE b l).1=0∧layE b l=(0,0):=by
 unfold layE at h ⊢
 by_cases h1:(shapeE b l).1=0
 ·rw [if_neg (by simpa using h1)] at h ⊢
  have key:∀ m k,k+m=l.length→okTo l k→(layF l m k).1=0→okTo l l.length∧layF l m k=(0,0):=by
   intro m
   induction m with
   | zero =>
    intro k hk hok h0
    rw [layF] at h0 ⊢
    cases hO:openE l with
    | true=>rw [hO] at h0;simp at h0
    | false=>rw [show l.length=k by omega];exact⟨hok,rfl⟩
   | succ m ih =>
    intro k hk hok h0
    rw [layF] at h0 ⊢
    cases hm:mayL l k with
    | false=>rw [hm] at h0;simp at h0
    | true =>
     rw [hm,if_pos rfl] at h0
     rw [if_pos rfl]
     exact ih (k+1) (by omega) (hok.snoc hm) h0
  obtain⟨q1,q2⟩:=key l.length 0 (by omega) (okTo_zero l) h
  exact⟨q1,h1,q2⟩
 ·rw [if_pos h1] at h;exact absurd h h1
theorem idsA_range {x:InstT} (h:InstOk x):∀ id∈idsI x,0≤id∧id<4294967296:=by
 obtain⟨_,_,h1,h2,_,_,h3,_⟩:=h
 intro id hid
 unfold idsI idsTo at hid
 rw [List.take_length] at hid
 rcases List.mem_append.1 hid with h | h
 ·split at h
  ·cases h
  ·rw [List.mem_singleton] at h;subst h;exact⟨h1,h2⟩
 ·obtain⟨y,hy,hi⟩:=List.mem_flatMap.1 h
  obtain⟨j,hj,rfl⟩:=List.getElem_of_mem hy
  have hk:=h3 j hj
  rw [show nthA x.2.2.2 j=x.2.2.2[j] by simp [nthA,List.getD,hj]] at hk
  unfold idsA at hi
  split at hi
  ·rw [List.mem_singleton] at hi;subst hi;exact⟨hk.2.2.1,hk.2.2.2.1⟩
  ·cases hi
def aheadJ (l:List InstT) (k j:Nat):Bool:=decide (partI (nthI l k)=7) && !allMade l k ((idsI (nthI l k)).take j)
theorem allMade_snoc (l:List InstT) (k:Nat) (zs:List Int) (j:Nat) (hj:j<zs.length):allMade l k (zs.take (j+1))=(allMade l k (zs.take j) && (makT l k (nth zs j)).isSome):=by
 unfold allMade
 rw [List.take_add_one,List.all_append,List.getElem?_eq_getElem hj]
 simp [nth,List.getD,hj]
theorem fault_first {l:List InstT} {k:Nat} (h:(makT l k (nthI l k).2.2.1).isSome=true):faultAt l k=90:=by unfold faultAt;rw [if_pos h]
theorem allMade_false {l:List InstT} {k:Nat} {zs:List Int} {j:Nat} (hj:j<zs.length) (h:(makT l k (nth zs j)).isSome=false):allMade l k zs=false:=by
 unfold allMade
 rw [List.all_eq_false]
 refine⟨nth zs j,?_,by rw [h];simp⟩
 simp only [nth,List.getD,List.getElem?_eq_getElem hj]
 exact List.getElem_mem hj
theorem fault_unknown {l:List InstT} {k j:Nat} (h:(makT l k (nthI l k).2.2.1).isSome=false) (hj:j<(idsI (nthI l k)).length) (hn:(makT l l.length (nth (idsI (nthI l k)) j)).isSome=false):faultAt l k=91:=by
 unfold faultAt;rw [if_neg (by rw [h];simp),if_pos (allMade_false hj hn)]
theorem faultAt_end {l:List InstT} {k:Nat} (h:(makT l k (nthI l k).2.2.1).isSome=false) (hall:allMade l l.length ((idsI (nthI l k)).take (idsI (nthI l k)).length)=true):faultAt l k=if aheadJ l k (idsI (nthI l k)).length=true then 92 else 0:=by
 rw [List.take_length] at hall
 unfold faultAt aheadJ
 rw [if_neg (by rw [h];simp),if_neg (by rw [hall];simp),List.take_length]
 by_cases h7:partI (nthI l k)=7 <;> cases allMade l k (idsI (nthI l k)) <;> simp [h7]
structure TyR where
  id : Int
  kind : Nat
  signed : Bool
  cls : Int
  count : Nat
  parts : List Int
  size : Nat
  depth : Nat
def noTy:TyR:=⟨0,0,false,0,0,[],0,0⟩
def tyF (t:List TyR) (id:Int):Option TyR:=t.find? fun r=>r.id==id
def tyD (t:List TyR) (id:Int):TyR:=(tyF t id).getD noTy
def plainK (k:Nat):Bool:=decide (2≤k∧k≤6)
def kindT (t:List TyR) (id:Int):Nat:=(tyD t id).kind
def plainT (t:List TyR) (id:Int):Bool:=plainK (kindT t id)
def sizeT (t:List TyR) (id:Int):Nat:=(tyD t id).size
def depthT (t:List TyR) (id:Int):Nat:=(tyD t id).depth
def tySum:List Nat→Nat
 | []=>0
 | x :: l=>x+tySum l
def tyMax:List Nat→Nat
 | []=>0
 | x :: l=>max x (tyMax l)
def sizeR (t:List TyR) (r:TyR):Nat :=
 if r.kind=2∨r.kind=3 then 1 else if r.kind=4∨r.kind=5 then r.count * sizeT t (nth r.parts 0) else if r.kind=6 then tySum (r.parts.map (sizeT t)) else 0
def depthR (t:List TyR) (r:TyR):Nat:=if plainK r.kind=true then tyMax (r.parts.map (depthT t))+1 else 0
def tyArg (x:InstT) (k:Nat):Int:=(nthA x.2.2.2 k).2.1
def handT (t:List TyR) (id:Int):Bool:=plainT t id || decide (kindT t id=7)
def backT (t:List TyR) (id:Int):Bool:=decide (kindT t id=1) || plainT t id
def tyNumD (f:Int→Option Int) (id:Int):Int:=(f id).getD 0
def tyRead (t:List TyR) (f:Int→Option Int) (x:InstT):Int×TyR :=
 if x.1=19 then (0,⟨0,1,false,0,0,[],0,0⟩)
 else if x.1=20 then (0,⟨0,2,false,0,0,[],0,0⟩)
 else if x.1=21 then (if tyArg x 0≠32∨1<tyArg x 1 then (102,noTy) else (0,⟨0,3,decide (tyArg x 1=1),0,0,[],0,0⟩))
 else if x.1=23 then (if ¬ (kindT t (tyArg x 0)=2∨kindT t (tyArg x 0)=3) then (100,noTy) else if tyArg x 1<2∨4<tyArg x 1 then (102,noTy) else (0,⟨0,4,false,0,(tyArg x 1).toNat,[tyArg x 0],0,0⟩))
 else if x.1=28 then (if plainT t (tyArg x 0)=false then (100,noTy) else if tyNumD f (tyArg x 1)<1∨4096<tyNumD f (tyArg x 1) then (102,noTy) else (0,⟨0,5,false,0,(tyNumD f (tyArg x 1)).toNat,[tyArg x 0],0,0⟩))
 else if x.1=30 then (if (idsI x).length<1∨256<(idsI x).length then (102,noTy) else if (idsI x).all (plainT t)=false then (100,noTy) else (0,⟨0,6,false,0,(idsI x).length,idsI x,0,0⟩))
 else if x.1=32 then (if plainT t (tyArg x 1)=false then (100,noTy) else (0,⟨0,7,false,tyArg x 0,1,[tyArg x 1],0,0⟩))
 else if x.1=33 then (if backT t (nth (idsI x) 0)=false then (100,noTy) else if ((idsI x).drop 1).all (handT t)=false then (100,noTy) else (0,⟨0,8,false,0,(idsI x).length,idsI x,0,0⟩))
 else (0,noTy)
def tyMak (x:InstT):Int×List Int:=(x.1,x.2.2.2.map (·.2.1))
def tyAgain (l:List InstT) (k:Nat):Bool:=(l.take k).any fun y=>decide (tyMak y=tyMak (nthI l k))
def tyFull (t:List TyR) (x:InstT) (r:TyR):TyR:={ r with id:=x.2.2.1,size:=sizeR t r,depth:=depthR t r }
def tyTake (l:List InstT) (k:Nat) (t:List TyR) (f:Int→Option Int):Int×TyR :=
 if (tyRead t f (nthI l k)).1≠0 then ((tyRead t f (nthI l k)).1,noTy)
 else if (tyRead t f (nthI l k)).2.kind=0 then (0,noTy)
 else if (tyRead t f (nthI l k)).2.kind=5∨(tyRead t f (nthI l k)).2.kind=6 then
  (if 4096<sizeR t (tyRead t f (nthI l k)).2 then (102,noTy) else if 16<depthR t (tyRead t f (nthI l k)).2 then (4,noTy) else (0,tyFull t (nthI l k) (tyRead t f (nthI l k)).2))
 else if tyAgain l k=true then (101,noTy) else (0,tyFull t (nthI l k) (tyRead t f (nthI l k)).2)
def tyNum (t:List TyR) (f:Int→Option Int) (x:InstT):Int→Option Int:=if kindT t x.2.1=3 then fun y=>if y=x.2.2.1 then some (tyArg x 0) else f y else f
def tySt (l : List InstT) : Nat → List TyR × (Int → Option Int)
  | 0 => ([], fun _ => none)
  | k + 1 => if (nthI l k).1 = 43 then ((tySt l k).1, tyNum (tySt l k).1 (tySt l k).2 (nthI l k))
    else if (tyTake l k (tySt l k).1 (tySt l k).2).2.kind = 0 then tySt l k
    else ((tySt l k).1 ++ [(tyTake l k (tySt l k).1 (tySt l k).2).2], (tySt l k).2)
def tyErr (l:List InstT) (k:Nat):Int:=if (nthI l k).1=43 then 0 else (tyTake l k (tySt l k).1 (tySt l k).2).1
def tyNew (l:List InstT):Nat→Nat→Int×Nat
 | 0,_=>(0,0)
 | m+1,k=>if tyErr l k≠0 then (tyErr l k,k) else tyNew l m (k+1)
def tyE (b:Int) (l:List InstT):Int×Nat:=if (idsE b l).1≠0 then idsE b l else tyNew l l.length 0
def tyTab (l:List InstT):List TyR:=(tySt l l.length).1
theorem tyNew_ok {l:List InstT}:∀ (j m k:Nat),(∀ i,i<j→tyErr l (k+i)=0)→tyNew l (j+m) k=tyNew l m (k+j)
 | 0,m,k,_=>by rw [Nat.zero_add,Nat.add_zero]
 | j+1,m,k,h=>by
  have h0:=h 0 (by omega)
  rw [Nat.add_zero] at h0
  rw [show j+1+m=(j+m)+1 by omega,tyNew,if_neg (by rw [h0];simp),tyNew_ok j m (k+1) (fun i hi=>by have:=h (i+1) (by omega);rw [show k+1+i=k+(i+1) by omega];exact this)]
  congr 1;omega
theorem tyNew_at {l:List InstT} {k:Nat} (hk:k<l.length) (hok:∀ i,i<k→tyErr l i=0) (hf:tyErr l k≠0):tyNew l l.length 0=(tyErr l k,k):=by
 have e:=tyNew_ok k (l.length - k) 0 (fun i hi=>by rw [Nat.zero_add];exact hok i hi)
 rw [show k+(l.length - k)=l.length by omega,Nat.zero_add] at e
 rw [e,show l.length - k=(l.length - k - 1)+1 by omega,tyNew,if_pos hf]
theorem tyNew_done {l:List InstT} (hok:∀ i,i<l.length→tyErr l i=0):tyNew l l.length 0=(0,0):=by
 have e:=tyNew_ok l.length 0 0 (fun i hi=>by rw [Nat.zero_add];exact hok i hi)
 rw [Nat.add_zero] at e
 rw [e];rfl
/-! ### the table -/
theorem tyF_snoc (t:List TyR) (r:TyR) (id:Int):tyF (t++[r]) id=match tyF t id with | some x=>some x | none=>if r.id=id then some r else none:=by
 unfold tyF
 rw [List.find?_append]
 cases h:List.find? (fun r=>r.id==id) t with
 | some x=>rfl
 | none =>
  by_cases e:r.id=id
  ·rw [if_pos e];simp [e]
  ·rw [if_neg e];simp [e]
theorem tyF_id {t:List TyR} {id:Int} {r:TyR} (h:tyF t id=some r):r.id=id:=by
 have:=List.find?_some h
 simpa using this
theorem tyF_none {t:List TyR} {id:Int}:tyF t id=none↔∀ r∈t,r.id≠id:=by
 unfold tyF
 rw [List.find?_eq_none]
 constructor
 ·intro h r hr e;exact h r hr (by simp [e])
 ·intro h r hr e;exact h r hr (by simpa using e)
theorem tyD_old {t:List TyR} {r:TyR} {id:Int} (h:tyF t id≠none):tyD (t++[r]) id=tyD t id:=by
 unfold tyD
 rw [tyF_snoc]
 cases e:tyF t id with
 | some x=>rfl
 | none=>exact absurd e h
theorem tyF_of_kind {t:List TyR} {id:Int} (h:kindT t id≠0):tyF t id≠none:=by
 intro e
 apply h
 unfold kindT tyD
 rw [e];rfl
theorem plain_kind {t:List TyR} {id:Int} (h:plainT t id=true):kindT t id≠0:=by
 unfold plainT plainK at h
 have:=of_decide_eq_true h
 omega
structure RowK (t : List TyR) (r : TyR) : Prop where
  id0 : 1 ≤ r.id
  id1 : r.id < 4294967296
  new : tyF t r.id = none
  size : r.size = sizeR t r
  depth : r.depth = depthR t r
  pin : ∀ p ∈ r.parts, 1 ≤ p ∧ p < 4294967296 ∧ kindT t p ≠ 0
  kinds : 1 ≤ r.kind ∧ r.kind ≤ 8
  sgn : r.signed = true → r.kind = 3
  cls : 0 ≤ r.cls ∧ r.cls < 4294967296 ∧ (r.cls ≠ 0 → r.kind = 7)
  none3 : r.kind ≤ 3 → r.parts = [] ∧ r.count = 0
  vec : r.kind = 4 → ∃ p, r.parts = [p] ∧ 2 ≤ r.count ∧ r.count ≤ 4 ∧ (kindT t p = 2 ∨ kindT t p = 3)
  arr : r.kind = 5 → ∃ p, r.parts = [p] ∧ 1 ≤ r.count ∧ r.count ≤ 4096 ∧ plainT t p = true
  str : r.kind = 6 → r.parts.length = r.count ∧ 1 ≤ r.count ∧ r.count ≤ 256 ∧ ∀ p ∈ r.parts, plainT t p = true
  ptr : r.kind = 7 → ∃ p, r.parts = [p] ∧ r.count = 1 ∧ plainT t p = true
  fn : r.kind = 8 → r.parts.length = r.count ∧ 1 ≤ r.count ∧ r.count ≤ 65536 ∧ backT t (nth r.parts 0) = true ∧ ∀ p ∈ r.parts.drop 1, handT t p = true
  few : r.size ≤ 4096 ∧ r.depth ≤ 16
inductive TabK : List TyR → Prop
  | nil : TabK []
  | snoc {t : List TyR} {r : TyR} : TabK t → RowK t r → TabK (t ++ [r])
theorem tySum_append (a b:List Nat):tySum (a++b)=tySum a+tySum b:=by
 induction a with
 | nil=>simp [tySum]
 | cons x l ih=>simp [tySum,ih];omega
theorem tyMax_append (a b:List Nat):tyMax (a++b)=max (tyMax a) (tyMax b):=by
 induction a with
 | nil=>simp [tyMax]
 | cons x l ih=>simp [tyMax,ih,Nat.max_assoc]
theorem tySum_congr {f g:Int→Nat}:∀ {l:List Int},(∀ p∈l,f p=g p)→tySum (l.map f)=tySum (l.map g)
 | [],_=>rfl
 | x :: l,h=>by simp only [List.map_cons,tySum];rw [h x (by simp),tySum_congr (l:=l) (fun p hp=>h p (by simp [hp]))]
theorem tyMax_congr {f g:Int→Nat}:∀ {l:List Int},(∀ p∈l,f p=g p)→tyMax (l.map f)=tyMax (l.map g)
 | [],_=>rfl
 | x :: l,h=>by simp only [List.map_cons,tyMax];rw [h x (by simp),tyMax_congr (l:=l) (fun p hp=>h p (by simp [hp]))]
theorem sizeR_congr {t t':List TyR} {r:TyR} (h:∀ p∈r.parts,tyD t' p=tyD t p) (h4:r.kind=4∨r.kind=5→r.parts≠[]):sizeR t' r=sizeR t r:=by
 unfold sizeR
 have e:=tySum_congr (f:=sizeT t') (g:=sizeT t) (l:=r.parts) (fun p hp=>by unfold sizeT;rw [h p hp])
 rw [e]
 split
 ·rfl
 ·split
  ·rename_i hk
   have hne:=h4 hk
   have hm:nth r.parts 0∈r.parts:=by
    cases hp:r.parts with
    | nil=>exact absurd hp hne
    | cons x l=>simp [nth]
   unfold sizeT
   rw [h _ hm]
  ·rfl
theorem depthR_congr {t t':List TyR} {r:TyR} (h:∀ p∈r.parts,tyD t' p=tyD t p):depthR t' r=depthR t r:=by
 unfold depthR
 rw [tyMax_congr (f:=depthT t') (g:=depthT t) (l:=r.parts) (fun p hp=>by unfold depthT;rw [h p hp])]
theorem TabK.row {t:List TyR} (h:TabK t) {id:Int} {r:TyR} (hr:tyF t id=some r):∃ t0,TabK t0∧RowK t0 r∧t0.length<t.length∧∀ x,tyF t0 x≠none→tyD t x=tyD t0 x∧tyF t x=tyF t0 x:=by
 induction h with
 | nil=>cases hr
 | @snoc t r' ht hk ih =>
  rw [tyF_snoc] at hr
  cases e:tyF t id with
  | some x =>
   rw [e] at hr
   obtain rfl:x=r:=by simpa using hr
   obtain⟨t0,h1,h2,h3,h4⟩:=ih e
   refine⟨t0,h1,h2,by rw [List.length_append];simp;omega,fun y hy=>?_⟩
   obtain⟨a1,a2⟩:=h4 y hy
   refine⟨(tyD_old (by rw [a2];exact hy)).trans a1,?_⟩
   rw [tyF_snoc,a2]
   cases e2:tyF t0 y with
   | some z=>rfl
   | none=>exact absurd e2 hy
  | none =>
   rw [e] at hr
   by_cases e3:r'.id=id
   ·simp only [if_pos e3] at hr
    obtain rfl:r'=r:=by simpa using hr
    refine⟨t,ht,hk,by rw [List.length_append];simp,fun y hy=>⟨tyD_old hy,?_⟩⟩
    rw [tyF_snoc]
    cases e2:tyF t y with
    | some z=>rfl
    | none=>exact absurd e2 hy
   ·simp only [if_neg e3] at hr;cases hr
theorem TabK.says {t:List TyR} (h:TabK t) {id:Int} {r:TyR} (hr:tyF t id=some r):r.id=id∧r.size=sizeR t r∧r.depth=depthR t r∧(∀ p∈r.parts,1≤p∧p<4294967296∧kindT t p≠0)∧1≤r.kind∧r.kind≤8∧(r.signed=true→r.kind=3)∧(0≤r.cls∧r.cls<4294967296∧(r.cls≠0→r.kind=7))∧(r.kind≤3→r.parts=[]∧r.count=0) ∧
  (r.kind=4→∃ p,r.parts=[p]∧2≤r.count∧r.count≤4∧(kindT t p=2∨kindT t p=3))∧(r.kind=5→∃ p,r.parts=[p]∧1≤r.count∧r.count≤4096∧plainT t p=true)∧(r.kind=6→r.parts.length=r.count∧1≤r.count∧r.count≤256∧∀ p∈r.parts,plainT t p=true)∧(r.kind=7→∃ p,r.parts=[p]∧r.count=1∧plainT t p=true) ∧
  (r.kind=8→r.parts.length=r.count∧1≤r.count∧r.count≤65536∧backT t (nth r.parts 0)=true∧∀ p∈r.parts.drop 1,handT t p=true)∧r.size≤4096∧r.depth≤16:=by
 obtain⟨t0,h1,k,h3,h4⟩:=h.row hr
 have hD:∀ p,kindT t0 p≠0→tyD t p=tyD t0 p:=fun p hp=>(h4 p (tyF_of_kind hp)).1
 have hK:∀ p,kindT t0 p≠0→kindT t p=kindT t0 p:=fun p hp=>by unfold kindT;rw [hD p hp]
 have hP:∀ p,kindT t0 p≠0→plainT t p=plainT t0 p:=fun p hp=>by unfold plainT;rw [hK p hp]
 have hne:r.kind=4∨r.kind=5→r.parts≠[]:=by
  rintro (e | e)
  ·obtain⟨p,e1,_⟩:=k.vec e;rw [e1];simp
  ·obtain⟨p,e1,_⟩:=k.arr e;rw [e1];simp
 have hDp:∀ p∈r.parts,tyD t p=tyD t0 p:=fun p hp=>hD p (k.pin p hp).2.2
 refine⟨tyF_id hr,k.size.trans (sizeR_congr hDp hne).symm,k.depth.trans (depthR_congr hDp).symm,fun p hp=>?_,k.kinds.1,k.kinds.2,k.sgn,k.cls,k.none3,fun e=>?_,fun e=>?_,fun e=>?_,fun e=>?_,fun e=>?_,k.few.1,k.few.2⟩
 ·obtain⟨a,b,c⟩:=k.pin p hp
  exact⟨a,b,by rw [hK p c];exact c⟩
 ·obtain⟨p,e1,e2,e3,e4⟩:=k.vec e
  exact⟨p,e1,e2,e3,by rw [hK p (by omega)];exact e4⟩
 ·obtain⟨p,e1,e2,e3,e4⟩:=k.arr e
  exact⟨p,e1,e2,e3,by rw [hP p (plain_kind e4)];exact e4⟩
 ·obtain⟨e1,e2,e3,e4⟩:=k.str e
  exact⟨e1,e2,e3,fun p hp=>by rw [hP p (plain_kind (e4 p hp))];exact e4 p hp⟩
 ·obtain⟨p,e1,e2,e4⟩:=k.ptr e
  exact⟨p,e1,e2,by rw [hP p (plain_kind e4)];exact e4⟩
 ·obtain⟨e1,e2,e3,e4,e5⟩:=k.fn e
  have hp0:nth r.parts 0∈r.parts:=by
   cases hp:r.parts with
   | nil=>rw [hp] at e1;simp at e1;omega
   | cons x l=>simp [nth]
  refine⟨e1,e2,e3,?_,fun p hp=>?_⟩
  ·have h0:=(k.pin _ hp0).2.2
   unfold backT at e4 ⊢
   rw [hK _ h0,hP _ h0];exact e4
  ·have h0:=(k.pin p (List.mem_of_mem_drop hp)).2.2
   have:=e5 p hp
   unfold handT at this ⊢
   rw [hK _ h0,hP _ h0];exact this
end Go.Proofs.YtoebhgpciinkgaaGreatDoor
namespace Go.Proofs.YtoebhgpciinkgaaGreatDoor
open Go.RowKit Go.Maps
set_option linter.unusedVariables false
set_option linter.unusedSimpArgs false
set_option maxRecDepth 10000
def entV (r:TyR) (a:Option Addr) (n c:Nat):Value:=.agg #[.int .u8 (r.kind:Int),.int .i64 (r.count:Int),.int .i64 (r.size:Int),.int .i64 (r.depth:Int),.bool r.signed,.int .u32 r.cls,.slice a n c]
def zeroE:Value:=.agg #[.int .u8 0,.int .i64 0,.int .i64 0,.int .i64 0,.bool false,.int .u32 0,.slice none 0 0]
def EntV (w:World) (B:Nat) (v:Value) (r:TyR):Prop:=∃ a c,v=entV r a r.parts.length c∧View .u32 w a r.parts∧r.parts.length≤c∧∀ b o,a=some ⟨b,o,none⟩→B≤b
theorem EntV.nothing (w:World) (B:Nat):EntV w B zeroE noTy:=⟨none,0,rfl,fun j hj=>by simp [noTy] at hj,Nat.le_refl _,fun b o e=>by cases e⟩
theorem EntV.below {w w':World} {B:Nat} {v:Value} {r:TyR} (h:EntV w B v r) (hb:Below w.heap.size w w'):EntV w' B v r:=by
 obtain⟨a,c,h1,h2,h3⟩:=h
 exact⟨a,c,h1,h2.below hb,h3⟩
theorem EntV.mono {w:World} {B B':Nat} {v:Value} {r:TyR} (h:EntV w B v r) (hb:B'≤B):EntV w B' v r:=by
 obtain⟨a,c,h1,h2,h3,h4⟩:=h
 exact⟨a,c,h1,h2,h3,fun b o e=>Nat.le_trans hb (h4 b o e)⟩
theorem View.keptAt {k:IntKind} {w w':World} {a:Option Addr} {zs:List Int} (h:View k w a zs) (hs:w.heap.size≤w'.heap.size) (hk:∀ b o,a=some ⟨b,o,none⟩→w'.heap[b]?=w.heap[b]?):View k w' a zs:=by
 intro j hj
 obtain⟨b,off,e,hlt,hc⟩:=h j hj
 refine⟨b,off,e,Nat.lt_of_lt_of_le hlt hs,?_⟩
 simp only [World.cell?,hk b off e] at hc ⊢
 exact hc
structure TabB (w : World) (B p mb n : Nat) (t : List TyR) (ov : Value) (f : Int → Value) : Prop where
  blk : w.heap[p]? = some (.cells #[.map (some mb), ov] 91 (0, 0))
  map : MapV w mb n zeroE f
  ents : ∀ id, EntV w B (f id) (tyD t id)
  order : w.ownsRow B 22 1 ov t.length ((t.map (·.id)).map (Value.int .u32))
  pB : B ≤ p
  mB : B ≤ mb
  apart : ∀ id b o m c, f id = entV (tyD t id) (some ⟨b, o, none⟩) m c → (tyD t id).parts ≠ [] → ov.ownBlock ≠ some b
def TabV (w:World) (B p:Nat) (t:List TyR):Prop:=∃ mb n ov f,TabB w B p mb n t ov f
theorem TabB.plt {w:World} {B p mb n:Nat} {t:List TyR} {ov:Value} {f:Int→Value} (h:TabB w B p mb n t ov f):p<w.heap.size:=(Array.getElem?_eq_some_iff.1 h.blk).1
theorem TabB.kept {w w':World} {B p mb n:Nat} {t:List TyR} {ov:Value} {f:Int→Value} (h:TabB w B p mb n t ov f) (hs:w.heap.size≤w'.heap.size) (hk:∀ b,B≤b→b<w.heap.size→w'.heap[b]?=w.heap[b]?):TabB w' B p mb n t ov f:=by
 refine⟨(hk p h.pB h.plt).trans h.blk,h.map.block (hk mb h.mB h.map.lt),fun id=>?_,?_,h.pB,h.mB,h.apart⟩
 ·obtain⟨a,c,e,hv,hc,hB⟩:=h.ents id
  refine⟨a,c,e,?_,hc,hB⟩
  intro j hj
  obtain⟨b,off,e2,hlt,hcell⟩:=hv j hj
  refine⟨b,off,e2,Nat.lt_of_lt_of_le hlt hs,?_⟩
  simp only [World.cell?,hk b (hB b off e2) hlt] at hcell ⊢
  exact hcell
 ·obtain⟨h1,h2⟩:=h.order
  refine⟨h1,?_⟩
  rcases h2 with h2 | ⟨g,cap,cur,e1,e2,e3,e4⟩
  ·exact .inl h2
  ·exact .inr ⟨g,cap,cur,e1,e2,(hk g e2 (Array.getElem?_eq_some_iff.1 e3).1).trans e3,e4⟩
theorem TabB.below {w w':World} {B p mb n:Nat} {t:List TyR} {ov:Value} {f:Int→Value} (h:TabB w B p mb n t ov f) (hb:Below w.heap.size w w'):TabB w' B p mb n t ov f :=
 ⟨(hb.block p h.plt).trans h.blk,h.map.block (hb.block mb h.map.lt),fun id=>(h.ents id).below hb,own_below h.order hb,h.pB,h.mB,h.apart⟩
theorem TabV.kept {w w':World} {B p:Nat} {t:List TyR} (h:TabV w B p t) (hs:w.heap.size≤w'.heap.size) (hk:∀ b,B≤b→b<w.heap.size→w'.heap[b]?=w.heap[b]?):TabV w' B p t:=by
 obtain⟨mb,n,ov,f,h1⟩:=h;exact⟨mb,n,ov,f,h1.kept hs hk⟩
set_option maxHeartbeats 2000000 in
theorem plain_any (k n s d:Int) (kn:Nat) (hk:k=kn) (w:World) :
  Calls Tryz.prog 56 #[.agg #[.int .u8 k,.int .i64 n,.int .i64 s,.int .i64 d]] w fun e w'=>e=.returned (.bool (plainK kn))∧Below w.heap.size w w':=by
 have hb1:Below w.heap.size w (w.alloc (.cells #[.int .u8 k,.int .i64 n,.int .i64 s,.int .i64 d] 96)):=(Below.refl _ w).alloc (Nat.le_refl _) _
 have HB:=hide hb1
 clear hb1
 by_cases h2:k=2
 ·have e:plainK kn=true:=by unfold plainK;simp;omega
  rw [e]
  clear e hk
  subst h2
  go_enter Tryz.func56,Tryz.ntmps56
  go_wp2_with fail
  go_ret
  exact⟨rfl,HB.out⟩
 by_cases h3:k=3
 ·have e:plainK kn=true:=by unfold plainK;simp;omega
  rw [e]
  clear e hk h2
  subst h3
  go_enter Tryz.func56,Tryz.ntmps56
  go_wp2_with fail
  go_ret
  exact⟨rfl,HB.out⟩
 by_cases h4:k=4
 ·have e:plainK kn=true:=by unfold plainK;simp;omega
  rw [e]
  clear e hk h2 h3
  subst h4
  go_enter Tryz.func56,Tryz.ntmps56
  go_wp2_with fail
  go_ret
  exact⟨rfl,HB.out⟩
 by_cases h5:k=5
 ·have e:plainK kn=true:=by unfold plainK;simp;omega
  rw [e]
  clear e hk h2 h3 h4
  subst h5
  go_enter Tryz.func56,Tryz.ntmps56
  go_wp2_with fail
  go_ret
  exact⟨rfl,HB.out⟩
 by_cases h6:k=6
 ·have e:plainK kn=true:=by unfold plainK;simp;omega
  rw [e]
  clear e hk h2 h3 h4 h5
  subst h6
  go_enter Tryz.func56,Tryz.ntmps56
  go_wp2_with fail
  go_ret
  exact⟨rfl,HB.out⟩
 have e:plainK kn=false:=by unfold plainK;simp;omega
 rw [e]
 have q2:(k==2)=false:=by simpa using h2
 have q3:(k==3)=false:=by simpa using h3
 have q4:(k==4)=false:=by simpa using h4
 have q5:(k==5)=false:=by simpa using h5
 have q6:(k==6)=false:=by simpa using h6
 clear e hk h2 h3 h4 h5 h6
 go_enter Tryz.func56,Tryz.ntmps56
 go_wp2_with fail
 go_ret
 exact⟨rfl,HB.out⟩
set_option maxHeartbeats 2000000 in
theorem find_any {B p mb n:Nat} {t:List TyR} {ov:Value} {f:Int→Value} (id:Int) (w:World) (h:TabB w B p mb n t ov f) (k0:0≤id) (k1:id<4294967296) :
  Calls Tryz.prog 55 #[.pointer (some ⟨p,0,none⟩),.int .u32 id] w fun e w'=>e=.returned (f id)∧Below w.heap.size w w':=by
 have hb1:Below w.heap.size w (w.alloc (.cells #[.int .u8 0,.int .i64 0,.int .i64 0,.int .i64 0,.bool false,.int .u32 0,.slice none 0 0] 98)):=(Below.refl _ w).alloc (Nat.le_refl _) _
 have hT:=h.below hb1
 obtain⟨a,c,e,_⟩:=h.ents id
 have q0:=(one_block hT.blk).1 0
 have hL:=hT.map.look 89 98 Tryz.underlying89 (Tryz.zeroValue98 _) id k0 k1
 have HB:=hide hb1
 rw [e] at hL ⊢
 unfold entV at hL ⊢
 clear h hT hb1 e
 go_enter Tryz.func55,Tryz.ntmps55
 go_wp2_with fail
 go_returns
 exact⟨rfl,(Below.refl _ w).alloc (Nat.le_refl _) _⟩
theorem find_nil (id:Int) (w:World) :
  Calls Tryz.prog 55 #[.pointer none,.int .u32 id] w fun e w'=>e=.returned zeroE∧Below w.heap.size w w':=by
 unfold zeroE
 go_enter Tryz.func55,Tryz.ntmps55
 go_wp2_with fail
 go_returns
 exact⟨rfl,(Below.refl _ w).alloc (Nat.le_refl _) _⟩
theorem field_com (k n s d g c v:Value) (w:World):(Instr.field 98 (.agg #[k,n,s,d,g,c,v]) 0).run Tryz.prog w=.ok (.agg #[k,n,s,d]) w:=by
 have hu:=Tryz.underlying98
 have hi:=Tryz.underlying96
 have hz:=Tryz.sizeOf96 w
 have ha:=Tryz.isAgg96 w
 simp [Instr.field,run_underlying hu,asAgg,part,ha,hz,go_sem]
theorem field_com0 (k n s d:Value) (w:World):(Instr.field 96 (.agg #[k,n,s,d]) 0).run Tryz.prog w=.ok k w:=by
 have hu:=Tryz.underlying96
 have ha:=Tryz.isAgg5 w
 simp [Instr.field,run_underlying hu,asAgg,part,ha,go_sem]
theorem tyKind_any {B p mb n:Nat} {t:List TyR} {ov:Value} {f:Int→Value} (id:Int) (w:World) (h:TabB w B p mb n t ov f) (k0:0≤id) (k1:id<4294967296) :
  Calls Tryz.prog 29 #[.pointer (some ⟨p,0,none⟩),.int .u32 id] w fun e w'=>e=.returned (.int .u8 (kindT t id:Int))∧Below w.heap.size w w':=by
 have hF:=find_any id w h k0 k1
 obtain⟨a,c,e,_⟩:=h.ents id
 rw [e] at hF
 unfold entV at hF
 unfold kindT
 clear h e
 generalize tyD t id=r at *
 have hfc:=field_com
 have hf0:=field_com0
 go_enter Tryz.func29,Tryz.ntmps29
 go_wp2_with (go_at_call 55;refine hF.mono ?_;rintro e w1 ⟨rfl,hb1⟩)
 go_returns
 exact⟨rfl,hb1⟩
theorem tyPlain_any {B p mb n:Nat} {t:List TyR} {ov:Value} {f:Int→Value} (id:Int) (w:World) (h:TabB w B p mb n t ov f) (k0:0≤id) (k1:id<4294967296) :
  Calls Tryz.prog 33 #[.pointer (some ⟨p,0,none⟩),.int .u32 id] w fun e w'=>e=.returned (.bool (plainT t id))∧Below w.heap.size w w':=by
 have hF:=find_any id w h k0 k1
 obtain⟨a,c,e,_⟩:=h.ents id
 rw [e] at hF
 unfold entV at hF
 unfold plainT kindT
 clear h e
 generalize tyD t id=r at *
 have hfc:=field_com
 have hf0:=field_com0
 go_enter Tryz.func33,Tryz.ntmps33
 go_wp2_with (first | (go_at_call 55;refine hF.mono ?_;rintro e w1 ⟨rfl,hb1⟩) | (go_at_call 56;refine (plain_any _ _ _ _ r.kind rfl _).mono ?_;rintro e w2 ⟨rfl,hb2⟩))
 go_returns
 exact⟨rfl,hb1.trans (hb2.mono hb1.size)⟩
theorem single_any (k:Int) (w:World) :
  Calls Tryz.prog 93 #[.int .u8 k] w fun e w'=>e=.returned (.agg #[.int .u8 k,.int .i64 0,.int .i64 0,.int .i64 0,.bool false,.int .u32 0,.slice none 0 0])∧Below w.heap.size w w':=by
 go_enter Tryz.func93,Tryz.ntmps93
 go_wp2_with fail
 go_returns
 exact⟨rfl,(Below.refl _ w).alloc (Nat.le_refl _) _⟩
theorem listed_any (k:Int) (a:Option Addr) (n c:Nat) (w:World) :
  Calls Tryz.prog 121 #[.int .u8 k,.slice a n c] w fun e w'=>e=.returned (.agg #[.int .u8 k,.int .i64 n,.int .i64 0,.int .i64 0,.bool false,.int .u32 0,.slice a n c])∧Below w.heap.size w w':=by
 go_enter Tryz.func121,Tryz.ntmps121
 go_wp2_with fail
 go_returns
 exact⟨rfl,(Below.refl _ w).alloc (Nat.le_refl _) _⟩
theorem repeated_any (k x m:Int) (w:World) :
  Calls Tryz.prog 119 #[.int .u8 k,.int .u32 x,.int .i64 m] w fun e w'=>(∃ g,e=.returned (.agg #[.int .u8 k,.int .i64 m,.int .i64 0,.int .i64 0,.bool false,.int .u32 0,.slice (some ⟨g,0,none⟩) 1 1])∧w.heap.size≤g∧View .u32 w' (some ⟨g,0,none⟩) [x])∧Below w.heap.size w w':=by
 go_enter Tryz.func119,Tryz.ntmps119
 go_wp2_with fail
 go_returns
 refine⟨⟨_,rfl,Nat.le_succ _,fun j hj=>⟨_,_,rfl,by simp,?_⟩⟩,(((Below.refl _ w).alloc (Nat.le_refl _) _).alloc (by simp) _)⟩
 have hj0:j=0:=by have:j<1:=hj;omega
 subst hj0
 have e1:=heap_alloc_new (w.alloc (.cells #[.int .u8 k,.int .i64 m,.int .i64 0,.int .i64 0,.bool false,.int .u32 0,.slice (some ⟨w.heap.size+1,0,none⟩) 1 1] 98)) (.cells #[.int .u32 x] 22)
 rw [World.size_alloc] at e1
 simp only [World.cell?,e1]
 rfl
/-! ### an entry in a box of its own -/
def IsE (v:Value):Prop:=∃ l:List Value,v=.agg l.toArray∧l.length=7∧∀ x∈l,x.oneCell'=true
theorem IsE.entry (k n s d c:Int) (g:Bool) (a:Option Addr) (m e:Nat):IsE (.agg #[.int .u8 k,.int .i64 n,.int .i64 s,.int .i64 d,.bool g,.int .u32 c,.slice a m e]) :=
 ⟨[_,_,_,_,_,_,_],rfl,rfl,fun x hx=>by
  simp only [List.mem_cons,List.not_mem_nil,or_false] at hx
  rcases hx with rfl | rfl | rfl | rfl | rfl | rfl | rfl <;> rfl⟩
theorem IsE.entV (r:TyR) (a:Option Addr) (n c:Nat):IsE (entV r a n c):=IsE.entry _ _ _ _ _ _ _ _ _
def EntB (w:World) (b:Nat) (v:Value):Prop:=∃ l:List Value,v=.agg l.toArray∧l.length=7∧w.heap[b]?=some (.cells l.toArray 98 (0,0))
theorem EntB.lt {w:World} {b:Nat} {v:Value} (h:EntB w b v):b<w.heap.size:=by obtain⟨l,_,_,h⟩:=h;exact (Array.getElem?_eq_some_iff.1 h).1
theorem EntB.new (w:World) (u0 u1 u2 u3 u4 u5 u6:Value):EntB (w.alloc (.cells #[u0,u1,u2,u3,u4,u5,u6] 98)) w.heap.size (.agg #[u0,u1,u2,u3,u4,u5,u6]):=⟨[u0,u1,u2,u3,u4,u5,u6],rfl,rfl,heap_alloc_new w _⟩
theorem EntB.block {w w':World} {b:Nat} {v:Value} (h:EntB w b v) (hb:w'.heap[b]?=w.heap[b]?):EntB w' b v:=by
 obtain⟨l,h1,h2,h3⟩:=h
 exact⟨l,h1,h2,hb.trans h3⟩
theorem EntB.below {w w':World} {b:Nat} {v:Value} (h:EntB w b v) (hb:Below w.heap.size w w'):EntB w' b v:=h.block (hb.block b h.lt)
theorem EntB.there {w:World} {b:Nat} {v:Value} (h:EntB w b v):w.there b 0 7:=fun j hj=>by
 obtain⟨l,_,h2,h3⟩:=h
 rw [Nat.zero_add]
 simp [World.cell?,World.frozen?,h3,h2,hj]
theorem infoE:(Tryz.prog.info? 98).map (·.size)=some 7:=by kernel_rfl
theorem EntB.range {w:World} {b:Nat} {l:List Value} (h3:w.heap[b]?=some (.cells l.toArray 98 (0,0))):w.rangeAt b 0 l:=fun j v hv=>by
 rw [Nat.zero_add]
 simp [World.cell?,h3,hv]
theorem EntB.loadVar {w:World} {b:Nat} {v:Value} (h:EntB w b v):(loadVar 98 ⟨b,0,none⟩).run Tryz.prog w=.ok v w:=by
 obtain⟨l,rfl,h2,h3⟩:=h
 exact run_loadVar_mid w b 0 _ l _ (EntB.range h3) Tryz.underlying98 rfl (by rw [h2];exact infoE)
section
variable {w : World} {ops : Array Oper} {rest : List Oper} {o : Oper} {a : Act} {Q : Exit → Act → World → Prop}
theorem EntB.store2 {w:World} {b:Nat} {v v':Value} (h:EntB w b v) (he:IsE v'):∃ cells:Array Value,v'=.agg cells∧w.there b 0 cells.size∧(Tryz.prog.info? 98).map (·.size)=some cells.size∧cells.all (·.oneCell')=true∧EntB (w.setCells b 0 cells.toList) b v'∧w.grownBy (w.setCells b 0 cells.toList) (some b)∧(w.setCells b 0 cells.toList).heap.size=w.heap.size:=by
 obtain⟨l,rfl,h2,h3⟩:=he
 have ht:=h.there
 obtain⟨l0,rfl,h20,h30⟩:=h
 have hg:=setCells_grown b l 0 w
 refine⟨l.toArray,rfl,by rw [List.size_toArray,h2];exact ht,by rw [List.size_toArray,h2];exact infoE,all_oneCell_toArray h3,⟨l,rfl,h2,setCells_all l h30 (by rw [List.size_toArray,h20,h2])⟩,hg,?_⟩
 have:∀ (vs:List Value) (i:Nat) (x:World),(x.setCells b i vs).heap.size=x.heap.size:=by
  intro vs
  induction vs with
  | nil=>intro i x;rfl
  | cons y ys ih=>intro i x;show ((x.setCell ⟨b,i,none⟩ y).setCells b (i+1) ys).heap.size=_;rw [ih,World.size_setCell]
 exact this l 0 w
theorem wpList_storeE (hg:o.guard=none) (x y:Operand) (ho:o.op=.store 98 x y) (b:Nat) (v v':Value) (hx:a.eval x=.pointer (some ⟨b,0,none⟩)) (hy:a.eval y=v') (h:EntB w b v) (he:IsE v')
  (hK:∀ w',EntB w' b v'→w.grownBy w' (some b)→w'.heap.size=w.heap.size→wpList Tryz.prog ops Q rest (a.put o.dst undef) w'):wpList Tryz.prog ops Q (o :: rest) a w:=by
 obtain⟨cells,rfl,h1,h2,h3,h4,h5,h6⟩:=h.store2 he
 exact wpList_store_mid hg _ x y ho b 0 cells hx hy h1 h2 h3 (hK _ h4 h5 h6)
end
theorem stepAny_storeE (w:World) {F:Fence} (hF:∀ f,F.fn f) {o:Oper} {ops:Array Oper} {a:Act} {K:Act→World→Prop} {Q:Exit→Act→World→Prop} (hgd:o.guard=none) (x y:Operand) (ho:o.op=.store 98 x y)
  (b:Nat) (v v':Value) (hx:a.eval x=.pointer (some ⟨b,0,none⟩)) (hy:a.eval y=v') (hb:EntB w b v) (he:IsE v')
  (h:∀ w',EntB w' b v'→w.grownBy w' (some b)→w'.heap.size=w.heap.size→K (a.put o.dst undef) w') :
  if Region.wanted o (yielded ops a.tmps)=true then Oper.wpIn F 0 Tryz.prog o a w K Q else (∀ f,o.about Tryz.prog w a.eval=some f→F.fn f)∧K (a.put o.dst undef) w:=by
 obtain⟨cells,rfl,h1,h2,h3,h4,h5,h6⟩:=hb.store2 he
 rw [if_pos (by simp [Region.wanted,hgd])]
 refine⟨fun f _=>hF f,?_⟩
 rw [Oper.semAt_eq _ _ _ (fun c hc=>by rw [ho] at hc;cases hc)]
 unfold execOp
 simp only [ho,hx,hy,Instr.storeAt,Instr.sureAddr,Sem.run_bind,Sem.run_pure,Result.andThen_ok,run_storeVar_mid w b 0 _ cells h1 h2 h3]
 exact h _ h4 h5 h6
theorem res_entry {fn:Func} {x y:Tmp} (hr:fn.results=#[.cell x 98,.tmp y]) (tmps:Array Value) (w:World) (b:Nat) (v u:Value) (hx:tmps.getD x undef=.pointer (some ⟨b,0,none⟩)) (hy:tmps.getD y undef=u) (hE:EntB w b v):(results fn tmps).run Tryz.prog w=.ok (.tuple #[v,u]) w:=by
 have hl:=hE.loadVar
 simp only [results,hr,List.mapM_toArray,List.mapM_cons,List.mapM_nil,hx,hy,asAddr,Sem.run_bind,Sem.run_pure,Result.andThen_ok,bind_assoc,pure_bind,Sem.run_map,map_pure,hl]
 rfl
theorem EntB.cell {w:World} {b:Nat} {u0 u1 u2 u3 u4 u5 u6:Value} (h:EntB w b (.agg #[u0,u1,u2,u3,u4,u5,u6])):w.heap[b]?=some (.cells #[u0,u1,u2,u3,u4,u5,u6] 98 (0,0)):=by
 obtain⟨l,h1,h2,h3⟩:=h
 injection h1 with h1
 rw [h3,← h1]
end Go.Proofs.YtoebhgpciinkgaaGreatDoor
namespace Go.Proofs.YtoebhgpciinkgaaGreatDoor
open Go.RowKit
set_option linter.unusedVariables false
set_option linter.unusedSimpArgs false
def lettersIn (S:List Nat) (f:Frm):Bool:=f.2.2.2.1.data.toList.all (fun x=>decide (x.toNat∈S)) && f.2.2.2.2.1.data.toList.all (fun x=>decide (x.toNat∈S))
theorem sgn_in {S:List Nat} {s:ByteArray} (h:s.data.toList.all (fun x=>decide (x.toNat∈S))=true) (k:Nat):sgn s k=0∨∃ c∈S,sgn s k=(c:Int):=by
 unfold sgn
 by_cases hk:k<s.data.toList.length
 ·right
  rw [List.all_eq_true] at h
  have:=h _ (List.getElem_mem hk)
  rw [List.getD_eq_getElem?_getD,List.getElem?_eq_getElem hk]
  exact⟨_,of_decide_eq_true this,rfl⟩
 ·left
  rw [List.getD_eq_getElem?_getD,List.getElem?_eq_none (by omega)]
  rfl
theorem letter_in {S:List Nat} {f:Frm} (h:lettersIn S f=true) (j:Int):letterI f j=0∨∃ c∈S,letterI f j=(c:Int):=by
 unfold lettersIn at h
 rw [Bool.and_eq_true] at h
 unfold letterI
 split
 ·exact .inl rfl
 ·split
  ·exact sgn_in h.1 _
  ·split
   ·exact sgn_in h.2 _
   ·exact .inl rfl
theorem arg_says {x:InstT} {b:Int} (h:rawE x b=0) {j:Nat} (hj:j<x.2.2.2.length):letterI (lookF refT x.1).1 (j:Int)≠0∧(nthA x.2.2.2 j).1=kindI (letterI (lookF refT x.1).1 (j:Int))∧((nthA x.2.2.2 j).1≠3→(nthA x.2.2.2 j).2.2=⟨#[]⟩):=by
 obtain⟨_,h2,_⟩:=rawWs_ok h
 have h3:=wrongL_zero (faultI_zero h2).2.2.1 j hj
 rw [Nat.zero_add] at h3
 obtain⟨k1,k2⟩:=wrongA_kind h3
 refine⟨k1,k2,fun hn=>?_⟩
 unfold wrongA at h3
 split at h3
 ·cases h3
 ·rename_i hm
  simp only [mayStandB,Bool.not_eq_false,Bool.and_eq_true,if_neg hn] at hm
  exact size_zero (by simpa using hm.2)
theorem kind_of {x:InstT} {b:Int} (h:rawE x b=0) {S:List Nat} (hS:lettersIn S (lookF refT x.1).1=true) {j:Nat} (hj:j<x.2.2.2.length):∃ c∈S,(nthA x.2.2.2 j).1=kindI (c:Int):=by
 obtain⟨k1,k2,_⟩:=arg_says h hj
 rcases letter_in hS (j:Int) with e | ⟨c,hc,e⟩
 ·exact absurd e k1
 ·exact⟨c,hc,by rw [k2,e]⟩
theorem fixed_len {x:InstT} {b:Int} {n:Nat} (h:rawE x b=0) (e1:(lookF refT x.1).1.2.2.2.1.size=n) (e2:(lookF refT x.1).1.2.2.2.2.1.size=0):x.2.2.2.length=n:=by
 obtain⟨h1,h2,_⟩:=rawWs_ok h
 have h4:=(faultI_zero h2).2.2.2.1
 unfold wholeN at h4
 rw [e1,e2,if_pos rfl] at h4
 split at h4
 ·cases h4
 ·have:=of_decide_eq_true h4;omega
theorem least_len {x:InstT} {b:Int} {n:Nat} (h:rawE x b=0) (e1:(lookF refT x.1).1.2.2.2.1.size=n):n≤x.2.2.2.length:=by
 obtain⟨h1,h2,_⟩:=rawWs_ok h
 have h4:=(faultI_zero h2).2.2.2.1
 unfold wholeN at h4
 rw [e1] at h4
 split at h4
 ·cases h4
 ·omega
theorem no_type {x:InstT} {b:Int} (h:rawE x b=0) (e:(lookF refT x.1).1.2.1=false):x.2.1=0:=by
 obtain⟨h1,h2,_⟩:=rawWs_ok h
 have h4:=(faultI_zero h2).1
 exact (idE_zero (by decide) h4).2 e
theorem has_result {x:InstT} {b:Int} (hok:InstOk x) (h:rawE x b=0) (e:(lookF refT x.1).1.2.2.1=true):1≤x.2.2.1∧x.2.2.1<b:=by
 obtain⟨h1,h2,_⟩:=rawWs_ok h
 have h4:=(faultI_zero h2).2.1
 have h5:=(idE_zero (by decide) h4).1 e
 unfold noneB at h5
 have:=hok.2.2.2.2.1
 simp at h5
 omega
theorem has_type {x:InstT} {b:Int} (hok:InstOk x) (h:rawE x b=0) (e:(lookF refT x.1).1.2.1=true):1≤x.2.1∧x.2.1<b:=by
 obtain⟨h1,h2,_⟩:=rawWs_ok h
 have h4:=(faultI_zero h2).1
 have h5:=(idE_zero (by decide) h4).1 e
 unfold noneB at h5
 have:=hok.2.2.1
 simp at h5
 omega
theorem wordsL_least {l:List ArgT}:l.length≤(wordsL l).length:=by
 induction l with
 | nil=>simp
 | cons x l ih =>
  have e:wordsL (x :: l)=wordsA x++wordsL l:=rfl
  rw [e,List.length_append,wordsA_len,List.length_cons]
  split <;> omega
theorem args_few {x:InstT} {b:Int} (h:rawE x b=0):x.2.2.2.length<65535:=by
 obtain⟨_,h2,h3⟩:=rawWs_ok h
 have h4:=rawWs_len x b
 rw [h3] at h4
 unfold rawL at h4
 rw [List.length_append] at h4
 have:=wordsL_least (l:=x.2.2.2)
 omega
theorem idsI_all {x:InstT} {b:Int} (h:rawE x b=0) (e:(lookF refT x.1).1.2.1=false) (hS:lettersIn [105] (lookF refT x.1).1=true):idsI x=x.2.2.2.map (·.2.1):=by
 have hk:∀ y∈x.2.2.2,y.1=1:=by
  intro y hy
  obtain⟨j,hj,rfl⟩:=List.mem_iff_getElem.1 hy
  obtain⟨c,hc,e2⟩:=kind_of h hS hj
  rw [nthA_lt _ _ hj] at e2
  obtain rfl:c=105:=by simpa using hc
  exact e2
 unfold idsI idsTo
 rw [no_type h e,if_pos rfl,List.take_length,List.nil_append]
 generalize x.2.2.2=l at hk
 induction l with
 | nil=>rfl
 | cons y l ih =>
  rw [List.flatMap_cons,List.map_cons,ih (fun z hz=>hk z (by simp [hz]))]
  unfold idsA
  rw [if_pos (hk y (by simp))]
  rfl
theorem idsI_in {x:InstT} {b:Int} (hok:InstOk x) (h:rawE x b=0):∀ p∈idsI x,1≤p∧p<b:=by
 obtain⟨h1,h2,h3⟩:=ids_in hok h
 intro p hp
 unfold idsI idsTo at hp
 rw [List.take_length] at hp
 rcases List.mem_append.1 hp with hp | hp
 ·split at hp
  ·cases hp
  ·rename_i hn
   obtain rfl:p=x.2.1:=by simpa using hp
   exact h1 hn
 ·obtain⟨y,hy,hp⟩:=List.mem_flatMap.1 hp
  obtain⟨j,hj,rfl⟩:=List.mem_iff_getElem.1 hy
  unfold idsA at hp
  split at hp
  ·rename_i hk
   obtain rfl:p=(x.2.2.2[j]).2.1:=by simpa using hp
   have:=h3 j hj (by rw [nthA_lt _ _ hj];exact hk)
   rw [nthA_lt _ _ hj] at this
   exact this
  ·cases hp
theorem arg_in {x:InstT} {b:Int} (hok:InstOk x) (h:rawE x b=0) {j:Nat} (hj:j<x.2.2.2.length) (hk:(nthA x.2.2.2 j).1=1):1≤tyArg x j∧tyArg x j<b:=(ids_in hok h).2.2 j hj hk
theorem arg_range {x:InstT} (hok:InstOk x) {j:Nat} (hj:j<x.2.2.2.length):0≤tyArg x j∧tyArg x j<4294967296:=⟨(hok.2.2.2.2.2.2.1 j hj).2.2.1,(hok.2.2.2.2.2.2.1 j hj).2.2.2.1⟩
theorem id_arg {x:InstT} {b:Int} (hok:InstOk x) (h:rawE x b=0) {j:Nat} (hj:j<x.2.2.2.length) (hl:letterI (lookF refT x.1).1 (j:Int)=105):1≤tyArg x j∧tyArg x j<b:=by
 refine arg_in hok h hj ?_
 rw [(arg_says h hj).2.1,hl];rfl
theorem result_new {b:Int} {l:List InstT} (h:(idsE b l).1=0) {k:Nat} (hk:k<l.length):makT l k (nthI l k).2.2.1=none:=by
 have hL:(layE b l).1=0:=by
  unfold idsE at h
  split at h
  ·rename_i hn;exact absurd h hn
  ·rename_i hn;simpa using hn
 have hF:idsF l l.length 0=idsE b l:=by unfold idsE;rw [if_neg (by rw [hL];simp)]
 by_cases hall:∀ i,i<l.length→faultAt l i=0
 ·have:=hall k hk
  unfold faultAt at this
  split at this
  ·cases this
  ·rename_i hn
   cases e:makT l k (nthI l k).2.2.1 with
   | none=>rfl
   | some p=>rw [e] at hn;simp at hn
 ·exfalso
  have:∃ i,i<l.length∧faultAt l i≠0:=by
   apply Classical.byContradiction
   intro hx
   exact hall (fun i hi=>Classical.byContradiction fun hf=>hx ⟨i,hi,hf⟩)
  obtain⟨i,hi,hf⟩:=this
  obtain⟨m,hm1,hm2,hm3⟩:∃ m,m<l.length∧faultAt l m≠0∧∀ j,j<m→faultAt l j=0:=by
   revert hi hf
   induction i using Nat.strongRecOn with
   | ind i ih =>
    intro hi hf
    by_cases hx:∀ j,j<i→faultAt l j=0
    ·exact⟨i,hi,hf,hx⟩
    ·have:∃ j,j<i∧faultAt l j≠0:=by
      apply Classical.byContradiction
      intro hy
      exact hx (fun j hj=>Classical.byContradiction fun hf=>hy ⟨j,hj,hf⟩)
     obtain⟨j,hj,hf2⟩:=this
     exact ih j hj (by omega) hf2
  rw [idsF_at hm1 hm3 hm2] at hF
  rw [← hF] at h
  exact hm2 h
theorem made_of {l:List InstT} {j:Nat}:∀ {k:Nat},j<k→(nthI l j).2.2.1≠0→makT l k (nthI l j).2.2.1≠none
 | 0,h,_=>absurd h (by omega)
 | k+1,h,hn=>by
  rw [makT]
  by_cases hs:(makT l k (nthI l j).2.2.1).isSome=true
  ·rw [if_pos hs];intro e;rw [e] at hs;cases hs
  ·rw [if_neg hs]
   by_cases hj:j=k
   ·subst hj;rw [if_pos ⟨rfl,hn⟩];simp
   ·have:=made_of (k:=k) (by omega) hn
    cases e:makT l k (nthI l j).2.2.1 with
    | none=>exact absurd e this
    | some p=>rw [e] at hs;simp at hs
theorem result_apart {b:Int} {l:List InstT} (h:(idsE b l).1=0) {j k:Nat} (hjk:j<k) (hk:k<l.length) (hn:(nthI l j).2.2.1≠0):(nthI l j).2.2.1≠(nthI l k).2.2.1:=by
 intro e
 have h1:=result_new h hk
 rw [← e] at h1
 exact made_of hjk hn h1
end Go.Proofs.YtoebhgpciinkgaaGreatDoor
