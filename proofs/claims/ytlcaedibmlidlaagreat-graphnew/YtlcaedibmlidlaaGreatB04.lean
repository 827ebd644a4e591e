/-
  Texts in one: GraphOf, KitInts, Law14Awake.
-/
import Derived.Test.YtlcaedibmlidlaaGreatB03
namespace Go.Proofs.YtlcaedibmlidlaaGreat
open Go.RowKit
set_option linter.unusedVariables false
set_option linter.unusedSimpArgs false
set_option maxRecDepth 10000
theorem lead1_any (i:Int) (L n c:Nat) (a:Option Addr) (w:World) (h:w.heap[L]?=some (.cells #[.slice a n c] 50 (0,0))):Calls Tryz.prog 125 #[.int .i64 i,.pointer (some ⟨L,0,none⟩)] w fun e w'=>e=.returned (.bool (!nodeB n i))∧w=w':=by
 have c0:=(oneCell h).1
 have hI:=isNode_any a n c i w
 generalize nodeB n i=r at *
 clear h
 go_enter Tryz.func125,Tryz.ntmps125
 go_wp2_with fail
 refine hI.mono ?_
 rintro e w' ⟨rfl,rfl⟩
 go_wp2
 go_ret
 exact⟨rfl,rfl⟩
theorem mem_takeG {zs:List Int} {P:Int→Prop} {k:Nat} (hk:k<zs.length):(∃ x∈zs.take (k+1),P x)↔(∃ x∈zs.take k,P x)∨P (nth zs k):=by
 rw [take_snoc zs k hk]
 constructor
 ·rintro⟨x,hx,hp⟩
  rcases List.mem_append.1 hx with hx | hx
  ·exact .inl ⟨x,hx,hp⟩
  ·simp at hx;subst hx;exact .inr hp
 ·rintro (⟨x,hx,hp⟩ | hp)
  ·exact⟨x,List.mem_append.2 (.inl hx),hp⟩
  ·exact⟨_,List.mem_append.2 (.inr (by simp)),hp⟩
set_option maxHeartbeats 2000000 in
theorem indexLead_any (a:Option Addr) (m cap:Nat) (zs:List Int) (L n c:Nat) (b:Option Addr) (w:World) (hb:w.heap[L]?=some (.cells #[.slice b n c] 50 (0,0))) (ha:View .i64 w a zs) (hl:zs.length=m) (hn:8 * m≤140737488351232) :
  Calls Tryz.prog 159 #[.slice a m cap,.func (.func 125) #[] #[.pointer (some ⟨L,0,none⟩)]] w fun e w'=>(∃ i:Int,e=.returned (.int .i64 i)∧(0≤i↔∃ x∈zs,nodeB n x=false))∧w=w':=by
 have HC:=hide (fun i=>lead1_any i L n c b w hb)
 have HL:=hide hl
 have HA:=hide ha
 have HT:Hid (zs.take m=zs):=List.take_of_length_le (by rw [HL.out];exact Nat.le_refl _)
 have hmi:(8:Int) * m≤140737488351232:=by omega
 clear hl ha hb hn
 go_enter Tryz.func159,Tryz.ntmps159
 go_wp2_with fail
 go_loopw [8] (fun i wr=>∃ k:Nat,k≤m∧i=.int .i64 k∧(¬ ∃ x∈zs.take k,nodeB n x=false)∧wr=w) (fun i _=>m - (intOf i).toNat)
 case atStart=>exact⟨0,Nat.zero_le _,rfl,by simp,rfl⟩
 case round =>
  obtain⟨k,hk,rfl,hnot,rfl⟩:=hrel
  by_cases hlt:k<m
  ·obtain⟨b1,o1,rfl,_,c1⟩:=HA.out k (by rw [HL.out];exact hlt)
   have hki:(k:Int)<(m:Int):=by omega
   have HM:=hide (mem_takeG (P:=fun x=>nodeB n x=false) (zs:=zs) (k:=k) (by rw [HL.out];exact hlt))
   have hcall:=HC.out (nth zs k)
   have HNT:=hide hnot
   have HLT:=hide hlt
   have HMEM:Hid (nth zs k∈zs):=by
    have hk':k<zs.length:=by rw [HL.out];exact hlt
    have:nth zs k=zs[k]:=by simp [nth,List.getD,hk']
    show nth zs k∈zs
    rw [this];exact List.getElem_mem _
   clear hnot hk hlt
   generalize nth zs k=y at *
   cases hy:nodeB n y with
   | false =>
    rw [hy] at hcall
    have HY:=hide hy
    clear hy
    go_wp2_with fail
    refine hcall.mono ?_
    rintro e w5 ⟨rfl,rfl⟩
    clear hcall
    go_wp2_with fail
    go_ret
    exact⟨⟨k,rfl,fun _=>⟨y,HMEM.out,HY.out⟩,fun _=>by omega⟩,rfl⟩
   | true =>
    rw [hy] at hcall
    have HY:=hide hy
    clear hy
    go_wp2_with fail
    refine hcall.mono ?_
    rintro e w5 ⟨rfl,rfl⟩
    clear hcall
    go_wp2_with fail
    refine⟨⟨k+1,HLT.out,by simp,?_,by first | rfl | trivial⟩,measZ2 HLT.out⟩
    rw [HM.out]
    rintro (h | h)
    ·exact HNT.out h
    ·rw [HY.out] at h;cases h
  ·have e:m=k:=by omega
   subst e
   rw [HT.out] at hnot
   have HNT:=hide hnot
   clear hnot
   go_wp2_with fail
   go_ret
   exact⟨⟨-1,rfl,fun h=>by omega,fun h=>absurd h HNT.out⟩,rfl⟩
set_option maxHeartbeats 2000000 in
theorem containsLead_any (a:Option Addr) (m cap:Nat) (zs:List Int) (L n c:Nat) (b:Option Addr) (w:World) (hb:w.heap[L]?=some (.cells #[.slice b n c] 50 (0,0))) (ha:View .i64 w a zs) (hl:zs.length=m) (hn:8 * m≤140737488351232) :
  Calls Tryz.prog 124 #[.slice a m cap,.func (.func 125) #[] #[.pointer (some ⟨L,0,none⟩)]] w fun e w'=>(∃ r:Bool,e=.returned (.bool r)∧(r=true↔∃ x∈zs,nodeB n x=false))∧w=w':=by
 have hI:=indexLead_any a m cap zs L n c b w hb ha hl hn
 clear hb ha hl hn
 go_enter Tryz.func124,Tryz.ntmps124
 go_wp2_with fail
 refine hI.mono ?_
 rintro e w1 ⟨⟨i,rfl,hi⟩,rfl⟩
 have HI:=hide hi
 clear hI hi
 go_wp2_with fail
 go_ret
 exact⟨⟨decide (0≤i),rfl,by rw [← HI.out];simp⟩,rfl⟩
set_option maxHeartbeats 4000000 in
theorem lead_any (a:Option Addr) (n c:Nat) (N:List (List Int)) (w:World) (hv:LV w a N) (hl:N.length=n) (hn:24 * n≤140737488351232) (hr:∀ j,8 * (rowN N j).length≤140737488351232) :
  Calls Tryz.prog 78 #[.slice a n c] w fun e w'=>(∃ r:Bool,e=.returned (.bool r)∧(r=true↔Edges n N))∧Below w.heap.size w w':=by
 have hba:Below w.heap.size w (w.alloc (.cells #[.slice a n c] 50)):=(Below.refl _ _).alloc (Nat.le_refl _) _
 have hbx:(w.alloc (.cells #[.slice a n c] 50)).heap[w.heap.size]?=some (.cells #[.slice a n c] 50 (0,0)):=allocNew _ _ rfl
 have hV1:=hv.below hba
 have HBA:=hide hba
 have HV:=hide hV1
 have HL:=hide hl
 have HR:=hide hr
 have HC:=hide (fun aj nj cj zs (h:View .i64 _ aj zs) hlj hnj=>containsLead_any aj nj cj zs w.heap.size n c a _ hbx h hlj hnj)
 have hni:(24:Int) * n≤140737488351232:=by omega
 clear hv hV1 hba hl hn hr
 go_enter Tryz.func78,Tryz.ntmps78
 go_wp2_with fail
 generalize (w.alloc (.cells #[.slice a n c] 50))=W at *
 go_loopw [7] (fun i wr=>∃ k:Nat,k≤n∧i=.int .i64 k∧(∀ j,j<k→∀ x∈rowN N j,0≤x∧x<(n:Int))∧wr=W) (fun i _=>n - (intOf i).toNat)
 case atStart=>exact⟨0,Nat.zero_le _,rfl,fun j hj=>by omega,rfl⟩
 case round =>
  obtain⟨k,hk,rfl,hall,rfl⟩:=hrel
  by_cases hlt:k<n
  ·obtain⟨b,off,aj,nj,cj,rfl,hb,hc,hcl,hcc,hvj⟩:=HV.out k (by rw [HL.out];exact hlt)
   have hki:(k:Int)<(n:Int):=by omega
   have hcall:=HC.out aj nj cj (rowN N k) hvj hcl (by have:=HR.out k;omega)
   have HALL:=hide hall
   have HLT:=hide hlt
   clear hall hk hlt hb hcl hcc hvj
   go_wp2_with fail
   refine hcall.mono ?_
   rintro e w5 ⟨⟨r,rfl,hr⟩,rfl⟩
   have HRR:=hide hr
   clear hcall hr
   cases r with
   | true =>
    go_wp2_with fail
    go_ret
    refine⟨⟨false,rfl,fun h=>Bool.noConfusion h,fun h=>?_⟩,HBA.out⟩
    obtain⟨x,hx,hf⟩:=HRR.out.1 (by first | rfl | trivial)
    have:=h k x hx
    unfold nodeB at hf
    exact absurd this (of_decide_eq_false hf)
   | false =>
    go_wp2_with fail
    refine⟨⟨k+1,HLT.out,by simp,fun j hj x hx=>?_,by first | rfl | trivial⟩,measZ2 HLT.out⟩
    by_cases e:j=k
    ·subst e
     cases hq:nodeB n x with
     | true=>unfold nodeB at hq;exact of_decide_eq_true hq
     | false=>have:=HRR.out.2 ⟨x,hx,hq⟩;cases this
    ·exact HALL.out j (by omega) x hx
  ·have e:n=k:=by omega
   subst e
   have HALL:=hide hall
   clear hall hk
   go_wp2_with fail
   go_ret
   refine⟨⟨true,rfl,fun _ j x hx=>?_,fun _=>rfl⟩,HBA.out⟩
   by_cases hj:j<n
   ·exact HALL.out j hj x hx
   ·rw [rowN_out _ _ (by rw [HL.out];omega)] at hx;simp at hx
def OfQ (w w':World) (e:Ending) (N:List (List Int)):Prop :=
 (N.length=0∧e=.returned (.tuple #[.pointer none,.int .i64 2])∧Below w.heap.size w w') ∨
 (4096<N.length∧e=.returned (.tuple #[.pointer none,.int .i64 4])∧Below w.heap.size w w') ∨
 (0<N.length∧N.length≤4096∧¬ Edges N.length N∧e=.returned (.tuple #[.pointer none,.int .i64 141])∧Below w.heap.size w w') ∨
 (0<N.length∧N.length≤4096∧Edges N.length N∧∃ p,e=.returned (.tuple #[.pointer (some ⟨p,0,none⟩),.int .i64 0])∧GrV w' w.heap.size p (N.map onceF)∧Below w.heap.size w w')
theorem GrV.mono {w:World} {lo lo' p:Nat} {N:List (List Int)} (h:GrV w lo p N) (hl:lo'≤lo):GrV w lo' p N:=by
 obtain⟨nv,av,m,cv,ov,h1,h2,h3,h4,h5,h6⟩:=h.mem
 exact⟨⟨nv,av,m,cv,ov,h1,h2.mono hl,h3.mono hl,h4,own_mono h5 hl,own_mono h6 hl⟩,Nat.le_trans hl h.low,h.edges,h.few,h.some_,h.once⟩
set_option maxHeartbeats 4000000 in
theorem graphOf_any (a:Option Addr) (n c:Nat) (N:List (List Int)) (w:World) (hv:LV w a N) (hl:N.length=n) (hn:24 * n≤140737488351232) (hr:∀ j,8 * (rowN N j).length≤140737488351232) :
  Calls Tryz.prog 28 #[.slice a n c] w fun e w'=>OfQ w w' e N:=by
 subst hl
 by_cases h0:N.length=0
 ·have h0i:((N.length:Int)==0)=true:=by simp [h0]
  go_enter Tryz.func28,Tryz.ntmps28
  go_wp2_with fail
  go_ret2
  exact .inl ⟨h0,rfl,Below.refl _ _⟩
 ·have h0i:((N.length:Int)==0)=false:=by
   have:¬ (N.length:Int)=0:=by omega
   simpa using this
  by_cases h4:4096<N.length
  ·have h4i:(4096:Int)<(N.length:Int):=by omega
   have H4:=hide h4
   clear h4 h0
   go_enter Tryz.func28,Tryz.ntmps28
   go_wp2_with fail
   go_ret2
   exact .inr (.inl ⟨H4.out,rfl,Below.refl _ _⟩)
  ·have h4i:decide ((4096:Int)<(N.length:Int))=false:=by simp;omega
   have hL:=lead_any a N.length c N w hv rfl hn hr
   have hM:=fun hE wx (hb:Below w.heap.size w wx)=>made_any a N.length c N wx (hv.below hb) rfl (by omega) (by omega) hE hr
   have HM:=hide hM
   have H4:Hid (0<N.length∧N.length≤4096):=⟨by omega,by omega⟩
   clear hv hr hM h4 h0 hn
   go_enter Tryz.func28,Tryz.ntmps28
   go_wp2_with fail
   refine hL.mono ?_
   rintro e w1 ⟨⟨r,rfl,hr⟩,hb1⟩
   have HR:=hide hr
   have HB:=hide hb1
   clear hL hr hb1
   cases r with
   | false =>
    go_wp2_with fail
    go_ret2
    exact .inr (.inr (.inl ⟨H4.out.1,H4.out.2,fun h=>Bool.noConfusion (HR.out.2 h),rfl,HB.out⟩))
   | true =>
    have HED:=hide (HR.out.1 rfl)
    have hm:=HM.out HED.out w1 HB.out
    go_wp2_with fail
    refine hm.mono ?_
    rintro e w2 ⟨p,rfl,hG,hb2⟩
    have HG:=hide (hG.mono HB.out.size)
    have HB2:=hide (HB.out.trans (hb2.mono HB.out.size))
    clear hm hG hb2
    go_wp2_with fail
    go_ret2
    exact .inr (.inr (.inr ⟨H4.out.1,H4.out.2,HED.out,p,rfl,HG.out,HB2.out⟩))
set_option maxHeartbeats 400000 in
theorem ints_true (a b:Option Addr) (n ca cb:Nat) (zs:List Int) (w:World) (ha:View .i64 w a zs) (hb:View .i64 w b zs) (hl:zs.length=n) (hn:n≤140737488351232) :
  Calls Tryz.prog 16 #[.slice a n ca,.slice b n cb] w fun e w'=>e=.returned (.bool true)∧∃ q,w'=w.drewN q:=by
 have HL:Hid (zs.length=n):=hl
 clear hl
 go_enter Tryz.func16,Tryz.ntmps16
 go_wp2
 go_loopw [5] (fun i wr=>∃ k q:Nat,k≤n∧i=.int .i64 k∧wr=w.drewN q) (fun i _=>n - (intOf i).toNat)
 case atStart=>exact⟨0,0,Nat.zero_le _,rfl,rfl⟩
 case round =>
  obtain⟨k,q,hk,rfl,rfl⟩:=hrel
  by_cases hlt:k<n
  ·obtain⟨b1,o1,rfl,_,c1⟩:=ha k (by rw [HL.out];exact hlt)
   obtain⟨b2,o2,rfl,_,c2⟩:=hb k (by rw [HL.out];exact hlt)
   have hk0:(0:Int)≤(k:Int):=by omega
   have hki:(k:Int)<(n:Int):=by omega
   clear ha hb
   go_wp2
   go_quiet (fail)
   go_wp2
   go_roundw
   case rel=>exact⟨k+1,_,by omega,by go_num,rfl⟩
   case measure=>simp [intOf];omega
  ·go_wp2
   go_ret
   exact⟨rfl,q,rfl⟩
set_option maxHeartbeats 2000000 in
theorem pair_any (a b:Int) (w:World):Calls Tryz.prog 27 #[.int .i64 a,.int .i64 b] w fun e w'=>∃ g,e=.returned (.slice (some ⟨g,0,none⟩) 2 2)∧w'.ownsRow w.heap.size 3 1 (.slice (some ⟨g,0,none⟩) 2 2) 2 ([a,b].map (Value.int .i64))∧Below w.heap.size w w':=by
 obtain⟨i0,hi,hz0,hz1,hz2⟩:=info_parts GrInts.info
 go_enter Tryz.func27,Tryz.ntmps27
 go_wp2_with (at_make;refine wpList_make_full _ rfl _ _ 26 rfl w.heap.size 3 i0 (.int .i64 0) 1 Tryz.underlying26 hi hz0 hz1 _ _ _ _ 2 rfl rfl (by rfl) (by rfl) (by rw [hz2];omega) (by unfold maxLen;omega) (Nat.le_refl _) ?_)
 intro w1 hown1 hgr1
 have hb1:Below w.heap.size w w1:=(Below.refl _ w).grown hgr1 (Nat.le_refl _) (by simp)
 have hr1:w1.ownsRow w.heap.size 3 1 (.slice (some ⟨w.heap.size,0,none⟩) 2 2) 2 [.int .i64 0,.int .i64 0]:=by
  have:=made_row (List.replicate 2 0) (by simpa using hown1)
  rw [filled_zero] at this;exact this
 have c0:w1.cell? ⟨w.heap.size,0,none⟩=some (.int .i64 0):=hr1.cellAt 0 (by omega)
 have f0:w1.frozen? ⟨w.heap.size,0,none⟩=false:=hr1.frozenAt _
 have hr2:=own_setAt hr1 0 (.int .i64 a)
 have hr3:=own_setAt hr2 1 (.int .i64 b)
 have c1:(w1.setCell ⟨w.heap.size,0,none⟩ (.int .i64 a)).cell? ⟨w.heap.size,1,none⟩=some (.int .i64 0):=hr2.cellAt 1 (by omega)
 have f1:(w1.setCell ⟨w.heap.size,0,none⟩ (.int .i64 a)).frozen? ⟨w.heap.size,1,none⟩=false:=hr2.frozenAt _
 have hb2:Below w.heap.size w (w1.setCell ⟨w.heap.size,0,none⟩ (.int .i64 a)):=hb1.grown (grown_setCell w1 w.heap.size 0 _) hb1.size (fun k e=>by cases e;exact Nat.le_refl _)
 have hb3:Below w.heap.size w ((w1.setCell ⟨w.heap.size,0,none⟩ (.int .i64 a)).setCell ⟨w.heap.size,1,none⟩ (.int .i64 b)):=hb2.grown (grown_setCell _ w.heap.size 1 _) hb2.size (fun k e=>by cases e;exact Nat.le_refl _)
 have HF:=hide (And.intro hr3 hb3)
 have c1':w1.cell? ⟨w.heap.size,1,none⟩=some (.int .i64 0):=hr1.cellAt 1 (by omega)
 have f1':w1.frozen? ⟨w.heap.size,1,none⟩=false:=hr1.frozenAt _
 clear hown1 hgr1 hb1 hr1 hr2 hr3 hb2 hb3 c1 f1
 go_wp2_with fail
 go_ret
 exact⟨_,rfl,HF.out.1,HF.out.2⟩
def smallN:List (List Int):=[[2,1],[],[0,2]]
theorem small_once:smallN.map onceF=smallN:=by decide
theorem small_edges:Edges 3 smallN:=by
 intro j x hx
 match j with
 | 0=>simp [smallN,rowN] at hx;omega
 | 1=>simp [smallN,rowN] at hx
 | 2=>simp [smallN,rowN] at hx;omega
 | j+3=>simp [smallN,rowN] at hx
theorem small_next:nextL smallN 0=[2,1]:=by decide
theorem small_ahead:aheadL smallN 2=[0,2]:=by decide
theorem small_reached:reachB smallN 1=true:=by decide
theorem small_order:(walkF smallN).2.reverse.length=3:=by decide
set_option maxHeartbeats 8000000 in
theorem awake14_true (w:World):Calls Tryz.prog 8 #[] w fun e w'=>e=.returned (.bool true)∧Below w.heap.size w w':=by
 obtain⟨j0,hj,hy0,hy1,hy2⟩:=info_parts GrLists.info
 go_enter Tryz.func8,Tryz.ntmps8
 go_wp2_with (at_make;refine wpList_make_full _ rfl _ _ 50 rfl w.heap.size 26 j0 (.slice none 0 0) 1 Tryz.underlying50 hj hy0 hy1 _ _ _ _ 3 rfl rfl (by rfl) (by rfl) (by rw [hy2];omega) (by unfold maxLen;omega) (Nat.le_refl _) ?_)
 intro w1 hown1 hgr1
 have hb1:Below w.heap.size w w1:=(Below.refl _ w).grown hgr1 (Nat.le_refl _) (by simp)
 have hO1:OwnL w1 w.heap.size (.slice (some ⟨w.heap.size,0,none⟩) 3 3) [[],[],[]]:=OwnL.made (by simpa using hown1)
 have HP1:=hide (pair_any 2 1 w1)
 clear hown1 hgr1
 go_wp2_with fail
 refine HP1.out.mono ?_
 rintro e w2 ⟨g2,rfl,hr2,hb2⟩
 obtain⟨hO2,⟨u2,hu2⟩,hf2,_⟩:=OwnL.put (N:=[[],[],[]]) hO1 hb2 (j:=0) (by decide) hb1.size hr2
 have hB2:Below w.heap.size w (w2.setCell ⟨w.heap.size,0,none⟩ (.slice (some ⟨g2,0,none⟩) 2 2)):=by
  have h1:=hb1.trans (hb2.mono hb1.size)
  exact h1.grown (grown_setCell _ _ _ _) h1.size (fun k e=>by cases e;exact Nat.le_refl _)
 have HP2:=hide (pair_any 0 2 (w2.setCell ⟨w.heap.size,0,none⟩ (.slice (some ⟨g2,0,none⟩) 2 2)))
 have HO2:=hide hO2
 have HB2:=hide hB2
 clear HP1 hr2 hb2 hO1 hb1 hO2 hB2
 go_wp2_with fail
 generalize w2.setCell ⟨w.heap.size,0,none⟩ (.slice (some ⟨g2,0,none⟩) 2 2)=W2 at *
 refine HP2.out.mono ?_
 rintro e w3 ⟨g3,rfl,hr3,hb3⟩
 obtain⟨hO3,⟨u3,hu3⟩,hf3,_⟩:=OwnL.put (N:=[[2,1],[],[]]) HO2.out hb3 (j:=2) (by decide) HB2.out.size hr3
 have hB3:Below w.heap.size w (w3.setCell ⟨w.heap.size,2,none⟩ (.slice (some ⟨g3,0,none⟩) 2 2)):=by
  have h1:=HB2.out.trans (hb3.mono HB2.out.size)
  exact h1.grown (grown_setCell _ _ _ _) h1.size (fun k e=>by cases e;exact Nat.le_refl _)
 have hO3':OwnL (w3.setCell ⟨w.heap.size,2,none⟩ (.slice (some ⟨g3,0,none⟩) 2 2)) w.heap.size (.slice (some ⟨w.heap.size,0,none⟩) 3 3) smallN:=hO3
 obtain⟨a3,c3,e3,_,hLV,_⟩:=hO3'.head
 cases e3
 have hOf:=graphOf_any _ 3 3 smallN _ hLV rfl (by omega) (fun j=>by
  match j with
  | 0=>decide
  | 1=>decide
  | 2=>decide
  | j+3=>simp [smallN,rowN])
 have HOf:=hide hOf
 have HB3:=hide hB3
 clear HP2 hr3 hb3 hO3 hO3' hLV hB3 hOf HO2 HB2 hu2 hf2
 go_wp2_with fail
 generalize w3.setCell ⟨w.heap.size,2,none⟩ (.slice (some ⟨g3,0,none⟩) 2 2)=W3 at *
 refine HOf.out.mono ?_
 rintro e w4 (⟨h,_⟩ | ⟨h,_⟩ | ⟨_,_,h,_⟩ | ⟨_,_,_,p,rfl,hG,hb4⟩)
 ·exact absurd h (by decide)
 ·exact absurd h (by decide)
 ·exact absurd small_edges h
 rw [small_once] at hG
 have HB4:=hide (HB3.out.trans (hb4.mono HB3.out.size))
 have HG4:=hide hG
 have hLen:=graphLen_any w4 _ p smallN hG
 have hNx:=graphNext_any 0 w4 _ p smallN hG
 rw [small_next] at hNx
 have HNx:=hide hNx
 clear HOf hG hb4 HB3 hNx hu3 hf3
 go_wp2_with fail
 refine hLen.mono ?_
 rintro e w5 ⟨rfl,rfl⟩
 have hsl:(smallN.length:Int)=3:=by decide
 rw [hsl]
 clear hLen hsl
 go_wp2_with fail
 refine HNx.out.mono ?_
 rintro e w5 ⟨v5,rfl,hr5,hb5⟩
 obtain⟨a5,c5,rfl,hv5,_⟩:=View.ofOwned hr5
 have HB5:=hide (HB4.out.trans (hb5.mono HB4.out.size))
 have HG5:=hide (HG4.out.below hb5)
 have HV5:=hide hv5
 have HP:=hide (pair_any 2 1 w5)
 clear HNx hr5 hb5 hv5 HB4 HG4
 go_wp2_with fail
 refine HP.out.mono ?_
 rintro e w6 ⟨g6,rfl,hr6,hb6⟩
 have hK:=ints_true a5 _ 2 c5 2 [2,1] w6 (HV5.out.below hb6) (View.ofOwn hr6 rfl) rfl (by omega)
 have HK:=hide hK
 have HB6:=hide (HB5.out.trans (hb6.mono HB5.out.size))
 have HG6:=hide (HG5.out.below hb6)
 clear HP hr6 hb6 HV5 HB5 HG5 hK
 go_wp2_with fail
 refine HK.out.mono ?_
 rintro e w7 ⟨rfl,q7,rfl⟩
 have hd7:Below w6.heap.size w6 (w6.drewN q7):=bel_drewN (Below.refl _ _) q7
 have HB7:=hide (HB6.out.trans (hd7.mono HB6.out.size))
 have hG7:=HG6.out.below hd7
 generalize w6.drewN q7=w7 at *
 have hAh:=graphAhead_any 2 w7 _ p smallN hG7
 rw [small_ahead] at hAh
 have HAh:=hide hAh
 have HG7:=hide hG7
 clear HK HB6 HG6 hd7 hG7 hAh
 go_wp2_with fail
 refine HAh.out.mono ?_
 rintro e w8 ⟨v8,rfl,hr8,hb8⟩
 obtain⟨a8,c8,rfl,hv8,_⟩:=View.ofOwned hr8
 have HB8:=hide (HB7.out.trans (hb8.mono HB7.out.size))
 have HG8:=hide (HG7.out.below hb8)
 have HV8:=hide hv8
 have HP:=hide (pair_any 0 2 w8)
 clear HAh hr8 hb8 hv8 HB7 HG7
 go_wp2_with fail
 refine HP.out.mono ?_
 rintro e w9 ⟨g9,rfl,hr9,hb9⟩
 have hK:=ints_true a8 _ 2 c8 2 [0,2] w9 (HV8.out.below hb9) (View.ofOwn hr9 rfl) rfl (by omega)
 have HK:=hide hK
 have HB9:=hide (HB8.out.trans (hb9.mono HB8.out.size))
 have HG9:=hide (HG8.out.below hb9)
 clear HP hr9 hb9 HV8 HB8 HG8 hK
 go_wp2_with fail
 refine HK.out.mono ?_
 rintro e w10 ⟨rfl,q10,rfl⟩
 have hd10:Below w9.heap.size w9 (w9.drewN q10):=bel_drewN (Below.refl _ _) q10
 have HB10:=hide (HB9.out.trans (hd10.mono HB9.out.size))
 have hG10:=HG9.out.below hd10
 generalize w9.drewN q10=w10 at *
 have hRe:=graphReached_any 1 w10 _ p smallN hG10
 rw [small_reached] at hRe
 have hOr:=graphOrder_any w10 _ p smallN hG10
 have HOr:=hide hOr
 have HRe:=hide hRe
 clear HK HB9 HG9 hd10 hG10 hRe hOr
 go_wp2_with fail
 refine HRe.out.mono ?_
 rintro e w11 ⟨rfl,rfl⟩
 clear HRe
 go_wp2_with fail
 refine HOr.out.mono ?_
 rintro e w12 ⟨v12,rfl,hr12,hb12⟩
 obtain⟨a12,c12,rfl,_,_⟩:=View.ofOwned hr12
 have hol:((walkF smallN).2.reverse.length:Int)=3:=by rw [small_order];rfl
 have HB12:=hide (HB10.out.trans (hb12.mono HB10.out.size))
 generalize (walkF smallN).2.reverse.length=ol at *
 have hol':((ol:Int)==3)=true:=by rw [hol];rfl
 clear HOr hr12 hb12 HB10 hol
 go_wp2_with fail
 go_ret
 exact⟨by simp [hol'],HB12.out⟩
end Go.Proofs.YtlcaedibmlidlaaGreat
