/-
  Texts in one: MathNw, Ref14Block, Ref14Merge, MathCu.
-/
import Derived.Test.YtlcaedibmlidlaaGreatB24
import Derived.BigFrame
namespace Go.Proofs.YtlcaedibmlidlaaGreat
open Go.RowKit
set_option linter.unusedVariables false
set_option linter.unusedSimpArgs false
set_option maxRecDepth 10000
def bkN (bs:List (Int×Int×Int)) (y:Int):Int:=if numG (numT bs bs.length) y=0 then -1 else numG (numT bs bs.length) y
def OnceB (bs:List (Int×Int×Int)):Prop:=∀ i j,i<j→j<bs.length→(nthB bs i).1≠(nthB bs j).1
theorem numT_has (bs:List (Int×Int×Int)):∀ (k j:Nat) (y:Int),j<k→(nthB bs j).1=y→∃ n,numT bs k y=some n
 | 0,j,y,h,_=>absurd h (Nat.not_lt_zero _)
 | k+1,j,y,h,e=>by
  show ∃ n,(if y=(nthB bs k).1 then some (k:Int) else numT bs k y)=some n
  by_cases hy:y=(nthB bs k).1
  ·exact⟨_,if_pos hy⟩
  ·rw [if_neg hy]
   refine numT_has bs k j y ?_ e
   rcases Nat.lt_or_ge j k with h1 | h1
   ·exact h1
   ·have:j=k:=by omega
    subst this
    exact absurd e.symm hy
theorem bkN_none {bs:List (Int×Int×Int)} {y:Int} (h:∀ i,1≤i→i<bs.length→¬ (nthB bs i).1=y):bkN bs y=-1:=by
 unfold bkN
 rw [if_pos]
 unfold numG
 cases e:numT bs bs.length y with
 | none=>rfl
 | some n =>
  obtain⟨j,h1,h2,h3⟩:=numT_at bs _ y n e
  by_cases h0:j=0
  ·subst h0;rw [h2];rfl
  ·exact absurd h3 (h j (by omega) h1)
theorem bkN_some {bs:List (Int×Int×Int)} {y:Int} (ho:OnceB bs) {k:Nat} (h1:1≤k) (hk:k<bs.length) (he:(nthB bs k).1=y):bkN bs y=(k:Int):=by
 obtain⟨n,hn⟩:=numT_has bs bs.length k y hk he
 obtain⟨j,h2,h3,h4⟩:=numT_at bs _ y n hn
 have hjk:j=k:=by
  rcases Nat.lt_trichotomy j k with h | h | h
  ·exact absurd (h4.trans he.symm) (ho j k h hk)
  ·exact h
  ·exact absurd (he.trans h4.symm) (ho k j h h2)
 subst hjk
 have e:numG (numT bs bs.length) y=(j:Int):=by unfold numG;rw [hn,h3];rfl
 unfold bkN
 rw [e,if_neg (by omega)]
theorem bkN_sign (bs:List (Int×Int×Int)) (y:Int):(bkN bs y<0∧decide (bkN bs y<0)=true∧decide (0≤bkN bs y)=false∧numG (numT bs bs.length) y=0)∨(0≤bkN bs y∧decide (bkN bs y<0)=false∧decide (0≤bkN bs y)=true∧¬ numG (numT bs bs.length) y=0∧bkN bs y=numG (numT bs bs.length) y):=by
 unfold bkN
 by_cases h:numG (numT bs bs.length) y=0
 ·rw [if_pos h];exact .inl ⟨by decide,by decide,by decide,h⟩
 ·rw [if_neg h]
  have:=numG_range h
  exact .inr ⟨by omega,decide_eq_false (by omega),decide_eq_true (by omega),h,rfl⟩
def RmQ (bs:List (Int×Int×Int)) (l:List InstT) (b:Int×Int×Int) (v:Value):Prop :=
 (okM (numT bs bs.length) l b∧v=.tuple #[.agg #[.int .u8 (ldM (numT bs bs.length) l b).1,.int .i64 (ldM (numT bs bs.length) l b).2.1,.int .i64 (ldM (numT bs bs.length) l b).2.2],.bool true]) ∨
 (¬ okM (numT bs bs.length) l b∧∃ k1 k2 k3:Int,v=.tuple #[.agg #[.int .u8 k1,.int .i64 k2,.int .i64 k3],.bool false])
theorem rmQ_none {bs:List (Int×Int×Int)} {l:List InstT} {b:Int×Int×Int} (h:(ldR l b)=(0,[])):RmQ bs l b (.tuple #[.agg #[.int .u8 0,.int .i64 (-1),.int .i64 (-1)],.bool true]):=by
 refine .inl ⟨fun x hx=>(by rw [h] at hx;cases hx),?_⟩
 unfold ldM;rw [h];rfl
theorem rmQ_one {bs:List (Int×Int×Int)} {l:List InstT} {b:Int×Int×Int} {q y:Int} (h:(ldR l b)=(q,[y])) (h0:¬ numG (numT bs bs.length) y=0):RmQ bs l b (.tuple #[.agg #[.int .u8 q,.int .i64 (bkN bs y),.int .i64 (-1)],.bool true]):=by
 refine .inl ⟨fun x hx=>(by rw [h] at hx;simp only [List.mem_singleton] at hx;rw [hx];exact h0),?_⟩
 unfold ldM bkN;rw [h,if_neg h0];rfl
theorem rmQ_two {bs:List (Int×Int×Int)} {l:List InstT} {b:Int×Int×Int} {q y z:Int} (h:(ldR l b)=(q,[y,z])) (h0:¬ numG (numT bs bs.length) y=0) (h1:¬ numG (numT bs bs.length) z=0):RmQ bs l b (.tuple #[.agg #[.int .u8 q,.int .i64 (bkN bs y),.int .i64 (bkN bs z)],.bool true]):=by
 refine .inl ⟨fun x hx=>?_,?_⟩
 ·rw [h] at hx
  simp only [List.mem_cons,List.not_mem_nil,or_false] at hx
  rcases hx with rfl | rfl
  ·exact h0
  ·exact h1
 ·unfold ldM bkN;rw [h,if_neg h0,if_neg h1];rfl
theorem rmQ_bad {bs:List (Int×Int×Int)} {l:List InstT} {b:Int×Int×Int} {q y:Int} {ys:List Int} (h:(ldR l b)=(q,ys)) (hy:y∈ys) (h0:numG (numT bs bs.length) y=0) (k1 k2 k3:Int):RmQ bs l b (.tuple #[.agg #[.int .u8 k1,.int .i64 k2,.int .i64 k3],.bool false]) :=
 .inr ⟨fun hok=>hok y (by rw [h];exact hy) h0,_,_,_,rfl⟩
theorem new_blk {b:Int} {l:List InstT} {f:FuncT} (h:(layE b l).1=0) (hf:f∈cutTo l l.length):∀ j,j<f.2.2.2.1.length→∃ (z:Int) (q m:Nat),nthB f.2.2.2.1 j=(z,(q:Int),(m:Int)+2)∧q≤m∧m+2≤l.length∧(q=m→(nthI l m).1=248):=by
 intro j hj
 obtain⟨q,t,_,_,_,hne,_,hbl,hle⟩:=fnC_mem (whole_cut h) f hf
 obtain⟨s,u,e,_,h3,h4,_⟩:=blkC_at hbl j hj
 obtain⟨q2,h5,h6,h7,_⟩:=blk_begin l l.length f hf (nthB f.2.2.2.1 j) (by simp [nthB,List.getD,hj])
 rw [e] at h6
 have hs:s=q2:=by
  have:(s:Int)=(q2:Int):=h6
  omega
 obtain⟨m,rfl⟩:∃ m,u=m+2:=⟨u - 2,by omega⟩
 refine⟨(nthI l s).2.2.1,s,m,?_,by omega,by omega,fun e2=>?_⟩
 ·rw [e];rfl
 ·rw [← e2,hs];exact h7
set_option maxHeartbeats 4000000 in
theorem refBlock14_any (fv:Value) (f:FuncT) (y:Int) (w:World) (hf:FnR w fv f) (ho:OnceB f.2.2.2.1) :
  Calls Tryz.prog 70 #[fv,.int .u32 y] w fun e w'=>e=.returned (.int .i64 (bkN f.2.2.2.1 y))∧Below w.heap.size w w':=by
 obtain⟨xp,cp,xq,cq,rfl,hf1,hf2⟩:=hf.form
 obtain⟨_,hfew⟩:=hf.few
 obtain⟨fi,fa,fp,fb,fe⟩:=f
 simp only at *
 have HNO:Hid ((∀ i,1≤i→i<fb.length→¬ (nthB fb i).1=y)→bkN fb y=-1):=bkN_none
 have HYES:Hid (∀ k,1≤k→k<fb.length→(nthB fb k).1=y→bkN fb y=(k:Int)):=fun k h1 h2 h3=>bkN_some ho h1 h2 h3
 generalize bkN fb y=R at *
 have hba:Below w.heap.size w (w.alloc (.cells #[.int .u32 fi,.int .i64 fa,.slice xp fp.length cp,.slice xq fb.length cq,.int .i64 fe] 29)):=(Below.refl _ w).alloc (Nat.le_refl _) _
 have hk:=allocNew w (.cells #[.int .u32 fi,.int .i64 fa,.slice xp fp.length cp,.slice xq fb.length cq,.int .i64 fe] 29) rfl
 have c3:=(fiveCells hk).2.2.2.1
 have HBA:=hide hba
 have HQ:=hide (hf2.below hba)
 have HFW:=hide hfew
 clear hf hf1 hf2 hba hk hfew ho
 generalize hnb:fb.length=nb at *
 have HNB:=hide hnb
 clear hnb
 go_enter Tryz.func70,Tryz.ntmps70
 go_wp2_with fail
 generalize World.alloc w _=W at *
 go_loopw [5] (fun i wr=>∃ k:Nat,1≤k∧(k≤nb∨k=1)∧i=.int .i64 k∧(∀ j,1≤j→j<k→¬ (nthB fb j).1=y)∧wr=W) (fun i _=>nb - (intOf i).toNat)
 case atStart=>exact⟨1,Nat.le_refl _,.inr rfl,rfl,fun j h h2=>by omega,rfl⟩
 case round =>
  obtain⟨k,hk1,hk,rfl,hno,rfl⟩:=hrel
  have HNO2:=hide hno
  by_cases hlt:k<nb
  ·have hkl:k<fb.length:=by rw [HNB.out];exact hlt
   obtain⟨G,o,rfl,hG,p1,_,_⟩:=HQ.out k hkl
   have hki:(k:Int)<(nb:Int):=by omega
   have hk0:(0:Int)≤(k:Int):=by omega
   have hni:(nb:Int)≤17592186044416:=by have:=HFW.out;omega
   have HLT:=hide hlt
   have HK1:=hide hk1
   generalize hy:(nthB fb k).1=z at *
   have HY:=hide hy
   clear hy hno hG hkl hk hk1
   by_cases hz:z=y
   ·have hzb:(z==y)=true:=by simpa using hz
    have HR:=hide (HYES.out k HK1.out HLT.out (HY.out.trans hz))
    clear hz
    go_wp2_with fail
    go_ret
    exact⟨by rw [HR.out];rfl,HBA.out⟩
   ·have hzb:(z==y)=false:=by simpa using hz
    have HZ:=hide hz
    clear hz hlt
    go_wp2_with fail
    refine⟨⟨k+1,Nat.le_add_left _ _,.inl HLT.out,by simp,fun j h1 hj=>?_,by first | trivial | rfl⟩,measZ2 HLT.out⟩
    by_cases e:j=k
    ·subst e;rw [HY.out];exact HZ.out
    ·exact HNO2.out j h1 (by omega)
  ·have hki:¬ (k:Int)<(nb:Int):=by omega
   have HR:=hide (HNO.out fun i h1 h2=>hno i h1 (by omega))
   clear hno hlt hk hk1
   go_wp2_with fail
   go_ret
   exact⟨by rw [HR.out];rfl,HBA.out⟩
theorem mgRet {Q:Ending→World→Prop} {a':Act} {Z:World} {B:Nat} {u0 u1 u2:Value} {r:Bool} (h6:slot a'.tmps 6=.pointer (some ⟨B,0,none⟩)) (h7:slot a'.tmps 7=.bool r) (hd:a'.defers=[]) (hZ:Z.heap[B]?=some (.cells #[u0,u1,u2] 96 (0,0)))
  (hq:Q (.returned (.tuple #[.agg #[u0,u1,u2],.bool r])) Z):bodyPost Tryz.prog Tryz.f68 Q .ret a' Z:=by
 have r6:=run_loadVar_mid (P:=Tryz.prog) Z B 0 96 [u0,u1,u2] _ (range_of_block hZ) Tryz.underlying96 rfl (by kernel_rfl)
 refine bodyPost_ret (v:=.tuple #[.agg #[u0,u1,u2],.bool r]) ?_ hd hq
 have g6:a'.tmps.getD 6 undef=.pointer (some ⟨B,0,none⟩):=h6
 have g7:a'.tmps.getD 7 undef=.bool r:=h7
 simp only [results,Tryz.results68,List.mapM_toArray,List.mapM_cons,List.mapM_nil,g6,g7,asAddr,Sem.run_bind,Sem.run_pure,Result.andThen_ok,bind_assoc,pure_bind,Sem.run_map,map_pure,r6]
 rfl
theorem mgLd {W:World} {b T:Nat} {x0 x1 x2:Value} (h:W.heap[b]?=some (.cells #[x0,x1,x2] T (0,0))) (u0 u1 u2:Value) :
  (((W.setCell ⟨b,0,none⟩ u0).setCell ⟨b,1,none⟩ u1).setCell ⟨b,2,none⟩ u2).heap[b]?=some (.cells #[u0,u1,u2] T (0,0)):=by
 simp [World.setCell,Array.getElem?_modify,h]
theorem threeF {w:World} {p T:Nat} {a b c:Value} (h:w.heap[p]?=some (.cells #[a,b,c] T (0,0))):w.frozen? ⟨p,0,none⟩=false∧w.frozen? ⟨p,1,none⟩=false∧w.frozen? ⟨p,2,none⟩=false∧(w.cell? ⟨p,0,none⟩).isSome=true∧(w.cell? ⟨p,1,none⟩).isSome=true∧(w.cell? ⟨p,2,none⟩).isSome=true:=by
 refine⟨?_,?_,?_,?_,?_,?_⟩ <;> simp [World.frozen?,World.cell?,h]
theorem threeC {w:World} {p T:Nat} {a b c:Value} (h:w.heap[p]?=some (.cells #[a,b,c] T (0,0))):w.cell? ⟨p,0,none⟩=some a∧w.cell? ⟨p,1,none⟩=some b∧w.cell? ⟨p,2,none⟩=some c:=by
 refine⟨?_,?_,?_⟩ <;> simp [World.cell?,h]
theorem set3 {w lo:Nat} {W X:World} {b:Nat} (h:Below w W X) (hb:w≤b) (u0 u1 u2:Value):Below w W (((X.setCell ⟨b,0,none⟩ u0).setCell ⟨b,1,none⟩ u1).setCell ⟨b,2,none⟩ u2):=((h.setCell hb _).setCell hb _).setCell hb _
theorem mgSet0 {W:World} {b T:Nat} {x0 x1 x2:Value} (h:W.heap[b]?=some (.cells #[x0,x1,x2] T (0,0))) (u:Value):(W.setCell ⟨b,0,none⟩ u).heap[b]?=some (.cells #[u,x1,x2] T (0,0)):=by
 simp [World.setCell,Array.getElem?_modify,h]
theorem mgSet2 {W:World} {b T:Nat} {x0 x1 x2:Value} (h:W.heap[b]?=some (.cells #[x0,x1,x2] T (0,0))) (u:Value):(W.setCell ⟨b,2,none⟩ u).heap[b]?=some (.cells #[x0,x1,u] T (0,0)):=by
 simp [World.setCell,Array.getElem?_modify,h]
theorem mgOth {W:World} {b i k:Nat} {o:Obj} (h:W.heap[k]?=some o) (hne:k≠b) (u:Value):(W.setCell ⟨b,i,none⟩ u).heap[k]?=some o:=by
 simp [World.setCell,Array.getElem?_modify,h,Ne.symm hne]
theorem mgOth3 {W:World} {b k:Nat} {o:Obj} (h:W.heap[k]?=some o) (hne:k≠b) (u0 u1 u2:Value):(((W.setCell ⟨b,0,none⟩ u0).setCell ⟨b,1,none⟩ u1).setCell ⟨b,2,none⟩ u2).heap[k]?=some o:=mgOth (mgOth (mgOth h hne _) hne _) hne _
theorem mgBoxes (w:World) (A B C D:Array Value) {X:World} (hX:((((w.alloc (.cells A 25)).alloc (.cells B 29)).alloc (.cells C 65)).alloc (.cells D 96))=X):Below w.heap.size w X∧X.heap[w.heap.size]?=some (.cells A 25 (0,0))∧X.heap[w.heap.size+1]?=some (.cells B 29 (0,0))∧X.heap[w.heap.size+1+1]?=some (.cells C 65 (0,0))∧X.heap[w.heap.size+1+1+1]?=some (.cells D 96 (0,0)):=by
 subst hX
 refine⟨((((Below.refl _ w).alloc (Nat.le_refl _) _).alloc (by simp) _).alloc (by simp;omega) _).alloc (by simp;omega) _,?_,?_,?_,?_⟩
 ·exact allocOld (allocOld (allocOld (allocNew w _ rfl) _) _) _
 ·exact allocOld (allocOld (allocNew _ _ (by simp)) _) _
 ·exact allocOld (allocNew _ _ (by simp)) _
 ·exact allocNew _ _ (by simp)
theorem keyed2 {P:World→Nat→Prop} {R:Prop} (H:World→Nat→Prop) (h1:(∀ X p,H X p→P X p)→R) (h2:∀ X p,H X p→P X p):R:=h1 h2
set_option maxHeartbeats 16000000 in
theorem refMerge14_any (gen bnd z:Int) (a:Option Addr) (n c q m:Nat) (l:List InstT) (fv:Value) (f:FuncT) (w:World) (hv:InstsV w a l) (hl:l.length=n) (hn:40 * n≤140737488351232) (hf:FnR w fv f) (ho:OnceB f.2.2.2.1) (hqm:q≤m) (hm:m+2≤n) (h248:q=m→(nthI l m).1=248) (h246:(nthI l m).1=246→2≤(nthI l m).2.2.2.length) (h247:(nthI l m).1=247→1≤(nthI l m).2.2.2.length) :
  Calls Tryz.prog 68 #[modV gen bnd a n c,fv,.agg #[.int .u32 z,.int .i64 (q:Int),.int .i64 ((m:Int)+2)]] w fun e w'=>(∃ v,e=.returned v∧RmQ f.2.2.2.1 l (z,(q:Int),(m:Int)+2) v)∧Below w.heap.size w w':=by
 have hblk:=fun wx yy (hx:Below w.heap.size w wx)=>refBlock14_any fv f yy wx (hf.below hx) ho
 obtain⟨xp,cp,xq,cq,rfl,_,_⟩:=hf.form
 obtain⟨fi,fa,fp,fb,fe⟩:=f
 simp only at *
 have hR:=ldR_at l z (q:Int) m
 generalize hbz:((z,(q:Int),(m:Int)+2):Int×Int×Int)=bz at *
 clear hbz
 have HBK:=hide hblk
 have HV:=hide hv
 have HL:=hide hl
 have HN:=hide hn
 have HOP:=hide (And.intro h248 (And.intro h246 h247))
 have HR:=hide hR
 have HQM:=hide hqm
 have HM:=hide hm
 clear hf ho hv hl hn hblk h248 h246 h247 hR hqm hm
 unfold modV
 go_enter Tryz.func68,Tryz.ntmps68
 iterate 15 go_step
 generalize hX:World.alloc (World.alloc (World.alloc (World.alloc w _) _) _) _=X
 obtain⟨hba,k0,k1,k2,k3⟩:=mgBoxes w _ _ _ _ hX
 clear hX
 have l1:w.heap.size≤w.heap.size+1:=by omega
 have l2:w.heap.size≤w.heap.size+1+1:=by omega
 have l3:w.heap.size≤w.heap.size+1+1+1:=by omega
 generalize w.heap.size+1+1+1=B3 at *
 generalize w.heap.size+1+1=B2 at *
 generalize w.heap.size+1=B1 at *
 iterate 19 go_step
 generalize hY:World.alloc X _=Y
 have hbY:Below X.heap.size X Y:=by rw [← hY];exact (Below.refl _ X).alloc (Nat.le_refl _) _
 have k4:=allocNew X (.cells #[.int .u8 0,.int .i64 (-1),.int .i64 (-1)] 96) rfl
 rw [hY] at k4
 have K0:=hide ((hbY.block _ (Array.getElem?_eq_some_iff.1 k0).1).trans k0)
 have K1:=hide ((hbY.block _ (Array.getElem?_eq_some_iff.1 k1).1).trans k1)
 have K2:=hide ((hbY.block _ (Array.getElem?_eq_some_iff.1 k2).1).trans k2)
 have K3:=hide ((hbY.block _ (Array.getElem?_eq_some_iff.1 k3).1).trans k3)
 have K4:=hide k4
 have HBA:=hide (hba.trans (hbY.mono hba.size))
 have HL3:=hide l3
 clear hY hbY k0 k1 k2 k3 k4 hba l1 l2 l3
 generalize X.heap.size=B4 at *
 obtain⟨b0,b1,b2⟩:=threeC K2.out
 obtain⟨f1,f2,f3,f4,f5,f6⟩:=threeF K3.out
 obtain⟨t0,t1,t2⟩:=threeC K3.out
 obtain⟨e1,e2,e3⟩:=threeC K4.out
 by_cases hqe:q=m
 ·subst hqe
  have hw:wrap64 ((q:Int)+2 - (q:Int))=2:=by unfold wrap64;omega
  go_wp2_with fail
  refine mgRet (B:=B3) rfl rfl rfl (mgLd K3.out _ _ _) ⟨⟨_,rfl,rmQ_none ?_⟩,?_⟩
  ·rw [HR.out]
   unfold mgOf
   rw [HOP.out.1 (by first | exact rfl | trivial),if_neg (by decide),if_neg (by decide)]
  ·exact set3 (lo:=0) HBA.out HL3.out _ _ _
 have hw:wrap64 ((m:Int)+2 - (q:Int))=(m:Int)+2 - (q:Int):=by have:=HN.out;have:=HM.out;have:=HQM.out;unfold wrap64;omega
 have hlt:¬ (m:Int)+2 - (q:Int)<3:=by have:=HQM.out;omega
 have hw1:wrap64 ((m:Int)+2 - 1)=(m:Int)+1:=by have:=HN.out;have:=HM.out;unfold wrap64;omega
 have hw2:wrap64 ((m:Int)+2 - 2)=(m:Int):=by have:=HN.out;have:=HM.out;unfold wrap64;omega
 have hw3:((m:Int)+1).toNat=m+1:=by omega
 have hw4:wrap64 (m:Int)=(m:Int):=by have:=HN.out;have:=HM.out;unfold wrap64;omega
 have q0:(m:Int)<(n:Int):=by have:=HM.out;omega
 have q1:(m:Int)+1<(n:Int):=by have:=HM.out;omega
 have q2:(0:Int)≤(m:Int)+1:=by omega
 have q3:(0:Int)≤(m:Int):=by omega
 have hI:=HV.out.below HBA.out
 obtain⟨g1,o1,a1,c1,n1,rfl,hg1,r1,r2,r3,r4,r5,r6,r7⟩:=hI m (by rw [HL.out];have:=HM.out;omega)
 obtain⟨g2,o2,a2,c2,n2,e,hg2,s1,s2,s3,s4,s5,s6,s7⟩:=hI (m+1) (by rw [HL.out];have:=HM.out;omega)
 injection e with e;injection e with e8 e9 _;subst e8;subst e9
 have HG:=hide hg1
 have HGZ:Hid (g1<(Y.alloc (.cells #[.int .u16 (nthI l m).1,.int .u32 (nthI l m).2.1,.int .u32 (nthI l m).2.2.1,.slice a1 n1 c1] 63)).heap.size):=by show _<_;rw [World.size_alloc];omega
 clear hI hg1 hg2 s2 s3 s4 s5 s6 s7 r7
 generalize nthI l (m+1)=jm at *
 generalize nthI l m=im at *
 obtain⟨io,it,ir,ia⟩:=im
 obtain⟨jo,jt,jr,ja⟩:=jm
 simp only at *
 obtain⟨m0,m1,m2⟩:=threeC K0.out
 have y0:=allocNew Y (.cells #[.int .u16 io,.int .u32 it,.int .u32 ir,.slice a1 n1 c1] 63) rfl
 have HY:=hide y0
 have i0:=(one_block y0).1 0
 have X3:=hide (allocOld K3.out (.cells #[.int .u16 io,.int .u32 it,.int .u32 ir,.slice a1 n1 c1] 63))
 have X4:=hide (allocOld K4.out (.cells #[.int .u16 io,.int .u32 it,.int .u32 ir,.slice a1 n1 c1] 63))
 have X1:=hide (allocOld K1.out (.cells #[.int .u16 io,.int .u32 it,.int .u32 ir,.slice a1 n1 c1] 63))
 have X0:=hide (allocOld K0.out (.cells #[.int .u16 io,.int .u32 it,.int .u32 ir,.slice a1 n1 c1] 63))
 have X2:=hide (allocOld K2.out (.cells #[.int .u16 io,.int .u32 it,.int .u32 ir,.slice a1 n1 c1] 63))
 have HYB:Below Y.heap.size Y (Y.alloc (.cells #[.int .u16 io,.int .u32 it,.int .u32 ir,.slice a1 n1 c1] 63)):=(Below.refl _ Y).alloc (Nat.le_refl _) _
 have HBZ:=hide (HBA.out.trans (HYB.mono HBA.out.size))
 have HS1:=hide ((HYB.cell (p:=⟨g1,o1+(m+1) * 4,none⟩) HG.out).trans s1)
 have HAV:=hide (r6.below HYB)
 have HAL:=hide r5
 have HS:=hide s1
 clear y0 HYB r5 r6 s1 t0 t1 t2 f1 f2 f3 f4 f5 f6 e1 e2 e3 K0 K1 K2 K3 K4 HV HG HBA
 by_cases h6:¬ io=246∧¬ io=247
 ·have h6b:(io != 246)=true:=by simpa using h6.1
  have h7b:(io != 247)=true:=by simpa using h6.2
  have HRR:Hid (ldR l bz=(0,[])):=by show _=_;rw [HR.out];unfold mgOf;rw [if_neg h6.1,if_neg h6.2]
  obtain⟨f1,f2,f3,f4,f5,f6⟩:=threeF X3.out
  obtain⟨t0,t1,t2⟩:=threeC X3.out
  obtain⟨e1,e2,e3⟩:=threeC X4.out
  clear h6
  go_wp2_with fail
  refine mgRet (B:=B3) rfl rfl rfl (mgLd X3.out _ _ _) ⟨⟨_,rfl,rmQ_none HRR.out⟩,?_⟩
  exact set3 (lo:=0) HBZ.out HL3.out _ _ _
 by_cases h6:io=246
 ·subst h6
  have hal:2≤ia.length:=HOP.out.2.1 rfl
  obtain⟨ab,ao,rfl,hab,x1,x2,x3⟩:=HAV.out 0 (by omega)
  obtain⟨ab2,ao2,e,hab2,_,x4,_⟩:=HAV.out 1 (by omega)
  injection e with e;injection e with e8 e9 _;subst e8;subst e9
  rw [Nat.one_mul] at x4
  generalize hzz:(nthA ia 1).2.1=zz at *
  have HZZ:=hide hzz
  rw [Nat.zero_mul,Nat.add_zero] at x2
  generalize hyy:(nthA ia 0).2.1=yy at *
  have HYY:=hide hyy
  have HAB:=hide hab
  have HX4:=hide x4
  have hn2:(1:Int)<(n1:Int):=by have:=HAL.out;omega
  clear hab2 x4 hzz
  have hn1:(0:Int)<(n1:Int):=by have:=HAL.out;omega
  clear hal hab x1 x3 hyy
  go_wp2_with fail
  generalize World.alloc Y _=Z at *
  have LC:Hid (∀ w':World,Below Z.heap.size Z w'→w'.cell? ⟨B1,0,none⟩=some (.int .u32 fi)∧w'.cell? ⟨B1,1,none⟩=some (.int .i64 fa)∧w'.cell? ⟨B1,2,none⟩=some (.slice xp fp.length cp)∧w'.cell? ⟨B1,3,none⟩=some (.slice xq fb.length cq)∧w'.cell? ⟨B1,4,none⟩=some (.int .i64 fe)∧w'.cell? ⟨Y.heap.size,3,none⟩=some (.slice (some ⟨ab,ao,none⟩) n1 c1)∧w'.cell? ⟨ab,ao+1,none⟩=some (.int .u32 yy)):=fun w' h=>by
   obtain⟨u0,u1,u2,u3,u4⟩:=fiveCells ((h.block _ (Array.getElem?_eq_some_iff.1 X1.out).1).trans X1.out)
   exact⟨u0,u1,u2,u3,u4,(one_block ((h.block _ (Array.getElem?_eq_some_iff.1 HY.out).1).trans HY.out)).1 3,(h.cell (p:=⟨ab,ao+1,none⟩) HAB.out).trans x2⟩
  obtain⟨R0,hR0⟩:∃ R0,bkN fb yy=R0:=⟨_,rfl⟩
  have HR0:=hide hR0
  have HB7:=hide fun wx (hx:Below Z.heap.size Z wx)=>HBK.out wx yy (HBZ.out.trans (hx.mono HBZ.out.size))
  rw [hR0] at HB7
  clear hR0
  have hC0:Below Z.heap.size Z Z.drew:=below_drew Z
  have hmix:Tryz.prog.follows .mixedOrders=true:=by kernel_rfl
  clear x2 
  refine (wpIn_wide (n:=0)).1 ?_
  refine wpIn_normal (wpIn_region_any hmix (wpAnyE_sound (C:=Below Z.heap.size Z) (E:=fun _=>false) _ _ _ _ ?_))
  change wpAnyE _ _ _ _ _ _ _ _ _ _ _ (World.drew _)
  refine wpAnyE_takeD (i:=0) (some 35) (v:=(.agg #[.int .u32 fi,.int .i64 fa,.slice xp fp.length cp,.slice xq fb.length cq,.int .i64 fe])) (fun _=>trivial) (by kernel_rfl) rfl rfl (by kernel_rfl) (by kernel_rfl) (by kernel_rfl) (by kernel_rfl) (fun _ _ _ h=>by cases h.1) hC0 (Or.inl ⟨by kernel_rfl,fun w' hC=>by obtain⟨e1,e2,e3,e4,e5,e6,e7⟩:=LC.out w' hC;clear hC;go_simp⟩) ?_
  simp only [Act.put,ap1,ap2,ap3]
  refine wpAnyE_takeD (i:=1) (some 36) (v:=(.pointer (some ⟨Y.heap.size,3,none⟩))) (fun _=>trivial) (by kernel_rfl) rfl rfl (by kernel_rfl) (by kernel_rfl) (by kernel_rfl) (by kernel_rfl) (fun _ _ _ h=>by cases h.1) hC0 (Or.inl ⟨by kernel_rfl,fun w' hC=>by obtain⟨e1,e2,e3,e4,e5,e6,e7⟩:=LC.out w' hC;clear hC;go_simp⟩) ?_
  simp only [Act.put,ap1,ap2,ap3]
  refine wpAnyE_takeD (i:=2) (some 37) (v:=(.slice (some ⟨ab,ao,none⟩) n1 c1)) (fun _=>trivial) (by kernel_rfl) rfl rfl (by kernel_rfl) (by kernel_rfl) (by kernel_rfl) (by kernel_rfl) (fun _ _ _ h=>by cases h.1) hC0 (Or.inl ⟨by kernel_rfl,fun w' hC=>by obtain⟨e1,e2,e3,e4,e5,e6,e7⟩:=LC.out w' hC;clear hC;go_simp⟩) ?_
  simp only [Act.put,ap1,ap2,ap3]
  refine wpAnyE_takeD (i:=3) (some 38) (v:=(.pointer (some ⟨ab,ao,none⟩))) (fun _=>trivial) (by kernel_rfl) rfl rfl (by kernel_rfl) (by kernel_rfl) (by kernel_rfl) (by kernel_rfl) (fun _ _ _ h=>by cases h.1) hC0 (Or.inl ⟨by kernel_rfl,fun w' hC=>by obtain⟨e1,e2,e3,e4,e5,e6,e7⟩:=LC.out w' hC;clear hC;go_simp;intro h0;omega⟩) ?_
  simp only [Act.put,ap1,ap2,ap3]
  refine wpAnyE_takeD (i:=4) (some 39) (v:=(.pointer (some ⟨ab,ao+1,none⟩))) (fun _=>trivial) (by kernel_rfl) rfl rfl (by kernel_rfl) (by kernel_rfl) (by kernel_rfl) (by kernel_rfl) (fun _ _ _ h=>by cases h.1) hC0 (Or.inl ⟨by kernel_rfl,fun w' hC=>by obtain⟨e1,e2,e3,e4,e5,e6,e7⟩:=LC.out w' hC;clear hC;go_simp⟩) ?_
  simp only [Act.put,ap1,ap2,ap3]
  refine wpAnyE_takeD (i:=5) (some 40) (v:=(.int .u32 yy)) (fun _=>trivial) (by kernel_rfl) rfl rfl (by kernel_rfl) (by kernel_rfl) (by kernel_rfl) (by kernel_rfl) (fun _ _ _ h=>by cases h.1) hC0 (Or.inl ⟨by kernel_rfl,fun w' hC=>by obtain⟨e1,e2,e3,e4,e5,e6,e7⟩:=LC.out w' hC;clear hC;go_simp⟩) ?_
  simp only [Act.put,ap1,ap2,ap3]
  clear LC
  obtain⟨H,hH⟩:∃ H:World→Nat→Prop,H=fun X p=>Below Z.heap.size Z X∧Z.heap.size≤p∧X.heap[p]?=some (.cells #[.int .u8 1,.int .i64 R0,.int .i64 (-1)] 96 (0,0)):=⟨_,rfl⟩
  apply keyed2 H ?h1 ?h2
  case h1 =>
   intro key
   refine wpAnyE_ready (rs:=[6,8]) (by kernel_rfl) (by simp) ?_
   refine AllE.cons rfl (fun Kk hK=>?_) (AllE.cons rfl (fun Kk hK=>?_) AllE.nil)
   ·go_simp
    refine⟨trivial,rfl,(callsIn_wide.2 (HB7.out _ hC0)).mono ?_⟩
    rintro e x1 ⟨rfl,hb1⟩
    dsimp only
    have hC1:=hC0.trans (hb1.mono hC0.size)
    refine hK _ _ (.inr hC1) ?_
    clear hK Kk
    refine wpAnyE_takeD (i:=7) (some 42) (v:=(.agg #[.int .u8 1,.int .i64 R0,.int .i64 (-1)])) (fun _=>trivial) (by kernel_rfl) rfl rfl (by kernel_rfl) (by kernel_rfl) (by kernel_rfl) (by kernel_rfl) (fun _ _ _ h=>by cases h.1) hC1 (Or.inl ⟨by kernel_rfl,fun w' hC=>by clear hC;go_simp⟩) ?_
    simp only [Act.put,ap1,ap2,ap3]
    refine wpAnyE_ready (rs:=[8]) (by kernel_rfl) (by simp) ?_
    refine AllE.cons rfl (fun Kk hK=>?_) AllE.nil
    go_simp
    refine hK _ _ (.inr (hC1.alloc hC1.size (.cells #[.int .u8 0,.int .i64 0,.int .i64 0] 96))) ?_
    clear hK Kk
    refine wpAnyE_ready (rs:=[9]) (by kernel_rfl) (by simp) ?_
    refine AllE.cons rfl (fun Kk hK=>?_) AllE.nil
    go_simp
    refine hK _ _ (.inr (hC1.alloc hC1.size (.cells #[.int .u8 1,.int .i64 R0,.int .i64 (-1)] 96))) ?_
    clear hK Kk
    refine wpAnyE_done (by kernel_rfl) ⟨rfl,?_⟩ _
    rw [then_normalLd]
    have hf:H (x1.alloc (.cells #[.int .u8 1,.int .i64 R0,.int .i64 (-1)] 96)) x1.heap.size:=by
     rw [hH]
     exact⟨hC1.alloc hC1.size _,hC1.size,allocNew _ _ rfl⟩
    generalize World.alloc x1 _=X at hf ⊢
    generalize x1.heap.size=p at hf ⊢
    exact key _ _ hf
   ·go_simp
    have hC2:=hC0.alloc hC0.size (.cells #[.int .u8 0,.int .i64 0,.int .i64 0] 96)
    refine hK _ _ (.inr hC2) ?_
    clear hK Kk
    have hk9:=allocNew Z (.cells #[.int .u8 0,.int .i64 0,.int .i64 0] 96) rfl
    refine wpAnyE_ready (rs:=[6]) (by kernel_rfl) (by simp) ?_
    refine AllE.cons rfl (fun Kk hK=>?_) AllE.nil
    go_simp
    refine⟨trivial,rfl,(callsIn_wide.2 (HB7.out _ hC2)).mono ?_⟩
    rintro e x1 ⟨rfl,hb1⟩
    dsimp only
    have hC3:=hC2.trans (hb1.mono hC2.size)
    refine hK _ _ (.inr hC3) ?_
    clear hK Kk
    have hs9:=(hb1.block _ (Array.getElem?_eq_some_iff.1 hk9).1).trans hk9
    obtain⟨v0,v1,v2,_,_,_⟩:=threeF hs9
    obtain⟨v3,v4,v5⟩:=threeC hs9
    refine wpAnyE_takeD (i:=7) (some 42) (v:=(.agg #[.int .u8 1,.int .i64 R0,.int .i64 (-1)])) (fun _=>trivial) (by kernel_rfl) rfl rfl (by kernel_rfl) (by kernel_rfl) (by kernel_rfl) (by kernel_rfl) (fun _ _ _ h=>by cases h.1) hC3 (Or.inl ⟨by kernel_rfl,fun w' hC=>by clear hC;go_simp⟩) ?_
    simp only [Act.put,ap1,ap2,ap3]
    refine wpAnyE_ready (rs:=[9]) (by kernel_rfl) (by simp) ?_
    refine AllE.cons rfl (fun Kk hK=>?_) AllE.nil
    go_simp
    have hC4:=set3 (lo:=0) hC3 (Nat.le_refl _) (.int .u8 1) (.int .i64 R0) (.int .i64 (-1))
    refine hK _ _ (.inr hC4) ?_
    clear hK Kk
    refine wpAnyE_done (by kernel_rfl) ⟨rfl,?_⟩ _
    rw [then_normalLd]
    have hf:H (((x1.setCell ⟨Z.heap.size,0,none⟩ (.int .u8 1)).setCell ⟨Z.heap.size,1,none⟩ (.int .i64 R0)).setCell ⟨Z.heap.size,2,none⟩ (.int .i64 (-1))) Z.heap.size:=by
     rw [hH]
     exact⟨hC4,Nat.le_refl _,mgLd hs9 _ _ _⟩
    generalize World.setCell (World.setCell (World.setCell x1 _ _) _ _) _ _=X at hf ⊢
    generalize Z.heap.size=p at hf ⊢
    exact key _ _ hf
  case h2 =>
   intro X p hf
   rw [hH] at hf
   obtain⟨hXB,hp,hk⟩:=hf
   clear hC0 hH H hmix
   have HXB:=hide hXB
   have HXW:=hide (HBZ.out.trans (hXB.mono HBZ.out.size))
   obtain⟨p1,p2,p3⟩:=threeC hk
   obtain⟨d1,d2,d3,d4,d5,d6⟩:=threeF hk
   have HK:=hide hk
   have Y3:=hide ((hXB.block _ (Array.getElem?_eq_some_iff.1 X3.out).1).trans X3.out)
   have Y4:=hide ((hXB.block _ (Array.getElem?_eq_some_iff.1 X4.out).1).trans X4.out)
   have YI:=hide ((hXB.block _ (Array.getElem?_eq_some_iff.1 HY.out).1).trans HY.out)
   have Y1:=hide ((hXB.block _ (Array.getElem?_eq_some_iff.1 X1.out).1).trans X1.out)
   have HPB:Hid (w.heap.size≤p∧Z.heap.size≤p∧B3<p∧B1<p):=by
    have h1:=(Array.getElem?_eq_some_iff.1 X3.out).1
    have h2:=(Array.getElem?_eq_some_iff.1 X1.out).1
    have h3:=(Array.getElem?_eq_some_iff.1 HY.out).1
    have h4:=HBZ.out.size
    exact⟨by omega,by omega,by omega,by omega⟩
   clear hp hk hXB
   obtain⟨f1,f2,f3,f4,f5,f6⟩:=threeF Y3.out
   obtain⟨t0,t1,t2⟩:=threeC Y3.out
   have hR0:(R0<0∧decide (R0<0)=true∧numG (numT fb fb.length) yy=0)∨(0≤R0∧decide (R0<0)=false∧¬ numG (numT fb fb.length) yy=0):=by
    rcases bkN_sign fb yy with ⟨h1,h2,h3,h4⟩ | ⟨h1,h2,h3,h4,_⟩ <;> rw [HR0.out] at h1 h2
    ·exact .inl ⟨h1,h2,h4⟩
    ·exact .inr ⟨h1,h2,h4⟩
   have HRR:Hid (ldR l bz=(2,[yy,zz])):=by show _=_;rw [HR.out];unfold mgOf;rw [if_pos (by first | exact rfl | trivial),HYY.out,HZZ.out]
   rcases hR0 with ⟨hs1,hs2,hs3⟩ | ⟨hs1,hs2,hs3⟩
   ·obtain⟨e1,e2,e3⟩:=threeC Y4.out
    have HS3:=hide hs3
    clear hs3
    go_wp2_with fail
    exact mgRet (B:=B3) rfl rfl rfl (mgLd Y3.out _ _ _) ⟨⟨_,rfl,rmQ_bad HRR.out (by simp) HS3.out _ _ _⟩,set3 (lo:=0) HXW.out HL3.out _ _ _⟩
   ·have hs9:¬ R0<0:=by omega
    have i0:=(one_block YI.out).1 0
    have HS3:=hide hs3
    clear hs3
    go_wp2_with fail
    have hXS:=HXB.out.setCell (p:=⟨p,0,none⟩) HPB.out.2.1 (.int .u8 2)
    have hkV:=mgSet0 HK.out (.int .u8 2)
    generalize World.setCell X _ _=V at *
    have HXS:=hide hXS
    have HXV:=hide (HBZ.out.trans (hXS.mono HBZ.out.size))
    have HKV:=hide hkV
    have V3:=hide ((hXS.block _ (Array.getElem?_eq_some_iff.1 X3.out).1).trans X3.out)
    have V4:=hide ((hXS.block _ (Array.getElem?_eq_some_iff.1 X4.out).1).trans X4.out)
    have VI:=hide ((hXS.block _ (Array.getElem?_eq_some_iff.1 HY.out).1).trans HY.out)
    have V1:=hide ((hXS.block _ (Array.getElem?_eq_some_iff.1 X1.out).1).trans X1.out)
    have HX5:=hide ((hXS.cell (p:=⟨ab,ao+3+1,none⟩) HAB.out).trans HX4.out)
    have LC:Hid (∀ w':World,Below V.heap.size V w'→w'.cell? ⟨B1,0,none⟩=some (.int .u32 fi)∧w'.cell? ⟨B1,1,none⟩=some (.int .i64 fa)∧w'.cell? ⟨B1,2,none⟩=some (.slice xp fp.length cp)∧w'.cell? ⟨B1,3,none⟩=some (.slice xq fb.length cq)∧w'.cell? ⟨B1,4,none⟩=some (.int .i64 fe)∧w'.cell? ⟨Y.heap.size,3,none⟩=some (.slice (some ⟨ab,ao,none⟩) n1 c1)∧w'.cell? ⟨ab,ao+3+1,none⟩=some (.int .u32 zz)):=fun w' h=>by
     obtain⟨u0,u1,u2,u3,u4⟩:=fiveCells ((h.block _ (Array.getElem?_eq_some_iff.1 V1.out).1).trans V1.out)
     exact⟨u0,u1,u2,u3,u4,(one_block ((h.block _ (Array.getElem?_eq_some_iff.1 VI.out).1).trans VI.out)).1 3,(h.cell (p:=⟨ab,ao+3+1,none⟩) (Nat.lt_of_lt_of_le HAB.out hXS.size)).trans HX5.out⟩
    obtain⟨R1,hR1⟩:∃ R1,bkN fb zz=R1:=⟨_,rfl⟩
    have HR1:=hide hR1
    have HB7:=hide fun wx (hx:Below V.heap.size V wx)=>HBK.out wx zz (HXV.out.trans (hx.mono HXV.out.size))
    rw [hR1] at HB7
    have hC0:Below V.heap.size V V.drew:=below_drew V
    have hmix:Tryz.prog.follows .mixedOrders=true:=by kernel_rfl
    clear hR1 hXS hkV
    refine (wpIn_wide (n:=0)).1 ?_
    refine wpIn_normal (wpIn_region_any hmix (wpAnyE_sound (C:=Below V.heap.size V) (E:=fun i=>i==8) _ _ _ _ ?_))
    change wpAnyE _ _ _ _ _ _ _ _ _ _ _ (World.drew _)
    refine wpAnyE_takeD (i:=0) (some 51) (v:=(.agg #[.int .u32 fi,.int .i64 fa,.slice xp fp.length cp,.slice xq fb.length cq,.int .i64 fe])) (fun _=>trivial) (by kernel_rfl) rfl rfl (by kernel_rfl) (by kernel_rfl) (by kernel_rfl) (by kernel_rfl) (fun _ _ _ h=>by cases h.1) hC0 (Or.inl ⟨by kernel_rfl,fun w' hC=>by obtain⟨e1,e2,e3,e4,e5,e6,e7⟩:=LC.out w' hC;clear hC;go_simp⟩) ?_
    simp only [Act.put,ap1,ap2,ap3]
    refine wpAnyE_takeD (i:=1) (some 52) (v:=(.pointer (some ⟨Y.heap.size,3,none⟩))) (fun _=>trivial) (by kernel_rfl) rfl rfl (by kernel_rfl) (by kernel_rfl) (by kernel_rfl) (by kernel_rfl) (fun _ _ _ h=>by cases h.1) hC0 (Or.inl ⟨by kernel_rfl,fun w' hC=>by obtain⟨e1,e2,e3,e4,e5,e6,e7⟩:=LC.out w' hC;clear hC;go_simp⟩) ?_
    simp only [Act.put,ap1,ap2,ap3]
    refine wpAnyE_takeD (i:=2) (some 53) (v:=(.slice (some ⟨ab,ao,none⟩) n1 c1)) (fun _=>trivial) (by kernel_rfl) rfl rfl (by kernel_rfl) (by kernel_rfl) (by kernel_rfl) (by kernel_rfl) (fun _ _ _ h=>by cases h.1) hC0 (Or.inl ⟨by kernel_rfl,fun w' hC=>by obtain⟨e1,e2,e3,e4,e5,e6,e7⟩:=LC.out w' hC;clear hC;go_simp⟩) ?_
    simp only [Act.put,ap1,ap2,ap3]
    refine wpAnyE_takeD (i:=3) (some 54) (v:=(.pointer (some ⟨ab,ao+3,none⟩))) (fun _=>trivial) (by kernel_rfl) rfl rfl (by kernel_rfl) (by kernel_rfl) (by kernel_rfl) (by kernel_rfl) (fun _ _ _ h=>by cases h.1) hC0 (Or.inl ⟨by kernel_rfl,fun w' hC=>by obtain⟨e1,e2,e3,e4,e5,e6,e7⟩:=LC.out w' hC;clear hC;go_simp⟩) ?_
    simp only [Act.put,ap1,ap2,ap3]
    refine wpAnyE_takeD (i:=4) (some 55) (v:=(.pointer (some ⟨ab,ao+3+1,none⟩))) (fun _=>trivial) (by kernel_rfl) rfl rfl (by kernel_rfl) (by kernel_rfl) (by kernel_rfl) (by kernel_rfl) (fun _ _ _ h=>by cases h.1) hC0 (Or.inl ⟨by kernel_rfl,fun w' hC=>by obtain⟨e1,e2,e3,e4,e5,e6,e7⟩:=LC.out w' hC;clear hC;go_simp⟩) ?_
    simp only [Act.put,ap1,ap2,ap3]
    refine wpAnyE_takeD (i:=5) (some 56) (v:=(.int .u32 zz)) (fun _=>trivial) (by kernel_rfl) rfl rfl (by kernel_rfl) (by kernel_rfl) (by kernel_rfl) (by kernel_rfl) (fun _ _ _ h=>by cases h.1) hC0 (Or.inl ⟨by kernel_rfl,fun w' hC=>by obtain⟨e1,e2,e3,e4,e5,e6,e7⟩:=LC.out w' hC;clear hC;go_simp⟩) ?_
    simp only [Act.put,ap1,ap2,ap3]
    clear LC
    refine wpAnyE_ready (rs:=[6]) (by kernel_rfl) (by simp) ?_
    refine AllE.cons rfl (fun Kk hK=>?_) AllE.nil
    go_simp
    refine⟨trivial,rfl,(callsIn_wide.2 (HB7.out _ hC0)).mono ?_⟩
    rintro e x1 ⟨rfl,hb1⟩
    dsimp only
    have hC1:=hC0.trans (hb1.mono hC0.size)
    refine hK _ _ (.inr hC1) ?_
    clear hK Kk
    refine wpAnyE_takeD (i:=7) (some 58) (v:=(.pointer (some ⟨p,2,none⟩))) (fun _=>trivial) (by kernel_rfl) rfl rfl (by kernel_rfl) (by kernel_rfl) (by kernel_rfl) (by kernel_rfl) (fun _ _ _ h=>by cases h.1) hC1 (Or.inl ⟨by kernel_rfl,fun w' hC=>by clear hC;go_simp⟩) ?_
    simp only [Act.put,ap1,ap2,ap3]
    have hs9:=(hC1.block _ (Array.getElem?_eq_some_iff.1 HKV.out).1).trans HKV.out
    obtain⟨v0,v1,v2,_,_,_⟩:=threeF hs9
    obtain⟨v3,v4,v5⟩:=threeC hs9
    refine wpAnyE_ready (rs:=[8]) (by kernel_rfl) (by simp) ?_
    refine AllE.cons rfl (fun Kk hK=>?_) AllE.nil
    go_simp
    refine hK _ _ (.inl rfl) ?_
    clear hK Kk
    refine wpAnyE_done (by kernel_rfl) ⟨rfl,?_⟩ _
    rw [then_normalLd]
    have hk9:=mgSet2 hs9 (.int .i64 R1)
    have HK9:=hide hk9
    have hXS:=(HXS.out.trans (hC1.mono HXS.out.size)).setCell (p:=⟨p,2,none⟩) HPB.out.2.1 (.int .i64 R1)
    have HXU:=hide (HBZ.out.trans (hXS.mono HBZ.out.size))
    have U3:=hide ((hXS.block _ (Array.getElem?_eq_some_iff.1 X3.out).1).trans X3.out)
    clear hC0 hC1 hs9 v0 v1 v2 v3 v4 v5 hb1
    generalize World.setCell x1 _ _=U at *
    have HXK:=hide hXS
    clear hXS hk9
    rcases bkN_sign fb zz with ⟨hz1,hz2,hz3,hz4⟩ | ⟨hz1,hz2,hz3,hz4,_⟩ <;> rw [HR1.out] at hz1 hz2 hz3
    ·have HZ4:=hide hz4
     clear hz4
     go_wp2_with fail
     have hmix:Tryz.prog.follows .mixedOrders=true:=by kernel_rfl
     have hC0:U.drew.heap[p]?=some (.cells #[.int .u8 2,.int .i64 R0,.int .i64 R1] 96 (0,0)):=HK9.out
     have LC:Hid (∀ w':World,w'.heap[p]?=some (.cells #[.int .u8 2,.int .i64 R0,.int .i64 R1] 96 (0,0))→w'.cell? ⟨p,0,none⟩=some (.int .u8 2)∧w'.cell? ⟨p,1,none⟩=some (.int .i64 R0)∧w'.cell? ⟨p,2,none⟩=some (.int .i64 R1)):=fun w' h=>threeC h
     refine (wpIn_wide (n:=0)).1 ?_
     refine wpIn_normal (wpIn_region_any hmix (wpAnyE_sound (C:=fun w'=>w'.heap[p]?=some (.cells #[.int .u8 2,.int .i64 R0,.int .i64 R1] 96 (0,0))) (E:=fun _=>false) _ _ _ _ ?_))
     change wpAnyE _ _ _ _ _ _ _ _ _ _ _ (World.drew _)
     refine wpAnyE_takeD (i:=0) (some 59) (v:=(.agg #[.int .u8 2,.int .i64 R0,.int .i64 R1])) (fun _=>trivial) (by kernel_rfl) rfl rfl (by kernel_rfl) (by kernel_rfl) (by kernel_rfl) (by kernel_rfl) (fun _ _ _ h=>by cases h.1) hC0 (Or.inl ⟨by kernel_rfl,fun w' hC=>by obtain⟨e1,e2,e3⟩:=LC.out w' hC;clear hC;go_simp⟩) ?_
     simp only [Act.put,ap1,ap2,ap3]
     refine wpAnyE_takeD (i:=1) (some 60) (v:=(.pointer (some ⟨p,2,none⟩))) (fun _=>trivial) (by kernel_rfl) rfl rfl (by kernel_rfl) (by kernel_rfl) (by kernel_rfl) (by kernel_rfl) (fun _ _ _ h=>by cases h.1) hC0 (Or.inl ⟨by kernel_rfl,fun w' hC=>by obtain⟨e1,e2,e3⟩:=LC.out w' hC;clear hC;go_simp⟩) ?_
     simp only [Act.put,ap1,ap2,ap3]
     refine wpAnyE_takeD (i:=2) (some 61) (v:=(.int .i64 R1)) (fun _=>trivial) (by kernel_rfl) rfl rfl (by kernel_rfl) (by kernel_rfl) (by kernel_rfl) (by kernel_rfl) (fun _ _ _ h=>by cases h.1) hC0 (Or.inl ⟨by kernel_rfl,fun w' hC=>by obtain⟨e1,e2,e3⟩:=LC.out w' hC;clear hC;go_simp⟩) ?_
     simp only [Act.put,ap1,ap2,ap3]
     refine wpAnyE_takeD (i:=3) (some 62) (v:=(.bool false)) (fun _=>trivial) (by kernel_rfl) rfl rfl (by kernel_rfl) (by kernel_rfl) (by kernel_rfl) (by kernel_rfl) (fun _ _ _ h=>by cases h.1) hC0 (Or.inl ⟨by kernel_rfl,fun w' hC=>by obtain⟨e1,e2,e3⟩:=LC.out w' hC;clear hC;go_simp⟩) ?_
     simp only [Act.put,ap1,ap2,ap3]
     clear LC
     have hpb:p≠B3:=by have:=HPB.out.2.2.1;omega
     obtain⟨f1,f2,f3,f4,f5,f6⟩:=threeF U3.out
     obtain⟨t0,t1,t2⟩:=threeC U3.out
     refine wpAnyE_ready (rs:=[4]) (by kernel_rfl) (by simp) ?_
     refine AllE.cons rfl (fun Kk hK=>?_) AllE.nil
     go_simp
     refine hK _ _ (.inr (mgOth3 HK9.out hpb _ _ _)) ?_
     clear hK Kk
     refine wpAnyE_ready (rs:=[5]) (by kernel_rfl) (by simp) ?_
     refine AllE.cons rfl (fun Kk hK=>?_) AllE.nil
     go_simp
     refine hK _ _ (.inr (mgOth3 HK9.out hpb _ _ _)) ?_
     clear hK Kk
     refine wpAnyE_done (by kernel_rfl) ⟨rfl,?_⟩ _
     rw [then_normalLd]
     go_wp2_with fail
     exact mgRet (B:=B3) rfl rfl rfl (mgLd U3.out _ _ _) ⟨⟨_,rfl,rmQ_bad HRR.out (by simp) HZ4.out _ _ _⟩,(set3 (lo:=0) HXU.out HL3.out _ _ _).drew⟩
    ·have HZ4:=hide hz4
     clear hz4
     go_wp2_with fail
     have hmix:Tryz.prog.follows .mixedOrders=true:=by kernel_rfl
     have hC0:U.drew.heap[p]?=some (.cells #[.int .u8 2,.int .i64 R0,.int .i64 R1] 96 (0,0)):=HK9.out
     have LC:Hid (∀ w':World,w'.heap[p]?=some (.cells #[.int .u8 2,.int .i64 R0,.int .i64 R1] 96 (0,0))→w'.cell? ⟨p,0,none⟩=some (.int .u8 2)∧w'.cell? ⟨p,1,none⟩=some (.int .i64 R0)∧w'.cell? ⟨p,2,none⟩=some (.int .i64 R1)):=fun w' h=>threeC h
     refine (wpIn_wide (n:=0)).1 ?_
     refine wpIn_normal (wpIn_region_any hmix (wpAnyE_sound (C:=fun w'=>w'.heap[p]?=some (.cells #[.int .u8 2,.int .i64 R0,.int .i64 R1] 96 (0,0))) (E:=fun _=>false) _ _ _ _ ?_))
     change wpAnyE _ _ _ _ _ _ _ _ _ _ _ (World.drew _)
     refine wpAnyE_takeD (i:=0) (some 59) (v:=(.agg #[.int .u8 2,.int .i64 R0,.int .i64 R1])) (fun _=>trivial) (by kernel_rfl) rfl rfl (by kernel_rfl) (by kernel_rfl) (by kernel_rfl) (by kernel_rfl) (fun _ _ _ h=>by cases h.1) hC0 (Or.inl ⟨by kernel_rfl,fun w' hC=>by obtain⟨e1,e2,e3⟩:=LC.out w' hC;clear hC;go_simp⟩) ?_
     simp only [Act.put,ap1,ap2,ap3]
     refine wpAnyE_takeD (i:=1) (some 60) (v:=(.pointer (some ⟨p,2,none⟩))) (fun _=>trivial) (by kernel_rfl) rfl rfl (by kernel_rfl) (by kernel_rfl) (by kernel_rfl) (by kernel_rfl) (fun _ _ _ h=>by cases h.1) hC0 (Or.inl ⟨by kernel_rfl,fun w' hC=>by obtain⟨e1,e2,e3⟩:=LC.out w' hC;clear hC;go_simp⟩) ?_
     simp only [Act.put,ap1,ap2,ap3]
     refine wpAnyE_takeD (i:=2) (some 61) (v:=(.int .i64 R1)) (fun _=>trivial) (by kernel_rfl) rfl rfl (by kernel_rfl) (by kernel_rfl) (by kernel_rfl) (by kernel_rfl) (fun _ _ _ h=>by cases h.1) hC0 (Or.inl ⟨by kernel_rfl,fun w' hC=>by obtain⟨e1,e2,e3⟩:=LC.out w' hC;clear hC;go_simp⟩) ?_
     simp only [Act.put,ap1,ap2,ap3]
     refine wpAnyE_takeD (i:=3) (some 62) (v:=(.bool true)) (fun _=>trivial) (by kernel_rfl) rfl rfl (by kernel_rfl) (by kernel_rfl) (by kernel_rfl) (by kernel_rfl) (fun _ _ _ h=>by cases h.1) hC0 (Or.inl ⟨by kernel_rfl,fun w' hC=>by obtain⟨e1,e2,e3⟩:=LC.out w' hC;clear hC;go_simp⟩) ?_
     simp only [Act.put,ap1,ap2,ap3]
     clear LC
     have hpb:p≠B3:=by have:=HPB.out.2.2.1;omega
     obtain⟨f1,f2,f3,f4,f5,f6⟩:=threeF U3.out
     obtain⟨t0,t1,t2⟩:=threeC U3.out
     refine wpAnyE_ready (rs:=[4]) (by kernel_rfl) (by simp) ?_
     refine AllE.cons rfl (fun Kk hK=>?_) AllE.nil
     go_simp
     refine hK _ _ (.inr (mgOth3 HK9.out hpb _ _ _)) ?_
     clear hK Kk
     refine wpAnyE_ready (rs:=[5]) (by kernel_rfl) (by simp) ?_
     refine AllE.cons rfl (fun Kk hK=>?_) AllE.nil
     go_simp
     refine hK _ _ (.inr (mgOth3 HK9.out hpb _ _ _)) ?_
     clear hK Kk
     refine wpAnyE_done (by kernel_rfl) ⟨rfl,?_⟩ _
     rw [then_normalLd]
     go_wp2_with fail
     refine mgRet (B:=B3) rfl rfl rfl (mgLd U3.out _ _ _) ⟨⟨_,rfl,?_⟩,(set3 (lo:=0) HXU.out HL3.out _ _ _).drew⟩
     rw [← HR0.out,← HR1.out]
     exact rmQ_two HRR.out HS3.out HZ4.out
 ·have h7:io=247:=by omega
  subst h7
  have hal:1≤ia.length:=HOP.out.2.2 rfl
  obtain⟨ab,ao,rfl,hab,x1,x2,x3⟩:=HAV.out 0 (by omega)
  rw [Nat.zero_mul,Nat.add_zero] at x2
  generalize hyy:(nthA ia 0).2.1=yy at *
  have HYY:=hide hyy
  have HAB:=hide hab
  have hn1:(0:Int)<(n1:Int):=by have:=HAL.out;omega
  clear hal hab x1 x3 hyy
  go_wp2_with fail
  generalize World.alloc Y _=Z at *
  have LC:Hid (∀ w':World,Below Z.heap.size Z w'→w'.cell? ⟨B1,0,none⟩=some (.int .u32 fi)∧w'.cell? ⟨B1,1,none⟩=some (.int .i64 fa)∧w'.cell? ⟨B1,2,none⟩=some (.slice xp fp.length cp)∧w'.cell? ⟨B1,3,none⟩=some (.slice xq fb.length cq)∧w'.cell? ⟨B1,4,none⟩=some (.int .i64 fe)∧w'.cell? ⟨Y.heap.size,3,none⟩=some (.slice (some ⟨ab,ao,none⟩) n1 c1)∧w'.cell? ⟨ab,ao+1,none⟩=some (.int .u32 yy)):=fun w' h=>by
   obtain⟨u0,u1,u2,u3,u4⟩:=fiveCells ((h.block _ (Array.getElem?_eq_some_iff.1 X1.out).1).trans X1.out)
   exact⟨u0,u1,u2,u3,u4,(one_block ((h.block _ (Array.getElem?_eq_some_iff.1 HY.out).1).trans HY.out)).1 3,(h.cell (p:=⟨ab,ao+1,none⟩) HAB.out).trans x2⟩
  obtain⟨R0,hR0⟩:∃ R0,bkN fb yy=R0:=⟨_,rfl⟩
  have HR0:=hide hR0
  have HB7:=hide fun wx (hx:Below Z.heap.size Z wx)=>HBK.out wx yy (HBZ.out.trans (hx.mono HBZ.out.size))
  rw [hR0] at HB7
  clear hR0
  have hC0:Below Z.heap.size Z Z.drew:=below_drew Z
  have hmix:Tryz.prog.follows .mixedOrders=true:=by kernel_rfl
  clear x2 
  refine (wpIn_wide (n:=0)).1 ?_
  refine wpIn_normal (wpIn_region_any hmix (wpAnyE_sound (C:=Below Z.heap.size Z) (E:=fun _=>false) _ _ _ _ ?_))
  change wpAnyE _ _ _ _ _ _ _ _ _ _ _ (World.drew _)
  refine wpAnyE_takeD (i:=0) (some 35) (v:=(.agg #[.int .u32 fi,.int .i64 fa,.slice xp fp.length cp,.slice xq fb.length cq,.int .i64 fe])) (fun _=>trivial) (by kernel_rfl) rfl rfl (by kernel_rfl) (by kernel_rfl) (by kernel_rfl) (by kernel_rfl) (fun _ _ _ h=>by cases h.1) hC0 (Or.inl ⟨by kernel_rfl,fun w' hC=>by obtain⟨e1,e2,e3,e4,e5,e6,e7⟩:=LC.out w' hC;clear hC;go_simp⟩) ?_
  simp only [Act.put,ap1,ap2,ap3]
  refine wpAnyE_takeD (i:=1) (some 36) (v:=(.pointer (some ⟨Y.heap.size,3,none⟩))) (fun _=>trivial) (by kernel_rfl) rfl rfl (by kernel_rfl) (by kernel_rfl) (by kernel_rfl) (by kernel_rfl) (fun _ _ _ h=>by cases h.1) hC0 (Or.inl ⟨by kernel_rfl,fun w' hC=>by obtain⟨e1,e2,e3,e4,e5,e6,e7⟩:=LC.out w' hC;clear hC;go_simp⟩) ?_
  simp only [Act.put,ap1,ap2,ap3]
  refine wpAnyE_takeD (i:=2) (some 37) (v:=(.slice (some ⟨ab,ao,none⟩) n1 c1)) (fun _=>trivial) (by kernel_rfl) rfl rfl (by kernel_rfl) (by kernel_rfl) (by kernel_rfl) (by kernel_rfl) (fun _ _ _ h=>by cases h.1) hC0 (Or.inl ⟨by kernel_rfl,fun w' hC=>by obtain⟨e1,e2,e3,e4,e5,e6,e7⟩:=LC.out w' hC;clear hC;go_simp⟩) ?_
  simp only [Act.put,ap1,ap2,ap3]
  refine wpAnyE_takeD (i:=3) (some 38) (v:=(.pointer (some ⟨ab,ao,none⟩))) (fun _=>trivial) (by kernel_rfl) rfl rfl (by kernel_rfl) (by kernel_rfl) (by kernel_rfl) (by kernel_rfl) (fun _ _ _ h=>by cases h.1) hC0 (Or.inl ⟨by kernel_rfl,fun w' hC=>by obtain⟨e1,e2,e3,e4,e5,e6,e7⟩:=LC.out w' hC;clear hC;go_simp;intro h0;omega⟩) ?_
  simp only [Act.put,ap1,ap2,ap3]
  refine wpAnyE_takeD (i:=4) (some 39) (v:=(.pointer (some ⟨ab,ao+1,none⟩))) (fun _=>trivial) (by kernel_rfl) rfl rfl (by kernel_rfl) (by kernel_rfl) (by kernel_rfl) (by kernel_rfl) (fun _ _ _ h=>by cases h.1) hC0 (Or.inl ⟨by kernel_rfl,fun w' hC=>by obtain⟨e1,e2,e3,e4,e5,e6,e7⟩:=LC.out w' hC;clear hC;go_simp⟩) ?_
  simp only [Act.put,ap1,ap2,ap3]
  refine wpAnyE_takeD (i:=5) (some 40) (v:=(.int .u32 yy)) (fun _=>trivial) (by kernel_rfl) rfl rfl (by kernel_rfl) (by kernel_rfl) (by kernel_rfl) (by kernel_rfl) (fun _ _ _ h=>by cases h.1) hC0 (Or.inl ⟨by kernel_rfl,fun w' hC=>by obtain⟨e1,e2,e3,e4,e5,e6,e7⟩:=LC.out w' hC;clear hC;go_simp⟩) ?_
  simp only [Act.put,ap1,ap2,ap3]
  clear LC
  obtain⟨H,hH⟩:∃ H:World→Nat→Prop,H=fun X p=>Below Z.heap.size Z X∧Z.heap.size≤p∧X.heap[p]?=some (.cells #[.int .u8 1,.int .i64 R0,.int .i64 (-1)] 96 (0,0)):=⟨_,rfl⟩
  apply keyed2 H ?h1 ?h2
  case h1 =>
   intro key
   refine wpAnyE_ready (rs:=[6,8]) (by kernel_rfl) (by simp) ?_
   refine AllE.cons rfl (fun Kk hK=>?_) (AllE.cons rfl (fun Kk hK=>?_) AllE.nil)
   ·go_simp
    refine⟨trivial,rfl,(callsIn_wide.2 (HB7.out _ hC0)).mono ?_⟩
    rintro e x1 ⟨rfl,hb1⟩
    dsimp only
    have hC1:=hC0.trans (hb1.mono hC0.size)
    refine hK _ _ (.inr hC1) ?_
    clear hK Kk
    refine wpAnyE_takeD (i:=7) (some 42) (v:=(.agg #[.int .u8 1,.int .i64 R0,.int .i64 (-1)])) (fun _=>trivial) (by kernel_rfl) rfl rfl (by kernel_rfl) (by kernel_rfl) (by kernel_rfl) (by kernel_rfl) (fun _ _ _ h=>by cases h.1) hC1 (Or.inl ⟨by kernel_rfl,fun w' hC=>by clear hC;go_simp⟩) ?_
    simp only [Act.put,ap1,ap2,ap3]
    refine wpAnyE_ready (rs:=[8]) (by kernel_rfl) (by simp) ?_
    refine AllE.cons rfl (fun Kk hK=>?_) AllE.nil
    go_simp
    refine hK _ _ (.inr (hC1.alloc hC1.size (.cells #[.int .u8 0,.int .i64 0,.int .i64 0] 96))) ?_
    clear hK Kk
    refine wpAnyE_ready (rs:=[9]) (by kernel_rfl) (by simp) ?_
    refine AllE.cons rfl (fun Kk hK=>?_) AllE.nil
    go_simp
    refine hK _ _ (.inr (hC1.alloc hC1.size (.cells #[.int .u8 1,.int .i64 R0,.int .i64 (-1)] 96))) ?_
    clear hK Kk
    refine wpAnyE_done (by kernel_rfl) ⟨rfl,?_⟩ _
    rw [then_normalLd]
    have hf:H (x1.alloc (.cells #[.int .u8 1,.int .i64 R0,.int .i64 (-1)] 96)) x1.heap.size:=by
     rw [hH]
     exact⟨hC1.alloc hC1.size _,hC1.size,allocNew _ _ rfl⟩
    generalize World.alloc x1 _=X at hf ⊢
    generalize x1.heap.size=p at hf ⊢
    exact key _ _ hf
   ·go_simp
    have hC2:=hC0.alloc hC0.size (.cells #[.int .u8 0,.int .i64 0,.int .i64 0] 96)
    refine hK _ _ (.inr hC2) ?_
    clear hK Kk
    have hk9:=allocNew Z (.cells #[.int .u8 0,.int .i64 0,.int .i64 0] 96) rfl
    refine wpAnyE_ready (rs:=[6]) (by kernel_rfl) (by simp) ?_
    refine AllE.cons rfl (fun Kk hK=>?_) AllE.nil
    go_simp
    refine⟨trivial,rfl,(callsIn_wide.2 (HB7.out _ hC2)).mono ?_⟩
    rintro e x1 ⟨rfl,hb1⟩
    dsimp only
    have hC3:=hC2.trans (hb1.mono hC2.size)
    refine hK _ _ (.inr hC3) ?_
    clear hK Kk
    have hs9:=(hb1.block _ (Array.getElem?_eq_some_iff.1 hk9).1).trans hk9
    obtain⟨v0,v1,v2,_,_,_⟩:=threeF hs9
    obtain⟨v3,v4,v5⟩:=threeC hs9
    refine wpAnyE_takeD (i:=7) (some 42) (v:=(.agg #[.int .u8 1,.int .i64 R0,.int .i64 (-1)])) (fun _=>trivial) (by kernel_rfl) rfl rfl (by kernel_rfl) (by kernel_rfl) (by kernel_rfl) (by kernel_rfl) (fun _ _ _ h=>by cases h.1) hC3 (Or.inl ⟨by kernel_rfl,fun w' hC=>by clear hC;go_simp⟩) ?_
    simp only [Act.put,ap1,ap2,ap3]
    refine wpAnyE_ready (rs:=[9]) (by kernel_rfl) (by simp) ?_
    refine AllE.cons rfl (fun Kk hK=>?_) AllE.nil
    go_simp
    have hC4:=set3 (lo:=0) hC3 (Nat.le_refl _) (.int .u8 1) (.int .i64 R0) (.int .i64 (-1))
    refine hK _ _ (.inr hC4) ?_
    clear hK Kk
    refine wpAnyE_done (by kernel_rfl) ⟨rfl,?_⟩ _
    rw [then_normalLd]
    have hf:H (((x1.setCell ⟨Z.heap.size,0,none⟩ (.int .u8 1)).setCell ⟨Z.heap.size,1,none⟩ (.int .i64 R0)).setCell ⟨Z.heap.size,2,none⟩ (.int .i64 (-1))) Z.heap.size:=by
     rw [hH]
     exact⟨hC4,Nat.le_refl _,mgLd hs9 _ _ _⟩
    generalize World.setCell (World.setCell (World.setCell x1 _ _) _ _) _ _=X at hf ⊢
    generalize Z.heap.size=p at hf ⊢
    exact key _ _ hf
  case h2 =>
   intro X p hf
   rw [hH] at hf
   obtain⟨hXB,hp,hk⟩:=hf
   clear hC0 hH H hmix
   have HXB:=hide hXB
   have HXW:=hide (HBZ.out.trans (hXB.mono HBZ.out.size))
   obtain⟨p1,p2,p3⟩:=threeC hk
   obtain⟨d1,d2,d3,d4,d5,d6⟩:=threeF hk
   have HK:=hide hk
   have Y3:=hide ((hXB.block _ (Array.getElem?_eq_some_iff.1 X3.out).1).trans X3.out)
   have Y4:=hide ((hXB.block _ (Array.getElem?_eq_some_iff.1 X4.out).1).trans X4.out)
   have YI:=hide ((hXB.block _ (Array.getElem?_eq_some_iff.1 HY.out).1).trans HY.out)
   have Y1:=hide ((hXB.block _ (Array.getElem?_eq_some_iff.1 X1.out).1).trans X1.out)
   have HPB:Hid (w.heap.size≤p∧Z.heap.size≤p∧B3<p∧B1<p):=by
    have h1:=(Array.getElem?_eq_some_iff.1 X3.out).1
    have h2:=(Array.getElem?_eq_some_iff.1 X1.out).1
    have h3:=(Array.getElem?_eq_some_iff.1 HY.out).1
    have h4:=HBZ.out.size
    exact⟨by omega,by omega,by omega,by omega⟩
   clear hp hk hXB
   obtain⟨f1,f2,f3,f4,f5,f6⟩:=threeF Y3.out
   obtain⟨t0,t1,t2⟩:=threeC Y3.out
   have hR0:(R0<0∧decide (R0<0)=true∧numG (numT fb fb.length) yy=0)∨(0≤R0∧decide (R0<0)=false∧¬ numG (numT fb fb.length) yy=0):=by
    rcases bkN_sign fb yy with ⟨h1,h2,h3,h4⟩ | ⟨h1,h2,h3,h4,_⟩ <;> rw [HR0.out] at h1 h2
    ·exact .inl ⟨h1,h2,h4⟩
    ·exact .inr ⟨h1,h2,h4⟩
   have HRR:Hid (ldR l bz=(if jo=251 then (3:Int) else 1,[yy])):=by show _=_;rw [HR.out];unfold mgOf;rw [if_neg (by decide),if_pos (by first | exact rfl | trivial),HYY.out];split <;> rfl
   rcases hR0 with ⟨hs1,hs2,hs3⟩ | ⟨hs1,hs2,hs3⟩
   ·obtain⟨e1,e2,e3⟩:=threeC Y4.out
    have HS3:=hide hs3
    clear hs3
    go_wp2_with fail
    exact mgRet (B:=B3) rfl rfl rfl (mgLd Y3.out _ _ _) ⟨⟨_,rfl,rmQ_bad HRR.out (by simp) HS3.out _ _ _⟩,set3 (lo:=0) HXW.out HL3.out _ _ _⟩
   ·have hs9:¬ R0<0:=by omega
    have i0:=(one_block YI.out).1 0
    have Y0:=hide ((HXB.out.block _ (Array.getElem?_eq_some_iff.1 X0.out).1).trans X0.out)
    have Y2:=hide ((HXB.out.block _ (Array.getElem?_eq_some_iff.1 X2.out).1).trans X2.out)
    obtain⟨_,_,b2⟩:=threeC Y2.out
    obtain⟨_,_,m2⟩:=threeC Y0.out
    have s1:=(HXB.out.cell (p:=⟨g1,o1+(m+1) * 4,none⟩) HGZ.out).trans HS1.out
    have HS3:=hide hs3
    by_cases hjo:jo=251
    ·subst hjo
     have HQ:Hid (ldR l bz=(3,[yy])):=HRR.out
     have hk2:=mgSet0 HK.out (.int .u8 3)
     obtain⟨p4,p5,p6⟩:=threeC hk2
     have W3:=mgOth (b:=p) (i:=0) Y3.out (by have:=HPB.out;omega) (.int .u8 3)
     have HW3:=hide W3
     obtain⟨f7,f8,f9,_,_,_⟩:=threeF W3
     obtain⟨t7,t8,t9⟩:=threeC W3
     clear hk2 W3 hs3
     go_wp2_with fail
     refine mgRet (B:=B3) rfl rfl rfl (mgLd HW3.out _ _ _) ⟨⟨_,rfl,?_⟩,set3 (lo:=0) (HXW.out.setCell HPB.out.1 _) HL3.out _ _ _⟩
     rw [← HR0.out]
     exact rmQ_one HQ.out HS3.out
    ·have hjb:(jo==251)=false:=by simpa using hjo
     have HQ:Hid (ldR l bz=(1,[yy])):=by show _=_;rw [HRR.out,if_neg hjo]
     clear hs3
     go_wp2_with fail
     refine mgRet (B:=B3) rfl rfl rfl (mgLd Y3.out _ _ _) ⟨⟨_,rfl,?_⟩,set3 (lo:=0) HXW.out HL3.out _ _ _⟩
     rw [← HR0.out]
     exact rmQ_one HQ.out HS3.out
theorem whole_at {b:Int} {l:List InstT} (h:(layE b l).1=0):∀ d,cntP l 8 l.length+d≤l.length→Whole l (cntP l 8 l.length) (cntP l 8 l.length+d):=by
 obtain⟨hok,hmo,hah⟩:=layE_closed h
 have hK:=cntP_le l 8 l.length
 have hlow:∀ i,i<cntP l 8 l.length→partI (nthI l i)<8:=fun i hi=>(cnt_low hok hi).2
 have start:Whole l (cntP l 8 l.length) (cntP l 8 l.length):=by
  refine .inl ⟨?_,rfl,cutTo_front hlow⟩
  unfold aheadO
  rw [if_neg (fun e=>by have:=hlow (cntP l 8 l.length - 1) (by omega);omega)]
 intro d
 induction d with
 | zero=>intro _;exact start
 | succ d ih =>
  intro hd
  have h1:=ih (by omega)
  have h8:partI (nthI l (cntP l 8 l.length+d))=8:=by
   have:=cnt_high (p:=8) hok (show cntP l 8 l.length≤cntP l 8 l.length+d by omega) (by omega)
   have:=partI_eight (nthI l (cntP l 8 l.length+d))
   omega
  have hmay:=hok (cntP l 8 l.length+d) (by omega)
  have hmo2:modelsN l (cntP l 8 l.length+d)≠0:=fun e=>by rw [mayL_noModel (by omega) e] at hmay;cases hmay
  rw [mayL_eight h8 (fun i _=>(partI_eight _).2) hmo2] at hmay
  exact h1.step h8 hmay
theorem whole_here {b:Int} {l:List InstT} (h:(layE b l).1=0) {k:Nat} (hk:k<l.length) (h8:partI (nthI l k)=8):Whole l (cntP l 8 l.length) k∧mayF (nthI l k).1 (aheadO l k) (firstB l (k - 1))=true:=by
 obtain⟨hok,hmo,hah⟩:=layE_closed h
 have hK:cntP l 8 l.length≤k:=by
  rcases Nat.lt_or_ge k (cntP l 8 l.length) with e | e
  ·have:=(cnt_low hok e).2;omega
  ·exact e
 have hW:=whole_at h (k - cntP l 8 l.length) (by omega)
 rw [show cntP l 8 l.length+(k - cntP l 8 l.length)=k by omega] at hW
 refine⟨hW,?_⟩
 have hmay:=hok k hk
 have hmo2:modelsN l k≠0:=fun e=>by rw [mayL_noModel (by omega) e] at hmay;cases hmay
 rw [mayL_eight h8 (fun i _=>(partI_eight _).2) hmo2] at hmay
 exact hmay
theorem cut_open {b:Int} {l:List InstT} (h:(layE b l).1=0) {k:Nat} (hk:k<l.length) (ho:(nthI l k).1=55∨(nthI l k).1=56∨(nthI l k).1=248∨endsB (nthI l k).1=true) :
  ∃ fs f,cutTo l k=fs++[f]∧(endsB (nthI l k).1=true→∃ bs b',f.2.2.2.1=bs++[b']):=by
 obtain⟨hW,hm⟩:=whole_here h hk (part_of_function (.inr ho))
 have third:(aheadO l k=54∨aheadO l k=55∨endsB (aheadO l k)=true∨(aheadO l k≠0∧aheadO l k≠56))→(endsB (nthI l k).1=true→aheadO l k≠0∧aheadO l k≠54∧aheadO l k≠55∧aheadO l k≠56∧endsB (aheadO l k)=false)→∃ fs f,cutTo l k=fs++[f]∧(endsB (nthI l k).1=true→∃ bs b',f.2.2.2.1=bs++[b']):=by
  intro ha he
  rcases hW with ⟨h1,_⟩ | ⟨h1,_⟩ | ⟨fs,f,s,c1,c2,c3,c4,h1⟩
  ·rw [h1] at ha;simp [endsB] at ha
  ·rw [h1] at ha;simp [endsB] at ha
  ·refine⟨fs,f,c1,fun e=>?_⟩
   have h2:=he e
   rcases h1 with ⟨h3,_⟩ | ⟨h3,_⟩ | ⟨_,bs,b',q,d1,_⟩
   ·rcases h3 with h3 | h3
    ·exact absurd h3 h2.2.1
    ·exact absurd h3 h2.2.2.1
   ·rw [h2.2.2.2.2] at h3;cases h3
   ·exact⟨bs,b',d1⟩
 rcases ho with ho | ho | ho | ho
 ·rw [ho] at hm
  have:aheadO l k=54∨aheadO l k=55:=by unfold mayF at hm;simpa using hm
  exact third (this.elim .inl fun e=>.inr (.inl e)) (fun e=>by rw [ho] at e;cases e)
 ·rw [ho] at hm
  have:endsB (aheadO l k)=true:=by unfold mayF at hm;simpa using hm
  exact third (.inr (.inr (.inl this))) (fun e=>by rw [ho] at e;cases e)
 ·rw [ho] at hm
  have:aheadO l k=54∨aheadO l k=55∨endsB (aheadO l k)=true:=by unfold mayF at hm;simpa [or_assoc] using hm
  exact third (this.elim .inl fun e=>.inr (e.elim .inl fun e=>.inr (.inl e))) (fun e=>by rw [ho] at e;cases e)
 ·have hr:=endsB_iff.1 ho
  have hno:¬ (aheadO l k==0 || aheadO l k==54 || aheadO l k==55 || aheadO l k==56 || endsB (aheadO l k))=true:=by
   intro e
   unfold mayF at hm
   rw [if_neg (by omega),if_neg (by omega),if_neg (by omega),if_neg (by omega),if_pos e] at hm
   cases hm
  simp only [Bool.or_eq_true,beq_iff_eq,not_or,Bool.not_eq_true] at hno
  exact third (.inr (.inr (.inr ⟨hno.1.1.1.1,hno.1.2⟩))) (fun _=>⟨hno.1.1.1.1,hno.1.1.1.2,hno.1.1.2,hno.1.2,hno.2⟩)
theorem cut_54 {l:List InstT} {k:Nat} (h:(nthI l k).1=54):cutTo l (k+1)=cutTo l k++[((nthI l k).2.2.1,(k:Int),[],[],0)]:=by rw [cutTo];unfold stepC;rw [if_pos h]
theorem cut_55 {l:List InstT} {k:Nat} {fs:List FuncT} {f:FuncT} (h:(nthI l k).1=55) (hc:cutTo l k=fs++[f]):cutTo l (k+1)=fs++[withParam k f]:=by rw [cutTo];unfold stepC;rw [if_neg (by omega),if_pos h,hc,onLast_snoc]
theorem cut_56 {l:List InstT} {k:Nat} {fs:List FuncT} {f:FuncT} (h:(nthI l k).1=56) (hc:cutTo l k=fs++[f]):cutTo l (k+1)=fs++[withEnd k f]:=by rw [cutTo];unfold stepC;rw [if_neg (by omega),if_neg (by omega),if_pos h,hc,onLast_snoc]
theorem cut_248 {l:List InstT} {k:Nat} {fs:List FuncT} {f:FuncT} (h:(nthI l k).1=248) (hc:cutTo l k=fs++[f]):cutTo l (k+1)=fs++[withBlock (nthI l k).2.2.1 k f]:=by rw [cutTo];unfold stepC;rw [if_neg (by omega),if_neg (by omega),if_neg (by omega),if_pos h,hc,onLast_snoc]
theorem cut_end {l:List InstT} {k:Nat} {fs:List FuncT} {f:FuncT} (h:endsB (nthI l k).1=true) (hc:cutTo l k=fs++[f]):cutTo l (k+1)=fs++[withTo ((k+1:Nat):Int) f]:=by
 have hr:=endsB_iff.1 h
 rw [cutTo];unfold stepC;rw [if_neg (by omega),if_neg (by omega),if_neg (by omega),if_neg (by omega),h,if_pos rfl,hc,onLast_snoc]
theorem cut_none {l:List InstT} {k:Nat} (h1:(nthI l k).1≠54) (h2:(nthI l k).1≠55) (h3:(nthI l k).1≠56) (h4:(nthI l k).1≠248) (h5:endsB (nthI l k).1=false):cutTo l (k+1)=cutTo l k:=by rw [cutTo,stepC_other h1 h2 h3 h4 h5]
end Go.Proofs.YtlcaedibmlidlaaGreat
