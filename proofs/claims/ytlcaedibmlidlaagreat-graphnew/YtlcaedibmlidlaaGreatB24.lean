/-
  Texts in one: IdsCheck, LayoutCut, MathOw, LayoutOwner0, LayoutOwner, MathLd, MathRn, Law14Among, MathBl.
-/
import Derived.Test.YtlcaedibmlidlaaGreatB23
import Derived.Maps.OwnOps
namespace Go.Proofs.YtlcaedibmlidlaaGreat
open Go.RowKit
set_option linter.unusedVariables false
set_option linter.unusedSimpArgs false
set_option maxRecDepth 10000
theorem lookU_run {w:World} (t:TypeId) (E:TypeId) (q:IntKind) (ht:Tryz.prog.underlying t=some (.map 22 E)) (he:Tryz.prog.underlying E=some (.int q)) (hz:(zeroValue E).run Tryz.prog w=.ok (.int q 0) w) (b n:Nat) (f:Int→Option Int) (h:MapU w E q b n f) (key:Int) (k0:0≤key) (k1:key<4294967296) :
  (Instr.lookup t (.map (some b)) (.int .u32 key) false).run Tryz.prog w=.ok (.int q ((f key).getD 0)) w:=by
 obtain⟨D,h1,h2,h3⟩:=h
 obtain⟨c,hrun,hat,hwc⟩:=h1.lookup_int keyU ht he hz (keyU_of k0 k1)
 rw [h3] at hat
 simp only [DataW.lit.injEq,Lit.int.injEq,true_and] at hat
 rw [hrun,hat]
def SpotB (W:World) (B:Nat) (e p:Int):Prop:=W.heap[B]?=some (.cells #[.int .i64 e,.int .i64 p] 33 (0,0))
theorem SpotB.put {W:World} {B:Nat} {e p:Int} (h:SpotB W B e p) (e' p':Int):SpotB ((W.setCell ⟨B,0,none⟩ (.int .i64 e')).setCell ⟨B,1,none⟩ (.int .i64 p')) B e' p':=setCells_all (w:=W) [.int .i64 e',.int .i64 p'] h rfl
theorem KeepB.two {B:Nat} (w:World) (u v:Value):KeepB B w ((w.setCell ⟨B,0,none⟩ u).setCell ⟨B,1,none⟩ v):=(KeepB.set w 0 u).trans (KeepB.set _ 1 v)
set_option maxHeartbeats 8000000 in
theorem firstFault_any (a:Option Addr) (n c:Nat) (l:List InstT) (w:World) (hv:InstsV w a l) (hok:InstsOk l) (hl:l.length=n) (hn:n≤1048576) (hto:okTo l n) :
  Calls Tryz.prog 81 #[.slice a n c,.agg #[.int .i64 ((cntP l 7 n:Nat):Int),.int .i64 ((cntP l 8 n:Nat):Int)]] w fun e w'=>e=.returned (.agg #[.int .i64 (idsF l n 0).1,.int .i64 ((idsF l n 0).2:Int)])∧Below w.heap.size w w':=by
 obtain⟨L,hL⟩:∃ L,L=idsF l n 0:=⟨_,rfl⟩
 rw [← hL]
 have HLL:=hide hL
 have hb0:Below w.heap.size w ((w.alloc (.cells #[.int .i64 ((cntP l 7 n:Nat):Int),.int .i64 ((cntP l 8 n:Nat):Int)] 82)).alloc (.cells #[.int .i64 0,.int .i64 0] 33)):=((Below.refl _ w).alloc (Nat.le_refl _) _).alloc (by simp) _
 have hMk:=makersOf_any a n c l _ (hv.below hb0) hok hl (by omega)
 have HSB:Hid (((w.alloc (.cells #[.int .i64 ((cntP l 7 n:Nat):Int),.int .i64 ((cntP l 8 n:Nat):Int)] 82)).alloc (.cells #[.int .i64 0,.int .i64 0] 33)).heap[w.heap.size]?=some (.cells #[.int .i64 ((cntP l 7 n:Nat):Int),.int .i64 ((cntP l 8 n:Nat):Int)] 82 (0,0))):=by
  show _=_
  rw [Below.heap_alloc _ _ _ (by simp)];exact heap_alloc_new w _
 have HRB:Hid (((w.alloc (.cells #[.int .i64 ((cntP l 7 n:Nat):Int),.int .i64 ((cntP l 8 n:Nat):Int)] 82)).alloc (.cells #[.int .i64 0,.int .i64 0] 33)).heap[w.heap.size+1]?=some (.cells #[.int .i64 0,.int .i64 0] 33 (0,0))):=by
  have:=heap_alloc_new (w.alloc (.cells #[.int .i64 ((cntP l 7 n:Nat):Int),.int .i64 ((cntP l 8 n:Nat):Int)] 82)) (.cells #[.int .i64 0,.int .i64 0] 33)
  rw [World.size_alloc] at this
  exact this
 have HLT:Hid (w.heap.size+1<((w.alloc (.cells #[.int .i64 ((cntP l 7 n:Nat):Int),.int .i64 ((cntP l 8 n:Nat):Int)] 82)).alloc (.cells #[.int .i64 0,.int .i64 0] 33)).heap.size):=by show _<_;simp
 have HB0:=hide hb0
 have HV:=hide hv
 have HOK:=hide hok
 have HL:=hide hl
 have HTO:=hide hto
 have HTT:=hide Tryz.underlying184
 have HTE:=hide Tryz.underlying3
 have HC78:Hid (∀ k,k<n→((decide (((cntP l 7 n:Nat):Int)≤(k:Int)) && decide ((k:Int)<((cntP l 8 n:Nat):Int)))=decide (partI (nthI l k)=7))):=fun k hk=>by
  have h7:=span_part (p:=7) hto hk
  have h8:=span_part (p:=8) hto hk
  rw [Bool.eq_iff_iff]
  simp only [Bool.and_eq_true,decide_eq_true_eq]
  constructor
  ·rintro⟨q1,q2⟩
   have:=h7.1 (by omega)
   rcases Int.lt_or_le (partI (nthI l k)) 8 with q | q
   ·omega
   ·have:=h8.2 (by omega);omega
  ·intro q
   refine⟨by have:=h7.2 (by omega);omega,?_⟩
   rcases Nat.lt_or_ge k (cntP l 8 n) with q2 | q2
   ·omega
   ·have:=h8.1 q2;omega
 have HRET:Hid (∀ (a':Act) (Z:World),slot a'.tmps 4=.pointer (some ⟨w.heap.size+1,0,none⟩)→a'.defers=[]→SpotB Z (w.heap.size+1) L.1 (L.2:Int)→Below w.heap.size w Z→bodyPost Tryz.prog Tryz.f81 (fun e w'=>e=.returned (.agg #[.int .i64 L.1,.int .i64 (L.2:Int)])∧Below w.heap.size w w') .ret a' Z):=by
  intro a' Z q2 q3 q4 q5
  have r6:=run_loadVar_mid (P:=Tryz.prog) Z (w.heap.size+1) 0 33 [.int .i64 L.1,.int .i64 (L.2:Int)] _ (range_of_block q4) Tryz.underlying33 rfl (by kernel_rfl)
  refine bodyPost_ret (v:=.agg #[.int .i64 L.1,.int .i64 (L.2:Int)]) ?_ q3 ⟨rfl,q5⟩
  have hG2:a'.tmps.getD 4 undef=.pointer (some ⟨w.heap.size+1,0,none⟩):=q2
  simp only [results,Tryz.results81,List.mapM_toArray,List.mapM_cons,List.mapM_nil,hG2,asAddr,Sem.run_bind,Sem.run_pure,Result.andThen_ok,bind_assoc,pure_bind,Sem.run_map,map_pure,r6]
  rfl
 generalize ((cntP l 7 n:Nat):Int)=c7 at *
 generalize ((cntP l 8 n:Nat):Int)=c8 at *
 clear hb0 hv hok hl hto hL
 go_enter Tryz.func81,Tryz.ntmps81
 go_wp2_with fail
 go_step3
 go_wp2_with fail
 generalize (w.alloc (.cells #[.int .i64 c7,.int .i64 c8] 82)).alloc (.cells #[.int .i64 0,.int .i64 0] 33)=W0 at *
 refine hMk.mono ?_
 rintro e w1 ⟨mb,rfl,hmb,hMU,hb1⟩
 have hba1:Below w1.heap.size w1 (w1.alloc (.cells #[.int .i64 0,.int .i64 0] 33)):=(Below.refl _ w1).alloc (Nat.le_refl _) _
 have HM1:=hide (hMU.below hba1)
 have HB1:=hide (hb1.trans (hba1.mono hb1.size))
 have HWB:Hid (SpotB (w1.alloc (.cells #[.int .i64 0,.int .i64 0] 33)) w1.heap.size 0 0):=heap_alloc_new w1 _
 have HS1:Hid (W0.heap.size≤w1.heap.size):=hb1.size
 have HSX:Hid (w1.heap.size<(w1.alloc (.cells #[.int .i64 0,.int .i64 0] 33)).heap.size):=by show _<_;simp
 have HMBS:Hid (mb<w1.heap.size):=hMU.lt
 clear hMk hMU hb1 hba1
 go_wp2_with fail
 go_step3
 go_wp2_with fail
 generalize w1.alloc (.cells #[.int .i64 0,.int .i64 0] 33)=W1 at *
 generalize w1.heap.size=S at *
 have hlt0:=HLT.out
 have hs1:=HS1.out
 have hsx:=HSX.out
 have HBW1:=hide (HB0.out.trans (HB1.out.mono HB0.out.size))
 -- the end, with what the box says
 have HEND:Hid (∀ (Z:World) (x y:Int),KeepB S W1 Z→L=(x,y.toNat)→0≤y→SpotB ((Z.setCell ⟨w.heap.size+1,0,none⟩ (.int .i64 x)).setCell ⟨w.heap.size+1,1,none⟩ (.int .i64 y)) (w.heap.size+1) L.1 (L.2:Int)∧Below w.heap.size w ((Z.setCell ⟨w.heap.size+1,0,none⟩ (.int .i64 x)).setCell ⟨w.heap.size+1,1,none⟩ (.int .i64 y))):=fun Z x y hZ hLx hy=>by
  have k1:SpotB Z (w.heap.size+1) 0 0:=(hZ.block _ (by have:=HB1.out.size;omega) (by omega)).trans ((HB1.out.block _ hlt0).trans HRB.out)
  refine⟨?_,below_grown (KeepB.low HBW1.out (show w.heap.size≤S by omega) hZ) (setCells_grown (w.heap.size+1) [.int .i64 x,.int .i64 y] 0 Z) (fun g e=>by simp at e;omega)⟩
  have:=k1.put x y
  rw [hLx]
  simp only [Int.toNat_of_nonneg hy]
  exact this
 go_loopw [17] (fun i wr=>∃ k:Nat,k≤n∧i=.int .i64 k∧(∀ i,i<k→faultAt l i=0)∧Below W1.heap.size W1 wr) (fun i _=>n - (intOf i).toNat)
 case atStart=>exact⟨0,Nat.zero_le _,rfl,fun i hi=>by omega,Below.refl _ _⟩
 case round =>
  obtain⟨k,hk,rfl,hgood,hbr⟩:=hrel
  rename World=>wo
  have HGOOD:=hide hgood
  have HBO:=hide hbr
  have hwS:SpotB wo S 0 0:=(hbr.block S hsx).trans HWB.out
  have hSo:S<wo.heap.size:=Nat.lt_of_lt_of_le hsx hbr.size
  have hwo:w.heap.size+1<wo.heap.size:=by have:=HB1.out.size;have:=hbr.size;omega
  obtain⟨cs0,fs0⟩:=one_block hwS
  have t0:=cs0 0
  have t1:=cs0 1
  have r1k:SpotB wo (w.heap.size+1) 0 0:=(hbr.block _ (by have:=HB1.out.size;omega)).trans ((HB1.out.block _ hlt0).trans HRB.out)
  obtain⟨cr0,fr0⟩:=one_block r1k
  have u0:=cr0 0
  have u1:=cr0 1
  clear cs0 cr0 hgood
  by_cases hlt:k<n
  ·have hk0:(0:Int)≤(k:Int):=by omega
   have hki:(k:Int)<(n:Int):=by omega
   have hbw:Below w.heap.size w wo:=HBW1.out.trans (hbr.mono HBW1.out.size)
   obtain⟨g1,o1,ai,ci,na,ha,hg1,p1,p2,p3,p4,p5,p6,p7⟩:=HV.out.below hbw k (by rw [HL.out];exact hlt)
   have hbd:Below wo.heap.size wo (wo.alloc (.cells #[.int .u16 (nthI l k).1,.int .u32 (nthI l k).2.1,.int .u32 (nthI l k).2.2.1,.slice ai na ci] 63)):=(Below.refl _ wo).alloc (Nat.le_refl _) _
   have hIds:=codeIds_any (nthI l k) ai na ci _ (p6.below hbd) p5 (by have:=(HOK.out k (by rw [HL.out];exact hlt)).2.2.2.2.2.2.2;rw [p5] at this;exact this)
   unfold instV at hIds
   have HBD:=hide hbd
   have HNA:Hid ((nthI l k).2.2.2.length=na):=p5
   have hna:24 * na≤140737488351232:=by have:=(HOK.out k (by rw [HL.out];exact hlt)).2.2.2.2.2.2.2;rw [p5] at this;exact this
   have HSW2:Hid ((wo.alloc (.cells #[.int .u16 (nthI l k).1,.int .u32 (nthI l k).2.1,.int .u32 (nthI l k).2.2.1,.slice ai na ci] 63)).heap.size=wo.heap.size+1):=by show _=_;simp
   have hrr:0≤(nthI l k).2.2.1∧(nthI l k).2.2.1<4294967296:=by have:=(HOK.out k (by rw [HL.out];exact hlt));exact⟨this.2.2.2.2.1,this.2.2.2.2.2.1⟩
   have hLk:=lookU_run 184 3 .i64 HTT.out HTE.out (zeroI64 _) mb n (makT l n) ((HM1.out.below HBO.out).below hbd) (nthI l k).2.2.1 hrr.1 hrr.2
   have HMS:Hid (mb<S):=HMBS.out
   have hmS:=HMS.out
   subst ha
   clear hbr hbd hbw p5 p6 p7 hrr
   by_cases hz:(nthI l k).2.2.1=0
   ·have hzb:((nthI l k).2.2.1 != 0)=false:=by simp [hz]
    have HNF:Hid ((makT l k (nthI l k).2.2.1).isSome=false):=by show _=_;rw [hz,makT_zero];rfl
    clear hLk hz
    go_wp2_with fail
    refine hIds.mono ?_
    rintro e w3 ⟨hb3,az,m,cz,rfl,hm3,hown3⟩
    have hVz:=View.ofOwn hown3 hm3
    have HZ1:Hid (∀ g off,az=some ⟨g,off,none⟩→S<g):=fun g off e=>by
     subst e
     have:=(hown3.lt g rfl).1
     rw [HSW2.out] at this
     omega
    have HVZ:=hide hVz
    have HM3:=hide hm3
    have HB3:=hide (HBD.out.trans (hb3.mono HBD.out.size))
    have hmn:m≤1+na:=by
     have h1:(idsI (nthI l k)).length≤1+(nthI l k).2.2.2.length:=by have:=idsTo_len (nthI l k).2.1 (nthI l k).2.2.2 (nthI l k).2.2.2.length;unfold idsI;omega
     have h2:=HNA.out
     omega
    have HS3:Hid (SpotB w3 S 0 0):=(HB3.out.block S hSo).trans hwS
    have hs3:wo.heap.size≤w3.heap.size:=HB3.out.size
    have HBOX:Hid (w3.heap[w.heap.size]?=some (.cells #[.int .i64 c7,.int .i64 c8] 82 (0,0))):=(HB3.out.block _ (by omega)).trans ((HBO.out.block _ (by have:=HB1.out.size;omega)).trans ((HB1.out.block _ (by omega)).trans HSB.out))
    have HRES3:Hid (SpotB w3 (w.heap.size+1) 0 0):=(HB3.out.block _ (by omega)).trans r1k
    have HMU3:=hide ((HM1.out.below HBO.out).below HB3.out)
    clear hIds hb3 hown3 hVz hm3 p1 p2 p3 p4 hzb
    generalize hzs:idsI (nthI l k)=zs at *
    have HZS:=hide hzs
    have HRNG:Hid (∀ j,j<m→0≤nth zs j∧nth zs j<4294967296):=fun j hj=>by
     have hjl:j<zs.length:=by rw [HM3.out];exact hj
     refine idsA_range (HOK.out k (by rw [HL.out];exact hlt)) (nth zs j) ?_
     rw [HZS.out]
     simp only [nth,List.getD,List.getElem?_eq_getElem hjl]
     exact List.getElem_mem hjl
    clear hzs
    go_wp2_with fail
    go_loopw [38] (fun i wz=>∃ j:Nat,j≤m∧i=.int .i64 j∧allMade l n (zs.take j)=true∧KeepB S w3 wz∧SpotB wz S (if aheadJ l k j=true then 92 else 0) (if aheadJ l k j=true then (k:Int) else 0)) (fun i _=>m - (intOf i).toNat)
    case atStart=>exact⟨0,Nat.zero_le _,rfl,by simp [allMade],KeepB.refl _ _,by rw [show aheadJ l k 0=false by unfold aheadJ allMade;simp];exact HS3.out⟩
    case round =>
     obtain⟨j,hj,rfl,hall,hkp,hsp⟩:=hrel
     have HALL:=hide hall
     have HKP:=hide hkp
     have HSPT:=hide hsp
     have hSr:S<wr.heap.size:=Nat.lt_of_lt_of_le (by omega) hkp.size
     have hwr1:w.heap.size+1<wr.heap.size:=by have:=hkp.size;omega
     have hne1:w.heap.size+1≠S:=by omega
     have HKW:Hid (KeepB S W1 wr):=((KeepB.of_below HBO.out).trans (.of_below HB3.out)).trans hkp
     have hres:SpotB wr (w.heap.size+1) 0 0:=(hkp.block _ (by omega) (by omega)).trans HRES3.out
     obtain⟨cr0,fr0⟩:=one_block hres
     have u0:=cr0 0
     have u1:=cr0 1
     obtain⟨cq0,fq0⟩:=one_block hsp
     have q0:=cq0 0
     have q1:=cq0 1
     clear cr0 cq0 hres hall
     by_cases hjm:j<m
     ·have hj0:(0:Int)≤(j:Int):=by omega
      have hji:(j:Int)<(m:Int):=by omega
      obtain⟨gz,oz,rfl,hgz,hcz⟩:=HVZ.out j (by rw [HM3.out];exact hjm)
      have hgS:=HZ1.out gz oz rfl
      have hcz':wr.cell? ⟨gz,oz+j,none⟩=some (.int .u32 (nth zs j)):=(World.cell?_of_block (a:=⟨gz,oz+j,none⟩) (hkp.block gz hgz (by omega))).trans hcz
      have hgr:gz<wr.heap.size:=Nat.lt_of_lt_of_le hgz hkp.size
      have hMr:Hid (MapU wr 3 .i64 mb n (makT l n)):=HMU3.out.block (hkp.block mb (by omega) (by omega))
      obtain⟨hr0,hr1⟩:=HRNG.out j hjm
      obtain⟨cb,_⟩:=one_block ((hkp.block w.heap.size (by omega) (by omega)).trans HBOX.out)
      have b0:=cb 0
      have b1:=cb 1
      have HAN:Hid (aheadJ l k (j+1)=(decide (partI (nthI l k)=7) && !(allMade l k (zs.take j) && (makT l k (nth zs j)).isSome))):=by
       show _=_
       unfold aheadJ
       rw [HZS.out,allMade_snoc l k zs j (by rw [HM3.out];exact hjm)]
      have HAJ:Hid (aheadJ l k j=(decide (partI (nthI l k)=7) && !allMade l k (zs.take j))):=by show _=_;unfold aheadJ;rw [HZS.out]
      have HALLN:Hid (allMade l n (zs.take (j+1))=(allMade l n (zs.take j) && (makT l n (nth zs j)).isSome)):=allMade_snoc l n zs j (by rw [HM3.out];exact hjm)
      clear hkp hsp cb hcz hgz
      cases hmt:makT l n (nth zs j) with
      | none =>
       have HLE:Hid (L=(91,((k:Int)).toNat)):=by
        have hf:faultAt l k=91:=fault_unknown HNF.out (j:=j) (by rw [HZS.out,HM3.out];exact hjm) (by rw [HZS.out,HL.out,hmt];rfl)
        show _=_
        rw [HLL.out,← HL.out,idsF_at (by rw [HL.out];exact hlt) HGOOD.out (by rw [hf];decide),hf,Int.toNat_natCast]
       have HK5:=hide (HKW.out.trans (KeepB.two wr (.int .i64 91) (.int .i64 k)))
       go_wp2_with (at_lookup;refine wpList_lookU_ok rfl _ _ 184 rfl 3 .i64 HTT.out HTE.out (zeroI64 _) mb n (makT l n) rfl hMr.out (nth zs j) rfl hr0 hr1 ?_;rw [hmt,Option.getD_none,Option.isSome_none])
       obtain⟨f1,f2⟩:=HEND.out ((wr.setCell ⟨S,0,none⟩ (.int .i64 91)).setCell ⟨S,1,none⟩ (.int .i64 k)) 91 k HK5.out HLE.out hk0
       exact HRET.out _ _ rfl rfl f1 f2
      | some p =>
       have hisk:=makT_ahead (l:=l) (k:=k) (show k≤n by omega) hmt
       have HALL2:Hid (allMade l n (zs.take (j+1))=true):=by show _=_;rw [HALLN.out,HALL.out,hmt];rfl
       have hC78:=HC78.out k hlt
       by_cases hkp2:(k:Int)≤p
       ·have hd1:decide ((k:Int)≤p)=true:=by simpa using hkp2
        have hno:(makT l k (nth zs j)).isSome=false:=by rw [hisk];simp;omega
        by_cases h7:partI (nthI l k)=7
        ·rw [show decide (partI (nthI l k)=7)=true by simpa using h7,Bool.and_eq_true] at hC78
         obtain⟨hc7,hc8⟩:=hC78
         have HA1:Hid (aheadJ l k (j+1)=true):=by show _=_;rw [HAN.out,hno];simp [h7]
         have HSP2:=hide (HSPT.out.put 92 k)
         have HK2:=hide (HKP.out.trans (KeepB.two wr (.int .i64 92) (.int .i64 k)))
         generalize (if aheadJ l k j=true then (92:Int) else 0)=x0 at *
         generalize (if aheadJ l k j=true then (k:Int) else 0)=x1 at *
         clear hkp2 hno h7 hisk
         go_wp2_with (at_lookup;refine wpList_lookU_ok rfl _ _ 184 rfl 3 .i64 HTT.out HTE.out (zeroI64 _) mb n (makT l n) rfl hMr.out (nth zs j) rfl hr0 hr1 ?_;rw [hmt,Option.getD_some,Option.isSome_some])
         go_roundw
         case rel=>exact⟨j+1,by omega,by go_num,HALL2.out,HK2.out,by rw [HA1.out];exact HSP2.out⟩
         case measure=>simp [intOf];omega
        ·rw [show decide (partI (nthI l k)=7)=false by simpa using h7] at hC78
         have HA1:Hid (aheadJ l k (j+1)=aheadJ l k j):=by show _=_;rw [HAN.out,HAJ.out];simp [h7]
         have HSP2:Hid (SpotB wr S (if aheadJ l k (j+1)=true then 92 else 0) (if aheadJ l k (j+1)=true then (k:Int) else 0)):=by show SpotB _ _ _ _;rw [HA1.out];exact HSPT.out
         generalize (if aheadJ l k j=true then (92:Int) else 0)=x0 at *
         generalize (if aheadJ l k j=true then (k:Int) else 0)=x1 at *
         clear hkp2 hno h7 hisk
         cases hc7:decide (c7≤(k:Int)) with
         | true =>
          rw [hc7,Bool.true_and] at hC78
          go_wp2_with (at_lookup;refine wpList_lookU_ok rfl _ _ 184 rfl 3 .i64 HTT.out HTE.out (zeroI64 _) mb n (makT l n) rfl hMr.out (nth zs j) rfl hr0 hr1 ?_;rw [hmt,Option.getD_some,Option.isSome_some])
          go_roundw
          case rel=>exact⟨j+1,by omega,by go_num,HALL2.out,HKP.out,HSP2.out⟩
          case measure=>simp [intOf];omega
         | false =>
          clear hC78
          go_wp2_with (at_lookup;refine wpList_lookU_ok rfl _ _ 184 rfl 3 .i64 HTT.out HTE.out (zeroI64 _) mb n (makT l n) rfl hMr.out (nth zs j) rfl hr0 hr1 ?_;rw [hmt,Option.getD_some,Option.isSome_some])
          go_roundw
          case rel=>exact⟨j+1,by omega,by go_num,HALL2.out,HKP.out,HSP2.out⟩
          case measure=>simp [intOf];omega
       ·have hd1:decide ((k:Int)≤p)=false:=by simpa using hkp2
        have hyes:(makT l k (nth zs j)).isSome=true:=by rw [hisk];simp;omega
        have HA1:Hid (aheadJ l k (j+1)=aheadJ l k j):=by show _=_;rw [HAN.out,HAJ.out,hyes,Bool.and_true]
        have HSP2:Hid (SpotB wr S (if aheadJ l k (j+1)=true then 92 else 0) (if aheadJ l k (j+1)=true then (k:Int) else 0)):=by show SpotB _ _ _ _;rw [HA1.out];exact HSPT.out
        generalize (if aheadJ l k j=true then (92:Int) else 0)=x0 at *
        generalize (if aheadJ l k j=true then (k:Int) else 0)=x1 at *
        clear hkp2 hyes hisk hC78
        go_wp2_with (at_lookup;refine wpList_lookU_ok rfl _ _ 184 rfl 3 .i64 HTT.out HTE.out (zeroI64 _) mb n (makT l n) rfl hMr.out (nth zs j) rfl hr0 hr1 ?_;rw [hmt,Option.getD_some,Option.isSome_some])
        go_roundw
        case rel=>exact⟨j+1,by omega,by go_num,HALL2.out,HKP.out,HSP2.out⟩
        case measure=>simp [intOf];omega
     ·obtain rfl:j=m:=by omega
      have hfe:faultAt l k=if aheadJ l k j=true then 92 else 0:=by
       have:=faultAt_end (l:=l) (k:=k) HNF.out (by rw [HZS.out,HM3.out,HL.out];exact HALL.out)
       rw [HZS.out,HM3.out] at this
       exact this
      cases haj:aheadJ l k j with
      | true =>
       rw [haj,if_pos rfl] at hfe
       have hsp2:SpotB wr S 92 (k:Int):=by have h:=hsp;rw [haj] at h;exact h
       clear q0 q1 fq0
       obtain⟨cq0,fq0⟩:=one_block hsp2
       have q0:=cq0 0
       have q1:=cq0 1
       clear cq0 hsp2
       have HLE:Hid (L=(92,((k:Int)).toNat)):=by
        show _=_
        rw [HLL.out,← HL.out,idsF_at (by rw [HL.out];exact hlt) HGOOD.out (by rw [hfe];decide),hfe,Int.toNat_natCast]
       obtain⟨f1,f2⟩:=HEND.out wr 92 k HKW.out HLE.out hk0
       have F1:=hide f1
       have F2:=hide f2
       clear f1 f2 hkp hsp haj hfe
       go_wp2_with fail
       exact HRET.out _ _ rfl rfl F1.out F2.out
      | false =>
       rw [haj] at hfe hsp
       have hsp0:SpotB wr S 0 0:=hsp
       clear q0 q1 fq0
       obtain⟨cq0,fq0⟩:=one_block hsp0
       have q0:=cq0 0
       have q1:=cq0 1
       clear cq0
       have HG2:Hid (∀ i,i<k+1→faultAt l i=0):=fun i hi=>by
        by_cases e:i=k
        ·rw [e];exact hfe
        ·exact HGOOD.out i (by omega)
       have HBW:Hid (Below W1.heap.size W1 wr):=by
        have h:=HKW.out
        refine⟨h.os,h.tape,h.output,h.size,fun i hi=>?_⟩
        by_cases e:i=S
        ·subst e;exact hsp0.trans HWB.out.symm
        ·exact h.block i hi e
       clear hkp hsp haj hfe hsp0
       go_wp2_with fail
       go_roundw
       case rel=>exact⟨k+1,by omega,by go_num,HG2.out,HBW.out⟩
       case measure=>simp [intOf];omega
   ·have hzb:((nthI l k).2.2.1 != 0)=true:=by simpa using hz
    obtain⟨p,hp⟩:=makT_own (l:=l) (by rw [HL.out];exact hlt) hz
    rw [HL.out] at hp
    have his:=makT_ahead (l:=l) (k:=k) (show k≤n by omega) hp
    rw [hp,Option.getD_some] at hLk
    by_cases hpk:p<(k:Int)
    ·have hd:decide (p<(k:Int))=true:=by simpa using hpk
     have HLE:Hid (L=(90,((k:Int)).toNat)):=by
      have hf:faultAt l k=90:=fault_first (by rw [his];exact hd)
      show _=_
      rw [HLL.out,← HL.out,idsF_at (by rw [HL.out];exact hlt) HGOOD.out (by rw [hf];decide),hf,Int.toNat_natCast]
     have hwS2:SpotB (wo.alloc (.cells #[.int .u16 (nthI l k).1,.int .u32 (nthI l k).2.1,.int .u32 (nthI l k).2.2.1,.slice ai na ci] 63)) S 0 0:=(HBD.out.block S hSo).trans hwS
     clear hp his hpk hz hIds
     go_wp2_with fail
     obtain⟨f1,f2⟩:=HEND.out ((wo.setCell ⟨S,0,none⟩ (.int .i64 90)).setCell ⟨S,1,none⟩ (.int .i64 k)) 90 k ((KeepB.of_below HBO.out).trans (KeepB.two wo (.int .i64 90) (.int .i64 k))) HLE.out hk0
     refine HRET.out _ _ rfl rfl ((Below.heap_alloc _ _ _ ?_).trans f1) (f2.alloc f2.size _)
     simp only [World.size_setCell]
     omega
    ·have hd:decide (p<(k:Int))=false:=by simpa using hpk
     have HNF:Hid ((makT l k (nthI l k).2.2.1).isSome=false):=by show _=_;rw [his];exact hd
     clear hp his hpk hz
     go_wp2_with fail
     refine hIds.mono ?_
     rintro e w3 ⟨hb3,az,m,cz,rfl,hm3,hown3⟩
     have hVz:=View.ofOwn hown3 hm3
     have HZ1:Hid (∀ g off,az=some ⟨g,off,none⟩→S<g):=fun g off e=>by
      subst e
      have:=(hown3.lt g rfl).1
      rw [HSW2.out] at this
      omega
     have HVZ:=hide hVz
     have HM3:=hide hm3
     have HB3:=hide (HBD.out.trans (hb3.mono HBD.out.size))
     have hmn:m≤1+na:=by
      have h1:(idsI (nthI l k)).length≤1+(nthI l k).2.2.2.length:=by have:=idsTo_len (nthI l k).2.1 (nthI l k).2.2.2 (nthI l k).2.2.2.length;unfold idsI;omega
      have h2:=HNA.out
      omega
     have HS3:Hid (SpotB w3 S 0 0):=(HB3.out.block S hSo).trans hwS
     have hs3:wo.heap.size≤w3.heap.size:=HB3.out.size
     have HBOX:Hid (w3.heap[w.heap.size]?=some (.cells #[.int .i64 c7,.int .i64 c8] 82 (0,0))):=(HB3.out.block _ (by omega)).trans ((HBO.out.block _ (by have:=HB1.out.size;omega)).trans ((HB1.out.block _ (by omega)).trans HSB.out))
     have HRES3:Hid (SpotB w3 (w.heap.size+1) 0 0):=(HB3.out.block _ (by omega)).trans r1k
     have HMU3:=hide ((HM1.out.below HBO.out).below HB3.out)
     clear hIds hb3 hown3 hVz hm3 p1 p2 p3 p4 hzb hLk hd
     generalize hzs:idsI (nthI l k)=zs at *
     have HZS:=hide hzs
     have HRNG:Hid (∀ j,j<m→0≤nth zs j∧nth zs j<4294967296):=fun j hj=>by
      have hjl:j<zs.length:=by rw [HM3.out];exact hj
      refine idsA_range (HOK.out k (by rw [HL.out];exact hlt)) (nth zs j) ?_
      rw [HZS.out]
      simp only [nth,List.getD,List.getElem?_eq_getElem hjl]
      exact List.getElem_mem hjl
     clear hzs
     go_wp2_with fail
     go_loopw [38] (fun i wz=>∃ j:Nat,j≤m∧i=.int .i64 j∧allMade l n (zs.take j)=true∧KeepB S w3 wz∧SpotB wz S (if aheadJ l k j=true then 92 else 0) (if aheadJ l k j=true then (k:Int) else 0)) (fun i _=>m - (intOf i).toNat)
     case atStart=>exact⟨0,Nat.zero_le _,rfl,by simp [allMade],KeepB.refl _ _,by rw [show aheadJ l k 0=false by unfold aheadJ allMade;simp];exact HS3.out⟩
     case round =>
      obtain⟨j,hj,rfl,hall,hkp,hsp⟩:=hrel
      have HALL:=hide hall
      have HKP:=hide hkp
      have HSPT:=hide hsp
      have hSr:S<wr.heap.size:=Nat.lt_of_lt_of_le (by omega) hkp.size
      have hwr1:w.heap.size+1<wr.heap.size:=by have:=hkp.size;omega
      have hne1:w.heap.size+1≠S:=by omega
      have HKW:Hid (KeepB S W1 wr):=((KeepB.of_below HBO.out).trans (.of_below HB3.out)).trans hkp
      have hres:SpotB wr (w.heap.size+1) 0 0:=(hkp.block _ (by omega) (by omega)).trans HRES3.out
      obtain⟨cr0,fr0⟩:=one_block hres
      have u0:=cr0 0
      have u1:=cr0 1
      obtain⟨cq0,fq0⟩:=one_block hsp
      have q0:=cq0 0
      have q1:=cq0 1
      clear cr0 cq0 hres hall
      by_cases hjm:j<m
      ·have hj0:(0:Int)≤(j:Int):=by omega
       have hji:(j:Int)<(m:Int):=by omega
       obtain⟨gz,oz,rfl,hgz,hcz⟩:=HVZ.out j (by rw [HM3.out];exact hjm)
       have hgS:=HZ1.out gz oz rfl
       have hcz':wr.cell? ⟨gz,oz+j,none⟩=some (.int .u32 (nth zs j)):=(World.cell?_of_block (a:=⟨gz,oz+j,none⟩) (hkp.block gz hgz (by omega))).trans hcz
       have hgr:gz<wr.heap.size:=Nat.lt_of_lt_of_le hgz hkp.size
       have hMr:Hid (MapU wr 3 .i64 mb n (makT l n)):=HMU3.out.block (hkp.block mb (by omega) (by omega))
       obtain⟨hr0,hr1⟩:=HRNG.out j hjm
       obtain⟨cb,_⟩:=one_block ((hkp.block w.heap.size (by omega) (by omega)).trans HBOX.out)
       have b0:=cb 0
       have b1:=cb 1
       have HAN:Hid (aheadJ l k (j+1)=(decide (partI (nthI l k)=7) && !(allMade l k (zs.take j) && (makT l k (nth zs j)).isSome))):=by
        show _=_
        unfold aheadJ
        rw [HZS.out,allMade_snoc l k zs j (by rw [HM3.out];exact hjm)]
       have HAJ:Hid (aheadJ l k j=(decide (partI (nthI l k)=7) && !allMade l k (zs.take j))):=by show _=_;unfold aheadJ;rw [HZS.out]
       have HALLN:Hid (allMade l n (zs.take (j+1))=(allMade l n (zs.take j) && (makT l n (nth zs j)).isSome)):=allMade_snoc l n zs j (by rw [HM3.out];exact hjm)
       clear hkp hsp cb hcz hgz
       cases hmt:makT l n (nth zs j) with
       | none =>
        have HLE:Hid (L=(91,((k:Int)).toNat)):=by
         have hf:faultAt l k=91:=fault_unknown HNF.out (j:=j) (by rw [HZS.out,HM3.out];exact hjm) (by rw [HZS.out,HL.out,hmt];rfl)
         show _=_
         rw [HLL.out,← HL.out,idsF_at (by rw [HL.out];exact hlt) HGOOD.out (by rw [hf];decide),hf,Int.toNat_natCast]
        have HK5:=hide (HKW.out.trans (KeepB.two wr (.int .i64 91) (.int .i64 k)))
        go_wp2_with (at_lookup;refine wpList_lookU_ok rfl _ _ 184 rfl 3 .i64 HTT.out HTE.out (zeroI64 _) mb n (makT l n) rfl hMr.out (nth zs j) rfl hr0 hr1 ?_;rw [hmt,Option.getD_none,Option.isSome_none])
        obtain⟨f1,f2⟩:=HEND.out ((wr.setCell ⟨S,0,none⟩ (.int .i64 91)).setCell ⟨S,1,none⟩ (.int .i64 k)) 91 k HK5.out HLE.out hk0
        exact HRET.out _ _ rfl rfl f1 f2
       | some p =>
        have hisk:=makT_ahead (l:=l) (k:=k) (show k≤n by omega) hmt
        have HALL2:Hid (allMade l n (zs.take (j+1))=true):=by show _=_;rw [HALLN.out,HALL.out,hmt];rfl
        have hC78:=HC78.out k hlt
        by_cases hkp2:(k:Int)≤p
        ·have hd1:decide ((k:Int)≤p)=true:=by simpa using hkp2
         have hno:(makT l k (nth zs j)).isSome=false:=by rw [hisk];simp;omega
         by_cases h7:partI (nthI l k)=7
         ·rw [show decide (partI (nthI l k)=7)=true by simpa using h7,Bool.and_eq_true] at hC78
          obtain⟨hc7,hc8⟩:=hC78
          have HA1:Hid (aheadJ l k (j+1)=true):=by show _=_;rw [HAN.out,hno];simp [h7]
          have HSP2:=hide (HSPT.out.put 92 k)
          have HK2:=hide (HKP.out.trans (KeepB.two wr (.int .i64 92) (.int .i64 k)))
          generalize (if aheadJ l k j=true then (92:Int) else 0)=x0 at *
          generalize (if aheadJ l k j=true then (k:Int) else 0)=x1 at *
          clear hkp2 hno h7 hisk
          go_wp2_with (at_lookup;refine wpList_lookU_ok rfl _ _ 184 rfl 3 .i64 HTT.out HTE.out (zeroI64 _) mb n (makT l n) rfl hMr.out (nth zs j) rfl hr0 hr1 ?_;rw [hmt,Option.getD_some,Option.isSome_some])
          go_roundw
          case rel=>exact⟨j+1,by omega,by go_num,HALL2.out,HK2.out,by rw [HA1.out];exact HSP2.out⟩
          case measure=>simp [intOf];omega
         ·rw [show decide (partI (nthI l k)=7)=false by simpa using h7] at hC78
          have HA1:Hid (aheadJ l k (j+1)=aheadJ l k j):=by show _=_;rw [HAN.out,HAJ.out];simp [h7]
          have HSP2:Hid (SpotB wr S (if aheadJ l k (j+1)=true then 92 else 0) (if aheadJ l k (j+1)=true then (k:Int) else 0)):=by show SpotB _ _ _ _;rw [HA1.out];exact HSPT.out
          generalize (if aheadJ l k j=true then (92:Int) else 0)=x0 at *
          generalize (if aheadJ l k j=true then (k:Int) else 0)=x1 at *
          clear hkp2 hno h7 hisk
          cases hc7:decide (c7≤(k:Int)) with
          | true =>
           rw [hc7,Bool.true_and] at hC78
           go_wp2_with (at_lookup;refine wpList_lookU_ok rfl _ _ 184 rfl 3 .i64 HTT.out HTE.out (zeroI64 _) mb n (makT l n) rfl hMr.out (nth zs j) rfl hr0 hr1 ?_;rw [hmt,Option.getD_some,Option.isSome_some])
           go_roundw
           case rel=>exact⟨j+1,by omega,by go_num,HALL2.out,HKP.out,HSP2.out⟩
           case measure=>simp [intOf];omega
          | false =>
           clear hC78
           go_wp2_with (at_lookup;refine wpList_lookU_ok rfl _ _ 184 rfl 3 .i64 HTT.out HTE.out (zeroI64 _) mb n (makT l n) rfl hMr.out (nth zs j) rfl hr0 hr1 ?_;rw [hmt,Option.getD_some,Option.isSome_some])
           go_roundw
           case rel=>exact⟨j+1,by omega,by go_num,HALL2.out,HKP.out,HSP2.out⟩
           case measure=>simp [intOf];omega
        ·have hd1:decide ((k:Int)≤p)=false:=by simpa using hkp2
         have hyes:(makT l k (nth zs j)).isSome=true:=by rw [hisk];simp;omega
         have HA1:Hid (aheadJ l k (j+1)=aheadJ l k j):=by show _=_;rw [HAN.out,HAJ.out,hyes,Bool.and_true]
         have HSP2:Hid (SpotB wr S (if aheadJ l k (j+1)=true then 92 else 0) (if aheadJ l k (j+1)=true then (k:Int) else 0)):=by show SpotB _ _ _ _;rw [HA1.out];exact HSPT.out
         generalize (if aheadJ l k j=true then (92:Int) else 0)=x0 at *
         generalize (if aheadJ l k j=true then (k:Int) else 0)=x1 at *
         clear hkp2 hyes hisk hC78
         go_wp2_with (at_lookup;refine wpList_lookU_ok rfl _ _ 184 rfl 3 .i64 HTT.out HTE.out (zeroI64 _) mb n (makT l n) rfl hMr.out (nth zs j) rfl hr0 hr1 ?_;rw [hmt,Option.getD_some,Option.isSome_some])
         go_roundw
         case rel=>exact⟨j+1,by omega,by go_num,HALL2.out,HKP.out,HSP2.out⟩
         case measure=>simp [intOf];omega
      ·obtain rfl:j=m:=by omega
       have hfe:faultAt l k=if aheadJ l k j=true then 92 else 0:=by
        have:=faultAt_end (l:=l) (k:=k) HNF.out (by rw [HZS.out,HM3.out,HL.out];exact HALL.out)
        rw [HZS.out,HM3.out] at this
        exact this
       cases haj:aheadJ l k j with
       | true =>
        rw [haj,if_pos rfl] at hfe
        have hsp2:SpotB wr S 92 (k:Int):=by have h:=hsp;rw [haj] at h;exact h
        clear q0 q1 fq0
        obtain⟨cq0,fq0⟩:=one_block hsp2
        have q0:=cq0 0
        have q1:=cq0 1
        clear cq0 hsp2
        have HLE:Hid (L=(92,((k:Int)).toNat)):=by
         show _=_
         rw [HLL.out,← HL.out,idsF_at (by rw [HL.out];exact hlt) HGOOD.out (by rw [hfe];decide),hfe,Int.toNat_natCast]
        obtain⟨f1,f2⟩:=HEND.out wr 92 k HKW.out HLE.out hk0
        have F1:=hide f1
        have F2:=hide f2
        clear f1 f2 hkp hsp haj hfe
        go_wp2_with fail
        exact HRET.out _ _ rfl rfl F1.out F2.out
       | false =>
        rw [haj] at hfe hsp
        have hsp0:SpotB wr S 0 0:=hsp
        clear q0 q1 fq0
        obtain⟨cq0,fq0⟩:=one_block hsp0
        have q0:=cq0 0
        have q1:=cq0 1
        clear cq0
        have HG2:Hid (∀ i,i<k+1→faultAt l i=0):=fun i hi=>by
         by_cases e:i=k
         ·rw [e];exact hfe
         ·exact HGOOD.out i (by omega)
        have HBW:Hid (Below W1.heap.size W1 wr):=by
         have h:=HKW.out
         refine⟨h.os,h.tape,h.output,h.size,fun i hi=>?_⟩
         by_cases e:i=S
         ·subst e;exact hsp0.trans HWB.out.symm
         ·exact h.block i hi e
        clear hkp hsp haj hfe hsp0
        go_wp2_with fail
        go_roundw
        case rel=>exact⟨k+1,by omega,by go_num,HG2.out,HBW.out⟩
        case measure=>simp [intOf];omega
  ·obtain rfl:k=n:=by omega
   have hLZ:L=(0,(0:Int).toNat):=by
    rw [HLL.out,← HL.out]
    exact idsF_done (fun i hi=>HGOOD.out i (by rw [← HL.out];exact hi))
   obtain⟨f1,f2⟩:=HEND.out wo 0 0 (.of_below hbr) hLZ (Int.le_refl _)
   have F1:=hide f1
   have F2:=hide f2
   clear f1 f2 hbr hwS r1k hLZ
   go_wp2_with fail
   exact HRET.out _ _ rfl rfl F1.out F2.out
def CutQ (w w':World) (b:Int) (l:List InstT) (e:Ending):Prop :=
 ∃ fv:Value,e=.returned (.tuple #[fv,.agg #[.int .i64 (layE b l).1,.int .i64 ((layE b l).2:Int)]])∧Below w.heap.size w w'∧((layE b l).1≠0∧fv=.slice none 0 0∨(layE b l).1=0∧FuncsAt w' w.heap.size fv (cutTo l l.length))
set_option maxHeartbeats 8000000 in
theorem layCut_any (gen bnd:Int) (a:Option Addr) (n c:Nat) (l:List InstT) (w:World) (hv:InstsV w a l) (hok:InstsOk l) (hl:l.length=n) (hn:40 * n≤140737488351232) (g0:0≤gen) (g1:gen<4294967296) (b0:0≤bnd) (b1:bnd<4294967296) :
  Calls Tryz.prog 12 #[modV gen bnd a n c] w fun e w'=>CutQ w w' bnd l e:=by
 have hb0:Below w.heap.size w ((w.alloc (.cells #[.int .u32 gen,.int .u32 bnd,.slice a n c] 25)).alloc (.cells #[.int .i64 0,.int .i64 0] 33)):=((Below.refl _ w).alloc (Nat.le_refl _) _).alloc (by simp) _
 have hC:=walkOver_any gen bnd a n c l _ (hv.below hb0) hok hl hn g0 g1 b0 b1
 have HSB:Hid (((w.alloc (.cells #[.int .u32 gen,.int .u32 bnd,.slice a n c] 25)).alloc (.cells #[.int .i64 0,.int .i64 0] 33)).heap[w.heap.size+1]?=some (.cells #[.int .i64 0,.int .i64 0] 33 (0,0))):=by
  have:=heap_alloc_new (w.alloc (.cells #[.int .u32 gen,.int .u32 bnd,.slice a n c] 25)) (.cells #[.int .i64 0,.int .i64 0] 33)
  rw [World.size_alloc] at this
  exact this
 have HLT:Hid (w.heap.size+1<((w.alloc (.cells #[.int .u32 gen,.int .u32 bnd,.slice a n c] 25)).alloc (.cells #[.int .i64 0,.int .i64 0] 33)).heap.size):=by show _<_;simp
 have HB0:=hide hb0
 unfold WalkQ at hC
 unfold CutQ
 generalize layE bnd l=L at *
 obtain⟨e1,e2⟩:=L
 unfold modV at *
 clear hb0 hv hok hl
 go_enter Tryz.func12,Tryz.ntmps12
 go_wp2_with fail
 generalize (w.alloc (.cells #[.int .u32 gen,.int .u32 bnd,.slice a n c] 25)).alloc (.cells #[.int .i64 0,.int .i64 0] 33)=W0 at *
 refine hC.mono ?_
 rintro e w1 ⟨ins,fv,ps,k,pt,kd,rfl,hb1,hone,hfs⟩
 have HFS:=hide hfs
 have HB1:=hide hb1
 clear hC hfs
 unfold walkV
 obtain⟨k1,k2,k3,k4,k5,k6⟩:=kept_walk w W0 w1 HB0.out hb1 ins fv ps k pt kd 0 0
 have HK1:=hide k1
 have HK2:=hide k2
 have HK3:=hide k3
 have HK4:=hide k4
 have HK5:=hide k5
 have HK6:=hide k6
 have hw1:W0.heap.size≤w1.heap.size:=hb1.size
 clear k1 k2 k3 k4 k5 k6 hb1
 simp only
 go_wp2_with (with_reducible refine stopS 86 ?_)
 refine wpList_store_mid rfl 86 (.tmp 4) (.tmp 9) rfl w1.heap.size 0 #[ins,.int .i64 (ps 0),.int .i64 (ps 1),.int .i64 (ps 2),.int .i64 (ps 3),.int .i64 (ps 4),.int .i64 (ps 5),.int .i64 (ps 6),.int .i64 (ps 7),.int .i64 (ps 8),.int .i64 (ps 9),.int .i64 (ps 10),.int .i64 (ps 11),.int .i64 (ps 12),.int .i64 (ps 13),.int .i64 (ps 14),.int .i64 (ps 15),.int .i64 (ps 16),.int .i64 (ps 17),.int .i64 (ps 18),.int .i64 (ps 19),fv,.int .i64 k,.int .u8 pt,.int .u16 kd] rfl rfl HK1.out (by kernel_rfl) (by simp [hone.1,hone.2];simp [Value.oneCell']) ?_
 simp only [Act.put]
 generalize ((w1.alloc (.cells #[.slice none 0 0,.int .i64 0,.int .i64 0,.int .i64 0,.int .i64 0,.int .i64 0,.int .i64 0,.int .i64 0,.int .i64 0,.int .i64 0,.int .i64 0,.int .i64 0,.int .i64 0,.int .i64 0,.int .i64 0,.int .i64 0,.int .i64 0,.int .i64 0,.int .i64 0,.int .i64 0,.int .i64 0,.slice none 0 0,.int .i64 0,.int .u8 0,.int .u16 0] 86)).alloc (.cells #[.int .i64 0,.int .i64 0] 33)).setCells w1.heap.size 0 [ins,.int .i64 (ps 0),.int .i64 (ps 1),.int .i64 (ps 2),.int .i64 (ps 3),.int .i64 (ps 4),.int .i64 (ps 5),.int .i64 (ps 6),.int .i64 (ps 7),.int .i64 (ps 8),.int .i64 (ps 9),.int .i64 (ps 10),.int .i64 (ps 11),.int .i64 (ps 12),.int .i64 (ps 13),.int .i64 (ps 14),.int .i64 (ps 15),.int .i64 (ps 16),.int .i64 (ps 17),.int .i64 (ps 18),.int .i64 (ps 19),fv,.int .i64 k,.int .u8 pt,.int .u16 kd]=X at *
 have hl0:=HLT.out
 have hlx:=HK5.out
 have ht3:=there_of_block HK3.out 2 rfl
 refine wpList_store_mid rfl 33 (.tmp 5) (.tmp 10) rfl (w1.heap.size+1) 0 #[.int .i64 e1,.int .i64 (e2:Nat)] rfl rfl ht3 (by kernel_rfl) (by simp [Value.oneCell']) ?_
 simp only [Act.put]
 have hgx:=setCells_grown (w1.heap.size+1) [.int .i64 e1,.int .i64 (e2:Nat)] 0 X
 have y21:=(one_block ((hgx.block _ (by omega) (by simp)).trans HK2.out)).1 21
 obtain⟨cs,_⟩:=one_block (setCells_all [.int .i64 e1,.int .i64 (e2:Nat)] HK3.out rfl)
 have s0:=cs 0
 have s1:=cs 1
 have HY3:=hide (below_grown HK4.out hgx (fun g e=>by simp at e;omega))
 have HY4:Hid (w1.heap.size+1<(X.setCells (w1.heap.size+1) 0 [.int .i64 e1,.int .i64 (e2:Nat)]).heap.size):=Nat.lt_of_lt_of_le hlx hgx.size
 have HG:Hid (w1.grownBy (X.setCells (w1.heap.size+1) 0 [.int .i64 e1,.int .i64 (e2:Nat)]) none):=⟨hgx.os.trans HK6.out.os,hgx.tape.trans HK6.out.tape,hgx.output.trans HK6.out.output,Nat.le_trans HK6.out.size hgx.size,fun i hi hn=>(hgx.block i (by omega) (by simp;omega)).trans (HK6.out.block i hi hn)⟩
 clear hgx ht3 HK1 HK2 HK3 HK4 HK5 HK6 hlx hone cs
 generalize X.setCells (w1.heap.size+1) 0 [.int .i64 e1,.int .i64 (e2:Nat)]=Y at *
 go_wp2_with fail
 have kr:=(HY3.out.block (w.heap.size+1) hl0).trans HSB.out
 obtain⟨cr,fr⟩:=one_block kr
 have r0:=cr 0
 have r1:=cr 1
 have hly:=HY4.out
 have ne1:w1.heap.size+1≠w.heap.size+1:=by omega
 have ne2:w1.heap.size≠w.heap.size+1:=by omega
 have hg2:=setCells_grown (w.heap.size+1) [.int .i64 e1,.int .i64 (e2:Nat)] 0 Y
 have HP2:=hide (setCells_all (w:=Y) [.int .i64 e1,.int .i64 (e2:Nat)] kr rfl)
 have HBF:=hide (below_grown (HB0.out.trans (HY3.out.mono HB0.out.size)) hg2 (fun g e=>by simp at e;omega))
 have HFN:Hid (e1≠0∧fv=.slice none 0 0∨e1=0∧FuncsAt (Y.setCells (w.heap.size+1) 0 [.int .i64 e1,.int .i64 (e2:Nat)]).drew w.heap.size fv (cutTo l l.length)):=by
  rcases HFS.out with ⟨h1,h2,_⟩ | ⟨h1,_,h3⟩
  ·exact .inl ⟨h1,h2⟩
  ·refine .inr ⟨h1,?_⟩
   have h4:=h3.kept HG.out (fun g e=>by cases e)
   exact ((h4.kept hg2 (fun g e=>by simp at e;omega)).below ((Below.refl _ _).drew)).lower HB0.out.size
 clear kr cr hg2
 go_region
 show Exit.then _ _ _ _ (Y.setCells (w.heap.size+1) 0 [.int .i64 e1,.int .i64 (e2:Nat)]).drew
 have HP3:Hid ((Y.setCells (w.heap.size+1) 0 [.int .i64 e1,.int .i64 (e2:Nat)]).drew.heap[w.heap.size+1]?=some (.cells #[.int .i64 e1,.int .i64 (e2:Nat)] 33 (0,0))):=HP2.out
 have HB3:Hid (Below w.heap.size w (Y.setCells (w.heap.size+1) 0 [.int .i64 e1,.int .i64 (e2:Nat)]).drew):=HBF.out.drew
 clear y21 s0 s1 r0 r1 fr HP2 HBF HY3 HY4 HG
 generalize (Y.setCells (w.heap.size+1) 0 [.int .i64 e1,.int .i64 (e2:Nat)]).drew=Z at *
 rw [then_normalW]
 go_wp2_with fail
 have r6:=run_loadVar_mid (P:=Tryz.prog) Z (w.heap.size+1) 0 33 [.int .i64 e1,.int .i64 (e2:Nat)] _ (range_of_block HP3.out) Tryz.underlying33 rfl (by kernel_rfl)
 refine bodyPost_ret (v:=.tuple #[fv,.agg #[.int .i64 e1,.int .i64 (e2:Nat)]]) ?_ rfl ⟨fv,rfl,HB3.out,HFN.out⟩
 simp only [results,Tryz.results12,List.mapM_toArray,List.mapM_cons,List.mapM_nil,asAddr,Sem.run_bind,Sem.run_pure,Result.andThen_ok,bind_assoc,pure_bind,Sem.run_map,map_pure,Array.getD_eq_getD_getElem?,List.getElem?_toArray,List.getElem?_cons_succ,List.getElem?_cons_zero,Option.getD_some,r6]
 rfl


theorem few_cut {b:Int} {l:List InstT} (h:(layE b l).1=0):FewF (cutTo l l.length):=by
 have h20:=(shape_few (layE_ok h).2.1).1
 have hsm:=cutTo_small l l.length
 refine⟨by have:=hsm.1;omega,fun j=>?_⟩
 by_cases hj:j<(cutTo l l.length).length
 ·have hmem:nthF (cutTo l l.length) j∈cutTo l l.length:=by
   unfold nthF;rw [List.getD_eq_getElem?_getD,List.getElem?_eq_getElem hj];exact List.getElem_mem hj
  have:=hsm.2 _ hmem
  omega
 ·have:nthF (cutTo l l.length) j=noFunc:=by unfold nthF;rw [List.getD_eq_getElem?_getD,List.getElem?_eq_none (by omega)];rfl
  rw [this];simp [noFunc]
theorem blkC_at {l:List InstT}:∀ {bs:List (Int×Int×Int)} {s e:Nat},blkC l s bs e→∀ j,j<bs.length→∃ q t:Nat,nthB bs j=((nthI l q).2.2.1,(q:Int),(t:Int))∧s≤q∧q+1<t∧t≤e∧endsB (nthI l (t - 1)).1=true
 | [],s,e,h,j,hj=>absurd hj (Nat.not_lt_zero j)
 | b :: bs,s,e,h,0,hj=>by
  obtain⟨h1,h2,t,h3,h4,h5,h6⟩:=h
  refine⟨s,t,?_,Nat.le_refl _,h4,blkC_le h6,h5⟩
  obtain⟨b1,b2,b3⟩:=b
  simp only at h1 h2 h3
  simp [nthB,h1,h2,h3]
 | b :: bs,s,e,h,j+1,hj=>by
  obtain⟨_,_,t,_,h4,_,h6⟩:=h
  obtain⟨q,u,a1,a2,a3,a4,a5⟩:=blkC_at h6 j (by simp at hj;omega)
  exact⟨q,u,by simpa [nthB] using a1,by omega,a3,a4,a5⟩
theorem fnC_mem {l:List InstT}:∀ {fs:List FuncT} {s e:Nat},fnC l s fs e→∀ f∈fs,∃ q t:Nat,s≤q∧f.2.1=(q:Int)∧(nthI l q).2.2.1=f.1∧f.2.2.2.1≠[]∧f.2.2.2.2=(t:Int)∧blkC l (q+1+f.2.2.1.length) f.2.2.2.1 t∧t+1≤e
 | [],s,e,h,f,hf=>by cases hf
 | g :: fs,s,e,h,f,hf=>by
  obtain⟨a1,a2,a3,t,a4,a5,a6⟩:=h
  rcases List.mem_cons.1 hf with rfl | hf
  ·exact⟨s,t,Nat.le_refl _,a1,a2,a3,a4,a5,fnC_le a6⟩
  ·obtain⟨q,u,b1,b2⟩:=fnC_mem a6 f hf
   have:=blkC_le a5
   exact⟨q,u,by omega,b2⟩
theorem whole246:(lookF refT 246).2=true∧(lookF refT 246).1.2.2.2.1.size=3∧(lookF refT 247).2=true∧(lookF refT 247).1.2.2.2.1.size=2:=⟨by kernel_rfl,by kernel_rfl,by kernel_rfl,by kernel_rfl⟩
theorem rawE_whole {x:InstT} {b:Int} (h:rawE x b=0):(lookF refT x.1).1.2.2.2.1.size≤x.2.2.2.length:=by
 unfold rawE at h
 split at h
 ·unfold faultI at h
  split at h
  ·next h1=>exact absurd h h1
  ·split at h
   ·next h1=>exact absurd h h1
   ·split at h
    ·next h1=>exact absurd h h1
    ·split at h
     ·cases h
     ·next h1 =>
      have h2:wholeN (lookF refT x.1).1 x.2.2.2.length=true:=by simpa using h1
      unfold wholeN at h2
      split at h2
      ·cases h2
      ·omega
 ·cases h
theorem merge_args {b:Int} {l:List InstT} (h:(layE b l).1=0):∀ i,i<l.length→((nthI l i).1=246→2≤(nthI l i).2.2.2.length)∧((nthI l i).1=247→1≤(nthI l i).2.2.2.length):=by
 intro i hi
 have h1:=rawE_whole (shape_each (layE_ok h).2.1 i hi)
 refine⟨fun e=>?_,fun e=>?_⟩
 ·rw [e,whole246.2.1] at h1;omega
 ·rw [e,whole246.2.2.2] at h1;omega
theorem lead_prem {b:Int} {l:List InstT} {f:FuncT} (h:(layE b l).1=0) (hok:InstsOk l) (hf:f∈cutTo l l.length) :
  f.2.2.2.1≠[]∧f.2.2.2.1.length≤1048576∧f.2.2.1.length≤1048576∧∀ j,j<f.2.2.2.1.length→0≤(nthB f.2.2.2.1 j).1∧(nthB f.2.2.2.1 j).1<4294967296∧2≤(nthB f.2.2.2.1 j).2.2∧(nthB f.2.2.2.1 j).2.2≤(l.length:Int):=by
 have hsm:=cutTo_small l l.length
 have h20:=(shape_few (layE_ok h).2.1).1
 obtain⟨q,t,_,_,_,hne,_,hbl,hle⟩:=fnC_mem (whole_cut h) f hf
 have h2:=hsm.2 f hf
 refine⟨hne,by omega,by omega,fun j hj=>?_⟩
 obtain⟨s,u,e,_,h3,h4,_⟩:=blkC_at hbl j hj
 rw [e]
 have hs:=hok s (by omega)
 refine⟨hs.2.2.2.2.1,hs.2.2.2.2.2.1,?_,?_⟩
 ·show (2:Int)≤(u:Int);omega
 ·show (u:Int)≤(l.length:Int);omega
open Classical in
/-- What is wrong with where blocks lead. -/
noncomputable def ldE (F : Int → Option Int) (l : List InstT) : List (Int × Int × Int) → Int × Int
  | [] => (0, 0)
  | b :: bs => if ¬ okM F l b then (140, b.2.2 - 2) else if ¬ okT F l b then (140, b.2.2 - 1) else ldE F l bs
theorem ldE_ok {F:Int→Option Int} {l:List InstT}:∀ {bs:List (Int×Int×Int)},(∀ b∈bs,okM F l b∧okT F l b)→ldE F l bs=(0,0)
 | [],_=>rfl
 | b :: bs,h=>by
  have h1:=h b (List.mem_cons_self ..)
  rw [ldE,if_neg (by simpa using h1.1),if_neg (by simpa using h1.2)]
  exact ldE_ok fun c hc=>h c (List.mem_cons_of_mem _ hc)
theorem ldE_at {F:Int→Option Int} {l:List InstT}:∀ {bs:List (Int×Int×Int)} {k:Nat},k<bs.length→(∀ j,j<k→okM F l (nthB bs j)∧okT F l (nthB bs j))→ldE F l bs=ldE F l (bs.drop k)
 | bs,0,_,_=>rfl
 | [],k+1,h,_=>absurd h (Nat.not_lt_zero _)
 | b :: bs,k+1,h,hj=>by
  have h1:=hj 0 (by omega)
  simp only [nthB,List.getD_cons_zero] at h1
  rw [ldE,if_neg (by simpa using h1.1),if_neg (by simpa using h1.2),List.drop_succ_cons]
  exact ldE_at (by simp at h;omega) fun j hj2=>by have:=hj (j+1) (by omega);simpa [nthB] using this
theorem drop_nthB {bs:List (Int×Int×Int)} {k:Nat} (h:k<bs.length):bs.drop k=nthB bs k :: bs.drop (k+1):=by
 rw [List.drop_eq_getElem_cons h]
 simp [nthB,List.getD,h]
theorem ldE_zero {F:Int→Option Int} {l:List InstT}:∀ {bs:List (Int×Int×Int)},(ldE F l bs).1=0→∀ b∈bs,okM F l b∧okT F l b
 | [],_,b,hb=>by cases hb
 | c :: bs,h,b,hb=>by
  rw [ldE] at h
  split at h
  ·cases h
  ·next h1 =>
   split at h
   ·cases h
   ·next h2 =>
    rcases List.mem_cons.1 hb with rfl | hb
    ·exact⟨by simpa using h1,by simpa using h2⟩
    ·exact ldE_zero h b hb
theorem leadQ_E {w w':World} {F:Int→Option Int} {l:List InstT} {bs:List (Int×Int×Int)} {e:Ending} (h:LeadQ w w' F l bs e) :
  Below w.heap.size w w'∧∃ hv mv,e=.returned (.tuple #[hv,mv,.agg #[.int .i64 (ldE F l bs).1,.int .i64 (ldE F l bs).2]])∧((ldE F l bs).1=0∧(ldE F l bs).2=0∧LeadR w' w.heap.size hv (bs.map (ldN F l)) mv (bs.map (ldM F l))∨(ldE F l bs).1=140):=by
 obtain⟨hb,h⟩:=h
 refine⟨hb,?_⟩
 rcases h with ⟨hall,hv,mv,rfl,hL⟩ | ⟨k,hk,hj,h⟩
 ·rw [ldE_ok hall]
  exact⟨hv,mv,rfl,.inl ⟨rfl,rfl,hL⟩⟩
 ·rw [ldE_at hk hj,drop_nthB hk]
  rcases h with ⟨h1,rfl⟩ | ⟨h1,h2,rfl⟩
  ·rw [ldE,if_pos h1]
   exact⟨_,_,rfl,.inr rfl⟩
  ·rw [ldE,if_neg (by simpa using h1),if_pos h2]
   exact⟨_,_,rfl,.inr rfl⟩
theorem numT_range (bs:List (Int×Int×Int)):∀ (k:Nat) (y n:Int),numT bs k y=some n→0≤n∧n<k
 | 0,y,n,h=>by cases h
 | k+1,y,n,h=>by
  have h:(if y=(nthB bs k).1 then some (k:Int) else numT bs k y)=some n:=h
  split at h
  ·injection h with h;omega
  ·have:=numT_range bs k y n h;omega
theorem numG_range {bs:List (Int×Int×Int)} {k:Nat} {y:Int} (h:¬ numG (numT bs k) y=0):0<numG (numT bs k) y∧numG (numT bs k) y<k:=by
 unfold numG at h ⊢
 cases e:numT bs k y with
 | none=>rw [e] at h;exact absurd rfl h
 | some n =>
  rw [e] at h
  have:=numT_range bs k y n e
  simp only [Option.getD_some] at h ⊢
  omega
theorem lead_edges {l:List InstT} {bs:List (Int×Int×Int)} (h:∀ b∈bs,okM (numT bs bs.length) l b∧okT (numT bs bs.length) l b):∀ j x,x∈rowN (bs.map (ldN (numT bs bs.length) l)) j→0<x∧x<(bs.length:Int):=by
 intro j x hx
 by_cases hj:j<bs.length
 ·have e:rowN (bs.map (ldN (numT bs bs.length) l)) j=ldN (numT bs bs.length) l (nthB bs j):=by
   simp [rowN,nthB,List.getD,hj]
  rw [e] at hx
  unfold ldN at hx
  obtain⟨y,hy,rfl⟩:=List.mem_map.1 hx
  have hm:nthB bs j∈bs:=by simp [nthB,List.getD,hj]
  exact numG_range ((h _ hm).2 y hy)
 ·have e:rowN (bs.map (ldN (numT bs bs.length) l)) j=[]:=by
   unfold rowN;rw [List.getD_eq_getElem?_getD,List.getElem?_eq_none (by rw [List.length_map];omega)];rfl
  rw [e] at hx;cases hx
theorem tgL_any (l:List InstT) (hok:InstsOk l) (k:Nat):8 * (tgL (nthI l k)).length≤140737488351232:=by
 by_cases hk:k<l.length
 ·have h:=hok k hk
  have h2:=tgL_facts (nthI l k) h.2.2.2.2.2.2.1
  have h3:=h.2.2.2.2.2.2.2
  have h4:=h2.1
  omega
 ·have e:(nthI l k).2.2.2=[]:=by
   unfold nthI;rw [List.getD_eq_getElem?_getD,List.getElem?_eq_none (by omega)];rfl
  have:(tgL (nthI l k)).length≤(nthI l k).2.2.2.length:=by
   unfold tgL;split
   ·exact tgP_len _ _ _
   ·exact Nat.zero_le _
  rw [e] at this
  simp at this
  rw [this];simp
theorem lead_few {F:Int→Option Int} {l:List InstT} (hok:InstsOk l) (bs:List (Int×Int×Int)):∀ j,8 * (rowN (bs.map (ldN F l)) j).length≤140737488351232:=by
 intro j
 by_cases hj:j<bs.length
 ·have e:rowN (bs.map (ldN F l)) j=ldN F l (nthB bs j):=by
   simp [rowN,nthB,List.getD,hj]
  rw [e]
  unfold ldN
  rw [List.length_map]
  exact tgL_any l hok _
 ·have e:rowN (bs.map (ldN F l)) j=[]:=by
   unfold rowN;rw [List.getD_eq_getElem?_getD,List.getElem?_eq_none (by rw [List.length_map];omega)];rfl
  rw [e];simp
open Classical in
/-- What is wrong with a function's blocks. -/
noncomputable def newE (b : Int) (l : List InstT) (f : FuncT) : Int × Int :=
  if (idsE b l).1 ≠ 0 then ((idsE b l).1, ((idsE b l).2 : Int)) else if f ∉ cutTo l l.length then (2, 0) else if 4096 < f.2.2.2.1.length then (4, f.2.1) else ldE (numT f.2.2.2.1 f.2.2.2.1.length) l f.2.2.2.1
def newN (l:List InstT) (f:FuncT):List (List Int):=f.2.2.2.1.map (ldN (numT f.2.2.2.1 f.2.2.2.1.length) l)
def newM (l:List InstT) (f:FuncT):List (Int×Int×Int):=f.2.2.2.1.map (ldM (numT f.2.2.2.1 f.2.2.2.1.length) l)
theorem ids_sound {b:Int} {l:List InstT} (h:(idsE b l).1=0):(layE b l).1=0∧idsE b l=(0,0)∧∀ k,k<l.length→faultAt l k=0:=by
 unfold idsE at h
 by_cases h1:(layE b l).1=0
 ·rw [if_neg (by simpa using h1)] at h
  have key:∀ m k,(idsF l m k).1=0→∀ i,i<m→faultAt l (k+i)=0:=by
   intro m
   induction m with
   | zero=>intro k _ i hi;omega
   | succ m ih =>
    intro k h0 i hi
    rw [idsF] at h0
    by_cases e:faultAt l k=0
    ·rw [if_neg (by simpa using e)] at h0
     by_cases e2:i=0
     ·rw [e2];exact e
     ·have:=ih (k+1) h0 (i - 1) (by omega)
      rwa [show k+1+(i - 1)=k+i by omega] at this
    ·rw [if_pos e] at h0;exact absurd h0 e
  have hall:∀ i,i<l.length→faultAt l i=0:=fun i hi=>by have:=key l.length 0 h i hi;rwa [Nat.zero_add] at this
  refine⟨h1,?_,hall⟩
  unfold idsE
  rw [if_neg (by simpa using h1)]
  exact idsF_done hall
 ·rw [if_pos h1] at h;exact absurd h h1
theorem fresh_at {l:List InstT} {k:Nat} (h:faultAt l k=0):(makT l k (nthI l k).2.2.1).isSome=false:=by
 cases e:(makT l k (nthI l k).2.2.1).isSome with
 | false=>rfl
 | true=>rw [fault_first e] at h;cases h
theorem nth_memG (l:List Int) (k:Nat) (h:k<l.length):nth l k∈l:=by
 have:nth l k=l[k]:=by simp [nth,List.getD,h]
 rw [this];exact List.getElem_mem _
theorem mem_onLast {fs:List FuncT} {g:FuncT→FuncT} {f:FuncT} (h:f∈onLast fs g):f∈fs∨∃ f0∈fs,f=g f0:=by
 unfold onLast at h
 split at h
 ·cases h
 ·next f1 e =>
  have h1:f1∈fs:=List.mem_of_getLast? e
  rcases List.mem_append.1 h with h | h
  ·exact .inl (List.dropLast_subset _ h)
  ·exact .inr ⟨f1,h1,by simpa using h⟩
theorem mem_endLast {bs:List (Int×Int×Int)} {k:Int} {b:Int×Int×Int} (h:b∈endLast bs k):∃ b0∈bs,b.1=b0.1∧b.2.1=b0.2.1:=by
 unfold endLast at h
 split at h
 ·cases h
 ·next b1 e =>
  have h1:b1∈bs:=List.mem_of_getLast? e
  rcases List.mem_append.1 h with h | h
  ·exact⟨b,List.dropLast_subset _ h,rfl,rfl⟩
  ·refine⟨b1,h1,?_⟩
   have h2:b=(b1.1,b1.2.1,k):=by simpa using h
   rw [h2];exact⟨rfl,rfl⟩
theorem blk_begin (l:List InstT):∀ (k:Nat) (f:FuncT),f∈cutTo l k→∀ b∈f.2.2.2.1,∃ q:Nat,q<k∧b.2.1=(q:Int)∧(nthI l q).1=248∧(nthI l q).2.2.1=b.1
 | 0,f,h,b,hb=>by cases h
 | k+1,f,h,b,hb=>by
  have old:∀ f0∈cutTo l k,∀ b0∈f0.2.2.2.1,∃ q:Nat,q<k+1∧b0.2.1=(q:Int)∧(nthI l q).1=248∧(nthI l q).2.2.1=b0.1:=fun f0 h0 b0 hb0=>by
   obtain⟨q,h1,h2⟩:=blk_begin l k f0 h0 b0 hb0
   exact⟨q,by omega,h2⟩
  rw [cutTo] at h
  unfold stepC at h
  split at h
  ·rcases List.mem_append.1 h with h | h
   ·exact old f h b hb
   ·simp at h;subst h;cases hb
  ·split at h
   ·rcases mem_onLast h with h | ⟨f0,h0,rfl⟩
    ·exact old f h b hb
    ·exact old f0 h0 b hb
   ·split at h
    ·rcases mem_onLast h with h | ⟨f0,h0,rfl⟩
     ·exact old f h b hb
     ·exact old f0 h0 b hb
    ·split at h
     ·next h248 =>
      rcases mem_onLast h with h | ⟨f0,h0,rfl⟩
      ·exact old f h b hb
      ·unfold withBlock at hb
       rcases List.mem_append.1 hb with hb | hb
       ·exact old f0 h0 b hb
       ·simp at hb;subst hb
        exact⟨k,by omega,rfl,h248,rfl⟩
     ·split at h
      ·rcases mem_onLast h with h | ⟨f0,h0,rfl⟩
       ·exact old f h b hb
       ·unfold withTo at hb
        obtain⟨b0,hb0,e1,e2⟩:=mem_endLast hb
        obtain⟨q,h1,h2,h3,h4⟩:=old f0 h0 b0 hb0
        exact⟨q,h1,by rw [e2];exact h2,h3,by rw [e1];exact h4⟩
      ·exact old f h b hb
theorem res248:(lookF refT 248).1.2.2.1=true:=by kernel_rfl
theorem rawE_res {x:InstT} {b:Int} (h:rawE x b=0) (h248:x.1=248):x.2.2.1≠0:=by
 intro e
 unfold rawE at h
 split at h
 ·unfold faultI at h
  split at h
  ·next h1=>exact absurd h h1
  ·split at h
   ·next h1=>exact absurd h h1
   ·next h1 =>
    rw [h248,res248,e] at h1
    simp [idE] at h1
 ·cases h
theorem blkC_lt {l:List InstT}:∀ {bs:List (Int×Int×Int)} {s e:Nat},blkC l s bs e→∀ i j,i<j→j<bs.length→(nthB bs i).2.1<(nthB bs j).2.1
 | [],s,e,h,i,j,hij,hj=>absurd hj (Nat.not_lt_zero j)
 | b :: bs,s,e,h,0,0,hij,hj=>absurd hij (Nat.lt_irrefl 0)
 | b :: bs,s,e,h,0,j+1,hij,hj=>by
  obtain⟨h1,_,t,_,h4,_,h6⟩:=h
  obtain⟨q,u,a1,a2,_⟩:=blkC_at h6 j (by simp at hj;omega)
  have e1:nthB (b :: bs) (j+1)=nthB bs j:=by simp [nthB]
  have e2:nthB (b :: bs) 0=b:=by simp [nthB]
  rw [e1,e2,a1,h1]
  show (s:Int)<(q:Int)
  omega
 | b :: bs,s,e,h,i+1,0,hij,hj=>absurd hij (by omega)
 | b :: bs,s,e,h,i+1,j+1,hij,hj=>by
  obtain⟨_,_,t,_,_,_,h6⟩:=h
  have:=blkC_lt h6 i j (by omega) (by simp at hj;omega)
  simpa [nthB] using this
theorem lab_once {b:Int} {l:List InstT} {f:FuncT} (h:(idsE b l).1=0) (hf:f∈cutTo l l.length):∀ i j,i<j→j<f.2.2.2.1.length→(nthB f.2.2.2.1 i).1≠(nthB f.2.2.2.1 j).1:=by
 obtain⟨hlay,_,hno⟩:=ids_sound h
 obtain⟨_,_,_,_,_,_,_,hbl,_⟩:=fnC_mem (whole_cut hlay) f hf
 have hmem:∀ i,i<f.2.2.2.1.length→nthB f.2.2.2.1 i∈f.2.2.2.1:=fun i hi=>by simp [nthB,List.getD,hi]
 intro i j hij hj e
 obtain⟨p,hp,p1,p2,p3⟩:=blk_begin l l.length f hf _ (hmem i (by omega))
 obtain⟨q,hq,q1,q2,q3⟩:=blk_begin l l.length f hf _ (hmem j hj)
 have hlt:=blkC_lt hbl i j hij hj
 rw [p1,q1] at hlt
 have hr:(nthI l q).2.2.1≠0:=rawE_res (shape_each (layE_ok hlay).2.1 q hq) q2
 have hpq:(nthI l p).2.2.1=(nthI l q).2.2.1:=by rw [p3,q3,e]
 have hfr:=fresh_at (hno q hq)
 have hm:(makT l (p+1) (nthI l q).2.2.1).isSome=true:=by
  rw [makT]
  split
  ·next h=>exact h
  ·rw [if_pos ⟨hpq,hr⟩];rfl
 have hs:=makT_stays l _ (p+1) hm (q - (p+1))
 rw [show p+1+(q - (p+1))=q by omega] at hs
 rw [hs,hm] at hfr
 cases hfr
theorem numT_at (bs:List (Int×Int×Int)):∀ (k:Nat) (y n:Int),numT bs k y=some n→∃ j:Nat,j<k∧n=(j:Int)∧(nthB bs j).1=y
 | 0,y,n,h=>by cases h
 | k+1,y,n,h=>by
  have h:(if y=(nthB bs k).1 then some (k:Int) else numT bs k y)=some n:=h
  split at h
  ·next e=>injection h with h;exact⟨k,by omega,h.symm,e.symm⟩
  ·obtain⟨j,h1,h2⟩:=numT_at bs k y n h
   exact⟨j,by omega,h2⟩
end Go.Proofs.YtlcaedibmlidlaaGreat
