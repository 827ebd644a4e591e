/-
  Texts in one: Ref09Check, Ref14Same, Ref14Known, Ref14Of.
-/
import Derived.Test.YtlcaedibmlidlaaGreatB27
namespace Go.Proofs.YtlcaedibmlidlaaGreat
open Go.RowKit
set_option linter.unusedVariables false
set_option linter.unusedSimpArgs false
set_option maxRecDepth 10000
theorem makV_some {l:List InstT} {k:Nat} {id:Int} (h:(makT l k id).isSome=true):decide (0≤makV l k id)=true∧decide (makV l k id<0)=false:=by
 obtain⟨p,hp⟩:=Option.isSome_iff_exists.1 h
 have:=makT_some l id k p hp
 unfold makV
 rw [hp]
 simp
 omega
theorem makV_none {l:List InstT} {k:Nat} {id:Int} (h:(makT l k id).isSome=false):decide (0≤makV l k id)=false∧decide (makV l k id<0)=true:=by
 have hn:makT l k id=none:=by cases h2:makT l k id with
  | none=>rfl
  | some p=>rw [h2] at h;cases h
 unfold makV
 rw [hn]
 simp
set_option maxHeartbeats 8000000 in
theorem refFault9_any (a:Option Addr) (n c:Nat) (l:List InstT) (k:Nat) (w:World) (hv:InstsV w a l) (hok:InstsOk l) (hl:l.length=n) (hn:n≤1048576) (hvar:VarsOk l) (hk:k<n) :
  Calls Tryz.prog 98 #[.slice a n c,.int .i64 k] w fun e w'=>e=.returned (.int .i64 (faultAt l k))∧Below w.heap.size w w':=by
 obtain⟨F,hF⟩:∃ F,F=faultAt l k:=⟨_,rfl⟩
 rw [← hF]
 have HF:=hide hF
 have HMk:=hide fun wx id (to:Nat) (hb:Below w.heap.size w wx) (ht:to≤n)=>refMaker_any a n c l id to wx (hv.below hb) hl (by omega) ht
 have HV:=hide hv
 have HOK:=hide hok
 have HL:=hide hl
 have hk0:(0:Int)≤(k:Int):=by omega
 have hki:(k:Int)<(n:Int):=by omega
 have hkl:k<l.length:=by rw [hl];exact hk
 obtain⟨g1,o1,ai,ci,na,ha,hg1,p1,p2,p3,p4,p5,p6,p7⟩:=hv k hkl
 have hIx:=(hok k hkl).2.2.2.2.2.2.2
 rw [p5] at hIx
 have HId:=hide fun wx (hb:Below w.heap.size w wx)=>refIds_any (nthI l k) ai na ci wx (p6.below hb) p5 hIx
 have HPt:=hide fun wx (hb:Below w.heap.size w wx)=>refPart_any (nthI l k) ai na ci wx (p6.below hb) p5 (fun e=>by rw [← p5];exact hvar k hkl e)
 have HRNG0:=hide (idsA_range (hok k hkl))
 unfold instV at HId HPt
 have HCELLS:Hid (∀ wx,Below w.heap.size w wx→g1<wx.heap.size∧wx.cell? ⟨g1,o1+k * 4,none⟩=some (.int .u16 (nthI l k).1)∧wx.cell? ⟨g1,o1+k * 4+1,none⟩=some (.int .u32 (nthI l k).2.1)∧wx.cell? ⟨g1,o1+k * 4+2,none⟩=some (.int .u32 (nthI l k).2.2.1)∧wx.cell? ⟨g1,o1+k * 4+3,none⟩=some (.slice ai na ci)):=fun wx hb =>
  ⟨Nat.lt_of_lt_of_le hg1 hb.size,(hb.cell (p:=⟨g1,o1+k * 4,none⟩) hg1).trans p1,(hb.cell (p:=⟨g1,o1+k * 4+1,none⟩) hg1).trans p2,(hb.cell (p:=⟨g1,o1+k * 4+2,none⟩) hg1).trans p3,(hb.cell (p:=⟨g1,o1+k * 4+3,none⟩) hg1).trans p4⟩
 subst ha
 have hmk:=HMk.out w (nthI l k).2.2.1 k (Below.refl _ _) (by omega)
 have HF90:Hid ((makT l k (nthI l k).2.2.1).isSome=true→faultAt l k=90):=fun h=>fault_first h
 have HF91:Hid ((makT l k (nthI l k).2.2.1).isSome=false→∀ j,j<(idsI (nthI l k)).length→(makT l l.length (nth (idsI (nthI l k)) j)).isSome=false→faultAt l k=91):=fun h j hj hn2=>fault_unknown h hj hn2
 have HFEND:Hid ((makT l k (nthI l k).2.2.1).isSome=false→allMade l l.length ((idsI (nthI l k)).take (idsI (nthI l k)).length)=true→faultAt l k=if aheadJ l k (idsI (nthI l k)).length=true then 92 else 0):=fun h h2=>faultAt_end h h2
 have HIL:Hid ((idsI (nthI l k)).length≤1+na):=by
  have h1:(idsI (nthI l k)).length≤1+(nthI l k).2.2.2.length:=by have:=idsTo_len (nthI l k).2.1 (nthI l k).2.2.2 (nthI l k).2.2.2.length;unfold idsI;omega
  show _≤_
  rw [p5] at h1;exact h1
 have HAH:Hid (aheadJ l k (idsI (nthI l k)).length=(decide (partI (nthI l k)=7) && !allMade l k ((idsI (nthI l k)).take (idsI (nthI l k)).length))):=rfl
 clear hv hok hl hvar hF p1 p2 p4 p5 p6 p7 hkl
 generalize idsI (nthI l k)=zs at *
 generalize partI (nthI l k)=pt at *
 by_cases h90:(makT l k (nthI l k).2.2.1).isSome=true
 ·obtain⟨d1,_⟩:=makV_some h90
  obtain rfl:F=90:=HF.out.trans (HF90.out h90)
  clear h90 HF90 HF91 HFEND
  generalize makV l k (nthI l k).2.2.1=mv at *
  go_enter Tryz.func98,Tryz.ntmps98
  go_wp2_with fail
  refine hmk.mono ?_
  rintro e w1 ⟨rfl,rfl⟩
  clear hmk
  go_wp2_with fail
  go_ret
  exact⟨rfl,Below.refl _ _⟩
 ·have h90':(makT l k (nthI l k).2.2.1).isSome=false:=by simpa using h90
  obtain⟨d1,_⟩:=makV_none h90'
  have HG91:=hide (HF91.out h90')
  have HGEND:=hide (HFEND.out h90')
  have hId:=HId.out w (Below.refl _ _)
  obtain⟨_,c0,c1,c2,c3⟩:=HCELLS.out w (Below.refl _ _)
  clear h90 h90' HF90 HF91 HFEND
  generalize makV l k (nthI l k).2.2.1=mv at *
  go_enter Tryz.func98,Tryz.ntmps98
  go_wp2_with fail
  refine hmk.mono ?_
  rintro e w1 ⟨rfl,rfl⟩
  clear hmk
  go_wp2_with fail
  refine hId.mono ?_
  rintro e w1 ⟨hb1,az,m,cz,rfl,hm1,hown1⟩
  have HVZ:=hide (View.ofOwn hown1 hm1)
  have HM1:=hide hm1
  have HB1:=hide hb1
  have hmn:m≤1+na:=by rw [← hm1];exact HIL.out
  have HRNG:Hid (∀ j,j<m→0≤nth zs j∧nth zs j<4294967296):=fun j hj=>by
   have hjl:j<zs.length:=by rw [HM1.out];exact hj
   refine HRNG0.out (nth zs j) ?_
   simp only [nth,List.getD,List.getElem?_eq_getElem hjl]
   exact List.getElem_mem hjl
  clear hId hown1 hm1 hb1 c0 c1 c2 c3 p3 d1
  go_wp2_with fail
  go_loopw [6] (fun i wr=>∃ j:Nat,j≤m∧i=.int .i64 j∧allMade l n (zs.take j)=true∧Below w1.heap.size w1 wr) (fun i _=>m - (intOf i).toNat)
  case atStart=>exact⟨0,Nat.zero_le _,rfl,by simp [allMade],Below.refl _ _⟩
  case round =>
   obtain⟨j,hj,rfl,hall,hbr⟩:=hrel
   have HALL:=hide hall
   have HBR:=hide hbr
   clear hall
   by_cases hjm:j<m
   ·have hj0:(0:Int)≤(j:Int):=by omega
    have hji:(j:Int)<(m:Int):=by omega
    obtain⟨gz,oz,rfl,hgz,hcz⟩:=(HVZ.out.below hbr) j (by rw [HM1.out];exact hjm)
    have hmj:=HMk.out wr (nth zs j) n (HB1.out.trans (hbr.mono HB1.out.size)) (Nat.le_refl _)
    have HALLN:Hid (allMade l n (zs.take (j+1))=(allMade l n (zs.take j) && (makT l n (nth zs j)).isSome)):=allMade_snoc l n zs j (by rw [HM1.out];exact hjm)
    clear hbr
    cases hmt:(makT l n (nth zs j)).isSome with
    | false =>
     obtain⟨_,d2⟩:=makV_none hmt
     obtain rfl:F=91:=HF.out.trans (HG91.out j (by rw [HM1.out];exact hjm) (by rw [HL.out];exact hmt))
     have HBF:=hide (HB1.out.trans (HBR.out.mono HB1.out.size))
     clear hmt
     generalize makV l n (nth zs j)=mv2 at *
     go_wp2_with fail
     refine hmj.mono ?_
     rintro e w2 ⟨rfl,rfl⟩
     clear hmj
     go_wp2_with fail
     go_ret
     exact⟨rfl,HBF.out⟩
    | true =>
     obtain⟨_,d2⟩:=makV_some hmt
     have HA2:Hid (allMade l n (zs.take (j+1))=true):=by show _=_;rw [HALLN.out,HALL.out,hmt];rfl
     clear hmt
     generalize makV l n (nth zs j)=mv2 at *
     go_wp2_with fail
     refine hmj.mono ?_
     rintro e w2 ⟨rfl,rfl⟩
     clear hmj
     go_wp2_with fail
     go_roundw
     case rel=>exact⟨j+1,by omega,by go_num,HA2.out,HBR.out⟩
     case measure=>simp [intOf];omega
   ·obtain rfl:j=m:=by omega
    rename World=>wo
    have HGE:=hide (HGEND.out (by rw [HM1.out,HL.out];exact HALL.out))
    have HBO:=hide (HB1.out.trans (hbr.mono HB1.out.size))
    have HVO:=hide (HVZ.out.below hbr)
    clear hbr
    go_wp2_with fail
    go_loopw [7] (fun i wr=>∃ q:Nat,q≤j∧i=.int .i64 q∧(pt=7→allMade l k (zs.take q)=true)∧Below wo.heap.size wo wr) (fun i _=>j - (intOf i).toNat)
    case atStart=>exact⟨0,Nat.zero_le _,rfl,fun _=>by simp [allMade],Below.refl _ _⟩
    case round =>
     obtain⟨q,hq,rfl,hal,hbq⟩:=hrel
     have HAL:=hide hal
     have HBQ:=hide hbq
     have HBF:=hide (HBO.out.trans (hbq.mono HBO.out.size))
     clear hal
     by_cases hqm:q<j
     ·have hq0:(0:Int)≤(q:Int):=by omega
      have hqi:(q:Int)<(j:Int):=by omega
      obtain⟨gz,oz,rfl,hgz,hcz⟩:=(HVO.out.below hbq) q (by rw [HM1.out];exact hqm)
      have hPt:=HPt.out wr HBF.out
      obtain⟨hgw,c0,c1,c2,c3⟩:=HCELLS.out wr HBF.out
      have HALLN:Hid (allMade l k (zs.take (q+1))=(allMade l k (zs.take q) && (makT l k (nth zs q)).isSome)):=allMade_snoc l k zs q (by rw [HM1.out];exact hqm)
      clear hbq
      by_cases h7:pt=7
      ·have h7':(pt==7)=true:=by simpa using h7
       cases hmt:(makT l k (nth zs q)).isSome with
       | false =>
        obtain⟨_,d2⟩:=makV_none hmt
        obtain rfl:F=92:=by
         rw [HF.out,HGE.out,HAH.out]
         have hz:allMade l k (zs.take zs.length)=false:=by rw [List.take_length];exact allMade_false (by rw [HM1.out];exact hqm) hmt
         rw [hz]
         simp [h7]
        clear hmt h7
        go_wp2_with fail
        refine hPt.mono ?_
        rintro e w2 ⟨rfl,hb2⟩
        have hmj:=HMk.out w2 (nth zs q) k (HBF.out.trans (hb2.mono HBF.out.size)) (by omega)
        have hcz2:=(hb2.cell (p:=⟨gz,oz+q,none⟩) hgz).trans hcz
        have hgz2:gz<w2.heap.size:=Nat.lt_of_lt_of_le hgz hb2.size
        have HBF2:=hide (HBF.out.trans (hb2.mono HBF.out.size))
        clear hPt hb2 c0 c1 c2 c3 hcz
        generalize makV l k (nth zs q)=mv2 at *
        go_wp2_with fail
        refine hmj.mono ?_
        rintro e w3 ⟨rfl,rfl⟩
        clear hmj
        go_wp2_with fail
        go_ret
        exact⟨rfl,HBF2.out⟩
       | true =>
        obtain⟨_,d2⟩:=makV_some hmt
        have HA2:Hid (pt=7→allMade l k (zs.take (q+1))=true):=fun h=>by rw [HALLN.out,HAL.out h,hmt];rfl
        clear hmt h7
        go_wp2_with fail
        refine hPt.mono ?_
        rintro e w2 ⟨rfl,hb2⟩
        have hmj:=HMk.out w2 (nth zs q) k (HBF.out.trans (hb2.mono HBF.out.size)) (by omega)
        have hcz2:=(hb2.cell (p:=⟨gz,oz+q,none⟩) hgz).trans hcz
        have hgz2:gz<w2.heap.size:=Nat.lt_of_lt_of_le hgz hb2.size
        have HBQ2:=hide (HBQ.out.trans (hb2.mono HBQ.out.size))
        clear hPt hb2 c0 c1 c2 c3 hcz
        generalize makV l k (nth zs q)=mv2 at *
        go_wp2_with fail
        refine hmj.mono ?_
        rintro e w3 ⟨rfl,rfl⟩
        clear hmj
        go_wp2_with fail
        go_roundw
        case rel=>exact⟨q+1,by omega,by go_num,HA2.out,HBQ2.out⟩
        case measure=>simp [intOf];omega
      ·have h7':(pt==7)=false:=by simpa using h7
       have HA2:Hid (pt=7→allMade l k (zs.take (q+1))=true):=fun h=>absurd h h7
       clear h7
       go_wp2_with fail
       refine hPt.mono ?_
       rintro e w2 ⟨rfl,hb2⟩
       have HBQ2:=hide (HBQ.out.trans (hb2.mono HBQ.out.size))
       clear hPt hb2 c0 c1 c2 c3 hcz
       go_wp2_with fail
       go_roundw
       case rel=>exact⟨q+1,by omega,by go_num,HA2.out,HBQ2.out⟩
       case measure=>simp [intOf];omega
     ·obtain rfl:q=j:=by omega
      obtain rfl:F=0:=by
       rw [HF.out,HGE.out,HAH.out,HM1.out]
       by_cases h7:pt=7
       ·rw [HAL.out h7];simp
       ·simp [h7]
      clear hbq
      go_wp2_with fail
      go_ret
      exact⟨rfl,HBF.out⟩
set_option maxHeartbeats 8000000 in
theorem refCheck9_any (gen bnd:Int) (a:Option Addr) (n c:Nat) (l:List InstT) (w:World) (hv:InstsV w a l) (hok:InstsOk l) (hl:l.length=n) (hn:40 * n≤140737488351232) (b0:0≤bnd) (b1:bnd<4294967296) :
  Calls Tryz.prog 44 #[modV gen bnd a n c] w fun e w'=>e=.returned (.agg #[.int .i64 (idsE bnd l).1,.int .i64 ((idsE bnd l).2:Int)])∧Below w.heap.size w w':=by
 obtain⟨L,hL⟩:∃ L,L=idsE bnd l:=⟨_,rfl⟩
 rw [← hL]
 have hb0:Below w.heap.size w ((w.alloc (.cells #[.int .u32 gen,.int .u32 bnd,.slice a n c] 25)).alloc (.cells #[.int .i64 0,.int .i64 0] 33)):=((Below.refl _ w).alloc (Nat.le_refl _) _).alloc (by simp) _
 have hCk:=refCheck5_any gen bnd a n c l _ (hv.below hb0) hok hl hn b0 b1
 have HE1:Hid ((layE bnd l).1≠0→L=layE bnd l):=fun h=>by rw [hL];unfold idsE;rw [if_pos h]
 have HE0:Hid ((layE bnd l).1=0→L=idsF l l.length 0∧n≤1048576∧VarsOk l):=fun h=>by
  obtain⟨q1,q2,q3⟩:=layE_ok h
  exact⟨by rw [hL];unfold idsE;rw [if_neg (by simpa using h)],by rw [← hl];exact (shape_few q2).1,fun k hk h59=>var_args (b:=bnd) (shape_each q2 k hk) h59⟩
 have HMB:Hid (((w.alloc (.cells #[.int .u32 gen,.int .u32 bnd,.slice a n c] 25)).alloc (.cells #[.int .i64 0,.int .i64 0] 33)).heap[w.heap.size]?=some (.cells #[.int .u32 gen,.int .u32 bnd,.slice a n c] 25 (0,0))):=by
  show _=_
  rw [Below.heap_alloc _ _ _ (by simp)];exact heap_alloc_new w _
 have HRB:Hid (SpotB ((w.alloc (.cells #[.int .u32 gen,.int .u32 bnd,.slice a n c] 25)).alloc (.cells #[.int .i64 0,.int .i64 0] 33)) (w.heap.size+1) 0 0):=by
  have:=heap_alloc_new (w.alloc (.cells #[.int .u32 gen,.int .u32 bnd,.slice a n c] 25)) (.cells #[.int .i64 0,.int .i64 0] 33)
  rw [World.size_alloc] at this
  exact this
 have HLT:Hid (w.heap.size+1<((w.alloc (.cells #[.int .u32 gen,.int .u32 bnd,.slice a n c] 25)).alloc (.cells #[.int .i64 0,.int .i64 0] 33)).heap.size):=by show _<_;simp
 have HB0:=hide hb0
 have HV:=hide hv
 have HOK:=hide hok
 have HL:=hide hl
 have HRET:Hid (∀ (a':Act) (Z:World),slot a'.tmps 2=.pointer (some ⟨w.heap.size+1,0,none⟩)→a'.defers=[]→SpotB Z (w.heap.size+1) L.1 (L.2:Int)→Below w.heap.size w Z→bodyPost Tryz.prog Tryz.f44 (fun e w'=>e=.returned (.agg #[.int .i64 L.1,.int .i64 (L.2:Int)])∧Below w.heap.size w w') .ret a' Z):=by
  intro a' Z q2 q3 q4 q5
  have r6:=run_loadVar_mid (P:=Tryz.prog) Z (w.heap.size+1) 0 33 [.int .i64 L.1,.int .i64 (L.2:Int)] _ (range_of_block q4) Tryz.underlying33 rfl (by kernel_rfl)
  refine bodyPost_ret (v:=.agg #[.int .i64 L.1,.int .i64 (L.2:Int)]) ?_ q3 ⟨rfl,q5⟩
  have hG2:a'.tmps.getD 2 undef=.pointer (some ⟨w.heap.size+1,0,none⟩):=q2
  simp only [results,Tryz.results44,List.mapM_toArray,List.mapM_cons,List.mapM_nil,hG2,asAddr,Sem.run_bind,Sem.run_pure,Result.andThen_ok,bind_assoc,pure_bind,Sem.run_map,map_pure,r6]
  rfl
 generalize layE bnd l=E at *
 obtain⟨e1,e2⟩:=E
 unfold modV at *
 simp only at *
 clear hb0 hv hok hl hL
 go_enter Tryz.func44,Tryz.ntmps44
 go_wp2_with fail
 generalize (w.alloc (.cells #[.int .u32 gen,.int .u32 bnd,.slice a n c] 25)).alloc (.cells #[.int .i64 0,.int .i64 0] 33)=W0 at *
 refine hCk.mono ?_
 rintro e w1 ⟨rfl,hb1⟩
 have kl:=HLT.out
 have kw:W0.heap.size≤w1.heap.size:=hb1.size
 have m2:=(hb1.cell (p:=⟨w.heap.size,2,none⟩) (show w.heap.size<W0.heap.size by omega)).trans ((one_block HMB.out).1 2)
 have kr:SpotB w1 (w.heap.size+1) 0 0:=(hb1.block (w.heap.size+1) HLT.out).trans HRB.out
 obtain⟨cr,fr⟩:=one_block kr
 have r0:=cr 0
 have r1:=cr 1
 have HB1:=hide hb1
 have hHl:w.heap.size<w1.heap.size:=by omega
 have hHl1:w.heap.size+1<w1.heap.size:=by omega
 have FINE:Hid (∀ (X:World) (x y:Int),Below W0.heap.size W0 X→SpotB ((X.setCell ⟨w.heap.size+1,0,none⟩ (.int .i64 x)).setCell ⟨w.heap.size+1,1,none⟩ (.int .i64 y)) (w.heap.size+1) x y∧Below w.heap.size w ((X.setCell ⟨w.heap.size+1,0,none⟩ (.int .i64 x)).setCell ⟨w.heap.size+1,1,none⟩ (.int .i64 y))):=fun X x y hX =>
  ⟨SpotB.put (e:=0) (p:=0) ((hX.block _ kl).trans HRB.out) x y,below_grown (HB0.out.trans (hX.mono HB0.out.size)) (setCells_grown (w.heap.size+1) [.int .i64 x,.int .i64 y] 0 X) (fun g e=>by simp at e;omega)⟩
 clear hCk hb1 cr
 by_cases hE0:e1=0
 ·subst hE0
  obtain⟨hLf,hnn,hvar⟩:=HE0.out rfl
  have HLF:=hide hLf
  have HVAR:=hide hvar
  have hb2:Below W0.heap.size W0 (w1.alloc (.cells #[.int .i64 0,.int .i64 e2] 33)):=HB1.out.alloc HB1.out.size _
  have HB2:=hide hb2
  have HM2:Hid ((w1.alloc (.cells #[.int .i64 0,.int .i64 e2] 33)).cell? ⟨w.heap.size,2,none⟩=some (.slice a n c)):=(World.cell?_of_block (a:=⟨w.heap.size,2,none⟩) (Below.heap_alloc _ _ _ hHl)).trans m2
  have HS2:Hid (w.heap.size+1<(w1.alloc (.cells #[.int .i64 0,.int .i64 e2] 33)).heap.size):=by show _<_;rw [World.size_alloc];omega
  clear hLf hvar HE0 HE1 kr r0 r1 fr hb2
  go_wp2_with fail
  clear m2
  generalize w1.alloc (.cells #[.int .i64 0,.int .i64 e2] 33)=W1 at *
  have hls:=HS2.out
  go_loopw [4] (fun i wr=>∃ k:Nat,k≤n∧i=.int .i64 k∧(∀ i,i<k→faultAt l i=0)∧Below W1.heap.size W1 wr) (fun i _=>n - (intOf i).toNat)
  case atStart=>exact⟨0,Nat.zero_le _,rfl,fun i hi=>by omega,Below.refl _ _⟩
  case round =>
   obtain⟨k,hk,rfl,hgood,hbr⟩:=hrel
   have HGOOD:=hide hgood
   have HB:=hide hbr
   have HBX:=hide (HB2.out.trans (hbr.mono HB2.out.size))
   have m2:=(hbr.cell (p:=⟨w.heap.size,2,none⟩) (show w.heap.size<W1.heap.size by omega)).trans HM2.out
   have hlr:w.heap.size+1<wr.heap.size:=Nat.lt_of_lt_of_le hls hbr.size
   have hrb:SpotB wr (w.heap.size+1) 0 0:=(HBX.out.block _ kl).trans HRB.out
   obtain⟨cr,fr⟩:=one_block hrb
   have r0:=cr 0
   have r1:=cr 1
   clear hgood cr hrb
   by_cases hlt:k<n
   ·have hki:(k:Int)<(n:Int):=by omega
    have hFt:=refFault9_any a n c l k wr (HV.out.below (HB0.out.trans (HBX.out.mono HB0.out.size))) HOK.out HL.out hnn HVAR.out hlt
    by_cases hf:faultAt l k=0
    ·have HG2:Hid (∀ i,i<k+1→faultAt l i=0):=fun i hi=>by
      by_cases e:i=k
      ·rw [e];exact hf
      ·exact HGOOD.out i (by omega)
     rw [hf] at hFt
     clear hbr hf
     go_wp2_with fail
     refine hFt.mono ?_
     rintro e w2 ⟨rfl,hb2⟩
     have HB3:=hide (HB.out.trans (hb2.mono HB.out.size))
     clear hFt hb2 m2 r0 r1 fr
     go_wp2_with fail
     go_roundw
     case rel=>exact⟨k+1,by omega,by go_num,HG2.out,HB3.out⟩
     case measure=>simp [intOf];omega
    ·have hf':(faultAt l k != 0)=true:=by simpa using hf
     have HLE:Hid (L=(faultAt l k,k)):=by
      show _=_
      rw [HLF.out,idsF_at (by rw [HL.out];exact hlt) HGOOD.out hf]
     clear hbr hf
     generalize faultAt l k=ff at *
     go_wp2_with fail
     refine hFt.mono ?_
     rintro e w2 ⟨rfl,hb2⟩
     obtain⟨f1,f2⟩:=FINE.out w2 ff k (HBX.out.trans (hb2.mono HBX.out.size))
     have F1:=hide f1
     have F2:=hide f2
     obtain⟨cr2,fr2⟩:=one_block (show SpotB w2 (w.heap.size+1) 0 0 from (hb2.block _ hlr).trans ((HBX.out.block _ kl).trans HRB.out))
     have t0:=cr2 0
     have t1:=cr2 1
     have hl2:w.heap.size+1<w2.heap.size:=Nat.lt_of_lt_of_le hlr hb2.size
     clear hFt hb2 m2 r0 r1 fr f1 f2 cr2
     go_wp2_with fail
     exact HRET.out _ _ rfl rfl (by rw [HLE.out];exact F1.out) F2.out
   ·obtain rfl:k=n:=by omega
    have HLE:Hid (L=(0,0)):=by
     show _=_
     rw [HLF.out]
     exact idsF_done (fun i hi=>HGOOD.out i (by rw [← HL.out];exact hi))
    obtain⟨f1,f2⟩:=FINE.out wr 0 0 HBX.out
    have F1:=hide f1
    have F2:=hide f2
    clear hbr f1 f2
    go_wp2_with fail
    exact HRET.out _ _ rfl rfl (by rw [HLE.out];exact F1.out) F2.out
 ·have hE1:(e1 != 0)=true:=by simpa using hE0
  have HLE:=hide (HE1.out hE0)
  obtain⟨f1,f2⟩:=FINE.out w1 e1 e2 HB1.out
  have F1:=hide f1
  have F2:=hide f2
  clear hE0 HE0 HE1 f1 f2
  go_wp2_with fail
  refine HRET.out _ _ rfl rfl ?_ (F2.out.alloc F2.out.size _)
  rw [HLE.out]
  refine (Below.heap_alloc _ _ _ ?_).trans F1.out
  rw [World.size_setCell,World.size_setCell];exact hHl1
def NE14 (fi fa:Int) (fp:List Int) (fb:List (Int×Int×Int)) (fe gi ga:Int) (gp:List Int) (gb:List (Int×Int×Int)) (ge:Int):Prop:=((fi,fa,fp,fb,fe):FuncT)=(gi,ga,gp,gb,ge)
theorem same14_ne {fi fa:Int} {fp:List Int} {fb:List (Int×Int×Int)} {fe gi ga:Int} {gp:List Int} {gb:List (Int×Int×Int)} {ge:Int} (h:¬ (fi=gi∧fa=ga∧fe=ge∧fp.length=gp.length∧fb.length=gb.length)):¬ NE14 fi fa fp fb fe gi ga gp gb ge:=by
 unfold NE14
 intro e
 simp only [Prod.mk.injEq] at e
 exact h ⟨e.1,e.2.1,e.2.2.2.2,by rw [e.2.2.1],by rw [e.2.2.2.1]⟩
theorem same14_eq {fi fa:Int} {fp:List Int} {fb:List (Int×Int×Int)} {fe gi ga:Int} {gp:List Int} {gb:List (Int×Int×Int)} {ge:Int} (h1:fi=gi) (h2:fa=ga) (h3:fe=ge):NE14 fi fa fp fb fe gi ga gp gb ge↔fp=gp∧fb=gb:=by
 unfold NE14
 simp [h1,h2,h3]
set_option maxHeartbeats 8000000 in
theorem refSame14_any (va vb:Value) (f g:FuncT) (w:World) (ha:FnR w va f) (hb:FnR w vb g) :
  Calls Tryz.prog 119 #[va,vb] w fun e w'=>(∃ r,e=.returned (.bool r)∧(r=true↔f=g))∧Below w.heap.size w w':=by
 obtain⟨xp,cp,xq,cq,rfl,hv1,hq1⟩:=ha.form
 obtain⟨yp,dp,yq,dq,rfl,hv2,hq2⟩:=hb.form
 obtain⟨fw1,fw2⟩:=ha.few
 obtain⟨fi,fa,fp,fb,fe⟩:=f
 obtain⟨gi,ga,gp,gb,ge⟩:=g
 have HNE:=hide (same14_ne (fi:=fi) (fa:=fa) (fp:=fp) (fb:=fb) (fe:=fe) (gi:=gi) (ga:=ga) (gp:=gp) (gb:=gb) (ge:=ge))
 have HEQ:=hide (same14_eq (fi:=fi) (fa:=fa) (fp:=fp) (fb:=fb) (fe:=fe) (gi:=gi) (ga:=ga) (gp:=gp) (gb:=gb) (ge:=ge))
 change Calls _ _ _ _ fun e w'=>(∃ r,e=.returned (.bool r)∧(r=true↔NE14 fi fa fp fb fe gi ga gp gb ge))∧Below w.heap.size w w'
 simp only at *
 generalize NE14 fi fa fp fb fe gi ga gp gb ge=NE at *
 have hba:Below w.heap.size w ((w.alloc (.cells #[.int .u32 fi,.int .i64 fa,.slice xp fp.length cp,.slice xq fb.length cq,.int .i64 fe] 29)).alloc (.cells #[.int .u32 gi,.int .i64 ga,.slice yp gp.length dp,.slice yq gb.length dq,.int .i64 ge] 29)):=((Below.refl _ w).alloc (Nat.le_refl _) _).alloc (by simp) _
 have k0:=allocOld (allocNew w (.cells #[.int .u32 fi,.int .i64 fa,.slice xp fp.length cp,.slice xq fb.length cq,.int .i64 fe] 29) rfl) (.cells #[.int .u32 gi,.int .i64 ga,.slice yp gp.length dp,.slice yq gb.length dq,.int .i64 ge] 29)
 have k1:=allocNew (w.alloc (.cells #[.int .u32 fi,.int .i64 fa,.slice xp fp.length cp,.slice xq fb.length cq,.int .i64 fe] 29)) (.cells #[.int .u32 gi,.int .i64 ga,.slice yp gp.length dp,.slice yq gb.length dq,.int .i64 ge] 29) (n:=w.heap.size+1) (by simp)
 have HBA:=hide hba
 have K0:=hide k0
 have K1:=hide k1
 obtain⟨a0,a1,a2,a3,a4⟩:=fiveCells k0
 obtain⟨b0,b1,b2,b3,b4⟩:=fiveCells k1
 have HV1:=hide (hv1.below hba)
 have HV2:=hide (hv2.below hba)
 have HQ1:=hide (hq1.below hba)
 have HQ2:=hide (hq2.below hba)
 have HEP:Hid (gp.length=fp.length→(∀ k,k<fp.length→nth fp k=nth gp k)→fp=gp):=fun h1 h=>takeB_ext 0 h1.symm h
 have HEB:Hid (gb.length=fb.length→(∀ k,k<fb.length→nthB fb k=nthB gb k)→fb=gb):=fun h1 h=>takeB_ext _ h1.symm h
 have HNP:Hid (∀ k,¬ nth fp k=nth gp k→¬ fp=gp):=fun k h e=>h (by rw [e])
 have HNB:Hid (∀ k,¬ nthB fb k=nthB gb k→¬ fb=gb):=fun k h e=>h (by rw [e])
 clear ha hb hv1 hq1 hv2 hq2 hba k0 k1
 have HFW:=hide (And.intro fw1 fw2)
 clear fw1 fw2
 generalize hnp:fp.length=np at *
 generalize hnb:fb.length=nb at *
 generalize hmp:gp.length=mp at *
 generalize hmb:gb.length=mb at *
 have HNN:=hide (And.intro hnp (And.intro hnb (And.intro hmp hmb)))
 clear hnp hnb hmp hmb
 go_enter Tryz.func119,Tryz.ntmps119
 go_wp2_with fail
 all_goals try (
  subst_vars
  go_ret
  exact⟨⟨false,rfl,fun h=>Bool.noConfusion h,fun h=>absurd h (HNE.out (by first | omega | (rename_i hl;simp only [bne_iff_ne,ne_eq] at hl;omega)))⟩,HBA.out⟩)
 rename_i h1 h2 h3 h4 h5 _ _
 have e4:np=mp:=by omega
 have e5:nb=mb:=by
  have:(nb:Int)=(mb:Int):=by simpa using h5
  omega
 have HI:=hide (HEQ.out h1 h2 h3)
 rw [h5]
 clear HEQ HNE h4 h5
 subst h1 h2 h3 e4 e5
 generalize World.alloc (World.alloc w _) _=W at *
 clear a0 a1 a2 a3 a4 b0 b1 b2 b3 b4
 go_loopw [5] (fun i wr=>∃ k:Nat,k≤np∧i=.int .i64 k∧(∀ j,j<k→nth fp j=nth gp j)∧Below W.heap.size W wr) (fun i _=>np - (intOf i).toNat)
 case atStart=>exact⟨0,Nat.zero_le _,rfl,fun j hj=>by omega,Below.refl _ _⟩
 case round =>
  obtain⟨k,hk,rfl,hall,hbr⟩:=hrel
  generalize hwo:wr=wo at *
  clear hwo
  have k0:=(hbr.block _ (Array.getElem?_eq_some_iff.1 K0.out).1).trans K0.out
  have k1:=(hbr.block _ (Array.getElem?_eq_some_iff.1 K1.out).1).trans K1.out
  obtain⟨a0,a1,a2,a3,a4⟩:=fiveCells k0
  obtain⟨b0,b1,b2,b3,b4⟩:=fiveCells k1
  have HBR:=hide hbr
  have J0:=hide k0
  have J1:=hide k1
  clear k0 k1
  by_cases hlt:k<np
  ·obtain⟨c1b,o1,rfl,_,c1⟩:=(HV1.out.below hbr) k (by rw [HNN.out.1];exact hlt)
   obtain⟨c2b,o2,rfl,_,c2⟩:=(HV2.out.below hbr) k (by rw [HNN.out.2.2.1];exact hlt)
   have hki:(k:Int)<(np:Int):=by omega
   have hk0:(0:Int)≤(k:Int):=by omega
   have hni:(np:Int)≤17592186044416:=by have:=HFW.out.1;omega
   have HLT:=hide hlt
   have HALL:=hide hall
   by_cases hc:nth fp k=nth gp k
   ·have HC:=hide hc
    rw [← hc] at c2
    generalize nth fp k=y at c1 c2
    clear hall hlt hk hbr hc
    go_wp2
    go_quiet (fail)
    go_wp2
    refine⟨⟨k+1,HLT.out,by simp,fun j hj=>?_,drewS HBR.out _⟩,measZ2 HLT.out⟩
    by_cases e:j=k
    ·subst e;exact HC.out
    ·exact HALL.out j (by omega)
   ·have HNE:=hide (HNP.out k hc)
    have hcb:(nth fp k != nth gp k)=true:=by simpa using hc
    generalize nth fp k=y1 at c1 hcb
    generalize nth gp k=y2 at c2 hcb
    clear hall hlt hk hbr hc
    go_wp2
    go_quiet (fail)
    go_wp2
    go_ret
    exact⟨⟨false,rfl,fun h=>Bool.noConfusion h,fun h=>absurd (HI.out.1 h).1 HNE.out⟩,HBA.out.trans ((drewS HBR.out _).mono HBA.out.size)⟩
  ·have e:np=k:=by omega
   subst e
   have HPE:=hide (HEP.out (by first | exact rfl | trivial) hall)
   clear hall hk hbr hlt
   go_wp2_with fail
   clear a0 a1 a2 a3 a4 b0 b1 b2 b3 b4
   go_loopw [6] (fun i wr=>∃ k:Nat,k≤nb∧i=.int .i64 k∧(∀ j,j<k→nthB fb j=nthB gb j)∧Below W.heap.size W wr) (fun i _=>nb - (intOf i).toNat)
   case atStart=>exact⟨0,Nat.zero_le _,rfl,fun j hj=>by omega,HBR.out⟩
   case round =>
    obtain⟨k,hk,rfl,hall,hbr⟩:=hrel
    clear HBR
    have k0:=(hbr.block _ (Array.getElem?_eq_some_iff.1 K0.out).1).trans K0.out
    have k1:=(hbr.block _ (Array.getElem?_eq_some_iff.1 K1.out).1).trans K1.out
    obtain⟨a0,a1,a2,a3,a4⟩:=fiveCells k0
    obtain⟨b0,b1,b2,b3,b4⟩:=fiveCells k1
    have HBR:=hide hbr
    clear k0 k1
    by_cases hlt:k<nb
    ·obtain⟨c1b,o1,rfl,_,c1,c11,c12⟩:=(HQ1.out.below hbr) k (by rw [HNN.out.2.1];exact hlt)
     obtain⟨c2b,o2,rfl,_,c2,c21,c22⟩:=(HQ2.out.below hbr) k (by rw [HNN.out.2.2.2];exact hlt)
     have hki:(k:Int)<(nb:Int):=by omega
     have hk0:(0:Int)≤(k:Int):=by omega
     have hni:(nb:Int)≤17592186044416:=by have:=HFW.out.2;omega
     have HLT:=hide hlt
     have HALL:=hide hall
     by_cases hc:nthB fb k=nthB gb k
     ·have HC:=hide hc
      rw [← hc] at c2 c21 c22
      generalize nthB fb k=y at c1 c11 c12 c2 c21 c22
      obtain⟨p1,p2,p3⟩:=y
      simp only at c1 c11 c12 c2 c21 c22
      clear hall hlt hk hbr hc
      go_wp2
      go_quiet (fail)
      go_wp2
      refine⟨⟨k+1,HLT.out,by simp,fun j hj=>?_,drewS HBR.out _⟩,measZ2 HLT.out⟩
      by_cases e:j=k
      ·subst e;exact HC.out
      ·exact HALL.out j (by omega)
     ·have HNE:=hide (HNB.out k hc)
      generalize nthB fb k=y1 at c1 c11 c12 hc
      generalize nthB gb k=y2 at c2 c21 c22 hc
      obtain⟨p1,p2,p3⟩:=y1
      obtain⟨q1,q2,q3⟩:=y2
      simp only at c1 c11 c12 c2 c21 c22
      have hcase:(p1==q1)=false∨(p1=q1∧(p2==q2)=false)∨(p1=q1∧p2=q2∧(p3==q3)=false):=by
       by_cases h1:p1=q1
       ·by_cases h2:p2=q2
        ·by_cases h3:p3=q3
         ·exact absurd (by rw [h1,h2,h3]) hc
         ·exact .inr (.inr ⟨h1,h2,by simpa using h3⟩)
        ·exact .inr (.inl ⟨h1,by simpa using h2⟩)
       ·exact .inl (by simpa using h1)
      clear hall hlt hk hbr hc
      rcases hcase with h1 | ⟨rfl,h1⟩ | ⟨rfl,rfl,h1⟩
      all_goals
       go_wp2
       go_quiet (fail)
       go_wp2
       go_ret
       exact⟨⟨false,rfl,fun h=>Bool.noConfusion h,fun h=>absurd (HI.out.1 h).2 HNE.out⟩,HBA.out.trans ((drewS HBR.out _).mono HBA.out.size)⟩
    ·have e:nb=k:=by omega
     subst e
     have HBE:=hide (HEB.out (by first | exact rfl | trivial) hall)
     clear hall hk hbr hlt a0 a1 a2 b0 b1 b2
     go_wp2_with fail
     go_ret
     exact⟨⟨true,rfl,fun _=>HI.out.2 ⟨HPE.out,HBE.out⟩,fun _=>rfl⟩,HBA.out.trans (HBR.out.mono HBA.out.size)⟩
theorem nthF_of_mem {fs:List FuncT} {f:FuncT} (h:f∈fs):∃ j,j<fs.length∧nthF fs j=f:=by
 obtain⟨j,hj,e⟩:=List.getElem_of_mem h
 exact⟨j,hj,by simp [nthF,List.getD,hj,e]⟩
def BoolQ (e:Ending) (P:Prop):Prop:=∃ r,e=.returned (.bool r)∧(r=true↔P)
set_option maxHeartbeats 16000000 in
theorem refKnown14_any (gen bnd:Int) (a:Option Addr) (n c:Nat) (l:List InstT) (fv:Value) (f:FuncT) (w:World) (hv:InstsV w a l) (hok:InstsOk l) (hl:l.length=n) (hn:40 * n≤140737488351232) (b0:0≤bnd) (b1:bnd<4294967296) (hf:FnR w fv f) (h0:(layE bnd l).1=0) :
  Calls Tryz.prog 67 #[modV gen bnd a n c,fv] w fun e w'=>BoolQ e (f∈cutTo l l.length)∧Below w.heap.size w w':=by
 have HF:=hide fun wx (h:Below w.heap.size w wx)=>hf.below h
 obtain⟨xp,cp,xq,cq,rfl,_,_⟩:=hf.form
 obtain⟨fi,fa,fp,fb,fe⟩:=f
 simp only at *
 obtain⟨X,hX⟩:∃ X,((w.alloc (.cells #[.int .u32 gen,.int .u32 bnd,.slice a n c] 25)).alloc (.cells #[.int .u32 fi,.int .i64 fa,.slice xp fp.length cp,.slice xq fb.length cq,.int .i64 fe] 29))=X:=⟨_,rfl⟩
 have hba:Below w.heap.size w X:=by rw [← hX];exact ((Below.refl _ w).alloc (Nat.le_refl _) _).alloc (by simp) _
 have k0:X.heap[w.heap.size]?=some (.cells #[.int .u32 gen,.int .u32 bnd,.slice a n c] 25 (0,0)):=by rw [← hX];exact allocOld (allocNew w _ rfl) _
 have k1:X.heap[w.heap.size+1]?=some (.cells #[.int .u32 fi,.int .i64 fa,.slice xp fp.length cp,.slice xq fb.length cq,.int .i64 fe] 29 (0,0)):=by rw [← hX];exact allocNew _ _ (by simp)
 have hcu:=refCut5_any gen bnd a n c l X (hv.below hba) hok hl hn b0 b1
 have HFE:=hide (few_cut h0)
 have HBA:=hide hba
 have HLY:=hide h0
 have K1:=hide k1
 obtain⟨fs,hfs⟩:∃ fs,cutTo l l.length=fs:=⟨_,rfl⟩
 have HIN:Hid (∀ j,j<fs.length→nthF fs j=(fi,fa,fp,fb,fe)→(fi,fa,fp,fb,fe)∈fs):=fun j h1 h2=>h2 ▸ nthF_mem h1
 have HNO:Hid ((∀ j,j<fs.length→¬ nthF fs j=(fi,fa,fp,fb,fe))→¬ (fi,fa,fp,fb,fe)∈fs):=fun h h2=>by
  obtain⟨j,h3,h4⟩:=nthF_of_mem h2
  exact h j h3 h4
 have HFS:=hide hfs
 rw [hfs] at HFE
 rw [hfs]
 clear hf hv hok hl hn b0 b1 h0 hfs hba
 unfold modV at *
 have m0:=(one_block k0).1 0
 have m1:=(one_block k0).1 1
 have m2:=(one_block k0).1 2
 unfold CutQ at hcu
 subst hX
 clear k0 k1
 go_enter Tryz.func67,Tryz.ntmps67
 go_wp2_with fail
 generalize World.alloc (World.alloc w _) _=X at *
 generalize w.heap.size+1=B1 at *
 refine hcu.mono ?_
 rintro e w2 ⟨cv,rfl,hb2,hcut⟩
 have hcut:=(hcut.resolve_left (fun h=>h.1 HLY.out)).2
 rw [HFS.out] at hcut
 have hlz:(((layE bnd l).2:Nat):Int)=0:=by rw [(layE_ok HLY.out).2.2];rfl
 rw [HLY.out,hlz]
 have hrd:=FuncsAt.readV hcut
 obtain⟨fx,fc,rfl,hA⟩:=hrd
 have hrd:FuncsR w2 (.slice fx fs.length fc) fs:=⟨fx,fc,rfl,hA⟩
 have HB2:=hide (HBA.out.trans (hb2.mono HBA.out.size))
 have HK1:=hide ((hb2.block _ (Array.getElem?_eq_some_iff.1 K1.out).1).trans K1.out)
 have hab:Below w2.heap.size w2 (w2.alloc (.cells #[.int .i64 0,.int .i64 0] 33)):=(Below.refl _ w2).alloc (Nat.le_refl _) _
 have HB3:=hide (HB2.out.trans (hab.mono HB2.out.size))
 have HRD:=hide (hrd.below hab)
 have HK3:=hide (allocOld HK1.out (.cells #[.int .i64 0,.int .i64 0] 33))
 generalize hmf:fs.length=mf at *
 have HM:=hide hmf
 clear hcu hcut hlz hA hrd hb2 hab hmf m0 m1 m2 HK1 HB2 K1
 go_wp2_with fail
 generalize World.alloc w2 _=W at *
 go_loopw [7] (fun i wr=>∃ k:Nat,k≤mf∧i=.int .i64 k∧(∀ j,j<k→¬ nthF fs j=(fi,fa,fp,fb,fe))∧Below W.heap.size W wr) (fun i _=>mf - (intOf i).toNat)
 case atStart=>exact⟨0,Nat.zero_le _,rfl,fun j h=>absurd h (Nat.not_lt_zero j),Below.refl _ _⟩
 case round =>
  obtain⟨k,hk,rfl,hno,hbr⟩:=hrel
  have HNR:=hide hno
  have HBR:=hide hbr
  by_cases hlt:k<mf
  ·obtain⟨F,a0,a1,a2,a3,a4,rfl,hF,q0,q1,q2,q3,q4,hfn⟩:=funcsR_at (HRD.out.below hbr) HFE.out HM.out hlt
   have hki:(k:Int)<(mf:Int):=by omega
   have hk0:(0:Int)≤(k:Int):=by omega
   have hk1:=(hbr.block _ (Array.getElem?_eq_some_iff.1 HK3.out).1).trans HK3.out
   have HLT:=hide hlt
   have hmb:mf≤1048576:=by have:=HFE.out.1;have:=HM.out;omega
   have hw:=wrapJ hlt hmb
   have LC:Hid (∀ w':World,Below wr.heap.size wr w'→w'.cell? ⟨B1,0,none⟩=some (.int .u32 fi)∧w'.cell? ⟨B1,1,none⟩=some (.int .i64 fa)∧w'.cell? ⟨B1,2,none⟩=some (.slice xp fp.length cp)∧w'.cell? ⟨B1,3,none⟩=some (.slice xq fb.length cq)∧w'.cell? ⟨B1,4,none⟩=some (.int .i64 fe)∧w'.cell? ⟨F,k * 5,none⟩=some a0∧w'.cell? ⟨F,k * 5+1,none⟩=some a1∧w'.cell? ⟨F,k * 5+2,none⟩=some a2∧w'.cell? ⟨F,k * 5+3,none⟩=some a3∧w'.cell? ⟨F,k * 5+4,none⟩=some a4):=fun w' h=>by
    obtain⟨u0,u1,u2,u3,u4⟩:=fiveCells ((h.block _ (Array.getElem?_eq_some_iff.1 hk1).1).trans hk1)
    exact⟨u0,u1,u2,u3,u4,(h.cell (p:=⟨F,k * 5,none⟩) hF).trans q0,(h.cell (p:=⟨F,k * 5+1,none⟩) hF).trans q1,(h.cell (p:=⟨F,k * 5+2,none⟩) hF).trans q2,(h.cell (p:=⟨F,k * 5+3,none⟩) hF).trans q3,(h.cell (p:=⟨F,k * 5+4,none⟩) hF).trans q4⟩
   have HSM:=hide fun wx (hx:Below wr.heap.size wr wx)=>refSame14_any _ _ _ _ wx (hfn.below hx) (HF.out wx ((HB3.out.trans (hbr.mono HB3.out.size)).trans (hx.mono (HB3.out.trans (hbr.mono HB3.out.size)).size)))
   clear hno hlt hk hF q0 q1 q2 q3 q4 hfn hk1 hbr hmb
   go_wp2_with fail
   have hC0:Below wr.heap.size wr wr.drew:=below_drew wr
   have hmix:Tryz.prog.follows .mixedOrders=true:=by kernel_rfl
   refine (wpIn_wide (n:=0)).1 ?_
   refine wpIn_normal (wpIn_region_any hmix (wpAnyE_sound (C:=Below wr.heap.size wr) (E:=fun _=>false) _ _ _ _ ?_))
   change wpAnyE _ _ _ _ _ _ _ _ _ _ _ (World.drew _)
   refine wpAnyE_takeD (i:=0) (some 19) (v:=(.slice (some ⟨F,0,none⟩) mf fc)) (fun _=>trivial) (by kernel_rfl) rfl rfl (by kernel_rfl) (by kernel_rfl) (by kernel_rfl) (by kernel_rfl) (fun _ _ _ h=>by cases h.1) hC0 (Or.inl ⟨by kernel_rfl,fun w' hC=>by obtain⟨e1,e2,e3,e4,e5,e6,e7,e8,e9,e10⟩:=LC.out w' hC;clear hC;go_simp⟩) ?_
   simp only [Act.put,ap1,ap2,ap3]
   refine wpAnyE_takeD (i:=1) (some 20) (v:=(.int .i64 (k:Int))) (fun _=>trivial) (by kernel_rfl) rfl rfl (by kernel_rfl) (by kernel_rfl) (by kernel_rfl) (by kernel_rfl) (fun _ _ _ h=>by cases h.1) hC0 (Or.inl ⟨by kernel_rfl,fun w' hC=>by obtain⟨e1,e2,e3,e4,e5,e6,e7,e8,e9,e10⟩:=LC.out w' hC;clear hC;go_simp⟩) ?_
   simp only [Act.put,ap1,ap2,ap3]
   refine wpAnyE_takeD (i:=2) (some 21) (v:=(.pointer (some ⟨F,k * 5,none⟩))) (fun _=>trivial) (by kernel_rfl) rfl rfl (by kernel_rfl) (by kernel_rfl) (by kernel_rfl) (by kernel_rfl) (fun _ _ _ h=>by cases h.1) hC0 (Or.inl ⟨by kernel_rfl,fun w' hC=>by obtain⟨e1,e2,e3,e4,e5,e6,e7,e8,e9,e10⟩:=LC.out w' hC;clear hC;go_simp⟩) ?_
   simp only [Act.put,ap1,ap2,ap3]
   refine wpAnyE_takeD (i:=3) (some 22) (v:=(.agg #[a0,a1,a2,a3,a4])) (fun _=>trivial) (by kernel_rfl) rfl rfl (by kernel_rfl) (by kernel_rfl) (by kernel_rfl) (by kernel_rfl) (fun _ _ _ h=>by cases h.1) hC0 (Or.inl ⟨by kernel_rfl,fun w' hC=>by obtain⟨e1,e2,e3,e4,e5,e6,e7,e8,e9,e10⟩:=LC.out w' hC;clear hC;go_simp⟩) ?_
   simp only [Act.put,ap1,ap2,ap3]
   refine wpAnyE_takeD (i:=4) (some 23) (v:=(.agg #[.int .u32 fi,.int .i64 fa,.slice xp fp.length cp,.slice xq fb.length cq,.int .i64 fe])) (fun _=>trivial) (by kernel_rfl) rfl rfl (by kernel_rfl) (by kernel_rfl) (by kernel_rfl) (by kernel_rfl) (fun _ _ _ h=>by cases h.1) hC0 (Or.inl ⟨by kernel_rfl,fun w' hC=>by obtain⟨e1,e2,e3,e4,e5,e6,e7,e8,e9,e10⟩:=LC.out w' hC;clear hC;go_simp⟩) ?_
   simp only [Act.put,ap1,ap2,ap3]
   clear LC
   refine wpAnyE_ready (rs:=[5]) (by kernel_rfl) (by simp) ?_
   refine AllE.cons rfl (fun Kk hK=>?_) AllE.nil
   go_simp
   refine⟨trivial,rfl,(callsIn_wide.2 (HSM.out _ hC0)).mono ?_⟩
   rintro e x1 ⟨⟨r,rfl,hr⟩,hb1⟩
   dsimp only
   have hC1:=hC0.trans (hb1.mono hC0.size)
   refine hK _ _ (.inr hC1) ?_
   clear hK Kk
   refine wpAnyE_done (by kernel_rfl) ⟨rfl,?_⟩ _
   rw [then_normalLd]
   have HC1:=hide (HBR.out.trans (hC1.mono HBR.out.size))
   have HR:=hide hr
   clear hC0 hC1 hb1 hmix hr HSM
   cases r with
   | true =>
    have HMM:=hide (HIN.out k HLT.out (HR.out.1 rfl))
    go_wp2_with fail
    go_ret
    exact⟨⟨true,rfl,fun _=>HMM.out,fun _=>rfl⟩,HB3.out.trans (HC1.out.mono HB3.out.size)⟩
   | false =>
    go_wp2_with fail
    refine⟨⟨k+1,HLT.out,by rw [hw];simp,fun j hj=>?_,HC1.out⟩,by rw [hw];exact measZ2 HLT.out⟩
    by_cases e:j=k
    ·subst e;exact fun h=>by have:=HR.out.2 h;cases this
    ·exact HNR.out j (by omega)
  ·have e:mf=k:=by omega
   subst e
   have HNN:=hide (HNO.out hno)
   clear hno hlt hk hbr
   go_wp2_with fail
   go_ret
   exact⟨⟨false,rfl,fun h=>Bool.noConfusion h,fun h=>absurd h HNN.out⟩,HB3.out.trans (HBR.out.mono HB3.out.size)⟩
theorem OwnL.pushA {W w:World} {lo:Nat} {hv:Value} {N:List (List Int)} (hN:OwnL W lo hv N) (hb:Below W.heap.size W w) {v:Value} {l:List Int} (hlo:lo≤W.heap.size) (hvr:w.ownsRow W.heap.size 3 1 v l.length (l.map (Value.int .i64))) :
  ∃ cs,w.ownsRow lo 26 1 hv N.length cs∧∀ (w':World) (hv':Value),(w.grownBy w' hv.ownBlock→(hv'.ownBlock=hv.ownBlock∨∀ g,hv'.ownBlock=some g→w.heap.size≤g)→w'.ownsRow lo 26 1 hv' (N.length+1) (cs++[v])→OwnL w' lo hv' (N++[l])):=by
 obtain⟨V,hV⟩:=hN
 have hV1:RowsX w lo (inL N) (rowL hv V N):=hV.kept (ob:=none) ⟨hb.os,hb.tape,hb.output,hb.size,fun k hk _=>hb.block k hk⟩ (fun g e=>by cases e)
 refine⟨cellsL V N.length,hV1.own none trivial,fun w' hv' hg hvb hh=>⟨fun k=>if k=N.length then v else V k,fun q hq=>?_,fun q q' hq hq' hne g e1 e2=>?_⟩⟩
 ·cases q with
  | none =>
   unfold RowX.own rowL
   simp only [List.length_append,List.length_singleton]
   rw [← cellsL_succ];exact hh
  | some j =>
   have hj:j<(N++[l]).length:=hq
   simp at hj
   by_cases e:j=N.length
   ·subst e
    simp only [RowX.own,rowL,if_pos rfl,rowN_last]
    have:=own_grown hvr hg (fun g e1 e2=>by
     have h1:=(World.ownsRow.lt hvr g e2).1
     have h2:=(World.ownsRow.lt (hV.own none trivial) g e1).2
     omega)
    exact own_mono this hlo
   ·have hjl:j<N.length:=by omega
    simp only [RowX.own,rowL,if_neg e,rowN_app N l j hjl]
    exact own_grown (hV1.own (some j) hjl) hg (fun g e1=>hV1.apart none (some j) trivial hjl (by simp) g e1)
 ·have fresh:∀ g,v.ownBlock=some g→W.heap.size≤g∧g<w.heap.size:=fun g e=>World.ownsRow.lt hvr g e
  have old:∀ q,inL N q→∀ g,(rowL hv V N q).v.ownBlock=some g→g<W.heap.size:=fun q hq g e=>(World.ownsRow.lt (hV.own q hq) g e).2
  have headNew:∀ g,hv'.ownBlock=some g→(hv.ownBlock=some g∨w.heap.size≤g):=fun g e=>by
   rcases hvb with h | h
   ·exact .inl (by rw [← h];exact e)
   ·exact .inr (h g e)
  have rowV:∀ j,j<(N++[l]).length→∀ g,(rowL hv' (fun k=>if k=N.length then v else V k) (N++[l]) (some j)).v.ownBlock=some g→(j=N.length∧v.ownBlock=some g)∨(j<N.length∧(V j).ownBlock=some g):=fun j hj g e=>by
   simp at hj
   by_cases ej:j=N.length
   ·simp [rowL,ej] at e;exact .inl ⟨ej,e⟩
   ·simp [rowL,ej] at e;exact .inr ⟨by omega,e⟩
  have hsz:=hb.size
  have headRow:∀ j,j<(N++[l]).length→hv'.ownBlock=some g→(rowL hv' (fun k=>if k=N.length then v else V k) (N++[l]) (some j)).v.ownBlock=some g→False:=fun j hj k1 k2=>by
   rcases rowV j hj g k2 with ⟨_,k3⟩ | ⟨hjl,k3⟩
   ·have:=fresh g k3
    rcases headNew g k1 with k4 | k4
    ·have:=old none trivial g k4;omega
    ·omega
   ·rcases headNew g k1 with k4 | k4
    ·exact hV.apart none (some j) trivial hjl (by simp) g k4 k3
    ·have:=old (some j) hjl g k3;omega
  cases q with
  | none =>
   cases q' with
   | none=>exact hne rfl
   | some j=>exact headRow j hq' e1 e2
  | some i =>
   cases q' with
   | none=>exact headRow i hq e2 e1
   | some j =>
    rcases rowV i hq g e1 with ⟨ei,k1⟩ | ⟨hi,k1⟩ <;> rcases rowV j hq' g e2 with ⟨ej,k2⟩ | ⟨hj,k2⟩
    ·exact hne (by rw [ei,ej])
    ·have:=fresh g k1;have:=old (some j) hj g k2;omega
    ·have:=fresh g k2;have:=old (some i) hi g k1;omega
    ·exact hV.apart (some i) (some j) hi hj hne g k1 k2
structure RfB (w : World) (B lo : Nat) (N : List (List Int)) : Prop where
  mem : ∃ nv, w.heap[B]? = some (.cells #[nv] 175 (0, 0)) ∧ OwnL w lo nv N
theorem RfB.below {w w':World} {B lo:Nat} {N:List (List Int)} (h:RfB w B lo N) (hb:Below w.heap.size w w'):RfB w' B lo N:=by
 obtain⟨nv,h1,h2⟩:=h.mem
 exact⟨nv,(hb.block _ (Array.getElem?_eq_some_iff.1 h1).1).trans h1,h2.below hb⟩
set_option maxHeartbeats 2000000 in
theorem refIn14_any (a:Option Addr) (n c:Nat) (l:List Int) (x:Int) (w:World) (hv:View .i64 w a l) (hl:l.length=n) (hn:8 * n≤140737488351232):Calls Tryz.prog 121 #[.slice a n c,.int .i64 x] w fun e w'=>e=.returned (.bool (decide (x∈l)))∧w=w':=by
 have HL:=hide hl
 have HV:=hide hv
 have hni:(8:Int) * n≤140737488351232:=by omega
 have HT:Hid (l.take n=l):=List.take_of_length_le (by rw [HL.out];exact Nat.le_refl _)
 have HM:Hid (∀ k,k<n→(x∈l.take (k+1)↔x∈l.take k∨nth l k=x)):=fun k hk=>by
  rw [take_snoc l k (by rw [HL.out];exact hk)];simp [eq_comm]
 have HMM:Hid (∀ k,x∈l.take k→x∈l):=fun k h=>List.mem_of_mem_take h
 generalize hr:decide (x∈l)=r
 have HR:Hid (r=true↔x∈l):=by show _↔_;rw [← hr];simp
 clear hl hv hn hr
 go_enter Tryz.func121,Tryz.ntmps121
 go_wp2_with fail
 go_loopw [5] (fun i wr=>∃ k:Nat,k≤n∧i=.int .i64 k∧¬ x∈l.take k∧wr=w) (fun i _=>n - (intOf i).toNat)
 case atStart=>exact⟨0,Nat.zero_le _,rfl,by simp,rfl⟩
 case round =>
  obtain⟨k,hk,rfl,hnot,rfl⟩:=hrel
  by_cases hlt:k<n
  ·obtain⟨b1,o1,rfl,_,c1⟩:=HV.out k (by rw [HL.out];exact hlt)
   have hki:(k:Int)<(n:Int):=by omega
   have hmk:=HM.out k hlt
   have HLT:=hide hlt
   have HNT:=hide hnot
   clear hk hlt hnot
   generalize nth l k=y at *
   rcases Decidable.em (y=x) with hy | hy
   ·have HPK:=hide (HR.out.2 (HMM.out (k+1) (hmk.2 (.inr hy))))
    have hyy:(y==x)=true:=by simp [hy]
    clear hmk hy
    go_wp2_with fail
    go_ret
    exact⟨by rw [HPK.out];rfl,rfl⟩
   ·have HX:Hid (¬ x∈l.take (k+1)):=fun h=>by rcases hmk.1 h with h | h;exact HNT.out h;exact hy h
    have hyy:(y==x)=false:=by simpa using hy
    clear hmk hy
    go_wp2_with fail
    exact⟨⟨k+1,HLT.out,by simp,HX.out,by first | rfl | trivial⟩,measZ2 HLT.out⟩
  ·have e:n=k:=by omega
   subst e
   rw [HT.out] at hnot
   have HPN:Hid (r=false):=by
    show r=false
    cases r
    ·rfl
    ·exact absurd (HR.out.1 rfl) hnot
   clear hnot hk
   go_wp2_with fail
   go_ret
   exact⟨by rw [HPN.out];rfl,rfl⟩
def RfQ (w w':World) (e:Ending) (N:List (List Int)):Prop :=
 (N.length=0∧e=.returned (.tuple #[.pointer none,.int .i64 2])∧Below w.heap.size w w') ∨
 (4096<N.length∧e=.returned (.tuple #[.pointer none,.int .i64 4])∧Below w.heap.size w w') ∨
 (0<N.length∧N.length≤4096∧¬ Edges N.length N∧e=.returned (.tuple #[.pointer none,.int .i64 141])∧Below w.heap.size w w') ∨
 (0<N.length∧N.length≤4096∧Edges N.length N∧∃ p,e=.returned (.tuple #[.pointer (some ⟨p,0,none⟩),.int .i64 0])∧RfB w' p w.heap.size (N.map onceF)∧w.heap.size≤p∧Below w.heap.size w w')
structure RfS (w wr : World) (k : Nat) (N : List (List Int)) : Prop where
  mem : RfB wr w.heap.size (w.heap.size + 1) ((N.take k).map onceF)
  bel : Below w.heap.size w wr
  ok : ∀ j, j < k → ∀ x ∈ rowN N j, 0 ≤ x ∧ x < (N.length : Int)
theorem RfS.push {w wr w1:World} {k:Nat} {N:List (List Int)} (h:RfS w wr k N) (hk:k<N.length) (hb:Below wr.heap.size wr w1) {v:Value} (hv:w1.ownsRow wr.heap.size 3 1 v (onceF (rowN N k)).length ((onceF (rowN N k)).map (Value.int .i64))) (hok:∀ x∈rowN N k,0≤x∧x<(N.length:Int)) :
  ∃ ah ch cs,w1.heap[w.heap.size]?=some (.cells #[.slice ah k ch] 175 (0,0))∧w1.ownsRow (w.heap.size+1) 26 1 (.slice ah k ch) k cs∧w.heap.size+1≤w1.heap.size ∧
  ∀ (w2:World) (hv':Value),w1.grownBy w2 (Value.slice ah k ch).ownBlock→(hv'.ownBlock=(Value.slice ah k ch).ownBlock∨∀ g,hv'.ownBlock=some g→w1.heap.size≤g)→w2.ownsRow (w.heap.size+1) 26 1 hv' (k+1) (cs++[v])→w2.heap[w.heap.size]?=some (.cells #[.slice ah k ch] 175 (0,0))∧RfS w (w2.setCell ⟨w.heap.size,0,none⟩ hv') (k+1) N:=by
 obtain⟨nv,h1,h2⟩:=h.mem.mem
 have hlen:((N.take k).map onceF).length=k:=by rw [List.length_map,List.length_take];omega
 have hB:=(Array.getElem?_eq_some_iff.1 h1).1
 obtain⟨ah,ch,rfl,_⟩:=h2.head
 rw [hlen] at h1 h2
 obtain⟨cs,o1,hp⟩:=h2.pushA hb (by omega) hv
 rw [hlen] at o1 hp
 have k1:=(hb.block _ hB).trans h1
 refine⟨ah,ch,cs,k1,o1,by have:=hb.size;omega,fun w2 hv' hg hob ho=>?_⟩
 have hlt:∀ j,(Value.slice ah k ch).ownBlock=some j→w.heap.size+1≤j:=fun j e=>(World.ownsRow.lt o1 j e).1
 have k2:=(hg.block w.heap.size (Array.getElem?_eq_some_iff.1 k1).1 (fun e=>by have:=hlt _ e.symm;omega)).trans k1
 have hO:=hp w2 hv' hg hob ho
 have hrow:(N.take k).map onceF++[onceF (rowN N k)]=(N.take (k+1)).map onceF:=by
  rw [List.take_add_one,List.map_append]
  congr 1
  simp [rowN,List.getD,hk]
 rw [hrow] at hO
 have hb1:=h.bel.trans (hb.mono h.bel.size)
 have hb2:=hb1.grown hg hb1.size (fun j e=>by have:=hlt j e;omega)
 refine⟨k2,⟨⟨hv',oneSet k2 hv',hO.kept (grown_setCell w2 w.heap.size 0 hv') (fun g e=>by cases e;omega)⟩,hb2.setCell (by simp) _,fun j hj x hx=>?_⟩⟩
 by_cases e:j=k
 ·subst e;exact hok x hx
 ·exact h.ok j (by omega) x hx
set_option maxHeartbeats 8000000 in
theorem refOf14_any (a:Option Addr) (n c:Nat) (N:List (List Int)) (w:World) (hv:LV w a N) (hl:N.length=n) (hn:24 * n≤140737488351232) (hr:∀ j,8 * (rowN N j).length≤140737488351232) :
  Calls Tryz.prog 71 #[.slice a n c] w fun e w'=>RfQ w w' e N:=by
 subst hl
 by_cases h0:N.length=0
 ·have h0i:((N.length:Int)==0)=true:=by simp [h0]
  go_enter Tryz.func71,Tryz.ntmps71
  go_wp2_with fail
  go_ret2
  exact .inl ⟨h0,rfl,Below.refl _ _⟩
 ·have h0i:((N.length:Int)==0)=false:=by
   have:¬ (N.length:Int)=0:=by omega
   simpa using this
  by_cases h4:4096<N.length
  ·have h4i:(4096:Int)<(N.length:Int):=by omega
   have H4:=hide h4
   clear h4 h0
   go_enter Tryz.func71,Tryz.ntmps71
   go_wp2_with fail
   go_ret2
   exact .inr (.inl ⟨H4.out,rfl,Below.refl _ _⟩)
  ·have h4i:¬ (4096:Int)<(N.length:Int):=by omega
   have hf4:decide ((4096:Int)<(N.length:Int))=false:=decide_eq_false h4i
   have HH:=hide (And.intro h0 h4)
   have HV:=hide hv
   have HR:=hide hr
   have hni:(N.length:Int)≤4096:=by omega
   obtain⟨j0,hj,hy0,hy1,hy2⟩:=info_parts GrLists.info
   have HJ:=hide (And.intro hj (And.intro hy0 (And.intro hy1 hy2)))
   generalize hnn:N.length=n at *
   have HN:=hide hnn
   clear hv hr hn hnn h0 h4 h4i hj hy0 hy1 hy2
   go_enter Tryz.func71,Tryz.ntmps71
   go_wp2_with fail
   have HS0:Hid (RfS w (w.alloc (.cells #[.slice none 0 0] 175)) 0 N):=⟨⟨_,allocNew w _ rfl,by rw [List.take_zero];exact OwnL.nil _ _⟩,(Below.refl _ _).alloc (Nat.le_refl _) _,fun j hj=>by omega⟩
   go_loopw [5] (fun i wr=>∃ k:Nat,k≤n∧i=.int .i64 k∧RfS w wr k N) (fun i _=>n - (intOf i).toNat)
   case atStart=>exact⟨0,Nat.zero_le _,rfl,HS0.out⟩
   case round =>
    obtain⟨k,hk,rfl,hS⟩:=hrel
    clear HS0
    by_cases hlt:k<n
    ·obtain⟨b,off,aj,nj,cj,rfl,hb,hc,hcl,hcc,hvj⟩:=(HV.out.below hS.bel) k (by rw [HN.out];exact hlt)
     have hki:(k:Int)<(n:Int):=by omega
     have hrj:=HR.out k
     rw [hcl] at hrj
     have hnji:(8:Int) * nj≤140737488351232:=by omega
     have HLT:=hide hlt
     have HS:=hide hS
     have HCL:=hide hcl
     have HVJ:=hide hvj
     have HC:=hide (fun wx (h:Below wr.heap.size wr wx)=>(h.cell (p:=⟨b,off+k,none⟩) hb).trans hc)
     clear hS hk hlt hb hcl hcc hvj hrj
     rename World=>wo
     go_wp2_with fail
     go_loopw [6,7] (fun v i wq=>∃ q:Nat,q≤nj∧i=.int .i64 q∧Below wo.heap.size wo wq∧wq.ownsRow wo.heap.size 3 1 v (onceF ((rowN N k).take q)).length ((onceF ((rowN N k).take q)).map (Value.int .i64))∧∀ x∈(rowN N k).take q,0≤x∧x<(n:Int)) (fun _ i _=>nj - (intOf i).toNat)
     case atStart=>exact⟨0,Nat.zero_le _,rfl,Below.refl _ _,World.ownsRow_nil _ _ _ _,fun x hx=>by simp at hx⟩
     case round =>
      obtain⟨q,hq,rfl,hbq,hown,hok⟩:=hrel
      rename World=>wq
      obtain⟨a4,c4,rfl⟩:=own_shapeG hown
      have c1:=HC.out wq hbq
      by_cases hlt:q<nj
      ·have hqR:q<(rowN N k).length:=by rw [HCL.out];exact hlt
       obtain⟨b3,o3,rfl,_,hcq⟩:=(HVJ.out.below hbq) q hqR
       have hqi:(q:Int)<(nj:Int):=by omega
       have HMEM:=hide (nth_memG (rowN N k) q hqR)
       have HSN:=hide (once_snoc (rowN N k) q hqR)
       have HOKN:Hid (0≤nth (rowN N k) q∧nth (rowN N k) q<(n:Int)→∀ x∈(rowN N k).take (q+1),0≤x∧x<(n:Int)):=fun h x hx=>by
        rw [take_snoc _ _ hqR] at hx
        rcases List.mem_append.1 hx with hx | hx
        ·exact hok x hx
        ·simp at hx;subst hx;exact h
       have hzl:=once_len ((rowN N k).take q)
       rw [List.length_take] at hzl
       have HZL:Hid ((onceF ((rowN N k).take q)).length≤q):=by show _≤_;omega
       have HOWN:=hide hown
       have HBQ:=hide hbq
       have HLQ:=hide hlt
       obtain⟨za,zc,hze,hvz,_⟩:=View.ofOwned hown
       cases hze
       have hIN:=refIn14_any a4 _ c4 _ (nth (rowN N k) q) wq hvz rfl (by omega)
       generalize onceF ((rowN N k).take q)=z1 at *
       generalize nth (rowN N k) q=y at *
       clear hqR hown hbq hok hzl hvz hlt hq
       by_cases hy:0≤y∧y<(n:Int)
       ·have d1:decide (y<0)=false:=decide_eq_false (by omega)
        have d2:decide ((n:Int)≤y)=false:=decide_eq_false (by omega)
        have HY:=hide hy
        have HIN2:Hid (∀ b:Bool,decide (y∈z1)=b→onceF ((rowN N k).take (q+1))=if b then z1 else z1++[y]):=fun b hb=>by
         rw [HSN.out];unfold addN
         cases b with
         | true=>rw [if_pos (of_decide_eq_true hb)];rfl
         | false=>rw [if_neg (of_decide_eq_false hb)];rfl
        generalize hbb:decide (y∈z1)=bb at *
        have HE:=hide (HIN2.out bb rfl)
        clear hy hbb HIN2 HSN
        go_wp2_with fail
        refine hIN.mono ?_
        rintro e w5 ⟨rfl,rfl⟩
        clear hIN
        cases bb with
        | true =>
         go_wp2_with fail
         exact⟨⟨q+1,HLQ.out,by simp,HBQ.out,by rw [HE.out];exact HOWN.out,HOKN.out HY.out⟩,measZ2 HLQ.out⟩
        | false =>
         have HOA:=hide (own_below HOWN.out ((Below.refl wq.heap.size wq).alloc (Nat.le_refl _) (.cells #[.int .i64 y] 3)))
         go_wp2_with (at_builtin;refine wpList_app1 rfl (.tmp 51) (.tmp 53) rfl wo.heap.size _ z1 y rfl wq.heap.size rfl (allocNew _ _ rfl) HOA.out (by have:=HZL.out;have:=HLQ.out;omega) (by rw [World.size_alloc];have:=HBQ.out.size;omega) ?_)
         intro g cap w6 ho6 hg6 _
         have hb6:Below wo.heap.size wo w6:=(HBQ.out.alloc HBQ.out.size _).grown hg6 (by rw [World.size_alloc];have:=HBQ.out.size;omega) (fun j e=>(World.ownsRow.lt HOA.out j e).1)
         have HB6:=hide hb6
         have HO6:=hide ho6
         clear hb6 ho6 hg6 HOA
         go_wp2_with fail
         exact⟨⟨q+1,HLQ.out,by simp,HB6.out,by rw [HE.out];simpa using HO6.out,HOKN.out HY.out⟩,measZ2 HLQ.out⟩
       ·have HNE:Hid (¬ Edges N.length N):=fun hE=>by
         have:=hE k y HMEM.out
         rw [HN.out] at this
         exact hy this
        have HB9:=hide (HS.out.bel.trans (HBQ.out.mono HS.out.bel.size))
        have hcase:decide (y<0)=true∨(decide (y<0)=false∧decide ((n:Int)≤y)=true):=by
         by_cases h:y<0
         ·exact .inl (decide_eq_true h)
         ·exact .inr ⟨decide_eq_false h,decide_eq_true (by omega)⟩
        clear hy hIN HSN HOKN
        rcases hcase with hc1 | ⟨hc1,hc2⟩
        all_goals
         go_wp2_with fail
         go_ret2
         exact .inr (.inr (.inl ⟨by have:=HH.out.1;have:=HN.out;omega,by have:=HH.out.2;have:=HN.out;omega,HNE.out,rfl,HB9.out⟩))
      ·have e:nj=q:=by omega
       subst e
       have hrow:(rowN N k).take nj=rowN N k:=List.take_of_length_le (by rw [HCL.out];exact Nat.le_refl _)
       rw [hrow] at hown hok ⊢
       have hba:Below wo.heap.size wo (wq.alloc (.cells #[.slice a4 (onceF (rowN N k)).length c4] 26)):=hbq.alloc hbq.size _
       obtain⟨ah,ch,cs,k1,o1,s1,hp⟩:=HS.out.push (by rw [HN.out];exact HLT.out) hba (own_below hown ((Below.refl wq.heap.size wq).alloc (Nat.le_refl _) _)) (by rw [HN.out];exact hok)
       have HP:=hide hp
       have HO1:=hide o1
       have HS1:=hide s1
       obtain⟨e1,f1⟩:=oneCell k1
       have hBq:w.heap.size<wq.heap.size:=by
        have:=(Array.getElem?_eq_some_iff.1 k1).1
        rw [World.size_alloc] at this
        have h9:=HS.out.bel.size
        obtain⟨nv9,h91,_⟩:=HS.out.mem.mem
        have:=(Array.getElem?_eq_some_iff.1 h91).1
        have:=hbq.size
        omega
       have e0:wq.cell? ⟨w.heap.size,0,none⟩=some (.slice ah k ch):=by
        obtain⟨nv9,h91,_⟩:=HS.out.mem.mem
        have h92:=(hbq.block _ (Array.getElem?_eq_some_iff.1 h91).1).trans h91
        have h93:=allocOld h92 (.cells #[.slice a4 (onceF (rowN N k)).length c4] 26)
        rw [h93] at k1
        cases k1
        exact (oneCell h92).1
       have HK4:Hid (k<4096):=by show _<_;have:=HLT.out;omega
       clear hbq hown hok hrow hba hp o1 s1 k1 hq
       generalize hZZ:(onceF (rowN N k)).length=zz at *
       clear hZZ
       go_wp2_with (at_builtin;refine wpList_append_lies _ rfl (.tmp 59) (.tmp 61) 50 rfl (w.heap.size+1) 26 j0 (.slice none 0 0) 1 24 Tryz.underlying50 HJ.out.1 HJ.out.2.1 HJ.out.2.2.1 HJ.out.2.2.2 rfl (by decide) (.slice ah k ch) k cs rfl HO1.out ⟨wq.heap.size,0,none⟩ 1 1 [.slice a4 zz c4] rfl rfl (World.news_of_block (cs:=#[.slice a4 zz c4]) (t:=26) (fr:=(0,0)) (allocNew _ _ rfl)) (by simp [Value.oneCell']) (by decide) (by unfold maxLen;have:=HK4.out;omega) (by have:=HK4.out;omega) HS1.out (wq.heap.size+1) (by simp) ?_)
       intro g cap w6 ho6 hg6 hgb _
       obtain⟨k6,hS6⟩:=HP.out w6 _ hg6 (by rcases hgb with h | h;exact .inl (by simpa [Value.ownBlock] using h.symm);exact .inr fun g' e'=>by simp [Value.ownBlock] at e';subst e';simp;omega) ho6
       have HS6:=hide hS6
       obtain⟨e6,f6⟩:=oneCell k6
       clear hg6 hgb ho6 hS6 k6 HP HO1 e1 f1 e0
       go_wp2_with fail
       exact⟨⟨k+1,HLT.out,by simp,HS6.out⟩,measZ2 HLT.out⟩
    ·have e:n=k:=by omega
     subst e
     have HS:=hide hS
     clear hS hk
     go_wp2_with fail
     go_ret2
     have hm:=HS.out.mem
     rw [List.take_of_length_le (by rw [HN.out];exact Nat.le_refl _)] at hm
     refine .inr (.inr (.inr ⟨by have:=HH.out.1;have:=HN.out;omega,by have:=HH.out.2;have:=HN.out;omega,fun j x hx=>?_,_,rfl,⟨hm.mem.choose,hm.mem.choose_spec.1,hm.mem.choose_spec.2.mono (by omega)⟩,Nat.le_refl _,HS.out.bel⟩))
     by_cases hj:j<n
     ·exact HS.out.ok j hj x hx
     ·rw [rowN_out _ _ (by rw [HN.out];omega)] at hx;simp at hx
end Go.Proofs.YtlcaedibmlidlaaGreat
