/-
  Texts in one: Ref04Shape, Ref05Check, LayoutCheck.
-/
import Derived.Test.YtlcaedibmlidlaaGreatB21
namespace Go.Proofs.YtlcaedibmlidlaaGreat
open Go.RowKit
set_option linter.unusedVariables false
set_option linter.unusedSimpArgs false
set_option maxRecDepth 10000
set_option maxHeartbeats 4000000 in
theorem refShape4_any (gn b:Int) (ax:Option Addr) (n cx:Nat) (l:List InstT) (w:World) (hv:InstsV w ax l) (hok:InstsOk l) (hl:l.length=n) (hn:40 * n≤140737488351232) (b0:0≤b) (b1:b<4294967296) :
  Calls Tryz.prog 64 #[modV gn b ax n cx] w fun e w'=>e=.returned (.agg #[.int .i64 (shapeE b l).1,.int .i64 ((shapeE b l).2:Int)])∧Below w.heap.size w w':=by
 unfold modV
 have hbel:Below w.heap.size w ((w.alloc (.cells #[.int .u32 gn,.int .u32 b,.slice ax n cx] 25)).alloc (.cells #[.int .i64 0,.int .i64 0] 33)):=((Below.refl _ w).alloc (Nat.le_refl _) _).alloc (by simp) _
 have kM:((w.alloc (.cells #[.int .u32 gn,.int .u32 b,.slice ax n cx] 25)).alloc (.cells #[.int .i64 0,.int .i64 0] 33)).heap[w.heap.size]?=some (.cells #[.int .u32 gn,.int .u32 b,.slice ax n cx] 25 (0,0)):=(Below.heap_alloc _ _ _ (by simp)).trans (alloc_new w _ _)
 have kS:((w.alloc (.cells #[.int .u32 gn,.int .u32 b,.slice ax n cx] 25)).alloc (.cells #[.int .i64 0,.int .i64 0] 33)).heap[w.heap.size+1]?=some (.cells #[.int .i64 0,.int .i64 0] 33 (0,0)):=by simpa using alloc_new (w.alloc (.cells #[.int .u32 gn,.int .u32 b,.slice ax n cx] 25)) #[.int .i64 0,.int .i64 0] 33
 by_cases hb:b=0∨65536<b
 ·have e1:shapeE b l=(24,0):=by unfold shapeE;rw [if_pos hb]
  rw [e1]
  clear hv hok hl e1 kM kS
  by_cases hb0:b=0
  ·subst hb0
   go_enter Tryz.func64,Tryz.ntmps64
   go_wp2
   refine bodyPost_ret (v:=.agg #[.int .i64 24,.int .i64 0]) ?_ rfl ⟨rfl,?_⟩
   ·simp [results,Tryz.results64,go_sem]
   ·exact ((Below.refl _ w).alloc (Nat.le_refl _) _).alloc (by simp) _
  ·have hb0':(b==0)=false:=by simpa using hb0
   have hb1':decide ((65536:Int)<b)=true:=decide_eq_true (by omega)
   clear hb hb0
   go_enter Tryz.func64,Tryz.ntmps64
   go_wp2
   refine bodyPost_ret (v:=.agg #[.int .i64 24,.int .i64 0]) ?_ rfl ⟨rfl,?_⟩
   ·simp [results,Tryz.results64,go_sem]
   ·exact ((Below.refl _ w).alloc (Nat.le_refl _) _).alloc (by simp) _
 ·have hb0':(b==0)=false:=by simp;omega
  have hb1':decide ((65536:Int)<b)=false:=decide_eq_false (by omega)
  obtain⟨R,hR⟩:∃ R,R=shapeE b l:=⟨_,rfl⟩
  rw [← hR]
  have hR0:R=shapeF b 0 (sizeTo (rawsL b l) 0) (l.drop 0):=by rw [hR];unfold shapeE;rw [if_neg hb];rfl
  have HR0:=hide hR0
  have HST:Hid (∀ k,k<n→shapeF b k (sizeTo (rawsL b l) k) (l.drop k)=if rawE (nthI l k) b≠0 then (rawE (nthI l k) b,k) else if 1048576<sizeTo (rawsL b l) (k+1) then (4,k) else shapeF b (k+1) (sizeTo (rawsL b l) (k+1)) (l.drop (k+1))):=fun k hk=>shape_step b l k (by omega)
  have HSZ:Hid (∀ k,k<n→sizeTo (rawsL b l) (k+1)=sizeTo (rawsL b l) k+1+(rawWs (nthI l k) b).length):=fun k hk=>by
   rw [sizeTo_succ _ _ (by rw [rawsL_len];omega),nthR_raws b l k (by omega)]
  have HEN:Hid (∀ k,n≤k→shapeF b k (sizeTo (rawsL b l) k) (l.drop k)=(0,0)):=fun k hk=>shape_end b l k _ (by omega)
  have HV:=hide (hv.below hbel)
  have HBEL:=hide hbel
  have HM:=hide kM
  have HS:=hide kS
  have HL:=hide hl
  have HOK:=hide hok
  have HN:Hid (40 * n≤140737488351232):=hn
  have HBB:Hid (0≤b∧b<4294967296):=⟨b0,b1⟩
  clear hv hok hl hn hb hR hR0 hbel kM kS b0 b1
  go_enter Tryz.func64,Tryz.ntmps64
  go_wp2
  generalize hW:(w.alloc (.cells #[.int .u32 gn,.int .u32 b,.slice ax n cx] 25)).alloc (.cells #[.int .i64 0,.int .i64 0] 33)=W at *
  have sS:=(Array.getElem?_eq_some_iff.1 HS.out).1
  clear hW
  go_loopw [3,4] (fun u i wr=>∃ k:Nat,k≤n∧i=.int .i64 k∧u=.int .i64 (sizeTo (rawsL b l) k:Int)∧Below W.heap.size W wr∧Hid (sizeTo (rawsL b l) k≤1048576)∧Hid (R=shapeF b k (sizeTo (rawsL b l) k) (l.drop k))) (fun _ i _=>n - (intOf i).toNat)
  case atStart=>exact⟨0,Nat.zero_le _,rfl,rfl,Below.refl _ _,by show (5:Nat)≤_;omega,HR0⟩
  case round =>
   obtain⟨k,hk,rfl,rfl,hbr,HLE,HRK⟩:=hrel
   clear HR0
   have kMr:=(hbr.block _ (by omega)).trans HM.out
   have kSr:=(hbr.block _ sS).trans HS.out
   have hvr:=HV.out.below hbr
   have sr:w.heap.size+1<wr.heap.size:=Nat.lt_of_lt_of_le sS hbr.size
   have m2:=(one_block kMr).1 2
   have hfr:=HBEL.out.trans (hbr.mono HBEL.out.size)
   have hkb:(k:Int)<140737488351232:=by have:=HN.out;omega
   by_cases hlt:k<n
   ·have hkl:k<l.length:=by rw [HL.out];exact hlt
    obtain⟨g1,o1,aj,cj,nj,rfl,hg1,p1,p2,p3,p4,p5,p6,p7⟩:=hvr k hkl
    have hki:(k:Int)<(n:Int):=by omega
    have hk0:(0:Int)≤(k:Int):=by omega
    have hS1:=HST.out k hlt
    have hS2:=HSZ.out k hlt
    rw [← HRK.out] at hS1
    have HS1:=hide hS1
    have HS2:=hide hS2
    have a1:=fun s:InC (Below wr.heap.size wr)=>s.cell (p:=⟨w.heap.size,1,none⟩) (by show w.heap.size<_;omega) ((one_block kMr).1 1)
    have a2:=fun s:InC (Below wr.heap.size wr)=>s.cell (p:=⟨w.heap.size,2,none⟩) (by show w.heap.size<_;omega) ((one_block kMr).1 2)
    have q1:=fun s:InC (Below wr.heap.size wr)=>s.cell (p:=⟨g1,o1+k * 4,none⟩) hg1 p1
    have q2:=fun s:InC (Below wr.heap.size wr)=>s.cell (p:=⟨g1,o1+k * 4+1,none⟩) hg1 p2
    have q3:=fun s:InC (Below wr.heap.size wr)=>s.cell (p:=⟨g1,o1+k * 4+2,none⟩) hg1 p3
    have q4:=fun s:InC (Below wr.heap.size wr)=>s.cell (p:=⟨g1,o1+k * 4+3,none⟩) hg1 p4
    have hne:Nonempty (InC (Below wr.heap.size wr)):=⟨⟨wr,Below.refl _ _⟩⟩
    have hbl:=below_drew wr
    have hF:=fun s:InC (Below wr.heap.size wr)=>Calls.inC s (refFault4_any (nthI l k) b aj nj cj s.w (p6.below s.ok) (HOK.out k hkl) p5 HBB.out.1 HBB.out.2)
    have HIK:=hide (HOK.out k hkl)
    have HP:=hide (show wr.cell? ⟨g1,o1+k * 4,none⟩=some (.int .u16 (nthI l k).1)∧wr.cell? ⟨g1,o1+k * 4+1,none⟩=some (.int .u32 (nthI l k).2.1)∧wr.cell? ⟨g1,o1+k * 4+2,none⟩=some (.int .u32 (nthI l k).2.2.1)∧wr.cell? ⟨g1,o1+k * 4+3,none⟩=some (.slice aj nj cj)∧(nthI l k).2.2.2.length=nj∧ArgsV wr aj (nthI l k).2.2.2 from ⟨p1,p2,p3,p4,p5,p6⟩)
    have HMr:=hide kMr
    have HSr:=hide kSr
    clear hS1 hS2 p1 p2 p3 p4 p5 p6 p7 hvr kMr kSr HST HSZ HEN HV HM HS HOK HRK
    generalize hz:nthI l k=z at *
    clear hz
    have hRL:rawE z b=0→(lookF refT z.1).2=true∧rawWs z b=rawL (lookF refT z.1).1 z∧(rawL (lookF refT z.1).1 z).length≤65535:=fun h=>by
     obtain⟨h1,h2,h3⟩:=rawWs_ok h
     have:=faultI_zero h2
     exact⟨h1,h3,by omega⟩
    have HRL:=hide hRL
    clear hRL
    generalize hE:rawE z b=E at *
    clear hE
    obtain⟨zo,zt,zr,zl⟩:=z
    unfold instV at hF
    simp only at *
    go_wp2_with fail
    refine wp_region_class (C:=Below wr.heap.size wr) (by kernel_rfl) (by kernel_rfl) hbl ?_
    repeat (go_big_quiet_step ((go_at_call 115;exact hF _)))
    refine wpQuiet_nil ?_
    rintro _ ⟨s,rfl⟩
    have hbs:=hbr.trans (s.ok.mono hbr.size)
    have hfs:=hfr.trans (s.ok.mono hfr.size)
    have kM3:=(s.ok.block _ (by omega)).trans HMr.out
    have kS3:=(s.ok.block _ sr).trans HSr.out
    have s3:w.heap.size+1<s.w.heap.size:=Nat.lt_of_lt_of_le sr s.ok.size
    have r1:=q1 s
    have r2:=q2 s
    have r3:=q3 s
    have r4:=q4 s
    have r6:=HP.out.2.2.2.2.2.below s.ok
    have sg:g1<s.w.heap.size:=Nat.lt_of_lt_of_le hg1 s.ok.size
    clear hne hF a1 a2 q1 q2 q3 q4 hbr hfr hbl HMr HSr
    generalize s.w=W3 at *
    have m2:=(one_block kM3).1 2
    by_cases hE0:E=0
    ·subst hE0
     obtain⟨t1,t2,t3⟩:=HRL.out (by trivial)
     have hOf:=fun wx=>refOf_any zo wx
     have eV:ofV zo=formV zo (lookF refT zo).1:=by unfold ofV;rw [if_pos t1]
     rw [eV,t1] at hOf
     have H2:=HS2.out
     rw [t2] at H2
     have hRm:=fun (wx:World) (f:Frm) (h:(lookF refT zo).1=f) (hvx:ArgsV wx aj zl)=>refRoom4_any (zo,zt,zr,zl) zo f aj nj cj wx hvx HIK.out HP.out.2.2.2.2.1 (by
      have:(wordsL zl).length≤(rawL (lookF refT zo).1 (zo,zt,zr,zl)).length:=by unfold rawL;simp
      simp only;omega)
     generalize hf:(lookF refT zo).1=f at *
     have hRm':=fun wx=>hRm wx f rfl
     clear hRm hf eV t1 t2
     generalize hLn:(rawL f (zo,zt,zr,zl)).length=ln at *
     clear hLn
     have HT3:=hide t3
     have HH2:=hide H2
     have HRM:=hide hRm'
     clear t3 H2 hRm' HS2
     obtain⟨nm,t,r,fx,rs,mo,pa⟩:=f
     unfold formV at hOf HRM
     unfold instV at HRM
     simp only at hOf HRM
     go_wp2_with fail
     refine (hOf _).mono ?_
     rintro e w4 ⟨rfl,hb4⟩
     have hba:Below w4.heap.size w4 (w4.alloc (.cells #[.int .u16 zo,.string nm,.bool t,.bool r,.string fx,.string rs,.int .i64 mo,.int .u8 pa] 167)):=(Below.refl _ _).alloc (Nat.le_refl _) _
     have hb4a:=hb4.trans (hba.mono hb4.size)
     have kM4:=(hb4a.block _ (by omega)).trans kM3
     have kS4:=(hb4a.block _ s3).trans kS3
     have kF4:=alloc_new w4 #[.int .u16 zo,.string nm,.bool t,.bool r,.string fx,.string rs,.int .i64 mo,.int .u8 pa] 167
     have u1:=(hb4a.cell (p:=⟨g1,o1+k * 4,none⟩) sg).trans r1
     have u2:=(hb4a.cell (p:=⟨g1,o1+k * 4+1,none⟩) sg).trans r2
     have u3:=(hb4a.cell (p:=⟨g1,o1+k * 4+2,none⟩) sg).trans r3
     have u4:=(hb4a.cell (p:=⟨g1,o1+k * 4+3,none⟩) sg).trans r4
     have u6:=r6.below hb4a
     have hbs4:=hbs.trans (hb4a.mono hbs.size)
     have hfs4:=hfs.trans (hb4a.mono hfs.size)
     have sg4:g1<(w4.alloc (.cells #[.int .u16 zo,.string nm,.bool t,.bool r,.string fx,.string rs,.int .i64 mo,.int .u8 pa] 167)).heap.size:=Nat.lt_of_lt_of_le sg hb4a.size
     have sF4:w4.heap.size<(w4.alloc (.cells #[.int .u16 zo,.string nm,.bool t,.bool r,.string fx,.string rs,.int .i64 mo,.int .u8 pa] 167)).heap.size:=by simp
     have s4:w.heap.size+1<(w4.alloc (.cells #[.int .u16 zo,.string nm,.bool t,.bool r,.string fx,.string rs,.int .i64 mo,.int .u8 pa] 167)).heap.size:=Nat.lt_of_lt_of_le s3 hb4a.size
     clear hOf hb4 hba hb4a r1 r2 r3 r4 r6 kM3 kS3 m2 hbs hfs
     go_wp2_with fail
     generalize hW4:w4.alloc (.cells #[.int .u16 zo,.string nm,.bool t,.bool r,.string fx,.string rs,.int .i64 mo,.int .u8 pa] 167)=W4 at *
     clear hW4
     have a2:=fun s:InC (Below W4.heap.size W4)=>s.cell (p:=⟨w.heap.size,2,none⟩) (by show w.heap.size<_;omega) ((one_block kM4).1 2)
     have q1:=fun s:InC (Below W4.heap.size W4)=>s.cell (p:=⟨g1,o1+k * 4,none⟩) sg4 u1
     have q2:=fun s:InC (Below W4.heap.size W4)=>s.cell (p:=⟨g1,o1+k * 4+1,none⟩) sg4 u2
     have q3:=fun s:InC (Below W4.heap.size W4)=>s.cell (p:=⟨g1,o1+k * 4+2,none⟩) sg4 u3
     have q4:=fun s:InC (Below W4.heap.size W4)=>s.cell (p:=⟨g1,o1+k * 4+3,none⟩) sg4 u4
     obtain⟨d0,d1,d2,d3,d4,d5,d6,d7,df⟩:=frm_cells (n:=zo) (f:=(nm,t,r,fx,rs,mo,pa)) kF4
     simp only at d0 d1 d2 d3 d4 d5 d6 d7
     have v0:=fun s:InC (Below W4.heap.size W4)=>s.cell (p:=⟨w4.heap.size,0,none⟩) sF4 d0
     have v1:=fun s:InC (Below W4.heap.size W4)=>s.cell (p:=⟨w4.heap.size,1,none⟩) sF4 d1
     have v2:=fun s:InC (Below W4.heap.size W4)=>s.cell (p:=⟨w4.heap.size,2,none⟩) sF4 d2
     have v3:=fun s:InC (Below W4.heap.size W4)=>s.cell (p:=⟨w4.heap.size,3,none⟩) sF4 d3
     have v4:=fun s:InC (Below W4.heap.size W4)=>s.cell (p:=⟨w4.heap.size,4,none⟩) sF4 d4
     have v5:=fun s:InC (Below W4.heap.size W4)=>s.cell (p:=⟨w4.heap.size,5,none⟩) sF4 d5
     have v6:=fun s:InC (Below W4.heap.size W4)=>s.cell (p:=⟨w4.heap.size,6,none⟩) sF4 d6
     have v7:=fun s:InC (Below W4.heap.size W4)=>s.cell (p:=⟨w4.heap.size,7,none⟩) sF4 d7
     have hne:Nonempty (InC (Below W4.heap.size W4)):=⟨⟨W4,Below.refl _ _⟩⟩
     have hbl:=below_drew W4
     have hM:=fun s:InC (Below W4.heap.size W4)=>Calls.inC s (HRM.out s.w (u6.below s.ok))
     have hsz:=HLE.out
     generalize hszk:sizeTo (rawsL b l) k=szk at *
     have hln:=HT3.out
     have hwr:IntKind.i64.wrap ((szk:Int)+(1+(ln:Int)))=(szk:Int)+(1+(ln:Int)):=by rw [IntKind.wrap_i64];omega
     have hwr2:IntKind.i64.wrap ((szk:Int)+((1+ln:Nat):Int))=(szk:Int)+(1+(ln:Int)):=by rw [IntKind.wrap_i64];omega
     have HSK:=hide hsz
     clear d0 d1 d2 d3 d4 d5 d6 d7 df u1 u2 u3 u4 u6 kF4 hszk hln hsz
     refine wp_region_class (C:=Below W4.heap.size W4) (by kernel_rfl) (by kernel_rfl) hbl ?_
     repeat (go_big_quiet_step ((go_at_call 117;exact hM _)))
     refine wpQuiet_nil ?_
     rintro _ ⟨s,rfl⟩
     have hbs5:=hbs4.trans (s.ok.mono hbs4.size)
     have hfs5:=hfs4.trans (s.ok.mono hfs4.size)
     have kS5:=(s.ok.block _ s4).trans kS4
     have s5:w.heap.size+1<s.w.heap.size:=Nat.lt_of_lt_of_le s4 s.ok.size
     clear hne hM a2 q1 q2 q3 q4 v0 v1 v2 v3 v4 v5 v6 v7 hbs4 hfs4 hbl kM4 kS4
     generalize s.w=W5 at *
     by_cases hgt:1048576<szk+1+ln
     ·have e9:=HS1.out
      rw [if_neg (by simp),HH2.out,if_pos hgt] at e9
      subst e9
      have hd:decide ((1048576:Int)<(szk:Int)+(1+(ln:Int)))=true:=decide_eq_true (by omega)
      obtain⟨mm,mf⟩:=one_block kS5
      have x0:=mm 0
      have x1:=mm 1
      have HB3:=hide (two_put2 kS5 (.int .i64 4) (.int .i64 (k:Int)))
      have HBel:=hide ((hfs5.setCell (p:=⟨w.heap.size+1,0,none⟩) (by simp) (.int .i64 4)).setCell (p:=⟨w.heap.size+1,1,none⟩) (by simp) (.int .i64 (k:Int)))
      clear kS5 mm hfs5 hgt
      go_wp2_with fail
      generalize (W5.setCell _ _).setCell _ _=W9 at *
      obtain⟨hd,_⟩:=one_block HB3.out
      have d0:=hd 0
      have d1:=hd 1
      refine bodyPost_ret (v:=.agg #[.int .i64 4,.int .i64 (k:Int)]) ?_ rfl ⟨rfl,HBel.out⟩
      simp [results,Tryz.results64,go_sem,d0,d1]
     ·have e9:=HS1.out
      rw [if_neg (by simp),HH2.out,if_neg hgt] at e9
      have HE9:=hide e9
      have hd:decide ((1048576:Int)<(szk:Int)+(1+(ln:Int)))=false:=decide_eq_false (by omega)
      have HGT:Hid (szk+1+ln≤1048576):=by show _≤_;omega
      clear e9 hgt
      go_wp2_with fail
      go_roundw
      case rel=>exact⟨k+1,by omega,by go_num,by rw [HH2.out];refine congrArg (Value.int .i64) ?_;omega,hbs5,by show _≤_;rw [HH2.out];exact HGT.out,by show _=_;rw [HH2.out];exact HE9.out⟩
      case measure=>simp [intOf];omega
    ·have hE':(E != 0)=true:=by simp [hE0]
     have e9:=HS1.out
     rw [if_pos hE0] at e9
     subst e9
     obtain⟨mm,mf⟩:=one_block kS3
     have x0:=mm 0
     have x1:=mm 1
     have HB3:=hide (two_put2 kS3 (.int .i64 E) (.int .i64 (k:Int)))
     have HBel:=hide ((hfs.setCell (p:=⟨w.heap.size+1,0,none⟩) (by simp) (.int .i64 E)).setCell (p:=⟨w.heap.size+1,1,none⟩) (by simp) (.int .i64 (k:Int)))
     clear kS3 mm hfs
     go_wp2_with fail
     generalize (W3.setCell _ _).setCell _ _=W9 at *
     obtain⟨hd,_⟩:=one_block HB3.out
     have d0:=hd 0
     have d1:=hd 1
     refine bodyPost_ret (v:=.agg #[.int .i64 E,.int .i64 (k:Int)]) ?_ rfl ⟨rfl,HBel.out⟩
     simp [results,Tryz.results64,go_sem,d0,d1]
   ·obtain rfl:k=n:=by omega
    have e9:=HRK.out
    rw [HEN.out k (Nat.le_refl _)] at e9
    subst e9
    obtain⟨mm,mf⟩:=one_block kSr
    have x0:=mm 0
    have x1:=mm 1
    have HB3:=hide (two_put2 kSr (.int .i64 0) (.int .i64 0))
    have HBel:=hide ((hfr.setCell (p:=⟨w.heap.size+1,0,none⟩) (by simp) (.int .i64 0)).setCell (p:=⟨w.heap.size+1,1,none⟩) (by simp) (.int .i64 0))
    clear kSr mm hfr hvr
    go_wp2_with fail
    generalize (wr.setCell _ _).setCell _ _=W9 at *
    obtain⟨hd,_⟩:=one_block HB3.out
    have d0:=hd 0
    have d1:=hd 1
    refine bodyPost_ret (v:=.agg #[.int .i64 0,.int .i64 0]) ?_ rfl ⟨rfl,HBel.out⟩
    simp [results,Tryz.results64,go_sem,d0,d1]
theorem block_ahead {l:List InstT}:∀ {m:Nat},okTo l m→aheadO l m=248∨aheadO l m=245∨aheadO l m=59→(nthI l (blockAt l (m - 1))).1=248∧1≤blockAt l (m - 1)
 | 0,_,ha=>by unfold aheadO at ha;simp at ha
 | m+1,hok,ha=>by
  have hne:aheadO l (m+1)≠0:=by omega
  obtain⟨_,hop⟩:=ahead_at hne
  rw [Nat.add_sub_cancel] at hop ⊢
  have h8:partI (nthI l m)=8:=by
   unfold aheadO at hne
   split at hne
   ·next h=>have:=h.2;rw [Nat.add_sub_cancel] at this;exact this
   ·exact absurd rfl hne
  have hmay:=hok m (by omega)
  have hparts:∀ i,i<m→partI (nthI l i)≤8:=fun i _=>(partI_eight _).2
  have hmo:modelsN l m≠0:=fun e=>by rw [mayL_noModel (by omega) e] at hmay;cases hmay
  have hm1:1≤m:=by
   rcases Nat.eq_zero_or_pos m with e | e
   ·subst e;exact absurd rfl hmo
   ·exact e
  rw [mayL_eight h8 hparts hmo] at hmay
  by_cases h248:(nthI l m).1=248
  ·rw [(firstB_label hm1 h248).2];exact⟨h248,hm1⟩
  ·have hb:=(firstB_other hm1 h248).2
   rw [hb]
   refine block_ahead (m:=m) (fun i hi=>hok i (by omega)) ?_
   rw [hop] at h248
   rcases ha with ha | ha | ha
   ·exact absurd ha h248
   ·rw [hop,ha] at hmay
    unfold mayF at hmay
    simp at hmay
    rcases hmay.2.1 with h | h
    ·exact .inl h
    ·exact .inr (.inl h)
   ·rw [hop,ha] at hmay
    unfold mayF at hmay
    simp at hmay
    rcases hmay.2.1 with h | h
    ·exact .inl h
    ·exact .inr (.inr h)
theorem refMay_any (l:List InstT) (a:Option Addr) (n c m:Nat) (w:World) (hv:InstsV w a l) (hl:l.length=n) (hn:n≤140737488351232) (hvar:VarsOk l) (hm:m<n) (hok:okTo l m) :
  Calls Tryz.prog 65 #[.slice a n c,.int .i64 m] w fun e w'=>e=.returned (.bool (mayL l m))∧Below w.heap.size w w':=by
 by_cases h8:partI (nthI l m)<8
 ·refine refMay_low l a n c m w hv hl hn hvar hm _ rfl h8 _ ?_
  unfold mayL
  rw [show decide (partI (nthI l m)<8)=true by simpa using h8,Bool.true_or,Bool.and_true]
 ·refine refMay_high l a n c m w hv hl hn hvar hm _ rfl (by omega) (block_ahead hok) _ ?_
  unfold mayL
  rw [show decide (partI (nthI l m)<8)=false by simpa using h8,Bool.false_or,if_neg (by omega),show decide (1<partI (nthI l m))=true by simp;omega,Bool.true_and,Bool.and_assoc]
set_option maxHeartbeats 8000000 in
theorem refCheck5_any (gen bnd:Int) (a:Option Addr) (n c:Nat) (l:List InstT) (w:World) (hv:InstsV w a l) (hok:InstsOk l) (hl:l.length=n) (hn:40 * n≤140737488351232) (b0:0≤bnd) (b1:bnd<4294967296) :
  Calls Tryz.prog 22 #[modV gen bnd a n c] w fun e w'=>e=.returned (.agg #[.int .i64 (layE bnd l).1,.int .i64 ((layE bnd l).2:Int)])∧Below w.heap.size w w':=by
 have hb0:Below w.heap.size w ((w.alloc (.cells #[.int .u32 gen,.int .u32 bnd,.slice a n c] 25)).alloc (.cells #[.int .i64 0,.int .i64 0] 33)):=((Below.refl _ w).alloc (Nat.le_refl _) _).alloc (by simp) _
 have hSh:=refShape4_any gen bnd a n c l _ (hv.below hb0) hok hl hn b0 b1
 have HSF:Hid (∀ E P,shapeE bnd l=(E,P)→(E≠0→layE bnd l=(E,P))∧(E=0→layE bnd l=layF l l.length 0∧l.length≤1048576∧VarsOk l)):=fun E P he=>by
  refine⟨fun h=>?_,fun h=>⟨?_,?_,?_⟩⟩
  ·unfold layE;rw [he,if_pos h]
  ·unfold layE;rw [he,if_neg (by simpa using h)]
  ·exact (shape_few (b:=bnd) (l:=l) (by rw [he];exact h)).1
  ·intro k hk h59
   exact var_args (b:=bnd) (shape_each (by rw [he];exact h) k hk) h59
 generalize hE:shapeE bnd l=E at *
 obtain⟨E,P⟩:=E
 have HSFE:=hide (HSF.out E P rfl)
 obtain⟨L,hLL⟩:∃ L,L=layE bnd l:=⟨_,rfl⟩
 have HLL:=hide hLL
 rw [← hLL]
 have HMB:Hid (((w.alloc (.cells #[.int .u32 gen,.int .u32 bnd,.slice a n c] 25)).alloc (.cells #[.int .i64 0,.int .i64 0] 33)).heap[w.heap.size]?=some (.cells #[.int .u32 gen,.int .u32 bnd,.slice a n c] 25 (0,0))):=by
  show _=_
  rw [Below.heap_alloc _ _ _ (by simp)];exact heap_alloc_new w _
 have HSB:Hid (((w.alloc (.cells #[.int .u32 gen,.int .u32 bnd,.slice a n c] 25)).alloc (.cells #[.int .i64 0,.int .i64 0] 33)).heap[w.heap.size+1]?=some (.cells #[.int .i64 0,.int .i64 0] 33 (0,0))):=by
  have:=heap_alloc_new (w.alloc (.cells #[.int .u32 gen,.int .u32 bnd,.slice a n c] 25)) (.cells #[.int .i64 0,.int .i64 0] 33)
  rw [World.size_alloc] at this
  exact this
 have HLT:Hid (w.heap.size+1<((w.alloc (.cells #[.int .u32 gen,.int .u32 bnd,.slice a n c] 25)).alloc (.cells #[.int .i64 0,.int .i64 0] 33)).heap.size):=by show _<_;simp
 have HB0:=hide hb0
 have HV:=hide (hv.below hb0)
 have HL:=hide hl
 have HRET:Hid (∀ (a':Act) (Z:World),slot a'.tmps 2=.pointer (some ⟨w.heap.size+1,0,none⟩)→a'.defers=[]→Z.heap[w.heap.size+1]?=some (.cells #[.int .i64 L.1,.int .i64 (L.2:Int)] 33 (0,0))→Below w.heap.size w Z→bodyPost Tryz.prog Tryz.f22 (fun e w'=>e=.returned (.agg #[.int .i64 L.1,.int .i64 (L.2:Int)])∧Below w.heap.size w w') .ret a' Z):=by
  intro a' Z q2 q3 q4 q5
  have r6:=run_loadVar_mid (P:=Tryz.prog) Z (w.heap.size+1) 0 33 [.int .i64 L.1,.int .i64 (L.2:Int)] _ (range_of_block q4) Tryz.underlying33 rfl (by kernel_rfl)
  refine bodyPost_ret (v:=.agg #[.int .i64 L.1,.int .i64 (L.2:Int)]) ?_ q3 ⟨rfl,q5⟩
  have hG2:a'.tmps.getD 2 undef=.pointer (some ⟨w.heap.size+1,0,none⟩):=q2
  simp only [results,Tryz.results22,List.mapM_toArray,List.mapM_cons,List.mapM_nil,hG2,asAddr,Sem.run_bind,Sem.run_pure,Result.andThen_ok,bind_assoc,pure_bind,Sem.run_map,map_pure,r6]
  rfl
 unfold modV at *
 clear hb0 HSF hv hok hl hLL hE
 go_enter Tryz.func22,Tryz.ntmps22
 go_wp2_with fail
 generalize (w.alloc (.cells #[.int .u32 gen,.int .u32 bnd,.slice a n c] 25)).alloc (.cells #[.int .i64 0,.int .i64 0] 33)=W0 at *
 refine hSh.mono ?_
 rintro e w1 ⟨rfl,hb1⟩
 have kl:=HLT.out
 have kw:W0.heap.size≤w1.heap.size:=hb1.size
 have m2:=(hb1.cell (p:=⟨w.heap.size,2,none⟩) (show w.heap.size<W0.heap.size by omega)).trans ((one_block HMB.out).1 2)
 have kr:=(hb1.block (w.heap.size+1) HLT.out).trans HSB.out
 obtain⟨cr,fr⟩:=one_block kr
 have r0:=cr 0
 have r1:=cr 1
 have HB1:=hide hb1
 have hHl:w.heap.size<w1.heap.size:=by omega
 have hHl1:w.heap.size+1<w1.heap.size:=by omega
 have FINE:Hid (∀ (X:World) (x y:Int),Below W0.heap.size W0 X→X.heap[w.heap.size+1]?=some (.cells #[.int .i64 0,.int .i64 0] 33 (0,0))→((X.setCell ⟨w.heap.size+1,0,none⟩ (.int .i64 x)).setCell ⟨w.heap.size+1,1,none⟩ (.int .i64 y)).heap[w.heap.size+1]?=some (.cells #[.int .i64 x,.int .i64 y] 33 (0,0))∧Below w.heap.size w ((X.setCell ⟨w.heap.size+1,0,none⟩ (.int .i64 x)).setCell ⟨w.heap.size+1,1,none⟩ (.int .i64 y))):=fun X x y hX hk =>
  ⟨setCells_all (w:=X) [.int .i64 x,.int .i64 y] hk rfl,below_grown (HB0.out.trans (hX.mono HB0.out.size)) (setCells_grown (w.heap.size+1) [.int .i64 x,.int .i64 y] 0 X) (fun g e=>by simp at e;omega)⟩
 clear hSh hb1 cr
 by_cases hE0:E=0
 ·subst hE0
  obtain⟨hLay,hlen,hvar⟩:=HSFE.out.2 rfl
  have HLAY:=hide (HLL.out.trans hLay)
  have HVAR:=hide hvar
  have hn1:n≤1048576:=by rw [← HL.out];exact hlen
  have hb2:Below W0.heap.size W0 (w1.alloc (.cells #[.int .i64 0,.int .i64 P] 33)):=HB1.out.alloc HB1.out.size _
  have HV1:=hide (HV.out.below hb2)
  have HB2:=hide hb2
  have HK2:Hid ((w1.alloc (.cells #[.int .i64 0,.int .i64 P] 33)).heap[w.heap.size+1]?=some (.cells #[.int .i64 0,.int .i64 0] 33 (0,0))):=(Below.heap_alloc _ _ _ hHl1).trans kr
  have HS2:Hid (w.heap.size+1<(w1.alloc (.cells #[.int .i64 0,.int .i64 P] 33)).heap.size):=by show _<_;rw [World.size_alloc];omega
  clear hLay hlen hvar HSFE HLL kr r0 r1 fr hb2 HB1 HV
  go_wp2_with fail
  clear m2
  generalize w1.alloc (.cells #[.int .i64 0,.int .i64 P] 33)=W1 at *
  have hls:=HS2.out
  go_loopw [5,6] (fun d i wr=>∃ k:Nat,k≤n∧i=.int .i64 k∧d=.int .i64 (modelsN l k)∧okTo l k∧Below W1.heap.size W1 wr) (fun _ i _=>n - (intOf i).toNat)
  case atStart=>exact⟨0,Nat.zero_le _,rfl,rfl,okTo_zero l,Below.refl _ _⟩
  case round =>
   obtain⟨k,hk,rfl,rfl,hok,hbr⟩:=hrel
   have HOK:=hide hok
   have HB:=hide hbr
   have hml:=modelsN_le l k
   have kr:=(hbr.block (w.heap.size+1) hls).trans HK2.out
   obtain⟨cr,fr⟩:=one_block kr
   have r0:=cr 0
   have r1:=cr 1
   have HKR:=hide kr
   have hlr:w.heap.size+1<wr.heap.size:=Nat.lt_of_lt_of_le hls hbr.size
   clear cr kr hok
   by_cases hlt:k<n
   ·have hk0:(0:Int)≤(k:Int):=by omega
    have hki:(k:Int)<(n:Int):=by omega
    have hM:=refMay_any l a n c k wr (HV1.out.below hbr) HL.out (by omega) HVAR.out hlt HOK.out
    cases hmay:mayL l k with
    | false =>
     rw [hmay] at hM
     have HLE:Hid (L=(50,k)):=by
      refine HLAY.out.trans ?_
      rw [layF_wrong ⟨HOK.out,.inl ⟨by rw [HL.out];exact hlt,hmay⟩⟩,if_neg (fun e=>by have:=partAt_nine e;rw [HL.out] at this;omega)]
     clear hmay hbr
     go_wp2_with fail
     refine hM.mono ?_
     rintro e w2 ⟨rfl,hb2⟩
     have kr2:=(hb2.block (w.heap.size+1) hlr).trans HKR.out
     obtain⟨cr2,fr2⟩:=one_block kr2
     have t0:=cr2 0
     have t1:=cr2 1
     have HKR2:=hide kr2
     have HBX:=hide (HB2.out.trans ((HB.out.trans (hb2.mono HB.out.size)).mono HB2.out.size))
     clear hM hb2 cr2 kr2 r0 r1 fr
     go_wp2_with fail
     obtain⟨f1,f2⟩:=FINE.out w2 50 k HBX.out HKR2.out
     exact HRET.out _ _ rfl rfl (by rw [HLE.out];exact f1) f2
    | true =>
     rw [hmay] at hM
     have HOK2:=hide (HOK.out.snoc hmay)
     obtain⟨g1,o1,aj,cj,nj,ha,hg1,p1,p2,p3,p4,p5,p6,p7⟩:=HV1.out.below hbr k (by rw [HL.out];exact hlt)
     have hP:=fun wy (hy:Below wr.heap.size wr wy)=>refPart_any (nthI l k) aj nj cj wy (p6.below hy) p5 (fun e=>by rw [← p5];exact HVAR.out k (by rw [HL.out];exact hlt) e)
     unfold instV at hP
     have HP:=hide hP
     have hMn:Hid (modelsN l (k+1)=modelsN l k+(if partI (nthI l k)=1 then 1 else 0)):=rfl
     subst ha
     clear hmay hbr p5 p6 p7 hP
     generalize modelsN l k=d at *
     generalize partI (nthI l k)=q at *
     go_wp2_with fail
     refine hM.mono ?_
     rintro e w2 ⟨rfl,hb2⟩
     replace p1:=(hb2.cell (p:=⟨g1,o1+k * 4,none⟩) hg1).trans p1
     replace p2:=(hb2.cell (p:=⟨g1,o1+k * 4+1,none⟩) hg1).trans p2
     replace p3:=(hb2.cell (p:=⟨g1,o1+k * 4+2,none⟩) hg1).trans p3
     replace p4:=(hb2.cell (p:=⟨g1,o1+k * 4+3,none⟩) hg1).trans p4
     have hg2:g1<w2.heap.size:=Nat.lt_of_lt_of_le hg1 hb2.size
     have hP2:=HP.out w2 hb2
     have HBX:=hide (HB.out.trans (hb2.mono HB.out.size))
     clear hM hb2 r0 r1 fr HP hg1
     by_cases hq:q=1
     ·have hM2:=hide (show modelsN l (k+1)=d+1 by rw [hMn.out,if_pos hq])
      have hqq:(q==1)=true:=by simpa using hq
      clear hMn
      go_wp2_with fail
      refine hP2.mono ?_
      rintro e w3 ⟨rfl,hb3⟩
      have HB3:=hide (HBX.out.trans (hb3.mono HBX.out.size))
      clear hP2 p1 p2 p3 p4 hb3
      go_wp2_with fail
      go_roundw
      case rel=>exact⟨k+1,by omega,by go_num,by rw [hM2.out];go_num,HOK2.out,HB3.out⟩
      case measure=>simp [intOf];omega
     ·have hM2:=hide (show modelsN l (k+1)=d by rw [hMn.out,if_neg hq];rfl)
      have hqq:(q==1)=false:=by simpa using hq
      clear hMn
      go_wp2_with fail
      refine hP2.mono ?_
      rintro e w3 ⟨rfl,hb3⟩
      have HB3:=hide (HBX.out.trans (hb3.mono HBX.out.size))
      clear hP2 p1 p2 p3 p4 hb3
      go_wp2_with fail
      go_roundw
      case rel=>exact⟨k+1,by omega,by go_num,by rw [hM2.out],HOK2.out,HB3.out⟩
      case measure=>simp [intOf];omega
   ·obtain rfl:k=n:=by omega
    have hknl:l.length=k:=HL.out
    have HEND:Hid (layF l l.length 0=if openE l then (51,k) else (0,0)):=by
     have e:=layF_ok k 0 0 (by rw [Nat.zero_add];exact HOK.out)
     rw [Nat.add_zero,Nat.zero_add] at e
     show _=_
     rw [hknl,e];rfl
    have HOE:Hid (openE l=(decide (modelsN l k=0) || decide (aheadO l k≠0∧aheadO l k≠56))):=by show _=_;unfold openE;rw [hknl]
    have HBX:=hide (HB2.out.trans (hbr.mono HB2.out.size))
    by_cases hd:modelsN l k=0
    ·have HLE:Hid (L=(51,k)):=by
      refine HLAY.out.trans (HEND.out.trans ?_)
      rw [HOE.out,hd];rfl
     rw [hd]
     clear hbr hknl hd
     go_wp2_with fail
     obtain⟨f1,f2⟩:=FINE.out wr 51 k HBX.out HKR.out
     exact HRET.out _ _ rfl rfl (by rw [HLE.out];exact f1) f2
    ·have hkp:0<k:=by
      rcases Nat.eq_zero_or_pos k with e | e
      ·subst e;exact absurd rfl hd
      ·exact e
     have hdd:(((modelsN l k:Nat):Int)==0)=false:=by simpa using hd
     have hk1:(k:Int) - 1=((k - 1:Nat):Int):=by omega
     have hk2:(0:Int)≤((k - 1:Nat):Int):=by omega
     have hk3:((k - 1:Nat):Int)<(k:Int):=by omega
     obtain⟨g1,o1,aj,cj,nj,ha,hg1,p1,p2,p3,p4,p5,p6,p7⟩:=HV1.out.below hbr (k - 1) (by rw [HL.out];omega)
     have hP:=refPart_any (nthI l (k - 1)) aj nj cj wr p6 p5 (fun e=>by rw [← p5];exact HVAR.out (k - 1) (by rw [HL.out];omega) e)
     unfold instV at hP
     have hAE:Hid (aheadO l k=if partI (nthI l (k - 1))=8 then (nthI l (k - 1)).1 else 0):=hide (by unfold aheadO;simp [hkp])
     have HOP:Hid (partI (nthI l (k - 1))=8→(nthI l (k - 1)).1≠0):=fun h=>op_ne_zero h
     have HD:=hide hd
     subst ha
     clear hbr hknl hd p5 p6 p7
     generalize modelsN l k=d at *
     generalize partI (nthI l (k - 1))=q at *
     generalize (nthI l (k - 1))=z at *
     generalize aheadO l k=ah at *
     by_cases hq:q=8
     ·have hqq:(q==8)=true:=by simpa using hq
      obtain rfl:ah=z.1:=by rw [hAE.out,if_pos hq]
      have hz0:=HOP.out hq
      by_cases h56:z.1=56
      ·have HLE:Hid (L=(0,0)):=by
        refine HLAY.out.trans (HEND.out.trans ?_)
        rw [HOE.out];simp [HD.out,h56]
       rw [h56] at p1 hP
       go_wp2_with fail
       refine hP.mono ?_
       rintro e w2 ⟨rfl,hb2⟩
       replace p1:=(hb2.cell (p:=⟨g1,o1+(k - 1) * 4,none⟩) hg1).trans p1
       have hg2:g1<w2.heap.size:=Nat.lt_of_lt_of_le hg1 hb2.size
       have kr2:=(hb2.block (w.heap.size+1) hlr).trans HKR.out
       obtain⟨cr2,fr2⟩:=one_block kr2
       have t0:=cr2 0
       have t1:=cr2 1
       have HKR2:=hide kr2
       have HBY:=hide (HBX.out.trans (hb2.mono HBX.out.size))
       clear hP hb2 cr2 kr2 r0 r1 fr p2 p3 p4
       go_wp2_with fail
       obtain⟨f1,f2⟩:=FINE.out w2 0 0 HBY.out HKR2.out
       exact HRET.out _ _ rfl rfl (by rw [HLE.out];exact f1) f2
      ·have HLE:Hid (L=(51,k)):=by
        refine HLAY.out.trans (HEND.out.trans ?_)
        rw [HOE.out];simp [hz0,h56]
       have h56':(z.1 != 56)=true:=by simpa using h56
       clear h56 hz0
       generalize z.1=zo at *
       go_wp2_with fail
       refine hP.mono ?_
       rintro e w2 ⟨rfl,hb2⟩
       replace p1:=(hb2.cell (p:=⟨g1,o1+(k - 1) * 4,none⟩) hg1).trans p1
       have hg2:g1<w2.heap.size:=Nat.lt_of_lt_of_le hg1 hb2.size
       have kr2:=(hb2.block (w.heap.size+1) hlr).trans HKR.out
       obtain⟨cr2,fr2⟩:=one_block kr2
       have t0:=cr2 0
       have t1:=cr2 1
       have HKR2:=hide kr2
       have HBY:=hide (HBX.out.trans (hb2.mono HBX.out.size))
       clear hP hb2 cr2 kr2 r0 r1 fr p2 p3 p4
       go_wp2_with fail
       obtain⟨f1,f2⟩:=FINE.out w2 51 k HBY.out HKR2.out
       exact HRET.out _ _ rfl rfl (by rw [HLE.out];exact f1) f2
     ·have hqq:(q==8)=false:=by simpa using hq
      obtain rfl:ah=0:=by rw [hAE.out,if_neg hq]
      have HLE:Hid (L=(0,0)):=by
       refine HLAY.out.trans (HEND.out.trans ?_)
       rw [HOE.out];simp [HD.out]
      go_wp2_with fail
      refine hP.mono ?_
      rintro e w2 ⟨rfl,hb2⟩
      have kr2:=(hb2.block (w.heap.size+1) hlr).trans HKR.out
      obtain⟨cr2,fr2⟩:=one_block kr2
      have t0:=cr2 0
      have t1:=cr2 1
      have HKR2:=hide kr2
      have HBY:=hide (HBX.out.trans (hb2.mono HBX.out.size))
      clear hP hb2 cr2 kr2 r0 r1 fr p1 p2 p3 p4
      go_wp2_with fail
      obtain⟨f1,f2⟩:=FINE.out w2 0 0 HBY.out HKR2.out
      exact HRET.out _ _ rfl rfl (by rw [HLE.out];exact f1) f2
 ·have hE1:(E != 0)=true:=by simpa using hE0
  have HLE:Hid (L=(E,P)):=HLL.out.trans (HSFE.out.1 hE0)
  have HKR:=hide kr
  clear hE0
  go_wp2_with fail
  obtain⟨f1,f2⟩:=FINE.out w1 E P HB1.out HKR.out
  refine HRET.out _ _ rfl rfl ?_ (f2.alloc f2.size _)
  rw [HLE.out]
  refine (Below.heap_alloc _ _ _ ?_).trans f1
  rw [World.size_setCell,World.size_setCell];exact hHl1
theorem kept_walk (w W0 w1:World) (hb0:Below w.heap.size w W0) (hb1:Below W0.heap.size W0 w1) (ins fv:Value) (ps:Nat→Int) (k pt kd e1 e2:Int) :
  let W2:=(w1.alloc (.cells #[.slice none 0 0,.int .i64 0,.int .i64 0,.int .i64 0,.int .i64 0,.int .i64 0,.int .i64 0,.int .i64 0,.int .i64 0,.int .i64 0,.int .i64 0,.int .i64 0,.int .i64 0,.int .i64 0,.int .i64 0,.int .i64 0,.int .i64 0,.int .i64 0,.int .i64 0,.int .i64 0,.int .i64 0,.slice none 0 0,.int .i64 0,.int .u8 0,.int .u16 0] 86)).alloc (.cells #[.int .i64 0,.int .i64 0] 33)
  let X:=W2.setCells w1.heap.size 0 [ins,.int .i64 (ps 0),.int .i64 (ps 1),.int .i64 (ps 2),.int .i64 (ps 3),.int .i64 (ps 4),.int .i64 (ps 5),.int .i64 (ps 6),.int .i64 (ps 7),.int .i64 (ps 8),.int .i64 (ps 9),.int .i64 (ps 10),.int .i64 (ps 11),.int .i64 (ps 12),.int .i64 (ps 13),.int .i64 (ps 14),.int .i64 (ps 15),.int .i64 (ps 16),.int .i64 (ps 17),.int .i64 (ps 18),.int .i64 (ps 19),fv,.int .i64 k,.int .u8 pt,.int .u16 kd]
  W2.there w1.heap.size 0 25∧X.heap[w1.heap.size]?=some (.cells #[ins,.int .i64 (ps 0),.int .i64 (ps 1),.int .i64 (ps 2),.int .i64 (ps 3),.int .i64 (ps 4),.int .i64 (ps 5),.int .i64 (ps 6),.int .i64 (ps 7),.int .i64 (ps 8),.int .i64 (ps 9),.int .i64 (ps 10),.int .i64 (ps 11),.int .i64 (ps 12),.int .i64 (ps 13),.int .i64 (ps 14),.int .i64 (ps 15),.int .i64 (ps 16),.int .i64 (ps 17),.int .i64 (ps 18),.int .i64 (ps 19),fv,.int .i64 k,.int .u8 pt,.int .u16 kd] 86 (0,0))∧X.heap[w1.heap.size+1]?=some (.cells #[.int .i64 0,.int .i64 0] 33 (0,0))∧Below W0.heap.size W0 X∧w1.heap.size+1<X.heap.size∧w1.grownBy X none:=by
 intro W2 X
 have h1:W2.heap[w1.heap.size]?=some (.cells #[.slice none 0 0,.int .i64 0,.int .i64 0,.int .i64 0,.int .i64 0,.int .i64 0,.int .i64 0,.int .i64 0,.int .i64 0,.int .i64 0,.int .i64 0,.int .i64 0,.int .i64 0,.int .i64 0,.int .i64 0,.int .i64 0,.int .i64 0,.int .i64 0,.int .i64 0,.int .i64 0,.int .i64 0,.slice none 0 0,.int .i64 0,.int .u8 0,.int .u16 0] 86 (0,0)):=by
  show (World.alloc _ _).heap[_]?=_
  rw [Below.heap_alloc _ _ _ (by simp)];exact heap_alloc_new w1 _
 have h2:W2.heap[w1.heap.size+1]?=some (.cells #[.int .i64 0,.int .i64 0] 33 (0,0)):=by
  have:=heap_alloc_new (w1.alloc (.cells #[.slice none 0 0,.int .i64 0,.int .i64 0,.int .i64 0,.int .i64 0,.int .i64 0,.int .i64 0,.int .i64 0,.int .i64 0,.int .i64 0,.int .i64 0,.int .i64 0,.int .i64 0,.int .i64 0,.int .i64 0,.int .i64 0,.int .i64 0,.int .i64 0,.int .i64 0,.int .i64 0,.int .i64 0,.slice none 0 0,.int .i64 0,.int .u8 0,.int .u16 0] 86)) (.cells #[.int .i64 0,.int .i64 0] 33)
  rw [World.size_alloc] at this
  exact this
 have hg:=setCells_grown w1.heap.size [ins,.int .i64 (ps 0),.int .i64 (ps 1),.int .i64 (ps 2),.int .i64 (ps 3),.int .i64 (ps 4),.int .i64 (ps 5),.int .i64 (ps 6),.int .i64 (ps 7),.int .i64 (ps 8),.int .i64 (ps 9),.int .i64 (ps 10),.int .i64 (ps 11),.int .i64 (ps 12),.int .i64 (ps 13),.int .i64 (ps 14),.int .i64 (ps 15),.int .i64 (ps 16),.int .i64 (ps 17),.int .i64 (ps 18),.int .i64 (ps 19),fv,.int .i64 k,.int .u8 pt,.int .u16 kd] 0 W2
 have hs:W2.heap.size=w1.heap.size+2:=by show (World.alloc _ _).heap.size=_;simp
 have hb2:Below w1.heap.size w1 W2:=((Below.refl _ w1).alloc (Nat.le_refl _) _).alloc (by simp) _
 have hx:w1.grownBy X none:=⟨hg.os.trans hb2.os,hg.tape.trans hb2.tape,hg.output.trans hb2.output,Nat.le_trans hb2.size hg.size,fun i hi _=>(hg.block i (by omega) (by simp;omega)).trans (hb2.block i hi)⟩
 refine⟨there_of_block h1 25 rfl,setCells_all [ins,.int .i64 (ps 0),.int .i64 (ps 1),.int .i64 (ps 2),.int .i64 (ps 3),.int .i64 (ps 4),.int .i64 (ps 5),.int .i64 (ps 6),.int .i64 (ps 7),.int .i64 (ps 8),.int .i64 (ps 9),.int .i64 (ps 10),.int .i64 (ps 11),.int .i64 (ps 12),.int .i64 (ps 13),.int .i64 (ps 14),.int .i64 (ps 15),.int .i64 (ps 16),.int .i64 (ps 17),.int .i64 (ps 18),.int .i64 (ps 19),fv,.int .i64 k,.int .u8 pt,.int .u16 kd] h1 rfl,(hg.block _ (by omega) (by simp)).trans h2,below_grown hb1 hx (fun g e=>by cases e),Nat.lt_of_lt_of_le (show w1.heap.size+1<W2.heap.size by omega) hg.size,hx⟩
end Go.Proofs.YtlcaedibmlidlaaGreat
